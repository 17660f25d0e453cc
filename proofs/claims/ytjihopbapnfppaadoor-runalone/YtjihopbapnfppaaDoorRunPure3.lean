/- A thread that is alone runs as its calls do, one behind the other. No statement of the seat is proved here; no condition. -/
import Derived.Test.YtjihopbapnfppaaDoorRunPure2
import Derived.Test.YtjihopbapnfppaaDoorVmKeepPure
set_option linter.unusedSimpArgs false
set_option linter.unusedVariables false
namespace Go.Baro

def vs (l : Lv) (w : List Int) : Vs := ⟨l.p, l.r, w, l.t⟩
theorem ply_one (m : Mc) (st n k : Nat) (g : Gs) : plyG m st (List.replicate (k + 1) n) g = plyG m (st + 1) (List.replicate k n) (actG m g st n) := rfl
theorem ply_more (m : Mc) (st n a b : Nat) (g : Gs) : plyG m st (List.replicate (a + b) n) g = plyG m (st + a) (List.replicate b n) (plyG m st (List.replicate a n) g) := by
  rw [← List.replicate_append_replicate, plyG_append, List.length_replicate]

/-- A thread within a call goes on as the run of its code does. -/
theorem live_run (m : Mc) (n bg : Nat) : ∀ (f st : Nat) (l : Lv) (g : Gs), g.th n = ⟨some l, bg⟩ → l.p ≠ l.c.length →
    ((rn l.c f (vs l g.w)).2.2 = 11 → (plyG m st (List.replicate f n) g).out = g.out) ∧
    ((rn l.c f (vs l g.w)).2.2 ≠ 11 → ∃ st', 1 ≤ (rn l.c f (vs l g.w)).2.1 ∧ (rn l.c f (vs l g.w)).2.1 ≤ f ∧
      (plyG m st (List.replicate (rn l.c f (vs l g.w)).2.1 n) g).w = (rn l.c f (vs l g.w)).1.w ∧ (plyG m st (List.replicate (rn l.c f (vs l g.w)).2.1 n) g).th n = ⟨none, bg⟩ ∧
      (plyG m st (List.replicate (rn l.c f (vs l g.w)).2.1 n) g).out = g.out ++ [⟨st', n, bg - 1, true, (rn l.c f (vs l g.w)).2.2, (rn l.c f (vs l g.w)).1.t⟩])
  | 0, st, l, g, hg, hp => by
    have e : rn l.c 0 (vs l g.w) = (vs l g.w, 0, 11) := rn_over hp
    rw [e]
    exact ⟨fun _ => rfl, fun h => absurd rfl h⟩
  | f + 1, st, l, g, hg, hp => by
    obtain ⟨o, ho, h1, h2⟩ := rn_one l.c f (vs l g.w) hp
    have ha : actG m g st n = actL g st n bg l g.out := by unfold actG; rw [hg]
    have hx : exc l g.w = (⟨l.c, (stp l.c.length o (vs l g.w)).1.p, (stp l.c.length o (vs l g.w)).1.r, (stp l.c.length o (vs l g.w)).1.t⟩, (stp l.c.length o (vs l g.w)).1.w, (stp l.c.length o (vs l g.w)).2, decide ((stp l.c.length o (vs l g.w)).2 ≠ 0 ∨ (stp l.c.length o (vs l g.w)).1.p = l.c.length)) := by
      unfold exc
      rw [if_neg hp, ho]
      rfl
    by_cases he : (stp l.c.length o (vs l g.w)).2 = 0
    · by_cases hq : (stp l.c.length o (vs l g.w)).1.p = l.c.length
      · -- it ends with this instruction
        have hr : rn l.c (f + 1) (vs l g.w) = ((stp l.c.length o (vs l g.w)).1, 1, 0) := by
          rw [h2 he, rn_end hq]
        have hA : actL g st n bg l g.out = ⟨(stp l.c.length o (vs l g.w)).1.w, putT g.th n ⟨none, bg⟩, g.out ++ [⟨st, n, bg - 1, true, (stp l.c.length o (vs l g.w)).2, (stp l.c.length o (vs l g.w)).1.t⟩]⟩ := by
          unfold actL
          rw [hx]
          dsimp only
          rw [if_pos (by simp [hq])]
        rw [hr]
        refine ⟨fun h => absurd (show (0 : Int) = 11 from h) (by decide), fun _ => ⟨st, Nat.le_refl _, by dsimp only; omega, ?_⟩⟩
        show (actG m g st n).w = _ ∧ (actG m g st n).th n = _ ∧ (actG m g st n).out = _
        rw [ha, hA, he]
        exact ⟨rfl, by simp [putT], rfl⟩
      · have hA : actL g st n bg l g.out = ⟨(stp l.c.length o (vs l g.w)).1.w, putT g.th n ⟨some ⟨l.c, (stp l.c.length o (vs l g.w)).1.p, (stp l.c.length o (vs l g.w)).1.r, (stp l.c.length o (vs l g.w)).1.t⟩, bg⟩, g.out⟩ := by
          unfold actL
          rw [hx]
          dsimp only
          rw [if_neg (by simp [hq, he])]
        obtain ⟨i1, i2⟩ := live_run m n bg f (st + 1) ⟨l.c, (stp l.c.length o (vs l g.w)).1.p, (stp l.c.length o (vs l g.w)).1.r, (stp l.c.length o (vs l g.w)).1.t⟩ (actL g st n bg l g.out) (by rw [hA]; simp [putT]) hq
        have hv : vs ⟨l.c, (stp l.c.length o (vs l g.w)).1.p, (stp l.c.length o (vs l g.w)).1.r, (stp l.c.length o (vs l g.w)).1.t⟩ (actL g st n bg l g.out).w = (stp l.c.length o (vs l g.w)).1 := by rw [hA]; rfl
        rw [hv] at i1 i2
        dsimp only at i1 i2
        rw [h2 he]
        refine ⟨fun h => ?_, fun h => ?_⟩
        · rw [ply_one, ha, i1 h, hA]
        · obtain ⟨st', k1, k2, k3, k4, k5⟩ := i2 h
          refine ⟨st', by dsimp only; omega, by dsimp only; omega, ?_⟩
          dsimp only
          rw [ply_one, ha]
          refine ⟨k3, k4, ?_⟩
          rw [k5, hA]
    · have hA : actL g st n bg l g.out = ⟨(stp l.c.length o (vs l g.w)).1.w, putT g.th n ⟨none, bg⟩, g.out ++ [⟨st, n, bg - 1, true, (stp l.c.length o (vs l g.w)).2, (stp l.c.length o (vs l g.w)).1.t⟩]⟩ := by
        unfold actL
        rw [hx]
        dsimp only
        rw [if_pos (by simp [he])]
      rw [h1 he]
      refine ⟨fun h => ?_, fun _ => ⟨st, Nat.le_refl _, by dsimp only; omega, ?_⟩⟩
      · rcases stp_err l.c.length o (vs l g.w) with h' | h' | h' <;> (dsimp only at h; omega)
      · show (actG m g st n).w = _ ∧ (actG m g st n).th n = _ ∧ (actG m g st n).out = _
        rw [ha, hA]
        exact ⟨rfl, by simp [putT], rfl⟩

/-- A call of a thread that is alone, with L steps left (at least one). -/
theorem call_run {m : Mc} {n L st i : Nat} {g : Gs} {c : Cl} (hg : g.th n = ⟨none, i⟩) (hc : (m.ts[n]?.getD [])[i]? = some c) (hL : 1 ≤ L) :
    let code := m.cs[c.k.toNat]?.getD []
    let q := rn code L (st0 c.ar g.w)
    (q.2.2 = 11 → (plyG m st (List.replicate L n) g).out = g.out ++ [⟨st, n, i, false, 0, []⟩]) ∧
    (q.2.2 ≠ 11 → ∃ st', max 1 q.2.1 ≤ L ∧ (plyG m st (List.replicate (max 1 q.2.1) n) g).w = q.1.w ∧ (plyG m st (List.replicate (max 1 q.2.1) n) g).th n = ⟨none, i + 1⟩ ∧
      (plyG m st (List.replicate (max 1 q.2.1) n) g).out = g.out ++ [⟨st, n, i, false, 0, []⟩, ⟨st', n, i, true, q.2.2, q.1.t⟩]) := by
  intro code q
  obtain ⟨L', rfl⟩ : ∃ L', L = L' + 1 := ⟨L - 1, by omega⟩
  have ha : actG m g st n = actL g st n (i + 1) (live code c.ar) (g.out ++ [⟨st, n, i, false, 0, []⟩]) := by
    unfold actG
    rw [hg]
    dsimp only
    rw [hc]
  -- the step at which it begins is as a step of a thread that is within it
  have hb : actG m g st n = actG m { g with th := putT g.th n ⟨some (live code c.ar), i + 1⟩, out := g.out ++ [⟨st, n, i, false, 0, []⟩] } st n := by
    rw [ha]
    unfold actG
    have : putT g.th n ⟨some (live code c.ar), i + 1⟩ n = ⟨some (live code c.ar), i + 1⟩ := by simp [putT]
    dsimp only
    rw [this]
    dsimp only
    unfold actL
    dsimp only
    have hpp : ∀ t, putT (putT g.th n ⟨some (live code c.ar), i + 1⟩) n t = putT g.th n t := fun t => by
      funext k; unfold putT; by_cases h : k = n <;> simp [h]
    rw [hpp, hpp]
  have hp : ∀ k, plyG m st (List.replicate (k + 1) n) g = plyG m st (List.replicate (k + 1) n) { g with th := putT g.th n ⟨some (live code c.ar), i + 1⟩, out := g.out ++ [⟨st, n, i, false, 0, []⟩] } := fun k => by
    rw [ply_one, hb, ← ply_one]
  have hv : vs (live code c.ar) g.w = st0 c.ar g.w := rfl
  by_cases he : code = []
  · have hq : q = (st0 c.ar g.w, 0, 0) := rn_end (by rw [he]; rfl) _
    rw [hq]
    refine ⟨fun h => absurd (show (0 : Int) = 11 from h) (by decide), fun _ => ⟨st, by show max 1 0 ≤ _; omega, ?_⟩⟩
    show (actG m g st n).w = _ ∧ (actG m g st n).th n = _ ∧ (actG m g st n).out = _
    have hx : exc (live code c.ar) g.w = (live code c.ar, g.w, 0, true) := by unfold exc; rw [if_pos (by rw [he]; rfl)]
    rw [ha]
    unfold actL
    rw [hx]
    exact ⟨rfl, by simp [putT], by simp [st0, live]⟩
  · obtain ⟨i1, i2⟩ := live_run m n (i + 1) (L' + 1) st (live code c.ar) { g with th := putT g.th n ⟨some (live code c.ar), i + 1⟩, out := g.out ++ [⟨st, n, i, false, 0, []⟩] } (by simp [putT]) (by
      show (0 : Int) ≠ code.length
      have : code.length ≠ 0 := fun h => he (List.eq_nil_of_length_eq_zero h)
      omega)
    rw [show vs (live code c.ar) ({ g with th := putT g.th n ⟨some (live code c.ar), i + 1⟩, out := g.out ++ [⟨st, n, i, false, 0, []⟩] } : Gs).w = st0 c.ar g.w from rfl] at i1 i2
    refine ⟨fun h => by rw [hp]; exact i1 h, fun h => ?_⟩
    obtain ⟨st', k1, k2, k3, k4, k5⟩ := i2 h
    have hk1 : 1 ≤ q.2.1 := k1
    have hmx : max 1 q.2.1 = (q.2.1 - 1) + 1 := by omega
    refine ⟨st', by rw [Nat.max_eq_right hk1]; exact k2, ?_⟩
    rw [hmx, hp, show q.2.1 - 1 + 1 = q.2.1 by omega]
    refine ⟨k3, k4, ?_⟩
    rw [show (plyG m st (List.replicate q.2.1 n) _).out = _ from k5, List.append_assoc]
    rfl
end Go.Baro
