/- Of this claim's own texts these, one behind the other: RunPure3, RunPure5, BesidePure, KeepMovedW, LinPure, CountSpec, CuSpec, RunSpecW. No statement of the seat is proved here; no condition but those that stand at the theorems. -/
import Derived.Test.YtnchgdjdfhfedaaGreatDoorPartAH
import Derived.Test.YtnchgdjdfhfedaaGreatDoorPartAG
import Derived.Test.YtnchgdjdfhfedaaGreatDoorPartAE
import Derived.Test.YtnchgdjdfhfedaaGreatDoorPartAD
import Derived.Test.YtnchgdjdfhfedaaGreatDoorRows
import Derived.RowKit
set_option linter.unusedSimpArgs false
set_option linter.unusedVariables false
namespace Go.Baro

def vs (l : Lv) (w : List Int) : Vs := ⟨l.p, l.r, w, l.t⟩
theorem ply_one (m : Mc) (st n k : Nat) (g : Gs) : plyG m st (List.replicate (k + 1) n) g = plyG m (st + 1) (List.replicate k n) (actG m g st n) := rfl
theorem ply_more (m : Mc) (st n a b : Nat) (g : Gs) : plyG m st (List.replicate (a + b) n) g = plyG m (st + a) (List.replicate b n) (plyG m st (List.replicate a n) g) := by
  rw [← List.replicate_append_replicate, plyG_append, List.length_replicate]

/-- A thread within a call goes on as the run of its code does. -/
theorem live_run (m : Mc) (n bg : Nat) : ∀ (f st : Nat) (l : Lv) (g : Gs), g.th n = ⟨some l, bg⟩ → l.p ≠ l.c.length →
    ((rn l.c f (vs l g.w)).2.2 = 11 → (plyG m st (List.replicate f n) g).out = g.out) ∧
    ((rn l.c f (vs l g.w)).2.2 ≠ 11 → ∃ st', 1 ≤ (rn l.c f (vs l g.w)).2.1 ∧ (rn l.c f (vs l g.w)).2.1 ≤ f ∧
      (plyG m st (List.replicate (rn l.c f (vs l g.w)).2.1 n) g).w = (rn l.c f (vs l g.w)).1.w ∧ (plyG m st (List.replicate (rn l.c f (vs l g.w)).2.1 n) g).th n = ⟨none, bg⟩ ∧
      (plyG m st (List.replicate (rn l.c f (vs l g.w)).2.1 n) g).out = g.out ++ [⟨st', n, bg - 1, true, (rn l.c f (vs l g.w)).2.2, (rn l.c f (vs l g.w)).1.t⟩])
  | 0, st, l, g, hg, hp => by
    have e : rn l.c 0 (vs l g.w) = (vs l g.w, 0, 11) := rn_over hp
    rw [e]
    exact ⟨fun _ => rfl, fun h => absurd rfl h⟩
  | f + 1, st, l, g, hg, hp => by
    obtain ⟨o, ho, h1, h2⟩ := rn_one l.c f (vs l g.w) hp
    have ha : actG m g st n = actL g st n bg l g.out := by unfold actG; rw [hg]
    have hx : exc l g.w = (⟨l.c, (stp l.c.length o (vs l g.w)).1.p, (stp l.c.length o (vs l g.w)).1.r, (stp l.c.length o (vs l g.w)).1.t⟩, (stp l.c.length o (vs l g.w)).1.w, (stp l.c.length o (vs l g.w)).2, decide ((stp l.c.length o (vs l g.w)).2 ≠ 0 ∨ (stp l.c.length o (vs l g.w)).1.p = l.c.length)) := by
      unfold exc
      rw [if_neg hp, ho]
      rfl
    by_cases he : (stp l.c.length o (vs l g.w)).2 = 0
    · by_cases hq : (stp l.c.length o (vs l g.w)).1.p = l.c.length
      · -- it ends with this instruction
        have hr : rn l.c (f + 1) (vs l g.w) = ((stp l.c.length o (vs l g.w)).1, 1, 0) := by
          rw [h2 he, rn_end hq]
        have hA : actL g st n bg l g.out = ⟨(stp l.c.length o (vs l g.w)).1.w, putT g.th n ⟨none, bg⟩, g.out ++ [⟨st, n, bg - 1, true, (stp l.c.length o (vs l g.w)).2, (stp l.c.length o (vs l g.w)).1.t⟩]⟩ := by
          unfold actL
          rw [hx]
          dsimp only
          rw [if_pos (by simp [hq])]
        rw [hr]
        refine ⟨fun h => absurd (show (0 : Int) = 11 from h) (by decide), fun _ => ⟨st, Nat.le_refl _, by dsimp only; omega, ?_⟩⟩
        show (actG m g st n).w = _ ∧ (actG m g st n).th n = _ ∧ (actG m g st n).out = _
        rw [ha, hA, he]
        exact ⟨rfl, by simp [putT], rfl⟩
      · have hA : actL g st n bg l g.out = ⟨(stp l.c.length o (vs l g.w)).1.w, putT g.th n ⟨some ⟨l.c, (stp l.c.length o (vs l g.w)).1.p, (stp l.c.length o (vs l g.w)).1.r, (stp l.c.length o (vs l g.w)).1.t⟩, bg⟩, g.out⟩ := by
          unfold actL
          rw [hx]
          dsimp only
          rw [if_neg (by simp [hq, he])]
        obtain ⟨i1, i2⟩ := live_run m n bg f (st + 1) ⟨l.c, (stp l.c.length o (vs l g.w)).1.p, (stp l.c.length o (vs l g.w)).1.r, (stp l.c.length o (vs l g.w)).1.t⟩ (actL g st n bg l g.out) (by rw [hA]; simp [putT]) hq
        have hv : vs ⟨l.c, (stp l.c.length o (vs l g.w)).1.p, (stp l.c.length o (vs l g.w)).1.r, (stp l.c.length o (vs l g.w)).1.t⟩ (actL g st n bg l g.out).w = (stp l.c.length o (vs l g.w)).1 := by rw [hA]; rfl
        rw [hv] at i1 i2
        dsimp only at i1 i2
        rw [h2 he]
        refine ⟨fun h => ?_, fun h => ?_⟩
        · rw [ply_one, ha, i1 h, hA]
        · obtain ⟨st', k1, k2, k3, k4, k5⟩ := i2 h
          refine ⟨st', by dsimp only; omega, by dsimp only; omega, ?_⟩
          dsimp only
          rw [ply_one, ha]
          refine ⟨k3, k4, ?_⟩
          rw [k5, hA]
    · have hA : actL g st n bg l g.out = ⟨(stp l.c.length o (vs l g.w)).1.w, putT g.th n ⟨none, bg⟩, g.out ++ [⟨st, n, bg - 1, true, (stp l.c.length o (vs l g.w)).2, (stp l.c.length o (vs l g.w)).1.t⟩]⟩ := by
        unfold actL
        rw [hx]
        dsimp only
        rw [if_pos (by simp [he])]
      rw [h1 he]
      refine ⟨fun h => ?_, fun _ => ⟨st, Nat.le_refl _, by dsimp only; omega, ?_⟩⟩
      · rcases stp_err l.c.length o (vs l g.w) with h' | h' | h' <;> (dsimp only at h; omega)
      · show (actG m g st n).w = _ ∧ (actG m g st n).th n = _ ∧ (actG m g st n).out = _
        rw [ha, hA]
        exact ⟨rfl, by simp [putT], rfl⟩

/-- A call of a thread that is alone, with L steps left (at least one). -/
theorem call_run {m : Mc} {n L st i : Nat} {g : Gs} {c : Cl} (hg : g.th n = ⟨none, i⟩) (hc : (m.ts[n]?.getD [])[i]? = some c) (hL : 1 ≤ L) :
    let code := m.cs[c.k.toNat]?.getD []
    let q := rn code L (st0 c.ar g.w)
    (q.2.2 = 11 → (plyG m st (List.replicate L n) g).out = g.out ++ [⟨st, n, i, false, 0, []⟩]) ∧
    (q.2.2 ≠ 11 → ∃ st', max 1 q.2.1 ≤ L ∧ (plyG m st (List.replicate (max 1 q.2.1) n) g).w = q.1.w ∧ (plyG m st (List.replicate (max 1 q.2.1) n) g).th n = ⟨none, i + 1⟩ ∧
      (plyG m st (List.replicate (max 1 q.2.1) n) g).out = g.out ++ [⟨st, n, i, false, 0, []⟩, ⟨st', n, i, true, q.2.2, q.1.t⟩]) := by
  intro code q
  obtain ⟨L', rfl⟩ : ∃ L', L = L' + 1 := ⟨L - 1, by omega⟩
  have ha : actG m g st n = actL g st n (i + 1) (live code c.ar) (g.out ++ [⟨st, n, i, false, 0, []⟩]) := by
    unfold actG
    rw [hg]
    dsimp only
    rw [hc]
  -- the step at which it begins is as a step of a thread that is within it
  have hb : actG m g st n = actG m { g with th := putT g.th n ⟨some (live code c.ar), i + 1⟩, out := g.out ++ [⟨st, n, i, false, 0, []⟩] } st n := by
    rw [ha]
    unfold actG
    have : putT g.th n ⟨some (live code c.ar), i + 1⟩ n = ⟨some (live code c.ar), i + 1⟩ := by simp [putT]
    dsimp only
    rw [this]
    dsimp only
    unfold actL
    dsimp only
    have hpp : ∀ t, putT (putT g.th n ⟨some (live code c.ar), i + 1⟩) n t = putT g.th n t := fun t => by
      funext k; unfold putT; by_cases h : k = n <;> simp [h]
    rw [hpp, hpp]
  have hp : ∀ k, plyG m st (List.replicate (k + 1) n) g = plyG m st (List.replicate (k + 1) n) { g with th := putT g.th n ⟨some (live code c.ar), i + 1⟩, out := g.out ++ [⟨st, n, i, false, 0, []⟩] } := fun k => by
    rw [ply_one, hb, ← ply_one]
  have hv : vs (live code c.ar) g.w = st0 c.ar g.w := rfl
  by_cases he : code = []
  · have hq : q = (st0 c.ar g.w, 0, 0) := rn_end (by rw [he]; rfl) _
    rw [hq]
    refine ⟨fun h => absurd (show (0 : Int) = 11 from h) (by decide), fun _ => ⟨st, by show max 1 0 ≤ _; omega, ?_⟩⟩
    show (actG m g st n).w = _ ∧ (actG m g st n).th n = _ ∧ (actG m g st n).out = _
    have hx : exc (live code c.ar) g.w = (live code c.ar, g.w, 0, true) := by unfold exc; rw [if_pos (by rw [he]; rfl)]
    rw [ha]
    unfold actL
    rw [hx]
    exact ⟨rfl, by simp [putT], by simp [st0, live]⟩
  · obtain ⟨i1, i2⟩ := live_run m n (i + 1) (L' + 1) st (live code c.ar) { g with th := putT g.th n ⟨some (live code c.ar), i + 1⟩, out := g.out ++ [⟨st, n, i, false, 0, []⟩] } (by simp [putT]) (by
      show (0 : Int) ≠ code.length
      have : code.length ≠ 0 := fun h => he (List.eq_nil_of_length_eq_zero h)
      omega)
    rw [show vs (live code c.ar) ({ g with th := putT g.th n ⟨some (live code c.ar), i + 1⟩, out := g.out ++ [⟨st, n, i, false, 0, []⟩] } : Gs).w = st0 c.ar g.w from rfl] at i1 i2
    refine ⟨fun h => by rw [hp]; exact i1 h, fun h => ?_⟩
    obtain ⟨st', k1, k2, k3, k4, k5⟩ := i2 h
    have hk1 : 1 ≤ q.2.1 := k1
    have hmx : max 1 q.2.1 = (q.2.1 - 1) + 1 := by omega
    refine ⟨st', by rw [Nat.max_eq_right hk1]; exact k2, ?_⟩
    rw [hmx, hp, show q.2.1 - 1 + 1 = q.2.1 by omega]
    refine ⟨k3, k4, ?_⟩
    rw [show (plyG m st (List.replicate q.2.1 n) _).out = _ from k5, List.append_assoc]
    rfl
end Go.Baro

set_option linter.unusedSimpArgs false
set_option linter.unusedVariables false
namespace Go.Baro

theorem stp_wl (n : Nat) (o : Ins) (s : Vs) : (stp n o s).1.w.length = s.w.length :=
  stp_any (P := fun r => r.1.w.length = s.w.length) (fun _ _ => rfl) (fun _ _ _ _ => by simp) (fun _ _ => rfl) (fun _ _ _ => rfl) (fun _ _ => rfl)
theorem exc_wl (l : Lv) (w : List Int) : (exc l w).2.1.length = w.length := by
  unfold exc
  split
  · rfl
  · exact stp_wl _ _ _
theorem actL_wl (g : Gs) (st n bg : Nat) (l : Lv) (o : List Ev) : (actL g st n bg l o).w.length = g.w.length := by
  unfold actL
  dsimp only
  split <;> exact exc_wl _ _
theorem actG_wl (m : Mc) (g : Gs) (st n : Nat) : (actG m g st n).w.length = g.w.length := by
  unfold actG
  split
  · exact actL_wl _ _ _ _ _ _
  · split
    · rfl
    · exact actL_wl _ _ _ _ _ _
theorem plyG_wl (m : Mc) : ∀ (l : List Nat) (st : Nat) (g : Gs), (plyG m st l g).w.length = g.w.length
  | [], _, _ => rfl
  | n :: l, st, g => (plyG_wl m l (st + 1) _).trans (actG_wl m g st n)
/-- A run that is checked and found right. -/
theorem vmR_good {c : List Ins} {ar ws : List Int} {L : Nat} (hc : okC c) (ha : ar.length ≤ 8) (hw : ws.length ≤ 200) (hL : L ≤ 6000) : vmR c ar ws L = ((rn c L (st0 ar ws)).1.t, (rn c L (st0 ar ws)).1.w, (rn c L (st0 ar ws)).2.1, (rn c L (st0 ar ws)).2.2) := by
  have hx : vmX c ar ws L = 0 := by
    unfold vmX
    rw [if_neg (by simpa using hc), if_neg (by omega), if_neg (by omega)]
  unfold vmR
  rw [if_pos hx, Int.toNat_natCast]
/-- Thread 0 has done i calls in k steps. -/
structure At (M : Mc) (i k : Nat) (g : Gs) : Prop where
  g_ : g = plyG M 0 (List.replicate k 0) (g0 M)
  th : g.th 0 = ⟨none, i⟩
  out : g.out.length = 2 * i
theorem At.init (M : Mc) : At M 0 0 (g0 M) := ⟨rfl, rfl, rfl⟩
section
variable {M : Mc} {i k L : Nat} {g : Gs} {c : Cl}
theorem At.more (h : At M i k g) (L : Nat) : plyG M 0 (List.replicate (k + L) 0) (g0 M) = plyG M k (List.replicate L 0) g := by
  rw [ply_more, Nat.zero_add, ← h.g_]
theorem At.done (h : At M i k g) (hc : (M.ts[0]?.getD [])[i]? = none) (L : Nat) : plyG M 0 (List.replicate (k + L) 0) (g0 M) = g := by
  rw [h.more]
  have hact : ∀ st, actG M g st 0 = g := fun st => by
    unfold actG
    rw [h.th]
    dsimp only
    rw [hc]
  have : ∀ (L st : Nat), plyG M st (List.replicate L 0) g = g := by
    intro L
    induction L with
    | zero => intro st; rfl
    | succ L ih => intro st; rw [ply_one, hact]; exact ih _
  exact this L k
theorem At.call (h : At M i k g) (hc : (M.ts[0]?.getD [])[i]? = some c) (hL : 1 ≤ L) :
    ((rn (M.cs[c.k.toNat]?.getD []) L (st0 c.ar g.w)).2.2 = 11 → (plyG M 0 (List.replicate (k + L) 0) (g0 M)).out.length = 2 * i + 1) ∧
    ((rn (M.cs[c.k.toNat]?.getD []) L (st0 c.ar g.w)).2.2 ≠ 11 → ∃ g', At M (i + 1) (k + max 1 (rn (M.cs[c.k.toNat]?.getD []) L (st0 c.ar g.w)).2.1) g' ∧ max 1 (rn (M.cs[c.k.toNat]?.getD []) L (st0 c.ar g.w)).2.1 ≤ L ∧ g'.w = (rn (M.cs[c.k.toNat]?.getD []) L (st0 c.ar g.w)).1.w ∧
      ∃ st st' es, (plyG M 0 (List.replicate (k + L) 0) (g0 M)).out = g.out ++ ([⟨st, 0, i, false, 0, []⟩, ⟨st', 0, i, true, (rn (M.cs[c.k.toNat]?.getD []) L (st0 c.ar g.w)).2.2, (rn (M.cs[c.k.toNat]?.getD []) L (st0 c.ar g.w)).1.t⟩] ++ es)) := by
  have hr := call_run (m := M) (n := 0) (L := L) (st := k) (i := i) (g := g) (c := c) h.th hc hL
  dsimp only at hr
  obtain ⟨h1, h2⟩ := hr
  refine ⟨fun he => ?_, fun he => ?_⟩
  · rw [h.more, h1 he]; simp [h.out]
  · obtain ⟨st', k1, k2, k3, k4⟩ := h2 he
    generalize hmx : max 1 (rn (M.cs[c.k.toNat]?.getD []) L (st0 c.ar g.w)).2.1 = mx at k1 k2 k3 k4 ⊢
    refine ⟨_, ⟨rfl, ?_, ?_⟩, k1, ?_, k, st', ?_⟩
    · rw [h.more]; exact k3
    · rw [h.more, k4]; simp [h.out]; omega
    · rw [h.more]; exact k2
    · obtain ⟨es, h3, _⟩ := plyG_out M (List.replicate (L - mx) 0) (k + mx) (plyG M k (List.replicate mx 0) g)
      refine ⟨es, ?_⟩
      have e := ply_more M k 0 mx (L - mx) g
      rw [show mx + (L - mx) = L by omega] at e
      rw [h.more, e, h3, k4, List.append_assoc]
end
end Go.Baro

set_option linter.unusedSimpArgs false
set_option linter.unusedVariables false
namespace Go.Baro
open Go.RowKit (wrap64)

/-- An instruction whose words lie so much further. -/
def mvB (k : Nat) (o : Ins) : Ins := if o.k = 13 ∨ o.k = 14 ∨ o.k = 15 then { o with c := o.c + k } else o
theorem stp_low (n : Nat) (o : Ins) (p : Int) (r : Int → Int) (w x t : List Int) (h : (stp n o ⟨p, r, w, t⟩).2 = 0) :
    stp n o ⟨p, r, w ++ x, t⟩ = (⟨(stp n o ⟨p, r, w, t⟩).1.p, (stp n o ⟨p, r, w, t⟩).1.r, (stp n o ⟨p, r, w, t⟩).1.w ++ x, (stp n o ⟨p, r, w, t⟩).1.t⟩, 0) := by
  have hin : ∀ q : Int, ¬ (q < 0 ∨ (w.length : Int) ≤ q) → ¬ (q < 0 ∨ ((w ++ x).length : Int) ≤ q) ∧ (w ++ x)[q.toNat]? = w[q.toNat]? ∧ ∀ v, (w ++ x).set q.toNat v = w.set q.toNat v ++ x := fun q hq => by
    refine ⟨by rw [List.length_append]; omega, List.getElem?_append_left (by omega), fun v => List.set_append_left _ _ (by omega)⟩
  unfold stp at h ⊢
  dsimp only at h ⊢
  by_cases h1 : o.k = 1
  · simp only [if_pos h1]
  simp only [if_neg h1] at h ⊢
  by_cases h2 : o.k = 2
  · simp only [if_pos h2]
  simp only [if_neg h2] at h ⊢
  by_cases h10 : o.k = 10
  · simp only [if_pos h10]
  simp only [if_neg h10] at h ⊢
  by_cases h11 : o.k = 11
  · simp only [if_pos h11]
  simp only [if_neg h11] at h ⊢
  by_cases h12 : o.k = 12
  · simp only [if_pos h12]
  simp only [if_neg h12] at h ⊢
  by_cases h13 : o.k = 13
  · simp only [if_pos h13] at h ⊢
    by_cases hq : wrap64 (r o.b + o.c) < 0 ∨ (w.length : Int) ≤ wrap64 (r o.b + o.c)
    · rw [if_pos hq] at h; simp at h
    · obtain ⟨a1, a2, a3⟩ := hin _ hq
      rw [if_neg hq, if_neg a1, a2]
  simp only [if_neg h13] at h ⊢
  by_cases h14 : o.k = 14
  · simp only [if_pos h14] at h ⊢
    by_cases hq : wrap64 (r o.b + o.c) < 0 ∨ (w.length : Int) ≤ wrap64 (r o.b + o.c)
    · rw [if_pos hq] at h; simp at h
    · obtain ⟨a1, a2, a3⟩ := hin _ hq
      rw [if_neg hq, if_neg a1, a3]
  simp only [if_neg h14] at h ⊢
  by_cases h15 : o.k = 15
  · simp only [if_pos h15] at h ⊢
    by_cases hq : wrap64 (r o.b + o.c) < 0 ∨ (w.length : Int) ≤ wrap64 (r o.b + o.c)
    · rw [if_pos hq] at h; simp at h
    · obtain ⟨a1, a2, a3⟩ := hin _ hq
      rw [if_neg hq, if_neg a1, a2, a3]
      split <;> rfl
  simp only [if_neg h15] at h ⊢
  by_cases h16 : o.k = 16
  · simp only [if_pos h16] at h ⊢
    by_cases ht : t.length = 200
    · rw [if_pos ht] at h; simp at h
    · simp only [if_neg ht]
  simp only [if_neg h16] at h ⊢
  by_cases h17 : o.k = 17
  · simp only [if_pos h17]
  simp only [if_neg h17]
theorem wrap_more {a : Int} {q k n : Nat} (h : wrap64 a = (q : Int)) (hq : q < n) (hn : n ≤ 1000) (hk : k ≤ 1000) : wrap64 (a + k) = ((q + k : Nat) : Int) := by
  unfold wrap64 at *; omega
theorem stp_high (n : Nat) (o : Ins) (p : Int) (r : Int → Int) (v w t : List Int) (hv : v.length ≤ 1000) (hw : w.length ≤ 1000) (h : (stp n o ⟨p, r, w, t⟩).2 = 0) :
    stp n (mvB v.length o) ⟨p, r, v ++ w, t⟩ = (⟨(stp n o ⟨p, r, w, t⟩).1.p, (stp n o ⟨p, r, w, t⟩).1.r, v ++ (stp n o ⟨p, r, w, t⟩).1.w, (stp n o ⟨p, r, w, t⟩).1.t⟩, 0) := by
  have hin : ¬ (wrap64 (r o.b + o.c) < 0 ∨ (w.length : Int) ≤ wrap64 (r o.b + o.c)) → ∃ q : Nat, q < w.length ∧ wrap64 (r o.b + o.c) = q ∧ wrap64 (r o.b + (o.c + (v.length : Int))) = ((q + v.length : Nat) : Int) := fun hq => by
    obtain ⟨q, hq2⟩ : ∃ q : Nat, wrap64 (r o.b + o.c) = q := ⟨(wrap64 (r o.b + o.c)).toNat, by omega⟩
    refine ⟨q, by omega, hq2, ?_⟩
    rw [← Int.add_assoc]
    exact wrap_more hq2 (n := w.length) (by omega) hw hv
  have hat : ∀ q : Nat, q < w.length → ¬ ((((q + v.length : Nat) : Int)) < 0 ∨ ((v ++ w).length : Int) ≤ ((q + v.length : Nat) : Int)) ∧ (v ++ w)[(((q + v.length : Nat) : Int)).toNat]? = w[((q : Nat) : Int).toNat]? ∧ ∀ u, (v ++ w).set (((q + v.length : Nat) : Int)).toNat u = v ++ w.set ((q : Nat) : Int).toNat u := fun q hq => by
    refine ⟨by rw [List.length_append]; omega, ?_, fun u => ?_⟩
    · rw [Int.toNat_natCast, Int.toNat_natCast, List.getElem?_append_right (by omega), Nat.add_sub_cancel]
    · rw [Int.toNat_natCast, Int.toNat_natCast, List.set_append_right _ _ (by omega), Nat.add_sub_cancel]
  unfold mvB
  by_cases hk : o.k = 13 ∨ o.k = 14 ∨ o.k = 15
  · rw [if_pos hk]
    unfold stp at h ⊢
    dsimp only at h ⊢
    have h1 : ¬ o.k = 1 := by omega
    have h2 : ¬ o.k = 2 := by omega
    have h10 : ¬ o.k = 10 := by omega
    have h11 : ¬ o.k = 11 := by omega
    have h12 : ¬ o.k = 12 := by omega
    simp only [if_neg h1, if_neg h2, if_neg h10, if_neg h11, if_neg h12] at h ⊢
    by_cases h13 : o.k = 13
    · simp only [if_pos h13] at h ⊢
      by_cases hq : wrap64 (r o.b + o.c) < 0 ∨ (w.length : Int) ≤ wrap64 (r o.b + o.c)
      · rw [if_pos hq] at h; simp at h
      · obtain ⟨q, q1, q2, q3⟩ := hin hq
        obtain ⟨a1, a2, a3⟩ := hat q q1
        rw [if_neg hq, q3, if_neg a1, a2, q2]
    simp only [if_neg h13] at h ⊢
    by_cases h14 : o.k = 14
    · simp only [if_pos h14] at h ⊢
      by_cases hq : wrap64 (r o.b + o.c) < 0 ∨ (w.length : Int) ≤ wrap64 (r o.b + o.c)
      · rw [if_pos hq] at h; simp at h
      · obtain ⟨q, q1, q2, q3⟩ := hin hq
        obtain ⟨a1, a2, a3⟩ := hat q q1
        rw [if_neg hq, q3, if_neg a1, a3, q2]
    simp only [if_neg h14] at h ⊢
    have h15 : o.k = 15 := by omega
    simp only [if_pos h15] at h ⊢
    by_cases hq : wrap64 (r o.b + o.c) < 0 ∨ (w.length : Int) ≤ wrap64 (r o.b + o.c)
    · rw [if_pos hq] at h; simp at h
    · obtain ⟨q, q1, q2, q3⟩ := hin hq
      obtain ⟨a1, a2, a3⟩ := hat q q1
      rw [if_neg hq, q3, if_neg a1, a2, a3, q2]
      split <;> rfl
  · rw [if_neg hk]
    unfold stp at h ⊢
    dsimp only at h ⊢
    have h13 : ¬ o.k = 13 := by omega
    have h14 : ¬ o.k = 14 := by omega
    have h15 : ¬ o.k = 15 := by omega
    simp only [if_neg h13, if_neg h14, if_neg h15] at h ⊢
    by_cases h1 : o.k = 1
    · simp only [if_pos h1]
    simp only [if_neg h1] at h ⊢
    by_cases h2 : o.k = 2
    · simp only [if_pos h2]
    simp only [if_neg h2] at h ⊢
    by_cases h10 : o.k = 10
    · simp only [if_pos h10]
    simp only [if_neg h10] at h ⊢
    by_cases h11 : o.k = 11
    · simp only [if_pos h11]
    simp only [if_neg h11] at h ⊢
    by_cases h12 : o.k = 12
    · simp only [if_pos h12]
    simp only [if_neg h12] at h ⊢
    by_cases h16 : o.k = 16
    · simp only [if_pos h16] at h ⊢
      by_cases ht : t.length = 200
      · rw [if_pos ht] at h; simp at h
      · simp only [if_neg ht]
    simp only [if_neg h16] at h ⊢
    by_cases h17 : o.k = 17
    · simp only [if_pos h17]
    simp only [if_neg h17]
theorem exc_low {l : Lv} {w : List Int} (x : List Int) (h : (exc l w).2.2.1 = 0) : exc l (w ++ x) = ((exc l w).1, (exc l w).2.1 ++ x, 0, (exc l w).2.2.2) := by
  unfold exc at h ⊢
  by_cases hp : l.p = l.c.length
  · simp only [if_pos hp]
  · simp only [if_neg hp] at h ⊢
    rw [stp_low _ _ _ _ _ x _ h]
    rw [h]
def mvL (k : Nat) (l : Lv) : Lv := ⟨l.c.map (mvB k), l.p, l.r, l.t⟩
theorem exc_high {l : Lv} {v w : List Int} (hv : v.length ≤ 1000) (hw : w.length ≤ 1000) (h : (exc l w).2.2.1 = 0) : exc (mvL v.length l) (v ++ w) = (mvL v.length (exc l w).1, v ++ (exc l w).2.1, 0, (exc l w).2.2.2) := by
  unfold exc at h ⊢
  unfold mvL
  dsimp only at h ⊢
  rw [List.length_map]
  by_cases hp : l.p = l.c.length
  · simp only [if_pos hp]
  · simp only [if_neg hp] at h ⊢
    have hat : (l.c.map (mvB v.length))[l.p.toNat]?.getD ⟨17, 0, 0, 0, 0⟩ = mvB v.length (l.c[l.p.toNat]?.getD ⟨17, 0, 0, 0, 0⟩) := by
      rw [List.getElem?_map]
      cases l.c[l.p.toNat]? <;> rfl
    rw [hat, stp_high _ _ _ _ v w _ hv hw h]
    rw [h]
/-- An event but for its step; whose thread is so much further. -/
def strip (k : Nat) (x : Ev) : Nat × Nat × Bool × Int × List Int := (x.th + k, x.cl, x.en, x.er, x.to)
/-- m: the whole; N: the first two threads alone; C: the others. -/
structure Bes (m mN mC : Mc) : Prop where
  ws : m.ws = mN.ws ++ mC.ws
  tN : ∀ t, t < 2 → ∀ i : Nat, (m.ts[t]?.getD [])[i]? = (mN.ts[t]?.getD [])[i]?
  cN : ∀ t, t < 2 → ∀ (i : Nat) (c : Cl), (mN.ts[t]?.getD [])[i]? = some c → m.cs[c.k.toNat]?.getD [] = mN.cs[c.k.toNat]?.getD []
  tC : ∀ t (i : Nat), match (mC.ts[t]?.getD [])[i]? with
    | none => (m.ts[t + 2]?.getD [])[i]? = none
    | some c => ∃ c', (m.ts[t + 2]?.getD [])[i]? = some c' ∧ c'.ar = c.ar ∧ m.cs[c'.k.toNat]?.getD [] = (mC.cs[c.k.toNat]?.getD []).map (mvB mN.ws.length)
/-- How the three stand to each other. -/
structure BR (k : Nat) (G N C : Gs) : Prop where
  w : G.w = N.w ++ C.w
  lN : N.w.length = k
  lC : C.w.length ≤ 1000
  tN : ∀ t, t < 2 → G.th t = N.th t
  tC : ∀ t, G.th (t + 2) = ⟨(C.th t).now.map (mvL k), (C.th t).bg⟩
  oN : (G.out.filter fun x => decide (x.th < 2)).map (strip 0) = N.out.map (strip 0)
  oC : (G.out.filter fun x => !decide (x.th < 2)).map (strip 0) = C.out.map (strip 2)
theorem noErr_exec {g : Gs} {st n : Nat} {l : Lv} (hn : (g.th n).now = some l) (h : noErr (exG g st n)) : (exc l g.w).2.2.1 = 0 := by
  by_cases he : (exc l g.w).2.2.2 = true
  · rw [exG_end hn he] at h
    exact h _ (List.mem_append.2 (.inr (List.mem_singleton.2 rfl))) rfl
  · unfold exc at he ⊢
    by_cases hp : l.p = l.c.length
    · simp only [if_pos hp]
    · simp only [if_neg hp] at he ⊢
      refine Classical.byContradiction fun hne => he ?_
      simp [hne]
section
variable {m mN mC : Mc} {G N C : Gs} {k st sN sC n : Nat}
theorem br_lowE (hk : k ≤ 1000) (H : BR k G N C) (hn : n < 2) (he : noErr (exG N sN n)) : BR k (exG G st n) (exG N sN n) C := by
  have hG := H.tN n hn
  cases hl : (N.th n).now with
  | none => rw [exG_none (by rw [hG]; exact hl), exG_none hl]; exact H
  | some l =>
    have h0 := noErr_exec hl he
    have hx := exc_low C.w h0
    rw [← H.w] at hx
    have hGl : (G.th n).now = some l := by rw [hG]; exact hl
    by_cases hq : (exc l N.w).2.2.2 = true
    · rw [exG_end hl hq, exG_end hGl (by rw [hx]; exact hq), hx, h0]
      refine ⟨rfl, by dsimp only; rw [exc_wl]; exact H.lN, H.lC, fun t ht => ?_, fun t => ?_, ?_, ?_⟩
      · dsimp only
        by_cases htn : t = n
        · subst htn; rw [putT_same, putT_same, hG]
        · rw [putT_other _ _ htn, putT_other _ _ htn]; exact H.tN t ht
      · dsimp only
        rw [putT_other _ _ (by omega)]; exact H.tC t
      · dsimp only
        rw [List.filter_append, List.map_append, List.map_append, H.oN, hG]
        simp [hn, strip]
      · dsimp only
        rw [List.filter_append, List.map_append, H.oC]
        simp [hn]
    · have hq' : (exc l N.w).2.2.2 = false := by simpa using hq
      rw [exG_go hl hq', exG_go hGl (by rw [hx]; exact hq'), hx]
      refine ⟨rfl, by dsimp only; rw [exc_wl]; exact H.lN, H.lC, fun t ht => ?_, fun t => ?_, H.oN, H.oC⟩
      · dsimp only
        by_cases htn : t = n
        · subst htn; rw [putT_same, putT_same, hG]
        · rw [putT_other _ _ htn, putT_other _ _ htn]; exact H.tN t ht
      · dsimp only
        rw [putT_other _ _ (by omega)]; exact H.tC t
theorem br_lowB (hb : Bes m mN mC) (H : BR k G N C) (hn : n < 2) : BR k (bgG m G st n) (bgG mN N sN n) C := by
  have hG := H.tN n hn
  rcases bgG_cases mN N sN n with ⟨h1, h2⟩ | ⟨c, h1, h2, h3⟩
  · have : bgG m G st n = G := by
      unfold bgG
      cases hl : (G.th n).now with
      | some l => rfl
      | none =>
        dsimp only
        rcases h2 with h2 | ⟨h2, h4⟩
        · rw [← hG] at h2; exact absurd hl h2
        · rw [hb.tN n hn, hG, List.getElem?_eq_none h4]
    rw [this, h1]; exact H
  · have : bgG m G st n = ⟨G.w, putT G.th n ⟨some (live (mN.cs[c.k.toNat]?.getD []) c.ar), (N.th n).bg + 1⟩, G.out ++ [⟨st, n, (N.th n).bg, false, 0, []⟩]⟩ := by
      unfold bgG
      rw [hG, h1]
      dsimp only
      rw [hb.tN n hn, h2]
      dsimp only
      rw [hb.cN n hn _ c h2]
    rw [this, h3]
    refine ⟨H.w, H.lN, H.lC, fun t ht => ?_, fun t => ?_, ?_, ?_⟩
    · dsimp only
      by_cases htn : t = n
      · subst htn; rw [putT_same, putT_same]
      · rw [putT_other _ _ htn, putT_other _ _ htn]; exact H.tN t ht
    · dsimp only
      rw [putT_other _ _ (by omega)]; exact H.tC t
    · dsimp only
      rw [List.filter_append, List.map_append, List.map_append, H.oN]
      simp [hn, strip]
    · dsimp only
      rw [List.filter_append, List.map_append, H.oC]
      simp [hn]
theorem br_highE (hk : k ≤ 1000) (H : BR k G N C) (he : noErr (exG C sC n)) : BR k (exG G st (n + 2)) N (exG C sC n) := by
  have hG := H.tC n
  cases hl : (C.th n).now with
  | none => rw [exG_none (by rw [hG, hl]; rfl), exG_none hl]; exact H
  | some l =>
    have h0 := noErr_exec hl he
    have hx := exc_high (v := N.w) (by rw [H.lN]; exact hk) H.lC h0
    rw [← H.w, H.lN] at hx
    have hGl : (G.th (n + 2)).now = some (mvL k l) := by rw [hG, hl]; rfl
    by_cases hq : (exc l C.w).2.2.2 = true
    · rw [exG_end hl hq, exG_end hGl (by rw [hx]; exact hq), hx, h0]
      refine ⟨rfl, H.lN, by dsimp only; rw [exc_wl]; exact H.lC, fun t ht => ?_, fun t => ?_, ?_, ?_⟩
      · dsimp only
        rw [putT_other _ _ (by omega)]; exact H.tN t ht
      · dsimp only
        by_cases htn : t = n
        · subst htn; rw [putT_same, putT_same, hG]; rfl
        · rw [putT_other _ _ (by omega), putT_other _ _ htn]; exact H.tC t
      · dsimp only
        rw [List.filter_append, List.map_append, H.oN]
        simp
      · dsimp only
        rw [List.filter_append, List.map_append, List.map_append, H.oC, hG]
        simp [strip, mvL]
    · have hq' : (exc l C.w).2.2.2 = false := by simpa using hq
      rw [exG_go hl hq', exG_go hGl (by rw [hx]; exact hq'), hx]
      refine ⟨rfl, H.lN, by dsimp only; rw [exc_wl]; exact H.lC, fun t ht => ?_, fun t => ?_, H.oN, H.oC⟩
      · dsimp only
        rw [putT_other _ _ (by omega)]; exact H.tN t ht
      · dsimp only
        by_cases htn : t = n
        · subst htn; rw [putT_same, putT_same, hG]; rfl
        · rw [putT_other _ _ (by omega), putT_other _ _ htn]; exact H.tC t
theorem br_highB (hb : Bes m mN mC) (hk : mN.ws.length = k) (H : BR k G N C) : BR k (bgG m G st (n + 2)) N (bgG mC C sC n) := by
  have hG := H.tC n
  rcases bgG_cases mC C sC n with ⟨h1, h2⟩ | ⟨c, h1, h2, h3⟩
  · have : bgG m G st (n + 2) = G := by
      unfold bgG
      cases hl : (G.th (n + 2)).now with
      | some l => rfl
      | none =>
        dsimp only
        rcases h2 with h2 | ⟨h2, h4⟩
        · rw [hG] at hl
          cases hc : (C.th n).now with
          | none => exact absurd hc h2
          | some l => rw [hc] at hl; cases hl
        · have := hb.tC n (C.th n).bg
          rw [List.getElem?_eq_none h4] at this
          rw [hG]
          dsimp only at this ⊢
          rw [this]
    rw [this, h1]; exact H
  · have hc := hb.tC n (C.th n).bg
    rw [h2] at hc
    obtain ⟨c', q1, q2, q3⟩ := hc
    have : bgG m G st (n + 2) = ⟨G.w, putT G.th (n + 2) ⟨some (mvL k (live (mC.cs[c.k.toNat]?.getD []) c.ar)), (C.th n).bg + 1⟩, G.out ++ [⟨st, n + 2, (C.th n).bg, false, 0, []⟩]⟩ := by
      unfold bgG
      rw [hG, h1]
      dsimp only [Option.map_none]
      rw [q1]
      dsimp only
      rw [q2, q3, hk]
      rfl
    rw [this, h3]
    refine ⟨H.w, H.lN, H.lC, fun t ht => ?_, fun t => ?_, ?_, ?_⟩
    · dsimp only
      rw [putT_other _ _ (by omega)]; exact H.tN t ht
    · dsimp only
      by_cases htn : t = n
      · subst htn; rw [putT_same, putT_same]; rfl
      · rw [putT_other _ _ (by omega), putT_other _ _ htn]; exact H.tC t
    · dsimp only
      rw [List.filter_append, List.map_append, H.oN]
      simp
    · dsimp only
      rw [List.filter_append, List.map_append, List.map_append, H.oC]
      simp [strip]
end
def lowS (S : List Nat) : List Nat := S.filter fun x => decide (x < 2)
def highS (S : List Nat) : List Nat := (S.filter fun x => !decide (x < 2)).map (· - 2)
/-- The whole is the two of them, each under its own part of the schedule. -/
theorem beside {m mN mC : Mc} (hb : Bes m mN mC) (hk : mN.ws.length ≤ 1000) (hc : mC.ws.length ≤ 1000) (A : Nat → Prop) (hA : ∀ n, A n → n < 4) (hN : ∀ S, (∀ x ∈ S, x < 2) → noErr (plyG mN 0 S (g0 mN))) (hC : ∀ S, (∀ x ∈ S, x < 2) → noErr (plyG mC 0 S (g0 mC))) (S : List Nat) (hS : ∀ x ∈ S, x < 4) :
    BR mN.ws.length (plyG m 0 S (g0 m)) (plyG mN 0 (lowS S) (g0 mN)) (plyG mC 0 (highS S) (g0 mC)) := by
  refine (plyG_indS (m := m) (I := fun S G => (∀ x ∈ S, x < 4) ∧ BR mN.ws.length G (plyG mN 0 (lowS S) (g0 mN)) (plyG mC 0 (highS S) (g0 mC))) (A := fun n => n < 4) ⟨by simp, ?_⟩ (fun S G n hn ⟨h1, H⟩ => ⟨fun x hx => ?_, ?_⟩) S hS).2
  · refine ⟨hb.ws, rfl, hc, fun t _ => rfl, fun t => rfl, rfl, rfl⟩
  · rcases List.mem_append.1 hx with hx | hx
    · exact h1 x hx
    · rw [List.mem_singleton.1 hx]; exact hn
  · have hlow : ∀ x ∈ lowS (S ++ [n]), x < 2 := fun x hx => by simpa using (List.mem_filter.1 hx).2
    have hhigh : ∀ x ∈ highS (S ++ [n]), x < 2 := fun x hx => by
      obtain ⟨y, hy, rfl⟩ := List.mem_map.1 hx
      have hy1 := (List.mem_filter.1 hy).1
      have hy2 := (List.mem_filter.1 hy).2
      have : y < 4 := by
        rcases List.mem_append.1 hy1 with h | h
        · exact h1 y h
        · rw [List.mem_singleton.1 h]; exact hn
      simp at hy2
      omega
    have eN := hN _ hlow
    have eC := hC _ hhigh
    by_cases h2 : n < 2
    · have e1 : lowS (S ++ [n]) = lowS S ++ [n] := by simp [lowS, h2]
      have e2 : highS (S ++ [n]) = highS S := by simp [highS, h2]
      rw [e1] at eN ⊢
      rw [e2]
      rw [ply_snoc, actG_eq] at eN ⊢
      rw [actG_eq]
      exact br_lowE hk (br_lowB hb H h2) h2 eN
    · obtain ⟨q, rfl⟩ : ∃ q, n = q + 2 := ⟨n - 2, by omega⟩
      have e1 : lowS (S ++ [q + 2]) = lowS S := by simp [lowS]
      have e2 : highS (S ++ [q + 2]) = highS S ++ [q] := by simp [highS]
      rw [e2] at eC ⊢
      rw [e1]
      rw [ply_snoc, actG_eq] at eC ⊢
      rw [actG_eq]
      exact br_highE hk (br_highB hb rfl H) eC
end Go.Baro

set_option linter.unusedSimpArgs false
set_option linter.unusedVariables false
namespace Go.Proofs.YtnchgdjdfhfedaaGreatDoor
open Go.RowKit Go.Ord Go.Baro

theorem eltOpW : Elt Tryz.prog 28 67 (.agg #[.int .i64 0, .int .i64 0, .int .i64 0, .int .i64 0, .int .i64 0]) 5 40 := Elt.mk' Tryz.underlying28 (by kernel_rfl) rfl (by decide)
theorem one5W (a b c d e : Int) : ∀ u ∈ [Value.int .i64 a, .int .i64 b, .int .i64 c, .int .i64 d, .int .i64 e], u.oneCell' = true := by
  intro u hu
  simp only [List.mem_cons, List.not_mem_nil, or_false] at hu
  rcases hu with rfl | rfl | rfl | rfl | rfl <;> rfl
theorem own_capW {w : World} {B : Nat} {e : TypeId} {s n : Nat} {v : Value} {xs : List Value} (h : w.ownsRow B e s v n xs) : ∃ A k, v = .slice A n k ∧ n ≤ k ∧ k ≤ 9223372036854775807 := by
  rcases h.2 with ⟨rfl, rfl⟩ | ⟨g, cap, cur, rfl, _, _, h1, h2, _⟩
  · exact ⟨_, _, rfl, Nat.le_refl _, by omega⟩
  · exact ⟨_, _, rfl, h1, by unfold maxLen at h2; omega⟩
/-- What Moved leaves. -/
def MvPostW (l : List Ins) (K : Nat) (w : World) (e : Ending) (w' : World) : Prop := ∃ A' c', e = .returned (.slice A' l.length c') ∧ l.length ≤ c' ∧ c' ≤ 9223372036854775807 ∧ QT w' 67 5 A' l.length (cellsO (l.map (mvB K))) ∧ Below w.heap.size w w'
set_option maxRecDepth 100000 in
set_option maxHeartbeats 4000000 in
theorem keep_MovedW (l : List Ins) (A : Option Addr) (n c K : Nat) (w : World) (hb : RO w w.heap.size A n l) (hn : n ≤ 200) (hK : K < 100) (hsh : ∀ o ∈ l, (o.k = 13 ∨ o.k = 14 ∨ o.k = 15) → 0 ≤ o.c ∧ o.c < 1000) :
    Calls Tryz.prog 10 #[.slice A n c, .int .i64 K] w (MvPostW l K w) := by
  have HL := Lib.hid hb.len
  have HSH := Lib.hid hsh
  have h0 : Below w.heap.size w w := Below.refl _ _
  clear hsh
  go_enter Tryz.func10, Tryz.ntmps10
  go_wp2
  go_loopw [5, 6] (fun v i wr => ∃ j : Nat, j ≤ n ∧ i = .int .i64 j ∧ wr.ownsRow w.heap.size 67 5 v j (cellsO ((l.take j).map (mvB K))) ∧ Below w.heap.size w wr) (fun _ i _ => n - (intOf i).toNat)
  case atStart => exact ⟨0, Nat.zero_le _, rfl, World.ownsRow_nil _ _ _ _, h0⟩
  case round =>
    obtain ⟨j, hj, rfl, hown, hbel⟩ := hrel
    have hsz := hbel.size
    by_cases hjn : j < n
    · obtain ⟨b, o, k, x, y, z, u, rfl, hbB, d0, d1, d2, d3, d4, HX, hmem⟩ := (hb.below hbel).val hjn
      have hbs : b < wr.heap.size := by omega
      have hshp := HSH.out _ hmem
      have HST := Lib.hid (show ∀ o' : Ins, mvB K ⟨k, x, y, z, u⟩ = o' → (l.take (j + 1)).map (mvB K) = (l.take j).map (mvB K) ++ [o'] from by
        intro o' ho'
        rw [at_take HX.out, List.map_append, ← ho']; rfl)
      clear hmem
      by_cases hk : k = 13 ∨ k = 14 ∨ k = 15
      · have hz : 0 ≤ z ∧ z < 1000 := hshp hk
        have HO := Lib.hid (HST.out ⟨k, x, y, z + K, u⟩ (by unfold mvB; dsimp only; rw [if_pos hk]))
        clear HST hshp
        rcases hk with rfl | rfl | rfl
        all_goals
          go_wp2_with (at_builtin; go_must (refine app_lit eltOpW _ rfl _ _ rfl w.heap.size _ j _ rfl (by exact hown.alloc _) 1 [.int .i64 _, .int .i64 x, .int .i64 y, .int .i64 (z + K), .int .i64 u] (wr.heap.size + 1) (by simp) rfl rfl (one5W _ _ _ _ _) (by omega) (by omega) (by simp; omega) ?_); intro v3 w3 hown3 hgr3 hbel3 _)
          go_roundw
          case rel =>
            refine ⟨j + 1, by omega, by go_num, ?_, hbel3 _ (hbel.alloc hsz _)⟩
            rw [HO.out, cellsO_append]
            exact hown3
          case measure => simp [intOf]; omega
      · have HO := Lib.hid (HST.out ⟨k, x, y, z, u⟩ (by unfold mvB; dsimp only; rw [if_neg hk]))
        have e13 : (k == 13) = false := by simp; omega
        have e14 : (k == 14) = false := by simp; omega
        have e15 : (k == 15) = false := by simp; omega
        clear HST hshp hk
        go_wp2_with (at_builtin; go_must (refine app_lit eltOpW _ rfl _ _ rfl w.heap.size _ j _ rfl (by exact hown.alloc _) 1 [.int .i64 k, .int .i64 x, .int .i64 y, .int .i64 z, .int .i64 u] (wr.heap.size + 1) (by simp) rfl rfl (one5W _ _ _ _ _) (by omega) (by omega) (by simp; omega) ?_); intro v3 w3 hown3 hgr3 hbel3 _)
        go_roundw
        case rel =>
          refine ⟨j + 1, by omega, by go_num, ?_, hbel3 _ (hbel.alloc hsz _)⟩
          rw [HO.out, cellsO_append]
          exact hown3
        case measure => simp [intOf]; omega
    · obtain rfl : j = n := by omega
      obtain ⟨A', c', rfl, hlc⟩ := own_form hown
      go_wp2
      go_ret
      rw [List.take_of_length_le (by rw [HL.out]; exact Nat.le_refl _)] at hown
      obtain ⟨_, k9, e9, hk9, hk8⟩ := own_capW hown
      injection e9 with _ _ e9
      subst e9
      have hjl : l.length = j := HL.out
      exact ⟨A', c', by (rw [hjl]; rfl), by rw [hjl]; exact hlc, hk8, by rw [hjl]; exact QT.own hown, hbel⟩
end Go.Proofs.YtnchgdjdfhfedaaGreatDoor

set_option linter.unusedSimpArgs false
set_option linter.unusedVariables false
namespace Go.Baro
open Go.RowKit (wrap64)

/-- An operation: when it began and ended (-1: it has not), whether it puts, its value, what it adds. -/
structure Ac where
  b : Int
  e : Int
  put : Bool
  v : Int
  add : Int
/-- What an object of kind k that has these numbers tells, and has then. -/
def tel (k : Int) (has : List Int) (a : Ac) : Int × List Int :=
  if k = 1 then (if a.put = true then (a.v, [a.v]) else (has.headD 0, has))
  else if k = 2 then (has.headD 0, [wrap64 (has.headD 0 + a.add)])
  else if a.put = true then (a.v, has ++ [a.v])
  else if has = [] then (-1, has)
  else if k = 3 then (has.headD 0, has.tail)
  else (has.getLastD 0, has.dropLast)
/-- The operations that are left can be put behind one another; those that have not ended may be left out. -/
inductive Lin (k : Int) : List Int → List Ac → Prop
  | done {has : List Int} {left : List Ac} (h : ∀ a ∈ left, a.e = -1) : Lin k has left
  | step {has : List Int} {left : List Ac} (a : Ac) (rest : List Ac) (hp : left.Perm (a :: rest)) (hf : ∀ b ∈ left, b.e ≠ -1 → a.b ≤ b.e) (ht : a.e ≠ -1 → (tel k has a).1 = a.v) (h : Lin k (tel k has a).2 rest) : Lin k has left
section
variable {k : Int} {has : List Int} {left left' : List Ac}
/-- How they are listed does not matter. -/
theorem Lin.perm (h : Lin k has left) (hp : left.Perm left') : Lin k has left' := by
  cases h with
  | done h => exact .done fun a ha => h a (hp.mem_iff.2 ha)
  | step a rest hq hf ht h => exact .step a rest (hp.symm.trans hq) (fun b hb => hf b (hp.mem_iff.2 hb)) ht h
/-- One that has not ended harms nothing. -/
theorem Lin.more (h : Lin k has left) {x : Ac} (hx : x.e = -1) : Lin k has (x :: left) := by
  induction h with
  | done h => exact .done fun a ha => by rcases List.mem_cons.1 ha with rfl | ha; exact hx; exact h a ha
  | @step has left a rest hq hf ht h ih =>
    refine .step a (x :: rest) ((List.Perm.cons x hq).trans (List.Perm.swap a x rest)) (fun b hb hb1 => ?_) ht ih
    rcases List.mem_cons.1 hb with rfl | hb
    · exact absurd hx hb1
    · exact hf b hb hb1
/-- Other times: what has ended then had ended, and whoever could come first still can. -/
theorem Lin.map {f : Ac → Ac} (h : Lin k has left) (h1 : ∀ a ∈ left, (f a).e ≠ -1 → a.e ≠ -1) (h2 : ∀ a ∈ left, (f a).put = a.put ∧ (f a).v = a.v ∧ (f a).add = a.add) (h3 : ∀ a ∈ left, ∀ b ∈ left, (f b).e ≠ -1 → a.b ≤ b.e → (f a).b ≤ (f b).e) : Lin k has (left.map f) := by
  have htel : ∀ (has : List Int) (a : Ac), (f a).put = a.put ∧ (f a).v = a.v ∧ (f a).add = a.add → tel k has (f a) = tel k has a := fun has a hh => by
    unfold tel
    rw [hh.1, hh.2.1, hh.2.2]
  induction h with
  | @done has left h =>
    refine .done fun a ha => ?_
    obtain ⟨c, hc, rfl⟩ := List.mem_map.1 ha
    by_cases he : (f c).e = -1
    · exact he
    · exact absurd (h c hc) (h1 c hc he)
  | @step has left a rest hq hf ht h ih =>
    have ha : a ∈ left := hq.mem_iff.2 (by simp)
    have hr : ∀ c, c ∈ rest → c ∈ left := fun c hc => hq.mem_iff.2 (by simp [hc])
    refine .step (f a) (rest.map f) (hq.map f) (fun b hb hb1 => ?_) (fun h5 => ?_) ?_
    · obtain ⟨c, hc, rfl⟩ := List.mem_map.1 hb
      exact h3 a ha c hc hb1 (hf c hc (h1 c hc hb1))
    · rw [htel has a (h2 a ha), (h2 a ha).2.1]
      exact ht (h1 a ha h5)
    · rw [htel has a (h2 a ha)]
      exact ih (fun c hc => h1 c (hr c hc)) (fun c hc => h2 c (hr c hc)) (fun c hc d hd => h3 c (hr c hc) d (hr d hd))
/-- All of them as much later. -/
def shA (d : Int) (a : Ac) : Ac := { a with b := a.b + d, e := if a.e = -1 then -1 else a.e + d }
theorem lin_later {d : Int} (hd : 0 ≤ d) (he : ∀ a ∈ left, -1 ≤ a.e) : Lin k has (left.map (shA d)) ↔ Lin k has left := by
  refine ⟨fun h => ?_, fun h => ?_⟩
  · have hm : (left.map (shA d)).map (fun a => { a with b := a.b - d, e := if a.e = -1 then -1 else a.e - d }) = left := by
      rw [List.map_map]
      conv => rhs; rw [← List.map_id left]
      refine List.map_congr_left fun a ha => ?_
      have := he a ha
      obtain ⟨b, e, put, v, add⟩ := a
      dsimp only at this
      simp only [Function.comp, shA, id]
      by_cases h1 : e = -1
      · subst h1; simp
      · rw [if_neg h1, if_neg (by omega)]; simp
    rw [← hm]
    refine h.map (fun a ha => ?_) (fun a ha => ⟨rfl, rfl, rfl⟩) (fun a ha b hb => ?_)
    · dsimp only
      split
      · intro hh; exact absurd rfl hh
      · intro _; assumption
    · dsimp only
      split
      · intro hh; exact absurd rfl hh
      · intro _ _; omega
  · refine h.map (fun a ha => ?_) (fun a ha => ⟨rfl, rfl, rfl⟩) (fun a ha b hb => ?_)
    · unfold shA
      dsimp only
      split
      · intro hh; exact absurd rfl hh
      · intro _; assumption
    · unfold shA
      dsimp only
      split
      · intro hh; exact absurd rfl hh
      · intro _ _; omega
end
/-- One behind the other, each tells its value. -/
def runs (k : Int) : List Int → List Ac → Prop
  | _, [] => True
  | has, a :: l => (tel k has a).1 = a.v ∧ runs k (tel k has a).2 l
/-- In this order they can come; those behind them that have not ended are left out. -/
theorem lin_part {k : Int} {l2 : List Ac} (h2 : ∀ a ∈ l2, a.e = -1) : ∀ (l1 : List Ac) (has : List Int), runs k has l1 → l1.Pairwise (fun a b => b.e ≠ -1 → a.b ≤ b.e) → (∀ a ∈ l1, a.e ≠ -1 → a.b ≤ a.e) → Lin k has (l1 ++ l2)
  | [], has, _, _, _ => .done h2
  | a :: l1, has, hr, hp, hs => by
    rw [List.pairwise_cons] at hp
    refine .step a (l1 ++ l2) (List.Perm.refl _) (fun b hb hb1 => ?_) (fun _ => hr.1) (lin_part h2 l1 _ hr.2 hp.2 (fun b hb => hs b (by simp [hb])))
    rw [List.cons_append] at hb
    rcases List.mem_cons.1 hb with rfl | hb
    · exact hs _ (by simp) hb1
    · rcases List.mem_append.1 hb with hb | hb
      · exact hp.1 b hb hb1
      · exact absurd (h2 b hb) hb1
theorem lin_seq {k : Int} {l : List Ac} {has : List Int} (hr : runs k has l) (hp : l.Pairwise (fun a b => b.e ≠ -1 → a.b ≤ b.e)) (hs : ∀ a ∈ l, a.e ≠ -1 → a.b ≤ a.e) : Lin k has l := by
  have := lin_part (l2 := []) (by simp) l has hr hp hs
  rwa [List.append_nil] at this
/-- Where each has ended before the next began there is one order alone. -/
theorem lin_only {k : Int} : ∀ (l : List Ac) (has : List Int), Lin k has l → l.Pairwise (fun a b => a.e < b.b) → (∀ a ∈ l, a.e ≠ -1) → runs k has l
  | [], has, _, _, _ => trivial
  | a :: l, has, h, hp, he => by
    rw [List.pairwise_cons] at hp
    cases h with
    | done h => exact absurd (h a (by simp)) (he a (by simp))
    | step c rest hq hf ht h =>
      have hc : c ∈ a :: l := hq.mem_iff.2 (by simp)
      have hca : c = a := by
        rcases List.mem_cons.1 hc with rfl | hc
        · rfl
        · have h1 := hp.1 c hc
          have h2 := hf a (by simp) (he a (by simp))
          omega
      subst hca
      have hpr : l.Perm rest := List.Perm.cons_inv hq
      exact ⟨ht (he c (by simp)), lin_only l _ (h.perm hpr.symm) hp.2 (fun b hb => he b (by simp [hb]))⟩
end Go.Baro

set_option linter.unusedSimpArgs false
set_option linter.unusedVariables false
namespace Go.Baro
open Go.RowKit (wrap64)
/-- The i-th call of count's machine. -/
def cntN (by_ : List Int) (i : Nat) : Int := (by_[i]?.getD 0) % 6
def cntC (by_ : List Int) (i : Nat) : Cl := if 0 < cntN by_ i then ⟨0, [cntN by_ i]⟩ else ⟨1, []⟩
def cntT (by_ : List Int) (t : Nat) : List Cl := [cntC by_ t, cntC by_ (t + 3), cntC by_ (t + 6)]
/-- Count: the words and the two codes. -/
structure Cu where
  ws : List Int
  ca : List Ins
  cg : List Ins
def mCount (c : Cu) (by_ : List Int) : Mc := ⟨c.ws, [c.ca, c.cg], [cntT by_ 0, cntT by_ 1, cntT by_ 2]⟩
def mCount4 (c : Cu) (by_ : List Int) : Mc := ⟨c.ws, [c.ca, c.cg], [cntT by_ 0, cntT by_ 1, cntT by_ 2, [⟨1, []⟩]]⟩
/-- The calls of a thread that adds and gets in turn. -/
def tlsN (by_ : List Int) (i : Nat) : Int := if i < by_.length then by_[i]?.getD 0 else 1
def tlsT (by_ : List Int) (j : Nat) : List Cl := (List.range j).flatMap fun i => [⟨0, [tlsN by_ i]⟩, ⟨1, []⟩]
def mTells (c : Cu) (by_ : List Int) : Mc := ⟨c.ws, [c.ca, c.cg], [tlsT by_ 9]⟩
/-- A call of a run as an operation on a number. -/
def cntA (m : Mc) (d : Dg) : Ac :=
  match (m.ts[d.th]?.getD [])[d.cl]? with
  | some c => ⟨d.b, d.e, decide (c.k = 0), if d.e = -1 then 0 else d.to.headD 0, if c.k = 0 then c.ar.headD 0 else 0⟩
  | none => ⟨d.b, d.e, false, 0, 0⟩
def CountLinD (c : Cu) : Prop := ∀ (by_ : List Int) (S : List Nat), S.length ≤ 400 → (∀ x ∈ S, x < 3) →
  noErr (plyG (mCount c by_) 0 S (g0 (mCount c by_))) ∧ (∀ d ∈ dgs (plyG (mCount c by_) 0 S (g0 (mCount c by_))).out, (d.e ≠ -1 → d.to.length = 1) ∧ d.th < 3 ∧ d.cl < 3) ∧ (dgs (plyG (mCount c by_) 0 S (g0 (mCount c by_))).out).length ≤ 9 ∧
  Lin 2 [0] ((dgs (plyG (mCount c by_) 0 S (g0 (mCount c by_))).out).map (cntA (mCount c by_)))
/-- The schedule of CountAll. -/
def allS (S : List Nat) : List Nat := S ++ List.replicate 200 0 ++ List.replicate 200 1 ++ List.replicate 200 2 ++ List.replicate 60 3
def CountAllD (c : Cu) : Prop := ∀ (by_ : List Int) (S : List Nat), S.length ≤ 300 → (∀ x ∈ S, x < 3) →
  noErr (plyG (mCount4 c by_) 0 (allS S) (g0 (mCount4 c by_))) ∧ (dgs (plyG (mCount4 c by_) 0 (allS S) (g0 (mCount4 c by_))).out).length = 10 ∧
  (∀ d ∈ dgs (plyG (mCount4 c by_) 0 (allS S) (g0 (mCount4 c by_))).out, d.e ≠ -1 ∧ d.to.length = 1) ∧
  (dgs (plyG (mCount4 c by_) 0 (allS S) (g0 (mCount4 c by_))).out).Pairwise (fun a b => (cntA (mCount4 c by_) a).put = true → (cntA (mCount4 c by_) b).put = true → a.to.headD 0 ≠ b.to.headD 0) ∧
  (∃ d ∈ dgs (plyG (mCount4 c by_) 0 (allS S) (g0 (mCount4 c by_))).out, d.th = 3) ∧
  ∀ d ∈ dgs (plyG (mCount4 c by_) 0 (allS S) (g0 (mCount4 c by_))).out, d.th = 3 → d.to.headD 0 = ((dgs (plyG (mCount4 c by_) 0 (allS S) (g0 (mCount4 c by_))).out).map fun d => (cntA (mCount4 c by_) d).add).sum
/-- The sums that a thread is told. -/
def wantN (by_ : List Int) (i : Nat) : Int := (List.range i).foldl (fun s j => wrap64 (s + tlsN by_ j)) 0
def CountTellsD (c : Cu) : Prop := ∀ (by_ : List Int), (∀ x ∈ by_, wrap64 x = x) →
  noErr (plyG (mTells c by_) 0 (List.replicate 1080 0) (g0 (mTells c by_))) ∧ (dgs (plyG (mTells c by_) 0 (List.replicate 1080 0) (g0 (mTells c by_))).out).length = 18 ∧
  ∀ (i : Nat) d, (dgs (plyG (mTells c by_) 0 (List.replicate 1080 0) (g0 (mTells c by_))).out)[i]? = some d → d.e ≠ -1 ∧ d.to = [wantN by_ ((i + 1) / 2)]
end Go.Baro

set_option linter.unusedSimpArgs false
set_option linter.unusedVariables false
namespace Go.Proofs.YtnchgdjdfhfedaaGreatDoor
open Go.RowKit Go.Ord Go.Baro

/-- A function without an argument that gives words, or a code. -/
def W0Spec (F : FuncId) (ws : List Int) : Prop := ∀ (w : World) (hT : Tab w), Calls Tryz.prog F #[] w fun e w' => (∃ A n k, e = .returned (.slice A n k) ∧ n ≤ k ∧ k ≤ 9223372036854775807 ∧ QT w' 3 1 A n (ws.map (Value.int .i64))) ∧ Below w.heap.size w w'
def C0Spec (F : FuncId) (c : List Ins) : Prop := ∀ (w : World) (hT : Tab w), Calls Tryz.prog F #[] w fun e w' => (∃ A n k, e = .returned (.slice A n k) ∧ n ≤ k ∧ k ≤ 9223372036854775807 ∧ QT w' 67 5 A n (cellsO c)) ∧ Below w.heap.size w w'
structure CuOk (c : Cu) : Prop where
  w0 : 0 < c.ws.length
  w1 : c.ws.length ≤ 64
  wi : ∀ x ∈ c.ws, inW x
  a0 : 0 < c.ca.length
  ac : okC c.ca
  ai : ∀ o ∈ c.ca, inI o
  g0 : 0 < c.cg.length
  gc : okC c.cg
  gi : ∀ o ∈ c.cg, inI o
end Go.Proofs.YtnchgdjdfhfedaaGreatDoor

set_option linter.unusedSimpArgs false
set_option linter.unusedVariables false
namespace Go.Proofs.YtnchgdjdfhfedaaGreatDoor
open Go.RowKit Go.Ord Go.Baro
theorem own_geW {w : World} {B : Nat} {e : TypeId} {s n : Nat} {v : Value} {xs : List Value} (h : w.ownsRow B e s v n xs) {k : Nat} (hk : v.ownBlock = some k) : B ≤ k := by
  rcases h.2 with ⟨rfl, _⟩ | ⟨g, cap, cur, rfl, hB, _⟩
  · cases hk
  · injection hk with hk; subst hk; exact hB
theorem own_ltW {w : World} {B : Nat} {e : TypeId} {s n : Nat} {v : Value} {xs : List Value} (h : w.ownsRow B e s v n xs) {k : Nat} (hk : v.ownBlock = some k) : k < w.heap.size := by
  rcases h.2 with ⟨rfl, _⟩ | ⟨g, cap, cur, rfl, _, hh, _⟩
  · cases hk
  · injection hk with hk; subst hk; exact (Array.getElem?_eq_some_iff.1 hh).1
def PlPostW (T : List Ev) (W : List Int) (E : Int) (w : World) (e : Ending) (w' : World) : Prop :=
  ∃ A n c A1 n1 c1, e = .returned (.tuple #[.slice A n c, .slice A1 n1 c1, .int .i64 E]) ∧ REv w' w'.heap.size A n T ∧ RI w' w'.heap.size .i64 A1 n1 W ∧ n ≤ c ∧ n1 ≤ c1 ∧ n ≤ 12000 ∧ n1 ≤ 200 ∧ (∀ b o f, A = some ⟨b, o, f⟩ → w.heap.size ≤ b) ∧ Below w.heap.size w w'
theorem PlPostW.post {T : List Ev} {W : List Int} {E : Int} {w : World} {e : Ending} {w' : World} (h : PlPostW T W E w e w') : PlPost T W E w e w' := by
  obtain ⟨A, n, c, A1, n1, c1, h1, h2, h3, h4, h5, h6, h7, _, h8⟩ := h
  exact ⟨A, n, c, A1, n1, c1, h1, h2, h3, h4, h5, h6, h7, h8⟩
def PlaySpecW : Prop := ∀ (w : World) (hT : Tab w) (Aw : Option Addr) (nw cw : Nat) (Ac : Option Addr) (nc cc : Nat) (At : Option Addr) (nt ct : Nat) (m : Mc) (As : Option Addr) (ns cs : Nat) (s : List Int) (T : List Ev) (W : List Int) (E : Int) (hm : InM w Aw nw cw Ac nc cc At nt ct m)
    (hs : RI w w.heap.size .i64 As ns s) (hn : ns ≤ 140737488355328) (hR : PlR m s T W E), Calls Tryz.prog 12 #[.agg #[.slice Aw nw cw, .slice Ac nc cc, .slice At nt ct], .slice As ns cs] w (PlPostW T W E w)
theorem PlaySpecW.spec (h : PlaySpecW) : PlaySpec := fun w hT Aw nw cw Ac nc cc At nt ct m As ns cs s T W E hm hs hn hR => (h w hT Aw nw cw Ac nc cc At nt ct m As ns cs s T W E hm hs hn hR).mono fun _ _ h => h.post
end Go.Proofs.YtnchgdjdfhfedaaGreatDoor
