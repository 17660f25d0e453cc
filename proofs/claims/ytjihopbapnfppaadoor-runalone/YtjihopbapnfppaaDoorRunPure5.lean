/- A thread that is alone, call by call. No statement of the seat is proved here; no condition. -/
import Derived.Test.YtjihopbapnfppaaDoorRunPure3
import Derived.Test.YtjihopbapnfppaaDoorRunPure4
set_option linter.unusedSimpArgs false
set_option linter.unusedVariables false
namespace Go.Baro

theorem stp_wl (n : Nat) (o : Ins) (s : Vs) : (stp n o s).1.w.length = s.w.length :=
  stp_any (P := fun r => r.1.w.length = s.w.length) (fun _ _ => rfl) (fun _ _ _ _ => by simp) (fun _ _ => rfl) (fun _ _ _ => rfl) (fun _ _ => rfl)
theorem exc_wl (l : Lv) (w : List Int) : (exc l w).2.1.length = w.length := by
  unfold exc
  split
  · rfl
  · exact stp_wl _ _ _
theorem actL_wl (g : Gs) (st n bg : Nat) (l : Lv) (o : List Ev) : (actL g st n bg l o).w.length = g.w.length := by
  unfold actL
  dsimp only
  split <;> exact exc_wl _ _
theorem actG_wl (m : Mc) (g : Gs) (st n : Nat) : (actG m g st n).w.length = g.w.length := by
  unfold actG
  split
  · exact actL_wl _ _ _ _ _ _
  · split
    · rfl
    · exact actL_wl _ _ _ _ _ _
theorem plyG_wl (m : Mc) : ∀ (l : List Nat) (st : Nat) (g : Gs), (plyG m st l g).w.length = g.w.length
  | [], _, _ => rfl
  | n :: l, st, g => (plyG_wl m l (st + 1) _).trans (actG_wl m g st n)
/-- A run that is checked and found right. -/
theorem vmR_good {c : List Ins} {ar ws : List Int} {L : Nat} (hc : okC c) (ha : ar.length ≤ 8) (hw : ws.length ≤ 200) (hL : L ≤ 6000) : vmR c ar ws L = ((rn c L (st0 ar ws)).1.t, (rn c L (st0 ar ws)).1.w, (rn c L (st0 ar ws)).2.1, (rn c L (st0 ar ws)).2.2) := by
  have hx : vmX c ar ws L = 0 := by
    unfold vmX
    rw [if_neg (by simpa using hc), if_neg (by omega), if_neg (by omega)]
  unfold vmR
  rw [if_pos hx, Int.toNat_natCast]
/-- Thread 0 has done i calls in k steps. -/
structure At (M : Mc) (i k : Nat) (g : Gs) : Prop where
  g_ : g = plyG M 0 (List.replicate k 0) (g0 M)
  th : g.th 0 = ⟨none, i⟩
  out : g.out.length = 2 * i
theorem At.init (M : Mc) : At M 0 0 (g0 M) := ⟨rfl, rfl, rfl⟩
section
variable {M : Mc} {i k L : Nat} {g : Gs} {c : Cl}
theorem At.more (h : At M i k g) (L : Nat) : plyG M 0 (List.replicate (k + L) 0) (g0 M) = plyG M k (List.replicate L 0) g := by
  rw [ply_more, Nat.zero_add, ← h.g_]
theorem At.done (h : At M i k g) (hc : (M.ts[0]?.getD [])[i]? = none) (L : Nat) : plyG M 0 (List.replicate (k + L) 0) (g0 M) = g := by
  rw [h.more]
  have hact : ∀ st, actG M g st 0 = g := fun st => by
    unfold actG
    rw [h.th]
    dsimp only
    rw [hc]
  have : ∀ (L st : Nat), plyG M st (List.replicate L 0) g = g := by
    intro L
    induction L with
    | zero => intro st; rfl
    | succ L ih => intro st; rw [ply_one, hact]; exact ih _
  exact this L k
theorem At.call (h : At M i k g) (hc : (M.ts[0]?.getD [])[i]? = some c) (hL : 1 ≤ L) :
    ((rn (M.cs[c.k.toNat]?.getD []) L (st0 c.ar g.w)).2.2 = 11 → (plyG M 0 (List.replicate (k + L) 0) (g0 M)).out.length = 2 * i + 1) ∧
    ((rn (M.cs[c.k.toNat]?.getD []) L (st0 c.ar g.w)).2.2 ≠ 11 → ∃ g', At M (i + 1) (k + max 1 (rn (M.cs[c.k.toNat]?.getD []) L (st0 c.ar g.w)).2.1) g' ∧ max 1 (rn (M.cs[c.k.toNat]?.getD []) L (st0 c.ar g.w)).2.1 ≤ L ∧ g'.w = (rn (M.cs[c.k.toNat]?.getD []) L (st0 c.ar g.w)).1.w ∧
      ∃ st st' es, (plyG M 0 (List.replicate (k + L) 0) (g0 M)).out = g.out ++ ([⟨st, 0, i, false, 0, []⟩, ⟨st', 0, i, true, (rn (M.cs[c.k.toNat]?.getD []) L (st0 c.ar g.w)).2.2, (rn (M.cs[c.k.toNat]?.getD []) L (st0 c.ar g.w)).1.t⟩] ++ es)) := by
  have hr := call_run (m := M) (n := 0) (L := L) (st := k) (i := i) (g := g) (c := c) h.th hc hL
  dsimp only at hr
  obtain ⟨h1, h2⟩ := hr
  refine ⟨fun he => ?_, fun he => ?_⟩
  · rw [h.more, h1 he]; simp [h.out]
  · obtain ⟨st', k1, k2, k3, k4⟩ := h2 he
    generalize hmx : max 1 (rn (M.cs[c.k.toNat]?.getD []) L (st0 c.ar g.w)).2.1 = mx at k1 k2 k3 k4 ⊢
    refine ⟨_, ⟨rfl, ?_, ?_⟩, k1, ?_, k, st', ?_⟩
    · rw [h.more]; exact k3
    · rw [h.more, k4]; simp [h.out]; omega
    · rw [h.more]; exact k2
    · obtain ⟨es, h3, _⟩ := plyG_out M (List.replicate (L - mx) 0) (k + mx) (plyG M k (List.replicate mx 0) g)
      refine ⟨es, ?_⟩
      have e := ply_more M k 0 mx (L - mx) g
      rw [show mx + (L - mx) = L by omega] at e
      rw [h.more, e, h3, k4, List.append_assoc]
end
end Go.Baro
