/- The machine that is drawn, as run.Play takes it. No statement of the seat is proved here; no condition. -/
import Derived.Test.YtjihopbapnfppaaDoorKeepMachP
import Derived.Test.YtjihopbapnfppaaDoorVmKeepPure
set_option linter.unusedSimpArgs false
set_option linter.unusedVariables false
namespace Go.Proofs.YtjihopbapnfppaaDoor
open Go.RowKit Go.Ord Go.Baro

/-- A call that is drawn, and a thread of such. -/
def okD (c : Cl) : Prop := (c.k = 0 ∨ c.k = 1) ∧ c.ar.length = 2 ∧ ∀ x ∈ c.ar, 0 ≤ x ∧ x < 1000
def okDs (t : List Cl) : Prop := t.length ≤ 12 ∧ ∀ c ∈ t, okD c
theorem clJ_ok (cs : List Int) {j : Nat} (hj : j < 12) : okD (clJ cs j) := by
  refine ⟨?_, rfl, fun x hx => ?_⟩
  · show (cs[j]?.getD 0) % 2 = 0 ∨ (cs[j]?.getD 0) % 2 = 1
    omega
  · simp only [clJ, List.mem_cons, List.not_mem_nil, or_false] at hx
    rcases hx with rfl | rfl <;> omega
theorem thJ_ok (cs : List Int) (q : Nat) : ∀ j, j ≤ 12 → okDs (thJ cs q j)
  | 0, _ => ⟨by simp [thJ], by simp [thJ]⟩
  | j + 1, hj => by
    have ih := thJ_ok cs q j (by omega)
    refine ⟨Nat.le_trans (thJ_len cs q (j + 1)) hj, fun c hc => ?_⟩
    unfold thJ at hc
    split at hc
    · rcases List.mem_append.1 hc with hc | hc
      · exact ih.2 c hc
      · rw [List.mem_singleton.1 hc]; exact clJ_ok cs (by omega)
    · exact ih.2 c hc
theorem thL_ok (cs : List Int) (q : Nat) : okDs (thL cs q) := thJ_ok cs q _ (by omega)
theorem nil_ok : okDs [] := ⟨by simp, by simp⟩
/-- The machine. -/
def mD (x0 x1 : List Ins) (T : Nat → List Cl) : Mc := ⟨List.replicate 8 0, [kN 12 x0, kN 12 x1], [T 0, T 1, T 2]⟩
theorem mD_ok {x0 x1 : List Ins} {T : Nat → List Cl} (h : ∀ i, i < 3 → okDs (T i)) : okMc (mD x0 x1 T) := by
  have ht : ∀ t, okDs t → t.length ≤ 20 ∧ ∀ c ∈ t, okCl (mD x0 x1 T) c := fun t ht => ⟨Nat.le_trans ht.1 (by omega), fun c hc => by
    obtain ⟨h1, h2, _⟩ := ht.2 c hc
    refine ⟨?_, by omega⟩
    show 0 ≤ c.k ∧ c.k < ((2 : Nat) : Int)
    omega⟩
  refine ⟨by simp [mD], by simp [mD], by simp [mD], fun c hc => ?_, fun t h' => ?_⟩
  · simp only [mD, List.mem_cons, List.not_mem_nil, or_false] at hc
    rcases hc with rfl | rfl <;> exact kN_ok (by omega) _
  · simp only [mD, List.mem_cons, List.not_mem_nil, or_false] at h'
    rcases h' with rfl | rfl | rfl
    · exact ht _ (h 0 (by omega))
    · exact ht _ (h 1 (by omega))
    · exact ht _ (h 2 (by omega))
theorem rows1_at {a b c : Value} {i : Nat} {r : List Value} (h : [[a], [b], [c]][i]? = some r) : (i = 0 ∧ r = [a]) ∨ (i = 1 ∧ r = [b]) ∨ (i = 2 ∧ r = [c]) := by
  match i with
  | 0 => exact .inl ⟨rfl, by simpa using h.symm⟩
  | 1 => exact .inr (.inl ⟨rfl, by simpa using h.symm⟩)
  | 2 => exact .inr (.inr ⟨rfl, by simpa using h.symm⟩)
  | i + 3 => simp at h
section
variable {tg : Nat → Nat} {w w' : World} {B gw gc g6 q : Nat} {v0 v1 : Value} {ts : Nat → Value} {x0 x1 : List Ins} {T : Nat → List Cl}
theorem Mo.inM (h : Mo tg w B gw gc g6 v0 v1 ts (kN 12 x0) (kN 12 x1) T) (hT : ∀ i, i < 3 → okDs (T i)) : InM w (some ⟨gw, 0, none⟩) 8 8 (some ⟨gc, 0, none⟩) 2 2 (some ⟨g6, 0, none⟩) 3 3 (mD x0 x1 T) := by
  have hth : ∀ t, okDs t → okTh t := fun t ht => ⟨by have := ht.1; omega, fun c hc => by
    obtain ⟨h1, h2, h3⟩ := ht.2 c hc
    refine ⟨by unfold inW; omega, by omega, fun x hx => ?_⟩
    have := h3 x hx
    unfold inW
    omega⟩
  refine ⟨?_, ?_, ?_, ?_, ?_, ?_, by omega, by omega, by omega⟩
  · have := Rd.of_own h.words
    exact this
  · obtain ⟨n, hn, hk⟩ := h.k0
    obtain ⟨n', hn', hk'⟩ := h.k1
    obtain ⟨A, c, rfl, hlc⟩ := own_form hk
    obtain ⟨A', c', rfl, hlc'⟩ := own_form hk'
    refine rg_box (rows := [[.slice A n c], [.slice A' n' c']]) h.codes rfl rfl (by simp) fun i r x hr hx => ?_
    match i with
    | 0 =>
      simp only [List.getElem?_cons_zero, Option.some.injEq, mD] at hr hx
      subst hr hx
      exact ⟨_, _, _, rfl, hlc, Rd.of_own hk⟩
    | 1 =>
      simp only [List.getElem?_cons_zero, List.getElem?_cons_succ, Option.some.injEq, mD] at hr hx
      subst hr hx
      exact ⟨_, _, _, rfl, hlc', Rd.of_own hk'⟩
    | i + 2 => simp at hr
  · refine rg_box (rows := [[ts 0], [ts 1], [ts 2]]) h.thr rfl rfl (by simp) fun i r x hr hx => ?_
    have key : ∀ j, j < 3 → eT w w.heap.size [ts j] (T j) := fun j hj => by
      obtain ⟨A, c, e, hlc, hr⟩ := (h.row j hj).post
      rw [e]
      exact ⟨_, _, _, rfl, hlc, hr⟩
    rcases rows1_at hr with ⟨rfl, rfl⟩ | ⟨rfl, rfl⟩ | ⟨rfl, rfl⟩
    · simp only [List.getElem?_cons_zero, Option.some.injEq, mD] at hx
      subst hx
      exact key 0 (by omega)
    · simp only [List.getElem?_cons_zero, List.getElem?_cons_succ, Option.some.injEq, mD] at hx
      subst hx
      exact key 1 (by omega)
    · simp only [List.getElem?_cons_zero, List.getElem?_cons_succ, Option.some.injEq, mD] at hx
      subst hx
      exact key 2 (by omega)
  · intro x hx
    rw [show (mD x0 x1 T).ws = List.replicate 8 0 from rfl] at hx
    rw [(List.mem_replicate.1 hx).2]
    unfold inW
    omega
  · intro c hc
    simp only [mD, List.mem_cons, List.not_mem_nil, or_false] at hc
    rcases hc with rfl | rfl <;> exact ⟨by rw [kN_len]; omega, kN_in (by omega) _⟩
  · intro t h'
    simp only [mD, List.mem_cons, List.not_mem_nil, or_false] at h'
    rcases h' with rfl | rfl | rfl
    · exact hth _ (hT 0 (by omega))
    · exact hth _ (hT 1 (by omega))
    · exact hth _ (hT 2 (by omega))
/-- A thread is left without calls. -/
theorem Mo.clear (h : Mo tg w B gw gc g6 v0 v1 ts (kN 12 x0) (kN 12 x1) T) (hq : q < 3) : Mo tg (w.setCell ⟨g6, q, none⟩ (.slice none 0 0)) B gw gc g6 v0 v1 (fun i => if i = q then .slice none 0 0 else ts i) (kN 12 x0) (kN 12 x1) (fun i => if i = q then [] else T i) := by
  have hu2 : Un (fun k => k = g6) w (w.setCell ⟨g6, q, none⟩ (.slice none 0 0)) := un_at (X := fun k => k = g6) (Un.refl _ _) rfl _ _
  have hX2 : ∀ k t, k = g6 → Ty w k t → t = 58 := fun k t hk ht => by subst hk; exact ht.one h.thr.ty
  refine ⟨own_un h.words hu2 fun k hk hx => absurd (hX2 k _ hx (own_ty h.words hk)) (by decide), h.codes.un hu2 fun hx => absurd (hX2 gc _ hx h.codes.ty) (by decide), ?_, ?_, ?_, fun i hi => ?_, fun i hi k hk => ?_, h.B6⟩
  · obtain ⟨n, hn, hk⟩ := h.k0
    exact ⟨n, hn, own_un hk hu2 fun k hk' hx => absurd (hX2 k _ hx (own_ty hk hk')) (by decide)⟩
  · obtain ⟨n, hn, hk⟩ := h.k1
    exact ⟨n, hn, own_un hk hu2 fun k hk' hx => absurd (hX2 k _ hx (own_ty hk hk')) (by decide)⟩
  · have := h.thr.set q (.slice none 0 0)
    rw [three_set ts (fun i => if i = q then .slice none 0 0 else ts i) hq (by simp) (fun i hi => by simp [hi])] at this
    exact this
  · by_cases hiq : i = q
    · rw [if_pos hiq, if_pos hiq]; exact Cr.nil _ _ _ _
    · rw [if_neg hiq, if_neg hiq]
      obtain ⟨rows', _, _, h3', _⟩ := id (h.row i hi)
      exact (h.row i hi).un hu2 (fun k hk hx => absurd (hX2 k _ hx (own_ty h3' hk)) (by decide)) (fun b hb hx => absurd (hX2 b _ hx hb) (by decide))
  · by_cases hiq : i = q
    · rw [if_pos hiq] at hk; cases hk
    · rw [if_neg hiq] at hk; exact h.tag i hi k hk
theorem Mo.below (h : Mo tg w B gw gc g6 v0 v1 ts (kN 12 x0) (kN 12 x1) T) (hb : Below w.heap.size w w') : Mo tg w' B gw gc g6 v0 v1 ts (kN 12 x0) (kN 12 x1) T := h.un (X := fun _ => False) (un_below hb) (fun _ _ h => h.elim)
end
end Go.Proofs.YtjihopbapnfppaaDoor
