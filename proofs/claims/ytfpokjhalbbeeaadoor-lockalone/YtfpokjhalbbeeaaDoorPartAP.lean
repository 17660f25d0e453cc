/- Of this claim's own texts these, one behind the other: LockAlg, LockAlg5. No statement of the seat is proved here; no condition but those that stand at the theorems. -/
import Derived.Test.YtfpokjhalbbeeaaDoorPartAO
import Derived.Test.YtfpokjhalbbeeaaDoorPartAM
set_option linter.unusedSimpArgs false
set_option linter.unusedVariables false
namespace Go.Baro.Lok
open Go.RowKit (wrap64)

/-- How many leaves, and how many levels below the root. -/
def lv (n : Nat) : Nat := if n ≤ 2 then 2 else 4
def ht (L : Nat) : Nat := if L = 2 then 1 else 2
def wsL (n : Nat) : List Int := List.replicate (3 * lv n) 0
def entC (L : Nat) : List Ins :=
  [⟨1, 1, L, 0, 0⟩, ⟨3, 2, 1, 0, 0⟩, ⟨1, 3, 1, 0, 0⟩, ⟨1, 4, 2, 0, 0⟩, ⟨1, 5, 1, 0, 0⟩, ⟨6, 6, 2, 4, 0⟩, ⟨7, 7, 2, 4, 0⟩, ⟨3, 8, 2, 3, 0⟩, ⟨4, 8, 8, 7, 0⟩, ⟨4, 8, 8, 7, 0⟩,
   ⟨14, 3, 2, 0, 0⟩, ⟨14, 2, 6, 2 * L, 0⟩, ⟨13, 9, 8, 0, 0⟩, ⟨12, 9, 17, 0, 0⟩, ⟨13, 10, 6, 2 * L, 0⟩, ⟨8, 10, 10, 2, 0⟩, ⟨11, 10, 12, 0, 0⟩, ⟨2, 2, 6, 0, 0⟩, ⟨8, 11, 2, 5, 0⟩, ⟨12, 11, 5, 0, 0⟩]
def leaC (L : Nat) : List Ins :=
  if L = 2 then [⟨1, 1, 2, 0, 0⟩, ⟨3, 2, 1, 0, 0⟩, ⟨1, 3, 0, 0, 0⟩, ⟨1, 4, 1, 0, 0⟩, ⟨6, 5, 2, 4, 0⟩, ⟨14, 3, 5, 0, 0⟩]
  else [⟨1, 1, 4, 0, 0⟩, ⟨3, 2, 1, 0, 0⟩, ⟨1, 3, 0, 0, 0⟩, ⟨1, 4, 2, 0, 0⟩, ⟨6, 5, 2, 4, 0⟩, ⟨14, 3, 5, 0, 0⟩, ⟨1, 4, 1, 0, 0⟩, ⟨6, 5, 2, 4, 0⟩, ⟨14, 3, 5, 0, 0⟩]
theorem entC_len (L : Nat) : (entC L).length = 20 := rfl

/-- The node of a thread at a level. -/
def nd (L t j : Nat) : Nat := (L + t) / 2 ^ j
theorem nd_zero (L t : Nat) : nd L t 0 = L + t := by simp [nd]
theorem nd_succ (L t j : Nat) : nd L t (j + 1) = nd L t j / 2 := by
  unfold nd
  rw [Nat.pow_succ, Nat.div_div_eq_div_mul]
def okL (L : Nat) : Prop := L = 2 ∨ L = 4
theorem nd_lim {L t j : Nat} (hL : okL L) (ht' : t < L) (hj : j < ht L) : 2 ≤ nd L t j ∧ nd L t j < 2 * L := by
  unfold ht at hj
  unfold nd
  rcases hL with rfl | rfl
  · obtain rfl : j = 0 := by simp at hj; omega
    simp; omega
  · simp at hj
    rcases (by omega : j = 0 ∨ j = 1) with rfl | rfl <;> simp <;> omega
theorem nd_up {L t j : Nat} (hL : okL L) (ht' : t < L) (hj : j < ht L) : 1 ≤ nd L t (j + 1) ∧ nd L t (j + 1) < L := by
  have := nd_lim hL ht' hj
  rw [nd_succ]; omega
theorem nd_level {L t u i j : Nat} (hL : okL L) (h1 : t < L) (h2 : u < L) (hi : i < ht L) (hj : j < ht L) (h : nd L t i = nd L u j) : i = j := by
  unfold ht at hi hj
  unfold nd at h
  rcases hL with rfl | rfl
  · simp at hi hj; omega
  · simp at hi hj
    rcases (by omega : i = 0 ∨ i = 1) with rfl | rfl <;> rcases (by omega : j = 0 ∨ j = 1) with rfl | rfl <;> simp at h <;> omega
theorem nd_top {L t j : Nat} (hL : okL L) (h1 : t < L) (hj : j < ht L) : nd L t (j + 1) = 1 ↔ j + 1 = ht L := by
  unfold ht at hj ⊢
  unfold nd
  rcases hL with rfl | rfl
  · obtain rfl : j = 0 := by simp at hj; omega
    simp; omega
  · simp at hj ⊢
    rcases (by omega : j = 0 ∨ j = 1) with rfl | rfl <;> simp <;> omega
/-- The other node below the one above. -/
def sib (x : Nat) : Nat := x + 1 - x % 2 - x % 2
theorem sib_of {x y : Nat} (h : x / 2 = y / 2) (hne : x ≠ y) : y = sib x := by unfold sib; omega
theorem sib_lim {L x : Nat} (hL : okL L) (h : 2 ≤ x ∧ x < 2 * L) : 2 ≤ sib x ∧ sib x < 2 * L := by
  unfold sib
  rcases hL with rfl | rfl <;> omega

/-- Where a thread stands: at each level 0: it is not there; 1: it has said that it is; 2: it has come last, too, and waits; 3: it has gone on. -/
abbrev Ph := Nat → Nat → Nat
structure GI (L : Nat) (w : List Int) (f : Ph) : Prop where
  len : 3 * L ≤ w.length
  top : ∀ t, t < L → ∀ j, f t j ≤ 3 ∧ (ht L ≤ j → f t j = 0)
  chn : ∀ t, t < L → ∀ j, 1 ≤ f t (j + 1) → f t j = 3
  prs : ∀ t, t < L → ∀ j, j < ht L → 1 ≤ f t j → rd w (nd L t j) = 1
  lst : ∀ t, t < L → ∀ j, j < ht L → 2 ≤ f t j → rd w (2 * L + nd L t (j + 1)) = nd L t j ∨ rd w (2 * L + nd L t (j + 1)) = sib (nd L t j)
  two : ∀ t, t < L → ∀ u, u < L → t ≠ u → ∀ j, j < ht L → nd L t (j + 1) = nd L u (j + 1) → nd L t j ≠ nd L u j → f t j = 3 → 2 ≤ f u j → f u j = 2 ∧ rd w (2 * L + nd L u (j + 1)) = nd L u j
def pu (f : Ph) (t : Nat) (x : Nat → Nat) : Ph := fun i => if i = t then x else f i
theorem pu_same (f : Ph) (t : Nat) (x : Nat → Nat) : pu f t x t = x := by simp [pu]
theorem pu_other (f : Ph) {t u : Nat} (x : Nat → Nat) (h : u ≠ t) : pu f t x u = f u := by simp [pu, h]
def lu (x : Nat → Nat) (j v : Nat) : Nat → Nat := fun i => if i = j then v else x i
theorem lu_same (x : Nat → Nat) (j v : Nat) : lu x j v j = v := by simp [lu]
theorem lu_other (x : Nat → Nat) {j i : Nat} (v : Nat) (h : i ≠ j) : lu x j v i = x i := by simp [lu, h]
variable {L : Nat} {w : List Int} {f : Ph} {t u j : Nat}

/-- At most one thread is at a node. -/
theorem GI.one (hL : okL L) (h : GI L w f) (ht' : t < L) (hu : u < L) (hne : t ≠ u) : ∀ j, j < ht L → nd L t j = nd L u j → 1 ≤ f t j → 1 ≤ f u j → False := by
  intro j
  induction j with
  | zero => intro _ hn _ _; rw [nd_zero, nd_zero] at hn; omega
  | succ j ih =>
    intro hj hn h1 h2
    have c1 := h.chn t ht' j h1
    have c2 := h.chn u hu j h2
    by_cases hs : nd L t j = nd L u j
    · exact ih (by omega) hs (by omega) (by omega)
    · have := (h.two t ht' u hu hne j (by omega) hn hs c1 (by omega)).1
      omega
/-- At most one thread has gone through. -/
theorem GI.excl (hL : okL L) (h : GI L w f) (ht' : t < L) (hu : u < L) (hne : t ≠ u) (h1 : ∀ j, j < ht L → f t j = 3) (h2 : ∀ j, j < ht L → f u j = 3) : False := by
  have hp : 1 ≤ ht L := by unfold ht; split <;> omega
  have q1 := h1 (ht L - 1) (by omega)
  have q2 := h2 (ht L - 1) (by omega)
  have e1 := (nd_top hL ht' (j := ht L - 1) (by omega)).2 (by omega)
  have e2 := (nd_top hL hu (j := ht L - 1) (by omega)).2 (by omega)
  by_cases hs : nd L t (ht L - 1) = nd L u (ht L - 1)
  · exact h.one hL ht' hu hne _ (by omega) hs (by omega) (by omega)
  · have := (h.two t ht' u hu hne _ (by omega) (by rw [e1, e2]) hs q1 (by omega)).1
    omega
/-- A thread says that it is present. -/
theorem GI.come (hL : okL L) (h : GI L w f) (ht' : t < L) (hj : j < ht L) (h0 : f t j = 0) (hc : ∀ i, i < j → f t i = 3) (hz : ∀ i, j < i → f t i = 0) : GI L (w.set (nd L t j) 1) (pu f t (lu (f t) j 1)) := by
  obtain ⟨n1, n2⟩ := nd_lim hL ht' hj
  have hl : nd L t j < w.length := by have := h.len; omega
  have hT : ∀ x, 2 * L ≤ x → rd (w.set (nd L t j) 1) x = rd w x := fun x hx => rd_other (by omega)
  refine ⟨by simpa using h.len, fun v hv i => ?_, fun v hv i hi => ?_, fun v hv i hi h1 => ?_, fun v hv i hi h2 => ?_, fun v hv y hy hne i hi hn hs h3 h2 => ?_⟩
  · by_cases hvt : v = t
    · subst hvt
      rw [pu_same]
      by_cases hij : i = j
      · subst hij; rw [lu_same]; exact ⟨by omega, fun h => by omega⟩
      · rw [lu_other _ _ hij]; exact h.top v hv i
    · rw [pu_other _ _ hvt]; exact h.top v hv i
  · by_cases hvt : v = t
    · subst hvt
      rw [pu_same] at hi ⊢
      by_cases hij : i + 1 = j
      · rw [lu_other _ _ (by omega)]; exact hc i (by omega)
      · rw [lu_other _ _ hij] at hi
        have := h.chn v hv i hi
        rw [lu_other _ _ (by rintro rfl; omega)]; exact this
    · rw [pu_other _ _ hvt] at hi ⊢; exact h.chn v hv i hi
  · rw [rd_set hl]
    split
    · rfl
    · rename_i hne
      by_cases hvt : v = t
      · subst hvt
        rw [pu_same] at h1
        by_cases hij : i = j
        · subst hij; exact absurd rfl hne
        · rw [lu_other _ _ hij] at h1; exact h.prs v hv i hi h1
      · rw [pu_other _ _ hvt] at h1; exact h.prs v hv i hi h1
  · rw [hT _ (by omega)]
    by_cases hvt : v = t
    · subst hvt
      rw [pu_same] at h2
      by_cases hij : i = j
      · subst hij; rw [lu_same] at h2; omega
      · rw [lu_other _ _ hij] at h2; exact h.lst v hv i hi h2
    · rw [pu_other _ _ hvt] at h2; exact h.lst v hv i hi h2
  · rw [hT _ (by omega)]
    have e3 : f v i = 3 := by
      by_cases hvt : v = t
      · subst hvt
        rw [pu_same] at h3
        by_cases hij : i = j
        · subst hij; rw [lu_same] at h3; omega
        · rwa [lu_other _ _ hij] at h3
      · rwa [pu_other _ _ hvt] at h3
    have e2 : pu f t (lu (f t) j 1) y i = f y i := by
      by_cases hyt : y = t
      · subst hyt
        rw [pu_same] at h2 ⊢
        by_cases hij : i = j
        · subst hij; rw [lu_same] at h2; omega
        · rw [lu_other _ _ hij]
      · rw [pu_other _ _ hyt]
    rw [e2] at h2 ⊢
    exact h.two v hv y hy hne i hi hn hs e3 h2
/-- A thread comes last. -/
theorem GI.last (hL : okL L) (h : GI L w f) (ht' : t < L) (hj : j < ht L) (h1 : f t j = 1) : GI L (w.set (2 * L + nd L t (j + 1)) (nd L t j : Nat)) (pu f t (lu (f t) j 2)) := by
  obtain ⟨n1, n2⟩ := nd_lim hL ht' hj
  obtain ⟨n3, n4⟩ := nd_up hL ht' hj
  have hl : 2 * L + nd L t (j + 1) < w.length := by have := h.len; omega
  have hP : ∀ x, x < 2 * L → rd (w.set (2 * L + nd L t (j + 1)) (nd L t j : Nat)) x = rd w x := fun x hx => rd_other (by omega)
  have hph : ∀ v i, pu f t (lu (f t) j 2) v i = f v i ∨ (v = t ∧ i = j ∧ pu f t (lu (f t) j 2) v i = 2) := fun v i => by
    by_cases hvt : v = t
    · subst hvt
      rw [pu_same]
      by_cases hij : i = j
      · subst hij; rw [lu_same]; exact .inr ⟨rfl, rfl, rfl⟩
      · rw [lu_other _ _ hij]; exact .inl rfl
    · rw [pu_other _ _ hvt]; exact .inl rfl
  have hlev : ∀ v, v < L → ∀ i, i < ht L → nd L v (i + 1) = nd L t (j + 1) → i = j := fun v hv i hi e => by
    by_cases hi2 : i + 1 < ht L
    · by_cases hj2 : j + 1 < ht L
      · have := nd_level hL hv ht' hi2 hj2 e; omega
      · have q1 := (nd_top hL ht' hj).2 (by omega)
        have := nd_lim hL hv hi2
        omega
    · have q1 := (nd_top hL hv hi).2 (by omega)
      by_cases hj2 : j + 1 < ht L
      · have := nd_lim hL ht' hj2; omega
      · omega
  refine ⟨by simpa using h.len, fun v hv i => ?_, fun v hv i hi => ?_, fun v hv i hi g1 => ?_, fun v hv i hi g2 => ?_, fun v hv y hy hne i hi hn hs g3 g2 => ?_⟩
  · rcases hph v i with e | ⟨e1, e2, e3⟩
    · rw [e]; exact h.top v hv i
    · rw [e3]; exact ⟨by omega, fun h => by omega⟩
  · rcases hph v (i + 1) with e | ⟨e1, e2, e3⟩
    · rw [e] at hi
      have := h.chn v hv i hi
      rcases hph v i with k | ⟨k1, k2, k3⟩
      · rw [k]; exact this
      · subst k1 k2; omega
    · have : f v (i + 1) = 1 := by rw [e1, e2]; exact h1
      have := h.chn v hv i (by omega)
      rcases hph v i with k | ⟨k1, k2, k3⟩
      · rw [k]; exact this
      · omega
  · rw [hP _ (nd_lim hL hv hi).2]
    rcases hph v i with e | ⟨e1, e2, e3⟩
    · rw [e] at g1; exact h.prs v hv i hi g1
    · subst e1 e2; exact h.prs v hv i hi (by omega)
  · by_cases hp : nd L v (i + 1) = nd L t (j + 1)
    · have hij := hlev v hv i hi hp
      subst hij
      rw [hp, rd_same hl]
      by_cases hs : nd L v i = nd L t i
      · left; rw [hs]
      · right
        rw [nd_succ, nd_succ] at hp
        rw [sib_of hp hs]
    · rw [rd_other (by omega)]
      rcases hph v i with e | ⟨e1, e2, e3⟩
      · rw [e] at g2; exact h.lst v hv i hi g2
      · subst e1 e2; exact absurd rfl hp
  · have e3 : f v i = 3 := by rcases hph v i with e | ⟨_, _, e⟩ <;> omega
    by_cases hp : nd L y (i + 1) = nd L t (j + 1)
    · have hij := hlev y hy i hi hp
      subst hij
      have hvt : v ≠ t := by rintro rfl; omega
      have e2 : y = t := by
        refine Classical.byContradiction fun hyt => ?_
        rw [pu_other _ _ hyt] at g2
        -- three threads at two nodes
        by_cases q1 : nd L v i = nd L t i
        · exact h.one hL hv ht' hvt i hi q1 (by omega) (by omega)
        · by_cases q2 : nd L y i = nd L t i
          · exact h.one hL hy ht' hyt i hi q2 (by omega) (by omega)
          · rw [nd_succ, nd_succ] at hp hn
            have a1 := sib_of (show nd L t i / 2 = nd L v i / 2 by omega) (fun e => q1 e.symm)
            have a2 := sib_of (show nd L t i / 2 = nd L y i / 2 by omega) (fun e => q2 e.symm)
            exact hs (a1.trans a2.symm)
      subst e2
      rw [pu_same, lu_same, rd_same hl]
      exact ⟨rfl, rfl⟩
    · rw [rd_other (by omega)]
      rcases hph y i with e | ⟨e1, e2, e4⟩
      · rw [e] at g2 ⊢
        exact h.two v hv y hy hne i hi hn hs e3 g2
      · subst e1 e2; exact absurd rfl hp
/-- A thread goes on. -/
theorem GI.pass (hL : okL L) (h : GI L w f) (ht' : t < L) (hj : j < ht L) (h2 : f t j = 2) (hw : rd w (sib (nd L t j)) = 0 ∨ rd w (2 * L + nd L t (j + 1)) ≠ nd L t j) : GI L w (pu f t (lu (f t) j 3)) := by
  have hph : ∀ v i, pu f t (lu (f t) j 3) v i = f v i ∨ (v = t ∧ i = j ∧ pu f t (lu (f t) j 3) v i = 3) := fun v i => by
    by_cases hvt : v = t
    · subst hvt
      rw [pu_same]
      by_cases hij : i = j
      · subst hij; rw [lu_same]; exact .inr ⟨rfl, rfl, rfl⟩
      · rw [lu_other _ _ hij]; exact .inl rfl
    · rw [pu_other _ _ hvt]; exact .inl rfl
  refine ⟨h.len, fun v hv i => ?_, fun v hv i hi => ?_, fun v hv i hi g1 => ?_, fun v hv i hi g2 => ?_, fun v hv y hy hne i hi hn hs g3 g2 => ?_⟩
  · rcases hph v i with e | ⟨e1, e2, e3⟩
    · rw [e]; exact h.top v hv i
    · rw [e3]; exact ⟨by omega, fun h => by omega⟩
  · have hi' : 1 ≤ f v (i + 1) := by
      rcases hph v (i + 1) with e | ⟨e1, e2, e3⟩
      · rw [e] at hi; exact hi
      · rw [e1, e2]; omega
    have := h.chn v hv i hi'
    rcases hph v i with k | ⟨k1, k2, k3⟩
    · rw [k]; exact this
    · exact k3
  · rcases hph v i with e | ⟨e1, e2, e3⟩
    · rw [e] at g1; exact h.prs v hv i hi g1
    · subst e1 e2; exact h.prs v hv i hi (by omega)
  · rcases hph v i with e | ⟨e1, e2, e3⟩
    · rw [e] at g2; exact h.lst v hv i hi g2
    · subst e1 e2; exact h.lst v hv i hi (by omega)
  · rcases hph v i with e | ⟨e1, e2, e3⟩
    · rw [e] at g3
      rcases hph y i with k | ⟨k1, k2, k3⟩
      · rw [k] at g2 ⊢; exact h.two v hv y hy hne i hi hn hs g3 g2
      · -- another one has gone on: this one may not
        subst k1 k2
        have := (h.two v hv y hy hne i hi hn hs g3 (by omega)).2
        rcases hw with hw | hw
        · rw [nd_succ, nd_succ] at hn
          rw [← sib_of hn.symm (fun e => hs e.symm)] at hw
          have := h.prs v hv i hi (by omega)
          omega
        · exact absurd this hw
    · subst e1 e2
      have hyt : y ≠ v := fun e => hne e.symm
      rw [pu_other _ _ hyt] at g2 ⊢
      have hp : nd L v i / 2 = nd L y i / 2 := by rw [nd_succ, nd_succ] at hn; exact hn
      have hsib := sib_of hp hs
      have hy3 : f y i ≠ 3 := fun e => by
        have := (h.two y hy v hv hyt i hi hn.symm (fun e => hs e.symm) e (by omega)).2
        rcases hw with hw | hw
        · rw [← hsib] at hw
          have := h.prs y hy i hi (by omega)
          omega
        · exact absurd this hw
      have := (h.top y hy i).1
      refine ⟨by omega, ?_⟩
      rcases hw with hw | hw
      · rw [← hsib] at hw
        have := h.prs y hy i hi (by omega)
        omega
      · rcases h.lst v hv i hi (by omega) with k | k
        · exact absurd k hw
        · rw [← hn, k, ← hsib]
/-- A thread leaves a node. -/
theorem GI.go (hL : okL L) (h : GI L w f) (ht' : t < L) (hj : j < ht L) (h3 : 1 ≤ f t j) (hz : ∀ i, j < i → f t i = 0) : GI L (w.set (nd L t j) 0) (pu f t (lu (f t) j 0)) := by
  obtain ⟨n1, n2⟩ := nd_lim hL ht' hj
  have hl : nd L t j < w.length := by have := h.len; omega
  have hT : ∀ x, 2 * L ≤ x → rd (w.set (nd L t j) 0) x = rd w x := fun x hx => rd_other (by omega)
  have hph : ∀ v i, (pu f t (lu (f t) j 0) v i = f v i ∧ ¬ (v = t ∧ i = j)) ∨ (v = t ∧ i = j ∧ pu f t (lu (f t) j 0) v i = 0) := fun v i => by
    by_cases hvt : v = t
    · subst hvt
      rw [pu_same]
      by_cases hij : i = j
      · subst hij; rw [lu_same]; exact .inr ⟨rfl, rfl, rfl⟩
      · rw [lu_other _ _ hij]; exact .inl ⟨rfl, fun h => hij h.2⟩
    · rw [pu_other _ _ hvt]; exact .inl ⟨rfl, fun h => hvt h.1⟩
  refine ⟨by simpa using h.len, fun v hv i => ?_, fun v hv i hi => ?_, fun v hv i hi g1 => ?_, fun v hv i hi g2 => ?_, fun v hv y hy hne i hi hn hs g3 g2 => ?_⟩
  · rcases hph v i with ⟨e, _⟩ | ⟨e1, e2, e3⟩
    · rw [e]; exact h.top v hv i
    · rw [e3]; exact ⟨by omega, fun _ => rfl⟩
  · rcases hph v (i + 1) with ⟨e, _⟩ | ⟨e1, e2, e3⟩
    · rw [e] at hi
      have := h.chn v hv i hi
      rcases hph v i with ⟨k, _⟩ | ⟨k1, k2, k3⟩
      · rw [k]; exact this
      · subst k1 k2
        have := hz (i + 1) (by omega); omega
    · omega
  · rcases hph v i with ⟨e, he⟩ | ⟨e1, e2, e3⟩
    · rw [e] at g1
      rw [rd_other]
      · exact h.prs v hv i hi g1
      · intro hn
        obtain rfl := nd_level hL hv ht' hi hj hn
        by_cases hvt : v = t
        · exact he ⟨hvt, rfl⟩
        · exact h.one hL hv ht' hvt i hi hn g1 h3
    · omega
  · rw [hT _ (by omega)]
    rcases hph v i with ⟨e, _⟩ | ⟨e1, e2, e3⟩
    · rw [e] at g2; exact h.lst v hv i hi g2
    · omega
  · rw [hT _ (by omega)]
    rcases hph v i with ⟨e, _⟩ | ⟨_, _, e⟩
    · rcases hph y i with ⟨k, _⟩ | ⟨_, _, k⟩
      · rw [e] at g3
        rw [k] at g2 ⊢
        exact h.two v hv y hy hne i hi hn hs g3 g2
      · omega
    · omega
/-- Words behind the lock's. -/
theorem GI.far (h : GI L w f) {w' : List Int} (hl : w'.length = w.length) (hw : ∀ i, i < 3 * L → rd w' i = rd w i) (hL : okL L) : GI L w' f :=
  ⟨by rw [hl]; exact h.len, h.top, h.chn, fun t ht' j hj h1 => by rw [hw _ (by have := nd_lim hL ht' hj; omega)]; exact h.prs t ht' j hj h1,
   fun t ht' j hj h2 => by rw [hw _ (by have := nd_up hL ht' hj; omega)]; exact h.lst t ht' j hj h2,
   fun t ht' u hu hne j hj hn hs h3 h2 => by rw [hw _ (by have := nd_up hL hu hj; omega)]; exact h.two t ht' u hu hne j hj hn hs h3 h2⟩
end Go.Baro.Lok

set_option linter.unusedSimpArgs false
set_option linter.unusedVariables false
namespace Go.Proofs.YtfpokjhalbbeeaaDoor
open Go.Baro Go.Baro.Lok
/-- Round and round. -/
def rr (n k : Nat) : List Nat := (List.range k).flatMap fun _ => List.range n
theorem rr_add (n a b : Nat) : rr n (a + b) = rr n a ++ rr n b := by
  simp [rr, List.range_add, List.flatMap_append, List.flatMap_map]
theorem rr_lt {n k x : Nat} (h : x ∈ rr n k) : x < n := by
  simp only [rr, List.mem_flatMap, List.mem_range] at h
  obtain ⟨_, _, h⟩ := h
  exact h
abbrev mEnds (n : Nat) (f : Nat → Nat) : Mc := mLock wsL (fun n => entC (lv n)) (fun n => leaC (lv n)) n f 0
def endK (n : Nat) (ks : List Nat) (k : Nat) : Bool := (srun (mEnds n (fun t => ks[t]?.getD 0)) 0 (rr n k) (sm0 (mEnds n (fun t => ks[t]?.getD 0)))).done (mEnds n (fun t => ks[t]?.getD 0)) (2 * ks.sum)
def allK : Nat → List (List Nat)
  | 0 => [[]]
  | n + 1 => (allK n).flatMap fun l => [l ++ [0], l ++ [1]]
theorem mem_allK {f : Nat → Nat} (h : ∀ u, f u ≤ 1) : ∀ n, (List.range n).map f ∈ allK n
  | 0 => by simp [allK]
  | n + 1 => by
    rw [List.range_succ, List.map_append]
    refine List.mem_flatMap.2 ⟨_, mem_allK h n, ?_⟩
    have := h n
    rcases (by omega : f n = 0 ∨ f n = 1) with e | e <;> simp [e]
theorem ends1 : ((allK 1).all fun ks => endK 1 ks 160) = true := by kernel_rfl
theorem ends2 : ((allK 2).all fun ks => endK 2 ks 160) = true := by kernel_rfl
theorem ends3 : ((allK 3).all fun ks => endK 3 ks 160) = true := by kernel_rfl
theorem ends4 : ((allK 4).all fun ks => endK 4 ks 160) = true := by kernel_rfl
theorem ends_all {n : Nat} (h1 : 1 ≤ n) (h4 : n ≤ 4) {f : Nat → Nat} (h : ∀ u, f u ≤ 1) : endK n ((List.range n).map f) 160 = true := by
  rcases (by omega : n = 1 ∨ n = 2 ∨ n = 3 ∨ n = 4) with rfl | rfl | rfl | rfl
  · exact List.all_eq_true.1 ends1 _ (mem_allK h _)
  · exact List.all_eq_true.1 ends2 _ (mem_allK h _)
  · exact List.all_eq_true.1 ends3 _ (mem_allK h _)
  · exact List.all_eq_true.1 ends4 _ (mem_allK h _)
theorem mEnds_same (n : Nat) (f : Nat → Nat) : mEnds n (fun t => ((List.range n).map f)[t]?.getD 0) = mEnds n f := by
  unfold mEnds mLock
  congr 1
  refine List.map_congr_left fun t ht => ?_
  simp only [List.mem_range] at ht
  simp [ht]
theorem mEnds_calls (n : Nat) (f : Nat → Nat) : ∀ t ∈ (mEnds n f).ts, ∀ c ∈ t, c.ar.length ≤ 24 := by
  intro t ht c hc
  simp only [mLock, List.mem_map, List.mem_range] at ht
  obtain ⟨i, _, rfl⟩ := ht
  rcases (lockJ_mem hc).2 with h | h <;> rw [h] <;> simp
theorem mEnds_codes {n : Nat} (h1 : 1 ≤ n) (h4 : n ≤ 4) (f : Nat → Nat) : ∀ c ∈ (mEnds n f).cs, ∀ o ∈ c, okI c.length o := by
  intro c hc
  simp only [mLock, List.mem_cons, List.not_mem_nil, or_false] at hc
  rcases hc with rfl | rfl | rfl
  · rcases (by unfold lv; split <;> simp : lv n = 2 ∨ lv n = 4) with h | h <;> (rw [h]; decide +kernel)
  · rcases (by unfold lv; split <;> simp : lv n = 2 ∨ lv n = 4) with h | h <;> (rw [h]; decide +kernel)
  · simp [workC]
def aloneF (w : Nat) : Nat → Nat := fun t => if t = w then 4 else 0
def aloneG (m : Mc) (S : List Nat) (w : Nat) : Bool := (srun m 0 S (sm0 m)).done m 8 && (dgs (srun m 0 S (sm0 m)).out).all fun x => decide (x.th = w)
theorem alone_run {m : Mc} (hc : ∀ c ∈ m.cs, ∀ o ∈ c, okI c.length o) (ha : ∀ t ∈ m.ts, ∀ c ∈ t, c.ar.length ≤ 24) {S T : List Nat} (hS : ∀ n ∈ S, n < m.ts.length) (hT : ∀ n ∈ T, n < m.ts.length) {w : Nat} (h : aloneG m S w = true) :
    noErr (plyG m 0 (S ++ T) (g0 m)) ∧ (dgs (plyG m 0 (S ++ T) (g0 m)).out).length = 8 ∧ ∀ x ∈ dgs (plyG m 0 (S ++ T) (g0 m)).out, x.e ≠ -1 ∧ x.th = w := by
  unfold aloneG at h
  rw [Bool.and_eq_true] at h
  obtain ⟨hk, ht⟩ := h
  obtain ⟨k0, k1, k2, k3⟩ := run_done hc ha hS hT hk
  refine ⟨k1, k2, fun x hx => ⟨k3 x hx, ?_⟩⟩
  rw [k0, ply_srun hc ha _ hS] at hx
  rw [List.all_eq_true] at ht
  exact of_decide_eq_true (ht x hx)
def aloneK (n w : Nat) : Bool := aloneG (mEnds n (aloneF w)) (List.replicate 250 w) w
theorem alone1 : ((List.range 1).all (aloneK 1)) = true := by kernel_rfl
theorem alone2 : ((List.range 2).all (aloneK 2)) = true := by kernel_rfl
theorem alone3 : ((List.range 3).all (aloneK 3)) = true := by kernel_rfl
theorem alone4 : ((List.range 4).all (aloneK 4)) = true := by kernel_rfl
theorem alone_all {n w : Nat} (h1 : 1 ≤ n) (h4 : n ≤ 4) (hw : w < n) : aloneK n w = true := by
  rcases (by omega : n = 1 ∨ n = 2 ∨ n = 3 ∨ n = 4) with rfl | rfl | rfl | rfl
  · exact List.all_eq_true.1 alone1 _ (by simpa using hw)
  · exact List.all_eq_true.1 alone2 _ (by simpa using hw)
  · exact List.all_eq_true.1 alone3 _ (by simpa using hw)
  · exact List.all_eq_true.1 alone4 _ (by simpa using hw)
end Go.Proofs.YtfpokjhalbbeeaaDoor
