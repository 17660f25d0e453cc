/- Of this claim's own texts these, one behind the other: LockAlg, LockAlg2. No statement of the seat is proved here; no condition but those that stand at the theorems. -/
import Derived.Test.YtfpokjhalbbeeaaDoorPartAM
set_option linter.unusedSimpArgs false
set_option linter.unusedVariables false
namespace Go.Baro.Lok
open Go.RowKit (wrap64)

/-- How many leaves, and how many levels below the root. -/
def lv (n : Nat) : Nat := if n ≤ 2 then 2 else 4
def ht (L : Nat) : Nat := if L = 2 then 1 else 2
def wsL (n : Nat) : List Int := List.replicate (3 * lv n) 0
def entC (L : Nat) : List Ins :=
  [⟨1, 1, L, 0, 0⟩, ⟨3, 2, 1, 0, 0⟩, ⟨1, 3, 1, 0, 0⟩, ⟨1, 4, 2, 0, 0⟩, ⟨1, 5, 1, 0, 0⟩, ⟨6, 6, 2, 4, 0⟩, ⟨7, 7, 2, 4, 0⟩, ⟨3, 8, 2, 3, 0⟩, ⟨4, 8, 8, 7, 0⟩, ⟨4, 8, 8, 7, 0⟩,
   ⟨14, 3, 2, 0, 0⟩, ⟨14, 2, 6, 2 * L, 0⟩, ⟨13, 9, 8, 0, 0⟩, ⟨12, 9, 17, 0, 0⟩, ⟨13, 10, 6, 2 * L, 0⟩, ⟨8, 10, 10, 2, 0⟩, ⟨11, 10, 12, 0, 0⟩, ⟨2, 2, 6, 0, 0⟩, ⟨8, 11, 2, 5, 0⟩, ⟨12, 11, 5, 0, 0⟩]
def leaC (L : Nat) : List Ins :=
  if L = 2 then [⟨1, 1, 2, 0, 0⟩, ⟨3, 2, 1, 0, 0⟩, ⟨1, 3, 0, 0, 0⟩, ⟨1, 4, 1, 0, 0⟩, ⟨6, 5, 2, 4, 0⟩, ⟨14, 3, 5, 0, 0⟩]
  else [⟨1, 1, 4, 0, 0⟩, ⟨3, 2, 1, 0, 0⟩, ⟨1, 3, 0, 0, 0⟩, ⟨1, 4, 2, 0, 0⟩, ⟨6, 5, 2, 4, 0⟩, ⟨14, 3, 5, 0, 0⟩, ⟨1, 4, 1, 0, 0⟩, ⟨6, 5, 2, 4, 0⟩, ⟨14, 3, 5, 0, 0⟩]
theorem entC_len (L : Nat) : (entC L).length = 20 := rfl

/-- The node of a thread at a level. -/
def nd (L t j : Nat) : Nat := (L + t) / 2 ^ j
theorem nd_zero (L t : Nat) : nd L t 0 = L + t := by simp [nd]
theorem nd_succ (L t j : Nat) : nd L t (j + 1) = nd L t j / 2 := by
  unfold nd
  rw [Nat.pow_succ, Nat.div_div_eq_div_mul]
def okL (L : Nat) : Prop := L = 2 ∨ L = 4
theorem nd_lim {L t j : Nat} (hL : okL L) (ht' : t < L) (hj : j < ht L) : 2 ≤ nd L t j ∧ nd L t j < 2 * L := by
  unfold ht at hj
  unfold nd
  rcases hL with rfl | rfl
  · obtain rfl : j = 0 := by simp at hj; omega
    simp; omega
  · simp at hj
    rcases (by omega : j = 0 ∨ j = 1) with rfl | rfl <;> simp <;> omega
theorem nd_up {L t j : Nat} (hL : okL L) (ht' : t < L) (hj : j < ht L) : 1 ≤ nd L t (j + 1) ∧ nd L t (j + 1) < L := by
  have := nd_lim hL ht' hj
  rw [nd_succ]; omega
theorem nd_level {L t u i j : Nat} (hL : okL L) (h1 : t < L) (h2 : u < L) (hi : i < ht L) (hj : j < ht L) (h : nd L t i = nd L u j) : i = j := by
  unfold ht at hi hj
  unfold nd at h
  rcases hL with rfl | rfl
  · simp at hi hj; omega
  · simp at hi hj
    rcases (by omega : i = 0 ∨ i = 1) with rfl | rfl <;> rcases (by omega : j = 0 ∨ j = 1) with rfl | rfl <;> simp at h <;> omega
theorem nd_top {L t j : Nat} (hL : okL L) (h1 : t < L) (hj : j < ht L) : nd L t (j + 1) = 1 ↔ j + 1 = ht L := by
  unfold ht at hj ⊢
  unfold nd
  rcases hL with rfl | rfl
  · obtain rfl : j = 0 := by simp at hj; omega
    simp; omega
  · simp at hj ⊢
    rcases (by omega : j = 0 ∨ j = 1) with rfl | rfl <;> simp <;> omega
/-- The other node below the one above. -/
def sib (x : Nat) : Nat := x + 1 - x % 2 - x % 2
theorem sib_of {x y : Nat} (h : x / 2 = y / 2) (hne : x ≠ y) : y = sib x := by unfold sib; omega
theorem sib_lim {L x : Nat} (hL : okL L) (h : 2 ≤ x ∧ x < 2 * L) : 2 ≤ sib x ∧ sib x < 2 * L := by
  unfold sib
  rcases hL with rfl | rfl <;> omega

/-- Where a thread stands: at each level 0: it is not there; 1: it has said that it is; 2: it has come last, too, and waits; 3: it has gone on. -/
abbrev Ph := Nat → Nat → Nat
structure GI (L : Nat) (w : List Int) (f : Ph) : Prop where
  len : 3 * L ≤ w.length
  top : ∀ t, t < L → ∀ j, f t j ≤ 3 ∧ (ht L ≤ j → f t j = 0)
  chn : ∀ t, t < L → ∀ j, 1 ≤ f t (j + 1) → f t j = 3
  prs : ∀ t, t < L → ∀ j, j < ht L → 1 ≤ f t j → rd w (nd L t j) = 1
  lst : ∀ t, t < L → ∀ j, j < ht L → 2 ≤ f t j → rd w (2 * L + nd L t (j + 1)) = nd L t j ∨ rd w (2 * L + nd L t (j + 1)) = sib (nd L t j)
  two : ∀ t, t < L → ∀ u, u < L → t ≠ u → ∀ j, j < ht L → nd L t (j + 1) = nd L u (j + 1) → nd L t j ≠ nd L u j → f t j = 3 → 2 ≤ f u j → f u j = 2 ∧ rd w (2 * L + nd L u (j + 1)) = nd L u j
def pu (f : Ph) (t : Nat) (x : Nat → Nat) : Ph := fun i => if i = t then x else f i
theorem pu_same (f : Ph) (t : Nat) (x : Nat → Nat) : pu f t x t = x := by simp [pu]
theorem pu_other (f : Ph) {t u : Nat} (x : Nat → Nat) (h : u ≠ t) : pu f t x u = f u := by simp [pu, h]
def lu (x : Nat → Nat) (j v : Nat) : Nat → Nat := fun i => if i = j then v else x i
theorem lu_same (x : Nat → Nat) (j v : Nat) : lu x j v j = v := by simp [lu]
theorem lu_other (x : Nat → Nat) {j i : Nat} (v : Nat) (h : i ≠ j) : lu x j v i = x i := by simp [lu, h]
variable {L : Nat} {w : List Int} {f : Ph} {t u j : Nat}

/-- At most one thread is at a node. -/
theorem GI.one (hL : okL L) (h : GI L w f) (ht' : t < L) (hu : u < L) (hne : t ≠ u) : ∀ j, j < ht L → nd L t j = nd L u j → 1 ≤ f t j → 1 ≤ f u j → False := by
  intro j
  induction j with
  | zero => intro _ hn _ _; rw [nd_zero, nd_zero] at hn; omega
  | succ j ih =>
    intro hj hn h1 h2
    have c1 := h.chn t ht' j h1
    have c2 := h.chn u hu j h2
    by_cases hs : nd L t j = nd L u j
    · exact ih (by omega) hs (by omega) (by omega)
    · have := (h.two t ht' u hu hne j (by omega) hn hs c1 (by omega)).1
      omega
/-- At most one thread has gone through. -/
theorem GI.excl (hL : okL L) (h : GI L w f) (ht' : t < L) (hu : u < L) (hne : t ≠ u) (h1 : ∀ j, j < ht L → f t j = 3) (h2 : ∀ j, j < ht L → f u j = 3) : False := by
  have hp : 1 ≤ ht L := by unfold ht; split <;> omega
  have q1 := h1 (ht L - 1) (by omega)
  have q2 := h2 (ht L - 1) (by omega)
  have e1 := (nd_top hL ht' (j := ht L - 1) (by omega)).2 (by omega)
  have e2 := (nd_top hL hu (j := ht L - 1) (by omega)).2 (by omega)
  by_cases hs : nd L t (ht L - 1) = nd L u (ht L - 1)
  · exact h.one hL ht' hu hne _ (by omega) hs (by omega) (by omega)
  · have := (h.two t ht' u hu hne _ (by omega) (by rw [e1, e2]) hs q1 (by omega)).1
    omega
/-- A thread says that it is present. -/
theorem GI.come (hL : okL L) (h : GI L w f) (ht' : t < L) (hj : j < ht L) (h0 : f t j = 0) (hc : ∀ i, i < j → f t i = 3) (hz : ∀ i, j < i → f t i = 0) : GI L (w.set (nd L t j) 1) (pu f t (lu (f t) j 1)) := by
  obtain ⟨n1, n2⟩ := nd_lim hL ht' hj
  have hl : nd L t j < w.length := by have := h.len; omega
  have hT : ∀ x, 2 * L ≤ x → rd (w.set (nd L t j) 1) x = rd w x := fun x hx => rd_other (by omega)
  refine ⟨by simpa using h.len, fun v hv i => ?_, fun v hv i hi => ?_, fun v hv i hi h1 => ?_, fun v hv i hi h2 => ?_, fun v hv y hy hne i hi hn hs h3 h2 => ?_⟩
  · by_cases hvt : v = t
    · subst hvt
      rw [pu_same]
      by_cases hij : i = j
      · subst hij; rw [lu_same]; exact ⟨by omega, fun h => by omega⟩
      · rw [lu_other _ _ hij]; exact h.top v hv i
    · rw [pu_other _ _ hvt]; exact h.top v hv i
  · by_cases hvt : v = t
    · subst hvt
      rw [pu_same] at hi ⊢
      by_cases hij : i + 1 = j
      · rw [lu_other _ _ (by omega)]; exact hc i (by omega)
      · rw [lu_other _ _ hij] at hi
        have := h.chn v hv i hi
        rw [lu_other _ _ (by rintro rfl; omega)]; exact this
    · rw [pu_other _ _ hvt] at hi ⊢; exact h.chn v hv i hi
  · rw [rd_set hl]
    split
    · rfl
    · rename_i hne
      by_cases hvt : v = t
      · subst hvt
        rw [pu_same] at h1
        by_cases hij : i = j
        · subst hij; exact absurd rfl hne
        · rw [lu_other _ _ hij] at h1; exact h.prs v hv i hi h1
      · rw [pu_other _ _ hvt] at h1; exact h.prs v hv i hi h1
  · rw [hT _ (by omega)]
    by_cases hvt : v = t
    · subst hvt
      rw [pu_same] at h2
      by_cases hij : i = j
      · subst hij; rw [lu_same] at h2; omega
      · rw [lu_other _ _ hij] at h2; exact h.lst v hv i hi h2
    · rw [pu_other _ _ hvt] at h2; exact h.lst v hv i hi h2
  · rw [hT _ (by omega)]
    have e3 : f v i = 3 := by
      by_cases hvt : v = t
      · subst hvt
        rw [pu_same] at h3
        by_cases hij : i = j
        · subst hij; rw [lu_same] at h3; omega
        · rwa [lu_other _ _ hij] at h3
      · rwa [pu_other _ _ hvt] at h3
    have e2 : pu f t (lu (f t) j 1) y i = f y i := by
      by_cases hyt : y = t
      · subst hyt
        rw [pu_same] at h2 ⊢
        by_cases hij : i = j
        · subst hij; rw [lu_same] at h2; omega
        · rw [lu_other _ _ hij]
      · rw [pu_other _ _ hyt]
    rw [e2] at h2 ⊢
    exact h.two v hv y hy hne i hi hn hs e3 h2
/-- A thread comes last. -/
theorem GI.last (hL : okL L) (h : GI L w f) (ht' : t < L) (hj : j < ht L) (h1 : f t j = 1) : GI L (w.set (2 * L + nd L t (j + 1)) (nd L t j : Nat)) (pu f t (lu (f t) j 2)) := by
  obtain ⟨n1, n2⟩ := nd_lim hL ht' hj
  obtain ⟨n3, n4⟩ := nd_up hL ht' hj
  have hl : 2 * L + nd L t (j + 1) < w.length := by have := h.len; omega
  have hP : ∀ x, x < 2 * L → rd (w.set (2 * L + nd L t (j + 1)) (nd L t j : Nat)) x = rd w x := fun x hx => rd_other (by omega)
  have hph : ∀ v i, pu f t (lu (f t) j 2) v i = f v i ∨ (v = t ∧ i = j ∧ pu f t (lu (f t) j 2) v i = 2) := fun v i => by
    by_cases hvt : v = t
    · subst hvt
      rw [pu_same]
      by_cases hij : i = j
      · subst hij; rw [lu_same]; exact .inr ⟨rfl, rfl, rfl⟩
      · rw [lu_other _ _ hij]; exact .inl rfl
    · rw [pu_other _ _ hvt]; exact .inl rfl
  have hlev : ∀ v, v < L → ∀ i, i < ht L → nd L v (i + 1) = nd L t (j + 1) → i = j := fun v hv i hi e => by
    by_cases hi2 : i + 1 < ht L
    · by_cases hj2 : j + 1 < ht L
      · have := nd_level hL hv ht' hi2 hj2 e; omega
      · have q1 := (nd_top hL ht' hj).2 (by omega)
        have := nd_lim hL hv hi2
        omega
    · have q1 := (nd_top hL hv hi).2 (by omega)
      by_cases hj2 : j + 1 < ht L
      · have := nd_lim hL ht' hj2; omega
      · omega
  refine ⟨by simpa using h.len, fun v hv i => ?_, fun v hv i hi => ?_, fun v hv i hi g1 => ?_, fun v hv i hi g2 => ?_, fun v hv y hy hne i hi hn hs g3 g2 => ?_⟩
  · rcases hph v i with e | ⟨e1, e2, e3⟩
    · rw [e]; exact h.top v hv i
    · rw [e3]; exact ⟨by omega, fun h => by omega⟩
  · rcases hph v (i + 1) with e | ⟨e1, e2, e3⟩
    · rw [e] at hi
      have := h.chn v hv i hi
      rcases hph v i with k | ⟨k1, k2, k3⟩
      · rw [k]; exact this
      · subst k1 k2; omega
    · have : f v (i + 1) = 1 := by rw [e1, e2]; exact h1
      have := h.chn v hv i (by omega)
      rcases hph v i with k | ⟨k1, k2, k3⟩
      · rw [k]; exact this
      · omega
  · rw [hP _ (nd_lim hL hv hi).2]
    rcases hph v i with e | ⟨e1, e2, e3⟩
    · rw [e] at g1; exact h.prs v hv i hi g1
    · subst e1 e2; exact h.prs v hv i hi (by omega)
  · by_cases hp : nd L v (i + 1) = nd L t (j + 1)
    · have hij := hlev v hv i hi hp
      subst hij
      rw [hp, rd_same hl]
      by_cases hs : nd L v i = nd L t i
      · left; rw [hs]
      · right
        rw [nd_succ, nd_succ] at hp
        rw [sib_of hp hs]
    · rw [rd_other (by omega)]
      rcases hph v i with e | ⟨e1, e2, e3⟩
      · rw [e] at g2; exact h.lst v hv i hi g2
      · subst e1 e2; exact absurd rfl hp
  · have e3 : f v i = 3 := by rcases hph v i with e | ⟨_, _, e⟩ <;> omega
    by_cases hp : nd L y (i + 1) = nd L t (j + 1)
    · have hij := hlev y hy i hi hp
      subst hij
      have hvt : v ≠ t := by rintro rfl; omega
      have e2 : y = t := by
        refine Classical.byContradiction fun hyt => ?_
        rw [pu_other _ _ hyt] at g2
        -- three threads at two nodes
        by_cases q1 : nd L v i = nd L t i
        · exact h.one hL hv ht' hvt i hi q1 (by omega) (by omega)
        · by_cases q2 : nd L y i = nd L t i
          · exact h.one hL hy ht' hyt i hi q2 (by omega) (by omega)
          · rw [nd_succ, nd_succ] at hp hn
            have a1 := sib_of (show nd L t i / 2 = nd L v i / 2 by omega) (fun e => q1 e.symm)
            have a2 := sib_of (show nd L t i / 2 = nd L y i / 2 by omega) (fun e => q2 e.symm)
            exact hs (a1.trans a2.symm)
      subst e2
      rw [pu_same, lu_same, rd_same hl]
      exact ⟨rfl, rfl⟩
    · rw [rd_other (by omega)]
      rcases hph y i with e | ⟨e1, e2, e4⟩
      · rw [e] at g2 ⊢
        exact h.two v hv y hy hne i hi hn hs e3 g2
      · subst e1 e2; exact absurd rfl hp
/-- A thread goes on. -/
theorem GI.pass (hL : okL L) (h : GI L w f) (ht' : t < L) (hj : j < ht L) (h2 : f t j = 2) (hw : rd w (sib (nd L t j)) = 0 ∨ rd w (2 * L + nd L t (j + 1)) ≠ nd L t j) : GI L w (pu f t (lu (f t) j 3)) := by
  have hph : ∀ v i, pu f t (lu (f t) j 3) v i = f v i ∨ (v = t ∧ i = j ∧ pu f t (lu (f t) j 3) v i = 3) := fun v i => by
    by_cases hvt : v = t
    · subst hvt
      rw [pu_same]
      by_cases hij : i = j
      · subst hij; rw [lu_same]; exact .inr ⟨rfl, rfl, rfl⟩
      · rw [lu_other _ _ hij]; exact .inl rfl
    · rw [pu_other _ _ hvt]; exact .inl rfl
  refine ⟨h.len, fun v hv i => ?_, fun v hv i hi => ?_, fun v hv i hi g1 => ?_, fun v hv i hi g2 => ?_, fun v hv y hy hne i hi hn hs g3 g2 => ?_⟩
  · rcases hph v i with e | ⟨e1, e2, e3⟩
    · rw [e]; exact h.top v hv i
    · rw [e3]; exact ⟨by omega, fun h => by omega⟩
  · have hi' : 1 ≤ f v (i + 1) := by
      rcases hph v (i + 1) with e | ⟨e1, e2, e3⟩
      · rw [e] at hi; exact hi
      · rw [e1, e2]; omega
    have := h.chn v hv i hi'
    rcases hph v i with k | ⟨k1, k2, k3⟩
    · rw [k]; exact this
    · exact k3
  · rcases hph v i with e | ⟨e1, e2, e3⟩
    · rw [e] at g1; exact h.prs v hv i hi g1
    · subst e1 e2; exact h.prs v hv i hi (by omega)
  · rcases hph v i with e | ⟨e1, e2, e3⟩
    · rw [e] at g2; exact h.lst v hv i hi g2
    · subst e1 e2; exact h.lst v hv i hi (by omega)
  · rcases hph v i with e | ⟨e1, e2, e3⟩
    · rw [e] at g3
      rcases hph y i with k | ⟨k1, k2, k3⟩
      · rw [k] at g2 ⊢; exact h.two v hv y hy hne i hi hn hs g3 g2
      · -- another one has gone on: this one may not
        subst k1 k2
        have := (h.two v hv y hy hne i hi hn hs g3 (by omega)).2
        rcases hw with hw | hw
        · rw [nd_succ, nd_succ] at hn
          rw [← sib_of hn.symm (fun e => hs e.symm)] at hw
          have := h.prs v hv i hi (by omega)
          omega
        · exact absurd this hw
    · subst e1 e2
      have hyt : y ≠ v := fun e => hne e.symm
      rw [pu_other _ _ hyt] at g2 ⊢
      have hp : nd L v i / 2 = nd L y i / 2 := by rw [nd_succ, nd_succ] at hn; exact hn
      have hsib := sib_of hp hs
      have hy3 : f y i ≠ 3 := fun e => by
        have := (h.two y hy v hv hyt i hi hn.symm (fun e => hs e.symm) e (by omega)).2
        rcases hw with hw | hw
        · rw [← hsib] at hw
          have := h.prs y hy i hi (by omega)
          omega
        · exact absurd this hw
      have := (h.top y hy i).1
      refine ⟨by omega, ?_⟩
      rcases hw with hw | hw
      · rw [← hsib] at hw
        have := h.prs y hy i hi (by omega)
        omega
      · rcases h.lst v hv i hi (by omega) with k | k
        · exact absurd k hw
        · rw [← hn, k, ← hsib]
/-- A thread leaves a node. -/
theorem GI.go (hL : okL L) (h : GI L w f) (ht' : t < L) (hj : j < ht L) (h3 : 1 ≤ f t j) (hz : ∀ i, j < i → f t i = 0) : GI L (w.set (nd L t j) 0) (pu f t (lu (f t) j 0)) := by
  obtain ⟨n1, n2⟩ := nd_lim hL ht' hj
  have hl : nd L t j < w.length := by have := h.len; omega
  have hT : ∀ x, 2 * L ≤ x → rd (w.set (nd L t j) 0) x = rd w x := fun x hx => rd_other (by omega)
  have hph : ∀ v i, (pu f t (lu (f t) j 0) v i = f v i ∧ ¬ (v = t ∧ i = j)) ∨ (v = t ∧ i = j ∧ pu f t (lu (f t) j 0) v i = 0) := fun v i => by
    by_cases hvt : v = t
    · subst hvt
      rw [pu_same]
      by_cases hij : i = j
      · subst hij; rw [lu_same]; exact .inr ⟨rfl, rfl, rfl⟩
      · rw [lu_other _ _ hij]; exact .inl ⟨rfl, fun h => hij h.2⟩
    · rw [pu_other _ _ hvt]; exact .inl ⟨rfl, fun h => hvt h.1⟩
  refine ⟨by simpa using h.len, fun v hv i => ?_, fun v hv i hi => ?_, fun v hv i hi g1 => ?_, fun v hv i hi g2 => ?_, fun v hv y hy hne i hi hn hs g3 g2 => ?_⟩
  · rcases hph v i with ⟨e, _⟩ | ⟨e1, e2, e3⟩
    · rw [e]; exact h.top v hv i
    · rw [e3]; exact ⟨by omega, fun _ => rfl⟩
  · rcases hph v (i + 1) with ⟨e, _⟩ | ⟨e1, e2, e3⟩
    · rw [e] at hi
      have := h.chn v hv i hi
      rcases hph v i with ⟨k, _⟩ | ⟨k1, k2, k3⟩
      · rw [k]; exact this
      · subst k1 k2
        have := hz (i + 1) (by omega); omega
    · omega
  · rcases hph v i with ⟨e, he⟩ | ⟨e1, e2, e3⟩
    · rw [e] at g1
      rw [rd_other]
      · exact h.prs v hv i hi g1
      · intro hn
        obtain rfl := nd_level hL hv ht' hi hj hn
        by_cases hvt : v = t
        · exact he ⟨hvt, rfl⟩
        · exact h.one hL hv ht' hvt i hi hn g1 h3
    · omega
  · rw [hT _ (by omega)]
    rcases hph v i with ⟨e, _⟩ | ⟨e1, e2, e3⟩
    · rw [e] at g2; exact h.lst v hv i hi g2
    · omega
  · rw [hT _ (by omega)]
    rcases hph v i with ⟨e, _⟩ | ⟨_, _, e⟩
    · rcases hph y i with ⟨k, _⟩ | ⟨_, _, k⟩
      · rw [e] at g3
        rw [k] at g2 ⊢
        exact h.two v hv y hy hne i hi hn hs g3 g2
      · omega
    · omega
/-- Words behind the lock's. -/
theorem GI.far (h : GI L w f) {w' : List Int} (hl : w'.length = w.length) (hw : ∀ i, i < 3 * L → rd w' i = rd w i) (hL : okL L) : GI L w' f :=
  ⟨by rw [hl]; exact h.len, h.top, h.chn, fun t ht' j hj h1 => by rw [hw _ (by have := nd_lim hL ht' hj; omega)]; exact h.prs t ht' j hj h1,
   fun t ht' j hj h2 => by rw [hw _ (by have := nd_up hL ht' hj; omega)]; exact h.lst t ht' j hj h2,
   fun t ht' u hu hne j hj hn hs h3 h2 => by rw [hw _ (by have := nd_up hL hu hj; omega)]; exact h.two t ht' u hu hne j hj hn hs h3 h2⟩
end Go.Baro.Lok

set_option linter.unusedSimpArgs false
set_option linter.unusedVariables false
namespace Go.Baro.Lok
open Go.RowKit (wrap64)
variable {L t j p : Nat} {w : List Int} {f : Ph} {x : Nat → Nat} {r : Int → Int}

theorem pu_id (f : Ph) (t : Nat) : pu f t (f t) = f := by
  funext i; unfold pu; split
  · rename_i h; rw [h]
  · rfl
theorem nx_op {c : List Ins} {l : List Int} {o a b k v : Int} (h : c[p]? = some ⟨o, a, b, k, 0⟩) (ho : 3 ≤ o ∧ o ≤ 9) (hv : cmpV o (r b) (r k) = v) : Nx c p r l w (p + 1) (upd r a v) l w := by
  have := nx_cmp (r := r) (t := l) (w := w) h ho
  rwa [hv] at this
theorem cmp_div {x : Nat} (h : x < 1000) : cmpV 6 (x : Int) 2 = ((x / 2 : Nat) : Int) := by
  have : (x : Int).tdiv 2 = ((x / 2 : Nat) : Int) := by
    rw [show (2 : Int) = ((2 : Nat) : Int) from rfl, ← Int.ofNat_tdiv]
  unfold cmpV
  rw [if_neg (by decide), if_neg (by decide), if_neg (by decide), if_pos rfl, if_neg (by decide), this]
  exact wrap_id (by omega)
theorem cmp_rem {x : Nat} (h : x < 1000) : cmpV 7 (x : Int) 2 = ((x % 2 : Nat) : Int) := by
  unfold cmpV
  rw [if_neg (by decide), if_neg (by decide), if_neg (by decide), if_neg (by decide), if_pos rfl, if_neg (by decide)]
  rw [show (2 : Int) = ((2 : Nat) : Int) from rfl, ← Int.ofNat_tmod]
theorem cmp_add {a b : Int} (h : -1000 ≤ a + b ∧ a + b ≤ 1000) : cmpV 3 a b = a + b := by
  simp only [cmpV, if_pos]; exact wrap_id (by omega)
theorem cmp_sub {a b : Int} (h : -1000 ≤ a - b ∧ a - b ≤ 1000) : cmpV 4 a b = a - b := by
  unfold cmpV; rw [if_neg (by decide), if_pos rfl]; exact wrap_id (by omega)
theorem cmp_same (a b : Int) : cmpV 8 a b = if a = b then 1 else 0 := by simp [cmpV]

/-- The registers of an Enter at a level. -/
structure Cm (L t : Nat) (x : Nat → Nat) (j : Nat) (r : Int → Int) : Prop where
  node : r 2 = nd L t j
  one : r 3 = 1
  two : r 4 = 2
  root : r 5 = 1
  lev : j < ht L
  lo : ∀ i, i < j → x i = 3
  hi : ∀ i, j < i → x i = 0
theorem Cm.upd (h : Cm L t x j r) {i v : Int} (hi : 6 ≤ i) : Cm L t x j (upd r i v) :=
  ⟨by rw [upd_other _ _ (by omega)]; exact h.node, by rw [upd_other _ _ (by omega)]; exact h.one, by rw [upd_other _ _ (by omega)]; exact h.two, by rw [upd_other _ _ (by omega)]; exact h.root, h.lev, h.lo, h.hi⟩
theorem Cm.ph (h : Cm L t x j r) (v : Nat) : Cm L t (lu x j v) j r :=
  ⟨h.node, h.one, h.two, h.root, h.lev, fun i hi => by rw [lu_other _ _ (by omega)]; exact h.lo i hi, fun i hi => by rw [lu_other _ _ (by omega)]; exact h.hi i hi⟩
/-- An Enter of thread t, instruction by instruction. -/
inductive EA (L t : Nat) (x : Nat → Nat) : Nat → (Int → Int) → Prop
  | s0 (r : Int → Int) (a : r 0 = t) (z : ∀ i, x i = 0) : EA L t x 0 r
  | s1 (r : Int → Int) (a : r 0 = t) (b : r 1 = L) (z : ∀ i, x i = 0) : EA L t x 1 r
  | s2 (r : Int → Int) (c : r 2 = nd L t 0) (z : ∀ i, x i = 0) : EA L t x 2 r
  | s3 (r : Int → Int) (c : r 2 = nd L t 0) (d : r 3 = 1) (z : ∀ i, x i = 0) : EA L t x 3 r
  | s4 (r : Int → Int) (c : r 2 = nd L t 0) (d : r 3 = 1) (e : r 4 = 2) (z : ∀ i, x i = 0) : EA L t x 4 r
  | c5 (j : Nat) (r : Int → Int) (C : Cm L t x j r) (F : x j = 0) : EA L t x 5 r
  | c6 (j : Nat) (r : Int → Int) (C : Cm L t x j r) (F : x j = 0) (A : r 6 = nd L t (j + 1)) : EA L t x 6 r
  | c7 (j : Nat) (r : Int → Int) (C : Cm L t x j r) (F : x j = 0) (A : r 6 = nd L t (j + 1)) (S : r 7 = (nd L t j % 2 : Nat)) : EA L t x 7 r
  | c8 (j : Nat) (r : Int → Int) (C : Cm L t x j r) (F : x j = 0) (A : r 6 = nd L t (j + 1)) (S : r 7 = (nd L t j % 2 : Nat)) (N : r 8 = nd L t j + 1) : EA L t x 8 r
  | c9 (j : Nat) (r : Int → Int) (C : Cm L t x j r) (F : x j = 0) (A : r 6 = nd L t (j + 1)) (S : r 7 = (nd L t j % 2 : Nat)) (N : r 8 = nd L t j + 1 - (nd L t j % 2 : Nat)) : EA L t x 9 r
  | c10 (j : Nat) (r : Int → Int) (C : Cm L t x j r) (F : x j = 0) (A : r 6 = nd L t (j + 1)) (N : r 8 = sib (nd L t j)) : EA L t x 10 r
  | c11 (j : Nat) (r : Int → Int) (C : Cm L t x j r) (F : x j = 1) (A : r 6 = nd L t (j + 1)) (N : r 8 = sib (nd L t j)) : EA L t x 11 r
  | w12 (j : Nat) (r : Int → Int) (C : Cm L t x j r) (F : x j = 2) (A : r 6 = nd L t (j + 1)) (N : r 8 = sib (nd L t j)) : EA L t x 12 r
  | w13 (j : Nat) (r : Int → Int) (C : Cm L t x j r) (A : r 6 = nd L t (j + 1)) (N : r 8 = sib (nd L t j)) (R : (r 9 ≠ 0 ∧ x j = 2) ∨ (r 9 = 0 ∧ x j = 3)) : EA L t x 13 r
  | w14 (j : Nat) (r : Int → Int) (C : Cm L t x j r) (F : x j = 2) (A : r 6 = nd L t (j + 1)) (N : r 8 = sib (nd L t j)) : EA L t x 14 r
  | w15 (j : Nat) (r : Int → Int) (C : Cm L t x j r) (A : r 6 = nd L t (j + 1)) (N : r 8 = sib (nd L t j)) (R : (r 10 = nd L t j ∧ x j = 2) ∨ (r 10 ≠ nd L t j ∧ x j = 3)) : EA L t x 15 r
  | w16 (j : Nat) (r : Int → Int) (C : Cm L t x j r) (A : r 6 = nd L t (j + 1)) (N : r 8 = sib (nd L t j)) (R : (r 10 ≠ 0 ∧ x j = 2) ∨ (r 10 = 0 ∧ x j = 3)) : EA L t x 16 r
  | p17 (j : Nat) (r : Int → Int) (C : Cm L t x j r) (F : x j = 3) (A : r 6 = nd L t (j + 1)) : EA L t x 17 r
  | p18 (j : Nat) (r : Int → Int) (c : r 2 = nd L t (j + 1)) (d : r 3 = 1) (e : r 4 = 2) (o : r 5 = 1) (l : j < ht L) (lo : ∀ i, i ≤ j → x i = 3) (hi : ∀ i, j < i → x i = 0) : EA L t x 18 r
  | p19 (j : Nat) (r : Int → Int) (c : r 2 = nd L t (j + 1)) (d : r 3 = 1) (e : r 4 = 2) (o : r 5 = 1) (l : j < ht L) (lo : ∀ i, i ≤ j → x i = 3) (hi : ∀ i, j < i → x i = 0) (R : r 11 = if nd L t (j + 1) = 1 then 1 else 0) : EA L t x 19 r
  | fin (r : Int → Int) (F : ∀ i, i < ht L → x i = 3) : EA L t x 20 r
theorem ht_pos : 0 < ht L := by unfold ht; split <;> omega
/-- What a step of one thread leaves. -/
def Stp (L t : Nat) (c : List Ins) (A : (Nat → Nat) → Nat → (Int → Int) → Prop) (w : List Int) (f : Ph) (p : Nat) (r : Int → Int) : Prop :=
  ∃ p' r' w' x', Nx c p r [] w p' r' [] w' ∧ GI L w' (pu f t x') ∧ A x' p' r' ∧ w'.length = w.length ∧ ∀ i, 3 * L ≤ i → rd w' i = rd w i
theorem stp_quiet {c : List Ins} {A : (Nat → Nat) → Nat → (Int → Int) → Prop} {p' : Nat} {r' : Int → Int} (hI : GI L w f) (h : Nx c p r [] w p' r' [] w) (hA : A (f t) p' r') : Stp L t c A w f p r :=
  ⟨p', r', w, f t, h, by rw [pu_id]; exact hI, hA, rfl, fun _ _ => rfl⟩

set_option maxRecDepth 10000 in
theorem ent_step (hL : okL L) (ht' : t < L) (hI : GI L w f) (h : EA L t (f t) p r) (hp : p ≠ 20) : Stp L t (entC L) (EA L t) w f p r := by
  have hL4 : L ≤ 4 := by rcases hL with rfl | rfl <;> omega
  cases h with
  | s0 r a z => exact stp_quiet hI (nx_set (by rfl)) (.s1 _ (by rw [upd_other _ _ (by decide)]; exact a) (upd_same _ _ _) z)
  | s1 r a b z => exact stp_quiet hI (nx_op (by rfl) (by decide) (v := (nd L t 0 : Nat)) (by rw [a, b, cmp_add (by omega), nd_zero]; omega)) (.s2 _ (upd_same _ _ _) z)
  | s2 r c z => exact stp_quiet hI (nx_set (by rfl)) (.s3 _ (by rw [upd_other _ _ (by decide)]; exact c) (upd_same _ _ _) z)
  | s3 r c d z => exact stp_quiet hI (nx_set (by rfl)) (.s4 _ (by rw [upd_other _ _ (by decide)]; exact c) (by rw [upd_other _ _ (by decide)]; exact d) (upd_same _ _ _) z)
  | s4 r c d e z => exact stp_quiet hI (nx_set (by rfl)) (.c5 0 _ ⟨by rw [upd_other _ _ (by decide)]; exact c, by rw [upd_other _ _ (by decide)]; exact d, by rw [upd_other _ _ (by decide)]; exact e, upd_same _ _ _, ht_pos, fun i h => by omega, fun i _ => z i⟩ (z 0))
  | c5 j r C F =>
    have := nd_lim hL ht' C.lev
    exact stp_quiet hI (nx_op (by rfl) (by decide) (v := (nd L t (j + 1) : Nat)) (by rw [C.node, C.two, cmp_div (by omega), nd_succ])) (.c6 j _ (C.upd (by omega)) F (upd_same _ _ _))
  | c6 j r C F A =>
    have := nd_lim hL ht' C.lev
    exact stp_quiet hI (nx_op (by rfl) (by decide) (v := (nd L t j % 2 : Nat)) (by rw [C.node, C.two, cmp_rem (by omega)])) (.c7 j _ (C.upd (by omega)) F (by rw [upd_other _ _ (by decide)]; exact A) (upd_same _ _ _))
  | c7 j r C F A S =>
    have := nd_lim hL ht' C.lev
    exact stp_quiet hI (nx_op (by rfl) (by decide) (v := nd L t j + 1) (by rw [C.node, C.one, cmp_add (by omega)])) (.c8 j _ (C.upd (by omega)) F (by rw [upd_other _ _ (by decide)]; exact A) (by rw [upd_other _ _ (by decide)]; exact S) (upd_same _ _ _))
  | c8 j r C F A S N =>
    have := nd_lim hL ht' C.lev
    exact stp_quiet hI (nx_op (by rfl) (by decide) (v := nd L t j + 1 - (nd L t j % 2 : Nat)) (by rw [N, S, cmp_sub (by omega)])) (.c9 j _ (C.upd (by omega)) F (by rw [upd_other _ _ (by decide)]; exact A) (by rw [upd_other _ _ (by decide)]; exact S) (upd_same _ _ _))
  | c9 j r C F A S N =>
    have := nd_lim hL ht' C.lev
    exact stp_quiet hI (nx_op (by rfl) (by decide) (v := (sib (nd L t j) : Nat)) (by rw [N, S, cmp_sub (by omega)]; unfold sib; omega)) (.c10 j _ (C.upd (by omega)) F (by rw [upd_other _ _ (by decide)]; exact A) (upd_same _ _ _))
  | c10 j r C F A N =>
    have := nd_lim hL ht' C.lev
    have hlen := hI.len
    have hx := nx_store (c := entC L) (p := 10) (r := r) (t := []) (w := w) (a := 3) (b := 2) (k := 0) (q := nd L t j) (by rfl) (by rw [C.node]; exact wrap_id (by omega)) (by omega)
    rw [C.one] at hx
    refine ⟨_, _, _, lu (f t) j 1, hx, hI.come hL ht' C.lev F C.lo C.hi, .c11 j _ (C.ph 1) (lu_same _ _ _) A N, by simp, fun i hi => rd_other (by omega)⟩
  | c11 j r C F A N =>
    have := nd_lim hL ht' C.lev
    have h2 := nd_up hL ht' C.lev
    have hlen := hI.len
    have hx := nx_store (c := entC L) (p := 11) (r := r) (t := []) (w := w) (a := 2) (b := 6) (k := 2 * L) (q := 2 * L + nd L t (j + 1)) (by rfl) (by rw [A, show (nd L t (j + 1) : Int) + 2 * (L : Int) = ((2 * L + nd L t (j + 1) : Nat) : Int) by omega]; exact wrap_id (by omega)) (by omega)
    rw [C.node] at hx
    refine ⟨_, _, _, lu (f t) j 2, hx, hI.last hL ht' C.lev F, .w12 j _ (C.ph 2) (lu_same _ _ _) A N, by simp, fun i hi => rd_other (by omega)⟩
  | w12 j r C F A N =>
    have := nd_lim hL ht' C.lev
    have h3 := sib_lim hL this
    have hlen := hI.len
    have hx := nx_load (c := entC L) (p := 12) (r := r) (t := []) (w := w) (a := 9) (b := 8) (k := 0) (q := sib (nd L t j)) (by rfl) (by rw [N]; exact wrap_id (by omega)) (by omega)
    by_cases h0 : rd w (sib (nd L t j)) = 0
    · refine ⟨_, _, _, lu (f t) j 3, hx, hI.pass hL ht' C.lev F (.inl h0), .w13 j _ ((C.ph 3).upd (by omega)) (by rw [upd_other _ _ (by decide)]; exact A) (by rw [upd_other _ _ (by decide)]; exact N) (.inr ⟨by rw [upd_same]; exact h0, lu_same _ _ _⟩), rfl, fun i hi => rfl⟩
    · exact stp_quiet hI hx (.w13 j _ (C.upd (by omega)) (by rw [upd_other _ _ (by decide)]; exact A) (by rw [upd_other _ _ (by decide)]; exact N) (.inl ⟨by rw [upd_same]; exact h0, F⟩))
  | w13 j r C A N R =>
    rcases R with ⟨R1, R2⟩ | ⟨R1, R2⟩
    · exact stp_quiet hI (nx_unlN (by rfl) R1) (.w14 j _ C R2 A N)
    · exact stp_quiet hI (nx_unlZ (by rfl) R1) (.p17 j _ C R2 A)
  | w14 j r C F A N =>
    have := nd_lim hL ht' C.lev
    have h2 := nd_up hL ht' C.lev
    have hlen := hI.len
    have hx := nx_load (c := entC L) (p := 14) (r := r) (t := []) (w := w) (a := 10) (b := 6) (k := 2 * L) (q := 2 * L + nd L t (j + 1)) (by rfl) (by rw [A, show (nd L t (j + 1) : Int) + 2 * (L : Int) = ((2 * L + nd L t (j + 1) : Nat) : Int) by omega]; exact wrap_id (by omega)) (by omega)
    by_cases h0 : rd w (2 * L + nd L t (j + 1)) = nd L t j
    · exact stp_quiet hI hx (.w15 j _ (C.upd (by omega)) (by rw [upd_other _ _ (by decide)]; exact A) (by rw [upd_other _ _ (by decide)]; exact N) (.inl ⟨by rw [upd_same]; exact h0, F⟩))
    · refine ⟨_, _, _, lu (f t) j 3, hx, hI.pass hL ht' C.lev F (.inr h0), .w15 j _ ((C.ph 3).upd (by omega)) (by rw [upd_other _ _ (by decide)]; exact A) (by rw [upd_other _ _ (by decide)]; exact N) (.inr ⟨by rw [upd_same]; exact h0, lu_same _ _ _⟩), rfl, fun i hi => rfl⟩
  | w15 j r C A N R =>
    have hx := nx_op (c := entC L) (p := 15) (r := r) (l := []) (w := w) (o := 8) (a := 10) (b := 10) (k := 2) (by rfl) (by decide) (cmp_same _ _)
    refine stp_quiet hI hx (.w16 j _ (C.upd (by omega)) (by rw [upd_other _ _ (by decide)]; exact A) (by rw [upd_other _ _ (by decide)]; exact N) ?_)
    rw [upd_same, C.node]
    rcases R with ⟨R1, R2⟩ | ⟨R1, R2⟩
    · left; rw [if_pos R1]; exact ⟨by decide, R2⟩
    · right; rw [if_neg R1]; exact ⟨rfl, R2⟩
  | w16 j r C A N R =>
    rcases R with ⟨R1, R2⟩ | ⟨R1, R2⟩
    · exact stp_quiet hI (nx_whenN (by rfl) R1) (.w12 j _ C R2 A N)
    · exact stp_quiet hI (nx_whenZ (by rfl) R1) (.p17 j _ C R2 A)
  | p17 j r C F A =>
    refine stp_quiet hI (nx_copy (by rfl)) (.p18 j _ (by rw [upd_same]; exact A) (by rw [upd_other _ _ (by decide)]; exact C.one) (by rw [upd_other _ _ (by decide)]; exact C.two) (by rw [upd_other _ _ (by decide)]; exact C.root) C.lev (fun i hi => ?_) C.hi)
    by_cases hij : i = j
    · rw [hij]; exact F
    · exact C.lo i (by omega)
  | p18 j r c d e o l lo hi =>
    refine stp_quiet hI (nx_op (by rfl) (by decide) (cmp_same _ _)) (.p19 j _ (by rw [upd_other _ _ (by decide)]; exact c) (by rw [upd_other _ _ (by decide)]; exact d) (by rw [upd_other _ _ (by decide)]; exact e) (by rw [upd_other _ _ (by decide)]; exact o) l lo hi ?_)
    rw [upd_same, c, o]
    by_cases h1 : nd L t (j + 1) = 1
    · rw [if_pos h1, h1]; rfl
    · rw [if_neg h1, if_neg (by omega)]
  | p19 j r c d e o l lo hi R =>
    by_cases h1 : nd L t (j + 1) = 1
    · rw [if_pos h1] at R
      have h2 := (nd_top hL ht' l).1 h1
      exact stp_quiet hI (nx_unlN (by rfl) (by rw [R]; decide)) (.fin _ fun i hi => lo i (by omega))
    · rw [if_neg h1] at R
      have h2 : j + 1 ≠ ht L := fun e => h1 ((nd_top hL ht' l).2 e)
      exact stp_quiet hI (nx_unlZ (by rfl) R) (.c5 (j + 1) _ ⟨c, d, e, o, by omega, fun i h => lo i (by omega), fun i h => hi i (by omega)⟩ (hi _ (by omega)))
  | fin r F => exact absurd rfl hp

def lq (L : Nat) : Nat := if L = 2 then 3 else 6
theorem leaC_len (hL : okL L) : (leaC L).length = lq L + 3 := by rcases hL with rfl | rfl <;> rfl
/-- A Leave of thread t, instruction by instruction. -/
inductive LA (L t : Nat) (x : Nat → Nat) : Nat → (Int → Int) → Prop
  | l0 (r : Int → Int) (a : r 0 = t) (F : ∀ i, i < ht L → x i = 3) : LA L t x 0 r
  | l1 (r : Int → Int) (a : r 0 = t) (b : r 1 = L) (F : ∀ i, i < ht L → x i = 3) : LA L t x 1 r
  | l2 (r : Int → Int) (c : r 2 = nd L t 0) (F : ∀ i, i < ht L → x i = 3) : LA L t x 2 r
  | l3 (r : Int → Int) (h4 : L = 4) (c : r 2 = nd L t 0) (d : r 3 = 0) (F : ∀ i, i < ht L → x i = 3) : LA L t x 3 r
  | l4 (r : Int → Int) (h4 : L = 4) (c : r 2 = nd L t 0) (d : r 3 = 0) (e : r 4 = 2) (F : ∀ i, i < ht L → x i = 3) : LA L t x 4 r
  | l5 (r : Int → Int) (h4 : L = 4) (c : r 2 = nd L t 0) (d : r 3 = 0) (e : r 5 = nd L t 1) (F : ∀ i, i < ht L → x i = 3) : LA L t x 5 r
  | m0 (r : Int → Int) (c : r 2 = nd L t 0) (d : r 3 = 0) (F : x 0 = 3) (z : ∀ i, 0 < i → x i = 0) : LA L t x (lq L) r
  | m1 (r : Int → Int) (c : r 2 = nd L t 0) (d : r 3 = 0) (e : r 4 = 1) (F : x 0 = 3) (z : ∀ i, 0 < i → x i = 0) : LA L t x (lq L + 1) r
  | m2 (r : Int → Int) (d : r 3 = 0) (e : r 5 = nd L t 0) (F : x 0 = 3) (z : ∀ i, 0 < i → x i = 0) : LA L t x (lq L + 2) r
  | fin (r : Int → Int) (z : ∀ i, x i = 0) : LA L t x (lq L + 3) r
theorem cmp_one {x : Nat} (h : x < 1000) : cmpV 6 (x : Int) 1 = (x : Int) := by
  unfold cmpV
  rw [if_neg (by decide), if_neg (by decide), if_neg (by decide), if_pos rfl, if_neg (by decide), Int.tdiv_one]
  exact wrap_id (by omega)
set_option maxRecDepth 10000 in
theorem lea_step (hL : okL L) (ht' : t < L) (hI : GI L w f) (h : LA L t (f t) p r) (hp : p ≠ lq L + 3) : Stp L t (leaC L) (LA L t) w f p r := by
  have hL4 : L ≤ 4 := by rcases hL with rfl | rfl <;> omega
  have hlen := hI.len
  have h0 := nd_lim hL ht' (j := 0) ht_pos
  cases h with
  | l0 r a F =>
    refine stp_quiet hI (p' := 1) (r' := upd r 1 L) ?_ (.l1 _ (by rw [upd_other _ _ (by decide)]; exact a) (upd_same _ _ _) F)
    rcases hL with rfl | rfl <;> exact nx_set (by rfl)
  | l1 r a b F =>
    refine stp_quiet hI (p' := 2) (r' := upd r 2 (nd L t 0 : Nat)) ?_ (.l2 _ (upd_same _ _ _) F)
    have : cmpV 3 (r 1) (r 0) = (nd L t 0 : Nat) := by rw [a, b, cmp_add (by omega), nd_zero]; omega
    rcases hL with rfl | rfl <;> exact nx_op (by rfl) (by decide) this
  | l2 r c F =>
    rcases hL with rfl | rfl
    · exact stp_quiet hI (nx_set (by rfl)) (.m0 _ (by rw [upd_other _ _ (by decide)]; exact c) (upd_same _ _ _) (F 0 ht_pos) fun i hi => (hI.top t ht' i).2 (by unfold ht; simp; omega))
    · exact stp_quiet hI (nx_set (by rfl)) (.l3 _ rfl (by rw [upd_other _ _ (by decide)]; exact c) (upd_same _ _ _) F)
  | l3 r h4 c d F =>
    subst h4
    exact stp_quiet hI (nx_set (by rfl)) (.l4 _ rfl (by rw [upd_other _ _ (by decide)]; exact c) (by rw [upd_other _ _ (by decide)]; exact d) (upd_same _ _ _) F)
  | l4 r h4 c d e F =>
    subst h4
    exact stp_quiet hI (nx_op (by rfl) (by decide) (v := (nd 4 t 1 : Nat)) (by rw [c, e, cmp_div (by omega), nd_succ])) (.l5 _ rfl (by rw [upd_other _ _ (by decide)]; exact c) (by rw [upd_other _ _ (by decide)]; exact d) (upd_same _ _ _) F)
  | l5 r h4 c d e F =>
    subst h4
    have h1 := nd_lim hL ht' (j := 1) (by decide)
    have hx := nx_store (c := leaC 4) (p := 5) (r := r) (t := []) (w := w) (a := 3) (b := 5) (k := 0) (q := nd 4 t 1) (by rfl) (by rw [e]; exact wrap_id (by omega)) (by omega)
    rw [d] at hx
    have hz : ∀ i, 1 < i → f t i = 0 := fun i hi => (hI.top t ht' i).2 (by unfold ht; simp; omega)
    refine ⟨_, _, _, lu (f t) 1 0, hx, hI.go hL ht' (by decide) (by rw [F 1 (by decide)]; decide) hz, .m0 _ c d (by rw [lu_other _ _ (by decide)]; exact F 0 ht_pos) (fun i hi => ?_), by simp, fun i hi => rd_other (by omega)⟩
    by_cases h1 : i = 1
    · rw [h1, lu_same]
    · rw [lu_other _ _ h1]; exact hz i (by omega)
  | m0 r c d F z =>
    refine stp_quiet hI (p' := lq L + 1) (r' := upd r 4 1) ?_ (.m1 _ (by rw [upd_other _ _ (by decide)]; exact c) (by rw [upd_other _ _ (by decide)]; exact d) (upd_same _ _ _) F z)
    rcases hL with rfl | rfl <;> exact nx_set (by rfl)
  | m1 r c d e F z =>
    refine stp_quiet hI (p' := lq L + 2) (r' := upd r 5 (nd L t 0 : Nat)) ?_ (.m2 _ (by rw [upd_other _ _ (by decide)]; exact d) (upd_same _ _ _) F z)
    have : cmpV 6 (r 2) (r 4) = (nd L t 0 : Nat) := by rw [c, e, cmp_one (by omega)]
    rcases hL with rfl | rfl <;> exact nx_op (by rfl) (by decide) this
  | m2 r d e F z =>
    have hx : Nx (leaC L) (lq L + 2) r [] w (lq L + 3) r [] (w.set (nd L t 0) 0) := by
      have hq : wrap64 (r 5 + 0) = (nd L t 0 : Nat) := by rw [e]; exact wrap_id (by omega)
      have : nd L t 0 < w.length := by omega
      rw [← d]
      rcases hL with rfl | rfl <;> exact nx_store (by rfl) hq this
    refine ⟨_, _, _, lu (f t) 0 0, hx, hI.go hL ht' ht_pos (by omega) z, .fin _ fun i => ?_, by simp, fun i hi => rd_other (by omega)⟩
    by_cases h1 : i = 0
    · rw [h1, lu_same]
    · rw [lu_other _ _ h1]; exact z i (by omega)
  | fin r z => exact absurd rfl hp
end Go.Baro.Lok
