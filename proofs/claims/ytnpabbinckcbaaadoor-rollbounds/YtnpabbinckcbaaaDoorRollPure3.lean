/- The mean of a roll. No statement of the seat is proved here; no condition. -/
import Derived.Test.YtnpabbinckcbaaaDoorRollPure2
set_option linter.unusedSimpArgs false
set_option linter.unusedVariables false
namespace Go.Baro
theorem sum_ends (lo hi : Int) : ∀ (vs : List Int), (∀ v ∈ vs, lo ≤ v ∧ v ≤ hi) → (vs.length : Int) * lo ≤ vs.sum ∧ vs.sum ≤ (vs.length : Int) * hi
  | [], _ => by simp
  | v :: vs, h => by
    have h1 := h v (by simp)
    have h2 := sum_ends lo hi vs fun u hu => h u (by simp [hu])
    rw [List.length_cons, List.sum_cons, Int.natCast_add, Int.add_mul, Int.add_mul, Int.natCast_one, Int.one_mul, Int.one_mul]
    omega
/-- The mean lies between the ends. -/
theorem mean_in {n lo hi s : Int} (hn : 0 < n) (h1 : n * lo ≤ s) (h2 : s ≤ n * hi) : lo ≤ s.tdiv n ∧ s.tdiv n ≤ hi := by
  rw [Int.mul_comm] at h1 h2
  rcases Int.le_total 0 s with hs | hs
  · rw [Int.tdiv_eq_ediv_of_nonneg hs]
    exact ⟨(Int.le_ediv_iff_mul_le hn).2 h1, Int.ediv_le_of_le_mul hn h2⟩
  · have h3 : s.tdiv n = -((-s) / n) := by
      have := Int.neg_tdiv (a := s) (b := n)
      rw [Int.tdiv_eq_ediv_of_nonneg (by omega)] at this
      omega
    rw [h3]
    have h4 : -s ≤ -lo * n := by rw [Int.neg_mul]; omega
    have h5 : -hi * n ≤ -s := by rw [Int.neg_mul]; omega
    have h6 := Int.ediv_le_of_le_mul hn h4
    have h7 := (Int.le_ediv_iff_mul_le hn).2 h5
    omega
theorem roll_mean {vs : List Int} (h : vs ≠ []) {c lo hi s : Int} (hr : rollV vs = ⟨c, lo, hi, s⟩) : lo ≤ s.tdiv c ∧ s.tdiv c ≤ hi := by
  have h1 := (rollV_ends vs h).1
  have h2 := sum_ends (rollV vs).lo (rollV vs).hi vs h1
  rw [← rollV_s, ← rollV_c, hr] at h2
  dsimp only at h2
  refine mean_in ?_ h2.1 h2.2
  have : (rollV vs).c = c := by rw [hr]
  rw [rollV_c] at this
  have := List.length_pos_iff.2 h
  omega
end Go.Baro
