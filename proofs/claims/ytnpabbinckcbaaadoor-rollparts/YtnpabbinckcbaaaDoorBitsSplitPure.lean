/- A field of bits is its high bits and its low bits, in plain numbers. No statement of the seat is proved here; no condition. -/
import Derived.Test.YtnpabbinckcbaaaDoorBitsOrderPure
set_option linter.unusedSimpArgs false
set_option linter.unusedVariables false
namespace Go.Baro

theorem bitsV_split (k low : Nat) (v : Int) : bitsV (k + low) v = bitsV k (v / 2 ^ low) ++ bitsV low (v % 2 ^ low) := by
  induction k with
  | zero => rw [Nat.zero_add, bitsV_mod]; rfl
  | succ k ih =>
    rw [show k + 1 + low = (k + low) + 1 by omega, bitsV_cons, bitsV_cons, ih, List.cons_append]
    congr 2
    have hp : (0 : Int) < 2 ^ low := Int.pow_pos (by decide)
    rw [Int.ediv_ediv_of_nonneg (Int.le_of_lt hp), Nat.add_comm k low, Int.pow_add]

/-- The fields with field (w, v) cut after its first k bits. -/
def cutF (pre : List (Int × Int)) (k low : Nat) (v : Int) (post : List (Int × Int)) : List (Int × Int) := pre ++ [((k : Int), v / 2 ^ low), ((low : Int), v % 2 ^ low)] ++ post

theorem cut_written (pre post : List (Int × Int)) (k low : Nat) (v : Int) (hok : ∀ f ∈ pre ++ (((k + low : Nat) : Int), v) :: post, okF f) (hn : pre.length + post.length ≤ 300) :
    wrCode (pre ++ (((k + low : Nat) : Int), v) :: post) = 0 ∧ wrCode (cutF pre k low v post) = 0 ∧ wrBytes (cutF pre k low v post) = wrBytes (pre ++ (((k + low : Nat) : Int), v) :: post) := by
  obtain ⟨⟨_, h60⟩, hv0, hv1⟩ := hok (((k + low : Nat) : Int), v) (by simp)
  dsimp only at h60 hv0 hv1
  rw [Int.toNat_natCast] at hv1
  have hp : (0 : Int) < 2 ^ low := Int.pow_pos (by decide)
  have hok2 : ∀ f ∈ cutF pre k low v post, okF f := by
    intro f hf
    simp only [cutF, List.mem_append, List.mem_cons, List.not_mem_nil, or_false] at hf
    rcases hf with (hf | rfl | rfl) | hf
    · exact hok f (by simp [hf])
    · refine ⟨⟨by dsimp only; omega, by dsimp only; omega⟩, Int.ediv_nonneg hv0 (Int.le_of_lt hp), ?_⟩
      dsimp only
      rw [Int.toNat_natCast]
      apply Int.ediv_lt_of_lt_mul hp
      rw [← Int.pow_add]
      exact hv1
    · refine ⟨⟨by dsimp only; omega, by dsimp only; omega⟩, Int.emod_nonneg _ (Int.ne_of_gt hp), ?_⟩
      dsimp only
      rw [Int.toNat_natCast]
      exact Int.emod_lt_of_pos _ hp
    · exact hok f (by simp [hf])
  have h1 := read_written _ [] hok (by simp; omega)
  have h2 := read_written _ [] hok2 (by simp [cutF]; omega)
  refine ⟨h1.1, h2.1, ?_⟩
  rw [h1.2.1, h2.2.1]
  congr 1
  simp only [cutF, bitsF, List.flatMap_append, List.flatMap_cons, List.flatMap_nil, Int.toNat_natCast, List.append_nil, bitsV_split, List.append_assoc]
end Go.Baro
