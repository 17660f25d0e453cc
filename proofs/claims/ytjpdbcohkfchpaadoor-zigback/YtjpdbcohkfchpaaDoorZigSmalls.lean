/- Small numbers out of whatever numbers, in plain numbers. No statement of the seat is proved here; no condition. -/
import Derived.Test.YtjpdbcohkfchpaaDoorZigPack
set_option linter.unusedSimpArgs false
set_option linter.unusedVariables false
namespace Go.Baro

theorem size_near {x y : Int} (p q : Int) (hp : p = if x < 0 then -x else x) (hq : q = if y < 0 then -y else y) (h : p < q) : zsize (zfold x) ≤ zsize (zfold y) := by
  have h1 : 0 ≤ zfold x ∧ zfold x < zfold y := by
    unfold zfold
    split at hp <;> split at hq <;> rename_i h1 h2 <;> simp [h1, h2] <;> omega
  exact zsize_mono h1.1 (by omega)
/-- The small numbers of the first so many. -/
def smalls (l : List Int) (j : Nat) : List Int := (l.take j).map (· / 32)
theorem smalls_len {l : List Int} {j : Nat} (h : j ≤ l.length) : (smalls l j).length = j := by simp [smalls]; omega
theorem smalls_snoc {l : List Int} {j : Nat} {x : Int} (h : l[j]? = some x) : smalls l (j + 1) = smalls l j ++ [x / 32] := by
  unfold smalls
  have : l.take (j + 1) = l.take j ++ [x] := by
    obtain ⟨hi, rfl⟩ := List.getElem?_eq_some_iff.1 h
    exact List.take_succ_eq_append_getElem hi
  rw [this, List.map_append]; rfl
theorem smalls_ok {l : List Int} (hr : ∀ x ∈ l, -9223372036854775808 ≤ x ∧ x ≤ 9223372036854775807) (j : Nat) : ∀ n ∈ smalls l j, Small n := by
  intro n hn
  obtain ⟨x, hx, rfl⟩ := List.mem_map.1 hn
  have := hr x (List.mem_of_mem_take hx)
  unfold Small
  omega
theorem ckS_of : ∀ {l : List Int}, (∀ n ∈ l, Small n) → ckS l = 0
  | [], _ => rfl
  | n :: l, h => by rw [ckS_step (h n (by simp))]; exact ckS_of fun m hm => h m (by simp [hm])
theorem enc_smalls {l : List Int} (h : ∀ n ∈ l, Small n) (hl : l.length ≤ 240) : encC l = 0 ∧ encY l = packB (encB l) := by
  have h1 : encC l = 0 := by rw [encC_not (by omega), ckS_of h]
  exact ⟨h1, if_pos h1⟩
theorem encB_one (n : Int) : (encB [n]).length = zsize (zfold n) := by simp [encB, zbits_len]
end Go.Baro
