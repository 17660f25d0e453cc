/- The roll of samples, and their buckets, in plain numbers. No statement of the seat is proved here; no condition. -/
import Derived.Test.YtnpabbinckcbaaaDoorRollPure
import Derived.Test.YtnpabbinckcbaaaDoorChunkPure
set_option linter.unusedSimpArgs false
set_option linter.unusedVariables false
namespace Go.Baro

def valS (l : List (Int × Int)) : List Int := l.map (·.2)
/-- What Of answers. -/
def ofR (l : List (Int × Int)) : Rl := if chC l = 0 then rollV (valS l) else rl0
theorem ofR_ok {l : List (Int × Int)} (h : chC l = 0) : ofR l = rollV (valS l) := if_pos h
theorem ofR_bad {l : List (Int × Int)} (h : chC l ≠ 0) : ofR l = rl0 := if_neg h
theorem valS_range {l : List (Int × Int)} (h : chC l = 0) : ∀ v ∈ valS l, InR v := by
  intro v hv
  obtain ⟨x, hx, rfl⟩ := List.mem_map.1 hv
  exact (ckL_range (chC_zero h).2 x hx).2
theorem valS_len (l : List (Int × Int)) : (valS l).length = l.length := by simp [valS]
theorem valS_at {l : List (Int × Int)} {j : Nat} {x y : Int} (h : l[j]? = some (x, y)) : (valS l)[j]? = some y := by simp [valS, h]
theorem valS_sum {l : List (Int × Int)} (h : chC l = 0) (j : Nat) : I64 ((valS l).take j).sum := by
  have hl := (chC_zero h).1
  refine sum_bd55 _ (by rw [List.length_take, valS_len]; omega) fun v hv => ?_
  have := valS_range h v (List.mem_of_mem_take hv)
  unfold InR at this
  exact this
/-- What stands of the roll of the first j samples. -/
theorem valS_roll {l : List (Int × Int)} (h : chC l = 0) (j : Nat) : 0 ≤ (rollV ((valS l).take j)).c ∧ (rollV ((valS l).take j)).c ≤ 120 ∧ I64 (rollV ((valS l).take j)).s := by
  have hl := (chC_zero h).1
  refine ⟨rollV_cn _, ?_, by rw [rollV_s]; exact valS_sum h j⟩
  rw [rollV_c, List.length_take, valS_len]
  omega

/-- Rolls of few values that are well within are valid. -/
theorem okRl_roll {vs : List Int} (hl : vs.length ≤ 120) (h : ∀ v ∈ vs, -18014398509481984 ≤ v ∧ v < 18014398509481984) : okRl (rollV vs) := by
  by_cases hv : vs = []
  · subst hv; exact (okRl_zero rfl).2 ⟨rfl, rfl, rfl⟩
  · obtain ⟨h1, h2, h3⟩ := rollV_ends vs hv
    have hc := rollV_c vs
    have hp : 0 < vs.length := List.length_pos_iff.2 hv
    have hs := sum_bd54 vs hl h
    rw [← rollV_s] at hs
    refine (okRl_pos (by omega)).2 ⟨by omega, ⟨?_, ?_, hs⟩, ?_⟩
    · have := h _ h2; unfold N61; omega
    · have := h _ h3; unfold N61; omega
    · exact (h1 _ h2).2
theorem join_roll {a b : List Int} (hl : a.length + b.length ≤ 120) (h : ∀ v ∈ a ++ b, -18014398509481984 ≤ v ∧ v < 18014398509481984) : jnC (rollV a) (rollV b) = 0 ∧ jnR (rollV a) (rollV b) = rollV (a ++ b) := by
  have h1 := okRl_roll (vs := a) (by omega) fun v hv => h v (List.mem_append_left _ hv)
  have h2 := okRl_roll (vs := b) (by omega) fun v hv => h v (List.mem_append_right _ hv)
  have h3 := okRl_roll (vs := a ++ b) (by simp; omega) h
  rw [rollV_append] at h3 ⊢
  exact jn_ok ⟨h1, h2⟩ h3
theorem roll_comm (a b : List Int) : rollV (a ++ b) = rollV (b ++ a) := by
  rw [rollV_append, rollV_append, mg_comm rollV_c0 rollV_c0]
theorem ckL_same : ∀ (l : List (Int × Int)) (q q' : St), q.t = q'.t → q.b = q'.b → ckL q l = 0 → ckL q' l = 0
  | [], _, _, _, _, _ => rfl
  | x :: l, q, q', ht, hb, h => by
    obtain ⟨h1, h2⟩ := ckL_split h
    obtain ⟨i1, i2, i3⟩ := ck1_zero h1
    rw [ckL_cons (ck1_ok i1 i2 (by rw [← ht, ← hb]; exact i3))]
    exact ckL_same l (adv q x) (adv q' x) rfl rfl h2
theorem ckL_fresh {l : List (Int × Int)} {q : St} (h : ckL q l = 0) : ckL st0 l = 0 := by
  cases l with
  | nil => rfl
  | cons x l =>
    obtain ⟨h1, h2⟩ := ckL_split h
    obtain ⟨i1, i2, i3⟩ := ck1_zero h1
    rw [ckL_cons (ck1_ok i1 i2 (fun h => by cases h))]
    exact ckL_same l (adv q x) (adv st0 x) rfl rfl h2
theorem ckL_parts : ∀ (a : List (Int × Int)) {b : List (Int × Int)} {q : St}, ckL q (a ++ b) = 0 → ckL q a = 0 ∧ ckL (a.foldl adv q) b = 0
  | [], b, q, h => ⟨rfl, h⟩
  | x :: a, b, q, h => by
    obtain ⟨h1, h2⟩ := ckL_split h
    obtain ⟨h3, h4⟩ := ckL_parts a h2
    exact ⟨by rw [ckL_cons h1]; exact h3, h4⟩
theorem chC_take {S : List (Int × Int)} (h : chC S = 0) (i : Nat) : chC (S.take i) = 0 := by
  obtain ⟨h1, h2⟩ := chC_zero h
  rw [chC_of (by simp; omega)]
  rw [← List.take_append_drop i S] at h2
  exact (ckL_parts _ h2).1
theorem chC_drop {S : List (Int × Int)} (h : chC S = 0) (i : Nat) : chC (S.drop i) = 0 := by
  obtain ⟨h1, h2⟩ := chC_zero h
  rw [chC_of (by simp; omega)]
  rw [← List.take_append_drop i S] at h2
  exact ckL_fresh (ckL_parts _ h2).2
/-- Three parts of samples. -/
theorem parts3 {S : List (Int × Int)} {i k : Nat} (hik : i ≤ k) : valS S = valS (S.take i) ++ (valS ((S.drop i).take (k - i)) ++ valS (S.drop k)) := by
  simp only [valS, ← List.map_append]
  congr 1
  have h1 : S.drop i = (S.drop i).take (k - i) ++ S.drop k := by
    have := (List.take_append_drop (k - i) (S.drop i)).symm
    rw [List.drop_drop, show i + (k - i) = k by omega] at this
    exact this
  rw [← h1, List.take_append_drop]
theorem chC_one3 : chC [(0, 3)] = 0 := by decide
theorem ofR_one3 : ofR [(0, 3)] = rl1 3 := by rw [ofR_ok chC_one3]; rfl
end Go.Baro
