/- Bits that are packed into fields of sixty, in plain numbers. No statement of the seat is proved here; no condition. -/
import Derived.Test.YtnpabbinckcbaaaDoorZigPure
import Derived.Test.YtnpabbinckcbaaaDoorBitsSplitPure
set_option linter.unusedSimpArgs false
set_option linter.unusedVariables false
namespace Go.Baro

/-- The fields fs hold the bits bs, and all but the last are full. -/
structure Pk (fs : List (Int × Int)) (bs : List Int) : Prop where
  ok : ∀ f ∈ fs, okF f
  bits : bitsF fs = bs
  full : ∀ f ∈ fs.dropLast, f.1 = 60

theorem Pk.nil : Pk [] [] := ⟨by simp, rfl, by simp⟩
theorem Pk.one {W V : Int} (h : okF (W, V)) : Pk [(W, V)] (bitsV W.toNat V) := ⟨by intro f hf; simp at hf; subst hf; exact h, by simp [bitsF], by simp⟩
theorem full_len : ∀ (fs : List (Int × Int)), (∀ f ∈ fs, f.1 = 60) → (bitsF fs).length = 60 * fs.length
  | [], _ => by simp [bitsF]
  | f :: fs, h => by
    have h1 := h f (by simp)
    have h2 := full_len fs fun g hg => h g (by simp [hg])
    have h3 : bitsF (f :: fs) = bitsV f.1.toNat f.2 ++ bitsF fs := rfl
    rw [h3, List.length_append, bitsV_length, h2, h1, List.length_cons]
    omega
theorem Pk.len {fs : List (Int × Int)} {bs : List Int} (h : Pk fs bs) : 60 * fs.length ≤ bs.length + 60 := by
  rcases List.eq_nil_or_concat fs with rfl | ⟨pre, f, rfl⟩
  · simp
  · have hf := h.full
    rw [List.concat_eq_append, List.dropLast_concat] at hf
    have h1 := full_len pre hf
    have h2 := h.bits
    rw [List.concat_eq_append, bitsF_append] at h2
    have h3 := congrArg List.length h2
    rw [List.length_append, h1] at h3
    simp
    omega
theorem pk_val {x y : Int} {b : Nat} (y0 : 0 ≤ y) (y1 : y < 2 ^ b) : (x * 2 ^ b + y) / 2 ^ b = x ∧ (x * 2 ^ b + y) % 2 ^ b = y := by
  have hp : (0 : Int) < 2 ^ b := Int.pow_pos (by decide)
  constructor
  · rw [Int.add_comm, Int.add_mul_ediv_right _ _ (Int.ne_of_gt hp), Int.ediv_eq_zero_of_lt y0 y1, Int.zero_add]
  · rw [Int.add_comm, Int.add_mul_emod_self_right, Int.emod_eq_of_lt y0 y1]
theorem val_lt {x y : Int} {a b : Nat} (x0 : 0 ≤ x) (x1 : x < 2 ^ a) (y0 : 0 ≤ y) (y1 : y < 2 ^ b) : 0 ≤ x * 2 ^ b + y ∧ x * 2 ^ b + y < 2 ^ (a + b) := by
  have hp : (0 : Int) < 2 ^ b := Int.pow_pos (by decide)
  have h1 : 0 ≤ x * 2 ^ b := Int.mul_nonneg x0 (by omega)
  have h2 : (x + 1) * 2 ^ b ≤ 2 ^ a * 2 ^ b := Int.mul_le_mul_of_nonneg_right (by omega) (by omega)
  rw [← Int.pow_add, Int.add_mul, Int.one_mul] at h2
  omega
theorem bitsV_join {x y : Int} {a b : Nat} (y0 : 0 ≤ y) (y1 : y < 2 ^ b) : bitsV (a + b) (x * 2 ^ b + y) = bitsV a x ++ bitsV b y := by
  have h := pk_val (x := x) y0 y1
  rw [bitsV_split, h.1, h.2]

theorem pk_A {pre : List (Int × Int)} {lw lv W V : Int} {bs : List Int} (h : Pk (pre ++ [(lw, lv)]) bs) (hf : okF (W, V)) (hc : lw + W ≤ 60) :
    Pk (pre ++ [(lw + W, lv * 2 ^ W.toNat + V)]) (bs ++ bitsV W.toNat V) := by
  have hl := h.ok (lw, lv) (by simp)
  obtain ⟨⟨l0, l1⟩, l2, l3⟩ := hl
  obtain ⟨⟨f0, f1⟩, f2, f3⟩ := hf
  dsimp only at l0 l1 l2 l3 f0 f1 f2 f3
  have e : (lw + W).toNat = lw.toNat + W.toNat := by omega
  have hv := val_lt l2 l3 f2 f3
  refine ⟨?_, ?_, ?_⟩
  · intro f hf
    rcases List.mem_append.1 hf with hf | hf
    · exact h.ok f (by simp [hf])
    · simp at hf
      subst hf
      exact ⟨⟨by dsimp only; omega, hc⟩, hv.1, by dsimp only; rw [e]; exact hv.2⟩
  · have hb := h.bits
    rw [bitsF_append, bitsF_one] at hb
    rw [bitsF_append, bitsF_one]
    dsimp only at hb ⊢
    rw [e, bitsV_join f2 f3, ← hb, List.append_assoc]
  · have := h.full
    rw [List.dropLast_concat] at this ⊢
    exact this
theorem pk_B {pre : List (Int × Int)} {lw lv W V : Int} {bs : List Int} (h : Pk (pre ++ [(lw, lv)]) bs) (hf : okF (W, V)) (hc : 60 < lw + W) :
    Pk ((pre ++ [(60, lv * 2 ^ (60 - lw).toNat + V / 2 ^ (W + lw - 60).toNat)]) ++ [(W + lw - 60, V % 2 ^ (W + lw - 60).toNat)]) (bs ++ bitsV W.toNat V) := by
  have hl := h.ok (lw, lv) (by simp)
  obtain ⟨⟨l0, l1⟩, l2, l3⟩ := hl
  obtain ⟨⟨f0, f1⟩, f2, f3⟩ := hf
  dsimp only at l0 l1 l2 l3 f0 f1 f2 f3
  generalize hh : (60 - lw).toNat = hd
  generalize hr : (W + lw - 60).toNat = r
  have e1 : W.toNat = hd + r := by omega
  have e2 : (60 : Nat) = lw.toNat + hd := by omega
  have hp : (0 : Int) < 2 ^ r := Int.pow_pos (by decide)
  have hd0 : 0 ≤ V / 2 ^ r := Int.ediv_nonneg f2 (by omega)
  have hd1 : V / 2 ^ r < 2 ^ hd := by
    apply Int.ediv_lt_of_lt_mul hp
    rw [← Int.pow_add, ← e1]; exact f3
  have hv := val_lt l2 l3 hd0 hd1
  refine ⟨?_, ?_, ?_⟩
  · intro f hf
    simp only [List.mem_append, List.mem_singleton] at hf
    rcases hf with (hf | rfl) | rfl
    · exact h.ok f (by simp [hf])
    · refine ⟨⟨by dsimp only; omega, by dsimp only; omega⟩, hv.1, ?_⟩
      have := hv.2
      rw [← e2] at this
      exact this
    · exact ⟨⟨by dsimp only; omega, by dsimp only; omega⟩, Int.emod_nonneg _ (by omega), by dsimp only; rw [hr]; exact Int.emod_lt_of_pos _ hp⟩
  · have hb := h.bits
    rw [bitsF_append, bitsF_one] at hb
    rw [bitsF_append, bitsF_append, bitsF_one, bitsF_one]
    dsimp only at hb ⊢
    rw [show (60 : Int).toNat = lw.toNat + hd from e2, bitsV_join hd0 hd1, ← hb, hr, e1, bitsV_split hd r V]
    simp only [List.append_assoc]
  · have := h.full
    rw [List.dropLast_concat] at this ⊢
    intro f hf
    rcases List.mem_append.1 hf with hf | hf
    · exact this f hf
    · simp at hf; subst hf; rfl

/-- The error of the numbers of a list. -/
def ckS : List Int → Int
  | [] => 0
  | n :: l => if -288230376151711744 ≤ n ∧ n < 288230376151711744 then ckS l else 11
def encC (l : List Int) : Int := if 240 < l.length then 1 else ckS l
def encY (l : List Int) : List Int := if encC l = 0 then packB (encB l) else []
theorem encC_big {l : List Int} (h : 240 < l.length) : encC l = 1 := if_pos h
theorem encC_not {l : List Int} (h : ¬ 240 < l.length) : encC l = ckS l := if_neg h
theorem ckS_cases : ∀ l : List Int, ckS l = 0 ∨ ckS l = 11
  | [] => .inl rfl
  | n :: l => by unfold ckS; split; exact ckS_cases l; exact .inr rfl
theorem ckS_step {n : Int} {l : List Int} (h : -288230376151711744 ≤ n ∧ n < 288230376151711744) : ckS (n :: l) = ckS l := if_pos h
theorem ckS_over {n : Int} {l : List Int} (h : ¬ (-288230376151711744 ≤ n ∧ n < 288230376151711744)) : ckS (n :: l) = 11 := if_neg h
theorem ckS_zero : ∀ {l : List Int}, ckS l = 0 → ∀ n ∈ l, Small n
  | [], _ => by simp
  | n :: l, h => by
    unfold ckS at h
    split at h
    · rename_i hn
      intro m hm
      rcases List.mem_cons.1 hm with rfl | hm
      · exact hn
      · exact ckS_zero h m hm
    · omega
theorem encB_len (l : List Int) : (encB l).length ≤ 63 * l.length := by
  induction l with
  | nil => simp [encB]
  | cons n l ih =>
    rw [encB_cons, List.length_append, zbits_len, List.length_cons]
    have := (zsize_le (zfold n)).2
    omega
theorem enc_snoc {l : List Int} {j : Nat} {n : Int} (h : l.take (j + 1) = l.take j ++ [n]) (x : Int) (hx : x = zfold n) :
    encB (l.take (j + 1)) = (encB (l.take j) ++ bitsV (zlen (zk x) : Int).toNat (zpre (zk x))) ++ bitsV (zwid (zk x) : Int).toNat x := by
  rw [h, encB_snoc, hx, zbits, Int.toNat_natCast, Int.toNat_natCast, List.append_assoc]
/-- What is packed is written. -/
theorem pk_written {fs : List (Int × Int)} {bs : List Int} (h : Pk fs bs) (hb : bs.length ≤ 15120) : wrCode fs = 0 ∧ wrBytes fs = packB bs := by
  have h1 := h.len
  have h2 : wrCode fs = 0 := by rw [wrCode_not (by omega)]; exact ckF_of h.ok
  exact ⟨h2, by rw [wrBytes, if_pos h2, h.bits]⟩
theorem zpre_ok (x : Int) : okF ((zlen (zk x) : Int), zpre (zk x)) ∧ 0 < (zlen (zk x) : Int) := by
  rcases zk_cases x with ⟨_, hk⟩ | ⟨_, _, hk⟩ | ⟨_, _, hk⟩ | ⟨_, _, hk⟩ | ⟨_, hk⟩ <;> rw [hk] <;> exact ⟨⟨⟨by decide, by decide⟩, by decide, by decide⟩, by decide⟩
theorem zwid_ok {x : Int} (h0 : 0 ≤ x) (h1 : x < 576460752303423488) : okF ((zwid (zk x) : Int), x) := by
  have h := (zk_fit h0 h1).1
  have hw : zwid (zk x) ≤ 60 := by rcases zk_cases x with ⟨_, hk⟩ | ⟨_, _, hk⟩ | ⟨_, _, hk⟩ | ⟨_, _, hk⟩ | ⟨_, hk⟩ <;> rw [hk] <;> decide
  exact ⟨⟨Int.natCast_nonneg _, by dsimp only; omega⟩, h0, by dsimp only; rw [Int.toNat_natCast]; exact h⟩
end Go.Baro
