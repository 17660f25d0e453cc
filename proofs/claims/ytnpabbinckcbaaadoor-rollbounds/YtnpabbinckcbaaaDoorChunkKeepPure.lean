/- Regular samples, shifted samples, in plain numbers. No statement of the seat is proved here; no condition. -/
import Derived.Test.YtnpabbinckcbaaaDoorChunkPure2
set_option linter.unusedSimpArgs false
set_option linter.unusedVariables false
namespace Go.Baro

theorem ckL_end : ∀ (l : List (Int × Int)) (q : St) (x : Int × Int), ckL q l = 0 → ckL q (l ++ [x]) = ck1 (l.foldl adv q) x
  | [], q, x, _ => by
    show ckL q [x] = ck1 q x
    by_cases h : ck1 q x = 0
    · rw [ckL_cons h, h]; rfl
    · rw [ckL_bad h]
  | y :: l, q, x, h => by
    obtain ⟨h1, h2⟩ := ckL_split h
    rw [List.cons_append, ckL_cons h1, ckL_end l (adv q y) x h2]
    rfl
theorem numL_append : ∀ (a b : List (Int × Int)) (q : St), numL q (a ++ b) = numL q a ++ numL (a.foldl adv q) b
  | [], b, q => rfl
  | x :: a, b, q => by
    rw [List.cons_append, numL, numL, numL_append a b (adv q x)]
    rfl
theorem encB_append (a b : List Int) : encB (a ++ b) = encB a ++ encB b := by simp [encB]
theorem encB_zeros (m : Nat) : (encB (List.replicate m 0)).length = m := by
  induction m with
  | zero => rfl
  | succ m ih =>
    rw [List.replicate_succ, encB_cons, List.length_append, ih, zbits_len]
    show 1 + m = m + 1
    omega

/-- Regular samples with a constant value. -/
def stL (t d v : Int) : Nat → List (Int × Int)
  | 0 => []
  | k + 1 => (t, v) :: stL (t + d) d v k
theorem stL_len (d v : Int) : ∀ (k : Nat) (t : Int), (stL t d v k).length = k
  | 0, _ => rfl
  | k + 1, t => by rw [stL, List.length_cons, stL_len d v k]
theorem stL_snoc (d v : Int) : ∀ (k : Nat) (t : Int), stL t d v (k + 1) = stL t d v k ++ [(t + k * d, v)]
  | 0, t => by simp [stL]
  | k + 1, t => by
    rw [stL, stL_snoc d v k (t + d), stL, List.cons_append]
    have : t + d + (k : Int) * d = t + ((k + 1 : Nat) : Int) * d := by
      rw [Int.natCast_add, Int.add_mul, Int.natCast_one, Int.one_mul]; omega
    rw [this]
theorem stL_take (d v : Int) : ∀ (a b : Nat) (t : Int), (stL t d v (a + b)).take a = stL t d v a
  | 0, b, t => by simp [stL]
  | a + 1, b, t => by
    rw [show a + 1 + b = (a + b) + 1 by omega, stL, stL, List.take_succ_cons, stL_take d v a b]
theorem stL_ck (d v : Int) (hd : 1 ≤ d) (hv : InR v) : ∀ (k : Nat) (t : Int) (q : St), (q.b = true → q.t < t) → -36028797018963968 ≤ t → (∀ i : Nat, i < k → t + i * d < 36028797018963968) → ckL q (stL t d v k) = 0
  | 0, _, _, _, _, _ => rfl
  | k + 1, t, q, hq, h0, hi => by
    have h1 := hi 0 (by omega)
    simp at h1
    have hc : ck1 q (t, v) = 0 := ck1_ok ⟨h0, h1⟩ hv hq
    rw [stL, ckL_cons hc]
    refine stL_ck d v hd hv k (t + d) _ (fun _ => by show t < t + d; omega) (by omega) (fun i hik => ?_)
    have h2 := hi (i + 1) (by omega)
    rw [Int.natCast_add, Int.add_mul, Int.natCast_one, Int.one_mul] at h2
    omega
theorem stL_num (d v : Int) : ∀ (k : Nat) (t : Int) (q : St), q.b = true → q.t = t - d → q.s = d → q.v = v → numL q (stL t d v k) = List.replicate (2 * k) 0
  | 0, _, _, _, _, _, _ => rfl
  | k + 1, t, q, hb, ht, hs, hv => by
    rw [stL, numL, stL_num d v k (t + d) (adv q (t, v)) rfl (by show t = t + d - d; omega) (by show stepOf q t = d; unfold stepOf; rw [if_pos hb, ht]; omega) rfl]
    rw [show 2 * (k + 1) = 2 * k + 1 + 1 by omega, List.replicate_succ, List.replicate_succ]
    have e1 : t - q.t - q.s = 0 := by rw [ht, hs]; omega
    have e2 : v - q.v = 0 := by rw [hv]; omega
    dsimp only
    rw [e1, e2]
/-- Two bits a sample behind the first two. -/
theorem stL_bits (t d v : Int) (k : Nat) : (encB (numL st0 (stL t d v (2 + k)))).length = (encB (numL st0 (stL t d v 2))).length + 2 * k := by
  have h : stL t d v (2 + k) = stL t d v 2 ++ stL (t + d + d) d v k := by
    rw [show 2 + k = k + 1 + 1 by omega]
    rfl
  rw [h, numL_append, encB_append, List.length_append]
  congr 1
  rw [stL_num d v k (t + d + d) _ rfl (by show t + d = t + d + d - d; omega) (by show (t + d) - t = d; omega) rfl, encB_zeros]
/-- What ChunkSteady asks. -/
theorem steady {t d v : Int} {k : Nat} (hk : k ≤ 120) (hd : 1 ≤ d) (hv : InR v) (h0 : -36028797018963968 ≤ t) (hi : ∀ i : Nat, i < k → t + i * d < 36028797018963968) :
    chC (stL t d v k) = 0 ∧ chC ((stL t d v k).take 2) = 0 ∧ 0 < (chY ((stL t d v k).take 2)).length ∧ (chY ((stL t d v k).take 2)).length ≤ 33 ∧ (chY (stL t d v k)).length ≤ (chY ((stL t d v k).take 2)).length + (k - 2 + 3) / 4 := by
  have hc : ∀ j, j ≤ k → chC (stL t d v j) = 0 := fun j hj => by
    rw [chC_of (by rw [stL_len]; omega)]
    exact stL_ck d v hd hv j t st0 (fun h => by cases h) h0 (fun i hij => hi i (by omega))
  rcases Nat.lt_or_ge k 2 with h2 | h2
  · have ht : (stL t d v k).take 2 = stL t d v k := List.take_of_length_le (by rw [stL_len]; omega)
    rw [ht]
    have hz := hc k (Nat.le_refl _)
    have hl := chY_len hz
    have hb := encB_len (numL st0 (stL t d v k))
    rw [numL_len, stL_len] at hb
    exact ⟨hz, hz, by omega, by omega, by omega⟩
  · obtain ⟨m, rfl⟩ : ∃ m, k = 2 + m := ⟨k - 2, by omega⟩
    rw [stL_take]
    have hz := hc (2 + m) (Nat.le_refl _)
    have hz2 := hc 2 (by omega)
    have hl := chY_len hz
    have hl2 := chY_len hz2
    have hb := encB_len (numL st0 (stL t d v 2))
    rw [numL_len, stL_len] at hb
    rw [stL_bits] at hl
    exact ⟨hz, hz2, by omega, by omega, by omega⟩

theorem chY_pos {S : List (Int × Int)} (h : chC S = 0) : 0 < (chY S).length := by rw [chY_len h]; omega
/-- Samples that may be, and lie well within. -/
def SOk (S : List (Int × Int)) : Prop := ckL st0 S = 0 ∧ ∀ x ∈ S, -18014398509481984 ≤ x.1 ∧ x.1 ≤ 18014398509481984
theorem SOk.nil : SOk [] := ⟨rfl, by simp⟩
theorem SOk.snoc {S : List (Int × Int)} (h : SOk S) {t v : Int} (hq : (S.foldl adv st0).b = true → (S.foldl adv st0).t < t) (h1 : -18014398509481984 ≤ t) (h2 : t ≤ 18014398509481984) (hv : InR v) : SOk (S ++ [(t, v)]) := by
  refine ⟨?_, ?_⟩
  · rw [ckL_end S st0 _ h.1]
    exact ck1_ok ⟨by dsimp only; omega, by dsimp only; omega⟩ hv hq
  · intro x hx
    rcases List.mem_append.1 hx with hx | hx
    · exact h.2 x hx
    · simp at hx; subst hx; exact ⟨h1, h2⟩
/-- Their values are well within, too. -/
def VB (S : List (Int × Int)) : Prop := ∀ x ∈ S, -18014398509481984 ≤ x.2 ∧ x.2 < 18014398509481984
theorem VB.nil : VB [] := by simp [VB]
theorem VB.snoc {S : List (Int × Int)} (h : VB S) {t v : Int} (hv : -18014398509481984 ≤ v ∧ v < 18014398509481984) : VB (S ++ [(t, v)]) := by
  intro x hx
  rcases List.mem_append.1 hx with hx | hx
  · exact h x hx
  · simp at hx; subst hx; exact hv
theorem SOk.ch {S : List (Int × Int)} (h : SOk S) (hl : S.length ≤ 120) : chC S = 0 := by rw [chC_of hl]; exact h.1

/-- Samples that are all as much later. -/
def shL (d : Int) (S : List (Int × Int)) : List (Int × Int) := S.map fun x => (x.1 + d, x.2)
def shQ (d : Int) (q : St) : St := ⟨q.t + d, q.v, q.s, q.b⟩
theorem shQ_adv (d : Int) (q : St) (x : Int × Int) (hb : q.b = true) : adv (shQ d q) (x.1 + d, x.2) = shQ d (adv q x) := by
  unfold adv shQ stepOf
  dsimp only
  rw [if_pos hb, if_pos hb]
  congr 1
  omega
theorem shQ_first (d : Int) (x : Int × Int) : adv st0 (x.1 + d, x.2) = shQ d (adv st0 x) := rfl
theorem sh_num (d : Int) : ∀ (S : List (Int × Int)) (q : St), q.b = true → numL (shQ d q) (shL d S) = numL q S
  | [], _, _ => rfl
  | x :: S, q, hb => by
    show (x.1 + d - (q.t + d) - q.s) :: (x.2 - q.v) :: numL (adv (shQ d q) (x.1 + d, x.2)) (shL d S) = _
    rw [shQ_adv d q x hb, sh_num d S (adv q x) rfl, numL, show x.1 + d - (q.t + d) - q.s = x.1 - q.t - q.s by omega]
theorem sh_ck (d : Int) : ∀ (S : List (Int × Int)) (q : St), q.b = true → ckL q S = 0 → (∀ x ∈ S, InR (x.1 + d)) → ckL (shQ d q) (shL d S) = 0
  | [], _, _, _, _ => rfl
  | x :: S, q, hb, h, hi => by
    obtain ⟨h1, h2⟩ := ckL_split h
    have h3 := ck1_zero h1
    show ckL (shQ d q) ((x.1 + d, x.2) :: shL d S) = 0
    rw [ckL_cons (show ck1 (shQ d q) (x.1 + d, x.2) = 0 from ck1_ok (hi x (by simp)) h3.2.1 (fun _ => by have := h3.2.2 hb; show q.t + d < x.1 + d; omega)), shQ_adv d q x hb]
    exact sh_ck d S (adv q x) rfl h2 (fun y hy => hi y (by simp [hy]))
theorem shL_len (d : Int) (S : List (Int × Int)) : (shL d S).length = S.length := by simp [shL]
/-- What ChunkShift asks. -/
theorem shifted {S : List (Int × Int)} {d : Int} (h : SOk S) (hl : S.length ≤ 120) (h0 : 0 ≤ d) (h1 : d < 9007199254740992) :
    chC S = 0 ∧ chC (shL d S) = 0 ∧ 0 < (chY S).length ∧ (chY S).length ≤ (chY (shL d S)).length + 8 ∧ (chY (shL d S)).length ≤ (chY S).length + 8 := by
  have hz := h.ch hl
  cases S with
  | nil =>
    have hn := chY_len (l := []) rfl
    refine ⟨rfl, rfl, ?_, ?_, ?_⟩
    · rw [hn]; decide
    · exact Nat.le_add_right _ _
    · exact Nat.le_add_right _ _
  | cons x S =>
    obtain ⟨g1, g2⟩ := ckL_split h.1
    have g3 := ck1_zero g1
    have hin : ∀ y ∈ x :: S, InR (y.1 + d) := fun y hy => by have := h.2 y hy; unfold InR; omega
    have hc2 : chC (shL d (x :: S)) = 0 := by
      rw [chC_of (by rw [shL_len]; exact hl)]
      show ckL st0 ((x.1 + d, x.2) :: shL d S) = 0
      rw [ckL_cons (show ck1 st0 (x.1 + d, x.2) = 0 from ck1_ok (hin x (by simp)) g3.2.1 (fun h => by cases h)), shQ_first]
      exact sh_ck d S (adv st0 x) rfl g2 (fun y hy => hin y (by simp [hy]))
    have l1 := chY_len hz
    have l2 := chY_len hc2
    have e1 : (encB (numL st0 (x :: S))).length = zsize (zfold (x.1 - 0 - 0)) + (encB ((x.2 - 0) :: numL (adv st0 x) S)).length := by
      show (encB ((x.1 - 0 - 0) :: (x.2 - 0) :: numL (adv st0 x) S)).length = _
      rw [encB_cons, List.length_append, zbits_len]
    have e2 : (encB (numL st0 (shL d (x :: S)))).length = zsize (zfold (x.1 + d - 0 - 0)) + (encB ((x.2 - 0) :: numL (adv st0 x) S)).length := by
      show (encB ((x.1 + d - 0 - 0) :: (x.2 - 0) :: numL (adv st0 (x.1 + d, x.2)) (shL d S))).length = _
      rw [encB_cons, List.length_append, zbits_len, shQ_first, sh_num d S (adv st0 x) rfl]
    have z1 := zsize_le (zfold (x.1 - 0 - 0))
    have z2 := zsize_le (zfold (x.1 + d - 0 - 0))
    exact ⟨hz, hc2, by omega, by omega, by omega⟩
end Go.Baro
