/- Rolls in plain numbers. No statement of the seat is proved here; no condition. -/
import Derived.Test.YtnpabbinckcbaaaDoorLib
set_option linter.unusedSimpArgs false
set_option linter.unusedVariables false
namespace Go.Baro

/-- A roll: how many, the least, the greatest, the sum. -/
structure Rl where
  c : Int
  lo : Int
  hi : Int
  s : Int
theorem Rl.eq {a b : Rl} (h1 : a.c = b.c) (h2 : a.lo = b.lo) (h3 : a.hi = b.hi) (h4 : a.s = b.s) : a = b := by
  cases a; cases b; simp_all
def rl0 : Rl := ⟨0, 0, 0, 0⟩
def rl1 (v : Int) : Rl := ⟨1, v, v, v⟩
theorem rl1_n (v : Int) : 0 ≤ (rl1 v).c := by show (0 : Int) ≤ 1; decide
theorem rl1_ne (v : Int) : (rl1 v).c ≠ 0 := by show (1 : Int) ≠ 0; decide
theorem snoc_ind {α : Type} {p : List α → Prop} (h0 : p []) (h1 : ∀ l a, p l → p (l ++ [a])) (l : List α) : p l := by
  have : ∀ r : List α, p r.reverse := by
    intro r
    induction r with
    | nil => exact h0
    | cons a r ih => rw [List.reverse_cons]; exact h1 _ _ ih
  have h := this l.reverse
  rwa [List.reverse_reverse] at h
/-- Its cells, and its value. -/
def rlC (r : Rl) : List Value := [.int .i64 r.c, .int .i64 r.lo, .int .i64 r.hi, .int .i64 r.s]
def rlV (r : Rl) : Value := .agg #[.int .i64 r.c, .int .i64 r.lo, .int .i64 r.hi, .int .i64 r.s]
def I64 (n : Int) : Prop := -9223372036854775808 ≤ n ∧ n ≤ 9223372036854775807
/-- All its numbers are numbers of the machine. -/
def rlR (r : Rl) : Prop := I64 r.c ∧ I64 r.lo ∧ I64 r.hi ∧ I64 r.s
theorem rlR0 : rlR rl0 := by unfold rlR rl0 I64; decide

def mg (a b : Rl) : Rl := if a.c = 0 then b else if b.c = 0 then a else ⟨a.c + b.c, min a.lo b.lo, max a.hi b.hi, a.s + b.s⟩
theorem mg_left {a b : Rl} (h : a.c = 0) : mg a b = b := if_pos h
theorem mg_right {a b : Rl} (h : a.c ≠ 0) (h' : b.c = 0) : mg a b = a := by unfold mg; rw [if_neg h, if_pos h']
theorem mg_both {a b : Rl} (h : a.c ≠ 0) (h' : b.c ≠ 0) : mg a b = ⟨a.c + b.c, min a.lo b.lo, max a.hi b.hi, a.s + b.s⟩ := by unfold mg; rw [if_neg h, if_neg h']

/-- The document's 'valid'. -/
def N61 (n : Int) : Prop := -2305843009213693952 ≤ n ∧ n ≤ 2305843009213693951
def okRl (r : Rl) : Prop := if r.c = 0 then r.lo = 0 ∧ r.hi = 0 ∧ r.s = 0 else (1 ≤ r.c ∧ r.c ≤ 1048576) ∧ (N61 r.lo ∧ N61 r.hi ∧ N61 r.s) ∧ r.lo ≤ r.hi
instance (n : Int) : Decidable (N61 n) := by unfold N61; infer_instance
instance (r : Rl) : Decidable (okRl r) := by unfold okRl; infer_instance
theorem okRl_zero {r : Rl} (h : r.c = 0) : okRl r ↔ r.lo = 0 ∧ r.hi = 0 ∧ r.s = 0 := by unfold okRl; rw [if_pos h]
theorem okRl_pos {r : Rl} (h : r.c ≠ 0) : okRl r ↔ (1 ≤ r.c ∧ r.c ≤ 1048576) ∧ (N61 r.lo ∧ N61 r.hi ∧ N61 r.s) ∧ r.lo ≤ r.hi := by unfold okRl; rw [if_neg h]
theorem okRl_nums {r : Rl} (h : okRl r) : 0 ≤ r.c ∧ r.c ≤ 1048576 ∧ N61 r.lo ∧ N61 r.hi ∧ N61 r.s ∧ r.lo ≤ r.hi := by
  by_cases hc : r.c = 0
  · have := (okRl_zero hc).1 h
    unfold N61
    omega
  · have := (okRl_pos hc).1 h
    exact ⟨by omega, by omega, this.2.1.1, this.2.1.2.1, this.2.1.2.2, this.2.2⟩
theorem okRl_eq0 {r : Rl} (h : okRl r) (hc : r.c = 0) : r = rl0 := by
  obtain ⟨h1, h2, h3⟩ := (okRl_zero hc).1 h
  exact Rl.eq hc h1 h2 h3
/-- What Join answers. -/
def jnC (a b : Rl) : Int := if okRl a ∧ okRl b then (if okRl (mg a b) then 0 else 11) else 4
def jnR (a b : Rl) : Rl := if jnC a b = 0 then mg a b else rl0
theorem jn_bad {a b : Rl} (h : ¬ (okRl a ∧ okRl b)) : jnC a b = 4 ∧ jnR a b = rl0 := by
  have : jnC a b = 4 := if_neg h
  exact ⟨this, by unfold jnR; rw [if_neg (by rw [this]; decide)]⟩
theorem jn_over {a b : Rl} (h : okRl a ∧ okRl b) (h' : ¬ okRl (mg a b)) : jnC a b = 11 ∧ jnR a b = rl0 := by
  have : jnC a b = 11 := by unfold jnC; rw [if_pos h, if_neg h']
  exact ⟨this, by unfold jnR; rw [if_neg (by rw [this]; decide)]⟩
theorem jn_ok {a b : Rl} (h : okRl a ∧ okRl b) (h' : okRl (mg a b)) : jnC a b = 0 ∧ jnR a b = mg a b := by
  have : jnC a b = 0 := by unfold jnC; rw [if_pos h, if_pos h']
  exact ⟨this, by unfold jnR; rw [if_pos this]⟩
theorem mg_R {a b : Rl} (h : okRl a) (h' : okRl b) : rlR (mg a b) := by
  have h1 := okRl_nums h
  have h2 := okRl_nums h'
  unfold N61 at h1 h2
  unfold mg
  split
  · unfold rlR I64; omega
  · split
    · unfold rlR I64; omega
    · unfold rlR I64; dsimp only; omega

/-- The roll of values. -/
def rollV (vs : List Int) : Rl := vs.foldl (fun r v => mg r (rl1 v)) rl0
theorem rollV_snoc (vs : List Int) (v : Int) : rollV (vs ++ [v]) = mg (rollV vs) (rl1 v) := by simp [rollV]
theorem rollV_nil : rollV [] = rl0 := rfl
theorem rollV_one (v : Int) : rollV [v] = rl1 v := rfl
theorem mg_c {a b : Rl} (ha : 0 ≤ a.c) (hb : 0 ≤ b.c) : (mg a b).c = a.c + b.c := by
  unfold mg
  split
  · omega
  · split
    · omega
    · rfl
theorem foldl_count : ∀ (vs : List Int) (r : Rl), 0 ≤ r.c → (vs.foldl (fun r v => mg r (rl1 v)) r).c = r.c + vs.length
  | [], r, _ => by simp
  | v :: vs, r, h => by
    have h1 : (mg r (rl1 v)).c = r.c + 1 := mg_c h (rl1_n v)
    rw [List.foldl_cons, foldl_count vs _ (by omega), h1, List.length_cons]
    omega
theorem rollV_c (vs : List Int) : (rollV vs).c = vs.length := by
  have := foldl_count vs rl0 (by decide)
  rw [rollV, this]
  show (0 : Int) + _ = _
  omega
theorem foldl_sum : ∀ (vs : List Int) (r : Rl), 0 ≤ r.c → (r.c = 0 → r.s = 0) → (vs.foldl (fun r v => mg r (rl1 v)) r).s = r.s + vs.sum
  | [], r, _, _ => by simp
  | v :: vs, r, h, h0 => by
    have h1 : (mg r (rl1 v)).c = r.c + 1 := mg_c h (rl1_n v)
    have h2 : (mg r (rl1 v)).s = r.s + v := by
      by_cases hc : r.c = 0
      · rw [mg_left hc]
        have := h0 hc
        show v = _
        omega
      · rw [mg_both hc (rl1_ne v)]; rfl
    rw [List.foldl_cons, foldl_sum vs _ (by omega) (fun h => by omega), h2, List.sum_cons]
    omega
theorem rollV_s (vs : List Int) : (rollV vs).s = vs.sum := by
  have := foldl_sum vs rl0 (by decide) (fun _ => rfl)
  rw [rollV, this]
  show (0 : Int) + _ = _
  omega
theorem min_assoc' (a b c : Int) : min (min a b) c = min a (min b c) := by omega
theorem max_assoc' (a b c : Int) : max (max a b) c = max a (max b c) := by omega
theorem mg_assoc {a b c : Rl} (ha : 0 ≤ a.c) (hb : 0 ≤ b.c) (hc : 0 ≤ c.c) : mg (mg a b) c = mg a (mg b c) := by
  by_cases h1 : a.c = 0
  · rw [mg_left h1, mg_left h1]
  by_cases h2 : b.c = 0
  · rw [mg_right h1 h2, mg_left h2]
  by_cases h3 : c.c = 0
  · rw [mg_right h2 h3, mg_right (by rw [mg_c ha hb]; omega) h3]
  rw [mg_both h1 h2, mg_both h2 h3, mg_both (by dsimp only; omega) h3, mg_both h1 (by dsimp only; omega)]
  refine Rl.eq ?_ ?_ ?_ ?_ <;> dsimp only <;> omega
theorem mg_comm {a b : Rl} (ha : a.c = 0 → a = rl0) (hb : b.c = 0 → b = rl0) : mg a b = mg b a := by
  by_cases h1 : a.c = 0
  · by_cases h2 : b.c = 0
    · rw [ha h1, hb h2]
    · rw [mg_left h1, mg_right h2 h1]
  by_cases h2 : b.c = 0
  · rw [mg_right h1 h2, mg_left h2]
  rw [mg_both h1 h2, mg_both h2 h1]
  refine Rl.eq ?_ ?_ ?_ ?_ <;> dsimp only <;> omega
theorem mg_rl0 {a : Rl} (ha : a.c = 0 → a = rl0) : mg a rl0 = a := by
  by_cases h1 : a.c = 0
  · rw [mg_left h1, ha h1]
  · rw [mg_right h1 rfl]
theorem rollV_c0 {vs : List Int} (h : (rollV vs).c = 0) : rollV vs = rl0 := by
  rw [rollV_c] at h
  have : vs = [] := List.eq_nil_of_length_eq_zero (by omega)
  subst this; rfl
theorem rollV_cn (vs : List Int) : 0 ≤ (rollV vs).c := by rw [rollV_c]; omega
theorem rollV_append (xs ys : List Int) : rollV (xs ++ ys) = mg (rollV xs) (rollV ys) := by
  refine snoc_ind (p := fun ys => rollV (xs ++ ys) = mg (rollV xs) (rollV ys)) ?_ ?_ ys
  · rw [List.append_nil, rollV_nil, mg_rl0 rollV_c0]
  · intro ys v ih
    rw [← List.append_assoc, rollV_snoc, rollV_snoc, ih, mg_assoc (rollV_cn _) (rollV_cn _) (rl1_n v)]
/-- Every value lies between, and both ends are there. -/
theorem rollV_ends (vs : List Int) : vs ≠ [] → (∀ v ∈ vs, (rollV vs).lo ≤ v ∧ v ≤ (rollV vs).hi) ∧ (rollV vs).lo ∈ vs ∧ (rollV vs).hi ∈ vs := by
  refine snoc_ind (p := fun vs => vs ≠ [] → (∀ v ∈ vs, (rollV vs).lo ≤ v ∧ v ≤ (rollV vs).hi) ∧ (rollV vs).lo ∈ vs ∧ (rollV vs).hi ∈ vs) ?_ ?_ vs
  · exact fun h => absurd rfl h
  · intro ys v ih h
    by_cases hy : ys = []
    · subst hy
      simp [rollV_one, rl1]
    · obtain ⟨i1, i2, i3⟩ := ih hy
      have hc : (rollV ys).c ≠ 0 := fun h0 => by
        rw [rollV_c] at h0
        exact hy (List.eq_nil_of_length_eq_zero (by omega))
      rw [rollV_snoc, mg_both hc (rl1_ne v)]
      dsimp only [rl1]
      refine ⟨fun u hu => ?_, ?_, ?_⟩
      · rcases List.mem_append.1 hu with hu | hu
        · have := i1 u hu; omega
        · simp at hu; omega
      · rcases Int.le_total (rollV ys).lo v with hh | hh
        · rw [Int.min_eq_left hh]; exact List.mem_append_left _ i2
        · rw [Int.min_eq_right hh]; simp
      · rcases Int.le_total (rollV ys).hi v with hh | hh
        · rw [Int.max_eq_right hh]; simp
        · rw [Int.max_eq_left hh]; exact List.mem_append_left _ i3
/-- The bound of a sum. -/
theorem sum_bd (K : Nat) : ∀ (vs : List Int), (∀ v ∈ vs, -(K : Int) ≤ v ∧ v < K) → -((vs.length * K : Nat) : Int) ≤ vs.sum ∧ vs.sum ≤ ((vs.length * K : Nat) : Int) - vs.length
  | [], _ => by simp
  | v :: vs, h => by
    have h1 := h v (by simp)
    have h2 := sum_bd K vs fun u hu => h u (by simp [hu])
    rw [List.length_cons, List.sum_cons, Nat.add_mul]
    omega
theorem sum_bd55 (vs : List Int) (hl : vs.length ≤ 120) (h : ∀ v ∈ vs, -36028797018963968 ≤ v ∧ v < 36028797018963968) : I64 vs.sum := by
  have h1 := sum_bd 36028797018963968 vs (fun v hv => by have := h v hv; omega)
  unfold I64
  omega
theorem sum_bd54 (vs : List Int) (hl : vs.length ≤ 120) (h : ∀ v ∈ vs, -18014398509481984 ≤ v ∧ v < 18014398509481984) : N61 vs.sum := by
  have h1 := sum_bd 18014398509481984 vs (fun v hv => by have := h v hv; omega)
  unfold N61
  omega
theorem sum_bd61 (vs : List Int) (hl : vs.length ≤ 4) (h : ∀ v ∈ vs, N61 v) : I64 vs.sum := by
  have h1 := sum_bd 2305843009213693952 vs (fun v hv => by have := h v hv; unfold N61 at this; omega)
  unfold I64
  omega
/-- The roll of values whose sum is a number of the machine. -/
theorem rollV_R (vs : List Int) (hl : vs.length ≤ 140737488355328) (h : ∀ v ∈ vs, I64 v) (hs : I64 vs.sum) : rlR (rollV vs) := by
  by_cases hy : vs = []
  · subst hy; exact rlR0
  · obtain ⟨i1, i2, i3⟩ := rollV_ends vs hy
    refine ⟨?_, h _ i2, h _ i3, by rw [rollV_s]; exact hs⟩
    rw [rollV_c]
    unfold I64
    omega

/-- The ends of two rolls, and what they give. -/
def endsOf (a b : Rl) : List Int := (if 0 < a.c then [a.lo, a.hi] else []) ++ (if 0 < b.c then [b.lo, b.hi] else [])
theorem ends_ok {a b : Rl} (ha : okRl a) (hb : okRl b) : (endsOf a b).length ≤ 4 ∧ ∀ v ∈ endsOf a b, N61 v := by
  have h1 := okRl_nums ha
  have h2 := okRl_nums hb
  unfold endsOf
  by_cases h : 0 < a.c <;> by_cases h' : 0 < b.c <;> simp [h, h'] <;> grind
theorem ends_join {a b : Rl} (ha : okRl a) (hb : okRl b) : (⟨a.c + b.c, (rollV (endsOf a b)).lo, (rollV (endsOf a b)).hi, a.s + b.s⟩ : Rl) = mg a b := by
  have h1 := okRl_nums ha
  have h2 := okRl_nums hb
  unfold endsOf
  by_cases h : 0 < a.c
  · by_cases h' : 0 < b.c
    · rw [if_pos h, if_pos h', mg_both (by omega) (by omega)]
      simp [rollV, mg, rl0, rl1]
      omega
    · have hz := okRl_eq0 hb (by omega)
      subst hz
      rw [if_pos h, if_neg h', mg_right (by omega) rfl]
      refine Rl.eq ?_ ?_ ?_ ?_ <;> simp [rollV, mg, rl0, rl1] <;> omega
  · have hz := okRl_eq0 ha (by omega)
    subst hz
    rw [if_neg h, mg_left rfl]
    by_cases h' : 0 < b.c
    · rw [if_pos h']
      refine Rl.eq ?_ ?_ ?_ ?_ <;> simp [rollV, mg, rl0, rl1] <;> omega
    · have hz := okRl_eq0 hb (by omega)
      subst hz
      rw [if_neg h']
      rfl
theorem sum_take61 {es : List Int} (hl : es.length ≤ 4) (h : ∀ v ∈ es, N61 v) (j : Nat) : I64 (es.take j).sum :=
  sum_bd61 _ (by simp; omega) fun v hv => h v (List.mem_of_mem_take hv)
end Go.Baro
