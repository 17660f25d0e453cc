/- What an Adler sum is, in numbers. No statement of the seat is proved here; no condition. -/
import Derived.Test.YtpgjjndmbkkhiaaLib
set_option linter.unusedSimpArgs false
set_option linter.unusedVariables false
namespace Go.Proofs.Ytpgjjndmbkkhiaa
open Go.Baro

/-- One byte more. -/
def ad1 (u : Int × Int) (c : Int) : Int × Int := ((u.1 + c) % 65521, (u.2 + (u.1 + c) % 65521) % 65521)
def adL (u : Int × Int) (l : List Int) : Int × Int := l.foldl ad1 u
def adJ (u : Int × Int) : Int := 65536 * u.2 + u.1
def okU (u : Int × Int) : Prop := (0 ≤ u.1 ∧ u.1 < 65521) ∧ (0 ≤ u.2 ∧ u.2 < 65521)
def adU (s : Int) : Int × Int := (s % 65536, s / 65536)
def okS (s : Int) : Prop := 0 ≤ s ∧ s % 65536 < 65521 ∧ s / 65536 < 65521
instance (s : Int) : Decidable (okS s) := by unfold okS; infer_instance
def moR (s : Int) (l : List Int) : Int := if okS s then adJ (adL (adU s) l) else 0
def moC (s : Int) : Int := if okS s then 0 else 2
def adO (l : List Int) : Int := adJ (adL (1, 0) l)
def slU (u : Int × Int) (n o i : Int) : Int × Int := ((u.1 - o + i) % 65521, (u.2 - n * o - 1 + (u.1 - o + i) % 65521) % 65521)
def okN (n : Int) : Prop := 1 ≤ n ∧ n ≤ 1048576
instance (n : Int) : Decidable (okN n) := by unfold okN; infer_instance
def slR (s n o i : Int) : Int := if okS s ∧ okN n then adJ (slU (adU s) n o i) else 0
def slC (s n : Int) : Int := if okS s ∧ okN n then 0 else 2

theorem mo_in {s : Int} (h : okS s) (l : List Int) : moR s l = adJ (adL (adU s) l) ∧ moC s = 0 := by simp [moR, moC, h]
theorem mo_out {s : Int} (h : ¬ okS s) (l : List Int) : moR s l = 0 ∧ moC s = 2 := by simp [moR, moC, h]
theorem sl_in {s n : Int} (h : okS s) (h' : okN n) (o i : Int) : slR s n o i = adJ (slU (adU s) n o i) ∧ slC s n = 0 := by simp [slR, slC, h, h']
theorem sl_out {s n : Int} (h : ¬ (okS s ∧ okN n)) (o i : Int) : slR s n o i = 0 ∧ slC s n = 2 := by simp [slR, slC, h]

theorem adL_nil (u : Int × Int) : adL u [] = u := rfl
theorem adL_cons (u : Int × Int) (c : Int) (l : List Int) : adL u (c :: l) = adL (ad1 u c) l := rfl
theorem adL_append (u : Int × Int) (a b : List Int) : adL u (a ++ b) = adL (adL u a) b := by simp [adL]
theorem adL_take {l : List Int} {i : Nat} {x : Int} (u : Int × Int) (h : l[i]? = some x) : adL u (l.take (i + 1)) = ad1 (adL u (l.take i)) x := by
  rw [at_take h, adL_append]; rfl
theorem ad1_ok (u : Int × Int) (c : Int) : okU (ad1 u c) := by
  unfold okU ad1; dsimp only; omega
theorem adL_ok {u : Int × Int} (h : okU u) (l : List Int) : okU (adL u l) := by
  induction l generalizing u with
  | nil => exact h
  | cons c l ih => exact ih (ad1_ok u c)
theorem one_ok : okU (1, 0) := by unfold okU; decide
theorem okU_of {s : Int} (h : okS s) : okU (adU s) := by
  unfold okS at h; unfold okU adU; dsimp only; omega
theorem okS_of {u : Int × Int} (h : okU u) : okS (adJ u) ∧ adU (adJ u) = u := by
  obtain ⟨s, t⟩ := u
  unfold okU at h; unfold okS adU adJ
  dsimp only at h ⊢
  refine ⟨by omega, ?_⟩
  rw [Prod.mk.injEq]; omega
theorem adJ_inj {u v : Int × Int} (h : okU u) (h' : okU v) : adJ u = adJ v ↔ u = v := by
  refine ⟨fun e => ?_, fun e => by rw [e]⟩
  rw [← (okS_of h).2, e, (okS_of h').2]
theorem slU_ok (u : Int × Int) (n o i : Int) : okU (slU u n o i) := by
  unfold okU slU; dsimp only; omega

/-- The sum of the bytes, and their sum in which each counts as often as it is followed, and once. -/
def sumB : List Int → Int
  | [] => 0
  | x :: l => x + sumB l
def wgtB : List Int → Int
  | [] => 0
  | x :: l => (l.length + 1) * x + wgtB l
theorem adL_is (l : List Int) : ∀ (s t : Int), adL (s % 65521, t % 65521) l = ((s + sumB l) % 65521, (t + l.length * s + wgtB l) % 65521) := by
  induction l with
  | nil => intro s t; simp [adL, sumB, wgtB]
  | cons c l ih =>
    intro s t
    rw [adL_cons]
    have h1 : ad1 (s % 65521, t % 65521) c = ((s + c) % 65521, (t + (s + c)) % 65521) := by
      unfold ad1; dsimp only; rw [Prod.mk.injEq]; omega
    rw [h1, ih]
    simp only [sumB, wgtB, List.length_cons]
    have e1 : s + c + sumB l = s + (c + sumB l) := by omega
    have e2 : t + (s + c) + l.length * (s + c) + wgtB l = t + ((l.length + 1 : Nat) : Int) * s + ((l.length + 1) * c + wgtB l) := by
      rw [Int.natCast_add, Int.mul_add, Int.add_mul, Int.add_mul]; simp; omega
    rw [e1, e2]
theorem adL_one (l : List Int) : adL (1, 0) l = ((1 + sumB l) % 65521, (l.length + wgtB l) % 65521) := by
  have := adL_is l 1 0
  simpa using this
theorem sumB_append (a b : List Int) : sumB (a ++ b) = sumB a + sumB b := by
  induction a with
  | nil => simp [sumB]
  | cons x a ih => simp only [List.cons_append, sumB, ih]; omega
theorem wgtB_append (a b : List Int) : wgtB (a ++ b) = wgtB a + b.length * sumB a + wgtB b := by
  induction a with
  | nil => simp [sumB, wgtB]
  | cons x a ih =>
    simp only [List.cons_append, sumB, wgtB, ih, List.length_append, Int.natCast_add]
    rw [Int.mul_add, show (a.length : Int) + b.length + 1 = (a.length + 1) + b.length by omega, Int.add_mul (a.length + 1 : Int)]
    omega
/-- The window that goes on by one. -/
theorem slid (o : Int) (l : List Int) (i : Int) : slU (adL (1, 0) (o :: l)) (l.length + 1 : Nat) o i = adL (1, 0) (l ++ [i]) := by
  rw [adL_one, adL_one, wgtB_append, sumB_append]
  simp only [slU, sumB, wgtB, List.length_cons, List.length_append, List.length_nil, Int.natCast_add]
  generalize hP : ((l.length : Int) + 1) * o = P
  rw [Prod.mk.injEq]
  simp
  omega
/-- Another byte, another sum. -/
theorem changed (a b : List Int) (x y : Int) (hx : 0 ≤ x ∧ x < 256) (hy : 0 ≤ y ∧ y < 256) : adO (a ++ y :: b) = adO (a ++ x :: b) ↔ y = x := by
  unfold adO
  rw [adJ_inj (adL_ok one_ok _) (adL_ok one_ok _)]
  refine ⟨fun h => ?_, fun h => by rw [h]⟩
  rw [adL_one, adL_one, Prod.mk.injEq] at h
  have h := h.1
  rw [sumB_append, sumB_append] at h
  simp only [sumB] at h
  omega
/-- Two neighbours that changed places. -/
theorem turned (a b : List Int) (x y : Int) (hx : 0 ≤ x ∧ x < 256) (hy : 0 ≤ y ∧ y < 256) : adO (a ++ y :: x :: b) = adO (a ++ x :: y :: b) ↔ x = y := by
  unfold adO
  rw [adJ_inj (adL_ok one_ok _) (adL_ok one_ok _)]
  refine ⟨fun h => ?_, fun h => by rw [h]⟩
  rw [adL_one, adL_one, Prod.mk.injEq] at h
  have h := h.2
  rw [wgtB_append, wgtB_append] at h
  simp only [sumB, wgtB, List.length_append, List.length_cons, Int.natCast_add, Int.add_mul] at h
  simp at h
  omega
theorem adO_range (l : List Int) : 0 ≤ adO l ∧ adO l < 4294967296 := by
  have h := adL_ok one_ok l
  unfold okU at h
  unfold adO adJ
  omega
theorem mo_parts (x y : List Int) : moR (adO x) y = adO (x ++ y) ∧ moC (adO x) = 0 := by
  have h := okS_of (adL_ok one_ok x)
  have h2 := mo_in h.1 y
  unfold adO at *
  rw [h2.1, h2.2, h.2, adL_append]
  exact ⟨rfl, rfl⟩
theorem adO_nil : adO [] = 1 := rfl
theorem adO_one : adO [1] = 131074 := by decide
theorem sl_slid (o : Int) (l : List Int) (i : Int) (n : Int) (hn : n = (l.length + 1 : Nat)) (hl : l.length < 1048576) : slR (adO (o :: l)) n o i = adO (l ++ [i]) ∧ slC (adO (o :: l)) n = 0 := by
  have h := okS_of (adL_ok one_ok (o :: l))
  have h2 := sl_in h.1 (n := n) (by unfold okN; omega) o i
  unfold adO at *
  rw [h2.1, h2.2, h.2, hn, slid]
  exact ⟨rfl, rfl⟩
end Go.Proofs.Ytpgjjndmbkkhiaa
