/- Buckets are all samples, each in one, in their order. No statement of the seat is proved here; no condition. -/
import Derived.Test.YtnpabbinckcbaaaDoorBucketPure
import Derived.Test.YtnpabbinckcbaaaDoorChunkKeepPure
set_option linter.unusedSimpArgs false
set_option linter.unusedVariables false
namespace Go.Baro

theorem ckL_lt : ∀ (l : List (Int × Int)) (q : St) (x : Int × Int), ckL q (l ++ [x]) = 0 → (q.b = true → q.t < x.1) ∧ ∀ y ∈ l, y.1 < x.1
  | [], q, x, h => by
    obtain ⟨h1, _⟩ := ckL_split (l := []) h
    exact ⟨(ck1_zero h1).2.2, by simp⟩
  | y :: l, q, x, h => by
    obtain ⟨h1, h2⟩ := ckL_split (l := l ++ [x]) h
    obtain ⟨h3, h4⟩ := ckL_lt l (adv q y) x h2
    have h5 : y.1 < x.1 := h3 rfl
    refine ⟨fun hb => ?_, fun z hz => ?_⟩
    · have := (ck1_zero h1).2.2 hb; omega
    · rcases List.mem_cons.1 hz with rfl | hz
      · exact h5
      · exact h4 z hz
theorem beg_mono {d a b : Int} (hd : 1 ≤ d) (h : a ≤ b) : beg d a ≤ beg d b := by
  unfold beg
  have h1 := Int.emod_add_mul_ediv a d
  have h2 := Int.emod_add_mul_ediv b d
  have h3 := Int.ediv_le_ediv (c := d) (by omega) h
  have h4 : d * (a / d) ≤ d * (b / d) := Int.mul_le_mul_of_nonneg_left h3 (by omega)
  omega
theorem beg_in {d t : Int} (hd : 1 ≤ d) : beg d t ≤ t ∧ t < beg d t + d := by
  unfold beg
  have h2 := Int.emod_nonneg t (show d ≠ 0 by omega)
  have h3 := Int.emod_lt_of_pos t (show 0 < d by omega)
  omega
theorem beg_mod {d t : Int} (hd : 1 ≤ d) : (beg d t).tmod d = 0 := by
  unfold beg
  have h1 := Int.emod_add_mul_ediv t d
  rw [show t - t % d = d * (t / d) by omega, Int.mul_tmod_right]
/-- The starts grow. -/
theorem bk_grows (d : Int) (hd : 1 ≤ d) (l : List (Int × Int)) : ckL st0 l = 0 → ∀ j p p', (bkP d l)[j]? = some p → (bkP d l)[j + 1]? = some p' → (fO d p).1 < (fO d p').1 := by
  refine snoc_ind (p := fun l => ckL st0 l = 0 → ∀ j p p', (bkP d l)[j]? = some p → (bkP d l)[j + 1]? = some p' → (fO d p).1 < (fO d p').1) ?_ ?_ l
  · intro _ j p p' h
    simp [bkP] at h
  · intro l x ih hc j a b ha hb
    have ih := ih (ckL_parts l hc).1
    have hlt := (ckL_lt l st0 x hc).2
    have hok := bk_ok d l
    rw [bkP_snoc] at ha hb
    generalize bkP d l = P at *
    by_cases hP : P = []
    · subst hP
      rw [bkp1_first] at hb
      simp at hb
    · obtain ⟨Q, p, rfl⟩ : ∃ Q p, P = Q ++ [p] := ⟨P.dropLast, P.getLast hP, (List.dropLast_concat_getLast hP).symm⟩
      have hp := hok.ne p (by simp)
      by_cases hbe : beg d (p.headD (0, 0)).1 = beg d x.1
      · rw [bkp1_same hbe] at ha hb
        have hj : j + 1 < Q.length + 1 := by
          have := (List.getElem?_eq_some_iff.1 hb).1
          simpa using this
        rw [List.getElem?_append_left (by omega)] at ha
        rcases Nat.lt_or_ge (j + 1) Q.length with hq | hq
        · rw [List.getElem?_append_left hq] at hb
          exact ih j a b (by rw [List.getElem?_append_left (by omega)]; exact ha) (by rw [List.getElem?_append_left hq]; exact hb)
        · have he : j + 1 = Q.length := by omega
          rw [List.getElem?_append_right (by omega), he, Nat.sub_self] at hb
          simp at hb
          subst hb
          rw [fO_snoc hp]
          exact ih j a p (by rw [List.getElem?_append_left (by omega)]; exact ha) (by rw [List.getElem?_append_right (by omega), he, Nat.sub_self]; rfl)
      · rw [bkp1_new hbe] at ha hb
        have hj : j + 1 < Q.length + 1 + 1 := by
          have := (List.getElem?_eq_some_iff.1 hb).1
          simpa using this
        rcases Nat.lt_or_ge (j + 1) (Q ++ [p]).length with hq | hq
        · rw [List.getElem?_append_left hq] at hb
          rw [List.getElem?_append_left (by omega)] at ha
          exact ih j a b ha hb
        · have he : j = Q.length := by simp at hq; omega
          subst he
          rw [List.getElem?_append_right hq] at hb
          simp at hb
          rw [List.getElem?_append_left (by simp), List.getElem?_append_right (by omega), Nat.sub_self] at ha
          simp at ha
          subst ha hb
          have hm : p.headD (0, 0) ∈ l := by
            refine (hok.sub (p := p) (by simp)).1 _ ?_
            cases p with
            | nil => exact absurd rfl hp
            | cons z p => simp
          have h1 := hlt _ hm
          have h2 := beg_mono hd (Int.le_of_lt h1)
          show beg d (p.headD (0, 0)).1 < beg d x.1
          omega
theorem flat_at {α : Type} : ∀ (P : List (List α)) (j : Nat) (p : List α), P[j]? = some p → ((P.take (j + 1)).flatten = (P.take j).flatten ++ p) ∧ (((P.take j).flatten).length + p.length ≤ P.flatten.length) ∧ ∀ i, i < p.length → P.flatten[((P.take j).flatten).length + i]? = p[i]?
  | [], j, p, h => by simp at h
  | q :: P, 0, p, h => by
    simp at h
    subst h
    refine ⟨by simp, by simp, fun i hi => ?_⟩
    simp only [List.take_zero, List.flatten_nil, List.length_nil, Nat.zero_add, List.flatten_cons]
    rw [List.getElem?_append_left hi]
  | q :: P, j + 1, p, h => by
    obtain ⟨h1, h2, h3⟩ := flat_at P j p (by simpa using h)
    refine ⟨?_, ?_, fun i hi => ?_⟩
    · rw [List.take_succ_cons, List.take_succ_cons, List.flatten_cons, List.flatten_cons, h1, List.append_assoc]
    · rw [List.take_succ_cons, List.flatten_cons, List.flatten_cons, List.length_append, List.length_append]; omega
    · rw [List.take_succ_cons, List.flatten_cons, List.flatten_cons, List.length_append, List.getElem?_append_right (by omega), show q.length + (P.take j).flatten.length + i - q.length = (P.take j).flatten.length + i by omega]
      exact h3 i hi
/-- The samples of the first j buckets. -/
def upTo (d : Int) (S : List (Int × Int)) (j : Nat) : List (Int × Int) := ((bkP d S).take j).flatten
theorem upTo_zero (d : Int) (S : List (Int × Int)) : upTo d S 0 = [] := rfl
theorem upTo_all {d : Int} {S : List (Int × Int)} {j : Nat} (h : (bkP d S).length ≤ j) : upTo d S j = S := by
  unfold upTo
  rw [List.take_of_length_le h, (bk_ok d S).all]
/-- What is asked of a bucket. -/
theorem bk_round {d : Int} {S : List (Int × Int)} (hd : 1 ≤ d) (hC : chC S = 0) (hV : VB S) {j : Nat} {p : List (Int × Int)} (hp : (bkP d S)[j]? = some p) :
    (upTo d S j).length + p.length ≤ S.length ∧ 0 < p.length ∧ (∀ i, i < p.length → S[(upTo d S j).length + i]? = p[i]?) ∧ (upTo d S (j + 1)).length = (upTo d S j).length + p.length ∧
      (∀ x ∈ p, (fO d p).1 ≤ x.1 ∧ x.1 < (fO d p).1 + d) ∧ (fO d p).1.tmod d = 0 ∧ (∀ x, p[0]? = some x → x.2 = (fO d p).2) ∧
      jnC (rollV (valS (upTo d S j))) (rO p) = 0 ∧ jnR (rollV (valS (upTo d S j))) (rO p) = rollV (valS (upTo d S (j + 1))) := by
  have hok := bk_ok d S
  obtain ⟨h1, h2, h3⟩ := flat_at (bkP d S) j p hp
  have hm : p ∈ bkP d S := List.mem_of_getElem? hp
  have hne := hok.ne p hm
  rw [hok.all] at h2 h3
  have hl := (chC_zero hC).1
  refine ⟨h2, List.length_pos_iff.2 hne, h3, by unfold upTo; rw [h1, List.length_append], ?_, beg_mod hd, ?_, ?_⟩
  · intro x hx
    have := hok.same p hm x hx
    have h4 := beg_in (t := x.1) hd
    rw [this] at h4
    exact h4
  · intro x hx
    cases p with
    | nil => exact absurd rfl hne
    | cons z p => simp at hx; subst hx; rfl
  · have hj := join_roll (a := valS (upTo d S j)) (b := valS p) (by rw [valS_len, valS_len]; unfold upTo; omega) (by
      intro v hv
      have hmm : v ∈ valS S := by
        rw [← hok.all]
        have hs : valS (upTo d S j) ++ valS p = valS (((bkP d S).take (j + 1)).flatten) := by rw [h1]; simp [valS, upTo]
        rw [hs] at hv
        obtain ⟨x, hx, rfl⟩ := List.mem_map.1 hv
        obtain ⟨q, hq, hxq⟩ := List.mem_flatten.1 hx
        exact List.mem_map.2 ⟨x, List.mem_flatten.2 ⟨q, List.mem_of_mem_take hq, hxq⟩, rfl⟩
      obtain ⟨x, hx, rfl⟩ := List.mem_map.1 hmm
      exact hV x hx)
    refine ⟨hj.1, ?_⟩
    rw [show jnR (rollV (valS (upTo d S j))) (rO p) = rollV (valS (upTo d S j) ++ valS p) from hj.2]
    unfold upTo
    rw [h1]
    simp [valS]
theorem bk_one : buC [(-1, 0)] 10 = 0 ∧ bkF 10 (buP [(-1, 0)] 10) = [(-10, 0)] ∧ (buP [(-1, 0)] 10).length = 1 := by decide
end Go.Baro
