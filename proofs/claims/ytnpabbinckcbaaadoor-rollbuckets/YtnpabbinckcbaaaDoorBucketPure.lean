/- Buckets of samples in plain numbers, and slices of rolls. No statement of the seat is proved here; no condition. -/
import Derived.Test.YtnpabbinckcbaaaDoorRollPure2
set_option linter.unusedSimpArgs false
set_option linter.unusedVariables false
namespace Go.Baro
open Go.RowKit

/-- The cells of rolls. -/
def cellsR (rs : List Rl) : List Value := rs.flatMap rlC
def RR (w : World) (B : Nat) (A : Option Addr) (n : Nat) (rs : List Rl) : Prop := Rd w B 4 A n (cellsR rs)
theorem cellsR_length (rs : List Rl) : (cellsR rs).length = rs.length * 4 := by
  induction rs with
  | nil => rfl
  | cons f rs ih => simp only [cellsR, rlC, List.flatMap_cons, List.length_append, List.length_cons, List.length_nil] at ih ⊢; omega
theorem cellsR_append (a b : List Rl) : cellsR (a ++ b) = cellsR a ++ cellsR b := by simp [cellsR]
theorem cellsR_at (rs : List Rl) : ∀ (i : Nat) (r : Rl), rs[i]? = some r → (cellsR rs)[i * 4]? = some (.int .i64 r.c) ∧ (cellsR rs)[i * 4 + 1]? = some (.int .i64 r.lo) ∧ (cellsR rs)[i * 4 + 2]? = some (.int .i64 r.hi) ∧ (cellsR rs)[i * 4 + 3]? = some (.int .i64 r.s) := by
  induction rs with
  | nil => intro i r h; simp at h
  | cons g rs ih =>
    intro i r h
    have hc : cellsR (g :: rs) = Value.int .i64 g.c :: Value.int .i64 g.lo :: Value.int .i64 g.hi :: Value.int .i64 g.s :: cellsR rs := rfl
    rw [hc]
    cases i with
    | zero => simp at h; subst h; simp
    | succ i =>
      have := ih i r (by simpa using h)
      rw [show (i + 1) * 4 = i * 4 + 1 + 1 + 1 + 1 by omega]
      simpa using this
theorem one_cellsR (rs : List Rl) : ∀ u ∈ cellsR rs, u.oneCell' = true := by
  intro u hu
  obtain ⟨f, _, hf⟩ := List.mem_flatMap.1 hu
  simp only [rlC, List.mem_cons, List.not_mem_nil, or_false] at hf
  rcases hf with rfl | rfl | rfl | rfl <;> rfl
theorem cellsR_set (R : List Rl) (a b : Rl) (m : Nat) (hm : R.length = m) :
    ((((cellsR (R ++ [a])).set (m * 4) (.int .i64 b.c)).set (m * 4 + 1) (.int .i64 b.lo)).set (m * 4 + 2) (.int .i64 b.hi)).set (m * 4 + 3) (.int .i64 b.s) = cellsR (R ++ [b]) := by
  subst hm
  have h2 := cellsR_length R
  rw [cellsR_append, cellsR_append]
  rw [List.set_append_right _ _ (by omega), List.set_append_right _ _ (by omega), List.set_append_right _ _ (by omega), List.set_append_right _ _ (by omega), h2]
  rw [Nat.sub_self, show R.length * 4 + 1 - R.length * 4 = 1 by omega, show R.length * 4 + 2 - R.length * 4 = 2 by omega, show R.length * 4 + 3 - R.length * 4 = 3 by omega]
  rfl
section
variable {w w' : World} {B B' n : Nat} {A : Option Addr} {rs : List Rl}
theorem RR.len (h : RR w B A n rs) : rs.length = n := by have := Rd.len h; rw [cellsR_length] at this; omega
theorem RR.val (h : RR w B A n rs) {i : Nat} (hi : i < n) : ∃ b o c lo hi s, A = some ⟨b, o, none⟩ ∧ b < B ∧ w.cell? ⟨b, o + i * 4, none⟩ = some (.int .i64 c) ∧ w.cell? ⟨b, o + i * 4 + 1, none⟩ = some (.int .i64 lo) ∧ w.cell? ⟨b, o + i * 4 + 2, none⟩ = some (.int .i64 hi) ∧
    w.cell? ⟨b, o + i * 4 + 3, none⟩ = some (.int .i64 s) ∧ Hid (rs[i]? = some ⟨c, lo, hi, s⟩) := by
  obtain ⟨b, o, hA, hb, hc⟩ := Rd.at_ h (by omega)
  have hl : i < rs.length := by rw [h.len]; exact hi
  have hf : rs[i]? = some rs[i] := List.getElem?_eq_getElem hl
  obtain ⟨h1, h2, h3, h4⟩ := cellsR_at rs i _ hf
  refine ⟨b, o, rs[i].c, rs[i].lo, rs[i].hi, rs[i].s, hA, hb, ?_, ?_, ?_, ?_, hf⟩
  · rw [hc (i * 4) (by omega)]; exact h1
  · rw [Nat.add_assoc, hc (i * 4 + 1) (by omega)]; exact h2
  · rw [Nat.add_assoc, hc (i * 4 + 2) (by omega)]; exact h3
  · rw [Nat.add_assoc, hc (i * 4 + 3) (by omega)]; exact h4
theorem RR.below (h : RR w B A n rs) (hb : Below B w w') : RR w' B A n rs := Rd.below h hb
theorem RR.more (h : RR w B A n rs) (hB : B ≤ B') : RR w B' A n rs := Rd.more h hB
end

/-- The start of a bucket. -/
def beg (d t : Int) : Int := t - t % d
/-- The samples, bucket by bucket. -/
def bkp1 (d : Int) (P : List (List (Int × Int))) (x : Int × Int) : List (List (Int × Int)) :=
  match P.getLast? with
  | none => [[x]]
  | some p => if beg d (p.headD (0, 0)).1 = beg d x.1 then P.dropLast ++ [p ++ [x]] else P ++ [[x]]
def bkP (d : Int) (l : List (Int × Int)) : List (List (Int × Int)) := l.foldl (bkp1 d) []
theorem bkP_nil (d : Int) : bkP d [] = [] := rfl
theorem bkP_snoc (d : Int) (l : List (Int × Int)) (x : Int × Int) : bkP d (l ++ [x]) = bkp1 d (bkP d l) x := by simp [bkP]
theorem bkp1_first (d : Int) (x : Int × Int) : bkp1 d [] x = [[x]] := rfl
theorem bkp1_same {d : Int} {Q : List (List (Int × Int))} {p : List (Int × Int)} {x : Int × Int} (h : beg d (p.headD (0, 0)).1 = beg d x.1) : bkp1 d (Q ++ [p]) x = Q ++ [p ++ [x]] := by
  unfold bkp1
  rw [List.getLast?_concat]
  dsimp only
  rw [if_pos h, List.dropLast_concat]
theorem bkp1_new {d : Int} {Q : List (List (Int × Int))} {p : List (Int × Int)} {x : Int × Int} (h : beg d (p.headD (0, 0)).1 ≠ beg d x.1) : bkp1 d (Q ++ [p]) x = (Q ++ [p]) ++ [[x]] := by
  unfold bkp1
  rw [List.getLast?_concat]
  dsimp only
  rw [if_neg h]
/-- What is told of a bucket. -/
def fO (d : Int) (p : List (Int × Int)) : Int × Int := (beg d (p.headD (0, 0)).1, (p.headD (0, 0)).2)
def rO (p : List (Int × Int)) : Rl := rollV (valS p)
def bkF (d : Int) (P : List (List (Int × Int))) : List (Int × Int) := P.map (fO d)
def bkR (P : List (List (Int × Int))) : List Rl := P.map rO
theorem bkF_len (d : Int) (P : List (List (Int × Int))) : (bkF d P).length = P.length := by simp [bkF]
theorem bkR_len (P : List (List (Int × Int))) : (bkR P).length = P.length := by simp [bkR]
theorem bkF_snoc (d : Int) (Q : List (List (Int × Int))) (p : List (Int × Int)) : bkF d (Q ++ [p]) = bkF d Q ++ [fO d p] := by simp [bkF]
theorem bkR_snoc (Q : List (List (Int × Int))) (p : List (Int × Int)) : bkR (Q ++ [p]) = bkR Q ++ [rO p] := by simp [bkR]
theorem rO_snoc (p : List (Int × Int)) (x : Int × Int) : rO (p ++ [x]) = mg (rO p) (rl1 x.2) := by
  unfold rO valS
  rw [List.map_append, List.map_cons, List.map_nil, rollV_snoc]
theorem rO_one (x : Int × Int) : rO [x] = rl1 x.2 := rfl
theorem fO_one (d : Int) (x : Int × Int) : fO d [x] = (beg d x.1, x.2) := rfl
theorem fO_snoc {d : Int} {p : List (Int × Int)} {x : Int × Int} (h : p ≠ []) : fO d (p ++ [x]) = fO d p := by
  cases p with
  | nil => exact absurd rfl h
  | cons a p => rfl
theorem head_snoc {p : List (Int × Int)} {x : Int × Int} (h : p ≠ []) : (p ++ [x]).headD (0, 0) = p.headD (0, 0) := by
  cases p with
  | nil => exact absurd rfl h
  | cons a p => rfl
/-- What stands of buckets: together they are all; none is empty; in each all begin alike; neighbours don't. -/
structure BkOk (d : Int) (l : List (Int × Int)) (P : List (List (Int × Int))) : Prop where
  all : P.flatten = l
  ne : ∀ p ∈ P, p ≠ []
  same : ∀ p ∈ P, ∀ x ∈ p, beg d x.1 = beg d (p.headD (0, 0)).1
theorem bk_ok (d : Int) (l : List (Int × Int)) : BkOk d l (bkP d l) := by
  refine snoc_ind (p := fun l => BkOk d l (bkP d l)) ⟨rfl, by simp [bkP], by simp [bkP]⟩ ?_ l
  intro l x ih
  rw [bkP_snoc]
  generalize bkP d l = P at ih
  by_cases hP : P = []
  · subst hP
    have h1 := ih.all
    simp at h1
    subst h1
    refine ⟨rfl, ?_, ?_⟩
    · simp [bkp1_first]
    · intro p hp y hy
      simp [bkp1_first] at hp
      subst hp
      simp at hy
      subst hy
      rfl
  · obtain ⟨Q, p, rfl⟩ : ∃ Q p, P = Q ++ [p] := ⟨P.dropLast, P.getLast hP, (List.dropLast_concat_getLast hP).symm⟩
    have hp := ih.ne p (by simp)
    have hall := ih.all
    by_cases hb : beg d (p.headD (0, 0)).1 = beg d x.1
    · rw [bkp1_same hb]
      refine ⟨?_, ?_, ?_⟩
      · rw [← hall]; simp
      · intro q hq
        rcases List.mem_append.1 hq with hq | hq
        · exact ih.ne q (by simp [hq])
        · simp at hq; subst hq; simp
      · intro q hq y hy
        rcases List.mem_append.1 hq with hq | hq
        · exact ih.same q (by simp [hq]) y hy
        · simp at hq
          subst hq
          rw [head_snoc hp]
          rcases List.mem_append.1 hy with hy | hy
          · exact ih.same p (by simp) y hy
          · simp at hy; subst hy; exact hb.symm
    · rw [bkp1_new hb]
      refine ⟨?_, ?_, ?_⟩
      · rw [← hall]; simp
      · intro q hq
        rcases List.mem_append.1 hq with hq | hq
        · exact ih.ne q hq
        · simp at hq; subst hq; simp
      · intro q hq y hy
        rcases List.mem_append.1 hq with hq | hq
        · exact ih.same q hq y hy
        · simp at hq
          subst hq
          simp at hy
          subst hy
          rfl
theorem BkOk.sub {d : Int} {l : List (Int × Int)} {P : List (List (Int × Int))} (h : BkOk d l P) {p : List (Int × Int)} (hp : p ∈ P) : (∀ x ∈ p, x ∈ l) ∧ p.length ≤ l.length := by
  have h1 := h.all
  constructor
  · intro x hx
    rw [← h1]
    exact List.mem_flatten.2 ⟨p, hp, hx⟩
  · rw [← h1]
    exact (List.sublist_flatten_of_mem hp).length_le
theorem BkOk.len {d : Int} {l : List (Int × Int)} {P : List (List (Int × Int))} (h : BkOk d l P) : P.length ≤ l.length := by
  have h1 := h.all
  have h2 := h.ne
  clear h
  induction P generalizing l with
  | nil => simp
  | cons p P ih =>
    rw [List.flatten_cons] at h1
    subst h1
    have := ih rfl (fun q hq => h2 q (by simp [hq]))
    have hp := List.length_pos_iff.2 (h2 p (by simp))
    simp only [List.length_cons, List.length_append]
    omega
/-- One more sample. -/
theorem bk_next {d : Int} {l : List (Int × Int)} {j : Nat} {x : Int × Int} (h : l[j]? = some x) : bkP d (l.take (j + 1)) = bkp1 d (bkP d (l.take j)) x := by
  rw [at_take h, bkP_snoc]
/-- The roll of a bucket is within, also with one sample more. -/
theorem bk_roll {d : Int} {l : List (Int × Int)} (hz : chC l = 0) (j : Nat) {p : List (Int × Int)} (hp : p ∈ bkP d (l.take j)) {y : Int} (hy : InR y) : I64 ((rO p).c + 1) ∧ I64 ((rO p).s + y) ∧ 1 ≤ (rO p).c := by
  have hb := bk_ok d (l.take j)
  obtain ⟨h1, h2⟩ := hb.sub hp
  have hl := (chC_zero hz).1
  have hlen : p.length ≤ 120 := by rw [List.length_take] at h2; omega
  have hv : ∀ v ∈ valS p, -36028797018963968 ≤ v ∧ v < 36028797018963968 := by
    intro v hv
    obtain ⟨x, hx, rfl⟩ := List.mem_map.1 hv
    exact (ckL_range (chC_zero hz).2 x (List.mem_of_mem_take (h1 x hx))).2
  have hs := sum_bd 36028797018963968 (valS p) (fun v hv' => by have := hv v hv'; omega)
  have hc : (rO p).c = p.length := by unfold rO; rw [rollV_c, valS_len]
  have hss : (rO p).s = (valS p).sum := rollV_s _
  have hne := List.length_pos_iff.2 (hb.ne p hp)
  rw [valS_len] at hs
  unfold InR at hy
  rw [hc, hss]
  refine ⟨?_, ?_, by omega⟩ <;> unfold I64 <;> omega
/-- What Buckets answers. -/
def buC (l : List (Int × Int)) (d : Int) : Int := if 1 ≤ d ∧ d ≤ 1048576 then (if chC l = 0 then (if 100 < (bkP d l).length then 8 else 0) else chC l) else 2
def buP (l : List (Int × Int)) (d : Int) : List (List (Int × Int)) := if buC l d = 0 then bkP d l else []
theorem bu_range {l : List (Int × Int)} {d : Int} (h : ¬ (1 ≤ d ∧ d ≤ 1048576)) : buC l d = 2 ∧ buP l d = [] := by
  have : buC l d = 2 := if_neg h
  exact ⟨this, by unfold buP; rw [if_neg (by omega)]⟩
theorem bu_fault {l : List (Int × Int)} {d : Int} (h : 1 ≤ d ∧ d ≤ 1048576) (h' : chC l ≠ 0) : buC l d = chC l ∧ buP l d = [] := by
  have : buC l d = chC l := by unfold buC; rw [if_pos h, if_neg h']
  exact ⟨this, by unfold buP; rw [if_neg (by omega)]⟩
theorem bu_full {l : List (Int × Int)} {d : Int} (h : 1 ≤ d ∧ d ≤ 1048576) (h' : chC l = 0) (h2 : 100 < (bkP d l).length) : buC l d = 8 ∧ buP l d = [] := by
  have : buC l d = 8 := by unfold buC; rw [if_pos h, if_pos h', if_pos h2]
  exact ⟨this, by unfold buP; rw [if_neg (by omega)]⟩
theorem bu_ok {l : List (Int × Int)} {d : Int} (h : 1 ≤ d ∧ d ≤ 1048576) (h' : chC l = 0) (h2 : ¬ 100 < (bkP d l).length) : buC l d = 0 ∧ buP l d = bkP d l := by
  have : buC l d = 0 := by unfold buC; rw [if_pos h, if_pos h', if_neg h2]
  exact ⟨this, by unfold buP; rw [if_pos this]⟩
end Go.Baro
