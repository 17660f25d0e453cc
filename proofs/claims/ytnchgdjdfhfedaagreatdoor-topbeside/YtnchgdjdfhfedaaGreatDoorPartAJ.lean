/- Of this claim's own texts these, one behind the other: LinPure2, LibA, LibD, HistPure, HistPure2. No statement of the seat is proved here; no condition but those that stand at the theorems. -/
import Derived.Test.YtnchgdjdfhfedaaGreatDoorPartAI
import Derived.Test.YtnchgdjdfhfedaaGreatDoorPartAD
import Derived.Test.YtnchgdjdfhfedaaGreatDoorPartAG
import Derived.Test.YtnchgdjdfhfedaaGreatDoorPartAE
import Derived.Test.YtnchgdjdfhfedaaGreatDoorPartAH
set_option linter.unusedSimpArgs false
set_option linter.unusedVariables false
namespace Go.Baro
open Go.RowKit (wrap64)

theorem perm_erase {α : Type} {l : List α} {i : Nat} {a : α} (h : l[i]? = some a) : l.Perm (a :: l.eraseIdx i) := by
  obtain ⟨hi, rfl⟩ := List.getElem?_eq_some_iff.1 h
  rw [List.eraseIdx_eq_take_drop_succ]
  conv => lhs; rw [← List.take_append_drop i l, List.drop_eq_getElem_cons hi]
  exact List.perm_middle
/-- Who comes first. -/
theorem lin_iff {k : Int} {has : List Int} {left : List Ac} : Lin k has left ↔ (∀ a ∈ left, a.e = -1) ∨ ∃ i a, left[i]? = some a ∧ (∀ b ∈ left, b.e ≠ -1 → a.b ≤ b.e) ∧ (a.e ≠ -1 → (tel k has a).1 = a.v) ∧ Lin k (tel k has a).2 (left.eraseIdx i) := by
  refine ⟨fun h => ?_, fun h => ?_⟩
  · cases h with
    | done h => exact .inl h
    | step a rest hp hf ht h =>
      obtain ⟨i, hi, he⟩ := List.getElem_of_mem (hp.mem_iff.2 (List.mem_cons_self (a := a) (l := rest)))
      have hi2 : left[i]? = some a := by rw [List.getElem?_eq_getElem hi, he]
      exact .inr ⟨i, a, hi2, hf, ht, h.perm (List.Perm.cons_inv (hp.symm.trans (perm_erase hi2)))⟩
  · rcases h with h | ⟨i, a, hi, hf, ht, h⟩
    · exact .done h
    · exact .step a _ (perm_erase hi) hf ht h
/-- Of another value that is read, taken or was there the run does not tell. -/
theorem tel_v {k : Int} {has : List Int} {a : Ac} (h : k = 2 ∨ a.put = false) (v : Int) : tel k has { a with v := v } = tel k has a := by
  unfold tel
  rcases h with h | h
  · subst h; simp
  · simp [h]
theorem runs_not {k : Int} {v : Int} : ∀ (l : List Ac) (has : List Int) (i : Nat) (a : Ac), runs k has l → l[i]? = some a → (k = 2 ∨ a.put = false) → v ≠ a.v → ¬ runs k has (l.set i { a with v := v })
  | [], has, i, a, _, h, _, _ => by simp at h
  | c :: l, has, 0, a, hr, h, hk, hv => by
    simp only [List.getElem?_cons_zero, Option.some.injEq] at h
    subst h
    intro hn
    have h1 := hn.1
    rw [tel_v hk] at h1
    exact hv (h1.symm.trans hr.1)
  | c :: l, has, i + 1, a, hr, h, hk, hv => fun hn => runs_not l _ i a hr.2 (by simpa using h) hk hv hn.2
theorem runs_map {k : Int} {f : Ac → Ac} (hf : ∀ a, (f a).put = a.put ∧ (f a).v = a.v ∧ (f a).add = a.add) : ∀ (l : List Ac) (has : List Int), runs k has l → runs k has (l.map f)
  | [], _, _ => trivial
  | a :: l, has, h => by
    have e : tel k has (f a) = tel k has a := by unfold tel; rw [(hf a).1, (hf a).2.1, (hf a).2.2]
    exact ⟨by rw [e, (hf a).2.1]; exact h.1, by rw [e]; exact runs_map hf l _ h.2⟩
/-- A deal: put, a value, how much earlier, how much later, not ended. -/
structure Dl where
  put : Bool
  v : Int
  early : Int
  late : Int
  opn : Bool
/-- What the object tells, what is added, what it has then. -/
def tl (k : Int) (has : List Int) (put : Bool) (v : Int) : Int × Int × List Int :=
  if k = 1 then (if put = true then (v, 0, [v]) else (has.headD 0, 0, has))
  else if k = 2 then (if put = true then (has.headD 0, v, [wrap64 (has.headD 0 + v)]) else (has.headD 0, 0, has))
  else if put = true then (v, 0, has ++ [v])
  else if has = [] then (-1, 0, has)
  else if k = 3 then (has.headD 0, 0, has.tail)
  else (has.getLastD 0, 0, has.dropLast)
def acT (i : Nat) (d : Dl) (wide : Bool) (v add : Int) : Ac :=
  ⟨100 + 10 * i - (if wide = true then d.early % 40 else 0), if wide = true then (if d.opn = true then -1 else 105 + 10 * i + d.late % 40) else 105 + 10 * i, d.put, v, add⟩
def sqA (k : Int) (wide : Bool) : Nat → List Int → List Dl → List Ac
  | _, _, [] => []
  | i, has, d :: l => acT i d wide (tl k has d.put (d.v % 4)).1 (tl k has d.put (d.v % 4)).2.1 :: sqA k wide (i + 1) (tl k has d.put (d.v % 4)).2.2 l
/-- Of a register and a counter one number is there. -/
def okH (k : Int) (has : List Int) : Prop := k = 2 → ∃ x, has = [x] ∧ wrap64 x = x
theorem wrap_twice (x : Int) : wrap64 (wrap64 x) = wrap64 x := by unfold wrap64; omega
theorem tl_ok {k : Int} {has : List Int} (h : okH k has) (put : Bool) (v : Int) : okH k (tl k has put v).2.2 := by
  intro hk
  obtain ⟨x, rfl, hx⟩ := h hk
  subst hk
  unfold tl
  rw [if_neg (by decide), if_pos rfl]
  cases put with
  | true => exact ⟨_, rfl, wrap_twice _⟩
  | false => exact ⟨x, rfl, hx⟩
theorem tel_tl {k : Int} {has : List Int} (h : okH k has) (i : Nat) (d : Dl) (wide : Bool) : tel k has (acT i d wide (tl k has d.put (d.v % 4)).1 (tl k has d.put (d.v % 4)).2.1) = ((tl k has d.put (d.v % 4)).1, (tl k has d.put (d.v % 4)).2.2) := by
  unfold tel tl acT
  dsimp only
  by_cases h1 : k = 1
  · rw [if_pos h1, if_pos h1]; cases d.put <;> rfl
  · rw [if_neg h1, if_neg h1]
    by_cases h2 : k = 2
    · rw [if_pos h2, if_pos h2]
      obtain ⟨x, rfl, hx⟩ := h h2
      cases d.put with
      | true => rfl
      | false => simp [hx]
    · rw [if_neg h2, if_neg h2]
      cases d.put with
      | true => rfl
      | false =>
        simp only [Bool.false_eq_true, if_false]
        split
        · rfl
        · split <;> rfl
theorem sq_runs (k : Int) (wide : Bool) : ∀ (l : List Dl) (i : Nat) (has : List Int), okH k has → runs k has (sqA k wide i has l)
  | [], _, _, _ => trivial
  | d :: l, i, has, h => by
    have e := tel_tl h i d wide
    refine ⟨by rw [e]; rfl, ?_⟩
    rw [e]
    exact sq_runs k wide l (i + 1) _ (tl_ok h _ _)
/-- When they begin and end. -/
theorem sq_at (k : Int) (wide : Bool) : ∀ (l : List Dl) (i : Nat) (has : List Int) (a : Ac), a ∈ sqA k wide i has l → ∃ j : Nat, i ≤ j ∧ 100 + 10 * (j : Int) - 40 < a.b ∧ a.b ≤ 100 + 10 * (j : Int) ∧ (a.e = -1 ∨ 105 + 10 * (j : Int) ≤ a.e)
  | [], _, _, a, h => by simp [sqA] at h
  | d :: l, i, has, a, h => by
    rcases List.mem_cons.1 h with h | h
    · refine ⟨i, Nat.le_refl _, ?_⟩
      subst h
      unfold acT
      dsimp only
      cases wide with
      | false => simp; omega
      | true =>
        simp only [if_true]
        cases d.opn with
        | true => simp; omega
        | false => simp; omega
    · obtain ⟨j, h1, h2⟩ := sq_at k wide l (i + 1) _ a h
      exact ⟨j, by omega, h2⟩
theorem sq_self (k : Int) (wide : Bool) (l : List Dl) (i : Nat) (has : List Int) : ∀ a ∈ sqA k wide i has l, a.e ≠ -1 → a.b ≤ a.e := by
  intro a ha he
  obtain ⟨j, _, _, h1, h2⟩ := sq_at k wide l i has a ha
  omega
theorem sq_pair (k : Int) (wide : Bool) : ∀ (l : List Dl) (i : Nat) (has : List Int), (sqA k wide i has l).Pairwise (fun a b => b.e ≠ -1 → a.b ≤ b.e)
  | [], _, _ => List.Pairwise.nil
  | d :: l, i, has => by
    unfold sqA
    rw [List.pairwise_cons]
    refine ⟨fun b hb he => ?_, sq_pair k wide l (i + 1) _⟩
    obtain ⟨j, h0, _, _, h2⟩ := sq_at k wide l (i + 1) _ b hb
    have : (acT i d wide (tl k has d.put (d.v % 4)).1 (tl k has d.put (d.v % 4)).2.1).b ≤ 100 + 10 * (i : Int) := by
      unfold acT
      dsimp only
      cases wide <;> simp <;> omega
    omega
/-- A history that went one behind the other, also with other times, can be put in order. -/
theorem sq_lin {k : Int} {has : List Int} (h : okH k has) (wide : Bool) (l : List Dl) (i : Nat) : Lin k has (sqA k wide i has l) := lin_seq (sq_runs k wide l i has h) (sq_pair k wide l i has) (sq_self k wide l i has)
theorem sq_strict (k : Int) : ∀ (l : List Dl) (i : Nat) (has : List Int), (sqA k false i has l).Pairwise (fun a b => a.e < b.b) ∧ ∀ a ∈ sqA k false i has l, a.e ≠ -1 ∧ 100 + 10 * (i : Int) ≤ a.b
  | [], _, _ => ⟨List.Pairwise.nil, by simp [sqA]⟩
  | d :: l, i, has => by
    obtain ⟨h1, h2⟩ := sq_strict k l (i + 1) (tl k has d.put (d.v % 4)).2.2
    unfold sqA
    refine ⟨List.pairwise_cons.2 ⟨fun b hb => ?_, h1⟩, fun a ha => ?_⟩
    · have := (h2 b hb).2
      unfold acT
      simp
      omega
    · rcases List.mem_cons.1 ha with rfl | ha
      · unfold acT; simp; omega
      · have := h2 a ha; omega
/-- With another value it cannot. -/
theorem sq_tells {k : Int} {has : List Int} (h : okH k has) (l : List Dl) (i j : Nat) {a : Ac} {v : Int} (ha : (sqA k false i has l)[j]? = some a) (hk : k = 2 ∨ a.put = false) (hv : v ≠ a.v) : ¬ Lin k has ((sqA k false i has l).set j { a with v := v }) := by
  intro hl
  obtain ⟨h1, h2⟩ := sq_strict k l i has
  refine runs_not _ has j a (sq_runs k false l i has h) ha hk hv (lin_only _ has hl ?_ ?_)
  · rw [List.pairwise_iff_getElem] at h1 ⊢
    intro p q hp hq hpq
    simp only [List.length_set] at hp hq
    have hh := h1 p q hp hq hpq
    have hx : ∀ (p : Nat) (hp : p < (sqA k false i has l).length), ((sqA k false i has l).set j { a with v := v })[p]'(by simpa using hp) = (sqA k false i has l)[p] ∨ (((sqA k false i has l).set j { a with v := v })[p]'(by simpa using hp) = { a with v := v } ∧ (sqA k false i has l)[p] = a) := by
      intro p hp
      rw [List.getElem_set]
      by_cases hjp : j = p
      · subst hjp
        rw [if_pos rfl]
        rw [List.getElem?_eq_getElem hp] at ha
        exact .inr ⟨rfl, Option.some.inj ha⟩
      · rw [if_neg hjp]; exact .inl rfl
    rcases hx p hp with e1 | ⟨e1, e1'⟩ <;> rcases hx q hq with e2 | ⟨e2, e2'⟩
    · rw [e1, e2]; exact hh
    · rw [e1, e2]; rw [e2'] at hh; exact hh
    · rw [e1, e2]; rw [e1'] at hh; exact hh
    · rw [e1, e2]; rw [e1', e2'] at hh; exact hh
  · intro c hc
    rcases List.mem_or_eq_of_mem_set hc with hc | rfl
    · exact (h2 c hc).1
    · exact (h2 a (List.mem_of_getElem? ha)).1
/-- The beginning of a history, up to time t. -/
def cutA (t : Int) (a : Ac) : Ac := { a with e := if t < a.e then -1 else a.e }
def partA (t : Int) (l : List Ac) : List Ac := (l.filter fun a => decide (a.b ≤ t)).map (cutA t)
theorem sq_part {k : Int} {wide : Bool} {t : Int} : ∀ (l : List Dl) (i : Nat) (has : List Int), okH k has → Lin k has (partA t (sqA k wide i has l)) := by
  have key : ∀ (l : List Dl) (i : Nat) (has : List Int), okH k has → ∃ l1 l2, partA t (sqA k wide i has l) = l1 ++ l2 ∧ runs k has l1 ∧ l1.Pairwise (fun a b => b.e ≠ -1 → a.b ≤ b.e) ∧ (∀ a ∈ l1, a.e ≠ -1 → a.b ≤ a.e) ∧ (∀ a ∈ l2, a.e = -1) ∧ ∀ a ∈ l1, a.e = -1 ∨ 105 + 10 * (i : Int) ≤ a.e := by
    intro l
    induction l with
    | nil => intro i has h; exact ⟨[], [], rfl, trivial, List.Pairwise.nil, by simp, by simp, by simp⟩
    | cons d l ih =>
      intro i has h
      have hb : (acT i d wide (tl k has d.put (d.v % 4)).1 (tl k has d.put (d.v % 4)).2.1).b ≤ 100 + 10 * (i : Int) := by
        unfold acT
        dsimp only
        cases wide <;> simp <;> omega
      have hself := sq_self k wide (d :: l) i has _ (List.mem_cons_self)
      have hself2 := sq_at k wide (d :: l) i has _ (List.mem_cons_self)
      obtain ⟨l1, l2, e1, e2, e3, e4, e5, e6⟩ := ih (i + 1) _ (tl_ok h d.put (d.v % 4))
      have htel := tel_tl h i d wide
      unfold sqA
      generalize hA : acT i d wide (tl k has d.put (d.v % 4)).1 (tl k has d.put (d.v % 4)).2.1 = A at hb hself hself2 htel ⊢
      by_cases hAt : A.b ≤ t
      · refine ⟨cutA t A :: l1, l2, ?_, ?_, ?_, ?_, e5, ?_⟩
        · unfold partA at e1 ⊢
          rw [List.filter_cons_of_pos (by simpa using hAt), List.map_cons, e1, List.cons_append]
        · have e : tel k has (cutA t A) = tel k has A := rfl
          refine ⟨by rw [e, htel, ← hA]; rfl, by rw [e, htel]; exact e2⟩
        · rw [List.pairwise_cons]
          refine ⟨fun b hb2 hb3 => ?_, e3⟩
          rcases e6 b hb2 with h1 | h1
          · exact absurd h1 hb3
          · show A.b ≤ b.e
            omega
        · intro a ha ha2
          rcases List.mem_cons.1 ha with rfl | ha
          · unfold cutA at ha2 ⊢
            dsimp only at ha2 ⊢
            split at ha2
            · exact absurd rfl ha2
            · rename_i hh
              rw [if_neg hh]
              exact hself ha2
          · exact e4 a ha ha2
        · intro a ha
          rcases List.mem_cons.1 ha with rfl | ha
          · unfold cutA
            dsimp only
            split
            · exact .inl rfl
            · rw [← hA]
              unfold acT
              dsimp only
              cases wide with
              | false => simp
              | true => cases d.opn <;> simp <;> omega
          · rcases e6 a ha with h1 | h1
            · exact .inl h1
            · right; omega
      · refine ⟨[], l1 ++ l2, ?_, trivial, List.Pairwise.nil, by simp, ?_, by simp⟩
        · unfold partA at e1 ⊢
          rw [List.filter_cons_of_neg (by simpa using hAt), e1, List.nil_append]
        · intro a ha
          rcases List.mem_append.1 ha with ha1 | ha
          · rcases e6 a ha1 with h1 | h1
            · exact h1
            · have hm : a ∈ partA t (sqA k wide (i + 1) (tl k has d.put (d.v % 4)).2.2 l) := by rw [e1]; exact ha
              unfold partA at hm
              obtain ⟨c, hc, rfl⟩ := List.mem_map.1 hm
              unfold cutA at h1 ⊢
              dsimp only at h1 ⊢
              split at h1
              · rename_i hh; rw [if_pos hh]
              · rename_i hh; omega
          · exact e5 a ha
  intro l i has h
  obtain ⟨l1, l2, e1, e2, e3, e4, e5, _⟩ := key l i has h
  rw [e1]
  exact lin_part e5 l1 has e2 e3 e4
end Go.Baro

set_option linter.unusedSimpArgs false
set_option linter.unusedVariables false
namespace Go.Baro
open Go.ChangeShapes Go.WideShapes Go.ChangeAt Go.RowKit

theorem flatMap_at {α : Type} {s : Nat} {f : α → List Value} (hf : ∀ x, (f x).length = s) : ∀ (ls : List α) (i j : Nat) (x : α), ls[i]? = some x → j < s → (ls.flatMap f)[i * s + j]? = (f x)[j]?
  | [], i, j, x, h, _ => by simp at h
  | y :: ls, 0, j, x, h, hj => by
    simp only [List.getElem?_cons_zero, Option.some.injEq] at h
    subst h
    rw [List.flatMap_cons, Nat.zero_mul, Nat.zero_add, List.getElem?_append_left (by rw [hf]; exact hj)]
  | y :: ls, i + 1, j, x, h, hj => by
    rw [List.flatMap_cons, List.getElem?_append_right (by rw [hf, Nat.succ_mul]; omega), hf, show (i + 1) * s + j - s = i * s + j by rw [Nat.succ_mul]; omega]
    exact flatMap_at hf ls i j x (by simpa using h) hj
theorem flatMap_len {α : Type} {s : Nat} {f : α → List Value} (hf : ∀ x, (f x).length = s) : ∀ (ls : List α), (ls.flatMap f).length = ls.length * s
  | [] => by simp
  | y :: ls => by rw [List.flatMap_cons, List.length_append, hf, flatMap_len hf ls, List.length_cons, Nat.succ_mul]; omega
/-- The cells of an operation, of a deal. -/
def acV (a : Ac) : List Value := [.int .i64 a.b, .int .i64 a.e, .bool a.put, .int .i64 a.v, .int .i64 a.add]
def dlV (a : Dl) : List Value := [.bool a.put, .int .i64 a.v, .int .i64 a.early, .int .i64 a.late, .bool a.opn]
theorem acV_len (a : Ac) : (acV a).length = 5 := rfl
theorem dlV_len (a : Dl) : (dlV a).length = 5 := rfl
def RA (w : World) (B : Nat) (A : Option Addr) (n : Nat) (ls : List Ac) : Prop := Rd w B 5 A n (ls.flatMap acV)
def RD (w : World) (B : Nat) (A : Option Addr) (n : Nat) (ls : List Dl) : Prop := Rd w B 5 A n (ls.flatMap dlV)
section
variable {w w' : World} {B B' n : Nat} {A : Option Addr}
theorem RA.below {ls : List Ac} (h : RA w B A n ls) (hb : Below B w w') : RA w' B A n ls := Rd.below h hb
theorem RA.more {ls : List Ac} (h : RA w B A n ls) (hB : B ≤ B') : RA w B' A n ls := Rd.more h hB
theorem RD.below {ls : List Dl} (h : RD w B A n ls) (hb : Below B w w') : RD w' B A n ls := Rd.below h hb
theorem RD.more {ls : List Dl} (h : RD w B A n ls) (hB : B ≤ B') : RD w B' A n ls := Rd.more h hB
theorem RA.len {ls : List Ac} (h : RA w B A n ls) : ls.length = n := by have := Rd.len h; rw [flatMap_len acV_len] at this; omega
theorem RD.len {ls : List Dl} (h : RD w B A n ls) : ls.length = n := by have := Rd.len h; rw [flatMap_len dlV_len] at this; omega
theorem RA.val {ls : List Ac} (h : RA w B A n ls) {i : Nat} (hi : i < n) : ∃ b o x, A = some ⟨b, o, none⟩ ∧ b < B ∧ w.cell? ⟨b, o + i * 5, none⟩ = some (.int .i64 x.b) ∧ w.cell? ⟨b, o + i * 5 + 1, none⟩ = some (.int .i64 x.e) ∧ w.cell? ⟨b, o + i * 5 + 2, none⟩ = some (.bool x.put) ∧ w.cell? ⟨b, o + i * 5 + 3, none⟩ = some (.int .i64 x.v) ∧
    w.cell? ⟨b, o + i * 5 + 4, none⟩ = some (.int .i64 x.add) ∧ Hid (ls[i]? = some x) ∧ x ∈ ls := by
  have hl := h.len
  have hi2 : i < ls.length := by omega
  obtain ⟨b, o, hA, hb, hc⟩ := Rd.at_ h (by omega)
  have key : ∀ j, j < 5 → w.cell? ⟨b, o + i * 5 + j, none⟩ = (acV ls[i])[j]? := fun j hj => by
    rw [Nat.add_assoc, hc _ (by omega), flatMap_at acV_len ls i j _ (List.getElem?_eq_getElem hi2) hj]
  exact ⟨b, o, ls[i], hA, hb, key 0 (by omega), key 1 (by omega), key 2 (by omega), key 3 (by omega), key 4 (by omega), List.getElem?_eq_getElem hi2, List.getElem_mem hi2⟩
theorem RD.val {ls : List Dl} (h : RD w B A n ls) {i : Nat} (hi : i < n) : ∃ b o x, A = some ⟨b, o, none⟩ ∧ b < B ∧ w.cell? ⟨b, o + i * 5, none⟩ = some (.bool x.put) ∧ w.cell? ⟨b, o + i * 5 + 1, none⟩ = some (.int .i64 x.v) ∧ w.cell? ⟨b, o + i * 5 + 2, none⟩ = some (.int .i64 x.early) ∧ w.cell? ⟨b, o + i * 5 + 3, none⟩ = some (.int .i64 x.late) ∧
    w.cell? ⟨b, o + i * 5 + 4, none⟩ = some (.bool x.opn) ∧ Hid (ls[i]? = some x) ∧ x ∈ ls := by
  have hl := h.len
  have hi2 : i < ls.length := by omega
  obtain ⟨b, o, hA, hb, hc⟩ := Rd.at_ h (by omega)
  have key : ∀ j, j < 5 → w.cell? ⟨b, o + i * 5 + j, none⟩ = (dlV ls[i])[j]? := fun j hj => by
    rw [Nat.add_assoc, hc _ (by omega), flatMap_at dlV_len ls i j _ (List.getElem?_eq_getElem hi2) hj]
  exact ⟨b, o, ls[i], hA, hb, key 0 (by omega), key 1 (by omega), key 2 (by omega), key 3 (by omega), key 4 (by omega), List.getElem?_eq_getElem hi2, List.getElem_mem hi2⟩
end
def inA (a : Ac) : Prop := inW a.b ∧ inW a.e ∧ inW a.v ∧ inW a.add
def inD (a : Dl) : Prop := inW a.v ∧ inW a.early ∧ inW a.late
section
variable {H : Type} {enc : TypeId × Value → H} {P : Program} {W : World}
/-- A slice of operations that came in. -/
theorem open_RA {t e i y : TypeId} {f0 f1 f2 f3 f4 : Field} {a : Option Addr} {len cap : Nat} {d : DataW H} {p : List MemPlace} (ht : P.underlying t = some (.slice e)) (he : P.underlying e = some (.struct #[f0, f1, f2, f3, f4])) (hc : P.cellsOf e = 5)
    (hi : P.underlying i = some (.int .i64)) (hci : P.cellsOf i = 1) (hy : P.underlying y = some .bool) (hcy : P.cellsOf y = 1) (hf : [f0, f1, f2, f3, f4].map (fun f => (f.type, f.offset)) = [(i, 0), (i, 1), (y, 2), (i, 3), (i, 4)])
    (h : DataW.Trod enc P W 0 (fun _ => true) true t (.slice a len cap) d p) :
    ∃ fs : List Ac, RA W W.heap.size a len fs ∧ (∀ f ∈ fs, inA f) ∧ len ≤ cap ∧ ((len = 0 ∧ d = .nil) ∨ ∃ el sp, d = .slice el sp ∧ el.length = len) := by
  obtain ⟨rows, hr, hl, hrow, hlc, hd⟩ := open_rows ht hc (by decide) h
  simp only [List.map_cons, List.map_nil, List.cons.injEq, Prod.mk.injEq, and_true] at hf
  obtain ⟨⟨e0, o0⟩, ⟨e1, o1⟩, ⟨e2, o2⟩, ⟨e3, o3⟩, e4, o4⟩ := hf
  obtain ⟨fs, rfl, hp⟩ := map_of (f := acV) (p := inA) rows (by
      intro r hr
      obtain ⟨hlr, y', n, hy'⟩ := hrow r hr
      obtain ⟨xs, m, _, _, hlen, hlx, hfx⟩ := DataW.trod_struct he hy'
      have hjx : ∀ (j : Nat) (f : Field), #[f0, f1, f2, f3, f4][j]? = some f → j < xs.length := fun j f hj => by
        have := (Array.getElem?_eq_some_iff.1 hj).1
        simp at this hlx; omega
      have g : ∀ (j : Nat) (f : Field), #[f0, f1, f2, f3, f4][j]? = some f → f.type = i → ∃ v, (r.drop f.offset).take 1 = [.int .i64 v] ∧ inW v := by
        intro j f hj hfi
        have h0 := hfx j f hj
        rw [List.getElem?_eq_getElem (hjx j f hj), hfi, hci] at h0
        obtain ⟨u, hu, _, wu⟩ := DataW.trod_int hi h0
        exact ⟨u, hu, bounds_i64 wu⟩
      have gb : ∀ (j : Nat) (f : Field), #[f0, f1, f2, f3, f4][j]? = some f → f.type = y → ∃ v, (r.drop f.offset).take 1 = [.bool v] := by
        intro j f hj hfi
        have h0 := hfx j f hj
        rw [List.getElem?_eq_getElem (hjx j f hj), hfi, hcy] at h0
        obtain ⟨u, hu, _⟩ := DataW.trod_bool hy h0
        exact ⟨u, hu⟩
      obtain ⟨v0, h0, w0⟩ := g 0 f0 rfl e0
      obtain ⟨v1, h1, w1⟩ := g 1 f1 rfl e1
      obtain ⟨v2, h2⟩ := gb 2 f2 rfl e2
      obtain ⟨v3, h3, w3⟩ := g 3 f3 rfl e3
      obtain ⟨v4, h4, w4⟩ := g 4 f4 rfl e4
      rw [o0] at h0; rw [o1] at h1; rw [o2] at h2; rw [o3] at h3; rw [o4] at h4
      match r, hlr with
      | [c0, c1, c2, c3, c4], _ =>
        simp at h0 h1 h2 h3 h4
        exact ⟨⟨v0, v1, v2, v3, v4⟩, by simp [acV, h0, h1, h2, h3, h4], w0, w1, w3, w4⟩)
  refine ⟨fs, ?_, hp, hlc, hd⟩
  have : fs.flatMap acV = (fs.map acV).flatten := by simp [List.flatMap]
  unfold RA
  rw [this]
  exact hr
/-- A slice of deals that came in. -/
theorem open_RD {t e i y : TypeId} {f0 f1 f2 f3 f4 : Field} {a : Option Addr} {len cap : Nat} {d : DataW H} {p : List MemPlace} (ht : P.underlying t = some (.slice e)) (he : P.underlying e = some (.struct #[f0, f1, f2, f3, f4])) (hc : P.cellsOf e = 5)
    (hi : P.underlying i = some (.int .i64)) (hci : P.cellsOf i = 1) (hy : P.underlying y = some .bool) (hcy : P.cellsOf y = 1) (hf : [f0, f1, f2, f3, f4].map (fun f => (f.type, f.offset)) = [(y, 0), (i, 1), (i, 2), (i, 3), (y, 4)])
    (h : DataW.Trod enc P W 0 (fun _ => true) true t (.slice a len cap) d p) :
    ∃ fs : List Dl, RD W W.heap.size a len fs ∧ (∀ f ∈ fs, inD f) ∧ len ≤ cap ∧ ((len = 0 ∧ d = .nil) ∨ ∃ el sp, d = .slice el sp ∧ el.length = len) := by
  obtain ⟨rows, hr, hl, hrow, hlc, hd⟩ := open_rows ht hc (by decide) h
  simp only [List.map_cons, List.map_nil, List.cons.injEq, Prod.mk.injEq, and_true] at hf
  obtain ⟨⟨e0, o0⟩, ⟨e1, o1⟩, ⟨e2, o2⟩, ⟨e3, o3⟩, e4, o4⟩ := hf
  obtain ⟨fs, rfl, hp⟩ := map_of (f := dlV) (p := inD) rows (by
      intro r hr
      obtain ⟨hlr, y', n, hy'⟩ := hrow r hr
      obtain ⟨xs, m, _, _, hlen, hlx, hfx⟩ := DataW.trod_struct he hy'
      have hjx : ∀ (j : Nat) (f : Field), #[f0, f1, f2, f3, f4][j]? = some f → j < xs.length := fun j f hj => by
        have := (Array.getElem?_eq_some_iff.1 hj).1
        simp at this hlx; omega
      have g : ∀ (j : Nat) (f : Field), #[f0, f1, f2, f3, f4][j]? = some f → f.type = i → ∃ v, (r.drop f.offset).take 1 = [.int .i64 v] ∧ inW v := by
        intro j f hj hfi
        have h0 := hfx j f hj
        rw [List.getElem?_eq_getElem (hjx j f hj), hfi, hci] at h0
        obtain ⟨u, hu, _, wu⟩ := DataW.trod_int hi h0
        exact ⟨u, hu, bounds_i64 wu⟩
      have gb : ∀ (j : Nat) (f : Field), #[f0, f1, f2, f3, f4][j]? = some f → f.type = y → ∃ v, (r.drop f.offset).take 1 = [.bool v] := by
        intro j f hj hfi
        have h0 := hfx j f hj
        rw [List.getElem?_eq_getElem (hjx j f hj), hfi, hcy] at h0
        obtain ⟨u, hu, _⟩ := DataW.trod_bool hy h0
        exact ⟨u, hu⟩
      obtain ⟨v0, h0⟩ := gb 0 f0 rfl e0
      obtain ⟨v1, h1, w1⟩ := g 1 f1 rfl e1
      obtain ⟨v2, h2, w2⟩ := g 2 f2 rfl e2
      obtain ⟨v3, h3, w3⟩ := g 3 f3 rfl e3
      obtain ⟨v4, h4⟩ := gb 4 f4 rfl e4
      rw [o0] at h0; rw [o1] at h1; rw [o2] at h2; rw [o3] at h3; rw [o4] at h4
      match r, hlr with
      | [c0, c1, c2, c3, c4], _ =>
        simp at h0 h1 h2 h3 h4
        exact ⟨⟨v0, v1, v2, v3, v4⟩, by simp [dlV, h0, h1, h2, h3, h4], w1, w2, w3⟩)
  refine ⟨fs, ?_, hp, hlc, hd⟩
  have : fs.flatMap dlV = (fs.map dlV).flatten := by simp [List.flatMap]
  unfold RD
  rw [this]
  exact hr
end
end Go.Baro

set_option linter.unusedSimpArgs false
set_option linter.unusedVariables false
namespace Go.Baro
open Go.RowKit

/-- The cells of a call, beside what it tells. -/
def dgC (p : Dg × Value) : List Value := [.int .i64 p.1.b, .int .i64 p.1.e, .int .i64 p.1.th, .int .i64 p.1.cl, p.2]
theorem dgC_len (p : Dg × Value) : (dgC p).length = 5 := rfl
/-- What a call tells lies in a slice. -/
def tld (w : World) (B : Nat) (p : Dg × Value) : Prop := ∃ A n k, p.2 = .slice A n k ∧ n ≤ k ∧ n ≤ 200 ∧ RI w B .i64 A n p.1.to
def RDg (w : World) (B : Nat) (A : Option Addr) (n : Nat) (L : List (Dg × Value)) : Prop := Rd w B 5 A n (L.flatMap dgC) ∧ ∀ p ∈ L, tld w B p
section
variable {w w' : World} {B B' n : Nat} {A : Option Addr} {L : List (Dg × Value)}
theorem tld.below {p : Dg × Value} (h : tld w B p) (hb : Below B w w') : tld w' B p := by obtain ⟨A, n, k, h1, h2, h3, h4⟩ := h; exact ⟨A, n, k, h1, h2, h3, h4.below hb⟩
theorem tld.more {p : Dg × Value} (h : tld w B p) (hB : B ≤ B') : tld w B' p := by obtain ⟨A, n, k, h1, h2, h3, h4⟩ := h; exact ⟨A, n, k, h1, h2, h3, h4.more hB⟩
theorem RDg.below (h : RDg w B A n L) (hb : Below B w w') : RDg w' B A n L := ⟨Rd.below h.1 hb, fun p hp => (h.2 p hp).below hb⟩
theorem RDg.more (h : RDg w B A n L) (hB : B ≤ B') : RDg w B' A n L := ⟨Rd.more h.1 hB, fun p hp => (h.2 p hp).more hB⟩
theorem RDg.len (h : RDg w B A n L) : L.length = n := by have := Rd.len h.1; rw [flatMap_len dgC_len] at this; omega
theorem RDg.val (h : RDg w B A n L) {i : Nat} (hi : i < n) : ∃ b o d A' n' k, A = some ⟨b, o, none⟩ ∧ b < B ∧ w.cell? ⟨b, o + i * 5, none⟩ = some (.int .i64 d.b) ∧ w.cell? ⟨b, o + i * 5 + 1, none⟩ = some (.int .i64 d.e) ∧ w.cell? ⟨b, o + i * 5 + 2, none⟩ = some (.int .i64 d.th) ∧
    w.cell? ⟨b, o + i * 5 + 3, none⟩ = some (.int .i64 d.cl) ∧ w.cell? ⟨b, o + i * 5 + 4, none⟩ = some (.slice A' n' k) ∧ n' ≤ k ∧ n' ≤ 200 ∧ RI w B .i64 A' n' d.to ∧ Hid (L[i]? = some (d, .slice A' n' k)) ∧ Hid ((L.map Prod.fst)[i]? = some d) := by
  have hl := h.len
  have hi2 : i < L.length := by omega
  obtain ⟨b, o, hA, hb, hc⟩ := Rd.at_ h.1 (by omega)
  have key : ∀ j, j < 5 → w.cell? ⟨b, o + i * 5 + j, none⟩ = (dgC L[i])[j]? := fun j hj => by
    rw [Nat.add_assoc, hc _ (by omega), flatMap_at dgC_len L i j _ (List.getElem?_eq_getElem hi2) hj]
  obtain ⟨A', n', k, q1, q2, q3, q4⟩ := h.2 L[i] (List.getElem_mem hi2)
  have h4 := key 4 (by omega)
  have hLi : L[i]? = some (L[i].1, .slice A' n' k) := by rw [List.getElem?_eq_getElem hi2, ← q1]
  refine ⟨b, o, L[i].1, A', n', k, hA, hb, key 0 (by omega), key 1 (by omega), key 2 (by omega), key 3 (by omega), ?_, q2, q3, q4, hLi, ?_⟩
  · rw [h4]; simp [dgC, q1]
  · show _ = _
    rw [List.getElem?_map, hLi]; rfl
theorem flat_fin : ∀ (L : List (Dg × Value)) (k : Nat) (p : Dg × Value) (e : Int) (to : List Int) (v : Value), L[k]? = some p → ((L.flatMap dgC).set (k * 5 + 1) (.int .i64 e)).set (k * 5 + 4) v = (L.set k (⟨p.1.b, e, p.1.th, p.1.cl, to⟩, v)).flatMap dgC
  | [], k, p, e, to, v, h => by simp at h
  | a :: L, 0, p, e, to, v, h => by
    simp only [List.getElem?_cons_zero, Option.some.injEq] at h
    subst h
    simp [dgC]
  | a :: L, k + 1, p, e, to, v, h => by
    have ih := flat_fin L k p e to v (by simpa using h)
    rw [List.flatMap_cons, List.set_cons_succ, List.flatMap_cons, ← ih, show (k + 1) * 5 + 1 = k * 5 + 1 + 5 by omega, show (k + 1) * 5 + 4 = k * 5 + 4 + 5 by omega]
    simp [dgC]
/-- Calls of the call's own. -/
def OwnD (w : World) (B : Nat) (e : TypeId) (v : Value) (n : Nat) (L : List (Dg × Value)) : Prop := w.ownsRow B e 5 v n (L.flatMap dgC)
theorem OwnD.len {e : TypeId} {v : Value} (h : OwnD w B e v n L) : L.length = n := by have := h.1; rw [flatMap_len dgC_len] at this; omega
theorem OwnD.val {e : TypeId} {g c : Nat} (h : OwnD w B e (.slice (some ⟨g, 0, none⟩) n c) n L) {i : Nat} (hi : i < n) : ∃ p, Hid (L[i]? = some p) ∧ p ∈ L ∧ w.cell? ⟨g, i * 5, none⟩ = some (.int .i64 p.1.b) ∧ w.cell? ⟨g, i * 5 + 1, none⟩ = some (.int .i64 p.1.e) ∧ w.cell? ⟨g, i * 5 + 2, none⟩ = some (.int .i64 p.1.th) ∧
    w.cell? ⟨g, i * 5 + 3, none⟩ = some (.int .i64 p.1.cl) ∧ w.cell? ⟨g, i * 5 + 4, none⟩ = some p.2 ∧ w.frozen? ⟨g, i * 5 + 1, none⟩ = false ∧ w.frozen? ⟨g, i * 5 + 4, none⟩ = false := by
  have hl := h.len
  have hi2 : i < L.length := by omega
  have key : ∀ j, j < 5 → w.cell? ⟨g, i * 5 + j, none⟩ = (dgC L[i])[j]? := fun j hj => by
    rw [World.ownsRow.cellAt h _ (by omega), flatMap_at dgC_len L i j _ (List.getElem?_eq_getElem hi2) hj]
  exact ⟨L[i], List.getElem?_eq_getElem hi2, List.getElem_mem hi2, key 0 (by omega), key 1 (by omega), key 2 (by omega), key 3 (by omega), key 4 (by omega), World.ownsRow.frozenAt h _, World.ownsRow.frozenAt h _⟩
theorem OwnD.fin {e : TypeId} {g c : Nat} (h : OwnD w B e (.slice (some ⟨g, 0, none⟩) n c) n L) {i : Nat} {p : Dg × Value} (hp : L[i]? = some p) (en : Int) (to : List Int) (v : Value) :
    OwnD ((w.setCell ⟨g, i * 5 + 1, none⟩ (.int .i64 en)).setCell ⟨g, i * 5 + 4, none⟩ v) B e (.slice (some ⟨g, 0, none⟩) n c) n (L.set i (⟨p.1.b, en, p.1.th, p.1.cl, to⟩, v)) := by
  unfold OwnD
  rw [← flat_fin L i p en to v hp]
  exact (World.ownsRow.stored (World.ownsRow.stored h (i * 5 + 1) (.int .i64 en)).1 (i * 5 + 4) v).1
end
/-- The calls of which the first k are ended by an event. -/
def finP (x : Ev) (v : Value) (p : Dg × Value) : Dg × Value := if p.1.is x then (⟨p.1.b, x.st, p.1.th, p.1.cl, x.to⟩, v) else p
def finK (x : Ev) (v : Value) (k : Nat) (L : List (Dg × Value)) : List (Dg × Value) := (L.take k).map (finP x v) ++ L.drop k
theorem finP_fst (x : Ev) (v : Value) (p : Dg × Value) : (finP x v p).1 = p.1.fin x := by unfold finP Dg.fin; split <;> rfl
theorem finK_zero (x : Ev) (v : Value) (L : List (Dg × Value)) : finK x v 0 L = L := by simp [finK]
theorem finK_len (x : Ev) (v : Value) (k : Nat) (L : List (Dg × Value)) : (finK x v k L).length = L.length := by simp [finK]; omega
theorem finK_all {x : Ev} {v : Value} {k : Nat} {L : List (Dg × Value)} (h : L.length ≤ k) : (finK x v k L).map Prod.fst = (L.map Prod.fst).map (fun d => d.fin x) := by
  unfold finK
  rw [List.take_of_length_le h, List.drop_eq_nil_of_le h, List.append_nil, List.map_map, List.map_map]
  exact List.map_congr_left fun p _ => finP_fst x v p
theorem finK_at {x : Ev} {v : Value} {k : Nat} {L : List (Dg × Value)} : (finK x v k L)[k]? = L[k]? := by
  unfold finK
  by_cases h : k ≤ L.length
  · rw [List.getElem?_append_right (by simp; omega)]
    simp
    rw [show k - min k L.length = 0 by omega, Nat.add_zero]
  · rw [List.getElem?_eq_none (by simp; omega), List.getElem?_eq_none (by omega)]
theorem finK_succ {x : Ev} {v : Value} {k : Nat} {L : List (Dg × Value)} {p : Dg × Value} (hp : L[k]? = some p) : finK x v (k + 1) L = (finK x v k L).set k (finP x v p) := by
  have hk := (List.getElem?_eq_some_iff.1 hp).1
  have he := (List.getElem?_eq_some_iff.1 hp).2
  unfold finK
  rw [List.take_add_one, hp, Option.toList_some, List.map_append, List.map_singleton, List.append_assoc, List.drop_eq_getElem_cons hk, List.set_append_right _ _ (by simp; omega), show k - ((L.take k).map (finP x v)).length = 0 by simp; omega]
  rfl
theorem finK_skip {x : Ev} {v : Value} {k : Nat} {L : List (Dg × Value)} {p : Dg × Value} (hp : L[k]? = some p) (h : ¬ p.1.is x) : finK x v (k + 1) L = finK x v k L := by
  rw [finK_succ hp]
  unfold finP
  rw [if_neg h]
  have hk := (List.getElem?_eq_some_iff.1 hp).1
  apply List.ext_getElem?
  intro j
  by_cases hj : k = j
  · subst hj
    rw [List.getElem?_set_self (by rw [finK_len]; exact hk), finK_at, hp]
  · rw [List.getElem?_set_ne hj]
theorem finK_mem {x : Ev} {v : Value} {k : Nat} {L : List (Dg × Value)} {q : Dg × Value} (h : q ∈ finK x v k L) : q ∈ L ∨ (q.2 = v ∧ q.1.to = x.to) := by
  unfold finK at h
  rcases List.mem_append.1 h with h | h
  · obtain ⟨p, hp, rfl⟩ := List.mem_map.1 h
    unfold finP
    split
    · exact .inr ⟨rfl, rfl⟩
    · exact .inl (List.mem_of_mem_take hp)
  · exact .inl (List.mem_of_mem_drop h)
end Go.Baro

set_option linter.unusedSimpArgs false
set_option linter.unusedVariables false
namespace Go.Baro
open Go.RowKit

/-- The call of a thread. -/
def clOf (m : Mc) (th cl : Nat) : Cl := ((m.ts[th]?.getD [])[cl]?).getD ⟨0, []⟩
/-- The key of a call. -/
def hK (d : Dg) : Int := 100 * d.th + d.cl
/-- A call as an operation: pf tells whether it puts, what, and whether it is told as it must be. -/
def hA1 (m : Mc) (pf : Cl → List Int → Bool → Bool × Int × Bool) (d : Dg) : Ac := if d.e = -1 then ⟨d.b, -1, false, 0, 0⟩ else ⟨d.b, d.e, (pf (clOf m d.th d.cl) d.to true).1, (pf (clOf m d.th d.cl) d.to true).2.1, 0⟩
def hA (m : Mc) (pf : Cl → List Int → Bool → Bool × Int × Bool) (d : Dg) : Ac := if d.e = -1 then ⟨d.b, -1, (pf (clOf m d.th d.cl) [] false).1, (pf (clOf m d.th d.cl) [] false).2.1, 0⟩ else hA1 m pf d
/-- What is asked of the events. -/
structure HistOk (m : Mc) (pf : Cl → List Int → Bool → Bool × Int × Bool) (G : Cl → Prop) (T : List Ev) : Prop where
  rng : ∀ x ∈ T, x.th < m.ts.length ∧ x.cl < (m.ts[x.th]?.getD []).length
  drng : ∀ j, ∀ d ∈ dgs (T.take j), d.th < m.ts.length ∧ d.cl < (m.ts[d.th]?.getD []).length
  uq : ∀ (j : Nat) (x : Ev), T[j]? = some x → x.en = true → ∀ d ∈ dgs (T.take j), d.th = x.th → d.cl = x.cl → d.e = -1
  okE : ∀ x ∈ T, x.en = true → (pf (clOf m x.th x.cl) x.to true).2.2 = true
  okO : ∀ d ∈ dgs T, d.e = -1 → (pf (clOf m d.th d.cl) [] false).2.2 = true
  good : ∀ t ∈ m.ts, ∀ c ∈ t, G c
theorem clOf_at {m : Mc} {t c : Nat} {l : List Cl} {x : Cl} (h1 : m.ts[t]? = some l) (h2 : l[c]? = some x) : clOf m t c = x := by simp [clOf, h1, h2]
/-- The calls of which the first k are ended by an event. -/
def finD (x : Ev) (k : Nat) (D : List Dg) : List Dg := (D.take k).map (fun d => d.fin x) ++ D.drop k
theorem finD_zero (x : Ev) (D : List Dg) : finD x 0 D = D := by simp [finD]
theorem finD_len (x : Ev) (k : Nat) (D : List Dg) : (finD x k D).length = D.length := by simp [finD]; omega
theorem finD_all {x : Ev} {k : Nat} {D : List Dg} (h : D.length ≤ k) : finD x k D = D.map (fun d => d.fin x) := by
  unfold finD
  rw [List.take_of_length_le h, List.drop_eq_nil_of_le h, List.append_nil]
theorem finD_at {x : Ev} {k : Nat} {D : List Dg} : (finD x k D)[k]? = D[k]? := by
  unfold finD
  by_cases h : k ≤ D.length
  · rw [List.getElem?_append_right (by simp; omega)]
    simp
    rw [show k - min k D.length = 0 by omega, Nat.add_zero]
  · rw [List.getElem?_eq_none (by simp; omega), List.getElem?_eq_none (by omega)]
theorem finD_succ {x : Ev} {k : Nat} {D : List Dg} {d : Dg} (hp : D[k]? = some d) : finD x (k + 1) D = (finD x k D).set k (d.fin x) := by
  have hk := (List.getElem?_eq_some_iff.1 hp).1
  unfold finD
  rw [List.take_add_one, hp, Option.toList_some, List.map_append, List.map_singleton, List.append_assoc, List.drop_eq_getElem_cons hk, List.set_append_right _ _ (by simp; omega), show k - ((D.take k).map (fun d => d.fin x)).length = 0 by simp; omega]
  rfl
theorem finD_skip {x : Ev} {k : Nat} {D : List Dg} {d : Dg} (hp : D[k]? = some d) (h : ¬ d.is x) : finD x (k + 1) D = finD x k D := by
  rw [finD_succ hp]
  unfold Dg.fin
  rw [if_neg h]
  have hk := (List.getElem?_eq_some_iff.1 hp).1
  apply List.ext_getElem?
  intro j
  by_cases hj : k = j
  · subst hj
    rw [List.getElem?_set_self (by rw [finD_len]; exact hk), finD_at, hp]
  · rw [List.getElem?_set_ne hj]
theorem flat_ac : ∀ (L : List Ac) (k : Nat) (a : Ac) (e v : Int) (p : Bool), L[k]? = some a → (((L.flatMap acV).set (k * 5 + 1) (.int .i64 e)).set (k * 5 + 2) (.bool p)).set (k * 5 + 3) (.int .i64 v) = (L.set k ⟨a.b, e, p, v, a.add⟩).flatMap acV
  | [], k, a, e, v, p, h => by simp at h
  | b :: L, 0, a, e, v, p, h => by
    simp only [List.getElem?_cons_zero, Option.some.injEq] at h
    subst h
    simp [acV]
  | b :: L, k + 1, a, e, v, p, h => by
    have ih := flat_ac L k a e v p (by simpa using h)
    rw [List.flatMap_cons, List.set_cons_succ, List.flatMap_cons, ← ih, show (k + 1) * 5 + 1 = k * 5 + 1 + 5 by omega, show (k + 1) * 5 + 2 = k * 5 + 2 + 5 by omega, show (k + 1) * 5 + 3 = k * 5 + 3 + 5 by omega]
    simp [acV]
/-- Operations of the call's own. -/
def OwnA (w : World) (B : Nat) (e : TypeId) (v : Value) (n : Nat) (L : List Ac) : Prop := w.ownsRow B e 5 v n (L.flatMap acV)
section
variable {w : World} {B n : Nat} {e : TypeId} {L : List Ac}
theorem OwnA.len {v : Value} (h : OwnA w B e v n L) : L.length = n := by have := h.1; rw [flatMap_len acV_len] at this; omega
theorem OwnA.val {g c : Nat} (h : OwnA w B e (.slice (some ⟨g, 0, none⟩) n c) n L) {i : Nat} (hi : i < n) {a : Ac} (ha : L[i]? = some a) : w.cell? ⟨g, i * 5, none⟩ = some (.int .i64 a.b) ∧ w.cell? ⟨g, i * 5 + 1, none⟩ = some (.int .i64 a.e) ∧ w.cell? ⟨g, i * 5 + 2, none⟩ = some (.bool a.put) ∧ w.cell? ⟨g, i * 5 + 3, none⟩ = some (.int .i64 a.v) ∧
    ∀ j, w.frozen? ⟨g, j, none⟩ = false := by
  have key : ∀ j, j < 5 → w.cell? ⟨g, i * 5 + j, none⟩ = (acV a)[j]? := fun j hj => by
    rw [World.ownsRow.cellAt h _ (by omega), flatMap_at acV_len L i j _ ha hj]
  exact ⟨key 0 (by omega), key 1 (by omega), key 2 (by omega), key 3 (by omega), fun j => World.ownsRow.frozenAt h j⟩
theorem OwnA.put {g c : Nat} (h : OwnA w B e (.slice (some ⟨g, 0, none⟩) n c) n L) (i : Nat) (u : Value) : (w.setCell ⟨g, i, none⟩ u).ownsRow B e 5 (.slice (some ⟨g, 0, none⟩) n c) n ((L.flatMap acV).set i u) := (World.ownsRow.stored h i u).1
end
end Go.Baro

set_option linter.unusedSimpArgs false
set_option linter.unusedVariables false
namespace Go.Baro

theorem out_rng (m : Mc) (A : Nat → Prop) (S : List Nat) (hS : ∀ n ∈ S, A n) : ∀ x ∈ (plyG m 0 S (g0 m)).out, A x.th ∧ x.cl < ((plyG m 0 S (g0 m)).th x.th).bg := by
  refine (plyG_indS (I := fun S g => Hs S.length S.length g ∧ ∀ x ∈ g.out, A x.th ∧ x.cl < (g.th x.th).bg) (A := A) ⟨hs_zero m, fun x hx => by simp [g0] at hx⟩ (fun S g n hn ⟨hs, h⟩ => ⟨by rw [List.length_append, List.length_singleton]; exact hs_act hs, ?_⟩) S hS).2
  rw [actG_eq]
  have hsm := hs_begin (m := m) (n := n) hs
  have hm : ∀ x ∈ (bgG m g S.length n).out, A x.th ∧ x.cl < ((bgG m g S.length n).th x.th).bg := by
    rcases bgG_cases m g S.length n with ⟨h1, _⟩ | ⟨c, h1, h2, h3⟩
    · rw [h1]; exact h
    · rw [h3]
      intro x hx
      dsimp only at hx ⊢
      rcases List.mem_append.1 hx with hx | hx
      · obtain ⟨k1, k2⟩ := h x hx
        refine ⟨k1, ?_⟩
        by_cases ht : x.th = n
        · rw [ht, putT_same]; rw [ht] at k2; dsimp only; omega
        · rw [putT_other _ _ ht]; exact k2
      · rw [List.mem_singleton.1 hx]
        refine ⟨hn, ?_⟩
        dsimp only
        rw [putT_same]
        dsimp only
        omega
  generalize bgG m g S.length n = gm at hm hsm
  intro x hx
  rw [exG_bg]
  cases hl : (gm.th n).now with
  | none => rw [exG_none hl] at hx; exact hm x hx
  | some l =>
    by_cases he : (exc l gm.w).2.2.2 = true
    · rw [exG_end hl he] at hx
      rcases List.mem_append.1 hx with hx | hx
      · exact hm x hx
      · rw [List.mem_singleton.1 hx]
        dsimp only
        have := hsm.ps n (by rw [hl]; simp)
        exact ⟨hn, by omega⟩
    · rw [exG_go hl (by simpa using he)] at hx; exact hm x hx
def dKey (d : Dg) : Nat × Nat := (d.th, d.cl)
/-- The calls that a part of the events tells of are those that began in it. -/
theorem dgs_keys (es : List Ev) : (dgs es).map dKey = (es.filter fun x => !x.en).map fun x => (x.th, x.cl) := by
  suffices h : ∀ (es : List Ev) (l : List Dg), (es.foldl dg1 l).map dKey = l.map dKey ++ (es.filter fun x => !x.en).map fun x => (x.th, x.cl) by simpa [dgs] using h es []
  intro es
  induction es with
  | nil => intro l; simp
  | cons x es ih =>
    intro l
    rw [List.foldl_cons, ih]
    by_cases he : x.en = true
    · rw [dg1_end _ _ he]
      have : (l.map fun d => d.fin x).map dKey = l.map dKey := by
        rw [List.map_map]
        apply List.map_congr_left
        intro d _
        simp only [Function.comp, Dg.fin, dKey]
        split <;> rfl
      rw [this]
      simp [he]
    · have he' : x.en = false := by simpa using he
      rw [dg1_begin _ _ he']
      simp [he', dKey]
theorem dgs_from {es : List Ev} {d : Dg} (h : d ∈ dgs es) : ∃ x ∈ es, x.th = d.th ∧ x.cl = d.cl := by
  have : dKey d ∈ (dgs es).map dKey := List.mem_map.2 ⟨d, h, rfl⟩
  rw [dgs_keys] at this
  obtain ⟨x, hx, he⟩ := List.mem_map.1 this
  simp only [dKey, Prod.mk.injEq] at he
  exact ⟨x, (List.mem_filter.1 hx).1, he.1, he.2⟩
theorem keys_once {sb se : Nat} {g : Gs} (h : Hs sb se g) : ((dgs g.out).map dKey).Nodup := by
  unfold List.Nodup
  rw [List.pairwise_map]
  refine (List.Pairwise.and_mem.1 h.srt).imp fun {a b} hab he => ?_
  simp only [dKey, Prod.mk.injEq] at he
  have := h.one a hab.1 b hab.2.1 he.1 he.2
  have h2 := hab.2.2
  rw [this] at h2
  omega
/-- In each part of the events a call is told of once. -/
theorem part_once {sb se : Nat} {g : Gs} (h : Hs sb se g) (j : Nat) : ((dgs (g.out.take j)).map dKey).Nodup := by
  have h1 := keys_once h
  rw [dgs_keys] at h1 ⊢
  have : g.out = g.out.take j ++ g.out.drop j := (List.take_append_drop j g.out).symm
  rw [this, List.filter_append, List.map_append] at h1
  exact (List.nodup_append.1 h1).1
theorem nodup_one {l : List Dg} (h : (l.map dKey).Nodup) {a b : Dg} (ha : a ∈ l) (hb : b ∈ l) (he : dKey a = dKey b) : a = b := by
  obtain ⟨i, hi⟩ := List.mem_iff_getElem?.1 ha
  obtain ⟨j, hj⟩ := List.mem_iff_getElem?.1 hb
  have hil := (List.getElem?_eq_some_iff.1 hi).1
  have hij : i = j := by
    have h1 : (l.map dKey)[i]? = some (dKey a) := by rw [List.getElem?_map, hi]; rfl
    have h2 : (l.map dKey)[j]? = some (dKey a) := by rw [List.getElem?_map, hj, he]; rfl
    exact (List.getElem?_inj (by simpa using hil) h).1 (h1.trans h2.symm)
  subst hij
  rw [hi] at hj
  injection hj
theorem hist_ok {m : Mc} {S : List Nat} {pf : Cl → List Int → Bool → Bool × Int × Bool} {G : Cl → Prop} (hS : ∀ n ∈ S, n < m.ts.length) (hn : noErr (plyG m 0 S (g0 m)))
    (h1 : ∀ d ∈ dgs (plyG m 0 S (g0 m)).out, d.e ≠ -1 → (pf (clOf m d.th d.cl) d.to true).2.2 = true) (h2 : ∀ d ∈ dgs (plyG m 0 S (g0 m)).out, d.e = -1 → (pf (clOf m d.th d.cl) [] false).2.2 = true) (hg : ∀ t ∈ m.ts, ∀ c ∈ t, G c) : HistOk m pf G (plyG m 0 S (g0 m)).out := by
  have hr := out_rng m (fun n => n < m.ts.length) S hS
  have hbg := bg_le m S
  have hrn := rn_ply S hn
  have hs := hs_ply m S
  generalize plyG m 0 S (g0 m) = g at *
  have hrng : ∀ x ∈ g.out, x.th < m.ts.length ∧ x.cl < (m.ts[x.th]?.getD []).length := fun x hx => ⟨(hr x hx).1, Nat.lt_of_lt_of_le (hr x hx).2 (hbg x.th)⟩
  refine ⟨hrng, fun j d hd => ?_, fun j x hx he d hd ht hc => ?_, fun x hx he => ?_, h2, hg⟩
  · obtain ⟨x, hx, e1, e2⟩ := dgs_from hd
    have := hrng x (List.mem_of_mem_take hx)
    rw [e1, e2] at this
    exact this
  · obtain ⟨_, d', hd', k1, k2, k3⟩ := hrn j x hx he
    have := nodup_one (part_once hs j) hd hd' (by simp [dKey, ht, hc, k1, k2])
    rw [this]; exact k3
  · obtain ⟨j, hj⟩ := List.mem_iff_getElem?.1 hx
    obtain ⟨_, d', hd', k1, k2, k3⟩ := hrn j x hj he
    have hjl := (List.getElem?_eq_some_iff.1 hj).1
    have hmem : (⟨d'.b, x.st, d'.th, d'.cl, x.to⟩ : Dg) ∈ dgs (g.out.take (j + 1)) := by
      have : g.out.take (j + 1) = g.out.take j ++ [x] := by rw [List.take_add_one, hj]; rfl
      rw [this, dgs_snoc, dg1_end _ _ he]
      refine List.mem_map.2 ⟨d', hd', ?_⟩
      unfold Dg.fin
      rw [if_pos ⟨k1, k2, k3⟩]
    have hlate : dgs g.out = (g.out.drop (j + 1)).foldl dg1 (dgs (g.out.take (j + 1))) := by
      unfold dgs
      rw [← List.foldl_append, List.take_append_drop]
    obtain ⟨d2, hd2, q1, q2, q3, q4, q5⟩ := dgs_later (es := g.out.drop (j + 1)) (st := 0) (fun _ _ => Nat.zero_le _) _ _ hmem
    rw [← hlate] at hd2
    have e := q4 (by dsimp only; omega)
    rw [e] at hd2
    have := h1 _ hd2 (by dsimp only; omega)
    dsimp only at this
    rw [k1, k2] at this
    exact this
end Go.Baro
