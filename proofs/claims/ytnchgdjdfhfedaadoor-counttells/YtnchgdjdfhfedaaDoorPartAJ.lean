/- Of this claim's own texts these, one behind the other: LinPure2, LibA. No statement of the seat is proved here; no condition but those that stand at the theorems. -/
import Derived.Test.YtnchgdjdfhfedaaDoorPartAI
import Derived.Test.YtnchgdjdfhfedaaDoorPartAD
set_option linter.unusedSimpArgs false
set_option linter.unusedVariables false
namespace Go.Baro
open Go.RowKit (wrap64)

theorem perm_erase {α : Type} {l : List α} {i : Nat} {a : α} (h : l[i]? = some a) : l.Perm (a :: l.eraseIdx i) := by
  obtain ⟨hi, rfl⟩ := List.getElem?_eq_some_iff.1 h
  rw [List.eraseIdx_eq_take_drop_succ]
  conv => lhs; rw [← List.take_append_drop i l, List.drop_eq_getElem_cons hi]
  exact List.perm_middle
/-- Who comes first. -/
theorem lin_iff {k : Int} {has : List Int} {left : List Ac} : Lin k has left ↔ (∀ a ∈ left, a.e = -1) ∨ ∃ i a, left[i]? = some a ∧ (∀ b ∈ left, b.e ≠ -1 → a.b ≤ b.e) ∧ (a.e ≠ -1 → (tel k has a).1 = a.v) ∧ Lin k (tel k has a).2 (left.eraseIdx i) := by
  refine ⟨fun h => ?_, fun h => ?_⟩
  · cases h with
    | done h => exact .inl h
    | step a rest hp hf ht h =>
      obtain ⟨i, hi, he⟩ := List.getElem_of_mem (hp.mem_iff.2 (List.mem_cons_self (a := a) (l := rest)))
      have hi2 : left[i]? = some a := by rw [List.getElem?_eq_getElem hi, he]
      exact .inr ⟨i, a, hi2, hf, ht, h.perm (List.Perm.cons_inv (hp.symm.trans (perm_erase hi2)))⟩
  · rcases h with h | ⟨i, a, hi, hf, ht, h⟩
    · exact .done h
    · exact .step a _ (perm_erase hi) hf ht h
/-- Of another value that is read, taken or was there the run does not tell. -/
theorem tel_v {k : Int} {has : List Int} {a : Ac} (h : k = 2 ∨ a.put = false) (v : Int) : tel k has { a with v := v } = tel k has a := by
  unfold tel
  rcases h with h | h
  · subst h; simp
  · simp [h]
theorem runs_not {k : Int} {v : Int} : ∀ (l : List Ac) (has : List Int) (i : Nat) (a : Ac), runs k has l → l[i]? = some a → (k = 2 ∨ a.put = false) → v ≠ a.v → ¬ runs k has (l.set i { a with v := v })
  | [], has, i, a, _, h, _, _ => by simp at h
  | c :: l, has, 0, a, hr, h, hk, hv => by
    simp only [List.getElem?_cons_zero, Option.some.injEq] at h
    subst h
    intro hn
    have h1 := hn.1
    rw [tel_v hk] at h1
    exact hv (h1.symm.trans hr.1)
  | c :: l, has, i + 1, a, hr, h, hk, hv => fun hn => runs_not l _ i a hr.2 (by simpa using h) hk hv hn.2
theorem runs_map {k : Int} {f : Ac → Ac} (hf : ∀ a, (f a).put = a.put ∧ (f a).v = a.v ∧ (f a).add = a.add) : ∀ (l : List Ac) (has : List Int), runs k has l → runs k has (l.map f)
  | [], _, _ => trivial
  | a :: l, has, h => by
    have e : tel k has (f a) = tel k has a := by unfold tel; rw [(hf a).1, (hf a).2.1, (hf a).2.2]
    exact ⟨by rw [e, (hf a).2.1]; exact h.1, by rw [e]; exact runs_map hf l _ h.2⟩
/-- A deal: put, a value, how much earlier, how much later, not ended. -/
structure Dl where
  put : Bool
  v : Int
  early : Int
  late : Int
  opn : Bool
/-- What the object tells, what is added, what it has then. -/
def tl (k : Int) (has : List Int) (put : Bool) (v : Int) : Int × Int × List Int :=
  if k = 1 then (if put = true then (v, 0, [v]) else (has.headD 0, 0, has))
  else if k = 2 then (if put = true then (has.headD 0, v, [wrap64 (has.headD 0 + v)]) else (has.headD 0, 0, has))
  else if put = true then (v, 0, has ++ [v])
  else if has = [] then (-1, 0, has)
  else if k = 3 then (has.headD 0, 0, has.tail)
  else (has.getLastD 0, 0, has.dropLast)
def acT (i : Nat) (d : Dl) (wide : Bool) (v add : Int) : Ac :=
  ⟨100 + 10 * i - (if wide = true then d.early % 40 else 0), if wide = true then (if d.opn = true then -1 else 105 + 10 * i + d.late % 40) else 105 + 10 * i, d.put, v, add⟩
def sqA (k : Int) (wide : Bool) : Nat → List Int → List Dl → List Ac
  | _, _, [] => []
  | i, has, d :: l => acT i d wide (tl k has d.put (d.v % 4)).1 (tl k has d.put (d.v % 4)).2.1 :: sqA k wide (i + 1) (tl k has d.put (d.v % 4)).2.2 l
/-- Of a register and a counter one number is there. -/
def okH (k : Int) (has : List Int) : Prop := k = 2 → ∃ x, has = [x] ∧ wrap64 x = x
theorem wrap_twice (x : Int) : wrap64 (wrap64 x) = wrap64 x := by unfold wrap64; omega
theorem tl_ok {k : Int} {has : List Int} (h : okH k has) (put : Bool) (v : Int) : okH k (tl k has put v).2.2 := by
  intro hk
  obtain ⟨x, rfl, hx⟩ := h hk
  subst hk
  unfold tl
  rw [if_neg (by decide), if_pos rfl]
  cases put with
  | true => exact ⟨_, rfl, wrap_twice _⟩
  | false => exact ⟨x, rfl, hx⟩
theorem tel_tl {k : Int} {has : List Int} (h : okH k has) (i : Nat) (d : Dl) (wide : Bool) : tel k has (acT i d wide (tl k has d.put (d.v % 4)).1 (tl k has d.put (d.v % 4)).2.1) = ((tl k has d.put (d.v % 4)).1, (tl k has d.put (d.v % 4)).2.2) := by
  unfold tel tl acT
  dsimp only
  by_cases h1 : k = 1
  · rw [if_pos h1, if_pos h1]; cases d.put <;> rfl
  · rw [if_neg h1, if_neg h1]
    by_cases h2 : k = 2
    · rw [if_pos h2, if_pos h2]
      obtain ⟨x, rfl, hx⟩ := h h2
      cases d.put with
      | true => rfl
      | false => simp [hx]
    · rw [if_neg h2, if_neg h2]
      cases d.put with
      | true => rfl
      | false =>
        simp only [Bool.false_eq_true, if_false]
        split
        · rfl
        · split <;> rfl
theorem sq_runs (k : Int) (wide : Bool) : ∀ (l : List Dl) (i : Nat) (has : List Int), okH k has → runs k has (sqA k wide i has l)
  | [], _, _, _ => trivial
  | d :: l, i, has, h => by
    have e := tel_tl h i d wide
    refine ⟨by rw [e]; rfl, ?_⟩
    rw [e]
    exact sq_runs k wide l (i + 1) _ (tl_ok h _ _)
/-- When they begin and end. -/
theorem sq_at (k : Int) (wide : Bool) : ∀ (l : List Dl) (i : Nat) (has : List Int) (a : Ac), a ∈ sqA k wide i has l → ∃ j : Nat, i ≤ j ∧ 100 + 10 * (j : Int) - 40 < a.b ∧ a.b ≤ 100 + 10 * (j : Int) ∧ (a.e = -1 ∨ 105 + 10 * (j : Int) ≤ a.e)
  | [], _, _, a, h => by simp [sqA] at h
  | d :: l, i, has, a, h => by
    rcases List.mem_cons.1 h with h | h
    · refine ⟨i, Nat.le_refl _, ?_⟩
      subst h
      unfold acT
      dsimp only
      cases wide with
      | false => simp; omega
      | true =>
        simp only [if_true]
        cases d.opn with
        | true => simp; omega
        | false => simp; omega
    · obtain ⟨j, h1, h2⟩ := sq_at k wide l (i + 1) _ a h
      exact ⟨j, by omega, h2⟩
theorem sq_self (k : Int) (wide : Bool) (l : List Dl) (i : Nat) (has : List Int) : ∀ a ∈ sqA k wide i has l, a.e ≠ -1 → a.b ≤ a.e := by
  intro a ha he
  obtain ⟨j, _, _, h1, h2⟩ := sq_at k wide l i has a ha
  omega
theorem sq_pair (k : Int) (wide : Bool) : ∀ (l : List Dl) (i : Nat) (has : List Int), (sqA k wide i has l).Pairwise (fun a b => b.e ≠ -1 → a.b ≤ b.e)
  | [], _, _ => List.Pairwise.nil
  | d :: l, i, has => by
    unfold sqA
    rw [List.pairwise_cons]
    refine ⟨fun b hb he => ?_, sq_pair k wide l (i + 1) _⟩
    obtain ⟨j, h0, _, _, h2⟩ := sq_at k wide l (i + 1) _ b hb
    have : (acT i d wide (tl k has d.put (d.v % 4)).1 (tl k has d.put (d.v % 4)).2.1).b ≤ 100 + 10 * (i : Int) := by
      unfold acT
      dsimp only
      cases wide <;> simp <;> omega
    omega
/-- A history that went one behind the other, also with other times, can be put in order. -/
theorem sq_lin {k : Int} {has : List Int} (h : okH k has) (wide : Bool) (l : List Dl) (i : Nat) : Lin k has (sqA k wide i has l) := lin_seq (sq_runs k wide l i has h) (sq_pair k wide l i has) (sq_self k wide l i has)
theorem sq_strict (k : Int) : ∀ (l : List Dl) (i : Nat) (has : List Int), (sqA k false i has l).Pairwise (fun a b => a.e < b.b) ∧ ∀ a ∈ sqA k false i has l, a.e ≠ -1 ∧ 100 + 10 * (i : Int) ≤ a.b
  | [], _, _ => ⟨List.Pairwise.nil, by simp [sqA]⟩
  | d :: l, i, has => by
    obtain ⟨h1, h2⟩ := sq_strict k l (i + 1) (tl k has d.put (d.v % 4)).2.2
    unfold sqA
    refine ⟨List.pairwise_cons.2 ⟨fun b hb => ?_, h1⟩, fun a ha => ?_⟩
    · have := (h2 b hb).2
      unfold acT
      simp
      omega
    · rcases List.mem_cons.1 ha with rfl | ha
      · unfold acT; simp; omega
      · have := h2 a ha; omega
/-- With another value it cannot. -/
theorem sq_tells {k : Int} {has : List Int} (h : okH k has) (l : List Dl) (i j : Nat) {a : Ac} {v : Int} (ha : (sqA k false i has l)[j]? = some a) (hk : k = 2 ∨ a.put = false) (hv : v ≠ a.v) : ¬ Lin k has ((sqA k false i has l).set j { a with v := v }) := by
  intro hl
  obtain ⟨h1, h2⟩ := sq_strict k l i has
  refine runs_not _ has j a (sq_runs k false l i has h) ha hk hv (lin_only _ has hl ?_ ?_)
  · rw [List.pairwise_iff_getElem] at h1 ⊢
    intro p q hp hq hpq
    simp only [List.length_set] at hp hq
    have hh := h1 p q hp hq hpq
    have hx : ∀ (p : Nat) (hp : p < (sqA k false i has l).length), ((sqA k false i has l).set j { a with v := v })[p]'(by simpa using hp) = (sqA k false i has l)[p] ∨ (((sqA k false i has l).set j { a with v := v })[p]'(by simpa using hp) = { a with v := v } ∧ (sqA k false i has l)[p] = a) := by
      intro p hp
      rw [List.getElem_set]
      by_cases hjp : j = p
      · subst hjp
        rw [if_pos rfl]
        rw [List.getElem?_eq_getElem hp] at ha
        exact .inr ⟨rfl, Option.some.inj ha⟩
      · rw [if_neg hjp]; exact .inl rfl
    rcases hx p hp with e1 | ⟨e1, e1'⟩ <;> rcases hx q hq with e2 | ⟨e2, e2'⟩
    · rw [e1, e2]; exact hh
    · rw [e1, e2]; rw [e2'] at hh; exact hh
    · rw [e1, e2]; rw [e1'] at hh; exact hh
    · rw [e1, e2]; rw [e1', e2'] at hh; exact hh
  · intro c hc
    rcases List.mem_or_eq_of_mem_set hc with hc | rfl
    · exact (h2 c hc).1
    · exact (h2 a (List.mem_of_getElem? ha)).1
/-- The beginning of a history, up to time t. -/
def cutA (t : Int) (a : Ac) : Ac := { a with e := if t < a.e then -1 else a.e }
def partA (t : Int) (l : List Ac) : List Ac := (l.filter fun a => decide (a.b ≤ t)).map (cutA t)
theorem sq_part {k : Int} {wide : Bool} {t : Int} : ∀ (l : List Dl) (i : Nat) (has : List Int), okH k has → Lin k has (partA t (sqA k wide i has l)) := by
  have key : ∀ (l : List Dl) (i : Nat) (has : List Int), okH k has → ∃ l1 l2, partA t (sqA k wide i has l) = l1 ++ l2 ∧ runs k has l1 ∧ l1.Pairwise (fun a b => b.e ≠ -1 → a.b ≤ b.e) ∧ (∀ a ∈ l1, a.e ≠ -1 → a.b ≤ a.e) ∧ (∀ a ∈ l2, a.e = -1) ∧ ∀ a ∈ l1, a.e = -1 ∨ 105 + 10 * (i : Int) ≤ a.e := by
    intro l
    induction l with
    | nil => intro i has h; exact ⟨[], [], rfl, trivial, List.Pairwise.nil, by simp, by simp, by simp⟩
    | cons d l ih =>
      intro i has h
      have hb : (acT i d wide (tl k has d.put (d.v % 4)).1 (tl k has d.put (d.v % 4)).2.1).b ≤ 100 + 10 * (i : Int) := by
        unfold acT
        dsimp only
        cases wide <;> simp <;> omega
      have hself := sq_self k wide (d :: l) i has _ (List.mem_cons_self)
      have hself2 := sq_at k wide (d :: l) i has _ (List.mem_cons_self)
      obtain ⟨l1, l2, e1, e2, e3, e4, e5, e6⟩ := ih (i + 1) _ (tl_ok h d.put (d.v % 4))
      have htel := tel_tl h i d wide
      unfold sqA
      generalize hA : acT i d wide (tl k has d.put (d.v % 4)).1 (tl k has d.put (d.v % 4)).2.1 = A at hb hself hself2 htel ⊢
      by_cases hAt : A.b ≤ t
      · refine ⟨cutA t A :: l1, l2, ?_, ?_, ?_, ?_, e5, ?_⟩
        · unfold partA at e1 ⊢
          rw [List.filter_cons_of_pos (by simpa using hAt), List.map_cons, e1, List.cons_append]
        · have e : tel k has (cutA t A) = tel k has A := rfl
          refine ⟨by rw [e, htel, ← hA]; rfl, by rw [e, htel]; exact e2⟩
        · rw [List.pairwise_cons]
          refine ⟨fun b hb2 hb3 => ?_, e3⟩
          rcases e6 b hb2 with h1 | h1
          · exact absurd h1 hb3
          · show A.b ≤ b.e
            omega
        · intro a ha ha2
          rcases List.mem_cons.1 ha with rfl | ha
          · unfold cutA at ha2 ⊢
            dsimp only at ha2 ⊢
            split at ha2
            · exact absurd rfl ha2
            · rename_i hh
              rw [if_neg hh]
              exact hself ha2
          · exact e4 a ha ha2
        · intro a ha
          rcases List.mem_cons.1 ha with rfl | ha
          · unfold cutA
            dsimp only
            split
            · exact .inl rfl
            · rw [← hA]
              unfold acT
              dsimp only
              cases wide with
              | false => simp
              | true => cases d.opn <;> simp <;> omega
          · rcases e6 a ha with h1 | h1
            · exact .inl h1
            · right; omega
      · refine ⟨[], l1 ++ l2, ?_, trivial, List.Pairwise.nil, by simp, ?_, by simp⟩
        · unfold partA at e1 ⊢
          rw [List.filter_cons_of_neg (by simpa using hAt), e1, List.nil_append]
        · intro a ha
          rcases List.mem_append.1 ha with ha1 | ha
          · rcases e6 a ha1 with h1 | h1
            · exact h1
            · have hm : a ∈ partA t (sqA k wide (i + 1) (tl k has d.put (d.v % 4)).2.2 l) := by rw [e1]; exact ha
              unfold partA at hm
              obtain ⟨c, hc, rfl⟩ := List.mem_map.1 hm
              unfold cutA at h1 ⊢
              dsimp only at h1 ⊢
              split at h1
              · rename_i hh; rw [if_pos hh]
              · rename_i hh; omega
          · exact e5 a ha
  intro l i has h
  obtain ⟨l1, l2, e1, e2, e3, e4, e5, _⟩ := key l i has h
  rw [e1]
  exact lin_part e5 l1 has e2 e3 e4
end Go.Baro

set_option linter.unusedSimpArgs false
set_option linter.unusedVariables false
namespace Go.Baro
open Go.ChangeShapes Go.WideShapes Go.ChangeAt Go.RowKit

theorem flatMap_at {α : Type} {s : Nat} {f : α → List Value} (hf : ∀ x, (f x).length = s) : ∀ (ls : List α) (i j : Nat) (x : α), ls[i]? = some x → j < s → (ls.flatMap f)[i * s + j]? = (f x)[j]?
  | [], i, j, x, h, _ => by simp at h
  | y :: ls, 0, j, x, h, hj => by
    simp only [List.getElem?_cons_zero, Option.some.injEq] at h
    subst h
    rw [List.flatMap_cons, Nat.zero_mul, Nat.zero_add, List.getElem?_append_left (by rw [hf]; exact hj)]
  | y :: ls, i + 1, j, x, h, hj => by
    rw [List.flatMap_cons, List.getElem?_append_right (by rw [hf, Nat.succ_mul]; omega), hf, show (i + 1) * s + j - s = i * s + j by rw [Nat.succ_mul]; omega]
    exact flatMap_at hf ls i j x (by simpa using h) hj
theorem flatMap_len {α : Type} {s : Nat} {f : α → List Value} (hf : ∀ x, (f x).length = s) : ∀ (ls : List α), (ls.flatMap f).length = ls.length * s
  | [] => by simp
  | y :: ls => by rw [List.flatMap_cons, List.length_append, hf, flatMap_len hf ls, List.length_cons, Nat.succ_mul]; omega
/-- The cells of an operation, of a deal. -/
def acV (a : Ac) : List Value := [.int .i64 a.b, .int .i64 a.e, .bool a.put, .int .i64 a.v, .int .i64 a.add]
def dlV (a : Dl) : List Value := [.bool a.put, .int .i64 a.v, .int .i64 a.early, .int .i64 a.late, .bool a.opn]
theorem acV_len (a : Ac) : (acV a).length = 5 := rfl
theorem dlV_len (a : Dl) : (dlV a).length = 5 := rfl
def RA (w : World) (B : Nat) (A : Option Addr) (n : Nat) (ls : List Ac) : Prop := Rd w B 5 A n (ls.flatMap acV)
def RD (w : World) (B : Nat) (A : Option Addr) (n : Nat) (ls : List Dl) : Prop := Rd w B 5 A n (ls.flatMap dlV)
section
variable {w w' : World} {B B' n : Nat} {A : Option Addr}
theorem RA.below {ls : List Ac} (h : RA w B A n ls) (hb : Below B w w') : RA w' B A n ls := Rd.below h hb
theorem RA.more {ls : List Ac} (h : RA w B A n ls) (hB : B ≤ B') : RA w B' A n ls := Rd.more h hB
theorem RD.below {ls : List Dl} (h : RD w B A n ls) (hb : Below B w w') : RD w' B A n ls := Rd.below h hb
theorem RD.more {ls : List Dl} (h : RD w B A n ls) (hB : B ≤ B') : RD w B' A n ls := Rd.more h hB
theorem RA.len {ls : List Ac} (h : RA w B A n ls) : ls.length = n := by have := Rd.len h; rw [flatMap_len acV_len] at this; omega
theorem RD.len {ls : List Dl} (h : RD w B A n ls) : ls.length = n := by have := Rd.len h; rw [flatMap_len dlV_len] at this; omega
theorem RA.val {ls : List Ac} (h : RA w B A n ls) {i : Nat} (hi : i < n) : ∃ b o x, A = some ⟨b, o, none⟩ ∧ b < B ∧ w.cell? ⟨b, o + i * 5, none⟩ = some (.int .i64 x.b) ∧ w.cell? ⟨b, o + i * 5 + 1, none⟩ = some (.int .i64 x.e) ∧ w.cell? ⟨b, o + i * 5 + 2, none⟩ = some (.bool x.put) ∧ w.cell? ⟨b, o + i * 5 + 3, none⟩ = some (.int .i64 x.v) ∧
    w.cell? ⟨b, o + i * 5 + 4, none⟩ = some (.int .i64 x.add) ∧ Hid (ls[i]? = some x) ∧ x ∈ ls := by
  have hl := h.len
  have hi2 : i < ls.length := by omega
  obtain ⟨b, o, hA, hb, hc⟩ := Rd.at_ h (by omega)
  have key : ∀ j, j < 5 → w.cell? ⟨b, o + i * 5 + j, none⟩ = (acV ls[i])[j]? := fun j hj => by
    rw [Nat.add_assoc, hc _ (by omega), flatMap_at acV_len ls i j _ (List.getElem?_eq_getElem hi2) hj]
  exact ⟨b, o, ls[i], hA, hb, key 0 (by omega), key 1 (by omega), key 2 (by omega), key 3 (by omega), key 4 (by omega), List.getElem?_eq_getElem hi2, List.getElem_mem hi2⟩
theorem RD.val {ls : List Dl} (h : RD w B A n ls) {i : Nat} (hi : i < n) : ∃ b o x, A = some ⟨b, o, none⟩ ∧ b < B ∧ w.cell? ⟨b, o + i * 5, none⟩ = some (.bool x.put) ∧ w.cell? ⟨b, o + i * 5 + 1, none⟩ = some (.int .i64 x.v) ∧ w.cell? ⟨b, o + i * 5 + 2, none⟩ = some (.int .i64 x.early) ∧ w.cell? ⟨b, o + i * 5 + 3, none⟩ = some (.int .i64 x.late) ∧
    w.cell? ⟨b, o + i * 5 + 4, none⟩ = some (.bool x.opn) ∧ Hid (ls[i]? = some x) ∧ x ∈ ls := by
  have hl := h.len
  have hi2 : i < ls.length := by omega
  obtain ⟨b, o, hA, hb, hc⟩ := Rd.at_ h (by omega)
  have key : ∀ j, j < 5 → w.cell? ⟨b, o + i * 5 + j, none⟩ = (dlV ls[i])[j]? := fun j hj => by
    rw [Nat.add_assoc, hc _ (by omega), flatMap_at dlV_len ls i j _ (List.getElem?_eq_getElem hi2) hj]
  exact ⟨b, o, ls[i], hA, hb, key 0 (by omega), key 1 (by omega), key 2 (by omega), key 3 (by omega), key 4 (by omega), List.getElem?_eq_getElem hi2, List.getElem_mem hi2⟩
end
def inA (a : Ac) : Prop := inW a.b ∧ inW a.e ∧ inW a.v ∧ inW a.add
def inD (a : Dl) : Prop := inW a.v ∧ inW a.early ∧ inW a.late
section
variable {H : Type} {enc : TypeId × Value → H} {P : Program} {W : World}
/-- A slice of operations that came in. -/
theorem open_RA {t e i y : TypeId} {f0 f1 f2 f3 f4 : Field} {a : Option Addr} {len cap : Nat} {d : DataW H} {p : List MemPlace} (ht : P.underlying t = some (.slice e)) (he : P.underlying e = some (.struct #[f0, f1, f2, f3, f4])) (hc : P.cellsOf e = 5)
    (hi : P.underlying i = some (.int .i64)) (hci : P.cellsOf i = 1) (hy : P.underlying y = some .bool) (hcy : P.cellsOf y = 1) (hf : [f0, f1, f2, f3, f4].map (fun f => (f.type, f.offset)) = [(i, 0), (i, 1), (y, 2), (i, 3), (i, 4)])
    (h : DataW.Trod enc P W 0 (fun _ => true) true t (.slice a len cap) d p) :
    ∃ fs : List Ac, RA W W.heap.size a len fs ∧ (∀ f ∈ fs, inA f) ∧ len ≤ cap ∧ ((len = 0 ∧ d = .nil) ∨ ∃ el sp, d = .slice el sp ∧ el.length = len) := by
  obtain ⟨rows, hr, hl, hrow, hlc, hd⟩ := open_rows ht hc (by decide) h
  simp only [List.map_cons, List.map_nil, List.cons.injEq, Prod.mk.injEq, and_true] at hf
  obtain ⟨⟨e0, o0⟩, ⟨e1, o1⟩, ⟨e2, o2⟩, ⟨e3, o3⟩, e4, o4⟩ := hf
  obtain ⟨fs, rfl, hp⟩ := map_of (f := acV) (p := inA) rows (by
      intro r hr
      obtain ⟨hlr, y', n, hy'⟩ := hrow r hr
      obtain ⟨xs, m, _, _, hlen, hlx, hfx⟩ := DataW.trod_struct he hy'
      have hjx : ∀ (j : Nat) (f : Field), #[f0, f1, f2, f3, f4][j]? = some f → j < xs.length := fun j f hj => by
        have := (Array.getElem?_eq_some_iff.1 hj).1
        simp at this hlx; omega
      have g : ∀ (j : Nat) (f : Field), #[f0, f1, f2, f3, f4][j]? = some f → f.type = i → ∃ v, (r.drop f.offset).take 1 = [.int .i64 v] ∧ inW v := by
        intro j f hj hfi
        have h0 := hfx j f hj
        rw [List.getElem?_eq_getElem (hjx j f hj), hfi, hci] at h0
        obtain ⟨u, hu, _, wu⟩ := DataW.trod_int hi h0
        exact ⟨u, hu, bounds_i64 wu⟩
      have gb : ∀ (j : Nat) (f : Field), #[f0, f1, f2, f3, f4][j]? = some f → f.type = y → ∃ v, (r.drop f.offset).take 1 = [.bool v] := by
        intro j f hj hfi
        have h0 := hfx j f hj
        rw [List.getElem?_eq_getElem (hjx j f hj), hfi, hcy] at h0
        obtain ⟨u, hu, _⟩ := DataW.trod_bool hy h0
        exact ⟨u, hu⟩
      obtain ⟨v0, h0, w0⟩ := g 0 f0 rfl e0
      obtain ⟨v1, h1, w1⟩ := g 1 f1 rfl e1
      obtain ⟨v2, h2⟩ := gb 2 f2 rfl e2
      obtain ⟨v3, h3, w3⟩ := g 3 f3 rfl e3
      obtain ⟨v4, h4, w4⟩ := g 4 f4 rfl e4
      rw [o0] at h0; rw [o1] at h1; rw [o2] at h2; rw [o3] at h3; rw [o4] at h4
      match r, hlr with
      | [c0, c1, c2, c3, c4], _ =>
        simp at h0 h1 h2 h3 h4
        exact ⟨⟨v0, v1, v2, v3, v4⟩, by simp [acV, h0, h1, h2, h3, h4], w0, w1, w3, w4⟩)
  refine ⟨fs, ?_, hp, hlc, hd⟩
  have : fs.flatMap acV = (fs.map acV).flatten := by simp [List.flatMap]
  unfold RA
  rw [this]
  exact hr
/-- A slice of deals that came in. -/
theorem open_RD {t e i y : TypeId} {f0 f1 f2 f3 f4 : Field} {a : Option Addr} {len cap : Nat} {d : DataW H} {p : List MemPlace} (ht : P.underlying t = some (.slice e)) (he : P.underlying e = some (.struct #[f0, f1, f2, f3, f4])) (hc : P.cellsOf e = 5)
    (hi : P.underlying i = some (.int .i64)) (hci : P.cellsOf i = 1) (hy : P.underlying y = some .bool) (hcy : P.cellsOf y = 1) (hf : [f0, f1, f2, f3, f4].map (fun f => (f.type, f.offset)) = [(y, 0), (i, 1), (i, 2), (i, 3), (y, 4)])
    (h : DataW.Trod enc P W 0 (fun _ => true) true t (.slice a len cap) d p) :
    ∃ fs : List Dl, RD W W.heap.size a len fs ∧ (∀ f ∈ fs, inD f) ∧ len ≤ cap ∧ ((len = 0 ∧ d = .nil) ∨ ∃ el sp, d = .slice el sp ∧ el.length = len) := by
  obtain ⟨rows, hr, hl, hrow, hlc, hd⟩ := open_rows ht hc (by decide) h
  simp only [List.map_cons, List.map_nil, List.cons.injEq, Prod.mk.injEq, and_true] at hf
  obtain ⟨⟨e0, o0⟩, ⟨e1, o1⟩, ⟨e2, o2⟩, ⟨e3, o3⟩, e4, o4⟩ := hf
  obtain ⟨fs, rfl, hp⟩ := map_of (f := dlV) (p := inD) rows (by
      intro r hr
      obtain ⟨hlr, y', n, hy'⟩ := hrow r hr
      obtain ⟨xs, m, _, _, hlen, hlx, hfx⟩ := DataW.trod_struct he hy'
      have hjx : ∀ (j : Nat) (f : Field), #[f0, f1, f2, f3, f4][j]? = some f → j < xs.length := fun j f hj => by
        have := (Array.getElem?_eq_some_iff.1 hj).1
        simp at this hlx; omega
      have g : ∀ (j : Nat) (f : Field), #[f0, f1, f2, f3, f4][j]? = some f → f.type = i → ∃ v, (r.drop f.offset).take 1 = [.int .i64 v] ∧ inW v := by
        intro j f hj hfi
        have h0 := hfx j f hj
        rw [List.getElem?_eq_getElem (hjx j f hj), hfi, hci] at h0
        obtain ⟨u, hu, _, wu⟩ := DataW.trod_int hi h0
        exact ⟨u, hu, bounds_i64 wu⟩
      have gb : ∀ (j : Nat) (f : Field), #[f0, f1, f2, f3, f4][j]? = some f → f.type = y → ∃ v, (r.drop f.offset).take 1 = [.bool v] := by
        intro j f hj hfi
        have h0 := hfx j f hj
        rw [List.getElem?_eq_getElem (hjx j f hj), hfi, hcy] at h0
        obtain ⟨u, hu, _⟩ := DataW.trod_bool hy h0
        exact ⟨u, hu⟩
      obtain ⟨v0, h0⟩ := gb 0 f0 rfl e0
      obtain ⟨v1, h1, w1⟩ := g 1 f1 rfl e1
      obtain ⟨v2, h2, w2⟩ := g 2 f2 rfl e2
      obtain ⟨v3, h3, w3⟩ := g 3 f3 rfl e3
      obtain ⟨v4, h4⟩ := gb 4 f4 rfl e4
      rw [o0] at h0; rw [o1] at h1; rw [o2] at h2; rw [o3] at h3; rw [o4] at h4
      match r, hlr with
      | [c0, c1, c2, c3, c4], _ =>
        simp at h0 h1 h2 h3 h4
        exact ⟨⟨v0, v1, v2, v3, v4⟩, by simp [dlV, h0, h1, h2, h3, h4], w1, w2, w3⟩)
  refine ⟨fs, ?_, hp, hlc, hd⟩
  have : fs.flatMap dlV = (fs.map dlV).flatten := by simp [List.flatMap]
  unfold RD
  rw [this]
  exact hr
end
end Go.Baro
