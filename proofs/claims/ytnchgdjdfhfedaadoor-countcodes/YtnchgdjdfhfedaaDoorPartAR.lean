/- Of this claim's own texts these, one behind the other: CountSpec, CuSpec, LinPure2. No statement of the seat is proved here; no condition but those that stand at the theorems. -/
import Derived.Test.YtnchgdjdfhfedaaDoorPartAQ
import Derived.Test.YtnchgdjdfhfedaaDoorPartAP
set_option linter.unusedSimpArgs false
set_option linter.unusedVariables false
namespace Go.Baro
open Go.RowKit (wrap64)
/-- The i-th call of count's machine. -/
def cntN (by_ : List Int) (i : Nat) : Int := (by_[i]?.getD 0) % 6
def cntC (by_ : List Int) (i : Nat) : Cl := if 0 < cntN by_ i then ⟨0, [cntN by_ i]⟩ else ⟨1, []⟩
def cntT (by_ : List Int) (t : Nat) : List Cl := [cntC by_ t, cntC by_ (t + 3), cntC by_ (t + 6)]
/-- Count: the words and the two codes. -/
structure Cu where
  ws : List Int
  ca : List Ins
  cg : List Ins
def mCount (c : Cu) (by_ : List Int) : Mc := ⟨c.ws, [c.ca, c.cg], [cntT by_ 0, cntT by_ 1, cntT by_ 2]⟩
def mCount4 (c : Cu) (by_ : List Int) : Mc := ⟨c.ws, [c.ca, c.cg], [cntT by_ 0, cntT by_ 1, cntT by_ 2, [⟨1, []⟩]]⟩
/-- The calls of a thread that adds and gets in turn. -/
def tlsN (by_ : List Int) (i : Nat) : Int := if i < by_.length then by_[i]?.getD 0 else 1
def tlsT (by_ : List Int) (j : Nat) : List Cl := (List.range j).flatMap fun i => [⟨0, [tlsN by_ i]⟩, ⟨1, []⟩]
def mTells (c : Cu) (by_ : List Int) : Mc := ⟨c.ws, [c.ca, c.cg], [tlsT by_ 9]⟩
/-- A call of a run as an operation on a number. -/
def cntA (m : Mc) (d : Dg) : Ac :=
  match (m.ts[d.th]?.getD [])[d.cl]? with
  | some c => ⟨d.b, d.e, decide (c.k = 0), if d.e = -1 then 0 else d.to.headD 0, if c.k = 0 then c.ar.headD 0 else 0⟩
  | none => ⟨d.b, d.e, false, 0, 0⟩
def CountLinD (c : Cu) : Prop := ∀ (by_ : List Int) (S : List Nat), S.length ≤ 400 → (∀ x ∈ S, x < 3) →
  noErr (plyG (mCount c by_) 0 S (g0 (mCount c by_))) ∧ (∀ d ∈ dgs (plyG (mCount c by_) 0 S (g0 (mCount c by_))).out, (d.e ≠ -1 → d.to.length = 1) ∧ d.th < 3 ∧ d.cl < 3) ∧ (dgs (plyG (mCount c by_) 0 S (g0 (mCount c by_))).out).length ≤ 9 ∧
  Lin 2 [0] ((dgs (plyG (mCount c by_) 0 S (g0 (mCount c by_))).out).map (cntA (mCount c by_)))
/-- The schedule of CountAll. -/
def allS (S : List Nat) : List Nat := S ++ List.replicate 200 0 ++ List.replicate 200 1 ++ List.replicate 200 2 ++ List.replicate 60 3
def CountAllD (c : Cu) : Prop := ∀ (by_ : List Int) (S : List Nat), S.length ≤ 300 → (∀ x ∈ S, x < 3) →
  noErr (plyG (mCount4 c by_) 0 (allS S) (g0 (mCount4 c by_))) ∧ (dgs (plyG (mCount4 c by_) 0 (allS S) (g0 (mCount4 c by_))).out).length = 10 ∧
  (∀ d ∈ dgs (plyG (mCount4 c by_) 0 (allS S) (g0 (mCount4 c by_))).out, d.e ≠ -1 ∧ d.to.length = 1) ∧
  (dgs (plyG (mCount4 c by_) 0 (allS S) (g0 (mCount4 c by_))).out).Pairwise (fun a b => (cntA (mCount4 c by_) a).put = true → (cntA (mCount4 c by_) b).put = true → a.to.headD 0 ≠ b.to.headD 0) ∧
  (∃ d ∈ dgs (plyG (mCount4 c by_) 0 (allS S) (g0 (mCount4 c by_))).out, d.th = 3) ∧
  ∀ d ∈ dgs (plyG (mCount4 c by_) 0 (allS S) (g0 (mCount4 c by_))).out, d.th = 3 → d.to.headD 0 = ((dgs (plyG (mCount4 c by_) 0 (allS S) (g0 (mCount4 c by_))).out).map fun d => (cntA (mCount4 c by_) d).add).sum
/-- The sums that a thread is told. -/
def wantN (by_ : List Int) (i : Nat) : Int := (List.range i).foldl (fun s j => wrap64 (s + tlsN by_ j)) 0
def CountTellsD (c : Cu) : Prop := ∀ (by_ : List Int), (∀ x ∈ by_, wrap64 x = x) →
  noErr (plyG (mTells c by_) 0 (List.replicate 1080 0) (g0 (mTells c by_))) ∧ (dgs (plyG (mTells c by_) 0 (List.replicate 1080 0) (g0 (mTells c by_))).out).length = 18 ∧
  ∀ (i : Nat) d, (dgs (plyG (mTells c by_) 0 (List.replicate 1080 0) (g0 (mTells c by_))).out)[i]? = some d → d.e ≠ -1 ∧ d.to = [wantN by_ ((i + 1) / 2)]
end Go.Baro

set_option linter.unusedSimpArgs false
set_option linter.unusedVariables false
namespace Go.Proofs.YtnchgdjdfhfedaaDoor
open Go.RowKit Go.Ord Go.Baro

/-- A function without an argument that gives words, or a code. -/
def W0Spec (F : FuncId) (ws : List Int) : Prop := ∀ (w : World) (hT : Tab w), Calls Tryd.prog F #[] w fun e w' => (∃ A n k, e = .returned (.slice A n k) ∧ n ≤ k ∧ k ≤ 9223372036854775807 ∧ QT w' 3 1 A n (ws.map (Value.int .i64))) ∧ Below w.heap.size w w'
def C0Spec (F : FuncId) (c : List Ins) : Prop := ∀ (w : World) (hT : Tab w), Calls Tryd.prog F #[] w fun e w' => (∃ A n k, e = .returned (.slice A n k) ∧ n ≤ k ∧ k ≤ 9223372036854775807 ∧ QT w' 73 5 A n (cellsO c)) ∧ Below w.heap.size w w'
structure CuOk (c : Cu) : Prop where
  w0 : 0 < c.ws.length
  w1 : c.ws.length ≤ 64
  wi : ∀ x ∈ c.ws, inW x
  a0 : 0 < c.ca.length
  ac : okC c.ca
  ai : ∀ o ∈ c.ca, inI o
  g0 : 0 < c.cg.length
  gc : okC c.cg
  gi : ∀ o ∈ c.cg, inI o
end Go.Proofs.YtnchgdjdfhfedaaDoor

set_option linter.unusedSimpArgs false
set_option linter.unusedVariables false
namespace Go.Baro
open Go.RowKit (wrap64)

theorem perm_erase {α : Type} {l : List α} {i : Nat} {a : α} (h : l[i]? = some a) : l.Perm (a :: l.eraseIdx i) := by
  obtain ⟨hi, rfl⟩ := List.getElem?_eq_some_iff.1 h
  rw [List.eraseIdx_eq_take_drop_succ]
  conv => lhs; rw [← List.take_append_drop i l, List.drop_eq_getElem_cons hi]
  exact List.perm_middle
/-- Who comes first. -/
theorem lin_iff {k : Int} {has : List Int} {left : List Ac} : Lin k has left ↔ (∀ a ∈ left, a.e = -1) ∨ ∃ i a, left[i]? = some a ∧ (∀ b ∈ left, b.e ≠ -1 → a.b ≤ b.e) ∧ (a.e ≠ -1 → (tel k has a).1 = a.v) ∧ Lin k (tel k has a).2 (left.eraseIdx i) := by
  refine ⟨fun h => ?_, fun h => ?_⟩
  · cases h with
    | done h => exact .inl h
    | step a rest hp hf ht h =>
      obtain ⟨i, hi, he⟩ := List.getElem_of_mem (hp.mem_iff.2 (List.mem_cons_self (a := a) (l := rest)))
      have hi2 : left[i]? = some a := by rw [List.getElem?_eq_getElem hi, he]
      exact .inr ⟨i, a, hi2, hf, ht, h.perm (List.Perm.cons_inv (hp.symm.trans (perm_erase hi2)))⟩
  · rcases h with h | ⟨i, a, hi, hf, ht, h⟩
    · exact .done h
    · exact .step a _ (perm_erase hi) hf ht h
/-- Of another value that is read, taken or was there the run does not tell. -/
theorem tel_v {k : Int} {has : List Int} {a : Ac} (h : k = 2 ∨ a.put = false) (v : Int) : tel k has { a with v := v } = tel k has a := by
  unfold tel
  rcases h with h | h
  · subst h; simp
  · simp [h]
theorem runs_not {k : Int} {v : Int} : ∀ (l : List Ac) (has : List Int) (i : Nat) (a : Ac), runs k has l → l[i]? = some a → (k = 2 ∨ a.put = false) → v ≠ a.v → ¬ runs k has (l.set i { a with v := v })
  | [], has, i, a, _, h, _, _ => by simp at h
  | c :: l, has, 0, a, hr, h, hk, hv => by
    simp only [List.getElem?_cons_zero, Option.some.injEq] at h
    subst h
    intro hn
    have h1 := hn.1
    rw [tel_v hk] at h1
    exact hv (h1.symm.trans hr.1)
  | c :: l, has, i + 1, a, hr, h, hk, hv => fun hn => runs_not l _ i a hr.2 (by simpa using h) hk hv hn.2
theorem runs_map {k : Int} {f : Ac → Ac} (hf : ∀ a, (f a).put = a.put ∧ (f a).v = a.v ∧ (f a).add = a.add) : ∀ (l : List Ac) (has : List Int), runs k has l → runs k has (l.map f)
  | [], _, _ => trivial
  | a :: l, has, h => by
    have e : tel k has (f a) = tel k has a := by unfold tel; rw [(hf a).1, (hf a).2.1, (hf a).2.2]
    exact ⟨by rw [e, (hf a).2.1]; exact h.1, by rw [e]; exact runs_map hf l _ h.2⟩
/-- A deal: put, a value, how much earlier, how much later, not ended. -/
structure Dl where
  put : Bool
  v : Int
  early : Int
  late : Int
  opn : Bool
/-- What the object tells, what is added, what it has then. -/
def tl (k : Int) (has : List Int) (put : Bool) (v : Int) : Int × Int × List Int :=
  if k = 1 then (if put = true then (v, 0, [v]) else (has.headD 0, 0, has))
  else if k = 2 then (if put = true then (has.headD 0, v, [wrap64 (has.headD 0 + v)]) else (has.headD 0, 0, has))
  else if put = true then (v, 0, has ++ [v])
  else if has = [] then (-1, 0, has)
  else if k = 3 then (has.headD 0, 0, has.tail)
  else (has.getLastD 0, 0, has.dropLast)
def acT (i : Nat) (d : Dl) (wide : Bool) (v add : Int) : Ac :=
  ⟨100 + 10 * i - (if wide = true then d.early % 40 else 0), if wide = true then (if d.opn = true then -1 else 105 + 10 * i + d.late % 40) else 105 + 10 * i, d.put, v, add⟩
def sqA (k : Int) (wide : Bool) : Nat → List Int → List Dl → List Ac
  | _, _, [] => []
  | i, has, d :: l => acT i d wide (tl k has d.put (d.v % 4)).1 (tl k has d.put (d.v % 4)).2.1 :: sqA k wide (i + 1) (tl k has d.put (d.v % 4)).2.2 l
/-- Of a register and a counter one number is there. -/
def okH (k : Int) (has : List Int) : Prop := k = 2 → ∃ x, has = [x] ∧ wrap64 x = x
theorem wrap_twice (x : Int) : wrap64 (wrap64 x) = wrap64 x := by unfold wrap64; omega
theorem tl_ok {k : Int} {has : List Int} (h : okH k has) (put : Bool) (v : Int) : okH k (tl k has put v).2.2 := by
  intro hk
  obtain ⟨x, rfl, hx⟩ := h hk
  subst hk
  unfold tl
  rw [if_neg (by decide), if_pos rfl]
  cases put with
  | true => exact ⟨_, rfl, wrap_twice _⟩
  | false => exact ⟨x, rfl, hx⟩
theorem tel_tl {k : Int} {has : List Int} (h : okH k has) (i : Nat) (d : Dl) (wide : Bool) : tel k has (acT i d wide (tl k has d.put (d.v % 4)).1 (tl k has d.put (d.v % 4)).2.1) = ((tl k has d.put (d.v % 4)).1, (tl k has d.put (d.v % 4)).2.2) := by
  unfold tel tl acT
  dsimp only
  by_cases h1 : k = 1
  · rw [if_pos h1, if_pos h1]; cases d.put <;> rfl
  · rw [if_neg h1, if_neg h1]
    by_cases h2 : k = 2
    · rw [if_pos h2, if_pos h2]
      obtain ⟨x, rfl, hx⟩ := h h2
      cases d.put with
      | true => rfl
      | false => simp [hx]
    · rw [if_neg h2, if_neg h2]
      cases d.put with
      | true => rfl
      | false =>
        simp only [Bool.false_eq_true, if_false]
        split
        · rfl
        · split <;> rfl
theorem sq_runs (k : Int) (wide : Bool) : ∀ (l : List Dl) (i : Nat) (has : List Int), okH k has → runs k has (sqA k wide i has l)
  | [], _, _, _ => trivial
  | d :: l, i, has, h => by
    have e := tel_tl h i d wide
    refine ⟨by rw [e]; rfl, ?_⟩
    rw [e]
    exact sq_runs k wide l (i + 1) _ (tl_ok h _ _)
/-- When they begin and end. -/
theorem sq_at (k : Int) (wide : Bool) : ∀ (l : List Dl) (i : Nat) (has : List Int) (a : Ac), a ∈ sqA k wide i has l → ∃ j : Nat, i ≤ j ∧ 100 + 10 * (j : Int) - 40 < a.b ∧ a.b ≤ 100 + 10 * (j : Int) ∧ (a.e = -1 ∨ 105 + 10 * (j : Int) ≤ a.e)
  | [], _, _, a, h => by simp [sqA] at h
  | d :: l, i, has, a, h => by
    rcases List.mem_cons.1 h with h | h
    · refine ⟨i, Nat.le_refl _, ?_⟩
      subst h
      unfold acT
      dsimp only
      cases wide with
      | false => simp; omega
      | true =>
        simp only [if_true]
        cases d.opn with
        | true => simp; omega
        | false => simp; omega
    · obtain ⟨j, h1, h2⟩ := sq_at k wide l (i + 1) _ a h
      exact ⟨j, by omega, h2⟩
theorem sq_self (k : Int) (wide : Bool) (l : List Dl) (i : Nat) (has : List Int) : ∀ a ∈ sqA k wide i has l, a.e ≠ -1 → a.b ≤ a.e := by
  intro a ha he
  obtain ⟨j, _, _, h1, h2⟩ := sq_at k wide l i has a ha
  omega
theorem sq_pair (k : Int) (wide : Bool) : ∀ (l : List Dl) (i : Nat) (has : List Int), (sqA k wide i has l).Pairwise (fun a b => b.e ≠ -1 → a.b ≤ b.e)
  | [], _, _ => List.Pairwise.nil
  | d :: l, i, has => by
    unfold sqA
    rw [List.pairwise_cons]
    refine ⟨fun b hb he => ?_, sq_pair k wide l (i + 1) _⟩
    obtain ⟨j, h0, _, _, h2⟩ := sq_at k wide l (i + 1) _ b hb
    have : (acT i d wide (tl k has d.put (d.v % 4)).1 (tl k has d.put (d.v % 4)).2.1).b ≤ 100 + 10 * (i : Int) := by
      unfold acT
      dsimp only
      cases wide <;> simp <;> omega
    omega
/-- A history that went one behind the other, also with other times, can be put in order. -/
theorem sq_lin {k : Int} {has : List Int} (h : okH k has) (wide : Bool) (l : List Dl) (i : Nat) : Lin k has (sqA k wide i has l) := lin_seq (sq_runs k wide l i has h) (sq_pair k wide l i has) (sq_self k wide l i has)
theorem sq_strict (k : Int) : ∀ (l : List Dl) (i : Nat) (has : List Int), (sqA k false i has l).Pairwise (fun a b => a.e < b.b) ∧ ∀ a ∈ sqA k false i has l, a.e ≠ -1 ∧ 100 + 10 * (i : Int) ≤ a.b
  | [], _, _ => ⟨List.Pairwise.nil, by simp [sqA]⟩
  | d :: l, i, has => by
    obtain ⟨h1, h2⟩ := sq_strict k l (i + 1) (tl k has d.put (d.v % 4)).2.2
    unfold sqA
    refine ⟨List.pairwise_cons.2 ⟨fun b hb => ?_, h1⟩, fun a ha => ?_⟩
    · have := (h2 b hb).2
      unfold acT
      simp
      omega
    · rcases List.mem_cons.1 ha with rfl | ha
      · unfold acT; simp; omega
      · have := h2 a ha; omega
/-- With another value it cannot. -/
theorem sq_tells {k : Int} {has : List Int} (h : okH k has) (l : List Dl) (i j : Nat) {a : Ac} {v : Int} (ha : (sqA k false i has l)[j]? = some a) (hk : k = 2 ∨ a.put = false) (hv : v ≠ a.v) : ¬ Lin k has ((sqA k false i has l).set j { a with v := v }) := by
  intro hl
  obtain ⟨h1, h2⟩ := sq_strict k l i has
  refine runs_not _ has j a (sq_runs k false l i has h) ha hk hv (lin_only _ has hl ?_ ?_)
  · rw [List.pairwise_iff_getElem] at h1 ⊢
    intro p q hp hq hpq
    simp only [List.length_set] at hp hq
    have hh := h1 p q hp hq hpq
    have hx : ∀ (p : Nat) (hp : p < (sqA k false i has l).length), ((sqA k false i has l).set j { a with v := v })[p]'(by simpa using hp) = (sqA k false i has l)[p] ∨ (((sqA k false i has l).set j { a with v := v })[p]'(by simpa using hp) = { a with v := v } ∧ (sqA k false i has l)[p] = a) := by
      intro p hp
      rw [List.getElem_set]
      by_cases hjp : j = p
      · subst hjp
        rw [if_pos rfl]
        rw [List.getElem?_eq_getElem hp] at ha
        exact .inr ⟨rfl, Option.some.inj ha⟩
      · rw [if_neg hjp]; exact .inl rfl
    rcases hx p hp with e1 | ⟨e1, e1'⟩ <;> rcases hx q hq with e2 | ⟨e2, e2'⟩
    · rw [e1, e2]; exact hh
    · rw [e1, e2]; rw [e2'] at hh; exact hh
    · rw [e1, e2]; rw [e1'] at hh; exact hh
    · rw [e1, e2]; rw [e1', e2'] at hh; exact hh
  · intro c hc
    rcases List.mem_or_eq_of_mem_set hc with hc | rfl
    · exact (h2 c hc).1
    · exact (h2 a (List.mem_of_getElem? ha)).1
/-- The beginning of a history, up to time t. -/
def cutA (t : Int) (a : Ac) : Ac := { a with e := if t < a.e then -1 else a.e }
def partA (t : Int) (l : List Ac) : List Ac := (l.filter fun a => decide (a.b ≤ t)).map (cutA t)
theorem sq_part {k : Int} {wide : Bool} {t : Int} : ∀ (l : List Dl) (i : Nat) (has : List Int), okH k has → Lin k has (partA t (sqA k wide i has l)) := by
  have key : ∀ (l : List Dl) (i : Nat) (has : List Int), okH k has → ∃ l1 l2, partA t (sqA k wide i has l) = l1 ++ l2 ∧ runs k has l1 ∧ l1.Pairwise (fun a b => b.e ≠ -1 → a.b ≤ b.e) ∧ (∀ a ∈ l1, a.e ≠ -1 → a.b ≤ a.e) ∧ (∀ a ∈ l2, a.e = -1) ∧ ∀ a ∈ l1, a.e = -1 ∨ 105 + 10 * (i : Int) ≤ a.e := by
    intro l
    induction l with
    | nil => intro i has h; exact ⟨[], [], rfl, trivial, List.Pairwise.nil, by simp, by simp, by simp⟩
    | cons d l ih =>
      intro i has h
      have hb : (acT i d wide (tl k has d.put (d.v % 4)).1 (tl k has d.put (d.v % 4)).2.1).b ≤ 100 + 10 * (i : Int) := by
        unfold acT
        dsimp only
        cases wide <;> simp <;> omega
      have hself := sq_self k wide (d :: l) i has _ (List.mem_cons_self)
      have hself2 := sq_at k wide (d :: l) i has _ (List.mem_cons_self)
      obtain ⟨l1, l2, e1, e2, e3, e4, e5, e6⟩ := ih (i + 1) _ (tl_ok h d.put (d.v % 4))
      have htel := tel_tl h i d wide
      unfold sqA
      generalize hA : acT i d wide (tl k has d.put (d.v % 4)).1 (tl k has d.put (d.v % 4)).2.1 = A at hb hself hself2 htel ⊢
      by_cases hAt : A.b ≤ t
      · refine ⟨cutA t A :: l1, l2, ?_, ?_, ?_, ?_, e5, ?_⟩
        · unfold partA at e1 ⊢
          rw [List.filter_cons_of_pos (by simpa using hAt), List.map_cons, e1, List.cons_append]
        · have e : tel k has (cutA t A) = tel k has A := rfl
          refine ⟨by rw [e, htel, ← hA]; rfl, by rw [e, htel]; exact e2⟩
        · rw [List.pairwise_cons]
          refine ⟨fun b hb2 hb3 => ?_, e3⟩
          rcases e6 b hb2 with h1 | h1
          · exact absurd h1 hb3
          · show A.b ≤ b.e
            omega
        · intro a ha ha2
          rcases List.mem_cons.1 ha with rfl | ha
          · unfold cutA at ha2 ⊢
            dsimp only at ha2 ⊢
            split at ha2
            · exact absurd rfl ha2
            · rename_i hh
              rw [if_neg hh]
              exact hself ha2
          · exact e4 a ha ha2
        · intro a ha
          rcases List.mem_cons.1 ha with rfl | ha
          · unfold cutA
            dsimp only
            split
            · exact .inl rfl
            · rw [← hA]
              unfold acT
              dsimp only
              cases wide with
              | false => simp
              | true => cases d.opn <;> simp <;> omega
          · rcases e6 a ha with h1 | h1
            · exact .inl h1
            · right; omega
      · refine ⟨[], l1 ++ l2, ?_, trivial, List.Pairwise.nil, by simp, ?_, by simp⟩
        · unfold partA at e1 ⊢
          rw [List.filter_cons_of_neg (by simpa using hAt), e1, List.nil_append]
        · intro a ha
          rcases List.mem_append.1 ha with ha1 | ha
          · rcases e6 a ha1 with h1 | h1
            · exact h1
            · have hm : a ∈ partA t (sqA k wide (i + 1) (tl k has d.put (d.v % 4)).2.2 l) := by rw [e1]; exact ha
              unfold partA at hm
              obtain ⟨c, hc, rfl⟩ := List.mem_map.1 hm
              unfold cutA at h1 ⊢
              dsimp only at h1 ⊢
              split at h1
              · rename_i hh; rw [if_pos hh]
              · rename_i hh; omega
          · exact e5 a ha
  intro l i has h
  obtain ⟨l1, l2, e1, e2, e3, e4, e5, _⟩ := key l i has h
  rw [e1]
  exact lin_part e5 l1 has e2 e3 e4
end Go.Baro
