/- Of this claim's own texts these, one behind the other: VmMemO, LibMid, MachT, KeepPicked, CountSpec, CuSpec. No statement of the seat is proved here; no condition but those that stand at the theorems. -/
import Derived.Test.YtnchgdjdfhfedaaDoorPartAL
import Derived.Test.YtnchgdjdfhfedaaDoorPartAF
import Derived.Deep.MidRow
import Derived.Test.YtnchgdjdfhfedaaDoorRows
import Derived.Test.YtnchgdjdfhfedaaDoorPartAC
import Derived.Test.YtnchgdjdfhfedaaDoorPartAI
import Derived.Test.YtnchgdjdfhfedaaDoorPartAK
set_option linter.unusedSimpArgs false
set_option linter.unusedVariables false
namespace Go.Baro
open Go.RowKit

section
variable {pre c post : List Value} {i : Nat} {u : Value}
theorem mid_at (h : i < c.length) : (pre ++ (c ++ post))[pre.length + i]? = c[i]? := by
  rw [List.getElem?_append_right (by omega), Nat.add_sub_cancel_left, List.getElem?_append_left h]
theorem mid_set (h : i < c.length) : (pre ++ (c ++ post)).set (pre.length + i) u = pre ++ (c.set i u ++ post) := by
  rw [List.set_append_right _ _ (by omega), Nat.add_sub_cancel_left, List.set_append_left _ _ h]
end
/-- The thread lies in block b from cell o on; what it has told and the shared words are rows of the call's own, in two blocks from B on. -/
structure To (T I : TypeId) (pre post : List Value) (w : World) (B b o : Nat) (cv tv wv : Value) (s : Vs) : Prop where
  box : Box w b T (pre ++ (thC cv s.p s.r tv ++ post))
  off : pre.length = o
  told : w.ownsRow B I 1 tv s.t.length (s.t.map (Value.int .i64))
  words : w.ownsRow B I 1 wv s.w.length (s.w.map (Value.int .i64))
  apart : wv.ownBlock = none ∨ wv.ownBlock ≠ tv.ownBlock
  ne : I ≠ T
section
variable {T I : TypeId} {pre post : List Value} {w w' : World} {B b o : Nat} {cv tv wv : Value} {s : Vs}
theorem To.lt (h : To T I pre post w B b o cv tv wv s) : b < w.heap.size := h.box.lt
theorem To.kept (h : To T I pre post w B b o cv tv wv s) {row : Option Nat} (hg : w.grownBy w' row) (hb : some b ≠ row) (ht : ∀ k, tv.ownBlock = some k → some k ≠ row) (hw : ∀ k, wv.ownBlock = some k → some k ≠ row) : To T I pre post w' B b o cv tv wv s := by
  refine ⟨h.box.grown hg hb, h.off, h.told.kept hg ?_, h.words.kept hg ?_, h.apart, h.ne⟩
  · cases hv : tv.ownBlock with
    | none => exact .inl rfl
    | some k => exact .inr (ht k hv)
  · cases hv : wv.ownBlock with
    | none => exact .inl rfl
    | some k => exact .inr (hw k hv)
theorem To.alloc (h : To T I pre post w B b o cv tv wv s) (x : Obj) : To T I pre post (w.alloc x) B b o cv tv wv s := h.kept (World.grownBy_alloc w x none) (by simp) (by simp) (by simp)
theorem To.drewN (h : To T I pre post w B b o cv tv wv s) (n : Nat) : To T I pre post (w.drewN n) B b o cv tv wv s := ⟨h.box, h.off, h.told, h.words, h.apart, h.ne⟩
theorem To.drew (h : To T I pre post w B b o cv tv wv s) : To T I pre post w.drew B b o cv tv wv s := ⟨h.box, h.off, h.told, h.words, h.apart, h.ne⟩
theorem To.cell (h : To T I pre post w B b o cv tv wv s) {i : Nat} (hi : i < 27) : w.cell? ⟨b, o + i, none⟩ = (thC cv s.p s.r tv)[i]? := by
  have := h.box.cell (pre.length + i)
  rw [mid_at (by rw [thC_len]; exact hi), h.off] at this
  exact this
theorem To.boxed (h : To T I pre post w B b o cv tv wv s) {i : Nat} {u : Value} {q : Int} {r : Int → Int} (hi : i < 27) (hs : (thC cv s.p s.r tv).set i u = thC cv q r tv) : To T I pre post (w.setCell ⟨b, o + i, none⟩ u) B b o cv tv wv { s with p := q, r := r } := by
  have hg := grown_setCell w ⟨b, o + i, none⟩ u
  have h1 := h.box.set (pre.length + i) u
  rw [mid_set (by rw [thC_len]; exact hi), hs, h.off] at h1
  refine ⟨h1, h.off, h.told.kept hg ?_, h.words.kept hg ?_, h.apart, h.ne⟩
  · cases hv : tv.ownBlock with
    | none => exact .inl rfl
    | some k => exact .inr fun he => by have := h.box.ne h.told h.ne; rw [hv] at this; exact this he.symm
  · cases hv : wv.ownBlock with
    | none => exact .inl rfl
    | some k => exact .inr fun he => by have := h.box.ne h.words h.ne; rw [hv] at this; exact this he.symm
theorem To.next (h : To T I pre post w B b o cv tv wv s) (q : Int) : To T I pre post (w.setCell ⟨b, o + 1, none⟩ (.int .i64 q)) B b o cv tv wv { s with p := q } := h.boxed (by omega) (thC_set_p q)
theorem To.reg (h : To T I pre post w B b o cv tv wv s) {i : Nat} (hi : i < 24) (v : Int) : To T I pre post (w.setCell ⟨b, o + 2 + i, none⟩ (.int .i64 v)) B b o cv tv wv { s with r := upd s.r i v } := by
  rw [Nat.add_assoc]
  exact h.boxed (by omega) (thC_set_reg hi v)
theorem To.word (h : To T I pre post w B b o cv tv wv s) {g n c q : Nat} (hv : wv = .slice (some ⟨g, 0, none⟩) n c) (v : Int) : To T I pre post (w.setCell ⟨g, q, none⟩ (.int .i64 v)) B b o cv tv wv { s with w := s.w.set q v } := by
  subst hv
  have hl : n = s.w.length := by
    obtain ⟨A, c', he, _⟩ := own_form h.words
    injection he
  subst hl
  have hst := World.ownsRow.stored h.words q (.int .i64 v)
  refine ⟨h.box.grown hst.2 (h.box.ne h.words h.ne), h.off, h.told.kept hst.2 ?_, ?_, h.apart, h.ne⟩
  · cases ht : tv.ownBlock with
    | none => exact .inl rfl
    | some k =>
      refine .inr fun he => ?_
      rcases h.apart with ha | ha
      · cases ha
      · rw [ht] at ha; exact ha he.symm
  · have := hst.1
    rw [← List.map_set] at this
    show World.ownsRow _ _ _ _ _ (s.w.set q v).length _
    rw [List.length_set]
    exact this
theorem To.tell (h : To T I pre post w B b o cv tv wv s) {v' : Value} {x : Int} {m : Nat} {ob : Obj} (hg : (w.alloc ob).grownBy w' tv.ownBlock) (ho : w'.ownsRow B I 1 v' m (s.t.map (Value.int .i64) ++ [.int .i64 x])) (hm : m = s.t.length + 1)
    (hb : v'.ownBlock = tv.ownBlock ∨ v'.ownBlock = some (w.alloc ob).heap.size) : Box w' b T (pre ++ (thC cv s.p s.r tv ++ post)) ∧ To T I pre post (w'.setCell ⟨b, o + 26, none⟩ v') B b o cv v' wv { s with t := s.t ++ [x] } := by
  have hb1 := (h.box.alloc ob).grown hg (h.box.ne h.told h.ne)
  have hg2 := grown_setCell w' ⟨b, o + 26, none⟩ v'
  have hw1 : w'.ownsRow B I 1 wv s.w.length (s.w.map (Value.int .i64)) := (h.words.alloc ob).kept hg h.apart
  refine ⟨hb1, ?_, h.off, ?_, ?_, ?_, h.ne⟩
  · have := hb1.set (pre.length + 26) v'
    rw [mid_set (by rw [thC_len]; omega), thC_set_told, h.off] at this
    exact this
  · show World.ownsRow _ _ _ _ _ (s.t ++ [x]).length _
    rw [List.length_append, List.length_singleton, ← hm, List.map_append]
    refine ho.kept hg2 ?_
    cases hv : v'.ownBlock with
    | none => exact .inl rfl
    | some k => exact .inr fun he => by have := hb1.ne ho h.ne; rw [hv] at this; exact this he.symm
  · refine hw1.kept hg2 ?_
    cases hv : wv.ownBlock with
    | none => exact .inl rfl
    | some k => exact .inr fun he => by have := hb1.ne hw1 h.ne; rw [hv] at this; exact this he.symm
  · rcases hb with hb | hb
    · rw [hb]; exact h.apart
    · rw [hb]
      cases hv : wv.ownBlock with
      | none => exact .inl rfl
      | some k =>
        refine .inr fun he => ?_
        have := (h.words.lt _ hv).2
        injection he with he
        simp at he
        omega
theorem To.tellB (h : To T I pre post w B b o cv tv wv s) {v' : Value} {x : Int} {m : Nat} (hB : B ≤ w.heap.size) (hb : Below w.heap.size w w') (ho : w'.ownsRow w.heap.size I 1 v' m (s.t.map (Value.int .i64) ++ [.int .i64 x])) (hm : m = s.t.length + 1) :
    Box w' b T (pre ++ (thC cv s.p s.r tv ++ post)) ∧ To T I pre post (w'.setCell ⟨b, o + 26, none⟩ v') B b o cv v' wv { s with t := s.t ++ [x] } ∧ ∃ k, v'.ownBlock = some k ∧ w.heap.size ≤ k := by
  have hb1 : Box w' b T _ := (hb.block b h.lt).trans h.box
  have hg2 := grown_setCell w' ⟨b, o + 26, none⟩ v'
  have hw1 : w'.ownsRow B I 1 wv s.w.length (s.w.map (Value.int .i64)) := own_below h.words hb
  have hv' : ∃ k, v'.ownBlock = some k ∧ w.heap.size ≤ k := by
    rcases ho.2 with ⟨_, h0⟩ | ⟨g, cap, cur, rfl, hg, _⟩
    · omega
    · exact ⟨g, rfl, hg⟩
  obtain ⟨k', hk1, hk2⟩ := hv'
  refine ⟨hb1, ⟨?_, h.off, ?_, ?_, ?_, h.ne⟩, k', hk1, hk2⟩
  · have := hb1.set (pre.length + 26) v'
    rw [mid_set (by rw [thC_len]; omega), thC_set_told, h.off] at this
    exact this
  · show World.ownsRow _ _ _ _ _ (s.t ++ [x]).length _
    rw [List.length_append, List.length_singleton, ← hm, List.map_append]
    have h2 : w'.ownsRow B I 1 v' m (s.t.map (Value.int .i64) ++ [.int .i64 x]) := by
      refine ⟨ho.1, ?_⟩
      rcases ho.2 with q | ⟨g, cap, cur, q1, q2, q3⟩
      · exact .inl q
      · exact .inr ⟨g, cap, cur, q1, by omega, q3⟩
    refine h2.kept hg2 ?_
    refine .inr fun he => ?_
    have h3 := h.lt
    rw [hk1] at he
    injection he with he
    dsimp only at he
    omega
  · refine hw1.kept hg2 ?_
    cases hv : wv.ownBlock with
    | none => exact .inl rfl
    | some k => exact .inr fun he => by have := hb1.ne hw1 h.ne; rw [hv] at this; exact this he.symm
  · cases hv : wv.ownBlock with
    | none => exact .inl rfl
    | some k =>
      refine .inr fun he => ?_
      have := (h.words.lt _ hv).2
      rw [hk1] at he
      injection he with he
      omega
theorem To.code (h : To T I pre post w B b o cv tv wv s) : w.cell? ⟨b, o, none⟩ = some cv := h.cell (i := 0) (by omega)
theorem To.at_ (h : To T I pre post w B b o cv tv wv s) : w.cell? ⟨b, o + 1, none⟩ = some (.int .i64 s.p) := h.cell (by omega)
theorem To.get (h : To T I pre post w B b o cv tv wv s) {i : Nat} (hi : i < 24) : w.cell? ⟨b, o + 2 + i, none⟩ = some (.int .i64 (s.r i)) := by
  rw [Nat.add_assoc]
  exact (h.cell (by omega)).trans (thC_reg hi)
theorem To.toldv (h : To T I pre post w B b o cv tv wv s) : w.cell? ⟨b, o + 26, none⟩ = some tv := (h.cell (by omega)).trans thC_told
theorem To.some (h : To T I pre post w B b o cv tv wv s) {q : Nat} (hq : q < s.w.length) : ∃ g c x, wv = .slice (Option.some ⟨g, 0, none⟩) s.w.length c ∧ B ≤ g ∧ g < w.heap.size ∧ g ≠ b ∧ w.cell? ⟨g, q, none⟩ = Option.some (.int .i64 x) ∧ Hid (s.w[q]? = Option.some x) ∧ w.frozen? ⟨g, q, none⟩ = false := by
  obtain ⟨g, c, rfl, h1, h2, h3⟩ := own_some h.words (by omega)
  obtain ⟨x, hx, HX, _⟩ := own_val h.words hq
  refine ⟨g, c, x, rfl, h1, h2, ?_, hx, HX, h.words.frozenAt q⟩
  intro he
  have := h.box.ne h.words h.ne
  exact this (by rw [he]; rfl)


end
end Go.Baro

set_option linter.unusedSimpArgs false
set_option linter.unusedVariables false
namespace Go.Baro
open Go.RowKit

theorem grown_setCells : ∀ (cs : List Value) (w : World) (b o : Nat), w.grownBy (w.setCells b o cs) (some b)
  | [], w, b, o => World.grownBy.refl w _
  | v :: cs, w, b, o => grown_trans (grown_setCell w ⟨b, o, none⟩ v) (grown_setCells cs _ b (o + 1))
theorem box_setCells {b : Nat} {T : TypeId} {post : List Value} : ∀ (cs old pre : List Value) (w : World) (o : Nat), Box w b T (pre ++ (old ++ post)) → old.length = cs.length → pre.length = o → Box (w.setCells b o cs) b T (pre ++ (cs ++ post))
  | [], old, pre, w, o, h, hl, ho => by
    have : old = [] := List.eq_nil_of_length_eq_zero (by simpa using hl)
    subst this
    exact h
  | v :: cs, [], pre, w, o, h, hl, ho => by simp at hl
  | v :: cs, u :: old, pre, w, o, h, hl, ho => by
    have h1 := h.set o v
    rw [List.set_append_right _ _ (by omega), ho, Nat.sub_self, List.cons_append, List.set_cons_zero] at h1
    have h2 : Box (w.setCell ⟨b, o, none⟩ v) b T ((pre ++ [v]) ++ (old ++ post)) := by
      rw [List.append_assoc]; exact h1
    have h3 := box_setCells cs old (pre ++ [v]) _ (o + 1) h2 (by simpa using hl) (by simp [ho])
    rw [List.append_assoc] at h3
    exact h3
theorem box_there {w : World} {b o : Nat} {T : TypeId} {pre old post : List Value} (h : Box w b T (pre ++ (old ++ post))) (ho : pre.length = o) : w.there b o old.length := by
  intro j hj
  refine ⟨?_, h.frozen _⟩
  have := h.cell (pre.length + j)
  rw [mid_at hj, ho] at this
  rw [this, List.getElem?_eq_getElem hj]
  rfl
theorem box_range {w : World} {b o : Nat} {T : TypeId} {pre old post : List Value} (h : Box w b T (pre ++ (old ++ post))) (ho : pre.length = o) : w.rangeAt b o old := by
  intro j v hv
  have hj := (List.getElem?_eq_some_iff.1 hv).1
  have := h.cell (pre.length + j)
  rw [mid_at hj, ho] at this
  rw [this, hv]
/-- A struct is stored into the middle of a block. -/
theorem store_mid {P : Program} {ops : Array Oper} {rest : List Oper} {op : Oper} {a : Act} {w : World} {Q : Exit → Act → World → Prop} (hgd : op.guard = none) (hdst : op.dst = none) (ty : TypeId) (x y : Operand) (hop : op.op = .store ty x y)
    (b o : Nat) (cells : List Value) (hx : a.eval x = .pointer (some ⟨b, o, none⟩)) (hy : a.eval y = .agg cells.toArray) (T : TypeId) (pre old post : List Value) (h : Box w b T (pre ++ (old ++ post))) (ho : pre.length = o) (hl : old.length = cells.length)
    (hi : (P.info? ty).map (·.size) = some cells.length) (h1 : ∀ v ∈ cells, v.oneCell' = true) (hK : ∀ w', Hid (Box w' b T (pre ++ (cells ++ post))) → w.grownBy w' (some b) → wpList P ops Q rest a w') : wpList P ops Q (op :: rest) a w := by
  refine wpList_store_mid hgd ty x y hop b o cells.toArray hx hy (by have := box_there h ho; rw [hl] at this; simpa using this) (by simpa using hi) (all_oneCell_toArray h1) ?_
  rw [hdst]
  exact hK _ (box_setCells cells old pre w o h hl ho) (grown_setCells cells w b o)
/-- A struct is read out of the middle of a block. -/
theorem load_mid {P : Program} {ops : Array Oper} {rest : List Oper} {op : Oper} {a : Act} {w : World} {Q : Exit → Act → World → Prop} (hgd : op.guard = none) (ty : TypeId) (x : Operand) (hop : op.op = .load ty x)
    (b o : Nat) (hx : a.eval x = .pointer (some ⟨b, o, none⟩)) (T : TypeId) (pre cells post : List Value) (h : Box w b T (pre ++ (cells ++ post))) (ho : pre.length = o) (d : TypeDesc) (hu : P.underlying ty = some d) (hd : d.isRow = true) (hi : (P.info? ty).map (·.size) = some cells.length)
    (hK : wpList P ops Q rest (a.put op.dst (.agg cells.toArray)) w) : wpList P ops Q (op :: rest) a w :=
  wpList_load_mid hgd ty x hop b o hx cells d (box_range h ho) hu hd hi hK
end Go.Baro

set_option linter.unusedSimpArgs false
set_option linter.unusedVariables false
namespace Go.Proofs.YtnchgdjdfhfedaaDoor
open Go.RowKit Go.Ord Go.Baro

theorem eltCall : Elt Tryd.prog 42 41 (.agg #[.int .i64 0, .slice none 0 0]) 2 32 := Elt.mk' Tryd.underlying42 (by kernel_rfl) rfl (by decide)
theorem eltThr : Elt Tryd.prog 30 42 (.slice none 0 0) 1 24 := Elt.mk' Tryd.underlying30 (by kernel_rfl) rfl (by decide)
/-- The types that change while the calls are written. -/
def tCall (t : TypeId) : Prop := t = 41 ∨ t = 42
theorem tCall_int : ¬ tCall 3 := by unfold tCall; decide
theorem tCall_op : ¬ tCall 73 := by unfold tCall; decide
theorem tCall_code : ¬ tCall 24 := by unfold tCall; decide
theorem tCall_mach : ¬ tCall 32 := by unfold tCall; decide
end Go.Proofs.YtnchgdjdfhfedaaDoor

set_option linter.unusedSimpArgs false
set_option linter.unusedVariables false
namespace Go.Proofs.YtnchgdjdfhfedaaDoor
open Go.RowKit Go.Ord Go.Baro

theorem tmod_pick (a n : Int) (hn : 0 < n) : (if a.tmod n < 0 then a.tmod n + n else a.tmod n) = a % n := by
  have h1 := Int.tmod_eq_emod (a := a) (b := n)
  have h2 := Int.emod_nonneg a (show n ≠ 0 by omega)
  have h3 := Int.emod_lt_of_pos a hn
  rw [h1]
  split <;> split <;> omega

theorem keep_Picked (a n : Int) (w : World) (hn : 0 < n) (hn1 : n ≤ 4611686018427387904) :
    Calls Tryd.prog 18 #[.int .i64 a, .int .i64 n] w fun e w' => e = .returned (.int .i64 (a % n)) ∧ w = w' := by
  have HT := Lib.hid (tmod_pick a n hn)
  have hb1 : -n < a.tmod n := Int.lt_tmod_of_pos a hn
  have hb2 : a.tmod n < n := Int.tmod_lt_of_pos a hn
  have hne : (n == 0) = false := by simp; omega
  by_cases h : a.tmod n < 0
  · go_enter Tryd.func18, Tryd.ntmps18
    go_wp2
    go_ret
    refine ⟨ret_int ?_, rfl⟩
    have := HT.out
    rw [if_pos h] at this
    exact this
  · go_enter Tryd.func18, Tryd.ntmps18
    go_wp2
    go_ret
    refine ⟨ret_int ?_, rfl⟩
    have := HT.out
    rw [if_neg (by omega)] at this
    exact this
end Go.Proofs.YtnchgdjdfhfedaaDoor

set_option linter.unusedSimpArgs false
set_option linter.unusedVariables false
namespace Go.Baro
open Go.RowKit (wrap64)
/-- The i-th call of count's machine. -/
def cntN (by_ : List Int) (i : Nat) : Int := (by_[i]?.getD 0) % 6
def cntC (by_ : List Int) (i : Nat) : Cl := if 0 < cntN by_ i then ⟨0, [cntN by_ i]⟩ else ⟨1, []⟩
def cntT (by_ : List Int) (t : Nat) : List Cl := [cntC by_ t, cntC by_ (t + 3), cntC by_ (t + 6)]
/-- Count: the words and the two codes. -/
structure Cu where
  ws : List Int
  ca : List Ins
  cg : List Ins
def mCount (c : Cu) (by_ : List Int) : Mc := ⟨c.ws, [c.ca, c.cg], [cntT by_ 0, cntT by_ 1, cntT by_ 2]⟩
def mCount4 (c : Cu) (by_ : List Int) : Mc := ⟨c.ws, [c.ca, c.cg], [cntT by_ 0, cntT by_ 1, cntT by_ 2, [⟨1, []⟩]]⟩
/-- The calls of a thread that adds and gets in turn. -/
def tlsN (by_ : List Int) (i : Nat) : Int := if i < by_.length then by_[i]?.getD 0 else 1
def tlsT (by_ : List Int) (j : Nat) : List Cl := (List.range j).flatMap fun i => [⟨0, [tlsN by_ i]⟩, ⟨1, []⟩]
def mTells (c : Cu) (by_ : List Int) : Mc := ⟨c.ws, [c.ca, c.cg], [tlsT by_ 9]⟩
/-- A call of a run as an operation on a number. -/
def cntA (m : Mc) (d : Dg) : Ac :=
  match (m.ts[d.th]?.getD [])[d.cl]? with
  | some c => ⟨d.b, d.e, decide (c.k = 0), if d.e = -1 then 0 else d.to.headD 0, if c.k = 0 then c.ar.headD 0 else 0⟩
  | none => ⟨d.b, d.e, false, 0, 0⟩
def CountLinD (c : Cu) : Prop := ∀ (by_ : List Int) (S : List Nat), S.length ≤ 400 → (∀ x ∈ S, x < 3) →
  noErr (plyG (mCount c by_) 0 S (g0 (mCount c by_))) ∧ (∀ d ∈ dgs (plyG (mCount c by_) 0 S (g0 (mCount c by_))).out, (d.e ≠ -1 → d.to.length = 1) ∧ d.th < 3 ∧ d.cl < 3) ∧ (dgs (plyG (mCount c by_) 0 S (g0 (mCount c by_))).out).length ≤ 9 ∧
  Lin 2 [0] ((dgs (plyG (mCount c by_) 0 S (g0 (mCount c by_))).out).map (cntA (mCount c by_)))
/-- The schedule of CountAll. -/
def allS (S : List Nat) : List Nat := S ++ List.replicate 200 0 ++ List.replicate 200 1 ++ List.replicate 200 2 ++ List.replicate 60 3
def CountAllD (c : Cu) : Prop := ∀ (by_ : List Int) (S : List Nat), S.length ≤ 300 → (∀ x ∈ S, x < 3) →
  noErr (plyG (mCount4 c by_) 0 (allS S) (g0 (mCount4 c by_))) ∧ (dgs (plyG (mCount4 c by_) 0 (allS S) (g0 (mCount4 c by_))).out).length = 10 ∧
  (∀ d ∈ dgs (plyG (mCount4 c by_) 0 (allS S) (g0 (mCount4 c by_))).out, d.e ≠ -1 ∧ d.to.length = 1) ∧
  (dgs (plyG (mCount4 c by_) 0 (allS S) (g0 (mCount4 c by_))).out).Pairwise (fun a b => (cntA (mCount4 c by_) a).put = true → (cntA (mCount4 c by_) b).put = true → a.to.headD 0 ≠ b.to.headD 0) ∧
  (∃ d ∈ dgs (plyG (mCount4 c by_) 0 (allS S) (g0 (mCount4 c by_))).out, d.th = 3) ∧
  ∀ d ∈ dgs (plyG (mCount4 c by_) 0 (allS S) (g0 (mCount4 c by_))).out, d.th = 3 → d.to.headD 0 = ((dgs (plyG (mCount4 c by_) 0 (allS S) (g0 (mCount4 c by_))).out).map fun d => (cntA (mCount4 c by_) d).add).sum
/-- The sums that a thread is told. -/
def wantN (by_ : List Int) (i : Nat) : Int := (List.range i).foldl (fun s j => wrap64 (s + tlsN by_ j)) 0
def CountTellsD (c : Cu) : Prop := ∀ (by_ : List Int), (∀ x ∈ by_, wrap64 x = x) →
  noErr (plyG (mTells c by_) 0 (List.replicate 1080 0) (g0 (mTells c by_))) ∧ (dgs (plyG (mTells c by_) 0 (List.replicate 1080 0) (g0 (mTells c by_))).out).length = 18 ∧
  ∀ (i : Nat) d, (dgs (plyG (mTells c by_) 0 (List.replicate 1080 0) (g0 (mTells c by_))).out)[i]? = some d → d.e ≠ -1 ∧ d.to = [wantN by_ ((i + 1) / 2)]
end Go.Baro

set_option linter.unusedSimpArgs false
set_option linter.unusedVariables false
namespace Go.Proofs.YtnchgdjdfhfedaaDoor
open Go.RowKit Go.Ord Go.Baro

/-- A function without an argument that gives words, or a code. -/
def W0Spec (F : FuncId) (ws : List Int) : Prop := ∀ (w : World) (hT : Tab w), Calls Tryd.prog F #[] w fun e w' => (∃ A n k, e = .returned (.slice A n k) ∧ n ≤ k ∧ k ≤ 9223372036854775807 ∧ QT w' 3 1 A n (ws.map (Value.int .i64))) ∧ Below w.heap.size w w'
def C0Spec (F : FuncId) (c : List Ins) : Prop := ∀ (w : World) (hT : Tab w), Calls Tryd.prog F #[] w fun e w' => (∃ A n k, e = .returned (.slice A n k) ∧ n ≤ k ∧ k ≤ 9223372036854775807 ∧ QT w' 73 5 A n (cellsO c)) ∧ Below w.heap.size w w'
structure CuOk (c : Cu) : Prop where
  w0 : 0 < c.ws.length
  w1 : c.ws.length ≤ 64
  wi : ∀ x ∈ c.ws, inW x
  a0 : 0 < c.ca.length
  ac : okC c.ca
  ai : ∀ o ∈ c.ca, inI o
  g0 : 0 < c.cg.length
  gc : okC c.cg
  gi : ∀ o ∈ c.cg, inI o
end Go.Proofs.YtnchgdjdfhfedaaDoor
