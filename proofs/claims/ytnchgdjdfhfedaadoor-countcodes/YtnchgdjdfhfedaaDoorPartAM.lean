/- Of this claim's own texts these, one behind the other: VmMem, VmMemO, LibF. No statement of the seat is proved here; no condition but those that stand at the theorems. -/
import Derived.Test.YtnchgdjdfhfedaaDoorPartAE
import Derived.Test.YtnchgdjdfhfedaaDoorPartAG
import Derived.Laws.Tables
import Derived.Laws.OwnMore
import Derived.Test.YtnchgdjdfhfedaaDoorPartAH
set_option linter.unusedSimpArgs false
set_option linter.unusedVariables false
namespace Go.Baro
open Go.RowKit

def regV (r : Int → Int) : List Value := (List.range 24).map fun i => Value.int .i64 (r (i : Nat))
/-- The cells of a thread: its code, the next instruction, the registers, what it has told. -/
def thC (cv : Value) (p : Int) (r : Int → Int) (tv : Value) : List Value := cv :: .int .i64 p :: (regV r ++ [tv])
theorem regV_len (r : Int → Int) : (regV r).length = 24 := by simp [regV]
theorem regV_at (r : Int → Int) {i : Nat} (h : i < 24) : (regV r)[i]? = some (.int .i64 (r i)) := by simp [regV, List.getElem?_map, List.getElem?_range h]
section
variable {cv tv : Value} {p : Int} {r : Int → Int}
theorem thC_len : (thC cv p r tv).length = 27 := by simp [thC, regV_len]
theorem thC_reg {i : Nat} (h : i < 24) : (thC cv p r tv)[2 + i]? = some (.int .i64 (r i)) := by
  rw [thC, show 2 + i = i + 1 + 1 by omega, List.getElem?_cons_succ, List.getElem?_cons_succ, List.getElem?_append_left (by rw [regV_len]; exact h), regV_at r h]
theorem thC_told : (thC cv p r tv)[26]? = some tv := by
  rw [thC, show 26 = 24 + 1 + 1 by rfl, List.getElem?_cons_succ, List.getElem?_cons_succ, List.getElem?_append_right (by rw [regV_len]; omega), regV_len]; rfl
theorem thC_set_p (q : Int) : (thC cv p r tv).set 1 (.int .i64 q) = thC cv q r tv := rfl
theorem regV_set {i : Nat} (h : i < 24) (v : Int) : (regV r).set i (.int .i64 v) = regV (upd r i v) := by
  refine List.ext_getElem? fun j => ?_
  rw [List.getElem?_set]
  by_cases hj : j < 24
  · rw [regV_at _ hj, regV_at _ hj, regV_len]
    by_cases hij : i = j
    · subst hij; rw [if_pos rfl, if_pos h, upd_same]
    · rw [if_neg hij, upd_other _ _ (by omega)]
  · rw [List.getElem?_eq_none (by rw [regV_len]; omega), List.getElem?_eq_none (by rw [regV_len]; omega), if_neg (by omega)]
theorem thC_set_reg {i : Nat} (h : i < 24) (v : Int) : (thC cv p r tv).set (2 + i) (.int .i64 v) = thC cv p (upd r i v) tv := by
  rw [thC, show 2 + i = i + 1 + 1 by omega, List.set_cons_succ, List.set_cons_succ, List.set_append_left _ _ (by rw [regV_len]; exact h), regV_set h]; rfl
theorem thC_set_told (u : Value) : (thC cv p r tv).set 26 u = thC cv p r u := by
  rw [thC, show 26 = 24 + 1 + 1 by rfl, List.set_cons_succ, List.set_cons_succ, List.set_append_right _ _ (by rw [regV_len]; omega), regV_len]; rfl
end

/-- The thread lies in block b; what it has told and the shared words are rows of the call's own, in two blocks from B on. -/
structure Th (T I : TypeId) (w : World) (B b : Nat) (cv tv wv : Value) (s : Vs) : Prop where
  box : Box w b T (thC cv s.p s.r tv)
  told : w.ownsRow B I 1 tv s.t.length (s.t.map (Value.int .i64))
  words : w.ownsRow B I 1 wv s.w.length (s.w.map (Value.int .i64))
  apart : wv.ownBlock = none ∨ wv.ownBlock ≠ tv.ownBlock
  ne : I ≠ T
section
variable {T I : TypeId} {w w' : World} {B b : Nat} {cv tv wv : Value} {s : Vs}
theorem Th.lt (h : Th T I w B b cv tv wv s) : b < w.heap.size := h.box.lt
theorem Th.kept (h : Th T I w B b cv tv wv s) {row : Option Nat} (hg : w.grownBy w' row) (hb : some b ≠ row) (ht : ∀ k, tv.ownBlock = some k → some k ≠ row) (hw : ∀ k, wv.ownBlock = some k → some k ≠ row) : Th T I w' B b cv tv wv s := by
  refine ⟨h.box.grown hg hb, h.told.kept hg ?_, h.words.kept hg ?_, h.apart, h.ne⟩
  · cases hv : tv.ownBlock with
    | none => exact .inl rfl
    | some k => exact .inr (ht k hv)
  · cases hv : wv.ownBlock with
    | none => exact .inl rfl
    | some k => exact .inr (hw k hv)
theorem Th.alloc (h : Th T I w B b cv tv wv s) (o : Obj) : Th T I (w.alloc o) B b cv tv wv s := h.kept (World.grownBy_alloc w o none) (by simp) (by simp) (by simp)
theorem Th.drewN (h : Th T I w B b cv tv wv s) (n : Nat) : Th T I (w.drewN n) B b cv tv wv s := ⟨h.box, h.told, h.words, h.apart, h.ne⟩
theorem Th.drew (h : Th T I w B b cv tv wv s) : Th T I w.drew B b cv tv wv s := ⟨h.box, h.told, h.words, h.apart, h.ne⟩
theorem Th.boxed (h : Th T I w B b cv tv wv s) {i : Nat} {u : Value} {q : Int} {r : Int → Int} (hs : (thC cv s.p s.r tv).set i u = thC cv q r tv) : Th T I (w.setCell ⟨b, i, none⟩ u) B b cv tv wv { s with p := q, r := r } := by
  have hg := grown_setCell w ⟨b, i, none⟩ u
  have h1 := h.box.set i u
  rw [hs] at h1
  refine ⟨h1, h.told.kept hg ?_, h.words.kept hg ?_, h.apart, h.ne⟩
  · cases hv : tv.ownBlock with
    | none => exact .inl rfl
    | some k => exact .inr fun he => by have := h.box.ne h.told h.ne; rw [hv] at this; exact this he.symm
  · cases hv : wv.ownBlock with
    | none => exact .inl rfl
    | some k => exact .inr fun he => by have := h.box.ne h.words h.ne; rw [hv] at this; exact this he.symm
theorem Th.next (h : Th T I w B b cv tv wv s) (q : Int) : Th T I (w.setCell ⟨b, 1, none⟩ (.int .i64 q)) B b cv tv wv { s with p := q } := h.boxed (thC_set_p q)
theorem Th.reg (h : Th T I w B b cv tv wv s) {i : Nat} (hi : i < 24) (v : Int) : Th T I (w.setCell ⟨b, 2 + i, none⟩ (.int .i64 v)) B b cv tv wv { s with r := upd s.r i v } := h.boxed (thC_set_reg hi v)
theorem Th.word (h : Th T I w B b cv tv wv s) {g n c q : Nat} (hv : wv = .slice (some ⟨g, 0, none⟩) n c) (v : Int) : Th T I (w.setCell ⟨g, q, none⟩ (.int .i64 v)) B b cv tv wv { s with w := s.w.set q v } := by
  subst hv
  have hl : n = s.w.length := by
    obtain ⟨A, c', he, _⟩ := own_form h.words
    injection he
  subst hl
  have hst := World.ownsRow.stored h.words q (.int .i64 v)
  refine ⟨h.box.grown hst.2 (h.box.ne h.words h.ne), h.told.kept hst.2 ?_, ?_, h.apart, h.ne⟩
  · cases ht : tv.ownBlock with
    | none => exact .inl rfl
    | some k =>
      refine .inr fun he => ?_
      rcases h.apart with ha | ha
      · cases ha
      · rw [ht] at ha; exact ha he.symm
  · have := hst.1
    rw [← List.map_set] at this
    show World.ownsRow _ _ _ _ _ (s.w.set q v).length _
    rw [List.length_set]
    exact this
/-- One number more is told: the row has grown, and the thread has it. -/
theorem Th.tell (h : Th T I w B b cv tv wv s) {v' : Value} {x : Int} {m : Nat} {o : Obj} (hg : (w.alloc o).grownBy w' tv.ownBlock) (ho : w'.ownsRow B I 1 v' m (s.t.map (Value.int .i64) ++ [.int .i64 x])) (hm : m = s.t.length + 1)
    (hb : v'.ownBlock = tv.ownBlock ∨ v'.ownBlock = some (w.alloc o).heap.size) : Box w' b T (thC cv s.p s.r tv) ∧ Th T I (w'.setCell ⟨b, 26, none⟩ v') B b cv v' wv { s with t := s.t ++ [x] } := by
  have hb1 := (h.box.alloc o).grown hg (h.box.ne h.told h.ne)
  have hg2 := grown_setCell w' ⟨b, 26, none⟩ v'
  have hw1 : w'.ownsRow B I 1 wv s.w.length (s.w.map (Value.int .i64)) := (h.words.alloc o).kept hg h.apart
  refine ⟨hb1, ?_, ?_, ?_, ?_, h.ne⟩
  · have := hb1.set 26 v'
    rw [thC_set_told] at this
    exact this
  · show World.ownsRow _ _ _ _ _ (s.t ++ [x]).length _
    rw [List.length_append, List.length_singleton, ← hm, List.map_append]
    refine ho.kept hg2 ?_
    cases hv : v'.ownBlock with
    | none => exact .inl rfl
    | some k => exact .inr fun he => by have := hb1.ne ho h.ne; rw [hv] at this; exact this he.symm
  · refine hw1.kept hg2 ?_
    cases hv : wv.ownBlock with
    | none => exact .inl rfl
    | some k => exact .inr fun he => by have := hb1.ne hw1 h.ne; rw [hv] at this; exact this he.symm
  · rcases hb with hb | hb
    · rw [hb]; exact h.apart
    · rw [hb]
      cases hv : wv.ownBlock with
      | none => exact .inl rfl
      | some k =>
        refine .inr fun he => ?_
        have := (h.words.lt _ hv).2
        injection he with he
        simp at he
        omega
theorem Th.code (h : Th T I w B b cv tv wv s) : w.cell? ⟨b, 0, none⟩ = some cv := h.box.cell 0
theorem Th.at_ (h : Th T I w B b cv tv wv s) : w.cell? ⟨b, 1, none⟩ = some (.int .i64 s.p) := h.box.cell 1
theorem Th.get (h : Th T I w B b cv tv wv s) {i : Nat} (hi : i < 24) : w.cell? ⟨b, 2 + i, none⟩ = some (.int .i64 (s.r i)) := (h.box.cell _).trans (thC_reg hi)
theorem Th.toldv (h : Th T I w B b cv tv wv s) : w.cell? ⟨b, 26, none⟩ = some tv := (h.box.cell _).trans thC_told
/-- The shared words, where there is one. -/
theorem Th.some (h : Th T I w B b cv tv wv s) {q : Nat} (hq : q < s.w.length) : ∃ g c x, wv = .slice (Option.some ⟨g, 0, none⟩) s.w.length c ∧ B ≤ g ∧ g < w.heap.size ∧ g ≠ b ∧ w.cell? ⟨g, q, none⟩ = Option.some (.int .i64 x) ∧ Hid (s.w[q]? = Option.some x) ∧ w.frozen? ⟨g, q, none⟩ = false := by
  obtain ⟨g, c, rfl, h1, h2, h3⟩ := own_some h.words (by omega)
  obtain ⟨x, hx, HX, _⟩ := own_val h.words hq
  refine ⟨g, c, x, rfl, h1, h2, ?_, hx, HX, h.words.frozenAt q⟩
  intro he
  have := h.box.ne h.words h.ne
  exact this (by rw [he]; rfl)
end

/-- A whole struct is stored into a block of the call's own. -/
theorem store_box {P : Program} {ops : Array Oper} {rest : List Oper} {o : Oper} {a : Act} {w : World} {Q : Exit → Act → World → Prop} (hgd : o.guard = none) (hdst : o.dst = none) (ty : TypeId) (x y : Operand) (ho : o.op = .store ty x y)
    (g : Nat) (cells : List Value) (hx : a.eval x = .pointer (some ⟨g, 0, none⟩)) (hy : a.eval y = .agg cells.toArray)
    (t : TypeId) (old : List Value) (hg : Box w g t old) (hi : (P.info? ty).map (·.size) = some cells.length)
    (hold : old.length = cells.length) (h1 : ∀ v ∈ cells, v.oneCell' = true)
    (h : ∀ w', Hid (Box w' g t cells) → w.grownBy w' (some g) → wpList P ops Q rest a w') : wpList P ops Q (o :: rest) a w := by
  refine wpList_store_row hgd ty x y ho g cells.toArray hx hy t old.toArray hg (by simpa using hi) (by simpa using hold) (Array.all_eq_true_iff_forall_mem.2 (fun v hv => h1 v (by simpa using hv))) ?_
  rw [hdst]
  refine h _ (setRow_heap w g _ _ t _ hg) ⟨rfl, rfl, rfl, by simp [World.setRow], fun k _ hk => setRow_other w g k _ (fun e => hk (by rw [e]))⟩
theorem results_tmp4 {fn : Func} {t u v x : Tmp} (h : fn.results = #[.tmp t, .tmp u, .tmp v, .tmp x]) (tmps : Array Value) (P : Program) (w : World) :
    (results fn tmps).run P w = .ok (.tuple #[tmps.getD t undef, tmps.getD u undef, tmps.getD v undef, tmps.getD x undef]) w := by
  simp [results, h]
theorem thC_one {cv tv : Value} {p : Int} {r : Int → Int} (hc : cv.oneCell' = true) (ht : tv.oneCell' = true) : ∀ v ∈ thC cv p r tv, v.oneCell' = true := by
  intro v hv
  simp only [thC, regV, List.mem_cons, List.mem_append, List.mem_map, List.mem_singleton, List.not_mem_nil, or_false] at hv
  rcases hv with rfl | rfl | ⟨i, _, rfl⟩ | rfl
  · exact hc
  · rfl
  · rfl
  · exact ht
end Go.Baro

set_option linter.unusedSimpArgs false
set_option linter.unusedVariables false
namespace Go.Baro
open Go.RowKit

section
variable {pre c post : List Value} {i : Nat} {u : Value}
theorem mid_at (h : i < c.length) : (pre ++ (c ++ post))[pre.length + i]? = c[i]? := by
  rw [List.getElem?_append_right (by omega), Nat.add_sub_cancel_left, List.getElem?_append_left h]
theorem mid_set (h : i < c.length) : (pre ++ (c ++ post)).set (pre.length + i) u = pre ++ (c.set i u ++ post) := by
  rw [List.set_append_right _ _ (by omega), Nat.add_sub_cancel_left, List.set_append_left _ _ h]
end
/-- The thread lies in block b from cell o on; what it has told and the shared words are rows of the call's own, in two blocks from B on. -/
structure To (T I : TypeId) (pre post : List Value) (w : World) (B b o : Nat) (cv tv wv : Value) (s : Vs) : Prop where
  box : Box w b T (pre ++ (thC cv s.p s.r tv ++ post))
  off : pre.length = o
  told : w.ownsRow B I 1 tv s.t.length (s.t.map (Value.int .i64))
  words : w.ownsRow B I 1 wv s.w.length (s.w.map (Value.int .i64))
  apart : wv.ownBlock = none ∨ wv.ownBlock ≠ tv.ownBlock
  ne : I ≠ T
section
variable {T I : TypeId} {pre post : List Value} {w w' : World} {B b o : Nat} {cv tv wv : Value} {s : Vs}
theorem To.lt (h : To T I pre post w B b o cv tv wv s) : b < w.heap.size := h.box.lt
theorem To.kept (h : To T I pre post w B b o cv tv wv s) {row : Option Nat} (hg : w.grownBy w' row) (hb : some b ≠ row) (ht : ∀ k, tv.ownBlock = some k → some k ≠ row) (hw : ∀ k, wv.ownBlock = some k → some k ≠ row) : To T I pre post w' B b o cv tv wv s := by
  refine ⟨h.box.grown hg hb, h.off, h.told.kept hg ?_, h.words.kept hg ?_, h.apart, h.ne⟩
  · cases hv : tv.ownBlock with
    | none => exact .inl rfl
    | some k => exact .inr (ht k hv)
  · cases hv : wv.ownBlock with
    | none => exact .inl rfl
    | some k => exact .inr (hw k hv)
theorem To.alloc (h : To T I pre post w B b o cv tv wv s) (x : Obj) : To T I pre post (w.alloc x) B b o cv tv wv s := h.kept (World.grownBy_alloc w x none) (by simp) (by simp) (by simp)
theorem To.drewN (h : To T I pre post w B b o cv tv wv s) (n : Nat) : To T I pre post (w.drewN n) B b o cv tv wv s := ⟨h.box, h.off, h.told, h.words, h.apart, h.ne⟩
theorem To.drew (h : To T I pre post w B b o cv tv wv s) : To T I pre post w.drew B b o cv tv wv s := ⟨h.box, h.off, h.told, h.words, h.apart, h.ne⟩
theorem To.cell (h : To T I pre post w B b o cv tv wv s) {i : Nat} (hi : i < 27) : w.cell? ⟨b, o + i, none⟩ = (thC cv s.p s.r tv)[i]? := by
  have := h.box.cell (pre.length + i)
  rw [mid_at (by rw [thC_len]; exact hi), h.off] at this
  exact this
theorem To.boxed (h : To T I pre post w B b o cv tv wv s) {i : Nat} {u : Value} {q : Int} {r : Int → Int} (hi : i < 27) (hs : (thC cv s.p s.r tv).set i u = thC cv q r tv) : To T I pre post (w.setCell ⟨b, o + i, none⟩ u) B b o cv tv wv { s with p := q, r := r } := by
  have hg := grown_setCell w ⟨b, o + i, none⟩ u
  have h1 := h.box.set (pre.length + i) u
  rw [mid_set (by rw [thC_len]; exact hi), hs, h.off] at h1
  refine ⟨h1, h.off, h.told.kept hg ?_, h.words.kept hg ?_, h.apart, h.ne⟩
  · cases hv : tv.ownBlock with
    | none => exact .inl rfl
    | some k => exact .inr fun he => by have := h.box.ne h.told h.ne; rw [hv] at this; exact this he.symm
  · cases hv : wv.ownBlock with
    | none => exact .inl rfl
    | some k => exact .inr fun he => by have := h.box.ne h.words h.ne; rw [hv] at this; exact this he.symm
theorem To.next (h : To T I pre post w B b o cv tv wv s) (q : Int) : To T I pre post (w.setCell ⟨b, o + 1, none⟩ (.int .i64 q)) B b o cv tv wv { s with p := q } := h.boxed (by omega) (thC_set_p q)
theorem To.reg (h : To T I pre post w B b o cv tv wv s) {i : Nat} (hi : i < 24) (v : Int) : To T I pre post (w.setCell ⟨b, o + 2 + i, none⟩ (.int .i64 v)) B b o cv tv wv { s with r := upd s.r i v } := by
  rw [Nat.add_assoc]
  exact h.boxed (by omega) (thC_set_reg hi v)
theorem To.word (h : To T I pre post w B b o cv tv wv s) {g n c q : Nat} (hv : wv = .slice (some ⟨g, 0, none⟩) n c) (v : Int) : To T I pre post (w.setCell ⟨g, q, none⟩ (.int .i64 v)) B b o cv tv wv { s with w := s.w.set q v } := by
  subst hv
  have hl : n = s.w.length := by
    obtain ⟨A, c', he, _⟩ := own_form h.words
    injection he
  subst hl
  have hst := World.ownsRow.stored h.words q (.int .i64 v)
  refine ⟨h.box.grown hst.2 (h.box.ne h.words h.ne), h.off, h.told.kept hst.2 ?_, ?_, h.apart, h.ne⟩
  · cases ht : tv.ownBlock with
    | none => exact .inl rfl
    | some k =>
      refine .inr fun he => ?_
      rcases h.apart with ha | ha
      · cases ha
      · rw [ht] at ha; exact ha he.symm
  · have := hst.1
    rw [← List.map_set] at this
    show World.ownsRow _ _ _ _ _ (s.w.set q v).length _
    rw [List.length_set]
    exact this
theorem To.tell (h : To T I pre post w B b o cv tv wv s) {v' : Value} {x : Int} {m : Nat} {ob : Obj} (hg : (w.alloc ob).grownBy w' tv.ownBlock) (ho : w'.ownsRow B I 1 v' m (s.t.map (Value.int .i64) ++ [.int .i64 x])) (hm : m = s.t.length + 1)
    (hb : v'.ownBlock = tv.ownBlock ∨ v'.ownBlock = some (w.alloc ob).heap.size) : Box w' b T (pre ++ (thC cv s.p s.r tv ++ post)) ∧ To T I pre post (w'.setCell ⟨b, o + 26, none⟩ v') B b o cv v' wv { s with t := s.t ++ [x] } := by
  have hb1 := (h.box.alloc ob).grown hg (h.box.ne h.told h.ne)
  have hg2 := grown_setCell w' ⟨b, o + 26, none⟩ v'
  have hw1 : w'.ownsRow B I 1 wv s.w.length (s.w.map (Value.int .i64)) := (h.words.alloc ob).kept hg h.apart
  refine ⟨hb1, ?_, h.off, ?_, ?_, ?_, h.ne⟩
  · have := hb1.set (pre.length + 26) v'
    rw [mid_set (by rw [thC_len]; omega), thC_set_told, h.off] at this
    exact this
  · show World.ownsRow _ _ _ _ _ (s.t ++ [x]).length _
    rw [List.length_append, List.length_singleton, ← hm, List.map_append]
    refine ho.kept hg2 ?_
    cases hv : v'.ownBlock with
    | none => exact .inl rfl
    | some k => exact .inr fun he => by have := hb1.ne ho h.ne; rw [hv] at this; exact this he.symm
  · refine hw1.kept hg2 ?_
    cases hv : wv.ownBlock with
    | none => exact .inl rfl
    | some k => exact .inr fun he => by have := hb1.ne hw1 h.ne; rw [hv] at this; exact this he.symm
  · rcases hb with hb | hb
    · rw [hb]; exact h.apart
    · rw [hb]
      cases hv : wv.ownBlock with
      | none => exact .inl rfl
      | some k =>
        refine .inr fun he => ?_
        have := (h.words.lt _ hv).2
        injection he with he
        simp at he
        omega
theorem To.tellB (h : To T I pre post w B b o cv tv wv s) {v' : Value} {x : Int} {m : Nat} (hB : B ≤ w.heap.size) (hb : Below w.heap.size w w') (ho : w'.ownsRow w.heap.size I 1 v' m (s.t.map (Value.int .i64) ++ [.int .i64 x])) (hm : m = s.t.length + 1) :
    Box w' b T (pre ++ (thC cv s.p s.r tv ++ post)) ∧ To T I pre post (w'.setCell ⟨b, o + 26, none⟩ v') B b o cv v' wv { s with t := s.t ++ [x] } ∧ ∃ k, v'.ownBlock = some k ∧ w.heap.size ≤ k := by
  have hb1 : Box w' b T _ := (hb.block b h.lt).trans h.box
  have hg2 := grown_setCell w' ⟨b, o + 26, none⟩ v'
  have hw1 : w'.ownsRow B I 1 wv s.w.length (s.w.map (Value.int .i64)) := own_below h.words hb
  have hv' : ∃ k, v'.ownBlock = some k ∧ w.heap.size ≤ k := by
    rcases ho.2 with ⟨_, h0⟩ | ⟨g, cap, cur, rfl, hg, _⟩
    · omega
    · exact ⟨g, rfl, hg⟩
  obtain ⟨k', hk1, hk2⟩ := hv'
  refine ⟨hb1, ⟨?_, h.off, ?_, ?_, ?_, h.ne⟩, k', hk1, hk2⟩
  · have := hb1.set (pre.length + 26) v'
    rw [mid_set (by rw [thC_len]; omega), thC_set_told, h.off] at this
    exact this
  · show World.ownsRow _ _ _ _ _ (s.t ++ [x]).length _
    rw [List.length_append, List.length_singleton, ← hm, List.map_append]
    have h2 : w'.ownsRow B I 1 v' m (s.t.map (Value.int .i64) ++ [.int .i64 x]) := by
      refine ⟨ho.1, ?_⟩
      rcases ho.2 with q | ⟨g, cap, cur, q1, q2, q3⟩
      · exact .inl q
      · exact .inr ⟨g, cap, cur, q1, by omega, q3⟩
    refine h2.kept hg2 ?_
    refine .inr fun he => ?_
    have h3 := h.lt
    rw [hk1] at he
    injection he with he
    dsimp only at he
    omega
  · refine hw1.kept hg2 ?_
    cases hv : wv.ownBlock with
    | none => exact .inl rfl
    | some k => exact .inr fun he => by have := hb1.ne hw1 h.ne; rw [hv] at this; exact this he.symm
  · cases hv : wv.ownBlock with
    | none => exact .inl rfl
    | some k =>
      refine .inr fun he => ?_
      have := (h.words.lt _ hv).2
      rw [hk1] at he
      injection he with he
      omega
theorem To.code (h : To T I pre post w B b o cv tv wv s) : w.cell? ⟨b, o, none⟩ = some cv := h.cell (i := 0) (by omega)
theorem To.at_ (h : To T I pre post w B b o cv tv wv s) : w.cell? ⟨b, o + 1, none⟩ = some (.int .i64 s.p) := h.cell (by omega)
theorem To.get (h : To T I pre post w B b o cv tv wv s) {i : Nat} (hi : i < 24) : w.cell? ⟨b, o + 2 + i, none⟩ = some (.int .i64 (s.r i)) := by
  rw [Nat.add_assoc]
  exact (h.cell (by omega)).trans (thC_reg hi)
theorem To.toldv (h : To T I pre post w B b o cv tv wv s) : w.cell? ⟨b, o + 26, none⟩ = some tv := (h.cell (by omega)).trans thC_told
theorem To.some (h : To T I pre post w B b o cv tv wv s) {q : Nat} (hq : q < s.w.length) : ∃ g c x, wv = .slice (Option.some ⟨g, 0, none⟩) s.w.length c ∧ B ≤ g ∧ g < w.heap.size ∧ g ≠ b ∧ w.cell? ⟨g, q, none⟩ = Option.some (.int .i64 x) ∧ Hid (s.w[q]? = Option.some x) ∧ w.frozen? ⟨g, q, none⟩ = false := by
  obtain ⟨g, c, rfl, h1, h2, h3⟩ := own_some h.words (by omega)
  obtain ⟨x, hx, HX, _⟩ := own_val h.words hq
  refine ⟨g, c, x, rfl, h1, h2, ?_, hx, HX, h.words.frozenAt q⟩
  intro he
  have := h.box.ne h.words h.ne
  exact this (by rw [he]; rfl)


end
end Go.Baro

set_option linter.unusedSimpArgs false
set_option linter.unusedVariables false
namespace Go.Proofs.YtnchgdjdfhfedaaDoor
open Go.RowKit Go.Ord Go.Baro

section
variable {P : Program} {t e : TypeId} {z : Value} {s by' : Nat} {ops : Array Oper} {rest : List Oper} {o : Oper} {a : Act} {Q : Exit → Act → World → Prop}
/-- append to a slice without room: into a new block. -/
theorem app_full (E : Elt P t e z s by') (w : World) (hgd : o.guard = none) (l x : Operand) (ho : o.op = .call { callee := .builtin .append, args := #[l, x], argTypes := #[t, t] })
    (A : Option Addr) (n : Nat) (xs : List Value) (hs : a.eval l = .slice A n n) (B : Nat) (hr : Rd w B s A n xs) (hA : A = none → n = 0) (hB : B ≤ w.heap.size) (m : Nat) (hm : 0 < m) (cs : List Value)
    (g : Nat) (hg : g = w.heap.size) (hx : a.eval x = .slice (some ⟨g, 0, none⟩) m m) (hl : cs.length = m * s) (hn : (n + m) * by' ≤ 140737488355328) (hn' : n + m ≤ 140737488355328)
    (h : ∀ v' w', w'.ownsRow w.heap.size e s v' (n + m) (xs ++ cs) → Below w.heap.size w w' → wpList P ops Q rest (a.put o.dst v') w') :
    wpList P ops Q (o :: rest) a (w.alloc (.cells cs.toArray e)) := by
  have E' := E
  obtain ⟨hu, ⟨i, hi, h5, h6, h7⟩, h3, h4⟩ := E
  subst hg
  have hnews : ∀ j u, cs[j]? = some u → (w.alloc (.cells cs.toArray e)).cell? ((⟨w.heap.size, 0, none⟩ : Addr).add j) = some u := by
    intro j u hj
    have hr : (w.alloc (.cells cs.toArray e)).heap[w.heap.size]? = some (.cells cs.toArray e (0, 0)) := heap_alloc_new w _
    rw [Addr.add_lit, Nat.zero_add, cell_of_row _ _ _ _ _ _ hr]
    simpa using hj
  have hgr : ∀ (cap : Nat) (zs : Array Value), n + m ≤ cap → cap ≤ maxLen → zs.size = (cap - (n + m)) * s →
      ((w.alloc (.cells cs.toArray e)).drew.alloc (.cells ((xs ++ cs).toArray ++ zs) e)).ownsRow w.heap.size e s (.slice (some ⟨(w.alloc (.cells cs.toArray e)).heap.size, 0, none⟩) (n + m) cap) (n + m) (xs ++ cs) := by
    intro cap zs h1 h2 h3
    have hlen : (xs ++ cs).length = (n + m) * s := by rw [List.length_append, hr.len, hl, Nat.add_mul]
    refine ⟨hlen, .inr ⟨_, cap, _, rfl, by simp, heap_alloc_new (w.alloc (.cells cs.toArray e)).drew _, h1, h2, ?_, ?_⟩⟩
    · rw [Array.size_append, List.size_toArray, hlen, h3, ← Nat.add_mul]
      congr 1
      omega
    · rw [Array.toList_append, ← hlen]
      exact List.take_left
  have hbl : ∀ o2, Below w.heap.size w ((w.alloc (.cells cs.toArray e)).drew.alloc o2) := fun o2 => (((Below.refl w.heap.size w).alloc (Nat.le_refl _) _).drew).alloc (by simp) o2
  have hcm : ∀ old, grownCap (w.alloc (.cells cs.toArray e)) (n + m) old e ≤ maxLen := fun old => grownCap_le_maxLen _ (n + m) old e (by unfold maxLen; omega)
  have hge : ∀ old, n + m ≤ grownCap (w.alloc (.cells cs.toArray e)) (n + m) old e := fun old => grownCap_ge _ (n + m) old e
  refine wpList_plain hgd fun K hK => ?_
  cases A with
  | none =>
    obtain rfl := hA rfl
    have hx0 : xs = [] := List.eq_nil_of_length_eq_zero (by simpa using hr.len)
    subst hx0
    have hrun := _root_.Go.run_append_nil (P := P) (w.alloc (.cells cs.toArray e)) t o.type e i z hu hi h5 ⟨w.heap.size, 0, none⟩ m m cs (by rw [h6]; exact hl) hnews hm (by omega) (by rw [h7]; rw [Nat.zero_add] at hn; omega)
    unfold Oper.wp
    simp [execOp, ho, resolve, invoke, builtin, hs, hx, hrun, Result.andThen]
    have h1 := hgr (grownCap (w.alloc (.cells cs.toArray e)) m 0 e) (Builtin.zeroCells z.cells (grownCap (w.alloc (.cells cs.toArray e)) m 0 e - m)) (by have := hge 0; rwa [Nat.zero_add] at this ⊢) (by have := hcm 0; rwa [Nat.zero_add] at this) (by rw [size_zeroCells, h3, Nat.zero_add])
    rw [List.nil_append, Nat.zero_add] at h1
    exact hK _ _ (h _ _ (by rw [Nat.zero_add]; simpa using h1) (hbl _))
  | some ad =>
    have holds : ∀ j u, xs[j]? = some u → (w.alloc (.cells cs.toArray e)).cell? (ad.add j) = some u := by
      intro j u hj
      have hjl : j < n * s := by rw [← hr.len]; exact (List.getElem?_eq_some_iff.1 hj).1
      obtain ⟨b, q, hA, hb, hc⟩ := hr.at_ (by rcases Nat.eq_zero_or_pos n with h0 | h0; simp [h0] at hjl; exact h0)
      injection hA with hA
      subst hA
      rw [Addr.add_lit]
      refine (World.cell?_of_block (w := w) (a := ⟨b, q + j, none⟩) (Below.heap_alloc w _ b (by omega))).trans ?_
      rw [hc j hjl, hj]
    have hrun := run_append_grow (P := P) (w.alloc (.cells cs.toArray e)) t o.type e i z hu hi h5 ad n n xs (by rw [h6]; exact hr.len) holds ⟨w.heap.size, 0, none⟩ m m cs (by rw [h6]; exact hl) hnews (by omega) (by omega) (growslice_fits (by omega) (by rw [h7]; exact hn))
    unfold Oper.wp
    simp [execOp, ho, resolve, invoke, builtin, hs, hx, hrun, Result.andThen]
    have h1 := hgr (grownCap (w.alloc (.cells cs.toArray e)) (n + m) n e) (Builtin.zeroCells z.cells (grownCap (w.alloc (.cells cs.toArray e)) (n + m) n e - (n + m))) (hge n) (hcm n) (by rw [size_zeroCells, h3])
    exact hK _ _ (h _ _ (by simpa using h1) (hbl _))
end
end Go.Proofs.YtnchgdjdfhfedaaDoor
