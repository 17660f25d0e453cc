/- A thread of package vm as it lies in memory. No statement of the seat is proved here; no condition. -/
import Derived.Test.YtjihopbapnfppaaDoorLibO
import Derived.Test.YtjihopbapnfppaaDoorLibB
import Derived.Laws.Tables
import Derived.Laws.OwnMore
set_option linter.unusedSimpArgs false
set_option linter.unusedVariables false
namespace Go.Baro
open Go.RowKit

def regV (r : Int → Int) : List Value := (List.range 24).map fun i => Value.int .i64 (r (i : Nat))
/-- The cells of a thread: its code, the next instruction, the registers, what it has told. -/
def thC (cv : Value) (p : Int) (r : Int → Int) (tv : Value) : List Value := cv :: .int .i64 p :: (regV r ++ [tv])
theorem regV_len (r : Int → Int) : (regV r).length = 24 := by simp [regV]
theorem regV_at (r : Int → Int) {i : Nat} (h : i < 24) : (regV r)[i]? = some (.int .i64 (r i)) := by simp [regV, List.getElem?_map, List.getElem?_range h]
section
variable {cv tv : Value} {p : Int} {r : Int → Int}
theorem thC_len : (thC cv p r tv).length = 27 := by simp [thC, regV_len]
theorem thC_reg {i : Nat} (h : i < 24) : (thC cv p r tv)[2 + i]? = some (.int .i64 (r i)) := by
  rw [thC, show 2 + i = i + 1 + 1 by omega, List.getElem?_cons_succ, List.getElem?_cons_succ, List.getElem?_append_left (by rw [regV_len]; exact h), regV_at r h]
theorem thC_told : (thC cv p r tv)[26]? = some tv := by
  rw [thC, show 26 = 24 + 1 + 1 by rfl, List.getElem?_cons_succ, List.getElem?_cons_succ, List.getElem?_append_right (by rw [regV_len]; omega), regV_len]; rfl
theorem thC_set_p (q : Int) : (thC cv p r tv).set 1 (.int .i64 q) = thC cv q r tv := rfl
theorem regV_set {i : Nat} (h : i < 24) (v : Int) : (regV r).set i (.int .i64 v) = regV (upd r i v) := by
  refine List.ext_getElem? fun j => ?_
  rw [List.getElem?_set]
  by_cases hj : j < 24
  · rw [regV_at _ hj, regV_at _ hj, regV_len]
    by_cases hij : i = j
    · subst hij; rw [if_pos rfl, if_pos h, upd_same]
    · rw [if_neg hij, upd_other _ _ (by omega)]
  · rw [List.getElem?_eq_none (by rw [regV_len]; omega), List.getElem?_eq_none (by rw [regV_len]; omega), if_neg (by omega)]
theorem thC_set_reg {i : Nat} (h : i < 24) (v : Int) : (thC cv p r tv).set (2 + i) (.int .i64 v) = thC cv p (upd r i v) tv := by
  rw [thC, show 2 + i = i + 1 + 1 by omega, List.set_cons_succ, List.set_cons_succ, List.set_append_left _ _ (by rw [regV_len]; exact h), regV_set h]; rfl
theorem thC_set_told (u : Value) : (thC cv p r tv).set 26 u = thC cv p r u := by
  rw [thC, show 26 = 24 + 1 + 1 by rfl, List.set_cons_succ, List.set_cons_succ, List.set_append_right _ _ (by rw [regV_len]; omega), regV_len]; rfl
end

/-- The thread lies in block b; what it has told and the shared words are rows of the call's own, in two blocks from B on. -/
structure Th (T I : TypeId) (w : World) (B b : Nat) (cv tv wv : Value) (s : Vs) : Prop where
  box : Box w b T (thC cv s.p s.r tv)
  told : w.ownsRow B I 1 tv s.t.length (s.t.map (Value.int .i64))
  words : w.ownsRow B I 1 wv s.w.length (s.w.map (Value.int .i64))
  apart : wv.ownBlock = none ∨ wv.ownBlock ≠ tv.ownBlock
  ne : I ≠ T
section
variable {T I : TypeId} {w w' : World} {B b : Nat} {cv tv wv : Value} {s : Vs}
theorem Th.lt (h : Th T I w B b cv tv wv s) : b < w.heap.size := h.box.lt
theorem Th.kept (h : Th T I w B b cv tv wv s) {row : Option Nat} (hg : w.grownBy w' row) (hb : some b ≠ row) (ht : ∀ k, tv.ownBlock = some k → some k ≠ row) (hw : ∀ k, wv.ownBlock = some k → some k ≠ row) : Th T I w' B b cv tv wv s := by
  refine ⟨h.box.grown hg hb, h.told.kept hg ?_, h.words.kept hg ?_, h.apart, h.ne⟩
  · cases hv : tv.ownBlock with
    | none => exact .inl rfl
    | some k => exact .inr (ht k hv)
  · cases hv : wv.ownBlock with
    | none => exact .inl rfl
    | some k => exact .inr (hw k hv)
theorem Th.alloc (h : Th T I w B b cv tv wv s) (o : Obj) : Th T I (w.alloc o) B b cv tv wv s := h.kept (World.grownBy_alloc w o none) (by simp) (by simp) (by simp)
theorem Th.drewN (h : Th T I w B b cv tv wv s) (n : Nat) : Th T I (w.drewN n) B b cv tv wv s := ⟨h.box, h.told, h.words, h.apart, h.ne⟩
theorem Th.drew (h : Th T I w B b cv tv wv s) : Th T I w.drew B b cv tv wv s := ⟨h.box, h.told, h.words, h.apart, h.ne⟩
theorem Th.boxed (h : Th T I w B b cv tv wv s) {i : Nat} {u : Value} {q : Int} {r : Int → Int} (hs : (thC cv s.p s.r tv).set i u = thC cv q r tv) : Th T I (w.setCell ⟨b, i, none⟩ u) B b cv tv wv { s with p := q, r := r } := by
  have hg := grown_setCell w ⟨b, i, none⟩ u
  have h1 := h.box.set i u
  rw [hs] at h1
  refine ⟨h1, h.told.kept hg ?_, h.words.kept hg ?_, h.apart, h.ne⟩
  · cases hv : tv.ownBlock with
    | none => exact .inl rfl
    | some k => exact .inr fun he => by have := h.box.ne h.told h.ne; rw [hv] at this; exact this he.symm
  · cases hv : wv.ownBlock with
    | none => exact .inl rfl
    | some k => exact .inr fun he => by have := h.box.ne h.words h.ne; rw [hv] at this; exact this he.symm
theorem Th.next (h : Th T I w B b cv tv wv s) (q : Int) : Th T I (w.setCell ⟨b, 1, none⟩ (.int .i64 q)) B b cv tv wv { s with p := q } := h.boxed (thC_set_p q)
theorem Th.reg (h : Th T I w B b cv tv wv s) {i : Nat} (hi : i < 24) (v : Int) : Th T I (w.setCell ⟨b, 2 + i, none⟩ (.int .i64 v)) B b cv tv wv { s with r := upd s.r i v } := h.boxed (thC_set_reg hi v)
theorem Th.word (h : Th T I w B b cv tv wv s) {g n c q : Nat} (hv : wv = .slice (some ⟨g, 0, none⟩) n c) (v : Int) : Th T I (w.setCell ⟨g, q, none⟩ (.int .i64 v)) B b cv tv wv { s with w := s.w.set q v } := by
  subst hv
  have hl : n = s.w.length := by
    obtain ⟨A, c', he, _⟩ := own_form h.words
    injection he
  subst hl
  have hst := World.ownsRow.stored h.words q (.int .i64 v)
  refine ⟨h.box.grown hst.2 (h.box.ne h.words h.ne), h.told.kept hst.2 ?_, ?_, h.apart, h.ne⟩
  · cases ht : tv.ownBlock with
    | none => exact .inl rfl
    | some k =>
      refine .inr fun he => ?_
      rcases h.apart with ha | ha
      · cases ha
      · rw [ht] at ha; exact ha he.symm
  · have := hst.1
    rw [← List.map_set] at this
    show World.ownsRow _ _ _ _ _ (s.w.set q v).length _
    rw [List.length_set]
    exact this
/-- One number more is told: the row has grown, and the thread has it. -/
theorem Th.tell (h : Th T I w B b cv tv wv s) {v' : Value} {x : Int} {m : Nat} {o : Obj} (hg : (w.alloc o).grownBy w' tv.ownBlock) (ho : w'.ownsRow B I 1 v' m (s.t.map (Value.int .i64) ++ [.int .i64 x])) (hm : m = s.t.length + 1)
    (hb : v'.ownBlock = tv.ownBlock ∨ v'.ownBlock = some (w.alloc o).heap.size) : Box w' b T (thC cv s.p s.r tv) ∧ Th T I (w'.setCell ⟨b, 26, none⟩ v') B b cv v' wv { s with t := s.t ++ [x] } := by
  have hb1 := (h.box.alloc o).grown hg (h.box.ne h.told h.ne)
  have hg2 := grown_setCell w' ⟨b, 26, none⟩ v'
  have hw1 : w'.ownsRow B I 1 wv s.w.length (s.w.map (Value.int .i64)) := (h.words.alloc o).kept hg h.apart
  refine ⟨hb1, ?_, ?_, ?_, ?_, h.ne⟩
  · have := hb1.set 26 v'
    rw [thC_set_told] at this
    exact this
  · show World.ownsRow _ _ _ _ _ (s.t ++ [x]).length _
    rw [List.length_append, List.length_singleton, ← hm, List.map_append]
    refine ho.kept hg2 ?_
    cases hv : v'.ownBlock with
    | none => exact .inl rfl
    | some k => exact .inr fun he => by have := hb1.ne ho h.ne; rw [hv] at this; exact this he.symm
  · refine hw1.kept hg2 ?_
    cases hv : wv.ownBlock with
    | none => exact .inl rfl
    | some k => exact .inr fun he => by have := hb1.ne hw1 h.ne; rw [hv] at this; exact this he.symm
  · rcases hb with hb | hb
    · rw [hb]; exact h.apart
    · rw [hb]
      cases hv : wv.ownBlock with
      | none => exact .inl rfl
      | some k =>
        refine .inr fun he => ?_
        have := (h.words.lt _ hv).2
        injection he with he
        simp at he
        omega
theorem Th.code (h : Th T I w B b cv tv wv s) : w.cell? ⟨b, 0, none⟩ = some cv := h.box.cell 0
theorem Th.at_ (h : Th T I w B b cv tv wv s) : w.cell? ⟨b, 1, none⟩ = some (.int .i64 s.p) := h.box.cell 1
theorem Th.get (h : Th T I w B b cv tv wv s) {i : Nat} (hi : i < 24) : w.cell? ⟨b, 2 + i, none⟩ = some (.int .i64 (s.r i)) := (h.box.cell _).trans (thC_reg hi)
theorem Th.toldv (h : Th T I w B b cv tv wv s) : w.cell? ⟨b, 26, none⟩ = some tv := (h.box.cell _).trans thC_told
/-- The shared words, where there is one. -/
theorem Th.some (h : Th T I w B b cv tv wv s) {q : Nat} (hq : q < s.w.length) : ∃ g c x, wv = .slice (Option.some ⟨g, 0, none⟩) s.w.length c ∧ B ≤ g ∧ g < w.heap.size ∧ g ≠ b ∧ w.cell? ⟨g, q, none⟩ = Option.some (.int .i64 x) ∧ Hid (s.w[q]? = Option.some x) ∧ w.frozen? ⟨g, q, none⟩ = false := by
  obtain ⟨g, c, rfl, h1, h2, h3⟩ := own_some h.words (by omega)
  obtain ⟨x, hx, HX, _⟩ := own_val h.words hq
  refine ⟨g, c, x, rfl, h1, h2, ?_, hx, HX, h.words.frozenAt q⟩
  intro he
  have := h.box.ne h.words h.ne
  exact this (by rw [he]; rfl)
end

/-- A whole struct is stored into a block of the call's own. -/
theorem store_box {P : Program} {ops : Array Oper} {rest : List Oper} {o : Oper} {a : Act} {w : World} {Q : Exit → Act → World → Prop} (hgd : o.guard = none) (hdst : o.dst = none) (ty : TypeId) (x y : Operand) (ho : o.op = .store ty x y)
    (g : Nat) (cells : List Value) (hx : a.eval x = .pointer (some ⟨g, 0, none⟩)) (hy : a.eval y = .agg cells.toArray)
    (t : TypeId) (old : List Value) (hg : Box w g t old) (hi : (P.info? ty).map (·.size) = some cells.length)
    (hold : old.length = cells.length) (h1 : ∀ v ∈ cells, v.oneCell' = true)
    (h : ∀ w', Hid (Box w' g t cells) → w.grownBy w' (some g) → wpList P ops Q rest a w') : wpList P ops Q (o :: rest) a w := by
  refine wpList_store_row hgd ty x y ho g cells.toArray hx hy t old.toArray hg (by simpa using hi) (by simpa using hold) (Array.all_eq_true_iff_forall_mem.2 (fun v hv => h1 v (by simpa using hv))) ?_
  rw [hdst]
  refine h _ (setRow_heap w g _ _ t _ hg) ⟨rfl, rfl, rfl, by simp [World.setRow], fun k _ hk => setRow_other w g k _ (fun e => hk (by rw [e]))⟩
theorem results_tmp4 {fn : Func} {t u v x : Tmp} (h : fn.results = #[.tmp t, .tmp u, .tmp v, .tmp x]) (tmps : Array Value) (P : Program) (w : World) :
    (results fn tmps).run P w = .ok (.tuple #[tmps.getD t undef, tmps.getD u undef, tmps.getD v undef, tmps.getD x undef]) w := by
  simp [results, h]
theorem thC_one {cv tv : Value} {p : Int} {r : Int → Int} (hc : cv.oneCell' = true) (ht : tv.oneCell' = true) : ∀ v ∈ thC cv p r tv, v.oneCell' = true := by
  intro v hv
  simp only [thC, regV, List.mem_cons, List.mem_append, List.mem_map, List.mem_singleton, List.not_mem_nil, or_false] at hv
  rcases hv with rfl | rfl | ⟨i, _, rfl⟩ | rfl
  · exact hc
  · rfl
  · rfl
  · exact ht
end Go.Baro
