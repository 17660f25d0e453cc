/- A thread of package vm that lies within a block, among other cells. No statement of the seat is proved here; no condition. -/
import Derived.Test.YtjihopbapnfppaaDoorVmMem
import Derived.Test.YtjihopbapnfppaaDoorLibU
set_option linter.unusedSimpArgs false
set_option linter.unusedVariables false
namespace Go.Baro
open Go.RowKit

section
variable {pre c post : List Value} {i : Nat} {u : Value}
theorem mid_at (h : i < c.length) : (pre ++ (c ++ post))[pre.length + i]? = c[i]? := by
  rw [List.getElem?_append_right (by omega), Nat.add_sub_cancel_left, List.getElem?_append_left h]
theorem mid_set (h : i < c.length) : (pre ++ (c ++ post)).set (pre.length + i) u = pre ++ (c.set i u ++ post) := by
  rw [List.set_append_right _ _ (by omega), Nat.add_sub_cancel_left, List.set_append_left _ _ h]
end
/-- The thread lies in block b from cell o on; what it has told and the shared words are rows of the call's own, in two blocks from B on. -/
structure To (T I : TypeId) (pre post : List Value) (w : World) (B b o : Nat) (cv tv wv : Value) (s : Vs) : Prop where
  box : Box w b T (pre ++ (thC cv s.p s.r tv ++ post))
  off : pre.length = o
  told : w.ownsRow B I 1 tv s.t.length (s.t.map (Value.int .i64))
  words : w.ownsRow B I 1 wv s.w.length (s.w.map (Value.int .i64))
  apart : wv.ownBlock = none ∨ wv.ownBlock ≠ tv.ownBlock
  ne : I ≠ T
section
variable {T I : TypeId} {pre post : List Value} {w w' : World} {B b o : Nat} {cv tv wv : Value} {s : Vs}
theorem To.lt (h : To T I pre post w B b o cv tv wv s) : b < w.heap.size := h.box.lt
theorem To.kept (h : To T I pre post w B b o cv tv wv s) {row : Option Nat} (hg : w.grownBy w' row) (hb : some b ≠ row) (ht : ∀ k, tv.ownBlock = some k → some k ≠ row) (hw : ∀ k, wv.ownBlock = some k → some k ≠ row) : To T I pre post w' B b o cv tv wv s := by
  refine ⟨h.box.grown hg hb, h.off, h.told.kept hg ?_, h.words.kept hg ?_, h.apart, h.ne⟩
  · cases hv : tv.ownBlock with
    | none => exact .inl rfl
    | some k => exact .inr (ht k hv)
  · cases hv : wv.ownBlock with
    | none => exact .inl rfl
    | some k => exact .inr (hw k hv)
theorem To.alloc (h : To T I pre post w B b o cv tv wv s) (x : Obj) : To T I pre post (w.alloc x) B b o cv tv wv s := h.kept (World.grownBy_alloc w x none) (by simp) (by simp) (by simp)
theorem To.drewN (h : To T I pre post w B b o cv tv wv s) (n : Nat) : To T I pre post (w.drewN n) B b o cv tv wv s := ⟨h.box, h.off, h.told, h.words, h.apart, h.ne⟩
theorem To.drew (h : To T I pre post w B b o cv tv wv s) : To T I pre post w.drew B b o cv tv wv s := ⟨h.box, h.off, h.told, h.words, h.apart, h.ne⟩
theorem To.cell (h : To T I pre post w B b o cv tv wv s) {i : Nat} (hi : i < 27) : w.cell? ⟨b, o + i, none⟩ = (thC cv s.p s.r tv)[i]? := by
  have := h.box.cell (pre.length + i)
  rw [mid_at (by rw [thC_len]; exact hi), h.off] at this
  exact this
theorem To.boxed (h : To T I pre post w B b o cv tv wv s) {i : Nat} {u : Value} {q : Int} {r : Int → Int} (hi : i < 27) (hs : (thC cv s.p s.r tv).set i u = thC cv q r tv) : To T I pre post (w.setCell ⟨b, o + i, none⟩ u) B b o cv tv wv { s with p := q, r := r } := by
  have hg := grown_setCell w ⟨b, o + i, none⟩ u
  have h1 := h.box.set (pre.length + i) u
  rw [mid_set (by rw [thC_len]; exact hi), hs, h.off] at h1
  refine ⟨h1, h.off, h.told.kept hg ?_, h.words.kept hg ?_, h.apart, h.ne⟩
  · cases hv : tv.ownBlock with
    | none => exact .inl rfl
    | some k => exact .inr fun he => by have := h.box.ne h.told h.ne; rw [hv] at this; exact this he.symm
  · cases hv : wv.ownBlock with
    | none => exact .inl rfl
    | some k => exact .inr fun he => by have := h.box.ne h.words h.ne; rw [hv] at this; exact this he.symm
theorem To.next (h : To T I pre post w B b o cv tv wv s) (q : Int) : To T I pre post (w.setCell ⟨b, o + 1, none⟩ (.int .i64 q)) B b o cv tv wv { s with p := q } := h.boxed (by omega) (thC_set_p q)
theorem To.reg (h : To T I pre post w B b o cv tv wv s) {i : Nat} (hi : i < 24) (v : Int) : To T I pre post (w.setCell ⟨b, o + 2 + i, none⟩ (.int .i64 v)) B b o cv tv wv { s with r := upd s.r i v } := by
  rw [Nat.add_assoc]
  exact h.boxed (by omega) (thC_set_reg hi v)
theorem To.word (h : To T I pre post w B b o cv tv wv s) {g n c q : Nat} (hv : wv = .slice (some ⟨g, 0, none⟩) n c) (v : Int) : To T I pre post (w.setCell ⟨g, q, none⟩ (.int .i64 v)) B b o cv tv wv { s with w := s.w.set q v } := by
  subst hv
  have hl : n = s.w.length := by
    obtain ⟨A, c', he, _⟩ := own_form h.words
    injection he
  subst hl
  have hst := World.ownsRow.stored h.words q (.int .i64 v)
  refine ⟨h.box.grown hst.2 (h.box.ne h.words h.ne), h.off, h.told.kept hst.2 ?_, ?_, h.apart, h.ne⟩
  · cases ht : tv.ownBlock with
    | none => exact .inl rfl
    | some k =>
      refine .inr fun he => ?_
      rcases h.apart with ha | ha
      · cases ha
      · rw [ht] at ha; exact ha he.symm
  · have := hst.1
    rw [← List.map_set] at this
    show World.ownsRow _ _ _ _ _ (s.w.set q v).length _
    rw [List.length_set]
    exact this
theorem To.tell (h : To T I pre post w B b o cv tv wv s) {v' : Value} {x : Int} {m : Nat} {ob : Obj} (hg : (w.alloc ob).grownBy w' tv.ownBlock) (ho : w'.ownsRow B I 1 v' m (s.t.map (Value.int .i64) ++ [.int .i64 x])) (hm : m = s.t.length + 1)
    (hb : v'.ownBlock = tv.ownBlock ∨ v'.ownBlock = some (w.alloc ob).heap.size) : Box w' b T (pre ++ (thC cv s.p s.r tv ++ post)) ∧ To T I pre post (w'.setCell ⟨b, o + 26, none⟩ v') B b o cv v' wv { s with t := s.t ++ [x] } := by
  have hb1 := (h.box.alloc ob).grown hg (h.box.ne h.told h.ne)
  have hg2 := grown_setCell w' ⟨b, o + 26, none⟩ v'
  have hw1 : w'.ownsRow B I 1 wv s.w.length (s.w.map (Value.int .i64)) := (h.words.alloc ob).kept hg h.apart
  refine ⟨hb1, ?_, h.off, ?_, ?_, ?_, h.ne⟩
  · have := hb1.set (pre.length + 26) v'
    rw [mid_set (by rw [thC_len]; omega), thC_set_told, h.off] at this
    exact this
  · show World.ownsRow _ _ _ _ _ (s.t ++ [x]).length _
    rw [List.length_append, List.length_singleton, ← hm, List.map_append]
    refine ho.kept hg2 ?_
    cases hv : v'.ownBlock with
    | none => exact .inl rfl
    | some k => exact .inr fun he => by have := hb1.ne ho h.ne; rw [hv] at this; exact this he.symm
  · refine hw1.kept hg2 ?_
    cases hv : wv.ownBlock with
    | none => exact .inl rfl
    | some k => exact .inr fun he => by have := hb1.ne hw1 h.ne; rw [hv] at this; exact this he.symm
  · rcases hb with hb | hb
    · rw [hb]; exact h.apart
    · rw [hb]
      cases hv : wv.ownBlock with
      | none => exact .inl rfl
      | some k =>
        refine .inr fun he => ?_
        have := (h.words.lt _ hv).2
        injection he with he
        simp at he
        omega
theorem To.tellB (h : To T I pre post w B b o cv tv wv s) {v' : Value} {x : Int} {m : Nat} (hB : B ≤ w.heap.size) (hb : Below w.heap.size w w') (ho : w'.ownsRow w.heap.size I 1 v' m (s.t.map (Value.int .i64) ++ [.int .i64 x])) (hm : m = s.t.length + 1) :
    Box w' b T (pre ++ (thC cv s.p s.r tv ++ post)) ∧ To T I pre post (w'.setCell ⟨b, o + 26, none⟩ v') B b o cv v' wv { s with t := s.t ++ [x] } ∧ ∃ k, v'.ownBlock = some k ∧ w.heap.size ≤ k := by
  have hb1 : Box w' b T _ := (hb.block b h.lt).trans h.box
  have hg2 := grown_setCell w' ⟨b, o + 26, none⟩ v'
  have hw1 : w'.ownsRow B I 1 wv s.w.length (s.w.map (Value.int .i64)) := own_below h.words hb
  have hv' : ∃ k, v'.ownBlock = some k ∧ w.heap.size ≤ k := by
    rcases ho.2 with ⟨_, h0⟩ | ⟨g, cap, cur, rfl, hg, _⟩
    · omega
    · exact ⟨g, rfl, hg⟩
  obtain ⟨k', hk1, hk2⟩ := hv'
  refine ⟨hb1, ⟨?_, h.off, ?_, ?_, ?_, h.ne⟩, k', hk1, hk2⟩
  · have := hb1.set (pre.length + 26) v'
    rw [mid_set (by rw [thC_len]; omega), thC_set_told, h.off] at this
    exact this
  · show World.ownsRow _ _ _ _ _ (s.t ++ [x]).length _
    rw [List.length_append, List.length_singleton, ← hm, List.map_append]
    have h2 : w'.ownsRow B I 1 v' m (s.t.map (Value.int .i64) ++ [.int .i64 x]) := by
      refine ⟨ho.1, ?_⟩
      rcases ho.2 with q | ⟨g, cap, cur, q1, q2, q3⟩
      · exact .inl q
      · exact .inr ⟨g, cap, cur, q1, by omega, q3⟩
    refine h2.kept hg2 ?_
    refine .inr fun he => ?_
    have h3 := h.lt
    rw [hk1] at he
    injection he with he
    dsimp only at he
    omega
  · refine hw1.kept hg2 ?_
    cases hv : wv.ownBlock with
    | none => exact .inl rfl
    | some k => exact .inr fun he => by have := hb1.ne hw1 h.ne; rw [hv] at this; exact this he.symm
  · cases hv : wv.ownBlock with
    | none => exact .inl rfl
    | some k =>
      refine .inr fun he => ?_
      have := (h.words.lt _ hv).2
      rw [hk1] at he
      injection he with he
      omega
theorem To.code (h : To T I pre post w B b o cv tv wv s) : w.cell? ⟨b, o, none⟩ = some cv := h.cell (i := 0) (by omega)
theorem To.at_ (h : To T I pre post w B b o cv tv wv s) : w.cell? ⟨b, o + 1, none⟩ = some (.int .i64 s.p) := h.cell (by omega)
theorem To.get (h : To T I pre post w B b o cv tv wv s) {i : Nat} (hi : i < 24) : w.cell? ⟨b, o + 2 + i, none⟩ = some (.int .i64 (s.r i)) := by
  rw [Nat.add_assoc]
  exact (h.cell (by omega)).trans (thC_reg hi)
theorem To.toldv (h : To T I pre post w B b o cv tv wv s) : w.cell? ⟨b, o + 26, none⟩ = some tv := (h.cell (by omega)).trans thC_told
theorem To.some (h : To T I pre post w B b o cv tv wv s) {q : Nat} (hq : q < s.w.length) : ∃ g c x, wv = .slice (Option.some ⟨g, 0, none⟩) s.w.length c ∧ B ≤ g ∧ g < w.heap.size ∧ g ≠ b ∧ w.cell? ⟨g, q, none⟩ = Option.some (.int .i64 x) ∧ Hid (s.w[q]? = Option.some x) ∧ w.frozen? ⟨g, q, none⟩ = false := by
  obtain ⟨g, c, rfl, h1, h2, h3⟩ := own_some h.words (by omega)
  obtain ⟨x, hx, HX, _⟩ := own_val h.words hq
  refine ⟨g, c, x, rfl, h1, h2, ?_, hx, HX, h.words.frozenAt q⟩
  intro he
  have := h.box.ne h.words h.ne
  exact this (by rw [he]; rfl)


end
end Go.Baro
