/- Words for memory: what a slice holds, and that it is kept. No statement of the seat is proved here; no condition. -/
import Derived.WalkKit
import Derived.WalkSpells
import Derived.WalkLawsBesides
import Derived.Deep.Draws
import Derived.Lib.Hide
import Derived.Carry
import Derived.SizedLaws
import Derived.Test.YtdkhnkmdnnddbaaOrd4
set_option linter.unusedSimpArgs false
set_option linter.unusedVariables false
namespace Go.Baro
open Go.RowKit

/-- The slice value '.slice A n c' holds the cells cs (s cells an element) and lies below block B. -/
structure Rd (w : World) (B s : Nat) (A : Option Addr) (n : Nat) (cs : List Value) : Prop where
  len : cs.length = n * s
  at_ : 0 < n → ∃ b o, A = some ⟨b, o, none⟩ ∧ b < B ∧ ∀ j, j < n * s → w.cell? ⟨b, o + j, none⟩ = cs[j]?

section
variable {w w' : World} {B B' s n : Nat} {A : Option Addr} {cs : List Value}

theorem Rd.nil (w : World) (B s : Nat) (A : Option Addr) : Rd w B s A 0 [] := ⟨by simp, fun h => absurd h (by omega)⟩

theorem Rd.keep (h : Rd w B s A n cs) (hk : ∀ b o, b < B → w'.cell? ⟨b, o, none⟩ = w.cell? ⟨b, o, none⟩) : Rd w' B s A n cs :=
  ⟨h.len, fun hn => by
    obtain ⟨b, o, hA, hb, hc⟩ := h.at_ hn
    exact ⟨b, o, hA, hb, fun j hj => (hk b _ hb).trans (hc j hj)⟩⟩

theorem Rd.below (h : Rd w B s A n cs) (hb : Below B w w') : Rd w' B s A n cs := h.keep fun _ _ hlt => hb.cell hlt
theorem Rd.heap (h : Rd w B s A n cs) (hh : w'.heap = w.heap) : Rd w' B s A n cs := h.keep fun b o _ => by simp [World.cell?, hh]
theorem Rd.more (h : Rd w B s A n cs) (hB : B ≤ B') : Rd w B' s A n cs :=
  ⟨h.len, fun hn => by
    obtain ⟨b, o, hA, hb, hc⟩ := h.at_ hn
    exact ⟨b, o, hA, by omega, hc⟩⟩
theorem Rd.size (h : Rd w B s A n cs) (hs : 0 < s) : Rd w w.heap.size s A n cs :=
  ⟨h.len, fun hn => by
    obtain ⟨b, o, hA, hb, hc⟩ := h.at_ hn
    refine ⟨b, o, hA, ?_, hc⟩
    have h0 : 0 < n * s := Nat.mul_pos hn hs
    have := hc 0 h0
    rw [List.getElem?_eq_getElem (by rw [h.len]; exact h0)] at this
    rcases Nat.lt_or_ge b w.heap.size with hlt | hge
    · exact hlt
    · simp [World.cell?, Array.getElem?_eq_none hge] at this⟩

theorem Rd.of_own {base : Nat} {e : TypeId} {c : Nat} (h : w.ownsRow base e s (.slice A n c) n cs) : Rd w w.heap.size s A n cs := by
  refine ⟨h.1, fun hn => ?_⟩
  rcases h.2 with ⟨_, h0⟩ | ⟨g, cap, cur, hv, _, hh, hnc, _, hsz, htake⟩
  · omega
  · have hA : A = some ⟨g, 0, none⟩ := by injection hv
    subst hA
    have hlt : g < w.heap.size := (Array.getElem?_eq_some_iff.1 hh).1
    refine ⟨g, 0, rfl, hlt, fun j hj => ?_⟩
    rw [Nat.zero_add, cell_of_row w g j cur e (0, 0) hh, ← htake, List.getElem?_take, if_pos hj]
    simp

theorem own_form {base : Nat} {e : TypeId} {v : Value} (h : w.ownsRow base e s v n cs) : ∃ A c, v = .slice A n c ∧ n ≤ c := by
  rcases h.2 with ⟨rfl, rfl⟩ | ⟨g, cap, cur, rfl, _, _, hc, _⟩
  · exact ⟨none, 0, rfl, Nat.le_refl _⟩
  · exact ⟨_, cap, rfl, hc⟩
end

/-- A slice of integers. -/
def RI (w : World) (B : Nat) (k : IntKind) (A : Option Addr) (n : Nat) (xs : List Int) : Prop := Rd w B 1 A n (xs.map (Value.int k))

section
variable {w w' : World} {B B' n : Nat} {k : IntKind} {A : Option Addr} {xs : List Int}
theorem RI.len (h : RI w B k A n xs) : xs.length = n := by have := Rd.len h; simpa using this
theorem RI.get (h : RI w B k A n xs) {i : Nat} (hi : i < n) : ∃ b o, A = some ⟨b, o, none⟩ ∧ b < B ∧ w.cell? ⟨b, o + i, none⟩ = some (.int k (xs[i]?.getD 0)) := by
  obtain ⟨b, o, hA, hb, hc⟩ := Rd.at_ h (by omega)
  refine ⟨b, o, hA, hb, ?_⟩
  rw [hc i (by omega), List.getElem?_map]
  have : i < xs.length := by rw [h.len]; exact hi
  simp [List.getElem?_eq_getElem this]
theorem RI.val (h : RI w B k A n xs) {i : Nat} (hi : i < n) : ∃ b o x, A = some ⟨b, o, none⟩ ∧ b < B ∧ w.cell? ⟨b, o + i, none⟩ = some (.int k x) ∧ Hid (xs[i]? = some x) ∧ x ∈ xs := by
  obtain ⟨b, o, hA, hb, hc⟩ := h.get hi
  have hl : i < xs.length := by rw [h.len]; exact hi
  refine ⟨b, o, xs[i], hA, hb, ?_, List.getElem?_eq_getElem hl, List.getElem_mem hl⟩
  rw [hc, List.getElem?_eq_getElem hl]; rfl
theorem RI.below (h : RI w B k A n xs) (hb : Below B w w') : RI w' B k A n xs := Rd.below h hb
theorem RI.heap (h : RI w B k A n xs) (hh : w'.heap = w.heap) : RI w' B k A n xs := Rd.heap h hh
theorem RI.more (h : RI w B k A n xs) (hB : B ≤ B') : RI w B' k A n xs := Rd.more h hB
theorem RI.nil (w : World) (B : Nat) (k : IntKind) (A : Option Addr) : RI w B k A 0 [] := Rd.nil w B 1 A
end

theorem at_take {α : Type} {l : List α} {i : Nat} {x : α} (h : l[i]? = some x) : l.take (i + 1) = l.take i ++ [x] := by
  obtain ⟨hi, rfl⟩ := List.getElem?_eq_some_iff.1 h
  exact List.take_succ_eq_append_getElem hi
theorem at_drop {α : Type} {l : List α} {i : Nat} {x : α} (h : l[i]? = some x) : l.drop i = x :: l.drop (i + 1) := by
  obtain ⟨hi, rfl⟩ := List.getElem?_eq_some_iff.1 h
  exact List.drop_eq_getElem_cons hi

/-- A block of the call's own: just these cells. -/
theorem below_set {B g : Nat} {a w w' : World} (h : Below B a w) (hg : w.grownBy w' (some g)) (hB : B ≤ g) (hs : B ≤ w.heap.size) : Below B a w' :=
  h.grown hg hs (fun k hk => by injection hk with hk; omega)

theorem _root_.Go.RowKit.Below.drewN {B : Nat} {a w : World} (h : Below B a w) (n : Nat) : Below B a (w.drewN n) := ⟨h.os, h.tape, h.output, h.size, h.block⟩

theorem ret_int {k : IntKind} {a b : Int} (h : a = b) : Ending.returned (.int k a) = .returned (.int k b) := by rw [h]
theorem ret_bool {a b : Bool} (h : a = b) : Ending.returned (.bool a) = .returned (.bool b) := by rw [h]
theorem ret_two {a b a' b' : Value} (h1 : a = a') (h2 : b = b') : Ending.returned (.tuple #[a, b]) = .returned (.tuple #[a', b']) := by rw [h1, h2]
theorem ret_three {a b c a' b' c' : Value} (h1 : a = a') (h2 : b = b') (h3 : c = c') : Ending.returned (.tuple #[a, b, c]) = .returned (.tuple #[a', b', c']) := by rw [h1, h2, h3]
theorem val_int {k : IntKind} {a b : Int} (h : a = b) : Value.int k a = .int k b := by rw [h]

/-- The slice type t, its elements' type e, their zero value, cells and bytes. -/
def Elt (P : Program) (t e : TypeId) (z : Value) (s by' : Nat) : Prop :=
  P.underlying t = some (.slice e) ∧ (∃ i, P.info? e = some i ∧ i.zero = some z ∧ i.size = s ∧ i.bytes = by') ∧ z.cells.size = s ∧ 0 < s
theorem Elt.mk' {P : Program} {t e : TypeId} {z : Value} {s by' : Nat} (h1 : P.underlying t = some (.slice e)) (h2 : (P.info? e).map (fun i => (i.zero, i.size, i.bytes)) = some (some z, s, by'))
    (h3 : z.cells.size = s) (h4 : 0 < s) : Elt P t e z s by' := by
  obtain ⟨i, hi, h5, h6, h7⟩ := info_parts h2
  exact ⟨h1, ⟨i, hi, h5, h6, h7⟩, h3, h4⟩

section
variable {P : Program} {t e : TypeId} {z : Value} {s by' : Nat} {ops : Array Oper} {rest : List Oper} {o : Oper} {a : Act} {Q : Exit → Act → World → Prop}

/-- append(v, x..) where x is a row that was written out just ahead of it. -/
theorem app_lit (E : Elt P t e z s by') (w : World) (hgd : o.guard = none) (l x : Operand) (ho : o.op = .call { callee := .builtin .append, args := #[l, x], argTypes := #[t, t] })
    (base : Nat) (v : Value) (n : Nat) (xs : List Value) (hs : a.eval l = v) (hown : w.ownsRow base e s v n xs) (m : Nat) (cs : List Value)
    (hx : a.eval x = .slice (some ⟨w.heap.size, 0, none⟩) m m) (hl : cs.length = m * s) (h1 : ∀ u ∈ cs, u.oneCell' = true) (hn : (n + m) * by' ≤ 140737488355328) (hn' : n + m ≤ 140737488355328) (hb : base ≤ w.heap.size)
    (h : ∀ v' w', w'.ownsRow base e s v' (n + m) (xs ++ cs) → (w.alloc (.cells cs.toArray e)).grownBy w' v.ownBlock → (∀ w0, Below base w0 w → Below base w0 w') → base ≤ w'.heap.size → wpList P ops Q rest (a.put o.dst v') w') :
    wpList P ops Q (o :: rest) a (w.alloc (.cells cs.toArray e)) := by
  obtain ⟨hu, ⟨i, hi, h5, h6, h7⟩, h3, h4⟩ := E
  refine wpList_append_own _ hgd l x t ho base e i z s by' hu hi h5 h6 h7 h3 h4 v n xs hs (hown.alloc _) ⟨w.heap.size, 0, none⟩ m m cs hx hl ?_ h1 (by unfold maxLen; omega) hn (by simp; omega) ?_
  · intro j u hj
    have hr : (w.alloc (.cells cs.toArray e)).heap[w.heap.size]? = some (.cells cs.toArray e (0, 0)) := heap_alloc_new w _
    rw [Addr.add_lit, Nat.zero_add, cell_of_row _ _ _ _ _ _ hr]
    simpa using hj
  · intro v' w' ho hg _
    refine h v' w' ho hg (fun w0 hb0 => ?_) ?_
    · exact (hb0.alloc hb _).grown hg (by simp; omega) (fun k hk => (hown.lt k hk).1)
    · have := hg.size; simp at this; omega

/-- make([]T, n) -/
theorem make_all (E : Elt P t e z s by') (w : World) (hgd : o.guard = none) (l c : Operand) (ho : o.op = Op.makeSlice t l c) (base : Nat) (kl kc : IntKind) (L C : Int) (n : Nat)
    (hl : a.eval l = .int kl L) (hc : a.eval c = .int kc C) (hL : L = n) (hC : C = n) (hn : by' * n ≤ 140737488355328) (hn' : n ≤ 140737488355328) (hb : base ≤ w.heap.size)
    (h : ∀ w', w'.ownsRow base e s (.slice (some ⟨w.heap.size, 0, none⟩) n n) n (madeCells z.cells (n * s)).toList → (∀ w0, Below base w0 w → Below base w0 w') → base ≤ w'.heap.size → w.grownBy w' none →
      wpList P ops Q rest (a.put o.dst (.slice (some ⟨w.heap.size, 0, none⟩) n n)) w') : wpList P ops Q (o :: rest) a w := by
  obtain ⟨hu, ⟨i, hi, h5, h6, h7⟩, h3, h4⟩ := E
  refine wpList_make_full w hgd l c t ho base e i z s hu hi h5 h6 kl kc L C n hl hc hL hC (by rw [h7]; omega) (by unfold maxLen; omega) hb ?_
  intro w' ho hg
  refine h w' ho (fun w0 hb0 => hb0.grown hg hb (fun k hk => by cases hk)) ?_ hg
  have := hg.size; omega
end

theorem one1 (k : IntKind) (x : Int) : ∀ u ∈ [Value.int k x], u.oneCell' = true := by
  intro u hu; simp only [List.mem_singleton] at hu; subst hu; rfl
theorem one2 (k k' : IntKind) (x y : Int) : ∀ u ∈ [Value.int k x, Value.int k' y], u.oneCell' = true := by
  intro u hu; simp only [List.mem_cons, List.not_mem_nil, or_false] at hu; rcases hu with rfl | rfl <;> rfl
theorem madeCells_one (v : Value) (hv : v.cells = #[v]) (n : Nat) : (madeCells v.cells (n * 1)).toList = List.replicate n v := by
  simp only [madeCells, hv]
  apply List.ext_getElem <;> simp [Nat.mod_one]

theorem ord_done {P : Program} {ops : Array Oper} {md : Region.Mode} {h0 : Array Obj} {Q : Exit → Act → World → Prop} {a : Act} {w : World} (h : Q .normal a w) : Ord.wpOrd P md ops h0 (Ord.Only Q) [] a w := ⟨rfl, h⟩
end Go.Baro
