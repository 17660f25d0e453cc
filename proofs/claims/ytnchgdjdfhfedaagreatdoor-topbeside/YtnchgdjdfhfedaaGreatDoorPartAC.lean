/- Of this claim's own texts these, one behind the other: Lib, Open, LibBox, VmPure. No statement of the seat is proved here; no condition but those that stand at the theorems. -/
import Derived.WalkKit
import Derived.WalkSpells
import Derived.WalkLawsBesides
import Derived.Deep.Draws
import Derived.Lib.Hide
import Derived.Carry
import Derived.SizedLaws
import Derived.Test.YtnchgdjdfhfedaaGreatDoorPartAB
import Derived.Test.YtnchgdjdfhfedaaGreatDoorRows
import Derived.ProofKit
import Derived.OpenShut
import Derived.ShutString
import Derived.ChangeOld
import Derived.Laws.ResultCell
import Derived.RowKit
import Derived.IntWalk
set_option linter.unusedSimpArgs false
set_option linter.unusedVariables false
namespace Go.Baro
open Go.RowKit

/-- The slice value '.slice A n c' holds the cells cs (s cells an element) and lies below block B. -/
structure Rd (w : World) (B s : Nat) (A : Option Addr) (n : Nat) (cs : List Value) : Prop where
  len : cs.length = n * s
  at_ : 0 < n → ∃ b o, A = some ⟨b, o, none⟩ ∧ b < B ∧ ∀ j, j < n * s → w.cell? ⟨b, o + j, none⟩ = cs[j]?

section
variable {w w' : World} {B B' s n : Nat} {A : Option Addr} {cs : List Value}

theorem Rd.nil (w : World) (B s : Nat) (A : Option Addr) : Rd w B s A 0 [] := ⟨by simp, fun h => absurd h (by omega)⟩

theorem Rd.keep (h : Rd w B s A n cs) (hk : ∀ b o, b < B → w'.cell? ⟨b, o, none⟩ = w.cell? ⟨b, o, none⟩) : Rd w' B s A n cs :=
  ⟨h.len, fun hn => by
    obtain ⟨b, o, hA, hb, hc⟩ := h.at_ hn
    exact ⟨b, o, hA, hb, fun j hj => (hk b _ hb).trans (hc j hj)⟩⟩

theorem Rd.below (h : Rd w B s A n cs) (hb : Below B w w') : Rd w' B s A n cs := h.keep fun _ _ hlt => hb.cell hlt
theorem Rd.heap (h : Rd w B s A n cs) (hh : w'.heap = w.heap) : Rd w' B s A n cs := h.keep fun b o _ => by simp [World.cell?, hh]
theorem Rd.more (h : Rd w B s A n cs) (hB : B ≤ B') : Rd w B' s A n cs :=
  ⟨h.len, fun hn => by
    obtain ⟨b, o, hA, hb, hc⟩ := h.at_ hn
    exact ⟨b, o, hA, by omega, hc⟩⟩
theorem Rd.size (h : Rd w B s A n cs) (hs : 0 < s) : Rd w w.heap.size s A n cs :=
  ⟨h.len, fun hn => by
    obtain ⟨b, o, hA, hb, hc⟩ := h.at_ hn
    refine ⟨b, o, hA, ?_, hc⟩
    have h0 : 0 < n * s := Nat.mul_pos hn hs
    have := hc 0 h0
    rw [List.getElem?_eq_getElem (by rw [h.len]; exact h0)] at this
    rcases Nat.lt_or_ge b w.heap.size with hlt | hge
    · exact hlt
    · simp [World.cell?, Array.getElem?_eq_none hge] at this⟩

theorem Rd.of_own {base : Nat} {e : TypeId} {c : Nat} (h : w.ownsRow base e s (.slice A n c) n cs) : Rd w w.heap.size s A n cs := by
  refine ⟨h.1, fun hn => ?_⟩
  rcases h.2 with ⟨_, h0⟩ | ⟨g, cap, cur, hv, _, hh, hnc, _, hsz, htake⟩
  · omega
  · have hA : A = some ⟨g, 0, none⟩ := by injection hv
    subst hA
    have hlt : g < w.heap.size := (Array.getElem?_eq_some_iff.1 hh).1
    refine ⟨g, 0, rfl, hlt, fun j hj => ?_⟩
    rw [Nat.zero_add, cell_of_row w g j cur e (0, 0) hh, ← htake, List.getElem?_take, if_pos hj]
    simp

theorem Rd.lit (w : World) (e : TypeId) (hl : cs.length = n * s) : Rd (w.alloc (.cells cs.toArray e)) (w.alloc (.cells cs.toArray e)).heap.size s (some ⟨w.heap.size, 0, none⟩) n cs := by
  refine ⟨hl, fun hn => ⟨w.heap.size, 0, rfl, by simp, fun j hj => ?_⟩⟩
  have hr : (w.alloc (.cells cs.toArray e)).heap[w.heap.size]? = some (.cells cs.toArray e (0, 0)) := heap_alloc_new w _
  rw [Nat.zero_add, cell_of_row _ _ _ _ _ _ hr]
  simp

theorem Rd.take (h : Rd w B s A n cs) {m : Nat} (hm : m ≤ n) : Rd w B s A m (cs.take (m * s)) := by
  have hms : m * s ≤ n * s := Nat.mul_le_mul_right s hm
  refine ⟨by have := h.len; simp; omega, fun h0 => ?_⟩
  obtain ⟨b, o, hA, hb, hc⟩ := h.at_ (by omega)
  refine ⟨b, o, hA, hb, fun j hj => ?_⟩
  rw [hc j (by omega), List.getElem?_take, if_pos hj]
theorem Rd.drop {b o : Nat} (h : Rd w B s (some ⟨b, o, none⟩) n cs) {k : Nat} (hk : k ≤ n) : Rd w B s (some ⟨b, o + k * s, none⟩) (n - k) (cs.drop (k * s)) := by
  have hks : k * s ≤ n * s := Nat.mul_le_mul_right s hk
  refine ⟨by have := h.len; rw [List.length_drop, Nat.sub_mul]; omega, fun h0 => ?_⟩
  obtain ⟨b', o', hA, hb, hc⟩ := h.at_ (by omega)
  injection hA with hA
  injection hA with hA1 hA2
  subst hA1 hA2
  refine ⟨b, o + k * s, rfl, hb, fun j hj => ?_⟩
  rw [Nat.sub_mul] at hj
  rw [Nat.add_assoc, hc (k * s + j) (by omega), List.getElem?_drop]
theorem own_form {base : Nat} {e : TypeId} {v : Value} (h : w.ownsRow base e s v n cs) : ∃ A c, v = .slice A n c ∧ n ≤ c := by
  rcases h.2 with ⟨rfl, rfl⟩ | ⟨g, cap, cur, rfl, _, _, hc, _⟩
  · exact ⟨none, 0, rfl, Nat.le_refl _⟩
  · exact ⟨_, cap, rfl, hc⟩
end

/-- A slice of integers. -/
def RI (w : World) (B : Nat) (k : IntKind) (A : Option Addr) (n : Nat) (xs : List Int) : Prop := Rd w B 1 A n (xs.map (Value.int k))

section
variable {w w' : World} {B B' n : Nat} {k : IntKind} {A : Option Addr} {xs : List Int}
theorem RI.len (h : RI w B k A n xs) : xs.length = n := by have := Rd.len h; simpa using this
theorem RI.get (h : RI w B k A n xs) {i : Nat} (hi : i < n) : ∃ b o, A = some ⟨b, o, none⟩ ∧ b < B ∧ w.cell? ⟨b, o + i, none⟩ = some (.int k (xs[i]?.getD 0)) := by
  obtain ⟨b, o, hA, hb, hc⟩ := Rd.at_ h (by omega)
  refine ⟨b, o, hA, hb, ?_⟩
  rw [hc i (by omega), List.getElem?_map]
  have : i < xs.length := by rw [h.len]; exact hi
  simp [List.getElem?_eq_getElem this]
theorem RI.val (h : RI w B k A n xs) {i : Nat} (hi : i < n) : ∃ b o x, A = some ⟨b, o, none⟩ ∧ b < B ∧ w.cell? ⟨b, o + i, none⟩ = some (.int k x) ∧ Hid (xs[i]? = some x) ∧ x ∈ xs := by
  obtain ⟨b, o, hA, hb, hc⟩ := h.get hi
  have hl : i < xs.length := by rw [h.len]; exact hi
  refine ⟨b, o, xs[i], hA, hb, ?_, List.getElem?_eq_getElem hl, List.getElem_mem hl⟩
  rw [hc, List.getElem?_eq_getElem hl]; rfl
theorem RI.below (h : RI w B k A n xs) (hb : Below B w w') : RI w' B k A n xs := Rd.below h hb
theorem RI.heap (h : RI w B k A n xs) (hh : w'.heap = w.heap) : RI w' B k A n xs := Rd.heap h hh
theorem RI.more (h : RI w B k A n xs) (hB : B ≤ B') : RI w B' k A n xs := Rd.more h hB
theorem RI.take (h : RI w B k A n xs) {m : Nat} (hm : m ≤ n) : RI w B k A m (xs.take m) := by
  refine ⟨by have := h.len; simp; omega, fun h0 => ?_⟩
  obtain ⟨b, o, hA, hb, hc⟩ := Rd.at_ h (by omega)
  refine ⟨b, o, hA, hb, fun j hj => ?_⟩
  rw [hc j (by omega), List.map_take, List.getElem?_take, if_pos (by omega)]
theorem RI.nil (w : World) (B : Nat) (k : IntKind) (A : Option Addr) : RI w B k A 0 [] := Rd.nil w B 1 A
end

/-- The cells of fields: a width and a value each. -/
def cellsF (fs : List (Int × Int)) : List Value := fs.flatMap fun f => [.int .i64 f.1, .int .i64 f.2]
/-- A slice of fields. -/
def RF (w : World) (B : Nat) (A : Option Addr) (n : Nat) (fs : List (Int × Int)) : Prop := Rd w B 2 A n (cellsF fs)
theorem cellsF_length (fs : List (Int × Int)) : (cellsF fs).length = fs.length * 2 := by
  induction fs with
  | nil => rfl
  | cons f fs ih => simp only [cellsF, List.flatMap_cons, List.length_append, List.length_cons, List.length_nil] at ih ⊢; omega
theorem cellsF_append (a b : List (Int × Int)) : cellsF (a ++ b) = cellsF a ++ cellsF b := by simp [cellsF]
theorem cellsF_at (fs : List (Int × Int)) : ∀ (i : Nat) (f : Int × Int), fs[i]? = some f → (cellsF fs)[i * 2]? = some (.int .i64 f.1) ∧ (cellsF fs)[i * 2 + 1]? = some (.int .i64 f.2) := by
  induction fs with
  | nil => intro i f h; simp at h
  | cons g fs ih =>
    intro i f h
    have hc : cellsF (g :: fs) = Value.int .i64 g.1 :: Value.int .i64 g.2 :: cellsF fs := rfl
    rw [hc]
    cases i with
    | zero => simp at h; subst h; simp
    | succ i =>
      have := ih i f (by simpa using h)
      rw [show (i + 1) * 2 = i * 2 + 1 + 1 by omega]
      simpa using this
section
variable {w w' : World} {B B' n : Nat} {A : Option Addr} {fs : List (Int × Int)}
theorem RF.len (h : RF w B A n fs) : fs.length = n := by have := Rd.len h; rw [cellsF_length] at this; omega
theorem RF.val (h : RF w B A n fs) {i : Nat} (hi : i < n) : ∃ b o x y, A = some ⟨b, o, none⟩ ∧ b < B ∧ w.cell? ⟨b, o + i * 2, none⟩ = some (.int .i64 x) ∧ w.cell? ⟨b, o + i * 2 + 1, none⟩ = some (.int .i64 y) ∧ Hid (fs[i]? = some (x, y)) ∧ (x, y) ∈ fs := by
  obtain ⟨b, o, hA, hb, hc⟩ := Rd.at_ h (by omega)
  have hl : i < fs.length := by rw [h.len]; exact hi
  have hf : fs[i]? = some (fs[i].1, fs[i].2) := List.getElem?_eq_getElem hl
  obtain ⟨h1, h2⟩ := cellsF_at fs i _ hf
  refine ⟨b, o, fs[i].1, fs[i].2, hA, hb, ?_, ?_, hf, List.getElem_mem hl⟩
  · rw [hc (i * 2) (by omega)]; exact h1
  · rw [Nat.add_assoc, hc (i * 2 + 1) (by omega)]; exact h2
theorem RF.below (h : RF w B A n fs) (hb : Below B w w') : RF w' B A n fs := Rd.below h hb
theorem RF.heap (h : RF w B A n fs) (hh : w'.heap = w.heap) : RF w' B A n fs := Rd.heap h hh
theorem RF.more (h : RF w B A n fs) (hB : B ≤ B') : RF w B' A n fs := Rd.more h hB
theorem RF.fst {a b : List (Int × Int)} (h : RF w B A n (a ++ b)) : RF w B A a.length a := by
  have hl := h.len
  have h1 := Rd.take h (m := a.length) (by simp at hl; omega)
  rw [cellsF_append, List.take_left' (cellsF_length a)] at h1
  exact h1
theorem RF.snd {a b : List (Int × Int)} {g o k : Nat} (h : RF w B (some ⟨g, o, none⟩) n (a ++ b)) (hk : k = a.length) : RF w B (some ⟨g, o + k * 2, none⟩) b.length b := by
  subst hk
  have hl := h.len
  have h1 := Rd.drop h (k := a.length) (by simp at hl; omega)
  rw [cellsF_append, List.drop_left' (cellsF_length a), show n - a.length = b.length by simp at hl; omega] at h1
  exact h1
theorem RF.nil (w : World) (B : Nat) (A : Option Addr) : RF w B A 0 [] := Rd.nil w B 2 A
end

theorem set_same {α : Type} {l : List α} {i : Nat} {x : α} (h : l[i]? = some x) : l.set i x = l := by
  obtain ⟨hi, rfl⟩ := List.getElem?_eq_some_iff.1 h
  exact List.set_getElem_self hi
theorem at_take {α : Type} {l : List α} {i : Nat} {x : α} (h : l[i]? = some x) : l.take (i + 1) = l.take i ++ [x] := by
  obtain ⟨hi, rfl⟩ := List.getElem?_eq_some_iff.1 h
  exact List.take_succ_eq_append_getElem hi
theorem at_drop {α : Type} {l : List α} {i : Nat} {x : α} (h : l[i]? = some x) : l.drop i = x :: l.drop (i + 1) := by
  obtain ⟨hi, rfl⟩ := List.getElem?_eq_some_iff.1 h
  exact List.drop_eq_getElem_cons hi

/-- A block of the call's own: just these cells. -/
theorem below_set {B g : Nat} {a w w' : World} (h : Below B a w) (hg : w.grownBy w' (some g)) (hB : B ≤ g) (hs : B ≤ w.heap.size) : Below B a w' :=
  h.grown hg hs (fun k hk => by injection hk with hk; omega)

theorem _root_.Go.RowKit.Below.drewN {B : Nat} {a w : World} (h : Below B a w) (n : Nat) : Below B a (w.drewN n) := ⟨h.os, h.tape, h.output, h.size, h.block⟩

theorem block_lt' {w : World} {b o : Nat} {v : Value} (h : w.cell? ⟨b, o, none⟩ = some v) : b < w.heap.size := by
  rcases Nat.lt_or_ge b w.heap.size with hlt | hge
  · exact hlt
  · simp [World.cell?, Array.getElem?_eq_none hge] at h
/-- A row that owns something has an address. -/
theorem own_some {w : World} {base : Nat} {e : TypeId} {s n : Nat} {v : Value} {xs : List Value} (h : w.ownsRow base e s v n xs) (hn : 0 < n) : ∃ g c, v = .slice (some ⟨g, 0, none⟩) n c ∧ base ≤ g ∧ g < w.heap.size ∧ n ≤ c := by
  rcases h.2 with ⟨_, h0⟩ | ⟨g, cap, cur, rfl, hb, hh, hc, _⟩
  · omega
  · exact ⟨g, cap, rfl, hb, (Array.getElem?_eq_some_iff.1 hh).1, hc⟩
theorem own_count {w : World} {base : Nat} {e : TypeId} {s n : Nat} {v : Value} {xs : List Value} (h : w.ownsRow base e s v n xs) : ∃ N, w.ownsRow base e s v N xs ∧ N = n := ⟨n, h, rfl⟩
/-- A block of the call's own, known whole. -/
def Box (w : World) (b : Nat) (t : TypeId) (cs : List Value) : Prop := w.heap[b]? = some (.cells cs.toArray t (0, 0))
theorem Box.cell {w : World} {b : Nat} {t : TypeId} {cs : List Value} (h : Box w b t cs) (i : Nat) : w.cell? ⟨b, i, none⟩ = cs[i]? := by
  rw [cell_of_row w b i _ t (0, 0) h]; simp
theorem Box.new (w : World) (t : TypeId) (cs : List Value) : Box (w.alloc (.cells cs.toArray t)) w.heap.size t cs := heap_alloc_new w _
theorem Box.lt {w : World} {b : Nat} {t : TypeId} {cs : List Value} (h : Box w b t cs) : b < w.heap.size := (Array.getElem?_eq_some_iff.1 h).1
theorem Box.ne {w : World} {b base : Nat} {t e : TypeId} {cs xs : List Value} {s n : Nat} {v : Value} (h : Box w b t cs) (ho : w.ownsRow base e s v n xs) (hne : e ≠ t) : some b ≠ v.ownBlock := by
  rcases ho.2 with ⟨rfl, _⟩ | ⟨g, cap, cur, rfl, _, hh, _⟩
  · simp [Value.ownBlock]
  · intro he
    have : b = g := by simpa [Value.ownBlock] using he
    subst this
    unfold Box at h
    rw [h] at hh
    injection hh with hh
    injection hh with _ ht
    exact hne ht.symm
theorem Box.grown {w w' : World} {b : Nat} {t : TypeId} {cs : List Value} {r : Option Nat} (h : Box w b t cs) (hg : w.grownBy w' r) (hne : some b ≠ r) : Box w' b t cs := (hg.block b h.lt hne).trans h
theorem Box.alloc {w : World} {b : Nat} {t : TypeId} {cs : List Value} (h : Box w b t cs) (o : Obj) : Box (w.alloc o) b t cs := (Below.heap_alloc w o b h.lt).trans h
theorem own_val {w : World} {base : Nat} {e : TypeId} {g n c : Nat} {k : IntKind} {xs : List Int} (h : w.ownsRow base e 1 (.slice (some ⟨g, 0, none⟩) n c) n (xs.map (Value.int k))) {i : Nat} (hi : i < n) :
    ∃ x, w.cell? ⟨g, i, none⟩ = some (.int k x) ∧ Hid (xs[i]? = some x) ∧ x ∈ xs := by
  have hl : i < xs.length := by have := h.1; simp at this; omega
  refine ⟨xs[i], ?_, List.getElem?_eq_getElem hl, List.getElem_mem hl⟩
  rw [h.cellAt i (by omega), List.getElem?_map, List.getElem?_eq_getElem hl]; rfl
/-- Two rows of the call's own whose elements are of two types: what is done to the one leaves the other. -/
theorem own_keep {w w' : World} {b1 b2 : Nat} {e1 e2 : TypeId} {s1 s2 n1 n2 : Nat} {v1 v2 : Value} {xs1 xs2 : List Value} (h1 : w.ownsRow b1 e1 s1 v1 n1 xs1) (h2 : w.ownsRow b2 e2 s2 v2 n2 xs2) (hne : e1 ≠ e2)
    (hg : w.grownBy w' v2.ownBlock) : w'.ownsRow b1 e1 s1 v1 n1 xs1 := by
  refine h1.kept hg ?_
  rcases h1.2 with ⟨rfl, _⟩ | ⟨g, cap, cur, rfl, _, hh, _⟩
  · exact .inl rfl
  · refine .inr fun he => ?_
    rcases h2.2 with ⟨rfl, _⟩ | ⟨g2, cap2, cur2, rfl, _, hh2, _⟩
    · simp [Value.ownBlock] at he
    · have : g = g2 := by simpa [Value.ownBlock] using he
      subst this
      rw [hh] at hh2
      injection hh2 with hh2
      injection hh2 with _ ht
      exact hne ht
theorem grown_setCell (w : World) (a : Addr) (u : Value) : w.grownBy (w.setCell a u) (some a.block) :=
  ⟨rfl, rfl, rfl, by simp [World.setCell], fun k _ hk => Below.heap_setCell w a u k (fun e => hk (by rw [e]))⟩
theorem own_far {w : World} {b : Nat} {e : TypeId} {s n : Nat} {v : Value} {xs : List Value} (h : w.ownsRow b e s v n xs) {a : Addr} (u : Value) (hlt : ∀ k, v.ownBlock = some k → k ≠ a.block) : (w.setCell a u).ownsRow b e s v n xs := by
  refine h.kept (grown_setCell w a u) ?_
  cases hv : v.ownBlock with
  | none => exact .inl rfl
  | some k => exact .inr fun he => hlt k hv (by injection he)
theorem own_more {w : World} {b b' : Nat} {e : TypeId} {s n : Nat} {v : Value} {xs : List Value} (h : w.ownsRow b e s v n xs) (hb : b' ≤ b) : w.ownsRow b' e s v n xs := by
  refine ⟨h.1, ?_⟩
  rcases h.2 with h | ⟨g, cap, cur, h1, h2, h3⟩
  · exact .inl h
  · exact .inr ⟨g, cap, cur, h1, by omega, h3⟩
theorem own_below {w w' : World} {b : Nat} {e : TypeId} {s n : Nat} {v : Value} {xs : List Value} (h : w.ownsRow b e s v n xs) (hb : Below w.heap.size w w') : w'.ownsRow b e s v n xs := by
  refine ⟨h.1, ?_⟩
  rcases h.2 with h | ⟨g, cap, cur, h1, h2, h3, h4⟩
  · exact .inl h
  · exact .inr ⟨g, cap, cur, h1, h2, by rw [hb.block g (Array.getElem?_eq_some_iff.1 h3).1]; exact h3, h4⟩
theorem grown_trans {w w1 w2 : World} {g : Nat} (h : w.grownBy w1 (some g)) (h' : w1.grownBy w2 (some g)) : w.grownBy w2 (some g) :=
  ⟨h'.os.trans h.os, h'.tape.trans h.tape, h'.output.trans h.output, Nat.le_trans h.size h'.size, fun k hk hne => (h'.block k (Nat.lt_of_lt_of_le hk h.size) hne).trans (h.block k hk hne)⟩
theorem grown_alloc {w w1 : World} {g : Nat} (h : w.grownBy w1 (some g)) (o : Obj) : w.grownBy (w1.alloc o) (some g) := grown_trans h (World.grownBy_alloc _ _ _)
theorem grown_drewN {w w1 : World} {r : Option Nat} (h : w.grownBy w1 r) (n : Nat) : w.grownBy (w1.drewN n) r := ⟨h.os, h.tape, h.output, h.size, h.block⟩
theorem grown_cell {w w1 : World} {g b o : Nat} (h : w.grownBy w1 (some g)) (hb : b < w.heap.size) (hne : b ≠ g) : w1.cell? ⟨b, o, none⟩ = w.cell? ⟨b, o, none⟩ :=
  World.cell?_of_block (h.block b hb (by simpa using hne))
theorem ret_int {k : IntKind} {a b : Int} (h : a = b) : Ending.returned (.int k a) = .returned (.int k b) := by rw [h]
theorem ret_bool {a b : Bool} (h : a = b) : Ending.returned (.bool a) = .returned (.bool b) := by rw [h]
theorem ret_two {a b a' b' : Value} (h1 : a = a') (h2 : b = b') : Ending.returned (.tuple #[a, b]) = .returned (.tuple #[a', b']) := by rw [h1, h2]
theorem ret_three {a b c a' b' c' : Value} (h1 : a = a') (h2 : b = b') (h3 : c = c') : Ending.returned (.tuple #[a, b, c]) = .returned (.tuple #[a', b', c']) := by rw [h1, h2, h3]
theorem val_int {k : IntKind} {a b : Int} (h : a = b) : Value.int k a = .int k b := by rw [h]

/-- The slice type t, its elements' type e, their zero value, cells and bytes. -/
def Elt (P : Program) (t e : TypeId) (z : Value) (s by' : Nat) : Prop :=
  P.underlying t = some (.slice e) ∧ (∃ i, P.info? e = some i ∧ i.zero = some z ∧ i.size = s ∧ i.bytes = by') ∧ z.cells.size = s ∧ 0 < s
theorem Elt.mk' {P : Program} {t e : TypeId} {z : Value} {s by' : Nat} (h1 : P.underlying t = some (.slice e)) (h2 : (P.info? e).map (fun i => (i.zero, i.size, i.bytes)) = some (some z, s, by'))
    (h3 : z.cells.size = s) (h4 : 0 < s) : Elt P t e z s by' := by
  obtain ⟨i, hi, h5, h6, h7⟩ := info_parts h2
  exact ⟨h1, ⟨i, hi, h5, h6, h7⟩, h3, h4⟩

section
variable {P : Program} {t e : TypeId} {z : Value} {s by' : Nat} {ops : Array Oper} {rest : List Oper} {o : Oper} {a : Act} {Q : Exit → Act → World → Prop}

/-- append(v, x..) where x is a row that was written out just ahead of it. -/
theorem app_lit (E : Elt P t e z s by') (w : World) (hgd : o.guard = none) (l x : Operand) (ho : o.op = .call { callee := .builtin .append, args := #[l, x], argTypes := #[t, t] })
    (base : Nat) (v : Value) (n : Nat) (xs : List Value) (hs : a.eval l = v) (hown : w.ownsRow base e s v n xs) (m : Nat) (cs : List Value)
    (g : Nat) (hg : g = w.heap.size) (hx : a.eval x = .slice (some ⟨g, 0, none⟩) m m) (hl : cs.length = m * s) (h1 : ∀ u ∈ cs, u.oneCell' = true) (hn : (n + m) * by' ≤ 140737488355328) (hn' : n + m ≤ 140737488355328) (hb : base ≤ w.heap.size)
    (h : ∀ v' w', w'.ownsRow base e s v' (n + m) (xs ++ cs) → (w.alloc (.cells cs.toArray e)).grownBy w' v.ownBlock → (∀ w0, Below base w0 w → Below base w0 w') → base ≤ w'.heap.size → wpList P ops Q rest (a.put o.dst v') w') :
    wpList P ops Q (o :: rest) a (w.alloc (.cells cs.toArray e)) := by
  obtain ⟨hu, ⟨i, hi, h5, h6, h7⟩, h3, h4⟩ := E
  subst hg
  refine wpList_append_own _ hgd l x t ho base e i z s by' hu hi h5 h6 h7 h3 h4 v n xs hs (hown.alloc _) ⟨w.heap.size, 0, none⟩ m m cs hx hl ?_ h1 (by unfold maxLen; omega) hn (by simp; omega) ?_
  · intro j u hj
    have hr : (w.alloc (.cells cs.toArray e)).heap[w.heap.size]? = some (.cells cs.toArray e (0, 0)) := heap_alloc_new w _
    rw [Addr.add_lit, Nat.zero_add, cell_of_row _ _ _ _ _ _ hr]
    simpa using hj
  · intro v' w' ho hg _
    refine h v' w' ho hg (fun w0 hb0 => ?_) ?_
    · exact (hb0.alloc hb _).grown hg (by simp; omega) (fun k hk => (hown.lt k hk).1)
    · have := hg.size; simp at this; omega

/-- The same behind a draw. -/
theorem app_litd (E : Elt P t e z s by') (w : World) (hgd : o.guard = none) (l x : Operand) (ho : o.op = .call { callee := .builtin .append, args := #[l, x], argTypes := #[t, t] })
    (base : Nat) (v : Value) (n : Nat) (xs : List Value) (hs : a.eval l = v) (hown : w.ownsRow base e s v n xs) (m : Nat) (cs : List Value)
    (g : Nat) (hg : g = w.heap.size) (hx : a.eval x = .slice (some ⟨g, 0, none⟩) m m) (hl : cs.length = m * s) (h1 : ∀ u ∈ cs, u.oneCell' = true) (hn : (n + m) * by' ≤ 140737488355328) (hn' : n + m ≤ 140737488355328) (hb : base ≤ w.heap.size)
    (h : ∀ v' w', w'.ownsRow base e s v' (n + m) (xs ++ cs) → (w.alloc (.cells cs.toArray e)).grownBy w' v.ownBlock → (∀ w0, Below base w0 w → Below base w0 w') → base ≤ w'.heap.size → wpList P ops Q rest (a.put o.dst v') w') :
    wpList P ops Q (o :: rest) a (w.alloc (.cells cs.toArray e)).drew :=
  app_lit E w.drew hgd l x ho base v n xs hs hown m cs g hg hx hl h1 hn hn' hb fun v' w' h1 h2 h3 h4 => h v' w' h1 ⟨h2.os, h2.tape, h2.output, h2.size, h2.block⟩ (fun w0 hb0 => h3 w0 hb0.drew) h4

theorem run_append_nil {w : World} (E : Elt P t e z s by') (ty : TypeId) {base : Nat} {v : Value} {n : Nat} {xs : List Value} (hown : w.ownsRow base e s v n xs) (c : Nat) :
    (Builtin.append_ #[t, t] ty #[v, .slice none 0 c]).run P w = .ok v w := by
  obtain ⟨hu, ⟨i, hi, h5, h6, h7⟩, h3, h4⟩ := E
  rcases hown.2 with ⟨rfl, rfl⟩ | ⟨g, cap, cur, rfl, _, _, hnc, _⟩
  · simp [Builtin.append_, run_underlying hu, sizeOf, typeInfo, hi, Builtin.lenOf, Builtin.firstCells]
  · simp [Builtin.append_, run_underlying hu, sizeOf, typeInfo, hi, Builtin.lenOf, Builtin.firstCells, hnc, storeCells]

/-- append(v, x...) from whatever slice x. -/
theorem app_src (E : Elt P t e z s by') (w : World) (hgd : o.guard = none) (l x : Operand) (ho : o.op = .call { callee := .builtin .append, args := #[l, x], argTypes := #[t, t] })
    (base : Nat) (v : Value) (n : Nat) (xs : List Value) (hs : a.eval l = v) (hown : w.ownsRow base e s v n xs) (A : Option Addr) (m c : Nat) (cs : List Value) (hx : a.eval x = .slice A m c) (B : Nat) (hr : Rd w B s A m cs)
    (h1 : ∀ u ∈ cs, u.oneCell' = true) (hn : (n + m) * by' ≤ 140737488355328) (hn' : n + m ≤ 140737488355328) (hb : base ≤ w.heap.size)
    (h : ∀ v' w', w'.ownsRow base e s v' (n + m) (xs ++ cs) → w.grownBy w' v.ownBlock → (∀ w0, Below base w0 w → Below base w0 w') → base ≤ w'.heap.size → wpList P ops Q rest (a.put o.dst v') w') :
    wpList P ops Q (o :: rest) a w := by
  cases A with
  | none =>
    have hm : m = 0 := by
      rcases Nat.eq_zero_or_pos m with h0 | h0
      · exact h0
      · obtain ⟨b, q, hA, _⟩ := hr.at_ h0; cases hA
    subst hm
    have hc : cs = [] := List.eq_nil_of_length_eq_zero (by simpa using hr.len)
    subst hc
    refine wpList_plain hgd fun K hK => ?_
    unfold Oper.wp
    simp [execOp, ho, resolve, invoke, builtin, hs, hx, run_append_nil E o.type hown c, Result.andThen]
    exact hK _ _ (h v w (by simpa using hown) (World.grownBy.refl w _) (fun _ hb0 => hb0) hb)
  | some ad =>
    obtain ⟨hu, ⟨i, hi, h5, h6, h7⟩, h3, h4⟩ := E
    refine wpList_append_own w hgd l x t ho base e i z s by' hu hi h5 h6 h7 h3 h4 v n xs hs hown ad m c cs hx hr.len ?_ h1 (by unfold maxLen; omega) hn hb ?_
    · intro j u hj
      have hjl : j < m * s := by rw [← hr.len]; exact (List.getElem?_eq_some_iff.1 hj).1
      obtain ⟨b, q, hA, _, hc⟩ := hr.at_ (by rcases Nat.eq_zero_or_pos m with h0 | h0; simp [h0] at hjl; exact h0)
      injection hA with hA
      subst hA
      rw [Addr.add_lit, hc j hjl, hj]
    · intro v' w' ho hg _
      refine h v' w' ho hg (fun w0 hb0 => hb0.grown hg hb (fun k hk => (hown.lt k hk).1)) ?_
      have := hg.size; omega

/-- make([]T, n) -/
theorem make_all (E : Elt P t e z s by') (w : World) (hgd : o.guard = none) (l c : Operand) (ho : o.op = Op.makeSlice t l c) (base : Nat) (kl kc : IntKind) (L C : Int) (n : Nat)
    (hl : a.eval l = .int kl L) (hc : a.eval c = .int kc C) (hL : L = n) (hC : C = n) (hn : by' * n ≤ 140737488355328) (hn' : n ≤ 140737488355328) (hb : base ≤ w.heap.size)
    (h : ∀ w', w'.ownsRow base e s (.slice (some ⟨w.heap.size, 0, none⟩) n n) n (madeCells z.cells (n * s)).toList → (∀ w0, Below base w0 w → Below base w0 w') → base ≤ w'.heap.size → w.grownBy w' none →
      wpList P ops Q rest (a.put o.dst (.slice (some ⟨w.heap.size, 0, none⟩) n n)) w') : wpList P ops Q (o :: rest) a w := by
  obtain ⟨hu, ⟨i, hi, h5, h6, h7⟩, h3, h4⟩ := E
  refine wpList_make_full w hgd l c t ho base e i z s hu hi h5 h6 kl kc L C n hl hc hL hC (by rw [h7]; omega) (by unfold maxLen; omega) hb ?_
  intro w' ho hg
  refine h w' ho (fun w0 hb0 => hb0.grown hg hb (fun k hk => by cases hk)) ?_ hg
  have := hg.size; omega
end

theorem one1 (k : IntKind) (x : Int) : ∀ u ∈ [Value.int k x], u.oneCell' = true := by
  intro u hu; simp only [List.mem_singleton] at hu; subst hu; rfl
theorem one2 (k k' : IntKind) (x y : Int) : ∀ u ∈ [Value.int k x, Value.int k' y], u.oneCell' = true := by
  intro u hu; simp only [List.mem_cons, List.not_mem_nil, or_false] at hu; rcases hu with rfl | rfl <;> rfl
theorem one_ints (k : IntKind) (xs : List Int) : ∀ u ∈ xs.map (Value.int k), u.oneCell' = true := ints_oneCell k xs
theorem one_cellsF (fs : List (Int × Int)) : ∀ u ∈ cellsF fs, u.oneCell' = true := by
  intro u hu
  obtain ⟨f, _, hf⟩ := List.mem_flatMap.1 hu
  simp only [List.mem_cons, List.not_mem_nil, or_false] at hf
  rcases hf with rfl | rfl <;> rfl
theorem madeCells_one (v : Value) (hv : v.cells = #[v]) (n : Nat) : (madeCells v.cells (n * 1)).toList = List.replicate n v := by
  simp only [madeCells, hv]
  apply List.ext_getElem <;> simp [Nat.mod_one]
theorem ext_below {w w' : World} (h : Below w.heap.size w w') : Ord.Ext w w' := h.block
end Go.Baro

set_option linter.unusedSimpArgs false
set_option linter.unusedVariables false
namespace Go.Baro
open Go.ChangeShapes Go.WideShapes Go.ChangeAt Go.RowKit

section
variable {H : Type} {enc : TypeId × Value → H} {P : Program} {W : World}

theorem block_lt {w : World} {a : Addr} {v : Value} (h : w.cell? a = some v) : a.block < w.heap.size ∧ a.spot = none := by
  unfold World.cell? at h
  split at h
  · rename_i c e f hb
    refine ⟨(Array.getElem?_eq_some_iff.1 hb).1, ?_⟩
    cases hs : a.spot with
    | none => rfl
    | some x => simp [hs] at h
  · cases h

/-- A slice of integers that came in. -/
theorem open_RI {t e : TypeId} {k : IntKind} {a : Option Addr} {len cap : Nat} {d : DataW H} {p : List MemPlace} (ht : P.underlying t = some (.slice e)) (he : P.underlying e = some (.int k)) (hc : P.cellsOf e = 1)
    (h : DataW.Trod enc P W 0 (fun _ => true) true t (.slice a len cap) d p) :
    ∃ xs : List Int, RI W W.heap.size k a len xs ∧ (∀ x ∈ xs, (Lit.int k x).wf = true) ∧ len ≤ cap ∧ ((len = 0 ∧ d = .nil) ∨ ∃ el sp, d = .slice el sp ∧ el.length = len) := by
  obtain ⟨fuel, hf⟩ := h
  rcases open_ints ht he hc hf with ⟨hcs, hd⟩ | ⟨x, l, c, zs, hcs, _, hl, hm, hz, hd, hcell, hwz⟩
  · simp [Value.cells] at hcs
    obtain ⟨rfl, rfl, rfl⟩ := hcs
    simp only [Prod.mk.injEq] at hd
    exact ⟨[], RI.nil _ _ _ _, by simp, Nat.le_refl _, .inl ⟨rfl, hd.1⟩⟩
  · simp [Value.cells] at hcs
    obtain ⟨rfl, rfl, rfl⟩ := hcs
    have hz' : zs.length = cap := by simpa using hz
    simp only [Prod.mk.injEq] at hd
    refine ⟨zs.take len, ⟨by simp [hz']; omega, fun hn => ?_⟩, fun y hy => hwz y (List.mem_of_mem_take hy), hl, .inr ⟨_, _, hd.1, by simp [lits, hz']; omega⟩⟩
    obtain ⟨b, o, spot⟩ := x
    have h0 := hcell 0 (by omega)
    obtain ⟨hb, hs⟩ := block_lt h0
    have hadd : ∀ i, (⟨b, o, spot⟩ : Addr).add i = ⟨b, o + i, none⟩ ∨ (i = 0) := by
      intro i
      by_cases hi : i = 0
      · exact .inr hi
      · exact .inl (by simp [Addr.add, hi])
    have hspot : spot = none := by simpa [Addr.add] using hs
    subst hspot
    refine ⟨b, o, rfl, by simpa [Addr.add] using hb, fun j hj => ?_⟩
    have hj' : j < zs.length := by omega
    have := hcell j hj'
    rw [Addr.add_lit] at this
    rw [this, List.getElem?_map, List.getElem?_take, if_pos (by omega), List.getElem?_eq_getElem hj']
    simp [List.getD, List.getElem?_eq_getElem hj']

theorem flat_get {s : Nat} (hs : 0 < s) : ∀ (rows : List (List Value)) (i j : Nat) (r : List Value), (∀ r ∈ rows, r.length = s) → rows[i]? = some r → j < s → rows.flatten[i * s + j]? = r[j]?
  | [], i, j, r, _, h, _ => by simp at h
  | q :: rows, 0, j, r, hl, h, hj => by
    simp at h; subst h
    have := hl q (by simp)
    rw [List.flatten_cons, Nat.zero_mul, Nat.zero_add, List.getElem?_append_left (by omega)]
  | q :: rows, i + 1, j, r, hl, h, hj => by
    have hq := hl q (by simp)
    rw [List.flatten_cons, List.getElem?_append_right (by rw [hq, Nat.add_mul]; omega), hq, show (i + 1) * s + j - s = i * s + j by rw [Nat.add_mul]; omega]
    exact flat_get hs rows i j r (fun r hr => hl r (by simp [hr])) (by simpa using h) hj

theorem flat_length {s : Nat} (rows : List (List Value)) (h : ∀ r ∈ rows, r.length = s) : rows.flatten.length = rows.length * s := by
  induction rows with
  | nil => simp
  | cons q rows ih => rw [List.flatten_cons, List.length_append, h q (by simp), ih fun r hr => h r (by simp [hr]), List.length_cons, Nat.add_mul]; omega

/-- A slice of whatever flat elements that came in: a row of cells an element, each read by the element's type. -/
theorem open_rows {t e : TypeId} {s : Nat} {a : Option Addr} {len cap : Nat} {d : DataW H} {p : List MemPlace} (ht : P.underlying t = some (.slice e)) (hc : P.cellsOf e = s) (hs : 0 < s)
    (h : DataW.Trod enc P W 0 (fun _ => true) true t (.slice a len cap) d p) :
    ∃ rows : List (List Value), Rd W W.heap.size s a len rows.flatten ∧ rows.length = len ∧ (∀ r ∈ rows, r.length = s ∧ ∃ y n, DataW.trod enc P W 0 (fun _ => true) true n e r = some y) ∧ len ≤ cap ∧ ((len = 0 ∧ d = .nil) ∨ ∃ el sp, d = .slice el sp ∧ el.length = len) := by
  obtain ⟨fuel, hf⟩ := h
  rcases DataW.trod_slice ht hf with ⟨hcs, hd⟩ | ⟨x, l, c, elems, rest, n, _, hcs, hd, _, hl, hm, hlen, hel, hsp, hns⟩
  · simp [Value.cells] at hcs
    obtain ⟨rfl, rfl, rfl⟩ := hcs
    simp only [Prod.mk.injEq] at hd
    exact ⟨[], Rd.nil _ _ _ _, rfl, by simp, Nat.le_refl _, .inl ⟨rfl, hd.1⟩⟩
  · simp [Value.cells] at hcs
    obtain ⟨rfl, rfl, rfl⟩ := hcs
    simp only [Prod.mk.injEq] at hd
    have each : ∀ i, i < len → ∃ r : List Value, r.length = s ∧ (∀ j, j < s → W.cell? ((x.add (i * s)).add j) = r[j]?) ∧ ∃ y, DataW.trod enc P W 0 (fun _ => true) true n e r = some y := by
      intro i hi
      have h1 := hel i hi
      rw [hc, List.getElem?_eq_getElem (by omega)] at h1
      obtain ⟨r, hr, hy⟩ := Option.bind_eq_some_iff.1 h1
      have hr' := hr
      unfold World.cells? at hr
      split at hr
      · have hlr : r.length = s := by simpa using mapM_some_length hr
        refine ⟨r, hlr, fun j hj => ?_, _, hy⟩
        have := mapM_some_get hr j j (by simp [hj])
        exact this
      · cases hr
    have hx := Classical.axiomOfChoice (r := fun (i : Fin len) (r : List Value) => r.length = s ∧ (∀ j, j < s → W.cell? ((x.add (i.1 * s)).add j) = r[j]?) ∧ ∃ y, DataW.trod enc P W 0 (fun _ => true) true n e r = some y) (fun i => each i.1 i.2)
    obtain ⟨f, hf'⟩ := hx
    refine ⟨List.ofFn f, ⟨?_, fun hn => ?_⟩, by simp, ?_, hl, .inr ⟨_, _, hd.1, by simp [hlen]⟩⟩
    · rw [flat_length (s := s) _ (by intro r hr; obtain ⟨i, rfl⟩ := List.mem_ofFn.1 hr; exact (hf' i).1)]; simp
    · obtain ⟨b, o, spot⟩ := x
      have h0 := (hf' ⟨0, hn⟩).2.1 0 hs
      have hl0 := (hf' ⟨0, hn⟩).1
      rw [List.getElem?_eq_getElem (by omega)] at h0
      obtain ⟨hb, hsn⟩ := block_lt h0
      have hspot : spot = none := by simpa [Addr.add] using hsn
      subst hspot
      refine ⟨b, o, rfl, by simpa [Addr.add] using hb, fun j hj => ?_⟩
      have hi : j / s < len := Nat.div_lt_of_lt_mul (by rw [Nat.mul_comm]; exact hj)
      have hjm : j % s < s := Nat.mod_lt _ hs
      have h1 := (hf' ⟨j / s, hi⟩).2.1 (j % s) hjm
      rw [Addr.add_lit, Addr.add_lit, Nat.add_assoc, show j / s * s + j % s = j by rw [Nat.mul_comm]; exact Nat.div_add_mod j s] at h1
      rw [h1]
      have h2 := flat_get hs (List.ofFn f) (j / s) (j % s) (f ⟨j / s, hi⟩) (by intro r hr; obtain ⟨i, rfl⟩ := List.mem_ofFn.1 hr; exact (hf' i).1) (by simp [hi]) hjm
      rw [show j / s * s + j % s = j by rw [Nat.mul_comm]; exact Nat.div_add_mod j s] at h2
      exact h2.symm
    · intro r hr
      obtain ⟨i, rfl⟩ := List.mem_ofFn.1 hr
      exact ⟨(hf' i).1, (hf' i).2.2.imp fun y hy => ⟨n, hy⟩⟩

/-- A list of things that each have a shape is the image of a list. -/
theorem map_of {α β : Type} {f : α → β} {p : α → Prop} : ∀ (l : List β), (∀ b ∈ l, ∃ a, b = f a ∧ p a) → ∃ xs : List α, l = xs.map f ∧ ∀ a ∈ xs, p a
  | [], _ => ⟨[], rfl, by simp⟩
  | b :: l, h => by
    obtain ⟨a, rfl, ha⟩ := h b (by simp)
    obtain ⟨xs, rfl, hp⟩ := map_of l fun b hb => h b (by simp [hb])
    exact ⟨a :: xs, rfl, fun x hx => by rcases List.mem_cons.1 hx with rfl | hx; exact ha; exact hp x hx⟩

/-- A slice of fields that came in. -/
theorem open_RF {t e i : TypeId} {f0 f1 : Field} {a : Option Addr} {len cap : Nat} {d : DataW H} {p : List MemPlace} (ht : P.underlying t = some (.slice e)) (he : P.underlying e = some (.struct #[f0, f1])) (hc : P.cellsOf e = 2)
    (hi : P.underlying i = some (.int .i64)) (hci : P.cellsOf i = 1) (hf : (f0.type, f0.offset, f1.type, f1.offset) = (i, 0, i, 1))
    (h : DataW.Trod enc P W 0 (fun _ => true) true t (.slice a len cap) d p) :
    ∃ fs : List (Int × Int), RF W W.heap.size a len fs ∧ (∀ f ∈ fs, (-9223372036854775808 ≤ f.1 ∧ f.1 ≤ 9223372036854775807) ∧ -9223372036854775808 ≤ f.2 ∧ f.2 ≤ 9223372036854775807) ∧ len ≤ cap ∧ ((len = 0 ∧ d = .nil) ∨ ∃ el sp, d = .slice el sp ∧ el.length = len) := by
  obtain ⟨rows, hr, hl, hrow, hlc, hd⟩ := open_rows ht hc (by decide) h
  simp only [Prod.mk.injEq] at hf
  obtain ⟨e0, o0, e1, o1⟩ := hf
  obtain ⟨fs, rfl, hp⟩ := map_of (f := fun f : Int × Int => [Value.int .i64 f.1, Value.int .i64 f.2])
    (p := fun f : Int × Int => (-9223372036854775808 ≤ f.1 ∧ f.1 ≤ 9223372036854775807) ∧ -9223372036854775808 ≤ f.2 ∧ f.2 ≤ 9223372036854775807) rows (by
      intro r hr
      obtain ⟨hlr, y, n, hy⟩ := hrow r hr
      obtain ⟨y0, y1, m, _, _, h0, h1⟩ := trod_struct2 he hy
      rw [e0, o0, hci] at h0
      rw [e1, o1, hci] at h1
      obtain ⟨u, hu, _, wu⟩ := DataW.trod_int hi h0
      obtain ⟨v, hv, _, wv⟩ := DataW.trod_int hi h1
      match r, hlr with
      | [c0, c1], _ =>
        simp at hu hv
        exact ⟨(u, v), by rw [hu, hv], bounds_i64 wu, bounds_i64 wv⟩)
  refine ⟨fs, ?_, hp, hlc, hd⟩
  have : cellsF fs = (fs.map fun f : Int × Int => [Value.int .i64 f.1, Value.int .i64 f.2]).flatten := by simp [cellsF, List.flatMap]
  unfold RF
  rw [this]
  exact hr
end
end Go.Baro

set_option linter.unusedSimpArgs false
set_option linter.unusedVariables false
namespace Go.Baro
open Go.RowKit
theorem Box.below {w w' : World} {b B : Nat} {t : TypeId} {cs : List Value} (h : Box w b t cs) (hb : Below B w w') (hB : b < B) : Box w' b t cs := (hb.block b hB).trans h
theorem Box.frozen {w : World} {b : Nat} {t : TypeId} {cs : List Value} (h : Box w b t cs) (i : Nat) : w.frozen? ⟨b, i, none⟩ = false := frozen_of_row w b i _ t h
theorem Box.set {w : World} {b : Nat} {t : TypeId} {cs : List Value} (h : Box w b t cs) (i : Nat) (u : Value) : Box (w.setCell ⟨b, i, none⟩ u) b t (cs.set i u) := by
  unfold Box
  rw [heap_setCell_same w b i _ t u h]
  simp
theorem Box.three {w : World} {b : Nat} {t : TypeId} {p q r : Value} (h : Box w b t [p, q, r]) (u0 u1 u2 : Value) : Box (((w.setCell ⟨b, 0, none⟩ u0).setCell ⟨b, 1, none⟩ u1).setCell ⟨b, 2, none⟩ u2) b t [u0, u1, u2] :=
  ((h.set 0 u0).set 1 u1).set 2 u2
theorem Box.two {w : World} {b : Nat} {t : TypeId} {p q : Value} (h : Box w b t [p, q]) (u0 u1 : Value) : Box ((w.setCell ⟨b, 0, none⟩ u0).setCell ⟨b, 1, none⟩ u1) b t [u0, u1] :=
  (h.set 0 u0).set 1 u1
theorem Box.four {w : World} {b : Nat} {t : TypeId} {p q r s : Value} (h : Box w b t [p, q, r, s]) (u0 u1 u2 u3 : Value) :
    Box ((((w.setCell ⟨b, 0, none⟩ u0).setCell ⟨b, 1, none⟩ u1).setCell ⟨b, 2, none⟩ u2).setCell ⟨b, 3, none⟩ u3) b t [u0, u1, u2, u3] :=
  (((h.set 0 u0).set 1 u1).set 2 u2).set 3 u3
theorem Box.cells4 {w : World} {b : Nat} {t : TypeId} {p q r s : Value} (h : Box w b t [p, q, r, s]) :
    w.cell? ⟨b, 0, none⟩ = some p ∧ w.cell? ⟨b, 1, none⟩ = some q ∧ w.cell? ⟨b, 2, none⟩ = some r ∧ w.cell? ⟨b, 3, none⟩ = some s := ⟨h.cell 0, h.cell 1, h.cell 2, h.cell 3⟩
theorem Box.frozen4 {w : World} {b : Nat} {t : TypeId} {cs : List Value} (h : Box w b t cs) :
    w.frozen? ⟨b, 0, none⟩ = false ∧ w.frozen? ⟨b, 1, none⟩ = false ∧ w.frozen? ⟨b, 2, none⟩ = false ∧ w.frozen? ⟨b, 3, none⟩ = false := ⟨h.frozen 0, h.frozen 1, h.frozen 2, h.frozen 3⟩
theorem Box.newAt (w : World) (t : TypeId) (cs : List Value) (g : Nat) (hg : g = w.heap.size) : Box (w.alloc (.cells cs.toArray t)) g t cs := by subst hg; exact Box.new w t cs
theorem below_at {B b : Nat} {a w : World} (h : Below B a w) (hB : B ≤ b) (i : Nat) (u : Value) : Below B a (w.setCell ⟨b, i, none⟩ u) := h.setCell hB u
theorem _root_.Go.RowKit.Below.undrew {B : Nat} {a w : World} (h : Below B a.drew w) : Below B a w := ⟨h.os, h.tape, h.output, h.size, h.block⟩
theorem below_set4 {B b : Nat} {a w : World} (h : Below B a w) (hB : B ≤ b) (u0 u1 u2 u3 : Value) : Below B a ((((w.setCell ⟨b, 0, none⟩ u0).setCell ⟨b, 1, none⟩ u1).setCell ⟨b, 2, none⟩ u2).setCell ⟨b, 3, none⟩ u3) :=
  (((h.setCell hB u0).setCell hB u1).setCell hB u2).setCell hB u3
theorem Box.other {w : World} {b b' : Nat} {t : TypeId} {cs : List Value} (h : Box w b t cs) (i : Nat) (u : Value) (hne : b ≠ b') : Box (w.setCell ⟨b', i, none⟩ u) b t cs :=
  h.grown (grown_setCell w ⟨b', i, none⟩ u) (by simpa using hne)
theorem results_row_tmp {P : Program} {fn : Func} {p u : Tmp} {ty : TypeId} (h : fn.results = #[.cell p ty, .tmp u]) (tmps : Array Value) (w : World) (g : Nat) (t : TypeId) (cs : Array Value) (fr : Nat × Nat) (d : TypeDesc)
    (hp : tmps.getD p undef = .pointer (some ⟨g, 0, none⟩)) (hg : w.heap[g]? = some (.cells cs t fr))
    (hu : P.underlying ty = some d) (hd : (match d with | .struct _ | .array _ _ => true | _ => false) = true) (hi : (P.info? ty).map (·.size) = some cs.size) :
    (results fn tmps).run P w = .ok (.tuple #[.agg cs, tmps.getD u undef]) w := by
  rw [results_cell_tmp h, hp]
  simp [asAddr, run_loadVar_row w g t ty cs fr d hg hu hd hi, Result.andThen]
end Go.Baro

set_option linter.unusedSimpArgs false
set_option linter.unusedVariables false
namespace Go.Baro
open Go.RowKit (wrap64)

/-- An instruction. -/
structure Ins where
  k : Int
  a : Int
  b : Int
  c : Int
  d : Int

def isR (n : Int) : Prop := 0 ≤ n ∧ n < 24
def isT (n : Nat) (x : Int) : Prop := 0 ≤ x ∧ x ≤ n
instance (n : Int) : Decidable (isR n) := by unfold isR; infer_instance
instance (n : Nat) (x : Int) : Decidable (isT n x) := by unfold isT; infer_instance

/-- An instruction that is valid in a code of n. -/
def okI (n : Nat) (o : Ins) : Prop :=
  (o.k = 1 ∧ isR o.a ∧ o.c = 0 ∧ o.d = 0) ∨ (o.k = 2 ∧ isR o.a ∧ isR o.b ∧ o.c = 0 ∧ o.d = 0) ∨ ((3 ≤ o.k ∧ o.k ≤ 9) ∧ isR o.a ∧ isR o.b ∧ isR o.c ∧ o.d = 0) ∨
  (o.k = 10 ∧ isT n o.a ∧ o.b = 0 ∧ o.c = 0 ∧ o.d = 0) ∨ ((o.k = 11 ∨ o.k = 12) ∧ isR o.a ∧ isT n o.b ∧ o.c = 0 ∧ o.d = 0) ∨ ((o.k = 13 ∨ o.k = 14) ∧ isR o.a ∧ isR o.b ∧ o.d = 0) ∨
  (o.k = 15 ∧ isR o.a ∧ isR o.b ∧ isR o.d) ∨ (o.k = 16 ∧ isR o.a ∧ o.b = 0 ∧ o.c = 0 ∧ o.d = 0) ∨ (o.k = 17 ∧ o.a = 0 ∧ o.b = 0 ∧ o.c = 0 ∧ o.d = 0)
instance (n : Nat) (o : Ins) : Decidable (okI n o) := by unfold okI; infer_instance
/-- A valid code. -/
def okC (c : List Ins) : Prop := c.length ≤ 200 ∧ ∀ o ∈ c, okI c.length o
instance (c : List Ins) : Decidable (okC c) := by unfold okC; infer_instance

def inW (x : Int) : Prop := -9223372036854775808 ≤ x ∧ x ≤ 9223372036854775807
/-- The fields of an instruction are numbers of 64 bits. -/
def inI (o : Ins) : Prop := inW o.k ∧ inW o.a ∧ inW o.b ∧ inW o.c ∧ inW o.d
theorem inW_wrap (x : Int) : inW (wrap64 x) := by unfold inW wrap64; omega

/-- A thread's state: the next instruction, the registers, the shared words, the numbers emitted. -/
structure Vs where
  p : Int
  r : Int → Int
  w : List Int
  t : List Int

def upd (r : Int → Int) (a v : Int) : Int → Int := fun i => if i = a then v else r i
theorem upd_same (r : Int → Int) (a v : Int) : upd r a v a = v := by simp [upd]
theorem upd_other (r : Int → Int) {a i : Int} (v : Int) (h : i ≠ a) : upd r a v i = r i := by simp [upd, h]

def cmpV (k b c : Int) : Int :=
  if k = 3 then wrap64 (b + c) else if k = 4 then wrap64 (b - c) else if k = 5 then wrap64 (b * c) else if k = 6 then (if c = 0 then 0 else wrap64 (b.tdiv c)) else if k = 7 then (if c = 0 then 0 else b.tmod c)
  else if k = 8 then (if b = c then 1 else 0) else if k = 9 then (if b < c then 1 else 0) else 0

/-- One instruction, in a code of n. -/
def stp (n : Nat) (o : Ins) (s : Vs) : Vs × Int :=
  if o.k = 1 then ({ s with p := s.p + 1, r := upd s.r o.a o.b }, 0)
  else if o.k = 2 then ({ s with p := s.p + 1, r := upd s.r o.a (s.r o.b) }, 0)
  else if o.k = 10 then ({ s with p := o.a }, 0)
  else if o.k = 11 then ({ s with p := if s.r o.a = 0 then s.p + 1 else o.b }, 0)
  else if o.k = 12 then ({ s with p := if s.r o.a = 0 then o.b else s.p + 1 }, 0)
  else if o.k = 13 then (if wrap64 (s.r o.b + o.c) < 0 ∨ (s.w.length : Int) ≤ wrap64 (s.r o.b + o.c) then ({ s with p := s.p + 1 }, 2) else ({ s with p := s.p + 1, r := upd s.r o.a (s.w[(wrap64 (s.r o.b + o.c)).toNat]?.getD 0) }, 0))
  else if o.k = 14 then (if wrap64 (s.r o.b + o.c) < 0 ∨ (s.w.length : Int) ≤ wrap64 (s.r o.b + o.c) then ({ s with p := s.p + 1 }, 2) else ({ s with p := s.p + 1, w := s.w.set (wrap64 (s.r o.b + o.c)).toNat (s.r o.a) }, 0))
  else if o.k = 15 then (if wrap64 (s.r o.b + o.c) < 0 ∨ (s.w.length : Int) ≤ wrap64 (s.r o.b + o.c) then ({ s with p := s.p + 1 }, 2)
    else if s.w[(wrap64 (s.r o.b + o.c)).toNat]?.getD 0 = s.r o.d then ({ s with p := s.p + 1, w := s.w.set (wrap64 (s.r o.b + o.c)).toNat (s.r o.a), r := upd s.r o.a 1 }, 0) else ({ s with p := s.p + 1, r := upd s.r o.a 0 }, 0))
  else if o.k = 16 then (if s.t.length = 200 then ({ s with p := s.p + 1 }, 8) else ({ s with p := s.p + 1, t := s.t ++ [s.r o.a] }, 0))
  else if o.k = 17 then ({ s with p := n }, 0)
  else ({ s with p := s.p + 1, r := upd s.r o.a (cmpV o.k (s.r o.b) (s.r o.c)) }, 0)

/-- At most f instructions: the state, how many, and the error. -/
def rn (c : List Ins) : Nat → Vs → Vs × Nat × Int
  | 0, s => if s.p = c.length then (s, 0, 0) else (s, 0, 11)
  | f + 1, s => if s.p = c.length then (s, 0, 0) else
      if (stp c.length (c[s.p.toNat]?.getD ⟨17, 0, 0, 0, 0⟩) s).2 ≠ 0 then ((stp c.length (c[s.p.toNat]?.getD ⟨17, 0, 0, 0, 0⟩) s).1, 1, (stp c.length (c[s.p.toNat]?.getD ⟨17, 0, 0, 0, 0⟩) s).2)
      else ((rn c f (stp c.length (c[s.p.toNat]?.getD ⟨17, 0, 0, 0, 0⟩) s).1).1, (rn c f (stp c.length (c[s.p.toNat]?.getD ⟨17, 0, 0, 0, 0⟩) s).1).2.1 + 1, (rn c f (stp c.length (c[s.p.toNat]?.getD ⟨17, 0, 0, 0, 0⟩) s).1).2.2)

theorem rn_end {c : List Ins} {s : Vs} (h : s.p = c.length) (f : Nat) : rn c f s = (s, 0, 0) := by cases f <;> simp [rn, h]
theorem rn_over {c : List Ins} {s : Vs} (h : s.p ≠ c.length) : rn c 0 s = (s, 0, 11) := by simp [rn, h]
theorem rn_err {c : List Ins} {s s' : Vs} {o : Ins} {e : Int} {f : Nat} (h : s.p ≠ c.length) (ho : c[s.p.toNat]? = some o) (hs : stp c.length o s = (s', e)) (he : e ≠ 0) : rn c (f + 1) s = (s', 1, e) := by
  simp [rn, h, ho, hs, he]
theorem rn_step {c : List Ins} {s s' : Vs} {o : Ins} {f : Nat} (h : s.p ≠ c.length) (ho : c[s.p.toNat]? = some o) (hs : stp c.length o s = (s', 0)) : rn c (f + 1) s = ((rn c f s').1, (rn c f s').2.1 + 1, (rn c f s').2.2) := by
  simp [rn, h, ho, hs]

/-- What a state keeps to. -/
structure Ok (n : Nat) (s : Vs) : Prop where
  lo : 0 ≤ s.p
  hi : s.p ≤ n
  r : ∀ i, inW (s.r i)
  w : ∀ x ∈ s.w, inW x
  wl : s.w.length ≤ 200
  t : ∀ x ∈ s.t, inW x
  tl : s.t.length ≤ 200

theorem tmod_in {b c : Int} (hc : c ≠ 0) (h : inW c) : inW (b.tmod c) := by
  unfold inW at *
  have h1 := Int.natAbs_tmod b c
  have h2 := Nat.mod_lt b.natAbs (show 0 < c.natAbs by omega)
  omega
theorem cmpV_in (k b c : Int) (hc : inW c) : inW (cmpV k b c) := by
  have h0 : inW 0 := by unfold inW; omega
  have h1 : inW 1 := by unfold inW; omega
  unfold cmpV
  split; · exact inW_wrap _
  split; · exact inW_wrap _
  split; · exact inW_wrap _
  split
  · split
    · exact h0
    · exact inW_wrap _
  split
  · split
    · exact h0
    · exact tmod_in (by assumption) hc
  split
  · split <;> assumption
  split
  · split <;> assumption
  exact h0
theorem upd_in {r : Int → Int} (h : ∀ i, inW (r i)) {a v : Int} (hv : inW v) (i : Int) : inW (upd r a v i) := by
  unfold upd; split
  · exact hv
  · exact h i
theorem at_in {l : List Int} (h : ∀ x ∈ l, inW x) (i : Nat) : inW (l[i]?.getD 0) := by
  cases hi : l[i]? with
  | none => simp [inW]
  | some x => exact h x (List.mem_of_getElem? hi)
theorem set_in {l : List Int} (h : ∀ x ∈ l, inW x) (i : Nat) {v : Int} (hv : inW v) : ∀ x ∈ l.set i v, inW x := by
  intro x hx
  rcases List.mem_or_eq_of_mem_set hx with h1 | h1
  · exact h x h1
  · rw [h1]; exact hv

/-- The remainder as the document's answer reckons it. -/
theorem rem_wrap (b c : Int) (hc : c ≠ 0) (h : inW c) : wrap64 (b - wrap64 (wrap64 (b.tdiv c) * c)) = b.tmod c := by
  have h1 := tmod_in (b := b) hc h
  have h2 := Int.tdiv_mul_add_tmod b c
  have e1 : ∀ x, ∃ j : Int, wrap64 x = x + 18446744073709551616 * j := by
    intro x
    refine ⟨-((x + 9223372036854775808) / 18446744073709551616), ?_⟩
    unfold wrap64; omega
  obtain ⟨j1, e1'⟩ := e1 (b.tdiv c)
  obtain ⟨j2, e2'⟩ := e1 (wrap64 (b.tdiv c) * c)
  have e3 : b - wrap64 (wrap64 (b.tdiv c) * c) = b.tmod c + 18446744073709551616 * (-(j1 * c) - j2) := by
    rw [e2', e1', Int.add_mul, Int.mul_assoc, Int.mul_sub, Int.mul_neg]; omega
  rw [e3]
  generalize -(j1 * c) - j2 = j
  generalize b.tmod c = m at *
  unfold inW at h1
  unfold wrap64
  omega

theorem stp_ok {n : Nat} {o : Ins} {s : Vs} (ho : okI n o) (hi : inI o) (hs : Ok n s) (hp : s.p < n) : Ok n (stp n o s).1 := by
  obtain ⟨h1, h2, h3, h4, h5, h6, h7⟩ := hs
  have i0 : inW 0 := by unfold inW; omega
  have i1 : inW 1 := by unfold inW; omega
  obtain ⟨ik, ia, ib, ic, id'⟩ := hi
  unfold okI isR isT at ho
  have hR : ∀ {r : Int → Int} {q : Int} {l t : List Int}, 0 ≤ q → q ≤ n → (∀ i, inW (r i)) → (∀ x ∈ l, inW x) → l.length ≤ 200 → (∀ x ∈ t, inW x) → t.length ≤ 200 → Ok n ⟨q, r, l, t⟩ := fun a b c d e f g => ⟨a, b, c, d, e, f, g⟩
  have hq : ∀ {b : Prop} [Decidable b] {x y : Vs × Int}, (b → Ok n x.1) → (¬ b → Ok n y.1) → Ok n (if b then x else y).1 := by
    intro b _ x y hx hy
    by_cases hb : b
    · rw [if_pos hb]; exact hx hb
    · rw [if_neg hb]; exact hy hb
  have hw : ∀ (i : Nat) (v : Int), (s.w.set i v).length ≤ 200 := fun i v => by rw [List.length_set]; exact h5
  have ht : ∀ v, inW v → ∀ x ∈ s.t ++ [v], inW x := by
    intro v hv x hx
    rcases List.mem_append.1 hx with hx | hx
    · exact h6 x hx
    · rw [List.mem_singleton.1 hx]; exact hv
  unfold stp
  refine hq (fun e => hR (by omega) (by omega) (upd_in h3 ib) h4 h5 h6 h7) fun e1 => ?_
  refine hq (fun e => hR (by omega) (by omega) (upd_in h3 (h3 _)) h4 h5 h6 h7) fun e2 => ?_
  refine hq (fun e => hR (by omega) (by omega) h3 h4 h5 h6 h7) fun e10 => ?_
  refine hq (fun e => hR (by split <;> omega) (by split <;> omega) h3 h4 h5 h6 h7) fun e11 => ?_
  refine hq (fun e => hR (by split <;> omega) (by split <;> omega) h3 h4 h5 h6 h7) fun e12 => ?_
  refine hq (fun e => hq (fun _ => hR (by omega) (by omega) h3 h4 h5 h6 h7) fun _ => hR (by omega) (by omega) (upd_in h3 (at_in h4 _)) h4 h5 h6 h7) fun e13 => ?_
  refine hq (fun e => hq (fun _ => hR (by omega) (by omega) h3 h4 h5 h6 h7) fun _ => hR (by omega) (by omega) h3 (set_in h4 _ (h3 _)) (hw _ _) h6 h7) fun e14 => ?_
  refine hq (fun e => hq (fun _ => hR (by omega) (by omega) h3 h4 h5 h6 h7) fun _ => hq (fun _ => hR (by omega) (by omega) (upd_in h3 i1) (set_in h4 _ (h3 _)) (hw _ _) h6 h7) fun _ => hR (by omega) (by omega) (upd_in h3 i0) h4 h5 h6 h7) fun e15 => ?_
  refine hq (fun e => hq (fun _ => hR (by omega) (by omega) h3 h4 h5 h6 h7) fun _ => hR (by omega) (by omega) h3 h4 h5 (ht _ (h3 _)) (by rw [List.length_append, List.length_singleton]; omega)) fun e16 => ?_
  refine hq (fun e => hR (by omega) (by omega) h3 h4 h5 h6 h7) fun e17 => ?_
  exact hR (by omega) (by omega) (upd_in h3 (cmpV_in _ _ _ (h3 _))) h4 h5 h6 h7

section
variable {n : Nat} {a b c d : Int} {s : Vs}
theorem stp_1 : stp n ⟨1, a, b, c, d⟩ s = ({ s with p := s.p + 1, r := upd s.r a b }, 0) := by simp only [stp, Int.reduceEq, if_false, if_true]
theorem stp_2 : stp n ⟨2, a, b, c, d⟩ s = ({ s with p := s.p + 1, r := upd s.r a (s.r b) }, 0) := by simp only [stp, Int.reduceEq, if_false, if_true]
theorem stp_10 : stp n ⟨10, a, b, c, d⟩ s = ({ s with p := a }, 0) := by simp only [stp, Int.reduceEq, if_false, if_true]
theorem stp_11 : stp n ⟨11, a, b, c, d⟩ s = ({ s with p := if s.r a = 0 then s.p + 1 else b }, 0) := by simp only [stp, Int.reduceEq, if_false, if_true]
theorem stp_12 : stp n ⟨12, a, b, c, d⟩ s = ({ s with p := if s.r a = 0 then b else s.p + 1 }, 0) := by simp only [stp, Int.reduceEq, if_false, if_true]
theorem stp_16 : stp n ⟨16, a, b, c, d⟩ s = if s.t.length = 200 then ({ s with p := s.p + 1 }, 8) else ({ s with p := s.p + 1, t := s.t ++ [s.r a] }, 0) := by simp only [stp, Int.reduceEq, if_false, if_true]
theorem stp_17 : stp n ⟨17, a, b, c, d⟩ s = ({ s with p := n }, 0) := by simp only [stp, Int.reduceEq, if_false, if_true]
theorem stp_cmp {k : Int} (h : 3 ≤ k ∧ k ≤ 9) : stp n ⟨k, a, b, c, d⟩ s = ({ s with p := s.p + 1, r := upd s.r a (cmpV k (s.r b) (s.r c)) }, 0) := by
  simp only [stp]
  rw [if_neg (by omega), if_neg (by omega), if_neg (by omega), if_neg (by omega), if_neg (by omega), if_neg (by omega), if_neg (by omega), if_neg (by omega), if_neg (by omega), if_neg (by omega)]
theorem stp_out {k q : Int} (hk : k = 13 ∨ k = 14 ∨ k = 15) (hq : wrap64 (s.r b + c) = q) (h : q < 0 ∨ (s.w.length : Int) ≤ q) : stp n ⟨k, a, b, c, d⟩ s = ({ s with p := s.p + 1 }, 2) := by
  rcases hk with rfl | rfl | rfl <;> (simp only [stp, Int.reduceEq, if_false, if_true]; rw [hq, if_pos h])
theorem stp_13 {q : Nat} {x : Int} (hq : wrap64 (s.r b + c) = q) (h : s.w[q]? = some x) : stp n ⟨13, a, b, c, d⟩ s = ({ s with p := s.p + 1, r := upd s.r a x }, 0) := by
  have := (List.getElem?_eq_some_iff.1 h).1
  simp only [stp, Int.reduceEq, if_false, if_true]
  rw [hq, if_neg (by omega), Int.toNat_natCast, h]
  rfl
theorem stp_14 {q : Nat} (hq : wrap64 (s.r b + c) = q) (h : q < s.w.length) : stp n ⟨14, a, b, c, d⟩ s = ({ s with p := s.p + 1, w := s.w.set q (s.r a) }, 0) := by
  simp only [stp, Int.reduceEq, if_false, if_true]
  rw [hq, if_neg (by omega), Int.toNat_natCast]
theorem stp_15t {q : Nat} {x : Int} (hq : wrap64 (s.r b + c) = q) (h : s.w[q]? = some x) (hx : x = s.r d) : stp n ⟨15, a, b, c, d⟩ s = ({ s with p := s.p + 1, w := s.w.set q (s.r a), r := upd s.r a 1 }, 0) := by
  have := (List.getElem?_eq_some_iff.1 h).1
  simp only [stp, Int.reduceEq, if_false, if_true]
  rw [hq, if_neg (by omega), Int.toNat_natCast, h, Option.getD_some, if_pos hx]
theorem stp_15f {q : Nat} {x : Int} (hq : wrap64 (s.r b + c) = q) (h : s.w[q]? = some x) (hx : x ≠ s.r d) : stp n ⟨15, a, b, c, d⟩ s = ({ s with p := s.p + 1, r := upd s.r a 0 }, 0) := by
  have := (List.getElem?_eq_some_iff.1 h).1
  simp only [stp, Int.reduceEq, if_false, if_true]
  rw [hq, if_neg (by omega), Int.toNat_natCast, h, Option.getD_some, if_neg hx]
end

/-- The state when a call begins. -/
def st0 (args words : List Int) : Vs := ⟨0, fun i => if 0 ≤ i then args[i.toNat]?.getD 0 else 0, words, []⟩
theorem st0_ok {n : Nat} {args words : List Int} (ha : ∀ x ∈ args, inW x) (hw : ∀ x ∈ words, inW x) (hl : words.length ≤ 200) : Ok n (st0 args words) := by
  refine ⟨by simp [st0], by simp [st0], fun i => ?_, hw, hl, by simp [st0], by simp [st0]⟩
  simp only [st0]
  split
  · exact at_in ha _
  · simp [inW]

/-- What is wrong before the execution. -/
def vmX (c : List Ins) (args words : List Int) (limit : Int) : Int :=
  if ¬ okC c then 4 else if 8 < args.length ∨ 200 < words.length then 1 else if limit < 0 ∨ 6000 < limit then 2 else 0
def vmR (c : List Ins) (args words : List Int) (limit : Int) : List Int × List Int × Nat × Int :=
  if vmX c args words limit = 0 then ((rn c limit.toNat (st0 args words)).1.t, (rn c limit.toNat (st0 args words)).1.w, (rn c limit.toNat (st0 args words)).2.1, (rn c limit.toNat (st0 args words)).2.2)
  else ([], [], 0, vmX c args words limit)
end Go.Baro
