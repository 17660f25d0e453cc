/- Of this claim's own texts these, one behind the other: Open, LibBox, LibO, LibB, LibL. No statement of the seat is proved here; no condition but those that stand at the theorems. -/
import Derived.Test.YtjihopbapnfppabDoorRows
import Derived.Test.YtjihopbapnfppabDoorPartAD
import Derived.ProofKit
import Derived.OpenShut
import Derived.ShutString
import Derived.ChangeOld
import Derived.Laws.ResultCell
import Derived.Test.YtjihopbapnfppabDoorPartAA
set_option linter.unusedSimpArgs false
set_option linter.unusedVariables false
namespace Go.Baro
open Go.ChangeShapes Go.WideShapes Go.ChangeAt Go.RowKit

section
variable {H : Type} {enc : TypeId × Value → H} {P : Program} {W : World}

theorem block_lt {w : World} {a : Addr} {v : Value} (h : w.cell? a = some v) : a.block < w.heap.size ∧ a.spot = none := by
  unfold World.cell? at h
  split at h
  · rename_i c e f hb
    refine ⟨(Array.getElem?_eq_some_iff.1 hb).1, ?_⟩
    cases hs : a.spot with
    | none => rfl
    | some x => simp [hs] at h
  · cases h

/-- A slice of integers that came in. -/
theorem open_RI {t e : TypeId} {k : IntKind} {a : Option Addr} {len cap : Nat} {d : DataW H} {p : List MemPlace} (ht : P.underlying t = some (.slice e)) (he : P.underlying e = some (.int k)) (hc : P.cellsOf e = 1)
    (h : DataW.Trod enc P W 0 (fun _ => true) true t (.slice a len cap) d p) :
    ∃ xs : List Int, RI W W.heap.size k a len xs ∧ (∀ x ∈ xs, (Lit.int k x).wf = true) ∧ len ≤ cap ∧ ((len = 0 ∧ d = .nil) ∨ ∃ el sp, d = .slice el sp ∧ el.length = len) := by
  obtain ⟨fuel, hf⟩ := h
  rcases open_ints ht he hc hf with ⟨hcs, hd⟩ | ⟨x, l, c, zs, hcs, _, hl, hm, hz, hd, hcell, hwz⟩
  · simp [Value.cells] at hcs
    obtain ⟨rfl, rfl, rfl⟩ := hcs
    simp only [Prod.mk.injEq] at hd
    exact ⟨[], RI.nil _ _ _ _, by simp, Nat.le_refl _, .inl ⟨rfl, hd.1⟩⟩
  · simp [Value.cells] at hcs
    obtain ⟨rfl, rfl, rfl⟩ := hcs
    have hz' : zs.length = cap := by simpa using hz
    simp only [Prod.mk.injEq] at hd
    refine ⟨zs.take len, ⟨by simp [hz']; omega, fun hn => ?_⟩, fun y hy => hwz y (List.mem_of_mem_take hy), hl, .inr ⟨_, _, hd.1, by simp [lits, hz']; omega⟩⟩
    obtain ⟨b, o, spot⟩ := x
    have h0 := hcell 0 (by omega)
    obtain ⟨hb, hs⟩ := block_lt h0
    have hadd : ∀ i, (⟨b, o, spot⟩ : Addr).add i = ⟨b, o + i, none⟩ ∨ (i = 0) := by
      intro i
      by_cases hi : i = 0
      · exact .inr hi
      · exact .inl (by simp [Addr.add, hi])
    have hspot : spot = none := by simpa [Addr.add] using hs
    subst hspot
    refine ⟨b, o, rfl, by simpa [Addr.add] using hb, fun j hj => ?_⟩
    have hj' : j < zs.length := by omega
    have := hcell j hj'
    rw [Addr.add_lit] at this
    rw [this, List.getElem?_map, List.getElem?_take, if_pos (by omega), List.getElem?_eq_getElem hj']
    simp [List.getD, List.getElem?_eq_getElem hj']

theorem flat_get {s : Nat} (hs : 0 < s) : ∀ (rows : List (List Value)) (i j : Nat) (r : List Value), (∀ r ∈ rows, r.length = s) → rows[i]? = some r → j < s → rows.flatten[i * s + j]? = r[j]?
  | [], i, j, r, _, h, _ => by simp at h
  | q :: rows, 0, j, r, hl, h, hj => by
    simp at h; subst h
    have := hl q (by simp)
    rw [List.flatten_cons, Nat.zero_mul, Nat.zero_add, List.getElem?_append_left (by omega)]
  | q :: rows, i + 1, j, r, hl, h, hj => by
    have hq := hl q (by simp)
    rw [List.flatten_cons, List.getElem?_append_right (by rw [hq, Nat.add_mul]; omega), hq, show (i + 1) * s + j - s = i * s + j by rw [Nat.add_mul]; omega]
    exact flat_get hs rows i j r (fun r hr => hl r (by simp [hr])) (by simpa using h) hj

theorem flat_length {s : Nat} (rows : List (List Value)) (h : ∀ r ∈ rows, r.length = s) : rows.flatten.length = rows.length * s := by
  induction rows with
  | nil => simp
  | cons q rows ih => rw [List.flatten_cons, List.length_append, h q (by simp), ih fun r hr => h r (by simp [hr]), List.length_cons, Nat.add_mul]; omega

/-- A slice of whatever flat elements that came in: a row of cells an element, each read by the element's type. -/
theorem open_rows {t e : TypeId} {s : Nat} {a : Option Addr} {len cap : Nat} {d : DataW H} {p : List MemPlace} (ht : P.underlying t = some (.slice e)) (hc : P.cellsOf e = s) (hs : 0 < s)
    (h : DataW.Trod enc P W 0 (fun _ => true) true t (.slice a len cap) d p) :
    ∃ rows : List (List Value), Rd W W.heap.size s a len rows.flatten ∧ rows.length = len ∧ (∀ r ∈ rows, r.length = s ∧ ∃ y n, DataW.trod enc P W 0 (fun _ => true) true n e r = some y) ∧ len ≤ cap ∧ ((len = 0 ∧ d = .nil) ∨ ∃ el sp, d = .slice el sp ∧ el.length = len) := by
  obtain ⟨fuel, hf⟩ := h
  rcases DataW.trod_slice ht hf with ⟨hcs, hd⟩ | ⟨x, l, c, elems, rest, n, _, hcs, hd, _, hl, hm, hlen, hel, hsp, hns⟩
  · simp [Value.cells] at hcs
    obtain ⟨rfl, rfl, rfl⟩ := hcs
    simp only [Prod.mk.injEq] at hd
    exact ⟨[], Rd.nil _ _ _ _, rfl, by simp, Nat.le_refl _, .inl ⟨rfl, hd.1⟩⟩
  · simp [Value.cells] at hcs
    obtain ⟨rfl, rfl, rfl⟩ := hcs
    simp only [Prod.mk.injEq] at hd
    have each : ∀ i, i < len → ∃ r : List Value, r.length = s ∧ (∀ j, j < s → W.cell? ((x.add (i * s)).add j) = r[j]?) ∧ ∃ y, DataW.trod enc P W 0 (fun _ => true) true n e r = some y := by
      intro i hi
      have h1 := hel i hi
      rw [hc, List.getElem?_eq_getElem (by omega)] at h1
      obtain ⟨r, hr, hy⟩ := Option.bind_eq_some_iff.1 h1
      have hr' := hr
      unfold World.cells? at hr
      split at hr
      · have hlr : r.length = s := by simpa using mapM_some_length hr
        refine ⟨r, hlr, fun j hj => ?_, _, hy⟩
        have := mapM_some_get hr j j (by simp [hj])
        exact this
      · cases hr
    have hx := Classical.axiomOfChoice (r := fun (i : Fin len) (r : List Value) => r.length = s ∧ (∀ j, j < s → W.cell? ((x.add (i.1 * s)).add j) = r[j]?) ∧ ∃ y, DataW.trod enc P W 0 (fun _ => true) true n e r = some y) (fun i => each i.1 i.2)
    obtain ⟨f, hf'⟩ := hx
    refine ⟨List.ofFn f, ⟨?_, fun hn => ?_⟩, by simp, ?_, hl, .inr ⟨_, _, hd.1, by simp [hlen]⟩⟩
    · rw [flat_length (s := s) _ (by intro r hr; obtain ⟨i, rfl⟩ := List.mem_ofFn.1 hr; exact (hf' i).1)]; simp
    · obtain ⟨b, o, spot⟩ := x
      have h0 := (hf' ⟨0, hn⟩).2.1 0 hs
      have hl0 := (hf' ⟨0, hn⟩).1
      rw [List.getElem?_eq_getElem (by omega)] at h0
      obtain ⟨hb, hsn⟩ := block_lt h0
      have hspot : spot = none := by simpa [Addr.add] using hsn
      subst hspot
      refine ⟨b, o, rfl, by simpa [Addr.add] using hb, fun j hj => ?_⟩
      have hi : j / s < len := Nat.div_lt_of_lt_mul (by rw [Nat.mul_comm]; exact hj)
      have hjm : j % s < s := Nat.mod_lt _ hs
      have h1 := (hf' ⟨j / s, hi⟩).2.1 (j % s) hjm
      rw [Addr.add_lit, Addr.add_lit, Nat.add_assoc, show j / s * s + j % s = j by rw [Nat.mul_comm]; exact Nat.div_add_mod j s] at h1
      rw [h1]
      have h2 := flat_get hs (List.ofFn f) (j / s) (j % s) (f ⟨j / s, hi⟩) (by intro r hr; obtain ⟨i, rfl⟩ := List.mem_ofFn.1 hr; exact (hf' i).1) (by simp [hi]) hjm
      rw [show j / s * s + j % s = j by rw [Nat.mul_comm]; exact Nat.div_add_mod j s] at h2
      exact h2.symm
    · intro r hr
      obtain ⟨i, rfl⟩ := List.mem_ofFn.1 hr
      exact ⟨(hf' i).1, (hf' i).2.2.imp fun y hy => ⟨n, hy⟩⟩

/-- A list of things that each have a shape is the image of a list. -/
theorem map_of {α β : Type} {f : α → β} {p : α → Prop} : ∀ (l : List β), (∀ b ∈ l, ∃ a, b = f a ∧ p a) → ∃ xs : List α, l = xs.map f ∧ ∀ a ∈ xs, p a
  | [], _ => ⟨[], rfl, by simp⟩
  | b :: l, h => by
    obtain ⟨a, rfl, ha⟩ := h b (by simp)
    obtain ⟨xs, rfl, hp⟩ := map_of l fun b hb => h b (by simp [hb])
    exact ⟨a :: xs, rfl, fun x hx => by rcases List.mem_cons.1 hx with rfl | hx; exact ha; exact hp x hx⟩

/-- A slice of fields that came in. -/
theorem open_RF {t e i : TypeId} {f0 f1 : Field} {a : Option Addr} {len cap : Nat} {d : DataW H} {p : List MemPlace} (ht : P.underlying t = some (.slice e)) (he : P.underlying e = some (.struct #[f0, f1])) (hc : P.cellsOf e = 2)
    (hi : P.underlying i = some (.int .i64)) (hci : P.cellsOf i = 1) (hf : (f0.type, f0.offset, f1.type, f1.offset) = (i, 0, i, 1))
    (h : DataW.Trod enc P W 0 (fun _ => true) true t (.slice a len cap) d p) :
    ∃ fs : List (Int × Int), RF W W.heap.size a len fs ∧ (∀ f ∈ fs, (-9223372036854775808 ≤ f.1 ∧ f.1 ≤ 9223372036854775807) ∧ -9223372036854775808 ≤ f.2 ∧ f.2 ≤ 9223372036854775807) ∧ len ≤ cap ∧ ((len = 0 ∧ d = .nil) ∨ ∃ el sp, d = .slice el sp ∧ el.length = len) := by
  obtain ⟨rows, hr, hl, hrow, hlc, hd⟩ := open_rows ht hc (by decide) h
  simp only [Prod.mk.injEq] at hf
  obtain ⟨e0, o0, e1, o1⟩ := hf
  obtain ⟨fs, rfl, hp⟩ := map_of (f := fun f : Int × Int => [Value.int .i64 f.1, Value.int .i64 f.2])
    (p := fun f : Int × Int => (-9223372036854775808 ≤ f.1 ∧ f.1 ≤ 9223372036854775807) ∧ -9223372036854775808 ≤ f.2 ∧ f.2 ≤ 9223372036854775807) rows (by
      intro r hr
      obtain ⟨hlr, y, n, hy⟩ := hrow r hr
      obtain ⟨y0, y1, m, _, _, h0, h1⟩ := trod_struct2 he hy
      rw [e0, o0, hci] at h0
      rw [e1, o1, hci] at h1
      obtain ⟨u, hu, _, wu⟩ := DataW.trod_int hi h0
      obtain ⟨v, hv, _, wv⟩ := DataW.trod_int hi h1
      match r, hlr with
      | [c0, c1], _ =>
        simp at hu hv
        exact ⟨(u, v), by rw [hu, hv], bounds_i64 wu, bounds_i64 wv⟩)
  refine ⟨fs, ?_, hp, hlc, hd⟩
  have : cellsF fs = (fs.map fun f : Int × Int => [Value.int .i64 f.1, Value.int .i64 f.2]).flatten := by simp [cellsF, List.flatMap]
  unfold RF
  rw [this]
  exact hr
end
end Go.Baro

set_option linter.unusedSimpArgs false
set_option linter.unusedVariables false
namespace Go.Baro
open Go.RowKit
theorem Box.below {w w' : World} {b B : Nat} {t : TypeId} {cs : List Value} (h : Box w b t cs) (hb : Below B w w') (hB : b < B) : Box w' b t cs := (hb.block b hB).trans h
theorem Box.frozen {w : World} {b : Nat} {t : TypeId} {cs : List Value} (h : Box w b t cs) (i : Nat) : w.frozen? ⟨b, i, none⟩ = false := frozen_of_row w b i _ t h
theorem Box.set {w : World} {b : Nat} {t : TypeId} {cs : List Value} (h : Box w b t cs) (i : Nat) (u : Value) : Box (w.setCell ⟨b, i, none⟩ u) b t (cs.set i u) := by
  unfold Box
  rw [heap_setCell_same w b i _ t u h]
  simp
theorem Box.three {w : World} {b : Nat} {t : TypeId} {p q r : Value} (h : Box w b t [p, q, r]) (u0 u1 u2 : Value) : Box (((w.setCell ⟨b, 0, none⟩ u0).setCell ⟨b, 1, none⟩ u1).setCell ⟨b, 2, none⟩ u2) b t [u0, u1, u2] :=
  ((h.set 0 u0).set 1 u1).set 2 u2
theorem Box.two {w : World} {b : Nat} {t : TypeId} {p q : Value} (h : Box w b t [p, q]) (u0 u1 : Value) : Box ((w.setCell ⟨b, 0, none⟩ u0).setCell ⟨b, 1, none⟩ u1) b t [u0, u1] :=
  (h.set 0 u0).set 1 u1
theorem Box.four {w : World} {b : Nat} {t : TypeId} {p q r s : Value} (h : Box w b t [p, q, r, s]) (u0 u1 u2 u3 : Value) :
    Box ((((w.setCell ⟨b, 0, none⟩ u0).setCell ⟨b, 1, none⟩ u1).setCell ⟨b, 2, none⟩ u2).setCell ⟨b, 3, none⟩ u3) b t [u0, u1, u2, u3] :=
  (((h.set 0 u0).set 1 u1).set 2 u2).set 3 u3
theorem Box.cells4 {w : World} {b : Nat} {t : TypeId} {p q r s : Value} (h : Box w b t [p, q, r, s]) :
    w.cell? ⟨b, 0, none⟩ = some p ∧ w.cell? ⟨b, 1, none⟩ = some q ∧ w.cell? ⟨b, 2, none⟩ = some r ∧ w.cell? ⟨b, 3, none⟩ = some s := ⟨h.cell 0, h.cell 1, h.cell 2, h.cell 3⟩
theorem Box.frozen4 {w : World} {b : Nat} {t : TypeId} {cs : List Value} (h : Box w b t cs) :
    w.frozen? ⟨b, 0, none⟩ = false ∧ w.frozen? ⟨b, 1, none⟩ = false ∧ w.frozen? ⟨b, 2, none⟩ = false ∧ w.frozen? ⟨b, 3, none⟩ = false := ⟨h.frozen 0, h.frozen 1, h.frozen 2, h.frozen 3⟩
theorem Box.newAt (w : World) (t : TypeId) (cs : List Value) (g : Nat) (hg : g = w.heap.size) : Box (w.alloc (.cells cs.toArray t)) g t cs := by subst hg; exact Box.new w t cs
theorem below_at {B b : Nat} {a w : World} (h : Below B a w) (hB : B ≤ b) (i : Nat) (u : Value) : Below B a (w.setCell ⟨b, i, none⟩ u) := h.setCell hB u
theorem _root_.Go.RowKit.Below.undrew {B : Nat} {a w : World} (h : Below B a.drew w) : Below B a w := ⟨h.os, h.tape, h.output, h.size, h.block⟩
theorem below_set4 {B b : Nat} {a w : World} (h : Below B a w) (hB : B ≤ b) (u0 u1 u2 u3 : Value) : Below B a ((((w.setCell ⟨b, 0, none⟩ u0).setCell ⟨b, 1, none⟩ u1).setCell ⟨b, 2, none⟩ u2).setCell ⟨b, 3, none⟩ u3) :=
  (((h.setCell hB u0).setCell hB u1).setCell hB u2).setCell hB u3
theorem Box.other {w : World} {b b' : Nat} {t : TypeId} {cs : List Value} (h : Box w b t cs) (i : Nat) (u : Value) (hne : b ≠ b') : Box (w.setCell ⟨b', i, none⟩ u) b t cs :=
  h.grown (grown_setCell w ⟨b', i, none⟩ u) (by simpa using hne)
theorem results_row_tmp {P : Program} {fn : Func} {p u : Tmp} {ty : TypeId} (h : fn.results = #[.cell p ty, .tmp u]) (tmps : Array Value) (w : World) (g : Nat) (t : TypeId) (cs : Array Value) (fr : Nat × Nat) (d : TypeDesc)
    (hp : tmps.getD p undef = .pointer (some ⟨g, 0, none⟩)) (hg : w.heap[g]? = some (.cells cs t fr))
    (hu : P.underlying ty = some d) (hd : (match d with | .struct _ | .array _ _ => true | _ => false) = true) (hi : (P.info? ty).map (·.size) = some cs.size) :
    (results fn tmps).run P w = .ok (.tuple #[.agg cs, tmps.getD u undef]) w := by
  rw [results_cell_tmp h, hp]
  simp [asAddr, run_loadVar_row w g t ty cs fr d hg hu hd hi, Result.andThen]
end Go.Baro

set_option linter.unusedSimpArgs false
set_option linter.unusedVariables false
namespace Go.Baro
open Go.RowKit

def insV (o : Ins) : List Value := [.int .i64 o.k, .int .i64 o.a, .int .i64 o.b, .int .i64 o.c, .int .i64 o.d]
/-- The cells of instructions. -/
def cellsO (l : List Ins) : List Value := l.flatMap insV
/-- A slice of instructions. -/
def RO (w : World) (B : Nat) (A : Option Addr) (n : Nat) (l : List Ins) : Prop := Rd w B 5 A n (cellsO l)
theorem cellsO_length (l : List Ins) : (cellsO l).length = l.length * 5 := by
  induction l with
  | nil => rfl
  | cons f l ih => simp only [cellsO, insV, List.flatMap_cons, List.length_append, List.length_cons, List.length_nil] at ih ⊢; omega
theorem cellsO_append (a b : List Ins) : cellsO (a ++ b) = cellsO a ++ cellsO b := by simp [cellsO]
theorem cellsO_at (l : List Ins) : ∀ (i j : Nat) (o : Ins), l[i]? = some o → j < 5 → (cellsO l)[i * 5 + j]? = (insV o)[j]? := by
  induction l with
  | nil => intro i j o h; simp at h
  | cons g l ih =>
    intro i j o h hj
    have hc : cellsO (g :: l) = insV g ++ cellsO l := rfl
    rw [hc]
    cases i with
    | zero => simp at h; subst h; rw [List.getElem?_append_left (by simp [insV]; omega)]; simp
    | succ i =>
      have := ih i j o (by simpa using h) hj
      rw [List.getElem?_append_right (by simp [insV]; omega), ← this]
      simp [insV, show (i + 1) * 5 + j - 5 = i * 5 + j by omega]
section
variable {w w' : World} {B B' n : Nat} {A : Option Addr} {l : List Ins}
theorem RO.len (h : RO w B A n l) : l.length = n := by have := Rd.len h; rw [cellsO_length] at this; omega
theorem RO.val (h : RO w B A n l) {i : Nat} (hi : i < n) : ∃ b o k x y z u, A = some ⟨b, o, none⟩ ∧ b < B ∧ w.cell? ⟨b, o + i * 5, none⟩ = some (.int .i64 k) ∧ w.cell? ⟨b, o + i * 5 + 1, none⟩ = some (.int .i64 x) ∧ w.cell? ⟨b, o + i * 5 + 2, none⟩ = some (.int .i64 y) ∧
    w.cell? ⟨b, o + i * 5 + 3, none⟩ = some (.int .i64 z) ∧ w.cell? ⟨b, o + i * 5 + 4, none⟩ = some (.int .i64 u) ∧ Hid (l[i]? = some ⟨k, x, y, z, u⟩) ∧ Ins.mk k x y z u ∈ l := by
  obtain ⟨b, o, hA, hb, hc⟩ := Rd.at_ h (by omega)
  have hl : i < l.length := by rw [h.len]; exact hi
  have hf : l[i]? = some l[i] := List.getElem?_eq_getElem hl
  refine ⟨b, o, l[i].k, l[i].a, l[i].b, l[i].c, l[i].d, hA, hb, ?_, ?_, ?_, ?_, ?_, hf, List.getElem_mem hl⟩
  · rw [hc (i * 5) (by omega)]; exact cellsO_at l i 0 _ hf (by omega)
  · rw [Nat.add_assoc, hc (i * 5 + 1) (by omega)]; exact cellsO_at l i 1 _ hf (by omega)
  · rw [Nat.add_assoc, hc (i * 5 + 2) (by omega)]; exact cellsO_at l i 2 _ hf (by omega)
  · rw [Nat.add_assoc, hc (i * 5 + 3) (by omega)]; exact cellsO_at l i 3 _ hf (by omega)
  · rw [Nat.add_assoc, hc (i * 5 + 4) (by omega)]; exact cellsO_at l i 4 _ hf (by omega)
theorem RO.below (h : RO w B A n l) (hb : Below B w w') : RO w' B A n l := Rd.below h hb
theorem RO.heap (h : RO w B A n l) (hh : w'.heap = w.heap) : RO w' B A n l := Rd.heap h hh
theorem RO.more (h : RO w B A n l) (hB : B ≤ B') : RO w B' A n l := Rd.more h hB
theorem RO.size (h : RO w B A n l) : RO w w.heap.size A n l := Rd.size h (by decide)
theorem RO.nil (w : World) (B : Nat) (A : Option Addr) : RO w B A 0 [] := Rd.nil w B 5 A
end
section
variable {H : Type} {enc : TypeId × Value → H} {P : Program} {W : World}
/-- A slice of instructions that came in. -/
theorem open_RO {t e i : TypeId} {f0 f1 f2 f3 f4 : Field} {a : Option Addr} {len cap : Nat} {d : DataW H} {p : List MemPlace} (ht : P.underlying t = some (.slice e)) (he : P.underlying e = some (.struct #[f0, f1, f2, f3, f4])) (hc : P.cellsOf e = 5)
    (hi : P.underlying i = some (.int .i64)) (hci : P.cellsOf i = 1) (hf : [f0, f1, f2, f3, f4].map (fun f => (f.type, f.offset)) = [(i, 0), (i, 1), (i, 2), (i, 3), (i, 4)])
    (h : DataW.Trod enc P W 0 (fun _ => true) true t (.slice a len cap) d p) :
    ∃ fs : List Ins, RO W W.heap.size a len fs ∧ (∀ f ∈ fs, inI f) ∧ len ≤ cap ∧ ((len = 0 ∧ d = .nil) ∨ ∃ el sp, d = .slice el sp ∧ el.length = len) := by
  obtain ⟨rows, hr, hl, hrow, hlc, hd⟩ := open_rows ht hc (by decide) h
  simp only [List.map_cons, List.map_nil, List.cons.injEq, Prod.mk.injEq, and_true] at hf
  obtain ⟨⟨e0, o0⟩, ⟨e1, o1⟩, ⟨e2, o2⟩, ⟨e3, o3⟩, e4, o4⟩ := hf
  obtain ⟨fs, rfl, hp⟩ := map_of (f := insV) (p := inI) rows (by
      intro r hr
      obtain ⟨hlr, y, n, hy⟩ := hrow r hr
      obtain ⟨xs, m, _, _, hlen, hlx, hfx⟩ := DataW.trod_struct he hy
      have g : ∀ (j : Nat) (f : Field), #[f0, f1, f2, f3, f4][j]? = some f → f.type = i → ∃ v, (r.drop f.offset).take 1 = [.int .i64 v] ∧ inW v := by
        intro j f hj hfi
        have h0 := hfx j f hj
        have hjl : j < xs.length := by
          have := (Array.getElem?_eq_some_iff.1 hj).1
          simp at this hlx; omega
        rw [List.getElem?_eq_getElem hjl, hfi, hci] at h0
        obtain ⟨u, hu, _, wu⟩ := DataW.trod_int hi h0
        exact ⟨u, hu, bounds_i64 wu⟩
      obtain ⟨v0, h0, w0⟩ := g 0 f0 rfl e0
      obtain ⟨v1, h1, w1⟩ := g 1 f1 rfl e1
      obtain ⟨v2, h2, w2⟩ := g 2 f2 rfl e2
      obtain ⟨v3, h3, w3⟩ := g 3 f3 rfl e3
      obtain ⟨v4, h4, w4⟩ := g 4 f4 rfl e4
      rw [o0] at h0; rw [o1] at h1; rw [o2] at h2; rw [o3] at h3; rw [o4] at h4
      match r, hlr with
      | [c0, c1, c2, c3, c4], _ =>
        simp at h0 h1 h2 h3 h4
        exact ⟨⟨v0, v1, v2, v3, v4⟩, by simp [insV, h0, h1, h2, h3, h4], w0, w1, w2, w3, w4⟩)
  refine ⟨fs, ?_, hp, hlc, hd⟩
  have : cellsO fs = (fs.map insV).flatten := by simp [cellsO, List.flatMap]
  unfold RO
  rw [this]
  exact hr
end
end Go.Baro

set_option linter.unusedSimpArgs false
set_option linter.unusedVariables false
namespace Go.Baro
open Go.RowKit
section
variable {P : Program} {t e : TypeId} {z : Value} {s by' : Nat} {ops : Array Oper} {rest : List Oper} {o : Oper} {a : Act} {Q : Exit → Act → World → Prop}

/-- It is the same block as before, or a new one. -/
theorem append_block (E : Elt P t e z s by') (ty : TypeId) {w w' : World} {base n m c : Nat} {v v' : Value} {xs news : List Value} {ad : Addr} (hown : w.ownsRow base e s v n xs) (hl : news.length = m * s)
    (hnews : ∀ j u, news[j]? = some u → w.cell? (ad.add j) = some u) (h1 : ∀ u ∈ news, u.oneCell' = true) (hn : (n + m) * by' ≤ 140737488355328) (hn' : n + m ≤ 140737488355328)
    (hr : (Builtin.append_ #[t, t] ty #[v, .slice (some ad) m c]).run P w = .ok v' w') : v'.ownBlock = v.ownBlock ∨ v'.ownBlock = some w.heap.size := by
  obtain ⟨hu, ⟨i, hi, h5, h6, h7⟩, h3, h4⟩ := E
  subst h6 h7
  rcases hown.2 with ⟨rfl, rfl⟩ | ⟨g, cap, cur, rfl, hbg, hg, hnc, hcm, hcs, htake⟩
  · have hx : xs = [] := List.eq_nil_of_length_eq_zero (by simpa using hown.1)
    subst hx
    by_cases hm : m = 0
    · subst hm
      have hn : news = [] := List.eq_nil_of_length_eq_zero (by simpa using hl)
      subst hn
      simp [Builtin.append_, run_underlying hu, sizeOf, typeInfo, hi, Builtin.lenOf, Builtin.firstCells, loadCells, loadCellsFrom] at hr
      exact .inl (by rw [← hr.1])
    · rw [_root_.Go.run_append_nil (P := P) w t ty e i z hu hi h5 ad m c news hl hnews (by omega) (by omega) (by simp only [Nat.zero_add] at hn; omega)] at hr
      injection hr with hr _
      exact .inr (by rw [← hr]; rfl)
  · by_cases hroom : n + m ≤ cap
    · have hfit : n * i.size + news.length ≤ cur.size := by rw [hl, hcs, ← Nat.add_mul]; exact Nat.mul_le_mul_right _ hroom
      rw [run_append_room (P := P) w t ty e i hu hi g n cap cur hg ad m c news hl hnews h1 hroom hfit] at hr
      injection hr with hr _
      exact .inl (by rw [← hr]; rfl)
    · have holds : ∀ j u, xs[j]? = some u → w.cell? ((⟨g, 0, none⟩ : Addr).add j) = some u := hown.cells (g := g) rfl
      rw [run_append_grow (P := P) w t ty e i z hu hi h5 ⟨g, 0, none⟩ n cap xs hown.1 holds ad m c news hl hnews (by omega) (by omega) (growslice_fits (by omega) hn)] at hr
      injection hr with hr _
      exact .inr (by rw [← hr]; rfl)

/-- append(v, x...) from whatever slice x, and where its row lies. -/
theorem app_srcB (E : Elt P t e z s by') (w : World) (hgd : o.guard = none) (l x : Operand) (ho : o.op = .call { callee := .builtin .append, args := #[l, x], argTypes := #[t, t] })
    (base : Nat) (v : Value) (n : Nat) (xs : List Value) (hs : a.eval l = v) (hown : w.ownsRow base e s v n xs) (A : Option Addr) (m c : Nat) (cs : List Value) (hx : a.eval x = .slice A m c) (B : Nat) (hr : Rd w B s A m cs)
    (h1 : ∀ u ∈ cs, u.oneCell' = true) (hn : (n + m) * by' ≤ 140737488355328) (hn' : n + m ≤ 140737488355328) (hb : base ≤ w.heap.size)
    (h : ∀ v' w', w'.ownsRow base e s v' (n + m) (xs ++ cs) → w.grownBy w' v.ownBlock → (∀ w0, Below base w0 w → Below base w0 w') → base ≤ w'.heap.size → (v'.ownBlock = v.ownBlock ∨ v'.ownBlock = some w.heap.size) → wpList P ops Q rest (a.put o.dst v') w') :
    wpList P ops Q (o :: rest) a w := by
  cases A with
  | none =>
    have hm : m = 0 := by
      rcases Nat.eq_zero_or_pos m with h0 | h0
      · exact h0
      · obtain ⟨b, q, hA, _⟩ := hr.at_ h0; cases hA
    subst hm
    have hc : cs = [] := List.eq_nil_of_length_eq_zero (by simpa using hr.len)
    subst hc
    refine wpList_plain hgd fun K hK => ?_
    unfold Oper.wp
    simp [execOp, ho, resolve, invoke, builtin, hs, hx, run_append_nil E o.type hown c, Result.andThen]
    exact hK _ _ (h v w (by simpa using hown) (World.grownBy.refl w _) (fun _ hb0 => hb0) hb (.inl rfl))
  | some ad =>
    have hnews : ∀ j u, cs[j]? = some u → w.cell? (ad.add j) = some u := by
      intro j u hj
      have hjl : j < m * s := by rw [← hr.len]; exact (List.getElem?_eq_some_iff.1 hj).1
      obtain ⟨b, q, hA, _, hc⟩ := hr.at_ (by rcases Nat.eq_zero_or_pos m with h0 | h0; simp [h0] at hjl; exact h0)
      injection hA with hA
      subst hA
      rw [Addr.add_lit, hc j hjl, hj]
    have E' := E
    obtain ⟨hu, ⟨i, hi, h5, h6, h7⟩, h3, h4⟩ := E
    obtain ⟨v', w', hrun, ho2, hg2, _⟩ := run_append_own (P := P) w base t o.type e i z s by' hu hi h5 h6 h7 h3 h4 v n xs hown ad m c cs hr.len hnews h1 (by unfold maxLen; omega) hn hb
    have hblk := append_block E' o.type hown hr.len hnews h1 hn hn' hrun
    refine wpList_plain hgd fun K hK => ?_
    unfold Oper.wp
    simp [execOp, ho, resolve, invoke, builtin, hs, hx, hrun, Result.andThen]
    refine hK _ _ (h v' w' ho2 hg2 (fun w0 hb0 => hb0.grown hg2 hb (fun k hk => (hown.lt k hk).1)) ?_ hblk)
    have := hg2.size; omega

/-- Two rows of the call's own in two blocks: what is done to the one leaves the other. -/
theorem own_apart {w w' : World} {b1 : Nat} {e1 : TypeId} {s1 n1 : Nat} {v1 v2 : Value} {xs1 : List Value} (h1 : w.ownsRow b1 e1 s1 v1 n1 xs1) (hne : v1.ownBlock = none ∨ v1.ownBlock ≠ v2.ownBlock)
    (hg : w.grownBy w' v2.ownBlock) : w'.ownsRow b1 e1 s1 v1 n1 xs1 := h1.kept hg hne
/-- They stay in two blocks. -/
theorem apart_next {w : World} {b1 : Nat} {e1 : TypeId} {s1 n1 : Nat} {v1 v2 v2' : Value} {xs1 : List Value} (h1 : w.ownsRow b1 e1 s1 v1 n1 xs1) (hne : v1.ownBlock = none ∨ v1.ownBlock ≠ v2.ownBlock)
    (hb : v2'.ownBlock = v2.ownBlock ∨ v2'.ownBlock = some w.heap.size) : v1.ownBlock = none ∨ v1.ownBlock ≠ v2'.ownBlock := by
  rcases hb with hb | hb
  · rw [hb]; exact hne
  · rw [hb]
    refine .inr fun he => ?_
    have := (h1.lt _ he).2
    omega
end
end Go.Baro

set_option linter.unusedSimpArgs false
set_option linter.unusedVariables false
namespace Go.Baro
open Go.RowKit

/-- A value that is a slice of these bytes. -/
def SL (w : World) (B : Nat) (v : Value) (l : List Int) : Prop := ∃ A n c, v = .slice A n c ∧ n ≤ c ∧ RI w B .u8 A n l
/-- A slice of slices of bytes. -/
def RL (w : World) (B : Nat) (A : Option Addr) (n : Nat) (ls : List (List Int)) : Prop :=
  ∃ cs : List Value, Rd w B 1 A n cs ∧ cs.length = ls.length ∧ ∀ (i : Nat) v l, cs[i]? = some v → ls[i]? = some l → SL w B v l

section
variable {w w' : World} {B B' n : Nat} {A : Option Addr} {ls : List (List Int)}
theorem SL.below {v : Value} {l : List Int} (h : SL w B v l) (hb : Below B w w') : SL w' B v l := by
  obtain ⟨A, n, c, e, hc, hr⟩ := h
  exact ⟨A, n, c, e, hc, hr.below hb⟩
theorem SL.heap {v : Value} {l : List Int} (h : SL w B v l) (hh : w'.heap = w.heap) : SL w' B v l := by
  obtain ⟨A, n, c, e, hc, hr⟩ := h
  exact ⟨A, n, c, e, hc, hr.heap hh⟩
theorem SL.more {v : Value} {l : List Int} (h : SL w B v l) (hB : B ≤ B') : SL w B' v l := by
  obtain ⟨A, n, c, e, hc, hr⟩ := h
  exact ⟨A, n, c, e, hc, hr.more hB⟩
theorem RL.len (h : RL w B A n ls) : ls.length = n := by
  obtain ⟨cs, hr, hl, _⟩ := h
  have := hr.len
  omega
theorem RL.below (h : RL w B A n ls) (hb : Below B w w') : RL w' B A n ls := by
  obtain ⟨cs, hr, hl, hs⟩ := h
  exact ⟨cs, hr.below hb, hl, fun i v l h1 h2 => (hs i v l h1 h2).below hb⟩
theorem RL.heap (h : RL w B A n ls) (hh : w'.heap = w.heap) : RL w' B A n ls := by
  obtain ⟨cs, hr, hl, hs⟩ := h
  exact ⟨cs, hr.heap hh, hl, fun i v l h1 h2 => (hs i v l h1 h2).heap hh⟩
theorem RL.more (h : RL w B A n ls) (hB : B ≤ B') : RL w B' A n ls := by
  obtain ⟨cs, hr, hl, hs⟩ := h
  exact ⟨cs, hr.more hB, hl, fun i v l h1 h2 => (hs i v l h1 h2).more hB⟩
theorem RL.val (h : RL w B A n ls) {i : Nat} (hi : i < n) : ∃ b o A' n' c' l, A = some ⟨b, o, none⟩ ∧ b < B ∧ w.cell? ⟨b, o + i, none⟩ = some (.slice A' n' c') ∧ n' ≤ c' ∧ RI w B .u8 A' n' l ∧ Hid (ls[i]? = some l) ∧ l ∈ ls := by
  obtain ⟨cs, hr, hl, hs⟩ := h
  obtain ⟨b, o, hA, hb, hc⟩ := hr.at_ (by omega)
  have h1 := hr.len
  have hi1 : i < cs.length := by omega
  have hi2 : i < ls.length := by omega
  obtain ⟨A', n', c', e, hc', hr'⟩ := hs i cs[i] ls[i] (List.getElem?_eq_getElem hi1) (List.getElem?_eq_getElem hi2)
  refine ⟨b, o, A', n', c', ls[i], hA, hb, ?_, hc', hr', List.getElem?_eq_getElem hi2, List.getElem_mem hi2⟩
  rw [hc i (by omega), List.getElem?_eq_getElem hi1, e]
theorem RL.nil (w : World) (B : Nat) (A : Option Addr) : RL w B A 0 [] := ⟨[], Rd.nil w B 1 A, rfl, fun i v l h => by simp at h⟩
theorem RL.take (h : RL w B A n ls) {m : Nat} (hm : m ≤ n) : RL w B A m (ls.take m) := by
  obtain ⟨cs, hr, hl, hs⟩ := h
  have h1 := hr.len
  refine ⟨cs.take (m * 1), hr.take hm, by simp; omega, fun i v l h2 h3 => hs i v l ?_ ?_⟩
  · rw [List.getElem?_take] at h2; split at h2; exact h2; cases h2
  · rw [List.getElem?_take] at h3; split at h3; exact h3; cases h3
end

/-- A list of bytes of the call's own, not in block x. -/
def OB (T : TypeId) (w : World) (base : Nat) (x : Option Nat) (v : Value) (l : List Int) : Prop :=
  ∃ n, w.ownsRow base T 1 v n (l.map (Value.int .u8)) ∧ (v.ownBlock = none ∨ v.ownBlock ≠ x)
def OBs (T : TypeId) (w : World) (base : Nat) (x : Option Nat) (cs : List Value) (ls : List (List Int)) : Prop :=
  cs.length = ls.length ∧ ∀ (i : Nat) v l, cs[i]? = some v → ls[i]? = some l → OB T w base x v l
section
variable {T U : TypeId} {w w' : World} {base base' : Nat} {x x' : Option Nat} {v : Value} {l : List Int} {cs : List Value} {ls : List (List Int)}
theorem OB.mk {n : Nat} (h : w.ownsRow base T 1 v n (l.map (Value.int .u8))) (hx : v.ownBlock = none ∨ v.ownBlock ≠ x) : OB T w base x v l := ⟨n, h, hx⟩
theorem OB.mk0 {n : Nat} (h : w.ownsRow base T 1 v n (l.map (Value.int .u8))) : OB T w base none v l := ⟨n, h, by cases v.ownBlock <;> simp⟩
theorem OB.below (h : OB T w base x v l) (hb : Below w.heap.size w w') : OB T w' base x v l := by
  obtain ⟨n, h1, h2⟩ := h
  exact ⟨n, own_below h1 hb, h2⟩
theorem OB.low (h : OB T w base x v l) (hb : base' ≤ base) : OB T w base' x v l := by
  obtain ⟨n, h1, h2⟩ := h
  exact ⟨n, own_more h1 hb, h2⟩
theorem OB.other {s n : Nat} {v2 : Value} {xs : List Value} (h : OB T w base x v l) (h2 : w.ownsRow base' U s v2 n xs) (hne : T ≠ U) (hg : w.grownBy w' v2.ownBlock) : OB T w' base x v l := by
  obtain ⟨n, h1, hx⟩ := h
  exact ⟨n, own_keep h1 h2 hne hg, hx⟩
theorem OB.kept (h : OB T w base x v l) (hg : w.grownBy w' x) : OB T w' base x v l := by
  obtain ⟨n, h1, hx⟩ := h
  exact ⟨n, h1.kept hg hx, hx⟩
theorem OB.block (h : OB T w base x v l) (hb : x' = x ∨ x' = some w.heap.size) : OB T w base x' v l := by
  obtain ⟨n, h1, hx⟩ := h
  refine ⟨n, h1, ?_⟩
  rcases hb with rfl | rfl
  · exact hx
  · refine .inr fun he => ?_
    have := (h1.lt _ he).2
    omega
theorem OB.sl (h : OB T w base x v l) : SL w w.heap.size v l := by
  obtain ⟨n, h1, hx⟩ := h
  obtain ⟨A, c, rfl, hc⟩ := own_form h1
  exact ⟨A, n, c, rfl, hc, Rd.of_own h1⟩
theorem OBs.nil (T : TypeId) (w : World) (base : Nat) (x : Option Nat) : OBs T w base x [] [] := ⟨rfl, fun i v l h => by simp at h⟩
theorem OBs.snoc (h : OBs T w base x cs ls) (h1 : OB T w base x v l) : OBs T w base x (cs ++ [v]) (ls ++ [l]) := by
  refine ⟨by simp [h.1], fun i v' l' hv hl => ?_⟩
  rw [List.getElem?_append] at hv hl
  split at hv
  · rename_i hi
    rw [if_pos (by rw [← h.1]; exact hi)] at hl
    exact h.2 i v' l' hv hl
  · rename_i hi
    rw [if_neg (by rw [← h.1]; exact hi), ← h.1] at hl
    rcases Nat.eq_zero_or_pos (i - cs.length) with h0 | h0
    · rw [h0] at hv hl
      simp at hv hl
      rw [← hv, ← hl]; exact h1
    · rw [List.getElem?_eq_none (by simp; omega)] at hv; cases hv
theorem OBs.below (h : OBs T w base x cs ls) (hb : Below w.heap.size w w') : OBs T w' base x cs ls := ⟨h.1, fun i v l h1 h2 => (h.2 i v l h1 h2).below hb⟩
theorem OBs.low (h : OBs T w base x cs ls) (hb : base' ≤ base) : OBs T w base' x cs ls := ⟨h.1, fun i v l h1 h2 => (h.2 i v l h1 h2).low hb⟩
theorem OBs.other {s n : Nat} {v2 : Value} {xs : List Value} (h : OBs T w base x cs ls) (h2 : w.ownsRow base' U s v2 n xs) (hne : T ≠ U) (hg : w.grownBy w' v2.ownBlock) : OBs T w' base x cs ls :=
  ⟨h.1, fun i v l h1 h3 => (h.2 i v l h1 h3).other h2 hne hg⟩
theorem OBs.kept (h : OBs T w base x cs ls) (hg : w.grownBy w' x) : OBs T w' base x cs ls := ⟨h.1, fun i v l h1 h2 => (h.2 i v l h1 h2).kept hg⟩
theorem OBs.block (h : OBs T w base x cs ls) (hb : x' = x ∨ x' = some w.heap.size) : OBs T w base x' cs ls := ⟨h.1, fun i v l h1 h2 => (h.2 i v l h1 h2).block hb⟩
theorem OB.grow (h : OB T w base x v l) (hg : w.grownBy w' x) (hb : x' = x ∨ x' = some w.heap.size) : OB T w' base x' v l := by
  obtain ⟨n, h1, hx⟩ := h
  obtain ⟨_, _, hx'⟩ := OB.block ⟨n, h1, hx⟩ hb
  exact ⟨n, h1.kept hg hx, hx'⟩
theorem OBs.grow (h : OBs T w base x cs ls) (hg : w.grownBy w' x) (hb : x' = x ∨ x' = some w.heap.size) : OBs T w' base x' cs ls := ⟨h.1, fun i v l h1 h2 => (h.2 i v l h1 h2).grow hg hb⟩
theorem OBs.rl {n : Nat} {A : Option Addr} {c : Nat} (h : OBs T w base x cs ls) (ho : w.ownsRow base' U 1 (.slice A n c) n cs) : RL w w.heap.size A n ls :=
  ⟨cs, Rd.of_own ho, h.1, fun i v l h1 h2 => (h.2 i v l h1 h2).sl⟩
end
section
variable {P : Program} {t e : TypeId} {z : Value} {s by' : Nat} {ops : Array Oper} {rest : List Oper} {o : Oper} {a : Act} {Q : Exit → Act → World → Prop}
/-- make([]T, 0, n) -/
theorem make_room (E : Elt P t e z s by') (w : World) (hgd : o.guard = none) (l c : Operand) (ho : o.op = Op.makeSlice t l c) (base : Nat) (kl kc : IntKind) (C : Int) (n : Nat)
    (hl : a.eval l = .int kl 0) (hc : a.eval c = .int kc C) (hC : C = n) (hn : by' * n ≤ 140737488355328) (hn' : n ≤ 140737488355328) (hb : base ≤ w.heap.size)
    (h : ∀ w', w'.ownsRow base e s (.slice (some ⟨w.heap.size, 0, none⟩) 0 n) 0 [] → (∀ w0, Below base w0 w → Below base w0 w') → base ≤ w'.heap.size → w.grownBy w' none →
      wpList P ops Q rest (a.put o.dst (.slice (some ⟨w.heap.size, 0, none⟩) 0 n)) w') : wpList P ops Q (o :: rest) a w := by
  obtain ⟨hu, ⟨i, hi, h5, h6, h7⟩, h3, h4⟩ := E
  refine wpList_make_own w hgd l c t ho base e i z s hu hi h5 h6 kl kc C n hl hc hC (by rw [h7]; omega) (by unfold maxLen; omega) hb ?_
  intro w' ho hg
  refine h w' ho (fun w0 hb0 => hb0.grown hg hb (fun k hk => by cases hk)) ?_ hg
  have := hg.size; omega
end
/-- A row that was written out just now. -/
theorem own_new {w : World} {base : Nat} {e : TypeId} {s m : Nat} (cs : List Value) (g : Nat) (hg : g = w.heap.size) (hl : cs.length = m * s) (hb : base ≤ w.heap.size) (hm : m ≤ 140737488355328) :
    (w.alloc (.cells cs.toArray e)).ownsRow base e s (.slice (some ⟨g, 0, none⟩) m m) m cs := by
  subst hg
  refine ⟨hl, .inr ⟨w.heap.size, m, cs.toArray, rfl, hb, heap_alloc_new w _, Nat.le_refl _, by unfold maxLen; omega, by simpa using hl, ?_⟩⟩
  rw [List.take_of_length_le (by simp; omega)]
/-- A row made later lies in another block. -/
theorem own_later {w w0 : World} {b b0 : Nat} {e e0 : TypeId} {s s0 n n0 : Nat} {v v0 : Value} {xs xs0 : List Value} (h : w.ownsRow b e s v n xs) (h0 : w0.ownsRow b0 e0 s0 v0 n0 xs0) (hb : w0.heap.size ≤ b) : v.ownBlock = none ∨ v.ownBlock ≠ v0.ownBlock := by
  cases hv : v.ownBlock with
  | none => exact .inl rfl
  | some k =>
    refine .inr fun he => ?_
    have h1 := (h.lt k hv).1
    have h2 := (h0.lt k he.symm).2
    omega
theorem oneS (A : Option Addr) (n c : Nat) : ∀ u ∈ [Value.slice A n c], u.oneCell' = true := by
  intro u hu; simp only [List.mem_singleton] at hu; subst hu; rfl
theorem below_alloc {w : World} (o : Obj) : Below w.heap.size w (w.alloc o) := (Below.refl _ _).alloc (Nat.le_refl _) _
end Go.Baro
