/- Of this claim's own texts these, one behind the other: Open, LibBox. No statement of the seat is proved here; no condition but those that stand at the theorems. -/
import Derived.Test.YtnchgdjdfhfedaaDoorRows
import Derived.Test.YtnchgdjdfhfedaaDoorPartAC
import Derived.ProofKit
import Derived.OpenShut
import Derived.ShutString
import Derived.ChangeOld
import Derived.Laws.ResultCell
set_option linter.unusedSimpArgs false
set_option linter.unusedVariables false
namespace Go.Baro
open Go.ChangeShapes Go.WideShapes Go.ChangeAt Go.RowKit

section
variable {H : Type} {enc : TypeId × Value → H} {P : Program} {W : World}

theorem block_lt {w : World} {a : Addr} {v : Value} (h : w.cell? a = some v) : a.block < w.heap.size ∧ a.spot = none := by
  unfold World.cell? at h
  split at h
  · rename_i c e f hb
    refine ⟨(Array.getElem?_eq_some_iff.1 hb).1, ?_⟩
    cases hs : a.spot with
    | none => rfl
    | some x => simp [hs] at h
  · cases h

/-- A slice of integers that came in. -/
theorem open_RI {t e : TypeId} {k : IntKind} {a : Option Addr} {len cap : Nat} {d : DataW H} {p : List MemPlace} (ht : P.underlying t = some (.slice e)) (he : P.underlying e = some (.int k)) (hc : P.cellsOf e = 1)
    (h : DataW.Trod enc P W 0 (fun _ => true) true t (.slice a len cap) d p) :
    ∃ xs : List Int, RI W W.heap.size k a len xs ∧ (∀ x ∈ xs, (Lit.int k x).wf = true) ∧ len ≤ cap ∧ ((len = 0 ∧ d = .nil) ∨ ∃ el sp, d = .slice el sp ∧ el.length = len) := by
  obtain ⟨fuel, hf⟩ := h
  rcases open_ints ht he hc hf with ⟨hcs, hd⟩ | ⟨x, l, c, zs, hcs, _, hl, hm, hz, hd, hcell, hwz⟩
  · simp [Value.cells] at hcs
    obtain ⟨rfl, rfl, rfl⟩ := hcs
    simp only [Prod.mk.injEq] at hd
    exact ⟨[], RI.nil _ _ _ _, by simp, Nat.le_refl _, .inl ⟨rfl, hd.1⟩⟩
  · simp [Value.cells] at hcs
    obtain ⟨rfl, rfl, rfl⟩ := hcs
    have hz' : zs.length = cap := by simpa using hz
    simp only [Prod.mk.injEq] at hd
    refine ⟨zs.take len, ⟨by simp [hz']; omega, fun hn => ?_⟩, fun y hy => hwz y (List.mem_of_mem_take hy), hl, .inr ⟨_, _, hd.1, by simp [lits, hz']; omega⟩⟩
    obtain ⟨b, o, spot⟩ := x
    have h0 := hcell 0 (by omega)
    obtain ⟨hb, hs⟩ := block_lt h0
    have hadd : ∀ i, (⟨b, o, spot⟩ : Addr).add i = ⟨b, o + i, none⟩ ∨ (i = 0) := by
      intro i
      by_cases hi : i = 0
      · exact .inr hi
      · exact .inl (by simp [Addr.add, hi])
    have hspot : spot = none := by simpa [Addr.add] using hs
    subst hspot
    refine ⟨b, o, rfl, by simpa [Addr.add] using hb, fun j hj => ?_⟩
    have hj' : j < zs.length := by omega
    have := hcell j hj'
    rw [Addr.add_lit] at this
    rw [this, List.getElem?_map, List.getElem?_take, if_pos (by omega), List.getElem?_eq_getElem hj']
    simp [List.getD, List.getElem?_eq_getElem hj']

theorem flat_get {s : Nat} (hs : 0 < s) : ∀ (rows : List (List Value)) (i j : Nat) (r : List Value), (∀ r ∈ rows, r.length = s) → rows[i]? = some r → j < s → rows.flatten[i * s + j]? = r[j]?
  | [], i, j, r, _, h, _ => by simp at h
  | q :: rows, 0, j, r, hl, h, hj => by
    simp at h; subst h
    have := hl q (by simp)
    rw [List.flatten_cons, Nat.zero_mul, Nat.zero_add, List.getElem?_append_left (by omega)]
  | q :: rows, i + 1, j, r, hl, h, hj => by
    have hq := hl q (by simp)
    rw [List.flatten_cons, List.getElem?_append_right (by rw [hq, Nat.add_mul]; omega), hq, show (i + 1) * s + j - s = i * s + j by rw [Nat.add_mul]; omega]
    exact flat_get hs rows i j r (fun r hr => hl r (by simp [hr])) (by simpa using h) hj

theorem flat_length {s : Nat} (rows : List (List Value)) (h : ∀ r ∈ rows, r.length = s) : rows.flatten.length = rows.length * s := by
  induction rows with
  | nil => simp
  | cons q rows ih => rw [List.flatten_cons, List.length_append, h q (by simp), ih fun r hr => h r (by simp [hr]), List.length_cons, Nat.add_mul]; omega

/-- A slice of whatever flat elements that came in: a row of cells an element, each read by the element's type. -/
theorem open_rows {t e : TypeId} {s : Nat} {a : Option Addr} {len cap : Nat} {d : DataW H} {p : List MemPlace} (ht : P.underlying t = some (.slice e)) (hc : P.cellsOf e = s) (hs : 0 < s)
    (h : DataW.Trod enc P W 0 (fun _ => true) true t (.slice a len cap) d p) :
    ∃ rows : List (List Value), Rd W W.heap.size s a len rows.flatten ∧ rows.length = len ∧ (∀ r ∈ rows, r.length = s ∧ ∃ y n, DataW.trod enc P W 0 (fun _ => true) true n e r = some y) ∧ len ≤ cap ∧ ((len = 0 ∧ d = .nil) ∨ ∃ el sp, d = .slice el sp ∧ el.length = len) := by
  obtain ⟨fuel, hf⟩ := h
  rcases DataW.trod_slice ht hf with ⟨hcs, hd⟩ | ⟨x, l, c, elems, rest, n, _, hcs, hd, _, hl, hm, hlen, hel, hsp, hns⟩
  · simp [Value.cells] at hcs
    obtain ⟨rfl, rfl, rfl⟩ := hcs
    simp only [Prod.mk.injEq] at hd
    exact ⟨[], Rd.nil _ _ _ _, rfl, by simp, Nat.le_refl _, .inl ⟨rfl, hd.1⟩⟩
  · simp [Value.cells] at hcs
    obtain ⟨rfl, rfl, rfl⟩ := hcs
    simp only [Prod.mk.injEq] at hd
    have each : ∀ i, i < len → ∃ r : List Value, r.length = s ∧ (∀ j, j < s → W.cell? ((x.add (i * s)).add j) = r[j]?) ∧ ∃ y, DataW.trod enc P W 0 (fun _ => true) true n e r = some y := by
      intro i hi
      have h1 := hel i hi
      rw [hc, List.getElem?_eq_getElem (by omega)] at h1
      obtain ⟨r, hr, hy⟩ := Option.bind_eq_some_iff.1 h1
      have hr' := hr
      unfold World.cells? at hr
      split at hr
      · have hlr : r.length = s := by simpa using mapM_some_length hr
        refine ⟨r, hlr, fun j hj => ?_, _, hy⟩
        have := mapM_some_get hr j j (by simp [hj])
        exact this
      · cases hr
    have hx := Classical.axiomOfChoice (r := fun (i : Fin len) (r : List Value) => r.length = s ∧ (∀ j, j < s → W.cell? ((x.add (i.1 * s)).add j) = r[j]?) ∧ ∃ y, DataW.trod enc P W 0 (fun _ => true) true n e r = some y) (fun i => each i.1 i.2)
    obtain ⟨f, hf'⟩ := hx
    refine ⟨List.ofFn f, ⟨?_, fun hn => ?_⟩, by simp, ?_, hl, .inr ⟨_, _, hd.1, by simp [hlen]⟩⟩
    · rw [flat_length (s := s) _ (by intro r hr; obtain ⟨i, rfl⟩ := List.mem_ofFn.1 hr; exact (hf' i).1)]; simp
    · obtain ⟨b, o, spot⟩ := x
      have h0 := (hf' ⟨0, hn⟩).2.1 0 hs
      have hl0 := (hf' ⟨0, hn⟩).1
      rw [List.getElem?_eq_getElem (by omega)] at h0
      obtain ⟨hb, hsn⟩ := block_lt h0
      have hspot : spot = none := by simpa [Addr.add] using hsn
      subst hspot
      refine ⟨b, o, rfl, by simpa [Addr.add] using hb, fun j hj => ?_⟩
      have hi : j / s < len := Nat.div_lt_of_lt_mul (by rw [Nat.mul_comm]; exact hj)
      have hjm : j % s < s := Nat.mod_lt _ hs
      have h1 := (hf' ⟨j / s, hi⟩).2.1 (j % s) hjm
      rw [Addr.add_lit, Addr.add_lit, Nat.add_assoc, show j / s * s + j % s = j by rw [Nat.mul_comm]; exact Nat.div_add_mod j s] at h1
      rw [h1]
      have h2 := flat_get hs (List.ofFn f) (j / s) (j % s) (f ⟨j / s, hi⟩) (by intro r hr; obtain ⟨i, rfl⟩ := List.mem_ofFn.1 hr; exact (hf' i).1) (by simp [hi]) hjm
      rw [show j / s * s + j % s = j by rw [Nat.mul_comm]; exact Nat.div_add_mod j s] at h2
      exact h2.symm
    · intro r hr
      obtain ⟨i, rfl⟩ := List.mem_ofFn.1 hr
      exact ⟨(hf' i).1, (hf' i).2.2.imp fun y hy => ⟨n, hy⟩⟩

/-- A list of things that each have a shape is the image of a list. -/
theorem map_of {α β : Type} {f : α → β} {p : α → Prop} : ∀ (l : List β), (∀ b ∈ l, ∃ a, b = f a ∧ p a) → ∃ xs : List α, l = xs.map f ∧ ∀ a ∈ xs, p a
  | [], _ => ⟨[], rfl, by simp⟩
  | b :: l, h => by
    obtain ⟨a, rfl, ha⟩ := h b (by simp)
    obtain ⟨xs, rfl, hp⟩ := map_of l fun b hb => h b (by simp [hb])
    exact ⟨a :: xs, rfl, fun x hx => by rcases List.mem_cons.1 hx with rfl | hx; exact ha; exact hp x hx⟩

/-- A slice of fields that came in. -/
theorem open_RF {t e i : TypeId} {f0 f1 : Field} {a : Option Addr} {len cap : Nat} {d : DataW H} {p : List MemPlace} (ht : P.underlying t = some (.slice e)) (he : P.underlying e = some (.struct #[f0, f1])) (hc : P.cellsOf e = 2)
    (hi : P.underlying i = some (.int .i64)) (hci : P.cellsOf i = 1) (hf : (f0.type, f0.offset, f1.type, f1.offset) = (i, 0, i, 1))
    (h : DataW.Trod enc P W 0 (fun _ => true) true t (.slice a len cap) d p) :
    ∃ fs : List (Int × Int), RF W W.heap.size a len fs ∧ (∀ f ∈ fs, (-9223372036854775808 ≤ f.1 ∧ f.1 ≤ 9223372036854775807) ∧ -9223372036854775808 ≤ f.2 ∧ f.2 ≤ 9223372036854775807) ∧ len ≤ cap ∧ ((len = 0 ∧ d = .nil) ∨ ∃ el sp, d = .slice el sp ∧ el.length = len) := by
  obtain ⟨rows, hr, hl, hrow, hlc, hd⟩ := open_rows ht hc (by decide) h
  simp only [Prod.mk.injEq] at hf
  obtain ⟨e0, o0, e1, o1⟩ := hf
  obtain ⟨fs, rfl, hp⟩ := map_of (f := fun f : Int × Int => [Value.int .i64 f.1, Value.int .i64 f.2])
    (p := fun f : Int × Int => (-9223372036854775808 ≤ f.1 ∧ f.1 ≤ 9223372036854775807) ∧ -9223372036854775808 ≤ f.2 ∧ f.2 ≤ 9223372036854775807) rows (by
      intro r hr
      obtain ⟨hlr, y, n, hy⟩ := hrow r hr
      obtain ⟨y0, y1, m, _, _, h0, h1⟩ := trod_struct2 he hy
      rw [e0, o0, hci] at h0
      rw [e1, o1, hci] at h1
      obtain ⟨u, hu, _, wu⟩ := DataW.trod_int hi h0
      obtain ⟨v, hv, _, wv⟩ := DataW.trod_int hi h1
      match r, hlr with
      | [c0, c1], _ =>
        simp at hu hv
        exact ⟨(u, v), by rw [hu, hv], bounds_i64 wu, bounds_i64 wv⟩)
  refine ⟨fs, ?_, hp, hlc, hd⟩
  have : cellsF fs = (fs.map fun f : Int × Int => [Value.int .i64 f.1, Value.int .i64 f.2]).flatten := by simp [cellsF, List.flatMap]
  unfold RF
  rw [this]
  exact hr
end
end Go.Baro

set_option linter.unusedSimpArgs false
set_option linter.unusedVariables false
namespace Go.Baro
open Go.RowKit
theorem Box.below {w w' : World} {b B : Nat} {t : TypeId} {cs : List Value} (h : Box w b t cs) (hb : Below B w w') (hB : b < B) : Box w' b t cs := (hb.block b hB).trans h
theorem Box.frozen {w : World} {b : Nat} {t : TypeId} {cs : List Value} (h : Box w b t cs) (i : Nat) : w.frozen? ⟨b, i, none⟩ = false := frozen_of_row w b i _ t h
theorem Box.set {w : World} {b : Nat} {t : TypeId} {cs : List Value} (h : Box w b t cs) (i : Nat) (u : Value) : Box (w.setCell ⟨b, i, none⟩ u) b t (cs.set i u) := by
  unfold Box
  rw [heap_setCell_same w b i _ t u h]
  simp
theorem Box.three {w : World} {b : Nat} {t : TypeId} {p q r : Value} (h : Box w b t [p, q, r]) (u0 u1 u2 : Value) : Box (((w.setCell ⟨b, 0, none⟩ u0).setCell ⟨b, 1, none⟩ u1).setCell ⟨b, 2, none⟩ u2) b t [u0, u1, u2] :=
  ((h.set 0 u0).set 1 u1).set 2 u2
theorem Box.two {w : World} {b : Nat} {t : TypeId} {p q : Value} (h : Box w b t [p, q]) (u0 u1 : Value) : Box ((w.setCell ⟨b, 0, none⟩ u0).setCell ⟨b, 1, none⟩ u1) b t [u0, u1] :=
  (h.set 0 u0).set 1 u1
theorem Box.four {w : World} {b : Nat} {t : TypeId} {p q r s : Value} (h : Box w b t [p, q, r, s]) (u0 u1 u2 u3 : Value) :
    Box ((((w.setCell ⟨b, 0, none⟩ u0).setCell ⟨b, 1, none⟩ u1).setCell ⟨b, 2, none⟩ u2).setCell ⟨b, 3, none⟩ u3) b t [u0, u1, u2, u3] :=
  (((h.set 0 u0).set 1 u1).set 2 u2).set 3 u3
theorem Box.cells4 {w : World} {b : Nat} {t : TypeId} {p q r s : Value} (h : Box w b t [p, q, r, s]) :
    w.cell? ⟨b, 0, none⟩ = some p ∧ w.cell? ⟨b, 1, none⟩ = some q ∧ w.cell? ⟨b, 2, none⟩ = some r ∧ w.cell? ⟨b, 3, none⟩ = some s := ⟨h.cell 0, h.cell 1, h.cell 2, h.cell 3⟩
theorem Box.frozen4 {w : World} {b : Nat} {t : TypeId} {cs : List Value} (h : Box w b t cs) :
    w.frozen? ⟨b, 0, none⟩ = false ∧ w.frozen? ⟨b, 1, none⟩ = false ∧ w.frozen? ⟨b, 2, none⟩ = false ∧ w.frozen? ⟨b, 3, none⟩ = false := ⟨h.frozen 0, h.frozen 1, h.frozen 2, h.frozen 3⟩
theorem Box.newAt (w : World) (t : TypeId) (cs : List Value) (g : Nat) (hg : g = w.heap.size) : Box (w.alloc (.cells cs.toArray t)) g t cs := by subst hg; exact Box.new w t cs
theorem below_at {B b : Nat} {a w : World} (h : Below B a w) (hB : B ≤ b) (i : Nat) (u : Value) : Below B a (w.setCell ⟨b, i, none⟩ u) := h.setCell hB u
theorem _root_.Go.RowKit.Below.undrew {B : Nat} {a w : World} (h : Below B a.drew w) : Below B a w := ⟨h.os, h.tape, h.output, h.size, h.block⟩
theorem below_set4 {B b : Nat} {a w : World} (h : Below B a w) (hB : B ≤ b) (u0 u1 u2 u3 : Value) : Below B a ((((w.setCell ⟨b, 0, none⟩ u0).setCell ⟨b, 1, none⟩ u1).setCell ⟨b, 2, none⟩ u2).setCell ⟨b, 3, none⟩ u3) :=
  (((h.setCell hB u0).setCell hB u1).setCell hB u2).setCell hB u3
theorem Box.other {w : World} {b b' : Nat} {t : TypeId} {cs : List Value} (h : Box w b t cs) (i : Nat) (u : Value) (hne : b ≠ b') : Box (w.setCell ⟨b', i, none⟩ u) b t cs :=
  h.grown (grown_setCell w ⟨b', i, none⟩ u) (by simpa using hne)
theorem results_row_tmp {P : Program} {fn : Func} {p u : Tmp} {ty : TypeId} (h : fn.results = #[.cell p ty, .tmp u]) (tmps : Array Value) (w : World) (g : Nat) (t : TypeId) (cs : Array Value) (fr : Nat × Nat) (d : TypeDesc)
    (hp : tmps.getD p undef = .pointer (some ⟨g, 0, none⟩)) (hg : w.heap[g]? = some (.cells cs t fr))
    (hu : P.underlying ty = some d) (hd : (match d with | .struct _ | .array _ _ => true | _ => false) = true) (hi : (P.info? ty).map (·.size) = some cs.size) :
    (results fn tmps).run P w = .ok (.tuple #[.agg cs, tmps.getD u undef]) w := by
  rw [results_cell_tmp h, hp]
  simp [asAddr, run_loadVar_row w g t ty cs fr d hg hu hd hi, Result.andThen]
end Go.Baro
