/- Blocks that are known whole, and results that are structs. No statement of the seat is proved here; no condition. -/
import Derived.Test.YtjihopbapnfppaaDoorLib
import Derived.Laws.ResultCell
set_option linter.unusedSimpArgs false
set_option linter.unusedVariables false
namespace Go.Baro
open Go.RowKit
theorem Box.below {w w' : World} {b B : Nat} {t : TypeId} {cs : List Value} (h : Box w b t cs) (hb : Below B w w') (hB : b < B) : Box w' b t cs := (hb.block b hB).trans h
theorem Box.frozen {w : World} {b : Nat} {t : TypeId} {cs : List Value} (h : Box w b t cs) (i : Nat) : w.frozen? ⟨b, i, none⟩ = false := frozen_of_row w b i _ t h
theorem Box.set {w : World} {b : Nat} {t : TypeId} {cs : List Value} (h : Box w b t cs) (i : Nat) (u : Value) : Box (w.setCell ⟨b, i, none⟩ u) b t (cs.set i u) := by
  unfold Box
  rw [heap_setCell_same w b i _ t u h]
  simp
theorem Box.three {w : World} {b : Nat} {t : TypeId} {p q r : Value} (h : Box w b t [p, q, r]) (u0 u1 u2 : Value) : Box (((w.setCell ⟨b, 0, none⟩ u0).setCell ⟨b, 1, none⟩ u1).setCell ⟨b, 2, none⟩ u2) b t [u0, u1, u2] :=
  ((h.set 0 u0).set 1 u1).set 2 u2
theorem Box.two {w : World} {b : Nat} {t : TypeId} {p q : Value} (h : Box w b t [p, q]) (u0 u1 : Value) : Box ((w.setCell ⟨b, 0, none⟩ u0).setCell ⟨b, 1, none⟩ u1) b t [u0, u1] :=
  (h.set 0 u0).set 1 u1
theorem Box.four {w : World} {b : Nat} {t : TypeId} {p q r s : Value} (h : Box w b t [p, q, r, s]) (u0 u1 u2 u3 : Value) :
    Box ((((w.setCell ⟨b, 0, none⟩ u0).setCell ⟨b, 1, none⟩ u1).setCell ⟨b, 2, none⟩ u2).setCell ⟨b, 3, none⟩ u3) b t [u0, u1, u2, u3] :=
  (((h.set 0 u0).set 1 u1).set 2 u2).set 3 u3
theorem Box.cells4 {w : World} {b : Nat} {t : TypeId} {p q r s : Value} (h : Box w b t [p, q, r, s]) :
    w.cell? ⟨b, 0, none⟩ = some p ∧ w.cell? ⟨b, 1, none⟩ = some q ∧ w.cell? ⟨b, 2, none⟩ = some r ∧ w.cell? ⟨b, 3, none⟩ = some s := ⟨h.cell 0, h.cell 1, h.cell 2, h.cell 3⟩
theorem Box.frozen4 {w : World} {b : Nat} {t : TypeId} {cs : List Value} (h : Box w b t cs) :
    w.frozen? ⟨b, 0, none⟩ = false ∧ w.frozen? ⟨b, 1, none⟩ = false ∧ w.frozen? ⟨b, 2, none⟩ = false ∧ w.frozen? ⟨b, 3, none⟩ = false := ⟨h.frozen 0, h.frozen 1, h.frozen 2, h.frozen 3⟩
theorem Box.newAt (w : World) (t : TypeId) (cs : List Value) (g : Nat) (hg : g = w.heap.size) : Box (w.alloc (.cells cs.toArray t)) g t cs := by subst hg; exact Box.new w t cs
theorem below_at {B b : Nat} {a w : World} (h : Below B a w) (hB : B ≤ b) (i : Nat) (u : Value) : Below B a (w.setCell ⟨b, i, none⟩ u) := h.setCell hB u
theorem _root_.Go.RowKit.Below.undrew {B : Nat} {a w : World} (h : Below B a.drew w) : Below B a w := ⟨h.os, h.tape, h.output, h.size, h.block⟩
theorem below_set4 {B b : Nat} {a w : World} (h : Below B a w) (hB : B ≤ b) (u0 u1 u2 u3 : Value) : Below B a ((((w.setCell ⟨b, 0, none⟩ u0).setCell ⟨b, 1, none⟩ u1).setCell ⟨b, 2, none⟩ u2).setCell ⟨b, 3, none⟩ u3) :=
  (((h.setCell hB u0).setCell hB u1).setCell hB u2).setCell hB u3
theorem Box.other {w : World} {b b' : Nat} {t : TypeId} {cs : List Value} (h : Box w b t cs) (i : Nat) (u : Value) (hne : b ≠ b') : Box (w.setCell ⟨b', i, none⟩ u) b t cs :=
  h.grown (grown_setCell w ⟨b', i, none⟩ u) (by simpa using hne)
theorem results_row_tmp {P : Program} {fn : Func} {p u : Tmp} {ty : TypeId} (h : fn.results = #[.cell p ty, .tmp u]) (tmps : Array Value) (w : World) (g : Nat) (t : TypeId) (cs : Array Value) (fr : Nat × Nat) (d : TypeDesc)
    (hp : tmps.getD p undef = .pointer (some ⟨g, 0, none⟩)) (hg : w.heap[g]? = some (.cells cs t fr))
    (hu : P.underlying ty = some d) (hd : (match d with | .struct _ | .array _ _ => true | _ => false) = true) (hi : (P.info? ty).map (·.size) = some cs.size) :
    (results fn tmps).run P w = .ok (.tuple #[.agg cs, tmps.getD u undef]) w := by
  rw [results_cell_tmp h, hp]
  simp [asAddr, run_loadVar_row w g t ty cs fr d hg hu hd hi, Result.andThen]
end Go.Baro
