/- What the table of operands holds when a call begins, as cells. No statement of the seat is proved here; no condition. -/
import Derived.Test.YtjihopbapnfppaaDoorRows
import Derived.Test.YtjihopbapnfppaaDoorCards
import Derived.Test.YtjihopbapnfppaaDoorTie
import Derived.Test.YtjihopbapnfppaaDoorLib
import Derived.ProofKit
import Derived.OpenShut
import Derived.LaidHandle
import Derived.LaidMore
import Derived.MakeChecks
import Derived.Stop.Joined
import Derived.Deep.Strs
set_option linter.unusedSimpArgs false
set_option linter.unusedVariables false
namespace Go.Proofs.YtjihopbapnfppaaDoor
open Go.ChangeShapes Go.WideShapes Go.ChangeAt Go.RowKit Go.Ord Go.Baro

def laidL : List (String × DataW Unit) := [("barograph/vm.operands", Rows.laid_barograph_vm_operands)]
theorem gTab : Tryd.prog.globalNamed "barograph/vm.operands" = some 0 := by kernel_rfl
theorem tTab : (Tryd.prog.globals[0]?).map (·.type) = some 93 := by kernel_rfl
theorem door_met (os : Os) (args : Array Value) : laidMetH Tryd.prog laidL ((World.doorLaid Tryd.prog 400 os).forCall (fun _ _ => 0) ⟨#[], args, []⟩).memory := by
  rw [MakeChecks.laidMetH_plain _ _ _ (by kernel_rfl)]
  exact laidMet_of_run' 8 (by kernel_rfl) (by kernel_rfl)

/-- The operands of each kind. -/
def tabRows : List (Int × Int × Int × Int) := [(0, 0, 0, 0), (1, 3, 0, 0), (1, 1, 0, 0), (1, 1, 1, 0), (1, 1, 1, 0), (1, 1, 1, 0), (1, 1, 1, 0), (1, 1, 1, 0), (1, 1, 1, 0), (1, 1, 1, 0), (2, 0, 0, 0), (1, 2, 0, 0), (1, 2, 0, 0), (1, 1, 3, 0), (1, 1, 3, 0), (1, 1, 3, 1), (1, 0, 0, 0), (0, 0, 0, 0)]
def rowD (H : Type) (r : Int × Int × Int × Int) : DataW H := .agg [.lit (.int .i64 r.1), .lit (.int .i64 r.2.1), .lit (.int .i64 r.2.2.1), .lit (.int .i64 r.2.2.2)]
theorem laid_rows (H : Type) : (Rows.laid_barograph_vm_operands : DataW H) = .agg (tabRows.map (rowD H)) := rfl
/-- The table of operands lies in its block. -/
def Tab (W : World) : Prop := ∀ i a b c d, tabRows[i]? = some (a, b, c, d) →
  W.cell? ⟨0, i * 4, none⟩ = some (.int .i64 a) ∧ W.cell? ⟨0, i * 4 + 1, none⟩ = some (.int .i64 b) ∧ W.cell? ⟨0, i * 4 + 2, none⟩ = some (.int .i64 c) ∧ W.cell? ⟨0, i * 4 + 3, none⟩ = some (.int .i64 d)

theorem of_laid {W : World} (h : laidMetH Tryd.prog laidL W) : Tab W := by
  rw [MakeChecks.laidMetH_plain _ _ _ (by kernel_rfl)] at h
  obtain ⟨ps, ⟨g0, t0, cs0, f0, p0, q0, hg0, ht0, hv0, hd0, _, _⟩, _, _⟩ := h
  obtain rfl := Option.some.inj (gTab.symm.trans hg0)
  obtain rfl := Option.some.inj (tTab.symm.trans ht0)
  obtain ⟨xs, m1, rfl, hx1, hlen, hn5, hel⟩ := DataW.trod_array Tryd.underlying93 hd0
  have c4 : Tryd.prog.cellsOf 92 = 4 := by kernel_rfl
  have c1 : Tryd.prog.cellsOf 91 = 1 := by kernel_rfl
  rw [c4] at hel
  have hcell := fun i => World.var?_cell hg0 hv0 i
  have hcell' : ∀ i, W.cell? ⟨0, i, none⟩ = cs0.toList[i]? := fun i => by rw [hcell i]; simp
  clear hcell
  have hx2 : xs.map (·.1) = tabRows.map (rowD Unit) := by
    have := hx1
    rw [laid_rows] at this
    simp only [Prod.mk.injEq, DataW.agg.injEq] at this
    exact this.1.symm
  clear hx1
  intro i a b c d hi
  have hi18 : i < 18 := (List.getElem?_eq_some_iff.1 hi).1
  have hixs : i < xs.length := by omega
  have h0 := (hel i hi18).trans (List.getElem?_eq_getElem hixs)
  have hrow : (xs[i]'hixs).1 = rowD Unit (a, b, c, d) := by
    have := congrArg (·[i]?) hx2
    simp only [List.getElem?_map, hi, List.getElem?_eq_getElem hixs, Option.map_some, Option.some.injEq] at this
    exact this
  obtain ⟨ys, m2, rfl, hy, hly, hn4, hey⟩ := DataW.trod_array Tryd.underlying92 h0
  rw [c4] at hly
  rw [c1] at hey
  rw [hy] at hrow
  have each : ∀ (j : Nat), j < 4 → ∃ v, (((cs0.toList.drop (i * 4)).take 4).drop j).take 1 = [Value.int .i64 v] ∧ (ys[j]?).map (·.1) = some (.lit (.int .i64 v)) := by
    intro j hj
    have h1 := hey j hj
    rw [Nat.mul_one, List.getElem?_eq_getElem (show j < ys.length by omega)] at h1
    obtain ⟨v, ev, fv, _⟩ := DataW.trod_int (k := .i64) Tryd.underlying91 h1
    exact ⟨v, ev, by rw [List.getElem?_eq_getElem (show j < ys.length by omega), Option.map_some, fv]⟩
  have key : ∀ (j : Nat) (x : Int), j < 4 → [a, b, c, d][j]? = some x → W.cell? ⟨0, i * 4 + j, none⟩ = some (.int .i64 x) := by
    intro j x hj hx
    obtain ⟨v, ev, fv⟩ := each j hj
    have hv : v = x := by
      simp only [rowD, DataW.agg.injEq] at hrow
      have := congrArg (·[j]?) hrow
      simp only [List.getElem?_map] at this
      rw [fv] at this
      match j, hj with
      | 0, _ => simp at this hx; omega
      | 1, _ => simp at this hx; omega
      | 2, _ => simp at this hx; omega
      | 3, _ => simp at this hx; omega
    subst hv
    rw [hcell']
    have := congrArg (·[0]?) ev
    simp [List.getElem?_take, hj] at this
    simpa using this
  exact ⟨key 0 a (by decide) rfl, key 1 b (by decide) rfl, key 2 c (by decide) rfl, key 3 d (by decide) rfl⟩

theorem Tab.lt {W : World} (h : Tab W) : 0 < W.heap.size := block_lt' (h 0 0 0 0 0 rfl).1
theorem Tab.below {W W' : World} {B : Nat} (h : Tab W) (hb : Below B W W') (hB : 0 < B) : Tab W' := fun i a b c d hx => by
  obtain ⟨h0, h1, h2, h3⟩ := h i a b c d hx
  exact ⟨(hb.cell hB).trans h0, (hb.cell hB).trans h1, (hb.cell hB).trans h2, (hb.cell hB).trans h3⟩
theorem Tab.heap {W W' : World} (h : Tab W) (hh : W'.heap = W.heap) : Tab W' := fun i a b c d hx => by
  have : ∀ x : Addr, W'.cell? x = W.cell? x := fun x => by simp [World.cell?, hh]
  rw [this, this, this, this]; exact h i a b c d hx
end Go.Proofs.YtjihopbapnfppaaDoor
