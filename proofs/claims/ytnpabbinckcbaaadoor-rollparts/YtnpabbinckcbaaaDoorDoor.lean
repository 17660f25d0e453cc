/- What the listed table holds when a call begins, as cells. No statement of the seat is proved here; no condition. -/
import Derived.Test.YtnpabbinckcbaaaDoorRows
import Derived.Test.YtnpabbinckcbaaaDoorCards
import Derived.Test.YtnpabbinckcbaaaDoorTie
import Derived.Test.YtnpabbinckcbaaaDoorLib
import Derived.ProofKit
import Derived.OpenShut
import Derived.LaidHandle
import Derived.LaidMore
import Derived.MakeChecks
import Derived.Stop.Joined
import Derived.Deep.Strs
set_option linter.unusedSimpArgs false
set_option linter.unusedVariables false
namespace Go.Proofs.YtnpabbinckcbaaaDoor
open Go.ChangeShapes Go.WideShapes Go.ChangeAt Go.RowKit Go.Ord Go.Baro

def laidL : List (String × DataW Unit) := [("barograph/zig.prefixes", Rows.laid_barograph_zig_prefixes)]
theorem gTab : Tryd.prog.globalNamed "barograph/zig.prefixes" = some 0 := by kernel_rfl
theorem tTab : (Tryd.prog.globals[0]?).map (·.type) = some 76 := by kernel_rfl
theorem door_met (os : Os) (args : Array Value) : laidMetH Tryd.prog laidL ((World.doorLaid Tryd.prog 400 os).forCall (fun _ _ => 0) ⟨#[], args, []⟩).memory := by
  rw [MakeChecks.laidMetH_plain _ _ _ (by kernel_rfl)]
  exact laidMet_of_run' 8 (by kernel_rfl) (by kernel_rfl)

def tabInts : List Int := [1, 0, 0, 2, 2, 6, 3, 6, 12, 4, 14, 24, 4, 15, 59]
/-- The table of prefixes lies in its block. -/
def Tab (W : World) : Prop := ∀ i x, tabInts[i]? = some x → W.cell? ⟨0, i, none⟩ = some (.int .i64 x)

theorem of_laid {W : World} (h : laidMetH Tryd.prog laidL W) : Tab W := by
  rw [MakeChecks.laidMetH_plain _ _ _ (by kernel_rfl)] at h
  obtain ⟨ps, ⟨g0, t0, cs0, f0, p0, q0, hg0, ht0, hv0, hd0, _, _⟩, _, _⟩ := h
  obtain rfl := Option.some.inj (gTab.symm.trans hg0)
  obtain rfl := Option.some.inj (tTab.symm.trans ht0)
  obtain ⟨xs, m1, rfl, hx1, hlen, hn5, hel⟩ := DataW.trod_array Tryd.underlying76 hd0
  have c3 : Tryd.prog.cellsOf 70 = 3 := by kernel_rfl
  have c1 : Tryd.prog.cellsOf 3 = 1 := by kernel_rfl
  have c15 : Tryd.prog.cellsOf 76 = 15 := by kernel_rfl
  rw [c3] at hel
  rw [c15] at hlen
  have row : ∀ i, i < 5 → ∀ y, xs[i]? = some y → ∃ a b c, (cs0.toList.drop (i * 3)).take 3 = [.int .i64 a, .int .i64 b, .int .i64 c] ∧ y.1 = .agg [.lit (.int .i64 a), .lit (.int .i64 b), .lit (.int .i64 c)] := by
    intro i hi y hy
    have h0 := (hel i hi).trans hy
    obtain ⟨y0, y1, y2, n, hy', hl, h0, h1, h2⟩ := Go.Deep.trod_struct3 Tryd.underlying70 h0
    obtain ⟨a, ea, fa, _⟩ := DataW.trod_int (k := .i64) Tryd.underlying3 h0
    obtain ⟨b, eb, fb, _⟩ := DataW.trod_int (k := .i64) Tryd.underlying3 h1
    obtain ⟨c, ec, fc, _⟩ := DataW.trod_int (k := .i64) Tryd.underlying3 h2
    refine ⟨a, b, c, ?_, by rw [hy', fa, fb, fc]⟩
    rw [c3] at hl
    generalize (cs0.toList.drop (i * 3)).take 3 = q at hl ea eb ec
    match q, hl with
    | [u0, u1, u2], _ =>
      simp [c1] at ea eb ec
      rw [ea, eb, ec]
  have hcell := fun i => World.var?_cell hg0 hv0 i
  have hcell' : ∀ i, W.cell? ⟨0, i, none⟩ = cs0.toList[i]? := fun i => by rw [hcell i]; simp
  clear hcell
  generalize cs0.toList = L at hlen row hcell'
  match xs, hn5 with
  | [x0, x1, x2, x3, x4], _ =>
    obtain ⟨a0, b0, c0, e0, d0⟩ := row 0 (by decide) x0 rfl
    obtain ⟨a1, b1, c1, e1, d1⟩ := row 1 (by decide) x1 rfl
    obtain ⟨a2, b2, c2, e2, d2⟩ := row 2 (by decide) x2 rfl
    obtain ⟨a3, b3, c3, e3, d3⟩ := row 3 (by decide) x3 rfl
    obtain ⟨a4, b4, c4, e4, d4⟩ := row 4 (by decide) x4 rfl
    simp only [Prod.mk.injEq, DataW.agg.injEq, List.map_cons, List.map_nil, d0, d1, d2, d3, d4, Rows.laid_barograph_zig_prefixes, List.cons.injEq, DataW.lit.injEq, Lit.int.injEq, true_and, and_true] at hx1
    match L, hlen with
    | [u0, u1, u2, u3, u4, u5, u6, u7, u8, u9, u10, u11, u12, u13, u14], _ =>
      simp at e0 e1 e2 e3 e4
      obtain ⟨⟨⟨z0, z1, z2⟩, ⟨z3, z4, z5⟩, ⟨z6, z7, z8⟩, ⟨z9, z10, z11⟩, z12, z13, z14⟩, _⟩ := hx1
      obtain ⟨rfl, rfl, rfl⟩ := e0
      obtain ⟨rfl, rfl, rfl⟩ := e1
      obtain ⟨rfl, rfl, rfl⟩ := e2
      obtain ⟨rfl, rfl, rfl⟩ := e3
      obtain ⟨rfl, rfl, rfl⟩ := e4
      subst z0 z1 z2 z3 z4 z5 z6 z7 z8 z9 z10 z11 z12 z13 z14
      intro i x hx
      rw [hcell' i]
      have : ([.int .i64 1, .int .i64 0, .int .i64 0, .int .i64 2, .int .i64 2, .int .i64 6, .int .i64 3, .int .i64 6, .int .i64 12, .int .i64 4, .int .i64 14, .int .i64 24, .int .i64 4, .int .i64 15, .int .i64 59] : List Value) = tabInts.map (Value.int .i64) := rfl
      rw [this, List.getElem?_map, hx]
      rfl

theorem Tab.lt {W : World} (h : Tab W) : 0 < W.heap.size := block_lt' (h 0 1 rfl)
theorem Tab.below {W W' : World} {B : Nat} (h : Tab W) (hb : Below B W W') (hB : 0 < B) : Tab W' := fun i x hx => (hb.cell hB).trans (h i x hx)
theorem Tab.grown {W W' : World} {g : Nat} (h : Tab W) (hb : W.grownBy W' (some g)) (hg : 0 ≠ g) : Tab W' := fun i x hx => (grown_cell hb h.lt hg).trans (h i x hx)
theorem Tab.heap {W W' : World} (h : Tab W) (hh : W'.heap = W.heap) : Tab W' := fun i x hx => by rw [← h i x hx]; simp [World.cell?, hh]
end Go.Proofs.YtnpabbinckcbaaaDoor
