/- A roll, as it comes in. No statement of the seat is proved here; no condition. -/
import Derived.Test.YtnpabbinckcbaaaOpen
import Derived.Test.YtnpabbinckcbaaaRollPure
import Derived.Lib.SmallJoins
set_option linter.unusedSimpArgs false
set_option linter.unusedVariables false
namespace Go.Baro
open Go.ChangeShapes Go.WideShapes Go.ChangeAt Go.RowKit
section
variable {H : Type} {enc : TypeId × Value → H} {P : Program} {W : World}
theorem open_Rl {r : Reach} {b0 : Nat} {t i : TypeId} {f0 f1 f2 f3 : Field} {v : Value} {d : DataW H} {p : List MemPlace} (hs : P.underlying t = some (.struct #[f0, f1, f2, f3])) (hone : Go.Deep.oneCellFields P #[f0, f1, f2, f3] = true) (hC : P.cellsOf t = 4)
    (hi : P.underlying i = some (.int .i64)) (hf : (f0.type, f1.type, f2.type, f3.type) = (i, i, i, i)) (hv : Value.okWide P W r b0 t v) (h : DataW.Trod enc P W 0 (fun _ => true) true t v d p) :
    ∃ q : Rl, v = rlV q ∧ rlR q := by
  obtain ⟨v0, v1, v2, v3, y0, y1, y2, y3, n, rfl, _, _, h0, h1, h2, h3⟩ := Go.Joins.open_agg4 hs hone hC hv h
  simp only [Prod.mk.injEq] at hf
  obtain ⟨e0, e1, e2, e3⟩ := hf
  rw [e0] at h0
  rw [e1] at h1
  rw [e2] at h2
  rw [e3] at h3
  obtain ⟨a, ha, _, wa⟩ := DataW.trod_int hi h0
  obtain ⟨b, hb, _, wb⟩ := DataW.trod_int hi h1
  obtain ⟨c, hc, _, wc⟩ := DataW.trod_int hi h2
  obtain ⟨e, he, _, we⟩ := DataW.trod_int hi h3
  simp at ha hb hc he
  subst ha hb hc he
  exact ⟨⟨a, b, c, e⟩, rfl, bounds_i64 wa, bounds_i64 wb, bounds_i64 wc, bounds_i64 we⟩
end
end Go.Baro
