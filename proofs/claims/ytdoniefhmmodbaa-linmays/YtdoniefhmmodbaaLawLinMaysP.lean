/- The walk of the law of lin.May, from what is asked of lin.May. No statement of the seat is proved here. -/
import Derived.Test.YtdoniefhmmodbaaRefLin1
set_option linter.unusedSimpArgs false
set_option linter.unusedVariables false
namespace Go.Proofs.Ytdoniefhmmodbaa
open Go.RowKit Go.Ord Go.Baro

set_option maxHeartbeats 1000000 in
theorem law_LinMaysP (hP : LinMaySpec) (w : World) (x0 : Int) (r0 : inW x0) (A1 : Option Addr) (n1 c1 : Nat) (x1 : List Ac) (h1 : RA w w.heap.size A1 n1 x1) (b1 : n1 ≤ 3518437208883) (r1 : ∀ f ∈ x1, inA f) (k1 : n1 ≤ c1) :
    Calls Try.prog 3 #[.int .i64 x0, .slice A1 n1 c1] w fun e w' => e = .returned (.bool true) ∧ Below w.heap.size w w' := by
  obtain ⟨r, hr⟩ : ∃ r : Bool, r = true ↔ okL x0 x1 := ⟨@decide (okL x0 x1) (Classical.propDecidable _), by simp⟩
  have HR := Lib.hid hr
  have HP := Lib.hid hP
  have HI := Lib.hid r1
  clear hr hP r1
  go_enter Try.func3, Try.ntmps3
  go_wp2_with fail
  refine (HP.out w A1 n1 c1 x1 x0 r h1 (by omega) k1 HI.out HR.out).mono ?_
  rintro e w1 ⟨rfl, hb1⟩
  have hs1 := hb1.size
  go_wp2_with fail
  refine (ref_HistoryMay w1 A1 n1 c1 w.heap.size x1 x0 r (h1.below hb1) hs1 (by omega) HR.out).mono ?_
  rintro e w2 ⟨rfl, hb2⟩
  have hb3 := hb1.trans (hb2.mono hs1)
  cases r with
  | true => go_wp2; go_ret; exact ⟨rfl, hb3⟩
  | false => go_wp2; go_ret; exact ⟨rfl, hb3⟩
end Go.Proofs.Ytdoniefhmmodbaa
