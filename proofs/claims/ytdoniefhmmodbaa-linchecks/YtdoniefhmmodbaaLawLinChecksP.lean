/- The walk of the law of lin.Check, from what is asked of lin.Check. No statement of the seat is proved here. -/
import Derived.Test.YtdoniefhmmodbaaRefLin4
set_option linter.unusedSimpArgs false
set_option linter.unusedVariables false
namespace Go.Proofs.Ytdoniefhmmodbaa
open Go.RowKit Go.Ord Go.Baro

set_option maxHeartbeats 1000000 in
theorem law_LinChecksP (hP : LinCheckSpec) (w : World) (x0 : Int) (r0 : inW x0) (x1 : Int) (r1 : inW x1) (A2 : Option Addr) (n2 c2 : Nat) (x2 : List Ac) (h2 : RA w w.heap.size A2 n2 x2) (b2 : n2 ≤ 3518437208883) (r2 : ∀ f ∈ x2, inA f) (k2 : n2 ≤ c2) :
    Calls Try.prog 4 #[.int .i64 x0, .int .i64 x1, .slice A2 n2 c2] w fun e w' => e = .returned (.bool true) ∧ Below w.heap.size w w' := by
  obtain ⟨r, E, hr⟩ := lcR_some x0 x1 x2
  have HR := Lib.hid hr
  have HP := Lib.hid hP
  have HI := Lib.hid r2
  have HF := Lib.hid r1
  clear hr hP r2
  go_enter Try.func4, Try.ntmps4
  go_wp2_with fail
  refine (HP.out w A2 n2 c2 x2 x0 x1 r E h2 (by omega) k2 HI.out HF.out HR.out).mono ?_
  rintro e w1 ⟨rfl, hb1⟩
  have hs1 := hb1.size
  go_wp2_with fail
  refine (ref_LinCheck w1 A2 n2 c2 x2 x0 x1 r E ((h2.below hb1).more hs1) (by omega) k2 HR.out).mono ?_
  rintro e w2 ⟨rfl, hb2⟩
  have hb3 := hb1.trans (hb2.mono hs1)
  cases r with
  | true => go_wp2; go_ret; exact ⟨rfl, hb3⟩
  | false => go_wp2; go_ret; exact ⟨rfl, hb3⟩
end Go.Proofs.Ytdoniefhmmodbaa
