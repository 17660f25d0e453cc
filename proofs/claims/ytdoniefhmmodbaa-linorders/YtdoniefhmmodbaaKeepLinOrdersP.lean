/- The walk of the law that what went one behind the other is right, from what is asked of lin.Check. No statement of the seat is proved here. -/
import Derived.Test.YtdoniefhmmodbaaKeepLin3
set_option linter.unusedSimpArgs false
set_option linter.unusedVariables false
namespace Go.Proofs.Ytdoniefhmmodbaa
open Go.RowKit Go.Ord Go.Baro

set_option maxRecDepth 100000 in
set_option maxHeartbeats 1000000 in
theorem keep_LinOrdersP (hP : LinCheckSpec) (w : World) (x0 : Int) (r0 : -9223372036854775808 ≤ x0 ∧ x0 ≤ 9223372036854775807) (x1 : Int) (r1 : -9223372036854775808 ≤ x1 ∧ x1 ≤ 9223372036854775807) (A2 : Option Addr) (n2 c2 : Nat) (x2 : List Dl) (h2 : RD w w.heap.size A2 n2 x2) (b2 : n2 ≤ 3518437208883) (r2 : ∀ f ∈ x2, inD f) (k2 : n2 ≤ c2) :
    Calls Try.prog 5 #[.int .i64 x0, .int .i64 x1, .slice A2 n2 c2] w fun e w' => e = .returned (.bool true) ∧ Below w.heap.size w w' := by
  have HP := Lib.hid hP
  have HI := Lib.hid r2
  obtain ⟨k, hk⟩ : ∃ k, k = 1 + x0 % 4 := ⟨_, rfl⟩
  obtain ⟨f, hf⟩ : ∃ f, f = x1 % 5 := ⟨_, rfl⟩
  have hk1 : 1 ≤ k ∧ k ≤ 4 := by omega
  have hf1 : 0 ≤ f ∧ f ≤ 4 := by omega
  have hx4 : 0 ≤ x0 % 4 ∧ x0 % 4 < 4 := by omega
  have HK := Lib.hid hk
  have HF := Lib.hid hf
  have h0 := Below.refl w.heap.size w
  clear hP r2 hk hf
  go_enter Try.func5, Try.ntmps5
  go_wp2_with fail
  refine (keep_Picked x0 4 _ (by omega) (by omega)).mono ?_
  rintro e w' ⟨rfl, rfl⟩
  go_wp2_with fail
  refine (keep_Picked x1 5 _ (by omega) (by omega)).mono ?_
  rintro e w' ⟨rfl, rfl⟩
  rw [← HK.out, ← HF.out]
  go_wp2_with fail
  refine (keep_Sequence w k f A2 n2 c2 x2 false hk1 hf1 h2 b2 HI.out).mono ?_
  rintro e w1 ⟨A3, n3, c3, rfl, ho3, hn3, hlc3, hb1⟩
  have hs1 := hb1.size
  go_wp2_with fail
  refine (check_own HP.out w1 _ A3 n3 c3 _ k f true 0 ho3 (by omega) hlc3 (fun a ha => ((sq_okL hk1 hf1).2 a ha).2.1) hf1 (sq_right hk1 hf1)).mono ?_
  rintro e w2 ⟨rfl, hb2⟩
  have hb3 := hb1.trans (hb2.mono hs1)
  have hs3 := hb3.size
  go_wp2_with fail
  refine (keep_Sequence w2 k f A2 n2 c2 x2 true hk1 hf1 ((h2.below hb3).more hs3) b2 HI.out).mono ?_
  rintro e w4 ⟨A4, n4, c4, rfl, ho4, hn4, hlc4, hb4⟩
  have hb5 := hb3.trans (hb4.mono hs3)
  go_wp2_with fail
  refine (check_own HP.out w4 _ A4 n4 c4 _ k f true 0 ho4 (by omega) hlc4 (fun a ha => ((sq_okL hk1 hf1).2 a ha).2.1) hf1 (sq_right hk1 hf1)).mono ?_
  rintro e w6 ⟨rfl, hb6⟩
  have hb7 := hb5.trans (hb6.mono hb5.size)
  go_wp2_with fail
  refine (keep_linSure HP.out w6).mono ?_
  rintro e w8 ⟨rfl, hb8⟩
  have hb9 := hb7.trans (hb8.mono hb7.size)
  go_wp2
  go_ret
  exact ⟨rfl, hb9⟩
end Go.Proofs.Ytdoniefhmmodbaa
