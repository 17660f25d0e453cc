/- A code without any Cas. No statement of the seat is proved here; no condition. -/
import Derived.Test.YtfpokjhalbbeeaaDoorRows
import Derived.Test.YtfpokjhalbbeeaaDoorLibO
import Derived.Test.YtfpokjhalbbeeaaDoorRefVm1
set_option linter.unusedSimpArgs false
set_option linter.unusedVariables false
namespace Go.Proofs.YtfpokjhalbbeeaaDoor
open Go.RowKit Go.Ord Go.Baro

set_option maxRecDepth 100000 in
set_option maxHeartbeats 2000000 in
theorem law_plain (l : List Ins) (A : Option Addr) (n c : Nat) (w : World) (B : Nat) (hb : RO w B A n l) (hB : B ≤ w.heap.size) (hn : n ≤ 9223372036854775807) (h0 : 0 < n) (hok : okC l) (hk : ∀ o ∈ l, o.k ≠ 15) :
    Calls Tryd.prog 11 #[.slice A n c] w fun e w' => e = .returned (.bool true) ∧ Below w.heap.size w w' := by
  have HOK := Lib.hid hok
  have HK := Lib.hid hk
  have HR := Lib.hid hb
  clear hok hk hb
  go_enter Tryd.func11, Tryd.ntmps11
  go_wp2
  go_loopw [3] (fun i wr => ∃ j : Nat, j ≤ n ∧ i = .int .i64 j ∧ wr = w) (fun i _ => n - (intOf i).toNat)
  case atStart => exact ⟨0, Nat.zero_le _, rfl, rfl⟩
  case round =>
    obtain ⟨j, hj, rfl, rfl⟩ := hrel
    by_cases hjn : j < n
    · obtain ⟨b, o, k, x, y, z, u, rfl, hbB, c0, c1, c2, c3, c4, HX, hmem⟩ := HR.out.val hjn
      have hk15 : k ≠ 15 := HK.out _ hmem
      clear hmem
      have hbs : b < wr.heap.size := by omega
      have e15 : (k == 15) = false := by simp; exact hk15
      go_wp2
      go_roundw
      case rel => exact ⟨j + 1, by omega, by go_num, by first | rfl | trivial⟩
      case measure => simp [intOf]; omega
    · have hj2 : j = n := by omega
      subst hj2
      go_wp2_with fail
      refine (ref_CodeMay l A j c true _ B HR.out hB hn (by simp; exact HOK.out)).mono ?_
      rintro e w4 ⟨rfl, hb4⟩
      go_wp2
      go_ret
      exact ⟨by first | rfl | simp, hb4⟩
end Go.Proofs.YtfpokjhalbbeeaaDoor
