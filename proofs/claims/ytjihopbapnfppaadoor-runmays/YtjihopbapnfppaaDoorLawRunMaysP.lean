/- The walk of the law of run.May, from what is asked of run.May. No statement of the seat is proved here. -/
import Derived.Test.YtjihopbapnfppaaDoorRunSpec
import Derived.Test.YtjihopbapnfppaaDoorRefRun1
set_option linter.unusedSimpArgs false
set_option linter.unusedVariables false
namespace Go.Proofs.YtjihopbapnfppaaDoor
open Go.RowKit Go.Ord Go.Baro

set_option maxHeartbeats 1000000 in
theorem law_RunMaysP (hP : MaySpec) (w : World) (hT : Tab w) (Aw : Option Addr) (nw cw : Nat) (Ac : Option Addr) (nc cc : Nat) (At : Option Addr) (nt ct : Nat) (x0 : Mc) (h0 : InM w Aw nw cw Ac nc cc At nt ct x0) :
    Calls Tryd.prog 9 #[.agg #[.slice Aw nw cw, .slice Ac nc cc, .slice At nt ct]] w fun e w' => e = .returned (.bool true) ∧ Below w.heap.size w w' := by
  have HP := Lib.hid hP
  have HT := Lib.hid hT
  have HM := Lib.hid h0
  obtain ⟨r, hr⟩ : ∃ r : Bool, r = true ↔ okMc x0 := ⟨@decide (okMc x0) (Classical.propDecidable _), by simp⟩
  have HR := Lib.hid hr
  clear hr h0 hP hT
  have hb0 := (Below.refl w.heap.size w).alloc (Nat.le_refl _) (Obj.cells #[.slice Aw nw cw, .slice Ac nc cc, .slice At nt ct] 45)
  have bX := Box.newAt w 45 [.slice Aw nw cw, .slice Ac nc cc, .slice At nt ct] w.heap.size rfl
  go_enter Tryd.func9, Tryd.ntmps9
  go_wp2
  refine region_first [0, 2] (.cons 1 (.cons 3 (seq [4, 5] .nil))) (by kernel_rfl) (by kernel_rfl) ?_
  simp only [pick, List.map_cons, List.map_nil, List.getD_cons_zero, List.getD_cons_succ]
  go_wp2
  refine ord_call (by kernel_rfl) ?_
  simp only [pick, List.map_cons, List.map_nil, List.getD_cons_zero, List.getD_cons_succ]
  go_wp2_with fail
  refine (HP.out _ (HT.out.below hb0.drew HT.out.lt) Aw nw cw Ac nc cc At nt ct x0 r (HM.out.below hb0.drew) HR.out).mono ?_
  rintro e w1 ⟨rfl, hb1⟩
  have hb2 := hb0.drew.trans (hb1.mono (by simp))
  have hE := Lib.hid hb1.block
  clear hb1
  go_wp2
  refine ⟨hE.out, ?_⟩
  refine ord_call (by kernel_rfl) ?_
  simp only [pick, List.map_cons, List.map_nil, List.getD_cons_zero, List.getD_cons_succ]
  go_wp2_with fail
  refine (ref_MachineMay _ Aw nw cw Ac nc cc At nt ct x0 r (HM.out.below hb2) HR.out).mono ?_
  rintro e w2 ⟨rfl, hb3⟩
  have hb4 := hb2.trans (hb3.mono hb2.size)
  have hE2 := Lib.hid hb3.block
  clear hb3
  go_wp2
  refine ⟨hE2.out, ?_⟩
  refine ord_more [4, 5] .nil (by kernel_rfl) ?_
  simp only [pick, List.map_cons, List.map_nil, List.getD_cons_zero, List.getD_cons_succ]
  go_wp2
  refine ord_done ?_
  go_wp2
  go_ret
  exact ⟨by simp, hb4⟩
end Go.Proofs.YtjihopbapnfppaaDoor
