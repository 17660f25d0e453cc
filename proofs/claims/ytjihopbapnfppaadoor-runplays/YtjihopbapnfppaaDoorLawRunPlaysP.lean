/- The walk of the law of run.Play, from what is asked of run.Play. No statement of the seat is proved here. -/
import Derived.Test.YtjihopbapnfppaaDoorRunSpec
import Derived.Test.YtjihopbapnfppaaDoorRefRun2
import Derived.Test.YtjihopbapnfppaaDoorSameInts
set_option linter.unusedSimpArgs false
set_option linter.unusedVariables false
namespace Go.Proofs.YtjihopbapnfppaaDoor
open Go.RowKit Go.Ord Go.Baro

set_option maxHeartbeats 2000000 in
theorem law_RunPlaysP (hP : PlaySpec) (w : World) (hT : Tab w) (Aw : Option Addr) (nw cw : Nat) (Ac : Option Addr) (nc cc : Nat) (At : Option Addr) (nt ct : Nat) (x0 : Mc) (h0 : InM w Aw nw cw Ac nc cc At nt ct x0)
    (A1 : Option Addr) (n1 c1 : Nat) (x1 : List Int) (h1 : RI w w.heap.size .i64 A1 n1 x1) (b1 : n1 ≤ 17592186044416) (r1 : ∀ x ∈ x1, -9223372036854775808 ≤ x ∧ x ≤ 9223372036854775807) (_ : n1 ≤ c1) :
    Calls Tryd.prog 10 #[.agg #[.slice Aw nw cw, .slice Ac nc cc, .slice At nt ct], .slice A1 n1 c1] w fun e w' => e = .returned (.bool true) ∧ Below w.heap.size w w' := by
  have HP := Lib.hid hP
  have HT := Lib.hid hT
  have HM := Lib.hid h0
  have H1 := Lib.hid h1
  obtain ⟨T, W, E, hR⟩ := plR_some x0 x1
  have HR := Lib.hid hR
  clear hR h0 hP hT h1 r1
  have hb0 := (Below.refl w.heap.size w).alloc (Nat.le_refl _) (Obj.cells #[.slice Aw nw cw, .slice Ac nc cc, .slice At nt ct] 45)
  have bX := Box.newAt w 45 [.slice Aw nw cw, .slice Ac nc cc, .slice At nt ct] w.heap.size rfl
  go_enter Tryd.func10, Tryd.ntmps10
  go_wp2_with fail
  refine (HP.out _ (HT.out.below hb0 HT.out.lt) Aw nw cw Ac nc cc At nt ct x0 A1 n1 c1 x1 T W E (HM.out.below hb0) ((H1.out.below hb0).more hb0.size) (by omega) HR.out).mono ?_
  rintro e w1 ⟨B1, m1, d1, B2, m2, d2, rfl, hr1, hr2, hl1, hl2, hm1, hm2, hb1⟩
  have hb2 := hb0.trans (hb1.mono (by simp))
  have bX1 := bX.below hb1 (by simp)
  have lX1 := bX1.lt
  have x0' : w1.cell? ⟨w.heap.size, 0, none⟩ = _ := bX1.cell 0
  have x1' : w1.cell? ⟨w.heap.size, 1, none⟩ = _ := bX1.cell 1
  have x2' : w1.cell? ⟨w.heap.size, 2, none⟩ = _ := bX1.cell 2
  simp only [List.getElem?_cons_zero, List.getElem?_cons_succ] at x0' x1' x2'
  have hs1 := hb2.size
  go_wp2_with fail
  refine (ref_RunPlayed w1 Aw nw cw Ac nc cc At nt ct x0 A1 n1 c1 x1 T W E (HM.out.below hb2) ((H1.out.below hb2).more hs1) (by omega) HR.out).mono ?_
  rintro e w2 ⟨B3, m3, d3, B4, m4, d4, rfl, hr3, hr4, hl3, hl4, hm3, hm4, hb3⟩
  have hb4 := hb2.trans (hb3.mono hs1)
  have hs2 := hb3.size
  have e13 : m1 = m3 := by rw [← hr1.len, ← hr3.len]
  obtain rfl := e13
  have hr1' := hr1.below hb3
  have hr2' := hr2.below hb3
  clear x0' x1' x2' bX1 bX lX1 hr1 hr2 hb0 hb1 hb3
  go_wp2_with fail
  refine (law_sameInts W W B2 B4 m2 d2 m4 d4 w2 w1.heap.size w2.heap.size true hr2' hr4 (by simp) (by omega) (by omega)).mono ?_
  rintro e w3 ⟨rfl, k3, rfl⟩
  go_wp2
  go_loopw [11] (fun i wr => ∃ j : Nat, j ≤ m1 ∧ i = .int .i64 j ∧ Below w2.heap.size w2 wr) (fun i _ => m1 - (intOf i).toNat)
  case atStart => exact ⟨0, Nat.zero_le _, rfl, (Below.refl _ _).drewN _⟩
  case round =>
    obtain ⟨j, hj, rfl, hbel⟩ := hrel
    have hszr := hbel.size
    by_cases hjm : j < m1
    · obtain ⟨b, o, A5, n5, k5, x, rfl, hbB, q0, q1, q2, q3, q4, q5, hlk, hn5, hri, HX, hmem⟩ := ((hr1'.below (hbel.mono hs2))).val hjm
      obtain ⟨b', o', A6, n6, k6, y, rfl, hbB', p0, p1, p2, p3, p4, p5, hlk', hn6, hri', HY, hmem'⟩ := (hr3.below hbel).val hjm
      have hxy : x = y := by have h1 := HX.out; rw [HY.out] at h1; exact (Option.some.inj h1).symm
      subst hxy
      obtain ⟨st, th, cl, en, er, to⟩ := x
      dsimp only at q0 q1 q2 q3 q4 p0 p1 p2 p3 p4 hri hri'
      have hlb : b < wr.heap.size := by omega
      have hlb' : b' < wr.heap.size := by omega
      clear hmem hmem' HX HY
      have hA := (hbel.alloc hszr (Obj.cells #[.int .i64 st, .int .i64 th, .int .i64 cl, .bool en, .int .i64 er, .slice A5 n5 k5] 51)).alloc (by simp; omega) (Obj.cells #[.int .i64 st, .int .i64 th, .int .i64 cl, .bool en, .int .i64 er, .slice A6 n6 k6] 51)
      have hB2 := ((Below.refl wr.heap.size wr).alloc (Nat.le_refl _) (Obj.cells #[.int .i64 st, .int .i64 th, .int .i64 cl, .bool en, .int .i64 er, .slice A5 n5 k5] 51)).alloc (by simp) (Obj.cells #[.int .i64 st, .int .i64 th, .int .i64 cl, .bool en, .int .i64 er, .slice A6 n6 k6] 51)
      have hr5 := hri.below (hB2.mono (by omega))
      have hr6 := hri'.below (hB2.mono (by omega))
      clear hri hri' hB2
      go_wp2_with fail
      refine (law_sameInts to to A5 A6 n5 k5 n6 k6 _ w1.heap.size w2.heap.size true (by exact hr5.heap rfl) (by exact hr6.heap rfl) (by simp) (by omega) (by omega)).mono ?_
      rintro e w5 ⟨rfl, k5', rfl⟩
      go_wp2
      go_roundw
      case rel => exact ⟨j + 1, by omega, by go_num, hA.drewN _⟩
      case measure => simp [intOf]; omega
    · go_wp2
      go_ret
      exact ⟨rfl, hb4.trans (hbel.mono (by omega))⟩
end Go.Proofs.YtjihopbapnfppaaDoor
