/- The walk of the law of lock's codes, from what is asked of lock. No statement of the seat is proved here. -/
import Derived.Test.YtfpokjhalbbeeaaDoorAlgSpec
import Derived.Test.YtfpokjhalbbeeaaDoorLawPlain
set_option linter.unusedSimpArgs false
set_option linter.unusedVariables false
namespace Go.Proofs.YtfpokjhalbbeeaaDoor
open Go.RowKit Go.Ord Go.Baro

set_option maxRecDepth 100000 in
set_option maxHeartbeats 2000000 in
theorem law_LockCodesP (ws : Nat → List Int) (ce cl : Nat → List Ins) (hws : WordsOk 4 ws) (hce : CodesOk 4 ce) (hcl : CodesOk 4 cl) (hke : ∀ d, ∀ o ∈ ce d, o.k ≠ 15) (hkl : ∀ d, ∀ o ∈ cl d, o.k ≠ 15)
    (hW : WSpec 8 4 ws) (hE : CSpec 9 4 ce) (hL : CSpec 10 4 cl) (w : World) (hT : Tab w) (x0 : Int) (r0 : inW x0) :
    Calls Tryd.prog 3 #[.int .i64 x0] w fun e w' => e = .returned (.bool true) ∧ Below w.heap.size w w' := by
  have HW := Lib.hid (fun w hT => hW w hT x0 r0)
  have HP := Lib.hid (fun w hT => hE w hT x0 r0)
  have HG := Lib.hid (fun w hT => hL w hT x0 r0)
  have HC := Lib.hid (And.intro hws (And.intro hce (And.intro hcl (And.intro hke hkl))))
  unfold inW at r0
  have HT := Lib.hid hT
  clear hW hE hL hws hce hcl hke hkl hT
  go_enter Tryd.func3, Tryd.ntmps3
  go_wp2_with fail
  refine (HW.out _ HT.out).mono ?_
  rintro e w1 ⟨he1, hn1, hb1⟩
  by_cases hx : 1 ≤ x0 ∧ x0 ≤ 4
  · obtain ⟨Aw, nw, cw, rfl, hlw, hcw, hq1⟩ := he1 (by omega)
    have HQ1 := Lib.hid hq1
    clear he1 hn1 hq1
    go_wp2_with fail
    refine (HP.out w1 (HT.out.below hb1 HT.out.lt)).mono ?_
    rintro e w2 ⟨he2, _, hb2⟩
    obtain ⟨Ap, np, cp, rfl, hlp, hcp, hq2⟩ := he2 (by omega)
    have HQ2 := Lib.hid hq2
    have hb12 := hb1.trans (hb2.mono hb1.size)
    clear he2 hq2
    go_wp2_with fail
    refine (HG.out w2 (HT.out.below hb12 HT.out.lt)).mono ?_
    rintro e w3 ⟨he3, _, hb3⟩
    obtain ⟨Ag, ng, cg, rfl, hlg, hcg, hq3⟩ := he3 (by omega)
    have hb13 := hb12.trans (hb3.mono hb12.size)
    have HQ3 := Lib.hid hq3
    clear he3 hq3
    obtain ⟨d, rfl⟩ : ∃ d : Nat, x0 = d := ⟨x0.toNat, by omega⟩
    have hd1 : 1 ≤ d := by omega
    have hd6 : d ≤ 4 := by omega
    have hws := HC.out.1 d hd1 hd6
    have hps := HC.out.2.1 d hd1 hd6
    have hgs := HC.out.2.2.1 d hd1 hd6
    have hnw : (ws d).length = nw := by have := HQ1.out.1; rw [List.length_map, Nat.mul_one, Int.toNat_natCast] at this; exact this
    have hnp : (ce d).length = np := by have := HQ2.out.1; rw [cellsO_length, Int.toNat_natCast] at this; omega
    have hng : (cl d).length = ng := by have := HQ3.out.1; rw [cellsO_length, Int.toNat_natCast] at this; omega
    have hw0 : 0 < nw ∧ nw ≤ 64 := by omega
    have hp0 : 0 < np := by omega
    have hg0 : 0 < ng := by omega
    have hop : RO w3 w3.heap.size Ap np (ce d) := by
      have := (HQ2.out.kc (Kc.below (T := fun _ => False) hb3) id).rd
      rwa [Int.toNat_natCast] at this
    have hog : RO w3 w3.heap.size Ag ng (cl d) := by
      have := HQ3.out.rd
      rwa [Int.toNat_natCast] at this
    have HP1 := Lib.hid hps.2.1
    have HG1 := Lib.hid hgs.2.1
    clear hws hps hgs hnw hnp hng
    go_wp2_with fail
    refine (law_plain (ce d) Ap np cp w3 w3.heap.size hop (Nat.le_refl _) (by omega) hp0 HP1.out (HC.out.2.2.2.1 d)).mono ?_
    rintro e w4 ⟨rfl, hb4⟩
    have hb14 := hb13.trans (hb4.mono hb13.size)
    have hog4 := (hog.below hb4).more hb4.size
    go_wp2_with fail
    refine (law_plain (cl d) Ag ng cg w4 w4.heap.size hog4 (Nat.le_refl _) (by omega) hg0 HG1.out (HC.out.2.2.2.2 d)).mono ?_
    rintro e w5 ⟨rfl, hb5⟩
    go_wp2
    go_ret
    exact ⟨by first | rfl | simp, hb14.trans (hb5.mono hb14.size)⟩
  · obtain ⟨Aw, cw, rfl⟩ := hn1 (by omega)
    clear he1 hn1
    go_wp2_with fail
    refine (HP.out w1 (HT.out.below hb1 HT.out.lt)).mono ?_
    rintro e w2 ⟨_, hn2, hb2⟩
    obtain ⟨Ap, cp, rfl⟩ := hn2 (by omega)
    have hb12 := hb1.trans (hb2.mono hb1.size)
    clear hn2
    go_wp2_with fail
    refine (HG.out w2 (HT.out.below hb12 HT.out.lt)).mono ?_
    rintro e w3 ⟨_, hn3, hb3⟩
    obtain ⟨Ag, cg, rfl⟩ := hn3 (by omega)
    have hb13 := hb12.trans (hb3.mono hb12.size)
    clear hn3
    by_cases h1 : x0 < 1
    · go_wp2
      go_ret
      exact ⟨by first | rfl | simp, hb13⟩
    · have h6 : 4 < x0 := by omega
      clear hx
      go_wp2
      go_ret
      exact ⟨by first | rfl | simp, hb13⟩
end Go.Proofs.YtfpokjhalbbeeaaDoor
