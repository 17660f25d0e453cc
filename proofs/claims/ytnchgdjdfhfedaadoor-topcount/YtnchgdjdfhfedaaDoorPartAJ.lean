/- Of this claim's own texts these, one behind the other: KeepRan, VmMem, VmMemO, LibMid, MachT, KeepPicked. No statement of the seat is proved here; no condition but those that stand at the theorems. -/
import Derived.Test.YtnchgdjdfhfedaaDoorPartAH
import Derived.Test.YtnchgdjdfhfedaaDoorPartAI
import Derived.Test.YtnchgdjdfhfedaaDoorPartAD
import Derived.Laws.Tables
import Derived.Laws.OwnMore
import Derived.Test.YtnchgdjdfhfedaaDoorPartAE
import Derived.Deep.MidRow
import Derived.Test.YtnchgdjdfhfedaaDoorRows
import Derived.Test.YtnchgdjdfhfedaaDoorPartAC
set_option linter.unusedSimpArgs false
set_option linter.unusedVariables false
namespace Go.Proofs.YtnchgdjdfhfedaaDoor
open Go.RowKit Go.Ord Go.Baro

theorem eltDoing : Elt Tryd.prog 34 44 (.agg #[.int .i64 0, .int .i64 0, .int .i64 0, .int .i64 0, .slice none 0 0]) 5 56 := Elt.mk' Tryd.underlying34 (by kernel_rfl) rfl (by decide)
theorem own_pos {w : World} {B n s : Nat} {e : TypeId} {v : Value} {xs : List Value} (h : w.ownsRow B e s v n xs) (hn : 0 < n) : ∃ g c, v = .slice (some ⟨g, 0, none⟩) n c ∧ B ≤ g ∧ n ≤ c ∧ g < w.heap.size := by
  rcases h.2 with ⟨_, rfl⟩ | ⟨g, cap, cur, rfl, hb, hh, hc, _⟩
  · omega
  · exact ⟨g, cap, rfl, hb, hc, (Array.getElem?_eq_some_iff.1 hh).1⟩
/-- What ran leaves, where no call ends with an error. -/
def RanPost (T : List Ev) (w : World) (e : Ending) (w' : World) : Prop := ∃ A n c L, e = .returned (.tuple #[.slice A n c, .bool true]) ∧ n ≤ c ∧ n ≤ 12000 ∧ Hid (L.map Prod.fst = dgs T) ∧ RDg w' w'.heap.size A n L ∧ Below w.heap.size w w'
set_option maxRecDepth 100000 in
set_option maxHeartbeats 2000000 in
theorem keep_ran (hP : PlaySpec) (w : World) (hT : Tab w) (Aw : Option Addr) (nw cw : Nat) (Ac : Option Addr) (nc cc : Nat) (At : Option Addr) (nt ct : Nat) (m : Mc) (As : Option Addr) (ns cs : Nat) (s : List Int) (T : List Ev) (W : List Int) (hm : InM w Aw nw cw Ac nc cc At nt ct m)
    (hs : RI w w.heap.size .i64 As ns s) (hn : ns ≤ 6000) (hR : PlR m s T W 0) (hok : rnOk T) : Calls Tryd.prog 13 #[.agg #[.slice Aw nw cw, .slice Ac nc cc, .slice At nt ct], .slice As ns cs] w (RanPost T w) := by
  have HP := Lib.hid hP
  have HT := Lib.hid hT
  have HR := Lib.hid hR
  have HOK := Lib.hid hok
  have hA := (Below.refl w.heap.size w).alloc (Nat.le_refl _) (Obj.cells #[.slice Aw nw cw, .slice Ac nc cc, .slice At nt ct] 32)
  have HM := Lib.hid (hm.below hA)
  have hs2 := (hs.below hA).more hA.size
  have bX := Box.newAt w 32 [.slice Aw nw cw, .slice Ac nc cc, .slice At nt ct] w.heap.size rfl
  clear hP hT hR hok hm hs
  go_enter Tryd.func13, Tryd.ntmps13
  have x0 := bX.cell 0
  have x1 := bX.cell 1
  have x2 := bX.cell 2
  simp only [List.getElem?_cons_zero, List.getElem?_cons_succ] at x0 x1 x2
  obtain ⟨wA, hwA⟩ : ∃ wA, wA = w.alloc (Obj.cells #[.slice Aw nw cw, .slice Ac nc cc, .slice At nt ct] 32) := ⟨_, rfl⟩
  rw [← hwA] at hA hs2 x0 x1 x2
  have HWA := Lib.hid hwA
  go_wp2
  rw [← HWA.out]
  clear bX hwA
  refine region_first [0, 1] (.cons 2 (seq [3, 4, 5, 6, 7, 8, 9, 10] .nil)) (by kernel_rfl) (by kernel_rfl) ?_
  simp only [pick, List.map_cons, List.map_nil, List.getD_cons_zero, List.getD_cons_succ]
  go_wp2
  refine ord_call (by kernel_rfl) ?_
  simp only [pick, List.map_cons, List.map_nil, List.getD_cons_zero, List.getD_cons_succ]
  go_wp2_with (at_builtin; go_must (refine app_src eltIntS wA.drew rfl _ _ rfl wA.heap.size _ 0 [] rfl (World.ownsRow_nil _ _ _ _) As ns _ (s.map (Value.int .i64)) rfl wA.heap.size (by exact Rd.heap hs2 rfl) (one_ints _ _) (by omega) (by omega) (Nat.le_refl _) ?_); intro v3 w3 hv3 hg3 hbel3 hsz3)
  have hb3 : Below wA.heap.size wA w3 := hbel3 wA (Below.refl _ _).drew
  rw [List.nil_append, Nat.zero_add] at hv3
  obtain ⟨A4, c4, rfl, hlc4⟩ := own_form hv3
  refine ⟨fun k hk => hb3.block k hk, ?_⟩
  have hr4 : RI w3 w3.heap.size .i64 A4 ns s := Rd.of_own hv3
  have hbC := hA.trans (hb3.mono hA.size)
  have HM3 : Hid (InM w3 Aw nw cw Ac nc cc At nt ct m) := by
    have := HM.out
    rw [← HWA.out] at this
    exact this.below hb3
  clear hv3 hg3 hbel3 x0 x1 x2 hs2
  refine ord_last [3, 4, 5, 6, 7, 8, 9, 10] (by kernel_rfl) ?_
  simp only [pick, List.map_cons, List.map_nil, List.getD_cons_zero, List.getD_cons_succ]
  go_wp2_with fail
  refine (HP.out w3 (HT.out.below hbC HT.out.lt) Aw nw cw Ac nc cc At nt ct m A4 ns c4 s T W 0 HM3.out hr4 (by omega) HR.out).mono ?_
  rintro e w4 ⟨B1, m1, d1, B2, m2, d2, rfl, hr1, hr2, hl1, hl2, hm1, hm2, hb4⟩
  have hbD := hbC.trans (hb4.mono hbC.size)
  have hT4 := Lib.hid (HT.out.below hbD HT.out.lt)
  have LT := Lib.hid hr1.len
  clear hr2 hr4 HM3 HM HR hb4 hbC hb3 hA
  have hI0 : OwnD w4 w4.heap.size 44 (.slice none 0 0) 0 [] := World.ownsRow_nil _ _ _ _
  go_wp2
  go_loopw [9, 10] (fun v i wr => ∃ (j n : Nat) (L : List (Dg × Value)), j ≤ m1 ∧ n ≤ j ∧ i = .int .i64 j ∧ Hid (L.map Prod.fst = dgs (T.take j)) ∧ OwnD wr w4.heap.size 44 v n L ∧ Hid (∀ p ∈ L, tld wr w4.heap.size p) ∧ Below w4.heap.size w4 wr) (fun _ i _ => m1 - (intOf i).toNat)
  case atStart => exact ⟨0, 0, [], Nat.zero_le _, Nat.le_refl _, rfl, rfl, hI0, (fun p hp => by cases hp), Below.refl _ _⟩
  case round =>
    obtain ⟨j, n, L, hj, hnj, rfl, HL, hown, HTL, hbel⟩ := hrel
    have hsz := hbel.size
    by_cases hjm : j < m1
    · obtain ⟨b, o, A5, n5, k5, x, rfl, hbB, d0, d1', d2, d3, d4, d5, hlk, hn5, hri0, HX, hmem⟩ := hr1.val hjm
      have q0 := (hbel.cell (p := ⟨b, o + j * 6, none⟩) hbB).trans d0
      have q1 := (hbel.cell (p := ⟨b, o + j * 6 + 1, none⟩) hbB).trans d1'
      have q2 := (hbel.cell (p := ⟨b, o + j * 6 + 2, none⟩) hbB).trans d2
      have q3 := (hbel.cell (p := ⟨b, o + j * 6 + 3, none⟩) hbB).trans d3
      have hend := HOK.out j x HX.out
      have HTK : Hid (T.take (j + 1) = T.take j ++ [x]) := at_take HX.out
      cases hen : x.en with
      | false =>
        rw [hen] at q3
        have HD : Hid (dgs (T.take (j + 1)) = dgs (T.take j) ++ [⟨x.st, -1, x.th, x.cl, []⟩]) := by
          show _ = _
          rw [HTK.out, dgs_snoc, dg1_begin _ _ hen]
        obtain ⟨st, th, cl, en, er, to⟩ := x
        dsimp only at q0 q1 q2 q3 HD
        clear hend hmem HX HTK hen d0 d1' d2 d3 d4 d5 hri0
        go_wp2
        refine region_two [0, 1, 2, 3, 4, 5, 6, 7, 8, 9, 10, 11, 12, 13, 14, 15, 16] [17, 18, 19] (by kernel_rfl) (by kernel_rfl) ?_
        simp only [pick, List.map_cons, List.map_nil, List.getD_cons_zero, List.getD_cons_succ]
        go_wp2_with (at_builtin; go_must (refine app_litd eltDoing wr rfl _ _ rfl w4.heap.size _ n _ rfl (by exact hown) 1 [.int .i64 st, .int .i64 (-1), .int .i64 th, .int .i64 cl, .slice none 0 0] wr.heap.size rfl rfl rfl (by intro u hu; simp only [List.mem_cons, List.not_mem_nil, or_false] at hu; rcases hu with rfl | rfl | rfl | rfl | rfl <;> rfl) (by omega) (by omega) hsz ?_); intro v3 w5 hown3 hgr3 hbel3 _)
        have hbel5 := hbel3 _ hbel
        refine ⟨⟨j + 1, n + 1, L ++ [(⟨st, -1, th, cl, []⟩, .slice none 0 0)], by omega, by omega, by go_num, ?_, ?_, ?_, hbel5⟩, by simp [intOf]; omega⟩
        · show _ = _
          rw [List.map_append, HL.out, HD.out]; rfl
        · unfold OwnD
          rw [List.flatMap_append]
          exact hown3
        · intro p hp
          rcases List.mem_append.1 hp with hp | hp
          · obtain ⟨A, n', k, t1, t2, t3, t4⟩ := HTL.out p hp
            exact ⟨A, n', k, t1, t2, t3, Rd.keep t4 fun b' o' hb' => (hbel5.cell (p := ⟨b', o', none⟩) hb').trans (hbel.cell (p := ⟨b', o', none⟩) hb').symm⟩
          · rw [List.mem_singleton.1 hp]
            exact ⟨none, 0, 0, rfl, Nat.le_refl _, by omega, RI.nil _ _ _ _⟩
      | true =>
        rw [hen] at q3
        obtain ⟨her, dq, hdq, his⟩ := hend hen
        have HD : Hid (dgs (T.take (j + 1)) = (dgs (T.take j)).map (fun d => d.fin x)) := by
          show _ = _
          rw [HTK.out, dgs_snoc, dg1_end _ _ hen]
        have hn0 : 0 < n := by
          rw [← OwnD.len hown, ← List.length_map (f := Prod.fst), HL.out]
          exact List.length_pos_of_mem hdq
        obtain ⟨g, c9, rfl, hBg, hc9, hgl⟩ := own_pos hown hn0
        have HF : Hid (∃ p ∈ L, p.1.is x) := by
          rw [← HL.out] at hdq
          obtain ⟨p, hp, rfl⟩ := List.mem_map.1 hdq
          exact ⟨p, hp, his⟩
        have hI1 : OwnD wr w4.heap.size 44 (.slice (some ⟨g, 0, none⟩) n c9) n (finK x (.slice A5 n5 k5) 0 L) := by rw [finK_zero]; exact hown
        have hne : b ≠ g := by omega
        have LL := Lib.hid (OwnD.len hown)
        clear hend hmem HTK hen hdq his hown
        obtain ⟨wo, rfl⟩ : ∃ wo, wo = wr := ⟨wr, rfl⟩
        go_wp2
        go_loopw [11, 12] (fun f i wr => ∃ (k : Nat) (fb : Bool), k ≤ n ∧ i = .int .i64 k ∧ f = .bool fb ∧ Hid (fb = true ↔ ∃ p ∈ L.take k, p.1.is x) ∧ OwnD wr w4.heap.size 44 (.slice (some ⟨g, 0, none⟩) n c9) n (finK x (.slice A5 n5 k5) k L) ∧ Below w4.heap.size w4 wr) (fun _ i _ => n - (intOf i).toNat)
        case atStart => exact ⟨0, false, Nat.zero_le _, rfl, rfl, (by show _ ↔ _; simp), hI1, hbel⟩
        case round =>
          obtain ⟨k, fb, hk, rfl, rfl, HFB, hown, hbel2⟩ := hrel
          have z0 := (hbel2.cell (p := ⟨b, o + j * 6, none⟩) hbB).trans d0
          have z1 := (hbel2.cell (p := ⟨b, o + j * 6 + 1, none⟩) hbB).trans d1'
          have z2 := (hbel2.cell (p := ⟨b, o + j * 6 + 2, none⟩) hbB).trans d2
          have z3 := (hbel2.cell (p := ⟨b, o + j * 6 + 3, none⟩) hbB).trans d3
          have z4 := (hbel2.cell (p := ⟨b, o + j * 6 + 4, none⟩) hbB).trans d4
          have z5 := (hbel2.cell (p := ⟨b, o + j * 6 + 5, none⟩) hbB).trans d5
          by_cases hkn : k < n
          · obtain ⟨p, HP1, hpm, c0, c1, c2, c3, c4, f1, f4⟩ := hown.val hkn
            have HPL : Hid (L[k]? = some p) := by have := HP1.out; rwa [finK_at] at this
            have HTA : Hid (L.take (k + 1) = L.take k ++ [p]) := at_take HPL.out
            have HOW := Lib.hid hown
            have HTH := Lib.hid (show ∀ q : Dg, q.is x ↔ q.th = x.th ∧ q.cl = x.cl ∧ q.e = -1 from fun q => Iff.rfl)
            clear hpm HP1 hown
            by_cases h1 : p.1.th = x.th
            · have HH1 := Lib.hid h1
              have e1 : ((p.1.th : Int) == (x.th : Int)) = true := by simp [h1]
              by_cases h2 : p.1.cl = x.cl
              · have HH2 := Lib.hid h2
                have e2 : ((p.1.cl : Int) == (x.cl : Int)) = true := by simp [h2]
                by_cases h3 : p.1.e = -1
                · have HH3 := Lib.hid h3
                  have e3 : (p.1.e == -1) = true := by simp [h3]
                  have HIS : Hid (p.1.is x) := ⟨h1, h2, h3⟩
                  have HOW2 := Lib.hid (OwnD.fin HOW.out (i := k) (p := p) (by rw [finK_at]; exact HPL.out) x.st x.to (.slice A5 n5 k5))
                  clear h1 h2 h3
                  go_wp2
                  refine region_two [0, 1, 2, 3, 4, 5, 6, 7, 8, 9, 10, 11, 12, 13, 14, 15, 16, 17, 18, 19, 20, 21, 22, 23, 24, 25, 26, 27, 28, 29, 30, 31] [] (by kernel_rfl) (by kernel_rfl) ?_
                  simp only [pick, List.map_cons, List.map_nil, List.getD_cons_zero, List.getD_cons_succ]
                  go_wp2
                  refine ⟨⟨k + 1, true, by omega, by go_num, rfl, ?_, ?_, (below_at (below_at hbel2 hBg _ _) hBg _ _).drew⟩, by simp [intOf]; omega⟩
                  · show _ ↔ _
                    rw [HTA.out]
                    exact ⟨fun _ => ⟨p, by simp, HIS.out⟩, fun _ => rfl⟩
                  · rw [finK_succ HPL.out]
                    unfold finP
                    rw [if_pos HIS.out]
                    exact HOW2.out
                · have HH3 := Lib.hid h3
                  have e3 : (p.1.e == -1) = false := by simp [h3]
                  clear h1 h2 h3
                  have HNO : Hid (¬ p.1.is x) := fun h => HH3.out h.2.2
                  go_wp2
                  refine region_two [0, 1, 2, 3, 4, 5, 6, 7, 8, 9, 10, 11, 12, 13, 14, 15, 16, 17, 18, 19, 20, 21, 22, 23, 24, 25, 26, 27, 28, 29, 30, 31] [] (by kernel_rfl) (by kernel_rfl) ?_
                  simp only [pick, List.map_cons, List.map_nil, List.getD_cons_zero, List.getD_cons_succ]
                  go_wp2
                  go_roundw
                  case rel =>
                    refine ⟨k + 1, fb, by omega, by go_num, rfl, ?_, by rw [finK_skip HPL.out HNO.out]; exact HOW.out, hbel2.drew⟩
                    show _ ↔ _
                    rw [HTA.out, HFB.out]
                    constructor
                    · rintro ⟨q, hq, h⟩; exact ⟨q, by simp [hq], h⟩
                    · rintro ⟨q, hq, h⟩
                      rcases List.mem_append.1 hq with hq | hq
                      · exact ⟨q, hq, h⟩
                      · rw [List.mem_singleton.1 hq] at h; exact absurd h HNO.out
                  case measure => simp [intOf]; omega
              · have HH2 := Lib.hid h2
                have e2 : ((p.1.cl : Int) == (x.cl : Int)) = false := by simp; omega
                clear h1 h2
                have HNO : Hid (¬ p.1.is x) := fun h => HH2.out h.2.1
                go_wp2
                refine region_two [0, 1, 2, 3, 4, 5, 6, 7, 8, 9, 10, 11, 12, 13, 14, 15, 16, 17, 18, 19, 20, 21, 22, 23, 24, 25, 26, 27, 28, 29, 30, 31] [] (by kernel_rfl) (by kernel_rfl) ?_
                simp only [pick, List.map_cons, List.map_nil, List.getD_cons_zero, List.getD_cons_succ]
                go_wp2
                go_roundw
                case rel =>
                  refine ⟨k + 1, fb, by omega, by go_num, rfl, ?_, by rw [finK_skip HPL.out HNO.out]; exact HOW.out, hbel2.drew⟩
                  show _ ↔ _
                  rw [HTA.out, HFB.out]
                  constructor
                  · rintro ⟨q, hq, h⟩; exact ⟨q, by simp [hq], h⟩
                  · rintro ⟨q, hq, h⟩
                    rcases List.mem_append.1 hq with hq | hq
                    · exact ⟨q, hq, h⟩
                    · rw [List.mem_singleton.1 hq] at h; exact absurd h HNO.out
                case measure => simp [intOf]; omega
            · have HH1 := Lib.hid h1
              have e1 : ((p.1.th : Int) == (x.th : Int)) = false := by simp; omega
              clear h1
              have HNO : Hid (¬ p.1.is x) := fun h => HH1.out h.1
              go_wp2
              refine region_two [0, 1, 2, 3, 4, 5, 6, 7, 8, 9, 10, 11, 12, 13, 14, 15, 16, 17, 18, 19, 20, 21, 22, 23, 24, 25, 26, 27, 28, 29, 30, 31] [] (by kernel_rfl) (by kernel_rfl) ?_
              simp only [pick, List.map_cons, List.map_nil, List.getD_cons_zero, List.getD_cons_succ]
              go_wp2
              go_roundw
              case rel =>
                refine ⟨k + 1, fb, by omega, by go_num, rfl, ?_, by rw [finK_skip HPL.out HNO.out]; exact HOW.out, hbel2.drew⟩
                show _ ↔ _
                rw [HTA.out, HFB.out]
                constructor
                · rintro ⟨q, hq, h⟩; exact ⟨q, by simp [hq], h⟩
                · rintro ⟨q, hq, h⟩
                  rcases List.mem_append.1 hq with hq | hq
                  · exact ⟨q, hq, h⟩
                  · rw [List.mem_singleton.1 hq] at h; exact absurd h HNO.out
              case measure => simp [intOf]; omega
          · obtain rfl : n = k := by omega
            have hfb : fb = true := HFB.out.2 (by rw [List.take_of_length_le (by rw [LL.out]; omega)]; exact HF.out)
            subst hfb
            have HE := Lib.hid her
            have z4' : wr.cell? ⟨b, o + j * 6 + 4, none⟩ = some (.int .i64 0) := by rw [z4, her]
            have HOW := Lib.hid hown
            clear z4 hown her
            go_wp2
            go_roundw
            case rel =>
              refine ⟨j + 1, n, finK x (.slice A5 n5 k5) n L, by omega, by omega, by go_num, ?_, HOW.out, ?_, hbel2⟩
              · show _ = _
                rw [finK_all (by rw [LL.out]; omega), HL.out, HD.out]
              · intro p hp
                rcases finK_mem hp with hp | ⟨h1, h2⟩
                · obtain ⟨A, n', k, t1, t2, t3, t4⟩ := HTL.out p hp
                  exact ⟨A, n', k, t1, t2, t3, Rd.keep t4 fun b' o' hb' => (hbel2.cell (p := ⟨b', o', none⟩) hb').trans (hbel.cell (p := ⟨b', o', none⟩) hb').symm⟩
                · exact ⟨A5, n5, k5, h1, hlk, hn5, by rw [h2]; exact hri0.below hbel2⟩
            case measure => simp [intOf]; omega
    · obtain rfl : m1 = j := by omega
      obtain ⟨A9, c9, rfl, hc9⟩ := own_form hown
      have HOW := Lib.hid hown
      have hT5 := hT4.out.below hbel hT4.out.lt
      clear hown
      go_wp2_with fail
      refine (keep_runSure HP.out wr hT5).mono ?_
      rintro e w6 ⟨rfl, hb6⟩
      have hb7 := hbel.trans (hb6.mono hsz)
      go_wp2
      go_ret2
      refine ⟨A9, n, c9, L, rfl, hc9, by omega, ?_, ?_, hbD.trans (hb7.mono hbD.size)⟩
      · show _ = _
        rw [HL.out, List.take_of_length_le (by rw [LT.out]; omega)]
      · refine ⟨Rd.more (Rd.below (Rd.of_own HOW.out) hb6) hb6.size, fun p hp => ?_⟩
        obtain ⟨A, n', k, t1, t2, t3, t4⟩ := HTL.out p hp
        exact ⟨A, n', k, t1, t2, t3, RI.more (Rd.keep t4 fun b' o' hb' => (hb7.cell (p := ⟨b', o', none⟩) hb').trans (hbel.cell (p := ⟨b', o', none⟩) hb').symm) hb7.size⟩
end Go.Proofs.YtnchgdjdfhfedaaDoor

set_option linter.unusedSimpArgs false
set_option linter.unusedVariables false
namespace Go.Baro
open Go.RowKit

def regV (r : Int → Int) : List Value := (List.range 24).map fun i => Value.int .i64 (r (i : Nat))
/-- The cells of a thread: its code, the next instruction, the registers, what it has told. -/
def thC (cv : Value) (p : Int) (r : Int → Int) (tv : Value) : List Value := cv :: .int .i64 p :: (regV r ++ [tv])
theorem regV_len (r : Int → Int) : (regV r).length = 24 := by simp [regV]
theorem regV_at (r : Int → Int) {i : Nat} (h : i < 24) : (regV r)[i]? = some (.int .i64 (r i)) := by simp [regV, List.getElem?_map, List.getElem?_range h]
section
variable {cv tv : Value} {p : Int} {r : Int → Int}
theorem thC_len : (thC cv p r tv).length = 27 := by simp [thC, regV_len]
theorem thC_reg {i : Nat} (h : i < 24) : (thC cv p r tv)[2 + i]? = some (.int .i64 (r i)) := by
  rw [thC, show 2 + i = i + 1 + 1 by omega, List.getElem?_cons_succ, List.getElem?_cons_succ, List.getElem?_append_left (by rw [regV_len]; exact h), regV_at r h]
theorem thC_told : (thC cv p r tv)[26]? = some tv := by
  rw [thC, show 26 = 24 + 1 + 1 by rfl, List.getElem?_cons_succ, List.getElem?_cons_succ, List.getElem?_append_right (by rw [regV_len]; omega), regV_len]; rfl
theorem thC_set_p (q : Int) : (thC cv p r tv).set 1 (.int .i64 q) = thC cv q r tv := rfl
theorem regV_set {i : Nat} (h : i < 24) (v : Int) : (regV r).set i (.int .i64 v) = regV (upd r i v) := by
  refine List.ext_getElem? fun j => ?_
  rw [List.getElem?_set]
  by_cases hj : j < 24
  · rw [regV_at _ hj, regV_at _ hj, regV_len]
    by_cases hij : i = j
    · subst hij; rw [if_pos rfl, if_pos h, upd_same]
    · rw [if_neg hij, upd_other _ _ (by omega)]
  · rw [List.getElem?_eq_none (by rw [regV_len]; omega), List.getElem?_eq_none (by rw [regV_len]; omega), if_neg (by omega)]
theorem thC_set_reg {i : Nat} (h : i < 24) (v : Int) : (thC cv p r tv).set (2 + i) (.int .i64 v) = thC cv p (upd r i v) tv := by
  rw [thC, show 2 + i = i + 1 + 1 by omega, List.set_cons_succ, List.set_cons_succ, List.set_append_left _ _ (by rw [regV_len]; exact h), regV_set h]; rfl
theorem thC_set_told (u : Value) : (thC cv p r tv).set 26 u = thC cv p r u := by
  rw [thC, show 26 = 24 + 1 + 1 by rfl, List.set_cons_succ, List.set_cons_succ, List.set_append_right _ _ (by rw [regV_len]; omega), regV_len]; rfl
end

/-- The thread lies in block b; what it has told and the shared words are rows of the call's own, in two blocks from B on. -/
structure Th (T I : TypeId) (w : World) (B b : Nat) (cv tv wv : Value) (s : Vs) : Prop where
  box : Box w b T (thC cv s.p s.r tv)
  told : w.ownsRow B I 1 tv s.t.length (s.t.map (Value.int .i64))
  words : w.ownsRow B I 1 wv s.w.length (s.w.map (Value.int .i64))
  apart : wv.ownBlock = none ∨ wv.ownBlock ≠ tv.ownBlock
  ne : I ≠ T
section
variable {T I : TypeId} {w w' : World} {B b : Nat} {cv tv wv : Value} {s : Vs}
theorem Th.lt (h : Th T I w B b cv tv wv s) : b < w.heap.size := h.box.lt
theorem Th.kept (h : Th T I w B b cv tv wv s) {row : Option Nat} (hg : w.grownBy w' row) (hb : some b ≠ row) (ht : ∀ k, tv.ownBlock = some k → some k ≠ row) (hw : ∀ k, wv.ownBlock = some k → some k ≠ row) : Th T I w' B b cv tv wv s := by
  refine ⟨h.box.grown hg hb, h.told.kept hg ?_, h.words.kept hg ?_, h.apart, h.ne⟩
  · cases hv : tv.ownBlock with
    | none => exact .inl rfl
    | some k => exact .inr (ht k hv)
  · cases hv : wv.ownBlock with
    | none => exact .inl rfl
    | some k => exact .inr (hw k hv)
theorem Th.alloc (h : Th T I w B b cv tv wv s) (o : Obj) : Th T I (w.alloc o) B b cv tv wv s := h.kept (World.grownBy_alloc w o none) (by simp) (by simp) (by simp)
theorem Th.drewN (h : Th T I w B b cv tv wv s) (n : Nat) : Th T I (w.drewN n) B b cv tv wv s := ⟨h.box, h.told, h.words, h.apart, h.ne⟩
theorem Th.drew (h : Th T I w B b cv tv wv s) : Th T I w.drew B b cv tv wv s := ⟨h.box, h.told, h.words, h.apart, h.ne⟩
theorem Th.boxed (h : Th T I w B b cv tv wv s) {i : Nat} {u : Value} {q : Int} {r : Int → Int} (hs : (thC cv s.p s.r tv).set i u = thC cv q r tv) : Th T I (w.setCell ⟨b, i, none⟩ u) B b cv tv wv { s with p := q, r := r } := by
  have hg := grown_setCell w ⟨b, i, none⟩ u
  have h1 := h.box.set i u
  rw [hs] at h1
  refine ⟨h1, h.told.kept hg ?_, h.words.kept hg ?_, h.apart, h.ne⟩
  · cases hv : tv.ownBlock with
    | none => exact .inl rfl
    | some k => exact .inr fun he => by have := h.box.ne h.told h.ne; rw [hv] at this; exact this he.symm
  · cases hv : wv.ownBlock with
    | none => exact .inl rfl
    | some k => exact .inr fun he => by have := h.box.ne h.words h.ne; rw [hv] at this; exact this he.symm
theorem Th.next (h : Th T I w B b cv tv wv s) (q : Int) : Th T I (w.setCell ⟨b, 1, none⟩ (.int .i64 q)) B b cv tv wv { s with p := q } := h.boxed (thC_set_p q)
theorem Th.reg (h : Th T I w B b cv tv wv s) {i : Nat} (hi : i < 24) (v : Int) : Th T I (w.setCell ⟨b, 2 + i, none⟩ (.int .i64 v)) B b cv tv wv { s with r := upd s.r i v } := h.boxed (thC_set_reg hi v)
theorem Th.word (h : Th T I w B b cv tv wv s) {g n c q : Nat} (hv : wv = .slice (some ⟨g, 0, none⟩) n c) (v : Int) : Th T I (w.setCell ⟨g, q, none⟩ (.int .i64 v)) B b cv tv wv { s with w := s.w.set q v } := by
  subst hv
  have hl : n = s.w.length := by
    obtain ⟨A, c', he, _⟩ := own_form h.words
    injection he
  subst hl
  have hst := World.ownsRow.stored h.words q (.int .i64 v)
  refine ⟨h.box.grown hst.2 (h.box.ne h.words h.ne), h.told.kept hst.2 ?_, ?_, h.apart, h.ne⟩
  · cases ht : tv.ownBlock with
    | none => exact .inl rfl
    | some k =>
      refine .inr fun he => ?_
      rcases h.apart with ha | ha
      · cases ha
      · rw [ht] at ha; exact ha he.symm
  · have := hst.1
    rw [← List.map_set] at this
    show World.ownsRow _ _ _ _ _ (s.w.set q v).length _
    rw [List.length_set]
    exact this
/-- One number more is told: the row has grown, and the thread has it. -/
theorem Th.tell (h : Th T I w B b cv tv wv s) {v' : Value} {x : Int} {m : Nat} {o : Obj} (hg : (w.alloc o).grownBy w' tv.ownBlock) (ho : w'.ownsRow B I 1 v' m (s.t.map (Value.int .i64) ++ [.int .i64 x])) (hm : m = s.t.length + 1)
    (hb : v'.ownBlock = tv.ownBlock ∨ v'.ownBlock = some (w.alloc o).heap.size) : Box w' b T (thC cv s.p s.r tv) ∧ Th T I (w'.setCell ⟨b, 26, none⟩ v') B b cv v' wv { s with t := s.t ++ [x] } := by
  have hb1 := (h.box.alloc o).grown hg (h.box.ne h.told h.ne)
  have hg2 := grown_setCell w' ⟨b, 26, none⟩ v'
  have hw1 : w'.ownsRow B I 1 wv s.w.length (s.w.map (Value.int .i64)) := (h.words.alloc o).kept hg h.apart
  refine ⟨hb1, ?_, ?_, ?_, ?_, h.ne⟩
  · have := hb1.set 26 v'
    rw [thC_set_told] at this
    exact this
  · show World.ownsRow _ _ _ _ _ (s.t ++ [x]).length _
    rw [List.length_append, List.length_singleton, ← hm, List.map_append]
    refine ho.kept hg2 ?_
    cases hv : v'.ownBlock with
    | none => exact .inl rfl
    | some k => exact .inr fun he => by have := hb1.ne ho h.ne; rw [hv] at this; exact this he.symm
  · refine hw1.kept hg2 ?_
    cases hv : wv.ownBlock with
    | none => exact .inl rfl
    | some k => exact .inr fun he => by have := hb1.ne hw1 h.ne; rw [hv] at this; exact this he.symm
  · rcases hb with hb | hb
    · rw [hb]; exact h.apart
    · rw [hb]
      cases hv : wv.ownBlock with
      | none => exact .inl rfl
      | some k =>
        refine .inr fun he => ?_
        have := (h.words.lt _ hv).2
        injection he with he
        simp at he
        omega
theorem Th.code (h : Th T I w B b cv tv wv s) : w.cell? ⟨b, 0, none⟩ = some cv := h.box.cell 0
theorem Th.at_ (h : Th T I w B b cv tv wv s) : w.cell? ⟨b, 1, none⟩ = some (.int .i64 s.p) := h.box.cell 1
theorem Th.get (h : Th T I w B b cv tv wv s) {i : Nat} (hi : i < 24) : w.cell? ⟨b, 2 + i, none⟩ = some (.int .i64 (s.r i)) := (h.box.cell _).trans (thC_reg hi)
theorem Th.toldv (h : Th T I w B b cv tv wv s) : w.cell? ⟨b, 26, none⟩ = some tv := (h.box.cell _).trans thC_told
/-- The shared words, where there is one. -/
theorem Th.some (h : Th T I w B b cv tv wv s) {q : Nat} (hq : q < s.w.length) : ∃ g c x, wv = .slice (Option.some ⟨g, 0, none⟩) s.w.length c ∧ B ≤ g ∧ g < w.heap.size ∧ g ≠ b ∧ w.cell? ⟨g, q, none⟩ = Option.some (.int .i64 x) ∧ Hid (s.w[q]? = Option.some x) ∧ w.frozen? ⟨g, q, none⟩ = false := by
  obtain ⟨g, c, rfl, h1, h2, h3⟩ := own_some h.words (by omega)
  obtain ⟨x, hx, HX, _⟩ := own_val h.words hq
  refine ⟨g, c, x, rfl, h1, h2, ?_, hx, HX, h.words.frozenAt q⟩
  intro he
  have := h.box.ne h.words h.ne
  exact this (by rw [he]; rfl)
end

/-- A whole struct is stored into a block of the call's own. -/
theorem store_box {P : Program} {ops : Array Oper} {rest : List Oper} {o : Oper} {a : Act} {w : World} {Q : Exit → Act → World → Prop} (hgd : o.guard = none) (hdst : o.dst = none) (ty : TypeId) (x y : Operand) (ho : o.op = .store ty x y)
    (g : Nat) (cells : List Value) (hx : a.eval x = .pointer (some ⟨g, 0, none⟩)) (hy : a.eval y = .agg cells.toArray)
    (t : TypeId) (old : List Value) (hg : Box w g t old) (hi : (P.info? ty).map (·.size) = some cells.length)
    (hold : old.length = cells.length) (h1 : ∀ v ∈ cells, v.oneCell' = true)
    (h : ∀ w', Hid (Box w' g t cells) → w.grownBy w' (some g) → wpList P ops Q rest a w') : wpList P ops Q (o :: rest) a w := by
  refine wpList_store_row hgd ty x y ho g cells.toArray hx hy t old.toArray hg (by simpa using hi) (by simpa using hold) (Array.all_eq_true_iff_forall_mem.2 (fun v hv => h1 v (by simpa using hv))) ?_
  rw [hdst]
  refine h _ (setRow_heap w g _ _ t _ hg) ⟨rfl, rfl, rfl, by simp [World.setRow], fun k _ hk => setRow_other w g k _ (fun e => hk (by rw [e]))⟩
theorem results_tmp4 {fn : Func} {t u v x : Tmp} (h : fn.results = #[.tmp t, .tmp u, .tmp v, .tmp x]) (tmps : Array Value) (P : Program) (w : World) :
    (results fn tmps).run P w = .ok (.tuple #[tmps.getD t undef, tmps.getD u undef, tmps.getD v undef, tmps.getD x undef]) w := by
  simp [results, h]
theorem thC_one {cv tv : Value} {p : Int} {r : Int → Int} (hc : cv.oneCell' = true) (ht : tv.oneCell' = true) : ∀ v ∈ thC cv p r tv, v.oneCell' = true := by
  intro v hv
  simp only [thC, regV, List.mem_cons, List.mem_append, List.mem_map, List.mem_singleton, List.not_mem_nil, or_false] at hv
  rcases hv with rfl | rfl | ⟨i, _, rfl⟩ | rfl
  · exact hc
  · rfl
  · rfl
  · exact ht
end Go.Baro

set_option linter.unusedSimpArgs false
set_option linter.unusedVariables false
namespace Go.Baro
open Go.RowKit

section
variable {pre c post : List Value} {i : Nat} {u : Value}
theorem mid_at (h : i < c.length) : (pre ++ (c ++ post))[pre.length + i]? = c[i]? := by
  rw [List.getElem?_append_right (by omega), Nat.add_sub_cancel_left, List.getElem?_append_left h]
theorem mid_set (h : i < c.length) : (pre ++ (c ++ post)).set (pre.length + i) u = pre ++ (c.set i u ++ post) := by
  rw [List.set_append_right _ _ (by omega), Nat.add_sub_cancel_left, List.set_append_left _ _ h]
end
/-- The thread lies in block b from cell o on; what it has told and the shared words are rows of the call's own, in two blocks from B on. -/
structure To (T I : TypeId) (pre post : List Value) (w : World) (B b o : Nat) (cv tv wv : Value) (s : Vs) : Prop where
  box : Box w b T (pre ++ (thC cv s.p s.r tv ++ post))
  off : pre.length = o
  told : w.ownsRow B I 1 tv s.t.length (s.t.map (Value.int .i64))
  words : w.ownsRow B I 1 wv s.w.length (s.w.map (Value.int .i64))
  apart : wv.ownBlock = none ∨ wv.ownBlock ≠ tv.ownBlock
  ne : I ≠ T
section
variable {T I : TypeId} {pre post : List Value} {w w' : World} {B b o : Nat} {cv tv wv : Value} {s : Vs}
theorem To.lt (h : To T I pre post w B b o cv tv wv s) : b < w.heap.size := h.box.lt
theorem To.kept (h : To T I pre post w B b o cv tv wv s) {row : Option Nat} (hg : w.grownBy w' row) (hb : some b ≠ row) (ht : ∀ k, tv.ownBlock = some k → some k ≠ row) (hw : ∀ k, wv.ownBlock = some k → some k ≠ row) : To T I pre post w' B b o cv tv wv s := by
  refine ⟨h.box.grown hg hb, h.off, h.told.kept hg ?_, h.words.kept hg ?_, h.apart, h.ne⟩
  · cases hv : tv.ownBlock with
    | none => exact .inl rfl
    | some k => exact .inr (ht k hv)
  · cases hv : wv.ownBlock with
    | none => exact .inl rfl
    | some k => exact .inr (hw k hv)
theorem To.alloc (h : To T I pre post w B b o cv tv wv s) (x : Obj) : To T I pre post (w.alloc x) B b o cv tv wv s := h.kept (World.grownBy_alloc w x none) (by simp) (by simp) (by simp)
theorem To.drewN (h : To T I pre post w B b o cv tv wv s) (n : Nat) : To T I pre post (w.drewN n) B b o cv tv wv s := ⟨h.box, h.off, h.told, h.words, h.apart, h.ne⟩
theorem To.drew (h : To T I pre post w B b o cv tv wv s) : To T I pre post w.drew B b o cv tv wv s := ⟨h.box, h.off, h.told, h.words, h.apart, h.ne⟩
theorem To.cell (h : To T I pre post w B b o cv tv wv s) {i : Nat} (hi : i < 27) : w.cell? ⟨b, o + i, none⟩ = (thC cv s.p s.r tv)[i]? := by
  have := h.box.cell (pre.length + i)
  rw [mid_at (by rw [thC_len]; exact hi), h.off] at this
  exact this
theorem To.boxed (h : To T I pre post w B b o cv tv wv s) {i : Nat} {u : Value} {q : Int} {r : Int → Int} (hi : i < 27) (hs : (thC cv s.p s.r tv).set i u = thC cv q r tv) : To T I pre post (w.setCell ⟨b, o + i, none⟩ u) B b o cv tv wv { s with p := q, r := r } := by
  have hg := grown_setCell w ⟨b, o + i, none⟩ u
  have h1 := h.box.set (pre.length + i) u
  rw [mid_set (by rw [thC_len]; exact hi), hs, h.off] at h1
  refine ⟨h1, h.off, h.told.kept hg ?_, h.words.kept hg ?_, h.apart, h.ne⟩
  · cases hv : tv.ownBlock with
    | none => exact .inl rfl
    | some k => exact .inr fun he => by have := h.box.ne h.told h.ne; rw [hv] at this; exact this he.symm
  · cases hv : wv.ownBlock with
    | none => exact .inl rfl
    | some k => exact .inr fun he => by have := h.box.ne h.words h.ne; rw [hv] at this; exact this he.symm
theorem To.next (h : To T I pre post w B b o cv tv wv s) (q : Int) : To T I pre post (w.setCell ⟨b, o + 1, none⟩ (.int .i64 q)) B b o cv tv wv { s with p := q } := h.boxed (by omega) (thC_set_p q)
theorem To.reg (h : To T I pre post w B b o cv tv wv s) {i : Nat} (hi : i < 24) (v : Int) : To T I pre post (w.setCell ⟨b, o + 2 + i, none⟩ (.int .i64 v)) B b o cv tv wv { s with r := upd s.r i v } := by
  rw [Nat.add_assoc]
  exact h.boxed (by omega) (thC_set_reg hi v)
theorem To.word (h : To T I pre post w B b o cv tv wv s) {g n c q : Nat} (hv : wv = .slice (some ⟨g, 0, none⟩) n c) (v : Int) : To T I pre post (w.setCell ⟨g, q, none⟩ (.int .i64 v)) B b o cv tv wv { s with w := s.w.set q v } := by
  subst hv
  have hl : n = s.w.length := by
    obtain ⟨A, c', he, _⟩ := own_form h.words
    injection he
  subst hl
  have hst := World.ownsRow.stored h.words q (.int .i64 v)
  refine ⟨h.box.grown hst.2 (h.box.ne h.words h.ne), h.off, h.told.kept hst.2 ?_, ?_, h.apart, h.ne⟩
  · cases ht : tv.ownBlock with
    | none => exact .inl rfl
    | some k =>
      refine .inr fun he => ?_
      rcases h.apart with ha | ha
      · cases ha
      · rw [ht] at ha; exact ha he.symm
  · have := hst.1
    rw [← List.map_set] at this
    show World.ownsRow _ _ _ _ _ (s.w.set q v).length _
    rw [List.length_set]
    exact this
theorem To.tell (h : To T I pre post w B b o cv tv wv s) {v' : Value} {x : Int} {m : Nat} {ob : Obj} (hg : (w.alloc ob).grownBy w' tv.ownBlock) (ho : w'.ownsRow B I 1 v' m (s.t.map (Value.int .i64) ++ [.int .i64 x])) (hm : m = s.t.length + 1)
    (hb : v'.ownBlock = tv.ownBlock ∨ v'.ownBlock = some (w.alloc ob).heap.size) : Box w' b T (pre ++ (thC cv s.p s.r tv ++ post)) ∧ To T I pre post (w'.setCell ⟨b, o + 26, none⟩ v') B b o cv v' wv { s with t := s.t ++ [x] } := by
  have hb1 := (h.box.alloc ob).grown hg (h.box.ne h.told h.ne)
  have hg2 := grown_setCell w' ⟨b, o + 26, none⟩ v'
  have hw1 : w'.ownsRow B I 1 wv s.w.length (s.w.map (Value.int .i64)) := (h.words.alloc ob).kept hg h.apart
  refine ⟨hb1, ?_, h.off, ?_, ?_, ?_, h.ne⟩
  · have := hb1.set (pre.length + 26) v'
    rw [mid_set (by rw [thC_len]; omega), thC_set_told, h.off] at this
    exact this
  · show World.ownsRow _ _ _ _ _ (s.t ++ [x]).length _
    rw [List.length_append, List.length_singleton, ← hm, List.map_append]
    refine ho.kept hg2 ?_
    cases hv : v'.ownBlock with
    | none => exact .inl rfl
    | some k => exact .inr fun he => by have := hb1.ne ho h.ne; rw [hv] at this; exact this he.symm
  · refine hw1.kept hg2 ?_
    cases hv : wv.ownBlock with
    | none => exact .inl rfl
    | some k => exact .inr fun he => by have := hb1.ne hw1 h.ne; rw [hv] at this; exact this he.symm
  · rcases hb with hb | hb
    · rw [hb]; exact h.apart
    · rw [hb]
      cases hv : wv.ownBlock with
      | none => exact .inl rfl
      | some k =>
        refine .inr fun he => ?_
        have := (h.words.lt _ hv).2
        injection he with he
        simp at he
        omega
theorem To.tellB (h : To T I pre post w B b o cv tv wv s) {v' : Value} {x : Int} {m : Nat} (hB : B ≤ w.heap.size) (hb : Below w.heap.size w w') (ho : w'.ownsRow w.heap.size I 1 v' m (s.t.map (Value.int .i64) ++ [.int .i64 x])) (hm : m = s.t.length + 1) :
    Box w' b T (pre ++ (thC cv s.p s.r tv ++ post)) ∧ To T I pre post (w'.setCell ⟨b, o + 26, none⟩ v') B b o cv v' wv { s with t := s.t ++ [x] } ∧ ∃ k, v'.ownBlock = some k ∧ w.heap.size ≤ k := by
  have hb1 : Box w' b T _ := (hb.block b h.lt).trans h.box
  have hg2 := grown_setCell w' ⟨b, o + 26, none⟩ v'
  have hw1 : w'.ownsRow B I 1 wv s.w.length (s.w.map (Value.int .i64)) := own_below h.words hb
  have hv' : ∃ k, v'.ownBlock = some k ∧ w.heap.size ≤ k := by
    rcases ho.2 with ⟨_, h0⟩ | ⟨g, cap, cur, rfl, hg, _⟩
    · omega
    · exact ⟨g, rfl, hg⟩
  obtain ⟨k', hk1, hk2⟩ := hv'
  refine ⟨hb1, ⟨?_, h.off, ?_, ?_, ?_, h.ne⟩, k', hk1, hk2⟩
  · have := hb1.set (pre.length + 26) v'
    rw [mid_set (by rw [thC_len]; omega), thC_set_told, h.off] at this
    exact this
  · show World.ownsRow _ _ _ _ _ (s.t ++ [x]).length _
    rw [List.length_append, List.length_singleton, ← hm, List.map_append]
    have h2 : w'.ownsRow B I 1 v' m (s.t.map (Value.int .i64) ++ [.int .i64 x]) := by
      refine ⟨ho.1, ?_⟩
      rcases ho.2 with q | ⟨g, cap, cur, q1, q2, q3⟩
      · exact .inl q
      · exact .inr ⟨g, cap, cur, q1, by omega, q3⟩
    refine h2.kept hg2 ?_
    refine .inr fun he => ?_
    have h3 := h.lt
    rw [hk1] at he
    injection he with he
    dsimp only at he
    omega
  · refine hw1.kept hg2 ?_
    cases hv : wv.ownBlock with
    | none => exact .inl rfl
    | some k => exact .inr fun he => by have := hb1.ne hw1 h.ne; rw [hv] at this; exact this he.symm
  · cases hv : wv.ownBlock with
    | none => exact .inl rfl
    | some k =>
      refine .inr fun he => ?_
      have := (h.words.lt _ hv).2
      rw [hk1] at he
      injection he with he
      omega
theorem To.code (h : To T I pre post w B b o cv tv wv s) : w.cell? ⟨b, o, none⟩ = some cv := h.cell (i := 0) (by omega)
theorem To.at_ (h : To T I pre post w B b o cv tv wv s) : w.cell? ⟨b, o + 1, none⟩ = some (.int .i64 s.p) := h.cell (by omega)
theorem To.get (h : To T I pre post w B b o cv tv wv s) {i : Nat} (hi : i < 24) : w.cell? ⟨b, o + 2 + i, none⟩ = some (.int .i64 (s.r i)) := by
  rw [Nat.add_assoc]
  exact (h.cell (by omega)).trans (thC_reg hi)
theorem To.toldv (h : To T I pre post w B b o cv tv wv s) : w.cell? ⟨b, o + 26, none⟩ = some tv := (h.cell (by omega)).trans thC_told
theorem To.some (h : To T I pre post w B b o cv tv wv s) {q : Nat} (hq : q < s.w.length) : ∃ g c x, wv = .slice (Option.some ⟨g, 0, none⟩) s.w.length c ∧ B ≤ g ∧ g < w.heap.size ∧ g ≠ b ∧ w.cell? ⟨g, q, none⟩ = Option.some (.int .i64 x) ∧ Hid (s.w[q]? = Option.some x) ∧ w.frozen? ⟨g, q, none⟩ = false := by
  obtain ⟨g, c, rfl, h1, h2, h3⟩ := own_some h.words (by omega)
  obtain ⟨x, hx, HX, _⟩ := own_val h.words hq
  refine ⟨g, c, x, rfl, h1, h2, ?_, hx, HX, h.words.frozenAt q⟩
  intro he
  have := h.box.ne h.words h.ne
  exact this (by rw [he]; rfl)


end
end Go.Baro

set_option linter.unusedSimpArgs false
set_option linter.unusedVariables false
namespace Go.Baro
open Go.RowKit

theorem grown_setCells : ∀ (cs : List Value) (w : World) (b o : Nat), w.grownBy (w.setCells b o cs) (some b)
  | [], w, b, o => World.grownBy.refl w _
  | v :: cs, w, b, o => grown_trans (grown_setCell w ⟨b, o, none⟩ v) (grown_setCells cs _ b (o + 1))
theorem box_setCells {b : Nat} {T : TypeId} {post : List Value} : ∀ (cs old pre : List Value) (w : World) (o : Nat), Box w b T (pre ++ (old ++ post)) → old.length = cs.length → pre.length = o → Box (w.setCells b o cs) b T (pre ++ (cs ++ post))
  | [], old, pre, w, o, h, hl, ho => by
    have : old = [] := List.eq_nil_of_length_eq_zero (by simpa using hl)
    subst this
    exact h
  | v :: cs, [], pre, w, o, h, hl, ho => by simp at hl
  | v :: cs, u :: old, pre, w, o, h, hl, ho => by
    have h1 := h.set o v
    rw [List.set_append_right _ _ (by omega), ho, Nat.sub_self, List.cons_append, List.set_cons_zero] at h1
    have h2 : Box (w.setCell ⟨b, o, none⟩ v) b T ((pre ++ [v]) ++ (old ++ post)) := by
      rw [List.append_assoc]; exact h1
    have h3 := box_setCells cs old (pre ++ [v]) _ (o + 1) h2 (by simpa using hl) (by simp [ho])
    rw [List.append_assoc] at h3
    exact h3
theorem box_there {w : World} {b o : Nat} {T : TypeId} {pre old post : List Value} (h : Box w b T (pre ++ (old ++ post))) (ho : pre.length = o) : w.there b o old.length := by
  intro j hj
  refine ⟨?_, h.frozen _⟩
  have := h.cell (pre.length + j)
  rw [mid_at hj, ho] at this
  rw [this, List.getElem?_eq_getElem hj]
  rfl
theorem box_range {w : World} {b o : Nat} {T : TypeId} {pre old post : List Value} (h : Box w b T (pre ++ (old ++ post))) (ho : pre.length = o) : w.rangeAt b o old := by
  intro j v hv
  have hj := (List.getElem?_eq_some_iff.1 hv).1
  have := h.cell (pre.length + j)
  rw [mid_at hj, ho] at this
  rw [this, hv]
/-- A struct is stored into the middle of a block. -/
theorem store_mid {P : Program} {ops : Array Oper} {rest : List Oper} {op : Oper} {a : Act} {w : World} {Q : Exit → Act → World → Prop} (hgd : op.guard = none) (hdst : op.dst = none) (ty : TypeId) (x y : Operand) (hop : op.op = .store ty x y)
    (b o : Nat) (cells : List Value) (hx : a.eval x = .pointer (some ⟨b, o, none⟩)) (hy : a.eval y = .agg cells.toArray) (T : TypeId) (pre old post : List Value) (h : Box w b T (pre ++ (old ++ post))) (ho : pre.length = o) (hl : old.length = cells.length)
    (hi : (P.info? ty).map (·.size) = some cells.length) (h1 : ∀ v ∈ cells, v.oneCell' = true) (hK : ∀ w', Hid (Box w' b T (pre ++ (cells ++ post))) → w.grownBy w' (some b) → wpList P ops Q rest a w') : wpList P ops Q (op :: rest) a w := by
  refine wpList_store_mid hgd ty x y hop b o cells.toArray hx hy (by have := box_there h ho; rw [hl] at this; simpa using this) (by simpa using hi) (all_oneCell_toArray h1) ?_
  rw [hdst]
  exact hK _ (box_setCells cells old pre w o h hl ho) (grown_setCells cells w b o)
/-- A struct is read out of the middle of a block. -/
theorem load_mid {P : Program} {ops : Array Oper} {rest : List Oper} {op : Oper} {a : Act} {w : World} {Q : Exit → Act → World → Prop} (hgd : op.guard = none) (ty : TypeId) (x : Operand) (hop : op.op = .load ty x)
    (b o : Nat) (hx : a.eval x = .pointer (some ⟨b, o, none⟩)) (T : TypeId) (pre cells post : List Value) (h : Box w b T (pre ++ (cells ++ post))) (ho : pre.length = o) (d : TypeDesc) (hu : P.underlying ty = some d) (hd : d.isRow = true) (hi : (P.info? ty).map (·.size) = some cells.length)
    (hK : wpList P ops Q rest (a.put op.dst (.agg cells.toArray)) w) : wpList P ops Q (op :: rest) a w :=
  wpList_load_mid hgd ty x hop b o hx cells d (box_range h ho) hu hd hi hK
end Go.Baro

set_option linter.unusedSimpArgs false
set_option linter.unusedVariables false
namespace Go.Proofs.YtnchgdjdfhfedaaDoor
open Go.RowKit Go.Ord Go.Baro

theorem eltCall : Elt Tryd.prog 42 41 (.agg #[.int .i64 0, .slice none 0 0]) 2 32 := Elt.mk' Tryd.underlying42 (by kernel_rfl) rfl (by decide)
theorem eltThr : Elt Tryd.prog 30 42 (.slice none 0 0) 1 24 := Elt.mk' Tryd.underlying30 (by kernel_rfl) rfl (by decide)
/-- The types that change while the calls are written. -/
def tCall (t : TypeId) : Prop := t = 41 ∨ t = 42
theorem tCall_int : ¬ tCall 3 := by unfold tCall; decide
theorem tCall_op : ¬ tCall 73 := by unfold tCall; decide
theorem tCall_code : ¬ tCall 24 := by unfold tCall; decide
theorem tCall_mach : ¬ tCall 32 := by unfold tCall; decide
end Go.Proofs.YtnchgdjdfhfedaaDoor

set_option linter.unusedSimpArgs false
set_option linter.unusedVariables false
namespace Go.Proofs.YtnchgdjdfhfedaaDoor
open Go.RowKit Go.Ord Go.Baro

theorem tmod_pick (a n : Int) (hn : 0 < n) : (if a.tmod n < 0 then a.tmod n + n else a.tmod n) = a % n := by
  have h1 := Int.tmod_eq_emod (a := a) (b := n)
  have h2 := Int.emod_nonneg a (show n ≠ 0 by omega)
  have h3 := Int.emod_lt_of_pos a hn
  rw [h1]
  split <;> split <;> omega

theorem keep_Picked (a n : Int) (w : World) (hn : 0 < n) (hn1 : n ≤ 4611686018427387904) :
    Calls Tryd.prog 18 #[.int .i64 a, .int .i64 n] w fun e w' => e = .returned (.int .i64 (a % n)) ∧ w = w' := by
  have HT := Lib.hid (tmod_pick a n hn)
  have hb1 : -n < a.tmod n := Int.lt_tmod_of_pos a hn
  have hb2 : a.tmod n < n := Int.tmod_lt_of_pos a hn
  have hne : (n == 0) = false := by simp; omega
  by_cases h : a.tmod n < 0
  · go_enter Tryd.func18, Tryd.ntmps18
    go_wp2
    go_ret
    refine ⟨ret_int ?_, rfl⟩
    have := HT.out
    rw [if_pos h] at this
    exact this
  · go_enter Tryd.func18, Tryd.ntmps18
    go_wp2
    go_ret
    refine ⟨ret_int ?_, rfl⟩
    have := HT.out
    rw [if_neg (by omega)] at this
    exact this
end Go.Proofs.YtnchgdjdfhfedaaDoor
