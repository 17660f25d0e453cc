/- Of this claim's own texts these, one behind the other: KeepRan, MachT. No statement of the seat is proved here; no condition but those that stand at the theorems. -/
import Derived.Test.YtjihopbapnfppabDoorPartAI
import Derived.Test.YtjihopbapnfppabDoorPartAJ
import Derived.Test.YtjihopbapnfppabDoorRows
import Derived.Test.YtjihopbapnfppabDoorPartAD
set_option linter.unusedSimpArgs false
set_option linter.unusedVariables false
namespace Go.Proofs.YtjihopbapnfppabDoor
open Go.RowKit Go.Ord Go.Baro

theorem eltDoing : Elt Tryd.prog 40 44 (.agg #[.int .i64 0, .int .i64 0, .int .i64 0, .int .i64 0, .slice none 0 0]) 5 56 := Elt.mk' Tryd.underlying40 (by kernel_rfl) rfl (by decide)
theorem own_pos {w : World} {B n s : Nat} {e : TypeId} {v : Value} {xs : List Value} (h : w.ownsRow B e s v n xs) (hn : 0 < n) : ∃ g c, v = .slice (some ⟨g, 0, none⟩) n c ∧ B ≤ g ∧ n ≤ c ∧ g < w.heap.size := by
  rcases h.2 with ⟨_, rfl⟩ | ⟨g, cap, cur, rfl, hb, hh, hc, _⟩
  · omega
  · exact ⟨g, cap, rfl, hb, hc, (Array.getElem?_eq_some_iff.1 hh).1⟩
/-- What ran leaves, where no call ends with an error. -/
def RanPost (T : List Ev) (w : World) (e : Ending) (w' : World) : Prop := ∃ A n c L, e = .returned (.tuple #[.slice A n c, .bool true]) ∧ n ≤ c ∧ n ≤ 12000 ∧ Hid (L.map Prod.fst = dgs T) ∧ RDg w' w'.heap.size A n L ∧ Below w.heap.size w w'
set_option maxRecDepth 100000 in
set_option maxHeartbeats 2000000 in
theorem keep_ran (hP : PlaySpec) (w : World) (hT : Tab w) (Aw : Option Addr) (nw cw : Nat) (Ac : Option Addr) (nc cc : Nat) (At : Option Addr) (nt ct : Nat) (m : Mc) (As : Option Addr) (ns cs : Nat) (s : List Int) (T : List Ev) (W : List Int) (hm : InM w Aw nw cw Ac nc cc At nt ct m)
    (hs : RI w w.heap.size .i64 As ns s) (hn : ns ≤ 6000) (hR : PlR m s T W 0) (hok : rnOk T) : Calls Tryd.prog 14 #[.agg #[.slice Aw nw cw, .slice Ac nc cc, .slice At nt ct], .slice As ns cs] w (RanPost T w) := by
  have HP := Lib.hid hP
  have HT := Lib.hid hT
  have HR := Lib.hid hR
  have HOK := Lib.hid hok
  have hA := (Below.refl w.heap.size w).alloc (Nat.le_refl _) (Obj.cells #[.slice Aw nw cw, .slice Ac nc cc, .slice At nt ct] 36)
  have HM := Lib.hid (hm.below hA)
  have hs2 := (hs.below hA).more hA.size
  have bX := Box.newAt w 36 [.slice Aw nw cw, .slice Ac nc cc, .slice At nt ct] w.heap.size rfl
  clear hP hT hR hok hm hs
  go_enter Tryd.func14, Tryd.ntmps14
  have x0 := bX.cell 0
  have x1 := bX.cell 1
  have x2 := bX.cell 2
  simp only [List.getElem?_cons_zero, List.getElem?_cons_succ] at x0 x1 x2
  obtain ⟨wA, hwA⟩ : ∃ wA, wA = w.alloc (Obj.cells #[.slice Aw nw cw, .slice Ac nc cc, .slice At nt ct] 36) := ⟨_, rfl⟩
  rw [← hwA] at hA hs2 x0 x1 x2
  have HWA := Lib.hid hwA
  go_wp2
  rw [← HWA.out]
  clear bX hwA
  refine region_first [0, 1] (.cons 2 (seq [3, 4, 5, 6, 7, 8, 9, 10] .nil)) (by kernel_rfl) (by kernel_rfl) ?_
  simp only [pick, List.map_cons, List.map_nil, List.getD_cons_zero, List.getD_cons_succ]
  go_wp2
  refine ord_call (by kernel_rfl) ?_
  simp only [pick, List.map_cons, List.map_nil, List.getD_cons_zero, List.getD_cons_succ]
  go_wp2_with (at_builtin; go_must (refine app_src eltIntS wA.drew rfl _ _ rfl wA.heap.size _ 0 [] rfl (World.ownsRow_nil _ _ _ _) As ns _ (s.map (Value.int .i64)) rfl wA.heap.size (by exact Rd.heap hs2 rfl) (one_ints _ _) (by omega) (by omega) (Nat.le_refl _) ?_); intro v3 w3 hv3 hg3 hbel3 hsz3)
  have hb3 : Below wA.heap.size wA w3 := hbel3 wA (Below.refl _ _).drew
  rw [List.nil_append, Nat.zero_add] at hv3
  obtain ⟨A4, c4, rfl, hlc4⟩ := own_form hv3
  refine ⟨fun k hk => hb3.block k hk, ?_⟩
  have hr4 : RI w3 w3.heap.size .i64 A4 ns s := Rd.of_own hv3
  have hbC := hA.trans (hb3.mono hA.size)
  have HM3 : Hid (InM w3 Aw nw cw Ac nc cc At nt ct m) := by
    have := HM.out
    rw [← HWA.out] at this
    exact this.below hb3
  clear hv3 hg3 hbel3 x0 x1 x2 hs2
  refine ord_last [3, 4, 5, 6, 7, 8, 9, 10] (by kernel_rfl) ?_
  simp only [pick, List.map_cons, List.map_nil, List.getD_cons_zero, List.getD_cons_succ]
  go_wp2_with fail
  refine (HP.out w3 (HT.out.below hbC HT.out.lt) Aw nw cw Ac nc cc At nt ct m A4 ns c4 s T W 0 HM3.out hr4 (by omega) HR.out).mono ?_
  rintro e w4 ⟨B1, m1, d1, B2, m2, d2, rfl, hr1, hr2, hl1, hl2, hm1, hm2, hb4⟩
  have hbD := hbC.trans (hb4.mono hbC.size)
  have hT4 := Lib.hid (HT.out.below hbD HT.out.lt)
  have LT := Lib.hid hr1.len
  clear hr2 hr4 HM3 HM HR hb4 hbC hb3 hA
  have hI0 : OwnD w4 w4.heap.size 44 (.slice none 0 0) 0 [] := World.ownsRow_nil _ _ _ _
  go_wp2
  go_loopw [9, 10] (fun v i wr => ∃ (j n : Nat) (L : List (Dg × Value)), j ≤ m1 ∧ n ≤ j ∧ i = .int .i64 j ∧ Hid (L.map Prod.fst = dgs (T.take j)) ∧ OwnD wr w4.heap.size 44 v n L ∧ Hid (∀ p ∈ L, tld wr w4.heap.size p) ∧ Below w4.heap.size w4 wr) (fun _ i _ => m1 - (intOf i).toNat)
  case atStart => exact ⟨0, 0, [], Nat.zero_le _, Nat.le_refl _, rfl, rfl, hI0, (fun p hp => by cases hp), Below.refl _ _⟩
  case round =>
    obtain ⟨j, n, L, hj, hnj, rfl, HL, hown, HTL, hbel⟩ := hrel
    have hsz := hbel.size
    by_cases hjm : j < m1
    · obtain ⟨b, o, A5, n5, k5, x, rfl, hbB, d0, d1', d2, d3, d4, d5, hlk, hn5, hri0, HX, hmem⟩ := hr1.val hjm
      have q0 := (hbel.cell (p := ⟨b, o + j * 6, none⟩) hbB).trans d0
      have q1 := (hbel.cell (p := ⟨b, o + j * 6 + 1, none⟩) hbB).trans d1'
      have q2 := (hbel.cell (p := ⟨b, o + j * 6 + 2, none⟩) hbB).trans d2
      have q3 := (hbel.cell (p := ⟨b, o + j * 6 + 3, none⟩) hbB).trans d3
      have hend := HOK.out j x HX.out
      have HTK : Hid (T.take (j + 1) = T.take j ++ [x]) := at_take HX.out
      cases hen : x.en with
      | false =>
        rw [hen] at q3
        have HD : Hid (dgs (T.take (j + 1)) = dgs (T.take j) ++ [⟨x.st, -1, x.th, x.cl, []⟩]) := by
          show _ = _
          rw [HTK.out, dgs_snoc, dg1_begin _ _ hen]
        obtain ⟨st, th, cl, en, er, to⟩ := x
        dsimp only at q0 q1 q2 q3 HD
        clear hend hmem HX HTK hen d0 d1' d2 d3 d4 d5 hri0
        go_wp2
        refine region_two [0, 1, 2, 3, 4, 5, 6, 7, 8, 9, 10, 11, 12, 13, 14, 15, 16] [17, 18, 19] (by kernel_rfl) (by kernel_rfl) ?_
        simp only [pick, List.map_cons, List.map_nil, List.getD_cons_zero, List.getD_cons_succ]
        go_wp2_with (at_builtin; go_must (refine app_litd eltDoing wr rfl _ _ rfl w4.heap.size _ n _ rfl (by exact hown) 1 [.int .i64 st, .int .i64 (-1), .int .i64 th, .int .i64 cl, .slice none 0 0] wr.heap.size rfl rfl rfl (by intro u hu; simp only [List.mem_cons, List.not_mem_nil, or_false] at hu; rcases hu with rfl | rfl | rfl | rfl | rfl <;> rfl) (by omega) (by omega) hsz ?_); intro v3 w5 hown3 hgr3 hbel3 _)
        have hbel5 := hbel3 _ hbel
        refine ⟨⟨j + 1, n + 1, L ++ [(⟨st, -1, th, cl, []⟩, .slice none 0 0)], by omega, by omega, by go_num, ?_, ?_, ?_, hbel5⟩, by simp [intOf]; omega⟩
        · show _ = _
          rw [List.map_append, HL.out, HD.out]; rfl
        · unfold OwnD
          rw [List.flatMap_append]
          exact hown3
        · intro p hp
          rcases List.mem_append.1 hp with hp | hp
          · obtain ⟨A, n', k, t1, t2, t3, t4⟩ := HTL.out p hp
            exact ⟨A, n', k, t1, t2, t3, Rd.keep t4 fun b' o' hb' => (hbel5.cell (p := ⟨b', o', none⟩) hb').trans (hbel.cell (p := ⟨b', o', none⟩) hb').symm⟩
          · rw [List.mem_singleton.1 hp]
            exact ⟨none, 0, 0, rfl, Nat.le_refl _, by omega, RI.nil _ _ _ _⟩
      | true =>
        rw [hen] at q3
        obtain ⟨her, dq, hdq, his⟩ := hend hen
        have HD : Hid (dgs (T.take (j + 1)) = (dgs (T.take j)).map (fun d => d.fin x)) := by
          show _ = _
          rw [HTK.out, dgs_snoc, dg1_end _ _ hen]
        have hn0 : 0 < n := by
          rw [← OwnD.len hown, ← List.length_map (f := Prod.fst), HL.out]
          exact List.length_pos_of_mem hdq
        obtain ⟨g, c9, rfl, hBg, hc9, hgl⟩ := own_pos hown hn0
        have HF : Hid (∃ p ∈ L, p.1.is x) := by
          rw [← HL.out] at hdq
          obtain ⟨p, hp, rfl⟩ := List.mem_map.1 hdq
          exact ⟨p, hp, his⟩
        have hI1 : OwnD wr w4.heap.size 44 (.slice (some ⟨g, 0, none⟩) n c9) n (finK x (.slice A5 n5 k5) 0 L) := by rw [finK_zero]; exact hown
        have hne : b ≠ g := by omega
        have LL := Lib.hid (OwnD.len hown)
        clear hend hmem HTK hen hdq his hown
        obtain ⟨wo, rfl⟩ : ∃ wo, wo = wr := ⟨wr, rfl⟩
        go_wp2
        go_loopw [11, 12] (fun f i wr => ∃ (k : Nat) (fb : Bool), k ≤ n ∧ i = .int .i64 k ∧ f = .bool fb ∧ Hid (fb = true ↔ ∃ p ∈ L.take k, p.1.is x) ∧ OwnD wr w4.heap.size 44 (.slice (some ⟨g, 0, none⟩) n c9) n (finK x (.slice A5 n5 k5) k L) ∧ Below w4.heap.size w4 wr) (fun _ i _ => n - (intOf i).toNat)
        case atStart => exact ⟨0, false, Nat.zero_le _, rfl, rfl, (by show _ ↔ _; simp), hI1, hbel⟩
        case round =>
          obtain ⟨k, fb, hk, rfl, rfl, HFB, hown, hbel2⟩ := hrel
          have z0 := (hbel2.cell (p := ⟨b, o + j * 6, none⟩) hbB).trans d0
          have z1 := (hbel2.cell (p := ⟨b, o + j * 6 + 1, none⟩) hbB).trans d1'
          have z2 := (hbel2.cell (p := ⟨b, o + j * 6 + 2, none⟩) hbB).trans d2
          have z3 := (hbel2.cell (p := ⟨b, o + j * 6 + 3, none⟩) hbB).trans d3
          have z4 := (hbel2.cell (p := ⟨b, o + j * 6 + 4, none⟩) hbB).trans d4
          have z5 := (hbel2.cell (p := ⟨b, o + j * 6 + 5, none⟩) hbB).trans d5
          by_cases hkn : k < n
          · obtain ⟨p, HP1, hpm, c0, c1, c2, c3, c4, f1, f4⟩ := hown.val hkn
            have HPL : Hid (L[k]? = some p) := by have := HP1.out; rwa [finK_at] at this
            have HTA : Hid (L.take (k + 1) = L.take k ++ [p]) := at_take HPL.out
            have HOW := Lib.hid hown
            have HTH := Lib.hid (show ∀ q : Dg, q.is x ↔ q.th = x.th ∧ q.cl = x.cl ∧ q.e = -1 from fun q => Iff.rfl)
            clear hpm HP1 hown
            by_cases h1 : p.1.th = x.th
            · have HH1 := Lib.hid h1
              have e1 : ((p.1.th : Int) == (x.th : Int)) = true := by simp [h1]
              by_cases h2 : p.1.cl = x.cl
              · have HH2 := Lib.hid h2
                have e2 : ((p.1.cl : Int) == (x.cl : Int)) = true := by simp [h2]
                by_cases h3 : p.1.e = -1
                · have HH3 := Lib.hid h3
                  have e3 : (p.1.e == -1) = true := by simp [h3]
                  have HIS : Hid (p.1.is x) := ⟨h1, h2, h3⟩
                  have HOW2 := Lib.hid (OwnD.fin HOW.out (i := k) (p := p) (by rw [finK_at]; exact HPL.out) x.st x.to (.slice A5 n5 k5))
                  clear h1 h2 h3
                  go_wp2
                  refine region_two [0, 1, 2, 3, 4, 5, 6, 7, 8, 9, 10, 11, 12, 13, 14, 15, 16, 17, 18, 19, 20, 21, 22, 23, 24, 25, 26, 27, 28, 29, 30, 31] [] (by kernel_rfl) (by kernel_rfl) ?_
                  simp only [pick, List.map_cons, List.map_nil, List.getD_cons_zero, List.getD_cons_succ]
                  go_wp2
                  refine ⟨⟨k + 1, true, by omega, by go_num, rfl, ?_, ?_, (below_at (below_at hbel2 hBg _ _) hBg _ _).drew⟩, by simp [intOf]; omega⟩
                  · show _ ↔ _
                    rw [HTA.out]
                    exact ⟨fun _ => ⟨p, by simp, HIS.out⟩, fun _ => rfl⟩
                  · rw [finK_succ HPL.out]
                    unfold finP
                    rw [if_pos HIS.out]
                    exact HOW2.out
                · have HH3 := Lib.hid h3
                  have e3 : (p.1.e == -1) = false := by simp [h3]
                  clear h1 h2 h3
                  have HNO : Hid (¬ p.1.is x) := fun h => HH3.out h.2.2
                  go_wp2
                  refine region_two [0, 1, 2, 3, 4, 5, 6, 7, 8, 9, 10, 11, 12, 13, 14, 15, 16, 17, 18, 19, 20, 21, 22, 23, 24, 25, 26, 27, 28, 29, 30, 31] [] (by kernel_rfl) (by kernel_rfl) ?_
                  simp only [pick, List.map_cons, List.map_nil, List.getD_cons_zero, List.getD_cons_succ]
                  go_wp2
                  go_roundw
                  case rel =>
                    refine ⟨k + 1, fb, by omega, by go_num, rfl, ?_, by rw [finK_skip HPL.out HNO.out]; exact HOW.out, hbel2.drew⟩
                    show _ ↔ _
                    rw [HTA.out, HFB.out]
                    constructor
                    · rintro ⟨q, hq, h⟩; exact ⟨q, by simp [hq], h⟩
                    · rintro ⟨q, hq, h⟩
                      rcases List.mem_append.1 hq with hq | hq
                      · exact ⟨q, hq, h⟩
                      · rw [List.mem_singleton.1 hq] at h; exact absurd h HNO.out
                  case measure => simp [intOf]; omega
              · have HH2 := Lib.hid h2
                have e2 : ((p.1.cl : Int) == (x.cl : Int)) = false := by simp; omega
                clear h1 h2
                have HNO : Hid (¬ p.1.is x) := fun h => HH2.out h.2.1
                go_wp2
                refine region_two [0, 1, 2, 3, 4, 5, 6, 7, 8, 9, 10, 11, 12, 13, 14, 15, 16, 17, 18, 19, 20, 21, 22, 23, 24, 25, 26, 27, 28, 29, 30, 31] [] (by kernel_rfl) (by kernel_rfl) ?_
                simp only [pick, List.map_cons, List.map_nil, List.getD_cons_zero, List.getD_cons_succ]
                go_wp2
                go_roundw
                case rel =>
                  refine ⟨k + 1, fb, by omega, by go_num, rfl, ?_, by rw [finK_skip HPL.out HNO.out]; exact HOW.out, hbel2.drew⟩
                  show _ ↔ _
                  rw [HTA.out, HFB.out]
                  constructor
                  · rintro ⟨q, hq, h⟩; exact ⟨q, by simp [hq], h⟩
                  · rintro ⟨q, hq, h⟩
                    rcases List.mem_append.1 hq with hq | hq
                    · exact ⟨q, hq, h⟩
                    · rw [List.mem_singleton.1 hq] at h; exact absurd h HNO.out
                case measure => simp [intOf]; omega
            · have HH1 := Lib.hid h1
              have e1 : ((p.1.th : Int) == (x.th : Int)) = false := by simp; omega
              clear h1
              have HNO : Hid (¬ p.1.is x) := fun h => HH1.out h.1
              go_wp2
              refine region_two [0, 1, 2, 3, 4, 5, 6, 7, 8, 9, 10, 11, 12, 13, 14, 15, 16, 17, 18, 19, 20, 21, 22, 23, 24, 25, 26, 27, 28, 29, 30, 31] [] (by kernel_rfl) (by kernel_rfl) ?_
              simp only [pick, List.map_cons, List.map_nil, List.getD_cons_zero, List.getD_cons_succ]
              go_wp2
              go_roundw
              case rel =>
                refine ⟨k + 1, fb, by omega, by go_num, rfl, ?_, by rw [finK_skip HPL.out HNO.out]; exact HOW.out, hbel2.drew⟩
                show _ ↔ _
                rw [HTA.out, HFB.out]
                constructor
                · rintro ⟨q, hq, h⟩; exact ⟨q, by simp [hq], h⟩
                · rintro ⟨q, hq, h⟩
                  rcases List.mem_append.1 hq with hq | hq
                  · exact ⟨q, hq, h⟩
                  · rw [List.mem_singleton.1 hq] at h; exact absurd h HNO.out
              case measure => simp [intOf]; omega
          · obtain rfl : n = k := by omega
            have hfb : fb = true := HFB.out.2 (by rw [List.take_of_length_le (by rw [LL.out]; omega)]; exact HF.out)
            subst hfb
            have HE := Lib.hid her
            have z4' : wr.cell? ⟨b, o + j * 6 + 4, none⟩ = some (.int .i64 0) := by rw [z4, her]
            have HOW := Lib.hid hown
            clear z4 hown her
            go_wp2
            go_roundw
            case rel =>
              refine ⟨j + 1, n, finK x (.slice A5 n5 k5) n L, by omega, by omega, by go_num, ?_, HOW.out, ?_, hbel2⟩
              · show _ = _
                rw [finK_all (by rw [LL.out]; omega), HL.out, HD.out]
              · intro p hp
                rcases finK_mem hp with hp | ⟨h1, h2⟩
                · obtain ⟨A, n', k, t1, t2, t3, t4⟩ := HTL.out p hp
                  exact ⟨A, n', k, t1, t2, t3, Rd.keep t4 fun b' o' hb' => (hbel2.cell (p := ⟨b', o', none⟩) hb').trans (hbel.cell (p := ⟨b', o', none⟩) hb').symm⟩
                · exact ⟨A5, n5, k5, h1, hlk, hn5, by rw [h2]; exact hri0.below hbel2⟩
            case measure => simp [intOf]; omega
    · obtain rfl : m1 = j := by omega
      obtain ⟨A9, c9, rfl, hc9⟩ := own_form hown
      have HOW := Lib.hid hown
      have hT5 := hT4.out.below hbel hT4.out.lt
      clear hown
      go_wp2_with fail
      refine (keep_runSure HP.out wr hT5).mono ?_
      rintro e w6 ⟨rfl, hb6⟩
      have hb7 := hbel.trans (hb6.mono hsz)
      go_wp2
      go_ret2
      refine ⟨A9, n, c9, L, rfl, hc9, by omega, ?_, ?_, hbD.trans (hb7.mono hbD.size)⟩
      · show _ = _
        rw [HL.out, List.take_of_length_le (by rw [LT.out]; omega)]
      · refine ⟨Rd.more (Rd.below (Rd.of_own HOW.out) hb6) hb6.size, fun p hp => ?_⟩
        obtain ⟨A, n', k, t1, t2, t3, t4⟩ := HTL.out p hp
        exact ⟨A, n', k, t1, t2, t3, RI.more (Rd.keep t4 fun b' o' hb' => (hb7.cell (p := ⟨b', o', none⟩) hb').trans (hbel.cell (p := ⟨b', o', none⟩) hb').symm) hb7.size⟩
end Go.Proofs.YtjihopbapnfppabDoor

set_option linter.unusedSimpArgs false
set_option linter.unusedVariables false
namespace Go.Proofs.YtjihopbapnfppabDoor
open Go.RowKit Go.Ord Go.Baro

theorem eltCall : Elt Tryd.prog 50 49 (.agg #[.int .i64 0, .slice none 0 0]) 2 32 := Elt.mk' Tryd.underlying50 (by kernel_rfl) rfl (by decide)
theorem eltThr : Elt Tryd.prog 34 50 (.slice none 0 0) 1 24 := Elt.mk' Tryd.underlying34 (by kernel_rfl) rfl (by decide)
/-- The types that change while the calls are written. -/
def tCall (t : TypeId) : Prop := t = 49 ∨ t = 50
theorem tCall_int : ¬ tCall 3 := by unfold tCall; decide
theorem tCall_op : ¬ tCall 65 := by unfold tCall; decide
theorem tCall_code : ¬ tCall 26 := by unfold tCall; decide
theorem tCall_mach : ¬ tCall 36 := by unfold tCall; decide
end Go.Proofs.YtjihopbapnfppabDoor
