/- Of this claim's own texts these, one behind the other: KeepCellEP, AsmPure. No statement of the seat is proved here; no condition but those that stand at the theorems. -/
import Derived.Test.YtjihopbapnfppabDoorPartAM
import Derived.Test.YtjihopbapnfppabDoorPartAA
set_option linter.unusedSimpArgs false
set_option linter.unusedVariables false
namespace Go.Proofs.YtjihopbapnfppabDoor
open Go.RowKit Go.Ord Go.Baro

set_option maxRecDepth 100000 in
set_option maxHeartbeats 2000000 in
theorem keep_CellEndsP (c : Cc) (hc : c.Ok) (hgood : CellEnds c) (hM : MaySpec) (hPl : PlaySpec) (hW : CellWordsSpec c) (hP : CellCodeSpec 8 c.cp) (hG : CellCodeSpec 9 c.cg) (w : World) (hT : Tab w)
    (x0 : Int) (r0 : -9223372036854775808 ≤ x0 ∧ x0 ≤ 9223372036854775807)
    (A1 : Option Addr) (n1 c1 : Nat) (x1 : List Int) (h1 : RI w w.heap.size .u8 A1 n1 x1) (b1 : n1 ≤ 140737488351232) (r1 : ∀ x ∈ x1, 0 ≤ x ∧ x < 256) (_ : n1 ≤ c1) :
    Calls Tryd.prog 5 #[.int .i64 x0, .slice A1 n1 c1] w fun e w' => e = .returned (.bool true) ∧ Below w.heap.size w w' := by
  have HPl := Lib.hid hPl
  have HT := Lib.hid hT
  have HR1 := Lib.hid r1
  have HCM := Lib.hid (keep_cellMachine c hc hM hW hP hG)
  have HGood := Lib.hid hgood
  have HC := Lib.hid hc
  clear hPl hT r1 hM hW hP hG hgood hc
  obtain ⟨d, hd⟩ : ∃ d : Nat, (d : Int) = 1 + x0 % 6 := ⟨(1 + x0 % 6).toNat, by omega⟩
  have hd1 : 1 ≤ d := by omega
  have hd6 : d ≤ 6 := by omega
  go_enter Tryd.func5, Tryd.ntmps5
  go_wp2_with fail
  refine (keep_Picked x0 6 w (by omega) (by omega)).mono ?_
  rintro e w' ⟨rfl, rfl⟩
  obtain ⟨y0, hy0⟩ : ∃ y0, y0 = x0 % 6 := ⟨_, rfl⟩
  rw [← hy0] at hd ⊢
  have hyd : y0 = (d : Int) - 1 := by omega
  clear hy0 hd
  subst hyd
  have hdd : (1 + ((d : Int) - 1)) = (d : Int) := by omega
  go_wp2_with fail
  refine (HCM.out w HT.out d 12 8 hd1 hd6 (by omega) (by omega)).mono ?_
  rintro e w1 ⟨Aw, nw, cw, gc, g6, B6, tg, ts, rfl, hcm1, hmg1, _, hb1⟩
  have hin1 := hcm1.inM HC.out hd1 hd6 hmg1 (cm_th hd6 (by omega) (by omega))
  clear hcm1 hmg1
  have hs1 := hb1.size
  have hA2 := (Below.refl w1.heap.size w1).alloc (Nat.le_refl _) (Obj.cells #[.slice Aw nw cw, .slice (some ⟨gc, 0, none⟩) 2 2, .slice (some ⟨g6, 0, none⟩) 4 4] 36)
  have bX := Box.newAt w1 36 [.slice Aw nw cw, .slice (some ⟨gc, 0, none⟩) 2 2, .slice (some ⟨g6, 0, none⟩) 4 4] w1.heap.size rfl
  have hb2 := hb1.trans (hA2.mono hs1)
  have HIN2 := Lib.hid (hin1.below hA2)
  have lX := bX.lt
  clear hin1
  go_wp2_with fail
  refine (keep_ScheduleG x1 A1 n1 c1 _ 4 1000 (by omega) (by omega) (by omega) ((h1.below hb2).more hb2.size) (by omega) HR1.out).mono ?_
  rintro e w3 ⟨v3, ns, rfl, hown3, hns, hb3⟩
  obtain ⟨S, hS⟩ : ∃ S, S = schG 4 1000 x1 := ⟨_, rfl⟩
  have hSl : S.length = ns := by rw [hS]; have := hown3.1; rw [List.length_map, Nat.mul_one] at this; exact this
  have HSI : Hid (∀ x ∈ S, 0 ≤ x ∧ x < 4) := fun x hx => schG_in (k := 4) (by omega) (hS ▸ hx)
  rw [← hS] at hown3
  have HSL := Lib.hid hSl
  have hI0 : w3.ownsRow (w1.alloc (Obj.cells #[.slice Aw nw cw, .slice (some ⟨gc, 0, none⟩) 2 2, .slice (some ⟨g6, 0, none⟩) 4 4] 36)).heap.size 3 1 v3 (ns + 0) ((S ++ List.replicate 0 0).map (Value.int .i64)) := by simpa using hown3
  obtain ⟨wM, hwM⟩ : ∃ wM, wM = w1.alloc (Obj.cells #[.slice Aw nw cw, .slice (some ⟨gc, 0, none⟩) 2 2, .slice (some ⟨g6, 0, none⟩) 4 4] 36) := ⟨_, rfl⟩
  rw [← hwM] at hI0 hb3 bX hb2 HIN2 lX
  clear hS hSl hown3 hwM hA2
  go_wp2
  go_loopw [8, 9] (fun v i wr => ∃ j : Nat, j ≤ 80 ∧ i = .int .i64 j ∧ wr.ownsRow wM.heap.size 3 1 v (ns + j) ((S ++ List.replicate j 0).map (Value.int .i64)) ∧ Below wM.heap.size wM wr) (fun _ i _ => 80 - (intOf i).toNat)
  case atStart => exact ⟨0, by omega, rfl, hI0, hb3⟩
  case round =>
    clear hI0 hb3
    obtain ⟨j, hj, rfl, hown, hbel⟩ := hrel
    have hsz := hbel.size
    by_cases hj8 : j < 80
    · go_wp2_with (at_builtin; go_must (refine app_lit eltIntS wr rfl _ _ rfl wM.heap.size _ (ns + j) _ rfl (by exact hown) 1 [.int .i64 0] wr.heap.size rfl rfl rfl (one_ints _ [0]) (by omega) (by omega) hsz ?_); intro v5 w5 own5 g5 hbel5 _)
      go_roundw
      case rel =>
        refine ⟨j + 1, by omega, by go_num, ?_, hbel5 _ hbel⟩
        rw [List.replicate_succ', ← List.append_assoc, List.map_append]
        exact own5
      case measure => simp [intOf]; omega
    · have hj80 : j = 80 := by omega
      have HJ := Lib.hid hj80
      obtain ⟨AS, cS, rfl, hcS⟩ := own_form hown
      have hI1 : wr.ownsRow wM.heap.size 3 1 (.slice AS (ns + j) cS) (ns + j + 0) ((S ++ List.replicate j 0 ++ List.replicate 0 1).map (Value.int .i64)) := by simpa using hown
      clear hown hj80
      go_wp2
      go_loopw [8, 11] (fun v i wr => ∃ k : Nat, k ≤ 80 ∧ i = .int .i64 k ∧ wr.ownsRow wM.heap.size 3 1 v (ns + j + k) ((S ++ List.replicate j 0 ++ List.replicate k 1).map (Value.int .i64)) ∧ Below wM.heap.size wM wr) (fun _ i _ => 80 - (intOf i).toNat)
      case atStart => exact ⟨0, by omega, rfl, hI1, hbel⟩
      case round =>
        clear hI1 hbel hsz
        obtain ⟨k, hk, rfl, hown, hbel⟩ := hrel
        have hsz := hbel.size
        by_cases hk8 : k < 80
        · go_wp2_with (at_builtin; go_must (refine app_lit eltIntS wr rfl _ _ rfl wM.heap.size _ (ns + j + k) _ rfl (by exact hown) 1 [.int .i64 1] wr.heap.size rfl rfl rfl (one_ints _ [1]) (by omega) (by omega) hsz ?_); intro v5 w5 own5 g5 hbel5 _)
          go_roundw
          case rel =>
            refine ⟨k + 1, by omega, by go_num, ?_, hbel5 _ hbel⟩
            rw [List.replicate_succ', ← List.append_assoc, List.map_append]
            exact own5
          case measure => simp [intOf]; omega
        · obtain ⟨As, cs, rfl, hlcs⟩ := own_form hown
          obtain ⟨S2, hS2⟩ : ∃ S2, S2 = endS S := ⟨_, rfl⟩
          have hk80 : k = 80 := by omega
          have hSS : S ++ List.replicate j 0 ++ List.replicate k 1 = S2 := by rw [hS2, HJ.out, hk80]; rfl
          rw [hSS] at hown
          obtain ⟨n2, hn2⟩ : ∃ n2, n2 = ns + j + k := ⟨_, rfl⟩
          have HN2 := Lib.hid hn2
          rw [← hn2] at hown ⊢
          have hn2b : n2 ≤ 1160 := by omega
          have hrs : RI wr wr.heap.size .i64 As n2 S2 := Rd.of_own hown
          have hb4 := hb2.trans (hbel.mono hb2.size)
          have bX3 := bX.below hbel lX
          have HIN3 := Lib.hid (HIN2.out.below hbel)
          have z0 : wr.cell? ⟨w1.heap.size, 0, none⟩ = _ := bX3.cell 0
          have z1 : wr.cell? ⟨w1.heap.size, 1, none⟩ = _ := bX3.cell 1
          have z2 : wr.cell? ⟨w1.heap.size, 2, none⟩ = _ := bX3.cell 2
          simp only [List.getElem?_cons_zero, List.getElem?_cons_succ] at z0 z1 z2
          have lX3 := bX3.lt
          have hok := mCell_ok HC.out hd1 hd6 (puts := 12) (gets := 8) (by omega) (by omega)
          have hSi : ∀ x ∈ S2, 0 ≤ x ∧ x < 4 := fun x hx => by
            rw [hS2] at hx
            rcases List.mem_append.1 hx with hx | hx
            · rcases List.mem_append.1 hx with hx | hx
              · exact HSI.out x hx
              · rw [List.eq_of_mem_replicate hx]; omega
            · rw [List.eq_of_mem_replicate hx]; omega
          have hR := plR_fine hok (S := S2) (by rw [hrs.len]; omega) (fun x hx => by have := hSi x hx; simpa [mCell] using this)
          obtain ⟨hne, hE⟩ := HGood.out d S hd1 hd6 (by rw [HSL.out]; exact hns) HSI.out
          rw [← hS2] at hne hE
          have hrn := rn_ply _ hne
          obtain ⟨T, hT⟩ : ∃ T, T = (plyG (mCell c d 12 8) 0 (S2.map Int.toNat) (g0 (mCell c d 12 8))).out := ⟨_, rfl⟩
          obtain ⟨W, hW⟩ : ∃ W, W = (plyG (mCell c d 12 8) 0 (S2.map Int.toNat) (g0 (mCell c d 12 8))).w := ⟨_, rfl⟩
          have hHs := hs_ply (mCell c d 12 8) (S2.map Int.toNat)
          have hbnd : ∀ x ∈ dgs T, x.b ≤ 6000 ∧ (x.e = -1 ∨ 0 ≤ x.e) := fun x hx => by
            rw [hT] at hx
            obtain ⟨h1, h2⟩ := hHs.bnd x hx
            rw [List.length_map, hrs.len] at h1
            refine ⟨by omega, ?_⟩
            by_cases he : x.e = -1
            · exact .inl he
            · exact .inr (by have := h2 he; omega)
          rw [← hT, ← hW] at hR
          rw [← hT] at hE hrn
          have HR := Lib.hid hR
          have HE := Lib.hid hE
          have HRN := Lib.hid hrn
          have HS2 := Lib.hid hS2
          clear hR hE hrn hne hT hW hSi hS2 hok hHs hown hk80 hSS hn2
          go_wp2_with fail
          refine (keep_ran HPl.out wr (HT.out.below hb4 HT.out.lt) Aw nw cw _ 2 2 _ 4 4 (mCell c d 12 8) As n2 cs S2 T W HIN3.out hrs (by omega) HR.out HRN.out).mono ?_
          rintro e w4 ⟨A4, n4, c4, L, rfl, hlc4, hn4, HL, hD, hb5⟩
          have hb6 := hb4.trans (hb5.mono hb4.size)
          have hrs4 := (hrs.below hb5).more hb5.size
          obtain ⟨D, hDD⟩ : ∃ D, D = dgs T := ⟨_, rfl⟩
          rw [← hDD] at HL HE hbnd
          have LD := Lib.hid (show D.length = n4 by rw [← HL.out, List.length_map]; exact hD.len)
          have HBN := Lib.hid hbnd
          clear z0 z1 z2 hrs bX3 HIN3 HR HRN HGood HCM HPl hb5 hb4 hb2 hDD hbnd hbel hsz HIN2 bX
          clear hj8 hk8
          go_wp2
          go_loopw [14] (fun v wr => ∃ i : Nat, i ≤ n4 ∧ v = .int .i64 i ∧ Below w4.heap.size w4 wr) (fun v _ => n4 - (intOf v).toNat)
          case atStart => exact ⟨0, Nat.zero_le _, rfl, Below.refl _ _⟩
          case round =>
            obtain ⟨i, hi, rfl, hbz⟩ := hrel
            have hszz := hbz.size
            by_cases hin : i < n4
            · obtain ⟨b, o, x, A', n', k', rfl, hbB, d0, d1, d2, d3, d4, hlk, hn', hri, HXL, HX⟩ := hD.val hin
              have HXD : Hid (D[i]? = some x) := by have := HX.out; rwa [HL.out] at this
              have HXM : Hid (x ∈ D) := List.mem_of_getElem? HXD.out
              have HTK : Hid (D.take (i + 1) = D.take i ++ [x]) := at_take HXD.out
              have q0 := (hbz.cell (p := ⟨b, o + i * 5, none⟩) hbB).trans d0
              have q1 := (hbz.cell (p := ⟨b, o + i * 5 + 1, none⟩) hbB).trans d1
              have q2 := (hbz.cell (p := ⟨b, o + i * 5 + 2, none⟩) hbB).trans d2
              have q3 := (hbz.cell (p := ⟨b, o + i * 5 + 3, none⟩) hbB).trans d3
              have q4 := (hbz.cell (p := ⟨b, o + i * 5 + 4, none⟩) hbB).trans d4
              clear HX HXL
              by_cases hth : x.th = 0
              · have e1 : ((x.th : Int) == 0) = true := by simp [hth]
                have hsp := HE.out.put x HXM.out hth
                rw [← HS2.out] at hsp
                obtain ⟨hx1, hx2⟩ := HBN.out x HXM.out
                have HX2 := Lib.hid hx2
                obtain ⟨sp, hspe⟩ : ∃ sp, sp = spn S2 x := ⟨_, rfl⟩
                rw [← hspe] at hsp
                have HSPE := Lib.hid hspe
                clear hth hx2 hspe
                go_wp2_with fail
                refine (keep_spent wr x (.slice A' n' k') As n2 cs S2 ((hrs4.below hbz).more hszz) (by omega) hx1 HX2.out).mono ?_
                rintro e w7 ⟨rfl, hb7⟩
                rw [← HSPE.out]
                have hb8 := hbz.trans (hb7.mono hszz)
                go_wp2
                go_roundw
                case rel => exact ⟨i + 1, by omega, by go_num, hb8⟩
                case measure => simp [intOf]; omega
              · have e1 : ((x.th : Int) == 0) = false := by simp; omega
                clear hth
                go_wp2
                go_roundw
                case rel => exact ⟨i + 1, by omega, by go_num, hbz⟩
                case measure => simp [intOf]; omega
            · obtain rfl : n4 = i := by omega
              go_wp2
              go_loopw [15, 16] (fun v u wr => ∃ (i : Nat) (pb : Bool), i ≤ n4 ∧ u = .int .i64 i ∧ v = .bool pb ∧ Hid (pb = true ↔ ∃ x ∈ D.take i, x.th = 0 ∧ x.e = -1) ∧ Below w4.heap.size w4 wr) (fun _ u _ => n4 - (intOf u).toNat)
              case atStart => exact ⟨0, false, Nat.zero_le _, rfl, rfl, (by show _ ↔ _; simp), hbz⟩
              case round =>
                clear hbz hszz
                obtain ⟨i, pb, hi, rfl, rfl, HP, hbz⟩ := hrel
                have hszz := hbz.size
                by_cases hin : i < n4
                · obtain ⟨b, o, x, A', n', k', rfl, hbB, d0, d1, d2, d3, d4, hlk, hn', hri, HXL, HX⟩ := hD.val hin
                  have HXD : Hid (D[i]? = some x) := by have := HX.out; rwa [HL.out] at this
                  have HXM : Hid (x ∈ D) := List.mem_of_getElem? HXD.out
                  have HTK : Hid (D.take (i + 1) = D.take i ++ [x]) := at_take HXD.out
                  have q0 := (hbz.cell (p := ⟨b, o + i * 5, none⟩) hbB).trans d0
                  have q1 := (hbz.cell (p := ⟨b, o + i * 5 + 1, none⟩) hbB).trans d1
                  have q2 := (hbz.cell (p := ⟨b, o + i * 5 + 2, none⟩) hbB).trans d2
                  have q3 := (hbz.cell (p := ⟨b, o + i * 5 + 3, none⟩) hbB).trans d3
                  have q4 := (hbz.cell (p := ⟨b, o + i * 5 + 4, none⟩) hbB).trans d4
                  clear HX HXL
                  have HNX : Hid ((∃ y ∈ D.take (i + 1), y.th = 0 ∧ y.e = -1) ↔ (pb = true ∨ (x.th = 0 ∧ x.e = -1))) := by
                    show _ ↔ _
                    rw [HTK.out, HP.out]
                    constructor
                    · rintro ⟨y, hy, h⟩
                      rcases List.mem_append.1 hy with hy | hy
                      · exact .inl ⟨y, hy, h⟩
                      · rw [List.mem_singleton.1 hy] at h; exact .inr h
                    · rintro (⟨y, hy, h⟩ | h)
                      · exact ⟨y, by simp [hy], h⟩
                      · exact ⟨x, by simp, h⟩
                  cases pb with
                  | true =>
                    go_wp2
                    go_roundw
                    case rel => exact ⟨i + 1, true, by omega, by go_num, rfl, (by show _ ↔ _; rw [HNX.out]; simp), hbz⟩
                    case measure => simp [intOf]; omega
                  | false =>
                    by_cases hth : x.th = 0
                    · have HTH := Lib.hid hth
                      have e1 : ((x.th : Int) == 0) = true := by simp [hth]
                      by_cases hen : x.e = -1
                      · have HEN := Lib.hid hen
                        have e2 : (x.e == -1) = true := by simp [hen]
                        clear hth hen
                        go_wp2
                        go_roundw
                        case rel => exact ⟨i + 1, true, by omega, by go_num, rfl, (by show _ ↔ _; rw [HNX.out]; simp [HTH.out, HEN.out]), hbz⟩
                        case measure => simp [intOf]; omega
                      · have HEN := Lib.hid hen
                        have e2 : (x.e == -1) = false := by simp [hen]
                        clear hth hen
                        go_wp2
                        go_roundw
                        case rel => exact ⟨i + 1, false, by omega, by go_num, rfl, (by show _ ↔ _; rw [HNX.out]; simp [HEN.out]), hbz⟩
                        case measure => simp [intOf]; omega
                    · have HTH := Lib.hid hth
                      have e1 : ((x.th : Int) == 0) = false := by simp; omega
                      clear hth
                      go_wp2
                      go_roundw
                      case rel => exact ⟨i + 1, false, by omega, by go_num, rfl, (by show _ ↔ _; rw [HNX.out]; simp [HTH.out]), hbz⟩
                      case measure => simp [intOf]; omega
                · obtain rfl : n4 = i := by omega
                  have hDt : D.take n4 = D := List.take_of_length_le (by rw [LD.out]; omega)
                  cases pb with
                  | true =>
                    go_wp2
                    go_ret
                    exact ⟨rfl, hb6.trans (hbz.mono hb6.size)⟩
                  | false =>
                    have hno : ∀ x ∈ D, x.th = 0 → x.e ≠ -1 := fun x hx h1 h2 => by
                      have := HP.out.2 ⟨x, by rw [hDt]; exact hx, h1, h2⟩
                      cases this
                    obtain ⟨hg1, hg2⟩ := HE.out.get hno
                    have hQS : S.length + 80 = ns + j := by rw [HSL.out, HJ.out]
                    rw [hQS] at hg1 hg2
                    have HG1 := Lib.hid hg1
                    have HG2 := Lib.hid hg2
                    clear hno hg1 hg2 hQS hDt
                    go_wp2
                    go_loopw [17, 18] (fun v u wr => ∃ (i g : Nat), i ≤ n4 ∧ u = .int .i64 i ∧ v = .int .i64 g ∧ g ≤ i ∧ Hid ((∃ x ∈ D.take i, x.th = 1 ∧ ((ns + j : Nat) : Int) ≤ x.e) → 0 < g) ∧ Below w4.heap.size w4 wr) (fun _ u _ => n4 - (intOf u).toNat)
                    case atStart => exact ⟨0, 0, Nat.zero_le _, rfl, rfl, Nat.le_refl _, (by rintro ⟨x, hx, _⟩; simp at hx), hbz⟩
                    case round =>
                      clear hbz hszz
                      obtain ⟨i, g, hi, rfl, rfl, hgi, HP, hbz⟩ := hrel
                      have hszz := hbz.size
                      by_cases hin : i < n4
                      · obtain ⟨b, o, x, A', n', k', rfl, hbB, d0, d1, d2, d3, d4, hlk, hn', hri, HXL, HX⟩ := hD.val hin
                        have HXD : Hid (D[i]? = some x) := by have := HX.out; rwa [HL.out] at this
                        have HXM : Hid (x ∈ D) := List.mem_of_getElem? HXD.out
                        have HTK : Hid (D.take (i + 1) = D.take i ++ [x]) := at_take HXD.out
                        have q0 := (hbz.cell (p := ⟨b, o + i * 5, none⟩) hbB).trans d0
                        have q1 := (hbz.cell (p := ⟨b, o + i * 5 + 1, none⟩) hbB).trans d1
                        have q2 := (hbz.cell (p := ⟨b, o + i * 5 + 2, none⟩) hbB).trans d2
                        have q3 := (hbz.cell (p := ⟨b, o + i * 5 + 3, none⟩) hbB).trans d3
                        have q4 := (hbz.cell (p := ⟨b, o + i * 5 + 4, none⟩) hbB).trans d4
                        clear HX HXL
                        have HNX : Hid (¬ (x.th = 1 ∧ ((ns + j : Nat) : Int) ≤ x.e) → (∃ y ∈ D.take (i + 1), y.th = 1 ∧ ((ns + j : Nat) : Int) ≤ y.e) → 0 < g) := by
                          rintro hx ⟨y, hy, h⟩
                          rw [HTK.out] at hy
                          rcases List.mem_append.1 hy with hy | hy
                          · exact HP.out ⟨y, hy, h⟩
                          · rw [List.mem_singleton.1 hy] at h; exact absurd h hx
                        by_cases hth : x.th = 1
                        · have HTH := Lib.hid hth
                          have e1 : ((x.th : Int) == 1) = true := by simp [hth]
                          by_cases hq : (ns : Int) + j ≤ x.e
                          · have e2 : (x.e == -1) = false := by simp; omega
                            clear hth
                            go_wp2
                            go_roundw
                            case rel => exact ⟨i + 1, g + 1, by omega, by go_num, by go_num, by omega, fun _ => by omega, hbz⟩
                            case measure => simp [intOf]; omega
                          · have HQ := Lib.hid hq
                            by_cases hen : x.e = -1
                            · have e2 : (x.e == -1) = true := by simp [hen]
                              have hlt := HG1.out x HXM.out hth hen
                              have hxe := hen
                              clear hth hen
                              go_wp2
                              go_roundw
                              case rel => exact ⟨i + 1, g, by omega, by go_num, rfl, by omega, (fun h => HNX.out (fun h2 => HQ.out (by have := h2.2; omega)) h), hbz⟩
                              case measure => simp [intOf]; omega
                            · have e2 : (x.e == -1) = false := by simp [hen]
                              clear hth hen
                              go_wp2
                              go_roundw
                              case rel => exact ⟨i + 1, g, by omega, by go_num, rfl, by omega, (fun h => HNX.out (fun h2 => HQ.out (by have := h2.2; omega)) h), hbz⟩
                              case measure => simp [intOf]; omega
                        · have HTH := Lib.hid hth
                          have e1 : ((x.th : Int) == 1) = false := by simp; omega
                          clear hth
                          go_wp2
                          go_roundw
                          case rel => exact ⟨i + 1, g, by omega, by go_num, rfl, by omega, (fun h => HNX.out (fun h2 => HTH.out h2.1) h), hbz⟩
                          case measure => simp [intOf]; omega
                      · obtain rfl : n4 = i := by omega
                        have HGOT : Hid ((∃ x ∈ D, x.th = 1 ∧ ((ns + j : Nat) : Int) ≤ x.e) → 0 < g) := by
                          have := HP.out
                          rwa [List.take_of_length_le (by rw [LD.out]; omega)] at this
                        clear HP
                        go_wp2
                        go_loopw [19, 20] (fun v u wr => ∃ (i : Nat) (pb : Bool), i ≤ n4 ∧ u = .int .i64 i ∧ v = .bool pb ∧ Hid ((∃ x ∈ D.take i, x.th = 1 ∧ x.cl = 7 ∧ x.e ≠ -1 ∧ x.e < ((ns + j : Nat) : Int)) → pb = false) ∧ Below w4.heap.size w4 wr) (fun _ u _ => n4 - (intOf u).toNat)
                        case atStart => exact ⟨0, true, Nat.zero_le _, rfl, rfl, (by rintro ⟨x, hx, _⟩; simp at hx), hbz⟩
                        case round =>
                          clear hbz hszz
                          obtain ⟨i, pb, hi, rfl, rfl, HP, hbz⟩ := hrel
                          have hszz := hbz.size
                          by_cases hin : i < n4
                          · obtain ⟨b, o, x, A', n', k', rfl, hbB, d0, d1, d2, d3, d4, hlk, hn', hri, HXL, HX⟩ := hD.val hin
                            have HXD : Hid (D[i]? = some x) := by have := HX.out; rwa [HL.out] at this
                            have HXM : Hid (x ∈ D) := List.mem_of_getElem? HXD.out
                            have HTK : Hid (D.take (i + 1) = D.take i ++ [x]) := at_take HXD.out
                            have q0 := (hbz.cell (p := ⟨b, o + i * 5, none⟩) hbB).trans d0
                            have q1 := (hbz.cell (p := ⟨b, o + i * 5 + 1, none⟩) hbB).trans d1
                            have q2 := (hbz.cell (p := ⟨b, o + i * 5 + 2, none⟩) hbB).trans d2
                            have q3 := (hbz.cell (p := ⟨b, o + i * 5 + 3, none⟩) hbB).trans d3
                            have q4 := (hbz.cell (p := ⟨b, o + i * 5 + 4, none⟩) hbB).trans d4
                            clear HX HXL
                            have HNX : Hid (¬ (x.th = 1 ∧ x.cl = 7 ∧ x.e ≠ -1 ∧ x.e < ((ns + j : Nat) : Int)) → (∃ y ∈ D.take (i + 1), y.th = 1 ∧ y.cl = 7 ∧ y.e ≠ -1 ∧ y.e < ((ns + j : Nat) : Int)) → pb = false) := by
                              rintro hx ⟨y, hy, h⟩
                              rw [HTK.out] at hy
                              rcases List.mem_append.1 hy with hy | hy
                              · exact HP.out ⟨y, hy, h⟩
                              · rw [List.mem_singleton.1 hy] at h; exact absurd h hx
                            by_cases hth : x.th = 1
                            · have e1 : ((x.th : Int) == 1) = true := by simp [hth]
                              by_cases hcl : x.cl = 7
                              · have e2 : ((x.cl : Int) == 7) = true := by simp [hcl]
                                by_cases hen : x.e = -1
                                · have HEN := Lib.hid hen
                                  have e3 : (x.e != -1) = false := by simp [hen]
                                  clear hth hcl hen
                                  go_wp2
                                  go_roundw
                                  case rel => exact ⟨i + 1, pb, by omega, by go_num, rfl, (fun h => HNX.out (fun h2 => h2.2.2.1 HEN.out) h), hbz⟩
                                  case measure => simp [intOf]; omega
                                · have e3 : (x.e != -1) = true := by simp [hen]
                                  clear hth hcl hen
                                  by_cases hq : x.e < (ns : Int) + j
                                  · go_wp2
                                    go_roundw
                                    case rel => exact ⟨i + 1, false, by omega, by go_num, rfl, (fun _ => rfl), hbz⟩
                                    case measure => simp [intOf]; omega
                                  · have HQ := Lib.hid hq
                                    go_wp2
                                    go_roundw
                                    case rel => exact ⟨i + 1, pb, by omega, by go_num, rfl, (fun h => HNX.out (fun h2 => HQ.out (by have := h2.2.2.2; omega)) h), hbz⟩
                                    case measure => simp [intOf]; omega
                              · have HCL := Lib.hid hcl
                                have e2 : ((x.cl : Int) == 7) = false := by simp; omega
                                clear hth hcl
                                go_wp2
                                go_roundw
                                case rel => exact ⟨i + 1, pb, by omega, by go_num, rfl, (fun h => HNX.out (fun h2 => HCL.out h2.2.1) h), hbz⟩
                                case measure => simp [intOf]; omega
                            · have HTH := Lib.hid hth
                              have e1 : ((x.th : Int) == 1) = false := by simp; omega
                              clear hth
                              go_wp2
                              go_roundw
                              case rel => exact ⟨i + 1, pb, by omega, by go_num, rfl, (fun h => HNX.out (fun h2 => HTH.out h2.1) h), hbz⟩
                              case measure => simp [intOf]; omega
                          · obtain rfl : n4 = i := by omega
                            rcases HG2.out with h | h
                            · have hg0 := HGOT.out h
                              clear h
                              go_wp2
                              go_ret
                              exact ⟨by first | rfl | simp, hb6.trans (hbz.mono hb6.size)⟩
                            · have hpb : pb = false := HP.out (by rw [List.take_of_length_le (by rw [LD.out]; omega)]; exact h)
                              subst hpb
                              clear h
                              by_cases hg0 : 0 < g
                              · go_wp2
                                go_ret
                                exact ⟨by first | rfl | simp, hb6.trans (hbz.mono hb6.size)⟩
                              · go_wp2
                                go_ret
                                exact ⟨by first | rfl | simp, hb6.trans (hbz.mono hb6.size)⟩
end Go.Proofs.YtjihopbapnfppabDoor

set_option linter.unusedSimpArgs false
set_option linter.unusedVariables false
namespace Go.Baro

/-- A name. -/
abbrev Nm := List UInt8
/-- A builder: the code, the registers and the labels in the order of their names' first use, the jumps, whether a name was given twice. -/
structure Bs where
  code : List Ins
  regs : List (Nm × Int)
  labs : List (Nm × Int)
  jmps : List (Int × Nm)
  twice : Bool
def nmAsk : List (Nm × Int) → Nm → Option Int
  | [], _ => none
  | p :: ks, s => if p.1 = s then some p.2 else nmAsk ks s
theorem nmAsk_append (a b : List (Nm × Int)) (s : Nm) : nmAsk (a ++ b) s = (nmAsk a s).or (nmAsk b s) := by
  induction a with
  | nil => simp [nmAsk]
  | cons p a ih =>
    rw [List.cons_append, nmAsk, nmAsk]
    split
    · rfl
    · exact ih
/-- The number of a register; a new one is the next. -/
def Bs.rg (b : Bs) (s : Nm) : Bs × Int := match nmAsk b.regs s with
  | some v => (b, v)
  | none => ({ b with regs := b.regs ++ [(s, (b.regs.length : Int))] }, (b.regs.length : Int))
def Bs.put (b : Bs) (o : Ins) : Bs := { b with code := b.code ++ [o] }
def Bs.jmp (b : Bs) (l : Nm) : Bs := { b with jmps := b.jmps ++ [((b.code.length : Int), l)] }
def Bs.lab (b : Bs) (l : Nm) : Bs := { b with labs := b.labs ++ [(l, (b.code.length : Int))] }
def Bs.set (b : Bs) (to : Nm) (n : Int) : Bs := (b.rg to).1.put ⟨1, (b.rg to).2, n, 0, 0⟩
def Bs.two (b : Bs) (x y : Nm) : Bs × Int × Int := (((b.rg x).1.rg y).1, (b.rg x).2, ((b.rg x).1.rg y).2)
def Bs.three (b : Bs) (x y z : Nm) : Bs × Int × Int × Int := (((b.two x y).1.rg z).1, (b.two x y).2.1, (b.two x y).2.2, ((b.two x y).1.rg z).2)
def Bs.copy (b : Bs) (x y : Nm) : Bs := (b.two x y).1.put ⟨2, (b.two x y).2.1, (b.two x y).2.2, 0, 0⟩
def Bs.op3 (b : Bs) (k : Int) (x y z : Nm) : Bs := (b.three x y z).1.put ⟨k, (b.three x y z).2.1, (b.three x y z).2.2.1, (b.three x y z).2.2.2, 0⟩
def Bs.jump (b : Bs) (l : Nm) : Bs := (b.jmp l).put ⟨10, 0, 0, 0, 0⟩
def Bs.when (b : Bs) (r l : Nm) : Bs := ((b.jmp l).rg r).1.put ⟨11, ((b.jmp l).rg r).2, 0, 0, 0⟩
def Bs.unless (b : Bs) (r l : Nm) : Bs := ((b.jmp l).rg r).1.put ⟨12, ((b.jmp l).rg r).2, 0, 0, 0⟩
def Bs.load (b : Bs) (x y : Nm) (o : Int) : Bs := (b.two x y).1.put ⟨13, (b.two x y).2.1, (b.two x y).2.2, o, 0⟩
def Bs.store (b : Bs) (x y : Nm) (o : Int) : Bs := (b.two x y).1.put ⟨14, (b.two x y).2.1, (b.two x y).2.2, o, 0⟩
def Bs.cas (b : Bs) (x y : Nm) (o : Int) (z : Nm) : Bs := (b.three x y z).1.put ⟨15, (b.three x y z).2.1, (b.three x y z).2.2.1, o, (b.three x y z).2.2.2⟩
def Bs.emit1 (b : Bs) (x : Nm) : Bs := (b.rg x).1.put ⟨16, (b.rg x).2, 0, 0, 0⟩
def Bs.emit (b : Bs) (xs : List Nm) : Bs := xs.foldl Bs.emit1 b
def Bs.new (xs : List Nm) : Bs := xs.foldl (fun b x => (b.rg x).1) ⟨[], [], [], [], false⟩
/-- An instruction whose target is known. -/
def tgt (o : Ins) (v : Int) : Ins := if o.k = 10 then { o with a := v } else { o with b := v }
/-- The targets of the jumps are put in. -/
def rslv (labs : List (Nm × Int)) : List (Int × Nm) → List Ins → Option (List Ins)
  | [], c => some c
  | j :: js, c => match nmAsk labs j.2, c[j.1.toNat]? with
    | some v, some o => rslv labs js (c.set j.1.toNat (tgt o v))
    | _, _ => none
/-- The code, where nothing is wrong with it. -/
def Bs.fin (b : Bs) : Option (List Ins) := if b.twice = true then none else
  match rslv b.labs b.jmps b.code with
  | none => none
  | some c => if okC c then some c else none
theorem Bs.fin_some {b : Bs} {c : List Ins} (h : b.fin = some c) : b.twice = false ∧ rslv b.labs b.jmps b.code = some c ∧ okC c := by
  unfold Bs.fin at h
  by_cases ht : b.twice = true
  · rw [if_pos ht] at h; cases h
  · rw [if_neg ht] at h
    cases hr : rslv b.labs b.jmps b.code with
    | none => rw [hr] at h; cases h
    | some c' =>
      rw [hr] at h
      dsimp only at h
      split at h
      · cases h; exact ⟨by simpa using ht, rfl, by assumption⟩
      · cases h
theorem rslv_len (labs : List (Nm × Int)) : ∀ (js : List (Int × Nm)) (c c' : List Ins), rslv labs js c = some c' → c'.length = c.length
  | [], c, c', h => by cases h; rfl
  | j :: js, c, c', h => by
    unfold rslv at h
    split at h
    · rw [rslv_len labs js _ c' h]; simp
    · cases h
/-- A jump that is resolved. -/
theorem rslv_at (labs : List (Nm × Int)) {c' : List Ins} : ∀ (js : List (Int × Nm)) (c : List Ins), rslv labs js c = some c' → ∀ (i : Nat) (j : Int × Nm), js[i]? = some j → ∃ v o ci, nmAsk labs j.2 = some v ∧ rslv labs (js.drop i) ci = some c' ∧ rslv labs (js.take i) c = some ci ∧ ci[j.1.toNat]? = some o ∧ rslv labs (js.take (i + 1)) c = some (ci.set j.1.toNat (tgt o v)) ∧ rslv labs (js.drop (i + 1)) (ci.set j.1.toNat (tgt o v)) = some c'
  | [], c, h, i, j, hj => by simp at hj
  | k :: js, c, h, 0, j, hj => by
    simp at hj
    subst hj
    have h' := h
    unfold rslv at h
    cases ha : nmAsk labs k.2 with
    | none => simp [ha] at h
    | some v =>
      cases hc : c[k.1.toNat]? with
      | none => simp [ha, hc] at h
      | some o =>
        simp only [ha, hc] at h
        exact ⟨v, o, c, rfl, h', rfl, hc, by simp [rslv, ha, hc], by simpa using h⟩
  | k :: js, c, h, i + 1, j, hj => by
    unfold rslv at h
    cases ha : nmAsk labs k.2 with
    | none => simp [ha] at h
    | some v =>
      cases hc : c[k.1.toNat]? with
      | none => simp [ha, hc] at h
      | some o =>
        simp only [ha, hc] at h
        obtain ⟨v', o', ci, q1, q2, q3, q4, q5, q6⟩ := rslv_at labs js _ h i j (by simpa using hj)
        refine ⟨v', o', ci, q1, by simpa using q2, ?_, q4, ?_, by simpa using q6⟩
        · rw [List.take_succ_cons, rslv]
          simp only [ha, hc]
          exact q3
        · rw [List.take_succ_cons, rslv]
          simp only [ha, hc]
          exact q5
section
variable (b : Bs) (x y z l : Nm) (n k : Int)
theorem labs_rg : (b.rg x).1.labs = b.labs := by unfold Bs.rg; split <;> rfl
theorem labs_set : (b.set x n).labs = b.labs := labs_rg b x
theorem labs_two : (b.two x y).1.labs = b.labs := by unfold Bs.two; rw [labs_rg, labs_rg]
theorem labs_three : (b.three x y z).1.labs = b.labs := by unfold Bs.three; rw [labs_rg, labs_two]
theorem labs_copy : (b.copy x y).labs = b.labs := labs_two b x y
theorem labs_op3 : (b.op3 k x y z).labs = b.labs := labs_three b x y z
theorem labs_jump : (b.jump l).labs = b.labs := rfl
theorem labs_when : (b.when x l).labs = b.labs := labs_rg (b.jmp l) x
theorem labs_unless : (b.unless x l).labs = b.labs := labs_rg (b.jmp l) x
theorem labs_load : (b.load x y n).labs = b.labs := labs_two b x y
theorem labs_store : (b.store x y n).labs = b.labs := labs_two b x y
theorem labs_cas : (b.cas x y n z).labs = b.labs := labs_three b x y z
theorem nmAsk_lab {b : Bs} {l l' : Nm} (h : nmAsk b.labs l = none) (hne : l' ≠ l) : nmAsk (b.lab l').labs l = none := by
  unfold Bs.lab
  dsimp only
  rw [nmAsk_append, h]
  simp [nmAsk, hne]
theorem labs_fold {α : Type} {f : Bs → α → Bs} (h : ∀ b a, (f b a).labs = b.labs) : ∀ (l : List α) (b : Bs), (l.foldl f b).labs = b.labs
  | [], b => rfl
  | a :: l, b => by rw [List.foldl_cons, labs_fold h l, h]
theorem labs_new (xs : List Nm) : (Bs.new xs).labs = [] := labs_fold (f := fun b x => (b.rg x).1) (fun b a => labs_rg b a) xs _
end
end Go.Baro
