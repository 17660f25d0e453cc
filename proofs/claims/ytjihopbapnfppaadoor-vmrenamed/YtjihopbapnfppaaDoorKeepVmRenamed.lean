/- Which registers it are does not matter, where there are no arguments: the statement's call returns true, for every input, and leaves what was there as it was. The table of operands is as the package lays it. No condition but that each slice takes at most 2^47 - 4096 bytes. -/
import Derived.Test.YtjihopbapnfppaaDoorKeepVm
import Derived.Test.YtjihopbapnfppaaDoorKeepVmWs
import Derived.Test.YtjihopbapnfppaaDoorVmKeepPure2
set_option linter.unusedSimpArgs false
set_option linter.unusedVariables false
namespace Go.Proofs.YtjihopbapnfppaaDoor
open Go.ChangeShapes Go.WideShapes Go.ChangeAt Go.RowKit Go.Ord Go.Baro

theorem keep_name (x K : Int) (g : Nat) (w : World) (hc : w.cell? ⟨g, 0, none⟩ = some (.int .i64 K)) (hx : r4 x) (hK : r4 K) :
    Calls Tryd.prog 24 #[.int .i64 x, .pointer (some ⟨g, 0, none⟩)] w fun e w' => e = .returned (.int .i64 (nmR K x)) ∧ w = w' := by
  unfold r4 at hx hK
  have hlt := block_lt' hc
  have H := Lib.hid (show (x + K) % 4 = nmR K x by unfold nmR; rw [if_pos hx.2])
  go_enter Tryd.func24, Tryd.ntmps24
  go_wp2
  go_ret
  exact ⟨ret_int H.out, rfl⟩

set_option maxRecDepth 100000 in
set_option maxHeartbeats 16000000 in
theorem keep_VmRenamed (w : World) (hT : Tab w) (A0 : Option Addr) (n0 c0 : Nat) (x0 : List Ins) (h0 : RO w w.heap.size A0 n0 x0) (b0 : n0 ≤ 3518437208883) (r0 : ∀ f ∈ x0, inI f) (_ : n0 ≤ c0)
    (A1 : Option Addr) (n1 c1 : Nat) (x1 : List Int) (h1 : RI w w.heap.size .i64 A1 n1 x1) (b1 : n1 ≤ 17592186044416) (r1 : ∀ x ∈ x1, -9223372036854775808 ≤ x ∧ x ≤ 9223372036854775807) (_ : n1 ≤ c1)
    (x2 : Int) (r2 : -9223372036854775808 ≤ x2 ∧ x2 ≤ 9223372036854775807) (x3 : Int) (r3 : -9223372036854775808 ≤ x3 ∧ x3 ≤ 9223372036854775807) :
    Calls Tryd.prog 7 #[.slice A0 n0 c0, .slice A1 n1 c1, .int .i64 x2, .int .i64 x3] w fun e w' => e = .returned (.bool true) ∧ Below w.heap.size w w' := by
  have HL1 := Lib.hid h1.len
  have hlt := hT.lt
  obtain ⟨K, hK⟩ : ∃ K : Int, x2 % 4 = K := ⟨_, rfl⟩
  have hK4 : r4 K := by unfold r4; omega
  obtain ⟨L, hL⟩ : ∃ L : Nat, x3 % 600 = L := ⟨(x3 % 600).toNat, by omega⟩
  have hLb : L < 600 := by omega
  obtain ⟨T, W, N, E, hR⟩ : ∃ T W N E, (T, W, N, E) = vmR (kC x0) [] (wsL (fun y => y) x1) L := ⟨_, _, _, _, rfl⟩
  have hsh : ∀ o ∈ kC x0, shI (kC x0).length o := fun o ho => kC_sh ho
  have hsh2 : ∀ o ∈ (kC x0).map (rnI K), shI (kC x0).length o := by
    intro o ho
    obtain ⟨o', ho', rfl⟩ := List.mem_map.1 ho
    exact sh_ren hK4 (hsh o' ho')
  have hok2 : okC ((kC x0).map (rnI K)) := ⟨by rw [List.length_map]; exact (kC_ok x0).1, fun o ho => by rw [List.length_map]; exact sh_ok (hsh2 o ho)⟩
  have hin2 : ∀ o ∈ (kC x0).map (rnI K), inI o := fun o ho => sh_in (kC_ok x0).1 (hsh2 o ho)
  have hR' : (T, W, N, E) = vmR ((kC x0).map (rnI K)) [] (wsL (fun y => y) x1) L := by
    rw [hR, vmR_ok (kC_ok x0) (by simp) (by rw [wsL_len]; omega) (by omega), vmR_ok hok2 (by simp) (by rw [wsL_len]; omega) (by omega)]
    obtain ⟨i1, i2, i3⟩ := run_renamed (ws := wsL (fun y => y) x1) hK4 hsh L
    rw [i1, i2, i3]
  have HR := Lib.hid hR
  have HR' := Lib.hid hR'
  have HIN2 := Lib.hid hin2
  have HSH := Lib.hid hsh
  have HWI := Lib.hid (wsL_in (f := fun y => y) (x := x1) (fun y hy => r1 y hy))
  have HWL := Lib.hid (wsL_len (fun y => y) x1)
  have HK := Lib.hid hK
  have HLL := Lib.hid hL
  clear hR hR' hok2 hin2 hsh hsh2 hK hL r0 r1 r2 r3
  go_enter Tryd.func7, Tryd.ntmps7
  go_wp2_with fail
  refine (keep_CodeOf x0 A0 n0 c0 w h0 b0).mono ?_
  rintro e w1 ⟨A3, n3, c3, rfl, hro, hl3, hn3, hb1⟩
  have hs1 := hb1.size
  have HL3 := Lib.hid hro.len
  go_wp2_with fail
  refine (keep_Picked x2 4 w1 (by decide) (by decide)).mono ?_
  rintro e w' ⟨rfl, rfl⟩
  rw [HK.out]
  go_wp2
  have bK0 := Box.newAt w1 3 [.int .i64 K] _ rfl
  go_loopw [12, 13] (fun v i wr => ∃ j : Nat, j ≤ n3 ∧ i = .int .i64 j ∧ wr.ownsRow w1.heap.size 37 5 v j (cellsO (((kC x0).take j).map (rnI K))) ∧ Box wr w1.heap.size 3 [.int .i64 K] ∧ Below w1.heap.size w1 wr) (fun _ i _ => n3 - (intOf i).toNat)
  case atStart => exact ⟨0, Nat.zero_le _, rfl, World.ownsRow_nil _ _ _ _, bK0, (Below.refl _ _).alloc (Nat.le_refl _) _⟩
  case round =>
    obtain ⟨j, hj, rfl, hown, bK, hbel⟩ := hrel
    clear bK0
    have hsz := hbel.size
    have lK := bK.lt
    by_cases hjn : j < n3
    · obtain ⟨b, o, k, x, y, z, u, rfl, hbB, d0, d1, d2, d3, d4, HX, hmem⟩ := (hro.below hbel).val hjn
      have hbs : b < wr.heap.size := by omega
      have hshp := HSH.out _ hmem
      have HST := Lib.hid (show ∀ o' : Ins, rnI K ⟨k, x, y, z, u⟩ = o' → ((kC x0).take (j + 1)).map (rnI K) = ((kC x0).take j).map (rnI K) ++ [o'] from by
        intro o' ho'
        rw [at_take HX.out, List.map_append, ← ho']; rfl)
      have hk17 := okI_kind (sh_ok hshp)
      dsimp only at hk17
      clear hmem
      rcases (by omega : k = 1 ∨ k = 2 ∨ k = 3 ∨ k = 4 ∨ k = 5 ∨ k = 6 ∨ k = 7 ∨ k = 8 ∨ k = 9 ∨ k = 10 ∨ k = 11 ∨ k = 12 ∨ k = 13 ∨ k = 14 ∨ k = 15 ∨ k = 16 ∨ k = 17) with rfl | rfl | rfl | rfl | rfl | rfl | rfl | rfl | rfl | rfl | rfl | rfl | rfl | rfl | rfl | rfl | rfl
      · have qx : r4 x := by unfold shI at hshp; dsimp only at hshp; unfold r4 at *; omega
        have HO := Lib.hid (HST.out ⟨1, nmR K x, y, z, u⟩ (by simp [rnI]))
        clear HST hshp hk17
        go_wp2_with fail
        refine (keep_name x K w1.heap.size _ (by exact (bK.alloc _).cell 0) qx hK4).mono ?_
        rintro e w' ⟨rfl, rfl⟩
        go_wp2_with (at_builtin; go_must (refine app_lit eltOp _ rfl _ _ rfl w1.heap.size _ j _ rfl (by exact hown.alloc _) 1 [.int .i64 1, .int .i64 (nmR K x), .int .i64 (y), .int .i64 (z), .int .i64 (u)] (wr.heap.size + 1) (by simp) rfl rfl (one5 _ _ _ _ _) (by omega) (by omega) (by simp; omega) ?_); intro v3 w3 hown3 hgr3 hbel3 _)
        go_roundw
        case rel =>
          refine ⟨j + 1, by omega, by go_num, ?_, ?_, hbel3 _ (hbel.alloc hsz _)⟩
          · rw [HO.out, cellsO_append]
            exact hown3
          · exact ((bK.alloc _).alloc _).grown hgr3 (bK.ne hown (by decide))
        case measure => simp [intOf]; omega
      · have qx : r4 x := by unfold shI at hshp; dsimp only at hshp; unfold r4 at *; omega
        have qy : r4 y := by unfold shI at hshp; dsimp only at hshp; unfold r4 at *; omega
        have HO := Lib.hid (HST.out ⟨2, nmR K x, nmR K y, z, u⟩ (by simp [rnI]))
        clear HST hshp hk17
        go_wp2_with fail
        refine (keep_name x K w1.heap.size _ (by exact (bK.alloc _).cell 0) qx hK4).mono ?_
        rintro e w' ⟨rfl, rfl⟩
        go_wp2_with fail
        refine (keep_name y K w1.heap.size _ (by exact (bK.alloc _).cell 0) qy hK4).mono ?_
        rintro e w' ⟨rfl, rfl⟩
        go_wp2_with (at_builtin; go_must (refine app_lit eltOp _ rfl _ _ rfl w1.heap.size _ j _ rfl (by exact hown.alloc _) 1 [.int .i64 2, .int .i64 (nmR K x), .int .i64 (nmR K y), .int .i64 (z), .int .i64 (u)] (wr.heap.size + 1) (by simp) rfl rfl (one5 _ _ _ _ _) (by omega) (by omega) (by simp; omega) ?_); intro v3 w3 hown3 hgr3 hbel3 _)
        go_roundw
        case rel =>
          refine ⟨j + 1, by omega, by go_num, ?_, ?_, hbel3 _ (hbel.alloc hsz _)⟩
          · rw [HO.out, cellsO_append]
            exact hown3
          · exact ((bK.alloc _).alloc _).grown hgr3 (bK.ne hown (by decide))
        case measure => simp [intOf]; omega
      · have qx : r4 x := by unfold shI at hshp; dsimp only at hshp; unfold r4 at *; omega
        have qy : r4 y := by unfold shI at hshp; dsimp only at hshp; unfold r4 at *; omega
        have qz : r4 z := by unfold shI at hshp; dsimp only at hshp; unfold r4 at *; omega
        have HO := Lib.hid (HST.out ⟨3, nmR K x, nmR K y, nmR K z, u⟩ (by simp [rnI]))
        clear HST hshp hk17
        go_wp2_with fail
        refine (keep_name x K w1.heap.size _ (by exact (bK.alloc _).cell 0) qx hK4).mono ?_
        rintro e w' ⟨rfl, rfl⟩
        go_wp2_with fail
        refine (keep_name y K w1.heap.size _ (by exact (bK.alloc _).cell 0) qy hK4).mono ?_
        rintro e w' ⟨rfl, rfl⟩
        go_wp2_with fail
        refine (keep_name z K w1.heap.size _ (by exact (bK.alloc _).cell 0) qz hK4).mono ?_
        rintro e w' ⟨rfl, rfl⟩
        go_wp2_with (at_builtin; go_must (refine app_lit eltOp _ rfl _ _ rfl w1.heap.size _ j _ rfl (by exact hown.alloc _) 1 [.int .i64 3, .int .i64 (nmR K x), .int .i64 (nmR K y), .int .i64 (nmR K z), .int .i64 (u)] (wr.heap.size + 1) (by simp) rfl rfl (one5 _ _ _ _ _) (by omega) (by omega) (by simp; omega) ?_); intro v3 w3 hown3 hgr3 hbel3 _)
        go_roundw
        case rel =>
          refine ⟨j + 1, by omega, by go_num, ?_, ?_, hbel3 _ (hbel.alloc hsz _)⟩
          · rw [HO.out, cellsO_append]
            exact hown3
          · exact ((bK.alloc _).alloc _).grown hgr3 (bK.ne hown (by decide))
        case measure => simp [intOf]; omega
      · have qx : r4 x := by unfold shI at hshp; dsimp only at hshp; unfold r4 at *; omega
        have qy : r4 y := by unfold shI at hshp; dsimp only at hshp; unfold r4 at *; omega
        have qz : r4 z := by unfold shI at hshp; dsimp only at hshp; unfold r4 at *; omega
        have HO := Lib.hid (HST.out ⟨4, nmR K x, nmR K y, nmR K z, u⟩ (by simp [rnI]))
        clear HST hshp hk17
        go_wp2_with fail
        refine (keep_name x K w1.heap.size _ (by exact (bK.alloc _).cell 0) qx hK4).mono ?_
        rintro e w' ⟨rfl, rfl⟩
        go_wp2_with fail
        refine (keep_name y K w1.heap.size _ (by exact (bK.alloc _).cell 0) qy hK4).mono ?_
        rintro e w' ⟨rfl, rfl⟩
        go_wp2_with fail
        refine (keep_name z K w1.heap.size _ (by exact (bK.alloc _).cell 0) qz hK4).mono ?_
        rintro e w' ⟨rfl, rfl⟩
        go_wp2_with (at_builtin; go_must (refine app_lit eltOp _ rfl _ _ rfl w1.heap.size _ j _ rfl (by exact hown.alloc _) 1 [.int .i64 4, .int .i64 (nmR K x), .int .i64 (nmR K y), .int .i64 (nmR K z), .int .i64 (u)] (wr.heap.size + 1) (by simp) rfl rfl (one5 _ _ _ _ _) (by omega) (by omega) (by simp; omega) ?_); intro v3 w3 hown3 hgr3 hbel3 _)
        go_roundw
        case rel =>
          refine ⟨j + 1, by omega, by go_num, ?_, ?_, hbel3 _ (hbel.alloc hsz _)⟩
          · rw [HO.out, cellsO_append]
            exact hown3
          · exact ((bK.alloc _).alloc _).grown hgr3 (bK.ne hown (by decide))
        case measure => simp [intOf]; omega
      · have qx : r4 x := by unfold shI at hshp; dsimp only at hshp; unfold r4 at *; omega
        have qy : r4 y := by unfold shI at hshp; dsimp only at hshp; unfold r4 at *; omega
        have qz : r4 z := by unfold shI at hshp; dsimp only at hshp; unfold r4 at *; omega
        have HO := Lib.hid (HST.out ⟨5, nmR K x, nmR K y, nmR K z, u⟩ (by simp [rnI]))
        clear HST hshp hk17
        go_wp2_with fail
        refine (keep_name x K w1.heap.size _ (by exact (bK.alloc _).cell 0) qx hK4).mono ?_
        rintro e w' ⟨rfl, rfl⟩
        go_wp2_with fail
        refine (keep_name y K w1.heap.size _ (by exact (bK.alloc _).cell 0) qy hK4).mono ?_
        rintro e w' ⟨rfl, rfl⟩
        go_wp2_with fail
        refine (keep_name z K w1.heap.size _ (by exact (bK.alloc _).cell 0) qz hK4).mono ?_
        rintro e w' ⟨rfl, rfl⟩
        go_wp2_with (at_builtin; go_must (refine app_lit eltOp _ rfl _ _ rfl w1.heap.size _ j _ rfl (by exact hown.alloc _) 1 [.int .i64 5, .int .i64 (nmR K x), .int .i64 (nmR K y), .int .i64 (nmR K z), .int .i64 (u)] (wr.heap.size + 1) (by simp) rfl rfl (one5 _ _ _ _ _) (by omega) (by omega) (by simp; omega) ?_); intro v3 w3 hown3 hgr3 hbel3 _)
        go_roundw
        case rel =>
          refine ⟨j + 1, by omega, by go_num, ?_, ?_, hbel3 _ (hbel.alloc hsz _)⟩
          · rw [HO.out, cellsO_append]
            exact hown3
          · exact ((bK.alloc _).alloc _).grown hgr3 (bK.ne hown (by decide))
        case measure => simp [intOf]; omega
      · have qx : r4 x := by unfold shI at hshp; dsimp only at hshp; unfold r4 at *; omega
        have qy : r4 y := by unfold shI at hshp; dsimp only at hshp; unfold r4 at *; omega
        have qz : r4 z := by unfold shI at hshp; dsimp only at hshp; unfold r4 at *; omega
        have HO := Lib.hid (HST.out ⟨6, nmR K x, nmR K y, nmR K z, u⟩ (by simp [rnI]))
        clear HST hshp hk17
        go_wp2_with fail
        refine (keep_name x K w1.heap.size _ (by exact (bK.alloc _).cell 0) qx hK4).mono ?_
        rintro e w' ⟨rfl, rfl⟩
        go_wp2_with fail
        refine (keep_name y K w1.heap.size _ (by exact (bK.alloc _).cell 0) qy hK4).mono ?_
        rintro e w' ⟨rfl, rfl⟩
        go_wp2_with fail
        refine (keep_name z K w1.heap.size _ (by exact (bK.alloc _).cell 0) qz hK4).mono ?_
        rintro e w' ⟨rfl, rfl⟩
        go_wp2_with (at_builtin; go_must (refine app_lit eltOp _ rfl _ _ rfl w1.heap.size _ j _ rfl (by exact hown.alloc _) 1 [.int .i64 6, .int .i64 (nmR K x), .int .i64 (nmR K y), .int .i64 (nmR K z), .int .i64 (u)] (wr.heap.size + 1) (by simp) rfl rfl (one5 _ _ _ _ _) (by omega) (by omega) (by simp; omega) ?_); intro v3 w3 hown3 hgr3 hbel3 _)
        go_roundw
        case rel =>
          refine ⟨j + 1, by omega, by go_num, ?_, ?_, hbel3 _ (hbel.alloc hsz _)⟩
          · rw [HO.out, cellsO_append]
            exact hown3
          · exact ((bK.alloc _).alloc _).grown hgr3 (bK.ne hown (by decide))
        case measure => simp [intOf]; omega
      · have qx : r4 x := by unfold shI at hshp; dsimp only at hshp; unfold r4 at *; omega
        have qy : r4 y := by unfold shI at hshp; dsimp only at hshp; unfold r4 at *; omega
        have qz : r4 z := by unfold shI at hshp; dsimp only at hshp; unfold r4 at *; omega
        have HO := Lib.hid (HST.out ⟨7, nmR K x, nmR K y, nmR K z, u⟩ (by simp [rnI]))
        clear HST hshp hk17
        go_wp2_with fail
        refine (keep_name x K w1.heap.size _ (by exact (bK.alloc _).cell 0) qx hK4).mono ?_
        rintro e w' ⟨rfl, rfl⟩
        go_wp2_with fail
        refine (keep_name y K w1.heap.size _ (by exact (bK.alloc _).cell 0) qy hK4).mono ?_
        rintro e w' ⟨rfl, rfl⟩
        go_wp2_with fail
        refine (keep_name z K w1.heap.size _ (by exact (bK.alloc _).cell 0) qz hK4).mono ?_
        rintro e w' ⟨rfl, rfl⟩
        go_wp2_with (at_builtin; go_must (refine app_lit eltOp _ rfl _ _ rfl w1.heap.size _ j _ rfl (by exact hown.alloc _) 1 [.int .i64 7, .int .i64 (nmR K x), .int .i64 (nmR K y), .int .i64 (nmR K z), .int .i64 (u)] (wr.heap.size + 1) (by simp) rfl rfl (one5 _ _ _ _ _) (by omega) (by omega) (by simp; omega) ?_); intro v3 w3 hown3 hgr3 hbel3 _)
        go_roundw
        case rel =>
          refine ⟨j + 1, by omega, by go_num, ?_, ?_, hbel3 _ (hbel.alloc hsz _)⟩
          · rw [HO.out, cellsO_append]
            exact hown3
          · exact ((bK.alloc _).alloc _).grown hgr3 (bK.ne hown (by decide))
        case measure => simp [intOf]; omega
      · have qx : r4 x := by unfold shI at hshp; dsimp only at hshp; unfold r4 at *; omega
        have qy : r4 y := by unfold shI at hshp; dsimp only at hshp; unfold r4 at *; omega
        have qz : r4 z := by unfold shI at hshp; dsimp only at hshp; unfold r4 at *; omega
        have HO := Lib.hid (HST.out ⟨8, nmR K x, nmR K y, nmR K z, u⟩ (by simp [rnI]))
        clear HST hshp hk17
        go_wp2_with fail
        refine (keep_name x K w1.heap.size _ (by exact (bK.alloc _).cell 0) qx hK4).mono ?_
        rintro e w' ⟨rfl, rfl⟩
        go_wp2_with fail
        refine (keep_name y K w1.heap.size _ (by exact (bK.alloc _).cell 0) qy hK4).mono ?_
        rintro e w' ⟨rfl, rfl⟩
        go_wp2_with fail
        refine (keep_name z K w1.heap.size _ (by exact (bK.alloc _).cell 0) qz hK4).mono ?_
        rintro e w' ⟨rfl, rfl⟩
        go_wp2_with (at_builtin; go_must (refine app_lit eltOp _ rfl _ _ rfl w1.heap.size _ j _ rfl (by exact hown.alloc _) 1 [.int .i64 8, .int .i64 (nmR K x), .int .i64 (nmR K y), .int .i64 (nmR K z), .int .i64 (u)] (wr.heap.size + 1) (by simp) rfl rfl (one5 _ _ _ _ _) (by omega) (by omega) (by simp; omega) ?_); intro v3 w3 hown3 hgr3 hbel3 _)
        go_roundw
        case rel =>
          refine ⟨j + 1, by omega, by go_num, ?_, ?_, hbel3 _ (hbel.alloc hsz _)⟩
          · rw [HO.out, cellsO_append]
            exact hown3
          · exact ((bK.alloc _).alloc _).grown hgr3 (bK.ne hown (by decide))
        case measure => simp [intOf]; omega
      · have qx : r4 x := by unfold shI at hshp; dsimp only at hshp; unfold r4 at *; omega
        have qy : r4 y := by unfold shI at hshp; dsimp only at hshp; unfold r4 at *; omega
        have qz : r4 z := by unfold shI at hshp; dsimp only at hshp; unfold r4 at *; omega
        have HO := Lib.hid (HST.out ⟨9, nmR K x, nmR K y, nmR K z, u⟩ (by simp [rnI]))
        clear HST hshp hk17
        go_wp2_with fail
        refine (keep_name x K w1.heap.size _ (by exact (bK.alloc _).cell 0) qx hK4).mono ?_
        rintro e w' ⟨rfl, rfl⟩
        go_wp2_with fail
        refine (keep_name y K w1.heap.size _ (by exact (bK.alloc _).cell 0) qy hK4).mono ?_
        rintro e w' ⟨rfl, rfl⟩
        go_wp2_with fail
        refine (keep_name z K w1.heap.size _ (by exact (bK.alloc _).cell 0) qz hK4).mono ?_
        rintro e w' ⟨rfl, rfl⟩
        go_wp2_with (at_builtin; go_must (refine app_lit eltOp _ rfl _ _ rfl w1.heap.size _ j _ rfl (by exact hown.alloc _) 1 [.int .i64 9, .int .i64 (nmR K x), .int .i64 (nmR K y), .int .i64 (nmR K z), .int .i64 (u)] (wr.heap.size + 1) (by simp) rfl rfl (one5 _ _ _ _ _) (by omega) (by omega) (by simp; omega) ?_); intro v3 w3 hown3 hgr3 hbel3 _)
        go_roundw
        case rel =>
          refine ⟨j + 1, by omega, by go_num, ?_, ?_, hbel3 _ (hbel.alloc hsz _)⟩
          · rw [HO.out, cellsO_append]
            exact hown3
          · exact ((bK.alloc _).alloc _).grown hgr3 (bK.ne hown (by decide))
        case measure => simp [intOf]; omega
      · have HO := Lib.hid (HST.out ⟨10, x, y, z, u⟩ (by simp [rnI]))
        clear HST hshp hk17
        go_wp2_with (at_builtin; go_must (refine app_lit eltOp _ rfl _ _ rfl w1.heap.size _ j _ rfl (by exact hown.alloc _) 1 [.int .i64 10, .int .i64 (x), .int .i64 (y), .int .i64 (z), .int .i64 (u)] (wr.heap.size + 1) (by simp) rfl rfl (one5 _ _ _ _ _) (by omega) (by omega) (by simp; omega) ?_); intro v3 w3 hown3 hgr3 hbel3 _)
        go_roundw
        case rel =>
          refine ⟨j + 1, by omega, by go_num, ?_, ?_, hbel3 _ (hbel.alloc hsz _)⟩
          · rw [HO.out, cellsO_append]
            exact hown3
          · exact ((bK.alloc _).alloc _).grown hgr3 (bK.ne hown (by decide))
        case measure => simp [intOf]; omega
      · have qx : r4 x := by unfold shI at hshp; dsimp only at hshp; unfold r4 at *; omega
        have HO := Lib.hid (HST.out ⟨11, nmR K x, y, z, u⟩ (by simp [rnI]))
        clear HST hshp hk17
        go_wp2_with fail
        refine (keep_name x K w1.heap.size _ (by exact (bK.alloc _).cell 0) qx hK4).mono ?_
        rintro e w' ⟨rfl, rfl⟩
        go_wp2_with (at_builtin; go_must (refine app_lit eltOp _ rfl _ _ rfl w1.heap.size _ j _ rfl (by exact hown.alloc _) 1 [.int .i64 11, .int .i64 (nmR K x), .int .i64 (y), .int .i64 (z), .int .i64 (u)] (wr.heap.size + 1) (by simp) rfl rfl (one5 _ _ _ _ _) (by omega) (by omega) (by simp; omega) ?_); intro v3 w3 hown3 hgr3 hbel3 _)
        go_roundw
        case rel =>
          refine ⟨j + 1, by omega, by go_num, ?_, ?_, hbel3 _ (hbel.alloc hsz _)⟩
          · rw [HO.out, cellsO_append]
            exact hown3
          · exact ((bK.alloc _).alloc _).grown hgr3 (bK.ne hown (by decide))
        case measure => simp [intOf]; omega
      · have qx : r4 x := by unfold shI at hshp; dsimp only at hshp; unfold r4 at *; omega
        have HO := Lib.hid (HST.out ⟨12, nmR K x, y, z, u⟩ (by simp [rnI]))
        clear HST hshp hk17
        go_wp2_with fail
        refine (keep_name x K w1.heap.size _ (by exact (bK.alloc _).cell 0) qx hK4).mono ?_
        rintro e w' ⟨rfl, rfl⟩
        go_wp2_with (at_builtin; go_must (refine app_lit eltOp _ rfl _ _ rfl w1.heap.size _ j _ rfl (by exact hown.alloc _) 1 [.int .i64 12, .int .i64 (nmR K x), .int .i64 (y), .int .i64 (z), .int .i64 (u)] (wr.heap.size + 1) (by simp) rfl rfl (one5 _ _ _ _ _) (by omega) (by omega) (by simp; omega) ?_); intro v3 w3 hown3 hgr3 hbel3 _)
        go_roundw
        case rel =>
          refine ⟨j + 1, by omega, by go_num, ?_, ?_, hbel3 _ (hbel.alloc hsz _)⟩
          · rw [HO.out, cellsO_append]
            exact hown3
          · exact ((bK.alloc _).alloc _).grown hgr3 (bK.ne hown (by decide))
        case measure => simp [intOf]; omega
      · have qx : r4 x := by unfold shI at hshp; dsimp only at hshp; unfold r4 at *; omega
        have HO := Lib.hid (HST.out ⟨13, nmR K x, y, z, u⟩ (by simp [rnI]))
        clear HST hshp hk17
        go_wp2_with fail
        refine (keep_name x K w1.heap.size _ (by exact (bK.alloc _).cell 0) qx hK4).mono ?_
        rintro e w' ⟨rfl, rfl⟩
        go_wp2_with (at_builtin; go_must (refine app_lit eltOp _ rfl _ _ rfl w1.heap.size _ j _ rfl (by exact hown.alloc _) 1 [.int .i64 13, .int .i64 (nmR K x), .int .i64 (y), .int .i64 (z), .int .i64 (u)] (wr.heap.size + 1) (by simp) rfl rfl (one5 _ _ _ _ _) (by omega) (by omega) (by simp; omega) ?_); intro v3 w3 hown3 hgr3 hbel3 _)
        go_roundw
        case rel =>
          refine ⟨j + 1, by omega, by go_num, ?_, ?_, hbel3 _ (hbel.alloc hsz _)⟩
          · rw [HO.out, cellsO_append]
            exact hown3
          · exact ((bK.alloc _).alloc _).grown hgr3 (bK.ne hown (by decide))
        case measure => simp [intOf]; omega
      · have qx : r4 x := by unfold shI at hshp; dsimp only at hshp; unfold r4 at *; omega
        have HO := Lib.hid (HST.out ⟨14, nmR K x, y, z, u⟩ (by simp [rnI]))
        clear HST hshp hk17
        go_wp2_with fail
        refine (keep_name x K w1.heap.size _ (by exact (bK.alloc _).cell 0) qx hK4).mono ?_
        rintro e w' ⟨rfl, rfl⟩
        go_wp2_with (at_builtin; go_must (refine app_lit eltOp _ rfl _ _ rfl w1.heap.size _ j _ rfl (by exact hown.alloc _) 1 [.int .i64 14, .int .i64 (nmR K x), .int .i64 (y), .int .i64 (z), .int .i64 (u)] (wr.heap.size + 1) (by simp) rfl rfl (one5 _ _ _ _ _) (by omega) (by omega) (by simp; omega) ?_); intro v3 w3 hown3 hgr3 hbel3 _)
        go_roundw
        case rel =>
          refine ⟨j + 1, by omega, by go_num, ?_, ?_, hbel3 _ (hbel.alloc hsz _)⟩
          · rw [HO.out, cellsO_append]
            exact hown3
          · exact ((bK.alloc _).alloc _).grown hgr3 (bK.ne hown (by decide))
        case measure => simp [intOf]; omega
      · have qx : r4 x := by unfold shI at hshp; dsimp only at hshp; unfold r4 at *; omega
        have qu : r4 u := by unfold shI at hshp; dsimp only at hshp; unfold r4 at *; omega
        have HO := Lib.hid (HST.out ⟨15, nmR K x, y, z, nmR K u⟩ (by simp [rnI]))
        clear HST hshp hk17
        go_wp2_with fail
        refine (keep_name x K w1.heap.size _ (by exact (bK.alloc _).cell 0) qx hK4).mono ?_
        rintro e w' ⟨rfl, rfl⟩
        go_wp2_with fail
        refine (keep_name u K w1.heap.size _ (by exact (bK.alloc _).cell 0) qu hK4).mono ?_
        rintro e w' ⟨rfl, rfl⟩
        go_wp2_with (at_builtin; go_must (refine app_lit eltOp _ rfl _ _ rfl w1.heap.size _ j _ rfl (by exact hown.alloc _) 1 [.int .i64 15, .int .i64 (nmR K x), .int .i64 (y), .int .i64 (z), .int .i64 (nmR K u)] (wr.heap.size + 1) (by simp) rfl rfl (one5 _ _ _ _ _) (by omega) (by omega) (by simp; omega) ?_); intro v3 w3 hown3 hgr3 hbel3 _)
        go_roundw
        case rel =>
          refine ⟨j + 1, by omega, by go_num, ?_, ?_, hbel3 _ (hbel.alloc hsz _)⟩
          · rw [HO.out, cellsO_append]
            exact hown3
          · exact ((bK.alloc _).alloc _).grown hgr3 (bK.ne hown (by decide))
        case measure => simp [intOf]; omega
      · have qx : r4 x := by unfold shI at hshp; dsimp only at hshp; unfold r4 at *; omega
        have HO := Lib.hid (HST.out ⟨16, nmR K x, y, z, u⟩ (by simp [rnI]))
        clear HST hshp hk17
        go_wp2_with fail
        refine (keep_name x K w1.heap.size _ (by exact (bK.alloc _).cell 0) qx hK4).mono ?_
        rintro e w' ⟨rfl, rfl⟩
        go_wp2_with (at_builtin; go_must (refine app_lit eltOp _ rfl _ _ rfl w1.heap.size _ j _ rfl (by exact hown.alloc _) 1 [.int .i64 16, .int .i64 (nmR K x), .int .i64 (y), .int .i64 (z), .int .i64 (u)] (wr.heap.size + 1) (by simp) rfl rfl (one5 _ _ _ _ _) (by omega) (by omega) (by simp; omega) ?_); intro v3 w3 hown3 hgr3 hbel3 _)
        go_roundw
        case rel =>
          refine ⟨j + 1, by omega, by go_num, ?_, ?_, hbel3 _ (hbel.alloc hsz _)⟩
          · rw [HO.out, cellsO_append]
            exact hown3
          · exact ((bK.alloc _).alloc _).grown hgr3 (bK.ne hown (by decide))
        case measure => simp [intOf]; omega
      · have HO := Lib.hid (HST.out ⟨17, x, y, z, u⟩ (by simp [rnI]))
        clear HST hshp hk17
        go_wp2_with (at_builtin; go_must (refine app_lit eltOp _ rfl _ _ rfl w1.heap.size _ j _ rfl (by exact hown.alloc _) 1 [.int .i64 17, .int .i64 (x), .int .i64 (y), .int .i64 (z), .int .i64 (u)] (wr.heap.size + 1) (by simp) rfl rfl (one5 _ _ _ _ _) (by omega) (by omega) (by simp; omega) ?_); intro v3 w3 hown3 hgr3 hbel3 _)
        go_roundw
        case rel =>
          refine ⟨j + 1, by omega, by go_num, ?_, ?_, hbel3 _ (hbel.alloc hsz _)⟩
          · rw [HO.out, cellsO_append]
            exact hown3
          · exact ((bK.alloc _).alloc _).grown hgr3 (bK.ne hown (by decide))
        case measure => simp [intOf]; omega
    · obtain ⟨wo, rfl⟩ : ∃ wo, wo = wr := ⟨wr, rfl⟩
      obtain rfl : j = n3 := by omega
      obtain ⟨A5, c5, rfl, hl5⟩ := own_form hown
      have hro5 : RO wo wo.heap.size A5 j ((kC x0).map (rnI K)) := by
        have := Rd.of_own hown
        rw [List.take_of_length_le (by rw [HL3.out]; exact Nat.le_refl _)] at this
        exact this
      have hrc : RO wo wo.heap.size A3 j (kC x0) := (hro.below hbel).more hsz
      have hb0o : Below w.heap.size w wo := hb1.trans (hbel.mono hs1)
      clear hown bK
      go_wp2_with (at_make; refine make_all eltInt _ rfl _ _ rfl wo.heap.size _ _ _ _ 6 rfl rfl rfl rfl (by omega) (by omega) (Nat.le_refl _) ?_; intro w2 hown2 hbel2 hsz2 hgr2)
      have hb2 : Below wo.heap.size wo w2 := hbel2 _ (Below.refl _ _)
      have hown3 : w2.ownsRow wo.heap.size 3 1 (.slice (some ⟨wo.heap.size, 0, none⟩) 6 6) 6 ((wsJ (fun y => y) x1 0).map (Value.int .i64)) := by
        have := hown2
        rw [made6 (fun y => y) x1] at this
        exact this
      clear hown2 hbel2 hgr2
      go_loopw [16] (fun i w5 => ∃ j2 : Nat, j2 ≤ n1 ∧ j2 ≤ 6 ∧ i = .int .i64 j2 ∧ w5.ownsRow wo.heap.size 3 1 (.slice (some ⟨wo.heap.size, 0, none⟩) 6 6) 6 ((wsJ (fun y => y) x1 j2).map (Value.int .i64)) ∧ Below wo.heap.size wo w5) (fun i _ => 6 - (intOf i).toNat)
      case atStart => exact ⟨0, Nat.zero_le _, by omega, rfl, hown3, hb2⟩
      case round =>
        obtain ⟨w5, rfl⟩ : ∃ w5, w5 = wr := ⟨wr, rfl⟩
        obtain ⟨j2, hj2, hj26, rfl, hown5, hbel5⟩ := hrel
        have hsz5 := hbel5.size
        have hb05 : Below w.heap.size w w5 := hb0o.trans (hbel5.mono hb0o.size)
        by_cases hin2 : j2 < 6 ∧ j2 < n1
        · obtain ⟨hi6, hin22⟩ := hin2
          obtain ⟨b, o, x, rfl, hbB, hcell, HXX, hmem⟩ := (h1.below hb05).val hin22
          have hcw := hown5.cellAt j2 (by omega)
          rw [List.getElem?_map, List.getElem?_eq_getElem (by rw [wsJ_len (by rw [HL1.out]; omega) hj26]; omega), Option.map_some] at hcw
          have hfw := hown5.frozenAt j2
          have hlw := block_lt' hcw
          have HST := Lib.hid (World.ownsRow.stored hown5 j2 (.int .i64 x))
          go_wp2
          go_roundw
          case rel =>
            refine ⟨j2 + 1, by omega, by omega, by go_num, ?_, below_set hbel5 HST.out.2 (Nat.le_refl _) hsz5⟩
            have := HST.out.1
            rw [← List.map_set, wsJ_step (f := fun y => y) HXX.out hi6] at this
            exact this
          case measure => simp [intOf]; omega
        · have HWS : Hid (wsJ (fun y => y) x1 j2 = wsL (fun y => y) x1) := by
            show _ = _
            unfold wsL
            rw [HL1.out, show j2 = min 6 n1 by omega]
          have hrw' : RI w5 w5.heap.size .i64 (some ⟨wo.heap.size, 0, none⟩) 6 (wsL (fun y => y) x1) := by
            have := Rd.of_own hown5
            rw [HWS.out] at this
            exact this
          clear hown5 hown3
          rcases (by omega : ¬ j2 < 6 ∨ (j2 < 6 ∧ ¬ j2 < n1)) with hx2 | hx2
          all_goals
            go_wp2_with (first
              | (at_builtin; go_must (refine app_srcB eltInt w5 rfl _ _ rfl w5.heap.size _ 0 [] rfl (World.ownsRow_nil _ _ _ _) _ _ _ ((wsL (fun y => y) x1).map (Value.int .i64)) rfl _ hrw' (one_ints _ _) (by omega) (by omega) (Nat.le_refl _) ?_); intro v6 w6 hown6 _ hbel6 hsz6 _; obtain ⟨A6, c6, rfl, hlc6⟩ := own_form hown6; rw [List.nil_append, Nat.zero_add] at hown6; have hb6 := hbel6 _ (Below.refl _ _))
              | (go_at_call 21; refine (keep_Picked _ _ _ (by omega) (by omega)).mono ?_; rintro e w' ⟨rfl, rfl⟩))
            clear hbel6
            rw [HLL.out]
            have hs6 := hb6.size
            have hb06 : Below w.heap.size w w6 := hb05.trans (hb6.mono hb05.size)
            have hbo6 : Below wo.heap.size wo w6 := hbel5.trans (hb6.mono hsz5)
            refine (vm_Run (kC x0) [] (wsL (fun y => y) x1) L A3 none A6 j c3 0 0 6 c6 w6 (hT.below hb06 hlt) ((hrc.below hbo6).more hbo6.size) (by omega) (kC_in x0) (RI.nil _ _ _ _) (by omega) (by simp) (by exact Rd.of_own hown6) (by omega) HWI.out T W N E HR.out).mono ?_
            rintro e w7 ⟨P1, p1, g1, P2, p2, g2, rfl, hq1, hq2, _, _, hm1, hm2, hb7⟩
            have hs7 := hb7.size
            have hb07 : Below w.heap.size w w7 := hb06.trans (hb7.mono hb06.size)
            have hbo7 : Below wo.heap.size wo w7 := hbo6.trans (hb7.mono hbo6.size)
            have hb57 : Below w5.heap.size w5 w7 := hb6.trans (hb7.mono hs6)
            have hrw7 := (hrw'.below hb57).more hb57.size
            clear hown6
            go_wp2_with (first
              | (at_builtin; go_must (refine app_srcB eltInt w7 rfl _ _ rfl w7.heap.size _ 0 [] rfl (World.ownsRow_nil _ _ _ _) _ _ _ ((wsL (fun y => y) x1).map (Value.int .i64)) rfl _ hrw7 (one_ints _ _) (by omega) (by omega) (Nat.le_refl _) ?_); intro v8 w8 hown8 _ hbel8 hsz8 _; obtain ⟨A8, c8, rfl, hlc8⟩ := own_form hown8; rw [List.nil_append, Nat.zero_add] at hown8; have hb8 := hbel8 _ (Below.refl _ _))
              | (go_at_call 21; refine (keep_Picked _ _ _ (by omega) (by omega)).mono ?_; rintro e w' ⟨rfl, rfl⟩))
            clear hbel8
            rw [HLL.out]
            have hs8 := hb8.size
            have hb08 : Below w.heap.size w w8 := hb07.trans (hb8.mono hb07.size)
            have hbo8 : Below wo.heap.size wo w8 := hbo7.trans (hb8.mono hbo7.size)
            refine (vm_Run ((kC x0).map (rnI K)) [] (wsL (fun y => y) x1) L A5 none A8 j c5 0 0 6 c8 w8 (hT.below hb08 hlt) ((hro5.below hbo8).more hbo8.size) (by omega) HIN2.out (RI.nil _ _ _ _) (by omega) (by simp) (by exact Rd.of_own hown8) (by omega) HWI.out T W N E HR'.out).mono ?_
            rintro e w9 ⟨Q1, q1, e1, Q2, q2, e2, rfl, hk1, hk2, _, _, hm3, hm4, hb9⟩
            have hs9 := hb9.size
            have hb09 : Below w.heap.size w w9 := hb08.trans (hb9.mono hb08.size)
            have hb79 : Below w7.heap.size w7 w9 := hb8.trans (hb9.mono hs8)
            clear hown8
            go_wp2_with fail
            refine (keep_vmSure w9 (hT.below hb09 hlt)).mono ?_
            rintro e wa ⟨rfl, hba⟩
            have hb0a : Below w.heap.size w wa := hb09.trans (hba.mono hb09.size)
            have s1 : RI wa w7.heap.size .i64 P1 p1 T := (hq1.below hb79).below (hba.mono hb79.size)
            have s2 : RI wa w7.heap.size .i64 P2 p2 W := (hq2.below hb79).below (hba.mono hb79.size)
            have s3 : RI wa w9.heap.size .i64 Q1 q1 T := hk1.below hba
            have s4 : RI wa w9.heap.size .i64 Q2 q2 W := hk2.below hba
            go_wp2_with fail
            refine (keep_sameInts T T P1 Q1 p1 g1 q1 e1 wa _ _ true s1 s3 (by simp) (by omega) (by omega)).mono ?_
            rintro e wb ⟨rfl, kb, rfl⟩
            go_wp2_with fail
            refine (keep_sameInts W W P2 Q2 p2 g2 q2 e2 _ w7.heap.size w9.heap.size true (by exact s2.heap rfl) (by exact s4.heap rfl) (by simp) (by omega) (by omega)).mono ?_
            rintro e wc ⟨rfl, kc, rfl⟩
            go_wp2
            go_ret
            exact ⟨by simp, hb0a.drewN _⟩

theorem own_VmRenamed : ownKnob Tryd.prog.godebug = none := by kernel_rfl
theorem laid_VmRenamed : laidOutB Tryd.prog = true := by kernel_rfl
set_option maxRecDepth 100000 in
theorem lifted_VmRenamed (os : Os) (started : os.Started) (H : Type) (enc : TypeId × Value → H) :
    ReturnsInHanded {} Tryd.checked os 7 .any (fun w args => (Rows.vmRenamedSpec.pre enc Tryd.prog Tryd.f7 [] false w args ∧ laidMetH Tryd.prog laidL w) ∧ sizedMet enc Tryd.prog Tryd.f7 (OpenSpec.ofChange Rows.vmRenamedSpec) false w args)
      (Rows.vmRenamedSpec.post enc Tryd.prog Tryd.f7 false true false false) := by
  refine returnsInHanded_of_change_and (C := Tryd.checked) (X := fun w _ => laidMetH Tryd.prog laidL w) (fun _ _ _ hh h => h.of_heap hh) own_VmRenamed started (by kernel_rfl) Tryd.func7
    (ChangeSpec.witness_shaped (enc := enc) (C := Tryd.checked) (os := os) (X := fun w _ => laidMetH Tryd.prog laidL w) false (World.doorLaid Tryd.prog 400 os) #[.slice none 0 0, .slice none 0 0, .int .i64 0, .int .i64 0] 8 rfl (World.shaped_of_RefB (by kernel_rfl) (by kernel_rfl)) (by kernel_rfl) (by kernel_rfl) (by kernel_rfl) (door_met os _)) ?_
  intro W base args ds gs before hval0 hW hcnd hsz0 hL _
  have hsz : (DataW.weightsEach Tryd.prog (Tryd.f7.params.toList ++ Rows.vmRenamedSpec.plain.varTypes Tryd.prog) (ds ++ gs)).all (· ≤ reachBytes) = true := hsz0
  clear hsz0
  have hval : ∀ (j : Nat) t v, Tryd.f7.params[j]? = some t → args[j]? = some v → Value.okWide Tryd.prog W .any base t v := hval0
  have hW' := hW
  obtain ⟨p, q, hA0, hV, rfl, hfz, hnd⟩ := hW
  have hA : DataW.TrodAll enc Tryd.prog W 0 (fun _ => true) true Tryd.f7.params.toList args.toList ds p := hA0
  rw [Tryd.params7] at hA hval hsz
  obtain ⟨v0, vs0, d0, ds0, p0, q0, hargs, rfl, rfl, h0, r0⟩ := trodAll_cons hA
  obtain ⟨v1, vs1, d1, ds1, p1, q1, rfl, rfl, rfl, h1, r1⟩ := trodAll_cons r0
  obtain ⟨v2, vs2, d2, ds2, p2, q2, rfl, rfl, rfl, h2, r2⟩ := trodAll_cons r1
  obtain ⟨v3, vs3, d3, ds3, p3, q3, rfl, rfl, rfl, h3, r3⟩ := trodAll_cons r2
  obtain ⟨rfl, rfl, rfl⟩ := trodAll_nil r3
  obtain rfl : args = #[v0, v1, v2, v3] := by cases args; simp_all
  obtain ⟨rfl, rfl⟩ := trodVars_none hV
  have k0 := h0
  have lt0 : ∀ x ∈ p0, x.block < W.heap.size := by obtain ⟨m, hm⟩ := k0; exact DataW.trod_lt m _ _ _ hm
  obtain ⟨a0, len0, cap0, rfl⟩ := okWide_slice Tryd.underlying30 (hval 0 30 v0 rfl rfl)
  obtain ⟨x0, ri0, rr0, lc0, hd0⟩ := open_RO Tryd.underlying30 Tryd.underlying80 (by kernel_rfl) Tryd.underlying3 (by kernel_rfl) (by kernel_rfl) h0
  have bd0 : len0 ≤ 3518437208883 := by
    rcases hd0 with ⟨h, _⟩ | ⟨el, sp, hd, hl⟩
    · omega
    · subst hd
      have := sized_slice hsz (j := 0) (t := 30) (e := 80) rfl rfl Tryd.underlying30
      rw [show Tryd.prog.bytesOf 80 = 40 by kernel_rfl] at this
      simp only [reachBytes] at this
      omega
  have k1 := h1
  have lt1 : ∀ x ∈ p1, x.block < W.heap.size := by obtain ⟨m, hm⟩ := k1; exact DataW.trod_lt m _ _ _ hm
  obtain ⟨a1, len1, cap1, rfl⟩ := okWide_slice Tryd.underlying24 (hval 1 24 v1 rfl rfl)
  obtain ⟨x1, ri1, wx1, lc1, hd1⟩ := open_RI Tryd.underlying24 Tryd.underlying3 (by kernel_rfl) h1
  have bd1 : len1 ≤ 17592186044416 := by
    rcases hd1 with ⟨h, _⟩ | ⟨el, sp, hd, hl⟩
    · omega
    · subst hd
      have := sized_slice hsz (j := 1) (t := 24) (e := 3) rfl rfl Tryd.underlying24
      rw [show Tryd.prog.bytesOf 3 = 8 by kernel_rfl] at this
      simp only [reachBytes] at this
      omega
  have rr1 : ∀ x ∈ x1, -9223372036854775808 ≤ x ∧ x ≤ 9223372036854775807 := fun x hx => bounds_i64 (wx1 x hx)
  have k2 := h2
  have lt2 : ∀ x ∈ p2, x.block < W.heap.size := by obtain ⟨m, hm⟩ := k2; exact DataW.trod_lt m _ _ _ hm
  obtain ⟨x2, rfl, rfl, rfl, wx2⟩ := open_int Tryd.underlying3 (hval 2 3 v2 rfl rfl) h2
  have rr2 := bounds_i64 wx2
  have k3 := h3
  have lt3 : ∀ x ∈ p3, x.block < W.heap.size := by obtain ⟨m, hm⟩ := k3; exact DataW.trod_lt m _ _ _ hm
  obtain ⟨x3, rfl, rfl, rfl, wx3⟩ := open_int Tryd.underlying3 (hval 3 3 v3 rfl rfl) h3
  have rr3 := bounds_i64 wx3
  clear hA0 hval0 hsz
  refine (keep_VmRenamed W (of_laid hL) a0 len0 cap0 x0 ri0 bd0 rr0 lc0 a1 len1 cap1 x1 ri1 bd1 rr1 lc1 x2 rr2 x3 rr3).mono fun e W' ⟨he, bel⟩ => ?_
  subst he
  exact ⟨_, rfl, _, _, _, [], _, [], hW', trodAll_mk1 (shut_bool Tryd.underlying4 _), (trodAll_cons_mk (Below.trod laid_VmRenamed (by kernel_rfl) (of_decide_eq_true (by kernel_rfl)) k0 bel lt0) (trodAll_cons_mk (Below.trod laid_VmRenamed (by kernel_rfl) (of_decide_eq_true (by kernel_rfl)) k1 bel lt1) (trodAll_cons_mk (Below.trod laid_VmRenamed (by kernel_rfl) (of_decide_eq_true (by kernel_rfl)) k2 bel lt2) (trodAll_cons_mk (Below.trod laid_VmRenamed (by kernel_rfl) (of_decide_eq_true (by kernel_rfl)) k3 bel lt3) trodAll_mk0)))), rfl, bel.frame _, fun h => by cases h⟩

theorem vmRenamed_holds : Rows.VmRenamedSaid :=
  OpenClaim.holds_of_wide 7 Tryd.f7 rfl rfl rfl rfl rfl rfl rfl ⟨rfl, rfl, rfl, rfl, rfl⟩ rfl rfl rfl rfl rfl (by kernel_rfl) Tryd.func7 (by kernel_rfl)
    (of_decide_eq_true (by kernel_rfl)) (by unfold Func.isWrapper; first | (rw [if_pos (by decide +kernel)]; kernel_rfl) | (rw [if_neg (by decide +kernel)]; exact ⟨rfl, rfl⟩))
    (fun os started H enc _ => lifted_VmRenamed os started H enc)

theorem vmRenamed_card : Rows.VmRenamedCardSaid :=
  Claim7.holds_tied_plain_at .later [] [.data] true (true, "58d819e43b9a1d437716ba237cfa0f32b282f039ee28317ee5c294f83b14d48e") false
    vmRenamed_holds (fun _ h => by cases h) (by kernel_rfl) (fun _ h => by cases h) vmRenamed_row_tie rfl ⟨rfl, rfl⟩ (by kernel_rfl) rfl
    (fun f fn hf hfn => by
      obtain rfl : f = 7 := Option.some.inj ((show Tryd.prog.funcNamed "barograph/barographkeep.VmRenamed" = some 7 by kernel_rfl).symm.trans hf) |>.symm
      obtain rfl : fn = Tryd.f7 := (Option.some.inj (Tryd.func7.symm.trans hfn)).symm
      exact ⟨by kernel_rfl, fun j t ht => by
        rw [Tryd.params7] at ht
        have hm : t ∈ [30, 24, 3, 3] := by simpa using Array.mem_of_getElem? ht
        have hall : ([30, 24, 3, 3].all fun u => !Tryd.prog.wantsStandIn u) = true := by kernel_rfl
        exact (show Tryd.prog.wantsStandIn t = false by simpa using List.all_eq_true.1 hall t hm)⟩)
    (by kernel_rfl)
end Go.Proofs.YtjihopbapnfppaaDoor
