/- The histories that are drawn. No statement of the seat is proved here; no condition. -/
import Derived.Test.YtdoniefhmmodbaaKeepLin1
import Derived.Test.YtdoniefhmmodbaaLinPure3
import Derived.Test.YtdoniefhmmodbaaLibE
set_option linter.unusedSimpArgs false
set_option linter.unusedVariables false
namespace Go.Proofs.Ytdoniefhmmodbaa
open Go.RowKit Go.Ord Go.Baro

theorem oneAct (a b c e : Int) (d : Bool) : ∀ u ∈ [Value.int .i64 a, .int .i64 b, .bool d, .int .i64 c, .int .i64 e], u.oneCell' = true := by simp [Value.oneCell']

set_option maxRecDepth 100000 in
set_option maxHeartbeats 4000000 in
theorem keep_Sequence (w : World) (k first : Int) (A : Option Addr) (n c : Nat) (l : List Dl) (wide : Bool) (hk : 1 ≤ k ∧ k ≤ 4) (hf : 0 ≤ first ∧ first ≤ 4) (h : RD w w.heap.size A n l) (hn : n ≤ 3518437208883) (hi : ∀ d ∈ l, inD d) :
    Calls Try.prog 15 #[.int .i64 k, .int .i64 first, .slice A n c, .bool wide] w fun e w' => ∃ A' n' c', e = .returned (.slice A' n' c') ∧ w'.ownsRow w.heap.size 34 5 (.slice A' n' c') n' ((sqA k wide 0 (has0 k first) (l.take 9)).flatMap acV) ∧ n' ≤ 9 ∧ n' ≤ c' ∧ Below w.heap.size w w' := by
  have HL := Lib.hid h.len
  have HI := Lib.hid hi
  have h0 := Below.refl w.heap.size w
  have hlit : RI (w.alloc (Obj.cells #[.int .i64 first] 3)) (w.alloc (Obj.cells #[.int .i64 first] 3)).heap.size .i64 (some ⟨w.heap.size, 0, none⟩) 1 [first] := RI.more (RI_litL w 3 .i64 [first] 1 w.heap.size rfl rfl) (by simp)
  have HS0 : Hid (∀ x ∈ has0 k first, 0 ≤ x ∧ x ≤ 4) := by
    intro x hx
    unfold has0 at hx
    split at hx
    · rw [List.mem_singleton.1 hx]; omega
    · simp at hx
  have HS := Lib.hid (fun j (hj : j ≤ 9) => sqH_small (k := k) (l.take j) (has0 k first) 4 (by omega) (by simp; omega) HS0.out)
  by_cases h3 : 2 < k
  all_goals (
    go_enter Try.func15, Try.ntmps15
    go_wp2
    go_loopw [9, 10, 11] (fun hs ov i wr => ∃ (j : Nat) (hA : Option Addr) (hn hc : Nat), j ≤ n ∧ j ≤ 9 ∧ i = .int .i64 j ∧ hs = .slice hA hn hc ∧ Hid (RI wr wr.heap.size .i64 hA hn (sqH k (has0 k first) (l.take j))) ∧ hn ≤ hc ∧ hn ≤ j + 1 ∧ Hid (k < 3 → hn = 1) ∧ Hid (wr.ownsRow w.heap.size 34 5 ov j ((sqA k wide 0 (has0 k first) (l.take j)).flatMap acV)) ∧ Hid (0 < hn → ∀ b o, hA = some ⟨b, o, none⟩ → ov.ownBlock ≠ some b) ∧ Below w.heap.size w wr ∧ ∃ A n c, ov = .slice A n c) (fun _ _ i _ => 9 - (intOf i).toNat)
    case atStart =>
      have hh : has0 k first = if k < 3 then [first] else [] := rfl
      by_cases h4 : k < 3
      · first
          | exact absurd h4 (by omega)
          | (rw [if_pos h4] at hh
             refine ⟨0, _, _, _, Nat.zero_le _, by omega, rfl, rfl, ?_, Nat.le_refl _, Nat.le_refl _, fun _ => rfl, World.ownsRow_nil _ _ _ _, fun _ b o _ h => (by cases h), h0.alloc (Nat.le_refl _) _, _, _, _, rfl⟩
             show RI _ _ _ _ _ (has0 k first)
             rw [hh]
             exact hlit)
      · first
          | exact absurd (show k < 3 by omega) h4
          | (rw [if_neg h4] at hh
             refine ⟨0, _, _, _, Nat.zero_le _, by omega, rfl, rfl, ?_, Nat.le_refl _, by omega, fun h => absurd h h4, World.ownsRow_nil _ _ _ _, fun h => absurd h (by omega), h0.alloc (Nat.le_refl _) _, _, _, _, rfl⟩
             show RI _ _ _ _ _ (has0 k first)
             rw [hh]
             exact RI.nil _ _ _ _)
    case round =>
      obtain ⟨j, hA, hn', hc, hj, hj9, rfl, rfl, HRI, hnc, hnj, HK1, HOW, HBK, hbel, Ao, no, co, rfl⟩ := hrel
      have hsz := hbel.size
      obtain rfl : j = no := by
        obtain ⟨_, _, he, _⟩ := own_form HOW.out
        injection he with _ he
        exact he.symm
      by_cases hjm : j < n ∧ j < 9
      · obtain ⟨hjn, hj8⟩ := hjm
        obtain ⟨bd, od, d, rfl, hbB, f0, f1, f2, f3, f4, HX, hmem⟩ := h.val hjn
        have hid := HI.out d hmem
        obtain ⟨dp, dv, de, dl, dn⟩ := d
        dsimp only at f0 f1 f2 f3 f4
        obtain ⟨hdv, hde, hdl⟩ := hid
        dsimp only at hdv hde hdl
        have g0 := (hbel.cell (p := ⟨bd, od + j * 5, none⟩) hbB).trans f0
        have g1 := (hbel.cell (p := ⟨bd, od + j * 5 + 1, none⟩) hbB).trans f1
        have lbd : bd < wr.heap.size := by omega
        obtain ⟨tv, ta, tn, htl⟩ : ∃ tv ta tn, tl k (sqH k (has0 k first) (l.take j)) dp (dv % 4) = (tv, ta, tn) := ⟨_, _, _, rfl⟩
        have hsm := tl_small (k := k) (put := dp) (v := dv % 4) (m := 40) (by omega) (by omega) (has := sqH k (has0 k first) (l.take j)) (fun x hx => by have := HS.out j hj9 x hx; simp at this; omega)
        have hln := tl_len k (sqH k (has0 k first) (l.take j)) dp (dv % 4)
        have hct := keep_tell wr.drew k hA hn' hc (sqH k (has0 k first) (l.take j)) dp (dv % 4) (Rd.heap HRI.out rfl) hk HK1.out (by omega) hnc
        rw [htl] at hsm hln hct
        dsimp only at hsm hln hct
        have HTL := Lib.hid htl
        have HCT := Lib.hid hct
        have HLN := Lib.hid hln
        obtain ⟨⟨hv1, hv2⟩, ⟨ha1, ha2⟩, _⟩ := hsm
        have HHL := Lib.hid HRI.out.len
        clear htl hct hln hmem
        go_wp2
        refine region_first [0, 1, 2, 3, 4, 5, 6, 7, 8, 9, 10, 11] (.cons 12 (seq [13, 14, 15, 16, 17, 18, 19, 20] .nil)) (by kernel_rfl) (by kernel_rfl) ?_
        simp only [pick, List.map_cons, List.map_nil, List.getD_cons_zero, List.getD_cons_succ]
        go_wp2
        refine ord_call (by kernel_rfl) ?_
        simp only [pick, List.map_cons, List.map_nil, List.getD_cons_zero, List.getD_cons_succ]
        go_wp2_with fail
        refine (keep_Picked dv 4 _ (by omega) (by omega)).mono ?_
        rintro e w' ⟨rfl, rfl⟩
        go_wp2
        refine ord_last [13, 14, 15, 16, 17, 18, 19, 20] (by kernel_rfl) ?_
        simp only [pick, List.map_cons, List.map_nil, List.getD_cons_zero, List.getD_cons_succ]
        go_wp2_with fail
        refine HCT.out.mono ?_
        rintro e w5 ⟨A5, n5, c5, rfl, hri5, hlc5, hb5, hblk5⟩
        have hbel5 : Below w.heap.size w w5 := hbel.drew.trans (hb5.mono hsz)
        have hs5 : wr.heap.size ≤ w5.heap.size := hb5.size
        have q0 := (hbel5.cell (p := ⟨bd, od + j * 5, none⟩) hbB).trans f0
        have q2 := (hbel5.cell (p := ⟨bd, od + j * 5 + 2, none⟩) hbB).trans f2
        have q3 := (hbel5.cell (p := ⟨bd, od + j * 5 + 3, none⟩) hbB).trans f3
        have q4 := (hbel5.cell (p := ⟨bd, od + j * 5 + 4, none⟩) hbB).trans f4
        have lb5 : bd < w5.heap.size := by omega
        have HOV5 := Lib.hid (show w5.ownsRow w.heap.size 34 5 (.slice Ao j co) j ((sqA k wide 0 (has0 k first) (l.take j)).flatMap acV) from own_below (w := wr.drew) HOW.out hb5)
        have HRI5 := Lib.hid hri5
        have HB5 := Lib.hid hblk5
        obtain ⟨pe, hpe⟩ : ∃ pe, pe = de % 40 := ⟨_, rfl⟩
        obtain ⟨pl, hpl⟩ : ∃ pl, pl = dl % 40 := ⟨_, rfl⟩
        have hpe1 : 0 ≤ pe ∧ pe < 40 := by omega
        have hpl1 : 0 ≤ pl ∧ pl < 40 := by omega
        have HPE := Lib.hid hpe
        have HPL := Lib.hid hpl
        obtain ⟨hpe2, hpe3⟩ := hpe1
        obtain ⟨hpl2, hpl3⟩ := hpl1
        have hn5 : n5 ≤ hn' + 1 := by have := HLN.out.1; rw [HHL.out, hri5.len] at this; exact this
        have HK5 : Hid (k < 3 → n5 = 1) := fun h9 => by have := HLN.out.2 h9 hk.1 (by rw [HHL.out]; exact HK1.out h9); rw [hri5.len] at this; exact this
        -- what a round leaves
        have HEND : Hid (∀ (wx w6 : World) (X Y : Int) (v6 : Value) (o : Obj), (X, Y) = (if wide = true then (100 + 10 * (j : Int) - pe, if dn = true then -1 else 105 + 10 * (j : Int) + pl) else (100 + 10 * (j : Int), 105 + 10 * (j : Int))) → Un (fun _ => False) w5 wx → w6.ownsRow w.heap.size 34 5 v6 (j + 1) ((sqA k wide 0 (has0 k first) (l.take j)).flatMap acV ++ [.int .i64 X, .int .i64 Y, .bool dp, .int .i64 tv, .int .i64 ta]) → (wx.alloc o).grownBy w6 (Value.slice Ao j co).ownBlock → (v6.ownBlock = (Value.slice Ao j co).ownBlock ∨ v6.ownBlock = some (wx.heap.size + 1)) →
            Hid (RI w6 w6.heap.size .i64 A5 n5 (sqH k (has0 k first) (l.take (j + 1)))) ∧ Hid (w6.ownsRow w.heap.size 34 5 v6 (j + 1) ((sqA k wide 0 (has0 k first) (l.take (j + 1))).flatMap acV)) ∧ Hid (0 < n5 → ∀ b o, A5 = some ⟨b, o, none⟩ → v6.ownBlock ≠ some b) ∧ Below w.heap.size w w6 ∧ ∃ A n c, v6 = .slice A n c) := by
          intro wx w6 X Y v6 o hXY hux hown hg hblk
          have hu6 : Un (fun q => some q = (Value.slice Ao j co).ownBlock) w5 w6 := un_grown (((hux.wider (fun _ _ h => h.elim))).alloc o) hg (fun q hq => hq.symm)
          have hap : ∀ b o, 0 < n5 → A5 = some ⟨b, o, none⟩ → some b ≠ (Value.slice Ao j co).ownBlock := by
            intro b o h0 hA5 he
            rcases HB5.out b o hA5 with ⟨o', h1, h2⟩ | h1
            · exact HBK.out (by omega) b o' h1 he.symm
            · have := (HOW.out.lt b he.symm).2
              have h1' : wr.heap.size ≤ b := h1
              omega
          refine ⟨?_, ?_, ?_, ?_, ?_⟩
          · show RI _ _ _ _ _ _
            rw [at_take HX.out, sqH_snoc, HTL.out]
            exact Rd.more (Rd.un HRI5.out hu6 (Nat.le_refl _) (fun h0 b o hA5 he => hap b o h0 hA5 he)) hu6.size
          · show World.ownsRow _ _ _ _ _ _ _
            rw [at_take HX.out, sqA_snoc, HTL.out, List.flatMap_append]
            have he : acT (0 + (l.take j).length) ⟨dp, dv, de, dl, dn⟩ wide tv ta = ⟨X, Y, dp, tv, ta⟩ := by
              rw [List.length_take, Nat.min_eq_left (by rw [HL.out]; omega), Nat.zero_add]
              unfold acT
              dsimp only
              rw [← HPE.out, ← HPL.out]
              cases wide with
              | true => simp at hXY; obtain ⟨rfl, rfl⟩ := hXY; simp
              | false => simp at hXY; obtain ⟨rfl, rfl⟩ := hXY; simp
            dsimp only
            rw [he]
            exact hown
          · intro h0 b o hA5 he
            rcases hblk with hb | hb
            · rw [hb] at he; exact hap b o h0 hA5 he.symm
            · rw [hb] at he
              injection he with he
              obtain ⟨bb, oo, hA', hlt, _⟩ := Rd.at_ HRI5.out h0
              rw [hA5] at hA'
              injection hA' with hA'
              injection hA' with hA' _
              have := hux.size
              omega
          · have := hu6.below (B := w.heap.size) (by omega) (fun q hq he => by have := (HOW.out.lt q he.symm).1; omega)
            exact hbel5.trans this
          · obtain ⟨A, c, he, _⟩ := own_form hown
            exact ⟨A, _, c, he⟩
        clear hpe hpl hri5 hblk5 f0 f1 f2 f3 f4 g0 g1
        cases wide with
        | false =>
          go_wp2_with (at_builtin; go_must (refine app_litB eltAct _ rfl _ _ rfl w.heap.size (.slice Ao j co) j ((sqA k false 0 (has0 k first) (l.take j)).flatMap acV) rfl (by exact HOV5.out.alloc _) 1 [.int .i64 (100 + 10 * (j : Int)), .int .i64 (105 + 10 * (j : Int)), .bool dp, .int .i64 tv, .int .i64 ta] _ (by simp) rfl rfl (oneAct _ _ _ _ _) (by omega) (by omega) (by simp; omega) ?_); intro v6 w6 hown6 hg6 hblk6; obtain ⟨hr1, hr2, hr3, hr4, A6, n6, c6, rfl⟩ := HEND.out (w5.alloc (Obj.cells #[.int .i64 (100 + 10 * (j : Int)), .int .i64 (105 + 10 * (j : Int)), .bool dp, .int .i64 tv, .int .i64 ta] 34)) w6 _ _ v6 _ (by simp) ((Un.refl _ _).alloc _) hown6 hg6 hblk6; clear hown6 hg6 hblk6)
          go_roundw
          case rel => exact ⟨j + 1, A5, n5, c5, by omega, by omega, by go_num, rfl, hr1, hlc5, by omega, HK5.out, hr2, hr3, hr4, _, _, _, rfl⟩
          case measure => simp [intOf]; omega
        | true =>
          cases dn with
          | true =>
            go_wp2
            refine region_first [0, 1, 2, 3, 4, 5, 6] (.cons 7 (seq [8, 9] (seq [10] .nil))) (by kernel_rfl) (by kernel_rfl) ?_
            simp only [pick, List.map_cons, List.map_nil, List.getD_cons_zero, List.getD_cons_succ]
            go_wp2
            refine ord_call (by kernel_rfl) ?_
            simp only [pick, List.map_cons, List.map_nil, List.getD_cons_zero, List.getD_cons_succ]
            go_wp2_with fail
            refine (keep_Picked de 40 _ (by omega) (by omega)).mono ?_
            rintro e w' ⟨rfl, rfl⟩
            rw [← HPE.out]
            go_wp2
            refine ord_more [8, 9] (seq [10] .nil) (by kernel_rfl) ?_
            simp only [pick, List.map_cons, List.map_nil, List.getD_cons_zero, List.getD_cons_succ]
            go_wp2
            refine ord_last [10] (by kernel_rfl) ?_
            simp only [pick, List.map_cons, List.map_nil, List.getD_cons_zero, List.getD_cons_succ]
            go_wp2
            refine region_first [0, 1, 2, 3, 4, 5, 6] (.cons 7 (seq [8, 9] (seq [10] .nil))) (by kernel_rfl) (by kernel_rfl) ?_
            simp only [pick, List.map_cons, List.map_nil, List.getD_cons_zero, List.getD_cons_succ]
            go_wp2
            refine ord_call (by kernel_rfl) ?_
            simp only [pick, List.map_cons, List.map_nil, List.getD_cons_zero, List.getD_cons_succ]
            go_wp2_with fail
            refine (keep_Picked dl 40 _ (by omega) (by omega)).mono ?_
            rintro e w' ⟨rfl, rfl⟩
            rw [← HPL.out]
            go_wp2
            refine ord_more [8, 9] (seq [10] .nil) (by kernel_rfl) ?_
            simp only [pick, List.map_cons, List.map_nil, List.getD_cons_zero, List.getD_cons_succ]
            go_wp2
            refine ord_last [10] (by kernel_rfl) ?_
            simp only [pick, List.map_cons, List.map_nil, List.getD_cons_zero, List.getD_cons_succ]
            go_wp2_with (at_builtin; go_must (refine app_litB eltAct (w5.alloc (Obj.cells #[.int .i64 (100 + 10 * (j : Int) - pe), .int .i64 (-1), .bool dp, .int .i64 tv, .int .i64 ta] 34)).drew.drew rfl _ _ rfl w.heap.size (.slice Ao j co) j ((sqA k true 0 (has0 k first) (l.take j)).flatMap acV) rfl (by exact HOV5.out.alloc _) 1 [.int .i64 (100 + 10 * (j : Int) - pe), .int .i64 (-1), .bool dp, .int .i64 tv, .int .i64 ta] _ (by simp) rfl rfl (oneAct _ _ _ _ _) (by omega) (by omega) (by simp; omega) ?_); intro v6 w6 hown6 hg6 hblk6)
            have hE := HEND.out (w5.alloc (Obj.cells #[.int .i64 (100 + 10 * (j : Int) - pe), .int .i64 (-1), .bool dp, .int .i64 tv, .int .i64 ta] 34)).drew.drew w6 _ _ v6 _ (by simp) (((Un.refl _ _).alloc _).drew.drew) hown6 hg6 hblk6
            obtain ⟨hr1, hr2, hr3, hr4, A6, n6, c6, he6⟩ := hE
            clear hown6 hg6 hblk6
            go_roundw
            case rel => exact ⟨j + 1, A5, n5, c5, by omega, by omega, by go_num, rfl, hr1, hlc5, by omega, HK5.out, hr2, hr3, hr4, A6, n6, c6, he6⟩
            case measure => simp [intOf]; omega
          | false =>
            go_wp2
            refine region_first [0, 1, 2, 3, 4, 5, 6] (.cons 7 (seq [8, 9] (seq [10] .nil))) (by kernel_rfl) (by kernel_rfl) ?_
            simp only [pick, List.map_cons, List.map_nil, List.getD_cons_zero, List.getD_cons_succ]
            go_wp2
            refine ord_call (by kernel_rfl) ?_
            simp only [pick, List.map_cons, List.map_nil, List.getD_cons_zero, List.getD_cons_succ]
            go_wp2_with fail
            refine (keep_Picked de 40 _ (by omega) (by omega)).mono ?_
            rintro e w' ⟨rfl, rfl⟩
            rw [← HPE.out]
            go_wp2
            refine ord_more [8, 9] (seq [10] .nil) (by kernel_rfl) ?_
            simp only [pick, List.map_cons, List.map_nil, List.getD_cons_zero, List.getD_cons_succ]
            go_wp2
            refine ord_last [10] (by kernel_rfl) ?_
            simp only [pick, List.map_cons, List.map_nil, List.getD_cons_zero, List.getD_cons_succ]
            go_wp2
            refine region_first [0, 1, 2, 3, 4, 5, 6] (.cons 7 (seq [8, 9] (seq [10] .nil))) (by kernel_rfl) (by kernel_rfl) ?_
            simp only [pick, List.map_cons, List.map_nil, List.getD_cons_zero, List.getD_cons_succ]
            go_wp2
            refine ord_call (by kernel_rfl) ?_
            simp only [pick, List.map_cons, List.map_nil, List.getD_cons_zero, List.getD_cons_succ]
            go_wp2_with fail
            refine (keep_Picked dl 40 _ (by omega) (by omega)).mono ?_
            rintro e w' ⟨rfl, rfl⟩
            rw [← HPL.out]
            go_wp2
            refine ord_more [8, 9] (seq [10] .nil) (by kernel_rfl) ?_
            simp only [pick, List.map_cons, List.map_nil, List.getD_cons_zero, List.getD_cons_succ]
            go_wp2
            refine ord_last [10] (by kernel_rfl) ?_
            simp only [pick, List.map_cons, List.map_nil, List.getD_cons_zero, List.getD_cons_succ]
            go_wp2_with (at_builtin; go_must (refine app_litB eltAct (w5.alloc (Obj.cells #[.int .i64 (100 + 10 * (j : Int) - pe), .int .i64 (105 + 10 * (j : Int) + pl), .bool dp, .int .i64 tv, .int .i64 ta] 34)).drew.drew rfl _ _ rfl w.heap.size (.slice Ao j co) j ((sqA k true 0 (has0 k first) (l.take j)).flatMap acV) rfl (by exact HOV5.out.alloc _) 1 [.int .i64 (100 + 10 * (j : Int) - pe), .int .i64 (105 + 10 * (j : Int) + pl), .bool dp, .int .i64 tv, .int .i64 ta] _ (by simp) rfl rfl (oneAct _ _ _ _ _) (by omega) (by omega) (by simp; omega) ?_); intro v6 w6 hown6 hg6 hblk6)
            have hE := HEND.out (w5.alloc (Obj.cells #[.int .i64 (100 + 10 * (j : Int) - pe), .int .i64 (105 + 10 * (j : Int) + pl), .bool dp, .int .i64 tv, .int .i64 ta] 34)).drew.drew w6 _ _ v6 _ (by simp) (((Un.refl _ _).alloc _).drew.drew) hown6 hg6 hblk6
            obtain ⟨hr1, hr2, hr3, hr4, A6, n6, c6, he6⟩ := hE
            clear hown6 hg6 hblk6
            go_roundw
            case rel => exact ⟨j + 1, A5, n5, c5, by omega, by omega, by go_num, rfl, hr1, hlc5, by omega, HK5.out, hr2, hr3, hr4, A6, n6, c6, he6⟩
            case measure => simp [intOf]; omega
      · have htk : l.take j = l.take 9 := by
          have := HL.out
          by_cases h9 : j = 9
          · rw [h9]
          · rw [List.take_of_length_le (by omega), List.take_of_length_le (by omega)]
        have HT := Lib.hid htk
        clear htk
        rcases (by omega : ¬ j < n ∨ (j < n ∧ ¬ j < 9)) with c1 | ⟨c1, c2⟩
        all_goals (
          go_wp2
          go_ret
          obtain ⟨_, _, he, hlc⟩ := own_form HOW.out
          injection he with he1 he2 he3
          refine ⟨_, _, _, rfl, ?_, hj9, by rw [he3]; exact hlc, hbel⟩
          have := HOW.out
          rw [HT.out] at this
          exact this)
  )
end Go.Proofs.Ytdoniefhmmodbaa
