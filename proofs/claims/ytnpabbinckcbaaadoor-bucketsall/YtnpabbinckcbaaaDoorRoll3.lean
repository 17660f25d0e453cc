/- What roll.Buckets does. No statement of the seat is proved here; no condition. -/
import Derived.Test.YtnpabbinckcbaaaDoorRoll2
import Derived.Test.YtnpabbinckcbaaaDoorBucketPure
set_option linter.unusedSimpArgs false
set_option linter.unusedVariables false
namespace Go.Proofs.YtnpabbinckcbaaaDoor
open Go.RowKit Go.Ord Go.Baro

theorem eltRoll : Elt Tryd.prog 29 24 (.agg #[.int .i64 0, .int .i64 0, .int .i64 0, .int .i64 0]) 4 32 := Elt.mk' Tryd.underlying29 (by kernel_rfl) rfl (by decide)
theorem one4 (a b c d : Int) : ∀ u ∈ [Value.int .i64 a, Value.int .i64 b, Value.int .i64 c, Value.int .i64 d], u.oneCell' = true := by
  intro u hu; simp only [List.mem_cons, List.not_mem_nil, or_false] at hu; rcases hu with rfl | rfl | rfl | rfl <;> rfl
theorem beg_pos {t d : Int} (hd : 0 < d) (h : ¬ t.tmod d < 0) : t - t.tmod d = beg d t := by
  have h1 := Int.tmod_eq_emod (a := t) (b := d)
  have h2 := Int.emod_nonneg t (show d ≠ 0 by omega)
  have h3 := Int.emod_lt_of_pos t hd
  unfold beg
  rw [h1] at h ⊢
  split <;> simp_all <;> omega
theorem beg_neg {t d : Int} (hd : 0 < d) (h : t.tmod d < 0) : t - (t.tmod d + d) = beg d t := by
  have h1 := Int.tmod_eq_emod (a := t) (b := d)
  have h2 := Int.emod_nonneg t (show d ≠ 0 by omega)
  have h3 := Int.emod_lt_of_pos t hd
  unfold beg
  rw [h1] at h ⊢
  split <;> simp_all <;> omega
theorem roll_startOf (t d : Int) (w : World) (hd : 1 ≤ d ∧ d ≤ 1048576) (ht : InR t) :
    Calls Tryd.prog 22 #[.int .i64 t, .int .i64 d] w fun e w' => e = .returned (.int .i64 (beg d t)) ∧ w = w' := by
  have hb1 : -d < t.tmod d := Int.lt_tmod_of_pos t (by omega)
  have hb2 : t.tmod d < d := Int.tmod_lt_of_pos t (by omega)
  have hne : (d == 0) = false := by simp; omega
  unfold InR at ht
  by_cases h : t.tmod d < 0
  · have H := Lib.hid (beg_neg (by omega) h)
    go_enter Tryd.func22, Tryd.ntmps22
    go_wp2
    go_ret
    exact ⟨ret_int H.out, rfl⟩
  · have H := Lib.hid (beg_pos (by omega) h)
    go_enter Tryd.func22, Tryd.ntmps22
    go_wp2
    go_ret
    exact ⟨ret_int H.out, rfl⟩

theorem grown_set4 (w : World) (g a b c d : Nat) (u0 u1 u2 u3 : Value) : w.grownBy ((((w.setCell ⟨g, a, none⟩ u0).setCell ⟨g, b, none⟩ u1).setCell ⟨g, c, none⟩ u2).setCell ⟨g, d, none⟩ u3) (some g) :=
  grown_trans (grown_trans (grown_trans (grown_setCell w ⟨g, a, none⟩ u0) (grown_setCell _ ⟨g, b, none⟩ u1)) (grown_setCell _ ⟨g, c, none⟩ u2)) (grown_setCell _ ⟨g, d, none⟩ u3)
/-- The last roll of a row is written anew. -/
theorem own_four {w : World} {base : Nat} {g n c m : Nat} {R : List Rl} {a : Rl} (h : w.ownsRow base 24 4 (.slice (some ⟨g, 0, none⟩) n c) n (cellsR (R ++ [a]))) (hm : R.length = m) (b : Rl) :
    ((((w.setCell ⟨g, m * 4, none⟩ (.int .i64 b.c)).setCell ⟨g, m * 4 + 1, none⟩ (.int .i64 b.lo)).setCell ⟨g, m * 4 + 2, none⟩ (.int .i64 b.hi)).setCell ⟨g, m * 4 + 3, none⟩ (.int .i64 b.s)).ownsRow base 24 4 (.slice (some ⟨g, 0, none⟩) n c) n (cellsR (R ++ [b])) := by
  rw [← cellsR_set R a b m hm]
  exact (World.ownsRow.stored (World.ownsRow.stored (World.ownsRow.stored (World.ownsRow.stored h (m * 4) (.int .i64 b.c)).1 (m * 4 + 1) (.int .i64 b.lo)).1 (m * 4 + 2) (.int .i64 b.hi)).1 (m * 4 + 3) (.int .i64 b.s)).1
theorem own_last {w : World} {base : Nat} {g n c m : Nat} {R : List Rl} {a : Rl} (h : w.ownsRow base 24 4 (.slice (some ⟨g, 0, none⟩) n c) n (cellsR (R ++ [a]))) (hm : R.length = m) (hn : n = m + 1) :
    (w.cell? ⟨g, m * 4, none⟩ = some (.int .i64 a.c) ∧ w.cell? ⟨g, m * 4 + 1, none⟩ = some (.int .i64 a.lo) ∧ w.cell? ⟨g, m * 4 + 2, none⟩ = some (.int .i64 a.hi) ∧ w.cell? ⟨g, m * 4 + 3, none⟩ = some (.int .i64 a.s)) ∧
      (w.frozen? ⟨g, m * 4, none⟩ = false ∧ w.frozen? ⟨g, m * 4 + 1, none⟩ = false ∧ w.frozen? ⟨g, m * 4 + 2, none⟩ = false ∧ w.frozen? ⟨g, m * 4 + 3, none⟩ = false) := by
  obtain ⟨h1, h2, h3, h4⟩ := cellsR_at (R ++ [a]) m a (by rw [List.getElem?_append_right (by omega), hm]; simp)
  refine ⟨⟨?_, ?_, ?_, ?_⟩, h.frozenAt _, h.frozenAt _, h.frozenAt _, h.frozenAt _⟩
  · rw [h.cellAt _ (by omega), h1]
  · rw [h.cellAt _ (by omega), h2]
  · rw [h.cellAt _ (by omega), h3]
  · rw [h.cellAt _ (by omega), h4]
theorem own_lastF {w : World} {base : Nat} {e : TypeId} {g n c m : Nat} {F : List (Int × Int)} {a : Int × Int} (h : w.ownsRow base e 2 (.slice (some ⟨g, 0, none⟩) n c) n (cellsF (F ++ [a]))) (hm : F.length = m) (hn : n = m + 1) :
    w.cell? ⟨g, m * 2, none⟩ = some (.int .i64 a.1) := by
  obtain ⟨h1, h2⟩ := cellsF_at (F ++ [a]) m a (by rw [List.getElem?_append_right (by omega), hm]; simp)
  rw [h.cellAt _ (by omega), h1]
theorem Box_far {w : World} {b base : Nat} {t e : TypeId} {cs xs : List Value} {s n : Nat} {v : Value} (h : Box w b t cs) (ho : w.ownsRow base e s v n xs) (hb : w.heap.size ≤ b + 1) (hne : ∀ k, v.ownBlock = some k → k < b) : some b ≠ v.ownBlock := by
  intro he
  have := hne b he.symm
  omega

/-- What Buckets leaves. -/
def BuPost (l : List (Int × Int)) (d : Int) (w : World) (e : Ending) (w' : World) : Prop :=
  ∃ v1 v2, e = .returned (.tuple #[v1, v2, .int .i64 (buC l d)]) ∧ w'.ownsRow w.heap.size 39 2 v1 (buP l d).length (cellsF (bkF d (buP l d))) ∧ w'.ownsRow w.heap.size 24 4 v2 (buP l d).length (cellsR (bkR (buP l d))) ∧ Below w.heap.size w w'
theorem bu_bad {l : List (Int × Int)} {d : Int} {w w' : World} {k : Int} (h : buC l d = k ∧ buP l d = []) (hb : Below w.heap.size w w') : BuPost l d w (.returned (.tuple #[.slice none 0 0, .slice none 0 0, .int .i64 k])) w' := by
  refine ⟨_, _, by rw [h.1], ?_, ?_, hb⟩
  · rw [h.2]; exact World.ownsRow_nil _ _ _ _
  · rw [h.2]; exact World.ownsRow_nil _ _ _ _

set_option maxRecDepth 100000 in
set_option maxHeartbeats 4000000 in
theorem roll_Buckets (l : List (Int × Int)) (A : Option Addr) (n c : Nat) (d : Int) (w : World) (hT : Tab w) (hb : RF w w.heap.size A n l) (hn : n ≤ 8796093022208) :
    Calls Tryd.prog 10 #[.slice A n c, .int .i64 d] w (BuPost l d w) := by
  have HL := Lib.hid hb.len
  have h0 : Below w.heap.size w w := Below.refl _ _
  have lT := hT.lt
  have hA := h0.alloc (Nat.le_refl _) (Obj.cells #[.int .i64 d] 3)
  by_cases hd : 1 ≤ d ∧ d ≤ 1048576
  · by_cases hz : chC l = 0
    · have HZ := Lib.hid hz
      have hn2 : n ≤ 120 := by rw [← HL.out]; exact (chC_zero hz).1
      clear hz
      obtain ⟨r, hr⟩ : ∃ r, r = ofR l := ⟨_, rfl⟩
      have HR := Lib.hid hr
      clear hr
      obtain ⟨rc, rlo, rhi, rs⟩ := r
      go_enter Tryd.func10, Tryd.ntmps10
      go_wp2_with fail
      refine (roll_within 1 1048576 [d] _ _ _ _ _ true (RI_lit _ _ .i64 [d] 1 _ rfl rfl) (by omega) (by simp; omega)).mono ?_
      rintro e w' ⟨rfl, rfl⟩
      go_wp2_with fail
      refine (roll_Of l _ _ _ ⟨rc, rlo, rhi, rs⟩ 0 _ (hT.below hA lT) ((hb.below hA).more hA.size) hn HR.out HZ.out.symm).mono ?_
      rintro e w1 ⟨rfl, hb1⟩
      have hA1 := hA.trans (hb1.mono hA.size)
      clear hA hb1
      unfold rlV
      dsimp only
      have hd1 := hd.1
      have hd2 := hd.2
      go_wp2
      go_loopw [9, 10, 29] (fun v v' i wr => ∃ (j k : Nat) (P : List (List (Int × Int))), j ≤ n ∧ i = .int .i64 j ∧ Hid (P = bkP d (l.take j)) ∧ Hid (P.length = k) ∧ k ≤ j ∧ wr.ownsRow w.heap.size 39 2 v k (cellsF (bkF d P)) ∧ wr.ownsRow w.heap.size 24 4 v' k (cellsR (bkR P)) ∧ Below w.heap.size w wr) (fun _ _ i _ => n - (intOf i).toNat)
      case atStart => exact ⟨0, 0, [], Nat.zero_le _, rfl, rfl, rfl, Nat.le_refl _, World.ownsRow_nil _ _ _ _, World.ownsRow_nil _ _ _ _, hA1.alloc hA1.size _⟩
      case round =>
        obtain ⟨j, k, P, hj, rfl, HP, HK, hkj, hF, hR, hbel⟩ := hrel
        have hsz := hbel.size
        by_cases hlt : j < n
        · obtain ⟨b, o, x, y, rfl, hbb, hcx, hcy, HX, hmem⟩ := (hb.below hbel).val hlt
          obtain ⟨hxr, hyr⟩ := ckL_range (chC_zero HZ.out).2 _ hmem
          have HN := Lib.hid (bk_next (d := d) HX.out)
          rw [← HP.out] at HN
          obtain ⟨B, hB⟩ : ∃ B, B = beg d x := ⟨_, rfl⟩
          have HB := Lib.hid hB
          clear hB
          by_cases hP : P = []
          · subst hP
            obtain rfl : k = 0 := by have := HK.out; simp at this; omega
            have HNN := Lib.hid (HN.out.trans (bkp1_first d (x, y)))
            obtain ⟨AF, cF, rfl, hcF⟩ := own_form hF
            go_wp2_with fail
            refine (roll_startOf x d _ ⟨hd1, hd2⟩ hxr).mono ?_
            rintro e w' ⟨rfl, rfl⟩
            rw [← HB.out]
            go_wp2_with (first
              | (at_builtin; refine app_lit eltSample (wr.alloc _) rfl (.tmp 51) (.tmp 56) rfl w.heap.size (.slice AF 0 cF) _ _ rfl (by exact hF.alloc _) 1 [_, _] (wr.heap.size + 1) (by simp) rfl rfl (one2 _ _ _ _) (by omega) (by omega) (by simp; omega) ?_; intro v3 w3 hF3 hgr3 hbel3 hsz3; have hR3 := own_keep ((hR.alloc _).alloc _) ((hF.alloc _).alloc _) (by decide) hgr3; have bS3 := ((Box.newAt wr 39 [.int .i64 x, .int .i64 y] _ rfl).alloc _).grown hgr3 (fun he => by have := (hF.lt _ he.symm).2; omega); have hA3 := hbel3 _ (hbel.alloc hsz _))
              | (at_builtin; go_must (refine app_lit eltRoll w3 rfl (.tmp 58) (.tmp 60) rfl w.heap.size _ _ _ rfl (by exact hR3) 1 [_, _, _, _] _ rfl rfl rfl (one4 _ _ _ _) (by omega) (by omega) hsz3 ?_); intro v4 w4 hR4 hgr4 hbel4 hsz4; have hF4 := own_keep (hF3.alloc _) (hR3.alloc _) (by decide) hgr4; have bS4 := (bS3.alloc _).grown hgr4 (bS3.ne hR3 (by decide)); have hA4 := hbel4 _ hA3; obtain ⟨gR, cR, rfl, hgR, hgR2, hcR⟩ := own_some hR4 (by omega))
              | fail)
            have hR4' : w4.ownsRow w.heap.size 24 4 (.slice (some ⟨gR, 0, none⟩) (0 + 1) cR) (0 + 1) (cellsR ([] ++ [rl0])) := hR4
            obtain ⟨⟨e0, e1, e2, e3⟩, ⟨f0, f1, f2, f3⟩⟩ := own_last hR4' (m := 0) rfl rfl
            dsimp only [rl0] at e0 e1 e2 e3
            simp only [Nat.zero_mul, Nat.zero_add] at e0 e1 e2 e3 f0 f1 f2 f3
            have s0 : w4.cell? ⟨wr.heap.size, 0, none⟩ = some (.int .i64 x) := bS4.cell 0
            have s1 : w4.cell? ⟨wr.heap.size, 1, none⟩ = some (.int .i64 y) := bS4.cell 1
            refine region_first [0, 1, 2, 3, 4] (.cons 5 (.cons 6 (seq [7] (seq [8] .nil)))) (by kernel_rfl) (by kernel_rfl) ?_
            simp only [pick, List.map_cons, List.map_nil, List.getD_cons_zero, List.getD_cons_succ]
            go_wp2
            refine ord_call (by kernel_rfl) ?_
            simp only [pick, List.map_cons, List.map_nil, List.getD_cons_zero, List.getD_cons_succ]
            go_wp2_with fail
            refine (roll_single x y _).mono ?_
            rintro e w5 ⟨rfl, hb5⟩
            have hx5 := ext_below hb5
            replace hb5 : Below w4.heap.size w4 w5 := hb5.undrew
            have hF5 := own_below hF4 hb5
            have hR5 := own_below hR4' hb5
            have hA5 := hA4.trans (hb5.mono hA4.size)
            unfold rlV rl1
            dsimp only
            go_wp2
            refine ord_call (by kernel_rfl) ?_
            simp only [pick, List.map_cons, List.map_nil, List.getD_cons_zero, List.getD_cons_succ]
            go_wp2_with fail
            refine (roll_merge rl0 (rl1 y) (rl1 y) _ (by unfold I64 rl0 rl1; dsimp only; omega) (by unfold InR at hyr; unfold I64 rl0 rl1; dsimp only; omega) (mg_left rfl).symm).mono ?_
            rintro e w6 ⟨rfl, hb6⟩
            have hx6 := ext_below hb6
            have hF6 := own_below hF5 hb6
            have hR6 := own_below hR5 hb6
            have hA6 := hA5.trans (hb6.mono hA5.size)
            clear e0 e1 e2 e3 f0 f1 f2 f3
            obtain ⟨⟨e0, e1, e2, e3⟩, ⟨f0, f1, f2, f3⟩⟩ := own_last hR6 (m := 0) rfl rfl
            dsimp only [rl0] at e0 e1 e2 e3
            simp only [Nat.zero_mul, Nat.zero_add] at e0 e1 e2 e3 f0 f1 f2 f3
            have hst := own_four hR6 (m := 0) rfl (rl1 y)
            have hstF := own_keep hF6 hR6 (by decide) (grown_set4 w6 gR (0 * 4) (0 * 4 + 1) (0 * 4 + 2) (0 * 4 + 3) (.int .i64 (rl1 y).c) (.int .i64 (rl1 y).lo) (.int .i64 (rl1 y).hi) (.int .i64 (rl1 y).s))
            have hstA : Below w.heap.size w _ := below_set hA6 (grown_set4 w6 gR (0 * 4) (0 * 4 + 1) (0 * 4 + 2) (0 * 4 + 3) (.int .i64 (rl1 y).c) (.int .i64 (rl1 y).lo) (.int .i64 (rl1 y).hi) (.int .i64 (rl1 y).s)) hgR hA6.size
            try dsimp only [rl1] at hst hstF hstA
            simp only [Nat.zero_mul, Nat.zero_add] at hst hstF hstA
            unfold rlV
            try unfold rl1
            dsimp only
            go_wp2
            refine ord_more [7] _ (by kernel_rfl) ?_
            simp only [pick, List.map_cons, List.map_nil, List.getD_cons_zero, List.getD_cons_succ]
            go_wp2
            refine ord_last [8] (by kernel_rfl) ?_
            simp only [pick, List.map_cons, List.map_nil, List.getD_cons_zero, List.getD_cons_succ]
            go_wp2
            go_roundw
            case rel =>
              refine ⟨j + 1, 0 + 1, [[(x, y)]], by omega, by go_num, HNN.out.symm, ?_, by omega, ?_, ?_, hstA⟩
              · show _ = _
                rfl
              · have := hstF; rw [HB.out] at this; exact this
              · exact hst
            case measure => simp [intOf]; omega
          · obtain ⟨Q, p, rfl⟩ : ∃ Q p, P = Q ++ [p] := ⟨P.dropLast, P.getLast hP, (List.dropLast_concat_getLast hP).symm⟩
            obtain ⟨m, rfl⟩ : ∃ m, k = m + 1 := ⟨Q.length, by have := HK.out; simp at this; omega⟩
            have HQ : Hid (Q.length = m) := Lib.hid (by have := HK.out; simp at this; omega)
            have hpm : p ∈ bkP d (l.take j) := by rw [← HP.out]; simp
            have hpne := (bk_ok d (l.take j)).ne p hpm
            have hbr := bk_roll HZ.out j hpm hyr
            have HPN := Lib.hid hpne
            clear hP hpm hpne
            rw [bkF_snoc] at hF
            rw [bkR_snoc] at hR
            obtain ⟨gF, cF, rfl, hgF, hgF2, hcF⟩ := own_some hF (by omega)
            have hlast := own_lastF hF (m := m) (by rw [bkF_len]; exact HQ.out) rfl
            dsimp only [fO] at hlast
            obtain ⟨Bp, hBp⟩ : ∃ Bp, Bp = beg d (p.headD (0, 0)).1 := ⟨_, rfl⟩
            rw [← hBp] at hlast
            have HBp := Lib.hid hBp
            clear hBp
            by_cases hbe : beg d (p.headD (0, 0)).1 = beg d x
            · have HNN := Lib.hid (HN.out.trans (bkp1_same hbe))
              have hbx : Bp = B := by rw [HB.out, HBp.out]; exact hbe
              rw [hbx] at hlast
              clear hbe hbx
              obtain ⟨gR, cR, rfl, hgR, hgR2, hcR⟩ := own_some hR (by omega)
              have Hq := Lib.hid (show rO (p ++ [(x, y)]) = mg (rO p) (rl1 y) from rO_snoc p (x, y))
              generalize rO p = q at *
              obtain ⟨qc, ql, qh, qz⟩ := q
              generalize hmm : mg ⟨qc, ql, qh, qz⟩ (rl1 y) = mm at *
              obtain ⟨mc, ml, mh, mz⟩ := mm
              have HMM := Lib.hid hmm.symm
              clear hmm
              go_wp2_with fail
              refine (roll_startOf x d _ ⟨hd1, hd2⟩ hxr).mono ?_
              rintro e w' ⟨rfl, rfl⟩
              rw [← HB.out]
              have hRw := hR.alloc (Obj.cells #[.int .i64 x, .int .i64 y] 39)
              have hFw := hF.alloc (Obj.cells #[.int .i64 x, .int .i64 y] 39)
              have hAw := hbel.alloc hsz (Obj.cells #[.int .i64 x, .int .i64 y] 39)
              have bSw := Box.newAt wr 39 [.int .i64 x, .int .i64 y] _ rfl
              go_wp2
              generalize wr.alloc (Obj.cells #[.int .i64 x, .int .i64 y] 39) = w4 at *
              have hR4' := hRw
              have hF4 := hFw
              have hA4 := hAw
              have bS4 := bSw
              obtain ⟨⟨e0, e1, e2, e3⟩, ⟨f0, f1, f2, f3⟩⟩ := own_last hR4' (m := m) (by rw [bkR_len, HQ.out]) rfl
              dsimp only [rl0] at e0 e1 e2 e3
              have s0 : w4.cell? ⟨wr.heap.size, 0, none⟩ = some (.int .i64 x) := bS4.cell 0
              have s1 : w4.cell? ⟨wr.heap.size, 1, none⟩ = some (.int .i64 y) := bS4.cell 1
              refine region_first [0, 1, 2, 3, 4] (.cons 5 (.cons 6 (seq [7] (seq [8] .nil)))) (by kernel_rfl) (by kernel_rfl) ?_
              simp only [pick, List.map_cons, List.map_nil, List.getD_cons_zero, List.getD_cons_succ]
              go_wp2
              refine ord_call (by kernel_rfl) ?_
              simp only [pick, List.map_cons, List.map_nil, List.getD_cons_zero, List.getD_cons_succ]
              go_wp2_with fail
              refine (roll_single x y _).mono ?_
              rintro e w5 ⟨rfl, hb5⟩
              have hx5 := ext_below hb5
              replace hb5 : Below w4.heap.size w4 w5 := hb5.undrew
              have hF5 := own_below hF4 hb5
              have hR5 := own_below hR4' hb5
              have hA5 := hA4.trans (hb5.mono hA4.size)
              unfold rlV rl1
              dsimp only
              go_wp2
              refine ord_call (by kernel_rfl) ?_
              simp only [pick, List.map_cons, List.map_nil, List.getD_cons_zero, List.getD_cons_succ]
              go_wp2_with fail
              refine (roll_merge ⟨qc, ql, qh, qz⟩ (rl1 y) ⟨mc, ml, mh, mz⟩ _ hbr.1 hbr.2.1 HMM.out).mono ?_
              rintro e w6 ⟨rfl, hb6⟩
              have hx6 := ext_below hb6
              have hF6 := own_below hF5 hb6
              have hR6 := own_below hR5 hb6
              have hA6 := hA5.trans (hb6.mono hA5.size)
              clear e0 e1 e2 e3 f0 f1 f2 f3
              obtain ⟨⟨e0, e1, e2, e3⟩, ⟨f0, f1, f2, f3⟩⟩ := own_last hR6 (m := m) (by rw [bkR_len, HQ.out]) rfl
              dsimp only [rl0] at e0 e1 e2 e3
              have hst := own_four hR6 (m := m) (by rw [bkR_len, HQ.out]) (⟨mc, ml, mh, mz⟩ : Rl)
              have hstF := own_keep hF6 hR6 (by decide) (grown_set4 w6 gR (m * 4) (m * 4 + 1) (m * 4 + 2) (m * 4 + 3) (.int .i64 (⟨mc, ml, mh, mz⟩ : Rl).c) (.int .i64 (⟨mc, ml, mh, mz⟩ : Rl).lo) (.int .i64 (⟨mc, ml, mh, mz⟩ : Rl).hi) (.int .i64 (⟨mc, ml, mh, mz⟩ : Rl).s))
              have hstA : Below w.heap.size w _ := below_set hA6 (grown_set4 w6 gR (m * 4) (m * 4 + 1) (m * 4 + 2) (m * 4 + 3) (.int .i64 (⟨mc, ml, mh, mz⟩ : Rl).c) (.int .i64 (⟨mc, ml, mh, mz⟩ : Rl).lo) (.int .i64 (⟨mc, ml, mh, mz⟩ : Rl).hi) (.int .i64 (⟨mc, ml, mh, mz⟩ : Rl).s)) hgR hA6.size
              try dsimp only [rl1] at hst hstF hstA
              unfold rlV
              try unfold rl1
              dsimp only
              go_wp2
              refine ord_more [7] _ (by kernel_rfl) ?_
              simp only [pick, List.map_cons, List.map_nil, List.getD_cons_zero, List.getD_cons_succ]
              go_wp2
              refine ord_last [8] (by kernel_rfl) ?_
              simp only [pick, List.map_cons, List.map_nil, List.getD_cons_zero, List.getD_cons_succ]
              go_wp2
              go_roundw
              case rel =>
                refine ⟨j + 1, m + 1, Q ++ [p ++ [(x, y)]], by omega, by go_num, HNN.out.symm, ?_, by omega, ?_, ?_, hstA⟩
                · show _ = _
                  rw [List.length_append, HQ.out]; rfl
                · rw [bkF_snoc, fO_snoc HPN.out]; exact hstF
                · rw [bkR_snoc, Hq.out]; exact hst
              case measure => simp [intOf]; omega
            · have HNN := Lib.hid (HN.out.trans (bkp1_new hbe))
              have hbx : (Bp != B) = true := by rw [HB.out, HBp.out]; simpa using hbe
              clear hbe
              go_wp2_with fail
              refine (roll_startOf x d _ ⟨hd1, hd2⟩ hxr).mono ?_
              rintro e w' ⟨rfl, rfl⟩
              rw [← HB.out]
              go_wp2_with (first
                | (at_builtin; refine app_lit eltSample (wr.alloc _) rfl (.tmp 51) (.tmp 56) rfl w.heap.size (.slice (some ⟨gF, 0, none⟩) (m + 1) cF) _ _ rfl (by exact hF.alloc _) 1 [_, _] (wr.heap.size + 1) (by simp) rfl rfl (one2 _ _ _ _) (by omega) (by omega) (by simp; omega) ?_; intro v3 w3 hF3 hgr3 hbel3 hsz3; have hR3 := own_keep ((hR.alloc _).alloc _) ((hF.alloc _).alloc _) (by decide) hgr3; have bS3 := ((Box.newAt wr 39 [.int .i64 x, .int .i64 y] _ rfl).alloc _).grown hgr3 (fun he => by have := (hF.lt _ he.symm).2; omega); have hA3 := hbel3 _ (hbel.alloc hsz _))
                | (at_builtin; go_must (refine app_lit eltRoll w3 rfl (.tmp 58) (.tmp 60) rfl w.heap.size _ _ _ rfl (by exact hR3) 1 [_, _, _, _] _ rfl rfl rfl (one4 _ _ _ _) (by omega) (by omega) hsz3 ?_); intro v4 w4 hR4 hgr4 hbel4 hsz4; have hF4 := own_keep (hF3.alloc _) (hR3.alloc _) (by decide) hgr4; have bS4 := (bS3.alloc _).grown hgr4 (bS3.ne hR3 (by decide)); have hA4 := hbel4 _ hA3; obtain ⟨gR, cR, rfl, hgR, hgR2, hcR⟩ := own_some hR4 (by omega))
                | fail)
              have hR4' : w4.ownsRow w.heap.size 24 4 (.slice (some ⟨gR, 0, none⟩) (m + 1 + 1) cR) (m + 1 + 1) (cellsR ((bkR Q ++ [rO p]) ++ [rl0])) := by rw [cellsR_append]; exact hR4
              obtain ⟨⟨e0, e1, e2, e3⟩, ⟨f0, f1, f2, f3⟩⟩ := own_last hR4' (m := (m + 1)) (by rw [List.length_append, bkR_len, HQ.out]; rfl) rfl
              dsimp only [rl0] at e0 e1 e2 e3
              have s0 : w4.cell? ⟨wr.heap.size, 0, none⟩ = some (.int .i64 x) := bS4.cell 0
              have s1 : w4.cell? ⟨wr.heap.size, 1, none⟩ = some (.int .i64 y) := bS4.cell 1
              refine region_first [0, 1, 2, 3, 4] (.cons 5 (.cons 6 (seq [7] (seq [8] .nil)))) (by kernel_rfl) (by kernel_rfl) ?_
              simp only [pick, List.map_cons, List.map_nil, List.getD_cons_zero, List.getD_cons_succ]
              go_wp2
              refine ord_call (by kernel_rfl) ?_
              simp only [pick, List.map_cons, List.map_nil, List.getD_cons_zero, List.getD_cons_succ]
              go_wp2_with fail
              refine (roll_single x y _).mono ?_
              rintro e w5 ⟨rfl, hb5⟩
              have hx5 := ext_below hb5
              replace hb5 : Below w4.heap.size w4 w5 := hb5.undrew
              have hF5 := own_below hF4 hb5
              have hR5 := own_below hR4' hb5
              have hA5 := hA4.trans (hb5.mono hA4.size)
              unfold rlV rl1
              dsimp only
              go_wp2
              refine ord_call (by kernel_rfl) ?_
              simp only [pick, List.map_cons, List.map_nil, List.getD_cons_zero, List.getD_cons_succ]
              go_wp2_with fail
              refine (roll_merge rl0 (rl1 y) (rl1 y) _ (by unfold I64 rl0 rl1; dsimp only; omega) (by unfold InR at hyr; unfold I64 rl0 rl1; dsimp only; omega) (mg_left rfl).symm).mono ?_
              rintro e w6 ⟨rfl, hb6⟩
              have hx6 := ext_below hb6
              have hF6 := own_below hF5 hb6
              have hR6 := own_below hR5 hb6
              have hA6 := hA5.trans (hb6.mono hA5.size)
              clear e0 e1 e2 e3 f0 f1 f2 f3
              obtain ⟨⟨e0, e1, e2, e3⟩, ⟨f0, f1, f2, f3⟩⟩ := own_last hR6 (m := (m + 1)) (by rw [List.length_append, bkR_len, HQ.out]; rfl) rfl
              dsimp only [rl0] at e0 e1 e2 e3
              have hst := own_four hR6 (m := (m + 1)) (by rw [List.length_append, bkR_len, HQ.out]; rfl) (rl1 y)
              have hstF := own_keep hF6 hR6 (by decide) (grown_set4 w6 gR ((m + 1) * 4) ((m + 1) * 4 + 1) ((m + 1) * 4 + 2) ((m + 1) * 4 + 3) (.int .i64 (rl1 y).c) (.int .i64 (rl1 y).lo) (.int .i64 (rl1 y).hi) (.int .i64 (rl1 y).s))
              have hstA : Below w.heap.size w _ := below_set hA6 (grown_set4 w6 gR ((m + 1) * 4) ((m + 1) * 4 + 1) ((m + 1) * 4 + 2) ((m + 1) * 4 + 3) (.int .i64 (rl1 y).c) (.int .i64 (rl1 y).lo) (.int .i64 (rl1 y).hi) (.int .i64 (rl1 y).s)) hgR hA6.size
              try dsimp only [rl1] at hst hstF hstA
              unfold rlV
              try unfold rl1
              dsimp only
              go_wp2
              refine ord_more [7] _ (by kernel_rfl) ?_
              simp only [pick, List.map_cons, List.map_nil, List.getD_cons_zero, List.getD_cons_succ]
              go_wp2
              refine ord_last [8] (by kernel_rfl) ?_
              simp only [pick, List.map_cons, List.map_nil, List.getD_cons_zero, List.getD_cons_succ]
              go_wp2
              go_roundw
              case rel =>
                refine ⟨j + 1, (m + 1) + 1, (Q ++ [p]) ++ [[(x, y)]], by omega, by go_num, HNN.out.symm, ?_, by omega, ?_, ?_, hstA⟩
                · show _ = _
                  rw [List.length_append, HK.out]; rfl
                · rw [bkF_snoc, bkF_snoc, cellsF_append, fO_one, ← HB.out]; exact hstF
                · rw [bkR_snoc, bkR_snoc, rO_one]; exact hst
              case measure => simp [intOf]; omega
        · obtain rfl : j = n := by omega
          have hP := HP.out
          rw [List.take_of_length_le (by rw [HL.out]; omega)] at hP
          subst hP
          obtain ⟨AF, cF, rfl, hcF⟩ := own_form hF
          by_cases hful : 100 < k
          · have HE := Lib.hid (bu_full (l := l) hd HZ.out (by rw [HK.out]; exact hful))
            go_wp2
            go_ret3
            exact bu_bad HE.out hbel
          · have HE := Lib.hid (bu_ok (l := l) hd HZ.out (by rw [HK.out]; exact hful))
            go_wp2
            go_ret3
            refine ⟨_, _, ret_three rfl rfl (val_int HE.out.1.symm), ?_, ?_, hbel⟩
            · rw [HE.out.2, HK.out]; exact hF
            · rw [HE.out.2, HK.out]; exact hR
    · have HZ := Lib.hid hz
      obtain ⟨k, hk⟩ : ∃ k, k = chC l := ⟨_, rfl⟩
      have HK := Lib.hid hk
      have hkb : (k != 0) = true := by rw [hk]; simp [hz]
      clear hk hz
      obtain ⟨r, hr⟩ : ∃ r, r = ofR l := ⟨_, rfl⟩
      have HR := Lib.hid hr
      clear hr
      obtain ⟨rc, rlo, rhi, rs⟩ := r
      have HE := Lib.hid (bu_fault (l := l) hd HZ.out)
      rw [← HK.out] at HE
      go_enter Tryd.func10, Tryd.ntmps10
      go_wp2_with fail
      refine (roll_within 1 1048576 [d] _ _ _ _ _ true (RI_lit _ _ .i64 [d] 1 _ rfl rfl) (by omega) (by simp; omega)).mono ?_
      rintro e w' ⟨rfl, rfl⟩
      go_wp2_with fail
      refine (roll_Of l _ _ _ ⟨rc, rlo, rhi, rs⟩ k _ (hT.below hA lT) ((hb.below hA).more hA.size) hn HR.out HK.out).mono ?_
      rintro e w1 ⟨rfl, hb1⟩
      have hA1 := hA.trans (hb1.mono hA.size)
      unfold rlV
      dsimp only
      go_wp2
      go_ret3
      exact bu_bad HE.out (hA1.alloc hA1.size _)
  · have HE := Lib.hid (bu_range (l := l) hd)
    have HD := Lib.hid hd
    clear hd
    go_enter Tryd.func10, Tryd.ntmps10
    go_wp2_with fail
    refine (roll_within 1 1048576 [d] _ _ _ _ _ false (RI_lit _ _ .i64 [d] 1 _ rfl rfl) (by omega) (by have := HD.out; simp; omega)).mono ?_
    rintro e w' ⟨rfl, rfl⟩
    go_wp2
    go_ret3
    exact bu_bad HE.out hA
end Go.Proofs.YtnpabbinckcbaaaDoor
