/- What the document's answer to roll.Buckets does. No statement of the seat is proved here; no condition. -/
import Derived.Test.YtnpabbinckcbaaaDoorRefRollOf
import Derived.Test.YtnpabbinckcbaaaDoorRoll3
set_option linter.unusedSimpArgs false
set_option linter.unusedVariables false
namespace Go.Proofs.YtnpabbinckcbaaaDoor
open Go.RowKit Go.Ord Go.Baro

/-- The start of a bucket by a division that cuts. -/
theorem beg_div {t d : Int} (hd : 1 ≤ d) : ∃ q M : Int, t.tdiv d = q ∧ q * d = M ∧ (q - 1) * d = M - d ∧ (q.natAbs ≤ t.natAbs) ∧ (-d < t - M ∧ t - M < d) ∧ (t < M → M - d = beg d t) ∧ (¬ t < M → M = beg d t) := by
  have h0 := Int.tmod_add_mul_tdiv t d
  have h1 := Int.tmod_eq_emod (a := t) (b := d)
  have h2 := Int.emod_nonneg t (show d ≠ 0 by omega)
  have h3 := Int.emod_lt_of_pos t (show 0 < d by omega)
  have h4 : t.tdiv d * d = t - t.tmod d := by rw [Int.mul_comm]; omega
  refine ⟨t.tdiv d, t - t.tmod d, rfl, h4, by rw [Int.sub_mul, h4, Int.one_mul], ?_, ?_, ?_, ?_⟩
  · rw [Int.natAbs_tdiv]; exact Nat.div_le_self _ _
  · rw [h1]; split <;> omega
  · intro h; unfold beg; rw [h1] at h ⊢; split at h <;> split <;> omega
  · intro h; unfold beg; rw [h1] at h ⊢; split at h <;> split <;> omega
set_option maxHeartbeats 1000000 in
theorem ref_begin (t d : Int) (b : Nat) (w : World) (hc : w.cell? ⟨b, 0, none⟩ = some (.int .i64 d)) (hd : 1 ≤ d ∧ d ≤ 1048576) (ht : InR t) :
    Calls Tryd.prog 23 #[.int .i64 t, .pointer (some ⟨b, 0, none⟩)] w fun e w' => e = .returned (.int .i64 (beg d t)) ∧ w = w' := by
  obtain ⟨hd1, hd2⟩ := hd
  obtain ⟨q, M, hq, hm, hm', hqb, hM, hlt, hge⟩ := beg_div (t := t) hd1
  unfold InR at ht
  have hq1 : -36028797018963968 ≤ q ∧ q ≤ 36028797018963968 := by omega
  have hne : (d == 0) = false := by simp; omega
  clear hqb
  by_cases h : t < M
  · have H := Lib.hid (hlt h)
    clear hlt hge
    go_enter Tryd.func23, Tryd.ntmps23
    go_wp2
    go_ret
    exact ⟨ret_int H.out, rfl⟩
  · have H := Lib.hid (hge h)
    clear hlt hge
    go_enter Tryd.func23, Tryd.ntmps23
    go_wp2
    go_ret
    exact ⟨ret_int H.out, rfl⟩

/-- A bucket that the samples from the j-th on make. -/
def Mid (d : Int) (l : List (Int × Int)) (P : List (List (Int × Int))) (j i : Nat) (p : List (Int × Int)) (B y : Int) : Prop :=
  (i = j ∧ p = []) ∨ (j < i ∧ bkP d (l.take i) = P ++ [p] ∧ p ≠ [] ∧ fO d p = (B, y))
theorem mid_step {d : Int} {l : List (Int × Int)} {P : List (List (Int × Int))} {j i : Nat} {p : List (Int × Int)} {B y x' y' : Int} (h : Mid d l P j i p B y) (hP : P = bkP d (l.take j)) (hn : ∀ x, l[j]? = some x → bkp1 d P x = P ++ [[x]])
    (hj : ∀ x, l[j]? = some x → beg d x.1 = B ∧ x.2 = y) (hx : l[i]? = some (x', y')) (hb : beg d x' = B) : Mid d l P j (i + 1) (p ++ [(x', y')]) B y := by
  rcases h with ⟨rfl, rfl⟩ | ⟨h1, h2, h3, h4⟩
  · have := hj _ hx
    refine .inr ⟨by omega, ?_, by simp, ?_⟩
    · rw [bk_next hx, ← hP, hn _ hx]; rfl
    · show (beg d x', y') = (B, y)
      have h1 : beg d x' = B := this.1
      have h2 : y' = y := this.2
      rw [h1, h2]
  · refine .inr ⟨by omega, ?_, by simp, ?_⟩
    · rw [bk_next hx, h2, bkp1_same]
      have : (fO d p).1 = B := by rw [h4]
      rw [← hb] at this
      exact this
    · rw [fO_snoc h3, h4]
theorem mid_end {d : Int} {l : List (Int × Int)} {P : List (List (Int × Int))} {j i : Nat} {p : List (Int × Int)} {B y : Int} (h : Mid d l P j i p B y) (hij : j < i) (hx : ∀ x, l[i]? = some x → beg d x.1 ≠ B) :
    P ++ [p] = bkP d (l.take i) ∧ fO d p = (B, y) ∧ ∀ x, l[i]? = some x → bkp1 d (P ++ [p]) x = (P ++ [p]) ++ [[x]] := by
  rcases h with ⟨rfl, rfl⟩ | ⟨h1, h2, h3, h4⟩
  · omega
  · refine ⟨h2.symm, h4, fun x hx' => bkp1_new ?_⟩
    have : (fO d p).1 = B := by rw [h4]
    show (fO d p).1 ≠ beg d x.1
    rw [this]
    exact fun h => hx x hx' h.symm

theorem bk_sums {d : Int} {l : List (Int × Int)} (hz : chC l = 0) {i : Nat} {p : List (Int × Int)} (hp : p ∈ bkP d (l.take i)) (j : Nat) : I64 ((valS p).take j).sum := by
  obtain ⟨h1, h2⟩ := (bk_ok d (l.take i)).sub hp
  have hl := (chC_zero hz).1
  rw [List.length_take] at h2
  refine sum_bd55 _ (by rw [List.length_take, valS_len]; omega) fun v hv => ?_
  obtain ⟨x, hx, rfl⟩ := List.mem_map.1 (List.mem_of_mem_take hv)
  exact (ckL_range (chC_zero hz).2 x (List.mem_of_mem_take (h1 x hx))).2
set_option maxRecDepth 100000 in
set_option maxHeartbeats 4000000 in
theorem ref_RollBuckets (l : List (Int × Int)) (A : Option Addr) (n c : Nat) (d : Int) (w : World) (hb : RF w w.heap.size A n l) (hn : n ≤ 8796093022208) :
    Calls Tryd.prog 11 #[.slice A n c, .int .i64 d] w (BuPost l d w) := by
  have HL := Lib.hid hb.len
  have h0 : Below w.heap.size w w := Below.refl _ _
  have hA := h0.alloc (Nat.le_refl _) (Obj.cells #[.int .i64 d] 3)
  have bD := Box.newAt w 3 [.int .i64 d] _ rfl
  by_cases hd : 1 ≤ d ∧ d ≤ 1048576
  · have hd1 := hd.1
    have hd2 := hd.2
    by_cases hz : chC l = 0
    · have HZ := Lib.hid hz
      have hn2 : n ≤ 120 := by rw [← HL.out]; exact (chC_zero hz).1
      clear hz
      go_enter Tryd.func11, Tryd.ntmps11
      go_wp2_with fail
      refine (ref_SamplesFault l _ _ _ _ ((hb.below hA).more hA.size) hn).mono ?_
      rintro e w1 ⟨rfl, hb1⟩
      rw [HZ.out]
      have bD1 := bD.below hb1 bD.lt
      have hA1 := hA.trans (hb1.mono hA.size)
      clear bD hA hb1
      go_wp2
      go_loopw [9, 10, 11] (fun v v' i wr => ∃ (j k : Nat) (P : List (List (Int × Int))), j ≤ n ∧ i = .int .i64 j ∧ Hid (P = bkP d (l.take j)) ∧ Hid (P.length = k) ∧ k ≤ j ∧ Hid (∀ x, l[j]? = some x → bkp1 d P x = P ++ [[x]]) ∧ wr.ownsRow w.heap.size 39 2 v k (cellsF (bkF d P)) ∧ wr.ownsRow w.heap.size 24 4 v' k (cellsR (bkR P)) ∧ Box wr w.heap.size 3 [.int .i64 d] ∧ Below w.heap.size w wr) (fun _ _ i _ => n - (intOf i).toNat)
      case atStart => exact ⟨0, 0, [], Nat.zero_le _, rfl, rfl, rfl, Nat.le_refl _, fun x _ => rfl, World.ownsRow_nil _ _ _ _, World.ownsRow_nil _ _ _ _, bD1, hA1⟩
      case round =>
        obtain ⟨j, k, P, hj, rfl, HP, HK, hkj, HNW, hF, hR, bD, hbel⟩ := hrel
        have hsz := hbel.size
        have lD := bD.lt
        by_cases hlt : j < n
        · obtain ⟨b, o, x, y, rfl, hbb, hcx, hcy, HX, hmem⟩ := (hb.below hbel).val hlt
          obtain ⟨hxr, hyr⟩ := ckL_range (chC_zero HZ.out).2 _ hmem
          obtain ⟨B, hB⟩ : ∃ B, B = beg d x := ⟨_, rfl⟩
          have HJ := Lib.hid (show ∀ z, l[j]? = some z → beg d z.1 = B ∧ z.2 = y from fun z hz => by rw [HX.out] at hz; injection hz with hz; subst hz; exact ⟨hB.symm, rfl⟩)
          have HB := Lib.hid hB
          clear hB
          go_wp2_with fail
          refine (ref_begin x d w.heap.size _ (bD.cell 0) ⟨hd1, hd2⟩ hxr).mono ?_
          rintro e w' ⟨rfl, rfl⟩
          rw [← HB.out]
          go_wp2_with (at_builtin; go_must (refine app_lit eltSample wr rfl (.tmp 37) (.tmp 45) rfl w.heap.size _ _ _ rfl (by exact hF) 1 [_, _] _ rfl rfl rfl (one2 _ _ _ _) (by omega) (by omega) hsz ?_); intro v3 w3 hF3 hgr3 hbel3 hsz3; have hR3 := own_keep (hR.alloc _) (hF.alloc _) (by decide) hgr3; have bD3 := (bD.alloc _).grown hgr3 (bD.ne hF (by decide)); have hA3 := hbel3 _ hbel)
          clear hF hR hgr3 hbel3
          go_loopw [11, 13] (fun i v wq => ∃ (i2 q : Nat) (p : List (Int × Int)), j ≤ i2 ∧ i2 ≤ n ∧ q ≤ 120 ∧ i = .int .i64 i2 ∧ Hid (Mid d l P j i2 p B y) ∧ Hid (p.length = q) ∧ (q = 0 → i2 = j) ∧ q ≤ i2 - j ∧ wq.ownsRow (w.heap.size + 1) 3 1 v q ((valS p).map (Value.int .i64)) ∧ wq.ownsRow w.heap.size 39 2 v3 (k + 1) (cellsF (bkF d P) ++ [.int .i64 B, .int .i64 y]) ∧ wq.ownsRow w.heap.size 24 4 u10 k (cellsR (bkR P)) ∧ Box wq w.heap.size 3 [.int .i64 d] ∧ Below w.heap.size w wq) (fun i _ _ => n - (intOf i).toNat)
          case atStart => exact ⟨j, 0, [], Nat.le_refl _, by omega, by omega, rfl, .inl ⟨rfl, rfl⟩, rfl, fun _ => rfl, by omega, World.ownsRow_nil _ _ _ _, hF3, hR3, bD3, hA3⟩
          case round =>
            obtain ⟨i2, q, p, hji, hi2, hq, rfl, HM, HQ, hq0, hqi, hV, hF4, hR4, bD4, hbel4⟩ := hrel
            have hsz4 := hbel4.size
            by_cases hlt2 : i2 < n
            · obtain ⟨b', o', x', y', hAA, hbb', hcx', hcy', HX', hmem'⟩ := (hb.below hbel4).val hlt2
              injection hAA with hAA
              injection hAA with hA1' hA2'
              subst hA1' hA2'
              obtain ⟨hxr', hyr'⟩ := ckL_range (chC_zero HZ.out).2 _ hmem'
              by_cases hbe : beg d x' = B
              · have HMS := Lib.hid (mid_step HM.out HP.out HNW.out HJ.out HX'.out hbe)
                go_wp2_with fail
                refine (ref_begin x' d w.heap.size _ (bD4.cell 0) ⟨hd1, hd2⟩ hxr').mono ?_
                rintro e w' ⟨rfl, rfl⟩
                rw [hbe]
                clear hbe
                go_wp2_with (at_builtin; go_must (refine app_lit eltInt wr rfl (.tmp 62) (.tmp 68) rfl (w.heap.size + 1) _ _ _ rfl (by exact hV) 1 [_] _ rfl rfl rfl (one1 _ _) (by omega) (by omega) bD4.lt ?_); intro v7 w7 hV7 hgr7 _ hsz7; have hF7 := own_keep (hF4.alloc _) (hV.alloc _) (by decide) hgr7; have hR7 := own_keep (hR4.alloc _) (hV.alloc _) (by decide) hgr7; have bD7 := (bD4.alloc _).grown hgr7 (fun he => by have := (hV.lt _ he.symm).1; omega); have hA7 := (hbel4.alloc hsz4 _).grown hgr7 (by simp; omega) (fun k hk => by have := (hV.lt k hk).1; omega))
                go_roundw
                case rel =>
                  refine ⟨i2 + 1, q + 1, p ++ [(x', y')], by omega, by omega, by omega, by go_num, HMS.out, ?_, fun h => by omega, by omega, ?_, hF7, hR7, bD7, hA7⟩
                  · show _ = _
                    rw [List.length_append, HQ.out]; rfl
                  · rw [valS, List.map_append, List.map_append]; exact hV7
                case measure => simp [intOf]; omega
              · have hji' : j < i2 := by
                  rcases Nat.lt_or_ge j i2 with h | h
                  · exact h
                  · obtain rfl : j = i2 := by omega
                    exact absurd (HJ.out _ HX'.out).1 hbe
                have HXX := Lib.hid (show ∀ z, l[i2]? = some z → beg d z.1 ≠ B from fun z hz => by rw [HX'.out] at hz; injection hz with hz; subst hz; exact hbe)
                obtain ⟨B', hB'⟩ : ∃ B', B' = beg d x' := ⟨_, rfl⟩
                have hbf : (B' == B) = false := by rw [hB']; simpa using hbe
                have HB' := Lib.hid hB'
                clear hbe hB'
                have HME := Lib.hid (mid_end HM.out hji' HXX.out)
                obtain ⟨r, hr⟩ : ∃ r, r = rollV (valS p) := ⟨_, rfl⟩
                have HR := Lib.hid hr
                clear hr
                obtain ⟨rc, rlo, rhi, rs⟩ := r
                obtain ⟨AV, cV, rfl, hcV⟩ := own_form hV
                have hri : RI wr wr.heap.size .i64 AV q (valS p) := Rd.of_own hV
                go_wp2_with fail
                refine (ref_begin x' d w.heap.size _ (bD4.cell 0) ⟨hd1, hd2⟩ hxr').mono ?_
                rintro e w' ⟨rfl, rfl⟩
                rw [← HB'.out]
                go_wp2_with fail
                refine (ref_rollOf (valS p) _ _ _ _ ⟨rc, rlo, rhi, rs⟩ hri (by omega) (fun z _ => bk_sums HZ.out (d := d) (i := i2) (by rw [← HME.out.1]; simp) z) HR.out).mono ?_
                rintro e w5 ⟨rfl, hb5⟩
                have hF5 := own_below hF4 hb5
                have hR5 := own_below hR4 hb5
                have bD5 := bD4.below hb5 bD4.lt
                have hA5 := hbel4.trans (hb5.mono hbel4.size)
                have hsz5 := hA5.size
                unfold rlV
                dsimp only
                go_wp2_with (at_builtin; go_must (refine app_lit eltRoll w5 rfl (.tmp 72) (.tmp 75) rfl w.heap.size _ _ _ rfl (by exact hR5) 1 [_, _, _, _] _ rfl rfl rfl (one4 _ _ _ _) (by omega) (by omega) hsz5 ?_); intro v6 w6 hR6 hgr6 hbel6 hsz6; have hF6 := own_keep (hF5.alloc _) (hR5.alloc _) (by decide) hgr6; have bD6 := (bD5.alloc _).grown hgr6 (bD5.ne hR5 (by decide)); have hA6 := hbel6 _ hA5)
                go_roundw
                case rel =>
                  refine ⟨i2, k + 1, P ++ [p], hi2, rfl, HME.out.1, ?_, by omega, HME.out.2.2, ?_, ?_, bD6, hA6⟩
                  · show _ = _
                    rw [List.length_append, HK.out]; rfl
                  · rw [bkF_snoc, cellsF_append, HME.out.2.1]; exact hF6
                  · rw [bkR_snoc, cellsR_append, rO, ← HR.out]; exact hR6
                case measure => simp [intOf]; omega
            · obtain rfl : i2 = n := by omega
              have hji' : j < i2 := hlt
              have HXX := Lib.hid (show ∀ z, l[i2]? = some z → beg d z.1 ≠ B from fun z hz => by rw [List.getElem?_eq_none (by rw [HL.out]; omega)] at hz; cases hz)
              have HME := Lib.hid (mid_end HM.out hji' HXX.out)
              obtain ⟨r, hr⟩ : ∃ r, r = rollV (valS p) := ⟨_, rfl⟩
              have HR := Lib.hid hr
              clear hr
              obtain ⟨rc, rlo, rhi, rs⟩ := r
              obtain ⟨AV, cV, rfl, hcV⟩ := own_form hV
              have hri : RI wr wr.heap.size .i64 AV q (valS p) := Rd.of_own hV
              go_wp2_with fail
              refine (ref_rollOf (valS p) _ _ _ _ ⟨rc, rlo, rhi, rs⟩ hri (by omega) (fun z _ => bk_sums HZ.out (d := d) (i := i2) (by rw [← HME.out.1]; simp) z) HR.out).mono ?_
              rintro e w5 ⟨rfl, hb5⟩
              have hF5 := own_below hF4 hb5
              have hR5 := own_below hR4 hb5
              have bD5 := bD4.below hb5 bD4.lt
              have hA5 := hbel4.trans (hb5.mono hbel4.size)
              have hsz5 := hA5.size
              unfold rlV
              dsimp only
              go_wp2_with (at_builtin; go_must (refine app_lit eltRoll w5 rfl (.tmp 72) (.tmp 75) rfl w.heap.size _ _ _ rfl (by exact hR5) 1 [_, _, _, _] _ rfl rfl rfl (one4 _ _ _ _) (by omega) (by omega) hsz5 ?_); intro v6 w6 hR6 hgr6 hbel6 hsz6; have hF6 := own_keep (hF5.alloc _) (hR5.alloc _) (by decide) hgr6; have bD6 := (bD5.alloc _).grown hgr6 (bD5.ne hR5 (by decide)); have hA6 := hbel6 _ hA5)
              go_roundw
              case rel =>
                refine ⟨i2, k + 1, P ++ [p], hi2, rfl, HME.out.1, ?_, by omega, HME.out.2.2, ?_, ?_, bD6, hA6⟩
                · show _ = _
                  rw [List.length_append, HK.out]; rfl
                · rw [bkF_snoc, cellsF_append, HME.out.2.1]; exact hF6
                · rw [bkR_snoc, cellsR_append, rO, ← HR.out]; exact hR6
              case measure => simp [intOf]; omega
        · obtain rfl : j = n := by omega
          have hP := HP.out
          rw [List.take_of_length_le (by rw [HL.out]; omega)] at hP
          subst hP
          obtain ⟨AF, cF, rfl, hcF⟩ := own_form hF
          by_cases hful : 100 < k
          · have HE := Lib.hid (bu_full (l := l) hd HZ.out (by rw [HK.out]; exact hful))
            go_wp2
            go_ret3
            exact bu_bad HE.out hbel
          · have HE := Lib.hid (bu_ok (l := l) hd HZ.out (by rw [HK.out]; exact hful))
            go_wp2
            go_ret3
            refine ⟨_, _, ret_three rfl rfl (val_int HE.out.1.symm), ?_, ?_, hbel⟩
            · rw [HE.out.2, HK.out]; exact hF
            · rw [HE.out.2, HK.out]; exact hR
    · have HZ := Lib.hid hz
      obtain ⟨k, hk⟩ : ∃ k, k = chC l := ⟨_, rfl⟩
      have HK := Lib.hid hk
      have hkb : (k != 0) = true := by rw [hk]; simp [hz]
      clear hk hz
      have HE := Lib.hid (bu_fault (l := l) hd HZ.out)
      rw [← HK.out] at HE
      go_enter Tryd.func11, Tryd.ntmps11
      go_wp2_with fail
      refine (ref_SamplesFault l _ _ _ _ ((hb.below hA).more hA.size) hn).mono ?_
      rintro e w1 ⟨rfl, hb1⟩
      rw [← HK.out]
      have hA1 := hA.trans (hb1.mono hA.size)
      go_wp2
      go_ret3
      exact bu_bad HE.out hA1
  · have HE := Lib.hid (bu_range (l := l) hd)
    have hA' := hA
    by_cases hd1 : d < 1
    · go_enter Tryd.func11, Tryd.ntmps11
      go_wp2
      go_ret3
      exact bu_bad HE.out hA'
    · have hd2 : 1048576 < d := by omega
      go_enter Tryd.func11, Tryd.ntmps11
      go_wp2
      go_ret3
      exact bu_bad HE.out hA'
end Go.Proofs.YtnpabbinckcbaaaDoor
