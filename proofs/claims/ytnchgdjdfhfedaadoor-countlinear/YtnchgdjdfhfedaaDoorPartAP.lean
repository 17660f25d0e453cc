/- Of this claim's own texts these, one behind the other: KeepSched, KeepCountLinP, AsmPure. No statement of the seat is proved here; no condition but those that stand at the theorems. -/
import Derived.Test.YtnchgdjdfhfedaaDoorPartAI
import Derived.Test.YtnchgdjdfhfedaaDoorPartAM
import Derived.Test.YtnchgdjdfhfedaaDoorPartAO
import Derived.Test.YtnchgdjdfhfedaaDoorPartAL
import Derived.Test.YtnchgdjdfhfedaaDoorPartAD
set_option linter.unusedSimpArgs false
set_option linter.unusedVariables false
namespace Go.Proofs.YtnchgdjdfhfedaaDoor
open Go.RowKit Go.Ord Go.Baro

/-- The schedule that is drawn. -/
def schG (k most : Nat) (l : List Int) : List Int := (l.take most).map (· % (k : Int))
theorem schG_len (k most : Nat) (l : List Int) : (schG k most l).length = min most l.length := by simp [schG]
theorem schG_in {k most : Nat} (hk : 0 < k) {l : List Int} {x : Int} (h : x ∈ schG k most l) : 0 ≤ x ∧ x < k := by
  obtain ⟨y, _, rfl⟩ := List.mem_map.1 h
  exact ⟨Int.emod_nonneg _ (by omega), Int.emod_lt_of_pos _ (by omega)⟩

set_option maxRecDepth 100000 in
set_option maxHeartbeats 2000000 in
theorem keep_ScheduleG (l : List Int) (A : Option Addr) (n c : Nat) (w : World) (k most : Nat) (hk : 0 < k) (hk2 : k ≤ 100) (hmost : most ≤ 6000) (hb : RI w w.heap.size .u8 A n l) (hn : n ≤ 140737488355328) (hr : ∀ x ∈ l, 0 ≤ x ∧ x < 256) :
    Calls Tryd.prog 14 #[.slice A n c, .int .i64 k, .int .i64 most] w fun e w' => ∃ v n', e = .returned v ∧ w'.ownsRow w.heap.size 3 1 v n' ((schG k most l).map (Value.int .i64)) ∧ n' ≤ most ∧ Below w.heap.size w w' := by
  have HL := Lib.hid hb.len
  have HR := Lib.hid hr
  have hk0 : ((k : Int) == 0) = false := by simp; omega
  have hkn : (k : Int) ≠ 0 := by omega
  clear hr
  go_enter Tryd.func14, Tryd.ntmps14
  go_wp2
  go_loopw [7, 8] (fun v i wr => ∃ j : Nat, j ≤ n ∧ j ≤ most ∧ i = .int .i64 j ∧ wr.ownsRow w.heap.size 3 1 v j (((l.take j).map (· % (k : Int))).map (Value.int .i64)) ∧ Below w.heap.size w wr) (fun _ i _ => most - (intOf i).toNat)
  case atStart => exact ⟨0, Nat.zero_le _, by omega, rfl, World.ownsRow_nil _ _ _ _, Below.refl _ _⟩
  case round =>
    obtain ⟨j, hj, hj4, rfl, hown, hbel⟩ := hrel
    have hsz := hbel.size
    have fin : j = n ∨ j = most → wr.ownsRow w.heap.size 3 1 u7 j ((schG k most l).map (Value.int .i64)) := by
      intro h
      have e : schG k most l = (l.take j).map (· % (k : Int)) := by
        unfold schG
        rcases h with h | h
        · rw [List.take_of_length_le (l := l) (i := j) (by rw [HL.out]; omega), List.take_of_length_le (l := l) (i := most) (by rw [HL.out]; omega)]
        · rw [h]
      rw [e]
      exact hown
    by_cases h1 : j < n
    · by_cases h2 : j < most
      · clear fin
        obtain ⟨b, o, x, rfl, hbB, hcell, HX, hmem⟩ := (hb.below hbel).val h1
        obtain ⟨hx0, hx1⟩ := HR.out x hmem
        have ht : x.tmod k = x % k := Int.tmod_eq_emod_of_nonneg hx0
        obtain ⟨y, hy⟩ : ∃ y, y = x % (k : Int) := ⟨_, rfl⟩
        have hy0 : 0 ≤ y := by rw [hy]; exact Int.emod_nonneg _ hkn
        have hy1 : y < k := by rw [hy]; exact Int.emod_lt_of_pos _ (by omega)
        rw [← hy] at ht
        have HY := Lib.hid hy
        clear hmem hy
        go_wp2_with (at_builtin; go_must (refine app_lit eltIntS wr rfl _ _ rfl w.heap.size _ j _ rfl (by exact hown) 1 [.int .i64 y] wr.heap.size rfl rfl rfl (one_ints _ [y]) (by omega) (by omega) hsz ?_); intro v3 w3 hown3 hgr3 hbel3 _)
        go_roundw
        case rel =>
          refine ⟨j + 1, by omega, by omega, by go_num, ?_, hbel3 _ hbel⟩
          rw [at_take HX.out, List.map_append, List.map_append, List.map_singleton, List.map_singleton, ← HY.out]
          exact hown3
        case measure => simp [intOf]; omega
      · have HF := Lib.hid (fin (.inr (by omega)))
        clear fin hown
        go_wp2
        go_ret
        exact ⟨_, j, rfl, HF.out, by omega, hbel⟩
    · obtain rfl : n = j := by omega
      have HF := Lib.hid (fin (.inl rfl))
      clear fin hown
      go_wp2
      go_ret
      exact ⟨_, n, rfl, HF.out, by omega, hbel⟩
end Go.Proofs.YtnchgdjdfhfedaaDoor

set_option linter.unusedSimpArgs false
set_option linter.unusedVariables false
namespace Go.Proofs.YtnchgdjdfhfedaaDoor
open Go.RowKit Go.Ord Go.Baro
theorem plR_fineC {m : Mc} (hm : okMc m) {S : List Int} (hl : S.length ≤ 6000) (hs : ∀ x ∈ S, 0 ≤ x ∧ x < m.ts.length) : PlR m S (plyG m 0 (S.map Int.toNat) (g0 m)).out (plyG m 0 (S.map Int.toNat) (g0 m)).w 0 :=
  .inr (.inr (.inr ⟨hm, hl, hs, rfl, rfl, rfl⟩))

set_option maxRecDepth 100000 in
set_option maxHeartbeats 2000000 in
theorem keep_CountLinearP (c : Cu) (hc : CuOk c) (hgood : CountLinD c) (hM : MaySpec) (hPl : PlaySpec) (hW : W0Spec 8 c.ws) (hA : C0Spec 9 c.ca) (hG : C0Spec 10 c.cg)
    (w : World) (hT : Tab w) (A0 : Option Addr) (n0 c0 : Nat) (x0 : List Int) (h0 : RI w w.heap.size .i64 A0 n0 x0) (b0 : n0 ≤ 17592186044416) (r0 : ∀ x ∈ x0, -9223372036854775808 ≤ x ∧ x ≤ 9223372036854775807) (_ : n0 ≤ c0)
    (A2 : Option Addr) (n2 c2 : Nat) (x2 : List Int) (h2 : RI w w.heap.size .u8 A2 n2 x2) (b2 : n2 ≤ 140737488351232) (r2 : ∀ x ∈ x2, 0 ≤ x ∧ x < 256) (_ : n2 ≤ c2) :
    Calls Tryd.prog 4 #[.slice A0 n0 c0, .slice A2 n2 c2] w fun e w' => e = .returned (.bool true) ∧ Below w.heap.size w w' := by
  have HPl := Lib.hid hPl
  have HMay := Lib.hid hM
  have HT := Lib.hid hT
  have HR2 := Lib.hid r2
  have HLM := Lib.hid (keep_countMachine c hc hW hA hG)
  have HOk := Lib.hid (count_ok hc)
  have HGood := Lib.hid hgood
  have HC := Lib.hid hc
  clear hPl hT r2 r0 hM hW hA hG hgood hc
  go_enter Tryd.func4, Tryd.ntmps4
  go_wp2_with fail
  refine (HLM.out w HT.out A0 n0 c0 x0 h0 b0).mono ?_
  rintro e w1 ⟨Aw, nw, cw, Ac, nc, cc, At, nt, ct, rfl, hin1, rfl, ⟨rfl, rfl⟩, hb1⟩
  have hs1 := hb1.size
  have hA2 := (Below.refl w1.heap.size w1).alloc (Nat.le_refl _) (Obj.cells #[.slice Aw nw cw, .slice Ac 2 cc, .slice At 3 3] 32)
  have bX := Box.newAt w1 32 [.slice Aw nw cw, .slice Ac 2 cc, .slice At 3 3] w1.heap.size rfl
  have hb2 := hb1.trans (hA2.mono hs1)
  have HIN2 := Lib.hid (hin1.below hA2)
  have lX := bX.lt
  obtain ⟨w2, hw2⟩ : ∃ w2, w2 = w1.alloc (Obj.cells #[.slice Aw nw cw, .slice Ac 2 cc, .slice At 3 3] 32) := ⟨_, rfl⟩
  clear hin1
  have HW2 := Lib.hid hw2
  rw [← hw2] at hA2 bX hb2 HIN2 lX
  clear hw2 HLM
  have z0 : w2.cell? ⟨w1.heap.size, 0, none⟩ = _ := bX.cell 0
  have z1 : w2.cell? ⟨w1.heap.size, 1, none⟩ = _ := bX.cell 1
  have z2 : w2.cell? ⟨w1.heap.size, 2, none⟩ = _ := bX.cell 2
  simp only [List.getElem?_cons_zero, List.getElem?_cons_succ] at z0 z1 z2
  have hs2 := hb2.size
  go_wp2
  rw [← HW2.out]
  refine region_first [0, 1] (.cons 2 (seq [3, 4, 5, 6, 7, 8] .nil)) (by kernel_rfl) (by kernel_rfl) ?_
  simp only [pick, List.map_cons, List.map_nil, List.getD_cons_zero, List.getD_cons_succ]
  go_wp2
  refine ord_call (by kernel_rfl) ?_
  simp only [pick, List.map_cons, List.map_nil, List.getD_cons_zero, List.getD_cons_succ]
  go_wp2_with fail
  refine (keep_ScheduleG x2 A2 n2 c2 w2.drew 3 400 (by omega) (by omega) (by omega) ((h2.below hb2.drew).more hb2.drew.size) (by omega) HR2.out).mono ?_
  rintro e w8 ⟨v, n', rfl, hown, hn', hb8⟩
  obtain ⟨As, cs, rfl, hls⟩ := own_form hown
  have hx8 := ext_below hb8
  have hb8' : Below w2.heap.size w2 w8 := hb8.undrew
  have hbel8 := hb2.trans (hb8'.mono hs2)
  go_wp2
  have HIM8 := Lib.hid (HIN2.out.below hb8')
  have HX8 := Lib.hid (bX.below hb8' lX)
  have HRS := Lib.hid (show RI w8 w8.heap.size .i64 As n' (schG 3 400 x2) from Rd.of_own hown)
  have LS := Lib.hid HRS.out.len
  obtain ⟨S, hS⟩ : ∃ S, S = schG 3 400 x2 := ⟨_, rfl⟩
  have hSl : S.length ≤ 400 := by rw [hS, LS.out]; exact hn'
  have hSi : ∀ x ∈ S, 0 ≤ x ∧ x < 3 := fun x hx => schG_in (k := 3) (by omega) (hS ▸ hx)
  rw [← hS] at HRS
  have hR := plR_fineC (HOk.out x0) (S := S) (by omega) (fun x hx => by have := hSi x hx; simpa [mCount] using this)
  obtain ⟨hne, hcl, h9, hlin⟩ := HGood.out x0 (S.map Int.toNat) (by simpa using hSl) (fun x hx => by
    obtain ⟨y, hy, rfl⟩ := List.mem_map.1 hx
    have := hSi y hy
    omega)
  have hrn := rn_ply _ hne
  obtain ⟨T, hTT⟩ : ∃ T, T = (plyG (mCount c x0) 0 (S.map Int.toNat) (g0 (mCount c x0))).out := ⟨_, rfl⟩
  obtain ⟨W, hWW⟩ : ∃ W, W = (plyG (mCount c x0) 0 (S.map Int.toNat) (g0 (mCount c x0))).w := ⟨_, rfl⟩
  rw [← hTT, ← hWW] at hR
  rw [← hTT] at hcl h9 hlin hrn
  have HR := Lib.hid hR
  have HCL := Lib.hid hcl
  have H9 := Lib.hid h9
  have HLIN := Lib.hid hlin
  have HRN := Lib.hid hrn
  clear hR hcl h9 hlin hrn hne hTT hWW hSl hSi hS hown hb8 z0 z1 z2 bX HGood
  refine ord_last [3, 4, 5, 6, 7, 8] (by kernel_rfl) ?_
  simp only [pick, List.map_cons, List.map_nil, List.getD_cons_zero, List.getD_cons_succ]
  go_wp2_with fail
  refine (keep_ran HPl.out w8 (HT.out.below hbel8 HT.out.lt) Aw nw cw Ac 2 cc At 3 3 (mCount c x0) As n' cs S T W HIM8.out HRS.out (by omega) HR.out HRN.out).mono ?_
  rintro e w4 ⟨A4, n4, c4, L, rfl, hlc4, hn4', HL, hD, hb5⟩
  have hb6 := hbel8.trans (hb5.mono hbel8.size)
  obtain ⟨D, hDD⟩ : ∃ D, D = dgs T := ⟨_, rfl⟩
  rw [← hDD] at HL HCL H9 HLIN
  have LD := Lib.hid (show D.length = n4 by rw [← HL.out, List.length_map]; exact hD.len)
  have hn9 : n4 ≤ 9 := by rw [← LD.out]; exact H9.out
  have HDM := Lib.hid hD
  have HBW := Lib.hid hb6
  have HIM4 := Lib.hid (HIM8.out.below hb5)
  have bX4 := HX8.out.below hb5 HX8.out.lt
  have HX4 := Lib.hid bX4
  have z0 : w4.cell? ⟨w1.heap.size, 0, none⟩ = _ := bX4.cell 0
  have z1 : w4.cell? ⟨w1.heap.size, 1, none⟩ = _ := bX4.cell 1
  have z2 : w4.cell? ⟨w1.heap.size, 2, none⟩ = _ := bX4.cell 2
  simp only [List.getElem?_cons_zero, List.getElem?_cons_succ] at z0 z1 z2
  have lX4 := bX4.lt
  have hs4 := hb6.size
  have hTw4 := HT.out.below hb6 HT.out.lt
  obtain ⟨k0, o0, p0, q0, l0, i0, rfl, hk0, e0, _, ro0, HI0, _⟩ := HIM4.out.cs.val (i := 0) (by omega)
  obtain ⟨k1, o1, p1, q1, l1, i1, hAe, hk1, e1, _, ro1, HI1, _⟩ := HIM4.out.cs.val (i := 1) (by omega)
  injection hAe with hAe
  injection hAe with hAe1 hAe2
  subst hAe1 hAe2
  have ei0 : i0 = c.ca := by have := HI0.out; simp [mCount] at this; exact this.symm
  have ei1 : i1 = c.cg := by have := HI1.out; simp [mCount] at this; exact this.symm
  have hp0 : ((q0 : Int) == 0) = false := by have h := ro0.len; rw [ei0] at h; have := HC.out.a0; simp; omega
  have hp1 : ((q1 : Int) == 0) = false := by have h := ro1.len; rw [ei1] at h; have := HC.out.g0; simp; omega
  have lk0 : k0 < w4.heap.size := hk0
  rw [Nat.add_zero] at e0
  have HTw := Lib.hid hTw4
  clear ei0 ei1 HI0 HI1 ro0 ro1 hk0 hk1 HIN2 HIM8 HX8 HRS HR HRN HPl hb5 hb2 hA2 hbel8 hb8' hx8 hD hTw4
  go_wp2_with fail
  refine (HMay.out w4 HTw.out Aw nw cw (some ⟨k0, o0, none⟩) 2 cc At 3 3 (mCount c x0) true HIM4.out (by simp; exact HOk.out x0)).mono ?_
  rintro e w5 ⟨rfl, hb7⟩
  have hb9 := hb6.trans (hb7.mono hs4)
  have HB9 := Lib.hid hb9
  have HB7 := Lib.hid hb7
  have HS5 := Lib.hid hb7.size
  have HX5 := Lib.hid (bX4.below hb7 lX4)
  have HIM5 := Lib.hid (HIM4.out.below hb7)
  have HDM5 := Lib.hid ((HDM.out.below hb7).more hb7.size)
  clear hb6 hb7 hb9 z0 z1 z2 bX4 lX4 hp0 hp1 e0 e1 HIM4 HX4 HDM
  go_wp2
  go_loopw [8, 9] (fun v i wr => ∃ j : Nat, j ≤ n4 ∧ i = .int .i64 j ∧ Hid (wr.ownsRow w5.heap.size 46 5 v j (((D.take j).map (cntA (mCount c x0))).flatMap acV)) ∧ Below w5.heap.size w5 wr) (fun _ i _ => n4 - (intOf i).toNat)
  case atStart => exact ⟨0, Nat.zero_le _, rfl, World.ownsRow_nil _ _ _ _, Below.refl _ _⟩
  case round =>
    obtain ⟨j, hj, rfl, HOW, hbel⟩ := hrel
    have hsz := hbel.size
    by_cases hjn : j < n4
    · obtain ⟨b, o, x, A', n'', k', rfl, hbB, d0, d1, d2, d3, d4, hlk, hn5, hri, HXL, HX⟩ := (HDM5.out.below hbel).val hjn
      have HXD : Hid (D[j]? = some x) := by have := HX.out; rwa [HL.out] at this
      have hxm : x ∈ D := List.mem_of_getElem? HXD.out
      obtain ⟨htold, hth, hxl⟩ := HCL.out x hxm
      have hbs : b < wr.heap.size := by omega
      have bXr := HX5.out.below hbel HX5.out.lt
      have z2 : wr.cell? ⟨w1.heap.size, 2, none⟩ = _ := bXr.cell 2
      simp only [List.getElem?_cons_zero, List.getElem?_cons_succ] at z2
      have lXr := bXr.lt
      obtain ⟨bt, ot, At', nt', kt, t, rfl, hbt, y0, hlt, hrl, HTT, htm⟩ := ((HIM5.out.ts).below hbel).val (i := x.th) (by omega)
      have et : t = cntT x0 x.th := by
        have := HTT.out
        rcases (by omega : x.th = 0 ∨ x.th = 1 ∨ x.th = 2) with h | h | h <;> rw [h] at this ⊢ <;> simp [mCount] at this <;> exact this.symm
      have hnt : nt' = 3 := by have := hrl.len; rw [et] at this; simpa [cntT] using this.symm
      subst hnt
      obtain ⟨bl, ol, qx, A7, n7, k7, ar, hAl, hbl, l0, l1, hlk7, hri7, HL7, hl7m⟩ := hrl.val (i := x.cl) (by omega)
      subst hAl
      have lbt : bt < wr.heap.size := by omega
      have lbl : bl < wr.heap.size := by omega
      have HET := Lib.hid et
      have HTOLD := Lib.hid htold
      clear et htold htm hl7m hrl bXr HTT
      go_wp2
      refine region_first [0, 1, 2, 3, 4, 5, 6, 7, 8, 9, 10, 11, 12, 13, 14, 15] (.cons 16 (seq [17] .nil)) (by kernel_rfl) (by kernel_rfl) ?_
      simp only [pick, List.map_cons, List.map_nil, List.getD_cons_zero, List.getD_cons_succ]
      go_wp2
      refine ord_call (by kernel_rfl) ?_
      simp only [pick, List.map_cons, List.map_nil, List.getD_cons_zero, List.getD_cons_succ]
      go_wp2
      refine ⟨ext_below ((Below.refl _ _).alloc (Nat.le_refl _) _), ?_⟩
      refine ord_last [17] (by kernel_rfl) ?_
      simp only [pick, List.map_cons, List.map_nil, List.getD_cons_zero, List.getD_cons_succ]
      go_wp2
      have hbc := ((Below.refl wr.heap.size wr).alloc (Nat.le_refl _) (Obj.cells #[.int .i64 qx, .slice A7 n7 k7] 41)).drew
      have bc0 := Box.newAt wr 41 [.int .i64 qx, .slice A7 n7 k7] wr.heap.size rfl
      have bc := bc0.below (Below.refl _ _).drew bc0.lt
      clear bc0
      obtain ⟨wc, hwc⟩ : ∃ W, W = (wr.alloc (Obj.cells #[.int .i64 qx, .slice A7 n7 k7] 41)).drew := ⟨_, rfl⟩
      obtain ⟨gc, hgc⟩ : ∃ g, g = wr.heap.size := ⟨_, rfl⟩
      rw [← hwc] at hbc bc ⊢
      have Hgc := Lib.hid hgc
      have Hbc := Lib.hid hbc
      have hsc := hbc.size
      rw [← hgc] at bc ⊢
      clear hwc hgc
      have lgc := bc.lt
      have v0 : wc.cell? ⟨gc, 0, none⟩ = _ := bc.cell 0
      have v1 : wc.cell? ⟨gc, 1, none⟩ = _ := bc.cell 1
      simp only [List.getElem?_cons_zero, List.getElem?_cons_succ] at v0 v1
      have d0 := (hbc.cell (p := ⟨b, o + j * 5, none⟩) hbs).trans d0
      have d1 := (hbc.cell (p := ⟨b, o + j * 5 + 1, none⟩) hbs).trans d1
      have d4 := (hbc.cell (p := ⟨b, o + j * 5 + 4, none⟩) hbs).trans d4
      have lbc : b < wc.heap.size := by omega
      clear hbc y0 l0 l1 z2 d2 d3
      have hcl : (cntT x0 x.th)[x.cl]? = some ⟨qx, ar⟩ := by rw [← HET.out]; exact HL7.out
      have HCA : Hid (cntA (mCount c x0) x = ⟨x.b, x.e, decide (qx = 0), if x.e = -1 then 0 else x.to.headD 0, if qx = 0 then ar.headD 0 else 0⟩) := by
        show _ = _
        have e1 : ((mCount c x0).ts[x.th]?.getD [])[x.cl]? = some ⟨qx, ar⟩ := by
          have : (mCount c x0).ts[x.th]? = some (cntT x0 x.th) := by
            rcases (by omega : x.th = 0 ∨ x.th = 1 ∨ x.th = 2) with h | h | h <;> rw [h] <;> rfl
          rw [this]; exact hcl
        unfold cntA
        rw [e1]
      have hcc : (qx = 0 ∧ ∃ y, ar = [y]) ∨ (qx = 1 ∧ ar = []) := by
        have h : ∃ i, cntC x0 i = ⟨qx, ar⟩ := by
          have := List.mem_of_getElem? hcl
          simp only [cntT, List.mem_cons, List.not_mem_nil, or_false] at this
          rcases this with h | h | h <;> exact ⟨_, h.symm⟩
        obtain ⟨i, h⟩ := h
        rcases cntC_mem x0 i with ⟨e, _⟩ | ⟨e, _⟩ <;> rw [h] at e <;> injection e with e1 e2
        · exact .inl ⟨e1, _, e2⟩
        · exact .inr ⟨e1, e2⟩
      clear hcl
      rcases hcc with ⟨rfl, y, rfl⟩ | ⟨rfl, rfl⟩
      · obtain ⟨ba, oa, av, hAa, hba, ca, HAV, _⟩ := hri7.val (i := 0) (by have := hri7.len; simp at this; omega)
        subst hAa
        rw [Nat.add_zero] at ca
        have hav : y = av := by have := HAV.out; simpa using this
        subst hav
        have hn7 : n7 = 1 := by have := hri7.len; simpa using this.symm
        subst hn7
        have ca := (Hbc.out.cell (p := ⟨ba, oa, none⟩) (show ba < wr.heap.size by omega)).trans ca
        have lba : ba < wc.heap.size := by omega
        clear HAV hri7
        by_cases hxe : x.e = -1
        · have HXE := Lib.hid hxe
          rw [hxe] at d1
          have e1 : ((-1 : Int) != -1) = false := rfl
          clear hxe
          have hbW := (Hbc.out.alloc Hbc.out.size (Obj.cells #[.int .i64 x.b, .int .i64 (-1), .bool true, .int .i64 0, .int .i64 y] 46)).drew
          have HOW1 := Lib.hid (own_kc (T := fun _ => False) HOW.out (Kc.below hbW) id)
          have hbWW := hbel.trans (hbW.mono hsz)
          have hszW := hbWW.size
          clear hbW
          go_wp2
          refine region_first [0, 1, 2, 3, 4, 5, 6, 7, 8, 9, 10, 11, 12, 13] (.cons 14 (seq [15] .nil)) (by kernel_rfl) (by kernel_rfl) ?_
          simp only [pick, List.map_cons, List.map_nil, List.getD_cons_zero, List.getD_cons_succ]
          go_wp2
          refine ord_call (by kernel_rfl) ?_
          simp only [pick, List.map_cons, List.map_nil, List.getD_cons_zero, List.getD_cons_succ]
          go_wp2
          refine ⟨ext_below ((Below.refl _ _).alloc (Nat.le_refl _) _), ?_⟩
          refine ord_last [15] (by kernel_rfl) ?_
          simp only [pick, List.map_cons, List.map_nil, List.getD_cons_zero, List.getD_cons_succ]
          go_wp2_with (at_builtin; go_must (refine app_lit eltAct _ rfl (.tmp 105) (.tmp 107) rfl w5.heap.size _ j _ rfl (by exact HOW1.out) 1 [.int .i64 x.b, .int .i64 (-1), .bool true, .int .i64 0, .int .i64 y] (wc.heap.size + 1) (by simp) rfl rfl (by exact acV_one [⟨x.b, (-1), true, 0, y⟩]) (by omega) (by omega) hszW ?_); intro v6 w6 hown6 hgr6 hbel6 hsz6)
          have hb6 : Below w5.heap.size w5 w6 := hbel6 _ hbWW
          go_roundw
          case rel =>
            refine ⟨j + 1, by omega, by go_num, ?_, hb6⟩
            show World.ownsRow _ _ _ _ _ _ _
            rw [at_take HXD.out, List.map_append, List.flatMap_append]
            have e1 : [cntA (mCount c x0) x].flatMap acV = [.int .i64 x.b, .int .i64 (-1), .bool true, .int .i64 0, .int .i64 y] := by
              rw [HCA.out]
              simp [acV, HXE.out]
            rw [List.map_singleton, e1]
            exact hown6
          case measure => simp [intOf]; omega
        · have HXE := Lib.hid hxe
          have e1 : (x.e != -1) = true := by simp [hxe]
          have hl1 := HTOLD.out hxe
          have hn1 : n'' = 1 := by have := hri.len; omega
          subst hn1
          obtain ⟨t0, ht0⟩ : ∃ t0, x.to = [t0] := List.length_eq_one_iff.1 hl1
          have HTO := Lib.hid ht0
          obtain ⟨bt0, ot0, tv, rfl, hbt0, ct0, HTV, _⟩ := hri.val (i := 0) (by omega)
          rw [Nat.add_zero] at ct0
          have htv : t0 = tv := by have := HTV.out; rw [ht0] at this; simpa using this
          subst htv
          have ct0 := (Hbc.out.cell (p := ⟨bt0, ot0, none⟩) (show bt0 < wr.heap.size by omega)).trans ct0
          have lt0 : bt0 < wc.heap.size := by omega
          clear hxe hl1 ht0 HTV
          have hbW := (Hbc.out.alloc Hbc.out.size (Obj.cells #[.int .i64 x.b, .int .i64 x.e, .bool true, .int .i64 t0, .int .i64 y] 46)).drew
          have HOW1 := Lib.hid (own_kc (T := fun _ => False) HOW.out (Kc.below hbW) id)
          have hbWW := hbel.trans (hbW.mono hsz)
          have hszW := hbWW.size
          clear hbW
          go_wp2
          refine region_first [0, 1, 2, 3, 4, 5, 6, 7, 8, 9, 10, 11, 12, 13] (.cons 14 (seq [15] .nil)) (by kernel_rfl) (by kernel_rfl) ?_
          simp only [pick, List.map_cons, List.map_nil, List.getD_cons_zero, List.getD_cons_succ]
          go_wp2
          refine ord_call (by kernel_rfl) ?_
          simp only [pick, List.map_cons, List.map_nil, List.getD_cons_zero, List.getD_cons_succ]
          go_wp2
          refine ⟨ext_below ((Below.refl _ _).alloc (Nat.le_refl _) _), ?_⟩
          refine ord_last [15] (by kernel_rfl) ?_
          simp only [pick, List.map_cons, List.map_nil, List.getD_cons_zero, List.getD_cons_succ]
          go_wp2_with (at_builtin; go_must (refine app_lit eltAct _ rfl (.tmp 105) (.tmp 107) rfl w5.heap.size _ j _ rfl (by exact HOW1.out) 1 [.int .i64 x.b, .int .i64 x.e, .bool true, .int .i64 t0, .int .i64 y] (wc.heap.size + 1) (by simp) rfl rfl (by exact acV_one [⟨x.b, x.e, true, t0, y⟩]) (by omega) (by omega) hszW ?_); intro v6 w6 hown6 hgr6 hbel6 hsz6)
          have hb6 : Below w5.heap.size w5 w6 := hbel6 _ hbWW
          go_roundw
          case rel =>
            refine ⟨j + 1, by omega, by go_num, ?_, hb6⟩
            show World.ownsRow _ _ _ _ _ _ _
            rw [at_take HXD.out, List.map_append, List.flatMap_append]
            have e1 : [cntA (mCount c x0) x].flatMap acV = [.int .i64 x.b, .int .i64 x.e, .bool true, .int .i64 t0, .int .i64 y] := by
              rw [HCA.out]
              simp [acV, HXE.out, HTO.out]
            rw [List.map_singleton, e1]
            exact hown6
          case measure => simp [intOf]; omega
      · skip
        by_cases hxe : x.e = -1
        · have HXE := Lib.hid hxe
          rw [hxe] at d1
          have e1 : ((-1 : Int) != -1) = false := rfl
          clear hxe
          have hbW := (Hbc.out.alloc Hbc.out.size (Obj.cells #[.int .i64 x.b, .int .i64 (-1), .bool false, .int .i64 0, .int .i64 0] 46)).drew
          have HOW1 := Lib.hid (own_kc (T := fun _ => False) HOW.out (Kc.below hbW) id)
          have hbWW := hbel.trans (hbW.mono hsz)
          have hszW := hbWW.size
          clear hbW
          go_wp2
          refine region_first [0, 1, 2, 3, 4, 5, 6, 7, 8, 9, 10, 11, 12, 13] (.cons 14 (seq [15] .nil)) (by kernel_rfl) (by kernel_rfl) ?_
          simp only [pick, List.map_cons, List.map_nil, List.getD_cons_zero, List.getD_cons_succ]
          go_wp2
          refine ord_call (by kernel_rfl) ?_
          simp only [pick, List.map_cons, List.map_nil, List.getD_cons_zero, List.getD_cons_succ]
          go_wp2
          refine ⟨ext_below ((Below.refl _ _).alloc (Nat.le_refl _) _), ?_⟩
          refine ord_last [15] (by kernel_rfl) ?_
          simp only [pick, List.map_cons, List.map_nil, List.getD_cons_zero, List.getD_cons_succ]
          go_wp2_with (at_builtin; go_must (refine app_lit eltAct _ rfl (.tmp 105) (.tmp 107) rfl w5.heap.size _ j _ rfl (by exact HOW1.out) 1 [.int .i64 x.b, .int .i64 (-1), .bool false, .int .i64 0, .int .i64 0] (wc.heap.size + 1) (by simp) rfl rfl (by exact acV_one [⟨x.b, (-1), false, 0, 0⟩]) (by omega) (by omega) hszW ?_); intro v6 w6 hown6 hgr6 hbel6 hsz6)
          have hb6 : Below w5.heap.size w5 w6 := hbel6 _ hbWW
          go_roundw
          case rel =>
            refine ⟨j + 1, by omega, by go_num, ?_, hb6⟩
            show World.ownsRow _ _ _ _ _ _ _
            rw [at_take HXD.out, List.map_append, List.flatMap_append]
            have e1 : [cntA (mCount c x0) x].flatMap acV = [.int .i64 x.b, .int .i64 (-1), .bool false, .int .i64 0, .int .i64 0] := by
              rw [HCA.out]
              simp [acV, HXE.out]
            rw [List.map_singleton, e1]
            exact hown6
          case measure => simp [intOf]; omega
        · have HXE := Lib.hid hxe
          have e1 : (x.e != -1) = true := by simp [hxe]
          have hl1 := HTOLD.out hxe
          have hn1 : n'' = 1 := by have := hri.len; omega
          subst hn1
          obtain ⟨t0, ht0⟩ : ∃ t0, x.to = [t0] := List.length_eq_one_iff.1 hl1
          have HTO := Lib.hid ht0
          obtain ⟨bt0, ot0, tv, rfl, hbt0, ct0, HTV, _⟩ := hri.val (i := 0) (by omega)
          rw [Nat.add_zero] at ct0
          have htv : t0 = tv := by have := HTV.out; rw [ht0] at this; simpa using this
          subst htv
          have ct0 := (Hbc.out.cell (p := ⟨bt0, ot0, none⟩) (show bt0 < wr.heap.size by omega)).trans ct0
          have lt0 : bt0 < wc.heap.size := by omega
          clear hxe hl1 ht0 HTV
          have hbW := (Hbc.out.alloc Hbc.out.size (Obj.cells #[.int .i64 x.b, .int .i64 x.e, .bool false, .int .i64 t0, .int .i64 0] 46)).drew
          have HOW1 := Lib.hid (own_kc (T := fun _ => False) HOW.out (Kc.below hbW) id)
          have hbWW := hbel.trans (hbW.mono hsz)
          have hszW := hbWW.size
          clear hbW
          go_wp2
          refine region_first [0, 1, 2, 3, 4, 5, 6, 7, 8, 9, 10, 11, 12, 13] (.cons 14 (seq [15] .nil)) (by kernel_rfl) (by kernel_rfl) ?_
          simp only [pick, List.map_cons, List.map_nil, List.getD_cons_zero, List.getD_cons_succ]
          go_wp2
          refine ord_call (by kernel_rfl) ?_
          simp only [pick, List.map_cons, List.map_nil, List.getD_cons_zero, List.getD_cons_succ]
          go_wp2
          refine ⟨ext_below ((Below.refl _ _).alloc (Nat.le_refl _) _), ?_⟩
          refine ord_last [15] (by kernel_rfl) ?_
          simp only [pick, List.map_cons, List.map_nil, List.getD_cons_zero, List.getD_cons_succ]
          go_wp2_with (at_builtin; go_must (refine app_lit eltAct _ rfl (.tmp 105) (.tmp 107) rfl w5.heap.size _ j _ rfl (by exact HOW1.out) 1 [.int .i64 x.b, .int .i64 x.e, .bool false, .int .i64 t0, .int .i64 0] (wc.heap.size + 1) (by simp) rfl rfl (by exact acV_one [⟨x.b, x.e, false, t0, 0⟩]) (by omega) (by omega) hszW ?_); intro v6 w6 hown6 hgr6 hbel6 hsz6)
          have hb6 : Below w5.heap.size w5 w6 := hbel6 _ hbWW
          go_roundw
          case rel =>
            refine ⟨j + 1, by omega, by go_num, ?_, hb6⟩
            show World.ownsRow _ _ _ _ _ _ _
            rw [at_take HXD.out, List.map_append, List.flatMap_append]
            have e1 : [cntA (mCount c x0) x].flatMap acV = [.int .i64 x.b, .int .i64 x.e, .bool false, .int .i64 t0, .int .i64 0] := by
              rw [HCA.out]
              simp [acV, HXE.out, HTO.out]
            rw [List.map_singleton, e1]
            exact hown6
          case measure => simp [intOf]; omega
    · obtain rfl : n4 = j := by omega
      have hown := HOW.out
      obtain ⟨Av, cv, rfl, hlv⟩ := own_form hown
      have HRA := Lib.hid (show RA wr wr.heap.size Av n4 (D.map (cntA (mCount c x0))) from by have := Rd.of_own hown; rwa [List.take_of_length_le (by rw [LD.out]; omega)] at this)
      clear HOW hown
      have hA9 := hbel.alloc hsz (Obj.cells #[.int .i64 0] 3)
      have hA8 := (Below.refl wr.heap.size wr).alloc (Nat.le_refl _) (Obj.cells #[.int .i64 0] 3)
      have HZ := Lib.hid (QT.box (s := 1) (n := 1) (Box.newAt wr 3 [.int .i64 0] wr.heap.size rfl) rfl).rd
      have HRA8 := Lib.hid ((HRA.out.below hA8).more hA8.size)
      have hb8 := HB9.out.trans (hA9.mono HB9.out.size)
      clear hA9 hA8
      go_wp2_with fail
      refine (keep_Linear n4 _ 2 (some ⟨wr.heap.size, 0, none⟩) 1 1 [0] Av n4 cv (D.map (cntA (mCount c x0))) true rfl (by omega) (Nat.le_refl _) hlv (by decide) (fun _ => rfl) (fun _ => ⟨0, rfl, by unfold wrap64; omega⟩) (fun a ha _ hp => ?_) (by exact HZ.out) HRA8.out (by simp; exact HLIN.out)).mono ?_
      · obtain ⟨d, _, rfl⟩ := List.mem_map.1 ha
        unfold cntA at hp ⊢
        split at hp
        · rename_i cl hcl
          simp only [decide_eq_false_iff_not] at hp
          simp only [hp, if_false]
        · rfl
      rintro e w9 ⟨rfl, hb10⟩
      have hbE := hb8.trans (hb10.mono hb8.size)
      go_wp2
      go_ret
      exact ⟨rfl, hbE⟩
end Go.Proofs.YtnchgdjdfhfedaaDoor

set_option linter.unusedSimpArgs false
set_option linter.unusedVariables false
namespace Go.Baro

/-- A name. -/
abbrev Nm := List UInt8
/-- A builder: the code, the registers and the labels in the order of their names' first use, the jumps, whether a name was given twice. -/
structure Bs where
  code : List Ins
  regs : List (Nm × Int)
  labs : List (Nm × Int)
  jmps : List (Int × Nm)
  twice : Bool
def nmAsk : List (Nm × Int) → Nm → Option Int
  | [], _ => none
  | p :: ks, s => if p.1 = s then some p.2 else nmAsk ks s
theorem nmAsk_append (a b : List (Nm × Int)) (s : Nm) : nmAsk (a ++ b) s = (nmAsk a s).or (nmAsk b s) := by
  induction a with
  | nil => simp [nmAsk]
  | cons p a ih =>
    rw [List.cons_append, nmAsk, nmAsk]
    split
    · rfl
    · exact ih
/-- The number of a register; a new one is the next. -/
def Bs.rg (b : Bs) (s : Nm) : Bs × Int := match nmAsk b.regs s with
  | some v => (b, v)
  | none => ({ b with regs := b.regs ++ [(s, (b.regs.length : Int))] }, (b.regs.length : Int))
def Bs.put (b : Bs) (o : Ins) : Bs := { b with code := b.code ++ [o] }
def Bs.jmp (b : Bs) (l : Nm) : Bs := { b with jmps := b.jmps ++ [((b.code.length : Int), l)] }
def Bs.lab (b : Bs) (l : Nm) : Bs := { b with labs := b.labs ++ [(l, (b.code.length : Int))] }
def Bs.set (b : Bs) (to : Nm) (n : Int) : Bs := (b.rg to).1.put ⟨1, (b.rg to).2, n, 0, 0⟩
def Bs.two (b : Bs) (x y : Nm) : Bs × Int × Int := (((b.rg x).1.rg y).1, (b.rg x).2, ((b.rg x).1.rg y).2)
def Bs.three (b : Bs) (x y z : Nm) : Bs × Int × Int × Int := (((b.two x y).1.rg z).1, (b.two x y).2.1, (b.two x y).2.2, ((b.two x y).1.rg z).2)
def Bs.copy (b : Bs) (x y : Nm) : Bs := (b.two x y).1.put ⟨2, (b.two x y).2.1, (b.two x y).2.2, 0, 0⟩
def Bs.op3 (b : Bs) (k : Int) (x y z : Nm) : Bs := (b.three x y z).1.put ⟨k, (b.three x y z).2.1, (b.three x y z).2.2.1, (b.three x y z).2.2.2, 0⟩
def Bs.jump (b : Bs) (l : Nm) : Bs := (b.jmp l).put ⟨10, 0, 0, 0, 0⟩
def Bs.when (b : Bs) (r l : Nm) : Bs := ((b.jmp l).rg r).1.put ⟨11, ((b.jmp l).rg r).2, 0, 0, 0⟩
def Bs.unless (b : Bs) (r l : Nm) : Bs := ((b.jmp l).rg r).1.put ⟨12, ((b.jmp l).rg r).2, 0, 0, 0⟩
def Bs.load (b : Bs) (x y : Nm) (o : Int) : Bs := (b.two x y).1.put ⟨13, (b.two x y).2.1, (b.two x y).2.2, o, 0⟩
def Bs.store (b : Bs) (x y : Nm) (o : Int) : Bs := (b.two x y).1.put ⟨14, (b.two x y).2.1, (b.two x y).2.2, o, 0⟩
def Bs.cas (b : Bs) (x y : Nm) (o : Int) (z : Nm) : Bs := (b.three x y z).1.put ⟨15, (b.three x y z).2.1, (b.three x y z).2.2.1, o, (b.three x y z).2.2.2⟩
def Bs.emit1 (b : Bs) (x : Nm) : Bs := (b.rg x).1.put ⟨16, (b.rg x).2, 0, 0, 0⟩
def Bs.emit (b : Bs) (xs : List Nm) : Bs := xs.foldl Bs.emit1 b
def Bs.new (xs : List Nm) : Bs := xs.foldl (fun b x => (b.rg x).1) ⟨[], [], [], [], false⟩
/-- An instruction whose target is known. -/
def tgt (o : Ins) (v : Int) : Ins := if o.k = 10 then { o with a := v } else { o with b := v }
/-- The targets of the jumps are put in. -/
def rslv (labs : List (Nm × Int)) : List (Int × Nm) → List Ins → Option (List Ins)
  | [], c => some c
  | j :: js, c => match nmAsk labs j.2, c[j.1.toNat]? with
    | some v, some o => rslv labs js (c.set j.1.toNat (tgt o v))
    | _, _ => none
/-- The code, where nothing is wrong with it. -/
def Bs.fin (b : Bs) : Option (List Ins) := if b.twice = true then none else
  match rslv b.labs b.jmps b.code with
  | none => none
  | some c => if okC c then some c else none
theorem Bs.fin_some {b : Bs} {c : List Ins} (h : b.fin = some c) : b.twice = false ∧ rslv b.labs b.jmps b.code = some c ∧ okC c := by
  unfold Bs.fin at h
  by_cases ht : b.twice = true
  · rw [if_pos ht] at h; cases h
  · rw [if_neg ht] at h
    cases hr : rslv b.labs b.jmps b.code with
    | none => rw [hr] at h; cases h
    | some c' =>
      rw [hr] at h
      dsimp only at h
      split at h
      · cases h; exact ⟨by simpa using ht, rfl, by assumption⟩
      · cases h
theorem rslv_len (labs : List (Nm × Int)) : ∀ (js : List (Int × Nm)) (c c' : List Ins), rslv labs js c = some c' → c'.length = c.length
  | [], c, c', h => by cases h; rfl
  | j :: js, c, c', h => by
    unfold rslv at h
    split at h
    · rw [rslv_len labs js _ c' h]; simp
    · cases h
/-- A jump that is resolved. -/
theorem rslv_at (labs : List (Nm × Int)) {c' : List Ins} : ∀ (js : List (Int × Nm)) (c : List Ins), rslv labs js c = some c' → ∀ (i : Nat) (j : Int × Nm), js[i]? = some j → ∃ v o ci, nmAsk labs j.2 = some v ∧ rslv labs (js.drop i) ci = some c' ∧ rslv labs (js.take i) c = some ci ∧ ci[j.1.toNat]? = some o ∧ rslv labs (js.take (i + 1)) c = some (ci.set j.1.toNat (tgt o v)) ∧ rslv labs (js.drop (i + 1)) (ci.set j.1.toNat (tgt o v)) = some c'
  | [], c, h, i, j, hj => by simp at hj
  | k :: js, c, h, 0, j, hj => by
    simp at hj
    subst hj
    have h' := h
    unfold rslv at h
    cases ha : nmAsk labs k.2 with
    | none => simp [ha] at h
    | some v =>
      cases hc : c[k.1.toNat]? with
      | none => simp [ha, hc] at h
      | some o =>
        simp only [ha, hc] at h
        exact ⟨v, o, c, rfl, h', rfl, hc, by simp [rslv, ha, hc], by simpa using h⟩
  | k :: js, c, h, i + 1, j, hj => by
    unfold rslv at h
    cases ha : nmAsk labs k.2 with
    | none => simp [ha] at h
    | some v =>
      cases hc : c[k.1.toNat]? with
      | none => simp [ha, hc] at h
      | some o =>
        simp only [ha, hc] at h
        obtain ⟨v', o', ci, q1, q2, q3, q4, q5, q6⟩ := rslv_at labs js _ h i j (by simpa using hj)
        refine ⟨v', o', ci, q1, by simpa using q2, ?_, q4, ?_, by simpa using q6⟩
        · rw [List.take_succ_cons, rslv]
          simp only [ha, hc]
          exact q3
        · rw [List.take_succ_cons, rslv]
          simp only [ha, hc]
          exact q5
section
variable (b : Bs) (x y z l : Nm) (n k : Int)
theorem labs_rg : (b.rg x).1.labs = b.labs := by unfold Bs.rg; split <;> rfl
theorem labs_set : (b.set x n).labs = b.labs := labs_rg b x
theorem labs_two : (b.two x y).1.labs = b.labs := by unfold Bs.two; rw [labs_rg, labs_rg]
theorem labs_three : (b.three x y z).1.labs = b.labs := by unfold Bs.three; rw [labs_rg, labs_two]
theorem labs_copy : (b.copy x y).labs = b.labs := labs_two b x y
theorem labs_op3 : (b.op3 k x y z).labs = b.labs := labs_three b x y z
theorem labs_jump : (b.jump l).labs = b.labs := rfl
theorem labs_when : (b.when x l).labs = b.labs := labs_rg (b.jmp l) x
theorem labs_unless : (b.unless x l).labs = b.labs := labs_rg (b.jmp l) x
theorem labs_load : (b.load x y n).labs = b.labs := labs_two b x y
theorem labs_store : (b.store x y n).labs = b.labs := labs_two b x y
theorem labs_cas : (b.cas x y n z).labs = b.labs := labs_three b x y z
theorem nmAsk_lab {b : Bs} {l l' : Nm} (h : nmAsk b.labs l = none) (hne : l' ≠ l) : nmAsk (b.lab l').labs l = none := by
  unfold Bs.lab
  dsimp only
  rw [nmAsk_append, h]
  simp [nmAsk, hne]
theorem labs_fold {α : Type} {f : Bs → α → Bs} (h : ∀ b a, (f b a).labs = b.labs) : ∀ (l : List α) (b : Bs), (l.foldl f b).labs = b.labs
  | [], b => rfl
  | a :: l, b => by rw [List.foldl_cons, labs_fold h l, h]
theorem labs_new (xs : List Nm) : (Bs.new xs).labs = [] := labs_fold (f := fun b x => (b.rg x).1) (fun b a => labs_rg b a) xs _
end
end Go.Baro
