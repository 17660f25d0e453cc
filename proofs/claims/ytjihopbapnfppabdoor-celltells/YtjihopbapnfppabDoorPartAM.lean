/- Of this claim's own texts these, one behind the other: KeepSched, KeepPicked, KeepCellWP. No statement of the seat is proved here; no condition but those that stand at the theorems. -/
import Derived.Test.YtjihopbapnfppabDoorPartAI
import Derived.Test.YtjihopbapnfppabDoorRows
import Derived.Test.YtjihopbapnfppabDoorPartAD
import Derived.Test.YtjihopbapnfppabDoorPartAH
import Derived.Test.YtjihopbapnfppabDoorPartAL
set_option linter.unusedSimpArgs false
set_option linter.unusedVariables false
namespace Go.Proofs.YtjihopbapnfppabDoor
open Go.RowKit Go.Ord Go.Baro

/-- The schedule that is drawn. -/
def schG (k most : Nat) (l : List Int) : List Int := (l.take most).map (· % (k : Int))
theorem schG_len (k most : Nat) (l : List Int) : (schG k most l).length = min most l.length := by simp [schG]
theorem schG_in {k most : Nat} (hk : 0 < k) {l : List Int} {x : Int} (h : x ∈ schG k most l) : 0 ≤ x ∧ x < k := by
  obtain ⟨y, _, rfl⟩ := List.mem_map.1 h
  exact ⟨Int.emod_nonneg _ (by omega), Int.emod_lt_of_pos _ (by omega)⟩

set_option maxRecDepth 100000 in
set_option maxHeartbeats 2000000 in
theorem keep_ScheduleG (l : List Int) (A : Option Addr) (n c : Nat) (w : World) (k most : Nat) (hk : 0 < k) (hk2 : k ≤ 100) (hmost : most ≤ 6000) (hb : RI w w.heap.size .u8 A n l) (hn : n ≤ 140737488355328) (hr : ∀ x ∈ l, 0 ≤ x ∧ x < 256) :
    Calls Tryd.prog 13 #[.slice A n c, .int .i64 k, .int .i64 most] w fun e w' => ∃ v n', e = .returned v ∧ w'.ownsRow w.heap.size 3 1 v n' ((schG k most l).map (Value.int .i64)) ∧ n' ≤ most ∧ Below w.heap.size w w' := by
  have HL := Lib.hid hb.len
  have HR := Lib.hid hr
  have hk0 : ((k : Int) == 0) = false := by simp; omega
  have hkn : (k : Int) ≠ 0 := by omega
  clear hr
  go_enter Tryd.func13, Tryd.ntmps13
  go_wp2
  go_loopw [7, 8] (fun v i wr => ∃ j : Nat, j ≤ n ∧ j ≤ most ∧ i = .int .i64 j ∧ wr.ownsRow w.heap.size 3 1 v j (((l.take j).map (· % (k : Int))).map (Value.int .i64)) ∧ Below w.heap.size w wr) (fun _ i _ => most - (intOf i).toNat)
  case atStart => exact ⟨0, Nat.zero_le _, by omega, rfl, World.ownsRow_nil _ _ _ _, Below.refl _ _⟩
  case round =>
    obtain ⟨j, hj, hj4, rfl, hown, hbel⟩ := hrel
    have hsz := hbel.size
    have fin : j = n ∨ j = most → wr.ownsRow w.heap.size 3 1 u7 j ((schG k most l).map (Value.int .i64)) := by
      intro h
      have e : schG k most l = (l.take j).map (· % (k : Int)) := by
        unfold schG
        rcases h with h | h
        · rw [List.take_of_length_le (l := l) (i := j) (by rw [HL.out]; omega), List.take_of_length_le (l := l) (i := most) (by rw [HL.out]; omega)]
        · rw [h]
      rw [e]
      exact hown
    by_cases h1 : j < n
    · by_cases h2 : j < most
      · clear fin
        obtain ⟨b, o, x, rfl, hbB, hcell, HX, hmem⟩ := (hb.below hbel).val h1
        obtain ⟨hx0, hx1⟩ := HR.out x hmem
        have ht : x.tmod k = x % k := Int.tmod_eq_emod_of_nonneg hx0
        obtain ⟨y, hy⟩ : ∃ y, y = x % (k : Int) := ⟨_, rfl⟩
        have hy0 : 0 ≤ y := by rw [hy]; exact Int.emod_nonneg _ hkn
        have hy1 : y < k := by rw [hy]; exact Int.emod_lt_of_pos _ (by omega)
        rw [← hy] at ht
        have HY := Lib.hid hy
        clear hmem hy
        go_wp2_with (at_builtin; go_must (refine app_lit eltIntS wr rfl _ _ rfl w.heap.size _ j _ rfl (by exact hown) 1 [.int .i64 y] wr.heap.size rfl rfl rfl (one_ints _ [y]) (by omega) (by omega) hsz ?_); intro v3 w3 hown3 hgr3 hbel3 _)
        go_roundw
        case rel =>
          refine ⟨j + 1, by omega, by omega, by go_num, ?_, hbel3 _ hbel⟩
          rw [at_take HX.out, List.map_append, List.map_append, List.map_singleton, List.map_singleton, ← HY.out]
          exact hown3
        case measure => simp [intOf]; omega
      · have HF := Lib.hid (fin (.inr (by omega)))
        clear fin hown
        go_wp2
        go_ret
        exact ⟨_, j, rfl, HF.out, by omega, hbel⟩
    · obtain rfl : n = j := by omega
      have HF := Lib.hid (fin (.inl rfl))
      clear fin hown
      go_wp2
      go_ret
      exact ⟨_, n, rfl, HF.out, by omega, hbel⟩
end Go.Proofs.YtjihopbapnfppabDoor

set_option linter.unusedSimpArgs false
set_option linter.unusedVariables false
namespace Go.Proofs.YtjihopbapnfppabDoor
open Go.RowKit Go.Ord Go.Baro

theorem tmod_pick (a n : Int) (hn : 0 < n) : (if a.tmod n < 0 then a.tmod n + n else a.tmod n) = a % n := by
  have h1 := Int.tmod_eq_emod (a := a) (b := n)
  have h2 := Int.emod_nonneg a (show n ≠ 0 by omega)
  have h3 := Int.emod_lt_of_pos a hn
  rw [h1]
  split <;> split <;> omega

theorem keep_Picked (a n : Int) (w : World) (hn : 0 < n) (hn1 : n ≤ 4611686018427387904) :
    Calls Tryd.prog 11 #[.int .i64 a, .int .i64 n] w fun e w' => e = .returned (.int .i64 (a % n)) ∧ w = w' := by
  have HT := Lib.hid (tmod_pick a n hn)
  have hb1 : -n < a.tmod n := Int.lt_tmod_of_pos a hn
  have hb2 : a.tmod n < n := Int.tmod_lt_of_pos a hn
  have hne : (n == 0) = false := by simp; omega
  by_cases h : a.tmod n < 0
  · go_enter Tryd.func11, Tryd.ntmps11
    go_wp2
    go_ret
    refine ⟨ret_int ?_, rfl⟩
    have := HT.out
    rw [if_pos h] at this
    exact this
  · go_enter Tryd.func11, Tryd.ntmps11
    go_wp2
    go_ret
    refine ⟨ret_int ?_, rfl⟩
    have := HT.out
    rw [if_neg (by omega)] at this
    exact this
end Go.Proofs.YtjihopbapnfppabDoor

set_option linter.unusedSimpArgs false
set_option linter.unusedVariables false
namespace Go.Proofs.YtjihopbapnfppabDoor
open Go.RowKit Go.Ord Go.Baro

/-- What is known of a run that is fine. -/
theorem plR_fine {m : Mc} (hm : okMc m) {S : List Int} (hl : S.length ≤ 6000) (hs : ∀ x ∈ S, 0 ≤ x ∧ x < m.ts.length) : PlR m S (plyG m 0 (S.map Int.toNat) (g0 m)).out (plyG m 0 (S.map Int.toNat) (g0 m)).w 0 :=
  .inr (.inr (.inr ⟨hm, hl, hs, rfl, rfl, rfl⟩))

set_option maxRecDepth 100000 in
set_option maxHeartbeats 2000000 in
theorem keep_CellWholeP (c : Cc) (hc : c.Ok) (hgood : CellWhole c) (hM : MaySpec) (hPl : PlaySpec) (hW : CellWordsSpec c) (hP : CellCodeSpec 8 c.cp) (hG : CellCodeSpec 9 c.cg) (w : World) (hT : Tab w)
    (x0 : Int) (r0 : -9223372036854775808 ≤ x0 ∧ x0 ≤ 9223372036854775807)
    (A1 : Option Addr) (n1 c1 : Nat) (x1 : List Int) (h1 : RI w w.heap.size .u8 A1 n1 x1) (b1 : n1 ≤ 140737488351232) (r1 : ∀ x ∈ x1, 0 ≤ x ∧ x < 256) (_ : n1 ≤ c1) :
    Calls Tryd.prog 4 #[.int .i64 x0, .slice A1 n1 c1] w fun e w' => e = .returned (.bool true) ∧ Below w.heap.size w w' := by
  have HPl := Lib.hid hPl
  have HT := Lib.hid hT
  have HR1 := Lib.hid r1
  have HCM := Lib.hid (keep_cellMachine c hc hM hW hP hG)
  have HGood := Lib.hid hgood
  have HC := Lib.hid hc
  clear hPl hT r1 hM hW hP hG hgood hc
  obtain ⟨d, hd⟩ : ∃ d : Nat, (d : Int) = 1 + x0 % 6 := ⟨(1 + x0 % 6).toNat, by omega⟩
  have hd1 : 1 ≤ d := by omega
  have hd6 : d ≤ 6 := by omega
  go_enter Tryd.func4, Tryd.ntmps4
  go_wp2_with fail
  refine (keep_Picked x0 6 w (by omega) (by omega)).mono ?_
  rintro e w' ⟨rfl, rfl⟩
  obtain ⟨y0, hy0⟩ : ∃ y0, y0 = x0 % 6 := ⟨_, rfl⟩
  rw [← hy0] at hd ⊢
  have hyd : y0 = (d : Int) - 1 := by omega
  clear hy0 hd
  subst hyd
  have hdd : (1 + ((d : Int) - 1)) = (d : Int) := by omega
  go_wp2_with fail
  refine (HCM.out w HT.out d 12 8 hd1 hd6 (by omega) (by omega)).mono ?_
  rintro e w1 ⟨Aw, nw, cw, gc, g6, B6, tg, ts, rfl, hcm1, hmg1, _, hb1⟩
  have hin1 := hcm1.inM HC.out hd1 hd6 hmg1 (cm_th hd6 (by omega) (by omega))
  clear hcm1 hmg1
  have hs1 := hb1.size
  have hA2 := (Below.refl w1.heap.size w1).alloc (Nat.le_refl _) (Obj.cells #[.slice Aw nw cw, .slice (some ⟨gc, 0, none⟩) 2 2, .slice (some ⟨g6, 0, none⟩) 4 4] 36)
  have bX := Box.newAt w1 36 [.slice Aw nw cw, .slice (some ⟨gc, 0, none⟩) 2 2, .slice (some ⟨g6, 0, none⟩) 4 4] w1.heap.size rfl
  have hb2 := hb1.trans (hA2.mono hs1)
  have HIN2 := Lib.hid (hin1.below hA2)
  have lX := bX.lt
  clear hin1
  go_wp2_with fail
  refine (keep_ScheduleG x1 A1 n1 c1 _ 4 1200 (by omega) (by omega) (by omega) ((h1.below hb2).more hb2.size) (by omega) HR1.out).mono ?_
  rintro e w3 ⟨v3, ns, rfl, hown3, hns, hb3⟩
  obtain ⟨As, cs, rfl, hlcs⟩ := own_form hown3
  have hrs : RI w3 w3.heap.size .i64 As ns (schG 4 1200 x1) := Rd.of_own hown3
  have hb4 := hb2.trans (hb3.mono hb2.size)
  have bX3 := bX.below hb3 lX
  have HIN3 := Lib.hid (HIN2.out.below hb3)
  have z0 : w3.cell? ⟨w1.heap.size, 0, none⟩ = _ := bX3.cell 0
  have z1 : w3.cell? ⟨w1.heap.size, 1, none⟩ = _ := bX3.cell 1
  have z2 : w3.cell? ⟨w1.heap.size, 2, none⟩ = _ := bX3.cell 2
  simp only [List.getElem?_cons_zero, List.getElem?_cons_succ] at z0 z1 z2
  have lX3 := bX3.lt
  have LS := Lib.hid hrs.len
  clear hown3 HIN2 bX
  have hok := mCell_ok HC.out hd1 hd6 (puts := 12) (gets := 8) (by omega) (by omega)
  obtain ⟨S, hS⟩ : ∃ S, S = schG 4 1200 x1 := ⟨_, rfl⟩
  have hSl : S.length ≤ 1200 := by rw [hS, LS.out]; exact hns
  have hSi : ∀ x ∈ S, 0 ≤ x ∧ x < 4 := fun x hx => schG_in (k := 4) (by omega) (hS ▸ hx)
  rw [← hS] at hrs
  have hR := plR_fine hok (S := S) (by omega) (fun x hx => by have := hSi x hx; simpa [mCell] using this)
  obtain ⟨hne, tl, htl⟩ := HGood.out d (S.map Int.toNat) hd1 hd6 (by simpa using hSl) (fun x hx => by
    obtain ⟨y, hy, rfl⟩ := List.mem_map.1 hx
    have := hSi y hy
    omega)
  have hrn := rn_ply _ hne
  obtain ⟨T, hT⟩ : ∃ T, T = (plyG (mCell c d 12 8) 0 (S.map Int.toNat) (g0 (mCell c d 12 8))).out := ⟨_, rfl⟩
  obtain ⟨W, hW⟩ : ∃ W, W = (plyG (mCell c d 12 8) 0 (S.map Int.toNat) (g0 (mCell c d 12 8))).w := ⟨_, rfl⟩
  rw [← hT, ← hW] at hR
  rw [← hT] at htl hrn
  have HR := Lib.hid hR
  have HTL := Lib.hid htl
  have HRN := Lib.hid hrn
  clear hR htl hrn hne hT hW hSl hSi hS hok
  go_wp2_with fail
  refine (keep_ran HPl.out w3 (HT.out.below hb4 HT.out.lt) Aw nw cw _ 2 2 _ 4 4 (mCell c d 12 8) As ns cs S T W HIN3.out hrs (by omega) HR.out HRN.out).mono ?_
  rintro e w4 ⟨A4, n4, c4, L, rfl, hlc4, hn4, HL, hD, hb5⟩
  have hb6 := hb4.trans (hb5.mono hb4.size)
  obtain ⟨D, hDD⟩ : ∃ D, D = dgs T := ⟨_, rfl⟩
  rw [← hDD] at HL HTL
  have LD := Lib.hid (show D.length = n4 by rw [← HL.out, List.length_map]; exact hD.len)
  clear z0 z1 z2 hrs bX3 HIN3 HR HRN HGood HCM HPl hb5 hb4 hb3 hb2 hA2 hDD
  have hI0 : w4.ownsRow w4.heap.size 3 1 (.slice none 0 0) 0 (((List.range 0).map fun i => (tl i : Int)).map (Value.int .i64)) := World.ownsRow_nil _ _ _ _
  go_wp2
  go_loopw [11, 12] (fun v i wr => ∃ j : Nat, j ≤ n4 ∧ i = .int .i64 j ∧ wr.ownsRow w4.heap.size 3 1 v j (((List.range j).map fun i => (tl i : Int)).map (Value.int .i64)) ∧ Below w4.heap.size w4 wr) (fun _ i _ => n4 - (intOf i).toNat)
  case atStart => exact ⟨0, Nat.zero_le _, rfl, hI0, Below.refl _ _⟩
  case round =>
    obtain ⟨j, hj, rfl, hown, hbel⟩ := hrel
    have hsz := hbel.size
    by_cases hjn : j < n4
    · obtain ⟨b, o, x, A', n', k', rfl, hbB, d0, d1, d2, d3, d4, hlk, hn', hri, HXL, HX⟩ := hD.val hjn
      have HXD : Hid (D[j]? = some x) := by have := HX.out; rwa [HL.out] at this
      clear HX HXL
      by_cases hth : x.th = 0
      · have HTH := Lib.hid hth
        have e1 : ((x.th : Int) == 0) = true := by simp [hth]
        clear hth
        have HZ : Hid (tl j = 0) := HTL.out.zero j x HXD.out (.inl HTH.out)
        go_wp2_with (at_builtin; go_must (refine app_lit eltIntS wr rfl _ _ rfl w4.heap.size _ j _ rfl (by exact hown) 1 [.int .i64 0] wr.heap.size rfl rfl rfl (one_ints _ [0]) (by omega) (by omega) hsz ?_); intro v5 w5 own5 g5 hbel5f _; have q2 := ((hbel5f _ hbel).cell (p := ⟨b, o + j * 5 + 2, none⟩) hbB).trans d2; have q1 := ((hbel5f _ hbel).cell (p := ⟨b, o + j * 5 + 1, none⟩) hbB).trans d1)
        have hbel5 := hbel5f _ hbel
        have hsz5 := hbel5.size
        go_roundw
        case rel =>
          refine ⟨j + 1, by omega, by go_num, ?_, hbel5⟩
          rw [List.range_succ, List.map_append, List.map_append, List.map_singleton, List.map_singleton, HZ.out]
          exact own5
        case measure => simp [intOf]; omega
      · have HTH := Lib.hid hth
        have e1 : ((x.th : Int) == 0) = false := by simp; omega
        by_cases hen : x.e = -1
        · have HEN := Lib.hid hen
          have e2 : (x.e == -1) = true := by simp [hen]
          clear hth hen
          have HZ : Hid (tl j = 0) := HTL.out.zero j x HXD.out (.inr HEN.out)
          go_wp2_with (at_builtin; go_must (refine app_lit eltIntS wr rfl _ _ rfl w4.heap.size _ j _ rfl (by exact hown) 1 [.int .i64 0] wr.heap.size rfl rfl rfl (one_ints _ [0]) (by omega) (by omega) hsz ?_); intro v5 w5 own5 g5 hbel5f _; have q2 := ((hbel5f _ hbel).cell (p := ⟨b, o + j * 5 + 2, none⟩) hbB).trans d2; have q1 := ((hbel5f _ hbel).cell (p := ⟨b, o + j * 5 + 1, none⟩) hbB).trans d1)
          have hbel5 := hbel5f _ hbel
          have hsz5 := hbel5.size
          go_roundw
          case rel =>
            refine ⟨j + 1, by omega, by go_num, ?_, hbel5⟩
            rw [List.range_succ, List.map_append, List.map_append, List.map_singleton, List.map_singleton, HZ.out]
            exact own5
          case measure => simp [intOf]; omega
        · have HEN := Lib.hid hen
          have e2 : (x.e == -1) = false := by simp [hen]
          have hto := HTL.out.told j x HXD.out hth hen
          have hle := HTL.out.le j x HXD.out
          have hnd : n' = d := by rw [← hri.len, hto, recd_len]
          subst hnd
          obtain ⟨bt, ot, y, rfl, hbtB, t0, HY, hym⟩ := hri.val (i := 0) (by omega)
          have hy : y = if tl j = 0 then 0 else ((10 * tl j + 0 : Nat) : Int) := by
            have := HY.out
            rw [hto, recd_at (by omega)] at this
            exact (Option.some.inj this).symm
          have hyq : y = 10 * (tl j : Int) := by rw [hy]; split <;> omega
          have hyt : (10 * (tl j : Int)).tdiv 10 = tl j := Int.mul_tdiv_cancel_left _ (by omega)
          subst hyq
          rw [Nat.add_zero] at t0
          have HTO := Lib.hid hto
          clear hth hen hto hy HY hym
          go_wp2_with (at_builtin; go_must (refine app_lit eltIntS wr rfl _ _ rfl w4.heap.size _ j _ rfl (by exact hown) 1 [.int .i64 0] wr.heap.size rfl rfl rfl (one_ints _ [0]) (by omega) (by omega) hsz ?_); intro v5 w5 own5 g5 hbel5f _; have q2 := ((hbel5f _ hbel).cell (p := ⟨b, o + j * 5 + 2, none⟩) hbB).trans d2; have q1 := ((hbel5f _ hbel).cell (p := ⟨b, o + j * 5 + 1, none⟩) hbB).trans d1; have q4 := ((hbel5f _ hbel).cell (p := ⟨b, o + j * 5 + 4, none⟩) hbB).trans d4; have p0 := ((hbel5f _ hbel).cell (p := ⟨bt, ot, none⟩) hbtB).trans t0; obtain ⟨g5b, c5, rfl, hg5, hc5, hl5⟩ := own_pos own5 (by omega); have cj := own5.cellAt j (by omega); have fj := own5.frozenAt j; rw [List.getElem?_append_right (by simp), show j - (((List.range j).map fun i => (tl i : Int)).map (Value.int .i64)).length = 0 by simp] at cj)
          have hbel5 := hbel5f _ hbel
          have hsz5 := hbel5.size
          have hown6 := (own5.stored j (.int .i64 (tl j))).1
          have hx6 : ((((List.range j).map fun i => (tl i : Int)).map (Value.int .i64)) ++ [Value.int .i64 0]).set j (.int .i64 (tl j)) = ((List.range (j + 1)).map fun i => (tl i : Int)).map (Value.int .i64) := by
            rw [List.set_append_right _ _ (by simp), List.range_succ]
            simp
          rw [hx6] at hown6
          have hbel6 := below_at hbel5 hg5 j (.int .i64 (tl j))
          obtain ⟨wS, hwS⟩ : ∃ wS, wS = w5.setCell ⟨g5b, j, none⟩ (.int .i64 (tl j)) := ⟨_, rfl⟩
          rw [← hwS] at hown6 hbel6 ⊢
          have cj6 : wS.cell? ⟨g5b, j, none⟩ = some (.int .i64 (tl j)) := by
            have := hown6.cellAt j (by omega)
            rw [this]
            simp
          have l6 : g5b < wS.heap.size := by rw [hwS]; simpa using hl5
          have q4' := (hbel6.cell (p := ⟨b, o + j * 5 + 4, none⟩) hbB).trans d4
          have HOW6 := Lib.hid hown6
          have HB6 := Lib.hid hbel6
          clear own5 g5 hbel5f q1 q2 q4 p0 cj fj hx6 hown hown6 hwS hbel hbel5 t0
          go_wp2
          go_loopw [13] (fun i wr => ∃ k : Nat, k ≤ n' ∧ i = .int .i64 k ∧ wr = wS) (fun i _ => n' - (intOf i).toNat)
          case atStart => exact ⟨0, Nat.zero_le _, rfl, rfl⟩
          case round =>
            obtain ⟨k, hk, rfl, rfl⟩ := hrel
            by_cases hkn : k < n'
            · obtain ⟨bt', ot', y, hA, hbt', ty, HY, hym⟩ := hri.val hkn
              simp only [Option.some.injEq, Addr.mk.injEq, and_true] at hA
              obtain ⟨rfl, rfl⟩ := hA
              have p1 := (HB6.out.cell (p := ⟨bt, ot + k, none⟩) hbtB).trans ty
              have hy := HY.out
              rw [HTO.out, recd_at hkn] at hy
              have hy := Option.some.inj hy
              clear hym HY ty
              by_cases hz : tl j = 0
              · rw [if_pos hz] at hy
                subst hy
                have e3 : ((tl j : Int) == 0) = true := by simp [hz]
                clear hz
                go_wp2
                go_roundw
                case rel => exact ⟨k + 1, by omega, by go_num, trivial⟩
                case measure => simp [intOf]; omega
              · rw [if_neg hz] at hy
                have hy2 : y = 10 * (tl j : Int) + k := by omega
                subst hy2
                have e3 : ((tl j : Int) == 0) = false := by simp; omega
                clear hz hy
                go_wp2
                go_roundw
                case rel => exact ⟨k + 1, by omega, by go_num, trivial⟩
                case measure => simp [intOf]; omega
            · obtain rfl : n' = k := by omega
              go_wp2
              go_roundw
              case rel => exact ⟨j + 1, by omega, by go_num, HOW6.out, HB6.out⟩
              case measure => simp [intOf]; omega
    · obtain rfl : n4 = j := by omega
      obtain ⟨AT, cT, rfl, hcT⟩ := own_form hown
      have HTR : Hid (RI wr wr.heap.size .i64 AT n4 ((List.range n4).map fun i => (tl i : Int))) := Rd.of_own hown
      clear hown
      obtain ⟨wZ, rfl⟩ : ∃ wZ, wZ = wr := ⟨wr, rfl⟩
      have HDZ : Hid (RDg wZ wZ.heap.size A4 n4 L) := (hD.below hbel).more hsz
      go_wp2
      go_loopw [15] (fun i wr => ∃ i' : Nat, i' ≤ n4 ∧ i = .int .i64 i' ∧ Below wZ.heap.size wZ wr) (fun i _ => n4 - (intOf i).toNat)
      case atStart => exact ⟨0, Nat.zero_le _, rfl, Below.refl _ _⟩
      case round =>
        obtain ⟨i, hi, rfl, hbz⟩ := hrel
        have hszz := hbz.size
        by_cases hin : i < n4
        · obtain ⟨b, o, x, A', n', k', rfl, hbB, d0, d1, d2, d3, d4, hlk, hn', hri, HXL, HX⟩ := HDZ.out.val hin
          have HXD : Hid (D[i]? = some x) := by have := HX.out; rwa [HL.out] at this
          obtain ⟨bt, ot, y, rfl, hbtB, t0, HY, hym⟩ := HTR.out.val hin
          have hy : y = tl i := by
            have := HY.out
            simp [hin] at this
            exact this.symm
          subst hy
          have q1 := (hbz.cell (p := ⟨b, o + i * 5 + 1, none⟩) hbB).trans d1
          have q2 := (hbz.cell (p := ⟨b, o + i * 5 + 2, none⟩) hbB).trans d2
          have p0 := (hbz.cell (p := ⟨bt, ot + i, none⟩) hbtB).trans t0
          clear HX HXL hym HY
          by_cases hth : x.th = 0
          · have e1 : ((x.th : Int) == 0) = true := by simp [hth]
            clear hth
            go_wp2
            go_roundw
            case rel => exact ⟨i + 1, by omega, by go_num, hbz⟩
            case measure => simp [intOf]; omega
          · have HTH := Lib.hid hth
            have e1 : ((x.th : Int) == 0) = false := by simp; omega
            by_cases hen : x.e = -1
            · have e2 : (x.e == -1) = true := by simp [hen]
              clear hth hen
              go_wp2
              go_roundw
              case rel => exact ⟨i + 1, by omega, by go_num, hbz⟩
              case measure => simp [intOf]; omega
            · have HEN := Lib.hid hen
              have e2 : (x.e == -1) = false := by simp [hen]
              obtain ⟨pz, hpz⟩ : ∃ pz : Bool, pz = ((tl i : Int) == 0) := ⟨_, rfl⟩
              have HPZ := Lib.hid hpz
              have hpz2 : ((tl i : Int) == 0) = pz := hpz.symm
              obtain ⟨wY, rfl⟩ : ∃ wY, wY = wr := ⟨wr, rfl⟩
              clear hth hen hpz
              go_wp2
              go_loopw [16, 17] (fun v i' wr => ∃ (k : Nat) (pb : Bool), k ≤ n4 ∧ i' = .int .i64 k ∧ v = .bool pb ∧ Hid ((tl i = 0 → pb = true) ∧ ((∃ (kk : Nat) (z : Dg), kk < k ∧ D[kk]? = some z ∧ z.th = 0 ∧ z.cl + 1 = tl i) → pb = true)) ∧ Below wZ.heap.size wZ wr) (fun _ i' _ => n4 - (intOf i').toNat)
              case atStart =>
                refine ⟨0, pz, Nat.zero_le _, rfl, rfl, ⟨fun h => ?_, fun ⟨kk, z, h, _⟩ => by omega⟩, hbz⟩
                rw [HPZ.out, h]
                rfl
              case round =>
                obtain ⟨k, pb, hk, rfl, rfl, HP, hbz2⟩ := hrel
                by_cases hkn : k < n4
                · obtain ⟨b', o', y, A6, n6, k6, hA, _, c0, c1, c2, c3, c4', hlk6, hn6, hri6, _, HYX⟩ := HDZ.out.val hkn
                  simp only [Option.some.injEq, Addr.mk.injEq, and_true] at hA
                  obtain ⟨rfl, rfl⟩ := hA
                  have HYD : Hid (D[k]? = some y) := by have := HYX.out; rwa [HL.out] at this
                  obtain ⟨bt', ot', yt, hA, _, tk, HYT, _⟩ := HTR.out.val hkn
                  simp only [Option.some.injEq, Addr.mk.injEq, and_true] at hA
                  obtain ⟨rfl, rfl⟩ := hA
                  have hyt : yt = tl k := by
                    have := HYT.out
                    simp [hkn] at this
                    exact this.symm
                  subst hyt
                  have z0 := (hbz2.cell (p := ⟨b, o + k * 5, none⟩) hbB).trans c0
                  have z1 := (hbz2.cell (p := ⟨b, o + k * 5 + 1, none⟩) hbB).trans c1
                  have z2 := (hbz2.cell (p := ⟨b, o + k * 5 + 2, none⟩) hbB).trans c2
                  have z3 := (hbz2.cell (p := ⟨b, o + k * 5 + 3, none⟩) hbB).trans c3
                  have z4 := (hbz2.cell (p := ⟨b, o + k * 5 + 4, none⟩) hbB).trans c4'
                  have y0 := (hbz2.cell (p := ⟨b, o + i * 5, none⟩) hbB).trans d0
                  have y1 := (hbz2.cell (p := ⟨b, o + i * 5 + 1, none⟩) hbB).trans d1
                  have y2 := (hbz2.cell (p := ⟨b, o + i * 5 + 2, none⟩) hbB).trans d2
                  have y3 := (hbz2.cell (p := ⟨b, o + i * 5 + 3, none⟩) hbB).trans d3
                  have y4 := (hbz2.cell (p := ⟨b, o + i * 5 + 4, none⟩) hbB).trans d4
                  have p1 := (hbz2.cell (p := ⟨bt, ot + i, none⟩) hbtB).trans t0
                  have p2 := (hbz2.cell (p := ⟨bt, ot + k, none⟩) hbtB).trans tk
                  have lb : b < wr.heap.size := Nat.lt_of_lt_of_le hbB hbz2.size
                  have lbt : bt < wr.heap.size := Nat.lt_of_lt_of_le hbtB hbz2.size
                  have htl12 := HTL.out.le i x HXD.out
                  have htk12 := HTL.out.le k y HYD.out
                  clear HYX HYT q1 q2 p0
                  by_cases hty : y.th = 0
                  · have HTY := Lib.hid hty
                    have e3 : ((y.th : Int) == 0) = true := by simp [hty]
                    by_cases hcl : y.cl + 1 = tl i
                    · have HCL := Lib.hid hcl
                      have e4 : ((y.cl : Int) == (tl i : Int) - 1) = true := by simp; omega
                      have hle := HTL.out.early i x HXD.out HTH.out HEN.out k y HYD.out hty hcl
                      clear hty hcl
                      go_wp2
                      refine region_two [0, 1, 2, 3, 4, 5, 6, 7, 8, 9, 10, 11, 12, 13, 14, 15, 16, 17, 18, 19] [] (by kernel_rfl) (by kernel_rfl) ?_
                      simp only [pick, List.map_cons, List.map_nil, List.getD_cons_zero, List.getD_cons_succ]
                      go_wp2
                      refine region_two [0, 1, 2, 3, 4, 5, 6, 7, 8, 9, 10, 11] [] (by kernel_rfl) (by kernel_rfl) ?_
                      simp only [pick, List.map_cons, List.map_nil, List.getD_cons_zero, List.getD_cons_succ]
                      go_wp2
                      go_roundw
                      case rel =>
                        refine ⟨k + 1, true, by omega, by go_num, rfl, ⟨fun _ => rfl, ?_⟩, hbz2.drew.drew⟩
                        rintro ⟨kk, z, hkk, h1, h2, h3⟩
                        rfl
                      case measure => simp [intOf]; omega
                    · have HCL := Lib.hid hcl
                      have e4 : ((y.cl : Int) == (tl i : Int) - 1) = false := by simp; omega
                      clear hty hcl
                      have HN : Hid ((tl i = 0 → pb = true) ∧ ((∃ (kk : Nat) (z : Dg), kk < k + 1 ∧ D[kk]? = some z ∧ z.th = 0 ∧ z.cl + 1 = tl i) → pb = true)) := by
                        refine ⟨HP.out.1, ?_⟩
                        rintro ⟨kk, z, hkk, h1, h2, h3⟩
                        by_cases hkq : kk = k
                        · subst hkq
                          rw [HYD.out] at h1
                          injection h1 with h1
                          subst h1
                          exact absurd h3 HCL.out
                        · exact HP.out.2 ⟨kk, z, by omega, h1, h2, h3⟩
                      obtain ⟨r, hr⟩ := bool_is (y.e ≠ -1 ∧ y.e < x.b)
                      have HRR := Lib.hid hr
                      clear hr
                      go_wp2
                      refine region_two [0, 1, 2, 3, 4, 5, 6, 7, 8, 9, 10, 11, 12, 13, 14, 15, 16, 17, 18, 19] [] (by kernel_rfl) (by kernel_rfl) ?_
                      simp only [pick, List.map_cons, List.map_nil, List.getD_cons_zero, List.getD_cons_succ]
                      go_wp2
                      refine region_first [0, 1, 2, 3, 4, 5, 6, 7] (.cons 8 (seq [9, 10, 11, 12, 13, 14, 15, 16, 17, 18, 19, 20, 21] .nil)) (by kernel_rfl) (by kernel_rfl) ?_
                      simp only [pick, List.map_cons, List.map_nil, List.getD_cons_zero, List.getD_cons_succ]
                      go_wp2
                      refine ord_call (by kernel_rfl) ?_
                      simp only [pick, List.map_cons, List.map_nil, List.getD_cons_zero, List.getD_cons_succ]
                      go_wp2_with fail
                      refine (keep_ahead _ y x (.slice A6 n6 k6) (.slice A' n' k') r HRR.out).mono ?_
                      rintro e w7 ⟨rfl, hb7⟩
                      have hx7 := ext_below hb7
                      have hb8 := hbz2.drew.drew.trans (hb7.mono hbz2.size)
                      have s3 : w7.cell? ⟨b, o + k * 5 + 3, none⟩ = _ := (hb8.cell (p := ⟨b, o + k * 5 + 3, none⟩) hbB).trans c3
                      have sp : w7.cell? ⟨bt, ot + i, none⟩ = _ := (hb8.cell (p := ⟨bt, ot + i, none⟩) hbtB).trans t0
                      cases r with
                      | true =>
                        have HLE : Hid ((y.cl : Int) + 1 ≤ tl i) := by
                          show (y.cl : Int) + 1 ≤ tl i
                          obtain ⟨h1, h2⟩ := HRR.out.1 rfl
                          have := HTL.out.puts i x HXD.out HTH.out HEN.out k y HYD.out HTY.out h1 h2; omega
                        have e7 : (decide ((tl i : Int) - 1 < (y.cl : Int))) = false := by simp; have := HLE.out; omega
                        go_wp2
                        refine ord_more [9, 10, 11, 12, 13, 14, 15, 16, 17, 18, 19, 20, 21] .nil (by kernel_rfl) ?_
                        simp only [pick, List.map_cons, List.map_nil, List.getD_cons_zero, List.getD_cons_succ]
                        go_wp2
                        refine ord_done ?_
                        go_wp2
                        first
                          | exact ⟨⟨k + 1, pb, by omega, by go_num, rfl, HN.out, hb8⟩, by simp [intOf]; omega⟩
                          | (go_roundw
                             case rel => exact ⟨k + 1, pb, by omega, by go_num, rfl, HN.out, hb8⟩
                             case measure => simp [intOf]; omega)
                      | false =>
                        go_wp2
                        refine ord_more [9, 10, 11, 12, 13, 14, 15, 16, 17, 18, 19, 20, 21] .nil (by kernel_rfl) ?_
                        simp only [pick, List.map_cons, List.map_nil, List.getD_cons_zero, List.getD_cons_succ]
                        go_wp2
                        refine ord_done ?_
                        go_wp2
                        first
                          | exact ⟨⟨k + 1, pb, by omega, by go_num, rfl, HN.out, hb8⟩, by simp [intOf]; omega⟩
                          | (go_roundw
                             case rel => exact ⟨k + 1, pb, by omega, by go_num, rfl, HN.out, hb8⟩
                             case measure => simp [intOf]; omega)
                  · have HTY := Lib.hid hty
                    have e3 : ((y.th : Int) == 0) = false := by simp; omega
                    clear hty
                    have HN : Hid ((tl i = 0 → pb = true) ∧ ((∃ (kk : Nat) (z : Dg), kk < k + 1 ∧ D[kk]? = some z ∧ z.th = 0 ∧ z.cl + 1 = tl i) → pb = true)) := by
                      refine ⟨HP.out.1, ?_⟩
                      rintro ⟨kk, z, hkk, h1, h2, h3⟩
                      by_cases hkq : kk = k
                      · subst hkq
                        rw [HYD.out] at h1
                        injection h1 with h1
                        subst h1
                        exact absurd h2 HTY.out
                      · exact HP.out.2 ⟨kk, z, by omega, h1, h2, h3⟩
                    obtain ⟨r, hr⟩ := bool_is (y.e ≠ -1 ∧ y.e < x.b)
                    have HRR := Lib.hid hr
                    clear hr
                    go_wp2
                    refine region_two [0, 1, 2, 3, 4, 5, 6, 7, 8, 9, 10, 11, 12, 13, 14, 15, 16, 17, 18, 19] [] (by kernel_rfl) (by kernel_rfl) ?_
                    simp only [pick, List.map_cons, List.map_nil, List.getD_cons_zero, List.getD_cons_succ]
                    go_wp2
                    refine region_first [0, 1, 2, 3, 4, 5, 6, 7] (.cons 8 (seq [9, 10, 11, 12, 13, 14, 15, 16, 17, 18, 19, 20] .nil)) (by kernel_rfl) (by kernel_rfl) ?_
                    simp only [pick, List.map_cons, List.map_nil, List.getD_cons_zero, List.getD_cons_succ]
                    go_wp2
                    refine ord_call (by kernel_rfl) ?_
                    simp only [pick, List.map_cons, List.map_nil, List.getD_cons_zero, List.getD_cons_succ]
                    go_wp2_with fail
                    refine (keep_ahead _ y x (.slice A6 n6 k6) (.slice A' n' k') r HRR.out).mono ?_
                    rintro e w7 ⟨rfl, hb7⟩
                    have hx7 := ext_below hb7
                    have hb8 := hbz2.drew.drew.trans (hb7.mono hbz2.size)
                    have sk : w7.cell? ⟨bt, ot + k, none⟩ = _ := (hb8.cell (p := ⟨bt, ot + k, none⟩) hbtB).trans tk
                    have sp : w7.cell? ⟨bt, ot + i, none⟩ = _ := (hb8.cell (p := ⟨bt, ot + i, none⟩) hbtB).trans t0
                    cases r with
                    | true =>
                      have HLE : Hid (tl k ≤ tl i) := by
                        show tl k ≤ tl i
                        obtain ⟨h1, h2⟩ := HRR.out.1 rfl
                        exact HTL.out.gets i x HXD.out HTH.out HEN.out k y HYD.out HTY.out h1 h2
                      have hle7 : tl k ≤ tl i := HLE.out
                      go_wp2
                      refine ord_more [9, 10, 11, 12, 13, 14, 15, 16, 17, 18, 19, 20] .nil (by kernel_rfl) ?_
                      simp only [pick, List.map_cons, List.map_nil, List.getD_cons_zero, List.getD_cons_succ]
                      go_wp2
                      refine ord_done ?_
                      go_wp2
                      first
                        | exact ⟨⟨k + 1, pb, by omega, by go_num, rfl, HN.out, hb8⟩, by simp [intOf]; omega⟩
                        | (go_roundw
                           case rel => exact ⟨k + 1, pb, by omega, by go_num, rfl, HN.out, hb8⟩
                           case measure => simp [intOf]; omega)
                    | false =>
                      go_wp2
                      refine ord_more [9, 10, 11, 12, 13, 14, 15, 16, 17, 18, 19, 20] .nil (by kernel_rfl) ?_
                      simp only [pick, List.map_cons, List.map_nil, List.getD_cons_zero, List.getD_cons_succ]
                      go_wp2
                      refine ord_done ?_
                      go_wp2
                      first
                        | exact ⟨⟨k + 1, pb, by omega, by go_num, rfl, HN.out, hb8⟩, by simp [intOf]; omega⟩
                        | (go_roundw
                           case rel => exact ⟨k + 1, pb, by omega, by go_num, rfl, HN.out, hb8⟩
                           case measure => simp [intOf]; omega)
                · obtain rfl : n4 = k := by omega
                  have hpb : pb = true := by
                    by_cases hz : tl i = 0
                    · exact HP.out.1 hz
                    · obtain ⟨kk, z, h1, h2, h3⟩ := HTL.out.has i x HXD.out HTH.out HEN.out hz
                      exact HP.out.2 ⟨kk, z, by rw [← LD.out]; exact (List.getElem?_eq_some_iff.1 h1).1, h1, h2, h3⟩
                  subst hpb
                  go_wp2
                  go_roundw
                  case rel => exact ⟨i + 1, by omega, by go_num, hbz2⟩
                  case measure => simp [intOf]; omega
        · go_wp2
          go_ret
          exact ⟨rfl, hb6.trans ((hbel.trans (hbz.mono hsz)).mono hb6.size)⟩
end Go.Proofs.YtjihopbapnfppabDoor
