/- Of this claim's own texts these, one behind the other: TopKept, KeepSched, KeepPicked, TopGuardLockP. No statement of the seat is proved here; no condition but those that stand at the theorems. -/
import Derived.Test.YtfpokjhalbbeeaaDoorPartAL
import Derived.Test.YtfpokjhalbbeeaaDoorPartAN
import Derived.Test.YtfpokjhalbbeeaaDoorPartAI
import Derived.Test.YtfpokjhalbbeeaaDoorRows
import Derived.Test.YtfpokjhalbbeeaaDoorPartAC
import Derived.Test.YtfpokjhalbbeeaaDoorPartAO
set_option linter.unusedSimpArgs false
set_option linter.unusedVariables false
namespace Go.Proofs.YtfpokjhalbbeeaaDoor
open Go.RowKit Go.Ord Go.Baro Go.Baro.Grd

def mO : Mc := ⟨[], [[]], [[⟨0, []⟩]]⟩
theorem one_play : PlR mO [0] [⟨0, 0, 0, false, 0, []⟩, ⟨0, 0, 0, true, 0, []⟩] [] 0 := by
  refine .inr (.inr (.inr ⟨⟨by decide, by decide, by decide, ?_, ?_⟩, by decide, by simp [mO], ?_, ?_, rfl⟩))
  · intro c hc
    simp only [mO, List.mem_singleton] at hc
    subst hc
    decide
  · intro t ht
    simp only [mO, List.mem_singleton] at ht
    subst ht
    refine ⟨by decide, fun c hc => ?_⟩
    simp only [List.mem_singleton] at hc
    subst hc
    exact ⟨by simp [mO], by decide⟩
  · kernel_rfl
  · kernel_rfl
theorem one_atK {α : Type} {a b : α} {i : Nat} (h : [a][i]? = some b) : i = 0 ∧ b = a := by
  cases i with
  | zero => exact ⟨rfl, by simpa using h.symm⟩
  | succ i => simp at h
/-- The machine of one call without instructions, and its schedule. -/
theorem one_mem (w wF : World) (hF : wF = ((((w.alloc (Obj.cells #[.slice none 0 0] 26)).alloc (Obj.cells #[.int .i64 0, .slice none 0 0] 67)).alloc (Obj.cells #[.slice (some ⟨w.heap.size + 1, 0, none⟩) 1 1] 65)).alloc (Obj.cells #[.int .i64 0] 3))) :
    InM wF none 0 0 (some ⟨w.heap.size, 0, none⟩) 1 1 (some ⟨w.heap.size + 1 + 1, 0, none⟩) 1 1 mO ∧ RI wF wF.heap.size .i64 (some ⟨w.heap.size + 1 + 1 + 1, 0, none⟩) 1 [0] ∧ Below w.heap.size w wF := by
  have b2 : Box wF w.heap.size 26 [.slice none 0 0] := by rw [hF]; exact (((Box.newAt w _ _ _ rfl).alloc _).alloc _).alloc _
  have b4 : Box wF (w.heap.size + 1) 67 [.int .i64 0, .slice none 0 0] := by rw [hF]; exact ((Box.newAt (w.alloc _) _ _ _ (by simp)).alloc _).alloc _
  have b5 : Box wF (w.heap.size + 1 + 1) 65 [.slice (some ⟨w.heap.size + 1, 0, none⟩) 1 1] := by rw [hF]; exact (Box.newAt ((w.alloc _).alloc _) _ _ _ (by simp)).alloc _
  have b6 : Box wF (w.heap.size + 1 + 1 + 1) 3 [.int .i64 0] := by rw [hF]; exact Box.newAt (((w.alloc _).alloc _).alloc _) _ _ _ (by simp)
  refine ⟨⟨⟨rfl, fun h => absurd h (by omega)⟩, ?_, ?_, ?_, ?_, ?_, by omega, by omega, by omega⟩, Rd.box b6 rfl, ?_⟩
  · refine rg_box (rows := [[.slice none 0 0]]) b2 rfl rfl (by simp) fun i r x hr hx => ?_
    obtain ⟨_, rfl⟩ := one_atK hr
    obtain ⟨_, rfl⟩ := one_atK hx
    exact ⟨none, 0, 0, rfl, Nat.le_refl _, ⟨rfl, fun h => absurd h (by omega)⟩⟩
  · refine rg_box (rows := [[.slice (some ⟨w.heap.size + 1, 0, none⟩) 1 1]]) b5 rfl rfl (by simp) fun i r x hr hx => ?_
    obtain ⟨_, rfl⟩ := one_atK hr
    obtain ⟨_, rfl⟩ := one_atK hx
    refine ⟨_, _, _, rfl, Nat.le_refl _, rg_box (rows := [[.int .i64 0, .slice none 0 0]]) b4 rfl rfl (by simp) fun i r x hr hx => ?_⟩
    obtain ⟨_, rfl⟩ := one_atK hr
    obtain ⟨_, rfl⟩ := one_atK hx
    exact ⟨none, 0, 0, rfl, Nat.le_refl _, ⟨rfl, fun h => absurd h (by omega)⟩⟩
  · intro x hx; simp [mO] at hx
  · intro c hc
    simp only [mO, List.mem_singleton] at hc
    subst hc
    exact ⟨by decide, fun o ho => by cases ho⟩
  · intro t ht
    simp only [mO, List.mem_singleton] at ht
    subst ht
    refine ⟨by decide, fun c hc => ?_⟩
    simp only [List.mem_singleton] at hc
    subst hc
    exact ⟨by unfold inW; dsimp only; omega, by decide, fun x hx => by cases hx⟩
  · rw [hF]
    exact ((((Below.refl w.heap.size w).alloc (by simp) _).alloc (by simp) _).alloc (by simp; omega) _).alloc (by simp; omega) _
theorem eltIntK : Elt Tryd.prog 22 3 (.int .i64 0) 1 8 := Elt.mk' Tryd.underlying22 (by kernel_rfl) rfl (by decide)
theorem endM_snoc (l : List Ev) (x : Ev) : endM (l ++ [x]) = endM l + (if isEnd x then 1 else 0) := by simp [endM, List.countP_append, List.countP_singleton]
theorem begM_snoc (l : List Ev) (x : Ev) : begM (l ++ [x]) = begM l + (if isBeg x then 1 else 0) := by simp [begM, List.countP_append, List.countP_singleton]

set_option maxRecDepth 100000 in
set_option maxHeartbeats 1000000 in
theorem top_kept (hP : PlaySpec) (w : World) (hT : Tab w) (Aw : Option Addr) (nw cw : Nat) (Ac : Option Addr) (nc cc : Nat) (At : Option Addr) (nt ct : Nat) (m : Mc) (As : Option Addr) (ns cs : Nat) (s : List Int) (T : List Ev) (W : List Int) (hm : InM w Aw nw cw Ac nc cc At nt ct m)
    (hs : RI w w.heap.size .i64 As ns s) (hn : ns ≤ 6000) (hR : PlR m s T W 0) (hl : W.length = nw) (hp : 0 < nw) (hx : W[nw - 1]?.getD 0 = (endM T : Int)) (hb : begM T ≤ endM T + 1) :
    Calls Tryd.prog 18 #[.agg #[.slice Aw nw cw, .slice Ac nc cc, .slice At nt ct], .slice As ns cs] w fun e w' => e = .returned (.bool true) ∧ Below w.heap.size w w' := by
  have HP := Lib.hid hP
  have HT := Lib.hid hT
  have HR := Lib.hid hR
  have HL := Lib.hid hl
  have HX := Lib.hid hx
  have HBG := Lib.hid hb
  have hA := (Below.refl w.heap.size w).alloc (Nat.le_refl _) (Obj.cells #[.slice Aw nw cw, .slice Ac nc cc, .slice At nt ct] 36)
  have HM := Lib.hid (hm.below hA)
  have hs2 := (hs.below hA).more hA.size
  have bX := Box.newAt w 36 [.slice Aw nw cw, .slice Ac nc cc, .slice At nt ct] w.heap.size rfl
  clear hP hT hR hm hs hl hx hb
  go_enter Tryd.func18, Tryd.ntmps18
  have x0 := bX.cell 0
  have x1 := bX.cell 1
  have x2 := bX.cell 2
  simp only [List.getElem?_cons_zero, List.getElem?_cons_succ] at x0 x1 x2
  obtain ⟨wA, hwA⟩ : ∃ wA, wA = w.alloc (Obj.cells #[.slice Aw nw cw, .slice Ac nc cc, .slice At nt ct] 36) := ⟨_, rfl⟩
  rw [← hwA] at hA hs2 x0 x1 x2 bX
  have HWA := Lib.hid hwA
  have lX := bX.lt
  have HBX := Lib.hid bX
  go_wp2
  rw [← HWA.out]
  clear bX hwA
  refine region_first [0, 1] (.cons 2 (seq [3, 4, 5, 6, 7, 8, 9, 10] .nil)) (by kernel_rfl) (by kernel_rfl) ?_
  simp only [pick, List.map_cons, List.map_nil, List.getD_cons_zero, List.getD_cons_succ]
  go_wp2
  refine ord_call (by kernel_rfl) ?_
  simp only [pick, List.map_cons, List.map_nil, List.getD_cons_zero, List.getD_cons_succ]
  go_wp2_with (at_builtin; go_must (refine app_src eltIntK wA.drew rfl _ _ rfl wA.heap.size _ 0 [] rfl (World.ownsRow_nil _ _ _ _) As ns _ (s.map (Value.int .i64)) rfl wA.heap.size (by exact Rd.heap hs2 rfl) (one_ints _ _) (by omega) (by omega) (Nat.le_refl _) ?_); intro v3 w3 hv3 hg3 hbel3 hsz3)
  have hb3 : Below wA.heap.size wA w3 := hbel3 wA (Below.refl _ _).drew
  rw [List.nil_append, Nat.zero_add] at hv3
  obtain ⟨A4, c4, rfl, hlc4⟩ := own_form hv3
  refine ⟨fun k hk => hb3.block k hk, ?_⟩
  have hr4 : RI w3 w3.heap.size .i64 A4 ns s := Rd.of_own hv3
  have hbC := hA.trans (hb3.mono hA.size)
  have HM3 : Hid (InM w3 Aw nw cw Ac nc cc At nt ct m) := by
    have := HM.out
    rw [← HWA.out] at this
    exact this.below hb3
  have HBX3 := Lib.hid (HBX.out.below hb3 lX)
  clear hv3 hg3 hbel3 x0 x1 x2 hs2
  refine ord_last [3, 4, 5, 6, 7, 8, 9, 10] (by kernel_rfl) ?_
  simp only [pick, List.map_cons, List.map_nil, List.getD_cons_zero, List.getD_cons_succ]
  go_wp2_with fail
  refine (HP.out w3 (HT.out.below hbC HT.out.lt) Aw nw cw Ac nc cc At nt ct m A4 ns c4 s T W 0 HM3.out hr4 (by omega) HR.out).mono ?_
  rintro e w4 ⟨B1, m1, d1, B2, m2, d2, rfl, hr1, hr2, hl1, hl2, hm1, hm2, hb4⟩
  have hbD := hbC.trans (hb4.mono hbC.size)
  have hT4 := Lib.hid (HT.out.below hbD HT.out.lt)
  have LT := Lib.hid hr1.len
  obtain rfl : m2 = nw := by rw [← hr2.len]; exact HL.out
  have bX4 := HBX3.out.below hb4 HBX3.out.lt
  have z0 : w4.cell? ⟨w.heap.size, 0, none⟩ = _ := bX4.cell 0
  simp only [List.getElem?_cons_zero] at z0
  have lX4 := bX4.lt
  clear hr4 HM3 HM HR hb4 hbC hb3 hA HBX HBX3 bX4
  go_wp2
  go_loopw [8, 9, 10] (fun ee bb i wr => ∃ j : Nat, j ≤ m1 ∧ i = .int .i64 j ∧ ee = .int .i64 ((endM (T.take j) : Nat) : Int) ∧ bb = .int .i64 ((begM (T.take j) : Nat) : Int) ∧ Below w4.heap.size w4 wr) (fun _ _ i _ => m1 - (intOf i).toNat)
  case atStart => exact ⟨0, Nat.zero_le _, rfl, rfl, rfl, Below.refl _ _⟩
  case round =>
    obtain ⟨j, hj, rfl, rfl, rfl, hbel⟩ := hrel
    have hsz := hbel.size
    obtain ⟨ne, hne⟩ : ∃ ne, ne = endM (T.take j) := ⟨_, rfl⟩
    obtain ⟨nb, hnb⟩ : ∃ nb, nb = begM (T.take j) := ⟨_, rfl⟩
    have hne1 : ne ≤ j := by rw [hne]; exact Nat.le_trans (endM_le _) (by simp; omega)
    have hnb1 : nb ≤ j := by rw [hnb]; exact Nat.le_trans List.countP_le_length (by simp; omega)
    rw [← hne, ← hnb]
    have HNE := Lib.hid hne
    have HNB := Lib.hid hnb
    clear hne hnb
    by_cases hjm : j < m1
    · obtain ⟨b, o, A5, n5, k5, x, rfl, hbB, d0, d1', d2', d3, d4, d5, hlk, hn5, hri0, HX1, hmem⟩ := (hr1.below hbel).val hjm
      have HTK : Hid (T.take (j + 1) = T.take j ++ [x]) := at_take HX1.out
      have HE2 : Hid (endM (T.take (j + 1)) = ne + (if isEnd x then 1 else 0)) := by show _ = _; rw [HTK.out, endM_snoc, HNE.out]
      have HB2 : Hid (begM (T.take (j + 1)) = nb + (if isBeg x then 1 else 0)) := by show _ = _; rw [HTK.out, begM_snoc, HNB.out]
      clear hmem d0 d1' d4 d5 hri0 HTK HNE HNB
      by_cases hx3 : (x.cl : Int) % 3 = 1
      · have hx3n : x.cl % 3 = 1 := by omega
        have H3 := Lib.hid hx3n
        clear hx3n
        cases hen : x.en with
        | true =>
          rw [hen] at d3
          have hE3 : endM (T.take (j + 1)) = ne + 1 := by rw [HE2.out]; simp [isEnd, hen, H3.out]
          have hB3 : begM (T.take (j + 1)) = nb := by rw [HB2.out]; simp [isBeg, hen]
          have HE3 := Lib.hid hE3
          have HB3 := Lib.hid hB3
          clear hen hE3 hB3 HE2 HB2
          go_wp2
          go_roundw
          case rel => exact ⟨j + 1, by omega, by go_num, by rw [HE3.out]; go_num, by rw [HB3.out], hbel⟩
          case measure => simp [intOf]; omega
        | false =>
          rw [hen] at d3
          have hE3 : endM (T.take (j + 1)) = ne := by rw [HE2.out]; simp [isEnd, hen]
          have hB3 : begM (T.take (j + 1)) = nb + 1 := by rw [HB2.out]; simp [isBeg, hen, H3.out]
          have HE3 := Lib.hid hE3
          have HB3 := Lib.hid hB3
          clear hen hE3 hB3 HE2 HB2
          go_wp2
          go_roundw
          case rel => exact ⟨j + 1, by omega, by go_num, by rw [HE3.out], by rw [HB3.out]; go_num, hbel⟩
          case measure => simp [intOf]; omega
      · have hx3n : ¬ x.cl % 3 = 1 := by omega
        have hE3 : endM (T.take (j + 1)) = ne := by rw [HE2.out]; simp [isEnd, hx3n]
        have hB3 : begM (T.take (j + 1)) = nb := by rw [HB2.out]; simp [isBeg, hx3n]
        have HE3 := Lib.hid hE3
        have HB3 := Lib.hid hB3
        have e5 : ((x.cl : Int) % 3 == 1) = false := by simp; omega
        clear hE3 hB3 HE2 HB2 hx3n hx3 d3
        go_wp2
        go_roundw
        case rel => exact ⟨j + 1, by omega, by go_num, by rw [HE3.out], by rw [HB3.out], hbel⟩
        case measure => simp [intOf]; omega
    · obtain rfl : m1 = j := by omega
      have hTT : T.take m1 = T := List.take_of_length_le (by rw [LT.out]; omega)
      have hne2 : ne = endM T := by rw [HNE.out, hTT]
      have hnb2 : nb = begM T := by rw [HNB.out, hTT]
      have hbn : nb ≤ ne + 1 := by rw [hne2, hnb2]; exact HBG.out
      obtain ⟨k, rfl⟩ : ∃ k, m2 = k + 1 := ⟨m2 - 1, by omega⟩
      obtain ⟨b, o, x, rfl, hbB, hcell, HXk, hmem⟩ := (hr2.below hbel).val (i := k) (by omega)
      have hxk : x = (ne : Int) := by
        have := HX.out
        rw [Nat.add_sub_cancel, HXk.out] at this
        rw [hne2]; exact this
      subst hxk
      have hk1 : (((k + 1 : Nat) : Int) - 1) = (k : Int) := by omega
      have hM := one_mem wr _ rfl
      have HMO := Lib.hid hM
      have hbE := hbD.trans (hbel.mono hbD.size)
      have HbE := Lib.hid hbE
      clear hM hne2 hnb2 hmem hTT hr1 HNE HNB
      go_wp2_with fail
      refine (HP.out _ (HT.out.below (HbE.out.trans (HMO.out.2.2.mono HbE.out.size)) HT.out.lt) _ 0 0 _ 1 1 _ 1 1 mO _ 1 1 [0] _ [] 0 HMO.out.1 HMO.out.2.1 (by omega) one_play).mono ?_
      rintro e w6 ⟨C1, p1, q1, C2, p2, q2, rfl, hs1, hs2, hk3, hk4, hk5, hk6, hb6⟩
      have hbF := HbE.out.trans ((HMO.out.2.2.trans (hb6.mono HMO.out.2.2.size)).mono HbE.out.size)
      obtain rfl : p1 = 2 := hs1.len.symm
      have HBF := Lib.hid hbF
      clear HMO hbF hb6 hs1 hs2 hr2 hcell hbel hbD hbE HbE HX HBG HXk
      have e6 : decide ((nb : Int) - (ne : Int) ≤ 1) = true := by simp; omega
      go_wp2
      go_ret
      exact ⟨rfl, HBF.out⟩
end Go.Proofs.YtfpokjhalbbeeaaDoor

set_option linter.unusedSimpArgs false
set_option linter.unusedVariables false
namespace Go.Proofs.YtfpokjhalbbeeaaDoor
open Go.RowKit Go.Ord Go.Baro

/-- The schedule that is drawn. -/
def schG (k most : Nat) (l : List Int) : List Int := (l.take most).map (· % (k : Int))
theorem schG_len (k most : Nat) (l : List Int) : (schG k most l).length = min most l.length := by simp [schG]
theorem schG_in {k most : Nat} (hk : 0 < k) {l : List Int} {x : Int} (h : x ∈ schG k most l) : 0 ≤ x ∧ x < k := by
  obtain ⟨y, _, rfl⟩ := List.mem_map.1 h
  exact ⟨Int.emod_nonneg _ (by omega), Int.emod_lt_of_pos _ (by omega)⟩

set_option maxRecDepth 100000 in
set_option maxHeartbeats 2000000 in
theorem keep_ScheduleG (l : List Int) (A : Option Addr) (n c : Nat) (w : World) (k most : Nat) (hk : 0 < k) (hk2 : k ≤ 100) (hmost : most ≤ 6000) (hb : RI w w.heap.size .u8 A n l) (hn : n ≤ 140737488355328) (hr : ∀ x ∈ l, 0 ≤ x ∧ x < 256) :
    Calls Tryd.prog 15 #[.slice A n c, .int .i64 k, .int .i64 most] w fun e w' => ∃ v n', e = .returned v ∧ w'.ownsRow w.heap.size 3 1 v n' ((schG k most l).map (Value.int .i64)) ∧ n' ≤ most ∧ Below w.heap.size w w' := by
  have HL := Lib.hid hb.len
  have HR := Lib.hid hr
  have hk0 : ((k : Int) == 0) = false := by simp; omega
  have hkn : (k : Int) ≠ 0 := by omega
  clear hr
  go_enter Tryd.func15, Tryd.ntmps15
  go_wp2
  go_loopw [7, 8] (fun v i wr => ∃ j : Nat, j ≤ n ∧ j ≤ most ∧ i = .int .i64 j ∧ wr.ownsRow w.heap.size 3 1 v j (((l.take j).map (· % (k : Int))).map (Value.int .i64)) ∧ Below w.heap.size w wr) (fun _ i _ => most - (intOf i).toNat)
  case atStart => exact ⟨0, Nat.zero_le _, by omega, rfl, World.ownsRow_nil _ _ _ _, Below.refl _ _⟩
  case round =>
    obtain ⟨j, hj, hj4, rfl, hown, hbel⟩ := hrel
    have hsz := hbel.size
    have fin : j = n ∨ j = most → wr.ownsRow w.heap.size 3 1 u7 j ((schG k most l).map (Value.int .i64)) := by
      intro h
      have e : schG k most l = (l.take j).map (· % (k : Int)) := by
        unfold schG
        rcases h with h | h
        · rw [List.take_of_length_le (l := l) (i := j) (by rw [HL.out]; omega), List.take_of_length_le (l := l) (i := most) (by rw [HL.out]; omega)]
        · rw [h]
      rw [e]
      exact hown
    by_cases h1 : j < n
    · by_cases h2 : j < most
      · clear fin
        obtain ⟨b, o, x, rfl, hbB, hcell, HX, hmem⟩ := (hb.below hbel).val h1
        obtain ⟨hx0, hx1⟩ := HR.out x hmem
        have ht : x.tmod k = x % k := Int.tmod_eq_emod_of_nonneg hx0
        obtain ⟨y, hy⟩ : ∃ y, y = x % (k : Int) := ⟨_, rfl⟩
        have hy0 : 0 ≤ y := by rw [hy]; exact Int.emod_nonneg _ hkn
        have hy1 : y < k := by rw [hy]; exact Int.emod_lt_of_pos _ (by omega)
        rw [← hy] at ht
        have HY := Lib.hid hy
        clear hmem hy
        go_wp2_with (at_builtin; go_must (refine app_lit eltIntS wr rfl _ _ rfl w.heap.size _ j _ rfl (by exact hown) 1 [.int .i64 y] wr.heap.size rfl rfl rfl (one_ints _ [y]) (by omega) (by omega) hsz ?_); intro v3 w3 hown3 hgr3 hbel3 _)
        go_roundw
        case rel =>
          refine ⟨j + 1, by omega, by omega, by go_num, ?_, hbel3 _ hbel⟩
          rw [at_take HX.out, List.map_append, List.map_append, List.map_singleton, List.map_singleton, ← HY.out]
          exact hown3
        case measure => simp [intOf]; omega
      · have HF := Lib.hid (fin (.inr (by omega)))
        clear fin hown
        go_wp2
        go_ret
        exact ⟨_, j, rfl, HF.out, by omega, hbel⟩
    · obtain rfl : n = j := by omega
      have HF := Lib.hid (fin (.inl rfl))
      clear fin hown
      go_wp2
      go_ret
      exact ⟨_, n, rfl, HF.out, by omega, hbel⟩
end Go.Proofs.YtfpokjhalbbeeaaDoor

set_option linter.unusedSimpArgs false
set_option linter.unusedVariables false
namespace Go.Proofs.YtfpokjhalbbeeaaDoor
open Go.RowKit Go.Ord Go.Baro

theorem tmod_pick (a n : Int) (hn : 0 < n) : (if a.tmod n < 0 then a.tmod n + n else a.tmod n) = a % n := by
  have h1 := Int.tmod_eq_emod (a := a) (b := n)
  have h2 := Int.emod_nonneg a (show n ≠ 0 by omega)
  have h3 := Int.emod_lt_of_pos a hn
  rw [h1]
  split <;> split <;> omega

theorem keep_Picked (a n : Int) (w : World) (hn : 0 < n) (hn1 : n ≤ 4611686018427387904) :
    Calls Tryd.prog 12 #[.int .i64 a, .int .i64 n] w fun e w' => e = .returned (.int .i64 (a % n)) ∧ w = w' := by
  have HT := Lib.hid (tmod_pick a n hn)
  have hb1 : -n < a.tmod n := Int.lt_tmod_of_pos a hn
  have hb2 : a.tmod n < n := Int.tmod_lt_of_pos a hn
  have hne : (n == 0) = false := by simp; omega
  by_cases h : a.tmod n < 0
  · go_enter Tryd.func12, Tryd.ntmps12
    go_wp2
    go_ret
    refine ⟨ret_int ?_, rfl⟩
    have := HT.out
    rw [if_pos h] at this
    exact this
  · go_enter Tryd.func12, Tryd.ntmps12
    go_wp2
    go_ret
    refine ⟨ret_int ?_, rfl⟩
    have := HT.out
    rw [if_neg (by omega)] at this
    exact this
end Go.Proofs.YtfpokjhalbbeeaaDoor

set_option linter.unusedSimpArgs false
set_option linter.unusedVariables false
namespace Go.Proofs.YtfpokjhalbbeeaaDoor
open Go.RowKit Go.Ord Go.OrdG Go.Baro Go.Baro.Grd

/-- What is asked of the runs. -/
def GuardD (ws : List Int) (ci co : List Ins) (n : Nat) (nm : Bool) : Prop := ∀ S : List Nat, S.length ≤ 3000 → (∀ x ∈ S, x < n) →
  (plyG (mGuard ws ci co n nm) 0 S (g0 (mGuard ws ci co n nm))).w.length = ws.length + 1 ∧ rd (plyG (mGuard ws ci co n nm) 0 S (g0 (mGuard ws ci co n nm))).w ws.length = endM (plyG (mGuard ws ci co n nm) 0 S (g0 (mGuard ws ci co n nm))).out ∧
  begM (plyG (mGuard ws ci co n nm) 0 S (g0 (mGuard ws ci co n nm))).out ≤ endM (plyG (mGuard ws ci co n nm) 0 S (g0 (mGuard ws ci co n nm))).out + 1
theorem plR_fineG {m : Mc} (hm : okMc m) {S : List Int} (hl : S.length ≤ 6000) (hs : ∀ x ∈ S, 0 ≤ x ∧ x < m.ts.length) : PlR m S (plyG m 0 (S.map Int.toNat) (g0 m)).out (plyG m 0 (S.map Int.toNat) (g0 m)).w 0 :=
  .inr (.inr (.inr ⟨hm, hl, hs, rfl, rfl, rfl⟩))

set_option maxRecDepth 100000 in
set_option maxHeartbeats 1000000 in
theorem top_TopGuardLockP (ws : Nat → List Int) (ce cl : Nat → List Ins) (hws : WordsOk 4 ws) (hce : CodesOk 4 ce) (hcl : CodesOk 4 cl) (hgood : ∀ n, 1 ≤ n → n ≤ 4 → GuardD (ws n) (ce n) (cl n) n true) (hM : MaySpec) (hPl : PlaySpec) (hW : WSpec 8 4 ws) (hE : CSpec 9 4 ce) (hL : CSpec 10 4 cl)
    (w : World) (hT : Tab w) (x0 : Int) (r0 : -9223372036854775808 ≤ x0 ∧ x0 ≤ 9223372036854775807)
    (A1 : Option Addr) (n1 c1 : Nat) (x1 : List Int) (h1 : RI w w.heap.size .u8 A1 n1 x1) (b1 : n1 ≤ 140737488351232) (r1 : ∀ x ∈ x1, 0 ≤ x ∧ x < 256) (_ : n1 ≤ c1) :
    Calls Tryd.prog 7 #[.int .i64 x0, .slice A1 n1 c1] w fun e w' => e = .returned (.bool true) ∧ Below w.heap.size w w' := by
  obtain ⟨n, hn⟩ : ∃ n : Nat, (n : Int) = 1 + x0 % 4 := ⟨(1 + x0 % 4).toNat, by omega⟩
  have hn1 : 1 ≤ n := by omega
  have hn4 : n ≤ 4 := by omega
  have hdn : inW (n : Int) := by unfold inW; omega
  have HW := Lib.hid (fun w hT => hW w hT n hdn)
  have HE := Lib.hid (fun w hT => hE w hT n hdn)
  have HLv := Lib.hid (fun w hT => hL w hT n hdn)
  have hgu : GuOk (ws n) (ce n) (cl n) := ⟨(hws n hn1 hn4).1, (hws n hn1 hn4).2.1, (hws n hn1 hn4).2.2, (hce n hn1 hn4).1, (hce n hn1 hn4).2.1, (hce n hn1 hn4).2.2, (hcl n hn1 hn4).1, (hcl n hn1 hn4).2.1, (hcl n hn1 hn4).2.2⟩
  have HGU := Lib.hid hgu
  have HOK := Lib.hid (guard_ok (nm := true) hgu hn4)
  have HGood := Lib.hid (hgood n hn1 hn4)
  have HMS := Lib.hid hM
  have HPl := Lib.hid hPl
  have HT := Lib.hid hT
  have HR1 := Lib.hid r1
  have HX1 := Lib.hid h1
  clear hPl hT r1 hM hW hE hL hgood hws hce hcl hgu hdn h1
  go_enter Tryd.func7, Tryd.ntmps7
  go_wp2_with fail
  refine (keep_Picked x0 4 _ (by omega) (by omega)).mono ?_
  rintro e w' ⟨rfl, rfl⟩
  obtain ⟨y0, hy0⟩ : ∃ y0, y0 = x0 % 4 := ⟨_, rfl⟩
  rw [← hy0] at hn ⊢
  have hyd : y0 = (n : Int) - 1 := by omega
  clear hy0 hn
  subst hyd
  have hnn : (1 + ((n : Int) - 1)) = (n : Int) := by omega
  go_wp2_with fail
  refine (HW.out w HT.out).mono ?_
  rintro e w1 ⟨he1, _, hb1⟩
  obtain ⟨Aw, nw, cw, rfl, hlw, hcw, hq1⟩ := he1 (by omega)
  rw [Int.toNat_natCast] at hq1
  have HQ1 := Lib.hid hq1
  have HB1 := Lib.hid hb1
  clear he1 hb1 hq1
  go_wp2_with fail
  refine (HE.out w1 (HT.out.below HB1.out HT.out.lt)).mono ?_
  rintro e w2 ⟨he2, _, hb2⟩
  obtain ⟨Ap, np, cp, rfl, hlp, hcp, hq2⟩ := he2 (by omega)
  rw [Int.toNat_natCast] at hq2
  have HQ12 := Lib.hid (HQ1.out.kc (Kc.below (T := fun _ => False) hb2) id)
  have HQ2 := Lib.hid hq2
  have HB2 := Lib.hid (HB1.out.trans (hb2.mono HB1.out.size))
  clear he2 hb2 hq2 HQ1
  go_wp2_with fail
  refine (HLv.out w2 (HT.out.below HB2.out HT.out.lt)).mono ?_
  rintro e w3 ⟨he3, _, hb3⟩
  obtain ⟨Ag, ng, cg, rfl, hlg, hcg, hq3⟩ := he3 (by omega)
  rw [Int.toNat_natCast] at hq3
  have HQ13 := Lib.hid (HQ12.out.kc (Kc.below (T := fun _ => False) hb3) id)
  have HQ23 := Lib.hid (HQ2.out.kc (Kc.below (T := fun _ => False) hb3) id)
  have HQ3 := Lib.hid hq3
  have HB3 := Lib.hid (HB2.out.trans (hb3.mono HB2.out.size))
  clear he3 hb3 hq3 HQ12 HQ2 HB1 HB2
  go_wp2_with fail
  refine (top_guardedT HMS.out w3 (HT.out.below HB3.out HT.out.lt) n hn1 hn4 Aw Ap Ag nw cw np cp ng cg (ws n) (ce n) (cl n) HGU.out HQ13.out HQ23.out HQ3.out hlw hlp hlg).mono ?_
  rintro e w4 ⟨Aw4, nw4, cw4, Ac, nc, cc, At, nt, ct, rfl, hin, hb4⟩
  have hb4' := HB3.out.trans (hb4.mono HB3.out.size)
  have hA := (Below.refl w4.heap.size w4).alloc (Nat.le_refl _) (Obj.cells #[.slice Aw4 nw4 cw4, .slice Ac nc cc, .slice At nt ct] 36)
  have bX := Box.newAt w4 36 [.slice Aw4 nw4 cw4, .slice Ac nc cc, .slice At nt ct] w4.heap.size rfl
  have HIN5 := Lib.hid (hin.below hA)
  have hb5 := hb4'.trans (hA.mono hb4'.size)
  obtain ⟨w5, hw5⟩ : ∃ w5, w5 = w4.alloc (Obj.cells #[.slice Aw4 nw4 cw4, .slice Ac nc cc, .slice At nt ct] 36) := ⟨_, rfl⟩
  have HW5 := Lib.hid hw5
  rw [← hw5] at hA bX HIN5 hb5
  have z0 : w5.cell? ⟨w4.heap.size, 0, none⟩ = _ := bX.cell 0
  have z1 : w5.cell? ⟨w4.heap.size, 1, none⟩ = _ := bX.cell 1
  have z2 : w5.cell? ⟨w4.heap.size, 2, none⟩ = _ := bX.cell 2
  simp only [List.getElem?_cons_zero, List.getElem?_cons_succ] at z0 z1 z2
  have lX := bX.lt
  have HX5 := Lib.hid (HX1.out.below hb5)
  clear hw5 hin hb4 hb4' HQ13 HQ23 HQ3 HB3
  go_wp2
  rw [← HW5.out]
  refine region_first [0, 1, 2, 3, 4, 5, 6, 7, 8, 9, 10, 11, 12, 13, 14, 15, 16] (.cons 17 (seq [18, 19, 20] .nil)) (by kernel_rfl) (by kernel_rfl) ?_
  simp only [pick, List.map_cons, List.map_nil, List.getD_cons_zero, List.getD_cons_succ]
  go_wp2
  refine ord_call (by kernel_rfl) ?_
  simp only [pick, List.map_cons, List.map_nil, List.getD_cons_zero, List.getD_cons_succ]
  go_wp2_with fail
  refine (keep_ScheduleG x1 A1 n1 c1 w5.drew n 3000 (by omega) (by omega) (by omega) ((HX1.out.below hb5.drew).more hb5.drew.size) (by omega) HR1.out).mono ?_
  rintro e w8 ⟨v, n', rfl, hown, hn', hb8⟩
  obtain ⟨As, cs, rfl, hls⟩ := own_form hown
  have hx8 := ext_below hb8
  have hb8' : Below w5.heap.size w5 w8 := hb8.undrew
  have hbel8 := hb5.trans (hb8'.mono hb5.size)
  go_wp2
  have HIM8 := Lib.hid (HIN5.out.below hb8')
  have HRS := Lib.hid (show RI w8 w8.heap.size .i64 As n' (schG n 3000 x1) from Rd.of_own hown)
  have LS := Lib.hid HRS.out.len
  obtain ⟨S, hS⟩ : ∃ S, S = schG n 3000 x1 := ⟨_, rfl⟩
  have hSl : S.length ≤ 3000 := by rw [hS, LS.out]; exact hn'
  have hSi : ∀ x ∈ S, 0 ≤ x ∧ x < n := fun x hx => schG_in (k := n) (by omega) (hS ▸ hx)
  rw [← hS] at HRS
  have hR := plR_fineG HOK.out (S := S) (by omega) (fun x hx => by have := hSi x hx; simpa [mGuard] using this)
  obtain ⟨hwl, hwx, hbb⟩ := HGood.out (S.map Int.toNat) (by simpa using hSl) (fun x hx => by
    obtain ⟨y, hy, rfl⟩ := List.mem_map.1 hx
    have := hSi y hy
    omega)
  have hnw4 : nw4 = (ws n).length + 1 := by
    have : (mGuard (ws n) (ce n) (cl n) n true).ws.length = nw4 := HIM8.out.1.len
    rw [← this]; simp [mGuard]
  obtain ⟨T, hTT⟩ : ∃ T, T = (plyG (mGuard (ws n) (ce n) (cl n) n true) 0 (S.map Int.toNat) (g0 (mGuard (ws n) (ce n) (cl n) n true))).out := ⟨_, rfl⟩
  obtain ⟨W, hWW⟩ : ∃ W, W = (plyG (mGuard (ws n) (ce n) (cl n) n true) 0 (S.map Int.toNat) (g0 (mGuard (ws n) (ce n) (cl n) n true))).w := ⟨_, rfl⟩
  rw [← hTT, ← hWW] at hR
  rw [← hTT] at hwx hbb
  rw [← hWW] at hwl hwx
  have HR := Lib.hid hR
  have HWL := Lib.hid (show W.length = nw4 by rw [hwl, hnw4])
  have HWX := Lib.hid (show W[nw4 - 1]?.getD 0 = (endM T : Int) by rw [hnw4, Nat.add_sub_cancel]; exact hwx)
  have HBB := Lib.hid hbb
  have hnp : 0 < nw4 := by omega
  clear hwl hwx hbb hR hTT hWW hSl hSi hS hown hb8 hnw4 HGood HOK HGU z0 z1 z2 bX
  refine ord_last [18, 19, 20] (by kernel_rfl) ?_
  simp only [pick, List.map_cons, List.map_nil, List.getD_cons_zero, List.getD_cons_succ]
  go_wp2_with fail
  refine (top_kept HPl.out w8 (HT.out.below hbel8 HT.out.lt) Aw4 nw4 cw4 Ac nc cc At nt ct _ As n' cs S _ _ HIM8.out HRS.out (by omega) HR.out HWL.out hnp HWX.out HBB.out).mono ?_
  rintro e w9 ⟨rfl, hb9⟩
  have hbel9 := hbel8.trans (hb9.mono hbel8.size)
  go_wp2
  go_ret
  exact ⟨rfl, hbel9⟩
end Go.Proofs.YtfpokjhalbbeeaaDoor
