/- One instruction of the document's worker. No statement of the seat is proved here; no condition. -/
import Derived.Test.YtjihopbapnfppaaDoorRefOneP
set_option linter.unusedSimpArgs false
set_option linter.unusedVariables false
namespace Go.Proofs.YtjihopbapnfppaaDoor
open Go.RowKit Go.Ord Go.Baro Go.Maps

set_option maxRecDepth 100000 in
set_option maxHeartbeats 8000000 in
theorem ref_one1 (w : World) (B Bc b mb N n cc wn wc : Nat) (cA wA : Option Addr) (tv : Value) (l : List Ins) (p : Nat) (r : Int → Int) (ws t : List Int) (s' : Vs) (a' b' c' d' E : Int) (h : Wk w B b mb (.slice cA n cc) tv (.slice wA wn wc) p ws t 0 false) (hm : MI w mb N r) (hN : N < 100000) (hB : B ≤ b) (hBm : B ≤ mb)
    (hc : RO w Bc cA n l) (hBc : Bc ≤ B) (hp : p < n) (hn : n ≤ 200) (hwl : ws.length ≤ 200) (htl : t.length ≤ 200) (hrw : ∀ i, inW (r i)) (hww : ∀ x ∈ ws, inW x) (hx : l[p]? = some ⟨1, a', b', c', d'⟩) (ho : okI n ⟨1, a', b', c', d'⟩) (hi : inI ⟨1, a', b', c', d'⟩) (hs : stp n ⟨1, a', b', c', d'⟩ ⟨p, r, ws, t⟩ = (s', E)) :
    Calls Tryd.prog 42 #[.pointer (some ⟨b, 0, none⟩), .slice wA wn wc] w (OnPost B b mb N n (.slice cA n cc) tv (.slice wA wn wc) s' E w) := by
  have HO := Lib.hid ho
  have HIA := Lib.hid hi.2.1
  have HIB := Lib.hid hi.2.2.1
  have HIC := Lib.hid hi.2.2.2.1
  have HID := Lib.hid hi.2.2.2.2
  dsimp only at HIA HIB HIC HID
  clear ho hi
  obtain ⟨bc, oc, k0, x0, y0, z0, u0, rfl, hbc, c0, c1, c2, c3, c4, HX, hmem⟩ := hc.val hp
  have hX := HX.out
  rw [hx] at hX
  simp only [Option.some.injEq, Ins.mk.injEq] at hX
  obtain ⟨rfl, rfl, rfl, rfl, rfl⟩ := hX
  clear hx HX hmem
  have h0 : Un (touch b mb tv (.slice wA wn wc)) w w := Un.refl _ _
  have hlt := h.lt
  have hmlt := hm.lt
  have hbm : mb ≠ b := hm.ne h.box
  have hBs : B ≤ w.heap.size := by omega
  have hcs : bc < w.heap.size := by omega
  have hcb : bc ≠ b := by omega
  have t0 : w.cell? ⟨b, 0, none⟩ = _ := h.box.cell 0
  have t1 : w.cell? ⟨b, 1, none⟩ = _ := h.box.cell 1
  have t2 : w.cell? ⟨b, 2, none⟩ = _ := h.box.cell 2
  have t3 : w.cell? ⟨b, 3, none⟩ = _ := h.box.cell 3
  have t4 : w.cell? ⟨b, 4, none⟩ = _ := h.box.cell 4
  have t5 : w.cell? ⟨b, 5, none⟩ = _ := h.box.cell 5
  have f2 := h.box.frozen 2
  have f3 := h.box.frozen 3
  have f4 := h.box.frozen 4
  have f5 := h.box.frozen 5
  simp only [List.getElem?_cons_zero, List.getElem?_cons_succ] at t0 t1 t2 t3 t4 t5
  have HW := Lib.hid h
  have HM := Lib.hid hm
  have HRW := Lib.hid hrw
  have HWW := Lib.hid hww
  clear h hm hc hrw hww
  rw [stp_1] at hs
  injection hs with hs1 hs2
  subst hs1 hs2
  go_enter Tryd.func42, Tryd.ntmps42
  go_wp2
  refine region_first [0, 1, 2, 3, 4, 5, 6, 7, 8, 9] (.cons 10 (seq [11] .nil)) (by kernel_rfl) (by kernel_rfl) ?_
  simp only [pick, List.map_cons, List.map_nil, List.getD_cons_zero, List.getD_cons_succ]
  go_wp2
  refine ord_call (by kernel_rfl) ?_
  simp only [pick, List.map_cons, List.map_nil, List.getD_cons_zero, List.getD_cons_succ]
  go_wp2
  refine ⟨(((Below.refl w.heap.size w).alloc (Nat.le_refl _) _).drew).block, ?_⟩
  refine ord_last [11] (by kernel_rfl) ?_
  simp only [pick, List.map_cons, List.map_nil, List.getD_cons_zero, List.getD_cons_succ]
  go_wp2
  refine region_two [0, 1, 2, 3, 4, 5] [6, 7] (by kernel_rfl) (by kernel_rfl) ?_
  simp only [pick, List.map_cons, List.map_nil, List.getD_cons_zero, List.getD_cons_succ]
  go_wp2_with (at_lookup; go_must (refine wp_look rfl _ _ rfl mb N (r) _ rfl (by repeat first | exact HM.out | (with_reducible refine MI.drew ?_) | (with_reducible refine MI.alloc ?_ _) | (with_reducible refine MI.set ?_ _ (by omega))) rfl HIB.out ?_))
  refine region_two [0, 1, 2, 3, 4, 5] [6, 7] (by kernel_rfl) (by kernel_rfl) ?_
  simp only [pick, List.map_cons, List.map_nil, List.getD_cons_zero, List.getD_cons_succ]
  go_wp2_with (at_lookup; go_must (refine wp_look rfl _ _ rfl mb N (r) _ rfl (by repeat first | exact HM.out | (with_reducible refine MI.drew ?_) | (with_reducible refine MI.alloc ?_ _) | (with_reducible refine MI.set ?_ _ (by omega))) rfl HIC.out ?_))
  refine region_two [0, 1, 2, 3, 4, 5, 6, 7] [8] (by kernel_rfl) (by kernel_rfl) ?_
  simp only [pick, List.map_cons, List.map_nil, List.getD_cons_zero, List.getD_cons_succ]
  go_wp2_with (at_mapUpdate; go_must (refine wp_upd rfl rfl _ _ _ rfl mb (N) (r) _ _ rfl (by repeat first | exact HM.out | (with_reducible refine MI.drew ?_) | (with_reducible refine MI.alloc ?_ _) | (with_reducible refine MI.set ?_ _ (by omega))) rfl rfl HIA.out HIB.out (by omega) ?_); intro w1 HM1 hg1; have HW1 : Hid (Wk w1 B b mb (.slice (some ⟨bc, oc, none⟩) n cc) tv (.slice wA wn wc) p ws t 0 false) := Wk.map (N := N) (r := r) (by repeat first | exact HW.out | (with_reducible refine Wk.drew ?_) | (with_reducible refine Wk.alloc ?_ _)) (by repeat first | exact HM.out | (with_reducible refine MI.drew ?_) | (with_reducible refine MI.alloc ?_ _) | (with_reducible refine MI.set ?_ _ (by omega))) hg1; have hb1 : Un (touch b mb tv (.slice wA wn wc)) w w1 := un_set (by repeat first | exact h0 | (with_reducible refine Un.drew ?_) | (with_reducible refine Un.alloc ?_ _) | (with_reducible refine un_at ?_ touch_b _ _) | (with_reducible refine un_at ?_ touch_w _ _)) hg1 (.inr (.inl rfl)); have hs1 := hg1.size; have d10 : w1.cell? ⟨b, 0, none⟩ = _ := HW1.out.box.cell 0; have d11 : w1.cell? ⟨b, 1, none⟩ = _ := HW1.out.box.cell 1; have d12 : w1.cell? ⟨b, 2, none⟩ = _ := HW1.out.box.cell 2; have d15 : w1.cell? ⟨b, 5, none⟩ = _ := HW1.out.box.cell 5; simp only [List.getElem?_cons_zero, List.getElem?_cons_succ] at d10 d11 d12 d15; have g12 := HW1.out.box.frozen 2; have g15 := HW1.out.box.frozen 5; have l1 := HW1.out.lt)
  refine bodyPost_end (v := .tuple #[]) (results_noneV rfl _ _) rfl ?_
  exact ⟨rfl, ⟨_, _, _, ((HW1.out.at_ _).overd _), fun _ => ⟨rfl, by simp⟩, fun h => absurd rfl h, .inl rfl⟩, ((HM1.out.mono (by omega)).set _ hbm).set _ hbm, un_at (un_at hb1 (.inl rfl) _ _) (.inl rfl) _ _⟩

set_option maxRecDepth 100000 in
set_option maxHeartbeats 8000000 in
theorem ref_one2 (w : World) (B Bc b mb N n cc wn wc : Nat) (cA wA : Option Addr) (tv : Value) (l : List Ins) (p : Nat) (r : Int → Int) (ws t : List Int) (s' : Vs) (a' b' c' d' E : Int) (h : Wk w B b mb (.slice cA n cc) tv (.slice wA wn wc) p ws t 0 false) (hm : MI w mb N r) (hN : N < 100000) (hB : B ≤ b) (hBm : B ≤ mb)
    (hc : RO w Bc cA n l) (hBc : Bc ≤ B) (hp : p < n) (hn : n ≤ 200) (hwl : ws.length ≤ 200) (htl : t.length ≤ 200) (hrw : ∀ i, inW (r i)) (hww : ∀ x ∈ ws, inW x) (hx : l[p]? = some ⟨2, a', b', c', d'⟩) (ho : okI n ⟨2, a', b', c', d'⟩) (hi : inI ⟨2, a', b', c', d'⟩) (hs : stp n ⟨2, a', b', c', d'⟩ ⟨p, r, ws, t⟩ = (s', E)) :
    Calls Tryd.prog 42 #[.pointer (some ⟨b, 0, none⟩), .slice wA wn wc] w (OnPost B b mb N n (.slice cA n cc) tv (.slice wA wn wc) s' E w) := by
  have HO := Lib.hid ho
  have HIA := Lib.hid hi.2.1
  have HIB := Lib.hid hi.2.2.1
  have HIC := Lib.hid hi.2.2.2.1
  have HID := Lib.hid hi.2.2.2.2
  dsimp only at HIA HIB HIC HID
  clear ho hi
  obtain ⟨bc, oc, k0, x0, y0, z0, u0, rfl, hbc, c0, c1, c2, c3, c4, HX, hmem⟩ := hc.val hp
  have hX := HX.out
  rw [hx] at hX
  simp only [Option.some.injEq, Ins.mk.injEq] at hX
  obtain ⟨rfl, rfl, rfl, rfl, rfl⟩ := hX
  clear hx HX hmem
  have h0 : Un (touch b mb tv (.slice wA wn wc)) w w := Un.refl _ _
  have hlt := h.lt
  have hmlt := hm.lt
  have hbm : mb ≠ b := hm.ne h.box
  have hBs : B ≤ w.heap.size := by omega
  have hcs : bc < w.heap.size := by omega
  have hcb : bc ≠ b := by omega
  have t0 : w.cell? ⟨b, 0, none⟩ = _ := h.box.cell 0
  have t1 : w.cell? ⟨b, 1, none⟩ = _ := h.box.cell 1
  have t2 : w.cell? ⟨b, 2, none⟩ = _ := h.box.cell 2
  have t3 : w.cell? ⟨b, 3, none⟩ = _ := h.box.cell 3
  have t4 : w.cell? ⟨b, 4, none⟩ = _ := h.box.cell 4
  have t5 : w.cell? ⟨b, 5, none⟩ = _ := h.box.cell 5
  have f2 := h.box.frozen 2
  have f3 := h.box.frozen 3
  have f4 := h.box.frozen 4
  have f5 := h.box.frozen 5
  simp only [List.getElem?_cons_zero, List.getElem?_cons_succ] at t0 t1 t2 t3 t4 t5
  have HW := Lib.hid h
  have HM := Lib.hid hm
  have HRW := Lib.hid hrw
  have HWW := Lib.hid hww
  clear h hm hc hrw hww
  rw [stp_2] at hs
  injection hs with hs1 hs2
  subst hs1 hs2
  go_enter Tryd.func42, Tryd.ntmps42
  go_wp2
  refine region_first [0, 1, 2, 3, 4, 5, 6, 7, 8, 9] (.cons 10 (seq [11] .nil)) (by kernel_rfl) (by kernel_rfl) ?_
  simp only [pick, List.map_cons, List.map_nil, List.getD_cons_zero, List.getD_cons_succ]
  go_wp2
  refine ord_call (by kernel_rfl) ?_
  simp only [pick, List.map_cons, List.map_nil, List.getD_cons_zero, List.getD_cons_succ]
  go_wp2
  refine ⟨(((Below.refl w.heap.size w).alloc (Nat.le_refl _) _).drew).block, ?_⟩
  refine ord_last [11] (by kernel_rfl) ?_
  simp only [pick, List.map_cons, List.map_nil, List.getD_cons_zero, List.getD_cons_succ]
  go_wp2
  refine region_two [0, 1, 2, 3, 4, 5] [6, 7] (by kernel_rfl) (by kernel_rfl) ?_
  simp only [pick, List.map_cons, List.map_nil, List.getD_cons_zero, List.getD_cons_succ]
  go_wp2_with (at_lookup; go_must (refine wp_look rfl _ _ rfl mb N (r) _ rfl (by repeat first | exact HM.out | (with_reducible refine MI.drew ?_) | (with_reducible refine MI.alloc ?_ _) | (with_reducible refine MI.set ?_ _ (by omega))) rfl HIB.out ?_))
  refine region_two [0, 1, 2, 3, 4, 5] [6, 7] (by kernel_rfl) (by kernel_rfl) ?_
  simp only [pick, List.map_cons, List.map_nil, List.getD_cons_zero, List.getD_cons_succ]
  go_wp2_with (at_lookup; go_must (refine wp_look rfl _ _ rfl mb N (r) _ rfl (by repeat first | exact HM.out | (with_reducible refine MI.drew ?_) | (with_reducible refine MI.alloc ?_ _) | (with_reducible refine MI.set ?_ _ (by omega))) rfl HIC.out ?_))
  refine region_two [0, 1, 2, 3, 4, 5, 6] [7] (by kernel_rfl) (by kernel_rfl) ?_
  simp only [pick, List.map_cons, List.map_nil, List.getD_cons_zero, List.getD_cons_succ]
  go_wp2_with (at_mapUpdate; go_must (refine wp_upd rfl rfl _ _ _ rfl mb (N) (r) _ _ rfl (by repeat first | exact HM.out | (with_reducible refine MI.drew ?_) | (with_reducible refine MI.alloc ?_ _) | (with_reducible refine MI.set ?_ _ (by omega))) rfl rfl HIA.out (HRW.out _) (by omega) ?_); intro w1 HM1 hg1; have HW1 : Hid (Wk w1 B b mb (.slice (some ⟨bc, oc, none⟩) n cc) tv (.slice wA wn wc) p ws t 0 false) := Wk.map (N := N) (r := r) (by repeat first | exact HW.out | (with_reducible refine Wk.drew ?_) | (with_reducible refine Wk.alloc ?_ _)) (by repeat first | exact HM.out | (with_reducible refine MI.drew ?_) | (with_reducible refine MI.alloc ?_ _) | (with_reducible refine MI.set ?_ _ (by omega))) hg1; have hb1 : Un (touch b mb tv (.slice wA wn wc)) w w1 := un_set (by repeat first | exact h0 | (with_reducible refine Un.drew ?_) | (with_reducible refine Un.alloc ?_ _) | (with_reducible refine un_at ?_ touch_b _ _) | (with_reducible refine un_at ?_ touch_w _ _)) hg1 (.inr (.inl rfl)); have hs1 := hg1.size; have d10 : w1.cell? ⟨b, 0, none⟩ = _ := HW1.out.box.cell 0; have d11 : w1.cell? ⟨b, 1, none⟩ = _ := HW1.out.box.cell 1; have d12 : w1.cell? ⟨b, 2, none⟩ = _ := HW1.out.box.cell 2; have d15 : w1.cell? ⟨b, 5, none⟩ = _ := HW1.out.box.cell 5; simp only [List.getElem?_cons_zero, List.getElem?_cons_succ] at d10 d11 d12 d15; have g12 := HW1.out.box.frozen 2; have g15 := HW1.out.box.frozen 5; have l1 := HW1.out.lt)
  refine bodyPost_end (v := .tuple #[]) (results_noneV rfl _ _) rfl ?_
  exact ⟨rfl, ⟨_, _, _, ((HW1.out.at_ _).overd _), fun _ => ⟨rfl, by simp⟩, fun h => absurd rfl h, .inl rfl⟩, ((HM1.out.mono (by omega)).set _ hbm).set _ hbm, un_at (un_at hb1 (.inl rfl) _ _) (.inl rfl) _ _⟩

set_option maxRecDepth 100000 in
set_option maxHeartbeats 8000000 in
theorem ref_one3 (w : World) (B Bc b mb N n cc wn wc : Nat) (cA wA : Option Addr) (tv : Value) (l : List Ins) (p : Nat) (r : Int → Int) (ws t : List Int) (s' : Vs) (a' b' c' d' E : Int) (h : Wk w B b mb (.slice cA n cc) tv (.slice wA wn wc) p ws t 0 false) (hm : MI w mb N r) (hN : N < 100000) (hB : B ≤ b) (hBm : B ≤ mb)
    (hc : RO w Bc cA n l) (hBc : Bc ≤ B) (hp : p < n) (hn : n ≤ 200) (hwl : ws.length ≤ 200) (htl : t.length ≤ 200) (hrw : ∀ i, inW (r i)) (hww : ∀ x ∈ ws, inW x) (hx : l[p]? = some ⟨3, a', b', c', d'⟩) (ho : okI n ⟨3, a', b', c', d'⟩) (hi : inI ⟨3, a', b', c', d'⟩) (hs : stp n ⟨3, a', b', c', d'⟩ ⟨p, r, ws, t⟩ = (s', E)) :
    Calls Tryd.prog 42 #[.pointer (some ⟨b, 0, none⟩), .slice wA wn wc] w (OnPost B b mb N n (.slice cA n cc) tv (.slice wA wn wc) s' E w) := by
  have HO := Lib.hid ho
  have HIA := Lib.hid hi.2.1
  have HIB := Lib.hid hi.2.2.1
  have HIC := Lib.hid hi.2.2.2.1
  have HID := Lib.hid hi.2.2.2.2
  dsimp only at HIA HIB HIC HID
  clear ho hi
  obtain ⟨bc, oc, k0, x0, y0, z0, u0, rfl, hbc, c0, c1, c2, c3, c4, HX, hmem⟩ := hc.val hp
  have hX := HX.out
  rw [hx] at hX
  simp only [Option.some.injEq, Ins.mk.injEq] at hX
  obtain ⟨rfl, rfl, rfl, rfl, rfl⟩ := hX
  clear hx HX hmem
  have h0 : Un (touch b mb tv (.slice wA wn wc)) w w := Un.refl _ _
  have hlt := h.lt
  have hmlt := hm.lt
  have hbm : mb ≠ b := hm.ne h.box
  have hBs : B ≤ w.heap.size := by omega
  have hcs : bc < w.heap.size := by omega
  have hcb : bc ≠ b := by omega
  have t0 : w.cell? ⟨b, 0, none⟩ = _ := h.box.cell 0
  have t1 : w.cell? ⟨b, 1, none⟩ = _ := h.box.cell 1
  have t2 : w.cell? ⟨b, 2, none⟩ = _ := h.box.cell 2
  have t3 : w.cell? ⟨b, 3, none⟩ = _ := h.box.cell 3
  have t4 : w.cell? ⟨b, 4, none⟩ = _ := h.box.cell 4
  have t5 : w.cell? ⟨b, 5, none⟩ = _ := h.box.cell 5
  have f2 := h.box.frozen 2
  have f3 := h.box.frozen 3
  have f4 := h.box.frozen 4
  have f5 := h.box.frozen 5
  simp only [List.getElem?_cons_zero, List.getElem?_cons_succ] at t0 t1 t2 t3 t4 t5
  have HW := Lib.hid h
  have HM := Lib.hid hm
  have HRW := Lib.hid hrw
  have HWW := Lib.hid hww
  clear h hm hc hrw hww
  rw [stp_cmp (k := 3) (by decide)] at hs
  injection hs with hs1 hs2
  subst hs1 hs2
  simp only [cmpV, Int.reduceEq, if_false, if_true]
  go_enter Tryd.func42, Tryd.ntmps42
  go_wp2
  refine region_first [0, 1, 2, 3, 4, 5, 6, 7, 8, 9] (.cons 10 (seq [11] .nil)) (by kernel_rfl) (by kernel_rfl) ?_
  simp only [pick, List.map_cons, List.map_nil, List.getD_cons_zero, List.getD_cons_succ]
  go_wp2
  refine ord_call (by kernel_rfl) ?_
  simp only [pick, List.map_cons, List.map_nil, List.getD_cons_zero, List.getD_cons_succ]
  go_wp2
  refine ⟨(((Below.refl w.heap.size w).alloc (Nat.le_refl _) _).drew).block, ?_⟩
  refine ord_last [11] (by kernel_rfl) ?_
  simp only [pick, List.map_cons, List.map_nil, List.getD_cons_zero, List.getD_cons_succ]
  go_wp2
  refine region_two [0, 1, 2, 3, 4, 5] [6, 7] (by kernel_rfl) (by kernel_rfl) ?_
  simp only [pick, List.map_cons, List.map_nil, List.getD_cons_zero, List.getD_cons_succ]
  go_wp2_with (at_lookup; go_must (refine wp_look rfl _ _ rfl mb N (r) _ rfl (by repeat first | exact HM.out | (with_reducible refine MI.drew ?_) | (with_reducible refine MI.alloc ?_ _) | (with_reducible refine MI.set ?_ _ (by omega))) rfl HIB.out ?_))
  refine region_two [0, 1, 2, 3, 4, 5] [6, 7] (by kernel_rfl) (by kernel_rfl) ?_
  simp only [pick, List.map_cons, List.map_nil, List.getD_cons_zero, List.getD_cons_succ]
  go_wp2_with (at_lookup; go_must (refine wp_look rfl _ _ rfl mb N (r) _ rfl (by repeat first | exact HM.out | (with_reducible refine MI.drew ?_) | (with_reducible refine MI.alloc ?_ _) | (with_reducible refine MI.set ?_ _ (by omega))) rfl HIC.out ?_))
  refine region_two [0, 1, 2, 3, 4, 5, 6, 7, 8] [9] (by kernel_rfl) (by kernel_rfl) ?_
  simp only [pick, List.map_cons, List.map_nil, List.getD_cons_zero, List.getD_cons_succ]
  go_wp2_with (at_mapUpdate; go_must (refine wp_upd rfl rfl _ _ _ rfl mb (N) (r) _ _ rfl (by repeat first | exact HM.out | (with_reducible refine MI.drew ?_) | (with_reducible refine MI.alloc ?_ _) | (with_reducible refine MI.set ?_ _ (by omega))) rfl rfl HIA.out (inW_wrap _) (by omega) ?_); intro w1 HM1 hg1; have HW1 : Hid (Wk w1 B b mb (.slice (some ⟨bc, oc, none⟩) n cc) tv (.slice wA wn wc) p ws t 0 false) := Wk.map (N := N) (r := r) (by repeat first | exact HW.out | (with_reducible refine Wk.drew ?_) | (with_reducible refine Wk.alloc ?_ _)) (by repeat first | exact HM.out | (with_reducible refine MI.drew ?_) | (with_reducible refine MI.alloc ?_ _) | (with_reducible refine MI.set ?_ _ (by omega))) hg1; have hb1 : Un (touch b mb tv (.slice wA wn wc)) w w1 := un_set (by repeat first | exact h0 | (with_reducible refine Un.drew ?_) | (with_reducible refine Un.alloc ?_ _) | (with_reducible refine un_at ?_ touch_b _ _) | (with_reducible refine un_at ?_ touch_w _ _)) hg1 (.inr (.inl rfl)); have hs1 := hg1.size; have d10 : w1.cell? ⟨b, 0, none⟩ = _ := HW1.out.box.cell 0; have d11 : w1.cell? ⟨b, 1, none⟩ = _ := HW1.out.box.cell 1; have d12 : w1.cell? ⟨b, 2, none⟩ = _ := HW1.out.box.cell 2; have d15 : w1.cell? ⟨b, 5, none⟩ = _ := HW1.out.box.cell 5; simp only [List.getElem?_cons_zero, List.getElem?_cons_succ] at d10 d11 d12 d15; have g12 := HW1.out.box.frozen 2; have g15 := HW1.out.box.frozen 5; have l1 := HW1.out.lt)
  refine bodyPost_end (v := .tuple #[]) (results_noneV rfl _ _) rfl ?_
  exact ⟨rfl, ⟨_, _, _, ((HW1.out.at_ _).overd _), fun _ => ⟨rfl, by simp⟩, fun h => absurd rfl h, .inl rfl⟩, ((HM1.out.mono (by omega)).set _ hbm).set _ hbm, un_at (un_at hb1 (.inl rfl) _ _) (.inl rfl) _ _⟩

set_option maxRecDepth 100000 in
set_option maxHeartbeats 8000000 in
theorem ref_one4 (w : World) (B Bc b mb N n cc wn wc : Nat) (cA wA : Option Addr) (tv : Value) (l : List Ins) (p : Nat) (r : Int → Int) (ws t : List Int) (s' : Vs) (a' b' c' d' E : Int) (h : Wk w B b mb (.slice cA n cc) tv (.slice wA wn wc) p ws t 0 false) (hm : MI w mb N r) (hN : N < 100000) (hB : B ≤ b) (hBm : B ≤ mb)
    (hc : RO w Bc cA n l) (hBc : Bc ≤ B) (hp : p < n) (hn : n ≤ 200) (hwl : ws.length ≤ 200) (htl : t.length ≤ 200) (hrw : ∀ i, inW (r i)) (hww : ∀ x ∈ ws, inW x) (hx : l[p]? = some ⟨4, a', b', c', d'⟩) (ho : okI n ⟨4, a', b', c', d'⟩) (hi : inI ⟨4, a', b', c', d'⟩) (hs : stp n ⟨4, a', b', c', d'⟩ ⟨p, r, ws, t⟩ = (s', E)) :
    Calls Tryd.prog 42 #[.pointer (some ⟨b, 0, none⟩), .slice wA wn wc] w (OnPost B b mb N n (.slice cA n cc) tv (.slice wA wn wc) s' E w) := by
  have HO := Lib.hid ho
  have HIA := Lib.hid hi.2.1
  have HIB := Lib.hid hi.2.2.1
  have HIC := Lib.hid hi.2.2.2.1
  have HID := Lib.hid hi.2.2.2.2
  dsimp only at HIA HIB HIC HID
  clear ho hi
  obtain ⟨bc, oc, k0, x0, y0, z0, u0, rfl, hbc, c0, c1, c2, c3, c4, HX, hmem⟩ := hc.val hp
  have hX := HX.out
  rw [hx] at hX
  simp only [Option.some.injEq, Ins.mk.injEq] at hX
  obtain ⟨rfl, rfl, rfl, rfl, rfl⟩ := hX
  clear hx HX hmem
  have h0 : Un (touch b mb tv (.slice wA wn wc)) w w := Un.refl _ _
  have hlt := h.lt
  have hmlt := hm.lt
  have hbm : mb ≠ b := hm.ne h.box
  have hBs : B ≤ w.heap.size := by omega
  have hcs : bc < w.heap.size := by omega
  have hcb : bc ≠ b := by omega
  have t0 : w.cell? ⟨b, 0, none⟩ = _ := h.box.cell 0
  have t1 : w.cell? ⟨b, 1, none⟩ = _ := h.box.cell 1
  have t2 : w.cell? ⟨b, 2, none⟩ = _ := h.box.cell 2
  have t3 : w.cell? ⟨b, 3, none⟩ = _ := h.box.cell 3
  have t4 : w.cell? ⟨b, 4, none⟩ = _ := h.box.cell 4
  have t5 : w.cell? ⟨b, 5, none⟩ = _ := h.box.cell 5
  have f2 := h.box.frozen 2
  have f3 := h.box.frozen 3
  have f4 := h.box.frozen 4
  have f5 := h.box.frozen 5
  simp only [List.getElem?_cons_zero, List.getElem?_cons_succ] at t0 t1 t2 t3 t4 t5
  have HW := Lib.hid h
  have HM := Lib.hid hm
  have HRW := Lib.hid hrw
  have HWW := Lib.hid hww
  clear h hm hc hrw hww
  rw [stp_cmp (k := 4) (by decide)] at hs
  injection hs with hs1 hs2
  subst hs1 hs2
  simp only [cmpV, Int.reduceEq, if_false, if_true]
  go_enter Tryd.func42, Tryd.ntmps42
  go_wp2
  refine region_first [0, 1, 2, 3, 4, 5, 6, 7, 8, 9] (.cons 10 (seq [11] .nil)) (by kernel_rfl) (by kernel_rfl) ?_
  simp only [pick, List.map_cons, List.map_nil, List.getD_cons_zero, List.getD_cons_succ]
  go_wp2
  refine ord_call (by kernel_rfl) ?_
  simp only [pick, List.map_cons, List.map_nil, List.getD_cons_zero, List.getD_cons_succ]
  go_wp2
  refine ⟨(((Below.refl w.heap.size w).alloc (Nat.le_refl _) _).drew).block, ?_⟩
  refine ord_last [11] (by kernel_rfl) ?_
  simp only [pick, List.map_cons, List.map_nil, List.getD_cons_zero, List.getD_cons_succ]
  go_wp2
  refine region_two [0, 1, 2, 3, 4, 5] [6, 7] (by kernel_rfl) (by kernel_rfl) ?_
  simp only [pick, List.map_cons, List.map_nil, List.getD_cons_zero, List.getD_cons_succ]
  go_wp2_with (at_lookup; go_must (refine wp_look rfl _ _ rfl mb N (r) _ rfl (by repeat first | exact HM.out | (with_reducible refine MI.drew ?_) | (with_reducible refine MI.alloc ?_ _) | (with_reducible refine MI.set ?_ _ (by omega))) rfl HIB.out ?_))
  refine region_two [0, 1, 2, 3, 4, 5] [6, 7] (by kernel_rfl) (by kernel_rfl) ?_
  simp only [pick, List.map_cons, List.map_nil, List.getD_cons_zero, List.getD_cons_succ]
  go_wp2_with (at_lookup; go_must (refine wp_look rfl _ _ rfl mb N (r) _ rfl (by repeat first | exact HM.out | (with_reducible refine MI.drew ?_) | (with_reducible refine MI.alloc ?_ _) | (with_reducible refine MI.set ?_ _ (by omega))) rfl HIC.out ?_))
  refine region_two [0, 1, 2, 3, 4, 5, 6, 7, 8] [9] (by kernel_rfl) (by kernel_rfl) ?_
  simp only [pick, List.map_cons, List.map_nil, List.getD_cons_zero, List.getD_cons_succ]
  go_wp2_with (at_mapUpdate; go_must (refine wp_upd rfl rfl _ _ _ rfl mb (N) (r) _ _ rfl (by repeat first | exact HM.out | (with_reducible refine MI.drew ?_) | (with_reducible refine MI.alloc ?_ _) | (with_reducible refine MI.set ?_ _ (by omega))) rfl rfl HIA.out (inW_wrap _) (by omega) ?_); intro w1 HM1 hg1; have HW1 : Hid (Wk w1 B b mb (.slice (some ⟨bc, oc, none⟩) n cc) tv (.slice wA wn wc) p ws t 0 false) := Wk.map (N := N) (r := r) (by repeat first | exact HW.out | (with_reducible refine Wk.drew ?_) | (with_reducible refine Wk.alloc ?_ _)) (by repeat first | exact HM.out | (with_reducible refine MI.drew ?_) | (with_reducible refine MI.alloc ?_ _) | (with_reducible refine MI.set ?_ _ (by omega))) hg1; have hb1 : Un (touch b mb tv (.slice wA wn wc)) w w1 := un_set (by repeat first | exact h0 | (with_reducible refine Un.drew ?_) | (with_reducible refine Un.alloc ?_ _) | (with_reducible refine un_at ?_ touch_b _ _) | (with_reducible refine un_at ?_ touch_w _ _)) hg1 (.inr (.inl rfl)); have hs1 := hg1.size; have d10 : w1.cell? ⟨b, 0, none⟩ = _ := HW1.out.box.cell 0; have d11 : w1.cell? ⟨b, 1, none⟩ = _ := HW1.out.box.cell 1; have d12 : w1.cell? ⟨b, 2, none⟩ = _ := HW1.out.box.cell 2; have d15 : w1.cell? ⟨b, 5, none⟩ = _ := HW1.out.box.cell 5; simp only [List.getElem?_cons_zero, List.getElem?_cons_succ] at d10 d11 d12 d15; have g12 := HW1.out.box.frozen 2; have g15 := HW1.out.box.frozen 5; have l1 := HW1.out.lt)
  refine bodyPost_end (v := .tuple #[]) (results_noneV rfl _ _) rfl ?_
  exact ⟨rfl, ⟨_, _, _, ((HW1.out.at_ _).overd _), fun _ => ⟨rfl, by simp⟩, fun h => absurd rfl h, .inl rfl⟩, ((HM1.out.mono (by omega)).set _ hbm).set _ hbm, un_at (un_at hb1 (.inl rfl) _ _) (.inl rfl) _ _⟩

set_option maxRecDepth 100000 in
set_option maxHeartbeats 8000000 in
theorem ref_one5 (w : World) (B Bc b mb N n cc wn wc : Nat) (cA wA : Option Addr) (tv : Value) (l : List Ins) (p : Nat) (r : Int → Int) (ws t : List Int) (s' : Vs) (a' b' c' d' E : Int) (h : Wk w B b mb (.slice cA n cc) tv (.slice wA wn wc) p ws t 0 false) (hm : MI w mb N r) (hN : N < 100000) (hB : B ≤ b) (hBm : B ≤ mb)
    (hc : RO w Bc cA n l) (hBc : Bc ≤ B) (hp : p < n) (hn : n ≤ 200) (hwl : ws.length ≤ 200) (htl : t.length ≤ 200) (hrw : ∀ i, inW (r i)) (hww : ∀ x ∈ ws, inW x) (hx : l[p]? = some ⟨5, a', b', c', d'⟩) (ho : okI n ⟨5, a', b', c', d'⟩) (hi : inI ⟨5, a', b', c', d'⟩) (hs : stp n ⟨5, a', b', c', d'⟩ ⟨p, r, ws, t⟩ = (s', E)) :
    Calls Tryd.prog 42 #[.pointer (some ⟨b, 0, none⟩), .slice wA wn wc] w (OnPost B b mb N n (.slice cA n cc) tv (.slice wA wn wc) s' E w) := by
  have HO := Lib.hid ho
  have HIA := Lib.hid hi.2.1
  have HIB := Lib.hid hi.2.2.1
  have HIC := Lib.hid hi.2.2.2.1
  have HID := Lib.hid hi.2.2.2.2
  dsimp only at HIA HIB HIC HID
  clear ho hi
  obtain ⟨bc, oc, k0, x0, y0, z0, u0, rfl, hbc, c0, c1, c2, c3, c4, HX, hmem⟩ := hc.val hp
  have hX := HX.out
  rw [hx] at hX
  simp only [Option.some.injEq, Ins.mk.injEq] at hX
  obtain ⟨rfl, rfl, rfl, rfl, rfl⟩ := hX
  clear hx HX hmem
  have h0 : Un (touch b mb tv (.slice wA wn wc)) w w := Un.refl _ _
  have hlt := h.lt
  have hmlt := hm.lt
  have hbm : mb ≠ b := hm.ne h.box
  have hBs : B ≤ w.heap.size := by omega
  have hcs : bc < w.heap.size := by omega
  have hcb : bc ≠ b := by omega
  have t0 : w.cell? ⟨b, 0, none⟩ = _ := h.box.cell 0
  have t1 : w.cell? ⟨b, 1, none⟩ = _ := h.box.cell 1
  have t2 : w.cell? ⟨b, 2, none⟩ = _ := h.box.cell 2
  have t3 : w.cell? ⟨b, 3, none⟩ = _ := h.box.cell 3
  have t4 : w.cell? ⟨b, 4, none⟩ = _ := h.box.cell 4
  have t5 : w.cell? ⟨b, 5, none⟩ = _ := h.box.cell 5
  have f2 := h.box.frozen 2
  have f3 := h.box.frozen 3
  have f4 := h.box.frozen 4
  have f5 := h.box.frozen 5
  simp only [List.getElem?_cons_zero, List.getElem?_cons_succ] at t0 t1 t2 t3 t4 t5
  have HW := Lib.hid h
  have HM := Lib.hid hm
  have HRW := Lib.hid hrw
  have HWW := Lib.hid hww
  clear h hm hc hrw hww
  rw [stp_cmp (k := 5) (by decide)] at hs
  injection hs with hs1 hs2
  subst hs1 hs2
  simp only [cmpV, Int.reduceEq, if_false, if_true]
  go_enter Tryd.func42, Tryd.ntmps42
  go_wp2
  refine region_first [0, 1, 2, 3, 4, 5, 6, 7, 8, 9] (.cons 10 (seq [11] .nil)) (by kernel_rfl) (by kernel_rfl) ?_
  simp only [pick, List.map_cons, List.map_nil, List.getD_cons_zero, List.getD_cons_succ]
  go_wp2
  refine ord_call (by kernel_rfl) ?_
  simp only [pick, List.map_cons, List.map_nil, List.getD_cons_zero, List.getD_cons_succ]
  go_wp2
  refine ⟨(((Below.refl w.heap.size w).alloc (Nat.le_refl _) _).drew).block, ?_⟩
  refine ord_last [11] (by kernel_rfl) ?_
  simp only [pick, List.map_cons, List.map_nil, List.getD_cons_zero, List.getD_cons_succ]
  go_wp2
  refine region_two [0, 1, 2, 3, 4, 5] [6, 7] (by kernel_rfl) (by kernel_rfl) ?_
  simp only [pick, List.map_cons, List.map_nil, List.getD_cons_zero, List.getD_cons_succ]
  go_wp2_with (at_lookup; go_must (refine wp_look rfl _ _ rfl mb N (r) _ rfl (by repeat first | exact HM.out | (with_reducible refine MI.drew ?_) | (with_reducible refine MI.alloc ?_ _) | (with_reducible refine MI.set ?_ _ (by omega))) rfl HIB.out ?_))
  refine region_two [0, 1, 2, 3, 4, 5] [6, 7] (by kernel_rfl) (by kernel_rfl) ?_
  simp only [pick, List.map_cons, List.map_nil, List.getD_cons_zero, List.getD_cons_succ]
  go_wp2_with (at_lookup; go_must (refine wp_look rfl _ _ rfl mb N (r) _ rfl (by repeat first | exact HM.out | (with_reducible refine MI.drew ?_) | (with_reducible refine MI.alloc ?_ _) | (with_reducible refine MI.set ?_ _ (by omega))) rfl HIC.out ?_))
  refine region_two [0, 1, 2, 3, 4, 5, 6, 7, 8] [9] (by kernel_rfl) (by kernel_rfl) ?_
  simp only [pick, List.map_cons, List.map_nil, List.getD_cons_zero, List.getD_cons_succ]
  go_wp2_with (at_mapUpdate; go_must (refine wp_upd rfl rfl _ _ _ rfl mb (N) (r) _ _ rfl (by repeat first | exact HM.out | (with_reducible refine MI.drew ?_) | (with_reducible refine MI.alloc ?_ _) | (with_reducible refine MI.set ?_ _ (by omega))) rfl rfl HIA.out (inW_wrap _) (by omega) ?_); intro w1 HM1 hg1; have HW1 : Hid (Wk w1 B b mb (.slice (some ⟨bc, oc, none⟩) n cc) tv (.slice wA wn wc) p ws t 0 false) := Wk.map (N := N) (r := r) (by repeat first | exact HW.out | (with_reducible refine Wk.drew ?_) | (with_reducible refine Wk.alloc ?_ _)) (by repeat first | exact HM.out | (with_reducible refine MI.drew ?_) | (with_reducible refine MI.alloc ?_ _) | (with_reducible refine MI.set ?_ _ (by omega))) hg1; have hb1 : Un (touch b mb tv (.slice wA wn wc)) w w1 := un_set (by repeat first | exact h0 | (with_reducible refine Un.drew ?_) | (with_reducible refine Un.alloc ?_ _) | (with_reducible refine un_at ?_ touch_b _ _) | (with_reducible refine un_at ?_ touch_w _ _)) hg1 (.inr (.inl rfl)); have hs1 := hg1.size; have d10 : w1.cell? ⟨b, 0, none⟩ = _ := HW1.out.box.cell 0; have d11 : w1.cell? ⟨b, 1, none⟩ = _ := HW1.out.box.cell 1; have d12 : w1.cell? ⟨b, 2, none⟩ = _ := HW1.out.box.cell 2; have d15 : w1.cell? ⟨b, 5, none⟩ = _ := HW1.out.box.cell 5; simp only [List.getElem?_cons_zero, List.getElem?_cons_succ] at d10 d11 d12 d15; have g12 := HW1.out.box.frozen 2; have g15 := HW1.out.box.frozen 5; have l1 := HW1.out.lt)
  refine bodyPost_end (v := .tuple #[]) (results_noneV rfl _ _) rfl ?_
  exact ⟨rfl, ⟨_, _, _, ((HW1.out.at_ _).overd _), fun _ => ⟨rfl, by simp⟩, fun h => absurd rfl h, .inl rfl⟩, ((HM1.out.mono (by omega)).set _ hbm).set _ hbm, un_at (un_at hb1 (.inl rfl) _ _) (.inl rfl) _ _⟩

set_option maxRecDepth 100000 in
set_option maxHeartbeats 8000000 in
theorem ref_one10 (w : World) (B Bc b mb N n cc wn wc : Nat) (cA wA : Option Addr) (tv : Value) (l : List Ins) (p : Nat) (r : Int → Int) (ws t : List Int) (s' : Vs) (a' b' c' d' E : Int) (h : Wk w B b mb (.slice cA n cc) tv (.slice wA wn wc) p ws t 0 false) (hm : MI w mb N r) (hN : N < 100000) (hB : B ≤ b) (hBm : B ≤ mb)
    (hc : RO w Bc cA n l) (hBc : Bc ≤ B) (hp : p < n) (hn : n ≤ 200) (hwl : ws.length ≤ 200) (htl : t.length ≤ 200) (hrw : ∀ i, inW (r i)) (hww : ∀ x ∈ ws, inW x) (hx : l[p]? = some ⟨10, a', b', c', d'⟩) (ho : okI n ⟨10, a', b', c', d'⟩) (hi : inI ⟨10, a', b', c', d'⟩) (hs : stp n ⟨10, a', b', c', d'⟩ ⟨p, r, ws, t⟩ = (s', E)) :
    Calls Tryd.prog 42 #[.pointer (some ⟨b, 0, none⟩), .slice wA wn wc] w (OnPost B b mb N n (.slice cA n cc) tv (.slice wA wn wc) s' E w) := by
  have HO := Lib.hid ho
  have HIA := Lib.hid hi.2.1
  have HIB := Lib.hid hi.2.2.1
  have HIC := Lib.hid hi.2.2.2.1
  have HID := Lib.hid hi.2.2.2.2
  dsimp only at HIA HIB HIC HID
  clear ho hi
  obtain ⟨bc, oc, k0, x0, y0, z0, u0, rfl, hbc, c0, c1, c2, c3, c4, HX, hmem⟩ := hc.val hp
  have hX := HX.out
  rw [hx] at hX
  simp only [Option.some.injEq, Ins.mk.injEq] at hX
  obtain ⟨rfl, rfl, rfl, rfl, rfl⟩ := hX
  clear hx HX hmem
  have h0 : Un (touch b mb tv (.slice wA wn wc)) w w := Un.refl _ _
  have hlt := h.lt
  have hmlt := hm.lt
  have hbm : mb ≠ b := hm.ne h.box
  have hBs : B ≤ w.heap.size := by omega
  have hcs : bc < w.heap.size := by omega
  have hcb : bc ≠ b := by omega
  have t0 : w.cell? ⟨b, 0, none⟩ = _ := h.box.cell 0
  have t1 : w.cell? ⟨b, 1, none⟩ = _ := h.box.cell 1
  have t2 : w.cell? ⟨b, 2, none⟩ = _ := h.box.cell 2
  have t3 : w.cell? ⟨b, 3, none⟩ = _ := h.box.cell 3
  have t4 : w.cell? ⟨b, 4, none⟩ = _ := h.box.cell 4
  have t5 : w.cell? ⟨b, 5, none⟩ = _ := h.box.cell 5
  have f2 := h.box.frozen 2
  have f3 := h.box.frozen 3
  have f4 := h.box.frozen 4
  have f5 := h.box.frozen 5
  simp only [List.getElem?_cons_zero, List.getElem?_cons_succ] at t0 t1 t2 t3 t4 t5
  have HW := Lib.hid h
  have HM := Lib.hid hm
  have HRW := Lib.hid hrw
  have HWW := Lib.hid hww
  clear h hm hc hrw hww
  rw [stp_10] at hs
  injection hs with hs1 hs2
  subst hs1 hs2
  go_enter Tryd.func42, Tryd.ntmps42
  go_wp2
  refine region_first [0, 1, 2, 3, 4, 5, 6, 7, 8, 9] (.cons 10 (seq [11] .nil)) (by kernel_rfl) (by kernel_rfl) ?_
  simp only [pick, List.map_cons, List.map_nil, List.getD_cons_zero, List.getD_cons_succ]
  go_wp2
  refine ord_call (by kernel_rfl) ?_
  simp only [pick, List.map_cons, List.map_nil, List.getD_cons_zero, List.getD_cons_succ]
  go_wp2
  refine ⟨(((Below.refl w.heap.size w).alloc (Nat.le_refl _) _).drew).block, ?_⟩
  refine ord_last [11] (by kernel_rfl) ?_
  simp only [pick, List.map_cons, List.map_nil, List.getD_cons_zero, List.getD_cons_succ]
  go_wp2
  refine region_two [0, 1, 2, 3, 4, 5] [6, 7] (by kernel_rfl) (by kernel_rfl) ?_
  simp only [pick, List.map_cons, List.map_nil, List.getD_cons_zero, List.getD_cons_succ]
  go_wp2_with (at_lookup; go_must (refine wp_look rfl _ _ rfl mb N (r) _ rfl (by repeat first | exact HM.out | (with_reducible refine MI.drew ?_) | (with_reducible refine MI.alloc ?_ _) | (with_reducible refine MI.set ?_ _ (by omega))) rfl HIB.out ?_))
  refine region_two [0, 1, 2, 3, 4, 5] [6, 7] (by kernel_rfl) (by kernel_rfl) ?_
  simp only [pick, List.map_cons, List.map_nil, List.getD_cons_zero, List.getD_cons_succ]
  go_wp2_with (at_lookup; go_must (refine wp_look rfl _ _ rfl mb N (r) _ rfl (by repeat first | exact HM.out | (with_reducible refine MI.drew ?_) | (with_reducible refine MI.alloc ?_ _) | (with_reducible refine MI.set ?_ _ (by omega))) rfl HIC.out ?_))
  refine bodyPost_end (v := .tuple #[]) (results_noneV rfl _ _) rfl ?_
  exact ⟨rfl, ⟨_, _, _, (((HW.out.at_ _).overd _).alloc _).drew.drew.drew, fun _ => ⟨rfl, by simp⟩, fun h => absurd rfl h, .inl rfl⟩, MI.mono (N := N) (by repeat first | exact HM.out | (with_reducible refine MI.drew ?_) | (with_reducible refine MI.alloc ?_ _) | (with_reducible refine MI.set ?_ _ (by omega))) (by omega), (by repeat first | exact h0 | (with_reducible refine Un.drew ?_) | (with_reducible refine Un.alloc ?_ _) | (with_reducible refine un_at ?_ touch_b _ _) | (with_reducible refine un_at ?_ touch_w _ _))⟩
end Go.Proofs.YtjihopbapnfppaaDoor
