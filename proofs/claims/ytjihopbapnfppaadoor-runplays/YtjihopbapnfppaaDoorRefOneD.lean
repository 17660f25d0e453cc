/- One instruction of the document's worker. No statement of the seat is proved here; no condition. -/
import Derived.Test.YtjihopbapnfppaaDoorRefOneP
set_option linter.unusedSimpArgs false
set_option linter.unusedVariables false
namespace Go.Proofs.YtjihopbapnfppaaDoor
open Go.RowKit Go.Ord Go.Baro Go.Maps

set_option maxRecDepth 100000 in
set_option maxHeartbeats 8000000 in
theorem ref_one14 (w : World) (B Bc b mb N n cc wn wc : Nat) (cA wA : Option Addr) (tv : Value) (l : List Ins) (p : Nat) (r : Int → Int) (ws t : List Int) (s' : Vs) (a' b' c' d' E : Int) (h : Wk w B b mb (.slice cA n cc) tv (.slice wA wn wc) p ws t 0 false) (hm : MI w mb N r) (hN : N < 100000) (hB : B ≤ b) (hBm : B ≤ mb)
    (hc : RO w Bc cA n l) (hBc : Bc ≤ B) (hp : p < n) (hn : n ≤ 200) (hwl : ws.length ≤ 200) (htl : t.length ≤ 200) (hrw : ∀ i, inW (r i)) (hww : ∀ x ∈ ws, inW x) (hx : l[p]? = some ⟨14, a', b', c', d'⟩) (ho : okI n ⟨14, a', b', c', d'⟩) (hi : inI ⟨14, a', b', c', d'⟩) (hs : stp n ⟨14, a', b', c', d'⟩ ⟨p, r, ws, t⟩ = (s', E)) :
    Calls Tryd.prog 42 #[.pointer (some ⟨b, 0, none⟩), .slice wA wn wc] w (OnPost B b mb N n (.slice cA n cc) tv (.slice wA wn wc) s' E w) := by
  have HO := Lib.hid ho
  have HIA := Lib.hid hi.2.1
  have HIB := Lib.hid hi.2.2.1
  have HIC := Lib.hid hi.2.2.2.1
  have HID := Lib.hid hi.2.2.2.2
  dsimp only at HIA HIB HIC HID
  clear ho hi
  obtain ⟨bc, oc, k0, x0, y0, z0, u0, rfl, hbc, c0, c1, c2, c3, c4, HX, hmem⟩ := hc.val hp
  have hX := HX.out
  rw [hx] at hX
  simp only [Option.some.injEq, Ins.mk.injEq] at hX
  obtain ⟨rfl, rfl, rfl, rfl, rfl⟩ := hX
  clear hx HX hmem
  have h0 : Un (touch b mb tv (.slice wA wn wc)) w w := Un.refl _ _
  have hlt := h.lt
  have hmlt := hm.lt
  have hbm : mb ≠ b := hm.ne h.box
  have hBs : B ≤ w.heap.size := by omega
  have hcs : bc < w.heap.size := by omega
  have hcb : bc ≠ b := by omega
  have t0 : w.cell? ⟨b, 0, none⟩ = _ := h.box.cell 0
  have t1 : w.cell? ⟨b, 1, none⟩ = _ := h.box.cell 1
  have t2 : w.cell? ⟨b, 2, none⟩ = _ := h.box.cell 2
  have t3 : w.cell? ⟨b, 3, none⟩ = _ := h.box.cell 3
  have t4 : w.cell? ⟨b, 4, none⟩ = _ := h.box.cell 4
  have t5 : w.cell? ⟨b, 5, none⟩ = _ := h.box.cell 5
  have f2 := h.box.frozen 2
  have f3 := h.box.frozen 3
  have f4 := h.box.frozen 4
  have f5 := h.box.frozen 5
  simp only [List.getElem?_cons_zero, List.getElem?_cons_succ] at t0 t1 t2 t3 t4 t5
  have HW := Lib.hid h
  have HM := Lib.hid hm
  have HRW := Lib.hid hrw
  have HWW := Lib.hid hww
  clear h hm hc hrw hww
  obtain ⟨q, hq⟩ : ∃ q, wrap64 (r b' + c') = q := ⟨_, rfl⟩
  have hwn : wn = ws.length := by
    obtain ⟨A, c', he, _⟩ := own_form HW.out.words
    injection he
  by_cases hrange : q < 0 ∨ (wn : Int) ≤ q
  · rw [stp_out (by omega) hq (by dsimp only; omega)] at hs
    injection hs with hs1 hs2
    subst hs1 hs2
    have HQ := Lib.hid hq
    clear hwn
    by_cases hneg : q < 0
    · go_enter Tryd.func42, Tryd.ntmps42
      go_wp2
      refine region_first [0, 1, 2, 3, 4, 5, 6, 7, 8, 9] (.cons 10 (seq [11] .nil)) (by kernel_rfl) (by kernel_rfl) ?_
      simp only [pick, List.map_cons, List.map_nil, List.getD_cons_zero, List.getD_cons_succ]
      go_wp2
      refine ord_call (by kernel_rfl) ?_
      simp only [pick, List.map_cons, List.map_nil, List.getD_cons_zero, List.getD_cons_succ]
      go_wp2
      refine ⟨(((Below.refl w.heap.size w).alloc (Nat.le_refl _) _).drew).block, ?_⟩
      refine ord_last [11] (by kernel_rfl) ?_
      simp only [pick, List.map_cons, List.map_nil, List.getD_cons_zero, List.getD_cons_succ]
      go_wp2
      refine region_two [0, 1, 2, 3, 4, 5] [6, 7] (by kernel_rfl) (by kernel_rfl) ?_
      simp only [pick, List.map_cons, List.map_nil, List.getD_cons_zero, List.getD_cons_succ]
      go_wp2_with (at_lookup; go_must (refine wp_look rfl _ _ rfl mb N (r) _ rfl (by repeat first | exact HM.out | (with_reducible refine MI.drew ?_) | (with_reducible refine MI.alloc ?_ _) | (with_reducible refine MI.set ?_ _ (by omega))) rfl HIB.out ?_))
      refine region_two [0, 1, 2, 3, 4, 5] [6, 7] (by kernel_rfl) (by kernel_rfl) ?_
      simp only [pick, List.map_cons, List.map_nil, List.getD_cons_zero, List.getD_cons_succ]
      go_wp2_with (at_lookup; go_must (refine wp_look rfl _ _ rfl mb N (r) _ rfl (by repeat first | exact HM.out | (with_reducible refine MI.drew ?_) | (with_reducible refine MI.alloc ?_ _) | (with_reducible refine MI.set ?_ _ (by omega))) rfl HIC.out ?_))
      refine bodyPost_ret (results_noneV rfl _ _) rfl ?_
      exact ⟨rfl, ⟨_, _, _, (((HW.out.errd _).overd _).alloc _).drew.drew.drew, fun h => absurd h (by decide), fun _ => rfl, .inl rfl⟩, MI.mono (N := N) (by repeat first | exact HM.out | (with_reducible refine MI.drew ?_) | (with_reducible refine MI.alloc ?_ _) | (with_reducible refine MI.set ?_ _ (by omega))) (by omega), (by repeat first | exact h0 | (with_reducible refine Un.drew ?_) | (with_reducible refine Un.alloc ?_ _) | (with_reducible refine un_at ?_ touch_b _ _) | (with_reducible refine un_at ?_ touch_w _ _))⟩
    · have hge : (wn : Int) ≤ q := by omega
      go_enter Tryd.func42, Tryd.ntmps42
      go_wp2
      refine region_first [0, 1, 2, 3, 4, 5, 6, 7, 8, 9] (.cons 10 (seq [11] .nil)) (by kernel_rfl) (by kernel_rfl) ?_
      simp only [pick, List.map_cons, List.map_nil, List.getD_cons_zero, List.getD_cons_succ]
      go_wp2
      refine ord_call (by kernel_rfl) ?_
      simp only [pick, List.map_cons, List.map_nil, List.getD_cons_zero, List.getD_cons_succ]
      go_wp2
      refine ⟨(((Below.refl w.heap.size w).alloc (Nat.le_refl _) _).drew).block, ?_⟩
      refine ord_last [11] (by kernel_rfl) ?_
      simp only [pick, List.map_cons, List.map_nil, List.getD_cons_zero, List.getD_cons_succ]
      go_wp2
      refine region_two [0, 1, 2, 3, 4, 5] [6, 7] (by kernel_rfl) (by kernel_rfl) ?_
      simp only [pick, List.map_cons, List.map_nil, List.getD_cons_zero, List.getD_cons_succ]
      go_wp2_with (at_lookup; go_must (refine wp_look rfl _ _ rfl mb N (r) _ rfl (by repeat first | exact HM.out | (with_reducible refine MI.drew ?_) | (with_reducible refine MI.alloc ?_ _) | (with_reducible refine MI.set ?_ _ (by omega))) rfl HIB.out ?_))
      refine region_two [0, 1, 2, 3, 4, 5] [6, 7] (by kernel_rfl) (by kernel_rfl) ?_
      simp only [pick, List.map_cons, List.map_nil, List.getD_cons_zero, List.getD_cons_succ]
      go_wp2_with (at_lookup; go_must (refine wp_look rfl _ _ rfl mb N (r) _ rfl (by repeat first | exact HM.out | (with_reducible refine MI.drew ?_) | (with_reducible refine MI.alloc ?_ _) | (with_reducible refine MI.set ?_ _ (by omega))) rfl HIC.out ?_))
      refine bodyPost_ret (results_noneV rfl _ _) rfl ?_
      exact ⟨rfl, ⟨_, _, _, (((HW.out.errd _).overd _).alloc _).drew.drew.drew, fun h => absurd h (by decide), fun _ => rfl, .inl rfl⟩, MI.mono (N := N) (by repeat first | exact HM.out | (with_reducible refine MI.drew ?_) | (with_reducible refine MI.alloc ?_ _) | (with_reducible refine MI.set ?_ _ (by omega))) (by omega), (by repeat first | exact h0 | (with_reducible refine Un.drew ?_) | (with_reducible refine Un.alloc ?_ _) | (with_reducible refine un_at ?_ touch_b _ _) | (with_reducible refine un_at ?_ touch_w _ _))⟩
  · obtain ⟨qn, rfl⟩ : ∃ qn : Nat, q = qn := ⟨q.toNat, by omega⟩
    have hqn : qn < wn := by omega
    have hqs : qn < ws.length := by omega
    obtain ⟨g, wc', x, he, hBg, hgs, hgb, gx, HX, fx⟩ := HW.out.some (q := qn) hqs
    injection he with he1 he2 he3
    subst he1 he3
    have hmg : mb ≠ g := by have := HM.out.ne_own HW.out.words; simpa [Value.ownBlock] using this
    have HXI := Lib.hid (HWW.out x (List.mem_of_getElem? HX.out))
    clear hrange
    rw [stp_14 hq hqs] at hs
    injection hs with hs1 hs2
    subst hs1 hs2
    clear hwn he2
    go_enter Tryd.func42, Tryd.ntmps42
    go_wp2
    refine region_first [0, 1, 2, 3, 4, 5, 6, 7, 8, 9] (.cons 10 (seq [11] .nil)) (by kernel_rfl) (by kernel_rfl) ?_
    simp only [pick, List.map_cons, List.map_nil, List.getD_cons_zero, List.getD_cons_succ]
    go_wp2
    refine ord_call (by kernel_rfl) ?_
    simp only [pick, List.map_cons, List.map_nil, List.getD_cons_zero, List.getD_cons_succ]
    go_wp2
    refine ⟨(((Below.refl w.heap.size w).alloc (Nat.le_refl _) _).drew).block, ?_⟩
    refine ord_last [11] (by kernel_rfl) ?_
    simp only [pick, List.map_cons, List.map_nil, List.getD_cons_zero, List.getD_cons_succ]
    go_wp2
    refine region_two [0, 1, 2, 3, 4, 5] [6, 7] (by kernel_rfl) (by kernel_rfl) ?_
    simp only [pick, List.map_cons, List.map_nil, List.getD_cons_zero, List.getD_cons_succ]
    go_wp2_with (at_lookup; go_must (refine wp_look rfl _ _ rfl mb N (r) _ rfl (by repeat first | exact HM.out | (with_reducible refine MI.drew ?_) | (with_reducible refine MI.alloc ?_ _) | (with_reducible refine MI.set ?_ _ (by omega))) rfl HIB.out ?_))
    refine region_two [0, 1, 2, 3, 4, 5] [6, 7] (by kernel_rfl) (by kernel_rfl) ?_
    simp only [pick, List.map_cons, List.map_nil, List.getD_cons_zero, List.getD_cons_succ]
    go_wp2_with (at_lookup; go_must (refine wp_look rfl _ _ rfl mb N (r) _ rfl (by repeat first | exact HM.out | (with_reducible refine MI.drew ?_) | (with_reducible refine MI.alloc ?_ _) | (with_reducible refine MI.set ?_ _ (by omega))) rfl HIC.out ?_))
    refine region_first [0, 1, 2, 3, 4, 5, 6, 7] (.cons 8 (seq [9] (seq [10] .nil))) (by kernel_rfl) (by kernel_rfl) ?_
    simp only [pick, List.map_cons, List.map_nil, List.getD_cons_zero, List.getD_cons_succ]
    go_wp2
    refine ord_call (by kernel_rfl) ?_
    simp only [pick, List.map_cons, List.map_nil, List.getD_cons_zero, List.getD_cons_succ]
    go_wp2_with (at_lookup; go_must (refine wp_look rfl _ _ rfl mb N (r) _ rfl (by repeat first | exact HM.out | (with_reducible refine MI.drew ?_) | (with_reducible refine MI.alloc ?_ _) | (with_reducible refine MI.set ?_ _ (by omega))) rfl HIA.out ?_))
    refine ord_more [9] (seq [10] .nil) (by kernel_rfl) ?_
    simp only [pick, List.map_cons, List.map_nil, List.getD_cons_zero, List.getD_cons_succ]
    go_wp2
    refine ord_last [10] (by kernel_rfl) ?_
    simp only [pick, List.map_cons, List.map_nil, List.getD_cons_zero, List.getD_cons_succ]
    go_wp2
    refine bodyPost_end (v := .tuple #[]) (results_noneV rfl _ _) rfl ?_
    exact ⟨rfl, ⟨_, _, _, ((((HW.out.word rfl (r a')).at_ _).overd _).alloc _).drew.drew.drew.drew, fun _ => ⟨rfl, by simp⟩, fun h => absurd rfl h, .inl rfl⟩, MI.mono (N := N) (by repeat first | exact HM.out | (with_reducible refine MI.drew ?_) | (with_reducible refine MI.alloc ?_ _) | (with_reducible refine MI.set ?_ _ (by omega))) (by omega), (by repeat first | exact h0 | (with_reducible refine Un.drew ?_) | (with_reducible refine Un.alloc ?_ _) | (with_reducible refine un_at ?_ touch_b _ _) | (with_reducible refine un_at ?_ touch_w _ _))⟩

set_option maxRecDepth 100000 in
set_option maxHeartbeats 8000000 in
theorem ref_one15 (w : World) (B Bc b mb N n cc wn wc : Nat) (cA wA : Option Addr) (tv : Value) (l : List Ins) (p : Nat) (r : Int → Int) (ws t : List Int) (s' : Vs) (a' b' c' d' E : Int) (h : Wk w B b mb (.slice cA n cc) tv (.slice wA wn wc) p ws t 0 false) (hm : MI w mb N r) (hN : N < 100000) (hB : B ≤ b) (hBm : B ≤ mb)
    (hc : RO w Bc cA n l) (hBc : Bc ≤ B) (hp : p < n) (hn : n ≤ 200) (hwl : ws.length ≤ 200) (htl : t.length ≤ 200) (hrw : ∀ i, inW (r i)) (hww : ∀ x ∈ ws, inW x) (hx : l[p]? = some ⟨15, a', b', c', d'⟩) (ho : okI n ⟨15, a', b', c', d'⟩) (hi : inI ⟨15, a', b', c', d'⟩) (hs : stp n ⟨15, a', b', c', d'⟩ ⟨p, r, ws, t⟩ = (s', E)) :
    Calls Tryd.prog 42 #[.pointer (some ⟨b, 0, none⟩), .slice wA wn wc] w (OnPost B b mb N n (.slice cA n cc) tv (.slice wA wn wc) s' E w) := by
  have HO := Lib.hid ho
  have HIA := Lib.hid hi.2.1
  have HIB := Lib.hid hi.2.2.1
  have HIC := Lib.hid hi.2.2.2.1
  have HID := Lib.hid hi.2.2.2.2
  dsimp only at HIA HIB HIC HID
  clear ho hi
  obtain ⟨bc, oc, k0, x0, y0, z0, u0, rfl, hbc, c0, c1, c2, c3, c4, HX, hmem⟩ := hc.val hp
  have hX := HX.out
  rw [hx] at hX
  simp only [Option.some.injEq, Ins.mk.injEq] at hX
  obtain ⟨rfl, rfl, rfl, rfl, rfl⟩ := hX
  clear hx HX hmem
  have h0 : Un (touch b mb tv (.slice wA wn wc)) w w := Un.refl _ _
  have hlt := h.lt
  have hmlt := hm.lt
  have hbm : mb ≠ b := hm.ne h.box
  have hBs : B ≤ w.heap.size := by omega
  have hcs : bc < w.heap.size := by omega
  have hcb : bc ≠ b := by omega
  have t0 : w.cell? ⟨b, 0, none⟩ = _ := h.box.cell 0
  have t1 : w.cell? ⟨b, 1, none⟩ = _ := h.box.cell 1
  have t2 : w.cell? ⟨b, 2, none⟩ = _ := h.box.cell 2
  have t3 : w.cell? ⟨b, 3, none⟩ = _ := h.box.cell 3
  have t4 : w.cell? ⟨b, 4, none⟩ = _ := h.box.cell 4
  have t5 : w.cell? ⟨b, 5, none⟩ = _ := h.box.cell 5
  have f2 := h.box.frozen 2
  have f3 := h.box.frozen 3
  have f4 := h.box.frozen 4
  have f5 := h.box.frozen 5
  simp only [List.getElem?_cons_zero, List.getElem?_cons_succ] at t0 t1 t2 t3 t4 t5
  have HW := Lib.hid h
  have HM := Lib.hid hm
  have HRW := Lib.hid hrw
  have HWW := Lib.hid hww
  clear h hm hc hrw hww
  obtain ⟨q, hq⟩ : ∃ q, wrap64 (r b' + c') = q := ⟨_, rfl⟩
  have hwn : wn = ws.length := by
    obtain ⟨A, c', he, _⟩ := own_form HW.out.words
    injection he
  by_cases hrange : q < 0 ∨ (wn : Int) ≤ q
  · rw [stp_out (by omega) hq (by dsimp only; omega)] at hs
    injection hs with hs1 hs2
    subst hs1 hs2
    have HQ := Lib.hid hq
    clear hwn
    by_cases hneg : q < 0
    · go_enter Tryd.func42, Tryd.ntmps42
      go_wp2
      refine region_first [0, 1, 2, 3, 4, 5, 6, 7, 8, 9] (.cons 10 (seq [11] .nil)) (by kernel_rfl) (by kernel_rfl) ?_
      simp only [pick, List.map_cons, List.map_nil, List.getD_cons_zero, List.getD_cons_succ]
      go_wp2
      refine ord_call (by kernel_rfl) ?_
      simp only [pick, List.map_cons, List.map_nil, List.getD_cons_zero, List.getD_cons_succ]
      go_wp2
      refine ⟨(((Below.refl w.heap.size w).alloc (Nat.le_refl _) _).drew).block, ?_⟩
      refine ord_last [11] (by kernel_rfl) ?_
      simp only [pick, List.map_cons, List.map_nil, List.getD_cons_zero, List.getD_cons_succ]
      go_wp2
      refine region_two [0, 1, 2, 3, 4, 5] [6, 7] (by kernel_rfl) (by kernel_rfl) ?_
      simp only [pick, List.map_cons, List.map_nil, List.getD_cons_zero, List.getD_cons_succ]
      go_wp2_with (at_lookup; go_must (refine wp_look rfl _ _ rfl mb N (r) _ rfl (by repeat first | exact HM.out | (with_reducible refine MI.drew ?_) | (with_reducible refine MI.alloc ?_ _) | (with_reducible refine MI.set ?_ _ (by omega))) rfl HIB.out ?_))
      refine region_two [0, 1, 2, 3, 4, 5] [6, 7] (by kernel_rfl) (by kernel_rfl) ?_
      simp only [pick, List.map_cons, List.map_nil, List.getD_cons_zero, List.getD_cons_succ]
      go_wp2_with (at_lookup; go_must (refine wp_look rfl _ _ rfl mb N (r) _ rfl (by repeat first | exact HM.out | (with_reducible refine MI.drew ?_) | (with_reducible refine MI.alloc ?_ _) | (with_reducible refine MI.set ?_ _ (by omega))) rfl HIC.out ?_))
      refine bodyPost_ret (results_noneV rfl _ _) rfl ?_
      exact ⟨rfl, ⟨_, _, _, (((HW.out.errd _).overd _).alloc _).drew.drew.drew, fun h => absurd h (by decide), fun _ => rfl, .inl rfl⟩, MI.mono (N := N) (by repeat first | exact HM.out | (with_reducible refine MI.drew ?_) | (with_reducible refine MI.alloc ?_ _) | (with_reducible refine MI.set ?_ _ (by omega))) (by omega), (by repeat first | exact h0 | (with_reducible refine Un.drew ?_) | (with_reducible refine Un.alloc ?_ _) | (with_reducible refine un_at ?_ touch_b _ _) | (with_reducible refine un_at ?_ touch_w _ _))⟩
    · have hge : (wn : Int) ≤ q := by omega
      go_enter Tryd.func42, Tryd.ntmps42
      go_wp2
      refine region_first [0, 1, 2, 3, 4, 5, 6, 7, 8, 9] (.cons 10 (seq [11] .nil)) (by kernel_rfl) (by kernel_rfl) ?_
      simp only [pick, List.map_cons, List.map_nil, List.getD_cons_zero, List.getD_cons_succ]
      go_wp2
      refine ord_call (by kernel_rfl) ?_
      simp only [pick, List.map_cons, List.map_nil, List.getD_cons_zero, List.getD_cons_succ]
      go_wp2
      refine ⟨(((Below.refl w.heap.size w).alloc (Nat.le_refl _) _).drew).block, ?_⟩
      refine ord_last [11] (by kernel_rfl) ?_
      simp only [pick, List.map_cons, List.map_nil, List.getD_cons_zero, List.getD_cons_succ]
      go_wp2
      refine region_two [0, 1, 2, 3, 4, 5] [6, 7] (by kernel_rfl) (by kernel_rfl) ?_
      simp only [pick, List.map_cons, List.map_nil, List.getD_cons_zero, List.getD_cons_succ]
      go_wp2_with (at_lookup; go_must (refine wp_look rfl _ _ rfl mb N (r) _ rfl (by repeat first | exact HM.out | (with_reducible refine MI.drew ?_) | (with_reducible refine MI.alloc ?_ _) | (with_reducible refine MI.set ?_ _ (by omega))) rfl HIB.out ?_))
      refine region_two [0, 1, 2, 3, 4, 5] [6, 7] (by kernel_rfl) (by kernel_rfl) ?_
      simp only [pick, List.map_cons, List.map_nil, List.getD_cons_zero, List.getD_cons_succ]
      go_wp2_with (at_lookup; go_must (refine wp_look rfl _ _ rfl mb N (r) _ rfl (by repeat first | exact HM.out | (with_reducible refine MI.drew ?_) | (with_reducible refine MI.alloc ?_ _) | (with_reducible refine MI.set ?_ _ (by omega))) rfl HIC.out ?_))
      refine bodyPost_ret (results_noneV rfl _ _) rfl ?_
      exact ⟨rfl, ⟨_, _, _, (((HW.out.errd _).overd _).alloc _).drew.drew.drew, fun h => absurd h (by decide), fun _ => rfl, .inl rfl⟩, MI.mono (N := N) (by repeat first | exact HM.out | (with_reducible refine MI.drew ?_) | (with_reducible refine MI.alloc ?_ _) | (with_reducible refine MI.set ?_ _ (by omega))) (by omega), (by repeat first | exact h0 | (with_reducible refine Un.drew ?_) | (with_reducible refine Un.alloc ?_ _) | (with_reducible refine un_at ?_ touch_b _ _) | (with_reducible refine un_at ?_ touch_w _ _))⟩
  · obtain ⟨qn, rfl⟩ : ∃ qn : Nat, q = qn := ⟨q.toNat, by omega⟩
    have hqn : qn < wn := by omega
    have hqs : qn < ws.length := by omega
    obtain ⟨g, wc', x, he, hBg, hgs, hgb, gx, HX, fx⟩ := HW.out.some (q := qn) hqs
    injection he with he1 he2 he3
    subst he1 he3
    have hmg : mb ≠ g := by have := HM.out.ne_own HW.out.words; simpa [Value.ownBlock] using this
    have HXI := Lib.hid (HWW.out x (List.mem_of_getElem? HX.out))
    clear hrange
    by_cases hsame : x = r d'
    · rw [stp_15t hq HX.out hsame] at hs
      injection hs with hs1 hs2
      subst hs1 hs2
      have hv : (x == r d') = true := by simp [hsame]
      clear hwn he2 hsame
      go_enter Tryd.func42, Tryd.ntmps42
      go_wp2
      refine region_first [0, 1, 2, 3, 4, 5, 6, 7, 8, 9] (.cons 10 (seq [11] .nil)) (by kernel_rfl) (by kernel_rfl) ?_
      simp only [pick, List.map_cons, List.map_nil, List.getD_cons_zero, List.getD_cons_succ]
      go_wp2
      refine ord_call (by kernel_rfl) ?_
      simp only [pick, List.map_cons, List.map_nil, List.getD_cons_zero, List.getD_cons_succ]
      go_wp2
      refine ⟨(((Below.refl w.heap.size w).alloc (Nat.le_refl _) _).drew).block, ?_⟩
      refine ord_last [11] (by kernel_rfl) ?_
      simp only [pick, List.map_cons, List.map_nil, List.getD_cons_zero, List.getD_cons_succ]
      go_wp2
      refine region_two [0, 1, 2, 3, 4, 5] [6, 7] (by kernel_rfl) (by kernel_rfl) ?_
      simp only [pick, List.map_cons, List.map_nil, List.getD_cons_zero, List.getD_cons_succ]
      go_wp2_with (at_lookup; go_must (refine wp_look rfl _ _ rfl mb N (r) _ rfl (by repeat first | exact HM.out | (with_reducible refine MI.drew ?_) | (with_reducible refine MI.alloc ?_ _) | (with_reducible refine MI.set ?_ _ (by omega))) rfl HIB.out ?_))
      refine region_two [0, 1, 2, 3, 4, 5] [6, 7] (by kernel_rfl) (by kernel_rfl) ?_
      simp only [pick, List.map_cons, List.map_nil, List.getD_cons_zero, List.getD_cons_succ]
      go_wp2_with (at_lookup; go_must (refine wp_look rfl _ _ rfl mb N (r) _ rfl (by repeat first | exact HM.out | (with_reducible refine MI.drew ?_) | (with_reducible refine MI.alloc ?_ _) | (with_reducible refine MI.set ?_ _ (by omega))) rfl HIC.out ?_))
      refine region_first [0, 1, 2, 3, 4, 5, 6, 7, 8, 9] (.cons 10 (seq [11] .nil)) (by kernel_rfl) (by kernel_rfl) ?_
      simp only [pick, List.map_cons, List.map_nil, List.getD_cons_zero, List.getD_cons_succ]
      go_wp2
      refine ord_call (by kernel_rfl) ?_
      simp only [pick, List.map_cons, List.map_nil, List.getD_cons_zero, List.getD_cons_succ]
      go_wp2_with (at_lookup; go_must (refine wp_look rfl _ _ rfl mb N (r) _ rfl (by repeat first | exact HM.out | (with_reducible refine MI.drew ?_) | (with_reducible refine MI.alloc ?_ _) | (with_reducible refine MI.set ?_ _ (by omega))) rfl HID.out ?_))
      refine ord_more [11] .nil (by kernel_rfl) ?_
      simp only [pick, List.map_cons, List.map_nil, List.getD_cons_zero, List.getD_cons_succ]
      go_wp2
      refine ord_done ?_
      go_wp2
      refine region_first [0, 1, 2, 3, 4, 5, 6, 7] (.cons 8 (seq [9] (seq [10] .nil))) (by kernel_rfl) (by kernel_rfl) ?_
      simp only [pick, List.map_cons, List.map_nil, List.getD_cons_zero, List.getD_cons_succ]
      go_wp2
      refine ord_call (by kernel_rfl) ?_
      simp only [pick, List.map_cons, List.map_nil, List.getD_cons_zero, List.getD_cons_succ]
      go_wp2_with (at_lookup; go_must (refine wp_look rfl _ _ rfl mb N (r) _ rfl (by repeat first | exact HM.out | (with_reducible refine MI.drew ?_) | (with_reducible refine MI.alloc ?_ _) | (with_reducible refine MI.set ?_ _ (by omega))) rfl HIA.out ?_))
      refine ord_more [9] (seq [10] .nil) (by kernel_rfl) ?_
      simp only [pick, List.map_cons, List.map_nil, List.getD_cons_zero, List.getD_cons_succ]
      go_wp2
      refine ord_last [10] (by kernel_rfl) ?_
      simp only [pick, List.map_cons, List.map_nil, List.getD_cons_zero, List.getD_cons_succ]
      go_wp2
      refine region_two [0, 1, 2, 3, 4, 5] [6] (by kernel_rfl) (by kernel_rfl) ?_
      simp only [pick, List.map_cons, List.map_nil, List.getD_cons_zero, List.getD_cons_succ]
      go_wp2_with (at_mapUpdate; go_must (refine wp_upd rfl rfl _ _ _ rfl mb (N) (r) _ _ rfl (by repeat first | exact HM.out | (with_reducible refine MI.drew ?_) | (with_reducible refine MI.alloc ?_ _) | (with_reducible refine MI.set ?_ _ (by omega))) rfl rfl HIA.out (by unfold inW; omega) (by omega) ?_); intro w1 HM1 hg1; have HW1 : Hid (Wk w1 B b mb (.slice (some ⟨bc, oc, none⟩) n cc) tv (.slice (some ⟨g, 0, none⟩) wn wc) p (ws.set qn (r a')) t 0 false) := Wk.map (N := N) (r := r) (by repeat first | exact HW.out.word rfl (r a') | (with_reducible refine Wk.drew ?_) | (with_reducible refine Wk.alloc ?_ _)) (by repeat first | exact HM.out | (with_reducible refine MI.drew ?_) | (with_reducible refine MI.alloc ?_ _) | (with_reducible refine MI.set ?_ _ (by omega))) hg1; have hb1 : Un (touch b mb tv (.slice (some ⟨g, 0, none⟩) wn wc)) w w1 := un_set (by repeat first | exact h0 | (with_reducible refine Un.drew ?_) | (with_reducible refine Un.alloc ?_ _) | (with_reducible refine un_at ?_ touch_b _ _) | (with_reducible refine un_at ?_ touch_w _ _)) hg1 (.inr (.inl rfl)); have hs1 := hg1.size; have d10 : w1.cell? ⟨b, 0, none⟩ = _ := HW1.out.box.cell 0; have d11 : w1.cell? ⟨b, 1, none⟩ = _ := HW1.out.box.cell 1; have d12 : w1.cell? ⟨b, 2, none⟩ = _ := HW1.out.box.cell 2; have d15 : w1.cell? ⟨b, 5, none⟩ = _ := HW1.out.box.cell 5; simp only [List.getElem?_cons_zero, List.getElem?_cons_succ] at d10 d11 d12 d15; have g12 := HW1.out.box.frozen 2; have g15 := HW1.out.box.frozen 5; have l1 := HW1.out.lt)
      refine bodyPost_end (v := .tuple #[]) (results_noneV rfl _ _) rfl ?_
      exact ⟨rfl, ⟨_, _, _, ((HW1.out.at_ _).overd _), fun _ => ⟨rfl, by simp⟩, fun h => absurd rfl h, .inl rfl⟩, ((HM1.out.mono (by omega)).set _ hbm).set _ hbm, un_at (un_at hb1 (.inl rfl) _ _) (.inl rfl) _ _⟩
    · rw [stp_15f hq HX.out hsame] at hs
      injection hs with hs1 hs2
      subst hs1 hs2
      have hv : (x == r d') = false := by simp [hsame]
      clear hwn he2 hsame
      go_enter Tryd.func42, Tryd.ntmps42
      go_wp2
      refine region_first [0, 1, 2, 3, 4, 5, 6, 7, 8, 9] (.cons 10 (seq [11] .nil)) (by kernel_rfl) (by kernel_rfl) ?_
      simp only [pick, List.map_cons, List.map_nil, List.getD_cons_zero, List.getD_cons_succ]
      go_wp2
      refine ord_call (by kernel_rfl) ?_
      simp only [pick, List.map_cons, List.map_nil, List.getD_cons_zero, List.getD_cons_succ]
      go_wp2
      refine ⟨(((Below.refl w.heap.size w).alloc (Nat.le_refl _) _).drew).block, ?_⟩
      refine ord_last [11] (by kernel_rfl) ?_
      simp only [pick, List.map_cons, List.map_nil, List.getD_cons_zero, List.getD_cons_succ]
      go_wp2
      refine region_two [0, 1, 2, 3, 4, 5] [6, 7] (by kernel_rfl) (by kernel_rfl) ?_
      simp only [pick, List.map_cons, List.map_nil, List.getD_cons_zero, List.getD_cons_succ]
      go_wp2_with (at_lookup; go_must (refine wp_look rfl _ _ rfl mb N (r) _ rfl (by repeat first | exact HM.out | (with_reducible refine MI.drew ?_) | (with_reducible refine MI.alloc ?_ _) | (with_reducible refine MI.set ?_ _ (by omega))) rfl HIB.out ?_))
      refine region_two [0, 1, 2, 3, 4, 5] [6, 7] (by kernel_rfl) (by kernel_rfl) ?_
      simp only [pick, List.map_cons, List.map_nil, List.getD_cons_zero, List.getD_cons_succ]
      go_wp2_with (at_lookup; go_must (refine wp_look rfl _ _ rfl mb N (r) _ rfl (by repeat first | exact HM.out | (with_reducible refine MI.drew ?_) | (with_reducible refine MI.alloc ?_ _) | (with_reducible refine MI.set ?_ _ (by omega))) rfl HIC.out ?_))
      refine region_first [0, 1, 2, 3, 4, 5, 6, 7, 8, 9] (.cons 10 (seq [11] .nil)) (by kernel_rfl) (by kernel_rfl) ?_
      simp only [pick, List.map_cons, List.map_nil, List.getD_cons_zero, List.getD_cons_succ]
      go_wp2
      refine ord_call (by kernel_rfl) ?_
      simp only [pick, List.map_cons, List.map_nil, List.getD_cons_zero, List.getD_cons_succ]
      go_wp2_with (at_lookup; go_must (refine wp_look rfl _ _ rfl mb N (r) _ rfl (by repeat first | exact HM.out | (with_reducible refine MI.drew ?_) | (with_reducible refine MI.alloc ?_ _) | (with_reducible refine MI.set ?_ _ (by omega))) rfl HID.out ?_))
      refine ord_more [11] .nil (by kernel_rfl) ?_
      simp only [pick, List.map_cons, List.map_nil, List.getD_cons_zero, List.getD_cons_succ]
      go_wp2
      refine ord_done ?_
      go_wp2
      refine region_two [0, 1, 2, 3, 4, 5] [6] (by kernel_rfl) (by kernel_rfl) ?_
      simp only [pick, List.map_cons, List.map_nil, List.getD_cons_zero, List.getD_cons_succ]
      go_wp2_with (at_mapUpdate; go_must (refine wp_upd rfl rfl _ _ _ rfl mb (N) (r) _ _ rfl (by repeat first | exact HM.out | (with_reducible refine MI.drew ?_) | (with_reducible refine MI.alloc ?_ _) | (with_reducible refine MI.set ?_ _ (by omega))) rfl rfl HIA.out (by unfold inW; omega) (by omega) ?_); intro w1 HM1 hg1; have HW1 : Hid (Wk w1 B b mb (.slice (some ⟨bc, oc, none⟩) n cc) tv (.slice (some ⟨g, 0, none⟩) wn wc) p ws t 0 false) := Wk.map (N := N) (r := r) (by repeat first | exact HW.out | (with_reducible refine Wk.drew ?_) | (with_reducible refine Wk.alloc ?_ _)) (by repeat first | exact HM.out | (with_reducible refine MI.drew ?_) | (with_reducible refine MI.alloc ?_ _) | (with_reducible refine MI.set ?_ _ (by omega))) hg1; have hb1 : Un (touch b mb tv (.slice (some ⟨g, 0, none⟩) wn wc)) w w1 := un_set (by repeat first | exact h0 | (with_reducible refine Un.drew ?_) | (with_reducible refine Un.alloc ?_ _) | (with_reducible refine un_at ?_ touch_b _ _) | (with_reducible refine un_at ?_ touch_w _ _)) hg1 (.inr (.inl rfl)); have hs1 := hg1.size; have d10 : w1.cell? ⟨b, 0, none⟩ = _ := HW1.out.box.cell 0; have d11 : w1.cell? ⟨b, 1, none⟩ = _ := HW1.out.box.cell 1; have d12 : w1.cell? ⟨b, 2, none⟩ = _ := HW1.out.box.cell 2; have d15 : w1.cell? ⟨b, 5, none⟩ = _ := HW1.out.box.cell 5; simp only [List.getElem?_cons_zero, List.getElem?_cons_succ] at d10 d11 d12 d15; have g12 := HW1.out.box.frozen 2; have g15 := HW1.out.box.frozen 5; have l1 := HW1.out.lt)
      refine bodyPost_end (v := .tuple #[]) (results_noneV rfl _ _) rfl ?_
      exact ⟨rfl, ⟨_, _, _, ((HW1.out.at_ _).overd _), fun _ => ⟨rfl, by simp⟩, fun h => absurd rfl h, .inl rfl⟩, ((HM1.out.mono (by omega)).set _ hbm).set _ hbm, un_at (un_at hb1 (.inl rfl) _ _) (.inl rfl) _ _⟩

set_option maxRecDepth 100000 in
set_option maxHeartbeats 8000000 in
theorem ref_one16 (w : World) (B Bc b mb N n cc wn wc : Nat) (cA wA : Option Addr) (tv : Value) (l : List Ins) (p : Nat) (r : Int → Int) (ws t : List Int) (s' : Vs) (a' b' c' d' E : Int) (h : Wk w B b mb (.slice cA n cc) tv (.slice wA wn wc) p ws t 0 false) (hm : MI w mb N r) (hN : N < 100000) (hB : B ≤ b) (hBm : B ≤ mb)
    (hc : RO w Bc cA n l) (hBc : Bc ≤ B) (hp : p < n) (hn : n ≤ 200) (hwl : ws.length ≤ 200) (htl : t.length ≤ 200) (hrw : ∀ i, inW (r i)) (hww : ∀ x ∈ ws, inW x) (hx : l[p]? = some ⟨16, a', b', c', d'⟩) (ho : okI n ⟨16, a', b', c', d'⟩) (hi : inI ⟨16, a', b', c', d'⟩) (hs : stp n ⟨16, a', b', c', d'⟩ ⟨p, r, ws, t⟩ = (s', E)) :
    Calls Tryd.prog 42 #[.pointer (some ⟨b, 0, none⟩), .slice wA wn wc] w (OnPost B b mb N n (.slice cA n cc) tv (.slice wA wn wc) s' E w) := by
  have HO := Lib.hid ho
  have HIA := Lib.hid hi.2.1
  have HIB := Lib.hid hi.2.2.1
  have HIC := Lib.hid hi.2.2.2.1
  have HID := Lib.hid hi.2.2.2.2
  dsimp only at HIA HIB HIC HID
  clear ho hi
  obtain ⟨bc, oc, k0, x0, y0, z0, u0, rfl, hbc, c0, c1, c2, c3, c4, HX, hmem⟩ := hc.val hp
  have hX := HX.out
  rw [hx] at hX
  simp only [Option.some.injEq, Ins.mk.injEq] at hX
  obtain ⟨rfl, rfl, rfl, rfl, rfl⟩ := hX
  clear hx HX hmem
  have h0 : Un (touch b mb tv (.slice wA wn wc)) w w := Un.refl _ _
  have hlt := h.lt
  have hmlt := hm.lt
  have hbm : mb ≠ b := hm.ne h.box
  have hBs : B ≤ w.heap.size := by omega
  have hcs : bc < w.heap.size := by omega
  have hcb : bc ≠ b := by omega
  have t0 : w.cell? ⟨b, 0, none⟩ = _ := h.box.cell 0
  have t1 : w.cell? ⟨b, 1, none⟩ = _ := h.box.cell 1
  have t2 : w.cell? ⟨b, 2, none⟩ = _ := h.box.cell 2
  have t3 : w.cell? ⟨b, 3, none⟩ = _ := h.box.cell 3
  have t4 : w.cell? ⟨b, 4, none⟩ = _ := h.box.cell 4
  have t5 : w.cell? ⟨b, 5, none⟩ = _ := h.box.cell 5
  have f2 := h.box.frozen 2
  have f3 := h.box.frozen 3
  have f4 := h.box.frozen 4
  have f5 := h.box.frozen 5
  simp only [List.getElem?_cons_zero, List.getElem?_cons_succ] at t0 t1 t2 t3 t4 t5
  have HW := Lib.hid h
  have HM := Lib.hid hm
  have HRW := Lib.hid hrw
  have HWW := Lib.hid hww
  clear h hm hc hrw hww
  rw [stp_16] at hs
  dsimp only at hs
  obtain ⟨At, ct, rfl, hlct⟩ := own_form HW.out.told
  obtain ⟨m, hmt⟩ : ∃ m, m = t.length := ⟨_, rfl⟩
  rw [← hmt] at t3 hlct HW h0 ⊢
  have HMT := Lib.hid hmt
  by_cases hfull : t.length = 200
  · rw [if_pos hfull] at hs
    injection hs with hs1 hs2
    subst hs1 hs2
    have hge : ¬ m < 200 := by omega
    clear hmt hfull
    go_enter Tryd.func42, Tryd.ntmps42
    go_wp2
    refine region_first [0, 1, 2, 3, 4, 5, 6, 7, 8, 9] (.cons 10 (seq [11] .nil)) (by kernel_rfl) (by kernel_rfl) ?_
    simp only [pick, List.map_cons, List.map_nil, List.getD_cons_zero, List.getD_cons_succ]
    go_wp2
    refine ord_call (by kernel_rfl) ?_
    simp only [pick, List.map_cons, List.map_nil, List.getD_cons_zero, List.getD_cons_succ]
    go_wp2
    refine ⟨(((Below.refl w.heap.size w).alloc (Nat.le_refl _) _).drew).block, ?_⟩
    refine ord_last [11] (by kernel_rfl) ?_
    simp only [pick, List.map_cons, List.map_nil, List.getD_cons_zero, List.getD_cons_succ]
    go_wp2
    refine region_two [0, 1, 2, 3, 4, 5] [6, 7] (by kernel_rfl) (by kernel_rfl) ?_
    simp only [pick, List.map_cons, List.map_nil, List.getD_cons_zero, List.getD_cons_succ]
    go_wp2_with (at_lookup; go_must (refine wp_look rfl _ _ rfl mb N (r) _ rfl (by repeat first | exact HM.out | (with_reducible refine MI.drew ?_) | (with_reducible refine MI.alloc ?_ _) | (with_reducible refine MI.set ?_ _ (by omega))) rfl HIB.out ?_))
    refine region_two [0, 1, 2, 3, 4, 5] [6, 7] (by kernel_rfl) (by kernel_rfl) ?_
    simp only [pick, List.map_cons, List.map_nil, List.getD_cons_zero, List.getD_cons_succ]
    go_wp2_with (at_lookup; go_must (refine wp_look rfl _ _ rfl mb N (r) _ rfl (by repeat first | exact HM.out | (with_reducible refine MI.drew ?_) | (with_reducible refine MI.alloc ?_ _) | (with_reducible refine MI.set ?_ _ (by omega))) rfl HIC.out ?_))
    refine bodyPost_ret (results_noneV rfl _ _) rfl ?_
    exact ⟨rfl, ⟨_, _, _, (((HW.out.errd _).overd _).alloc _).drew.drew.drew, fun h => absurd h (by decide), fun _ => rfl, .inl rfl⟩, MI.mono (N := N) (by repeat first | exact HM.out | (with_reducible refine MI.drew ?_) | (with_reducible refine MI.alloc ?_ _) | (with_reducible refine MI.set ?_ _ (by omega))) (by omega), (by repeat first | exact h0 | (with_reducible refine Un.drew ?_) | (with_reducible refine Un.alloc ?_ _) | (with_reducible refine un_at ?_ touch_b _ _) | (with_reducible refine un_at ?_ touch_w _ _))⟩
  · rw [if_neg hfull] at hs
    injection hs with hs1 hs2
    subst hs1 hs2
    have hge : m < 200 := by omega
    have htold := HW.out.told
    rw [← hmt] at htold
    clear hmt hfull
    go_enter Tryd.func42, Tryd.ntmps42
    go_wp2
    refine region_first [0, 1, 2, 3, 4, 5, 6, 7, 8, 9] (.cons 10 (seq [11] .nil)) (by kernel_rfl) (by kernel_rfl) ?_
    simp only [pick, List.map_cons, List.map_nil, List.getD_cons_zero, List.getD_cons_succ]
    go_wp2
    refine ord_call (by kernel_rfl) ?_
    simp only [pick, List.map_cons, List.map_nil, List.getD_cons_zero, List.getD_cons_succ]
    go_wp2
    refine ⟨(((Below.refl w.heap.size w).alloc (Nat.le_refl _) _).drew).block, ?_⟩
    refine ord_last [11] (by kernel_rfl) ?_
    simp only [pick, List.map_cons, List.map_nil, List.getD_cons_zero, List.getD_cons_succ]
    go_wp2
    refine region_two [0, 1, 2, 3, 4, 5] [6, 7] (by kernel_rfl) (by kernel_rfl) ?_
    simp only [pick, List.map_cons, List.map_nil, List.getD_cons_zero, List.getD_cons_succ]
    go_wp2_with (at_lookup; go_must (refine wp_look rfl _ _ rfl mb N (r) _ rfl (by repeat first | exact HM.out | (with_reducible refine MI.drew ?_) | (with_reducible refine MI.alloc ?_ _) | (with_reducible refine MI.set ?_ _ (by omega))) rfl HIB.out ?_))
    refine region_two [0, 1, 2, 3, 4, 5] [6, 7] (by kernel_rfl) (by kernel_rfl) ?_
    simp only [pick, List.map_cons, List.map_nil, List.getD_cons_zero, List.getD_cons_succ]
    go_wp2_with (at_lookup; go_must (refine wp_look rfl _ _ rfl mb N (r) _ rfl (by repeat first | exact HM.out | (with_reducible refine MI.drew ?_) | (with_reducible refine MI.alloc ?_ _) | (with_reducible refine MI.set ?_ _ (by omega))) rfl HIC.out ?_))
    refine region_first [0, 1, 2, 3, 4, 5, 6, 7, 8, 9, 10] (.cons 11 (.cons 12 (.cons 13 (seq [14, 15] (seq [16] .nil))))) (by kernel_rfl) (by kernel_rfl) ?_
    simp only [pick, List.map_cons, List.map_nil, List.getD_cons_zero, List.getD_cons_succ]
    go_wp2
    refine ord_call (by kernel_rfl) ?_
    simp only [pick, List.map_cons, List.map_nil, List.getD_cons_zero, List.getD_cons_succ]
    go_wp2_with (at_lookup; go_must (refine wp_look rfl _ _ rfl mb N (r) _ rfl (by repeat first | exact HM.out | (with_reducible refine MI.drew ?_) | (with_reducible refine MI.alloc ?_ _) | (with_reducible refine MI.set ?_ _ (by omega))) rfl HIA.out ?_))
    refine ord_call (by kernel_rfl) ?_
    simp only [pick, List.map_cons, List.map_nil, List.getD_cons_zero, List.getD_cons_succ]
    go_wp2
    refine ⟨fun k hk => Below.heap_alloc (w.alloc _) _ k hk, ?_⟩
    refine ord_fin (by kernel_rfl) ?_
    simp only [pick, List.map_cons, List.map_nil, List.getD_cons_zero, List.getD_cons_succ]
    go_wp2_with (at_builtin; go_must (refine app_srcB eltIntR _ rfl _ _ rfl B (.slice At m ct) m _ rfl (by exact (htold.alloc _).alloc _) _ 1 1 [.int .i64 (r a')] rfl (w.heap.size + 1 + 1) (by exact Rd.heap (RI_litV (w.alloc (.cells #[.int .i64 16, .int .i64 a', .int .i64 b', .int .i64 c', .int .i64 d'] 37)) 3 .i64 [r a'] 1 (w.heap.size + 1) (by simp) rfl) rfl) (by simp [Value.oneCell']) (by omega) (by omega) (by simp; omega) ?_); intro v' w1 hown1 hg1 hb1 hs1 hblk; obtain ⟨A1, c1', rfl, hlc1⟩ := own_form hown1; have hg2 : ((w.alloc (.cells #[.int .i64 16, .int .i64 a', .int .i64 b', .int .i64 c', .int .i64 d'] 37)).alloc (.cells #[.int .i64 (r a')] 3)).grownBy w1 (Value.slice At m ct).ownBlock := ⟨hg1.os, hg1.tape, hg1.output, hg1.size, hg1.block⟩; obtain ⟨hbx, hwk⟩ := (HW.out.alloc (.cells #[.int .i64 16, .int .i64 a', .int .i64 b', .int .i64 c', .int .i64 d'] 37)).tell hg2 hown1 (by rw [HMT.out]) hblk; have HM1 := Lib.hid (((HM.out.alloc _).alloc _).kept hg2 (HM.out.ne_own HW.out.told)); have d10 : w1.cell? ⟨b, 0, none⟩ = _ := hbx.cell 0; have d12 : w1.cell? ⟨b, 2, none⟩ = _ := hbx.cell 2; have d13 : w1.cell? ⟨b, 3, none⟩ = _ := hbx.cell 3; have d15 : w1.cell? ⟨b, 5, none⟩ = _ := hbx.cell 5; simp only [List.getElem?_cons_zero, List.getElem?_cons_succ] at d10 d12 d13 d15; have g12 := hbx.frozen 2; have g13 := hbx.frozen 3; have g15 := hbx.frozen 5; have l1 := hbx.lt; have hbb : Un (touch b mb (.slice At m ct) (.slice wA wn wc)) w w1 := un_grown (((Un.refl _ w).alloc _).alloc _) hg2 (fun k h => .inr (.inr (.inl h.symm))); clear hbx)
    refine ord_more [14, 15] (seq [16] .nil) (by kernel_rfl) ?_
    simp only [pick, List.map_cons, List.map_nil, List.getD_cons_zero, List.getD_cons_succ]
    go_wp2
    refine ord_last [16] (by kernel_rfl) ?_
    simp only [pick, List.map_cons, List.map_nil, List.getD_cons_zero, List.getD_cons_succ]
    go_wp2
    refine bodyPost_end (v := .tuple #[]) (results_noneV rfl _ _) rfl ?_
    exact ⟨rfl, ⟨_, _, _, ((hwk.at_ _).overd _), fun _ => ⟨rfl, by simp⟩, fun h => absurd rfl h, hblk.elim .inl (fun h => .inr ⟨_, h, by simp; omega⟩)⟩, (((HM1.out.mono (by omega)).set _ hbm).set _ hbm).set _ hbm, un_at (un_at (un_at hbb (.inl rfl) _ _) (.inl rfl) _ _) (.inl rfl) _ _⟩

set_option maxRecDepth 100000 in
set_option maxHeartbeats 8000000 in
theorem ref_one17 (w : World) (B Bc b mb N n cc wn wc : Nat) (cA wA : Option Addr) (tv : Value) (l : List Ins) (p : Nat) (r : Int → Int) (ws t : List Int) (s' : Vs) (a' b' c' d' E : Int) (h : Wk w B b mb (.slice cA n cc) tv (.slice wA wn wc) p ws t 0 false) (hm : MI w mb N r) (hN : N < 100000) (hB : B ≤ b) (hBm : B ≤ mb)
    (hc : RO w Bc cA n l) (hBc : Bc ≤ B) (hp : p < n) (hn : n ≤ 200) (hwl : ws.length ≤ 200) (htl : t.length ≤ 200) (hrw : ∀ i, inW (r i)) (hww : ∀ x ∈ ws, inW x) (hx : l[p]? = some ⟨17, a', b', c', d'⟩) (ho : okI n ⟨17, a', b', c', d'⟩) (hi : inI ⟨17, a', b', c', d'⟩) (hs : stp n ⟨17, a', b', c', d'⟩ ⟨p, r, ws, t⟩ = (s', E)) :
    Calls Tryd.prog 42 #[.pointer (some ⟨b, 0, none⟩), .slice wA wn wc] w (OnPost B b mb N n (.slice cA n cc) tv (.slice wA wn wc) s' E w) := by
  have HO := Lib.hid ho
  have HIA := Lib.hid hi.2.1
  have HIB := Lib.hid hi.2.2.1
  have HIC := Lib.hid hi.2.2.2.1
  have HID := Lib.hid hi.2.2.2.2
  dsimp only at HIA HIB HIC HID
  clear ho hi
  obtain ⟨bc, oc, k0, x0, y0, z0, u0, rfl, hbc, c0, c1, c2, c3, c4, HX, hmem⟩ := hc.val hp
  have hX := HX.out
  rw [hx] at hX
  simp only [Option.some.injEq, Ins.mk.injEq] at hX
  obtain ⟨rfl, rfl, rfl, rfl, rfl⟩ := hX
  clear hx HX hmem
  have h0 : Un (touch b mb tv (.slice wA wn wc)) w w := Un.refl _ _
  have hlt := h.lt
  have hmlt := hm.lt
  have hbm : mb ≠ b := hm.ne h.box
  have hBs : B ≤ w.heap.size := by omega
  have hcs : bc < w.heap.size := by omega
  have hcb : bc ≠ b := by omega
  have t0 : w.cell? ⟨b, 0, none⟩ = _ := h.box.cell 0
  have t1 : w.cell? ⟨b, 1, none⟩ = _ := h.box.cell 1
  have t2 : w.cell? ⟨b, 2, none⟩ = _ := h.box.cell 2
  have t3 : w.cell? ⟨b, 3, none⟩ = _ := h.box.cell 3
  have t4 : w.cell? ⟨b, 4, none⟩ = _ := h.box.cell 4
  have t5 : w.cell? ⟨b, 5, none⟩ = _ := h.box.cell 5
  have f2 := h.box.frozen 2
  have f3 := h.box.frozen 3
  have f4 := h.box.frozen 4
  have f5 := h.box.frozen 5
  simp only [List.getElem?_cons_zero, List.getElem?_cons_succ] at t0 t1 t2 t3 t4 t5
  have HW := Lib.hid h
  have HM := Lib.hid hm
  have HRW := Lib.hid hrw
  have HWW := Lib.hid hww
  clear h hm hc hrw hww
  rw [stp_17] at hs
  injection hs with hs1 hs2
  subst hs1 hs2
  go_enter Tryd.func42, Tryd.ntmps42
  go_wp2
  refine region_first [0, 1, 2, 3, 4, 5, 6, 7, 8, 9] (.cons 10 (seq [11] .nil)) (by kernel_rfl) (by kernel_rfl) ?_
  simp only [pick, List.map_cons, List.map_nil, List.getD_cons_zero, List.getD_cons_succ]
  go_wp2
  refine ord_call (by kernel_rfl) ?_
  simp only [pick, List.map_cons, List.map_nil, List.getD_cons_zero, List.getD_cons_succ]
  go_wp2
  refine ⟨(((Below.refl w.heap.size w).alloc (Nat.le_refl _) _).drew).block, ?_⟩
  refine ord_last [11] (by kernel_rfl) ?_
  simp only [pick, List.map_cons, List.map_nil, List.getD_cons_zero, List.getD_cons_succ]
  go_wp2
  refine region_two [0, 1, 2, 3, 4, 5] [6, 7] (by kernel_rfl) (by kernel_rfl) ?_
  simp only [pick, List.map_cons, List.map_nil, List.getD_cons_zero, List.getD_cons_succ]
  go_wp2_with (at_lookup; go_must (refine wp_look rfl _ _ rfl mb N (r) _ rfl (by repeat first | exact HM.out | (with_reducible refine MI.drew ?_) | (with_reducible refine MI.alloc ?_ _) | (with_reducible refine MI.set ?_ _ (by omega))) rfl HIB.out ?_))
  refine region_two [0, 1, 2, 3, 4, 5] [6, 7] (by kernel_rfl) (by kernel_rfl) ?_
  simp only [pick, List.map_cons, List.map_nil, List.getD_cons_zero, List.getD_cons_succ]
  go_wp2_with (at_lookup; go_must (refine wp_look rfl _ _ rfl mb N (r) _ rfl (by repeat first | exact HM.out | (with_reducible refine MI.drew ?_) | (with_reducible refine MI.alloc ?_ _) | (with_reducible refine MI.set ?_ _ (by omega))) rfl HIC.out ?_))
  refine bodyPost_end (v := .tuple #[]) (results_noneV rfl _ _) rfl ?_
  exact ⟨rfl, ⟨_, _, _, (((HW.out.at_ _).overd _).alloc _).drew.drew.drew, fun _ => ⟨rfl, by simp⟩, fun h => absurd rfl h, .inl rfl⟩, MI.mono (N := N) (by repeat first | exact HM.out | (with_reducible refine MI.drew ?_) | (with_reducible refine MI.alloc ?_ _) | (with_reducible refine MI.set ?_ _ (by omega))) (by omega), (by repeat first | exact h0 | (with_reducible refine Un.drew ?_) | (with_reducible refine Un.alloc ?_ _) | (with_reducible refine un_at ?_ touch_b _ _) | (with_reducible refine un_at ?_ touch_w _ _))⟩
end Go.Proofs.YtjihopbapnfppaaDoor
