/- One instruction of a thread. No statement of the seat is proved here; no condition. -/
import Derived.Test.YtahfpllphkkmbaaDoorVm4
set_option linter.unusedSimpArgs false
set_option linter.unusedVariables false
namespace Go.Proofs.YtahfpllphkkmbaaDoor
open Go.RowKit Go.Ord Go.Baro

/-- What a step leaves. -/
def StPost (B b : Nat) (cv wv : Value) (s' : Vs) (E : Int) (w : World) (e : Ending) (w' : World) : Prop := e = .returned (.int .i64 E) ∧ (∃ tv', ThV w' B b cv tv' wv s') ∧ Below B w w'

set_option maxRecDepth 100000 in
set_option maxHeartbeats 4000000 in
theorem vm_step1 (w : World) (B Bc b n cc wn wc : Nat) (cA wA : Option Addr) (tv : Value) (l : List Ins) (p : Nat) (r : Int → Int) (ws t : List Int) (s' : Vs) (a' b' c' d' E : Int) (h : ThV w B b (.slice cA n cc) tv (.slice wA wn wc) ⟨p, r, ws, t⟩) (hB : B ≤ b)
    (hc : RO w Bc cA n l) (hBc : Bc ≤ B) (hp : p < n) (hn : n ≤ 200) (hwl : ws.length ≤ 200) (htl : t.length ≤ 200) (hrw : ∀ i, inW (r i)) (hx : l[p]? = some ⟨1, a', b', c', d'⟩) (ho : okI n ⟨1, a', b', c', d'⟩) (hs : stp n ⟨1, a', b', c', d'⟩ ⟨p, r, ws, t⟩ = (s', E)) :
    Calls Tryd.prog 26 #[.pointer (some ⟨b, 0, none⟩), .slice wA wn wc] w (StPost B b (.slice cA n cc) (.slice wA wn wc) s' E w) := by
  have hra : isR a' := by unfold okI isR isT at ho; unfold isR; dsimp only at ho; omega
  clear ho
  unfold isR at hra
  obtain ⟨a, rfl⟩ : ∃ a : Nat, a' = a := ⟨a'.toNat, by omega⟩
  have ha24 : a < 24 := by omega
  obtain ⟨bc, oc, k0, x0, y0, z0, u0, rfl, hbc, c0, c1, c2, c3, c4, HX, hmem⟩ := hc.val hp
  have hX := HX.out
  rw [hx] at hX
  simp only [Option.some.injEq, Ins.mk.injEq] at hX
  obtain ⟨rfl, rfl, rfl, rfl, rfl⟩ := hX
  clear hx HX hmem
  have h0 : Below B w w := Below.refl _ _
  have hlt := h.lt
  have hBs : B ≤ w.heap.size := by omega
  have hcs : bc < w.heap.size := by omega
  have hcb : bc ≠ b := by omega
  have t0 := h.code
  have t1 := h.at_
  dsimp only at t1
  have f1 := h.box.frozen 1
  have ga := h.get ha24
  dsimp only at ga
  have fa := h.box.frozen (2 + a)
  have HTH := Lib.hid h
  have HRW := Lib.hid hrw
  clear h hc hrw
  rw [stp_1] at hs
  injection hs with hs1 hs2
  subst hs1 hs2
  go_enter Tryd.func26, Tryd.ntmps26
  go_wp2
  refine region_first [0, 1, 2, 3, 4, 5, 6, 7, 8, 9] (.cons 10 (seq [11] .nil)) (by kernel_rfl) (by kernel_rfl) ?_
  simp only [pick, List.map_cons, List.map_nil, List.getD_cons_zero, List.getD_cons_succ]
  go_wp2
  refine ord_call (by kernel_rfl) ?_
  simp only [pick, List.map_cons, List.map_nil, List.getD_cons_zero, List.getD_cons_succ]
  go_wp2
  refine ⟨(((Below.refl w.heap.size w).alloc (Nat.le_refl _) _).drew).block, ?_⟩
  refine ord_last [11] (by kernel_rfl) ?_
  simp only [pick, List.map_cons, List.map_nil, List.getD_cons_zero, List.getD_cons_succ]
  go_wp2
  refine region_two [0, 1, 2, 3, 4, 5, 6, 7] [8] (by kernel_rfl) (by kernel_rfl) ?_
  simp only [pick, List.map_cons, List.map_nil, List.getD_cons_zero, List.getD_cons_succ]
  go_wp2
  go_ret
  exact ⟨rfl, ⟨_, (((HTH.out.next (p + 1)).reg ha24 b').alloc _).drew.drew⟩, ((below_at (below_at h0 hB _ _) hB _ _).alloc (by simp; omega) _).drew.drew⟩

set_option maxRecDepth 100000 in
set_option maxHeartbeats 4000000 in
theorem vm_step2 (w : World) (B Bc b n cc wn wc : Nat) (cA wA : Option Addr) (tv : Value) (l : List Ins) (p : Nat) (r : Int → Int) (ws t : List Int) (s' : Vs) (a' b' c' d' E : Int) (h : ThV w B b (.slice cA n cc) tv (.slice wA wn wc) ⟨p, r, ws, t⟩) (hB : B ≤ b)
    (hc : RO w Bc cA n l) (hBc : Bc ≤ B) (hp : p < n) (hn : n ≤ 200) (hwl : ws.length ≤ 200) (htl : t.length ≤ 200) (hrw : ∀ i, inW (r i)) (hx : l[p]? = some ⟨2, a', b', c', d'⟩) (ho : okI n ⟨2, a', b', c', d'⟩) (hs : stp n ⟨2, a', b', c', d'⟩ ⟨p, r, ws, t⟩ = (s', E)) :
    Calls Tryd.prog 26 #[.pointer (some ⟨b, 0, none⟩), .slice wA wn wc] w (StPost B b (.slice cA n cc) (.slice wA wn wc) s' E w) := by
  have hra : isR a' := by unfold okI isR isT at ho; unfold isR; dsimp only at ho; omega
  have hrb : isR b' := by unfold okI isR isT at ho; unfold isR; dsimp only at ho; omega
  clear ho
  unfold isR at hra
  obtain ⟨a, rfl⟩ : ∃ a : Nat, a' = a := ⟨a'.toNat, by omega⟩
  have ha24 : a < 24 := by omega
  unfold isR at hrb
  obtain ⟨b_r, rfl⟩ : ∃ b_r : Nat, b' = b_r := ⟨b'.toNat, by omega⟩
  have hb24 : b_r < 24 := by omega
  obtain ⟨bc, oc, k0, x0, y0, z0, u0, rfl, hbc, c0, c1, c2, c3, c4, HX, hmem⟩ := hc.val hp
  have hX := HX.out
  rw [hx] at hX
  simp only [Option.some.injEq, Ins.mk.injEq] at hX
  obtain ⟨rfl, rfl, rfl, rfl, rfl⟩ := hX
  clear hx HX hmem
  have h0 : Below B w w := Below.refl _ _
  have hlt := h.lt
  have hBs : B ≤ w.heap.size := by omega
  have hcs : bc < w.heap.size := by omega
  have hcb : bc ≠ b := by omega
  have t0 := h.code
  have t1 := h.at_
  dsimp only at t1
  have f1 := h.box.frozen 1
  have ga := h.get ha24
  dsimp only at ga
  have fa := h.box.frozen (2 + a)
  have gb := h.get hb24
  dsimp only at gb
  have fb := h.box.frozen (2 + b_r)
  have HTH := Lib.hid h
  have HRW := Lib.hid hrw
  clear h hc hrw
  rw [stp_2] at hs
  injection hs with hs1 hs2
  subst hs1 hs2
  go_enter Tryd.func26, Tryd.ntmps26
  go_wp2
  refine region_first [0, 1, 2, 3, 4, 5, 6, 7, 8, 9] (.cons 10 (seq [11] .nil)) (by kernel_rfl) (by kernel_rfl) ?_
  simp only [pick, List.map_cons, List.map_nil, List.getD_cons_zero, List.getD_cons_succ]
  go_wp2
  refine ord_call (by kernel_rfl) ?_
  simp only [pick, List.map_cons, List.map_nil, List.getD_cons_zero, List.getD_cons_succ]
  go_wp2
  refine ⟨(((Below.refl w.heap.size w).alloc (Nat.le_refl _) _).drew).block, ?_⟩
  refine ord_last [11] (by kernel_rfl) ?_
  simp only [pick, List.map_cons, List.map_nil, List.getD_cons_zero, List.getD_cons_succ]
  go_wp2
  refine region_two [0, 1, 2, 3, 4, 5, 6, 7, 8, 9, 10, 11, 12] [13] (by kernel_rfl) (by kernel_rfl) ?_
  simp only [pick, List.map_cons, List.map_nil, List.getD_cons_zero, List.getD_cons_succ]
  go_wp2
  go_ret
  exact ⟨rfl, ⟨_, (((HTH.out.next (p + 1)).reg ha24 (r b_r)).alloc _).drew.drew⟩, ((below_at (below_at h0 hB _ _) hB _ _).alloc (by simp; omega) _).drew.drew⟩

set_option maxRecDepth 100000 in
set_option maxHeartbeats 4000000 in
theorem vm_step10 (w : World) (B Bc b n cc wn wc : Nat) (cA wA : Option Addr) (tv : Value) (l : List Ins) (p : Nat) (r : Int → Int) (ws t : List Int) (s' : Vs) (a' b' c' d' E : Int) (h : ThV w B b (.slice cA n cc) tv (.slice wA wn wc) ⟨p, r, ws, t⟩) (hB : B ≤ b)
    (hc : RO w Bc cA n l) (hBc : Bc ≤ B) (hp : p < n) (hn : n ≤ 200) (hwl : ws.length ≤ 200) (htl : t.length ≤ 200) (hrw : ∀ i, inW (r i)) (hx : l[p]? = some ⟨10, a', b', c', d'⟩) (ho : okI n ⟨10, a', b', c', d'⟩) (hs : stp n ⟨10, a', b', c', d'⟩ ⟨p, r, ws, t⟩ = (s', E)) :
    Calls Tryd.prog 26 #[.pointer (some ⟨b, 0, none⟩), .slice wA wn wc] w (StPost B b (.slice cA n cc) (.slice wA wn wc) s' E w) := by
  clear ho
  obtain ⟨bc, oc, k0, x0, y0, z0, u0, rfl, hbc, c0, c1, c2, c3, c4, HX, hmem⟩ := hc.val hp
  have hX := HX.out
  rw [hx] at hX
  simp only [Option.some.injEq, Ins.mk.injEq] at hX
  obtain ⟨rfl, rfl, rfl, rfl, rfl⟩ := hX
  clear hx HX hmem
  have h0 : Below B w w := Below.refl _ _
  have hlt := h.lt
  have hBs : B ≤ w.heap.size := by omega
  have hcs : bc < w.heap.size := by omega
  have hcb : bc ≠ b := by omega
  have t0 := h.code
  have t1 := h.at_
  dsimp only at t1
  have f1 := h.box.frozen 1
  have HTH := Lib.hid h
  have HRW := Lib.hid hrw
  clear h hc hrw
  rw [stp_10] at hs
  injection hs with hs1 hs2
  subst hs1 hs2
  go_enter Tryd.func26, Tryd.ntmps26
  go_wp2
  refine region_first [0, 1, 2, 3, 4, 5, 6, 7, 8, 9] (.cons 10 (seq [11] .nil)) (by kernel_rfl) (by kernel_rfl) ?_
  simp only [pick, List.map_cons, List.map_nil, List.getD_cons_zero, List.getD_cons_succ]
  go_wp2
  refine ord_call (by kernel_rfl) ?_
  simp only [pick, List.map_cons, List.map_nil, List.getD_cons_zero, List.getD_cons_succ]
  go_wp2
  refine ⟨(((Below.refl w.heap.size w).alloc (Nat.le_refl _) _).drew).block, ?_⟩
  refine ord_last [11] (by kernel_rfl) ?_
  simp only [pick, List.map_cons, List.map_nil, List.getD_cons_zero, List.getD_cons_succ]
  go_wp2
  go_ret
  exact ⟨rfl, ⟨_, ((((HTH.out.next (p + 1)).next a').alloc _).drew)⟩, ((below_at (below_at h0 hB _ _) hB _ _).alloc (by simp; omega) _).drew⟩

set_option maxRecDepth 100000 in
set_option maxHeartbeats 4000000 in
theorem vm_step11 (w : World) (B Bc b n cc wn wc : Nat) (cA wA : Option Addr) (tv : Value) (l : List Ins) (p : Nat) (r : Int → Int) (ws t : List Int) (s' : Vs) (a' b' c' d' E : Int) (h : ThV w B b (.slice cA n cc) tv (.slice wA wn wc) ⟨p, r, ws, t⟩) (hB : B ≤ b)
    (hc : RO w Bc cA n l) (hBc : Bc ≤ B) (hp : p < n) (hn : n ≤ 200) (hwl : ws.length ≤ 200) (htl : t.length ≤ 200) (hrw : ∀ i, inW (r i)) (hx : l[p]? = some ⟨11, a', b', c', d'⟩) (ho : okI n ⟨11, a', b', c', d'⟩) (hs : stp n ⟨11, a', b', c', d'⟩ ⟨p, r, ws, t⟩ = (s', E)) :
    Calls Tryd.prog 26 #[.pointer (some ⟨b, 0, none⟩), .slice wA wn wc] w (StPost B b (.slice cA n cc) (.slice wA wn wc) s' E w) := by
  have hra : isR a' := by unfold okI isR isT at ho; unfold isR; dsimp only at ho; omega
  clear ho
  unfold isR at hra
  obtain ⟨a, rfl⟩ : ∃ a : Nat, a' = a := ⟨a'.toNat, by omega⟩
  have ha24 : a < 24 := by omega
  obtain ⟨bc, oc, k0, x0, y0, z0, u0, rfl, hbc, c0, c1, c2, c3, c4, HX, hmem⟩ := hc.val hp
  have hX := HX.out
  rw [hx] at hX
  simp only [Option.some.injEq, Ins.mk.injEq] at hX
  obtain ⟨rfl, rfl, rfl, rfl, rfl⟩ := hX
  clear hx HX hmem
  have h0 : Below B w w := Below.refl _ _
  have hlt := h.lt
  have hBs : B ≤ w.heap.size := by omega
  have hcs : bc < w.heap.size := by omega
  have hcb : bc ≠ b := by omega
  have t0 := h.code
  have t1 := h.at_
  dsimp only at t1
  have f1 := h.box.frozen 1
  have ga := h.get ha24
  dsimp only at ga
  have fa := h.box.frozen (2 + a)
  have HTH := Lib.hid h
  have HRW := Lib.hid hrw
  clear h hc hrw
  rw [stp_11] at hs
  dsimp only at hs
  by_cases hz : r a = 0
  · rw [if_pos hz] at hs
    injection hs with hs1 hs2
    subst hs1 hs2
    have hv1 : (r (a : Int) == 0) = true := by simp [hz]
    have hv2 : (r (a : Int) != 0) = false := by simp [hz]
    have HZ := Lib.hid hz
    clear hz
    go_enter Tryd.func26, Tryd.ntmps26
    go_wp2
    refine region_first [0, 1, 2, 3, 4, 5, 6, 7, 8, 9] (.cons 10 (seq [11] .nil)) (by kernel_rfl) (by kernel_rfl) ?_
    simp only [pick, List.map_cons, List.map_nil, List.getD_cons_zero, List.getD_cons_succ]
    go_wp2
    refine ord_call (by kernel_rfl) ?_
    simp only [pick, List.map_cons, List.map_nil, List.getD_cons_zero, List.getD_cons_succ]
    go_wp2
    refine ⟨(((Below.refl w.heap.size w).alloc (Nat.le_refl _) _).drew).block, ?_⟩
    refine ord_last [11] (by kernel_rfl) ?_
    simp only [pick, List.map_cons, List.map_nil, List.getD_cons_zero, List.getD_cons_succ]
    go_wp2
    refine region_two [0, 1, 2, 3, 4, 5, 6, 7] [] (by kernel_rfl) (by kernel_rfl) ?_
    simp only [pick, List.map_cons, List.map_nil, List.getD_cons_zero, List.getD_cons_succ]
    go_wp2
    go_ret
    exact ⟨rfl, ⟨_, (((HTH.out.next (p + 1)).alloc _).drew.drew)⟩, ((below_at h0 hB _ _).alloc (by simp; omega) _).drew.drew⟩
  · rw [if_neg hz] at hs
    injection hs with hs1 hs2
    subst hs1 hs2
    have hv1 : (r (a : Int) == 0) = false := by simp [hz]
    have hv2 : (r (a : Int) != 0) = true := by simp [hz]
    have HZ := Lib.hid hz
    clear hz
    go_enter Tryd.func26, Tryd.ntmps26
    go_wp2
    refine region_first [0, 1, 2, 3, 4, 5, 6, 7, 8, 9] (.cons 10 (seq [11] .nil)) (by kernel_rfl) (by kernel_rfl) ?_
    simp only [pick, List.map_cons, List.map_nil, List.getD_cons_zero, List.getD_cons_succ]
    go_wp2
    refine ord_call (by kernel_rfl) ?_
    simp only [pick, List.map_cons, List.map_nil, List.getD_cons_zero, List.getD_cons_succ]
    go_wp2
    refine ⟨(((Below.refl w.heap.size w).alloc (Nat.le_refl _) _).drew).block, ?_⟩
    refine ord_last [11] (by kernel_rfl) ?_
    simp only [pick, List.map_cons, List.map_nil, List.getD_cons_zero, List.getD_cons_succ]
    go_wp2
    refine region_two [0, 1, 2, 3, 4, 5, 6, 7] [] (by kernel_rfl) (by kernel_rfl) ?_
    simp only [pick, List.map_cons, List.map_nil, List.getD_cons_zero, List.getD_cons_succ]
    go_wp2
    go_ret
    exact ⟨rfl, ⟨_, ((((HTH.out.next (p + 1)).next b').alloc _).drew.drew)⟩, ((below_at (below_at h0 hB _ _) hB _ _).alloc (by simp; omega) _).drew.drew⟩

set_option maxRecDepth 100000 in
set_option maxHeartbeats 4000000 in
theorem vm_step12 (w : World) (B Bc b n cc wn wc : Nat) (cA wA : Option Addr) (tv : Value) (l : List Ins) (p : Nat) (r : Int → Int) (ws t : List Int) (s' : Vs) (a' b' c' d' E : Int) (h : ThV w B b (.slice cA n cc) tv (.slice wA wn wc) ⟨p, r, ws, t⟩) (hB : B ≤ b)
    (hc : RO w Bc cA n l) (hBc : Bc ≤ B) (hp : p < n) (hn : n ≤ 200) (hwl : ws.length ≤ 200) (htl : t.length ≤ 200) (hrw : ∀ i, inW (r i)) (hx : l[p]? = some ⟨12, a', b', c', d'⟩) (ho : okI n ⟨12, a', b', c', d'⟩) (hs : stp n ⟨12, a', b', c', d'⟩ ⟨p, r, ws, t⟩ = (s', E)) :
    Calls Tryd.prog 26 #[.pointer (some ⟨b, 0, none⟩), .slice wA wn wc] w (StPost B b (.slice cA n cc) (.slice wA wn wc) s' E w) := by
  have hra : isR a' := by unfold okI isR isT at ho; unfold isR; dsimp only at ho; omega
  clear ho
  unfold isR at hra
  obtain ⟨a, rfl⟩ : ∃ a : Nat, a' = a := ⟨a'.toNat, by omega⟩
  have ha24 : a < 24 := by omega
  obtain ⟨bc, oc, k0, x0, y0, z0, u0, rfl, hbc, c0, c1, c2, c3, c4, HX, hmem⟩ := hc.val hp
  have hX := HX.out
  rw [hx] at hX
  simp only [Option.some.injEq, Ins.mk.injEq] at hX
  obtain ⟨rfl, rfl, rfl, rfl, rfl⟩ := hX
  clear hx HX hmem
  have h0 : Below B w w := Below.refl _ _
  have hlt := h.lt
  have hBs : B ≤ w.heap.size := by omega
  have hcs : bc < w.heap.size := by omega
  have hcb : bc ≠ b := by omega
  have t0 := h.code
  have t1 := h.at_
  dsimp only at t1
  have f1 := h.box.frozen 1
  have ga := h.get ha24
  dsimp only at ga
  have fa := h.box.frozen (2 + a)
  have HTH := Lib.hid h
  have HRW := Lib.hid hrw
  clear h hc hrw
  rw [stp_12] at hs
  dsimp only at hs
  by_cases hz : r a = 0
  · rw [if_pos hz] at hs
    injection hs with hs1 hs2
    subst hs1 hs2
    have hv1 : (r (a : Int) == 0) = true := by simp [hz]
    have hv2 : (r (a : Int) != 0) = false := by simp [hz]
    have HZ := Lib.hid hz
    clear hz
    go_enter Tryd.func26, Tryd.ntmps26
    go_wp2
    refine region_first [0, 1, 2, 3, 4, 5, 6, 7, 8, 9] (.cons 10 (seq [11] .nil)) (by kernel_rfl) (by kernel_rfl) ?_
    simp only [pick, List.map_cons, List.map_nil, List.getD_cons_zero, List.getD_cons_succ]
    go_wp2
    refine ord_call (by kernel_rfl) ?_
    simp only [pick, List.map_cons, List.map_nil, List.getD_cons_zero, List.getD_cons_succ]
    go_wp2
    refine ⟨(((Below.refl w.heap.size w).alloc (Nat.le_refl _) _).drew).block, ?_⟩
    refine ord_last [11] (by kernel_rfl) ?_
    simp only [pick, List.map_cons, List.map_nil, List.getD_cons_zero, List.getD_cons_succ]
    go_wp2
    refine region_two [0, 1, 2, 3, 4, 5, 6, 7] [] (by kernel_rfl) (by kernel_rfl) ?_
    simp only [pick, List.map_cons, List.map_nil, List.getD_cons_zero, List.getD_cons_succ]
    go_wp2
    go_ret
    exact ⟨rfl, ⟨_, ((((HTH.out.next (p + 1)).next b').alloc _).drew.drew)⟩, ((below_at (below_at h0 hB _ _) hB _ _).alloc (by simp; omega) _).drew.drew⟩
  · rw [if_neg hz] at hs
    injection hs with hs1 hs2
    subst hs1 hs2
    have hv1 : (r (a : Int) == 0) = false := by simp [hz]
    have hv2 : (r (a : Int) != 0) = true := by simp [hz]
    have HZ := Lib.hid hz
    clear hz
    go_enter Tryd.func26, Tryd.ntmps26
    go_wp2
    refine region_first [0, 1, 2, 3, 4, 5, 6, 7, 8, 9] (.cons 10 (seq [11] .nil)) (by kernel_rfl) (by kernel_rfl) ?_
    simp only [pick, List.map_cons, List.map_nil, List.getD_cons_zero, List.getD_cons_succ]
    go_wp2
    refine ord_call (by kernel_rfl) ?_
    simp only [pick, List.map_cons, List.map_nil, List.getD_cons_zero, List.getD_cons_succ]
    go_wp2
    refine ⟨(((Below.refl w.heap.size w).alloc (Nat.le_refl _) _).drew).block, ?_⟩
    refine ord_last [11] (by kernel_rfl) ?_
    simp only [pick, List.map_cons, List.map_nil, List.getD_cons_zero, List.getD_cons_succ]
    go_wp2
    refine region_two [0, 1, 2, 3, 4, 5, 6, 7] [] (by kernel_rfl) (by kernel_rfl) ?_
    simp only [pick, List.map_cons, List.map_nil, List.getD_cons_zero, List.getD_cons_succ]
    go_wp2
    go_ret
    exact ⟨rfl, ⟨_, (((HTH.out.next (p + 1)).alloc _).drew.drew)⟩, ((below_at h0 hB _ _).alloc (by simp; omega) _).drew.drew⟩

set_option maxRecDepth 100000 in
set_option maxHeartbeats 4000000 in
theorem vm_step13 (w : World) (B Bc b n cc wn wc : Nat) (cA wA : Option Addr) (tv : Value) (l : List Ins) (p : Nat) (r : Int → Int) (ws t : List Int) (s' : Vs) (a' b' c' d' E : Int) (h : ThV w B b (.slice cA n cc) tv (.slice wA wn wc) ⟨p, r, ws, t⟩) (hB : B ≤ b)
    (hc : RO w Bc cA n l) (hBc : Bc ≤ B) (hp : p < n) (hn : n ≤ 200) (hwl : ws.length ≤ 200) (htl : t.length ≤ 200) (hrw : ∀ i, inW (r i)) (hx : l[p]? = some ⟨13, a', b', c', d'⟩) (ho : okI n ⟨13, a', b', c', d'⟩) (hs : stp n ⟨13, a', b', c', d'⟩ ⟨p, r, ws, t⟩ = (s', E)) :
    Calls Tryd.prog 26 #[.pointer (some ⟨b, 0, none⟩), .slice wA wn wc] w (StPost B b (.slice cA n cc) (.slice wA wn wc) s' E w) := by
  have HO := Lib.hid ho
  clear ho
  obtain ⟨bc, oc, k0, x0, y0, z0, u0, rfl, hbc, c0, c1, c2, c3, c4, HX, hmem⟩ := hc.val hp
  have hX := HX.out
  rw [hx] at hX
  simp only [Option.some.injEq, Ins.mk.injEq] at hX
  obtain ⟨rfl, rfl, rfl, rfl, rfl⟩ := hX
  clear hx HX hmem
  have h0 : Below B w w := Below.refl _ _
  have hlt := h.lt
  have hBs : B ≤ w.heap.size := by omega
  have hcs : bc < w.heap.size := by omega
  have hcb : bc ≠ b := by omega
  have t0 := h.code
  have t1 := h.at_
  dsimp only at t1
  have f1 := h.box.frozen 1
  have HTH := Lib.hid h
  have HRW := Lib.hid hrw
  clear h hc hrw
  go_enter Tryd.func26, Tryd.ntmps26
  go_wp2
  refine region_first [0, 1, 2, 3, 4, 5, 6, 7, 8, 9] (.cons 10 (seq [11] .nil)) (by kernel_rfl) (by kernel_rfl) ?_
  simp only [pick, List.map_cons, List.map_nil, List.getD_cons_zero, List.getD_cons_succ]
  go_wp2
  refine ord_call (by kernel_rfl) ?_
  simp only [pick, List.map_cons, List.map_nil, List.getD_cons_zero, List.getD_cons_succ]
  go_wp2
  refine ⟨(((Below.refl w.heap.size w).alloc (Nat.le_refl _) _).drew).block, ?_⟩
  refine ord_last [11] (by kernel_rfl) ?_
  simp only [pick, List.map_cons, List.map_nil, List.getD_cons_zero, List.getD_cons_succ]
  go_wp2_with fail
  refine (vm_access _ B b n wn wc wA _ tv ⟨p, r, ws, t⟩ s' 13 a' b' c' d' E (by exact ((HTH.out.next (p + 1)).alloc _).drew) hB hwl (by omega) HO.out hs).mono ?_
  rintro e w1 ⟨rfl, hth1, hb1⟩
  go_wp2
  go_ret
  exact ⟨rfl, ⟨_, hth1⟩, (((below_at h0 hB _ _).alloc (by simp; omega) _).drew).trans hb1⟩

set_option maxRecDepth 100000 in
set_option maxHeartbeats 4000000 in
theorem vm_step14 (w : World) (B Bc b n cc wn wc : Nat) (cA wA : Option Addr) (tv : Value) (l : List Ins) (p : Nat) (r : Int → Int) (ws t : List Int) (s' : Vs) (a' b' c' d' E : Int) (h : ThV w B b (.slice cA n cc) tv (.slice wA wn wc) ⟨p, r, ws, t⟩) (hB : B ≤ b)
    (hc : RO w Bc cA n l) (hBc : Bc ≤ B) (hp : p < n) (hn : n ≤ 200) (hwl : ws.length ≤ 200) (htl : t.length ≤ 200) (hrw : ∀ i, inW (r i)) (hx : l[p]? = some ⟨14, a', b', c', d'⟩) (ho : okI n ⟨14, a', b', c', d'⟩) (hs : stp n ⟨14, a', b', c', d'⟩ ⟨p, r, ws, t⟩ = (s', E)) :
    Calls Tryd.prog 26 #[.pointer (some ⟨b, 0, none⟩), .slice wA wn wc] w (StPost B b (.slice cA n cc) (.slice wA wn wc) s' E w) := by
  have HO := Lib.hid ho
  clear ho
  obtain ⟨bc, oc, k0, x0, y0, z0, u0, rfl, hbc, c0, c1, c2, c3, c4, HX, hmem⟩ := hc.val hp
  have hX := HX.out
  rw [hx] at hX
  simp only [Option.some.injEq, Ins.mk.injEq] at hX
  obtain ⟨rfl, rfl, rfl, rfl, rfl⟩ := hX
  clear hx HX hmem
  have h0 : Below B w w := Below.refl _ _
  have hlt := h.lt
  have hBs : B ≤ w.heap.size := by omega
  have hcs : bc < w.heap.size := by omega
  have hcb : bc ≠ b := by omega
  have t0 := h.code
  have t1 := h.at_
  dsimp only at t1
  have f1 := h.box.frozen 1
  have HTH := Lib.hid h
  have HRW := Lib.hid hrw
  clear h hc hrw
  go_enter Tryd.func26, Tryd.ntmps26
  go_wp2
  refine region_first [0, 1, 2, 3, 4, 5, 6, 7, 8, 9] (.cons 10 (seq [11] .nil)) (by kernel_rfl) (by kernel_rfl) ?_
  simp only [pick, List.map_cons, List.map_nil, List.getD_cons_zero, List.getD_cons_succ]
  go_wp2
  refine ord_call (by kernel_rfl) ?_
  simp only [pick, List.map_cons, List.map_nil, List.getD_cons_zero, List.getD_cons_succ]
  go_wp2
  refine ⟨(((Below.refl w.heap.size w).alloc (Nat.le_refl _) _).drew).block, ?_⟩
  refine ord_last [11] (by kernel_rfl) ?_
  simp only [pick, List.map_cons, List.map_nil, List.getD_cons_zero, List.getD_cons_succ]
  go_wp2_with fail
  refine (vm_access _ B b n wn wc wA _ tv ⟨p, r, ws, t⟩ s' 14 a' b' c' d' E (by exact ((HTH.out.next (p + 1)).alloc _).drew) hB hwl (by omega) HO.out hs).mono ?_
  rintro e w1 ⟨rfl, hth1, hb1⟩
  go_wp2
  go_ret
  exact ⟨rfl, ⟨_, hth1⟩, (((below_at h0 hB _ _).alloc (by simp; omega) _).drew).trans hb1⟩

set_option maxRecDepth 100000 in
set_option maxHeartbeats 4000000 in
theorem vm_step15 (w : World) (B Bc b n cc wn wc : Nat) (cA wA : Option Addr) (tv : Value) (l : List Ins) (p : Nat) (r : Int → Int) (ws t : List Int) (s' : Vs) (a' b' c' d' E : Int) (h : ThV w B b (.slice cA n cc) tv (.slice wA wn wc) ⟨p, r, ws, t⟩) (hB : B ≤ b)
    (hc : RO w Bc cA n l) (hBc : Bc ≤ B) (hp : p < n) (hn : n ≤ 200) (hwl : ws.length ≤ 200) (htl : t.length ≤ 200) (hrw : ∀ i, inW (r i)) (hx : l[p]? = some ⟨15, a', b', c', d'⟩) (ho : okI n ⟨15, a', b', c', d'⟩) (hs : stp n ⟨15, a', b', c', d'⟩ ⟨p, r, ws, t⟩ = (s', E)) :
    Calls Tryd.prog 26 #[.pointer (some ⟨b, 0, none⟩), .slice wA wn wc] w (StPost B b (.slice cA n cc) (.slice wA wn wc) s' E w) := by
  have HO := Lib.hid ho
  clear ho
  obtain ⟨bc, oc, k0, x0, y0, z0, u0, rfl, hbc, c0, c1, c2, c3, c4, HX, hmem⟩ := hc.val hp
  have hX := HX.out
  rw [hx] at hX
  simp only [Option.some.injEq, Ins.mk.injEq] at hX
  obtain ⟨rfl, rfl, rfl, rfl, rfl⟩ := hX
  clear hx HX hmem
  have h0 : Below B w w := Below.refl _ _
  have hlt := h.lt
  have hBs : B ≤ w.heap.size := by omega
  have hcs : bc < w.heap.size := by omega
  have hcb : bc ≠ b := by omega
  have t0 := h.code
  have t1 := h.at_
  dsimp only at t1
  have f1 := h.box.frozen 1
  have HTH := Lib.hid h
  have HRW := Lib.hid hrw
  clear h hc hrw
  go_enter Tryd.func26, Tryd.ntmps26
  go_wp2
  refine region_first [0, 1, 2, 3, 4, 5, 6, 7, 8, 9] (.cons 10 (seq [11] .nil)) (by kernel_rfl) (by kernel_rfl) ?_
  simp only [pick, List.map_cons, List.map_nil, List.getD_cons_zero, List.getD_cons_succ]
  go_wp2
  refine ord_call (by kernel_rfl) ?_
  simp only [pick, List.map_cons, List.map_nil, List.getD_cons_zero, List.getD_cons_succ]
  go_wp2
  refine ⟨(((Below.refl w.heap.size w).alloc (Nat.le_refl _) _).drew).block, ?_⟩
  refine ord_last [11] (by kernel_rfl) ?_
  simp only [pick, List.map_cons, List.map_nil, List.getD_cons_zero, List.getD_cons_succ]
  go_wp2_with fail
  refine (vm_access _ B b n wn wc wA _ tv ⟨p, r, ws, t⟩ s' 15 a' b' c' d' E (by exact ((HTH.out.next (p + 1)).alloc _).drew) hB hwl (by omega) HO.out hs).mono ?_
  rintro e w1 ⟨rfl, hth1, hb1⟩
  go_wp2
  go_ret
  exact ⟨rfl, ⟨_, hth1⟩, (((below_at h0 hB _ _).alloc (by simp; omega) _).drew).trans hb1⟩

set_option maxRecDepth 100000 in
set_option maxHeartbeats 4000000 in
theorem vm_step16 (w : World) (B Bc b n cc wn wc : Nat) (cA wA : Option Addr) (tv : Value) (l : List Ins) (p : Nat) (r : Int → Int) (ws t : List Int) (s' : Vs) (a' b' c' d' E : Int) (h : ThV w B b (.slice cA n cc) tv (.slice wA wn wc) ⟨p, r, ws, t⟩) (hB : B ≤ b)
    (hc : RO w Bc cA n l) (hBc : Bc ≤ B) (hp : p < n) (hn : n ≤ 200) (hwl : ws.length ≤ 200) (htl : t.length ≤ 200) (hrw : ∀ i, inW (r i)) (hx : l[p]? = some ⟨16, a', b', c', d'⟩) (ho : okI n ⟨16, a', b', c', d'⟩) (hs : stp n ⟨16, a', b', c', d'⟩ ⟨p, r, ws, t⟩ = (s', E)) :
    Calls Tryd.prog 26 #[.pointer (some ⟨b, 0, none⟩), .slice wA wn wc] w (StPost B b (.slice cA n cc) (.slice wA wn wc) s' E w) := by
  have hra : isR a' := by unfold okI isR isT at ho; unfold isR; dsimp only at ho; omega
  clear ho
  unfold isR at hra
  obtain ⟨a, rfl⟩ : ∃ a : Nat, a' = a := ⟨a'.toNat, by omega⟩
  have ha24 : a < 24 := by omega
  obtain ⟨bc, oc, k0, x0, y0, z0, u0, rfl, hbc, c0, c1, c2, c3, c4, HX, hmem⟩ := hc.val hp
  have hX := HX.out
  rw [hx] at hX
  simp only [Option.some.injEq, Ins.mk.injEq] at hX
  obtain ⟨rfl, rfl, rfl, rfl, rfl⟩ := hX
  clear hx HX hmem
  have h0 : Below B w w := Below.refl _ _
  have hlt := h.lt
  have hBs : B ≤ w.heap.size := by omega
  have hcs : bc < w.heap.size := by omega
  have hcb : bc ≠ b := by omega
  have t0 := h.code
  have t1 := h.at_
  dsimp only at t1
  have f1 := h.box.frozen 1
  have ga := h.get ha24
  dsimp only at ga
  have fa := h.box.frozen (2 + a)
  have HTH := Lib.hid h
  have HRW := Lib.hid hrw
  clear h hc hrw
  rw [stp_16] at hs
  dsimp only at hs
  obtain ⟨t', ht'⟩ : ∃ t', t' = if t.length = 200 then t else t ++ [r a] := ⟨_, rfl⟩
  obtain ⟨E', hE'⟩ : ∃ E', E' = if t.length = 200 then (8 : Int) else 0 := ⟨_, rfl⟩
  have hse : s' = ⟨p + 1, r, ws, t'⟩ ∧ E = E' := by
    by_cases hz : t.length = 200
    · rw [if_pos hz] at hs ht' hE'; injection hs with hs1 hs2; subst hs1 hs2 ht' hE'; exact ⟨rfl, rfl⟩
    · rw [if_neg hz] at hs ht' hE'; injection hs with hs1 hs2; subst hs1 hs2 ht' hE'; exact ⟨rfl, rfl⟩
  obtain ⟨rfl, rfl⟩ := hse
  have HT' := Lib.hid ht'
  have HE' := Lib.hid hE'
  clear hs ht' hE'
  go_enter Tryd.func26, Tryd.ntmps26
  go_wp2
  refine region_first [0, 1, 2, 3, 4, 5, 6, 7, 8, 9] (.cons 10 (seq [11] .nil)) (by kernel_rfl) (by kernel_rfl) ?_
  simp only [pick, List.map_cons, List.map_nil, List.getD_cons_zero, List.getD_cons_succ]
  go_wp2
  refine ord_call (by kernel_rfl) ?_
  simp only [pick, List.map_cons, List.map_nil, List.getD_cons_zero, List.getD_cons_succ]
  go_wp2
  refine ⟨(((Below.refl w.heap.size w).alloc (Nat.le_refl _) _).drew).block, ?_⟩
  refine ord_last [11] (by kernel_rfl) ?_
  simp only [pick, List.map_cons, List.map_nil, List.getD_cons_zero, List.getD_cons_succ]
  go_wp2
  refine region_two [0, 1, 2, 3, 4, 5, 6, 7] [8, 9] (by kernel_rfl) (by kernel_rfl) ?_
  simp only [pick, List.map_cons, List.map_nil, List.getD_cons_zero, List.getD_cons_succ]
  go_wp2_with fail
  refine (vm_emit _ B b _ tv _ ⟨p + 1, r, ws, t⟩ (r a) (by exact ((HTH.out.next (p + 1)).alloc _).drew.drew) hB htl E t' HE'.out HT'.out).mono ?_
  rintro e w1 ⟨rfl, hth1, hb1⟩
  go_wp2
  go_ret
  exact ⟨rfl, hth1, (((below_at h0 hB _ _).alloc (by simp; omega) _).drew.drew).trans hb1⟩

set_option maxRecDepth 100000 in
set_option maxHeartbeats 4000000 in
theorem vm_step17 (w : World) (B Bc b n cc wn wc : Nat) (cA wA : Option Addr) (tv : Value) (l : List Ins) (p : Nat) (r : Int → Int) (ws t : List Int) (s' : Vs) (a' b' c' d' E : Int) (h : ThV w B b (.slice cA n cc) tv (.slice wA wn wc) ⟨p, r, ws, t⟩) (hB : B ≤ b)
    (hc : RO w Bc cA n l) (hBc : Bc ≤ B) (hp : p < n) (hn : n ≤ 200) (hwl : ws.length ≤ 200) (htl : t.length ≤ 200) (hrw : ∀ i, inW (r i)) (hx : l[p]? = some ⟨17, a', b', c', d'⟩) (ho : okI n ⟨17, a', b', c', d'⟩) (hs : stp n ⟨17, a', b', c', d'⟩ ⟨p, r, ws, t⟩ = (s', E)) :
    Calls Tryd.prog 26 #[.pointer (some ⟨b, 0, none⟩), .slice wA wn wc] w (StPost B b (.slice cA n cc) (.slice wA wn wc) s' E w) := by
  clear ho
  obtain ⟨bc, oc, k0, x0, y0, z0, u0, rfl, hbc, c0, c1, c2, c3, c4, HX, hmem⟩ := hc.val hp
  have hX := HX.out
  rw [hx] at hX
  simp only [Option.some.injEq, Ins.mk.injEq] at hX
  obtain ⟨rfl, rfl, rfl, rfl, rfl⟩ := hX
  clear hx HX hmem
  have h0 : Below B w w := Below.refl _ _
  have hlt := h.lt
  have hBs : B ≤ w.heap.size := by omega
  have hcs : bc < w.heap.size := by omega
  have hcb : bc ≠ b := by omega
  have t0 := h.code
  have t1 := h.at_
  dsimp only at t1
  have f1 := h.box.frozen 1
  have HTH := Lib.hid h
  have HRW := Lib.hid hrw
  clear h hc hrw
  rw [stp_17] at hs
  injection hs with hs1 hs2
  subst hs1 hs2
  go_enter Tryd.func26, Tryd.ntmps26
  go_wp2
  refine region_first [0, 1, 2, 3, 4, 5, 6, 7, 8, 9] (.cons 10 (seq [11] .nil)) (by kernel_rfl) (by kernel_rfl) ?_
  simp only [pick, List.map_cons, List.map_nil, List.getD_cons_zero, List.getD_cons_succ]
  go_wp2
  refine ord_call (by kernel_rfl) ?_
  simp only [pick, List.map_cons, List.map_nil, List.getD_cons_zero, List.getD_cons_succ]
  go_wp2
  refine ⟨(((Below.refl w.heap.size w).alloc (Nat.le_refl _) _).drew).block, ?_⟩
  refine ord_last [11] (by kernel_rfl) ?_
  simp only [pick, List.map_cons, List.map_nil, List.getD_cons_zero, List.getD_cons_succ]
  go_wp2
  go_ret
  exact ⟨rfl, ⟨_, ((((HTH.out.next (p + 1)).next n).alloc _).drew)⟩, ((below_at (below_at h0 hB _ _) hB _ _).alloc (by simp; omega) _).drew⟩

set_option maxRecDepth 100000 in
set_option maxHeartbeats 4000000 in
theorem vm_stepC (w : World) (B Bc b n cc wn wc : Nat) (cA wA : Option Addr) (tv : Value) (l : List Ins) (p : Nat) (r : Int → Int) (ws t : List Int) (s' : Vs) (k : Int) (hk : 3 ≤ k ∧ k ≤ 9) (a' b' c' d' E : Int) (h : ThV w B b (.slice cA n cc) tv (.slice wA wn wc) ⟨p, r, ws, t⟩) (hB : B ≤ b)
    (hc : RO w Bc cA n l) (hBc : Bc ≤ B) (hp : p < n) (hn : n ≤ 200) (hwl : ws.length ≤ 200) (htl : t.length ≤ 200) (hrw : ∀ i, inW (r i)) (hx : l[p]? = some ⟨k, a', b', c', d'⟩) (ho : okI n ⟨k, a', b', c', d'⟩) (hs : stp n ⟨k, a', b', c', d'⟩ ⟨p, r, ws, t⟩ = (s', E)) :
    Calls Tryd.prog 26 #[.pointer (some ⟨b, 0, none⟩), .slice wA wn wc] w (StPost B b (.slice cA n cc) (.slice wA wn wc) s' E w) := by
  have hra : isR a' := by unfold okI isR isT at ho; unfold isR; dsimp only at ho; omega
  have hrb : isR b' := by unfold okI isR isT at ho; unfold isR; dsimp only at ho; omega
  have hrc : isR c' := by unfold okI isR isT at ho; unfold isR; dsimp only at ho; omega
  clear ho
  unfold isR at hra
  obtain ⟨a, rfl⟩ : ∃ a : Nat, a' = a := ⟨a'.toNat, by omega⟩
  have ha24 : a < 24 := by omega
  unfold isR at hrb
  obtain ⟨b_r, rfl⟩ : ∃ b_r : Nat, b' = b_r := ⟨b'.toNat, by omega⟩
  have hb24 : b_r < 24 := by omega
  unfold isR at hrc
  obtain ⟨c, rfl⟩ : ∃ c : Nat, c' = c := ⟨c'.toNat, by omega⟩
  have hc24 : c < 24 := by omega
  obtain ⟨bc, oc, k0, x0, y0, z0, u0, rfl, hbc, c0, c1, c2, c3, c4, HX, hmem⟩ := hc.val hp
  have hX := HX.out
  rw [hx] at hX
  simp only [Option.some.injEq, Ins.mk.injEq] at hX
  obtain ⟨rfl, rfl, rfl, rfl, rfl⟩ := hX
  clear hx HX hmem
  have h0 : Below B w w := Below.refl _ _
  have hlt := h.lt
  have hBs : B ≤ w.heap.size := by omega
  have hcs : bc < w.heap.size := by omega
  have hcb : bc ≠ b := by omega
  have t0 := h.code
  have t1 := h.at_
  dsimp only at t1
  have f1 := h.box.frozen 1
  have ga := h.get ha24
  dsimp only at ga
  have fa := h.box.frozen (2 + a)
  have gb := h.get hb24
  dsimp only at gb
  have fb := h.box.frozen (2 + b_r)
  have gc := h.get hc24
  dsimp only at gc
  have fc := h.box.frozen (2 + c)
  have HTH := Lib.hid h
  have HRW := Lib.hid hrw
  clear h hc hrw
  rw [stp_cmp hk] at hs
  injection hs with hs1 hs2
  subst hs1 hs2
  dsimp only at *
  have e1 : (k == 1) = false := by simp; omega
  have e2 : (k == 2) = false := by simp; omega
  have e10 : (k == 10) = false := by simp; omega
  have e11 : (k == 11) = false := by simp; omega
  have e12 : (k == 12) = false := by simp; omega
  have e13 : (k == 13) = false := by simp; omega
  have e14 : (k == 14) = false := by simp; omega
  have e15 : (k == 15) = false := by simp; omega
  have e16 : (k == 16) = false := by simp; omega
  have e17 : (k == 17) = false := by simp; omega
  go_enter Tryd.func26, Tryd.ntmps26
  go_wp2
  refine region_first [0, 1, 2, 3, 4, 5, 6, 7, 8, 9] (.cons 10 (seq [11] .nil)) (by kernel_rfl) (by kernel_rfl) ?_
  simp only [pick, List.map_cons, List.map_nil, List.getD_cons_zero, List.getD_cons_succ]
  go_wp2
  refine ord_call (by kernel_rfl) ?_
  simp only [pick, List.map_cons, List.map_nil, List.getD_cons_zero, List.getD_cons_succ]
  go_wp2
  refine ⟨(((Below.refl w.heap.size w).alloc (Nat.le_refl _) _).drew).block, ?_⟩
  refine ord_last [11] (by kernel_rfl) ?_
  simp only [pick, List.map_cons, List.map_nil, List.getD_cons_zero, List.getD_cons_succ]
  go_wp2
  refine region_first [0, 1, 2, 3, 4, 5, 6, 7, 8, 9, 10, 11, 12, 13, 14, 15, 16, 17, 18, 20, 21] (.cons 19 (seq [22] (seq [23] .nil))) (by kernel_rfl) (by kernel_rfl) ?_
  simp only [pick, List.map_cons, List.map_nil, List.getD_cons_zero, List.getD_cons_succ]
  go_wp2
  refine ord_call (by kernel_rfl) ?_
  simp only [pick, List.map_cons, List.map_nil, List.getD_cons_zero, List.getD_cons_succ]
  go_wp2_with (go_at_call 32; refine (vm_compute k _ _ _ hk (HRW.out _) (HRW.out _)).mono ?_; rintro e w' ⟨rfl, rfl⟩)
  refine ord_more [22] (seq [23] .nil) (by kernel_rfl) ?_
  simp only [pick, List.map_cons, List.map_nil, List.getD_cons_zero, List.getD_cons_succ]
  go_wp2
  refine ord_last [23] (by kernel_rfl) ?_
  simp only [pick, List.map_cons, List.map_nil, List.getD_cons_zero, List.getD_cons_succ]
  go_wp2
  go_ret
  exact ⟨rfl, ⟨_, (((HTH.out.next (p + 1)).reg ha24 _).alloc _).drew.drew⟩, ((below_at (below_at h0 hB _ _) hB _ _).alloc (by simp; omega) _).drew.drew⟩

theorem vm_step (w : World) (B Bc b n cc wn wc : Nat) (cA wA : Option Addr) (tv : Value) (l : List Ins) (s s' : Vs) (o : Ins) (E : Int) (h : ThV w B b (.slice cA n cc) tv (.slice wA wn wc) s) (hB : B ≤ b)
    (hc : RO w Bc cA n l) (hBc : Bc ≤ B) (hp : s.p < n) (hn : n ≤ 200) (hok : Ok n s) (hx : l[s.p.toNat]? = some o) (ho : okI n o) (hs : stp n o s = (s', E)) :
    Calls Tryd.prog 26 #[.pointer (some ⟨b, 0, none⟩), .slice wA wn wc] w (StPost B b (.slice cA n cc) (.slice wA wn wc) s' E w) := by
  obtain ⟨p', r, ws, t⟩ := s
  obtain ⟨q1, q2, q3, q4, q5, q6, q7⟩ := hok
  dsimp only at q1 q2 q3 q4 q5 q6 q7 hp hx
  obtain ⟨p, rfl⟩ : ∃ p : Nat, p' = p := ⟨p'.toNat, by omega⟩
  rw [Int.toNat_natCast] at hx
  obtain ⟨k, a, b', c, d⟩ := o
  have hk : 1 ≤ k ∧ k ≤ 17 := okI_kind ho
  rcases (by omega : (3 ≤ k ∧ k ≤ 9) ∨ k = 1 ∨ k = 2 ∨ k = 10 ∨ k = 11 ∨ k = 12 ∨ k = 13 ∨ k = 14 ∨ k = 15 ∨ k = 16 ∨ k = 17) with hk | rfl | rfl | rfl | rfl | rfl | rfl | rfl | rfl | rfl | rfl
  · exact vm_stepC w B Bc b n cc wn wc cA wA tv l p r ws t s' k hk a b' c d E h hB hc hBc (by omega) hn q5 q7 q3 hx ho hs
  · exact vm_step1 w B Bc b n cc wn wc cA wA tv l p r ws t s' a b' c d E h hB hc hBc (by omega) hn q5 q7 q3 hx ho hs
  · exact vm_step2 w B Bc b n cc wn wc cA wA tv l p r ws t s' a b' c d E h hB hc hBc (by omega) hn q5 q7 q3 hx ho hs
  · exact vm_step10 w B Bc b n cc wn wc cA wA tv l p r ws t s' a b' c d E h hB hc hBc (by omega) hn q5 q7 q3 hx ho hs
  · exact vm_step11 w B Bc b n cc wn wc cA wA tv l p r ws t s' a b' c d E h hB hc hBc (by omega) hn q5 q7 q3 hx ho hs
  · exact vm_step12 w B Bc b n cc wn wc cA wA tv l p r ws t s' a b' c d E h hB hc hBc (by omega) hn q5 q7 q3 hx ho hs
  · exact vm_step13 w B Bc b n cc wn wc cA wA tv l p r ws t s' a b' c d E h hB hc hBc (by omega) hn q5 q7 q3 hx ho hs
  · exact vm_step14 w B Bc b n cc wn wc cA wA tv l p r ws t s' a b' c d E h hB hc hBc (by omega) hn q5 q7 q3 hx ho hs
  · exact vm_step15 w B Bc b n cc wn wc cA wA tv l p r ws t s' a b' c d E h hB hc hBc (by omega) hn q5 q7 q3 hx ho hs
  · exact vm_step16 w B Bc b n cc wn wc cA wA tv l p r ws t s' a b' c d E h hB hc hBc (by omega) hn q5 q7 q3 hx ho hs
  · exact vm_step17 w B Bc b n cc wn wc cA wA tv l p r ws t s' a b' c d E h hB hc hBc (by omega) hn q5 q7 q3 hx ho hs
end Go.Proofs.YtahfpllphkkmbaaDoor
