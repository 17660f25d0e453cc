/- Of this claim's own texts these, one behind the other: Vm5O, Vm5S, VmClone, Asm4. No statement of the seat is proved here; no condition but those that stand at the theorems. -/
import Derived.Test.YtnchgdjdfhfedaaGreatDoorPartAP
import Derived.Test.YtnchgdjdfhfedaaGreatDoorPartAG
set_option linter.unusedSimpArgs false
set_option linter.unusedVariables false
namespace Go.Proofs.YtnchgdjdfhfedaaGreatDoor
open Go.RowKit Go.Ord Go.Baro

/-- What an instruction leaves. -/
def StPostO (T : TypeId) (pre post : List Value) (B b oo : Nat) (cv tv wv : Value) (s' : Vs) (E : Int) (w : World) (e : Ending) (w' : World) : Prop := e = .returned (.int .i64 E) ∧ (∃ tv', ToV T pre post w' B b oo cv tv' wv s' ∧ (tv'.ownBlock = tv.ownBlock ∨ ∃ k, tv'.ownBlock = some k ∧ w.heap.size ≤ k)) ∧ Un (touch b b tv wv) w w'

theorem results_noneT {P : Program} {fn : Func} (h : fn.results = #[]) (tmps : Array Value) (w : World) : (results fn tmps).run P w = .ok (.tuple #[]) w := by
  simp [results, h]
theorem vm_endo (T : TypeId) (pre post : List Value) (oo : Nat) (w : World) (B b n cc : Nat) (cA : Option Addr) (tv wv : Value) (s : Vs) (h : ToV T pre post w B b oo (.slice cA n cc) tv wv s) :
    Calls Tryz.prog 61 #[.pointer (some ⟨b, oo, none⟩)] w fun e w' => e = .returned (.tuple #[]) ∧ ToV T pre post w' B b oo (.slice cA n cc) tv wv { s with p := n } ∧ Un (touch b b tv wv) w w' := by
  have h0 : Un (touch b b tv wv) w w := Un.refl _ _
  have hlt := h.lt
  have t0 := h.code
  have t1 := h.at_
  have f1 := h.box.frozen (oo + 1)
  have HTH := Lib.hid h
  clear h
  go_enter Tryz.func61, Tryz.ntmps61
  go_wp2
  refine bodyPost_end (v := .tuple #[]) (results_noneT rfl _ _) rfl ?_
  exact ⟨rfl, HTH.out.next n, un_at h0 touch_b _ _⟩

set_option maxRecDepth 100000 in
set_option maxHeartbeats 4000000 in
theorem vm_exec1 (T : TypeId) (pre post : List Value) (oo : Nat) (w : World) (B b n cc wn wc : Nat) (cA wA : Option Addr) (tv : Value) (p : Int) (r : Int → Int) (ws t : List Int) (s' : Vs) (a' b' c' d' E : Int) (h : ToV T pre post w B b oo (.slice cA n cc) tv (.slice wA wn wc) ⟨p + 1, r, ws, t⟩) (hBs : B ≤ w.heap.size)
    (hwl : ws.length ≤ 200) (htl : t.length ≤ 200) (hrw : ∀ i, inW (r i)) (ho : okI n ⟨1, a', b', c', d'⟩) (hs : stp n ⟨1, a', b', c', d'⟩ ⟨p, r, ws, t⟩ = (s', E)) :
    Calls Tryz.prog 60 #[.pointer (some ⟨b, oo, none⟩), .agg #[.int .i64 1, .int .i64 a', .int .i64 b', .int .i64 c', .int .i64 d'], .slice wA wn wc] w (StPostO T pre post B b oo (.slice cA n cc) tv (.slice wA wn wc) s' E w) := by
  have hra : isR a' := by unfold okI isR isT at ho; unfold isR; dsimp only at ho; omega
  clear ho
  unfold isR at hra
  obtain ⟨a, rfl⟩ : ∃ a : Nat, a' = a := ⟨a'.toNat, by omega⟩
  have ha24 : a < 24 := by omega
  have h0 : Un (touch b b tv (.slice wA wn wc)) w w := Un.refl _ _
  have hlt := h.lt
  have t0 := h.code
  have t1 := h.at_
  dsimp only at t1
  have f1 := h.box.frozen (oo + 1)
  have ga := h.get ha24
  dsimp only at ga
  have fa := h.box.frozen (oo + 2 + a)
  have HTH := Lib.hid h
  have HRW := Lib.hid hrw
  clear h hrw
  rw [stp_1] at hs
  injection hs with hs1 hs2
  subst hs1 hs2
  go_enter Tryz.func60, Tryz.ntmps60
  go_wp2
  refine region_two [0, 1, 2, 3, 4, 5, 6, 7] [8] (by kernel_rfl) (by kernel_rfl) ?_
  simp only [pick, List.map_cons, List.map_nil, List.getD_cons_zero, List.getD_cons_succ]
  go_wp2
  go_ret
  exact ⟨rfl, ⟨_, ((HTH.out.reg ha24 b').alloc _).drew, .inl rfl⟩, ((un_at h0 touch_b _ _).alloc _).drew⟩

set_option maxRecDepth 100000 in
set_option maxHeartbeats 4000000 in
theorem vm_exec2 (T : TypeId) (pre post : List Value) (oo : Nat) (w : World) (B b n cc wn wc : Nat) (cA wA : Option Addr) (tv : Value) (p : Int) (r : Int → Int) (ws t : List Int) (s' : Vs) (a' b' c' d' E : Int) (h : ToV T pre post w B b oo (.slice cA n cc) tv (.slice wA wn wc) ⟨p + 1, r, ws, t⟩) (hBs : B ≤ w.heap.size)
    (hwl : ws.length ≤ 200) (htl : t.length ≤ 200) (hrw : ∀ i, inW (r i)) (ho : okI n ⟨2, a', b', c', d'⟩) (hs : stp n ⟨2, a', b', c', d'⟩ ⟨p, r, ws, t⟩ = (s', E)) :
    Calls Tryz.prog 60 #[.pointer (some ⟨b, oo, none⟩), .agg #[.int .i64 2, .int .i64 a', .int .i64 b', .int .i64 c', .int .i64 d'], .slice wA wn wc] w (StPostO T pre post B b oo (.slice cA n cc) tv (.slice wA wn wc) s' E w) := by
  have hra : isR a' := by unfold okI isR isT at ho; unfold isR; dsimp only at ho; omega
  have hrb : isR b' := by unfold okI isR isT at ho; unfold isR; dsimp only at ho; omega
  clear ho
  unfold isR at hra
  obtain ⟨a, rfl⟩ : ∃ a : Nat, a' = a := ⟨a'.toNat, by omega⟩
  have ha24 : a < 24 := by omega
  unfold isR at hrb
  obtain ⟨b_r, rfl⟩ : ∃ b_r : Nat, b' = b_r := ⟨b'.toNat, by omega⟩
  have hb24 : b_r < 24 := by omega
  have h0 : Un (touch b b tv (.slice wA wn wc)) w w := Un.refl _ _
  have hlt := h.lt
  have t0 := h.code
  have t1 := h.at_
  dsimp only at t1
  have f1 := h.box.frozen (oo + 1)
  have ga := h.get ha24
  dsimp only at ga
  have fa := h.box.frozen (oo + 2 + a)
  have gb := h.get hb24
  dsimp only at gb
  have fb := h.box.frozen (oo + 2 + b_r)
  have HTH := Lib.hid h
  have HRW := Lib.hid hrw
  clear h hrw
  rw [stp_2] at hs
  injection hs with hs1 hs2
  subst hs1 hs2
  go_enter Tryz.func60, Tryz.ntmps60
  go_wp2
  refine region_two [0, 1, 2, 3, 4, 5, 6, 7, 8, 9, 10, 11, 12] [13] (by kernel_rfl) (by kernel_rfl) ?_
  simp only [pick, List.map_cons, List.map_nil, List.getD_cons_zero, List.getD_cons_succ]
  go_wp2
  go_ret
  exact ⟨rfl, ⟨_, ((HTH.out.reg ha24 (r b_r)).alloc _).drew, .inl rfl⟩, ((un_at h0 touch_b _ _).alloc _).drew⟩

set_option maxRecDepth 100000 in
set_option maxHeartbeats 4000000 in
theorem vm_exec10 (T : TypeId) (pre post : List Value) (oo : Nat) (w : World) (B b n cc wn wc : Nat) (cA wA : Option Addr) (tv : Value) (p : Int) (r : Int → Int) (ws t : List Int) (s' : Vs) (a' b' c' d' E : Int) (h : ToV T pre post w B b oo (.slice cA n cc) tv (.slice wA wn wc) ⟨p + 1, r, ws, t⟩) (hBs : B ≤ w.heap.size)
    (hwl : ws.length ≤ 200) (htl : t.length ≤ 200) (hrw : ∀ i, inW (r i)) (ho : okI n ⟨10, a', b', c', d'⟩) (hs : stp n ⟨10, a', b', c', d'⟩ ⟨p, r, ws, t⟩ = (s', E)) :
    Calls Tryz.prog 60 #[.pointer (some ⟨b, oo, none⟩), .agg #[.int .i64 10, .int .i64 a', .int .i64 b', .int .i64 c', .int .i64 d'], .slice wA wn wc] w (StPostO T pre post B b oo (.slice cA n cc) tv (.slice wA wn wc) s' E w) := by
  clear ho
  have h0 : Un (touch b b tv (.slice wA wn wc)) w w := Un.refl _ _
  have hlt := h.lt
  have t0 := h.code
  have t1 := h.at_
  dsimp only at t1
  have f1 := h.box.frozen (oo + 1)
  have HTH := Lib.hid h
  have HRW := Lib.hid hrw
  clear h hrw
  rw [stp_10] at hs
  injection hs with hs1 hs2
  subst hs1 hs2
  go_enter Tryz.func60, Tryz.ntmps60
  go_wp2
  go_ret
  exact ⟨rfl, ⟨_, ((HTH.out.next a').alloc _), .inl rfl⟩, ((un_at h0 touch_b _ _).alloc _)⟩

set_option maxRecDepth 100000 in
set_option maxHeartbeats 4000000 in
theorem vm_exec11 (T : TypeId) (pre post : List Value) (oo : Nat) (w : World) (B b n cc wn wc : Nat) (cA wA : Option Addr) (tv : Value) (p : Int) (r : Int → Int) (ws t : List Int) (s' : Vs) (a' b' c' d' E : Int) (h : ToV T pre post w B b oo (.slice cA n cc) tv (.slice wA wn wc) ⟨p + 1, r, ws, t⟩) (hBs : B ≤ w.heap.size)
    (hwl : ws.length ≤ 200) (htl : t.length ≤ 200) (hrw : ∀ i, inW (r i)) (ho : okI n ⟨11, a', b', c', d'⟩) (hs : stp n ⟨11, a', b', c', d'⟩ ⟨p, r, ws, t⟩ = (s', E)) :
    Calls Tryz.prog 60 #[.pointer (some ⟨b, oo, none⟩), .agg #[.int .i64 11, .int .i64 a', .int .i64 b', .int .i64 c', .int .i64 d'], .slice wA wn wc] w (StPostO T pre post B b oo (.slice cA n cc) tv (.slice wA wn wc) s' E w) := by
  have hra : isR a' := by unfold okI isR isT at ho; unfold isR; dsimp only at ho; omega
  clear ho
  unfold isR at hra
  obtain ⟨a, rfl⟩ : ∃ a : Nat, a' = a := ⟨a'.toNat, by omega⟩
  have ha24 : a < 24 := by omega
  have h0 : Un (touch b b tv (.slice wA wn wc)) w w := Un.refl _ _
  have hlt := h.lt
  have t0 := h.code
  have t1 := h.at_
  dsimp only at t1
  have f1 := h.box.frozen (oo + 1)
  have ga := h.get ha24
  dsimp only at ga
  have fa := h.box.frozen (oo + 2 + a)
  have HTH := Lib.hid h
  have HRW := Lib.hid hrw
  clear h hrw
  rw [stp_11] at hs
  dsimp only at hs
  by_cases hz : r a = 0
  · rw [if_pos hz] at hs
    injection hs with hs1 hs2
    subst hs1 hs2
    have hv1 : (r (a : Int) == 0) = true := by simp [hz]
    have hv2 : (r (a : Int) != 0) = false := by simp [hz]
    have HZ := Lib.hid hz
    clear hz
    go_enter Tryz.func60, Tryz.ntmps60
    go_wp2
    refine region_two [0, 1, 2, 3, 4, 5, 6, 7] [] (by kernel_rfl) (by kernel_rfl) ?_
    simp only [pick, List.map_cons, List.map_nil, List.getD_cons_zero, List.getD_cons_succ]
    go_wp2
    go_ret
    exact ⟨rfl, ⟨_, (HTH.out.alloc _).drew, .inl rfl⟩, (h0.alloc _).drew⟩
  · rw [if_neg hz] at hs
    injection hs with hs1 hs2
    subst hs1 hs2
    have hv1 : (r (a : Int) == 0) = false := by simp [hz]
    have hv2 : (r (a : Int) != 0) = true := by simp [hz]
    have HZ := Lib.hid hz
    clear hz
    go_enter Tryz.func60, Tryz.ntmps60
    go_wp2
    refine region_two [0, 1, 2, 3, 4, 5, 6, 7] [] (by kernel_rfl) (by kernel_rfl) ?_
    simp only [pick, List.map_cons, List.map_nil, List.getD_cons_zero, List.getD_cons_succ]
    go_wp2
    go_ret
    exact ⟨rfl, ⟨_, ((HTH.out.next b').alloc _).drew, .inl rfl⟩, ((un_at h0 touch_b _ _).alloc _).drew⟩

set_option maxRecDepth 100000 in
set_option maxHeartbeats 4000000 in
theorem vm_exec12 (T : TypeId) (pre post : List Value) (oo : Nat) (w : World) (B b n cc wn wc : Nat) (cA wA : Option Addr) (tv : Value) (p : Int) (r : Int → Int) (ws t : List Int) (s' : Vs) (a' b' c' d' E : Int) (h : ToV T pre post w B b oo (.slice cA n cc) tv (.slice wA wn wc) ⟨p + 1, r, ws, t⟩) (hBs : B ≤ w.heap.size)
    (hwl : ws.length ≤ 200) (htl : t.length ≤ 200) (hrw : ∀ i, inW (r i)) (ho : okI n ⟨12, a', b', c', d'⟩) (hs : stp n ⟨12, a', b', c', d'⟩ ⟨p, r, ws, t⟩ = (s', E)) :
    Calls Tryz.prog 60 #[.pointer (some ⟨b, oo, none⟩), .agg #[.int .i64 12, .int .i64 a', .int .i64 b', .int .i64 c', .int .i64 d'], .slice wA wn wc] w (StPostO T pre post B b oo (.slice cA n cc) tv (.slice wA wn wc) s' E w) := by
  have hra : isR a' := by unfold okI isR isT at ho; unfold isR; dsimp only at ho; omega
  clear ho
  unfold isR at hra
  obtain ⟨a, rfl⟩ : ∃ a : Nat, a' = a := ⟨a'.toNat, by omega⟩
  have ha24 : a < 24 := by omega
  have h0 : Un (touch b b tv (.slice wA wn wc)) w w := Un.refl _ _
  have hlt := h.lt
  have t0 := h.code
  have t1 := h.at_
  dsimp only at t1
  have f1 := h.box.frozen (oo + 1)
  have ga := h.get ha24
  dsimp only at ga
  have fa := h.box.frozen (oo + 2 + a)
  have HTH := Lib.hid h
  have HRW := Lib.hid hrw
  clear h hrw
  rw [stp_12] at hs
  dsimp only at hs
  by_cases hz : r a = 0
  · rw [if_pos hz] at hs
    injection hs with hs1 hs2
    subst hs1 hs2
    have hv1 : (r (a : Int) == 0) = true := by simp [hz]
    have hv2 : (r (a : Int) != 0) = false := by simp [hz]
    have HZ := Lib.hid hz
    clear hz
    go_enter Tryz.func60, Tryz.ntmps60
    go_wp2
    refine region_two [0, 1, 2, 3, 4, 5, 6, 7] [] (by kernel_rfl) (by kernel_rfl) ?_
    simp only [pick, List.map_cons, List.map_nil, List.getD_cons_zero, List.getD_cons_succ]
    go_wp2
    go_ret
    exact ⟨rfl, ⟨_, ((HTH.out.next b').alloc _).drew, .inl rfl⟩, ((un_at h0 touch_b _ _).alloc _).drew⟩
  · rw [if_neg hz] at hs
    injection hs with hs1 hs2
    subst hs1 hs2
    have hv1 : (r (a : Int) == 0) = false := by simp [hz]
    have hv2 : (r (a : Int) != 0) = true := by simp [hz]
    have HZ := Lib.hid hz
    clear hz
    go_enter Tryz.func60, Tryz.ntmps60
    go_wp2
    refine region_two [0, 1, 2, 3, 4, 5, 6, 7] [] (by kernel_rfl) (by kernel_rfl) ?_
    simp only [pick, List.map_cons, List.map_nil, List.getD_cons_zero, List.getD_cons_succ]
    go_wp2
    go_ret
    exact ⟨rfl, ⟨_, (HTH.out.alloc _).drew, .inl rfl⟩, (h0.alloc _).drew⟩

set_option maxRecDepth 100000 in
set_option maxHeartbeats 4000000 in
theorem vm_exec13 (T : TypeId) (pre post : List Value) (oo : Nat) (w : World) (B b n cc wn wc : Nat) (cA wA : Option Addr) (tv : Value) (p : Int) (r : Int → Int) (ws t : List Int) (s' : Vs) (a' b' c' d' E : Int) (h : ToV T pre post w B b oo (.slice cA n cc) tv (.slice wA wn wc) ⟨p + 1, r, ws, t⟩) (hBs : B ≤ w.heap.size)
    (hwl : ws.length ≤ 200) (htl : t.length ≤ 200) (hrw : ∀ i, inW (r i)) (ho : okI n ⟨13, a', b', c', d'⟩) (hs : stp n ⟨13, a', b', c', d'⟩ ⟨p, r, ws, t⟩ = (s', E)) :
    Calls Tryz.prog 60 #[.pointer (some ⟨b, oo, none⟩), .agg #[.int .i64 13, .int .i64 a', .int .i64 b', .int .i64 c', .int .i64 d'], .slice wA wn wc] w (StPostO T pre post B b oo (.slice cA n cc) tv (.slice wA wn wc) s' E w) := by
  have HO := Lib.hid ho
  clear ho
  have h0 : Un (touch b b tv (.slice wA wn wc)) w w := Un.refl _ _
  have hlt := h.lt
  have t0 := h.code
  have t1 := h.at_
  dsimp only at t1
  have f1 := h.box.frozen (oo + 1)
  have HTH := Lib.hid h
  have HRW := Lib.hid hrw
  clear h hrw
  go_enter Tryz.func60, Tryz.ntmps60
  go_wp2_with fail
  refine (vm_accesso T pre post oo _ B b n wn wc wA _ tv ⟨p, r, ws, t⟩ s' 13 a' b' c' d' E (by exact HTH.out.alloc _) (by simp; omega) hwl (by omega) HO.out hs).mono ?_
  rintro e w1 ⟨rfl, hth1, hb1⟩
  go_wp2
  go_ret
  exact ⟨rfl, ⟨_, hth1, .inl rfl⟩, (h0.alloc _).trans hb1⟩

set_option maxRecDepth 100000 in
set_option maxHeartbeats 4000000 in
theorem vm_exec14 (T : TypeId) (pre post : List Value) (oo : Nat) (w : World) (B b n cc wn wc : Nat) (cA wA : Option Addr) (tv : Value) (p : Int) (r : Int → Int) (ws t : List Int) (s' : Vs) (a' b' c' d' E : Int) (h : ToV T pre post w B b oo (.slice cA n cc) tv (.slice wA wn wc) ⟨p + 1, r, ws, t⟩) (hBs : B ≤ w.heap.size)
    (hwl : ws.length ≤ 200) (htl : t.length ≤ 200) (hrw : ∀ i, inW (r i)) (ho : okI n ⟨14, a', b', c', d'⟩) (hs : stp n ⟨14, a', b', c', d'⟩ ⟨p, r, ws, t⟩ = (s', E)) :
    Calls Tryz.prog 60 #[.pointer (some ⟨b, oo, none⟩), .agg #[.int .i64 14, .int .i64 a', .int .i64 b', .int .i64 c', .int .i64 d'], .slice wA wn wc] w (StPostO T pre post B b oo (.slice cA n cc) tv (.slice wA wn wc) s' E w) := by
  have HO := Lib.hid ho
  clear ho
  have h0 : Un (touch b b tv (.slice wA wn wc)) w w := Un.refl _ _
  have hlt := h.lt
  have t0 := h.code
  have t1 := h.at_
  dsimp only at t1
  have f1 := h.box.frozen (oo + 1)
  have HTH := Lib.hid h
  have HRW := Lib.hid hrw
  clear h hrw
  go_enter Tryz.func60, Tryz.ntmps60
  go_wp2_with fail
  refine (vm_accesso T pre post oo _ B b n wn wc wA _ tv ⟨p, r, ws, t⟩ s' 14 a' b' c' d' E (by exact HTH.out.alloc _) (by simp; omega) hwl (by omega) HO.out hs).mono ?_
  rintro e w1 ⟨rfl, hth1, hb1⟩
  go_wp2
  go_ret
  exact ⟨rfl, ⟨_, hth1, .inl rfl⟩, (h0.alloc _).trans hb1⟩

set_option maxRecDepth 100000 in
set_option maxHeartbeats 4000000 in
theorem vm_exec15 (T : TypeId) (pre post : List Value) (oo : Nat) (w : World) (B b n cc wn wc : Nat) (cA wA : Option Addr) (tv : Value) (p : Int) (r : Int → Int) (ws t : List Int) (s' : Vs) (a' b' c' d' E : Int) (h : ToV T pre post w B b oo (.slice cA n cc) tv (.slice wA wn wc) ⟨p + 1, r, ws, t⟩) (hBs : B ≤ w.heap.size)
    (hwl : ws.length ≤ 200) (htl : t.length ≤ 200) (hrw : ∀ i, inW (r i)) (ho : okI n ⟨15, a', b', c', d'⟩) (hs : stp n ⟨15, a', b', c', d'⟩ ⟨p, r, ws, t⟩ = (s', E)) :
    Calls Tryz.prog 60 #[.pointer (some ⟨b, oo, none⟩), .agg #[.int .i64 15, .int .i64 a', .int .i64 b', .int .i64 c', .int .i64 d'], .slice wA wn wc] w (StPostO T pre post B b oo (.slice cA n cc) tv (.slice wA wn wc) s' E w) := by
  have HO := Lib.hid ho
  clear ho
  have h0 : Un (touch b b tv (.slice wA wn wc)) w w := Un.refl _ _
  have hlt := h.lt
  have t0 := h.code
  have t1 := h.at_
  dsimp only at t1
  have f1 := h.box.frozen (oo + 1)
  have HTH := Lib.hid h
  have HRW := Lib.hid hrw
  clear h hrw
  go_enter Tryz.func60, Tryz.ntmps60
  go_wp2_with fail
  refine (vm_accesso T pre post oo _ B b n wn wc wA _ tv ⟨p, r, ws, t⟩ s' 15 a' b' c' d' E (by exact HTH.out.alloc _) (by simp; omega) hwl (by omega) HO.out hs).mono ?_
  rintro e w1 ⟨rfl, hth1, hb1⟩
  go_wp2
  go_ret
  exact ⟨rfl, ⟨_, hth1, .inl rfl⟩, (h0.alloc _).trans hb1⟩

set_option maxRecDepth 100000 in
set_option maxHeartbeats 4000000 in
theorem vm_exec16 (T : TypeId) (pre post : List Value) (oo : Nat) (w : World) (B b n cc wn wc : Nat) (cA wA : Option Addr) (tv : Value) (p : Int) (r : Int → Int) (ws t : List Int) (s' : Vs) (a' b' c' d' E : Int) (h : ToV T pre post w B b oo (.slice cA n cc) tv (.slice wA wn wc) ⟨p + 1, r, ws, t⟩) (hBs : B ≤ w.heap.size)
    (hwl : ws.length ≤ 200) (htl : t.length ≤ 200) (hrw : ∀ i, inW (r i)) (ho : okI n ⟨16, a', b', c', d'⟩) (hs : stp n ⟨16, a', b', c', d'⟩ ⟨p, r, ws, t⟩ = (s', E)) :
    Calls Tryz.prog 60 #[.pointer (some ⟨b, oo, none⟩), .agg #[.int .i64 16, .int .i64 a', .int .i64 b', .int .i64 c', .int .i64 d'], .slice wA wn wc] w (StPostO T pre post B b oo (.slice cA n cc) tv (.slice wA wn wc) s' E w) := by
  have hra : isR a' := by unfold okI isR isT at ho; unfold isR; dsimp only at ho; omega
  clear ho
  unfold isR at hra
  obtain ⟨a, rfl⟩ : ∃ a : Nat, a' = a := ⟨a'.toNat, by omega⟩
  have ha24 : a < 24 := by omega
  have h0 : Un (touch b b tv (.slice wA wn wc)) w w := Un.refl _ _
  have hlt := h.lt
  have t0 := h.code
  have t1 := h.at_
  dsimp only at t1
  have f1 := h.box.frozen (oo + 1)
  have ga := h.get ha24
  dsimp only at ga
  have fa := h.box.frozen (oo + 2 + a)
  have HTH := Lib.hid h
  have HRW := Lib.hid hrw
  clear h hrw
  rw [stp_16] at hs
  dsimp only at hs
  obtain ⟨t', ht'⟩ : ∃ t', t' = if t.length = 200 then t else t ++ [r a] := ⟨_, rfl⟩
  obtain ⟨E', hE'⟩ : ∃ E', E' = if t.length = 200 then (8 : Int) else 0 := ⟨_, rfl⟩
  have hse : s' = ⟨p + 1, r, ws, t'⟩ ∧ E = E' := by
    by_cases hz : t.length = 200
    · rw [if_pos hz] at hs ht' hE'; injection hs with hs1 hs2; subst hs1 hs2 ht' hE'; exact ⟨rfl, rfl⟩
    · rw [if_neg hz] at hs ht' hE'; injection hs with hs1 hs2; subst hs1 hs2 ht' hE'; exact ⟨rfl, rfl⟩
  obtain ⟨rfl, rfl⟩ := hse
  have HT' := Lib.hid ht'
  have HE' := Lib.hid hE'
  clear hs ht' hE'
  go_enter Tryz.func60, Tryz.ntmps60
  go_wp2
  refine region_two [0, 1, 2, 3, 4, 5, 6, 7] [8, 9] (by kernel_rfl) (by kernel_rfl) ?_
  simp only [pick, List.map_cons, List.map_nil, List.getD_cons_zero, List.getD_cons_succ]
  go_wp2_with fail
  refine (vm_emito T pre post oo _ B b _ tv _ ⟨p + 1, r, ws, t⟩ (r a) (by exact (HTH.out.alloc _).drew) (by simp; omega) htl E t' HE'.out HT'.out).mono ?_
  rintro e w1 ⟨rfl, hth1, hb1⟩
  go_wp2
  go_ret
  obtain ⟨tv1, hth2, hbk⟩ := hth1
  exact ⟨rfl, ⟨tv1, hth2, hbk.imp id (fun ⟨k, e, hk⟩ => ⟨k, e, by simp at hk; omega⟩)⟩, (h0.alloc _).drew.trans hb1⟩

set_option maxRecDepth 100000 in
set_option maxHeartbeats 4000000 in
theorem vm_exec17 (T : TypeId) (pre post : List Value) (oo : Nat) (w : World) (B b n cc wn wc : Nat) (cA wA : Option Addr) (tv : Value) (p : Int) (r : Int → Int) (ws t : List Int) (s' : Vs) (a' b' c' d' E : Int) (h : ToV T pre post w B b oo (.slice cA n cc) tv (.slice wA wn wc) ⟨p + 1, r, ws, t⟩) (hBs : B ≤ w.heap.size)
    (hwl : ws.length ≤ 200) (htl : t.length ≤ 200) (hrw : ∀ i, inW (r i)) (ho : okI n ⟨17, a', b', c', d'⟩) (hs : stp n ⟨17, a', b', c', d'⟩ ⟨p, r, ws, t⟩ = (s', E)) :
    Calls Tryz.prog 60 #[.pointer (some ⟨b, oo, none⟩), .agg #[.int .i64 17, .int .i64 a', .int .i64 b', .int .i64 c', .int .i64 d'], .slice wA wn wc] w (StPostO T pre post B b oo (.slice cA n cc) tv (.slice wA wn wc) s' E w) := by
  clear ho
  have h0 : Un (touch b b tv (.slice wA wn wc)) w w := Un.refl _ _
  have hlt := h.lt
  have t0 := h.code
  have t1 := h.at_
  dsimp only at t1
  have f1 := h.box.frozen (oo + 1)
  have HTH := Lib.hid h
  have HRW := Lib.hid hrw
  clear h hrw
  rw [stp_17] at hs
  injection hs with hs1 hs2
  subst hs1 hs2
  go_enter Tryz.func60, Tryz.ntmps60
  go_wp2_with fail
  refine (vm_endo T pre post oo _ B b n cc cA tv _ ⟨p + 1, r, ws, t⟩ (by exact HTH.out.alloc _)).mono ?_
  rintro e w1 ⟨rfl, hth1, hb1⟩
  go_wp2
  go_ret
  exact ⟨rfl, ⟨_, hth1, .inl rfl⟩, (h0.alloc _).trans hb1⟩

set_option maxRecDepth 100000 in
set_option maxHeartbeats 4000000 in
theorem vm_execC (T : TypeId) (pre post : List Value) (oo : Nat) (w : World) (B b n cc wn wc : Nat) (cA wA : Option Addr) (tv : Value) (p : Int) (r : Int → Int) (ws t : List Int) (s' : Vs) (k : Int) (hk : 3 ≤ k ∧ k ≤ 9) (a' b' c' d' E : Int) (h : ToV T pre post w B b oo (.slice cA n cc) tv (.slice wA wn wc) ⟨p + 1, r, ws, t⟩) (hBs : B ≤ w.heap.size)
    (hwl : ws.length ≤ 200) (htl : t.length ≤ 200) (hrw : ∀ i, inW (r i)) (ho : okI n ⟨k, a', b', c', d'⟩) (hs : stp n ⟨k, a', b', c', d'⟩ ⟨p, r, ws, t⟩ = (s', E)) :
    Calls Tryz.prog 60 #[.pointer (some ⟨b, oo, none⟩), .agg #[.int .i64 k, .int .i64 a', .int .i64 b', .int .i64 c', .int .i64 d'], .slice wA wn wc] w (StPostO T pre post B b oo (.slice cA n cc) tv (.slice wA wn wc) s' E w) := by
  have hra : isR a' := by unfold okI isR isT at ho; unfold isR; dsimp only at ho; omega
  have hrb : isR b' := by unfold okI isR isT at ho; unfold isR; dsimp only at ho; omega
  have hrc : isR c' := by unfold okI isR isT at ho; unfold isR; dsimp only at ho; omega
  clear ho
  unfold isR at hra
  obtain ⟨a, rfl⟩ : ∃ a : Nat, a' = a := ⟨a'.toNat, by omega⟩
  have ha24 : a < 24 := by omega
  unfold isR at hrb
  obtain ⟨b_r, rfl⟩ : ∃ b_r : Nat, b' = b_r := ⟨b'.toNat, by omega⟩
  have hb24 : b_r < 24 := by omega
  unfold isR at hrc
  obtain ⟨c, rfl⟩ : ∃ c : Nat, c' = c := ⟨c'.toNat, by omega⟩
  have hc24 : c < 24 := by omega
  have h0 : Un (touch b b tv (.slice wA wn wc)) w w := Un.refl _ _
  have hlt := h.lt
  have t0 := h.code
  have t1 := h.at_
  dsimp only at t1
  have f1 := h.box.frozen (oo + 1)
  have ga := h.get ha24
  dsimp only at ga
  have fa := h.box.frozen (oo + 2 + a)
  have gb := h.get hb24
  dsimp only at gb
  have fb := h.box.frozen (oo + 2 + b_r)
  have gc := h.get hc24
  dsimp only at gc
  have fc := h.box.frozen (oo + 2 + c)
  have HTH := Lib.hid h
  have HRW := Lib.hid hrw
  clear h hrw
  rw [stp_cmp hk] at hs
  injection hs with hs1 hs2
  subst hs1 hs2
  dsimp only at *
  have e1 : (k == 1) = false := by simp; omega
  have e2 : (k == 2) = false := by simp; omega
  have e10 : (k == 10) = false := by simp; omega
  have e11 : (k == 11) = false := by simp; omega
  have e12 : (k == 12) = false := by simp; omega
  have e13 : (k == 13) = false := by simp; omega
  have e14 : (k == 14) = false := by simp; omega
  have e15 : (k == 15) = false := by simp; omega
  have e16 : (k == 16) = false := by simp; omega
  have e17 : (k == 17) = false := by simp; omega
  go_enter Tryz.func60, Tryz.ntmps60
  go_wp2
  refine region_first [0, 1, 2, 3, 4, 5, 6, 7, 8, 9, 10, 11, 12, 13, 14, 15, 16, 17, 18, 20, 21] (.cons 19 (seq [22] (seq [23] .nil))) (by kernel_rfl) (by kernel_rfl) ?_
  simp only [pick, List.map_cons, List.map_nil, List.getD_cons_zero, List.getD_cons_succ]
  go_wp2
  refine ord_call (by kernel_rfl) ?_
  simp only [pick, List.map_cons, List.map_nil, List.getD_cons_zero, List.getD_cons_succ]
  go_wp2_with (go_at_call 76; refine (vm_compute k _ _ _ hk (HRW.out _) (HRW.out _)).mono ?_; rintro e w' ⟨rfl, rfl⟩)
  refine ord_more [22] (seq [23] .nil) (by kernel_rfl) ?_
  simp only [pick, List.map_cons, List.map_nil, List.getD_cons_zero, List.getD_cons_succ]
  go_wp2
  refine ord_last [23] (by kernel_rfl) ?_
  simp only [pick, List.map_cons, List.map_nil, List.getD_cons_zero, List.getD_cons_succ]
  go_wp2
  go_ret
  exact ⟨rfl, ⟨_, ((HTH.out.reg ha24 _).alloc _).drew, .inl rfl⟩, ((un_at h0 touch_b _ _).alloc _).drew⟩

theorem vm_execo (T : TypeId) (pre post : List Value) (oo : Nat) (w : World) (B b n cc wn wc : Nat) (cA wA : Option Addr) (tv : Value) (s s' : Vs) (k a b' c d : Int) (E : Int) (h : ToV T pre post w B b oo (.slice cA n cc) tv (.slice wA wn wc) { s with p := s.p + 1 }) (hBs : B ≤ w.heap.size)
    (hok : Ok n s) (ho : okI n ⟨k, a, b', c, d⟩) (hs : stp n ⟨k, a, b', c, d⟩ s = (s', E)) :
    Calls Tryz.prog 60 #[.pointer (some ⟨b, oo, none⟩), .agg #[.int .i64 k, .int .i64 a, .int .i64 b', .int .i64 c, .int .i64 d], .slice wA wn wc] w (StPostO T pre post B b oo (.slice cA n cc) tv (.slice wA wn wc) s' E w) := by
  obtain ⟨p, r, ws, t⟩ := s
  obtain ⟨q1, q2, q3, q4, q5, q6, q7⟩ := hok
  dsimp only at q1 q2 q3 q4 q5 q6 q7 h
  have hk : 1 ≤ k ∧ k ≤ 17 := okI_kind ho
  rcases (by omega : (3 ≤ k ∧ k ≤ 9) ∨ k = 1 ∨ k = 2 ∨ k = 10 ∨ k = 11 ∨ k = 12 ∨ k = 13 ∨ k = 14 ∨ k = 15 ∨ k = 16 ∨ k = 17) with hk | rfl | rfl | rfl | rfl | rfl | rfl | rfl | rfl | rfl | rfl
  · exact vm_execC T pre post oo w B b n cc wn wc cA wA tv p r ws t s' k hk a b' c d E h hBs q5 q7 q3 ho hs
  · exact vm_exec1 T pre post oo w B b n cc wn wc cA wA tv p r ws t s' a b' c d E h hBs q5 q7 q3 ho hs
  · exact vm_exec2 T pre post oo w B b n cc wn wc cA wA tv p r ws t s' a b' c d E h hBs q5 q7 q3 ho hs
  · exact vm_exec10 T pre post oo w B b n cc wn wc cA wA tv p r ws t s' a b' c d E h hBs q5 q7 q3 ho hs
  · exact vm_exec11 T pre post oo w B b n cc wn wc cA wA tv p r ws t s' a b' c d E h hBs q5 q7 q3 ho hs
  · exact vm_exec12 T pre post oo w B b n cc wn wc cA wA tv p r ws t s' a b' c d E h hBs q5 q7 q3 ho hs
  · exact vm_exec13 T pre post oo w B b n cc wn wc cA wA tv p r ws t s' a b' c d E h hBs q5 q7 q3 ho hs
  · exact vm_exec14 T pre post oo w B b n cc wn wc cA wA tv p r ws t s' a b' c d E h hBs q5 q7 q3 ho hs
  · exact vm_exec15 T pre post oo w B b n cc wn wc cA wA tv p r ws t s' a b' c d E h hBs q5 q7 q3 ho hs
  · exact vm_exec16 T pre post oo w B b n cc wn wc cA wA tv p r ws t s' a b' c d E h hBs q5 q7 q3 ho hs
  · exact vm_exec17 T pre post oo w B b n cc wn wc cA wA tv p r ws t s' a b' c d E h hBs q5 q7 q3 ho hs

end Go.Proofs.YtnchgdjdfhfedaaGreatDoor

set_option linter.unusedSimpArgs false
set_option linter.unusedVariables false
namespace Go.Proofs.YtnchgdjdfhfedaaGreatDoor
open Go.RowKit Go.Ord Go.Baro

/-- One call behind another, where what was told has come to lie in a new block. -/
theorem un_next {b mb : Nat} {tv tv2 wv : Value} {w w2 w3 : World} (h : Un (touch b mb tv wv) w w2) (k : Un (touch b mb tv2 wv) w2 w3) (hb : tv2.ownBlock = tv.ownBlock ∨ ∃ k, tv2.ownBlock = some k ∧ w.heap.size ≤ k) : Un (touch b mb tv wv) w w3 := by
  refine ⟨k.os.trans h.os, k.tape.trans h.tape, k.output.trans h.output, Nat.le_trans h.size k.size, fun i hi hx => (k.block i (Nat.lt_of_lt_of_le hi h.size) fun ht => hx ?_).trans (h.block i hi hx)⟩
  rcases ht with ht | ht | ht | ht
  · exact .inl ht
  · exact .inr (.inl ht)
  · rcases hb with hb | ⟨q, hq, hs⟩
    · exact .inr (.inr (.inl (hb ▸ ht)))
    · rw [hq] at ht; injection ht with ht; omega
  · exact .inr (.inr (.inr ht))

set_option maxRecDepth 100000 in
set_option maxHeartbeats 4000000 in
theorem vm_Stepo (T : TypeId) (pre post : List Value) (oo : Nat) (w : World) (B Bc b n cc wn wc : Nat) (cA wA : Option Addr) (tv : Value) (l : List Ins) (s s' : Vs) (o : Ins) (E : Int) (h : ToV T pre post w B b oo (.slice cA n cc) tv (.slice wA wn wc) s) (hBs : B ≤ w.heap.size)
    (hc : RO w Bc cA n l) (hBc : Bc ≤ w.heap.size) (hp : s.p < n) (hn : n ≤ 200) (hok : Ok n s) (hx : l[s.p.toNat]? = some o) (ho : okI n o) (hs : stp n o s = (s', E)) :
    Calls Tryz.prog 50 #[.pointer (some ⟨b, oo, none⟩), .slice wA wn wc] w (StPostO T pre post B b oo (.slice cA n cc) tv (.slice wA wn wc) (aft n E s') E w) := by
  obtain ⟨p', r, ws, t⟩ := s
  have q1 := hok.lo
  dsimp only at q1 hp hx
  obtain ⟨p, rfl⟩ : ∃ p : Nat, p' = p := ⟨p'.toNat, by omega⟩
  rw [Int.toNat_natCast] at hx
  have hpn : p < n := by omega
  have h0 : Un (touch b b tv (.slice wA wn wc)) w w := Un.refl _ _
  have HTH := Lib.hid h
  have HOK := Lib.hid hok
  have HO := Lib.hid ho
  have HS := Lib.hid hs
  have HC := Lib.hid hc
  have HXX := Lib.hid hx
  have hv : ((p : Int) == (n : Int)) = false := by simp; omega
  clear h hok ho hs hc hx
  go_enter Tryz.func50, Tryz.ntmps50
  go_wp2_with fail
  refine (vm_endedo T pre post oo w B b n cc _ tv _ ⟨p, r, ws, t⟩ false HTH.out (by simp; omega)).mono ?_
  rintro e w1 ⟨rfl, hw1⟩
  have h1 : ToV T pre post w1 B b oo (.slice cA n cc) tv (.slice wA wn wc) ⟨p, r, ws, t⟩ := by rw [hw1]; exact HTH.out.drewN 1
  have hc1 : RO w1 Bc cA n l := by rw [hw1]; exact HC.out.heap rfl
  have hu1 : Un (touch b b tv (.slice wA wn wc)) w w1 := by rw [hw1]; exact h0.drewN 1
  have hsz1 : w1.heap.size ≤ w.heap.size := by rw [hw1]; exact Nat.le_refl _
  have hsz2 : w.heap.size ≤ w1.heap.size := by rw [hw1]; exact Nat.le_refl _
  clear hw1 h0
  obtain ⟨bc, oc, k0, x0, y0, z0, u0, rfl, hbc, c0, c1, c2, c3, c4, HX, hmem⟩ := hc1.val hpn
  have hX := HX.out
  rw [HXX.out] at hX
  simp only [Option.some.injEq] at hX
  subst hX
  clear HX hmem hc1
  have hlt := h1.lt
  have hcs : bc < w1.heap.size := by omega
  have t0 := h1.code
  have t1 := h1.at_
  dsimp only at t1
  have f1 := h1.box.frozen (oo + 1)
  have HT1 := Lib.hid h1
  clear h1
  go_wp2
  refine region_first [0, 1, 2, 3, 4, 5, 6, 7, 8, 9] (.cons 10 (seq [11] .nil)) (by kernel_rfl) (by kernel_rfl) ?_
  simp only [pick, List.map_cons, List.map_nil, List.getD_cons_zero, List.getD_cons_succ]
  go_wp2
  refine ord_call (by kernel_rfl) ?_
  simp only [pick, List.map_cons, List.map_nil, List.getD_cons_zero, List.getD_cons_succ]
  go_wp2
  refine ⟨(((Below.refl w1.heap.size w1).alloc (Nat.le_refl _) _).drew).block, ?_⟩
  refine ord_last [11] (by kernel_rfl) ?_
  simp only [pick, List.map_cons, List.map_nil, List.getD_cons_zero, List.getD_cons_succ]
  go_wp2_with fail
  refine (vm_execo T pre post oo _ B b n cc wn wc _ wA tv ⟨p, r, ws, t⟩ s' k0 x0 y0 z0 u0 E (by exact ((HT1.out.next (p + 1)).alloc _).drew) (by simp; omega) HOK.out HO.out HS.out).mono ?_
  rintro e w2 ⟨rfl, ⟨tv2, hth2, hbk⟩, hb2⟩
  have hbk' : tv2.ownBlock = tv.ownBlock ∨ ∃ k, tv2.ownBlock = some k ∧ w.heap.size ≤ k := hbk.imp id (fun ⟨k, e, hk⟩ => ⟨k, e, by simp at hk; omega⟩)
  have hu2 : Un (touch b b tv (.slice wA wn wc)) w w2 := ((un_at hu1 touch_b _ _).alloc _).drew.trans hb2
  by_cases hE : E = 0
  · subst hE
    go_wp2
    go_ret
    exact ⟨rfl, ⟨tv2, hth2, hbk'⟩, hu2⟩
  · have hv2 : (E != 0) = true := by simp [hE]
    have HE := Lib.hid hE
    clear hE
    go_wp2_with fail
    refine (vm_endo T pre post oo _ B b n cc _ tv2 _ s' hth2).mono ?_
    rintro e w3 ⟨rfl, hth3, hb3⟩
    go_wp2
    go_ret
    refine ⟨rfl, ⟨tv2, by rw [aft_err HE.out]; exact hth3, hbk'⟩, un_next hu2 hb3 hbk'⟩
/-- A step of a thread within a call, its code valid: what it does of itself. -/
theorem vm_Stepx (T : TypeId) (pre post : List Value) (oo : Nat) (w : World) (B Bc b n cc wn wc : Nat) (cA wA : Option Addr) (tv : Value) (L L' : Lv) (ws W' : List Int) (E : Int) (en : Bool) (h : ToV T pre post w B b oo (.slice cA n cc) tv (.slice wA wn wc) ⟨L.p, L.r, ws, L.t⟩) (hBs : B ≤ w.heap.size)
    (hc : RO w Bc cA n L.c) (hBc : Bc ≤ w.heap.size) (hok : okC L.c) (hl : LOk L) (hw : WOk ws) (hx : exc L ws = (L', W', E, en)) :
    Calls Tryz.prog 50 #[.pointer (some ⟨b, oo, none⟩), .slice wA wn wc] w fun e w' => ∃ q : Int, StPostO T pre post B b oo (.slice cA n cc) tv (.slice wA wn wc) ⟨q, L'.r, W', L'.t⟩ E w e w' ∧ (en = true ↔ q = n) ∧ (en = false → q = L'.p ∧ L'.c = L.c) := by
  have hlen := hc.len
  by_cases hp : L.p = L.c.length
  · rw [exc_none hp] at hx
    simp only [Prod.mk.injEq] at hx
    obtain ⟨rfl, rfl, rfl, rfl⟩ := hx
    have h0 : Un (touch b b tv (.slice wA wn wc)) w w := Un.refl _ _
    have HTH := Lib.hid h
    have hpn : L.p = n := by omega
    have HP := Lib.hid hpn
    clear h hp hpn
    go_enter Tryz.func50, Tryz.ntmps50
    go_wp2_with fail
    refine (vm_endedo T pre post oo w B b n cc _ tv _ ⟨L.p, L.r, ws, L.t⟩ true HTH.out (by simp; exact HP.out)).mono ?_
    rintro e w1 ⟨rfl, rfl⟩
    go_wp2
    go_ret
    exact ⟨L.p, ⟨rfl, ⟨tv, HTH.out.drewN 1, .inl rfl⟩, h0.drewN 1⟩, by simp; exact HP.out, by simp⟩
  · have hlt : L.p < L.c.length := by have := hl.2.1; omega
    have hlo := hl.1
    have hn : L.p.toNat < L.c.length := by omega
    obtain ⟨o, ho⟩ : ∃ o, L.c[L.p.toNat]? = some o := ⟨_, List.getElem?_eq_getElem hn⟩
    obtain ⟨s', E', hs⟩ : ∃ s' E', stp L.c.length o ⟨L.p, L.r, ws, L.t⟩ = (s', E') := ⟨_, _, rfl⟩
    rw [exc_stp hlt ho hs] at hx
    simp only [Prod.mk.injEq] at hx
    obtain ⟨rfl, rfl, rfl, rfl⟩ := hx
    refine (vm_Stepo T pre post oo w B Bc b n cc wn wc cA wA tv L.c ⟨L.p, L.r, ws, L.t⟩ s' o E' h hBs hc hBc (by dsimp only; omega) (by have := hok.1; omega) (by rw [← hlen]; exact ok_of hl hw) ho (by rw [← hlen]; exact hok.2 o (List.mem_of_getElem? ho)) (by rw [← hlen]; exact hs)).mono ?_
    intro e w' hP
    refine ⟨if E' = 0 then s'.p else n, hP, ?_, ?_⟩
    · rw [hlen]
      by_cases hE : E' = 0
      · simp [hE]
      · simp [hE]
    · intro hf
      simp at hf
      simp [hf.1]
end Go.Proofs.YtnchgdjdfhfedaaGreatDoor

set_option linter.unusedSimpArgs false
set_option linter.unusedVariables false
namespace Go.Proofs.YtnchgdjdfhfedaaGreatDoor
open Go.RowKit Go.Ord Go.Baro

theorem run_eql_nilS {P : Program} (w : World) (t e : TypeId) (a : Option Addr) (l c : Nat) (h : P.underlying t = some (.slice e)) : (binOp .eql t (.slice a l c) (.slice none 0 0)).run P w = .ok (.bool a.isNone) w := by
  simp only [binOp]
  simp [run_equal_slice_nil w t e a l c h]
theorem eltOpC : Elt Tryz.prog 28 67 (.agg #[.int .i64 0, .int .i64 0, .int .i64 0, .int .i64 0, .int .i64 0]) 5 40 := Elt.mk' Tryz.underlying28 (by kernel_rfl) rfl (by decide)
theorem cellsO_one (l : List Ins) : ∀ v ∈ cellsO l, v.oneCell' = true := by
  intro v hv
  simp only [cellsO, insV, List.mem_flatMap, List.mem_cons, List.not_mem_nil, or_false] at hv
  obtain ⟨o, _, h⟩ := hv
  rcases h with rfl | rfl | rfl | rfl | rfl <;> rfl

set_option maxHeartbeats 1000000 in
theorem slices_CloneO (l : List Ins) (A : Option Addr) (n c B : Nat) (w : World) (hb : RO w B A n l) (hB : B ≤ w.heap.size) (hn : n ≤ 200) :
    Calls Tryz.prog 42 #[.slice A n c] w fun e w' => ∃ v, e = .returned v ∧ w'.ownsRow w.heap.size 67 5 v n (cellsO l) ∧ Below w.heap.size w w' := by
  have HL := Lib.hid hb.len
  cases A with
  | none =>
    have hn0 : n = 0 := by
      rcases Nat.eq_zero_or_pos n with h0 | h0
      · exact h0
      · obtain ⟨b, q, hA, _⟩ := Rd.at_ hb h0; cases hA
    subst hn0
    have hl : l = [] := List.eq_nil_of_length_eq_zero HL.out
    subst hl
    have hnil := run_eql_nilS w _ _ none 0 c Tryz.underlying28
    go_enter Tryz.func42, Tryz.ntmps42
    go_wp2
    go_ret
    exact ⟨_, rfl, World.ownsRow_nil _ _ _ _, Below.refl _ _⟩
  | some ad =>
    have hnil := run_eql_nilS w _ _ (some ad) n c Tryz.underlying28
    go_enter Tryz.func42, Tryz.ntmps42
    go_wp2_with (at_builtin; go_must (refine app_src eltOpC _ rfl _ _ rfl w.heap.size _ 0 [] rfl (World.ownsRow_lit w #[] 0 (Nat.le_refl _) (by unfold maxLen; omega) rfl) (some ad) n c (cellsO l) rfl _ (RO.below hb ((Below.refl _ _).alloc (by omega) _)) (cellsO_one _) (by omega) (by omega) (by simp) ?_); intro v3 w3 hown3 hgr3 hbel3 _)
    go_ret
    refine ⟨_, rfl, ?_, hbel3 _ ((Below.refl _ _).alloc (Nat.le_refl _) _)⟩
    simpa using hown3

set_option maxHeartbeats 1000000 in
theorem slices_CloneI (l : List Int) (A : Option Addr) (n c B : Nat) (w : World) (hb : RI w B .i64 A n l) (hB : B ≤ w.heap.size) (hn : n ≤ 200) :
    Calls Tryz.prog 34 #[.slice A n c] w fun e w' => ∃ v, e = .returned v ∧ w'.ownsRow w.heap.size 3 1 v n (l.map (Value.int .i64)) ∧ Below w.heap.size w w' := by
  have HL := Lib.hid hb.len
  cases A with
  | none =>
    have hn0 : n = 0 := by
      rcases Nat.eq_zero_or_pos n with h0 | h0
      · exact h0
      · obtain ⟨b, q, hA, _⟩ := Rd.at_ hb h0; cases hA
    subst hn0
    have hl : l = [] := List.eq_nil_of_length_eq_zero HL.out
    subst hl
    have hnil := run_eql_nilS w _ _ none 0 c Tryz.underlying22
    go_enter Tryz.func34, Tryz.ntmps34
    go_wp2
    go_ret
    exact ⟨_, rfl, World.ownsRow_nil _ _ _ _, Below.refl _ _⟩
  | some ad =>
    have hnil := run_eql_nilS w _ _ (some ad) n c Tryz.underlying22
    go_enter Tryz.func34, Tryz.ntmps34
    go_wp2_with (at_builtin; go_must (refine app_src eltInt _ rfl _ _ rfl w.heap.size _ 0 [] rfl (World.ownsRow_lit w #[] 0 (Nat.le_refl _) (by unfold maxLen; omega) rfl) (some ad) n c (l.map (Value.int .i64)) rfl _ (RI.below hb ((Below.refl _ _).alloc (by omega) _)) (one_ints _ _) (by omega) (by omega) (by simp) ?_); intro v3 w3 hown3 hgr3 hbel3 _)
    go_ret
    refine ⟨_, rfl, ?_, hbel3 _ ((Below.refl _ _).alloc (Nat.le_refl _) _)⟩
    simpa using hown3

/-- What a call has told, in a row of its own. -/
theorem vm_Toldo (T : TypeId) (pre post : List Value) (o : Nat) (w : World) (B b : Nat) (cv tv wv : Value) (s : Vs) (h : ToV T pre post w B b o cv tv wv s) (hl : s.t.length ≤ 200) :
    Calls Tryz.prog 51 #[.pointer (some ⟨b, o, none⟩)] w fun e w' => ∃ v, e = .returned v ∧ w'.ownsRow w.heap.size 3 1 v s.t.length (s.t.map (Value.int .i64)) ∧ Below w.heap.size w w' := by
  obtain ⟨A, c, rfl, _⟩ := own_form h.told
  have t26 := h.toldv
  have hr := Rd.of_own h.told
  have hlt := h.lt
  obtain ⟨m, hm⟩ : ∃ m, m = s.t.length := ⟨_, rfl⟩
  rw [← hm] at t26 hr hl ⊢
  clear h hm
  go_enter Tryz.func51, Tryz.ntmps51
  go_wp2_with fail
  refine (slices_CloneI s.t A m c w.heap.size w hr (Nat.le_refl _) hl).mono ?_
  rintro e w1 ⟨v, rfl, h1, h2⟩
  go_wp2
  go_ret
  exact ⟨v, rfl, h1, h2⟩
end Go.Proofs.YtnchgdjdfhfedaaGreatDoor

set_option linter.unusedSimpArgs false
set_option linter.unusedVariables false
namespace Go.Proofs.YtnchgdjdfhfedaaGreatDoor
open Go.RowKit Go.Ord Go.Baro Go.Maps

theorem cellsJ_at (l : List (Int × Nm)) : ∀ (i : Nat) (j : Int × Nm), l[i]? = some j → (cellsJ l)[i * 2]? = some (.int .i64 j.1) ∧ (cellsJ l)[i * 2 + 1]? = some (nmV j.2) := by
  induction l with
  | nil => intro i j h; simp at h
  | cons f l ih =>
    intro i j h
    have hc : cellsJ (f :: l) = jmpV f ++ cellsJ l := rfl
    rw [hc]
    cases i with
    | zero => simp at h; subst h; simp [jmpV]
    | succ i =>
      have := ih i j (by simpa using h)
      rw [List.getElem?_append_right (by simp [jmpV]; omega), List.getElem?_append_right (by simp [jmpV]; omega)]
      simp [jmpV, show (i + 1) * 2 - 2 = i * 2 by omega, show (i + 1) * 2 + 1 - 2 = i * 2 + 1 by omega, this]
theorem cellsO_set : ∀ (l : List Ins) (i k : Nat) (o o' : Ins), l[i]? = some o → (∃ v, (insV o).set k v = insV o') → k < 5 → ∀ v, (insV o).set k v = insV o' → (cellsO l).set (i * 5 + k) v = cellsO (l.set i o')
  | [], i, k, o, o', h, _, _, _, _ => by simp at h
  | f :: l, 0, k, o, o', h, _, hk, v, hv => by
    simp at h
    subst h
    have hc : ∀ g : Ins, cellsO (g :: l) = insV g ++ cellsO l := fun _ => rfl
    rw [List.set_cons_zero, hc, hc, Nat.zero_mul, Nat.zero_add, List.set_append_left _ _ (by simp [insV]; exact hk), hv]
  | f :: l, i + 1, k, o, o', h, hh, hk, v, hv => by
    have hc : ∀ (g : Ins) (t : List Ins), cellsO (g :: t) = insV g ++ cellsO t := fun _ _ => rfl
    rw [List.set_cons_succ, hc, hc, List.set_append_right _ _ (by simp [insV]; omega), ← cellsO_set l i k o o' (by simpa using h) hh hk v hv]
    congr 2
    simp [insV]
    omega
set_option maxRecDepth 100000 in
set_option maxHeartbeats 2000000 in
theorem asm_Code (w : World) (hT : Tab w) (B b n : Nat) (s : Bs) (c : List Ins) (h : BdAt w B b s n) (hf : s.fin = some c) (hj0 : ∀ j ∈ s.jmps, 0 ≤ j.1 ∧ j.2.length ≤ 1000) (hjl : s.jmps.length ≤ 1000) :
    Calls Tryz.prog 22 #[.pointer (some ⟨b, 0, none⟩)] w fun e w' => ∃ v, e = .returned (.tuple #[v, .int .i64 0]) ∧ w'.ownsRow w.heap.size 67 5 v c.length (cellsO c) ∧ Below w.heap.size w w' := by
  obtain ⟨cv, jv, rm, lm, h⟩ := h
  obtain ⟨f1, f2, f3⟩ := Bs.fin_some hf
  have hcl := rslv_len _ _ _ _ f2
  have hlt := h.lt
  obtain ⟨A, k, rfl, hlc⟩ := own_form h.code
  obtain ⟨Aj, kj, rfl, hlj⟩ := own_form h.jmps
  have c0 : w.cell? ⟨b, 0, none⟩ = some (.slice A s.code.length k) := h.box.cell 0
  have c2 : w.cell? ⟨b, 2, none⟩ = some (.map (some lm)) := h.box.cell 2
  have c3 : w.cell? ⟨b, 3, none⟩ = some (.slice Aj s.jmps.length kj) := h.box.cell 3
  have c4 : w.cell? ⟨b, 4, none⟩ = some (.bool false) := by have := h.box.cell 4; rw [f1] at this; exact this
  have HF2 := Lib.hid f2
  have HF3 := Lib.hid f3
  have HCL := Lib.hid hcl
  have hq200 : s.code.length ≤ 200 := by rw [← hcl]; exact f3.1
  have HB := Lib.hid h
  have HT := Lib.hid hT
  have HJ := Lib.hid hj0
  obtain ⟨q, hq⟩ : ∃ q, q = s.code.length := ⟨_, rfl⟩
  obtain ⟨m, hm⟩ : ∃ m, m = s.jmps.length := ⟨_, rfl⟩
  have HRO := Lib.hid (show RO w w.heap.size A q s.code by rw [hq]; exact Rd.of_own h.code)
  have HRJ := Lib.hid (show Rd w w.heap.size 2 Aj m (cellsJ s.jmps) by rw [hm]; exact Rd.of_own h.jmps)
  rw [← hq] at c0 hq200 hlc
  rw [← hm] at c3 hjl hlj
  have HQ := Lib.hid hq
  have HM := Lib.hid hm
  clear h hf f1 f2 f3 hcl hT hj0 hq hm
  go_enter Tryz.func22, Tryz.ntmps22
  go_wp2_with fail
  refine (slices_CloneO s.code A q k w.heap.size _ HRO.out (Nat.le_refl _) hq200).mono ?_
  rintro e w1 ⟨v, rfl, hown, hb1⟩
  obtain ⟨A1, k1, rfl, hlk1⟩ := own_form hown
  have HO := Lib.hid hown
  have d3 : w1.cell? ⟨b, 3, none⟩ = some (.slice Aj m kj) := (hb1.cell hlt).trans c3
  have hlt1 : b < w1.heap.size := by have := hb1.size; omega
  clear hown
  go_wp2
  go_loopw [24] (fun i wr => ∃ (j : Nat) (cj : List Ins), j ≤ m ∧ i = .int .i64 j ∧ Hid (rslv s.labs (s.jmps.take j) s.code = some cj) ∧ Hid (wr.ownsRow w.heap.size 67 5 (.slice A1 q k1) q (cellsO cj)) ∧ Below w.heap.size w wr) (fun i _ => m - (intOf i).toNat)
  case atStart => exact ⟨0, s.code, Nat.zero_le _, rfl, rfl, HO.out, hb1⟩
  case round =>
    obtain ⟨j, cj, hj, rfl, HRS, HOW, hbr⟩ := hrel
    have hszr := hbr.size
    by_cases h1 : j < m
    · obtain ⟨⟨ja, jl⟩, hjx⟩ : ∃ x, s.jmps[j]? = some x := ⟨_, List.getElem?_eq_getElem (by rw [← HM.out]; exact h1)⟩
      obtain ⟨tv, o, ci, r1, r2, r3, r4, r5, r6⟩ := rslv_at s.labs s.jmps s.code HF2.out j (ja, jl) hjx
      obtain rfl : ci = cj := by have := HRS.out; rw [r3] at this; injection this
      dsimp only at r1 r4 r5 r6
      obtain ⟨hja0, hjl0⟩ := HJ.out _ (List.mem_of_getElem? hjx)
      dsimp only at hja0 hjl0
      obtain ⟨jn, rfl⟩ : ∃ jn : Nat, ja = jn := ⟨ja.toNat, by omega⟩
      rw [Int.toNat_natCast] at r4 r5 r6
      have hcil : ci.length = q := by rw [rslv_len _ _ _ _ r3, ← HQ.out]
      have hjn : jn < q := by have := (List.getElem?_eq_some_iff.1 r4).1; omega
      obtain ⟨gj, oj, rfl, hgj, hcj⟩ := Rd.at_ (HRJ.out.below hbr) (by omega)
      obtain ⟨j1, j2⟩ := cellsJ_at s.jmps j _ hjx
      have e1 : wr.cell? ⟨gj, oj + j * 2, none⟩ = some (.int .i64 jn) := by rw [hcj _ (by omega), j1]
      have e2 : wr.cell? ⟨gj, oj + j * 2 + 1, none⟩ = some (.string ⟨jl.toArray⟩) := by rw [Nat.add_assoc, hcj _ (by omega), j2]; rfl
      obtain ⟨g, k9, hv9, hg0, hg1, _⟩ := own_some HOW.out (by omega)
      injection hv9 with hA1 _ hk9
      subst hA1
      subst hk9
      obtain ⟨kk, ka, kb, kc, kd⟩ := o
      have hco := fun i hi => cellsO_at ci jn i _ r4 hi
      have hcell := fun i (hi : i < 5) => (World.ownsRow.cellAt HOW.out (jn * 5 + i) (by omega)).trans (hco i hi)
      have g0 : wr.cell? ⟨g, jn * 5, none⟩ = some (.int .i64 kk) := hcell 0 (by omega)
      have g1 : wr.cell? ⟨g, jn * 5 + 1, none⟩ = some (.int .i64 ka) := hcell 1 (by omega)
      have g2 : wr.cell? ⟨g, jn * 5 + 2, none⟩ = some (.int .i64 kb) := hcell 2 (by omega)
      have fz := fun i => World.ownsRow.frozenAt HOW.out i
      have b2 : wr.cell? ⟨b, 2, none⟩ = some (.map (some lm)) := (hbr.cell hlt).trans c2
      have hltr : b < wr.heap.size := by omega
      have HMS := Lib.hid (show MS wr lm n s.labs from by
        obtain ⟨D, ⟨es, ck, hh, h1'⟩, h2⟩ := HB.out.labs
        exact ⟨D, ⟨es, ck, (hbr.block lm HB.out.labs.lt).trans hh, h1'⟩, h2⟩)
      have HR1 := Lib.hid r1
      have HR4 := Lib.hid r4
      have HR5 := Lib.hid r5
      clear r1 r2 r3 r4 r5 r6 hjx hco hcell hcj j1 j2 c0 c2 c3 c4 d3
      have bx := Box.new wr 92 [.int .i64 jn, .string ⟨jl.toArray⟩]
      go_wp2
      refine region_two [0, 1, 2, 3, 4, 5] [6, 7, 8, 9, 10, 11] (by kernel_rfl) (by kernel_rfl) ?_
      simp only [pick, List.map_cons, List.map_nil, List.getD_cons_zero, List.getD_cons_succ]
      have HM2 := Lib.hid (show MS (wr.alloc (Obj.cells #[.int .i64 jn, .string ⟨jl.toArray⟩] 92)).drew lm n s.labs from by
        obtain ⟨D, h1', h2'⟩ := HMS.out.kept (World.grownBy_alloc wr (Obj.cells #[.int .i64 jn, .string ⟨jl.toArray⟩] 92) none) (by simp)
        exact ⟨D, h1', h2'⟩)
      have hst := fun i u => (World.ownsRow.stored HOW.out i u).1.alloc (Obj.cells #[.int .i64 jn, .string ⟨jl.toArray⟩] 92)
      have hbl := fun i u => ((below_at hbr hg0 i u).alloc (by simp; exact hszr) (Obj.cells #[.int .i64 jn, .string ⟨jl.toArray⟩] 92)).drew
      have HST := Lib.hid hst
      have HBL := Lib.hid hbl
      clear hst hbl
      by_cases hk : kk = 10
      · subst hk
        go_wp2_with (refine wp_lookN rfl (.tmp 32) (.tmp 34) rfl lm n s.labs jl rfl HM2.out rfl hjl0 (some tv) HR1.out ?_)
        go_roundw
        case rel =>
          refine ⟨j + 1, ci.set jn ⟨10, tv, kb, kc, kd⟩, by omega, by go_num, ?_, ?_, HBL.out _ _⟩
          · refine Lib.hid ?_; have := HR5.out; simpa [tgt] using this
          · have h8 := HST.out (jn * 5 + 1) (.int .i64 tv)
            rw [cellsO_set ci jn 1 _ ⟨10, tv, kb, kc, kd⟩ HR4.out ⟨_, rfl⟩ (by omega) _ rfl] at h8
            exact Lib.hid h8
        case measure => simp [intOf]; omega
      · have hk' : (kk == 10) = false := by simpa using hk
        go_wp2_with (refine wp_lookN rfl (.tmp 32) (.tmp 34) rfl lm n s.labs jl rfl HM2.out rfl hjl0 (some tv) HR1.out ?_)
        go_roundw
        case rel =>
          refine ⟨j + 1, ci.set jn ⟨kk, ka, tv, kc, kd⟩, by omega, by go_num, ?_, ?_, HBL.out _ _⟩
          · refine Lib.hid ?_; have := HR5.out; simpa [tgt, hk] using this
          · have h8 := HST.out (jn * 5 + 2) (.int .i64 tv)
            rw [cellsO_set ci jn 2 _ ⟨kk, ka, tv, kc, kd⟩ HR4.out ⟨_, rfl⟩ (by omega) _ rfl] at h8
            exact Lib.hid h8
        case measure => simp [intOf]; omega
    · obtain rfl : j = m := by omega
      have hres := HRS.out
      rw [HM.out, List.take_length, HF2.out] at hres
      injection hres with hres
      subst hres
      have hcq : c.length = q := by rw [HCL.out, HQ.out]
      go_wp2_with fail
      refine (vm_May c A1 q k1 true _ wr.heap.size (HT.out.below hbr HT.out.lt) (Rd.of_own HOW.out) (Nat.le_refl _) (by omega) (by simp; exact HF3.out)).mono ?_
      rintro e w2 ⟨rfl, hb2⟩
      go_wp2
      go_ret2
      rw [hcq]
      exact ⟨_, rfl, own_below HOW.out hb2, hbr.trans (hb2.mono hszr)⟩
end Go.Proofs.YtnchgdjdfhfedaaGreatDoor
