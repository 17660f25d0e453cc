/- Of this claim's own texts these, one behind the other: VmRunPure, Vm5O, Vm5S, VmClone. No statement of the seat is proved here; no condition but those that stand at the theorems. -/
import Derived.Test.YtnchgdjdfhfedaaDoorPartAD
import Derived.Test.YtnchgdjdfhfedaaDoorPartAQ
import Derived.Test.YtnchgdjdfhfedaaDoorPartAG
set_option linter.unusedSimpArgs false
set_option linter.unusedVariables false
namespace Go.Proofs.YtnchgdjdfhfedaaDoor
open Go.RowKit Go.Ord Go.Baro

/-- What a run leaves. -/
def RnPost (T W : List Int) (N : Nat) (E : Int) (w : World) (e : Ending) (w' : World) : Prop := ∃ A1 n1 c1 A2 n2 c2, e = .returned (.tuple #[.slice A1 n1 c1, .slice A2 n2 c2, .int .i64 N, .int .i64 E]) ∧ RI w' w'.heap.size .i64 A1 n1 T ∧ RI w' w'.heap.size .i64 A2 n2 W ∧
  n1 ≤ c1 ∧ n2 ≤ c2 ∧ n1 ≤ 200 ∧ n2 ≤ 200 ∧ Below w.heap.size w w'

/-- How far a run has come. -/
def Prog (l : List Ins) (L j : Nat) (s0 s : Vs) (E : Int) : Prop := (E = 0 ∧ Ok l.length s ∧ rn l L s0 = ((rn l (L - j) s).1, (rn l (L - j) s).2.1 + j, (rn l (L - j) s).2.2)) ∨ (E ≠ 0 ∧ s.t.length ≤ 200 ∧ s.w.length ≤ 200 ∧ rn l L s0 = (s, j, E))
theorem prog_end {l : List Ins} {L j : Nat} {s0 s : Vs} (h : Prog l L j s0 s 0) (hp : s.p = l.length) : rn l L s0 = (s, j, 0) := by
  rcases h with ⟨_, _, h⟩ | ⟨h, _⟩
  · rw [h, rn_end hp]; simp
  · exact absurd rfl h
theorem prog_over {l : List Ins} {j : Nat} {s0 s : Vs} (h : Prog l j j s0 s 0) (hp : s.p ≠ l.length) : rn l j s0 = (s, j, 11) := by
  rcases h with ⟨_, _, h⟩ | ⟨h, _⟩
  · rw [h, Nat.sub_self, rn_over hp]; simp
  · exact absurd rfl h
theorem prog_step {l : List Ins} {L j : Nat} {s0 s s' : Vs} {o : Ins} {E : Int} (h : Prog l L j s0 s 0) (hj : j < L) (hp : s.p ≠ l.length) (ho : l[s.p.toNat]? = some o) (hs : stp l.length o s = (s', E)) (hok : okI l.length o) (hi : inI o) : Prog l L (j + 1) s0 s' E := by
  rcases h with ⟨_, hk, h⟩ | ⟨h, _⟩
  · have hk' := stp_ok hok hi hk (by have := hk.hi; omega)
    rw [hs] at hk'
    rw [show L - j = (L - (j + 1)) + 1 by omega] at h
    by_cases hE : E = 0
    · subst hE
      rw [rn_step hp ho hs] at h
      exact .inl ⟨rfl, hk', by rw [h]; simp only [Prod.mk.injEq, and_true, true_and]; omega⟩
    · rw [rn_err hp ho hs hE] at h
      exact .inr ⟨hE, hk'.tl, hk'.wl, by rw [h]; simp only [Prod.mk.injEq, and_true, true_and]; omega⟩
  · exact absurd rfl h
theorem prog_err {l : List Ins} {L j : Nat} {s0 s : Vs} {E : Int} (h : Prog l L j s0 s E) (hE : E ≠ 0) : rn l L s0 = (s, j, E) ∧ s.t.length ≤ 200 ∧ s.w.length ≤ 200 := by
  rcases h with ⟨h, _⟩ | ⟨_, h1, h2, h⟩
  · exact absurd h hE
  · exact ⟨h, h1, h2⟩
theorem prog_ok {l : List Ins} {L j : Nat} {s0 s : Vs} (h : Prog l L j s0 s 0) : Ok l.length s := by
  rcases h with ⟨_, h, _⟩ | ⟨h, _⟩
  · exact h
  · exact absurd rfl h

/-- How far a run has come: an error has ended the call. -/
def ProgC (l : List Ins) (L j : Nat) (s0 s : Vs) (E : Int) : Prop := (E = 0 ∧ Ok l.length s ∧ rn l L s0 = ((rn l (L - j) s).1, (rn l (L - j) s).2.1 + j, (rn l (L - j) s).2.2)) ∨ (E ≠ 0 ∧ s.p = l.length ∧ s.t.length ≤ 200 ∧ s.w.length ≤ 200 ∧ ∃ p, rn l L s0 = ({ s with p := p }, j, E))
/-- The state behind an instruction: an error ends the call. -/
def aft (n : Nat) (E : Int) (s : Vs) : Vs := { s with p := if E = 0 then s.p else n }
theorem aft_ok (n : Nat) (s : Vs) : aft n 0 s = s := rfl
theorem aft_err {n : Nat} {E : Int} (h : E ≠ 0) (s : Vs) : aft n E s = { s with p := n } := by unfold aft; rw [if_neg h]
theorem progc_end {l : List Ins} {L j : Nat} {s0 s : Vs} {E : Int} (h : ProgC l L j s0 s E) (hp : s.p = l.length) : ∃ p, rn l L s0 = ({ s with p := p }, j, E) := by
  rcases h with ⟨h0, _, h⟩ | ⟨_, _, _, _, h⟩
  · rw [h, rn_end hp, h0]; exact ⟨s.p, by simp⟩
  · exact h
theorem progc_zero {l : List Ins} {L j : Nat} {s0 s : Vs} {E : Int} (h : ProgC l L j s0 s E) (hp : s.p ≠ l.length) : E = 0 := by
  rcases h with ⟨h, _⟩ | ⟨_, h, _⟩
  · exact h
  · exact absurd h hp
theorem progc_over {l : List Ins} {j : Nat} {s0 s : Vs} (h : ProgC l j j s0 s 0) (hp : s.p ≠ l.length) : rn l j s0 = (s, j, 11) := by
  rcases h with ⟨_, _, h⟩ | ⟨h, _⟩
  · rw [h, Nat.sub_self, rn_over hp]; simp
  · exact absurd rfl h
theorem progc_step {l : List Ins} {L j : Nat} {s0 s s' : Vs} {o : Ins} {E : Int} (h : ProgC l L j s0 s 0) (hj : j < L) (hp : s.p ≠ l.length) (ho : l[s.p.toNat]? = some o) (hs : stp l.length o s = (s', E)) (hok : okI l.length o) (hi : inI o) : ProgC l L (j + 1) s0 (aft l.length E s') E := by
  rcases h with ⟨_, hk, h⟩ | ⟨h, _⟩
  · have hk' := stp_ok hok hi hk (by have := hk.hi; omega)
    rw [hs] at hk'
    rw [show L - j = (L - (j + 1)) + 1 by omega] at h
    by_cases hE : E = 0
    · subst hE
      rw [rn_step hp ho hs] at h
      exact .inl ⟨rfl, hk', by rw [h, aft_ok]; simp only [Prod.mk.injEq, and_true, true_and]; omega⟩
    · rw [rn_err hp ho hs hE] at h
      rw [aft_err hE]
      exact .inr ⟨hE, rfl, hk'.tl, hk'.wl, s'.p, by rw [h]; simp only [Prod.mk.injEq, and_true, true_and]; omega⟩
  · exact absurd rfl h
theorem progc_len {l : List Ins} {L j : Nat} {s0 s : Vs} {E : Int} (h : ProgC l L j s0 s E) : s.t.length ≤ 200 ∧ s.w.length ≤ 200 := by
  rcases h with ⟨_, h, _⟩ | ⟨_, _, h1, h2, _⟩
  · exact ⟨h.tl, h.wl⟩
  · exact ⟨h1, h2⟩
theorem progc_ok {l : List Ins} {L j : Nat} {s0 s : Vs} (h : ProgC l L j s0 s 0) : Ok l.length s := by
  rcases h with ⟨_, h, _⟩ | ⟨h, _⟩
  · exact h
  · exact absurd rfl h

end Go.Proofs.YtnchgdjdfhfedaaDoor

set_option linter.unusedSimpArgs false
set_option linter.unusedVariables false
namespace Go.Proofs.YtnchgdjdfhfedaaDoor
open Go.RowKit Go.Ord Go.Baro

/-- What an instruction leaves. -/
def StPostO (T : TypeId) (pre post : List Value) (B b oo : Nat) (cv tv wv : Value) (s' : Vs) (E : Int) (w : World) (e : Ending) (w' : World) : Prop := e = .returned (.int .i64 E) ∧ (∃ tv', ToV T pre post w' B b oo cv tv' wv s' ∧ (tv'.ownBlock = tv.ownBlock ∨ ∃ k, tv'.ownBlock = some k ∧ w.heap.size ≤ k)) ∧ Un (touch b b tv wv) w w'

theorem results_noneT {P : Program} {fn : Func} (h : fn.results = #[]) (tmps : Array Value) (w : World) : (results fn tmps).run P w = .ok (.tuple #[]) w := by
  simp [results, h]
theorem vm_endo (T : TypeId) (pre post : List Value) (oo : Nat) (w : World) (B b n cc : Nat) (cA : Option Addr) (tv wv : Value) (s : Vs) (h : ToV T pre post w B b oo (.slice cA n cc) tv wv s) :
    Calls Tryd.prog 69 #[.pointer (some ⟨b, oo, none⟩)] w fun e w' => e = .returned (.tuple #[]) ∧ ToV T pre post w' B b oo (.slice cA n cc) tv wv { s with p := n } ∧ Un (touch b b tv wv) w w' := by
  have h0 : Un (touch b b tv wv) w w := Un.refl _ _
  have hlt := h.lt
  have t0 := h.code
  have t1 := h.at_
  have f1 := h.box.frozen (oo + 1)
  have HTH := Lib.hid h
  clear h
  go_enter Tryd.func69, Tryd.ntmps69
  go_wp2
  refine bodyPost_end (v := .tuple #[]) (results_noneT rfl _ _) rfl ?_
  exact ⟨rfl, HTH.out.next n, un_at h0 touch_b _ _⟩

set_option maxRecDepth 100000 in
set_option maxHeartbeats 4000000 in
theorem vm_exec1 (T : TypeId) (pre post : List Value) (oo : Nat) (w : World) (B b n cc wn wc : Nat) (cA wA : Option Addr) (tv : Value) (p : Int) (r : Int → Int) (ws t : List Int) (s' : Vs) (a' b' c' d' E : Int) (h : ToV T pre post w B b oo (.slice cA n cc) tv (.slice wA wn wc) ⟨p + 1, r, ws, t⟩) (hBs : B ≤ w.heap.size)
    (hwl : ws.length ≤ 200) (htl : t.length ≤ 200) (hrw : ∀ i, inW (r i)) (ho : okI n ⟨1, a', b', c', d'⟩) (hs : stp n ⟨1, a', b', c', d'⟩ ⟨p, r, ws, t⟩ = (s', E)) :
    Calls Tryd.prog 68 #[.pointer (some ⟨b, oo, none⟩), .agg #[.int .i64 1, .int .i64 a', .int .i64 b', .int .i64 c', .int .i64 d'], .slice wA wn wc] w (StPostO T pre post B b oo (.slice cA n cc) tv (.slice wA wn wc) s' E w) := by
  have hra : isR a' := by unfold okI isR isT at ho; unfold isR; dsimp only at ho; omega
  clear ho
  unfold isR at hra
  obtain ⟨a, rfl⟩ : ∃ a : Nat, a' = a := ⟨a'.toNat, by omega⟩
  have ha24 : a < 24 := by omega
  have h0 : Un (touch b b tv (.slice wA wn wc)) w w := Un.refl _ _
  have hlt := h.lt
  have t0 := h.code
  have t1 := h.at_
  dsimp only at t1
  have f1 := h.box.frozen (oo + 1)
  have ga := h.get ha24
  dsimp only at ga
  have fa := h.box.frozen (oo + 2 + a)
  have HTH := Lib.hid h
  have HRW := Lib.hid hrw
  clear h hrw
  rw [stp_1] at hs
  injection hs with hs1 hs2
  subst hs1 hs2
  go_enter Tryd.func68, Tryd.ntmps68
  go_wp2
  refine region_two [0, 1, 2, 3, 4, 5, 6, 7] [8] (by kernel_rfl) (by kernel_rfl) ?_
  simp only [pick, List.map_cons, List.map_nil, List.getD_cons_zero, List.getD_cons_succ]
  go_wp2
  go_ret
  exact ⟨rfl, ⟨_, ((HTH.out.reg ha24 b').alloc _).drew, .inl rfl⟩, ((un_at h0 touch_b _ _).alloc _).drew⟩

set_option maxRecDepth 100000 in
set_option maxHeartbeats 4000000 in
theorem vm_exec2 (T : TypeId) (pre post : List Value) (oo : Nat) (w : World) (B b n cc wn wc : Nat) (cA wA : Option Addr) (tv : Value) (p : Int) (r : Int → Int) (ws t : List Int) (s' : Vs) (a' b' c' d' E : Int) (h : ToV T pre post w B b oo (.slice cA n cc) tv (.slice wA wn wc) ⟨p + 1, r, ws, t⟩) (hBs : B ≤ w.heap.size)
    (hwl : ws.length ≤ 200) (htl : t.length ≤ 200) (hrw : ∀ i, inW (r i)) (ho : okI n ⟨2, a', b', c', d'⟩) (hs : stp n ⟨2, a', b', c', d'⟩ ⟨p, r, ws, t⟩ = (s', E)) :
    Calls Tryd.prog 68 #[.pointer (some ⟨b, oo, none⟩), .agg #[.int .i64 2, .int .i64 a', .int .i64 b', .int .i64 c', .int .i64 d'], .slice wA wn wc] w (StPostO T pre post B b oo (.slice cA n cc) tv (.slice wA wn wc) s' E w) := by
  have hra : isR a' := by unfold okI isR isT at ho; unfold isR; dsimp only at ho; omega
  have hrb : isR b' := by unfold okI isR isT at ho; unfold isR; dsimp only at ho; omega
  clear ho
  unfold isR at hra
  obtain ⟨a, rfl⟩ : ∃ a : Nat, a' = a := ⟨a'.toNat, by omega⟩
  have ha24 : a < 24 := by omega
  unfold isR at hrb
  obtain ⟨b_r, rfl⟩ : ∃ b_r : Nat, b' = b_r := ⟨b'.toNat, by omega⟩
  have hb24 : b_r < 24 := by omega
  have h0 : Un (touch b b tv (.slice wA wn wc)) w w := Un.refl _ _
  have hlt := h.lt
  have t0 := h.code
  have t1 := h.at_
  dsimp only at t1
  have f1 := h.box.frozen (oo + 1)
  have ga := h.get ha24
  dsimp only at ga
  have fa := h.box.frozen (oo + 2 + a)
  have gb := h.get hb24
  dsimp only at gb
  have fb := h.box.frozen (oo + 2 + b_r)
  have HTH := Lib.hid h
  have HRW := Lib.hid hrw
  clear h hrw
  rw [stp_2] at hs
  injection hs with hs1 hs2
  subst hs1 hs2
  go_enter Tryd.func68, Tryd.ntmps68
  go_wp2
  refine region_two [0, 1, 2, 3, 4, 5, 6, 7, 8, 9, 10, 11, 12] [13] (by kernel_rfl) (by kernel_rfl) ?_
  simp only [pick, List.map_cons, List.map_nil, List.getD_cons_zero, List.getD_cons_succ]
  go_wp2
  go_ret
  exact ⟨rfl, ⟨_, ((HTH.out.reg ha24 (r b_r)).alloc _).drew, .inl rfl⟩, ((un_at h0 touch_b _ _).alloc _).drew⟩

set_option maxRecDepth 100000 in
set_option maxHeartbeats 4000000 in
theorem vm_exec10 (T : TypeId) (pre post : List Value) (oo : Nat) (w : World) (B b n cc wn wc : Nat) (cA wA : Option Addr) (tv : Value) (p : Int) (r : Int → Int) (ws t : List Int) (s' : Vs) (a' b' c' d' E : Int) (h : ToV T pre post w B b oo (.slice cA n cc) tv (.slice wA wn wc) ⟨p + 1, r, ws, t⟩) (hBs : B ≤ w.heap.size)
    (hwl : ws.length ≤ 200) (htl : t.length ≤ 200) (hrw : ∀ i, inW (r i)) (ho : okI n ⟨10, a', b', c', d'⟩) (hs : stp n ⟨10, a', b', c', d'⟩ ⟨p, r, ws, t⟩ = (s', E)) :
    Calls Tryd.prog 68 #[.pointer (some ⟨b, oo, none⟩), .agg #[.int .i64 10, .int .i64 a', .int .i64 b', .int .i64 c', .int .i64 d'], .slice wA wn wc] w (StPostO T pre post B b oo (.slice cA n cc) tv (.slice wA wn wc) s' E w) := by
  clear ho
  have h0 : Un (touch b b tv (.slice wA wn wc)) w w := Un.refl _ _
  have hlt := h.lt
  have t0 := h.code
  have t1 := h.at_
  dsimp only at t1
  have f1 := h.box.frozen (oo + 1)
  have HTH := Lib.hid h
  have HRW := Lib.hid hrw
  clear h hrw
  rw [stp_10] at hs
  injection hs with hs1 hs2
  subst hs1 hs2
  go_enter Tryd.func68, Tryd.ntmps68
  go_wp2
  go_ret
  exact ⟨rfl, ⟨_, ((HTH.out.next a').alloc _), .inl rfl⟩, ((un_at h0 touch_b _ _).alloc _)⟩

set_option maxRecDepth 100000 in
set_option maxHeartbeats 4000000 in
theorem vm_exec11 (T : TypeId) (pre post : List Value) (oo : Nat) (w : World) (B b n cc wn wc : Nat) (cA wA : Option Addr) (tv : Value) (p : Int) (r : Int → Int) (ws t : List Int) (s' : Vs) (a' b' c' d' E : Int) (h : ToV T pre post w B b oo (.slice cA n cc) tv (.slice wA wn wc) ⟨p + 1, r, ws, t⟩) (hBs : B ≤ w.heap.size)
    (hwl : ws.length ≤ 200) (htl : t.length ≤ 200) (hrw : ∀ i, inW (r i)) (ho : okI n ⟨11, a', b', c', d'⟩) (hs : stp n ⟨11, a', b', c', d'⟩ ⟨p, r, ws, t⟩ = (s', E)) :
    Calls Tryd.prog 68 #[.pointer (some ⟨b, oo, none⟩), .agg #[.int .i64 11, .int .i64 a', .int .i64 b', .int .i64 c', .int .i64 d'], .slice wA wn wc] w (StPostO T pre post B b oo (.slice cA n cc) tv (.slice wA wn wc) s' E w) := by
  have hra : isR a' := by unfold okI isR isT at ho; unfold isR; dsimp only at ho; omega
  clear ho
  unfold isR at hra
  obtain ⟨a, rfl⟩ : ∃ a : Nat, a' = a := ⟨a'.toNat, by omega⟩
  have ha24 : a < 24 := by omega
  have h0 : Un (touch b b tv (.slice wA wn wc)) w w := Un.refl _ _
  have hlt := h.lt
  have t0 := h.code
  have t1 := h.at_
  dsimp only at t1
  have f1 := h.box.frozen (oo + 1)
  have ga := h.get ha24
  dsimp only at ga
  have fa := h.box.frozen (oo + 2 + a)
  have HTH := Lib.hid h
  have HRW := Lib.hid hrw
  clear h hrw
  rw [stp_11] at hs
  dsimp only at hs
  by_cases hz : r a = 0
  · rw [if_pos hz] at hs
    injection hs with hs1 hs2
    subst hs1 hs2
    have hv1 : (r (a : Int) == 0) = true := by simp [hz]
    have hv2 : (r (a : Int) != 0) = false := by simp [hz]
    have HZ := Lib.hid hz
    clear hz
    go_enter Tryd.func68, Tryd.ntmps68
    go_wp2
    refine region_two [0, 1, 2, 3, 4, 5, 6, 7] [] (by kernel_rfl) (by kernel_rfl) ?_
    simp only [pick, List.map_cons, List.map_nil, List.getD_cons_zero, List.getD_cons_succ]
    go_wp2
    go_ret
    exact ⟨rfl, ⟨_, (HTH.out.alloc _).drew, .inl rfl⟩, (h0.alloc _).drew⟩
  · rw [if_neg hz] at hs
    injection hs with hs1 hs2
    subst hs1 hs2
    have hv1 : (r (a : Int) == 0) = false := by simp [hz]
    have hv2 : (r (a : Int) != 0) = true := by simp [hz]
    have HZ := Lib.hid hz
    clear hz
    go_enter Tryd.func68, Tryd.ntmps68
    go_wp2
    refine region_two [0, 1, 2, 3, 4, 5, 6, 7] [] (by kernel_rfl) (by kernel_rfl) ?_
    simp only [pick, List.map_cons, List.map_nil, List.getD_cons_zero, List.getD_cons_succ]
    go_wp2
    go_ret
    exact ⟨rfl, ⟨_, ((HTH.out.next b').alloc _).drew, .inl rfl⟩, ((un_at h0 touch_b _ _).alloc _).drew⟩

set_option maxRecDepth 100000 in
set_option maxHeartbeats 4000000 in
theorem vm_exec12 (T : TypeId) (pre post : List Value) (oo : Nat) (w : World) (B b n cc wn wc : Nat) (cA wA : Option Addr) (tv : Value) (p : Int) (r : Int → Int) (ws t : List Int) (s' : Vs) (a' b' c' d' E : Int) (h : ToV T pre post w B b oo (.slice cA n cc) tv (.slice wA wn wc) ⟨p + 1, r, ws, t⟩) (hBs : B ≤ w.heap.size)
    (hwl : ws.length ≤ 200) (htl : t.length ≤ 200) (hrw : ∀ i, inW (r i)) (ho : okI n ⟨12, a', b', c', d'⟩) (hs : stp n ⟨12, a', b', c', d'⟩ ⟨p, r, ws, t⟩ = (s', E)) :
    Calls Tryd.prog 68 #[.pointer (some ⟨b, oo, none⟩), .agg #[.int .i64 12, .int .i64 a', .int .i64 b', .int .i64 c', .int .i64 d'], .slice wA wn wc] w (StPostO T pre post B b oo (.slice cA n cc) tv (.slice wA wn wc) s' E w) := by
  have hra : isR a' := by unfold okI isR isT at ho; unfold isR; dsimp only at ho; omega
  clear ho
  unfold isR at hra
  obtain ⟨a, rfl⟩ : ∃ a : Nat, a' = a := ⟨a'.toNat, by omega⟩
  have ha24 : a < 24 := by omega
  have h0 : Un (touch b b tv (.slice wA wn wc)) w w := Un.refl _ _
  have hlt := h.lt
  have t0 := h.code
  have t1 := h.at_
  dsimp only at t1
  have f1 := h.box.frozen (oo + 1)
  have ga := h.get ha24
  dsimp only at ga
  have fa := h.box.frozen (oo + 2 + a)
  have HTH := Lib.hid h
  have HRW := Lib.hid hrw
  clear h hrw
  rw [stp_12] at hs
  dsimp only at hs
  by_cases hz : r a = 0
  · rw [if_pos hz] at hs
    injection hs with hs1 hs2
    subst hs1 hs2
    have hv1 : (r (a : Int) == 0) = true := by simp [hz]
    have hv2 : (r (a : Int) != 0) = false := by simp [hz]
    have HZ := Lib.hid hz
    clear hz
    go_enter Tryd.func68, Tryd.ntmps68
    go_wp2
    refine region_two [0, 1, 2, 3, 4, 5, 6, 7] [] (by kernel_rfl) (by kernel_rfl) ?_
    simp only [pick, List.map_cons, List.map_nil, List.getD_cons_zero, List.getD_cons_succ]
    go_wp2
    go_ret
    exact ⟨rfl, ⟨_, ((HTH.out.next b').alloc _).drew, .inl rfl⟩, ((un_at h0 touch_b _ _).alloc _).drew⟩
  · rw [if_neg hz] at hs
    injection hs with hs1 hs2
    subst hs1 hs2
    have hv1 : (r (a : Int) == 0) = false := by simp [hz]
    have hv2 : (r (a : Int) != 0) = true := by simp [hz]
    have HZ := Lib.hid hz
    clear hz
    go_enter Tryd.func68, Tryd.ntmps68
    go_wp2
    refine region_two [0, 1, 2, 3, 4, 5, 6, 7] [] (by kernel_rfl) (by kernel_rfl) ?_
    simp only [pick, List.map_cons, List.map_nil, List.getD_cons_zero, List.getD_cons_succ]
    go_wp2
    go_ret
    exact ⟨rfl, ⟨_, (HTH.out.alloc _).drew, .inl rfl⟩, (h0.alloc _).drew⟩

set_option maxRecDepth 100000 in
set_option maxHeartbeats 4000000 in
theorem vm_exec13 (T : TypeId) (pre post : List Value) (oo : Nat) (w : World) (B b n cc wn wc : Nat) (cA wA : Option Addr) (tv : Value) (p : Int) (r : Int → Int) (ws t : List Int) (s' : Vs) (a' b' c' d' E : Int) (h : ToV T pre post w B b oo (.slice cA n cc) tv (.slice wA wn wc) ⟨p + 1, r, ws, t⟩) (hBs : B ≤ w.heap.size)
    (hwl : ws.length ≤ 200) (htl : t.length ≤ 200) (hrw : ∀ i, inW (r i)) (ho : okI n ⟨13, a', b', c', d'⟩) (hs : stp n ⟨13, a', b', c', d'⟩ ⟨p, r, ws, t⟩ = (s', E)) :
    Calls Tryd.prog 68 #[.pointer (some ⟨b, oo, none⟩), .agg #[.int .i64 13, .int .i64 a', .int .i64 b', .int .i64 c', .int .i64 d'], .slice wA wn wc] w (StPostO T pre post B b oo (.slice cA n cc) tv (.slice wA wn wc) s' E w) := by
  have HO := Lib.hid ho
  clear ho
  have h0 : Un (touch b b tv (.slice wA wn wc)) w w := Un.refl _ _
  have hlt := h.lt
  have t0 := h.code
  have t1 := h.at_
  dsimp only at t1
  have f1 := h.box.frozen (oo + 1)
  have HTH := Lib.hid h
  have HRW := Lib.hid hrw
  clear h hrw
  go_enter Tryd.func68, Tryd.ntmps68
  go_wp2_with fail
  refine (vm_accesso T pre post oo _ B b n wn wc wA _ tv ⟨p, r, ws, t⟩ s' 13 a' b' c' d' E (by exact HTH.out.alloc _) (by simp; omega) hwl (by omega) HO.out hs).mono ?_
  rintro e w1 ⟨rfl, hth1, hb1⟩
  go_wp2
  go_ret
  exact ⟨rfl, ⟨_, hth1, .inl rfl⟩, (h0.alloc _).trans hb1⟩

set_option maxRecDepth 100000 in
set_option maxHeartbeats 4000000 in
theorem vm_exec14 (T : TypeId) (pre post : List Value) (oo : Nat) (w : World) (B b n cc wn wc : Nat) (cA wA : Option Addr) (tv : Value) (p : Int) (r : Int → Int) (ws t : List Int) (s' : Vs) (a' b' c' d' E : Int) (h : ToV T pre post w B b oo (.slice cA n cc) tv (.slice wA wn wc) ⟨p + 1, r, ws, t⟩) (hBs : B ≤ w.heap.size)
    (hwl : ws.length ≤ 200) (htl : t.length ≤ 200) (hrw : ∀ i, inW (r i)) (ho : okI n ⟨14, a', b', c', d'⟩) (hs : stp n ⟨14, a', b', c', d'⟩ ⟨p, r, ws, t⟩ = (s', E)) :
    Calls Tryd.prog 68 #[.pointer (some ⟨b, oo, none⟩), .agg #[.int .i64 14, .int .i64 a', .int .i64 b', .int .i64 c', .int .i64 d'], .slice wA wn wc] w (StPostO T pre post B b oo (.slice cA n cc) tv (.slice wA wn wc) s' E w) := by
  have HO := Lib.hid ho
  clear ho
  have h0 : Un (touch b b tv (.slice wA wn wc)) w w := Un.refl _ _
  have hlt := h.lt
  have t0 := h.code
  have t1 := h.at_
  dsimp only at t1
  have f1 := h.box.frozen (oo + 1)
  have HTH := Lib.hid h
  have HRW := Lib.hid hrw
  clear h hrw
  go_enter Tryd.func68, Tryd.ntmps68
  go_wp2_with fail
  refine (vm_accesso T pre post oo _ B b n wn wc wA _ tv ⟨p, r, ws, t⟩ s' 14 a' b' c' d' E (by exact HTH.out.alloc _) (by simp; omega) hwl (by omega) HO.out hs).mono ?_
  rintro e w1 ⟨rfl, hth1, hb1⟩
  go_wp2
  go_ret
  exact ⟨rfl, ⟨_, hth1, .inl rfl⟩, (h0.alloc _).trans hb1⟩

set_option maxRecDepth 100000 in
set_option maxHeartbeats 4000000 in
theorem vm_exec15 (T : TypeId) (pre post : List Value) (oo : Nat) (w : World) (B b n cc wn wc : Nat) (cA wA : Option Addr) (tv : Value) (p : Int) (r : Int → Int) (ws t : List Int) (s' : Vs) (a' b' c' d' E : Int) (h : ToV T pre post w B b oo (.slice cA n cc) tv (.slice wA wn wc) ⟨p + 1, r, ws, t⟩) (hBs : B ≤ w.heap.size)
    (hwl : ws.length ≤ 200) (htl : t.length ≤ 200) (hrw : ∀ i, inW (r i)) (ho : okI n ⟨15, a', b', c', d'⟩) (hs : stp n ⟨15, a', b', c', d'⟩ ⟨p, r, ws, t⟩ = (s', E)) :
    Calls Tryd.prog 68 #[.pointer (some ⟨b, oo, none⟩), .agg #[.int .i64 15, .int .i64 a', .int .i64 b', .int .i64 c', .int .i64 d'], .slice wA wn wc] w (StPostO T pre post B b oo (.slice cA n cc) tv (.slice wA wn wc) s' E w) := by
  have HO := Lib.hid ho
  clear ho
  have h0 : Un (touch b b tv (.slice wA wn wc)) w w := Un.refl _ _
  have hlt := h.lt
  have t0 := h.code
  have t1 := h.at_
  dsimp only at t1
  have f1 := h.box.frozen (oo + 1)
  have HTH := Lib.hid h
  have HRW := Lib.hid hrw
  clear h hrw
  go_enter Tryd.func68, Tryd.ntmps68
  go_wp2_with fail
  refine (vm_accesso T pre post oo _ B b n wn wc wA _ tv ⟨p, r, ws, t⟩ s' 15 a' b' c' d' E (by exact HTH.out.alloc _) (by simp; omega) hwl (by omega) HO.out hs).mono ?_
  rintro e w1 ⟨rfl, hth1, hb1⟩
  go_wp2
  go_ret
  exact ⟨rfl, ⟨_, hth1, .inl rfl⟩, (h0.alloc _).trans hb1⟩

set_option maxRecDepth 100000 in
set_option maxHeartbeats 4000000 in
theorem vm_exec16 (T : TypeId) (pre post : List Value) (oo : Nat) (w : World) (B b n cc wn wc : Nat) (cA wA : Option Addr) (tv : Value) (p : Int) (r : Int → Int) (ws t : List Int) (s' : Vs) (a' b' c' d' E : Int) (h : ToV T pre post w B b oo (.slice cA n cc) tv (.slice wA wn wc) ⟨p + 1, r, ws, t⟩) (hBs : B ≤ w.heap.size)
    (hwl : ws.length ≤ 200) (htl : t.length ≤ 200) (hrw : ∀ i, inW (r i)) (ho : okI n ⟨16, a', b', c', d'⟩) (hs : stp n ⟨16, a', b', c', d'⟩ ⟨p, r, ws, t⟩ = (s', E)) :
    Calls Tryd.prog 68 #[.pointer (some ⟨b, oo, none⟩), .agg #[.int .i64 16, .int .i64 a', .int .i64 b', .int .i64 c', .int .i64 d'], .slice wA wn wc] w (StPostO T pre post B b oo (.slice cA n cc) tv (.slice wA wn wc) s' E w) := by
  have hra : isR a' := by unfold okI isR isT at ho; unfold isR; dsimp only at ho; omega
  clear ho
  unfold isR at hra
  obtain ⟨a, rfl⟩ : ∃ a : Nat, a' = a := ⟨a'.toNat, by omega⟩
  have ha24 : a < 24 := by omega
  have h0 : Un (touch b b tv (.slice wA wn wc)) w w := Un.refl _ _
  have hlt := h.lt
  have t0 := h.code
  have t1 := h.at_
  dsimp only at t1
  have f1 := h.box.frozen (oo + 1)
  have ga := h.get ha24
  dsimp only at ga
  have fa := h.box.frozen (oo + 2 + a)
  have HTH := Lib.hid h
  have HRW := Lib.hid hrw
  clear h hrw
  rw [stp_16] at hs
  dsimp only at hs
  obtain ⟨t', ht'⟩ : ∃ t', t' = if t.length = 200 then t else t ++ [r a] := ⟨_, rfl⟩
  obtain ⟨E', hE'⟩ : ∃ E', E' = if t.length = 200 then (8 : Int) else 0 := ⟨_, rfl⟩
  have hse : s' = ⟨p + 1, r, ws, t'⟩ ∧ E = E' := by
    by_cases hz : t.length = 200
    · rw [if_pos hz] at hs ht' hE'; injection hs with hs1 hs2; subst hs1 hs2 ht' hE'; exact ⟨rfl, rfl⟩
    · rw [if_neg hz] at hs ht' hE'; injection hs with hs1 hs2; subst hs1 hs2 ht' hE'; exact ⟨rfl, rfl⟩
  obtain ⟨rfl, rfl⟩ := hse
  have HT' := Lib.hid ht'
  have HE' := Lib.hid hE'
  clear hs ht' hE'
  go_enter Tryd.func68, Tryd.ntmps68
  go_wp2
  refine region_two [0, 1, 2, 3, 4, 5, 6, 7] [8, 9] (by kernel_rfl) (by kernel_rfl) ?_
  simp only [pick, List.map_cons, List.map_nil, List.getD_cons_zero, List.getD_cons_succ]
  go_wp2_with fail
  refine (vm_emito T pre post oo _ B b _ tv _ ⟨p + 1, r, ws, t⟩ (r a) (by exact (HTH.out.alloc _).drew) (by simp; omega) htl E t' HE'.out HT'.out).mono ?_
  rintro e w1 ⟨rfl, hth1, hb1⟩
  go_wp2
  go_ret
  obtain ⟨tv1, hth2, hbk⟩ := hth1
  exact ⟨rfl, ⟨tv1, hth2, hbk.imp id (fun ⟨k, e, hk⟩ => ⟨k, e, by simp at hk; omega⟩)⟩, (h0.alloc _).drew.trans hb1⟩

set_option maxRecDepth 100000 in
set_option maxHeartbeats 4000000 in
theorem vm_exec17 (T : TypeId) (pre post : List Value) (oo : Nat) (w : World) (B b n cc wn wc : Nat) (cA wA : Option Addr) (tv : Value) (p : Int) (r : Int → Int) (ws t : List Int) (s' : Vs) (a' b' c' d' E : Int) (h : ToV T pre post w B b oo (.slice cA n cc) tv (.slice wA wn wc) ⟨p + 1, r, ws, t⟩) (hBs : B ≤ w.heap.size)
    (hwl : ws.length ≤ 200) (htl : t.length ≤ 200) (hrw : ∀ i, inW (r i)) (ho : okI n ⟨17, a', b', c', d'⟩) (hs : stp n ⟨17, a', b', c', d'⟩ ⟨p, r, ws, t⟩ = (s', E)) :
    Calls Tryd.prog 68 #[.pointer (some ⟨b, oo, none⟩), .agg #[.int .i64 17, .int .i64 a', .int .i64 b', .int .i64 c', .int .i64 d'], .slice wA wn wc] w (StPostO T pre post B b oo (.slice cA n cc) tv (.slice wA wn wc) s' E w) := by
  clear ho
  have h0 : Un (touch b b tv (.slice wA wn wc)) w w := Un.refl _ _
  have hlt := h.lt
  have t0 := h.code
  have t1 := h.at_
  dsimp only at t1
  have f1 := h.box.frozen (oo + 1)
  have HTH := Lib.hid h
  have HRW := Lib.hid hrw
  clear h hrw
  rw [stp_17] at hs
  injection hs with hs1 hs2
  subst hs1 hs2
  go_enter Tryd.func68, Tryd.ntmps68
  go_wp2_with fail
  refine (vm_endo T pre post oo _ B b n cc cA tv _ ⟨p + 1, r, ws, t⟩ (by exact HTH.out.alloc _)).mono ?_
  rintro e w1 ⟨rfl, hth1, hb1⟩
  go_wp2
  go_ret
  exact ⟨rfl, ⟨_, hth1, .inl rfl⟩, (h0.alloc _).trans hb1⟩

set_option maxRecDepth 100000 in
set_option maxHeartbeats 4000000 in
theorem vm_execC (T : TypeId) (pre post : List Value) (oo : Nat) (w : World) (B b n cc wn wc : Nat) (cA wA : Option Addr) (tv : Value) (p : Int) (r : Int → Int) (ws t : List Int) (s' : Vs) (k : Int) (hk : 3 ≤ k ∧ k ≤ 9) (a' b' c' d' E : Int) (h : ToV T pre post w B b oo (.slice cA n cc) tv (.slice wA wn wc) ⟨p + 1, r, ws, t⟩) (hBs : B ≤ w.heap.size)
    (hwl : ws.length ≤ 200) (htl : t.length ≤ 200) (hrw : ∀ i, inW (r i)) (ho : okI n ⟨k, a', b', c', d'⟩) (hs : stp n ⟨k, a', b', c', d'⟩ ⟨p, r, ws, t⟩ = (s', E)) :
    Calls Tryd.prog 68 #[.pointer (some ⟨b, oo, none⟩), .agg #[.int .i64 k, .int .i64 a', .int .i64 b', .int .i64 c', .int .i64 d'], .slice wA wn wc] w (StPostO T pre post B b oo (.slice cA n cc) tv (.slice wA wn wc) s' E w) := by
  have hra : isR a' := by unfold okI isR isT at ho; unfold isR; dsimp only at ho; omega
  have hrb : isR b' := by unfold okI isR isT at ho; unfold isR; dsimp only at ho; omega
  have hrc : isR c' := by unfold okI isR isT at ho; unfold isR; dsimp only at ho; omega
  clear ho
  unfold isR at hra
  obtain ⟨a, rfl⟩ : ∃ a : Nat, a' = a := ⟨a'.toNat, by omega⟩
  have ha24 : a < 24 := by omega
  unfold isR at hrb
  obtain ⟨b_r, rfl⟩ : ∃ b_r : Nat, b' = b_r := ⟨b'.toNat, by omega⟩
  have hb24 : b_r < 24 := by omega
  unfold isR at hrc
  obtain ⟨c, rfl⟩ : ∃ c : Nat, c' = c := ⟨c'.toNat, by omega⟩
  have hc24 : c < 24 := by omega
  have h0 : Un (touch b b tv (.slice wA wn wc)) w w := Un.refl _ _
  have hlt := h.lt
  have t0 := h.code
  have t1 := h.at_
  dsimp only at t1
  have f1 := h.box.frozen (oo + 1)
  have ga := h.get ha24
  dsimp only at ga
  have fa := h.box.frozen (oo + 2 + a)
  have gb := h.get hb24
  dsimp only at gb
  have fb := h.box.frozen (oo + 2 + b_r)
  have gc := h.get hc24
  dsimp only at gc
  have fc := h.box.frozen (oo + 2 + c)
  have HTH := Lib.hid h
  have HRW := Lib.hid hrw
  clear h hrw
  rw [stp_cmp hk] at hs
  injection hs with hs1 hs2
  subst hs1 hs2
  dsimp only at *
  have e1 : (k == 1) = false := by simp; omega
  have e2 : (k == 2) = false := by simp; omega
  have e10 : (k == 10) = false := by simp; omega
  have e11 : (k == 11) = false := by simp; omega
  have e12 : (k == 12) = false := by simp; omega
  have e13 : (k == 13) = false := by simp; omega
  have e14 : (k == 14) = false := by simp; omega
  have e15 : (k == 15) = false := by simp; omega
  have e16 : (k == 16) = false := by simp; omega
  have e17 : (k == 17) = false := by simp; omega
  go_enter Tryd.func68, Tryd.ntmps68
  go_wp2
  refine region_first [0, 1, 2, 3, 4, 5, 6, 7, 8, 9, 10, 11, 12, 13, 14, 15, 16, 17, 18, 20, 21] (.cons 19 (seq [22] (seq [23] .nil))) (by kernel_rfl) (by kernel_rfl) ?_
  simp only [pick, List.map_cons, List.map_nil, List.getD_cons_zero, List.getD_cons_succ]
  go_wp2
  refine ord_call (by kernel_rfl) ?_
  simp only [pick, List.map_cons, List.map_nil, List.getD_cons_zero, List.getD_cons_succ]
  go_wp2_with (go_at_call 74; refine (vm_compute k _ _ _ hk (HRW.out _) (HRW.out _)).mono ?_; rintro e w' ⟨rfl, rfl⟩)
  refine ord_more [22] (seq [23] .nil) (by kernel_rfl) ?_
  simp only [pick, List.map_cons, List.map_nil, List.getD_cons_zero, List.getD_cons_succ]
  go_wp2
  refine ord_last [23] (by kernel_rfl) ?_
  simp only [pick, List.map_cons, List.map_nil, List.getD_cons_zero, List.getD_cons_succ]
  go_wp2
  go_ret
  exact ⟨rfl, ⟨_, ((HTH.out.reg ha24 _).alloc _).drew, .inl rfl⟩, ((un_at h0 touch_b _ _).alloc _).drew⟩

theorem vm_execo (T : TypeId) (pre post : List Value) (oo : Nat) (w : World) (B b n cc wn wc : Nat) (cA wA : Option Addr) (tv : Value) (s s' : Vs) (k a b' c d : Int) (E : Int) (h : ToV T pre post w B b oo (.slice cA n cc) tv (.slice wA wn wc) { s with p := s.p + 1 }) (hBs : B ≤ w.heap.size)
    (hok : Ok n s) (ho : okI n ⟨k, a, b', c, d⟩) (hs : stp n ⟨k, a, b', c, d⟩ s = (s', E)) :
    Calls Tryd.prog 68 #[.pointer (some ⟨b, oo, none⟩), .agg #[.int .i64 k, .int .i64 a, .int .i64 b', .int .i64 c, .int .i64 d], .slice wA wn wc] w (StPostO T pre post B b oo (.slice cA n cc) tv (.slice wA wn wc) s' E w) := by
  obtain ⟨p, r, ws, t⟩ := s
  obtain ⟨q1, q2, q3, q4, q5, q6, q7⟩ := hok
  dsimp only at q1 q2 q3 q4 q5 q6 q7 h
  have hk : 1 ≤ k ∧ k ≤ 17 := okI_kind ho
  rcases (by omega : (3 ≤ k ∧ k ≤ 9) ∨ k = 1 ∨ k = 2 ∨ k = 10 ∨ k = 11 ∨ k = 12 ∨ k = 13 ∨ k = 14 ∨ k = 15 ∨ k = 16 ∨ k = 17) with hk | rfl | rfl | rfl | rfl | rfl | rfl | rfl | rfl | rfl | rfl
  · exact vm_execC T pre post oo w B b n cc wn wc cA wA tv p r ws t s' k hk a b' c d E h hBs q5 q7 q3 ho hs
  · exact vm_exec1 T pre post oo w B b n cc wn wc cA wA tv p r ws t s' a b' c d E h hBs q5 q7 q3 ho hs
  · exact vm_exec2 T pre post oo w B b n cc wn wc cA wA tv p r ws t s' a b' c d E h hBs q5 q7 q3 ho hs
  · exact vm_exec10 T pre post oo w B b n cc wn wc cA wA tv p r ws t s' a b' c d E h hBs q5 q7 q3 ho hs
  · exact vm_exec11 T pre post oo w B b n cc wn wc cA wA tv p r ws t s' a b' c d E h hBs q5 q7 q3 ho hs
  · exact vm_exec12 T pre post oo w B b n cc wn wc cA wA tv p r ws t s' a b' c d E h hBs q5 q7 q3 ho hs
  · exact vm_exec13 T pre post oo w B b n cc wn wc cA wA tv p r ws t s' a b' c d E h hBs q5 q7 q3 ho hs
  · exact vm_exec14 T pre post oo w B b n cc wn wc cA wA tv p r ws t s' a b' c d E h hBs q5 q7 q3 ho hs
  · exact vm_exec15 T pre post oo w B b n cc wn wc cA wA tv p r ws t s' a b' c d E h hBs q5 q7 q3 ho hs
  · exact vm_exec16 T pre post oo w B b n cc wn wc cA wA tv p r ws t s' a b' c d E h hBs q5 q7 q3 ho hs
  · exact vm_exec17 T pre post oo w B b n cc wn wc cA wA tv p r ws t s' a b' c d E h hBs q5 q7 q3 ho hs

end Go.Proofs.YtnchgdjdfhfedaaDoor

set_option linter.unusedSimpArgs false
set_option linter.unusedVariables false
namespace Go.Proofs.YtnchgdjdfhfedaaDoor
open Go.RowKit Go.Ord Go.Baro

/-- One call behind another, where what was told has come to lie in a new block. -/
theorem un_next {b mb : Nat} {tv tv2 wv : Value} {w w2 w3 : World} (h : Un (touch b mb tv wv) w w2) (k : Un (touch b mb tv2 wv) w2 w3) (hb : tv2.ownBlock = tv.ownBlock ∨ ∃ k, tv2.ownBlock = some k ∧ w.heap.size ≤ k) : Un (touch b mb tv wv) w w3 := by
  refine ⟨k.os.trans h.os, k.tape.trans h.tape, k.output.trans h.output, Nat.le_trans h.size k.size, fun i hi hx => (k.block i (Nat.lt_of_lt_of_le hi h.size) fun ht => hx ?_).trans (h.block i hi hx)⟩
  rcases ht with ht | ht | ht | ht
  · exact .inl ht
  · exact .inr (.inl ht)
  · rcases hb with hb | ⟨q, hq, hs⟩
    · exact .inr (.inr (.inl (hb ▸ ht)))
    · rw [hq] at ht; injection ht with ht; omega
  · exact .inr (.inr (.inr ht))

set_option maxRecDepth 100000 in
set_option maxHeartbeats 4000000 in
theorem vm_Stepo (T : TypeId) (pre post : List Value) (oo : Nat) (w : World) (B Bc b n cc wn wc : Nat) (cA wA : Option Addr) (tv : Value) (l : List Ins) (s s' : Vs) (o : Ins) (E : Int) (h : ToV T pre post w B b oo (.slice cA n cc) tv (.slice wA wn wc) s) (hBs : B ≤ w.heap.size)
    (hc : RO w Bc cA n l) (hBc : Bc ≤ w.heap.size) (hp : s.p < n) (hn : n ≤ 200) (hok : Ok n s) (hx : l[s.p.toNat]? = some o) (ho : okI n o) (hs : stp n o s = (s', E)) :
    Calls Tryd.prog 54 #[.pointer (some ⟨b, oo, none⟩), .slice wA wn wc] w (StPostO T pre post B b oo (.slice cA n cc) tv (.slice wA wn wc) (aft n E s') E w) := by
  obtain ⟨p', r, ws, t⟩ := s
  have q1 := hok.lo
  dsimp only at q1 hp hx
  obtain ⟨p, rfl⟩ : ∃ p : Nat, p' = p := ⟨p'.toNat, by omega⟩
  rw [Int.toNat_natCast] at hx
  have hpn : p < n := by omega
  have h0 : Un (touch b b tv (.slice wA wn wc)) w w := Un.refl _ _
  have HTH := Lib.hid h
  have HOK := Lib.hid hok
  have HO := Lib.hid ho
  have HS := Lib.hid hs
  have HC := Lib.hid hc
  have HXX := Lib.hid hx
  have hv : ((p : Int) == (n : Int)) = false := by simp; omega
  clear h hok ho hs hc hx
  go_enter Tryd.func54, Tryd.ntmps54
  go_wp2_with fail
  refine (vm_endedo T pre post oo w B b n cc _ tv _ ⟨p, r, ws, t⟩ false HTH.out (by simp; omega)).mono ?_
  rintro e w1 ⟨rfl, hw1⟩
  have h1 : ToV T pre post w1 B b oo (.slice cA n cc) tv (.slice wA wn wc) ⟨p, r, ws, t⟩ := by rw [hw1]; exact HTH.out.drewN 1
  have hc1 : RO w1 Bc cA n l := by rw [hw1]; exact HC.out.heap rfl
  have hu1 : Un (touch b b tv (.slice wA wn wc)) w w1 := by rw [hw1]; exact h0.drewN 1
  have hsz1 : w1.heap.size ≤ w.heap.size := by rw [hw1]; exact Nat.le_refl _
  have hsz2 : w.heap.size ≤ w1.heap.size := by rw [hw1]; exact Nat.le_refl _
  clear hw1 h0
  obtain ⟨bc, oc, k0, x0, y0, z0, u0, rfl, hbc, c0, c1, c2, c3, c4, HX, hmem⟩ := hc1.val hpn
  have hX := HX.out
  rw [HXX.out] at hX
  simp only [Option.some.injEq] at hX
  subst hX
  clear HX hmem hc1
  have hlt := h1.lt
  have hcs : bc < w1.heap.size := by omega
  have t0 := h1.code
  have t1 := h1.at_
  dsimp only at t1
  have f1 := h1.box.frozen (oo + 1)
  have HT1 := Lib.hid h1
  clear h1
  go_wp2
  refine region_first [0, 1, 2, 3, 4, 5, 6, 7, 8, 9] (.cons 10 (seq [11] .nil)) (by kernel_rfl) (by kernel_rfl) ?_
  simp only [pick, List.map_cons, List.map_nil, List.getD_cons_zero, List.getD_cons_succ]
  go_wp2
  refine ord_call (by kernel_rfl) ?_
  simp only [pick, List.map_cons, List.map_nil, List.getD_cons_zero, List.getD_cons_succ]
  go_wp2
  refine ⟨(((Below.refl w1.heap.size w1).alloc (Nat.le_refl _) _).drew).block, ?_⟩
  refine ord_last [11] (by kernel_rfl) ?_
  simp only [pick, List.map_cons, List.map_nil, List.getD_cons_zero, List.getD_cons_succ]
  go_wp2_with fail
  refine (vm_execo T pre post oo _ B b n cc wn wc _ wA tv ⟨p, r, ws, t⟩ s' k0 x0 y0 z0 u0 E (by exact ((HT1.out.next (p + 1)).alloc _).drew) (by simp; omega) HOK.out HO.out HS.out).mono ?_
  rintro e w2 ⟨rfl, ⟨tv2, hth2, hbk⟩, hb2⟩
  have hbk' : tv2.ownBlock = tv.ownBlock ∨ ∃ k, tv2.ownBlock = some k ∧ w.heap.size ≤ k := hbk.imp id (fun ⟨k, e, hk⟩ => ⟨k, e, by simp at hk; omega⟩)
  have hu2 : Un (touch b b tv (.slice wA wn wc)) w w2 := ((un_at hu1 touch_b _ _).alloc _).drew.trans hb2
  by_cases hE : E = 0
  · subst hE
    go_wp2
    go_ret
    exact ⟨rfl, ⟨tv2, hth2, hbk'⟩, hu2⟩
  · have hv2 : (E != 0) = true := by simp [hE]
    have HE := Lib.hid hE
    clear hE
    go_wp2_with fail
    refine (vm_endo T pre post oo _ B b n cc _ tv2 _ s' hth2).mono ?_
    rintro e w3 ⟨rfl, hth3, hb3⟩
    go_wp2
    go_ret
    refine ⟨rfl, ⟨tv2, by rw [aft_err HE.out]; exact hth3, hbk'⟩, un_next hu2 hb3 hbk'⟩
/-- A step of a thread within a call, its code valid: what it does of itself. -/
theorem vm_Stepx (T : TypeId) (pre post : List Value) (oo : Nat) (w : World) (B Bc b n cc wn wc : Nat) (cA wA : Option Addr) (tv : Value) (L L' : Lv) (ws W' : List Int) (E : Int) (en : Bool) (h : ToV T pre post w B b oo (.slice cA n cc) tv (.slice wA wn wc) ⟨L.p, L.r, ws, L.t⟩) (hBs : B ≤ w.heap.size)
    (hc : RO w Bc cA n L.c) (hBc : Bc ≤ w.heap.size) (hok : okC L.c) (hl : LOk L) (hw : WOk ws) (hx : exc L ws = (L', W', E, en)) :
    Calls Tryd.prog 54 #[.pointer (some ⟨b, oo, none⟩), .slice wA wn wc] w fun e w' => ∃ q : Int, StPostO T pre post B b oo (.slice cA n cc) tv (.slice wA wn wc) ⟨q, L'.r, W', L'.t⟩ E w e w' ∧ (en = true ↔ q = n) ∧ (en = false → q = L'.p ∧ L'.c = L.c) := by
  have hlen := hc.len
  by_cases hp : L.p = L.c.length
  · rw [exc_none hp] at hx
    simp only [Prod.mk.injEq] at hx
    obtain ⟨rfl, rfl, rfl, rfl⟩ := hx
    have h0 : Un (touch b b tv (.slice wA wn wc)) w w := Un.refl _ _
    have HTH := Lib.hid h
    have hpn : L.p = n := by omega
    have HP := Lib.hid hpn
    clear h hp hpn
    go_enter Tryd.func54, Tryd.ntmps54
    go_wp2_with fail
    refine (vm_endedo T pre post oo w B b n cc _ tv _ ⟨L.p, L.r, ws, L.t⟩ true HTH.out (by simp; exact HP.out)).mono ?_
    rintro e w1 ⟨rfl, rfl⟩
    go_wp2
    go_ret
    exact ⟨L.p, ⟨rfl, ⟨tv, HTH.out.drewN 1, .inl rfl⟩, h0.drewN 1⟩, by simp; exact HP.out, by simp⟩
  · have hlt : L.p < L.c.length := by have := hl.2.1; omega
    have hlo := hl.1
    have hn : L.p.toNat < L.c.length := by omega
    obtain ⟨o, ho⟩ : ∃ o, L.c[L.p.toNat]? = some o := ⟨_, List.getElem?_eq_getElem hn⟩
    obtain ⟨s', E', hs⟩ : ∃ s' E', stp L.c.length o ⟨L.p, L.r, ws, L.t⟩ = (s', E') := ⟨_, _, rfl⟩
    rw [exc_stp hlt ho hs] at hx
    simp only [Prod.mk.injEq] at hx
    obtain ⟨rfl, rfl, rfl, rfl⟩ := hx
    refine (vm_Stepo T pre post oo w B Bc b n cc wn wc cA wA tv L.c ⟨L.p, L.r, ws, L.t⟩ s' o E' h hBs hc hBc (by dsimp only; omega) (by have := hok.1; omega) (by rw [← hlen]; exact ok_of hl hw) ho (by rw [← hlen]; exact hok.2 o (List.mem_of_getElem? ho)) (by rw [← hlen]; exact hs)).mono ?_
    intro e w' hP
    refine ⟨if E' = 0 then s'.p else n, hP, ?_, ?_⟩
    · rw [hlen]
      by_cases hE : E' = 0
      · simp [hE]
      · simp [hE]
    · intro hf
      simp at hf
      simp [hf.1]
end Go.Proofs.YtnchgdjdfhfedaaDoor

set_option linter.unusedSimpArgs false
set_option linter.unusedVariables false
namespace Go.Proofs.YtnchgdjdfhfedaaDoor
open Go.RowKit Go.Ord Go.Baro

theorem run_eql_nilS {P : Program} (w : World) (t e : TypeId) (a : Option Addr) (l c : Nat) (h : P.underlying t = some (.slice e)) : (binOp .eql t (.slice a l c) (.slice none 0 0)).run P w = .ok (.bool a.isNone) w := by
  simp only [binOp]
  simp [run_equal_slice_nil w t e a l c h]
theorem eltOpC : Elt Tryd.prog 24 73 (.agg #[.int .i64 0, .int .i64 0, .int .i64 0, .int .i64 0, .int .i64 0]) 5 40 := Elt.mk' Tryd.underlying24 (by kernel_rfl) rfl (by decide)
theorem cellsO_one (l : List Ins) : ∀ v ∈ cellsO l, v.oneCell' = true := by
  intro v hv
  simp only [cellsO, insV, List.mem_flatMap, List.mem_cons, List.not_mem_nil, or_false] at hv
  obtain ⟨o, _, h⟩ := hv
  rcases h with rfl | rfl | rfl | rfl | rfl <;> rfl

set_option maxHeartbeats 1000000 in
theorem slices_CloneO (l : List Ins) (A : Option Addr) (n c B : Nat) (w : World) (hb : RO w B A n l) (hB : B ≤ w.heap.size) (hn : n ≤ 200) :
    Calls Tryd.prog 65 #[.slice A n c] w fun e w' => ∃ v, e = .returned v ∧ w'.ownsRow w.heap.size 73 5 v n (cellsO l) ∧ Below w.heap.size w w' := by
  have HL := Lib.hid hb.len
  cases A with
  | none =>
    have hn0 : n = 0 := by
      rcases Nat.eq_zero_or_pos n with h0 | h0
      · exact h0
      · obtain ⟨b, q, hA, _⟩ := Rd.at_ hb h0; cases hA
    subst hn0
    have hl : l = [] := List.eq_nil_of_length_eq_zero HL.out
    subst hl
    have hnil := run_eql_nilS w _ _ none 0 c Tryd.underlying24
    go_enter Tryd.func65, Tryd.ntmps65
    go_wp2
    go_ret
    exact ⟨_, rfl, World.ownsRow_nil _ _ _ _, Below.refl _ _⟩
  | some ad =>
    have hnil := run_eql_nilS w _ _ (some ad) n c Tryd.underlying24
    go_enter Tryd.func65, Tryd.ntmps65
    go_wp2_with (at_builtin; go_must (refine app_src eltOpC _ rfl _ _ rfl w.heap.size _ 0 [] rfl (World.ownsRow_lit w #[] 0 (Nat.le_refl _) (by unfold maxLen; omega) rfl) (some ad) n c (cellsO l) rfl _ (RO.below hb ((Below.refl _ _).alloc (by omega) _)) (cellsO_one _) (by omega) (by omega) (by simp) ?_); intro v3 w3 hown3 hgr3 hbel3 _)
    go_ret
    refine ⟨_, rfl, ?_, hbel3 _ ((Below.refl _ _).alloc (Nat.le_refl _) _)⟩
    simpa using hown3

set_option maxHeartbeats 1000000 in
theorem slices_CloneI (l : List Int) (A : Option Addr) (n c B : Nat) (w : World) (hb : RI w B .i64 A n l) (hB : B ≤ w.heap.size) (hn : n ≤ 200) :
    Calls Tryd.prog 40 #[.slice A n c] w fun e w' => ∃ v, e = .returned v ∧ w'.ownsRow w.heap.size 3 1 v n (l.map (Value.int .i64)) ∧ Below w.heap.size w w' := by
  have HL := Lib.hid hb.len
  cases A with
  | none =>
    have hn0 : n = 0 := by
      rcases Nat.eq_zero_or_pos n with h0 | h0
      · exact h0
      · obtain ⟨b, q, hA, _⟩ := Rd.at_ hb h0; cases hA
    subst hn0
    have hl : l = [] := List.eq_nil_of_length_eq_zero HL.out
    subst hl
    have hnil := run_eql_nilS w _ _ none 0 c Tryd.underlying22
    go_enter Tryd.func40, Tryd.ntmps40
    go_wp2
    go_ret
    exact ⟨_, rfl, World.ownsRow_nil _ _ _ _, Below.refl _ _⟩
  | some ad =>
    have hnil := run_eql_nilS w _ _ (some ad) n c Tryd.underlying22
    go_enter Tryd.func40, Tryd.ntmps40
    go_wp2_with (at_builtin; go_must (refine app_src eltInt _ rfl _ _ rfl w.heap.size _ 0 [] rfl (World.ownsRow_lit w #[] 0 (Nat.le_refl _) (by unfold maxLen; omega) rfl) (some ad) n c (l.map (Value.int .i64)) rfl _ (RI.below hb ((Below.refl _ _).alloc (by omega) _)) (one_ints _ _) (by omega) (by omega) (by simp) ?_); intro v3 w3 hown3 hgr3 hbel3 _)
    go_ret
    refine ⟨_, rfl, ?_, hbel3 _ ((Below.refl _ _).alloc (Nat.le_refl _) _)⟩
    simpa using hown3

/-- What a call has told, in a row of its own. -/
theorem vm_Toldo (T : TypeId) (pre post : List Value) (o : Nat) (w : World) (B b : Nat) (cv tv wv : Value) (s : Vs) (h : ToV T pre post w B b o cv tv wv s) (hl : s.t.length ≤ 200) :
    Calls Tryd.prog 55 #[.pointer (some ⟨b, o, none⟩)] w fun e w' => ∃ v, e = .returned v ∧ w'.ownsRow w.heap.size 3 1 v s.t.length (s.t.map (Value.int .i64)) ∧ Below w.heap.size w w' := by
  obtain ⟨A, c, rfl, _⟩ := own_form h.told
  have t26 := h.toldv
  have hr := Rd.of_own h.told
  have hlt := h.lt
  obtain ⟨m, hm⟩ : ∃ m, m = s.t.length := ⟨_, rfl⟩
  rw [← hm] at t26 hr hl ⊢
  clear h hm
  go_enter Tryd.func55, Tryd.ntmps55
  go_wp2_with fail
  refine (slices_CloneI s.t A m c w.heap.size w hr (Nat.le_refl _) hl).mono ?_
  rintro e w1 ⟨v, rfl, h1, h2⟩
  go_wp2
  go_ret
  exact ⟨v, rfl, h1, h2⟩
end Go.Proofs.YtnchgdjdfhfedaaDoor
