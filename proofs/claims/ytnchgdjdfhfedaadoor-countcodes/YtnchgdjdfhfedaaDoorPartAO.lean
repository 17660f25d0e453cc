/- Of this claim's own texts these, one behind the other: RunPure4, Vm5O. No statement of the seat is proved here; no condition but those that stand at the theorems. -/
import Derived.Test.YtnchgdjdfhfedaaDoorPartAH
import Derived.Test.YtnchgdjdfhfedaaDoorPartAN
set_option linter.unusedSimpArgs false
set_option linter.unusedVariables false
namespace Go.Baro

def WOk (w : List Int) : Prop := w.length ≤ 200 ∧ ∀ x ∈ w, inW x
def LOk (l : Lv) : Prop := 0 ≤ l.p ∧ l.p ≤ l.c.length ∧ (∀ i, inW (l.r i)) ∧ (∀ x ∈ l.t, inW x) ∧ l.t.length ≤ 200
theorem ok_of {l : Lv} {w : List Int} (hl : LOk l) (hw : WOk w) : Ok l.c.length ⟨l.p, l.r, w, l.t⟩ := ⟨hl.1, hl.2.1, hl.2.2.1, hw.2, hw.1, hl.2.2.2.1, hl.2.2.2.2⟩
theorem live_ok {c : List Ins} {ar : List Int} (h : ∀ x ∈ ar, inW x) : LOk (live c ar) := by
  have := st0_ok (n := c.length) (args := ar) (words := []) h (by simp) (by simp)
  exact ⟨this.lo, this.hi, this.r, this.t, this.tl⟩
/-- An instruction of a thread within its call. -/
theorem exc_ok {l : Lv} {w : List Int} (hc : okC l.c) (hi : ∀ o ∈ l.c, inI o) (hl : LOk l) (hw : WOk w) :
    WOk (exc l w).2.1 ∧ LOk (exc l w).1 ∧ (exc l w).1.c = l.c ∧ ((exc l w).2.2.2 = false → (exc l w).1.p < l.c.length) := by
  unfold exc
  by_cases hp : l.p = l.c.length
  · rw [if_pos hp]; exact ⟨hw, hl, rfl, fun h => by cases h⟩
  · rw [if_neg hp]
    have hlt : l.p < l.c.length := by have := hl.2.1; omega
    have hlo := hl.1
    have hn : l.p.toNat < l.c.length := by omega
    rw [List.getElem?_eq_getElem hn, Option.getD_some]
    have hm := List.getElem_mem hn
    have hk := stp_ok (hc.2 _ hm) (hi _ hm) (ok_of hl hw) hlt
    refine ⟨⟨hk.wl, hk.w⟩, ⟨hk.lo, hk.hi, hk.r, hk.t, hk.tl⟩, rfl, fun h => ?_⟩
    have := hk.hi
    simp only [decide_eq_false_iff_not, not_or, Decidable.not_not] at h
    dsimp only
    omega
/-- A thread within a call that has not ended, and what its next instruction gives. -/
theorem exc_stp {l : Lv} {w : List Int} {o : Ins} {s' : Vs} {E : Int} (hp : l.p < l.c.length) (ho : l.c[l.p.toNat]? = some o) (hs : stp l.c.length o ⟨l.p, l.r, w, l.t⟩ = (s', E)) :
    exc l w = (⟨l.c, s'.p, s'.r, s'.t⟩, s'.w, E, decide (E ≠ 0 ∨ s'.p = l.c.length)) := by
  unfold exc
  rw [if_neg (by omega), ho, Option.getD_some, hs]
theorem exc_none {l : Lv} {w : List Int} (hp : l.p = l.c.length) : exc l w = (l, w, 0, true) := by unfold exc; rw [if_pos hp]
/-- What holds of a run at step st. -/
structure GOk (m : Mc) (st : Nat) (g : Gs) : Prop where
  w : WOk g.w
  th : ∀ i l, (g.th i).now = some l → l.c ∈ m.cs ∧ LOk l ∧ l.p < l.c.length
  bg : ∀ i, (g.th i).bg ≤ (m.ts[i]?.getD []).length
  ps : ∀ i l, (g.th i).now = some l → 1 ≤ (g.th i).bg
  out : g.out.length ≤ 2 * st
theorem actL_ok {m : Mc} {g : Gs} {st n bg : Nat} {l : Lv} {o : List Ev} (hcs : ∀ c ∈ m.cs, okC c ∧ ∀ o ∈ c, inI o) (h : GOk m st g) (hl : LOk l) (hc : l.c ∈ m.cs) (h1 : 1 ≤ bg) (h2 : bg ≤ (m.ts[n]?.getD []).length) (ho : o.length ≤ 2 * st + 1) : GOk m (st + 1) (actL g st n bg l o) := by
  obtain ⟨e1, e2, e3, e4⟩ := exc_ok (hcs _ hc).1 (hcs _ hc).2 hl h.w
  unfold actL
  dsimp only
  by_cases hq : (exc l g.w).2.2.2 = true
  · rw [if_pos hq]
    refine ⟨e1, fun i k hk => ?_, fun i => ?_, fun i k hk => ?_, by simp; omega⟩
    · by_cases hi : i = n
      · simp [putT, hi] at hk
      · simp only [putT, if_neg hi] at hk; exact h.th i k hk
    · by_cases hi : i = n
      · subst hi; simp [putT]; exact h2
      · simp only [putT, if_neg hi]; exact h.bg i
    · by_cases hi : i = n
      · simp [putT, hi] at hk
      · simp only [putT, if_neg hi] at hk ⊢; exact h.ps i k hk
  · rw [if_neg hq]
    refine ⟨e1, fun i k hk => ?_, fun i => ?_, fun i k hk => ?_, by dsimp only; omega⟩
    · by_cases hi : i = n
      · simp [putT, hi] at hk
        subst hk
        rw [e3]
        exact ⟨hc, e2, e4 (by simpa using hq)⟩
      · simp only [putT, if_neg hi] at hk; exact h.th i k hk
    · by_cases hi : i = n
      · subst hi; simp [putT]; exact h2
      · simp only [putT, if_neg hi]; exact h.bg i
    · by_cases hi : i = n
      · simp [putT, hi]; exact h1
      · simp only [putT, if_neg hi] at hk ⊢; exact h.ps i k hk
/-- The call that a thread begins. -/
theorem call_at {m : Mc} (hm : okMc m) {n i : Nat} {c : Cl} (hc : (m.ts[n]?.getD [])[i]? = some c) : okCl m c ∧ m.cs[c.k.toNat]?.getD [] ∈ m.cs := by
  cases ht : m.ts[n]? with
  | none => rw [ht] at hc; simp at hc
  | some t =>
    rw [ht] at hc
    have hk := (hm.2.2.2.2 t (List.mem_of_getElem? ht)).2 c (List.mem_of_getElem? hc)
    refine ⟨hk, ?_⟩
    have hlt : c.k.toNat < m.cs.length := by have := hk.1; omega
    rw [List.getElem?_eq_getElem hlt]
    exact List.getElem_mem hlt
theorem actG_ok {m : Mc} {g : Gs} {st n : Nat} (hm : okMc m) (hcs : ∀ c ∈ m.cs, okC c ∧ ∀ o ∈ c, inI o) (hts : ∀ t ∈ m.ts, ∀ c ∈ t, ∀ x ∈ c.ar, inW x) (h : GOk m st g) : GOk m (st + 1) (actG m g st n) := by
  unfold actG
  cases hn : (g.th n).now with
  | some l =>
    obtain ⟨h1, h2, h3⟩ := h.th n l hn
    exact actL_ok hcs h h2 h1 (h.ps n l hn) (h.bg n) (by have := h.out; omega)
  | none =>
    dsimp only
    cases hc : (m.ts[n]?.getD [])[(g.th n).bg]? with
    | none => exact ⟨h.w, h.th, h.bg, h.ps, by have := h.out; show g.out.length ≤ _; omega⟩
    | some c =>
      have hlt : (g.th n).bg < (m.ts[n]?.getD []).length := (List.getElem?_eq_some_iff.1 hc).1
      have har : ∀ x ∈ c.ar, inW x := by
        cases ht : m.ts[n]? with
        | none => rw [ht] at hc; simp at hc
        | some t => rw [ht] at hc; exact hts t (List.mem_of_getElem? ht) c (List.mem_of_getElem? hc)
      exact actL_ok hcs h (live_ok har) (call_at hm hc).2 (by omega) (by omega) (by have := h.out; simp; omega)
theorem g0_ok {m : Mc} (hm : okMc m) (hw : ∀ x ∈ m.ws, inW x) : GOk m 0 (g0 m) :=
  ⟨⟨hm.1, hw⟩, fun _ _ h => (by cases h), fun _ => Nat.zero_le _, fun _ _ h => (by cases h), Nat.le_refl _⟩
theorem plyG_snoc (m : Mc) (l : List Nat) (n : Nat) (g : Gs) : plyG m 0 (l ++ [n]) g = actG m (plyG m 0 l g) l.length n := by
  rw [plyG_append]
  show actG m _ (0 + l.length) n = _
  rw [Nat.zero_add]
theorem plyG_ok {m : Mc} (hm : okMc m) (hcs : ∀ c ∈ m.cs, okC c ∧ ∀ o ∈ c, inI o) (hts : ∀ t ∈ m.ts, ∀ c ∈ t, ∀ x ∈ c.ar, inW x) (hw : ∀ x ∈ m.ws, inW x) : ∀ (k : Nat) (l : List Nat), l.length = k → GOk m k (plyG m 0 l (g0 m))
  | 0, l, hl => by rw [List.eq_nil_of_length_eq_zero hl]; exact g0_ok hm hw
  | k + 1, l, hl => by
    have hne : l ≠ [] := fun h => by rw [h] at hl; cases hl
    rw [← List.dropLast_concat_getLast hne, plyG_snoc]
    have h1 : l.dropLast.length = k := by simp [hl]
    rw [h1]
    exact actG_ok hm hcs hts (plyG_ok hm hcs hts hw k _ h1)

/-- What run.Play answers: events, words, an error. -/
def PlR (m : Mc) (s : List Int) (T : List Ev) (W : List Int) (E : Int) : Prop :=
  (¬ okMc m ∧ T = [] ∧ W = [] ∧ E = 4) ∨ (okMc m ∧ 6000 < s.length ∧ T = [] ∧ W = [] ∧ E = 1) ∨ (okMc m ∧ s.length ≤ 6000 ∧ (∃ x ∈ s, x < 0 ∨ (m.ts.length : Int) ≤ x) ∧ T = [] ∧ W = [] ∧ E = 2) ∨
  (okMc m ∧ s.length ≤ 6000 ∧ (∀ x ∈ s, 0 ≤ x ∧ x < m.ts.length) ∧ T = (plyG m 0 (s.map Int.toNat) (g0 m)).out ∧ W = (plyG m 0 (s.map Int.toNat) (g0 m)).w ∧ E = 0)
theorem plR_some (m : Mc) (s : List Int) : ∃ T W E, PlR m s T W E := by
  by_cases h1 : okMc m
  · by_cases h2 : 6000 < s.length
    · exact ⟨[], [], 1, .inr (.inl ⟨h1, h2, rfl, rfl, rfl⟩)⟩
    · by_cases h3 : ∃ x ∈ s, x < 0 ∨ (m.ts.length : Int) ≤ x
      · exact ⟨[], [], 2, .inr (.inr (.inl ⟨h1, by omega, h3, rfl, rfl, rfl⟩))⟩
      · refine ⟨_, _, 0, .inr (.inr (.inr ⟨h1, by omega, fun x hx => ?_, rfl, rfl, rfl⟩))⟩
        by_cases h4 : 0 ≤ x ∧ x < m.ts.length
        · exact h4
        · exact absurd ⟨x, hx, by omega⟩ h3
  · exact ⟨[], [], 4, .inl ⟨h1, rfl, rfl, rfl⟩⟩
end Go.Baro

set_option linter.unusedSimpArgs false
set_option linter.unusedVariables false
namespace Go.Proofs.YtnchgdjdfhfedaaDoor
open Go.RowKit Go.Ord Go.Baro

/-- What an instruction leaves. -/
def StPostO (T : TypeId) (pre post : List Value) (B b oo : Nat) (cv tv wv : Value) (s' : Vs) (E : Int) (w : World) (e : Ending) (w' : World) : Prop := e = .returned (.int .i64 E) ∧ (∃ tv', ToV T pre post w' B b oo cv tv' wv s' ∧ (tv'.ownBlock = tv.ownBlock ∨ ∃ k, tv'.ownBlock = some k ∧ w.heap.size ≤ k)) ∧ Un (touch b b tv wv) w w'

theorem results_noneT {P : Program} {fn : Func} (h : fn.results = #[]) (tmps : Array Value) (w : World) : (results fn tmps).run P w = .ok (.tuple #[]) w := by
  simp [results, h]
theorem vm_endo (T : TypeId) (pre post : List Value) (oo : Nat) (w : World) (B b n cc : Nat) (cA : Option Addr) (tv wv : Value) (s : Vs) (h : ToV T pre post w B b oo (.slice cA n cc) tv wv s) :
    Calls Tryd.prog 69 #[.pointer (some ⟨b, oo, none⟩)] w fun e w' => e = .returned (.tuple #[]) ∧ ToV T pre post w' B b oo (.slice cA n cc) tv wv { s with p := n } ∧ Un (touch b b tv wv) w w' := by
  have h0 : Un (touch b b tv wv) w w := Un.refl _ _
  have hlt := h.lt
  have t0 := h.code
  have t1 := h.at_
  have f1 := h.box.frozen (oo + 1)
  have HTH := Lib.hid h
  clear h
  go_enter Tryd.func69, Tryd.ntmps69
  go_wp2
  refine bodyPost_end (v := .tuple #[]) (results_noneT rfl _ _) rfl ?_
  exact ⟨rfl, HTH.out.next n, un_at h0 touch_b _ _⟩

set_option maxRecDepth 100000 in
set_option maxHeartbeats 4000000 in
theorem vm_exec1 (T : TypeId) (pre post : List Value) (oo : Nat) (w : World) (B b n cc wn wc : Nat) (cA wA : Option Addr) (tv : Value) (p : Int) (r : Int → Int) (ws t : List Int) (s' : Vs) (a' b' c' d' E : Int) (h : ToV T pre post w B b oo (.slice cA n cc) tv (.slice wA wn wc) ⟨p + 1, r, ws, t⟩) (hBs : B ≤ w.heap.size)
    (hwl : ws.length ≤ 200) (htl : t.length ≤ 200) (hrw : ∀ i, inW (r i)) (ho : okI n ⟨1, a', b', c', d'⟩) (hs : stp n ⟨1, a', b', c', d'⟩ ⟨p, r, ws, t⟩ = (s', E)) :
    Calls Tryd.prog 68 #[.pointer (some ⟨b, oo, none⟩), .agg #[.int .i64 1, .int .i64 a', .int .i64 b', .int .i64 c', .int .i64 d'], .slice wA wn wc] w (StPostO T pre post B b oo (.slice cA n cc) tv (.slice wA wn wc) s' E w) := by
  have hra : isR a' := by unfold okI isR isT at ho; unfold isR; dsimp only at ho; omega
  clear ho
  unfold isR at hra
  obtain ⟨a, rfl⟩ : ∃ a : Nat, a' = a := ⟨a'.toNat, by omega⟩
  have ha24 : a < 24 := by omega
  have h0 : Un (touch b b tv (.slice wA wn wc)) w w := Un.refl _ _
  have hlt := h.lt
  have t0 := h.code
  have t1 := h.at_
  dsimp only at t1
  have f1 := h.box.frozen (oo + 1)
  have ga := h.get ha24
  dsimp only at ga
  have fa := h.box.frozen (oo + 2 + a)
  have HTH := Lib.hid h
  have HRW := Lib.hid hrw
  clear h hrw
  rw [stp_1] at hs
  injection hs with hs1 hs2
  subst hs1 hs2
  go_enter Tryd.func68, Tryd.ntmps68
  go_wp2
  refine region_two [0, 1, 2, 3, 4, 5, 6, 7] [8] (by kernel_rfl) (by kernel_rfl) ?_
  simp only [pick, List.map_cons, List.map_nil, List.getD_cons_zero, List.getD_cons_succ]
  go_wp2
  go_ret
  exact ⟨rfl, ⟨_, ((HTH.out.reg ha24 b').alloc _).drew, .inl rfl⟩, ((un_at h0 touch_b _ _).alloc _).drew⟩

set_option maxRecDepth 100000 in
set_option maxHeartbeats 4000000 in
theorem vm_exec2 (T : TypeId) (pre post : List Value) (oo : Nat) (w : World) (B b n cc wn wc : Nat) (cA wA : Option Addr) (tv : Value) (p : Int) (r : Int → Int) (ws t : List Int) (s' : Vs) (a' b' c' d' E : Int) (h : ToV T pre post w B b oo (.slice cA n cc) tv (.slice wA wn wc) ⟨p + 1, r, ws, t⟩) (hBs : B ≤ w.heap.size)
    (hwl : ws.length ≤ 200) (htl : t.length ≤ 200) (hrw : ∀ i, inW (r i)) (ho : okI n ⟨2, a', b', c', d'⟩) (hs : stp n ⟨2, a', b', c', d'⟩ ⟨p, r, ws, t⟩ = (s', E)) :
    Calls Tryd.prog 68 #[.pointer (some ⟨b, oo, none⟩), .agg #[.int .i64 2, .int .i64 a', .int .i64 b', .int .i64 c', .int .i64 d'], .slice wA wn wc] w (StPostO T pre post B b oo (.slice cA n cc) tv (.slice wA wn wc) s' E w) := by
  have hra : isR a' := by unfold okI isR isT at ho; unfold isR; dsimp only at ho; omega
  have hrb : isR b' := by unfold okI isR isT at ho; unfold isR; dsimp only at ho; omega
  clear ho
  unfold isR at hra
  obtain ⟨a, rfl⟩ : ∃ a : Nat, a' = a := ⟨a'.toNat, by omega⟩
  have ha24 : a < 24 := by omega
  unfold isR at hrb
  obtain ⟨b_r, rfl⟩ : ∃ b_r : Nat, b' = b_r := ⟨b'.toNat, by omega⟩
  have hb24 : b_r < 24 := by omega
  have h0 : Un (touch b b tv (.slice wA wn wc)) w w := Un.refl _ _
  have hlt := h.lt
  have t0 := h.code
  have t1 := h.at_
  dsimp only at t1
  have f1 := h.box.frozen (oo + 1)
  have ga := h.get ha24
  dsimp only at ga
  have fa := h.box.frozen (oo + 2 + a)
  have gb := h.get hb24
  dsimp only at gb
  have fb := h.box.frozen (oo + 2 + b_r)
  have HTH := Lib.hid h
  have HRW := Lib.hid hrw
  clear h hrw
  rw [stp_2] at hs
  injection hs with hs1 hs2
  subst hs1 hs2
  go_enter Tryd.func68, Tryd.ntmps68
  go_wp2
  refine region_two [0, 1, 2, 3, 4, 5, 6, 7, 8, 9, 10, 11, 12] [13] (by kernel_rfl) (by kernel_rfl) ?_
  simp only [pick, List.map_cons, List.map_nil, List.getD_cons_zero, List.getD_cons_succ]
  go_wp2
  go_ret
  exact ⟨rfl, ⟨_, ((HTH.out.reg ha24 (r b_r)).alloc _).drew, .inl rfl⟩, ((un_at h0 touch_b _ _).alloc _).drew⟩

set_option maxRecDepth 100000 in
set_option maxHeartbeats 4000000 in
theorem vm_exec10 (T : TypeId) (pre post : List Value) (oo : Nat) (w : World) (B b n cc wn wc : Nat) (cA wA : Option Addr) (tv : Value) (p : Int) (r : Int → Int) (ws t : List Int) (s' : Vs) (a' b' c' d' E : Int) (h : ToV T pre post w B b oo (.slice cA n cc) tv (.slice wA wn wc) ⟨p + 1, r, ws, t⟩) (hBs : B ≤ w.heap.size)
    (hwl : ws.length ≤ 200) (htl : t.length ≤ 200) (hrw : ∀ i, inW (r i)) (ho : okI n ⟨10, a', b', c', d'⟩) (hs : stp n ⟨10, a', b', c', d'⟩ ⟨p, r, ws, t⟩ = (s', E)) :
    Calls Tryd.prog 68 #[.pointer (some ⟨b, oo, none⟩), .agg #[.int .i64 10, .int .i64 a', .int .i64 b', .int .i64 c', .int .i64 d'], .slice wA wn wc] w (StPostO T pre post B b oo (.slice cA n cc) tv (.slice wA wn wc) s' E w) := by
  clear ho
  have h0 : Un (touch b b tv (.slice wA wn wc)) w w := Un.refl _ _
  have hlt := h.lt
  have t0 := h.code
  have t1 := h.at_
  dsimp only at t1
  have f1 := h.box.frozen (oo + 1)
  have HTH := Lib.hid h
  have HRW := Lib.hid hrw
  clear h hrw
  rw [stp_10] at hs
  injection hs with hs1 hs2
  subst hs1 hs2
  go_enter Tryd.func68, Tryd.ntmps68
  go_wp2
  go_ret
  exact ⟨rfl, ⟨_, ((HTH.out.next a').alloc _), .inl rfl⟩, ((un_at h0 touch_b _ _).alloc _)⟩

set_option maxRecDepth 100000 in
set_option maxHeartbeats 4000000 in
theorem vm_exec11 (T : TypeId) (pre post : List Value) (oo : Nat) (w : World) (B b n cc wn wc : Nat) (cA wA : Option Addr) (tv : Value) (p : Int) (r : Int → Int) (ws t : List Int) (s' : Vs) (a' b' c' d' E : Int) (h : ToV T pre post w B b oo (.slice cA n cc) tv (.slice wA wn wc) ⟨p + 1, r, ws, t⟩) (hBs : B ≤ w.heap.size)
    (hwl : ws.length ≤ 200) (htl : t.length ≤ 200) (hrw : ∀ i, inW (r i)) (ho : okI n ⟨11, a', b', c', d'⟩) (hs : stp n ⟨11, a', b', c', d'⟩ ⟨p, r, ws, t⟩ = (s', E)) :
    Calls Tryd.prog 68 #[.pointer (some ⟨b, oo, none⟩), .agg #[.int .i64 11, .int .i64 a', .int .i64 b', .int .i64 c', .int .i64 d'], .slice wA wn wc] w (StPostO T pre post B b oo (.slice cA n cc) tv (.slice wA wn wc) s' E w) := by
  have hra : isR a' := by unfold okI isR isT at ho; unfold isR; dsimp only at ho; omega
  clear ho
  unfold isR at hra
  obtain ⟨a, rfl⟩ : ∃ a : Nat, a' = a := ⟨a'.toNat, by omega⟩
  have ha24 : a < 24 := by omega
  have h0 : Un (touch b b tv (.slice wA wn wc)) w w := Un.refl _ _
  have hlt := h.lt
  have t0 := h.code
  have t1 := h.at_
  dsimp only at t1
  have f1 := h.box.frozen (oo + 1)
  have ga := h.get ha24
  dsimp only at ga
  have fa := h.box.frozen (oo + 2 + a)
  have HTH := Lib.hid h
  have HRW := Lib.hid hrw
  clear h hrw
  rw [stp_11] at hs
  dsimp only at hs
  by_cases hz : r a = 0
  · rw [if_pos hz] at hs
    injection hs with hs1 hs2
    subst hs1 hs2
    have hv1 : (r (a : Int) == 0) = true := by simp [hz]
    have hv2 : (r (a : Int) != 0) = false := by simp [hz]
    have HZ := Lib.hid hz
    clear hz
    go_enter Tryd.func68, Tryd.ntmps68
    go_wp2
    refine region_two [0, 1, 2, 3, 4, 5, 6, 7] [] (by kernel_rfl) (by kernel_rfl) ?_
    simp only [pick, List.map_cons, List.map_nil, List.getD_cons_zero, List.getD_cons_succ]
    go_wp2
    go_ret
    exact ⟨rfl, ⟨_, (HTH.out.alloc _).drew, .inl rfl⟩, (h0.alloc _).drew⟩
  · rw [if_neg hz] at hs
    injection hs with hs1 hs2
    subst hs1 hs2
    have hv1 : (r (a : Int) == 0) = false := by simp [hz]
    have hv2 : (r (a : Int) != 0) = true := by simp [hz]
    have HZ := Lib.hid hz
    clear hz
    go_enter Tryd.func68, Tryd.ntmps68
    go_wp2
    refine region_two [0, 1, 2, 3, 4, 5, 6, 7] [] (by kernel_rfl) (by kernel_rfl) ?_
    simp only [pick, List.map_cons, List.map_nil, List.getD_cons_zero, List.getD_cons_succ]
    go_wp2
    go_ret
    exact ⟨rfl, ⟨_, ((HTH.out.next b').alloc _).drew, .inl rfl⟩, ((un_at h0 touch_b _ _).alloc _).drew⟩

set_option maxRecDepth 100000 in
set_option maxHeartbeats 4000000 in
theorem vm_exec12 (T : TypeId) (pre post : List Value) (oo : Nat) (w : World) (B b n cc wn wc : Nat) (cA wA : Option Addr) (tv : Value) (p : Int) (r : Int → Int) (ws t : List Int) (s' : Vs) (a' b' c' d' E : Int) (h : ToV T pre post w B b oo (.slice cA n cc) tv (.slice wA wn wc) ⟨p + 1, r, ws, t⟩) (hBs : B ≤ w.heap.size)
    (hwl : ws.length ≤ 200) (htl : t.length ≤ 200) (hrw : ∀ i, inW (r i)) (ho : okI n ⟨12, a', b', c', d'⟩) (hs : stp n ⟨12, a', b', c', d'⟩ ⟨p, r, ws, t⟩ = (s', E)) :
    Calls Tryd.prog 68 #[.pointer (some ⟨b, oo, none⟩), .agg #[.int .i64 12, .int .i64 a', .int .i64 b', .int .i64 c', .int .i64 d'], .slice wA wn wc] w (StPostO T pre post B b oo (.slice cA n cc) tv (.slice wA wn wc) s' E w) := by
  have hra : isR a' := by unfold okI isR isT at ho; unfold isR; dsimp only at ho; omega
  clear ho
  unfold isR at hra
  obtain ⟨a, rfl⟩ : ∃ a : Nat, a' = a := ⟨a'.toNat, by omega⟩
  have ha24 : a < 24 := by omega
  have h0 : Un (touch b b tv (.slice wA wn wc)) w w := Un.refl _ _
  have hlt := h.lt
  have t0 := h.code
  have t1 := h.at_
  dsimp only at t1
  have f1 := h.box.frozen (oo + 1)
  have ga := h.get ha24
  dsimp only at ga
  have fa := h.box.frozen (oo + 2 + a)
  have HTH := Lib.hid h
  have HRW := Lib.hid hrw
  clear h hrw
  rw [stp_12] at hs
  dsimp only at hs
  by_cases hz : r a = 0
  · rw [if_pos hz] at hs
    injection hs with hs1 hs2
    subst hs1 hs2
    have hv1 : (r (a : Int) == 0) = true := by simp [hz]
    have hv2 : (r (a : Int) != 0) = false := by simp [hz]
    have HZ := Lib.hid hz
    clear hz
    go_enter Tryd.func68, Tryd.ntmps68
    go_wp2
    refine region_two [0, 1, 2, 3, 4, 5, 6, 7] [] (by kernel_rfl) (by kernel_rfl) ?_
    simp only [pick, List.map_cons, List.map_nil, List.getD_cons_zero, List.getD_cons_succ]
    go_wp2
    go_ret
    exact ⟨rfl, ⟨_, ((HTH.out.next b').alloc _).drew, .inl rfl⟩, ((un_at h0 touch_b _ _).alloc _).drew⟩
  · rw [if_neg hz] at hs
    injection hs with hs1 hs2
    subst hs1 hs2
    have hv1 : (r (a : Int) == 0) = false := by simp [hz]
    have hv2 : (r (a : Int) != 0) = true := by simp [hz]
    have HZ := Lib.hid hz
    clear hz
    go_enter Tryd.func68, Tryd.ntmps68
    go_wp2
    refine region_two [0, 1, 2, 3, 4, 5, 6, 7] [] (by kernel_rfl) (by kernel_rfl) ?_
    simp only [pick, List.map_cons, List.map_nil, List.getD_cons_zero, List.getD_cons_succ]
    go_wp2
    go_ret
    exact ⟨rfl, ⟨_, (HTH.out.alloc _).drew, .inl rfl⟩, (h0.alloc _).drew⟩

set_option maxRecDepth 100000 in
set_option maxHeartbeats 4000000 in
theorem vm_exec13 (T : TypeId) (pre post : List Value) (oo : Nat) (w : World) (B b n cc wn wc : Nat) (cA wA : Option Addr) (tv : Value) (p : Int) (r : Int → Int) (ws t : List Int) (s' : Vs) (a' b' c' d' E : Int) (h : ToV T pre post w B b oo (.slice cA n cc) tv (.slice wA wn wc) ⟨p + 1, r, ws, t⟩) (hBs : B ≤ w.heap.size)
    (hwl : ws.length ≤ 200) (htl : t.length ≤ 200) (hrw : ∀ i, inW (r i)) (ho : okI n ⟨13, a', b', c', d'⟩) (hs : stp n ⟨13, a', b', c', d'⟩ ⟨p, r, ws, t⟩ = (s', E)) :
    Calls Tryd.prog 68 #[.pointer (some ⟨b, oo, none⟩), .agg #[.int .i64 13, .int .i64 a', .int .i64 b', .int .i64 c', .int .i64 d'], .slice wA wn wc] w (StPostO T pre post B b oo (.slice cA n cc) tv (.slice wA wn wc) s' E w) := by
  have HO := Lib.hid ho
  clear ho
  have h0 : Un (touch b b tv (.slice wA wn wc)) w w := Un.refl _ _
  have hlt := h.lt
  have t0 := h.code
  have t1 := h.at_
  dsimp only at t1
  have f1 := h.box.frozen (oo + 1)
  have HTH := Lib.hid h
  have HRW := Lib.hid hrw
  clear h hrw
  go_enter Tryd.func68, Tryd.ntmps68
  go_wp2_with fail
  refine (vm_accesso T pre post oo _ B b n wn wc wA _ tv ⟨p, r, ws, t⟩ s' 13 a' b' c' d' E (by exact HTH.out.alloc _) (by simp; omega) hwl (by omega) HO.out hs).mono ?_
  rintro e w1 ⟨rfl, hth1, hb1⟩
  go_wp2
  go_ret
  exact ⟨rfl, ⟨_, hth1, .inl rfl⟩, (h0.alloc _).trans hb1⟩

set_option maxRecDepth 100000 in
set_option maxHeartbeats 4000000 in
theorem vm_exec14 (T : TypeId) (pre post : List Value) (oo : Nat) (w : World) (B b n cc wn wc : Nat) (cA wA : Option Addr) (tv : Value) (p : Int) (r : Int → Int) (ws t : List Int) (s' : Vs) (a' b' c' d' E : Int) (h : ToV T pre post w B b oo (.slice cA n cc) tv (.slice wA wn wc) ⟨p + 1, r, ws, t⟩) (hBs : B ≤ w.heap.size)
    (hwl : ws.length ≤ 200) (htl : t.length ≤ 200) (hrw : ∀ i, inW (r i)) (ho : okI n ⟨14, a', b', c', d'⟩) (hs : stp n ⟨14, a', b', c', d'⟩ ⟨p, r, ws, t⟩ = (s', E)) :
    Calls Tryd.prog 68 #[.pointer (some ⟨b, oo, none⟩), .agg #[.int .i64 14, .int .i64 a', .int .i64 b', .int .i64 c', .int .i64 d'], .slice wA wn wc] w (StPostO T pre post B b oo (.slice cA n cc) tv (.slice wA wn wc) s' E w) := by
  have HO := Lib.hid ho
  clear ho
  have h0 : Un (touch b b tv (.slice wA wn wc)) w w := Un.refl _ _
  have hlt := h.lt
  have t0 := h.code
  have t1 := h.at_
  dsimp only at t1
  have f1 := h.box.frozen (oo + 1)
  have HTH := Lib.hid h
  have HRW := Lib.hid hrw
  clear h hrw
  go_enter Tryd.func68, Tryd.ntmps68
  go_wp2_with fail
  refine (vm_accesso T pre post oo _ B b n wn wc wA _ tv ⟨p, r, ws, t⟩ s' 14 a' b' c' d' E (by exact HTH.out.alloc _) (by simp; omega) hwl (by omega) HO.out hs).mono ?_
  rintro e w1 ⟨rfl, hth1, hb1⟩
  go_wp2
  go_ret
  exact ⟨rfl, ⟨_, hth1, .inl rfl⟩, (h0.alloc _).trans hb1⟩

set_option maxRecDepth 100000 in
set_option maxHeartbeats 4000000 in
theorem vm_exec15 (T : TypeId) (pre post : List Value) (oo : Nat) (w : World) (B b n cc wn wc : Nat) (cA wA : Option Addr) (tv : Value) (p : Int) (r : Int → Int) (ws t : List Int) (s' : Vs) (a' b' c' d' E : Int) (h : ToV T pre post w B b oo (.slice cA n cc) tv (.slice wA wn wc) ⟨p + 1, r, ws, t⟩) (hBs : B ≤ w.heap.size)
    (hwl : ws.length ≤ 200) (htl : t.length ≤ 200) (hrw : ∀ i, inW (r i)) (ho : okI n ⟨15, a', b', c', d'⟩) (hs : stp n ⟨15, a', b', c', d'⟩ ⟨p, r, ws, t⟩ = (s', E)) :
    Calls Tryd.prog 68 #[.pointer (some ⟨b, oo, none⟩), .agg #[.int .i64 15, .int .i64 a', .int .i64 b', .int .i64 c', .int .i64 d'], .slice wA wn wc] w (StPostO T pre post B b oo (.slice cA n cc) tv (.slice wA wn wc) s' E w) := by
  have HO := Lib.hid ho
  clear ho
  have h0 : Un (touch b b tv (.slice wA wn wc)) w w := Un.refl _ _
  have hlt := h.lt
  have t0 := h.code
  have t1 := h.at_
  dsimp only at t1
  have f1 := h.box.frozen (oo + 1)
  have HTH := Lib.hid h
  have HRW := Lib.hid hrw
  clear h hrw
  go_enter Tryd.func68, Tryd.ntmps68
  go_wp2_with fail
  refine (vm_accesso T pre post oo _ B b n wn wc wA _ tv ⟨p, r, ws, t⟩ s' 15 a' b' c' d' E (by exact HTH.out.alloc _) (by simp; omega) hwl (by omega) HO.out hs).mono ?_
  rintro e w1 ⟨rfl, hth1, hb1⟩
  go_wp2
  go_ret
  exact ⟨rfl, ⟨_, hth1, .inl rfl⟩, (h0.alloc _).trans hb1⟩

set_option maxRecDepth 100000 in
set_option maxHeartbeats 4000000 in
theorem vm_exec16 (T : TypeId) (pre post : List Value) (oo : Nat) (w : World) (B b n cc wn wc : Nat) (cA wA : Option Addr) (tv : Value) (p : Int) (r : Int → Int) (ws t : List Int) (s' : Vs) (a' b' c' d' E : Int) (h : ToV T pre post w B b oo (.slice cA n cc) tv (.slice wA wn wc) ⟨p + 1, r, ws, t⟩) (hBs : B ≤ w.heap.size)
    (hwl : ws.length ≤ 200) (htl : t.length ≤ 200) (hrw : ∀ i, inW (r i)) (ho : okI n ⟨16, a', b', c', d'⟩) (hs : stp n ⟨16, a', b', c', d'⟩ ⟨p, r, ws, t⟩ = (s', E)) :
    Calls Tryd.prog 68 #[.pointer (some ⟨b, oo, none⟩), .agg #[.int .i64 16, .int .i64 a', .int .i64 b', .int .i64 c', .int .i64 d'], .slice wA wn wc] w (StPostO T pre post B b oo (.slice cA n cc) tv (.slice wA wn wc) s' E w) := by
  have hra : isR a' := by unfold okI isR isT at ho; unfold isR; dsimp only at ho; omega
  clear ho
  unfold isR at hra
  obtain ⟨a, rfl⟩ : ∃ a : Nat, a' = a := ⟨a'.toNat, by omega⟩
  have ha24 : a < 24 := by omega
  have h0 : Un (touch b b tv (.slice wA wn wc)) w w := Un.refl _ _
  have hlt := h.lt
  have t0 := h.code
  have t1 := h.at_
  dsimp only at t1
  have f1 := h.box.frozen (oo + 1)
  have ga := h.get ha24
  dsimp only at ga
  have fa := h.box.frozen (oo + 2 + a)
  have HTH := Lib.hid h
  have HRW := Lib.hid hrw
  clear h hrw
  rw [stp_16] at hs
  dsimp only at hs
  obtain ⟨t', ht'⟩ : ∃ t', t' = if t.length = 200 then t else t ++ [r a] := ⟨_, rfl⟩
  obtain ⟨E', hE'⟩ : ∃ E', E' = if t.length = 200 then (8 : Int) else 0 := ⟨_, rfl⟩
  have hse : s' = ⟨p + 1, r, ws, t'⟩ ∧ E = E' := by
    by_cases hz : t.length = 200
    · rw [if_pos hz] at hs ht' hE'; injection hs with hs1 hs2; subst hs1 hs2 ht' hE'; exact ⟨rfl, rfl⟩
    · rw [if_neg hz] at hs ht' hE'; injection hs with hs1 hs2; subst hs1 hs2 ht' hE'; exact ⟨rfl, rfl⟩
  obtain ⟨rfl, rfl⟩ := hse
  have HT' := Lib.hid ht'
  have HE' := Lib.hid hE'
  clear hs ht' hE'
  go_enter Tryd.func68, Tryd.ntmps68
  go_wp2
  refine region_two [0, 1, 2, 3, 4, 5, 6, 7] [8, 9] (by kernel_rfl) (by kernel_rfl) ?_
  simp only [pick, List.map_cons, List.map_nil, List.getD_cons_zero, List.getD_cons_succ]
  go_wp2_with fail
  refine (vm_emito T pre post oo _ B b _ tv _ ⟨p + 1, r, ws, t⟩ (r a) (by exact (HTH.out.alloc _).drew) (by simp; omega) htl E t' HE'.out HT'.out).mono ?_
  rintro e w1 ⟨rfl, hth1, hb1⟩
  go_wp2
  go_ret
  obtain ⟨tv1, hth2, hbk⟩ := hth1
  exact ⟨rfl, ⟨tv1, hth2, hbk.imp id (fun ⟨k, e, hk⟩ => ⟨k, e, by simp at hk; omega⟩)⟩, (h0.alloc _).drew.trans hb1⟩

set_option maxRecDepth 100000 in
set_option maxHeartbeats 4000000 in
theorem vm_exec17 (T : TypeId) (pre post : List Value) (oo : Nat) (w : World) (B b n cc wn wc : Nat) (cA wA : Option Addr) (tv : Value) (p : Int) (r : Int → Int) (ws t : List Int) (s' : Vs) (a' b' c' d' E : Int) (h : ToV T pre post w B b oo (.slice cA n cc) tv (.slice wA wn wc) ⟨p + 1, r, ws, t⟩) (hBs : B ≤ w.heap.size)
    (hwl : ws.length ≤ 200) (htl : t.length ≤ 200) (hrw : ∀ i, inW (r i)) (ho : okI n ⟨17, a', b', c', d'⟩) (hs : stp n ⟨17, a', b', c', d'⟩ ⟨p, r, ws, t⟩ = (s', E)) :
    Calls Tryd.prog 68 #[.pointer (some ⟨b, oo, none⟩), .agg #[.int .i64 17, .int .i64 a', .int .i64 b', .int .i64 c', .int .i64 d'], .slice wA wn wc] w (StPostO T pre post B b oo (.slice cA n cc) tv (.slice wA wn wc) s' E w) := by
  clear ho
  have h0 : Un (touch b b tv (.slice wA wn wc)) w w := Un.refl _ _
  have hlt := h.lt
  have t0 := h.code
  have t1 := h.at_
  dsimp only at t1
  have f1 := h.box.frozen (oo + 1)
  have HTH := Lib.hid h
  have HRW := Lib.hid hrw
  clear h hrw
  rw [stp_17] at hs
  injection hs with hs1 hs2
  subst hs1 hs2
  go_enter Tryd.func68, Tryd.ntmps68
  go_wp2_with fail
  refine (vm_endo T pre post oo _ B b n cc cA tv _ ⟨p + 1, r, ws, t⟩ (by exact HTH.out.alloc _)).mono ?_
  rintro e w1 ⟨rfl, hth1, hb1⟩
  go_wp2
  go_ret
  exact ⟨rfl, ⟨_, hth1, .inl rfl⟩, (h0.alloc _).trans hb1⟩

set_option maxRecDepth 100000 in
set_option maxHeartbeats 4000000 in
theorem vm_execC (T : TypeId) (pre post : List Value) (oo : Nat) (w : World) (B b n cc wn wc : Nat) (cA wA : Option Addr) (tv : Value) (p : Int) (r : Int → Int) (ws t : List Int) (s' : Vs) (k : Int) (hk : 3 ≤ k ∧ k ≤ 9) (a' b' c' d' E : Int) (h : ToV T pre post w B b oo (.slice cA n cc) tv (.slice wA wn wc) ⟨p + 1, r, ws, t⟩) (hBs : B ≤ w.heap.size)
    (hwl : ws.length ≤ 200) (htl : t.length ≤ 200) (hrw : ∀ i, inW (r i)) (ho : okI n ⟨k, a', b', c', d'⟩) (hs : stp n ⟨k, a', b', c', d'⟩ ⟨p, r, ws, t⟩ = (s', E)) :
    Calls Tryd.prog 68 #[.pointer (some ⟨b, oo, none⟩), .agg #[.int .i64 k, .int .i64 a', .int .i64 b', .int .i64 c', .int .i64 d'], .slice wA wn wc] w (StPostO T pre post B b oo (.slice cA n cc) tv (.slice wA wn wc) s' E w) := by
  have hra : isR a' := by unfold okI isR isT at ho; unfold isR; dsimp only at ho; omega
  have hrb : isR b' := by unfold okI isR isT at ho; unfold isR; dsimp only at ho; omega
  have hrc : isR c' := by unfold okI isR isT at ho; unfold isR; dsimp only at ho; omega
  clear ho
  unfold isR at hra
  obtain ⟨a, rfl⟩ : ∃ a : Nat, a' = a := ⟨a'.toNat, by omega⟩
  have ha24 : a < 24 := by omega
  unfold isR at hrb
  obtain ⟨b_r, rfl⟩ : ∃ b_r : Nat, b' = b_r := ⟨b'.toNat, by omega⟩
  have hb24 : b_r < 24 := by omega
  unfold isR at hrc
  obtain ⟨c, rfl⟩ : ∃ c : Nat, c' = c := ⟨c'.toNat, by omega⟩
  have hc24 : c < 24 := by omega
  have h0 : Un (touch b b tv (.slice wA wn wc)) w w := Un.refl _ _
  have hlt := h.lt
  have t0 := h.code
  have t1 := h.at_
  dsimp only at t1
  have f1 := h.box.frozen (oo + 1)
  have ga := h.get ha24
  dsimp only at ga
  have fa := h.box.frozen (oo + 2 + a)
  have gb := h.get hb24
  dsimp only at gb
  have fb := h.box.frozen (oo + 2 + b_r)
  have gc := h.get hc24
  dsimp only at gc
  have fc := h.box.frozen (oo + 2 + c)
  have HTH := Lib.hid h
  have HRW := Lib.hid hrw
  clear h hrw
  rw [stp_cmp hk] at hs
  injection hs with hs1 hs2
  subst hs1 hs2
  dsimp only at *
  have e1 : (k == 1) = false := by simp; omega
  have e2 : (k == 2) = false := by simp; omega
  have e10 : (k == 10) = false := by simp; omega
  have e11 : (k == 11) = false := by simp; omega
  have e12 : (k == 12) = false := by simp; omega
  have e13 : (k == 13) = false := by simp; omega
  have e14 : (k == 14) = false := by simp; omega
  have e15 : (k == 15) = false := by simp; omega
  have e16 : (k == 16) = false := by simp; omega
  have e17 : (k == 17) = false := by simp; omega
  go_enter Tryd.func68, Tryd.ntmps68
  go_wp2
  refine region_first [0, 1, 2, 3, 4, 5, 6, 7, 8, 9, 10, 11, 12, 13, 14, 15, 16, 17, 18, 20, 21] (.cons 19 (seq [22] (seq [23] .nil))) (by kernel_rfl) (by kernel_rfl) ?_
  simp only [pick, List.map_cons, List.map_nil, List.getD_cons_zero, List.getD_cons_succ]
  go_wp2
  refine ord_call (by kernel_rfl) ?_
  simp only [pick, List.map_cons, List.map_nil, List.getD_cons_zero, List.getD_cons_succ]
  go_wp2_with (go_at_call 74; refine (vm_compute k _ _ _ hk (HRW.out _) (HRW.out _)).mono ?_; rintro e w' ⟨rfl, rfl⟩)
  refine ord_more [22] (seq [23] .nil) (by kernel_rfl) ?_
  simp only [pick, List.map_cons, List.map_nil, List.getD_cons_zero, List.getD_cons_succ]
  go_wp2
  refine ord_last [23] (by kernel_rfl) ?_
  simp only [pick, List.map_cons, List.map_nil, List.getD_cons_zero, List.getD_cons_succ]
  go_wp2
  go_ret
  exact ⟨rfl, ⟨_, ((HTH.out.reg ha24 _).alloc _).drew, .inl rfl⟩, ((un_at h0 touch_b _ _).alloc _).drew⟩

theorem vm_execo (T : TypeId) (pre post : List Value) (oo : Nat) (w : World) (B b n cc wn wc : Nat) (cA wA : Option Addr) (tv : Value) (s s' : Vs) (k a b' c d : Int) (E : Int) (h : ToV T pre post w B b oo (.slice cA n cc) tv (.slice wA wn wc) { s with p := s.p + 1 }) (hBs : B ≤ w.heap.size)
    (hok : Ok n s) (ho : okI n ⟨k, a, b', c, d⟩) (hs : stp n ⟨k, a, b', c, d⟩ s = (s', E)) :
    Calls Tryd.prog 68 #[.pointer (some ⟨b, oo, none⟩), .agg #[.int .i64 k, .int .i64 a, .int .i64 b', .int .i64 c, .int .i64 d], .slice wA wn wc] w (StPostO T pre post B b oo (.slice cA n cc) tv (.slice wA wn wc) s' E w) := by
  obtain ⟨p, r, ws, t⟩ := s
  obtain ⟨q1, q2, q3, q4, q5, q6, q7⟩ := hok
  dsimp only at q1 q2 q3 q4 q5 q6 q7 h
  have hk : 1 ≤ k ∧ k ≤ 17 := okI_kind ho
  rcases (by omega : (3 ≤ k ∧ k ≤ 9) ∨ k = 1 ∨ k = 2 ∨ k = 10 ∨ k = 11 ∨ k = 12 ∨ k = 13 ∨ k = 14 ∨ k = 15 ∨ k = 16 ∨ k = 17) with hk | rfl | rfl | rfl | rfl | rfl | rfl | rfl | rfl | rfl | rfl
  · exact vm_execC T pre post oo w B b n cc wn wc cA wA tv p r ws t s' k hk a b' c d E h hBs q5 q7 q3 ho hs
  · exact vm_exec1 T pre post oo w B b n cc wn wc cA wA tv p r ws t s' a b' c d E h hBs q5 q7 q3 ho hs
  · exact vm_exec2 T pre post oo w B b n cc wn wc cA wA tv p r ws t s' a b' c d E h hBs q5 q7 q3 ho hs
  · exact vm_exec10 T pre post oo w B b n cc wn wc cA wA tv p r ws t s' a b' c d E h hBs q5 q7 q3 ho hs
  · exact vm_exec11 T pre post oo w B b n cc wn wc cA wA tv p r ws t s' a b' c d E h hBs q5 q7 q3 ho hs
  · exact vm_exec12 T pre post oo w B b n cc wn wc cA wA tv p r ws t s' a b' c d E h hBs q5 q7 q3 ho hs
  · exact vm_exec13 T pre post oo w B b n cc wn wc cA wA tv p r ws t s' a b' c d E h hBs q5 q7 q3 ho hs
  · exact vm_exec14 T pre post oo w B b n cc wn wc cA wA tv p r ws t s' a b' c d E h hBs q5 q7 q3 ho hs
  · exact vm_exec15 T pre post oo w B b n cc wn wc cA wA tv p r ws t s' a b' c d E h hBs q5 q7 q3 ho hs
  · exact vm_exec16 T pre post oo w B b n cc wn wc cA wA tv p r ws t s' a b' c d E h hBs q5 q7 q3 ho hs
  · exact vm_exec17 T pre post oo w B b n cc wn wc cA wA tv p r ws t s' a b' c d E h hBs q5 q7 q3 ho hs

end Go.Proofs.YtnchgdjdfhfedaaDoor
