/- Of this claim's own texts these, one behind the other: Vm3O, Vm4O, VmRunPure. No statement of the seat is proved here; no condition but those that stand at the theorems. -/
import Derived.Test.YtnchgdjdfhfedaaDoorPartAT
import Derived.Test.YtnchgdjdfhfedaaDoorPartAL
import Derived.Test.YtnchgdjdfhfedaaDoorPartAD
set_option linter.unusedSimpArgs false
set_option linter.unusedVariables false
namespace Go.Proofs.YtnchgdjdfhfedaaDoor
open Go.RowKit Go.Ord Go.Baro

theorem eltInt : Elt Tryd.prog 22 3 (.int .i64 0) 1 8 := Elt.mk' Tryd.underlying22 (by kernel_rfl) rfl (by decide)
abbrev ToV (T : TypeId) (pre post : List Value) := To T 3 pre post

theorem vm_endedo (T : TypeId) (pre post : List Value) (o : Nat) (w : World) (B b n c : Nat) (A : Option Addr) (tv wv : Value) (s : Vs) (r : Bool) (h : ToV T pre post w B b o (.slice A n c) tv wv s) (hr : r = true ↔ s.p = n) :
    Calls Tryd.prog 51 #[.pointer (some ⟨b, o, none⟩)] w fun e w' => e = .returned (.bool r) ∧ w' = w.drewN 1 := by
  have H := Lib.hid hr
  clear hr
  have c0 := h.code
  have c1 := h.at_
  have hlt := h.lt
  clear h
  go_enter Tryd.func51, Tryd.ntmps51
  go_wp2
  refine region_two [0, 1, 2, 3, 4, 5, 6, 7, 8, 9, 10] [] (by kernel_rfl) (by kernel_rfl) ?_
  simp only [pick, List.map_cons, List.map_nil, List.getD_cons_zero, List.getD_cons_succ]
  go_wp2
  go_ret
  refine ⟨ret_bool ?_, rfl⟩
  have := H.out
  cases r <;> simp at this ⊢ <;> omega

theorem std_Clip (w : World) (A : Option Addr) (n c : Nat) (hc : n ≤ c) :
    Calls Tryd.prog 77 #[.slice A n c] w fun e w' => e = .returned (.slice A n n) ∧ w' = w := by
  go_enter Tryd.func77, Tryd.ntmps77
  go_wp2
  go_ret
  exact ⟨rfl, rfl⟩
set_option maxHeartbeats 2000000 in
theorem vm_emito (T : TypeId) (pre post : List Value) (o : Nat) (w : World) (B b : Nat) (cv tv wv : Value) (s : Vs) (x : Int) (h : ToV T pre post w B b o cv tv wv s) (hBs : B ≤ w.heap.size) (hl : s.t.length ≤ 200) (E : Int) (t' : List Int) (hE : E = if s.t.length = 200 then 8 else 0) (ht : t' = if s.t.length = 200 then s.t else s.t ++ [x]) :
    Calls Tryd.prog 73 #[.pointer (some ⟨b, o, none⟩), .int .i64 x] w fun e w' => e = .returned (.int .i64 E) ∧ (∃ tv', ToV T pre post w' B b o cv tv' wv { s with t := t' } ∧ (tv'.ownBlock = tv.ownBlock ∨ ∃ k, tv'.ownBlock = some k ∧ w.heap.size ≤ k)) ∧ Un (touch b b tv wv) w w' := by
  obtain ⟨p, r, ws, t⟩ := s
  dsimp only at hl hE ht
  have c26 := h.toldv
  have hlt := h.lt
  have h0 : Un (touch b b tv wv) w w := Un.refl _ _
  have hf := h.box.frozen (o + 26)
  obtain ⟨A, c, rfl, hlc⟩ := own_form h.told
  dsimp only at c26 hlc
  by_cases hfull : t.length = 200
  · rw [if_pos hfull] at hE ht
    subst hE ht
    rw [hfull] at c26
    have HTH := Lib.hid h
    clear h hfull hlc
    go_enter Tryd.func73, Tryd.ntmps73
    go_wp2
    go_ret
    exact ⟨rfl, ⟨_, HTH.out, .inl rfl⟩, h0⟩
  · rw [if_neg hfull] at hE ht
    subst hE
    have HT := Lib.hid ht
    obtain ⟨m, hm⟩ : ∃ m, m = t.length := ⟨_, rfl⟩
    have htold := h.told
    dsimp only at htold
    rw [← hm] at c26 htold hl hfull h0 ⊢
    have hv : ((m : Int) == 200) = false := by simp; omega
    have HM := Lib.hid hm
    have HTH := Lib.hid (show ToV T pre post w B b o cv (.slice A m c) wv ⟨p, r, ws, t⟩ by rw [hm]; exact h)
    rw [← hm] at hlc
    clear h hm ht
    go_enter Tryd.func73, Tryd.ntmps73
    go_wp2_with fail
    refine (std_Clip _ A m c hlc).mono ?_
    rintro e w1 ⟨rfl, rfl⟩
    have HR := Lib.hid (Rd.of_own htold)
    have HA := Lib.hid (show A = none → m = 0 from fun e => by subst e; rcases htold.2 with ⟨_, q⟩ | ⟨g, cap, cur, q, _⟩; exact q; cases q)
    clear htold
    go_wp2_with (at_builtin; go_must (refine app_full eltInt w1 rfl (.tmp 16) (.tmp 18) rfl A m (t.map (Value.int .i64)) rfl w1.heap.size HR.out HA.out (Nat.le_refl _) 1 (by omega) [.int .i64 x] w1.heap.size rfl rfl rfl (by omega) (by omega) ?_); intro v' w2 hown hb2; obtain ⟨A1, c1, rfl, hlc1⟩ := own_form hown; obtain ⟨hbx, hth, k1, hk1, hk2⟩ := HTH.out.tellB hBs hb2 hown (by rw [HM.out]); have c26' : w2.cell? ⟨b, o + 26, none⟩ = some (.slice A m c) := (by have := hbx.cell (pre.length + 26); rw [mid_at (by rw [thC_len]; omega), HTH.out.off, thC_told] at this; exact this); have hf' := hbx.frozen (o + 26))
    go_ret
    refine ⟨rfl, ?_, un_at (un_below hb2) (.inl rfl) _ _⟩
    rw [HT.out]; exact ⟨_, hth, .inr ⟨k1, hk1, hk2⟩⟩
end Go.Proofs.YtnchgdjdfhfedaaDoor

set_option linter.unusedSimpArgs false
set_option linter.unusedVariables false
namespace Go.Proofs.YtnchgdjdfhfedaaDoor
open Go.RowKit Go.Ord Go.Baro

set_option maxRecDepth 100000 in
set_option maxHeartbeats 4000000 in
theorem vm_accesso (T : TypeId) (pre post : List Value) (o : Nat) (w : World) (B b n wn wc : Nat) (wA : Option Addr) (cv tv : Value) (s s' : Vs) (k a' b' c d' E : Int) (h : ToV T pre post w B b o cv tv (.slice wA wn wc) { s with p := s.p + 1 }) (hBs : B ≤ w.heap.size) (hl : s.w.length ≤ 200)
    (hk : k = 13 ∨ k = 14 ∨ k = 15) (ho : okI n ⟨k, a', b', c, d'⟩) (hs : stp n ⟨k, a', b', c, d'⟩ s = (s', E)) :
    Calls Tryd.prog 72 #[.pointer (some ⟨b, o, none⟩), .agg #[.int .i64 k, .int .i64 a', .int .i64 b', .int .i64 c, .int .i64 d'], .slice wA wn wc] w fun e w' => e = .returned (.int .i64 E) ∧ ToV T pre post w' B b o cv tv (.slice wA wn wc) s' ∧ Un (touch b b tv (.slice wA wn wc)) w w' := by
  obtain ⟨p, r, ws, t⟩ := s
  dsimp only at h hl
  have hra : isR a' := by unfold okI isR isT at ho; unfold isR; dsimp only at ho; omega
  have hrb : isR b' := by unfold okI isR isT at ho; unfold isR; dsimp only at ho; omega
  have hrd : k = 15 → isR d' := by unfold okI isR isT at ho; unfold isR; dsimp only at ho; omega
  clear ho
  unfold isR at hra hrb hrd
  obtain ⟨a, rfl⟩ : ∃ a : Nat, a' = a := ⟨a'.toNat, by omega⟩
  obtain ⟨bb, rfl⟩ : ∃ a : Nat, b' = a := ⟨b'.toNat, by omega⟩
  have ha : a < 24 := by omega
  have hb : bb < 24 := by omega
  have hwn : wn = ws.length := by
    obtain ⟨A, c', he, _⟩ := own_form h.words
    injection he
  obtain ⟨q, hq⟩ : ∃ q, wrap64 (r bb + c) = q := ⟨_, rfl⟩
  have h0 : Un (touch b b tv (.slice wA wn wc)) w w := Un.refl _ _
  have hlt := h.lt
  have ga := h.get ha
  have gb := h.get hb
  have fa := h.box.frozen (o + 2 + a)
  dsimp only at ga gb
  by_cases hrange : q < 0 ∨ (wn : Int) ≤ q
  · have hs1 : (s', E) = (⟨p + 1, r, ws, t⟩, 2) := by
      rw [← hs]; exact stp_out hk hq (by dsimp only; omega)
    injection hs1 with hs1 hs2
    subst hs1 hs2
    have HTH := Lib.hid h
    have HQ := Lib.hid hq
    clear hs hwn h
    by_cases hneg : q < 0
    · go_enter Tryd.func72, Tryd.ntmps72
      go_wp2
      refine region_two [0, 1, 2, 3, 4, 5, 6, 7, 8, 9, 10] [] (by kernel_rfl) (by kernel_rfl) ?_
      simp only [pick, List.map_cons, List.map_nil, List.getD_cons_zero, List.getD_cons_succ]
      go_wp2
      go_ret
      exact ⟨rfl, (HTH.out.alloc _).drewN _, (h0.alloc _).drewN _⟩
    · have hge : (wn : Int) ≤ q := by omega
      go_enter Tryd.func72, Tryd.ntmps72
      go_wp2
      refine region_two [0, 1, 2, 3, 4, 5, 6, 7, 8, 9, 10] [] (by kernel_rfl) (by kernel_rfl) ?_
      simp only [pick, List.map_cons, List.map_nil, List.getD_cons_zero, List.getD_cons_succ]
      go_wp2
      go_ret
      exact ⟨rfl, (HTH.out.alloc _).drewN _, (h0.alloc _).drewN _⟩
  · obtain ⟨qn, rfl⟩ : ∃ qn : Nat, q = qn := ⟨q.toNat, by omega⟩
    have hqn : qn < wn := by omega
    have hqs : qn < ws.length := by omega
    obtain ⟨g, wc', x, he, hBg, hgs, hgb, gx, HX, fx⟩ := h.some (q := qn) hqs
    injection he with he1 he2 he3
    subst he1 he3
    have hrange' : ¬ (wrap64 (r (bb : Int) + c) < 0 ∨ (ws.length : Int) ≤ wrap64 (r (bb : Int) + c)) := by rw [hq, ← hwn]; omega
    have hgetD : ws[qn]?.getD 0 = x := by rw [HX.out]; rfl
    clear hrange
    rcases hk with rfl | rfl | rfl
    · have hs1 : (s', E) = (⟨p + 1, upd r a x, ws, t⟩, 0) := by
        rw [← hs]; exact stp_13 hq HX.out
      injection hs1 with hs1 hs2
      subst hs1 hs2
      have HTH := Lib.hid h
      clear hs hwn h hgetD hrange' he2
      go_enter Tryd.func72, Tryd.ntmps72
      go_wp2
      refine region_two [0, 1, 2, 3, 4, 5, 6, 7, 8, 9, 10] [] (by kernel_rfl) (by kernel_rfl) ?_
      simp only [pick, List.map_cons, List.map_nil, List.getD_cons_zero, List.getD_cons_succ]
      go_wp2
      refine region_two [0, 1, 2, 3, 4, 5, 6, 7, 8, 9] [10] (by kernel_rfl) (by kernel_rfl) ?_
      simp only [pick, List.map_cons, List.map_nil, List.getD_cons_zero, List.getD_cons_succ]
      go_wp2
      go_ret
      exact ⟨rfl, ((HTH.out.reg ha x).alloc _).drew.drew, ((un_at h0 touch_b _ _).alloc _).drew.drew⟩
    · have hs1 : (s', E) = (⟨p + 1, r, ws.set qn (r a), t⟩, 0) := by
        rw [← hs]; exact stp_14 hq hqs
      injection hs1 with hs1 hs2
      subst hs1 hs2
      have HTH := Lib.hid h
      clear hs hwn h hgetD hrange' he2
      go_enter Tryd.func72, Tryd.ntmps72
      go_wp2
      refine region_two [0, 1, 2, 3, 4, 5, 6, 7, 8, 9, 10] [] (by kernel_rfl) (by kernel_rfl) ?_
      simp only [pick, List.map_cons, List.map_nil, List.getD_cons_zero, List.getD_cons_succ]
      go_wp2
      refine region_two [0, 1, 2, 3, 4, 5, 6, 7, 8, 9] [10] (by kernel_rfl) (by kernel_rfl) ?_
      simp only [pick, List.map_cons, List.map_nil, List.getD_cons_zero, List.getD_cons_succ]
      go_wp2
      go_ret
      exact ⟨rfl, ((HTH.out.word rfl (r a)).alloc _).drew.drew, ((un_at h0 touch_w _ _).alloc _).drew.drew⟩
    · have hd := hrd rfl
      obtain ⟨d, rfl⟩ : ∃ a : Nat, d' = a := ⟨d'.toNat, by omega⟩
      have hd24 : d < 24 := by omega
      have gd := h.get hd24
      dsimp only at gd
      by_cases hsame : x = r d
      · have hs1 : (s', E) = (⟨p + 1, upd r a 1, ws.set qn (r a), t⟩, 0) := by
          rw [← hs]; exact stp_15t hq HX.out hsame
        injection hs1 with hs1 hs2
        subst hs1 hs2
        have HTH := Lib.hid h
        have hv : (x == r (d : Int)) = true := by simp [hsame]
        have HSM := Lib.hid hsame
        clear hs hwn h hgetD hrange' he2 hsame hd hrd
        go_enter Tryd.func72, Tryd.ntmps72
        go_wp2
        refine region_two [0, 1, 2, 3, 4, 5, 6, 7, 8, 9, 10] [] (by kernel_rfl) (by kernel_rfl) ?_
        simp only [pick, List.map_cons, List.map_nil, List.getD_cons_zero, List.getD_cons_succ]
        go_wp2
        refine region_two [0, 1, 2, 3, 4, 5, 6, 7, 8, 9, 10, 11, 12] [] (by kernel_rfl) (by kernel_rfl) ?_
        simp only [pick, List.map_cons, List.map_nil, List.getD_cons_zero, List.getD_cons_succ]
        go_wp2
        refine region_two [0, 1, 2, 3, 4, 5, 6, 7, 8, 9] [10] (by kernel_rfl) (by kernel_rfl) ?_
        simp only [pick, List.map_cons, List.map_nil, List.getD_cons_zero, List.getD_cons_succ]
        go_wp2
        refine region_first [0, 1, 2, 3, 5, 6] (.cons 4 (seq [7] (seq [8] .nil))) (by kernel_rfl) (by kernel_rfl) ?_
        simp only [pick, List.map_cons, List.map_nil, List.getD_cons_zero, List.getD_cons_succ]
        go_wp2
        refine ord_call (by kernel_rfl) ?_
        simp only [pick, List.map_cons, List.map_nil, List.getD_cons_zero, List.getD_cons_succ]
        go_wp2_with (go_at_call 76; refine (vm_truth true _).mono ?_; rintro e w' ⟨rfl, rfl⟩)
        refine ord_more [7] (seq [8] .nil) (by kernel_rfl) ?_
        simp only [pick, List.map_cons, List.map_nil, List.getD_cons_zero, List.getD_cons_succ]
        go_wp2
        refine ord_last [8] (by kernel_rfl) ?_
        simp only [pick, List.map_cons, List.map_nil, List.getD_cons_zero, List.getD_cons_succ]
        go_wp2
        go_ret
        exact ⟨rfl, (((HTH.out.word rfl (r a)).reg ha 1).alloc _).drew.drew.drew.drew, ((un_at (un_at h0 touch_w _ _) touch_b _ _).alloc _).drew.drew.drew.drew⟩
      · have hs1 : (s', E) = (⟨p + 1, upd r a 0, ws, t⟩, 0) := by
          rw [← hs]; exact stp_15f hq HX.out hsame
        injection hs1 with hs1 hs2
        subst hs1 hs2
        have HTH := Lib.hid h
        have hv : (x == r (d : Int)) = false := by simp [hsame]
        have HSM := Lib.hid hsame
        clear hs hwn h hgetD hrange' he2 hsame hd hrd
        go_enter Tryd.func72, Tryd.ntmps72
        go_wp2
        refine region_two [0, 1, 2, 3, 4, 5, 6, 7, 8, 9, 10] [] (by kernel_rfl) (by kernel_rfl) ?_
        simp only [pick, List.map_cons, List.map_nil, List.getD_cons_zero, List.getD_cons_succ]
        go_wp2
        refine region_two [0, 1, 2, 3, 4, 5, 6, 7, 8, 9, 10, 11, 12] [] (by kernel_rfl) (by kernel_rfl) ?_
        simp only [pick, List.map_cons, List.map_nil, List.getD_cons_zero, List.getD_cons_succ]
        go_wp2
        refine region_first [0, 1, 2, 3, 5, 6] (.cons 4 (seq [7] (seq [8] .nil))) (by kernel_rfl) (by kernel_rfl) ?_
        simp only [pick, List.map_cons, List.map_nil, List.getD_cons_zero, List.getD_cons_succ]
        go_wp2
        refine ord_call (by kernel_rfl) ?_
        simp only [pick, List.map_cons, List.map_nil, List.getD_cons_zero, List.getD_cons_succ]
        go_wp2_with (go_at_call 76; refine (vm_truth false _).mono ?_; rintro e w' ⟨rfl, rfl⟩)
        refine ord_more [7] (seq [8] .nil) (by kernel_rfl) ?_
        simp only [pick, List.map_cons, List.map_nil, List.getD_cons_zero, List.getD_cons_succ]
        go_wp2
        refine ord_last [8] (by kernel_rfl) ?_
        simp only [pick, List.map_cons, List.map_nil, List.getD_cons_zero, List.getD_cons_succ]
        go_wp2
        go_ret
        exact ⟨rfl, ((HTH.out.reg ha 0).alloc _).drew.drew.drew, ((un_at h0 touch_b _ _).alloc _).drew.drew.drew⟩
end Go.Proofs.YtnchgdjdfhfedaaDoor

set_option linter.unusedSimpArgs false
set_option linter.unusedVariables false
namespace Go.Proofs.YtnchgdjdfhfedaaDoor
open Go.RowKit Go.Ord Go.Baro

/-- What a run leaves. -/
def RnPost (T W : List Int) (N : Nat) (E : Int) (w : World) (e : Ending) (w' : World) : Prop := ∃ A1 n1 c1 A2 n2 c2, e = .returned (.tuple #[.slice A1 n1 c1, .slice A2 n2 c2, .int .i64 N, .int .i64 E]) ∧ RI w' w'.heap.size .i64 A1 n1 T ∧ RI w' w'.heap.size .i64 A2 n2 W ∧
  n1 ≤ c1 ∧ n2 ≤ c2 ∧ n1 ≤ 200 ∧ n2 ≤ 200 ∧ Below w.heap.size w w'

/-- How far a run has come. -/
def Prog (l : List Ins) (L j : Nat) (s0 s : Vs) (E : Int) : Prop := (E = 0 ∧ Ok l.length s ∧ rn l L s0 = ((rn l (L - j) s).1, (rn l (L - j) s).2.1 + j, (rn l (L - j) s).2.2)) ∨ (E ≠ 0 ∧ s.t.length ≤ 200 ∧ s.w.length ≤ 200 ∧ rn l L s0 = (s, j, E))
theorem prog_end {l : List Ins} {L j : Nat} {s0 s : Vs} (h : Prog l L j s0 s 0) (hp : s.p = l.length) : rn l L s0 = (s, j, 0) := by
  rcases h with ⟨_, _, h⟩ | ⟨h, _⟩
  · rw [h, rn_end hp]; simp
  · exact absurd rfl h
theorem prog_over {l : List Ins} {j : Nat} {s0 s : Vs} (h : Prog l j j s0 s 0) (hp : s.p ≠ l.length) : rn l j s0 = (s, j, 11) := by
  rcases h with ⟨_, _, h⟩ | ⟨h, _⟩
  · rw [h, Nat.sub_self, rn_over hp]; simp
  · exact absurd rfl h
theorem prog_step {l : List Ins} {L j : Nat} {s0 s s' : Vs} {o : Ins} {E : Int} (h : Prog l L j s0 s 0) (hj : j < L) (hp : s.p ≠ l.length) (ho : l[s.p.toNat]? = some o) (hs : stp l.length o s = (s', E)) (hok : okI l.length o) (hi : inI o) : Prog l L (j + 1) s0 s' E := by
  rcases h with ⟨_, hk, h⟩ | ⟨h, _⟩
  · have hk' := stp_ok hok hi hk (by have := hk.hi; omega)
    rw [hs] at hk'
    rw [show L - j = (L - (j + 1)) + 1 by omega] at h
    by_cases hE : E = 0
    · subst hE
      rw [rn_step hp ho hs] at h
      exact .inl ⟨rfl, hk', by rw [h]; simp only [Prod.mk.injEq, and_true, true_and]; omega⟩
    · rw [rn_err hp ho hs hE] at h
      exact .inr ⟨hE, hk'.tl, hk'.wl, by rw [h]; simp only [Prod.mk.injEq, and_true, true_and]; omega⟩
  · exact absurd rfl h
theorem prog_err {l : List Ins} {L j : Nat} {s0 s : Vs} {E : Int} (h : Prog l L j s0 s E) (hE : E ≠ 0) : rn l L s0 = (s, j, E) ∧ s.t.length ≤ 200 ∧ s.w.length ≤ 200 := by
  rcases h with ⟨h, _⟩ | ⟨_, h1, h2, h⟩
  · exact absurd h hE
  · exact ⟨h, h1, h2⟩
theorem prog_ok {l : List Ins} {L j : Nat} {s0 s : Vs} (h : Prog l L j s0 s 0) : Ok l.length s := by
  rcases h with ⟨_, h, _⟩ | ⟨h, _⟩
  · exact h
  · exact absurd rfl h

/-- How far a run has come: an error has ended the call. -/
def ProgC (l : List Ins) (L j : Nat) (s0 s : Vs) (E : Int) : Prop := (E = 0 ∧ Ok l.length s ∧ rn l L s0 = ((rn l (L - j) s).1, (rn l (L - j) s).2.1 + j, (rn l (L - j) s).2.2)) ∨ (E ≠ 0 ∧ s.p = l.length ∧ s.t.length ≤ 200 ∧ s.w.length ≤ 200 ∧ ∃ p, rn l L s0 = ({ s with p := p }, j, E))
/-- The state behind an instruction: an error ends the call. -/
def aft (n : Nat) (E : Int) (s : Vs) : Vs := { s with p := if E = 0 then s.p else n }
theorem aft_ok (n : Nat) (s : Vs) : aft n 0 s = s := rfl
theorem aft_err {n : Nat} {E : Int} (h : E ≠ 0) (s : Vs) : aft n E s = { s with p := n } := by unfold aft; rw [if_neg h]
theorem progc_end {l : List Ins} {L j : Nat} {s0 s : Vs} {E : Int} (h : ProgC l L j s0 s E) (hp : s.p = l.length) : ∃ p, rn l L s0 = ({ s with p := p }, j, E) := by
  rcases h with ⟨h0, _, h⟩ | ⟨_, _, _, _, h⟩
  · rw [h, rn_end hp, h0]; exact ⟨s.p, by simp⟩
  · exact h
theorem progc_zero {l : List Ins} {L j : Nat} {s0 s : Vs} {E : Int} (h : ProgC l L j s0 s E) (hp : s.p ≠ l.length) : E = 0 := by
  rcases h with ⟨h, _⟩ | ⟨_, h, _⟩
  · exact h
  · exact absurd h hp
theorem progc_over {l : List Ins} {j : Nat} {s0 s : Vs} (h : ProgC l j j s0 s 0) (hp : s.p ≠ l.length) : rn l j s0 = (s, j, 11) := by
  rcases h with ⟨_, _, h⟩ | ⟨h, _⟩
  · rw [h, Nat.sub_self, rn_over hp]; simp
  · exact absurd rfl h
theorem progc_step {l : List Ins} {L j : Nat} {s0 s s' : Vs} {o : Ins} {E : Int} (h : ProgC l L j s0 s 0) (hj : j < L) (hp : s.p ≠ l.length) (ho : l[s.p.toNat]? = some o) (hs : stp l.length o s = (s', E)) (hok : okI l.length o) (hi : inI o) : ProgC l L (j + 1) s0 (aft l.length E s') E := by
  rcases h with ⟨_, hk, h⟩ | ⟨h, _⟩
  · have hk' := stp_ok hok hi hk (by have := hk.hi; omega)
    rw [hs] at hk'
    rw [show L - j = (L - (j + 1)) + 1 by omega] at h
    by_cases hE : E = 0
    · subst hE
      rw [rn_step hp ho hs] at h
      exact .inl ⟨rfl, hk', by rw [h, aft_ok]; simp only [Prod.mk.injEq, and_true, true_and]; omega⟩
    · rw [rn_err hp ho hs hE] at h
      rw [aft_err hE]
      exact .inr ⟨hE, rfl, hk'.tl, hk'.wl, s'.p, by rw [h]; simp only [Prod.mk.injEq, and_true, true_and]; omega⟩
  · exact absurd rfl h
theorem progc_len {l : List Ins} {L j : Nat} {s0 s : Vs} {E : Int} (h : ProgC l L j s0 s E) : s.t.length ≤ 200 ∧ s.w.length ≤ 200 := by
  rcases h with ⟨_, h, _⟩ | ⟨_, _, h1, h2, _⟩
  · exact ⟨h.tl, h.wl⟩
  · exact ⟨h1, h2⟩
theorem progc_ok {l : List Ins} {L j : Nat} {s0 s : Vs} (h : ProgC l L j s0 s 0) : Ok l.length s := by
  rcases h with ⟨_, h, _⟩ | ⟨h, _⟩
  · exact h
  · exact absurd rfl h

end Go.Proofs.YtnchgdjdfhfedaaDoor
