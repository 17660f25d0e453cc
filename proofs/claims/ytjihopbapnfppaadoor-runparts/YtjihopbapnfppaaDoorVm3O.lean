/- What a thread does at a shared word, and what it tells. No statement of the seat is proved here; no condition. -/
import Derived.Test.YtjihopbapnfppaaDoorVm2
import Derived.Test.YtjihopbapnfppaaDoorVmMemO
import Derived.Test.YtjihopbapnfppaaDoorLibF
set_option linter.unusedSimpArgs false
set_option linter.unusedVariables false
namespace Go.Proofs.YtjihopbapnfppaaDoor
open Go.RowKit Go.Ord Go.Baro

theorem eltInt : Elt Tryd.prog 24 3 (.int .i64 0) 1 8 := Elt.mk' Tryd.underlying24 (by kernel_rfl) rfl (by decide)
abbrev ToV (T : TypeId) (pre post : List Value) := To T 3 pre post

theorem vm_endedo (T : TypeId) (pre post : List Value) (o : Nat) (w : World) (B b n c : Nat) (A : Option Addr) (tv wv : Value) (s : Vs) (r : Bool) (h : ToV T pre post w B b o (.slice A n c) tv wv s) (hr : r = true ↔ s.p = n) :
    Calls Tryd.prog 39 #[.pointer (some ⟨b, o, none⟩)] w fun e w' => e = .returned (.bool r) ∧ w' = w.drewN 1 := by
  have H := Lib.hid hr
  clear hr
  have c0 := h.code
  have c1 := h.at_
  have hlt := h.lt
  clear h
  go_enter Tryd.func39, Tryd.ntmps39
  go_wp2
  refine region_two [0, 1, 2, 3, 4, 5, 6, 7, 8, 9, 10] [] (by kernel_rfl) (by kernel_rfl) ?_
  simp only [pick, List.map_cons, List.map_nil, List.getD_cons_zero, List.getD_cons_succ]
  go_wp2
  go_ret
  refine ⟨ret_bool ?_, rfl⟩
  have := H.out
  cases r <;> simp at this ⊢ <;> omega

theorem std_Clip (w : World) (A : Option Addr) (n c : Nat) (hc : n ≤ c) :
    Calls Tryd.prog 61 #[.slice A n c] w fun e w' => e = .returned (.slice A n n) ∧ w' = w := by
  go_enter Tryd.func61, Tryd.ntmps61
  go_wp2
  go_ret
  exact ⟨rfl, rfl⟩
set_option maxHeartbeats 2000000 in
theorem vm_emito (T : TypeId) (pre post : List Value) (o : Nat) (w : World) (B b : Nat) (cv tv wv : Value) (s : Vs) (x : Int) (h : ToV T pre post w B b o cv tv wv s) (hBs : B ≤ w.heap.size) (hl : s.t.length ≤ 200) (E : Int) (t' : List Int) (hE : E = if s.t.length = 200 then 8 else 0) (ht : t' = if s.t.length = 200 then s.t else s.t ++ [x]) :
    Calls Tryd.prog 58 #[.pointer (some ⟨b, o, none⟩), .int .i64 x] w fun e w' => e = .returned (.int .i64 E) ∧ (∃ tv', ToV T pre post w' B b o cv tv' wv { s with t := t' } ∧ (tv'.ownBlock = tv.ownBlock ∨ ∃ k, tv'.ownBlock = some k ∧ w.heap.size ≤ k)) ∧ Un (touch b b tv wv) w w' := by
  obtain ⟨p, r, ws, t⟩ := s
  dsimp only at hl hE ht
  have c26 := h.toldv
  have hlt := h.lt
  have h0 : Un (touch b b tv wv) w w := Un.refl _ _
  have hf := h.box.frozen (o + 26)
  obtain ⟨A, c, rfl, hlc⟩ := own_form h.told
  dsimp only at c26 hlc
  by_cases hfull : t.length = 200
  · rw [if_pos hfull] at hE ht
    subst hE ht
    rw [hfull] at c26
    have HTH := Lib.hid h
    clear h hfull hlc
    go_enter Tryd.func58, Tryd.ntmps58
    go_wp2
    go_ret
    exact ⟨rfl, ⟨_, HTH.out, .inl rfl⟩, h0⟩
  · rw [if_neg hfull] at hE ht
    subst hE
    have HT := Lib.hid ht
    obtain ⟨m, hm⟩ : ∃ m, m = t.length := ⟨_, rfl⟩
    have htold := h.told
    dsimp only at htold
    rw [← hm] at c26 htold hl hfull h0 ⊢
    have hv : ((m : Int) == 200) = false := by simp; omega
    have HM := Lib.hid hm
    have HTH := Lib.hid (show ToV T pre post w B b o cv (.slice A m c) wv ⟨p, r, ws, t⟩ by rw [hm]; exact h)
    rw [← hm] at hlc
    clear h hm ht
    go_enter Tryd.func58, Tryd.ntmps58
    go_wp2_with fail
    refine (std_Clip _ A m c hlc).mono ?_
    rintro e w1 ⟨rfl, rfl⟩
    have HR := Lib.hid (Rd.of_own htold)
    have HA := Lib.hid (show A = none → m = 0 from fun e => by subst e; rcases htold.2 with ⟨_, q⟩ | ⟨g, cap, cur, q, _⟩; exact q; cases q)
    clear htold
    go_wp2_with (at_builtin; go_must (refine app_full eltInt w1 rfl (.tmp 16) (.tmp 18) rfl A m (t.map (Value.int .i64)) rfl w1.heap.size HR.out HA.out (Nat.le_refl _) 1 (by omega) [.int .i64 x] w1.heap.size rfl rfl rfl (by omega) (by omega) ?_); intro v' w2 hown hb2; obtain ⟨A1, c1, rfl, hlc1⟩ := own_form hown; obtain ⟨hbx, hth, k1, hk1, hk2⟩ := HTH.out.tellB hBs hb2 hown (by rw [HM.out]); have c26' : w2.cell? ⟨b, o + 26, none⟩ = some (.slice A m c) := (by have := hbx.cell (pre.length + 26); rw [mid_at (by rw [thC_len]; omega), HTH.out.off, thC_told] at this; exact this); have hf' := hbx.frozen (o + 26))
    go_ret
    refine ⟨rfl, ?_, un_at (un_below hb2) (.inl rfl) _ _⟩
    rw [HT.out]; exact ⟨_, hth, .inr ⟨k1, hk1, hk2⟩⟩
end Go.Proofs.YtjihopbapnfppaaDoor
