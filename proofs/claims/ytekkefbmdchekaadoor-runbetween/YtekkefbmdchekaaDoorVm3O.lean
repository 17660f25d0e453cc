/- What a thread does at a shared word, and what it tells. No statement of the seat is proved here; no condition. -/
import Derived.Test.YtekkefbmdchekaaDoorVm2
import Derived.Test.YtekkefbmdchekaaDoorVmMemO
set_option linter.unusedSimpArgs false
set_option linter.unusedVariables false
namespace Go.Proofs.YtekkefbmdchekaaDoor
open Go.RowKit Go.Ord Go.Baro

theorem eltInt : Elt Tryd.prog 24 3 (.int .i64 0) 1 8 := Elt.mk' Tryd.underlying24 (by kernel_rfl) rfl (by decide)
abbrev ToV (T : TypeId) (pre post : List Value) := To T 3 pre post

theorem vm_endedo (T : TypeId) (pre post : List Value) (o : Nat) (w : World) (B b n c : Nat) (A : Option Addr) (tv wv : Value) (s : Vs) (r : Bool) (h : ToV T pre post w B b o (.slice A n c) tv wv s) (hr : r = true ↔ s.p = n) :
    Calls Tryd.prog 39 #[.pointer (some ⟨b, o, none⟩)] w fun e w' => e = .returned (.bool r) ∧ w' = w.drewN 1 := by
  have H := Lib.hid hr
  clear hr
  have c0 := h.code
  have c1 := h.at_
  have hlt := h.lt
  clear h
  go_enter Tryd.func39, Tryd.ntmps39
  go_wp2
  refine region_two [0, 1, 2, 3, 4, 5, 6, 7, 8, 9, 10] [] (by kernel_rfl) (by kernel_rfl) ?_
  simp only [pick, List.map_cons, List.map_nil, List.getD_cons_zero, List.getD_cons_succ]
  go_wp2
  go_ret
  refine ⟨ret_bool ?_, rfl⟩
  have := H.out
  cases r <;> simp at this ⊢ <;> omega

set_option maxHeartbeats 2000000 in
theorem vm_emito (T : TypeId) (pre post : List Value) (o : Nat) (w : World) (B b : Nat) (cv tv wv : Value) (s : Vs) (x : Int) (h : ToV T pre post w B b o cv tv wv s) (hBs : B ≤ w.heap.size) (hl : s.t.length ≤ 200) (E : Int) (t' : List Int) (hE : E = if s.t.length = 200 then 8 else 0) (ht : t' = if s.t.length = 200 then s.t else s.t ++ [x]) :
    Calls Tryd.prog 58 #[.pointer (some ⟨b, o, none⟩), .int .i64 x] w fun e w' => e = .returned (.int .i64 E) ∧ (∃ tv', ToV T pre post w' B b o cv tv' wv { s with t := t' } ∧ (tv'.ownBlock = tv.ownBlock ∨ ∃ k, tv'.ownBlock = some k ∧ w.heap.size ≤ k)) ∧ Un (touch b b tv wv) w w' := by
  obtain ⟨p, r, ws, t⟩ := s
  dsimp only at hl hE ht
  have c26 := h.toldv
  have hlt := h.lt
  have h0 : Un (touch b b tv wv) w w := Un.refl _ _
  have hf := h.box.frozen (o + 26)
  obtain ⟨A, c, rfl, hlc⟩ := own_form h.told
  dsimp only at c26 hlc
  by_cases hfull : t.length = 200
  · rw [if_pos hfull] at hE ht
    subst hE ht
    rw [hfull] at c26
    have HTH := Lib.hid h
    clear h hfull hlc
    go_enter Tryd.func58, Tryd.ntmps58
    go_wp2
    go_ret
    exact ⟨rfl, ⟨_, HTH.out, .inl rfl⟩, h0⟩
  · rw [if_neg hfull] at hE ht
    subst hE
    have HT := Lib.hid ht
    obtain ⟨m, hm⟩ : ∃ m, m = t.length := ⟨_, rfl⟩
    have htold := h.told
    dsimp only at htold
    rw [← hm] at c26 htold hl hfull h0 ⊢
    have hv : ((m : Int) == 200) = false := by simp; omega
    have HM := Lib.hid hm
    have HTH := Lib.hid (show ToV T pre post w B b o cv (.slice A m c) wv ⟨p, r, ws, t⟩ by rw [hm]; exact h)
    rw [← hm] at hlc
    clear h hm ht
    go_enter Tryd.func58, Tryd.ntmps58
    go_wp2_with (at_builtin; go_must (refine app_srcB eltInt _ rfl _ _ rfl B (.slice A m c) m _ rfl (htold.alloc _) _ 1 1 [.int .i64 x] rfl _ (Rd.lit w 3 (n := 1) (s := 1) (cs := [.int .i64 x]) rfl) (by simp [Value.oneCell']) (by omega) (by omega) (by simp; omega) ?_); intro v' w1 hown1 hg1 hb1 hs1 hblk; obtain ⟨A1, c1, rfl, hlc1⟩ := own_form hown1; obtain ⟨hbx, hth⟩ := HTH.out.tell hg1 hown1 (by rw [HM.out]) hblk; have c26' : w1.cell? ⟨b, o + 26, none⟩ = some (.slice A m c) := (by have := hbx.cell (pre.length + 26); rw [mid_at (by rw [thC_len]; omega), HTH.out.off, thC_told] at this; exact this); have hf' := hbx.frozen (o + 26))
    go_ret
    refine ⟨rfl, ?_, ?_⟩
    · rw [HT.out]; exact ⟨_, hth, hblk.elim .inl (fun h => .inr ⟨_, h, by simp⟩)⟩
    · exact un_at (un_grown ((Un.refl _ w).alloc _) hg1 (fun k hk => .inr (.inr (.inl hk.symm)))) (.inl rfl) _ _
end Go.Proofs.YtekkefbmdchekaaDoor
