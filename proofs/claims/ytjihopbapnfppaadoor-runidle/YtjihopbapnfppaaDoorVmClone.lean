/- slices.Clone, of instructions and of numbers. No statement of the seat is proved here; no condition. -/
import Derived.Test.YtjihopbapnfppaaDoorVm5S
set_option linter.unusedSimpArgs false
set_option linter.unusedVariables false
namespace Go.Proofs.YtjihopbapnfppaaDoor
open Go.RowKit Go.Ord Go.Baro

theorem run_eql_nilS {P : Program} (w : World) (t e : TypeId) (a : Option Addr) (l c : Nat) (h : P.underlying t = some (.slice e)) : (binOp .eql t (.slice a l c) (.slice none 0 0)).run P w = .ok (.bool a.isNone) w := by
  simp only [binOp]
  simp [run_equal_slice_nil w t e a l c h]
theorem eltOpC : Elt Tryd.prog 22 37 (.agg #[.int .i64 0, .int .i64 0, .int .i64 0, .int .i64 0, .int .i64 0]) 5 40 := Elt.mk' Tryd.underlying22 (by kernel_rfl) rfl (by decide)
theorem cellsO_one (l : List Ins) : ∀ v ∈ cellsO l, v.oneCell' = true := by
  intro v hv
  simp only [cellsO, insV, List.mem_flatMap, List.mem_cons, List.not_mem_nil, or_false] at hv
  obtain ⟨o, _, h⟩ := hv
  rcases h with rfl | rfl | rfl | rfl | rfl <;> rfl

set_option maxHeartbeats 1000000 in
theorem slices_CloneO (l : List Ins) (A : Option Addr) (n c B : Nat) (w : World) (hb : RO w B A n l) (hB : B ≤ w.heap.size) (hn : n ≤ 200) :
    Calls Tryd.prog 49 #[.slice A n c] w fun e w' => ∃ v, e = .returned v ∧ w'.ownsRow w.heap.size 37 5 v n (cellsO l) ∧ Below w.heap.size w w' := by
  have HL := Lib.hid hb.len
  cases A with
  | none =>
    have hn0 : n = 0 := by
      rcases Nat.eq_zero_or_pos n with h0 | h0
      · exact h0
      · obtain ⟨b, q, hA, _⟩ := Rd.at_ hb h0; cases hA
    subst hn0
    have hl : l = [] := List.eq_nil_of_length_eq_zero HL.out
    subst hl
    have hnil := run_eql_nilS w _ _ none 0 c Tryd.underlying22
    go_enter Tryd.func49, Tryd.ntmps49
    go_wp2
    go_ret
    exact ⟨_, rfl, World.ownsRow_nil _ _ _ _, Below.refl _ _⟩
  | some ad =>
    have hnil := run_eql_nilS w _ _ (some ad) n c Tryd.underlying22
    go_enter Tryd.func49, Tryd.ntmps49
    go_wp2_with (at_builtin; go_must (refine app_src eltOpC _ rfl _ _ rfl w.heap.size _ 0 [] rfl (World.ownsRow_lit w #[] 0 (Nat.le_refl _) (by unfold maxLen; omega) rfl) (some ad) n c (cellsO l) rfl _ (RO.below hb ((Below.refl _ _).alloc (by omega) _)) (cellsO_one _) (by omega) (by omega) (by simp) ?_); intro v3 w3 hown3 hgr3 hbel3 _)
    go_ret
    refine ⟨_, rfl, ?_, hbel3 _ ((Below.refl _ _).alloc (Nat.le_refl _) _)⟩
    simpa using hown3

set_option maxHeartbeats 1000000 in
theorem slices_CloneI (l : List Int) (A : Option Addr) (n c B : Nat) (w : World) (hb : RI w B .i64 A n l) (hB : B ≤ w.heap.size) (hn : n ≤ 200) :
    Calls Tryd.prog 46 #[.slice A n c] w fun e w' => ∃ v, e = .returned v ∧ w'.ownsRow w.heap.size 3 1 v n (l.map (Value.int .i64)) ∧ Below w.heap.size w w' := by
  have HL := Lib.hid hb.len
  cases A with
  | none =>
    have hn0 : n = 0 := by
      rcases Nat.eq_zero_or_pos n with h0 | h0
      · exact h0
      · obtain ⟨b, q, hA, _⟩ := Rd.at_ hb h0; cases hA
    subst hn0
    have hl : l = [] := List.eq_nil_of_length_eq_zero HL.out
    subst hl
    have hnil := run_eql_nilS w _ _ none 0 c Tryd.underlying24
    go_enter Tryd.func46, Tryd.ntmps46
    go_wp2
    go_ret
    exact ⟨_, rfl, World.ownsRow_nil _ _ _ _, Below.refl _ _⟩
  | some ad =>
    have hnil := run_eql_nilS w _ _ (some ad) n c Tryd.underlying24
    go_enter Tryd.func46, Tryd.ntmps46
    go_wp2_with (at_builtin; go_must (refine app_src eltInt _ rfl _ _ rfl w.heap.size _ 0 [] rfl (World.ownsRow_lit w #[] 0 (Nat.le_refl _) (by unfold maxLen; omega) rfl) (some ad) n c (l.map (Value.int .i64)) rfl _ (RI.below hb ((Below.refl _ _).alloc (by omega) _)) (one_ints _ _) (by omega) (by omega) (by simp) ?_); intro v3 w3 hown3 hgr3 hbel3 _)
    go_ret
    refine ⟨_, rfl, ?_, hbel3 _ ((Below.refl _ _).alloc (Nat.le_refl _) _)⟩
    simpa using hown3

/-- What a call has told, in a row of its own. -/
theorem vm_Toldo (T : TypeId) (pre post : List Value) (o : Nat) (w : World) (B b : Nat) (cv tv wv : Value) (s : Vs) (h : ToV T pre post w B b o cv tv wv s) (hl : s.t.length ≤ 200) :
    Calls Tryd.prog 56 #[.pointer (some ⟨b, o, none⟩)] w fun e w' => ∃ v, e = .returned v ∧ w'.ownsRow w.heap.size 3 1 v s.t.length (s.t.map (Value.int .i64)) ∧ Below w.heap.size w w' := by
  obtain ⟨A, c, rfl, _⟩ := own_form h.told
  have t26 := h.toldv
  have hr := Rd.of_own h.told
  have hlt := h.lt
  obtain ⟨m, hm⟩ : ∃ m, m = s.t.length := ⟨_, rfl⟩
  rw [← hm] at t26 hr hl ⊢
  clear h hm
  go_enter Tryd.func56, Tryd.ntmps56
  go_wp2_with fail
  refine (slices_CloneI s.t A m c w.heap.size w hr (Nat.le_refl _) hl).mono ?_
  rintro e w1 ⟨v, rfl, h1, h2⟩
  go_wp2
  go_ret
  exact ⟨v, rfl, h1, h2⟩
end Go.Proofs.YtjihopbapnfppaaDoor
