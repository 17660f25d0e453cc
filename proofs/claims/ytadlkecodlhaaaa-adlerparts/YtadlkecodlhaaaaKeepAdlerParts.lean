/- A sum may be computed in parts: the law's call returns true, for every input, and leaves what was there as it was. No condition but that each slice takes at most 2^47 - 4096 bytes. -/
import Derived.Test.YtadlkecodlhaaaaAdler1
import Derived.Test.YtadlkecodlhaaaaKeepOctets
import Derived.Test.YtadlkecodlhaaaaLibG
import Derived.Test.YtadlkecodlhaaaaOpen
set_option linter.unusedSimpArgs false
set_option linter.unusedVariables false
namespace Go.Proofs.Ytadlkecodlhaaaa
open Go.ChangeShapes Go.WideShapes Go.ChangeAt Go.RowKit Go.Ord Go.Baro

set_option maxHeartbeats 1000000 in
theorem keep_AdlerParts (w : World) (A0 : Option Addr) (n0 c0 : Nat) (x0 : List Int) (h0 : RI w w.heap.size .u8 A0 n0 x0) (b0 : n0 ≤ 140737488351232) (r0 : ∀ x ∈ x0, 0 ≤ x ∧ x < 256) (l0 : n0 ≤ c0)
    (A1 : Option Addr) (n1 c1 : Nat) (x1 : List Int) (h1 : RI w w.heap.size .u8 A1 n1 x1) (b1 : n1 ≤ 140737488351232) (r1 : ∀ x ∈ x1, 0 ≤ x ∧ x < 256) (l1 : n1 ≤ c1) :
    Calls Try.prog 6 #[.slice A0 n0 c0, .slice A1 n1 c1] w fun e w' => e = .returned (.bool true) ∧ Below w.heap.size w w' := by
  obtain ⟨X, hX⟩ : ∃ X, X = x0.take 1000 := ⟨_, rfl⟩
  obtain ⟨Y, hY⟩ : ∃ Y, Y = x1.take 1000 := ⟨_, rfl⟩
  have RX : Hid (∀ x ∈ X, 0 ≤ x ∧ x < 256) := Lib.hid (fun x hx => r0 x (by rw [hX] at hx; exact List.mem_of_mem_take hx))
  have RY : Hid (∀ x ∈ Y, 0 ≤ x ∧ x < 256) := Lib.hid (fun x hx => r1 x (by rw [hY] at hx; exact List.mem_of_mem_take hx))
  have RZ : Hid (∀ x ∈ X ++ Y, 0 ≤ x ∧ x < 256) := Lib.hid (fun x hx => (List.mem_append.1 hx).elim (RX.out x) (RY.out x))
  have HX := Lib.hid hX
  have HY := Lib.hid hY
  have HP := Lib.hid (mo_parts X Y)
  have hor := adO_range X
  clear hX hY
  go_enter Try.func6, Try.ntmps6
  go_wp2_with fail
  refine (keep_Octets x0 A0 n0 c0 1000 _ h0 b0 l0 (by omega)).mono ?_
  rintro e w1 ⟨v1, N1, rfl, hown1, hN1, hb1⟩
  rw [← HX.out] at hown1
  have hN1' : N1 ≤ 1000 := (by omega)
  clear hN1
  go_wp2_with fail
  refine (keep_Octets x1 A1 n1 c1 1000 _ ((h1.below hb1).more hb1.size) b1 l1 (by omega)).mono ?_
  rintro e w2 ⟨v2, N2, rfl, hown2, hN2, hb2⟩
  rw [← HY.out] at hown2
  have hN2' : N2 ≤ 1000 := (by omega)
  clear hN2
  have hown1b := own_below hown1 hb2
  obtain ⟨V1, k1, rfl, _⟩ := own_form hown1b
  obtain ⟨V2, k2, rfl, _⟩ := own_form hown2
  have hX2 : RI w2 w2.heap.size .u8 V1 N1 X := Rd.of_own hown1b
  have hY2 : RI w2 w2.heap.size .u8 V2 N2 Y := Rd.of_own hown2
  have hbA : Below w.heap.size w w2 := hb1.trans (hb2.mono hb1.size)
  clear hown1 hown1b hown2 hb1 hb2
  go_wp2_with fail
  refine (adler_Of X _ _ _ _ hX2 RX.out (by omega)).mono ?_
  rintro e w3 ⟨rfl, hb3⟩
  have hX3 := (hX2.below hb3).more hb3.size
  have hY3 := (hY2.below hb3).more hb3.size
  have hbB : Below w.heap.size w w3 := hbA.trans (hb3.mono hbA.size)
  clear hX2 hY2 hbA hb3
  go_wp2_with fail
  refine (adler_More (adO X) Y _ _ _ _ hY3 RY.out (by omega) (by omega) (by omega)).mono ?_
  rintro e w4 ⟨rfl, hb4⟩
  rw [HP.out.1, HP.out.2]
  have hX4 := (hX3.below hb4).more hb4.size
  have hY4 := (hY3.below hb4).more hb4.size
  have hbC : Below w.heap.size w w4 := hbB.trans (hb4.mono hbB.size)
  clear hX3 hY3 hbB hb4
  go_wp2_with fail
  refine (adler_Of [] none 0 0 _ (RI.nil _ _ _ _) (by simp) (by omega)).mono ?_
  rintro e w5 ⟨rfl, hb5⟩
  rw [adO_nil]
  have hX5 := (hX4.below hb5).more hb5.size
  have hY5 := (hY4.below hb5).more hb5.size
  have hbD : Below w.heap.size w w5 := hbC.trans (hb5.mono hbC.size)
  clear hX4 hY4 hbC hb5
  go_wp2_with (first
    | (at_builtin; refine wp_ungd (by rfl) ?_; refine app_src eltOct w5 rfl (.const (.slice none 0 0)) (.tmp 28) rfl w5.heap.size _ 0 [] rfl (World.ownsRow_nil _ _ _ _) _ _ _ (X.map (Value.int .u8)) (by rfl) _ (by exact hX5) (one_ints _ _) (by omega) (by omega) (Nat.le_refl _) ?_; intro v6 w6 hown6 _ hbel6 hsz6; rw [List.nil_append, Nat.zero_add] at hown6)
    | (at_builtin; refine wp_ungd (by rfl) ?_; refine app_src eltOct w6 rfl (.tmp 29) (.tmp 30) rfl w5.heap.size _ _ _ rfl (by exact hown6) _ _ _ (Y.map (Value.int .u8)) (by rfl) _ (by exact RI.below hY5 (hbel6 w5 (Below.refl _ _))) (one_ints _ _) (by omega) (by omega) hsz6 ?_; intro v7 w7 hown7 _ hbel7 hsz7; obtain ⟨V7, k7, rfl, _⟩ := own_form hown7))
  have hX7 : RI w7 w7.heap.size .u8 V7 (N1 + N2) (X ++ Y) := by
    have := Rd.of_own hown7
    unfold RI
    rw [List.map_append]
    exact this
  have hbE : Below w.heap.size w w7 := hbD.trans ((hbel7 w5 (hbel6 w5 (Below.refl _ _))).mono hbD.size)
  clear hown7 hbel6 hbel7 hown6
  refine (adler_Of (X ++ Y) _ _ _ _ hX7 RZ.out (by omega)).mono ?_
  rintro e w8 ⟨rfl, hb8⟩
  go_wp2
  go_ret
  exact ⟨rfl, hbE.trans (hb8.mono hbE.size)⟩

theorem own_AdlerParts : ownKnob Try.prog.godebug = none := by kernel_rfl
theorem laid_AdlerParts : laidOutB Try.prog = true := by kernel_rfl
set_option maxRecDepth 100000 in
theorem lifted_AdlerParts (os : Os) (started : os.Started) (H : Type) (enc : TypeId × Value → H) :
    ReturnsInHanded {} Try.checked os 6 .any (Rows.adlerPartsSpec.pre6 enc Try.prog Try.f6 Rows.adlerPartsRow.domain false) (Rows.adlerPartsSpec.post enc Try.prog Try.f6 false true false false) := by
  refine returnsInHanded_of_change_sized (C := Try.checked) own_AdlerParts started (by kernel_rfl) Try.func6
    (ChangeSpec.witness6 (enc := enc) (C := Try.checked) false ⟨#[], #[.slice none 0 0, .slice none 0 0], []⟩ 8 (by kernel_rfl) (by kernel_rfl) (by kernel_rfl) (by kernel_rfl)) ?_
  intro W base args ds gs before hval0 hW hcnd hsz0 _
  have hsz : (DataW.weightsEach Try.prog (Try.f6.params.toList ++ Rows.adlerPartsSpec.plain.varTypes Try.prog) (ds ++ gs)).all (· ≤ reachBytes) = true := hsz0
  clear hsz0
  have hval : ∀ (j : Nat) t v, Try.f6.params[j]? = some t → args[j]? = some v → Value.okWide Try.prog W .any base t v := hval0
  have hW' := hW
  obtain ⟨p, q, hA0, hV, rfl, hfz, hnd⟩ := hW
  have hA : DataW.TrodAll enc Try.prog W 0 (fun _ => true) true Try.f6.params.toList args.toList ds p := hA0
  rw [Try.params6] at hA hval hsz
  obtain ⟨v0, vs0, d0, ds0, p0, q0, hargs, rfl, rfl, h0, r0⟩ := trodAll_cons hA
  obtain ⟨v1, vs1, d1, ds1, p1, q1, rfl, rfl, rfl, h1, r1⟩ := trodAll_cons r0
  obtain ⟨rfl, rfl, rfl⟩ := trodAll_nil r1
  obtain rfl : args = #[v0, v1] := by cases args; simp_all
  obtain ⟨rfl, rfl⟩ := trodVars_none hV
  have k0 := h0
  have lt0 : ∀ x ∈ p0, x.block < W.heap.size := by obtain ⟨m, hm⟩ := k0; exact DataW.trod_lt m _ _ _ hm
  obtain ⟨a0, len0, cap0, rfl⟩ := okWide_slice Try.underlying22 (hval 0 22 v0 rfl rfl)
  obtain ⟨x0, ri0, wx0, lc0, hd0⟩ := open_RI Try.underlying22 Try.underlying5 (by kernel_rfl) h0
  have bd0 : len0 ≤ 140737488351232 := by
    rcases hd0 with ⟨h, _⟩ | ⟨el, sp, hd, hl⟩
    · omega
    · subst hd
      have := sized_slice hsz (j := 0) (t := 22) (e := 5) rfl rfl Try.underlying22
      rw [show Try.prog.bytesOf 5 = 1 by kernel_rfl] at this
      simp only [reachBytes] at this
      omega
  have rr0 : ∀ x ∈ x0, 0 ≤ x ∧ x < 256 := fun x hx => by have := bounds_u8 (wx0 x hx); omega
  have k1 := h1
  have lt1 : ∀ x ∈ p1, x.block < W.heap.size := by obtain ⟨m, hm⟩ := k1; exact DataW.trod_lt m _ _ _ hm
  obtain ⟨a1, len1, cap1, rfl⟩ := okWide_slice Try.underlying22 (hval 1 22 v1 rfl rfl)
  obtain ⟨x1, ri1, wx1, lc1, hd1⟩ := open_RI Try.underlying22 Try.underlying5 (by kernel_rfl) h1
  have bd1 : len1 ≤ 140737488351232 := by
    rcases hd1 with ⟨h, _⟩ | ⟨el, sp, hd, hl⟩
    · omega
    · subst hd
      have := sized_slice hsz (j := 1) (t := 22) (e := 5) rfl rfl Try.underlying22
      rw [show Try.prog.bytesOf 5 = 1 by kernel_rfl] at this
      simp only [reachBytes] at this
      omega
  have rr1 : ∀ x ∈ x1, 0 ≤ x ∧ x < 256 := fun x hx => by have := bounds_u8 (wx1 x hx); omega
  clear hA0 hval0 hsz
  refine (keep_AdlerParts W a0 len0 cap0 x0 ri0 bd0 rr0 lc0 a1 len1 cap1 x1 ri1 bd1 rr1 lc1).mono fun e W' ⟨he, bel⟩ => ?_
  subst he
  exact ⟨_, rfl, _, _, _, [], _, [], hW', trodAll_mk1 (shut_bool Try.underlying4 _), (trodAll_cons_mk (Below.trod laid_AdlerParts (by kernel_rfl) (of_decide_eq_true (by kernel_rfl)) k0 bel lt0) (trodAll_cons_mk (Below.trod laid_AdlerParts (by kernel_rfl) (of_decide_eq_true (by kernel_rfl)) k1 bel lt1) trodAll_mk0)), rfl, bel.frame _, fun h => by cases h⟩

theorem adlerParts_holds : Rows.AdlerPartsSaid :=
  OpenClaim.holds_of_wide 6 Try.f6 rfl rfl rfl rfl rfl rfl rfl ⟨rfl, rfl, rfl, rfl, rfl⟩ rfl rfl rfl rfl rfl (by kernel_rfl) Try.func6 (by kernel_rfl)
    (of_decide_eq_true (by kernel_rfl)) (by unfold Func.isWrapper; first | (rw [if_pos (by decide +kernel)]; kernel_rfl) | (rw [if_neg (by decide +kernel)]; exact ⟨rfl, rfl⟩))
    (fun os started H enc _ => lifted_AdlerParts os started H enc)
#print axioms adlerParts_holds
end Go.Proofs.Ytadlkecodlhaaaa
