/- A window that moves has the sum of what it shows: the law's call returns true, for every input, and leaves what was there as it was. No condition but that each slice takes at most 2^47 - 4096 bytes. -/
import Derived.Test.YtadlkecodlhaaaaAdler1
import Derived.Test.YtadlkecodlhaaaaKeepOctets
import Derived.Test.YtadlkecodlhaaaaKeepPicked
import Derived.Test.YtadlkecodlhaaaaLibG
import Derived.Test.YtadlkecodlhaaaaOpen
set_option linter.unusedSimpArgs false
set_option linter.unusedVariables false
namespace Go.Baro
theorem RI.win {w : World} {B n : Nat} {k : IntKind} {b o : Nat} {xs : List Int} (h : RI w B k (some ⟨b, o, none⟩) n xs) {i m : Nat} (hi : i + m ≤ n) : RI w B k (some ⟨b, o + i, none⟩) m ((xs.drop i).take m) := by
  have h1 : RI w B k (some ⟨b, o + i, none⟩) (n - i) (xs.drop i) := by
    have := Rd.drop h (k := i) (by omega)
    rw [Nat.mul_one, ← List.map_drop] at this
    exact this
  exact h1.take (by omega)
end Go.Baro
namespace Go.Proofs.Ytadlkecodlhaaaa
open Go.ChangeShapes Go.WideShapes Go.ChangeAt Go.RowKit Go.Ord Go.Baro

def win (L : List Int) (i W : Nat) : List Int := (L.drop i).take W
theorem win_step {L : List Int} {i p : Nat} {o y : Int} (ho : L[i]? = some o) (hy : L[i + (p + 1)]? = some y) : ∃ l, l.length = p ∧ win L i (p + 1) = o :: l ∧ win L (i + 1) (p + 1) = l ++ [y] := by
  have hl : i + (p + 1) < L.length := (List.getElem?_eq_some_iff.1 hy).1
  refine ⟨(L.drop (i + 1)).take p, by simp; omega, ?_, ?_⟩
  · unfold win; rw [at_drop ho, List.take_succ_cons]
  · unfold win
    refine at_take ?_
    rw [List.getElem?_drop, ← hy]
    congr 1
    omega
theorem win_slide {L : List Int} {i p : Nat} {o y : Int} (ho : L[i]? = some o) (hy : L[i + (1 + p)]? = some y) (hp : p < 1000) : slR (adO (win L i (1 + p))) (1 + (p : Int)) o y = adO (win L (i + 1) (1 + p)) ∧ slC (adO (win L i (1 + p))) (1 + (p : Int)) = 0 := by
  rw [Nat.add_comm 1 p] at *
  obtain ⟨l, hl, h1, h2⟩ := win_step ho hy
  rw [h1, h2]
  exact sl_slid o l y _ (by omega) (by omega)

set_option maxHeartbeats 1000000 in
theorem keep_AdlerSlid (w : World) (A0 : Option Addr) (n0 c0 : Nat) (x0 : List Int) (h0 : RI w w.heap.size .u8 A0 n0 x0) (b0 : n0 ≤ 140737488351232) (r0 : ∀ x ∈ x0, 0 ≤ x ∧ x < 256) (l0 : n0 ≤ c0)
    (x1 : Int) (r1 : -9223372036854775808 ≤ x1 ∧ x1 ≤ 9223372036854775807) :
    Calls Try.prog 7 #[.slice A0 n0 c0, .int .i64 x1] w fun e w' => e = .returned (.bool true) ∧ Below w.heap.size w w' := by
  obtain ⟨L, hL⟩ : ∃ L, L = x0.take 300 ++ [7, 9] := ⟨_, rfl⟩
  have RL : Hid (∀ x ∈ L, 0 ≤ x ∧ x < 256) := Lib.hid (fun x hx => by
    rw [hL] at hx
    rcases List.mem_append.1 hx with hx | hx
    · exact r0 x (List.mem_of_mem_take hx)
    · simp at hx; omega)
  have HL := Lib.hid hL
  clear hL
  go_enter Try.func7, Try.ntmps7
  go_wp2_with fail
  refine (keep_Octets x0 A0 n0 c0 300 _ h0 b0 l0 (by omega)).mono ?_
  rintro e w1 ⟨v1, N1, rfl, hown1, hN1, hb1⟩
  have hN1' : N1 ≤ 300 := (by omega)
  clear hN1
  go_wp2_with (at_builtin; go_must (refine app_lit eltOct w1 rfl _ _ rfl w.heap.size _ _ _ rfl (by exact hown1) 2 [_, _] _ rfl rfl rfl (one2 _ _ _ _) (by omega) (by omega) hb1.size ?_); intro u2 w2 hu hgr2 hbel2 hsz2; obtain ⟨N, hu2, hN⟩ := own_count hu; have hN2 : 2 ≤ N := (by omega); have hN3 : N ≤ 302 := (by omega); clear hN hu; obtain ⟨g, cp, rfl, hbg, hgl, hcp⟩ := own_some hu2 (by omega))
  have hR2 : RI w2 w2.heap.size .u8 (some ⟨g, 0, none⟩) N L := by
    have := Rd.of_own hu2
    unfold RI
    rw [HL.out, List.map_append]
    exact this
  have hbA : Below w.heap.size w w2 := hbel2 w hb1
  obtain ⟨p, hp⟩ := Int.eq_ofNat_of_zero_le (Int.emod_nonneg x1 (b := ((N : Int) - 1)) (by omega))
  have hpl : 1 + p < N := by
    have := Int.emod_lt_of_pos x1 (b := ((N : Int) - 1)) (by omega)
    omega
  have HP := Lib.hid hp
  have HLL := Lib.hid hR2.len
  clear hu2 hown1 hgr2 hbel2 hp hb1
  refine (keep_Picked _ _ _ (by omega) (by omega)).mono ?_
  rintro e w' ⟨rfl, rfl⟩
  rw [HP.out]
  have hW0 : RI w2 w2.heap.size .u8 (some ⟨g, 0, none⟩) (1 + p) (win L 0 (1 + p)) := RI.win hR2 (i := 0) (m := 1 + p) (by omega)
  have RW : Hid (∀ i, ∀ x ∈ win L i (1 + p), 0 ≤ x ∧ x < 256) := Lib.hid (fun i x hx => RL.out x (List.mem_of_mem_drop (List.mem_of_mem_take hx)))
  go_wp2_with fail
  refine (adler_Of (win L 0 (1 + p)) _ _ _ _ hW0 (RW.out 0) (by omega)).mono ?_
  rintro e w3 ⟨rfl, hb3⟩
  have hR3 := (hR2.below hb3).more hb3.size
  have hbB : Below w.heap.size w w3 := hbA.trans (hb3.mono hbA.size)
  clear hR2 hW0 hbA hb3
  go_wp2
  go_loopw [7, 8] (fun v i wr => ∃ (j : Nat) (S : Int), j + (1 + p) ≤ N ∧ i = .int .i64 j ∧ v = .int .i64 S ∧ Hid (S = adO (win L j (1 + p))) ∧ 0 ≤ S ∧ S < 4294967296 ∧ Below w3.heap.size w3 wr) (fun _ i _ => N - (intOf i).toNat)
  case atStart => exact ⟨0, _, by omega, rfl, rfl, rfl, (adO_range _).1, (adO_range _).2, Below.refl _ _⟩
  case round =>
    obtain ⟨j, S, hj, rfl, rfl, HS, s1, s2, hbel⟩ := hrel
    have hR4 := (hR3.below hbel).more hbel.size
    by_cases hlt : j + (1 + p) < N
    · obtain ⟨b, o, x, hbo, _, hcx, HX, hxm⟩ := hR4.val (show j < N by omega)
      injection hbo with hbo
      injection hbo with hbo hbo'
      subst hbo hbo'
      obtain ⟨b, o, y, hbo, _, hcy, HY, hym⟩ := hR4.val hlt
      injection hbo with hbo
      injection hbo with hbo hbo'
      subst hbo hbo'
      rw [Nat.zero_add] at hcx hcy
      have hx := RL.out x hxm
      have hy := RL.out y hym
      have HV := Lib.hid (win_slide HX.out HY.out (by omega))
      go_wp2
      refine region_two [0, 1, 2, 3, 4, 5, 6, 7, 8, 9, 10, 11] [12, 13, 14, 15, 16, 17] (by kernel_rfl) (by kernel_rfl) ?_
      simp only [pick, List.map_cons, List.map_nil, List.getD_cons_zero, List.getD_cons_succ]
      go_wp2_with fail
      obtain ⟨S', hS'⟩ : ∃ S', S' = adO (win L (j + 1) (1 + p)) := ⟨_, rfl⟩
      have HS' := Lib.hid hS'
      have hrg := adO_range (win L (j + 1) (1 + p))
      rw [← hS'] at hrg
      have HVV : Hid (slR S (1 + (p : Int)) x y = S' ∧ slC S (1 + (p : Int)) = 0) := Lib.hid (by rw [HS.out, hS']; exact HV.out)
      clear hS'
      refine (adler_Slide S (1 + p) x y _ (by omega) (by omega) hx hy (by omega) (by omega)).mono ?_
      rintro e w4 ⟨rfl, hb4⟩
      rw [HVV.out.1, HVV.out.2]
      have hR5 := (RI.below (RI.heap hR4 (w' := wr.drew) rfl) hb4).more (w := w4) (B' := w4.heap.size) hb4.size
      have hW5 := RI.win hR5 (i := j + 1) (m := 1 + p) (by omega)
      have hbelC : Below w3.heap.size w3 w4 := hbel.drew.trans (hb4.mono hbel.size)
      rw [Nat.zero_add] at hW5
      clear hR4 hR5 hb4 hcx hcy
      go_wp2_with fail
      refine (adler_Of (win L (j + 1) (1 + p)) _ _ _ _ hW5 (RW.out (j + 1)) (by omega)).mono ?_
      rintro e w5 ⟨rfl, hb5⟩
      rw [← HS'.out]
      go_wp2
      go_roundw
      case rel => exact ⟨j + 1, S', by omega, by go_num, rfl, HS', hrg.1, hrg.2, hbelC.trans (hb5.mono hbelC.size)⟩
      case measure => simp [intOf]; omega
    · go_wp2_with fail
      refine (adler_Of [1] _ _ _ _ (Rd.lit (n := 1) (s := 1) wr _ rfl) (by simp) (by omega)).mono ?_
      rintro e w5 ⟨rfl, hb5⟩
      rw [adO_one]
      go_wp2
      go_ret
      have hbC : Below w.heap.size w wr := hbB.trans (hbel.mono hbB.size)
      exact ⟨rfl, (hbC.alloc hbC.size _).trans (hb5.mono (by simp; have := hbC.size; omega))⟩

theorem own_AdlerSlid : ownKnob Try.prog.godebug = none := by kernel_rfl
theorem laid_AdlerSlid : laidOutB Try.prog = true := by kernel_rfl
set_option maxRecDepth 100000 in
theorem lifted_AdlerSlid (os : Os) (started : os.Started) (H : Type) (enc : TypeId × Value → H) :
    ReturnsInHanded {} Try.checked os 7 .any (Rows.adlerSlidSpec.pre6 enc Try.prog Try.f7 Rows.adlerSlidRow.domain false) (Rows.adlerSlidSpec.post enc Try.prog Try.f7 false true false false) := by
  refine returnsInHanded_of_change_sized (C := Try.checked) own_AdlerSlid started (by kernel_rfl) Try.func7
    (ChangeSpec.witness6 (enc := enc) (C := Try.checked) false ⟨#[], #[.slice none 0 0, .int .i64 0], []⟩ 8 (by kernel_rfl) (by kernel_rfl) (by kernel_rfl) (by kernel_rfl)) ?_
  intro W base args ds gs before hval0 hW hcnd hsz0 _
  have hsz : (DataW.weightsEach Try.prog (Try.f7.params.toList ++ Rows.adlerSlidSpec.plain.varTypes Try.prog) (ds ++ gs)).all (· ≤ reachBytes) = true := hsz0
  clear hsz0
  have hval : ∀ (j : Nat) t v, Try.f7.params[j]? = some t → args[j]? = some v → Value.okWide Try.prog W .any base t v := hval0
  have hW' := hW
  obtain ⟨p, q, hA0, hV, rfl, hfz, hnd⟩ := hW
  have hA : DataW.TrodAll enc Try.prog W 0 (fun _ => true) true Try.f7.params.toList args.toList ds p := hA0
  rw [Try.params7] at hA hval hsz
  obtain ⟨v0, vs0, d0, ds0, p0, q0, hargs, rfl, rfl, h0, r0⟩ := trodAll_cons hA
  obtain ⟨v1, vs1, d1, ds1, p1, q1, rfl, rfl, rfl, h1, r1⟩ := trodAll_cons r0
  obtain ⟨rfl, rfl, rfl⟩ := trodAll_nil r1
  obtain rfl : args = #[v0, v1] := by cases args; simp_all
  obtain ⟨rfl, rfl⟩ := trodVars_none hV
  have k0 := h0
  have lt0 : ∀ x ∈ p0, x.block < W.heap.size := by obtain ⟨m, hm⟩ := k0; exact DataW.trod_lt m _ _ _ hm
  obtain ⟨a0, len0, cap0, rfl⟩ := okWide_slice Try.underlying22 (hval 0 22 v0 rfl rfl)
  obtain ⟨x0, ri0, wx0, lc0, hd0⟩ := open_RI Try.underlying22 Try.underlying5 (by kernel_rfl) h0
  have bd0 : len0 ≤ 140737488351232 := by
    rcases hd0 with ⟨h, _⟩ | ⟨el, sp, hd, hl⟩
    · omega
    · subst hd
      have := sized_slice hsz (j := 0) (t := 22) (e := 5) rfl rfl Try.underlying22
      rw [show Try.prog.bytesOf 5 = 1 by kernel_rfl] at this
      simp only [reachBytes] at this
      omega
  have rr0 : ∀ x ∈ x0, 0 ≤ x ∧ x < 256 := fun x hx => by have := bounds_u8 (wx0 x hx); omega
  have k1 := h1
  have lt1 : ∀ x ∈ p1, x.block < W.heap.size := by obtain ⟨m, hm⟩ := k1; exact DataW.trod_lt m _ _ _ hm
  obtain ⟨x1, rfl, rfl, rfl, wx1⟩ := open_int Try.underlying3 (hval 1 3 v1 rfl rfl) h1
  have rr1 := bounds_i64 wx1
  clear hA0 hval0 hsz
  refine (keep_AdlerSlid W a0 len0 cap0 x0 ri0 bd0 rr0 lc0 x1 rr1).mono fun e W' ⟨he, bel⟩ => ?_
  subst he
  exact ⟨_, rfl, _, _, _, [], _, [], hW', trodAll_mk1 (shut_bool Try.underlying4 _), (trodAll_cons_mk (Below.trod laid_AdlerSlid (by kernel_rfl) (of_decide_eq_true (by kernel_rfl)) k0 bel lt0) (trodAll_cons_mk (Below.trod laid_AdlerSlid (by kernel_rfl) (of_decide_eq_true (by kernel_rfl)) k1 bel lt1) trodAll_mk0)), rfl, bel.frame _, fun h => by cases h⟩

theorem adlerSlid_holds : Rows.AdlerSlidSaid :=
  OpenClaim.holds_of_wide 7 Try.f7 rfl rfl rfl rfl rfl rfl rfl ⟨rfl, rfl, rfl, rfl, rfl⟩ rfl rfl rfl rfl rfl (by kernel_rfl) Try.func7 (by kernel_rfl)
    (of_decide_eq_true (by kernel_rfl)) (by unfold Func.isWrapper; first | (rw [if_pos (by decide +kernel)]; kernel_rfl) | (rw [if_neg (by decide +kernel)]; exact ⟨rfl, rfl⟩))
    (fun os started H enc _ => lifted_AdlerSlid os started H enc)
#print axioms adlerSlid_holds
end Go.Proofs.Ytadlkecodlhaaaa
