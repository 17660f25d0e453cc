/- bits.Write answers what the document says, at every argument: the law's call returns true, and leaves what was there as it was. No condition but that each slice takes at most 2^47 bytes. -/
import Derived.Test.YtdkhnkmdnnddbaaRefWrite
import Derived.Test.YtdkhnkmdnnddbaaSameBytes
import Derived.Test.YtdkhnkmdnnddbaaOpen
set_option linter.unusedSimpArgs false
set_option linter.unusedVariables false
namespace Go.Proofs.Ytdkhnkmdnnddbaa
open Go.ChangeShapes Go.WideShapes Go.ChangeAt Go.RowKit Go.Ord Go.Baro

theorem wrBytes_length (fs : List (Int × Int)) : (wrBytes fs).length ≤ 3000 := by
  unfold wrBytes
  split
  · rename_i h
    rcases Nat.lt_or_ge 400 fs.length with h4 | h4
    · rw [wrCode_big h4] at h; omega
    · rw [wrCode_not (by omega)] at h
      have := lenF_le fs (ckF_zero h)
      rw [packB_length]; omega
  · simp

set_option maxHeartbeats 1000000 in
theorem law_BitsWrites (w : World) (A0 : Option Addr) (n0 c0 : Nat) (fs : List (Int × Int)) (hb : RF w w.heap.size A0 n0 fs) (hn : n0 ≤ 8796093022208)
    (_ : ∀ f ∈ fs, (-9223372036854775808 ≤ f.1 ∧ f.1 ≤ 9223372036854775807) ∧ -9223372036854775808 ≤ f.2 ∧ f.2 ≤ 9223372036854775807) (_ : n0 ≤ c0) :
    Calls Try.prog 3 #[.slice A0 n0 c0] w fun e w' => e = .returned (.bool true) ∧ Below w.heap.size w w' := by
  have hlen := wrBytes_length fs
  go_enter Try.func3, Try.ntmps3
  go_wp2_with fail
  refine (bits_Write fs _ _ _ _ hb (by omega)).mono ?_
  rintro e w1 ⟨v1, rfl, hown1, hbel1⟩
  obtain ⟨B1, k1, rfl, hc1⟩ := own_form hown1
  have h1 : RI w1 w1.heap.size .u8 B1 _ (wrBytes fs) := Rd.of_own hown1
  go_wp2_with fail
  refine (ref_BitsWritten fs _ _ _ _ ((hb.below hbel1).more hbel1.size) (by omega)).mono ?_
  rintro e w2 ⟨v2, rfl, hown2, hbel2⟩
  obtain ⟨B2, k2, rfl, hc2⟩ := own_form hown2
  have h2 : RI w2 w2.heap.size .u8 B2 _ (wrBytes fs) := Rd.of_own hown2
  have hbel : Below w.heap.size w w2 := hbel1.trans (hbel2.mono hbel1.size)
  go_wp2_with fail
  refine (law_sameBytes _ _ _ _ _ _ _ _ _ _ _ true (h1.below hbel2) h2 (by simp) (by omega) (by omega)).mono ?_
  rintro e w3 ⟨rfl, m, rfl⟩
  go_wp2
  go_ret
  exact ⟨rfl, hbel.drewN m⟩

theorem own_BitsWrites : ownKnob Try.prog.godebug = none := by kernel_rfl
theorem laid_BitsWrites : laidOutB Try.prog = true := by kernel_rfl
set_option maxRecDepth 100000 in
theorem lifted_BitsWrites (os : Os) (started : os.Started) (H : Type) (enc : TypeId × Value → H) :
    ReturnsInHanded {} Try.checked os 3 .any (Rows.bitsWritesSpec.pre6 enc Try.prog Try.f3 Rows.bitsWritesRow.domain false) (Rows.bitsWritesSpec.post enc Try.prog Try.f3 false true false false) := by
  refine returnsInHanded_of_change_sized (C := Try.checked) own_BitsWrites started (by kernel_rfl) Try.func3
    (ChangeSpec.witness6 (enc := enc) (C := Try.checked) false ⟨#[], #[.slice none 0 0], []⟩ 8 (by kernel_rfl) (by kernel_rfl) (by kernel_rfl) (by kernel_rfl)) ?_
  intro W base args ds gs before hval0 hW hcnd hsz0 _
  have hsz : (DataW.weightsEach Try.prog (Try.f3.params.toList ++ Rows.bitsWritesSpec.plain.varTypes Try.prog) (ds ++ gs)).all (· ≤ reachBytes) = true := hsz0
  clear hsz0
  have hval : ∀ (j : Nat) t v, Try.f3.params[j]? = some t → args[j]? = some v → Value.okWide Try.prog W .any base t v := hval0
  have hW' := hW
  obtain ⟨p, q, hA0, hV, rfl, hfz, hnd⟩ := hW
  have hA : DataW.TrodAll enc Try.prog W 0 (fun _ => true) true Try.f3.params.toList args.toList ds p := hA0
  rw [Try.params3] at hA hval hsz
  obtain ⟨v0, vs0, d0, ds0, p0, q0, hargs, rfl, rfl, h0, r0⟩ := trodAll_cons hA
  obtain ⟨rfl, rfl, rfl⟩ := trodAll_nil r0
  obtain rfl : args = #[v0] := by cases args; simp_all
  obtain ⟨rfl, rfl⟩ := trodVars_none hV
  have k0 := h0
  have lt0 : ∀ x ∈ p0, x.block < W.heap.size := by obtain ⟨m, hm⟩ := k0; exact DataW.trod_lt m _ _ _ hm
  obtain ⟨a0, len0, cap0, rfl⟩ := okWide_slice Try.underlying22 (hval 0 22 v0 rfl rfl)
  obtain ⟨x0, ri0, rr0, lc0, hd0⟩ := open_RF Try.underlying22 Try.underlying37 (by kernel_rfl) Try.underlying3 (by kernel_rfl) (by kernel_rfl) h0
  have bd0 : len0 ≤ 8796093022208 := by
    rcases hd0 with ⟨h, _⟩ | ⟨el, sp, hd, hl⟩
    · omega
    · subst hd
      have := sized_slice hsz (j := 0) (t := 22) (e := 37) rfl rfl Try.underlying22
      rw [show Try.prog.bytesOf 37 = 16 by kernel_rfl] at this
      simp only [reachBytes] at this
      omega
  clear hA0 hval0 hsz
  refine (law_BitsWrites W a0 len0 cap0 x0 ri0 bd0 rr0 lc0).mono fun e W' ⟨he, bel⟩ => ?_
  subst he
  exact ⟨_, rfl, _, _, _, [], _, [], hW', trodAll_mk1 (shut_bool Try.underlying4 _), (trodAll_cons_mk (Below.trod laid_BitsWrites (by kernel_rfl) (of_decide_eq_true (by kernel_rfl)) k0 bel lt0) trodAll_mk0), rfl, bel.frame _, fun h => by cases h⟩

theorem bitsWrites_holds : Rows.BitsWritesSaid :=
  OpenClaim.holds_of_wide 3 Try.f3 rfl rfl rfl rfl rfl rfl rfl ⟨rfl, rfl, rfl, rfl, rfl⟩ rfl rfl rfl rfl rfl (by kernel_rfl) Try.func3 (by kernel_rfl)
    (of_decide_eq_true (by kernel_rfl)) (by unfold Func.isWrapper; first | (rw [if_pos (by decide +kernel)]; kernel_rfl) | (rw [if_neg (by decide +kernel)]; exact ⟨rfl, rfl⟩))
    (fun os started H enc _ => lifted_BitsWrites os started H enc)
#print axioms bitsWrites_holds
end Go.Proofs.Ytdkhnkmdnnddbaa
