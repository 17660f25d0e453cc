/- file.Record answers what the document says: the law's call returns true, for every input, and leaves what was there as it was. No condition but that each slice takes at most 2^47 - 4096 bytes. -/
import Derived.Test.YtpgjjndmbkkhiaaRefFile
import Derived.Test.YtpgjjndmbkkhiaaSameBytes
import Derived.Test.YtpgjjndmbkkhiaaOpen
set_option linter.unusedSimpArgs false
set_option linter.unusedVariables false
namespace Go.Proofs.Ytpgjjndmbkkhiaa
open Go.ChangeShapes Go.WideShapes Go.ChangeAt Go.RowKit Go.Ord Go.Baro

theorem rcR_few (l : List Int) : (rcR l).length ≤ 4006 := by
  unfold rcR
  split
  · rw [rcL_length]; omega
  · simp


set_option maxHeartbeats 1000000 in
theorem law_FileRecords (w : World) (A0 : Option Addr) (n0 c0 : Nat) (x0 : List Int) (h0 : RI w w.heap.size .u8 A0 n0 x0) (b0 : n0 ≤ 140737488351232) (r0 : ∀ x ∈ x0, 0 ≤ x ∧ x < 256) (_ : n0 ≤ c0) :
    Calls Try.prog 3 #[.slice A0 n0 c0] w fun e w' => e = .returned (.bool true) ∧ Below w.heap.size w w' := by
  have hR := rcR_few x0
  have HR := Lib.hid r0
  clear r0
  go_enter Try.func3, Try.ntmps3
  go_wp2_with fail
  refine (file_Record x0 _ _ _ _ h0 HR.out (by omega)).mono ?_
  rintro e w1 ⟨v1, N1, rfl, hv1, hb1⟩
  have hN1 : N1 ≤ 4006 := by rw [own_len hv1]; exact hR
  obtain ⟨A1, k1, rfl, _⟩ := own_form hv1
  go_wp2_with fail
  refine (ref_FileRecord x0 _ _ _ _ ((h0.below hb1).more hb1.size) HR.out (by omega)).mono ?_
  rintro e w2 ⟨v2, N2, rfl, hv2, hb2⟩
  have hN2 : N2 ≤ 4006 := by rw [own_len hv2]; exact hR
  obtain ⟨A2, k2, rfl, _⟩ := own_form hv2
  have hv1b := own_below hv1 hb2
  go_wp2_with fail
  refine (law_sameBytes (rcR x0) (rcR x0) _ _ _ _ _ _ _ _ _ true (Rd.of_own hv1b) (Rd.of_own hv2) (by simp) (by omega) (by omega)).mono ?_
  rintro e w3 ⟨rfl, m, rfl⟩
  go_wp2
  go_ret
  exact ⟨ret_bool (by simp), (hb1.trans (hb2.mono hb1.size)).drewN m⟩

theorem own_FileRecords : ownKnob Try.prog.godebug = none := by kernel_rfl
theorem laid_FileRecords : laidOutB Try.prog = true := by kernel_rfl
set_option maxRecDepth 100000 in
theorem lifted_FileRecords (os : Os) (started : os.Started) (H : Type) (enc : TypeId × Value → H) :
    ReturnsInHanded {} Try.checked os 3 .any (Rows.fileRecordsSpec.pre6 enc Try.prog Try.f3 Rows.fileRecordsRow.domain false) (Rows.fileRecordsSpec.post enc Try.prog Try.f3 false true false false) := by
  refine returnsInHanded_of_change_sized (C := Try.checked) own_FileRecords started (by kernel_rfl) Try.func3
    (ChangeSpec.witness6 (enc := enc) (C := Try.checked) false ⟨#[], #[.slice none 0 0], []⟩ 8 (by kernel_rfl) (by kernel_rfl) (by kernel_rfl) (by kernel_rfl)) ?_
  intro W base args ds gs before hval0 hW hcnd hsz0 _
  have hsz : (DataW.weightsEach Try.prog (Try.f3.params.toList ++ Rows.fileRecordsSpec.plain.varTypes Try.prog) (ds ++ gs)).all (· ≤ reachBytes) = true := hsz0
  clear hsz0
  have hval : ∀ (j : Nat) t v, Try.f3.params[j]? = some t → args[j]? = some v → Value.okWide Try.prog W .any base t v := hval0
  have hW' := hW
  obtain ⟨p, q, hA0, hV, rfl, hfz, hnd⟩ := hW
  have hA : DataW.TrodAll enc Try.prog W 0 (fun _ => true) true Try.f3.params.toList args.toList ds p := hA0
  rw [Try.params3] at hA hval hsz
  obtain ⟨v0, vs0, d0, ds0, p0, q0, hargs, rfl, rfl, h0, r0⟩ := trodAll_cons hA
  obtain ⟨rfl, rfl, rfl⟩ := trodAll_nil r0
  obtain rfl : args = #[v0] := by cases args; simp_all
  obtain ⟨rfl, rfl⟩ := trodVars_none hV
  have k0 := h0
  have lt0 : ∀ x ∈ p0, x.block < W.heap.size := by obtain ⟨m, hm⟩ := k0; exact DataW.trod_lt m _ _ _ hm
  obtain ⟨a0, len0, cap0, rfl⟩ := okWide_slice Try.underlying22 (hval 0 22 v0 rfl rfl)
  obtain ⟨x0, ri0, wx0, lc0, hd0⟩ := open_RI Try.underlying22 Try.underlying5 (by kernel_rfl) h0
  have bd0 : len0 ≤ 140737488351232 := by
    rcases hd0 with ⟨h, _⟩ | ⟨el, sp, hd, hl⟩
    · omega
    · subst hd
      have := sized_slice hsz (j := 0) (t := 22) (e := 5) rfl rfl Try.underlying22
      rw [show Try.prog.bytesOf 5 = 1 by kernel_rfl] at this
      simp only [reachBytes] at this
      omega
  have rr0 : ∀ x ∈ x0, 0 ≤ x ∧ x < 256 := fun x hx => by have := bounds_u8 (wx0 x hx); omega
  clear hA0 hval0 hsz
  refine (law_FileRecords W a0 len0 cap0 x0 ri0 bd0 rr0 lc0).mono fun e W' ⟨he, bel⟩ => ?_
  subst he
  exact ⟨_, rfl, _, _, _, [], _, [], hW', trodAll_mk1 (shut_bool Try.underlying4 _), (trodAll_cons_mk (Below.trod laid_FileRecords (by kernel_rfl) (of_decide_eq_true (by kernel_rfl)) k0 bel lt0) trodAll_mk0), rfl, bel.frame _, fun h => by cases h⟩

theorem fileRecords_holds : Rows.FileRecordsSaid :=
  OpenClaim.holds_of_wide 3 Try.f3 rfl rfl rfl rfl rfl rfl rfl ⟨rfl, rfl, rfl, rfl, rfl⟩ rfl rfl rfl rfl rfl (by kernel_rfl) Try.func3 (by kernel_rfl)
    (of_decide_eq_true (by kernel_rfl)) (by unfold Func.isWrapper; first | (rw [if_pos (by decide +kernel)]; kernel_rfl) | (rw [if_neg (by decide +kernel)]; exact ⟨rfl, rfl⟩))
    (fun os started H enc _ => lifted_FileRecords os started H enc)
#print axioms fileRecords_holds
end Go.Proofs.Ytpgjjndmbkkhiaa
