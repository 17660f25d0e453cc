/- What was written is read, whatever stands behind it: the law's call returns true, for every input, and leaves what was there as it was. No condition but that each slice takes at most 2^47 - 4096 bytes. -/
import Derived.Test.YtdkhnkmdnnddbaaKeepFields
import Derived.Test.YtdkhnkmdnnddbaaBitsBackPure
import Derived.Test.YtdkhnkmdnnddbaaOpen
set_option linter.unusedSimpArgs false
set_option linter.unusedVariables false
namespace Go.Proofs.Ytdkhnkmdnnddbaa
open Go.ChangeShapes Go.WideShapes Go.ChangeAt Go.RowKit Go.Ord Go.Baro

theorem one_written : wrCode [(1, 1)] = 0 ∧ (wrBytes [(1, 1)]).length = 1 := by
  have h := read_written [(1, 1)] [] (by intro f hf; simp at hf; subst hf; exact ⟨by decide, by decide⟩) (by decide)
  refine ⟨h.1, ?_⟩
  rw [h.2.1, packB_len]; decide

set_option maxHeartbeats 4000000 in
set_option maxRecDepth 100000 in
theorem keep_BitsBack (w : World) (A0 : Option Addr) (n0 c0 : Nat) (x0 : List Int) (h0 : RI w w.heap.size .i64 A0 n0 x0) (b0 : n0 ≤ 17592186044416) (_ : ∀ x ∈ x0, -9223372036854775808 ≤ x ∧ x ≤ 9223372036854775807) (_ : n0 ≤ c0)
    (A1 : Option Addr) (n1 c1 : Nat) (x1 : List Int) (h1 : RI w w.heap.size .i64 A1 n1 x1) (b1 : n1 ≤ 17592186044416) (_ : ∀ x ∈ x1, -9223372036854775808 ≤ x ∧ x ≤ 9223372036854775807) (_ : n1 ≤ c1)
    (A2 : Option Addr) (n2 c2 : Nat) (x2 : List Int) (h2 : RI w w.heap.size .u8 A2 n2 x2) (b2 : n2 ≤ 140737488351232) (r2 : ∀ x ∈ x2, 0 ≤ x ∧ x < 256) (_ : n2 ≤ c2) :
    Calls Try.prog 5 #[.slice A0 n0 c0, .slice A1 n1 c1, .slice A2 n2 c2] w fun e w' => e = .returned (.bool true) ∧ Below w.heap.size w w' := by
  obtain ⟨fs, hfs⟩ : ∃ fs, fs = fldsOf (x0.take 40) x1 := ⟨_, rfl⟩
  have hok : ∀ f ∈ fs, okF f := by rw [hfs]; exact fldsOf_ok _ _
  have hlen : fs.length ≤ 40 := by rw [hfs, fldsOf_length, List.length_take]; omega
  obtain ⟨hw0, hwb, hr0, hrv, hrs⟩ := read_written fs x2 hok (by omega)
  have hbl := lenF_le fs hok
  have hbytes : (wrBytes fs).length = ((bitsF fs).length + 7) / 8 := by rw [hwb, packB_len]
  have hbr : ∀ x ∈ wrBytes fs ++ x2, 0 ≤ x ∧ x < 256 := by
    intro x hx
    rcases List.mem_append.1 hx with hx | hx
    · rw [hwb] at hx; exact packB_range _ (bits01F fs) x hx
    · exact r2 x hx
  have HFS := Lib.hid hfs
  have HOK := Lib.hid hok
  have HW0 := Lib.hid hw0
  have HR0 := Lib.hid hr0
  have HRV := Lib.hid hrv
  have HRS := Lib.hid hrs
  have HBY := Lib.hid hbytes
  have HBR := Lib.hid hbr
  have hbyl : (wrBytes fs).length ≤ 400 := by omega
  clear hfs hok hw0 hwb hr0 hrv hrs hbytes hbr r2
  go_enter Try.func5, Try.ntmps5
  go_wp2_with fail
  refine (keep_FieldsOf x0 x1 _ _ _ _ _ _ 40 _ h0 h1 (by omega) (by omega) (by omega)).mono ?_
  rintro e w1 ⟨v1, v2, rfl, hof, how, hbel1⟩
  rw [← HFS.out] at hof how
  obtain ⟨F, kf, rfl, _⟩ := own_form hof
  obtain ⟨Z, kz, rfl, _⟩ := own_form how
  have hF : RF w1 w1.heap.size F fs.length fs := Rd.of_own hof
  have hZ : RI w1 w1.heap.size .i64 Z fs.length (fs.map (·.1)) := Rd.of_own how
  go_wp2_with fail
  refine (bits_Write fs _ _ _ _ hF (by omega)).mono ?_
  rintro e w2 ⟨v3, rfl, hob, hbel2⟩
  rw [HW0.out]
  obtain ⟨Bb, kb, rfl, _⟩ := own_form hob
  have hB : RI w2 w2.heap.size .u8 Bb _ (wrBytes fs) := Rd.of_own hob
  have hF2 := (hF.below hbel2).more hbel2.size
  have hZ2 := (hZ.below hbel2).more hbel2.size
  have hbelA : Below w.heap.size w w2 := hbel1.trans (hbel2.mono hbel1.size)
  clear hF hZ hob hbel1 hbel2 hof how
  go_wp2
  go_loop [11, 12] (fun s i => ∃ j : Nat, j ≤ fs.length ∧ i = .int .i64 j ∧ s = .int .i64 (bitsF (fs.take j)).length ∧ (bitsF (fs.take j)).length ≤ 60 * j) (fun _ i => fs.length - (intOf i).toNat)
  case atStart => exact ⟨0, Nat.zero_le _, rfl, rfl, by simp [bitsF]⟩
  case round =>
    obtain ⟨j, hj, rfl, rfl, hs⟩ := hrel
    by_cases hlt : j < fs.length
    · obtain ⟨b, o, x, rfl, hbb, hcx, HX, hmem⟩ := hZ2.val hlt
      obtain ⟨f, hf, hfx⟩ : ∃ f, fs[j]? = some f ∧ f.1 = x := by
        have := HX.out
        rw [List.getElem?_map] at this
        obtain ⟨f, hf, hfx⟩ := Option.map_eq_some_iff.1 this
        exact ⟨f, hf, hfx⟩
      have hx := (HOK.out f (List.mem_of_getElem? hf)).1
      rw [hfx] at hx
      have hsn := sumF_snoc fs j f (at_take hf) (by omega)
      rw [hfx] at hsn
      have HSN := Lib.hid hsn
      have hs' : (bitsF (fs.take (j + 1))).length ≤ 60 * (j + 1) := by omega
      clear hsn hf hfx
      go_wp2
      go_round
      case rel => exact ⟨j + 1, by omega, by go_num, val_int HSN.out.symm, hs'⟩
      case measure => simp [intOf]; omega
    · obtain rfl : j = fs.length := by omega
      rw [List.take_length] at hs ⊢
      go_wp2_with (first
        | (at_builtin; refine app_src eltByte w2 rfl (.const (.slice none 0 0)) (.tmp 43) rfl w2.heap.size _ 0 [] rfl (World.ownsRow_nil _ _ _ _) _ _ _ _ rfl _ hB (one_ints _ _) (by omega) (by omega) (Nat.le_refl _) ?_; intro u1 w3 hu1 hgr3 hbel3 hsz3)
        | (at_builtin; refine app_src eltByte w3 rfl (.tmp 44) (.tmp 45) rfl w2.heap.size _ _ _ rfl (by exact hu1) _ _ _ _ rfl _ (Rd.below (Rd.below h2 hbelA) ((hbel3 w2 (Below.refl _ _)).mono hbelA.size)) (one_ints _ _) (by omega) (by omega) hsz3 ?_; intro u2 w4 hu2 hgr4 hbel4 hsz4; obtain ⟨U, ku, rfl, hku⟩ := own_form hu2))
      have hbel24 : Below w2.heap.size w2 w4 := hbel4 w2 (hbel3 w2 (Below.refl _ _))
      have hU : RI w4 w4.heap.size .u8 U ((wrBytes fs).length + n2) (wrBytes fs ++ x2) := by
        have := Rd.of_own hu2
        simp only [List.nil_append, Nat.zero_add] at this
        unfold RI
        rw [List.map_append]
        exact this
      refine (bits_Read (wrBytes fs ++ x2) (fs.map (·.1)) _ _ _ _ _ _ _ hU ((hZ2.below hbel24).more hbel24.size) HBR.out (by omega) (by omega)).mono ?_
      rintro e w5 ⟨v5, rfl, ho5, hbel5⟩
      rw [HR0.out, HRS.out]
      rw [HRV.out] at ho5
      rw [List.length_map] at ho5
      obtain ⟨L, kl, rfl, _⟩ := own_form ho5
      have hL : RI w5 w5.heap.size .i64 L fs.length (fs.map (·.2)) := Rd.of_own ho5
      have hbel25 : Below w2.heap.size w2 w5 := hbel24.trans (hbel5.mono hbel24.size)
      have hF5 := (hF2.below hbel25).more hbel25.size
      have hbelB : Below w.heap.size w w5 := hbelA.trans (hbel25.mono hbelA.size)
      clear hu2 hu1 hbel3 hbel4 hgr3 hgr4 hU ho5 hbel5 hbel24 hbel25 hF2 hZ2
      go_wp2_with fail
      refine (bits_Write [(1, 1)] _ _ _ _ (Rd.lit _ _ rfl) (by omega)).mono ?_
      rintro e w6 ⟨v6, rfl, ho6, hbel6⟩
      rw [one_written.1]
      rw [one_written.2] at ho6
      obtain ⟨O, ko, rfl, _⟩ := own_form ho6
      have hbel56 : Below w5.heap.size w5 w6 := ((Below.refl _ _).alloc (Nat.le_refl _) _).trans (hbel6.mono (by simp))
      have hL6 := (hL.below hbel56).more hbel56.size
      have hF6 := (hF5.below hbel56).more hbel56.size
      have hbelC : Below w.heap.size w w6 := hbelB.trans (hbel56.mono hbelB.size)
      have hbyE : (((wrBytes fs).length : Int) != ((bitsF fs).length + 7) / 8) = false := by simp; have := HBY.out; omega
      clear ho6 hbel6 hL hF5 hbel56
      go_wp2
      go_loopw [18] (fun i wr => ∃ j : Nat, j ≤ fs.length ∧ i = .int .i64 j ∧ ∃ m, wr = w6.drewN m) (fun i _ => fs.length - (intOf i).toNat)
      case atStart => exact ⟨0, Nat.zero_le _, rfl, 0, rfl⟩
      case round =>
        obtain ⟨j, hj, rfl, m, rfl⟩ := hrel
        by_cases hlt : j < fs.length
        · obtain ⟨b, o, x, y, rfl, hbb, hcx, hcy, HX, _⟩ := hF6.val hlt
          obtain ⟨b', o', z, rfl, _, hcz, HZ, _⟩ := hL6.val hlt
          obtain rfl : y = z := by
            have := HZ.out
            rw [List.getElem?_map, HX.out] at this
            simpa using this
          go_wp2
          refine region_two [0, 1, 2, 3, 4, 5, 6, 7, 8, 9] [] (by kernel_rfl) (by kernel_rfl) ?_
          simp only [pick, List.map_cons, List.map_nil, List.getD_cons_zero, List.getD_cons_succ]
          go_wp2
          go_roundw
          case rel => exact ⟨j + 1, by omega, by go_num, _, rfl⟩
          case measure => simp [intOf]; omega
        · go_wp2
          go_ret
          exact ⟨rfl, hbelC.drewN m⟩

theorem own_BitsBack : ownKnob Try.prog.godebug = none := by kernel_rfl
theorem laid_BitsBack : laidOutB Try.prog = true := by kernel_rfl
set_option maxRecDepth 100000 in
theorem lifted_BitsBack (os : Os) (started : os.Started) (H : Type) (enc : TypeId × Value → H) :
    ReturnsInHanded {} Try.checked os 5 .any (Rows.bitsBackSpec.pre6 enc Try.prog Try.f5 Rows.bitsBackRow.domain false) (Rows.bitsBackSpec.post enc Try.prog Try.f5 false true false false) := by
  refine returnsInHanded_of_change_sized (C := Try.checked) own_BitsBack started (by kernel_rfl) Try.func5
    (ChangeSpec.witness6 (enc := enc) (C := Try.checked) false ⟨#[], #[.slice none 0 0, .slice none 0 0, .slice none 0 0], []⟩ 8 (by kernel_rfl) (by kernel_rfl) (by kernel_rfl) (by kernel_rfl)) ?_
  intro W base args ds gs before hval0 hW hcnd hsz0 _
  have hsz : (DataW.weightsEach Try.prog (Try.f5.params.toList ++ Rows.bitsBackSpec.plain.varTypes Try.prog) (ds ++ gs)).all (· ≤ reachBytes) = true := hsz0
  clear hsz0
  have hval : ∀ (j : Nat) t v, Try.f5.params[j]? = some t → args[j]? = some v → Value.okWide Try.prog W .any base t v := hval0
  have hW' := hW
  obtain ⟨p, q, hA0, hV, rfl, hfz, hnd⟩ := hW
  have hA : DataW.TrodAll enc Try.prog W 0 (fun _ => true) true Try.f5.params.toList args.toList ds p := hA0
  rw [Try.params5] at hA hval hsz
  obtain ⟨v0, vs0, d0, ds0, p0, q0, hargs, rfl, rfl, h0, r0⟩ := trodAll_cons hA
  obtain ⟨v1, vs1, d1, ds1, p1, q1, rfl, rfl, rfl, h1, r1⟩ := trodAll_cons r0
  obtain ⟨v2, vs2, d2, ds2, p2, q2, rfl, rfl, rfl, h2, r2⟩ := trodAll_cons r1
  obtain ⟨rfl, rfl, rfl⟩ := trodAll_nil r2
  obtain rfl : args = #[v0, v1, v2] := by cases args; simp_all
  obtain ⟨rfl, rfl⟩ := trodVars_none hV
  have k0 := h0
  have lt0 : ∀ x ∈ p0, x.block < W.heap.size := by obtain ⟨m, hm⟩ := k0; exact DataW.trod_lt m _ _ _ hm
  obtain ⟨a0, len0, cap0, rfl⟩ := okWide_slice Try.underlying29 (hval 0 29 v0 rfl rfl)
  obtain ⟨x0, ri0, wx0, lc0, hd0⟩ := open_RI Try.underlying29 Try.underlying3 (by kernel_rfl) h0
  have bd0 : len0 ≤ 17592186044416 := by
    rcases hd0 with ⟨h, _⟩ | ⟨el, sp, hd, hl⟩
    · omega
    · subst hd
      have := sized_slice hsz (j := 0) (t := 29) (e := 3) rfl rfl Try.underlying29
      rw [show Try.prog.bytesOf 3 = 8 by kernel_rfl] at this
      simp only [reachBytes] at this
      omega
  have rr0 : ∀ x ∈ x0, -9223372036854775808 ≤ x ∧ x ≤ 9223372036854775807 := fun x hx => bounds_i64 (wx0 x hx)
  have k1 := h1
  have lt1 : ∀ x ∈ p1, x.block < W.heap.size := by obtain ⟨m, hm⟩ := k1; exact DataW.trod_lt m _ _ _ hm
  obtain ⟨a1, len1, cap1, rfl⟩ := okWide_slice Try.underlying29 (hval 1 29 v1 rfl rfl)
  obtain ⟨x1, ri1, wx1, lc1, hd1⟩ := open_RI Try.underlying29 Try.underlying3 (by kernel_rfl) h1
  have bd1 : len1 ≤ 17592186044416 := by
    rcases hd1 with ⟨h, _⟩ | ⟨el, sp, hd, hl⟩
    · omega
    · subst hd
      have := sized_slice hsz (j := 1) (t := 29) (e := 3) rfl rfl Try.underlying29
      rw [show Try.prog.bytesOf 3 = 8 by kernel_rfl] at this
      simp only [reachBytes] at this
      omega
  have rr1 : ∀ x ∈ x1, -9223372036854775808 ≤ x ∧ x ≤ 9223372036854775807 := fun x hx => bounds_i64 (wx1 x hx)
  have k2 := h2
  have lt2 : ∀ x ∈ p2, x.block < W.heap.size := by obtain ⟨m, hm⟩ := k2; exact DataW.trod_lt m _ _ _ hm
  obtain ⟨a2, len2, cap2, rfl⟩ := okWide_slice Try.underlying23 (hval 2 23 v2 rfl rfl)
  obtain ⟨x2, ri2, wx2, lc2, hd2⟩ := open_RI Try.underlying23 Try.underlying5 (by kernel_rfl) h2
  have bd2 : len2 ≤ 140737488351232 := by
    rcases hd2 with ⟨h, _⟩ | ⟨el, sp, hd, hl⟩
    · omega
    · subst hd
      have := sized_slice hsz (j := 2) (t := 23) (e := 5) rfl rfl Try.underlying23
      rw [show Try.prog.bytesOf 5 = 1 by kernel_rfl] at this
      simp only [reachBytes] at this
      omega
  have rr2 : ∀ x ∈ x2, 0 ≤ x ∧ x < 256 := fun x hx => by have := bounds_u8 (wx2 x hx); omega
  clear hA0 hval0 hsz
  refine (keep_BitsBack W a0 len0 cap0 x0 ri0 bd0 rr0 lc0 a1 len1 cap1 x1 ri1 bd1 rr1 lc1 a2 len2 cap2 x2 ri2 bd2 rr2 lc2).mono fun e W' ⟨he, bel⟩ => ?_
  subst he
  exact ⟨_, rfl, _, _, _, [], _, [], hW', trodAll_mk1 (shut_bool Try.underlying4 _), (trodAll_cons_mk (Below.trod laid_BitsBack (by kernel_rfl) (of_decide_eq_true (by kernel_rfl)) k0 bel lt0) (trodAll_cons_mk (Below.trod laid_BitsBack (by kernel_rfl) (of_decide_eq_true (by kernel_rfl)) k1 bel lt1) (trodAll_cons_mk (Below.trod laid_BitsBack (by kernel_rfl) (of_decide_eq_true (by kernel_rfl)) k2 bel lt2) trodAll_mk0))), rfl, bel.frame _, fun h => by cases h⟩

theorem bitsBack_holds : Rows.BitsBackSaid :=
  OpenClaim.holds_of_wide 5 Try.f5 rfl rfl rfl rfl rfl rfl rfl ⟨rfl, rfl, rfl, rfl, rfl⟩ rfl rfl rfl rfl rfl (by kernel_rfl) Try.func5 (by kernel_rfl)
    (of_decide_eq_true (by kernel_rfl)) (by unfold Func.isWrapper; first | (rw [if_pos (by decide +kernel)]; kernel_rfl) | (rw [if_neg (by decide +kernel)]; exact ⟨rfl, rfl⟩))
    (fun os started H enc _ => lifted_BitsBack os started H enc)
#print axioms bitsBack_holds
end Go.Proofs.Ytdkhnkmdnnddbaa
