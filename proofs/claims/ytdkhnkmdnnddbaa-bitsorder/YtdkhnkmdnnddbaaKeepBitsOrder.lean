/- Bytes stand in the order of the values, the first field first, where the widths are the same: the law's call returns true, for every input, and leaves what was there as it was. No condition but that each slice takes at most 2^47 - 4096 bytes. -/
import Derived.Test.YtdkhnkmdnnddbaaKeepFields
import Derived.Test.YtdkhnkmdnnddbaaBitsOrderPure
import Derived.Test.YtdkhnkmdnnddbaaOpen
set_option linter.unusedSimpArgs false
set_option linter.unusedVariables false
namespace Go.Proofs.Ytdkhnkmdnnddbaa
open Go.ChangeShapes Go.WideShapes Go.ChangeAt Go.RowKit Go.Ord Go.Baro

theorem fldsOf_fst (ws vs : List Int) : (fldsOf ws vs).map (·.1) = ws.map (· % 61) := by
  induction ws generalizing vs with
  | nil => rfl
  | cons x ws ih => simp only [fldsOf, List.map_cons, ih]; rfl
theorem fldsOf_again (ws vs us : List Int) : (fldsOf ((fldsOf ws vs).map (·.1)) us).map (·.1) = (fldsOf ws vs).map (·.1) := by
  rw [fldsOf_fst, fldsOf_fst, List.map_map]
  apply List.map_congr_left
  intro x _
  simp only [Function.comp]
  omega
theorem five_written : wrCode [(3, 5)] = 0 ∧ wrBytes [(3, 5)] = [160] := by
  have h := read_written [(3, 5)] [] (by intro f hf; simp at hf; subst hf; exact ⟨by decide, by decide⟩) (by decide)
  refine ⟨h.1, ?_⟩
  rw [h.2.1]; decide
theorem mask_same (v : Int) (k : Nat) (h0 : 0 ≤ v) (h1 : v < 2 ^ k) (hk : k ≤ 60) : bits .and .i64 v (2 ^ k - 1) = v := by
  have hp := pow_le (j := k) (k := 60) hk
  rw [bits_mask .i64 62 (by decide) wraps_i64 k (by omega) v h0 (by omega)]
  exact Int.emod_eq_of_lt h0 h1

set_option maxHeartbeats 8000000 in
set_option maxRecDepth 100000 in
theorem keep_BitsOrder (w : World) (A0 : Option Addr) (n0 c0 : Nat) (x0 : List Int) (h0 : RI w w.heap.size .i64 A0 n0 x0) (b0 : n0 ≤ 17592186044416) (_ : ∀ x ∈ x0, -9223372036854775808 ≤ x ∧ x ≤ 9223372036854775807) (l0 : n0 ≤ c0)
    (A1 : Option Addr) (n1 c1 : Nat) (x1 : List Int) (h1 : RI w w.heap.size .i64 A1 n1 x1) (b1 : n1 ≤ 17592186044416) (_ : ∀ x ∈ x1, -9223372036854775808 ≤ x ∧ x ≤ 9223372036854775807) (_ : n1 ≤ c1)
    (A2 : Option Addr) (n2 c2 : Nat) (x2 : List Int) (h2 : RI w w.heap.size .i64 A2 n2 x2) (b2 : n2 ≤ 17592186044416) (_ : ∀ x ∈ x2, -9223372036854775808 ≤ x ∧ x ≤ 9223372036854775807) (_ : n2 ≤ c2) :
    Calls Try.prog 7 #[.slice A0 n0 c0, .slice A1 n1 c1, .slice A2 n2 c2] w fun e w' => e = .returned (.bool true) ∧ Below w.heap.size w w' := by
  by_cases hlt : n0 ≤ 20
  · go_enter Try.func7, Try.ntmps7
    go_wp2_with (first
      | (at_builtin; refine app_src eltInt w rfl (.const (.slice none 0 0)) (.tmp 27) rfl w.heap.size _ 0 [] rfl (World.ownsRow_nil _ _ _ _) _ _ _ _ rfl _ h0 (one_ints _ _) (by omega) (by omega) (Nat.le_refl _) ?_; intro u1 w1 hu1 hgr1 hbel1 hsz1)
      | (at_builtin; refine app_lit eltInt w1 rfl (.tmp 28) (.tmp 29) rfl w.heap.size _ _ _ rfl (by exact hu1) 1 [_] _ rfl rfl rfl (one1 _ _) (by omega) (by omega) hsz1 ?_; intro u2 w2 hu2 hgr2 hbel2 hsz2; obtain ⟨U, ku, rfl, hku⟩ := own_form hu2))
    have hbelA : Below w.heap.size w w2 := hbel2 w (hbel1 w (Below.refl _ _))
    have hU : RI w2 w2.heap.size .i64 U (n0 + 1) (x0 ++ [5]) := by
      have := Rd.of_own hu2
      simp only [List.nil_append, Nat.zero_add] at this
      unfold RI
      rw [List.map_append]
      exact this
    have htk : (x0 ++ [5]).take 40 = x0 ++ [5] := List.take_of_length_le (by rw [hU.len]; omega)
    obtain ⟨fx, hfx⟩ : ∃ fx, fx = fldsOf (x0 ++ [5]) x1 := ⟨_, rfl⟩
    have hlenx : fx.length ≤ 21 := by rw [hfx, fldsOf_length, hU.len]; omega
    have hokx : ∀ f ∈ fx, okF f := by rw [hfx]; exact fldsOf_ok _ _
    obtain ⟨fy, hfy⟩ : ∃ fy, fy = fldsOf (fx.map (·.1)) x2 := ⟨_, rfl⟩
    have hfst : fy.map (·.1) = fx.map (·.1) := by rw [hfy, hfx]; exact fldsOf_again _ _ _
    have hleny : fy.length = fx.length := by have := congrArg List.length hfst; simpa using this
    have hoky : ∀ f ∈ fy, okF f := by rw [hfy]; exact fldsOf_ok _ _
    have hord := order_written fx fy hfst.symm hokx hoky
    obtain ⟨hwx0, hwxb, _⟩ := read_written fx [] hokx (by omega)
    obtain ⟨hwy0, hwyb, _⟩ := read_written fy [] hoky (by omega)
    rw [← hwxb, ← hwyb] at hord
    have hblx := lenF_le fx hokx
    have hbytes : (wrBytes fx).length = (wrBytes fy).length := by rw [hwxb, hwyb, packB_len, packB_len, bitsF_length, bitsF_length, hfst]
    have hbyl : (wrBytes fx).length ≤ 400 := by rw [hwxb, packB_len]; omega
    have hrx : ∀ x ∈ wrBytes fx, 0 ≤ x ∧ x < 256 := by rw [hwxb]; exact packB_range _ (bits01F fx)
    have hry : ∀ x ∈ wrBytes fy, 0 ≤ x ∧ x < 256 := by rw [hwyb]; exact packB_range _ (bits01F fy)
    have HTK := Lib.hid htk
    have HFX := Lib.hid hfx
    have HFY := Lib.hid hfy
    have HOX := Lib.hid hokx
    have HOY := Lib.hid hoky
    have HFST := Lib.hid hfst
    have HLY := Lib.hid hleny
    have HORD := Lib.hid hord
    have HWX := Lib.hid hwx0
    have HWY := Lib.hid hwy0
    have HBY := Lib.hid hbytes
    clear htk hfx hfy hokx hoky hfst hleny hord hwx0 hwy0 hbytes hwxb hwyb hrx hry hu1 hu2 hbel1 hbel2 hgr1 hgr2 hblx
    refine (keep_FieldsOf (x0 ++ [5]) x1 _ _ _ _ _ _ 40 _ hU ((h1.below hbelA).more hbelA.size) (by omega) (by omega) (by omega)).mono ?_
    rintro e w3 ⟨v1, v2, rfl, hof, how, hbel3⟩
    rw [HTK.out, ← HFX.out] at hof how
    obtain ⟨Fx, kx, rfl, _⟩ := own_form hof
    obtain ⟨Z, kz, rfl, _⟩ := own_form how
    have hX3 : RF w3 w3.heap.size Fx fx.length fx := Rd.of_own hof
    have hZ3 : RI w3 w3.heap.size .i64 Z fx.length (fx.map (·.1)) := Rd.of_own how
    have hbelB : Below w.heap.size w w3 := hbelA.trans (hbel3.mono hbelA.size)
    clear hof how hbel3 hU
    go_wp2_with fail
    refine (keep_FieldsOf (fx.map (·.1)) x2 _ _ _ _ _ _ 40 _ hZ3 ((h2.below hbelB).more hbelB.size) (by omega) (by omega) (by omega)).mono ?_
    rintro e w4 ⟨v3, v4, rfl, hoy, hoz, hbel4⟩
    rw [List.take_of_length_le (by simp; omega), ← HFY.out] at hoy hoz
    rw [HLY.out] at hoy hoz
    obtain ⟨Fy, ky, rfl, _⟩ := own_form hoy
    obtain ⟨Z', kz', rfl, _⟩ := own_form hoz
    have hX4 := hX3.below hbel4
    have hbelC : Below w.heap.size w w4 := hbelB.trans (hbel4.mono hbelB.size)
    have hsz34 := hbel4.size
    clear hoz hbel4 hX3 hZ3
    go_wp2
    go_loopw [11] (fun i wr => ∃ j : Nat, j ≤ fx.length ∧ i = .int .i64 j ∧ wr.ownsRow w3.heap.size 37 2 (.slice Fy fx.length ky) fx.length (cellsF fy) ∧ Below w3.heap.size w4 wr) (fun i _ => fx.length - (intOf i).toNat)
    case atStart => exact ⟨0, Nat.zero_le _, rfl, hoy, Below.refl _ _⟩
    case round =>
      obtain ⟨j, hj, rfl, hoy2, hbelw⟩ := hrel
      by_cases hlt2 : j < fx.length
      · obtain ⟨b, o, x, y, rfl, hbb, hcx, hcy, HX, hmx⟩ := (hX4.below hbelw).val hlt2
        obtain ⟨g, cp, hFy, hbg, hgl, _⟩ := own_some hoy2 (by omega)
        injection hFy with hFy _ hcp
        subst hFy hcp
        have hyl : j < fy.length := by rw [HLY.out]; exact hlt2
        obtain ⟨x', y', HY, hmy⟩ : ∃ x' y', Hid (fy[j]? = some (x', y')) ∧ (x', y') ∈ fy := ⟨fy[j].1, fy[j].2, List.getElem?_eq_getElem hyl, List.getElem_mem hyl⟩
        obtain rfl : x' = x := by
          have h3 := congrArg (fun l => l[j]?) HFST.out
          simp only [List.getElem?_map, HX.out, HY.out, Option.map_some, Option.some.injEq] at h3
          exact h3
        have hat := cellsF_at fy j _ HY.out
        have hcell1 := World.ownsRow.cellAt hoy2 (j * 2) (by omega)
        have hcell2 := World.ownsRow.cellAt hoy2 (j * 2 + 1) (by omega)
        rw [hat.1] at hcell1
        rw [hat.2] at hcell2
        have hfz1 := World.ownsRow.frozenAt hoy2 (j * 2)
        have hfz2 := World.ownsRow.frozenAt hoy2 (j * 2 + 1)
        obtain ⟨⟨hxx0, hxx1⟩, hyy0, hyy1⟩ := HOY.out _ hmy
        dsimp only at hxx0 hxx1 hyy0 hyy1 hcell1 hcell2
        obtain ⟨wd, rfl⟩ := Int.eq_ofNat_of_zero_le hxx0
        simp only [Int.toNat_natCast] at hyy1
        have hp := pow_le (j := wd) (k := 60) (by omega)
        have hp0 : (0 : Int) < 2 ^ wd := Int.pow_pos (by decide)
        have HM := Lib.hid (mask_same y' wd hyy0 hyy1 (by omega))
        have HAT := Lib.hid hat
        clear hat hyl
        go_wp2
        refine region_two [0, 1, 2, 3, 4, 5, 6, 7, 8, 9, 10, 11, 12, 13, 14] [15] (by kernel_rfl) (by kernel_rfl) ?_
        simp only [pick, List.map_cons, List.map_nil, List.getD_cons_zero, List.getD_cons_succ]
        go_wp2
        rw [HM.out]
        go_roundw
        case rel =>
          have ha := (World.ownsRow.stored hoy2 (j * 2) (Value.int .i64 wd)).1
          rw [set_same HAT.out.1] at ha
          have hb := (World.ownsRow.stored ha (j * 2 + 1) (Value.int .i64 y')).1
          rw [set_same HAT.out.2] at hb
          exact ⟨j + 1, by omega, by go_num, hb, ((hbelw.setCell (p := ⟨g, _, none⟩) hbg _).setCell (p := ⟨g, _, none⟩) hbg _).drew⟩
        case measure => simp [intOf]; omega
      · obtain rfl : j = fx.length := by omega
        have hszw := hbelw.size
        have hbelD : Below w.heap.size w wr := hbelC.trans (hbelw.mono hbelB.size)
        have hX5 : RF wr wr.heap.size Fx fx.length fx := (hX4.below hbelw).more (by omega)
        have hY5 : RF wr wr.heap.size Fy fx.length fy := Rd.of_own hoy2
        clear hoy hoy2 hX4 hbelw
        go_wp2_with fail
        refine (bits_Write fx _ _ _ _ hX5 (by omega)).mono ?_
        rintro e w5 ⟨v5, rfl, ho5, hbel5⟩
        rw [HWX.out]
        obtain ⟨P5, k5, rfl, _⟩ := own_form ho5
        have hP5 : RI w5 w5.heap.size .u8 P5 _ (wrBytes fx) := Rd.of_own ho5
        have hX6 := (hX5.below hbel5).more hbel5.size
        have hY6 := (hY5.below hbel5).more hbel5.size
        have hbelE : Below w.heap.size w w5 := hbelD.trans (hbel5.mono hbelD.size)
        clear ho5 hbel5 hX5 hY5
        go_wp2_with fail
        refine (bits_Write fy _ _ _ _ hY6 (by omega)).mono ?_
        rintro e w6 ⟨v6, rfl, ho6, hbel6⟩
        rw [HWY.out]
        rw [← HBY.out] at ho6
        obtain ⟨P6, k6, rfl, _⟩ := own_form ho6
        have hQ6 : RI w6 w6.heap.size .u8 P6 _ (wrBytes fy) := Rd.of_own ho6
        have hP6 := (hP5.below hbel6).more hbel6.size
        have hX7 := (hX6.below hbel6).more hbel6.size
        have hY7 := (hY6.below hbel6).more hbel6.size
        have hbelF : Below w.heap.size w w6 := hbelE.trans (hbel6.mono hbelE.size)
        clear ho6 hbel6 hX6 hY6 hP5
        go_wp2
        go_loopw [16, 17] (fun r i wr => ∃ (j : Nat) (c : Int), j ≤ fx.length ∧ i = .int .i64 (↑j - 1) ∧ r = .int .i64 c ∧ Hid (c = cmpL ((fx.map (·.2)).drop j) ((fy.map (·.2)).drop j)) ∧ ∃ m, wr = w6.drewN m) (fun _ i _ => (intOf i + 1).toNat)
        case atStart => exact ⟨fx.length, 0, Nat.le_refl _, rfl, rfl, by rw [List.drop_eq_nil_of_le (by simp)]; rfl, 0, rfl⟩
        case round =>
          obtain ⟨j, c, hj, rfl, rfl, HC, m, rfl⟩ := hrel
          by_cases hj0 : 0 < j
          · obtain ⟨j, rfl⟩ : ∃ j', j = j' + 1 := ⟨j - 1, by omega⟩
            obtain ⟨b, o, x, y, rfl, hbb, hcx, hcy, HX, hmx⟩ := hX7.val (show j < fx.length by omega)
            obtain ⟨b', o', x', y', rfl, hbb', hcx', hcy', HY, hmy⟩ := hY7.val (show j < fx.length by omega)
            have e1 : (fx.map (·.2))[j]? = some y := by rw [List.getElem?_map, HX.out]; rfl
            have e2 : (fy.map (·.2))[j]? = some y' := by rw [List.getElem?_map, HY.out]; rfl
            have HD1 := Lib.hid (at_drop e1)
            have HD2 := Lib.hid (at_drop e2)
            clear e1 e2
            have HCN := Lib.hid (cmp_step HD1.out HD2.out HC.out)
            go_wp2
            refine region_two [0, 1, 2, 3, 4, 5, 6, 7, 8, 9, 10] [] (by kernel_rfl) (by kernel_rfl) ?_
            simp only [pick, List.map_cons, List.map_nil, List.getD_cons_zero, List.getD_cons_succ]
            by_cases hyy : y = y'
            · have HR : Hid (c = _) := Lib.hid ((if_pos hyy).symm.trans HCN.out.symm)
              subst hyy
              go_wp2
              go_roundw
              case rel => exact ⟨j, c, by omega, by go_num, rfl, HR, _, rfl⟩
              case measure => simp [intOf]
            · go_wp2
              refine region_two [0, 1, 2, 3, 4, 5, 6, 7, 8, 9, 10] [] (by kernel_rfl) (by kernel_rfl) ?_
              simp only [pick, List.map_cons, List.map_nil, List.getD_cons_zero, List.getD_cons_succ]
              by_cases hyl : y < y'
              · have HR := Lib.hid ((HCN.out.trans ((if_neg hyy).trans (if_pos hyl))).symm)
                go_wp2
                go_roundw
                case rel => exact ⟨j, -1, by omega, by go_num, rfl, HR, _, rfl⟩
                case measure => simp [intOf]
              · have HR := Lib.hid ((HCN.out.trans ((if_neg hyy).trans (if_neg hyl))).symm)
                go_wp2
                go_roundw
                case rel => exact ⟨j, 1, by omega, by go_num, rfl, HR, _, rfl⟩
                case measure => simp [intOf]
          · obtain rfl : j = 0 := by omega
            go_wp2
            go_loopw [18, 19] (fun r i wr => ∃ (j : Nat) (d : Int), j ≤ (wrBytes fx).length ∧ i = .int .i64 (↑j - 1) ∧ r = .int .i64 d ∧ Hid (d = cmpL ((wrBytes fx).drop j) ((wrBytes fy).drop j)) ∧ ∃ m, wr = w6.drewN m) (fun _ i _ => (intOf i + 1).toNat)
            case atStart => exact ⟨(wrBytes fx).length, 0, Nat.le_refl _, rfl, rfl, by rw [List.drop_eq_nil_of_le (Nat.le_refl _)]; rfl, _, rfl⟩
            case round =>
              obtain ⟨j, d, hj, rfl, rfl, HE, m', rfl⟩ := hrel
              by_cases hj0 : 0 < j
              · obtain ⟨j, rfl⟩ : ∃ j', j = j' + 1 := ⟨j - 1, by omega⟩
                obtain ⟨b, o, y, rfl, hbb, hcy, HX, hmx⟩ := hP6.val (show j < (wrBytes fx).length by omega)
                obtain ⟨b', o', y', rfl, hbb', hcy', HY, hmy⟩ := hQ6.val (show j < (wrBytes fx).length by omega)
                have HD1 := Lib.hid (at_drop HX.out)
                have HD2 := Lib.hid (at_drop HY.out)
                have HCN := Lib.hid (cmp_step HD1.out HD2.out HE.out)
                go_wp2
                refine region_two [0, 1, 2, 3, 4, 5, 6, 7, 8] [] (by kernel_rfl) (by kernel_rfl) ?_
                simp only [pick, List.map_cons, List.map_nil, List.getD_cons_zero, List.getD_cons_succ]
                by_cases hyy : y = y'
                · have HR : Hid (d = _) := Lib.hid ((if_pos hyy).symm.trans HCN.out.symm)
                  subst hyy
                  go_wp2
                  go_roundw
                  case rel => exact ⟨j, d, by omega, by go_num, rfl, HR, _, rfl⟩
                  case measure => simp [intOf]
                · go_wp2
                  refine region_two [0, 1, 2, 3, 4, 5, 6, 7, 8] [] (by kernel_rfl) (by kernel_rfl) ?_
                  simp only [pick, List.map_cons, List.map_nil, List.getD_cons_zero, List.getD_cons_succ]
                  by_cases hyl : y < y'
                  · have HR := Lib.hid ((HCN.out.trans ((if_neg hyy).trans (if_pos hyl))).symm)
                    go_wp2
                    go_roundw
                    case rel => exact ⟨j, -1, by omega, by go_num, rfl, HR, _, rfl⟩
                    case measure => simp [intOf]
                  · have HR := Lib.hid ((HCN.out.trans ((if_neg hyy).trans (if_neg hyl))).symm)
                    go_wp2
                    go_roundw
                    case rel => exact ⟨j, 1, by omega, by go_num, rfl, HR, _, rfl⟩
                    case measure => simp [intOf]
              · obtain rfl : j = 0 := by omega
                obtain rfl : d = c := by
                  have h1 := HE.out
                  have h2 := HC.out
                  rw [List.drop_zero, List.drop_zero] at h1 h2
                  rw [h1, h2, HORD.out]
                go_wp2_with fail
                refine (bits_Write [(3, 5)] _ _ _ _ (Rd.lit _ _ rfl) (by omega)).mono ?_
                rintro e w7 ⟨v7, rfl, ho7, hbel7⟩
                rw [five_written.1]
                rw [five_written.2] at ho7
                obtain ⟨O, ko, rfl, _⟩ := own_form ho7
                have hbel67 : Below w6.heap.size w6 w7 := (((Below.refl _ _).drewN m').alloc (by simp) _).trans (hbel7.mono (by simp))
                have hbelG : Below w.heap.size w w7 := hbelF.trans (hbel67.mono hbelF.size)
                have hO : RI w7 w7.heap.size .u8 O 1 [160] := Rd.of_own ho7
                obtain ⟨b, o, y, rfl, hbb, hcy, HX, hmx⟩ := hO.val (show 0 < 1 by decide)
                obtain rfl : y = 160 := by simpa using hmx
                rw [Nat.add_zero] at hcy
                clear ho7 hbel7 hbel67 hO
                go_wp2
                go_ret
                exact ⟨rfl, hbelG⟩
  · obtain ⟨c0, hc0, rfl⟩ : ∃ c, 20 ≤ c ∧ c0 = c := ⟨c0, by omega, rfl⟩
    go_enter Try.func7, Try.ntmps7
    go_wp2_with (first
      | (at_builtin; refine app_src eltInt w rfl (.const (.slice none 0 0)) (.tmp 27) rfl w.heap.size _ 0 [] rfl (World.ownsRow_nil _ _ _ _) _ _ _ _ rfl _ (h0.take (m := 20) (by omega)) (one_ints _ _) (by omega) (by omega) (Nat.le_refl _) ?_; intro u1 w1 hu1 hgr1 hbel1 hsz1)
      | (at_builtin; refine app_lit eltInt w1 rfl (.tmp 28) (.tmp 29) rfl w.heap.size _ _ _ rfl (by exact hu1) 1 [_] _ rfl rfl rfl (one1 _ _) (by omega) (by omega) hsz1 ?_; intro u2 w2 hu2 hgr2 hbel2 hsz2; obtain ⟨U, ku, rfl, hku⟩ := own_form hu2))
    have hbelA : Below w.heap.size w w2 := hbel2 w (hbel1 w (Below.refl _ _))
    have hU : RI w2 w2.heap.size .i64 U (21) (x0.take 20 ++ [5]) := by
      have := Rd.of_own hu2
      simp only [List.nil_append, Nat.zero_add] at this
      unfold RI
      rw [List.map_append]
      exact this
    have htk : (x0.take 20 ++ [5]).take 40 = x0.take 20 ++ [5] := List.take_of_length_le (by rw [hU.len]; omega)
    obtain ⟨fx, hfx⟩ : ∃ fx, fx = fldsOf (x0.take 20 ++ [5]) x1 := ⟨_, rfl⟩
    have hlenx : fx.length ≤ 21 := by rw [hfx, fldsOf_length, hU.len]; omega
    have hokx : ∀ f ∈ fx, okF f := by rw [hfx]; exact fldsOf_ok _ _
    obtain ⟨fy, hfy⟩ : ∃ fy, fy = fldsOf (fx.map (·.1)) x2 := ⟨_, rfl⟩
    have hfst : fy.map (·.1) = fx.map (·.1) := by rw [hfy, hfx]; exact fldsOf_again _ _ _
    have hleny : fy.length = fx.length := by have := congrArg List.length hfst; simpa using this
    have hoky : ∀ f ∈ fy, okF f := by rw [hfy]; exact fldsOf_ok _ _
    have hord := order_written fx fy hfst.symm hokx hoky
    obtain ⟨hwx0, hwxb, _⟩ := read_written fx [] hokx (by omega)
    obtain ⟨hwy0, hwyb, _⟩ := read_written fy [] hoky (by omega)
    rw [← hwxb, ← hwyb] at hord
    have hblx := lenF_le fx hokx
    have hbytes : (wrBytes fx).length = (wrBytes fy).length := by rw [hwxb, hwyb, packB_len, packB_len, bitsF_length, bitsF_length, hfst]
    have hbyl : (wrBytes fx).length ≤ 400 := by rw [hwxb, packB_len]; omega
    have hrx : ∀ x ∈ wrBytes fx, 0 ≤ x ∧ x < 256 := by rw [hwxb]; exact packB_range _ (bits01F fx)
    have hry : ∀ x ∈ wrBytes fy, 0 ≤ x ∧ x < 256 := by rw [hwyb]; exact packB_range _ (bits01F fy)
    have HTK := Lib.hid htk
    have HFX := Lib.hid hfx
    have HFY := Lib.hid hfy
    have HOX := Lib.hid hokx
    have HOY := Lib.hid hoky
    have HFST := Lib.hid hfst
    have HLY := Lib.hid hleny
    have HORD := Lib.hid hord
    have HWX := Lib.hid hwx0
    have HWY := Lib.hid hwy0
    have HBY := Lib.hid hbytes
    clear htk hfx hfy hokx hoky hfst hleny hord hwx0 hwy0 hbytes hwxb hwyb hrx hry hu1 hu2 hbel1 hbel2 hgr1 hgr2 hblx
    refine (keep_FieldsOf (x0.take 20 ++ [5]) x1 _ _ _ _ _ _ 40 _ hU ((h1.below hbelA).more hbelA.size) (by omega) (by omega) (by omega)).mono ?_
    rintro e w3 ⟨v1, v2, rfl, hof, how, hbel3⟩
    rw [HTK.out, ← HFX.out] at hof how
    obtain ⟨Fx, kx, rfl, _⟩ := own_form hof
    obtain ⟨Z, kz, rfl, _⟩ := own_form how
    have hX3 : RF w3 w3.heap.size Fx fx.length fx := Rd.of_own hof
    have hZ3 : RI w3 w3.heap.size .i64 Z fx.length (fx.map (·.1)) := Rd.of_own how
    have hbelB : Below w.heap.size w w3 := hbelA.trans (hbel3.mono hbelA.size)
    clear hof how hbel3 hU
    go_wp2_with fail
    refine (keep_FieldsOf (fx.map (·.1)) x2 _ _ _ _ _ _ 40 _ hZ3 ((h2.below hbelB).more hbelB.size) (by omega) (by omega) (by omega)).mono ?_
    rintro e w4 ⟨v3, v4, rfl, hoy, hoz, hbel4⟩
    rw [List.take_of_length_le (by simp; omega), ← HFY.out] at hoy hoz
    rw [HLY.out] at hoy hoz
    obtain ⟨Fy, ky, rfl, _⟩ := own_form hoy
    obtain ⟨Z', kz', rfl, _⟩ := own_form hoz
    have hX4 := hX3.below hbel4
    have hbelC : Below w.heap.size w w4 := hbelB.trans (hbel4.mono hbelB.size)
    have hsz34 := hbel4.size
    clear hoz hbel4 hX3 hZ3
    go_wp2
    go_loopw [11] (fun i wr => ∃ j : Nat, j ≤ fx.length ∧ i = .int .i64 j ∧ wr.ownsRow w3.heap.size 37 2 (.slice Fy fx.length ky) fx.length (cellsF fy) ∧ Below w3.heap.size w4 wr) (fun i _ => fx.length - (intOf i).toNat)
    case atStart => exact ⟨0, Nat.zero_le _, rfl, hoy, Below.refl _ _⟩
    case round =>
      obtain ⟨j, hj, rfl, hoy2, hbelw⟩ := hrel
      by_cases hlt2 : j < fx.length
      · obtain ⟨b, o, x, y, rfl, hbb, hcx, hcy, HX, hmx⟩ := (hX4.below hbelw).val hlt2
        obtain ⟨g, cp, hFy, hbg, hgl, _⟩ := own_some hoy2 (by omega)
        injection hFy with hFy _ hcp
        subst hFy hcp
        have hyl : j < fy.length := by rw [HLY.out]; exact hlt2
        obtain ⟨x', y', HY, hmy⟩ : ∃ x' y', Hid (fy[j]? = some (x', y')) ∧ (x', y') ∈ fy := ⟨fy[j].1, fy[j].2, List.getElem?_eq_getElem hyl, List.getElem_mem hyl⟩
        obtain rfl : x' = x := by
          have h3 := congrArg (fun l => l[j]?) HFST.out
          simp only [List.getElem?_map, HX.out, HY.out, Option.map_some, Option.some.injEq] at h3
          exact h3
        have hat := cellsF_at fy j _ HY.out
        have hcell1 := World.ownsRow.cellAt hoy2 (j * 2) (by omega)
        have hcell2 := World.ownsRow.cellAt hoy2 (j * 2 + 1) (by omega)
        rw [hat.1] at hcell1
        rw [hat.2] at hcell2
        have hfz1 := World.ownsRow.frozenAt hoy2 (j * 2)
        have hfz2 := World.ownsRow.frozenAt hoy2 (j * 2 + 1)
        obtain ⟨⟨hxx0, hxx1⟩, hyy0, hyy1⟩ := HOY.out _ hmy
        dsimp only at hxx0 hxx1 hyy0 hyy1 hcell1 hcell2
        obtain ⟨wd, rfl⟩ := Int.eq_ofNat_of_zero_le hxx0
        simp only [Int.toNat_natCast] at hyy1
        have hp := pow_le (j := wd) (k := 60) (by omega)
        have hp0 : (0 : Int) < 2 ^ wd := Int.pow_pos (by decide)
        have HM := Lib.hid (mask_same y' wd hyy0 hyy1 (by omega))
        have HAT := Lib.hid hat
        clear hat hyl
        go_wp2
        refine region_two [0, 1, 2, 3, 4, 5, 6, 7, 8, 9, 10, 11, 12, 13, 14] [15] (by kernel_rfl) (by kernel_rfl) ?_
        simp only [pick, List.map_cons, List.map_nil, List.getD_cons_zero, List.getD_cons_succ]
        go_wp2
        rw [HM.out]
        go_roundw
        case rel =>
          have ha := (World.ownsRow.stored hoy2 (j * 2) (Value.int .i64 wd)).1
          rw [set_same HAT.out.1] at ha
          have hb := (World.ownsRow.stored ha (j * 2 + 1) (Value.int .i64 y')).1
          rw [set_same HAT.out.2] at hb
          exact ⟨j + 1, by omega, by go_num, hb, ((hbelw.setCell (p := ⟨g, _, none⟩) hbg _).setCell (p := ⟨g, _, none⟩) hbg _).drew⟩
        case measure => simp [intOf]; omega
      · obtain rfl : j = fx.length := by omega
        have hszw := hbelw.size
        have hbelD : Below w.heap.size w wr := hbelC.trans (hbelw.mono hbelB.size)
        have hX5 : RF wr wr.heap.size Fx fx.length fx := (hX4.below hbelw).more (by omega)
        have hY5 : RF wr wr.heap.size Fy fx.length fy := Rd.of_own hoy2
        clear hoy hoy2 hX4 hbelw
        go_wp2_with fail
        refine (bits_Write fx _ _ _ _ hX5 (by omega)).mono ?_
        rintro e w5 ⟨v5, rfl, ho5, hbel5⟩
        rw [HWX.out]
        obtain ⟨P5, k5, rfl, _⟩ := own_form ho5
        have hP5 : RI w5 w5.heap.size .u8 P5 _ (wrBytes fx) := Rd.of_own ho5
        have hX6 := (hX5.below hbel5).more hbel5.size
        have hY6 := (hY5.below hbel5).more hbel5.size
        have hbelE : Below w.heap.size w w5 := hbelD.trans (hbel5.mono hbelD.size)
        clear ho5 hbel5 hX5 hY5
        go_wp2_with fail
        refine (bits_Write fy _ _ _ _ hY6 (by omega)).mono ?_
        rintro e w6 ⟨v6, rfl, ho6, hbel6⟩
        rw [HWY.out]
        rw [← HBY.out] at ho6
        obtain ⟨P6, k6, rfl, _⟩ := own_form ho6
        have hQ6 : RI w6 w6.heap.size .u8 P6 _ (wrBytes fy) := Rd.of_own ho6
        have hP6 := (hP5.below hbel6).more hbel6.size
        have hX7 := (hX6.below hbel6).more hbel6.size
        have hY7 := (hY6.below hbel6).more hbel6.size
        have hbelF : Below w.heap.size w w6 := hbelE.trans (hbel6.mono hbelE.size)
        clear ho6 hbel6 hX6 hY6 hP5
        go_wp2
        go_loopw [16, 17] (fun r i wr => ∃ (j : Nat) (c : Int), j ≤ fx.length ∧ i = .int .i64 (↑j - 1) ∧ r = .int .i64 c ∧ Hid (c = cmpL ((fx.map (·.2)).drop j) ((fy.map (·.2)).drop j)) ∧ ∃ m, wr = w6.drewN m) (fun _ i _ => (intOf i + 1).toNat)
        case atStart => exact ⟨fx.length, 0, Nat.le_refl _, rfl, rfl, by rw [List.drop_eq_nil_of_le (by simp)]; rfl, 0, rfl⟩
        case round =>
          obtain ⟨j, c, hj, rfl, rfl, HC, m, rfl⟩ := hrel
          by_cases hj0 : 0 < j
          · obtain ⟨j, rfl⟩ : ∃ j', j = j' + 1 := ⟨j - 1, by omega⟩
            obtain ⟨b, o, x, y, rfl, hbb, hcx, hcy, HX, hmx⟩ := hX7.val (show j < fx.length by omega)
            obtain ⟨b', o', x', y', rfl, hbb', hcx', hcy', HY, hmy⟩ := hY7.val (show j < fx.length by omega)
            have e1 : (fx.map (·.2))[j]? = some y := by rw [List.getElem?_map, HX.out]; rfl
            have e2 : (fy.map (·.2))[j]? = some y' := by rw [List.getElem?_map, HY.out]; rfl
            have HD1 := Lib.hid (at_drop e1)
            have HD2 := Lib.hid (at_drop e2)
            clear e1 e2
            have HCN := Lib.hid (cmp_step HD1.out HD2.out HC.out)
            go_wp2
            refine region_two [0, 1, 2, 3, 4, 5, 6, 7, 8, 9, 10] [] (by kernel_rfl) (by kernel_rfl) ?_
            simp only [pick, List.map_cons, List.map_nil, List.getD_cons_zero, List.getD_cons_succ]
            by_cases hyy : y = y'
            · have HR : Hid (c = _) := Lib.hid ((if_pos hyy).symm.trans HCN.out.symm)
              subst hyy
              go_wp2
              go_roundw
              case rel => exact ⟨j, c, by omega, by go_num, rfl, HR, _, rfl⟩
              case measure => simp [intOf]
            · go_wp2
              refine region_two [0, 1, 2, 3, 4, 5, 6, 7, 8, 9, 10] [] (by kernel_rfl) (by kernel_rfl) ?_
              simp only [pick, List.map_cons, List.map_nil, List.getD_cons_zero, List.getD_cons_succ]
              by_cases hyl : y < y'
              · have HR := Lib.hid ((HCN.out.trans ((if_neg hyy).trans (if_pos hyl))).symm)
                go_wp2
                go_roundw
                case rel => exact ⟨j, -1, by omega, by go_num, rfl, HR, _, rfl⟩
                case measure => simp [intOf]
              · have HR := Lib.hid ((HCN.out.trans ((if_neg hyy).trans (if_neg hyl))).symm)
                go_wp2
                go_roundw
                case rel => exact ⟨j, 1, by omega, by go_num, rfl, HR, _, rfl⟩
                case measure => simp [intOf]
          · obtain rfl : j = 0 := by omega
            go_wp2
            go_loopw [18, 19] (fun r i wr => ∃ (j : Nat) (d : Int), j ≤ (wrBytes fx).length ∧ i = .int .i64 (↑j - 1) ∧ r = .int .i64 d ∧ Hid (d = cmpL ((wrBytes fx).drop j) ((wrBytes fy).drop j)) ∧ ∃ m, wr = w6.drewN m) (fun _ i _ => (intOf i + 1).toNat)
            case atStart => exact ⟨(wrBytes fx).length, 0, Nat.le_refl _, rfl, rfl, by rw [List.drop_eq_nil_of_le (Nat.le_refl _)]; rfl, _, rfl⟩
            case round =>
              obtain ⟨j, d, hj, rfl, rfl, HE, m', rfl⟩ := hrel
              by_cases hj0 : 0 < j
              · obtain ⟨j, rfl⟩ : ∃ j', j = j' + 1 := ⟨j - 1, by omega⟩
                obtain ⟨b, o, y, rfl, hbb, hcy, HX, hmx⟩ := hP6.val (show j < (wrBytes fx).length by omega)
                obtain ⟨b', o', y', rfl, hbb', hcy', HY, hmy⟩ := hQ6.val (show j < (wrBytes fx).length by omega)
                have HD1 := Lib.hid (at_drop HX.out)
                have HD2 := Lib.hid (at_drop HY.out)
                have HCN := Lib.hid (cmp_step HD1.out HD2.out HE.out)
                go_wp2
                refine region_two [0, 1, 2, 3, 4, 5, 6, 7, 8] [] (by kernel_rfl) (by kernel_rfl) ?_
                simp only [pick, List.map_cons, List.map_nil, List.getD_cons_zero, List.getD_cons_succ]
                by_cases hyy : y = y'
                · have HR : Hid (d = _) := Lib.hid ((if_pos hyy).symm.trans HCN.out.symm)
                  subst hyy
                  go_wp2
                  go_roundw
                  case rel => exact ⟨j, d, by omega, by go_num, rfl, HR, _, rfl⟩
                  case measure => simp [intOf]
                · go_wp2
                  refine region_two [0, 1, 2, 3, 4, 5, 6, 7, 8] [] (by kernel_rfl) (by kernel_rfl) ?_
                  simp only [pick, List.map_cons, List.map_nil, List.getD_cons_zero, List.getD_cons_succ]
                  by_cases hyl : y < y'
                  · have HR := Lib.hid ((HCN.out.trans ((if_neg hyy).trans (if_pos hyl))).symm)
                    go_wp2
                    go_roundw
                    case rel => exact ⟨j, -1, by omega, by go_num, rfl, HR, _, rfl⟩
                    case measure => simp [intOf]
                  · have HR := Lib.hid ((HCN.out.trans ((if_neg hyy).trans (if_neg hyl))).symm)
                    go_wp2
                    go_roundw
                    case rel => exact ⟨j, 1, by omega, by go_num, rfl, HR, _, rfl⟩
                    case measure => simp [intOf]
              · obtain rfl : j = 0 := by omega
                obtain rfl : d = c := by
                  have h1 := HE.out
                  have h2 := HC.out
                  rw [List.drop_zero, List.drop_zero] at h1 h2
                  rw [h1, h2, HORD.out]
                go_wp2_with fail
                refine (bits_Write [(3, 5)] _ _ _ _ (Rd.lit _ _ rfl) (by omega)).mono ?_
                rintro e w7 ⟨v7, rfl, ho7, hbel7⟩
                rw [five_written.1]
                rw [five_written.2] at ho7
                obtain ⟨O, ko, rfl, _⟩ := own_form ho7
                have hbel67 : Below w6.heap.size w6 w7 := (((Below.refl _ _).drewN m').alloc (by simp) _).trans (hbel7.mono (by simp))
                have hbelG : Below w.heap.size w w7 := hbelF.trans (hbel67.mono hbelF.size)
                have hO : RI w7 w7.heap.size .u8 O 1 [160] := Rd.of_own ho7
                obtain ⟨b, o, y, rfl, hbb, hcy, HX, hmx⟩ := hO.val (show 0 < 1 by decide)
                obtain rfl : y = 160 := by simpa using hmx
                rw [Nat.add_zero] at hcy
                clear ho7 hbel7 hbel67 hO
                go_wp2
                go_ret
                exact ⟨rfl, hbelG⟩

theorem own_BitsOrder : ownKnob Try.prog.godebug = none := by kernel_rfl
theorem laid_BitsOrder : laidOutB Try.prog = true := by kernel_rfl
set_option maxRecDepth 100000 in
theorem lifted_BitsOrder (os : Os) (started : os.Started) (H : Type) (enc : TypeId × Value → H) :
    ReturnsInHanded {} Try.checked os 7 .any (Rows.bitsOrderSpec.pre6 enc Try.prog Try.f7 Rows.bitsOrderRow.domain false) (Rows.bitsOrderSpec.post enc Try.prog Try.f7 false true false false) := by
  refine returnsInHanded_of_change_sized (C := Try.checked) own_BitsOrder started (by kernel_rfl) Try.func7
    (ChangeSpec.witness6 (enc := enc) (C := Try.checked) false ⟨#[], #[.slice none 0 0, .slice none 0 0, .slice none 0 0], []⟩ 8 (by kernel_rfl) (by kernel_rfl) (by kernel_rfl) (by kernel_rfl)) ?_
  intro W base args ds gs before hval0 hW hcnd hsz0 _
  have hsz : (DataW.weightsEach Try.prog (Try.f7.params.toList ++ Rows.bitsOrderSpec.plain.varTypes Try.prog) (ds ++ gs)).all (· ≤ reachBytes) = true := hsz0
  clear hsz0
  have hval : ∀ (j : Nat) t v, Try.f7.params[j]? = some t → args[j]? = some v → Value.okWide Try.prog W .any base t v := hval0
  have hW' := hW
  obtain ⟨p, q, hA0, hV, rfl, hfz, hnd⟩ := hW
  have hA : DataW.TrodAll enc Try.prog W 0 (fun _ => true) true Try.f7.params.toList args.toList ds p := hA0
  rw [Try.params7] at hA hval hsz
  obtain ⟨v0, vs0, d0, ds0, p0, q0, hargs, rfl, rfl, h0, r0⟩ := trodAll_cons hA
  obtain ⟨v1, vs1, d1, ds1, p1, q1, rfl, rfl, rfl, h1, r1⟩ := trodAll_cons r0
  obtain ⟨v2, vs2, d2, ds2, p2, q2, rfl, rfl, rfl, h2, r2⟩ := trodAll_cons r1
  obtain ⟨rfl, rfl, rfl⟩ := trodAll_nil r2
  obtain rfl : args = #[v0, v1, v2] := by cases args; simp_all
  obtain ⟨rfl, rfl⟩ := trodVars_none hV
  have k0 := h0
  have lt0 : ∀ x ∈ p0, x.block < W.heap.size := by obtain ⟨m, hm⟩ := k0; exact DataW.trod_lt m _ _ _ hm
  obtain ⟨a0, len0, cap0, rfl⟩ := okWide_slice Try.underlying29 (hval 0 29 v0 rfl rfl)
  obtain ⟨x0, ri0, wx0, lc0, hd0⟩ := open_RI Try.underlying29 Try.underlying3 (by kernel_rfl) h0
  have bd0 : len0 ≤ 17592186044416 := by
    rcases hd0 with ⟨h, _⟩ | ⟨el, sp, hd, hl⟩
    · omega
    · subst hd
      have := sized_slice hsz (j := 0) (t := 29) (e := 3) rfl rfl Try.underlying29
      rw [show Try.prog.bytesOf 3 = 8 by kernel_rfl] at this
      simp only [reachBytes] at this
      omega
  have rr0 : ∀ x ∈ x0, -9223372036854775808 ≤ x ∧ x ≤ 9223372036854775807 := fun x hx => bounds_i64 (wx0 x hx)
  have k1 := h1
  have lt1 : ∀ x ∈ p1, x.block < W.heap.size := by obtain ⟨m, hm⟩ := k1; exact DataW.trod_lt m _ _ _ hm
  obtain ⟨a1, len1, cap1, rfl⟩ := okWide_slice Try.underlying29 (hval 1 29 v1 rfl rfl)
  obtain ⟨x1, ri1, wx1, lc1, hd1⟩ := open_RI Try.underlying29 Try.underlying3 (by kernel_rfl) h1
  have bd1 : len1 ≤ 17592186044416 := by
    rcases hd1 with ⟨h, _⟩ | ⟨el, sp, hd, hl⟩
    · omega
    · subst hd
      have := sized_slice hsz (j := 1) (t := 29) (e := 3) rfl rfl Try.underlying29
      rw [show Try.prog.bytesOf 3 = 8 by kernel_rfl] at this
      simp only [reachBytes] at this
      omega
  have rr1 : ∀ x ∈ x1, -9223372036854775808 ≤ x ∧ x ≤ 9223372036854775807 := fun x hx => bounds_i64 (wx1 x hx)
  have k2 := h2
  have lt2 : ∀ x ∈ p2, x.block < W.heap.size := by obtain ⟨m, hm⟩ := k2; exact DataW.trod_lt m _ _ _ hm
  obtain ⟨a2, len2, cap2, rfl⟩ := okWide_slice Try.underlying29 (hval 2 29 v2 rfl rfl)
  obtain ⟨x2, ri2, wx2, lc2, hd2⟩ := open_RI Try.underlying29 Try.underlying3 (by kernel_rfl) h2
  have bd2 : len2 ≤ 17592186044416 := by
    rcases hd2 with ⟨h, _⟩ | ⟨el, sp, hd, hl⟩
    · omega
    · subst hd
      have := sized_slice hsz (j := 2) (t := 29) (e := 3) rfl rfl Try.underlying29
      rw [show Try.prog.bytesOf 3 = 8 by kernel_rfl] at this
      simp only [reachBytes] at this
      omega
  have rr2 : ∀ x ∈ x2, -9223372036854775808 ≤ x ∧ x ≤ 9223372036854775807 := fun x hx => bounds_i64 (wx2 x hx)
  clear hA0 hval0 hsz
  refine (keep_BitsOrder W a0 len0 cap0 x0 ri0 bd0 rr0 lc0 a1 len1 cap1 x1 ri1 bd1 rr1 lc1 a2 len2 cap2 x2 ri2 bd2 rr2 lc2).mono fun e W' ⟨he, bel⟩ => ?_
  subst he
  exact ⟨_, rfl, _, _, _, [], _, [], hW', trodAll_mk1 (shut_bool Try.underlying4 _), (trodAll_cons_mk (Below.trod laid_BitsOrder (by kernel_rfl) (of_decide_eq_true (by kernel_rfl)) k0 bel lt0) (trodAll_cons_mk (Below.trod laid_BitsOrder (by kernel_rfl) (of_decide_eq_true (by kernel_rfl)) k1 bel lt1) (trodAll_cons_mk (Below.trod laid_BitsOrder (by kernel_rfl) (of_decide_eq_true (by kernel_rfl)) k2 bel lt2) trodAll_mk0))), rfl, bel.frame _, fun h => by cases h⟩

theorem bitsOrder_holds : Rows.BitsOrderSaid :=
  OpenClaim.holds_of_wide 7 Try.f7 rfl rfl rfl rfl rfl rfl rfl ⟨rfl, rfl, rfl, rfl, rfl⟩ rfl rfl rfl rfl rfl (by kernel_rfl) Try.func7 (by kernel_rfl)
    (of_decide_eq_true (by kernel_rfl)) (by unfold Func.isWrapper; first | (rw [if_pos (by decide +kernel)]; kernel_rfl) | (rw [if_neg (by decide +kernel)]; exact ⟨rfl, rfl⟩))
    (fun os started H enc _ => lifted_BitsOrder os started H enc)
#print axioms bitsOrder_holds
end Go.Proofs.Ytdkhnkmdnnddbaa
