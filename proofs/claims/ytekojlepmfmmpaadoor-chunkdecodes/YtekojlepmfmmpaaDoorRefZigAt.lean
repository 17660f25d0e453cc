/- What the document's answer to Decode does. No statement of the seat is proved here; no condition. -/
import Derived.Test.YtekojlepmfmmpaaDoorRefZig1
import Derived.Test.YtekojlepmfmmpaaDoorRefBit
import Derived.Test.YtekojlepmfmmpaaDoorZigDecPure
set_option linter.unusedSimpArgs false
set_option linter.unusedVariables false
namespace Go.Proofs.YtekojlepmfmmpaaDoor
open Go.RowKit Go.Ord Go.Baro

theorem ref_ZigUnfoldS (n : Int) (w : World) (h : 0 ≤ n ∧ n < 576460752303423488) :
    Calls Tryd.prog 46 #[.int .i64 n] w fun e w' => (∃ f, e = .returned (.tuple #[.int .i64 f, .int .i64 0]) ∧ Hid (f = zunf n) ∧ -288230376151711744 ≤ f ∧ f < 288230376151711744) ∧ w = w' := by
  refine (ref_ZigUnfold n w (by omega) (by omega)).mono ?_
  rintro e w' ⟨rfl, rfl⟩
  have h1 := u_in h.1 h.2
  have h2 := zunf_small h.1 h.2
  exact ⟨⟨zunf n, by rw [h1.1, h1.2], rfl, h2.1, h2.2⟩, rfl⟩

theorem ref_bitAtI (l : List Int) (A : Option Addr) (n c i : Nat) (i' : Int) (w : World) (B : Nat) (he : i' = i) (hb : RI w B .u8 A n l) (hr : ∀ x ∈ l, 0 ≤ x ∧ x < 256) (hn : n ≤ 140737488351232) (h1 : i < 8 * n) :
    Calls Tryd.prog 45 #[.slice A n c, .int .i64 i'] w fun e w' => e = .returned (.int .i64 (bitOf l i)) ∧ Below w.heap.size w w' := by
  subst he
  refine (ref_bitAt l A n c i w B hb hr (by omega) (by omega) (by omega)).mono ?_
  rintro e w' ⟨rfl, m, rfl⟩
  exact ⟨rfl, (Below.refl _ _).drewN m⟩

/-- What zigAt leaves. -/
def AtPost (l : List Int) (a : Nat) (w : World) (e : Ending) (w' : World) : Prop := e = .returned (.tuple #[.int .i64 (zAt l a).1, .int .i64 (zAt l a).2.1, .int .i64 (zAt l a).2.2]) ∧ Below w.heap.size w w'
theorem at_bad {l : List Int} {a : Nat} {w w' : World} {e : Int} (h : zAt l a = (0, 0, e)) (hb : Below w.heap.size w w') : AtPost l a w (.returned (.tuple #[.int .i64 0, .int .i64 0, .int .i64 e])) w' := by
  unfold AtPost
  rw [h]
  exact ⟨rfl, hb⟩

set_option maxHeartbeats 2000000 in
theorem ref_zigAt (l : List Int) (A : Option Addr) (n c a : Nat) (w : World) (hb : RI w w.heap.size .u8 A n l) (hr : ∀ x ∈ l, 0 ≤ x ∧ x < 256) (hn : n ≤ 140737488351232) (ha : a ≤ 8 * n) :
    Calls Tryd.prog 33 #[.slice A n c, .int .i64 a] w (AtPost l a w) := by
  have HL := Lib.hid hb.len
  have HR := Lib.hid hr
  clear hr
  go_enter Tryd.func33, Tryd.ntmps33
  go_wp2
  go_loopw [1, 7] (fun s i wr => ∃ j : Nat, j ≤ 4 ∧ i = .int .i64 j ∧ s = .int .i64 ↑(a + j) ∧ Hid (∀ q, q < j → bitOf l (a + q) = 1) ∧ a + j ≤ 8 * n ∧ Below w.heap.size w wr) (fun _ i _ => 5 - (intOf i).toNat)
  case atStart => exact ⟨0, by decide, rfl, rfl, fun q hq => absurd hq (by omega), by omega, Below.refl _ _⟩
  case round =>
    obtain ⟨j, hj, rfl, rfl, HO, haj, hbel⟩ := hrel
    have hszw := hbel.size
    rcases (by omega : j = 0 ∨ j = 1 ∨ j = 2 ∨ j = 3 ∨ j = 4) with rfl | rfl | rfl | rfl | rfl
    · by_cases hs0 : a + 0 < 8 * n
      · go_wp2_with fail
        refine (ref_bitAtI l A n c (a + 0) _ wr w.heap.size (by go_num) (hb.below hbel) HR.out hn hs0).mono ?_
        rintro e w5 ⟨rfl, hb5⟩
        have hbelT : Below w.heap.size w w5 := hbel.trans (hb5.mono hszw)
        have hszT := hbelT.size
        clear hb5
        rcases pre_bits (j := 0) (by omega) HO.out with ⟨_, hbit⟩ | ⟨_, hbit⟩
        · have HZ : Hid (zOnes l 4 a 0 = some (0, a + 1)) := pre_hit (j := 0) (by omega) HO.out (by rw [HL.out]; omega) hbit
          rw [hbit]
          go_wp2
          go_loopw [10, 11] (fun x i wr => i = .int .i64 0 ∧ x = .int .i64 0 ∧ Below w.heap.size w wr) (fun _ i _ => 0)
          case atStart => exact ⟨rfl, rfl, hbelT.alloc hszT _⟩
          case round =>
            obtain ⟨rfl, rfl, hbelQ⟩ := hrel
            have HE := Lib.hid (zAt_ok HZ.out (by rw [HL.out]; simp [zwid]; omega) (by simp [zwid]))
            go_wp2_with fail
            refine (ref_ZigUnfoldS 0 _ (by decide)).mono ?_
            rintro e w4 ⟨⟨u, rfl, HU, u0, u1⟩, rfl⟩
            go_wp2
            go_ret3
            unfold AtPost
            rw [HE.out]
            exact ⟨ret_three (val_int HU.out) (val_int (by go_num)) rfl, hbelQ⟩
        · have HM := Lib.hid (ones_more HO.out hbit)
          rw [hbit]
          go_wp2
          go_roundw
          case rel => exact ⟨1, by decide, by go_num, by go_num, HM.out, by omega, hbelT⟩
          case measure => simp [intOf]
      · have HE := Lib.hid (zAt_none (pre_none (j := 0) (by omega) HO.out (by rw [HL.out]; omega)))
        go_wp2
        go_ret3
        exact at_bad HE.out hbel
    · by_cases hs0 : a + 1 < 8 * n
      · go_wp2_with fail
        refine (ref_bitAtI l A n c (a + 1) _ wr w.heap.size (by go_num) (hb.below hbel) HR.out hn hs0).mono ?_
        rintro e w5 ⟨rfl, hb5⟩
        have hbelT : Below w.heap.size w w5 := hbel.trans (hb5.mono hszw)
        have hszT := hbelT.size
        clear hb5
        rcases pre_bits (j := 1) (by omega) HO.out with ⟨_, hbit⟩ | ⟨_, hbit⟩
        · have HZ : Hid (zOnes l 4 a 0 = some (1, a + 2)) := pre_hit (j := 1) (by omega) HO.out (by rw [HL.out]; omega) hbit
          rw [hbit]
          by_cases hs : a + 2 + 6 ≤ 8 * n
          · go_wp2
            go_loopw [10, 11] (fun x i wr => ∃ q : Nat, q ≤ 6 ∧ i = .int .i64 q ∧ x = .int .i64 (fldOf l (a + 2) q) ∧ Below w.heap.size w wr) (fun _ i _ => 6 - (intOf i).toNat)
            case atStart => exact ⟨0, Nat.zero_le _, rfl, rfl, hbelT.alloc hszT _⟩
            case round =>
              obtain ⟨q, hq, rfl, rfl, hbelQ⟩ := hrel
              have hszQ := hbelQ.size
              by_cases hlq : q < 6
              · have hbd := fldOf_bd l (a + 2) q
                have hp := pow_le (j := q) (k := 59) (by omega)
                have hq01 := bitOf_01 l (a + 2 + q)
                go_wp2_with fail
                refine (ref_bitAtI l A n c (a + 2 + q) _ wr w.heap.size (by go_num) (hb.below hbelQ) HR.out hn (by omega)).mono ?_
                rintro e w6 ⟨rfl, hb6⟩
                go_wp2
                go_roundw
                case rel => exact ⟨q + 1, by omega, by go_num, rfl, hbelQ.trans (hb6.mono hszQ)⟩
                case measure => simp [intOf]; omega
              · obtain rfl : q = 6 := by omega
                have hbd := fldOf_bd l (a + 2) 6
                have hp := pow_le (j := 6) (k := 59) (by omega)
                by_cases hf : fldOf l (a + 2) 6 < 1
                · have HE := Lib.hid (zAt_form HZ.out (by rw [HL.out]; exact hs) ⟨by decide, hf⟩)
                  go_wp2
                  go_ret3
                  exact at_bad HE.out (hbelQ.alloc hszQ _)
                · have HE := Lib.hid (zAt_ok HZ.out (by rw [HL.out]; exact hs) (fun h => hf h.2))
                  go_wp2_with fail
                  refine (ref_ZigUnfoldS (fldOf l (a + 2) 6) _ ⟨hbd.1, by omega⟩).mono ?_
                  rintro e w4 ⟨⟨u, rfl, HU, u0, u1⟩, rfl⟩
                  go_wp2
                  go_ret3
                  unfold AtPost
                  rw [HE.out]
                  exact ⟨ret_three (val_int HU.out) (val_int (by go_num)) rfl, hbelQ.alloc hszQ _⟩
          · have HE := Lib.hid (zAt_end HZ.out (by rw [HL.out]; exact hs))
            go_wp2
            go_ret3
            exact at_bad HE.out (hbelT.alloc hszT _)
        · have HM := Lib.hid (ones_more HO.out hbit)
          rw [hbit]
          go_wp2
          go_roundw
          case rel => exact ⟨2, by decide, by go_num, by go_num, HM.out, by omega, hbelT⟩
          case measure => simp [intOf]
      · have HE := Lib.hid (zAt_none (pre_none (j := 1) (by omega) HO.out (by rw [HL.out]; omega)))
        go_wp2
        go_ret3
        exact at_bad HE.out hbel
    · by_cases hs0 : a + 2 < 8 * n
      · go_wp2_with fail
        refine (ref_bitAtI l A n c (a + 2) _ wr w.heap.size (by go_num) (hb.below hbel) HR.out hn hs0).mono ?_
        rintro e w5 ⟨rfl, hb5⟩
        have hbelT : Below w.heap.size w w5 := hbel.trans (hb5.mono hszw)
        have hszT := hbelT.size
        clear hb5
        rcases pre_bits (j := 2) (by omega) HO.out with ⟨_, hbit⟩ | ⟨_, hbit⟩
        · have HZ : Hid (zOnes l 4 a 0 = some (2, a + 3)) := pre_hit (j := 2) (by omega) HO.out (by rw [HL.out]; omega) hbit
          rw [hbit]
          by_cases hs : a + 3 + 12 ≤ 8 * n
          · go_wp2
            go_loopw [10, 11] (fun x i wr => ∃ q : Nat, q ≤ 12 ∧ i = .int .i64 q ∧ x = .int .i64 (fldOf l (a + 3) q) ∧ Below w.heap.size w wr) (fun _ i _ => 12 - (intOf i).toNat)
            case atStart => exact ⟨0, Nat.zero_le _, rfl, rfl, hbelT.alloc hszT _⟩
            case round =>
              obtain ⟨q, hq, rfl, rfl, hbelQ⟩ := hrel
              have hszQ := hbelQ.size
              by_cases hlq : q < 12
              · have hbd := fldOf_bd l (a + 3) q
                have hp := pow_le (j := q) (k := 59) (by omega)
                have hq01 := bitOf_01 l (a + 3 + q)
                go_wp2_with fail
                refine (ref_bitAtI l A n c (a + 3 + q) _ wr w.heap.size (by go_num) (hb.below hbelQ) HR.out hn (by omega)).mono ?_
                rintro e w6 ⟨rfl, hb6⟩
                go_wp2
                go_roundw
                case rel => exact ⟨q + 1, by omega, by go_num, rfl, hbelQ.trans (hb6.mono hszQ)⟩
                case measure => simp [intOf]; omega
              · obtain rfl : q = 12 := by omega
                have hbd := fldOf_bd l (a + 3) 12
                have hp := pow_le (j := 12) (k := 59) (by omega)
                by_cases hf : fldOf l (a + 3) 12 < 64
                · have HE := Lib.hid (zAt_form HZ.out (by rw [HL.out]; exact hs) ⟨by decide, hf⟩)
                  go_wp2
                  go_ret3
                  exact at_bad HE.out (hbelQ.alloc hszQ _)
                · have HE := Lib.hid (zAt_ok HZ.out (by rw [HL.out]; exact hs) (fun h => hf h.2))
                  go_wp2_with fail
                  refine (ref_ZigUnfoldS (fldOf l (a + 3) 12) _ ⟨hbd.1, by omega⟩).mono ?_
                  rintro e w4 ⟨⟨u, rfl, HU, u0, u1⟩, rfl⟩
                  go_wp2
                  go_ret3
                  unfold AtPost
                  rw [HE.out]
                  exact ⟨ret_three (val_int HU.out) (val_int (by go_num)) rfl, hbelQ.alloc hszQ _⟩
          · have HE := Lib.hid (zAt_end HZ.out (by rw [HL.out]; exact hs))
            go_wp2
            go_ret3
            exact at_bad HE.out (hbelT.alloc hszT _)
        · have HM := Lib.hid (ones_more HO.out hbit)
          rw [hbit]
          go_wp2
          go_roundw
          case rel => exact ⟨3, by decide, by go_num, by go_num, HM.out, by omega, hbelT⟩
          case measure => simp [intOf]
      · have HE := Lib.hid (zAt_none (pre_none (j := 2) (by omega) HO.out (by rw [HL.out]; omega)))
        go_wp2
        go_ret3
        exact at_bad HE.out hbel
    · by_cases hs0 : a + 3 < 8 * n
      · go_wp2_with fail
        refine (ref_bitAtI l A n c (a + 3) _ wr w.heap.size (by go_num) (hb.below hbel) HR.out hn hs0).mono ?_
        rintro e w5 ⟨rfl, hb5⟩
        have hbelT : Below w.heap.size w w5 := hbel.trans (hb5.mono hszw)
        have hszT := hbelT.size
        clear hb5
        rcases pre_bits (j := 3) (by omega) HO.out with ⟨_, hbit⟩ | ⟨_, hbit⟩
        · have HZ : Hid (zOnes l 4 a 0 = some (3, a + 4)) := pre_hit (j := 3) (by omega) HO.out (by rw [HL.out]; omega) hbit
          rw [hbit]
          by_cases hs : a + 4 + 24 ≤ 8 * n
          · go_wp2
            go_loopw [10, 11] (fun x i wr => ∃ q : Nat, q ≤ 24 ∧ i = .int .i64 q ∧ x = .int .i64 (fldOf l (a + 4) q) ∧ Below w.heap.size w wr) (fun _ i _ => 24 - (intOf i).toNat)
            case atStart => exact ⟨0, Nat.zero_le _, rfl, rfl, hbelT.alloc hszT _⟩
            case round =>
              obtain ⟨q, hq, rfl, rfl, hbelQ⟩ := hrel
              have hszQ := hbelQ.size
              by_cases hlq : q < 24
              · have hbd := fldOf_bd l (a + 4) q
                have hp := pow_le (j := q) (k := 59) (by omega)
                have hq01 := bitOf_01 l (a + 4 + q)
                go_wp2_with fail
                refine (ref_bitAtI l A n c (a + 4 + q) _ wr w.heap.size (by go_num) (hb.below hbelQ) HR.out hn (by omega)).mono ?_
                rintro e w6 ⟨rfl, hb6⟩
                go_wp2
                go_roundw
                case rel => exact ⟨q + 1, by omega, by go_num, rfl, hbelQ.trans (hb6.mono hszQ)⟩
                case measure => simp [intOf]; omega
              · obtain rfl : q = 24 := by omega
                have hbd := fldOf_bd l (a + 4) 24
                have hp := pow_le (j := 24) (k := 59) (by omega)
                by_cases hf : fldOf l (a + 4) 24 < 4096
                · have HE := Lib.hid (zAt_form HZ.out (by rw [HL.out]; exact hs) ⟨by decide, hf⟩)
                  go_wp2
                  go_ret3
                  exact at_bad HE.out (hbelQ.alloc hszQ _)
                · have HE := Lib.hid (zAt_ok HZ.out (by rw [HL.out]; exact hs) (fun h => hf h.2))
                  go_wp2_with fail
                  refine (ref_ZigUnfoldS (fldOf l (a + 4) 24) _ ⟨hbd.1, by omega⟩).mono ?_
                  rintro e w4 ⟨⟨u, rfl, HU, u0, u1⟩, rfl⟩
                  go_wp2
                  go_ret3
                  unfold AtPost
                  rw [HE.out]
                  exact ⟨ret_three (val_int HU.out) (val_int (by go_num)) rfl, hbelQ.alloc hszQ _⟩
          · have HE := Lib.hid (zAt_end HZ.out (by rw [HL.out]; exact hs))
            go_wp2
            go_ret3
            exact at_bad HE.out (hbelT.alloc hszT _)
        · have HM := Lib.hid (ones_more HO.out hbit)
          rw [hbit]
          go_wp2
          go_roundw
          case rel => exact ⟨4, by decide, by go_num, by go_num, HM.out, by omega, hbelT⟩
          case measure => simp [intOf]
      · have HE := Lib.hid (zAt_none (pre_none (j := 3) (by omega) HO.out (by rw [HL.out]; omega)))
        go_wp2
        go_ret3
        exact at_bad HE.out hbel
    · have HZ := Lib.hid (pre_four HO.out (by rw [HL.out]; omega))
      simp only [Int.natCast_add, Int.cast_ofNat_Int]
      have hbelT := hbel
      have hszT := hbelT.size
      by_cases hs : a + 4 + 59 ≤ 8 * n
      · go_wp2
        go_loopw [10, 11] (fun x i wr => ∃ q : Nat, q ≤ 59 ∧ i = .int .i64 q ∧ x = .int .i64 (fldOf l (a + 4) q) ∧ Below w.heap.size w wr) (fun _ i _ => 59 - (intOf i).toNat)
        case atStart => exact ⟨0, Nat.zero_le _, rfl, rfl, hbelT.alloc hszT _⟩
        case round =>
          obtain ⟨q, hq, rfl, rfl, hbelQ⟩ := hrel
          have hszQ := hbelQ.size
          by_cases hlq : q < 59
          · have hbd := fldOf_bd l (a + 4) q
            have hp := pow_le (j := q) (k := 59) (by omega)
            have hq01 := bitOf_01 l (a + 4 + q)
            go_wp2_with fail
            refine (ref_bitAtI l A n c (a + 4 + q) _ wr w.heap.size (by go_num) (hb.below hbelQ) HR.out hn (by omega)).mono ?_
            rintro e w6 ⟨rfl, hb6⟩
            go_wp2
            go_roundw
            case rel => exact ⟨q + 1, by omega, by go_num, rfl, hbelQ.trans (hb6.mono hszQ)⟩
            case measure => simp [intOf]; omega
          · obtain rfl : q = 59 := by omega
            have hbd := fldOf_bd l (a + 4) 59
            have hp := pow_le (j := 59) (k := 59) (by omega)
            by_cases hf : fldOf l (a + 4) 59 < 16777216
            · have HE := Lib.hid (zAt_form HZ.out (by rw [HL.out]; exact hs) ⟨by decide, by rw [show zwid 4 = 59 from rfl]; exact hf⟩)
              go_wp2
              go_ret3
              exact at_bad HE.out (hbelQ.alloc hszQ _)
            · have HE := Lib.hid (zAt_ok HZ.out (by rw [HL.out]; exact hs) (fun h => hf (by have := h.2; rw [show zwid 4 = 59 from rfl] at this; exact this)))
              rw [show zwid 4 = 59 from rfl] at HE
              go_wp2_with fail
              refine (ref_ZigUnfoldS (fldOf l (a + 4) 59) _ ⟨hbd.1, by omega⟩).mono ?_
              rintro e w4 ⟨⟨u, rfl, HU, u0, u1⟩, rfl⟩
              go_wp2
              go_ret3
              unfold AtPost
              rw [HE.out]
              dsimp only
              refine ⟨ret_three ?_ (val_int (by go_num)) rfl, hbelQ.alloc hszQ _⟩
              rw [← HU.out]
              rfl
      · have HE := Lib.hid (zAt_end HZ.out (by rw [HL.out]; exact hs))
        go_wp2
        go_ret3
        exact at_bad HE.out (hbelT.alloc hszT _)

theorem ref_zigAtI (l : List Int) (A : Option Addr) (n c a : Nat) (a' : Int) (w : World) (he : a' = a) (hb : RI w w.heap.size .u8 A n l) (hr : ∀ x ∈ l, 0 ≤ x ∧ x < 256) (hn : n ≤ 140737488351232) (ha : a ≤ 8 * n) :
    Calls Tryd.prog 33 #[.slice A n c, .int .i64 a'] w fun e w' => (∃ x s k : Int, e = .returned (.tuple #[.int .i64 x, .int .i64 s, .int .i64 k]) ∧ Hid (x = (zAt l a).1) ∧ s = (zAt l a).2.1 ∧ k = (zAt l a).2.2) ∧ Below w.heap.size w w' := by
  subst he
  refine (ref_zigAt l A n c a w hb hr hn ha).mono ?_
  rintro e w' ⟨rfl, h⟩
  exact ⟨⟨_, _, _, rfl, rfl, rfl, rfl⟩, h⟩
end Go.Proofs.YtekojlepmfmmpaaDoor
