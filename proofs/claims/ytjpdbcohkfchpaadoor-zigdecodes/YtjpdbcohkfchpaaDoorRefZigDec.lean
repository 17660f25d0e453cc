/- What the document's answer to Decode does. No statement of the seat is proved here; no condition. -/
import Derived.Test.YtjpdbcohkfchpaaDoorRefZig1
import Derived.Test.YtjpdbcohkfchpaaDoorRefBit
import Derived.Test.YtjpdbcohkfchpaaDoorZigDecPure
set_option linter.unusedSimpArgs false
set_option linter.unusedVariables false
namespace Go.Proofs.YtjpdbcohkfchpaaDoor
open Go.RowKit Go.Ord Go.Baro

theorem ref_ZigUnfoldS (n : Int) (w : World) (h : 0 ≤ n ∧ n < 576460752303423488) :
    Calls Tryd.prog 37 #[.int .i64 n] w fun e w' => (∃ f, e = .returned (.tuple #[.int .i64 f, .int .i64 0]) ∧ Hid (f = zunf n) ∧ -288230376151711744 ≤ f ∧ f < 288230376151711744) ∧ w = w' := by
  refine (ref_ZigUnfold n w (by omega) (by omega)).mono ?_
  rintro e w' ⟨rfl, rfl⟩
  have h1 := u_in h.1 h.2
  have h2 := zunf_small h.1 h.2
  exact ⟨⟨zunf n, by rw [h1.1, h1.2], rfl, h2.1, h2.2⟩, rfl⟩

theorem ref_bitAtI (l : List Int) (A : Option Addr) (n c i : Nat) (i' : Int) (w : World) (B : Nat) (he : i' = i) (hb : RI w B .u8 A n l) (hr : ∀ x ∈ l, 0 ≤ x ∧ x < 256) (hn : n ≤ 140737488351232) (h1 : i < 8 * n) :
    Calls Tryd.prog 36 #[.slice A n c, .int .i64 i'] w fun e w' => e = .returned (.int .i64 (bitOf l i)) ∧ Below w.heap.size w w' := by
  subst he
  refine (ref_bitAt l A n c i w B hb hr (by omega) (by omega) (by omega)).mono ?_
  rintro e w' ⟨rfl, m, rfl⟩
  exact ⟨rfl, (Below.refl _ _).drewN m⟩

/-- What zigAt leaves. -/
def AtPost (l : List Int) (a : Nat) (w : World) (e : Ending) (w' : World) : Prop := e = .returned (.tuple #[.int .i64 (zAt l a).1, .int .i64 (zAt l a).2.1, .int .i64 (zAt l a).2.2]) ∧ Below w.heap.size w w'
theorem at_bad {l : List Int} {a : Nat} {w w' : World} {e : Int} (h : zAt l a = (0, 0, e)) (hb : Below w.heap.size w w') : AtPost l a w (.returned (.tuple #[.int .i64 0, .int .i64 0, .int .i64 e])) w' := by
  unfold AtPost
  rw [h]
  exact ⟨rfl, hb⟩

set_option maxHeartbeats 2000000 in
theorem ref_zigAt (l : List Int) (A : Option Addr) (n c a : Nat) (w : World) (hb : RI w w.heap.size .u8 A n l) (hr : ∀ x ∈ l, 0 ≤ x ∧ x < 256) (hn : n ≤ 140737488351232) (ha : a ≤ 8 * n) :
    Calls Tryd.prog 28 #[.slice A n c, .int .i64 a] w (AtPost l a w) := by
  have HL := Lib.hid hb.len
  have HR := Lib.hid hr
  clear hr
  go_enter Tryd.func28, Tryd.ntmps28
  go_wp2
  go_loopw [1, 7] (fun s i wr => ∃ j : Nat, j ≤ 4 ∧ i = .int .i64 j ∧ s = .int .i64 ↑(a + j) ∧ Hid (∀ q, q < j → bitOf l (a + q) = 1) ∧ a + j ≤ 8 * n ∧ Below w.heap.size w wr) (fun _ i _ => 5 - (intOf i).toNat)
  case atStart => exact ⟨0, by decide, rfl, rfl, fun q hq => absurd hq (by omega), by omega, Below.refl _ _⟩
  case round =>
    obtain ⟨j, hj, rfl, rfl, HO, haj, hbel⟩ := hrel
    have hszw := hbel.size
    rcases (by omega : j = 0 ∨ j = 1 ∨ j = 2 ∨ j = 3 ∨ j = 4) with rfl | rfl | rfl | rfl | rfl
    · by_cases hs0 : a + 0 < 8 * n
      · go_wp2_with fail
        refine (ref_bitAtI l A n c (a + 0) _ wr w.heap.size (by go_num) (hb.below hbel) HR.out hn hs0).mono ?_
        rintro e w5 ⟨rfl, hb5⟩
        have hbelT : Below w.heap.size w w5 := hbel.trans (hb5.mono hszw)
        have hszT := hbelT.size
        clear hb5
        rcases pre_bits (j := 0) (by omega) HO.out with ⟨_, hbit⟩ | ⟨_, hbit⟩
        · have HZ : Hid (zOnes l 4 a 0 = some (0, a + 1)) := pre_hit (j := 0) (by omega) HO.out (by rw [HL.out]; omega) hbit
          rw [hbit]
          go_wp2
          go_loopw [10, 11] (fun x i wr => i = .int .i64 0 ∧ x = .int .i64 0 ∧ Below w.heap.size w wr) (fun _ i _ => 0)
          case atStart => exact ⟨rfl, rfl, hbelT.alloc hszT _⟩
          case round =>
            obtain ⟨rfl, rfl, hbelQ⟩ := hrel
            have HE := Lib.hid (zAt_ok HZ.out (by rw [HL.out]; simp [zwid]; omega) (by simp [zwid]))
            go_wp2_with fail
            refine (ref_ZigUnfoldS 0 _ (by decide)).mono ?_
            rintro e w4 ⟨⟨u, rfl, HU, u0, u1⟩, rfl⟩
            go_wp2
            go_ret3
            unfold AtPost
            rw [HE.out]
            exact ⟨ret_three (val_int HU.out) (val_int (by go_num)) rfl, hbelQ⟩
        · have HM := Lib.hid (ones_more HO.out hbit)
          rw [hbit]
          go_wp2
          go_roundw
          case rel => exact ⟨1, by decide, by go_num, by go_num, HM.out, by omega, hbelT⟩
          case measure => simp [intOf]
      · have HE := Lib.hid (zAt_none (pre_none (j := 0) (by omega) HO.out (by rw [HL.out]; omega)))
        go_wp2
        go_ret3
        exact at_bad HE.out hbel
    · by_cases hs0 : a + 1 < 8 * n
      · go_wp2_with fail
        refine (ref_bitAtI l A n c (a + 1) _ wr w.heap.size (by go_num) (hb.below hbel) HR.out hn hs0).mono ?_
        rintro e w5 ⟨rfl, hb5⟩
        have hbelT : Below w.heap.size w w5 := hbel.trans (hb5.mono hszw)
        have hszT := hbelT.size
        clear hb5
        rcases pre_bits (j := 1) (by omega) HO.out with ⟨_, hbit⟩ | ⟨_, hbit⟩
        · have HZ : Hid (zOnes l 4 a 0 = some (1, a + 2)) := pre_hit (j := 1) (by omega) HO.out (by rw [HL.out]; omega) hbit
          rw [hbit]
          by_cases hs : a + 2 + 6 ≤ 8 * n
          · go_wp2
            go_loopw [10, 11] (fun x i wr => ∃ q : Nat, q ≤ 6 ∧ i = .int .i64 q ∧ x = .int .i64 (fldOf l (a + 2) q) ∧ Below w.heap.size w wr) (fun _ i _ => 6 - (intOf i).toNat)
            case atStart => exact ⟨0, Nat.zero_le _, rfl, rfl, hbelT.alloc hszT _⟩
            case round =>
              obtain ⟨q, hq, rfl, rfl, hbelQ⟩ := hrel
              have hszQ := hbelQ.size
              by_cases hlq : q < 6
              · have hbd := fldOf_bd l (a + 2) q
                have hp := pow_le (j := q) (k := 59) (by omega)
                have hq01 := bitOf_01 l (a + 2 + q)
                go_wp2_with fail
                refine (ref_bitAtI l A n c (a + 2 + q) _ wr w.heap.size (by go_num) (hb.below hbelQ) HR.out hn (by omega)).mono ?_
                rintro e w6 ⟨rfl, hb6⟩
                go_wp2
                go_roundw
                case rel => exact ⟨q + 1, by omega, by go_num, rfl, hbelQ.trans (hb6.mono hszQ)⟩
                case measure => simp [intOf]; omega
              · obtain rfl : q = 6 := by omega
                have hbd := fldOf_bd l (a + 2) 6
                have hp := pow_le (j := 6) (k := 59) (by omega)
                by_cases hf : fldOf l (a + 2) 6 < 1
                · have HE := Lib.hid (zAt_form HZ.out (by rw [HL.out]; exact hs) ⟨by decide, hf⟩)
                  go_wp2
                  go_ret3
                  exact at_bad HE.out (hbelQ.alloc hszQ _)
                · have HE := Lib.hid (zAt_ok HZ.out (by rw [HL.out]; exact hs) (fun h => hf h.2))
                  go_wp2_with fail
                  refine (ref_ZigUnfoldS (fldOf l (a + 2) 6) _ ⟨hbd.1, by omega⟩).mono ?_
                  rintro e w4 ⟨⟨u, rfl, HU, u0, u1⟩, rfl⟩
                  go_wp2
                  go_ret3
                  unfold AtPost
                  rw [HE.out]
                  exact ⟨ret_three (val_int HU.out) (val_int (by go_num)) rfl, hbelQ.alloc hszQ _⟩
          · have HE := Lib.hid (zAt_end HZ.out (by rw [HL.out]; exact hs))
            go_wp2
            go_ret3
            exact at_bad HE.out (hbelT.alloc hszT _)
        · have HM := Lib.hid (ones_more HO.out hbit)
          rw [hbit]
          go_wp2
          go_roundw
          case rel => exact ⟨2, by decide, by go_num, by go_num, HM.out, by omega, hbelT⟩
          case measure => simp [intOf]
      · have HE := Lib.hid (zAt_none (pre_none (j := 1) (by omega) HO.out (by rw [HL.out]; omega)))
        go_wp2
        go_ret3
        exact at_bad HE.out hbel
    · by_cases hs0 : a + 2 < 8 * n
      · go_wp2_with fail
        refine (ref_bitAtI l A n c (a + 2) _ wr w.heap.size (by go_num) (hb.below hbel) HR.out hn hs0).mono ?_
        rintro e w5 ⟨rfl, hb5⟩
        have hbelT : Below w.heap.size w w5 := hbel.trans (hb5.mono hszw)
        have hszT := hbelT.size
        clear hb5
        rcases pre_bits (j := 2) (by omega) HO.out with ⟨_, hbit⟩ | ⟨_, hbit⟩
        · have HZ : Hid (zOnes l 4 a 0 = some (2, a + 3)) := pre_hit (j := 2) (by omega) HO.out (by rw [HL.out]; omega) hbit
          rw [hbit]
          by_cases hs : a + 3 + 12 ≤ 8 * n
          · go_wp2
            go_loopw [10, 11] (fun x i wr => ∃ q : Nat, q ≤ 12 ∧ i = .int .i64 q ∧ x = .int .i64 (fldOf l (a + 3) q) ∧ Below w.heap.size w wr) (fun _ i _ => 12 - (intOf i).toNat)
            case atStart => exact ⟨0, Nat.zero_le _, rfl, rfl, hbelT.alloc hszT _⟩
            case round =>
              obtain ⟨q, hq, rfl, rfl, hbelQ⟩ := hrel
              have hszQ := hbelQ.size
              by_cases hlq : q < 12
              · have hbd := fldOf_bd l (a + 3) q
                have hp := pow_le (j := q) (k := 59) (by omega)
                have hq01 := bitOf_01 l (a + 3 + q)
                go_wp2_with fail
                refine (ref_bitAtI l A n c (a + 3 + q) _ wr w.heap.size (by go_num) (hb.below hbelQ) HR.out hn (by omega)).mono ?_
                rintro e w6 ⟨rfl, hb6⟩
                go_wp2
                go_roundw
                case rel => exact ⟨q + 1, by omega, by go_num, rfl, hbelQ.trans (hb6.mono hszQ)⟩
                case measure => simp [intOf]; omega
              · obtain rfl : q = 12 := by omega
                have hbd := fldOf_bd l (a + 3) 12
                have hp := pow_le (j := 12) (k := 59) (by omega)
                by_cases hf : fldOf l (a + 3) 12 < 64
                · have HE := Lib.hid (zAt_form HZ.out (by rw [HL.out]; exact hs) ⟨by decide, hf⟩)
                  go_wp2
                  go_ret3
                  exact at_bad HE.out (hbelQ.alloc hszQ _)
                · have HE := Lib.hid (zAt_ok HZ.out (by rw [HL.out]; exact hs) (fun h => hf h.2))
                  go_wp2_with fail
                  refine (ref_ZigUnfoldS (fldOf l (a + 3) 12) _ ⟨hbd.1, by omega⟩).mono ?_
                  rintro e w4 ⟨⟨u, rfl, HU, u0, u1⟩, rfl⟩
                  go_wp2
                  go_ret3
                  unfold AtPost
                  rw [HE.out]
                  exact ⟨ret_three (val_int HU.out) (val_int (by go_num)) rfl, hbelQ.alloc hszQ _⟩
          · have HE := Lib.hid (zAt_end HZ.out (by rw [HL.out]; exact hs))
            go_wp2
            go_ret3
            exact at_bad HE.out (hbelT.alloc hszT _)
        · have HM := Lib.hid (ones_more HO.out hbit)
          rw [hbit]
          go_wp2
          go_roundw
          case rel => exact ⟨3, by decide, by go_num, by go_num, HM.out, by omega, hbelT⟩
          case measure => simp [intOf]
      · have HE := Lib.hid (zAt_none (pre_none (j := 2) (by omega) HO.out (by rw [HL.out]; omega)))
        go_wp2
        go_ret3
        exact at_bad HE.out hbel
    · by_cases hs0 : a + 3 < 8 * n
      · go_wp2_with fail
        refine (ref_bitAtI l A n c (a + 3) _ wr w.heap.size (by go_num) (hb.below hbel) HR.out hn hs0).mono ?_
        rintro e w5 ⟨rfl, hb5⟩
        have hbelT : Below w.heap.size w w5 := hbel.trans (hb5.mono hszw)
        have hszT := hbelT.size
        clear hb5
        rcases pre_bits (j := 3) (by omega) HO.out with ⟨_, hbit⟩ | ⟨_, hbit⟩
        · have HZ : Hid (zOnes l 4 a 0 = some (3, a + 4)) := pre_hit (j := 3) (by omega) HO.out (by rw [HL.out]; omega) hbit
          rw [hbit]
          by_cases hs : a + 4 + 24 ≤ 8 * n
          · go_wp2
            go_loopw [10, 11] (fun x i wr => ∃ q : Nat, q ≤ 24 ∧ i = .int .i64 q ∧ x = .int .i64 (fldOf l (a + 4) q) ∧ Below w.heap.size w wr) (fun _ i _ => 24 - (intOf i).toNat)
            case atStart => exact ⟨0, Nat.zero_le _, rfl, rfl, hbelT.alloc hszT _⟩
            case round =>
              obtain ⟨q, hq, rfl, rfl, hbelQ⟩ := hrel
              have hszQ := hbelQ.size
              by_cases hlq : q < 24
              · have hbd := fldOf_bd l (a + 4) q
                have hp := pow_le (j := q) (k := 59) (by omega)
                have hq01 := bitOf_01 l (a + 4 + q)
                go_wp2_with fail
                refine (ref_bitAtI l A n c (a + 4 + q) _ wr w.heap.size (by go_num) (hb.below hbelQ) HR.out hn (by omega)).mono ?_
                rintro e w6 ⟨rfl, hb6⟩
                go_wp2
                go_roundw
                case rel => exact ⟨q + 1, by omega, by go_num, rfl, hbelQ.trans (hb6.mono hszQ)⟩
                case measure => simp [intOf]; omega
              · obtain rfl : q = 24 := by omega
                have hbd := fldOf_bd l (a + 4) 24
                have hp := pow_le (j := 24) (k := 59) (by omega)
                by_cases hf : fldOf l (a + 4) 24 < 4096
                · have HE := Lib.hid (zAt_form HZ.out (by rw [HL.out]; exact hs) ⟨by decide, hf⟩)
                  go_wp2
                  go_ret3
                  exact at_bad HE.out (hbelQ.alloc hszQ _)
                · have HE := Lib.hid (zAt_ok HZ.out (by rw [HL.out]; exact hs) (fun h => hf h.2))
                  go_wp2_with fail
                  refine (ref_ZigUnfoldS (fldOf l (a + 4) 24) _ ⟨hbd.1, by omega⟩).mono ?_
                  rintro e w4 ⟨⟨u, rfl, HU, u0, u1⟩, rfl⟩
                  go_wp2
                  go_ret3
                  unfold AtPost
                  rw [HE.out]
                  exact ⟨ret_three (val_int HU.out) (val_int (by go_num)) rfl, hbelQ.alloc hszQ _⟩
          · have HE := Lib.hid (zAt_end HZ.out (by rw [HL.out]; exact hs))
            go_wp2
            go_ret3
            exact at_bad HE.out (hbelT.alloc hszT _)
        · have HM := Lib.hid (ones_more HO.out hbit)
          rw [hbit]
          go_wp2
          go_roundw
          case rel => exact ⟨4, by decide, by go_num, by go_num, HM.out, by omega, hbelT⟩
          case measure => simp [intOf]
      · have HE := Lib.hid (zAt_none (pre_none (j := 3) (by omega) HO.out (by rw [HL.out]; omega)))
        go_wp2
        go_ret3
        exact at_bad HE.out hbel
    · have HZ := Lib.hid (pre_four HO.out (by rw [HL.out]; omega))
      simp only [Int.natCast_add, Int.cast_ofNat_Int]
      have hbelT := hbel
      have hszT := hbelT.size
      by_cases hs : a + 4 + 59 ≤ 8 * n
      · go_wp2
        go_loopw [10, 11] (fun x i wr => ∃ q : Nat, q ≤ 59 ∧ i = .int .i64 q ∧ x = .int .i64 (fldOf l (a + 4) q) ∧ Below w.heap.size w wr) (fun _ i _ => 59 - (intOf i).toNat)
        case atStart => exact ⟨0, Nat.zero_le _, rfl, rfl, hbelT.alloc hszT _⟩
        case round =>
          obtain ⟨q, hq, rfl, rfl, hbelQ⟩ := hrel
          have hszQ := hbelQ.size
          by_cases hlq : q < 59
          · have hbd := fldOf_bd l (a + 4) q
            have hp := pow_le (j := q) (k := 59) (by omega)
            have hq01 := bitOf_01 l (a + 4 + q)
            go_wp2_with fail
            refine (ref_bitAtI l A n c (a + 4 + q) _ wr w.heap.size (by go_num) (hb.below hbelQ) HR.out hn (by omega)).mono ?_
            rintro e w6 ⟨rfl, hb6⟩
            go_wp2
            go_roundw
            case rel => exact ⟨q + 1, by omega, by go_num, rfl, hbelQ.trans (hb6.mono hszQ)⟩
            case measure => simp [intOf]; omega
          · obtain rfl : q = 59 := by omega
            have hbd := fldOf_bd l (a + 4) 59
            have hp := pow_le (j := 59) (k := 59) (by omega)
            by_cases hf : fldOf l (a + 4) 59 < 16777216
            · have HE := Lib.hid (zAt_form HZ.out (by rw [HL.out]; exact hs) ⟨by decide, by rw [show zwid 4 = 59 from rfl]; exact hf⟩)
              go_wp2
              go_ret3
              exact at_bad HE.out (hbelQ.alloc hszQ _)
            · have HE := Lib.hid (zAt_ok HZ.out (by rw [HL.out]; exact hs) (fun h => hf (by have := h.2; rw [show zwid 4 = 59 from rfl] at this; exact this)))
              rw [show zwid 4 = 59 from rfl] at HE
              go_wp2_with fail
              refine (ref_ZigUnfoldS (fldOf l (a + 4) 59) _ ⟨hbd.1, by omega⟩).mono ?_
              rintro e w4 ⟨⟨u, rfl, HU, u0, u1⟩, rfl⟩
              go_wp2
              go_ret3
              unfold AtPost
              rw [HE.out]
              dsimp only
              refine ⟨ret_three ?_ (val_int (by go_num)) rfl, hbelQ.alloc hszQ _⟩
              rw [← HU.out]
              rfl
      · have HE := Lib.hid (zAt_end HZ.out (by rw [HL.out]; exact hs))
        go_wp2
        go_ret3
        exact at_bad HE.out (hbelT.alloc hszT _)

/-- What Decode leaves. -/
def DecPostR (l : List Int) (k : Int) (w : World) (e : Ending) (w' : World) : Prop :=
  ∃ v, e = .returned (.tuple #[v, .int .i64 (dcC l k)]) ∧ w'.ownsRow w.heap.size 3 1 v (dcY l k).length ((dcY l k).map (Value.int .i64)) ∧ Below w.heap.size w w'
theorem dec_badR {l : List Int} {k e : Int} {w w' : World} (h : dcC l k = e) (he : e ≠ 0) (hb : Below w.heap.size w w') : DecPostR l k w (.returned (.tuple #[.slice none 0 0, .int .i64 e])) w' := by
  have hy : dcY l k = [] := by
    unfold dcY
    split
    · rename_i hk
      apply decL_err
      rw [dcC, if_pos hk] at h
      rw [h]; exact he
    · rfl
  refine ⟨_, by rw [h], ?_, hb⟩
  rw [hy]
  exact World.ownsRow_nil _ _ _ _

theorem ref_zigAtI (l : List Int) (A : Option Addr) (n c a : Nat) (a' : Int) (w : World) (he : a' = a) (hb : RI w w.heap.size .u8 A n l) (hr : ∀ x ∈ l, 0 ≤ x ∧ x < 256) (hn : n ≤ 140737488351232) (ha : a ≤ 8 * n) :
    Calls Tryd.prog 28 #[.slice A n c, .int .i64 a'] w fun e w' => (∃ x s k : Int, e = .returned (.tuple #[.int .i64 x, .int .i64 s, .int .i64 k]) ∧ Hid (x = (zAt l a).1) ∧ s = (zAt l a).2.1 ∧ k = (zAt l a).2.2) ∧ Below w.heap.size w w' := by
  subst he
  refine (ref_zigAt l A n c a w hb hr hn ha).mono ?_
  rintro e w' ⟨rfl, h⟩
  exact ⟨⟨_, _, _, rfl, rfl, rfl, rfl⟩, h⟩

set_option maxHeartbeats 2000000 in
theorem ref_ZigDecoded (l : List Int) (A : Option Addr) (n c : Nat) (k : Int) (w : World) (hb : RI w w.heap.size .u8 A n l) (hr : ∀ x ∈ l, 0 ≤ x ∧ x < 256) (hn : n ≤ 140737488351232) :
    Calls Tryd.prog 14 #[.slice A n c, .int .i64 k] w (DecPostR l k w) := by
  have HL := Lib.hid hb.len
  have HR := Lib.hid hr
  clear hr
  by_cases hk : k < 0
  · have HE := Lib.hid (show dcC l k = 2 from if_neg (by omega))
    go_enter Tryd.func14, Tryd.ntmps14
    go_wp2
    go_ret2
    exact dec_badR HE.out (by decide) (Below.refl _ _)
  by_cases hk2 : 240 < k
  · have HE := Lib.hid (show dcC l k = 2 from if_neg (by omega))
    go_enter Tryd.func14, Tryd.ntmps14
    go_wp2
    go_ret2
    exact dec_badR HE.out (by decide) (Below.refl _ _)
  obtain ⟨m, rfl⟩ := Int.eq_ofNat_of_zero_le (show 0 ≤ k by omega)
  have HE := Lib.hid (show dcC l (m : Int) = (decL l m 0).2 ∧ dcY l (m : Int) = (decL l m 0).1 from ⟨by rw [dcC, if_pos (by omega), Int.toNat_natCast], by rw [dcY, if_pos (by omega), Int.toNat_natCast]⟩)
  have hm : m ≤ 240 := by omega
  clear hk hk2
  go_enter Tryd.func14, Tryd.ntmps14
  go_wp2
  go_loopw [6, 7, 8] (fun s v i wr => ∃ (j a : Nat) (out : List Int), j ≤ m ∧ i = .int .i64 j ∧ s = .int .i64 a ∧ a ≤ 8 * n ∧ Hid (out.length = j) ∧ Hid (decR out (decL l (m - j) a) = decL l m 0) ∧
      wr.ownsRow w.heap.size 3 1 v j (out.map (Value.int .i64)) ∧ Below w.heap.size w wr) (fun _ _ i _ => m - (intOf i).toNat)
  case atStart =>
    refine ⟨0, 0, [], Nat.zero_le _, rfl, rfl, by omega, rfl, ?_, World.ownsRow_nil _ _ _ _, Below.refl _ _⟩
    show decR [] (decL l m 0) = decL l m 0
    unfold decR
    split
    · rename_i h; rw [← h]; rfl
    · rename_i h; rw [← decL_err l m 0 h]
  case round =>
    obtain ⟨j, a, out, hj, rfl, rfl, ha, HO, HD, hown', hbel⟩ := hrel
    have hsz := hbel.size
    by_cases hlt2 : j < m
    · go_wp2_with fail
      refine (ref_zigAtI l A n c a _ _ rfl ((hb.below hbel).more hsz) HR.out hn ha).mono ?_
      rintro e w2 ⟨⟨x, s, k, rfl, HX, hs, hk⟩, hb2⟩
      have hown2 := own_below hown' hb2
      have hbel2 : Below w.heap.size w w2 := hbel.trans (hb2.mono hsz)
      clear hb2
      by_cases hz : (zAt l a).2.2 = 0
      · have hzl := zAt_lt hz
        rw [HL.out] at hzl
        have HZ := Lib.hid hz
        have hz2 := hzl.2.1
        obtain rfl : k = 0 := by rw [hk, hz]
        clear hz hzl hk
        go_wp2_with (at_builtin; go_must (refine app_lit eltInt _ rfl _ _ rfl w.heap.size _ _ _ rfl (by exact hown2) 1 [_] _ rfl rfl rfl (one1 _ _) (by omega) (by omega) (by exact hbel2.size) ?_); intro v' w3 hown3 _ hbel3 _)
        go_roundw
        case rel =>
          refine ⟨j + 1, (zAt l a).2.1, out ++ [x], by omega, by go_num, rfl, hz2, ?_, ?_, ?_, hbel3 _ hbel2⟩
          · show _ = _
            rw [List.length_append, HO.out]; rfl
          · show _ = _
            rw [← HD.out, show m - j = (m - (j + 1)) + 1 by omega, decR_step l out _ a HZ.out, HX.out]
          · rw [List.map_append]
            exact hown3
        case measure => simp [intOf]; omega
      · have hk0 : (k != 0) = true := by simp [hk, hz]
        have HZ := Lib.hid hz
        have HKK := Lib.hid hk
        clear hz hk
        go_wp2
        go_ret2
        have hd := HD.out
        rw [show m - j = (m - (j + 1)) + 1 by omega, decR_err l out _ a HZ.out] at hd
        exact dec_badR (by rw [HE.out.1, ← hd, HKK.out]) (by rw [HKK.out]; exact HZ.out) hbel2
    · obtain rfl : j = m := by omega
      go_wp2
      go_ret2
      have hd := HD.out
      rw [Nat.sub_self, decR_done] at hd
      refine ⟨_, ret_two rfl (val_int (by rw [HE.out.1, ← hd])), ?_, hbel⟩
      rw [HE.out.2, ← hd]
      dsimp only
      rw [HO.out]
      exact hown'
end Go.Proofs.YtjpdbcohkfchpaaDoor
