/- What readPrefix does. No statement of the seat is proved here; no condition. -/
import Derived.Test.YtekojlepmfmmpaaDoorZigDec
import Derived.Laws.ResultCell
set_option linter.unusedSimpArgs false
set_option linter.unusedVariables false
namespace Go.Baro
open Go.RowKit
theorem Box.below {w w' : World} {b B : Nat} {t : TypeId} {cs : List Value} (h : Box w b t cs) (hb : Below B w w') (hB : b < B) : Box w' b t cs := (hb.block b hB).trans h
theorem Box.frozen {w : World} {b : Nat} {t : TypeId} {cs : List Value} (h : Box w b t cs) (i : Nat) : w.frozen? ⟨b, i, none⟩ = false := frozen_of_row w b i _ t h
theorem Box.set {w : World} {b : Nat} {t : TypeId} {cs : List Value} (h : Box w b t cs) (i : Nat) (u : Value) : Box (w.setCell ⟨b, i, none⟩ u) b t (cs.set i u) := by
  unfold Box
  rw [heap_setCell_same w b i _ t u h]
  simp
theorem Box.three {w : World} {b : Nat} {t : TypeId} {p q r : Value} (h : Box w b t [p, q, r]) (u0 u1 u2 : Value) : Box (((w.setCell ⟨b, 0, none⟩ u0).setCell ⟨b, 1, none⟩ u1).setCell ⟨b, 2, none⟩ u2) b t [u0, u1, u2] :=
  ((h.set 0 u0).set 1 u1).set 2 u2
end Go.Baro
namespace Go.Proofs.YtekojlepmfmmpaaDoor
open Go.RowKit Go.Ord Go.Baro

theorem results_row_tmp {P : Program} {fn : Func} {p u : Tmp} {ty : TypeId} (h : fn.results = #[.cell p ty, .tmp u]) (tmps : Array Value) (w : World) (g : Nat) (t : TypeId) (cs : Array Value) (fr : Nat × Nat) (d : TypeDesc)
    (hp : tmps.getD p undef = .pointer (some ⟨g, 0, none⟩)) (hg : w.heap[g]? = some (.cells cs t fr))
    (hu : P.underlying ty = some d) (hd : (match d with | .struct _ | .array _ _ => true | _ => false) = true) (hi : (P.info? ty).map (·.size) = some cs.size) :
    (results fn tmps).run P w = .ok (.tuple #[.agg cs, tmps.getD u undef]) w := by
  rw [results_cell_tmp h, hp]
  simp [asAddr, run_loadVar_row w g t ty cs fr d hg hu hd hi, Result.andThen]

theorem tab_ix0 (W : World) : (Instr.index 78 (.agg #[.int .i64 1, .int .i64 0, .int .i64 0, .int .i64 2, .int .i64 2, .int .i64 6, .int .i64 3, .int .i64 6, .int .i64 12, .int .i64 4, .int .i64 14, .int .i64 24, .int .i64 4, .int .i64 15, .int .i64 59]) (.int .i64 0)).run Tryd.prog W = .ok (.agg #[.int .i64 1, .int .i64 0, .int .i64 0]) W := by kernel_rfl
theorem tab_ix1 (W : World) : (Instr.index 78 (.agg #[.int .i64 1, .int .i64 0, .int .i64 0, .int .i64 2, .int .i64 2, .int .i64 6, .int .i64 3, .int .i64 6, .int .i64 12, .int .i64 4, .int .i64 14, .int .i64 24, .int .i64 4, .int .i64 15, .int .i64 59]) (.int .i64 1)).run Tryd.prog W = .ok (.agg #[.int .i64 2, .int .i64 2, .int .i64 6]) W := by kernel_rfl
theorem tab_ix2 (W : World) : (Instr.index 78 (.agg #[.int .i64 1, .int .i64 0, .int .i64 0, .int .i64 2, .int .i64 2, .int .i64 6, .int .i64 3, .int .i64 6, .int .i64 12, .int .i64 4, .int .i64 14, .int .i64 24, .int .i64 4, .int .i64 15, .int .i64 59]) (.int .i64 2)).run Tryd.prog W = .ok (.agg #[.int .i64 3, .int .i64 6, .int .i64 12]) W := by kernel_rfl
theorem tab_ix3 (W : World) : (Instr.index 78 (.agg #[.int .i64 1, .int .i64 0, .int .i64 0, .int .i64 2, .int .i64 2, .int .i64 6, .int .i64 3, .int .i64 6, .int .i64 12, .int .i64 4, .int .i64 14, .int .i64 24, .int .i64 4, .int .i64 15, .int .i64 59]) (.int .i64 3)).run Tryd.prog W = .ok (.agg #[.int .i64 4, .int .i64 14, .int .i64 24]) W := by kernel_rfl
theorem tab_ix4 (W : World) : (Instr.index 78 (.agg #[.int .i64 1, .int .i64 0, .int .i64 0, .int .i64 2, .int .i64 2, .int .i64 6, .int .i64 3, .int .i64 6, .int .i64 12, .int .i64 4, .int .i64 14, .int .i64 24, .int .i64 4, .int .i64 15, .int .i64 59]) (.int .i64 4)).run Tryd.prog W = .ok (.agg #[.int .i64 4, .int .i64 15, .int .i64 59]) W := by kernel_rfl

/-- What readPrefix leaves. -/
def PrePost (l : List Int) (n a : Nat) (w : World) (e : Ending) (w' : World) : Prop := (match zOnes l 4 a 0 with
  | none => e = .returned (.tuple #[.agg #[.int .i64 0, .int .i64 0, .int .i64 0], .int .i64 5])
  | some (k, b) => b = a + zlen k ∧ b ≤ 8 * n ∧ k ≤ 4 ∧ e = .returned (.tuple #[preV k, .int .i64 0])) ∧ Below w.heap.size w w'

set_option maxHeartbeats 1000000 in
theorem zig_readPrefix (l : List Int) (A : Option Addr) (n c a : Nat) (w : World) (hT : Tab w) (hb : RI w w.heap.size .u8 A n l) (hr : ∀ x ∈ l, 0 ≤ x ∧ x < 256) (hn : n ≤ 140737488355328) (hnc : n ≤ c)
    (ha : a ≤ 8 * n) :
    Calls Tryd.prog 54 #[.slice A n c, .int .i64 a] w (PrePost l n a w) := by
  have HL := Lib.hid hb.len
  have hlt := hT.lt
  have HR := Lib.hid hr
  clear hr
  have t0 := hT 0 _ rfl
  have t1 := hT 1 _ rfl
  have t2 := hT 2 _ rfl
  have t3 := hT 3 _ rfl
  have t4 := hT 4 _ rfl
  have t5 := hT 5 _ rfl
  have t6 := hT 6 _ rfl
  have t7 := hT 7 _ rfl
  have t8 := hT 8 _ rfl
  have t9 := hT 9 _ rfl
  have t10 := hT 10 _ rfl
  have t11 := hT 11 _ rfl
  have t12 := hT 12 _ rfl
  have t13 := hT 13 _ rfl
  have t14 := hT 14 _ rfl
  go_enter Tryd.func54, Tryd.ntmps54
  go_wp2
  clear t0 t1 t2 t3 t4 t5 t6 t7 t8 t9 t10 t11 t12 t13 t14
  go_loopw [11] (fun i wr => ∃ j : Nat, j ≤ 4 ∧ i = .int .i64 j ∧ Hid (∀ q, q < j → bitOf l (a + q) = 1) ∧ a + j ≤ 8 * n ∧ Box wr w.heap.size 70 [.int .i64 0, .int .i64 0, .int .i64 0] ∧ Below w.heap.size w wr) (fun i _ => 5 - (intOf i).toNat)
  case atStart => exact ⟨0, by decide, rfl, fun q hq => absurd hq (by omega), by omega, Box.new w _ _, (Below.refl _ _).alloc (Nat.le_refl _) _⟩
  case round =>
    obtain ⟨j, hj, rfl, HO, haj, hbox, hbel⟩ := hrel
    have hsz := hbel.size
    have hbl := hbox.lt
    have hb' : RI wr wr.heap.size .u8 A n l := (hb.below hbel).more hsz
    rcases (by omega : j = 0 ∨ j = 1 ∨ j = 2 ∨ j = 3 ∨ j = 4) with rfl | rfl | rfl | rfl | rfl
    · have hix := tab_ix0 wr
      go_wp2_with fail
      by_cases hs : a + 1 ≤ 8 * n
      · refine (zig_readOk l A n c a 1 _ (hb'.below ((Below.refl _ _).alloc (Nat.le_refl _) _) |>.more (by simp)) HR.out (by omega) hnc (by omega) hs).mono ?_
        rintro e w1 ⟨rfl, hb1⟩
        have hbx : Box w1 w.heap.size 70 [.int .i64 0, .int .i64 0, .int .i64 0] := Box.below (hbox.alloc _) hb1 (by simp; omega)
        have hpx : Box w1 wr.heap.size 70 [.int .i64 1, .int .i64 0, .int .i64 0] := Box.below (Box.new wr _ _) hb1 (by simp)
        have hbelA : Below w.heap.size w w1 := (hbel.alloc hsz _).trans (hb1.mono (by simp; omega))
        have p0 := hpx.cell 0
        have p1 := hpx.cell 1
        have p2 := hpx.cell 2
        have r0 := hbx.cell 0
        have r1 := hbx.cell 1
        have r2 := hbx.cell 2
        have z0 := hbx.frozen 0
        have z1 := hbx.frozen 1
        have z2 := hbx.frozen 2
        clear hpx hix
        rcases pre_bits (j := 0) (by omega) HO.out with ⟨hf, hbit⟩ | ⟨hf, hbit⟩
        · have HZ := Lib.hid (pre_hit (j := 0) (by omega) HO.out (by rw [HL.out]; omega) hbit)
          have hv : (fldOf l a 1 == 0) = true := by rw [hf]; decide
          go_wp2
          refine bodyPost_ret (results_row_tmp rfl _ _ w.heap.size _ _ _ _ rfl (hbx.three (.int .i64 1) (.int .i64 0) (.int .i64 0)) Tryd.underlying70 rfl (by kernel_rfl)) rfl ?_
          unfold PrePost; rw [HZ.out]
          exact ⟨⟨rfl, by omega, by decide, rfl⟩, ((hbelA.setCell (Nat.le_refl _) _).setCell (Nat.le_refl _) _).setCell (Nat.le_refl _) _⟩
        · have hv : (fldOf l a 1 == 0) = false := by rw [hf]; decide
          have HM := Lib.hid (ones_more HO.out hbit)
          clear hf hbit
          go_wp2
          go_roundw
          case rel => exact ⟨1, by decide, by go_num, HM.out, by omega, hbx, hbelA⟩
          case measure => simp [intOf]
      · have HZ := Lib.hid (pre_none (j := 0) (by omega) HO.out (by rw [HL.out]; omega))
        refine (zig_readShort l A n c a 1 _ (hb'.below ((Below.refl _ _).alloc (Nat.le_refl _) _) |>.more (by simp)) HR.out (by omega) hnc ha (by omega) hs).mono ?_
        rintro e w1 ⟨rfl, hb1⟩
        have hbx : Box w1 w.heap.size 70 [.int .i64 0, .int .i64 0, .int .i64 0] := Box.below (hbox.alloc _) hb1 (by simp; omega)
        have hpx : Box w1 wr.heap.size 70 [.int .i64 1, .int .i64 0, .int .i64 0] := Box.below (Box.new wr _ _) hb1 (by simp)
        have hbelA : Below w.heap.size w w1 := (hbel.alloc hsz _).trans (hb1.mono (by simp; omega))
        have p0 := hpx.cell 0
        have p1 := hpx.cell 1
        have p2 := hpx.cell 2
        have r0 := hbx.cell 0
        have r1 := hbx.cell 1
        have r2 := hbx.cell 2
        have z0 := hbx.frozen 0
        have z1 := hbx.frozen 1
        have z2 := hbx.frozen 2
        clear hpx hix
        go_wp2
        refine bodyPost_ret (results_row_tmp rfl _ _ w.heap.size _ _ _ _ rfl (hbx.three (.int .i64 0) (.int .i64 0) (.int .i64 0)) Tryd.underlying70 rfl (by kernel_rfl)) rfl ?_
        unfold PrePost; rw [HZ.out]
        exact ⟨rfl, ((hbelA.setCell (Nat.le_refl _) _).setCell (Nat.le_refl _) _).setCell (Nat.le_refl _) _⟩
    · have hix := tab_ix1 wr
      go_wp2_with fail
      by_cases hs : a + 2 ≤ 8 * n
      · refine (zig_readOk l A n c a 2 _ (hb'.below ((Below.refl _ _).alloc (Nat.le_refl _) _) |>.more (by simp)) HR.out (by omega) hnc (by omega) hs).mono ?_
        rintro e w1 ⟨rfl, hb1⟩
        have hbx : Box w1 w.heap.size 70 [.int .i64 0, .int .i64 0, .int .i64 0] := Box.below (hbox.alloc _) hb1 (by simp; omega)
        have hpx : Box w1 wr.heap.size 70 [.int .i64 2, .int .i64 2, .int .i64 6] := Box.below (Box.new wr _ _) hb1 (by simp)
        have hbelA : Below w.heap.size w w1 := (hbel.alloc hsz _).trans (hb1.mono (by simp; omega))
        have p0 := hpx.cell 0
        have p1 := hpx.cell 1
        have p2 := hpx.cell 2
        have r0 := hbx.cell 0
        have r1 := hbx.cell 1
        have r2 := hbx.cell 2
        have z0 := hbx.frozen 0
        have z1 := hbx.frozen 1
        have z2 := hbx.frozen 2
        clear hpx hix
        rcases pre_bits (j := 1) (by omega) HO.out with ⟨hf, hbit⟩ | ⟨hf, hbit⟩
        · have HZ := Lib.hid (pre_hit (j := 1) (by omega) HO.out (by rw [HL.out]; omega) hbit)
          have hv : (fldOf l a 2 == 2) = true := by rw [hf]; decide
          go_wp2
          refine bodyPost_ret (results_row_tmp rfl _ _ w.heap.size _ _ _ _ rfl (hbx.three (.int .i64 2) (.int .i64 2) (.int .i64 6)) Tryd.underlying70 rfl (by kernel_rfl)) rfl ?_
          unfold PrePost; rw [HZ.out]
          exact ⟨⟨rfl, by omega, by decide, rfl⟩, ((hbelA.setCell (Nat.le_refl _) _).setCell (Nat.le_refl _) _).setCell (Nat.le_refl _) _⟩
        · have hv : (fldOf l a 2 == 2) = false := by rw [hf]; decide
          have HM := Lib.hid (ones_more HO.out hbit)
          clear hf hbit
          go_wp2
          go_roundw
          case rel => exact ⟨2, by decide, by go_num, HM.out, by omega, hbx, hbelA⟩
          case measure => simp [intOf]
      · have HZ := Lib.hid (pre_none (j := 1) (by omega) HO.out (by rw [HL.out]; omega))
        refine (zig_readShort l A n c a 2 _ (hb'.below ((Below.refl _ _).alloc (Nat.le_refl _) _) |>.more (by simp)) HR.out (by omega) hnc ha (by omega) hs).mono ?_
        rintro e w1 ⟨rfl, hb1⟩
        have hbx : Box w1 w.heap.size 70 [.int .i64 0, .int .i64 0, .int .i64 0] := Box.below (hbox.alloc _) hb1 (by simp; omega)
        have hpx : Box w1 wr.heap.size 70 [.int .i64 2, .int .i64 2, .int .i64 6] := Box.below (Box.new wr _ _) hb1 (by simp)
        have hbelA : Below w.heap.size w w1 := (hbel.alloc hsz _).trans (hb1.mono (by simp; omega))
        have p0 := hpx.cell 0
        have p1 := hpx.cell 1
        have p2 := hpx.cell 2
        have r0 := hbx.cell 0
        have r1 := hbx.cell 1
        have r2 := hbx.cell 2
        have z0 := hbx.frozen 0
        have z1 := hbx.frozen 1
        have z2 := hbx.frozen 2
        clear hpx hix
        go_wp2
        refine bodyPost_ret (results_row_tmp rfl _ _ w.heap.size _ _ _ _ rfl (hbx.three (.int .i64 0) (.int .i64 0) (.int .i64 0)) Tryd.underlying70 rfl (by kernel_rfl)) rfl ?_
        unfold PrePost; rw [HZ.out]
        exact ⟨rfl, ((hbelA.setCell (Nat.le_refl _) _).setCell (Nat.le_refl _) _).setCell (Nat.le_refl _) _⟩
    · have hix := tab_ix2 wr
      go_wp2_with fail
      by_cases hs : a + 3 ≤ 8 * n
      · refine (zig_readOk l A n c a 3 _ (hb'.below ((Below.refl _ _).alloc (Nat.le_refl _) _) |>.more (by simp)) HR.out (by omega) hnc (by omega) hs).mono ?_
        rintro e w1 ⟨rfl, hb1⟩
        have hbx : Box w1 w.heap.size 70 [.int .i64 0, .int .i64 0, .int .i64 0] := Box.below (hbox.alloc _) hb1 (by simp; omega)
        have hpx : Box w1 wr.heap.size 70 [.int .i64 3, .int .i64 6, .int .i64 12] := Box.below (Box.new wr _ _) hb1 (by simp)
        have hbelA : Below w.heap.size w w1 := (hbel.alloc hsz _).trans (hb1.mono (by simp; omega))
        have p0 := hpx.cell 0
        have p1 := hpx.cell 1
        have p2 := hpx.cell 2
        have r0 := hbx.cell 0
        have r1 := hbx.cell 1
        have r2 := hbx.cell 2
        have z0 := hbx.frozen 0
        have z1 := hbx.frozen 1
        have z2 := hbx.frozen 2
        clear hpx hix
        rcases pre_bits (j := 2) (by omega) HO.out with ⟨hf, hbit⟩ | ⟨hf, hbit⟩
        · have HZ := Lib.hid (pre_hit (j := 2) (by omega) HO.out (by rw [HL.out]; omega) hbit)
          have hv : (fldOf l a 3 == 6) = true := by rw [hf]; decide
          go_wp2
          refine bodyPost_ret (results_row_tmp rfl _ _ w.heap.size _ _ _ _ rfl (hbx.three (.int .i64 3) (.int .i64 6) (.int .i64 12)) Tryd.underlying70 rfl (by kernel_rfl)) rfl ?_
          unfold PrePost; rw [HZ.out]
          exact ⟨⟨rfl, by omega, by decide, rfl⟩, ((hbelA.setCell (Nat.le_refl _) _).setCell (Nat.le_refl _) _).setCell (Nat.le_refl _) _⟩
        · have hv : (fldOf l a 3 == 6) = false := by rw [hf]; decide
          have HM := Lib.hid (ones_more HO.out hbit)
          clear hf hbit
          go_wp2
          go_roundw
          case rel => exact ⟨3, by decide, by go_num, HM.out, by omega, hbx, hbelA⟩
          case measure => simp [intOf]
      · have HZ := Lib.hid (pre_none (j := 2) (by omega) HO.out (by rw [HL.out]; omega))
        refine (zig_readShort l A n c a 3 _ (hb'.below ((Below.refl _ _).alloc (Nat.le_refl _) _) |>.more (by simp)) HR.out (by omega) hnc ha (by omega) hs).mono ?_
        rintro e w1 ⟨rfl, hb1⟩
        have hbx : Box w1 w.heap.size 70 [.int .i64 0, .int .i64 0, .int .i64 0] := Box.below (hbox.alloc _) hb1 (by simp; omega)
        have hpx : Box w1 wr.heap.size 70 [.int .i64 3, .int .i64 6, .int .i64 12] := Box.below (Box.new wr _ _) hb1 (by simp)
        have hbelA : Below w.heap.size w w1 := (hbel.alloc hsz _).trans (hb1.mono (by simp; omega))
        have p0 := hpx.cell 0
        have p1 := hpx.cell 1
        have p2 := hpx.cell 2
        have r0 := hbx.cell 0
        have r1 := hbx.cell 1
        have r2 := hbx.cell 2
        have z0 := hbx.frozen 0
        have z1 := hbx.frozen 1
        have z2 := hbx.frozen 2
        clear hpx hix
        go_wp2
        refine bodyPost_ret (results_row_tmp rfl _ _ w.heap.size _ _ _ _ rfl (hbx.three (.int .i64 0) (.int .i64 0) (.int .i64 0)) Tryd.underlying70 rfl (by kernel_rfl)) rfl ?_
        unfold PrePost; rw [HZ.out]
        exact ⟨rfl, ((hbelA.setCell (Nat.le_refl _) _).setCell (Nat.le_refl _) _).setCell (Nat.le_refl _) _⟩
    · have hix := tab_ix3 wr
      go_wp2_with fail
      by_cases hs : a + 4 ≤ 8 * n
      · refine (zig_readOk l A n c a 4 _ (hb'.below ((Below.refl _ _).alloc (Nat.le_refl _) _) |>.more (by simp)) HR.out (by omega) hnc (by omega) hs).mono ?_
        rintro e w1 ⟨rfl, hb1⟩
        have hbx : Box w1 w.heap.size 70 [.int .i64 0, .int .i64 0, .int .i64 0] := Box.below (hbox.alloc _) hb1 (by simp; omega)
        have hpx : Box w1 wr.heap.size 70 [.int .i64 4, .int .i64 14, .int .i64 24] := Box.below (Box.new wr _ _) hb1 (by simp)
        have hbelA : Below w.heap.size w w1 := (hbel.alloc hsz _).trans (hb1.mono (by simp; omega))
        have p0 := hpx.cell 0
        have p1 := hpx.cell 1
        have p2 := hpx.cell 2
        have r0 := hbx.cell 0
        have r1 := hbx.cell 1
        have r2 := hbx.cell 2
        have z0 := hbx.frozen 0
        have z1 := hbx.frozen 1
        have z2 := hbx.frozen 2
        clear hpx hix
        rcases pre_bits (j := 3) (by omega) HO.out with ⟨hf, hbit⟩ | ⟨hf, hbit⟩
        · have HZ := Lib.hid (pre_hit (j := 3) (by omega) HO.out (by rw [HL.out]; omega) hbit)
          have hv : (fldOf l a 4 == 14) = true := by rw [hf]; decide
          go_wp2
          refine bodyPost_ret (results_row_tmp rfl _ _ w.heap.size _ _ _ _ rfl (hbx.three (.int .i64 4) (.int .i64 14) (.int .i64 24)) Tryd.underlying70 rfl (by kernel_rfl)) rfl ?_
          unfold PrePost; rw [HZ.out]
          exact ⟨⟨rfl, by omega, by decide, rfl⟩, ((hbelA.setCell (Nat.le_refl _) _).setCell (Nat.le_refl _) _).setCell (Nat.le_refl _) _⟩
        · have hv : (fldOf l a 4 == 14) = false := by rw [hf]; decide
          have HM := Lib.hid (ones_more HO.out hbit)
          clear hf hbit
          go_wp2
          go_roundw
          case rel => exact ⟨4, by decide, by go_num, HM.out, by omega, hbx, hbelA⟩
          case measure => simp [intOf]
      · have HZ := Lib.hid (pre_none (j := 3) (by omega) HO.out (by rw [HL.out]; omega))
        refine (zig_readShort l A n c a 4 _ (hb'.below ((Below.refl _ _).alloc (Nat.le_refl _) _) |>.more (by simp)) HR.out (by omega) hnc ha (by omega) hs).mono ?_
        rintro e w1 ⟨rfl, hb1⟩
        have hbx : Box w1 w.heap.size 70 [.int .i64 0, .int .i64 0, .int .i64 0] := Box.below (hbox.alloc _) hb1 (by simp; omega)
        have hpx : Box w1 wr.heap.size 70 [.int .i64 4, .int .i64 14, .int .i64 24] := Box.below (Box.new wr _ _) hb1 (by simp)
        have hbelA : Below w.heap.size w w1 := (hbel.alloc hsz _).trans (hb1.mono (by simp; omega))
        have p0 := hpx.cell 0
        have p1 := hpx.cell 1
        have p2 := hpx.cell 2
        have r0 := hbx.cell 0
        have r1 := hbx.cell 1
        have r2 := hbx.cell 2
        have z0 := hbx.frozen 0
        have z1 := hbx.frozen 1
        have z2 := hbx.frozen 2
        clear hpx hix
        go_wp2
        refine bodyPost_ret (results_row_tmp rfl _ _ w.heap.size _ _ _ _ rfl (hbx.three (.int .i64 0) (.int .i64 0) (.int .i64 0)) Tryd.underlying70 rfl (by kernel_rfl)) rfl ?_
        unfold PrePost; rw [HZ.out]
        exact ⟨rfl, ((hbelA.setCell (Nat.le_refl _) _).setCell (Nat.le_refl _) _).setCell (Nat.le_refl _) _⟩
    · have hix := tab_ix4 wr
      have HZ := Lib.hid (pre_four HO.out (by rw [HL.out]; omega))
      have hf := fld_ones l a 4 HO.out
      go_wp2_with fail
      refine (zig_readOk l A n c a 4 _ (hb'.below ((Below.refl _ _).alloc (Nat.le_refl _) _) |>.more (by simp)) HR.out (by omega) hnc (by omega) (by omega)).mono ?_
      rintro e w1 ⟨rfl, hb1⟩
      have hbx : Box w1 w.heap.size 70 [.int .i64 0, .int .i64 0, .int .i64 0] := Box.below (hbox.alloc _) hb1 (by simp; omega)
      have hpx : Box w1 wr.heap.size 70 [.int .i64 4, .int .i64 15, .int .i64 59] := Box.below (Box.new wr _ _) hb1 (by simp)
      have hbelA : Below w.heap.size w w1 := (hbel.alloc hsz _).trans (hb1.mono (by simp; omega))
      have p0 := hpx.cell 0
      have p1 := hpx.cell 1
      have p2 := hpx.cell 2
      have r0 := hbx.cell 0
      have r1 := hbx.cell 1
      have r2 := hbx.cell 2
      have z0 := hbx.frozen 0
      have z1 := hbx.frozen 1
      have z2 := hbx.frozen 2
      clear hpx hix
      have hv : (fldOf l a 4 == 15) = true := by rw [hf]; decide
      go_wp2
      refine bodyPost_ret (results_row_tmp rfl _ _ w.heap.size _ _ _ _ rfl (hbx.three (.int .i64 4) (.int .i64 15) (.int .i64 59)) Tryd.underlying70 rfl (by kernel_rfl)) rfl ?_
      unfold PrePost; rw [HZ.out]
      exact ⟨⟨rfl, by omega, by decide, rfl⟩, ((hbelA.setCell (Nat.le_refl _) _).setCell (Nat.le_refl _) _).setCell (Nat.le_refl _) _⟩
end Go.Proofs.YtekojlepmfmmpaaDoor
