/- Of this claim's own texts these, one behind the other: DoorV, VmPure2, Vm1, Vm2. No statement of the seat is proved here; no condition but those that stand at the theorems. -/
import Derived.Test.YtnchgdjdfhfedaaDoorRows
import Derived.Test.YtnchgdjdfhfedaaDoorCards
import Derived.Test.YtnchgdjdfhfedaaDoorTie
import Derived.Test.YtnchgdjdfhfedaaDoorPartAC
import Derived.ProofKit
import Derived.OpenShut
import Derived.LaidHandle
import Derived.LaidMore
import Derived.MakeChecks
import Derived.Stop.Joined
import Derived.Deep.Strs
import Derived.Test.YtnchgdjdfhfedaaDoorPartAE
set_option linter.unusedSimpArgs false
set_option linter.unusedVariables false
namespace Go.Proofs.YtnchgdjdfhfedaaDoor
open Go.ChangeShapes Go.WideShapes Go.ChangeAt Go.RowKit Go.Ord Go.Baro

def laidL : List (String × DataW Unit) := [("barograph/vm.operands", Rows.laid_barograph_vm_operands)]
theorem gTab : Tryd.prog.globalNamed "barograph/vm.operands" = some 0 := by kernel_rfl
theorem tTab : (Tryd.prog.globals[0]?).map (·.type) = some 134 := by kernel_rfl
theorem door_met (os : Os) (args : Array Value) : laidMetH Tryd.prog laidL ((World.doorLaid Tryd.prog 400 os).forCall (fun _ _ => 0) ⟨#[], args, []⟩).memory := by
  rw [MakeChecks.laidMetH_plain _ _ _ (by kernel_rfl)]
  exact laidMet_of_run' 8 (by kernel_rfl) (by kernel_rfl)

/-- The operands of each kind. -/
def tabRows : List (Int × Int × Int × Int) := [(0, 0, 0, 0), (1, 3, 0, 0), (1, 1, 0, 0), (1, 1, 1, 0), (1, 1, 1, 0), (1, 1, 1, 0), (1, 1, 1, 0), (1, 1, 1, 0), (1, 1, 1, 0), (1, 1, 1, 0), (2, 0, 0, 0), (1, 2, 0, 0), (1, 2, 0, 0), (1, 1, 3, 0), (1, 1, 3, 0), (1, 1, 3, 1), (1, 0, 0, 0), (0, 0, 0, 0)]
def rowD (H : Type) (r : Int × Int × Int × Int) : DataW H := .agg [.lit (.int .i64 r.1), .lit (.int .i64 r.2.1), .lit (.int .i64 r.2.2.1), .lit (.int .i64 r.2.2.2)]
theorem laid_rows (H : Type) : (Rows.laid_barograph_vm_operands : DataW H) = .agg (tabRows.map (rowD H)) := rfl
/-- The table of operands lies in its block. -/
def Tab (W : World) : Prop := ∀ i a b c d, tabRows[i]? = some (a, b, c, d) →
  W.cell? ⟨0, i * 4, none⟩ = some (.int .i64 a) ∧ W.cell? ⟨0, i * 4 + 1, none⟩ = some (.int .i64 b) ∧ W.cell? ⟨0, i * 4 + 2, none⟩ = some (.int .i64 c) ∧ W.cell? ⟨0, i * 4 + 3, none⟩ = some (.int .i64 d)

theorem of_laid {W : World} (h : laidMetH Tryd.prog laidL W) : Tab W := by
  rw [MakeChecks.laidMetH_plain _ _ _ (by kernel_rfl)] at h
  obtain ⟨ps, ⟨g0, t0, cs0, f0, p0, q0, hg0, ht0, hv0, hd0, _, _⟩, _, _⟩ := h
  obtain rfl := Option.some.inj (gTab.symm.trans hg0)
  obtain rfl := Option.some.inj (tTab.symm.trans ht0)
  obtain ⟨xs, m1, rfl, hx1, hlen, hn5, hel⟩ := DataW.trod_array Tryd.underlying134 hd0
  have c4 : Tryd.prog.cellsOf 133 = 4 := by kernel_rfl
  have c1 : Tryd.prog.cellsOf 132 = 1 := by kernel_rfl
  rw [c4] at hel
  have hcell := fun i => World.var?_cell hg0 hv0 i
  have hcell' : ∀ i, W.cell? ⟨0, i, none⟩ = cs0.toList[i]? := fun i => by rw [hcell i]; simp
  clear hcell
  have hx2 : xs.map (·.1) = tabRows.map (rowD Unit) := by
    have := hx1
    rw [laid_rows] at this
    simp only [Prod.mk.injEq, DataW.agg.injEq] at this
    exact this.1.symm
  clear hx1
  intro i a b c d hi
  have hi18 : i < 18 := (List.getElem?_eq_some_iff.1 hi).1
  have hixs : i < xs.length := by omega
  have h0 := (hel i hi18).trans (List.getElem?_eq_getElem hixs)
  have hrow : (xs[i]'hixs).1 = rowD Unit (a, b, c, d) := by
    have := congrArg (·[i]?) hx2
    simp only [List.getElem?_map, hi, List.getElem?_eq_getElem hixs, Option.map_some, Option.some.injEq] at this
    exact this
  obtain ⟨ys, m2, rfl, hy, hly, hn4, hey⟩ := DataW.trod_array Tryd.underlying133 h0
  rw [c4] at hly
  rw [c1] at hey
  rw [hy] at hrow
  have each : ∀ (j : Nat), j < 4 → ∃ v, (((cs0.toList.drop (i * 4)).take 4).drop j).take 1 = [Value.int .i64 v] ∧ (ys[j]?).map (·.1) = some (.lit (.int .i64 v)) := by
    intro j hj
    have h1 := hey j hj
    rw [Nat.mul_one, List.getElem?_eq_getElem (show j < ys.length by omega)] at h1
    obtain ⟨v, ev, fv, _⟩ := DataW.trod_int (k := .i64) Tryd.underlying132 h1
    exact ⟨v, ev, by rw [List.getElem?_eq_getElem (show j < ys.length by omega), Option.map_some, fv]⟩
  have key : ∀ (j : Nat) (x : Int), j < 4 → [a, b, c, d][j]? = some x → W.cell? ⟨0, i * 4 + j, none⟩ = some (.int .i64 x) := by
    intro j x hj hx
    obtain ⟨v, ev, fv⟩ := each j hj
    have hv : v = x := by
      simp only [rowD, DataW.agg.injEq] at hrow
      have := congrArg (·[j]?) hrow
      simp only [List.getElem?_map] at this
      rw [fv] at this
      match j, hj with
      | 0, _ => simp at this hx; omega
      | 1, _ => simp at this hx; omega
      | 2, _ => simp at this hx; omega
      | 3, _ => simp at this hx; omega
    subst hv
    rw [hcell']
    have := congrArg (·[0]?) ev
    simp [List.getElem?_take, hj] at this
    simpa using this
  exact ⟨key 0 a (by decide) rfl, key 1 b (by decide) rfl, key 2 c (by decide) rfl, key 3 d (by decide) rfl⟩

theorem Tab.lt {W : World} (h : Tab W) : 0 < W.heap.size := block_lt' (h 0 0 0 0 0 rfl).1
theorem Tab.below {W W' : World} {B : Nat} (h : Tab W) (hb : Below B W W') (hB : 0 < B) : Tab W' := fun i a b c d hx => by
  obtain ⟨h0, h1, h2, h3⟩ := h i a b c d hx
  exact ⟨(hb.cell hB).trans h0, (hb.cell hB).trans h1, (hb.cell hB).trans h2, (hb.cell hB).trans h3⟩
theorem Tab.heap {W W' : World} (h : Tab W) (hh : W'.heap = W.heap) : Tab W' := fun i a b c d hx => by
  have : ∀ x : Addr, W'.cell? x = W.cell? x := fun x => by simp [World.cell?, hh]
  rw [this, this, this, this]; exact h i a b c d hx
end Go.Proofs.YtnchgdjdfhfedaaDoor

set_option linter.unusedSimpArgs false
set_option linter.unusedVariables false
namespace Go.Proofs.YtnchgdjdfhfedaaDoor
open Go.Baro

/-- A field that is possible as an operand of this sort. -/
def alw (o n : Int) (len : Nat) : Prop := if o = 1 then 0 ≤ n ∧ n < 24 else if o = 2 then 0 ≤ n ∧ n ≤ len else if o = 3 then True else n = 0
theorem okI_row {len k : Nat} {a b c d A B C D : Int} (hk : 1 ≤ k) (h : tabRows[k]? = some (a, b, c, d)) : okI len ⟨k, A, B, C, D⟩ ↔ alw a A len ∧ alw b B len ∧ alw c C len ∧ alw d D len := by
  have h18 : k < 18 := (List.getElem?_eq_some_iff.1 h).1
  rcases (by omega : k = 1 ∨ k = 2 ∨ k = 3 ∨ k = 4 ∨ k = 5 ∨ k = 6 ∨ k = 7 ∨ k = 8 ∨ k = 9 ∨ k = 10 ∨ k = 11 ∨ k = 12 ∨ k = 13 ∨ k = 14 ∨ k = 15 ∨ k = 16 ∨ k = 17) with rfl | rfl | rfl | rfl | rfl | rfl | rfl | rfl | rfl | rfl | rfl | rfl | rfl | rfl | rfl | rfl | rfl <;>
    (simp [tabRows] at h; obtain ⟨rfl, rfl, rfl, rfl⟩ := h; simp [okI, alw, isR, isT])
theorem row_small {k : Nat} {a b c d : Int} (h : tabRows[k]? = some (a, b, c, d)) : (0 ≤ a ∧ a ≤ 3) ∧ (0 ≤ b ∧ b ≤ 3) ∧ (0 ≤ c ∧ c ≤ 3) ∧ (0 ≤ d ∧ d ≤ 3) := by
  have hm := List.mem_of_getElem? h
  have : ∀ r ∈ tabRows, (0 ≤ r.1 ∧ r.1 ≤ 3) ∧ (0 ≤ r.2.1 ∧ r.2.1 ≤ 3) ∧ (0 ≤ r.2.2.1 ∧ r.2.2.1 ≤ 3) ∧ (0 ≤ r.2.2.2 ∧ r.2.2.2 ≤ 3) := by decide
  exact this _ hm
theorem row_at {k : Nat} (h : k < 18) : ∃ a b c d, tabRows[k]? = some (a, b, c, d) := by
  have : k < tabRows.length := h
  exact ⟨_, _, _, _, List.getElem?_eq_getElem this⟩
theorem okI_kind {len : Nat} {o : Ins} (h : okI len o) : 1 ≤ o.k ∧ o.k ≤ 17 := by unfold okI at h; omega
end Go.Proofs.YtnchgdjdfhfedaaDoor

set_option linter.unusedSimpArgs false
set_option linter.unusedVariables false
namespace Go.Proofs.YtnchgdjdfhfedaaDoor
open Go.RowKit Go.Ord Go.Baro

theorem vm_truth (b : Bool) (w : World) : Calls Tryd.prog 76 #[.bool b] w fun e w' => e = .returned (.int .i64 (if b then 1 else 0)) ∧ w = w' := by
  cases b with
  | false =>
    go_enter Tryd.func76, Tryd.ntmps76
    go_wp2
    go_ret
    exact ⟨rfl, rfl⟩
  | true =>
    go_enter Tryd.func76, Tryd.ntmps76
    go_wp2
    go_ret
    exact ⟨rfl, rfl⟩

set_option maxHeartbeats 1000000 in
theorem vm_allows (o n : Int) (len : Nat) (r : Bool) (w : World) (ho : 0 ≤ o ∧ o ≤ 3) (hr : r = true ↔ alw o n len) :
    Calls Tryd.prog 66 #[.int .i64 o, .int .i64 n, .int .i64 len] w fun e w' => e = .returned (.bool r) ∧ w = w' := by
  have H := Lib.hid hr
  clear hr
  rcases (by omega : o = 0 ∨ o = 1 ∨ o = 2 ∨ o = 3) with rfl | rfl | rfl | rfl
  · go_enter Tryd.func66, Tryd.ntmps66
    go_wp2
    go_ret
    refine ⟨ret_bool ?_, rfl⟩
    have := H.out
    simp [alw] at this
    cases r <;> simp at this ⊢ <;> omega
  · by_cases h : 0 ≤ n
    · go_enter Tryd.func66, Tryd.ntmps66
      go_wp2
      go_ret
      refine ⟨ret_bool ?_, rfl⟩
      have := H.out
      simp [alw] at this
      cases r <;> simp at this ⊢ <;> omega
    · go_enter Tryd.func66, Tryd.ntmps66
      go_wp2
      go_ret
      refine ⟨ret_bool ?_, rfl⟩
      have := H.out
      simp [alw] at this
      cases r <;> simp at this ⊢ <;> omega
  · by_cases h : 0 ≤ n
    · go_enter Tryd.func66, Tryd.ntmps66
      go_wp2
      go_ret
      refine ⟨ret_bool ?_, rfl⟩
      have := H.out
      simp [alw] at this
      cases r <;> simp at this ⊢ <;> omega
    · go_enter Tryd.func66, Tryd.ntmps66
      go_wp2
      go_ret
      refine ⟨ret_bool ?_, rfl⟩
      have := H.out
      simp [alw] at this
      cases r <;> simp at this ⊢ <;> omega
  · go_enter Tryd.func66, Tryd.ntmps66
    go_wp2
    go_ret
    refine ⟨ret_bool ?_, rfl⟩
    have := H.out
    simp [alw] at this
    simp [this]

theorem ix_row0 (a b c d : Int) (W : World) : (Instr.index 133 (.agg #[.int .i64 a, .int .i64 b, .int .i64 c, .int .i64 d]) (.int .i64 0)).run Tryd.prog W = .ok (.int .i64 a) W := by kernel_rfl
theorem ix_row1 (a b c d : Int) (W : World) : (Instr.index 133 (.agg #[.int .i64 a, .int .i64 b, .int .i64 c, .int .i64 d]) (.int .i64 1)).run Tryd.prog W = .ok (.int .i64 b) W := by kernel_rfl
theorem ix_row2 (a b c d : Int) (W : World) : (Instr.index 133 (.agg #[.int .i64 a, .int .i64 b, .int .i64 c, .int .i64 d]) (.int .i64 2)).run Tryd.prog W = .ok (.int .i64 c) W := by kernel_rfl
theorem ix_row3 (a b c d : Int) (W : World) : (Instr.index 133 (.agg #[.int .i64 a, .int .i64 b, .int .i64 c, .int .i64 d]) (.int .i64 3)).run Tryd.prog W = .ok (.int .i64 d) W := by kernel_rfl
set_option maxRecDepth 100000 in
theorem ix_row (a b c d : Int) (W : World) (j : Nat) (x : Int) (h : [a, b, c, d][j]? = some x) : (Instr.index 133 (.agg #[.int .i64 a, .int .i64 b, .int .i64 c, .int .i64 d]) (.int .i64 j)).run Tryd.prog W = .ok (.int .i64 x) W := by
  have hj : j < 4 := (List.getElem?_eq_some_iff.1 h).1
  rcases (by omega : j = 0 ∨ j = 1 ∨ j = 2 ∨ j = 3) with rfl | rfl | rfl | rfl
  · injection h with h; subst h; exact ix_row0 _ _ _ _ W
  · injection h with h; subst h; exact ix_row1 _ _ _ _ W
  · injection h with h; subst h; exact ix_row2 _ _ _ _ W
  · injection h with h; subst h; exact ix_row3 _ _ _ _ W

theorem alw_four {a b c d A B C D : Int} {len : Nat} : (alw a A len ∧ alw b B len ∧ alw c C len ∧ alw d D len) ↔ ∀ (j : Nat) (x y : Int), [a, b, c, d][j]? = some x → [A, B, C, D][j]? = some y → alw x y len := by
  constructor
  · rintro ⟨h0, h1, h2, h3⟩ j x y hx hy
    have hj : j < 4 := (List.getElem?_eq_some_iff.1 hx).1
    rcases (by omega : j = 0 ∨ j = 1 ∨ j = 2 ∨ j = 3) with rfl | rfl | rfl | rfl <;> (simp at hx hy; subst hx hy; assumption)
  · intro h
    exact ⟨h 0 _ _ rfl rfl, h 1 _ _ rfl rfl, h 2 _ _ rfl rfl, h 3 _ _ rfl rfl⟩

set_option maxRecDepth 100000 in
set_option maxHeartbeats 2000000 in
theorem vm_valid (k A B C D : Int) (len : Nat) (r : Bool) (w : World) (hT : Tab w) (hr : r = true ↔ okI len ⟨k, A, B, C, D⟩) (hlen : len ≤ 200) :
    Calls Tryd.prog 49 #[.agg #[.int .i64 k, .int .i64 A, .int .i64 B, .int .i64 C, .int .i64 D], .int .i64 len] w fun e w' => e = .returned (.bool r) ∧ Below w.heap.size w w' := by
  have h0 : Below w.heap.size w w := Below.refl _ _
  by_cases hk : 1 ≤ k ∧ k ≤ 17
  · obtain ⟨kn, rfl⟩ : ∃ kn : Nat, k = kn := ⟨k.toNat, by omega⟩
    have hk1 : 1 ≤ kn := by omega
    have hk2 : kn ≤ 17 := by omega
    clear hk
    obtain ⟨a, b, c, d, hrow⟩ := row_at (k := kn) (by omega)
    rw [okI_row hk1 hrow, alw_four] at hr
    have H := Lib.hid hr
    clear hr
    obtain ⟨sa, sb, sc, sd⟩ := row_small hrow
    obtain ⟨t0, t1, t2, t3⟩ := hT kn a b c d hrow
    have hlt := hT.lt
    have hA := (h0.alloc (Nat.le_refl _) (Obj.cells #[.int .i64 kn, .int .i64 A, .int .i64 B, .int .i64 C, .int .i64 D] 73)).alloc (by simp) (Obj.cells #[.int .i64 A, .int .i64 B, .int .i64 C, .int .i64 D] 131)
    have HS := Lib.hid (show ∀ x ∈ [a, b, c, d], 0 ≤ x ∧ x ≤ 3 by simp; exact ⟨sa, sb, sc, sd⟩)
    clear hrow hT sa sb sc sd
    have bx := Box.newAt (w.alloc (Obj.cells #[.int .i64 kn, .int .i64 A, .int .i64 B, .int .i64 C, .int .i64 D] 73)) 131 [.int .i64 A, .int .i64 B, .int .i64 C, .int .i64 D] (w.heap.size + 1) (by simp)
    go_enter Tryd.func49, Tryd.ntmps49
    go_wp2
    clear t0 t1 t2 t3
    go_loop [29] (fun i => ∃ j : Nat, j ≤ 4 ∧ i = .int .i64 j ∧ Hid (∀ (q : Nat) (x y : Int), q < j → [a, b, c, d][q]? = some x → [A, B, C, D][q]? = some y → alw x y len)) (fun i => 4 - (intOf i).toNat)
    case atStart => exact ⟨0, Nat.zero_le _, rfl, fun q x y hq => absurd hq (by omega)⟩
    case round =>
      obtain ⟨j, hj, rfl, HC⟩ := hrel
      by_cases hj4 : j < 4
      · obtain ⟨x, hx⟩ : ∃ x, [a, b, c, d][j]? = some x := ⟨_, List.getElem?_eq_getElem (by simpa using hj4)⟩
        obtain ⟨y, hy⟩ : ∃ y, [A, B, C, D][j]? = some y := ⟨_, List.getElem?_eq_getElem (by simpa using hj4)⟩
        have hix := fun W => ix_row a b c d W j x hx
        have hcy : ((w.alloc (Obj.cells #[.int .i64 kn, .int .i64 A, .int .i64 B, .int .i64 C, .int .i64 D] 73)).alloc (Obj.cells #[.int .i64 A, .int .i64 B, .int .i64 C, .int .i64 D] 131)).cell? ⟨w.heap.size + 1, j, none⟩ = some (.int .i64 y) := by
          have := bx.cell j
          rw [show ([.int .i64 A, .int .i64 B, .int .i64 C, .int .i64 D] : List Value) = [A, B, C, D].map (Value.int .i64) from rfl, List.getElem?_map, hy] at this
          exact this
        have hsx := HS.out x (List.mem_of_getElem? hx)
        have HX := Lib.hid hx
        have HY := Lib.hid hy
        clear hx hy
        by_cases hal : alw x y len
        · have HAL := Lib.hid hal
          clear hal
          go_wp2_with fail
          refine (vm_allows x y len true _ hsx (by simp; exact HAL.out)).mono ?_
          rintro e w' ⟨rfl, rfl⟩
          go_wp2
          go_round
          case rel =>
            refine ⟨j + 1, by omega, by go_num, ?_⟩
            intro q x' y' hq hx' hy'
            by_cases hqj : q = j
            · subst hqj
              rw [HX.out] at hx'; rw [HY.out] at hy'
              injection hx' with hx'; injection hy' with hy'
              subst hx' hy'
              exact HAL.out
            · exact HC.out q x' y' (by omega) hx' hy'
          case measure => simp [intOf]; omega
        · have HAL := Lib.hid hal
          clear hal
          go_wp2_with fail
          refine (vm_allows x y len false _ hsx (by simp; exact HAL.out)).mono ?_
          rintro e w' ⟨rfl, rfl⟩
          go_wp2
          go_ret
          refine ⟨ret_bool ?_, hA⟩
          cases r with
          | false => rfl
          | true => exact absurd (H.out.1 rfl j x y HX.out HY.out) HAL.out
      · have : j = 4 := by omega
        subst this
        go_wp2
        go_ret
        refine ⟨ret_bool ?_, hA⟩
        exact (H.out.2 fun q x y hx hy => HC.out q x y (List.getElem?_eq_some_iff.1 hx).1 hx hy).symm
  · have hrf : r = false := by
      cases r with
      | false => rfl
      | true => exact absurd (okI_kind (hr.1 rfl)) hk
    subst hrf
    clear hr
    by_cases h1 : k < 1
    · go_enter Tryd.func49, Tryd.ntmps49
      go_wp2
      go_ret
      exact ⟨rfl, h0.alloc (Nat.le_refl _) _⟩
    · have h2 : 17 < k := by omega
      go_enter Tryd.func49, Tryd.ntmps49
      go_wp2
      go_ret
      exact ⟨rfl, h0.alloc (Nat.le_refl _) _⟩
end Go.Proofs.YtnchgdjdfhfedaaDoor

set_option linter.unusedSimpArgs false
set_option linter.unusedVariables false
namespace Go.Proofs.YtnchgdjdfhfedaaDoor
open Go.RowKit Go.Ord Go.Baro

set_option maxRecDepth 100000 in
set_option maxHeartbeats 2000000 in
theorem vm_May (l : List Ins) (A : Option Addr) (n c : Nat) (r : Bool) (w : World) (B : Nat) (hT : Tab w) (hb : RO w B A n l) (hB : B ≤ w.heap.size) (hn : n ≤ 9223372036854775807) (hr : r = true ↔ okC l) :
    Calls Tryd.prog 35 #[.slice A n c] w fun e w' => e = .returned (.bool r) ∧ Below w.heap.size w w' := by
  have HL := Lib.hid hb.len
  have H := Lib.hid hr
  clear hr
  have h0 : Below w.heap.size w w := Below.refl _ _
  have hlt := hT.lt
  by_cases hn2 : n ≤ 200
  · go_enter Tryd.func35, Tryd.ntmps35
    go_wp2
    go_loopw [10] (fun i wr => ∃ j : Nat, j ≤ n ∧ i = .int .i64 j ∧ Hid (∀ o ∈ l.take j, okI n o) ∧ Below w.heap.size w wr) (fun i _ => n - (intOf i).toNat)
    case atStart => exact ⟨0, Nat.zero_le _, rfl, by simp [Hid], h0⟩
    case round =>
      obtain ⟨j, hj, rfl, HC, hbel⟩ := hrel
      have hsz := hbel.size
      by_cases hjn : j < n
      · obtain ⟨b, o, k, x, y, z, u, rfl, hbB, c0, c1, c2, c3, c4, HX, hmem⟩ := (hb.below (hbel.mono hB)).val hjn
        have hbs : b < wr.heap.size := by omega
        have hal := hbel.alloc hsz (Obj.cells #[.int .i64 k, .int .i64 x, .int .i64 y, .int .i64 z, .int .i64 u] 73)
        by_cases hok : okI n ⟨k, x, y, z, u⟩
        · have HOK := Lib.hid hok
          clear hok
          go_wp2_with fail
          refine (vm_valid k x y z u n true _ (hT.below hal hlt) (by simp; exact HOK.out) hn2).mono ?_
          rintro e w1 ⟨rfl, hb1⟩
          go_wp2
          go_roundw
          case rel =>
            refine ⟨j + 1, by omega, by go_num, ?_, hal.trans (hb1.mono (by simp; omega))⟩
            intro q hq
            rw [at_take HX.out] at hq
            rcases List.mem_append.1 hq with hq | hq
            · exact HC.out q hq
            · rw [List.mem_singleton.1 hq]; exact HOK.out
          case measure => simp [intOf]; omega
        · have HOK := Lib.hid hok
          clear hok
          go_wp2_with fail
          refine (vm_valid k x y z u n false _ (hT.below hal hlt) (by simp; exact HOK.out) hn2).mono ?_
          rintro e w1 ⟨rfl, hb1⟩
          go_wp2
          go_ret
          refine ⟨ret_bool ?_, hal.trans (hb1.mono (by simp; omega))⟩
          cases r with
          | false => rfl
          | true =>
            have := (H.out.1 rfl).2 _ hmem
            rw [HL.out] at this
            exact absurd this HOK.out
      · go_wp2
        go_ret
        refine ⟨ret_bool ?_, hbel⟩
        refine (H.out.2 ⟨by rw [HL.out]; exact hn2, fun o ho => ?_⟩).symm
        have he := HC.out
        rw [List.take_of_length_le (by rw [HL.out]; omega)] at he
        rw [HL.out]
        exact he o ho
  · go_enter Tryd.func35, Tryd.ntmps35
    go_wp2
    go_ret
    refine ⟨ret_bool ?_, h0⟩
    cases r with
    | false => rfl
    | true =>
      have := (H.out.1 rfl).1
      rw [HL.out] at this
      omega


set_option maxHeartbeats 2000000 in
theorem vm_compute (k b c : Int) (w : World) (hk : 3 ≤ k ∧ k ≤ 9) (hc : inW c) (hb : inW b) :
    Calls Tryd.prog 74 #[.int .i64 k, .int .i64 b, .int .i64 c] w fun e w' => e = .returned (.int .i64 (cmpV k b c)) ∧ w = w' := by
  have HC := Lib.hid hc
  have HB := Lib.hid hb
  clear hc hb
  rcases (by omega : k = 3 ∨ k = 4 ∨ k = 5 ∨ k = 6 ∨ k = 7 ∨ k = 8 ∨ k = 9) with rfl | rfl | rfl | rfl | rfl | rfl | rfl
  · go_enter Tryd.func74, Tryd.ntmps74
    go_wp2
    go_ret
    exact ⟨rfl, rfl⟩
  · go_enter Tryd.func74, Tryd.ntmps74
    go_wp2
    go_ret
    exact ⟨rfl, rfl⟩
  · go_enter Tryd.func74, Tryd.ntmps74
    go_wp2
    go_ret
    exact ⟨rfl, rfl⟩
  · by_cases h : c = 0
    · subst h
      go_enter Tryd.func74, Tryd.ntmps74
      go_wp2
      go_ret
      exact ⟨rfl, rfl⟩
    · have h1 : (c == 0) = false := by simp [h]
      have h2 : (c != 0) = true := by simp [h]
      go_enter Tryd.func74, Tryd.ntmps74
      go_wp2
      go_ret
      exact ⟨ret_int (by simp [cmpV, h]), rfl⟩
  · by_cases h : c = 0
    · subst h
      go_enter Tryd.func74, Tryd.ntmps74
      go_wp2
      go_ret
      exact ⟨rfl, rfl⟩
    · have h1 : (c == 0) = false := by simp [h]
      have h2 : (c != 0) = true := by simp [h]
      have HW := Lib.hid (tmod_in (b := b) h HC.out)
      go_enter Tryd.func74, Tryd.ntmps74
      go_wp2
      go_ret
      refine ⟨ret_int ?_, rfl⟩
      have := HW.out
      unfold inW at this
      simp [cmpV, h]
      first | done | exact IntWalk.wrap64_in _ this
  · by_cases h : b = c
    · subst h
      go_enter Tryd.func74, Tryd.ntmps74
      go_wp2_with fail
      refine (vm_truth true _).mono ?_
      rintro e w1 ⟨rfl, rfl⟩
      go_wp2
      go_ret
      exact ⟨ret_int (by simp [cmpV]), rfl⟩
    · have h1 : (b == c) = false := by simp [h]
      go_enter Tryd.func74, Tryd.ntmps74
      go_wp2_with fail
      refine (vm_truth false _).mono ?_
      rintro e w1 ⟨rfl, rfl⟩
      go_wp2
      go_ret
      exact ⟨ret_int (by simp [cmpV, h]), rfl⟩
  · by_cases h : b < c
    · skip
      go_enter Tryd.func74, Tryd.ntmps74
      go_wp2_with fail
      refine (vm_truth true _).mono ?_
      rintro e w1 ⟨rfl, rfl⟩
      go_wp2
      go_ret
      exact ⟨ret_int (by simp [cmpV, h]), rfl⟩
    · skip
      go_enter Tryd.func74, Tryd.ntmps74
      go_wp2_with fail
      refine (vm_truth false _).mono ?_
      rintro e w1 ⟨rfl, rfl⟩
      go_wp2
      go_ret
      exact ⟨ret_int (by simp [cmpV, h]), rfl⟩
end Go.Proofs.YtnchgdjdfhfedaaDoor
