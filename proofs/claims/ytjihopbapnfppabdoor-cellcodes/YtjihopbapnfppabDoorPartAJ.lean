/- Of this claim's own texts these, one behind the other: DoorV, CellSpec, RefVm1. No statement of the seat is proved here; no condition but those that stand at the theorems. -/
import Derived.Test.YtjihopbapnfppabDoorRows
import Derived.Test.YtjihopbapnfppabDoorCards
import Derived.Test.YtjihopbapnfppabDoorTie
import Derived.Test.YtjihopbapnfppabDoorPartAE
import Derived.ProofKit
import Derived.OpenShut
import Derived.LaidHandle
import Derived.LaidMore
import Derived.MakeChecks
import Derived.Stop.Joined
import Derived.Deep.Strs
import Derived.Test.YtjihopbapnfppabDoorPartAB
import Derived.Test.YtjihopbapnfppabDoorPartAH
import Derived.Test.YtjihopbapnfppabDoorPartAI
import Derived.Test.YtjihopbapnfppabDoorPartAF
set_option linter.unusedSimpArgs false
set_option linter.unusedVariables false
namespace Go.Proofs.YtjihopbapnfppabDoor
open Go.ChangeShapes Go.WideShapes Go.ChangeAt Go.RowKit Go.Ord Go.Baro

def laidL : List (String × DataW Unit) := [("math/bits.deBruijn32tab", Rows.laid_math_bits_deBruijn32tab), ("math/bits.deBruijn64tab", Rows.laid_math_bits_deBruijn64tab), ("internal/strconv.uint64pow10", Rows.laid_internal_strconv_uint64pow10), ("barograph/vm.operands", Rows.laid_barograph_vm_operands)]
theorem gTab : Tryd.prog.globalNamed "barograph/vm.operands" = some 0 := by kernel_rfl
theorem tTab : (Tryd.prog.globals[0]?).map (·.type) = some 111 := by kernel_rfl
theorem door_met (os : Os) (args : Array Value) : laidMetH Tryd.prog laidL ((World.doorLaid Tryd.prog 400 os).forCall (fun _ _ => 0) ⟨#[], args, []⟩).memory := by
  rw [MakeChecks.laidMetH_plain _ _ _ (by kernel_rfl)]
  exact laidMet_of_run' 8 (by kernel_rfl) (by kernel_rfl)

/-- The operands of each kind. -/
def tabRows : List (Int × Int × Int × Int) := [(0, 0, 0, 0), (1, 3, 0, 0), (1, 1, 0, 0), (1, 1, 1, 0), (1, 1, 1, 0), (1, 1, 1, 0), (1, 1, 1, 0), (1, 1, 1, 0), (1, 1, 1, 0), (1, 1, 1, 0), (2, 0, 0, 0), (1, 2, 0, 0), (1, 2, 0, 0), (1, 1, 3, 0), (1, 1, 3, 0), (1, 1, 3, 1), (1, 0, 0, 0), (0, 0, 0, 0)]
def rowD (H : Type) (r : Int × Int × Int × Int) : DataW H := .agg [.lit (.int .i64 r.1), .lit (.int .i64 r.2.1), .lit (.int .i64 r.2.2.1), .lit (.int .i64 r.2.2.2)]
theorem laid_rows (H : Type) : (Rows.laid_barograph_vm_operands : DataW H) = .agg (tabRows.map (rowD H)) := rfl
/-- The table of operands lies in its block. -/
def Tab (W : World) : Prop := ∀ i a b c d, tabRows[i]? = some (a, b, c, d) →
  W.cell? ⟨0, i * 4, none⟩ = some (.int .i64 a) ∧ W.cell? ⟨0, i * 4 + 1, none⟩ = some (.int .i64 b) ∧ W.cell? ⟨0, i * 4 + 2, none⟩ = some (.int .i64 c) ∧ W.cell? ⟨0, i * 4 + 3, none⟩ = some (.int .i64 d)

theorem of_laid {W : World} (h : laidMetH Tryd.prog laidL W) : Tab W := by
  rw [MakeChecks.laidMetH_plain _ _ _ (by kernel_rfl)] at h
  obtain ⟨ps, ⟨_, _, _, _, _, _, _, _, _, _, ⟨_, _, _, _, _, _, _, _, _, _, ⟨_, _, _, _, _, _, _, _, _, _, ⟨g0, t0, cs0, f0, p0, q0, hg0, ht0, hv0, hd0, _, _⟩, _⟩, _⟩, _⟩, _, _⟩ := h
  obtain rfl := Option.some.inj (gTab.symm.trans hg0)
  obtain rfl := Option.some.inj (tTab.symm.trans ht0)
  obtain ⟨xs, m1, rfl, hx1, hlen, hn5, hel⟩ := DataW.trod_array Tryd.underlying111 hd0
  have c4 : Tryd.prog.cellsOf 110 = 4 := by kernel_rfl
  have c1 : Tryd.prog.cellsOf 109 = 1 := by kernel_rfl
  rw [c4] at hel
  have hcell := fun i => World.var?_cell hg0 hv0 i
  have hcell' : ∀ i, W.cell? ⟨0, i, none⟩ = cs0.toList[i]? := fun i => by rw [hcell i]; simp
  clear hcell
  have hx2 : xs.map (·.1) = tabRows.map (rowD Unit) := by
    have := hx1
    rw [laid_rows] at this
    simp only [Prod.mk.injEq, DataW.agg.injEq] at this
    exact this.1.symm
  clear hx1
  intro i a b c d hi
  have hi18 : i < 18 := (List.getElem?_eq_some_iff.1 hi).1
  have hixs : i < xs.length := by omega
  have h0 := (hel i hi18).trans (List.getElem?_eq_getElem hixs)
  have hrow : (xs[i]'hixs).1 = rowD Unit (a, b, c, d) := by
    have := congrArg (·[i]?) hx2
    simp only [List.getElem?_map, hi, List.getElem?_eq_getElem hixs, Option.map_some, Option.some.injEq] at this
    exact this
  obtain ⟨ys, m2, rfl, hy, hly, hn4, hey⟩ := DataW.trod_array Tryd.underlying110 h0
  rw [c4] at hly
  rw [c1] at hey
  rw [hy] at hrow
  have each : ∀ (j : Nat), j < 4 → ∃ v, (((cs0.toList.drop (i * 4)).take 4).drop j).take 1 = [Value.int .i64 v] ∧ (ys[j]?).map (·.1) = some (.lit (.int .i64 v)) := by
    intro j hj
    have h1 := hey j hj
    rw [Nat.mul_one, List.getElem?_eq_getElem (show j < ys.length by omega)] at h1
    obtain ⟨v, ev, fv, _⟩ := DataW.trod_int (k := .i64) Tryd.underlying109 h1
    exact ⟨v, ev, by rw [List.getElem?_eq_getElem (show j < ys.length by omega), Option.map_some, fv]⟩
  have key : ∀ (j : Nat) (x : Int), j < 4 → [a, b, c, d][j]? = some x → W.cell? ⟨0, i * 4 + j, none⟩ = some (.int .i64 x) := by
    intro j x hj hx
    obtain ⟨v, ev, fv⟩ := each j hj
    have hv : v = x := by
      simp only [rowD, DataW.agg.injEq] at hrow
      have := congrArg (·[j]?) hrow
      simp only [List.getElem?_map] at this
      rw [fv] at this
      match j, hj with
      | 0, _ => simp at this hx; omega
      | 1, _ => simp at this hx; omega
      | 2, _ => simp at this hx; omega
      | 3, _ => simp at this hx; omega
    subst hv
    rw [hcell']
    have := congrArg (·[0]?) ev
    simp [List.getElem?_take, hj] at this
    simpa using this
  exact ⟨key 0 a (by decide) rfl, key 1 b (by decide) rfl, key 2 c (by decide) rfl, key 3 d (by decide) rfl⟩

theorem Tab.lt {W : World} (h : Tab W) : 0 < W.heap.size := block_lt' (h 0 0 0 0 0 rfl).1
theorem Tab.below {W W' : World} {B : Nat} (h : Tab W) (hb : Below B W W') (hB : 0 < B) : Tab W' := fun i a b c d hx => by
  obtain ⟨h0, h1, h2, h3⟩ := h i a b c d hx
  exact ⟨(hb.cell hB).trans h0, (hb.cell hB).trans h1, (hb.cell hB).trans h2, (hb.cell hB).trans h3⟩
theorem Tab.heap {W W' : World} (h : Tab W) (hh : W'.heap = W.heap) : Tab W' := fun i a b c d hx => by
  have : ∀ x : Addr, W'.cell? x = W.cell? x := fun x => by simp [World.cell?, hh]
  rw [this, this, this, this]; exact h i a b c d hx
end Go.Proofs.YtjihopbapnfppabDoor

set_option linter.unusedSimpArgs false
set_option linter.unusedVariables false
namespace Go.Baro
open Go.RowKit
/-- What the functions of cell return: the words, the code of a Put, that of a Get. -/
structure Cc where
  ws : Nat → List Int
  cp : Nat → List Ins
  cg : Nat → List Ins
/-- They may be. -/
structure Cc.Ok (c : Cc) : Prop where
  ws : ∀ d, 1 ≤ d → d ≤ 6 → 0 < (c.ws d).length ∧ (c.ws d).length ≤ 64 ∧ ∀ x ∈ c.ws d, inW x
  cp : ∀ d, 1 ≤ d → d ≤ 6 → 0 < (c.cp d).length ∧ okC (c.cp d) ∧ ∀ o ∈ c.cp d, inI o
  cg : ∀ d, 1 ≤ d → d ≤ 6 → 0 < (c.cg d).length ∧ okC (c.cg d) ∧ ∀ o ∈ c.cg d, inI o
/-- The calls of the thread that puts, of one that gets. -/
def putA (d i : Nat) : List Int := (List.range d).map fun k => ((10 * (i + 1) + k : Nat) : Int)
def putJ (d : Nat) (j : Nat) : List Cl := (List.range j).map fun i => ⟨0, putA d i⟩
def getJ (j : Nat) : List Cl := List.replicate j ⟨1, []⟩
def mCell (c : Cc) (d puts gets : Nat) : Mc := ⟨c.ws d, [c.cp d, c.cg d], (List.range 4).map fun t => if t = 0 then putJ d puts else getJ gets⟩
theorem gok_kc (T : TypeId → Prop) : OrdG.GOk (Kc T) := ⟨Kc.refl T, fun h k => h.trans k, Kc.ext⟩
theorem putJ_succ (d j : Nat) : putJ d (j + 1) = putJ d j ++ [⟨0, putA d j⟩] := by simp [putJ, List.range_succ]
theorem getJ_succ (j : Nat) : getJ (j + 1) = getJ j ++ [⟨1, []⟩] := by simp [getJ, List.replicate_succ']
theorem putJ_len (d j : Nat) : (putJ d j).length = j := by simp [putJ]
theorem getJ_len (j : Nat) : (getJ j).length = j := by simp [getJ]
theorem mCell_ok {c : Cc} (hc : c.Ok) {d puts gets : Nat} (h1 : 1 ≤ d) (h6 : d ≤ 6) (hp : puts ≤ 20) (hg : gets ≤ 20) : okMc (mCell c d puts gets) := by
  refine ⟨?_, by simp [mCell], by simp [mCell], fun x hx => ?_, fun t ht => ?_⟩
  · have := (hc.ws d h1 h6).2.1
    show (c.ws d).length ≤ 200
    omega
  · simp only [mCell, List.mem_cons, List.not_mem_nil, or_false] at hx
    rcases hx with rfl | rfl
    · exact (hc.cp d h1 h6).2.1
    · exact (hc.cg d h1 h6).2.1
  · simp only [mCell, List.mem_map, List.mem_range] at ht
    obtain ⟨i, hi, rfl⟩ := ht
    have key : ∀ x : Cl, (x.k = 0 ∨ x.k = 1) → x.ar.length ≤ 8 → okCl (mCell c d puts gets) x := fun x h h' => ⟨by show 0 ≤ x.k ∧ x.k < ((2 : Nat) : Int); omega, h'⟩
    split
    · refine ⟨by rw [putJ_len]; exact hp, fun x hx => ?_⟩
      simp only [putJ, List.mem_map, List.mem_range] at hx
      obtain ⟨k, _, rfl⟩ := hx
      exact key _ (.inl rfl) (by simp [putA]; omega)
    · refine ⟨by rw [getJ_len]; exact hg, fun x hx => ?_⟩
      rw [List.eq_of_mem_replicate hx]
      exact key _ (.inr rfl) (by simp)
end Go.Baro
namespace Go.Proofs.YtjihopbapnfppabDoor
open Go.RowKit Go.Ord Go.Baro
/-- cell.Words. -/
def CellWordsSpec (c : Cc) : Prop := ∀ (w : World) (d : Int) (hd : inW d), Calls Tryd.prog 7 #[.int .i64 d] w fun e w' => ((1 ≤ d ∧ d ≤ 6) → ∃ A n k, e = .returned (.tuple #[.slice A n k, .int .i64 0]) ∧ n ≤ k ∧ k ≤ 9223372036854775807 ∧ QT w' 3 1 A n ((c.ws d.toNat).map (Value.int .i64))) ∧
  (¬ (1 ≤ d ∧ d ≤ 6) → ∃ A k, e = .returned (.tuple #[.slice A 0 k, .int .i64 2])) ∧ Below w.heap.size w w'
def CellCodeSpec (F : FuncId) (c : Nat → List Ins) : Prop := ∀ (w : World) (hT : Tab w) (d : Int) (hd : inW d), Calls Tryd.prog F #[.int .i64 d] w fun e w' => ((1 ≤ d ∧ d ≤ 6) → ∃ A n k, e = .returned (.tuple #[.slice A n k, .int .i64 0]) ∧ n ≤ k ∧ k ≤ 9223372036854775807 ∧ QT w' 65 5 A n (cellsO (c d.toNat))) ∧
  (¬ (1 ≤ d ∧ d ≤ 6) → ∃ A k, e = .returned (.tuple #[.slice A 0 k, .int .i64 2])) ∧ Below w.heap.size w w'
end Go.Proofs.YtjihopbapnfppabDoor

set_option linter.unusedSimpArgs false
set_option linter.unusedVariables false
namespace Go.Proofs.YtjihopbapnfppabDoor
open Go.RowKit Go.Ord Go.Baro

theorem ref_isReg (n : Int) (r : Bool) (w : World) (hr : r = true ↔ isR n) : Calls Tryd.prog 33 #[.int .i64 n] w fun e w' => e = .returned (.bool r) ∧ w = w' := by
  have H := Lib.hid hr
  clear hr
  by_cases h : 0 ≤ n
  · go_enter Tryd.func33, Tryd.ntmps33
    go_wp2
    go_ret
    refine ⟨ret_bool ?_, rfl⟩
    have := H.out
    unfold isR at this
    cases r <;> simp at this ⊢ <;> omega
  · go_enter Tryd.func33, Tryd.ntmps33
    go_wp2
    go_ret
    refine ⟨ret_bool ?_, rfl⟩
    have := H.out
    unfold isR at this
    cases r <;> simp at this ⊢ <;> omega
theorem ref_place (x : Int) (r : Bool) (w : World) (b n c : Nat) (A : Option Addr) (hc : w.cell? ⟨b, 0, none⟩ = some (.slice A n c)) (hn : n ≤ 200) (hr : r = true ↔ isT n x) :
    Calls Tryd.prog 32 #[.int .i64 x, .pointer (some ⟨b, 0, none⟩)] w fun e w' => e = .returned (.bool r) ∧ w = w' := by
  have H := Lib.hid hr
  clear hr
  have hlt := block_lt' hc
  by_cases h : 0 ≤ x
  · go_enter Tryd.func32, Tryd.ntmps32
    go_wp2
    go_ret
    refine ⟨ret_bool ?_, rfl⟩
    have := H.out
    unfold isT at this
    cases r <;> simp at this ⊢ <;> omega
  · go_enter Tryd.func32, Tryd.ntmps32
    go_wp2
    go_ret
    refine ⟨ret_bool ?_, rfl⟩
    have := H.out
    unfold isT at this
    cases r <;> simp at this ⊢ <;> omega

theorem ok_1 {n : Nat} {x y z u : Int} : okI n ⟨1, x, y, z, u⟩ ↔ isR x ∧ z = 0 ∧ u = 0 := by simp [okI]
theorem ok_2 {n : Nat} {x y z u : Int} : okI n ⟨2, x, y, z, u⟩ ↔ isR x ∧ isR y ∧ z = 0 ∧ u = 0 := by simp [okI]
theorem ok_3 {n : Nat} {x y z u : Int} : okI n ⟨3, x, y, z, u⟩ ↔ isR x ∧ isR y ∧ isR z ∧ u = 0 := by simp [okI]
theorem ok_4 {n : Nat} {x y z u : Int} : okI n ⟨4, x, y, z, u⟩ ↔ isR x ∧ isR y ∧ isR z ∧ u = 0 := by simp [okI]
theorem ok_5 {n : Nat} {x y z u : Int} : okI n ⟨5, x, y, z, u⟩ ↔ isR x ∧ isR y ∧ isR z ∧ u = 0 := by simp [okI]
theorem ok_6 {n : Nat} {x y z u : Int} : okI n ⟨6, x, y, z, u⟩ ↔ isR x ∧ isR y ∧ isR z ∧ u = 0 := by simp [okI]
theorem ok_7 {n : Nat} {x y z u : Int} : okI n ⟨7, x, y, z, u⟩ ↔ isR x ∧ isR y ∧ isR z ∧ u = 0 := by simp [okI]
theorem ok_8 {n : Nat} {x y z u : Int} : okI n ⟨8, x, y, z, u⟩ ↔ isR x ∧ isR y ∧ isR z ∧ u = 0 := by simp [okI]
theorem ok_9 {n : Nat} {x y z u : Int} : okI n ⟨9, x, y, z, u⟩ ↔ isR x ∧ isR y ∧ isR z ∧ u = 0 := by simp [okI]
theorem ok_10 {n : Nat} {x y z u : Int} : okI n ⟨10, x, y, z, u⟩ ↔ isT n x ∧ y = 0 ∧ z = 0 ∧ u = 0 := by simp [okI]
theorem ok_11 {n : Nat} {x y z u : Int} : okI n ⟨11, x, y, z, u⟩ ↔ isR x ∧ isT n y ∧ z = 0 ∧ u = 0 := by simp [okI]
theorem ok_12 {n : Nat} {x y z u : Int} : okI n ⟨12, x, y, z, u⟩ ↔ isR x ∧ isT n y ∧ z = 0 ∧ u = 0 := by simp [okI]
theorem ok_13 {n : Nat} {x y z u : Int} : okI n ⟨13, x, y, z, u⟩ ↔ isR x ∧ isR y ∧ u = 0 := by simp [okI]
theorem ok_14 {n : Nat} {x y z u : Int} : okI n ⟨14, x, y, z, u⟩ ↔ isR x ∧ isR y ∧ u = 0 := by simp [okI]
theorem ok_15 {n : Nat} {x y z u : Int} : okI n ⟨15, x, y, z, u⟩ ↔ isR x ∧ isR y ∧ isR u := by simp [okI]
theorem ok_16 {n : Nat} {x y z u : Int} : okI n ⟨16, x, y, z, u⟩ ↔ isR x ∧ y = 0 ∧ z = 0 ∧ u = 0 := by simp [okI]
theorem ok_17 {n : Nat} {x y z u : Int} : okI n ⟨17, x, y, z, u⟩ ↔ x = 0 ∧ y = 0 ∧ z = 0 ∧ u = 0 := by simp [okI]

set_option maxRecDepth 100000 in
set_option maxHeartbeats 40000000 in
theorem ref_CodeMay (l : List Ins) (A : Option Addr) (n c : Nat) (r : Bool) (w : World) (B : Nat) (hb : RO w B A n l) (hB : B ≤ w.heap.size) (hn : n ≤ 9223372036854775807) (hr : r = true ↔ okC l) :
    Calls Tryd.prog 10 #[.slice A n c] w fun e w' => e = .returned (.bool r) ∧ Below w.heap.size w w' := by
  have HL := Lib.hid hb.len
  have H := Lib.hid hr
  clear hr
  have h0 : Below w.heap.size w w := Below.refl _ _
  have hA := h0.alloc (Nat.le_refl _) (Obj.cells #[.slice A n c] 26)
  by_cases hn2 : n ≤ 200
  · have bD := Box.newAt w 26 [.slice A n c] _ rfl
    go_enter Tryd.func10, Tryd.ntmps10
    go_wp2
    go_loopw [12] (fun i wr => ∃ j : Nat, j ≤ n ∧ i = .int .i64 j ∧ Hid (∀ o ∈ l.take j, okI n o) ∧ Box wr w.heap.size 26 [.slice A n c] ∧ Below w.heap.size w wr) (fun i _ => n - (intOf i).toNat)
    case atStart => exact ⟨0, Nat.zero_le _, rfl, by simp [Hid], bD, hA⟩
    case round =>
      obtain ⟨j, hj, rfl, HC, bD, hbel⟩ := hrel
      have hsz := hbel.size
      have lD := bD.lt
      have gD := bD.cell 0
      by_cases hjn : j < n
      · obtain ⟨b, o, k, x, y, z, u, rfl, hbB, c0, c1, c2, c3, c4, HX, hmem⟩ := (hb.below (hbel.mono hB)).val hjn
        have hbs : b < wr.heap.size := by omega
        have hal := hbel.alloc hsz (Obj.cells #[.int .i64 k, .int .i64 x, .int .i64 y, .int .i64 z, .int .i64 u] 65)
        have bD2 := bD.alloc (Obj.cells #[.int .i64 k, .int .i64 x, .int .i64 y, .int .i64 z, .int .i64 u] 65)
        have gD2 := bD2.cell 0
        have HBAD := Lib.hid (show ¬ okI n ⟨k, x, y, z, u⟩ → r = false by
          intro hno
          cases r with
          | false => rfl
          | true =>
            have := (H.out.1 rfl).2 _ hmem
            rw [HL.out] at this
            exact absurd this hno)
        have HGO := Lib.hid (show okI n ⟨k, x, y, z, u⟩ → ∀ q ∈ l.take (j + 1), okI n q by
          intro hyes q hq
          rw [at_take HX.out] at hq
          rcases List.mem_append.1 hq with hq | hq
          · exact HC.out q hq
          · rw [List.mem_singleton.1 hq]; exact hyes)
        clear hmem bD
        by_cases hk : 1 ≤ k ∧ k ≤ 17
        · rcases (by omega : k = 1 ∨ k = 2 ∨ k = 3 ∨ k = 4 ∨ k = 5 ∨ k = 6 ∨ k = 7 ∨ k = 8 ∨ k = 9 ∨ k = 10 ∨ k = 11 ∨ k = 12 ∨ k = 13 ∨ k = 14 ∨ k = 15 ∨ k = 16 ∨ k = 17) with rfl | rfl | rfl | rfl | rfl | rfl | rfl | rfl | rfl | rfl | rfl | rfl | rfl | rfl | rfl | rfl | rfl
          · as_aux_lemma =>
              clear hk
              go_wp2_with fail
              by_cases q0 : isR x
              · replace q0 := Lib.hid q0
                refine (ref_isReg x true _ (by simp; exact q0.out)).mono ?_
                rintro e w' ⟨rfl, rfl⟩
                by_cases q1 : z = 0
                · replace q1 := Lib.hid q1
                  have e1 : (z == 0) = true := by simp [q1.out]
                  by_cases q2 : u = 0
                  · replace q2 := Lib.hid q2
                    have e2 : (u == 0) = true := by simp [q2.out]
                    go_wp2
                    go_roundw
                    case rel =>
                      refine ⟨j + 1, by omega, by go_num, HGO.out ?_, bD2, hal⟩
                      have p0 := q0.out
                      have p1 := q1.out
                      have p2 := q2.out
                      exact (ok_1).2 ⟨p0, p1, p2⟩
                    case measure => simp [intOf]; omega
                  · replace q2 := Lib.hid q2
                    have e2 : (u == 0) = false := by simp [q2.out]
                    go_wp2
                    go_ret
                    exact ⟨ret_bool (HBAD.out (fun hok => q2.out ((ok_1).1 hok).2.2)).symm, hal⟩
                · replace q1 := Lib.hid q1
                  have e1 : (z == 0) = false := by simp [q1.out]
                  go_wp2
                  go_ret
                  exact ⟨ret_bool (HBAD.out (fun hok => q1.out ((ok_1).1 hok).2.1)).symm, hal⟩
              · replace q0 := Lib.hid q0
                refine (ref_isReg x false _ (by simp; exact q0.out)).mono ?_
                rintro e w' ⟨rfl, rfl⟩
                go_wp2
                go_ret
                exact ⟨ret_bool (HBAD.out (fun hok => q0.out ((ok_1).1 hok).1)).symm, hal⟩
          · as_aux_lemma =>
              clear hk
              go_wp2_with fail
              by_cases q0 : isR x
              · replace q0 := Lib.hid q0
                refine (ref_isReg x true _ (by simp; exact q0.out)).mono ?_
                rintro e w' ⟨rfl, rfl⟩
                go_wp2_with fail
                by_cases q1 : isR y
                · replace q1 := Lib.hid q1
                  refine (ref_isReg y true _ (by simp; exact q1.out)).mono ?_
                  rintro e w' ⟨rfl, rfl⟩
                  by_cases q2 : z = 0
                  · replace q2 := Lib.hid q2
                    have e2 : (z == 0) = true := by simp [q2.out]
                    by_cases q3 : u = 0
                    · replace q3 := Lib.hid q3
                      have e3 : (u == 0) = true := by simp [q3.out]
                      go_wp2
                      go_roundw
                      case rel =>
                        refine ⟨j + 1, by omega, by go_num, HGO.out ?_, bD2, hal⟩
                        have p0 := q0.out
                        have p1 := q1.out
                        have p2 := q2.out
                        have p3 := q3.out
                        exact (ok_2).2 ⟨p0, p1, p2, p3⟩
                      case measure => simp [intOf]; omega
                    · replace q3 := Lib.hid q3
                      have e3 : (u == 0) = false := by simp [q3.out]
                      go_wp2
                      go_ret
                      exact ⟨ret_bool (HBAD.out (fun hok => q3.out ((ok_2).1 hok).2.2.2)).symm, hal⟩
                  · replace q2 := Lib.hid q2
                    have e2 : (z == 0) = false := by simp [q2.out]
                    go_wp2
                    go_ret
                    exact ⟨ret_bool (HBAD.out (fun hok => q2.out ((ok_2).1 hok).2.2.1)).symm, hal⟩
                · replace q1 := Lib.hid q1
                  refine (ref_isReg y false _ (by simp; exact q1.out)).mono ?_
                  rintro e w' ⟨rfl, rfl⟩
                  go_wp2
                  go_ret
                  exact ⟨ret_bool (HBAD.out (fun hok => q1.out ((ok_2).1 hok).2.1)).symm, hal⟩
              · replace q0 := Lib.hid q0
                refine (ref_isReg x false _ (by simp; exact q0.out)).mono ?_
                rintro e w' ⟨rfl, rfl⟩
                go_wp2
                go_ret
                exact ⟨ret_bool (HBAD.out (fun hok => q0.out ((ok_2).1 hok).1)).symm, hal⟩
          · as_aux_lemma =>
              clear hk
              go_wp2_with fail
              by_cases q0 : isR x
              · replace q0 := Lib.hid q0
                refine (ref_isReg x true _ (by simp; exact q0.out)).mono ?_
                rintro e w' ⟨rfl, rfl⟩
                go_wp2_with fail
                by_cases q1 : isR y
                · replace q1 := Lib.hid q1
                  refine (ref_isReg y true _ (by simp; exact q1.out)).mono ?_
                  rintro e w' ⟨rfl, rfl⟩
                  go_wp2_with fail
                  by_cases q2 : isR z
                  · replace q2 := Lib.hid q2
                    refine (ref_isReg z true _ (by simp; exact q2.out)).mono ?_
                    rintro e w' ⟨rfl, rfl⟩
                    by_cases q3 : u = 0
                    · replace q3 := Lib.hid q3
                      have e3 : (u == 0) = true := by simp [q3.out]
                      go_wp2
                      go_roundw
                      case rel =>
                        refine ⟨j + 1, by omega, by go_num, HGO.out ?_, bD2, hal⟩
                        have p0 := q0.out
                        have p1 := q1.out
                        have p2 := q2.out
                        have p3 := q3.out
                        exact (ok_3).2 ⟨p0, p1, p2, p3⟩
                      case measure => simp [intOf]; omega
                    · replace q3 := Lib.hid q3
                      have e3 : (u == 0) = false := by simp [q3.out]
                      go_wp2
                      go_ret
                      exact ⟨ret_bool (HBAD.out (fun hok => q3.out ((ok_3).1 hok).2.2.2)).symm, hal⟩
                  · replace q2 := Lib.hid q2
                    refine (ref_isReg z false _ (by simp; exact q2.out)).mono ?_
                    rintro e w' ⟨rfl, rfl⟩
                    go_wp2
                    go_ret
                    exact ⟨ret_bool (HBAD.out (fun hok => q2.out ((ok_3).1 hok).2.2.1)).symm, hal⟩
                · replace q1 := Lib.hid q1
                  refine (ref_isReg y false _ (by simp; exact q1.out)).mono ?_
                  rintro e w' ⟨rfl, rfl⟩
                  go_wp2
                  go_ret
                  exact ⟨ret_bool (HBAD.out (fun hok => q1.out ((ok_3).1 hok).2.1)).symm, hal⟩
              · replace q0 := Lib.hid q0
                refine (ref_isReg x false _ (by simp; exact q0.out)).mono ?_
                rintro e w' ⟨rfl, rfl⟩
                go_wp2
                go_ret
                exact ⟨ret_bool (HBAD.out (fun hok => q0.out ((ok_3).1 hok).1)).symm, hal⟩
          · as_aux_lemma =>
              clear hk
              go_wp2_with fail
              by_cases q0 : isR x
              · replace q0 := Lib.hid q0
                refine (ref_isReg x true _ (by simp; exact q0.out)).mono ?_
                rintro e w' ⟨rfl, rfl⟩
                go_wp2_with fail
                by_cases q1 : isR y
                · replace q1 := Lib.hid q1
                  refine (ref_isReg y true _ (by simp; exact q1.out)).mono ?_
                  rintro e w' ⟨rfl, rfl⟩
                  go_wp2_with fail
                  by_cases q2 : isR z
                  · replace q2 := Lib.hid q2
                    refine (ref_isReg z true _ (by simp; exact q2.out)).mono ?_
                    rintro e w' ⟨rfl, rfl⟩
                    by_cases q3 : u = 0
                    · replace q3 := Lib.hid q3
                      have e3 : (u == 0) = true := by simp [q3.out]
                      go_wp2
                      go_roundw
                      case rel =>
                        refine ⟨j + 1, by omega, by go_num, HGO.out ?_, bD2, hal⟩
                        have p0 := q0.out
                        have p1 := q1.out
                        have p2 := q2.out
                        have p3 := q3.out
                        exact (ok_4).2 ⟨p0, p1, p2, p3⟩
                      case measure => simp [intOf]; omega
                    · replace q3 := Lib.hid q3
                      have e3 : (u == 0) = false := by simp [q3.out]
                      go_wp2
                      go_ret
                      exact ⟨ret_bool (HBAD.out (fun hok => q3.out ((ok_4).1 hok).2.2.2)).symm, hal⟩
                  · replace q2 := Lib.hid q2
                    refine (ref_isReg z false _ (by simp; exact q2.out)).mono ?_
                    rintro e w' ⟨rfl, rfl⟩
                    go_wp2
                    go_ret
                    exact ⟨ret_bool (HBAD.out (fun hok => q2.out ((ok_4).1 hok).2.2.1)).symm, hal⟩
                · replace q1 := Lib.hid q1
                  refine (ref_isReg y false _ (by simp; exact q1.out)).mono ?_
                  rintro e w' ⟨rfl, rfl⟩
                  go_wp2
                  go_ret
                  exact ⟨ret_bool (HBAD.out (fun hok => q1.out ((ok_4).1 hok).2.1)).symm, hal⟩
              · replace q0 := Lib.hid q0
                refine (ref_isReg x false _ (by simp; exact q0.out)).mono ?_
                rintro e w' ⟨rfl, rfl⟩
                go_wp2
                go_ret
                exact ⟨ret_bool (HBAD.out (fun hok => q0.out ((ok_4).1 hok).1)).symm, hal⟩
          · as_aux_lemma =>
              clear hk
              go_wp2_with fail
              by_cases q0 : isR x
              · replace q0 := Lib.hid q0
                refine (ref_isReg x true _ (by simp; exact q0.out)).mono ?_
                rintro e w' ⟨rfl, rfl⟩
                go_wp2_with fail
                by_cases q1 : isR y
                · replace q1 := Lib.hid q1
                  refine (ref_isReg y true _ (by simp; exact q1.out)).mono ?_
                  rintro e w' ⟨rfl, rfl⟩
                  go_wp2_with fail
                  by_cases q2 : isR z
                  · replace q2 := Lib.hid q2
                    refine (ref_isReg z true _ (by simp; exact q2.out)).mono ?_
                    rintro e w' ⟨rfl, rfl⟩
                    by_cases q3 : u = 0
                    · replace q3 := Lib.hid q3
                      have e3 : (u == 0) = true := by simp [q3.out]
                      go_wp2
                      go_roundw
                      case rel =>
                        refine ⟨j + 1, by omega, by go_num, HGO.out ?_, bD2, hal⟩
                        have p0 := q0.out
                        have p1 := q1.out
                        have p2 := q2.out
                        have p3 := q3.out
                        exact (ok_5).2 ⟨p0, p1, p2, p3⟩
                      case measure => simp [intOf]; omega
                    · replace q3 := Lib.hid q3
                      have e3 : (u == 0) = false := by simp [q3.out]
                      go_wp2
                      go_ret
                      exact ⟨ret_bool (HBAD.out (fun hok => q3.out ((ok_5).1 hok).2.2.2)).symm, hal⟩
                  · replace q2 := Lib.hid q2
                    refine (ref_isReg z false _ (by simp; exact q2.out)).mono ?_
                    rintro e w' ⟨rfl, rfl⟩
                    go_wp2
                    go_ret
                    exact ⟨ret_bool (HBAD.out (fun hok => q2.out ((ok_5).1 hok).2.2.1)).symm, hal⟩
                · replace q1 := Lib.hid q1
                  refine (ref_isReg y false _ (by simp; exact q1.out)).mono ?_
                  rintro e w' ⟨rfl, rfl⟩
                  go_wp2
                  go_ret
                  exact ⟨ret_bool (HBAD.out (fun hok => q1.out ((ok_5).1 hok).2.1)).symm, hal⟩
              · replace q0 := Lib.hid q0
                refine (ref_isReg x false _ (by simp; exact q0.out)).mono ?_
                rintro e w' ⟨rfl, rfl⟩
                go_wp2
                go_ret
                exact ⟨ret_bool (HBAD.out (fun hok => q0.out ((ok_5).1 hok).1)).symm, hal⟩
          · as_aux_lemma =>
              clear hk
              go_wp2_with fail
              by_cases q0 : isR x
              · replace q0 := Lib.hid q0
                refine (ref_isReg x true _ (by simp; exact q0.out)).mono ?_
                rintro e w' ⟨rfl, rfl⟩
                go_wp2_with fail
                by_cases q1 : isR y
                · replace q1 := Lib.hid q1
                  refine (ref_isReg y true _ (by simp; exact q1.out)).mono ?_
                  rintro e w' ⟨rfl, rfl⟩
                  go_wp2_with fail
                  by_cases q2 : isR z
                  · replace q2 := Lib.hid q2
                    refine (ref_isReg z true _ (by simp; exact q2.out)).mono ?_
                    rintro e w' ⟨rfl, rfl⟩
                    by_cases q3 : u = 0
                    · replace q3 := Lib.hid q3
                      have e3 : (u == 0) = true := by simp [q3.out]
                      go_wp2
                      go_roundw
                      case rel =>
                        refine ⟨j + 1, by omega, by go_num, HGO.out ?_, bD2, hal⟩
                        have p0 := q0.out
                        have p1 := q1.out
                        have p2 := q2.out
                        have p3 := q3.out
                        exact (ok_6).2 ⟨p0, p1, p2, p3⟩
                      case measure => simp [intOf]; omega
                    · replace q3 := Lib.hid q3
                      have e3 : (u == 0) = false := by simp [q3.out]
                      go_wp2
                      go_ret
                      exact ⟨ret_bool (HBAD.out (fun hok => q3.out ((ok_6).1 hok).2.2.2)).symm, hal⟩
                  · replace q2 := Lib.hid q2
                    refine (ref_isReg z false _ (by simp; exact q2.out)).mono ?_
                    rintro e w' ⟨rfl, rfl⟩
                    go_wp2
                    go_ret
                    exact ⟨ret_bool (HBAD.out (fun hok => q2.out ((ok_6).1 hok).2.2.1)).symm, hal⟩
                · replace q1 := Lib.hid q1
                  refine (ref_isReg y false _ (by simp; exact q1.out)).mono ?_
                  rintro e w' ⟨rfl, rfl⟩
                  go_wp2
                  go_ret
                  exact ⟨ret_bool (HBAD.out (fun hok => q1.out ((ok_6).1 hok).2.1)).symm, hal⟩
              · replace q0 := Lib.hid q0
                refine (ref_isReg x false _ (by simp; exact q0.out)).mono ?_
                rintro e w' ⟨rfl, rfl⟩
                go_wp2
                go_ret
                exact ⟨ret_bool (HBAD.out (fun hok => q0.out ((ok_6).1 hok).1)).symm, hal⟩
          · as_aux_lemma =>
              clear hk
              go_wp2_with fail
              by_cases q0 : isR x
              · replace q0 := Lib.hid q0
                refine (ref_isReg x true _ (by simp; exact q0.out)).mono ?_
                rintro e w' ⟨rfl, rfl⟩
                go_wp2_with fail
                by_cases q1 : isR y
                · replace q1 := Lib.hid q1
                  refine (ref_isReg y true _ (by simp; exact q1.out)).mono ?_
                  rintro e w' ⟨rfl, rfl⟩
                  go_wp2_with fail
                  by_cases q2 : isR z
                  · replace q2 := Lib.hid q2
                    refine (ref_isReg z true _ (by simp; exact q2.out)).mono ?_
                    rintro e w' ⟨rfl, rfl⟩
                    by_cases q3 : u = 0
                    · replace q3 := Lib.hid q3
                      have e3 : (u == 0) = true := by simp [q3.out]
                      go_wp2
                      go_roundw
                      case rel =>
                        refine ⟨j + 1, by omega, by go_num, HGO.out ?_, bD2, hal⟩
                        have p0 := q0.out
                        have p1 := q1.out
                        have p2 := q2.out
                        have p3 := q3.out
                        exact (ok_7).2 ⟨p0, p1, p2, p3⟩
                      case measure => simp [intOf]; omega
                    · replace q3 := Lib.hid q3
                      have e3 : (u == 0) = false := by simp [q3.out]
                      go_wp2
                      go_ret
                      exact ⟨ret_bool (HBAD.out (fun hok => q3.out ((ok_7).1 hok).2.2.2)).symm, hal⟩
                  · replace q2 := Lib.hid q2
                    refine (ref_isReg z false _ (by simp; exact q2.out)).mono ?_
                    rintro e w' ⟨rfl, rfl⟩
                    go_wp2
                    go_ret
                    exact ⟨ret_bool (HBAD.out (fun hok => q2.out ((ok_7).1 hok).2.2.1)).symm, hal⟩
                · replace q1 := Lib.hid q1
                  refine (ref_isReg y false _ (by simp; exact q1.out)).mono ?_
                  rintro e w' ⟨rfl, rfl⟩
                  go_wp2
                  go_ret
                  exact ⟨ret_bool (HBAD.out (fun hok => q1.out ((ok_7).1 hok).2.1)).symm, hal⟩
              · replace q0 := Lib.hid q0
                refine (ref_isReg x false _ (by simp; exact q0.out)).mono ?_
                rintro e w' ⟨rfl, rfl⟩
                go_wp2
                go_ret
                exact ⟨ret_bool (HBAD.out (fun hok => q0.out ((ok_7).1 hok).1)).symm, hal⟩
          · as_aux_lemma =>
              clear hk
              go_wp2_with fail
              by_cases q0 : isR x
              · replace q0 := Lib.hid q0
                refine (ref_isReg x true _ (by simp; exact q0.out)).mono ?_
                rintro e w' ⟨rfl, rfl⟩
                go_wp2_with fail
                by_cases q1 : isR y
                · replace q1 := Lib.hid q1
                  refine (ref_isReg y true _ (by simp; exact q1.out)).mono ?_
                  rintro e w' ⟨rfl, rfl⟩
                  go_wp2_with fail
                  by_cases q2 : isR z
                  · replace q2 := Lib.hid q2
                    refine (ref_isReg z true _ (by simp; exact q2.out)).mono ?_
                    rintro e w' ⟨rfl, rfl⟩
                    by_cases q3 : u = 0
                    · replace q3 := Lib.hid q3
                      have e3 : (u == 0) = true := by simp [q3.out]
                      go_wp2
                      go_roundw
                      case rel =>
                        refine ⟨j + 1, by omega, by go_num, HGO.out ?_, bD2, hal⟩
                        have p0 := q0.out
                        have p1 := q1.out
                        have p2 := q2.out
                        have p3 := q3.out
                        exact (ok_8).2 ⟨p0, p1, p2, p3⟩
                      case measure => simp [intOf]; omega
                    · replace q3 := Lib.hid q3
                      have e3 : (u == 0) = false := by simp [q3.out]
                      go_wp2
                      go_ret
                      exact ⟨ret_bool (HBAD.out (fun hok => q3.out ((ok_8).1 hok).2.2.2)).symm, hal⟩
                  · replace q2 := Lib.hid q2
                    refine (ref_isReg z false _ (by simp; exact q2.out)).mono ?_
                    rintro e w' ⟨rfl, rfl⟩
                    go_wp2
                    go_ret
                    exact ⟨ret_bool (HBAD.out (fun hok => q2.out ((ok_8).1 hok).2.2.1)).symm, hal⟩
                · replace q1 := Lib.hid q1
                  refine (ref_isReg y false _ (by simp; exact q1.out)).mono ?_
                  rintro e w' ⟨rfl, rfl⟩
                  go_wp2
                  go_ret
                  exact ⟨ret_bool (HBAD.out (fun hok => q1.out ((ok_8).1 hok).2.1)).symm, hal⟩
              · replace q0 := Lib.hid q0
                refine (ref_isReg x false _ (by simp; exact q0.out)).mono ?_
                rintro e w' ⟨rfl, rfl⟩
                go_wp2
                go_ret
                exact ⟨ret_bool (HBAD.out (fun hok => q0.out ((ok_8).1 hok).1)).symm, hal⟩
          · as_aux_lemma =>
              clear hk
              go_wp2_with fail
              by_cases q0 : isR x
              · replace q0 := Lib.hid q0
                refine (ref_isReg x true _ (by simp; exact q0.out)).mono ?_
                rintro e w' ⟨rfl, rfl⟩
                go_wp2_with fail
                by_cases q1 : isR y
                · replace q1 := Lib.hid q1
                  refine (ref_isReg y true _ (by simp; exact q1.out)).mono ?_
                  rintro e w' ⟨rfl, rfl⟩
                  go_wp2_with fail
                  by_cases q2 : isR z
                  · replace q2 := Lib.hid q2
                    refine (ref_isReg z true _ (by simp; exact q2.out)).mono ?_
                    rintro e w' ⟨rfl, rfl⟩
                    by_cases q3 : u = 0
                    · replace q3 := Lib.hid q3
                      have e3 : (u == 0) = true := by simp [q3.out]
                      go_wp2
                      go_roundw
                      case rel =>
                        refine ⟨j + 1, by omega, by go_num, HGO.out ?_, bD2, hal⟩
                        have p0 := q0.out
                        have p1 := q1.out
                        have p2 := q2.out
                        have p3 := q3.out
                        exact (ok_9).2 ⟨p0, p1, p2, p3⟩
                      case measure => simp [intOf]; omega
                    · replace q3 := Lib.hid q3
                      have e3 : (u == 0) = false := by simp [q3.out]
                      go_wp2
                      go_ret
                      exact ⟨ret_bool (HBAD.out (fun hok => q3.out ((ok_9).1 hok).2.2.2)).symm, hal⟩
                  · replace q2 := Lib.hid q2
                    refine (ref_isReg z false _ (by simp; exact q2.out)).mono ?_
                    rintro e w' ⟨rfl, rfl⟩
                    go_wp2
                    go_ret
                    exact ⟨ret_bool (HBAD.out (fun hok => q2.out ((ok_9).1 hok).2.2.1)).symm, hal⟩
                · replace q1 := Lib.hid q1
                  refine (ref_isReg y false _ (by simp; exact q1.out)).mono ?_
                  rintro e w' ⟨rfl, rfl⟩
                  go_wp2
                  go_ret
                  exact ⟨ret_bool (HBAD.out (fun hok => q1.out ((ok_9).1 hok).2.1)).symm, hal⟩
              · replace q0 := Lib.hid q0
                refine (ref_isReg x false _ (by simp; exact q0.out)).mono ?_
                rintro e w' ⟨rfl, rfl⟩
                go_wp2
                go_ret
                exact ⟨ret_bool (HBAD.out (fun hok => q0.out ((ok_9).1 hok).1)).symm, hal⟩
          · as_aux_lemma =>
              clear hk
              go_wp2_with fail
              by_cases q0 : isT n x
              · replace q0 := Lib.hid q0
                refine (ref_place x true _ w.heap.size n c _ gD2 hn2 (by simp; exact q0.out)).mono ?_
                rintro e w' ⟨rfl, rfl⟩
                by_cases q1 : y = 0
                · replace q1 := Lib.hid q1
                  have e1 : (y == 0) = true := by simp [q1.out]
                  by_cases q2 : z = 0
                  · replace q2 := Lib.hid q2
                    have e2 : (z == 0) = true := by simp [q2.out]
                    by_cases q3 : u = 0
                    · replace q3 := Lib.hid q3
                      have e3 : (u == 0) = true := by simp [q3.out]
                      go_wp2
                      go_roundw
                      case rel =>
                        refine ⟨j + 1, by omega, by go_num, HGO.out ?_, bD2, hal⟩
                        have p0 := q0.out
                        have p1 := q1.out
                        have p2 := q2.out
                        have p3 := q3.out
                        exact (ok_10).2 ⟨p0, p1, p2, p3⟩
                      case measure => simp [intOf]; omega
                    · replace q3 := Lib.hid q3
                      have e3 : (u == 0) = false := by simp [q3.out]
                      go_wp2
                      go_ret
                      exact ⟨ret_bool (HBAD.out (fun hok => q3.out ((ok_10).1 hok).2.2.2)).symm, hal⟩
                  · replace q2 := Lib.hid q2
                    have e2 : (z == 0) = false := by simp [q2.out]
                    go_wp2
                    go_ret
                    exact ⟨ret_bool (HBAD.out (fun hok => q2.out ((ok_10).1 hok).2.2.1)).symm, hal⟩
                · replace q1 := Lib.hid q1
                  have e1 : (y == 0) = false := by simp [q1.out]
                  go_wp2
                  go_ret
                  exact ⟨ret_bool (HBAD.out (fun hok => q1.out ((ok_10).1 hok).2.1)).symm, hal⟩
              · replace q0 := Lib.hid q0
                refine (ref_place x false _ w.heap.size n c _ gD2 hn2 (by simp; exact q0.out)).mono ?_
                rintro e w' ⟨rfl, rfl⟩
                go_wp2
                go_ret
                exact ⟨ret_bool (HBAD.out (fun hok => q0.out ((ok_10).1 hok).1)).symm, hal⟩
          · as_aux_lemma =>
              clear hk
              go_wp2_with fail
              by_cases q0 : isR x
              · replace q0 := Lib.hid q0
                refine (ref_isReg x true _ (by simp; exact q0.out)).mono ?_
                rintro e w' ⟨rfl, rfl⟩
                go_wp2_with fail
                by_cases q1 : isT n y
                · replace q1 := Lib.hid q1
                  refine (ref_place y true _ w.heap.size n c _ gD2 hn2 (by simp; exact q1.out)).mono ?_
                  rintro e w' ⟨rfl, rfl⟩
                  by_cases q2 : z = 0
                  · replace q2 := Lib.hid q2
                    have e2 : (z == 0) = true := by simp [q2.out]
                    by_cases q3 : u = 0
                    · replace q3 := Lib.hid q3
                      have e3 : (u == 0) = true := by simp [q3.out]
                      go_wp2
                      go_roundw
                      case rel =>
                        refine ⟨j + 1, by omega, by go_num, HGO.out ?_, bD2, hal⟩
                        have p0 := q0.out
                        have p1 := q1.out
                        have p2 := q2.out
                        have p3 := q3.out
                        exact (ok_11).2 ⟨p0, p1, p2, p3⟩
                      case measure => simp [intOf]; omega
                    · replace q3 := Lib.hid q3
                      have e3 : (u == 0) = false := by simp [q3.out]
                      go_wp2
                      go_ret
                      exact ⟨ret_bool (HBAD.out (fun hok => q3.out ((ok_11).1 hok).2.2.2)).symm, hal⟩
                  · replace q2 := Lib.hid q2
                    have e2 : (z == 0) = false := by simp [q2.out]
                    go_wp2
                    go_ret
                    exact ⟨ret_bool (HBAD.out (fun hok => q2.out ((ok_11).1 hok).2.2.1)).symm, hal⟩
                · replace q1 := Lib.hid q1
                  refine (ref_place y false _ w.heap.size n c _ gD2 hn2 (by simp; exact q1.out)).mono ?_
                  rintro e w' ⟨rfl, rfl⟩
                  go_wp2
                  go_ret
                  exact ⟨ret_bool (HBAD.out (fun hok => q1.out ((ok_11).1 hok).2.1)).symm, hal⟩
              · replace q0 := Lib.hid q0
                refine (ref_isReg x false _ (by simp; exact q0.out)).mono ?_
                rintro e w' ⟨rfl, rfl⟩
                go_wp2
                go_ret
                exact ⟨ret_bool (HBAD.out (fun hok => q0.out ((ok_11).1 hok).1)).symm, hal⟩
          · as_aux_lemma =>
              clear hk
              go_wp2_with fail
              by_cases q0 : isR x
              · replace q0 := Lib.hid q0
                refine (ref_isReg x true _ (by simp; exact q0.out)).mono ?_
                rintro e w' ⟨rfl, rfl⟩
                go_wp2_with fail
                by_cases q1 : isT n y
                · replace q1 := Lib.hid q1
                  refine (ref_place y true _ w.heap.size n c _ gD2 hn2 (by simp; exact q1.out)).mono ?_
                  rintro e w' ⟨rfl, rfl⟩
                  by_cases q2 : z = 0
                  · replace q2 := Lib.hid q2
                    have e2 : (z == 0) = true := by simp [q2.out]
                    by_cases q3 : u = 0
                    · replace q3 := Lib.hid q3
                      have e3 : (u == 0) = true := by simp [q3.out]
                      go_wp2
                      go_roundw
                      case rel =>
                        refine ⟨j + 1, by omega, by go_num, HGO.out ?_, bD2, hal⟩
                        have p0 := q0.out
                        have p1 := q1.out
                        have p2 := q2.out
                        have p3 := q3.out
                        exact (ok_12).2 ⟨p0, p1, p2, p3⟩
                      case measure => simp [intOf]; omega
                    · replace q3 := Lib.hid q3
                      have e3 : (u == 0) = false := by simp [q3.out]
                      go_wp2
                      go_ret
                      exact ⟨ret_bool (HBAD.out (fun hok => q3.out ((ok_12).1 hok).2.2.2)).symm, hal⟩
                  · replace q2 := Lib.hid q2
                    have e2 : (z == 0) = false := by simp [q2.out]
                    go_wp2
                    go_ret
                    exact ⟨ret_bool (HBAD.out (fun hok => q2.out ((ok_12).1 hok).2.2.1)).symm, hal⟩
                · replace q1 := Lib.hid q1
                  refine (ref_place y false _ w.heap.size n c _ gD2 hn2 (by simp; exact q1.out)).mono ?_
                  rintro e w' ⟨rfl, rfl⟩
                  go_wp2
                  go_ret
                  exact ⟨ret_bool (HBAD.out (fun hok => q1.out ((ok_12).1 hok).2.1)).symm, hal⟩
              · replace q0 := Lib.hid q0
                refine (ref_isReg x false _ (by simp; exact q0.out)).mono ?_
                rintro e w' ⟨rfl, rfl⟩
                go_wp2
                go_ret
                exact ⟨ret_bool (HBAD.out (fun hok => q0.out ((ok_12).1 hok).1)).symm, hal⟩
          · as_aux_lemma =>
              clear hk
              go_wp2_with fail
              by_cases q0 : isR x
              · replace q0 := Lib.hid q0
                refine (ref_isReg x true _ (by simp; exact q0.out)).mono ?_
                rintro e w' ⟨rfl, rfl⟩
                go_wp2_with fail
                by_cases q1 : isR y
                · replace q1 := Lib.hid q1
                  refine (ref_isReg y true _ (by simp; exact q1.out)).mono ?_
                  rintro e w' ⟨rfl, rfl⟩
                  by_cases q2 : u = 0
                  · replace q2 := Lib.hid q2
                    have e2 : (u == 0) = true := by simp [q2.out]
                    go_wp2
                    go_roundw
                    case rel =>
                      refine ⟨j + 1, by omega, by go_num, HGO.out ?_, bD2, hal⟩
                      have p0 := q0.out
                      have p1 := q1.out
                      have p2 := q2.out
                      exact (ok_13).2 ⟨p0, p1, p2⟩
                    case measure => simp [intOf]; omega
                  · replace q2 := Lib.hid q2
                    have e2 : (u == 0) = false := by simp [q2.out]
                    go_wp2
                    go_ret
                    exact ⟨ret_bool (HBAD.out (fun hok => q2.out ((ok_13).1 hok).2.2)).symm, hal⟩
                · replace q1 := Lib.hid q1
                  refine (ref_isReg y false _ (by simp; exact q1.out)).mono ?_
                  rintro e w' ⟨rfl, rfl⟩
                  go_wp2
                  go_ret
                  exact ⟨ret_bool (HBAD.out (fun hok => q1.out ((ok_13).1 hok).2.1)).symm, hal⟩
              · replace q0 := Lib.hid q0
                refine (ref_isReg x false _ (by simp; exact q0.out)).mono ?_
                rintro e w' ⟨rfl, rfl⟩
                go_wp2
                go_ret
                exact ⟨ret_bool (HBAD.out (fun hok => q0.out ((ok_13).1 hok).1)).symm, hal⟩
          · as_aux_lemma =>
              clear hk
              go_wp2_with fail
              by_cases q0 : isR x
              · replace q0 := Lib.hid q0
                refine (ref_isReg x true _ (by simp; exact q0.out)).mono ?_
                rintro e w' ⟨rfl, rfl⟩
                go_wp2_with fail
                by_cases q1 : isR y
                · replace q1 := Lib.hid q1
                  refine (ref_isReg y true _ (by simp; exact q1.out)).mono ?_
                  rintro e w' ⟨rfl, rfl⟩
                  by_cases q2 : u = 0
                  · replace q2 := Lib.hid q2
                    have e2 : (u == 0) = true := by simp [q2.out]
                    go_wp2
                    go_roundw
                    case rel =>
                      refine ⟨j + 1, by omega, by go_num, HGO.out ?_, bD2, hal⟩
                      have p0 := q0.out
                      have p1 := q1.out
                      have p2 := q2.out
                      exact (ok_14).2 ⟨p0, p1, p2⟩
                    case measure => simp [intOf]; omega
                  · replace q2 := Lib.hid q2
                    have e2 : (u == 0) = false := by simp [q2.out]
                    go_wp2
                    go_ret
                    exact ⟨ret_bool (HBAD.out (fun hok => q2.out ((ok_14).1 hok).2.2)).symm, hal⟩
                · replace q1 := Lib.hid q1
                  refine (ref_isReg y false _ (by simp; exact q1.out)).mono ?_
                  rintro e w' ⟨rfl, rfl⟩
                  go_wp2
                  go_ret
                  exact ⟨ret_bool (HBAD.out (fun hok => q1.out ((ok_14).1 hok).2.1)).symm, hal⟩
              · replace q0 := Lib.hid q0
                refine (ref_isReg x false _ (by simp; exact q0.out)).mono ?_
                rintro e w' ⟨rfl, rfl⟩
                go_wp2
                go_ret
                exact ⟨ret_bool (HBAD.out (fun hok => q0.out ((ok_14).1 hok).1)).symm, hal⟩
          · as_aux_lemma =>
              clear hk
              go_wp2_with fail
              by_cases q0 : isR x
              · replace q0 := Lib.hid q0
                refine (ref_isReg x true _ (by simp; exact q0.out)).mono ?_
                rintro e w' ⟨rfl, rfl⟩
                go_wp2_with fail
                by_cases q1 : isR y
                · replace q1 := Lib.hid q1
                  refine (ref_isReg y true _ (by simp; exact q1.out)).mono ?_
                  rintro e w' ⟨rfl, rfl⟩
                  go_wp2_with fail
                  by_cases q2 : isR u
                  · replace q2 := Lib.hid q2
                    refine (ref_isReg u true _ (by simp; exact q2.out)).mono ?_
                    rintro e w' ⟨rfl, rfl⟩
                    go_wp2
                    go_roundw
                    case rel =>
                      refine ⟨j + 1, by omega, by go_num, HGO.out ?_, bD2, hal⟩
                      have p0 := q0.out
                      have p1 := q1.out
                      have p2 := q2.out
                      exact (ok_15).2 ⟨p0, p1, p2⟩
                    case measure => simp [intOf]; omega
                  · replace q2 := Lib.hid q2
                    refine (ref_isReg u false _ (by simp; exact q2.out)).mono ?_
                    rintro e w' ⟨rfl, rfl⟩
                    go_wp2
                    go_ret
                    exact ⟨ret_bool (HBAD.out (fun hok => q2.out ((ok_15).1 hok).2.2)).symm, hal⟩
                · replace q1 := Lib.hid q1
                  refine (ref_isReg y false _ (by simp; exact q1.out)).mono ?_
                  rintro e w' ⟨rfl, rfl⟩
                  go_wp2
                  go_ret
                  exact ⟨ret_bool (HBAD.out (fun hok => q1.out ((ok_15).1 hok).2.1)).symm, hal⟩
              · replace q0 := Lib.hid q0
                refine (ref_isReg x false _ (by simp; exact q0.out)).mono ?_
                rintro e w' ⟨rfl, rfl⟩
                go_wp2
                go_ret
                exact ⟨ret_bool (HBAD.out (fun hok => q0.out ((ok_15).1 hok).1)).symm, hal⟩
          · as_aux_lemma =>
              clear hk
              go_wp2_with fail
              by_cases q0 : isR x
              · replace q0 := Lib.hid q0
                refine (ref_isReg x true _ (by simp; exact q0.out)).mono ?_
                rintro e w' ⟨rfl, rfl⟩
                by_cases q1 : y = 0
                · replace q1 := Lib.hid q1
                  have e1 : (y == 0) = true := by simp [q1.out]
                  by_cases q2 : z = 0
                  · replace q2 := Lib.hid q2
                    have e2 : (z == 0) = true := by simp [q2.out]
                    by_cases q3 : u = 0
                    · replace q3 := Lib.hid q3
                      have e3 : (u == 0) = true := by simp [q3.out]
                      go_wp2
                      go_roundw
                      case rel =>
                        refine ⟨j + 1, by omega, by go_num, HGO.out ?_, bD2, hal⟩
                        have p0 := q0.out
                        have p1 := q1.out
                        have p2 := q2.out
                        have p3 := q3.out
                        exact (ok_16).2 ⟨p0, p1, p2, p3⟩
                      case measure => simp [intOf]; omega
                    · replace q3 := Lib.hid q3
                      have e3 : (u == 0) = false := by simp [q3.out]
                      go_wp2
                      go_ret
                      exact ⟨ret_bool (HBAD.out (fun hok => q3.out ((ok_16).1 hok).2.2.2)).symm, hal⟩
                  · replace q2 := Lib.hid q2
                    have e2 : (z == 0) = false := by simp [q2.out]
                    go_wp2
                    go_ret
                    exact ⟨ret_bool (HBAD.out (fun hok => q2.out ((ok_16).1 hok).2.2.1)).symm, hal⟩
                · replace q1 := Lib.hid q1
                  have e1 : (y == 0) = false := by simp [q1.out]
                  go_wp2
                  go_ret
                  exact ⟨ret_bool (HBAD.out (fun hok => q1.out ((ok_16).1 hok).2.1)).symm, hal⟩
              · replace q0 := Lib.hid q0
                refine (ref_isReg x false _ (by simp; exact q0.out)).mono ?_
                rintro e w' ⟨rfl, rfl⟩
                go_wp2
                go_ret
                exact ⟨ret_bool (HBAD.out (fun hok => q0.out ((ok_16).1 hok).1)).symm, hal⟩
          · as_aux_lemma =>
              clear hk
              by_cases q0 : x = 0
              · replace q0 := Lib.hid q0
                have e0 : (x == 0) = true := by simp [q0.out]
                by_cases q1 : y = 0
                · replace q1 := Lib.hid q1
                  have e1 : (y == 0) = true := by simp [q1.out]
                  by_cases q2 : z = 0
                  · replace q2 := Lib.hid q2
                    have e2 : (z == 0) = true := by simp [q2.out]
                    by_cases q3 : u = 0
                    · replace q3 := Lib.hid q3
                      have e3 : (u == 0) = true := by simp [q3.out]
                      go_wp2
                      go_roundw
                      case rel =>
                        refine ⟨j + 1, by omega, by go_num, HGO.out ?_, bD2, hal⟩
                        have p0 := q0.out
                        have p1 := q1.out
                        have p2 := q2.out
                        have p3 := q3.out
                        exact (ok_17).2 ⟨p0, p1, p2, p3⟩
                      case measure => simp [intOf]; omega
                    · replace q3 := Lib.hid q3
                      have e3 : (u == 0) = false := by simp [q3.out]
                      go_wp2
                      go_ret
                      exact ⟨ret_bool (HBAD.out (fun hok => q3.out ((ok_17).1 hok).2.2.2)).symm, hal⟩
                  · replace q2 := Lib.hid q2
                    have e2 : (z == 0) = false := by simp [q2.out]
                    go_wp2
                    go_ret
                    exact ⟨ret_bool (HBAD.out (fun hok => q2.out ((ok_17).1 hok).2.2.1)).symm, hal⟩
                · replace q1 := Lib.hid q1
                  have e1 : (y == 0) = false := by simp [q1.out]
                  go_wp2
                  go_ret
                  exact ⟨ret_bool (HBAD.out (fun hok => q1.out ((ok_17).1 hok).2.1)).symm, hal⟩
              · replace q0 := Lib.hid q0
                have e0 : (x == 0) = false := by simp [q0.out]
                go_wp2
                go_ret
                exact ⟨ret_bool (HBAD.out (fun hok => q0.out ((ok_17).1 hok).1)).symm, hal⟩
        · have hrf := HBAD.out (fun hok => hk (by unfold okI at hok; dsimp only at hok; omega))
          have e1 : (k == 1) = false := (by simp; omega); have e2 : (k == 2) = false := (by simp; omega); have e3 : (k == 3) = false := (by simp; omega); have e4 : (k == 4) = false := (by simp; omega); have e5 : (k == 5) = false := (by simp; omega); have e6 : (k == 6) = false := (by simp; omega); have e7 : (k == 7) = false := (by simp; omega); have e8 : (k == 8) = false := (by simp; omega); have e9 : (k == 9) = false := (by simp; omega); have e10 : (k == 10) = false := (by simp; omega); have e11 : (k == 11) = false := (by simp; omega); have e12 : (k == 12) = false := (by simp; omega); have e13 : (k == 13) = false := (by simp; omega); have e14 : (k == 14) = false := (by simp; omega); have e15 : (k == 15) = false := (by simp; omega); have e16 : (k == 16) = false := (by simp; omega); have e17 : (k == 17) = false := (by simp; omega)
          clear hk
          go_wp2
          go_ret
          exact ⟨ret_bool hrf.symm, hal⟩
      · go_wp2
        go_ret
        refine ⟨ret_bool ?_, hbel⟩
        refine (H.out.2 ⟨by rw [HL.out]; exact hn2, fun o ho => ?_⟩).symm
        have he := HC.out
        rw [List.take_of_length_le (by rw [HL.out]; omega)] at he
        rw [HL.out]
        exact he o ho
  · go_enter Tryd.func10, Tryd.ntmps10
    go_wp2
    go_ret
    refine ⟨ret_bool ?_, hA⟩
    cases r with
    | false => rfl
    | true =>
      have := (H.out.1 rfl).1
      rw [HL.out] at this
      omega
end Go.Proofs.YtjihopbapnfppabDoor
