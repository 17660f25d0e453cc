/- Of this claim's own texts these, one behind the other: Cell3, Cell4, CellOk, LibMid, RunPure6, Vm6. No statement of the seat is proved here; no condition but those that stand at the theorems. -/
import Derived.Test.YtjihopbapnfppabDoorPartAW
import Derived.Test.YtjihopbapnfppabDoorPartAG
import Derived.Test.YtjihopbapnfppabDoorPartAR
import Derived.Test.YtjihopbapnfppabDoorPartAU
import Derived.Deep.MidRow
import Derived.Test.YtjihopbapnfppabDoorPartAA
import Derived.Test.YtjihopbapnfppabDoorPartAV
import Derived.Laws.CopyOwn
set_option linter.unusedSimpArgs false
set_option linter.unusedVariables false
namespace Go.Proofs.YtjihopbapnfppabDoor
open Go.RowKit Go.Ord Go.Baro Go.Maps

/-- The codes as the builder makes them. -/
def putM (d : Nat) : Bs := cell_choose d (cell_mark d (Bs.new (numL d)))
def putS (d j : Nat) : Bs := (List.range j).foldl (fun (s : Bs) (i : Nat) => s.store (nmNum i) nm_copy (8 + (i : Int))) (putM d)
def putB (d : Nat) : Bs := cell_give ((putS d d).store nm_copy nm_zero 6)
def getM : Bs := cell_take (cell_sit (Bs.new []))
def getS (j : Nat) : Bs := (List.range j).foldl (fun (s : Bs) (i : Nat) => s.load (nmNum i) nm_copy (1 + (i : Int))) getM
def getB (d : Nat) : Bs := (((getS d).set nm_free 0).store nm_free nm_seat 2).emit (numL d)
instance : DecidableEq Ins := fun a b => by
  obtain ⟨a1, a2, a3, a4, a5⟩ := a
  obtain ⟨b1, b2, b3, b4, b5⟩ := b
  rw [Ins.mk.injEq]
  infer_instance
theorem putB_fin (d : Nat) (h1 : 1 ≤ d) (h6 : d ≤ 6) : (putB d).fin = some (Cel.putC d) ∧ (∀ j ∈ (putB d).jmps, 0 ≤ j.1 ∧ j.2.length ≤ 1000) ∧ (putB d).jmps.length ≤ 1000 := by
  rcases (by omega : d = 1 ∨ d = 2 ∨ d = 3 ∨ d = 4 ∨ d = 5 ∨ d = 6) with rfl | rfl | rfl | rfl | rfl | rfl <;> exact ⟨by kernel_rfl, by decide +kernel, by decide +kernel⟩
theorem getB_fin (d : Nat) (h1 : 1 ≤ d) (h6 : d ≤ 6) : (getB d).fin = some (Cel.getC d) ∧ (∀ j ∈ (getB d).jmps, 0 ≤ j.1 ∧ j.2.length ≤ 1000) ∧ (getB d).jmps.length ≤ 1000 := by
  rcases (by omega : d = 1 ∨ d = 2 ∨ d = 3 ∨ d = 4 ∨ d = 5 ∨ d = 6) with rfl | rfl | rfl | rfl | rfl | rfl <;> exact ⟨by kernel_rfl, by decide +kernel, by decide +kernel⟩
theorem numL_new (d : Nat) (h6 : d ≤ 6) : ∀ (j : Nat) l, (numL d)[j]? = some l → nmAsk (Bs.new ((numL d).take j)).regs l = none := by
  intro j l hl
  have hj : j < d := by have := (List.getElem?_eq_some_iff.1 hl).1; rw [numL_len] at this; exact this
  have he : l = nmNum j := by simp [numL, hj] at hl; exact hl.symm
  have ht : (numL d).take j = numL j := by simp [numL, ← List.map_take, List.take_range, Nat.min_eq_left (Nat.le_of_lt hj)]
  rw [ht, he]
  rcases (by omega : j = 0 ∨ j = 1 ∨ j = 2 ∨ j = 3 ∨ j = 4 ∨ j = 5) with rfl | rfl | rfl | rfl | rfl | rfl <;> decide +kernel
theorem numL_short (d : Nat) : ∀ x ∈ numL d, x.length ≤ 1000 := by
  intro x hx
  obtain ⟨i, _, rfl⟩ := List.mem_map.1 hx
  show 8 ≤ 1000
  omega
theorem numL_at {d j : Nat} (h : j < d) : (numL d)[j]? = some (nmNum j) := by simp [numL, h]
theorem labs_mark (d : Nat) (s : Bs) : (cell_mark d s).labs = s.labs := by
  unfold cell_mark
  rw [labs_fold (fun b a => by rw [labs_store, labs_load]), labs_store, labs_load, labs_set, labs_fold (fun b a => by rw [labs_store])]
theorem cell_valid (w : World) (d : Int) (hd : inW d) : Calls Tryd.prog 18 #[.int .i64 d] w fun e w' => e = .returned (.bool (decide (1 ≤ d ∧ d ≤ 6))) ∧ w = w' := by
  by_cases h1 : 1 ≤ d
  · by_cases h6 : d ≤ 6
    · go_enter Tryd.func18, Tryd.ntmps18
      go_wp2
      go_ret
      exact ⟨ret_bool (by simp [h1, h6]), rfl⟩
    · have h7 : 6 < d := by omega
      go_enter Tryd.func18, Tryd.ntmps18
      go_wp2
      go_ret
      exact ⟨ret_bool (by simp; omega), rfl⟩
  · have h7 : d < 1 := by omega
    go_enter Tryd.func18, Tryd.ntmps18
    go_wp2
    go_ret
    exact ⟨ret_bool (by simp; omega), rfl⟩
theorem own_cap {w : World} {B : Nat} {e : TypeId} {s n : Nat} {v : Value} {xs : List Value} (h : w.ownsRow B e s v n xs) : ∃ A k, v = .slice A n k ∧ n ≤ k ∧ k ≤ 9223372036854775807 := by
  rcases h.2 with ⟨rfl, rfl⟩ | ⟨g, cap, cur, rfl, _, _, h1, h2, _⟩
  · exact ⟨_, _, rfl, Nat.le_refl _, by omega⟩
  · exact ⟨_, _, rfl, h1, by unfold maxLen at h2; omega⟩
theorem eltIntC : Elt Tryd.prog 22 3 (.int .i64 0) 1 8 := Elt.mk' Tryd.underlying22 (by kernel_rfl) rfl (by decide)
set_option maxHeartbeats 1000000 in
theorem cell_Words : CellWordsSpec Cel.cc := by
  intro w d hd
  have hd' := hd
  unfold inW at hd'
  by_cases hx : 1 ≤ d ∧ d ≤ 6
  · obtain ⟨n, rfl⟩ : ∃ n : Nat, d = n := ⟨d.toNat, by omega⟩
    go_enter Tryd.func7, Tryd.ntmps7
    go_wp2_with fail
    refine (cell_valid _ _ hd).mono ?_
    rintro e w' ⟨he, rfl⟩
    rw [decide_eq_true hx] at he
    subst he
    go_wp2_with fail
    refine (cell_size _ n (by omega)).mono ?_
    rintro e w' ⟨rfl, rfl⟩
    go_wp2_with (refine make_all eltIntC w rfl _ _ rfl w.heap.size .i64 .i64 _ _ (7 + 5 * (1 + n)) rfl rfl (by omega) (by omega) (by omega) (by omega) (Nat.le_refl _) ?_; intro w1 hown1 hb1 hs1 hg1)
    go_ret2
    have hb := hb1 w (Below.refl _ _)
    refine ⟨fun _ => ?_, fun h => absurd hx h, hb⟩
    have hq := QT.own hown1
    refine ⟨_, _, _, rfl, Nat.le_refl _, by omega, ?_⟩
    rw [madeCells_one _ rfl] at hq
    simpa [Cel.cc, Cel.wsC] using hq
  · go_enter Tryd.func7, Tryd.ntmps7
    go_wp2_with fail
    refine (cell_valid _ _ hd).mono ?_
    rintro e w' ⟨he, rfl⟩
    rw [decide_eq_false hx] at he
    subst he
    go_wp2
    go_ret2
    exact ⟨fun h => absurd h hx, fun _ => ⟨_, _, rfl⟩, Below.refl _ _⟩
end Go.Proofs.YtjihopbapnfppabDoor

set_option linter.unusedSimpArgs false
set_option linter.unusedVariables false
namespace Go.Proofs.YtjihopbapnfppabDoor
open Go.RowKit Go.Ord Go.Baro Go.Maps

set_option maxRecDepth 100000 in
set_option maxHeartbeats 4000000 in
theorem cell_Put : CellCodeSpec 8 Cel.cc.cp := by
  intro w hT d hd
  have hd' := hd
  unfold inW at hd'
  by_cases hx : 1 ≤ d ∧ d ≤ 6
  · obtain ⟨n, rfl⟩ : ∃ n : Nat, d = n := ⟨d.toNat, by omega⟩
    have h1 : 1 ≤ n := by omega
    have h6 : n ≤ 6 := by omega
    have HT := Lib.hid hT
    clear hT
    go_enter Tryd.func8, Tryd.ntmps8
    go_wp2_with fail
    refine (cell_valid _ _ hd).mono ?_
    rintro e w' ⟨he, rfl⟩
    rw [decide_eq_true hx] at he
    subst he
    go_wp2_with fail
    refine (cell_numbers _ n h6).mono ?_
    rintro e w1 ⟨A, c, rfl, hc, hqn, hb1⟩
    have HQ := Lib.hid hqn
    clear hqn
    go_wp2_with fail
    refine (asm_New _ A n c (numL n) HQ.out (by omega) (numL_short n) (numL_new n h6)).mono ?_
    rintro e w2 ⟨b, rfl, H⟩
    have HP := Lib.hid H
    clear H
    go_wp2_with fail
    refine (cell_mark_ok _ w1.heap.size b n (Bs.new (numL n)) n HP.out.1 (by omega) h6).mono ?_
    rintro e w3 ⟨rfl, H⟩
    have HP3 := Lib.hid (HP.out.trans H)
    clear H HP
    go_wp2_with fail
    refine (cell_choose_ok _ w1.heap.size b _ (cell_mark n (Bs.new (numL n))) n HP3.out.1 (by omega) h6 (by rw [labs_mark, labs_new]; rfl)).mono ?_
    rintro e w4 ⟨rfl, H⟩
    have HP4 := Lib.hid (HP3.out.trans H)
    clear H HP3
    go_wp2
    go_loopw [23] (fun i wr => ∃ j : Nat, j ≤ n ∧ i = .int .i64 j ∧ Hid (AsmPost w1 w1.heap.size b (putS n j) (n + 47 + 15 + 3 * j) wr)) (fun i _ => n - (intOf i).toNat)
    case atStart => exact ⟨0, Nat.zero_le _, rfl, HP4.out⟩
    case round =>
      obtain ⟨j, hj, rfl, HPj⟩ := hrel
      by_cases hjn : j < n
      · obtain ⟨g, o, l, rfl, hgB, hcell, HXL⟩ := (HQ.out.kc HPj.out.2.1).val hjn
        obtain rfl : l = nmNum j := by have := HXL.out; rw [numL_at hjn] at this; injection this with h; exact h.symm
        go_wp2_with fail
        refine (asm_StoreE _ w1.heap.size b _ (putS n j) (nmNum j) nm_copy _ (8 + (j : Int)) (by first | rfl | omega) HPj.out.1 (by omega) (by show 8 ≤ 1000; omega) (by decide)).mono ?_
        rintro e w5 ⟨rfl, H⟩
        have HP5 := Lib.hid (HPj.out.trans H)
        clear H
        go_wp2
        go_roundw
        case rel =>
          refine ⟨j + 1, by omega, by go_num, ?_⟩
          unfold putS
          rw [List.range_succ, List.foldl_append, show n + 47 + 15 + 3 * (j + 1) = n + 47 + 15 + 3 * j + 3 by omega]
          exact HP5.out
        case measure => simp [intOf]; omega
      · obtain rfl : j = n := by omega
        go_wp2_with fail
        refine (asm_StoreE _ w1.heap.size b _ (putS j j) nm_copy nm_zero _ 6 rfl HPj.out.1 (by omega) (by decide) (by decide)).mono ?_
        rintro e w5 ⟨rfl, H⟩
        have HP5 := Lib.hid (HPj.out.trans H)
        clear H
        go_wp2_with fail
        refine (cell_give_ok _ w1.heap.size b _ ((putS j j).store nm_copy nm_zero 6) HP5.out.1 (by omega)).mono ?_
        rintro e w6 ⟨rfl, H⟩
        have HP6 := Lib.hid (HP5.out.trans H)
        clear H
        obtain ⟨f1, f2, f3⟩ := putB_fin j h1 h6
        have hb6 : Below w.heap.size w w6 := hb1.trans (HP6.out.2.2.mono hb1.size)
        go_wp2_with fail
        refine (asm_Code _ (HT.out.below hb6 HT.out.lt) w1.heap.size b _ (putB j) (Cel.putC j) HP6.out.1 f1 f2 f3).mono ?_
        rintro e w7 ⟨v, rfl, hown, hb7⟩
        obtain ⟨A7, k7, rfl, hk7, hk8⟩ := own_cap hown
        go_wp2
        go_ret2
        exact ⟨fun _ => ⟨_, _, _, rfl, hk7, hk8, QT.own hown⟩, fun h => absurd hx h, hb6.trans (hb7.mono hb6.size)⟩
  · clear hT
    go_enter Tryd.func8, Tryd.ntmps8
    go_wp2_with fail
    refine (cell_valid _ _ hd).mono ?_
    rintro e w' ⟨he, rfl⟩
    rw [decide_eq_false hx] at he
    subst he
    go_wp2
    go_ret2
    exact ⟨fun h => absurd h hx, fun _ => ⟨_, _, rfl⟩, Below.refl _ _⟩
set_option maxRecDepth 100000 in
set_option maxHeartbeats 4000000 in
theorem cell_Get : CellCodeSpec 9 Cel.cc.cg := by
  intro w hT d hd
  have hd' := hd
  unfold inW at hd'
  by_cases hx : 1 ≤ d ∧ d ≤ 6
  · obtain ⟨n, rfl⟩ : ∃ n : Nat, d = n := ⟨d.toNat, by omega⟩
    have h1 : 1 ≤ n := by omega
    have h6 : n ≤ 6 := by omega
    have HT := Lib.hid hT
    clear hT
    go_enter Tryd.func9, Tryd.ntmps9
    go_wp2_with fail
    refine (cell_valid _ _ hd).mono ?_
    rintro e w' ⟨he, rfl⟩
    rw [decide_eq_true hx] at he
    subst he
    go_wp2_with fail
    refine (cell_numbers _ n h6).mono ?_
    rintro e w1 ⟨A, c, rfl, hc, hqn, hb1⟩
    have HQ := Lib.hid hqn
    clear hqn
    go_wp2_with fail
    refine (asm_New _ none 0 0 [] (QT.nil _ _ _ _) (by omega) (by simp) (by simp)).mono ?_
    rintro e w2 ⟨b, rfl, H⟩
    have HP := Lib.hid H
    clear H
    go_wp2_with fail
    refine (cell_sit_ok _ w1.heap.size b 0 (Bs.new []) HP.out.1 (by omega) rfl rfl).mono ?_
    rintro e w3 ⟨rfl, H⟩
    have HP3 := Lib.hid (HP.out.trans H)
    clear H HP
    go_wp2_with fail
    refine (cell_take_ok _ w1.heap.size b _ (cell_sit (Bs.new [])) HP3.out.1 (by omega)).mono ?_
    rintro e w4 ⟨rfl, H⟩
    have HP4 := Lib.hid (HP3.out.trans H)
    clear H HP3
    go_wp2
    go_loopw [20] (fun i wr => ∃ j : Nat, j ≤ n ∧ i = .int .i64 j ∧ Hid (AsmPost w1 w1.heap.size b (getS j) (0 + 21 + 18 + 3 * j) wr)) (fun i _ => n - (intOf i).toNat)
    case atStart => exact ⟨0, Nat.zero_le _, rfl, HP4.out⟩
    case round =>
      obtain ⟨j, hj, rfl, HPj⟩ := hrel
      by_cases hjn : j < n
      · obtain ⟨g, o, l, rfl, hgB, hcell, HXL⟩ := (HQ.out.kc HPj.out.2.1).val hjn
        obtain rfl : l = nmNum j := by have := HXL.out; rw [numL_at hjn] at this; injection this with h; exact h.symm
        go_wp2_with fail
        refine (asm_LoadE _ w1.heap.size b _ (getS j) (nmNum j) nm_copy _ (1 + (j : Int)) (by first | rfl | omega) HPj.out.1 (by omega) (by show 8 ≤ 1000; omega) (by decide)).mono ?_
        rintro e w5 ⟨rfl, H⟩
        have HP5 := Lib.hid (HPj.out.trans H)
        clear H
        go_wp2
        go_roundw
        case rel =>
          refine ⟨j + 1, by omega, by go_num, ?_⟩
          unfold getS
          rw [List.range_succ, List.foldl_append, show 0 + 21 + 18 + 3 * (j + 1) = 0 + 21 + 18 + 3 * j + 3 by omega]
          exact HP5.out
        case measure => simp [intOf]; omega
      · obtain rfl : j = n := by omega
        go_wp2_with fail
        refine (asm_SetE _ w1.heap.size b _ (getS j) nm_free _ 0 rfl HPj.out.1 (by omega) (by decide)).mono ?_
        rintro e w5 ⟨rfl, H⟩
        have HP5 := Lib.hid (HPj.out.trans H)
        clear H
        go_wp2_with fail
        refine (asm_StoreE _ w1.heap.size b _ ((getS j).set nm_free 0) nm_free nm_seat _ 2 rfl HP5.out.1 (by omega) (by decide) (by decide)).mono ?_
        rintro e w6 ⟨rfl, H⟩
        have HP6a := Lib.hid (HP5.out.trans H)
        clear H
        go_wp2_with fail
        refine (asm_Emit _ w1.heap.size b _ (((getS j).set nm_free 0).store nm_free nm_seat 2) A j c (numL j) HP6a.out.1 (by omega) (HQ.out.kc HP6a.out.2.1) (by omega) (numL_short j)).mono ?_
        rintro e w6 ⟨rfl, H⟩
        have HP6 := Lib.hid (HP6a.out.trans H)
        clear H
        obtain ⟨f1, f2, f3⟩ := getB_fin j h1 h6
        have hb6 : Below w.heap.size w w6 := hb1.trans (HP6.out.2.2.mono hb1.size)
        go_wp2_with fail
        refine (asm_Code _ (HT.out.below hb6 HT.out.lt) w1.heap.size b _ (getB j) (Cel.getC j) HP6.out.1 f1 f2 f3).mono ?_
        rintro e w7 ⟨v, rfl, hown, hb7⟩
        obtain ⟨A7, k7, rfl, hk7, hk8⟩ := own_cap hown
        go_wp2
        go_ret2
        exact ⟨fun _ => ⟨_, _, _, rfl, hk7, hk8, QT.own hown⟩, fun h => absurd hx h, hb6.trans (hb7.mono hb6.size)⟩
  · clear hT
    go_enter Tryd.func9, Tryd.ntmps9
    go_wp2_with fail
    refine (cell_valid _ _ hd).mono ?_
    rintro e w' ⟨he, rfl⟩
    rw [decide_eq_false hx] at he
    subst he
    go_wp2
    go_ret2
    exact ⟨fun h => absurd h hx, fun _ => ⟨_, _, rfl⟩, Below.refl _ _⟩
end Go.Proofs.YtjihopbapnfppabDoor

set_option linter.unusedSimpArgs false
set_option linter.unusedVariables false
namespace Go.Proofs.YtjihopbapnfppabDoor
open Go.RowKit Go.Ord Go.Baro
instance (x : Int) : Decidable (inW x) := by unfold inW; infer_instance
instance (o : Ins) : Decidable (inI o) := by unfold inI; infer_instance
theorem cc_ok : Cel.cc.Ok := by
  refine ⟨fun d h1 h6 => ?_, fun d h1 h6 => ?_, fun d h1 h6 => ?_⟩
  · show 0 < (Cel.wsC d).length ∧ (Cel.wsC d).length ≤ 64 ∧ ∀ x ∈ Cel.wsC d, inW x
    refine ⟨by simp [Cel.wsC]; omega, by simp [Cel.wsC]; omega, fun x hx => ?_⟩
    rw [List.eq_of_mem_replicate hx]; unfold inW; omega
  · show 0 < (Cel.putC d).length ∧ okC (Cel.putC d) ∧ ∀ o ∈ Cel.putC d, inI o
    rcases (by omega : d = 1 ∨ d = 2 ∨ d = 3 ∨ d = 4 ∨ d = 5 ∨ d = 6) with rfl | rfl | rfl | rfl | rfl | rfl <;> decide +kernel
  · show 0 < (Cel.getC d).length ∧ okC (Cel.getC d) ∧ ∀ o ∈ Cel.getC d, inI o
    rcases (by omega : d = 1 ∨ d = 2 ∨ d = 3 ∨ d = 4 ∨ d = 5 ∨ d = 6) with rfl | rfl | rfl | rfl | rfl | rfl <;> decide +kernel
end Go.Proofs.YtjihopbapnfppabDoor

set_option linter.unusedSimpArgs false
set_option linter.unusedVariables false
namespace Go.Baro
open Go.RowKit

theorem grown_setCells : ∀ (cs : List Value) (w : World) (b o : Nat), w.grownBy (w.setCells b o cs) (some b)
  | [], w, b, o => World.grownBy.refl w _
  | v :: cs, w, b, o => grown_trans (grown_setCell w ⟨b, o, none⟩ v) (grown_setCells cs _ b (o + 1))
theorem box_setCells {b : Nat} {T : TypeId} {post : List Value} : ∀ (cs old pre : List Value) (w : World) (o : Nat), Box w b T (pre ++ (old ++ post)) → old.length = cs.length → pre.length = o → Box (w.setCells b o cs) b T (pre ++ (cs ++ post))
  | [], old, pre, w, o, h, hl, ho => by
    have : old = [] := List.eq_nil_of_length_eq_zero (by simpa using hl)
    subst this
    exact h
  | v :: cs, [], pre, w, o, h, hl, ho => by simp at hl
  | v :: cs, u :: old, pre, w, o, h, hl, ho => by
    have h1 := h.set o v
    rw [List.set_append_right _ _ (by omega), ho, Nat.sub_self, List.cons_append, List.set_cons_zero] at h1
    have h2 : Box (w.setCell ⟨b, o, none⟩ v) b T ((pre ++ [v]) ++ (old ++ post)) := by
      rw [List.append_assoc]; exact h1
    have h3 := box_setCells cs old (pre ++ [v]) _ (o + 1) h2 (by simpa using hl) (by simp [ho])
    rw [List.append_assoc] at h3
    exact h3
theorem box_there {w : World} {b o : Nat} {T : TypeId} {pre old post : List Value} (h : Box w b T (pre ++ (old ++ post))) (ho : pre.length = o) : w.there b o old.length := by
  intro j hj
  refine ⟨?_, h.frozen _⟩
  have := h.cell (pre.length + j)
  rw [mid_at hj, ho] at this
  rw [this, List.getElem?_eq_getElem hj]
  rfl
theorem box_range {w : World} {b o : Nat} {T : TypeId} {pre old post : List Value} (h : Box w b T (pre ++ (old ++ post))) (ho : pre.length = o) : w.rangeAt b o old := by
  intro j v hv
  have hj := (List.getElem?_eq_some_iff.1 hv).1
  have := h.cell (pre.length + j)
  rw [mid_at hj, ho] at this
  rw [this, hv]
/-- A struct is stored into the middle of a block. -/
theorem store_mid {P : Program} {ops : Array Oper} {rest : List Oper} {op : Oper} {a : Act} {w : World} {Q : Exit → Act → World → Prop} (hgd : op.guard = none) (hdst : op.dst = none) (ty : TypeId) (x y : Operand) (hop : op.op = .store ty x y)
    (b o : Nat) (cells : List Value) (hx : a.eval x = .pointer (some ⟨b, o, none⟩)) (hy : a.eval y = .agg cells.toArray) (T : TypeId) (pre old post : List Value) (h : Box w b T (pre ++ (old ++ post))) (ho : pre.length = o) (hl : old.length = cells.length)
    (hi : (P.info? ty).map (·.size) = some cells.length) (h1 : ∀ v ∈ cells, v.oneCell' = true) (hK : ∀ w', Hid (Box w' b T (pre ++ (cells ++ post))) → w.grownBy w' (some b) → wpList P ops Q rest a w') : wpList P ops Q (op :: rest) a w := by
  refine wpList_store_mid hgd ty x y hop b o cells.toArray hx hy (by have := box_there h ho; rw [hl] at this; simpa using this) (by simpa using hi) (all_oneCell_toArray h1) ?_
  rw [hdst]
  exact hK _ (box_setCells cells old pre w o h hl ho) (grown_setCells cells w b o)
/-- A struct is read out of the middle of a block. -/
theorem load_mid {P : Program} {ops : Array Oper} {rest : List Oper} {op : Oper} {a : Act} {w : World} {Q : Exit → Act → World → Prop} (hgd : op.guard = none) (ty : TypeId) (x : Operand) (hop : op.op = .load ty x)
    (b o : Nat) (hx : a.eval x = .pointer (some ⟨b, o, none⟩)) (T : TypeId) (pre cells post : List Value) (h : Box w b T (pre ++ (cells ++ post))) (ho : pre.length = o) (d : TypeDesc) (hu : P.underlying ty = some d) (hd : d.isRow = true) (hi : (P.info? ty).map (·.size) = some cells.length)
    (hK : wpList P ops Q rest (a.put op.dst (.agg cells.toArray)) w) : wpList P ops Q (op :: rest) a w :=
  wpList_load_mid hgd ty x hop b o hx cells d (box_range h ho) hu hd hi hK
end Go.Baro

set_option linter.unusedSimpArgs false
set_option linter.unusedVariables false
namespace Go.Baro

/-- An event with the number of its step. -/
def inSt (st : Nat) (e : Ev) : Ev := { e with st := st }
theorem actL_zero (g : Gs) (st n bg : Nat) (l : Lv) (o a : List Ev) : actL g st n bg l (a ++ o.map (inSt st)) = ⟨(actL ⟨g.w, g.th, []⟩ 0 n bg l o).w, (actL ⟨g.w, g.th, []⟩ 0 n bg l o).th, a ++ (actL ⟨g.w, g.th, []⟩ 0 n bg l o).out.map (inSt st)⟩ := by
  unfold actL
  dsimp only
  by_cases h : (exc l g.w).2.2.2 = true
  · rw [if_pos h, if_pos h]; simp [inSt]
  · rw [if_neg h, if_neg h]
theorem actG_zero (m : Mc) (g : Gs) (st n : Nat) : actG m g st n = ⟨(actG m ⟨g.w, g.th, []⟩ 0 n).w, (actG m ⟨g.w, g.th, []⟩ 0 n).th, g.out ++ (actG m ⟨g.w, g.th, []⟩ 0 n).out.map (inSt st)⟩ := by
  unfold actG
  dsimp only
  cases (g.th n).now with
  | some l =>
    have := actL_zero g st n (g.th n).bg l [] g.out
    simpa using this
  | none =>
    dsimp only
    cases (m.ts[n]?.getD [])[(g.th n).bg]? with
    | none => simp
    | some c =>
      have := actL_zero g st n ((g.th n).bg + 1) (live (m.cs[c.k.toNat]?.getD []) c.ar) [⟨0, n, (g.th n).bg, false, 0, []⟩] g.out
      simpa [inSt] using this
/-- What a thread does, of itself: its state, the words, the events. -/
def actT (m : Mc) (n : Nat) (t : Td) (w : List Int) : Gs := actG m ⟨w, fun _ => t, []⟩ 0 n
theorem actL_T (th : Nat → Td) (w : List Int) (n bg : Nat) (l : Lv) (o : List Ev) (t : Td) : (actL ⟨w, th, []⟩ 0 n bg l o) = ⟨(actL ⟨w, fun _ => t, []⟩ 0 n bg l o).w, putT th n ((actL ⟨w, fun _ => t, []⟩ 0 n bg l o).th n), (actL ⟨w, fun _ => t, []⟩ 0 n bg l o).out⟩ := by
  unfold actL
  dsimp only
  by_cases h : (exc l w).2.2.2 = true
  · rw [if_pos h, if_pos h]; simp [putT]
  · rw [if_neg h, if_neg h]; simp [putT]
theorem putT_self (th : Nat → Td) (n : Nat) : putT th n (th n) = th := by
  funext i
  unfold putT
  by_cases h : i = n
  · rw [if_pos h, h]
  · rw [if_neg h]
theorem actG_T (m : Mc) (th : Nat → Td) (w : List Int) (n : Nat) : actG m ⟨w, th, []⟩ 0 n = ⟨(actT m n (th n) w).w, putT th n ((actT m n (th n) w).th n), (actT m n (th n) w).out⟩ := by
  unfold actT actG
  dsimp only
  cases h : (th n).now with
  | some l => exact actL_T th w n (th n).bg l [] (th n)
  | none =>
    dsimp only
    cases (m.ts[n]?.getD [])[(th n).bg]? with
    | none => simp [putT_self]
    | some c => exact actL_T th w n _ _ _ (th n)
/-- A step of the run, by what the thread does of itself. -/
theorem actG_by (m : Mc) (g : Gs) (st n : Nat) {t' : Td} {W : List Int} {es : List Ev} (h : actT m n (g.th n) g.w = ⟨W, fun i => if i = n then t' else g.th n, es⟩) : actG m g st n = ⟨W, putT g.th n t', g.out ++ es.map (inSt st)⟩ := by
  rw [actG_zero, actG_T, h]; simp
/-- No more calls. -/
theorem actT_idle {m : Mc} {n : Nat} {t : Td} {w : List Int} (h1 : t.now = none) (h2 : (m.ts[n]?.getD [])[t.bg]? = none) : actT m n t w = ⟨w, fun _ => t, []⟩ := by
  unfold actT actG
  dsimp only
  rw [h1]
  dsimp only
  rw [h2]
theorem actT_live {m : Mc} {n : Nat} {t : Td} {l : Lv} {w : List Int} (h1 : t.now = some l) : actT m n t w = actL ⟨w, fun _ => t, []⟩ 0 n t.bg l [] := by
  unfold actT actG
  dsimp only
  rw [h1]
theorem actT_call {m : Mc} {n : Nat} {t : Td} {c : Cl} {w : List Int} (h1 : t.now = none) (h2 : (m.ts[n]?.getD [])[t.bg]? = some c) : actT m n t w = actL ⟨w, fun _ => t, []⟩ 0 n (t.bg + 1) (live (m.cs[c.k.toNat]?.getD []) c.ar) [⟨0, n, t.bg, false, 0, []⟩] := by
  unfold actT actG
  dsimp only
  rw [h1]
  dsimp only
  rw [h2]
  rfl
theorem actL_end {g : Gs} {n bg : Nat} {l l' : Lv} {w' : List Int} {E : Int} {o : List Ev} (h : exc l g.w = (l', w', E, true)) : actL g 0 n bg l o = ⟨w', putT g.th n ⟨none, bg⟩, o ++ [⟨0, n, bg - 1, true, E, l'.t⟩]⟩ := by
  unfold actL; rw [h]; rfl
theorem actL_on {g : Gs} {n bg : Nat} {l l' : Lv} {w' : List Int} {E : Int} {o : List Ev} (h : exc l g.w = (l', w', E, false)) : actL g 0 n bg l o = ⟨w', putT g.th n ⟨some l', bg⟩, o⟩ := by
  unfold actL; rw [h]; rfl
end Go.Baro

set_option linter.unusedSimpArgs false
set_option linter.unusedVariables false
namespace Go.Proofs.YtjihopbapnfppabDoor
open Go.RowKit Go.Ord Go.Baro

theorem thC_zero (cv tv : Value) (p : Int) : thC cv p (fun _ => 0) tv = cv :: .int .i64 p :: (List.replicate 24 (.int .i64 0) ++ [tv]) := by
  unfold thC regV
  congr 3
theorem thC_splice (cv tv : Value) (p : Int) (ar : List Int) (h : ar.length ≤ 24) : splice (thC cv p (fun _ => 0) tv) 2 (ar.map (Value.int .i64)) = thC cv p (fun i => if 0 ≤ i then ar[i.toNat]?.getD 0 else 0) tv := by
  unfold splice thC
  rw [List.take_succ_cons, List.take_succ_cons, List.take_zero, List.length_map, show 2 + ar.length = ar.length + 1 + 1 by omega, List.drop_succ_cons, List.drop_succ_cons]
  rw [List.cons_append, List.cons_append, List.nil_append, List.drop_append_of_le_length (by rw [regV_len]; exact h), ← List.append_assoc]
  congr 3
  refine List.ext_getElem? fun j => ?_
  by_cases hj : j < 24
  · rw [regV_at _ hj]
    by_cases hja : j < ar.length
    · rw [List.getElem?_append_left (by simpa using hja), List.getElem?_map, List.getElem?_eq_getElem hja]
      simp [List.getElem?_eq_getElem hja]
    · rw [List.getElem?_append_right (by simp; omega), List.getElem?_drop, List.length_map, show ar.length + (j - ar.length) = j by omega, regV_at _ hj]
      simp [List.getElem?_eq_none (show ar.length ≤ j by omega)]
  · rw [List.getElem?_eq_none (by simp [regV_len]; omega), List.getElem?_eq_none (by rw [regV_len]; omega)]

theorem thA_zero (cv tv : Value) : (thC cv 0 (fun _ => 0) tv).toArray = #[cv, .int .i64 0, .int .i64 0, .int .i64 0, .int .i64 0, .int .i64 0, .int .i64 0, .int .i64 0, .int .i64 0, .int .i64 0, .int .i64 0, .int .i64 0, .int .i64 0, .int .i64 0, .int .i64 0, .int .i64 0, .int .i64 0, .int .i64 0, .int .i64 0, .int .i64 0, .int .i64 0, .int .i64 0, .int .i64 0, .int .i64 0, .int .i64 0, .int .i64 0, tv] := by rw [thC_zero]; simp [List.replicate]

/-- The zero value of a thread. -/
def thZ : List Value := thC (.slice none 0 0) 0 (fun _ => 0) (.slice none 0 0)
theorem thZ_arr : thZ.toArray = #[Value.slice none 0 0, .int .i64 0, .int .i64 0, .int .i64 0, .int .i64 0, .int .i64 0, .int .i64 0, .int .i64 0, .int .i64 0, .int .i64 0, .int .i64 0, .int .i64 0, .int .i64 0, .int .i64 0, .int .i64 0, .int .i64 0, .int .i64 0, .int .i64 0, .int .i64 0, .int .i64 0, .int .i64 0, .int .i64 0, .int .i64 0, .int .i64 0, .int .i64 0, .int .i64 0, .slice none 0 0] := thA_zero _ _

set_option maxRecDepth 100000 in
set_option maxHeartbeats 4000000 in
theorem vm_Begin_no (w : World) (hT : Tab w) (l : List Ins) (ar : List Int) (cA A : Option Addr) (n cc m c B : Nat) (E : Int) (hc : RO w B cA n l) (hB : B ≤ w.heap.size) (hn : n ≤ 9223372036854775807) (hm : m ≤ 9223372036854775807) (hE : (¬ okC l ∧ E = 4) ∨ (okC l ∧ 8 < m ∧ E = 1)) :
    Calls Tryd.prog 64 #[.slice cA n cc, .slice A m c] w fun e w' => e = .returned (.tuple #[.agg thZ.toArray, .int .i64 E]) ∧ Below w.heap.size w w' := by
  have h0 : Below w.heap.size w w := Below.refl _ _
  have bx0 : Box (w.alloc (.cells thZ.toArray 95)) w.heap.size 95 thZ := Box.new w _ _
  have l0 : thZ.length = 27 := thC_len
  have o0 : ∀ v ∈ thZ, v.oneCell' = true := thC_one rfl rfl
  have hin : (Tryd.prog.info? 95).map (·.size) = some 27 := by kernel_rfl
  have hA := h0.alloc (Nat.le_refl _) (Obj.cells thZ.toArray 95)
  have hTA := hT.below hA hT.lt
  have hcA := hc.below (hA.mono hB)
  obtain ⟨C0, hC0⟩ : ∃ C0, C0 = thZ := ⟨_, rfl⟩
  have hZ := thZ_arr
  rw [← hC0] at bx0 l0 o0 hA hTA hcA hZ ⊢
  rw [hZ] at hA hTA hcA bx0
  have HL0 := Lib.hid l0
  have HO0 := Lib.hid o0
  have HIN := Lib.hid hin
  have HZ := Lib.hid hZ
  clear l0 o0 hin hC0 hZ
  rcases hE with ⟨hno, rfl⟩ | ⟨hok, h8, rfl⟩
  · have HNO := Lib.hid hno
    clear hno
    go_enter Tryd.func64, Tryd.ntmps64
    go_wp2_with fail
    refine (vm_May l cA n cc false _ B hTA hcA (by simp; omega) hn (by simp; exact HNO.out)).mono ?_
    rintro e w1 ⟨rfl, hb1⟩
    have HB1 := Lib.hid (bx0.below hb1 (by simp))
    go_wp2_with (refine store_box rfl rfl 95 (.tmp 4) (.tmp 10) rfl w.heap.size C0 rfl (congrArg Value.agg HZ.out.symm) 95 C0 (by have := HB1.out; exact this) (by rw [HL0.out]; exact HIN.out) rfl HO0.out ?_; intro w2 HG2 hg2)
    refine bodyPost_ret (results_row_tmp rfl _ _ w.heap.size 95 C0.toArray (0, 0) _ rfl HG2.out Tryd.underlying95 rfl (by rw [List.size_toArray, HL0.out]; exact HIN.out)) rfl ?_
    have hb2 := hA.trans (hb1.mono (by simp))
    exact ⟨rfl, below_set hb2 hg2 (Nat.le_refl _) hb2.size⟩
  · have HOK := Lib.hid hok
    clear hok
    go_enter Tryd.func64, Tryd.ntmps64
    go_wp2_with fail
    refine (vm_May l cA n cc true _ B hTA hcA (by simp; omega) hn (by simp; exact HOK.out)).mono ?_
    rintro e w1 ⟨rfl, hb1⟩
    have HB1 := Lib.hid (bx0.below hb1 (by simp))
    go_wp2_with (refine store_box rfl rfl 95 (.tmp 4) (.tmp 14) rfl w.heap.size C0 rfl (congrArg Value.agg HZ.out.symm) 95 C0 (by have := HB1.out; exact this) (by rw [HL0.out]; exact HIN.out) rfl HO0.out ?_; intro w2 HG2 hg2)
    refine bodyPost_ret (results_row_tmp rfl _ _ w.heap.size 95 C0.toArray (0, 0) _ rfl HG2.out Tryd.underlying95 rfl (by rw [List.size_toArray, HL0.out]; exact HIN.out)) rfl ?_
    have hb2 := hA.trans (hb1.mono (by simp))
    exact ⟨rfl, below_set hb2 hg2 (Nat.le_refl _) hb2.size⟩

/-- What the beginning of a call leaves: its code lies in a row of its own. -/
def BgPost (l : List Ins) (ar : List Int) (n : Nat) (w : World) (e : Ending) (w' : World) : Prop :=
  ∃ cA cc, e = .returned (.tuple #[.agg (thC (.slice cA n cc) 0 (st0 ar []).r (.slice none 0 0)).toArray, .int .i64 0]) ∧ RO w' w'.heap.size cA n l ∧ (0 < n → ∀ g q, cA = some ⟨g, q, none⟩ → w.heap.size ≤ g) ∧ Below w.heap.size w w'

set_option maxRecDepth 100000 in
set_option maxHeartbeats 4000000 in
theorem vm_Begin (w : World) (hT : Tab w) (l : List Ins) (ar : List Int) (cA A : Option Addr) (n cc m c B : Nat) (hc : RO w B cA n l) (hr : RI w B .i64 A m ar) (hB : B ≤ w.heap.size) (hok : okC l) (hm : m ≤ 8) :
    Calls Tryd.prog 64 #[.slice cA n cc, .slice A m c] w (BgPost l ar n w) := by
  have HL := Lib.hid hr.len
  have hn : n ≤ 200 := by have := hok.1; have := hc.len; omega
  have h0 : Below w.heap.size w w := Below.refl _ _
  have bx0 : Box (w.alloc (.cells thZ.toArray 95)) w.heap.size 95 thZ := Box.new w _ _
  have l0 : thZ.length = 27 := thC_len
  have o0 : ∀ v ∈ thZ, v.oneCell' = true := thC_one rfl rfl
  have hin : (Tryd.prog.info? 95).map (·.size) = some 27 := by kernel_rfl
  have hA := h0.alloc (Nat.le_refl _) (Obj.cells thZ.toArray 95)
  have hTA := hT.below hA hT.lt
  have hcA := hc.below (hA.mono hB)
  obtain ⟨C0, hC0⟩ : ∃ C0, C0 = thZ := ⟨_, rfl⟩
  have hZ := thZ_arr
  rw [← hC0] at bx0 l0 o0 hA hTA hcA hZ
  rw [hZ] at hA hTA hcA bx0
  have HL0 := Lib.hid l0
  have HO0 := Lib.hid o0
  have HIN := Lib.hid hin
  have HZ := Lib.hid hZ
  have HOK := Lib.hid hok
  clear l0 o0 hin hC0 hZ hok
  go_enter Tryd.func64, Tryd.ntmps64
  go_wp2_with fail
  refine (vm_May l cA n cc true _ B hTA hcA (by simp; omega) (by omega) (by simp; exact HOK.out)).mono ?_
  rintro e w1 ⟨rfl, hb1⟩
  have HB1 := Lib.hid (bx0.below hb1 (by simp))
  have hb01 := hA.trans (hb1.mono (by simp))
  have hs1 : w.heap.size + 1 ≤ w1.heap.size := by have := hb1.size; simp at this; omega
  go_wp2_with fail
  refine (slices_CloneO l cA n cc B w1 (hc.below (hb01.mono hB)) (by omega) hn).mono ?_
  rintro e w2 ⟨v, rfl, hown, hb2⟩
  obtain ⟨cA1, cc1, rfl, hlc⟩ := own_form hown
  have HROW := Lib.hid hown
  have hb02 : Below w.heap.size w w2 := hb01.trans (hb2.mono (by omega))
  have HBX := Lib.hid (HB1.out.below hb2 (by omega))
  have hs2 := hb2.size
  obtain ⟨C1, hC1⟩ : ∃ C1, C1 = thC (.slice cA1 n cc1) 0 (fun _ => 0) (.slice none 0 0) := ⟨_, rfl⟩
  obtain ⟨C2, hC2⟩ : ∃ C2, C2 = thC (.slice cA1 n cc1) 0 (st0 ar []).r (.slice none 0 0) := ⟨_, rfl⟩
  have HS := Lib.hid (show splice C1 2 (ar.map (Value.int .i64)) = C2 by rw [hC1, hC2]; exact thC_splice _ _ _ _ (by rw [HL.out]; omega))
  have HL1 := Lib.hid (show C1.length = 27 by rw [hC1]; exact thC_len)
  have HL2 := Lib.hid (show C2.length = 27 by rw [hC2]; exact thC_len)
  have HO1 := Lib.hid (show ∀ v ∈ C1, v.oneCell' = true by rw [hC1]; exact thC_one rfl rfl)
  have HO2 := Lib.hid (show ∀ v ∈ C2, v.oneCell' = true by rw [hC2]; exact thC_one rfl rfl)
  have HE1 := Lib.hid (show C1.toArray = #[Value.slice cA1 n cc1, .int .i64 0, .int .i64 0, .int .i64 0, .int .i64 0, .int .i64 0, .int .i64 0, .int .i64 0, .int .i64 0, .int .i64 0, .int .i64 0, .int .i64 0, .int .i64 0, .int .i64 0, .int .i64 0, .int .i64 0, .int .i64 0, .int .i64 0, .int .i64 0, .int .i64 0, .int .i64 0, .int .i64 0, .int .i64 0, .int .i64 0, .int .i64 0, .int .i64 0, .slice none 0 0] by rw [hC1]; exact thA_zero _ _)
  have HC2 := Lib.hid hC2
  have HB2 := Lib.hid (show Box (w2.alloc (.cells C0.toArray 95)) w2.heap.size 95 C0 from Box.new _ _ _)
  have HPOS := Lib.hid (show ∀ w3, Below w2.heap.size w2 w3 → 0 < (ar.map (Value.int .i64)).length → ∃ ad, A = some ad ∧ ∀ j v, (ar.map (Value.int .i64))[j]? = some v → w3.cell? (ad.add j) = some v from by
    intro w3 hw3 hl
    have hm0 : 0 < m := by rw [List.length_map, HL.out] at hl; exact hl
    obtain ⟨bb, oo, rfl, hlt, hcl⟩ := ((hr.below (hb02.mono hB)).below (hw3.mono (by omega))).at_ hm0
    refine ⟨_, rfl, fun j v hj => ?_⟩
    have hjl : j < m := by have := (List.getElem?_eq_some_iff.1 hj).1; rw [List.length_map, HL.out] at this; exact this
    rw [Addr.add_lit, hcl j (by omega)]
    exact hj)
  clear hC1 hC2 hown
  go_wp2_with (first
    | (refine store_box rfl rfl 95 (.tmp 6) (.tmp 17) rfl w2.heap.size C1 rfl (congrArg Value.agg HE1.out.symm) 95 C0 (by have := HB2.out; rw [HZ.out] at this; exact this) (by rw [HL1.out]; exact HIN.out) (by rw [HL0.out, HL1.out]) HO1.out ?_; intro w3 HG3 hg3; have hB3 : Below w2.heap.size w2 w3 := below_set ((Below.refl _ _).alloc (Nat.le_refl _) _) hg3 (Nat.le_refl _) (by simp))
    | (refine wpList_copy_splice rfl _ _ 22 22 rfl 3 Tryd.underlying22 (by kernel_rfl) _ _ _ _ _ _ rfl rfl w2.heap.size 2 C1 95 HG3.out (ar.map (Value.int .i64)) (by rw [List.length_map, HL.out]; exact (Nat.min_eq_left (by omega)).symm) (fun hl => ⟨rfl, HPOS.out w3 hB3 hl⟩) (by rw [List.length_map, HL.out, HL1.out]; omega) (one_ints _ _) w2.heap.size w2 hB3 (Nat.le_refl _) ?_; intro w4 HG4 hB4)
    | (refine wpList_load_row rfl 95 _ rfl w2.heap.size rfl 95 C2.toArray (0, 0) _ (by rw [← HS.out]; exact HG4.out) Tryd.underlying95 rfl (by rw [List.size_toArray, HL2.out]; exact HIN.out) ?_)
    | (refine store_box rfl rfl 95 (.tmp 4) (.tmp 22) rfl w.heap.size C2 rfl rfl 95 C0 (HBX.out.below hB4 (by omega)) (by rw [HL2.out]; exact HIN.out) (by rw [HL0.out, HL2.out]) HO2.out ?_; intro w5 HG5 hg5))
  refine bodyPost_ret (results_row_tmp rfl _ _ w.heap.size 95 C2.toArray (0, 0) _ rfl HG5.out Tryd.underlying95 rfl (by rw [List.size_toArray, HL2.out]; exact HIN.out)) rfl ?_
  have hb4 : Below w.heap.size w w4 := hb02.trans (hB4.mono (by omega))
  have hb5 : Below w.heap.size w w5 := below_set hb4 hg5 (Nat.le_refl _) hb4.size
  refine ⟨cA1, cc1, by rw [HC2.out]; rfl, ?_, ?_, hb5⟩
  · have h1 : w4.ownsRow w1.heap.size 65 5 (.slice cA1 n cc1) n (cellsO l) := own_below HROW.out hB4
    have h2 : w5.ownsRow w1.heap.size 65 5 (.slice cA1 n cc1) n (cellsO l) := by
      refine h1.kept hg5 ?_
      cases hv : (Value.slice cA1 n cc1).ownBlock with
      | none => exact .inl rfl
      | some k =>
        refine .inr fun he => ?_
        have := (h1.lt _ hv).1
        injection he with he
        omega
    exact Rd.of_own h2
  · intro _ g q hA
    have := (HROW.out.lt g (by rw [hA]; rfl)).1
    omega
end Go.Proofs.YtjihopbapnfppabDoor
