/- Of this claim's own texts these, one behind the other: Asm4, Lock1. No statement of the seat is proved here; no condition but those that stand at the theorems. -/
import Derived.Test.YtfpokjhalbbeeaaDoorPartAT
import Derived.Test.YtfpokjhalbbeeaaDoorPartAV
import Derived.Test.YtfpokjhalbbeeaaDoorPartAF
import Derived.Test.YtfpokjhalbbeeaaDoorPartAQ
set_option linter.unusedSimpArgs false
set_option linter.unusedVariables false
namespace Go.Proofs.YtfpokjhalbbeeaaDoor
open Go.RowKit Go.Ord Go.Baro Go.Maps

theorem cellsJ_at (l : List (Int × Nm)) : ∀ (i : Nat) (j : Int × Nm), l[i]? = some j → (cellsJ l)[i * 2]? = some (.int .i64 j.1) ∧ (cellsJ l)[i * 2 + 1]? = some (nmV j.2) := by
  induction l with
  | nil => intro i j h; simp at h
  | cons f l ih =>
    intro i j h
    have hc : cellsJ (f :: l) = jmpV f ++ cellsJ l := rfl
    rw [hc]
    cases i with
    | zero => simp at h; subst h; simp [jmpV]
    | succ i =>
      have := ih i j (by simpa using h)
      rw [List.getElem?_append_right (by simp [jmpV]; omega), List.getElem?_append_right (by simp [jmpV]; omega)]
      simp [jmpV, show (i + 1) * 2 - 2 = i * 2 by omega, show (i + 1) * 2 + 1 - 2 = i * 2 + 1 by omega, this]
theorem cellsO_set : ∀ (l : List Ins) (i k : Nat) (o o' : Ins), l[i]? = some o → (∃ v, (insV o).set k v = insV o') → k < 5 → ∀ v, (insV o).set k v = insV o' → (cellsO l).set (i * 5 + k) v = cellsO (l.set i o')
  | [], i, k, o, o', h, _, _, _, _ => by simp at h
  | f :: l, 0, k, o, o', h, _, hk, v, hv => by
    simp at h
    subst h
    have hc : ∀ g : Ins, cellsO (g :: l) = insV g ++ cellsO l := fun _ => rfl
    rw [List.set_cons_zero, hc, hc, Nat.zero_mul, Nat.zero_add, List.set_append_left _ _ (by simp [insV]; exact hk), hv]
  | f :: l, i + 1, k, o, o', h, hh, hk, v, hv => by
    have hc : ∀ (g : Ins) (t : List Ins), cellsO (g :: t) = insV g ++ cellsO t := fun _ _ => rfl
    rw [List.set_cons_succ, hc, hc, List.set_append_right _ _ (by simp [insV]; omega), ← cellsO_set l i k o o' (by simpa using h) hh hk v hv]
    congr 2
    simp [insV]
    omega
set_option maxRecDepth 100000 in
set_option maxHeartbeats 2000000 in
theorem asm_Code (w : World) (hT : Tab w) (B b n : Nat) (s : Bs) (c : List Ins) (h : BdAt w B b s n) (hf : s.fin = some c) (hj0 : ∀ j ∈ s.jmps, 0 ≤ j.1 ∧ j.2.length ≤ 1000) (hjl : s.jmps.length ≤ 1000) :
    Calls Tryd.prog 33 #[.pointer (some ⟨b, 0, none⟩)] w fun e w' => ∃ v, e = .returned (.tuple #[v, .int .i64 0]) ∧ w'.ownsRow w.heap.size 64 5 v c.length (cellsO c) ∧ Below w.heap.size w w' := by
  obtain ⟨cv, jv, rm, lm, h⟩ := h
  obtain ⟨f1, f2, f3⟩ := Bs.fin_some hf
  have hcl := rslv_len _ _ _ _ f2
  have hlt := h.lt
  obtain ⟨A, k, rfl, hlc⟩ := own_form h.code
  obtain ⟨Aj, kj, rfl, hlj⟩ := own_form h.jmps
  have c0 : w.cell? ⟨b, 0, none⟩ = some (.slice A s.code.length k) := h.box.cell 0
  have c2 : w.cell? ⟨b, 2, none⟩ = some (.map (some lm)) := h.box.cell 2
  have c3 : w.cell? ⟨b, 3, none⟩ = some (.slice Aj s.jmps.length kj) := h.box.cell 3
  have c4 : w.cell? ⟨b, 4, none⟩ = some (.bool false) := by have := h.box.cell 4; rw [f1] at this; exact this
  have HF2 := Lib.hid f2
  have HF3 := Lib.hid f3
  have HCL := Lib.hid hcl
  have hq200 : s.code.length ≤ 200 := by rw [← hcl]; exact f3.1
  have HB := Lib.hid h
  have HT := Lib.hid hT
  have HJ := Lib.hid hj0
  obtain ⟨q, hq⟩ : ∃ q, q = s.code.length := ⟨_, rfl⟩
  obtain ⟨m, hm⟩ : ∃ m, m = s.jmps.length := ⟨_, rfl⟩
  have HRO := Lib.hid (show RO w w.heap.size A q s.code by rw [hq]; exact Rd.of_own h.code)
  have HRJ := Lib.hid (show Rd w w.heap.size 2 Aj m (cellsJ s.jmps) by rw [hm]; exact Rd.of_own h.jmps)
  rw [← hq] at c0 hq200 hlc
  rw [← hm] at c3 hjl hlj
  have HQ := Lib.hid hq
  have HM := Lib.hid hm
  clear h hf f1 f2 f3 hcl hT hj0 hq hm
  go_enter Tryd.func33, Tryd.ntmps33
  go_wp2_with fail
  refine (slices_CloneO s.code A q k w.heap.size _ HRO.out (Nat.le_refl _) hq200).mono ?_
  rintro e w1 ⟨v, rfl, hown, hb1⟩
  obtain ⟨A1, k1, rfl, hlk1⟩ := own_form hown
  have HO := Lib.hid hown
  have d3 : w1.cell? ⟨b, 3, none⟩ = some (.slice Aj m kj) := (hb1.cell hlt).trans c3
  have hlt1 : b < w1.heap.size := by have := hb1.size; omega
  clear hown
  go_wp2
  go_loopw [24] (fun i wr => ∃ (j : Nat) (cj : List Ins), j ≤ m ∧ i = .int .i64 j ∧ Hid (rslv s.labs (s.jmps.take j) s.code = some cj) ∧ Hid (wr.ownsRow w.heap.size 64 5 (.slice A1 q k1) q (cellsO cj)) ∧ Below w.heap.size w wr) (fun i _ => m - (intOf i).toNat)
  case atStart => exact ⟨0, s.code, Nat.zero_le _, rfl, rfl, HO.out, hb1⟩
  case round =>
    obtain ⟨j, cj, hj, rfl, HRS, HOW, hbr⟩ := hrel
    have hszr := hbr.size
    by_cases h1 : j < m
    · obtain ⟨⟨ja, jl⟩, hjx⟩ : ∃ x, s.jmps[j]? = some x := ⟨_, List.getElem?_eq_getElem (by rw [← HM.out]; exact h1)⟩
      obtain ⟨tv, o, ci, r1, r2, r3, r4, r5, r6⟩ := rslv_at s.labs s.jmps s.code HF2.out j (ja, jl) hjx
      obtain rfl : ci = cj := by have := HRS.out; rw [r3] at this; injection this
      dsimp only at r1 r4 r5 r6
      obtain ⟨hja0, hjl0⟩ := HJ.out _ (List.mem_of_getElem? hjx)
      dsimp only at hja0 hjl0
      obtain ⟨jn, rfl⟩ : ∃ jn : Nat, ja = jn := ⟨ja.toNat, by omega⟩
      rw [Int.toNat_natCast] at r4 r5 r6
      have hcil : ci.length = q := by rw [rslv_len _ _ _ _ r3, ← HQ.out]
      have hjn : jn < q := by have := (List.getElem?_eq_some_iff.1 r4).1; omega
      obtain ⟨gj, oj, rfl, hgj, hcj⟩ := Rd.at_ (HRJ.out.below hbr) (by omega)
      obtain ⟨j1, j2⟩ := cellsJ_at s.jmps j _ hjx
      have e1 : wr.cell? ⟨gj, oj + j * 2, none⟩ = some (.int .i64 jn) := by rw [hcj _ (by omega), j1]
      have e2 : wr.cell? ⟨gj, oj + j * 2 + 1, none⟩ = some (.string ⟨jl.toArray⟩) := by rw [Nat.add_assoc, hcj _ (by omega), j2]; rfl
      obtain ⟨g, k9, hv9, hg0, hg1, _⟩ := own_some HOW.out (by omega)
      injection hv9 with hA1 _ hk9
      subst hA1
      subst hk9
      obtain ⟨kk, ka, kb, kc, kd⟩ := o
      have hco := fun i hi => cellsO_at ci jn i _ r4 hi
      have hcell := fun i (hi : i < 5) => (World.ownsRow.cellAt HOW.out (jn * 5 + i) (by omega)).trans (hco i hi)
      have g0 : wr.cell? ⟨g, jn * 5, none⟩ = some (.int .i64 kk) := hcell 0 (by omega)
      have g1 : wr.cell? ⟨g, jn * 5 + 1, none⟩ = some (.int .i64 ka) := hcell 1 (by omega)
      have g2 : wr.cell? ⟨g, jn * 5 + 2, none⟩ = some (.int .i64 kb) := hcell 2 (by omega)
      have fz := fun i => World.ownsRow.frozenAt HOW.out i
      have b2 : wr.cell? ⟨b, 2, none⟩ = some (.map (some lm)) := (hbr.cell hlt).trans c2
      have hltr : b < wr.heap.size := by omega
      have HMS := Lib.hid (show MS wr lm n s.labs from by
        obtain ⟨D, ⟨es, ck, hh, h1'⟩, h2⟩ := HB.out.labs
        exact ⟨D, ⟨es, ck, (hbr.block lm HB.out.labs.lt).trans hh, h1'⟩, h2⟩)
      have HR1 := Lib.hid r1
      have HR4 := Lib.hid r4
      have HR5 := Lib.hid r5
      clear r1 r2 r3 r4 r5 r6 hjx hco hcell hcj j1 j2 c0 c2 c3 c4 d3
      have bx := Box.new wr 85 [.int .i64 jn, .string ⟨jl.toArray⟩]
      go_wp2
      refine region_two [0, 1, 2, 3, 4, 5] [6, 7, 8, 9, 10, 11] (by kernel_rfl) (by kernel_rfl) ?_
      simp only [pick, List.map_cons, List.map_nil, List.getD_cons_zero, List.getD_cons_succ]
      have HM2 := Lib.hid (show MS (wr.alloc (Obj.cells #[.int .i64 jn, .string ⟨jl.toArray⟩] 85)).drew lm n s.labs from by
        obtain ⟨D, h1', h2'⟩ := HMS.out.kept (World.grownBy_alloc wr (Obj.cells #[.int .i64 jn, .string ⟨jl.toArray⟩] 85) none) (by simp)
        exact ⟨D, h1', h2'⟩)
      have hst := fun i u => (World.ownsRow.stored HOW.out i u).1.alloc (Obj.cells #[.int .i64 jn, .string ⟨jl.toArray⟩] 85)
      have hbl := fun i u => ((below_at hbr hg0 i u).alloc (by simp; exact hszr) (Obj.cells #[.int .i64 jn, .string ⟨jl.toArray⟩] 85)).drew
      have HST := Lib.hid hst
      have HBL := Lib.hid hbl
      clear hst hbl
      by_cases hk : kk = 10
      · subst hk
        go_wp2_with (refine wp_lookN rfl (.tmp 32) (.tmp 34) rfl lm n s.labs jl rfl HM2.out rfl hjl0 (some tv) HR1.out ?_)
        go_roundw
        case rel =>
          refine ⟨j + 1, ci.set jn ⟨10, tv, kb, kc, kd⟩, by omega, by go_num, ?_, ?_, HBL.out _ _⟩
          · refine Lib.hid ?_; have := HR5.out; simpa [tgt] using this
          · have h8 := HST.out (jn * 5 + 1) (.int .i64 tv)
            rw [cellsO_set ci jn 1 _ ⟨10, tv, kb, kc, kd⟩ HR4.out ⟨_, rfl⟩ (by omega) _ rfl] at h8
            exact Lib.hid h8
        case measure => simp [intOf]; omega
      · have hk' : (kk == 10) = false := by simpa using hk
        go_wp2_with (refine wp_lookN rfl (.tmp 32) (.tmp 34) rfl lm n s.labs jl rfl HM2.out rfl hjl0 (some tv) HR1.out ?_)
        go_roundw
        case rel =>
          refine ⟨j + 1, ci.set jn ⟨kk, ka, tv, kc, kd⟩, by omega, by go_num, ?_, ?_, HBL.out _ _⟩
          · refine Lib.hid ?_; have := HR5.out; simpa [tgt, hk] using this
          · have h8 := HST.out (jn * 5 + 2) (.int .i64 tv)
            rw [cellsO_set ci jn 2 _ ⟨kk, ka, tv, kc, kd⟩ HR4.out ⟨_, rfl⟩ (by omega) _ rfl] at h8
            exact Lib.hid h8
        case measure => simp [intOf]; omega
    · obtain rfl : j = m := by omega
      have hres := HRS.out
      rw [HM.out, List.take_length, HF2.out] at hres
      injection hres with hres
      subst hres
      have hcq : c.length = q := by rw [HCL.out, HQ.out]
      go_wp2_with fail
      refine (vm_May c A1 q k1 true _ wr.heap.size (HT.out.below hbr HT.out.lt) (Rd.of_own HOW.out) (Nat.le_refl _) (by omega) (by simp; exact HF3.out)).mono ?_
      rintro e w2 ⟨rfl, hb2⟩
      go_wp2
      go_ret2
      rw [hcq]
      exact ⟨_, rfl, own_below HOW.out hb2, hbr.trans (hb2.mono hszr)⟩
end Go.Proofs.YtfpokjhalbbeeaaDoor

set_option linter.unusedSimpArgs false
set_option linter.unusedVariables false
namespace Go.Proofs.YtfpokjhalbbeeaaDoor
open Go.RowKit Go.Ord Go.Baro Go.Maps

def nm_thread : Nm := [116, 104, 114, 101, 97, 100]
def nm_first_leaf : Nm := [102, 105, 114, 115, 116, 32, 108, 101, 97, 102]
def nm_node : Nm := [110, 111, 100, 101]
def nm_above : Nm := [97, 98, 111, 118, 101]
def nm_two : Nm := [116, 119, 111]
def nm_side : Nm := [115, 105, 100, 101]
def nm_neighbor : Nm := [110, 101, 105, 103, 104, 98, 111, 114]
def nm_one : Nm := [111, 110, 101]
def nm_root : Nm := [114, 111, 111, 116]
def nm_climb : Nm := [99, 108, 105, 109, 98]
def nm_wait : Nm := [119, 97, 105, 116]
def nm_present : Nm := [112, 114, 101, 115, 101, 110, 116]
def nm_pass : Nm := [112, 97, 115, 115]
def nm_latest : Nm := [108, 97, 116, 101, 115, 116]
def nm_at_the_root : Nm := [97, 116, 32, 116, 104, 101, 32, 114, 111, 111, 116]
def nm_absent : Nm := [97, 98, 115, 101, 110, 116]
def nm_leaves_under_it : Nm := [108, 101, 97, 118, 101, 115, 32, 117, 110, 100, 101, 114, 32, 105, 116]
def nm_ancestor : Nm := [97, 110, 99, 101, 115, 116, 111, 114]
instance : DecidableEq Ins := fun a b => by
  obtain ⟨a1, a2, a3, a4, a5⟩ := a
  obtain ⟨b1, b2, b3, b4, b5⟩ := b
  rw [Ins.mk.injEq]
  infer_instance
theorem own_cap {w : World} {B : Nat} {e : TypeId} {s n : Nat} {v : Value} {xs : List Value} (h : w.ownsRow B e s v n xs) : ∃ A k, v = .slice A n k ∧ n ≤ k ∧ k ≤ 9223372036854775807 := by
  rcases h.2 with ⟨rfl, rfl⟩ | ⟨g, cap, cur, rfl, _, _, h1, h2, _⟩
  · exact ⟨_, _, rfl, Nat.le_refl _, by omega⟩
  · exact ⟨_, _, rfl, h1, by unfold maxLen at h2; omega⟩
theorem lock_valid (w : World) (d : Int) (hd : inW d) : Calls Tryd.prog 19 #[.int .i64 d] w fun e w' => e = .returned (.bool (decide (1 ≤ d ∧ d ≤ 4))) ∧ w = w' := by
  unfold inW at hd
  by_cases h1 : 1 ≤ d
  · by_cases h6 : d ≤ 4
    · go_enter Tryd.func19, Tryd.ntmps19
      go_wp2
      go_ret
      exact ⟨ret_bool (by simp [h1, h6]), rfl⟩
    · have h7 : 4 < d := by omega
      go_enter Tryd.func19, Tryd.ntmps19
      go_wp2
      go_ret
      exact ⟨ret_bool (by simp; omega), rfl⟩
  · have h7 : d < 1 := by omega
    go_enter Tryd.func19, Tryd.ntmps19
    go_wp2
    go_ret
    exact ⟨ret_bool (by simp; omega), rfl⟩
theorem lock_leaves (w : World) (n : Nat) (h1 : 1 ≤ n) (h4 : n ≤ 4) : Calls Tryd.prog 21 #[.int .i64 n] w fun e w' => e = .returned (.int .i64 ((Lok.lv n : Nat) : Int)) ∧ w = w' := by
  by_cases h2 : n ≤ 2
  · have hl : Lok.lv n = 2 := by unfold Lok.lv; rw [if_pos h2]
    rw [hl]
    go_enter Tryd.func21, Tryd.ntmps21
    go_wp2
    go_loopw [3] (fun i wr => i = .int .i64 2 ∧ w = wr) (fun i _ => 4 - (intOf i).toNat)
    case atStart => exact ⟨rfl, rfl⟩
    case round =>
      obtain ⟨rfl, rfl⟩ := hrel
      go_wp2
      go_ret
      exact ⟨rfl, rfl⟩
  · have hl : Lok.lv n = 4 := by unfold Lok.lv; rw [if_neg h2]
    rw [hl]
    go_enter Tryd.func21, Tryd.ntmps21
    go_wp2
    go_loopw [3] (fun i wr => (i = .int .i64 2 ∨ i = .int .i64 4) ∧ w = wr) (fun i _ => 4 - (intOf i).toNat)
    case atStart => exact ⟨.inl rfl, rfl⟩
    case round =>
      obtain ⟨rfl | rfl, rfl⟩ := hrel
      · go_wp2
        go_roundw
        case rel => exact ⟨.inr rfl, by first | trivial | rfl⟩
        case measure => simp [intOf]
      · go_wp2
        go_ret
        exact ⟨rfl, rfl⟩
theorem lock_latest (w : World) (n : Nat) (h1 : 1 ≤ n) (h4 : n ≤ 4) : Calls Tryd.prog 20 #[.int .i64 n] w fun e w' => e = .returned (.int .i64 (2 * ((Lok.lv n : Nat) : Int))) ∧ w = w' := by
  have hl : Lok.lv n ≤ 4 := by unfold Lok.lv; split <;> omega
  go_enter Tryd.func20, Tryd.ntmps20
  go_wp2_with fail
  refine (lock_leaves _ n h1 h4).mono ?_
  rintro e w' ⟨rfl, rfl⟩
  go_wp2
  go_ret
  refine ⟨?_, rfl⟩
  simp
theorem eltIntC : Elt Tryd.prog 22 3 (.int .i64 0) 1 8 := Elt.mk' Tryd.underlying22 (by kernel_rfl) rfl (by decide)

def lock_find (d : Nat) (s : Bs) : Bs := ((s.set nm_first_leaf (((Lok.lv d : Nat) : Int))).op3 3 nm_node nm_first_leaf nm_thread)
set_option maxRecDepth 100000 in
set_option maxHeartbeats 4000000 in
theorem lock_find_ok (w : World) (B b n : Nat) (s : Bs) (d : Nat) (h : BdAt w B b s n) (hn : n < 10000) (h1 : 1 ≤ d) (h4 : d ≤ 4) :
    Calls Tryd.prog 23 #[.pointer (some ⟨b, 0, none⟩), .int .i64 d] w fun e w' => e = .returned (.tuple #[]) ∧ AsmPost w B b (lock_find d s) (n + 6) w' := by
  have HP0 := Lib.hid (show AsmPost w B b s n w from ⟨h, Kc.refl _ _, Below.refl _ _⟩)
  clear h
  go_enter Tryd.func23, Tryd.ntmps23
  go_wp2_with fail
  refine (lock_leaves _ d h1 h4).mono ?_
  rintro e ws ⟨rfl, rfl⟩
  go_wp2_with fail
  refine (asm_SetE _ B b n s nm_first_leaf _ (((Lok.lv d : Nat) : Int)) (by first | rfl | omega) HP0.out.1 (by omega) (by decide)).mono ?_
  rintro e w2 ⟨rfl, H⟩
  have HP2 := Lib.hid (HP0.out.trans H)
  clear H
  go_wp2_with fail
  refine (asm_Add _ B b (n + 2) (s.set nm_first_leaf (((Lok.lv d : Nat) : Int))) nm_node nm_first_leaf nm_thread HP2.out.1 (by omega) (by decide) (by decide) (by decide)).mono ?_
  rintro e w3 ⟨rfl, H⟩
  have HP3 := Lib.hid (HP2.out.trans H)
  clear H
  go_wp2
  refine bodyPost_end (v := .tuple #[]) (results_noneA rfl _ _) rfl ?_
  have := HP3.out
  rw [show ((n + 2) + 4) = n + 6 by omega] at this
  exact ⟨rfl, this⟩
def lock_neighbor (s : Bs) : Bs := (((((s.op3 6 nm_above nm_node nm_two).op3 7 nm_side nm_node nm_two).op3 3 nm_neighbor nm_node nm_one).op3 4 nm_neighbor nm_neighbor nm_side).op3 4 nm_neighbor nm_neighbor nm_side)
set_option maxRecDepth 100000 in
set_option maxHeartbeats 4000000 in
theorem lock_neighbor_ok (w : World) (B b n : Nat) (s : Bs) (h : BdAt w B b s n) (hn : n < 10000) :
    Calls Tryd.prog 26 #[.pointer (some ⟨b, 0, none⟩)] w fun e w' => e = .returned (.tuple #[]) ∧ AsmPost w B b (lock_neighbor s) (n + 20) w' := by
  have HP0 := Lib.hid (show AsmPost w B b s n w from ⟨h, Kc.refl _ _, Below.refl _ _⟩)
  clear h
  go_enter Tryd.func26, Tryd.ntmps26
  go_wp2_with fail
  refine (asm_Div _ B b n s nm_above nm_node nm_two HP0.out.1 (by omega) (by decide) (by decide) (by decide)).mono ?_
  rintro e w1 ⟨rfl, H⟩
  have HP1 := Lib.hid (HP0.out.trans H)
  clear H
  go_wp2_with fail
  refine (asm_Rem _ B b (n + 4) (s.op3 6 nm_above nm_node nm_two) nm_side nm_node nm_two HP1.out.1 (by omega) (by decide) (by decide) (by decide)).mono ?_
  rintro e w2 ⟨rfl, H⟩
  have HP2 := Lib.hid (HP1.out.trans H)
  clear H
  go_wp2_with fail
  refine (asm_Add _ B b ((n + 4) + 4) ((s.op3 6 nm_above nm_node nm_two).op3 7 nm_side nm_node nm_two) nm_neighbor nm_node nm_one HP2.out.1 (by omega) (by decide) (by decide) (by decide)).mono ?_
  rintro e w3 ⟨rfl, H⟩
  have HP3 := Lib.hid (HP2.out.trans H)
  clear H
  go_wp2_with fail
  refine (asm_Sub _ B b (((n + 4) + 4) + 4) (((s.op3 6 nm_above nm_node nm_two).op3 7 nm_side nm_node nm_two).op3 3 nm_neighbor nm_node nm_one) nm_neighbor nm_neighbor nm_side HP3.out.1 (by omega) (by decide) (by decide) (by decide)).mono ?_
  rintro e w4 ⟨rfl, H⟩
  have HP4 := Lib.hid (HP3.out.trans H)
  clear H
  go_wp2_with fail
  refine (asm_Sub _ B b ((((n + 4) + 4) + 4) + 4) ((((s.op3 6 nm_above nm_node nm_two).op3 7 nm_side nm_node nm_two).op3 3 nm_neighbor nm_node nm_one).op3 4 nm_neighbor nm_neighbor nm_side) nm_neighbor nm_neighbor nm_side HP4.out.1 (by omega) (by decide) (by decide) (by decide)).mono ?_
  rintro e w5 ⟨rfl, H⟩
  have HP5 := Lib.hid (HP4.out.trans H)
  clear H
  go_wp2
  refine bodyPost_end (v := .tuple #[]) (results_noneA rfl _ _) rfl ?_
  have := HP5.out
  rw [show (((((n + 4) + 4) + 4) + 4) + 4) = n + 20 by omega] at this
  exact ⟨rfl, this⟩
def lock_Enter_B (n : Nat) : Bs := (((((((((((((lock_neighbor  (((((lock_find n (Bs.new [nm_thread])).set nm_one (1)).set nm_two (2)).set nm_root (1)).lab nm_climb)).store nm_one nm_node (0)).store nm_node nm_above (2 * ((Lok.lv n : Nat) : Int))).lab nm_wait).load nm_present nm_neighbor (0)).unless nm_present nm_pass).load nm_latest nm_above (2 * ((Lok.lv n : Nat) : Int))).op3 8 nm_latest nm_latest nm_node).when nm_latest nm_wait).lab nm_pass).copy nm_node nm_above).op3 8 nm_at_the_root nm_node nm_root).unless nm_at_the_root nm_climb)
theorem lock_Enter_fin (n : Nat) (h1 : 1 ≤ n) (h4 : n ≤ 4) : (lock_Enter_B n).fin = some (Lok.entC (Lok.lv n)) ∧ (∀ j ∈ (lock_Enter_B n).jmps, 0 ≤ j.1 ∧ j.2.length ≤ 1000) ∧ (lock_Enter_B n).jmps.length ≤ 1000 := by
  rcases (by omega : n = 1 ∨ n = 2 ∨ n = 3 ∨ n = 4) with rfl | rfl | rfl | rfl <;> exact ⟨by kernel_rfl, by decide +kernel, by decide +kernel⟩
theorem lock_Enter_new : ∀ (j : Nat) l, ([nm_thread] : List Nm)[j]? = some l → nmAsk (Bs.new (([nm_thread] : List Nm).take j)).regs l = none := by
  intro j l hl
  rcases (by omega : j = 0 ∨ 1 ≤ j) with rfl | h
  all_goals first | (injection hl with hl; subst hl; kernel_rfl) | (rw [List.getElem?_eq_none (by simpa using h)] at hl; cases hl)
set_option maxRecDepth 100000 in
set_option maxHeartbeats 4000000 in
theorem lock_Enter_ok (w : World) (hT : Tab w) (n : Nat) (h1 : 1 ≤ n) (h4 : n ≤ 4) : Calls Tryd.prog 9 #[.int .i64 n] w fun e w' => (∃ A m k, e = .returned (.tuple #[.slice A m k, .int .i64 0]) ∧ m ≤ k ∧ k ≤ 9223372036854775807 ∧ QT w' 64 5 A m (cellsO (Lok.entC (Lok.lv n)))) ∧ Below w.heap.size w w' := by
  have hd : inW (n : Int) := by unfold inW; omega
  have hx : 1 ≤ (n : Int) ∧ (n : Int) ≤ 4 := by omega
  have HT := Lib.hid hT
  clear hT
  go_enter Tryd.func9, Tryd.ntmps9
  go_wp2_with fail
  refine (lock_valid _ _ hd).mono ?_
  rintro e w' ⟨he, rfl⟩
  rw [decide_eq_true hx] at he
  subst he
  go_wp2_with fail
  have HQ := Lib.hid (show QN (w.alloc (.cells #[nmV nm_thread] 9)) (some ⟨w.heap.size, 0, none⟩) 1 [nm_thread] from QT.box (s := 1) (n := 1) (Box.newAt w 9 [nmV nm_thread] w.heap.size rfl) rfl)
  have hb0 : Below w.heap.size w (w.alloc (.cells #[nmV nm_thread] 9)) := (Below.refl w.heap.size w).alloc (Nat.le_refl _) (.cells #[nmV nm_thread] 9)
  refine (asm_New (w.alloc (.cells #[nmV nm_thread] 9)) (some ⟨w.heap.size, 0, none⟩) 1 1 [nm_thread] HQ.out (by omega) (by decide) lock_Enter_new).mono ?_
  rintro e w1 ⟨b, rfl, H⟩
  obtain ⟨w0, hw0⟩ : ∃ w0, w0 = w.alloc (.cells #[nmV nm_thread] 9) := ⟨_, rfl⟩
  clear HQ
  rw [← hw0] at H hb0
  obtain ⟨B, hB⟩ : ∃ B, B = w0.heap.size := ⟨_, rfl⟩
  rw [← hB] at H
  have HBB := Lib.hid hB
  have HB0 := Lib.hid hb0
  have HP0 := Lib.hid H
  clear H hB hb0 hw0
  go_wp2_with fail
  refine (lock_find_ok _ B b 1 (Bs.new [nm_thread]) n HP0.out.1 (by omega) h1 h4).mono ?_
  rintro e w1 ⟨rfl, H⟩
  have HP1 := Lib.hid (HP0.out.trans H)
  clear H
  go_wp2_with fail
  refine (asm_SetE _ B b (1 + 6) (lock_find n (Bs.new [nm_thread])) nm_one _ (1) (by first | rfl | omega) HP1.out.1 (by omega) (by decide)).mono ?_
  rintro e w2 ⟨rfl, H⟩
  have HP2 := Lib.hid (HP1.out.trans H)
  clear H
  go_wp2_with fail
  refine (asm_SetE _ B b ((1 + 6) + 2) ((lock_find n (Bs.new [nm_thread])).set nm_one (1)) nm_two _ (2) (by first | rfl | omega) HP2.out.1 (by omega) (by decide)).mono ?_
  rintro e w3 ⟨rfl, H⟩
  have HP3 := Lib.hid (HP2.out.trans H)
  clear H
  go_wp2_with fail
  refine (asm_SetE _ B b (((1 + 6) + 2) + 2) (((lock_find n (Bs.new [nm_thread])).set nm_one (1)).set nm_two (2)) nm_root _ (1) (by first | rfl | omega) HP3.out.1 (by omega) (by decide)).mono ?_
  rintro e w4 ⟨rfl, H⟩
  have HP4 := Lib.hid (HP3.out.trans H)
  clear H
  go_wp2_with fail
  refine (asm_Label _ B b ((((1 + 6) + 2) + 2) + 2) ((((lock_find n (Bs.new [nm_thread])).set nm_one (1)).set nm_two (2)).set nm_root (1)) nm_climb HP4.out.1 (by omega) (by decide) (by kernel_rfl)).mono ?_
  rintro e w5 ⟨rfl, H⟩
  have HP5 := Lib.hid (HP4.out.trans H)
  clear H
  go_wp2_with fail
  refine (lock_neighbor_ok _ B b (((((1 + 6) + 2) + 2) + 2) + 1) (((((lock_find n (Bs.new [nm_thread])).set nm_one (1)).set nm_two (2)).set nm_root (1)).lab nm_climb)  HP5.out.1 (by omega)).mono ?_
  rintro e w6 ⟨rfl, H⟩
  have HP6 := Lib.hid (HP5.out.trans H)
  clear H
  go_wp2_with fail
  refine (asm_StoreE _ B b ((((((1 + 6) + 2) + 2) + 2) + 1) + 20) (lock_neighbor  (((((lock_find n (Bs.new [nm_thread])).set nm_one (1)).set nm_two (2)).set nm_root (1)).lab nm_climb)) nm_one nm_node _ (0) (by first | rfl | omega) HP6.out.1 (by omega) (by decide) (by decide)).mono ?_
  rintro e w7 ⟨rfl, H⟩
  have HP7 := Lib.hid (HP6.out.trans H)
  clear H
  go_wp2_with fail
  refine (lock_latest _ n h1 h4).mono ?_
  rintro e ws ⟨rfl, rfl⟩
  go_wp2_with fail
  refine (asm_StoreE _ B b (((((((1 + 6) + 2) + 2) + 2) + 1) + 20) + 3) ((lock_neighbor  (((((lock_find n (Bs.new [nm_thread])).set nm_one (1)).set nm_two (2)).set nm_root (1)).lab nm_climb)).store nm_one nm_node (0)) nm_node nm_above _ (2 * ((Lok.lv n : Nat) : Int)) (by first | rfl | omega) HP7.out.1 (by omega) (by decide) (by decide)).mono ?_
  rintro e w9 ⟨rfl, H⟩
  have HP9 := Lib.hid (HP7.out.trans H)
  clear H
  go_wp2_with fail
  refine (asm_Label _ B b ((((((((1 + 6) + 2) + 2) + 2) + 1) + 20) + 3) + 3) (((lock_neighbor  (((((lock_find n (Bs.new [nm_thread])).set nm_one (1)).set nm_two (2)).set nm_root (1)).lab nm_climb)).store nm_one nm_node (0)).store nm_node nm_above (2 * ((Lok.lv n : Nat) : Int))) nm_wait HP9.out.1 (by omega) (by decide) (by kernel_rfl)).mono ?_
  rintro e w10 ⟨rfl, H⟩
  have HP10 := Lib.hid (HP9.out.trans H)
  clear H
  go_wp2_with fail
  refine (asm_LoadE _ B b (((((((((1 + 6) + 2) + 2) + 2) + 1) + 20) + 3) + 3) + 1) ((((lock_neighbor  (((((lock_find n (Bs.new [nm_thread])).set nm_one (1)).set nm_two (2)).set nm_root (1)).lab nm_climb)).store nm_one nm_node (0)).store nm_node nm_above (2 * ((Lok.lv n : Nat) : Int))).lab nm_wait) nm_present nm_neighbor _ (0) (by first | rfl | omega) HP10.out.1 (by omega) (by decide) (by decide)).mono ?_
  rintro e w11 ⟨rfl, H⟩
  have HP11 := Lib.hid (HP10.out.trans H)
  clear H
  go_wp2_with fail
  refine (asm_Unless _ B b ((((((((((1 + 6) + 2) + 2) + 2) + 1) + 20) + 3) + 3) + 1) + 3) (((((lock_neighbor  (((((lock_find n (Bs.new [nm_thread])).set nm_one (1)).set nm_two (2)).set nm_root (1)).lab nm_climb)).store nm_one nm_node (0)).store nm_node nm_above (2 * ((Lok.lv n : Nat) : Int))).lab nm_wait).load nm_present nm_neighbor (0)) nm_present nm_pass HP11.out.1 (by omega) (by decide) (by decide)).mono ?_
  rintro e w12 ⟨rfl, H⟩
  have HP12 := Lib.hid (HP11.out.trans H)
  clear H
  go_wp2_with fail
  refine (lock_latest _ n h1 h4).mono ?_
  rintro e ws ⟨rfl, rfl⟩
  go_wp2_with fail
  refine (asm_LoadE _ B b (((((((((((1 + 6) + 2) + 2) + 2) + 1) + 20) + 3) + 3) + 1) + 3) + 3) ((((((lock_neighbor  (((((lock_find n (Bs.new [nm_thread])).set nm_one (1)).set nm_two (2)).set nm_root (1)).lab nm_climb)).store nm_one nm_node (0)).store nm_node nm_above (2 * ((Lok.lv n : Nat) : Int))).lab nm_wait).load nm_present nm_neighbor (0)).unless nm_present nm_pass) nm_latest nm_above _ (2 * ((Lok.lv n : Nat) : Int)) (by first | rfl | omega) HP12.out.1 (by omega) (by decide) (by decide)).mono ?_
  rintro e w14 ⟨rfl, H⟩
  have HP14 := Lib.hid (HP12.out.trans H)
  clear H
  go_wp2_with fail
  refine (asm_Same _ B b ((((((((((((1 + 6) + 2) + 2) + 2) + 1) + 20) + 3) + 3) + 1) + 3) + 3) + 3) (((((((lock_neighbor  (((((lock_find n (Bs.new [nm_thread])).set nm_one (1)).set nm_two (2)).set nm_root (1)).lab nm_climb)).store nm_one nm_node (0)).store nm_node nm_above (2 * ((Lok.lv n : Nat) : Int))).lab nm_wait).load nm_present nm_neighbor (0)).unless nm_present nm_pass).load nm_latest nm_above (2 * ((Lok.lv n : Nat) : Int))) nm_latest nm_latest nm_node HP14.out.1 (by omega) (by decide) (by decide) (by decide)).mono ?_
  rintro e w15 ⟨rfl, H⟩
  have HP15 := Lib.hid (HP14.out.trans H)
  clear H
  go_wp2_with fail
  refine (asm_When _ B b (((((((((((((1 + 6) + 2) + 2) + 2) + 1) + 20) + 3) + 3) + 1) + 3) + 3) + 3) + 4) ((((((((lock_neighbor  (((((lock_find n (Bs.new [nm_thread])).set nm_one (1)).set nm_two (2)).set nm_root (1)).lab nm_climb)).store nm_one nm_node (0)).store nm_node nm_above (2 * ((Lok.lv n : Nat) : Int))).lab nm_wait).load nm_present nm_neighbor (0)).unless nm_present nm_pass).load nm_latest nm_above (2 * ((Lok.lv n : Nat) : Int))).op3 8 nm_latest nm_latest nm_node) nm_latest nm_wait HP15.out.1 (by omega) (by decide) (by decide)).mono ?_
  rintro e w16 ⟨rfl, H⟩
  have HP16 := Lib.hid (HP15.out.trans H)
  clear H
  go_wp2_with fail
  refine (asm_Label _ B b ((((((((((((((1 + 6) + 2) + 2) + 2) + 1) + 20) + 3) + 3) + 1) + 3) + 3) + 3) + 4) + 3) (((((((((lock_neighbor  (((((lock_find n (Bs.new [nm_thread])).set nm_one (1)).set nm_two (2)).set nm_root (1)).lab nm_climb)).store nm_one nm_node (0)).store nm_node nm_above (2 * ((Lok.lv n : Nat) : Int))).lab nm_wait).load nm_present nm_neighbor (0)).unless nm_present nm_pass).load nm_latest nm_above (2 * ((Lok.lv n : Nat) : Int))).op3 8 nm_latest nm_latest nm_node).when nm_latest nm_wait) nm_pass HP16.out.1 (by omega) (by decide) (by kernel_rfl)).mono ?_
  rintro e w17 ⟨rfl, H⟩
  have HP17 := Lib.hid (HP16.out.trans H)
  clear H
  go_wp2_with fail
  refine (asm_Copy _ B b (((((((((((((((1 + 6) + 2) + 2) + 2) + 1) + 20) + 3) + 3) + 1) + 3) + 3) + 3) + 4) + 3) + 1) ((((((((((lock_neighbor  (((((lock_find n (Bs.new [nm_thread])).set nm_one (1)).set nm_two (2)).set nm_root (1)).lab nm_climb)).store nm_one nm_node (0)).store nm_node nm_above (2 * ((Lok.lv n : Nat) : Int))).lab nm_wait).load nm_present nm_neighbor (0)).unless nm_present nm_pass).load nm_latest nm_above (2 * ((Lok.lv n : Nat) : Int))).op3 8 nm_latest nm_latest nm_node).when nm_latest nm_wait).lab nm_pass) nm_node nm_above HP17.out.1 (by omega) (by decide) (by decide)).mono ?_
  rintro e w18 ⟨rfl, H⟩
  have HP18 := Lib.hid (HP17.out.trans H)
  clear H
  go_wp2_with fail
  refine (asm_Same _ B b ((((((((((((((((1 + 6) + 2) + 2) + 2) + 1) + 20) + 3) + 3) + 1) + 3) + 3) + 3) + 4) + 3) + 1) + 3) (((((((((((lock_neighbor  (((((lock_find n (Bs.new [nm_thread])).set nm_one (1)).set nm_two (2)).set nm_root (1)).lab nm_climb)).store nm_one nm_node (0)).store nm_node nm_above (2 * ((Lok.lv n : Nat) : Int))).lab nm_wait).load nm_present nm_neighbor (0)).unless nm_present nm_pass).load nm_latest nm_above (2 * ((Lok.lv n : Nat) : Int))).op3 8 nm_latest nm_latest nm_node).when nm_latest nm_wait).lab nm_pass).copy nm_node nm_above) nm_at_the_root nm_node nm_root HP18.out.1 (by omega) (by decide) (by decide) (by decide)).mono ?_
  rintro e w19 ⟨rfl, H⟩
  have HP19 := Lib.hid (HP18.out.trans H)
  clear H
  go_wp2_with fail
  refine (asm_Unless _ B b (((((((((((((((((1 + 6) + 2) + 2) + 2) + 1) + 20) + 3) + 3) + 1) + 3) + 3) + 3) + 4) + 3) + 1) + 3) + 4) ((((((((((((lock_neighbor  (((((lock_find n (Bs.new [nm_thread])).set nm_one (1)).set nm_two (2)).set nm_root (1)).lab nm_climb)).store nm_one nm_node (0)).store nm_node nm_above (2 * ((Lok.lv n : Nat) : Int))).lab nm_wait).load nm_present nm_neighbor (0)).unless nm_present nm_pass).load nm_latest nm_above (2 * ((Lok.lv n : Nat) : Int))).op3 8 nm_latest nm_latest nm_node).when nm_latest nm_wait).lab nm_pass).copy nm_node nm_above).op3 8 nm_at_the_root nm_node nm_root) nm_at_the_root nm_climb HP19.out.1 (by omega) (by decide) (by decide)).mono ?_
  rintro e w20 ⟨rfl, H⟩
  have HP20 := Lib.hid (HP19.out.trans H)
  clear H
  obtain ⟨f1, f2, f3⟩ := lock_Enter_fin n h1 h4
  have hb6 : Below w.heap.size w _ := HB0.out.trans (HP20.out.2.2.mono (by rw [HBB.out]; exact HB0.out.size))
  go_wp2_with fail
  refine (asm_Code _ (HT.out.below hb6 HT.out.lt) B b _ (lock_Enter_B n) _ HP20.out.1 f1 f2 f3).mono ?_
  rintro e w7 ⟨v, rfl, hown, hb7⟩
  obtain ⟨A7, k7, rfl, hk7, hk8⟩ := own_cap hown
  go_wp2
  go_ret2
  exact ⟨⟨_, _, _, rfl, hk7, hk8, QT.own hown⟩, hb6.trans (hb7.mono hb6.size)⟩
set_option maxHeartbeats 4000000 in
theorem lock_Enter : CSpec 9 4 (fun n => Lok.entC (Lok.lv n)) := by
  intro w hT d hd
  have hd' := hd
  unfold inW at hd'
  by_cases hx : 1 ≤ d ∧ d ≤ 4
  · obtain ⟨n, rfl⟩ : ∃ n : Nat, d = n := ⟨d.toNat, by omega⟩
    rcases (by omega : (1 ≤ n ∧ n ≤ 4)) with ⟨h1, h4⟩
    · exact (lock_Enter_ok w hT n h1 h4).mono fun e w' h => ⟨fun _ => by rw [Int.toNat_natCast]; exact h.1, fun h' => absurd hx h', h.2⟩
  · clear hT
    go_enter Tryd.func9, Tryd.ntmps9
    go_wp2_with fail
    refine (lock_valid _ _ hd).mono ?_
    rintro e w' ⟨he, rfl⟩
    rw [decide_eq_false hx] at he
    subst he
    go_wp2
    go_ret2
    exact ⟨fun h => absurd h hx, fun _ => ⟨_, _, rfl⟩, Below.refl _ _⟩
def lock_LeaveA_B (n : Nat) : Bs := (((((lock_find n (Bs.new [nm_thread])).set nm_absent (0)).set nm_leaves_under_it (1)).op3 6 nm_ancestor nm_node nm_leaves_under_it).store nm_absent nm_ancestor (0))
theorem lock_LeaveA_fin (n : Nat) (h1 : 1 ≤ n) (h4 : n ≤ 2) : (lock_LeaveA_B n).fin = some (Lok.leaC (Lok.lv n)) ∧ (∀ j ∈ (lock_LeaveA_B n).jmps, 0 ≤ j.1 ∧ j.2.length ≤ 1000) ∧ (lock_LeaveA_B n).jmps.length ≤ 1000 := by
  rcases (by omega : n = 1 ∨ n = 2) with rfl | rfl <;> exact ⟨by kernel_rfl, by decide +kernel, by decide +kernel⟩
theorem lock_LeaveA_new : ∀ (j : Nat) l, ([nm_thread] : List Nm)[j]? = some l → nmAsk (Bs.new (([nm_thread] : List Nm).take j)).regs l = none := by
  intro j l hl
  rcases (by omega : j = 0 ∨ 1 ≤ j) with rfl | h
  all_goals first | (injection hl with hl; subst hl; kernel_rfl) | (rw [List.getElem?_eq_none (by simpa using h)] at hl; cases hl)
set_option maxRecDepth 100000 in
set_option maxHeartbeats 4000000 in
theorem lock_LeaveA_ok (w : World) (hT : Tab w) (n : Nat) (h1 : 1 ≤ n) (h4 : n ≤ 2) : Calls Tryd.prog 10 #[.int .i64 n] w fun e w' => (∃ A m k, e = .returned (.tuple #[.slice A m k, .int .i64 0]) ∧ m ≤ k ∧ k ≤ 9223372036854775807 ∧ QT w' 64 5 A m (cellsO (Lok.leaC (Lok.lv n)))) ∧ Below w.heap.size w w' := by
  have hd : inW (n : Int) := by unfold inW; omega
  have hx : 1 ≤ (n : Int) ∧ (n : Int) ≤ 4 := by omega
  have HT := Lib.hid hT
  clear hT
  go_enter Tryd.func10, Tryd.ntmps10
  go_wp2_with fail
  refine (lock_valid _ _ hd).mono ?_
  rintro e w' ⟨he, rfl⟩
  rw [decide_eq_true hx] at he
  subst he
  go_wp2_with fail
  have HQ := Lib.hid (show QN (w.alloc (.cells #[nmV nm_thread] 9)) (some ⟨w.heap.size, 0, none⟩) 1 [nm_thread] from QT.box (s := 1) (n := 1) (Box.newAt w 9 [nmV nm_thread] w.heap.size rfl) rfl)
  have hb0 : Below w.heap.size w (w.alloc (.cells #[nmV nm_thread] 9)) := (Below.refl w.heap.size w).alloc (Nat.le_refl _) (.cells #[nmV nm_thread] 9)
  refine (asm_New (w.alloc (.cells #[nmV nm_thread] 9)) (some ⟨w.heap.size, 0, none⟩) 1 1 [nm_thread] HQ.out (by omega) (by decide) lock_LeaveA_new).mono ?_
  rintro e w1 ⟨b, rfl, H⟩
  obtain ⟨w0, hw0⟩ : ∃ w0, w0 = w.alloc (.cells #[nmV nm_thread] 9) := ⟨_, rfl⟩
  clear HQ
  rw [← hw0] at H hb0
  obtain ⟨B, hB⟩ : ∃ B, B = w0.heap.size := ⟨_, rfl⟩
  rw [← hB] at H
  have HBB := Lib.hid hB
  have HB0 := Lib.hid hb0
  have HP0 := Lib.hid H
  clear H hB hb0 hw0
  go_wp2_with fail
  refine (lock_find_ok _ B b 1 (Bs.new [nm_thread]) n HP0.out.1 (by omega) (by omega) (by omega)).mono ?_
  rintro e w1 ⟨rfl, H⟩
  have HP1 := Lib.hid (HP0.out.trans H)
  clear H
  go_wp2_with fail
  refine (asm_SetE _ B b (1 + 6) (lock_find n (Bs.new [nm_thread])) nm_absent _ (0) (by first | rfl | omega) HP1.out.1 (by omega) (by decide)).mono ?_
  rintro e w2 ⟨rfl, H⟩
  have HP2 := Lib.hid (HP1.out.trans H)
  clear H
  go_wp2_with fail
  refine (lock_leaves _ n (by omega) (by omega)).mono ?_
  rintro e ws ⟨rfl, rfl⟩
  rw [show Lok.lv n = 2 by unfold Lok.lv; split <;> omega]
  go_wp2
  go_loopw [5] (fun i wr => (i = .int .i64 1 ∧ Hid (AsmPost w0 B b ((lock_find n (Bs.new [nm_thread])).set nm_absent (0)) ((1 + 6) + 2) wr)) ∨ (i = .int .i64 0 ∧ Hid (AsmPost w0 B b (((((lock_find n (Bs.new [nm_thread])).set nm_absent (0)).set nm_leaves_under_it (1)).op3 6 nm_ancestor nm_node nm_leaves_under_it).store nm_absent nm_ancestor (0)) (((1 + 6) + 2) + 9) wr))) (fun i _ => (intOf i).toNat)
  case atStart => exact .inl ⟨rfl, HP2.out⟩
  case round =>
    rcases hrel with ⟨rfl, HP5⟩ | ⟨rfl, HP5⟩
    · have HQ5 := HP5
      go_wp2_with fail
      refine (asm_SetE _ B b ((1 + 6) + 2) ((lock_find n (Bs.new [nm_thread])).set nm_absent (0)) nm_leaves_under_it _ (1) (by first | rfl | omega) HP5.out.1 (by omega) (by decide)).mono ?_
      rintro e w6 ⟨rfl, H⟩
      have HP6 := Lib.hid (HP5.out.trans H)
      clear H
      go_wp2_with fail
      refine (asm_Div _ B b (((1 + 6) + 2) + 2) (((lock_find n (Bs.new [nm_thread])).set nm_absent (0)).set nm_leaves_under_it (1)) nm_ancestor nm_node nm_leaves_under_it HP6.out.1 (by omega) (by decide) (by decide) (by decide)).mono ?_
      rintro e w7 ⟨rfl, H⟩
      have HP7 := Lib.hid (HP6.out.trans H)
      clear H
      go_wp2_with fail
      refine (asm_StoreE _ B b ((((1 + 6) + 2) + 2) + 4) ((((lock_find n (Bs.new [nm_thread])).set nm_absent (0)).set nm_leaves_under_it (1)).op3 6 nm_ancestor nm_node nm_leaves_under_it) nm_absent nm_ancestor _ (0) (by first | rfl | omega) HP7.out.1 (by omega) (by decide) (by decide)).mono ?_
      rintro e w8 ⟨rfl, H⟩
      have HP8 := Lib.hid (HP7.out.trans H)
      clear H
      go_wp2
      go_roundw
      case rel => exact .inr (⟨rfl, HP8.out⟩)
      case measure => simp [intOf]
    · have HQ5 := HP5
      obtain ⟨f1, f2, f3⟩ := lock_LeaveA_fin n h1 h4
      have hb6 : Below w.heap.size w _ := HB0.out.trans (HP5.out.2.2.mono (by rw [HBB.out]; exact HB0.out.size))
      go_wp2_with fail
      refine (asm_Code _ (HT.out.below hb6 HT.out.lt) B b _ (lock_LeaveA_B n) _ HP5.out.1 f1 f2 f3).mono ?_
      rintro e w7 ⟨v, rfl, hown, hb7⟩
      obtain ⟨A7, k7, rfl, hk7, hk8⟩ := own_cap hown
      go_wp2
      go_ret2
      exact ⟨⟨_, _, _, rfl, hk7, hk8, QT.own hown⟩, hb6.trans (hb7.mono hb6.size)⟩
def lock_LeaveB_B (n : Nat) : Bs := ((((((((lock_find n (Bs.new [nm_thread])).set nm_absent (0)).set nm_leaves_under_it (2)).op3 6 nm_ancestor nm_node nm_leaves_under_it).store nm_absent nm_ancestor (0)).set nm_leaves_under_it (1)).op3 6 nm_ancestor nm_node nm_leaves_under_it).store nm_absent nm_ancestor (0))
theorem lock_LeaveB_fin (n : Nat) (h1 : 3 ≤ n) (h4 : n ≤ 4) : (lock_LeaveB_B n).fin = some (Lok.leaC (Lok.lv n)) ∧ (∀ j ∈ (lock_LeaveB_B n).jmps, 0 ≤ j.1 ∧ j.2.length ≤ 1000) ∧ (lock_LeaveB_B n).jmps.length ≤ 1000 := by
  rcases (by omega : n = 3 ∨ n = 4) with rfl | rfl <;> exact ⟨by kernel_rfl, by decide +kernel, by decide +kernel⟩
theorem lock_LeaveB_new : ∀ (j : Nat) l, ([nm_thread] : List Nm)[j]? = some l → nmAsk (Bs.new (([nm_thread] : List Nm).take j)).regs l = none := by
  intro j l hl
  rcases (by omega : j = 0 ∨ 1 ≤ j) with rfl | h
  all_goals first | (injection hl with hl; subst hl; kernel_rfl) | (rw [List.getElem?_eq_none (by simpa using h)] at hl; cases hl)
set_option maxRecDepth 100000 in
set_option maxHeartbeats 4000000 in
theorem lock_LeaveB_ok (w : World) (hT : Tab w) (n : Nat) (h1 : 3 ≤ n) (h4 : n ≤ 4) : Calls Tryd.prog 10 #[.int .i64 n] w fun e w' => (∃ A m k, e = .returned (.tuple #[.slice A m k, .int .i64 0]) ∧ m ≤ k ∧ k ≤ 9223372036854775807 ∧ QT w' 64 5 A m (cellsO (Lok.leaC (Lok.lv n)))) ∧ Below w.heap.size w w' := by
  have hd : inW (n : Int) := by unfold inW; omega
  have hx : 1 ≤ (n : Int) ∧ (n : Int) ≤ 4 := by omega
  have HT := Lib.hid hT
  clear hT
  go_enter Tryd.func10, Tryd.ntmps10
  go_wp2_with fail
  refine (lock_valid _ _ hd).mono ?_
  rintro e w' ⟨he, rfl⟩
  rw [decide_eq_true hx] at he
  subst he
  go_wp2_with fail
  have HQ := Lib.hid (show QN (w.alloc (.cells #[nmV nm_thread] 9)) (some ⟨w.heap.size, 0, none⟩) 1 [nm_thread] from QT.box (s := 1) (n := 1) (Box.newAt w 9 [nmV nm_thread] w.heap.size rfl) rfl)
  have hb0 : Below w.heap.size w (w.alloc (.cells #[nmV nm_thread] 9)) := (Below.refl w.heap.size w).alloc (Nat.le_refl _) (.cells #[nmV nm_thread] 9)
  refine (asm_New (w.alloc (.cells #[nmV nm_thread] 9)) (some ⟨w.heap.size, 0, none⟩) 1 1 [nm_thread] HQ.out (by omega) (by decide) lock_LeaveB_new).mono ?_
  rintro e w1 ⟨b, rfl, H⟩
  obtain ⟨w0, hw0⟩ : ∃ w0, w0 = w.alloc (.cells #[nmV nm_thread] 9) := ⟨_, rfl⟩
  clear HQ
  rw [← hw0] at H hb0
  obtain ⟨B, hB⟩ : ∃ B, B = w0.heap.size := ⟨_, rfl⟩
  rw [← hB] at H
  have HBB := Lib.hid hB
  have HB0 := Lib.hid hb0
  have HP0 := Lib.hid H
  clear H hB hb0 hw0
  go_wp2_with fail
  refine (lock_find_ok _ B b 1 (Bs.new [nm_thread]) n HP0.out.1 (by omega) (by omega) (by omega)).mono ?_
  rintro e w1 ⟨rfl, H⟩
  have HP1 := Lib.hid (HP0.out.trans H)
  clear H
  go_wp2_with fail
  refine (asm_SetE _ B b (1 + 6) (lock_find n (Bs.new [nm_thread])) nm_absent _ (0) (by first | rfl | omega) HP1.out.1 (by omega) (by decide)).mono ?_
  rintro e w2 ⟨rfl, H⟩
  have HP2 := Lib.hid (HP1.out.trans H)
  clear H
  go_wp2_with fail
  refine (lock_leaves _ n (by omega) (by omega)).mono ?_
  rintro e ws ⟨rfl, rfl⟩
  rw [show Lok.lv n = 4 by unfold Lok.lv; split <;> omega]
  go_wp2
  go_loopw [5] (fun i wr => (i = .int .i64 2 ∧ Hid (AsmPost w0 B b ((lock_find n (Bs.new [nm_thread])).set nm_absent (0)) ((1 + 6) + 2) wr)) ∨ (i = .int .i64 1 ∧ Hid (AsmPost w0 B b (((((lock_find n (Bs.new [nm_thread])).set nm_absent (0)).set nm_leaves_under_it (2)).op3 6 nm_ancestor nm_node nm_leaves_under_it).store nm_absent nm_ancestor (0)) (((1 + 6) + 2) + 9) wr)) ∨ (i = .int .i64 0 ∧ Hid (AsmPost w0 B b ((((((((lock_find n (Bs.new [nm_thread])).set nm_absent (0)).set nm_leaves_under_it (2)).op3 6 nm_ancestor nm_node nm_leaves_under_it).store nm_absent nm_ancestor (0)).set nm_leaves_under_it (1)).op3 6 nm_ancestor nm_node nm_leaves_under_it).store nm_absent nm_ancestor (0)) ((((1 + 6) + 2) + 9) + 9) wr))) (fun i _ => (intOf i).toNat)
  case atStart => exact .inl ⟨rfl, HP2.out⟩
  case round =>
    rcases hrel with ⟨rfl, HP5⟩ | ⟨rfl, HP5⟩ | ⟨rfl, HP5⟩
    · have HQ5 := HP5
      go_wp2_with fail
      refine (asm_SetE _ B b ((1 + 6) + 2) ((lock_find n (Bs.new [nm_thread])).set nm_absent (0)) nm_leaves_under_it _ (2) (by first | rfl | omega) HP5.out.1 (by omega) (by decide)).mono ?_
      rintro e w6 ⟨rfl, H⟩
      have HP6 := Lib.hid (HP5.out.trans H)
      clear H
      go_wp2_with fail
      refine (asm_Div _ B b (((1 + 6) + 2) + 2) (((lock_find n (Bs.new [nm_thread])).set nm_absent (0)).set nm_leaves_under_it (2)) nm_ancestor nm_node nm_leaves_under_it HP6.out.1 (by omega) (by decide) (by decide) (by decide)).mono ?_
      rintro e w7 ⟨rfl, H⟩
      have HP7 := Lib.hid (HP6.out.trans H)
      clear H
      go_wp2_with fail
      refine (asm_StoreE _ B b ((((1 + 6) + 2) + 2) + 4) ((((lock_find n (Bs.new [nm_thread])).set nm_absent (0)).set nm_leaves_under_it (2)).op3 6 nm_ancestor nm_node nm_leaves_under_it) nm_absent nm_ancestor _ (0) (by first | rfl | omega) HP7.out.1 (by omega) (by decide) (by decide)).mono ?_
      rintro e w8 ⟨rfl, H⟩
      have HP8 := Lib.hid (HP7.out.trans H)
      clear H
      go_wp2
      go_roundw
      case rel => exact .inr (.inl ⟨rfl, HP8.out⟩)
      case measure => simp [intOf]
    · have HQ5 := HP5
      go_wp2_with fail
      refine (asm_SetE _ B b (((1 + 6) + 2) + 9) (((((lock_find n (Bs.new [nm_thread])).set nm_absent (0)).set nm_leaves_under_it (2)).op3 6 nm_ancestor nm_node nm_leaves_under_it).store nm_absent nm_ancestor (0)) nm_leaves_under_it _ (1) (by first | rfl | omega) HP5.out.1 (by omega) (by decide)).mono ?_
      rintro e w9 ⟨rfl, H⟩
      have HP9 := Lib.hid (HP5.out.trans H)
      clear H
      go_wp2_with fail
      refine (asm_Div _ B b ((((1 + 6) + 2) + 9) + 2) ((((((lock_find n (Bs.new [nm_thread])).set nm_absent (0)).set nm_leaves_under_it (2)).op3 6 nm_ancestor nm_node nm_leaves_under_it).store nm_absent nm_ancestor (0)).set nm_leaves_under_it (1)) nm_ancestor nm_node nm_leaves_under_it HP9.out.1 (by omega) (by decide) (by decide) (by decide)).mono ?_
      rintro e w10 ⟨rfl, H⟩
      have HP10 := Lib.hid (HP9.out.trans H)
      clear H
      go_wp2_with fail
      refine (asm_StoreE _ B b (((((1 + 6) + 2) + 9) + 2) + 4) (((((((lock_find n (Bs.new [nm_thread])).set nm_absent (0)).set nm_leaves_under_it (2)).op3 6 nm_ancestor nm_node nm_leaves_under_it).store nm_absent nm_ancestor (0)).set nm_leaves_under_it (1)).op3 6 nm_ancestor nm_node nm_leaves_under_it) nm_absent nm_ancestor _ (0) (by first | rfl | omega) HP10.out.1 (by omega) (by decide) (by decide)).mono ?_
      rintro e w11 ⟨rfl, H⟩
      have HP11 := Lib.hid (HP10.out.trans H)
      clear H
      go_wp2
      go_roundw
      case rel => exact .inr (.inr (⟨rfl, HP11.out⟩))
      case measure => simp [intOf]
    · have HQ5 := HP5
      obtain ⟨f1, f2, f3⟩ := lock_LeaveB_fin n h1 h4
      have hb6 : Below w.heap.size w _ := HB0.out.trans (HP5.out.2.2.mono (by rw [HBB.out]; exact HB0.out.size))
      go_wp2_with fail
      refine (asm_Code _ (HT.out.below hb6 HT.out.lt) B b _ (lock_LeaveB_B n) _ HP5.out.1 f1 f2 f3).mono ?_
      rintro e w7 ⟨v, rfl, hown, hb7⟩
      obtain ⟨A7, k7, rfl, hk7, hk8⟩ := own_cap hown
      go_wp2
      go_ret2
      exact ⟨⟨_, _, _, rfl, hk7, hk8, QT.own hown⟩, hb6.trans (hb7.mono hb6.size)⟩
set_option maxHeartbeats 4000000 in
theorem lock_Leave : CSpec 10 4 (fun n => Lok.leaC (Lok.lv n)) := by
  intro w hT d hd
  have hd' := hd
  unfold inW at hd'
  by_cases hx : 1 ≤ d ∧ d ≤ 4
  · obtain ⟨n, rfl⟩ : ∃ n : Nat, d = n := ⟨d.toNat, by omega⟩
    rcases (by omega : (1 ≤ n ∧ n ≤ 2) ∨ (3 ≤ n ∧ n ≤ 4)) with ⟨h1, h4⟩ | ⟨h1, h4⟩
    · exact (lock_LeaveA_ok w hT n h1 h4).mono fun e w' h => ⟨fun _ => by rw [Int.toNat_natCast]; exact h.1, fun h' => absurd hx h', h.2⟩
    · exact (lock_LeaveB_ok w hT n h1 h4).mono fun e w' h => ⟨fun _ => by rw [Int.toNat_natCast]; exact h.1, fun h' => absurd hx h', h.2⟩
  · clear hT
    go_enter Tryd.func10, Tryd.ntmps10
    go_wp2_with fail
    refine (lock_valid _ _ hd).mono ?_
    rintro e w' ⟨he, rfl⟩
    rw [decide_eq_false hx] at he
    subst he
    go_wp2
    go_ret2
    exact ⟨fun h => absurd h hx, fun _ => ⟨_, _, rfl⟩, Below.refl _ _⟩
set_option maxHeartbeats 1000000 in
theorem lock_Words : WSpec 8 4 Lok.wsL := by
  intro w hT d hd
  have hd' := hd
  unfold inW at hd'
  clear hT
  by_cases hx : 1 ≤ d ∧ d ≤ 4
  · obtain ⟨n, rfl⟩ : ∃ n : Nat, d = n := ⟨d.toNat, by omega⟩
    have hl : Lok.lv n ≤ 4 := by unfold Lok.lv; split <;> omega
    go_enter Tryd.func8, Tryd.ntmps8
    go_wp2_with fail
    refine (lock_valid _ _ hd).mono ?_
    rintro e w' ⟨he, rfl⟩
    rw [decide_eq_true hx] at he
    subst he
    go_wp2_with fail
    refine (lock_latest _ n (by omega) (by omega)).mono ?_
    rintro e w' ⟨rfl, rfl⟩
    go_wp2_with fail
    refine (lock_leaves _ n (by omega) (by omega)).mono ?_
    rintro e w' ⟨rfl, rfl⟩
    go_wp2_with (refine make_all eltIntC w rfl _ _ rfl w.heap.size .i64 .i64 _ _ (3 * Lok.lv n) rfl rfl (by omega) (by omega) (by omega) (by omega) (Nat.le_refl _) ?_; intro w1 hown1 hb1 hs1 hg1)
    go_ret2
    have hb := hb1 w (Below.refl _ _)
    refine ⟨fun _ => ?_, fun h => absurd hx h, hb⟩
    have hq := QT.own hown1
    refine ⟨_, _, _, rfl, Nat.le_refl _, by omega, ?_⟩
    rw [madeCells_one _ rfl] at hq
    simpa [Lok.wsL] using hq
  · go_enter Tryd.func8, Tryd.ntmps8
    go_wp2_with fail
    refine (lock_valid _ _ hd).mono ?_
    rintro e w' ⟨he, rfl⟩
    rw [decide_eq_false hx] at he
    subst he
    go_wp2
    go_ret2
    exact ⟨fun h => absurd h hx, fun _ => ⟨_, _, rfl⟩, Below.refl _ _⟩
instance (x : Int) : Decidable (inW x) := by unfold inW; infer_instance
instance (o : Ins) : Decidable (inI o) := by unfold inI; infer_instance
theorem lock_wsOk : WordsOk 4 Lok.wsL := by
  intro d h1 h4
  have hl : 2 ≤ Lok.lv d ∧ Lok.lv d ≤ 4 := by unfold Lok.lv; split <;> omega
  refine ⟨by simp [Lok.wsL]; omega, by simp [Lok.wsL]; omega, fun x hx => ?_⟩
  rw [List.eq_of_mem_replicate hx]; unfold inW; omega
theorem lock_ceOk : CodesOk 4 (fun n => Lok.entC (Lok.lv n)) := by
  intro d h1 h4
  rcases (by omega : d = 1 ∨ d = 2 ∨ d = 3 ∨ d = 4) with rfl | rfl | rfl | rfl <;> decide +kernel
theorem lock_clOk : CodesOk 4 (fun n => Lok.leaC (Lok.lv n)) := by
  intro d h1 h4
  rcases (by omega : d = 1 ∨ d = 2 ∨ d = 3 ∨ d = 4) with rfl | rfl | rfl | rfl <;> decide +kernel
theorem lock_ce15 : ∀ d, ∀ o ∈ (fun n => Lok.entC (Lok.lv n)) d, o.k ≠ 15 := by
  intro d
  rcases (by unfold Lok.lv; split <;> simp : Lok.lv d = 2 ∨ Lok.lv d = 4) with h | h <;> (dsimp only; rw [h]; decide +kernel)
theorem lock_cl15 : ∀ d, ∀ o ∈ (fun n => Lok.leaC (Lok.lv n)) d, o.k ≠ 15 := by
  intro d
  rcases (by unfold Lok.lv; split <;> simp : Lok.lv d = 2 ∨ Lok.lv d = 4) with h | h <;> (dsimp only; rw [h]; decide +kernel)
end Go.Proofs.YtfpokjhalbbeeaaDoor
