/- Of this claim's own texts these, one behind the other: Asm4, Cell1, Cell2. No statement of the seat is proved here; no condition but those that stand at the theorems. -/
import Derived.Test.YtjihopbapnfppabDoorPartAT
import Derived.Test.YtjihopbapnfppabDoorPartAV
set_option linter.unusedSimpArgs false
set_option linter.unusedVariables false
namespace Go.Proofs.YtjihopbapnfppabDoor
open Go.RowKit Go.Ord Go.Baro Go.Maps

theorem cellsJ_at (l : List (Int × Nm)) : ∀ (i : Nat) (j : Int × Nm), l[i]? = some j → (cellsJ l)[i * 2]? = some (.int .i64 j.1) ∧ (cellsJ l)[i * 2 + 1]? = some (nmV j.2) := by
  induction l with
  | nil => intro i j h; simp at h
  | cons f l ih =>
    intro i j h
    have hc : cellsJ (f :: l) = jmpV f ++ cellsJ l := rfl
    rw [hc]
    cases i with
    | zero => simp at h; subst h; simp [jmpV]
    | succ i =>
      have := ih i j (by simpa using h)
      rw [List.getElem?_append_right (by simp [jmpV]; omega), List.getElem?_append_right (by simp [jmpV]; omega)]
      simp [jmpV, show (i + 1) * 2 - 2 = i * 2 by omega, show (i + 1) * 2 + 1 - 2 = i * 2 + 1 by omega, this]
theorem cellsO_set : ∀ (l : List Ins) (i k : Nat) (o o' : Ins), l[i]? = some o → (∃ v, (insV o).set k v = insV o') → k < 5 → ∀ v, (insV o).set k v = insV o' → (cellsO l).set (i * 5 + k) v = cellsO (l.set i o')
  | [], i, k, o, o', h, _, _, _, _ => by simp at h
  | f :: l, 0, k, o, o', h, _, hk, v, hv => by
    simp at h
    subst h
    have hc : ∀ g : Ins, cellsO (g :: l) = insV g ++ cellsO l := fun _ => rfl
    rw [List.set_cons_zero, hc, hc, Nat.zero_mul, Nat.zero_add, List.set_append_left _ _ (by simp [insV]; exact hk), hv]
  | f :: l, i + 1, k, o, o', h, hh, hk, v, hv => by
    have hc : ∀ (g : Ins) (t : List Ins), cellsO (g :: t) = insV g ++ cellsO t := fun _ _ => rfl
    rw [List.set_cons_succ, hc, hc, List.set_append_right _ _ (by simp [insV]; omega), ← cellsO_set l i k o o' (by simpa using h) hh hk v hv]
    congr 2
    simp [insV]
    omega
set_option maxRecDepth 100000 in
set_option maxHeartbeats 2000000 in
theorem asm_Code (w : World) (hT : Tab w) (B b n : Nat) (s : Bs) (c : List Ins) (h : BdAt w B b s n) (hf : s.fin = some c) (hj0 : ∀ j ∈ s.jmps, 0 ≤ j.1 ∧ j.2.length ≤ 1000) (hjl : s.jmps.length ≤ 1000) :
    Calls Tryd.prog 26 #[.pointer (some ⟨b, 0, none⟩)] w fun e w' => ∃ v, e = .returned (.tuple #[v, .int .i64 0]) ∧ w'.ownsRow w.heap.size 65 5 v c.length (cellsO c) ∧ Below w.heap.size w w' := by
  obtain ⟨cv, jv, rm, lm, h⟩ := h
  obtain ⟨f1, f2, f3⟩ := Bs.fin_some hf
  have hcl := rslv_len _ _ _ _ f2
  have hlt := h.lt
  obtain ⟨A, k, rfl, hlc⟩ := own_form h.code
  obtain ⟨Aj, kj, rfl, hlj⟩ := own_form h.jmps
  have c0 : w.cell? ⟨b, 0, none⟩ = some (.slice A s.code.length k) := h.box.cell 0
  have c2 : w.cell? ⟨b, 2, none⟩ = some (.map (some lm)) := h.box.cell 2
  have c3 : w.cell? ⟨b, 3, none⟩ = some (.slice Aj s.jmps.length kj) := h.box.cell 3
  have c4 : w.cell? ⟨b, 4, none⟩ = some (.bool false) := by have := h.box.cell 4; rw [f1] at this; exact this
  have HF2 := Lib.hid f2
  have HF3 := Lib.hid f3
  have HCL := Lib.hid hcl
  have hq200 : s.code.length ≤ 200 := by rw [← hcl]; exact f3.1
  have HB := Lib.hid h
  have HT := Lib.hid hT
  have HJ := Lib.hid hj0
  obtain ⟨q, hq⟩ : ∃ q, q = s.code.length := ⟨_, rfl⟩
  obtain ⟨m, hm⟩ : ∃ m, m = s.jmps.length := ⟨_, rfl⟩
  have HRO := Lib.hid (show RO w w.heap.size A q s.code by rw [hq]; exact Rd.of_own h.code)
  have HRJ := Lib.hid (show Rd w w.heap.size 2 Aj m (cellsJ s.jmps) by rw [hm]; exact Rd.of_own h.jmps)
  rw [← hq] at c0 hq200 hlc
  rw [← hm] at c3 hjl hlj
  have HQ := Lib.hid hq
  have HM := Lib.hid hm
  clear h hf f1 f2 f3 hcl hT hj0 hq hm
  go_enter Tryd.func26, Tryd.ntmps26
  go_wp2_with fail
  refine (slices_CloneO s.code A q k w.heap.size _ HRO.out (Nat.le_refl _) hq200).mono ?_
  rintro e w1 ⟨v, rfl, hown, hb1⟩
  obtain ⟨A1, k1, rfl, hlk1⟩ := own_form hown
  have HO := Lib.hid hown
  have d3 : w1.cell? ⟨b, 3, none⟩ = some (.slice Aj m kj) := (hb1.cell hlt).trans c3
  have hlt1 : b < w1.heap.size := by have := hb1.size; omega
  clear hown
  go_wp2
  go_loopw [24] (fun i wr => ∃ (j : Nat) (cj : List Ins), j ≤ m ∧ i = .int .i64 j ∧ Hid (rslv s.labs (s.jmps.take j) s.code = some cj) ∧ Hid (wr.ownsRow w.heap.size 65 5 (.slice A1 q k1) q (cellsO cj)) ∧ Below w.heap.size w wr) (fun i _ => m - (intOf i).toNat)
  case atStart => exact ⟨0, s.code, Nat.zero_le _, rfl, rfl, HO.out, hb1⟩
  case round =>
    obtain ⟨j, cj, hj, rfl, HRS, HOW, hbr⟩ := hrel
    have hszr := hbr.size
    by_cases h1 : j < m
    · obtain ⟨⟨ja, jl⟩, hjx⟩ : ∃ x, s.jmps[j]? = some x := ⟨_, List.getElem?_eq_getElem (by rw [← HM.out]; exact h1)⟩
      obtain ⟨tv, o, ci, r1, r2, r3, r4, r5, r6⟩ := rslv_at s.labs s.jmps s.code HF2.out j (ja, jl) hjx
      obtain rfl : ci = cj := by have := HRS.out; rw [r3] at this; injection this
      dsimp only at r1 r4 r5 r6
      obtain ⟨hja0, hjl0⟩ := HJ.out _ (List.mem_of_getElem? hjx)
      dsimp only at hja0 hjl0
      obtain ⟨jn, rfl⟩ : ∃ jn : Nat, ja = jn := ⟨ja.toNat, by omega⟩
      rw [Int.toNat_natCast] at r4 r5 r6
      have hcil : ci.length = q := by rw [rslv_len _ _ _ _ r3, ← HQ.out]
      have hjn : jn < q := by have := (List.getElem?_eq_some_iff.1 r4).1; omega
      obtain ⟨gj, oj, rfl, hgj, hcj⟩ := Rd.at_ (HRJ.out.below hbr) (by omega)
      obtain ⟨j1, j2⟩ := cellsJ_at s.jmps j _ hjx
      have e1 : wr.cell? ⟨gj, oj + j * 2, none⟩ = some (.int .i64 jn) := by rw [hcj _ (by omega), j1]
      have e2 : wr.cell? ⟨gj, oj + j * 2 + 1, none⟩ = some (.string ⟨jl.toArray⟩) := by rw [Nat.add_assoc, hcj _ (by omega), j2]; rfl
      obtain ⟨g, k9, hv9, hg0, hg1, _⟩ := own_some HOW.out (by omega)
      injection hv9 with hA1 _ hk9
      subst hA1
      subst hk9
      obtain ⟨kk, ka, kb, kc, kd⟩ := o
      have hco := fun i hi => cellsO_at ci jn i _ r4 hi
      have hcell := fun i (hi : i < 5) => (World.ownsRow.cellAt HOW.out (jn * 5 + i) (by omega)).trans (hco i hi)
      have g0 : wr.cell? ⟨g, jn * 5, none⟩ = some (.int .i64 kk) := hcell 0 (by omega)
      have g1 : wr.cell? ⟨g, jn * 5 + 1, none⟩ = some (.int .i64 ka) := hcell 1 (by omega)
      have g2 : wr.cell? ⟨g, jn * 5 + 2, none⟩ = some (.int .i64 kb) := hcell 2 (by omega)
      have fz := fun i => World.ownsRow.frozenAt HOW.out i
      have b2 : wr.cell? ⟨b, 2, none⟩ = some (.map (some lm)) := (hbr.cell hlt).trans c2
      have hltr : b < wr.heap.size := by omega
      have HMS := Lib.hid (show MS wr lm n s.labs from by
        obtain ⟨D, ⟨es, ck, hh, h1'⟩, h2⟩ := HB.out.labs
        exact ⟨D, ⟨es, ck, (hbr.block lm HB.out.labs.lt).trans hh, h1'⟩, h2⟩)
      have HR1 := Lib.hid r1
      have HR4 := Lib.hid r4
      have HR5 := Lib.hid r5
      clear r1 r2 r3 r4 r5 r6 hjx hco hcell hcj j1 j2 c0 c2 c3 c4 d3
      have bx := Box.new wr 87 [.int .i64 jn, .string ⟨jl.toArray⟩]
      go_wp2
      refine region_two [0, 1, 2, 3, 4, 5] [6, 7, 8, 9, 10, 11] (by kernel_rfl) (by kernel_rfl) ?_
      simp only [pick, List.map_cons, List.map_nil, List.getD_cons_zero, List.getD_cons_succ]
      have HM2 := Lib.hid (show MS (wr.alloc (Obj.cells #[.int .i64 jn, .string ⟨jl.toArray⟩] 87)).drew lm n s.labs from by
        obtain ⟨D, h1', h2'⟩ := HMS.out.kept (World.grownBy_alloc wr (Obj.cells #[.int .i64 jn, .string ⟨jl.toArray⟩] 87) none) (by simp)
        exact ⟨D, h1', h2'⟩)
      have hst := fun i u => (World.ownsRow.stored HOW.out i u).1.alloc (Obj.cells #[.int .i64 jn, .string ⟨jl.toArray⟩] 87)
      have hbl := fun i u => ((below_at hbr hg0 i u).alloc (by simp; exact hszr) (Obj.cells #[.int .i64 jn, .string ⟨jl.toArray⟩] 87)).drew
      have HST := Lib.hid hst
      have HBL := Lib.hid hbl
      clear hst hbl
      by_cases hk : kk = 10
      · subst hk
        go_wp2_with (refine wp_lookN rfl (.tmp 32) (.tmp 34) rfl lm n s.labs jl rfl HM2.out rfl hjl0 (some tv) HR1.out ?_)
        go_roundw
        case rel =>
          refine ⟨j + 1, ci.set jn ⟨10, tv, kb, kc, kd⟩, by omega, by go_num, ?_, ?_, HBL.out _ _⟩
          · refine Lib.hid ?_; have := HR5.out; simpa [tgt] using this
          · have h8 := HST.out (jn * 5 + 1) (.int .i64 tv)
            rw [cellsO_set ci jn 1 _ ⟨10, tv, kb, kc, kd⟩ HR4.out ⟨_, rfl⟩ (by omega) _ rfl] at h8
            exact Lib.hid h8
        case measure => simp [intOf]; omega
      · have hk' : (kk == 10) = false := by simpa using hk
        go_wp2_with (refine wp_lookN rfl (.tmp 32) (.tmp 34) rfl lm n s.labs jl rfl HM2.out rfl hjl0 (some tv) HR1.out ?_)
        go_roundw
        case rel =>
          refine ⟨j + 1, ci.set jn ⟨kk, ka, tv, kc, kd⟩, by omega, by go_num, ?_, ?_, HBL.out _ _⟩
          · refine Lib.hid ?_; have := HR5.out; simpa [tgt, hk] using this
          · have h8 := HST.out (jn * 5 + 2) (.int .i64 tv)
            rw [cellsO_set ci jn 2 _ ⟨kk, ka, tv, kc, kd⟩ HR4.out ⟨_, rfl⟩ (by omega) _ rfl] at h8
            exact Lib.hid h8
        case measure => simp [intOf]; omega
    · obtain rfl : j = m := by omega
      have hres := HRS.out
      rw [HM.out, List.take_length, HF2.out] at hres
      injection hres with hres
      subst hres
      have hcq : c.length = q := by rw [HCL.out, HQ.out]
      go_wp2_with fail
      refine (vm_May c A1 q k1 true _ wr.heap.size (HT.out.below hbr HT.out.lt) (Rd.of_own HOW.out) (Nat.le_refl _) (by omega) (by simp; exact HF3.out)).mono ?_
      rintro e w2 ⟨rfl, hb2⟩
      go_wp2
      go_ret2
      rw [hcq]
      exact ⟨_, rfl, own_below HOW.out hb2, hbr.trans (hb2.mono hszr)⟩
end Go.Proofs.YtjihopbapnfppabDoor

set_option linter.unusedSimpArgs false
set_option linter.unusedVariables false
namespace Go.Proofs.YtjihopbapnfppabDoor
open Go.RowKit Go.Ord Go.Baro Go.Maps

theorem cell_size (w : World) (d : Nat) (hd : d ≤ 6) : Calls Tryd.prog 19 #[.int .i64 d] w fun e w' => e = .returned (.int .i64 (1 + (d : Int))) ∧ w = w' := by
  go_enter Tryd.func19, Tryd.ntmps19
  go_wp2
  go_ret
  exact ⟨rfl, rfl⟩
def nm_zero : Nm := [122, 101, 114, 111]
def nm_mark : Nm := [109, 97, 114, 107]
def nm_copy : Nm := [99, 111, 112, 121]
def nm_address : Nm := [97, 100, 100, 114, 101, 115, 115]
def nm_size : Nm := [115, 105, 122, 101]
def nm_next : Nm := [110, 101, 120, 116]
def nm_first : Nm := [102, 105, 114, 115, 116]
def nm_seeking : Nm := [115, 101, 101, 107, 105, 110, 103]
def nm_given : Nm := [103, 105, 118, 101, 110]
def nm_free : Nm := [102, 114, 101, 101]
def nm_here : Nm := [104, 101, 114, 101]
def nm_taken : Nm := [116, 97, 107, 101, 110]
def nm_seat : Nm := [115, 101, 97, 116]
def nm_seated : Nm := [115, 101, 97, 116, 101, 100]
def nm_one : Nm := [111, 110, 101]
def cell_mark (d : Nat) (s : Bs) : Bs := ((List.range 4).foldl (fun (s : Bs) (i : Nat) => ((s.load nm_address nm_zero (2 + (i : Int))).store nm_mark nm_address (0))) (((((List.range 5).foldl (fun (s : Bs) (i : Nat) => (s.store nm_zero nm_zero (7 + (i : Int) * (1 + (d : Int))))) s).set nm_mark (1)).load nm_copy nm_zero (6)).store nm_mark nm_copy (7)))
set_option maxRecDepth 100000 in
set_option maxHeartbeats 4000000 in
theorem cell_mark_ok (w : World) (B b n : Nat) (s : Bs) (d : Nat) (h : BdAt w B b s n) (hn : n < 10000) (h6 : d ≤ 6) :
    Calls Tryd.prog 22 #[.pointer (some ⟨b, 0, none⟩), .int .i64 d] w fun e w' => e = .returned (.tuple #[]) ∧ AsmPost w B b (cell_mark d s) (n + 47) w' := by
  have HP0 := Lib.hid (show AsmPost w B b s n w from ⟨h, Kc.refl _ _, Below.refl _ _⟩)
  clear h
  go_enter Tryd.func22, Tryd.ntmps22
  go_wp2
  go_loopw [6] (fun i wr => ∃ j : Nat, j ≤ 5 ∧ i = .int .i64 j ∧ Hid (AsmPost w B b ((List.range j).foldl (fun (s : Bs) (i : Nat) => (s.store nm_zero nm_zero (7 + (i : Int) * (1 + (d : Int))))) s) (n + 3 * j) wr)) (fun i _ => 5 - (intOf i).toNat)
  case atStart => exact ⟨0, Nat.zero_le _, rfl, HP0.out⟩
  case round =>
    obtain ⟨i, hi, rfl, HP1⟩ := hrel
    by_cases hi1 : i < 5
    · have hw1 := HP1
      obtain ⟨M2, hM2, hM20, hM21⟩ : ∃ M : Int, (i : Int) * (1 + (d : Int)) = M ∧ 0 ≤ M ∧ M ≤ 28 := ⟨_, rfl, by exact Int.mul_nonneg (by omega) (by omega), by have := Int.mul_le_mul (show (i : Int) ≤ 4 by omega) (show 1 + (d : Int) ≤ 7 by omega) (by omega) (by omega); omega⟩
      go_wp2_with fail
      refine (cell_size _ d h6).mono ?_
      rintro e ws ⟨rfl, rfl⟩
      go_wp2_with fail
      refine (asm_StoreE _ B b (n + 3 * i) ((List.range i).foldl (fun (s : Bs) (i : Nat) => (s.store nm_zero nm_zero (7 + (i : Int) * (1 + (d : Int))))) s) nm_zero nm_zero _ (7 + (i : Int) * (1 + (d : Int))) (by first | rfl | omega) HP1.out.1 (by omega) (by decide) (by decide)).mono ?_
      rintro e w4 ⟨rfl, H⟩
      have HP4 := Lib.hid (HP1.out.trans H)
      clear H
      go_wp2
      go_roundw
      case rel =>
        refine ⟨i + 1, by omega, by go_num, ?_⟩
        rw [show List.range (i + 1) = List.range i ++ [i] from List.range_succ, List.foldl_append, show n + 3 * (i + 1) = ((n + 3 * i) + 3) by omega]
        exact HP4.out
      case measure => simp [intOf]; omega
    · obtain rfl : i = 5 := by omega
      go_wp2_with fail
      refine (asm_SetE _ B b (n + 3 * 5) ((List.range 5).foldl (fun (s : Bs) (i : Nat) => (s.store nm_zero nm_zero (7 + (i : Int) * (1 + (d : Int))))) s) nm_mark _ (1) (by first | rfl | omega) HP1.out.1 (by omega) (by decide)).mono ?_
      rintro e w5 ⟨rfl, H⟩
      have HP5 := Lib.hid (HP1.out.trans H)
      clear H
      go_wp2_with fail
      refine (asm_LoadE _ B b ((n + 3 * 5) + 2) (((List.range 5).foldl (fun (s : Bs) (i : Nat) => (s.store nm_zero nm_zero (7 + (i : Int) * (1 + (d : Int))))) s).set nm_mark (1)) nm_copy nm_zero _ (6) (by first | rfl | omega) HP5.out.1 (by omega) (by decide) (by decide)).mono ?_
      rintro e w6 ⟨rfl, H⟩
      have HP6 := Lib.hid (HP5.out.trans H)
      clear H
      go_wp2_with fail
      refine (asm_StoreE _ B b (((n + 3 * 5) + 2) + 3) ((((List.range 5).foldl (fun (s : Bs) (i : Nat) => (s.store nm_zero nm_zero (7 + (i : Int) * (1 + (d : Int))))) s).set nm_mark (1)).load nm_copy nm_zero (6)) nm_mark nm_copy _ (7) (by first | rfl | omega) HP6.out.1 (by omega) (by decide) (by decide)).mono ?_
      rintro e w7 ⟨rfl, H⟩
      have HP7 := Lib.hid (HP6.out.trans H)
      clear H
      go_wp2
      go_loopw [23] (fun i wr => ∃ j : Nat, j ≤ 4 ∧ i = .int .i64 j ∧ Hid (AsmPost w B b ((List.range j).foldl (fun (s : Bs) (i : Nat) => ((s.load nm_address nm_zero (2 + (i : Int))).store nm_mark nm_address (0))) (((((List.range 5).foldl (fun (s : Bs) (i : Nat) => (s.store nm_zero nm_zero (7 + (i : Int) * (1 + (d : Int))))) s).set nm_mark (1)).load nm_copy nm_zero (6)).store nm_mark nm_copy (7))) (((((n + 3 * 5) + 2) + 3) + 3) + 6 * j) wr)) (fun i _ => 4 - (intOf i).toNat)
      case atStart => exact ⟨0, Nat.zero_le _, rfl, HP7.out⟩
      case round =>
        obtain ⟨i, hi, rfl, HP8⟩ := hrel
        by_cases hi1 : i < 4
        · have hw8 := HP8
          go_wp2_with fail
          refine (asm_LoadE _ B b (((((n + 3 * 5) + 2) + 3) + 3) + 6 * i) ((List.range i).foldl (fun (s : Bs) (i : Nat) => ((s.load nm_address nm_zero (2 + (i : Int))).store nm_mark nm_address (0))) (((((List.range 5).foldl (fun (s : Bs) (i : Nat) => (s.store nm_zero nm_zero (7 + (i : Int) * (1 + (d : Int))))) s).set nm_mark (1)).load nm_copy nm_zero (6)).store nm_mark nm_copy (7))) nm_address nm_zero _ (2 + (i : Int)) (by first | rfl | omega) HP8.out.1 (by omega) (by decide) (by decide)).mono ?_
          rintro e w9 ⟨rfl, H⟩
          have HP9 := Lib.hid (HP8.out.trans H)
          clear H
          go_wp2_with fail
          refine (asm_StoreE _ B b ((((((n + 3 * 5) + 2) + 3) + 3) + 6 * i) + 3) (((List.range i).foldl (fun (s : Bs) (i : Nat) => ((s.load nm_address nm_zero (2 + (i : Int))).store nm_mark nm_address (0))) (((((List.range 5).foldl (fun (s : Bs) (i : Nat) => (s.store nm_zero nm_zero (7 + (i : Int) * (1 + (d : Int))))) s).set nm_mark (1)).load nm_copy nm_zero (6)).store nm_mark nm_copy (7))).load nm_address nm_zero (2 + (i : Int))) nm_mark nm_address _ (0) (by first | rfl | omega) HP9.out.1 (by omega) (by decide) (by decide)).mono ?_
          rintro e w10 ⟨rfl, H⟩
          have HP10 := Lib.hid (HP9.out.trans H)
          clear H
          go_wp2
          go_roundw
          case rel =>
            refine ⟨i + 1, by omega, by go_num, ?_⟩
            rw [show List.range (i + 1) = List.range i ++ [i] from List.range_succ, List.foldl_append, show ((((n + 3 * 5) + 2) + 3) + 3) + 6 * (i + 1) = (((((((n + 3 * 5) + 2) + 3) + 3) + 6 * i) + 3) + 3) by omega]
            exact HP10.out
          case measure => simp [intOf]; omega
        · obtain rfl : i = 4 := by omega
          go_wp2
          refine bodyPost_end (v := .tuple #[]) (results_noneA rfl _ _) rfl ?_
          have := HP8.out
          rw [show (((((n + 3 * 5) + 2) + 3) + 3) + 6 * 4) = n + 47 by omega] at this
          exact ⟨rfl, this⟩
def cell_choose (d : Nat) (s : Bs) : Bs := ((((((s.set nm_size ((1 + (d : Int)))).set nm_copy (-(1 + (d : Int)))).lab nm_next).op3 3 nm_copy nm_copy nm_size).load nm_mark nm_copy (7)).when nm_mark nm_next)
set_option maxRecDepth 100000 in
set_option maxHeartbeats 4000000 in
theorem cell_choose_ok (w : World) (B b n : Nat) (s : Bs) (d : Nat) (h : BdAt w B b s n) (hn : n < 10000) (h6 : d ≤ 6) (ha : nmAsk s.labs nm_next = none) :
    Calls Tryd.prog 23 #[.pointer (some ⟨b, 0, none⟩), .int .i64 d] w fun e w' => e = .returned (.tuple #[]) ∧ AsmPost w B b (cell_choose d s) (n + 15) w' := by
  have HP0 := Lib.hid (show AsmPost w B b s n w from ⟨h, Kc.refl _ _, Below.refl _ _⟩)
  clear h
  go_enter Tryd.func23, Tryd.ntmps23
  go_wp2_with fail
  refine (cell_size _ d h6).mono ?_
  rintro e ws ⟨rfl, rfl⟩
  go_wp2_with fail
  refine (asm_SetE _ B b n s nm_size _ ((1 + (d : Int))) (by first | rfl | omega) HP0.out.1 (by omega) (by decide)).mono ?_
  rintro e w2 ⟨rfl, H⟩
  have HP2 := Lib.hid (HP0.out.trans H)
  clear H
  go_wp2_with fail
  refine (cell_size _ d h6).mono ?_
  rintro e ws ⟨rfl, rfl⟩
  go_wp2_with fail
  refine (asm_SetE _ B b (n + 2) (s.set nm_size ((1 + (d : Int)))) nm_copy _ (-(1 + (d : Int))) (by first | rfl | omega) HP2.out.1 (by omega) (by decide)).mono ?_
  rintro e w4 ⟨rfl, H⟩
  have HP4 := Lib.hid (HP2.out.trans H)
  clear H
  go_wp2_with fail
  refine (asm_Label _ B b ((n + 2) + 2) ((s.set nm_size ((1 + (d : Int)))).set nm_copy (-(1 + (d : Int)))) nm_next HP4.out.1 (by omega) (by decide) (by try simp only [labs_set, labs_copy, labs_op3, labs_jump, labs_when, labs_load, labs_store, labs_cas, labs_new]; (first | assumption | (refine nmAsk_lab ?_ (by decide); try simp only [labs_set, labs_copy, labs_op3, labs_jump, labs_when, labs_load, labs_store, labs_cas, labs_new]; (first | assumption | (refine nmAsk_lab ?_ (by decide); try simp only [labs_set, labs_copy, labs_op3, labs_jump, labs_when, labs_load, labs_store, labs_cas, labs_new]; assumption)))))).mono ?_
  rintro e w5 ⟨rfl, H⟩
  have HP5 := Lib.hid (HP4.out.trans H)
  clear H
  go_wp2_with fail
  refine (asm_Add _ B b (((n + 2) + 2) + 1) (((s.set nm_size ((1 + (d : Int)))).set nm_copy (-(1 + (d : Int)))).lab nm_next) nm_copy nm_copy nm_size HP5.out.1 (by omega) (by decide) (by decide) (by decide)).mono ?_
  rintro e w6 ⟨rfl, H⟩
  have HP6 := Lib.hid (HP5.out.trans H)
  clear H
  go_wp2_with fail
  refine (asm_LoadE _ B b ((((n + 2) + 2) + 1) + 4) ((((s.set nm_size ((1 + (d : Int)))).set nm_copy (-(1 + (d : Int)))).lab nm_next).op3 3 nm_copy nm_copy nm_size) nm_mark nm_copy _ (7) (by first | rfl | omega) HP6.out.1 (by omega) (by decide) (by decide)).mono ?_
  rintro e w7 ⟨rfl, H⟩
  have HP7 := Lib.hid (HP6.out.trans H)
  clear H
  go_wp2_with fail
  refine (asm_When _ B b (((((n + 2) + 2) + 1) + 4) + 3) (((((s.set nm_size ((1 + (d : Int)))).set nm_copy (-(1 + (d : Int)))).lab nm_next).op3 3 nm_copy nm_copy nm_size).load nm_mark nm_copy (7)) nm_mark nm_next HP7.out.1 (by omega) (by decide) (by decide)).mono ?_
  rintro e w8 ⟨rfl, H⟩
  have HP8 := Lib.hid (HP7.out.trans H)
  clear H
  go_wp2
  refine bodyPost_end (v := .tuple #[]) (results_noneA rfl _ _) rfl ?_
  have := HP8.out
  rw [show ((((((n + 2) + 2) + 1) + 4) + 3) + 3) = n + 15 by omega] at this
  exact ⟨rfl, this⟩
def cell_give (s : Bs) : Bs := ((List.range 4).foldl (fun (s : Bs) (i : Nat) => ((s.copy nm_given nm_address).cas nm_given nm_zero (2 + (i : Int)) nm_seeking)) (((s.set nm_first (7)).op3 3 nm_address nm_copy nm_first).set nm_seeking (1)))
set_option maxRecDepth 100000 in
set_option maxHeartbeats 4000000 in
theorem cell_give_ok (w : World) (B b n : Nat) (s : Bs) (h : BdAt w B b s n) (hn : n < 10000) :
    Calls Tryd.prog 25 #[.pointer (some ⟨b, 0, none⟩)] w fun e w' => e = .returned (.tuple #[]) ∧ AsmPost w B b (cell_give s) (n + 36) w' := by
  have HP0 := Lib.hid (show AsmPost w B b s n w from ⟨h, Kc.refl _ _, Below.refl _ _⟩)
  clear h
  go_enter Tryd.func25, Tryd.ntmps25
  go_wp2_with fail
  refine (asm_SetE _ B b n s nm_first _ (7) (by first | rfl | omega) HP0.out.1 (by omega) (by decide)).mono ?_
  rintro e w1 ⟨rfl, H⟩
  have HP1 := Lib.hid (HP0.out.trans H)
  clear H
  go_wp2_with fail
  refine (asm_Add _ B b (n + 2) (s.set nm_first (7)) nm_address nm_copy nm_first HP1.out.1 (by omega) (by decide) (by decide) (by decide)).mono ?_
  rintro e w2 ⟨rfl, H⟩
  have HP2 := Lib.hid (HP1.out.trans H)
  clear H
  go_wp2_with fail
  refine (asm_SetE _ B b ((n + 2) + 4) ((s.set nm_first (7)).op3 3 nm_address nm_copy nm_first) nm_seeking _ (1) (by first | rfl | omega) HP2.out.1 (by omega) (by decide)).mono ?_
  rintro e w3 ⟨rfl, H⟩
  have HP3 := Lib.hid (HP2.out.trans H)
  clear H
  go_wp2
  go_loopw [9] (fun i wr => ∃ j : Nat, j ≤ 4 ∧ i = .int .i64 j ∧ Hid (AsmPost w B b ((List.range j).foldl (fun (s : Bs) (i : Nat) => ((s.copy nm_given nm_address).cas nm_given nm_zero (2 + (i : Int)) nm_seeking)) (((s.set nm_first (7)).op3 3 nm_address nm_copy nm_first).set nm_seeking (1))) ((((n + 2) + 4) + 2) + 7 * j) wr)) (fun i _ => 4 - (intOf i).toNat)
  case atStart => exact ⟨0, Nat.zero_le _, rfl, HP3.out⟩
  case round =>
    obtain ⟨i, hi, rfl, HP4⟩ := hrel
    by_cases hi1 : i < 4
    · have hw4 := HP4
      go_wp2_with fail
      refine (asm_Copy _ B b ((((n + 2) + 4) + 2) + 7 * i) ((List.range i).foldl (fun (s : Bs) (i : Nat) => ((s.copy nm_given nm_address).cas nm_given nm_zero (2 + (i : Int)) nm_seeking)) (((s.set nm_first (7)).op3 3 nm_address nm_copy nm_first).set nm_seeking (1))) nm_given nm_address HP4.out.1 (by omega) (by decide) (by decide)).mono ?_
      rintro e w5 ⟨rfl, H⟩
      have HP5 := Lib.hid (HP4.out.trans H)
      clear H
      go_wp2_with fail
      refine (asm_CasE _ B b (((((n + 2) + 4) + 2) + 7 * i) + 3) (((List.range i).foldl (fun (s : Bs) (i : Nat) => ((s.copy nm_given nm_address).cas nm_given nm_zero (2 + (i : Int)) nm_seeking)) (((s.set nm_first (7)).op3 3 nm_address nm_copy nm_first).set nm_seeking (1))).copy nm_given nm_address) nm_given nm_zero _ (2 + (i : Int)) nm_seeking (by first | rfl | omega) HP5.out.1 (by omega) (by decide) (by decide) (by decide)).mono ?_
      rintro e w6 ⟨rfl, H⟩
      have HP6 := Lib.hid (HP5.out.trans H)
      clear H
      go_wp2
      go_roundw
      case rel =>
        refine ⟨i + 1, by omega, by go_num, ?_⟩
        rw [show List.range (i + 1) = List.range i ++ [i] from List.range_succ, List.foldl_append, show (((n + 2) + 4) + 2) + 7 * (i + 1) = ((((((n + 2) + 4) + 2) + 7 * i) + 3) + 4) by omega]
        exact HP6.out
      case measure => simp [intOf]; omega
    · obtain rfl : i = 4 := by omega
      go_wp2
      refine bodyPost_end (v := .tuple #[]) (results_noneA rfl _ _) rfl ?_
      have := HP4.out
      rw [show ((((n + 2) + 4) + 2) + 7 * 4) = n + 36 by omega] at this
      exact ⟨rfl, this⟩
def cell_sit (s : Bs) : Bs := (((((((((s.set nm_free (0)).lab nm_here).set nm_taken (1)).cas nm_taken nm_seat (2) nm_free).when nm_taken nm_seated).set nm_one (1)).op3 3 nm_seat nm_seat nm_one).jump nm_here).lab nm_seated)
set_option maxRecDepth 100000 in
set_option maxHeartbeats 4000000 in
theorem cell_sit_ok (w : World) (B b n : Nat) (s : Bs) (h : BdAt w B b s n) (hn : n < 10000) (ha : nmAsk s.labs nm_here = none) (ha2 : nmAsk s.labs nm_seated = none) :
    Calls Tryd.prog 27 #[.pointer (some ⟨b, 0, none⟩)] w fun e w' => e = .returned (.tuple #[]) ∧ AsmPost w B b (cell_sit s) (n + 21) w' := by
  have HP0 := Lib.hid (show AsmPost w B b s n w from ⟨h, Kc.refl _ _, Below.refl _ _⟩)
  clear h
  go_enter Tryd.func27, Tryd.ntmps27
  go_wp2_with fail
  refine (asm_SetE _ B b n s nm_free _ (0) (by first | rfl | omega) HP0.out.1 (by omega) (by decide)).mono ?_
  rintro e w1 ⟨rfl, H⟩
  have HP1 := Lib.hid (HP0.out.trans H)
  clear H
  go_wp2_with fail
  refine (asm_Label _ B b (n + 2) (s.set nm_free (0)) nm_here HP1.out.1 (by omega) (by decide) (by try simp only [labs_set, labs_copy, labs_op3, labs_jump, labs_when, labs_load, labs_store, labs_cas, labs_new]; (first | assumption | (refine nmAsk_lab ?_ (by decide); try simp only [labs_set, labs_copy, labs_op3, labs_jump, labs_when, labs_load, labs_store, labs_cas, labs_new]; (first | assumption | (refine nmAsk_lab ?_ (by decide); try simp only [labs_set, labs_copy, labs_op3, labs_jump, labs_when, labs_load, labs_store, labs_cas, labs_new]; assumption)))))).mono ?_
  rintro e w2 ⟨rfl, H⟩
  have HP2 := Lib.hid (HP1.out.trans H)
  clear H
  go_wp2_with fail
  refine (asm_SetE _ B b ((n + 2) + 1) ((s.set nm_free (0)).lab nm_here) nm_taken _ (1) (by first | rfl | omega) HP2.out.1 (by omega) (by decide)).mono ?_
  rintro e w3 ⟨rfl, H⟩
  have HP3 := Lib.hid (HP2.out.trans H)
  clear H
  go_wp2_with fail
  refine (asm_CasE _ B b (((n + 2) + 1) + 2) (((s.set nm_free (0)).lab nm_here).set nm_taken (1)) nm_taken nm_seat _ (2) nm_free (by first | rfl | omega) HP3.out.1 (by omega) (by decide) (by decide) (by decide)).mono ?_
  rintro e w4 ⟨rfl, H⟩
  have HP4 := Lib.hid (HP3.out.trans H)
  clear H
  go_wp2_with fail
  refine (asm_When _ B b ((((n + 2) + 1) + 2) + 4) ((((s.set nm_free (0)).lab nm_here).set nm_taken (1)).cas nm_taken nm_seat (2) nm_free) nm_taken nm_seated HP4.out.1 (by omega) (by decide) (by decide)).mono ?_
  rintro e w5 ⟨rfl, H⟩
  have HP5 := Lib.hid (HP4.out.trans H)
  clear H
  go_wp2_with fail
  refine (asm_SetE _ B b (((((n + 2) + 1) + 2) + 4) + 3) (((((s.set nm_free (0)).lab nm_here).set nm_taken (1)).cas nm_taken nm_seat (2) nm_free).when nm_taken nm_seated) nm_one _ (1) (by first | rfl | omega) HP5.out.1 (by omega) (by decide)).mono ?_
  rintro e w6 ⟨rfl, H⟩
  have HP6 := Lib.hid (HP5.out.trans H)
  clear H
  go_wp2_with fail
  refine (asm_Add _ B b ((((((n + 2) + 1) + 2) + 4) + 3) + 2) ((((((s.set nm_free (0)).lab nm_here).set nm_taken (1)).cas nm_taken nm_seat (2) nm_free).when nm_taken nm_seated).set nm_one (1)) nm_seat nm_seat nm_one HP6.out.1 (by omega) (by decide) (by decide) (by decide)).mono ?_
  rintro e w7 ⟨rfl, H⟩
  have HP7 := Lib.hid (HP6.out.trans H)
  clear H
  go_wp2_with fail
  refine (asm_Jump _ B b (((((((n + 2) + 1) + 2) + 4) + 3) + 2) + 4) (((((((s.set nm_free (0)).lab nm_here).set nm_taken (1)).cas nm_taken nm_seat (2) nm_free).when nm_taken nm_seated).set nm_one (1)).op3 3 nm_seat nm_seat nm_one) nm_here HP7.out.1 (by omega) (by decide)).mono ?_
  rintro e w8 ⟨rfl, H⟩
  have HP8 := Lib.hid (HP7.out.trans H)
  clear H
  go_wp2_with fail
  refine (asm_Label _ B b ((((((((n + 2) + 1) + 2) + 4) + 3) + 2) + 4) + 2) ((((((((s.set nm_free (0)).lab nm_here).set nm_taken (1)).cas nm_taken nm_seat (2) nm_free).when nm_taken nm_seated).set nm_one (1)).op3 3 nm_seat nm_seat nm_one).jump nm_here) nm_seated HP8.out.1 (by omega) (by decide) (by try simp only [labs_set, labs_copy, labs_op3, labs_jump, labs_when, labs_load, labs_store, labs_cas, labs_new]; (first | assumption | (refine nmAsk_lab ?_ (by decide); try simp only [labs_set, labs_copy, labs_op3, labs_jump, labs_when, labs_load, labs_store, labs_cas, labs_new]; (first | assumption | (refine nmAsk_lab ?_ (by decide); try simp only [labs_set, labs_copy, labs_op3, labs_jump, labs_when, labs_load, labs_store, labs_cas, labs_new]; assumption)))))).mono ?_
  rintro e w9 ⟨rfl, H⟩
  have HP9 := Lib.hid (HP8.out.trans H)
  clear H
  go_wp2
  refine bodyPost_end (v := .tuple #[]) (results_noneA rfl _ _) rfl ?_
  have := HP9.out
  rw [show (((((((((n + 2) + 1) + 2) + 4) + 3) + 2) + 4) + 2) + 1) = n + 21 by omega] at this
  exact ⟨rfl, this⟩
def cell_take (s : Bs) : Bs := ((((((s.load nm_copy nm_zero (6)).set nm_first (7)).op3 3 nm_copy nm_copy nm_first).set nm_seeking (1)).cas nm_copy nm_seat (2) nm_seeking).load nm_copy nm_seat (2))
set_option maxRecDepth 100000 in
set_option maxHeartbeats 4000000 in
theorem cell_take_ok (w : World) (B b n : Nat) (s : Bs) (h : BdAt w B b s n) (hn : n < 10000) :
    Calls Tryd.prog 28 #[.pointer (some ⟨b, 0, none⟩)] w fun e w' => e = .returned (.tuple #[]) ∧ AsmPost w B b (cell_take s) (n + 18) w' := by
  have HP0 := Lib.hid (show AsmPost w B b s n w from ⟨h, Kc.refl _ _, Below.refl _ _⟩)
  clear h
  go_enter Tryd.func28, Tryd.ntmps28
  go_wp2_with fail
  refine (asm_LoadE _ B b n s nm_copy nm_zero _ (6) (by first | rfl | omega) HP0.out.1 (by omega) (by decide) (by decide)).mono ?_
  rintro e w1 ⟨rfl, H⟩
  have HP1 := Lib.hid (HP0.out.trans H)
  clear H
  go_wp2_with fail
  refine (asm_SetE _ B b (n + 3) (s.load nm_copy nm_zero (6)) nm_first _ (7) (by first | rfl | omega) HP1.out.1 (by omega) (by decide)).mono ?_
  rintro e w2 ⟨rfl, H⟩
  have HP2 := Lib.hid (HP1.out.trans H)
  clear H
  go_wp2_with fail
  refine (asm_Add _ B b ((n + 3) + 2) ((s.load nm_copy nm_zero (6)).set nm_first (7)) nm_copy nm_copy nm_first HP2.out.1 (by omega) (by decide) (by decide) (by decide)).mono ?_
  rintro e w3 ⟨rfl, H⟩
  have HP3 := Lib.hid (HP2.out.trans H)
  clear H
  go_wp2_with fail
  refine (asm_SetE _ B b (((n + 3) + 2) + 4) (((s.load nm_copy nm_zero (6)).set nm_first (7)).op3 3 nm_copy nm_copy nm_first) nm_seeking _ (1) (by first | rfl | omega) HP3.out.1 (by omega) (by decide)).mono ?_
  rintro e w4 ⟨rfl, H⟩
  have HP4 := Lib.hid (HP3.out.trans H)
  clear H
  go_wp2_with fail
  refine (asm_CasE _ B b ((((n + 3) + 2) + 4) + 2) ((((s.load nm_copy nm_zero (6)).set nm_first (7)).op3 3 nm_copy nm_copy nm_first).set nm_seeking (1)) nm_copy nm_seat _ (2) nm_seeking (by first | rfl | omega) HP4.out.1 (by omega) (by decide) (by decide) (by decide)).mono ?_
  rintro e w5 ⟨rfl, H⟩
  have HP5 := Lib.hid (HP4.out.trans H)
  clear H
  go_wp2_with fail
  refine (asm_LoadE _ B b (((((n + 3) + 2) + 4) + 2) + 4) (((((s.load nm_copy nm_zero (6)).set nm_first (7)).op3 3 nm_copy nm_copy nm_first).set nm_seeking (1)).cas nm_copy nm_seat (2) nm_seeking) nm_copy nm_seat _ (2) (by first | rfl | omega) HP5.out.1 (by omega) (by decide) (by decide)).mono ?_
  rintro e w6 ⟨rfl, H⟩
  have HP6 := Lib.hid (HP5.out.trans H)
  clear H
  go_wp2
  refine bodyPost_end (v := .tuple #[]) (results_noneA rfl _ _) rfl ?_
  have := HP6.out
  rw [show ((((((n + 3) + 2) + 4) + 2) + 4) + 3) = n + 18 by omega] at this
  exact ⟨rfl, this⟩
end Go.Proofs.YtjihopbapnfppabDoor

set_option linter.unusedSimpArgs false
set_option linter.unusedVariables false
namespace Go.Proofs.YtjihopbapnfppabDoor
open Go.RowKit Go.Ord Go.Baro Go.Maps

theorem eltStr : Elt Tryd.prog 54 9 (.string ⟨#[]⟩) 1 16 := Elt.mk' Tryd.underlying54 (by kernel_rfl) rfl (by decide)
def digit (i : Nat) : UInt8 := UInt8.ofNat (48 + i)
theorem std_small (i : Nat) (hi : i < 6) (w : World) : Calls Tryd.prog 67 #[.int .i64 i] w fun e w' => e = .returned (.string ⟨#[digit i]⟩) ∧ w = w' := by
  rcases (by omega : i = 0 ∨ i = 1 ∨ i = 2 ∨ i = 3 ∨ i = 4 ∨ i = 5) with rfl | rfl | rfl | rfl | rfl | rfl
  all_goals
    go_enter Tryd.func67, Tryd.ntmps67
    go_wp2
    go_ret
    exact ⟨by congr 1, rfl⟩
theorem std_FormatInt (i : Nat) (hi : i < 6) (w : World) : Calls Tryd.prog 62 #[.int .i64 i, .int .i64 10] w fun e w' => e = .returned (.string ⟨#[digit i]⟩) ∧ w = w' := by
  go_enter Tryd.func62, Tryd.ntmps62
  go_wp2_with fail
  refine (std_small i hi _).mono ?_
  rintro e w' ⟨rfl, rfl⟩
  go_wp2
  go_ret
  exact ⟨rfl, rfl⟩
theorem std_ItoaI (i : Nat) (hi : i < 6) (w : World) : Calls Tryd.prog 53 #[.int .i64 i] w fun e w' => e = .returned (.string ⟨#[digit i]⟩) ∧ w = w' := by
  go_enter Tryd.func53, Tryd.ntmps53
  go_wp2_with fail
  refine (std_FormatInt i hi _).mono ?_
  rintro e w' ⟨rfl, rfl⟩
  go_wp2
  go_ret
  exact ⟨rfl, rfl⟩
theorem std_Itoa (i : Nat) (hi : i < 6) (w : World) : Calls Tryd.prog 37 #[.int .i64 i] w fun e w' => e = .returned (.string ⟨#[digit i]⟩) ∧ w = w' := by
  go_enter Tryd.func37, Tryd.ntmps37
  go_wp2_with fail
  refine (std_ItoaI i hi _).mono ?_
  rintro e w' ⟨rfl, rfl⟩
  go_wp2
  go_ret
  exact ⟨rfl, rfl⟩
/-- The names of the registers with the numbers of the record. -/
def nmNum (i : Nat) : Nm := [110, 117, 109, 98, 101, 114, 32, digit i]
def numL (d : Nat) : List Nm := (List.range d).map nmNum
theorem numL_len (d : Nat) : (numL d).length = d := by simp [numL]
theorem numL_succ (d : Nat) : numL (d + 1) = numL d ++ [nmNum d] := by simp [numL, List.range_succ]
theorem num_app (x : UInt8) : (⟨#[110, 117, 109, 98, 101, 114, 32]⟩ : ByteArray) ++ ⟨#[x]⟩ = ⟨#[110, 117, 109, 98, 101, 114, 32, x]⟩ := by rfl
set_option maxRecDepth 100000 in
set_option maxHeartbeats 1000000 in
theorem cell_numbers (w : World) (d : Nat) (h6 : d ≤ 6) : Calls Tryd.prog 20 #[.int .i64 d] w fun e w' => ∃ A c, e = .returned (.slice A d c) ∧ d ≤ c ∧ QN w' A d (numL d) ∧ Below w.heap.size w w' := by
  go_enter Tryd.func20, Tryd.ntmps20
  go_wp2
  go_loopw [3, 6] (fun v i wr => ∃ j : Nat, j ≤ d ∧ i = .int .i64 j ∧ Hid (wr.ownsRow w.heap.size 9 1 v j ((numL j).map nmV)) ∧ Below w.heap.size w wr) (fun _ i _ => d - (intOf i).toNat)
  case atStart => exact ⟨0, Nat.zero_le _, rfl, World.ownsRow_nil _ _ _ _, Below.refl _ _⟩
  case round =>
    obtain ⟨j, hj, rfl, HO, hb⟩ := hrel
    have hsz := hb.size
    by_cases h1 : j < d
    · have hna := num_app (digit j)
      go_wp2_with fail
      refine (std_Itoa j (by omega) _).mono ?_
      rintro e w' ⟨rfl, rfl⟩
      go_wp2_with (at_builtin; go_must (refine app_lit eltStr wr rfl _ _ rfl w.heap.size _ j _ rfl (by exact HO.out) 1 [.string ⟨#[110, 117, 109, 98, 101, 114, 32, digit j]⟩] wr.heap.size rfl rfl rfl (by simp [Value.oneCell']) (by omega) (by omega) hsz ?_); intro v3 w3 hown3 hgr3 hbel3 _)
      go_roundw
      case rel =>
        refine ⟨j + 1, by omega, by go_num, ?_, hbel3 _ hb⟩
        rw [numL_succ, List.map_append]
        exact hown3
      case measure => simp [intOf]; omega
    · obtain rfl : j = d := by omega
      go_wp2
      go_ret
      obtain ⟨A, c, rfl, hc⟩ := own_form HO.out
      exact ⟨A, c, rfl, hc, QT.own HO.out, hb⟩
end Go.Proofs.YtjihopbapnfppabDoor
