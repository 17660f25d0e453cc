/- What run.May does. No statement of the seat is proved here; no condition. -/
import Derived.Test.YtjihopbapnfppaaDoorRunSpec
import Derived.Test.YtjihopbapnfppaaDoorVm2
set_option linter.unusedSimpArgs false
set_option linter.unusedVariables false
namespace Go.Proofs.YtjihopbapnfppaaDoor
open Go.RowKit Go.Ord Go.Baro

set_option maxHeartbeats 1000000 in
theorem run_wrong (w : World) (g : Nat) (vw vt : Value) (Ac : Option Addr) (nc cc : Nat) (q : Int) (A : Option Addr) (n k : Nat) (r : Bool) (hbx : Box w g 45 [vw, .slice Ac nc cc, vt]) (hnc : nc ≤ 8) (hn : n ≤ 9223372036854775807) (hr : r = true ↔ (q < 0 ∨ (nc : Int) ≤ q ∨ 8 < n)) :
    Calls Tryd.prog 43 #[.agg #[.int .i64 q, .slice A n k], .pointer (some ⟨g, 0, none⟩)] w fun e w' => e = .returned (.bool r) ∧ Below w.heap.size w w' := by
  have h0 := (Below.refl w.heap.size w).alloc (Nat.le_refl _) (Obj.cells #[.int .i64 q, .slice A n k] 60)
  have lX := hbx.lt
  have x1 : w.cell? ⟨g, 1, none⟩ = _ := hbx.cell 1
  simp only [List.getElem?_cons_zero, List.getElem?_cons_succ] at x1
  have HR := Lib.hid hr
  clear hr hbx
  by_cases c1 : q < 0
  · go_enter Tryd.func43, Tryd.ntmps43
    go_wp2
    go_ret
    exact ⟨ret_bool (HR.out.2 (.inl c1)).symm, h0⟩
  by_cases c2 : (nc : Int) ≤ q
  · go_enter Tryd.func43, Tryd.ntmps43
    go_wp2
    go_ret
    exact ⟨ret_bool (HR.out.2 (.inr (.inl c2))).symm, h0⟩
  by_cases c3 : 8 < n
  · go_enter Tryd.func43, Tryd.ntmps43
    go_wp2
    go_ret
    refine ⟨ret_bool ?_, h0⟩
    rw [HR.out.2 (.inr (.inr c3))]
    simp; omega
  · go_enter Tryd.func43, Tryd.ntmps43
    go_wp2
    go_ret
    refine ⟨ret_bool ?_, h0⟩
    cases r with
    | false => simp; omega
    | true => have := HR.out.1 rfl; omega

set_option maxHeartbeats 2000000 in
theorem run_IndexFunc (w : World) (g : Nat) (vw vt : Value) (Ac : Option Addr) (nc cc : Nat) (A : Option Addr) (n k B : Nat) (m : Mc) (t : List Cl) (r : Bool) (hbx : Box w g 45 [vw, .slice Ac nc cc, vt]) (hl : RLs w B A n t) (hB : B ≤ w.heap.size) (hn : n ≤ 20) (hm : m.cs.length = nc) (hnc : nc ≤ 8) (hok : ∀ c ∈ t, okCa c) (hr : r = true ↔ ¬ ∀ c ∈ t, okCl m c) :
    Calls Tryd.prog 53 #[.slice A n k, .func (.func 43) #[] #[.pointer (some ⟨g, 0, none⟩)]] w fun e w' => (∃ i : Int, e = .returned (.int .i64 i) ∧ -1 ≤ i ∧ i ≤ 20 ∧ (r = true ↔ 0 ≤ i)) ∧ Below w.heap.size w w' := by
  have h0 := Below.refl w.heap.size w
  have LT := Lib.hid hl.len
  have HR := Lib.hid hr
  have HOK := Lib.hid hok
  have HM := Lib.hid hm
  clear hr hok hm
  go_enter Tryd.func53, Tryd.ntmps53
  go_wp2
  go_loopw [8] (fun i wr => ∃ j : Nat, j ≤ n ∧ i = .int .i64 j ∧ Hid (∀ c ∈ t.take j, okCl m c) ∧ Below w.heap.size w wr) (fun i _ => n - (intOf i).toNat)
  case atStart => exact ⟨0, Nat.zero_le _, rfl, by intro c h; simp at h, h0⟩
  case round =>
    obtain ⟨j, hj, rfl, HC, hbel⟩ := hrel
    have hsz := hbel.size
    have hbw := hbx.below hbel hbx.lt
    by_cases hjm : j < n
    · obtain ⟨b, o, q, A2, n2, k2, ar, rfl, hbB, hq0, hq1, hlk2, hri, HX, hmem⟩ := hl.val hjm
      have e0 := (hbel.cell (p := ⟨b, o + j * 2, none⟩) (by show b < _; omega)).trans hq0
      have e1 := (hbel.cell (p := ⟨b, o + j * 2 + 1, none⟩) (by show b < _; omega)).trans hq1
      have hca := HOK.out _ hmem
      have hn2 : n2 ≤ 9223372036854775807 := by have := hca.2.1; have h2 := hri.len; dsimp only at this; omega
      obtain ⟨r', hr'⟩ : ∃ r' : Bool, r' = true ↔ (q < 0 ∨ (nc : Int) ≤ q ∨ 8 < n2) := ⟨decide (q < 0 ∨ (nc : Int) ≤ q ∨ 8 < n2), by simp⟩
      have HR' := Lib.hid hr'
      have HMem := Lib.hid hmem
      have HRI := Lib.hid hri.len
      clear hr' hmem hq0 hq1 hca hri
      go_wp2_with fail
      refine (run_wrong wr g vw vt Ac nc cc q A2 n2 k2 r' hbw hnc hn2 HR'.out).mono ?_
      rintro e w1 ⟨rfl, hb1⟩
      have hb2 := hbel.trans (hb1.mono hsz)
      have HCL : Hid (okCl m ⟨q, ar⟩ ↔ r' = false) := by
        show _ ↔ _
        unfold okCl
        dsimp only
        rw [HM.out, HRI.out]
        have := HR'.out
        cases r' <;> simp at this ⊢ <;> omega
      cases r' with
      | true =>
        go_wp2
        go_ret
        refine ⟨⟨j, rfl, by omega, by omega, ?_⟩, hb2⟩
        refine ⟨fun _ => by omega, fun _ => HR.out.2 fun hall => ?_⟩
        have := HCL.out.1 (hall _ HMem.out)
        cases this
      | false =>
        go_wp2
        go_roundw
        case rel =>
          refine ⟨j + 1, by omega, by go_num, ?_, hb2⟩
          intro d hd
          rw [at_take HX.out] at hd
          rcases List.mem_append.1 hd with hd | hd
          · exact HC.out d hd
          · rw [List.mem_singleton.1 hd]; exact HCL.out.2 (by first | rfl | trivial)
        case measure => simp [intOf]; omega
    · obtain rfl : n = j := by omega
      have HC2 := HC.out
      rw [List.take_of_length_le (by rw [LT.out]; omega)] at HC2
      have HC := Lib.hid HC2
      clear HC2
      go_wp2
      go_ret
      refine ⟨⟨-1, rfl, by omega, by omega, ?_⟩, hbel⟩
      refine ⟨fun hrt => absurd HC.out (HR.out.1 hrt), fun h => by omega⟩

set_option maxHeartbeats 1000000 in
theorem run_ContainsFunc (w : World) (g : Nat) (vw vt : Value) (Ac : Option Addr) (nc cc : Nat) (A : Option Addr) (n k B : Nat) (m : Mc) (t : List Cl) (r : Bool) (hbx : Box w g 45 [vw, .slice Ac nc cc, vt]) (hl : RLs w B A n t) (hB : B ≤ w.heap.size) (hn : n ≤ 20) (hm : m.cs.length = nc) (hnc : nc ≤ 8) (hok : ∀ c ∈ t, okCa c) (hr : r = true ↔ ¬ ∀ c ∈ t, okCl m c) :
    Calls Tryd.prog 44 #[.slice A n k, .func (.func 43) #[] #[.pointer (some ⟨g, 0, none⟩)]] w fun e w' => e = .returned (.bool r) ∧ Below w.heap.size w w' := by
  have HC := Lib.hid (run_IndexFunc w g vw vt Ac nc cc A n k B m t r hbx hl hB hn hm hnc hok hr)
  clear hbx hl hok hr hm
  go_enter Tryd.func44, Tryd.ntmps44
  go_wp2_with fail
  refine HC.out.mono ?_
  rintro e w1 ⟨⟨i, rfl, h1, h2, h3⟩, hb1⟩
  have H3 := Lib.hid h3
  clear h3
  go_wp2
  go_ret
  refine ⟨ret_bool ?_, hb1⟩
  have := H3.out
  cases r <;> simp at this ⊢ <;> omega

set_option maxRecDepth 100000 in
set_option maxHeartbeats 2000000 in
theorem run_May : MaySpec := by
  intro w hT Aw nw cw Ac nc cc At nt ct m r hm hr
  obtain ⟨q1, q2, q3, q4, q5, q6, ⟨q7, q7'⟩, ⟨q8, q8'⟩, ⟨q9, q9'⟩⟩ := hm
  have HR := Lib.hid hr
  have L1 := Lib.hid q1.len
  have L2 := Lib.hid q2.len
  have L3 := Lib.hid q3.len
  have H4 := Lib.hid q4
  have H5 := Lib.hid q5
  have H6 := Lib.hid q6
  have HT := Lib.hid hT
  clear hr q4 q5 q6 hT
  have h0 : Below w.heap.size w w := Below.refl _ _
  have hA := h0.alloc (Nat.le_refl _) (Obj.cells #[.slice Aw nw cw, .slice Ac nc cc, .slice At nt ct] 45)
  have bX := Box.newAt w 45 [.slice Aw nw cw, .slice Ac nc cc, .slice At nt ct] w.heap.size rfl
  by_cases hw : 200 < nw
  · have hv : r = false := by
      cases r with
      | false => rfl
      | true => have := (HR.out.1 rfl).1; rw [L1.out] at this; omega
    go_enter Tryd.func26, Tryd.ntmps26
    go_wp2
    go_ret
    exact ⟨by first | rfl | exact ret_bool hv.symm, hA⟩
  by_cases hc : 8 < nc
  · have hv : r = false := by
      cases r with
      | false => rfl
      | true => have := (HR.out.1 rfl).2.1; rw [L2.out] at this; omega
    go_enter Tryd.func26, Tryd.ntmps26
    go_wp2
    go_ret
    exact ⟨by first | rfl | exact ret_bool hv.symm, hA⟩
  by_cases ht : 4 < nt
  · have hv : r = false := by
      cases r with
      | false => rfl
      | true => have := (HR.out.1 rfl).2.2.1; rw [L3.out] at this; omega
    go_enter Tryd.func26, Tryd.ntmps26
    go_wp2
    go_ret
    exact ⟨by first | rfl | exact ret_bool hv.symm, hA⟩
  go_enter Tryd.func26, Tryd.ntmps26
  go_wp2
  go_loopw [27] (fun i wr => ∃ j : Nat, j ≤ nc ∧ i = .int .i64 j ∧ Hid (∀ c ∈ m.cs.take j, okC c) ∧ Box wr w.heap.size 45 [.slice Aw nw cw, .slice Ac nc cc, .slice At nt ct] ∧ Below w.heap.size w wr) (fun i _ => nc - (intOf i).toNat)
  case atStart => exact ⟨0, Nat.zero_le _, rfl, by intro c h; simp at h, bX, hA⟩
  case round =>
    obtain ⟨j, hj, rfl, HC, bX, hbel⟩ := hrel
    have hsz := hbel.size
    have lX := bX.lt
    have x0 : wr.cell? ⟨w.heap.size, 0, none⟩ = _ := bX.cell 0
    have x1 : wr.cell? ⟨w.heap.size, 1, none⟩ = _ := bX.cell 1
    have x2 : wr.cell? ⟨w.heap.size, 2, none⟩ = _ := bX.cell 2
    simp only [List.getElem?_cons_zero, List.getElem?_cons_succ] at x0 x1 x2
    by_cases hjm : j < nc
    · obtain ⟨b, o, A', n', k, c, rfl, hbB, hcell, hlk, hro, HX, hmem⟩ := (q2.below hbel).val hjm
      obtain ⟨hn', HI⟩ := H5.out c hmem
      rw [hro.len] at hn'
      obtain ⟨r', hr'⟩ : ∃ r' : Bool, r' = true ↔ okC c := ⟨decide (okC c), by simp⟩
      have HR' := Lib.hid hr'
      have HMem := Lib.hid hmem
      clear hr' HI hmem
      go_wp2_with fail
      refine (vm_May c A' n' k r' wr _ (HT.out.below hbel HT.out.lt) hro hsz hn' HR'.out).mono ?_
      rintro e w1 ⟨rfl, hb1⟩
      cases r' with
      | false =>
        go_wp2
        go_ret
        refine ⟨?_, hbel.trans (hb1.mono hsz)⟩
        cases r with
        | false => rfl
        | true => have := HR'.out.2 ((HR.out.1 rfl).2.2.2.1 c HMem.out); cases this
      | true =>
        go_wp2
        go_roundw
        case rel =>
          refine ⟨j + 1, by omega, by go_num, ?_, bX.below hb1 lX, hbel.trans (hb1.mono hsz)⟩
          intro d hd
          rw [at_take HX.out] at hd
          rcases List.mem_append.1 hd with hd | hd
          · exact HC.out d hd
          · rw [List.mem_singleton.1 hd]; exact HR'.out.1 (by first | rfl | trivial)
        case measure => simp [intOf]; omega
    · obtain rfl : nc = j := by omega
      have HC2 := HC.out
      rw [List.take_of_length_le (by rw [L2.out]; omega)] at HC2
      have HC := Lib.hid HC2
      clear HC2
      go_wp2
      go_loopw [39] (fun i wr => ∃ j : Nat, j ≤ nt ∧ i = .int .i64 j ∧ Hid (∀ t ∈ m.ts.take j, t.length ≤ 20 ∧ ∀ c ∈ t, okCl m c) ∧ Box wr w.heap.size 45 [.slice Aw nw cw, .slice Ac nc cc, .slice At nt ct] ∧ Below w.heap.size w wr) (fun i _ => nt - (intOf i).toNat)
      case atStart => exact ⟨0, Nat.zero_le _, rfl, by intro c h; simp at h, bX, hbel⟩
      case round =>
        clear x0 x1 x2 lX bX hsz hbel
        obtain ⟨j, hj, rfl, HTS, bX, hbel⟩ := hrel
        have hsz := hbel.size
        have lX := bX.lt
        have x0 : wr.cell? ⟨w.heap.size, 0, none⟩ = _ := bX.cell 0
        have x1 : wr.cell? ⟨w.heap.size, 1, none⟩ = _ := bX.cell 1
        have x2 : wr.cell? ⟨w.heap.size, 2, none⟩ = _ := bX.cell 2
        simp only [List.getElem?_cons_zero, List.getElem?_cons_succ] at x0 x1 x2
        by_cases hjm : j < nt
        · obtain ⟨b, o, A', n', k, t, rfl, hbB, hcell0, hlk, hrl, HX, hmem⟩ := q3.val hjm
          have hcell := (hbel.cell (p := ⟨b, o + j, none⟩) hbB).trans hcell0
          clear hcell0
          obtain ⟨hn', HI⟩ := H6.out t hmem
          rw [hrl.len] at hn'
          have LT := Lib.hid hrl.len
          have HI := Lib.hid HI
          have HMem := Lib.hid hmem
          clear hmem
          by_cases h20 : 20 < n'
          · go_wp2
            go_ret
            refine ⟨?_, hbel⟩
            cases r with
            | false => rfl
            | true => have := ((HR.out.1 rfl).2.2.2.2 t HMem.out).1; rw [LT.out] at this; omega
          obtain ⟨r', hr'⟩ : ∃ r' : Bool, r' = true ↔ ¬ ∀ c ∈ t, okCl m c := ⟨@decide (¬ ∀ c ∈ t, okCl m c) (Classical.propDecidable _), by simp⟩
          have HR' := Lib.hid hr'
          clear hr'
          go_wp2_with fail
          refine (run_ContainsFunc wr w.heap.size (.slice Aw nw cw) (.slice _ nt ct) Ac nc cc A' n' k w.heap.size m t r' bX (hrl.below hbel) hsz (by omega) L2.out (by omega) HI.out HR'.out).mono ?_
          rintro e w1 ⟨rfl, hb1⟩
          cases r' with
          | true =>
            go_wp2
            go_ret
            refine ⟨?_, hbel.trans (hb1.mono hsz)⟩
            cases r with
            | false => rfl
            | true => exact absurd ((HR.out.1 rfl).2.2.2.2 t HMem.out).2 (HR'.out.1 (by first | rfl | trivial))
          | false =>
            go_wp2
            go_roundw
            case rel =>
              refine ⟨j + 1, by omega, by go_num, ?_, bX.below hb1 lX, hbel.trans (hb1.mono hsz)⟩
              intro d hd
              rw [at_take HX.out] at hd
              rcases List.mem_append.1 hd with hd | hd
              · exact HTS.out d hd
              · rw [List.mem_singleton.1 hd]
                refine ⟨by rw [LT.out]; omega, ?_⟩
                by_cases hall : ∀ c ∈ t, okCl m c
                · exact hall
                · have := HR'.out.2 hall; simp at this
            case measure => simp [intOf]; omega
        · obtain rfl : nt = j := by omega
          have HT2 := HTS.out
          rw [List.take_of_length_le (by rw [L3.out]; omega)] at HT2
          have HTS := Lib.hid HT2
          clear HT2
          go_wp2
          go_ret
          refine ⟨ret_bool ?_, hbel⟩
          exact (HR.out.2 ⟨by rw [L1.out]; omega, by rw [L2.out]; omega, by rw [L3.out]; omega, HC.out, HTS.out⟩).symm
end Go.Proofs.YtjihopbapnfppaaDoor
