/- What the document's answer to run.May does. No statement of the seat is proved here; no condition. -/
import Derived.Test.YtjihopbapnfppaaDoorRefVm1
import Derived.Test.YtjihopbapnfppaaDoorOpenM
set_option linter.unusedSimpArgs false
set_option linter.unusedVariables false
namespace Go.Proofs.YtjihopbapnfppaaDoor
open Go.RowKit Go.Ord Go.Baro

set_option maxRecDepth 100000 in
set_option maxHeartbeats 2000000 in
theorem ref_MachineMay (w : World) (Aw : Option Addr) (nw cw : Nat) (Ac : Option Addr) (nc cc : Nat) (At : Option Addr) (nt ct : Nat) (m : Mc) (r : Bool) (hm : InM w Aw nw cw Ac nc cc At nt ct m) (hr : r = true ↔ okMc m) :
    Calls Tryd.prog 27 #[.agg #[.slice Aw nw cw, .slice Ac nc cc, .slice At nt ct]] w fun e w' => e = .returned (.bool r) ∧ Below w.heap.size w w' := by
  obtain ⟨q1, q2, q3, q4, q5, q6, ⟨q7, q7'⟩, ⟨q8, q8'⟩, ⟨q9, q9'⟩⟩ := hm
  have HR := Lib.hid hr
  have L1 := Lib.hid q1.len
  have L2 := Lib.hid q2.len
  have L3 := Lib.hid q3.len
  have H4 := Lib.hid q4
  have H5 := Lib.hid q5
  have H6 := Lib.hid q6
  clear hr q4 q5 q6
  have h0 : Below w.heap.size w w := Below.refl _ _
  have hA := h0.alloc (Nat.le_refl _) (Obj.cells #[.slice Aw nw cw, .slice Ac nc cc, .slice At nt ct] 45)
  have bX := Box.newAt w 45 [.slice Aw nw cw, .slice Ac nc cc, .slice At nt ct] w.heap.size rfl
  by_cases hw : 200 < nw
  · have hv : r = false := by
      cases r with
      | false => rfl
      | true => have := (HR.out.1 rfl).1; rw [L1.out] at this; omega
    go_enter Tryd.func27, Tryd.ntmps27
    go_wp2
    go_ret
    exact ⟨by first | rfl | exact ret_bool hv.symm, hA⟩
  by_cases hc : 8 < nc
  · have hv : r = false := by
      cases r with
      | false => rfl
      | true => have := (HR.out.1 rfl).2.1; rw [L2.out] at this; omega
    go_enter Tryd.func27, Tryd.ntmps27
    go_wp2
    go_ret
    exact ⟨by first | rfl | exact ret_bool hv.symm, hA⟩
  by_cases ht : 4 < nt
  · have hv : r = false := by
      cases r with
      | false => rfl
      | true => have := (HR.out.1 rfl).2.2.1; rw [L3.out] at this; omega
    go_enter Tryd.func27, Tryd.ntmps27
    go_wp2
    go_ret
    exact ⟨by first | rfl | exact ret_bool hv.symm, hA⟩
  go_enter Tryd.func27, Tryd.ntmps27
  go_wp2
  go_loopw [28] (fun i wr => ∃ j : Nat, j ≤ nc ∧ i = .int .i64 j ∧ Hid (∀ c ∈ m.cs.take j, okC c) ∧ Box wr w.heap.size 45 [.slice Aw nw cw, .slice Ac nc cc, .slice At nt ct] ∧ Below w.heap.size w wr) (fun i _ => nc - (intOf i).toNat)
  case atStart => exact ⟨0, Nat.zero_le _, rfl, by intro c h; simp at h, bX, hA⟩
  case round =>
    obtain ⟨j, hj, rfl, HC, bX, hbel⟩ := hrel
    have hsz := hbel.size
    have lX := bX.lt
    have x0 : wr.cell? ⟨w.heap.size, 0, none⟩ = _ := bX.cell 0
    have x1 : wr.cell? ⟨w.heap.size, 1, none⟩ = _ := bX.cell 1
    have x2 : wr.cell? ⟨w.heap.size, 2, none⟩ = _ := bX.cell 2
    simp only [List.getElem?_cons_zero, List.getElem?_cons_succ] at x0 x1 x2
    by_cases hjm : j < nc
    · obtain ⟨b, o, A', n', k, c, rfl, hbB, hcell, hlk, hro, HX, hmem⟩ := (q2.below hbel).val hjm
      obtain ⟨hn', HI⟩ := H5.out c hmem
      rw [hro.len] at hn'
      obtain ⟨r', hr'⟩ : ∃ r' : Bool, r' = true ↔ okC c := ⟨decide (okC c), by simp⟩
      have HR' := Lib.hid hr'
      have HMem := Lib.hid hmem
      clear hr' HI hmem
      go_wp2_with fail
      refine (ref_CodeMay c A' n' k r' wr _ hro hsz hn' HR'.out).mono ?_
      rintro e w1 ⟨rfl, hb1⟩
      cases r' with
      | false =>
        go_wp2
        go_ret
        refine ⟨?_, hbel.trans (hb1.mono hsz)⟩
        cases r with
        | false => rfl
        | true => have := HR'.out.2 ((HR.out.1 rfl).2.2.2.1 c HMem.out); cases this
      | true =>
        go_wp2
        go_roundw
        case rel =>
          refine ⟨j + 1, by omega, by go_num, ?_, bX.below hb1 lX, hbel.trans (hb1.mono hsz)⟩
          intro d hd
          rw [at_take HX.out] at hd
          rcases List.mem_append.1 hd with hd | hd
          · exact HC.out d hd
          · rw [List.mem_singleton.1 hd]; exact HR'.out.1 (by first | rfl | trivial)
        case measure => simp [intOf]; omega
    · obtain rfl : nc = j := by omega
      have HC2 := HC.out
      rw [List.take_of_length_le (by rw [L2.out]; omega)] at HC2
      have HC := Lib.hid HC2
      clear HC2
      go_wp2
      go_loopw [39] (fun i wr => ∃ j : Nat, j ≤ nt ∧ i = .int .i64 j ∧ Hid (∀ t ∈ m.ts.take j, t.length ≤ 20 ∧ ∀ c ∈ t, okCl m c) ∧ Box wr w.heap.size 45 [.slice Aw nw cw, .slice Ac nc cc, .slice At nt ct] ∧ Below w.heap.size w wr) (fun i _ => nt - (intOf i).toNat)
      case atStart => exact ⟨0, Nat.zero_le _, rfl, by intro c h; simp at h, bX, hbel⟩
      case round =>
        clear x0 x1 x2 lX bX hsz hbel
        obtain ⟨j, hj, rfl, HT, bX, hbel⟩ := hrel
        have hsz := hbel.size
        have lX := bX.lt
        have x0 : wr.cell? ⟨w.heap.size, 0, none⟩ = _ := bX.cell 0
        have x1 : wr.cell? ⟨w.heap.size, 1, none⟩ = _ := bX.cell 1
        have x2 : wr.cell? ⟨w.heap.size, 2, none⟩ = _ := bX.cell 2
        simp only [List.getElem?_cons_zero, List.getElem?_cons_succ] at x0 x1 x2
        by_cases hjm : j < nt
        · obtain ⟨b, o, A', n', k, t, rfl, hbB, hcell0, hlk, hrl, HX, hmem⟩ := q3.val hjm
          have hcell := (hbel.cell (p := ⟨b, o + j, none⟩) hbB).trans hcell0
          clear hcell0
          obtain ⟨hn', HI⟩ := H6.out t hmem
          rw [hrl.len] at hn'
          have LT := Lib.hid hrl.len
          have HI := Lib.hid HI
          have HMem := Lib.hid hmem
          clear hmem
          by_cases h20 : 20 < n'
          · go_wp2
            go_ret
            refine ⟨?_, hbel⟩
            cases r with
            | false => rfl
            | true => have := ((HR.out.1 rfl).2.2.2.2 t HMem.out).1; rw [LT.out] at this; omega
          obtain ⟨wo, rfl⟩ : ∃ wo, wo = wr := ⟨wr, rfl⟩
          go_wp2
          go_loopw [48] (fun i wr => ∃ j : Nat, j ≤ n' ∧ i = .int .i64 j ∧ Hid (∀ c ∈ t.take j, okCl m c) ∧ Box wr w.heap.size 45 [.slice Aw nw cw, .slice Ac nc cc, .slice (some ⟨b, o, none⟩) nt ct] ∧ Below w.heap.size w wr) (fun i _ => n' - (intOf i).toNat)
          case atStart => exact ⟨0, Nat.zero_le _, rfl, by intro c h; simp at h, bX, hbel⟩
          case round =>
            clear x0 x1 x2 lX bX hsz hbel hcell
            obtain ⟨i, hi, rfl, HK, bX, hbel⟩ := hrel
            have hsz := hbel.size
            have lX := bX.lt
            have x0 : wr.cell? ⟨w.heap.size, 0, none⟩ = _ := bX.cell 0
            have x1 : wr.cell? ⟨w.heap.size, 1, none⟩ = _ := bX.cell 1
            have x2 : wr.cell? ⟨w.heap.size, 2, none⟩ = _ := bX.cell 2
            simp only [List.getElem?_cons_zero, List.getElem?_cons_succ] at x0 x1 x2
            by_cases him : i < n'
            · obtain ⟨b1, o1, q, A1, n1, k1, ar, rfl, hbB1, hce0, hce1, hlk1, hri, HX1, hmem1⟩ := (hrl.below hbel).val him
              obtain ⟨hq, hn1, _⟩ := HI.out _ hmem1
              dsimp only at hq hn1
              rw [hri.len] at hn1
              have LA := Lib.hid hri.len
              have HMem1 := Lib.hid hmem1
              clear hmem1
              unfold inW at hq
              have hA2 := hbel.alloc (by omega) (Obj.cells #[.int .i64 q, .slice A1 n1 k1] 60)
              have bX2 := bX.alloc (Obj.cells #[.int .i64 q, .slice A1 n1 k1] 60)
              have hno : ¬ (0 ≤ q ∧ q < nc ∧ n1 ≤ 8) → r = false := fun hh => by
                cases r with
                | false => rfl
                | true =>
                  have := ((HR.out.1 rfl).2.2.2.2 t HMem.out).2 _ HMem1.out
                  unfold okCl at this
                  dsimp only at this
                  rw [LA.out, L2.out] at this
                  omega
              by_cases c1 : q < 0
              · have hv := hno (by omega)
                clear hno
                go_wp2
                go_ret
                exact ⟨by first | rfl | exact ret_bool hv.symm, hA2⟩
              by_cases c2 : (nc : Int) ≤ q
              · have hv := hno (by omega)
                clear hno
                go_wp2
                go_ret
                exact ⟨by first | rfl | exact ret_bool hv.symm, hA2⟩
              by_cases c3 : 8 < n1
              · have hv := hno (by omega)
                clear hno
                go_wp2
                go_ret
                exact ⟨by first | rfl | exact ret_bool hv.symm, hA2⟩
              clear hno
              go_wp2
              go_roundw
              case rel =>
                refine ⟨i + 1, by omega, by go_num, ?_, bX2, hA2⟩
                intro d hd
                rw [at_take HX1.out] at hd
                rcases List.mem_append.1 hd with hd | hd
                · exact HK.out d hd
                · rw [List.mem_singleton.1 hd]; unfold okCl; dsimp only; rw [LA.out, L2.out]; omega
              case measure => simp [intOf]; omega
            · obtain rfl : n' = i := by omega
              go_wp2
              go_roundw
              case rel =>
                refine ⟨j + 1, by omega, by go_num, ?_, bX, hbel⟩
                intro d hd
                rw [at_take HX.out] at hd
                rcases List.mem_append.1 hd with hd | hd
                · exact HT.out d hd
                · rw [List.mem_singleton.1 hd]
                  refine ⟨by rw [LT.out]; omega, fun c hc => HK.out c ?_⟩
                  rw [List.take_of_length_le (by rw [LT.out]; omega)]
                  exact hc
              case measure => simp [intOf]; omega
        · obtain rfl : nt = j := by omega
          go_wp2
          go_ret
          refine ⟨ret_bool ?_, hbel⟩
          symm
          refine HR.out.2 ⟨by rw [L1.out]; omega, by rw [L2.out]; omega, by rw [L3.out]; omega, HC.out, fun t ht => HT.out t ?_⟩
          rw [List.take_of_length_le (by rw [L3.out]; omega)]
          exact ht
end Go.Proofs.YtjihopbapnfppaaDoor
