/- Which codes the document's answer takes as valid. No statement of the seat is proved here; no condition. -/
import Derived.Test.YtnchgdjdfhfedaaDoorRows
import Derived.Test.YtnchgdjdfhfedaaDoorPartAE
set_option linter.unusedSimpArgs false
set_option linter.unusedVariables false
namespace Go.Proofs.YtnchgdjdfhfedaaDoor
open Go.RowKit Go.Ord Go.Baro

theorem ref_isReg (n : Int) (r : Bool) (w : World) (hr : r = true ↔ isR n) : Calls Tryd.prog 33 #[.int .i64 n] w fun e w' => e = .returned (.bool r) ∧ w = w' := by
  have H := Lib.hid hr
  clear hr
  by_cases h : 0 ≤ n
  · go_enter Tryd.func33, Tryd.ntmps33
    go_wp2
    go_ret
    refine ⟨ret_bool ?_, rfl⟩
    have := H.out
    unfold isR at this
    cases r <;> simp at this ⊢ <;> omega
  · go_enter Tryd.func33, Tryd.ntmps33
    go_wp2
    go_ret
    refine ⟨ret_bool ?_, rfl⟩
    have := H.out
    unfold isR at this
    cases r <;> simp at this ⊢ <;> omega
theorem ref_place (x : Int) (r : Bool) (w : World) (b n c : Nat) (A : Option Addr) (hc : w.cell? ⟨b, 0, none⟩ = some (.slice A n c)) (hn : n ≤ 200) (hr : r = true ↔ isT n x) :
    Calls Tryd.prog 32 #[.int .i64 x, .pointer (some ⟨b, 0, none⟩)] w fun e w' => e = .returned (.bool r) ∧ w = w' := by
  have H := Lib.hid hr
  clear hr
  have hlt := block_lt' hc
  by_cases h : 0 ≤ x
  · go_enter Tryd.func32, Tryd.ntmps32
    go_wp2
    go_ret
    refine ⟨ret_bool ?_, rfl⟩
    have := H.out
    unfold isT at this
    cases r <;> simp at this ⊢ <;> omega
  · go_enter Tryd.func32, Tryd.ntmps32
    go_wp2
    go_ret
    refine ⟨ret_bool ?_, rfl⟩
    have := H.out
    unfold isT at this
    cases r <;> simp at this ⊢ <;> omega

theorem ok_1 {n : Nat} {x y z u : Int} : okI n ⟨1, x, y, z, u⟩ ↔ isR x ∧ z = 0 ∧ u = 0 := by simp [okI]
theorem ok_2 {n : Nat} {x y z u : Int} : okI n ⟨2, x, y, z, u⟩ ↔ isR x ∧ isR y ∧ z = 0 ∧ u = 0 := by simp [okI]
theorem ok_3 {n : Nat} {x y z u : Int} : okI n ⟨3, x, y, z, u⟩ ↔ isR x ∧ isR y ∧ isR z ∧ u = 0 := by simp [okI]
theorem ok_4 {n : Nat} {x y z u : Int} : okI n ⟨4, x, y, z, u⟩ ↔ isR x ∧ isR y ∧ isR z ∧ u = 0 := by simp [okI]
theorem ok_5 {n : Nat} {x y z u : Int} : okI n ⟨5, x, y, z, u⟩ ↔ isR x ∧ isR y ∧ isR z ∧ u = 0 := by simp [okI]
theorem ok_6 {n : Nat} {x y z u : Int} : okI n ⟨6, x, y, z, u⟩ ↔ isR x ∧ isR y ∧ isR z ∧ u = 0 := by simp [okI]
theorem ok_7 {n : Nat} {x y z u : Int} : okI n ⟨7, x, y, z, u⟩ ↔ isR x ∧ isR y ∧ isR z ∧ u = 0 := by simp [okI]
theorem ok_8 {n : Nat} {x y z u : Int} : okI n ⟨8, x, y, z, u⟩ ↔ isR x ∧ isR y ∧ isR z ∧ u = 0 := by simp [okI]
theorem ok_9 {n : Nat} {x y z u : Int} : okI n ⟨9, x, y, z, u⟩ ↔ isR x ∧ isR y ∧ isR z ∧ u = 0 := by simp [okI]
theorem ok_10 {n : Nat} {x y z u : Int} : okI n ⟨10, x, y, z, u⟩ ↔ isT n x ∧ y = 0 ∧ z = 0 ∧ u = 0 := by simp [okI]
theorem ok_11 {n : Nat} {x y z u : Int} : okI n ⟨11, x, y, z, u⟩ ↔ isR x ∧ isT n y ∧ z = 0 ∧ u = 0 := by simp [okI]
theorem ok_12 {n : Nat} {x y z u : Int} : okI n ⟨12, x, y, z, u⟩ ↔ isR x ∧ isT n y ∧ z = 0 ∧ u = 0 := by simp [okI]
theorem ok_13 {n : Nat} {x y z u : Int} : okI n ⟨13, x, y, z, u⟩ ↔ isR x ∧ isR y ∧ u = 0 := by simp [okI]
theorem ok_14 {n : Nat} {x y z u : Int} : okI n ⟨14, x, y, z, u⟩ ↔ isR x ∧ isR y ∧ u = 0 := by simp [okI]
theorem ok_15 {n : Nat} {x y z u : Int} : okI n ⟨15, x, y, z, u⟩ ↔ isR x ∧ isR y ∧ isR u := by simp [okI]
theorem ok_16 {n : Nat} {x y z u : Int} : okI n ⟨16, x, y, z, u⟩ ↔ isR x ∧ y = 0 ∧ z = 0 ∧ u = 0 := by simp [okI]
theorem ok_17 {n : Nat} {x y z u : Int} : okI n ⟨17, x, y, z, u⟩ ↔ x = 0 ∧ y = 0 ∧ z = 0 ∧ u = 0 := by simp [okI]

set_option maxRecDepth 100000 in
set_option maxHeartbeats 40000000 in
theorem ref_CodeMay (l : List Ins) (A : Option Addr) (n c : Nat) (r : Bool) (w : World) (B : Nat) (hb : RO w B A n l) (hB : B ≤ w.heap.size) (hn : n ≤ 9223372036854775807) (hr : r = true ↔ okC l) :
    Calls Tryd.prog 11 #[.slice A n c] w fun e w' => e = .returned (.bool r) ∧ Below w.heap.size w w' := by
  have HL := Lib.hid hb.len
  have H := Lib.hid hr
  clear hr
  have h0 : Below w.heap.size w w := Below.refl _ _
  have hA := h0.alloc (Nat.le_refl _) (Obj.cells #[.slice A n c] 24)
  by_cases hn2 : n ≤ 200
  · have bD := Box.newAt w 24 [.slice A n c] _ rfl
    go_enter Tryd.func11, Tryd.ntmps11
    go_wp2
    go_loopw [12] (fun i wr => ∃ j : Nat, j ≤ n ∧ i = .int .i64 j ∧ Hid (∀ o ∈ l.take j, okI n o) ∧ Box wr w.heap.size 24 [.slice A n c] ∧ Below w.heap.size w wr) (fun i _ => n - (intOf i).toNat)
    case atStart => exact ⟨0, Nat.zero_le _, rfl, by simp [Hid], bD, hA⟩
    case round =>
      obtain ⟨j, hj, rfl, HC, bD, hbel⟩ := hrel
      have hsz := hbel.size
      have lD := bD.lt
      have gD := bD.cell 0
      by_cases hjn : j < n
      · obtain ⟨b, o, k, x, y, z, u, rfl, hbB, c0, c1, c2, c3, c4, HX, hmem⟩ := (hb.below (hbel.mono hB)).val hjn
        have hbs : b < wr.heap.size := by omega
        have hal := hbel.alloc hsz (Obj.cells #[.int .i64 k, .int .i64 x, .int .i64 y, .int .i64 z, .int .i64 u] 73)
        have bD2 := bD.alloc (Obj.cells #[.int .i64 k, .int .i64 x, .int .i64 y, .int .i64 z, .int .i64 u] 73)
        have gD2 := bD2.cell 0
        have HBAD := Lib.hid (show ¬ okI n ⟨k, x, y, z, u⟩ → r = false by
          intro hno
          cases r with
          | false => rfl
          | true =>
            have := (H.out.1 rfl).2 _ hmem
            rw [HL.out] at this
            exact absurd this hno)
        have HGO := Lib.hid (show okI n ⟨k, x, y, z, u⟩ → ∀ q ∈ l.take (j + 1), okI n q by
          intro hyes q hq
          rw [at_take HX.out] at hq
          rcases List.mem_append.1 hq with hq | hq
          · exact HC.out q hq
          · rw [List.mem_singleton.1 hq]; exact hyes)
        clear hmem bD
        by_cases hk : 1 ≤ k ∧ k ≤ 17
        · rcases (by omega : k = 1 ∨ k = 2 ∨ k = 3 ∨ k = 4 ∨ k = 5 ∨ k = 6 ∨ k = 7 ∨ k = 8 ∨ k = 9 ∨ k = 10 ∨ k = 11 ∨ k = 12 ∨ k = 13 ∨ k = 14 ∨ k = 15 ∨ k = 16 ∨ k = 17) with rfl | rfl | rfl | rfl | rfl | rfl | rfl | rfl | rfl | rfl | rfl | rfl | rfl | rfl | rfl | rfl | rfl
          · as_aux_lemma =>
              clear hk
              go_wp2_with fail
              by_cases q0 : isR x
              · replace q0 := Lib.hid q0
                refine (ref_isReg x true _ (by simp; exact q0.out)).mono ?_
                rintro e w' ⟨rfl, rfl⟩
                by_cases q1 : z = 0
                · replace q1 := Lib.hid q1
                  have e1 : (z == 0) = true := by simp [q1.out]
                  by_cases q2 : u = 0
                  · replace q2 := Lib.hid q2
                    have e2 : (u == 0) = true := by simp [q2.out]
                    go_wp2
                    go_roundw
                    case rel =>
                      refine ⟨j + 1, by omega, by go_num, HGO.out ?_, bD2, hal⟩
                      have p0 := q0.out
                      have p1 := q1.out
                      have p2 := q2.out
                      exact (ok_1).2 ⟨p0, p1, p2⟩
                    case measure => simp [intOf]; omega
                  · replace q2 := Lib.hid q2
                    have e2 : (u == 0) = false := by simp [q2.out]
                    go_wp2
                    go_ret
                    exact ⟨ret_bool (HBAD.out (fun hok => q2.out ((ok_1).1 hok).2.2)).symm, hal⟩
                · replace q1 := Lib.hid q1
                  have e1 : (z == 0) = false := by simp [q1.out]
                  go_wp2
                  go_ret
                  exact ⟨ret_bool (HBAD.out (fun hok => q1.out ((ok_1).1 hok).2.1)).symm, hal⟩
              · replace q0 := Lib.hid q0
                refine (ref_isReg x false _ (by simp; exact q0.out)).mono ?_
                rintro e w' ⟨rfl, rfl⟩
                go_wp2
                go_ret
                exact ⟨ret_bool (HBAD.out (fun hok => q0.out ((ok_1).1 hok).1)).symm, hal⟩
          · as_aux_lemma =>
              clear hk
              go_wp2_with fail
              by_cases q0 : isR x
              · replace q0 := Lib.hid q0
                refine (ref_isReg x true _ (by simp; exact q0.out)).mono ?_
                rintro e w' ⟨rfl, rfl⟩
                go_wp2_with fail
                by_cases q1 : isR y
                · replace q1 := Lib.hid q1
                  refine (ref_isReg y true _ (by simp; exact q1.out)).mono ?_
                  rintro e w' ⟨rfl, rfl⟩
                  by_cases q2 : z = 0
                  · replace q2 := Lib.hid q2
                    have e2 : (z == 0) = true := by simp [q2.out]
                    by_cases q3 : u = 0
                    · replace q3 := Lib.hid q3
                      have e3 : (u == 0) = true := by simp [q3.out]
                      go_wp2
                      go_roundw
                      case rel =>
                        refine ⟨j + 1, by omega, by go_num, HGO.out ?_, bD2, hal⟩
                        have p0 := q0.out
                        have p1 := q1.out
                        have p2 := q2.out
                        have p3 := q3.out
                        exact (ok_2).2 ⟨p0, p1, p2, p3⟩
                      case measure => simp [intOf]; omega
                    · replace q3 := Lib.hid q3
                      have e3 : (u == 0) = false := by simp [q3.out]
                      go_wp2
                      go_ret
                      exact ⟨ret_bool (HBAD.out (fun hok => q3.out ((ok_2).1 hok).2.2.2)).symm, hal⟩
                  · replace q2 := Lib.hid q2
                    have e2 : (z == 0) = false := by simp [q2.out]
                    go_wp2
                    go_ret
                    exact ⟨ret_bool (HBAD.out (fun hok => q2.out ((ok_2).1 hok).2.2.1)).symm, hal⟩
                · replace q1 := Lib.hid q1
                  refine (ref_isReg y false _ (by simp; exact q1.out)).mono ?_
                  rintro e w' ⟨rfl, rfl⟩
                  go_wp2
                  go_ret
                  exact ⟨ret_bool (HBAD.out (fun hok => q1.out ((ok_2).1 hok).2.1)).symm, hal⟩
              · replace q0 := Lib.hid q0
                refine (ref_isReg x false _ (by simp; exact q0.out)).mono ?_
                rintro e w' ⟨rfl, rfl⟩
                go_wp2
                go_ret
                exact ⟨ret_bool (HBAD.out (fun hok => q0.out ((ok_2).1 hok).1)).symm, hal⟩
          · as_aux_lemma =>
              clear hk
              go_wp2_with fail
              by_cases q0 : isR x
              · replace q0 := Lib.hid q0
                refine (ref_isReg x true _ (by simp; exact q0.out)).mono ?_
                rintro e w' ⟨rfl, rfl⟩
                go_wp2_with fail
                by_cases q1 : isR y
                · replace q1 := Lib.hid q1
                  refine (ref_isReg y true _ (by simp; exact q1.out)).mono ?_
                  rintro e w' ⟨rfl, rfl⟩
                  go_wp2_with fail
                  by_cases q2 : isR z
                  · replace q2 := Lib.hid q2
                    refine (ref_isReg z true _ (by simp; exact q2.out)).mono ?_
                    rintro e w' ⟨rfl, rfl⟩
                    by_cases q3 : u = 0
                    · replace q3 := Lib.hid q3
                      have e3 : (u == 0) = true := by simp [q3.out]
                      go_wp2
                      go_roundw
                      case rel =>
                        refine ⟨j + 1, by omega, by go_num, HGO.out ?_, bD2, hal⟩
                        have p0 := q0.out
                        have p1 := q1.out
                        have p2 := q2.out
                        have p3 := q3.out
                        exact (ok_3).2 ⟨p0, p1, p2, p3⟩
                      case measure => simp [intOf]; omega
                    · replace q3 := Lib.hid q3
                      have e3 : (u == 0) = false := by simp [q3.out]
                      go_wp2
                      go_ret
                      exact ⟨ret_bool (HBAD.out (fun hok => q3.out ((ok_3).1 hok).2.2.2)).symm, hal⟩
                  · replace q2 := Lib.hid q2
                    refine (ref_isReg z false _ (by simp; exact q2.out)).mono ?_
                    rintro e w' ⟨rfl, rfl⟩
                    go_wp2
                    go_ret
                    exact ⟨ret_bool (HBAD.out (fun hok => q2.out ((ok_3).1 hok).2.2.1)).symm, hal⟩
                · replace q1 := Lib.hid q1
                  refine (ref_isReg y false _ (by simp; exact q1.out)).mono ?_
                  rintro e w' ⟨rfl, rfl⟩
                  go_wp2
                  go_ret
                  exact ⟨ret_bool (HBAD.out (fun hok => q1.out ((ok_3).1 hok).2.1)).symm, hal⟩
              · replace q0 := Lib.hid q0
                refine (ref_isReg x false _ (by simp; exact q0.out)).mono ?_
                rintro e w' ⟨rfl, rfl⟩
                go_wp2
                go_ret
                exact ⟨ret_bool (HBAD.out (fun hok => q0.out ((ok_3).1 hok).1)).symm, hal⟩
          · as_aux_lemma =>
              clear hk
              go_wp2_with fail
              by_cases q0 : isR x
              · replace q0 := Lib.hid q0
                refine (ref_isReg x true _ (by simp; exact q0.out)).mono ?_
                rintro e w' ⟨rfl, rfl⟩
                go_wp2_with fail
                by_cases q1 : isR y
                · replace q1 := Lib.hid q1
                  refine (ref_isReg y true _ (by simp; exact q1.out)).mono ?_
                  rintro e w' ⟨rfl, rfl⟩
                  go_wp2_with fail
                  by_cases q2 : isR z
                  · replace q2 := Lib.hid q2
                    refine (ref_isReg z true _ (by simp; exact q2.out)).mono ?_
                    rintro e w' ⟨rfl, rfl⟩
                    by_cases q3 : u = 0
                    · replace q3 := Lib.hid q3
                      have e3 : (u == 0) = true := by simp [q3.out]
                      go_wp2
                      go_roundw
                      case rel =>
                        refine ⟨j + 1, by omega, by go_num, HGO.out ?_, bD2, hal⟩
                        have p0 := q0.out
                        have p1 := q1.out
                        have p2 := q2.out
                        have p3 := q3.out
                        exact (ok_4).2 ⟨p0, p1, p2, p3⟩
                      case measure => simp [intOf]; omega
                    · replace q3 := Lib.hid q3
                      have e3 : (u == 0) = false := by simp [q3.out]
                      go_wp2
                      go_ret
                      exact ⟨ret_bool (HBAD.out (fun hok => q3.out ((ok_4).1 hok).2.2.2)).symm, hal⟩
                  · replace q2 := Lib.hid q2
                    refine (ref_isReg z false _ (by simp; exact q2.out)).mono ?_
                    rintro e w' ⟨rfl, rfl⟩
                    go_wp2
                    go_ret
                    exact ⟨ret_bool (HBAD.out (fun hok => q2.out ((ok_4).1 hok).2.2.1)).symm, hal⟩
                · replace q1 := Lib.hid q1
                  refine (ref_isReg y false _ (by simp; exact q1.out)).mono ?_
                  rintro e w' ⟨rfl, rfl⟩
                  go_wp2
                  go_ret
                  exact ⟨ret_bool (HBAD.out (fun hok => q1.out ((ok_4).1 hok).2.1)).symm, hal⟩
              · replace q0 := Lib.hid q0
                refine (ref_isReg x false _ (by simp; exact q0.out)).mono ?_
                rintro e w' ⟨rfl, rfl⟩
                go_wp2
                go_ret
                exact ⟨ret_bool (HBAD.out (fun hok => q0.out ((ok_4).1 hok).1)).symm, hal⟩
          · as_aux_lemma =>
              clear hk
              go_wp2_with fail
              by_cases q0 : isR x
              · replace q0 := Lib.hid q0
                refine (ref_isReg x true _ (by simp; exact q0.out)).mono ?_
                rintro e w' ⟨rfl, rfl⟩
                go_wp2_with fail
                by_cases q1 : isR y
                · replace q1 := Lib.hid q1
                  refine (ref_isReg y true _ (by simp; exact q1.out)).mono ?_
                  rintro e w' ⟨rfl, rfl⟩
                  go_wp2_with fail
                  by_cases q2 : isR z
                  · replace q2 := Lib.hid q2
                    refine (ref_isReg z true _ (by simp; exact q2.out)).mono ?_
                    rintro e w' ⟨rfl, rfl⟩
                    by_cases q3 : u = 0
                    · replace q3 := Lib.hid q3
                      have e3 : (u == 0) = true := by simp [q3.out]
                      go_wp2
                      go_roundw
                      case rel =>
                        refine ⟨j + 1, by omega, by go_num, HGO.out ?_, bD2, hal⟩
                        have p0 := q0.out
                        have p1 := q1.out
                        have p2 := q2.out
                        have p3 := q3.out
                        exact (ok_5).2 ⟨p0, p1, p2, p3⟩
                      case measure => simp [intOf]; omega
                    · replace q3 := Lib.hid q3
                      have e3 : (u == 0) = false := by simp [q3.out]
                      go_wp2
                      go_ret
                      exact ⟨ret_bool (HBAD.out (fun hok => q3.out ((ok_5).1 hok).2.2.2)).symm, hal⟩
                  · replace q2 := Lib.hid q2
                    refine (ref_isReg z false _ (by simp; exact q2.out)).mono ?_
                    rintro e w' ⟨rfl, rfl⟩
                    go_wp2
                    go_ret
                    exact ⟨ret_bool (HBAD.out (fun hok => q2.out ((ok_5).1 hok).2.2.1)).symm, hal⟩
                · replace q1 := Lib.hid q1
                  refine (ref_isReg y false _ (by simp; exact q1.out)).mono ?_
                  rintro e w' ⟨rfl, rfl⟩
                  go_wp2
                  go_ret
                  exact ⟨ret_bool (HBAD.out (fun hok => q1.out ((ok_5).1 hok).2.1)).symm, hal⟩
              · replace q0 := Lib.hid q0
                refine (ref_isReg x false _ (by simp; exact q0.out)).mono ?_
                rintro e w' ⟨rfl, rfl⟩
                go_wp2
                go_ret
                exact ⟨ret_bool (HBAD.out (fun hok => q0.out ((ok_5).1 hok).1)).symm, hal⟩
          · as_aux_lemma =>
              clear hk
              go_wp2_with fail
              by_cases q0 : isR x
              · replace q0 := Lib.hid q0
                refine (ref_isReg x true _ (by simp; exact q0.out)).mono ?_
                rintro e w' ⟨rfl, rfl⟩
                go_wp2_with fail
                by_cases q1 : isR y
                · replace q1 := Lib.hid q1
                  refine (ref_isReg y true _ (by simp; exact q1.out)).mono ?_
                  rintro e w' ⟨rfl, rfl⟩
                  go_wp2_with fail
                  by_cases q2 : isR z
                  · replace q2 := Lib.hid q2
                    refine (ref_isReg z true _ (by simp; exact q2.out)).mono ?_
                    rintro e w' ⟨rfl, rfl⟩
                    by_cases q3 : u = 0
                    · replace q3 := Lib.hid q3
                      have e3 : (u == 0) = true := by simp [q3.out]
                      go_wp2
                      go_roundw
                      case rel =>
                        refine ⟨j + 1, by omega, by go_num, HGO.out ?_, bD2, hal⟩
                        have p0 := q0.out
                        have p1 := q1.out
                        have p2 := q2.out
                        have p3 := q3.out
                        exact (ok_6).2 ⟨p0, p1, p2, p3⟩
                      case measure => simp [intOf]; omega
                    · replace q3 := Lib.hid q3
                      have e3 : (u == 0) = false := by simp [q3.out]
                      go_wp2
                      go_ret
                      exact ⟨ret_bool (HBAD.out (fun hok => q3.out ((ok_6).1 hok).2.2.2)).symm, hal⟩
                  · replace q2 := Lib.hid q2
                    refine (ref_isReg z false _ (by simp; exact q2.out)).mono ?_
                    rintro e w' ⟨rfl, rfl⟩
                    go_wp2
                    go_ret
                    exact ⟨ret_bool (HBAD.out (fun hok => q2.out ((ok_6).1 hok).2.2.1)).symm, hal⟩
                · replace q1 := Lib.hid q1
                  refine (ref_isReg y false _ (by simp; exact q1.out)).mono ?_
                  rintro e w' ⟨rfl, rfl⟩
                  go_wp2
                  go_ret
                  exact ⟨ret_bool (HBAD.out (fun hok => q1.out ((ok_6).1 hok).2.1)).symm, hal⟩
              · replace q0 := Lib.hid q0
                refine (ref_isReg x false _ (by simp; exact q0.out)).mono ?_
                rintro e w' ⟨rfl, rfl⟩
                go_wp2
                go_ret
                exact ⟨ret_bool (HBAD.out (fun hok => q0.out ((ok_6).1 hok).1)).symm, hal⟩
          · as_aux_lemma =>
              clear hk
              go_wp2_with fail
              by_cases q0 : isR x
              · replace q0 := Lib.hid q0
                refine (ref_isReg x true _ (by simp; exact q0.out)).mono ?_
                rintro e w' ⟨rfl, rfl⟩
                go_wp2_with fail
                by_cases q1 : isR y
                · replace q1 := Lib.hid q1
                  refine (ref_isReg y true _ (by simp; exact q1.out)).mono ?_
                  rintro e w' ⟨rfl, rfl⟩
                  go_wp2_with fail
                  by_cases q2 : isR z
                  · replace q2 := Lib.hid q2
                    refine (ref_isReg z true _ (by simp; exact q2.out)).mono ?_
                    rintro e w' ⟨rfl, rfl⟩
                    by_cases q3 : u = 0
                    · replace q3 := Lib.hid q3
                      have e3 : (u == 0) = true := by simp [q3.out]
                      go_wp2
                      go_roundw
                      case rel =>
                        refine ⟨j + 1, by omega, by go_num, HGO.out ?_, bD2, hal⟩
                        have p0 := q0.out
                        have p1 := q1.out
                        have p2 := q2.out
                        have p3 := q3.out
                        exact (ok_7).2 ⟨p0, p1, p2, p3⟩
                      case measure => simp [intOf]; omega
                    · replace q3 := Lib.hid q3
                      have e3 : (u == 0) = false := by simp [q3.out]
                      go_wp2
                      go_ret
                      exact ⟨ret_bool (HBAD.out (fun hok => q3.out ((ok_7).1 hok).2.2.2)).symm, hal⟩
                  · replace q2 := Lib.hid q2
                    refine (ref_isReg z false _ (by simp; exact q2.out)).mono ?_
                    rintro e w' ⟨rfl, rfl⟩
                    go_wp2
                    go_ret
                    exact ⟨ret_bool (HBAD.out (fun hok => q2.out ((ok_7).1 hok).2.2.1)).symm, hal⟩
                · replace q1 := Lib.hid q1
                  refine (ref_isReg y false _ (by simp; exact q1.out)).mono ?_
                  rintro e w' ⟨rfl, rfl⟩
                  go_wp2
                  go_ret
                  exact ⟨ret_bool (HBAD.out (fun hok => q1.out ((ok_7).1 hok).2.1)).symm, hal⟩
              · replace q0 := Lib.hid q0
                refine (ref_isReg x false _ (by simp; exact q0.out)).mono ?_
                rintro e w' ⟨rfl, rfl⟩
                go_wp2
                go_ret
                exact ⟨ret_bool (HBAD.out (fun hok => q0.out ((ok_7).1 hok).1)).symm, hal⟩
          · as_aux_lemma =>
              clear hk
              go_wp2_with fail
              by_cases q0 : isR x
              · replace q0 := Lib.hid q0
                refine (ref_isReg x true _ (by simp; exact q0.out)).mono ?_
                rintro e w' ⟨rfl, rfl⟩
                go_wp2_with fail
                by_cases q1 : isR y
                · replace q1 := Lib.hid q1
                  refine (ref_isReg y true _ (by simp; exact q1.out)).mono ?_
                  rintro e w' ⟨rfl, rfl⟩
                  go_wp2_with fail
                  by_cases q2 : isR z
                  · replace q2 := Lib.hid q2
                    refine (ref_isReg z true _ (by simp; exact q2.out)).mono ?_
                    rintro e w' ⟨rfl, rfl⟩
                    by_cases q3 : u = 0
                    · replace q3 := Lib.hid q3
                      have e3 : (u == 0) = true := by simp [q3.out]
                      go_wp2
                      go_roundw
                      case rel =>
                        refine ⟨j + 1, by omega, by go_num, HGO.out ?_, bD2, hal⟩
                        have p0 := q0.out
                        have p1 := q1.out
                        have p2 := q2.out
                        have p3 := q3.out
                        exact (ok_8).2 ⟨p0, p1, p2, p3⟩
                      case measure => simp [intOf]; omega
                    · replace q3 := Lib.hid q3
                      have e3 : (u == 0) = false := by simp [q3.out]
                      go_wp2
                      go_ret
                      exact ⟨ret_bool (HBAD.out (fun hok => q3.out ((ok_8).1 hok).2.2.2)).symm, hal⟩
                  · replace q2 := Lib.hid q2
                    refine (ref_isReg z false _ (by simp; exact q2.out)).mono ?_
                    rintro e w' ⟨rfl, rfl⟩
                    go_wp2
                    go_ret
                    exact ⟨ret_bool (HBAD.out (fun hok => q2.out ((ok_8).1 hok).2.2.1)).symm, hal⟩
                · replace q1 := Lib.hid q1
                  refine (ref_isReg y false _ (by simp; exact q1.out)).mono ?_
                  rintro e w' ⟨rfl, rfl⟩
                  go_wp2
                  go_ret
                  exact ⟨ret_bool (HBAD.out (fun hok => q1.out ((ok_8).1 hok).2.1)).symm, hal⟩
              · replace q0 := Lib.hid q0
                refine (ref_isReg x false _ (by simp; exact q0.out)).mono ?_
                rintro e w' ⟨rfl, rfl⟩
                go_wp2
                go_ret
                exact ⟨ret_bool (HBAD.out (fun hok => q0.out ((ok_8).1 hok).1)).symm, hal⟩
          · as_aux_lemma =>
              clear hk
              go_wp2_with fail
              by_cases q0 : isR x
              · replace q0 := Lib.hid q0
                refine (ref_isReg x true _ (by simp; exact q0.out)).mono ?_
                rintro e w' ⟨rfl, rfl⟩
                go_wp2_with fail
                by_cases q1 : isR y
                · replace q1 := Lib.hid q1
                  refine (ref_isReg y true _ (by simp; exact q1.out)).mono ?_
                  rintro e w' ⟨rfl, rfl⟩
                  go_wp2_with fail
                  by_cases q2 : isR z
                  · replace q2 := Lib.hid q2
                    refine (ref_isReg z true _ (by simp; exact q2.out)).mono ?_
                    rintro e w' ⟨rfl, rfl⟩
                    by_cases q3 : u = 0
                    · replace q3 := Lib.hid q3
                      have e3 : (u == 0) = true := by simp [q3.out]
                      go_wp2
                      go_roundw
                      case rel =>
                        refine ⟨j + 1, by omega, by go_num, HGO.out ?_, bD2, hal⟩
                        have p0 := q0.out
                        have p1 := q1.out
                        have p2 := q2.out
                        have p3 := q3.out
                        exact (ok_9).2 ⟨p0, p1, p2, p3⟩
                      case measure => simp [intOf]; omega
                    · replace q3 := Lib.hid q3
                      have e3 : (u == 0) = false := by simp [q3.out]
                      go_wp2
                      go_ret
                      exact ⟨ret_bool (HBAD.out (fun hok => q3.out ((ok_9).1 hok).2.2.2)).symm, hal⟩
                  · replace q2 := Lib.hid q2
                    refine (ref_isReg z false _ (by simp; exact q2.out)).mono ?_
                    rintro e w' ⟨rfl, rfl⟩
                    go_wp2
                    go_ret
                    exact ⟨ret_bool (HBAD.out (fun hok => q2.out ((ok_9).1 hok).2.2.1)).symm, hal⟩
                · replace q1 := Lib.hid q1
                  refine (ref_isReg y false _ (by simp; exact q1.out)).mono ?_
                  rintro e w' ⟨rfl, rfl⟩
                  go_wp2
                  go_ret
                  exact ⟨ret_bool (HBAD.out (fun hok => q1.out ((ok_9).1 hok).2.1)).symm, hal⟩
              · replace q0 := Lib.hid q0
                refine (ref_isReg x false _ (by simp; exact q0.out)).mono ?_
                rintro e w' ⟨rfl, rfl⟩
                go_wp2
                go_ret
                exact ⟨ret_bool (HBAD.out (fun hok => q0.out ((ok_9).1 hok).1)).symm, hal⟩
          · as_aux_lemma =>
              clear hk
              go_wp2_with fail
              by_cases q0 : isT n x
              · replace q0 := Lib.hid q0
                refine (ref_place x true _ w.heap.size n c _ gD2 hn2 (by simp; exact q0.out)).mono ?_
                rintro e w' ⟨rfl, rfl⟩
                by_cases q1 : y = 0
                · replace q1 := Lib.hid q1
                  have e1 : (y == 0) = true := by simp [q1.out]
                  by_cases q2 : z = 0
                  · replace q2 := Lib.hid q2
                    have e2 : (z == 0) = true := by simp [q2.out]
                    by_cases q3 : u = 0
                    · replace q3 := Lib.hid q3
                      have e3 : (u == 0) = true := by simp [q3.out]
                      go_wp2
                      go_roundw
                      case rel =>
                        refine ⟨j + 1, by omega, by go_num, HGO.out ?_, bD2, hal⟩
                        have p0 := q0.out
                        have p1 := q1.out
                        have p2 := q2.out
                        have p3 := q3.out
                        exact (ok_10).2 ⟨p0, p1, p2, p3⟩
                      case measure => simp [intOf]; omega
                    · replace q3 := Lib.hid q3
                      have e3 : (u == 0) = false := by simp [q3.out]
                      go_wp2
                      go_ret
                      exact ⟨ret_bool (HBAD.out (fun hok => q3.out ((ok_10).1 hok).2.2.2)).symm, hal⟩
                  · replace q2 := Lib.hid q2
                    have e2 : (z == 0) = false := by simp [q2.out]
                    go_wp2
                    go_ret
                    exact ⟨ret_bool (HBAD.out (fun hok => q2.out ((ok_10).1 hok).2.2.1)).symm, hal⟩
                · replace q1 := Lib.hid q1
                  have e1 : (y == 0) = false := by simp [q1.out]
                  go_wp2
                  go_ret
                  exact ⟨ret_bool (HBAD.out (fun hok => q1.out ((ok_10).1 hok).2.1)).symm, hal⟩
              · replace q0 := Lib.hid q0
                refine (ref_place x false _ w.heap.size n c _ gD2 hn2 (by simp; exact q0.out)).mono ?_
                rintro e w' ⟨rfl, rfl⟩
                go_wp2
                go_ret
                exact ⟨ret_bool (HBAD.out (fun hok => q0.out ((ok_10).1 hok).1)).symm, hal⟩
          · as_aux_lemma =>
              clear hk
              go_wp2_with fail
              by_cases q0 : isR x
              · replace q0 := Lib.hid q0
                refine (ref_isReg x true _ (by simp; exact q0.out)).mono ?_
                rintro e w' ⟨rfl, rfl⟩
                go_wp2_with fail
                by_cases q1 : isT n y
                · replace q1 := Lib.hid q1
                  refine (ref_place y true _ w.heap.size n c _ gD2 hn2 (by simp; exact q1.out)).mono ?_
                  rintro e w' ⟨rfl, rfl⟩
                  by_cases q2 : z = 0
                  · replace q2 := Lib.hid q2
                    have e2 : (z == 0) = true := by simp [q2.out]
                    by_cases q3 : u = 0
                    · replace q3 := Lib.hid q3
                      have e3 : (u == 0) = true := by simp [q3.out]
                      go_wp2
                      go_roundw
                      case rel =>
                        refine ⟨j + 1, by omega, by go_num, HGO.out ?_, bD2, hal⟩
                        have p0 := q0.out
                        have p1 := q1.out
                        have p2 := q2.out
                        have p3 := q3.out
                        exact (ok_11).2 ⟨p0, p1, p2, p3⟩
                      case measure => simp [intOf]; omega
                    · replace q3 := Lib.hid q3
                      have e3 : (u == 0) = false := by simp [q3.out]
                      go_wp2
                      go_ret
                      exact ⟨ret_bool (HBAD.out (fun hok => q3.out ((ok_11).1 hok).2.2.2)).symm, hal⟩
                  · replace q2 := Lib.hid q2
                    have e2 : (z == 0) = false := by simp [q2.out]
                    go_wp2
                    go_ret
                    exact ⟨ret_bool (HBAD.out (fun hok => q2.out ((ok_11).1 hok).2.2.1)).symm, hal⟩
                · replace q1 := Lib.hid q1
                  refine (ref_place y false _ w.heap.size n c _ gD2 hn2 (by simp; exact q1.out)).mono ?_
                  rintro e w' ⟨rfl, rfl⟩
                  go_wp2
                  go_ret
                  exact ⟨ret_bool (HBAD.out (fun hok => q1.out ((ok_11).1 hok).2.1)).symm, hal⟩
              · replace q0 := Lib.hid q0
                refine (ref_isReg x false _ (by simp; exact q0.out)).mono ?_
                rintro e w' ⟨rfl, rfl⟩
                go_wp2
                go_ret
                exact ⟨ret_bool (HBAD.out (fun hok => q0.out ((ok_11).1 hok).1)).symm, hal⟩
          · as_aux_lemma =>
              clear hk
              go_wp2_with fail
              by_cases q0 : isR x
              · replace q0 := Lib.hid q0
                refine (ref_isReg x true _ (by simp; exact q0.out)).mono ?_
                rintro e w' ⟨rfl, rfl⟩
                go_wp2_with fail
                by_cases q1 : isT n y
                · replace q1 := Lib.hid q1
                  refine (ref_place y true _ w.heap.size n c _ gD2 hn2 (by simp; exact q1.out)).mono ?_
                  rintro e w' ⟨rfl, rfl⟩
                  by_cases q2 : z = 0
                  · replace q2 := Lib.hid q2
                    have e2 : (z == 0) = true := by simp [q2.out]
                    by_cases q3 : u = 0
                    · replace q3 := Lib.hid q3
                      have e3 : (u == 0) = true := by simp [q3.out]
                      go_wp2
                      go_roundw
                      case rel =>
                        refine ⟨j + 1, by omega, by go_num, HGO.out ?_, bD2, hal⟩
                        have p0 := q0.out
                        have p1 := q1.out
                        have p2 := q2.out
                        have p3 := q3.out
                        exact (ok_12).2 ⟨p0, p1, p2, p3⟩
                      case measure => simp [intOf]; omega
                    · replace q3 := Lib.hid q3
                      have e3 : (u == 0) = false := by simp [q3.out]
                      go_wp2
                      go_ret
                      exact ⟨ret_bool (HBAD.out (fun hok => q3.out ((ok_12).1 hok).2.2.2)).symm, hal⟩
                  · replace q2 := Lib.hid q2
                    have e2 : (z == 0) = false := by simp [q2.out]
                    go_wp2
                    go_ret
                    exact ⟨ret_bool (HBAD.out (fun hok => q2.out ((ok_12).1 hok).2.2.1)).symm, hal⟩
                · replace q1 := Lib.hid q1
                  refine (ref_place y false _ w.heap.size n c _ gD2 hn2 (by simp; exact q1.out)).mono ?_
                  rintro e w' ⟨rfl, rfl⟩
                  go_wp2
                  go_ret
                  exact ⟨ret_bool (HBAD.out (fun hok => q1.out ((ok_12).1 hok).2.1)).symm, hal⟩
              · replace q0 := Lib.hid q0
                refine (ref_isReg x false _ (by simp; exact q0.out)).mono ?_
                rintro e w' ⟨rfl, rfl⟩
                go_wp2
                go_ret
                exact ⟨ret_bool (HBAD.out (fun hok => q0.out ((ok_12).1 hok).1)).symm, hal⟩
          · as_aux_lemma =>
              clear hk
              go_wp2_with fail
              by_cases q0 : isR x
              · replace q0 := Lib.hid q0
                refine (ref_isReg x true _ (by simp; exact q0.out)).mono ?_
                rintro e w' ⟨rfl, rfl⟩
                go_wp2_with fail
                by_cases q1 : isR y
                · replace q1 := Lib.hid q1
                  refine (ref_isReg y true _ (by simp; exact q1.out)).mono ?_
                  rintro e w' ⟨rfl, rfl⟩
                  by_cases q2 : u = 0
                  · replace q2 := Lib.hid q2
                    have e2 : (u == 0) = true := by simp [q2.out]
                    go_wp2
                    go_roundw
                    case rel =>
                      refine ⟨j + 1, by omega, by go_num, HGO.out ?_, bD2, hal⟩
                      have p0 := q0.out
                      have p1 := q1.out
                      have p2 := q2.out
                      exact (ok_13).2 ⟨p0, p1, p2⟩
                    case measure => simp [intOf]; omega
                  · replace q2 := Lib.hid q2
                    have e2 : (u == 0) = false := by simp [q2.out]
                    go_wp2
                    go_ret
                    exact ⟨ret_bool (HBAD.out (fun hok => q2.out ((ok_13).1 hok).2.2)).symm, hal⟩
                · replace q1 := Lib.hid q1
                  refine (ref_isReg y false _ (by simp; exact q1.out)).mono ?_
                  rintro e w' ⟨rfl, rfl⟩
                  go_wp2
                  go_ret
                  exact ⟨ret_bool (HBAD.out (fun hok => q1.out ((ok_13).1 hok).2.1)).symm, hal⟩
              · replace q0 := Lib.hid q0
                refine (ref_isReg x false _ (by simp; exact q0.out)).mono ?_
                rintro e w' ⟨rfl, rfl⟩
                go_wp2
                go_ret
                exact ⟨ret_bool (HBAD.out (fun hok => q0.out ((ok_13).1 hok).1)).symm, hal⟩
          · as_aux_lemma =>
              clear hk
              go_wp2_with fail
              by_cases q0 : isR x
              · replace q0 := Lib.hid q0
                refine (ref_isReg x true _ (by simp; exact q0.out)).mono ?_
                rintro e w' ⟨rfl, rfl⟩
                go_wp2_with fail
                by_cases q1 : isR y
                · replace q1 := Lib.hid q1
                  refine (ref_isReg y true _ (by simp; exact q1.out)).mono ?_
                  rintro e w' ⟨rfl, rfl⟩
                  by_cases q2 : u = 0
                  · replace q2 := Lib.hid q2
                    have e2 : (u == 0) = true := by simp [q2.out]
                    go_wp2
                    go_roundw
                    case rel =>
                      refine ⟨j + 1, by omega, by go_num, HGO.out ?_, bD2, hal⟩
                      have p0 := q0.out
                      have p1 := q1.out
                      have p2 := q2.out
                      exact (ok_14).2 ⟨p0, p1, p2⟩
                    case measure => simp [intOf]; omega
                  · replace q2 := Lib.hid q2
                    have e2 : (u == 0) = false := by simp [q2.out]
                    go_wp2
                    go_ret
                    exact ⟨ret_bool (HBAD.out (fun hok => q2.out ((ok_14).1 hok).2.2)).symm, hal⟩
                · replace q1 := Lib.hid q1
                  refine (ref_isReg y false _ (by simp; exact q1.out)).mono ?_
                  rintro e w' ⟨rfl, rfl⟩
                  go_wp2
                  go_ret
                  exact ⟨ret_bool (HBAD.out (fun hok => q1.out ((ok_14).1 hok).2.1)).symm, hal⟩
              · replace q0 := Lib.hid q0
                refine (ref_isReg x false _ (by simp; exact q0.out)).mono ?_
                rintro e w' ⟨rfl, rfl⟩
                go_wp2
                go_ret
                exact ⟨ret_bool (HBAD.out (fun hok => q0.out ((ok_14).1 hok).1)).symm, hal⟩
          · as_aux_lemma =>
              clear hk
              go_wp2_with fail
              by_cases q0 : isR x
              · replace q0 := Lib.hid q0
                refine (ref_isReg x true _ (by simp; exact q0.out)).mono ?_
                rintro e w' ⟨rfl, rfl⟩
                go_wp2_with fail
                by_cases q1 : isR y
                · replace q1 := Lib.hid q1
                  refine (ref_isReg y true _ (by simp; exact q1.out)).mono ?_
                  rintro e w' ⟨rfl, rfl⟩
                  go_wp2_with fail
                  by_cases q2 : isR u
                  · replace q2 := Lib.hid q2
                    refine (ref_isReg u true _ (by simp; exact q2.out)).mono ?_
                    rintro e w' ⟨rfl, rfl⟩
                    go_wp2
                    go_roundw
                    case rel =>
                      refine ⟨j + 1, by omega, by go_num, HGO.out ?_, bD2, hal⟩
                      have p0 := q0.out
                      have p1 := q1.out
                      have p2 := q2.out
                      exact (ok_15).2 ⟨p0, p1, p2⟩
                    case measure => simp [intOf]; omega
                  · replace q2 := Lib.hid q2
                    refine (ref_isReg u false _ (by simp; exact q2.out)).mono ?_
                    rintro e w' ⟨rfl, rfl⟩
                    go_wp2
                    go_ret
                    exact ⟨ret_bool (HBAD.out (fun hok => q2.out ((ok_15).1 hok).2.2)).symm, hal⟩
                · replace q1 := Lib.hid q1
                  refine (ref_isReg y false _ (by simp; exact q1.out)).mono ?_
                  rintro e w' ⟨rfl, rfl⟩
                  go_wp2
                  go_ret
                  exact ⟨ret_bool (HBAD.out (fun hok => q1.out ((ok_15).1 hok).2.1)).symm, hal⟩
              · replace q0 := Lib.hid q0
                refine (ref_isReg x false _ (by simp; exact q0.out)).mono ?_
                rintro e w' ⟨rfl, rfl⟩
                go_wp2
                go_ret
                exact ⟨ret_bool (HBAD.out (fun hok => q0.out ((ok_15).1 hok).1)).symm, hal⟩
          · as_aux_lemma =>
              clear hk
              go_wp2_with fail
              by_cases q0 : isR x
              · replace q0 := Lib.hid q0
                refine (ref_isReg x true _ (by simp; exact q0.out)).mono ?_
                rintro e w' ⟨rfl, rfl⟩
                by_cases q1 : y = 0
                · replace q1 := Lib.hid q1
                  have e1 : (y == 0) = true := by simp [q1.out]
                  by_cases q2 : z = 0
                  · replace q2 := Lib.hid q2
                    have e2 : (z == 0) = true := by simp [q2.out]
                    by_cases q3 : u = 0
                    · replace q3 := Lib.hid q3
                      have e3 : (u == 0) = true := by simp [q3.out]
                      go_wp2
                      go_roundw
                      case rel =>
                        refine ⟨j + 1, by omega, by go_num, HGO.out ?_, bD2, hal⟩
                        have p0 := q0.out
                        have p1 := q1.out
                        have p2 := q2.out
                        have p3 := q3.out
                        exact (ok_16).2 ⟨p0, p1, p2, p3⟩
                      case measure => simp [intOf]; omega
                    · replace q3 := Lib.hid q3
                      have e3 : (u == 0) = false := by simp [q3.out]
                      go_wp2
                      go_ret
                      exact ⟨ret_bool (HBAD.out (fun hok => q3.out ((ok_16).1 hok).2.2.2)).symm, hal⟩
                  · replace q2 := Lib.hid q2
                    have e2 : (z == 0) = false := by simp [q2.out]
                    go_wp2
                    go_ret
                    exact ⟨ret_bool (HBAD.out (fun hok => q2.out ((ok_16).1 hok).2.2.1)).symm, hal⟩
                · replace q1 := Lib.hid q1
                  have e1 : (y == 0) = false := by simp [q1.out]
                  go_wp2
                  go_ret
                  exact ⟨ret_bool (HBAD.out (fun hok => q1.out ((ok_16).1 hok).2.1)).symm, hal⟩
              · replace q0 := Lib.hid q0
                refine (ref_isReg x false _ (by simp; exact q0.out)).mono ?_
                rintro e w' ⟨rfl, rfl⟩
                go_wp2
                go_ret
                exact ⟨ret_bool (HBAD.out (fun hok => q0.out ((ok_16).1 hok).1)).symm, hal⟩
          · as_aux_lemma =>
              clear hk
              by_cases q0 : x = 0
              · replace q0 := Lib.hid q0
                have e0 : (x == 0) = true := by simp [q0.out]
                by_cases q1 : y = 0
                · replace q1 := Lib.hid q1
                  have e1 : (y == 0) = true := by simp [q1.out]
                  by_cases q2 : z = 0
                  · replace q2 := Lib.hid q2
                    have e2 : (z == 0) = true := by simp [q2.out]
                    by_cases q3 : u = 0
                    · replace q3 := Lib.hid q3
                      have e3 : (u == 0) = true := by simp [q3.out]
                      go_wp2
                      go_roundw
                      case rel =>
                        refine ⟨j + 1, by omega, by go_num, HGO.out ?_, bD2, hal⟩
                        have p0 := q0.out
                        have p1 := q1.out
                        have p2 := q2.out
                        have p3 := q3.out
                        exact (ok_17).2 ⟨p0, p1, p2, p3⟩
                      case measure => simp [intOf]; omega
                    · replace q3 := Lib.hid q3
                      have e3 : (u == 0) = false := by simp [q3.out]
                      go_wp2
                      go_ret
                      exact ⟨ret_bool (HBAD.out (fun hok => q3.out ((ok_17).1 hok).2.2.2)).symm, hal⟩
                  · replace q2 := Lib.hid q2
                    have e2 : (z == 0) = false := by simp [q2.out]
                    go_wp2
                    go_ret
                    exact ⟨ret_bool (HBAD.out (fun hok => q2.out ((ok_17).1 hok).2.2.1)).symm, hal⟩
                · replace q1 := Lib.hid q1
                  have e1 : (y == 0) = false := by simp [q1.out]
                  go_wp2
                  go_ret
                  exact ⟨ret_bool (HBAD.out (fun hok => q1.out ((ok_17).1 hok).2.1)).symm, hal⟩
              · replace q0 := Lib.hid q0
                have e0 : (x == 0) = false := by simp [q0.out]
                go_wp2
                go_ret
                exact ⟨ret_bool (HBAD.out (fun hok => q0.out ((ok_17).1 hok).1)).symm, hal⟩
        · have hrf := HBAD.out (fun hok => hk (by unfold okI at hok; dsimp only at hok; omega))
          have e1 : (k == 1) = false := (by simp; omega); have e2 : (k == 2) = false := (by simp; omega); have e3 : (k == 3) = false := (by simp; omega); have e4 : (k == 4) = false := (by simp; omega); have e5 : (k == 5) = false := (by simp; omega); have e6 : (k == 6) = false := (by simp; omega); have e7 : (k == 7) = false := (by simp; omega); have e8 : (k == 8) = false := (by simp; omega); have e9 : (k == 9) = false := (by simp; omega); have e10 : (k == 10) = false := (by simp; omega); have e11 : (k == 11) = false := (by simp; omega); have e12 : (k == 12) = false := (by simp; omega); have e13 : (k == 13) = false := (by simp; omega); have e14 : (k == 14) = false := (by simp; omega); have e15 : (k == 15) = false := (by simp; omega); have e16 : (k == 16) = false := (by simp; omega); have e17 : (k == 17) = false := (by simp; omega)
          clear hk
          go_wp2
          go_ret
          exact ⟨ret_bool hrf.symm, hal⟩
      · go_wp2
        go_ret
        refine ⟨ret_bool ?_, hbel⟩
        refine (H.out.2 ⟨by rw [HL.out]; exact hn2, fun o ho => ?_⟩).symm
        have he := HC.out
        rw [List.take_of_length_le (by rw [HL.out]; omega)] at he
        rw [HL.out]
        exact he o ho
  · go_enter Tryd.func11, Tryd.ntmps11
    go_wp2
    go_ret
    refine ⟨ret_bool ?_, hA⟩
    cases r with
    | false => rfl
    | true =>
      have := (H.out.1 rfl).1
      rw [HL.out] at this
      omega
end Go.Proofs.YtnchgdjdfhfedaaDoor
