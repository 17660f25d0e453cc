/- A call begins. No statement of the seat is proved here; no condition. -/
import Derived.Test.YtahfpllphkkmbaaDoorVm5
import Derived.Laws.CopyOwn
set_option linter.unusedSimpArgs false
set_option linter.unusedVariables false
namespace Go.Proofs.YtahfpllphkkmbaaDoor
open Go.RowKit Go.Ord Go.Baro

theorem thC_zero (cv tv : Value) (p : Int) : thC cv p (fun _ => 0) tv = cv :: .int .i64 p :: (List.replicate 24 (.int .i64 0) ++ [tv]) := by
  unfold thC regV
  congr 3
theorem thC_splice (cv tv : Value) (p : Int) (ar : List Int) (h : ar.length ≤ 24) : splice (thC cv p (fun _ => 0) tv) 2 (ar.map (Value.int .i64)) = thC cv p (fun i => if 0 ≤ i then ar[i.toNat]?.getD 0 else 0) tv := by
  unfold splice thC
  rw [List.take_succ_cons, List.take_succ_cons, List.take_zero, List.length_map, show 2 + ar.length = ar.length + 1 + 1 by omega, List.drop_succ_cons, List.drop_succ_cons]
  rw [List.cons_append, List.cons_append, List.nil_append, List.drop_append_of_le_length (by rw [regV_len]; exact h), ← List.append_assoc]
  congr 3
  refine List.ext_getElem? fun j => ?_
  by_cases hj : j < 24
  · rw [regV_at _ hj]
    by_cases hja : j < ar.length
    · rw [List.getElem?_append_left (by simpa using hja), List.getElem?_map, List.getElem?_eq_getElem hja]
      simp [List.getElem?_eq_getElem hja]
    · rw [List.getElem?_append_right (by simp; omega), List.getElem?_drop, List.length_map, show ar.length + (j - ar.length) = j by omega, regV_at _ hj]
      simp [List.getElem?_eq_none (show ar.length ≤ j by omega)]
  · rw [List.getElem?_eq_none (by simp [regV_len]; omega), List.getElem?_eq_none (by rw [regV_len]; omega)]

theorem thA_zero (cv tv : Value) : (thC cv 0 (fun _ => 0) tv).toArray = #[cv, .int .i64 0, .int .i64 0, .int .i64 0, .int .i64 0, .int .i64 0, .int .i64 0, .int .i64 0, .int .i64 0, .int .i64 0, .int .i64 0, .int .i64 0, .int .i64 0, .int .i64 0, .int .i64 0, .int .i64 0, .int .i64 0, .int .i64 0, .int .i64 0, .int .i64 0, .int .i64 0, .int .i64 0, .int .i64 0, .int .i64 0, .int .i64 0, .int .i64 0, tv] := by rw [thC_zero]; simp [List.replicate]

set_option maxRecDepth 100000 in
set_option maxHeartbeats 4000000 in
theorem vm_begin (w : World) (cA A : Option Addr) (n cc m c B : Nat) (ar : List Int) (hr : RI w B .i64 A m ar) (hB : B ≤ w.heap.size) (hm : m ≤ 8) :
    Calls Tryd.prog 24 #[.slice cA n cc, .slice A m c] w fun e w' => e = .returned (.agg (thC (.slice cA n cc) 0 (st0 ar []).r (.slice none 0 0)).toArray) ∧ Below w.heap.size w w' := by
  have HL := Lib.hid hr.len
  have h0 : Below w.heap.size w w := Below.refl _ _
  obtain ⟨C0, hC0⟩ : ∃ C0, C0 = thC (.slice none 0 0) 0 (fun _ => 0) (.slice none 0 0) := ⟨_, rfl⟩
  obtain ⟨C1, hC1⟩ : ∃ C1, C1 = thC (.slice cA n cc) 0 (fun _ => 0) (.slice none 0 0) := ⟨_, rfl⟩
  obtain ⟨C2, hC2⟩ : ∃ C2, C2 = thC (.slice cA n cc) 0 (st0 ar []).r (.slice none 0 0) := ⟨_, rfl⟩
  have hsp : splice C1 2 (ar.map (Value.int .i64)) = C2 := by rw [hC1, hC2]; exact thC_splice _ _ _ _ (by rw [HL.out]; omega)
  have bx0 : Box (w.alloc (.cells C0.toArray 47)) w.heap.size 47 C0 := Box.new w _ _
  have bx1 : Box ((w.alloc (.cells C0.toArray 47)).alloc (.cells C1.toArray 47)) (w.heap.size + 1) 47 C1 := Box.newAt _ _ _ _ (by simp)
  have l0 : C0.length = 27 := by rw [hC0]; exact thC_len
  have l1 : C1.length = 27 := by rw [hC1]; exact thC_len
  have l2 : C2.length = 27 := by rw [hC2]; exact thC_len
  have o2 : ∀ v ∈ C2, v.oneCell' = true := by rw [hC2]; exact thC_one rfl rfl
  have hA := h0.alloc (Nat.le_refl _) (Obj.cells C0.toArray 47)
  have hin : (Tryd.prog.info? 47).map (·.size) = some 27 := by kernel_rfl
  have HS := Lib.hid hsp
  have HC2 := Lib.hid hC2
  have HL0 := Lib.hid l0
  have HL1 := Lib.hid l1
  have HL2 := Lib.hid l2
  have HIN := Lib.hid hin
  have HB0 := Lib.hid bx0
  have HB1 := Lib.hid bx1
  have hE0 : C0.toArray = #[Value.slice none 0 0, .int .i64 0, .int .i64 0, .int .i64 0, .int .i64 0, .int .i64 0, .int .i64 0, .int .i64 0, .int .i64 0, .int .i64 0, .int .i64 0, .int .i64 0, .int .i64 0, .int .i64 0, .int .i64 0, .int .i64 0, .int .i64 0, .int .i64 0, .int .i64 0, .int .i64 0, .int .i64 0, .int .i64 0, .int .i64 0, .int .i64 0, .int .i64 0, .int .i64 0, .slice none 0 0] := by rw [hC0]; exact thA_zero _ _
  have hE1 : C1.toArray = #[Value.slice cA n cc, .int .i64 0, .int .i64 0, .int .i64 0, .int .i64 0, .int .i64 0, .int .i64 0, .int .i64 0, .int .i64 0, .int .i64 0, .int .i64 0, .int .i64 0, .int .i64 0, .int .i64 0, .int .i64 0, .int .i64 0, .int .i64 0, .int .i64 0, .int .i64 0, .int .i64 0, .int .i64 0, .int .i64 0, .int .i64 0, .int .i64 0, .int .i64 0, .int .i64 0, .slice none 0 0] := by rw [hC1]; exact thA_zero _ _
  clear hsp l0 l1 l2 bx0 bx1 hin
  have HE0 := Lib.hid hE0
  have HE1 := Lib.hid hE1
  have hpos : ∀ w1, Below (w.heap.size + 1) (w.alloc (.cells C0.toArray 47)) w1 → 0 < (ar.map (Value.int .i64)).length → ∃ ad, A = some ad ∧ ∀ j v, (ar.map (Value.int .i64))[j]? = some v → w1.cell? (ad.add j) = some v := by
    intro w1 hw1 hl
    have hm0 : 0 < m := by rw [List.length_map, HL.out] at hl; exact hl
    obtain ⟨bb, oo, rfl, hlt, hcl⟩ := ((hr.below (hA.mono hB)).below (hw1.mono (by omega))).at_ hm0
    refine ⟨_, rfl, fun j v hj => ?_⟩
    have hjl : j < m := by have := (List.getElem?_eq_some_iff.1 hj).1; rw [List.length_map, HL.out] at this; exact this
    rw [Addr.add_lit, hcl j (by omega)]
    exact hj
  have HPOS := Lib.hid hpos
  have HB2 := Lib.hid (show Box ((w.alloc (.cells C0.toArray 47)).alloc (.cells C0.toArray 47)) (w.heap.size + 1) 47 C0 from Box.newAt _ _ _ _ (by simp))
  have o1 : ∀ v ∈ C1, v.oneCell' = true := by rw [hC1]; exact thC_one rfl rfl
  have HO1 := Lib.hid o1
  have HO2 := Lib.hid o2
  clear hpos hE0 hE1 hC0 hC1 hC2 o1 o2 hA
  go_enter Tryd.func24, Tryd.ntmps24
  go_wp2_with (first
    | (refine store_box rfl rfl 47 (.tmp 5) (.tmp 7) rfl (w.heap.size + 1) C1 rfl (congrArg Value.agg HE1.out.symm) 47 C0 (by have := HB2.out; rw [HE0.out] at this; exact this) (by rw [HL1.out]; exact HIN.out) (by rw [HL0.out, HL1.out]) HO1.out ?_; intro w1 HG1 hg1; have hB1 : Below (w.heap.size + 1) (w.alloc (.cells C0.toArray 47)) w1 := by rw [HE0.out]; exact below_set ((Below.refl _ _).alloc (by simp) _) hg1 (Nat.le_refl _) (by simp))
    | (refine wpList_copy_splice rfl _ _ 24 24 rfl 3 Tryd.underlying24 (by kernel_rfl) _ _ _ _ _ _ rfl rfl (w.heap.size + 1) 2 C1 47 HG1.out (ar.map (Value.int .i64)) (by rw [List.length_map, HL.out]; exact (Nat.min_eq_left (by omega)).symm) (fun hl => ⟨rfl, HPOS.out w1 hB1 hl⟩) (by rw [List.length_map, HL.out, HL1.out]; omega) (one_ints _ _) (w.heap.size + 1) (w.alloc (.cells C0.toArray 47)) hB1 (Nat.le_refl _) ?_; intro w2 HG2 hB2)
    | (refine wpList_load_row rfl 47 _ rfl (w.heap.size + 1) rfl 47 C2.toArray (0, 0) _ (by rw [← HS.out]; exact HG2.out) Tryd.underlying47 rfl (by rw [List.size_toArray, HL2.out]; exact HIN.out) ?_)
    | (refine store_box rfl rfl 47 (.tmp 4) (.tmp 12) rfl w.heap.size C2 rfl rfl 47 C0 (HB0.out.below hB2 (by omega)) (by rw [HL2.out]; exact HIN.out) (by rw [HL0.out, HL2.out]) HO2.out ?_; intro w3 HG3 hg3))
  refine bodyPost_ret (results_cell_row rfl _ _ w.heap.size 47 C2.toArray (0, 0) _ rfl HG3.out Tryd.underlying47 rfl (by rw [List.size_toArray, HL2.out]; exact HIN.out)) rfl ?_
  have hb2 : Below w.heap.size w w2 := (h0.alloc (Nat.le_refl _) _).trans (hB2.mono (by omega))
  exact ⟨by rw [HC2.out], below_set hb2 hg3 (Nat.le_refl _) hb2.size⟩
end Go.Proofs.YtahfpllphkkmbaaDoor
