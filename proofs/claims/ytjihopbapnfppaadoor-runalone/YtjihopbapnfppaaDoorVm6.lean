/- A call begins. No statement of the seat is proved here; no condition. -/
import Derived.Test.YtjihopbapnfppaaDoorVmClone
import Derived.Laws.CopyOwn
set_option linter.unusedSimpArgs false
set_option linter.unusedVariables false
namespace Go.Proofs.YtjihopbapnfppaaDoor
open Go.RowKit Go.Ord Go.Baro

theorem thC_zero (cv tv : Value) (p : Int) : thC cv p (fun _ => 0) tv = cv :: .int .i64 p :: (List.replicate 24 (.int .i64 0) ++ [tv]) := by
  unfold thC regV
  congr 3
theorem thC_splice (cv tv : Value) (p : Int) (ar : List Int) (h : ar.length ≤ 24) : splice (thC cv p (fun _ => 0) tv) 2 (ar.map (Value.int .i64)) = thC cv p (fun i => if 0 ≤ i then ar[i.toNat]?.getD 0 else 0) tv := by
  unfold splice thC
  rw [List.take_succ_cons, List.take_succ_cons, List.take_zero, List.length_map, show 2 + ar.length = ar.length + 1 + 1 by omega, List.drop_succ_cons, List.drop_succ_cons]
  rw [List.cons_append, List.cons_append, List.nil_append, List.drop_append_of_le_length (by rw [regV_len]; exact h), ← List.append_assoc]
  congr 3
  refine List.ext_getElem? fun j => ?_
  by_cases hj : j < 24
  · rw [regV_at _ hj]
    by_cases hja : j < ar.length
    · rw [List.getElem?_append_left (by simpa using hja), List.getElem?_map, List.getElem?_eq_getElem hja]
      simp [List.getElem?_eq_getElem hja]
    · rw [List.getElem?_append_right (by simp; omega), List.getElem?_drop, List.length_map, show ar.length + (j - ar.length) = j by omega, regV_at _ hj]
      simp [List.getElem?_eq_none (show ar.length ≤ j by omega)]
  · rw [List.getElem?_eq_none (by simp [regV_len]; omega), List.getElem?_eq_none (by rw [regV_len]; omega)]

theorem thA_zero (cv tv : Value) : (thC cv 0 (fun _ => 0) tv).toArray = #[cv, .int .i64 0, .int .i64 0, .int .i64 0, .int .i64 0, .int .i64 0, .int .i64 0, .int .i64 0, .int .i64 0, .int .i64 0, .int .i64 0, .int .i64 0, .int .i64 0, .int .i64 0, .int .i64 0, .int .i64 0, .int .i64 0, .int .i64 0, .int .i64 0, .int .i64 0, .int .i64 0, .int .i64 0, .int .i64 0, .int .i64 0, .int .i64 0, .int .i64 0, tv] := by rw [thC_zero]; simp [List.replicate]

/-- The zero value of a thread. -/
def thZ : List Value := thC (.slice none 0 0) 0 (fun _ => 0) (.slice none 0 0)
theorem thZ_arr : thZ.toArray = #[Value.slice none 0 0, .int .i64 0, .int .i64 0, .int .i64 0, .int .i64 0, .int .i64 0, .int .i64 0, .int .i64 0, .int .i64 0, .int .i64 0, .int .i64 0, .int .i64 0, .int .i64 0, .int .i64 0, .int .i64 0, .int .i64 0, .int .i64 0, .int .i64 0, .int .i64 0, .int .i64 0, .int .i64 0, .int .i64 0, .int .i64 0, .int .i64 0, .int .i64 0, .int .i64 0, .slice none 0 0] := thA_zero _ _

set_option maxRecDepth 100000 in
set_option maxHeartbeats 4000000 in
theorem vm_Begin_no (w : World) (hT : Tab w) (l : List Ins) (ar : List Int) (cA A : Option Addr) (n cc m c B : Nat) (E : Int) (hc : RO w B cA n l) (hB : B ≤ w.heap.size) (hn : n ≤ 9223372036854775807) (hm : m ≤ 9223372036854775807) (hE : (¬ okC l ∧ E = 4) ∨ (okC l ∧ 8 < m ∧ E = 1)) :
    Calls Tryd.prog 37 #[.slice cA n cc, .slice A m c] w fun e w' => e = .returned (.tuple #[.agg thZ.toArray, .int .i64 E]) ∧ Below w.heap.size w w' := by
  have h0 : Below w.heap.size w w := Below.refl _ _
  have bx0 : Box (w.alloc (.cells thZ.toArray 69)) w.heap.size 69 thZ := Box.new w _ _
  have l0 : thZ.length = 27 := thC_len
  have o0 : ∀ v ∈ thZ, v.oneCell' = true := thC_one rfl rfl
  have hin : (Tryd.prog.info? 69).map (·.size) = some 27 := by kernel_rfl
  have hA := h0.alloc (Nat.le_refl _) (Obj.cells thZ.toArray 69)
  have hTA := hT.below hA hT.lt
  have hcA := hc.below (hA.mono hB)
  obtain ⟨C0, hC0⟩ : ∃ C0, C0 = thZ := ⟨_, rfl⟩
  have hZ := thZ_arr
  rw [← hC0] at bx0 l0 o0 hA hTA hcA hZ ⊢
  rw [hZ] at hA hTA hcA bx0
  have HL0 := Lib.hid l0
  have HO0 := Lib.hid o0
  have HIN := Lib.hid hin
  have HZ := Lib.hid hZ
  clear l0 o0 hin hC0 hZ
  rcases hE with ⟨hno, rfl⟩ | ⟨hok, h8, rfl⟩
  · have HNO := Lib.hid hno
    clear hno
    go_enter Tryd.func37, Tryd.ntmps37
    go_wp2_with fail
    refine (vm_May l cA n cc false _ B hTA hcA (by simp; omega) hn (by simp; exact HNO.out)).mono ?_
    rintro e w1 ⟨rfl, hb1⟩
    have HB1 := Lib.hid (bx0.below hb1 (by simp))
    go_wp2_with (refine store_box rfl rfl 69 (.tmp 4) (.tmp 10) rfl w.heap.size C0 rfl (congrArg Value.agg HZ.out.symm) 69 C0 (by have := HB1.out; exact this) (by rw [HL0.out]; exact HIN.out) rfl HO0.out ?_; intro w2 HG2 hg2)
    refine bodyPost_ret (results_row_tmp rfl _ _ w.heap.size 69 C0.toArray (0, 0) _ rfl HG2.out Tryd.underlying69 rfl (by rw [List.size_toArray, HL0.out]; exact HIN.out)) rfl ?_
    have hb2 := hA.trans (hb1.mono (by simp))
    exact ⟨rfl, below_set hb2 hg2 (Nat.le_refl _) hb2.size⟩
  · have HOK := Lib.hid hok
    clear hok
    go_enter Tryd.func37, Tryd.ntmps37
    go_wp2_with fail
    refine (vm_May l cA n cc true _ B hTA hcA (by simp; omega) hn (by simp; exact HOK.out)).mono ?_
    rintro e w1 ⟨rfl, hb1⟩
    have HB1 := Lib.hid (bx0.below hb1 (by simp))
    go_wp2_with (refine store_box rfl rfl 69 (.tmp 4) (.tmp 14) rfl w.heap.size C0 rfl (congrArg Value.agg HZ.out.symm) 69 C0 (by have := HB1.out; exact this) (by rw [HL0.out]; exact HIN.out) rfl HO0.out ?_; intro w2 HG2 hg2)
    refine bodyPost_ret (results_row_tmp rfl _ _ w.heap.size 69 C0.toArray (0, 0) _ rfl HG2.out Tryd.underlying69 rfl (by rw [List.size_toArray, HL0.out]; exact HIN.out)) rfl ?_
    have hb2 := hA.trans (hb1.mono (by simp))
    exact ⟨rfl, below_set hb2 hg2 (Nat.le_refl _) hb2.size⟩

/-- What the beginning of a call leaves: its code lies in a row of its own. -/
def BgPost (l : List Ins) (ar : List Int) (n : Nat) (w : World) (e : Ending) (w' : World) : Prop :=
  ∃ cA cc, e = .returned (.tuple #[.agg (thC (.slice cA n cc) 0 (st0 ar []).r (.slice none 0 0)).toArray, .int .i64 0]) ∧ RO w' w'.heap.size cA n l ∧ (0 < n → ∀ g q, cA = some ⟨g, q, none⟩ → w.heap.size ≤ g) ∧ Below w.heap.size w w'

set_option maxRecDepth 100000 in
set_option maxHeartbeats 4000000 in
theorem vm_Begin (w : World) (hT : Tab w) (l : List Ins) (ar : List Int) (cA A : Option Addr) (n cc m c B : Nat) (hc : RO w B cA n l) (hr : RI w B .i64 A m ar) (hB : B ≤ w.heap.size) (hok : okC l) (hm : m ≤ 8) :
    Calls Tryd.prog 37 #[.slice cA n cc, .slice A m c] w (BgPost l ar n w) := by
  have HL := Lib.hid hr.len
  have hn : n ≤ 200 := by have := hok.1; have := hc.len; omega
  have h0 : Below w.heap.size w w := Below.refl _ _
  have bx0 : Box (w.alloc (.cells thZ.toArray 69)) w.heap.size 69 thZ := Box.new w _ _
  have l0 : thZ.length = 27 := thC_len
  have o0 : ∀ v ∈ thZ, v.oneCell' = true := thC_one rfl rfl
  have hin : (Tryd.prog.info? 69).map (·.size) = some 27 := by kernel_rfl
  have hA := h0.alloc (Nat.le_refl _) (Obj.cells thZ.toArray 69)
  have hTA := hT.below hA hT.lt
  have hcA := hc.below (hA.mono hB)
  obtain ⟨C0, hC0⟩ : ∃ C0, C0 = thZ := ⟨_, rfl⟩
  have hZ := thZ_arr
  rw [← hC0] at bx0 l0 o0 hA hTA hcA hZ
  rw [hZ] at hA hTA hcA bx0
  have HL0 := Lib.hid l0
  have HO0 := Lib.hid o0
  have HIN := Lib.hid hin
  have HZ := Lib.hid hZ
  have HOK := Lib.hid hok
  clear l0 o0 hin hC0 hZ hok
  go_enter Tryd.func37, Tryd.ntmps37
  go_wp2_with fail
  refine (vm_May l cA n cc true _ B hTA hcA (by simp; omega) (by omega) (by simp; exact HOK.out)).mono ?_
  rintro e w1 ⟨rfl, hb1⟩
  have HB1 := Lib.hid (bx0.below hb1 (by simp))
  have hb01 := hA.trans (hb1.mono (by simp))
  have hs1 : w.heap.size + 1 ≤ w1.heap.size := by have := hb1.size; simp at this; omega
  go_wp2_with fail
  refine (slices_CloneO l cA n cc B w1 (hc.below (hb01.mono hB)) (by omega) hn).mono ?_
  rintro e w2 ⟨v, rfl, hown, hb2⟩
  obtain ⟨cA1, cc1, rfl, hlc⟩ := own_form hown
  have HROW := Lib.hid hown
  have hb02 : Below w.heap.size w w2 := hb01.trans (hb2.mono (by omega))
  have HBX := Lib.hid (HB1.out.below hb2 (by omega))
  have hs2 := hb2.size
  obtain ⟨C1, hC1⟩ : ∃ C1, C1 = thC (.slice cA1 n cc1) 0 (fun _ => 0) (.slice none 0 0) := ⟨_, rfl⟩
  obtain ⟨C2, hC2⟩ : ∃ C2, C2 = thC (.slice cA1 n cc1) 0 (st0 ar []).r (.slice none 0 0) := ⟨_, rfl⟩
  have HS := Lib.hid (show splice C1 2 (ar.map (Value.int .i64)) = C2 by rw [hC1, hC2]; exact thC_splice _ _ _ _ (by rw [HL.out]; omega))
  have HL1 := Lib.hid (show C1.length = 27 by rw [hC1]; exact thC_len)
  have HL2 := Lib.hid (show C2.length = 27 by rw [hC2]; exact thC_len)
  have HO1 := Lib.hid (show ∀ v ∈ C1, v.oneCell' = true by rw [hC1]; exact thC_one rfl rfl)
  have HO2 := Lib.hid (show ∀ v ∈ C2, v.oneCell' = true by rw [hC2]; exact thC_one rfl rfl)
  have HE1 := Lib.hid (show C1.toArray = #[Value.slice cA1 n cc1, .int .i64 0, .int .i64 0, .int .i64 0, .int .i64 0, .int .i64 0, .int .i64 0, .int .i64 0, .int .i64 0, .int .i64 0, .int .i64 0, .int .i64 0, .int .i64 0, .int .i64 0, .int .i64 0, .int .i64 0, .int .i64 0, .int .i64 0, .int .i64 0, .int .i64 0, .int .i64 0, .int .i64 0, .int .i64 0, .int .i64 0, .int .i64 0, .int .i64 0, .slice none 0 0] by rw [hC1]; exact thA_zero _ _)
  have HC2 := Lib.hid hC2
  have HB2 := Lib.hid (show Box (w2.alloc (.cells C0.toArray 69)) w2.heap.size 69 C0 from Box.new _ _ _)
  have HPOS := Lib.hid (show ∀ w3, Below w2.heap.size w2 w3 → 0 < (ar.map (Value.int .i64)).length → ∃ ad, A = some ad ∧ ∀ j v, (ar.map (Value.int .i64))[j]? = some v → w3.cell? (ad.add j) = some v from by
    intro w3 hw3 hl
    have hm0 : 0 < m := by rw [List.length_map, HL.out] at hl; exact hl
    obtain ⟨bb, oo, rfl, hlt, hcl⟩ := ((hr.below (hb02.mono hB)).below (hw3.mono (by omega))).at_ hm0
    refine ⟨_, rfl, fun j v hj => ?_⟩
    have hjl : j < m := by have := (List.getElem?_eq_some_iff.1 hj).1; rw [List.length_map, HL.out] at this; exact this
    rw [Addr.add_lit, hcl j (by omega)]
    exact hj)
  clear hC1 hC2 hown
  go_wp2_with (first
    | (refine store_box rfl rfl 69 (.tmp 6) (.tmp 17) rfl w2.heap.size C1 rfl (congrArg Value.agg HE1.out.symm) 69 C0 (by have := HB2.out; rw [HZ.out] at this; exact this) (by rw [HL1.out]; exact HIN.out) (by rw [HL0.out, HL1.out]) HO1.out ?_; intro w3 HG3 hg3; have hB3 : Below w2.heap.size w2 w3 := below_set ((Below.refl _ _).alloc (Nat.le_refl _) _) hg3 (Nat.le_refl _) (by simp))
    | (refine wpList_copy_splice rfl _ _ 24 24 rfl 3 Tryd.underlying24 (by kernel_rfl) _ _ _ _ _ _ rfl rfl w2.heap.size 2 C1 69 HG3.out (ar.map (Value.int .i64)) (by rw [List.length_map, HL.out]; exact (Nat.min_eq_left (by omega)).symm) (fun hl => ⟨rfl, HPOS.out w3 hB3 hl⟩) (by rw [List.length_map, HL.out, HL1.out]; omega) (one_ints _ _) w2.heap.size w2 hB3 (Nat.le_refl _) ?_; intro w4 HG4 hB4)
    | (refine wpList_load_row rfl 69 _ rfl w2.heap.size rfl 69 C2.toArray (0, 0) _ (by rw [← HS.out]; exact HG4.out) Tryd.underlying69 rfl (by rw [List.size_toArray, HL2.out]; exact HIN.out) ?_)
    | (refine store_box rfl rfl 69 (.tmp 4) (.tmp 22) rfl w.heap.size C2 rfl rfl 69 C0 (HBX.out.below hB4 (by omega)) (by rw [HL2.out]; exact HIN.out) (by rw [HL0.out, HL2.out]) HO2.out ?_; intro w5 HG5 hg5))
  refine bodyPost_ret (results_row_tmp rfl _ _ w.heap.size 69 C2.toArray (0, 0) _ rfl HG5.out Tryd.underlying69 rfl (by rw [List.size_toArray, HL2.out]; exact HIN.out)) rfl ?_
  have hb4 : Below w.heap.size w w4 := hb02.trans (hB4.mono (by omega))
  have hb5 : Below w.heap.size w w5 := below_set hb4 hg5 (Nat.le_refl _) hb4.size
  refine ⟨cA1, cc1, by rw [HC2.out]; rfl, ?_, ?_, hb5⟩
  · have h1 : w4.ownsRow w1.heap.size 37 5 (.slice cA1 n cc1) n (cellsO l) := own_below HROW.out hB4
    have h2 : w5.ownsRow w1.heap.size 37 5 (.slice cA1 n cc1) n (cellsO l) := by
      refine h1.kept hg5 ?_
      cases hv : (Value.slice cA1 n cc1).ownBlock with
      | none => exact .inl rfl
      | some k =>
        refine .inr fun he => ?_
        have := (h1.lt _ hv).1
        injection he with he
        omega
    exact Rd.of_own h2
  · intro _ g q hA
    have := (HROW.out.lt g (by rw [hA]; rfl)).1
    omega
end Go.Proofs.YtjihopbapnfppaaDoor
