/- What lin.Check does. No statement of the seat is proved here; no condition. -/
import Derived.Test.YtdoniefhmmodbaaLinCom
set_option linter.unusedSimpArgs false
set_option linter.unusedVariables false
namespace Go.Proofs.Ytdoniefhmmodbaa
open Go.RowKit Go.Ord Go.Baro Go.MapKept

set_option maxHeartbeats 1000000 in
theorem lin_initial (w : World) (k first : Int) (hk : 1 ≤ k ∧ k ≤ 4) (hf : inW first) : Calls Try.prog 22 #[.int .i64 k, .int .i64 first] w fun e w' => (∃ v, e = .returned v ∧ StV w' k v (has0 k first)) ∧ Below w.heap.size w w' := by
  have h0 := Below.refl w.heap.size w
  have HF := Lib.hid hf
  clear hf
  by_cases k1 : k = 1
  · subst k1
    go_enter Try.func22, Try.ntmps22
    go_wp2
    go_ret
    exact ⟨⟨_, rfl, .inl ⟨rfl, first, rfl, rfl, HF.out⟩⟩, h0⟩
  by_cases k2 : k = 2
  · subst k2
    go_enter Try.func22, Try.ntmps22
    go_wp2
    go_ret
    exact ⟨⟨_, rfl, .inr (.inl ⟨rfl, first, rfl, rfl, HF.out⟩)⟩, h0⟩
  by_cases k3 : k = 3
  · subst k3
    go_enter Try.func22, Try.ntmps22
    go_wp2
    go_ret
    exact ⟨⟨_, rfl, .inr (.inr (.inl ⟨rfl, none, 0, 0, rfl, Nat.le_refl _, by omega, fun _ => rfl, QR.nil _ _⟩))⟩, h0⟩
  · obtain rfl : k = 4 := by omega
    go_enter Try.func22, Try.ntmps22
    go_wp2
    go_ret
    exact ⟨⟨_, rfl, .inr (.inr (.inr ⟨rfl, none, 0, 0, rfl, Nat.le_refl _, by omega, fun _ => rfl, QR.nil _ _⟩))⟩, h0⟩
theorem cst9 : cst 9 ≤ 1000000000 := by have := cst_le 9; omega

set_option maxRecDepth 100000 in
set_option maxHeartbeats 2000000 in
theorem lin_Check : LinCheckSpec := by
  intro w A n c l k first r E h hn hlc hi hf hr
  have h0 := Below.refl w.heap.size w
  obtain ⟨rm, hrm⟩ := bool_of (okL k l)
  have HM := Lib.hid (lin_May w A n c l k rm h hn hlc hi hrm)
  have HRM := Lib.hid hrm
  have HR := Lib.hid hr
  have HL := Lib.hid h
  have HI := Lib.hid hi
  have HF := Lib.hid hf
  clear hrm hr h hi hf
  go_enter Try.func12, Try.ntmps12
  go_wp2_with fail
  refine HM.out.mono ?_
  rintro e w1 ⟨rfl, hb1⟩
  cases rm with
  | false =>
    have hno : ¬ okL k l := fun h => by have := HRM.out.2 h; cases this
    have HE : Hid (r = false ∧ E = 4) := by
      show r = false ∧ E = 4
      rcases HR.out with ⟨_, h1, h2⟩ | ⟨h1, _⟩
      · exact ⟨h1, h2⟩
      · exact absurd h1 hno
    obtain ⟨rfl, rfl⟩ := HE.out
    go_wp2
    go_ret2
    exact ⟨rfl, hb1⟩
  | true =>
    have hok : okL k l := HRM.out.1 rfl
    have hE : (r = true ↔ Lin k (has0 k first) l) ∧ E = 0 := by
      rcases HR.out with ⟨h1, _⟩ | ⟨_, h1, h2⟩
      · exact absurd hok h1
      · exact ⟨h1, h2⟩
    obtain ⟨hE1, rfl⟩ := hE
    have HOK := Lib.hid hok
    have HE := Lib.hid hE1
    have hk4 := hok.1
    have hn9 : n ≤ 9 := by have := hok.2.1; rw [HL.out.len] at this; exact this
    clear hok hE1
    have hmm := @run_makeMap Try.prog
    have hA := ((Below.refl w1.heap.size w1).alloc (Nat.le_refl _) (Obj.map #[] 0)).alloc (by simp) (Obj.cells #[.slice A n c, .map (some w1.heap.size)] 44)
    have hMap := VM.made (w := w1) (B := w.heap.size) hb1.size k (fun _ _ => False)
    have hA2 := (Below.refl (w1.alloc (Obj.map #[] 0)).heap.size (w1.alloc (Obj.map #[] 0))).alloc (Nat.le_refl _) (Obj.cells #[.slice A n c, .map (some w1.heap.size)] 44)
    have HM2 := Lib.hid (hMap.below hA2)
    have bS := Box.newAt (w1.alloc (Obj.map #[] 0)) 44 [.slice A n c, .map (some w1.heap.size)] (w1.heap.size + 1) (by simp)
    have hB2 := hb1.trans (hA.mono hb1.size)
    have HB2 := Lib.hid hB2
    have HBS := Lib.hid bS
    clear hMap hA2 bS hB2 hb1
    go_wp2_with fail
    refine (lin_initial _ k first hk4 HF.out).mono ?_
    rintro e w3 ⟨⟨v, rfl, hv⟩, hb3⟩
    have HV := Lib.hid hv
    have HM3 := Lib.hid (HM2.out.below hb3)
    have hB3 := HB2.out.trans (hb3.mono HB2.out.size)
    have bS3 := box_kp HBS.out (Kp.below hb3)
    clear hv hb3
    go_wp2_with fail
    refine (lin_completes HOK.out HI.out hn9 HL.out.len l.length w3 0 0 (fun _ _ => False) v (has0 k first) r (by rw [lft_all]) bS3 (HL.out.below hB3) HV.out HM3.out ?_ ?_ (by omega) (fun _ _ h => h.elim) (by rw [lft_all]; exact HE.out)).mono ?_
    · have := HOK.out.2.1
      unfold has0
      split <;> simp <;> omega
    · have h1 := cst_mono HOK.out.2.1
      have := cst9
      omega
    rintro e w4 ⟨rfl, _, _, hb4⟩
    have hB4 := hB3.trans hb4
    go_wp2
    go_ret2
    exact ⟨rfl, hB4⟩
end Go.Proofs.Ytdoniefhmmodbaa
