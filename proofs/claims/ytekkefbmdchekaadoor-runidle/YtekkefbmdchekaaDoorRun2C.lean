/- What run.Play asks before it executes. No statement of the seat is proved here; no condition. -/
import Derived.Test.YtekkefbmdchekaaDoorRun1
set_option linter.unusedSimpArgs false
set_option linter.unusedVariables false
namespace Go.Proofs.YtekkefbmdchekaaDoor
open Go.RowKit Go.Ord Go.Baro

/-- What is wrong with a machine and its schedule. -/
def PcR (m : Mc) (s : List Int) (E : Int) : Prop := (¬ okMc m ∧ E = 4) ∨ (okMc m ∧ 6000 < s.length ∧ E = 1) ∨ (okMc m ∧ s.length ≤ 6000 ∧ (∃ x ∈ s, x < 0 ∨ (m.ts.length : Int) ≤ x) ∧ E = 2) ∨ (okMc m ∧ s.length ≤ 6000 ∧ (∀ x ∈ s, 0 ≤ x ∧ x < m.ts.length) ∧ E = 0)

set_option maxRecDepth 100000 in
set_option maxHeartbeats 2000000 in
theorem run_check (w : World) (hT : Tab w) (Aw : Option Addr) (nw cw : Nat) (Ac : Option Addr) (nc cc : Nat) (At : Option Addr) (nt ct : Nat) (m : Mc) (As : Option Addr) (ns cs : Nat) (s : List Int) (E : Int) (hm : InM w Aw nw cw Ac nc cc At nt ct m) (hs : RI w w.heap.size .i64 As ns s) (hn : ns ≤ 140737488355328) (hE : PcR m s E) :
    Calls Tryd.prog 45 #[.agg #[.slice Aw nw cw, .slice Ac nc cc, .slice At nt ct], .slice As ns cs] w fun e w' => e = .returned (.int .i64 E) ∧ Below w.heap.size w w' := by
  have LS := Lib.hid hs.len
  have HM := Lib.hid hm
  have HT := Lib.hid hT
  have LT := Lib.hid hm.ts.len
  have h0 : Below w.heap.size w w := Below.refl _ _
  have hA := h0.alloc (Nat.le_refl _) (Obj.cells #[.slice Aw nw cw, .slice Ac nc cc, .slice At nt ct] 45)
  have bX := Box.newAt w 45 [.slice Aw nw cw, .slice Ac nc cc, .slice At nt ct] w.heap.size rfl
  have hmA : InM (w.alloc (Obj.cells #[.slice Aw nw cw, .slice Ac nc cc, .slice At nt ct] 45)) Aw nw cw Ac nc cc At nt ct m := hm.below hA
  have HMA := Lib.hid hmA
  have HTA := Lib.hid (hT.below hA hT.lt)
  clear hm hmA hT
  rcases hE with ⟨hno, rfl⟩ | ⟨hok, hbig, rfl⟩ | hR
  · have HNO := Lib.hid hno
    clear hno
    go_enter Tryd.func45, Tryd.ntmps45
    go_wp2_with fail
    refine (run_May _ HTA.out Aw nw cw Ac nc cc At nt ct m false HMA.out ⟨(fun h => nomatch h), fun h => absurd h HNO.out⟩).mono ?_
    rintro e w1 ⟨rfl, hb1⟩
    go_wp2
    go_ret
    exact ⟨rfl, hA.trans (hb1.mono (by simp))⟩
  · have HOK := Lib.hid hok
    have hbn : 6000 < ns := by rw [LS.out] at hbig; exact hbig
    clear hok hbig
    go_enter Tryd.func45, Tryd.ntmps45
    go_wp2_with fail
    refine (run_May _ HTA.out Aw nw cw Ac nc cc At nt ct m true HMA.out ⟨fun _ => HOK.out, fun _ => rfl⟩).mono ?_
    rintro e w1 ⟨rfl, hb1⟩
    go_wp2
    go_ret
    exact ⟨rfl, hA.trans (hb1.mono (by simp))⟩
  have hok : okMc m := by rcases hR with hR | hR <;> exact hR.1
  have hsl : ns ≤ 6000 := by rw [← LS.out]; rcases hR with hR | hR <;> exact hR.2.1
  have HOK := Lib.hid hok
  have HR := Lib.hid hR
  clear hok hR
  go_enter Tryd.func45, Tryd.ntmps45
  go_wp2_with fail
  refine (run_May _ HTA.out Aw nw cw Ac nc cc At nt ct m true HMA.out ⟨fun _ => HOK.out, fun _ => rfl⟩).mono ?_
  rintro e w1 ⟨rfl, hb1⟩
  have bX1 := bX.below hb1 (by simp)
  have hb2 := hA.trans (hb1.mono (by simp))
  have hs1 := hb2.size
  have lX1 := bX1.lt
  have x2 : w1.cell? ⟨w.heap.size, 2, none⟩ = _ := bX1.cell 2
  simp only [List.getElem?_cons_zero, List.getElem?_cons_succ] at x2
  have hnt4 : nt ≤ 4 := by have := HOK.out.2.2.1; rw [LT.out] at this; exact this
  go_wp2
  go_loopw [15] (fun i wr => ∃ j : Nat, j ≤ ns ∧ i = .int .i64 j ∧ Hid (∀ x ∈ s.take j, 0 ≤ x ∧ x < (nt : Int)) ∧ wr = w1) (fun i _ => ns - (intOf i).toNat)
  case atStart => exact ⟨0, Nat.zero_le _, rfl, by intro c h; simp at h, rfl⟩
  case round =>
    obtain ⟨j, hj, rfl, HS, rfl⟩ := hrel
    by_cases hjm : j < ns
    · obtain ⟨b, o, x, rfl, hbB, hcell, HX, hmem⟩ := (hs.below hb2).val hjm
      have hbad : x < 0 ∨ (nt : Int) ≤ x → E = 2 := by
        intro hx
        rcases HR.out with ⟨_, _, _, h⟩ | ⟨_, _, h, _⟩
        · exact h
        · have := h x hmem; rw [LT.out] at this; omega
      clear hmem
      by_cases c1 : x < 0
      · obtain rfl := hbad (.inl c1)
        clear hbad
        go_wp2
        go_ret
        exact ⟨rfl, hb2⟩
      by_cases c2 : (nt : Int) ≤ x
      · obtain rfl := hbad (.inr c2)
        clear hbad
        go_wp2
        go_ret
        exact ⟨rfl, hb2⟩
      clear hbad
      go_wp2
      go_roundw
      case rel =>
        refine ⟨j + 1, by omega, by go_num, ?_, by first | rfl | trivial⟩
        intro d hd
        rw [at_take HX.out] at hd
        rcases List.mem_append.1 hd with hd | hd
        · exact HS.out d hd
        · rw [List.mem_singleton.1 hd]; omega
      case measure => simp [intOf]; omega
    · obtain rfl : ns = j := by omega
      have HS2 := HS.out
      rw [List.take_of_length_le (by rw [LS.out]; omega)] at HS2
      have HS := Lib.hid HS2
      clear HS2
      have hgood : E = 0 := by
        rcases HR.out with ⟨_, _, ⟨x, hx, hx2⟩, _⟩ | ⟨_, _, _, h⟩
        · have := HS.out x hx; rw [LT.out] at hx2; omega
        · exact h
      subst hgood
      go_wp2
      go_ret
      exact ⟨rfl, hb2⟩
end Go.Proofs.YtekkefbmdchekaaDoor
