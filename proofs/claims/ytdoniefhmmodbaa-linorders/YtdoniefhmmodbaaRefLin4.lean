/- The document's answer to lin.Check. No statement of the seat is proved here; no condition. -/
import Derived.Test.YtdoniefhmmodbaaRefLin3
set_option linter.unusedSimpArgs false
set_option linter.unusedVariables false
namespace Go.Proofs.Ytdoniefhmmodbaa
open Go.RowKit Go.Ord Go.Baro

set_option maxRecDepth 100000 in
set_option maxHeartbeats 2000000 in
theorem ref_LinCheck (w : World) (A : Option Addr) (n c : Nat) (l : List Ac) (k first : Int) (r : Bool) (E : Int) (h : RA w w.heap.size A n l) (hn : n ≤ 9223372036854775807) (hlc : n ≤ c) (hr : LcR k first l r E) :
    Calls Try.prog 13 #[.int .i64 k, .int .i64 first, .slice A n c] w fun e w' => e = .returned (.tuple #[.bool r, .int .i64 E]) ∧ Below w.heap.size w w' := by
  have HL := Lib.hid h.len
  rcases hr with ⟨hno, rfl, rfl⟩ | ⟨hok, hr, rfl⟩
  · have HNO := Lib.hid hno
    clear hno
    go_enter Try.func13, Try.ntmps13
    go_wp2_with fail
    refine (ref_HistoryMay w A n c w.heap.size l k false h (Nat.le_refl _) hn (by simp; exact HNO.out)).mono ?_
    rintro e w1 ⟨rfl, hb1⟩
    go_wp2
    go_ret2
    exact ⟨rfl, hb1⟩
  · have HOK := Lib.hid hok
    have HR := Lib.hid hr
    have hk := hok.1
    have h9 : n ≤ 9 := by have := hok.2.1; rw [HL.out] at this; exact this
    clear hok hr
    by_cases h3 : k < 3
    · have hh : has0 k first = [first] := by unfold has0; rw [if_pos h3]
      rw [hh] at HR
      rcases (by omega : k = 1 ∨ k = 2) with rfl | rfl
      all_goals (
        go_enter Try.func13, Try.ntmps13
        go_wp2_with fail
        refine (ref_HistoryMay w A n c w.heap.size l _ true h (Nat.le_refl _) hn (by simp; exact HOK.out)).mono ?_
        rintro e w1 ⟨rfl, hb1⟩
        have hs1 := hb1.size
        have hlit := Lib.hid (RI.more (RI_litL w1 3 .i64 [first] 1 w1.heap.size rfl rfl) (B' := (w1.alloc (.cells #[.int .i64 first] 3)).heap.size) (by simp))
        have hb2 := hb1.alloc hs1 (Obj.cells #[.int .i64 first] 3)
        have hra2 := Lib.hid ((h.below hb2).more hb2.size)
        go_wp2_with fail
        refine (ref_ordered n _ _ _ 1 1 [first] A n c l r rfl h9 (by omega) (Nat.le_refl _) hlc hk (fun _ => rfl) hlit.out hra2.out HR.out).mono ?_
        rintro e w3 ⟨rfl, hb3⟩
        go_wp2
        go_ret2
        exact ⟨rfl, hb2.trans (hb3.mono hb2.size)⟩)
    · have hh : has0 k first = [] := by unfold has0; rw [if_neg h3]
      rw [hh] at HR
      have e1 : (k == 1) = false := by simp; omega
      have e2 : (k == 2) = false := by simp; omega
      go_enter Try.func13, Try.ntmps13
      go_wp2_with fail
      refine (ref_HistoryMay w A n c w.heap.size l _ true h (Nat.le_refl _) hn (by simp; exact HOK.out)).mono ?_
      rintro e w1 ⟨rfl, hb1⟩
      have hs1 := hb1.size
      have hra2 := Lib.hid ((h.below hb1).more hs1)
      go_wp2_with fail
      refine (ref_ordered n w1 k none 0 0 [] A n c l r rfl h9 (by omega) (Nat.le_refl _) hlc hk (fun h => by omega) (RI.nil _ _ _ _) hra2.out HR.out).mono ?_
      rintro e w3 ⟨rfl, hb3⟩
      go_wp2
      go_ret2
      exact ⟨rfl, hb1.trans (hb3.mono hs1)⟩
end Go.Proofs.Ytdoniefhmmodbaa
