/- Which codes package vm takes as valid: the whole code, and what is checked ahead of a run. No statement of the seat is proved here; no condition. -/
import Derived.Test.YtjihopbapnfppaaDoorVm1
set_option linter.unusedSimpArgs false
set_option linter.unusedVariables false
namespace Go.Proofs.YtjihopbapnfppaaDoor
open Go.RowKit Go.Ord Go.Baro

set_option maxRecDepth 100000 in
set_option maxHeartbeats 2000000 in
theorem vm_May (l : List Ins) (A : Option Addr) (n c : Nat) (r : Bool) (w : World) (B : Nat) (hT : Tab w) (hb : RO w B A n l) (hB : B ≤ w.heap.size) (hn : n ≤ 9223372036854775807) (hr : r = true ↔ okC l) :
    Calls Tryd.prog 15 #[.slice A n c] w fun e w' => e = .returned (.bool r) ∧ Below w.heap.size w w' := by
  have HL := Lib.hid hb.len
  have H := Lib.hid hr
  clear hr
  have h0 : Below w.heap.size w w := Below.refl _ _
  have hlt := hT.lt
  by_cases hn2 : n ≤ 200
  · go_enter Tryd.func15, Tryd.ntmps15
    go_wp2
    go_loopw [10] (fun i wr => ∃ j : Nat, j ≤ n ∧ i = .int .i64 j ∧ Hid (∀ o ∈ l.take j, okI n o) ∧ Below w.heap.size w wr) (fun i _ => n - (intOf i).toNat)
    case atStart => exact ⟨0, Nat.zero_le _, rfl, by simp [Hid], h0⟩
    case round =>
      obtain ⟨j, hj, rfl, HC, hbel⟩ := hrel
      have hsz := hbel.size
      by_cases hjn : j < n
      · obtain ⟨b, o, k, x, y, z, u, rfl, hbB, c0, c1, c2, c3, c4, HX, hmem⟩ := (hb.below (hbel.mono hB)).val hjn
        have hbs : b < wr.heap.size := by omega
        have hal := hbel.alloc hsz (Obj.cells #[.int .i64 k, .int .i64 x, .int .i64 y, .int .i64 z, .int .i64 u] 37)
        by_cases hok : okI n ⟨k, x, y, z, u⟩
        · have HOK := Lib.hid hok
          clear hok
          go_wp2_with fail
          refine (vm_valid k x y z u n true _ (hT.below hal hlt) (by simp; exact HOK.out) hn2).mono ?_
          rintro e w1 ⟨rfl, hb1⟩
          go_wp2
          go_roundw
          case rel =>
            refine ⟨j + 1, by omega, by go_num, ?_, hal.trans (hb1.mono (by simp; omega))⟩
            intro q hq
            rw [at_take HX.out] at hq
            rcases List.mem_append.1 hq with hq | hq
            · exact HC.out q hq
            · rw [List.mem_singleton.1 hq]; exact HOK.out
          case measure => simp [intOf]; omega
        · have HOK := Lib.hid hok
          clear hok
          go_wp2_with fail
          refine (vm_valid k x y z u n false _ (hT.below hal hlt) (by simp; exact HOK.out) hn2).mono ?_
          rintro e w1 ⟨rfl, hb1⟩
          go_wp2
          go_ret
          refine ⟨ret_bool ?_, hal.trans (hb1.mono (by simp; omega))⟩
          cases r with
          | false => rfl
          | true =>
            have := (H.out.1 rfl).2 _ hmem
            rw [HL.out] at this
            exact absurd this HOK.out
      · go_wp2
        go_ret
        refine ⟨ret_bool ?_, hbel⟩
        refine (H.out.2 ⟨by rw [HL.out]; exact hn2, fun o ho => ?_⟩).symm
        have he := HC.out
        rw [List.take_of_length_le (by rw [HL.out]; omega)] at he
        rw [HL.out]
        exact he o ho
  · go_enter Tryd.func15, Tryd.ntmps15
    go_wp2
    go_ret
    refine ⟨ret_bool ?_, h0⟩
    cases r with
    | false => rfl
    | true =>
      have := (H.out.1 rfl).1
      rw [HL.out] at this
      omega

set_option maxHeartbeats 2000000 in
theorem vm_check (limit E : Int) (A : Option Addr) (n c : Nat) (w : World) (hn : n ≤ 140737488355328) (hE : E = if 200 < n then 1 else if limit < 0 ∨ 6000 < limit then 2 else 0) :
    Calls Tryd.prog 38 #[.slice A n c, .int .i64 limit] w fun e w' => e = .returned (.int .i64 E) ∧ w' = w := by
  by_cases h2 : 200 < n
  · rw [if_pos h2] at hE
    subst hE
    go_enter Tryd.func38, Tryd.ntmps38
    go_wp2
    go_ret
    exact ⟨rfl, rfl⟩
  · rw [if_neg h2] at hE
    by_cases h3 : limit < 0
    · rw [if_pos (.inl h3)] at hE
      subst hE
      go_enter Tryd.func38, Tryd.ntmps38
      go_wp2
      go_ret
      exact ⟨rfl, rfl⟩
    · by_cases h4 : 6000 < limit
      · rw [if_pos (.inr h4)] at hE
        subst hE
        go_enter Tryd.func38, Tryd.ntmps38
        go_wp2
        go_ret
        exact ⟨rfl, rfl⟩
      · rw [if_neg (by omega)] at hE
        subst hE
        go_enter Tryd.func38, Tryd.ntmps38
        go_wp2
        go_ret
        exact ⟨rfl, rfl⟩

set_option maxHeartbeats 2000000 in
theorem vm_compute (k b c : Int) (w : World) (hk : 3 ≤ k ∧ k ≤ 9) (hc : inW c) (hb : inW b) :
    Calls Tryd.prog 59 #[.int .i64 k, .int .i64 b, .int .i64 c] w fun e w' => e = .returned (.int .i64 (cmpV k b c)) ∧ w = w' := by
  have HC := Lib.hid hc
  have HB := Lib.hid hb
  clear hc hb
  rcases (by omega : k = 3 ∨ k = 4 ∨ k = 5 ∨ k = 6 ∨ k = 7 ∨ k = 8 ∨ k = 9) with rfl | rfl | rfl | rfl | rfl | rfl | rfl
  · go_enter Tryd.func59, Tryd.ntmps59
    go_wp2
    go_ret
    exact ⟨rfl, rfl⟩
  · go_enter Tryd.func59, Tryd.ntmps59
    go_wp2
    go_ret
    exact ⟨rfl, rfl⟩
  · go_enter Tryd.func59, Tryd.ntmps59
    go_wp2
    go_ret
    exact ⟨rfl, rfl⟩
  · by_cases h : c = 0
    · subst h
      go_enter Tryd.func59, Tryd.ntmps59
      go_wp2
      go_ret
      exact ⟨rfl, rfl⟩
    · have h1 : (c == 0) = false := by simp [h]
      have h2 : (c != 0) = true := by simp [h]
      go_enter Tryd.func59, Tryd.ntmps59
      go_wp2
      go_ret
      exact ⟨ret_int (by simp [cmpV, h]), rfl⟩
  · by_cases h : c = 0
    · subst h
      go_enter Tryd.func59, Tryd.ntmps59
      go_wp2
      go_ret
      exact ⟨rfl, rfl⟩
    · have h1 : (c == 0) = false := by simp [h]
      have h2 : (c != 0) = true := by simp [h]
      have HW := Lib.hid (tmod_in (b := b) h HC.out)
      go_enter Tryd.func59, Tryd.ntmps59
      go_wp2
      go_ret
      refine ⟨ret_int ?_, rfl⟩
      have := HW.out
      unfold inW at this
      simp [cmpV, h]
      first | done | exact IntWalk.wrap64_in _ this
  · by_cases h : b = c
    · subst h
      go_enter Tryd.func59, Tryd.ntmps59
      go_wp2_with fail
      refine (vm_truth true _).mono ?_
      rintro e w1 ⟨rfl, rfl⟩
      go_wp2
      go_ret
      exact ⟨ret_int (by simp [cmpV]), rfl⟩
    · have h1 : (b == c) = false := by simp [h]
      go_enter Tryd.func59, Tryd.ntmps59
      go_wp2_with fail
      refine (vm_truth false _).mono ?_
      rintro e w1 ⟨rfl, rfl⟩
      go_wp2
      go_ret
      exact ⟨ret_int (by simp [cmpV, h]), rfl⟩
  · by_cases h : b < c
    · skip
      go_enter Tryd.func59, Tryd.ntmps59
      go_wp2_with fail
      refine (vm_truth true _).mono ?_
      rintro e w1 ⟨rfl, rfl⟩
      go_wp2
      go_ret
      exact ⟨ret_int (by simp [cmpV, h]), rfl⟩
    · skip
      go_enter Tryd.func59, Tryd.ntmps59
      go_wp2_with fail
      refine (vm_truth false _).mono ?_
      rintro e w1 ⟨rfl, rfl⟩
      go_wp2
      go_ret
      exact ⟨ret_int (by simp [cmpV, h]), rfl⟩
end Go.Proofs.YtjihopbapnfppaaDoor
