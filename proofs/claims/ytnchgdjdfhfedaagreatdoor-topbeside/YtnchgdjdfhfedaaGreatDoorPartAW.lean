/- Of this claim's own texts these, one behind the other: LinSt2, RefLin3, LinSt3, LinMap, LinSet. No statement of the seat is proved here; no condition but those that stand at the theorems. -/
import Derived.Test.YtnchgdjdfhfedaaGreatDoorPartAV
set_option linter.unusedSimpArgs false
set_option linter.unusedVariables false
namespace Go.Proofs.YtnchgdjdfhfedaaGreatDoor
open Go.RowKit Go.Ord Go.Baro

set_option maxHeartbeats 1000000 in
theorem lin_mixed (w : World) (A : Option Addr) (n c : Nat) (xs : List Int) (h : QR w A n xs) (hn : n ≤ 20) : Calls Tryz.prog 117 #[.slice A n c] w fun e w' => (∃ g, e = .returned (.int .u64 g)) ∧ Below w.heap.size w w' := by
  have h0 := Below.refl w.heap.size w
  have hri := h.ri
  clear h
  go_enter Tryz.func117, Tryz.ntmps117
  go_wp2
  go_loopw [3, 11] (fun s i wr => ∃ (j : Nat) (y : Int), j ≤ n ∧ i = .int .i64 j ∧ s = .int .u64 y ∧ Below w.heap.size w wr) (fun _ i _ => n - (intOf i).toNat)
  case atStart => exact ⟨0, _, Nat.zero_le _, rfl, rfl, h0⟩
  case round =>
    obtain ⟨j, y, hj, rfl, rfl, hbel⟩ := hrel
    by_cases hjm : j < n
    · obtain ⟨b, o, x, rfl, hb, hcell, HX, hmem⟩ := (hri.below hbel).val hjm
      clear hmem
      go_wp2
      go_roundw
      case rel => exact ⟨j + 1, _, by omega, by go_num, rfl, hbel⟩
      case measure => simp [intOf]; omega
    · go_wp2
      go_ret
      exact ⟨⟨_, rfl⟩, hbel⟩
set_option maxHeartbeats 1000000 in
theorem q_digest (w : World) (A : Option Addr) (n c : Nat) (xs : List Int) (h : QR w A n xs) (hn : n ≤ 20) : Calls Tryz.prog 114 #[.slice A n c] w fun e w' => (∃ g, e = .returned (.int .u64 g)) ∧ Below w.heap.size w w' := by
  have HC := Lib.hid (lin_mixed w A n c xs h hn)
  clear h
  go_enter Tryz.func114, Tryz.ntmps114
  go_wp2_with fail
  refine HC.out.mono ?_
  rintro e w1 ⟨⟨g, rfl⟩, hb1⟩
  go_wp2
  go_ret
  exact ⟨⟨_, rfl⟩, hb1⟩
set_option maxHeartbeats 1000000 in
theorem s_digest (w : World) (A : Option Addr) (n c : Nat) (xs : List Int) (h : QR w A n xs) (hn : n ≤ 20) : Calls Tryz.prog 120 #[.slice A n c] w fun e w' => (∃ g, e = .returned (.int .u64 g)) ∧ Below w.heap.size w w' := by
  have HC := Lib.hid (lin_mixed w A n c xs h hn)
  clear h
  go_enter Tryz.func120, Tryz.ntmps120
  go_wp2_with fail
  refine HC.out.mono ?_
  rintro e w1 ⟨⟨g, rfl⟩, hb1⟩
  go_wp2
  go_ret
  exact ⟨⟨_, rfl⟩, hb1⟩
set_option maxHeartbeats 1000000 in
theorem lin_Clip (w : World) (A : Option Addr) (n c : Nat) (hn : n ≤ 20) (hc : n ≤ c) (hA : A = none → c = 0) : Calls Tryz.prog 84 #[.slice A n c] w fun e w' => e = .returned (.slice A n n) ∧ Below w.heap.size w w' := by
  have h0 := Below.refl w.heap.size w
  cases A with
  | none =>
    obtain rfl := hA rfl
    obtain rfl : n = 0 := by omega
    go_enter Tryz.func84, Tryz.ntmps84
    go_wp2
    go_ret
    exact ⟨rfl, h0⟩
  | some ad =>
    clear hA
    obtain ⟨b, o, q⟩ := ad
    go_enter Tryz.func84, Tryz.ntmps84
    go_wp2
    go_ret
    exact ⟨rfl, h0⟩
set_option maxHeartbeats 1000000 in
theorem lin_inserted (w : World) (A : Option Addr) (n c : Nat) (xs : List Int) (x : Int) (h : QR w A n xs) (hn : n ≤ 20) (hc : n ≤ c) (hA : A = none → c = 0) : Calls Tryz.prog 118 #[.slice A n c, .int .i64 x] w fun e w' => (∃ A' c', e = .returned (.slice A' (n + 1) c') ∧ n + 1 ≤ c' ∧ (A' = none → c' = 0) ∧ QR w' A' (n + 1) (xs ++ [x])) ∧ Below w.heap.size w w' := by
  have HC := Lib.hid (lin_Clip w A n c hn hc hA)
  have HRI := Lib.hid h.ri
  have hA0 : A = none → n = 0 := fun h => by have := hA h; omega
  have HA := Lib.hid hA0
  clear h hA0 hA
  go_enter Tryz.func118, Tryz.ntmps118
  go_wp2_with fail
  refine HC.out.mono ?_
  rintro e w1 ⟨rfl, hb1⟩
  have HR1 := Lib.hid ((HRI.out.below hb1).more (B' := w1.heap.size) hb1.size)
  go_wp2_with (at_builtin; go_must (refine app_full eltIntL w1 rfl (.tmp 6) (.tmp 8) rfl A n (xs.map (Value.int .i64)) rfl w1.heap.size HR1.out HA.out (Nat.le_refl _) 1 (by omega) [.int .i64 x] w1.heap.size rfl rfl rfl (by omega) (by omega) ?_); intro v' w2 hown hb2)
  rw [show xs.map (Value.int .i64) ++ [.int .i64 x] = (xs ++ [x]).map (Value.int .i64) by simp] at hown
  obtain ⟨A', c', rfl, hc', hA', hq⟩ := QR.own hown
  have HQ := Lib.hid hq
  have HA' := Lib.hid hA'
  clear hown hq hA'
  go_wp2
  go_ret
  exact ⟨⟨A', c', rfl, hc', HA'.out, HQ.out⟩, hb1.trans (hb2.mono hb1.size)⟩

set_option maxHeartbeats 1000000 in
theorem q_Equal (w : World) (A A' : Option Addr) (n c n' c' : Nat) (xs ys : List Int) (r : Bool) (h : QR w A n xs) (h' : QR w A' n' ys) (hn : n ≤ 20) (hn' : n' ≤ 20) (hr : r = true ↔ xs = ys) :
    Calls Tryz.prog 119 #[.slice A n c, .slice A' n' c'] w fun e w' => e = .returned (.bool r) ∧ Below w.heap.size w w' := by
  have h0 := Below.refl w.heap.size w
  have L1 := Lib.hid h.1
  have L2 := Lib.hid h'.1
  have HR := Lib.hid hr
  have hri := h.ri
  have hri' := h'.ri
  clear h h' hr
  by_cases hnn : n = n'
  · subst hnn
    go_enter Tryz.func119, Tryz.ntmps119
    go_wp2
    go_loopw [13] (fun i wr => ∃ j : Nat, j ≤ n ∧ i = .int .i64 j ∧ Hid (xs.take j = ys.take j) ∧ Below w.heap.size w wr) (fun i _ => n - (intOf i).toNat)
    case atStart => exact ⟨0, Nat.zero_le _, rfl, by show _ = _; simp, h0⟩
    case round =>
      obtain ⟨j, hj, rfl, HE, hbel⟩ := hrel
      by_cases hjm : j < n
      · obtain ⟨b, o, x, rfl, hb, hcell, HX, hmem⟩ := (hri.below hbel).val hjm
        obtain ⟨b', o', y, rfl, hb', hcell', HY, hmem'⟩ := (hri'.below hbel).val hjm
        clear hmem hmem'
        go_wp2
        refine region_two [0, 1, 2, 3, 4, 5, 6, 7, 8] [] (by kernel_rfl) (by kernel_rfl) ?_
        simp only [pick, List.map_cons, List.map_nil, List.getD_cons_zero, List.getD_cons_succ]
        by_cases hxy : x = y
        · subst hxy
          go_wp2
          go_roundw
          case rel =>
            refine ⟨j + 1, by omega, by go_num, ?_, hbel.drew⟩
            show _ = _
            rw [at_take HX.out, at_take HY.out, HE.out]
          case measure => simp [intOf]; omega
        · have hxy2 : (x != y) = true := by simp [hxy]
          have HXY := Lib.hid hxy
          clear hxy
          go_wp2
          go_ret
          refine ⟨?_, hbel.drew⟩
          cases r with
          | false => rfl
          | true =>
            have h1 := HR.out.1 rfl
            subst h1
            have h2 := HX.out
            rw [HY.out] at h2
            injection h2 with h2
            exact absurd h2.symm HXY.out
      · obtain rfl : n = j := by omega
        go_wp2
        go_ret
        refine ⟨ret_bool ?_, hbel⟩
        have h1 := HE.out
        rw [List.take_of_length_le (by rw [L1.out]; omega), List.take_of_length_le (by rw [L2.out]; omega)] at h1
        exact (HR.out.2 h1).symm
  · have HNN := Lib.hid hnn
    have hnn2 : ((n : Int) != (n' : Int)) = true := by simp; omega
    clear hnn
    go_enter Tryz.func119, Tryz.ntmps119
    go_wp2
    go_ret
    refine ⟨?_, h0⟩
    cases r with
    | false => rfl
    | true =>
      have h1 := congrArg List.length (HR.out.1 rfl)
      rw [L1.out, L2.out] at h1
      exact absurd h1 HNN.out
set_option maxHeartbeats 1000000 in
theorem q_same (w : World) (A A' : Option Addr) (n c n' c' : Nat) (xs ys : List Int) (r : Bool) (h : QR w A n xs) (h' : QR w A' n' ys) (hn : n ≤ 20) (hn' : n' ≤ 20) (hr : r = true ↔ ys = xs) :
    Calls Tryz.prog 116 #[.slice A n c, .iface 127 (.slice A' n' c')] w fun e w' => e = .returned (.bool r) ∧ Below w.heap.size w w' := by
  have HC := Lib.hid (q_Equal w A' A n' c' n c ys xs r h' h hn' hn hr)
  clear h h' hr
  have ta : (Instr.typeAssert (.iface 127 (.slice A' n' c')) 108 127 true).run Tryz.prog w = .ok (.tuple #[.slice A' n' c', .bool true]) w := by kernel_rfl
  go_enter Tryz.func116, Tryz.ntmps116
  go_wp2_with fail
  refine HC.out.mono ?_
  rintro e w1 ⟨rfl, hb1⟩
  go_wp2
  go_ret
  exact ⟨rfl, hb1⟩

set_option maxHeartbeats 1000000 in
theorem s_Equal (w : World) (A A' : Option Addr) (n c n' c' : Nat) (xs ys : List Int) (r : Bool) (h : QR w A n xs) (h' : QR w A' n' ys) (hn : n ≤ 20) (hn' : n' ≤ 20) (hr : r = true ↔ xs = ys) :
    Calls Tryz.prog 123 #[.slice A n c, .slice A' n' c'] w fun e w' => e = .returned (.bool r) ∧ Below w.heap.size w w' := by
  have h0 := Below.refl w.heap.size w
  have L1 := Lib.hid h.1
  have L2 := Lib.hid h'.1
  have HR := Lib.hid hr
  have hri := h.ri
  have hri' := h'.ri
  clear h h' hr
  by_cases hnn : n = n'
  · subst hnn
    go_enter Tryz.func123, Tryz.ntmps123
    go_wp2
    go_loopw [13] (fun i wr => ∃ j : Nat, j ≤ n ∧ i = .int .i64 j ∧ Hid (xs.take j = ys.take j) ∧ Below w.heap.size w wr) (fun i _ => n - (intOf i).toNat)
    case atStart => exact ⟨0, Nat.zero_le _, rfl, by show _ = _; simp, h0⟩
    case round =>
      obtain ⟨j, hj, rfl, HE, hbel⟩ := hrel
      by_cases hjm : j < n
      · obtain ⟨b, o, x, rfl, hb, hcell, HX, hmem⟩ := (hri.below hbel).val hjm
        obtain ⟨b', o', y, rfl, hb', hcell', HY, hmem'⟩ := (hri'.below hbel).val hjm
        clear hmem hmem'
        go_wp2
        refine region_two [0, 1, 2, 3, 4, 5, 6, 7, 8] [] (by kernel_rfl) (by kernel_rfl) ?_
        simp only [pick, List.map_cons, List.map_nil, List.getD_cons_zero, List.getD_cons_succ]
        by_cases hxy : x = y
        · subst hxy
          go_wp2
          go_roundw
          case rel =>
            refine ⟨j + 1, by omega, by go_num, ?_, hbel.drew⟩
            show _ = _
            rw [at_take HX.out, at_take HY.out, HE.out]
          case measure => simp [intOf]; omega
        · have hxy2 : (x != y) = true := by simp [hxy]
          have HXY := Lib.hid hxy
          clear hxy
          go_wp2
          go_ret
          refine ⟨?_, hbel.drew⟩
          cases r with
          | false => rfl
          | true =>
            have h1 := HR.out.1 rfl
            subst h1
            have h2 := HX.out
            rw [HY.out] at h2
            injection h2 with h2
            exact absurd h2.symm HXY.out
      · obtain rfl : n = j := by omega
        go_wp2
        go_ret
        refine ⟨ret_bool ?_, hbel⟩
        have h1 := HE.out
        rw [List.take_of_length_le (by rw [L1.out]; omega), List.take_of_length_le (by rw [L2.out]; omega)] at h1
        exact (HR.out.2 h1).symm
  · have HNN := Lib.hid hnn
    have hnn2 : ((n : Int) != (n' : Int)) = true := by simp; omega
    clear hnn
    go_enter Tryz.func123, Tryz.ntmps123
    go_wp2
    go_ret
    refine ⟨?_, h0⟩
    cases r with
    | false => rfl
    | true =>
      have h1 := congrArg List.length (HR.out.1 rfl)
      rw [L1.out, L2.out] at h1
      exact absurd h1 HNN.out
set_option maxHeartbeats 1000000 in
theorem s_same (w : World) (A A' : Option Addr) (n c n' c' : Nat) (xs ys : List Int) (r : Bool) (h : QR w A n xs) (h' : QR w A' n' ys) (hn : n ≤ 20) (hn' : n' ≤ 20) (hr : r = true ↔ ys = xs) :
    Calls Tryz.prog 122 #[.slice A n c, .iface 128 (.slice A' n' c')] w fun e w' => e = .returned (.bool r) ∧ Below w.heap.size w w' := by
  have HC := Lib.hid (s_Equal w A' A n' c' n c ys xs r h' h hn' hn hr)
  clear h h' hr
  have ta : (Instr.typeAssert (.iface 128 (.slice A' n' c')) 108 128 true).run Tryz.prog w = .ok (.tuple #[.slice A' n' c', .bool true]) w := by kernel_rfl
  go_enter Tryz.func122, Tryz.ntmps122
  go_wp2_with fail
  refine HC.out.mono ?_
  rintro e w1 ⟨rfl, hb1⟩
  go_wp2
  go_ret
  exact ⟨rfl, hb1⟩

/-- What next leaves: the state then, and the value. -/
def NxPost (T : TypeId) (v : Int) (nx : List Int) (w : World) (e : Ending) (w' : World) : Prop := (∃ A n c, e = .returned (.tuple #[.iface T (.slice A n c), .int .i64 v]) ∧ n ≤ c ∧ (A = none → c = 0) ∧ QR w' A n nx) ∧ Below w.heap.size w w'
set_option maxHeartbeats 1000000 in
theorem q_next (w : World) (A : Option Addr) (n c : Nat) (xs : List Int) (a : Ac) (h : QR w A n xs) (hn : n ≤ 19) (hc : n ≤ c) (hA : A = none → c = 0) :
    Calls Tryz.prog 115 #[.slice A n c, acA a] w (NxPost 127 (tel 3 xs a).1 (tel 3 xs a).2 w) := by
  obtain ⟨xb, xe, xp, xv, xa⟩ := a
  unfold acA
  have h0 := (Below.refl w.heap.size w).alloc (Nat.le_refl _) (Obj.cells #[.int .i64 xb, .int .i64 xe, .bool xp, .int .i64 xv, .int .i64 xa] 80)
  have bX := Box.newAt w 80 [.int .i64 xb, .int .i64 xe, .bool xp, .int .i64 xv, .int .i64 xa] w.heap.size rfl
  have lX := bX.lt
  have hq := h.kp (Kp.below h0)
  have L := Lib.hid h.1
  have HQ := Lib.hid hq
  have HA := Lib.hid hA
  dsimp only
  unfold tel
  rw [if_neg (by decide), if_neg (by decide)]
  cases xp with
  | true =>
    rw [if_pos rfl]
    clear h hq hA
    go_enter Tryz.func115, Tryz.ntmps115
    go_wp2
    refine region_first [0, 1, 2, 5, 6] (.cons 3 (seq [4, 7, 8] .nil)) (by kernel_rfl) (by kernel_rfl) ?_
    simp only [pick, List.map_cons, List.map_nil, List.getD_cons_zero, List.getD_cons_succ]
    go_wp2
    refine ord_call (by kernel_rfl) ?_
    simp only [pick, List.map_cons, List.map_nil, List.getD_cons_zero, List.getD_cons_succ]
    go_wp2_with fail
    refine (lin_inserted ((w.alloc (Obj.cells #[.int .i64 xb, .int .i64 xe, .bool true, .int .i64 xv, .int .i64 xa] 80)).drew) A n c xs xv (by exact HQ.out) (by omega) hc HA.out).mono ?_
    rintro e w1 ⟨⟨A', c', rfl, k1, k2, k3⟩, hb1⟩
    have hb2 := h0.drew.trans (hb1.mono (by show w.heap.size ≤ (w.alloc _).heap.size; omega))
    have HK2 := Lib.hid k2
    have HK3 := Lib.hid k3
    have HB1 := Lib.hid hb1
    clear k2 k3 hb1
    go_wp2
    refine ⟨ext_below HB1.out, ?_⟩
    refine ord_more [4, 7, 8] .nil (by kernel_rfl) ?_
    simp only [pick, List.map_cons, List.map_nil, List.getD_cons_zero, List.getD_cons_succ]
    go_wp2
    refine ord_done ?_
    go_wp2
    go_ret2
    exact ⟨⟨A', n + 1, c', rfl, k1, HK2.out, HK3.out⟩, hb2⟩
  | false =>
    rw [if_neg (by simp)]
    by_cases hn0 : n = 0
    · subst hn0
      have hx : xs = [] := List.eq_nil_of_length_eq_zero L.out
      subst hx
      rw [if_pos rfl]
      clear h hq hA
      go_enter Tryz.func115, Tryz.ntmps115
      go_wp2
      go_ret2
      exact ⟨⟨A, 0, c, rfl, hc, HA.out, HQ.out⟩, h0⟩
    · have hpos : 0 < n := by omega
      have hx : xs ≠ [] := by rintro rfl; have := L.out; simp at this; omega
      rw [if_neg hx, if_pos rfl]
      obtain ⟨b, o, x, rfl, hb, hcell, HX, hmem⟩ := hq.ri.val hpos
      have HW := Lib.hid (hq.win (i := 1) (m := n - 1) (by omega))
      rw [Nat.add_zero] at hcell
      have hne : ((n : Int) == 0) = false := by simp; omega
      have hx0 : xs.headD 0 = x := by
        have := HX.out
        cases xs with
        | nil => exact absurd rfl hx
        | cons y ys => simpa using this
      have htl : (xs.drop 1).take (n - 1) = xs.tail := by
        rw [List.take_of_length_le (by rw [List.length_drop, L.out]; omega), List.drop_one]
      rw [htl] at HW
      rw [hx0]
      clear h hq hA hmem hx hx0 htl HX
      by_cases hc1 : c = 1
      · subst hc1
        obtain rfl : n = 1 := by omega
        go_enter Tryz.func115, Tryz.ntmps115
        go_wp2
        refine region_two [0, 1, 2, 3, 4, 5, 6, 7] [] (by kernel_rfl) (by kernel_rfl) ?_
        simp only [pick, List.map_cons, List.map_nil, List.getD_cons_zero, List.getD_cons_succ]
        go_wp2
        go_ret2
        exact ⟨⟨_, _, _, rfl, by omega, (fun h => by cases h), ⟨HW.out.1, fun h => absurd h (by omega)⟩⟩, h0.drew⟩
      · go_enter Tryz.func115, Tryz.ntmps115
        go_wp2
        refine region_two [0, 1, 2, 3, 4, 5, 6, 7] [] (by kernel_rfl) (by kernel_rfl) ?_
        simp only [pick, List.map_cons, List.map_nil, List.getD_cons_zero, List.getD_cons_succ]
        go_wp2
        go_ret2
        exact ⟨⟨_, _, _, rfl, by omega, (fun h => by cases h), by exact HW.out⟩, h0.drew⟩
set_option maxHeartbeats 1000000 in
theorem s_next (w : World) (A : Option Addr) (n c : Nat) (xs : List Int) (a : Ac) (h : QR w A n xs) (hn : n ≤ 19) (hc : n ≤ c) (hA : A = none → c = 0) :
    Calls Tryz.prog 121 #[.slice A n c, acA a] w (NxPost 128 (tel 4 xs a).1 (tel 4 xs a).2 w) := by
  obtain ⟨xb, xe, xp, xv, xa⟩ := a
  unfold acA
  have h0 := (Below.refl w.heap.size w).alloc (Nat.le_refl _) (Obj.cells #[.int .i64 xb, .int .i64 xe, .bool xp, .int .i64 xv, .int .i64 xa] 80)
  have bX := Box.newAt w 80 [.int .i64 xb, .int .i64 xe, .bool xp, .int .i64 xv, .int .i64 xa] w.heap.size rfl
  have lX := bX.lt
  have hq := h.kp (Kp.below h0)
  have L := Lib.hid h.1
  have HQ := Lib.hid hq
  have HA := Lib.hid hA
  dsimp only
  unfold tel
  rw [if_neg (by decide), if_neg (by decide)]
  cases xp with
  | true =>
    rw [if_pos rfl]
    clear h hq hA
    go_enter Tryz.func121, Tryz.ntmps121
    go_wp2
    refine region_first [0, 1, 2, 5, 6] (.cons 3 (seq [4, 7, 8] .nil)) (by kernel_rfl) (by kernel_rfl) ?_
    simp only [pick, List.map_cons, List.map_nil, List.getD_cons_zero, List.getD_cons_succ]
    go_wp2
    refine ord_call (by kernel_rfl) ?_
    simp only [pick, List.map_cons, List.map_nil, List.getD_cons_zero, List.getD_cons_succ]
    go_wp2_with fail
    refine (lin_inserted ((w.alloc (Obj.cells #[.int .i64 xb, .int .i64 xe, .bool true, .int .i64 xv, .int .i64 xa] 80)).drew) A n c xs xv (by exact HQ.out) (by omega) hc HA.out).mono ?_
    rintro e w1 ⟨⟨A', c', rfl, k1, k2, k3⟩, hb1⟩
    have hb2 := h0.drew.trans (hb1.mono (by show w.heap.size ≤ (w.alloc _).heap.size; omega))
    have HK2 := Lib.hid k2
    have HK3 := Lib.hid k3
    have HB1 := Lib.hid hb1
    clear k2 k3 hb1
    go_wp2
    refine ⟨ext_below HB1.out, ?_⟩
    refine ord_more [4, 7, 8] .nil (by kernel_rfl) ?_
    simp only [pick, List.map_cons, List.map_nil, List.getD_cons_zero, List.getD_cons_succ]
    go_wp2
    refine ord_done ?_
    go_wp2
    go_ret2
    exact ⟨⟨A', n + 1, c', rfl, k1, HK2.out, HK3.out⟩, hb2⟩
  | false =>
    rw [if_neg (by simp)]
    by_cases hn0 : n = 0
    · subst hn0
      have hx : xs = [] := List.eq_nil_of_length_eq_zero L.out
      subst hx
      rw [if_pos rfl]
      clear h hq hA
      go_enter Tryz.func121, Tryz.ntmps121
      go_wp2
      go_ret2
      exact ⟨⟨A, 0, c, rfl, hc, HA.out, HQ.out⟩, h0⟩
    · have hpos : 0 < n := by omega
      have hx : xs ≠ [] := by rintro rfl; have := L.out; simp at this; omega
      rw [if_neg hx, if_neg (by decide)]
      obtain ⟨b, o, x, rfl, hb, hcell, HX, hmem⟩ := hq.ri.val (i := n - 1) (by omega)
      have HW := Lib.hid (hq.win (i := 0) (m := n - 1) (by omega))
      have hne : ((n : Int) == 0) = false := by simp; omega
      have hx0 : xs.getLastD 0 = x := by
        have h2 := HX.out
        rw [← L.out, ← List.getLast?_eq_getElem?] at h2
        rw [List.getLastD_eq_getLast?, h2]
        rfl
      have htl : (xs.drop 0).take (n - 1) = xs.dropLast := by
        rw [List.drop_zero, ← L.out, List.dropLast_eq_take]
      rw [htl] at HW
      rw [hx0]
      have hn1 : ((n : Int) - 1) = ((n - 1 : Nat) : Int) := by omega
      clear h hq hA hmem hx hx0 htl HX
      go_enter Tryz.func121, Tryz.ntmps121
      go_wp2
      refine region_two [0, 1, 2, 3, 4, 5, 6, 7, 8, 9] [] (by kernel_rfl) (by kernel_rfl) ?_
      simp only [pick, List.map_cons, List.map_nil, List.getD_cons_zero, List.getD_cons_succ]
      go_wp2
      go_ret2
      exact ⟨⟨_, _, _, rfl, by omega, (fun h => by cases h), by exact HW.out⟩, h0.drew⟩
end Go.Proofs.YtnchgdjdfhfedaaGreatDoor

set_option linter.unusedSimpArgs false
set_option linter.unusedVariables false
namespace Go.Baro
open Go.RowKit
theorem RA.win {w : World} {B n b o : Nat} {ls : List Ac} (h : RA w B (some ⟨b, o, none⟩) n ls) {i m : Nat} (hi : i + m ≤ n) : RA w B (some ⟨b, o + i * 5, none⟩) m ((ls.drop i).take m) := by
  have hl := h.len
  refine ⟨by rw [flatMap_len acV_len]; simp; omega, fun h0 => ?_⟩
  obtain ⟨b', o', hA, hb, hc⟩ := Rd.at_ h (by omega)
  injection hA with hA
  injection hA with hA1 hA2
  subst hA1 hA2
  refine ⟨b, o + i * 5, rfl, hb, fun j hj => ?_⟩
  have hq : j % 5 < 5 := Nat.mod_lt _ (by omega)
  have hj5 : j = j / 5 * 5 + j % 5 := by omega
  have hp : j / 5 < m := by omega
  have hx : i + j / 5 < ls.length := by omega
  have e1 : ((ls.drop i).take m)[j / 5]? = some ls[i + j / 5] := by
    rw [List.getElem?_take_of_lt hp, List.getElem?_drop, List.getElem?_eq_getElem hx]
  rw [show o + i * 5 + j = o + ((i + j / 5) * 5 + j % 5) by omega, hc _ (by omega), flatMap_at acV_len ls _ _ _ (List.getElem?_eq_getElem hx) hq]
  conv => rhs; rw [hj5]
  rw [flatMap_at acV_len _ _ _ _ e1 hq]
/-- What comes first. -/
def cand (k : Int) (has : List Int) (left : List Ac) (i : Nat) : Prop := ∃ a, left[i]? = some a ∧ (∀ b ∈ left, b.e ≠ -1 → a.b ≤ b.e) ∧ (a.e ≠ -1 → (tel k has a).1 = a.v) ∧ Lin k (tel k has a).2 (left.eraseIdx i)
theorem lin_cand {k : Int} {has : List Int} {left : List Ac} : Lin k has left ↔ (∀ a ∈ left, a.e = -1) ∨ ∃ i, cand k has left i := lin_iff
theorem cand_lt {k : Int} {has : List Int} {left : List Ac} {i : Nat} (h : cand k has left i) : i < left.length := by
  obtain ⟨a, h, _⟩ := h
  exact (List.getElem?_eq_some_iff.1 h).1
theorem tel_len (k : Int) (has : List Int) (a : Ac) : (tel k has a).2.length ≤ has.length + 1 ∧ (k < 3 → 1 ≤ k → has.length = 1 → (tel k has a).2.length = 1) := by
  unfold tel
  by_cases h1 : k = 1
  · rw [if_pos h1]
    split
    · exact ⟨by simp, fun _ _ _ => rfl⟩
    · exact ⟨by simp, fun _ _ h => h⟩
  rw [if_neg h1]
  by_cases h2 : k = 2
  · rw [if_pos h2]; exact ⟨by simp, fun _ _ _ => rfl⟩
  rw [if_neg h2]
  refine ⟨?_, fun h3 h4 => by omega⟩
  split
  · simp
  · split
    · simp
    · split
      · simp; omega
      · simp; omega
end Go.Baro
namespace Go.Proofs.YtnchgdjdfhfedaaGreatDoor
open Go.RowKit Go.Ord Go.Baro

theorem eltAct : Elt Tryz.prog 81 80 (.agg #[.int .i64 0, .int .i64 0, .bool false, .int .i64 0, .int .i64 0]) 5 40 := Elt.mk' Tryz.underlying81 (by kernel_rfl) rfl (by decide)
theorem acV_one (l : List Ac) : ∀ u ∈ l.flatMap acV, u.oneCell' = true := by
  intro u hu
  simp only [List.mem_flatMap, acV, List.mem_cons, List.not_mem_nil, or_false] at hu
  obtain ⟨a, _, h⟩ := hu
  rcases h with rfl | rfl | rfl | rfl | rfl <;> rfl

theorem ra_none {w : World} {B n : Nat} {A A' : Option Addr} {ls : List Ac} (h : RA w B A n ls) (h0 : n = 0) : Rd w B 5 A' n (ls.flatMap acV) := ⟨Rd.len h, fun h => absurd h (by omega)⟩

end Go.Proofs.YtnchgdjdfhfedaaGreatDoor

set_option linter.unusedSimpArgs false
set_option linter.unusedVariables false
namespace Go.Proofs.YtnchgdjdfhfedaaGreatDoor
open Go.RowKit Go.Ord Go.Baro

/-- The state v of an object of kind k has these numbers. -/
def StV (w : World) (k : Int) (v : Value) (has : List Int) : Prop :=
  (k = 1 ∧ ∃ x, v = .iface 125 (.int .i64 x) ∧ has = [x] ∧ inW x) ∨ (k = 2 ∧ ∃ x, v = .iface 126 (.int .i64 x) ∧ has = [x] ∧ inW x) ∨
  (k = 3 ∧ ∃ A n c, v = .iface 127 (.slice A n c) ∧ n ≤ c ∧ n ≤ 20 ∧ (A = none → c = 0) ∧ QR w A n has) ∨ (k = 4 ∧ ∃ A n c, v = .iface 128 (.slice A n c) ∧ n ≤ c ∧ n ≤ 20 ∧ (A = none → c = 0) ∧ QR w A n has)
theorem StV.kp {w w' : World} {k : Int} {v : Value} {has : List Int} (h : StV w k v has) (hk : Kp w w') : StV w' k v has := by
  rcases h with h | h | ⟨h0, A, n, c, h1, h2, h3, h4, h5⟩ | ⟨h0, A, n, c, h1, h2, h3, h4, h5⟩
  · exact .inl h
  · exact .inr (.inl h)
  · exact .inr (.inr (.inl ⟨h0, A, n, c, h1, h2, h3, h4, h5.kp hk⟩))
  · exact .inr (.inr (.inr ⟨h0, A, n, c, h1, h2, h3, h4, h5.kp hk⟩))
theorem StV.one {w : World} {k : Int} {v : Value} {has : List Int} (h : StV w k v has) : v.oneCell' = true := by
  rcases h with ⟨_, x, rfl, _⟩ | ⟨_, x, rfl, _⟩ | ⟨_, A, n, c, rfl, _⟩ | ⟨_, A, n, c, rfl, _⟩ <;> rfl
/-- The method of this name of a value of type T is the function F. -/
def Meth (name : String) (T : TypeId) (u : Value) (F : FuncId) : Prop := (∀ (n : Nat) (w : World), (method (n + 1) T u name).run Tryz.prog w = .ok (F, u) w) ∧ ∀ (args : Array Value) (w : World), (callFunc F args).run Tryz.prog w = .ok (.enter F args) w
theorem st_digest {w : World} {k : Int} {v : Value} {has : List Int} (h : StV w k v has) : ∃ T u F, v = .iface T u ∧ Meth "barograph/lin.digest" T u F ∧ Calls Tryz.prog F #[u] w fun e w' => (∃ g, e = .returned (.int .u64 g)) ∧ Below w.heap.size w w' := by
  rcases h with ⟨_, x, rfl, _⟩ | ⟨_, x, rfl, _⟩ | ⟨_, A, n, c, rfl, h2, h3, h4, h5⟩ | ⟨_, A, n, c, rfl, h2, h3, h4, h5⟩
  · exact ⟨_, _, 108, rfl, ⟨fun n w => by kernel_rfl, fun n w => by kernel_rfl⟩, reg_digest w x⟩
  · exact ⟨_, _, 111, rfl, ⟨fun n w => by kernel_rfl, fun n w => by kernel_rfl⟩, cnt_digest w x⟩
  · exact ⟨_, _, 114, rfl, ⟨fun n w => by kernel_rfl, fun n w => by kernel_rfl⟩, q_digest w A n c has h5 h3⟩
  · exact ⟨_, _, 120, rfl, ⟨fun n w => by kernel_rfl, fun n w => by kernel_rfl⟩, s_digest w A n c has h5 h3⟩
theorem st_same {w : World} {k : Int} {v : Value} {has : List Int} (h : StV w k v has) : ∃ T u F, v = .iface T u ∧ Meth "barograph/lin.same" T u F ∧
    ∀ w' v' ys r, StV w' k v has → StV w' k v' ys → (r = true ↔ ys = has) → Calls Tryz.prog F #[u, v'] w' fun e w'' => e = .returned (.bool r) ∧ Below w'.heap.size w' w'' := by
  rcases h with ⟨h0, x, rfl, hx, hx2⟩ | ⟨h0, x, rfl, hx, hx2⟩ | ⟨h0, A, n, c, rfl, h2, h3, h4, h5⟩ | ⟨h0, A, n, c, rfl, h2, h3, h4, h5⟩
  · subst h0 hx
    refine ⟨_, _, 110, rfl, ⟨fun n w => by kernel_rfl, fun n w => by kernel_rfl⟩, fun w' v' ys r h1 h2 hr => ?_⟩
    rcases h2 with ⟨_, y, rfl, hy, _⟩ | ⟨h0, _⟩ | ⟨h0, _⟩ | ⟨h0, _⟩
    · subst hy
      exact reg_same w' x y r (by rw [hr]; simp)
    all_goals omega
  · subst h0 hx
    refine ⟨_, _, 113, rfl, ⟨fun n w => by kernel_rfl, fun n w => by kernel_rfl⟩, fun w' v' ys r h1 h2 hr => ?_⟩
    rcases h2 with ⟨h0, _⟩ | ⟨_, y, rfl, hy, _⟩ | ⟨h0, _⟩ | ⟨h0, _⟩
    · omega
    · subst hy
      exact cnt_same w' x y r (by rw [hr]; simp)
    all_goals omega
  · subst h0
    refine ⟨_, _, 116, rfl, ⟨fun n w => by kernel_rfl, fun n w => by kernel_rfl⟩, fun w' v' ys r h1 h2 hr => ?_⟩
    have h5' : QR w' A n has := by
      rcases h1 with ⟨h0, _⟩ | ⟨h0, _⟩ | ⟨_, A', n', c', he, _, _, _, hq⟩ | ⟨h0, _⟩
      · omega
      · omega
      · simp only [Value.iface.injEq, Value.slice.injEq, true_and] at he
        obtain ⟨rfl, rfl, rfl⟩ := he
        exact hq
      · omega
    rcases h2 with ⟨h0, _⟩ | ⟨h0, _⟩ | ⟨_, A', n', c', rfl, _, g3, _, g5⟩ | ⟨h0, _⟩
    · omega
    · omega
    · exact q_same w' A A' n c n' c' has ys r h5' g5 h3 g3 hr
    · omega
  · subst h0
    refine ⟨_, _, 122, rfl, ⟨fun n w => by kernel_rfl, fun n w => by kernel_rfl⟩, fun w' v' ys r h1 h2 hr => ?_⟩
    have h5' : QR w' A n has := by
      rcases h1 with ⟨h0, _⟩ | ⟨h0, _⟩ | ⟨h0, _⟩ | ⟨_, A', n', c', he, _, _, _, hq⟩
      · omega
      · omega
      · omega
      · simp only [Value.iface.injEq, Value.slice.injEq, true_and] at he
        obtain ⟨rfl, rfl, rfl⟩ := he
        exact hq
    rcases h2 with ⟨h0, _⟩ | ⟨h0, _⟩ | ⟨h0, _⟩ | ⟨_, A', n', c', rfl, _, g3, _, g5⟩
    · omega
    · omega
    · omega
    · exact s_same w' A A' n c n' c' has ys r h5' g5 h3 g3 hr
/-- What next leaves. -/
def StPost (k : Int) (v : Int) (nx : List Int) (w : World) (e : Ending) (w' : World) : Prop := (∃ v', e = .returned (.tuple #[v', .int .i64 v]) ∧ StV w' k v' nx) ∧ Below w.heap.size w w'
theorem st_next {w : World} {k : Int} {v : Value} {has : List Int} {a : Ac} (h : StV w k v has) (ha : okA k a) (hi : inA a) (hl : has.length ≤ 15) : ∃ T u F, v = .iface T u ∧ Meth "barograph/lin.next" T u F ∧ Calls Tryz.prog F #[u, acA a] w (StPost k (tel k has a).1 (tel k has a).2 w) := by
  rcases h with ⟨h0, x, rfl, hx, hx2⟩ | ⟨h0, x, rfl, hx, hx2⟩ | ⟨h0, A, n, c, rfl, h2, h3, h4, h5⟩ | ⟨h0, A, n, c, rfl, h2, h3, h4, h5⟩
  · subst h0 hx
    refine ⟨_, _, 109, rfl, ⟨fun n w => by kernel_rfl, fun n w => by kernel_rfl⟩, (reg_next w x a).mono ?_⟩
    rintro e w' ⟨rfl, hb⟩
    unfold tel
    rw [if_pos rfl]
    by_cases hp : a.put = true
    · rw [if_pos hp, if_pos hp]
      exact ⟨⟨_, rfl, .inl ⟨rfl, _, rfl, rfl, hi.2.2.1⟩⟩, hb⟩
    · rw [if_neg hp, if_neg hp]
      exact ⟨⟨_, rfl, .inl ⟨rfl, _, rfl, rfl, hx2⟩⟩, hb⟩
  · subst h0 hx
    refine ⟨_, _, 112, rfl, ⟨fun n w => by kernel_rfl, fun n w => by kernel_rfl⟩, (cnt_next w x a hx2 (fun hp => ?_)).mono ?_⟩
    · rcases ha.2.2.2.1 with h | h
      · exact h
      · rw [hp] at h; exact absurd h.2 (by simp)
    · rintro e w' ⟨rfl, hb⟩
      unfold tel
      rw [if_neg (by decide), if_pos rfl]
      exact ⟨⟨_, rfl, .inr (.inl ⟨rfl, _, rfl, rfl, inW_wrap _⟩)⟩, hb⟩
  · subst h0
    have hn : n ≤ 15 := by rw [← h5.1]; exact hl
    refine ⟨_, _, 115, rfl, ⟨fun n w => by kernel_rfl, fun n w => by kernel_rfl⟩, (q_next w A n c has a h5 (by omega) h2 h4).mono ?_⟩
    rintro e w' ⟨⟨A', n', c', rfl, g1, g2, g3⟩, hb⟩
    have hn' : n' ≤ 20 := by
      have h1 := (tel_len 3 has a).1
      rw [g3.1, h5.1] at h1
      omega
    exact ⟨⟨_, rfl, .inr (.inr (.inl ⟨rfl, A', n', c', rfl, g1, hn', g2, g3⟩))⟩, hb⟩
  · subst h0
    have hn : n ≤ 15 := by rw [← h5.1]; exact hl
    refine ⟨_, _, 121, rfl, ⟨fun n w => by kernel_rfl, fun n w => by kernel_rfl⟩, (s_next w A n c has a h5 (by omega) h2 h4).mono ?_⟩
    rintro e w' ⟨⟨A', n', c', rfl, g1, g2, g3⟩, hb⟩
    have hn' : n' ≤ 20 := by
      have h1 := (tel_len 4 has a).1
      rw [g3.1, h5.1] at h1
      omega
    exact ⟨⟨_, rfl, .inr (.inr (.inr ⟨rfl, A', n', c', rfl, g1, hn', g2, g3⟩))⟩, hb⟩

set_option maxHeartbeats 2000000 in
/-- slices.IndexFunc over visited states. -/
theorem lin_IndexSame (w : World) (A : Option Addr) (n c : Nat) (k : Int) (v : Value) (has : List Int) (xs : List Value) (S : List Int → Prop) (h : Rd w w.heap.size 1 A n xs) (hv : StV w k v has) (hx : ∀ x ∈ xs, ∃ s, StV w k x s ∧ S s) (hn : n ≤ 1000000000000) :
    Calls Tryz.prog 85 #[.slice A n c, .func (.method "barograph/lin.same") #[v] #[]] w fun e w' => (∃ i : Int, e = .returned (.int .i64 i) ∧ -1 ≤ i ∧ i ≤ 1000000000000 ∧ (0 ≤ i → S has)) ∧ Below w.heap.size w w' := by
  obtain ⟨T, u, F, rfl, hm, hsame⟩ := st_same hv
  have h0 := Below.refl w.heap.size w
  have HS := Lib.hid hsame
  have HV := Lib.hid hv
  have HX := Lib.hid hx
  have HL := Lib.hid h.len
  clear hsame hv hx
  go_enter Tryz.func85, Tryz.ntmps85
  go_wp2
  go_loopw [8] (fun i wr => ∃ j : Nat, j ≤ n ∧ i = .int .i64 j ∧ Below w.heap.size w wr) (fun i _ => n - (intOf i).toNat)
  case atStart => exact ⟨0, Nat.zero_le _, rfl, h0⟩
  case round =>
    obtain ⟨j, hj, rfl, hbel⟩ := hrel
    have hsz := hbel.size
    have hkp := Kp.below hbel
    by_cases hjm : j < n
    · obtain ⟨b, o, rfl, hb, hcs⟩ := (h.below hbel).at_ (by omega)
      have hjl : j < xs.length := by rw [HL.out]; omega
      have hcell := hcs j (by omega)
      rw [List.getElem?_eq_getElem hjl] at hcell
      obtain ⟨s, hs1, hs2⟩ := HX.out xs[j] (List.getElem_mem hjl)
      obtain ⟨y, hy⟩ : ∃ y, xs[j] = y := ⟨_, rfl⟩
      rw [hy] at hcell hs1
      obtain ⟨r, hr⟩ := bool_of (s = has)
      have HR := Lib.hid hr
      have HS1 := Lib.hid (hs1.kp hkp)
      have HS2 := Lib.hid hs2
      have hm1 := hm.1 283 wr
      have hm2 := hm.2 #[u, y] wr
      have hy1 := hs1.one
      clear hr hs1 hs2 hy hcs hjl
      go_wp2_with fail
      refine (HS.out wr y s r (HV.out.kp hkp) HS1.out HR.out).mono ?_
      rintro e w1 ⟨rfl, hb1⟩
      have hb2 := hbel.trans (hb1.mono hsz)
      cases r with
      | true =>
        go_wp2
        go_ret
        refine ⟨⟨j, rfl, by omega, by omega, fun _ => ?_⟩, hb2⟩
        have := HR.out.1 (by first | rfl | trivial)
        subst this
        exact HS2.out
      | false =>
        go_wp2
        go_roundw
        case rel => exact ⟨j + 1, by omega, by go_num, hb2⟩
        case measure => simp [intOf]; omega
    · go_wp2
      go_ret
      exact ⟨⟨-1, rfl, by omega, by omega, fun h => by omega⟩, hbel⟩

set_option maxHeartbeats 1000000 in
theorem lin_ContainsSame (w : World) (A : Option Addr) (n c : Nat) (k : Int) (v : Value) (has : List Int) (xs : List Value) (S : List Int → Prop) (h : Rd w w.heap.size 1 A n xs) (hv : StV w k v has) (hx : ∀ x ∈ xs, ∃ s, StV w k x s ∧ S s) (hn : n ≤ 1000000000000) :
    Calls Tryz.prog 78 #[.slice A n c, .func (.method "barograph/lin.same") #[v] #[]] w fun e w' => (∃ r : Bool, e = .returned (.bool r) ∧ (r = true → S has)) ∧ Below w.heap.size w w' := by
  have HC := Lib.hid (lin_IndexSame w A n c k v has xs S h hv hx hn)
  clear h hv hx
  go_enter Tryz.func78, Tryz.ntmps78
  go_wp2_with fail
  refine HC.out.mono ?_
  rintro e w1 ⟨⟨i, rfl, h1, h2, h3⟩, hb1⟩
  have H3 := Lib.hid h3
  clear h3
  go_wp2
  go_ret
  exact ⟨⟨_, rfl, fun hh => H3.out (by simpa using hh)⟩, hb1⟩
end Go.Proofs.YtnchgdjdfhfedaaGreatDoor

set_option linter.unusedSimpArgs false
set_option linter.unusedVariables false
namespace Go.Proofs.YtnchgdjdfhfedaaGreatDoor
open Go.RowKit Go.Ord Go.Baro Go.MapKept

theorem key_asking (d g : Int) (w : World) : ∀ (es : List MapEntry) (i : Nat), (∀ e ∈ es, ∃ d' g', e.key = KV d' g') →
    (Instr.findAsking 142 (KV d g) es i).run Tryz.prog w = .ok none w ∨ ∃ j e, (Instr.findAsking 142 (KV d g) es i).run Tryz.prog w = .ok (some (i + j, e.val)) w ∧ es[j]? = some e ∧ e.key = KV d g
  | [], i, _ => .inl rfl
  | e :: es, i, h => by
    obtain ⟨d', g', hk⟩ := h e (by simp)
    have he := key_eq d g d' g' w
    rw [← hk] at he
    by_cases hdg : d = d' ∧ g = g'
    · obtain ⟨rfl, rfl⟩ := hdg
      refine .inr ⟨0, e, ?_, rfl, hk⟩
      simp [Instr.findAsking, Sem.run_bind, he, Result.andThen]
    · have hf : (d == d' && g == g') = false := by
        rw [Bool.and_eq_false_iff]
        by_cases h1 : d = d'
        · exact .inr (by simpa using fun h2 => hdg ⟨h1, h2⟩)
        · exact .inl (by simpa using h1)
      rw [hf] at he
      have hrun : (Instr.findAsking 142 (KV d g) (e :: es) i).run Tryz.prog w = (Instr.findAsking 142 (KV d g) es (i + 1)).run Tryz.prog w := by
        simp [Instr.findAsking, Sem.run_bind, he, Result.andThen]
      rw [hrun]
      rcases key_asking d g w es (i + 1) (fun e he => h e (by simp [he])) with h1 | ⟨j, e', h1, h2, h3⟩
      · exact .inl h1
      · exact .inr ⟨j + 1, e', by rw [h1, show i + 1 + j = i + (j + 1) by omega], by simpa using h2, h3⟩
theorem key_find (d g : Int) (w : World) (es : List MapEntry) (h : ∀ e ∈ es, ∃ d' g', e.key = KV d' g') :
    (Instr.findKey 142 (KV d g) es).run Tryz.prog w = .ok none w ∨ ∃ j e, (Instr.findKey 142 (KV d g) es).run Tryz.prog w = .ok (some (j, e.val)) w ∧ es[j]? = some e ∧ e.key = KV d g := by
  have hu : ∃ fs, Tryz.prog.underlying 142 = some (.struct fs) := ⟨_, Tryz.underlying142⟩
  obtain ⟨fs, hu⟩ := hu
  cases es with
  | nil =>
    left
    simp [Instr.findKey, Sem.run_bind, run_underlying hu, Instr.findNow, Result.andThen]
  | cons e es =>
    have hn : Instr.findNow (.struct fs) (KV d g) (e :: es) 0 = none := by simp [Instr.findNow, Instr.sameNow]
    have hrun : (Instr.findKey 142 (KV d g) (e :: es)).run Tryz.prog w = (Instr.findAsking 142 (KV d g) (e :: es) 0).run Tryz.prog w := by
      simp only [Instr.findKey, Sem.run_bind, run_underlying hu, Result.andThen_ok, hn]
    rw [hrun]
    rcases key_asking d g w (e :: es) 0 h with h1 | ⟨j, e', h1, h2, h3⟩
    · exact .inl h1
    · exact .inr ⟨j, e', by rw [h1, Nat.zero_add], h2, h3⟩
theorem key_stays (d g : Int) (w : World) : (Instr.keyThatStays (KV d g) (KV d g)).run Tryz.prog w = .ok (KV d g) w := by
  have : Instr.sameBits 10000 (KV d g) (KV d g) = true := by simp [KV, Instr.sameBits]
  simp [Instr.keyThatStays, this]
/-- The entries of the map: the states of each are in M; no two have a block in common. -/
def Ents (w : World) (B N : Nat) (k : Int) (M : Nat → List Int → Prop) (es : Array MapEntry) (tag : Nat → Nat) : Prop :=
  ∀ (i : Nat) (e : MapEntry), es[i]? = some e → e.born = i ∧ ∃ (d : Nat) (g : Int) (n : Nat) (xs : List Value), e.key = KV d g ∧ w.ownsRow B 108 1 e.val n xs ∧ n ≤ N ∧ (∀ x ∈ xs, ∃ s, StV w k x s ∧ M d s) ∧ ∀ b, e.val.ownBlock = some b → tag b = i
/-- The visited states in block mb. -/
def VM (w : World) (B mb N : Nat) (k : Int) (M : Nat → List Int → Prop) : Prop := B ≤ mb ∧ ∃ es tag, w.heap[mb]? = some (.map es es.size) ∧ Ents w B N k M es tag
section
variable {w w' : World} {B mb N : Nat} {k : Int} {M : Nat → List Int → Prop} {es : Array MapEntry} {tag : Nat → Nat}
theorem VM.lt (h : VM w B mb N k M) : mb < w.heap.size := by obtain ⟨_, es, tag, h1, _⟩ := h; exact heap_lt h1
theorem Ents.below (h : Ents w B N k M es tag) (hb : Below w.heap.size w w') : Ents w' B N k M es tag := by
  intro i e he
  obtain ⟨h1, d, g, n, xs, h2, h3, h4, h5, h6⟩ := h i e he
  exact ⟨h1, d, g, n, xs, h2, own_below h3 hb, h4, fun x hx => by obtain ⟨s, hs, hm⟩ := h5 x hx; exact ⟨s, hs.kp (Kp.below hb), hm⟩, h6⟩
theorem VM.below (h : VM w B mb N k M) (hb : Below w.heap.size w w') : VM w' B mb N k M := by
  obtain ⟨h0, es, tag, h1, h2⟩ := h
  exact ⟨h0, es, tag, (hb.block mb (heap_lt h1)).trans h1, h2.below hb⟩
theorem VM.mono (h : VM w B mb N k M) {N' : Nat} {M' : Nat → List Int → Prop} (hN : N ≤ N') (hM : ∀ d s, M d s → M' d s) : VM w B mb N' k M' := by
  obtain ⟨h0, es, tag, h1, h2⟩ := h
  refine ⟨h0, es, tag, h1, fun i e he => ?_⟩
  obtain ⟨h1, d, g, n, xs, h2, h3, h4, h5, h6⟩ := h2 i e he
  exact ⟨h1, d, g, n, xs, h2, h3, by omega, fun x hx => by obtain ⟨s, hs, hm⟩ := h5 x hx; exact ⟨s, hs, hM d s hm⟩, h6⟩
theorem VM.made (w : World) {B : Nat} (hB : B ≤ w.heap.size) (k : Int) (M : Nat → List Int → Prop) : VM (w.alloc (.map #[] 0)) B w.heap.size 0 k M := ⟨hB, #[], fun _ => 0, heap_alloc_new w _, fun i e he => by simp at he⟩
theorem Ents.keys (h : Ents w B N k M es tag) : ∀ e ∈ es.toList, ∃ d' g', e.key = KV d' g' := by
  intro e he
  obtain ⟨i, hi⟩ := List.mem_iff_getElem?.1 he
  obtain ⟨_, d, g, _, _, hk, _⟩ := h i e (by simpa using hi)
  exact ⟨d, g, hk⟩
theorem zeroStates (w : World) : (zeroValue 144).run Tryz.prog w = .ok (.slice none 0 0) w := by kernel_rfl
/-- What is looked for. -/
theorem VM.look (h : VM w B mb N k M) (d : Nat) (g : Int) : ∃ v n xs, (Instr.lookup 101 (.map (some mb)) (KV d g) false).run Tryz.prog w = .ok v w ∧ w.ownsRow B 108 1 v n xs ∧ n ≤ N ∧ ∀ x ∈ xs, ∃ s, StV w k x s ∧ M d s := by
  obtain ⟨h0, es, tag, h1, h2⟩ := h
  rcases key_find d g w es.toList h2.keys with hf | ⟨j, e, hf, hj, hk⟩
  · refine ⟨.slice none 0 0, 0, [], ?_, World.ownsRow_nil _ _ _ _, Nat.zero_le _, by simp⟩
    simp [Instr.lookup, run_underlying Tryz.underlying101, MapKept.run_getObj_map h1, key_check, hf, zeroStates, Result.andThen]
  · obtain ⟨_, d', g', n, xs, hk2, h3, h4, h5, _⟩ := h2 j e (by simpa using hj)
    rw [hk] at hk2
    have hd : (d : Int) = d' := by simp [KV] at hk2; exact_mod_cast hk2.1
    obtain rfl : d = d' := by omega
    refine ⟨e.val, n, xs, ?_, h3, h4, h5⟩
    simp [Instr.lookup, run_underlying Tryz.underlying101, MapKept.run_getObj_map h1, key_check, hf, Result.andThen]
theorem modify_same {es : Array MapEntry} {i : Nat} {f : MapEntry → MapEntry} (h : ∀ e, es[i]? = some e → f e = e) : es.modify i f = es := by
  apply Array.ext_getElem?
  intro j
  rw [Array.getElem?_modify]
  by_cases hij : i = j
  · subst hij
    rw [if_pos rfl]
    cases he : es[i]? with
    | none => rfl
    | some e => simp [h e he]
  · rw [if_neg hij]
/-- The heap with another object. -/
def stM (w : World) (b : Nat) (o : Obj) : World := { w with heap := w.heap.setIfInBounds b o }
theorem stM_grown (w : World) (b : Nat) (o : Obj) : w.grownBy (stM w b o) (some b) :=
  ⟨rfl, rfl, rfl, by simp [stM], fun k hk hne => by
    show (w.heap.setIfInBounds b o)[k]? = _
    rw [Array.getElem?_setIfInBounds_ne (fun e => hne (by rw [e]))]⟩
theorem stM_at {w : World} {b : Nat} {o o' : Obj} (h : w.heap[b]? = some o') : (stM w b o).heap[b]? = some o := by
  show (w.heap.setIfInBounds b o)[b]? = _
  rw [Array.getElem?_setIfInBounds_self_of_lt (heap_lt h)]
/-- What is done to the map leaves the rows and the states. -/
theorem map_ne {w : World} {b : Nat} {es : Array MapEntry} {c : Nat} (h : w.heap[b]? = some (.map es c)) {B n s : Nat} {e : TypeId} {v : Value} {xs : List Value} (ho : w.ownsRow B e s v n xs) : v.ownBlock = none ∨ v.ownBlock ≠ some b := by
  rcases ho.2 with ⟨rfl, _⟩ | ⟨g, cap, cur, rfl, _, hg, _⟩
  · exact .inl rfl
  · refine .inr fun he => ?_
    simp only [Value.ownBlock, Option.some.injEq] at he
    subst he
    rw [h] at hg
    cases hg
theorem map_kp {w w' : World} {b : Nat} {es : Array MapEntry} {c : Nat} (h : w.heap[b]? = some (.map es c)) (hg : w.grownBy w' (some b)) : Kp w w' :=
  Kp.grown hg fun b' cs t fr he hh => by injection he with he; subst he; rw [h] at hh; cases hh
theorem Ents.map {c : Nat} (h : Ents w B N k M es tag) (hh : w.heap[mb]? = some (.map es c)) (hg : w.grownBy w' (some mb)) : Ents w' B N k M es tag := by
  intro i e he
  obtain ⟨h1, d, g, n, xs, h2, h3, h4, h5, h6⟩ := h i e he
  exact ⟨h1, d, g, n, xs, h2, h3.kept hg (map_ne hh h3), h4, fun x hx => by obtain ⟨s, hs, hm⟩ := h5 x hx; exact ⟨s, hs.kp (map_kp hh hg), hm⟩, h6⟩
set_option maxRecDepth 100000 in
/-- The entry of a place, made if there is none. -/
theorem VM.entry (h : VM w B mb N k M) (d : Nat) (g : Int) : ∃ w1 es tag i e, (Instr.mapEntry 101 (.map (some mb)) (KV d g)).run Tryz.prog w = .ok (.tuple #[e.val, .int .i64 (i : Nat)]) w1 ∧ w.grownBy w1 (some mb) ∧ Kp w w1 ∧
    w1.heap[mb]? = some (.map es es.size) ∧ Ents w1 B N k M es tag ∧ es[i]? = some e ∧ e.key = KV d g := by
  obtain ⟨h0, es, tag, h1, h2⟩ := h
  rcases key_find d g w es.toList h2.keys with hf | ⟨j, e, hf, hj, hk⟩
  · have hg := stM_grown w mb (.map (es.push { key := KV d g, val := .slice none 0 0, born := es.size }) (es.size + 1))
    refine ⟨stM w mb (.map (es.push { key := KV d g, val := .slice none 0 0, born := es.size }) (es.size + 1)), es.push { key := KV d g, val := .slice none 0 0, born := es.size }, tag, es.size, { key := KV d g, val := .slice none 0 0, born := es.size }, ?_, hg, map_kp h1 hg, ?_, ?_, ?_, rfl⟩
    · simp [Instr.mapEntry, run_underlying Tryz.underlying101, MapKept.run_getObj_map h1, key_check, hf, zeroStates, MapKept.run_setObj_map _ h1, Result.andThen, goInt, stM]
    · rw [stM_at h1, Array.size_push]
    · intro i e he
      rw [Array.getElem?_push] at he
      by_cases hi : i = es.size
      · rw [if_pos hi] at he
        injection he with he
        subst he hi
        exact ⟨rfl, d, g, 0, [], rfl, World.ownsRow_nil _ _ _ _, Nat.zero_le _, by simp, fun b hb => by simp [Value.ownBlock] at hb⟩
      · rw [if_neg hi] at he
        exact h2.map h1 hg i e he
    · simp
  · have hje : es[j]? = some e := by simpa using hj
    have hm : es.modify j (fun e => { e with key := KV d g }) = es := modify_same fun e' he' => by
      rw [hje] at he'
      injection he' with he'
      subst he'
      rw [← hk]
    have hg := stM_grown w mb (.map es es.size)
    refine ⟨stM w mb (.map es es.size), es, tag, j, e, ?_, hg, map_kp h1 hg, stM_at h1, h2.map h1 hg, hje, hk⟩
    have hborn := (h2 j e hje).1
    simp [Instr.mapEntry, run_underlying Tryz.underlying101, MapKept.run_getObj_map h1, key_check, hf, hje, hk, key_stays, hm, MapKept.run_setObj_map _ h1, Result.andThen, goInt, stM, hborn]
/-- The row of the entry is another then. -/
theorem Ents.store {w1 w2 : World} (hB : B ≤ mb) {i : Nat} {e : MapEntry} {d : Nat} {g : Int} {n : Nat} {xs : List Value} {x v' : Value} {has : List Int} (h : Ents w1 B N k M es tag) (h1 : w1.heap[mb]? = some (.map es es.size)) (hi : es[i]? = some e) (hk : e.key = KV d g)
    (ho : w1.ownsRow B 108 1 e.val n xs) (hn : n ≤ N) (hx : ∀ x ∈ xs, ∃ s, StV w1 k x s ∧ M d s) (hg : w1.grownBy w2 e.val.ownBlock) (ho2 : w2.ownsRow B 108 1 v' (n + 1) (xs ++ [x])) (hv : v'.ownBlock = e.val.ownBlock ∨ v'.ownBlock = some w1.heap.size) (hs : StV w2 k x has) :
    ∃ w3, (Instr.entryStore 101 (.map (some mb)) (.int .i64 (i : Nat)) v').run Tryz.prog w2 = .ok () w3 ∧ w2.grownBy w3 (some mb) ∧ Kp w1 w3 ∧ VM w3 B mb (N + 1) k (fun d' s => M d' s ∨ (d' = d ∧ s = has)) := by
  have h2 : w2.heap[mb]? = some (.map es es.size) := by
    rw [hg.block mb (heap_lt h1) (fun he => ?_)]
    · exact h1
    · rcases map_ne h1 ho with h | h
      · rw [h] at he; cases he
      · exact h he.symm
  have hk12 : Kp w1 w2 := Kp.grown hg fun b cs t fr he hh => by
    rcases ho.2 with ⟨hv, _⟩ | ⟨g', cap, cur, hv, _, hg', _⟩
    · rw [hv] at he; simp [Value.ownBlock] at he
    · rw [hv] at he
      simp only [Value.ownBlock, Option.some.injEq] at he
      subst he
      rw [hg'] at hh
      injection hh with hh
      injection hh with _ hh
      exact hh.symm
  have hg3 := stM_grown w2 mb (.map (es.modify i fun e => { e with val := v' }) es.size)
  have hfind : es.findIdx? (fun e => ((e.born : Int) == (i : Int))) = some i := by
    rw [Array.findIdx?_eq_some_iff_getElem]
    have hlt : i < es.size := (Array.getElem?_eq_some_iff.1 hi).1
    refine ⟨hlt, ?_, fun j hj => ?_⟩
    · have := (h i es[i] (Array.getElem?_eq_getElem hlt)).1
      simp [this]
    · have := (h j es[j] (Array.getElem?_eq_getElem (by omega))).1
      simp [this]; omega
  refine ⟨stM w2 mb (.map (es.modify i fun e => { e with val := v' }) es.size), ?_, hg3, hk12.trans (map_kp h2 hg3), hB, es.modify i (fun e => { e with val := v' }), fun b => if v'.ownBlock = some b then i else tag b, ?_, ?_⟩
  · simp [Instr.entryStore, MapKept.run_getObj_map h2, asInt, asIntOf, hfind, MapKept.run_setObj_map _ h2, Result.andThen, stM]
  · rw [stM_at h2, Array.size_modify]
  · intro j e' he'
    rw [Array.getElem?_modify] at he'
    by_cases hij : i = j
    · subst hij
      rw [if_pos rfl, hi] at he'
      simp only [Option.map_some, Option.some.injEq] at he'
      subst he'
      refine ⟨(h i e hi).1, d, g, n + 1, xs ++ [x], hk, ho2.kept hg3 (map_ne h2 ho2), by omega, fun y hy => ?_, fun b hb => if_pos hb⟩
      rcases List.mem_append.1 hy with hy | hy
      · obtain ⟨s, hs, hm⟩ := hx y hy
        exact ⟨s, (hs.kp hk12).kp (map_kp h2 hg3), .inl hm⟩
      · rw [List.mem_singleton.1 hy]
        exact ⟨has, hs.kp (map_kp h2 hg3), .inr ⟨rfl, rfl⟩⟩
    · rw [if_neg hij] at he'
      obtain ⟨q1, d', g', n', xs', q2, q3, q4, q5, q6⟩ := h j e' he'
      have hne : e'.val.ownBlock = none ∨ e'.val.ownBlock ≠ e.val.ownBlock := by
        cases hb : e'.val.ownBlock with
        | none => exact .inl rfl
        | some b =>
          refine .inr fun he => hij ?_
          obtain ⟨_, _, _, _, _, _, _, _, _, q6'⟩ := h i e hi
          rw [← q6 b hb, ← q6' b he.symm]
      have q3' := q3.kept hg hne
      refine ⟨q1, d', g', n', xs', q2, q3'.kept hg3 (map_ne h2 q3'), by omega, fun y hy => ?_, fun b hb => ?_⟩
      · obtain ⟨s, hs, hm⟩ := q5 y hy
        exact ⟨s, (hs.kp hk12).kp (map_kp h2 hg3), .inl hm⟩
      · refine (if_neg ?_).trans (q6 b hb)
        · intro hv'
          rcases hv with hv | hv
          · rcases hne with hne | hne
            · rw [hb] at hne; cases hne
            · exact hne (by rw [hb, ← hv, hv'])
          · rw [hv'] at hv
            injection hv with hv
            have := (q3.lt b hb).2
            omega
end
end Go.Proofs.YtnchgdjdfhfedaaGreatDoor

set_option linter.unusedSimpArgs false
set_option linter.unusedVariables false
namespace Go.Proofs.YtnchgdjdfhfedaaGreatDoor
open Go.RowKit Go.Ord Go.Baro

theorem nat64 (a : Nat) (h : a < 18446744073709551616) : (BitVec.ofInt 64 (a : Int)).toNat = a := by
  rw [BitVec.ofInt_natCast, BitVec.toNat_ofNat]; exact Nat.mod_eq_of_lt (by omega)
theorem wrap64u (a : Nat) (h : a < 18446744073709551616) : IntKind.u64.wrap (a : Int) = a := by
  simp [IntKind.wrap, IntKind.bits, IntKind.signed]
  omega
theorem or_u64 (a b : Nat) (ha : a < 512) (hb : b < 512) : bits .or .u64 (a : Int) (b : Int) = ((a ||| b : Nat) : Int) := by
  have hx : a ||| b < 2 ^ 9 := Nat.or_lt_two_pow (by omega) (by omega)
  show IntKind.u64.wrap ((BitVec.ofInt 64 (a : Int) ||| BitVec.ofInt 64 (b : Int)).toNat : Int) = _
  rw [BitVec.toNat_or, nat64 a (by omega), nat64 b (by omega)]
  exact wrap64u _ (by omega)
theorem and_u64 (a : Nat) (ha : a < 512) : bits .and .u64 (a : Int) 1 = ((a % 2 : Nat) : Int) := by
  show IntKind.u64.wrap ((BitVec.ofInt 64 (a : Int) &&& BitVec.ofInt 64 ((1 : Nat) : Int)).toNat : Int) = _
  rw [BitVec.toNat_and, nat64 a (by omega), nat64 1 (by omega), Nat.and_one_is_mod]
  exact wrap64u _ (by omega)
theorem pow_cast (i : Nat) : (2 : Int) ^ i = ((2 ^ i : Nat) : Int) := by simp
theorem pow9 {i : Nat} (hi : i < 9) : 2 ^ i < 512 := by
  have : 2 ^ i ≤ 2 ^ 8 := Nat.pow_le_pow_right (by omega) (by omega)
  omega
set_option maxHeartbeats 1000000 in
theorem set_has (w : World) (d i : Nat) (hd : d < 512) (hi : i < 9) : Calls Tryz.prog 68 #[.int .u64 d, .int .i64 i] w fun e w' => e = .returned (.bool (d.testBit i)) ∧ Below w.heap.size w w' := by
  have h0 := Below.refl w.heap.size w
  have he : (bits .and .u64 ((d : Int) / 2 ^ i) 1 == 1) = d.testBit i := by
    have hle : d / 2 ^ i ≤ d := Nat.div_le_self _ _
    rw [pow_cast, ← Int.natCast_ediv, and_u64 _ (by omega), Nat.testBit_eq_decide_div_mod_eq]
    by_cases h : d / 2 ^ i % 2 = 1
    · rw [h]; simp
    · have : d / 2 ^ i % 2 = 0 := by omega
      rw [this]; simp
  have HE := Lib.hid he
  clear he
  go_enter Tryz.func68, Tryz.ntmps68
  go_wp2
  go_ret
  exact ⟨ret_bool HE.out, h0⟩
set_option maxHeartbeats 1000000 in
theorem set_with (w : World) (d i : Nat) (hd : d < 512) (hi : i < 9) : Calls Tryz.prog 70 #[.int .u64 d, .int .i64 i] w fun e w' => e = .returned (.int .u64 ((d ||| 2 ^ i : Nat) : Int)) ∧ Below w.heap.size w w' := by
  have h0 := Below.refl w.heap.size w
  have he : bits .or .u64 (d : Int) (IntKind.u64.wrap (2 ^ i)) = ((d ||| 2 ^ i : Nat) : Int) := by
    have := pow9 hi
    rw [pow_cast, wrap64u _ (by omega), or_u64 _ _ hd (by omega)]
  have HE := Lib.hid he
  clear he
  go_enter Tryz.func70, Tryz.ntmps70
  go_wp2
  go_ret
  exact ⟨by rw [HE.out]; rfl, h0⟩
theorem bit_lt {d i : Nat} (hd : d < 512) (hi : i < 9) : d ||| 2 ^ i < 512 := by
  have := pow9 hi
  have : d ||| 2 ^ i < 2 ^ 9 := Nat.or_lt_two_pow (by omega) (by omega)
  omega
end Go.Proofs.YtnchgdjdfhfedaaGreatDoor
