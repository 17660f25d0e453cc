/- Of this claim's own texts these, one behind the other: LinSt2, RefLin3, LinSt3. No statement of the seat is proved here; no condition but those that stand at the theorems. -/
import Derived.Test.YtnchgdjdfhfedaaDoorPartAU
set_option linter.unusedSimpArgs false
set_option linter.unusedVariables false
namespace Go.Proofs.YtnchgdjdfhfedaaDoor
open Go.RowKit Go.Ord Go.Baro

set_option maxHeartbeats 1000000 in
theorem lin_mixed (w : World) (A : Option Addr) (n c : Nat) (xs : List Int) (h : QR w A n xs) (hn : n ≤ 20) : Calls Tryd.prog 103 #[.slice A n c] w fun e w' => (∃ g, e = .returned (.int .u64 g)) ∧ Below w.heap.size w w' := by
  have h0 := Below.refl w.heap.size w
  have hri := h.ri
  clear h
  go_enter Tryd.func103, Tryd.ntmps103
  go_wp2
  go_loopw [3, 11] (fun s i wr => ∃ (j : Nat) (y : Int), j ≤ n ∧ i = .int .i64 j ∧ s = .int .u64 y ∧ Below w.heap.size w wr) (fun _ i _ => n - (intOf i).toNat)
  case atStart => exact ⟨0, _, Nat.zero_le _, rfl, rfl, h0⟩
  case round =>
    obtain ⟨j, y, hj, rfl, rfl, hbel⟩ := hrel
    by_cases hjm : j < n
    · obtain ⟨b, o, x, rfl, hb, hcell, HX, hmem⟩ := (hri.below hbel).val hjm
      clear hmem
      go_wp2
      go_roundw
      case rel => exact ⟨j + 1, _, by omega, by go_num, rfl, hbel⟩
      case measure => simp [intOf]; omega
    · go_wp2
      go_ret
      exact ⟨⟨_, rfl⟩, hbel⟩
set_option maxHeartbeats 1000000 in
theorem q_digest (w : World) (A : Option Addr) (n c : Nat) (xs : List Int) (h : QR w A n xs) (hn : n ≤ 20) : Calls Tryd.prog 100 #[.slice A n c] w fun e w' => (∃ g, e = .returned (.int .u64 g)) ∧ Below w.heap.size w w' := by
  have HC := Lib.hid (lin_mixed w A n c xs h hn)
  clear h
  go_enter Tryd.func100, Tryd.ntmps100
  go_wp2_with fail
  refine HC.out.mono ?_
  rintro e w1 ⟨⟨g, rfl⟩, hb1⟩
  go_wp2
  go_ret
  exact ⟨⟨_, rfl⟩, hb1⟩
set_option maxHeartbeats 1000000 in
theorem s_digest (w : World) (A : Option Addr) (n c : Nat) (xs : List Int) (h : QR w A n xs) (hn : n ≤ 20) : Calls Tryd.prog 106 #[.slice A n c] w fun e w' => (∃ g, e = .returned (.int .u64 g)) ∧ Below w.heap.size w w' := by
  have HC := Lib.hid (lin_mixed w A n c xs h hn)
  clear h
  go_enter Tryd.func106, Tryd.ntmps106
  go_wp2_with fail
  refine HC.out.mono ?_
  rintro e w1 ⟨⟨g, rfl⟩, hb1⟩
  go_wp2
  go_ret
  exact ⟨⟨_, rfl⟩, hb1⟩
set_option maxHeartbeats 1000000 in
theorem lin_Clip (w : World) (A : Option Addr) (n c : Nat) (hn : n ≤ 20) (hc : n ≤ c) (hA : A = none → c = 0) : Calls Tryd.prog 77 #[.slice A n c] w fun e w' => e = .returned (.slice A n n) ∧ Below w.heap.size w w' := by
  have h0 := Below.refl w.heap.size w
  cases A with
  | none =>
    obtain rfl := hA rfl
    obtain rfl : n = 0 := by omega
    go_enter Tryd.func77, Tryd.ntmps77
    go_wp2
    go_ret
    exact ⟨rfl, h0⟩
  | some ad =>
    clear hA
    obtain ⟨b, o, q⟩ := ad
    go_enter Tryd.func77, Tryd.ntmps77
    go_wp2
    go_ret
    exact ⟨rfl, h0⟩
set_option maxHeartbeats 1000000 in
theorem lin_inserted (w : World) (A : Option Addr) (n c : Nat) (xs : List Int) (x : Int) (h : QR w A n xs) (hn : n ≤ 20) (hc : n ≤ c) (hA : A = none → c = 0) : Calls Tryd.prog 104 #[.slice A n c, .int .i64 x] w fun e w' => (∃ A' c', e = .returned (.slice A' (n + 1) c') ∧ n + 1 ≤ c' ∧ (A' = none → c' = 0) ∧ QR w' A' (n + 1) (xs ++ [x])) ∧ Below w.heap.size w w' := by
  have HC := Lib.hid (lin_Clip w A n c hn hc hA)
  have HRI := Lib.hid h.ri
  have hA0 : A = none → n = 0 := fun h => by have := hA h; omega
  have HA := Lib.hid hA0
  clear h hA0 hA
  go_enter Tryd.func104, Tryd.ntmps104
  go_wp2_with fail
  refine HC.out.mono ?_
  rintro e w1 ⟨rfl, hb1⟩
  have HR1 := Lib.hid ((HRI.out.below hb1).more (B' := w1.heap.size) hb1.size)
  go_wp2_with (at_builtin; go_must (refine app_full eltIntL w1 rfl (.tmp 6) (.tmp 8) rfl A n (xs.map (Value.int .i64)) rfl w1.heap.size HR1.out HA.out (Nat.le_refl _) 1 (by omega) [.int .i64 x] w1.heap.size rfl rfl rfl (by omega) (by omega) ?_); intro v' w2 hown hb2)
  rw [show xs.map (Value.int .i64) ++ [.int .i64 x] = (xs ++ [x]).map (Value.int .i64) by simp] at hown
  obtain ⟨A', c', rfl, hc', hA', hq⟩ := QR.own hown
  have HQ := Lib.hid hq
  have HA' := Lib.hid hA'
  clear hown hq hA'
  go_wp2
  go_ret
  exact ⟨⟨A', c', rfl, hc', HA'.out, HQ.out⟩, hb1.trans (hb2.mono hb1.size)⟩

set_option maxHeartbeats 1000000 in
theorem q_Equal (w : World) (A A' : Option Addr) (n c n' c' : Nat) (xs ys : List Int) (r : Bool) (h : QR w A n xs) (h' : QR w A' n' ys) (hn : n ≤ 20) (hn' : n' ≤ 20) (hr : r = true ↔ xs = ys) :
    Calls Tryd.prog 105 #[.slice A n c, .slice A' n' c'] w fun e w' => e = .returned (.bool r) ∧ Below w.heap.size w w' := by
  have h0 := Below.refl w.heap.size w
  have L1 := Lib.hid h.1
  have L2 := Lib.hid h'.1
  have HR := Lib.hid hr
  have hri := h.ri
  have hri' := h'.ri
  clear h h' hr
  by_cases hnn : n = n'
  · subst hnn
    go_enter Tryd.func105, Tryd.ntmps105
    go_wp2
    go_loopw [13] (fun i wr => ∃ j : Nat, j ≤ n ∧ i = .int .i64 j ∧ Hid (xs.take j = ys.take j) ∧ Below w.heap.size w wr) (fun i _ => n - (intOf i).toNat)
    case atStart => exact ⟨0, Nat.zero_le _, rfl, by show _ = _; simp, h0⟩
    case round =>
      obtain ⟨j, hj, rfl, HE, hbel⟩ := hrel
      by_cases hjm : j < n
      · obtain ⟨b, o, x, rfl, hb, hcell, HX, hmem⟩ := (hri.below hbel).val hjm
        obtain ⟨b', o', y, rfl, hb', hcell', HY, hmem'⟩ := (hri'.below hbel).val hjm
        clear hmem hmem'
        go_wp2
        refine region_two [0, 1, 2, 3, 4, 5, 6, 7, 8] [] (by kernel_rfl) (by kernel_rfl) ?_
        simp only [pick, List.map_cons, List.map_nil, List.getD_cons_zero, List.getD_cons_succ]
        by_cases hxy : x = y
        · subst hxy
          go_wp2
          go_roundw
          case rel =>
            refine ⟨j + 1, by omega, by go_num, ?_, hbel.drew⟩
            show _ = _
            rw [at_take HX.out, at_take HY.out, HE.out]
          case measure => simp [intOf]; omega
        · have hxy2 : (x != y) = true := by simp [hxy]
          have HXY := Lib.hid hxy
          clear hxy
          go_wp2
          go_ret
          refine ⟨?_, hbel.drew⟩
          cases r with
          | false => rfl
          | true =>
            have h1 := HR.out.1 rfl
            subst h1
            have h2 := HX.out
            rw [HY.out] at h2
            injection h2 with h2
            exact absurd h2.symm HXY.out
      · obtain rfl : n = j := by omega
        go_wp2
        go_ret
        refine ⟨ret_bool ?_, hbel⟩
        have h1 := HE.out
        rw [List.take_of_length_le (by rw [L1.out]; omega), List.take_of_length_le (by rw [L2.out]; omega)] at h1
        exact (HR.out.2 h1).symm
  · have HNN := Lib.hid hnn
    have hnn2 : ((n : Int) != (n' : Int)) = true := by simp; omega
    clear hnn
    go_enter Tryd.func105, Tryd.ntmps105
    go_wp2
    go_ret
    refine ⟨?_, h0⟩
    cases r with
    | false => rfl
    | true =>
      have h1 := congrArg List.length (HR.out.1 rfl)
      rw [L1.out, L2.out] at h1
      exact absurd h1 HNN.out
set_option maxHeartbeats 1000000 in
theorem q_same (w : World) (A A' : Option Addr) (n c n' c' : Nat) (xs ys : List Int) (r : Bool) (h : QR w A n xs) (h' : QR w A' n' ys) (hn : n ≤ 20) (hn' : n' ≤ 20) (hr : r = true ↔ ys = xs) :
    Calls Tryd.prog 102 #[.slice A n c, .iface 125 (.slice A' n' c')] w fun e w' => e = .returned (.bool r) ∧ Below w.heap.size w w' := by
  have HC := Lib.hid (q_Equal w A' A n' c' n c ys xs r h' h hn' hn hr)
  clear h h' hr
  have ta : (Instr.typeAssert (.iface 125 (.slice A' n' c')) 97 125 true).run Tryd.prog w = .ok (.tuple #[.slice A' n' c', .bool true]) w := by kernel_rfl
  go_enter Tryd.func102, Tryd.ntmps102
  go_wp2_with fail
  refine HC.out.mono ?_
  rintro e w1 ⟨rfl, hb1⟩
  go_wp2
  go_ret
  exact ⟨rfl, hb1⟩

set_option maxHeartbeats 1000000 in
theorem s_Equal (w : World) (A A' : Option Addr) (n c n' c' : Nat) (xs ys : List Int) (r : Bool) (h : QR w A n xs) (h' : QR w A' n' ys) (hn : n ≤ 20) (hn' : n' ≤ 20) (hr : r = true ↔ xs = ys) :
    Calls Tryd.prog 109 #[.slice A n c, .slice A' n' c'] w fun e w' => e = .returned (.bool r) ∧ Below w.heap.size w w' := by
  have h0 := Below.refl w.heap.size w
  have L1 := Lib.hid h.1
  have L2 := Lib.hid h'.1
  have HR := Lib.hid hr
  have hri := h.ri
  have hri' := h'.ri
  clear h h' hr
  by_cases hnn : n = n'
  · subst hnn
    go_enter Tryd.func109, Tryd.ntmps109
    go_wp2
    go_loopw [13] (fun i wr => ∃ j : Nat, j ≤ n ∧ i = .int .i64 j ∧ Hid (xs.take j = ys.take j) ∧ Below w.heap.size w wr) (fun i _ => n - (intOf i).toNat)
    case atStart => exact ⟨0, Nat.zero_le _, rfl, by show _ = _; simp, h0⟩
    case round =>
      obtain ⟨j, hj, rfl, HE, hbel⟩ := hrel
      by_cases hjm : j < n
      · obtain ⟨b, o, x, rfl, hb, hcell, HX, hmem⟩ := (hri.below hbel).val hjm
        obtain ⟨b', o', y, rfl, hb', hcell', HY, hmem'⟩ := (hri'.below hbel).val hjm
        clear hmem hmem'
        go_wp2
        refine region_two [0, 1, 2, 3, 4, 5, 6, 7, 8] [] (by kernel_rfl) (by kernel_rfl) ?_
        simp only [pick, List.map_cons, List.map_nil, List.getD_cons_zero, List.getD_cons_succ]
        by_cases hxy : x = y
        · subst hxy
          go_wp2
          go_roundw
          case rel =>
            refine ⟨j + 1, by omega, by go_num, ?_, hbel.drew⟩
            show _ = _
            rw [at_take HX.out, at_take HY.out, HE.out]
          case measure => simp [intOf]; omega
        · have hxy2 : (x != y) = true := by simp [hxy]
          have HXY := Lib.hid hxy
          clear hxy
          go_wp2
          go_ret
          refine ⟨?_, hbel.drew⟩
          cases r with
          | false => rfl
          | true =>
            have h1 := HR.out.1 rfl
            subst h1
            have h2 := HX.out
            rw [HY.out] at h2
            injection h2 with h2
            exact absurd h2.symm HXY.out
      · obtain rfl : n = j := by omega
        go_wp2
        go_ret
        refine ⟨ret_bool ?_, hbel⟩
        have h1 := HE.out
        rw [List.take_of_length_le (by rw [L1.out]; omega), List.take_of_length_le (by rw [L2.out]; omega)] at h1
        exact (HR.out.2 h1).symm
  · have HNN := Lib.hid hnn
    have hnn2 : ((n : Int) != (n' : Int)) = true := by simp; omega
    clear hnn
    go_enter Tryd.func109, Tryd.ntmps109
    go_wp2
    go_ret
    refine ⟨?_, h0⟩
    cases r with
    | false => rfl
    | true =>
      have h1 := congrArg List.length (HR.out.1 rfl)
      rw [L1.out, L2.out] at h1
      exact absurd h1 HNN.out
set_option maxHeartbeats 1000000 in
theorem s_same (w : World) (A A' : Option Addr) (n c n' c' : Nat) (xs ys : List Int) (r : Bool) (h : QR w A n xs) (h' : QR w A' n' ys) (hn : n ≤ 20) (hn' : n' ≤ 20) (hr : r = true ↔ ys = xs) :
    Calls Tryd.prog 108 #[.slice A n c, .iface 126 (.slice A' n' c')] w fun e w' => e = .returned (.bool r) ∧ Below w.heap.size w w' := by
  have HC := Lib.hid (s_Equal w A' A n' c' n c ys xs r h' h hn' hn hr)
  clear h h' hr
  have ta : (Instr.typeAssert (.iface 126 (.slice A' n' c')) 97 126 true).run Tryd.prog w = .ok (.tuple #[.slice A' n' c', .bool true]) w := by kernel_rfl
  go_enter Tryd.func108, Tryd.ntmps108
  go_wp2_with fail
  refine HC.out.mono ?_
  rintro e w1 ⟨rfl, hb1⟩
  go_wp2
  go_ret
  exact ⟨rfl, hb1⟩

/-- What next leaves: the state then, and the value. -/
def NxPost (T : TypeId) (v : Int) (nx : List Int) (w : World) (e : Ending) (w' : World) : Prop := (∃ A n c, e = .returned (.tuple #[.iface T (.slice A n c), .int .i64 v]) ∧ n ≤ c ∧ (A = none → c = 0) ∧ QR w' A n nx) ∧ Below w.heap.size w w'
set_option maxHeartbeats 1000000 in
theorem q_next (w : World) (A : Option Addr) (n c : Nat) (xs : List Int) (a : Ac) (h : QR w A n xs) (hn : n ≤ 19) (hc : n ≤ c) (hA : A = none → c = 0) :
    Calls Tryd.prog 101 #[.slice A n c, acA a] w (NxPost 125 (tel 3 xs a).1 (tel 3 xs a).2 w) := by
  obtain ⟨xb, xe, xp, xv, xa⟩ := a
  unfold acA
  have h0 := (Below.refl w.heap.size w).alloc (Nat.le_refl _) (Obj.cells #[.int .i64 xb, .int .i64 xe, .bool xp, .int .i64 xv, .int .i64 xa] 46)
  have bX := Box.newAt w 46 [.int .i64 xb, .int .i64 xe, .bool xp, .int .i64 xv, .int .i64 xa] w.heap.size rfl
  have lX := bX.lt
  have hq := h.kp (Kp.below h0)
  have L := Lib.hid h.1
  have HQ := Lib.hid hq
  have HA := Lib.hid hA
  dsimp only
  unfold tel
  rw [if_neg (by decide), if_neg (by decide)]
  cases xp with
  | true =>
    rw [if_pos rfl]
    clear h hq hA
    go_enter Tryd.func101, Tryd.ntmps101
    go_wp2
    refine region_first [0, 1, 2, 5, 6] (.cons 3 (seq [4, 7, 8] .nil)) (by kernel_rfl) (by kernel_rfl) ?_
    simp only [pick, List.map_cons, List.map_nil, List.getD_cons_zero, List.getD_cons_succ]
    go_wp2
    refine ord_call (by kernel_rfl) ?_
    simp only [pick, List.map_cons, List.map_nil, List.getD_cons_zero, List.getD_cons_succ]
    go_wp2_with fail
    refine (lin_inserted ((w.alloc (Obj.cells #[.int .i64 xb, .int .i64 xe, .bool true, .int .i64 xv, .int .i64 xa] 46)).drew) A n c xs xv (by exact HQ.out) (by omega) hc HA.out).mono ?_
    rintro e w1 ⟨⟨A', c', rfl, k1, k2, k3⟩, hb1⟩
    have hb2 := h0.drew.trans (hb1.mono (by show w.heap.size ≤ (w.alloc _).heap.size; omega))
    have HK2 := Lib.hid k2
    have HK3 := Lib.hid k3
    have HB1 := Lib.hid hb1
    clear k2 k3 hb1
    go_wp2
    refine ⟨ext_below HB1.out, ?_⟩
    refine ord_more [4, 7, 8] .nil (by kernel_rfl) ?_
    simp only [pick, List.map_cons, List.map_nil, List.getD_cons_zero, List.getD_cons_succ]
    go_wp2
    refine ord_done ?_
    go_wp2
    go_ret2
    exact ⟨⟨A', n + 1, c', rfl, k1, HK2.out, HK3.out⟩, hb2⟩
  | false =>
    rw [if_neg (by simp)]
    by_cases hn0 : n = 0
    · subst hn0
      have hx : xs = [] := List.eq_nil_of_length_eq_zero L.out
      subst hx
      rw [if_pos rfl]
      clear h hq hA
      go_enter Tryd.func101, Tryd.ntmps101
      go_wp2
      go_ret2
      exact ⟨⟨A, 0, c, rfl, hc, HA.out, HQ.out⟩, h0⟩
    · have hpos : 0 < n := by omega
      have hx : xs ≠ [] := by rintro rfl; have := L.out; simp at this; omega
      rw [if_neg hx, if_pos rfl]
      obtain ⟨b, o, x, rfl, hb, hcell, HX, hmem⟩ := hq.ri.val hpos
      have HW := Lib.hid (hq.win (i := 1) (m := n - 1) (by omega))
      rw [Nat.add_zero] at hcell
      have hne : ((n : Int) == 0) = false := by simp; omega
      have hx0 : xs.headD 0 = x := by
        have := HX.out
        cases xs with
        | nil => exact absurd rfl hx
        | cons y ys => simpa using this
      have htl : (xs.drop 1).take (n - 1) = xs.tail := by
        rw [List.take_of_length_le (by rw [List.length_drop, L.out]; omega), List.drop_one]
      rw [htl] at HW
      rw [hx0]
      clear h hq hA hmem hx hx0 htl HX
      by_cases hc1 : c = 1
      · subst hc1
        obtain rfl : n = 1 := by omega
        go_enter Tryd.func101, Tryd.ntmps101
        go_wp2
        refine region_two [0, 1, 2, 3, 4, 5, 6, 7] [] (by kernel_rfl) (by kernel_rfl) ?_
        simp only [pick, List.map_cons, List.map_nil, List.getD_cons_zero, List.getD_cons_succ]
        go_wp2
        go_ret2
        exact ⟨⟨_, _, _, rfl, by omega, (fun h => by cases h), ⟨HW.out.1, fun h => absurd h (by omega)⟩⟩, h0.drew⟩
      · go_enter Tryd.func101, Tryd.ntmps101
        go_wp2
        refine region_two [0, 1, 2, 3, 4, 5, 6, 7] [] (by kernel_rfl) (by kernel_rfl) ?_
        simp only [pick, List.map_cons, List.map_nil, List.getD_cons_zero, List.getD_cons_succ]
        go_wp2
        go_ret2
        exact ⟨⟨_, _, _, rfl, by omega, (fun h => by cases h), by exact HW.out⟩, h0.drew⟩
set_option maxHeartbeats 1000000 in
theorem s_next (w : World) (A : Option Addr) (n c : Nat) (xs : List Int) (a : Ac) (h : QR w A n xs) (hn : n ≤ 19) (hc : n ≤ c) (hA : A = none → c = 0) :
    Calls Tryd.prog 107 #[.slice A n c, acA a] w (NxPost 126 (tel 4 xs a).1 (tel 4 xs a).2 w) := by
  obtain ⟨xb, xe, xp, xv, xa⟩ := a
  unfold acA
  have h0 := (Below.refl w.heap.size w).alloc (Nat.le_refl _) (Obj.cells #[.int .i64 xb, .int .i64 xe, .bool xp, .int .i64 xv, .int .i64 xa] 46)
  have bX := Box.newAt w 46 [.int .i64 xb, .int .i64 xe, .bool xp, .int .i64 xv, .int .i64 xa] w.heap.size rfl
  have lX := bX.lt
  have hq := h.kp (Kp.below h0)
  have L := Lib.hid h.1
  have HQ := Lib.hid hq
  have HA := Lib.hid hA
  dsimp only
  unfold tel
  rw [if_neg (by decide), if_neg (by decide)]
  cases xp with
  | true =>
    rw [if_pos rfl]
    clear h hq hA
    go_enter Tryd.func107, Tryd.ntmps107
    go_wp2
    refine region_first [0, 1, 2, 5, 6] (.cons 3 (seq [4, 7, 8] .nil)) (by kernel_rfl) (by kernel_rfl) ?_
    simp only [pick, List.map_cons, List.map_nil, List.getD_cons_zero, List.getD_cons_succ]
    go_wp2
    refine ord_call (by kernel_rfl) ?_
    simp only [pick, List.map_cons, List.map_nil, List.getD_cons_zero, List.getD_cons_succ]
    go_wp2_with fail
    refine (lin_inserted ((w.alloc (Obj.cells #[.int .i64 xb, .int .i64 xe, .bool true, .int .i64 xv, .int .i64 xa] 46)).drew) A n c xs xv (by exact HQ.out) (by omega) hc HA.out).mono ?_
    rintro e w1 ⟨⟨A', c', rfl, k1, k2, k3⟩, hb1⟩
    have hb2 := h0.drew.trans (hb1.mono (by show w.heap.size ≤ (w.alloc _).heap.size; omega))
    have HK2 := Lib.hid k2
    have HK3 := Lib.hid k3
    have HB1 := Lib.hid hb1
    clear k2 k3 hb1
    go_wp2
    refine ⟨ext_below HB1.out, ?_⟩
    refine ord_more [4, 7, 8] .nil (by kernel_rfl) ?_
    simp only [pick, List.map_cons, List.map_nil, List.getD_cons_zero, List.getD_cons_succ]
    go_wp2
    refine ord_done ?_
    go_wp2
    go_ret2
    exact ⟨⟨A', n + 1, c', rfl, k1, HK2.out, HK3.out⟩, hb2⟩
  | false =>
    rw [if_neg (by simp)]
    by_cases hn0 : n = 0
    · subst hn0
      have hx : xs = [] := List.eq_nil_of_length_eq_zero L.out
      subst hx
      rw [if_pos rfl]
      clear h hq hA
      go_enter Tryd.func107, Tryd.ntmps107
      go_wp2
      go_ret2
      exact ⟨⟨A, 0, c, rfl, hc, HA.out, HQ.out⟩, h0⟩
    · have hpos : 0 < n := by omega
      have hx : xs ≠ [] := by rintro rfl; have := L.out; simp at this; omega
      rw [if_neg hx, if_neg (by decide)]
      obtain ⟨b, o, x, rfl, hb, hcell, HX, hmem⟩ := hq.ri.val (i := n - 1) (by omega)
      have HW := Lib.hid (hq.win (i := 0) (m := n - 1) (by omega))
      have hne : ((n : Int) == 0) = false := by simp; omega
      have hx0 : xs.getLastD 0 = x := by
        have h2 := HX.out
        rw [← L.out, ← List.getLast?_eq_getElem?] at h2
        rw [List.getLastD_eq_getLast?, h2]
        rfl
      have htl : (xs.drop 0).take (n - 1) = xs.dropLast := by
        rw [List.drop_zero, ← L.out, List.dropLast_eq_take]
      rw [htl] at HW
      rw [hx0]
      have hn1 : ((n : Int) - 1) = ((n - 1 : Nat) : Int) := by omega
      clear h hq hA hmem hx hx0 htl HX
      go_enter Tryd.func107, Tryd.ntmps107
      go_wp2
      refine region_two [0, 1, 2, 3, 4, 5, 6, 7, 8, 9] [] (by kernel_rfl) (by kernel_rfl) ?_
      simp only [pick, List.map_cons, List.map_nil, List.getD_cons_zero, List.getD_cons_succ]
      go_wp2
      go_ret2
      exact ⟨⟨_, _, _, rfl, by omega, (fun h => by cases h), by exact HW.out⟩, h0.drew⟩
end Go.Proofs.YtnchgdjdfhfedaaDoor

set_option linter.unusedSimpArgs false
set_option linter.unusedVariables false
namespace Go.Baro
open Go.RowKit
theorem RA.win {w : World} {B n b o : Nat} {ls : List Ac} (h : RA w B (some ⟨b, o, none⟩) n ls) {i m : Nat} (hi : i + m ≤ n) : RA w B (some ⟨b, o + i * 5, none⟩) m ((ls.drop i).take m) := by
  have hl := h.len
  refine ⟨by rw [flatMap_len acV_len]; simp; omega, fun h0 => ?_⟩
  obtain ⟨b', o', hA, hb, hc⟩ := Rd.at_ h (by omega)
  injection hA with hA
  injection hA with hA1 hA2
  subst hA1 hA2
  refine ⟨b, o + i * 5, rfl, hb, fun j hj => ?_⟩
  have hq : j % 5 < 5 := Nat.mod_lt _ (by omega)
  have hj5 : j = j / 5 * 5 + j % 5 := by omega
  have hp : j / 5 < m := by omega
  have hx : i + j / 5 < ls.length := by omega
  have e1 : ((ls.drop i).take m)[j / 5]? = some ls[i + j / 5] := by
    rw [List.getElem?_take_of_lt hp, List.getElem?_drop, List.getElem?_eq_getElem hx]
  rw [show o + i * 5 + j = o + ((i + j / 5) * 5 + j % 5) by omega, hc _ (by omega), flatMap_at acV_len ls _ _ _ (List.getElem?_eq_getElem hx) hq]
  conv => rhs; rw [hj5]
  rw [flatMap_at acV_len _ _ _ _ e1 hq]
/-- What comes first. -/
def cand (k : Int) (has : List Int) (left : List Ac) (i : Nat) : Prop := ∃ a, left[i]? = some a ∧ (∀ b ∈ left, b.e ≠ -1 → a.b ≤ b.e) ∧ (a.e ≠ -1 → (tel k has a).1 = a.v) ∧ Lin k (tel k has a).2 (left.eraseIdx i)
theorem lin_cand {k : Int} {has : List Int} {left : List Ac} : Lin k has left ↔ (∀ a ∈ left, a.e = -1) ∨ ∃ i, cand k has left i := lin_iff
theorem cand_lt {k : Int} {has : List Int} {left : List Ac} {i : Nat} (h : cand k has left i) : i < left.length := by
  obtain ⟨a, h, _⟩ := h
  exact (List.getElem?_eq_some_iff.1 h).1
theorem tel_len (k : Int) (has : List Int) (a : Ac) : (tel k has a).2.length ≤ has.length + 1 ∧ (k < 3 → 1 ≤ k → has.length = 1 → (tel k has a).2.length = 1) := by
  unfold tel
  by_cases h1 : k = 1
  · rw [if_pos h1]
    split
    · exact ⟨by simp, fun _ _ _ => rfl⟩
    · exact ⟨by simp, fun _ _ h => h⟩
  rw [if_neg h1]
  by_cases h2 : k = 2
  · rw [if_pos h2]; exact ⟨by simp, fun _ _ _ => rfl⟩
  rw [if_neg h2]
  refine ⟨?_, fun h3 h4 => by omega⟩
  split
  · simp
  · split
    · simp
    · split
      · simp; omega
      · simp; omega
end Go.Baro
namespace Go.Proofs.YtnchgdjdfhfedaaDoor
open Go.RowKit Go.Ord Go.Baro

theorem eltAct : Elt Tryd.prog 39 46 (.agg #[.int .i64 0, .int .i64 0, .bool false, .int .i64 0, .int .i64 0]) 5 40 := Elt.mk' Tryd.underlying39 (by kernel_rfl) rfl (by decide)
theorem acV_one (l : List Ac) : ∀ u ∈ l.flatMap acV, u.oneCell' = true := by
  intro u hu
  simp only [List.mem_flatMap, acV, List.mem_cons, List.not_mem_nil, or_false] at hu
  obtain ⟨a, _, h⟩ := hu
  rcases h with rfl | rfl | rfl | rfl | rfl <;> rfl

theorem ra_none {w : World} {B n : Nat} {A A' : Option Addr} {ls : List Ac} (h : RA w B A n ls) (h0 : n = 0) : Rd w B 5 A' n (ls.flatMap acV) := ⟨Rd.len h, fun h => absurd h (by omega)⟩

end Go.Proofs.YtnchgdjdfhfedaaDoor

set_option linter.unusedSimpArgs false
set_option linter.unusedVariables false
namespace Go.Proofs.YtnchgdjdfhfedaaDoor
open Go.RowKit Go.Ord Go.Baro

/-- The state v of an object of kind k has these numbers. -/
def StV (w : World) (k : Int) (v : Value) (has : List Int) : Prop :=
  (k = 1 ∧ ∃ x, v = .iface 123 (.int .i64 x) ∧ has = [x] ∧ inW x) ∨ (k = 2 ∧ ∃ x, v = .iface 124 (.int .i64 x) ∧ has = [x] ∧ inW x) ∨
  (k = 3 ∧ ∃ A n c, v = .iface 125 (.slice A n c) ∧ n ≤ c ∧ n ≤ 20 ∧ (A = none → c = 0) ∧ QR w A n has) ∨ (k = 4 ∧ ∃ A n c, v = .iface 126 (.slice A n c) ∧ n ≤ c ∧ n ≤ 20 ∧ (A = none → c = 0) ∧ QR w A n has)
theorem StV.kp {w w' : World} {k : Int} {v : Value} {has : List Int} (h : StV w k v has) (hk : Kp w w') : StV w' k v has := by
  rcases h with h | h | ⟨h0, A, n, c, h1, h2, h3, h4, h5⟩ | ⟨h0, A, n, c, h1, h2, h3, h4, h5⟩
  · exact .inl h
  · exact .inr (.inl h)
  · exact .inr (.inr (.inl ⟨h0, A, n, c, h1, h2, h3, h4, h5.kp hk⟩))
  · exact .inr (.inr (.inr ⟨h0, A, n, c, h1, h2, h3, h4, h5.kp hk⟩))
theorem StV.one {w : World} {k : Int} {v : Value} {has : List Int} (h : StV w k v has) : v.oneCell' = true := by
  rcases h with ⟨_, x, rfl, _⟩ | ⟨_, x, rfl, _⟩ | ⟨_, A, n, c, rfl, _⟩ | ⟨_, A, n, c, rfl, _⟩ <;> rfl
/-- The method of this name of a value of type T is the function F. -/
def Meth (name : String) (T : TypeId) (u : Value) (F : FuncId) : Prop := (∀ (n : Nat) (w : World), (method (n + 1) T u name).run Tryd.prog w = .ok (F, u) w) ∧ ∀ (args : Array Value) (w : World), (callFunc F args).run Tryd.prog w = .ok (.enter F args) w
theorem st_digest {w : World} {k : Int} {v : Value} {has : List Int} (h : StV w k v has) : ∃ T u F, v = .iface T u ∧ Meth "barograph/lin.digest" T u F ∧ Calls Tryd.prog F #[u] w fun e w' => (∃ g, e = .returned (.int .u64 g)) ∧ Below w.heap.size w w' := by
  rcases h with ⟨_, x, rfl, _⟩ | ⟨_, x, rfl, _⟩ | ⟨_, A, n, c, rfl, h2, h3, h4, h5⟩ | ⟨_, A, n, c, rfl, h2, h3, h4, h5⟩
  · exact ⟨_, _, 94, rfl, ⟨fun n w => by kernel_rfl, fun n w => by kernel_rfl⟩, reg_digest w x⟩
  · exact ⟨_, _, 97, rfl, ⟨fun n w => by kernel_rfl, fun n w => by kernel_rfl⟩, cnt_digest w x⟩
  · exact ⟨_, _, 100, rfl, ⟨fun n w => by kernel_rfl, fun n w => by kernel_rfl⟩, q_digest w A n c has h5 h3⟩
  · exact ⟨_, _, 106, rfl, ⟨fun n w => by kernel_rfl, fun n w => by kernel_rfl⟩, s_digest w A n c has h5 h3⟩
theorem st_same {w : World} {k : Int} {v : Value} {has : List Int} (h : StV w k v has) : ∃ T u F, v = .iface T u ∧ Meth "barograph/lin.same" T u F ∧
    ∀ w' v' ys r, StV w' k v has → StV w' k v' ys → (r = true ↔ ys = has) → Calls Tryd.prog F #[u, v'] w' fun e w'' => e = .returned (.bool r) ∧ Below w'.heap.size w' w'' := by
  rcases h with ⟨h0, x, rfl, hx, hx2⟩ | ⟨h0, x, rfl, hx, hx2⟩ | ⟨h0, A, n, c, rfl, h2, h3, h4, h5⟩ | ⟨h0, A, n, c, rfl, h2, h3, h4, h5⟩
  · subst h0 hx
    refine ⟨_, _, 96, rfl, ⟨fun n w => by kernel_rfl, fun n w => by kernel_rfl⟩, fun w' v' ys r h1 h2 hr => ?_⟩
    rcases h2 with ⟨_, y, rfl, hy, _⟩ | ⟨h0, _⟩ | ⟨h0, _⟩ | ⟨h0, _⟩
    · subst hy
      exact reg_same w' x y r (by rw [hr]; simp)
    all_goals omega
  · subst h0 hx
    refine ⟨_, _, 99, rfl, ⟨fun n w => by kernel_rfl, fun n w => by kernel_rfl⟩, fun w' v' ys r h1 h2 hr => ?_⟩
    rcases h2 with ⟨h0, _⟩ | ⟨_, y, rfl, hy, _⟩ | ⟨h0, _⟩ | ⟨h0, _⟩
    · omega
    · subst hy
      exact cnt_same w' x y r (by rw [hr]; simp)
    all_goals omega
  · subst h0
    refine ⟨_, _, 102, rfl, ⟨fun n w => by kernel_rfl, fun n w => by kernel_rfl⟩, fun w' v' ys r h1 h2 hr => ?_⟩
    have h5' : QR w' A n has := by
      rcases h1 with ⟨h0, _⟩ | ⟨h0, _⟩ | ⟨_, A', n', c', he, _, _, _, hq⟩ | ⟨h0, _⟩
      · omega
      · omega
      · simp only [Value.iface.injEq, Value.slice.injEq, true_and] at he
        obtain ⟨rfl, rfl, rfl⟩ := he
        exact hq
      · omega
    rcases h2 with ⟨h0, _⟩ | ⟨h0, _⟩ | ⟨_, A', n', c', rfl, _, g3, _, g5⟩ | ⟨h0, _⟩
    · omega
    · omega
    · exact q_same w' A A' n c n' c' has ys r h5' g5 h3 g3 hr
    · omega
  · subst h0
    refine ⟨_, _, 108, rfl, ⟨fun n w => by kernel_rfl, fun n w => by kernel_rfl⟩, fun w' v' ys r h1 h2 hr => ?_⟩
    have h5' : QR w' A n has := by
      rcases h1 with ⟨h0, _⟩ | ⟨h0, _⟩ | ⟨h0, _⟩ | ⟨_, A', n', c', he, _, _, _, hq⟩
      · omega
      · omega
      · omega
      · simp only [Value.iface.injEq, Value.slice.injEq, true_and] at he
        obtain ⟨rfl, rfl, rfl⟩ := he
        exact hq
    rcases h2 with ⟨h0, _⟩ | ⟨h0, _⟩ | ⟨h0, _⟩ | ⟨_, A', n', c', rfl, _, g3, _, g5⟩
    · omega
    · omega
    · omega
    · exact s_same w' A A' n c n' c' has ys r h5' g5 h3 g3 hr
/-- What next leaves. -/
def StPost (k : Int) (v : Int) (nx : List Int) (w : World) (e : Ending) (w' : World) : Prop := (∃ v', e = .returned (.tuple #[v', .int .i64 v]) ∧ StV w' k v' nx) ∧ Below w.heap.size w w'
theorem st_next {w : World} {k : Int} {v : Value} {has : List Int} {a : Ac} (h : StV w k v has) (ha : okA k a) (hi : inA a) (hl : has.length ≤ 15) : ∃ T u F, v = .iface T u ∧ Meth "barograph/lin.next" T u F ∧ Calls Tryd.prog F #[u, acA a] w (StPost k (tel k has a).1 (tel k has a).2 w) := by
  rcases h with ⟨h0, x, rfl, hx, hx2⟩ | ⟨h0, x, rfl, hx, hx2⟩ | ⟨h0, A, n, c, rfl, h2, h3, h4, h5⟩ | ⟨h0, A, n, c, rfl, h2, h3, h4, h5⟩
  · subst h0 hx
    refine ⟨_, _, 95, rfl, ⟨fun n w => by kernel_rfl, fun n w => by kernel_rfl⟩, (reg_next w x a).mono ?_⟩
    rintro e w' ⟨rfl, hb⟩
    unfold tel
    rw [if_pos rfl]
    by_cases hp : a.put = true
    · rw [if_pos hp, if_pos hp]
      exact ⟨⟨_, rfl, .inl ⟨rfl, _, rfl, rfl, hi.2.2.1⟩⟩, hb⟩
    · rw [if_neg hp, if_neg hp]
      exact ⟨⟨_, rfl, .inl ⟨rfl, _, rfl, rfl, hx2⟩⟩, hb⟩
  · subst h0 hx
    refine ⟨_, _, 98, rfl, ⟨fun n w => by kernel_rfl, fun n w => by kernel_rfl⟩, (cnt_next w x a hx2 (fun hp => ?_)).mono ?_⟩
    · rcases ha.2.2.2.1 with h | h
      · exact h
      · rw [hp] at h; exact absurd h.2 (by simp)
    · rintro e w' ⟨rfl, hb⟩
      unfold tel
      rw [if_neg (by decide), if_pos rfl]
      exact ⟨⟨_, rfl, .inr (.inl ⟨rfl, _, rfl, rfl, inW_wrap _⟩)⟩, hb⟩
  · subst h0
    have hn : n ≤ 15 := by rw [← h5.1]; exact hl
    refine ⟨_, _, 101, rfl, ⟨fun n w => by kernel_rfl, fun n w => by kernel_rfl⟩, (q_next w A n c has a h5 (by omega) h2 h4).mono ?_⟩
    rintro e w' ⟨⟨A', n', c', rfl, g1, g2, g3⟩, hb⟩
    have hn' : n' ≤ 20 := by
      have h1 := (tel_len 3 has a).1
      rw [g3.1, h5.1] at h1
      omega
    exact ⟨⟨_, rfl, .inr (.inr (.inl ⟨rfl, A', n', c', rfl, g1, hn', g2, g3⟩))⟩, hb⟩
  · subst h0
    have hn : n ≤ 15 := by rw [← h5.1]; exact hl
    refine ⟨_, _, 107, rfl, ⟨fun n w => by kernel_rfl, fun n w => by kernel_rfl⟩, (s_next w A n c has a h5 (by omega) h2 h4).mono ?_⟩
    rintro e w' ⟨⟨A', n', c', rfl, g1, g2, g3⟩, hb⟩
    have hn' : n' ≤ 20 := by
      have h1 := (tel_len 4 has a).1
      rw [g3.1, h5.1] at h1
      omega
    exact ⟨⟨_, rfl, .inr (.inr (.inr ⟨rfl, A', n', c', rfl, g1, hn', g2, g3⟩))⟩, hb⟩

set_option maxHeartbeats 2000000 in
/-- slices.IndexFunc over visited states. -/
theorem lin_IndexSame (w : World) (A : Option Addr) (n c : Nat) (k : Int) (v : Value) (has : List Int) (xs : List Value) (S : List Int → Prop) (h : Rd w w.heap.size 1 A n xs) (hv : StV w k v has) (hx : ∀ x ∈ xs, ∃ s, StV w k x s ∧ S s) (hn : n ≤ 1000000000000) :
    Calls Tryd.prog 75 #[.slice A n c, .func (.method "barograph/lin.same") #[v] #[]] w fun e w' => (∃ i : Int, e = .returned (.int .i64 i) ∧ -1 ≤ i ∧ i ≤ 1000000000000 ∧ (0 ≤ i → S has)) ∧ Below w.heap.size w w' := by
  obtain ⟨T, u, F, rfl, hm, hsame⟩ := st_same hv
  have h0 := Below.refl w.heap.size w
  have HS := Lib.hid hsame
  have HV := Lib.hid hv
  have HX := Lib.hid hx
  have HL := Lib.hid h.len
  clear hsame hv hx
  go_enter Tryd.func75, Tryd.ntmps75
  go_wp2
  go_loopw [8] (fun i wr => ∃ j : Nat, j ≤ n ∧ i = .int .i64 j ∧ Below w.heap.size w wr) (fun i _ => n - (intOf i).toNat)
  case atStart => exact ⟨0, Nat.zero_le _, rfl, h0⟩
  case round =>
    obtain ⟨j, hj, rfl, hbel⟩ := hrel
    have hsz := hbel.size
    have hkp := Kp.below hbel
    by_cases hjm : j < n
    · obtain ⟨b, o, rfl, hb, hcs⟩ := (h.below hbel).at_ (by omega)
      have hjl : j < xs.length := by rw [HL.out]; omega
      have hcell := hcs j (by omega)
      rw [List.getElem?_eq_getElem hjl] at hcell
      obtain ⟨s, hs1, hs2⟩ := HX.out xs[j] (List.getElem_mem hjl)
      obtain ⟨y, hy⟩ : ∃ y, xs[j] = y := ⟨_, rfl⟩
      rw [hy] at hcell hs1
      obtain ⟨r, hr⟩ := bool_of (s = has)
      have HR := Lib.hid hr
      have HS1 := Lib.hid (hs1.kp hkp)
      have HS2 := Lib.hid hs2
      have hm1 := hm.1 276 wr
      have hm2 := hm.2 #[u, y] wr
      have hy1 := hs1.one
      clear hr hs1 hs2 hy hcs hjl
      go_wp2_with fail
      refine (HS.out wr y s r (HV.out.kp hkp) HS1.out HR.out).mono ?_
      rintro e w1 ⟨rfl, hb1⟩
      have hb2 := hbel.trans (hb1.mono hsz)
      cases r with
      | true =>
        go_wp2
        go_ret
        refine ⟨⟨j, rfl, by omega, by omega, fun _ => ?_⟩, hb2⟩
        have := HR.out.1 (by first | rfl | trivial)
        subst this
        exact HS2.out
      | false =>
        go_wp2
        go_roundw
        case rel => exact ⟨j + 1, by omega, by go_num, hb2⟩
        case measure => simp [intOf]; omega
    · go_wp2
      go_ret
      exact ⟨⟨-1, rfl, by omega, by omega, fun h => by omega⟩, hbel⟩

set_option maxHeartbeats 1000000 in
theorem lin_ContainsSame (w : World) (A : Option Addr) (n c : Nat) (k : Int) (v : Value) (has : List Int) (xs : List Value) (S : List Int → Prop) (h : Rd w w.heap.size 1 A n xs) (hv : StV w k v has) (hx : ∀ x ∈ xs, ∃ s, StV w k x s ∧ S s) (hn : n ≤ 1000000000000) :
    Calls Tryd.prog 71 #[.slice A n c, .func (.method "barograph/lin.same") #[v] #[]] w fun e w' => (∃ r : Bool, e = .returned (.bool r) ∧ (r = true → S has)) ∧ Below w.heap.size w w' := by
  have HC := Lib.hid (lin_IndexSame w A n c k v has xs S h hv hx hn)
  clear h hv hx
  go_enter Tryd.func71, Tryd.ntmps71
  go_wp2_with fail
  refine HC.out.mono ?_
  rintro e w1 ⟨⟨i, rfl, h1, h2, h3⟩, hb1⟩
  have H3 := Lib.hid h3
  clear h3
  go_wp2
  go_ret
  exact ⟨⟨_, rfl, fun hh => H3.out (by simpa using hh)⟩, hb1⟩
end Go.Proofs.YtnchgdjdfhfedaaDoor
