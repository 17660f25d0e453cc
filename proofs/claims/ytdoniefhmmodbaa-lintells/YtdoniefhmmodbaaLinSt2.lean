/- What the methods of the states of lin do: queues and stacks. No statement of the seat is proved here; no condition. -/
import Derived.Test.YtdoniefhmmodbaaLinSt1
import Derived.Test.YtdoniefhmmodbaaRefLin2
set_option linter.unusedSimpArgs false
set_option linter.unusedVariables false
namespace Go.Proofs.Ytdoniefhmmodbaa
open Go.RowKit Go.Ord Go.Baro

set_option maxHeartbeats 1000000 in
theorem lin_mixed (w : World) (A : Option Addr) (n c : Nat) (xs : List Int) (h : QR w A n xs) (hn : n ≤ 20) : Calls Try.prog 58 #[.slice A n c] w fun e w' => (∃ g, e = .returned (.int .u64 g)) ∧ Below w.heap.size w w' := by
  have h0 := Below.refl w.heap.size w
  have hri := h.ri
  clear h
  go_enter Try.func58, Try.ntmps58
  go_wp2
  go_loopw [3, 11] (fun s i wr => ∃ (j : Nat) (y : Int), j ≤ n ∧ i = .int .i64 j ∧ s = .int .u64 y ∧ Below w.heap.size w wr) (fun _ i _ => n - (intOf i).toNat)
  case atStart => exact ⟨0, _, Nat.zero_le _, rfl, rfl, h0⟩
  case round =>
    obtain ⟨j, y, hj, rfl, rfl, hbel⟩ := hrel
    by_cases hjm : j < n
    · obtain ⟨b, o, x, rfl, hb, hcell, HX, hmem⟩ := (hri.below hbel).val hjm
      clear hmem
      go_wp2
      go_roundw
      case rel => exact ⟨j + 1, _, by omega, by go_num, rfl, hbel⟩
      case measure => simp [intOf]; omega
    · go_wp2
      go_ret
      exact ⟨⟨_, rfl⟩, hbel⟩
set_option maxHeartbeats 1000000 in
theorem q_digest (w : World) (A : Option Addr) (n c : Nat) (xs : List Int) (h : QR w A n xs) (hn : n ≤ 20) : Calls Try.prog 55 #[.slice A n c] w fun e w' => (∃ g, e = .returned (.int .u64 g)) ∧ Below w.heap.size w w' := by
  have HC := Lib.hid (lin_mixed w A n c xs h hn)
  clear h
  go_enter Try.func55, Try.ntmps55
  go_wp2_with fail
  refine HC.out.mono ?_
  rintro e w1 ⟨⟨g, rfl⟩, hb1⟩
  go_wp2
  go_ret
  exact ⟨⟨_, rfl⟩, hb1⟩
set_option maxHeartbeats 1000000 in
theorem s_digest (w : World) (A : Option Addr) (n c : Nat) (xs : List Int) (h : QR w A n xs) (hn : n ≤ 20) : Calls Try.prog 62 #[.slice A n c] w fun e w' => (∃ g, e = .returned (.int .u64 g)) ∧ Below w.heap.size w w' := by
  have HC := Lib.hid (lin_mixed w A n c xs h hn)
  clear h
  go_enter Try.func62, Try.ntmps62
  go_wp2_with fail
  refine HC.out.mono ?_
  rintro e w1 ⟨⟨g, rfl⟩, hb1⟩
  go_wp2
  go_ret
  exact ⟨⟨_, rfl⟩, hb1⟩
set_option maxHeartbeats 1000000 in
theorem lin_Clip (w : World) (A : Option Addr) (n c : Nat) (hn : n ≤ 20) (hc : n ≤ c) (hA : A = none → c = 0) : Calls Try.prog 61 #[.slice A n c] w fun e w' => e = .returned (.slice A n n) ∧ Below w.heap.size w w' := by
  have h0 := Below.refl w.heap.size w
  cases A with
  | none =>
    obtain rfl := hA rfl
    obtain rfl : n = 0 := by omega
    go_enter Try.func61, Try.ntmps61
    go_wp2
    go_ret
    exact ⟨rfl, h0⟩
  | some ad =>
    clear hA
    obtain ⟨b, o, q⟩ := ad
    go_enter Try.func61, Try.ntmps61
    go_wp2
    go_ret
    exact ⟨rfl, h0⟩
set_option maxHeartbeats 1000000 in
theorem lin_inserted (w : World) (A : Option Addr) (n c : Nat) (xs : List Int) (x : Int) (h : QR w A n xs) (hn : n ≤ 20) (hc : n ≤ c) (hA : A = none → c = 0) : Calls Try.prog 59 #[.slice A n c, .int .i64 x] w fun e w' => (∃ A' c', e = .returned (.slice A' (n + 1) c') ∧ n + 1 ≤ c' ∧ (A' = none → c' = 0) ∧ QR w' A' (n + 1) (xs ++ [x])) ∧ Below w.heap.size w w' := by
  have HC := Lib.hid (lin_Clip w A n c hn hc hA)
  have HRI := Lib.hid h.ri
  have hA0 : A = none → n = 0 := fun h => by have := hA h; omega
  have HA := Lib.hid hA0
  clear h hA0 hA
  go_enter Try.func59, Try.ntmps59
  go_wp2_with fail
  refine HC.out.mono ?_
  rintro e w1 ⟨rfl, hb1⟩
  have HR1 := Lib.hid ((HRI.out.below hb1).more (B' := w1.heap.size) hb1.size)
  go_wp2_with (at_builtin; go_must (refine app_full eltIntL w1 rfl (.tmp 6) (.tmp 8) rfl A n (xs.map (Value.int .i64)) rfl w1.heap.size HR1.out HA.out (Nat.le_refl _) 1 (by omega) [.int .i64 x] w1.heap.size rfl rfl rfl (by omega) (by omega) ?_); intro v' w2 hown hb2)
  rw [show xs.map (Value.int .i64) ++ [.int .i64 x] = (xs ++ [x]).map (Value.int .i64) by simp] at hown
  obtain ⟨A', c', rfl, hc', hA', hq⟩ := QR.own hown
  have HQ := Lib.hid hq
  have HA' := Lib.hid hA'
  clear hown hq hA'
  go_wp2
  go_ret
  exact ⟨⟨A', c', rfl, hc', HA'.out, HQ.out⟩, hb1.trans (hb2.mono hb1.size)⟩

set_option maxHeartbeats 1000000 in
theorem q_Equal (w : World) (A A' : Option Addr) (n c n' c' : Nat) (xs ys : List Int) (r : Bool) (h : QR w A n xs) (h' : QR w A' n' ys) (hn : n ≤ 20) (hn' : n' ≤ 20) (hr : r = true ↔ xs = ys) :
    Calls Try.prog 60 #[.slice A n c, .slice A' n' c'] w fun e w' => e = .returned (.bool r) ∧ Below w.heap.size w w' := by
  have h0 := Below.refl w.heap.size w
  have L1 := Lib.hid h.1
  have L2 := Lib.hid h'.1
  have HR := Lib.hid hr
  have hri := h.ri
  have hri' := h'.ri
  clear h h' hr
  by_cases hnn : n = n'
  · subst hnn
    go_enter Try.func60, Try.ntmps60
    go_wp2
    go_loopw [13] (fun i wr => ∃ j : Nat, j ≤ n ∧ i = .int .i64 j ∧ Hid (xs.take j = ys.take j) ∧ Below w.heap.size w wr) (fun i _ => n - (intOf i).toNat)
    case atStart => exact ⟨0, Nat.zero_le _, rfl, by show _ = _; simp, h0⟩
    case round =>
      obtain ⟨j, hj, rfl, HE, hbel⟩ := hrel
      by_cases hjm : j < n
      · obtain ⟨b, o, x, rfl, hb, hcell, HX, hmem⟩ := (hri.below hbel).val hjm
        obtain ⟨b', o', y, rfl, hb', hcell', HY, hmem'⟩ := (hri'.below hbel).val hjm
        clear hmem hmem'
        go_wp2
        refine region_two [0, 1, 2, 3, 4, 5, 6, 7, 8] [] (by kernel_rfl) (by kernel_rfl) ?_
        simp only [pick, List.map_cons, List.map_nil, List.getD_cons_zero, List.getD_cons_succ]
        by_cases hxy : x = y
        · subst hxy
          go_wp2
          go_roundw
          case rel =>
            refine ⟨j + 1, by omega, by go_num, ?_, hbel.drew⟩
            show _ = _
            rw [at_take HX.out, at_take HY.out, HE.out]
          case measure => simp [intOf]; omega
        · have hxy2 : (x != y) = true := by simp [hxy]
          have HXY := Lib.hid hxy
          clear hxy
          go_wp2
          go_ret
          refine ⟨?_, hbel.drew⟩
          cases r with
          | false => rfl
          | true =>
            have h1 := HR.out.1 rfl
            subst h1
            have h2 := HX.out
            rw [HY.out] at h2
            injection h2 with h2
            exact absurd h2.symm HXY.out
      · obtain rfl : n = j := by omega
        go_wp2
        go_ret
        refine ⟨ret_bool ?_, hbel⟩
        have h1 := HE.out
        rw [List.take_of_length_le (by rw [L1.out]; omega), List.take_of_length_le (by rw [L2.out]; omega)] at h1
        exact (HR.out.2 h1).symm
  · have HNN := Lib.hid hnn
    have hnn2 : ((n : Int) != (n' : Int)) = true := by simp; omega
    clear hnn
    go_enter Try.func60, Try.ntmps60
    go_wp2
    go_ret
    refine ⟨?_, h0⟩
    cases r with
    | false => rfl
    | true =>
      have h1 := congrArg List.length (HR.out.1 rfl)
      rw [L1.out, L2.out] at h1
      exact absurd h1 HNN.out
set_option maxHeartbeats 1000000 in
theorem q_same (w : World) (A A' : Option Addr) (n c n' c' : Nat) (xs ys : List Int) (r : Bool) (h : QR w A n xs) (h' : QR w A' n' ys) (hn : n ≤ 20) (hn' : n' ≤ 20) (hr : r = true ↔ ys = xs) :
    Calls Try.prog 57 #[.slice A n c, .iface 67 (.slice A' n' c')] w fun e w' => e = .returned (.bool r) ∧ Below w.heap.size w w' := by
  have HC := Lib.hid (q_Equal w A' A n' c' n c ys xs r h' h hn' hn hr)
  clear h h' hr
  have ta : (Instr.typeAssert (.iface 67 (.slice A' n' c')) 49 67 true).run Try.prog w = .ok (.tuple #[.slice A' n' c', .bool true]) w := by kernel_rfl
  go_enter Try.func57, Try.ntmps57
  go_wp2_with fail
  refine HC.out.mono ?_
  rintro e w1 ⟨rfl, hb1⟩
  go_wp2
  go_ret
  exact ⟨rfl, hb1⟩

set_option maxHeartbeats 1000000 in
theorem s_Equal (w : World) (A A' : Option Addr) (n c n' c' : Nat) (xs ys : List Int) (r : Bool) (h : QR w A n xs) (h' : QR w A' n' ys) (hn : n ≤ 20) (hn' : n' ≤ 20) (hr : r = true ↔ xs = ys) :
    Calls Try.prog 65 #[.slice A n c, .slice A' n' c'] w fun e w' => e = .returned (.bool r) ∧ Below w.heap.size w w' := by
  have h0 := Below.refl w.heap.size w
  have L1 := Lib.hid h.1
  have L2 := Lib.hid h'.1
  have HR := Lib.hid hr
  have hri := h.ri
  have hri' := h'.ri
  clear h h' hr
  by_cases hnn : n = n'
  · subst hnn
    go_enter Try.func65, Try.ntmps65
    go_wp2
    go_loopw [13] (fun i wr => ∃ j : Nat, j ≤ n ∧ i = .int .i64 j ∧ Hid (xs.take j = ys.take j) ∧ Below w.heap.size w wr) (fun i _ => n - (intOf i).toNat)
    case atStart => exact ⟨0, Nat.zero_le _, rfl, by show _ = _; simp, h0⟩
    case round =>
      obtain ⟨j, hj, rfl, HE, hbel⟩ := hrel
      by_cases hjm : j < n
      · obtain ⟨b, o, x, rfl, hb, hcell, HX, hmem⟩ := (hri.below hbel).val hjm
        obtain ⟨b', o', y, rfl, hb', hcell', HY, hmem'⟩ := (hri'.below hbel).val hjm
        clear hmem hmem'
        go_wp2
        refine region_two [0, 1, 2, 3, 4, 5, 6, 7, 8] [] (by kernel_rfl) (by kernel_rfl) ?_
        simp only [pick, List.map_cons, List.map_nil, List.getD_cons_zero, List.getD_cons_succ]
        by_cases hxy : x = y
        · subst hxy
          go_wp2
          go_roundw
          case rel =>
            refine ⟨j + 1, by omega, by go_num, ?_, hbel.drew⟩
            show _ = _
            rw [at_take HX.out, at_take HY.out, HE.out]
          case measure => simp [intOf]; omega
        · have hxy2 : (x != y) = true := by simp [hxy]
          have HXY := Lib.hid hxy
          clear hxy
          go_wp2
          go_ret
          refine ⟨?_, hbel.drew⟩
          cases r with
          | false => rfl
          | true =>
            have h1 := HR.out.1 rfl
            subst h1
            have h2 := HX.out
            rw [HY.out] at h2
            injection h2 with h2
            exact absurd h2.symm HXY.out
      · obtain rfl : n = j := by omega
        go_wp2
        go_ret
        refine ⟨ret_bool ?_, hbel⟩
        have h1 := HE.out
        rw [List.take_of_length_le (by rw [L1.out]; omega), List.take_of_length_le (by rw [L2.out]; omega)] at h1
        exact (HR.out.2 h1).symm
  · have HNN := Lib.hid hnn
    have hnn2 : ((n : Int) != (n' : Int)) = true := by simp; omega
    clear hnn
    go_enter Try.func65, Try.ntmps65
    go_wp2
    go_ret
    refine ⟨?_, h0⟩
    cases r with
    | false => rfl
    | true =>
      have h1 := congrArg List.length (HR.out.1 rfl)
      rw [L1.out, L2.out] at h1
      exact absurd h1 HNN.out
set_option maxHeartbeats 1000000 in
theorem s_same (w : World) (A A' : Option Addr) (n c n' c' : Nat) (xs ys : List Int) (r : Bool) (h : QR w A n xs) (h' : QR w A' n' ys) (hn : n ≤ 20) (hn' : n' ≤ 20) (hr : r = true ↔ ys = xs) :
    Calls Try.prog 64 #[.slice A n c, .iface 68 (.slice A' n' c')] w fun e w' => e = .returned (.bool r) ∧ Below w.heap.size w w' := by
  have HC := Lib.hid (s_Equal w A' A n' c' n c ys xs r h' h hn' hn hr)
  clear h h' hr
  have ta : (Instr.typeAssert (.iface 68 (.slice A' n' c')) 49 68 true).run Try.prog w = .ok (.tuple #[.slice A' n' c', .bool true]) w := by kernel_rfl
  go_enter Try.func64, Try.ntmps64
  go_wp2_with fail
  refine HC.out.mono ?_
  rintro e w1 ⟨rfl, hb1⟩
  go_wp2
  go_ret
  exact ⟨rfl, hb1⟩

/-- What next leaves: the state then, and the value. -/
def NxPost (T : TypeId) (v : Int) (nx : List Int) (w : World) (e : Ending) (w' : World) : Prop := (∃ A n c, e = .returned (.tuple #[.iface T (.slice A n c), .int .i64 v]) ∧ n ≤ c ∧ (A = none → c = 0) ∧ QR w' A n nx) ∧ Below w.heap.size w w'
set_option maxHeartbeats 1000000 in
theorem q_next (w : World) (A : Option Addr) (n c : Nat) (xs : List Int) (a : Ac) (h : QR w A n xs) (hn : n ≤ 19) (hc : n ≤ c) (hA : A = none → c = 0) :
    Calls Try.prog 56 #[.slice A n c, acA a] w (NxPost 67 (tel 3 xs a).1 (tel 3 xs a).2 w) := by
  obtain ⟨xb, xe, xp, xv, xa⟩ := a
  unfold acA
  have h0 := (Below.refl w.heap.size w).alloc (Nat.le_refl _) (Obj.cells #[.int .i64 xb, .int .i64 xe, .bool xp, .int .i64 xv, .int .i64 xa] 34)
  have bX := Box.newAt w 34 [.int .i64 xb, .int .i64 xe, .bool xp, .int .i64 xv, .int .i64 xa] w.heap.size rfl
  have lX := bX.lt
  have hq := h.kp (Kp.below h0)
  have L := Lib.hid h.1
  have HQ := Lib.hid hq
  have HA := Lib.hid hA
  dsimp only
  unfold tel
  rw [if_neg (by decide), if_neg (by decide)]
  cases xp with
  | true =>
    rw [if_pos rfl]
    clear h hq hA
    go_enter Try.func56, Try.ntmps56
    go_wp2
    refine region_first [0, 1, 2, 5, 6] (.cons 3 (seq [4, 7, 8] .nil)) (by kernel_rfl) (by kernel_rfl) ?_
    simp only [pick, List.map_cons, List.map_nil, List.getD_cons_zero, List.getD_cons_succ]
    go_wp2
    refine ord_call (by kernel_rfl) ?_
    simp only [pick, List.map_cons, List.map_nil, List.getD_cons_zero, List.getD_cons_succ]
    go_wp2_with fail
    refine (lin_inserted ((w.alloc (Obj.cells #[.int .i64 xb, .int .i64 xe, .bool true, .int .i64 xv, .int .i64 xa] 34)).drew) A n c xs xv (by exact HQ.out) (by omega) hc HA.out).mono ?_
    rintro e w1 ⟨⟨A', c', rfl, k1, k2, k3⟩, hb1⟩
    have hb2 := h0.drew.trans (hb1.mono (by show w.heap.size ≤ (w.alloc _).heap.size; omega))
    have HK2 := Lib.hid k2
    have HK3 := Lib.hid k3
    have HB1 := Lib.hid hb1
    clear k2 k3 hb1
    go_wp2
    refine ⟨ext_below HB1.out, ?_⟩
    refine ord_more [4, 7, 8] .nil (by kernel_rfl) ?_
    simp only [pick, List.map_cons, List.map_nil, List.getD_cons_zero, List.getD_cons_succ]
    go_wp2
    refine ord_done ?_
    go_wp2
    go_ret2
    exact ⟨⟨A', n + 1, c', rfl, k1, HK2.out, HK3.out⟩, hb2⟩
  | false =>
    rw [if_neg (by simp)]
    by_cases hn0 : n = 0
    · subst hn0
      have hx : xs = [] := List.eq_nil_of_length_eq_zero L.out
      subst hx
      rw [if_pos rfl]
      clear h hq hA
      go_enter Try.func56, Try.ntmps56
      go_wp2
      go_ret2
      exact ⟨⟨A, 0, c, rfl, hc, HA.out, HQ.out⟩, h0⟩
    · have hpos : 0 < n := by omega
      have hx : xs ≠ [] := by rintro rfl; have := L.out; simp at this; omega
      rw [if_neg hx, if_pos rfl]
      obtain ⟨b, o, x, rfl, hb, hcell, HX, hmem⟩ := hq.ri.val hpos
      have HW := Lib.hid (hq.win (i := 1) (m := n - 1) (by omega))
      rw [Nat.add_zero] at hcell
      have hne : ((n : Int) == 0) = false := by simp; omega
      have hx0 : xs.headD 0 = x := by
        have := HX.out
        cases xs with
        | nil => exact absurd rfl hx
        | cons y ys => simpa using this
      have htl : (xs.drop 1).take (n - 1) = xs.tail := by
        rw [List.take_of_length_le (by rw [List.length_drop, L.out]; omega), List.drop_one]
      rw [htl] at HW
      rw [hx0]
      clear h hq hA hmem hx hx0 htl HX
      by_cases hc1 : c = 1
      · subst hc1
        obtain rfl : n = 1 := by omega
        go_enter Try.func56, Try.ntmps56
        go_wp2
        refine region_two [0, 1, 2, 3, 4, 5, 6, 7] [] (by kernel_rfl) (by kernel_rfl) ?_
        simp only [pick, List.map_cons, List.map_nil, List.getD_cons_zero, List.getD_cons_succ]
        go_wp2
        go_ret2
        exact ⟨⟨_, _, _, rfl, by omega, (fun h => by cases h), ⟨HW.out.1, fun h => absurd h (by omega)⟩⟩, h0.drew⟩
      · go_enter Try.func56, Try.ntmps56
        go_wp2
        refine region_two [0, 1, 2, 3, 4, 5, 6, 7] [] (by kernel_rfl) (by kernel_rfl) ?_
        simp only [pick, List.map_cons, List.map_nil, List.getD_cons_zero, List.getD_cons_succ]
        go_wp2
        go_ret2
        exact ⟨⟨_, _, _, rfl, by omega, (fun h => by cases h), by exact HW.out⟩, h0.drew⟩
set_option maxHeartbeats 1000000 in
theorem s_next (w : World) (A : Option Addr) (n c : Nat) (xs : List Int) (a : Ac) (h : QR w A n xs) (hn : n ≤ 19) (hc : n ≤ c) (hA : A = none → c = 0) :
    Calls Try.prog 63 #[.slice A n c, acA a] w (NxPost 68 (tel 4 xs a).1 (tel 4 xs a).2 w) := by
  obtain ⟨xb, xe, xp, xv, xa⟩ := a
  unfold acA
  have h0 := (Below.refl w.heap.size w).alloc (Nat.le_refl _) (Obj.cells #[.int .i64 xb, .int .i64 xe, .bool xp, .int .i64 xv, .int .i64 xa] 34)
  have bX := Box.newAt w 34 [.int .i64 xb, .int .i64 xe, .bool xp, .int .i64 xv, .int .i64 xa] w.heap.size rfl
  have lX := bX.lt
  have hq := h.kp (Kp.below h0)
  have L := Lib.hid h.1
  have HQ := Lib.hid hq
  have HA := Lib.hid hA
  dsimp only
  unfold tel
  rw [if_neg (by decide), if_neg (by decide)]
  cases xp with
  | true =>
    rw [if_pos rfl]
    clear h hq hA
    go_enter Try.func63, Try.ntmps63
    go_wp2
    refine region_first [0, 1, 2, 5, 6] (.cons 3 (seq [4, 7, 8] .nil)) (by kernel_rfl) (by kernel_rfl) ?_
    simp only [pick, List.map_cons, List.map_nil, List.getD_cons_zero, List.getD_cons_succ]
    go_wp2
    refine ord_call (by kernel_rfl) ?_
    simp only [pick, List.map_cons, List.map_nil, List.getD_cons_zero, List.getD_cons_succ]
    go_wp2_with fail
    refine (lin_inserted ((w.alloc (Obj.cells #[.int .i64 xb, .int .i64 xe, .bool true, .int .i64 xv, .int .i64 xa] 34)).drew) A n c xs xv (by exact HQ.out) (by omega) hc HA.out).mono ?_
    rintro e w1 ⟨⟨A', c', rfl, k1, k2, k3⟩, hb1⟩
    have hb2 := h0.drew.trans (hb1.mono (by show w.heap.size ≤ (w.alloc _).heap.size; omega))
    have HK2 := Lib.hid k2
    have HK3 := Lib.hid k3
    have HB1 := Lib.hid hb1
    clear k2 k3 hb1
    go_wp2
    refine ⟨ext_below HB1.out, ?_⟩
    refine ord_more [4, 7, 8] .nil (by kernel_rfl) ?_
    simp only [pick, List.map_cons, List.map_nil, List.getD_cons_zero, List.getD_cons_succ]
    go_wp2
    refine ord_done ?_
    go_wp2
    go_ret2
    exact ⟨⟨A', n + 1, c', rfl, k1, HK2.out, HK3.out⟩, hb2⟩
  | false =>
    rw [if_neg (by simp)]
    by_cases hn0 : n = 0
    · subst hn0
      have hx : xs = [] := List.eq_nil_of_length_eq_zero L.out
      subst hx
      rw [if_pos rfl]
      clear h hq hA
      go_enter Try.func63, Try.ntmps63
      go_wp2
      go_ret2
      exact ⟨⟨A, 0, c, rfl, hc, HA.out, HQ.out⟩, h0⟩
    · have hpos : 0 < n := by omega
      have hx : xs ≠ [] := by rintro rfl; have := L.out; simp at this; omega
      rw [if_neg hx, if_neg (by decide)]
      obtain ⟨b, o, x, rfl, hb, hcell, HX, hmem⟩ := hq.ri.val (i := n - 1) (by omega)
      have HW := Lib.hid (hq.win (i := 0) (m := n - 1) (by omega))
      have hne : ((n : Int) == 0) = false := by simp; omega
      have hx0 : xs.getLastD 0 = x := by
        have h2 := HX.out
        rw [← L.out, ← List.getLast?_eq_getElem?] at h2
        rw [List.getLastD_eq_getLast?, h2]
        rfl
      have htl : (xs.drop 0).take (n - 1) = xs.dropLast := by
        rw [List.drop_zero, ← L.out, List.dropLast_eq_take]
      rw [htl] at HW
      rw [hx0]
      have hn1 : ((n : Int) - 1) = ((n - 1 : Nat) : Int) := by omega
      clear h hq hA hmem hx hx0 htl HX
      go_enter Try.func63, Try.ntmps63
      go_wp2
      refine region_two [0, 1, 2, 3, 4, 5, 6, 7, 8, 9] [] (by kernel_rfl) (by kernel_rfl) ?_
      simp only [pick, List.map_cons, List.map_nil, List.getD_cons_zero, List.getD_cons_succ]
      go_wp2
      go_ret2
      exact ⟨⟨_, _, _, rfl, by omega, (fun h => by cases h), by exact HW.out⟩, h0.drew⟩
end Go.Proofs.Ytdoniefhmmodbaa
