/- A code that may be. No statement of the seat is proved here; no condition. -/
import Derived.Test.YtjihopbapnfppaaDoorRows
import Derived.Test.YtjihopbapnfppaaDoorLibO
import Derived.Test.YtjihopbapnfppaaDoorKeepPicked
import Derived.Test.YtjihopbapnfppaaDoorVmKeepPure
set_option linter.unusedSimpArgs false
set_option linter.unusedVariables false
namespace Go.Proofs.YtjihopbapnfppaaDoor
open Go.RowKit Go.Ord Go.Baro

theorem eltOp : Elt Tryd.prog 22 37 (.agg #[.int .i64 0, .int .i64 0, .int .i64 0, .int .i64 0, .int .i64 0]) 5 40 := Elt.mk' Tryd.underlying22 (by kernel_rfl) rfl (by decide)
theorem one5 (a b c d e : Int) : ∀ u ∈ [Value.int .i64 a, .int .i64 b, .int .i64 c, .int .i64 d, .int .i64 e], u.oneCell' = true := by
  intro u hu
  simp only [List.mem_cons, List.not_mem_nil, or_false] at hu
  rcases hu with rfl | rfl | rfl | rfl | rfl <;> rfl
/-- min of two lengths. -/
theorem wp_min {P : Program} {w : World} {ops : Array Oper} {rest : List Oper} {o : Oper} {a : Act} {Q : Exit → Act → World → Prop} (hgd : o.guard = none) (x y : Operand) (t : TypeId) (ho : o.op = .call { callee := .builtin .min, args := #[x, y], argTypes := #[t, t] })
    (n k : Nat) (hx : a.eval x = .int .i64 n) (hy : a.eval y = .int .i64 k) (h : ∀ m : Nat, Hid (m = min n k) → wpList P ops Q rest (a.put o.dst (.int .i64 m)) w) : wpList P ops Q (o :: rest) a w := by
  refine wpList_plain hgd fun K hK => ?_
  have hrun : (Builtin.min_ #[t, t] o.type #[.int .i64 n, .int .i64 k]).run P w = .ok (.int .i64 (min n k : Nat)) w := by
    rcases Nat.lt_or_ge k n with hlt | hge
    · simp [Builtin.min_, Builtin.min2, hlt, Nat.min_eq_right (Nat.le_of_lt hlt)]
    · simp [Builtin.min_, Builtin.min2, Nat.not_lt.2 hge, Nat.min_eq_left hge]
  unfold Oper.wp
  simp [execOp, ho, resolve, invoke, builtin, hx, hy, hrun, Result.andThen]
  exact hK _ _ (h _ rfl)
theorem kI_at {m : Nat} {k a b c d q : Int} (h : k % 17 = q) : kI m ⟨k, a, b, c, d⟩ = kI m ⟨q, a, b, c, d⟩ := by
  have hq : q % 17 = q := by omega
  unfold kI
  dsimp only
  rw [h, hq]

/-- What CodeOf leaves. -/
def CnPost (N : Nat) (l : List Ins) (w : World) (e : Ending) (w' : World) : Prop := ∃ A' n' c', e = .returned (.slice A' n' c') ∧ w'.ownsRow w.heap.size 37 5 (.slice A' n' c') n' (cellsO (kN N l)) ∧ n' ≤ c' ∧ n' ≤ N ∧ Below w.heap.size w w'
def CoPost (l : List Ins) (w : World) (e : Ending) (w' : World) : Prop := ∃ A' n' c', e = .returned (.slice A' n' c') ∧ RO w' w'.heap.size A' n' (kC l) ∧ n' ≤ c' ∧ n' ≤ 40 ∧ Below w.heap.size w w'

set_option maxRecDepth 100000 in
set_option maxHeartbeats 16000000 in
theorem keep_CodeOfN (N : Nat) (hN : N ≤ 40) (l : List Ins) (A : Option Addr) (n c : Nat) (w : World) (hb : RO w w.heap.size A n l) (hn : n ≤ 3518437208883) :
    Calls Tryd.prog 20 #[.slice A n c, .int .i64 N] w (CnPost N l w) := by
  have HL := Lib.hid hb.len
  have h0 : Below w.heap.size w w := Below.refl _ _
  go_enter Tryd.func20, Tryd.ntmps20
  go_wp2_with (refine wp_min rfl _ _ _ rfl n N rfl rfl ?_; intro m HMIN; have hmn : m ≤ n := (by have := HMIN.out; omega); have hmN : m ≤ N := (by have := HMIN.out; omega); have hm40 : m ≤ 40 := (by omega))
  go_loopw [6, 7] (fun v i wr => ∃ j : Nat, j ≤ m ∧ i = .int .i64 j ∧ wr.ownsRow w.heap.size 37 5 v j (cellsO ((l.take j).map (kI m))) ∧ Below w.heap.size w wr) (fun _ i _ => m - (intOf i).toNat)
  case atStart => exact ⟨0, Nat.zero_le _, rfl, World.ownsRow_nil _ _ _ _, h0⟩
  case round =>
    obtain ⟨j, hj, rfl, hown, hbel⟩ := hrel
    have hsz := hbel.size
    by_cases hjm : j < m
    · obtain ⟨b, o, k, x, y, z, u, rfl, hbB, c0, c1, c2, c3, c4, HX, _⟩ := (hb.below hbel).val (show j < n by omega)
      have hbs : b < wr.heap.size := by omega
      have hkr : 0 ≤ k % 17 ∧ k % 17 < 17 := by omega
      have a4 : 0 ≤ x % 4 ∧ x % 4 < 4 := by omega
      have b4 : 0 ≤ y % 4 ∧ y % 4 < 4 := by omega
      have b9 : 0 ≤ y % 9 ∧ y % 9 < 9 := by omega
      have hst : ∀ o' : Ins, kI m ⟨k, x, y, z, u⟩ = o' → (l.take (j + 1)).map (kI m) = (l.take j).map (kI m) ++ [o'] := by
        intro o' ho'
        rw [at_take HX.out, List.map_append, ← ho']; rfl
      have HST := Lib.hid hst
      clear hst
      rcases (by omega : k % 17 = 0 ∨ k % 17 = 1 ∨ k % 17 = 2 ∨ k % 17 = 3 ∨ k % 17 = 4 ∨ k % 17 = 5 ∨ k % 17 = 6 ∨ k % 17 = 7 ∨ k % 17 = 8 ∨ k % 17 = 9 ∨ k % 17 = 10 ∨ k % 17 = 11 ∨ k % 17 = 12 ∨ k % 17 = 13 ∨ k % 17 = 14 ∨ k % 17 = 15 ∨ k % 17 = 16) with hk | hk | hk | hk | hk | hk | hk | hk | hk | hk | hk | hk | hk | hk | hk | hk | hk
      · have HO := Lib.hid (HST.out ⟨1, x % 4, y % 9 - 3, 0, 0⟩ (by rw [kI_at hk]; simp [kI]))
        clear HST hkr
        go_wp2_with (first
          | (go_at_call 21; refine (keep_Picked _ _ _ (by omega) (by omega)).mono ?_; rintro e w' ⟨rfl, rfl⟩)
          | (at_builtin; go_must (refine app_lit eltOp _ rfl _ _ rfl w.heap.size _ j _ rfl (by exact (hown.alloc _).alloc _) 1 [.int .i64 (1), .int .i64 (x % 4), .int .i64 (y % 9 - 3), .int .i64 (0), .int .i64 (0)] (wr.heap.size + 1 + 1) (by simp) rfl rfl (one5 _ _ _ _ _) (by omega) (by omega) (by simp; omega) ?_); intro v3 w3 hown3 hgr3 hbel3 _))
        go_roundw
        case rel =>
          refine ⟨j + 1, by omega, by go_num, ?_, hbel3 _ ((hbel.alloc hsz _).alloc (by simp; omega) _)⟩
          rw [HO.out, cellsO_append]
          exact hown3
        case measure => simp [intOf]; omega
      · have HO := Lib.hid (HST.out ⟨2, x % 4, y % 4, 0, 0⟩ (by rw [kI_at hk]; simp [kI]))
        clear HST hkr
        go_wp2_with (first
          | (go_at_call 21; refine (keep_Picked _ _ _ (by omega) (by omega)).mono ?_; rintro e w' ⟨rfl, rfl⟩)
          | (at_builtin; go_must (refine app_lit eltOp _ rfl _ _ rfl w.heap.size _ j _ rfl (by exact (hown.alloc _).alloc _) 1 [.int .i64 (2), .int .i64 (x % 4), .int .i64 (y % 4), .int .i64 (0), .int .i64 (0)] (wr.heap.size + 1 + 1) (by simp) rfl rfl (one5 _ _ _ _ _) (by omega) (by omega) (by simp; omega) ?_); intro v3 w3 hown3 hgr3 hbel3 _))
        go_roundw
        case rel =>
          refine ⟨j + 1, by omega, by go_num, ?_, hbel3 _ ((hbel.alloc hsz _).alloc (by simp; omega) _)⟩
          rw [HO.out, cellsO_append]
          exact hown3
        case measure => simp [intOf]; omega
      · have HO := Lib.hid (HST.out ⟨3, x % 4, y % 4, z % 4, 0⟩ (by rw [kI_at hk]; simp [kI]))
        clear HST hkr
        go_wp2_with (first
          | (go_at_call 21; refine (keep_Picked _ _ _ (by omega) (by omega)).mono ?_; rintro e w' ⟨rfl, rfl⟩)
          | (at_builtin; go_must (refine app_lit eltOp _ rfl _ _ rfl w.heap.size _ j _ rfl (by exact (hown.alloc _).alloc _) 1 [.int .i64 (3), .int .i64 (x % 4), .int .i64 (y % 4), .int .i64 (z % 4), .int .i64 (0)] (wr.heap.size + 1 + 1) (by simp) rfl rfl (one5 _ _ _ _ _) (by omega) (by omega) (by simp; omega) ?_); intro v3 w3 hown3 hgr3 hbel3 _))
        go_roundw
        case rel =>
          refine ⟨j + 1, by omega, by go_num, ?_, hbel3 _ ((hbel.alloc hsz _).alloc (by simp; omega) _)⟩
          rw [HO.out, cellsO_append]
          exact hown3
        case measure => simp [intOf]; omega
      · have HO := Lib.hid (HST.out ⟨4, x % 4, y % 4, z % 4, 0⟩ (by rw [kI_at hk]; simp [kI]))
        clear HST hkr
        go_wp2_with (first
          | (go_at_call 21; refine (keep_Picked _ _ _ (by omega) (by omega)).mono ?_; rintro e w' ⟨rfl, rfl⟩)
          | (at_builtin; go_must (refine app_lit eltOp _ rfl _ _ rfl w.heap.size _ j _ rfl (by exact (hown.alloc _).alloc _) 1 [.int .i64 (4), .int .i64 (x % 4), .int .i64 (y % 4), .int .i64 (z % 4), .int .i64 (0)] (wr.heap.size + 1 + 1) (by simp) rfl rfl (one5 _ _ _ _ _) (by omega) (by omega) (by simp; omega) ?_); intro v3 w3 hown3 hgr3 hbel3 _))
        go_roundw
        case rel =>
          refine ⟨j + 1, by omega, by go_num, ?_, hbel3 _ ((hbel.alloc hsz _).alloc (by simp; omega) _)⟩
          rw [HO.out, cellsO_append]
          exact hown3
        case measure => simp [intOf]; omega
      · have HO := Lib.hid (HST.out ⟨5, x % 4, y % 4, z % 4, 0⟩ (by rw [kI_at hk]; simp [kI]))
        clear HST hkr
        go_wp2_with (first
          | (go_at_call 21; refine (keep_Picked _ _ _ (by omega) (by omega)).mono ?_; rintro e w' ⟨rfl, rfl⟩)
          | (at_builtin; go_must (refine app_lit eltOp _ rfl _ _ rfl w.heap.size _ j _ rfl (by exact (hown.alloc _).alloc _) 1 [.int .i64 (5), .int .i64 (x % 4), .int .i64 (y % 4), .int .i64 (z % 4), .int .i64 (0)] (wr.heap.size + 1 + 1) (by simp) rfl rfl (one5 _ _ _ _ _) (by omega) (by omega) (by simp; omega) ?_); intro v3 w3 hown3 hgr3 hbel3 _))
        go_roundw
        case rel =>
          refine ⟨j + 1, by omega, by go_num, ?_, hbel3 _ ((hbel.alloc hsz _).alloc (by simp; omega) _)⟩
          rw [HO.out, cellsO_append]
          exact hown3
        case measure => simp [intOf]; omega
      · have HO := Lib.hid (HST.out ⟨6, x % 4, y % 4, z % 4, 0⟩ (by rw [kI_at hk]; simp [kI]))
        clear HST hkr
        go_wp2_with (first
          | (go_at_call 21; refine (keep_Picked _ _ _ (by omega) (by omega)).mono ?_; rintro e w' ⟨rfl, rfl⟩)
          | (at_builtin; go_must (refine app_lit eltOp _ rfl _ _ rfl w.heap.size _ j _ rfl (by exact (hown.alloc _).alloc _) 1 [.int .i64 (6), .int .i64 (x % 4), .int .i64 (y % 4), .int .i64 (z % 4), .int .i64 (0)] (wr.heap.size + 1 + 1) (by simp) rfl rfl (one5 _ _ _ _ _) (by omega) (by omega) (by simp; omega) ?_); intro v3 w3 hown3 hgr3 hbel3 _))
        go_roundw
        case rel =>
          refine ⟨j + 1, by omega, by go_num, ?_, hbel3 _ ((hbel.alloc hsz _).alloc (by simp; omega) _)⟩
          rw [HO.out, cellsO_append]
          exact hown3
        case measure => simp [intOf]; omega
      · have HO := Lib.hid (HST.out ⟨7, x % 4, y % 4, z % 4, 0⟩ (by rw [kI_at hk]; simp [kI]))
        clear HST hkr
        go_wp2_with (first
          | (go_at_call 21; refine (keep_Picked _ _ _ (by omega) (by omega)).mono ?_; rintro e w' ⟨rfl, rfl⟩)
          | (at_builtin; go_must (refine app_lit eltOp _ rfl _ _ rfl w.heap.size _ j _ rfl (by exact (hown.alloc _).alloc _) 1 [.int .i64 (7), .int .i64 (x % 4), .int .i64 (y % 4), .int .i64 (z % 4), .int .i64 (0)] (wr.heap.size + 1 + 1) (by simp) rfl rfl (one5 _ _ _ _ _) (by omega) (by omega) (by simp; omega) ?_); intro v3 w3 hown3 hgr3 hbel3 _))
        go_roundw
        case rel =>
          refine ⟨j + 1, by omega, by go_num, ?_, hbel3 _ ((hbel.alloc hsz _).alloc (by simp; omega) _)⟩
          rw [HO.out, cellsO_append]
          exact hown3
        case measure => simp [intOf]; omega
      · have HO := Lib.hid (HST.out ⟨8, x % 4, y % 4, z % 4, 0⟩ (by rw [kI_at hk]; simp [kI]))
        clear HST hkr
        go_wp2_with (first
          | (go_at_call 21; refine (keep_Picked _ _ _ (by omega) (by omega)).mono ?_; rintro e w' ⟨rfl, rfl⟩)
          | (at_builtin; go_must (refine app_lit eltOp _ rfl _ _ rfl w.heap.size _ j _ rfl (by exact (hown.alloc _).alloc _) 1 [.int .i64 (8), .int .i64 (x % 4), .int .i64 (y % 4), .int .i64 (z % 4), .int .i64 (0)] (wr.heap.size + 1 + 1) (by simp) rfl rfl (one5 _ _ _ _ _) (by omega) (by omega) (by simp; omega) ?_); intro v3 w3 hown3 hgr3 hbel3 _))
        go_roundw
        case rel =>
          refine ⟨j + 1, by omega, by go_num, ?_, hbel3 _ ((hbel.alloc hsz _).alloc (by simp; omega) _)⟩
          rw [HO.out, cellsO_append]
          exact hown3
        case measure => simp [intOf]; omega
      · have HO := Lib.hid (HST.out ⟨9, x % 4, y % 4, z % 4, 0⟩ (by rw [kI_at hk]; simp [kI]))
        clear HST hkr
        go_wp2_with (first
          | (go_at_call 21; refine (keep_Picked _ _ _ (by omega) (by omega)).mono ?_; rintro e w' ⟨rfl, rfl⟩)
          | (at_builtin; go_must (refine app_lit eltOp _ rfl _ _ rfl w.heap.size _ j _ rfl (by exact (hown.alloc _).alloc _) 1 [.int .i64 (9), .int .i64 (x % 4), .int .i64 (y % 4), .int .i64 (z % 4), .int .i64 (0)] (wr.heap.size + 1 + 1) (by simp) rfl rfl (one5 _ _ _ _ _) (by omega) (by omega) (by simp; omega) ?_); intro v3 w3 hown3 hgr3 hbel3 _))
        go_roundw
        case rel =>
          refine ⟨j + 1, by omega, by go_num, ?_, hbel3 _ ((hbel.alloc hsz _).alloc (by simp; omega) _)⟩
          rw [HO.out, cellsO_append]
          exact hown3
        case measure => simp [intOf]; omega
      · have HO := Lib.hid (HST.out ⟨10, x % ((m : Int) + 1), 0, 0, 0⟩ (by rw [kI_at hk]; simp [kI]))
        clear HST hkr
        go_wp2_with (first
          | (go_at_call 21; refine (keep_Picked _ _ _ (by omega) (by omega)).mono ?_; rintro e w' ⟨rfl, rfl⟩)
          | (at_builtin; go_must (refine app_lit eltOp _ rfl _ _ rfl w.heap.size _ j _ rfl (by exact (hown.alloc _).alloc _) 1 [.int .i64 (10), .int .i64 (x % ((m : Int) + 1)), .int .i64 (0), .int .i64 (0), .int .i64 (0)] (wr.heap.size + 1 + 1) (by simp) rfl rfl (one5 _ _ _ _ _) (by omega) (by omega) (by simp; omega) ?_); intro v3 w3 hown3 hgr3 hbel3 _))
        go_roundw
        case rel =>
          refine ⟨j + 1, by omega, by go_num, ?_, hbel3 _ ((hbel.alloc hsz _).alloc (by simp; omega) _)⟩
          rw [HO.out, cellsO_append]
          exact hown3
        case measure => simp [intOf]; omega
      · have HO := Lib.hid (HST.out ⟨11, x % 4, y % ((m : Int) + 1), 0, 0⟩ (by rw [kI_at hk]; simp [kI]))
        clear HST hkr
        go_wp2_with (first
          | (go_at_call 21; refine (keep_Picked _ _ _ (by omega) (by omega)).mono ?_; rintro e w' ⟨rfl, rfl⟩)
          | (at_builtin; go_must (refine app_lit eltOp _ rfl _ _ rfl w.heap.size _ j _ rfl (by exact (hown.alloc _).alloc _) 1 [.int .i64 (11), .int .i64 (x % 4), .int .i64 (y % ((m : Int) + 1)), .int .i64 (0), .int .i64 (0)] (wr.heap.size + 1 + 1) (by simp) rfl rfl (one5 _ _ _ _ _) (by omega) (by omega) (by simp; omega) ?_); intro v3 w3 hown3 hgr3 hbel3 _))
        go_roundw
        case rel =>
          refine ⟨j + 1, by omega, by go_num, ?_, hbel3 _ ((hbel.alloc hsz _).alloc (by simp; omega) _)⟩
          rw [HO.out, cellsO_append]
          exact hown3
        case measure => simp [intOf]; omega
      · have HO := Lib.hid (HST.out ⟨12, x % 4, y % ((m : Int) + 1), 0, 0⟩ (by rw [kI_at hk]; simp [kI]))
        clear HST hkr
        go_wp2_with (first
          | (go_at_call 21; refine (keep_Picked _ _ _ (by omega) (by omega)).mono ?_; rintro e w' ⟨rfl, rfl⟩)
          | (at_builtin; go_must (refine app_lit eltOp _ rfl _ _ rfl w.heap.size _ j _ rfl (by exact (hown.alloc _).alloc _) 1 [.int .i64 (12), .int .i64 (x % 4), .int .i64 (y % ((m : Int) + 1)), .int .i64 (0), .int .i64 (0)] (wr.heap.size + 1 + 1) (by simp) rfl rfl (one5 _ _ _ _ _) (by omega) (by omega) (by simp; omega) ?_); intro v3 w3 hown3 hgr3 hbel3 _))
        go_roundw
        case rel =>
          refine ⟨j + 1, by omega, by go_num, ?_, hbel3 _ ((hbel.alloc hsz _).alloc (by simp; omega) _)⟩
          rw [HO.out, cellsO_append]
          exact hown3
        case measure => simp [intOf]; omega
      · have HO := Lib.hid (HST.out ⟨13, x % 4, 5, z % 6, 0⟩ (by rw [kI_at hk]; simp [kI]))
        clear HST hkr
        go_wp2_with (first
          | (go_at_call 21; refine (keep_Picked _ _ _ (by omega) (by omega)).mono ?_; rintro e w' ⟨rfl, rfl⟩)
          | (at_builtin; go_must (refine app_lit eltOp _ rfl _ _ rfl w.heap.size _ j _ rfl (by exact (hown.alloc _).alloc _) 1 [.int .i64 (13), .int .i64 (x % 4), .int .i64 (5), .int .i64 (z % 6), .int .i64 (0)] (wr.heap.size + 1 + 1) (by simp) rfl rfl (one5 _ _ _ _ _) (by omega) (by omega) (by simp; omega) ?_); intro v3 w3 hown3 hgr3 hbel3 _))
        go_roundw
        case rel =>
          refine ⟨j + 1, by omega, by go_num, ?_, hbel3 _ ((hbel.alloc hsz _).alloc (by simp; omega) _)⟩
          rw [HO.out, cellsO_append]
          exact hown3
        case measure => simp [intOf]; omega
      · have HO := Lib.hid (HST.out ⟨14, x % 4, 5, z % 6, 0⟩ (by rw [kI_at hk]; simp [kI]))
        clear HST hkr
        go_wp2_with (first
          | (go_at_call 21; refine (keep_Picked _ _ _ (by omega) (by omega)).mono ?_; rintro e w' ⟨rfl, rfl⟩)
          | (at_builtin; go_must (refine app_lit eltOp _ rfl _ _ rfl w.heap.size _ j _ rfl (by exact (hown.alloc _).alloc _) 1 [.int .i64 (14), .int .i64 (x % 4), .int .i64 (5), .int .i64 (z % 6), .int .i64 (0)] (wr.heap.size + 1 + 1) (by simp) rfl rfl (one5 _ _ _ _ _) (by omega) (by omega) (by simp; omega) ?_); intro v3 w3 hown3 hgr3 hbel3 _))
        go_roundw
        case rel =>
          refine ⟨j + 1, by omega, by go_num, ?_, hbel3 _ ((hbel.alloc hsz _).alloc (by simp; omega) _)⟩
          rw [HO.out, cellsO_append]
          exact hown3
        case measure => simp [intOf]; omega
      · have HO := Lib.hid (HST.out ⟨15, x % 4, 5, z % 6, u % 4⟩ (by rw [kI_at hk]; simp [kI]))
        clear HST hkr
        go_wp2_with (first
          | (go_at_call 21; refine (keep_Picked _ _ _ (by omega) (by omega)).mono ?_; rintro e w' ⟨rfl, rfl⟩)
          | (at_builtin; go_must (refine app_lit eltOp _ rfl _ _ rfl w.heap.size _ j _ rfl (by exact (hown.alloc _).alloc _) 1 [.int .i64 (15), .int .i64 (x % 4), .int .i64 (5), .int .i64 (z % 6), .int .i64 (u % 4)] (wr.heap.size + 1 + 1) (by simp) rfl rfl (one5 _ _ _ _ _) (by omega) (by omega) (by simp; omega) ?_); intro v3 w3 hown3 hgr3 hbel3 _))
        go_roundw
        case rel =>
          refine ⟨j + 1, by omega, by go_num, ?_, hbel3 _ ((hbel.alloc hsz _).alloc (by simp; omega) _)⟩
          rw [HO.out, cellsO_append]
          exact hown3
        case measure => simp [intOf]; omega
      · have HO := Lib.hid (HST.out ⟨16, x % 4, 0, 0, 0⟩ (by rw [kI_at hk]; simp [kI]))
        clear HST hkr
        go_wp2_with (first
          | (go_at_call 21; refine (keep_Picked _ _ _ (by omega) (by omega)).mono ?_; rintro e w' ⟨rfl, rfl⟩)
          | (at_builtin; go_must (refine app_lit eltOp _ rfl _ _ rfl w.heap.size _ j _ rfl (by exact (hown.alloc _).alloc _) 1 [.int .i64 (16), .int .i64 (x % 4), .int .i64 (0), .int .i64 (0), .int .i64 (0)] (wr.heap.size + 1 + 1) (by simp) rfl rfl (one5 _ _ _ _ _) (by omega) (by omega) (by simp; omega) ?_); intro v3 w3 hown3 hgr3 hbel3 _))
        go_roundw
        case rel =>
          refine ⟨j + 1, by omega, by go_num, ?_, hbel3 _ ((hbel.alloc hsz _).alloc (by simp; omega) _)⟩
          rw [HO.out, cellsO_append]
          exact hown3
        case measure => simp [intOf]; omega
      · have HO := Lib.hid (HST.out ⟨17, 0, 0, 0, 0⟩ (by rw [kI_at hk]; simp [kI]))
        clear HST hkr
        go_wp2_with (first
          | (go_at_call 21; refine (keep_Picked _ _ _ (by omega) (by omega)).mono ?_; rintro e w' ⟨rfl, rfl⟩)
          | (at_builtin; go_must (refine app_lit eltOp _ rfl _ _ rfl w.heap.size _ j _ rfl (by exact (hown.alloc _).alloc _) 1 [.int .i64 (17), .int .i64 (0), .int .i64 (0), .int .i64 (0), .int .i64 (0)] (wr.heap.size + 1 + 1) (by simp) rfl rfl (one5 _ _ _ _ _) (by omega) (by omega) (by simp; omega) ?_); intro v3 w3 hown3 hgr3 hbel3 _))
        go_roundw
        case rel =>
          refine ⟨j + 1, by omega, by go_num, ?_, hbel3 _ ((hbel.alloc hsz _).alloc (by simp; omega) _)⟩
          rw [HO.out, cellsO_append]
          exact hown3
        case measure => simp [intOf]; omega
    · obtain rfl : j = m := by omega
      obtain ⟨A', c', rfl, hlc⟩ := own_form hown
      go_wp2
      go_ret
      refine ⟨A', j, c', rfl, ?_, hlc, hmN, hbel⟩
      have hk : (l.take j).map (kI j) = kN N l := by
        unfold kN
        rw [HL.out, ← HMIN.out]
        congr 1
        rw [HMIN.out]
        by_cases h40 : n ≤ N
        · rw [Nat.min_eq_left h40, List.take_of_length_le (by rw [HL.out]; exact Nat.le_refl _), List.take_of_length_le (by rw [HL.out]; omega)]
        · rw [Nat.min_eq_right (by omega)]
      rw [← hk]
      exact hown
theorem keep_CodeOf (l : List Ins) (A : Option Addr) (n c : Nat) (w : World) (hb : RO w w.heap.size A n l) (hn : n ≤ 3518437208883) :
    Calls Tryd.prog 20 #[.slice A n c, .int .i64 40] w (CoPost l w) := (keep_CodeOfN 40 (by decide) l A n c w hb hn).mono fun e w' ⟨A', n', c', h1, h2, h3⟩ => ⟨A', n', c', h1, Rd.of_own h2, h3⟩
end Go.Proofs.YtjihopbapnfppaaDoor
