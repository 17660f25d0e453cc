/- The roll of all samples is the join of the rolls of its parts, in any order: the law's call returns true, for every input. No condition but the row's own: the table zig.prefixes holds what the program's text lays there. -/
import Derived.Test.YtnpabbinckcbaaaDoorRoll2
import Derived.Test.YtnpabbinckcbaaaDoorKeepSamples
import Derived.Test.YtnpabbinckcbaaaDoorRollWin
set_option linter.unusedSimpArgs false
set_option linter.unusedVariables false
namespace Go.Proofs.YtnpabbinckcbaaaDoor
open Go.ChangeShapes Go.WideShapes Go.ChangeAt Go.RowKit Go.Ord Go.Baro

/-- What the rolls of three parts are. -/
theorem parts_facts {S : List (Int × Int)} {i d N : Nat} (hC : chC S = 0) (hV : VB S) (hN : N = S.length) (hd : i + d ≤ N) :
    ∃ x y z m e t : Rl, (x = ofR (S.take i) ∧ y = ofR ((S.drop i).take d) ∧ z = ofR (S.drop (i + d)) ∧ t = ofR S) ∧ t.c = (N : Int) ∧
      (0 = jnC x y ∧ m = jnR x y) ∧ (0 = jnC y x ∧ m = jnR y x) ∧ (0 = jnC y z ∧ e = jnR y z) ∧ (0 = jnC m z ∧ t = jnR m z) ∧ (0 = jnC x e ∧ t = jnR x e) ∧ (0 = jnC t rl0 ∧ t = jnR t rl0) := by
  have hp := parts3 (S := S) (i := i) (k := i + d) (by omega)
  rw [show i + d - i = d by omega] at hp
  have hl := (chC_zero hC).1
  have hb : ∀ v ∈ valS S, -18014398509481984 ≤ v ∧ v < 18014398509481984 := by
    intro v hv
    obtain ⟨x, hx, rfl⟩ := List.mem_map.1 hv
    exact hV x hx
  have hlen := valS_len S
  have q1 := ofR_ok (chC_take hC i)
  have q2 := ofR_ok (chC_take (chC_drop hC i) d)
  have q3 := ofR_ok (chC_drop hC (i + d))
  have q4 := ofR_ok hC
  generalize valS (S.take i) = P at *
  generalize valS ((S.drop i).take d) = Q at *
  generalize valS (S.drop (i + d)) = R at *
  rw [hp] at hb hlen q4
  simp only [List.length_append] at hlen
  have j1 := join_roll (a := P) (b := Q) (by omega) (fun v hv => hb v (by rw [← List.append_assoc]; exact List.mem_append_left _ hv))
  have j2 := join_roll (a := Q) (b := P) (by omega) (fun v hv => hb v (by rcases List.mem_append.1 hv with h | h; exact List.mem_append_right _ (List.mem_append_left _ h); exact List.mem_append_left _ h))
  have j3 := join_roll (a := Q) (b := R) (by omega) (fun v hv => hb v (List.mem_append_right _ hv))
  have j4 := join_roll (a := P ++ Q) (b := R) (by simp; omega) (fun v hv => hb v (by rw [← List.append_assoc]; exact hv))
  have j5 := join_roll (a := P) (b := Q ++ R) (by simp; omega) hb
  have j6 := join_roll (a := P ++ (Q ++ R)) (b := []) (by simp; omega) (fun v hv => hb v (by simpa using hv))
  refine ⟨rollV P, rollV Q, rollV R, rollV (P ++ Q), rollV (Q ++ R), rollV (P ++ (Q ++ R)), ⟨q1.symm, q2.symm, q3.symm, q4.symm⟩, ?_, ⟨j1.1.symm, j1.2.symm⟩, ⟨j2.1.symm, ?_⟩, ⟨j3.1.symm, j3.2.symm⟩, ⟨j4.1.symm, ?_⟩, ⟨j5.1.symm, j5.2.symm⟩, ⟨j6.1.symm, ?_⟩⟩
  · rw [rollV_c]; simp; omega
  · rw [j2.2, roll_comm]
  · rw [j4.2, List.append_assoc]
  · have := j6.2
    rw [List.append_nil] at this
    exact this.symm

set_option maxRecDepth 100000 in
set_option maxHeartbeats 20000000 in
theorem keep_RollParts (w : World) (hT : Tab w) (A0 : Option Addr) (n0 c0 : Nat) (x0 : List (Int × Int × Bool)) (h0 : RD w w.heap.size A0 n0 x0) (b0 : n0 ≤ 5864062014805) (r0 : ∀ f ∈ x0, (-9223372036854775808 ≤ f.1 ∧ f.1 ≤ 9223372036854775807) ∧ -9223372036854775808 ≤ f.2.1 ∧ f.2.1 ≤ 9223372036854775807) (l0 : n0 ≤ c0)
    (x1 : Int) (r1 : -9223372036854775808 ≤ x1 ∧ x1 ≤ 9223372036854775807) (x2 : Int) (r2 : -9223372036854775808 ≤ x2 ∧ x2 ≤ 9223372036854775807) (x3 : Int) (r3 : -9223372036854775808 ≤ x3 ∧ x3 ≤ 9223372036854775807) :
    Calls Tryd.prog 5 #[.slice A0 n0 c0, .int .i64 x1, .int .i64 x2, .int .i64 x3] w fun e w' => e = .returned (.bool true) ∧ Below w.heap.size w w' := by
  have lT := hT.lt
  go_enter Tryd.func5, Tryd.ntmps5
  go_wp2_with fail
  refine (keep_SamplesV x0 A0 n0 c0 x1 120 _ h0 b0 r0 r1 (by omega)).mono ?_
  rintro e w1 ⟨v1, S, rfl, HS, HV, hSl, hown1, hA1⟩
  have hC := HS.out.ch hSl
  have HC := Lib.hid hC
  clear hC r0 r1
  obtain ⟨N, hown, hN⟩ := own_count hown1
  have HN := Lib.hid hN.symm
  rw [← hN] at hSl
  clear hN hown1
  obtain ⟨B1, cp, rfl, hcp⟩ := own_form hown
  have hR1 : RF w1 w1.heap.size B1 N S := Rd.of_own hown
  have hsome : (B1 = none ∧ N = 0 ∧ cp = 0) ∨ ∃ g, B1 = some ⟨g, 0, none⟩ := by
    rcases hown.2 with ⟨h1, h2⟩ | ⟨g, cap, cur, h1, _⟩
    · injection h1 with h1 _ h3
      exact .inl ⟨h1, h2, h3⟩
    · injection h1 with h1
      exact .inr ⟨g, h1⟩
  clear hown
  obtain ⟨i, hi⟩ := Int.eq_ofNat_of_zero_le (Int.emod_nonneg x2 (b := ((N : Int) + 1)) (by omega))
  have hil : i ≤ N := by
    have := Int.emod_lt_of_pos x2 (b := ((N : Int) + 1)) (by omega)
    omega
  have HI := Lib.hid hi
  clear hi
  obtain ⟨d, hd⟩ := Int.eq_ofNat_of_zero_le (Int.emod_nonneg x3 (b := ((N : Int) - i + 1)) (by omega))
  have hdl : i + d ≤ N := by
    have := Int.emod_lt_of_pos x3 (b := ((N : Int) - i + 1)) (by omega)
    omega
  have HD := Lib.hid hd
  clear hd
  obtain ⟨x, y, z, m, e, t, ⟨hx, hy, hz, ht⟩, htc, j1, j2, j3, j4, j5, j6⟩ := parts_facts HC.out HV.out HN.out.symm hdl
  obtain ⟨xc, xl, xh, xz⟩ := x
  obtain ⟨yc, yl, yh, yz⟩ := y
  obtain ⟨zc, zl, zh, zz⟩ := z
  obtain ⟨mc, ml, mh, mz⟩ := m
  obtain ⟨ec, el, eh, ez⟩ := e
  obtain ⟨tc, tl, th, tz⟩ := t
  dsimp only at htc
  subst htc
  have Hx := Lib.hid hx
  have Hy := Lib.hid hy
  have Hz := Lib.hid hz
  have Ht := Lib.hid ht
  have Jxy := Lib.hid j1
  have Jyx := Lib.hid j2
  have Jyz := Lib.hid j3
  have Jmz := Lib.hid j4
  have Jxe := Lib.hid j5
  have Jto := Lib.hid j6
  clear hx hy hz ht j1 j2 j3 j4 j5 j6
  go_wp2_with fail
  refine (keep_Picked _ _ _ (by omega) (by omega)).mono ?_
  rintro e w' ⟨rfl, rfl⟩
  rw [HI.out]
  go_wp2_with fail
  refine (keep_Picked _ _ _ (by omega) (by omega)).mono ?_
  rintro e w' ⟨rfl, rfl⟩
  rw [HD.out]
  clear HI HD
  rcases hsome with ⟨rfl, rfl, rfl⟩ | ⟨g, rfl⟩
  · obtain rfl : i = 0 := by omega
    obtain rfl : d = 0 := by omega
    simp only [Int.natCast_zero] at Ht Jmz Jxe Jto
    have hW : RF w1 w1.heap.size none 0 S := hR1
    have hWx : RF w1 w1.heap.size none 0 (S.take 0) := RF.nil _ _ _
    have hWy : RF w1 w1.heap.size none 0 ((S.drop 0).take 0) := RF.nil _ _ _
    have hWz : RF w1 w1.heap.size none 0 (S.drop (0 + 0)) := hR1
    have hT1 := hT.below hA1 lT
    go_wp2_with fail
    refine (roll_Of (S.take 0) _ _ _ ⟨xc, xl, xh, xz⟩ 0 _ hT1 hWx (by omega) Hx.out (chC_take HC.out 0).symm).mono ?_
    rintro e w2 ⟨rfl, hb2⟩
    have hA2 := hA1.trans (hb2.mono hA1.size)
    have hB2 := hb2
    clear hb2
    unfold rlV
    dsimp only
    go_wp2_with fail
    refine (roll_Of ((S.drop 0).take 0) _ _ _ ⟨yc, yl, yh, yz⟩ 0 _ (hT.below (hA2.alloc hA2.size _) lT) ((RF.below hWy (hB2.alloc hB2.size _)).more (hB2.alloc hB2.size _).size) (by omega) Hy.out (chC_take (chC_drop HC.out 0) 0).symm).mono ?_
    rintro e w3 ⟨rfl, hb3⟩
    have hA3 := (hA2.alloc hA2.size _).trans (hb3.mono (hA2.alloc hA2.size _).size)
    have hB3 := (hB2.alloc hB2.size _).trans (hb3.mono (hB2.alloc hB2.size _).size)
    have bX3 : Box w3 w2.heap.size 24 [.int .i64 xc, .int .i64 xl, .int .i64 xh, .int .i64 xz] := ((Box.newAt w2 24 [.int .i64 xc, .int .i64 xl, .int .i64 xh, .int .i64 xz] _ rfl)).below hb3 ((Box.newAt w2 24 [.int .i64 xc, .int .i64 xl, .int .i64 xh, .int .i64 xz] _ rfl)).lt
    clear hb3
    unfold rlV
    dsimp only
    go_wp2_with fail
    refine (roll_Of (S.drop (0 + 0)) _ _ _ ⟨zc, zl, zh, zz⟩ 0 _ (hT.below (hA3.alloc hA3.size _) lT) ((RF.below hWz (hB3.alloc hB3.size _)).more (hB3.alloc hB3.size _).size) (by omega) Hz.out (chC_drop HC.out (0 + 0)).symm).mono ?_
    rintro e w4 ⟨rfl, hb4⟩
    have hA4 := (hA3.alloc hA3.size _).trans (hb4.mono (hA3.alloc hA3.size _).size)
    have hB4 := (hB3.alloc hB3.size _).trans (hb4.mono (hB3.alloc hB3.size _).size)
    have bX4 := ((bX3.alloc _)).below hb4 ((bX3.alloc _)).lt
    have bY4 : Box w4 w3.heap.size 24 [.int .i64 yc, .int .i64 yl, .int .i64 yh, .int .i64 yz] := ((Box.newAt w3 24 [.int .i64 yc, .int .i64 yl, .int .i64 yh, .int .i64 yz] _ rfl)).below hb4 ((Box.newAt w3 24 [.int .i64 yc, .int .i64 yl, .int .i64 yh, .int .i64 yz] _ rfl)).lt
    clear bX3 hb4
    unfold rlV
    dsimp only
    go_wp2_with fail
    refine (roll_Of S _ _ _ ⟨(0 : Int), tl, th, tz⟩ 0 _ (hT.below (hA4.alloc hA4.size _) lT) ((RF.below hW (hB4.alloc hB4.size _)).more (hB4.alloc hB4.size _).size) (by omega) Ht.out HC.out.symm).mono ?_
    rintro e w5 ⟨rfl, hb5⟩
    have hA5 := (hA4.alloc hA4.size _).trans (hb5.mono (hA4.alloc hA4.size _).size)
    have hB5 := (hB4.alloc hB4.size _).trans (hb5.mono (hB4.alloc hB4.size _).size)
    have bX5 := ((bX4.alloc _)).below hb5 ((bX4.alloc _)).lt
    have bY5 := ((bY4.alloc _)).below hb5 ((bY4.alloc _)).lt
    have bZ5 : Box w5 w4.heap.size 24 [.int .i64 zc, .int .i64 zl, .int .i64 zh, .int .i64 zz] := ((Box.newAt w4 24 [.int .i64 zc, .int .i64 zl, .int .i64 zh, .int .i64 zz] _ rfl)).below hb5 ((Box.newAt w4 24 [.int .i64 zc, .int .i64 zl, .int .i64 zh, .int .i64 zz] _ rfl)).lt
    clear bX4 bY4 hb5
    unfold rlV
    dsimp only
    obtain ⟨cX0, cX1, cX2, cX3⟩ := bX5.cells4
    have lX := bX5.lt
    obtain ⟨cY0, cY1, cY2, cY3⟩ := bY5.cells4
    have lY := bY5.lt
    go_wp2_with fail
    refine (roll_Join ⟨xc, xl, xh, xz⟩ ⟨yc, yl, yh, yz⟩ ⟨mc, ml, mh, mz⟩ 0 _ Jxy.out.2 Jxy.out.1).mono ?_
    rintro e w6 ⟨rfl, hb6⟩
    have hA6 := (hA5.alloc hA5.size _).trans (hb6.mono (hA5.alloc hA5.size _).size)
    have hB6 := (hB5.alloc hB5.size _).trans (hb6.mono (hB5.alloc hB5.size _).size)
    have bX6 := ((bX5.alloc _)).below hb6 ((bX5.alloc _)).lt
    have bY6 := ((bY5.alloc _)).below hb6 ((bY5.alloc _)).lt
    have bZ6 := ((bZ5.alloc _)).below hb6 ((bZ5.alloc _)).lt
    have bT6 : Box w6 w5.heap.size 24 [.int .i64 (0 : Int), .int .i64 tl, .int .i64 th, .int .i64 tz] := ((Box.newAt w5 24 [.int .i64 (0 : Int), .int .i64 tl, .int .i64 th, .int .i64 tz] _ rfl)).below hb6 ((Box.newAt w5 24 [.int .i64 (0 : Int), .int .i64 tl, .int .i64 th, .int .i64 tz] _ rfl)).lt
    clear bX5 bY5 bZ5 hb6
    unfold rlV
    dsimp only
    clear cX0 cX1 cX2 cX3 lX
    clear cY0 cY1 cY2 cY3 lY
    obtain ⟨cX0, cX1, cX2, cX3⟩ := bX6.cells4
    have lX := bX6.lt
    obtain ⟨cY0, cY1, cY2, cY3⟩ := bY6.cells4
    have lY := bY6.lt
    go_wp2_with fail
    refine (roll_Join ⟨yc, yl, yh, yz⟩ ⟨xc, xl, xh, xz⟩ ⟨mc, ml, mh, mz⟩ 0 _ Jyx.out.2 Jyx.out.1).mono ?_
    rintro e w7 ⟨rfl, hb7⟩
    have hA7 := (hA6.alloc hA6.size _).trans (hb7.mono (hA6.alloc hA6.size _).size)
    have hB7 := (hB6.alloc hB6.size _).trans (hb7.mono (hB6.alloc hB6.size _).size)
    have bX7 := ((bX6.alloc _)).below hb7 ((bX6.alloc _)).lt
    have bY7 := ((bY6.alloc _)).below hb7 ((bY6.alloc _)).lt
    have bZ7 := ((bZ6.alloc _)).below hb7 ((bZ6.alloc _)).lt
    have bT7 := ((bT6.alloc _)).below hb7 ((bT6.alloc _)).lt
    have bM7 : Box w7 w6.heap.size 24 [.int .i64 mc, .int .i64 ml, .int .i64 mh, .int .i64 mz] := ((Box.newAt w6 24 [.int .i64 mc, .int .i64 ml, .int .i64 mh, .int .i64 mz] _ rfl)).below hb7 ((Box.newAt w6 24 [.int .i64 mc, .int .i64 ml, .int .i64 mh, .int .i64 mz] _ rfl)).lt
    clear bX6 bY6 bZ6 bT6 hb7
    unfold rlV
    dsimp only
    clear cX0 cX1 cX2 cX3 lX
    clear cY0 cY1 cY2 cY3 lY
    obtain ⟨cY0, cY1, cY2, cY3⟩ := bY7.cells4
    have lY := bY7.lt
    obtain ⟨cZ0, cZ1, cZ2, cZ3⟩ := bZ7.cells4
    have lZ := bZ7.lt
    go_wp2_with fail
    refine (roll_Join ⟨yc, yl, yh, yz⟩ ⟨zc, zl, zh, zz⟩ ⟨ec, el, eh, ez⟩ 0 _ Jyz.out.2 Jyz.out.1).mono ?_
    rintro e w8 ⟨rfl, hb8⟩
    have hA8 := (hA7.alloc hA7.size _).trans (hb8.mono (hA7.alloc hA7.size _).size)
    have hB8 := (hB7.alloc hB7.size _).trans (hb8.mono (hB7.alloc hB7.size _).size)
    have bX8 := ((bX7.alloc _)).below hb8 ((bX7.alloc _)).lt
    have bZ8 := ((bZ7.alloc _)).below hb8 ((bZ7.alloc _)).lt
    have bT8 := ((bT7.alloc _)).below hb8 ((bT7.alloc _)).lt
    have bM8 := ((bM7.alloc _)).below hb8 ((bM7.alloc _)).lt
    have bW8 : Box w8 w7.heap.size 24 [.int .i64 mc, .int .i64 ml, .int .i64 mh, .int .i64 mz] := ((Box.newAt w7 24 [.int .i64 mc, .int .i64 ml, .int .i64 mh, .int .i64 mz] _ rfl)).below hb8 ((Box.newAt w7 24 [.int .i64 mc, .int .i64 ml, .int .i64 mh, .int .i64 mz] _ rfl)).lt
    clear bX7 bY7 bZ7 bT7 bM7 hb8
    unfold rlV
    dsimp only
    clear cY0 cY1 cY2 cY3 lY
    clear cZ0 cZ1 cZ2 cZ3 lZ
    obtain ⟨cM0, cM1, cM2, cM3⟩ := bM8.cells4
    have lM := bM8.lt
    obtain ⟨cZ0, cZ1, cZ2, cZ3⟩ := bZ8.cells4
    have lZ := bZ8.lt
    go_wp2_with fail
    refine (roll_Join ⟨mc, ml, mh, mz⟩ ⟨zc, zl, zh, zz⟩ ⟨(0 : Int), tl, th, tz⟩ 0 _ Jmz.out.2 Jmz.out.1).mono ?_
    rintro e w9 ⟨rfl, hb9⟩
    have hA9 := (hA8.alloc hA8.size _).trans (hb9.mono (hA8.alloc hA8.size _).size)
    have hB9 := (hB8.alloc hB8.size _).trans (hb9.mono (hB8.alloc hB8.size _).size)
    have bX9 := ((bX8.alloc _)).below hb9 ((bX8.alloc _)).lt
    have bT9 := ((bT8.alloc _)).below hb9 ((bT8.alloc _)).lt
    have bM9 := ((bM8.alloc _)).below hb9 ((bM8.alloc _)).lt
    have bW9 := ((bW8.alloc _)).below hb9 ((bW8.alloc _)).lt
    have bE9 : Box w9 w8.heap.size 24 [.int .i64 ec, .int .i64 el, .int .i64 eh, .int .i64 ez] := ((Box.newAt w8 24 [.int .i64 ec, .int .i64 el, .int .i64 eh, .int .i64 ez] _ rfl)).below hb9 ((Box.newAt w8 24 [.int .i64 ec, .int .i64 el, .int .i64 eh, .int .i64 ez] _ rfl)).lt
    clear bX8 bZ8 bT8 bM8 bW8 hb9
    unfold rlV
    dsimp only
    clear cM0 cM1 cM2 cM3 lM
    clear cZ0 cZ1 cZ2 cZ3 lZ
    obtain ⟨cX0, cX1, cX2, cX3⟩ := bX9.cells4
    have lX := bX9.lt
    obtain ⟨cE0, cE1, cE2, cE3⟩ := bE9.cells4
    have lE := bE9.lt
    go_wp2_with fail
    refine (roll_Join ⟨xc, xl, xh, xz⟩ ⟨ec, el, eh, ez⟩ ⟨(0 : Int), tl, th, tz⟩ 0 _ Jxe.out.2 Jxe.out.1).mono ?_
    rintro e w10 ⟨rfl, hb10⟩
    have hA10 := (hA9.alloc hA9.size _).trans (hb10.mono (hA9.alloc hA9.size _).size)
    have hB10 := (hB9.alloc hB9.size _).trans (hb10.mono (hB9.alloc hB9.size _).size)
    have bT10 := ((bT9.alloc _)).below hb10 ((bT9.alloc _)).lt
    have bM10 := ((bM9.alloc _)).below hb10 ((bM9.alloc _)).lt
    have bW10 := ((bW9.alloc _)).below hb10 ((bW9.alloc _)).lt
    have bP10 : Box w10 w9.heap.size 24 [.int .i64 (0 : Int), .int .i64 tl, .int .i64 th, .int .i64 tz] := ((Box.newAt w9 24 [.int .i64 (0 : Int), .int .i64 tl, .int .i64 th, .int .i64 tz] _ rfl)).below hb10 ((Box.newAt w9 24 [.int .i64 (0 : Int), .int .i64 tl, .int .i64 th, .int .i64 tz] _ rfl)).lt
    clear bX9 bT9 bM9 bW9 bE9 hb10
    unfold rlV
    dsimp only
    clear cX0 cX1 cX2 cX3 lX
    clear cE0 cE1 cE2 cE3 lE
    obtain ⟨cT0, cT1, cT2, cT3⟩ := bT10.cells4
    have lT := bT10.lt
    go_wp2_with fail
    refine (roll_Join ⟨(0 : Int), tl, th, tz⟩ rl0 ⟨(0 : Int), tl, th, tz⟩ 0 _ Jto.out.2 Jto.out.1).mono ?_
    rintro e w11 ⟨rfl, hb11⟩
    have hA11 := (hA10.alloc hA10.size _).trans (hb11.mono (hA10.alloc hA10.size _).size)
    have hB11 := (hB10.alloc hB10.size _).trans (hb11.mono (hB10.alloc hB10.size _).size)
    have bT11 := ((bT10.alloc _)).below hb11 ((bT10.alloc _)).lt
    have bM11 := ((bM10.alloc _)).below hb11 ((bM10.alloc _)).lt
    have bW11 := ((bW10.alloc _)).below hb11 ((bW10.alloc _)).lt
    have bP11 := ((bP10.alloc _)).below hb11 ((bP10.alloc _)).lt
    have bQ11 : Box w11 w10.heap.size 24 [.int .i64 (0 : Int), .int .i64 tl, .int .i64 th, .int .i64 tz] := ((Box.newAt w10 24 [.int .i64 (0 : Int), .int .i64 tl, .int .i64 th, .int .i64 tz] _ rfl)).below hb11 ((Box.newAt w10 24 [.int .i64 (0 : Int), .int .i64 tl, .int .i64 th, .int .i64 tz] _ rfl)).lt
    clear bT10 bM10 bW10 bP10 hb11
    unfold rlV
    dsimp only
    clear cT0 cT1 cT2 cT3 lT
    go_wp2_with fail
    refine (roll_Of [(0, 3)] _ _ _ (rl1 3) 0 _ (hT.below ((hA11.alloc hA11.size _).alloc (hA11.alloc hA11.size _).size _) lT) (RF_lit1 _ _ 0 3 _ (by simp)) (by omega) ofR_one3.symm chC_one3.symm).mono ?_
    rintro e w12 ⟨rfl, hb12⟩
    have hA12 := ((hA11.alloc hA11.size _).alloc (hA11.alloc hA11.size _).size _).trans (hb12.mono ((hA11.alloc hA11.size _).alloc (hA11.alloc hA11.size _).size _).size)
    have hB12 := ((hB11.alloc hB11.size _).alloc (hB11.alloc hB11.size _).size _).trans (hb12.mono ((hB11.alloc hB11.size _).alloc (hB11.alloc hB11.size _).size _).size)
    have bT12 := ((bT11.alloc _).alloc _).below hb12 ((bT11.alloc _).alloc _).lt
    have bM12 := ((bM11.alloc _).alloc _).below hb12 ((bM11.alloc _).alloc _).lt
    have bW12 := ((bW11.alloc _).alloc _).below hb12 ((bW11.alloc _).alloc _).lt
    have bP12 := ((bP11.alloc _).alloc _).below hb12 ((bP11.alloc _).alloc _).lt
    have bQ12 := ((bQ11.alloc _).alloc _).below hb12 ((bQ11.alloc _).alloc _).lt
    have bR12 : Box w12 w11.heap.size 24 [.int .i64 (0 : Int), .int .i64 tl, .int .i64 th, .int .i64 tz] := ((Box.newAt w11 24 [.int .i64 (0 : Int), .int .i64 tl, .int .i64 th, .int .i64 tz] _ rfl).alloc _).below hb12 ((Box.newAt w11 24 [.int .i64 (0 : Int), .int .i64 tl, .int .i64 th, .int .i64 tz] _ rfl).alloc _).lt
    clear bT11 bM11 bW11 bP11 bQ11 hb12
    unfold rlV
    dsimp only
    unfold rl1
    obtain ⟨cT0, cT1, cT2, cT3⟩ := bT12.cells4
    have lT := bT12.lt
    obtain ⟨cM0, cM1, cM2, cM3⟩ := bM12.cells4
    have lM := bM12.lt
    obtain ⟨cW0, cW1, cW2, cW3⟩ := bW12.cells4
    have lW := bW12.lt
    obtain ⟨cP0, cP1, cP2, cP3⟩ := bP12.cells4
    have lP := bP12.lt
    obtain ⟨cQ0, cQ1, cQ2, cQ3⟩ := bQ12.cells4
    have lQ := bQ12.lt
    obtain ⟨cR0, cR1, cR2, cR3⟩ := bR12.cells4
    have lR := bR12.lt
    go_wp2
    go_ret
    exact ⟨ret_bool (by simp), hA12.alloc hA12.size _⟩
  by_cases hc1 : cp = i
  · obtain rfl : cp = i := by omega
    obtain rfl : N = cp := by omega
    obtain rfl : d = 0 := by omega
    have hW : RF w1 w1.heap.size (some ⟨g, 0, none⟩) N S := hR1
    have hWx : RF w1 w1.heap.size (some ⟨g, 0, none⟩) N (S.take N) := RF.win hR1 (i := 0) (m := N) (by omega)
    have hWy : RF w1 w1.heap.size (some ⟨g, 0, none⟩) 0 ((S.drop N).take 0) := RF.nil _ _ _
    have hWz : RF w1 w1.heap.size (some ⟨g, 0, none⟩) 0 (S.drop (N + 0)) := by rw [List.drop_eq_nil_of_le (by rw [HN.out]; omega)]; exact RF.nil _ _ _
    have hT1 := hT.below hA1 lT
    go_wp2_with fail
    refine (roll_Of (S.take N) _ _ _ ⟨xc, xl, xh, xz⟩ 0 _ hT1 hWx (by omega) Hx.out (chC_take HC.out N).symm).mono ?_
    rintro e w2 ⟨rfl, hb2⟩
    have hA2 := hA1.trans (hb2.mono hA1.size)
    have hB2 := hb2
    clear hb2
    unfold rlV
    dsimp only
    go_wp2_with fail
    refine (roll_Of ((S.drop N).take 0) _ _ _ ⟨yc, yl, yh, yz⟩ 0 _ (hT.below (hA2.alloc hA2.size _) lT) ((RF.below hWy (hB2.alloc hB2.size _)).more (hB2.alloc hB2.size _).size) (by omega) Hy.out (chC_take (chC_drop HC.out N) 0).symm).mono ?_
    rintro e w3 ⟨rfl, hb3⟩
    have hA3 := (hA2.alloc hA2.size _).trans (hb3.mono (hA2.alloc hA2.size _).size)
    have hB3 := (hB2.alloc hB2.size _).trans (hb3.mono (hB2.alloc hB2.size _).size)
    have bX3 : Box w3 w2.heap.size 24 [.int .i64 xc, .int .i64 xl, .int .i64 xh, .int .i64 xz] := ((Box.newAt w2 24 [.int .i64 xc, .int .i64 xl, .int .i64 xh, .int .i64 xz] _ rfl)).below hb3 ((Box.newAt w2 24 [.int .i64 xc, .int .i64 xl, .int .i64 xh, .int .i64 xz] _ rfl)).lt
    clear hb3
    unfold rlV
    dsimp only
    go_wp2_with fail
    refine (roll_Of (S.drop (N + 0)) _ _ _ ⟨zc, zl, zh, zz⟩ 0 _ (hT.below (hA3.alloc hA3.size _) lT) ((RF.below hWz (hB3.alloc hB3.size _)).more (hB3.alloc hB3.size _).size) (by omega) Hz.out (chC_drop HC.out (N + 0)).symm).mono ?_
    rintro e w4 ⟨rfl, hb4⟩
    have hA4 := (hA3.alloc hA3.size _).trans (hb4.mono (hA3.alloc hA3.size _).size)
    have hB4 := (hB3.alloc hB3.size _).trans (hb4.mono (hB3.alloc hB3.size _).size)
    have bX4 := ((bX3.alloc _)).below hb4 ((bX3.alloc _)).lt
    have bY4 : Box w4 w3.heap.size 24 [.int .i64 yc, .int .i64 yl, .int .i64 yh, .int .i64 yz] := ((Box.newAt w3 24 [.int .i64 yc, .int .i64 yl, .int .i64 yh, .int .i64 yz] _ rfl)).below hb4 ((Box.newAt w3 24 [.int .i64 yc, .int .i64 yl, .int .i64 yh, .int .i64 yz] _ rfl)).lt
    clear bX3 hb4
    unfold rlV
    dsimp only
    go_wp2_with fail
    refine (roll_Of S _ _ _ ⟨(N : Int), tl, th, tz⟩ 0 _ (hT.below (hA4.alloc hA4.size _) lT) ((RF.below hW (hB4.alloc hB4.size _)).more (hB4.alloc hB4.size _).size) (by omega) Ht.out HC.out.symm).mono ?_
    rintro e w5 ⟨rfl, hb5⟩
    have hA5 := (hA4.alloc hA4.size _).trans (hb5.mono (hA4.alloc hA4.size _).size)
    have hB5 := (hB4.alloc hB4.size _).trans (hb5.mono (hB4.alloc hB4.size _).size)
    have bX5 := ((bX4.alloc _)).below hb5 ((bX4.alloc _)).lt
    have bY5 := ((bY4.alloc _)).below hb5 ((bY4.alloc _)).lt
    have bZ5 : Box w5 w4.heap.size 24 [.int .i64 zc, .int .i64 zl, .int .i64 zh, .int .i64 zz] := ((Box.newAt w4 24 [.int .i64 zc, .int .i64 zl, .int .i64 zh, .int .i64 zz] _ rfl)).below hb5 ((Box.newAt w4 24 [.int .i64 zc, .int .i64 zl, .int .i64 zh, .int .i64 zz] _ rfl)).lt
    clear bX4 bY4 hb5
    unfold rlV
    dsimp only
    obtain ⟨cX0, cX1, cX2, cX3⟩ := bX5.cells4
    have lX := bX5.lt
    obtain ⟨cY0, cY1, cY2, cY3⟩ := bY5.cells4
    have lY := bY5.lt
    go_wp2_with fail
    refine (roll_Join ⟨xc, xl, xh, xz⟩ ⟨yc, yl, yh, yz⟩ ⟨mc, ml, mh, mz⟩ 0 _ Jxy.out.2 Jxy.out.1).mono ?_
    rintro e w6 ⟨rfl, hb6⟩
    have hA6 := (hA5.alloc hA5.size _).trans (hb6.mono (hA5.alloc hA5.size _).size)
    have hB6 := (hB5.alloc hB5.size _).trans (hb6.mono (hB5.alloc hB5.size _).size)
    have bX6 := ((bX5.alloc _)).below hb6 ((bX5.alloc _)).lt
    have bY6 := ((bY5.alloc _)).below hb6 ((bY5.alloc _)).lt
    have bZ6 := ((bZ5.alloc _)).below hb6 ((bZ5.alloc _)).lt
    have bT6 : Box w6 w5.heap.size 24 [.int .i64 (N : Int), .int .i64 tl, .int .i64 th, .int .i64 tz] := ((Box.newAt w5 24 [.int .i64 (N : Int), .int .i64 tl, .int .i64 th, .int .i64 tz] _ rfl)).below hb6 ((Box.newAt w5 24 [.int .i64 (N : Int), .int .i64 tl, .int .i64 th, .int .i64 tz] _ rfl)).lt
    clear bX5 bY5 bZ5 hb6
    unfold rlV
    dsimp only
    clear cX0 cX1 cX2 cX3 lX
    clear cY0 cY1 cY2 cY3 lY
    obtain ⟨cX0, cX1, cX2, cX3⟩ := bX6.cells4
    have lX := bX6.lt
    obtain ⟨cY0, cY1, cY2, cY3⟩ := bY6.cells4
    have lY := bY6.lt
    go_wp2_with fail
    refine (roll_Join ⟨yc, yl, yh, yz⟩ ⟨xc, xl, xh, xz⟩ ⟨mc, ml, mh, mz⟩ 0 _ Jyx.out.2 Jyx.out.1).mono ?_
    rintro e w7 ⟨rfl, hb7⟩
    have hA7 := (hA6.alloc hA6.size _).trans (hb7.mono (hA6.alloc hA6.size _).size)
    have hB7 := (hB6.alloc hB6.size _).trans (hb7.mono (hB6.alloc hB6.size _).size)
    have bX7 := ((bX6.alloc _)).below hb7 ((bX6.alloc _)).lt
    have bY7 := ((bY6.alloc _)).below hb7 ((bY6.alloc _)).lt
    have bZ7 := ((bZ6.alloc _)).below hb7 ((bZ6.alloc _)).lt
    have bT7 := ((bT6.alloc _)).below hb7 ((bT6.alloc _)).lt
    have bM7 : Box w7 w6.heap.size 24 [.int .i64 mc, .int .i64 ml, .int .i64 mh, .int .i64 mz] := ((Box.newAt w6 24 [.int .i64 mc, .int .i64 ml, .int .i64 mh, .int .i64 mz] _ rfl)).below hb7 ((Box.newAt w6 24 [.int .i64 mc, .int .i64 ml, .int .i64 mh, .int .i64 mz] _ rfl)).lt
    clear bX6 bY6 bZ6 bT6 hb7
    unfold rlV
    dsimp only
    clear cX0 cX1 cX2 cX3 lX
    clear cY0 cY1 cY2 cY3 lY
    obtain ⟨cY0, cY1, cY2, cY3⟩ := bY7.cells4
    have lY := bY7.lt
    obtain ⟨cZ0, cZ1, cZ2, cZ3⟩ := bZ7.cells4
    have lZ := bZ7.lt
    go_wp2_with fail
    refine (roll_Join ⟨yc, yl, yh, yz⟩ ⟨zc, zl, zh, zz⟩ ⟨ec, el, eh, ez⟩ 0 _ Jyz.out.2 Jyz.out.1).mono ?_
    rintro e w8 ⟨rfl, hb8⟩
    have hA8 := (hA7.alloc hA7.size _).trans (hb8.mono (hA7.alloc hA7.size _).size)
    have hB8 := (hB7.alloc hB7.size _).trans (hb8.mono (hB7.alloc hB7.size _).size)
    have bX8 := ((bX7.alloc _)).below hb8 ((bX7.alloc _)).lt
    have bZ8 := ((bZ7.alloc _)).below hb8 ((bZ7.alloc _)).lt
    have bT8 := ((bT7.alloc _)).below hb8 ((bT7.alloc _)).lt
    have bM8 := ((bM7.alloc _)).below hb8 ((bM7.alloc _)).lt
    have bW8 : Box w8 w7.heap.size 24 [.int .i64 mc, .int .i64 ml, .int .i64 mh, .int .i64 mz] := ((Box.newAt w7 24 [.int .i64 mc, .int .i64 ml, .int .i64 mh, .int .i64 mz] _ rfl)).below hb8 ((Box.newAt w7 24 [.int .i64 mc, .int .i64 ml, .int .i64 mh, .int .i64 mz] _ rfl)).lt
    clear bX7 bY7 bZ7 bT7 bM7 hb8
    unfold rlV
    dsimp only
    clear cY0 cY1 cY2 cY3 lY
    clear cZ0 cZ1 cZ2 cZ3 lZ
    obtain ⟨cM0, cM1, cM2, cM3⟩ := bM8.cells4
    have lM := bM8.lt
    obtain ⟨cZ0, cZ1, cZ2, cZ3⟩ := bZ8.cells4
    have lZ := bZ8.lt
    go_wp2_with fail
    refine (roll_Join ⟨mc, ml, mh, mz⟩ ⟨zc, zl, zh, zz⟩ ⟨(N : Int), tl, th, tz⟩ 0 _ Jmz.out.2 Jmz.out.1).mono ?_
    rintro e w9 ⟨rfl, hb9⟩
    have hA9 := (hA8.alloc hA8.size _).trans (hb9.mono (hA8.alloc hA8.size _).size)
    have hB9 := (hB8.alloc hB8.size _).trans (hb9.mono (hB8.alloc hB8.size _).size)
    have bX9 := ((bX8.alloc _)).below hb9 ((bX8.alloc _)).lt
    have bT9 := ((bT8.alloc _)).below hb9 ((bT8.alloc _)).lt
    have bM9 := ((bM8.alloc _)).below hb9 ((bM8.alloc _)).lt
    have bW9 := ((bW8.alloc _)).below hb9 ((bW8.alloc _)).lt
    have bE9 : Box w9 w8.heap.size 24 [.int .i64 ec, .int .i64 el, .int .i64 eh, .int .i64 ez] := ((Box.newAt w8 24 [.int .i64 ec, .int .i64 el, .int .i64 eh, .int .i64 ez] _ rfl)).below hb9 ((Box.newAt w8 24 [.int .i64 ec, .int .i64 el, .int .i64 eh, .int .i64 ez] _ rfl)).lt
    clear bX8 bZ8 bT8 bM8 bW8 hb9
    unfold rlV
    dsimp only
    clear cM0 cM1 cM2 cM3 lM
    clear cZ0 cZ1 cZ2 cZ3 lZ
    obtain ⟨cX0, cX1, cX2, cX3⟩ := bX9.cells4
    have lX := bX9.lt
    obtain ⟨cE0, cE1, cE2, cE3⟩ := bE9.cells4
    have lE := bE9.lt
    go_wp2_with fail
    refine (roll_Join ⟨xc, xl, xh, xz⟩ ⟨ec, el, eh, ez⟩ ⟨(N : Int), tl, th, tz⟩ 0 _ Jxe.out.2 Jxe.out.1).mono ?_
    rintro e w10 ⟨rfl, hb10⟩
    have hA10 := (hA9.alloc hA9.size _).trans (hb10.mono (hA9.alloc hA9.size _).size)
    have hB10 := (hB9.alloc hB9.size _).trans (hb10.mono (hB9.alloc hB9.size _).size)
    have bT10 := ((bT9.alloc _)).below hb10 ((bT9.alloc _)).lt
    have bM10 := ((bM9.alloc _)).below hb10 ((bM9.alloc _)).lt
    have bW10 := ((bW9.alloc _)).below hb10 ((bW9.alloc _)).lt
    have bP10 : Box w10 w9.heap.size 24 [.int .i64 (N : Int), .int .i64 tl, .int .i64 th, .int .i64 tz] := ((Box.newAt w9 24 [.int .i64 (N : Int), .int .i64 tl, .int .i64 th, .int .i64 tz] _ rfl)).below hb10 ((Box.newAt w9 24 [.int .i64 (N : Int), .int .i64 tl, .int .i64 th, .int .i64 tz] _ rfl)).lt
    clear bX9 bT9 bM9 bW9 bE9 hb10
    unfold rlV
    dsimp only
    clear cX0 cX1 cX2 cX3 lX
    clear cE0 cE1 cE2 cE3 lE
    obtain ⟨cT0, cT1, cT2, cT3⟩ := bT10.cells4
    have lT := bT10.lt
    go_wp2_with fail
    refine (roll_Join ⟨(N : Int), tl, th, tz⟩ rl0 ⟨(N : Int), tl, th, tz⟩ 0 _ Jto.out.2 Jto.out.1).mono ?_
    rintro e w11 ⟨rfl, hb11⟩
    have hA11 := (hA10.alloc hA10.size _).trans (hb11.mono (hA10.alloc hA10.size _).size)
    have hB11 := (hB10.alloc hB10.size _).trans (hb11.mono (hB10.alloc hB10.size _).size)
    have bT11 := ((bT10.alloc _)).below hb11 ((bT10.alloc _)).lt
    have bM11 := ((bM10.alloc _)).below hb11 ((bM10.alloc _)).lt
    have bW11 := ((bW10.alloc _)).below hb11 ((bW10.alloc _)).lt
    have bP11 := ((bP10.alloc _)).below hb11 ((bP10.alloc _)).lt
    have bQ11 : Box w11 w10.heap.size 24 [.int .i64 (N : Int), .int .i64 tl, .int .i64 th, .int .i64 tz] := ((Box.newAt w10 24 [.int .i64 (N : Int), .int .i64 tl, .int .i64 th, .int .i64 tz] _ rfl)).below hb11 ((Box.newAt w10 24 [.int .i64 (N : Int), .int .i64 tl, .int .i64 th, .int .i64 tz] _ rfl)).lt
    clear bT10 bM10 bW10 bP10 hb11
    unfold rlV
    dsimp only
    clear cT0 cT1 cT2 cT3 lT
    go_wp2_with fail
    refine (roll_Of [(0, 3)] _ _ _ (rl1 3) 0 _ (hT.below ((hA11.alloc hA11.size _).alloc (hA11.alloc hA11.size _).size _) lT) (RF_lit1 _ _ 0 3 _ (by simp)) (by omega) ofR_one3.symm chC_one3.symm).mono ?_
    rintro e w12 ⟨rfl, hb12⟩
    have hA12 := ((hA11.alloc hA11.size _).alloc (hA11.alloc hA11.size _).size _).trans (hb12.mono ((hA11.alloc hA11.size _).alloc (hA11.alloc hA11.size _).size _).size)
    have hB12 := ((hB11.alloc hB11.size _).alloc (hB11.alloc hB11.size _).size _).trans (hb12.mono ((hB11.alloc hB11.size _).alloc (hB11.alloc hB11.size _).size _).size)
    have bT12 := ((bT11.alloc _).alloc _).below hb12 ((bT11.alloc _).alloc _).lt
    have bM12 := ((bM11.alloc _).alloc _).below hb12 ((bM11.alloc _).alloc _).lt
    have bW12 := ((bW11.alloc _).alloc _).below hb12 ((bW11.alloc _).alloc _).lt
    have bP12 := ((bP11.alloc _).alloc _).below hb12 ((bP11.alloc _).alloc _).lt
    have bQ12 := ((bQ11.alloc _).alloc _).below hb12 ((bQ11.alloc _).alloc _).lt
    have bR12 : Box w12 w11.heap.size 24 [.int .i64 (N : Int), .int .i64 tl, .int .i64 th, .int .i64 tz] := ((Box.newAt w11 24 [.int .i64 (N : Int), .int .i64 tl, .int .i64 th, .int .i64 tz] _ rfl).alloc _).below hb12 ((Box.newAt w11 24 [.int .i64 (N : Int), .int .i64 tl, .int .i64 th, .int .i64 tz] _ rfl).alloc _).lt
    clear bT11 bM11 bW11 bP11 bQ11 hb12
    unfold rlV
    dsimp only
    unfold rl1
    obtain ⟨cT0, cT1, cT2, cT3⟩ := bT12.cells4
    have lT := bT12.lt
    obtain ⟨cM0, cM1, cM2, cM3⟩ := bM12.cells4
    have lM := bM12.lt
    obtain ⟨cW0, cW1, cW2, cW3⟩ := bW12.cells4
    have lW := bW12.lt
    obtain ⟨cP0, cP1, cP2, cP3⟩ := bP12.cells4
    have lP := bP12.lt
    obtain ⟨cQ0, cQ1, cQ2, cQ3⟩ := bQ12.cells4
    have lQ := bQ12.lt
    obtain ⟨cR0, cR1, cR2, cR3⟩ := bR12.cells4
    have lR := bR12.lt
    go_wp2
    go_ret
    exact ⟨ret_bool (by simp), hA12.alloc hA12.size _⟩
  by_cases hc2 : cp = i + d
  · have hW : RF w1 w1.heap.size (some ⟨g, 0, none⟩) N S := hR1
    have hWx : RF w1 w1.heap.size (some ⟨g, 0, none⟩) i (S.take i) := RF.win hR1 (i := 0) (m := i) (by omega)
    have hWy : RF w1 w1.heap.size (some ⟨g, i * 2, none⟩) d ((S.drop i).take d) := by have := RF.win hR1 (i := i) (m := d) (by omega); rwa [Nat.zero_add] at this
    have hWz : RF w1 w1.heap.size (some ⟨g, 0, none⟩) (N - (i + d)) (S.drop (i + d)) := by rw [List.drop_eq_nil_of_le (by rw [HN.out]; omega), show N - (i + d) = 0 by omega]; exact RF.nil _ _ _
    have hT1 := hT.below hA1 lT
    go_wp2_with fail
    refine (roll_Of (S.take i) _ _ _ ⟨xc, xl, xh, xz⟩ 0 _ hT1 hWx (by omega) Hx.out (chC_take HC.out i).symm).mono ?_
    rintro e w2 ⟨rfl, hb2⟩
    have hA2 := hA1.trans (hb2.mono hA1.size)
    have hB2 := hb2
    clear hb2
    unfold rlV
    dsimp only
    go_wp2_with fail
    refine (roll_Of ((S.drop i).take d) _ _ _ ⟨yc, yl, yh, yz⟩ 0 _ (hT.below (hA2.alloc hA2.size _) lT) ((RF.below hWy (hB2.alloc hB2.size _)).more (hB2.alloc hB2.size _).size) (by omega) Hy.out (chC_take (chC_drop HC.out i) d).symm).mono ?_
    rintro e w3 ⟨rfl, hb3⟩
    have hA3 := (hA2.alloc hA2.size _).trans (hb3.mono (hA2.alloc hA2.size _).size)
    have hB3 := (hB2.alloc hB2.size _).trans (hb3.mono (hB2.alloc hB2.size _).size)
    have bX3 : Box w3 w2.heap.size 24 [.int .i64 xc, .int .i64 xl, .int .i64 xh, .int .i64 xz] := ((Box.newAt w2 24 [.int .i64 xc, .int .i64 xl, .int .i64 xh, .int .i64 xz] _ rfl)).below hb3 ((Box.newAt w2 24 [.int .i64 xc, .int .i64 xl, .int .i64 xh, .int .i64 xz] _ rfl)).lt
    clear hb3
    unfold rlV
    dsimp only
    go_wp2_with fail
    refine (roll_Of (S.drop (i + d)) _ _ _ ⟨zc, zl, zh, zz⟩ 0 _ (hT.below (hA3.alloc hA3.size _) lT) ((RF.below hWz (hB3.alloc hB3.size _)).more (hB3.alloc hB3.size _).size) (by omega) Hz.out (chC_drop HC.out (i + d)).symm).mono ?_
    rintro e w4 ⟨rfl, hb4⟩
    have hA4 := (hA3.alloc hA3.size _).trans (hb4.mono (hA3.alloc hA3.size _).size)
    have hB4 := (hB3.alloc hB3.size _).trans (hb4.mono (hB3.alloc hB3.size _).size)
    have bX4 := ((bX3.alloc _)).below hb4 ((bX3.alloc _)).lt
    have bY4 : Box w4 w3.heap.size 24 [.int .i64 yc, .int .i64 yl, .int .i64 yh, .int .i64 yz] := ((Box.newAt w3 24 [.int .i64 yc, .int .i64 yl, .int .i64 yh, .int .i64 yz] _ rfl)).below hb4 ((Box.newAt w3 24 [.int .i64 yc, .int .i64 yl, .int .i64 yh, .int .i64 yz] _ rfl)).lt
    clear bX3 hb4
    unfold rlV
    dsimp only
    go_wp2_with fail
    refine (roll_Of S _ _ _ ⟨(N : Int), tl, th, tz⟩ 0 _ (hT.below (hA4.alloc hA4.size _) lT) ((RF.below hW (hB4.alloc hB4.size _)).more (hB4.alloc hB4.size _).size) (by omega) Ht.out HC.out.symm).mono ?_
    rintro e w5 ⟨rfl, hb5⟩
    have hA5 := (hA4.alloc hA4.size _).trans (hb5.mono (hA4.alloc hA4.size _).size)
    have hB5 := (hB4.alloc hB4.size _).trans (hb5.mono (hB4.alloc hB4.size _).size)
    have bX5 := ((bX4.alloc _)).below hb5 ((bX4.alloc _)).lt
    have bY5 := ((bY4.alloc _)).below hb5 ((bY4.alloc _)).lt
    have bZ5 : Box w5 w4.heap.size 24 [.int .i64 zc, .int .i64 zl, .int .i64 zh, .int .i64 zz] := ((Box.newAt w4 24 [.int .i64 zc, .int .i64 zl, .int .i64 zh, .int .i64 zz] _ rfl)).below hb5 ((Box.newAt w4 24 [.int .i64 zc, .int .i64 zl, .int .i64 zh, .int .i64 zz] _ rfl)).lt
    clear bX4 bY4 hb5
    unfold rlV
    dsimp only
    obtain ⟨cX0, cX1, cX2, cX3⟩ := bX5.cells4
    have lX := bX5.lt
    obtain ⟨cY0, cY1, cY2, cY3⟩ := bY5.cells4
    have lY := bY5.lt
    go_wp2_with fail
    refine (roll_Join ⟨xc, xl, xh, xz⟩ ⟨yc, yl, yh, yz⟩ ⟨mc, ml, mh, mz⟩ 0 _ Jxy.out.2 Jxy.out.1).mono ?_
    rintro e w6 ⟨rfl, hb6⟩
    have hA6 := (hA5.alloc hA5.size _).trans (hb6.mono (hA5.alloc hA5.size _).size)
    have hB6 := (hB5.alloc hB5.size _).trans (hb6.mono (hB5.alloc hB5.size _).size)
    have bX6 := ((bX5.alloc _)).below hb6 ((bX5.alloc _)).lt
    have bY6 := ((bY5.alloc _)).below hb6 ((bY5.alloc _)).lt
    have bZ6 := ((bZ5.alloc _)).below hb6 ((bZ5.alloc _)).lt
    have bT6 : Box w6 w5.heap.size 24 [.int .i64 (N : Int), .int .i64 tl, .int .i64 th, .int .i64 tz] := ((Box.newAt w5 24 [.int .i64 (N : Int), .int .i64 tl, .int .i64 th, .int .i64 tz] _ rfl)).below hb6 ((Box.newAt w5 24 [.int .i64 (N : Int), .int .i64 tl, .int .i64 th, .int .i64 tz] _ rfl)).lt
    clear bX5 bY5 bZ5 hb6
    unfold rlV
    dsimp only
    clear cX0 cX1 cX2 cX3 lX
    clear cY0 cY1 cY2 cY3 lY
    obtain ⟨cX0, cX1, cX2, cX3⟩ := bX6.cells4
    have lX := bX6.lt
    obtain ⟨cY0, cY1, cY2, cY3⟩ := bY6.cells4
    have lY := bY6.lt
    go_wp2_with fail
    refine (roll_Join ⟨yc, yl, yh, yz⟩ ⟨xc, xl, xh, xz⟩ ⟨mc, ml, mh, mz⟩ 0 _ Jyx.out.2 Jyx.out.1).mono ?_
    rintro e w7 ⟨rfl, hb7⟩
    have hA7 := (hA6.alloc hA6.size _).trans (hb7.mono (hA6.alloc hA6.size _).size)
    have hB7 := (hB6.alloc hB6.size _).trans (hb7.mono (hB6.alloc hB6.size _).size)
    have bX7 := ((bX6.alloc _)).below hb7 ((bX6.alloc _)).lt
    have bY7 := ((bY6.alloc _)).below hb7 ((bY6.alloc _)).lt
    have bZ7 := ((bZ6.alloc _)).below hb7 ((bZ6.alloc _)).lt
    have bT7 := ((bT6.alloc _)).below hb7 ((bT6.alloc _)).lt
    have bM7 : Box w7 w6.heap.size 24 [.int .i64 mc, .int .i64 ml, .int .i64 mh, .int .i64 mz] := ((Box.newAt w6 24 [.int .i64 mc, .int .i64 ml, .int .i64 mh, .int .i64 mz] _ rfl)).below hb7 ((Box.newAt w6 24 [.int .i64 mc, .int .i64 ml, .int .i64 mh, .int .i64 mz] _ rfl)).lt
    clear bX6 bY6 bZ6 bT6 hb7
    unfold rlV
    dsimp only
    clear cX0 cX1 cX2 cX3 lX
    clear cY0 cY1 cY2 cY3 lY
    obtain ⟨cY0, cY1, cY2, cY3⟩ := bY7.cells4
    have lY := bY7.lt
    obtain ⟨cZ0, cZ1, cZ2, cZ3⟩ := bZ7.cells4
    have lZ := bZ7.lt
    go_wp2_with fail
    refine (roll_Join ⟨yc, yl, yh, yz⟩ ⟨zc, zl, zh, zz⟩ ⟨ec, el, eh, ez⟩ 0 _ Jyz.out.2 Jyz.out.1).mono ?_
    rintro e w8 ⟨rfl, hb8⟩
    have hA8 := (hA7.alloc hA7.size _).trans (hb8.mono (hA7.alloc hA7.size _).size)
    have hB8 := (hB7.alloc hB7.size _).trans (hb8.mono (hB7.alloc hB7.size _).size)
    have bX8 := ((bX7.alloc _)).below hb8 ((bX7.alloc _)).lt
    have bZ8 := ((bZ7.alloc _)).below hb8 ((bZ7.alloc _)).lt
    have bT8 := ((bT7.alloc _)).below hb8 ((bT7.alloc _)).lt
    have bM8 := ((bM7.alloc _)).below hb8 ((bM7.alloc _)).lt
    have bW8 : Box w8 w7.heap.size 24 [.int .i64 mc, .int .i64 ml, .int .i64 mh, .int .i64 mz] := ((Box.newAt w7 24 [.int .i64 mc, .int .i64 ml, .int .i64 mh, .int .i64 mz] _ rfl)).below hb8 ((Box.newAt w7 24 [.int .i64 mc, .int .i64 ml, .int .i64 mh, .int .i64 mz] _ rfl)).lt
    clear bX7 bY7 bZ7 bT7 bM7 hb8
    unfold rlV
    dsimp only
    clear cY0 cY1 cY2 cY3 lY
    clear cZ0 cZ1 cZ2 cZ3 lZ
    obtain ⟨cM0, cM1, cM2, cM3⟩ := bM8.cells4
    have lM := bM8.lt
    obtain ⟨cZ0, cZ1, cZ2, cZ3⟩ := bZ8.cells4
    have lZ := bZ8.lt
    go_wp2_with fail
    refine (roll_Join ⟨mc, ml, mh, mz⟩ ⟨zc, zl, zh, zz⟩ ⟨(N : Int), tl, th, tz⟩ 0 _ Jmz.out.2 Jmz.out.1).mono ?_
    rintro e w9 ⟨rfl, hb9⟩
    have hA9 := (hA8.alloc hA8.size _).trans (hb9.mono (hA8.alloc hA8.size _).size)
    have hB9 := (hB8.alloc hB8.size _).trans (hb9.mono (hB8.alloc hB8.size _).size)
    have bX9 := ((bX8.alloc _)).below hb9 ((bX8.alloc _)).lt
    have bT9 := ((bT8.alloc _)).below hb9 ((bT8.alloc _)).lt
    have bM9 := ((bM8.alloc _)).below hb9 ((bM8.alloc _)).lt
    have bW9 := ((bW8.alloc _)).below hb9 ((bW8.alloc _)).lt
    have bE9 : Box w9 w8.heap.size 24 [.int .i64 ec, .int .i64 el, .int .i64 eh, .int .i64 ez] := ((Box.newAt w8 24 [.int .i64 ec, .int .i64 el, .int .i64 eh, .int .i64 ez] _ rfl)).below hb9 ((Box.newAt w8 24 [.int .i64 ec, .int .i64 el, .int .i64 eh, .int .i64 ez] _ rfl)).lt
    clear bX8 bZ8 bT8 bM8 bW8 hb9
    unfold rlV
    dsimp only
    clear cM0 cM1 cM2 cM3 lM
    clear cZ0 cZ1 cZ2 cZ3 lZ
    obtain ⟨cX0, cX1, cX2, cX3⟩ := bX9.cells4
    have lX := bX9.lt
    obtain ⟨cE0, cE1, cE2, cE3⟩ := bE9.cells4
    have lE := bE9.lt
    go_wp2_with fail
    refine (roll_Join ⟨xc, xl, xh, xz⟩ ⟨ec, el, eh, ez⟩ ⟨(N : Int), tl, th, tz⟩ 0 _ Jxe.out.2 Jxe.out.1).mono ?_
    rintro e w10 ⟨rfl, hb10⟩
    have hA10 := (hA9.alloc hA9.size _).trans (hb10.mono (hA9.alloc hA9.size _).size)
    have hB10 := (hB9.alloc hB9.size _).trans (hb10.mono (hB9.alloc hB9.size _).size)
    have bT10 := ((bT9.alloc _)).below hb10 ((bT9.alloc _)).lt
    have bM10 := ((bM9.alloc _)).below hb10 ((bM9.alloc _)).lt
    have bW10 := ((bW9.alloc _)).below hb10 ((bW9.alloc _)).lt
    have bP10 : Box w10 w9.heap.size 24 [.int .i64 (N : Int), .int .i64 tl, .int .i64 th, .int .i64 tz] := ((Box.newAt w9 24 [.int .i64 (N : Int), .int .i64 tl, .int .i64 th, .int .i64 tz] _ rfl)).below hb10 ((Box.newAt w9 24 [.int .i64 (N : Int), .int .i64 tl, .int .i64 th, .int .i64 tz] _ rfl)).lt
    clear bX9 bT9 bM9 bW9 bE9 hb10
    unfold rlV
    dsimp only
    clear cX0 cX1 cX2 cX3 lX
    clear cE0 cE1 cE2 cE3 lE
    obtain ⟨cT0, cT1, cT2, cT3⟩ := bT10.cells4
    have lT := bT10.lt
    go_wp2_with fail
    refine (roll_Join ⟨(N : Int), tl, th, tz⟩ rl0 ⟨(N : Int), tl, th, tz⟩ 0 _ Jto.out.2 Jto.out.1).mono ?_
    rintro e w11 ⟨rfl, hb11⟩
    have hA11 := (hA10.alloc hA10.size _).trans (hb11.mono (hA10.alloc hA10.size _).size)
    have hB11 := (hB10.alloc hB10.size _).trans (hb11.mono (hB10.alloc hB10.size _).size)
    have bT11 := ((bT10.alloc _)).below hb11 ((bT10.alloc _)).lt
    have bM11 := ((bM10.alloc _)).below hb11 ((bM10.alloc _)).lt
    have bW11 := ((bW10.alloc _)).below hb11 ((bW10.alloc _)).lt
    have bP11 := ((bP10.alloc _)).below hb11 ((bP10.alloc _)).lt
    have bQ11 : Box w11 w10.heap.size 24 [.int .i64 (N : Int), .int .i64 tl, .int .i64 th, .int .i64 tz] := ((Box.newAt w10 24 [.int .i64 (N : Int), .int .i64 tl, .int .i64 th, .int .i64 tz] _ rfl)).below hb11 ((Box.newAt w10 24 [.int .i64 (N : Int), .int .i64 tl, .int .i64 th, .int .i64 tz] _ rfl)).lt
    clear bT10 bM10 bW10 bP10 hb11
    unfold rlV
    dsimp only
    clear cT0 cT1 cT2 cT3 lT
    go_wp2_with fail
    refine (roll_Of [(0, 3)] _ _ _ (rl1 3) 0 _ (hT.below ((hA11.alloc hA11.size _).alloc (hA11.alloc hA11.size _).size _) lT) (RF_lit1 _ _ 0 3 _ (by simp)) (by omega) ofR_one3.symm chC_one3.symm).mono ?_
    rintro e w12 ⟨rfl, hb12⟩
    have hA12 := ((hA11.alloc hA11.size _).alloc (hA11.alloc hA11.size _).size _).trans (hb12.mono ((hA11.alloc hA11.size _).alloc (hA11.alloc hA11.size _).size _).size)
    have hB12 := ((hB11.alloc hB11.size _).alloc (hB11.alloc hB11.size _).size _).trans (hb12.mono ((hB11.alloc hB11.size _).alloc (hB11.alloc hB11.size _).size _).size)
    have bT12 := ((bT11.alloc _).alloc _).below hb12 ((bT11.alloc _).alloc _).lt
    have bM12 := ((bM11.alloc _).alloc _).below hb12 ((bM11.alloc _).alloc _).lt
    have bW12 := ((bW11.alloc _).alloc _).below hb12 ((bW11.alloc _).alloc _).lt
    have bP12 := ((bP11.alloc _).alloc _).below hb12 ((bP11.alloc _).alloc _).lt
    have bQ12 := ((bQ11.alloc _).alloc _).below hb12 ((bQ11.alloc _).alloc _).lt
    have bR12 : Box w12 w11.heap.size 24 [.int .i64 (N : Int), .int .i64 tl, .int .i64 th, .int .i64 tz] := ((Box.newAt w11 24 [.int .i64 (N : Int), .int .i64 tl, .int .i64 th, .int .i64 tz] _ rfl).alloc _).below hb12 ((Box.newAt w11 24 [.int .i64 (N : Int), .int .i64 tl, .int .i64 th, .int .i64 tz] _ rfl).alloc _).lt
    clear bT11 bM11 bW11 bP11 bQ11 hb12
    unfold rlV
    dsimp only
    unfold rl1
    obtain ⟨cT0, cT1, cT2, cT3⟩ := bT12.cells4
    have lT := bT12.lt
    obtain ⟨cM0, cM1, cM2, cM3⟩ := bM12.cells4
    have lM := bM12.lt
    obtain ⟨cW0, cW1, cW2, cW3⟩ := bW12.cells4
    have lW := bW12.lt
    obtain ⟨cP0, cP1, cP2, cP3⟩ := bP12.cells4
    have lP := bP12.lt
    obtain ⟨cQ0, cQ1, cQ2, cQ3⟩ := bQ12.cells4
    have lQ := bQ12.lt
    obtain ⟨cR0, cR1, cR2, cR3⟩ := bR12.cells4
    have lR := bR12.lt
    go_wp2
    go_ret
    exact ⟨ret_bool (by simp), hA12.alloc hA12.size _⟩
  · have hW : RF w1 w1.heap.size (some ⟨g, 0, none⟩) N S := hR1
    have hWx : RF w1 w1.heap.size (some ⟨g, 0, none⟩) i (S.take i) := RF.win hR1 (i := 0) (m := i) (by omega)
    have hWy : RF w1 w1.heap.size (some ⟨g, i * 2, none⟩) d ((S.drop i).take d) := by have := RF.win hR1 (i := i) (m := d) (by omega); rwa [Nat.zero_add] at this
    have hWz : RF w1 w1.heap.size (some ⟨g, (i + d) * 2, none⟩) (N - (i + d)) (S.drop (i + d)) := by have := RF.win hR1 (i := i + d) (m := N - (i + d)) (by omega); rw [Nat.zero_add, List.take_of_length_le (by rw [List.length_drop, HN.out]; omega)] at this; exact this
    have hT1 := hT.below hA1 lT
    go_wp2_with fail
    refine (roll_Of (S.take i) _ _ _ ⟨xc, xl, xh, xz⟩ 0 _ hT1 hWx (by omega) Hx.out (chC_take HC.out i).symm).mono ?_
    rintro e w2 ⟨rfl, hb2⟩
    have hA2 := hA1.trans (hb2.mono hA1.size)
    have hB2 := hb2
    clear hb2
    unfold rlV
    dsimp only
    go_wp2_with fail
    refine (roll_Of ((S.drop i).take d) _ _ _ ⟨yc, yl, yh, yz⟩ 0 _ (hT.below (hA2.alloc hA2.size _) lT) ((RF.below hWy (hB2.alloc hB2.size _)).more (hB2.alloc hB2.size _).size) (by omega) Hy.out (chC_take (chC_drop HC.out i) d).symm).mono ?_
    rintro e w3 ⟨rfl, hb3⟩
    have hA3 := (hA2.alloc hA2.size _).trans (hb3.mono (hA2.alloc hA2.size _).size)
    have hB3 := (hB2.alloc hB2.size _).trans (hb3.mono (hB2.alloc hB2.size _).size)
    have bX3 : Box w3 w2.heap.size 24 [.int .i64 xc, .int .i64 xl, .int .i64 xh, .int .i64 xz] := ((Box.newAt w2 24 [.int .i64 xc, .int .i64 xl, .int .i64 xh, .int .i64 xz] _ rfl)).below hb3 ((Box.newAt w2 24 [.int .i64 xc, .int .i64 xl, .int .i64 xh, .int .i64 xz] _ rfl)).lt
    clear hb3
    unfold rlV
    dsimp only
    go_wp2_with fail
    refine (roll_Of (S.drop (i + d)) _ _ _ ⟨zc, zl, zh, zz⟩ 0 _ (hT.below (hA3.alloc hA3.size _) lT) ((RF.below hWz (hB3.alloc hB3.size _)).more (hB3.alloc hB3.size _).size) (by omega) Hz.out (chC_drop HC.out (i + d)).symm).mono ?_
    rintro e w4 ⟨rfl, hb4⟩
    have hA4 := (hA3.alloc hA3.size _).trans (hb4.mono (hA3.alloc hA3.size _).size)
    have hB4 := (hB3.alloc hB3.size _).trans (hb4.mono (hB3.alloc hB3.size _).size)
    have bX4 := ((bX3.alloc _)).below hb4 ((bX3.alloc _)).lt
    have bY4 : Box w4 w3.heap.size 24 [.int .i64 yc, .int .i64 yl, .int .i64 yh, .int .i64 yz] := ((Box.newAt w3 24 [.int .i64 yc, .int .i64 yl, .int .i64 yh, .int .i64 yz] _ rfl)).below hb4 ((Box.newAt w3 24 [.int .i64 yc, .int .i64 yl, .int .i64 yh, .int .i64 yz] _ rfl)).lt
    clear bX3 hb4
    unfold rlV
    dsimp only
    go_wp2_with fail
    refine (roll_Of S _ _ _ ⟨(N : Int), tl, th, tz⟩ 0 _ (hT.below (hA4.alloc hA4.size _) lT) ((RF.below hW (hB4.alloc hB4.size _)).more (hB4.alloc hB4.size _).size) (by omega) Ht.out HC.out.symm).mono ?_
    rintro e w5 ⟨rfl, hb5⟩
    have hA5 := (hA4.alloc hA4.size _).trans (hb5.mono (hA4.alloc hA4.size _).size)
    have hB5 := (hB4.alloc hB4.size _).trans (hb5.mono (hB4.alloc hB4.size _).size)
    have bX5 := ((bX4.alloc _)).below hb5 ((bX4.alloc _)).lt
    have bY5 := ((bY4.alloc _)).below hb5 ((bY4.alloc _)).lt
    have bZ5 : Box w5 w4.heap.size 24 [.int .i64 zc, .int .i64 zl, .int .i64 zh, .int .i64 zz] := ((Box.newAt w4 24 [.int .i64 zc, .int .i64 zl, .int .i64 zh, .int .i64 zz] _ rfl)).below hb5 ((Box.newAt w4 24 [.int .i64 zc, .int .i64 zl, .int .i64 zh, .int .i64 zz] _ rfl)).lt
    clear bX4 bY4 hb5
    unfold rlV
    dsimp only
    obtain ⟨cX0, cX1, cX2, cX3⟩ := bX5.cells4
    have lX := bX5.lt
    obtain ⟨cY0, cY1, cY2, cY3⟩ := bY5.cells4
    have lY := bY5.lt
    go_wp2_with fail
    refine (roll_Join ⟨xc, xl, xh, xz⟩ ⟨yc, yl, yh, yz⟩ ⟨mc, ml, mh, mz⟩ 0 _ Jxy.out.2 Jxy.out.1).mono ?_
    rintro e w6 ⟨rfl, hb6⟩
    have hA6 := (hA5.alloc hA5.size _).trans (hb6.mono (hA5.alloc hA5.size _).size)
    have hB6 := (hB5.alloc hB5.size _).trans (hb6.mono (hB5.alloc hB5.size _).size)
    have bX6 := ((bX5.alloc _)).below hb6 ((bX5.alloc _)).lt
    have bY6 := ((bY5.alloc _)).below hb6 ((bY5.alloc _)).lt
    have bZ6 := ((bZ5.alloc _)).below hb6 ((bZ5.alloc _)).lt
    have bT6 : Box w6 w5.heap.size 24 [.int .i64 (N : Int), .int .i64 tl, .int .i64 th, .int .i64 tz] := ((Box.newAt w5 24 [.int .i64 (N : Int), .int .i64 tl, .int .i64 th, .int .i64 tz] _ rfl)).below hb6 ((Box.newAt w5 24 [.int .i64 (N : Int), .int .i64 tl, .int .i64 th, .int .i64 tz] _ rfl)).lt
    clear bX5 bY5 bZ5 hb6
    unfold rlV
    dsimp only
    clear cX0 cX1 cX2 cX3 lX
    clear cY0 cY1 cY2 cY3 lY
    obtain ⟨cX0, cX1, cX2, cX3⟩ := bX6.cells4
    have lX := bX6.lt
    obtain ⟨cY0, cY1, cY2, cY3⟩ := bY6.cells4
    have lY := bY6.lt
    go_wp2_with fail
    refine (roll_Join ⟨yc, yl, yh, yz⟩ ⟨xc, xl, xh, xz⟩ ⟨mc, ml, mh, mz⟩ 0 _ Jyx.out.2 Jyx.out.1).mono ?_
    rintro e w7 ⟨rfl, hb7⟩
    have hA7 := (hA6.alloc hA6.size _).trans (hb7.mono (hA6.alloc hA6.size _).size)
    have hB7 := (hB6.alloc hB6.size _).trans (hb7.mono (hB6.alloc hB6.size _).size)
    have bX7 := ((bX6.alloc _)).below hb7 ((bX6.alloc _)).lt
    have bY7 := ((bY6.alloc _)).below hb7 ((bY6.alloc _)).lt
    have bZ7 := ((bZ6.alloc _)).below hb7 ((bZ6.alloc _)).lt
    have bT7 := ((bT6.alloc _)).below hb7 ((bT6.alloc _)).lt
    have bM7 : Box w7 w6.heap.size 24 [.int .i64 mc, .int .i64 ml, .int .i64 mh, .int .i64 mz] := ((Box.newAt w6 24 [.int .i64 mc, .int .i64 ml, .int .i64 mh, .int .i64 mz] _ rfl)).below hb7 ((Box.newAt w6 24 [.int .i64 mc, .int .i64 ml, .int .i64 mh, .int .i64 mz] _ rfl)).lt
    clear bX6 bY6 bZ6 bT6 hb7
    unfold rlV
    dsimp only
    clear cX0 cX1 cX2 cX3 lX
    clear cY0 cY1 cY2 cY3 lY
    obtain ⟨cY0, cY1, cY2, cY3⟩ := bY7.cells4
    have lY := bY7.lt
    obtain ⟨cZ0, cZ1, cZ2, cZ3⟩ := bZ7.cells4
    have lZ := bZ7.lt
    go_wp2_with fail
    refine (roll_Join ⟨yc, yl, yh, yz⟩ ⟨zc, zl, zh, zz⟩ ⟨ec, el, eh, ez⟩ 0 _ Jyz.out.2 Jyz.out.1).mono ?_
    rintro e w8 ⟨rfl, hb8⟩
    have hA8 := (hA7.alloc hA7.size _).trans (hb8.mono (hA7.alloc hA7.size _).size)
    have hB8 := (hB7.alloc hB7.size _).trans (hb8.mono (hB7.alloc hB7.size _).size)
    have bX8 := ((bX7.alloc _)).below hb8 ((bX7.alloc _)).lt
    have bZ8 := ((bZ7.alloc _)).below hb8 ((bZ7.alloc _)).lt
    have bT8 := ((bT7.alloc _)).below hb8 ((bT7.alloc _)).lt
    have bM8 := ((bM7.alloc _)).below hb8 ((bM7.alloc _)).lt
    have bW8 : Box w8 w7.heap.size 24 [.int .i64 mc, .int .i64 ml, .int .i64 mh, .int .i64 mz] := ((Box.newAt w7 24 [.int .i64 mc, .int .i64 ml, .int .i64 mh, .int .i64 mz] _ rfl)).below hb8 ((Box.newAt w7 24 [.int .i64 mc, .int .i64 ml, .int .i64 mh, .int .i64 mz] _ rfl)).lt
    clear bX7 bY7 bZ7 bT7 bM7 hb8
    unfold rlV
    dsimp only
    clear cY0 cY1 cY2 cY3 lY
    clear cZ0 cZ1 cZ2 cZ3 lZ
    obtain ⟨cM0, cM1, cM2, cM3⟩ := bM8.cells4
    have lM := bM8.lt
    obtain ⟨cZ0, cZ1, cZ2, cZ3⟩ := bZ8.cells4
    have lZ := bZ8.lt
    go_wp2_with fail
    refine (roll_Join ⟨mc, ml, mh, mz⟩ ⟨zc, zl, zh, zz⟩ ⟨(N : Int), tl, th, tz⟩ 0 _ Jmz.out.2 Jmz.out.1).mono ?_
    rintro e w9 ⟨rfl, hb9⟩
    have hA9 := (hA8.alloc hA8.size _).trans (hb9.mono (hA8.alloc hA8.size _).size)
    have hB9 := (hB8.alloc hB8.size _).trans (hb9.mono (hB8.alloc hB8.size _).size)
    have bX9 := ((bX8.alloc _)).below hb9 ((bX8.alloc _)).lt
    have bT9 := ((bT8.alloc _)).below hb9 ((bT8.alloc _)).lt
    have bM9 := ((bM8.alloc _)).below hb9 ((bM8.alloc _)).lt
    have bW9 := ((bW8.alloc _)).below hb9 ((bW8.alloc _)).lt
    have bE9 : Box w9 w8.heap.size 24 [.int .i64 ec, .int .i64 el, .int .i64 eh, .int .i64 ez] := ((Box.newAt w8 24 [.int .i64 ec, .int .i64 el, .int .i64 eh, .int .i64 ez] _ rfl)).below hb9 ((Box.newAt w8 24 [.int .i64 ec, .int .i64 el, .int .i64 eh, .int .i64 ez] _ rfl)).lt
    clear bX8 bZ8 bT8 bM8 bW8 hb9
    unfold rlV
    dsimp only
    clear cM0 cM1 cM2 cM3 lM
    clear cZ0 cZ1 cZ2 cZ3 lZ
    obtain ⟨cX0, cX1, cX2, cX3⟩ := bX9.cells4
    have lX := bX9.lt
    obtain ⟨cE0, cE1, cE2, cE3⟩ := bE9.cells4
    have lE := bE9.lt
    go_wp2_with fail
    refine (roll_Join ⟨xc, xl, xh, xz⟩ ⟨ec, el, eh, ez⟩ ⟨(N : Int), tl, th, tz⟩ 0 _ Jxe.out.2 Jxe.out.1).mono ?_
    rintro e w10 ⟨rfl, hb10⟩
    have hA10 := (hA9.alloc hA9.size _).trans (hb10.mono (hA9.alloc hA9.size _).size)
    have hB10 := (hB9.alloc hB9.size _).trans (hb10.mono (hB9.alloc hB9.size _).size)
    have bT10 := ((bT9.alloc _)).below hb10 ((bT9.alloc _)).lt
    have bM10 := ((bM9.alloc _)).below hb10 ((bM9.alloc _)).lt
    have bW10 := ((bW9.alloc _)).below hb10 ((bW9.alloc _)).lt
    have bP10 : Box w10 w9.heap.size 24 [.int .i64 (N : Int), .int .i64 tl, .int .i64 th, .int .i64 tz] := ((Box.newAt w9 24 [.int .i64 (N : Int), .int .i64 tl, .int .i64 th, .int .i64 tz] _ rfl)).below hb10 ((Box.newAt w9 24 [.int .i64 (N : Int), .int .i64 tl, .int .i64 th, .int .i64 tz] _ rfl)).lt
    clear bX9 bT9 bM9 bW9 bE9 hb10
    unfold rlV
    dsimp only
    clear cX0 cX1 cX2 cX3 lX
    clear cE0 cE1 cE2 cE3 lE
    obtain ⟨cT0, cT1, cT2, cT3⟩ := bT10.cells4
    have lT := bT10.lt
    go_wp2_with fail
    refine (roll_Join ⟨(N : Int), tl, th, tz⟩ rl0 ⟨(N : Int), tl, th, tz⟩ 0 _ Jto.out.2 Jto.out.1).mono ?_
    rintro e w11 ⟨rfl, hb11⟩
    have hA11 := (hA10.alloc hA10.size _).trans (hb11.mono (hA10.alloc hA10.size _).size)
    have hB11 := (hB10.alloc hB10.size _).trans (hb11.mono (hB10.alloc hB10.size _).size)
    have bT11 := ((bT10.alloc _)).below hb11 ((bT10.alloc _)).lt
    have bM11 := ((bM10.alloc _)).below hb11 ((bM10.alloc _)).lt
    have bW11 := ((bW10.alloc _)).below hb11 ((bW10.alloc _)).lt
    have bP11 := ((bP10.alloc _)).below hb11 ((bP10.alloc _)).lt
    have bQ11 : Box w11 w10.heap.size 24 [.int .i64 (N : Int), .int .i64 tl, .int .i64 th, .int .i64 tz] := ((Box.newAt w10 24 [.int .i64 (N : Int), .int .i64 tl, .int .i64 th, .int .i64 tz] _ rfl)).below hb11 ((Box.newAt w10 24 [.int .i64 (N : Int), .int .i64 tl, .int .i64 th, .int .i64 tz] _ rfl)).lt
    clear bT10 bM10 bW10 bP10 hb11
    unfold rlV
    dsimp only
    clear cT0 cT1 cT2 cT3 lT
    go_wp2_with fail
    refine (roll_Of [(0, 3)] _ _ _ (rl1 3) 0 _ (hT.below ((hA11.alloc hA11.size _).alloc (hA11.alloc hA11.size _).size _) lT) (RF_lit1 _ _ 0 3 _ (by simp)) (by omega) ofR_one3.symm chC_one3.symm).mono ?_
    rintro e w12 ⟨rfl, hb12⟩
    have hA12 := ((hA11.alloc hA11.size _).alloc (hA11.alloc hA11.size _).size _).trans (hb12.mono ((hA11.alloc hA11.size _).alloc (hA11.alloc hA11.size _).size _).size)
    have hB12 := ((hB11.alloc hB11.size _).alloc (hB11.alloc hB11.size _).size _).trans (hb12.mono ((hB11.alloc hB11.size _).alloc (hB11.alloc hB11.size _).size _).size)
    have bT12 := ((bT11.alloc _).alloc _).below hb12 ((bT11.alloc _).alloc _).lt
    have bM12 := ((bM11.alloc _).alloc _).below hb12 ((bM11.alloc _).alloc _).lt
    have bW12 := ((bW11.alloc _).alloc _).below hb12 ((bW11.alloc _).alloc _).lt
    have bP12 := ((bP11.alloc _).alloc _).below hb12 ((bP11.alloc _).alloc _).lt
    have bQ12 := ((bQ11.alloc _).alloc _).below hb12 ((bQ11.alloc _).alloc _).lt
    have bR12 : Box w12 w11.heap.size 24 [.int .i64 (N : Int), .int .i64 tl, .int .i64 th, .int .i64 tz] := ((Box.newAt w11 24 [.int .i64 (N : Int), .int .i64 tl, .int .i64 th, .int .i64 tz] _ rfl).alloc _).below hb12 ((Box.newAt w11 24 [.int .i64 (N : Int), .int .i64 tl, .int .i64 th, .int .i64 tz] _ rfl).alloc _).lt
    clear bT11 bM11 bW11 bP11 bQ11 hb12
    unfold rlV
    dsimp only
    unfold rl1
    obtain ⟨cT0, cT1, cT2, cT3⟩ := bT12.cells4
    have lT := bT12.lt
    obtain ⟨cM0, cM1, cM2, cM3⟩ := bM12.cells4
    have lM := bM12.lt
    obtain ⟨cW0, cW1, cW2, cW3⟩ := bW12.cells4
    have lW := bW12.lt
    obtain ⟨cP0, cP1, cP2, cP3⟩ := bP12.cells4
    have lP := bP12.lt
    obtain ⟨cQ0, cQ1, cQ2, cQ3⟩ := bQ12.cells4
    have lQ := bQ12.lt
    obtain ⟨cR0, cR1, cR2, cR3⟩ := bR12.cells4
    have lR := bR12.lt
    go_wp2
    go_ret
    exact ⟨ret_bool (by simp), hA12.alloc hA12.size _⟩

theorem own_RollParts : ownKnob Tryd.prog.godebug = none := by kernel_rfl
theorem laid_RollParts : laidOutB Tryd.prog = true := by kernel_rfl
set_option maxRecDepth 100000 in
theorem lifted_RollParts (os : Os) (started : os.Started) (H : Type) (enc : TypeId × Value → H) :
    ReturnsInHanded {} Tryd.checked os 5 .any (fun w args => (Rows.rollPartsSpec.pre enc Tryd.prog Tryd.f5 [] false w args ∧ laidMetH Tryd.prog laidL w) ∧ sizedMet enc Tryd.prog Tryd.f5 (OpenSpec.ofChange Rows.rollPartsSpec) false w args)
      (Rows.rollPartsSpec.post enc Tryd.prog Tryd.f5 false true false false) := by
  refine returnsInHanded_of_change_and (C := Tryd.checked) (X := fun w _ => laidMetH Tryd.prog laidL w) (fun _ _ _ hh h => h.of_heap hh) own_RollParts started (by kernel_rfl) Tryd.func5
    (ChangeSpec.witness_shaped (enc := enc) (C := Tryd.checked) (os := os) (X := fun w _ => laidMetH Tryd.prog laidL w) false (World.doorLaid Tryd.prog 400 os) #[.slice none 0 0, .int .i64 0, .int .i64 0, .int .i64 0] 8 rfl (World.shaped_of_RefB (by kernel_rfl) (by kernel_rfl)) (by kernel_rfl) (by kernel_rfl) (by kernel_rfl) (door_met os _)) ?_
  intro W base args ds gs before hval0 hW hcnd hsz0 hL _
  have hsz : (DataW.weightsEach Tryd.prog (Tryd.f5.params.toList ++ Rows.rollPartsSpec.plain.varTypes Tryd.prog) (ds ++ gs)).all (· ≤ reachBytes) = true := hsz0
  clear hsz0
  have hval : ∀ (j : Nat) t v, Tryd.f5.params[j]? = some t → args[j]? = some v → Value.okWide Tryd.prog W .any base t v := hval0
  have hW' := hW
  obtain ⟨p, q, hA0, hV, rfl, hfz, hnd⟩ := hW
  have hA : DataW.TrodAll enc Tryd.prog W 0 (fun _ => true) true Tryd.f5.params.toList args.toList ds p := hA0
  rw [Tryd.params5] at hA hval hsz
  obtain ⟨v0, vs0, d0, ds0, p0, q0, hargs, rfl, rfl, h0, r0⟩ := trodAll_cons hA
  obtain ⟨v1, vs1, d1, ds1, p1, q1, rfl, rfl, rfl, h1, r1⟩ := trodAll_cons r0
  obtain ⟨v2, vs2, d2, ds2, p2, q2, rfl, rfl, rfl, h2, r2⟩ := trodAll_cons r1
  obtain ⟨v3, vs3, d3, ds3, p3, q3, rfl, rfl, rfl, h3, r3⟩ := trodAll_cons r2
  obtain ⟨rfl, rfl, rfl⟩ := trodAll_nil r3
  obtain rfl : args = #[v0, v1, v2, v3] := by cases args; simp_all
  obtain ⟨rfl, rfl⟩ := trodVars_none hV
  have k0 := h0
  have lt0 : ∀ x ∈ p0, x.block < W.heap.size := by obtain ⟨m, hm⟩ := k0; exact DataW.trod_lt m _ _ _ hm
  obtain ⟨a0, len0, cap0, rfl⟩ := okWide_slice Tryd.underlying34 (hval 0 34 v0 rfl rfl)
  obtain ⟨x0, ri0, rr0, lc0, hd0⟩ := open_RD Tryd.underlying34 Tryd.underlying55 (by kernel_rfl) Tryd.underlying3 (by kernel_rfl) Tryd.underlying4 (by kernel_rfl) (by kernel_rfl) h0
  have bd0 : len0 ≤ 5864062014805 := by
    rcases hd0 with ⟨h, _⟩ | ⟨el, sp, hd, hl⟩
    · omega
    · subst hd
      have := sized_slice hsz (j := 0) (t := 34) (e := 55) rfl rfl Tryd.underlying34
      rw [show Tryd.prog.bytesOf 55 = 24 by kernel_rfl] at this
      simp only [reachBytes] at this
      omega
  have k1 := h1
  have lt1 : ∀ x ∈ p1, x.block < W.heap.size := by obtain ⟨m, hm⟩ := k1; exact DataW.trod_lt m _ _ _ hm
  obtain ⟨x1, rfl, rfl, rfl, wx1⟩ := open_int Tryd.underlying3 (hval 1 3 v1 rfl rfl) h1
  have rr1 := bounds_i64 wx1
  have k2 := h2
  have lt2 : ∀ x ∈ p2, x.block < W.heap.size := by obtain ⟨m, hm⟩ := k2; exact DataW.trod_lt m _ _ _ hm
  obtain ⟨x2, rfl, rfl, rfl, wx2⟩ := open_int Tryd.underlying3 (hval 2 3 v2 rfl rfl) h2
  have rr2 := bounds_i64 wx2
  have k3 := h3
  have lt3 : ∀ x ∈ p3, x.block < W.heap.size := by obtain ⟨m, hm⟩ := k3; exact DataW.trod_lt m _ _ _ hm
  obtain ⟨x3, rfl, rfl, rfl, wx3⟩ := open_int Tryd.underlying3 (hval 3 3 v3 rfl rfl) h3
  have rr3 := bounds_i64 wx3
  clear hA0 hval0 hsz
  refine (keep_RollParts W (of_laid hL) a0 len0 cap0 x0 ri0 bd0 rr0 lc0 x1 rr1 x2 rr2 x3 rr3).mono fun e W' ⟨he, bel⟩ => ?_
  subst he
  exact ⟨_, rfl, _, _, _, [], _, [], hW', trodAll_mk1 (shut_bool Tryd.underlying4 _), (trodAll_cons_mk (Below.trod laid_RollParts (by kernel_rfl) (of_decide_eq_true (by kernel_rfl)) k0 bel lt0) (trodAll_cons_mk (Below.trod laid_RollParts (by kernel_rfl) (of_decide_eq_true (by kernel_rfl)) k1 bel lt1) (trodAll_cons_mk (Below.trod laid_RollParts (by kernel_rfl) (of_decide_eq_true (by kernel_rfl)) k2 bel lt2) (trodAll_cons_mk (Below.trod laid_RollParts (by kernel_rfl) (of_decide_eq_true (by kernel_rfl)) k3 bel lt3) trodAll_mk0)))), rfl, bel.frame _, fun h => by cases h⟩

theorem rollParts_holds : Rows.RollPartsSaid :=
  OpenClaim.holds_of_wide 5 Tryd.f5 rfl rfl rfl rfl rfl rfl rfl ⟨rfl, rfl, rfl, rfl, rfl⟩ rfl rfl rfl rfl rfl (by kernel_rfl) Tryd.func5 (by kernel_rfl)
    (of_decide_eq_true (by kernel_rfl)) (by unfold Func.isWrapper; first | (rw [if_pos (by decide +kernel)]; kernel_rfl) | (rw [if_neg (by decide +kernel)]; exact ⟨rfl, rfl⟩))
    (fun os started H enc _ => lifted_RollParts os started H enc)

theorem rollParts_card : Rows.RollPartsCardSaid :=
  Claim7.holds_tied_plain_at .later [] [.data] true (true, "916d3032eb380c977195be34e2d04779bbe8d94be5391d87ea0a9ae7f4c67b21") false
    rollParts_holds (fun _ h => by cases h) (by kernel_rfl) (fun _ h => by cases h) rollParts_row_tie rfl ⟨rfl, rfl⟩ (by kernel_rfl) rfl
    (fun f fn hf hfn => by
      obtain rfl : f = 5 := Option.some.inj ((show Tryd.prog.funcNamed "barograph/barographkeep.RollParts" = some 5 by kernel_rfl).symm.trans hf) |>.symm
      obtain rfl : fn = Tryd.f5 := (Option.some.inj (Tryd.func5.symm.trans hfn)).symm
      exact ⟨by kernel_rfl, fun j t ht => by
        rw [Tryd.params5] at ht
        have hm : t ∈ [34, 3, 3, 3] := by simpa using Array.mem_of_getElem? ht
        have hall : ([34, 3, 3, 3].all fun u => !Tryd.prog.wantsStandIn u) = true := by kernel_rfl
        exact (show Tryd.prog.wantsStandIn t = false by simpa using List.all_eq_true.1 hall t hm)⟩)
    (by kernel_rfl)
#print axioms rollParts_card
end Go.Proofs.YtnpabbinckcbaaaDoor
