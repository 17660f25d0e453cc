/- The walk of the law that of operations one behind the other each tells one thing alone, from what is asked of lin.Check. No statement of the seat is proved here. -/
import Derived.Test.YtdoniefhmmodbaaKeepLin3
set_option linter.unusedSimpArgs false
set_option linter.unusedVariables false
namespace Go.Baro
theorem flatMap_set {α : Type} {s : Nat} {f : α → List Value} (hf : ∀ x, (f x).length = s) {u : Value} {y : α} {j : Nat} (hj : j < s) : ∀ (ls : List α) (i : Nat) (x : α), ls[i]? = some x → (f x).set j u = f y → (ls.flatMap f).set (i * s + j) u = (ls.set i y).flatMap f
  | [], i, x, h, _ => by simp at h
  | z :: ls, 0, x, h, hy => by
    simp only [List.getElem?_cons_zero, Option.some.injEq] at h
    subst h
    rw [List.flatMap_cons, Nat.zero_mul, Nat.zero_add, List.set_append_left _ _ (by rw [hf]; exact hj), hy, List.set_cons_zero, List.flatMap_cons]
  | z :: ls, i + 1, x, h, hy => by
    rw [List.flatMap_cons, List.set_append_right _ _ (by rw [hf, Nat.succ_mul]; omega), hf, show (i + 1) * s + j - s = i * s + j by rw [Nat.succ_mul]; omega, flatMap_set hf hj ls i x (by simpa using h) hy, List.set_cons_succ, List.flatMap_cons]
/-- Another value that is told. -/
theorem sq_wrong {k first : Int} {l : List Dl} {i : Nat} {a : Ac} {v : Int} (hk : 1 ≤ k ∧ k ≤ 4) (hf : 0 ≤ first ∧ first ≤ 4) (ha : (sqA k false 0 (has0 k first) (l.take 9))[i]? = some a) (hp : k = 2 ∨ a.put = false) (hv : a.v < v) (hv2 : v ≤ 1000) :
    LcR k first ((sqA k false 0 (has0 k first) (l.take 9)).set i { a with v := v }) false 0 ∧ ∀ x ∈ (sqA k false 0 (has0 k first) (l.take 9)).set i { a with v := v }, inA x := by
  obtain ⟨h1, h2⟩ := sq_okL (wide := false) (l := l) hk hf
  have ha2 := h2 a (List.mem_of_getElem? ha)
  have hok : okA k { a with v := v } := by
    obtain ⟨⟨q1, q2, q3, q4, q5⟩, _, q6, _⟩ := ha2
    exact ⟨q1, q2, q3, q4, by rcases q5 with q5 | q5; exact .inl q5; exact .inr ⟨by dsimp only; omega, fun h => by dsimp only at h; omega⟩⟩
  refine ⟨.inr ⟨⟨hk, by rw [List.length_set]; exact h1.2.1, fun x hx => ?_⟩, ?_, rfl⟩, fun x hx => ?_⟩
  · rcases List.mem_or_eq_of_mem_set hx with hx | rfl
    · exact (h2 x hx).1
    · exact hok
  · simp only [Bool.false_eq_true, false_iff]
    exact sq_tells (has0_ok hf) _ 0 i ha hp (by omega)
  · rcases List.mem_or_eq_of_mem_set hx with hx | rfl
    · exact (h2 x hx).2.1
    · obtain ⟨_, ⟨q1, q2, q3, q4⟩, q6, _⟩ := ha2
      exact ⟨q1, q2, by unfold inW; dsimp only; omega, q4⟩
end Go.Baro
namespace Go.Proofs.Ytdoniefhmmodbaa
open Go.RowKit Go.Ord Go.Baro

set_option maxRecDepth 100000 in
set_option maxHeartbeats 2000000 in
theorem keep_LinTellsP (hP : LinCheckSpec) (w : World) (x0 : Int) (r0 : -9223372036854775808 ≤ x0 ∧ x0 ≤ 9223372036854775807) (x1 : Int) (r1 : -9223372036854775808 ≤ x1 ∧ x1 ≤ 9223372036854775807) (A2 : Option Addr) (n2 c2 : Nat) (x2 : List Dl) (h2 : RD w w.heap.size A2 n2 x2) (b2 : n2 ≤ 3518437208883) (r2 : ∀ f ∈ x2, inD f) (k2 : n2 ≤ c2)
    (x3 : Int) (r3 : -9223372036854775808 ≤ x3 ∧ x3 ≤ 9223372036854775807) (x4 : Int) (r4 : -9223372036854775808 ≤ x4 ∧ x4 ≤ 9223372036854775807) :
    Calls Try.prog 6 #[.int .i64 x0, .int .i64 x1, .slice A2 n2 c2, .int .i64 x3, .int .i64 x4] w fun e w' => e = .returned (.bool true) ∧ Below w.heap.size w w' := by
  have HP := Lib.hid hP
  have HI := Lib.hid r2
  obtain ⟨k, hk⟩ : ∃ k, k = 1 + x0 % 4 := ⟨_, rfl⟩
  obtain ⟨f, hf⟩ : ∃ f, f = x1 % 5 := ⟨_, rfl⟩
  obtain ⟨y, hy⟩ : ∃ y, y = x4 % 5 := ⟨_, rfl⟩
  have hk1 : 1 ≤ k ∧ k ≤ 4 := by omega
  have hf1 : 0 ≤ f ∧ f ≤ 4 := by omega
  have hy1 : 0 ≤ y ∧ y < 5 := by omega
  have hx4 : 0 ≤ x0 % 4 ∧ x0 % 4 < 4 := by omega
  have HK := Lib.hid hk
  have HF := Lib.hid hf
  have HY := Lib.hid hy
  have h0 := Below.refl w.heap.size w
  clear hP r2 hk hf hy
  go_enter Try.func6, Try.ntmps6
  go_wp2_with fail
  refine (keep_Picked x0 4 _ (by omega) (by omega)).mono ?_
  rintro e w' ⟨rfl, rfl⟩
  go_wp2_with fail
  refine (keep_Picked x1 5 _ (by omega) (by omega)).mono ?_
  rintro e w' ⟨rfl, rfl⟩
  rw [← HK.out, ← HF.out]
  go_wp2_with fail
  refine (keep_Sequence w k f A2 n2 c2 x2 false hk1 hf1 h2 b2 HI.out).mono ?_
  rintro e w1 ⟨A3, n3, c3, rfl, ho3, hn3, hlc3, hb1⟩
  have hs1 := hb1.size
  obtain ⟨S, hS⟩ : ∃ S, S = sqA k false 0 (has0 k f) (x2.take 9) := ⟨_, rfl⟩
  rw [← hS] at ho3
  have HS := Lib.hid hS
  have HO := Lib.hid ho3
  clear hS ho3
  by_cases hz : n3 = 0
  · subst hz
    go_wp2_with fail
    refine (keep_linSure HP.out w1).mono ?_
    rintro e w8 ⟨rfl, hb8⟩
    go_wp2
    go_ret
    exact ⟨rfl, hb1.trans (hb8.mono hs1)⟩
  · have hz2 : ((n3 : Int) == 0) = false := by simp; omega
    obtain ⟨i, hi⟩ : ∃ i : Nat, (i : Int) = x3 % n3 := ⟨(x3 % n3).toNat, by have := Int.emod_nonneg x3 (show (n3 : Int) ≠ 0 by omega); omega⟩
    have hin : i < n3 := by have := Int.emod_lt_of_pos x3 (show (0 : Int) < n3 by omega); omega
    have HIX := Lib.hid hi
    obtain ⟨g, c', hg, hBg, hgs, _⟩ := own_some HO.out (by omega)
    injection hg with hg1 hg2 hg3
    subst hg1 hg3
    obtain ⟨b, o, a, hA, hbB, d0, d1, d2, d3, d4, HX, hmem⟩ := RA.val (Rd.of_own HO.out) hin
    injection hA with hA
    injection hA with hA1 hA2
    subst hA1 hA2
    have ha2 : -1 ≤ a.v ∧ a.v ≤ 200 := by
      have hm := hmem
      rw [HS.out] at hm
      have := ((sq_okL hk1 hf1).2 a hm)
      omega
    obtain ⟨ab, ae, ap, av, aa⟩ := a
    dsimp only at d0 d1 d2 d3 d4 ha2
    rw [Nat.zero_add] at d0 d1 d2 d3 d4
    have f3 := HO.out.frozenAt (i * 5 + 3)
    clear hmem hi
    go_wp2_with fail
    refine (keep_Picked x3 n3 _ (by omega) (by omega)).mono ?_
    rintro e w' ⟨rfl, rfl⟩
    rw [← HIX.out]
    by_cases hpk : ap = true ∧ k ≠ 2
    · obtain ⟨rfl, hk2⟩ := hpk
      have hk3 : (k != 2) = true := by simp [hk2]
      go_wp2_with fail
      refine (keep_linSure HP.out _).mono ?_
      rintro e w8 ⟨rfl, hb8⟩
      go_wp2
      go_ret
      exact ⟨rfl, hb1.trans (hb8.mono hs1)⟩
    · have hp : k = 2 ∨ ap = false := by
        cases ap with
        | false => exact .inr rfl
        | true => exact .inl (Decidable.not_not.1 fun h => hpk ⟨rfl, h⟩)
      have hst := World.ownsRow.stored HO.out (i * 5 + 3) (.int .i64 (av + (1 + y)))
      have hset : (S.flatMap acV).set (i * 5 + 3) (.int .i64 (av + (1 + y))) = (S.set i ⟨ab, ae, ap, av + (1 + y), aa⟩).flatMap acV := flatMap_set acV_len (by omega) S i _ HX.out rfl
      rw [hset] at hst
      have HST := Lib.hid hst
      have hw := sq_wrong (l := x2) (v := av + (1 + y)) hk1 hf1 (by rw [← HS.out]; exact HX.out) hp (by dsimp only; omega) (by omega)
      rw [← HS.out] at hw
      have HW := Lib.hid hw
      have hbs : Below w.heap.size w (w1.setCell ⟨g, i * 5 + 3, none⟩ (.int .i64 (av + (1 + y)))) := below_at hb1 hBg _ _
      have hp2 : (k = 2 ∧ ap = true) ∨ ap = false := by
        cases ap with
        | false => exact .inr rfl
        | true => exact .inl ⟨Decidable.not_not.1 fun h => hpk ⟨rfl, h⟩, rfl⟩
      clear hst hset hw hp hpk
      rcases hp2 with ⟨rfl, rfl⟩ | rfl
      all_goals (
        go_wp2
        refine region_first [0, 1, 2, 3, 4, 5] (.cons 6 (seq [7, 8, 9, 10] (seq [11] .nil))) (by kernel_rfl) (by kernel_rfl) ?_
        simp only [pick, List.map_cons, List.map_nil, List.getD_cons_zero, List.getD_cons_succ]
        go_wp2
        refine ord_call (by kernel_rfl) ?_
        simp only [pick, List.map_cons, List.map_nil, List.getD_cons_zero, List.getD_cons_succ]
        go_wp2_with fail
        refine (keep_Picked x4 5 _ (by omega) (by omega)).mono ?_
        rintro e w' ⟨rfl, rfl⟩
        rw [← HY.out]
        go_wp2
        refine ord_more [7, 8, 9, 10] (seq [11] .nil) (by kernel_rfl) ?_
        simp only [pick, List.map_cons, List.map_nil, List.getD_cons_zero, List.getD_cons_succ]
        go_wp2
        refine ord_last [11] (by kernel_rfl) ?_
        simp only [pick, List.map_cons, List.map_nil, List.getD_cons_zero, List.getD_cons_succ]
        go_wp2_with fail
        refine (check_own HP.out _ _ _ n3 c3 _ _ f false 0 (by exact HST.out.1) (by omega) hlc3 HW.out.2 hf1 HW.out.1).mono ?_
        rintro e w6 ⟨rfl, hb6⟩
        have hb7 : Below w.heap.size w w6 := hbs.drew.trans (hb6.mono hbs.size)
        go_wp2_with fail
        refine (keep_linSure HP.out w6).mono ?_
        rintro e w8 ⟨rfl, hb8⟩
        go_wp2
        go_ret
        exact ⟨rfl, hb7.trans (hb8.mono hb7.size)⟩)
end Go.Proofs.Ytdoniefhmmodbaa
