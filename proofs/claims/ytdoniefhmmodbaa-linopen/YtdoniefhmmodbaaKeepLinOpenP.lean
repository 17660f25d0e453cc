/- The walk of the law that what has not ended harms nothing, from what is asked of lin.Check. No statement of the seat is proved here. -/
import Derived.Test.YtdoniefhmmodbaaKeepLin3
set_option linter.unusedSimpArgs false
set_option linter.unusedVariables false
namespace Go.Baro
open Go.RowKit
theorem flatMap_take {α : Type} {s : Nat} {f : α → List Value} (hf : ∀ x, (f x).length = s) : ∀ (ls : List α) (m : Nat), (ls.flatMap f).take (m * s) = (ls.take m).flatMap f
  | [], m => by simp
  | z :: ls, 0 => by simp
  | z :: ls, m + 1 => by
    rw [List.flatMap_cons, List.take_succ_cons, List.flatMap_cons, List.take_append, hf, List.take_of_length_le (by rw [hf, Nat.succ_mul]; omega), show (m + 1) * s - s = m * s by rw [Nat.succ_mul]; omega, flatMap_take hf ls m]
theorem RD.take {w : World} {B n m : Nat} {A : Option Addr} {ls : List Dl} (h : RD w B A n ls) (hm : m ≤ n) : RD w B A m (ls.take m) := by
  have := Rd.take h hm
  rw [flatMap_take dlV_len] at this
  exact this
/-- One more that has not ended. -/
theorem open_right {k first : Int} {l : List Dl} {x : Ac} (hk : 1 ≤ k ∧ k ≤ 4) (hf : 0 ≤ first ∧ first ≤ 4) (hl : l.length ≤ 8) (hx : okA k x ∧ inA x) (he : x.e = -1) :
    LcR k first (sqA k true 0 (has0 k first) (l.take 9) ++ [x]) true 0 ∧ ∀ y ∈ sqA k true 0 (has0 k first) (l.take 9) ++ [x], inA y := by
  obtain ⟨h1, h2⟩ := sq_okL (wide := true) (l := l) hk hf
  refine ⟨.inr ⟨⟨hk, ?_, fun y hy => ?_⟩, ?_, rfl⟩, fun y hy => ?_⟩
  · rw [List.length_append, sqA_len, List.length_take, List.length_singleton]; omega
  · rcases List.mem_append.1 hy with hy | hy
    · exact (h2 y hy).1
    · rw [List.mem_singleton.1 hy]; exact hx.1
  · simp only [true_iff]
    exact ((sq_lin (has0_ok hf) true (l.take 9) 0).more he).perm (List.perm_append_singleton _ _).symm
  · rcases List.mem_append.1 hy with hy | hy
    · exact (h2 y hy).2.1
    · rw [List.mem_singleton.1 hy]; exact hx.2
end Go.Baro
namespace Go.Proofs.Ytdoniefhmmodbaa
open Go.RowKit Go.Ord Go.Baro

theorem wp_minL {P : Program} {w : World} {ops : Array Oper} {rest : List Oper} {o : Oper} {a : Act} {Q : Exit → Act → World → Prop} (hgd : o.guard = none) (x y : Operand) (t : TypeId) (ho : o.op = .call { callee := .builtin .min, args := #[x, y], argTypes := #[t, t] })
    (n k : Nat) (hx : a.eval x = .int .i64 n) (hy : a.eval y = .int .i64 k) (h : ∀ m : Nat, Hid (m = min n k) → wpList P ops Q rest (a.put o.dst (.int .i64 m)) w) : wpList P ops Q (o :: rest) a w := by
  refine wpList_plain hgd fun K hK => ?_
  have hrun : (Builtin.min_ #[t, t] o.type #[.int .i64 n, .int .i64 k]).run P w = .ok (.int .i64 (min n k : Nat)) w := by
    rcases Nat.lt_or_ge k n with hlt | hge
    · simp [Builtin.min_, Builtin.min2, hlt, Nat.min_eq_right (Nat.le_of_lt hlt)]
    · simp [Builtin.min_, Builtin.min2, Nat.not_lt.2 hge, Nat.min_eq_left hge]
  unfold Oper.wp
  simp [execOp, ho, resolve, invoke, builtin, hx, hy, hrun, Result.andThen]
  exact hK _ _ (h _ rfl)

set_option maxRecDepth 100000 in
set_option maxHeartbeats 1000000 in
theorem keep_LinOpenP (hP : LinCheckSpec) (w : World) (x0 : Int) (r0 : -9223372036854775808 ≤ x0 ∧ x0 ≤ 9223372036854775807) (x1 : Int) (r1 : -9223372036854775808 ≤ x1 ∧ x1 ≤ 9223372036854775807) (A2 : Option Addr) (n2 c2 : Nat) (x2 : List Dl) (h2 : RD w w.heap.size A2 n2 x2) (b2 : n2 ≤ 3518437208883) (r2 : ∀ f ∈ x2, inD f) (k2 : n2 ≤ c2)
    (x3 : Int) (r3 : -9223372036854775808 ≤ x3 ∧ x3 ≤ 9223372036854775807) (x4 : Bool) (x5 : Int) (r5 : -9223372036854775808 ≤ x5 ∧ x5 ≤ 9223372036854775807) :
    Calls Try.prog 8 #[.int .i64 x0, .int .i64 x1, .slice A2 n2 c2, .int .i64 x3, .bool x4, .int .i64 x5] w fun e w' => e = .returned (.bool true) ∧ Below w.heap.size w w' := by
  have HP := Lib.hid hP
  have HI := Lib.hid r2
  have HL := Lib.hid h2.len
  obtain ⟨k, hk⟩ : ∃ k, k = 1 + x0 % 4 := ⟨_, rfl⟩
  obtain ⟨f, hf⟩ : ∃ f, f = x1 % 5 := ⟨_, rfl⟩
  obtain ⟨y, hy⟩ : ∃ y, y = x3 % 300 := ⟨_, rfl⟩
  obtain ⟨z, hz⟩ : ∃ z, z = x5 % 4 := ⟨_, rfl⟩
  have hk1 : 1 ≤ k ∧ k ≤ 4 := by omega
  have hf1 : 0 ≤ f ∧ f ≤ 4 := by omega
  have hy1 : 0 ≤ y ∧ y < 300 := by omega
  have hz1 : 0 ≤ z ∧ z < 4 := by omega
  have hx4 : 0 ≤ x0 % 4 ∧ x0 % 4 < 4 := by omega
  have HK := Lib.hid hk
  have HF := Lib.hid hf
  have HY := Lib.hid hy
  have HZ := Lib.hid hz
  have HOK : Hid (okA k ⟨y, -1, x4, z, 0⟩ ∧ inA ⟨y, -1, x4, z, 0⟩) := ⟨⟨by dsimp only; omega, by dsimp only; omega, .inr rfl, .inl rfl, .inr ⟨by dsimp only; omega, fun h => by dsimp only at h; omega⟩⟩, ⟨by dsimp only; omega, by dsimp only; omega⟩, ⟨by dsimp only; omega, by dsimp only; omega⟩, ⟨by dsimp only; omega, by dsimp only; omega⟩, ⟨by dsimp only; omega, by dsimp only; omega⟩⟩
  have h0 := Below.refl w.heap.size w
  clear hP r2 hk hf hy hz
  go_enter Try.func8, Try.ntmps8
  go_wp2_with fail
  refine (keep_Picked x0 4 _ (by omega) (by omega)).mono ?_
  rintro e w' ⟨rfl, rfl⟩
  go_wp2_with fail
  refine (keep_Picked x1 5 _ (by omega) (by omega)).mono ?_
  rintro e w' ⟨rfl, rfl⟩
  rw [← HK.out, ← HF.out]
  go_wp2_with (refine wp_minL rfl _ _ _ rfl n2 8 rfl rfl ?_; intro m HMIN; have hmn : m ≤ n2 := (by have := HMIN.out; omega); have hm8 : m ≤ 8 := (by have := HMIN.out; omega))
  refine (keep_Sequence w k f A2 m c2 (x2.take m) true hk1 hf1 (h2.take hmn) (by omega) (fun d hd => HI.out d (List.mem_of_mem_take hd))).mono ?_
  rintro e w1 ⟨A3, n3, c3, rfl, ho3, hn3, hlc3, hb1⟩
  have hs1 := hb1.size
  obtain ⟨S, hS⟩ : ∃ S, S = sqA k true 0 (has0 k f) ((x2.take m).take 9) := ⟨_, rfl⟩
  rw [← hS] at ho3
  have hw := open_right (l := x2.take m) (x := ⟨y, -1, x4, z, 0⟩) hk1 hf1 (by simp; omega) HOK.out rfl
  rw [← hS] at hw
  have HW := Lib.hid hw
  have HO := Lib.hid ho3
  clear hS ho3 hw
  go_wp2_with fail
  refine (keep_Picked x3 300 _ (by omega) (by omega)).mono ?_
  rintro e w' ⟨rfl, rfl⟩
  rw [← HY.out]
  go_wp2_with fail
  refine (keep_Picked x5 4 _ (by omega) (by omega)).mono ?_
  rintro e w' ⟨rfl, rfl⟩
  rw [← HZ.out]
  go_wp2_with (at_builtin; go_must (refine app_litB eltAct w1 rfl _ _ rfl w.heap.size (.slice A3 n3 c3) n3 (S.flatMap acV) rfl HO.out 1 [.int .i64 y, .int .i64 (-1), .bool x4, .int .i64 z, .int .i64 0] _ rfl rfl rfl (oneAct _ _ _ _ _) (by omega) (by omega) hs1 ?_); intro v6 w6 hown6 hg6 hblk6; obtain ⟨A6, c6, rfl, hlc6⟩ := own_form hown6)
  have hb6 : Below w.heap.size w w6 := (hb1.alloc hs1 _).grown hg6 (by simp; omega) (fun q hq => (HO.out.lt q hq).1)
  have HO6 : Hid (w6.ownsRow w.heap.size 34 5 (.slice A6 (n3 + 1) c6) (n3 + 1) ((S ++ [Ac.mk y (-1) x4 z 0]).flatMap acV)) := by
    show World.ownsRow _ _ _ _ _ _ _
    rw [List.flatMap_append]
    exact hown6
  clear hown6 hg6 hblk6
  refine (check_own HP.out w6 _ A6 (n3 + 1) c6 _ k f true 0 HO6.out (by omega) hlc6 HW.out.2 hf1 HW.out.1).mono ?_
  rintro e w7 ⟨rfl, hb7⟩
  have hb8 := hb6.trans (hb7.mono hb6.size)
  go_wp2_with fail
  refine (keep_linSure HP.out w7).mono ?_
  rintro e w9 ⟨rfl, hb9⟩
  go_wp2
  go_ret
  exact ⟨rfl, hb8.trans (hb9.mono hb8.size)⟩
end Go.Proofs.Ytdoniefhmmodbaa
