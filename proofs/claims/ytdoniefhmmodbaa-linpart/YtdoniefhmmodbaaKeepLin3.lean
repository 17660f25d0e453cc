/- That lin.Check answers at all: two small histories. No statement of the seat is proved here. -/
import Derived.Test.YtdoniefhmmodbaaKeepLin2
import Derived.Test.YtdoniefhmmodbaaLinPure4
set_option linter.unusedSimpArgs false
set_option linter.unusedVariables false
namespace Go.Proofs.Ytdoniefhmmodbaa
open Go.RowKit Go.Ord Go.Baro

theorem RA_lit (w : World) (e : TypeId) (a : Ac) : RA (w.alloc (.cells #[.int .i64 a.b, .int .i64 a.e, .bool a.put, .int .i64 a.v, .int .i64 a.add] e)) (w.alloc (.cells #[.int .i64 a.b, .int .i64 a.e, .bool a.put, .int .i64 a.v, .int .i64 a.add] e)).heap.size (some ⟨w.heap.size, 0, none⟩) 1 [a] := by
  have h := Rd.lit w e (cs := acV a) (s := 5) (n := 1) rfl
  unfold RA
  simp only [List.flatMap_cons, List.flatMap_nil, List.append_nil]
  exact h

set_option maxRecDepth 100000 in
set_option maxHeartbeats 1000000 in
theorem keep_linSure (hP : LinCheckSpec) (w : World) : Calls Try.prog 16 #[] w fun e w' => e = .returned (.bool true) ∧ Below w.heap.size w w' := by
  have HP := Lib.hid hP
  have h0 := Below.refl w.heap.size w
  have r1 := Lib.hid (RA_lit w 34 ⟨1, 2, false, 0, 0⟩)
  have hb1 := h0.alloc (Nat.le_refl _) (Obj.cells #[.int .i64 1, .int .i64 2, .bool false, .int .i64 0, .int .i64 0] 34)
  clear hP
  go_enter Try.func16, Try.ntmps16
  go_wp2_with fail
  refine (HP.out _ _ 1 1 [⟨1, 2, false, 0, 0⟩] 1 0 true 0 r1.out (by omega) (Nat.le_refl _) (fun a ha => by rw [List.mem_singleton.1 ha]; unfold inA inW; simp) (by unfold inW; simp) sure1).mono ?_
  rintro e w1 ⟨rfl, hb2⟩
  have hb3 := hb1.trans (hb2.mono hb1.size)
  have hs3 := hb3.size
  have r2 := Lib.hid (RA_lit w1 34 ⟨1, 2, false, 1, 0⟩)
  have hb4 := hb3.alloc hs3 (Obj.cells #[.int .i64 1, .int .i64 2, .bool false, .int .i64 1, .int .i64 0] 34)
  go_wp2_with fail
  refine (HP.out _ _ 1 1 [⟨1, 2, false, 1, 0⟩] 1 0 false 0 r2.out (by omega) (Nat.le_refl _) (fun a ha => by rw [List.mem_singleton.1 ha]; unfold inA inW; simp) (by unfold inW; simp) sure2).mono ?_
  rintro e w2 ⟨rfl, hb5⟩
  have hb6 := hb4.trans (hb5.mono hb4.size)
  go_wp2
  go_ret
  exact ⟨rfl, hb6⟩

/-- lin.Check of a row of operations that was made by the call. -/
theorem check_own (hP : LinCheckSpec) (w : World) (B : Nat) (A : Option Addr) (n c : Nat) (S : List Ac) (k first : Int) (r : Bool) (E : Int) (h : w.ownsRow B 34 5 (.slice A n c) n (S.flatMap acV)) (hn : n ≤ 100) (hlc : n ≤ c) (hi : ∀ a ∈ S, inA a) (hf : 0 ≤ first ∧ first ≤ 4) (hr : LcR k first S r E) :
    Calls Try.prog 12 #[.int .i64 k, .int .i64 first, .slice A n c] w fun e w' => e = .returned (.tuple #[.bool r, .int .i64 E]) ∧ Below w.heap.size w w' :=
  hP w A n c S k first r E (Rd.of_own h) (by omega) hlc hi (by unfold inW; omega) hr
end Go.Proofs.Ytdoniefhmmodbaa
