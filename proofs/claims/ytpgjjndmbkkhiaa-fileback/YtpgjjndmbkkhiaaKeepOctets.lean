/- At most so many bytes. No statement of the seat is proved here; no condition. -/
import Derived.Test.YtpgjjndmbkkhiaaRows
import Derived.Test.YtpgjjndmbkkhiaaLib
set_option linter.unusedSimpArgs false
set_option linter.unusedVariables false
namespace Go.Proofs.Ytpgjjndmbkkhiaa
open Go.RowKit Go.Ord Go.Baro

theorem eltOct : Elt Try.prog 22 5 (.int .u8 0) 1 1 := Elt.mk' Try.underlying22 (by kernel_rfl) rfl (by decide)

set_option maxHeartbeats 1000000 in
theorem keep_OctetsW (l : List Int) (A : Option Addr) (n c lim : Nat) (w : World) (hb : RI w w.heap.size .u8 A n l) (hn : n ≤ 9223372036854775807) (hnc : n ≤ c) (hl : lim ≤ 10000) :
    Calls Try.prog 23 #[.slice A n c, .int .i64 lim] w fun e w' => ∃ v N, e = .returned v ∧ w'.ownsRow w.heap.size 5 1 v N ((l.take lim).map (Value.int .u8)) ∧ N = min n lim ∧ Below w.heap.size w w' := by
  have HL := Lib.hid hb.len
  by_cases h : n ≤ lim
  · have hm : min n lim = n := by omega
    have HT : Hid (l.take lim = l) := Lib.hid (List.take_of_length_le (by rw [HL.out]; exact h))
    go_enter Try.func23, Try.ntmps23
    go_wp2_with (at_builtin; go_must (refine app_src eltOct w rfl _ _ rfl w.heap.size _ 0 [] rfl (World.ownsRow_nil _ _ _ _) A n _ (l.map (Value.int .u8)) rfl _ hb (one_ints _ _) (by omega) (by omega) (Nat.le_refl _) ?_); intro v3 w3 hown3 _ hbel3 _)
    go_ret
    rw [List.nil_append, Nat.zero_add] at hown3
    exact ⟨_, n, rfl, by rw [HT.out]; exact hown3, hm.symm, hbel3 w (Below.refl _ _)⟩
  · have hm : min n lim = lim := by omega
    have hb2 := hb.take (m := lim) (by omega)
    go_enter Try.func23, Try.ntmps23
    go_wp2_with (at_builtin; go_must (refine app_src eltOct w rfl _ _ rfl w.heap.size _ 0 [] rfl (World.ownsRow_nil _ _ _ _) A lim _ ((l.take lim).map (Value.int .u8)) rfl _ hb2 (one_ints _ _) (by omega) (by omega) (Nat.le_refl _) ?_); intro v3 w3 hown3 _ hbel3 _)
    go_ret
    rw [List.nil_append, Nat.zero_add] at hown3
    exact ⟨_, lim, rfl, hown3, hm.symm, hbel3 w (Below.refl _ _)⟩
theorem keep_Octets (l : List Int) (A : Option Addr) (n c lim : Nat) (w : World) (hb : RI w w.heap.size .u8 A n l) (hn : n ≤ 140737488351232) (hnc : n ≤ c) (hl : lim ≤ 10000) :
    Calls Try.prog 23 #[.slice A n c, .int .i64 lim] w fun e w' => ∃ v N, e = .returned v ∧ w'.ownsRow w.heap.size 5 1 v N ((l.take lim).map (Value.int .u8)) ∧ N = min n lim ∧ Below w.heap.size w w' :=
  keep_OctetsW l A n c lim w hb (by omega) hnc hl
end Go.Proofs.Ytpgjjndmbkkhiaa
