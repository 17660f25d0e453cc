/- Windows of samples. No statement of the seat is proved here; no condition. -/
import Derived.Test.YtnpabbinckcbaaaDoorLib
set_option linter.unusedSimpArgs false
set_option linter.unusedVariables false
namespace Go.Baro
theorem RF.win {w : World} {B n : Nat} {b o : Nat} {xs : List (Int × Int)} (h : RF w B (some ⟨b, o, none⟩) n xs) {i m : Nat} (hi : i + m ≤ n) : RF w B (some ⟨b, o + i * 2, none⟩) m ((xs.drop i).take m) := by
  have hl := h.len
  have e1 : xs = xs.take i ++ xs.drop i := (List.take_append_drop i xs).symm
  rw [e1] at h
  have h1 := RF.snd h (k := i) (by simp; omega)
  have e2 : xs.drop i = (xs.drop i).take m ++ (xs.drop i).drop m := (List.take_append_drop m _).symm
  rw [e2] at h1
  have h2 := RF.fst h1
  rw [show ((xs.drop i).take m).length = m by simp; omega] at h2
  exact h2
theorem RF_lit1 (w : World) (e : TypeId) (x y : Int) (g : Nat) (hg : g = w.heap.size) : RF (w.alloc (.cells #[.int .i64 x, .int .i64 y] e)) (w.alloc (.cells #[.int .i64 x, .int .i64 y] e)).heap.size (some ⟨g, 0, none⟩) 1 [(x, y)] := by
  subst hg
  exact Rd.lit (cs := [.int .i64 x, .int .i64 y]) (s := 2) (n := 1) w e rfl
end Go.Baro
