/- What is asked of a function that gives words, or a code, for a number up to a limit (the packages of stages 11 to 22). No statement of the seat is proved here; no condition. -/
import Derived.Test.YtfpokjhalbbeeaaDoorLibT
import Derived.Test.YtfpokjhalbbeeaaDoorDoorV
import Derived.Test.YtfpokjhalbbeeaaDoorRows
set_option linter.unusedSimpArgs false
set_option linter.unusedVariables false
namespace Go.Baro
open Go.RowKit
/-- Words may be, up to a limit. -/
def WordsOk (hi : Nat) (ws : Nat → List Int) : Prop := ∀ d, 1 ≤ d → d ≤ hi → 0 < (ws d).length ∧ (ws d).length ≤ 64 ∧ ∀ x ∈ ws d, inW x
/-- Codes may be, up to a limit. -/
def CodesOk (hi : Nat) (cs : Nat → List Ins) : Prop := ∀ d, 1 ≤ d → d ≤ hi → 0 < (cs d).length ∧ okC (cs d) ∧ ∀ o ∈ cs d, inI o
end Go.Baro
namespace Go.Proofs.YtfpokjhalbbeeaaDoor
open Go.RowKit Go.Ord Go.Baro
/-- A function that gives words. -/
def WSpec (F : FuncId) (hi : Nat) (ws : Nat → List Int) : Prop := ∀ (w : World) (hT : Tab w) (d : Int) (hd : inW d), Calls Tryd.prog F #[.int .i64 d] w fun e w' => ((1 ≤ d ∧ d ≤ hi) → ∃ A n k, e = .returned (.tuple #[.slice A n k, .int .i64 0]) ∧ n ≤ k ∧ k ≤ 9223372036854775807 ∧ QT w' 3 1 A n ((ws d.toNat).map (Value.int .i64))) ∧
  (¬ (1 ≤ d ∧ d ≤ hi) → ∃ A k, e = .returned (.tuple #[.slice A 0 k, .int .i64 2])) ∧ Below w.heap.size w w'
/-- A function that gives a code. -/
def CSpec (F : FuncId) (hi : Nat) (c : Nat → List Ins) : Prop := ∀ (w : World) (hT : Tab w) (d : Int) (hd : inW d), Calls Tryd.prog F #[.int .i64 d] w fun e w' => ((1 ≤ d ∧ d ≤ hi) → ∃ A n k, e = .returned (.tuple #[.slice A n k, .int .i64 0]) ∧ n ≤ k ∧ k ≤ 9223372036854775807 ∧ QT w' 64 5 A n (cellsO (c d.toNat))) ∧
  (¬ (1 ≤ d ∧ d ≤ hi) → ∃ A k, e = .returned (.tuple #[.slice A 0 k, .int .i64 2])) ∧ Below w.heap.size w w'
end Go.Proofs.YtfpokjhalbbeeaaDoor
