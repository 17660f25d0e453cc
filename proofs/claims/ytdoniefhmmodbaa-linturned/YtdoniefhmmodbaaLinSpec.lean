/- What is asked of lin.May and lin.Check, of the code itself. No statement of the seat is proved here; no condition. -/
import Derived.Test.YtdoniefhmmodbaaLibA
set_option linter.unusedSimpArgs false
set_option linter.unusedVariables false
namespace Go.Baro
/-- A valid operation of an object of kind k. -/
def okA (k : Int) (a : Ac) : Prop := (0 ≤ a.b ∧ a.b ≤ 1048576) ∧ a.e ≤ 1048576 ∧ (a.b ≤ a.e ∨ a.e = -1) ∧ (a.add = 0 ∨ (k = 2 ∧ a.put = true)) ∧ (k < 3 ∨ (-1 ≤ a.v ∧ (a.v = -1 → a.put = false)))
/-- A valid history. -/
def okL (k : Int) (l : List Ac) : Prop := (1 ≤ k ∧ k ≤ 4) ∧ l.length ≤ 9 ∧ ∀ a ∈ l, okA k a
/-- What an object has at first. -/
def has0 (k first : Int) : List Int := if k < 3 then [first] else []
/-- What lin.Check answers. -/
def LcR (k first : Int) (l : List Ac) (r : Bool) (E : Int) : Prop := (¬ okL k l ∧ r = false ∧ E = 4) ∨ (okL k l ∧ (r = true ↔ Lin k (has0 k first) l) ∧ E = 0)
theorem lcR_some (k first : Int) (l : List Ac) : ∃ r E, LcR k first l r E := by
  by_cases h : okL k l
  · exact ⟨@decide (Lin k (has0 k first) l) (Classical.propDecidable _), 0, .inr ⟨h, by simp, rfl⟩⟩
  · exact ⟨false, 4, .inl ⟨h, rfl, rfl⟩⟩
end Go.Baro
namespace Go.Proofs.Ytdoniefhmmodbaa
open Go.RowKit Go.Ord Go.Baro
/-- lin.May, of a history in memory. -/
def LinMaySpec : Prop := ∀ (w : World) (A : Option Addr) (n c : Nat) (l : List Ac) (k : Int) (r : Bool) (h : RA w w.heap.size A n l) (hn : n ≤ 9223372036854775807) (hlc : n ≤ c) (hi : ∀ a ∈ l, inA a) (hr : r = true ↔ okL k l),
    Calls Try.prog 10 #[.int .i64 k, .slice A n c] w fun e w' => e = .returned (.bool r) ∧ Below w.heap.size w w'
/-- lin.Check, of a history in memory. -/
def LinCheckSpec : Prop := ∀ (w : World) (A : Option Addr) (n c : Nat) (l : List Ac) (k first : Int) (r : Bool) (E : Int) (h : RA w w.heap.size A n l) (hn : n ≤ 9223372036854775807) (hlc : n ≤ c) (hi : ∀ a ∈ l, inA a) (hf : inW first) (hr : LcR k first l r E),
    Calls Try.prog 12 #[.int .i64 k, .int .i64 first, .slice A n c] w fun e w' => e = .returned (.tuple #[.bool r, .int .i64 E]) ∧ Below w.heap.size w w'
end Go.Proofs.Ytdoniefhmmodbaa
