/- A list of lists of bytes, as it comes in. No statement of the seat is proved here; no condition. -/
import Derived.Test.YtjihopbapnfppaaDoorOpen
import Derived.Test.YtjihopbapnfppaaDoorLibL
set_option linter.unusedSimpArgs false
set_option linter.unusedVariables false
namespace Go.Baro
open Go.ChangeShapes Go.WideShapes Go.ChangeAt Go.RowKit
section
variable {H : Type} {enc : TypeId × Value → H} {P : Program} {W : World}
/-- What one cell of it is. -/
def Inner (W : World) (v : Value) (l : List Int) : Prop := SL W W.heap.size v l ∧ l.length ≤ 9223372036854775807 ∧ ∀ y ∈ l, 0 ≤ y ∧ y < 256
theorem open_inner {e b : TypeId} {n : Nat} {r : List Value} {y : DataW H × List MemPlace} (he : P.underlying e = some (.slice b)) (hb : P.underlying b = some (.int .u8)) (hcb : P.cellsOf b = 1)
    (h : DataW.trod enc P W 0 (fun _ => true) true n e r = some y) : ∃ v l, r = [v] ∧ Inner W v l := by
  obtain ⟨d, p⟩ := y
  have hm : ∃ A len cap, r = [.slice A len cap] ∧ cap ≤ maxLen := by
    rcases DataW.trod_slice he h with ⟨hcs, _⟩ | ⟨x, l, c, _, _, _, _, hcs, _, _, _, hm, _⟩
    · exact ⟨none, 0, 0, hcs, by unfold maxLen; omega⟩
    · exact ⟨some x, l, c, hcs, hm⟩
  obtain ⟨A, len, cap, rfl, hm⟩ := hm
  obtain ⟨xs, hx, hw, hlc, _⟩ := open_RI (t := e) (e := b) (k := .u8) (a := A) (len := len) (cap := cap) (d := d) (p := p) he hb hcb ⟨n, by simpa [Value.cells] using h⟩
  refine ⟨_, xs, rfl, ⟨A, len, cap, rfl, hlc, hx⟩, ?_, fun y hy => ?_⟩
  · rw [hx.len]; unfold maxLen at hm; omega
  · have := bounds_u8 (hw y hy); omega
/-- A list of rows that each have a shape, beside what they are. -/
theorem zip_of {α β γ : Type} {f : α → β} {R : α → γ → Prop} : ∀ (l : List β), (∀ b ∈ l, ∃ a c, b = f a ∧ R a c) → ∃ (us : List α) (cs : List γ), l = us.map f ∧ us.length = cs.length ∧ (∀ (i : Nat) a c, us[i]? = some a → cs[i]? = some c → R a c) ∧ ∀ c ∈ cs, ∃ a, R a c
  | [], _ => ⟨[], [], rfl, rfl, by simp, by simp⟩
  | b :: l, h => by
    obtain ⟨a, c, rfl, hr⟩ := h b (by simp)
    obtain ⟨us, cs, rfl, hl, hp, hq⟩ := zip_of (f := f) (R := R) l fun b hb => h b (by simp [hb])
    refine ⟨a :: us, c :: cs, rfl, by simp [hl], fun i a' c' h1 h2 => ?_, fun x hx => ?_⟩
    · cases i with
      | zero => simp at h1 h2; rw [← h1, ← h2]; exact hr
      | succ i => exact hp i a' c' (by simpa using h1) (by simpa using h2)
    · rcases List.mem_cons.1 hx with rfl | hx
      · exact ⟨a, hr⟩
      · exact hq x hx
theorem open_RL {t e b : TypeId} {a : Option Addr} {len cap : Nat} {d : DataW H} {p : List MemPlace} (ht : P.underlying t = some (.slice e)) (he : P.underlying e = some (.slice b)) (hb : P.underlying b = some (.int .u8)) (hc : P.cellsOf e = 1) (hcb : P.cellsOf b = 1)
    (h : DataW.Trod enc P W 0 (fun _ => true) true t (.slice a len cap) d p) :
    ∃ ls : List (List Int), RL W W.heap.size a len ls ∧ (∀ l ∈ ls, l.length ≤ 9223372036854775807 ∧ ∀ y ∈ l, 0 ≤ y ∧ y < 256) ∧ len ≤ cap ∧ ((len = 0 ∧ d = .nil) ∨ ∃ el sp, d = .slice el sp ∧ el.length = len) := by
  obtain ⟨rows, hr, hl, hrow, hlc, hd⟩ := open_rows ht hc (by decide) h
  obtain ⟨vs, ls, rfl, hvl, hp, hq⟩ := zip_of (f := fun v : Value => [v]) (R := Inner W) rows (by
    intro r hr
    obtain ⟨_, y, n, hy⟩ := hrow r hr
    exact open_inner he hb hcb hy)
  have hf : (vs.map fun v : Value => [v]).flatten = vs := by
    clear hr hl hrow hvl hp hq
    induction vs with
    | nil => rfl
    | cons v vs ih => simp [ih]
  rw [hf] at hr
  refine ⟨ls, ⟨vs, hr, hvl, fun i v l h1 h2 => (hp i v l h1 h2).1⟩, fun l hl => ?_, hlc, hd⟩
  obtain ⟨v, hv⟩ := hq l hl
  exact hv.2
end
end Go.Baro
