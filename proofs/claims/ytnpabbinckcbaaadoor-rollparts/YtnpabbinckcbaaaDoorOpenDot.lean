/- A slice of what samples are made of, as it comes in. No statement of the seat is proved here; no condition. -/
import Derived.Test.YtnpabbinckcbaaaDoorOpen
import Derived.Deep.Strs
set_option linter.unusedSimpArgs false
set_option linter.unusedVariables false
namespace Go.Baro
open Go.ChangeShapes Go.WideShapes Go.ChangeAt Go.RowKit

/-- The cells of dots: a step, a value and whether they are wide. -/
def cellsD (fs : List (Int × Int × Bool)) : List Value := fs.flatMap fun f => [.int .i64 f.1, .int .i64 f.2.1, .bool f.2.2]
def RD (w : World) (B : Nat) (A : Option Addr) (n : Nat) (fs : List (Int × Int × Bool)) : Prop := Rd w B 3 A n (cellsD fs)
theorem cellsD_length (fs : List (Int × Int × Bool)) : (cellsD fs).length = fs.length * 3 := by
  induction fs with
  | nil => rfl
  | cons f fs ih => simp only [cellsD, List.flatMap_cons, List.length_append, List.length_cons, List.length_nil] at ih ⊢; omega
theorem cellsD_at (fs : List (Int × Int × Bool)) : ∀ (i : Nat) (f : Int × Int × Bool), fs[i]? = some f → (cellsD fs)[i * 3]? = some (.int .i64 f.1) ∧ (cellsD fs)[i * 3 + 1]? = some (.int .i64 f.2.1) ∧ (cellsD fs)[i * 3 + 2]? = some (.bool f.2.2) := by
  induction fs with
  | nil => intro i f h; simp at h
  | cons g fs ih =>
    intro i f h
    have hc : cellsD (g :: fs) = Value.int .i64 g.1 :: Value.int .i64 g.2.1 :: Value.bool g.2.2 :: cellsD fs := rfl
    rw [hc]
    cases i with
    | zero => simp at h; subst h; simp
    | succ i =>
      have := ih i f (by simpa using h)
      rw [show (i + 1) * 3 = i * 3 + 1 + 1 + 1 by omega]
      simpa using this
section
variable {w w' : World} {B B' n : Nat} {A : Option Addr} {fs : List (Int × Int × Bool)}
theorem RD.len (h : RD w B A n fs) : fs.length = n := by have := Rd.len h; rw [cellsD_length] at this; omega
theorem RD.val (h : RD w B A n fs) {i : Nat} (hi : i < n) : ∃ b o x y z, A = some ⟨b, o, none⟩ ∧ b < B ∧ w.cell? ⟨b, o + i * 3, none⟩ = some (.int .i64 x) ∧ w.cell? ⟨b, o + i * 3 + 1, none⟩ = some (.int .i64 y) ∧ w.cell? ⟨b, o + i * 3 + 2, none⟩ = some (.bool z) ∧ (x, y, z) ∈ fs := by
  obtain ⟨b, o, hA, hb, hc⟩ := Rd.at_ h (by omega)
  have hl : i < fs.length := by rw [h.len]; exact hi
  have hf : fs[i]? = some (fs[i].1, fs[i].2.1, fs[i].2.2) := List.getElem?_eq_getElem hl
  obtain ⟨h1, h2, h3⟩ := cellsD_at fs i _ hf
  refine ⟨b, o, fs[i].1, fs[i].2.1, fs[i].2.2, hA, hb, ?_, ?_, ?_, List.getElem_mem hl⟩
  · rw [hc (i * 3) (by omega)]; exact h1
  · rw [Nat.add_assoc, hc (i * 3 + 1) (by omega)]; exact h2
  · rw [Nat.add_assoc, hc (i * 3 + 2) (by omega)]; exact h3
theorem RD.below (h : RD w B A n fs) (hb : Below B w w') : RD w' B A n fs := Rd.below h hb
theorem RD.more (h : RD w B A n fs) (hB : B ≤ B') : RD w B' A n fs := Rd.more h hB
end
section
variable {H : Type} {enc : TypeId × Value → H} {P : Program} {W : World}
theorem open_RD {t e i j : TypeId} {f0 f1 f2 : Field} {a : Option Addr} {len cap : Nat} {d : DataW H} {p : List MemPlace} (ht : P.underlying t = some (.slice e)) (he : P.underlying e = some (.struct #[f0, f1, f2])) (hc : P.cellsOf e = 3)
    (hi : P.underlying i = some (.int .i64)) (hci : P.cellsOf i = 1) (hj : P.underlying j = some .bool) (hcj : P.cellsOf j = 1) (hf : (f0.type, f0.offset, f1.type, f1.offset, f2.type, f2.offset) = (i, 0, i, 1, j, 2))
    (h : DataW.Trod enc P W 0 (fun _ => true) true t (.slice a len cap) d p) :
    ∃ fs : List (Int × Int × Bool), RD W W.heap.size a len fs ∧ (∀ f ∈ fs, (-9223372036854775808 ≤ f.1 ∧ f.1 ≤ 9223372036854775807) ∧ -9223372036854775808 ≤ f.2.1 ∧ f.2.1 ≤ 9223372036854775807) ∧ len ≤ cap ∧ ((len = 0 ∧ d = .nil) ∨ ∃ el sp, d = .slice el sp ∧ el.length = len) := by
  obtain ⟨rows, hr, hl, hrow, hlc, hd⟩ := open_rows ht hc (by decide) h
  simp only [Prod.mk.injEq] at hf
  obtain ⟨e0, o0, e1, o1, e2, o2⟩ := hf
  obtain ⟨fs, rfl, hp⟩ := map_of (f := fun f : Int × Int × Bool => [Value.int .i64 f.1, Value.int .i64 f.2.1, Value.bool f.2.2])
    (p := fun f : Int × Int × Bool => (-9223372036854775808 ≤ f.1 ∧ f.1 ≤ 9223372036854775807) ∧ -9223372036854775808 ≤ f.2.1 ∧ f.2.1 ≤ 9223372036854775807) rows (by
      intro r hr
      obtain ⟨hlr, y, n, hy⟩ := hrow r hr
      obtain ⟨y0, y1, y2, m, _, _, h0, h1, h2⟩ := Go.Deep.trod_struct3 he hy
      rw [e0, o0, hci] at h0
      rw [e1, o1, hci] at h1
      rw [e2, o2, hcj] at h2
      obtain ⟨u, hu, _, wu⟩ := DataW.trod_int hi h0
      obtain ⟨v, hv, _, wv⟩ := DataW.trod_int hi h1
      obtain ⟨z, hz, _⟩ := DataW.trod_bool hj h2
      match r, hlr with
      | [c0, c1, c2], _ =>
        simp at hu hv hz
        exact ⟨(u, v, z), by rw [hu, hv, hz], bounds_i64 wu, bounds_i64 wv⟩)
  refine ⟨fs, ?_, hp, hlc, hd⟩
  have : cellsD fs = (fs.map fun f : Int × Int × Bool => [Value.int .i64 f.1, Value.int .i64 f.2.1, Value.bool f.2.2]).flatten := by simp [cellsD, List.flatMap]
  unfold RD
  rw [this]
  exact hr
end
end Go.Baro
