/- A slice of instructions (five numbers each), and one that came in. No statement of the seat is proved here; no condition. -/
import Derived.Test.YtjihopbapnfppaaDoorOpen
import Derived.Test.YtjihopbapnfppaaDoorLibBox
import Derived.Test.YtjihopbapnfppaaDoorVmPure
import Derived.OpenShut
set_option linter.unusedSimpArgs false
set_option linter.unusedVariables false
namespace Go.Baro
open Go.RowKit

def insV (o : Ins) : List Value := [.int .i64 o.k, .int .i64 o.a, .int .i64 o.b, .int .i64 o.c, .int .i64 o.d]
/-- The cells of instructions. -/
def cellsO (l : List Ins) : List Value := l.flatMap insV
/-- A slice of instructions. -/
def RO (w : World) (B : Nat) (A : Option Addr) (n : Nat) (l : List Ins) : Prop := Rd w B 5 A n (cellsO l)
theorem cellsO_length (l : List Ins) : (cellsO l).length = l.length * 5 := by
  induction l with
  | nil => rfl
  | cons f l ih => simp only [cellsO, insV, List.flatMap_cons, List.length_append, List.length_cons, List.length_nil] at ih ⊢; omega
theorem cellsO_append (a b : List Ins) : cellsO (a ++ b) = cellsO a ++ cellsO b := by simp [cellsO]
theorem cellsO_at (l : List Ins) : ∀ (i j : Nat) (o : Ins), l[i]? = some o → j < 5 → (cellsO l)[i * 5 + j]? = (insV o)[j]? := by
  induction l with
  | nil => intro i j o h; simp at h
  | cons g l ih =>
    intro i j o h hj
    have hc : cellsO (g :: l) = insV g ++ cellsO l := rfl
    rw [hc]
    cases i with
    | zero => simp at h; subst h; rw [List.getElem?_append_left (by simp [insV]; omega)]; simp
    | succ i =>
      have := ih i j o (by simpa using h) hj
      rw [List.getElem?_append_right (by simp [insV]; omega), ← this]
      simp [insV, show (i + 1) * 5 + j - 5 = i * 5 + j by omega]
section
variable {w w' : World} {B B' n : Nat} {A : Option Addr} {l : List Ins}
theorem RO.len (h : RO w B A n l) : l.length = n := by have := Rd.len h; rw [cellsO_length] at this; omega
theorem RO.val (h : RO w B A n l) {i : Nat} (hi : i < n) : ∃ b o k x y z u, A = some ⟨b, o, none⟩ ∧ b < B ∧ w.cell? ⟨b, o + i * 5, none⟩ = some (.int .i64 k) ∧ w.cell? ⟨b, o + i * 5 + 1, none⟩ = some (.int .i64 x) ∧ w.cell? ⟨b, o + i * 5 + 2, none⟩ = some (.int .i64 y) ∧
    w.cell? ⟨b, o + i * 5 + 3, none⟩ = some (.int .i64 z) ∧ w.cell? ⟨b, o + i * 5 + 4, none⟩ = some (.int .i64 u) ∧ Hid (l[i]? = some ⟨k, x, y, z, u⟩) ∧ Ins.mk k x y z u ∈ l := by
  obtain ⟨b, o, hA, hb, hc⟩ := Rd.at_ h (by omega)
  have hl : i < l.length := by rw [h.len]; exact hi
  have hf : l[i]? = some l[i] := List.getElem?_eq_getElem hl
  refine ⟨b, o, l[i].k, l[i].a, l[i].b, l[i].c, l[i].d, hA, hb, ?_, ?_, ?_, ?_, ?_, hf, List.getElem_mem hl⟩
  · rw [hc (i * 5) (by omega)]; exact cellsO_at l i 0 _ hf (by omega)
  · rw [Nat.add_assoc, hc (i * 5 + 1) (by omega)]; exact cellsO_at l i 1 _ hf (by omega)
  · rw [Nat.add_assoc, hc (i * 5 + 2) (by omega)]; exact cellsO_at l i 2 _ hf (by omega)
  · rw [Nat.add_assoc, hc (i * 5 + 3) (by omega)]; exact cellsO_at l i 3 _ hf (by omega)
  · rw [Nat.add_assoc, hc (i * 5 + 4) (by omega)]; exact cellsO_at l i 4 _ hf (by omega)
theorem RO.below (h : RO w B A n l) (hb : Below B w w') : RO w' B A n l := Rd.below h hb
theorem RO.heap (h : RO w B A n l) (hh : w'.heap = w.heap) : RO w' B A n l := Rd.heap h hh
theorem RO.more (h : RO w B A n l) (hB : B ≤ B') : RO w B' A n l := Rd.more h hB
theorem RO.size (h : RO w B A n l) : RO w w.heap.size A n l := Rd.size h (by decide)
theorem RO.nil (w : World) (B : Nat) (A : Option Addr) : RO w B A 0 [] := Rd.nil w B 5 A
end
section
variable {H : Type} {enc : TypeId × Value → H} {P : Program} {W : World}
/-- A slice of instructions that came in. -/
theorem open_RO {t e i : TypeId} {f0 f1 f2 f3 f4 : Field} {a : Option Addr} {len cap : Nat} {d : DataW H} {p : List MemPlace} (ht : P.underlying t = some (.slice e)) (he : P.underlying e = some (.struct #[f0, f1, f2, f3, f4])) (hc : P.cellsOf e = 5)
    (hi : P.underlying i = some (.int .i64)) (hci : P.cellsOf i = 1) (hf : [f0, f1, f2, f3, f4].map (fun f => (f.type, f.offset)) = [(i, 0), (i, 1), (i, 2), (i, 3), (i, 4)])
    (h : DataW.Trod enc P W 0 (fun _ => true) true t (.slice a len cap) d p) :
    ∃ fs : List Ins, RO W W.heap.size a len fs ∧ (∀ f ∈ fs, inI f) ∧ len ≤ cap ∧ ((len = 0 ∧ d = .nil) ∨ ∃ el sp, d = .slice el sp ∧ el.length = len) := by
  obtain ⟨rows, hr, hl, hrow, hlc, hd⟩ := open_rows ht hc (by decide) h
  simp only [List.map_cons, List.map_nil, List.cons.injEq, Prod.mk.injEq, and_true] at hf
  obtain ⟨⟨e0, o0⟩, ⟨e1, o1⟩, ⟨e2, o2⟩, ⟨e3, o3⟩, e4, o4⟩ := hf
  obtain ⟨fs, rfl, hp⟩ := map_of (f := insV) (p := inI) rows (by
      intro r hr
      obtain ⟨hlr, y, n, hy⟩ := hrow r hr
      obtain ⟨xs, m, _, _, hlen, hlx, hfx⟩ := DataW.trod_struct he hy
      have g : ∀ (j : Nat) (f : Field), #[f0, f1, f2, f3, f4][j]? = some f → f.type = i → ∃ v, (r.drop f.offset).take 1 = [.int .i64 v] ∧ inW v := by
        intro j f hj hfi
        have h0 := hfx j f hj
        have hjl : j < xs.length := by
          have := (Array.getElem?_eq_some_iff.1 hj).1
          simp at this hlx; omega
        rw [List.getElem?_eq_getElem hjl, hfi, hci] at h0
        obtain ⟨u, hu, _, wu⟩ := DataW.trod_int hi h0
        exact ⟨u, hu, bounds_i64 wu⟩
      obtain ⟨v0, h0, w0⟩ := g 0 f0 rfl e0
      obtain ⟨v1, h1, w1⟩ := g 1 f1 rfl e1
      obtain ⟨v2, h2, w2⟩ := g 2 f2 rfl e2
      obtain ⟨v3, h3, w3⟩ := g 3 f3 rfl e3
      obtain ⟨v4, h4, w4⟩ := g 4 f4 rfl e4
      rw [o0] at h0; rw [o1] at h1; rw [o2] at h2; rw [o3] at h3; rw [o4] at h4
      match r, hlr with
      | [c0, c1, c2, c3, c4], _ =>
        simp at h0 h1 h2 h3 h4
        exact ⟨⟨v0, v1, v2, v3, v4⟩, by simp [insV, h0, h1, h2, h3, h4], w0, w1, w2, w3, w4⟩)
  refine ⟨fs, ?_, hp, hlc, hd⟩
  have : cellsO fs = (fs.map insV).flatten := by simp [cellsO, List.flatMap]
  unfold RO
  rw [this]
  exact hr
end
end Go.Baro
