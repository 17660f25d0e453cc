/- Slices of operations and of deals, and how they come in. No statement of the seat is proved here; no condition. -/
import Derived.Test.YtdoniefhmmodbaaLibO
import Derived.Test.YtdoniefhmmodbaaLinPure2
set_option linter.unusedSimpArgs false
set_option linter.unusedVariables false
namespace Go.Baro
open Go.ChangeShapes Go.WideShapes Go.ChangeAt Go.RowKit

theorem flatMap_at {α : Type} {s : Nat} {f : α → List Value} (hf : ∀ x, (f x).length = s) : ∀ (ls : List α) (i j : Nat) (x : α), ls[i]? = some x → j < s → (ls.flatMap f)[i * s + j]? = (f x)[j]?
  | [], i, j, x, h, _ => by simp at h
  | y :: ls, 0, j, x, h, hj => by
    simp only [List.getElem?_cons_zero, Option.some.injEq] at h
    subst h
    rw [List.flatMap_cons, Nat.zero_mul, Nat.zero_add, List.getElem?_append_left (by rw [hf]; exact hj)]
  | y :: ls, i + 1, j, x, h, hj => by
    rw [List.flatMap_cons, List.getElem?_append_right (by rw [hf, Nat.succ_mul]; omega), hf, show (i + 1) * s + j - s = i * s + j by rw [Nat.succ_mul]; omega]
    exact flatMap_at hf ls i j x (by simpa using h) hj
theorem flatMap_len {α : Type} {s : Nat} {f : α → List Value} (hf : ∀ x, (f x).length = s) : ∀ (ls : List α), (ls.flatMap f).length = ls.length * s
  | [] => by simp
  | y :: ls => by rw [List.flatMap_cons, List.length_append, hf, flatMap_len hf ls, List.length_cons, Nat.succ_mul]; omega
/-- The cells of an operation, of a deal. -/
def acV (a : Ac) : List Value := [.int .i64 a.b, .int .i64 a.e, .bool a.put, .int .i64 a.v, .int .i64 a.add]
def dlV (a : Dl) : List Value := [.bool a.put, .int .i64 a.v, .int .i64 a.early, .int .i64 a.late, .bool a.opn]
theorem acV_len (a : Ac) : (acV a).length = 5 := rfl
theorem dlV_len (a : Dl) : (dlV a).length = 5 := rfl
def RA (w : World) (B : Nat) (A : Option Addr) (n : Nat) (ls : List Ac) : Prop := Rd w B 5 A n (ls.flatMap acV)
def RD (w : World) (B : Nat) (A : Option Addr) (n : Nat) (ls : List Dl) : Prop := Rd w B 5 A n (ls.flatMap dlV)
section
variable {w w' : World} {B B' n : Nat} {A : Option Addr}
theorem RA.below {ls : List Ac} (h : RA w B A n ls) (hb : Below B w w') : RA w' B A n ls := Rd.below h hb
theorem RA.more {ls : List Ac} (h : RA w B A n ls) (hB : B ≤ B') : RA w B' A n ls := Rd.more h hB
theorem RD.below {ls : List Dl} (h : RD w B A n ls) (hb : Below B w w') : RD w' B A n ls := Rd.below h hb
theorem RD.more {ls : List Dl} (h : RD w B A n ls) (hB : B ≤ B') : RD w B' A n ls := Rd.more h hB
theorem RA.len {ls : List Ac} (h : RA w B A n ls) : ls.length = n := by have := Rd.len h; rw [flatMap_len acV_len] at this; omega
theorem RD.len {ls : List Dl} (h : RD w B A n ls) : ls.length = n := by have := Rd.len h; rw [flatMap_len dlV_len] at this; omega
theorem RA.val {ls : List Ac} (h : RA w B A n ls) {i : Nat} (hi : i < n) : ∃ b o x, A = some ⟨b, o, none⟩ ∧ b < B ∧ w.cell? ⟨b, o + i * 5, none⟩ = some (.int .i64 x.b) ∧ w.cell? ⟨b, o + i * 5 + 1, none⟩ = some (.int .i64 x.e) ∧ w.cell? ⟨b, o + i * 5 + 2, none⟩ = some (.bool x.put) ∧ w.cell? ⟨b, o + i * 5 + 3, none⟩ = some (.int .i64 x.v) ∧
    w.cell? ⟨b, o + i * 5 + 4, none⟩ = some (.int .i64 x.add) ∧ Hid (ls[i]? = some x) ∧ x ∈ ls := by
  have hl := h.len
  have hi2 : i < ls.length := by omega
  obtain ⟨b, o, hA, hb, hc⟩ := Rd.at_ h (by omega)
  have key : ∀ j, j < 5 → w.cell? ⟨b, o + i * 5 + j, none⟩ = (acV ls[i])[j]? := fun j hj => by
    rw [Nat.add_assoc, hc _ (by omega), flatMap_at acV_len ls i j _ (List.getElem?_eq_getElem hi2) hj]
  exact ⟨b, o, ls[i], hA, hb, key 0 (by omega), key 1 (by omega), key 2 (by omega), key 3 (by omega), key 4 (by omega), List.getElem?_eq_getElem hi2, List.getElem_mem hi2⟩
theorem RD.val {ls : List Dl} (h : RD w B A n ls) {i : Nat} (hi : i < n) : ∃ b o x, A = some ⟨b, o, none⟩ ∧ b < B ∧ w.cell? ⟨b, o + i * 5, none⟩ = some (.bool x.put) ∧ w.cell? ⟨b, o + i * 5 + 1, none⟩ = some (.int .i64 x.v) ∧ w.cell? ⟨b, o + i * 5 + 2, none⟩ = some (.int .i64 x.early) ∧ w.cell? ⟨b, o + i * 5 + 3, none⟩ = some (.int .i64 x.late) ∧
    w.cell? ⟨b, o + i * 5 + 4, none⟩ = some (.bool x.opn) ∧ Hid (ls[i]? = some x) ∧ x ∈ ls := by
  have hl := h.len
  have hi2 : i < ls.length := by omega
  obtain ⟨b, o, hA, hb, hc⟩ := Rd.at_ h (by omega)
  have key : ∀ j, j < 5 → w.cell? ⟨b, o + i * 5 + j, none⟩ = (dlV ls[i])[j]? := fun j hj => by
    rw [Nat.add_assoc, hc _ (by omega), flatMap_at dlV_len ls i j _ (List.getElem?_eq_getElem hi2) hj]
  exact ⟨b, o, ls[i], hA, hb, key 0 (by omega), key 1 (by omega), key 2 (by omega), key 3 (by omega), key 4 (by omega), List.getElem?_eq_getElem hi2, List.getElem_mem hi2⟩
end
def inA (a : Ac) : Prop := inW a.b ∧ inW a.e ∧ inW a.v ∧ inW a.add
def inD (a : Dl) : Prop := inW a.v ∧ inW a.early ∧ inW a.late
section
variable {H : Type} {enc : TypeId × Value → H} {P : Program} {W : World}
/-- A slice of operations that came in. -/
theorem open_RA {t e i y : TypeId} {f0 f1 f2 f3 f4 : Field} {a : Option Addr} {len cap : Nat} {d : DataW H} {p : List MemPlace} (ht : P.underlying t = some (.slice e)) (he : P.underlying e = some (.struct #[f0, f1, f2, f3, f4])) (hc : P.cellsOf e = 5)
    (hi : P.underlying i = some (.int .i64)) (hci : P.cellsOf i = 1) (hy : P.underlying y = some .bool) (hcy : P.cellsOf y = 1) (hf : [f0, f1, f2, f3, f4].map (fun f => (f.type, f.offset)) = [(i, 0), (i, 1), (y, 2), (i, 3), (i, 4)])
    (h : DataW.Trod enc P W 0 (fun _ => true) true t (.slice a len cap) d p) :
    ∃ fs : List Ac, RA W W.heap.size a len fs ∧ (∀ f ∈ fs, inA f) ∧ len ≤ cap ∧ ((len = 0 ∧ d = .nil) ∨ ∃ el sp, d = .slice el sp ∧ el.length = len) := by
  obtain ⟨rows, hr, hl, hrow, hlc, hd⟩ := open_rows ht hc (by decide) h
  simp only [List.map_cons, List.map_nil, List.cons.injEq, Prod.mk.injEq, and_true] at hf
  obtain ⟨⟨e0, o0⟩, ⟨e1, o1⟩, ⟨e2, o2⟩, ⟨e3, o3⟩, e4, o4⟩ := hf
  obtain ⟨fs, rfl, hp⟩ := map_of (f := acV) (p := inA) rows (by
      intro r hr
      obtain ⟨hlr, y', n, hy'⟩ := hrow r hr
      obtain ⟨xs, m, _, _, hlen, hlx, hfx⟩ := DataW.trod_struct he hy'
      have hjx : ∀ (j : Nat) (f : Field), #[f0, f1, f2, f3, f4][j]? = some f → j < xs.length := fun j f hj => by
        have := (Array.getElem?_eq_some_iff.1 hj).1
        simp at this hlx; omega
      have g : ∀ (j : Nat) (f : Field), #[f0, f1, f2, f3, f4][j]? = some f → f.type = i → ∃ v, (r.drop f.offset).take 1 = [.int .i64 v] ∧ inW v := by
        intro j f hj hfi
        have h0 := hfx j f hj
        rw [List.getElem?_eq_getElem (hjx j f hj), hfi, hci] at h0
        obtain ⟨u, hu, _, wu⟩ := DataW.trod_int hi h0
        exact ⟨u, hu, bounds_i64 wu⟩
      have gb : ∀ (j : Nat) (f : Field), #[f0, f1, f2, f3, f4][j]? = some f → f.type = y → ∃ v, (r.drop f.offset).take 1 = [.bool v] := by
        intro j f hj hfi
        have h0 := hfx j f hj
        rw [List.getElem?_eq_getElem (hjx j f hj), hfi, hcy] at h0
        obtain ⟨u, hu, _⟩ := DataW.trod_bool hy h0
        exact ⟨u, hu⟩
      obtain ⟨v0, h0, w0⟩ := g 0 f0 rfl e0
      obtain ⟨v1, h1, w1⟩ := g 1 f1 rfl e1
      obtain ⟨v2, h2⟩ := gb 2 f2 rfl e2
      obtain ⟨v3, h3, w3⟩ := g 3 f3 rfl e3
      obtain ⟨v4, h4, w4⟩ := g 4 f4 rfl e4
      rw [o0] at h0; rw [o1] at h1; rw [o2] at h2; rw [o3] at h3; rw [o4] at h4
      match r, hlr with
      | [c0, c1, c2, c3, c4], _ =>
        simp at h0 h1 h2 h3 h4
        exact ⟨⟨v0, v1, v2, v3, v4⟩, by simp [acV, h0, h1, h2, h3, h4], w0, w1, w3, w4⟩)
  refine ⟨fs, ?_, hp, hlc, hd⟩
  have : fs.flatMap acV = (fs.map acV).flatten := by simp [List.flatMap]
  unfold RA
  rw [this]
  exact hr
/-- A slice of deals that came in. -/
theorem open_RD {t e i y : TypeId} {f0 f1 f2 f3 f4 : Field} {a : Option Addr} {len cap : Nat} {d : DataW H} {p : List MemPlace} (ht : P.underlying t = some (.slice e)) (he : P.underlying e = some (.struct #[f0, f1, f2, f3, f4])) (hc : P.cellsOf e = 5)
    (hi : P.underlying i = some (.int .i64)) (hci : P.cellsOf i = 1) (hy : P.underlying y = some .bool) (hcy : P.cellsOf y = 1) (hf : [f0, f1, f2, f3, f4].map (fun f => (f.type, f.offset)) = [(y, 0), (i, 1), (i, 2), (i, 3), (y, 4)])
    (h : DataW.Trod enc P W 0 (fun _ => true) true t (.slice a len cap) d p) :
    ∃ fs : List Dl, RD W W.heap.size a len fs ∧ (∀ f ∈ fs, inD f) ∧ len ≤ cap ∧ ((len = 0 ∧ d = .nil) ∨ ∃ el sp, d = .slice el sp ∧ el.length = len) := by
  obtain ⟨rows, hr, hl, hrow, hlc, hd⟩ := open_rows ht hc (by decide) h
  simp only [List.map_cons, List.map_nil, List.cons.injEq, Prod.mk.injEq, and_true] at hf
  obtain ⟨⟨e0, o0⟩, ⟨e1, o1⟩, ⟨e2, o2⟩, ⟨e3, o3⟩, e4, o4⟩ := hf
  obtain ⟨fs, rfl, hp⟩ := map_of (f := dlV) (p := inD) rows (by
      intro r hr
      obtain ⟨hlr, y', n, hy'⟩ := hrow r hr
      obtain ⟨xs, m, _, _, hlen, hlx, hfx⟩ := DataW.trod_struct he hy'
      have hjx : ∀ (j : Nat) (f : Field), #[f0, f1, f2, f3, f4][j]? = some f → j < xs.length := fun j f hj => by
        have := (Array.getElem?_eq_some_iff.1 hj).1
        simp at this hlx; omega
      have g : ∀ (j : Nat) (f : Field), #[f0, f1, f2, f3, f4][j]? = some f → f.type = i → ∃ v, (r.drop f.offset).take 1 = [.int .i64 v] ∧ inW v := by
        intro j f hj hfi
        have h0 := hfx j f hj
        rw [List.getElem?_eq_getElem (hjx j f hj), hfi, hci] at h0
        obtain ⟨u, hu, _, wu⟩ := DataW.trod_int hi h0
        exact ⟨u, hu, bounds_i64 wu⟩
      have gb : ∀ (j : Nat) (f : Field), #[f0, f1, f2, f3, f4][j]? = some f → f.type = y → ∃ v, (r.drop f.offset).take 1 = [.bool v] := by
        intro j f hj hfi
        have h0 := hfx j f hj
        rw [List.getElem?_eq_getElem (hjx j f hj), hfi, hcy] at h0
        obtain ⟨u, hu, _⟩ := DataW.trod_bool hy h0
        exact ⟨u, hu⟩
      obtain ⟨v0, h0⟩ := gb 0 f0 rfl e0
      obtain ⟨v1, h1, w1⟩ := g 1 f1 rfl e1
      obtain ⟨v2, h2, w2⟩ := g 2 f2 rfl e2
      obtain ⟨v3, h3, w3⟩ := g 3 f3 rfl e3
      obtain ⟨v4, h4⟩ := gb 4 f4 rfl e4
      rw [o0] at h0; rw [o1] at h1; rw [o2] at h2; rw [o3] at h3; rw [o4] at h4
      match r, hlr with
      | [c0, c1, c2, c3, c4], _ =>
        simp at h0 h1 h2 h3 h4
        exact ⟨⟨v0, v1, v2, v3, v4⟩, by simp [dlV, h0, h1, h2, h3, h4], w1, w2, w3⟩)
  refine ⟨fs, ?_, hp, hlc, hd⟩
  have : fs.flatMap dlV = (fs.map dlV).flatten := by simp [List.flatMap]
  unfold RD
  rw [this]
  exact hr
end
end Go.Baro
