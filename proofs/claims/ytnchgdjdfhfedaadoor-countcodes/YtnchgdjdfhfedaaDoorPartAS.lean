/- Of this claim's own texts these, one behind the other: LibA, LibE. No statement of the seat is proved here; no condition but those that stand at the theorems. -/
import Derived.Test.YtnchgdjdfhfedaaDoorPartAE
import Derived.Test.YtnchgdjdfhfedaaDoorPartAR
import Derived.Test.YtnchgdjdfhfedaaDoorPartAH
import Derived.Test.YtnchgdjdfhfedaaDoorPartAG
set_option linter.unusedSimpArgs false
set_option linter.unusedVariables false
namespace Go.Baro
open Go.ChangeShapes Go.WideShapes Go.ChangeAt Go.RowKit

theorem flatMap_at {α : Type} {s : Nat} {f : α → List Value} (hf : ∀ x, (f x).length = s) : ∀ (ls : List α) (i j : Nat) (x : α), ls[i]? = some x → j < s → (ls.flatMap f)[i * s + j]? = (f x)[j]?
  | [], i, j, x, h, _ => by simp at h
  | y :: ls, 0, j, x, h, hj => by
    simp only [List.getElem?_cons_zero, Option.some.injEq] at h
    subst h
    rw [List.flatMap_cons, Nat.zero_mul, Nat.zero_add, List.getElem?_append_left (by rw [hf]; exact hj)]
  | y :: ls, i + 1, j, x, h, hj => by
    rw [List.flatMap_cons, List.getElem?_append_right (by rw [hf, Nat.succ_mul]; omega), hf, show (i + 1) * s + j - s = i * s + j by rw [Nat.succ_mul]; omega]
    exact flatMap_at hf ls i j x (by simpa using h) hj
theorem flatMap_len {α : Type} {s : Nat} {f : α → List Value} (hf : ∀ x, (f x).length = s) : ∀ (ls : List α), (ls.flatMap f).length = ls.length * s
  | [] => by simp
  | y :: ls => by rw [List.flatMap_cons, List.length_append, hf, flatMap_len hf ls, List.length_cons, Nat.succ_mul]; omega
/-- The cells of an operation, of a deal. -/
def acV (a : Ac) : List Value := [.int .i64 a.b, .int .i64 a.e, .bool a.put, .int .i64 a.v, .int .i64 a.add]
def dlV (a : Dl) : List Value := [.bool a.put, .int .i64 a.v, .int .i64 a.early, .int .i64 a.late, .bool a.opn]
theorem acV_len (a : Ac) : (acV a).length = 5 := rfl
theorem dlV_len (a : Dl) : (dlV a).length = 5 := rfl
def RA (w : World) (B : Nat) (A : Option Addr) (n : Nat) (ls : List Ac) : Prop := Rd w B 5 A n (ls.flatMap acV)
def RD (w : World) (B : Nat) (A : Option Addr) (n : Nat) (ls : List Dl) : Prop := Rd w B 5 A n (ls.flatMap dlV)
section
variable {w w' : World} {B B' n : Nat} {A : Option Addr}
theorem RA.below {ls : List Ac} (h : RA w B A n ls) (hb : Below B w w') : RA w' B A n ls := Rd.below h hb
theorem RA.more {ls : List Ac} (h : RA w B A n ls) (hB : B ≤ B') : RA w B' A n ls := Rd.more h hB
theorem RD.below {ls : List Dl} (h : RD w B A n ls) (hb : Below B w w') : RD w' B A n ls := Rd.below h hb
theorem RD.more {ls : List Dl} (h : RD w B A n ls) (hB : B ≤ B') : RD w B' A n ls := Rd.more h hB
theorem RA.len {ls : List Ac} (h : RA w B A n ls) : ls.length = n := by have := Rd.len h; rw [flatMap_len acV_len] at this; omega
theorem RD.len {ls : List Dl} (h : RD w B A n ls) : ls.length = n := by have := Rd.len h; rw [flatMap_len dlV_len] at this; omega
theorem RA.val {ls : List Ac} (h : RA w B A n ls) {i : Nat} (hi : i < n) : ∃ b o x, A = some ⟨b, o, none⟩ ∧ b < B ∧ w.cell? ⟨b, o + i * 5, none⟩ = some (.int .i64 x.b) ∧ w.cell? ⟨b, o + i * 5 + 1, none⟩ = some (.int .i64 x.e) ∧ w.cell? ⟨b, o + i * 5 + 2, none⟩ = some (.bool x.put) ∧ w.cell? ⟨b, o + i * 5 + 3, none⟩ = some (.int .i64 x.v) ∧
    w.cell? ⟨b, o + i * 5 + 4, none⟩ = some (.int .i64 x.add) ∧ Hid (ls[i]? = some x) ∧ x ∈ ls := by
  have hl := h.len
  have hi2 : i < ls.length := by omega
  obtain ⟨b, o, hA, hb, hc⟩ := Rd.at_ h (by omega)
  have key : ∀ j, j < 5 → w.cell? ⟨b, o + i * 5 + j, none⟩ = (acV ls[i])[j]? := fun j hj => by
    rw [Nat.add_assoc, hc _ (by omega), flatMap_at acV_len ls i j _ (List.getElem?_eq_getElem hi2) hj]
  exact ⟨b, o, ls[i], hA, hb, key 0 (by omega), key 1 (by omega), key 2 (by omega), key 3 (by omega), key 4 (by omega), List.getElem?_eq_getElem hi2, List.getElem_mem hi2⟩
theorem RD.val {ls : List Dl} (h : RD w B A n ls) {i : Nat} (hi : i < n) : ∃ b o x, A = some ⟨b, o, none⟩ ∧ b < B ∧ w.cell? ⟨b, o + i * 5, none⟩ = some (.bool x.put) ∧ w.cell? ⟨b, o + i * 5 + 1, none⟩ = some (.int .i64 x.v) ∧ w.cell? ⟨b, o + i * 5 + 2, none⟩ = some (.int .i64 x.early) ∧ w.cell? ⟨b, o + i * 5 + 3, none⟩ = some (.int .i64 x.late) ∧
    w.cell? ⟨b, o + i * 5 + 4, none⟩ = some (.bool x.opn) ∧ Hid (ls[i]? = some x) ∧ x ∈ ls := by
  have hl := h.len
  have hi2 : i < ls.length := by omega
  obtain ⟨b, o, hA, hb, hc⟩ := Rd.at_ h (by omega)
  have key : ∀ j, j < 5 → w.cell? ⟨b, o + i * 5 + j, none⟩ = (dlV ls[i])[j]? := fun j hj => by
    rw [Nat.add_assoc, hc _ (by omega), flatMap_at dlV_len ls i j _ (List.getElem?_eq_getElem hi2) hj]
  exact ⟨b, o, ls[i], hA, hb, key 0 (by omega), key 1 (by omega), key 2 (by omega), key 3 (by omega), key 4 (by omega), List.getElem?_eq_getElem hi2, List.getElem_mem hi2⟩
end
def inA (a : Ac) : Prop := inW a.b ∧ inW a.e ∧ inW a.v ∧ inW a.add
def inD (a : Dl) : Prop := inW a.v ∧ inW a.early ∧ inW a.late
section
variable {H : Type} {enc : TypeId × Value → H} {P : Program} {W : World}
/-- A slice of operations that came in. -/
theorem open_RA {t e i y : TypeId} {f0 f1 f2 f3 f4 : Field} {a : Option Addr} {len cap : Nat} {d : DataW H} {p : List MemPlace} (ht : P.underlying t = some (.slice e)) (he : P.underlying e = some (.struct #[f0, f1, f2, f3, f4])) (hc : P.cellsOf e = 5)
    (hi : P.underlying i = some (.int .i64)) (hci : P.cellsOf i = 1) (hy : P.underlying y = some .bool) (hcy : P.cellsOf y = 1) (hf : [f0, f1, f2, f3, f4].map (fun f => (f.type, f.offset)) = [(i, 0), (i, 1), (y, 2), (i, 3), (i, 4)])
    (h : DataW.Trod enc P W 0 (fun _ => true) true t (.slice a len cap) d p) :
    ∃ fs : List Ac, RA W W.heap.size a len fs ∧ (∀ f ∈ fs, inA f) ∧ len ≤ cap ∧ ((len = 0 ∧ d = .nil) ∨ ∃ el sp, d = .slice el sp ∧ el.length = len) := by
  obtain ⟨rows, hr, hl, hrow, hlc, hd⟩ := open_rows ht hc (by decide) h
  simp only [List.map_cons, List.map_nil, List.cons.injEq, Prod.mk.injEq, and_true] at hf
  obtain ⟨⟨e0, o0⟩, ⟨e1, o1⟩, ⟨e2, o2⟩, ⟨e3, o3⟩, e4, o4⟩ := hf
  obtain ⟨fs, rfl, hp⟩ := map_of (f := acV) (p := inA) rows (by
      intro r hr
      obtain ⟨hlr, y', n, hy'⟩ := hrow r hr
      obtain ⟨xs, m, _, _, hlen, hlx, hfx⟩ := DataW.trod_struct he hy'
      have hjx : ∀ (j : Nat) (f : Field), #[f0, f1, f2, f3, f4][j]? = some f → j < xs.length := fun j f hj => by
        have := (Array.getElem?_eq_some_iff.1 hj).1
        simp at this hlx; omega
      have g : ∀ (j : Nat) (f : Field), #[f0, f1, f2, f3, f4][j]? = some f → f.type = i → ∃ v, (r.drop f.offset).take 1 = [.int .i64 v] ∧ inW v := by
        intro j f hj hfi
        have h0 := hfx j f hj
        rw [List.getElem?_eq_getElem (hjx j f hj), hfi, hci] at h0
        obtain ⟨u, hu, _, wu⟩ := DataW.trod_int hi h0
        exact ⟨u, hu, bounds_i64 wu⟩
      have gb : ∀ (j : Nat) (f : Field), #[f0, f1, f2, f3, f4][j]? = some f → f.type = y → ∃ v, (r.drop f.offset).take 1 = [.bool v] := by
        intro j f hj hfi
        have h0 := hfx j f hj
        rw [List.getElem?_eq_getElem (hjx j f hj), hfi, hcy] at h0
        obtain ⟨u, hu, _⟩ := DataW.trod_bool hy h0
        exact ⟨u, hu⟩
      obtain ⟨v0, h0, w0⟩ := g 0 f0 rfl e0
      obtain ⟨v1, h1, w1⟩ := g 1 f1 rfl e1
      obtain ⟨v2, h2⟩ := gb 2 f2 rfl e2
      obtain ⟨v3, h3, w3⟩ := g 3 f3 rfl e3
      obtain ⟨v4, h4, w4⟩ := g 4 f4 rfl e4
      rw [o0] at h0; rw [o1] at h1; rw [o2] at h2; rw [o3] at h3; rw [o4] at h4
      match r, hlr with
      | [c0, c1, c2, c3, c4], _ =>
        simp at h0 h1 h2 h3 h4
        exact ⟨⟨v0, v1, v2, v3, v4⟩, by simp [acV, h0, h1, h2, h3, h4], w0, w1, w3, w4⟩)
  refine ⟨fs, ?_, hp, hlc, hd⟩
  have : fs.flatMap acV = (fs.map acV).flatten := by simp [List.flatMap]
  unfold RA
  rw [this]
  exact hr
/-- A slice of deals that came in. -/
theorem open_RD {t e i y : TypeId} {f0 f1 f2 f3 f4 : Field} {a : Option Addr} {len cap : Nat} {d : DataW H} {p : List MemPlace} (ht : P.underlying t = some (.slice e)) (he : P.underlying e = some (.struct #[f0, f1, f2, f3, f4])) (hc : P.cellsOf e = 5)
    (hi : P.underlying i = some (.int .i64)) (hci : P.cellsOf i = 1) (hy : P.underlying y = some .bool) (hcy : P.cellsOf y = 1) (hf : [f0, f1, f2, f3, f4].map (fun f => (f.type, f.offset)) = [(y, 0), (i, 1), (i, 2), (i, 3), (y, 4)])
    (h : DataW.Trod enc P W 0 (fun _ => true) true t (.slice a len cap) d p) :
    ∃ fs : List Dl, RD W W.heap.size a len fs ∧ (∀ f ∈ fs, inD f) ∧ len ≤ cap ∧ ((len = 0 ∧ d = .nil) ∨ ∃ el sp, d = .slice el sp ∧ el.length = len) := by
  obtain ⟨rows, hr, hl, hrow, hlc, hd⟩ := open_rows ht hc (by decide) h
  simp only [List.map_cons, List.map_nil, List.cons.injEq, Prod.mk.injEq, and_true] at hf
  obtain ⟨⟨e0, o0⟩, ⟨e1, o1⟩, ⟨e2, o2⟩, ⟨e3, o3⟩, e4, o4⟩ := hf
  obtain ⟨fs, rfl, hp⟩ := map_of (f := dlV) (p := inD) rows (by
      intro r hr
      obtain ⟨hlr, y', n, hy'⟩ := hrow r hr
      obtain ⟨xs, m, _, _, hlen, hlx, hfx⟩ := DataW.trod_struct he hy'
      have hjx : ∀ (j : Nat) (f : Field), #[f0, f1, f2, f3, f4][j]? = some f → j < xs.length := fun j f hj => by
        have := (Array.getElem?_eq_some_iff.1 hj).1
        simp at this hlx; omega
      have g : ∀ (j : Nat) (f : Field), #[f0, f1, f2, f3, f4][j]? = some f → f.type = i → ∃ v, (r.drop f.offset).take 1 = [.int .i64 v] ∧ inW v := by
        intro j f hj hfi
        have h0 := hfx j f hj
        rw [List.getElem?_eq_getElem (hjx j f hj), hfi, hci] at h0
        obtain ⟨u, hu, _, wu⟩ := DataW.trod_int hi h0
        exact ⟨u, hu, bounds_i64 wu⟩
      have gb : ∀ (j : Nat) (f : Field), #[f0, f1, f2, f3, f4][j]? = some f → f.type = y → ∃ v, (r.drop f.offset).take 1 = [.bool v] := by
        intro j f hj hfi
        have h0 := hfx j f hj
        rw [List.getElem?_eq_getElem (hjx j f hj), hfi, hcy] at h0
        obtain ⟨u, hu, _⟩ := DataW.trod_bool hy h0
        exact ⟨u, hu⟩
      obtain ⟨v0, h0⟩ := gb 0 f0 rfl e0
      obtain ⟨v1, h1, w1⟩ := g 1 f1 rfl e1
      obtain ⟨v2, h2, w2⟩ := g 2 f2 rfl e2
      obtain ⟨v3, h3, w3⟩ := g 3 f3 rfl e3
      obtain ⟨v4, h4⟩ := gb 4 f4 rfl e4
      rw [o0] at h0; rw [o1] at h1; rw [o2] at h2; rw [o3] at h3; rw [o4] at h4
      match r, hlr with
      | [c0, c1, c2, c3, c4], _ =>
        simp at h0 h1 h2 h3 h4
        exact ⟨⟨v0, v1, v2, v3, v4⟩, by simp [dlV, h0, h1, h2, h3, h4], w1, w2, w3⟩)
  refine ⟨fs, ?_, hp, hlc, hd⟩
  have : fs.flatMap dlV = (fs.map dlV).flatten := by simp [List.flatMap]
  unfold RD
  rw [this]
  exact hr
end
end Go.Baro

set_option linter.unusedSimpArgs false
set_option linter.unusedVariables false
namespace Go.Baro
open Go.RowKit

section
variable {P : Program} {t e : TypeId} {z : Value} {s by' : Nat} {ops : Array Oper} {rest : List Oper} {o : Oper} {a : Act} {Q : Exit → Act → World → Prop}
/-- append(v, x..) where x is a row that was written out just ahead of it; which block the new row lies in. -/
theorem app_litB (E : Elt P t e z s by') (w : World) (hgd : o.guard = none) (l x : Operand) (ho : o.op = .call { callee := .builtin .append, args := #[l, x], argTypes := #[t, t] })
    (base : Nat) (v : Value) (n : Nat) (xs : List Value) (hs : a.eval l = v) (hown : w.ownsRow base e s v n xs) (m : Nat) (cs : List Value)
    (g : Nat) (hg : g = w.heap.size) (hx : a.eval x = .slice (some ⟨g, 0, none⟩) m m) (hl : cs.length = m * s) (h1 : ∀ u ∈ cs, u.oneCell' = true) (hn : (n + m) * by' ≤ 140737488355328) (hn' : n + m ≤ 140737488355328) (hb : base ≤ w.heap.size)
    (h : ∀ v' w', w'.ownsRow base e s v' (n + m) (xs ++ cs) → (w.alloc (.cells cs.toArray e)).grownBy w' v.ownBlock → (v'.ownBlock = v.ownBlock ∨ v'.ownBlock = some (w.heap.size + 1)) → wpList P ops Q rest (a.put o.dst v') w') :
    wpList P ops Q (o :: rest) a (w.alloc (.cells cs.toArray e)) := by
  subst hg
  refine app_srcB E (w.alloc (.cells cs.toArray e)) hgd l x ho base v n xs hs (hown.alloc _) _ m m cs hx _ (Rd.lit w e hl) h1 hn hn' (by simp; omega) ?_
  intro v' w' h1 h2 _ _ h3
  refine h v' w' h1 h2 ?_
  rw [show (w.alloc (.cells cs.toArray e)).heap.size = w.heap.size + 1 by simp] at h3
  exact h3
theorem app_litBd (E : Elt P t e z s by') (w : World) (hgd : o.guard = none) (l x : Operand) (ho : o.op = .call { callee := .builtin .append, args := #[l, x], argTypes := #[t, t] })
    (base : Nat) (v : Value) (n : Nat) (xs : List Value) (hs : a.eval l = v) (hown : w.ownsRow base e s v n xs) (m : Nat) (cs : List Value)
    (g : Nat) (hg : g = w.heap.size) (hx : a.eval x = .slice (some ⟨g, 0, none⟩) m m) (hl : cs.length = m * s) (h1 : ∀ u ∈ cs, u.oneCell' = true) (hn : (n + m) * by' ≤ 140737488355328) (hn' : n + m ≤ 140737488355328) (hb : base ≤ w.heap.size)
    (h : ∀ v' w', w'.ownsRow base e s v' (n + m) (xs ++ cs) → (w.alloc (.cells cs.toArray e)).grownBy w' v.ownBlock → (v'.ownBlock = v.ownBlock ∨ v'.ownBlock = some (w.heap.size + 1)) → wpList P ops Q rest (a.put o.dst v') w') :
    wpList P ops Q (o :: rest) a (w.alloc (.cells cs.toArray e)).drew :=
  app_litB E w.drew hgd l x ho base v n xs hs hown m cs g hg hx hl h1 hn hn' hb fun v' w' h1 h2 h3 => h v' w' h1 ⟨h2.os, h2.tape, h2.output, h2.size, h2.block⟩ h3
end

/-- The six cells of an event. -/
def evC (x : Ev) (v : Value) : List Value := [.int .i64 x.st, .int .i64 x.th, .int .i64 x.cl, .bool x.en, .int .i64 x.er, v]
/-- Six cells that are an event. -/
def eE (w : World) (B : Nat) (r : List Value) (x : Ev) : Prop := ∃ A n k, r = evC x (.slice A n k) ∧ n ≤ k ∧ n ≤ 200 ∧ RI w B .i64 A n x.to
def REv (w : World) (B : Nat) (A : Option Addr) (n : Nat) (ls : List Ev) : Prop := RG 6 eE w B A n ls
section
variable {w w' : World} {B B' n : Nat} {A : Option Addr} {ls : List Ev}
theorem eE.below {r : List Value} {x : Ev} (h : eE w B r x) (hb : Below B w w') : eE w' B r x := by obtain ⟨A, n, k, h1, h2, h3, h4⟩ := h; exact ⟨A, n, k, h1, h2, h3, h4.below hb⟩
theorem eE.more {r : List Value} {x : Ev} (h : eE w B r x) (hB : B ≤ B') : eE w B' r x := by obtain ⟨A, n, k, h1, h2, h3, h4⟩ := h; exact ⟨A, n, k, h1, h2, h3, h4.more hB⟩
theorem REv.below (h : REv w B A n ls) (hb : Below B w w') : REv w' B A n ls := RG.keep h rfl (fun _ h => h.below hb) (fun _ _ h => eE.below h hb)
theorem REv.more (h : REv w B A n ls) (hB : B ≤ B') : REv w B' A n ls := RG.keep h rfl (fun _ h => h.more hB) (fun _ _ h => eE.more h hB)
theorem REv.len (h : REv w B A n ls) : ls.length = n := RG.len h (by decide)
theorem REv.val (h : REv w B A n ls) {i : Nat} (hi : i < n) : ∃ b o A' n' k x, A = some ⟨b, o, none⟩ ∧ b < B ∧ w.cell? ⟨b, o + i * 6, none⟩ = some (.int .i64 x.st) ∧ w.cell? ⟨b, o + i * 6 + 1, none⟩ = some (.int .i64 x.th) ∧ w.cell? ⟨b, o + i * 6 + 2, none⟩ = some (.int .i64 x.cl) ∧
    w.cell? ⟨b, o + i * 6 + 3, none⟩ = some (.bool x.en) ∧ w.cell? ⟨b, o + i * 6 + 4, none⟩ = some (.int .i64 x.er) ∧ w.cell? ⟨b, o + i * 6 + 5, none⟩ = some (.slice A' n' k) ∧ n' ≤ k ∧ n' ≤ 200 ∧ RI w B .i64 A' n' x.to ∧ Hid (ls[i]? = some x) ∧ x ∈ ls := by
  obtain ⟨b, o, r, x, h1, h2, h3, ⟨A', n', k, rfl, h4, h5, h8⟩, h6, h7⟩ := RG.val h (by decide) hi
  exact ⟨b, o, A', n', k, x, h1, h2, h3 0 (by decide), h3 1 (by decide), h3 2 (by decide), h3 3 (by decide), h3 4 (by decide), h3 5 (by decide), h4, h5, h8, h6, h7⟩
theorem REv.nil (w : World) (B : Nat) : REv w B none 0 [] := ⟨[], rfl, by simp, ⟨by simp, fun h => absurd h (by omega)⟩, fun i r x h => by simp at h⟩
end
/-- An event of the call's own: what it tells lies in blocks of P. -/
def eP (P : Nat → Prop) (w : World) (r : List Value) (x : Ev) : Prop := ∃ A n k, r = evC x (.slice A n k) ∧ n ≤ k ∧ n ≤ 200 ∧ RI w w.heap.size .i64 A n x.to ∧ (0 < n → ∀ b o, A = some ⟨b, o, none⟩ → P b)
/-- The events so far: a row of the call's own. -/
def Er (P : Nat → Prop) (w : World) (B : Nat) (e : TypeId) (ov : Value) (ls : List Ev) : Prop :=
  ∃ rows : List (List Value), rows.length = ls.length ∧ (∀ r ∈ rows, r.length = 6) ∧ w.ownsRow B e 6 ov ls.length rows.flatten ∧ ∀ (i : Nat) r x, rows[i]? = some r → ls[i]? = some x → eP P w r x
section
variable {P X : Nat → Prop} {w w' : World} {B : Nat} {e : TypeId} {ov : Value} {ls : List Ev}
theorem eP.un {r : List Value} {x : Ev} (h : eP P w r x) (hu : Un X w w') (hP : ∀ b, P b → ¬ X b) : eP P w' r x := by
  obtain ⟨A, n, k, h1, h2, h3, h4, h5⟩ := h
  exact ⟨A, n, k, h1, h2, h3, Rd.more (Rd.un h4 hu (Nat.le_refl _) (fun h0 b o hA => hP b (h5 h0 b o hA))) hu.size, h5⟩
theorem Er.nil (P : Nat → Prop) (w : World) (B : Nat) (e : TypeId) : Er P w B e (.slice none 0 0) [] := ⟨[], rfl, by simp, World.ownsRow_nil _ _ _ _, fun i r x h => by simp at h⟩
theorem Er.un (h : Er P w B e ov ls) (hu : Un X w w') (ho : ∀ k, ov.ownBlock = some k → ¬ X k) (hP : ∀ b, P b → ¬ X b) : Er P w' B e ov ls := by
  obtain ⟨rows, h1, h2, h3, h4⟩ := h
  exact ⟨rows, h1, h2, own_un h3 hu ho, fun i r x hr hx => (h4 i r x hr hx).un hu hP⟩
theorem Er.mono {P' : Nat → Prop} (h : Er P w B e ov ls) (hP : ∀ b, b < w.heap.size → P b → P' b) : Er P' w B e ov ls := by
  obtain ⟨rows, h1, h2, h3, h4⟩ := h
  refine ⟨rows, h1, h2, h3, fun i r x hr hx => ?_⟩
  obtain ⟨A, n, k, q1, q2, q3, q4, q5⟩ := h4 i r x hr hx
  refine ⟨A, n, k, q1, q2, q3, q4, fun h0 b o hA => ?_⟩
  obtain ⟨b', o', hA', hb', _⟩ := Rd.at_ q4 h0
  rw [hA] at hA'
  injection hA' with hA'
  injection hA' with hA' _
  exact hP b (by omega) (q5 h0 b o hA)
/-- One more event. -/
theorem er_snoc {rows : List (List Value)} {r : List Value} {x : Ev} {v' : Value} {n : Nat} (h1 : rows.length = ls.length) (h2 : ∀ r ∈ rows, r.length = 6) (h4 : ∀ (i : Nat) r x, rows[i]? = some r → ls[i]? = some x → eP P w r x)
    (ho : w'.ownsRow B e 6 v' n (rows.flatten ++ r)) (hn : n = ls.length + 1) (hu : Un X w w') (hP : ∀ b, P b → ¬ X b) (hr : eP P w r x) : Er P w' B e v' (ls ++ [x]) := by
  have hr6 : r.length = 6 := by obtain ⟨A, n, k, rfl, _⟩ := hr; rfl
  refine ⟨rows ++ [r], by simp [h1], fun q hq => ?_, ?_, fun i q y hq hy => ?_⟩
  · rcases List.mem_append.1 hq with hq | hq
    · exact h2 q hq
    · rw [List.mem_singleton.1 hq]; exact hr6
  · rw [List.flatten_append, List.length_append, List.length_singleton, ← hn]
    simpa using ho
  · rcases Nat.lt_trichotomy i rows.length with hi | hi | hi
    · rw [List.getElem?_append_left hi] at hq
      rw [List.getElem?_append_left (by omega)] at hy
      exact (h4 i q y hq hy).un hu hP
    · rw [List.getElem?_append_right (by omega), show i - rows.length = 0 by omega] at hq
      rw [List.getElem?_append_right (by omega), show i - ls.length = 0 by omega] at hy
      injection hq with hq
      injection hy with hy
      subst hq hy
      exact hr.un hu hP
    · rw [List.getElem?_eq_none (by simp; omega)] at hq; cases hq
theorem Er.post (h : Er P w B e ov ls) : ∃ A c, ov = .slice A ls.length c ∧ ls.length ≤ c ∧ REv w w.heap.size A ls.length ls := by
  obtain ⟨rows, h1, h2, h3, h4⟩ := h
  obtain ⟨A, c, rfl, hlc⟩ := own_form h3
  refine ⟨A, c, rfl, hlc, rows, h1, h2, Rd.of_own h3, fun i r x hr hx => ?_⟩
  obtain ⟨A, n, k, q1, q2, q3, q4, _⟩ := h4 i r x hr hx
  exact ⟨A, n, k, q1, q2, q3, q4⟩
end
/-- What run.Play leaves. -/
def PlPost (T : List Ev) (W : List Int) (E : Int) (w : World) (e : Ending) (w' : World) : Prop :=
  ∃ A n c A1 n1 c1, e = .returned (.tuple #[.slice A n c, .slice A1 n1 c1, .int .i64 E]) ∧ REv w' w'.heap.size A n T ∧ RI w' w'.heap.size .i64 A1 n1 W ∧ n ≤ c ∧ n1 ≤ c1 ∧ n ≤ 12000 ∧ n1 ≤ 200 ∧ Below w.heap.size w w'
end Go.Baro
