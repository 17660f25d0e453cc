/- Of this claim's own texts these, one behind the other: LibM, OpenM, LibU. No statement of the seat is proved here; no condition but those that stand at the theorems. -/
import Derived.Test.YtjihopbapnfppaaDoorPartAE
import Derived.Test.YtjihopbapnfppaaDoorPartAF
import Derived.Lib.SmallJoins
import Derived.Test.YtjihopbapnfppaaDoorPartAD
set_option linter.unusedSimpArgs false
set_option linter.unusedVariables false
namespace Go.Baro
open Go.RowKit

/-- A slice whose elements, of s cells each, are of a sort R. -/
def RG {α : Type} (s : Nat) (R : World → Nat → List Value → α → Prop) (w : World) (B : Nat) (A : Option Addr) (n : Nat) (ls : List α) : Prop :=
  ∃ rows : List (List Value), rows.length = ls.length ∧ (∀ r ∈ rows, r.length = s) ∧ Rd w B s A n rows.flatten ∧ ∀ (i : Nat) r x, rows[i]? = some r → ls[i]? = some x → R w B r x
theorem flatten_at {α : Type} {s : Nat} : ∀ (rows : List (List α)) (i j : Nat) (r : List α), (∀ r ∈ rows, r.length = s) → rows[i]? = some r → j < s → rows.flatten[i * s + j]? = r[j]?
  | [], i, j, r, _, h, _ => by simp at h
  | q :: rows, i, j, r, hs, h, hj => by
    have hq : q.length = s := hs q (by simp)
    rw [List.flatten_cons]
    cases i with
    | zero => simp at h; subst h; rw [List.getElem?_append_left (by omega)]; simp
    | succ i =>
      have := flatten_at rows i j r (fun r hr => hs r (by simp [hr])) (by simpa using h) hj
      rw [List.getElem?_append_right (by rw [hq, Nat.succ_mul]; omega), ← this, hq]
      congr 1
      rw [Nat.succ_mul]; omega
section
variable {α : Type} {s : Nat} {R : World → Nat → List Value → α → Prop} {w w' : World} {B B' n : Nat} {A : Option Addr} {ls : List α}
theorem flat_len {rows : List (List Value)} (h : ∀ r ∈ rows, r.length = s) : rows.flatten.length = rows.length * s := by
  induction rows with
  | nil => simp
  | cons r rows ih =>
    rw [List.flatten_cons, List.length_append, h r (by simp), ih (fun r hr => h r (by simp [hr])), List.length_cons, Nat.succ_mul]; omega
theorem RG.len (h : RG s R w B A n ls) (hs : 0 < s) : ls.length = n := by
  obtain ⟨rows, h1, h2, h3, _⟩ := h
  have := h3.len
  rw [flat_len h2] at this
  rw [← h1]
  exact Nat.eq_of_mul_eq_mul_right hs this
theorem RG.val (h : RG s R w B A n ls) (hs : 0 < s) {i : Nat} (hi : i < n) : ∃ b o r x, A = some ⟨b, o, none⟩ ∧ b < B ∧ (∀ j, j < s → w.cell? ⟨b, o + i * s + j, none⟩ = r[j]?) ∧ R w B r x ∧ Hid (ls[i]? = some x) ∧ x ∈ ls := by
  have hl := h.len hs
  obtain ⟨rows, h1, h2, h3, h4⟩ := h
  obtain ⟨b, o, hA, hb, hc⟩ := h3.at_ (by omega)
  have hi1 : i < rows.length := by omega
  have hi2 : i < ls.length := by omega
  refine ⟨b, o, rows[i], ls[i], hA, hb, fun j hj => ?_, h4 i _ _ (List.getElem?_eq_getElem hi1) (List.getElem?_eq_getElem hi2), List.getElem?_eq_getElem hi2, List.getElem_mem hi2⟩
  have hij : i * s + j < n * s := by
    have : (i + 1) * s ≤ n * s := Nat.mul_le_mul_right s hi
    rw [Nat.succ_mul] at this
    omega
  rw [Nat.add_assoc, hc _ hij, flatten_at rows i j _ h2 (List.getElem?_eq_getElem hi1) hj]
theorem RG.keep (h : RG s R w B A n ls) (hr : Rd w B s A n = Rd w B s A n) (hd : ∀ cs, Rd w B s A n cs → Rd w' B' s A n cs) (hR : ∀ r x, R w B r x → R w' B' r x) : RG s R w' B' A n ls := by
  obtain ⟨rows, h1, h2, h3, h4⟩ := h
  exact ⟨rows, h1, h2, hd _ h3, fun i r x hr hx => hR r x (h4 i r x hr hx)⟩
end

/-- A cell that is a slice of instructions. -/
def eC (w : World) (B : Nat) (r : List Value) (c : List Ins) : Prop := ∃ A n k, r = [.slice A n k] ∧ n ≤ k ∧ RO w B A n c
/-- Two cells that are a call. -/
def eL (w : World) (B : Nat) (r : List Value) (c : Cl) : Prop := ∃ A n k, r = [.int .i64 c.k, .slice A n k] ∧ n ≤ k ∧ RI w B .i64 A n c.ar
/-- A cell that is a slice of calls. -/
def eT (w : World) (B : Nat) (r : List Value) (t : List Cl) : Prop := ∃ A n k, r = [.slice A n k] ∧ n ≤ k ∧ RG 2 eL w B A n t
section
variable {w w' : World} {B B' n : Nat} {A : Option Addr}
theorem eC.below {r : List Value} {c : List Ins} (h : eC w B r c) (hb : Below B w w') : eC w' B r c := by obtain ⟨A, n, k, h1, h2, h3⟩ := h; exact ⟨A, n, k, h1, h2, h3.below hb⟩
theorem eC.more {r : List Value} {c : List Ins} (h : eC w B r c) (hB : B ≤ B') : eC w B' r c := by obtain ⟨A, n, k, h1, h2, h3⟩ := h; exact ⟨A, n, k, h1, h2, h3.more hB⟩
theorem eL.below {r : List Value} {c : Cl} (h : eL w B r c) (hb : Below B w w') : eL w' B r c := by obtain ⟨A, n, k, h1, h2, h3⟩ := h; exact ⟨A, n, k, h1, h2, h3.below hb⟩
theorem eL.more {r : List Value} {c : Cl} (h : eL w B r c) (hB : B ≤ B') : eL w B' r c := by obtain ⟨A, n, k, h1, h2, h3⟩ := h; exact ⟨A, n, k, h1, h2, h3.more hB⟩
/-- The codes of a machine. -/
def RCs (w : World) (B : Nat) (A : Option Addr) (n : Nat) (ls : List (List Ins)) : Prop := RG 1 eC w B A n ls
/-- The calls of a thread. -/
def RLs (w : World) (B : Nat) (A : Option Addr) (n : Nat) (ls : List Cl) : Prop := RG 2 eL w B A n ls
/-- The threads of a machine. -/
def RTs (w : World) (B : Nat) (A : Option Addr) (n : Nat) (ls : List (List Cl)) : Prop := RG 1 eT w B A n ls
theorem RCs.below {ls : List (List Ins)} (h : RCs w B A n ls) (hb : Below B w w') : RCs w' B A n ls := RG.keep h rfl (fun _ h => h.below hb) (fun _ _ h => eC.below h hb)
theorem RCs.more {ls : List (List Ins)} (h : RCs w B A n ls) (hB : B ≤ B') : RCs w B' A n ls := RG.keep h rfl (fun _ h => h.more hB) (fun _ _ h => eC.more h hB)
theorem RLs.below {ls : List Cl} (h : RLs w B A n ls) (hb : Below B w w') : RLs w' B A n ls := RG.keep h rfl (fun _ h => h.below hb) (fun _ _ h => eL.below h hb)
theorem RLs.more {ls : List Cl} (h : RLs w B A n ls) (hB : B ≤ B') : RLs w B' A n ls := RG.keep h rfl (fun _ h => h.more hB) (fun _ _ h => eL.more h hB)
theorem eT.below {r : List Value} {t : List Cl} (h : eT w B r t) (hb : Below B w w') : eT w' B r t := by obtain ⟨A, n, k, h1, h2, h3⟩ := h; exact ⟨A, n, k, h1, h2, RLs.below h3 hb⟩
theorem eT.more {r : List Value} {t : List Cl} (h : eT w B r t) (hB : B ≤ B') : eT w B' r t := by obtain ⟨A, n, k, h1, h2, h3⟩ := h; exact ⟨A, n, k, h1, h2, RLs.more h3 hB⟩
theorem RTs.below {ls : List (List Cl)} (h : RTs w B A n ls) (hb : Below B w w') : RTs w' B A n ls := RG.keep h rfl (fun _ h => h.below hb) (fun _ _ h => eT.below h hb)
theorem RTs.more {ls : List (List Cl)} (h : RTs w B A n ls) (hB : B ≤ B') : RTs w B' A n ls := RG.keep h rfl (fun _ h => h.more hB) (fun _ _ h => eT.more h hB)
theorem RCs.len {ls : List (List Ins)} (h : RCs w B A n ls) : ls.length = n := RG.len h (by decide)
theorem RLs.len {ls : List Cl} (h : RLs w B A n ls) : ls.length = n := RG.len h (by decide)
theorem RTs.len {ls : List (List Cl)} (h : RTs w B A n ls) : ls.length = n := RG.len h (by decide)
theorem RCs.val {ls : List (List Ins)} (h : RCs w B A n ls) {i : Nat} (hi : i < n) : ∃ b o A' n' k c, A = some ⟨b, o, none⟩ ∧ b < B ∧ w.cell? ⟨b, o + i, none⟩ = some (.slice A' n' k) ∧ n' ≤ k ∧ RO w B A' n' c ∧ Hid (ls[i]? = some c) ∧ c ∈ ls := by
  obtain ⟨b, o, r, x, h1, h2, h3, ⟨A', n', k, rfl, h4, h5⟩, h6, h7⟩ := RG.val h (by decide) hi
  have := h3 0 (by decide)
  rw [Nat.mul_one, Nat.add_zero] at this
  exact ⟨b, o, A', n', k, x, h1, h2, this, h4, h5, h6, h7⟩
theorem RLs.val {ls : List Cl} (h : RLs w B A n ls) {i : Nat} (hi : i < n) : ∃ b o q A' n' k ar, A = some ⟨b, o, none⟩ ∧ b < B ∧ w.cell? ⟨b, o + i * 2, none⟩ = some (.int .i64 q) ∧ w.cell? ⟨b, o + i * 2 + 1, none⟩ = some (.slice A' n' k) ∧ n' ≤ k ∧ RI w B .i64 A' n' ar ∧ Hid (ls[i]? = some ⟨q, ar⟩) ∧ Cl.mk q ar ∈ ls := by
  obtain ⟨b, o, r, x, h1, h2, h3, ⟨A', n', k, rfl, h4, h5⟩, h6, h7⟩ := RG.val h (by decide) hi
  exact ⟨b, o, x.k, A', n', k, x.ar, h1, h2, h3 0 (by decide), h3 1 (by decide), h4, h5, h6, h7⟩
theorem RTs.val {ls : List (List Cl)} (h : RTs w B A n ls) {i : Nat} (hi : i < n) : ∃ b o A' n' k t, A = some ⟨b, o, none⟩ ∧ b < B ∧ w.cell? ⟨b, o + i, none⟩ = some (.slice A' n' k) ∧ n' ≤ k ∧ RLs w B A' n' t ∧ Hid (ls[i]? = some t) ∧ t ∈ ls := by
  obtain ⟨b, o, r, x, h1, h2, h3, ⟨A', n', k, rfl, h4, h5⟩, h6, h7⟩ := RG.val h (by decide) hi
  have := h3 0 (by decide)
  rw [Nat.mul_one, Nat.add_zero] at this
  exact ⟨b, o, A', n', k, x, h1, h2, this, h4, h5, h6, h7⟩
end
end Go.Baro

set_option linter.unusedSimpArgs false
set_option linter.unusedVariables false
namespace Go.Baro
open Go.ChangeShapes Go.WideShapes Go.ChangeAt Go.RowKit
section
variable {H : Type} {enc : TypeId × Value → H} {P : Program} {W : World}
/-- A slice whose elements open. -/
theorem open_RG {α : Type} {s : Nat} {R : World → Nat → List Value → α → Prop} {ok : α → Prop} {t e : TypeId} {a : Option Addr} {len cap : Nat} {d : DataW H} {p : List MemPlace} (ht : P.underlying t = some (.slice e)) (hc : P.cellsOf e = s) (hs : 0 < s)
    (hrow : ∀ n r y, r.length = s → DataW.trod enc P W 0 (fun _ => true) true n e r = some y → ∃ x, R W W.heap.size r x ∧ ok x)
    (h : DataW.Trod enc P W 0 (fun _ => true) true t (.slice a len cap) d p) : ∃ ls : List α, RG s R W W.heap.size a len ls ∧ (∀ x ∈ ls, ok x) ∧ len ≤ cap := by
  obtain ⟨rows, hr, hl, hrw, hlc, _⟩ := open_rows ht hc hs h
  obtain ⟨us, ls, he, hul, hp, hq⟩ := zip_of (f := fun r : List Value => r) (R := fun r x => R W W.heap.size r x ∧ ok x) rows (by
    intro r hr
    obtain ⟨h1, y, n, hy⟩ := hrw r hr
    obtain ⟨x, hx⟩ := hrow n r y h1 hy
    exact ⟨r, x, rfl, hx⟩)
  rw [show us.map (fun r : List Value => r) = us from List.map_id us] at he
  subst he
  refine ⟨ls, ⟨rows, hul, fun r hr => (hrw r hr).1, hr, fun i r x h1 h2 => (hp i r x h1 h2).1⟩, fun x hx => ?_, hlc⟩
  obtain ⟨r, hr⟩ := hq x hx
  exact hr.2
/-- A cell that is a slice. -/
theorem open_cell {e b : TypeId} {n : Nat} {r : List Value} {y : DataW H × List MemPlace} (he : P.underlying e = some (.slice b)) (h : DataW.trod enc P W 0 (fun _ => true) true n e r = some y) :
    ∃ A len cap, r = [.slice A len cap] ∧ cap ≤ 9223372036854775807 ∧ DataW.Trod enc P W 0 (fun _ => true) true e (.slice A len cap) y.1 y.2 := by
  have hm : ∃ A len cap, r = [.slice A len cap] ∧ cap ≤ maxLen := by
    rcases DataW.trod_slice he h with ⟨hcs, _⟩ | ⟨x, l, c, _, _, _, _, hcs, _, _, _, hm, _⟩
    · exact ⟨none, 0, 0, hcs, by unfold maxLen; omega⟩
    · exact ⟨some x, l, c, hcs, hm⟩
  obtain ⟨A, len, cap, rfl, hm⟩ := hm
  exact ⟨A, len, cap, rfl, by unfold maxLen at hm; omega, n, by simpa [Value.cells] using h⟩
def okCo (c : List Ins) : Prop := c.length ≤ 9223372036854775807 ∧ ∀ o ∈ c, inI o
def okCa (c : Cl) : Prop := inW c.k ∧ c.ar.length ≤ 9223372036854775807 ∧ ∀ x ∈ c.ar, inW x
def okTh (t : List Cl) : Prop := t.length ≤ 9223372036854775807 ∧ ∀ c ∈ t, okCa c
/-- The codes. -/
theorem open_RCs {t e o i : TypeId} {f0 f1 f2 f3 f4 : Field} {a : Option Addr} {len cap : Nat} {d : DataW H} {p : List MemPlace} (ht : P.underlying t = some (.slice e)) (hce : P.cellsOf e = 1) (he : P.underlying e = some (.slice o)) (ho : P.underlying o = some (.struct #[f0, f1, f2, f3, f4])) (hco : P.cellsOf o = 5)
    (hi : P.underlying i = some (.int .i64)) (hci : P.cellsOf i = 1) (hf : [f0, f1, f2, f3, f4].map (fun f => (f.type, f.offset)) = [(i, 0), (i, 1), (i, 2), (i, 3), (i, 4)])
    (h : DataW.Trod enc P W 0 (fun _ => true) true t (.slice a len cap) d p) : ∃ ls, RCs W W.heap.size a len ls ∧ (∀ c ∈ ls, okCo c) ∧ len ≤ cap := by
  refine open_RG ht hce (by decide) (fun n r y hr hy => ?_) h
  obtain ⟨A, l, c, rfl, hm, hT⟩ := open_cell he hy
  obtain ⟨fs, h1, h2, h3, _⟩ := open_RO he ho hco hi hci hf hT
  exact ⟨fs, ⟨A, l, c, rfl, h3, h1⟩, by rw [h1.len]; omega, h2⟩
/-- The calls of a thread. -/
theorem open_RLs {t e v i : TypeId} {f0 f1 : Field} {a : Option Addr} {len cap : Nat} {d : DataW H} {p : List MemPlace} (ht : P.underlying t = some (.slice e)) (hce : P.cellsOf e = 2) (he : P.underlying e = some (.struct #[f0, f1]))
    (hi : P.underlying i = some (.int .i64)) (hci : P.cellsOf i = 1) (hv : P.underlying v = some (.slice i)) (hcv : P.cellsOf v = 1) (hf : (f0.type, f0.offset, f1.type, f1.offset) = (i, 0, v, 1))
    (h : DataW.Trod enc P W 0 (fun _ => true) true t (.slice a len cap) d p) : ∃ ls, RLs W W.heap.size a len ls ∧ (∀ c ∈ ls, okCa c) ∧ len ≤ cap := by
  simp only [Prod.mk.injEq] at hf
  obtain ⟨e0, o0, e1, o1⟩ := hf
  refine open_RG ht hce (by decide) (fun n r y hr hy => ?_) h
  obtain ⟨y0, y1, m, _, _, h0, h1⟩ := trod_struct2 he hy
  rw [e0, o0, hci] at h0
  rw [e1, o1, hcv] at h1
  obtain ⟨k, hk, _, wk⟩ := DataW.trod_int hi h0
  obtain ⟨A, l, c, hr1, hm, hT⟩ := open_cell hv h1
  obtain ⟨xs, h3, h4, h5, _⟩ := open_RI hv hi hci hT
  match r, hr with
  | [u0, u1], _ =>
    simp at hk hr1
    subst hk hr1
    exact ⟨⟨k, xs⟩, ⟨A, l, c, rfl, h5, h3⟩, bounds_i64 wk, by rw [h3.len]; omega, fun x hx => bounds_i64 (h4 x hx)⟩
/-- The threads. -/
theorem open_RTs {t u e v i : TypeId} {f0 f1 : Field} {a : Option Addr} {len cap : Nat} {d : DataW H} {p : List MemPlace} (ht : P.underlying t = some (.slice u)) (hcu : P.cellsOf u = 1) (hu : P.underlying u = some (.slice e)) (hce : P.cellsOf e = 2) (he : P.underlying e = some (.struct #[f0, f1]))
    (hi : P.underlying i = some (.int .i64)) (hci : P.cellsOf i = 1) (hv : P.underlying v = some (.slice i)) (hcv : P.cellsOf v = 1) (hf : (f0.type, f0.offset, f1.type, f1.offset) = (i, 0, v, 1))
    (h : DataW.Trod enc P W 0 (fun _ => true) true t (.slice a len cap) d p) : ∃ ls, RTs W W.heap.size a len ls ∧ (∀ c ∈ ls, okTh c) ∧ len ≤ cap := by
  refine open_RG ht hcu (by decide) (fun n r y hr hy => ?_) h
  obtain ⟨A, l, c, rfl, hm, hT⟩ := open_cell hu hy
  obtain ⟨ls, h1, h2, h3⟩ := open_RLs hu hce he hi hci hv hcv hf hT
  exact ⟨ls, ⟨A, l, c, rfl, h3, h1⟩, by rw [h1.len]; omega, h2⟩
/-- What is known of a machine that came in. -/
structure InM (W : World) (Aw : Option Addr) (nw cw : Nat) (Ac : Option Addr) (nc cc : Nat) (At : Option Addr) (nt ct : Nat) (m : Mc) : Prop where
  ws : RI W W.heap.size .i64 Aw nw m.ws
  cs : RCs W W.heap.size Ac nc m.cs
  ts : RTs W W.heap.size At nt m.ts
  wok : ∀ x ∈ m.ws, inW x
  cok : ∀ c ∈ m.cs, okCo c
  tok : ∀ t ∈ m.ts, okTh t
  lw : nw ≤ cw ∧ cw ≤ 9223372036854775807
  lc : nc ≤ cc ∧ cc ≤ 9223372036854775807
  lt : nt ≤ ct ∧ ct ≤ 9223372036854775807
theorem InM.below {W W' : World} {Aw : Option Addr} {nw cw : Nat} {Ac : Option Addr} {nc cc : Nat} {At : Option Addr} {nt ct : Nat} {m : Mc} (h : InM W Aw nw cw Ac nc cc At nt ct m) (hb : Below W.heap.size W W') : InM W' Aw nw cw Ac nc cc At nt ct m :=
  ⟨(h.ws.below hb).more hb.size, (h.cs.below hb).more hb.size, (h.ts.below hb).more hb.size, h.wok, h.cok, h.tok, h.lw, h.lc, h.lt⟩
theorem open_Mc {r : Reach} {b0 : Nat} {t tw tc te to tt tu tl i : TypeId} {f0 f1 f2 g0 g1 g2 g3 g4 k0 k1 : Field} {v : Value} {d : DataW H} {p : List MemPlace} (hs : P.underlying t = some (.struct #[f0, f1, f2])) (hone : Go.Deep.oneCellFields P #[f0, f1, f2] = true) (hC : P.cellsOf t = 3)
    (hf : (f0.type, f1.type, f2.type) = (tw, tc, tt)) (hi : P.underlying i = some (.int .i64)) (hci : P.cellsOf i = 1) (hw : P.underlying tw = some (.slice i)) (hcw : P.cellsOf tw = 1)
    (hc : P.underlying tc = some (.slice te)) (hce : P.cellsOf te = 1) (he : P.underlying te = some (.slice to)) (ho : P.underlying to = some (.struct #[g0, g1, g2, g3, g4])) (hco : P.cellsOf to = 5) (hg : [g0, g1, g2, g3, g4].map (fun f => (f.type, f.offset)) = [(i, 0), (i, 1), (i, 2), (i, 3), (i, 4)])
    (ht : P.underlying tt = some (.slice tu)) (hcu : P.cellsOf tu = 1) (hu : P.underlying tu = some (.slice tl)) (hcl : P.cellsOf tl = 2) (hl : P.underlying tl = some (.struct #[k0, k1])) (hk : (k0.type, k0.offset, k1.type, k1.offset) = (i, 0, tw, 1))
    (hv : Value.okWide P W r b0 t v) (h : DataW.Trod enc P W 0 (fun _ => true) true t v d p) :
    ∃ Aw nw cw Ac nc cc At nt ct m, v = .agg #[.slice Aw nw cw, .slice Ac nc cc, .slice At nt ct] ∧ InM W Aw nw cw Ac nc cc At nt ct m := by
  obtain ⟨v0, v1, v2, y0, y1, y2, n, rfl, _, _, h0, h1, h2⟩ := Go.Joins.open_agg3 hs hone hC hv h
  simp only [Prod.mk.injEq] at hf
  obtain ⟨e0, e1, e2⟩ := hf
  rw [e0] at h0
  rw [e1] at h1
  rw [e2] at h2
  obtain ⟨Aw, nw, cw, q0, m0, T0⟩ := open_cell hw h0
  obtain ⟨Ac, nc, cc, q1, m1, T1⟩ := open_cell hc h1
  obtain ⟨At, nt, ct, q2, m2, T2⟩ := open_cell ht h2
  simp only [List.cons.injEq, and_true] at q0 q1 q2
  subst q0 q1 q2
  obtain ⟨ws, a1, a2, a3, _⟩ := open_RI hw hi hci T0
  obtain ⟨cs, b1, b2, b3⟩ := open_RCs hc hce he ho hco hi hci hg T1
  obtain ⟨ts, c1, c2, c3⟩ := open_RTs ht hcu hu hcl hl hi hci hw hcw hk T2
  exact ⟨Aw, nw, cw, Ac, nc, cc, At, nt, ct, ⟨ws, cs, ts⟩, rfl, a1, b1, c1, fun x hx => bounds_i64 (a2 x hx), b2, c2, ⟨a3, m0⟩, ⟨b3, m1⟩, c3, m2⟩
end
end Go.Baro

set_option linter.unusedSimpArgs false
set_option linter.unusedVariables false
namespace Go.Baro
open Go.RowKit

/-- Of the blocks of world a none has turned but those of X. -/
structure Un (X : Nat → Prop) (a w : World) : Prop where
  os : w.os = a.os
  tape : w.tape = a.tape
  output : w.output = a.output
  size : a.heap.size ≤ w.heap.size
  block : ∀ k, k < a.heap.size → ¬ X k → w.heap[k]? = a.heap[k]?
section
variable {X : Nat → Prop} {a w w' : World}
theorem Un.refl (X : Nat → Prop) (a : World) : Un X a a := ⟨rfl, rfl, rfl, Nat.le_refl _, fun _ _ _ => rfl⟩
theorem Un.drew (h : Un X a w) : Un X a w.drew := ⟨h.os, h.tape, h.output, h.size, h.block⟩
theorem Un.drewN (h : Un X a w) (n : Nat) : Un X a (w.drewN n) := ⟨h.os, h.tape, h.output, h.size, h.block⟩
theorem Un.trans (h : Un X a w) (k : Un X w w') : Un X a w' := ⟨k.os.trans h.os, k.tape.trans h.tape, k.output.trans h.output, Nat.le_trans h.size k.size, fun i hi hx => (k.block i (Nat.lt_of_lt_of_le hi h.size) hx).trans (h.block i hi hx)⟩
theorem Un.wider {Y : Nat → Prop} (h : Un X a w) (hy : ∀ k, k < a.heap.size → X k → Y k) : Un Y a w := ⟨h.os, h.tape, h.output, h.size, fun k hk hx => h.block k hk fun h' => hx (hy k hk h')⟩
theorem un_grown {row : Option Nat} (h : Un X a w) (hg : w.grownBy w' row) (hX : ∀ k, row = some k → X k) : Un X a w' :=
  ⟨hg.os.trans h.os, hg.tape.trans h.tape, hg.output.trans h.output, Nat.le_trans h.size hg.size, fun k hk hx => (hg.block k (Nat.lt_of_lt_of_le hk h.size) fun e => hx (hX k e.symm)).trans (h.block k hk hx)⟩
theorem un_set {g : Nat} (h : Un X a w) (hg : w.grownBy w' (some g)) (hX : X g) : Un X a w' := un_grown h hg fun k e => by injection e with e; exact e ▸ hX
theorem Un.alloc (h : Un X a w) (o : Obj) : Un X a (w.alloc o) := un_grown h (World.grownBy_alloc w o none) (fun _ e => by cases e)
theorem un_at {b : Nat} (h : Un X a w) (hX : X b) (i : Nat) (u : Value) : Un X a (w.setCell ⟨b, i, none⟩ u) := un_set h (grown_setCell w ⟨b, i, none⟩ u) hX
theorem un_below (h : Below a.heap.size a w) : Un X a w := ⟨h.os, h.tape, h.output, h.size, fun k hk _ => h.block k hk⟩
/-- Where all of X lies from B on. -/
theorem Un.below {B : Nat} (h : Un X a w) (hB : B ≤ a.heap.size) (hX : ∀ k, k < B → ¬ X k) : Below B a w := ⟨h.os, h.tape, h.output, h.size, fun k hk => h.block k (by omega) (hX k hk)⟩
theorem Box.un {b : Nat} {t : TypeId} {cs : List Value} (h : Box a b t cs) (hu : Un X a w) (hb : ¬ X b) : Box w b t cs := (hu.block b h.lt hb).trans h
theorem own_un {b : Nat} {e : TypeId} {s n : Nat} {v : Value} {xs : List Value} (h : a.ownsRow b e s v n xs) (hu : Un X a w) (hX : ∀ k, v.ownBlock = some k → ¬ X k) : w.ownsRow b e s v n xs := by
  obtain ⟨h1, h2⟩ := h
  refine ⟨h1, ?_⟩
  rcases h2 with h2 | ⟨g, cap, cur, hv, hg, hh, hr⟩
  · exact Or.inl h2
  · have hlt : g < a.heap.size := by
      rcases Nat.lt_or_ge g a.heap.size with h | h
      · exact h
      · rw [Array.getElem?_eq_none h] at hh; cases hh
    exact Or.inr ⟨g, cap, cur, hv, hg, by rw [hu.block g hlt (hX g (by rw [hv]; rfl))]; exact hh, hr⟩
theorem Rd.un {B s n : Nat} {A : Option Addr} {cs : List Value} (h : Rd a B s A n cs) (hu : Un X a w) (hB : B ≤ a.heap.size) (hX : 0 < n → ∀ b o, A = some ⟨b, o, none⟩ → ¬ X b) : Rd w B s A n cs :=
  ⟨h.len, fun hn => by
    obtain ⟨b, o, hA, hb, hc⟩ := h.at_ hn
    exact ⟨b, o, hA, hb, fun j hj => (World.cell?_of_block (w := a) (a := ⟨b, o + j, none⟩) (hu.block b (by omega) (hX hn b o hA))).trans (hc j hj)⟩⟩
end
/-- The blocks that a worker's instruction may turn: its own, its registers', what it has told, the shared words. -/
def touch (b mb : Nat) (tv wv : Value) : Nat → Prop := fun k => k = b ∨ k = mb ∨ some k = tv.ownBlock ∨ some k = wv.ownBlock
theorem touch_b {b mb : Nat} {tv wv : Value} : touch b mb tv wv b := Or.inl rfl
theorem touch_w {b mb g o n c : Nat} {tv : Value} : touch b mb tv (.slice (some ⟨g, o, none⟩) n c) g := Or.inr (Or.inr (Or.inr rfl))
end Go.Baro
