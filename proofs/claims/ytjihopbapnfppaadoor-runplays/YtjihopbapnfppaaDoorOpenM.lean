/- A machine as it comes in. No statement of the seat is proved here; no condition. -/
import Derived.Test.YtjihopbapnfppaaDoorLibM
import Derived.Lib.SmallJoins
set_option linter.unusedSimpArgs false
set_option linter.unusedVariables false
namespace Go.Baro
open Go.ChangeShapes Go.WideShapes Go.ChangeAt Go.RowKit
section
variable {H : Type} {enc : TypeId × Value → H} {P : Program} {W : World}
/-- A slice whose elements open. -/
theorem open_RG {α : Type} {s : Nat} {R : World → Nat → List Value → α → Prop} {ok : α → Prop} {t e : TypeId} {a : Option Addr} {len cap : Nat} {d : DataW H} {p : List MemPlace} (ht : P.underlying t = some (.slice e)) (hc : P.cellsOf e = s) (hs : 0 < s)
    (hrow : ∀ n r y, r.length = s → DataW.trod enc P W 0 (fun _ => true) true n e r = some y → ∃ x, R W W.heap.size r x ∧ ok x)
    (h : DataW.Trod enc P W 0 (fun _ => true) true t (.slice a len cap) d p) : ∃ ls : List α, RG s R W W.heap.size a len ls ∧ (∀ x ∈ ls, ok x) ∧ len ≤ cap := by
  obtain ⟨rows, hr, hl, hrw, hlc, _⟩ := open_rows ht hc hs h
  obtain ⟨us, ls, he, hul, hp, hq⟩ := zip_of (f := fun r : List Value => r) (R := fun r x => R W W.heap.size r x ∧ ok x) rows (by
    intro r hr
    obtain ⟨h1, y, n, hy⟩ := hrw r hr
    obtain ⟨x, hx⟩ := hrow n r y h1 hy
    exact ⟨r, x, rfl, hx⟩)
  rw [show us.map (fun r : List Value => r) = us from List.map_id us] at he
  subst he
  refine ⟨ls, ⟨rows, hul, fun r hr => (hrw r hr).1, hr, fun i r x h1 h2 => (hp i r x h1 h2).1⟩, fun x hx => ?_, hlc⟩
  obtain ⟨r, hr⟩ := hq x hx
  exact hr.2
/-- A cell that is a slice. -/
theorem open_cell {e b : TypeId} {n : Nat} {r : List Value} {y : DataW H × List MemPlace} (he : P.underlying e = some (.slice b)) (h : DataW.trod enc P W 0 (fun _ => true) true n e r = some y) :
    ∃ A len cap, r = [.slice A len cap] ∧ cap ≤ 9223372036854775807 ∧ DataW.Trod enc P W 0 (fun _ => true) true e (.slice A len cap) y.1 y.2 := by
  have hm : ∃ A len cap, r = [.slice A len cap] ∧ cap ≤ maxLen := by
    rcases DataW.trod_slice he h with ⟨hcs, _⟩ | ⟨x, l, c, _, _, _, _, hcs, _, _, _, hm, _⟩
    · exact ⟨none, 0, 0, hcs, by unfold maxLen; omega⟩
    · exact ⟨some x, l, c, hcs, hm⟩
  obtain ⟨A, len, cap, rfl, hm⟩ := hm
  exact ⟨A, len, cap, rfl, by unfold maxLen at hm; omega, n, by simpa [Value.cells] using h⟩
def okCo (c : List Ins) : Prop := c.length ≤ 9223372036854775807 ∧ ∀ o ∈ c, inI o
def okCa (c : Cl) : Prop := inW c.k ∧ c.ar.length ≤ 9223372036854775807 ∧ ∀ x ∈ c.ar, inW x
def okTh (t : List Cl) : Prop := t.length ≤ 9223372036854775807 ∧ ∀ c ∈ t, okCa c
/-- The codes. -/
theorem open_RCs {t e o i : TypeId} {f0 f1 f2 f3 f4 : Field} {a : Option Addr} {len cap : Nat} {d : DataW H} {p : List MemPlace} (ht : P.underlying t = some (.slice e)) (hce : P.cellsOf e = 1) (he : P.underlying e = some (.slice o)) (ho : P.underlying o = some (.struct #[f0, f1, f2, f3, f4])) (hco : P.cellsOf o = 5)
    (hi : P.underlying i = some (.int .i64)) (hci : P.cellsOf i = 1) (hf : [f0, f1, f2, f3, f4].map (fun f => (f.type, f.offset)) = [(i, 0), (i, 1), (i, 2), (i, 3), (i, 4)])
    (h : DataW.Trod enc P W 0 (fun _ => true) true t (.slice a len cap) d p) : ∃ ls, RCs W W.heap.size a len ls ∧ (∀ c ∈ ls, okCo c) ∧ len ≤ cap := by
  refine open_RG ht hce (by decide) (fun n r y hr hy => ?_) h
  obtain ⟨A, l, c, rfl, hm, hT⟩ := open_cell he hy
  obtain ⟨fs, h1, h2, h3, _⟩ := open_RO he ho hco hi hci hf hT
  exact ⟨fs, ⟨A, l, c, rfl, h3, h1⟩, by rw [h1.len]; omega, h2⟩
/-- The calls of a thread. -/
theorem open_RLs {t e v i : TypeId} {f0 f1 : Field} {a : Option Addr} {len cap : Nat} {d : DataW H} {p : List MemPlace} (ht : P.underlying t = some (.slice e)) (hce : P.cellsOf e = 2) (he : P.underlying e = some (.struct #[f0, f1]))
    (hi : P.underlying i = some (.int .i64)) (hci : P.cellsOf i = 1) (hv : P.underlying v = some (.slice i)) (hcv : P.cellsOf v = 1) (hf : (f0.type, f0.offset, f1.type, f1.offset) = (i, 0, v, 1))
    (h : DataW.Trod enc P W 0 (fun _ => true) true t (.slice a len cap) d p) : ∃ ls, RLs W W.heap.size a len ls ∧ (∀ c ∈ ls, okCa c) ∧ len ≤ cap := by
  simp only [Prod.mk.injEq] at hf
  obtain ⟨e0, o0, e1, o1⟩ := hf
  refine open_RG ht hce (by decide) (fun n r y hr hy => ?_) h
  obtain ⟨y0, y1, m, _, _, h0, h1⟩ := trod_struct2 he hy
  rw [e0, o0, hci] at h0
  rw [e1, o1, hcv] at h1
  obtain ⟨k, hk, _, wk⟩ := DataW.trod_int hi h0
  obtain ⟨A, l, c, hr1, hm, hT⟩ := open_cell hv h1
  obtain ⟨xs, h3, h4, h5, _⟩ := open_RI hv hi hci hT
  match r, hr with
  | [u0, u1], _ =>
    simp at hk hr1
    subst hk hr1
    exact ⟨⟨k, xs⟩, ⟨A, l, c, rfl, h5, h3⟩, bounds_i64 wk, by rw [h3.len]; omega, fun x hx => bounds_i64 (h4 x hx)⟩
/-- The threads. -/
theorem open_RTs {t u e v i : TypeId} {f0 f1 : Field} {a : Option Addr} {len cap : Nat} {d : DataW H} {p : List MemPlace} (ht : P.underlying t = some (.slice u)) (hcu : P.cellsOf u = 1) (hu : P.underlying u = some (.slice e)) (hce : P.cellsOf e = 2) (he : P.underlying e = some (.struct #[f0, f1]))
    (hi : P.underlying i = some (.int .i64)) (hci : P.cellsOf i = 1) (hv : P.underlying v = some (.slice i)) (hcv : P.cellsOf v = 1) (hf : (f0.type, f0.offset, f1.type, f1.offset) = (i, 0, v, 1))
    (h : DataW.Trod enc P W 0 (fun _ => true) true t (.slice a len cap) d p) : ∃ ls, RTs W W.heap.size a len ls ∧ (∀ c ∈ ls, okTh c) ∧ len ≤ cap := by
  refine open_RG ht hcu (by decide) (fun n r y hr hy => ?_) h
  obtain ⟨A, l, c, rfl, hm, hT⟩ := open_cell hu hy
  obtain ⟨ls, h1, h2, h3⟩ := open_RLs hu hce he hi hci hv hcv hf hT
  exact ⟨ls, ⟨A, l, c, rfl, h3, h1⟩, by rw [h1.len]; omega, h2⟩
/-- What is known of a machine that came in. -/
structure InM (W : World) (Aw : Option Addr) (nw cw : Nat) (Ac : Option Addr) (nc cc : Nat) (At : Option Addr) (nt ct : Nat) (m : Mc) : Prop where
  ws : RI W W.heap.size .i64 Aw nw m.ws
  cs : RCs W W.heap.size Ac nc m.cs
  ts : RTs W W.heap.size At nt m.ts
  wok : ∀ x ∈ m.ws, inW x
  cok : ∀ c ∈ m.cs, okCo c
  tok : ∀ t ∈ m.ts, okTh t
  lw : nw ≤ cw ∧ cw ≤ 9223372036854775807
  lc : nc ≤ cc ∧ cc ≤ 9223372036854775807
  lt : nt ≤ ct ∧ ct ≤ 9223372036854775807
theorem InM.below {W W' : World} {Aw : Option Addr} {nw cw : Nat} {Ac : Option Addr} {nc cc : Nat} {At : Option Addr} {nt ct : Nat} {m : Mc} (h : InM W Aw nw cw Ac nc cc At nt ct m) (hb : Below W.heap.size W W') : InM W' Aw nw cw Ac nc cc At nt ct m :=
  ⟨(h.ws.below hb).more hb.size, (h.cs.below hb).more hb.size, (h.ts.below hb).more hb.size, h.wok, h.cok, h.tok, h.lw, h.lc, h.lt⟩
theorem open_Mc {r : Reach} {b0 : Nat} {t tw tc te to tt tu tl i : TypeId} {f0 f1 f2 g0 g1 g2 g3 g4 k0 k1 : Field} {v : Value} {d : DataW H} {p : List MemPlace} (hs : P.underlying t = some (.struct #[f0, f1, f2])) (hone : Go.Deep.oneCellFields P #[f0, f1, f2] = true) (hC : P.cellsOf t = 3)
    (hf : (f0.type, f1.type, f2.type) = (tw, tc, tt)) (hi : P.underlying i = some (.int .i64)) (hci : P.cellsOf i = 1) (hw : P.underlying tw = some (.slice i)) (hcw : P.cellsOf tw = 1)
    (hc : P.underlying tc = some (.slice te)) (hce : P.cellsOf te = 1) (he : P.underlying te = some (.slice to)) (ho : P.underlying to = some (.struct #[g0, g1, g2, g3, g4])) (hco : P.cellsOf to = 5) (hg : [g0, g1, g2, g3, g4].map (fun f => (f.type, f.offset)) = [(i, 0), (i, 1), (i, 2), (i, 3), (i, 4)])
    (ht : P.underlying tt = some (.slice tu)) (hcu : P.cellsOf tu = 1) (hu : P.underlying tu = some (.slice tl)) (hcl : P.cellsOf tl = 2) (hl : P.underlying tl = some (.struct #[k0, k1])) (hk : (k0.type, k0.offset, k1.type, k1.offset) = (i, 0, tw, 1))
    (hv : Value.okWide P W r b0 t v) (h : DataW.Trod enc P W 0 (fun _ => true) true t v d p) :
    ∃ Aw nw cw Ac nc cc At nt ct m, v = .agg #[.slice Aw nw cw, .slice Ac nc cc, .slice At nt ct] ∧ InM W Aw nw cw Ac nc cc At nt ct m := by
  obtain ⟨v0, v1, v2, y0, y1, y2, n, rfl, _, _, h0, h1, h2⟩ := Go.Joins.open_agg3 hs hone hC hv h
  simp only [Prod.mk.injEq] at hf
  obtain ⟨e0, e1, e2⟩ := hf
  rw [e0] at h0
  rw [e1] at h1
  rw [e2] at h2
  obtain ⟨Aw, nw, cw, q0, m0, T0⟩ := open_cell hw h0
  obtain ⟨Ac, nc, cc, q1, m1, T1⟩ := open_cell hc h1
  obtain ⟨At, nt, ct, q2, m2, T2⟩ := open_cell ht h2
  simp only [List.cons.injEq, and_true] at q0 q1 q2
  subst q0 q1 q2
  obtain ⟨ws, a1, a2, a3, _⟩ := open_RI hw hi hci T0
  obtain ⟨cs, b1, b2, b3⟩ := open_RCs hc hce he ho hco hi hci hg T1
  obtain ⟨ts, c1, c2, c3⟩ := open_RTs ht hcu hu hcl hl hi hci hw hcw hk T2
  exact ⟨Aw, nw, cw, Ac, nc, cc, At, nt, ct, ⟨ws, cs, ts⟩, rfl, a1, b1, c1, fun x hx => bounds_i64 (a2 x hx), b2, c2, ⟨a3, m0⟩, ⟨b3, m1⟩, c3, m2⟩
end
end Go.Baro
