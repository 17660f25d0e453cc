/- Of this claim's own texts these, one behind the other: OpenL, RunPure, LibM, LibU. No statement of the seat is proved here; no condition but those that stand at the theorems. -/
import Derived.Test.YtnchgdjdfhfedaaDoorPartAC
import Derived.Test.YtnchgdjdfhfedaaDoorPartAD
set_option linter.unusedSimpArgs false
set_option linter.unusedVariables false
namespace Go.Baro
open Go.ChangeShapes Go.WideShapes Go.ChangeAt Go.RowKit
section
variable {H : Type} {enc : TypeId × Value → H} {P : Program} {W : World}
/-- What one cell of it is. -/
def Inner (W : World) (v : Value) (l : List Int) : Prop := SL W W.heap.size v l ∧ l.length ≤ 9223372036854775807 ∧ ∀ y ∈ l, 0 ≤ y ∧ y < 256
theorem open_inner {e b : TypeId} {n : Nat} {r : List Value} {y : DataW H × List MemPlace} (he : P.underlying e = some (.slice b)) (hb : P.underlying b = some (.int .u8)) (hcb : P.cellsOf b = 1)
    (h : DataW.trod enc P W 0 (fun _ => true) true n e r = some y) : ∃ v l, r = [v] ∧ Inner W v l := by
  obtain ⟨d, p⟩ := y
  have hm : ∃ A len cap, r = [.slice A len cap] ∧ cap ≤ maxLen := by
    rcases DataW.trod_slice he h with ⟨hcs, _⟩ | ⟨x, l, c, _, _, _, _, hcs, _, _, _, hm, _⟩
    · exact ⟨none, 0, 0, hcs, by unfold maxLen; omega⟩
    · exact ⟨some x, l, c, hcs, hm⟩
  obtain ⟨A, len, cap, rfl, hm⟩ := hm
  obtain ⟨xs, hx, hw, hlc, _⟩ := open_RI (t := e) (e := b) (k := .u8) (a := A) (len := len) (cap := cap) (d := d) (p := p) he hb hcb ⟨n, by simpa [Value.cells] using h⟩
  refine ⟨_, xs, rfl, ⟨A, len, cap, rfl, hlc, hx⟩, ?_, fun y hy => ?_⟩
  · rw [hx.len]; unfold maxLen at hm; omega
  · have := bounds_u8 (hw y hy); omega
/-- A list of rows that each have a shape, beside what they are. -/
theorem zip_of {α β γ : Type} {f : α → β} {R : α → γ → Prop} : ∀ (l : List β), (∀ b ∈ l, ∃ a c, b = f a ∧ R a c) → ∃ (us : List α) (cs : List γ), l = us.map f ∧ us.length = cs.length ∧ (∀ (i : Nat) a c, us[i]? = some a → cs[i]? = some c → R a c) ∧ ∀ c ∈ cs, ∃ a, R a c
  | [], _ => ⟨[], [], rfl, rfl, by simp, by simp⟩
  | b :: l, h => by
    obtain ⟨a, c, rfl, hr⟩ := h b (by simp)
    obtain ⟨us, cs, rfl, hl, hp, hq⟩ := zip_of (f := f) (R := R) l fun b hb => h b (by simp [hb])
    refine ⟨a :: us, c :: cs, rfl, by simp [hl], fun i a' c' h1 h2 => ?_, fun x hx => ?_⟩
    · cases i with
      | zero => simp at h1 h2; rw [← h1, ← h2]; exact hr
      | succ i => exact hp i a' c' (by simpa using h1) (by simpa using h2)
    · rcases List.mem_cons.1 hx with rfl | hx
      · exact ⟨a, hr⟩
      · exact hq x hx
theorem open_RL {t e b : TypeId} {a : Option Addr} {len cap : Nat} {d : DataW H} {p : List MemPlace} (ht : P.underlying t = some (.slice e)) (he : P.underlying e = some (.slice b)) (hb : P.underlying b = some (.int .u8)) (hc : P.cellsOf e = 1) (hcb : P.cellsOf b = 1)
    (h : DataW.Trod enc P W 0 (fun _ => true) true t (.slice a len cap) d p) :
    ∃ ls : List (List Int), RL W W.heap.size a len ls ∧ (∀ l ∈ ls, l.length ≤ 9223372036854775807 ∧ ∀ y ∈ l, 0 ≤ y ∧ y < 256) ∧ len ≤ cap ∧ ((len = 0 ∧ d = .nil) ∨ ∃ el sp, d = .slice el sp ∧ el.length = len) := by
  obtain ⟨rows, hr, hl, hrow, hlc, hd⟩ := open_rows ht hc (by decide) h
  obtain ⟨vs, ls, rfl, hvl, hp, hq⟩ := zip_of (f := fun v : Value => [v]) (R := Inner W) rows (by
    intro r hr
    obtain ⟨_, y, n, hy⟩ := hrow r hr
    exact open_inner he hb hcb hy)
  have hf : (vs.map fun v : Value => [v]).flatten = vs := by
    clear hr hl hrow hvl hp hq
    induction vs with
    | nil => rfl
    | cons v vs ih => simp [ih]
  rw [hf] at hr
  refine ⟨ls, ⟨vs, hr, hvl, fun i v l h1 h2 => (hp i v l h1 h2).1⟩, fun l hl => ?_, hlc, hd⟩
  obtain ⟨v, hv⟩ := hq l hl
  exact hv.2
end
end Go.Baro

set_option linter.unusedSimpArgs false
set_option linter.unusedVariables false
namespace Go.Baro

/-- A call: the number of its code, its arguments. -/
structure Cl where
  k : Int
  ar : List Int
/-- A machine: the words, the codes, the calls of each thread. -/
structure Mc where
  ws : List Int
  cs : List (List Ins)
  ts : List (List Cl)
/-- An event. -/
structure Ev where
  st : Nat
  th : Nat
  cl : Nat
  en : Bool
  er : Int
  to : List Int

def okCl (m : Mc) (c : Cl) : Prop := (0 ≤ c.k ∧ c.k < m.cs.length) ∧ c.ar.length ≤ 8
/-- A valid machine. -/
def okMc (m : Mc) : Prop := m.ws.length ≤ 200 ∧ m.cs.length ≤ 8 ∧ m.ts.length ≤ 4 ∧ (∀ c ∈ m.cs, okC c) ∧ ∀ t ∈ m.ts, t.length ≤ 20 ∧ ∀ c ∈ t, okCl m c

/-- A thread within a call: the code, the next instruction, the registers, what it has told. -/
structure Lv where
  c : List Ins
  p : Int
  r : Int → Int
  t : List Int
/-- A thread: its call, if it is within one, and how many it has begun. -/
structure Td where
  now : Option Lv
  bg : Nat
/-- Where a run is. -/
structure Gs where
  w : List Int
  th : Nat → Td
  out : List Ev

def putT (f : Nat → Td) (n : Nat) (t : Td) : Nat → Td := fun i => if i = n then t else f i
def live (c : List Ins) (ar : List Int) : Lv := ⟨c, 0, (st0 ar []).r, []⟩
/-- An instruction of a thread: its call, the words, the error, and whether the call has ended. -/
def exc (l : Lv) (w : List Int) : Lv × List Int × Int × Bool :=
  if l.p = l.c.length then (l, w, 0, true)
  else
    let q := stp l.c.length (l.c[l.p.toNat]?.getD ⟨17, 0, 0, 0, 0⟩) ⟨l.p, l.r, w, l.t⟩
    (⟨l.c, q.1.p, q.1.r, q.1.t⟩, q.1.w, q.2, decide (q.2 ≠ 0 ∨ q.1.p = l.c.length))
/-- What a thread within a call does. -/
def actL (g : Gs) (st n : Nat) (bg : Nat) (l : Lv) (out : List Ev) : Gs :=
  let q := exc l g.w
  if q.2.2.2 then ⟨q.2.1, putT g.th n ⟨none, bg⟩, out ++ [⟨st, n, bg - 1, true, q.2.2.1, q.1.t⟩]⟩
  else ⟨q.2.1, putT g.th n ⟨some q.1, bg⟩, out⟩
/-- A step of thread n. -/
def actG (m : Mc) (g : Gs) (st n : Nat) : Gs :=
  match (g.th n).now with
  | some l => actL g st n (g.th n).bg l g.out
  | none =>
    match (m.ts[n]?.getD [])[(g.th n).bg]? with
    | none => g
    | some c => actL g st n ((g.th n).bg + 1) (live (m.cs[c.k.toNat]?.getD []) c.ar) (g.out ++ [⟨st, n, (g.th n).bg, false, 0, []⟩])
/-- A schedule from step st on. -/
def plyG (m : Mc) : Nat → List Nat → Gs → Gs
  | _, [], g => g
  | st, n :: l, g => plyG m (st + 1) l (actG m g st n)
def g0 (m : Mc) : Gs := ⟨m.ws, fun _ => ⟨none, 0⟩, []⟩

theorem plyG_append (m : Mc) : ∀ (a b : List Nat) (st : Nat) (g : Gs), plyG m st (a ++ b) g = plyG m (st + a.length) b (plyG m st a g)
  | [], b, st, g => rfl
  | n :: a, b, st, g => by
    show plyG m (st + 1) (a ++ b) _ = plyG m (st + (a.length + 1)) b (plyG m (st + 1) a _)
    rw [plyG_append m a b (st + 1), show st + 1 + a.length = st + (a.length + 1) by omega]

/-- A step adds events of this step alone. -/
theorem actL_out (g : Gs) (st n bg : Nat) (l : Lv) (out : List Ev) : ∃ es, (actL g st n bg l out).out = out ++ es ∧ ∀ e ∈ es, e.st = st := by
  unfold actL
  dsimp only
  by_cases h : (exc l g.w).2.2.2 = true
  · rw [if_pos h]; exact ⟨_, rfl, fun e he => by rw [List.mem_singleton.1 he]⟩
  · rw [if_neg h]; exact ⟨[], by simp, by simp⟩
theorem actG_out (m : Mc) (g : Gs) (st n : Nat) : ∃ es, (actG m g st n).out = g.out ++ es ∧ ∀ e ∈ es, e.st = st := by
  unfold actG
  cases (g.th n).now with
  | some l => exact actL_out _ _ _ _ _ _
  | none =>
    dsimp only
    cases (m.ts[n]?.getD [])[(g.th n).bg]? with
    | none => exact ⟨[], by simp, by simp⟩
    | some c =>
      obtain ⟨es, h1, h2⟩ := actL_out g st n ((g.th n).bg + 1) (live (m.cs[c.k.toNat]?.getD []) c.ar) (g.out ++ [⟨st, n, (g.th n).bg, false, 0, []⟩])
      refine ⟨[⟨st, n, (g.th n).bg, false, 0, []⟩] ++ es, by dsimp only; rw [h1, List.append_assoc], fun e he => ?_⟩
      rcases List.mem_append.1 he with he | he
      · rw [List.mem_singleton.1 he]
      · exact h2 e he
theorem plyG_out (m : Mc) : ∀ (l : List Nat) (st : Nat) (g : Gs), ∃ es, (plyG m st l g).out = g.out ++ es ∧ ∀ e ∈ es, st ≤ e.st ∧ e.st < st + l.length
  | [], st, g => ⟨[], by simp [plyG], by simp⟩
  | n :: l, st, g => by
    obtain ⟨e1, h1, h2⟩ := actG_out m g st n
    obtain ⟨e2, h3, h4⟩ := plyG_out m l (st + 1) (actG m g st n)
    refine ⟨e1 ++ e2, by show (plyG m (st + 1) l _).out = _; rw [h3, h1, List.append_assoc], fun e he => ?_⟩
    rw [List.length_cons]
    rcases List.mem_append.1 he with he | he
    · have := h2 e he; omega
    · have := h4 e he; omega
/-- A run under more of a schedule begins as the one under less. -/
theorem run_parts (m : Mc) (a b : List Nat) : ∃ es, (plyG m 0 (a ++ b) (g0 m)).out = (plyG m 0 a (g0 m)).out ++ es ∧ ∀ e ∈ es, a.length ≤ e.st := by
  rw [plyG_append]
  obtain ⟨es, h1, h2⟩ := plyG_out m b (0 + a.length) (plyG m 0 a (g0 m))
  exact ⟨es, h1, fun e he => by have := h2 e he; omega⟩

/-- Who has nothing to do: its step changes nothing. -/
theorem actG_idle {m : Mc} {g : Gs} {st n : Nat} (h : m.ts[n]?.getD [] = []) (hn : (g.th n).now = none) : actG m g st n = g := by
  unfold actG
  rw [hn, h]
  rfl
/-- Other threads are as they were. -/
theorem actL_th {g : Gs} {st n bg i : Nat} {l : Lv} {out : List Ev} (h : i ≠ n) : (actL g st n bg l out).th i = g.th i := by
  unfold actL putT
  dsimp only
  by_cases hq : (exc l g.w).2.2.2 = true
  · rw [if_pos hq]; dsimp only; rw [if_neg h]
  · rw [if_neg hq]; dsimp only; rw [if_neg h]
theorem actG_th {m : Mc} {g : Gs} {st n i : Nat} (h : i ≠ n) : (actG m g st n).th i = g.th i := by
  unfold actG
  cases (g.th n).now with
  | some l => exact actL_th h
  | none =>
    dsimp only
    cases (m.ts[n]?.getD [])[(g.th n).bg]? with
    | none => rfl
    | some c => exact actL_th h
end Go.Baro

set_option linter.unusedSimpArgs false
set_option linter.unusedVariables false
namespace Go.Baro
open Go.RowKit

/-- A slice whose elements, of s cells each, are of a sort R. -/
def RG {α : Type} (s : Nat) (R : World → Nat → List Value → α → Prop) (w : World) (B : Nat) (A : Option Addr) (n : Nat) (ls : List α) : Prop :=
  ∃ rows : List (List Value), rows.length = ls.length ∧ (∀ r ∈ rows, r.length = s) ∧ Rd w B s A n rows.flatten ∧ ∀ (i : Nat) r x, rows[i]? = some r → ls[i]? = some x → R w B r x
theorem flatten_at {α : Type} {s : Nat} : ∀ (rows : List (List α)) (i j : Nat) (r : List α), (∀ r ∈ rows, r.length = s) → rows[i]? = some r → j < s → rows.flatten[i * s + j]? = r[j]?
  | [], i, j, r, _, h, _ => by simp at h
  | q :: rows, i, j, r, hs, h, hj => by
    have hq : q.length = s := hs q (by simp)
    rw [List.flatten_cons]
    cases i with
    | zero => simp at h; subst h; rw [List.getElem?_append_left (by omega)]; simp
    | succ i =>
      have := flatten_at rows i j r (fun r hr => hs r (by simp [hr])) (by simpa using h) hj
      rw [List.getElem?_append_right (by rw [hq, Nat.succ_mul]; omega), ← this, hq]
      congr 1
      rw [Nat.succ_mul]; omega
section
variable {α : Type} {s : Nat} {R : World → Nat → List Value → α → Prop} {w w' : World} {B B' n : Nat} {A : Option Addr} {ls : List α}
theorem flat_len {rows : List (List Value)} (h : ∀ r ∈ rows, r.length = s) : rows.flatten.length = rows.length * s := by
  induction rows with
  | nil => simp
  | cons r rows ih =>
    rw [List.flatten_cons, List.length_append, h r (by simp), ih (fun r hr => h r (by simp [hr])), List.length_cons, Nat.succ_mul]; omega
theorem RG.len (h : RG s R w B A n ls) (hs : 0 < s) : ls.length = n := by
  obtain ⟨rows, h1, h2, h3, _⟩ := h
  have := h3.len
  rw [flat_len h2] at this
  rw [← h1]
  exact Nat.eq_of_mul_eq_mul_right hs this
theorem RG.val (h : RG s R w B A n ls) (hs : 0 < s) {i : Nat} (hi : i < n) : ∃ b o r x, A = some ⟨b, o, none⟩ ∧ b < B ∧ (∀ j, j < s → w.cell? ⟨b, o + i * s + j, none⟩ = r[j]?) ∧ R w B r x ∧ Hid (ls[i]? = some x) ∧ x ∈ ls := by
  have hl := h.len hs
  obtain ⟨rows, h1, h2, h3, h4⟩ := h
  obtain ⟨b, o, hA, hb, hc⟩ := h3.at_ (by omega)
  have hi1 : i < rows.length := by omega
  have hi2 : i < ls.length := by omega
  refine ⟨b, o, rows[i], ls[i], hA, hb, fun j hj => ?_, h4 i _ _ (List.getElem?_eq_getElem hi1) (List.getElem?_eq_getElem hi2), List.getElem?_eq_getElem hi2, List.getElem_mem hi2⟩
  have hij : i * s + j < n * s := by
    have : (i + 1) * s ≤ n * s := Nat.mul_le_mul_right s hi
    rw [Nat.succ_mul] at this
    omega
  rw [Nat.add_assoc, hc _ hij, flatten_at rows i j _ h2 (List.getElem?_eq_getElem hi1) hj]
theorem RG.keep (h : RG s R w B A n ls) (hr : Rd w B s A n = Rd w B s A n) (hd : ∀ cs, Rd w B s A n cs → Rd w' B' s A n cs) (hR : ∀ r x, R w B r x → R w' B' r x) : RG s R w' B' A n ls := by
  obtain ⟨rows, h1, h2, h3, h4⟩ := h
  exact ⟨rows, h1, h2, hd _ h3, fun i r x hr hx => hR r x (h4 i r x hr hx)⟩
end

/-- A cell that is a slice of instructions. -/
def eC (w : World) (B : Nat) (r : List Value) (c : List Ins) : Prop := ∃ A n k, r = [.slice A n k] ∧ n ≤ k ∧ RO w B A n c
/-- Two cells that are a call. -/
def eL (w : World) (B : Nat) (r : List Value) (c : Cl) : Prop := ∃ A n k, r = [.int .i64 c.k, .slice A n k] ∧ n ≤ k ∧ RI w B .i64 A n c.ar
/-- A cell that is a slice of calls. -/
def eT (w : World) (B : Nat) (r : List Value) (t : List Cl) : Prop := ∃ A n k, r = [.slice A n k] ∧ n ≤ k ∧ RG 2 eL w B A n t
section
variable {w w' : World} {B B' n : Nat} {A : Option Addr}
theorem eC.below {r : List Value} {c : List Ins} (h : eC w B r c) (hb : Below B w w') : eC w' B r c := by obtain ⟨A, n, k, h1, h2, h3⟩ := h; exact ⟨A, n, k, h1, h2, h3.below hb⟩
theorem eC.more {r : List Value} {c : List Ins} (h : eC w B r c) (hB : B ≤ B') : eC w B' r c := by obtain ⟨A, n, k, h1, h2, h3⟩ := h; exact ⟨A, n, k, h1, h2, h3.more hB⟩
theorem eL.below {r : List Value} {c : Cl} (h : eL w B r c) (hb : Below B w w') : eL w' B r c := by obtain ⟨A, n, k, h1, h2, h3⟩ := h; exact ⟨A, n, k, h1, h2, h3.below hb⟩
theorem eL.more {r : List Value} {c : Cl} (h : eL w B r c) (hB : B ≤ B') : eL w B' r c := by obtain ⟨A, n, k, h1, h2, h3⟩ := h; exact ⟨A, n, k, h1, h2, h3.more hB⟩
/-- The codes of a machine. -/
def RCs (w : World) (B : Nat) (A : Option Addr) (n : Nat) (ls : List (List Ins)) : Prop := RG 1 eC w B A n ls
/-- The calls of a thread. -/
def RLs (w : World) (B : Nat) (A : Option Addr) (n : Nat) (ls : List Cl) : Prop := RG 2 eL w B A n ls
/-- The threads of a machine. -/
def RTs (w : World) (B : Nat) (A : Option Addr) (n : Nat) (ls : List (List Cl)) : Prop := RG 1 eT w B A n ls
theorem RCs.below {ls : List (List Ins)} (h : RCs w B A n ls) (hb : Below B w w') : RCs w' B A n ls := RG.keep h rfl (fun _ h => h.below hb) (fun _ _ h => eC.below h hb)
theorem RCs.more {ls : List (List Ins)} (h : RCs w B A n ls) (hB : B ≤ B') : RCs w B' A n ls := RG.keep h rfl (fun _ h => h.more hB) (fun _ _ h => eC.more h hB)
theorem RLs.below {ls : List Cl} (h : RLs w B A n ls) (hb : Below B w w') : RLs w' B A n ls := RG.keep h rfl (fun _ h => h.below hb) (fun _ _ h => eL.below h hb)
theorem RLs.more {ls : List Cl} (h : RLs w B A n ls) (hB : B ≤ B') : RLs w B' A n ls := RG.keep h rfl (fun _ h => h.more hB) (fun _ _ h => eL.more h hB)
theorem eT.below {r : List Value} {t : List Cl} (h : eT w B r t) (hb : Below B w w') : eT w' B r t := by obtain ⟨A, n, k, h1, h2, h3⟩ := h; exact ⟨A, n, k, h1, h2, RLs.below h3 hb⟩
theorem eT.more {r : List Value} {t : List Cl} (h : eT w B r t) (hB : B ≤ B') : eT w B' r t := by obtain ⟨A, n, k, h1, h2, h3⟩ := h; exact ⟨A, n, k, h1, h2, RLs.more h3 hB⟩
theorem RTs.below {ls : List (List Cl)} (h : RTs w B A n ls) (hb : Below B w w') : RTs w' B A n ls := RG.keep h rfl (fun _ h => h.below hb) (fun _ _ h => eT.below h hb)
theorem RTs.more {ls : List (List Cl)} (h : RTs w B A n ls) (hB : B ≤ B') : RTs w B' A n ls := RG.keep h rfl (fun _ h => h.more hB) (fun _ _ h => eT.more h hB)
theorem RCs.len {ls : List (List Ins)} (h : RCs w B A n ls) : ls.length = n := RG.len h (by decide)
theorem RLs.len {ls : List Cl} (h : RLs w B A n ls) : ls.length = n := RG.len h (by decide)
theorem RTs.len {ls : List (List Cl)} (h : RTs w B A n ls) : ls.length = n := RG.len h (by decide)
theorem RCs.val {ls : List (List Ins)} (h : RCs w B A n ls) {i : Nat} (hi : i < n) : ∃ b o A' n' k c, A = some ⟨b, o, none⟩ ∧ b < B ∧ w.cell? ⟨b, o + i, none⟩ = some (.slice A' n' k) ∧ n' ≤ k ∧ RO w B A' n' c ∧ Hid (ls[i]? = some c) ∧ c ∈ ls := by
  obtain ⟨b, o, r, x, h1, h2, h3, ⟨A', n', k, rfl, h4, h5⟩, h6, h7⟩ := RG.val h (by decide) hi
  have := h3 0 (by decide)
  rw [Nat.mul_one, Nat.add_zero] at this
  exact ⟨b, o, A', n', k, x, h1, h2, this, h4, h5, h6, h7⟩
theorem RLs.val {ls : List Cl} (h : RLs w B A n ls) {i : Nat} (hi : i < n) : ∃ b o q A' n' k ar, A = some ⟨b, o, none⟩ ∧ b < B ∧ w.cell? ⟨b, o + i * 2, none⟩ = some (.int .i64 q) ∧ w.cell? ⟨b, o + i * 2 + 1, none⟩ = some (.slice A' n' k) ∧ n' ≤ k ∧ RI w B .i64 A' n' ar ∧ Hid (ls[i]? = some ⟨q, ar⟩) ∧ Cl.mk q ar ∈ ls := by
  obtain ⟨b, o, r, x, h1, h2, h3, ⟨A', n', k, rfl, h4, h5⟩, h6, h7⟩ := RG.val h (by decide) hi
  exact ⟨b, o, x.k, A', n', k, x.ar, h1, h2, h3 0 (by decide), h3 1 (by decide), h4, h5, h6, h7⟩
theorem RTs.val {ls : List (List Cl)} (h : RTs w B A n ls) {i : Nat} (hi : i < n) : ∃ b o A' n' k t, A = some ⟨b, o, none⟩ ∧ b < B ∧ w.cell? ⟨b, o + i, none⟩ = some (.slice A' n' k) ∧ n' ≤ k ∧ RLs w B A' n' t ∧ Hid (ls[i]? = some t) ∧ t ∈ ls := by
  obtain ⟨b, o, r, x, h1, h2, h3, ⟨A', n', k, rfl, h4, h5⟩, h6, h7⟩ := RG.val h (by decide) hi
  have := h3 0 (by decide)
  rw [Nat.mul_one, Nat.add_zero] at this
  exact ⟨b, o, A', n', k, x, h1, h2, this, h4, h5, h6, h7⟩
end
end Go.Baro

set_option linter.unusedSimpArgs false
set_option linter.unusedVariables false
namespace Go.Baro
open Go.RowKit

/-- Of the blocks of world a none has turned but those of X. -/
structure Un (X : Nat → Prop) (a w : World) : Prop where
  os : w.os = a.os
  tape : w.tape = a.tape
  output : w.output = a.output
  size : a.heap.size ≤ w.heap.size
  block : ∀ k, k < a.heap.size → ¬ X k → w.heap[k]? = a.heap[k]?
section
variable {X : Nat → Prop} {a w w' : World}
theorem Un.refl (X : Nat → Prop) (a : World) : Un X a a := ⟨rfl, rfl, rfl, Nat.le_refl _, fun _ _ _ => rfl⟩
theorem Un.drew (h : Un X a w) : Un X a w.drew := ⟨h.os, h.tape, h.output, h.size, h.block⟩
theorem Un.drewN (h : Un X a w) (n : Nat) : Un X a (w.drewN n) := ⟨h.os, h.tape, h.output, h.size, h.block⟩
theorem Un.trans (h : Un X a w) (k : Un X w w') : Un X a w' := ⟨k.os.trans h.os, k.tape.trans h.tape, k.output.trans h.output, Nat.le_trans h.size k.size, fun i hi hx => (k.block i (Nat.lt_of_lt_of_le hi h.size) hx).trans (h.block i hi hx)⟩
theorem Un.wider {Y : Nat → Prop} (h : Un X a w) (hy : ∀ k, k < a.heap.size → X k → Y k) : Un Y a w := ⟨h.os, h.tape, h.output, h.size, fun k hk hx => h.block k hk fun h' => hx (hy k hk h')⟩
theorem un_grown {row : Option Nat} (h : Un X a w) (hg : w.grownBy w' row) (hX : ∀ k, row = some k → X k) : Un X a w' :=
  ⟨hg.os.trans h.os, hg.tape.trans h.tape, hg.output.trans h.output, Nat.le_trans h.size hg.size, fun k hk hx => (hg.block k (Nat.lt_of_lt_of_le hk h.size) fun e => hx (hX k e.symm)).trans (h.block k hk hx)⟩
theorem un_set {g : Nat} (h : Un X a w) (hg : w.grownBy w' (some g)) (hX : X g) : Un X a w' := un_grown h hg fun k e => by injection e with e; exact e ▸ hX
theorem Un.alloc (h : Un X a w) (o : Obj) : Un X a (w.alloc o) := un_grown h (World.grownBy_alloc w o none) (fun _ e => by cases e)
theorem un_at {b : Nat} (h : Un X a w) (hX : X b) (i : Nat) (u : Value) : Un X a (w.setCell ⟨b, i, none⟩ u) := un_set h (grown_setCell w ⟨b, i, none⟩ u) hX
theorem un_below (h : Below a.heap.size a w) : Un X a w := ⟨h.os, h.tape, h.output, h.size, fun k hk _ => h.block k hk⟩
/-- Where all of X lies from B on. -/
theorem Un.below {B : Nat} (h : Un X a w) (hB : B ≤ a.heap.size) (hX : ∀ k, k < B → ¬ X k) : Below B a w := ⟨h.os, h.tape, h.output, h.size, fun k hk => h.block k (by omega) (hX k hk)⟩
theorem Box.un {b : Nat} {t : TypeId} {cs : List Value} (h : Box a b t cs) (hu : Un X a w) (hb : ¬ X b) : Box w b t cs := (hu.block b h.lt hb).trans h
theorem own_un {b : Nat} {e : TypeId} {s n : Nat} {v : Value} {xs : List Value} (h : a.ownsRow b e s v n xs) (hu : Un X a w) (hX : ∀ k, v.ownBlock = some k → ¬ X k) : w.ownsRow b e s v n xs := by
  obtain ⟨h1, h2⟩ := h
  refine ⟨h1, ?_⟩
  rcases h2 with h2 | ⟨g, cap, cur, hv, hg, hh, hr⟩
  · exact Or.inl h2
  · have hlt : g < a.heap.size := by
      rcases Nat.lt_or_ge g a.heap.size with h | h
      · exact h
      · rw [Array.getElem?_eq_none h] at hh; cases hh
    exact Or.inr ⟨g, cap, cur, hv, hg, by rw [hu.block g hlt (hX g (by rw [hv]; rfl))]; exact hh, hr⟩
theorem Rd.un {B s n : Nat} {A : Option Addr} {cs : List Value} (h : Rd a B s A n cs) (hu : Un X a w) (hB : B ≤ a.heap.size) (hX : 0 < n → ∀ b o, A = some ⟨b, o, none⟩ → ¬ X b) : Rd w B s A n cs :=
  ⟨h.len, fun hn => by
    obtain ⟨b, o, hA, hb, hc⟩ := h.at_ hn
    exact ⟨b, o, hA, hb, fun j hj => (World.cell?_of_block (w := a) (a := ⟨b, o + j, none⟩) (hu.block b (by omega) (hX hn b o hA))).trans (hc j hj)⟩⟩
end
/-- The blocks that a worker's instruction may turn: its own, its registers', what it has told, the shared words. -/
def touch (b mb : Nat) (tv wv : Value) : Nat → Prop := fun k => k = b ∨ k = mb ∨ some k = tv.ownBlock ∨ some k = wv.ownBlock
theorem touch_b {b mb : Nat} {tv wv : Value} : touch b mb tv wv b := Or.inl rfl
theorem touch_w {b mb g o n c : Nat} {tv : Value} : touch b mb tv (.slice (some ⟨g, o, none⟩) n c) g := Or.inr (Or.inr (Or.inr rfl))
end Go.Baro
