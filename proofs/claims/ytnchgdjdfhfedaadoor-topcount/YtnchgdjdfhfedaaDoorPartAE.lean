/- Of this claim's own texts these, one behind the other: RunPure, LibM, LibU, LibT. No statement of the seat is proved here; no condition but those that stand at the theorems. -/
import Derived.Test.YtnchgdjdfhfedaaDoorPartAD
import Derived.Test.YtnchgdjdfhfedaaDoorPartAC
set_option linter.unusedSimpArgs false
set_option linter.unusedVariables false
namespace Go.Baro

/-- A call: the number of its code, its arguments. -/
structure Cl where
  k : Int
  ar : List Int
/-- A machine: the words, the codes, the calls of each thread. -/
structure Mc where
  ws : List Int
  cs : List (List Ins)
  ts : List (List Cl)
/-- An event. -/
structure Ev where
  st : Nat
  th : Nat
  cl : Nat
  en : Bool
  er : Int
  to : List Int

def okCl (m : Mc) (c : Cl) : Prop := (0 ≤ c.k ∧ c.k < m.cs.length) ∧ c.ar.length ≤ 8
/-- A valid machine. -/
def okMc (m : Mc) : Prop := m.ws.length ≤ 200 ∧ m.cs.length ≤ 8 ∧ m.ts.length ≤ 4 ∧ (∀ c ∈ m.cs, okC c) ∧ ∀ t ∈ m.ts, t.length ≤ 20 ∧ ∀ c ∈ t, okCl m c

/-- A thread within a call: the code, the next instruction, the registers, what it has told. -/
structure Lv where
  c : List Ins
  p : Int
  r : Int → Int
  t : List Int
/-- A thread: its call, if it is within one, and how many it has begun. -/
structure Td where
  now : Option Lv
  bg : Nat
/-- Where a run is. -/
structure Gs where
  w : List Int
  th : Nat → Td
  out : List Ev

def putT (f : Nat → Td) (n : Nat) (t : Td) : Nat → Td := fun i => if i = n then t else f i
def live (c : List Ins) (ar : List Int) : Lv := ⟨c, 0, (st0 ar []).r, []⟩
/-- An instruction of a thread: its call, the words, the error, and whether the call has ended. -/
def exc (l : Lv) (w : List Int) : Lv × List Int × Int × Bool :=
  if l.p = l.c.length then (l, w, 0, true)
  else
    let q := stp l.c.length (l.c[l.p.toNat]?.getD ⟨17, 0, 0, 0, 0⟩) ⟨l.p, l.r, w, l.t⟩
    (⟨l.c, q.1.p, q.1.r, q.1.t⟩, q.1.w, q.2, decide (q.2 ≠ 0 ∨ q.1.p = l.c.length))
/-- What a thread within a call does. -/
def actL (g : Gs) (st n : Nat) (bg : Nat) (l : Lv) (out : List Ev) : Gs :=
  let q := exc l g.w
  if q.2.2.2 then ⟨q.2.1, putT g.th n ⟨none, bg⟩, out ++ [⟨st, n, bg - 1, true, q.2.2.1, q.1.t⟩]⟩
  else ⟨q.2.1, putT g.th n ⟨some q.1, bg⟩, out⟩
/-- A step of thread n. -/
def actG (m : Mc) (g : Gs) (st n : Nat) : Gs :=
  match (g.th n).now with
  | some l => actL g st n (g.th n).bg l g.out
  | none =>
    match (m.ts[n]?.getD [])[(g.th n).bg]? with
    | none => g
    | some c => actL g st n ((g.th n).bg + 1) (live (m.cs[c.k.toNat]?.getD []) c.ar) (g.out ++ [⟨st, n, (g.th n).bg, false, 0, []⟩])
/-- A schedule from step st on. -/
def plyG (m : Mc) : Nat → List Nat → Gs → Gs
  | _, [], g => g
  | st, n :: l, g => plyG m (st + 1) l (actG m g st n)
def g0 (m : Mc) : Gs := ⟨m.ws, fun _ => ⟨none, 0⟩, []⟩

theorem plyG_append (m : Mc) : ∀ (a b : List Nat) (st : Nat) (g : Gs), plyG m st (a ++ b) g = plyG m (st + a.length) b (plyG m st a g)
  | [], b, st, g => rfl
  | n :: a, b, st, g => by
    show plyG m (st + 1) (a ++ b) _ = plyG m (st + (a.length + 1)) b (plyG m (st + 1) a _)
    rw [plyG_append m a b (st + 1), show st + 1 + a.length = st + (a.length + 1) by omega]

/-- A step adds events of this step alone. -/
theorem actL_out (g : Gs) (st n bg : Nat) (l : Lv) (out : List Ev) : ∃ es, (actL g st n bg l out).out = out ++ es ∧ ∀ e ∈ es, e.st = st := by
  unfold actL
  dsimp only
  by_cases h : (exc l g.w).2.2.2 = true
  · rw [if_pos h]; exact ⟨_, rfl, fun e he => by rw [List.mem_singleton.1 he]⟩
  · rw [if_neg h]; exact ⟨[], by simp, by simp⟩
theorem actG_out (m : Mc) (g : Gs) (st n : Nat) : ∃ es, (actG m g st n).out = g.out ++ es ∧ ∀ e ∈ es, e.st = st := by
  unfold actG
  cases (g.th n).now with
  | some l => exact actL_out _ _ _ _ _ _
  | none =>
    dsimp only
    cases (m.ts[n]?.getD [])[(g.th n).bg]? with
    | none => exact ⟨[], by simp, by simp⟩
    | some c =>
      obtain ⟨es, h1, h2⟩ := actL_out g st n ((g.th n).bg + 1) (live (m.cs[c.k.toNat]?.getD []) c.ar) (g.out ++ [⟨st, n, (g.th n).bg, false, 0, []⟩])
      refine ⟨[⟨st, n, (g.th n).bg, false, 0, []⟩] ++ es, by dsimp only; rw [h1, List.append_assoc], fun e he => ?_⟩
      rcases List.mem_append.1 he with he | he
      · rw [List.mem_singleton.1 he]
      · exact h2 e he
theorem plyG_out (m : Mc) : ∀ (l : List Nat) (st : Nat) (g : Gs), ∃ es, (plyG m st l g).out = g.out ++ es ∧ ∀ e ∈ es, st ≤ e.st ∧ e.st < st + l.length
  | [], st, g => ⟨[], by simp [plyG], by simp⟩
  | n :: l, st, g => by
    obtain ⟨e1, h1, h2⟩ := actG_out m g st n
    obtain ⟨e2, h3, h4⟩ := plyG_out m l (st + 1) (actG m g st n)
    refine ⟨e1 ++ e2, by show (plyG m (st + 1) l _).out = _; rw [h3, h1, List.append_assoc], fun e he => ?_⟩
    rw [List.length_cons]
    rcases List.mem_append.1 he with he | he
    · have := h2 e he; omega
    · have := h4 e he; omega
/-- A run under more of a schedule begins as the one under less. -/
theorem run_parts (m : Mc) (a b : List Nat) : ∃ es, (plyG m 0 (a ++ b) (g0 m)).out = (plyG m 0 a (g0 m)).out ++ es ∧ ∀ e ∈ es, a.length ≤ e.st := by
  rw [plyG_append]
  obtain ⟨es, h1, h2⟩ := plyG_out m b (0 + a.length) (plyG m 0 a (g0 m))
  exact ⟨es, h1, fun e he => by have := h2 e he; omega⟩

/-- Who has nothing to do: its step changes nothing. -/
theorem actG_idle {m : Mc} {g : Gs} {st n : Nat} (h : m.ts[n]?.getD [] = []) (hn : (g.th n).now = none) : actG m g st n = g := by
  unfold actG
  rw [hn, h]
  rfl
/-- Other threads are as they were. -/
theorem actL_th {g : Gs} {st n bg i : Nat} {l : Lv} {out : List Ev} (h : i ≠ n) : (actL g st n bg l out).th i = g.th i := by
  unfold actL putT
  dsimp only
  by_cases hq : (exc l g.w).2.2.2 = true
  · rw [if_pos hq]; dsimp only; rw [if_neg h]
  · rw [if_neg hq]; dsimp only; rw [if_neg h]
theorem actG_th {m : Mc} {g : Gs} {st n i : Nat} (h : i ≠ n) : (actG m g st n).th i = g.th i := by
  unfold actG
  cases (g.th n).now with
  | some l => exact actL_th h
  | none =>
    dsimp only
    cases (m.ts[n]?.getD [])[(g.th n).bg]? with
    | none => rfl
    | some c => exact actL_th h
end Go.Baro

set_option linter.unusedSimpArgs false
set_option linter.unusedVariables false
namespace Go.Baro
open Go.RowKit

/-- A slice whose elements, of s cells each, are of a sort R. -/
def RG {α : Type} (s : Nat) (R : World → Nat → List Value → α → Prop) (w : World) (B : Nat) (A : Option Addr) (n : Nat) (ls : List α) : Prop :=
  ∃ rows : List (List Value), rows.length = ls.length ∧ (∀ r ∈ rows, r.length = s) ∧ Rd w B s A n rows.flatten ∧ ∀ (i : Nat) r x, rows[i]? = some r → ls[i]? = some x → R w B r x
theorem flatten_at {α : Type} {s : Nat} : ∀ (rows : List (List α)) (i j : Nat) (r : List α), (∀ r ∈ rows, r.length = s) → rows[i]? = some r → j < s → rows.flatten[i * s + j]? = r[j]?
  | [], i, j, r, _, h, _ => by simp at h
  | q :: rows, i, j, r, hs, h, hj => by
    have hq : q.length = s := hs q (by simp)
    rw [List.flatten_cons]
    cases i with
    | zero => simp at h; subst h; rw [List.getElem?_append_left (by omega)]; simp
    | succ i =>
      have := flatten_at rows i j r (fun r hr => hs r (by simp [hr])) (by simpa using h) hj
      rw [List.getElem?_append_right (by rw [hq, Nat.succ_mul]; omega), ← this, hq]
      congr 1
      rw [Nat.succ_mul]; omega
section
variable {α : Type} {s : Nat} {R : World → Nat → List Value → α → Prop} {w w' : World} {B B' n : Nat} {A : Option Addr} {ls : List α}
theorem flat_len {rows : List (List Value)} (h : ∀ r ∈ rows, r.length = s) : rows.flatten.length = rows.length * s := by
  induction rows with
  | nil => simp
  | cons r rows ih =>
    rw [List.flatten_cons, List.length_append, h r (by simp), ih (fun r hr => h r (by simp [hr])), List.length_cons, Nat.succ_mul]; omega
theorem RG.len (h : RG s R w B A n ls) (hs : 0 < s) : ls.length = n := by
  obtain ⟨rows, h1, h2, h3, _⟩ := h
  have := h3.len
  rw [flat_len h2] at this
  rw [← h1]
  exact Nat.eq_of_mul_eq_mul_right hs this
theorem RG.val (h : RG s R w B A n ls) (hs : 0 < s) {i : Nat} (hi : i < n) : ∃ b o r x, A = some ⟨b, o, none⟩ ∧ b < B ∧ (∀ j, j < s → w.cell? ⟨b, o + i * s + j, none⟩ = r[j]?) ∧ R w B r x ∧ Hid (ls[i]? = some x) ∧ x ∈ ls := by
  have hl := h.len hs
  obtain ⟨rows, h1, h2, h3, h4⟩ := h
  obtain ⟨b, o, hA, hb, hc⟩ := h3.at_ (by omega)
  have hi1 : i < rows.length := by omega
  have hi2 : i < ls.length := by omega
  refine ⟨b, o, rows[i], ls[i], hA, hb, fun j hj => ?_, h4 i _ _ (List.getElem?_eq_getElem hi1) (List.getElem?_eq_getElem hi2), List.getElem?_eq_getElem hi2, List.getElem_mem hi2⟩
  have hij : i * s + j < n * s := by
    have : (i + 1) * s ≤ n * s := Nat.mul_le_mul_right s hi
    rw [Nat.succ_mul] at this
    omega
  rw [Nat.add_assoc, hc _ hij, flatten_at rows i j _ h2 (List.getElem?_eq_getElem hi1) hj]
theorem RG.keep (h : RG s R w B A n ls) (hr : Rd w B s A n = Rd w B s A n) (hd : ∀ cs, Rd w B s A n cs → Rd w' B' s A n cs) (hR : ∀ r x, R w B r x → R w' B' r x) : RG s R w' B' A n ls := by
  obtain ⟨rows, h1, h2, h3, h4⟩ := h
  exact ⟨rows, h1, h2, hd _ h3, fun i r x hr hx => hR r x (h4 i r x hr hx)⟩
end

/-- A cell that is a slice of instructions. -/
def eC (w : World) (B : Nat) (r : List Value) (c : List Ins) : Prop := ∃ A n k, r = [.slice A n k] ∧ n ≤ k ∧ RO w B A n c
/-- Two cells that are a call. -/
def eL (w : World) (B : Nat) (r : List Value) (c : Cl) : Prop := ∃ A n k, r = [.int .i64 c.k, .slice A n k] ∧ n ≤ k ∧ RI w B .i64 A n c.ar
/-- A cell that is a slice of calls. -/
def eT (w : World) (B : Nat) (r : List Value) (t : List Cl) : Prop := ∃ A n k, r = [.slice A n k] ∧ n ≤ k ∧ RG 2 eL w B A n t
section
variable {w w' : World} {B B' n : Nat} {A : Option Addr}
theorem eC.below {r : List Value} {c : List Ins} (h : eC w B r c) (hb : Below B w w') : eC w' B r c := by obtain ⟨A, n, k, h1, h2, h3⟩ := h; exact ⟨A, n, k, h1, h2, h3.below hb⟩
theorem eC.more {r : List Value} {c : List Ins} (h : eC w B r c) (hB : B ≤ B') : eC w B' r c := by obtain ⟨A, n, k, h1, h2, h3⟩ := h; exact ⟨A, n, k, h1, h2, h3.more hB⟩
theorem eL.below {r : List Value} {c : Cl} (h : eL w B r c) (hb : Below B w w') : eL w' B r c := by obtain ⟨A, n, k, h1, h2, h3⟩ := h; exact ⟨A, n, k, h1, h2, h3.below hb⟩
theorem eL.more {r : List Value} {c : Cl} (h : eL w B r c) (hB : B ≤ B') : eL w B' r c := by obtain ⟨A, n, k, h1, h2, h3⟩ := h; exact ⟨A, n, k, h1, h2, h3.more hB⟩
/-- The codes of a machine. -/
def RCs (w : World) (B : Nat) (A : Option Addr) (n : Nat) (ls : List (List Ins)) : Prop := RG 1 eC w B A n ls
/-- The calls of a thread. -/
def RLs (w : World) (B : Nat) (A : Option Addr) (n : Nat) (ls : List Cl) : Prop := RG 2 eL w B A n ls
/-- The threads of a machine. -/
def RTs (w : World) (B : Nat) (A : Option Addr) (n : Nat) (ls : List (List Cl)) : Prop := RG 1 eT w B A n ls
theorem RCs.below {ls : List (List Ins)} (h : RCs w B A n ls) (hb : Below B w w') : RCs w' B A n ls := RG.keep h rfl (fun _ h => h.below hb) (fun _ _ h => eC.below h hb)
theorem RCs.more {ls : List (List Ins)} (h : RCs w B A n ls) (hB : B ≤ B') : RCs w B' A n ls := RG.keep h rfl (fun _ h => h.more hB) (fun _ _ h => eC.more h hB)
theorem RLs.below {ls : List Cl} (h : RLs w B A n ls) (hb : Below B w w') : RLs w' B A n ls := RG.keep h rfl (fun _ h => h.below hb) (fun _ _ h => eL.below h hb)
theorem RLs.more {ls : List Cl} (h : RLs w B A n ls) (hB : B ≤ B') : RLs w B' A n ls := RG.keep h rfl (fun _ h => h.more hB) (fun _ _ h => eL.more h hB)
theorem eT.below {r : List Value} {t : List Cl} (h : eT w B r t) (hb : Below B w w') : eT w' B r t := by obtain ⟨A, n, k, h1, h2, h3⟩ := h; exact ⟨A, n, k, h1, h2, RLs.below h3 hb⟩
theorem eT.more {r : List Value} {t : List Cl} (h : eT w B r t) (hB : B ≤ B') : eT w B' r t := by obtain ⟨A, n, k, h1, h2, h3⟩ := h; exact ⟨A, n, k, h1, h2, RLs.more h3 hB⟩
theorem RTs.below {ls : List (List Cl)} (h : RTs w B A n ls) (hb : Below B w w') : RTs w' B A n ls := RG.keep h rfl (fun _ h => h.below hb) (fun _ _ h => eT.below h hb)
theorem RTs.more {ls : List (List Cl)} (h : RTs w B A n ls) (hB : B ≤ B') : RTs w B' A n ls := RG.keep h rfl (fun _ h => h.more hB) (fun _ _ h => eT.more h hB)
theorem RCs.len {ls : List (List Ins)} (h : RCs w B A n ls) : ls.length = n := RG.len h (by decide)
theorem RLs.len {ls : List Cl} (h : RLs w B A n ls) : ls.length = n := RG.len h (by decide)
theorem RTs.len {ls : List (List Cl)} (h : RTs w B A n ls) : ls.length = n := RG.len h (by decide)
theorem RCs.val {ls : List (List Ins)} (h : RCs w B A n ls) {i : Nat} (hi : i < n) : ∃ b o A' n' k c, A = some ⟨b, o, none⟩ ∧ b < B ∧ w.cell? ⟨b, o + i, none⟩ = some (.slice A' n' k) ∧ n' ≤ k ∧ RO w B A' n' c ∧ Hid (ls[i]? = some c) ∧ c ∈ ls := by
  obtain ⟨b, o, r, x, h1, h2, h3, ⟨A', n', k, rfl, h4, h5⟩, h6, h7⟩ := RG.val h (by decide) hi
  have := h3 0 (by decide)
  rw [Nat.mul_one, Nat.add_zero] at this
  exact ⟨b, o, A', n', k, x, h1, h2, this, h4, h5, h6, h7⟩
theorem RLs.val {ls : List Cl} (h : RLs w B A n ls) {i : Nat} (hi : i < n) : ∃ b o q A' n' k ar, A = some ⟨b, o, none⟩ ∧ b < B ∧ w.cell? ⟨b, o + i * 2, none⟩ = some (.int .i64 q) ∧ w.cell? ⟨b, o + i * 2 + 1, none⟩ = some (.slice A' n' k) ∧ n' ≤ k ∧ RI w B .i64 A' n' ar ∧ Hid (ls[i]? = some ⟨q, ar⟩) ∧ Cl.mk q ar ∈ ls := by
  obtain ⟨b, o, r, x, h1, h2, h3, ⟨A', n', k, rfl, h4, h5⟩, h6, h7⟩ := RG.val h (by decide) hi
  exact ⟨b, o, x.k, A', n', k, x.ar, h1, h2, h3 0 (by decide), h3 1 (by decide), h4, h5, h6, h7⟩
theorem RTs.val {ls : List (List Cl)} (h : RTs w B A n ls) {i : Nat} (hi : i < n) : ∃ b o A' n' k t, A = some ⟨b, o, none⟩ ∧ b < B ∧ w.cell? ⟨b, o + i, none⟩ = some (.slice A' n' k) ∧ n' ≤ k ∧ RLs w B A' n' t ∧ Hid (ls[i]? = some t) ∧ t ∈ ls := by
  obtain ⟨b, o, r, x, h1, h2, h3, ⟨A', n', k, rfl, h4, h5⟩, h6, h7⟩ := RG.val h (by decide) hi
  have := h3 0 (by decide)
  rw [Nat.mul_one, Nat.add_zero] at this
  exact ⟨b, o, A', n', k, x, h1, h2, this, h4, h5, h6, h7⟩
end
end Go.Baro

set_option linter.unusedSimpArgs false
set_option linter.unusedVariables false
namespace Go.Baro
open Go.RowKit

/-- Of the blocks of world a none has turned but those of X. -/
structure Un (X : Nat → Prop) (a w : World) : Prop where
  os : w.os = a.os
  tape : w.tape = a.tape
  output : w.output = a.output
  size : a.heap.size ≤ w.heap.size
  block : ∀ k, k < a.heap.size → ¬ X k → w.heap[k]? = a.heap[k]?
section
variable {X : Nat → Prop} {a w w' : World}
theorem Un.refl (X : Nat → Prop) (a : World) : Un X a a := ⟨rfl, rfl, rfl, Nat.le_refl _, fun _ _ _ => rfl⟩
theorem Un.drew (h : Un X a w) : Un X a w.drew := ⟨h.os, h.tape, h.output, h.size, h.block⟩
theorem Un.drewN (h : Un X a w) (n : Nat) : Un X a (w.drewN n) := ⟨h.os, h.tape, h.output, h.size, h.block⟩
theorem Un.trans (h : Un X a w) (k : Un X w w') : Un X a w' := ⟨k.os.trans h.os, k.tape.trans h.tape, k.output.trans h.output, Nat.le_trans h.size k.size, fun i hi hx => (k.block i (Nat.lt_of_lt_of_le hi h.size) hx).trans (h.block i hi hx)⟩
theorem Un.wider {Y : Nat → Prop} (h : Un X a w) (hy : ∀ k, k < a.heap.size → X k → Y k) : Un Y a w := ⟨h.os, h.tape, h.output, h.size, fun k hk hx => h.block k hk fun h' => hx (hy k hk h')⟩
theorem un_grown {row : Option Nat} (h : Un X a w) (hg : w.grownBy w' row) (hX : ∀ k, row = some k → X k) : Un X a w' :=
  ⟨hg.os.trans h.os, hg.tape.trans h.tape, hg.output.trans h.output, Nat.le_trans h.size hg.size, fun k hk hx => (hg.block k (Nat.lt_of_lt_of_le hk h.size) fun e => hx (hX k e.symm)).trans (h.block k hk hx)⟩
theorem un_set {g : Nat} (h : Un X a w) (hg : w.grownBy w' (some g)) (hX : X g) : Un X a w' := un_grown h hg fun k e => by injection e with e; exact e ▸ hX
theorem Un.alloc (h : Un X a w) (o : Obj) : Un X a (w.alloc o) := un_grown h (World.grownBy_alloc w o none) (fun _ e => by cases e)
theorem un_at {b : Nat} (h : Un X a w) (hX : X b) (i : Nat) (u : Value) : Un X a (w.setCell ⟨b, i, none⟩ u) := un_set h (grown_setCell w ⟨b, i, none⟩ u) hX
theorem un_below (h : Below a.heap.size a w) : Un X a w := ⟨h.os, h.tape, h.output, h.size, fun k hk _ => h.block k hk⟩
/-- Where all of X lies from B on. -/
theorem Un.below {B : Nat} (h : Un X a w) (hB : B ≤ a.heap.size) (hX : ∀ k, k < B → ¬ X k) : Below B a w := ⟨h.os, h.tape, h.output, h.size, fun k hk => h.block k (by omega) (hX k hk)⟩
theorem Box.un {b : Nat} {t : TypeId} {cs : List Value} (h : Box a b t cs) (hu : Un X a w) (hb : ¬ X b) : Box w b t cs := (hu.block b h.lt hb).trans h
theorem own_un {b : Nat} {e : TypeId} {s n : Nat} {v : Value} {xs : List Value} (h : a.ownsRow b e s v n xs) (hu : Un X a w) (hX : ∀ k, v.ownBlock = some k → ¬ X k) : w.ownsRow b e s v n xs := by
  obtain ⟨h1, h2⟩ := h
  refine ⟨h1, ?_⟩
  rcases h2 with h2 | ⟨g, cap, cur, hv, hg, hh, hr⟩
  · exact Or.inl h2
  · have hlt : g < a.heap.size := by
      rcases Nat.lt_or_ge g a.heap.size with h | h
      · exact h
      · rw [Array.getElem?_eq_none h] at hh; cases hh
    exact Or.inr ⟨g, cap, cur, hv, hg, by rw [hu.block g hlt (hX g (by rw [hv]; rfl))]; exact hh, hr⟩
theorem Rd.un {B s n : Nat} {A : Option Addr} {cs : List Value} (h : Rd a B s A n cs) (hu : Un X a w) (hB : B ≤ a.heap.size) (hX : 0 < n → ∀ b o, A = some ⟨b, o, none⟩ → ¬ X b) : Rd w B s A n cs :=
  ⟨h.len, fun hn => by
    obtain ⟨b, o, hA, hb, hc⟩ := h.at_ hn
    exact ⟨b, o, hA, hb, fun j hj => (World.cell?_of_block (w := a) (a := ⟨b, o + j, none⟩) (hu.block b (by omega) (hX hn b o hA))).trans (hc j hj)⟩⟩
end
/-- The blocks that a worker's instruction may turn: its own, its registers', what it has told, the shared words. -/
def touch (b mb : Nat) (tv wv : Value) : Nat → Prop := fun k => k = b ∨ k = mb ∨ some k = tv.ownBlock ∨ some k = wv.ownBlock
theorem touch_b {b mb : Nat} {tv wv : Value} : touch b mb tv wv b := Or.inl rfl
theorem touch_w {b mb g o n c : Nat} {tv : Value} : touch b mb tv (.slice (some ⟨g, o, none⟩) n c) g := Or.inr (Or.inr (Or.inr rfl))
end Go.Baro

set_option linter.unusedSimpArgs false
set_option linter.unusedVariables false
namespace Go.Baro
open Go.RowKit

/-- A slice that lies in a block of type e. -/
def QT (w : World) (e : TypeId) (s : Nat) (A : Option Addr) (n : Nat) (cs : List Value) : Prop :=
  cs.length = n * s ∧ (0 < n → ∃ b o cur fr, A = some ⟨b, o, none⟩ ∧ w.heap[b]? = some (.cells cur e fr) ∧ ∀ j, j < n * s → w.cell? ⟨b, o + j, none⟩ = cs[j]?)
/-- All blocks of cells are kept but those of the types of T. -/
structure Kc (T : TypeId → Prop) (w w' : World) : Prop where
  size : w.heap.size ≤ w'.heap.size
  block : ∀ (b : Nat) (cs : Array Value) (t : TypeId) (fr : Nat × Nat), w.heap[b]? = some (.cells cs t fr) → ¬ T t → w'.heap[b]? = some (.cells cs t fr)
section
variable {T : TypeId → Prop} {w w' w'' : World} {e t : TypeId} {s n : Nat} {A : Option Addr} {cs : List Value}
theorem lt_of_heap {b : Nat} {o : Obj} (h : w.heap[b]? = some o) : b < w.heap.size := (Array.getElem?_eq_some_iff.1 h).1
theorem Kc.refl (T : TypeId → Prop) (w : World) : Kc T w w := ⟨Nat.le_refl _, fun _ _ _ _ h _ => h⟩
theorem Kc.trans (h : Kc T w w') (k : Kc T w' w'') : Kc T w w'' := ⟨Nat.le_trans h.size k.size, fun i cs t fr h1 h2 => k.block i cs t fr (h.block i cs t fr h1 h2) h2⟩
theorem Kc.below (h : Below w.heap.size w w') : Kc T w w' := ⟨h.size, fun b cs t fr h1 _ => (h.block b (lt_of_heap h1)).trans h1⟩
theorem Kc.ext (h : Ord.Ext w w') : Kc T w w' := ⟨h.size, fun b cs t fr h1 _ => h.kept h1⟩
theorem Kc.un {X : Nat → Prop} (h : Un X w w') (hX : ∀ b cs t fr, X b → w.heap[b]? = some (.cells cs t fr) → T t) : Kc T w w' :=
  ⟨h.size, fun b cs t fr h1 h2 => (h.block b (lt_of_heap h1) fun hx => h2 (hX b cs t fr hx h1)).trans h1⟩
theorem Kc.grown {row : Option Nat} (hg : w.grownBy w' row) (hr : ∀ (b : Nat) (cs : Array Value) (t : TypeId) (fr : Nat × Nat), row = some b → w.heap[b]? = some (.cells cs t fr) → T t) : Kc T w w' :=
  ⟨hg.size, fun b cs t fr h1 h2 => (hg.block b (lt_of_heap h1) (fun e => h2 (hr b cs t fr e.symm h1))).trans h1⟩
theorem QT.rd (h : QT w e s A n cs) : Rd w w.heap.size s A n cs := by
  refine ⟨h.1, fun h0 => ?_⟩
  obtain ⟨b, o, cur, fr, hA, hb, hc⟩ := h.2 h0
  exact ⟨b, o, hA, lt_of_heap hb, hc⟩
theorem QT.kc (h : QT w e s A n cs) (hk : Kc T w w') (he : ¬ T e) : QT w' e s A n cs := by
  refine ⟨h.1, fun h0 => ?_⟩
  obtain ⟨b, o, cur, fr, hA, hb, hc⟩ := h.2 h0
  have hb' := hk.block b cur e fr hb he
  refine ⟨b, o, cur, fr, hA, hb', fun j hj => ?_⟩
  rw [← hc j hj]
  exact World.cell?_of_block (w := w) (a := ⟨b, o + j, none⟩) (hb'.trans hb.symm)
theorem QT.nil (w : World) (e : TypeId) (s : Nat) (A : Option Addr) : QT w e s A 0 [] := ⟨by simp, fun h => absurd h (by omega)⟩
theorem QT.own {B c : Nat} (h : w.ownsRow B e s (.slice A n c) n cs) : QT w e s A n cs := by
  refine ⟨h.1, fun hn => ?_⟩
  rcases h.2 with ⟨_, h0⟩ | ⟨g, cap, cur, hv, _, hh, hnc, _, hsz, htake⟩
  · omega
  · have hA : A = some ⟨g, 0, none⟩ := by injection hv
    subst hA
    refine ⟨g, 0, cur, (0, 0), rfl, hh, fun j hj => ?_⟩
    rw [Nat.zero_add, cell_of_row w g j cur e (0, 0) hh, ← htake, List.getElem?_take, if_pos hj]
    simp
theorem QT.box {b : Nat} (h : Box w b e cs) (hl : cs.length = n * s) : QT w e s (some ⟨b, 0, none⟩) n cs :=
  ⟨hl, fun _ => ⟨b, 0, cs.toArray, (0, 0), rfl, h, fun j _ => by rw [Nat.zero_add]; exact h.cell j⟩⟩
theorem Box.kc {b : Nat} (h : Box w b e cs) (hk : Kc T w w') (he : ¬ T e) : Box w' b e cs := hk.block b _ e (0, 0) h he
theorem own_kc {B : Nat} {v : Value} (h : w.ownsRow B e s v n cs) (hk : Kc T w w') (he : ¬ T e) : w'.ownsRow B e s v n cs := by
  refine ⟨h.1, ?_⟩
  rcases h.2 with h2 | ⟨g, cap, cur, hv, hg, hh, hr⟩
  · exact .inl h2
  · exact .inr ⟨g, cap, cur, hv, hg, hk.block g cur e (0, 0) hh he, hr⟩
end
/-- A full row is a block. -/
theorem own_boxT {w : World} {B m g : Nat} {e : TypeId} {xs : List Value} (h : w.ownsRow B e 1 (.slice (some ⟨g, 0, none⟩) m m) m xs) : Box w g e xs ∧ B ≤ g := by
  rcases h.2 with ⟨h, _⟩ | ⟨g', cap, cur, h1, h2, h3, h4, h5, h6, h7⟩
  · cases h
  · simp only [Value.slice.injEq, Option.some.injEq, Addr.mk.injEq, and_true, true_and] at h1
    obtain ⟨rfl, rfl⟩ := h1
    refine ⟨?_, h2⟩
    rw [List.take_of_length_le (by simp [h6])] at h7
    unfold Box
    rw [h3, ← h7]
/-- A call of the call's own: its arguments lie in a block of type ti. -/
def eA (ti : TypeId) (w : World) (r : List Value) (c : Cl) : Prop := ∃ A n k, r = [.int .i64 c.k, .slice A n k] ∧ n ≤ k ∧ QT w ti 1 A n (c.ar.map (Value.int .i64))
/-- The calls of a thread: a row of the call's own. -/
def Ca (ti e : TypeId) (w : World) (B : Nat) (v : Value) (ls : List Cl) : Prop :=
  ∃ rows : List (List Value), rows.length = ls.length ∧ (∀ r ∈ rows, r.length = 2) ∧ w.ownsRow B e 2 v ls.length rows.flatten ∧ ∀ (i : Nat) r x, rows[i]? = some r → ls[i]? = some x → eA ti w r x
section
variable {T : TypeId → Prop} {w w' : World} {ti e : TypeId} {B n : Nat} {v v' : Value} {ls : List Cl}
theorem eA.kc {r : List Value} {c : Cl} (h : eA ti w r c) (hk : Kc T w w') (he : ¬ T ti) : eA ti w' r c := by obtain ⟨A, n, k, h1, h2, h3⟩ := h; exact ⟨A, n, k, h1, h2, h3.kc hk he⟩
theorem Ca.nil (ti e : TypeId) (w : World) (B : Nat) : Ca ti e w B (.slice none 0 0) [] := ⟨[], rfl, by simp, World.ownsRow_nil _ _ _ _, fun i r x h => by simp at h⟩
theorem Ca.own (h : Ca ti e w B v ls) : ∃ rows : List (List Value), rows.length = ls.length ∧ w.ownsRow B e 2 v ls.length rows.flatten := by obtain ⟨rows, h1, _, h3, _⟩ := h; exact ⟨rows, h1, h3⟩
/-- The row is kept. -/
theorem Ca.un {X : Nat → Prop} (h : Ca ti e w B v ls) (hu : Un X w w') (ho : ∀ k, v.ownBlock = some k → ¬ X k) (hk : Kc T w w') (he : ¬ T ti) : Ca ti e w' B v ls := by
  obtain ⟨rows, h1, h2, h3, h4⟩ := h
  exact ⟨rows, h1, h2, own_un h3 hu ho, fun i r x hr hx => (h4 i r x hr hx).kc hk he⟩
theorem ca_snoc {rows : List (List Value)} {r : List Value} {x : Cl} (h1 : rows.length = ls.length) (h2 : ∀ r ∈ rows, r.length = 2) (h4 : ∀ (i : Nat) r x, rows[i]? = some r → ls[i]? = some x → eA ti w r x)
    (ho : w'.ownsRow B e 2 v' n (rows.flatten ++ r)) (hn : n = ls.length + 1) (hk : Kc T w w') (he : ¬ T ti) (hr : eA ti w r x) : Ca ti e w' B v' (ls ++ [x]) := by
  have hr2 : r.length = 2 := by obtain ⟨A, n, k, rfl, _⟩ := hr; rfl
  refine ⟨rows ++ [r], by simp [h1], fun q hq => ?_, ?_, fun i q y hq hy => ?_⟩
  · rcases List.mem_append.1 hq with hq | hq
    · exact h2 q hq
    · rw [List.mem_singleton.1 hq]; exact hr2
  · rw [List.flatten_append, List.length_append, List.length_singleton, ← hn]
    simpa using ho
  · rcases Nat.lt_trichotomy i rows.length with hi | hi | hi
    · rw [List.getElem?_append_left hi] at hq
      rw [List.getElem?_append_left (by omega)] at hy
      exact (h4 i q y hq hy).kc hk he
    · rw [List.getElem?_append_right (by omega), show i - rows.length = 0 by omega] at hq
      rw [List.getElem?_append_right (by omega), show i - ls.length = 0 by omega] at hy
      injection hq with hq
      injection hy with hy
      subst hq hy
      exact hr.kc hk he
    · rw [List.getElem?_eq_none (by simp; omega)] at hq; cases hq
theorem Ca.post (h : Ca ti e w B v ls) : ∃ A c, v = .slice A ls.length c ∧ ls.length ≤ c ∧ RLs w w.heap.size A ls.length ls := by
  obtain ⟨rows, h1, h2, h3, h4⟩ := h
  obtain ⟨A, c, rfl, hlc⟩ := own_form h3
  refine ⟨A, c, rfl, hlc, rows, h1, h2, Rd.of_own h3, fun i r x hr hx => ?_⟩
  obtain ⟨A, n, k, q1, q2, q3⟩ := h4 i r x hr hx
  exact ⟨A, n, k, q1, q2, q3.rd⟩
end
/-- Threads in memory whose calls are being written: block g6 holds them. tc: the type of a call; tt: that of a thread; ti: that of a number. -/
structure Mg (ti tc tt : TypeId) (tg : Nat → Nat) (w : World) (B g6 nt : Nat) (ts : Nat → Value) (T : Nat → List Cl) : Prop where
  thr : Box w g6 tt ((List.range nt).map ts)
  row : ∀ i, i < nt → Ca ti tc w B (ts i) (T i)
  tag : ∀ i, i < nt → ∀ k, (ts i).ownBlock = some k → tg k = i
  B6 : B ≤ g6
theorem range_set {α : Type} (f : α) (n q : Nat) (g : Nat → α) : ((List.range n).map g).set q f = (List.range n).map (fun i => if i = q then f else g i) := by
  apply List.ext_getElem?
  intro i
  rw [List.getElem?_set]
  by_cases hq : q = i
  · subst hq
    by_cases hn : q < n
    · simp [hn]
    · simp [hn, List.getElem?_eq_none (l := List.range n) (i := q) (by simp; omega)]
  · rw [if_neg hq, List.getElem?_map, List.getElem?_map]
    by_cases hn : i < n
    · simp [hn, Ne.symm hq]
    · simp [List.getElem?_eq_none (l := List.range n) (i := i) (by simp; omega)]
theorem range_at {α : Type} (g : Nat → α) {n q : Nat} (h : q < n) : ((List.range n).map g)[q]? = some (g q) := by simp [h]
section
variable {ti tc tt : TypeId} {tg : Nat → Nat} {w w' : World} {B g6 nt q : Nat} {ts : Nat → Value} {T : Nat → List Cl} {v' : Value}
theorem own_type {e : TypeId} {s n : Nat} {v : Value} {xs : List Value} {k : Nat} (h : w.ownsRow B e s v n xs) (hk : v.ownBlock = some k) : ∃ cs, w.heap[k]? = some (.cells cs e (0, 0)) := by
  rcases h.2 with ⟨rfl, _⟩ | ⟨g, cap, cur, rfl, _, hh, _⟩
  · cases hk
  · injection hk with hk
    subst hk
    exact ⟨cur, hh⟩
theorem own_same {e t : TypeId} {s n : Nat} {v : Value} {xs : List Value} {k : Nat} {cs : Array Value} {fr : Nat × Nat} (h : w.ownsRow B e s v n xs) (hk : v.ownBlock = some k) (hh : w.heap[k]? = some (.cells cs t fr)) : t = e := by
  obtain ⟨cs', h'⟩ := own_type h hk
  rw [h'] at hh
  injection hh with hh
  injection hh with _ hh
  exact hh.symm
/-- What is done to other blocks leaves the threads. -/
theorem Mg.un {X : Nat → Prop} (h : Mg ti tc tt tg w B g6 nt ts T) (hu : Un X w w') (hX : ∀ b cs t fr, X b → w.heap[b]? = some (.cells cs t fr) → t ≠ tc ∧ t ≠ tt ∧ t ≠ ti) : Mg ti tc tt tg w' B g6 nt ts T := by
  refine ⟨h.thr.un hu fun hx => (hX g6 _ _ _ hx h.thr).2.1 rfl, fun i hi => ?_, h.tag, h.B6⟩
  obtain ⟨rows, _, h3⟩ := (h.row i hi).own
  refine (h.row i hi).un (T := fun t => t ≠ ti) hu (fun k hk hx => ?_) (Kc.un hu fun b cs t fr hb hh => (hX b cs t fr hb hh).2.2) (by simp)
  obtain ⟨cs, hh⟩ := own_type h3 hk
  exact (hX k _ _ _ hx hh).1 rfl
theorem Mg.below (h : Mg ti tc tt tg w B g6 nt ts T) (hb : Below w.heap.size w w') : Mg ti tc tt tg w' B g6 nt ts T :=
  h.un (X := fun _ => False) (un_below hb) (fun _ _ _ _ hx => hx.elim)
/-- A call is added to thread q. -/
theorem Mg.push (h : Mg ti tc tt tg w B g6 nt ts T) (hq : q < nt) (hne : tc ≠ ti ∧ tt ≠ ti ∧ tc ≠ tt) {rows : List (List Value)} {r : List Value} {c : Cl} {n : Nat} (h1 : rows.length = (T q).length) (h2 : ∀ r ∈ rows, r.length = 2) (h4 : ∀ (i : Nat) r x, rows[i]? = some r → (T q)[i]? = some x → eA ti w r x)
    (h3 : w.ownsRow B tc 2 (ts q) (T q).length rows.flatten) (ho : w'.ownsRow B tc 2 v' n (rows.flatten ++ r)) (hn : n = (T q).length + 1) (hu : Un (fun k => some k = (ts q).ownBlock) w w') (hb : v'.ownBlock = (ts q).ownBlock ∨ ∃ k, v'.ownBlock = some k ∧ w.heap.size ≤ k) (hr : eA ti w r c) :
    Mg ti tc tt (fun k => if k < w.heap.size then tg k else q) (w'.setCell ⟨g6, q, none⟩ v') B g6 nt (fun i => if i = q then v' else ts i) (fun i => if i = q then T q ++ [c] else T i) ∧ Kc (fun t => t = tc ∨ t = tt) w (w'.setCell ⟨g6, q, none⟩ v') := by
  have hX : ∀ b cs t fr, some b = (ts q).ownBlock → w.heap[b]? = some (.cells cs t fr) → t = tc := fun b cs t fr hk ht => by
    obtain ⟨cs', hh⟩ := own_type h3 hk.symm
    rw [hh] at ht
    injection ht with ht
    injection ht with _ ht
    exact ht.symm
  have k1 : Kc (fun t => t = tc ∨ t = tt) w w' := Kc.un hu fun b cs t fr hb hh => .inl (hX b cs t fr hb hh)
  have hu2 : Un (fun k => k = g6) w' (w'.setCell ⟨g6, q, none⟩ v') := un_at (X := fun k => k = g6) (Un.refl _ _) rfl _ _
  have b6 : Box w' g6 tt ((List.range nt).map ts) := h.thr.un hu fun hx => hne.2.2 (hX g6 _ _ _ hx h.thr).symm
  have hX2 : ∀ b cs t fr, b = g6 → w'.heap[b]? = some (.cells cs t fr) → t = tt := fun b cs t fr hk ht => by
    subst hk
    have hh : w'.heap[b]? = _ := b6
    rw [hh] at ht
    injection ht with ht
    injection ht with _ ht
    exact ht.symm
  have k2 : Kc (fun t => t = tc ∨ t = tt) w' (w'.setCell ⟨g6, q, none⟩ v') := Kc.un hu2 fun b cs t fr hb hh => .inr (hX2 b cs t fr hb hh)
  have hti : ¬ (ti = tc ∨ ti = tt) := by
    rintro (h | h)
    · exact hne.1 h.symm
    · exact hne.2.1 h.symm
  have hrq : Ca ti tc w' B v' (T q ++ [c]) := ca_snoc h1 h2 h4 ho hn k1 hti hr
  have out6 : ∀ {v : Value} {ls : List Cl}, Ca ti tc w' B v ls → Ca ti tc (w'.setCell ⟨g6, q, none⟩ v') B v ls := fun {v ls} hc => by
    obtain ⟨rows', _, h3'⟩ := hc.own
    refine hc.un hu2 (fun k hk hx => ?_) k2 hti
    obtain ⟨cs, hh⟩ := own_type h3' hk
    exact hne.2.2 (hX2 k _ _ _ hx hh)
  refine ⟨⟨?_, fun i hi => ?_, fun i hi k hk => ?_, h.B6⟩, k1.trans k2⟩
  · have := b6.set q v'
    rw [range_set] at this
    exact this
  · by_cases hiq : i = q
    · subst hiq
      rw [if_pos rfl, if_pos rfl]
      exact out6 hrq
    · rw [if_neg hiq, if_neg hiq]
      exact out6 ((h.row i hi).un hu (fun k hk hx => by
        have e1 := h.tag i hi k hk
        have e2 := h.tag q hq k hx.symm
        exact hiq (e1.symm.trans e2)) k1 hti)
  · by_cases hiq : i = q
    · subst hiq
      rw [if_pos rfl] at hk
      rcases hb with hb | ⟨k', hb, hge⟩
      · rw [hb] at hk
        obtain ⟨cs, hh⟩ := own_type h3 hk
        rw [if_pos (lt_of_heap hh)]
        exact h.tag i hi k hk
      · rw [hb] at hk
        injection hk with hk
        subst hk
        rw [if_neg (by omega)]
    · rw [if_neg hiq] at hk
      obtain ⟨rows', _, h3'⟩ := (h.row i hi).own
      obtain ⟨cs, hh⟩ := own_type h3' hk
      rw [if_pos (lt_of_heap hh)]
      exact h.tag i hi k hk
/-- What a walk has when it has appended a call to thread q and stored the slice. -/
theorem Mg.call (h : Mg ti tc tt tg w B g6 nt ts T) (hq : q < nt) (hne : tc ≠ ti ∧ tt ≠ ti ∧ tc ≠ tt) {rows : List (List Value)} {r : List Value} {c : Cl} {w8 : World} {n : Nat} (h1 : rows.length = (T q).length) (h2 : ∀ r ∈ rows, r.length = 2) (h4 : ∀ (i : Nat) r x, rows[i]? = some r → (T q)[i]? = some x → eA ti w r x)
    (h3 : w.ownsRow B tc 2 (ts q) (T q).length rows.flatten) (hr : eA ti w r c) (ho : w8.ownsRow B tc 2 v' n (rows.flatten ++ r)) (hn : n = (T q).length + 1) (hg : (w.alloc (.cells r.toArray tc)).grownBy w8 (ts q).ownBlock) (hb : v'.ownBlock = (ts q).ownBlock ∨ v'.ownBlock = some (w.heap.size + 1)) :
    ∃ tg', Mg ti tc tt tg' (w8.setCell ⟨g6, q, none⟩ v') B g6 nt (fun i => if i = q then v' else ts i) (fun i => if i = q then T q ++ [c] else T i) ∧ Kc (fun t => t = tc ∨ t = tt) w (w8.setCell ⟨g6, q, none⟩ v') ∧ ∀ (a : World) (Z : Nat), Z ≤ B → B ≤ w.heap.size → Below Z a w → Below Z a (w8.setCell ⟨g6, q, none⟩ v') := by
  have hA := (Below.refl w.heap.size w).alloc (Nat.le_refl _) (.cells r.toArray tc)
  have kA : Kc (fun t => t = tc ∨ t = tt) w (w.alloc (.cells r.toArray tc)) := Kc.below hA
  have hti : ¬ (ti = tc ∨ ti = tt) := by
    rintro (h | h)
    · exact hne.1 h.symm
    · exact hne.2.1 h.symm
  have h3A := h3.alloc (.cells r.toArray tc)
  obtain ⟨m1, m2⟩ := (h.below hA).push hq hne h1 h2 (fun i r x hr hx => (h4 i r x hr hx).kc kA hti) h3A ho hn (un_grown (X := fun k => some k = (ts q).ownBlock) (Un.refl _ _) hg (fun k hk => hk.symm)) (by
    rcases hb with hb | hb
    · exact .inl hb
    · exact .inr ⟨_, hb, by simp⟩) (hr.kc kA hti)
  refine ⟨_, m1, kA.trans m2, fun a Z hZ hBw hz => ?_⟩
  have hs := hz.size
  have h5 : Below Z a (w.alloc (.cells r.toArray tc)) := hz.alloc (Nat.le_trans hZ hBw) _
  have h6 : Below Z a w8 := h5.grown hg (by simp; omega) (fun k hk => Nat.le_trans hZ (h3A.lt k hk).1)
  exact below_at h6 (Nat.le_trans hZ h.B6) _ _
theorem Mg.made (w : World) (ti tc tt : TypeId) {B g6 nt : Nat} (h : Box w g6 tt (List.replicate nt (.slice none 0 0))) (hB : B ≤ g6) : Mg ti tc tt (fun _ => 0) w B g6 nt (fun _ => .slice none 0 0) (fun _ => []) := by
  refine ⟨?_, fun i hi => Ca.nil _ _ _ _, fun i hi k hk => (by cases hk), hB⟩
  have : (List.range nt).map (fun _ => Value.slice none 0 0) = List.replicate nt (.slice none 0 0) := by
    apply List.ext_getElem?
    intro i
    by_cases hi : i < nt
    · simp [hi]
    · rw [List.getElem?_eq_none (by simp; omega), List.getElem?_eq_none (by simp; omega)]
  rw [this]
  exact h
theorem flat_two : ∀ (rows : List (List Value)) (i : Nat) (a b u : Value), (∀ r ∈ rows, r.length = 2) → rows[i]? = some [a, b] → rows.flatten.set (i * 2 + 1) u = (rows.set i [a, u]).flatten
  | [], i, a, b, u, _, h => by simp at h
  | r :: rows, 0, a, b, u, _, h => by
    simp only [List.getElem?_cons_zero, Option.some.injEq] at h
    subst h
    simp
  | r :: rows, i + 1, a, b, u, hr, h => by
    have ih := flat_two rows i a b u (fun q hq => hr q (by simp [hq])) (by simpa using h)
    have h2 := hr r (by simp)
    match r, h2 with
    | [x, y], _ => rw [List.flatten_cons, List.set_cons_succ, List.flatten_cons, ← ih, show (i + 1) * 2 + 1 = i * 2 + 1 + 1 + 1 by omega]; rfl
/-- The arguments of the i-th call of thread q are others then. -/
theorem Mg.args (h : Mg ti tc tt tg w B g6 nt ts T) (hq : q < nt) (hne : tc ≠ ti ∧ tt ≠ ti ∧ tc ≠ tt) {g n c i k m : Nat} {x : Cl} {A : Option Addr} {ar : List Int} (hv : ts q = .slice (some ⟨g, 0, none⟩) n c) (hn : n = (T q).length) (hx : (T q)[i]? = some x) (hmk : m ≤ k) (ha : QT w ti 1 A m (ar.map (Value.int .i64))) :
    Mg ti tc tt tg (w.setCell ⟨g, i * 2 + 1, none⟩ (.slice A m k)) B g6 nt ts (fun t => if t = q then (T q).set i ⟨x.k, ar⟩ else T t) ∧ Kc (fun t => t = tc) w (w.setCell ⟨g, i * 2 + 1, none⟩ (.slice A m k)) := by
  obtain ⟨rows, h1, h2, h3, h4⟩ := h.row q hq
  rw [hv, ← hn] at h3
  have hi := (List.getElem?_eq_some_iff.1 hx).1
  have hri : rows[i]? = some rows[i] := List.getElem?_eq_getElem (by omega)
  obtain ⟨A0, n0, k0, e0, _, _⟩ := h4 i _ _ hri hx
  rw [e0] at hri
  have hst := (World.ownsRow.stored h3 (i * 2 + 1) (.slice A m k))
  have hg : w.grownBy (w.setCell ⟨g, i * 2 + 1, none⟩ (.slice A m k)) (some g) := hst.2
  have hX : ∀ b cs t fr, b = g → w.heap[b]? = some (.cells cs t fr) → t = tc := fun b cs t fr hb hh => by
    subst hb
    exact own_same h3 rfl hh
  have hu : Un (fun b => b = g) w (w.setCell ⟨g, i * 2 + 1, none⟩ (.slice A m k)) := un_set (X := fun b => b = g) (Un.refl _ _) hg rfl
  have kk : Kc (fun t => t = tc) w (w.setCell ⟨g, i * 2 + 1, none⟩ (.slice A m k)) := Kc.un hu hX
  have hti : ¬ (ti = tc) := fun h => hne.1 h.symm
  refine ⟨⟨h.thr.un hu fun hx => hne.2.2 (hX g6 _ _ _ hx h.thr).symm, fun t ht => ?_, h.tag, h.B6⟩, kk⟩
  by_cases htq : t = q
  · subst htq
    rw [if_pos rfl]
    have hrl : i < rows.length := by omega
    refine ⟨rows.set i [.int .i64 x.k, .slice A m k], by simp [h1], fun r hr => ?_, ?_, fun j r y hr hy => ?_⟩
    · rcases List.mem_or_eq_of_mem_set hr with hr | hr
      · exact h2 r hr
      · rw [hr]; rfl
    · rw [← flat_two rows i _ _ _ h2 hri, List.length_set, ← hn, hv]
      exact hst.1
    · by_cases hji : i = j
      · subst hji
        rw [List.getElem?_set_self hrl] at hr
        rw [List.getElem?_set_self hi] at hy
        injection hr with hr
        injection hy with hy
        subst hr hy
        exact ⟨A, m, k, rfl, hmk, ha.kc kk hti⟩
      · rw [List.getElem?_set_ne hji] at hr hy
        exact (h4 j r y hr hy).kc kk hti
  · rw [if_neg htq]
    refine (h.row t ht).un hu (fun b hb hx => ?_) kk hti
    have e1 := h.tag t ht b hb
    have e2 := h.tag q hq b (by rw [hv, hx]; rfl)
    exact htq (e1.symm.trans e2)
theorem Mg.congr {T' : Nat → List Cl} (h : Mg ti tc tt tg w B g6 nt ts T) (hT : ∀ i, i < nt → T i = T' i) : Mg ti tc tt tg w B g6 nt ts T' := ⟨h.thr, fun i hi => (hT i hi) ▸ h.row i hi, h.tag, h.B6⟩
/-- The threads as a machine has them. -/
theorem Mg.rts (h : Mg ti tc tt tg w B g6 nt ts T) : RTs w w.heap.size (some ⟨g6, 0, none⟩) nt ((List.range nt).map T) := by
  refine ⟨(List.range nt).map (fun i => [ts i]), by simp, fun r hr => ?_, ?_, fun i r x hr hx => ?_⟩
  · obtain ⟨i, _, rfl⟩ := List.mem_map.1 hr; rfl
  · have e : ((List.range nt).map (fun i => [ts i])).flatten = (List.range nt).map ts := by
      induction (List.range nt) with
      | nil => rfl
      | cons a l ih => simp [ih]
    rw [e]
    exact ⟨by simp, fun _ => ⟨g6, 0, rfl, lt_of_heap h.thr, fun j _ => by rw [Nat.zero_add]; exact h.thr.cell j⟩⟩
  · have hi : i < nt := by
      have := (List.getElem?_eq_some_iff.1 hx).1
      simpa using this
    rw [range_at _ hi] at hr hx
    injection hr with hr
    injection hx with hx
    subst hr hx
    obtain ⟨A, c, hv, hlc, hrl⟩ := (h.row i hi).post
    exact ⟨A, (T i).length, c, by rw [hv], hlc, hrl⟩
end
end Go.Baro
