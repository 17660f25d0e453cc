/- Threads of the register machine under a schedule, as a function of lists. No statement of the seat is proved here; no condition. -/
import Derived.Test.YtjihopbapnfppaaDoorVmPure
set_option linter.unusedSimpArgs false
set_option linter.unusedVariables false
namespace Go.Baro

/-- A call: the number of its code, its arguments. -/
structure Cl where
  k : Int
  ar : List Int
/-- A machine: the words, the codes, the calls of each thread. -/
structure Mc where
  ws : List Int
  cs : List (List Ins)
  ts : List (List Cl)
/-- An event. -/
structure Ev where
  st : Nat
  th : Nat
  cl : Nat
  en : Bool
  er : Int
  to : List Int

def okCl (m : Mc) (c : Cl) : Prop := (0 ≤ c.k ∧ c.k < m.cs.length) ∧ c.ar.length ≤ 8
/-- A valid machine. -/
def okMc (m : Mc) : Prop := m.ws.length ≤ 200 ∧ m.cs.length ≤ 8 ∧ m.ts.length ≤ 4 ∧ (∀ c ∈ m.cs, okC c) ∧ ∀ t ∈ m.ts, t.length ≤ 20 ∧ ∀ c ∈ t, okCl m c

/-- A thread within a call: the code, the next instruction, the registers, what it has told. -/
structure Lv where
  c : List Ins
  p : Int
  r : Int → Int
  t : List Int
/-- A thread: its call, if it is within one, and how many it has begun. -/
structure Td where
  now : Option Lv
  bg : Nat
/-- Where a run is. -/
structure Gs where
  w : List Int
  th : Nat → Td
  out : List Ev

def putT (f : Nat → Td) (n : Nat) (t : Td) : Nat → Td := fun i => if i = n then t else f i
def live (c : List Ins) (ar : List Int) : Lv := ⟨c, 0, (st0 ar []).r, []⟩
/-- An instruction of a thread: its call, the words, the error, and whether the call has ended. -/
def exc (l : Lv) (w : List Int) : Lv × List Int × Int × Bool :=
  if l.p = l.c.length then (l, w, 0, true)
  else
    let q := stp l.c.length (l.c[l.p.toNat]?.getD ⟨17, 0, 0, 0, 0⟩) ⟨l.p, l.r, w, l.t⟩
    (⟨l.c, q.1.p, q.1.r, q.1.t⟩, q.1.w, q.2, decide (q.2 ≠ 0 ∨ q.1.p = l.c.length))
/-- What a thread within a call does. -/
def actL (g : Gs) (st n : Nat) (bg : Nat) (l : Lv) (out : List Ev) : Gs :=
  let q := exc l g.w
  if q.2.2.2 then ⟨q.2.1, putT g.th n ⟨none, bg⟩, out ++ [⟨st, n, bg - 1, true, q.2.2.1, q.1.t⟩]⟩
  else ⟨q.2.1, putT g.th n ⟨some q.1, bg⟩, out⟩
/-- A step of thread n. -/
def actG (m : Mc) (g : Gs) (st n : Nat) : Gs :=
  match (g.th n).now with
  | some l => actL g st n (g.th n).bg l g.out
  | none =>
    match (m.ts[n]?.getD [])[(g.th n).bg]? with
    | none => g
    | some c => actL g st n ((g.th n).bg + 1) (live (m.cs[c.k.toNat]?.getD []) c.ar) (g.out ++ [⟨st, n, (g.th n).bg, false, 0, []⟩])
/-- A schedule from step st on. -/
def plyG (m : Mc) : Nat → List Nat → Gs → Gs
  | _, [], g => g
  | st, n :: l, g => plyG m (st + 1) l (actG m g st n)
def g0 (m : Mc) : Gs := ⟨m.ws, fun _ => ⟨none, 0⟩, []⟩

theorem plyG_append (m : Mc) : ∀ (a b : List Nat) (st : Nat) (g : Gs), plyG m st (a ++ b) g = plyG m (st + a.length) b (plyG m st a g)
  | [], b, st, g => rfl
  | n :: a, b, st, g => by
    show plyG m (st + 1) (a ++ b) _ = plyG m (st + (a.length + 1)) b (plyG m (st + 1) a _)
    rw [plyG_append m a b (st + 1), show st + 1 + a.length = st + (a.length + 1) by omega]

/-- A step adds events of this step alone. -/
theorem actL_out (g : Gs) (st n bg : Nat) (l : Lv) (out : List Ev) : ∃ es, (actL g st n bg l out).out = out ++ es ∧ ∀ e ∈ es, e.st = st := by
  unfold actL
  dsimp only
  by_cases h : (exc l g.w).2.2.2 = true
  · rw [if_pos h]; exact ⟨_, rfl, fun e he => by rw [List.mem_singleton.1 he]⟩
  · rw [if_neg h]; exact ⟨[], by simp, by simp⟩
theorem actG_out (m : Mc) (g : Gs) (st n : Nat) : ∃ es, (actG m g st n).out = g.out ++ es ∧ ∀ e ∈ es, e.st = st := by
  unfold actG
  cases (g.th n).now with
  | some l => exact actL_out _ _ _ _ _ _
  | none =>
    dsimp only
    cases (m.ts[n]?.getD [])[(g.th n).bg]? with
    | none => exact ⟨[], by simp, by simp⟩
    | some c =>
      obtain ⟨es, h1, h2⟩ := actL_out g st n ((g.th n).bg + 1) (live (m.cs[c.k.toNat]?.getD []) c.ar) (g.out ++ [⟨st, n, (g.th n).bg, false, 0, []⟩])
      refine ⟨[⟨st, n, (g.th n).bg, false, 0, []⟩] ++ es, by dsimp only; rw [h1, List.append_assoc], fun e he => ?_⟩
      rcases List.mem_append.1 he with he | he
      · rw [List.mem_singleton.1 he]
      · exact h2 e he
theorem plyG_out (m : Mc) : ∀ (l : List Nat) (st : Nat) (g : Gs), ∃ es, (plyG m st l g).out = g.out ++ es ∧ ∀ e ∈ es, st ≤ e.st ∧ e.st < st + l.length
  | [], st, g => ⟨[], by simp [plyG], by simp⟩
  | n :: l, st, g => by
    obtain ⟨e1, h1, h2⟩ := actG_out m g st n
    obtain ⟨e2, h3, h4⟩ := plyG_out m l (st + 1) (actG m g st n)
    refine ⟨e1 ++ e2, by show (plyG m (st + 1) l _).out = _; rw [h3, h1, List.append_assoc], fun e he => ?_⟩
    rw [List.length_cons]
    rcases List.mem_append.1 he with he | he
    · have := h2 e he; omega
    · have := h4 e he; omega
/-- A run under more of a schedule begins as the one under less. -/
theorem run_parts (m : Mc) (a b : List Nat) : ∃ es, (plyG m 0 (a ++ b) (g0 m)).out = (plyG m 0 a (g0 m)).out ++ es ∧ ∀ e ∈ es, a.length ≤ e.st := by
  rw [plyG_append]
  obtain ⟨es, h1, h2⟩ := plyG_out m b (0 + a.length) (plyG m 0 a (g0 m))
  exact ⟨es, h1, fun e he => by have := h2 e he; omega⟩

/-- Who has nothing to do: its step changes nothing. -/
theorem actG_idle {m : Mc} {g : Gs} {st n : Nat} (h : m.ts[n]?.getD [] = []) (hn : (g.th n).now = none) : actG m g st n = g := by
  unfold actG
  rw [hn, h]
  rfl
/-- Other threads are as they were. -/
theorem actL_th {g : Gs} {st n bg i : Nat} {l : Lv} {out : List Ev} (h : i ≠ n) : (actL g st n bg l out).th i = g.th i := by
  unfold actL putT
  dsimp only
  by_cases hq : (exc l g.w).2.2.2 = true
  · rw [if_pos hq]; dsimp only; rw [if_neg h]
  · rw [if_neg hq]; dsimp only; rw [if_neg h]
theorem actG_th {m : Mc} {g : Gs} {st n i : Nat} (h : i ≠ n) : (actG m g st n).th i = g.th i := by
  unfold actG
  cases (g.th n).now with
  | some l => exact actL_th h
  | none =>
    dsimp only
    cases (m.ts[n]?.getD [])[(g.th n).bg]? with
    | none => rfl
    | some c => exact actL_th h
end Go.Baro
