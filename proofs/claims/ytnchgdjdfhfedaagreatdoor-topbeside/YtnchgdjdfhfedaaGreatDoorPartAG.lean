/- Of this claim's own texts these, one behind the other: LibE, RunPure4, RunSpec, SameIntsK, KeepRun1, KeepSched, RanPure. No statement of the seat is proved here; no condition but those that stand at the theorems. -/
import Derived.Test.YtnchgdjdfhfedaaGreatDoorPartAD
import Derived.Test.YtnchgdjdfhfedaaGreatDoorPartAE
import Derived.Test.YtnchgdjdfhfedaaGreatDoorPartAF
import Derived.Test.YtnchgdjdfhfedaaGreatDoorRows
import Derived.Test.YtnchgdjdfhfedaaGreatDoorPartAC
set_option linter.unusedSimpArgs false
set_option linter.unusedVariables false
namespace Go.Baro
open Go.RowKit

section
variable {P : Program} {t e : TypeId} {z : Value} {s by' : Nat} {ops : Array Oper} {rest : List Oper} {o : Oper} {a : Act} {Q : Exit → Act → World → Prop}
/-- append(v, x..) where x is a row that was written out just ahead of it; which block the new row lies in. -/
theorem app_litB (E : Elt P t e z s by') (w : World) (hgd : o.guard = none) (l x : Operand) (ho : o.op = .call { callee := .builtin .append, args := #[l, x], argTypes := #[t, t] })
    (base : Nat) (v : Value) (n : Nat) (xs : List Value) (hs : a.eval l = v) (hown : w.ownsRow base e s v n xs) (m : Nat) (cs : List Value)
    (g : Nat) (hg : g = w.heap.size) (hx : a.eval x = .slice (some ⟨g, 0, none⟩) m m) (hl : cs.length = m * s) (h1 : ∀ u ∈ cs, u.oneCell' = true) (hn : (n + m) * by' ≤ 140737488355328) (hn' : n + m ≤ 140737488355328) (hb : base ≤ w.heap.size)
    (h : ∀ v' w', w'.ownsRow base e s v' (n + m) (xs ++ cs) → (w.alloc (.cells cs.toArray e)).grownBy w' v.ownBlock → (v'.ownBlock = v.ownBlock ∨ v'.ownBlock = some (w.heap.size + 1)) → wpList P ops Q rest (a.put o.dst v') w') :
    wpList P ops Q (o :: rest) a (w.alloc (.cells cs.toArray e)) := by
  subst hg
  refine app_srcB E (w.alloc (.cells cs.toArray e)) hgd l x ho base v n xs hs (hown.alloc _) _ m m cs hx _ (Rd.lit w e hl) h1 hn hn' (by simp; omega) ?_
  intro v' w' h1 h2 _ _ h3
  refine h v' w' h1 h2 ?_
  rw [show (w.alloc (.cells cs.toArray e)).heap.size = w.heap.size + 1 by simp] at h3
  exact h3
theorem app_litBd (E : Elt P t e z s by') (w : World) (hgd : o.guard = none) (l x : Operand) (ho : o.op = .call { callee := .builtin .append, args := #[l, x], argTypes := #[t, t] })
    (base : Nat) (v : Value) (n : Nat) (xs : List Value) (hs : a.eval l = v) (hown : w.ownsRow base e s v n xs) (m : Nat) (cs : List Value)
    (g : Nat) (hg : g = w.heap.size) (hx : a.eval x = .slice (some ⟨g, 0, none⟩) m m) (hl : cs.length = m * s) (h1 : ∀ u ∈ cs, u.oneCell' = true) (hn : (n + m) * by' ≤ 140737488355328) (hn' : n + m ≤ 140737488355328) (hb : base ≤ w.heap.size)
    (h : ∀ v' w', w'.ownsRow base e s v' (n + m) (xs ++ cs) → (w.alloc (.cells cs.toArray e)).grownBy w' v.ownBlock → (v'.ownBlock = v.ownBlock ∨ v'.ownBlock = some (w.heap.size + 1)) → wpList P ops Q rest (a.put o.dst v') w') :
    wpList P ops Q (o :: rest) a (w.alloc (.cells cs.toArray e)).drew :=
  app_litB E w.drew hgd l x ho base v n xs hs hown m cs g hg hx hl h1 hn hn' hb fun v' w' h1 h2 h3 => h v' w' h1 ⟨h2.os, h2.tape, h2.output, h2.size, h2.block⟩ h3
end

/-- The six cells of an event. -/
def evC (x : Ev) (v : Value) : List Value := [.int .i64 x.st, .int .i64 x.th, .int .i64 x.cl, .bool x.en, .int .i64 x.er, v]
/-- Six cells that are an event. -/
def eE (w : World) (B : Nat) (r : List Value) (x : Ev) : Prop := ∃ A n k, r = evC x (.slice A n k) ∧ n ≤ k ∧ n ≤ 200 ∧ RI w B .i64 A n x.to
def REv (w : World) (B : Nat) (A : Option Addr) (n : Nat) (ls : List Ev) : Prop := RG 6 eE w B A n ls
section
variable {w w' : World} {B B' n : Nat} {A : Option Addr} {ls : List Ev}
theorem eE.below {r : List Value} {x : Ev} (h : eE w B r x) (hb : Below B w w') : eE w' B r x := by obtain ⟨A, n, k, h1, h2, h3, h4⟩ := h; exact ⟨A, n, k, h1, h2, h3, h4.below hb⟩
theorem eE.more {r : List Value} {x : Ev} (h : eE w B r x) (hB : B ≤ B') : eE w B' r x := by obtain ⟨A, n, k, h1, h2, h3, h4⟩ := h; exact ⟨A, n, k, h1, h2, h3, h4.more hB⟩
theorem REv.below (h : REv w B A n ls) (hb : Below B w w') : REv w' B A n ls := RG.keep h rfl (fun _ h => h.below hb) (fun _ _ h => eE.below h hb)
theorem REv.more (h : REv w B A n ls) (hB : B ≤ B') : REv w B' A n ls := RG.keep h rfl (fun _ h => h.more hB) (fun _ _ h => eE.more h hB)
theorem REv.len (h : REv w B A n ls) : ls.length = n := RG.len h (by decide)
theorem REv.val (h : REv w B A n ls) {i : Nat} (hi : i < n) : ∃ b o A' n' k x, A = some ⟨b, o, none⟩ ∧ b < B ∧ w.cell? ⟨b, o + i * 6, none⟩ = some (.int .i64 x.st) ∧ w.cell? ⟨b, o + i * 6 + 1, none⟩ = some (.int .i64 x.th) ∧ w.cell? ⟨b, o + i * 6 + 2, none⟩ = some (.int .i64 x.cl) ∧
    w.cell? ⟨b, o + i * 6 + 3, none⟩ = some (.bool x.en) ∧ w.cell? ⟨b, o + i * 6 + 4, none⟩ = some (.int .i64 x.er) ∧ w.cell? ⟨b, o + i * 6 + 5, none⟩ = some (.slice A' n' k) ∧ n' ≤ k ∧ n' ≤ 200 ∧ RI w B .i64 A' n' x.to ∧ Hid (ls[i]? = some x) ∧ x ∈ ls := by
  obtain ⟨b, o, r, x, h1, h2, h3, ⟨A', n', k, rfl, h4, h5, h8⟩, h6, h7⟩ := RG.val h (by decide) hi
  exact ⟨b, o, A', n', k, x, h1, h2, h3 0 (by decide), h3 1 (by decide), h3 2 (by decide), h3 3 (by decide), h3 4 (by decide), h3 5 (by decide), h4, h5, h8, h6, h7⟩
theorem REv.nil (w : World) (B : Nat) : REv w B none 0 [] := ⟨[], rfl, by simp, ⟨by simp, fun h => absurd h (by omega)⟩, fun i r x h => by simp at h⟩
end
/-- An event of the call's own: what it tells lies in blocks of P. -/
def eP (P : Nat → Prop) (w : World) (r : List Value) (x : Ev) : Prop := ∃ A n k, r = evC x (.slice A n k) ∧ n ≤ k ∧ n ≤ 200 ∧ RI w w.heap.size .i64 A n x.to ∧ (0 < n → ∀ b o, A = some ⟨b, o, none⟩ → P b)
/-- The events so far: a row of the call's own. -/
def Er (P : Nat → Prop) (w : World) (B : Nat) (e : TypeId) (ov : Value) (ls : List Ev) : Prop :=
  ∃ rows : List (List Value), rows.length = ls.length ∧ (∀ r ∈ rows, r.length = 6) ∧ w.ownsRow B e 6 ov ls.length rows.flatten ∧ ∀ (i : Nat) r x, rows[i]? = some r → ls[i]? = some x → eP P w r x
section
variable {P X : Nat → Prop} {w w' : World} {B : Nat} {e : TypeId} {ov : Value} {ls : List Ev}
theorem eP.un {r : List Value} {x : Ev} (h : eP P w r x) (hu : Un X w w') (hP : ∀ b, P b → ¬ X b) : eP P w' r x := by
  obtain ⟨A, n, k, h1, h2, h3, h4, h5⟩ := h
  exact ⟨A, n, k, h1, h2, h3, Rd.more (Rd.un h4 hu (Nat.le_refl _) (fun h0 b o hA => hP b (h5 h0 b o hA))) hu.size, h5⟩
theorem Er.nil (P : Nat → Prop) (w : World) (B : Nat) (e : TypeId) : Er P w B e (.slice none 0 0) [] := ⟨[], rfl, by simp, World.ownsRow_nil _ _ _ _, fun i r x h => by simp at h⟩
theorem Er.un (h : Er P w B e ov ls) (hu : Un X w w') (ho : ∀ k, ov.ownBlock = some k → ¬ X k) (hP : ∀ b, P b → ¬ X b) : Er P w' B e ov ls := by
  obtain ⟨rows, h1, h2, h3, h4⟩ := h
  exact ⟨rows, h1, h2, own_un h3 hu ho, fun i r x hr hx => (h4 i r x hr hx).un hu hP⟩
theorem Er.mono {P' : Nat → Prop} (h : Er P w B e ov ls) (hP : ∀ b, b < w.heap.size → P b → P' b) : Er P' w B e ov ls := by
  obtain ⟨rows, h1, h2, h3, h4⟩ := h
  refine ⟨rows, h1, h2, h3, fun i r x hr hx => ?_⟩
  obtain ⟨A, n, k, q1, q2, q3, q4, q5⟩ := h4 i r x hr hx
  refine ⟨A, n, k, q1, q2, q3, q4, fun h0 b o hA => ?_⟩
  obtain ⟨b', o', hA', hb', _⟩ := Rd.at_ q4 h0
  rw [hA] at hA'
  injection hA' with hA'
  injection hA' with hA' _
  exact hP b (by omega) (q5 h0 b o hA)
/-- One more event. -/
theorem er_snoc {rows : List (List Value)} {r : List Value} {x : Ev} {v' : Value} {n : Nat} (h1 : rows.length = ls.length) (h2 : ∀ r ∈ rows, r.length = 6) (h4 : ∀ (i : Nat) r x, rows[i]? = some r → ls[i]? = some x → eP P w r x)
    (ho : w'.ownsRow B e 6 v' n (rows.flatten ++ r)) (hn : n = ls.length + 1) (hu : Un X w w') (hP : ∀ b, P b → ¬ X b) (hr : eP P w r x) : Er P w' B e v' (ls ++ [x]) := by
  have hr6 : r.length = 6 := by obtain ⟨A, n, k, rfl, _⟩ := hr; rfl
  refine ⟨rows ++ [r], by simp [h1], fun q hq => ?_, ?_, fun i q y hq hy => ?_⟩
  · rcases List.mem_append.1 hq with hq | hq
    · exact h2 q hq
    · rw [List.mem_singleton.1 hq]; exact hr6
  · rw [List.flatten_append, List.length_append, List.length_singleton, ← hn]
    simpa using ho
  · rcases Nat.lt_trichotomy i rows.length with hi | hi | hi
    · rw [List.getElem?_append_left hi] at hq
      rw [List.getElem?_append_left (by omega)] at hy
      exact (h4 i q y hq hy).un hu hP
    · rw [List.getElem?_append_right (by omega), show i - rows.length = 0 by omega] at hq
      rw [List.getElem?_append_right (by omega), show i - ls.length = 0 by omega] at hy
      injection hq with hq
      injection hy with hy
      subst hq hy
      exact hr.un hu hP
    · rw [List.getElem?_eq_none (by simp; omega)] at hq; cases hq
theorem Er.post (h : Er P w B e ov ls) : ∃ A c, ov = .slice A ls.length c ∧ ls.length ≤ c ∧ REv w w.heap.size A ls.length ls := by
  obtain ⟨rows, h1, h2, h3, h4⟩ := h
  obtain ⟨A, c, rfl, hlc⟩ := own_form h3
  refine ⟨A, c, rfl, hlc, rows, h1, h2, Rd.of_own h3, fun i r x hr hx => ?_⟩
  obtain ⟨A, n, k, q1, q2, q3, q4, _⟩ := h4 i r x hr hx
  exact ⟨A, n, k, q1, q2, q3, q4⟩
end
/-- What run.Play leaves. -/
def PlPost (T : List Ev) (W : List Int) (E : Int) (w : World) (e : Ending) (w' : World) : Prop :=
  ∃ A n c A1 n1 c1, e = .returned (.tuple #[.slice A n c, .slice A1 n1 c1, .int .i64 E]) ∧ REv w' w'.heap.size A n T ∧ RI w' w'.heap.size .i64 A1 n1 W ∧ n ≤ c ∧ n1 ≤ c1 ∧ n ≤ 12000 ∧ n1 ≤ 200 ∧ Below w.heap.size w w'
end Go.Baro

set_option linter.unusedSimpArgs false
set_option linter.unusedVariables false
namespace Go.Baro

def WOk (w : List Int) : Prop := w.length ≤ 200 ∧ ∀ x ∈ w, inW x
def LOk (l : Lv) : Prop := 0 ≤ l.p ∧ l.p ≤ l.c.length ∧ (∀ i, inW (l.r i)) ∧ (∀ x ∈ l.t, inW x) ∧ l.t.length ≤ 200
theorem ok_of {l : Lv} {w : List Int} (hl : LOk l) (hw : WOk w) : Ok l.c.length ⟨l.p, l.r, w, l.t⟩ := ⟨hl.1, hl.2.1, hl.2.2.1, hw.2, hw.1, hl.2.2.2.1, hl.2.2.2.2⟩
theorem live_ok {c : List Ins} {ar : List Int} (h : ∀ x ∈ ar, inW x) : LOk (live c ar) := by
  have := st0_ok (n := c.length) (args := ar) (words := []) h (by simp) (by simp)
  exact ⟨this.lo, this.hi, this.r, this.t, this.tl⟩
/-- An instruction of a thread within its call. -/
theorem exc_ok {l : Lv} {w : List Int} (hc : okC l.c) (hi : ∀ o ∈ l.c, inI o) (hl : LOk l) (hw : WOk w) :
    WOk (exc l w).2.1 ∧ LOk (exc l w).1 ∧ (exc l w).1.c = l.c ∧ ((exc l w).2.2.2 = false → (exc l w).1.p < l.c.length) := by
  unfold exc
  by_cases hp : l.p = l.c.length
  · rw [if_pos hp]; exact ⟨hw, hl, rfl, fun h => by cases h⟩
  · rw [if_neg hp]
    have hlt : l.p < l.c.length := by have := hl.2.1; omega
    have hlo := hl.1
    have hn : l.p.toNat < l.c.length := by omega
    rw [List.getElem?_eq_getElem hn, Option.getD_some]
    have hm := List.getElem_mem hn
    have hk := stp_ok (hc.2 _ hm) (hi _ hm) (ok_of hl hw) hlt
    refine ⟨⟨hk.wl, hk.w⟩, ⟨hk.lo, hk.hi, hk.r, hk.t, hk.tl⟩, rfl, fun h => ?_⟩
    have := hk.hi
    simp only [decide_eq_false_iff_not, not_or, Decidable.not_not] at h
    dsimp only
    omega
/-- A thread within a call that has not ended, and what its next instruction gives. -/
theorem exc_stp {l : Lv} {w : List Int} {o : Ins} {s' : Vs} {E : Int} (hp : l.p < l.c.length) (ho : l.c[l.p.toNat]? = some o) (hs : stp l.c.length o ⟨l.p, l.r, w, l.t⟩ = (s', E)) :
    exc l w = (⟨l.c, s'.p, s'.r, s'.t⟩, s'.w, E, decide (E ≠ 0 ∨ s'.p = l.c.length)) := by
  unfold exc
  rw [if_neg (by omega), ho, Option.getD_some, hs]
theorem exc_none {l : Lv} {w : List Int} (hp : l.p = l.c.length) : exc l w = (l, w, 0, true) := by unfold exc; rw [if_pos hp]
/-- What holds of a run at step st. -/
structure GOk (m : Mc) (st : Nat) (g : Gs) : Prop where
  w : WOk g.w
  th : ∀ i l, (g.th i).now = some l → l.c ∈ m.cs ∧ LOk l ∧ l.p < l.c.length
  bg : ∀ i, (g.th i).bg ≤ (m.ts[i]?.getD []).length
  ps : ∀ i l, (g.th i).now = some l → 1 ≤ (g.th i).bg
  out : g.out.length ≤ 2 * st
theorem actL_ok {m : Mc} {g : Gs} {st n bg : Nat} {l : Lv} {o : List Ev} (hcs : ∀ c ∈ m.cs, okC c ∧ ∀ o ∈ c, inI o) (h : GOk m st g) (hl : LOk l) (hc : l.c ∈ m.cs) (h1 : 1 ≤ bg) (h2 : bg ≤ (m.ts[n]?.getD []).length) (ho : o.length ≤ 2 * st + 1) : GOk m (st + 1) (actL g st n bg l o) := by
  obtain ⟨e1, e2, e3, e4⟩ := exc_ok (hcs _ hc).1 (hcs _ hc).2 hl h.w
  unfold actL
  dsimp only
  by_cases hq : (exc l g.w).2.2.2 = true
  · rw [if_pos hq]
    refine ⟨e1, fun i k hk => ?_, fun i => ?_, fun i k hk => ?_, by simp; omega⟩
    · by_cases hi : i = n
      · simp [putT, hi] at hk
      · simp only [putT, if_neg hi] at hk; exact h.th i k hk
    · by_cases hi : i = n
      · subst hi; simp [putT]; exact h2
      · simp only [putT, if_neg hi]; exact h.bg i
    · by_cases hi : i = n
      · simp [putT, hi] at hk
      · simp only [putT, if_neg hi] at hk ⊢; exact h.ps i k hk
  · rw [if_neg hq]
    refine ⟨e1, fun i k hk => ?_, fun i => ?_, fun i k hk => ?_, by dsimp only; omega⟩
    · by_cases hi : i = n
      · simp [putT, hi] at hk
        subst hk
        rw [e3]
        exact ⟨hc, e2, e4 (by simpa using hq)⟩
      · simp only [putT, if_neg hi] at hk; exact h.th i k hk
    · by_cases hi : i = n
      · subst hi; simp [putT]; exact h2
      · simp only [putT, if_neg hi]; exact h.bg i
    · by_cases hi : i = n
      · simp [putT, hi]; exact h1
      · simp only [putT, if_neg hi] at hk ⊢; exact h.ps i k hk
/-- The call that a thread begins. -/
theorem call_at {m : Mc} (hm : okMc m) {n i : Nat} {c : Cl} (hc : (m.ts[n]?.getD [])[i]? = some c) : okCl m c ∧ m.cs[c.k.toNat]?.getD [] ∈ m.cs := by
  cases ht : m.ts[n]? with
  | none => rw [ht] at hc; simp at hc
  | some t =>
    rw [ht] at hc
    have hk := (hm.2.2.2.2 t (List.mem_of_getElem? ht)).2 c (List.mem_of_getElem? hc)
    refine ⟨hk, ?_⟩
    have hlt : c.k.toNat < m.cs.length := by have := hk.1; omega
    rw [List.getElem?_eq_getElem hlt]
    exact List.getElem_mem hlt
theorem actG_ok {m : Mc} {g : Gs} {st n : Nat} (hm : okMc m) (hcs : ∀ c ∈ m.cs, okC c ∧ ∀ o ∈ c, inI o) (hts : ∀ t ∈ m.ts, ∀ c ∈ t, ∀ x ∈ c.ar, inW x) (h : GOk m st g) : GOk m (st + 1) (actG m g st n) := by
  unfold actG
  cases hn : (g.th n).now with
  | some l =>
    obtain ⟨h1, h2, h3⟩ := h.th n l hn
    exact actL_ok hcs h h2 h1 (h.ps n l hn) (h.bg n) (by have := h.out; omega)
  | none =>
    dsimp only
    cases hc : (m.ts[n]?.getD [])[(g.th n).bg]? with
    | none => exact ⟨h.w, h.th, h.bg, h.ps, by have := h.out; show g.out.length ≤ _; omega⟩
    | some c =>
      have hlt : (g.th n).bg < (m.ts[n]?.getD []).length := (List.getElem?_eq_some_iff.1 hc).1
      have har : ∀ x ∈ c.ar, inW x := by
        cases ht : m.ts[n]? with
        | none => rw [ht] at hc; simp at hc
        | some t => rw [ht] at hc; exact hts t (List.mem_of_getElem? ht) c (List.mem_of_getElem? hc)
      exact actL_ok hcs h (live_ok har) (call_at hm hc).2 (by omega) (by omega) (by have := h.out; simp; omega)
theorem g0_ok {m : Mc} (hm : okMc m) (hw : ∀ x ∈ m.ws, inW x) : GOk m 0 (g0 m) :=
  ⟨⟨hm.1, hw⟩, fun _ _ h => (by cases h), fun _ => Nat.zero_le _, fun _ _ h => (by cases h), Nat.le_refl _⟩
theorem plyG_snoc (m : Mc) (l : List Nat) (n : Nat) (g : Gs) : plyG m 0 (l ++ [n]) g = actG m (plyG m 0 l g) l.length n := by
  rw [plyG_append]
  show actG m _ (0 + l.length) n = _
  rw [Nat.zero_add]
theorem plyG_ok {m : Mc} (hm : okMc m) (hcs : ∀ c ∈ m.cs, okC c ∧ ∀ o ∈ c, inI o) (hts : ∀ t ∈ m.ts, ∀ c ∈ t, ∀ x ∈ c.ar, inW x) (hw : ∀ x ∈ m.ws, inW x) : ∀ (k : Nat) (l : List Nat), l.length = k → GOk m k (plyG m 0 l (g0 m))
  | 0, l, hl => by rw [List.eq_nil_of_length_eq_zero hl]; exact g0_ok hm hw
  | k + 1, l, hl => by
    have hne : l ≠ [] := fun h => by rw [h] at hl; cases hl
    rw [← List.dropLast_concat_getLast hne, plyG_snoc]
    have h1 : l.dropLast.length = k := by simp [hl]
    rw [h1]
    exact actG_ok hm hcs hts (plyG_ok hm hcs hts hw k _ h1)

/-- What run.Play answers: events, words, an error. -/
def PlR (m : Mc) (s : List Int) (T : List Ev) (W : List Int) (E : Int) : Prop :=
  (¬ okMc m ∧ T = [] ∧ W = [] ∧ E = 4) ∨ (okMc m ∧ 6000 < s.length ∧ T = [] ∧ W = [] ∧ E = 1) ∨ (okMc m ∧ s.length ≤ 6000 ∧ (∃ x ∈ s, x < 0 ∨ (m.ts.length : Int) ≤ x) ∧ T = [] ∧ W = [] ∧ E = 2) ∨
  (okMc m ∧ s.length ≤ 6000 ∧ (∀ x ∈ s, 0 ≤ x ∧ x < m.ts.length) ∧ T = (plyG m 0 (s.map Int.toNat) (g0 m)).out ∧ W = (plyG m 0 (s.map Int.toNat) (g0 m)).w ∧ E = 0)
theorem plR_some (m : Mc) (s : List Int) : ∃ T W E, PlR m s T W E := by
  by_cases h1 : okMc m
  · by_cases h2 : 6000 < s.length
    · exact ⟨[], [], 1, .inr (.inl ⟨h1, h2, rfl, rfl, rfl⟩)⟩
    · by_cases h3 : ∃ x ∈ s, x < 0 ∨ (m.ts.length : Int) ≤ x
      · exact ⟨[], [], 2, .inr (.inr (.inl ⟨h1, by omega, h3, rfl, rfl, rfl⟩))⟩
      · refine ⟨_, _, 0, .inr (.inr (.inr ⟨h1, by omega, fun x hx => ?_, rfl, rfl, rfl⟩))⟩
        by_cases h4 : 0 ≤ x ∧ x < m.ts.length
        · exact h4
        · exact absurd ⟨x, hx, by omega⟩ h3
  · exact ⟨[], [], 4, .inl ⟨h1, rfl, rfl, rfl⟩⟩
end Go.Baro

set_option linter.unusedSimpArgs false
set_option linter.unusedVariables false
namespace Go.Proofs.YtnchgdjdfhfedaaGreatDoor
open Go.RowKit Go.Ord Go.Baro

/-- run.May, of a machine in memory. -/
def MaySpec : Prop := ∀ (w : World) (hT : Tab w) (Aw : Option Addr) (nw cw : Nat) (Ac : Option Addr) (nc cc : Nat) (At : Option Addr) (nt ct : Nat) (m : Mc) (r : Bool) (hm : InM w Aw nw cw Ac nc cc At nt ct m) (hr : r = true ↔ okMc m),
    Calls Tryz.prog 46 #[.agg #[.slice Aw nw cw, .slice Ac nc cc, .slice At nt ct]] w fun e w' => e = .returned (.bool r) ∧ Below w.heap.size w w'
/-- run.Play, of a machine and a schedule in memory. -/
def PlaySpec : Prop := ∀ (w : World) (hT : Tab w) (Aw : Option Addr) (nw cw : Nat) (Ac : Option Addr) (nc cc : Nat) (At : Option Addr) (nt ct : Nat) (m : Mc) (As : Option Addr) (ns cs : Nat) (s : List Int) (T : List Ev) (W : List Int) (E : Int) (hm : InM w Aw nw cw Ac nc cc At nt ct m)
    (hs : RI w w.heap.size .i64 As ns s) (hn : ns ≤ 140737488355328) (hR : PlR m s T W E), Calls Tryz.prog 12 #[.agg #[.slice Aw nw cw, .slice Ac nc cc, .slice At nt ct], .slice As ns cs] w (PlPost T W E w)
end Go.Proofs.YtnchgdjdfhfedaaGreatDoor

set_option linter.unusedSimpArgs false
set_option linter.unusedVariables false
namespace Go.Proofs.YtnchgdjdfhfedaaGreatDoor
open Go.RowKit Go.Ord Go.Baro
end Go.Proofs.YtnchgdjdfhfedaaGreatDoor

set_option linter.unusedSimpArgs false
set_option linter.unusedVariables false
namespace Go.Proofs.YtnchgdjdfhfedaaGreatDoor
open Go.RowKit Go.Ord Go.Baro

theorem eltIntS : Elt Tryz.prog 22 3 (.int .i64 0) 1 8 := Elt.mk' Tryz.underlying22 (by kernel_rfl) rfl (by decide)
/-- The schedule that is drawn. -/
def schL (l : List Int) : List Int := (l.take 400).map (· % 3)
theorem schL_len (l : List Int) : (schL l).length = min l.length 400 := by simp [schL, Nat.min_comm]
theorem schL_in {l : List Int} {x : Int} (h : x ∈ schL l) : 0 ≤ x ∧ x < 3 := by
  obtain ⟨y, _, rfl⟩ := List.mem_map.1 h
  omega
theorem mod_three {x : Int} (h : 0 ≤ x ∧ x < 256) : x.tmod 3 = x % 3 := by rw [Int.tmod_eq_emod_of_nonneg h.1]

set_option maxRecDepth 100000 in
set_option maxHeartbeats 2000000 in
theorem keep_Schedule (l : List Int) (A : Option Addr) (n c : Nat) (w : World) (hb : RI w w.heap.size .u8 A n l) (hn : n ≤ 140737488355328) (hr : ∀ x ∈ l, 0 ≤ x ∧ x < 256) :
    Calls Tryz.prog 11 #[.slice A n c, .int .i64 3, .int .i64 400] w fun e w' => ∃ A' n' c', e = .returned (.slice A' n' c') ∧ RI w' w'.heap.size .i64 A' n' (schL l) ∧ n' ≤ c' ∧ n' ≤ 400 ∧ Below w.heap.size w w' := by
  have HL := Lib.hid hb.len
  have HR := Lib.hid hr
  clear hr
  go_enter Tryz.func11, Tryz.ntmps11
  go_wp2
  go_loopw [7, 8] (fun v i wr => ∃ j : Nat, j ≤ n ∧ j ≤ 400 ∧ i = .int .i64 j ∧ wr.ownsRow w.heap.size 3 1 v j (((l.take j).map (· % 3)).map (Value.int .i64)) ∧ Below w.heap.size w wr) (fun _ i _ => 400 - (intOf i).toNat)
  case atStart => exact ⟨0, Nat.zero_le _, by omega, rfl, World.ownsRow_nil _ _ _ _, Below.refl _ _⟩
  case round =>
    obtain ⟨j, hj, hj4, rfl, hown, hbel⟩ := hrel
    have hsz := hbel.size
    obtain ⟨A', c', rfl, hlc⟩ := own_form hown
    have fin : j = n ∨ j = 400 → RI wr wr.heap.size .i64 A' j (schL l) := by
      intro h
      have := Rd.of_own hown
      have e : schL l = (l.take j).map (· % 3) := by
        unfold schL
        rcases h with h | h
        · rw [List.take_of_length_le (l := l) (i := j) (by rw [HL.out]; omega), List.take_of_length_le (l := l) (i := 400) (by rw [HL.out]; omega)]
        · rw [h]
      rw [e]
      exact this
    by_cases h1 : j < n
    · by_cases h2 : j < 400
      · clear fin
        obtain ⟨b, o, x, rfl, hbB, hcell, HX, hmem⟩ := (hb.below hbel).val h1
        obtain ⟨hx0, hx1⟩ := HR.out x hmem
        have ht := mod_three ⟨hx0, hx1⟩
        have HMem := Lib.hid hmem
        obtain ⟨y, hy⟩ : ∃ y, y = x % 3 := ⟨_, rfl⟩
        have hy0 : 0 ≤ y ∧ y < 3 := by omega
        rw [← hy] at ht
        have HY := Lib.hid hy
        clear hmem hy
        go_wp2_with (at_builtin; go_must (refine app_lit eltIntS wr rfl _ _ rfl w.heap.size _ j _ rfl (by exact hown) 1 [.int .i64 y] wr.heap.size rfl rfl rfl (one_ints _ [y]) (by omega) (by omega) hsz ?_); intro v3 w3 hown3 hgr3 hbel3 _)
        go_roundw
        case rel =>
          refine ⟨j + 1, by omega, by omega, by go_num, ?_, hbel3 _ hbel⟩
          rw [at_take HX.out, List.map_append, List.map_append, List.map_singleton, List.map_singleton, ← HY.out]
          exact hown3
        case measure => simp [intOf]; omega
      · have HF := Lib.hid (fin (.inr (by omega)))
        clear fin hown
        go_wp2
        go_ret
        exact ⟨A', j, c', rfl, HF.out, hlc, by omega, hbel⟩
    · obtain rfl : n = j := by omega
      have HF := Lib.hid (fin (.inl rfl))
      clear fin hown
      go_wp2
      go_ret
      exact ⟨A', n, c', rfl, HF.out, hlc, by omega, hbel⟩
/-- An event as a value. -/
def evV (x : Ev) (v : Value) : Value := .agg #[.int .i64 x.st, .int .i64 x.th, .int .i64 x.cl, .bool x.en, .int .i64 x.er, v]

/-- A slice that lies in a block of its own. -/
theorem Rd.box {w : World} {b s n : Nat} {t : TypeId} {cs : List Value} (h : Box w b t cs) (hl : cs.length = n * s) : Rd w w.heap.size s (some ⟨b, 0, none⟩) n cs :=
  ⟨hl, fun _ => ⟨b, 0, rfl, h.lt, fun j _ => by rw [Nat.zero_add]; exact h.cell j⟩⟩
theorem rg_box {α : Type} {s : Nat} {R : World → Nat → List Value → α → Prop} {w : World} {b n : Nat} {t : TypeId} {rows : List (List Value)} {ls : List α} (h : Box w b t rows.flatten) (h1 : rows.length = ls.length) (hn : ls.length = n) (h2 : ∀ r ∈ rows, r.length = s)
    (h3 : ∀ (i : Nat) r x, rows[i]? = some r → ls[i]? = some x → R w w.heap.size r x) : RG s R w w.heap.size (some ⟨b, 0, none⟩) n ls :=
  ⟨rows, h1, h2, Rd.box h (by rw [flat_len h2, h1, hn]), h3⟩
/-- The run that is known. -/
def mS : Mc := ⟨[4], [[⟨14, 0, 1, 0, 0⟩]], [[⟨0, [9]⟩]]⟩
theorem sure_play : PlR mS [0] [⟨0, 0, 0, false, 0, []⟩, ⟨0, 0, 0, true, 0, []⟩] [9] 0 := by
  refine .inr (.inr (.inr ⟨⟨by decide, by decide, by decide, ?_, ?_⟩, by decide, by simp [mS], ?_, ?_, rfl⟩))
  · intro c hc
    simp only [mS, List.mem_singleton] at hc
    subst hc
    decide
  · intro t ht
    simp only [mS, List.mem_singleton] at ht
    subst ht
    refine ⟨by decide, fun c hc => ?_⟩
    simp only [List.mem_singleton] at hc
    subst hc
    exact ⟨by simp [mS], by decide⟩
  · kernel_rfl
  · kernel_rfl

theorem one_at {α : Type} {a b : α} {i : Nat} (h : [a][i]? = some b) : i = 0 ∧ b = a := by
  cases i with
  | zero => exact ⟨rfl, by simpa using h.symm⟩
  | succ i => simp at h
/-- The machine of the run that is known, and its schedule. -/
theorem sure_mem (w wF : World) (hF : wF = (((((((w.alloc (Obj.cells #[.int .i64 4] 3)).alloc (Obj.cells #[.int .i64 14, .int .i64 0, .int .i64 1, .int .i64 0, .int .i64 0] 67)).alloc (Obj.cells #[.slice (some ⟨w.heap.size + 1, 0, none⟩) 1 1] 28)).alloc (Obj.cells #[.int .i64 9] 3)).alloc (Obj.cells #[.int .i64 0, .slice (some ⟨w.heap.size + 1 + 1 + 1, 0, none⟩) 1 1] 40)).alloc (Obj.cells #[.slice (some ⟨w.heap.size + 1 + 1 + 1 + 1, 0, none⟩) 1 1] 38)).alloc (Obj.cells #[.int .i64 0] 3))) :
    InM wF (some ⟨w.heap.size, 0, none⟩) 1 1 (some ⟨w.heap.size + 1 + 1, 0, none⟩) 1 1 (some ⟨w.heap.size + 1 + 1 + 1 + 1 + 1, 0, none⟩) 1 1 mS ∧ RI wF wF.heap.size .i64 (some ⟨w.heap.size + 1 + 1 + 1 + 1 + 1 + 1, 0, none⟩) 1 [0] ∧ Below w.heap.size w wF := by
  have b0 : Box wF w.heap.size 3 [.int .i64 4] := by rw [hF]; exact ((((((Box.newAt w _ _ _ rfl).alloc _).alloc _).alloc _).alloc _).alloc _).alloc _
  have b1 : Box wF (w.heap.size + 1) 67 [.int .i64 14, .int .i64 0, .int .i64 1, .int .i64 0, .int .i64 0] := by rw [hF]; exact (((((Box.newAt (w.alloc _) _ _ _ (by simp)).alloc _).alloc _).alloc _).alloc _).alloc _
  have b2 : Box wF (w.heap.size + 1 + 1) 28 [.slice (some ⟨w.heap.size + 1, 0, none⟩) 1 1] := by rw [hF]; exact ((((Box.newAt ((w.alloc _).alloc _) _ _ _ (by simp)).alloc _).alloc _).alloc _).alloc _
  have b3 : Box wF (w.heap.size + 1 + 1 + 1) 3 [.int .i64 9] := by rw [hF]; exact (((Box.newAt (((w.alloc _).alloc _).alloc _) _ _ _ (by simp)).alloc _).alloc _).alloc _
  have b4 : Box wF (w.heap.size + 1 + 1 + 1 + 1) 40 [.int .i64 0, .slice (some ⟨w.heap.size + 1 + 1 + 1, 0, none⟩) 1 1] := by rw [hF]; exact ((Box.newAt ((((w.alloc _).alloc _).alloc _).alloc _) _ _ _ (by simp)).alloc _).alloc _
  have b5 : Box wF (w.heap.size + 1 + 1 + 1 + 1 + 1) 38 [.slice (some ⟨w.heap.size + 1 + 1 + 1 + 1, 0, none⟩) 1 1] := by rw [hF]; exact (Box.newAt (((((w.alloc _).alloc _).alloc _).alloc _).alloc _) _ _ _ (by simp)).alloc _
  have b6 : Box wF (w.heap.size + 1 + 1 + 1 + 1 + 1 + 1) 3 [.int .i64 0] := by rw [hF]; exact Box.newAt ((((((w.alloc _).alloc _).alloc _).alloc _).alloc _).alloc _) _ _ _ (by simp)
  refine ⟨⟨Rd.box b0 rfl, ?_, ?_, ?_, ?_, ?_, by omega, by omega, by omega⟩, Rd.box b6 rfl, ?_⟩
  · refine rg_box (rows := [[.slice (some ⟨w.heap.size + 1, 0, none⟩) 1 1]]) b2 rfl rfl (by simp) fun i r x hr hx => ?_
    obtain ⟨_, rfl⟩ := one_at hr
    obtain ⟨_, rfl⟩ := one_at hx
    exact ⟨_, _, _, rfl, Nat.le_refl _, Rd.box b1 rfl⟩
  · refine rg_box (rows := [[.slice (some ⟨w.heap.size + 1 + 1 + 1 + 1, 0, none⟩) 1 1]]) b5 rfl rfl (by simp) fun i r x hr hx => ?_
    obtain ⟨_, rfl⟩ := one_at hr
    obtain ⟨_, rfl⟩ := one_at hx
    refine ⟨_, _, _, rfl, Nat.le_refl _, rg_box (rows := [[.int .i64 0, .slice (some ⟨w.heap.size + 1 + 1 + 1, 0, none⟩) 1 1]]) b4 rfl rfl (by simp) fun i r x hr hx => ?_⟩
    obtain ⟨_, rfl⟩ := one_at hr
    obtain ⟨_, rfl⟩ := one_at hx
    exact ⟨_, _, _, rfl, Nat.le_refl _, Rd.box b3 rfl⟩
  · intro x hx; simp only [mS, List.mem_singleton] at hx; subst hx; unfold inW; omega
  · intro c hc
    simp only [mS, List.mem_singleton] at hc
    subst hc
    refine ⟨by decide, fun o ho => ?_⟩
    simp only [List.mem_singleton] at ho
    subst ho
    unfold inI inW
    dsimp only
    omega
  · intro t ht
    simp only [mS, List.mem_singleton] at ht
    subst ht
    refine ⟨by decide, fun c hc => ?_⟩
    simp only [List.mem_singleton] at hc
    subst hc
    refine ⟨by unfold inW; dsimp only; omega, by decide, fun x hx => ?_⟩
    simp only [List.mem_singleton] at hx
    subst hx
    unfold inW
    omega
  · rw [hF]
    exact (((((((Below.refl w.heap.size w).alloc (by simp) _).alloc (by simp) _).alloc (by simp; omega) _).alloc (by simp; omega) _).alloc (by simp; omega) _).alloc (by simp; omega) _).alloc (by simp; omega) _

end Go.Proofs.YtnchgdjdfhfedaaGreatDoor

set_option linter.unusedSimpArgs false
set_option linter.unusedVariables false
namespace Go.Proofs.YtnchgdjdfhfedaaGreatDoor
open Go.RowKit Go.Ord Go.Baro

/-- The schedule that is drawn. -/
def schG (k most : Nat) (l : List Int) : List Int := (l.take most).map (· % (k : Int))
theorem schG_len (k most : Nat) (l : List Int) : (schG k most l).length = min most l.length := by simp [schG]
theorem schG_in {k most : Nat} (hk : 0 < k) {l : List Int} {x : Int} (h : x ∈ schG k most l) : 0 ≤ x ∧ x < k := by
  obtain ⟨y, _, rfl⟩ := List.mem_map.1 h
  exact ⟨Int.emod_nonneg _ (by omega), Int.emod_lt_of_pos _ (by omega)⟩

set_option maxRecDepth 100000 in
set_option maxHeartbeats 2000000 in
theorem keep_ScheduleG (l : List Int) (A : Option Addr) (n c : Nat) (w : World) (k most : Nat) (hk : 0 < k) (hk2 : k ≤ 100) (hmost : most ≤ 6000) (hb : RI w w.heap.size .u8 A n l) (hn : n ≤ 140737488355328) (hr : ∀ x ∈ l, 0 ≤ x ∧ x < 256) :
    Calls Tryz.prog 11 #[.slice A n c, .int .i64 k, .int .i64 most] w fun e w' => ∃ v n', e = .returned v ∧ w'.ownsRow w.heap.size 3 1 v n' ((schG k most l).map (Value.int .i64)) ∧ n' ≤ most ∧ Below w.heap.size w w' := by
  have HL := Lib.hid hb.len
  have HR := Lib.hid hr
  have hk0 : ((k : Int) == 0) = false := by simp; omega
  have hkn : (k : Int) ≠ 0 := by omega
  clear hr
  go_enter Tryz.func11, Tryz.ntmps11
  go_wp2
  go_loopw [7, 8] (fun v i wr => ∃ j : Nat, j ≤ n ∧ j ≤ most ∧ i = .int .i64 j ∧ wr.ownsRow w.heap.size 3 1 v j (((l.take j).map (· % (k : Int))).map (Value.int .i64)) ∧ Below w.heap.size w wr) (fun _ i _ => most - (intOf i).toNat)
  case atStart => exact ⟨0, Nat.zero_le _, by omega, rfl, World.ownsRow_nil _ _ _ _, Below.refl _ _⟩
  case round =>
    obtain ⟨j, hj, hj4, rfl, hown, hbel⟩ := hrel
    have hsz := hbel.size
    have fin : j = n ∨ j = most → wr.ownsRow w.heap.size 3 1 u7 j ((schG k most l).map (Value.int .i64)) := by
      intro h
      have e : schG k most l = (l.take j).map (· % (k : Int)) := by
        unfold schG
        rcases h with h | h
        · rw [List.take_of_length_le (l := l) (i := j) (by rw [HL.out]; omega), List.take_of_length_le (l := l) (i := most) (by rw [HL.out]; omega)]
        · rw [h]
      rw [e]
      exact hown
    by_cases h1 : j < n
    · by_cases h2 : j < most
      · clear fin
        obtain ⟨b, o, x, rfl, hbB, hcell, HX, hmem⟩ := (hb.below hbel).val h1
        obtain ⟨hx0, hx1⟩ := HR.out x hmem
        have ht : x.tmod k = x % k := Int.tmod_eq_emod_of_nonneg hx0
        obtain ⟨y, hy⟩ : ∃ y, y = x % (k : Int) := ⟨_, rfl⟩
        have hy0 : 0 ≤ y := by rw [hy]; exact Int.emod_nonneg _ hkn
        have hy1 : y < k := by rw [hy]; exact Int.emod_lt_of_pos _ (by omega)
        rw [← hy] at ht
        have HY := Lib.hid hy
        clear hmem hy
        go_wp2_with (at_builtin; go_must (refine app_lit eltIntS wr rfl _ _ rfl w.heap.size _ j _ rfl (by exact hown) 1 [.int .i64 y] wr.heap.size rfl rfl rfl (one_ints _ [y]) (by omega) (by omega) hsz ?_); intro v3 w3 hown3 hgr3 hbel3 _)
        go_roundw
        case rel =>
          refine ⟨j + 1, by omega, by omega, by go_num, ?_, hbel3 _ hbel⟩
          rw [at_take HX.out, List.map_append, List.map_append, List.map_singleton, List.map_singleton, ← HY.out]
          exact hown3
        case measure => simp [intOf]; omega
      · have HF := Lib.hid (fin (.inr (by omega)))
        clear fin hown
        go_wp2
        go_ret
        exact ⟨_, j, rfl, HF.out, by omega, hbel⟩
    · obtain rfl : n = j := by omega
      have HF := Lib.hid (fin (.inl rfl))
      clear fin hown
      go_wp2
      go_ret
      exact ⟨_, n, rfl, HF.out, by omega, hbel⟩
end Go.Proofs.YtnchgdjdfhfedaaGreatDoor

set_option linter.unusedSimpArgs false
set_option linter.unusedVariables false
namespace Go.Baro

/-- A call of a run. -/
structure Dg where
  b : Nat
  e : Int
  th : Nat
  cl : Nat
  to : List Int
/-- The call that an event ends. -/
def Dg.is (d : Dg) (x : Ev) : Prop := d.th = x.th ∧ d.cl = x.cl ∧ d.e = -1
instance (d : Dg) (x : Ev) : Decidable (d.is x) := by unfold Dg.is; infer_instance
def Dg.fin (d : Dg) (x : Ev) : Dg := if d.is x then ⟨d.b, x.st, d.th, d.cl, x.to⟩ else d
def dg1 (l : List Dg) (x : Ev) : List Dg := if x.en = true then l.map (fun d => d.fin x) else l ++ [⟨x.st, -1, x.th, x.cl, []⟩]
/-- The calls that the events tell of. -/
def dgs (es : List Ev) : List Dg := es.foldl dg1 []
theorem dgs_snoc (es : List Ev) (x : Ev) : dgs (es ++ [x]) = dg1 (dgs es) x := by simp [dgs]
theorem dg1_begin (l : List Dg) (x : Ev) (h : x.en = false) : dg1 l x = l ++ [⟨x.st, -1, x.th, x.cl, []⟩] := by simp [dg1, h]
theorem dg1_end (l : List Dg) (x : Ev) (h : x.en = true) : dg1 l x = l.map (fun d => d.fin x) := by simp [dg1, h]
theorem dg1_len (l : List Dg) (x : Ev) : (dg1 l x).length ≤ l.length + 1 := by
  unfold dg1; split <;> simp
theorem dgs_len : ∀ (es : List Ev), (dgs es).length ≤ es.length := by
  intro es
  suffices h : ∀ (es : List Ev) (l : List Dg), (es.foldl dg1 l).length ≤ l.length + es.length by simpa [dgs] using h es []
  intro es
  induction es with
  | nil => intro l; simp
  | cons x es ih =>
    intro l
    rw [List.foldl_cons, List.length_cons]
    have h1 := ih (dg1 l x)
    have h2 := dg1_len l x
    omega
/-- Every end has its beginning, and is without an error. -/
def endOk (l : List Dg) (x : Ev) : Prop := x.en = true → x.er = 0 ∧ ∃ d ∈ l, d.is x
def rnOk (es : List Ev) : Prop := ∀ (i : Nat) x, es[i]? = some x → endOk (dgs (es.take i)) x
theorem rnOk_snoc {es : List Ev} {x : Ev} : rnOk (es ++ [x]) ↔ rnOk es ∧ endOk (dgs es) x := by
  constructor
  · intro h
    refine ⟨fun i y hy => ?_, ?_⟩
    · have hi := (List.getElem?_eq_some_iff.1 hy).1
      have := h i y (by rw [List.getElem?_append_left hi]; exact hy)
      rwa [List.take_append_of_le_length (by omega)] at this
    · have := h es.length x (by simp)
      rwa [List.take_append_of_le_length (Nat.le_refl _), List.take_of_length_le (Nat.le_refl _)] at this
  · rintro ⟨h1, h2⟩ i y hy
    by_cases hi : i < es.length
    · rw [List.getElem?_append_left hi] at hy
      rw [List.take_append_of_le_length (by omega)]
      exact h1 i y hy
    · rw [List.getElem?_append_right (by omega)] at hy
      have h0 : i - es.length = 0 := by
        have := (List.getElem?_eq_some_iff.1 hy).1
        simp at this
        omega
      rw [h0] at hy
      simp at hy
      subst hy
      obtain rfl : i = es.length := by omega
      rwa [List.take_append_of_le_length (Nat.le_refl _), List.take_of_length_le (Nat.le_refl _)]

/-- The beginning of a step: the thread begins its next call, if it is within none. -/
def bgG (m : Mc) (g : Gs) (st n : Nat) : Gs :=
  match (g.th n).now with
  | some _ => g
  | none =>
    match (m.ts[n]?.getD [])[(g.th n).bg]? with
    | none => g
    | some c => ⟨g.w, putT g.th n ⟨some (live (m.cs[c.k.toNat]?.getD []) c.ar), (g.th n).bg + 1⟩, g.out ++ [⟨st, n, (g.th n).bg, false, 0, []⟩]⟩
/-- The rest of it: one instruction. -/
def exG (g : Gs) (st n : Nat) : Gs :=
  match (g.th n).now with
  | none => g
  | some l => actL g st n (g.th n).bg l g.out
theorem putT_twice (f : Nat → Td) (n : Nat) (x y : Td) : putT (putT f n x) n y = putT f n y := by
  funext i
  unfold putT
  split <;> rfl
theorem putT_same (f : Nat → Td) (n : Nat) (x : Td) : putT f n x n = x := by simp [putT]
theorem putT_other (f : Nat → Td) {n i : Nat} (x : Td) (h : i ≠ n) : putT f n x i = f i := by simp [putT, h]
theorem actG_eq (m : Mc) (g : Gs) (st n : Nat) : actG m g st n = exG (bgG m g st n) st n := by
  unfold actG bgG exG
  cases hn : (g.th n).now with
  | some l => simp only [hn]
  | none =>
    dsimp only
    cases hc : (m.ts[n]?.getD [])[(g.th n).bg]? with
    | none => simp only [hn]
    | some c =>
      simp only [putT_same]
      unfold actL
      simp only [putT_twice]
/-- Where a thread's instruction leads. -/
theorem exG_none {g : Gs} {st n : Nat} (h : (g.th n).now = none) : exG g st n = g := by unfold exG; rw [h]
theorem exG_go {g : Gs} {st n : Nat} {l : Lv} (h : (g.th n).now = some l) (he : (exc l g.w).2.2.2 = false) : exG g st n = ⟨(exc l g.w).2.1, putT g.th n ⟨some (exc l g.w).1, (g.th n).bg⟩, g.out⟩ := by
  unfold exG actL
  rw [h]
  simp [he]
theorem exG_end {g : Gs} {st n : Nat} {l : Lv} (h : (g.th n).now = some l) (he : (exc l g.w).2.2.2 = true) : exG g st n = ⟨(exc l g.w).2.1, putT g.th n ⟨none, (g.th n).bg⟩, g.out ++ [⟨st, n, (g.th n).bg - 1, true, (exc l g.w).2.2.1, (exc l g.w).1.t⟩]⟩ := by
  unfold exG actL
  rw [h]
  simp [he]

/-- What the calls of a run keep to: times of beginnings are below sb, those of ends below se. -/
structure Hs (sb se : Nat) (g : Gs) : Prop where
  bnd : ∀ d ∈ dgs g.out, d.b < sb ∧ (d.e ≠ -1 → (d.b : Int) ≤ d.e ∧ d.e < se)
  srt : (dgs g.out).Pairwise (fun a b => a.b < b.b)
  own : ∀ d ∈ dgs g.out, d.cl < (g.th d.th).bg
  all : ∀ t c, c < (g.th t).bg → ∃ d ∈ dgs g.out, d.th = t ∧ d.cl = c
  opn : ∀ d ∈ dgs g.out, d.e = -1 ↔ (g.th d.th).now ≠ none ∧ d.cl + 1 = (g.th d.th).bg
  tld : ∀ d ∈ dgs g.out, d.e = -1 → d.to = []
  seq : ∀ a ∈ dgs g.out, ∀ b ∈ dgs g.out, a.th = b.th → a.cl < b.cl → a.e ≠ -1 ∧ a.e < b.b
  one : ∀ a ∈ dgs g.out, ∀ b ∈ dgs g.out, a.th = b.th → a.cl = b.cl → a = b
  ends : ∀ a ∈ dgs g.out, ∀ b ∈ dgs g.out, a.e ≠ -1 → a.e = b.e → a = b
  ps : ∀ t, (g.th t).now ≠ none → 1 ≤ (g.th t).bg
theorem Hs.mono {sb se sb' se' : Nat} {g : Gs} (h : Hs sb se g) (hb : sb ≤ sb') (he : se ≤ se') : Hs sb' se' g :=
  ⟨fun d hd => by obtain ⟨h1, h2⟩ := h.bnd d hd; exact ⟨by omega, fun hne => by have := h2 hne; omega⟩, h.srt, h.own, h.all, h.opn, h.tld, h.seq, h.one, h.ends, h.ps⟩
theorem hs_zero (m : Mc) : Hs 0 0 (g0 m) := by
  refine ⟨?_, ?_, ?_, ?_, ?_, ?_, ?_, ?_, ?_, ?_⟩ <;> simp [g0, dgs]
theorem hs_begin {m : Mc} {st n : Nat} {g : Gs} (h : Hs st st g) : Hs (st + 1) st (bgG m g st n) := by
  unfold bgG
  cases hn : (g.th n).now with
  | some l => exact h.mono (Nat.le_succ _) (Nat.le_refl _)
  | none =>
    dsimp only
    cases hc : (m.ts[n]?.getD [])[(g.th n).bg]? with
    | none => exact h.mono (Nat.le_succ _) (Nat.le_refl _)
    | some c =>
      dsimp only
      have hD : dgs (g.out ++ [⟨st, n, (g.th n).bg, false, 0, []⟩]) = dgs g.out ++ [⟨st, -1, n, (g.th n).bg, []⟩] := by rw [dgs_snoc, dg1_begin _ _ rfl]
      have hcl : ∀ d ∈ dgs g.out, d.th = n → d.cl < (g.th n).bg ∧ d.e ≠ -1 := by
        intro d hd hdn
        have h1 := h.own d hd
        rw [hdn] at h1
        refine ⟨h1, fun he => ?_⟩
        have := (h.opn d hd).1 he
        rw [hdn] at this
        exact this.1 hn
      refine ⟨?_, ?_, ?_, ?_, ?_, ?_, ?_, ?_, ?_, ?_⟩ <;> dsimp only
      · rw [hD]
        intro d hd
        rcases List.mem_append.1 hd with hd | hd
        · obtain ⟨h1, h2⟩ := h.bnd d hd
          exact ⟨by omega, h2⟩
        · rw [List.mem_singleton.1 hd]; exact ⟨by dsimp only; omega, fun h => absurd rfl h⟩
      · rw [hD]
        refine List.pairwise_append.2 ⟨h.srt, by simp, fun a ha b hb => ?_⟩
        rw [List.mem_singleton.1 hb]
        exact (h.bnd a ha).1
      · rw [hD]
        intro d hd
        rcases List.mem_append.1 hd with hd | hd
        · have h1 := h.own d hd
          by_cases hdn : d.th = n
          · rw [hdn, putT_same]; rw [hdn] at h1; dsimp only; omega
          · rw [putT_other _ _ hdn]; exact h1
        · rw [List.mem_singleton.1 hd]; dsimp only; rw [putT_same]; dsimp only; omega
      · rw [hD]
        intro t c' hc'
        by_cases ht : t = n
        · subst ht
          rw [putT_same] at hc'
          dsimp only at hc'
          by_cases hlt : c' < (g.th t).bg
          · obtain ⟨d, hd, h1⟩ := h.all t c' hlt
            exact ⟨d, by simp [hd], h1⟩
          · exact ⟨⟨st, -1, t, (g.th t).bg, []⟩, by simp, rfl, by dsimp only; omega⟩
        · rw [putT_other _ _ ht] at hc'
          obtain ⟨d, hd, h1⟩ := h.all t c' hc'
          exact ⟨d, by simp [hd], h1⟩
      · rw [hD]
        intro d hd
        rcases List.mem_append.1 hd with hd | hd
        · by_cases hdn : d.th = n
          · obtain ⟨h1, h2⟩ := hcl d hd hdn
            rw [hdn, putT_same]
            exact ⟨fun h => absurd h h2, fun h => by have := h.2; dsimp only at this; omega⟩
          · rw [putT_other _ _ hdn]; exact h.opn d hd
        · rw [List.mem_singleton.1 hd]; dsimp only; rw [putT_same]; simp
      · rw [hD]
        intro d hd he
        rcases List.mem_append.1 hd with hd | hd
        · exact h.tld d hd he
        · rw [List.mem_singleton.1 hd]
      · rw [hD]
        intro a ha b hb hth hab
        rcases List.mem_append.1 ha with ha | ha
        · rcases List.mem_append.1 hb with hb | hb
          · exact h.seq a ha b hb hth hab
          · rw [List.mem_singleton.1 hb] at hth ⊢
            dsimp only at hth ⊢
            obtain ⟨h1, h2⟩ := hcl a ha hth
            exact ⟨h2, ((h.bnd a ha).2 h2).2⟩
        · rw [List.mem_singleton.1 ha] at hth hab
          dsimp only at hth hab
          rcases List.mem_append.1 hb with hb | hb
          · have := (hcl b hb hth.symm).1; omega
          · rw [List.mem_singleton.1 hb] at hab; dsimp only at hab; omega
      · rw [hD]
        intro a ha b hb hth hab
        rcases List.mem_append.1 ha with ha | ha
        · rcases List.mem_append.1 hb with hb | hb
          · exact h.one a ha b hb hth hab
          · rw [List.mem_singleton.1 hb] at hth hab
            dsimp only at hth hab
            have := (hcl a ha hth).1; omega
        · rw [List.mem_singleton.1 ha] at hth hab
          dsimp only at hth hab
          rcases List.mem_append.1 hb with hb | hb
          · have := (hcl b hb hth.symm).1; omega
          · rw [List.mem_singleton.1 ha, List.mem_singleton.1 hb]
      · rw [hD]
        intro a ha b hb hne hab
        rcases List.mem_append.1 ha with ha | ha
        · rcases List.mem_append.1 hb with hb | hb
          · exact h.ends a ha b hb hne hab
          · rw [List.mem_singleton.1 hb] at hab; exact absurd hab hne
        · rw [List.mem_singleton.1 ha] at hne; exact absurd rfl hne
      · intro t ht
        by_cases htn : t = n
        · rw [htn, putT_same]; dsimp only; omega
        · rw [putT_other _ _ htn] at ht ⊢; exact h.ps t ht
/-- What is known of a call behind an end. -/
theorem fin_mem {l : List Dg} {x : Ev} {d' : Dg} (h : d' ∈ l.map (fun d => d.fin x)) : ∃ d ∈ l, d'.b = d.b ∧ d'.th = d.th ∧ d'.cl = d.cl ∧ ((d.is x ∧ d'.e = x.st ∧ d'.to = x.to) ∨ (¬ d.is x ∧ d' = d)) := by
  obtain ⟨d, hd, rfl⟩ := List.mem_map.1 h
  refine ⟨d, hd, ?_⟩
  unfold Dg.fin
  by_cases hx : d.is x
  · rw [if_pos hx]; exact ⟨rfl, rfl, rfl, .inl ⟨hx, rfl, rfl⟩⟩
  · rw [if_neg hx]; exact ⟨rfl, rfl, rfl, .inr ⟨hx, rfl⟩⟩
theorem hs_exec {st n : Nat} {g : Gs} (h : Hs (st + 1) st g) : Hs (st + 1) (st + 1) (exG g st n) := by
  cases hn : (g.th n).now with
  | none => rw [exG_none hn]; exact h.mono (Nat.le_refl _) (Nat.le_succ _)
  | some l =>
    have hp := h.ps n (by rw [hn]; simp)
    by_cases he : (exc l g.w).2.2.2 = true
    · rw [exG_end hn he]
      generalize hx : (⟨st, n, (g.th n).bg - 1, true, (exc l g.w).2.2.1, (exc l g.w).1.t⟩ : Ev) = x
      have x1 : x.st = st := by rw [← hx]
      have x2 : x.th = n := by rw [← hx]
      have x3 : x.cl = (g.th n).bg - 1 := by rw [← hx]
      have x4 : x.en = true := by rw [← hx]
      have hD : dgs (g.out ++ [x]) = (dgs g.out).map (fun d => d.fin x) := by rw [dgs_snoc, dg1_end _ _ x4]
      have his : ∀ d ∈ dgs g.out, d.is x ↔ d.e = -1 ∧ d.th = n := by
        intro d hd
        unfold Dg.is
        rw [x2, x3]
        refine ⟨fun h => ⟨h.2.2, h.1⟩, fun h1 => ⟨h1.2, ?_, h1.1⟩⟩
        have := ((h.opn d hd).1 h1.1).2
        rw [h1.2] at this
        omega
      refine ⟨?_, ?_, ?_, ?_, ?_, ?_, ?_, ?_, ?_, ?_⟩ <;> dsimp only
      · rw [hD]
        intro d' hd'
        obtain ⟨d, hd, q1, q2, q3, ⟨q4, q5, q6⟩ | ⟨q4, rfl⟩⟩ := fin_mem hd'
        · have := (h.bnd d hd).1
          rw [q1, q5, x1]
          exact ⟨this, fun _ => by omega⟩
        · obtain ⟨h1, h2⟩ := h.bnd d' hd
          exact ⟨h1, fun hne => by have := h2 hne; omega⟩
      · rw [hD, List.pairwise_map]
        refine h.srt.imp fun {a b} hab => ?_
        unfold Dg.fin
        split <;> split <;> exact hab
      · rw [hD]
        intro d' hd'
        obtain ⟨d, hd, q1, q2, q3, _⟩ := fin_mem hd'
        rw [q2, q3]
        have := h.own d hd
        by_cases hdn : d.th = n
        · rw [hdn, putT_same]; rw [hdn] at this; exact this
        · rw [putT_other _ _ hdn]; exact this
      · rw [hD]
        intro t c hc
        have hc' : c < (g.th t).bg := by
          by_cases ht : t = n
          · rw [ht, putT_same] at hc; rw [ht]; exact hc
          · rw [putT_other _ _ ht] at hc; exact hc
        obtain ⟨d, hd, h1, h2⟩ := h.all t c hc'
        refine ⟨d.fin x, List.mem_map.2 ⟨d, hd, rfl⟩, ?_⟩
        unfold Dg.fin
        split <;> exact ⟨h1, h2⟩
      · rw [hD]
        intro d' hd'
        obtain ⟨d, hd, q1, q2, q3, ⟨q4, q5, q6⟩ | ⟨q4, rfl⟩⟩ := fin_mem hd'
        · have h1 := ((his d hd).1 q4).2
          rw [q2, h1, putT_same, q5]
          exact ⟨fun h => by omega, fun h => absurd rfl h.1⟩
        · by_cases hdn : d'.th = n
          · have h1 : d'.e ≠ -1 := fun h2 => q4 ((his d' hd).2 ⟨h2, hdn⟩)
            rw [hdn, putT_same]
            exact ⟨fun h => absurd h h1, fun h => absurd rfl h.1⟩
          · rw [putT_other _ _ hdn]; exact h.opn d' hd
      · rw [hD]
        intro d' hd' he'
        obtain ⟨d, hd, q1, q2, q3, ⟨q4, q5, q6⟩ | ⟨q4, rfl⟩⟩ := fin_mem hd'
        · rw [q5] at he'; omega
        · exact h.tld d' hd he'
      · rw [hD]
        intro a' ha' b' hb' hth hab
        obtain ⟨a, ha, a1, a2, a3, a4⟩ := fin_mem ha'
        obtain ⟨b, hb, b1, b2, b3, b4⟩ := fin_mem hb'
        obtain ⟨h1, h2⟩ := h.seq a ha b hb (by rw [← a2, ← b2]; exact hth) (by rw [← a3, ← b3]; exact hab)
        rcases a4 with ⟨q4, _⟩ | ⟨q4, rfl⟩
        · exact absurd ((his a ha).1 q4).1 h1
        · rw [b1]; exact ⟨h1, h2⟩
      · rw [hD]
        intro a' ha' b' hb' hth hab
        obtain ⟨a, ha, rfl⟩ := List.mem_map.1 ha'
        obtain ⟨b, hb, rfl⟩ := List.mem_map.1 hb'
        have e1 : ∀ d : Dg, (d.fin x).th = d.th ∧ (d.fin x).cl = d.cl := fun d => by unfold Dg.fin; split <;> exact ⟨rfl, rfl⟩
        have := h.one a ha b hb (by rw [← (e1 a).1, ← (e1 b).1]; exact hth) (by rw [← (e1 a).2, ← (e1 b).2]; exact hab)
        rw [this]
      · rw [hD]
        intro a' ha' b' hb' hne hab
        obtain ⟨a, ha, rfl⟩ := List.mem_map.1 ha'
        obtain ⟨b, hb, rfl⟩ := List.mem_map.1 hb'
        have e1 : ∀ d ∈ dgs g.out, (d.e = -1 ∧ d.th = n ∧ (d.fin x).e = st) ∨ ((d.fin x) = d) := fun d hd => by
          unfold Dg.fin
          by_cases hx' : d.is x
          · rw [if_pos hx']
            have := (his d hd).1 hx'
            exact .inl ⟨this.1, this.2, by dsimp only; rw [x1]⟩
          · rw [if_neg hx']; exact .inr rfl
        have key : ∀ a ∈ dgs g.out, ∀ b ∈ dgs g.out, a.e = -1 → a.th = n → b.e = -1 → b.th = n → a = b := by
          intro a ha b hb h1 h2 h3 h4
          have g1 := ((h.opn a ha).1 h1).2
          have g2 := ((h.opn b hb).1 h3).2
          rw [h2] at g1
          rw [h4] at g2
          exact h.one a ha b hb (by rw [h2, h4]) (by omega)
        rcases e1 a ha with ⟨g1, g2, g3⟩ | g1
        · rcases e1 b hb with ⟨k1, k2, k3⟩ | k1
          · rw [key a ha b hb g1 g2 k1 k2]
          · rw [g3, k1] at hab
            have := (h.bnd b hb).2 (by omega)
            omega
        · rcases e1 b hb with ⟨k1, k2, k3⟩ | k1
          · rw [k3, g1] at hab
            have := (h.bnd a ha).2 (by omega)
            omega
          · rw [g1, k1] at hab ⊢
            rw [g1] at hne
            exact h.ends a ha b hb hne hab
      · intro t ht
        by_cases htn : t = n
        · rw [htn, putT_same] at ht; exact absurd rfl ht
        · rw [putT_other _ _ htn] at ht ⊢; exact h.ps t ht
    · have he' : (exc l g.w).2.2.2 = false := by simpa using he
      rw [exG_go hn he']
      have hth : ∀ t, (putT g.th n ⟨some (exc l g.w).1, (g.th n).bg⟩ t).bg = (g.th t).bg ∧ ((putT g.th n ⟨some (exc l g.w).1, (g.th n).bg⟩ t).now ≠ none ↔ (g.th t).now ≠ none) := by
        intro t
        by_cases ht : t = n
        · rw [ht, putT_same]; exact ⟨rfl, by rw [hn]; simp⟩
        · rw [putT_other _ _ ht]; exact ⟨rfl, Iff.rfl⟩
      refine ⟨?_, h.srt, ?_, ?_, ?_, h.tld, h.seq, h.one, h.ends, ?_⟩ <;> dsimp only
      · intro d hd
        obtain ⟨h1, h2⟩ := h.bnd d hd
        exact ⟨h1, fun hne => by have := h2 hne; omega⟩
      · intro d hd; rw [(hth _).1]; exact h.own d hd
      · intro t c hc; rw [(hth _).1] at hc; exact h.all t c hc
      · intro d hd; rw [(hth _).1, (hth _).2]; exact h.opn d hd
      · intro t ht; rw [(hth _).1]; exact h.ps t ((hth t).2.1 ht)
theorem hs_act {m : Mc} {st n : Nat} {g : Gs} (h : Hs st st g) : Hs (st + 1) (st + 1) (actG m g st n) := by
  rw [actG_eq]; exact hs_exec (hs_begin h)
/-- What holds of a run at each step. -/
theorem plyG_ind {m : Mc} {I : Nat → Gs → Prop} {A : Nat → Prop} (h0 : I 0 (g0 m)) (hs : ∀ st g n, A n → I st g → I (st + 1) (actG m g st n)) : ∀ (l : List Nat), (∀ n ∈ l, A n) → I l.length (plyG m 0 l (g0 m)) := by
  suffices h : ∀ (l : List Nat) (st : Nat) (g : Gs), I st g → (∀ n ∈ l, A n) → I (st + l.length) (plyG m st l g) from fun l hl => by have := h l 0 (g0 m) h0 hl; rwa [Nat.zero_add] at this
  intro l
  induction l with
  | nil => intro st g h _; exact h
  | cons n l ih =>
    intro st g h hl
    have := ih (st + 1) (actG m g st n) (hs st g n (hl n (by simp)) h) (fun k hk => hl k (by simp [hk]))
    rw [List.length_cons, show st + (l.length + 1) = st + 1 + l.length by omega]
    exact this
theorem hs_ply (m : Mc) (l : List Nat) : Hs l.length l.length (plyG m 0 l (g0 m)) := plyG_ind (I := fun st g => Hs st st g) (A := fun _ => True) (hs_zero m) (fun _ _ _ _ h => hs_act h) l (fun _ _ => trivial)
/-- Who is within a call has one that is open. -/
theorem Hs.live {sb se n : Nat} {g : Gs} (h : Hs sb se g) (hn : (g.th n).now ≠ none) : ∃ d ∈ dgs g.out, d.th = n ∧ d.cl = (g.th n).bg - 1 ∧ d.e = -1 ∧ d.cl + 1 = (g.th n).bg := by
  have h1 := h.ps n hn
  obtain ⟨d, hd, h2, h3⟩ := h.all n ((g.th n).bg - 1) (by omega)
  exact ⟨d, hd, h2, h3, (h.opn d hd).2 ⟨by rw [h2]; exact hn, by rw [h2]; omega⟩, by omega⟩
/-- No call ends with an error. -/
def noErr (g : Gs) : Prop := ∀ x ∈ g.out, x.en = true → x.er = 0
theorem rn_begin {m : Mc} {st n : Nat} {g : Gs} (h : rnOk g.out) : rnOk (bgG m g st n).out := by
  unfold bgG
  cases hn : (g.th n).now with
  | some l => exact h
  | none =>
    dsimp only
    cases hc : (m.ts[n]?.getD [])[(g.th n).bg]? with
    | none => exact h
    | some c => exact rnOk_snoc.2 ⟨h, fun h => by simp at h⟩
theorem rn_exec {st n : Nat} {g : Gs} {sb se : Nat} (hs : Hs sb se g) (h : rnOk g.out) (he : noErr (exG g st n)) : rnOk (exG g st n).out := by
  cases hn : (g.th n).now with
  | none => rw [exG_none hn]; exact h
  | some l =>
    by_cases hq : (exc l g.w).2.2.2 = true
    · rw [exG_end hn hq] at he ⊢
      refine rnOk_snoc.2 ⟨h, fun _ => ⟨he _ (by simp) rfl, ?_⟩⟩
      obtain ⟨d, hd, h1, h2, h3, _⟩ := hs.live (n := n) (by rw [hn]; simp)
      exact ⟨d, hd, h1, h2, h3⟩
    · rw [exG_go hn (by simpa using hq)]; exact h
theorem noErr_of_exec {st n : Nat} {g : Gs} (h : noErr (exG g st n)) : noErr g := by
  cases hn : (g.th n).now with
  | none => rwa [exG_none hn] at h
  | some l =>
    by_cases hq : (exc l g.w).2.2.2 = true
    · rw [exG_end hn hq] at h
      exact fun x hx => h x (by simp [hx])
    · rw [exG_go hn (by simpa using hq)] at h; exact h
theorem noErr_of_begin {m : Mc} {st n : Nat} {g : Gs} (h : noErr (bgG m g st n)) : noErr g := by
  unfold bgG at h
  cases hn : (g.th n).now with
  | some l => simp only [hn] at h; exact h
  | none =>
    simp only [hn] at h
    cases hc : (m.ts[n]?.getD [])[(g.th n).bg]? with
    | none => simp only [hc] at h; exact h
    | some c => simp only [hc] at h; exact fun x hx => h x (by simp [hx])
theorem rn_ply {m : Mc} (l : List Nat) (h : noErr (plyG m 0 l (g0 m))) : rnOk (plyG m 0 l (g0 m)).out := by
  refine plyG_ind (I := fun st g => Hs st st g ∧ (noErr g → rnOk g.out)) (A := fun _ => True) ⟨hs_zero m, fun _ i x hx => by simp [g0] at hx⟩ (fun st g n _ hI => ⟨hs_act hI.1, fun he => ?_⟩) l (fun _ _ => trivial) |>.2 h
  rw [actG_eq] at he ⊢
  exact rn_exec (hs_begin hI.1) (rn_begin (hI.2 (noErr_of_begin (noErr_of_exec he)))) he
end Go.Baro
