/- Of this claim's own texts these, one behind the other: LibE, RunPure4, RunSpec, SameIntsK. No statement of the seat is proved here; no condition but those that stand at the theorems. -/
import Derived.Test.YtjihopbapnfppaaDoorPartAG
import Derived.Test.YtjihopbapnfppaaDoorPartAE
import Derived.Test.YtjihopbapnfppaaDoorPartAF
import Derived.Test.YtjihopbapnfppaaDoorPartAD
import Derived.Test.YtjihopbapnfppaaDoorRows
import Derived.Test.YtjihopbapnfppaaDoorPartAC
set_option linter.unusedSimpArgs false
set_option linter.unusedVariables false
namespace Go.Baro
open Go.RowKit

section
variable {P : Program} {t e : TypeId} {z : Value} {s by' : Nat} {ops : Array Oper} {rest : List Oper} {o : Oper} {a : Act} {Q : Exit → Act → World → Prop}
/-- append(v, x..) where x is a row that was written out just ahead of it; which block the new row lies in. -/
theorem app_litB (E : Elt P t e z s by') (w : World) (hgd : o.guard = none) (l x : Operand) (ho : o.op = .call { callee := .builtin .append, args := #[l, x], argTypes := #[t, t] })
    (base : Nat) (v : Value) (n : Nat) (xs : List Value) (hs : a.eval l = v) (hown : w.ownsRow base e s v n xs) (m : Nat) (cs : List Value)
    (g : Nat) (hg : g = w.heap.size) (hx : a.eval x = .slice (some ⟨g, 0, none⟩) m m) (hl : cs.length = m * s) (h1 : ∀ u ∈ cs, u.oneCell' = true) (hn : (n + m) * by' ≤ 140737488355328) (hn' : n + m ≤ 140737488355328) (hb : base ≤ w.heap.size)
    (h : ∀ v' w', w'.ownsRow base e s v' (n + m) (xs ++ cs) → (w.alloc (.cells cs.toArray e)).grownBy w' v.ownBlock → (v'.ownBlock = v.ownBlock ∨ v'.ownBlock = some (w.heap.size + 1)) → wpList P ops Q rest (a.put o.dst v') w') :
    wpList P ops Q (o :: rest) a (w.alloc (.cells cs.toArray e)) := by
  subst hg
  refine app_srcB E (w.alloc (.cells cs.toArray e)) hgd l x ho base v n xs hs (hown.alloc _) _ m m cs hx _ (Rd.lit w e hl) h1 hn hn' (by simp; omega) ?_
  intro v' w' h1 h2 _ _ h3
  refine h v' w' h1 h2 ?_
  rw [show (w.alloc (.cells cs.toArray e)).heap.size = w.heap.size + 1 by simp] at h3
  exact h3
theorem app_litBd (E : Elt P t e z s by') (w : World) (hgd : o.guard = none) (l x : Operand) (ho : o.op = .call { callee := .builtin .append, args := #[l, x], argTypes := #[t, t] })
    (base : Nat) (v : Value) (n : Nat) (xs : List Value) (hs : a.eval l = v) (hown : w.ownsRow base e s v n xs) (m : Nat) (cs : List Value)
    (g : Nat) (hg : g = w.heap.size) (hx : a.eval x = .slice (some ⟨g, 0, none⟩) m m) (hl : cs.length = m * s) (h1 : ∀ u ∈ cs, u.oneCell' = true) (hn : (n + m) * by' ≤ 140737488355328) (hn' : n + m ≤ 140737488355328) (hb : base ≤ w.heap.size)
    (h : ∀ v' w', w'.ownsRow base e s v' (n + m) (xs ++ cs) → (w.alloc (.cells cs.toArray e)).grownBy w' v.ownBlock → (v'.ownBlock = v.ownBlock ∨ v'.ownBlock = some (w.heap.size + 1)) → wpList P ops Q rest (a.put o.dst v') w') :
    wpList P ops Q (o :: rest) a (w.alloc (.cells cs.toArray e)).drew :=
  app_litB E w.drew hgd l x ho base v n xs hs hown m cs g hg hx hl h1 hn hn' hb fun v' w' h1 h2 h3 => h v' w' h1 ⟨h2.os, h2.tape, h2.output, h2.size, h2.block⟩ h3
end

/-- The six cells of an event. -/
def evC (x : Ev) (v : Value) : List Value := [.int .i64 x.st, .int .i64 x.th, .int .i64 x.cl, .bool x.en, .int .i64 x.er, v]
/-- Six cells that are an event. -/
def eE (w : World) (B : Nat) (r : List Value) (x : Ev) : Prop := ∃ A n k, r = evC x (.slice A n k) ∧ n ≤ k ∧ n ≤ 200 ∧ RI w B .i64 A n x.to
def REv (w : World) (B : Nat) (A : Option Addr) (n : Nat) (ls : List Ev) : Prop := RG 6 eE w B A n ls
section
variable {w w' : World} {B B' n : Nat} {A : Option Addr} {ls : List Ev}
theorem eE.below {r : List Value} {x : Ev} (h : eE w B r x) (hb : Below B w w') : eE w' B r x := by obtain ⟨A, n, k, h1, h2, h3, h4⟩ := h; exact ⟨A, n, k, h1, h2, h3, h4.below hb⟩
theorem eE.more {r : List Value} {x : Ev} (h : eE w B r x) (hB : B ≤ B') : eE w B' r x := by obtain ⟨A, n, k, h1, h2, h3, h4⟩ := h; exact ⟨A, n, k, h1, h2, h3, h4.more hB⟩
theorem REv.below (h : REv w B A n ls) (hb : Below B w w') : REv w' B A n ls := RG.keep h rfl (fun _ h => h.below hb) (fun _ _ h => eE.below h hb)
theorem REv.more (h : REv w B A n ls) (hB : B ≤ B') : REv w B' A n ls := RG.keep h rfl (fun _ h => h.more hB) (fun _ _ h => eE.more h hB)
theorem REv.len (h : REv w B A n ls) : ls.length = n := RG.len h (by decide)
theorem REv.val (h : REv w B A n ls) {i : Nat} (hi : i < n) : ∃ b o A' n' k x, A = some ⟨b, o, none⟩ ∧ b < B ∧ w.cell? ⟨b, o + i * 6, none⟩ = some (.int .i64 x.st) ∧ w.cell? ⟨b, o + i * 6 + 1, none⟩ = some (.int .i64 x.th) ∧ w.cell? ⟨b, o + i * 6 + 2, none⟩ = some (.int .i64 x.cl) ∧
    w.cell? ⟨b, o + i * 6 + 3, none⟩ = some (.bool x.en) ∧ w.cell? ⟨b, o + i * 6 + 4, none⟩ = some (.int .i64 x.er) ∧ w.cell? ⟨b, o + i * 6 + 5, none⟩ = some (.slice A' n' k) ∧ n' ≤ k ∧ n' ≤ 200 ∧ RI w B .i64 A' n' x.to ∧ Hid (ls[i]? = some x) ∧ x ∈ ls := by
  obtain ⟨b, o, r, x, h1, h2, h3, ⟨A', n', k, rfl, h4, h5, h8⟩, h6, h7⟩ := RG.val h (by decide) hi
  exact ⟨b, o, A', n', k, x, h1, h2, h3 0 (by decide), h3 1 (by decide), h3 2 (by decide), h3 3 (by decide), h3 4 (by decide), h3 5 (by decide), h4, h5, h8, h6, h7⟩
theorem REv.nil (w : World) (B : Nat) : REv w B none 0 [] := ⟨[], rfl, by simp, ⟨by simp, fun h => absurd h (by omega)⟩, fun i r x h => by simp at h⟩
end
/-- An event of the call's own: what it tells lies in blocks of P. -/
def eP (P : Nat → Prop) (w : World) (r : List Value) (x : Ev) : Prop := ∃ A n k, r = evC x (.slice A n k) ∧ n ≤ k ∧ n ≤ 200 ∧ RI w w.heap.size .i64 A n x.to ∧ (0 < n → ∀ b o, A = some ⟨b, o, none⟩ → P b)
/-- The events so far: a row of the call's own. -/
def Er (P : Nat → Prop) (w : World) (B : Nat) (e : TypeId) (ov : Value) (ls : List Ev) : Prop :=
  ∃ rows : List (List Value), rows.length = ls.length ∧ (∀ r ∈ rows, r.length = 6) ∧ w.ownsRow B e 6 ov ls.length rows.flatten ∧ ∀ (i : Nat) r x, rows[i]? = some r → ls[i]? = some x → eP P w r x
section
variable {P X : Nat → Prop} {w w' : World} {B : Nat} {e : TypeId} {ov : Value} {ls : List Ev}
theorem eP.un {r : List Value} {x : Ev} (h : eP P w r x) (hu : Un X w w') (hP : ∀ b, P b → ¬ X b) : eP P w' r x := by
  obtain ⟨A, n, k, h1, h2, h3, h4, h5⟩ := h
  exact ⟨A, n, k, h1, h2, h3, Rd.more (Rd.un h4 hu (Nat.le_refl _) (fun h0 b o hA => hP b (h5 h0 b o hA))) hu.size, h5⟩
theorem Er.nil (P : Nat → Prop) (w : World) (B : Nat) (e : TypeId) : Er P w B e (.slice none 0 0) [] := ⟨[], rfl, by simp, World.ownsRow_nil _ _ _ _, fun i r x h => by simp at h⟩
theorem Er.un (h : Er P w B e ov ls) (hu : Un X w w') (ho : ∀ k, ov.ownBlock = some k → ¬ X k) (hP : ∀ b, P b → ¬ X b) : Er P w' B e ov ls := by
  obtain ⟨rows, h1, h2, h3, h4⟩ := h
  exact ⟨rows, h1, h2, own_un h3 hu ho, fun i r x hr hx => (h4 i r x hr hx).un hu hP⟩
theorem Er.mono {P' : Nat → Prop} (h : Er P w B e ov ls) (hP : ∀ b, b < w.heap.size → P b → P' b) : Er P' w B e ov ls := by
  obtain ⟨rows, h1, h2, h3, h4⟩ := h
  refine ⟨rows, h1, h2, h3, fun i r x hr hx => ?_⟩
  obtain ⟨A, n, k, q1, q2, q3, q4, q5⟩ := h4 i r x hr hx
  refine ⟨A, n, k, q1, q2, q3, q4, fun h0 b o hA => ?_⟩
  obtain ⟨b', o', hA', hb', _⟩ := Rd.at_ q4 h0
  rw [hA] at hA'
  injection hA' with hA'
  injection hA' with hA' _
  exact hP b (by omega) (q5 h0 b o hA)
/-- One more event. -/
theorem er_snoc {rows : List (List Value)} {r : List Value} {x : Ev} {v' : Value} {n : Nat} (h1 : rows.length = ls.length) (h2 : ∀ r ∈ rows, r.length = 6) (h4 : ∀ (i : Nat) r x, rows[i]? = some r → ls[i]? = some x → eP P w r x)
    (ho : w'.ownsRow B e 6 v' n (rows.flatten ++ r)) (hn : n = ls.length + 1) (hu : Un X w w') (hP : ∀ b, P b → ¬ X b) (hr : eP P w r x) : Er P w' B e v' (ls ++ [x]) := by
  have hr6 : r.length = 6 := by obtain ⟨A, n, k, rfl, _⟩ := hr; rfl
  refine ⟨rows ++ [r], by simp [h1], fun q hq => ?_, ?_, fun i q y hq hy => ?_⟩
  · rcases List.mem_append.1 hq with hq | hq
    · exact h2 q hq
    · rw [List.mem_singleton.1 hq]; exact hr6
  · rw [List.flatten_append, List.length_append, List.length_singleton, ← hn]
    simpa using ho
  · rcases Nat.lt_trichotomy i rows.length with hi | hi | hi
    · rw [List.getElem?_append_left hi] at hq
      rw [List.getElem?_append_left (by omega)] at hy
      exact (h4 i q y hq hy).un hu hP
    · rw [List.getElem?_append_right (by omega), show i - rows.length = 0 by omega] at hq
      rw [List.getElem?_append_right (by omega), show i - ls.length = 0 by omega] at hy
      injection hq with hq
      injection hy with hy
      subst hq hy
      exact hr.un hu hP
    · rw [List.getElem?_eq_none (by simp; omega)] at hq; cases hq
theorem Er.post (h : Er P w B e ov ls) : ∃ A c, ov = .slice A ls.length c ∧ ls.length ≤ c ∧ REv w w.heap.size A ls.length ls := by
  obtain ⟨rows, h1, h2, h3, h4⟩ := h
  obtain ⟨A, c, rfl, hlc⟩ := own_form h3
  refine ⟨A, c, rfl, hlc, rows, h1, h2, Rd.of_own h3, fun i r x hr hx => ?_⟩
  obtain ⟨A, n, k, q1, q2, q3, q4, _⟩ := h4 i r x hr hx
  exact ⟨A, n, k, q1, q2, q3, q4⟩
end
/-- What run.Play leaves. -/
def PlPost (T : List Ev) (W : List Int) (E : Int) (w : World) (e : Ending) (w' : World) : Prop :=
  ∃ A n c A1 n1 c1, e = .returned (.tuple #[.slice A n c, .slice A1 n1 c1, .int .i64 E]) ∧ REv w' w'.heap.size A n T ∧ RI w' w'.heap.size .i64 A1 n1 W ∧ n ≤ c ∧ n1 ≤ c1 ∧ n ≤ 12000 ∧ n1 ≤ 200 ∧ Below w.heap.size w w'
end Go.Baro

set_option linter.unusedSimpArgs false
set_option linter.unusedVariables false
namespace Go.Baro

def WOk (w : List Int) : Prop := w.length ≤ 200 ∧ ∀ x ∈ w, inW x
def LOk (l : Lv) : Prop := 0 ≤ l.p ∧ l.p ≤ l.c.length ∧ (∀ i, inW (l.r i)) ∧ (∀ x ∈ l.t, inW x) ∧ l.t.length ≤ 200
theorem ok_of {l : Lv} {w : List Int} (hl : LOk l) (hw : WOk w) : Ok l.c.length ⟨l.p, l.r, w, l.t⟩ := ⟨hl.1, hl.2.1, hl.2.2.1, hw.2, hw.1, hl.2.2.2.1, hl.2.2.2.2⟩
theorem live_ok {c : List Ins} {ar : List Int} (h : ∀ x ∈ ar, inW x) : LOk (live c ar) := by
  have := st0_ok (n := c.length) (args := ar) (words := []) h (by simp) (by simp)
  exact ⟨this.lo, this.hi, this.r, this.t, this.tl⟩
/-- An instruction of a thread within its call. -/
theorem exc_ok {l : Lv} {w : List Int} (hc : okC l.c) (hi : ∀ o ∈ l.c, inI o) (hl : LOk l) (hw : WOk w) :
    WOk (exc l w).2.1 ∧ LOk (exc l w).1 ∧ (exc l w).1.c = l.c ∧ ((exc l w).2.2.2 = false → (exc l w).1.p < l.c.length) := by
  unfold exc
  by_cases hp : l.p = l.c.length
  · rw [if_pos hp]; exact ⟨hw, hl, rfl, fun h => by cases h⟩
  · rw [if_neg hp]
    have hlt : l.p < l.c.length := by have := hl.2.1; omega
    have hlo := hl.1
    have hn : l.p.toNat < l.c.length := by omega
    rw [List.getElem?_eq_getElem hn, Option.getD_some]
    have hm := List.getElem_mem hn
    have hk := stp_ok (hc.2 _ hm) (hi _ hm) (ok_of hl hw) hlt
    refine ⟨⟨hk.wl, hk.w⟩, ⟨hk.lo, hk.hi, hk.r, hk.t, hk.tl⟩, rfl, fun h => ?_⟩
    have := hk.hi
    simp only [decide_eq_false_iff_not, not_or, Decidable.not_not] at h
    dsimp only
    omega
/-- A thread within a call that has not ended, and what its next instruction gives. -/
theorem exc_stp {l : Lv} {w : List Int} {o : Ins} {s' : Vs} {E : Int} (hp : l.p < l.c.length) (ho : l.c[l.p.toNat]? = some o) (hs : stp l.c.length o ⟨l.p, l.r, w, l.t⟩ = (s', E)) :
    exc l w = (⟨l.c, s'.p, s'.r, s'.t⟩, s'.w, E, decide (E ≠ 0 ∨ s'.p = l.c.length)) := by
  unfold exc
  rw [if_neg (by omega), ho, Option.getD_some, hs]
theorem exc_none {l : Lv} {w : List Int} (hp : l.p = l.c.length) : exc l w = (l, w, 0, true) := by unfold exc; rw [if_pos hp]
/-- What holds of a run at step st. -/
structure GOk (m : Mc) (st : Nat) (g : Gs) : Prop where
  w : WOk g.w
  th : ∀ i l, (g.th i).now = some l → l.c ∈ m.cs ∧ LOk l ∧ l.p < l.c.length
  bg : ∀ i, (g.th i).bg ≤ (m.ts[i]?.getD []).length
  ps : ∀ i l, (g.th i).now = some l → 1 ≤ (g.th i).bg
  out : g.out.length ≤ 2 * st
theorem actL_ok {m : Mc} {g : Gs} {st n bg : Nat} {l : Lv} {o : List Ev} (hcs : ∀ c ∈ m.cs, okC c ∧ ∀ o ∈ c, inI o) (h : GOk m st g) (hl : LOk l) (hc : l.c ∈ m.cs) (h1 : 1 ≤ bg) (h2 : bg ≤ (m.ts[n]?.getD []).length) (ho : o.length ≤ 2 * st + 1) : GOk m (st + 1) (actL g st n bg l o) := by
  obtain ⟨e1, e2, e3, e4⟩ := exc_ok (hcs _ hc).1 (hcs _ hc).2 hl h.w
  unfold actL
  dsimp only
  by_cases hq : (exc l g.w).2.2.2 = true
  · rw [if_pos hq]
    refine ⟨e1, fun i k hk => ?_, fun i => ?_, fun i k hk => ?_, by simp; omega⟩
    · by_cases hi : i = n
      · simp [putT, hi] at hk
      · simp only [putT, if_neg hi] at hk; exact h.th i k hk
    · by_cases hi : i = n
      · subst hi; simp [putT]; exact h2
      · simp only [putT, if_neg hi]; exact h.bg i
    · by_cases hi : i = n
      · simp [putT, hi] at hk
      · simp only [putT, if_neg hi] at hk ⊢; exact h.ps i k hk
  · rw [if_neg hq]
    refine ⟨e1, fun i k hk => ?_, fun i => ?_, fun i k hk => ?_, by dsimp only; omega⟩
    · by_cases hi : i = n
      · simp [putT, hi] at hk
        subst hk
        rw [e3]
        exact ⟨hc, e2, e4 (by simpa using hq)⟩
      · simp only [putT, if_neg hi] at hk; exact h.th i k hk
    · by_cases hi : i = n
      · subst hi; simp [putT]; exact h2
      · simp only [putT, if_neg hi]; exact h.bg i
    · by_cases hi : i = n
      · simp [putT, hi]; exact h1
      · simp only [putT, if_neg hi] at hk ⊢; exact h.ps i k hk
/-- The call that a thread begins. -/
theorem call_at {m : Mc} (hm : okMc m) {n i : Nat} {c : Cl} (hc : (m.ts[n]?.getD [])[i]? = some c) : okCl m c ∧ m.cs[c.k.toNat]?.getD [] ∈ m.cs := by
  cases ht : m.ts[n]? with
  | none => rw [ht] at hc; simp at hc
  | some t =>
    rw [ht] at hc
    have hk := (hm.2.2.2.2 t (List.mem_of_getElem? ht)).2 c (List.mem_of_getElem? hc)
    refine ⟨hk, ?_⟩
    have hlt : c.k.toNat < m.cs.length := by have := hk.1; omega
    rw [List.getElem?_eq_getElem hlt]
    exact List.getElem_mem hlt
theorem actG_ok {m : Mc} {g : Gs} {st n : Nat} (hm : okMc m) (hcs : ∀ c ∈ m.cs, okC c ∧ ∀ o ∈ c, inI o) (hts : ∀ t ∈ m.ts, ∀ c ∈ t, ∀ x ∈ c.ar, inW x) (h : GOk m st g) : GOk m (st + 1) (actG m g st n) := by
  unfold actG
  cases hn : (g.th n).now with
  | some l =>
    obtain ⟨h1, h2, h3⟩ := h.th n l hn
    exact actL_ok hcs h h2 h1 (h.ps n l hn) (h.bg n) (by have := h.out; omega)
  | none =>
    dsimp only
    cases hc : (m.ts[n]?.getD [])[(g.th n).bg]? with
    | none => exact ⟨h.w, h.th, h.bg, h.ps, by have := h.out; show g.out.length ≤ _; omega⟩
    | some c =>
      have hlt : (g.th n).bg < (m.ts[n]?.getD []).length := (List.getElem?_eq_some_iff.1 hc).1
      have har : ∀ x ∈ c.ar, inW x := by
        cases ht : m.ts[n]? with
        | none => rw [ht] at hc; simp at hc
        | some t => rw [ht] at hc; exact hts t (List.mem_of_getElem? ht) c (List.mem_of_getElem? hc)
      exact actL_ok hcs h (live_ok har) (call_at hm hc).2 (by omega) (by omega) (by have := h.out; simp; omega)
theorem g0_ok {m : Mc} (hm : okMc m) (hw : ∀ x ∈ m.ws, inW x) : GOk m 0 (g0 m) :=
  ⟨⟨hm.1, hw⟩, fun _ _ h => (by cases h), fun _ => Nat.zero_le _, fun _ _ h => (by cases h), Nat.le_refl _⟩
theorem plyG_snoc (m : Mc) (l : List Nat) (n : Nat) (g : Gs) : plyG m 0 (l ++ [n]) g = actG m (plyG m 0 l g) l.length n := by
  rw [plyG_append]
  show actG m _ (0 + l.length) n = _
  rw [Nat.zero_add]
theorem plyG_ok {m : Mc} (hm : okMc m) (hcs : ∀ c ∈ m.cs, okC c ∧ ∀ o ∈ c, inI o) (hts : ∀ t ∈ m.ts, ∀ c ∈ t, ∀ x ∈ c.ar, inW x) (hw : ∀ x ∈ m.ws, inW x) : ∀ (k : Nat) (l : List Nat), l.length = k → GOk m k (plyG m 0 l (g0 m))
  | 0, l, hl => by rw [List.eq_nil_of_length_eq_zero hl]; exact g0_ok hm hw
  | k + 1, l, hl => by
    have hne : l ≠ [] := fun h => by rw [h] at hl; cases hl
    rw [← List.dropLast_concat_getLast hne, plyG_snoc]
    have h1 : l.dropLast.length = k := by simp [hl]
    rw [h1]
    exact actG_ok hm hcs hts (plyG_ok hm hcs hts hw k _ h1)

/-- What run.Play answers: events, words, an error. -/
def PlR (m : Mc) (s : List Int) (T : List Ev) (W : List Int) (E : Int) : Prop :=
  (¬ okMc m ∧ T = [] ∧ W = [] ∧ E = 4) ∨ (okMc m ∧ 6000 < s.length ∧ T = [] ∧ W = [] ∧ E = 1) ∨ (okMc m ∧ s.length ≤ 6000 ∧ (∃ x ∈ s, x < 0 ∨ (m.ts.length : Int) ≤ x) ∧ T = [] ∧ W = [] ∧ E = 2) ∨
  (okMc m ∧ s.length ≤ 6000 ∧ (∀ x ∈ s, 0 ≤ x ∧ x < m.ts.length) ∧ T = (plyG m 0 (s.map Int.toNat) (g0 m)).out ∧ W = (plyG m 0 (s.map Int.toNat) (g0 m)).w ∧ E = 0)
theorem plR_some (m : Mc) (s : List Int) : ∃ T W E, PlR m s T W E := by
  by_cases h1 : okMc m
  · by_cases h2 : 6000 < s.length
    · exact ⟨[], [], 1, .inr (.inl ⟨h1, h2, rfl, rfl, rfl⟩)⟩
    · by_cases h3 : ∃ x ∈ s, x < 0 ∨ (m.ts.length : Int) ≤ x
      · exact ⟨[], [], 2, .inr (.inr (.inl ⟨h1, by omega, h3, rfl, rfl, rfl⟩))⟩
      · refine ⟨_, _, 0, .inr (.inr (.inr ⟨h1, by omega, fun x hx => ?_, rfl, rfl, rfl⟩))⟩
        by_cases h4 : 0 ≤ x ∧ x < m.ts.length
        · exact h4
        · exact absurd ⟨x, hx, by omega⟩ h3
  · exact ⟨[], [], 4, .inl ⟨h1, rfl, rfl, rfl⟩⟩
end Go.Baro

set_option linter.unusedSimpArgs false
set_option linter.unusedVariables false
namespace Go.Proofs.YtjihopbapnfppaaDoor
open Go.RowKit Go.Ord Go.Baro

/-- run.May, of a machine in memory. -/
def MaySpec : Prop := ∀ (w : World) (hT : Tab w) (Aw : Option Addr) (nw cw : Nat) (Ac : Option Addr) (nc cc : Nat) (At : Option Addr) (nt ct : Nat) (m : Mc) (r : Bool) (hm : InM w Aw nw cw Ac nc cc At nt ct m) (hr : r = true ↔ okMc m),
    Calls Tryd.prog 26 #[.agg #[.slice Aw nw cw, .slice Ac nc cc, .slice At nt ct]] w fun e w' => e = .returned (.bool r) ∧ Below w.heap.size w w'
/-- run.Play, of a machine and a schedule in memory. -/
def PlaySpec : Prop := ∀ (w : World) (hT : Tab w) (Aw : Option Addr) (nw cw : Nat) (Ac : Option Addr) (nc cc : Nat) (At : Option Addr) (nt ct : Nat) (m : Mc) (As : Option Addr) (ns cs : Nat) (s : List Int) (T : List Ev) (W : List Int) (E : Int) (hm : InM w Aw nw cw Ac nc cc At nt ct m)
    (hs : RI w w.heap.size .i64 As ns s) (hn : ns ≤ 140737488355328) (hR : PlR m s T W E), Calls Tryd.prog 28 #[.agg #[.slice Aw nw cw, .slice Ac nc cc, .slice At nt ct], .slice As ns cs] w (PlPost T W E w)
end Go.Proofs.YtjihopbapnfppaaDoor

set_option linter.unusedSimpArgs false
set_option linter.unusedVariables false
namespace Go.Proofs.YtjihopbapnfppaaDoor
open Go.RowKit Go.Ord Go.Baro

set_option maxHeartbeats 1000000 in
theorem keep_sameInts (xs ys : List Int) (A A' : Option Addr) (n c n' c' : Nat) (w : World) (B B' : Nat) (r : Bool) (h : RI w B .i64 A n xs) (h' : RI w B' .i64 A' n' ys) (hr : r = true ↔ xs = ys) (hn : n ≤ 140737488355328) (hn' : n' ≤ 140737488355328) :
    Calls Tryd.prog 23 #[.slice A n c, .slice A' n' c'] w fun e w' => e = .returned (.bool r) ∧ ∃ m, w' = w.drewN m := by
  have HL := Lib.hid h.len
  have HL' := Lib.hid h'.len
  have HR := Lib.hid hr
  clear hr
  by_cases hne : n = n'
  · subst hne
    go_enter Tryd.func23, Tryd.ntmps23
    go_wp2
    go_loopw [5] (fun i wr => ∃ j : Nat, j ≤ n ∧ i = .int .i64 j ∧ Hid (xs.take j = ys.take j) ∧ ∃ m, wr = w.drewN m) (fun i _ => n - (intOf i).toNat)
    case atStart => exact ⟨0, Nat.zero_le _, rfl, rfl, 0, rfl⟩
    case round =>
      obtain ⟨j, hj, rfl, HE, m, rfl⟩ := hrel
      by_cases hlt : j < n
      · obtain ⟨b, o, x, rfl, _, hcell, HX, _⟩ := h.val hlt
        obtain ⟨b', o', y, rfl, _, hcell', HY, _⟩ := h'.val hlt
        by_cases hxy : x = y
        · subst hxy
          go_wp2
          refine region_two [0, 1, 2, 3, 4, 5, 6, 7, 8] [] (by kernel_rfl) (by kernel_rfl) ?_
          simp only [pick, List.map_cons, List.map_nil, List.getD_cons_zero, List.getD_cons_succ]
          go_wp2
          go_roundw
          case rel => exact ⟨j + 1, by omega, by go_num, by show _ = _; rw [at_take HX.out, at_take HY.out, HE.out], _, rfl⟩
          case measure => simp [intOf]; omega
        · have hb : (x != y) = true := by simp [hxy]
          go_wp2
          refine region_two [0, 1, 2, 3, 4, 5, 6, 7, 8] [] (by kernel_rfl) (by kernel_rfl) ?_
          simp only [pick, List.map_cons, List.map_nil, List.getD_cons_zero, List.getD_cons_succ]
          go_wp2
          go_ret
          refine ⟨ret_bool ?_, _, rfl⟩
          cases r with
          | false => rfl
          | true =>
            have := HR.out.1 rfl
            subst this
            have h1 := HX.out
            rw [HY.out] at h1
            exact absurd (Option.some.inj h1).symm hxy
      · go_wp2
        go_ret
        refine ⟨ret_bool ?_, _, rfl⟩
        have he := HE.out
        rw [List.take_of_length_le (by rw [HL.out]; omega), List.take_of_length_le (by rw [HL'.out]; omega)] at he
        exact (HR.out.2 he).symm
  · have hb : ((n : Int) != (n' : Int)) = true := by simp; omega
    go_enter Tryd.func23, Tryd.ntmps23
    go_wp2
    go_ret
    refine ⟨ret_bool ?_, 0, rfl⟩
    cases r with
    | false => rfl
    | true =>
      have := HR.out.1 rfl
      subst this
      have h1 := HL.out
      rw [HL'.out] at h1
      omega
end Go.Proofs.YtjihopbapnfppaaDoor
