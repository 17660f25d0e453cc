/- What stays within its bounds in a run; what run.Play answers. No statement of the seat is proved here; no condition. -/
import Derived.Test.YtjihopbapnfppaaDoorRunPure
set_option linter.unusedSimpArgs false
set_option linter.unusedVariables false
namespace Go.Baro

def WOk (w : List Int) : Prop := w.length ≤ 200 ∧ ∀ x ∈ w, inW x
def LOk (l : Lv) : Prop := 0 ≤ l.p ∧ l.p ≤ l.c.length ∧ (∀ i, inW (l.r i)) ∧ (∀ x ∈ l.t, inW x) ∧ l.t.length ≤ 200
theorem ok_of {l : Lv} {w : List Int} (hl : LOk l) (hw : WOk w) : Ok l.c.length ⟨l.p, l.r, w, l.t⟩ := ⟨hl.1, hl.2.1, hl.2.2.1, hw.2, hw.1, hl.2.2.2.1, hl.2.2.2.2⟩
theorem live_ok {c : List Ins} {ar : List Int} (h : ∀ x ∈ ar, inW x) : LOk (live c ar) := by
  have := st0_ok (n := c.length) (args := ar) (words := []) h (by simp) (by simp)
  exact ⟨this.lo, this.hi, this.r, this.t, this.tl⟩
/-- An instruction of a thread within its call. -/
theorem exc_ok {l : Lv} {w : List Int} (hc : okC l.c) (hi : ∀ o ∈ l.c, inI o) (hl : LOk l) (hw : WOk w) :
    WOk (exc l w).2.1 ∧ LOk (exc l w).1 ∧ (exc l w).1.c = l.c ∧ ((exc l w).2.2.2 = false → (exc l w).1.p < l.c.length) := by
  unfold exc
  by_cases hp : l.p = l.c.length
  · rw [if_pos hp]; exact ⟨hw, hl, rfl, fun h => by cases h⟩
  · rw [if_neg hp]
    have hlt : l.p < l.c.length := by have := hl.2.1; omega
    have hlo := hl.1
    have hn : l.p.toNat < l.c.length := by omega
    rw [List.getElem?_eq_getElem hn, Option.getD_some]
    have hm := List.getElem_mem hn
    have hk := stp_ok (hc.2 _ hm) (hi _ hm) (ok_of hl hw) hlt
    refine ⟨⟨hk.wl, hk.w⟩, ⟨hk.lo, hk.hi, hk.r, hk.t, hk.tl⟩, rfl, fun h => ?_⟩
    have := hk.hi
    simp only [decide_eq_false_iff_not, not_or, Decidable.not_not] at h
    dsimp only
    omega
/-- A thread within a call that has not ended, and what its next instruction gives. -/
theorem exc_stp {l : Lv} {w : List Int} {o : Ins} {s' : Vs} {E : Int} (hp : l.p < l.c.length) (ho : l.c[l.p.toNat]? = some o) (hs : stp l.c.length o ⟨l.p, l.r, w, l.t⟩ = (s', E)) :
    exc l w = (⟨l.c, s'.p, s'.r, s'.t⟩, s'.w, E, decide (E ≠ 0 ∨ s'.p = l.c.length)) := by
  unfold exc
  rw [if_neg (by omega), ho, Option.getD_some, hs]
theorem exc_none {l : Lv} {w : List Int} (hp : l.p = l.c.length) : exc l w = (l, w, 0, true) := by unfold exc; rw [if_pos hp]
/-- What holds of a run at step st. -/
structure GOk (m : Mc) (st : Nat) (g : Gs) : Prop where
  w : WOk g.w
  th : ∀ i l, (g.th i).now = some l → l.c ∈ m.cs ∧ LOk l ∧ l.p < l.c.length
  bg : ∀ i, (g.th i).bg ≤ (m.ts[i]?.getD []).length
  ps : ∀ i l, (g.th i).now = some l → 1 ≤ (g.th i).bg
  out : g.out.length ≤ 2 * st
theorem actL_ok {m : Mc} {g : Gs} {st n bg : Nat} {l : Lv} {o : List Ev} (hcs : ∀ c ∈ m.cs, okC c ∧ ∀ o ∈ c, inI o) (h : GOk m st g) (hl : LOk l) (hc : l.c ∈ m.cs) (h1 : 1 ≤ bg) (h2 : bg ≤ (m.ts[n]?.getD []).length) (ho : o.length ≤ 2 * st + 1) : GOk m (st + 1) (actL g st n bg l o) := by
  obtain ⟨e1, e2, e3, e4⟩ := exc_ok (hcs _ hc).1 (hcs _ hc).2 hl h.w
  unfold actL
  dsimp only
  by_cases hq : (exc l g.w).2.2.2 = true
  · rw [if_pos hq]
    refine ⟨e1, fun i k hk => ?_, fun i => ?_, fun i k hk => ?_, by simp; omega⟩
    · by_cases hi : i = n
      · simp [putT, hi] at hk
      · simp only [putT, if_neg hi] at hk; exact h.th i k hk
    · by_cases hi : i = n
      · subst hi; simp [putT]; exact h2
      · simp only [putT, if_neg hi]; exact h.bg i
    · by_cases hi : i = n
      · simp [putT, hi] at hk
      · simp only [putT, if_neg hi] at hk ⊢; exact h.ps i k hk
  · rw [if_neg hq]
    refine ⟨e1, fun i k hk => ?_, fun i => ?_, fun i k hk => ?_, by dsimp only; omega⟩
    · by_cases hi : i = n
      · simp [putT, hi] at hk
        subst hk
        rw [e3]
        exact ⟨hc, e2, e4 (by simpa using hq)⟩
      · simp only [putT, if_neg hi] at hk; exact h.th i k hk
    · by_cases hi : i = n
      · subst hi; simp [putT]; exact h2
      · simp only [putT, if_neg hi]; exact h.bg i
    · by_cases hi : i = n
      · simp [putT, hi]; exact h1
      · simp only [putT, if_neg hi] at hk ⊢; exact h.ps i k hk
/-- The call that a thread begins. -/
theorem call_at {m : Mc} (hm : okMc m) {n i : Nat} {c : Cl} (hc : (m.ts[n]?.getD [])[i]? = some c) : okCl m c ∧ m.cs[c.k.toNat]?.getD [] ∈ m.cs := by
  cases ht : m.ts[n]? with
  | none => rw [ht] at hc; simp at hc
  | some t =>
    rw [ht] at hc
    have hk := (hm.2.2.2.2 t (List.mem_of_getElem? ht)).2 c (List.mem_of_getElem? hc)
    refine ⟨hk, ?_⟩
    have hlt : c.k.toNat < m.cs.length := by have := hk.1; omega
    rw [List.getElem?_eq_getElem hlt]
    exact List.getElem_mem hlt
theorem actG_ok {m : Mc} {g : Gs} {st n : Nat} (hm : okMc m) (hcs : ∀ c ∈ m.cs, okC c ∧ ∀ o ∈ c, inI o) (hts : ∀ t ∈ m.ts, ∀ c ∈ t, ∀ x ∈ c.ar, inW x) (h : GOk m st g) : GOk m (st + 1) (actG m g st n) := by
  unfold actG
  cases hn : (g.th n).now with
  | some l =>
    obtain ⟨h1, h2, h3⟩ := h.th n l hn
    exact actL_ok hcs h h2 h1 (h.ps n l hn) (h.bg n) (by have := h.out; omega)
  | none =>
    dsimp only
    cases hc : (m.ts[n]?.getD [])[(g.th n).bg]? with
    | none => exact ⟨h.w, h.th, h.bg, h.ps, by have := h.out; show g.out.length ≤ _; omega⟩
    | some c =>
      have hlt : (g.th n).bg < (m.ts[n]?.getD []).length := (List.getElem?_eq_some_iff.1 hc).1
      have har : ∀ x ∈ c.ar, inW x := by
        cases ht : m.ts[n]? with
        | none => rw [ht] at hc; simp at hc
        | some t => rw [ht] at hc; exact hts t (List.mem_of_getElem? ht) c (List.mem_of_getElem? hc)
      exact actL_ok hcs h (live_ok har) (call_at hm hc).2 (by omega) (by omega) (by have := h.out; simp; omega)
theorem g0_ok {m : Mc} (hm : okMc m) (hw : ∀ x ∈ m.ws, inW x) : GOk m 0 (g0 m) :=
  ⟨⟨hm.1, hw⟩, fun _ _ h => (by cases h), fun _ => Nat.zero_le _, fun _ _ h => (by cases h), Nat.le_refl _⟩
theorem plyG_snoc (m : Mc) (l : List Nat) (n : Nat) (g : Gs) : plyG m 0 (l ++ [n]) g = actG m (plyG m 0 l g) l.length n := by
  rw [plyG_append]
  show actG m _ (0 + l.length) n = _
  rw [Nat.zero_add]
theorem plyG_ok {m : Mc} (hm : okMc m) (hcs : ∀ c ∈ m.cs, okC c ∧ ∀ o ∈ c, inI o) (hts : ∀ t ∈ m.ts, ∀ c ∈ t, ∀ x ∈ c.ar, inW x) (hw : ∀ x ∈ m.ws, inW x) : ∀ (k : Nat) (l : List Nat), l.length = k → GOk m k (plyG m 0 l (g0 m))
  | 0, l, hl => by rw [List.eq_nil_of_length_eq_zero hl]; exact g0_ok hm hw
  | k + 1, l, hl => by
    have hne : l ≠ [] := fun h => by rw [h] at hl; cases hl
    rw [← List.dropLast_concat_getLast hne, plyG_snoc]
    have h1 : l.dropLast.length = k := by simp [hl]
    rw [h1]
    exact actG_ok hm hcs hts (plyG_ok hm hcs hts hw k _ h1)

/-- What run.Play answers: events, words, an error. -/
def PlR (m : Mc) (s : List Int) (T : List Ev) (W : List Int) (E : Int) : Prop :=
  (¬ okMc m ∧ T = [] ∧ W = [] ∧ E = 4) ∨ (okMc m ∧ 6000 < s.length ∧ T = [] ∧ W = [] ∧ E = 1) ∨ (okMc m ∧ s.length ≤ 6000 ∧ (∃ x ∈ s, x < 0 ∨ (m.ts.length : Int) ≤ x) ∧ T = [] ∧ W = [] ∧ E = 2) ∨
  (okMc m ∧ s.length ≤ 6000 ∧ (∀ x ∈ s, 0 ≤ x ∧ x < m.ts.length) ∧ T = (plyG m 0 (s.map Int.toNat) (g0 m)).out ∧ W = (plyG m 0 (s.map Int.toNat) (g0 m)).w ∧ E = 0)
theorem plR_some (m : Mc) (s : List Int) : ∃ T W E, PlR m s T W E := by
  by_cases h1 : okMc m
  · by_cases h2 : 6000 < s.length
    · exact ⟨[], [], 1, .inr (.inl ⟨h1, h2, rfl, rfl, rfl⟩)⟩
    · by_cases h3 : ∃ x ∈ s, x < 0 ∨ (m.ts.length : Int) ≤ x
      · exact ⟨[], [], 2, .inr (.inr (.inl ⟨h1, by omega, h3, rfl, rfl, rfl⟩))⟩
      · refine ⟨_, _, 0, .inr (.inr (.inr ⟨h1, by omega, fun x hx => ?_, rfl, rfl, rfl⟩))⟩
        by_cases h4 : 0 ≤ x ∧ x < m.ts.length
        · exact h4
        · exact absurd ⟨x, hx, by omega⟩ h3
  · exact ⟨[], [], 4, .inl ⟨h1, rfl, rfl, rfl⟩⟩
end Go.Baro
