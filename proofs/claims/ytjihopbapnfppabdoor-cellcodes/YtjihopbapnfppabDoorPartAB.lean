/- Of this claim's own texts these, one behind the other: RunPure4, Ord. No statement of the seat is proved here; no condition but those that stand at the theorems. -/
import Derived.Test.YtjihopbapnfppabDoorPartAA
import Derived.Still
import Derived.Tactics
import Derived.Tactics2
import Derived.WalkKit
set_option linter.unusedSimpArgs false
set_option linter.unusedVariables false
namespace Go.Baro

def WOk (w : List Int) : Prop := w.length ≤ 200 ∧ ∀ x ∈ w, inW x
def LOk (l : Lv) : Prop := 0 ≤ l.p ∧ l.p ≤ l.c.length ∧ (∀ i, inW (l.r i)) ∧ (∀ x ∈ l.t, inW x) ∧ l.t.length ≤ 200
theorem ok_of {l : Lv} {w : List Int} (hl : LOk l) (hw : WOk w) : Ok l.c.length ⟨l.p, l.r, w, l.t⟩ := ⟨hl.1, hl.2.1, hl.2.2.1, hw.2, hw.1, hl.2.2.2.1, hl.2.2.2.2⟩
theorem live_ok {c : List Ins} {ar : List Int} (h : ∀ x ∈ ar, inW x) : LOk (live c ar) := by
  have := st0_ok (n := c.length) (args := ar) (words := []) h (by simp) (by simp)
  exact ⟨this.lo, this.hi, this.r, this.t, this.tl⟩
/-- An instruction of a thread within its call. -/
theorem exc_ok {l : Lv} {w : List Int} (hc : okC l.c) (hi : ∀ o ∈ l.c, inI o) (hl : LOk l) (hw : WOk w) :
    WOk (exc l w).2.1 ∧ LOk (exc l w).1 ∧ (exc l w).1.c = l.c ∧ ((exc l w).2.2.2 = false → (exc l w).1.p < l.c.length) := by
  unfold exc
  by_cases hp : l.p = l.c.length
  · rw [if_pos hp]; exact ⟨hw, hl, rfl, fun h => by cases h⟩
  · rw [if_neg hp]
    have hlt : l.p < l.c.length := by have := hl.2.1; omega
    have hlo := hl.1
    have hn : l.p.toNat < l.c.length := by omega
    rw [List.getElem?_eq_getElem hn, Option.getD_some]
    have hm := List.getElem_mem hn
    have hk := stp_ok (hc.2 _ hm) (hi _ hm) (ok_of hl hw) hlt
    refine ⟨⟨hk.wl, hk.w⟩, ⟨hk.lo, hk.hi, hk.r, hk.t, hk.tl⟩, rfl, fun h => ?_⟩
    have := hk.hi
    simp only [decide_eq_false_iff_not, not_or, Decidable.not_not] at h
    dsimp only
    omega
/-- A thread within a call that has not ended, and what its next instruction gives. -/
theorem exc_stp {l : Lv} {w : List Int} {o : Ins} {s' : Vs} {E : Int} (hp : l.p < l.c.length) (ho : l.c[l.p.toNat]? = some o) (hs : stp l.c.length o ⟨l.p, l.r, w, l.t⟩ = (s', E)) :
    exc l w = (⟨l.c, s'.p, s'.r, s'.t⟩, s'.w, E, decide (E ≠ 0 ∨ s'.p = l.c.length)) := by
  unfold exc
  rw [if_neg (by omega), ho, Option.getD_some, hs]
theorem exc_none {l : Lv} {w : List Int} (hp : l.p = l.c.length) : exc l w = (l, w, 0, true) := by unfold exc; rw [if_pos hp]
/-- What holds of a run at step st. -/
structure GOk (m : Mc) (st : Nat) (g : Gs) : Prop where
  w : WOk g.w
  th : ∀ i l, (g.th i).now = some l → l.c ∈ m.cs ∧ LOk l ∧ l.p < l.c.length
  bg : ∀ i, (g.th i).bg ≤ (m.ts[i]?.getD []).length
  ps : ∀ i l, (g.th i).now = some l → 1 ≤ (g.th i).bg
  out : g.out.length ≤ 2 * st
theorem actL_ok {m : Mc} {g : Gs} {st n bg : Nat} {l : Lv} {o : List Ev} (hcs : ∀ c ∈ m.cs, okC c ∧ ∀ o ∈ c, inI o) (h : GOk m st g) (hl : LOk l) (hc : l.c ∈ m.cs) (h1 : 1 ≤ bg) (h2 : bg ≤ (m.ts[n]?.getD []).length) (ho : o.length ≤ 2 * st + 1) : GOk m (st + 1) (actL g st n bg l o) := by
  obtain ⟨e1, e2, e3, e4⟩ := exc_ok (hcs _ hc).1 (hcs _ hc).2 hl h.w
  unfold actL
  dsimp only
  by_cases hq : (exc l g.w).2.2.2 = true
  · rw [if_pos hq]
    refine ⟨e1, fun i k hk => ?_, fun i => ?_, fun i k hk => ?_, by simp; omega⟩
    · by_cases hi : i = n
      · simp [putT, hi] at hk
      · simp only [putT, if_neg hi] at hk; exact h.th i k hk
    · by_cases hi : i = n
      · subst hi; simp [putT]; exact h2
      · simp only [putT, if_neg hi]; exact h.bg i
    · by_cases hi : i = n
      · simp [putT, hi] at hk
      · simp only [putT, if_neg hi] at hk ⊢; exact h.ps i k hk
  · rw [if_neg hq]
    refine ⟨e1, fun i k hk => ?_, fun i => ?_, fun i k hk => ?_, by dsimp only; omega⟩
    · by_cases hi : i = n
      · simp [putT, hi] at hk
        subst hk
        rw [e3]
        exact ⟨hc, e2, e4 (by simpa using hq)⟩
      · simp only [putT, if_neg hi] at hk; exact h.th i k hk
    · by_cases hi : i = n
      · subst hi; simp [putT]; exact h2
      · simp only [putT, if_neg hi]; exact h.bg i
    · by_cases hi : i = n
      · simp [putT, hi]; exact h1
      · simp only [putT, if_neg hi] at hk ⊢; exact h.ps i k hk
/-- The call that a thread begins. -/
theorem call_at {m : Mc} (hm : okMc m) {n i : Nat} {c : Cl} (hc : (m.ts[n]?.getD [])[i]? = some c) : okCl m c ∧ m.cs[c.k.toNat]?.getD [] ∈ m.cs := by
  cases ht : m.ts[n]? with
  | none => rw [ht] at hc; simp at hc
  | some t =>
    rw [ht] at hc
    have hk := (hm.2.2.2.2 t (List.mem_of_getElem? ht)).2 c (List.mem_of_getElem? hc)
    refine ⟨hk, ?_⟩
    have hlt : c.k.toNat < m.cs.length := by have := hk.1; omega
    rw [List.getElem?_eq_getElem hlt]
    exact List.getElem_mem hlt
theorem actG_ok {m : Mc} {g : Gs} {st n : Nat} (hm : okMc m) (hcs : ∀ c ∈ m.cs, okC c ∧ ∀ o ∈ c, inI o) (hts : ∀ t ∈ m.ts, ∀ c ∈ t, ∀ x ∈ c.ar, inW x) (h : GOk m st g) : GOk m (st + 1) (actG m g st n) := by
  unfold actG
  cases hn : (g.th n).now with
  | some l =>
    obtain ⟨h1, h2, h3⟩ := h.th n l hn
    exact actL_ok hcs h h2 h1 (h.ps n l hn) (h.bg n) (by have := h.out; omega)
  | none =>
    dsimp only
    cases hc : (m.ts[n]?.getD [])[(g.th n).bg]? with
    | none => exact ⟨h.w, h.th, h.bg, h.ps, by have := h.out; show g.out.length ≤ _; omega⟩
    | some c =>
      have hlt : (g.th n).bg < (m.ts[n]?.getD []).length := (List.getElem?_eq_some_iff.1 hc).1
      have har : ∀ x ∈ c.ar, inW x := by
        cases ht : m.ts[n]? with
        | none => rw [ht] at hc; simp at hc
        | some t => rw [ht] at hc; exact hts t (List.mem_of_getElem? ht) c (List.mem_of_getElem? hc)
      exact actL_ok hcs h (live_ok har) (call_at hm hc).2 (by omega) (by omega) (by have := h.out; simp; omega)
theorem g0_ok {m : Mc} (hm : okMc m) (hw : ∀ x ∈ m.ws, inW x) : GOk m 0 (g0 m) :=
  ⟨⟨hm.1, hw⟩, fun _ _ h => (by cases h), fun _ => Nat.zero_le _, fun _ _ h => (by cases h), Nat.le_refl _⟩
theorem plyG_snoc (m : Mc) (l : List Nat) (n : Nat) (g : Gs) : plyG m 0 (l ++ [n]) g = actG m (plyG m 0 l g) l.length n := by
  rw [plyG_append]
  show actG m _ (0 + l.length) n = _
  rw [Nat.zero_add]
theorem plyG_ok {m : Mc} (hm : okMc m) (hcs : ∀ c ∈ m.cs, okC c ∧ ∀ o ∈ c, inI o) (hts : ∀ t ∈ m.ts, ∀ c ∈ t, ∀ x ∈ c.ar, inW x) (hw : ∀ x ∈ m.ws, inW x) : ∀ (k : Nat) (l : List Nat), l.length = k → GOk m k (plyG m 0 l (g0 m))
  | 0, l, hl => by rw [List.eq_nil_of_length_eq_zero hl]; exact g0_ok hm hw
  | k + 1, l, hl => by
    have hne : l ≠ [] := fun h => by rw [h] at hl; cases hl
    rw [← List.dropLast_concat_getLast hne, plyG_snoc]
    have h1 : l.dropLast.length = k := by simp [hl]
    rw [h1]
    exact actG_ok hm hcs hts (plyG_ok hm hcs hts hw k _ h1)

/-- What run.Play answers: events, words, an error. -/
def PlR (m : Mc) (s : List Int) (T : List Ev) (W : List Int) (E : Int) : Prop :=
  (¬ okMc m ∧ T = [] ∧ W = [] ∧ E = 4) ∨ (okMc m ∧ 6000 < s.length ∧ T = [] ∧ W = [] ∧ E = 1) ∨ (okMc m ∧ s.length ≤ 6000 ∧ (∃ x ∈ s, x < 0 ∨ (m.ts.length : Int) ≤ x) ∧ T = [] ∧ W = [] ∧ E = 2) ∨
  (okMc m ∧ s.length ≤ 6000 ∧ (∀ x ∈ s, 0 ≤ x ∧ x < m.ts.length) ∧ T = (plyG m 0 (s.map Int.toNat) (g0 m)).out ∧ W = (plyG m 0 (s.map Int.toNat) (g0 m)).w ∧ E = 0)
theorem plR_some (m : Mc) (s : List Int) : ∃ T W E, PlR m s T W E := by
  by_cases h1 : okMc m
  · by_cases h2 : 6000 < s.length
    · exact ⟨[], [], 1, .inr (.inl ⟨h1, h2, rfl, rfl, rfl⟩)⟩
    · by_cases h3 : ∃ x ∈ s, x < 0 ∨ (m.ts.length : Int) ≤ x
      · exact ⟨[], [], 2, .inr (.inr (.inl ⟨h1, by omega, h3, rfl, rfl, rfl⟩))⟩
      · refine ⟨_, _, 0, .inr (.inr (.inr ⟨h1, by omega, fun x hx => ?_, rfl, rfl, rfl⟩))⟩
        by_cases h4 : 0 ≤ x ∧ x < m.ts.length
        · exact h4
        · exact absurd ⟨x, hx, by omega⟩ h3
  · exact ⟨[], [], 4, .inl ⟨h1, rfl, rfl, rfl⟩⟩
end Go.Baro

set_option linter.unusedSimpArgs false
set_option linter.unusedVariables false
namespace Go.Ord

/-- s writes nothing: it may look (at blocks that are there), ask, make new blocks, halt. -/
def NoWr (P : Program) {α : Type} : Sem α → Prop
  | .pure _ => True
  | .load _ _ k => ∀ v, NoWr P (k v)
  | .store _ _ _ _ => False
  | .new _ k => ∀ r, NoWr P (k r)
  | .shape r k => (∀ s, NoWr P (k s)) ∧ ∀ w a u, w.heap.size ≤ r → (k none).run P w ≠ .ok a u
  | .freeze _ _ _ => False
  | .frozen _ _ => False
  | .getObj _ k => ∀ o, NoWr P (k o)
  | .setObj _ _ _ => False
  | .choose _ k => ∀ n, NoWr P (k n)
  | .sys _ _ => False
  | .program k => NoWr P (k P)
  | .mark _ k => NoWr P k
  | .halt _ => True

section
variable {P : Program} {α β : Type}

theorem NoWr.bnd {s : Sem α} {f : α → Sem β} (hs : NoWr P s) (hf : ∀ a, NoWr P (f a)) : NoWr P (s.bind f) := by
  induction s with
  | pure a => exact hf a
  | load m a k ih => exact fun v => ih v (hs v)
  | store m a v k ih => exact hs.elim
  | new o k ih => exact fun v => ih v (hs v)
  | shape r k ih =>
    refine ⟨fun v => ih v (hs.1 v), fun w a u hw hr => ?_⟩
    have hr' : ((k none).bind f).run P w = .ok a u := hr
    have hb : ((k none).bind f).run P w = ((k none).run P w).andThen fun x w' => (f x).run P w' := Sem.run_bind ..
    rw [hb] at hr'
    cases hk : (k none).run P w with
    | ok x w' => exact hs.2 w x w' hw hk
    | halt h w' => rw [hk] at hr'; cases hr'
  | freeze a n k ih => exact hs.elim
  | frozen a k ih => exact hs.elim
  | getObj r k ih => exact fun v => ih v (hs v)
  | setObj r o k ih => exact hs.elim
  | choose q k ih => exact fun v => ih v (hs v)
  | sys c k ih => exact hs.elim
  | program k ih => exact ih P hs
  | mark m k ih => exact ih hs
  | halt h => trivial

theorem NoWr.bd {s : Sem α} {f : α → Sem β} (hs : NoWr P s) (hf : ∀ a, NoWr P (f a)) : NoWr P (s >>= f) := NoWr.bnd hs hf
theorem NoWr.pr (a : α) : NoWr P (pure a : Sem α) := trivial
theorem NoWr.mp {s : Sem α} {f : α → β} (hs : NoWr P s) : NoWr P (f <$> s) := NoWr.bnd hs (fun _ => trivial)

/-- A run that writes nothing only goes up: in blocks and in draws; and where neither has gone up, the world is the very same. -/
theorem NoWr.up {s : Sem α} (hs : NoWr P s) : ∀ {w u : World} {a : α}, s.run P w = .ok a u →
    w.heap.size ≤ u.heap.size ∧ w.drawn ≤ u.drawn ∧ (u.heap.size ≤ w.heap.size → u.drawn ≤ w.drawn → u = w) := by
  induction s with
  | pure a => intro w u b h; simp only [Sem.run, Result.ok.injEq] at h; obtain ⟨_, rfl⟩ := h; exact ⟨Nat.le_refl _, Nat.le_refl _, fun _ _ => rfl⟩
  | load m a k ih =>
    intro w u b h
    simp only [Sem.run] at h
    split at h
    · exact ih _ (hs _) h
    · split at h
      · exact ih _ (hs _) h
      · cases h
  | store m a v k ih => exact hs.elim
  | new o k ih =>
    intro w u b h
    simp only [Sem.run] at h
    have := ih _ (hs _) h
    simp only [Array.size_push] at this
    exact ⟨by omega, by omega, fun h1 _ => by omega⟩
  | shape r k ih => intro w u b h; exact ih _ (hs.1 _) h
  | freeze a n k ih => exact hs.elim
  | frozen a k ih => exact hs.elim
  | getObj r k ih =>
    intro w u b h
    simp only [Sem.run] at h
    split at h
    · cases h
    · exact ih _ (hs _) h
    · cases h
  | setObj r o k ih => exact hs.elim
  | choose q k ih =>
    intro w u b h
    simp only [Sem.run] at h
    split at h
    · exact ih _ (hs _) h
    · have := ih _ (hs _) h
      simp only at this
      exact ⟨by omega, by omega, fun h1 _ => by omega⟩
  | sys c k ih => exact hs.elim
  | program k ih => intro w u b h; exact ih P hs h
  | mark m k ih => intro w u b h; exact ih hs h
  | halt x => intro w u b h; simp only [Sem.run] at h; cases h

/-- Every block that w has is there in w', as it was. -/
def Ext (w w' : World) : Prop := ∀ b, b < w.heap.size → w'.heap[b]? = w.heap[b]?
theorem Ext.refl (w : World) : Ext w w := fun _ _ => rfl
theorem Ext.size {w w' : World} (h : Ext w w') : w.heap.size ≤ w'.heap.size := by
  cases hn : w.heap.size with
  | zero => exact Nat.zero_le _
  | succ n =>
    have h1 := h n (by omega)
    have hlt : n < w.heap.size := by omega
    have h3 : w.heap[n]? = some w.heap[n] := Array.getElem?_eq_getElem hlt
    rw [h3] at h1
    obtain ⟨h2, _⟩ := Array.getElem?_eq_some_iff.1 h1
    omega
theorem Ext.trans {a b c : World} (h : Ext a b) (h' : Ext b c) : Ext a c := fun k hk => (h' k (by have := h.size; omega)).trans (h k hk)
theorem Ext.of_heap {w w' : World} (h : w'.heap = w.heap) : Ext w w' := fun b _ => by rw [h]
theorem Ext.kept {w w' : World} (h : Ext w w') {b : Nat} {o : Obj} (ho : w.heap[b]? = some o) : w'.heap[b]? = some o := by
  obtain ⟨h1, _⟩ := Array.getElem?_eq_some_iff.1 ho
  rw [h b h1, ho]

theorem seen_ext {w w' : World} (h : Ext w w') {p : Program} {at_ : Addr} {u : TypeId} {k : Addr} {b : Bool} {r : Array Value × TypeId × (Nat × Nat) × Nat × Value × List (Nat × Nat × List UInt8)} (hr : w.seen p at_ u k b = .ok r) : w'.seen p at_ u k b = .ok r := by
  cases hb : w.heap[at_.block]? with
  | some o =>
    have hb' := h.kept hb
    unfold World.seen at hr ⊢
    rw [hb'] 
    rw [hb] at hr
    exact hr
  | none =>
    exfalso
    unfold World.seen at hr
    simp only [hb] at hr
    simp only [bind, Except.bind, throw, throwThe, MonadExceptOf.throw, pure, Except.pure] at hr
    repeat' (split at hr)
    all_goals (first | cases hr | contradiction | skip)

theorem farLoad_ext {w w' : World} (h : Ext w w') {p : Program} {a : Addr} {b : Bool} {r : Value × List Addr} (hr : w.farLoad p a b = .ok r) : w'.farLoad p a b = .ok r := by
  unfold World.farLoad at hr ⊢
  split at hr
  · rename_i at_ u hb
    rw [h.kept hb]
    dsimp only
    cases hv : w.viewLoad p at_ u a b with
    | error e => rw [hv] at hr; cases hr
    | ok x =>
      rw [hv] at hr
      have : w'.viewLoad p at_ u a b = .ok x := by
        unfold World.viewLoad at hv ⊢
        cases hs : w.seen p at_ u a b with
        | error e => rw [hs] at hv; cases hv
        | ok y => rw [hs] at hv; rw [seen_ext h hs]; exact hv
      rw [this]; exact hr
  · cases hr

/-- A run that writes nothing and leaves the very world goes the same way in every world that has the same blocks, and perhaps more. -/
theorem NoWr.same {s : Sem α} (hs : NoWr P s) : ∀ {w w' : World} {a : α}, s.run P w = .ok a w → Ext w w' → s.run P w' = .ok a w' := by
  induction s with
  | pure a => intro w w' b h hh; simp only [Sem.run, Result.ok.injEq] at h ⊢; exact ⟨h.1, trivial⟩
  | load m a k ih =>
    intro w w' b h hh
    simp only [Sem.run] at h ⊢
    cases hb : w.heap[a.block]? with
    | some o =>
      have hc : w'.cell? a = w.cell? a := by simp only [World.cell?, hb, hh.kept hb]
      rw [hc]
      split at h
      · exact ih _ (hs _) h hh
      · cases hf : w.farLoad P a (m == .atomic) with
        | ok x => rw [hf] at h; rw [farLoad_ext hh hf]; exact ih _ (hs _) h hh
        | error e => rw [hf] at h; cases h
    | none =>
      have hc : w.cell? a = none := by simp only [World.cell?, hb]
      obtain ⟨e, hf⟩ : ∃ e, w.farLoad P a (m == .atomic) = .error e := by
        unfold World.farLoad
        rw [hb]
        exact ⟨_, rfl⟩
      simp only [hc, hf] at h
      cases h
  | store m a v k ih => exact hs.elim
  | new o k ih =>
    intro w w' b h hh
    simp only [Sem.run] at h
    have := (NoWr.up (hs _) h).1
    simp only [Array.size_push] at this
    omega
  | shape r k ih =>
    intro w w' b h hh
    simp only [Sem.run] at h ⊢
    by_cases hr : r < w.heap.size
    · have hc : w'.shape? r = w.shape? r := by simp only [World.shape?, hh r hr]
      rw [hc]; exact ih _ (hs.1 _) h hh
    · have hc : w.shape? r = none := by simp only [World.shape?, Array.getElem?_eq_none (Nat.le_of_not_lt hr)]
      rw [hc] at h
      exact (hs.2 w b w (Nat.le_of_not_lt hr) h).elim
  | freeze a n k ih => exact hs.elim
  | frozen a k ih => exact hs.elim
  | getObj r k ih =>
    intro w w' b h hh
    simp only [Sem.run] at h ⊢
    cases hb : w.heap[r]? with
    | none => rw [hb] at h; cases h
    | some o =>
      rw [hh.kept hb]
      rw [hb] at h
      cases o <;> first | (cases h; done) | exact ih _ (hs _) h hh
  | setObj r o k ih => exact hs.elim
  | choose q k ih =>
    intro w w' b h hh
    simp only [Sem.run] at h ⊢
    split at h
    · rename_i hq; rw [if_pos hq]; exact ih _ (hs _) h hh
    · have := (NoWr.up (hs _) h).2.1
      simp only at this
      omega
  | sys c k ih => exact hs.elim
  | program k ih => intro w w' b h hh; exact ih P hs h hh
  | mark m k ih => intro w w' b h hh; exact ih hs h hh
  | halt x => intro w w' b h hh; simp only [Sem.run] at h; cases h
end

end Go.Ord
