/- Of this claim's own texts these, one behind the other: RanPure, LibD. No statement of the seat is proved here; no condition but those that stand at the theorems. -/
import Derived.Test.YtnchgdjdfhfedaaDoorPartAE
import Derived.Test.YtnchgdjdfhfedaaDoorPartAH
import Derived.Test.YtnchgdjdfhfedaaDoorPartAG
set_option linter.unusedSimpArgs false
set_option linter.unusedVariables false
namespace Go.Baro

/-- A call of a run. -/
structure Dg where
  b : Nat
  e : Int
  th : Nat
  cl : Nat
  to : List Int
/-- The call that an event ends. -/
def Dg.is (d : Dg) (x : Ev) : Prop := d.th = x.th ∧ d.cl = x.cl ∧ d.e = -1
instance (d : Dg) (x : Ev) : Decidable (d.is x) := by unfold Dg.is; infer_instance
def Dg.fin (d : Dg) (x : Ev) : Dg := if d.is x then ⟨d.b, x.st, d.th, d.cl, x.to⟩ else d
def dg1 (l : List Dg) (x : Ev) : List Dg := if x.en = true then l.map (fun d => d.fin x) else l ++ [⟨x.st, -1, x.th, x.cl, []⟩]
/-- The calls that the events tell of. -/
def dgs (es : List Ev) : List Dg := es.foldl dg1 []
theorem dgs_snoc (es : List Ev) (x : Ev) : dgs (es ++ [x]) = dg1 (dgs es) x := by simp [dgs]
theorem dg1_begin (l : List Dg) (x : Ev) (h : x.en = false) : dg1 l x = l ++ [⟨x.st, -1, x.th, x.cl, []⟩] := by simp [dg1, h]
theorem dg1_end (l : List Dg) (x : Ev) (h : x.en = true) : dg1 l x = l.map (fun d => d.fin x) := by simp [dg1, h]
theorem dg1_len (l : List Dg) (x : Ev) : (dg1 l x).length ≤ l.length + 1 := by
  unfold dg1; split <;> simp
theorem dgs_len : ∀ (es : List Ev), (dgs es).length ≤ es.length := by
  intro es
  suffices h : ∀ (es : List Ev) (l : List Dg), (es.foldl dg1 l).length ≤ l.length + es.length by simpa [dgs] using h es []
  intro es
  induction es with
  | nil => intro l; simp
  | cons x es ih =>
    intro l
    rw [List.foldl_cons, List.length_cons]
    have h1 := ih (dg1 l x)
    have h2 := dg1_len l x
    omega
/-- Every end has its beginning, and is without an error. -/
def endOk (l : List Dg) (x : Ev) : Prop := x.en = true → x.er = 0 ∧ ∃ d ∈ l, d.is x
def rnOk (es : List Ev) : Prop := ∀ (i : Nat) x, es[i]? = some x → endOk (dgs (es.take i)) x
theorem rnOk_snoc {es : List Ev} {x : Ev} : rnOk (es ++ [x]) ↔ rnOk es ∧ endOk (dgs es) x := by
  constructor
  · intro h
    refine ⟨fun i y hy => ?_, ?_⟩
    · have hi := (List.getElem?_eq_some_iff.1 hy).1
      have := h i y (by rw [List.getElem?_append_left hi]; exact hy)
      rwa [List.take_append_of_le_length (by omega)] at this
    · have := h es.length x (by simp)
      rwa [List.take_append_of_le_length (Nat.le_refl _), List.take_of_length_le (Nat.le_refl _)] at this
  · rintro ⟨h1, h2⟩ i y hy
    by_cases hi : i < es.length
    · rw [List.getElem?_append_left hi] at hy
      rw [List.take_append_of_le_length (by omega)]
      exact h1 i y hy
    · rw [List.getElem?_append_right (by omega)] at hy
      have h0 : i - es.length = 0 := by
        have := (List.getElem?_eq_some_iff.1 hy).1
        simp at this
        omega
      rw [h0] at hy
      simp at hy
      subst hy
      obtain rfl : i = es.length := by omega
      rwa [List.take_append_of_le_length (Nat.le_refl _), List.take_of_length_le (Nat.le_refl _)]

/-- The beginning of a step: the thread begins its next call, if it is within none. -/
def bgG (m : Mc) (g : Gs) (st n : Nat) : Gs :=
  match (g.th n).now with
  | some _ => g
  | none =>
    match (m.ts[n]?.getD [])[(g.th n).bg]? with
    | none => g
    | some c => ⟨g.w, putT g.th n ⟨some (live (m.cs[c.k.toNat]?.getD []) c.ar), (g.th n).bg + 1⟩, g.out ++ [⟨st, n, (g.th n).bg, false, 0, []⟩]⟩
/-- The rest of it: one instruction. -/
def exG (g : Gs) (st n : Nat) : Gs :=
  match (g.th n).now with
  | none => g
  | some l => actL g st n (g.th n).bg l g.out
theorem putT_twice (f : Nat → Td) (n : Nat) (x y : Td) : putT (putT f n x) n y = putT f n y := by
  funext i
  unfold putT
  split <;> rfl
theorem putT_same (f : Nat → Td) (n : Nat) (x : Td) : putT f n x n = x := by simp [putT]
theorem putT_other (f : Nat → Td) {n i : Nat} (x : Td) (h : i ≠ n) : putT f n x i = f i := by simp [putT, h]
theorem actG_eq (m : Mc) (g : Gs) (st n : Nat) : actG m g st n = exG (bgG m g st n) st n := by
  unfold actG bgG exG
  cases hn : (g.th n).now with
  | some l => simp only [hn]
  | none =>
    dsimp only
    cases hc : (m.ts[n]?.getD [])[(g.th n).bg]? with
    | none => simp only [hn]
    | some c =>
      simp only [putT_same]
      unfold actL
      simp only [putT_twice]
/-- Where a thread's instruction leads. -/
theorem exG_none {g : Gs} {st n : Nat} (h : (g.th n).now = none) : exG g st n = g := by unfold exG; rw [h]
theorem exG_go {g : Gs} {st n : Nat} {l : Lv} (h : (g.th n).now = some l) (he : (exc l g.w).2.2.2 = false) : exG g st n = ⟨(exc l g.w).2.1, putT g.th n ⟨some (exc l g.w).1, (g.th n).bg⟩, g.out⟩ := by
  unfold exG actL
  rw [h]
  simp [he]
theorem exG_end {g : Gs} {st n : Nat} {l : Lv} (h : (g.th n).now = some l) (he : (exc l g.w).2.2.2 = true) : exG g st n = ⟨(exc l g.w).2.1, putT g.th n ⟨none, (g.th n).bg⟩, g.out ++ [⟨st, n, (g.th n).bg - 1, true, (exc l g.w).2.2.1, (exc l g.w).1.t⟩]⟩ := by
  unfold exG actL
  rw [h]
  simp [he]

/-- What the calls of a run keep to: times of beginnings are below sb, those of ends below se. -/
structure Hs (sb se : Nat) (g : Gs) : Prop where
  bnd : ∀ d ∈ dgs g.out, d.b < sb ∧ (d.e ≠ -1 → (d.b : Int) ≤ d.e ∧ d.e < se)
  srt : (dgs g.out).Pairwise (fun a b => a.b < b.b)
  own : ∀ d ∈ dgs g.out, d.cl < (g.th d.th).bg
  all : ∀ t c, c < (g.th t).bg → ∃ d ∈ dgs g.out, d.th = t ∧ d.cl = c
  opn : ∀ d ∈ dgs g.out, d.e = -1 ↔ (g.th d.th).now ≠ none ∧ d.cl + 1 = (g.th d.th).bg
  tld : ∀ d ∈ dgs g.out, d.e = -1 → d.to = []
  seq : ∀ a ∈ dgs g.out, ∀ b ∈ dgs g.out, a.th = b.th → a.cl < b.cl → a.e ≠ -1 ∧ a.e < b.b
  one : ∀ a ∈ dgs g.out, ∀ b ∈ dgs g.out, a.th = b.th → a.cl = b.cl → a = b
  ends : ∀ a ∈ dgs g.out, ∀ b ∈ dgs g.out, a.e ≠ -1 → a.e = b.e → a = b
  ps : ∀ t, (g.th t).now ≠ none → 1 ≤ (g.th t).bg
theorem Hs.mono {sb se sb' se' : Nat} {g : Gs} (h : Hs sb se g) (hb : sb ≤ sb') (he : se ≤ se') : Hs sb' se' g :=
  ⟨fun d hd => by obtain ⟨h1, h2⟩ := h.bnd d hd; exact ⟨by omega, fun hne => by have := h2 hne; omega⟩, h.srt, h.own, h.all, h.opn, h.tld, h.seq, h.one, h.ends, h.ps⟩
theorem hs_zero (m : Mc) : Hs 0 0 (g0 m) := by
  refine ⟨?_, ?_, ?_, ?_, ?_, ?_, ?_, ?_, ?_, ?_⟩ <;> simp [g0, dgs]
theorem hs_begin {m : Mc} {st n : Nat} {g : Gs} (h : Hs st st g) : Hs (st + 1) st (bgG m g st n) := by
  unfold bgG
  cases hn : (g.th n).now with
  | some l => exact h.mono (Nat.le_succ _) (Nat.le_refl _)
  | none =>
    dsimp only
    cases hc : (m.ts[n]?.getD [])[(g.th n).bg]? with
    | none => exact h.mono (Nat.le_succ _) (Nat.le_refl _)
    | some c =>
      dsimp only
      have hD : dgs (g.out ++ [⟨st, n, (g.th n).bg, false, 0, []⟩]) = dgs g.out ++ [⟨st, -1, n, (g.th n).bg, []⟩] := by rw [dgs_snoc, dg1_begin _ _ rfl]
      have hcl : ∀ d ∈ dgs g.out, d.th = n → d.cl < (g.th n).bg ∧ d.e ≠ -1 := by
        intro d hd hdn
        have h1 := h.own d hd
        rw [hdn] at h1
        refine ⟨h1, fun he => ?_⟩
        have := (h.opn d hd).1 he
        rw [hdn] at this
        exact this.1 hn
      refine ⟨?_, ?_, ?_, ?_, ?_, ?_, ?_, ?_, ?_, ?_⟩ <;> dsimp only
      · rw [hD]
        intro d hd
        rcases List.mem_append.1 hd with hd | hd
        · obtain ⟨h1, h2⟩ := h.bnd d hd
          exact ⟨by omega, h2⟩
        · rw [List.mem_singleton.1 hd]; exact ⟨by dsimp only; omega, fun h => absurd rfl h⟩
      · rw [hD]
        refine List.pairwise_append.2 ⟨h.srt, by simp, fun a ha b hb => ?_⟩
        rw [List.mem_singleton.1 hb]
        exact (h.bnd a ha).1
      · rw [hD]
        intro d hd
        rcases List.mem_append.1 hd with hd | hd
        · have h1 := h.own d hd
          by_cases hdn : d.th = n
          · rw [hdn, putT_same]; rw [hdn] at h1; dsimp only; omega
          · rw [putT_other _ _ hdn]; exact h1
        · rw [List.mem_singleton.1 hd]; dsimp only; rw [putT_same]; dsimp only; omega
      · rw [hD]
        intro t c' hc'
        by_cases ht : t = n
        · subst ht
          rw [putT_same] at hc'
          dsimp only at hc'
          by_cases hlt : c' < (g.th t).bg
          · obtain ⟨d, hd, h1⟩ := h.all t c' hlt
            exact ⟨d, by simp [hd], h1⟩
          · exact ⟨⟨st, -1, t, (g.th t).bg, []⟩, by simp, rfl, by dsimp only; omega⟩
        · rw [putT_other _ _ ht] at hc'
          obtain ⟨d, hd, h1⟩ := h.all t c' hc'
          exact ⟨d, by simp [hd], h1⟩
      · rw [hD]
        intro d hd
        rcases List.mem_append.1 hd with hd | hd
        · by_cases hdn : d.th = n
          · obtain ⟨h1, h2⟩ := hcl d hd hdn
            rw [hdn, putT_same]
            exact ⟨fun h => absurd h h2, fun h => by have := h.2; dsimp only at this; omega⟩
          · rw [putT_other _ _ hdn]; exact h.opn d hd
        · rw [List.mem_singleton.1 hd]; dsimp only; rw [putT_same]; simp
      · rw [hD]
        intro d hd he
        rcases List.mem_append.1 hd with hd | hd
        · exact h.tld d hd he
        · rw [List.mem_singleton.1 hd]
      · rw [hD]
        intro a ha b hb hth hab
        rcases List.mem_append.1 ha with ha | ha
        · rcases List.mem_append.1 hb with hb | hb
          · exact h.seq a ha b hb hth hab
          · rw [List.mem_singleton.1 hb] at hth ⊢
            dsimp only at hth ⊢
            obtain ⟨h1, h2⟩ := hcl a ha hth
            exact ⟨h2, ((h.bnd a ha).2 h2).2⟩
        · rw [List.mem_singleton.1 ha] at hth hab
          dsimp only at hth hab
          rcases List.mem_append.1 hb with hb | hb
          · have := (hcl b hb hth.symm).1; omega
          · rw [List.mem_singleton.1 hb] at hab; dsimp only at hab; omega
      · rw [hD]
        intro a ha b hb hth hab
        rcases List.mem_append.1 ha with ha | ha
        · rcases List.mem_append.1 hb with hb | hb
          · exact h.one a ha b hb hth hab
          · rw [List.mem_singleton.1 hb] at hth hab
            dsimp only at hth hab
            have := (hcl a ha hth).1; omega
        · rw [List.mem_singleton.1 ha] at hth hab
          dsimp only at hth hab
          rcases List.mem_append.1 hb with hb | hb
          · have := (hcl b hb hth.symm).1; omega
          · rw [List.mem_singleton.1 ha, List.mem_singleton.1 hb]
      · rw [hD]
        intro a ha b hb hne hab
        rcases List.mem_append.1 ha with ha | ha
        · rcases List.mem_append.1 hb with hb | hb
          · exact h.ends a ha b hb hne hab
          · rw [List.mem_singleton.1 hb] at hab; exact absurd hab hne
        · rw [List.mem_singleton.1 ha] at hne; exact absurd rfl hne
      · intro t ht
        by_cases htn : t = n
        · rw [htn, putT_same]; dsimp only; omega
        · rw [putT_other _ _ htn] at ht ⊢; exact h.ps t ht
/-- What is known of a call behind an end. -/
theorem fin_mem {l : List Dg} {x : Ev} {d' : Dg} (h : d' ∈ l.map (fun d => d.fin x)) : ∃ d ∈ l, d'.b = d.b ∧ d'.th = d.th ∧ d'.cl = d.cl ∧ ((d.is x ∧ d'.e = x.st ∧ d'.to = x.to) ∨ (¬ d.is x ∧ d' = d)) := by
  obtain ⟨d, hd, rfl⟩ := List.mem_map.1 h
  refine ⟨d, hd, ?_⟩
  unfold Dg.fin
  by_cases hx : d.is x
  · rw [if_pos hx]; exact ⟨rfl, rfl, rfl, .inl ⟨hx, rfl, rfl⟩⟩
  · rw [if_neg hx]; exact ⟨rfl, rfl, rfl, .inr ⟨hx, rfl⟩⟩
theorem hs_exec {st n : Nat} {g : Gs} (h : Hs (st + 1) st g) : Hs (st + 1) (st + 1) (exG g st n) := by
  cases hn : (g.th n).now with
  | none => rw [exG_none hn]; exact h.mono (Nat.le_refl _) (Nat.le_succ _)
  | some l =>
    have hp := h.ps n (by rw [hn]; simp)
    by_cases he : (exc l g.w).2.2.2 = true
    · rw [exG_end hn he]
      generalize hx : (⟨st, n, (g.th n).bg - 1, true, (exc l g.w).2.2.1, (exc l g.w).1.t⟩ : Ev) = x
      have x1 : x.st = st := by rw [← hx]
      have x2 : x.th = n := by rw [← hx]
      have x3 : x.cl = (g.th n).bg - 1 := by rw [← hx]
      have x4 : x.en = true := by rw [← hx]
      have hD : dgs (g.out ++ [x]) = (dgs g.out).map (fun d => d.fin x) := by rw [dgs_snoc, dg1_end _ _ x4]
      have his : ∀ d ∈ dgs g.out, d.is x ↔ d.e = -1 ∧ d.th = n := by
        intro d hd
        unfold Dg.is
        rw [x2, x3]
        refine ⟨fun h => ⟨h.2.2, h.1⟩, fun h1 => ⟨h1.2, ?_, h1.1⟩⟩
        have := ((h.opn d hd).1 h1.1).2
        rw [h1.2] at this
        omega
      refine ⟨?_, ?_, ?_, ?_, ?_, ?_, ?_, ?_, ?_, ?_⟩ <;> dsimp only
      · rw [hD]
        intro d' hd'
        obtain ⟨d, hd, q1, q2, q3, ⟨q4, q5, q6⟩ | ⟨q4, rfl⟩⟩ := fin_mem hd'
        · have := (h.bnd d hd).1
          rw [q1, q5, x1]
          exact ⟨this, fun _ => by omega⟩
        · obtain ⟨h1, h2⟩ := h.bnd d' hd
          exact ⟨h1, fun hne => by have := h2 hne; omega⟩
      · rw [hD, List.pairwise_map]
        refine h.srt.imp fun {a b} hab => ?_
        unfold Dg.fin
        split <;> split <;> exact hab
      · rw [hD]
        intro d' hd'
        obtain ⟨d, hd, q1, q2, q3, _⟩ := fin_mem hd'
        rw [q2, q3]
        have := h.own d hd
        by_cases hdn : d.th = n
        · rw [hdn, putT_same]; rw [hdn] at this; exact this
        · rw [putT_other _ _ hdn]; exact this
      · rw [hD]
        intro t c hc
        have hc' : c < (g.th t).bg := by
          by_cases ht : t = n
          · rw [ht, putT_same] at hc; rw [ht]; exact hc
          · rw [putT_other _ _ ht] at hc; exact hc
        obtain ⟨d, hd, h1, h2⟩ := h.all t c hc'
        refine ⟨d.fin x, List.mem_map.2 ⟨d, hd, rfl⟩, ?_⟩
        unfold Dg.fin
        split <;> exact ⟨h1, h2⟩
      · rw [hD]
        intro d' hd'
        obtain ⟨d, hd, q1, q2, q3, ⟨q4, q5, q6⟩ | ⟨q4, rfl⟩⟩ := fin_mem hd'
        · have h1 := ((his d hd).1 q4).2
          rw [q2, h1, putT_same, q5]
          exact ⟨fun h => by omega, fun h => absurd rfl h.1⟩
        · by_cases hdn : d'.th = n
          · have h1 : d'.e ≠ -1 := fun h2 => q4 ((his d' hd).2 ⟨h2, hdn⟩)
            rw [hdn, putT_same]
            exact ⟨fun h => absurd h h1, fun h => absurd rfl h.1⟩
          · rw [putT_other _ _ hdn]; exact h.opn d' hd
      · rw [hD]
        intro d' hd' he'
        obtain ⟨d, hd, q1, q2, q3, ⟨q4, q5, q6⟩ | ⟨q4, rfl⟩⟩ := fin_mem hd'
        · rw [q5] at he'; omega
        · exact h.tld d' hd he'
      · rw [hD]
        intro a' ha' b' hb' hth hab
        obtain ⟨a, ha, a1, a2, a3, a4⟩ := fin_mem ha'
        obtain ⟨b, hb, b1, b2, b3, b4⟩ := fin_mem hb'
        obtain ⟨h1, h2⟩ := h.seq a ha b hb (by rw [← a2, ← b2]; exact hth) (by rw [← a3, ← b3]; exact hab)
        rcases a4 with ⟨q4, _⟩ | ⟨q4, rfl⟩
        · exact absurd ((his a ha).1 q4).1 h1
        · rw [b1]; exact ⟨h1, h2⟩
      · rw [hD]
        intro a' ha' b' hb' hth hab
        obtain ⟨a, ha, rfl⟩ := List.mem_map.1 ha'
        obtain ⟨b, hb, rfl⟩ := List.mem_map.1 hb'
        have e1 : ∀ d : Dg, (d.fin x).th = d.th ∧ (d.fin x).cl = d.cl := fun d => by unfold Dg.fin; split <;> exact ⟨rfl, rfl⟩
        have := h.one a ha b hb (by rw [← (e1 a).1, ← (e1 b).1]; exact hth) (by rw [← (e1 a).2, ← (e1 b).2]; exact hab)
        rw [this]
      · rw [hD]
        intro a' ha' b' hb' hne hab
        obtain ⟨a, ha, rfl⟩ := List.mem_map.1 ha'
        obtain ⟨b, hb, rfl⟩ := List.mem_map.1 hb'
        have e1 : ∀ d ∈ dgs g.out, (d.e = -1 ∧ d.th = n ∧ (d.fin x).e = st) ∨ ((d.fin x) = d) := fun d hd => by
          unfold Dg.fin
          by_cases hx' : d.is x
          · rw [if_pos hx']
            have := (his d hd).1 hx'
            exact .inl ⟨this.1, this.2, by dsimp only; rw [x1]⟩
          · rw [if_neg hx']; exact .inr rfl
        have key : ∀ a ∈ dgs g.out, ∀ b ∈ dgs g.out, a.e = -1 → a.th = n → b.e = -1 → b.th = n → a = b := by
          intro a ha b hb h1 h2 h3 h4
          have g1 := ((h.opn a ha).1 h1).2
          have g2 := ((h.opn b hb).1 h3).2
          rw [h2] at g1
          rw [h4] at g2
          exact h.one a ha b hb (by rw [h2, h4]) (by omega)
        rcases e1 a ha with ⟨g1, g2, g3⟩ | g1
        · rcases e1 b hb with ⟨k1, k2, k3⟩ | k1
          · rw [key a ha b hb g1 g2 k1 k2]
          · rw [g3, k1] at hab
            have := (h.bnd b hb).2 (by omega)
            omega
        · rcases e1 b hb with ⟨k1, k2, k3⟩ | k1
          · rw [k3, g1] at hab
            have := (h.bnd a ha).2 (by omega)
            omega
          · rw [g1, k1] at hab ⊢
            rw [g1] at hne
            exact h.ends a ha b hb hne hab
      · intro t ht
        by_cases htn : t = n
        · rw [htn, putT_same] at ht; exact absurd rfl ht
        · rw [putT_other _ _ htn] at ht ⊢; exact h.ps t ht
    · have he' : (exc l g.w).2.2.2 = false := by simpa using he
      rw [exG_go hn he']
      have hth : ∀ t, (putT g.th n ⟨some (exc l g.w).1, (g.th n).bg⟩ t).bg = (g.th t).bg ∧ ((putT g.th n ⟨some (exc l g.w).1, (g.th n).bg⟩ t).now ≠ none ↔ (g.th t).now ≠ none) := by
        intro t
        by_cases ht : t = n
        · rw [ht, putT_same]; exact ⟨rfl, by rw [hn]; simp⟩
        · rw [putT_other _ _ ht]; exact ⟨rfl, Iff.rfl⟩
      refine ⟨?_, h.srt, ?_, ?_, ?_, h.tld, h.seq, h.one, h.ends, ?_⟩ <;> dsimp only
      · intro d hd
        obtain ⟨h1, h2⟩ := h.bnd d hd
        exact ⟨h1, fun hne => by have := h2 hne; omega⟩
      · intro d hd; rw [(hth _).1]; exact h.own d hd
      · intro t c hc; rw [(hth _).1] at hc; exact h.all t c hc
      · intro d hd; rw [(hth _).1, (hth _).2]; exact h.opn d hd
      · intro t ht; rw [(hth _).1]; exact h.ps t ((hth t).2.1 ht)
theorem hs_act {m : Mc} {st n : Nat} {g : Gs} (h : Hs st st g) : Hs (st + 1) (st + 1) (actG m g st n) := by
  rw [actG_eq]; exact hs_exec (hs_begin h)
/-- What holds of a run at each step. -/
theorem plyG_ind {m : Mc} {I : Nat → Gs → Prop} {A : Nat → Prop} (h0 : I 0 (g0 m)) (hs : ∀ st g n, A n → I st g → I (st + 1) (actG m g st n)) : ∀ (l : List Nat), (∀ n ∈ l, A n) → I l.length (plyG m 0 l (g0 m)) := by
  suffices h : ∀ (l : List Nat) (st : Nat) (g : Gs), I st g → (∀ n ∈ l, A n) → I (st + l.length) (plyG m st l g) from fun l hl => by have := h l 0 (g0 m) h0 hl; rwa [Nat.zero_add] at this
  intro l
  induction l with
  | nil => intro st g h _; exact h
  | cons n l ih =>
    intro st g h hl
    have := ih (st + 1) (actG m g st n) (hs st g n (hl n (by simp)) h) (fun k hk => hl k (by simp [hk]))
    rw [List.length_cons, show st + (l.length + 1) = st + 1 + l.length by omega]
    exact this
theorem hs_ply (m : Mc) (l : List Nat) : Hs l.length l.length (plyG m 0 l (g0 m)) := plyG_ind (I := fun st g => Hs st st g) (A := fun _ => True) (hs_zero m) (fun _ _ _ _ h => hs_act h) l (fun _ _ => trivial)
/-- Who is within a call has one that is open. -/
theorem Hs.live {sb se n : Nat} {g : Gs} (h : Hs sb se g) (hn : (g.th n).now ≠ none) : ∃ d ∈ dgs g.out, d.th = n ∧ d.cl = (g.th n).bg - 1 ∧ d.e = -1 ∧ d.cl + 1 = (g.th n).bg := by
  have h1 := h.ps n hn
  obtain ⟨d, hd, h2, h3⟩ := h.all n ((g.th n).bg - 1) (by omega)
  exact ⟨d, hd, h2, h3, (h.opn d hd).2 ⟨by rw [h2]; exact hn, by rw [h2]; omega⟩, by omega⟩
/-- No call ends with an error. -/
def noErr (g : Gs) : Prop := ∀ x ∈ g.out, x.en = true → x.er = 0
theorem rn_begin {m : Mc} {st n : Nat} {g : Gs} (h : rnOk g.out) : rnOk (bgG m g st n).out := by
  unfold bgG
  cases hn : (g.th n).now with
  | some l => exact h
  | none =>
    dsimp only
    cases hc : (m.ts[n]?.getD [])[(g.th n).bg]? with
    | none => exact h
    | some c => exact rnOk_snoc.2 ⟨h, fun h => by simp at h⟩
theorem rn_exec {st n : Nat} {g : Gs} {sb se : Nat} (hs : Hs sb se g) (h : rnOk g.out) (he : noErr (exG g st n)) : rnOk (exG g st n).out := by
  cases hn : (g.th n).now with
  | none => rw [exG_none hn]; exact h
  | some l =>
    by_cases hq : (exc l g.w).2.2.2 = true
    · rw [exG_end hn hq] at he ⊢
      refine rnOk_snoc.2 ⟨h, fun _ => ⟨he _ (by simp) rfl, ?_⟩⟩
      obtain ⟨d, hd, h1, h2, h3, _⟩ := hs.live (n := n) (by rw [hn]; simp)
      exact ⟨d, hd, h1, h2, h3⟩
    · rw [exG_go hn (by simpa using hq)]; exact h
theorem noErr_of_exec {st n : Nat} {g : Gs} (h : noErr (exG g st n)) : noErr g := by
  cases hn : (g.th n).now with
  | none => rwa [exG_none hn] at h
  | some l =>
    by_cases hq : (exc l g.w).2.2.2 = true
    · rw [exG_end hn hq] at h
      exact fun x hx => h x (by simp [hx])
    · rw [exG_go hn (by simpa using hq)] at h; exact h
theorem noErr_of_begin {m : Mc} {st n : Nat} {g : Gs} (h : noErr (bgG m g st n)) : noErr g := by
  unfold bgG at h
  cases hn : (g.th n).now with
  | some l => simp only [hn] at h; exact h
  | none =>
    simp only [hn] at h
    cases hc : (m.ts[n]?.getD [])[(g.th n).bg]? with
    | none => simp only [hc] at h; exact h
    | some c => simp only [hc] at h; exact fun x hx => h x (by simp [hx])
theorem rn_ply {m : Mc} (l : List Nat) (h : noErr (plyG m 0 l (g0 m))) : rnOk (plyG m 0 l (g0 m)).out := by
  refine plyG_ind (I := fun st g => Hs st st g ∧ (noErr g → rnOk g.out)) (A := fun _ => True) ⟨hs_zero m, fun _ i x hx => by simp [g0] at hx⟩ (fun st g n _ hI => ⟨hs_act hI.1, fun he => ?_⟩) l (fun _ _ => trivial) |>.2 h
  rw [actG_eq] at he ⊢
  exact rn_exec (hs_begin hI.1) (rn_begin (hI.2 (noErr_of_begin (noErr_of_exec he)))) he
end Go.Baro

set_option linter.unusedSimpArgs false
set_option linter.unusedVariables false
namespace Go.Baro
open Go.RowKit

/-- The cells of a call, beside what it tells. -/
def dgC (p : Dg × Value) : List Value := [.int .i64 p.1.b, .int .i64 p.1.e, .int .i64 p.1.th, .int .i64 p.1.cl, p.2]
theorem dgC_len (p : Dg × Value) : (dgC p).length = 5 := rfl
/-- What a call tells lies in a slice. -/
def tld (w : World) (B : Nat) (p : Dg × Value) : Prop := ∃ A n k, p.2 = .slice A n k ∧ n ≤ k ∧ n ≤ 200 ∧ RI w B .i64 A n p.1.to
def RDg (w : World) (B : Nat) (A : Option Addr) (n : Nat) (L : List (Dg × Value)) : Prop := Rd w B 5 A n (L.flatMap dgC) ∧ ∀ p ∈ L, tld w B p
section
variable {w w' : World} {B B' n : Nat} {A : Option Addr} {L : List (Dg × Value)}
theorem tld.below {p : Dg × Value} (h : tld w B p) (hb : Below B w w') : tld w' B p := by obtain ⟨A, n, k, h1, h2, h3, h4⟩ := h; exact ⟨A, n, k, h1, h2, h3, h4.below hb⟩
theorem tld.more {p : Dg × Value} (h : tld w B p) (hB : B ≤ B') : tld w B' p := by obtain ⟨A, n, k, h1, h2, h3, h4⟩ := h; exact ⟨A, n, k, h1, h2, h3, h4.more hB⟩
theorem RDg.below (h : RDg w B A n L) (hb : Below B w w') : RDg w' B A n L := ⟨Rd.below h.1 hb, fun p hp => (h.2 p hp).below hb⟩
theorem RDg.more (h : RDg w B A n L) (hB : B ≤ B') : RDg w B' A n L := ⟨Rd.more h.1 hB, fun p hp => (h.2 p hp).more hB⟩
theorem RDg.len (h : RDg w B A n L) : L.length = n := by have := Rd.len h.1; rw [flatMap_len dgC_len] at this; omega
theorem RDg.val (h : RDg w B A n L) {i : Nat} (hi : i < n) : ∃ b o d A' n' k, A = some ⟨b, o, none⟩ ∧ b < B ∧ w.cell? ⟨b, o + i * 5, none⟩ = some (.int .i64 d.b) ∧ w.cell? ⟨b, o + i * 5 + 1, none⟩ = some (.int .i64 d.e) ∧ w.cell? ⟨b, o + i * 5 + 2, none⟩ = some (.int .i64 d.th) ∧
    w.cell? ⟨b, o + i * 5 + 3, none⟩ = some (.int .i64 d.cl) ∧ w.cell? ⟨b, o + i * 5 + 4, none⟩ = some (.slice A' n' k) ∧ n' ≤ k ∧ n' ≤ 200 ∧ RI w B .i64 A' n' d.to ∧ Hid (L[i]? = some (d, .slice A' n' k)) ∧ Hid ((L.map Prod.fst)[i]? = some d) := by
  have hl := h.len
  have hi2 : i < L.length := by omega
  obtain ⟨b, o, hA, hb, hc⟩ := Rd.at_ h.1 (by omega)
  have key : ∀ j, j < 5 → w.cell? ⟨b, o + i * 5 + j, none⟩ = (dgC L[i])[j]? := fun j hj => by
    rw [Nat.add_assoc, hc _ (by omega), flatMap_at dgC_len L i j _ (List.getElem?_eq_getElem hi2) hj]
  obtain ⟨A', n', k, q1, q2, q3, q4⟩ := h.2 L[i] (List.getElem_mem hi2)
  have h4 := key 4 (by omega)
  have hLi : L[i]? = some (L[i].1, .slice A' n' k) := by rw [List.getElem?_eq_getElem hi2, ← q1]
  refine ⟨b, o, L[i].1, A', n', k, hA, hb, key 0 (by omega), key 1 (by omega), key 2 (by omega), key 3 (by omega), ?_, q2, q3, q4, hLi, ?_⟩
  · rw [h4]; simp [dgC, q1]
  · show _ = _
    rw [List.getElem?_map, hLi]; rfl
theorem flat_fin : ∀ (L : List (Dg × Value)) (k : Nat) (p : Dg × Value) (e : Int) (to : List Int) (v : Value), L[k]? = some p → ((L.flatMap dgC).set (k * 5 + 1) (.int .i64 e)).set (k * 5 + 4) v = (L.set k (⟨p.1.b, e, p.1.th, p.1.cl, to⟩, v)).flatMap dgC
  | [], k, p, e, to, v, h => by simp at h
  | a :: L, 0, p, e, to, v, h => by
    simp only [List.getElem?_cons_zero, Option.some.injEq] at h
    subst h
    simp [dgC]
  | a :: L, k + 1, p, e, to, v, h => by
    have ih := flat_fin L k p e to v (by simpa using h)
    rw [List.flatMap_cons, List.set_cons_succ, List.flatMap_cons, ← ih, show (k + 1) * 5 + 1 = k * 5 + 1 + 5 by omega, show (k + 1) * 5 + 4 = k * 5 + 4 + 5 by omega]
    simp [dgC]
/-- Calls of the call's own. -/
def OwnD (w : World) (B : Nat) (e : TypeId) (v : Value) (n : Nat) (L : List (Dg × Value)) : Prop := w.ownsRow B e 5 v n (L.flatMap dgC)
theorem OwnD.len {e : TypeId} {v : Value} (h : OwnD w B e v n L) : L.length = n := by have := h.1; rw [flatMap_len dgC_len] at this; omega
theorem OwnD.val {e : TypeId} {g c : Nat} (h : OwnD w B e (.slice (some ⟨g, 0, none⟩) n c) n L) {i : Nat} (hi : i < n) : ∃ p, Hid (L[i]? = some p) ∧ p ∈ L ∧ w.cell? ⟨g, i * 5, none⟩ = some (.int .i64 p.1.b) ∧ w.cell? ⟨g, i * 5 + 1, none⟩ = some (.int .i64 p.1.e) ∧ w.cell? ⟨g, i * 5 + 2, none⟩ = some (.int .i64 p.1.th) ∧
    w.cell? ⟨g, i * 5 + 3, none⟩ = some (.int .i64 p.1.cl) ∧ w.cell? ⟨g, i * 5 + 4, none⟩ = some p.2 ∧ w.frozen? ⟨g, i * 5 + 1, none⟩ = false ∧ w.frozen? ⟨g, i * 5 + 4, none⟩ = false := by
  have hl := h.len
  have hi2 : i < L.length := by omega
  have key : ∀ j, j < 5 → w.cell? ⟨g, i * 5 + j, none⟩ = (dgC L[i])[j]? := fun j hj => by
    rw [World.ownsRow.cellAt h _ (by omega), flatMap_at dgC_len L i j _ (List.getElem?_eq_getElem hi2) hj]
  exact ⟨L[i], List.getElem?_eq_getElem hi2, List.getElem_mem hi2, key 0 (by omega), key 1 (by omega), key 2 (by omega), key 3 (by omega), key 4 (by omega), World.ownsRow.frozenAt h _, World.ownsRow.frozenAt h _⟩
theorem OwnD.fin {e : TypeId} {g c : Nat} (h : OwnD w B e (.slice (some ⟨g, 0, none⟩) n c) n L) {i : Nat} {p : Dg × Value} (hp : L[i]? = some p) (en : Int) (to : List Int) (v : Value) :
    OwnD ((w.setCell ⟨g, i * 5 + 1, none⟩ (.int .i64 en)).setCell ⟨g, i * 5 + 4, none⟩ v) B e (.slice (some ⟨g, 0, none⟩) n c) n (L.set i (⟨p.1.b, en, p.1.th, p.1.cl, to⟩, v)) := by
  unfold OwnD
  rw [← flat_fin L i p en to v hp]
  exact (World.ownsRow.stored (World.ownsRow.stored h (i * 5 + 1) (.int .i64 en)).1 (i * 5 + 4) v).1
end
/-- The calls of which the first k are ended by an event. -/
def finP (x : Ev) (v : Value) (p : Dg × Value) : Dg × Value := if p.1.is x then (⟨p.1.b, x.st, p.1.th, p.1.cl, x.to⟩, v) else p
def finK (x : Ev) (v : Value) (k : Nat) (L : List (Dg × Value)) : List (Dg × Value) := (L.take k).map (finP x v) ++ L.drop k
theorem finP_fst (x : Ev) (v : Value) (p : Dg × Value) : (finP x v p).1 = p.1.fin x := by unfold finP Dg.fin; split <;> rfl
theorem finK_zero (x : Ev) (v : Value) (L : List (Dg × Value)) : finK x v 0 L = L := by simp [finK]
theorem finK_len (x : Ev) (v : Value) (k : Nat) (L : List (Dg × Value)) : (finK x v k L).length = L.length := by simp [finK]; omega
theorem finK_all {x : Ev} {v : Value} {k : Nat} {L : List (Dg × Value)} (h : L.length ≤ k) : (finK x v k L).map Prod.fst = (L.map Prod.fst).map (fun d => d.fin x) := by
  unfold finK
  rw [List.take_of_length_le h, List.drop_eq_nil_of_le h, List.append_nil, List.map_map, List.map_map]
  exact List.map_congr_left fun p _ => finP_fst x v p
theorem finK_at {x : Ev} {v : Value} {k : Nat} {L : List (Dg × Value)} : (finK x v k L)[k]? = L[k]? := by
  unfold finK
  by_cases h : k ≤ L.length
  · rw [List.getElem?_append_right (by simp; omega)]
    simp
    rw [show k - min k L.length = 0 by omega, Nat.add_zero]
  · rw [List.getElem?_eq_none (by simp; omega), List.getElem?_eq_none (by omega)]
theorem finK_succ {x : Ev} {v : Value} {k : Nat} {L : List (Dg × Value)} {p : Dg × Value} (hp : L[k]? = some p) : finK x v (k + 1) L = (finK x v k L).set k (finP x v p) := by
  have hk := (List.getElem?_eq_some_iff.1 hp).1
  have he := (List.getElem?_eq_some_iff.1 hp).2
  unfold finK
  rw [List.take_add_one, hp, Option.toList_some, List.map_append, List.map_singleton, List.append_assoc, List.drop_eq_getElem_cons hk, List.set_append_right _ _ (by simp; omega), show k - ((L.take k).map (finP x v)).length = 0 by simp; omega]
  rfl
theorem finK_skip {x : Ev} {v : Value} {k : Nat} {L : List (Dg × Value)} {p : Dg × Value} (hp : L[k]? = some p) (h : ¬ p.1.is x) : finK x v (k + 1) L = finK x v k L := by
  rw [finK_succ hp]
  unfold finP
  rw [if_neg h]
  have hk := (List.getElem?_eq_some_iff.1 hp).1
  apply List.ext_getElem?
  intro j
  by_cases hj : k = j
  · subst hj
    rw [List.getElem?_set_self (by rw [finK_len]; exact hk), finK_at, hp]
  · rw [List.getElem?_set_ne hj]
theorem finK_mem {x : Ev} {v : Value} {k : Nat} {L : List (Dg × Value)} {q : Dg × Value} (h : q ∈ finK x v k L) : q ∈ L ∨ (q.2 = v ∧ q.1.to = x.to) := by
  unfold finK at h
  rcases List.mem_append.1 h with h | h
  · obtain ⟨p, hp, rfl⟩ := List.mem_map.1 h
    unfold finP
    split
    · exact .inr ⟨rfl, rfl⟩
    · exact .inl (List.mem_of_mem_take hp)
  · exact .inl (List.mem_of_mem_drop h)
end Go.Baro
