/- Of this claim's own texts these, one behind the other: RanPure, LibSp, CellPure, OpenM. No statement of the seat is proved here; no condition but those that stand at the theorems. -/
import Derived.Test.YtjihopbapnfppabDoorPartAA
import Derived.Test.YtjihopbapnfppabDoorPartAD
import Derived.Test.YtjihopbapnfppabDoorPartAG
import Derived.Test.YtjihopbapnfppabDoorPartAE
import Derived.Lib.SmallJoins
set_option linter.unusedSimpArgs false
set_option linter.unusedVariables false
namespace Go.Baro

/-- A call of a run. -/
structure Dg where
  b : Nat
  e : Int
  th : Nat
  cl : Nat
  to : List Int
/-- The call that an event ends. -/
def Dg.is (d : Dg) (x : Ev) : Prop := d.th = x.th ∧ d.cl = x.cl ∧ d.e = -1
instance (d : Dg) (x : Ev) : Decidable (d.is x) := by unfold Dg.is; infer_instance
def Dg.fin (d : Dg) (x : Ev) : Dg := if d.is x then ⟨d.b, x.st, d.th, d.cl, x.to⟩ else d
def dg1 (l : List Dg) (x : Ev) : List Dg := if x.en = true then l.map (fun d => d.fin x) else l ++ [⟨x.st, -1, x.th, x.cl, []⟩]
/-- The calls that the events tell of. -/
def dgs (es : List Ev) : List Dg := es.foldl dg1 []
theorem dgs_snoc (es : List Ev) (x : Ev) : dgs (es ++ [x]) = dg1 (dgs es) x := by simp [dgs]
theorem dg1_begin (l : List Dg) (x : Ev) (h : x.en = false) : dg1 l x = l ++ [⟨x.st, -1, x.th, x.cl, []⟩] := by simp [dg1, h]
theorem dg1_end (l : List Dg) (x : Ev) (h : x.en = true) : dg1 l x = l.map (fun d => d.fin x) := by simp [dg1, h]
theorem dg1_len (l : List Dg) (x : Ev) : (dg1 l x).length ≤ l.length + 1 := by
  unfold dg1; split <;> simp
theorem dgs_len : ∀ (es : List Ev), (dgs es).length ≤ es.length := by
  intro es
  suffices h : ∀ (es : List Ev) (l : List Dg), (es.foldl dg1 l).length ≤ l.length + es.length by simpa [dgs] using h es []
  intro es
  induction es with
  | nil => intro l; simp
  | cons x es ih =>
    intro l
    rw [List.foldl_cons, List.length_cons]
    have h1 := ih (dg1 l x)
    have h2 := dg1_len l x
    omega
/-- Every end has its beginning, and is without an error. -/
def endOk (l : List Dg) (x : Ev) : Prop := x.en = true → x.er = 0 ∧ ∃ d ∈ l, d.is x
def rnOk (es : List Ev) : Prop := ∀ (i : Nat) x, es[i]? = some x → endOk (dgs (es.take i)) x
theorem rnOk_snoc {es : List Ev} {x : Ev} : rnOk (es ++ [x]) ↔ rnOk es ∧ endOk (dgs es) x := by
  constructor
  · intro h
    refine ⟨fun i y hy => ?_, ?_⟩
    · have hi := (List.getElem?_eq_some_iff.1 hy).1
      have := h i y (by rw [List.getElem?_append_left hi]; exact hy)
      rwa [List.take_append_of_le_length (by omega)] at this
    · have := h es.length x (by simp)
      rwa [List.take_append_of_le_length (Nat.le_refl _), List.take_of_length_le (Nat.le_refl _)] at this
  · rintro ⟨h1, h2⟩ i y hy
    by_cases hi : i < es.length
    · rw [List.getElem?_append_left hi] at hy
      rw [List.take_append_of_le_length (by omega)]
      exact h1 i y hy
    · rw [List.getElem?_append_right (by omega)] at hy
      have h0 : i - es.length = 0 := by
        have := (List.getElem?_eq_some_iff.1 hy).1
        simp at this
        omega
      rw [h0] at hy
      simp at hy
      subst hy
      obtain rfl : i = es.length := by omega
      rwa [List.take_append_of_le_length (Nat.le_refl _), List.take_of_length_le (Nat.le_refl _)]

/-- The beginning of a step: the thread begins its next call, if it is within none. -/
def bgG (m : Mc) (g : Gs) (st n : Nat) : Gs :=
  match (g.th n).now with
  | some _ => g
  | none =>
    match (m.ts[n]?.getD [])[(g.th n).bg]? with
    | none => g
    | some c => ⟨g.w, putT g.th n ⟨some (live (m.cs[c.k.toNat]?.getD []) c.ar), (g.th n).bg + 1⟩, g.out ++ [⟨st, n, (g.th n).bg, false, 0, []⟩]⟩
/-- The rest of it: one instruction. -/
def exG (g : Gs) (st n : Nat) : Gs :=
  match (g.th n).now with
  | none => g
  | some l => actL g st n (g.th n).bg l g.out
theorem putT_twice (f : Nat → Td) (n : Nat) (x y : Td) : putT (putT f n x) n y = putT f n y := by
  funext i
  unfold putT
  split <;> rfl
theorem putT_same (f : Nat → Td) (n : Nat) (x : Td) : putT f n x n = x := by simp [putT]
theorem putT_other (f : Nat → Td) {n i : Nat} (x : Td) (h : i ≠ n) : putT f n x i = f i := by simp [putT, h]
theorem actG_eq (m : Mc) (g : Gs) (st n : Nat) : actG m g st n = exG (bgG m g st n) st n := by
  unfold actG bgG exG
  cases hn : (g.th n).now with
  | some l => simp only [hn]
  | none =>
    dsimp only
    cases hc : (m.ts[n]?.getD [])[(g.th n).bg]? with
    | none => simp only [hn]
    | some c =>
      simp only [putT_same]
      unfold actL
      simp only [putT_twice]
/-- Where a thread's instruction leads. -/
theorem exG_none {g : Gs} {st n : Nat} (h : (g.th n).now = none) : exG g st n = g := by unfold exG; rw [h]
theorem exG_go {g : Gs} {st n : Nat} {l : Lv} (h : (g.th n).now = some l) (he : (exc l g.w).2.2.2 = false) : exG g st n = ⟨(exc l g.w).2.1, putT g.th n ⟨some (exc l g.w).1, (g.th n).bg⟩, g.out⟩ := by
  unfold exG actL
  rw [h]
  simp [he]
theorem exG_end {g : Gs} {st n : Nat} {l : Lv} (h : (g.th n).now = some l) (he : (exc l g.w).2.2.2 = true) : exG g st n = ⟨(exc l g.w).2.1, putT g.th n ⟨none, (g.th n).bg⟩, g.out ++ [⟨st, n, (g.th n).bg - 1, true, (exc l g.w).2.2.1, (exc l g.w).1.t⟩]⟩ := by
  unfold exG actL
  rw [h]
  simp [he]

/-- What the calls of a run keep to: times of beginnings are below sb, those of ends below se. -/
structure Hs (sb se : Nat) (g : Gs) : Prop where
  bnd : ∀ d ∈ dgs g.out, d.b < sb ∧ (d.e ≠ -1 → (d.b : Int) ≤ d.e ∧ d.e < se)
  srt : (dgs g.out).Pairwise (fun a b => a.b < b.b)
  own : ∀ d ∈ dgs g.out, d.cl < (g.th d.th).bg
  all : ∀ t c, c < (g.th t).bg → ∃ d ∈ dgs g.out, d.th = t ∧ d.cl = c
  opn : ∀ d ∈ dgs g.out, d.e = -1 ↔ (g.th d.th).now ≠ none ∧ d.cl + 1 = (g.th d.th).bg
  tld : ∀ d ∈ dgs g.out, d.e = -1 → d.to = []
  seq : ∀ a ∈ dgs g.out, ∀ b ∈ dgs g.out, a.th = b.th → a.cl < b.cl → a.e ≠ -1 ∧ a.e < b.b
  one : ∀ a ∈ dgs g.out, ∀ b ∈ dgs g.out, a.th = b.th → a.cl = b.cl → a = b
  ends : ∀ a ∈ dgs g.out, ∀ b ∈ dgs g.out, a.e ≠ -1 → a.e = b.e → a = b
  ps : ∀ t, (g.th t).now ≠ none → 1 ≤ (g.th t).bg
theorem Hs.mono {sb se sb' se' : Nat} {g : Gs} (h : Hs sb se g) (hb : sb ≤ sb') (he : se ≤ se') : Hs sb' se' g :=
  ⟨fun d hd => by obtain ⟨h1, h2⟩ := h.bnd d hd; exact ⟨by omega, fun hne => by have := h2 hne; omega⟩, h.srt, h.own, h.all, h.opn, h.tld, h.seq, h.one, h.ends, h.ps⟩
theorem hs_zero (m : Mc) : Hs 0 0 (g0 m) := by
  refine ⟨?_, ?_, ?_, ?_, ?_, ?_, ?_, ?_, ?_, ?_⟩ <;> simp [g0, dgs]
theorem hs_begin {m : Mc} {st n : Nat} {g : Gs} (h : Hs st st g) : Hs (st + 1) st (bgG m g st n) := by
  unfold bgG
  cases hn : (g.th n).now with
  | some l => exact h.mono (Nat.le_succ _) (Nat.le_refl _)
  | none =>
    dsimp only
    cases hc : (m.ts[n]?.getD [])[(g.th n).bg]? with
    | none => exact h.mono (Nat.le_succ _) (Nat.le_refl _)
    | some c =>
      dsimp only
      have hD : dgs (g.out ++ [⟨st, n, (g.th n).bg, false, 0, []⟩]) = dgs g.out ++ [⟨st, -1, n, (g.th n).bg, []⟩] := by rw [dgs_snoc, dg1_begin _ _ rfl]
      have hcl : ∀ d ∈ dgs g.out, d.th = n → d.cl < (g.th n).bg ∧ d.e ≠ -1 := by
        intro d hd hdn
        have h1 := h.own d hd
        rw [hdn] at h1
        refine ⟨h1, fun he => ?_⟩
        have := (h.opn d hd).1 he
        rw [hdn] at this
        exact this.1 hn
      refine ⟨?_, ?_, ?_, ?_, ?_, ?_, ?_, ?_, ?_, ?_⟩ <;> dsimp only
      · rw [hD]
        intro d hd
        rcases List.mem_append.1 hd with hd | hd
        · obtain ⟨h1, h2⟩ := h.bnd d hd
          exact ⟨by omega, h2⟩
        · rw [List.mem_singleton.1 hd]; exact ⟨by dsimp only; omega, fun h => absurd rfl h⟩
      · rw [hD]
        refine List.pairwise_append.2 ⟨h.srt, by simp, fun a ha b hb => ?_⟩
        rw [List.mem_singleton.1 hb]
        exact (h.bnd a ha).1
      · rw [hD]
        intro d hd
        rcases List.mem_append.1 hd with hd | hd
        · have h1 := h.own d hd
          by_cases hdn : d.th = n
          · rw [hdn, putT_same]; rw [hdn] at h1; dsimp only; omega
          · rw [putT_other _ _ hdn]; exact h1
        · rw [List.mem_singleton.1 hd]; dsimp only; rw [putT_same]; dsimp only; omega
      · rw [hD]
        intro t c' hc'
        by_cases ht : t = n
        · subst ht
          rw [putT_same] at hc'
          dsimp only at hc'
          by_cases hlt : c' < (g.th t).bg
          · obtain ⟨d, hd, h1⟩ := h.all t c' hlt
            exact ⟨d, by simp [hd], h1⟩
          · exact ⟨⟨st, -1, t, (g.th t).bg, []⟩, by simp, rfl, by dsimp only; omega⟩
        · rw [putT_other _ _ ht] at hc'
          obtain ⟨d, hd, h1⟩ := h.all t c' hc'
          exact ⟨d, by simp [hd], h1⟩
      · rw [hD]
        intro d hd
        rcases List.mem_append.1 hd with hd | hd
        · by_cases hdn : d.th = n
          · obtain ⟨h1, h2⟩ := hcl d hd hdn
            rw [hdn, putT_same]
            exact ⟨fun h => absurd h h2, fun h => by have := h.2; dsimp only at this; omega⟩
          · rw [putT_other _ _ hdn]; exact h.opn d hd
        · rw [List.mem_singleton.1 hd]; dsimp only; rw [putT_same]; simp
      · rw [hD]
        intro d hd he
        rcases List.mem_append.1 hd with hd | hd
        · exact h.tld d hd he
        · rw [List.mem_singleton.1 hd]
      · rw [hD]
        intro a ha b hb hth hab
        rcases List.mem_append.1 ha with ha | ha
        · rcases List.mem_append.1 hb with hb | hb
          · exact h.seq a ha b hb hth hab
          · rw [List.mem_singleton.1 hb] at hth ⊢
            dsimp only at hth ⊢
            obtain ⟨h1, h2⟩ := hcl a ha hth
            exact ⟨h2, ((h.bnd a ha).2 h2).2⟩
        · rw [List.mem_singleton.1 ha] at hth hab
          dsimp only at hth hab
          rcases List.mem_append.1 hb with hb | hb
          · have := (hcl b hb hth.symm).1; omega
          · rw [List.mem_singleton.1 hb] at hab; dsimp only at hab; omega
      · rw [hD]
        intro a ha b hb hth hab
        rcases List.mem_append.1 ha with ha | ha
        · rcases List.mem_append.1 hb with hb | hb
          · exact h.one a ha b hb hth hab
          · rw [List.mem_singleton.1 hb] at hth hab
            dsimp only at hth hab
            have := (hcl a ha hth).1; omega
        · rw [List.mem_singleton.1 ha] at hth hab
          dsimp only at hth hab
          rcases List.mem_append.1 hb with hb | hb
          · have := (hcl b hb hth.symm).1; omega
          · rw [List.mem_singleton.1 ha, List.mem_singleton.1 hb]
      · rw [hD]
        intro a ha b hb hne hab
        rcases List.mem_append.1 ha with ha | ha
        · rcases List.mem_append.1 hb with hb | hb
          · exact h.ends a ha b hb hne hab
          · rw [List.mem_singleton.1 hb] at hab; exact absurd hab hne
        · rw [List.mem_singleton.1 ha] at hne; exact absurd rfl hne
      · intro t ht
        by_cases htn : t = n
        · rw [htn, putT_same]; dsimp only; omega
        · rw [putT_other _ _ htn] at ht ⊢; exact h.ps t ht
/-- What is known of a call behind an end. -/
theorem fin_mem {l : List Dg} {x : Ev} {d' : Dg} (h : d' ∈ l.map (fun d => d.fin x)) : ∃ d ∈ l, d'.b = d.b ∧ d'.th = d.th ∧ d'.cl = d.cl ∧ ((d.is x ∧ d'.e = x.st ∧ d'.to = x.to) ∨ (¬ d.is x ∧ d' = d)) := by
  obtain ⟨d, hd, rfl⟩ := List.mem_map.1 h
  refine ⟨d, hd, ?_⟩
  unfold Dg.fin
  by_cases hx : d.is x
  · rw [if_pos hx]; exact ⟨rfl, rfl, rfl, .inl ⟨hx, rfl, rfl⟩⟩
  · rw [if_neg hx]; exact ⟨rfl, rfl, rfl, .inr ⟨hx, rfl⟩⟩
theorem hs_exec {st n : Nat} {g : Gs} (h : Hs (st + 1) st g) : Hs (st + 1) (st + 1) (exG g st n) := by
  cases hn : (g.th n).now with
  | none => rw [exG_none hn]; exact h.mono (Nat.le_refl _) (Nat.le_succ _)
  | some l =>
    have hp := h.ps n (by rw [hn]; simp)
    by_cases he : (exc l g.w).2.2.2 = true
    · rw [exG_end hn he]
      generalize hx : (⟨st, n, (g.th n).bg - 1, true, (exc l g.w).2.2.1, (exc l g.w).1.t⟩ : Ev) = x
      have x1 : x.st = st := by rw [← hx]
      have x2 : x.th = n := by rw [← hx]
      have x3 : x.cl = (g.th n).bg - 1 := by rw [← hx]
      have x4 : x.en = true := by rw [← hx]
      have hD : dgs (g.out ++ [x]) = (dgs g.out).map (fun d => d.fin x) := by rw [dgs_snoc, dg1_end _ _ x4]
      have his : ∀ d ∈ dgs g.out, d.is x ↔ d.e = -1 ∧ d.th = n := by
        intro d hd
        unfold Dg.is
        rw [x2, x3]
        refine ⟨fun h => ⟨h.2.2, h.1⟩, fun h1 => ⟨h1.2, ?_, h1.1⟩⟩
        have := ((h.opn d hd).1 h1.1).2
        rw [h1.2] at this
        omega
      refine ⟨?_, ?_, ?_, ?_, ?_, ?_, ?_, ?_, ?_, ?_⟩ <;> dsimp only
      · rw [hD]
        intro d' hd'
        obtain ⟨d, hd, q1, q2, q3, ⟨q4, q5, q6⟩ | ⟨q4, rfl⟩⟩ := fin_mem hd'
        · have := (h.bnd d hd).1
          rw [q1, q5, x1]
          exact ⟨this, fun _ => by omega⟩
        · obtain ⟨h1, h2⟩ := h.bnd d' hd
          exact ⟨h1, fun hne => by have := h2 hne; omega⟩
      · rw [hD, List.pairwise_map]
        refine h.srt.imp fun {a b} hab => ?_
        unfold Dg.fin
        split <;> split <;> exact hab
      · rw [hD]
        intro d' hd'
        obtain ⟨d, hd, q1, q2, q3, _⟩ := fin_mem hd'
        rw [q2, q3]
        have := h.own d hd
        by_cases hdn : d.th = n
        · rw [hdn, putT_same]; rw [hdn] at this; exact this
        · rw [putT_other _ _ hdn]; exact this
      · rw [hD]
        intro t c hc
        have hc' : c < (g.th t).bg := by
          by_cases ht : t = n
          · rw [ht, putT_same] at hc; rw [ht]; exact hc
          · rw [putT_other _ _ ht] at hc; exact hc
        obtain ⟨d, hd, h1, h2⟩ := h.all t c hc'
        refine ⟨d.fin x, List.mem_map.2 ⟨d, hd, rfl⟩, ?_⟩
        unfold Dg.fin
        split <;> exact ⟨h1, h2⟩
      · rw [hD]
        intro d' hd'
        obtain ⟨d, hd, q1, q2, q3, ⟨q4, q5, q6⟩ | ⟨q4, rfl⟩⟩ := fin_mem hd'
        · have h1 := ((his d hd).1 q4).2
          rw [q2, h1, putT_same, q5]
          exact ⟨fun h => by omega, fun h => absurd rfl h.1⟩
        · by_cases hdn : d'.th = n
          · have h1 : d'.e ≠ -1 := fun h2 => q4 ((his d' hd).2 ⟨h2, hdn⟩)
            rw [hdn, putT_same]
            exact ⟨fun h => absurd h h1, fun h => absurd rfl h.1⟩
          · rw [putT_other _ _ hdn]; exact h.opn d' hd
      · rw [hD]
        intro d' hd' he'
        obtain ⟨d, hd, q1, q2, q3, ⟨q4, q5, q6⟩ | ⟨q4, rfl⟩⟩ := fin_mem hd'
        · rw [q5] at he'; omega
        · exact h.tld d' hd he'
      · rw [hD]
        intro a' ha' b' hb' hth hab
        obtain ⟨a, ha, a1, a2, a3, a4⟩ := fin_mem ha'
        obtain ⟨b, hb, b1, b2, b3, b4⟩ := fin_mem hb'
        obtain ⟨h1, h2⟩ := h.seq a ha b hb (by rw [← a2, ← b2]; exact hth) (by rw [← a3, ← b3]; exact hab)
        rcases a4 with ⟨q4, _⟩ | ⟨q4, rfl⟩
        · exact absurd ((his a ha).1 q4).1 h1
        · rw [b1]; exact ⟨h1, h2⟩
      · rw [hD]
        intro a' ha' b' hb' hth hab
        obtain ⟨a, ha, rfl⟩ := List.mem_map.1 ha'
        obtain ⟨b, hb, rfl⟩ := List.mem_map.1 hb'
        have e1 : ∀ d : Dg, (d.fin x).th = d.th ∧ (d.fin x).cl = d.cl := fun d => by unfold Dg.fin; split <;> exact ⟨rfl, rfl⟩
        have := h.one a ha b hb (by rw [← (e1 a).1, ← (e1 b).1]; exact hth) (by rw [← (e1 a).2, ← (e1 b).2]; exact hab)
        rw [this]
      · rw [hD]
        intro a' ha' b' hb' hne hab
        obtain ⟨a, ha, rfl⟩ := List.mem_map.1 ha'
        obtain ⟨b, hb, rfl⟩ := List.mem_map.1 hb'
        have e1 : ∀ d ∈ dgs g.out, (d.e = -1 ∧ d.th = n ∧ (d.fin x).e = st) ∨ ((d.fin x) = d) := fun d hd => by
          unfold Dg.fin
          by_cases hx' : d.is x
          · rw [if_pos hx']
            have := (his d hd).1 hx'
            exact .inl ⟨this.1, this.2, by dsimp only; rw [x1]⟩
          · rw [if_neg hx']; exact .inr rfl
        have key : ∀ a ∈ dgs g.out, ∀ b ∈ dgs g.out, a.e = -1 → a.th = n → b.e = -1 → b.th = n → a = b := by
          intro a ha b hb h1 h2 h3 h4
          have g1 := ((h.opn a ha).1 h1).2
          have g2 := ((h.opn b hb).1 h3).2
          rw [h2] at g1
          rw [h4] at g2
          exact h.one a ha b hb (by rw [h2, h4]) (by omega)
        rcases e1 a ha with ⟨g1, g2, g3⟩ | g1
        · rcases e1 b hb with ⟨k1, k2, k3⟩ | k1
          · rw [key a ha b hb g1 g2 k1 k2]
          · rw [g3, k1] at hab
            have := (h.bnd b hb).2 (by omega)
            omega
        · rcases e1 b hb with ⟨k1, k2, k3⟩ | k1
          · rw [k3, g1] at hab
            have := (h.bnd a ha).2 (by omega)
            omega
          · rw [g1, k1] at hab ⊢
            rw [g1] at hne
            exact h.ends a ha b hb hne hab
      · intro t ht
        by_cases htn : t = n
        · rw [htn, putT_same] at ht; exact absurd rfl ht
        · rw [putT_other _ _ htn] at ht ⊢; exact h.ps t ht
    · have he' : (exc l g.w).2.2.2 = false := by simpa using he
      rw [exG_go hn he']
      have hth : ∀ t, (putT g.th n ⟨some (exc l g.w).1, (g.th n).bg⟩ t).bg = (g.th t).bg ∧ ((putT g.th n ⟨some (exc l g.w).1, (g.th n).bg⟩ t).now ≠ none ↔ (g.th t).now ≠ none) := by
        intro t
        by_cases ht : t = n
        · rw [ht, putT_same]; exact ⟨rfl, by rw [hn]; simp⟩
        · rw [putT_other _ _ ht]; exact ⟨rfl, Iff.rfl⟩
      refine ⟨?_, h.srt, ?_, ?_, ?_, h.tld, h.seq, h.one, h.ends, ?_⟩ <;> dsimp only
      · intro d hd
        obtain ⟨h1, h2⟩ := h.bnd d hd
        exact ⟨h1, fun hne => by have := h2 hne; omega⟩
      · intro d hd; rw [(hth _).1]; exact h.own d hd
      · intro t c hc; rw [(hth _).1] at hc; exact h.all t c hc
      · intro d hd; rw [(hth _).1, (hth _).2]; exact h.opn d hd
      · intro t ht; rw [(hth _).1]; exact h.ps t ((hth t).2.1 ht)
theorem hs_act {m : Mc} {st n : Nat} {g : Gs} (h : Hs st st g) : Hs (st + 1) (st + 1) (actG m g st n) := by
  rw [actG_eq]; exact hs_exec (hs_begin h)
/-- What holds of a run at each step. -/
theorem plyG_ind {m : Mc} {I : Nat → Gs → Prop} {A : Nat → Prop} (h0 : I 0 (g0 m)) (hs : ∀ st g n, A n → I st g → I (st + 1) (actG m g st n)) : ∀ (l : List Nat), (∀ n ∈ l, A n) → I l.length (plyG m 0 l (g0 m)) := by
  suffices h : ∀ (l : List Nat) (st : Nat) (g : Gs), I st g → (∀ n ∈ l, A n) → I (st + l.length) (plyG m st l g) from fun l hl => by have := h l 0 (g0 m) h0 hl; rwa [Nat.zero_add] at this
  intro l
  induction l with
  | nil => intro st g h _; exact h
  | cons n l ih =>
    intro st g h hl
    have := ih (st + 1) (actG m g st n) (hs st g n (hl n (by simp)) h) (fun k hk => hl k (by simp [hk]))
    rw [List.length_cons, show st + (l.length + 1) = st + 1 + l.length by omega]
    exact this
theorem hs_ply (m : Mc) (l : List Nat) : Hs l.length l.length (plyG m 0 l (g0 m)) := plyG_ind (I := fun st g => Hs st st g) (A := fun _ => True) (hs_zero m) (fun _ _ _ _ h => hs_act h) l (fun _ _ => trivial)
/-- Who is within a call has one that is open. -/
theorem Hs.live {sb se n : Nat} {g : Gs} (h : Hs sb se g) (hn : (g.th n).now ≠ none) : ∃ d ∈ dgs g.out, d.th = n ∧ d.cl = (g.th n).bg - 1 ∧ d.e = -1 ∧ d.cl + 1 = (g.th n).bg := by
  have h1 := h.ps n hn
  obtain ⟨d, hd, h2, h3⟩ := h.all n ((g.th n).bg - 1) (by omega)
  exact ⟨d, hd, h2, h3, (h.opn d hd).2 ⟨by rw [h2]; exact hn, by rw [h2]; omega⟩, by omega⟩
/-- No call ends with an error. -/
def noErr (g : Gs) : Prop := ∀ x ∈ g.out, x.en = true → x.er = 0
theorem rn_begin {m : Mc} {st n : Nat} {g : Gs} (h : rnOk g.out) : rnOk (bgG m g st n).out := by
  unfold bgG
  cases hn : (g.th n).now with
  | some l => exact h
  | none =>
    dsimp only
    cases hc : (m.ts[n]?.getD [])[(g.th n).bg]? with
    | none => exact h
    | some c => exact rnOk_snoc.2 ⟨h, fun h => by simp at h⟩
theorem rn_exec {st n : Nat} {g : Gs} {sb se : Nat} (hs : Hs sb se g) (h : rnOk g.out) (he : noErr (exG g st n)) : rnOk (exG g st n).out := by
  cases hn : (g.th n).now with
  | none => rw [exG_none hn]; exact h
  | some l =>
    by_cases hq : (exc l g.w).2.2.2 = true
    · rw [exG_end hn hq] at he ⊢
      refine rnOk_snoc.2 ⟨h, fun _ => ⟨he _ (by simp) rfl, ?_⟩⟩
      obtain ⟨d, hd, h1, h2, h3, _⟩ := hs.live (n := n) (by rw [hn]; simp)
      exact ⟨d, hd, h1, h2, h3⟩
    · rw [exG_go hn (by simpa using hq)]; exact h
theorem noErr_of_exec {st n : Nat} {g : Gs} (h : noErr (exG g st n)) : noErr g := by
  cases hn : (g.th n).now with
  | none => rwa [exG_none hn] at h
  | some l =>
    by_cases hq : (exc l g.w).2.2.2 = true
    · rw [exG_end hn hq] at h
      exact fun x hx => h x (by simp [hx])
    · rw [exG_go hn (by simpa using hq)] at h; exact h
theorem noErr_of_begin {m : Mc} {st n : Nat} {g : Gs} (h : noErr (bgG m g st n)) : noErr g := by
  unfold bgG at h
  cases hn : (g.th n).now with
  | some l => simp only [hn] at h; exact h
  | none =>
    simp only [hn] at h
    cases hc : (m.ts[n]?.getD [])[(g.th n).bg]? with
    | none => simp only [hc] at h; exact h
    | some c => simp only [hc] at h; exact fun x hx => h x (by simp [hx])
theorem rn_ply {m : Mc} (l : List Nat) (h : noErr (plyG m 0 l (g0 m))) : rnOk (plyG m 0 l (g0 m)).out := by
  refine plyG_ind (I := fun st g => Hs st st g ∧ (noErr g → rnOk g.out)) (A := fun _ => True) ⟨hs_zero m, fun _ i x hx => by simp [g0] at hx⟩ (fun st g n _ hI => ⟨hs_act hI.1, fun he => ?_⟩) l (fun _ _ => trivial) |>.2 h
  rw [actG_eq] at he ⊢
  exact rn_exec (hs_begin hI.1) (rn_begin (hI.2 (noErr_of_begin (noErr_of_exec he)))) he
end Go.Baro

set_option linter.unusedSimpArgs false
set_option linter.unusedVariables false
namespace Go.Baro
/-- Where the steps of a call end, in a schedule. -/
def spHi (s : List Int) (d : Dg) : Nat := if d.e = -1 then s.length else min s.length (d.e + 1).toNat
/-- How many steps a thread does in a call. -/
def spn (s : List Int) (d : Dg) : Nat := ((s.take (spHi s d)).drop d.b).count (d.th : Int)
theorem spn_step {s : List Int} {b j : Nat} {x : Int} (h : s[j]? = some x) (hb : b ≤ j) (t : Int) : ((s.take (j + 1)).drop b).count t = ((s.take j).drop b).count t + if x = t then 1 else 0 := by
  have hj := (List.getElem?_eq_some_iff.1 h).1
  rw [at_take h, List.drop_append_of_le_length (by simp; omega), List.count_append]
  simp [List.count_cons]

theorem sp_exit {s : List Int} {b j hi : Nat} {t : Int} {m : Nat} (hj : j ≤ hi ∨ j = b) (h : hi ≤ j) (hm : m = ((s.take j).drop b).count t) : m = ((s.take hi).drop b).count t := by
  rcases hj with hj | hj
  · obtain rfl : j = hi := by omega
    exact hm
  · subst hj
    rw [hm, List.drop_eq_nil_of_le (by simp; omega), List.drop_eq_nil_of_le (by simp; omega)]
end Go.Baro

set_option linter.unusedSimpArgs false
set_option linter.unusedVariables false
namespace Go.Baro
/-- The record of the p-th Put; 0: the initial one. -/
def recd (d p : Nat) : List Int := (List.range d).map fun k => if p = 0 then 0 else ((10 * p + k : Nat) : Int)
theorem recd_len (d p : Nat) : (recd d p).length = d := by simp [recd]
theorem recd_at {d p k : Nat} (h : k < d) : (recd d p)[k]? = some (if p = 0 then 0 else ((10 * p + k : Nat) : Int)) := by simp [recd, h]
/-- Every Get tells of the tl-th Put, and all could be one behind the other. -/
structure CellW (d : Nat) (D : List Dg) (tl : Nat → Nat) : Prop where
  zero : ∀ (i : Nat) (x : Dg), D[i]? = some x → (x.th = 0 ∨ x.e = -1) → tl i = 0
  le : ∀ (i : Nat) (x : Dg), D[i]? = some x → tl i ≤ 12
  told : ∀ (i : Nat) (x : Dg), D[i]? = some x → x.th ≠ 0 → x.e ≠ -1 → x.to = recd d (tl i)
  has : ∀ (i : Nat) (x : Dg), D[i]? = some x → x.th ≠ 0 → x.e ≠ -1 → tl i ≠ 0 → ∃ (k : Nat) (y : Dg), D[k]? = some y ∧ y.th = 0 ∧ y.cl + 1 = tl i
  early : ∀ (i : Nat) (x : Dg), D[i]? = some x → x.th ≠ 0 → x.e ≠ -1 → ∀ (k : Nat) (y : Dg), D[k]? = some y → y.th = 0 → y.cl + 1 = tl i → (y.b : Int) ≤ x.e
  puts : ∀ (i : Nat) (x : Dg), D[i]? = some x → x.th ≠ 0 → x.e ≠ -1 → ∀ (k : Nat) (y : Dg), D[k]? = some y → y.th = 0 → y.e ≠ -1 → y.e < x.b → y.cl + 1 ≤ tl i
  gets : ∀ (i : Nat) (x : Dg), D[i]? = some x → x.th ≠ 0 → x.e ≠ -1 → ∀ (k : Nat) (y : Dg), D[k]? = some y → y.th ≠ 0 → y.e ≠ -1 → y.e < x.b → tl k ≤ tl i
/-- Under every schedule. -/
def CellWhole (c : Cc) : Prop := ∀ (d : Nat) (S : List Nat), 1 ≤ d → d ≤ 6 → S.length ≤ 1200 → (∀ x ∈ S, x < 4) → noErr (plyG (mCell c d 12 8) 0 S (g0 (mCell c d 12 8))) ∧ ∃ tl, CellW d (dgs (plyG (mCell c d 12 8) 0 S (g0 (mCell c d 12 8))).out) tl
/-- The schedule of CellEnds. -/
def endS (S : List Int) : List Int := S ++ List.replicate 80 0 ++ List.replicate 80 1
/-- A Put ends within its steps, and a Get that no Put is beside. -/
structure CellE (S : List Int) (D : List Dg) : Prop where
  put : ∀ x ∈ D, x.th = 0 → spn (endS S) x ≤ 80
  get : (∀ x ∈ D, x.th = 0 → x.e ≠ -1) → (∀ x ∈ D, x.th = 1 → x.e = -1 → S.length + 80 < x.b) ∧ ((∃ x ∈ D, x.th = 1 ∧ ((S.length + 80 : Nat) : Int) ≤ x.e) ∨ ∃ x ∈ D, x.th = 1 ∧ x.cl = 7 ∧ x.e ≠ -1 ∧ x.e < ((S.length + 80 : Nat) : Int))
/-- Under every schedule. -/
def CellEnds (c : Cc) : Prop := ∀ (d : Nat) (S : List Int), 1 ≤ d → d ≤ 6 → S.length ≤ 1000 → (∀ x ∈ S, 0 ≤ x ∧ x < 4) → noErr (plyG (mCell c d 12 8) 0 ((endS S).map Int.toNat) (g0 (mCell c d 12 8))) ∧ CellE S (dgs (plyG (mCell c d 12 8) 0 ((endS S).map Int.toNat) (g0 (mCell c d 12 8))).out)
/-- The arguments of CellTells, its machine, its schedule. -/
def tellA (d : Nat) (l : List Int) : List Int := (List.range d).map fun k => l[k]?.getD 7
def mTell (c : Cc) (d : Nat) (ar : List Int) : Mc := ⟨c.ws d, [c.cp d, c.cg d], (List.range 4).map fun t => if t = 0 then [⟨0, putA d 0⟩, ⟨0, ar⟩] else getJ 1⟩
def tV (q : Nat) : Int := if q = 0 then 1 else if q = 1 then 0 else 2
def tQ : Nat → List Int
  | 0 => []
  | q + 1 => tQ q ++ List.replicate 160 (tV q)
theorem tQ_len : ∀ q, (tQ q).length = 160 * q
  | 0 => rfl
  | q + 1 => by simp [tQ, tQ_len q]; omega
theorem tQ_in : ∀ q, ∀ x ∈ tQ q, 0 ≤ x ∧ x < 4
  | 0, x, h => by cases h
  | q + 1, x, h => by
    rcases List.mem_append.1 h with h | h
    · exact tQ_in q x h
    · rw [List.eq_of_mem_replicate h]; unfold tV; split <;> (try split) <;> omega
/-- One behind the other. -/
def CellTells (c : Cc) : Prop := ∀ (d : Nat) (ar : List Int), 1 ≤ d → d ≤ 6 → ar.length = d → (∀ x ∈ ar, inW x) → noErr (plyG (mTell c d ar) 0 ((tQ 3).map Int.toNat) (g0 (mTell c d ar))) ∧
  ∃ d0 d1 d2 d3, dgs (plyG (mTell c d ar) 0 ((tQ 3).map Int.toNat) (g0 (mTell c d ar))).out = [d0, d1, d2, d3] ∧ d0.e ≠ -1 ∧ d2.e ≠ -1 ∧ d3.e ≠ -1 ∧ d0.to = List.replicate d 0 ∧ d3.to = ar
theorem mTell_ok {c : Cc} (hc : c.Ok) {d : Nat} {ar : List Int} (h1 : 1 ≤ d) (h6 : d ≤ 6) (ha : ar.length = d) : okMc (mTell c d ar) := by
  refine ⟨?_, by simp [mTell], by simp [mTell], fun x hx => ?_, fun t ht => ?_⟩
  · have := (hc.ws d h1 h6).2.1
    show (c.ws d).length ≤ 200
    omega
  · simp only [mTell, List.mem_cons, List.not_mem_nil, or_false] at hx
    rcases hx with rfl | rfl
    · exact (hc.cp d h1 h6).2.1
    · exact (hc.cg d h1 h6).2.1
  · simp only [mTell, List.mem_map, List.mem_range] at ht
    obtain ⟨i, hi, rfl⟩ := ht
    have key : ∀ x : Cl, (x.k = 0 ∨ x.k = 1) → x.ar.length ≤ 8 → okCl (mTell c d ar) x := fun x h h' => ⟨by show 0 ≤ x.k ∧ x.k < ((2 : Nat) : Int); omega, h'⟩
    split
    · refine ⟨by simp, fun x hx => ?_⟩
      simp only [List.mem_cons, List.not_mem_nil, or_false] at hx
      rcases hx with rfl | rfl
      · exact key _ (.inl rfl) (by simp [putA]; omega)
      · exact key _ (.inl rfl) (by show ar.length ≤ 8; omega)
    · refine ⟨by rw [getJ_len]; omega, fun x hx => ?_⟩
      rw [List.eq_of_mem_replicate hx]
      exact key _ (.inr rfl) (by simp)
end Go.Baro

set_option linter.unusedSimpArgs false
set_option linter.unusedVariables false
namespace Go.Baro
open Go.ChangeShapes Go.WideShapes Go.ChangeAt Go.RowKit
section
variable {H : Type} {enc : TypeId × Value → H} {P : Program} {W : World}
/-- A slice whose elements open. -/
theorem open_RG {α : Type} {s : Nat} {R : World → Nat → List Value → α → Prop} {ok : α → Prop} {t e : TypeId} {a : Option Addr} {len cap : Nat} {d : DataW H} {p : List MemPlace} (ht : P.underlying t = some (.slice e)) (hc : P.cellsOf e = s) (hs : 0 < s)
    (hrow : ∀ n r y, r.length = s → DataW.trod enc P W 0 (fun _ => true) true n e r = some y → ∃ x, R W W.heap.size r x ∧ ok x)
    (h : DataW.Trod enc P W 0 (fun _ => true) true t (.slice a len cap) d p) : ∃ ls : List α, RG s R W W.heap.size a len ls ∧ (∀ x ∈ ls, ok x) ∧ len ≤ cap := by
  obtain ⟨rows, hr, hl, hrw, hlc, _⟩ := open_rows ht hc hs h
  obtain ⟨us, ls, he, hul, hp, hq⟩ := zip_of (f := fun r : List Value => r) (R := fun r x => R W W.heap.size r x ∧ ok x) rows (by
    intro r hr
    obtain ⟨h1, y, n, hy⟩ := hrw r hr
    obtain ⟨x, hx⟩ := hrow n r y h1 hy
    exact ⟨r, x, rfl, hx⟩)
  rw [show us.map (fun r : List Value => r) = us from List.map_id us] at he
  subst he
  refine ⟨ls, ⟨rows, hul, fun r hr => (hrw r hr).1, hr, fun i r x h1 h2 => (hp i r x h1 h2).1⟩, fun x hx => ?_, hlc⟩
  obtain ⟨r, hr⟩ := hq x hx
  exact hr.2
/-- A cell that is a slice. -/
theorem open_cell {e b : TypeId} {n : Nat} {r : List Value} {y : DataW H × List MemPlace} (he : P.underlying e = some (.slice b)) (h : DataW.trod enc P W 0 (fun _ => true) true n e r = some y) :
    ∃ A len cap, r = [.slice A len cap] ∧ cap ≤ 9223372036854775807 ∧ DataW.Trod enc P W 0 (fun _ => true) true e (.slice A len cap) y.1 y.2 := by
  have hm : ∃ A len cap, r = [.slice A len cap] ∧ cap ≤ maxLen := by
    rcases DataW.trod_slice he h with ⟨hcs, _⟩ | ⟨x, l, c, _, _, _, _, hcs, _, _, _, hm, _⟩
    · exact ⟨none, 0, 0, hcs, by unfold maxLen; omega⟩
    · exact ⟨some x, l, c, hcs, hm⟩
  obtain ⟨A, len, cap, rfl, hm⟩ := hm
  exact ⟨A, len, cap, rfl, by unfold maxLen at hm; omega, n, by simpa [Value.cells] using h⟩
def okCo (c : List Ins) : Prop := c.length ≤ 9223372036854775807 ∧ ∀ o ∈ c, inI o
def okCa (c : Cl) : Prop := inW c.k ∧ c.ar.length ≤ 9223372036854775807 ∧ ∀ x ∈ c.ar, inW x
def okTh (t : List Cl) : Prop := t.length ≤ 9223372036854775807 ∧ ∀ c ∈ t, okCa c
/-- The codes. -/
theorem open_RCs {t e o i : TypeId} {f0 f1 f2 f3 f4 : Field} {a : Option Addr} {len cap : Nat} {d : DataW H} {p : List MemPlace} (ht : P.underlying t = some (.slice e)) (hce : P.cellsOf e = 1) (he : P.underlying e = some (.slice o)) (ho : P.underlying o = some (.struct #[f0, f1, f2, f3, f4])) (hco : P.cellsOf o = 5)
    (hi : P.underlying i = some (.int .i64)) (hci : P.cellsOf i = 1) (hf : [f0, f1, f2, f3, f4].map (fun f => (f.type, f.offset)) = [(i, 0), (i, 1), (i, 2), (i, 3), (i, 4)])
    (h : DataW.Trod enc P W 0 (fun _ => true) true t (.slice a len cap) d p) : ∃ ls, RCs W W.heap.size a len ls ∧ (∀ c ∈ ls, okCo c) ∧ len ≤ cap := by
  refine open_RG ht hce (by decide) (fun n r y hr hy => ?_) h
  obtain ⟨A, l, c, rfl, hm, hT⟩ := open_cell he hy
  obtain ⟨fs, h1, h2, h3, _⟩ := open_RO he ho hco hi hci hf hT
  exact ⟨fs, ⟨A, l, c, rfl, h3, h1⟩, by rw [h1.len]; omega, h2⟩
/-- The calls of a thread. -/
theorem open_RLs {t e v i : TypeId} {f0 f1 : Field} {a : Option Addr} {len cap : Nat} {d : DataW H} {p : List MemPlace} (ht : P.underlying t = some (.slice e)) (hce : P.cellsOf e = 2) (he : P.underlying e = some (.struct #[f0, f1]))
    (hi : P.underlying i = some (.int .i64)) (hci : P.cellsOf i = 1) (hv : P.underlying v = some (.slice i)) (hcv : P.cellsOf v = 1) (hf : (f0.type, f0.offset, f1.type, f1.offset) = (i, 0, v, 1))
    (h : DataW.Trod enc P W 0 (fun _ => true) true t (.slice a len cap) d p) : ∃ ls, RLs W W.heap.size a len ls ∧ (∀ c ∈ ls, okCa c) ∧ len ≤ cap := by
  simp only [Prod.mk.injEq] at hf
  obtain ⟨e0, o0, e1, o1⟩ := hf
  refine open_RG ht hce (by decide) (fun n r y hr hy => ?_) h
  obtain ⟨y0, y1, m, _, _, h0, h1⟩ := trod_struct2 he hy
  rw [e0, o0, hci] at h0
  rw [e1, o1, hcv] at h1
  obtain ⟨k, hk, _, wk⟩ := DataW.trod_int hi h0
  obtain ⟨A, l, c, hr1, hm, hT⟩ := open_cell hv h1
  obtain ⟨xs, h3, h4, h5, _⟩ := open_RI hv hi hci hT
  match r, hr with
  | [u0, u1], _ =>
    simp at hk hr1
    subst hk hr1
    exact ⟨⟨k, xs⟩, ⟨A, l, c, rfl, h5, h3⟩, bounds_i64 wk, by rw [h3.len]; omega, fun x hx => bounds_i64 (h4 x hx)⟩
/-- The threads. -/
theorem open_RTs {t u e v i : TypeId} {f0 f1 : Field} {a : Option Addr} {len cap : Nat} {d : DataW H} {p : List MemPlace} (ht : P.underlying t = some (.slice u)) (hcu : P.cellsOf u = 1) (hu : P.underlying u = some (.slice e)) (hce : P.cellsOf e = 2) (he : P.underlying e = some (.struct #[f0, f1]))
    (hi : P.underlying i = some (.int .i64)) (hci : P.cellsOf i = 1) (hv : P.underlying v = some (.slice i)) (hcv : P.cellsOf v = 1) (hf : (f0.type, f0.offset, f1.type, f1.offset) = (i, 0, v, 1))
    (h : DataW.Trod enc P W 0 (fun _ => true) true t (.slice a len cap) d p) : ∃ ls, RTs W W.heap.size a len ls ∧ (∀ c ∈ ls, okTh c) ∧ len ≤ cap := by
  refine open_RG ht hcu (by decide) (fun n r y hr hy => ?_) h
  obtain ⟨A, l, c, rfl, hm, hT⟩ := open_cell hu hy
  obtain ⟨ls, h1, h2, h3⟩ := open_RLs hu hce he hi hci hv hcv hf hT
  exact ⟨ls, ⟨A, l, c, rfl, h3, h1⟩, by rw [h1.len]; omega, h2⟩
/-- What is known of a machine that came in. -/
structure InM (W : World) (Aw : Option Addr) (nw cw : Nat) (Ac : Option Addr) (nc cc : Nat) (At : Option Addr) (nt ct : Nat) (m : Mc) : Prop where
  ws : RI W W.heap.size .i64 Aw nw m.ws
  cs : RCs W W.heap.size Ac nc m.cs
  ts : RTs W W.heap.size At nt m.ts
  wok : ∀ x ∈ m.ws, inW x
  cok : ∀ c ∈ m.cs, okCo c
  tok : ∀ t ∈ m.ts, okTh t
  lw : nw ≤ cw ∧ cw ≤ 9223372036854775807
  lc : nc ≤ cc ∧ cc ≤ 9223372036854775807
  lt : nt ≤ ct ∧ ct ≤ 9223372036854775807
theorem InM.below {W W' : World} {Aw : Option Addr} {nw cw : Nat} {Ac : Option Addr} {nc cc : Nat} {At : Option Addr} {nt ct : Nat} {m : Mc} (h : InM W Aw nw cw Ac nc cc At nt ct m) (hb : Below W.heap.size W W') : InM W' Aw nw cw Ac nc cc At nt ct m :=
  ⟨(h.ws.below hb).more hb.size, (h.cs.below hb).more hb.size, (h.ts.below hb).more hb.size, h.wok, h.cok, h.tok, h.lw, h.lc, h.lt⟩
theorem open_Mc {r : Reach} {b0 : Nat} {t tw tc te to tt tu tl i : TypeId} {f0 f1 f2 g0 g1 g2 g3 g4 k0 k1 : Field} {v : Value} {d : DataW H} {p : List MemPlace} (hs : P.underlying t = some (.struct #[f0, f1, f2])) (hone : Go.Deep.oneCellFields P #[f0, f1, f2] = true) (hC : P.cellsOf t = 3)
    (hf : (f0.type, f1.type, f2.type) = (tw, tc, tt)) (hi : P.underlying i = some (.int .i64)) (hci : P.cellsOf i = 1) (hw : P.underlying tw = some (.slice i)) (hcw : P.cellsOf tw = 1)
    (hc : P.underlying tc = some (.slice te)) (hce : P.cellsOf te = 1) (he : P.underlying te = some (.slice to)) (ho : P.underlying to = some (.struct #[g0, g1, g2, g3, g4])) (hco : P.cellsOf to = 5) (hg : [g0, g1, g2, g3, g4].map (fun f => (f.type, f.offset)) = [(i, 0), (i, 1), (i, 2), (i, 3), (i, 4)])
    (ht : P.underlying tt = some (.slice tu)) (hcu : P.cellsOf tu = 1) (hu : P.underlying tu = some (.slice tl)) (hcl : P.cellsOf tl = 2) (hl : P.underlying tl = some (.struct #[k0, k1])) (hk : (k0.type, k0.offset, k1.type, k1.offset) = (i, 0, tw, 1))
    (hv : Value.okWide P W r b0 t v) (h : DataW.Trod enc P W 0 (fun _ => true) true t v d p) :
    ∃ Aw nw cw Ac nc cc At nt ct m, v = .agg #[.slice Aw nw cw, .slice Ac nc cc, .slice At nt ct] ∧ InM W Aw nw cw Ac nc cc At nt ct m := by
  obtain ⟨v0, v1, v2, y0, y1, y2, n, rfl, _, _, h0, h1, h2⟩ := Go.Joins.open_agg3 hs hone hC hv h
  simp only [Prod.mk.injEq] at hf
  obtain ⟨e0, e1, e2⟩ := hf
  rw [e0] at h0
  rw [e1] at h1
  rw [e2] at h2
  obtain ⟨Aw, nw, cw, q0, m0, T0⟩ := open_cell hw h0
  obtain ⟨Ac, nc, cc, q1, m1, T1⟩ := open_cell hc h1
  obtain ⟨At, nt, ct, q2, m2, T2⟩ := open_cell ht h2
  simp only [List.cons.injEq, and_true] at q0 q1 q2
  subst q0 q1 q2
  obtain ⟨ws, a1, a2, a3, _⟩ := open_RI hw hi hci T0
  obtain ⟨cs, b1, b2, b3⟩ := open_RCs hc hce he ho hco hi hci hg T1
  obtain ⟨ts, c1, c2, c3⟩ := open_RTs ht hcu hu hcl hl hi hci hw hcw hk T2
  exact ⟨Aw, nw, cw, Ac, nc, cc, At, nt, ct, ⟨ws, cs, ts⟩, rfl, a1, b1, c1, fun x hx => bounds_i64 (a2 x hx), b2, c2, ⟨a3, m0⟩, ⟨b3, m1⟩, c3, m2⟩
end
end Go.Baro
