/- Of this claim's own texts these, one behind the other: LinPure, RanPure. No statement of the seat is proved here; no condition but those that stand at the theorems. -/
import Derived.RowKit
import Derived.Test.YtnchgdjdfhfedaaDoorPartAH
set_option linter.unusedSimpArgs false
set_option linter.unusedVariables false
namespace Go.Baro
open Go.RowKit (wrap64)

/-- An operation: when it began and ended (-1: it has not), whether it puts, its value, what it adds. -/
structure Ac where
  b : Int
  e : Int
  put : Bool
  v : Int
  add : Int
/-- What an object of kind k that has these numbers tells, and has then. -/
def tel (k : Int) (has : List Int) (a : Ac) : Int × List Int :=
  if k = 1 then (if a.put = true then (a.v, [a.v]) else (has.headD 0, has))
  else if k = 2 then (has.headD 0, [wrap64 (has.headD 0 + a.add)])
  else if a.put = true then (a.v, has ++ [a.v])
  else if has = [] then (-1, has)
  else if k = 3 then (has.headD 0, has.tail)
  else (has.getLastD 0, has.dropLast)
/-- The operations that are left can be put behind one another; those that have not ended may be left out. -/
inductive Lin (k : Int) : List Int → List Ac → Prop
  | done {has : List Int} {left : List Ac} (h : ∀ a ∈ left, a.e = -1) : Lin k has left
  | step {has : List Int} {left : List Ac} (a : Ac) (rest : List Ac) (hp : left.Perm (a :: rest)) (hf : ∀ b ∈ left, b.e ≠ -1 → a.b ≤ b.e) (ht : a.e ≠ -1 → (tel k has a).1 = a.v) (h : Lin k (tel k has a).2 rest) : Lin k has left
section
variable {k : Int} {has : List Int} {left left' : List Ac}
/-- How they are listed does not matter. -/
theorem Lin.perm (h : Lin k has left) (hp : left.Perm left') : Lin k has left' := by
  cases h with
  | done h => exact .done fun a ha => h a (hp.mem_iff.2 ha)
  | step a rest hq hf ht h => exact .step a rest (hp.symm.trans hq) (fun b hb => hf b (hp.mem_iff.2 hb)) ht h
/-- One that has not ended harms nothing. -/
theorem Lin.more (h : Lin k has left) {x : Ac} (hx : x.e = -1) : Lin k has (x :: left) := by
  induction h with
  | done h => exact .done fun a ha => by rcases List.mem_cons.1 ha with rfl | ha; exact hx; exact h a ha
  | @step has left a rest hq hf ht h ih =>
    refine .step a (x :: rest) ((List.Perm.cons x hq).trans (List.Perm.swap a x rest)) (fun b hb hb1 => ?_) ht ih
    rcases List.mem_cons.1 hb with rfl | hb
    · exact absurd hx hb1
    · exact hf b hb hb1
/-- Other times: what has ended then had ended, and whoever could come first still can. -/
theorem Lin.map {f : Ac → Ac} (h : Lin k has left) (h1 : ∀ a ∈ left, (f a).e ≠ -1 → a.e ≠ -1) (h2 : ∀ a ∈ left, (f a).put = a.put ∧ (f a).v = a.v ∧ (f a).add = a.add) (h3 : ∀ a ∈ left, ∀ b ∈ left, (f b).e ≠ -1 → a.b ≤ b.e → (f a).b ≤ (f b).e) : Lin k has (left.map f) := by
  have htel : ∀ (has : List Int) (a : Ac), (f a).put = a.put ∧ (f a).v = a.v ∧ (f a).add = a.add → tel k has (f a) = tel k has a := fun has a hh => by
    unfold tel
    rw [hh.1, hh.2.1, hh.2.2]
  induction h with
  | @done has left h =>
    refine .done fun a ha => ?_
    obtain ⟨c, hc, rfl⟩ := List.mem_map.1 ha
    by_cases he : (f c).e = -1
    · exact he
    · exact absurd (h c hc) (h1 c hc he)
  | @step has left a rest hq hf ht h ih =>
    have ha : a ∈ left := hq.mem_iff.2 (by simp)
    have hr : ∀ c, c ∈ rest → c ∈ left := fun c hc => hq.mem_iff.2 (by simp [hc])
    refine .step (f a) (rest.map f) (hq.map f) (fun b hb hb1 => ?_) (fun h5 => ?_) ?_
    · obtain ⟨c, hc, rfl⟩ := List.mem_map.1 hb
      exact h3 a ha c hc hb1 (hf c hc (h1 c hc hb1))
    · rw [htel has a (h2 a ha), (h2 a ha).2.1]
      exact ht (h1 a ha h5)
    · rw [htel has a (h2 a ha)]
      exact ih (fun c hc => h1 c (hr c hc)) (fun c hc => h2 c (hr c hc)) (fun c hc d hd => h3 c (hr c hc) d (hr d hd))
/-- All of them as much later. -/
def shA (d : Int) (a : Ac) : Ac := { a with b := a.b + d, e := if a.e = -1 then -1 else a.e + d }
theorem lin_later {d : Int} (hd : 0 ≤ d) (he : ∀ a ∈ left, -1 ≤ a.e) : Lin k has (left.map (shA d)) ↔ Lin k has left := by
  refine ⟨fun h => ?_, fun h => ?_⟩
  · have hm : (left.map (shA d)).map (fun a => { a with b := a.b - d, e := if a.e = -1 then -1 else a.e - d }) = left := by
      rw [List.map_map]
      conv => rhs; rw [← List.map_id left]
      refine List.map_congr_left fun a ha => ?_
      have := he a ha
      obtain ⟨b, e, put, v, add⟩ := a
      dsimp only at this
      simp only [Function.comp, shA, id]
      by_cases h1 : e = -1
      · subst h1; simp
      · rw [if_neg h1, if_neg (by omega)]; simp
    rw [← hm]
    refine h.map (fun a ha => ?_) (fun a ha => ⟨rfl, rfl, rfl⟩) (fun a ha b hb => ?_)
    · dsimp only
      split
      · intro hh; exact absurd rfl hh
      · intro _; assumption
    · dsimp only
      split
      · intro hh; exact absurd rfl hh
      · intro _ _; omega
  · refine h.map (fun a ha => ?_) (fun a ha => ⟨rfl, rfl, rfl⟩) (fun a ha b hb => ?_)
    · unfold shA
      dsimp only
      split
      · intro hh; exact absurd rfl hh
      · intro _; assumption
    · unfold shA
      dsimp only
      split
      · intro hh; exact absurd rfl hh
      · intro _ _; omega
end
/-- One behind the other, each tells its value. -/
def runs (k : Int) : List Int → List Ac → Prop
  | _, [] => True
  | has, a :: l => (tel k has a).1 = a.v ∧ runs k (tel k has a).2 l
/-- In this order they can come; those behind them that have not ended are left out. -/
theorem lin_part {k : Int} {l2 : List Ac} (h2 : ∀ a ∈ l2, a.e = -1) : ∀ (l1 : List Ac) (has : List Int), runs k has l1 → l1.Pairwise (fun a b => b.e ≠ -1 → a.b ≤ b.e) → (∀ a ∈ l1, a.e ≠ -1 → a.b ≤ a.e) → Lin k has (l1 ++ l2)
  | [], has, _, _, _ => .done h2
  | a :: l1, has, hr, hp, hs => by
    rw [List.pairwise_cons] at hp
    refine .step a (l1 ++ l2) (List.Perm.refl _) (fun b hb hb1 => ?_) (fun _ => hr.1) (lin_part h2 l1 _ hr.2 hp.2 (fun b hb => hs b (by simp [hb])))
    rw [List.cons_append] at hb
    rcases List.mem_cons.1 hb with rfl | hb
    · exact hs _ (by simp) hb1
    · rcases List.mem_append.1 hb with hb | hb
      · exact hp.1 b hb hb1
      · exact absurd (h2 b hb) hb1
theorem lin_seq {k : Int} {l : List Ac} {has : List Int} (hr : runs k has l) (hp : l.Pairwise (fun a b => b.e ≠ -1 → a.b ≤ b.e)) (hs : ∀ a ∈ l, a.e ≠ -1 → a.b ≤ a.e) : Lin k has l := by
  have := lin_part (l2 := []) (by simp) l has hr hp hs
  rwa [List.append_nil] at this
/-- Where each has ended before the next began there is one order alone. -/
theorem lin_only {k : Int} : ∀ (l : List Ac) (has : List Int), Lin k has l → l.Pairwise (fun a b => a.e < b.b) → (∀ a ∈ l, a.e ≠ -1) → runs k has l
  | [], has, _, _, _ => trivial
  | a :: l, has, h, hp, he => by
    rw [List.pairwise_cons] at hp
    cases h with
    | done h => exact absurd (h a (by simp)) (he a (by simp))
    | step c rest hq hf ht h =>
      have hc : c ∈ a :: l := hq.mem_iff.2 (by simp)
      have hca : c = a := by
        rcases List.mem_cons.1 hc with rfl | hc
        · rfl
        · have h1 := hp.1 c hc
          have h2 := hf a (by simp) (he a (by simp))
          omega
      subst hca
      have hpr : l.Perm rest := List.Perm.cons_inv hq
      exact ⟨ht (he c (by simp)), lin_only l _ (h.perm hpr.symm) hp.2 (fun b hb => he b (by simp [hb]))⟩
end Go.Baro

set_option linter.unusedSimpArgs false
set_option linter.unusedVariables false
namespace Go.Baro

/-- A call of a run. -/
structure Dg where
  b : Nat
  e : Int
  th : Nat
  cl : Nat
  to : List Int
/-- The call that an event ends. -/
def Dg.is (d : Dg) (x : Ev) : Prop := d.th = x.th ∧ d.cl = x.cl ∧ d.e = -1
instance (d : Dg) (x : Ev) : Decidable (d.is x) := by unfold Dg.is; infer_instance
def Dg.fin (d : Dg) (x : Ev) : Dg := if d.is x then ⟨d.b, x.st, d.th, d.cl, x.to⟩ else d
def dg1 (l : List Dg) (x : Ev) : List Dg := if x.en = true then l.map (fun d => d.fin x) else l ++ [⟨x.st, -1, x.th, x.cl, []⟩]
/-- The calls that the events tell of. -/
def dgs (es : List Ev) : List Dg := es.foldl dg1 []
theorem dgs_snoc (es : List Ev) (x : Ev) : dgs (es ++ [x]) = dg1 (dgs es) x := by simp [dgs]
theorem dg1_begin (l : List Dg) (x : Ev) (h : x.en = false) : dg1 l x = l ++ [⟨x.st, -1, x.th, x.cl, []⟩] := by simp [dg1, h]
theorem dg1_end (l : List Dg) (x : Ev) (h : x.en = true) : dg1 l x = l.map (fun d => d.fin x) := by simp [dg1, h]
theorem dg1_len (l : List Dg) (x : Ev) : (dg1 l x).length ≤ l.length + 1 := by
  unfold dg1; split <;> simp
theorem dgs_len : ∀ (es : List Ev), (dgs es).length ≤ es.length := by
  intro es
  suffices h : ∀ (es : List Ev) (l : List Dg), (es.foldl dg1 l).length ≤ l.length + es.length by simpa [dgs] using h es []
  intro es
  induction es with
  | nil => intro l; simp
  | cons x es ih =>
    intro l
    rw [List.foldl_cons, List.length_cons]
    have h1 := ih (dg1 l x)
    have h2 := dg1_len l x
    omega
/-- Every end has its beginning, and is without an error. -/
def endOk (l : List Dg) (x : Ev) : Prop := x.en = true → x.er = 0 ∧ ∃ d ∈ l, d.is x
def rnOk (es : List Ev) : Prop := ∀ (i : Nat) x, es[i]? = some x → endOk (dgs (es.take i)) x
theorem rnOk_snoc {es : List Ev} {x : Ev} : rnOk (es ++ [x]) ↔ rnOk es ∧ endOk (dgs es) x := by
  constructor
  · intro h
    refine ⟨fun i y hy => ?_, ?_⟩
    · have hi := (List.getElem?_eq_some_iff.1 hy).1
      have := h i y (by rw [List.getElem?_append_left hi]; exact hy)
      rwa [List.take_append_of_le_length (by omega)] at this
    · have := h es.length x (by simp)
      rwa [List.take_append_of_le_length (Nat.le_refl _), List.take_of_length_le (Nat.le_refl _)] at this
  · rintro ⟨h1, h2⟩ i y hy
    by_cases hi : i < es.length
    · rw [List.getElem?_append_left hi] at hy
      rw [List.take_append_of_le_length (by omega)]
      exact h1 i y hy
    · rw [List.getElem?_append_right (by omega)] at hy
      have h0 : i - es.length = 0 := by
        have := (List.getElem?_eq_some_iff.1 hy).1
        simp at this
        omega
      rw [h0] at hy
      simp at hy
      subst hy
      obtain rfl : i = es.length := by omega
      rwa [List.take_append_of_le_length (Nat.le_refl _), List.take_of_length_le (Nat.le_refl _)]

/-- The beginning of a step: the thread begins its next call, if it is within none. -/
def bgG (m : Mc) (g : Gs) (st n : Nat) : Gs :=
  match (g.th n).now with
  | some _ => g
  | none =>
    match (m.ts[n]?.getD [])[(g.th n).bg]? with
    | none => g
    | some c => ⟨g.w, putT g.th n ⟨some (live (m.cs[c.k.toNat]?.getD []) c.ar), (g.th n).bg + 1⟩, g.out ++ [⟨st, n, (g.th n).bg, false, 0, []⟩]⟩
/-- The rest of it: one instruction. -/
def exG (g : Gs) (st n : Nat) : Gs :=
  match (g.th n).now with
  | none => g
  | some l => actL g st n (g.th n).bg l g.out
theorem putT_twice (f : Nat → Td) (n : Nat) (x y : Td) : putT (putT f n x) n y = putT f n y := by
  funext i
  unfold putT
  split <;> rfl
theorem putT_same (f : Nat → Td) (n : Nat) (x : Td) : putT f n x n = x := by simp [putT]
theorem putT_other (f : Nat → Td) {n i : Nat} (x : Td) (h : i ≠ n) : putT f n x i = f i := by simp [putT, h]
theorem actG_eq (m : Mc) (g : Gs) (st n : Nat) : actG m g st n = exG (bgG m g st n) st n := by
  unfold actG bgG exG
  cases hn : (g.th n).now with
  | some l => simp only [hn]
  | none =>
    dsimp only
    cases hc : (m.ts[n]?.getD [])[(g.th n).bg]? with
    | none => simp only [hn]
    | some c =>
      simp only [putT_same]
      unfold actL
      simp only [putT_twice]
/-- Where a thread's instruction leads. -/
theorem exG_none {g : Gs} {st n : Nat} (h : (g.th n).now = none) : exG g st n = g := by unfold exG; rw [h]
theorem exG_go {g : Gs} {st n : Nat} {l : Lv} (h : (g.th n).now = some l) (he : (exc l g.w).2.2.2 = false) : exG g st n = ⟨(exc l g.w).2.1, putT g.th n ⟨some (exc l g.w).1, (g.th n).bg⟩, g.out⟩ := by
  unfold exG actL
  rw [h]
  simp [he]
theorem exG_end {g : Gs} {st n : Nat} {l : Lv} (h : (g.th n).now = some l) (he : (exc l g.w).2.2.2 = true) : exG g st n = ⟨(exc l g.w).2.1, putT g.th n ⟨none, (g.th n).bg⟩, g.out ++ [⟨st, n, (g.th n).bg - 1, true, (exc l g.w).2.2.1, (exc l g.w).1.t⟩]⟩ := by
  unfold exG actL
  rw [h]
  simp [he]

/-- What the calls of a run keep to: times of beginnings are below sb, those of ends below se. -/
structure Hs (sb se : Nat) (g : Gs) : Prop where
  bnd : ∀ d ∈ dgs g.out, d.b < sb ∧ (d.e ≠ -1 → (d.b : Int) ≤ d.e ∧ d.e < se)
  srt : (dgs g.out).Pairwise (fun a b => a.b < b.b)
  own : ∀ d ∈ dgs g.out, d.cl < (g.th d.th).bg
  all : ∀ t c, c < (g.th t).bg → ∃ d ∈ dgs g.out, d.th = t ∧ d.cl = c
  opn : ∀ d ∈ dgs g.out, d.e = -1 ↔ (g.th d.th).now ≠ none ∧ d.cl + 1 = (g.th d.th).bg
  tld : ∀ d ∈ dgs g.out, d.e = -1 → d.to = []
  seq : ∀ a ∈ dgs g.out, ∀ b ∈ dgs g.out, a.th = b.th → a.cl < b.cl → a.e ≠ -1 ∧ a.e < b.b
  one : ∀ a ∈ dgs g.out, ∀ b ∈ dgs g.out, a.th = b.th → a.cl = b.cl → a = b
  ends : ∀ a ∈ dgs g.out, ∀ b ∈ dgs g.out, a.e ≠ -1 → a.e = b.e → a = b
  ps : ∀ t, (g.th t).now ≠ none → 1 ≤ (g.th t).bg
theorem Hs.mono {sb se sb' se' : Nat} {g : Gs} (h : Hs sb se g) (hb : sb ≤ sb') (he : se ≤ se') : Hs sb' se' g :=
  ⟨fun d hd => by obtain ⟨h1, h2⟩ := h.bnd d hd; exact ⟨by omega, fun hne => by have := h2 hne; omega⟩, h.srt, h.own, h.all, h.opn, h.tld, h.seq, h.one, h.ends, h.ps⟩
theorem hs_zero (m : Mc) : Hs 0 0 (g0 m) := by
  refine ⟨?_, ?_, ?_, ?_, ?_, ?_, ?_, ?_, ?_, ?_⟩ <;> simp [g0, dgs]
theorem hs_begin {m : Mc} {st n : Nat} {g : Gs} (h : Hs st st g) : Hs (st + 1) st (bgG m g st n) := by
  unfold bgG
  cases hn : (g.th n).now with
  | some l => exact h.mono (Nat.le_succ _) (Nat.le_refl _)
  | none =>
    dsimp only
    cases hc : (m.ts[n]?.getD [])[(g.th n).bg]? with
    | none => exact h.mono (Nat.le_succ _) (Nat.le_refl _)
    | some c =>
      dsimp only
      have hD : dgs (g.out ++ [⟨st, n, (g.th n).bg, false, 0, []⟩]) = dgs g.out ++ [⟨st, -1, n, (g.th n).bg, []⟩] := by rw [dgs_snoc, dg1_begin _ _ rfl]
      have hcl : ∀ d ∈ dgs g.out, d.th = n → d.cl < (g.th n).bg ∧ d.e ≠ -1 := by
        intro d hd hdn
        have h1 := h.own d hd
        rw [hdn] at h1
        refine ⟨h1, fun he => ?_⟩
        have := (h.opn d hd).1 he
        rw [hdn] at this
        exact this.1 hn
      refine ⟨?_, ?_, ?_, ?_, ?_, ?_, ?_, ?_, ?_, ?_⟩ <;> dsimp only
      · rw [hD]
        intro d hd
        rcases List.mem_append.1 hd with hd | hd
        · obtain ⟨h1, h2⟩ := h.bnd d hd
          exact ⟨by omega, h2⟩
        · rw [List.mem_singleton.1 hd]; exact ⟨by dsimp only; omega, fun h => absurd rfl h⟩
      · rw [hD]
        refine List.pairwise_append.2 ⟨h.srt, by simp, fun a ha b hb => ?_⟩
        rw [List.mem_singleton.1 hb]
        exact (h.bnd a ha).1
      · rw [hD]
        intro d hd
        rcases List.mem_append.1 hd with hd | hd
        · have h1 := h.own d hd
          by_cases hdn : d.th = n
          · rw [hdn, putT_same]; rw [hdn] at h1; dsimp only; omega
          · rw [putT_other _ _ hdn]; exact h1
        · rw [List.mem_singleton.1 hd]; dsimp only; rw [putT_same]; dsimp only; omega
      · rw [hD]
        intro t c' hc'
        by_cases ht : t = n
        · subst ht
          rw [putT_same] at hc'
          dsimp only at hc'
          by_cases hlt : c' < (g.th t).bg
          · obtain ⟨d, hd, h1⟩ := h.all t c' hlt
            exact ⟨d, by simp [hd], h1⟩
          · exact ⟨⟨st, -1, t, (g.th t).bg, []⟩, by simp, rfl, by dsimp only; omega⟩
        · rw [putT_other _ _ ht] at hc'
          obtain ⟨d, hd, h1⟩ := h.all t c' hc'
          exact ⟨d, by simp [hd], h1⟩
      · rw [hD]
        intro d hd
        rcases List.mem_append.1 hd with hd | hd
        · by_cases hdn : d.th = n
          · obtain ⟨h1, h2⟩ := hcl d hd hdn
            rw [hdn, putT_same]
            exact ⟨fun h => absurd h h2, fun h => by have := h.2; dsimp only at this; omega⟩
          · rw [putT_other _ _ hdn]; exact h.opn d hd
        · rw [List.mem_singleton.1 hd]; dsimp only; rw [putT_same]; simp
      · rw [hD]
        intro d hd he
        rcases List.mem_append.1 hd with hd | hd
        · exact h.tld d hd he
        · rw [List.mem_singleton.1 hd]
      · rw [hD]
        intro a ha b hb hth hab
        rcases List.mem_append.1 ha with ha | ha
        · rcases List.mem_append.1 hb with hb | hb
          · exact h.seq a ha b hb hth hab
          · rw [List.mem_singleton.1 hb] at hth ⊢
            dsimp only at hth ⊢
            obtain ⟨h1, h2⟩ := hcl a ha hth
            exact ⟨h2, ((h.bnd a ha).2 h2).2⟩
        · rw [List.mem_singleton.1 ha] at hth hab
          dsimp only at hth hab
          rcases List.mem_append.1 hb with hb | hb
          · have := (hcl b hb hth.symm).1; omega
          · rw [List.mem_singleton.1 hb] at hab; dsimp only at hab; omega
      · rw [hD]
        intro a ha b hb hth hab
        rcases List.mem_append.1 ha with ha | ha
        · rcases List.mem_append.1 hb with hb | hb
          · exact h.one a ha b hb hth hab
          · rw [List.mem_singleton.1 hb] at hth hab
            dsimp only at hth hab
            have := (hcl a ha hth).1; omega
        · rw [List.mem_singleton.1 ha] at hth hab
          dsimp only at hth hab
          rcases List.mem_append.1 hb with hb | hb
          · have := (hcl b hb hth.symm).1; omega
          · rw [List.mem_singleton.1 ha, List.mem_singleton.1 hb]
      · rw [hD]
        intro a ha b hb hne hab
        rcases List.mem_append.1 ha with ha | ha
        · rcases List.mem_append.1 hb with hb | hb
          · exact h.ends a ha b hb hne hab
          · rw [List.mem_singleton.1 hb] at hab; exact absurd hab hne
        · rw [List.mem_singleton.1 ha] at hne; exact absurd rfl hne
      · intro t ht
        by_cases htn : t = n
        · rw [htn, putT_same]; dsimp only; omega
        · rw [putT_other _ _ htn] at ht ⊢; exact h.ps t ht
/-- What is known of a call behind an end. -/
theorem fin_mem {l : List Dg} {x : Ev} {d' : Dg} (h : d' ∈ l.map (fun d => d.fin x)) : ∃ d ∈ l, d'.b = d.b ∧ d'.th = d.th ∧ d'.cl = d.cl ∧ ((d.is x ∧ d'.e = x.st ∧ d'.to = x.to) ∨ (¬ d.is x ∧ d' = d)) := by
  obtain ⟨d, hd, rfl⟩ := List.mem_map.1 h
  refine ⟨d, hd, ?_⟩
  unfold Dg.fin
  by_cases hx : d.is x
  · rw [if_pos hx]; exact ⟨rfl, rfl, rfl, .inl ⟨hx, rfl, rfl⟩⟩
  · rw [if_neg hx]; exact ⟨rfl, rfl, rfl, .inr ⟨hx, rfl⟩⟩
theorem hs_exec {st n : Nat} {g : Gs} (h : Hs (st + 1) st g) : Hs (st + 1) (st + 1) (exG g st n) := by
  cases hn : (g.th n).now with
  | none => rw [exG_none hn]; exact h.mono (Nat.le_refl _) (Nat.le_succ _)
  | some l =>
    have hp := h.ps n (by rw [hn]; simp)
    by_cases he : (exc l g.w).2.2.2 = true
    · rw [exG_end hn he]
      generalize hx : (⟨st, n, (g.th n).bg - 1, true, (exc l g.w).2.2.1, (exc l g.w).1.t⟩ : Ev) = x
      have x1 : x.st = st := by rw [← hx]
      have x2 : x.th = n := by rw [← hx]
      have x3 : x.cl = (g.th n).bg - 1 := by rw [← hx]
      have x4 : x.en = true := by rw [← hx]
      have hD : dgs (g.out ++ [x]) = (dgs g.out).map (fun d => d.fin x) := by rw [dgs_snoc, dg1_end _ _ x4]
      have his : ∀ d ∈ dgs g.out, d.is x ↔ d.e = -1 ∧ d.th = n := by
        intro d hd
        unfold Dg.is
        rw [x2, x3]
        refine ⟨fun h => ⟨h.2.2, h.1⟩, fun h1 => ⟨h1.2, ?_, h1.1⟩⟩
        have := ((h.opn d hd).1 h1.1).2
        rw [h1.2] at this
        omega
      refine ⟨?_, ?_, ?_, ?_, ?_, ?_, ?_, ?_, ?_, ?_⟩ <;> dsimp only
      · rw [hD]
        intro d' hd'
        obtain ⟨d, hd, q1, q2, q3, ⟨q4, q5, q6⟩ | ⟨q4, rfl⟩⟩ := fin_mem hd'
        · have := (h.bnd d hd).1
          rw [q1, q5, x1]
          exact ⟨this, fun _ => by omega⟩
        · obtain ⟨h1, h2⟩ := h.bnd d' hd
          exact ⟨h1, fun hne => by have := h2 hne; omega⟩
      · rw [hD, List.pairwise_map]
        refine h.srt.imp fun {a b} hab => ?_
        unfold Dg.fin
        split <;> split <;> exact hab
      · rw [hD]
        intro d' hd'
        obtain ⟨d, hd, q1, q2, q3, _⟩ := fin_mem hd'
        rw [q2, q3]
        have := h.own d hd
        by_cases hdn : d.th = n
        · rw [hdn, putT_same]; rw [hdn] at this; exact this
        · rw [putT_other _ _ hdn]; exact this
      · rw [hD]
        intro t c hc
        have hc' : c < (g.th t).bg := by
          by_cases ht : t = n
          · rw [ht, putT_same] at hc; rw [ht]; exact hc
          · rw [putT_other _ _ ht] at hc; exact hc
        obtain ⟨d, hd, h1, h2⟩ := h.all t c hc'
        refine ⟨d.fin x, List.mem_map.2 ⟨d, hd, rfl⟩, ?_⟩
        unfold Dg.fin
        split <;> exact ⟨h1, h2⟩
      · rw [hD]
        intro d' hd'
        obtain ⟨d, hd, q1, q2, q3, ⟨q4, q5, q6⟩ | ⟨q4, rfl⟩⟩ := fin_mem hd'
        · have h1 := ((his d hd).1 q4).2
          rw [q2, h1, putT_same, q5]
          exact ⟨fun h => by omega, fun h => absurd rfl h.1⟩
        · by_cases hdn : d'.th = n
          · have h1 : d'.e ≠ -1 := fun h2 => q4 ((his d' hd).2 ⟨h2, hdn⟩)
            rw [hdn, putT_same]
            exact ⟨fun h => absurd h h1, fun h => absurd rfl h.1⟩
          · rw [putT_other _ _ hdn]; exact h.opn d' hd
      · rw [hD]
        intro d' hd' he'
        obtain ⟨d, hd, q1, q2, q3, ⟨q4, q5, q6⟩ | ⟨q4, rfl⟩⟩ := fin_mem hd'
        · rw [q5] at he'; omega
        · exact h.tld d' hd he'
      · rw [hD]
        intro a' ha' b' hb' hth hab
        obtain ⟨a, ha, a1, a2, a3, a4⟩ := fin_mem ha'
        obtain ⟨b, hb, b1, b2, b3, b4⟩ := fin_mem hb'
        obtain ⟨h1, h2⟩ := h.seq a ha b hb (by rw [← a2, ← b2]; exact hth) (by rw [← a3, ← b3]; exact hab)
        rcases a4 with ⟨q4, _⟩ | ⟨q4, rfl⟩
        · exact absurd ((his a ha).1 q4).1 h1
        · rw [b1]; exact ⟨h1, h2⟩
      · rw [hD]
        intro a' ha' b' hb' hth hab
        obtain ⟨a, ha, rfl⟩ := List.mem_map.1 ha'
        obtain ⟨b, hb, rfl⟩ := List.mem_map.1 hb'
        have e1 : ∀ d : Dg, (d.fin x).th = d.th ∧ (d.fin x).cl = d.cl := fun d => by unfold Dg.fin; split <;> exact ⟨rfl, rfl⟩
        have := h.one a ha b hb (by rw [← (e1 a).1, ← (e1 b).1]; exact hth) (by rw [← (e1 a).2, ← (e1 b).2]; exact hab)
        rw [this]
      · rw [hD]
        intro a' ha' b' hb' hne hab
        obtain ⟨a, ha, rfl⟩ := List.mem_map.1 ha'
        obtain ⟨b, hb, rfl⟩ := List.mem_map.1 hb'
        have e1 : ∀ d ∈ dgs g.out, (d.e = -1 ∧ d.th = n ∧ (d.fin x).e = st) ∨ ((d.fin x) = d) := fun d hd => by
          unfold Dg.fin
          by_cases hx' : d.is x
          · rw [if_pos hx']
            have := (his d hd).1 hx'
            exact .inl ⟨this.1, this.2, by dsimp only; rw [x1]⟩
          · rw [if_neg hx']; exact .inr rfl
        have key : ∀ a ∈ dgs g.out, ∀ b ∈ dgs g.out, a.e = -1 → a.th = n → b.e = -1 → b.th = n → a = b := by
          intro a ha b hb h1 h2 h3 h4
          have g1 := ((h.opn a ha).1 h1).2
          have g2 := ((h.opn b hb).1 h3).2
          rw [h2] at g1
          rw [h4] at g2
          exact h.one a ha b hb (by rw [h2, h4]) (by omega)
        rcases e1 a ha with ⟨g1, g2, g3⟩ | g1
        · rcases e1 b hb with ⟨k1, k2, k3⟩ | k1
          · rw [key a ha b hb g1 g2 k1 k2]
          · rw [g3, k1] at hab
            have := (h.bnd b hb).2 (by omega)
            omega
        · rcases e1 b hb with ⟨k1, k2, k3⟩ | k1
          · rw [k3, g1] at hab
            have := (h.bnd a ha).2 (by omega)
            omega
          · rw [g1, k1] at hab ⊢
            rw [g1] at hne
            exact h.ends a ha b hb hne hab
      · intro t ht
        by_cases htn : t = n
        · rw [htn, putT_same] at ht; exact absurd rfl ht
        · rw [putT_other _ _ htn] at ht ⊢; exact h.ps t ht
    · have he' : (exc l g.w).2.2.2 = false := by simpa using he
      rw [exG_go hn he']
      have hth : ∀ t, (putT g.th n ⟨some (exc l g.w).1, (g.th n).bg⟩ t).bg = (g.th t).bg ∧ ((putT g.th n ⟨some (exc l g.w).1, (g.th n).bg⟩ t).now ≠ none ↔ (g.th t).now ≠ none) := by
        intro t
        by_cases ht : t = n
        · rw [ht, putT_same]; exact ⟨rfl, by rw [hn]; simp⟩
        · rw [putT_other _ _ ht]; exact ⟨rfl, Iff.rfl⟩
      refine ⟨?_, h.srt, ?_, ?_, ?_, h.tld, h.seq, h.one, h.ends, ?_⟩ <;> dsimp only
      · intro d hd
        obtain ⟨h1, h2⟩ := h.bnd d hd
        exact ⟨h1, fun hne => by have := h2 hne; omega⟩
      · intro d hd; rw [(hth _).1]; exact h.own d hd
      · intro t c hc; rw [(hth _).1] at hc; exact h.all t c hc
      · intro d hd; rw [(hth _).1, (hth _).2]; exact h.opn d hd
      · intro t ht; rw [(hth _).1]; exact h.ps t ((hth t).2.1 ht)
theorem hs_act {m : Mc} {st n : Nat} {g : Gs} (h : Hs st st g) : Hs (st + 1) (st + 1) (actG m g st n) := by
  rw [actG_eq]; exact hs_exec (hs_begin h)
/-- What holds of a run at each step. -/
theorem plyG_ind {m : Mc} {I : Nat → Gs → Prop} {A : Nat → Prop} (h0 : I 0 (g0 m)) (hs : ∀ st g n, A n → I st g → I (st + 1) (actG m g st n)) : ∀ (l : List Nat), (∀ n ∈ l, A n) → I l.length (plyG m 0 l (g0 m)) := by
  suffices h : ∀ (l : List Nat) (st : Nat) (g : Gs), I st g → (∀ n ∈ l, A n) → I (st + l.length) (plyG m st l g) from fun l hl => by have := h l 0 (g0 m) h0 hl; rwa [Nat.zero_add] at this
  intro l
  induction l with
  | nil => intro st g h _; exact h
  | cons n l ih =>
    intro st g h hl
    have := ih (st + 1) (actG m g st n) (hs st g n (hl n (by simp)) h) (fun k hk => hl k (by simp [hk]))
    rw [List.length_cons, show st + (l.length + 1) = st + 1 + l.length by omega]
    exact this
theorem hs_ply (m : Mc) (l : List Nat) : Hs l.length l.length (plyG m 0 l (g0 m)) := plyG_ind (I := fun st g => Hs st st g) (A := fun _ => True) (hs_zero m) (fun _ _ _ _ h => hs_act h) l (fun _ _ => trivial)
/-- Who is within a call has one that is open. -/
theorem Hs.live {sb se n : Nat} {g : Gs} (h : Hs sb se g) (hn : (g.th n).now ≠ none) : ∃ d ∈ dgs g.out, d.th = n ∧ d.cl = (g.th n).bg - 1 ∧ d.e = -1 ∧ d.cl + 1 = (g.th n).bg := by
  have h1 := h.ps n hn
  obtain ⟨d, hd, h2, h3⟩ := h.all n ((g.th n).bg - 1) (by omega)
  exact ⟨d, hd, h2, h3, (h.opn d hd).2 ⟨by rw [h2]; exact hn, by rw [h2]; omega⟩, by omega⟩
/-- No call ends with an error. -/
def noErr (g : Gs) : Prop := ∀ x ∈ g.out, x.en = true → x.er = 0
theorem rn_begin {m : Mc} {st n : Nat} {g : Gs} (h : rnOk g.out) : rnOk (bgG m g st n).out := by
  unfold bgG
  cases hn : (g.th n).now with
  | some l => exact h
  | none =>
    dsimp only
    cases hc : (m.ts[n]?.getD [])[(g.th n).bg]? with
    | none => exact h
    | some c => exact rnOk_snoc.2 ⟨h, fun h => by simp at h⟩
theorem rn_exec {st n : Nat} {g : Gs} {sb se : Nat} (hs : Hs sb se g) (h : rnOk g.out) (he : noErr (exG g st n)) : rnOk (exG g st n).out := by
  cases hn : (g.th n).now with
  | none => rw [exG_none hn]; exact h
  | some l =>
    by_cases hq : (exc l g.w).2.2.2 = true
    · rw [exG_end hn hq] at he ⊢
      refine rnOk_snoc.2 ⟨h, fun _ => ⟨he _ (by simp) rfl, ?_⟩⟩
      obtain ⟨d, hd, h1, h2, h3, _⟩ := hs.live (n := n) (by rw [hn]; simp)
      exact ⟨d, hd, h1, h2, h3⟩
    · rw [exG_go hn (by simpa using hq)]; exact h
theorem noErr_of_exec {st n : Nat} {g : Gs} (h : noErr (exG g st n)) : noErr g := by
  cases hn : (g.th n).now with
  | none => rwa [exG_none hn] at h
  | some l =>
    by_cases hq : (exc l g.w).2.2.2 = true
    · rw [exG_end hn hq] at h
      exact fun x hx => h x (by simp [hx])
    · rw [exG_go hn (by simpa using hq)] at h; exact h
theorem noErr_of_begin {m : Mc} {st n : Nat} {g : Gs} (h : noErr (bgG m g st n)) : noErr g := by
  unfold bgG at h
  cases hn : (g.th n).now with
  | some l => simp only [hn] at h; exact h
  | none =>
    simp only [hn] at h
    cases hc : (m.ts[n]?.getD [])[(g.th n).bg]? with
    | none => simp only [hc] at h; exact h
    | some c => simp only [hc] at h; exact fun x hx => h x (by simp [hx])
theorem rn_ply {m : Mc} (l : List Nat) (h : noErr (plyG m 0 l (g0 m))) : rnOk (plyG m 0 l (g0 m)).out := by
  refine plyG_ind (I := fun st g => Hs st st g ∧ (noErr g → rnOk g.out)) (A := fun _ => True) ⟨hs_zero m, fun _ i x hx => by simp [g0] at hx⟩ (fun st g n _ hI => ⟨hs_act hI.1, fun he => ?_⟩) l (fun _ _ => trivial) |>.2 h
  rw [actG_eq] at he ⊢
  exact rn_exec (hs_begin hI.1) (rn_begin (hI.2 (noErr_of_begin (noErr_of_exec he)))) he
end Go.Baro
