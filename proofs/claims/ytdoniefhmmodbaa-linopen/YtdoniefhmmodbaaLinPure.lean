/- Linearizable histories, as a relation of lists. No statement of the seat is proved here; no condition. -/
import Derived.RowKit
set_option linter.unusedSimpArgs false
set_option linter.unusedVariables false
namespace Go.Baro
open Go.RowKit (wrap64)

/-- An operation: when it began and ended (-1: it has not), whether it puts, its value, what it adds. -/
structure Ac where
  b : Int
  e : Int
  put : Bool
  v : Int
  add : Int
/-- What an object of kind k that has these numbers tells, and has then. -/
def tel (k : Int) (has : List Int) (a : Ac) : Int × List Int :=
  if k = 1 then (if a.put = true then (a.v, [a.v]) else (has.headD 0, has))
  else if k = 2 then (has.headD 0, [wrap64 (has.headD 0 + a.add)])
  else if a.put = true then (a.v, has ++ [a.v])
  else if has = [] then (-1, has)
  else if k = 3 then (has.headD 0, has.tail)
  else (has.getLastD 0, has.dropLast)
/-- The operations that are left can be put behind one another; those that have not ended may be left out. -/
inductive Lin (k : Int) : List Int → List Ac → Prop
  | done {has : List Int} {left : List Ac} (h : ∀ a ∈ left, a.e = -1) : Lin k has left
  | step {has : List Int} {left : List Ac} (a : Ac) (rest : List Ac) (hp : left.Perm (a :: rest)) (hf : ∀ b ∈ left, b.e ≠ -1 → a.b ≤ b.e) (ht : a.e ≠ -1 → (tel k has a).1 = a.v) (h : Lin k (tel k has a).2 rest) : Lin k has left
section
variable {k : Int} {has : List Int} {left left' : List Ac}
/-- How they are listed does not matter. -/
theorem Lin.perm (h : Lin k has left) (hp : left.Perm left') : Lin k has left' := by
  cases h with
  | done h => exact .done fun a ha => h a (hp.mem_iff.2 ha)
  | step a rest hq hf ht h => exact .step a rest (hp.symm.trans hq) (fun b hb => hf b (hp.mem_iff.2 hb)) ht h
/-- One that has not ended harms nothing. -/
theorem Lin.more (h : Lin k has left) {x : Ac} (hx : x.e = -1) : Lin k has (x :: left) := by
  induction h with
  | done h => exact .done fun a ha => by rcases List.mem_cons.1 ha with rfl | ha; exact hx; exact h a ha
  | @step has left a rest hq hf ht h ih =>
    refine .step a (x :: rest) ((List.Perm.cons x hq).trans (List.Perm.swap a x rest)) (fun b hb hb1 => ?_) ht ih
    rcases List.mem_cons.1 hb with rfl | hb
    · exact absurd hx hb1
    · exact hf b hb hb1
/-- Other times: what has ended then had ended, and whoever could come first still can. -/
theorem Lin.map {f : Ac → Ac} (h : Lin k has left) (h1 : ∀ a ∈ left, (f a).e ≠ -1 → a.e ≠ -1) (h2 : ∀ a ∈ left, (f a).put = a.put ∧ (f a).v = a.v ∧ (f a).add = a.add) (h3 : ∀ a ∈ left, ∀ b ∈ left, (f b).e ≠ -1 → a.b ≤ b.e → (f a).b ≤ (f b).e) : Lin k has (left.map f) := by
  have htel : ∀ (has : List Int) (a : Ac), (f a).put = a.put ∧ (f a).v = a.v ∧ (f a).add = a.add → tel k has (f a) = tel k has a := fun has a hh => by
    unfold tel
    rw [hh.1, hh.2.1, hh.2.2]
  induction h with
  | @done has left h =>
    refine .done fun a ha => ?_
    obtain ⟨c, hc, rfl⟩ := List.mem_map.1 ha
    by_cases he : (f c).e = -1
    · exact he
    · exact absurd (h c hc) (h1 c hc he)
  | @step has left a rest hq hf ht h ih =>
    have ha : a ∈ left := hq.mem_iff.2 (by simp)
    have hr : ∀ c, c ∈ rest → c ∈ left := fun c hc => hq.mem_iff.2 (by simp [hc])
    refine .step (f a) (rest.map f) (hq.map f) (fun b hb hb1 => ?_) (fun h5 => ?_) ?_
    · obtain ⟨c, hc, rfl⟩ := List.mem_map.1 hb
      exact h3 a ha c hc hb1 (hf c hc (h1 c hc hb1))
    · rw [htel has a (h2 a ha), (h2 a ha).2.1]
      exact ht (h1 a ha h5)
    · rw [htel has a (h2 a ha)]
      exact ih (fun c hc => h1 c (hr c hc)) (fun c hc => h2 c (hr c hc)) (fun c hc d hd => h3 c (hr c hc) d (hr d hd))
/-- All of them as much later. -/
def shA (d : Int) (a : Ac) : Ac := { a with b := a.b + d, e := if a.e = -1 then -1 else a.e + d }
theorem lin_later {d : Int} (hd : 0 ≤ d) (he : ∀ a ∈ left, -1 ≤ a.e) : Lin k has (left.map (shA d)) ↔ Lin k has left := by
  refine ⟨fun h => ?_, fun h => ?_⟩
  · have hm : (left.map (shA d)).map (fun a => { a with b := a.b - d, e := if a.e = -1 then -1 else a.e - d }) = left := by
      rw [List.map_map]
      conv => rhs; rw [← List.map_id left]
      refine List.map_congr_left fun a ha => ?_
      have := he a ha
      obtain ⟨b, e, put, v, add⟩ := a
      dsimp only at this
      simp only [Function.comp, shA, id]
      by_cases h1 : e = -1
      · subst h1; simp
      · rw [if_neg h1, if_neg (by omega)]; simp
    rw [← hm]
    refine h.map (fun a ha => ?_) (fun a ha => ⟨rfl, rfl, rfl⟩) (fun a ha b hb => ?_)
    · dsimp only
      split
      · intro hh; exact absurd rfl hh
      · intro _; assumption
    · dsimp only
      split
      · intro hh; exact absurd rfl hh
      · intro _ _; omega
  · refine h.map (fun a ha => ?_) (fun a ha => ⟨rfl, rfl, rfl⟩) (fun a ha b hb => ?_)
    · unfold shA
      dsimp only
      split
      · intro hh; exact absurd rfl hh
      · intro _; assumption
    · unfold shA
      dsimp only
      split
      · intro hh; exact absurd rfl hh
      · intro _ _; omega
end
/-- One behind the other, each tells its value. -/
def runs (k : Int) : List Int → List Ac → Prop
  | _, [] => True
  | has, a :: l => (tel k has a).1 = a.v ∧ runs k (tel k has a).2 l
/-- In this order they can come; those behind them that have not ended are left out. -/
theorem lin_part {k : Int} {l2 : List Ac} (h2 : ∀ a ∈ l2, a.e = -1) : ∀ (l1 : List Ac) (has : List Int), runs k has l1 → l1.Pairwise (fun a b => b.e ≠ -1 → a.b ≤ b.e) → (∀ a ∈ l1, a.e ≠ -1 → a.b ≤ a.e) → Lin k has (l1 ++ l2)
  | [], has, _, _, _ => .done h2
  | a :: l1, has, hr, hp, hs => by
    rw [List.pairwise_cons] at hp
    refine .step a (l1 ++ l2) (List.Perm.refl _) (fun b hb hb1 => ?_) (fun _ => hr.1) (lin_part h2 l1 _ hr.2 hp.2 (fun b hb => hs b (by simp [hb])))
    rw [List.cons_append] at hb
    rcases List.mem_cons.1 hb with rfl | hb
    · exact hs _ (by simp) hb1
    · rcases List.mem_append.1 hb with hb | hb
      · exact hp.1 b hb hb1
      · exact absurd (h2 b hb) hb1
theorem lin_seq {k : Int} {l : List Ac} {has : List Int} (hr : runs k has l) (hp : l.Pairwise (fun a b => b.e ≠ -1 → a.b ≤ b.e)) (hs : ∀ a ∈ l, a.e ≠ -1 → a.b ≤ a.e) : Lin k has l := by
  have := lin_part (l2 := []) (by simp) l has hr hp hs
  rwa [List.append_nil] at this
/-- Where each has ended before the next began there is one order alone. -/
theorem lin_only {k : Int} : ∀ (l : List Ac) (has : List Int), Lin k has l → l.Pairwise (fun a b => a.e < b.b) → (∀ a ∈ l, a.e ≠ -1) → runs k has l
  | [], has, _, _, _ => trivial
  | a :: l, has, h, hp, he => by
    rw [List.pairwise_cons] at hp
    cases h with
    | done h => exact absurd (h a (by simp)) (he a (by simp))
    | step c rest hq hf ht h =>
      have hc : c ∈ a :: l := hq.mem_iff.2 (by simp)
      have hca : c = a := by
        rcases List.mem_cons.1 hc with rfl | hc
        · rfl
        · have h1 := hp.1 c hc
          have h2 := hf a (by simp) (he a (by simp))
          omega
      subst hca
      have hpr : l.Perm rest := List.Perm.cons_inv hq
      exact ⟨ht (he c (by simp)), lin_only l _ (h.perm hpr.symm) hp.2 (fun b hb => he b (by simp [hb]))⟩
end Go.Baro
