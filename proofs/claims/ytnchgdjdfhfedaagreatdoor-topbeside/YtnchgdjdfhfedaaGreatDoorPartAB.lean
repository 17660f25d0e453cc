/- Of this claim's own texts these, one behind the other: Ord3, Ord4. No statement of the seat is proved here; no condition but those that stand at the theorems. -/
import Derived.Test.YtnchgdjdfhfedaaGreatDoorPartAA
set_option linter.unusedSimpArgs false
set_option linter.unusedVariables false
namespace Go.Ord
section
variable {P : Program} {X : List Nat} {ops : Array Oper} {md : Region.Mode} {w0 : World} {wet : Bool} {Q : Exit → Act → World → Prop}

/-- The operations that do not even look at the world. -/
def dryB : Op → Bool
  | .move _ | .assign _ | .pick _ _ _ | .extract _ _ => true
  | _ => false
/-- What may look at the world; X: the places that the walk promises not to. -/
def wetAt (X : List Nat) (ops : Array Oper) (i : Nat) : Bool := !dryB (ops.getD i default).op && !X.contains i
def heavyAt (P : Program) (X : List Nat) (ops : Array Oper) (i : Nat) : Bool := calmB P (ops.getD i default).op && wetAt X ops i

theorem dry_same {o : Oper} (h : dryB o.op = true) (ρ : Operand → Value) {w w' : World} {n : Next} (hr : (execOp ρ o).run P w = .ok n w) : (execOp ρ o).run P w' = .ok n w' := by
  obtain ⟨dst, op, type, pos, after, guard⟩ := o
  unfold dryB at h
  dsimp only at h
  split at h <;> simp only [execOp] at hr ⊢
  · simp only [Sem.run_pure, Result.ok.injEq] at hr ⊢; exact ⟨hr.1, trivial⟩
  · simp only [Sem.run_pure, Result.ok.injEq] at hr ⊢; exact ⟨hr.1, trivial⟩
  · unfold asBool at *
    split at hr
    · simp only [Sem.run_bind, Sem.run_pure, Result.andThen, Result.ok.injEq] at hr ⊢; exact ⟨hr.1, trivial⟩
    · simp [stuck, Sem.run, Result.andThen] at hr
  · unfold Instr.extract at *
    split at hr
    · rename_i vs hx
      rename_i ix _
      cases hy : vs[ix]? with
      | some v => simp only [hy, Sem.run_bind, Sem.run_pure, Result.andThen, Result.ok.injEq] at hr ⊢; exact ⟨hr.1, trivial⟩
      | none => simp [hy, stuck, Sem.run, Result.andThen] at hr
    · simp [stuck, Sem.run, Result.andThen] at hr
  · cases h

/-- What must come before j, so many steps back. -/
def preds (md : Region.Mode) (ops : Array Oper) (j : Nat) : List Nat := ((ops.getD j default).after.toList.filter (Region.binds md ·)).map (·.on)
def ancs (md : Region.Mode) (ops : Array Oper) : Nat → List Nat → List Nat
  | 0, l => l
  | n + 1, l => ancs md ops n ((l ++ l.flatMap (preds md ops)).eraseDups)
def finB (P : Program) (X : List Nat) (md : Region.Mode) (ops : Array Oper) (j : Nat) : Bool :=
  let l := ancs md ops 12 (preds md ops j)
  (List.range ops.size).all fun i => !heavyAt P X ops i || i == j || l.contains i || (ancs md ops 12 (preds md ops i)).contains j

def Closed (md : Region.Mode) (ops : Array Oper) (listed : Array Bool) : Prop :=
  ∀ k, listed.getD k false = true → ∀ p ∈ preds md ops k, listed.getD p false = true

theorem ready_preds {j : Nat} {listed : Array Bool} (h : j ∈ Region.ready md ops listed) : ∀ p ∈ preds md ops j, listed.getD p false = true := by
  obtain ⟨_, o, ho, hall⟩ := mem_ready.1 h
  intro p hp
  unfold preds at hp
  obtain ⟨e, he, rfl⟩ := List.mem_map.1 hp
  obtain ⟨he, hb⟩ := List.mem_filter.1 he
  have : ops.getD j default = o := by simp [Array.getD_eq_getD_getElem?, ho]
  rw [this] at he
  exact hall e (by simpa using he) hb

theorem ancs_listed {listed : Array Bool} (hc : Closed md ops listed) : ∀ (n : Nat) (l : List Nat), (∀ p ∈ l, listed.getD p false = true) → ∀ p ∈ ancs md ops n l, listed.getD p false = true
  | 0, _, h => h
  | n + 1, l, h => ancs_listed hc n _ (fun p hp => by
      have hp' := List.mem_eraseDups.1 hp
      rcases List.mem_append.1 hp' with hp' | hp'
      · exact h p hp'
      · obtain ⟨k, hk, hp''⟩ := List.mem_flatMap.1 hp'
        exact hc k (h k hk) p hp'')

theorem fin_listed {j k : Nat} {listed : Array Bool} (hf : finB P X md ops j = true) (hc : Closed md ops listed) (hj : j ∈ Region.ready md ops listed) (hk : heavyAt P X ops k = true) (hks : k < ops.size) (hne : k ≠ j) (hr : k ∈ Region.ready md ops listed) :
    listed.getD k false = true ∨ listed.getD j false = true := by
  unfold finB at hf
  have := List.all_eq_true.1 hf k (List.mem_range.2 hks)
  simp only [hk, Bool.not_true, Bool.false_or, Bool.or_eq_true, beq_iff_eq, hne, false_or] at this
  rcases this with this | this
  · exact .inl (ancs_listed hc 12 _ (ready_preds hj) k (by simpa using this))
  · exact .inr (ancs_listed hc 12 _ (ready_preds hr) j (by simpa using this))

theorem Closed.set {i : Nat} {listed : Array Bool} (hc : Closed md ops listed) (hi : i ∈ Region.ready md ops listed) : Closed md ops (listed.setIfInBounds i true) := by
  intro k hk p hp
  by_cases hik : i = k
  · subst hik; exact getD_set_true (ready_preds hi p hp)
  · rw [getD_set_ne false hik] at hk
    exact getD_set_true (hc k hk p hp)

/-- In state a, operation o leaves v, and the world, in w0 and in every world that has w0's blocks. -/
def Yl (P : Program) (ops : Array Oper) (w0 : World) (wet : Bool) (o : Oper) (v : Value) (a : Act) : Prop :=
  (Region.wanted o (yielded ops a.tmps) = true ∧ ((∀ w, (execOp a.eval o).run P w = .ok (.value v) w) ∨ (wet = true ∧ ∀ w, Ext w0 w → (execOp a.eval o).run P w = .ok (.value v) w))) ∨
  (Region.wanted o (yielded ops a.tmps) = false ∧ v = undef)

theorem Yl.ext {o : Oper} {v : Value} {a : Act} {w1 : World} (hy : Yl P ops w0 wet o v a) (h : Ext w0 w1) : Yl P ops w1 wet o v a := by
  rcases hy with ⟨h1, h2 | ⟨h3, h4⟩⟩ | h5
  · exact .inl ⟨h1, .inl h2⟩
  · exact .inl ⟨h1, .inr ⟨h3, fun w hw => h4 w (h.trans hw)⟩⟩
  · exact .inr h5
theorem Yl.dry {o : Oper} {v : Value} {a : Act} {w1 : World} (hy : Yl P ops w0 wet o v a) (h : wet = false) : Yl P ops w1 wet o v a := by
  rcases hy with ⟨h1, h2 | ⟨h3, h4⟩⟩ | h5
  · exact .inl ⟨h1, .inl h2⟩
  · rw [h] at h3; cases h3
  · exact .inr h5

theorem Yl.of_same {o : Oper} {v : Value} {a a' : Act} (hy : Yl P ops w0 wet o v a) (he : execOp a'.eval o = execOp a.eval o)
    (hw : Region.wanted o (yielded ops a'.tmps) = Region.wanted o (yielded ops a.tmps)) : Yl P ops w0 wet o v a' := by
  unfold Yl at *
  rw [he, hw]
  exact hy

/-- What an operation's own step must keep. -/
def Keeps (P : Program) (X : List Nat) (md : Region.Mode) (ops : Array Oper) (i : Nat) (w w' : World) : Prop :=
  if calmB P (ops.getD i default).op then w' = w else (finB P X md ops i = true ∨ Ext w w')

def wpAnyC (P : Program) (X : List Nat) (md : Region.Mode) (ops : Array Oper) (Q : Exit → Act → World → Prop) : Nat → Array Bool → Act → World → Prop
  | 0, listed, a, w => Region.ready md ops listed = [] ∧ Q .normal a w
  | f + 1, listed, a, w => (Region.ready md ops listed = [] → Q .normal a w) ∧
      ∀ i ∈ Region.ready md ops listed, wpOp P ops Q i (fun a' w' => Keeps P X md ops i w w' ∧ wpAnyC P X md ops Q f (listed.setIfInBounds i true) a' w') a w

theorem wpAny_of_C : ∀ (f : Nat) (listed : Array Bool) (a : Act) (w : World), wpAnyC P X md ops Q f listed a w → wpAny P md ops Q f listed a w
  | 0, _, _, _, h => h
  | f + 1, _, _, _, h => ⟨h.1, fun i hi => wpOp_mono (fun a' w' h' => wpAny_of_C f _ a' w' h'.2) (h.2 i hi)⟩

theorem Yl.step {i : Nat} {oi : Oper} {v : Value} {a : Act} {w : World} {K : Act → World → Prop} (hi : ops[i]? = some oi) (hy : Yl P ops w wet oi v a)
    (h : K (a.put oi.dst v) w) : wpOp P ops Q i K a w := by
  unfold Go.wpOp
  simp only [hi]
  rcases hy with ⟨h1, h2⟩ | ⟨h1, rfl⟩
  · simp only [h1, if_true]
    refine .inl ?_
    have hr : (execOp a.eval oi).run P w = .ok (.value v) w := by
      rcases h2 with h2 | ⟨hd, h2⟩
      · exact h2 w
      · exact h2 w (Ext.refl w)
    simp only [Oper.wp, hr, Oper.upon]
    exact h
  · simp only [h1, Bool.false_eq_true, if_false]; exact h

/-- oj comes up while oi, apart from it, has not: the same as behind it. -/
theorem wpOp_over {j : Nat} {oi oj : Oper} {v : Value} (hj : ops[j]? = some oj) (hap : oi.apart ops oj = true)
    (hsi : ∀ cs b, oi.op ≠ .select cs b) (hsj : ∀ cs b, oj.op ≠ .select cs b)
    (hQ : ∀ c a w, ¬ Q (.panic c) a w) {K : Act → World → Prop} {a : Act} {w : World}
    (hy : Yl P ops w0 wet oi v a) (h : wpOp P ops Q j K (a.put oi.dst v) w) :
    wpOp P ops Q j (fun a' w' => Yl P ops w0 wet oi v a' ∧ K (a'.put oi.dst v) w') a w := by
  obtain ⟨h1, h2, h3⟩ := Oper.apart_spec hap
  have keep : ∀ (a : Act), Yl P ops w0 wet oi v a → ∀ u, Yl P ops w0 wet oi v (a.put oj.dst u) := fun a hy u =>
    hy.of_same (execOp_put oi hsi a oj.dst u h3) (wanted_put oi a oj.dst u h3)
  have keepD : ∀ d, Yl P ops w0 wet oi v { a with defers := d :: a.defers } := fun d => hy.of_same rfl rfl
  unfold wpOp at *
  simp only [hj] at *
  rw [wanted_put oj a oi.dst v h1] at h
  split
  · rename_i hw
    simp only [hw, if_true] at h
    rcases h with h | ⟨hasks, hlets⟩
    case inr => exact .inr ⟨by unfold Oper.asks at *; rw [execOp_put oj hsj a oi.dst v h1] at hasks; exact hasks, hlets⟩
    refine .inl ?_
    unfold Oper.wp at *
    rw [execOp_put oj hsj a oi.dst v h1] at h
    generalize (execOp a.eval oj).run P w = r at *
    cases r with
    | ok n w' =>
      cases n <;> simp only [Oper.upon] at h ⊢
      case value u => exact ⟨keep a hy u, by rw [← Act.put_comm a v u h2]; exact h⟩
      case skip => exact ⟨keep a hy _, by rw [← Act.put_comm a v undef h2]; exact h⟩
      case defer d =>
        refine ⟨keep _ (keepD d) _, ?_⟩
        rw [← Act.put_comm _ v undef h2, ← Act.put_defers]
        exact h
      case enter f args =>
        refine Calls.mono h fun e w'' he => ?_
        cases e with
        | returned u => exact ⟨keep a hy u, by rw [← Act.put_comm a v u h2]; exact he⟩
        | panicked c => exact (hQ _ _ _ he).elim
        | outgrown => exact he
      case row row args => exact Rows.mono h fun u w'' he => ⟨keep a hy u, by rw [← Act.put_comm a v u h2]; exact he⟩
    | halt x w' =>
      cases x <;> simp only [Oper.upon] at h ⊢
      case panic u => exact (hQ _ _ _ h).elim
  · rename_i hw
    simp only [hw] at h
    exact ⟨keep a hy _, by rw [← Act.put_comm a v undef h2]; exact h⟩

theorem getD_of {i : Nat} {o : Oper} (h : ops[i]? = some o) : ops.getD i default = o := by simp [Array.getD_eq_getD_getElem?, h]

/-- A calm operation that may come up now may be taken first. -/
theorem wpAnyC_first {i : Nat} {oi : Oper} {v : Value} (hi : ops[i]? = some oi) (hcalm : calmB P oi.op = true) (hsel : ∀ (j : Nat) (o : Oper) cs b, ops[j]? = some o → o.op ≠ .select cs b)
    (hQ : ∀ c a w, ¬ Q (.panic c) a w) :
    ∀ (f : Nat) (listed : Array Bool) (a : Act) (w : World), Closed md ops listed → listed.size = ops.size →
      (∀ j oj, ops[j]? = some oj → j ≠ i → listed.getD j true = false → (∀ e ∈ oj.after, Region.binds md e = true → e.on ≠ i) → oi.apart ops oj = true) →
      i ∈ Region.ready md ops listed → Yl P ops w (wetAt X ops i) oi v a →
      wpAnyC P X md ops Q f (listed.setIfInBounds i true) (a.put oi.dst v) w → wpAnyC P X md ops Q (f + 1) listed a w := by
  intro f
  have his : i < ops.size := (Array.getElem?_eq_some_iff.1 hi).1
  have self : ∀ (f : Nat) (listed : Array Bool) (a : Act) (w : World), Yl P ops w (wetAt X ops i) oi v a → wpAnyC P X md ops Q f (listed.setIfInBounds i true) (a.put oi.dst v) w →
      wpOp P ops Q i (fun a' w' => Keeps P X md ops i w w' ∧ wpAnyC P X md ops Q f (listed.setIfInBounds i true) a' w') a w := by
    intro f listed a w hy H
    refine hy.step hi ⟨?_, H⟩
    simp [Keeps, getD_of hi, hcalm]
  induction f with
  | zero =>
    intro listed a w hc hs _ hr hy H
    refine ⟨fun h => (by rw [h] at hr; cases hr), fun j hj => ?_⟩
    by_cases hji : j = i
    · subst hji; exact self 0 listed a w hy H
    · have := ready_mono hj hji
      rw [H.1] at this
      cases this
  | succ f ih =>
    intro listed a w hc hs hfree hr hy H
    refine ⟨fun h => (by rw [h] at hr; cases hr), fun j hj => ?_⟩
    by_cases hji : j = i
    · subst hji; exact self (f + 1) listed a w hy H
    · have h1 := H.2 j (ready_mono hj hji)
      obtain ⟨hjun, oj, hoj, hall⟩ := mem_ready.1 hj
      have hnot : ∀ e ∈ oj.after, Region.binds md e = true → e.on ≠ i := fun e he hb heq => by
        have h1 := hall e he hb
        have h0 := (mem_ready.1 hr).1
        rw [heq] at h1
        have hlt : i < listed.size := by omega
        simp [hlt] at h0 h1
        rw [h0] at h1
        cases h1
      have h2 := wpOp_over hoj (hfree j oj hoj hji hjun hnot) (fun cs b => hsel i oi cs b hi) (fun cs b => hsel j oj cs b hoj) hQ hy h1
      have hfree' : ∀ k ok, ops[k]? = some ok → k ≠ i → (listed.setIfInBounds j true).getD k true = false →
          (∀ e ∈ ok.after, Region.binds md e = true → e.on ≠ i) → oi.apart ops ok = true := fun k ok hk hki hun hno => by
        refine hfree k ok hk hki ?_ hno
        by_cases hjk : j = k
        · subst hjk; exact hjun
        · rw [getD_set_ne true hjk] at hun; exact hun
      refine wpOp_mono (fun a' w' h3 => ⟨h3.2.1, ih (listed.setIfInBounds j true) a' w' (hc.set hj) (by simpa using hs) hfree' (ready_mono hr (Ne.symm hji)) ?_ ?_⟩) h2
      · have hk := h3.2.1
        unfold Keeps at hk
        split at hk
        · subst hk; exact h3.1
        · rcases hk with hk | hk
          · refine h3.1.dry ?_
            cases hd : wetAt X ops i with
            | false => rfl
            | true =>
              have hh : heavyAt P X ops i = true := by simp [heavyAt, getD_of hi, hcalm, hd]
              rcases fin_listed hk hc hj hh his (Ne.symm hji) hr with h4 | h4
              · have h5 := (mem_ready.1 hr).1
                have hlt : i < listed.size := by omega
                simp [hlt] at h4 h5
                rw [h4] at h5
                cases h5
              · have h5 := (mem_ready.1 hj).1
                have hlt : j < listed.size := by rw [hs]; exact (Array.getElem?_eq_some_iff.1 hoj).1
                simp [hlt] at h4 h5
                rw [h4] at h5
                cases h5
          · exact h3.1.ext hk
      · rw [Array.setIfInBounds_comm _ _ hji]
        exact h3.2.2

/-- An order of our choice; where two operations that are not calm may both come up, a way for each. -/
inductive Plan where
  | nil
  | cons (i : Nat) (r : Plan)
  | fork (i : Nat) (p : Plan) (j : Nat) (q : Plan)
def Plan.len : Plan → Nat
  | .nil => 0
  | .cons _ r => r.len + 1
  | .fork _ p _ _ => p.len + 1
def seq : List Nat → Plan → Plan
  | [], r => r
  | i :: is, r => .cons i (seq is r)

/-- The walk in the order that is given. -/
def wpOrd (P : Program) (X : List Nat) (md : Region.Mode) (ops : Array Oper) (Q : Exit → Act → World → Prop) : Plan → Act → World → Prop
  | .nil, a, w => Q .normal a w
  | .cons i rest, a, w => ∃ o, ops[i]? = some o ∧
      if calmB P o.op then ∃ v, Yl P ops w (wetAt X ops i) o v a ∧ wpOrd P X md ops Q rest (a.put o.dst v) w
      else wpOp P ops Q i (fun a' w' => (finB P X md ops i = true ∨ Ext w w') ∧ wpOrd P X md ops Q rest a' w') a w
  | .fork i p j q, a, w =>
      wpOp P ops Q i (fun a' w' => (finB P X md ops i = true ∨ Ext w w') ∧ wpOrd P X md ops Q p a' w') a w ∧
      wpOp P ops Q j (fun a' w' => (finB P X md ops j = true ∨ Ext w w') ∧ wpOrd P X md ops Q q a' w') a w

def orderB (P : Program) (md : Region.Mode) (ops : Array Oper) : Plan → Array Bool → Bool
  | .nil, listed => (Region.ready md ops listed).isEmpty
  | .cons i rest, listed =>
    (if calmB P (ops.getD i default).op then (Region.ready md ops listed).contains i && Region.free md ops listed i else decide (Region.ready md ops listed = [i])) &&
      orderB P md ops rest (listed.setIfInBounds i true)
  | .fork i p j q, listed => !calmB P (ops.getD i default).op && !calmB P (ops.getD j default).op && decide (Region.ready md ops listed = [i, j]) && decide (q.len = p.len) &&
      orderB P md ops p (listed.setIfInBounds i true) && orderB P md ops q (listed.setIfInBounds j true)

theorem wpAnyC_ord (hsel : Region.noSelect ops = true) (hQ : ∀ c a w, ¬ Q (.panic c) a w) : ∀ (l : Plan) (listed : Array Bool) (a : Act) (w : World), Closed md ops listed → listed.size = ops.size →
    orderB P md ops l listed = true → wpOrd P X md ops Q l a w → wpAnyC P X md ops Q l.len listed a w
  | .nil, _, _, _, _, _, hB, h => ⟨by simpa [orderB] using hB, h⟩
  | .cons i l, listed, a, w, hc, hs, hB, h => by
    obtain ⟨o, ho, h⟩ := h
    simp only [orderB, Bool.and_eq_true, getD_of ho] at hB
    obtain ⟨hr, hB⟩ := hB
    by_cases hcalm : calmB P o.op = true
    · simp only [hcalm, if_true, Bool.and_eq_true] at hr h
      obtain ⟨hr, hf⟩ := hr
      obtain ⟨v, hy, h⟩ := h
      have hr' : i ∈ Region.ready md ops listed := by simpa using hr
      exact wpAnyC_first ho hcalm (Region.noSelect_spec hsel) hQ l.len listed a w hc hs (Region.free_spec ho hf) hr' hy
        (wpAnyC_ord hsel hQ l _ _ _ (hc.set hr') (by simpa using hs) hB h)
    · simp only [hcalm, Bool.false_eq_true, if_false, decide_eq_true_eq] at hr h
      refine ⟨fun h0 => (by rw [hr] at h0; cases h0), fun j hj => ?_⟩
      have hj' := hj
      rw [hr] at hj
      have hji : j = i := by simpa using hj
      subst hji
      refine wpOp_mono (fun a' w' h' => ⟨by simp only [Keeps, getD_of ho, hcalm, Bool.false_eq_true, if_false]; exact h'.1, ?_⟩) h
      exact wpAnyC_ord hsel hQ l _ a' w' (hc.set hj') (by simpa using hs) hB h'.2
  | .fork i p j q, listed, a, w, hc, hs, hB, h => by
    simp only [orderB, Bool.and_eq_true, Bool.not_eq_true', decide_eq_true_eq] at hB
    obtain ⟨⟨⟨⟨⟨hci, hcj⟩, hr⟩, hl⟩, hBp⟩, hBq⟩ := hB
    refine ⟨fun h0 => (by rw [hr] at h0; cases h0), fun k hk => ?_⟩
    have hk' := hk
    rw [hr] at hk
    have hkk : k = i ∨ k = j := by simpa using hk
    rcases hkk with rfl | rfl
    · refine wpOp_mono (fun a' w' h' => ⟨by simp only [Keeps, hci, Bool.false_eq_true, if_false]; exact h'.1, ?_⟩) h.1
      exact wpAnyC_ord hsel hQ p _ a' w' (hc.set hk') (by simpa using hs) hBp h'.2
    · refine wpOp_mono (fun a' w' h' => ⟨by simp only [Keeps, hcj, Bool.false_eq_true, if_false]; exact h'.1, ?_⟩) h.2
      have := wpAnyC_ord hsel hQ q _ a' w' (hc.set hk') (by simpa using hs) hBq h'.2
      rw [hl] at this
      exact this

/-- Only the plain end counts. -/
def Only (Q : Exit → Act → World → Prop) : Exit → Act → World → Prop := fun e a w => e = .normal ∧ Q .normal a w

theorem wp_region_ord {id : Nat} {a : Act} {w : World} {l : List Oper} (ord : Plan) (hm : P.follows .mixedOrders = true)
    (hB : (Region.noSelect l.toArray && decide (ord.len = l.length) && orderB P .any l.toArray ord (Array.replicate l.toArray.size false)) = true)
    (h : wpOrd P X .any l.toArray (Only Q) ord a w.drew) : (Code.region id l.toArray true).wp P Q a w := by
  simp only [Bool.and_eq_true, decide_eq_true_eq] at hB
  obtain ⟨⟨hsel, hlen⟩, hB⟩ := hB
  refine Code.wp_mono (Q := Only Q) (fun e a w ⟨he, hq⟩ => by subst he; exact hq) (wp_region_any hm ?_)
  have H := wpAnyC_ord (Q := Only Q) (md := .any) hsel (fun c a w hc => by cases hc.1) ord (Array.replicate l.toArray.size false) a w.drew
    (fun k hk => by simp [Array.getD_eq_getD_getElem?, Array.getElem?_replicate] at hk; split at hk <;> simp at hk) (by simp) hB h
  have := wpAny_of_C _ _ _ _ H
  rw [hlen] at this
  simpa using this

/-! The words that a walk uses. -/

theorem wpList_up {w0 : World} {R : Act → World → Prop} : ∀ (l : List Oper) (a : Act) (w : World), l.all (fun o => calmB P o.op) = true →
    wpList P ops (fun e a' w' => e = .normal ∧ w' = w0 ∧ R a' w') l a w → w.heap.size ≤ w0.heap.size ∧ w.drawn ≤ w0.drawn
  | [], a, w, _, h => by obtain ⟨_, rfl, _⟩ := h; exact ⟨Nat.le_refl _, Nat.le_refl _⟩
  | o :: l, a, w, hl, h => by
    simp only [List.all_cons, Bool.and_eq_true] at hl
    unfold wpList at h
    split at h
    · rcases h with h | ⟨_, hlo⟩
      · obtain ⟨hn, hv⟩ := calm_nowr hl.1 a.eval
        unfold Oper.wp at h
        generalize hr : (execOp a.eval o).run P w = r at h
        cases r with
        | ok n u =>
          obtain ⟨v, rfl⟩ := hv hr
          have h1 := hn.up hr
          have h2 := wpList_up l _ _ hl.2 h
          omega
        | halt x u =>
          cases x <;> simp only [Oper.upon] at h
          cases h.1
      · obtain ⟨_, _, hq⟩ := hlo
        cases hq.1
    · exact wpList_up l _ _ hl.2 h

/-- A stretch of calm operations, walked as a list. -/
theorem ord_seg {R : Plan} : ∀ (is : List Nat) (l : List Oper) (a : Act) (w : World), (∀ j : Nat, l[j]? = (is[j]?).bind (fun i => ops[i]?)) → is.length = l.length → l.all (fun o => calmB P o.op) = true → is.all (fun i => !X.contains i) = true →
    wpList P ops (fun e a' w' => e = .normal ∧ w' = w ∧ wpOrd P X md ops Q R a' w') l a w → wpOrd P X md ops Q (seq is R) a w
  | [], [], _, _, _, _, _, _, h => h.2.2
  | i :: is, o :: l, a, w, hl, hlen, hc, hX, h => by
    have ho : ops[i]? = some o := by simpa using (hl 0).symm
    have hlt : ∀ j : Nat, l[j]? = (is[j]?).bind (fun i => ops[i]?) := fun j => by simpa using hl (j + 1)
    simp only [List.all_cons, Bool.and_eq_true] at hc hX
    refine ⟨o, ho, ?_⟩
    rw [if_pos hc.1]
    unfold wpList at h
    split at h
    · rename_i hwant
      rcases h with h | ⟨_, hlo⟩
      · obtain ⟨hn, hv⟩ := calm_nowr hc.1 a.eval
        unfold Oper.wp at h
        generalize hr : (execOp a.eval o).run P w = r at h
        cases r with
        | ok n u =>
          obtain ⟨v, rfl⟩ := hv hr
          have h1 := hn.up hr
          have h2 := wpList_up l _ _ hc.2 h
          have huw : u = w := h1.2.2 h2.1 h2.2
          subst huw
          refine ⟨v, .inl ⟨hwant, ?_⟩, ord_seg is l _ _ hlt (by simpa using hlen) hc.2 hX.2 h⟩
          cases hd : dryB o.op with
          | true => exact .inl fun w' => dry_same hd _ hr
          | false => exact .inr ⟨by simp only [wetAt, getD_of ho, hd, hX.1, Bool.not_false, Bool.and_self], fun w' hw' => hn.same hr hw'⟩
        | halt x u =>
          cases x <;> simp only [Oper.upon] at h
          cases h.1
      · obtain ⟨_, _, hq⟩ := hlo
        cases hq.1
    · rename_i hwant
      exact ⟨undef, .inr ⟨by simpa using hwant, rfl⟩, ord_seg is l _ _ hlt (by simpa using hlen) hc.2 hX.2 h⟩
  | [], _ :: _, _, _, _, hlen, _, _, _ => by simp at hlen
  | _ :: _, [], _, _, _, hlen, _, _, _ => by simp at hlen

/-- An operation of which the walk knows that it does not look at the world. -/
theorem ord_dry {R : Plan} {i : Nat} {o : Oper} {a : Act} {w : World} (v : Value) (ho : ops[i]? = some o) (hc : calmB P o.op = true) (hw : Region.wanted o (yielded ops a.tmps) = true) (hr : ∀ w', (execOp a.eval o).run P w' = .ok (.value v) w')
    (h : wpOrd P X md ops Q R (a.put o.dst v) w) : wpOrd P X md ops Q (.cons i R) a w := by
  refine ⟨o, ho, ?_⟩
  rw [if_pos hc]
  exact ⟨v, .inl ⟨hw, .inl hr⟩, h⟩

theorem wpOp_one {i : Nat} {o : Oper} {a : Act} {w : World} {K : Act → World → Prop} (ho : ops[i]? = some o)
    (h : wpList P ops (fun e a' w' => e = .normal ∧ K a' w') [o] a w) : wpOp P ops (Only Q) i K a w := by
  unfold wpList at h
  unfold wpOp
  simp only [ho]
  split at h
  · rename_i hw
    rw [if_pos hw]
    rcases h with h | ⟨_, hlo⟩
    · refine .inl ?_
      unfold Oper.wp at *
      generalize (execOp a.eval o).run P w = r at *
      cases r with
      | ok n u =>
        cases n <;> simp only [Oper.upon] at h ⊢ <;> first
          | exact h.2
          | exact Calls.mono h (fun e w'' he => by
              cases e with
              | returned v => exact he.2
              | panicked c => cases he.1
              | outgrown => obtain ⟨_, _, hq⟩ := he; cases hq.1)
          | exact Rows.mono h (fun _ _ he => he.2)
      | halt x u =>
        cases x <;> simp only [Oper.upon] at h ⊢
        cases h.1
    · obtain ⟨_, _, hq⟩ := hlo
      cases hq.1
  · rename_i hw
    rw [if_neg hw]
    exact h.2

/-- An operation that is not calm: a call, a store, an append; walked as a list of one. -/
theorem ord_one {i : Nat} {is : Plan} {o : Oper} {a : Act} {w : World} (ho : ops[i]? = some o) (hc : calmB P o.op = false)
    (h : wpList P ops (fun e a' w' => e = .normal ∧ (finB P X md ops i = true ∨ Ext w w') ∧ wpOrd P X md ops (Only Q) is a' w') [o] a w) : wpOrd P X md ops (Only Q) (.cons i is) a w := by
  refine ⟨o, ho, ?_⟩
  rw [if_neg (by simp [hc])]
  exact wpOp_one ho h

/-- Two that are not calm, either of which may come up. -/
theorem ord_two {i j : Nat} {p q : Plan} {o o' : Oper} {a : Act} {w : World} (ho : ops[i]? = some o) (ho' : ops[j]? = some o')
    (h : wpList P ops (fun e a' w' => e = .normal ∧ (finB P X md ops i = true ∨ Ext w w') ∧ wpOrd P X md ops (Only Q) p a' w') [o] a w)
    (h' : wpList P ops (fun e a' w' => e = .normal ∧ (finB P X md ops j = true ∨ Ext w w') ∧ wpOrd P X md ops (Only Q) q a' w') [o'] a w) : wpOrd P X md ops (Only Q) (.fork i p j q) a w :=
  ⟨wpOp_one ho h, wpOp_one ho' h'⟩

/-- The end: from here on each operation is dry, or final; walked as a list. -/
theorem ord_tail : ∀ (is : List Nat) (l : List Oper) (a : Act) (w : World), (∀ j : Nat, l[j]? = (is[j]?).bind (fun i => ops[i]?)) → is.length = l.length →
    is.all (fun i => match ops[i]? with | some o => dryB o.op || (!calmB P o.op && finB P X md ops i) | none => false) = true →
    wpList P ops (fun e a' w' => e = .normal ∧ Q .normal a' w') l a w → wpOrd P X md ops (Only Q) (seq is .nil) a w
  | [], [], _, _, _, _, _, h => h
  | i :: is, o :: l, a, w, hl, hlen, hB, h => by
    have ho : ops[i]? = some o := by simpa using (hl 0).symm
    have hlt : ∀ j : Nat, l[j]? = (is[j]?).bind (fun i => ops[i]?) := fun j => by simpa using hl (j + 1)
    simp only [List.all_cons, Bool.and_eq_true, ho] at hB
    obtain ⟨hB1, hB2⟩ := hB
    by_cases hc : calmB P o.op = true
    · have hd : dryB o.op = true := by simpa [hc] using hB1
      refine ⟨o, ho, ?_⟩
      rw [if_pos hc]
      unfold wpList at h
      split at h
      · rename_i hwant
        rcases h with h | ⟨_, hlo⟩
        · obtain ⟨hn, hv⟩ := calm_nowr hc a.eval
          unfold Oper.wp at h
          generalize hr : (execOp a.eval o).run P w = r at h
          cases r with
          | ok n u =>
            obtain ⟨v, rfl⟩ := hv hr
            have huw : u = w := by
              obtain ⟨dst, op, type, pos, after, guard⟩ := o
              unfold dryB at hd
              dsimp only at hd
              split at hd <;> simp only [execOp] at hr
              · simp only [Sem.run_pure, Result.ok.injEq] at hr; exact hr.2.symm
              · simp only [Sem.run_pure, Result.ok.injEq] at hr; exact hr.2.symm
              · unfold asBool at hr
                split at hr
                · simp only [Sem.run_bind, Sem.run_pure, Result.andThen, Result.ok.injEq] at hr; exact hr.2.symm
                · simp [stuck, Sem.run, Result.andThen] at hr
              · unfold Instr.extract at hr
                split at hr
                · split at hr
                  · simp only [Sem.run_bind, Sem.run_pure, Result.andThen, Result.ok.injEq] at hr; exact hr.2.symm
                  · simp [stuck, Sem.run, Result.andThen] at hr
                · simp [stuck, Sem.run, Result.andThen] at hr
              · cases hd
            subst huw
            exact ⟨v, .inl ⟨hwant, .inl fun w' => dry_same hd _ hr⟩, ord_tail is l _ _ hlt (by simpa using hlen) hB2 h⟩
          | halt x u =>
            cases x <;> simp only [Oper.upon] at h
            cases h.1
        · obtain ⟨_, _, hq⟩ := hlo
          cases hq.1
      · rename_i hwant
        exact ⟨undef, .inr ⟨by simpa using hwant, rfl⟩, ord_tail is l _ _ hlt (by simpa using hlen) hB2 h⟩
    · have hf : dryB o.op = false := by
        cases hd : dryB o.op with
        | false => rfl
        | true =>
          exfalso; apply hc
          unfold dryB at hd
          split at hd <;> first | (rename_i he; rw [he]; rfl) | cases hd
      simp only [hf, Bool.false_or, Bool.and_eq_true] at hB1
      refine ord_one ho (by simpa using hc) ?_
      have : wpList P ops (fun e a' w' => e = .normal ∧ Q .normal a' w') (o :: l) a w → wpList P ops (fun e a' w' => e = .normal ∧ (finB P X md ops i = true ∨ Ext w w') ∧ wpOrd P X md ops (Only Q) (seq is .nil) a' w') [o] a w := by
        intro h
        unfold wpList at h ⊢
        have key : ∀ a' w', wpList P ops (fun e a' w' => e = .normal ∧ Q .normal a' w') l a' w' → wpList P ops (fun e a' w' => e = .normal ∧ (finB P X md ops i = true ∨ Ext w w') ∧ wpOrd P X md ops (Only Q) (seq is .nil) a' w') [] a' w' :=
          fun a' w' h' => ⟨rfl, .inl hB1.2, ord_tail is l a' w' hlt (by simpa using hlen) hB2 h'⟩
        split at h
        · rename_i hw
          rw [if_pos hw]
          rcases h with h | ⟨_, hlo⟩
          · refine .inl ?_
            unfold Oper.wp at *
            generalize (execOp a.eval o).run P w = r at *
            cases r with
            | ok n u =>
              cases n <;> simp only [Oper.upon] at h ⊢ <;> first
                | exact key _ _ h
                | exact Calls.mono h (fun e w'' he => by
                    cases e with
                    | returned v => exact key _ _ he
                    | panicked c => cases he.1
                    | outgrown => obtain ⟨_, _, hq⟩ := he; cases hq.1)
                | exact Rows.mono h (fun _ _ he => key _ _ he)
            | halt x u =>
              cases x <;> simp only [Oper.upon] at h ⊢
              cases h.1
          · obtain ⟨_, _, hq⟩ := hlo
            cases hq.1
        · rename_i hw
          rw [if_neg hw]
          exact key _ _ h
      exact this h
  | [], _ :: _, _, _, _, hlen, _, _ => by simp at hlen
  | _ :: _, [], _, _, _, hlen, _, _ => by simp at hlen
end
end Go.Ord

set_option linter.unusedSimpArgs false
set_option linter.unusedVariables false
namespace Go.Ord
section
variable {P : Program} {X : List Nat} {Q : Exit → Act → World → Prop} {l : List Oper}

@[simp, go_sem] theorem drew_heap (w : World) : w.drew.heap = w.heap := rfl
@[simp, go_sem] theorem ext_self (w : World) : Ext w w = True := eq_true (Ext.refl w)

def pick (l : List Oper) (is : List Nat) : List Oper := is.map fun i => l.getD i default

theorem pick_at {is : List Nat} (h : is.all (fun i => decide (i < l.length)) = true) (j : Nat) : (pick l is)[j]? = (is[j]?).bind (fun i => l.toArray[i]?) := by
  unfold pick
  rw [List.getElem?_map]
  cases hj : is[j]? with
  | none => rfl
  | some i =>
    have hi : i < l.length := by simpa using List.all_eq_true.1 h i (List.mem_of_getElem? hj)
    simp [List.getD_eq_getElem?_getD, hi]

def inB (l : List Oper) (is : List Nat) : Bool := is.all (fun i => decide (i < l.length))
def headB (P : Program) (X : List Nat) (l : List Oper) (is : List Nat) : Bool := inB l is && (pick l is).all (fun o => calmB P o.op) && is.all (fun i => !X.contains i)
def tailB (P : Program) (X : List Nat) (l : List Oper) (is : List Nat) : Bool :=
  inB l is && is.all (fun i => match l.toArray[i]? with | some o => dryB o.op || (!calmB P o.op && finB P X .any l.toArray i) | none => false)
def wholeB (P : Program) (l : List Oper) (ord : Plan) : Bool :=
  Region.noSelect l.toArray && decide (ord.len = l.length) && orderB P .any l.toArray ord (Array.replicate l.toArray.size false)

theorem wpList_mono' {ops : Array Oper} {Q Q' : Exit → Act → World → Prop} (hq : ∀ e a w, Q e a w → Q' e a w) : ∀ (l : List Oper) (a : Act) (w : World), wpList P ops Q l a w → wpList P ops Q' l a w
  | [], a, w, h => hq _ _ _ h
  | o :: l, a, w, h => by
    have lo : LetsOut Q → LetsOut Q' := fun ⟨a, w, h⟩ => ⟨a, w, hq _ _ _ h⟩
    unfold wpList at h ⊢
    split at h
    · rename_i hw
      rw [if_pos hw]
      rcases h with h | ⟨h1, h2⟩
      · refine .inl ?_
        unfold Oper.wp at *
        generalize (execOp a.eval o).run P w = r at *
        cases r with
        | ok n u =>
          cases n <;> simp only [Oper.upon] at h ⊢ <;> first
            | exact wpList_mono' hq l _ _ h
            | exact Calls.mono h (fun e w'' he => by
                cases e with
                | returned v => exact wpList_mono' hq l _ _ he
                | panicked c => exact hq _ _ _ he
                | outgrown => exact lo he)
            | exact Rows.mono h (fun _ _ he => wpList_mono' hq l _ _ he)
        | halt x u => cases x <;> simp only [Oper.upon] at h ⊢; exact hq _ _ _ h
      · exact .inr ⟨h1, lo h2⟩
    · rename_i hw
      rw [if_neg hw]
      exact wpList_mono' hq l _ _ h

/-- A head of calm operations, a tail of final ones. -/
theorem region_two {id : Nat} {a : Act} {w : World} (hd tl : List Nat) (hm : P.follows .mixedOrders = true) (hB : (wholeB P l (seq hd (seq tl .nil)) && headB P [] l hd && tailB P [] l tl) = true)
    (h : wpList P l.toArray (fun e a' w' => e = .normal ∧ w' = w.drew ∧ wpList P l.toArray (fun e a' w' => e = .normal ∧ Q .normal a' w') (pick l tl) a' w') (pick l hd) a w.drew) :
    (Code.region id l.toArray true).wp P Q a w := by
  simp only [Bool.and_eq_true, headB, tailB] at hB
  obtain ⟨⟨hB, ⟨h1, h2⟩, h2'⟩, h3, h4⟩ := hB
  refine wp_region_ord (X := []) (seq hd (seq tl .nil)) hm hB ?_
  refine ord_seg (X := []) (R := seq tl .nil) hd (pick l hd) a w.drew (pick_at h1) (by simp [pick]) h2 h2' ?_
  refine wpList_mono' (fun e a' w' hq => ⟨hq.1, hq.2.1, ?_⟩) _ _ _ h
  exact ord_tail tl (pick l tl) a' w' (pick_at h3) (by simp [pick]) h4 hq.2.2

/-- The first stretch, where calls lie between: then 'ord_call', 'ord_more', 'ord_last'. X: the operations that the walk will show to be blind ('ord_blind'). -/
theorem region_firstX {id : Nat} {a : Act} {w : World} (X : List Nat) (hd : List Nat) (tl : Plan) (hm : P.follows .mixedOrders = true) (hB : (wholeB P l (seq hd tl) && headB P X l hd) = true)
    (h : wpList P l.toArray (fun e a' w' => e = .normal ∧ w' = w.drew ∧ wpOrd P X .any l.toArray (Only Q) tl a' w') (pick l hd) a w.drew) :
    (Code.region id l.toArray true).wp P Q a w := by
  simp only [Bool.and_eq_true, headB] at hB
  obtain ⟨hB, ⟨h1, h2⟩, h3⟩ := hB
  refine wp_region_ord (X := X) (seq hd tl) hm hB ?_
  exact ord_seg (R := tl) hd (pick l hd) a w.drew (pick_at h1) (by simp [pick]) h2 h3 h
theorem region_first {id : Nat} {a : Act} {w : World} (hd : List Nat) (tl : Plan) (hm : P.follows .mixedOrders = true) (hB : (wholeB P l (seq hd tl) && headB P [] l hd) = true)
    (h : wpList P l.toArray (fun e a' w' => e = .normal ∧ w' = w.drew ∧ wpOrd P [] .any l.toArray (Only Q) tl a' w') (pick l hd) a w.drew) :
    (Code.region id l.toArray true).wp P Q a w := region_firstX [] hd tl hm hB h

/-- An operation that does not look at the world, by the values that it is given. -/
theorem ord_blind {i : Nat} {is : Plan} {a : Act} {w : World} (v : Value) (hB : (inB l [i] && calmB P (l.getD i default).op && Region.wanted (l.getD i default) (yielded l.toArray a.tmps)) = true)
    (hr : ∀ w', (execOp a.eval (l.getD i default)).run P w' = .ok (.value v) w') (h : wpOrd P X .any l.toArray (Only Q) is (a.put (l.getD i default).dst v) w) : wpOrd P X .any l.toArray (Only Q) (.cons i is) a w := by
  simp only [Bool.and_eq_true] at hB
  have hi : l.toArray[i]? = some (l.getD i default) := by
    have := pick_at hB.1.1 0
    simpa [pick] using this.symm
  exact ord_dry v hi hB.1.2 hB.2 hr h

/-- One operation that is not calm and leaves the blocks that are there alone. -/
theorem ord_call {i : Nat} {is : Plan} {a : Act} {w : World} (hB : (inB l [i] && !calmB P (l.getD i default).op) = true)
    (h : wpList P l.toArray (fun e a' w' => e = .normal ∧ Ext w w' ∧ wpOrd P X .any l.toArray (Only Q) is a' w') (pick l [i]) a w) : wpOrd P X .any l.toArray (Only Q) (.cons i is) a w := by
  simp only [Bool.and_eq_true, Bool.not_eq_true'] at hB
  have hi : l.toArray[i]? = some (l.getD i default) := by
    have := pick_at hB.1 0
    simpa [pick] using this.symm
  exact ord_one hi hB.2 (wpList_mono' (fun e a' w' hq => ⟨hq.1, .inr hq.2.1, hq.2.2⟩) _ _ _ h)

/-- One operation that is not calm and before or behind which all that look at the world must come (a store of an assignment of several): it may write what it will. -/
theorem ord_fin {i : Nat} {is : Plan} {a : Act} {w : World} (hB : (inB l [i] && !calmB P (l.getD i default).op && finB P X .any l.toArray i) = true)
    (h : wpList P l.toArray (fun e a' w' => e = .normal ∧ wpOrd P X .any l.toArray (Only Q) is a' w') (pick l [i]) a w) : wpOrd P X .any l.toArray (Only Q) (.cons i is) a w := by
  simp only [Bool.and_eq_true, Bool.not_eq_true'] at hB
  have hi : l.toArray[i]? = some (l.getD i default) := by
    have := pick_at hB.1.1 0
    simpa [pick] using this.symm
  exact ord_one hi hB.1.2 (wpList_mono' (fun e a' w' hq => ⟨hq.1, .inl hB.2, hq.2⟩) _ _ _ h)

/-- Two operations that are not calm, in either order; each leaves the blocks that are there alone. -/
theorem ord_fork {i j : Nat} {p q : Plan} {a : Act} {w : World} (hB : (inB l [i] && inB l [j]) = true)
    (h : wpList P l.toArray (fun e a' w' => e = .normal ∧ Ext w w' ∧ wpOrd P X .any l.toArray (Only Q) p a' w') (pick l [i]) a w)
    (h' : wpList P l.toArray (fun e a' w' => e = .normal ∧ Ext w w' ∧ wpOrd P X .any l.toArray (Only Q) q a' w') (pick l [j]) a w) : wpOrd P X .any l.toArray (Only Q) (.fork i p j q) a w := by
  simp only [Bool.and_eq_true] at hB
  have hi : l.toArray[i]? = some (l.getD i default) := by
    have := pick_at hB.1 0
    simpa [pick] using this.symm
  have hj : l.toArray[j]? = some (l.getD j default) := by
    have := pick_at hB.2 0
    simpa [pick] using this.symm
  exact ord_two hi hj (wpList_mono' (fun e a' w' hq => ⟨hq.1, .inr hq.2.1, hq.2.2⟩) _ _ _ h) (wpList_mono' (fun e a' w' hq => ⟨hq.1, .inr hq.2.1, hq.2.2⟩) _ _ _ h')

/-- A further stretch of calm ones. -/
theorem ord_more {a : Act} {w : World} (hd : List Nat) (tl : Plan) (hB : headB P X l hd = true)
    (h : wpList P l.toArray (fun e a' w' => e = .normal ∧ w' = w ∧ wpOrd P X .any l.toArray (Only Q) tl a' w') (pick l hd) a w) : wpOrd P X .any l.toArray (Only Q) (seq hd tl) a w := by
  simp only [Bool.and_eq_true, headB] at hB
  exact ord_seg (R := tl) hd (pick l hd) a w (pick_at hB.1.1) (by simp [pick]) hB.1.2 hB.2 h

/-- The tail. -/
theorem ord_last {a : Act} {w : World} (tl : List Nat) (hB : tailB P X l tl = true)
    (h : wpList P l.toArray (fun e a' w' => e = .normal ∧ Q .normal a' w') (pick l tl) a w) : wpOrd P X .any l.toArray (Only Q) (seq tl .nil) a w := by
  simp only [Bool.and_eq_true, tailB] at hB
  exact ord_tail tl (pick l tl) a w (pick_at hB.1) (by simp [pick]) hB.2 h
theorem ord_done {ops : Array Oper} {md : Region.Mode} {a : Act} {w : World} (h : Q .normal a w) : wpOrd P X md ops (Only Q) .nil a w := ⟨rfl, h⟩
end
end Go.Ord
