/- The words by which a walk goes through a region that draws its order. No statement of the seat is proved here; no condition. -/
import Derived.Test.YtjihopbapnfppaaDoorOrd3
set_option linter.unusedSimpArgs false
set_option linter.unusedVariables false
namespace Go.Ord
section
variable {P : Program} {X : List Nat} {Q : Exit → Act → World → Prop} {l : List Oper}

@[simp, go_sem] theorem drew_heap (w : World) : w.drew.heap = w.heap := rfl
@[simp, go_sem] theorem ext_self (w : World) : Ext w w = True := eq_true (Ext.refl w)

def pick (l : List Oper) (is : List Nat) : List Oper := is.map fun i => l.getD i default

theorem pick_at {is : List Nat} (h : is.all (fun i => decide (i < l.length)) = true) (j : Nat) : (pick l is)[j]? = (is[j]?).bind (fun i => l.toArray[i]?) := by
  unfold pick
  rw [List.getElem?_map]
  cases hj : is[j]? with
  | none => rfl
  | some i =>
    have hi : i < l.length := by simpa using List.all_eq_true.1 h i (List.mem_of_getElem? hj)
    simp [List.getD_eq_getElem?_getD, hi]

def inB (l : List Oper) (is : List Nat) : Bool := is.all (fun i => decide (i < l.length))
def headB (P : Program) (X : List Nat) (l : List Oper) (is : List Nat) : Bool := inB l is && (pick l is).all (fun o => calmB P o.op) && is.all (fun i => !X.contains i)
def tailB (P : Program) (X : List Nat) (l : List Oper) (is : List Nat) : Bool :=
  inB l is && is.all (fun i => match l.toArray[i]? with | some o => dryB o.op || (!calmB P o.op && finB P X .any l.toArray i) | none => false)
def wholeB (P : Program) (l : List Oper) (ord : Plan) : Bool :=
  Region.noSelect l.toArray && decide (ord.len = l.length) && orderB P .any l.toArray ord (Array.replicate l.toArray.size false)

theorem wpList_mono' {ops : Array Oper} {Q Q' : Exit → Act → World → Prop} (hq : ∀ e a w, Q e a w → Q' e a w) : ∀ (l : List Oper) (a : Act) (w : World), wpList P ops Q l a w → wpList P ops Q' l a w
  | [], a, w, h => hq _ _ _ h
  | o :: l, a, w, h => by
    have lo : LetsOut Q → LetsOut Q' := fun ⟨a, w, h⟩ => ⟨a, w, hq _ _ _ h⟩
    unfold wpList at h ⊢
    split at h
    · rename_i hw
      rw [if_pos hw]
      rcases h with h | ⟨h1, h2⟩
      · refine .inl ?_
        unfold Oper.wp at *
        generalize (execOp a.eval o).run P w = r at *
        cases r with
        | ok n u =>
          cases n <;> simp only [Oper.upon] at h ⊢ <;> first
            | exact wpList_mono' hq l _ _ h
            | exact Calls.mono h (fun e w'' he => by
                cases e with
                | returned v => exact wpList_mono' hq l _ _ he
                | panicked c => exact hq _ _ _ he
                | outgrown => exact lo he)
            | exact Rows.mono h (fun _ _ he => wpList_mono' hq l _ _ he)
        | halt x u => cases x <;> simp only [Oper.upon] at h ⊢; exact hq _ _ _ h
      · exact .inr ⟨h1, lo h2⟩
    · rename_i hw
      rw [if_neg hw]
      exact wpList_mono' hq l _ _ h

/-- A head of calm operations, a tail of final ones. -/
theorem region_two {id : Nat} {a : Act} {w : World} (hd tl : List Nat) (hm : P.follows .mixedOrders = true) (hB : (wholeB P l (seq hd (seq tl .nil)) && headB P [] l hd && tailB P [] l tl) = true)
    (h : wpList P l.toArray (fun e a' w' => e = .normal ∧ w' = w.drew ∧ wpList P l.toArray (fun e a' w' => e = .normal ∧ Q .normal a' w') (pick l tl) a' w') (pick l hd) a w.drew) :
    (Code.region id l.toArray true).wp P Q a w := by
  simp only [Bool.and_eq_true, headB, tailB] at hB
  obtain ⟨⟨hB, ⟨h1, h2⟩, h2'⟩, h3, h4⟩ := hB
  refine wp_region_ord (X := []) (seq hd (seq tl .nil)) hm hB ?_
  refine ord_seg (X := []) (R := seq tl .nil) hd (pick l hd) a w.drew (pick_at h1) (by simp [pick]) h2 h2' ?_
  refine wpList_mono' (fun e a' w' hq => ⟨hq.1, hq.2.1, ?_⟩) _ _ _ h
  exact ord_tail tl (pick l tl) a' w' (pick_at h3) (by simp [pick]) h4 hq.2.2

/-- The first stretch, where calls lie between: then 'ord_call', 'ord_more', 'ord_last'. X: the operations that the walk will show to be blind ('ord_blind'). -/
theorem region_firstX {id : Nat} {a : Act} {w : World} (X : List Nat) (hd : List Nat) (tl : Plan) (hm : P.follows .mixedOrders = true) (hB : (wholeB P l (seq hd tl) && headB P X l hd) = true)
    (h : wpList P l.toArray (fun e a' w' => e = .normal ∧ w' = w.drew ∧ wpOrd P X .any l.toArray (Only Q) tl a' w') (pick l hd) a w.drew) :
    (Code.region id l.toArray true).wp P Q a w := by
  simp only [Bool.and_eq_true, headB] at hB
  obtain ⟨hB, ⟨h1, h2⟩, h3⟩ := hB
  refine wp_region_ord (X := X) (seq hd tl) hm hB ?_
  exact ord_seg (R := tl) hd (pick l hd) a w.drew (pick_at h1) (by simp [pick]) h2 h3 h
theorem region_first {id : Nat} {a : Act} {w : World} (hd : List Nat) (tl : Plan) (hm : P.follows .mixedOrders = true) (hB : (wholeB P l (seq hd tl) && headB P [] l hd) = true)
    (h : wpList P l.toArray (fun e a' w' => e = .normal ∧ w' = w.drew ∧ wpOrd P [] .any l.toArray (Only Q) tl a' w') (pick l hd) a w.drew) :
    (Code.region id l.toArray true).wp P Q a w := region_firstX [] hd tl hm hB h

/-- An operation that does not look at the world, by the values that it is given. -/
theorem ord_blind {i : Nat} {is : Plan} {a : Act} {w : World} (v : Value) (hB : (inB l [i] && calmB P (l.getD i default).op && Region.wanted (l.getD i default) (yielded l.toArray a.tmps)) = true)
    (hr : ∀ w', (execOp a.eval (l.getD i default)).run P w' = .ok (.value v) w') (h : wpOrd P X .any l.toArray (Only Q) is (a.put (l.getD i default).dst v) w) : wpOrd P X .any l.toArray (Only Q) (.cons i is) a w := by
  simp only [Bool.and_eq_true] at hB
  have hi : l.toArray[i]? = some (l.getD i default) := by
    have := pick_at hB.1.1 0
    simpa [pick] using this.symm
  exact ord_dry v hi hB.1.2 hB.2 hr h

/-- One operation that is not calm and leaves the blocks that are there alone. -/
theorem ord_call {i : Nat} {is : Plan} {a : Act} {w : World} (hB : (inB l [i] && !calmB P (l.getD i default).op) = true)
    (h : wpList P l.toArray (fun e a' w' => e = .normal ∧ Ext w w' ∧ wpOrd P X .any l.toArray (Only Q) is a' w') (pick l [i]) a w) : wpOrd P X .any l.toArray (Only Q) (.cons i is) a w := by
  simp only [Bool.and_eq_true, Bool.not_eq_true'] at hB
  have hi : l.toArray[i]? = some (l.getD i default) := by
    have := pick_at hB.1 0
    simpa [pick] using this.symm
  exact ord_one hi hB.2 (wpList_mono' (fun e a' w' hq => ⟨hq.1, .inr hq.2.1, hq.2.2⟩) _ _ _ h)

/-- One operation that is not calm and before or behind which all that look at the world must come (a store of an assignment of several): it may write what it will. -/
theorem ord_fin {i : Nat} {is : Plan} {a : Act} {w : World} (hB : (inB l [i] && !calmB P (l.getD i default).op && finB P X .any l.toArray i) = true)
    (h : wpList P l.toArray (fun e a' w' => e = .normal ∧ wpOrd P X .any l.toArray (Only Q) is a' w') (pick l [i]) a w) : wpOrd P X .any l.toArray (Only Q) (.cons i is) a w := by
  simp only [Bool.and_eq_true, Bool.not_eq_true'] at hB
  have hi : l.toArray[i]? = some (l.getD i default) := by
    have := pick_at hB.1.1 0
    simpa [pick] using this.symm
  exact ord_one hi hB.1.2 (wpList_mono' (fun e a' w' hq => ⟨hq.1, .inl hB.2, hq.2⟩) _ _ _ h)

/-- Two operations that are not calm, in either order; each leaves the blocks that are there alone. -/
theorem ord_fork {i j : Nat} {p q : Plan} {a : Act} {w : World} (hB : (inB l [i] && inB l [j]) = true)
    (h : wpList P l.toArray (fun e a' w' => e = .normal ∧ Ext w w' ∧ wpOrd P X .any l.toArray (Only Q) p a' w') (pick l [i]) a w)
    (h' : wpList P l.toArray (fun e a' w' => e = .normal ∧ Ext w w' ∧ wpOrd P X .any l.toArray (Only Q) q a' w') (pick l [j]) a w) : wpOrd P X .any l.toArray (Only Q) (.fork i p j q) a w := by
  simp only [Bool.and_eq_true] at hB
  have hi : l.toArray[i]? = some (l.getD i default) := by
    have := pick_at hB.1 0
    simpa [pick] using this.symm
  have hj : l.toArray[j]? = some (l.getD j default) := by
    have := pick_at hB.2 0
    simpa [pick] using this.symm
  exact ord_two hi hj (wpList_mono' (fun e a' w' hq => ⟨hq.1, .inr hq.2.1, hq.2.2⟩) _ _ _ h) (wpList_mono' (fun e a' w' hq => ⟨hq.1, .inr hq.2.1, hq.2.2⟩) _ _ _ h')

/-- A further stretch of calm ones. -/
theorem ord_more {a : Act} {w : World} (hd : List Nat) (tl : Plan) (hB : headB P X l hd = true)
    (h : wpList P l.toArray (fun e a' w' => e = .normal ∧ w' = w ∧ wpOrd P X .any l.toArray (Only Q) tl a' w') (pick l hd) a w) : wpOrd P X .any l.toArray (Only Q) (seq hd tl) a w := by
  simp only [Bool.and_eq_true, headB] at hB
  exact ord_seg (R := tl) hd (pick l hd) a w (pick_at hB.1.1) (by simp [pick]) hB.1.2 hB.2 h

/-- The tail. -/
theorem ord_last {a : Act} {w : World} (tl : List Nat) (hB : tailB P X l tl = true)
    (h : wpList P l.toArray (fun e a' w' => e = .normal ∧ Q .normal a' w') (pick l tl) a w) : wpOrd P X .any l.toArray (Only Q) (seq tl .nil) a w := by
  simp only [Bool.and_eq_true, tailB] at hB
  exact ord_tail tl (pick l tl) a w (pick_at hB.1) (by simp [pick]) hB.2 h
theorem ord_done {ops : Array Oper} {md : Region.Mode} {a : Act} {w : World} (h : Q .normal a w) : wpOrd P X md ops (Only Q) .nil a w := ⟨rfl, h⟩
end
end Go.Ord
