/- Of this claim's own texts these, one behind the other: DoorV, AlgSpec, OrdG, LibT2. No statement of the seat is proved here; no condition but those that stand at the theorems. -/
import Derived.Test.YtnchgdjdfhfedaaDoorRows
import Derived.Test.YtnchgdjdfhfedaaDoorCards
import Derived.Test.YtnchgdjdfhfedaaDoorTie
import Derived.Test.YtnchgdjdfhfedaaDoorPartAC
import Derived.ProofKit
import Derived.OpenShut
import Derived.LaidHandle
import Derived.LaidMore
import Derived.MakeChecks
import Derived.Stop.Joined
import Derived.Deep.Strs
import Derived.Test.YtnchgdjdfhfedaaDoorPartAE
import Derived.Test.YtnchgdjdfhfedaaDoorPartAB
set_option linter.unusedSimpArgs false
set_option linter.unusedVariables false
namespace Go.Proofs.YtnchgdjdfhfedaaDoor
open Go.ChangeShapes Go.WideShapes Go.ChangeAt Go.RowKit Go.Ord Go.Baro

def laidL : List (String × DataW Unit) := [("barograph/vm.operands", Rows.laid_barograph_vm_operands)]
theorem gTab : Tryd.prog.globalNamed "barograph/vm.operands" = some 0 := by kernel_rfl
theorem tTab : (Tryd.prog.globals[0]?).map (·.type) = some 134 := by kernel_rfl
theorem door_met (os : Os) (args : Array Value) : laidMetH Tryd.prog laidL ((World.doorLaid Tryd.prog 400 os).forCall (fun _ _ => 0) ⟨#[], args, []⟩).memory := by
  rw [MakeChecks.laidMetH_plain _ _ _ (by kernel_rfl)]
  exact laidMet_of_run' 8 (by kernel_rfl) (by kernel_rfl)

/-- The operands of each kind. -/
def tabRows : List (Int × Int × Int × Int) := [(0, 0, 0, 0), (1, 3, 0, 0), (1, 1, 0, 0), (1, 1, 1, 0), (1, 1, 1, 0), (1, 1, 1, 0), (1, 1, 1, 0), (1, 1, 1, 0), (1, 1, 1, 0), (1, 1, 1, 0), (2, 0, 0, 0), (1, 2, 0, 0), (1, 2, 0, 0), (1, 1, 3, 0), (1, 1, 3, 0), (1, 1, 3, 1), (1, 0, 0, 0), (0, 0, 0, 0)]
def rowD (H : Type) (r : Int × Int × Int × Int) : DataW H := .agg [.lit (.int .i64 r.1), .lit (.int .i64 r.2.1), .lit (.int .i64 r.2.2.1), .lit (.int .i64 r.2.2.2)]
theorem laid_rows (H : Type) : (Rows.laid_barograph_vm_operands : DataW H) = .agg (tabRows.map (rowD H)) := rfl
/-- The table of operands lies in its block. -/
def Tab (W : World) : Prop := ∀ i a b c d, tabRows[i]? = some (a, b, c, d) →
  W.cell? ⟨0, i * 4, none⟩ = some (.int .i64 a) ∧ W.cell? ⟨0, i * 4 + 1, none⟩ = some (.int .i64 b) ∧ W.cell? ⟨0, i * 4 + 2, none⟩ = some (.int .i64 c) ∧ W.cell? ⟨0, i * 4 + 3, none⟩ = some (.int .i64 d)

theorem of_laid {W : World} (h : laidMetH Tryd.prog laidL W) : Tab W := by
  rw [MakeChecks.laidMetH_plain _ _ _ (by kernel_rfl)] at h
  obtain ⟨ps, ⟨g0, t0, cs0, f0, p0, q0, hg0, ht0, hv0, hd0, _, _⟩, _, _⟩ := h
  obtain rfl := Option.some.inj (gTab.symm.trans hg0)
  obtain rfl := Option.some.inj (tTab.symm.trans ht0)
  obtain ⟨xs, m1, rfl, hx1, hlen, hn5, hel⟩ := DataW.trod_array Tryd.underlying134 hd0
  have c4 : Tryd.prog.cellsOf 133 = 4 := by kernel_rfl
  have c1 : Tryd.prog.cellsOf 132 = 1 := by kernel_rfl
  rw [c4] at hel
  have hcell := fun i => World.var?_cell hg0 hv0 i
  have hcell' : ∀ i, W.cell? ⟨0, i, none⟩ = cs0.toList[i]? := fun i => by rw [hcell i]; simp
  clear hcell
  have hx2 : xs.map (·.1) = tabRows.map (rowD Unit) := by
    have := hx1
    rw [laid_rows] at this
    simp only [Prod.mk.injEq, DataW.agg.injEq] at this
    exact this.1.symm
  clear hx1
  intro i a b c d hi
  have hi18 : i < 18 := (List.getElem?_eq_some_iff.1 hi).1
  have hixs : i < xs.length := by omega
  have h0 := (hel i hi18).trans (List.getElem?_eq_getElem hixs)
  have hrow : (xs[i]'hixs).1 = rowD Unit (a, b, c, d) := by
    have := congrArg (·[i]?) hx2
    simp only [List.getElem?_map, hi, List.getElem?_eq_getElem hixs, Option.map_some, Option.some.injEq] at this
    exact this
  obtain ⟨ys, m2, rfl, hy, hly, hn4, hey⟩ := DataW.trod_array Tryd.underlying133 h0
  rw [c4] at hly
  rw [c1] at hey
  rw [hy] at hrow
  have each : ∀ (j : Nat), j < 4 → ∃ v, (((cs0.toList.drop (i * 4)).take 4).drop j).take 1 = [Value.int .i64 v] ∧ (ys[j]?).map (·.1) = some (.lit (.int .i64 v)) := by
    intro j hj
    have h1 := hey j hj
    rw [Nat.mul_one, List.getElem?_eq_getElem (show j < ys.length by omega)] at h1
    obtain ⟨v, ev, fv, _⟩ := DataW.trod_int (k := .i64) Tryd.underlying132 h1
    exact ⟨v, ev, by rw [List.getElem?_eq_getElem (show j < ys.length by omega), Option.map_some, fv]⟩
  have key : ∀ (j : Nat) (x : Int), j < 4 → [a, b, c, d][j]? = some x → W.cell? ⟨0, i * 4 + j, none⟩ = some (.int .i64 x) := by
    intro j x hj hx
    obtain ⟨v, ev, fv⟩ := each j hj
    have hv : v = x := by
      simp only [rowD, DataW.agg.injEq] at hrow
      have := congrArg (·[j]?) hrow
      simp only [List.getElem?_map] at this
      rw [fv] at this
      match j, hj with
      | 0, _ => simp at this hx; omega
      | 1, _ => simp at this hx; omega
      | 2, _ => simp at this hx; omega
      | 3, _ => simp at this hx; omega
    subst hv
    rw [hcell']
    have := congrArg (·[0]?) ev
    simp [List.getElem?_take, hj] at this
    simpa using this
  exact ⟨key 0 a (by decide) rfl, key 1 b (by decide) rfl, key 2 c (by decide) rfl, key 3 d (by decide) rfl⟩

theorem Tab.lt {W : World} (h : Tab W) : 0 < W.heap.size := block_lt' (h 0 0 0 0 0 rfl).1
theorem Tab.below {W W' : World} {B : Nat} (h : Tab W) (hb : Below B W W') (hB : 0 < B) : Tab W' := fun i a b c d hx => by
  obtain ⟨h0, h1, h2, h3⟩ := h i a b c d hx
  exact ⟨(hb.cell hB).trans h0, (hb.cell hB).trans h1, (hb.cell hB).trans h2, (hb.cell hB).trans h3⟩
theorem Tab.heap {W W' : World} (h : Tab W) (hh : W'.heap = W.heap) : Tab W' := fun i a b c d hx => by
  have : ∀ x : Addr, W'.cell? x = W.cell? x := fun x => by simp [World.cell?, hh]
  rw [this, this, this, this]; exact h i a b c d hx
end Go.Proofs.YtnchgdjdfhfedaaDoor

set_option linter.unusedSimpArgs false
set_option linter.unusedVariables false
namespace Go.Baro
open Go.RowKit
/-- Words may be, up to a limit. -/
def WordsOk (hi : Nat) (ws : Nat → List Int) : Prop := ∀ d, 1 ≤ d → d ≤ hi → 0 < (ws d).length ∧ (ws d).length ≤ 64 ∧ ∀ x ∈ ws d, inW x
/-- Codes may be, up to a limit. -/
def CodesOk (hi : Nat) (cs : Nat → List Ins) : Prop := ∀ d, 1 ≤ d → d ≤ hi → 0 < (cs d).length ∧ okC (cs d) ∧ ∀ o ∈ cs d, inI o
end Go.Baro
namespace Go.Proofs.YtnchgdjdfhfedaaDoor
open Go.RowKit Go.Ord Go.Baro
/-- A function that gives words. -/
def WSpec (F : FuncId) (hi : Nat) (ws : Nat → List Int) : Prop := ∀ (w : World) (hT : Tab w) (d : Int) (hd : inW d), Calls Tryd.prog F #[.int .i64 d] w fun e w' => ((1 ≤ d ∧ d ≤ hi) → ∃ A n k, e = .returned (.tuple #[.slice A n k, .int .i64 0]) ∧ n ≤ k ∧ k ≤ 9223372036854775807 ∧ QT w' 3 1 A n ((ws d.toNat).map (Value.int .i64))) ∧
  (¬ (1 ≤ d ∧ d ≤ hi) → ∃ A k, e = .returned (.tuple #[.slice A 0 k, .int .i64 2])) ∧ Below w.heap.size w w'
/-- A function that gives a code. -/
def CSpec (F : FuncId) (hi : Nat) (c : Nat → List Ins) : Prop := ∀ (w : World) (hT : Tab w) (d : Int) (hd : inW d), Calls Tryd.prog F #[.int .i64 d] w fun e w' => ((1 ≤ d ∧ d ≤ hi) → ∃ A n k, e = .returned (.tuple #[.slice A n k, .int .i64 0]) ∧ n ≤ k ∧ k ≤ 9223372036854775807 ∧ QT w' 73 5 A n (cellsO (c d.toNat))) ∧
  (¬ (1 ≤ d ∧ d ≤ hi) → ∃ A k, e = .returned (.tuple #[.slice A 0 k, .int .i64 2])) ∧ Below w.heap.size w w'
end Go.Proofs.YtnchgdjdfhfedaaDoor

set_option linter.unusedSimpArgs false
set_option linter.unusedVariables false
namespace Go.OrdG
open Go.Ord
/-- A sort of changes, under which the operations of X are blind. -/
structure GOk (G : World → World → Prop) : Prop where
  refl : ∀ w, G w w
  trans : ∀ {a b c}, G a b → G b c → G a c
  ext : ∀ {a b}, Ext a b → G a b
section
variable {G : World → World → Prop} {P : Program} {X : List Nat} {ops : Array Oper} {md : Region.Mode} {w0 : World} {wet : Bool} {Q : Exit → Act → World → Prop}

/-- In state a, operation o leaves v, and the world, in w0 and in every world that has w0's blocks. -/
def Yl (G : World → World → Prop) (P : Program) (ops : Array Oper) (w0 : World) (wet : Bool) (o : Oper) (v : Value) (a : Act) : Prop :=
  (Region.wanted o (yielded ops a.tmps) = true ∧ ((∀ w, G w0 w → (execOp a.eval o).run P w = .ok (.value v) w) ∨ (wet = true ∧ ∀ w, Ext w0 w → (execOp a.eval o).run P w = .ok (.value v) w))) ∨
  (Region.wanted o (yielded ops a.tmps) = false ∧ v = undef)

theorem Yl.ext (hG : GOk G) {o : Oper} {v : Value} {a : Act} {w1 : World} (hy : Yl G P ops w0 wet o v a) (h : Ext w0 w1) : Yl G P ops w1 wet o v a := by
  rcases hy with ⟨h1, h2 | ⟨h3, h4⟩⟩ | h5
  · exact .inl ⟨h1, .inl fun w hw => h2 w (hG.trans (hG.ext h) hw)⟩
  · exact .inl ⟨h1, .inr ⟨h3, fun w hw => h4 w (h.trans hw)⟩⟩
  · exact .inr h5
theorem Yl.dry (hG : GOk G) {o : Oper} {v : Value} {a : Act} {w1 : World} (hy : Yl G P ops w0 wet o v a) (h : wet = false) (hg : G w0 w1) : Yl G P ops w1 wet o v a := by
  rcases hy with ⟨h1, h2 | ⟨h3, h4⟩⟩ | h5
  · exact .inl ⟨h1, .inl fun w hw => h2 w (hG.trans hg hw)⟩
  · rw [h] at h3; cases h3
  · exact .inr h5

theorem Yl.of_same {o : Oper} {v : Value} {a a' : Act} (hy : Yl G P ops w0 wet o v a) (he : execOp a'.eval o = execOp a.eval o)
    (hw : Region.wanted o (yielded ops a'.tmps) = Region.wanted o (yielded ops a.tmps)) : Yl G P ops w0 wet o v a' := by
  unfold Yl at *
  rw [he, hw]
  exact hy

/-- What an operation's own step must keep. -/
def Keeps (G : World → World → Prop) (P : Program) (X : List Nat) (md : Region.Mode) (ops : Array Oper) (i : Nat) (w w' : World) : Prop :=
  if calmB P (ops.getD i default).op then w' = w else ((finB P X md ops i = true ∧ G w w') ∨ Ext w w')

def wpAnyC (G : World → World → Prop) (P : Program) (X : List Nat) (md : Region.Mode) (ops : Array Oper) (Q : Exit → Act → World → Prop) : Nat → Array Bool → Act → World → Prop
  | 0, listed, a, w => Region.ready md ops listed = [] ∧ Q .normal a w
  | f + 1, listed, a, w => (Region.ready md ops listed = [] → Q .normal a w) ∧
      ∀ i ∈ Region.ready md ops listed, wpOp P ops Q i (fun a' w' => Keeps G P X md ops i w w' ∧ wpAnyC G P X md ops Q f (listed.setIfInBounds i true) a' w') a w

theorem wpAny_of_C : ∀ (f : Nat) (listed : Array Bool) (a : Act) (w : World), wpAnyC G P X md ops Q f listed a w → wpAny P md ops Q f listed a w
  | 0, _, _, _, h => h
  | f + 1, _, _, _, h => ⟨h.1, fun i hi => wpOp_mono (fun a' w' h' => wpAny_of_C f _ a' w' h'.2) (h.2 i hi)⟩

theorem Yl.step (hG : GOk G) {i : Nat} {oi : Oper} {v : Value} {a : Act} {w : World} {K : Act → World → Prop} (hi : ops[i]? = some oi) (hy : Yl G P ops w wet oi v a)
    (h : K (a.put oi.dst v) w) : wpOp P ops Q i K a w := by
  unfold Go.wpOp
  simp only [hi]
  rcases hy with ⟨h1, h2⟩ | ⟨h1, rfl⟩
  · simp only [h1, if_true]
    refine .inl ?_
    have hr : (execOp a.eval oi).run P w = .ok (.value v) w := by
      rcases h2 with h2 | ⟨hd, h2⟩
      · exact h2 w (hG.refl w)
      · exact h2 w (Ext.refl w)
    simp only [Oper.wp, hr, Oper.upon]
    exact h
  · simp only [h1, Bool.false_eq_true, if_false]; exact h

/-- oj comes up while oi, apart from it, has not: the same as behind it. -/
theorem wpOp_over {j : Nat} {oi oj : Oper} {v : Value} (hj : ops[j]? = some oj) (hap : oi.apart ops oj = true)
    (hsi : ∀ cs b, oi.op ≠ .select cs b) (hsj : ∀ cs b, oj.op ≠ .select cs b)
    (hQ : ∀ c a w, ¬ Q (.panic c) a w) {K : Act → World → Prop} {a : Act} {w : World}
    (hy : Yl G P ops w0 wet oi v a) (h : wpOp P ops Q j K (a.put oi.dst v) w) :
    wpOp P ops Q j (fun a' w' => Yl G P ops w0 wet oi v a' ∧ K (a'.put oi.dst v) w') a w := by
  obtain ⟨h1, h2, h3⟩ := Oper.apart_spec hap
  have keep : ∀ (a : Act), Yl G P ops w0 wet oi v a → ∀ u, Yl G P ops w0 wet oi v (a.put oj.dst u) := fun a hy u =>
    hy.of_same (execOp_put oi hsi a oj.dst u h3) (wanted_put oi a oj.dst u h3)
  have keepD : ∀ d, Yl G P ops w0 wet oi v { a with defers := d :: a.defers } := fun d => hy.of_same rfl rfl
  unfold wpOp at *
  simp only [hj] at *
  rw [wanted_put oj a oi.dst v h1] at h
  split
  · rename_i hw
    simp only [hw, if_true] at h
    rcases h with h | ⟨hasks, hlets⟩
    case inr => exact .inr ⟨by unfold Oper.asks at *; rw [execOp_put oj hsj a oi.dst v h1] at hasks; exact hasks, hlets⟩
    refine .inl ?_
    unfold Oper.wp at *
    rw [execOp_put oj hsj a oi.dst v h1] at h
    generalize (execOp a.eval oj).run P w = r at *
    cases r with
    | ok n w' =>
      cases n <;> simp only [Oper.upon] at h ⊢
      case value u => exact ⟨keep a hy u, by rw [← Act.put_comm a v u h2]; exact h⟩
      case skip => exact ⟨keep a hy _, by rw [← Act.put_comm a v undef h2]; exact h⟩
      case defer d =>
        refine ⟨keep _ (keepD d) _, ?_⟩
        rw [← Act.put_comm _ v undef h2, ← Act.put_defers]
        exact h
      case enter f args =>
        refine Calls.mono h fun e w'' he => ?_
        cases e with
        | returned u => exact ⟨keep a hy u, by rw [← Act.put_comm a v u h2]; exact he⟩
        | panicked c => exact (hQ _ _ _ he).elim
        | outgrown => exact he
      case row row args => exact Rows.mono h fun u w'' he => ⟨keep a hy u, by rw [← Act.put_comm a v u h2]; exact he⟩
    | halt x w' =>
      cases x <;> simp only [Oper.upon] at h ⊢
      case panic u => exact (hQ _ _ _ h).elim
  · rename_i hw
    simp only [hw] at h
    exact ⟨keep a hy _, by rw [← Act.put_comm a v undef h2]; exact h⟩

/-- A calm operation that may come up now may be taken first. -/
theorem wpAnyC_first (hG : GOk G) {i : Nat} {oi : Oper} {v : Value} (hi : ops[i]? = some oi) (hcalm : calmB P oi.op = true) (hsel : ∀ (j : Nat) (o : Oper) cs b, ops[j]? = some o → o.op ≠ .select cs b)
    (hQ : ∀ c a w, ¬ Q (.panic c) a w) :
    ∀ (f : Nat) (listed : Array Bool) (a : Act) (w : World), Closed md ops listed → listed.size = ops.size →
      (∀ j oj, ops[j]? = some oj → j ≠ i → listed.getD j true = false → (∀ e ∈ oj.after, Region.binds md e = true → e.on ≠ i) → oi.apart ops oj = true) →
      i ∈ Region.ready md ops listed → Yl G P ops w (wetAt X ops i) oi v a →
      wpAnyC G P X md ops Q f (listed.setIfInBounds i true) (a.put oi.dst v) w → wpAnyC G P X md ops Q (f + 1) listed a w := by
  intro f
  have his : i < ops.size := (Array.getElem?_eq_some_iff.1 hi).1
  have self : ∀ (f : Nat) (listed : Array Bool) (a : Act) (w : World), Yl G P ops w (wetAt X ops i) oi v a → wpAnyC G P X md ops Q f (listed.setIfInBounds i true) (a.put oi.dst v) w →
      wpOp P ops Q i (fun a' w' => Keeps G P X md ops i w w' ∧ wpAnyC G P X md ops Q f (listed.setIfInBounds i true) a' w') a w := by
    intro f listed a w hy H
    refine hy.step hG hi ⟨?_, H⟩
    simp [Keeps, getD_of hi, hcalm]
  induction f with
  | zero =>
    intro listed a w hc hs _ hr hy H
    refine ⟨fun h => (by rw [h] at hr; cases hr), fun j hj => ?_⟩
    by_cases hji : j = i
    · subst hji; exact self 0 listed a w hy H
    · have := ready_mono hj hji
      rw [H.1] at this
      cases this
  | succ f ih =>
    intro listed a w hc hs hfree hr hy H
    refine ⟨fun h => (by rw [h] at hr; cases hr), fun j hj => ?_⟩
    by_cases hji : j = i
    · subst hji; exact self (f + 1) listed a w hy H
    · have h1 := H.2 j (ready_mono hj hji)
      obtain ⟨hjun, oj, hoj, hall⟩ := mem_ready.1 hj
      have hnot : ∀ e ∈ oj.after, Region.binds md e = true → e.on ≠ i := fun e he hb heq => by
        have h1 := hall e he hb
        have h0 := (mem_ready.1 hr).1
        rw [heq] at h1
        have hlt : i < listed.size := by omega
        simp [hlt] at h0 h1
        rw [h0] at h1
        cases h1
      have h2 := wpOp_over hoj (hfree j oj hoj hji hjun hnot) (fun cs b => hsel i oi cs b hi) (fun cs b => hsel j oj cs b hoj) hQ hy h1
      have hfree' : ∀ k ok, ops[k]? = some ok → k ≠ i → (listed.setIfInBounds j true).getD k true = false →
          (∀ e ∈ ok.after, Region.binds md e = true → e.on ≠ i) → oi.apart ops ok = true := fun k ok hk hki hun hno => by
        refine hfree k ok hk hki ?_ hno
        by_cases hjk : j = k
        · subst hjk; exact hjun
        · rw [getD_set_ne true hjk] at hun; exact hun
      refine wpOp_mono (fun a' w' h3 => ⟨h3.2.1, ih (listed.setIfInBounds j true) a' w' (hc.set hj) (by simpa using hs) hfree' (ready_mono hr (Ne.symm hji)) ?_ ?_⟩) h2
      · have hk := h3.2.1
        unfold Keeps at hk
        split at hk
        · subst hk; exact h3.1
        · rcases hk with hk | hk
          · obtain ⟨hk, hg⟩ := hk
            refine h3.1.dry hG ?_ hg
            cases hd : wetAt X ops i with
            | false => rfl
            | true =>
              have hh : heavyAt P X ops i = true := by simp [heavyAt, getD_of hi, hcalm, hd]
              rcases fin_listed hk hc hj hh his (Ne.symm hji) hr with h4 | h4
              · have h5 := (mem_ready.1 hr).1
                have hlt : i < listed.size := by omega
                simp [hlt] at h4 h5
                rw [h4] at h5
                cases h5
              · have h5 := (mem_ready.1 hj).1
                have hlt : j < listed.size := by rw [hs]; exact (Array.getElem?_eq_some_iff.1 hoj).1
                simp [hlt] at h4 h5
                rw [h4] at h5
                cases h5
          · exact h3.1.ext hG hk
      · rw [Array.setIfInBounds_comm _ _ hji]
        exact h3.2.2

/-- The walk in the order that is given. -/
def wpOrd (G : World → World → Prop) (P : Program) (X : List Nat) (md : Region.Mode) (ops : Array Oper) (Q : Exit → Act → World → Prop) : Plan → Act → World → Prop
  | .nil, a, w => Q .normal a w
  | .cons i rest, a, w => ∃ o, ops[i]? = some o ∧
      if calmB P o.op then ∃ v, Yl G P ops w (wetAt X ops i) o v a ∧ wpOrd G P X md ops Q rest (a.put o.dst v) w
      else wpOp P ops Q i (fun a' w' => ((finB P X md ops i = true ∧ G w w') ∨ Ext w w') ∧ wpOrd G P X md ops Q rest a' w') a w
  | .fork i p j q, a, w =>
      wpOp P ops Q i (fun a' w' => ((finB P X md ops i = true ∧ G w w') ∨ Ext w w') ∧ wpOrd G P X md ops Q p a' w') a w ∧
      wpOp P ops Q j (fun a' w' => ((finB P X md ops j = true ∧ G w w') ∨ Ext w w') ∧ wpOrd G P X md ops Q q a' w') a w

theorem wpAnyC_ord (hG : GOk G) (hsel : Region.noSelect ops = true) (hQ : ∀ c a w, ¬ Q (.panic c) a w) : ∀ (l : Plan) (listed : Array Bool) (a : Act) (w : World), Closed md ops listed → listed.size = ops.size →
    orderB P md ops l listed = true → wpOrd G P X md ops Q l a w → wpAnyC G P X md ops Q l.len listed a w
  | .nil, _, _, _, _, _, hB, h => ⟨by simpa [orderB] using hB, h⟩
  | .cons i l, listed, a, w, hc, hs, hB, h => by
    obtain ⟨o, ho, h⟩ := h
    simp only [orderB, Bool.and_eq_true, getD_of ho] at hB
    obtain ⟨hr, hB⟩ := hB
    by_cases hcalm : calmB P o.op = true
    · simp only [hcalm, if_true, Bool.and_eq_true] at hr h
      obtain ⟨hr, hf⟩ := hr
      obtain ⟨v, hy, h⟩ := h
      have hr' : i ∈ Region.ready md ops listed := by simpa using hr
      exact wpAnyC_first hG ho hcalm (Region.noSelect_spec hsel) hQ l.len listed a w hc hs (Region.free_spec ho hf) hr' hy
        (wpAnyC_ord hG hsel hQ l _ _ _ (hc.set hr') (by simpa using hs) hB h)
    · simp only [hcalm, Bool.false_eq_true, if_false, decide_eq_true_eq] at hr h
      refine ⟨fun h0 => (by rw [hr] at h0; cases h0), fun j hj => ?_⟩
      have hj' := hj
      rw [hr] at hj
      have hji : j = i := by simpa using hj
      subst hji
      refine wpOp_mono (fun a' w' h' => ⟨by simp only [Keeps, getD_of ho, hcalm, Bool.false_eq_true, if_false]; exact h'.1, ?_⟩) h
      exact wpAnyC_ord hG hsel hQ l _ a' w' (hc.set hj') (by simpa using hs) hB h'.2
  | .fork i p j q, listed, a, w, hc, hs, hB, h => by
    simp only [orderB, Bool.and_eq_true, Bool.not_eq_true', decide_eq_true_eq] at hB
    obtain ⟨⟨⟨⟨⟨hci, hcj⟩, hr⟩, hl⟩, hBp⟩, hBq⟩ := hB
    refine ⟨fun h0 => (by rw [hr] at h0; cases h0), fun k hk => ?_⟩
    have hk' := hk
    rw [hr] at hk
    have hkk : k = i ∨ k = j := by simpa using hk
    rcases hkk with rfl | rfl
    · refine wpOp_mono (fun a' w' h' => ⟨by simp only [Keeps, hci, Bool.false_eq_true, if_false]; exact h'.1, ?_⟩) h.1
      exact wpAnyC_ord hG hsel hQ p _ a' w' (hc.set hk') (by simpa using hs) hBp h'.2
    · refine wpOp_mono (fun a' w' h' => ⟨by simp only [Keeps, hcj, Bool.false_eq_true, if_false]; exact h'.1, ?_⟩) h.2
      have := wpAnyC_ord hG hsel hQ q _ a' w' (hc.set hk') (by simpa using hs) hBq h'.2
      rw [hl] at this
      exact this

theorem wp_region_ord (hG : GOk G) {id : Nat} {a : Act} {w : World} {l : List Oper} (ord : Plan) (hm : P.follows .mixedOrders = true)
    (hB : (Region.noSelect l.toArray && decide (ord.len = l.length) && orderB P .any l.toArray ord (Array.replicate l.toArray.size false)) = true)
    (h : wpOrd G P X .any l.toArray (Only Q) ord a w.drew) : (Code.region id l.toArray true).wp P Q a w := by
  simp only [Bool.and_eq_true, decide_eq_true_eq] at hB
  obtain ⟨⟨hsel, hlen⟩, hB⟩ := hB
  refine Code.wp_mono (Q := Only Q) (fun e a w ⟨he, hq⟩ => by subst he; exact hq) (wp_region_any hm ?_)
  have H := wpAnyC_ord hG (Q := Only Q) (md := .any) hsel (fun c a w hc => by cases hc.1) ord (Array.replicate l.toArray.size false) a w.drew
    (fun k hk => by simp [Array.getD_eq_getD_getElem?, Array.getElem?_replicate] at hk; split at hk <;> simp at hk) (by simp) hB h
  have := wpAny_of_C _ _ _ _ H
  rw [hlen] at this
  simpa using this

/-- A stretch of calm operations, walked as a list. -/
theorem ord_seg {R : Plan} : ∀ (is : List Nat) (l : List Oper) (a : Act) (w : World), (∀ j : Nat, l[j]? = (is[j]?).bind (fun i => ops[i]?)) → is.length = l.length → l.all (fun o => calmB P o.op) = true → is.all (fun i => !X.contains i) = true →
    wpList P ops (fun e a' w' => e = .normal ∧ w' = w ∧ wpOrd G P X md ops Q R a' w') l a w → wpOrd G P X md ops Q (seq is R) a w
  | [], [], _, _, _, _, _, _, h => h.2.2
  | i :: is, o :: l, a, w, hl, hlen, hc, hX, h => by
    have ho : ops[i]? = some o := by simpa using (hl 0).symm
    have hlt : ∀ j : Nat, l[j]? = (is[j]?).bind (fun i => ops[i]?) := fun j => by simpa using hl (j + 1)
    simp only [List.all_cons, Bool.and_eq_true] at hc hX
    refine ⟨o, ho, ?_⟩
    rw [if_pos hc.1]
    unfold wpList at h
    split at h
    · rename_i hwant
      rcases h with h | ⟨_, hlo⟩
      · obtain ⟨hn, hv⟩ := calm_nowr hc.1 a.eval
        unfold Oper.wp at h
        generalize hr : (execOp a.eval o).run P w = r at h
        cases r with
        | ok n u =>
          obtain ⟨v, rfl⟩ := hv hr
          have h1 := hn.up hr
          have h2 := wpList_up l _ _ hc.2 h
          have huw : u = w := h1.2.2 h2.1 h2.2
          subst huw
          refine ⟨v, .inl ⟨hwant, ?_⟩, ord_seg is l _ _ hlt (by simpa using hlen) hc.2 hX.2 h⟩
          cases hd : dryB o.op with
          | true => exact .inl fun w' _ => dry_same hd _ hr
          | false => exact .inr ⟨by simp only [wetAt, getD_of ho, hd, hX.1, Bool.not_false, Bool.and_self], fun w' hw' => hn.same hr hw'⟩
        | halt x u =>
          cases x <;> simp only [Oper.upon] at h
          cases h.1
      · obtain ⟨_, _, hq⟩ := hlo
        cases hq.1
    · rename_i hwant
      exact ⟨undef, .inr ⟨by simpa using hwant, rfl⟩, ord_seg is l _ _ hlt (by simpa using hlen) hc.2 hX.2 h⟩
  | [], _ :: _, _, _, _, hlen, _, _, _ => by simp at hlen
  | _ :: _, [], _, _, _, hlen, _, _, _ => by simp at hlen

/-- An operation of which the walk knows that it does not look at the world. -/
theorem ord_dry {R : Plan} {i : Nat} {o : Oper} {a : Act} {w : World} (v : Value) (ho : ops[i]? = some o) (hc : calmB P o.op = true) (hw : Region.wanted o (yielded ops a.tmps) = true) (hr : ∀ w', G w w' → (execOp a.eval o).run P w' = .ok (.value v) w')
    (h : wpOrd G P X md ops Q R (a.put o.dst v) w) : wpOrd G P X md ops Q (.cons i R) a w := by
  refine ⟨o, ho, ?_⟩
  rw [if_pos hc]
  exact ⟨v, .inl ⟨hw, .inl hr⟩, h⟩

/-- An operation that is not calm: a call, a store, an append; walked as a list of one. -/
theorem ord_one {i : Nat} {is : Plan} {o : Oper} {a : Act} {w : World} (ho : ops[i]? = some o) (hc : calmB P o.op = false)
    (h : wpList P ops (fun e a' w' => e = .normal ∧ ((finB P X md ops i = true ∧ G w w') ∨ Ext w w') ∧ wpOrd G P X md ops (Only Q) is a' w') [o] a w) : wpOrd G P X md ops (Only Q) (.cons i is) a w := by
  refine ⟨o, ho, ?_⟩
  rw [if_neg (by simp [hc])]
  exact wpOp_one ho h

/-- Two that are not calm, either of which may come up. -/
theorem ord_two {i j : Nat} {p q : Plan} {o o' : Oper} {a : Act} {w : World} (ho : ops[i]? = some o) (ho' : ops[j]? = some o')
    (h : wpList P ops (fun e a' w' => e = .normal ∧ ((finB P X md ops i = true ∧ G w w') ∨ Ext w w') ∧ wpOrd G P X md ops (Only Q) p a' w') [o] a w)
    (h' : wpList P ops (fun e a' w' => e = .normal ∧ ((finB P X md ops j = true ∧ G w w') ∨ Ext w w') ∧ wpOrd G P X md ops (Only Q) q a' w') [o'] a w) : wpOrd G P X md ops (Only Q) (.fork i p j q) a w :=
  ⟨wpOp_one ho h, wpOp_one ho' h'⟩

end
section
variable {G : World → World → Prop} {P : Program} {X : List Nat} {Q : Exit → Act → World → Prop} {l : List Oper}
/-- The first stretch, where calls lie between: then 'ord_call', 'ord_more', 'ord_last'. X: the operations that the walk will show to be blind ('ord_blind'). -/
theorem region_firstG {id : Nat} {a : Act} {w : World} (G : World → World → Prop) (hG : GOk G) (X : List Nat) (hd : List Nat) (tl : Plan) (hm : P.follows .mixedOrders = true) (hB : (wholeB P l (seq hd tl) && headB P X l hd) = true)
    (h : wpList P l.toArray (fun e a' w' => e = .normal ∧ w' = w.drew ∧ wpOrd G P X .any l.toArray (Only Q) tl a' w') (pick l hd) a w.drew) :
    (Code.region id l.toArray true).wp P Q a w := by
  simp only [Bool.and_eq_true, headB] at hB
  obtain ⟨hB, ⟨h1, h2⟩, h3⟩ := hB
  refine wp_region_ord hG (X := X) (seq hd tl) hm hB ?_
  exact ord_seg (R := tl) hd (pick l hd) a w.drew (pick_at h1) (by simp [pick]) h2 h3 h
/-- An operation that does not look at the world, by the values that it is given. -/
theorem ord_blindG {i : Nat} {is : Plan} {a : Act} {w : World} (v : Value) (hB : (inB l [i] && calmB P (l.getD i default).op && Region.wanted (l.getD i default) (yielded l.toArray a.tmps)) = true)
    (hr : ∀ w', G w w' → (execOp a.eval (l.getD i default)).run P w' = .ok (.value v) w') (h : wpOrd G P X .any l.toArray (Only Q) is (a.put (l.getD i default).dst v) w) : wpOrd G P X .any l.toArray (Only Q) (.cons i is) a w := by
  simp only [Bool.and_eq_true] at hB
  have hi : l.toArray[i]? = some (l.getD i default) := by
    have := pick_at hB.1.1 0
    simpa [pick] using this.symm
  exact ord_dry v hi hB.1.2 hB.2 hr h

/-- One operation that is not calm and leaves the blocks that are there alone. -/
theorem ord_callG {i : Nat} {is : Plan} {a : Act} {w : World} (hB : (inB l [i] && !calmB P (l.getD i default).op) = true)
    (h : wpList P l.toArray (fun e a' w' => e = .normal ∧ Ext w w' ∧ wpOrd G P X .any l.toArray (Only Q) is a' w') (pick l [i]) a w) : wpOrd G P X .any l.toArray (Only Q) (.cons i is) a w := by
  simp only [Bool.and_eq_true, Bool.not_eq_true'] at hB
  have hi : l.toArray[i]? = some (l.getD i default) := by
    have := pick_at hB.1 0
    simpa [pick] using this.symm
  exact ord_one hi hB.2 (wpList_mono' (fun e a' w' hq => ⟨hq.1, .inr hq.2.1, hq.2.2⟩) _ _ _ h)

/-- One operation that is not calm and before or behind which all that look at the world must come (a store of an assignment of several): it may write what it will. -/
theorem ord_finG {i : Nat} {is : Plan} {a : Act} {w : World} (hB : (inB l [i] && !calmB P (l.getD i default).op && finB P X .any l.toArray i) = true)
    (h : wpList P l.toArray (fun e a' w' => e = .normal ∧ G w w' ∧ wpOrd G P X .any l.toArray (Only Q) is a' w') (pick l [i]) a w) : wpOrd G P X .any l.toArray (Only Q) (.cons i is) a w := by
  simp only [Bool.and_eq_true, Bool.not_eq_true'] at hB
  have hi : l.toArray[i]? = some (l.getD i default) := by
    have := pick_at hB.1.1 0
    simpa [pick] using this.symm
  exact ord_one hi hB.1.2 (wpList_mono' (fun e a' w' hq => ⟨hq.1, .inl ⟨hB.2, hq.2.1⟩, hq.2.2⟩) _ _ _ h)

/-- Two operations that are not calm, in either order; each leaves the blocks that are there alone. -/
theorem ord_forkG {i j : Nat} {p q : Plan} {a : Act} {w : World} (hB : (inB l [i] && inB l [j]) = true)
    (h : wpList P l.toArray (fun e a' w' => e = .normal ∧ Ext w w' ∧ wpOrd G P X .any l.toArray (Only Q) p a' w') (pick l [i]) a w)
    (h' : wpList P l.toArray (fun e a' w' => e = .normal ∧ Ext w w' ∧ wpOrd G P X .any l.toArray (Only Q) q a' w') (pick l [j]) a w) : wpOrd G P X .any l.toArray (Only Q) (.fork i p j q) a w := by
  simp only [Bool.and_eq_true] at hB
  have hi : l.toArray[i]? = some (l.getD i default) := by
    have := pick_at hB.1 0
    simpa [pick] using this.symm
  have hj : l.toArray[j]? = some (l.getD j default) := by
    have := pick_at hB.2 0
    simpa [pick] using this.symm
  exact ord_two hi hj (wpList_mono' (fun e a' w' hq => ⟨hq.1, .inr hq.2.1, hq.2.2⟩) _ _ _ h) (wpList_mono' (fun e a' w' hq => ⟨hq.1, .inr hq.2.1, hq.2.2⟩) _ _ _ h')

/-- A further stretch of calm ones. -/
theorem ord_moreG {a : Act} {w : World} (hd : List Nat) (tl : Plan) (hB : headB P X l hd = true)
    (h : wpList P l.toArray (fun e a' w' => e = .normal ∧ w' = w ∧ wpOrd G P X .any l.toArray (Only Q) tl a' w') (pick l hd) a w) : wpOrd G P X .any l.toArray (Only Q) (seq hd tl) a w := by
  simp only [Bool.and_eq_true, headB] at hB
  exact ord_seg (R := tl) hd (pick l hd) a w (pick_at hB.1.1) (by simp [pick]) hB.1.2 hB.2 h

theorem ord_doneG {ops : Array Oper} {md : Region.Mode} {a : Act} {w : World} (h : Q .normal a w) : wpOrd G P X md ops (Only Q) .nil a w := ⟨rfl, h⟩
end
end Go.OrdG

set_option linter.unusedSimpArgs false
set_option linter.unusedVariables false
namespace Go.Baro
open Go.RowKit
theorem own_boxS {w : World} {B m g s : Nat} {e : TypeId} {xs : List Value} (h : w.ownsRow B e s (.slice (some ⟨g, 0, none⟩) m m) m xs) : Box w g e xs ∧ B ≤ g := by
  rcases h.2 with ⟨h, _⟩ | ⟨g', cap, cur, h1, h2, h3, h4, h5, h6, h7⟩
  · cases h
  · simp only [Value.slice.injEq, Option.some.injEq, Addr.mk.injEq, and_true, true_and] at h1
    obtain ⟨rfl, rfl⟩ := h1
    refine ⟨?_, h2⟩
    rw [List.take_of_length_le (by simp [h6])] at h7
    unfold Box
    rw [h3, ← h7]
theorem gok_kc (T : TypeId → Prop) : OrdG.GOk (Kc T) := ⟨Kc.refl T, fun h k => h.trans k, Kc.ext⟩
end Go.Baro
