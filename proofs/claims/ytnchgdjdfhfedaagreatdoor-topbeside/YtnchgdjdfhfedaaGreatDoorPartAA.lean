/- Of this claim's own texts these, one behind the other: Ord, Ord2. No statement of the seat is proved here; no condition but those that stand at the theorems. -/
import Derived.Still
import Derived.Tactics
import Derived.Tactics2
import Derived.WalkKit
set_option linter.unusedSimpArgs false
set_option linter.unusedVariables false
namespace Go.Ord

/-- s writes nothing: it may look (at blocks that are there), ask, make new blocks, halt. -/
def NoWr (P : Program) {α : Type} : Sem α → Prop
  | .pure _ => True
  | .load _ _ k => ∀ v, NoWr P (k v)
  | .store _ _ _ _ => False
  | .new _ k => ∀ r, NoWr P (k r)
  | .shape r k => (∀ s, NoWr P (k s)) ∧ ∀ w a u, w.heap.size ≤ r → (k none).run P w ≠ .ok a u
  | .freeze _ _ _ => False
  | .frozen _ _ => False
  | .getObj _ k => ∀ o, NoWr P (k o)
  | .setObj _ _ _ => False
  | .choose _ k => ∀ n, NoWr P (k n)
  | .sys _ _ => False
  | .program k => NoWr P (k P)
  | .mark _ k => NoWr P k
  | .halt _ => True

section
variable {P : Program} {α β : Type}

theorem NoWr.bnd {s : Sem α} {f : α → Sem β} (hs : NoWr P s) (hf : ∀ a, NoWr P (f a)) : NoWr P (s.bind f) := by
  induction s with
  | pure a => exact hf a
  | load m a k ih => exact fun v => ih v (hs v)
  | store m a v k ih => exact hs.elim
  | new o k ih => exact fun v => ih v (hs v)
  | shape r k ih =>
    refine ⟨fun v => ih v (hs.1 v), fun w a u hw hr => ?_⟩
    have hr' : ((k none).bind f).run P w = .ok a u := hr
    have hb : ((k none).bind f).run P w = ((k none).run P w).andThen fun x w' => (f x).run P w' := Sem.run_bind ..
    rw [hb] at hr'
    cases hk : (k none).run P w with
    | ok x w' => exact hs.2 w x w' hw hk
    | halt h w' => rw [hk] at hr'; cases hr'
  | freeze a n k ih => exact hs.elim
  | frozen a k ih => exact hs.elim
  | getObj r k ih => exact fun v => ih v (hs v)
  | setObj r o k ih => exact hs.elim
  | choose q k ih => exact fun v => ih v (hs v)
  | sys c k ih => exact hs.elim
  | program k ih => exact ih P hs
  | mark m k ih => exact ih hs
  | halt h => trivial

theorem NoWr.bd {s : Sem α} {f : α → Sem β} (hs : NoWr P s) (hf : ∀ a, NoWr P (f a)) : NoWr P (s >>= f) := NoWr.bnd hs hf
theorem NoWr.pr (a : α) : NoWr P (pure a : Sem α) := trivial
theorem NoWr.mp {s : Sem α} {f : α → β} (hs : NoWr P s) : NoWr P (f <$> s) := NoWr.bnd hs (fun _ => trivial)

/-- A run that writes nothing only goes up: in blocks and in draws; and where neither has gone up, the world is the very same. -/
theorem NoWr.up {s : Sem α} (hs : NoWr P s) : ∀ {w u : World} {a : α}, s.run P w = .ok a u →
    w.heap.size ≤ u.heap.size ∧ w.drawn ≤ u.drawn ∧ (u.heap.size ≤ w.heap.size → u.drawn ≤ w.drawn → u = w) := by
  induction s with
  | pure a => intro w u b h; simp only [Sem.run, Result.ok.injEq] at h; obtain ⟨_, rfl⟩ := h; exact ⟨Nat.le_refl _, Nat.le_refl _, fun _ _ => rfl⟩
  | load m a k ih =>
    intro w u b h
    simp only [Sem.run] at h
    split at h
    · exact ih _ (hs _) h
    · split at h
      · exact ih _ (hs _) h
      · cases h
  | store m a v k ih => exact hs.elim
  | new o k ih =>
    intro w u b h
    simp only [Sem.run] at h
    have := ih _ (hs _) h
    simp only [Array.size_push] at this
    exact ⟨by omega, by omega, fun h1 _ => by omega⟩
  | shape r k ih => intro w u b h; exact ih _ (hs.1 _) h
  | freeze a n k ih => exact hs.elim
  | frozen a k ih => exact hs.elim
  | getObj r k ih =>
    intro w u b h
    simp only [Sem.run] at h
    split at h
    · cases h
    · exact ih _ (hs _) h
    · cases h
  | setObj r o k ih => exact hs.elim
  | choose q k ih =>
    intro w u b h
    simp only [Sem.run] at h
    split at h
    · exact ih _ (hs _) h
    · have := ih _ (hs _) h
      simp only at this
      exact ⟨by omega, by omega, fun h1 _ => by omega⟩
  | sys c k ih => exact hs.elim
  | program k ih => intro w u b h; exact ih P hs h
  | mark m k ih => intro w u b h; exact ih hs h
  | halt x => intro w u b h; simp only [Sem.run] at h; cases h

/-- Every block that w has is there in w', as it was. -/
def Ext (w w' : World) : Prop := ∀ b, b < w.heap.size → w'.heap[b]? = w.heap[b]?
theorem Ext.refl (w : World) : Ext w w := fun _ _ => rfl
theorem Ext.size {w w' : World} (h : Ext w w') : w.heap.size ≤ w'.heap.size := by
  cases hn : w.heap.size with
  | zero => exact Nat.zero_le _
  | succ n =>
    have h1 := h n (by omega)
    have hlt : n < w.heap.size := by omega
    have h3 : w.heap[n]? = some w.heap[n] := Array.getElem?_eq_getElem hlt
    rw [h3] at h1
    obtain ⟨h2, _⟩ := Array.getElem?_eq_some_iff.1 h1
    omega
theorem Ext.trans {a b c : World} (h : Ext a b) (h' : Ext b c) : Ext a c := fun k hk => (h' k (by have := h.size; omega)).trans (h k hk)
theorem Ext.of_heap {w w' : World} (h : w'.heap = w.heap) : Ext w w' := fun b _ => by rw [h]
theorem Ext.kept {w w' : World} (h : Ext w w') {b : Nat} {o : Obj} (ho : w.heap[b]? = some o) : w'.heap[b]? = some o := by
  obtain ⟨h1, _⟩ := Array.getElem?_eq_some_iff.1 ho
  rw [h b h1, ho]

theorem seen_ext {w w' : World} (h : Ext w w') {p : Program} {at_ : Addr} {u : TypeId} {k : Addr} {b : Bool} {r : Array Value × TypeId × (Nat × Nat) × Nat × Value × List (Nat × Nat × List UInt8)} (hr : w.seen p at_ u k b = .ok r) : w'.seen p at_ u k b = .ok r := by
  cases hb : w.heap[at_.block]? with
  | some o =>
    have hb' := h.kept hb
    unfold World.seen at hr ⊢
    rw [hb'] 
    rw [hb] at hr
    exact hr
  | none =>
    exfalso
    unfold World.seen at hr
    simp only [hb] at hr
    simp only [bind, Except.bind, throw, throwThe, MonadExceptOf.throw, pure, Except.pure] at hr
    repeat' (split at hr)
    all_goals (first | cases hr | contradiction | skip)

theorem farLoad_ext {w w' : World} (h : Ext w w') {p : Program} {a : Addr} {b : Bool} {r : Value × List Addr} (hr : w.farLoad p a b = .ok r) : w'.farLoad p a b = .ok r := by
  unfold World.farLoad at hr ⊢
  split at hr
  · rename_i at_ u hb
    rw [h.kept hb]
    dsimp only
    cases hv : w.viewLoad p at_ u a b with
    | error e => rw [hv] at hr; cases hr
    | ok x =>
      rw [hv] at hr
      have : w'.viewLoad p at_ u a b = .ok x := by
        unfold World.viewLoad at hv ⊢
        cases hs : w.seen p at_ u a b with
        | error e => rw [hs] at hv; cases hv
        | ok y => rw [hs] at hv; rw [seen_ext h hs]; exact hv
      rw [this]; exact hr
  · cases hr

/-- A run that writes nothing and leaves the very world goes the same way in every world that has the same blocks, and perhaps more. -/
theorem NoWr.same {s : Sem α} (hs : NoWr P s) : ∀ {w w' : World} {a : α}, s.run P w = .ok a w → Ext w w' → s.run P w' = .ok a w' := by
  induction s with
  | pure a => intro w w' b h hh; simp only [Sem.run, Result.ok.injEq] at h ⊢; exact ⟨h.1, trivial⟩
  | load m a k ih =>
    intro w w' b h hh
    simp only [Sem.run] at h ⊢
    cases hb : w.heap[a.block]? with
    | some o =>
      have hc : w'.cell? a = w.cell? a := by simp only [World.cell?, hb, hh.kept hb]
      rw [hc]
      split at h
      · exact ih _ (hs _) h hh
      · cases hf : w.farLoad P a (m == .atomic) with
        | ok x => rw [hf] at h; rw [farLoad_ext hh hf]; exact ih _ (hs _) h hh
        | error e => rw [hf] at h; cases h
    | none =>
      have hc : w.cell? a = none := by simp only [World.cell?, hb]
      obtain ⟨e, hf⟩ : ∃ e, w.farLoad P a (m == .atomic) = .error e := by
        unfold World.farLoad
        rw [hb]
        exact ⟨_, rfl⟩
      simp only [hc, hf] at h
      cases h
  | store m a v k ih => exact hs.elim
  | new o k ih =>
    intro w w' b h hh
    simp only [Sem.run] at h
    have := (NoWr.up (hs _) h).1
    simp only [Array.size_push] at this
    omega
  | shape r k ih =>
    intro w w' b h hh
    simp only [Sem.run] at h ⊢
    by_cases hr : r < w.heap.size
    · have hc : w'.shape? r = w.shape? r := by simp only [World.shape?, hh r hr]
      rw [hc]; exact ih _ (hs.1 _) h hh
    · have hc : w.shape? r = none := by simp only [World.shape?, Array.getElem?_eq_none (Nat.le_of_not_lt hr)]
      rw [hc] at h
      exact (hs.2 w b w (Nat.le_of_not_lt hr) h).elim
  | freeze a n k ih => exact hs.elim
  | frozen a k ih => exact hs.elim
  | getObj r k ih =>
    intro w w' b h hh
    simp only [Sem.run] at h ⊢
    cases hb : w.heap[r]? with
    | none => rw [hb] at h; cases h
    | some o =>
      rw [hh.kept hb]
      rw [hb] at h
      cases o <;> first | (cases h; done) | exact ih _ (hs _) h hh
  | setObj r o k ih => exact hs.elim
  | choose q k ih =>
    intro w w' b h hh
    simp only [Sem.run] at h ⊢
    split at h
    · rename_i hq; rw [if_pos hq]; exact ih _ (hs _) h hh
    · have := (NoWr.up (hs _) h).2.1
      simp only at this
      omega
  | sys c k ih => exact hs.elim
  | program k ih => intro w w' b h hh; exact ih P hs h hh
  | mark m k ih => intro w w' b h hh; exact ih hs h hh
  | halt x => intro w w' b h hh; simp only [Sem.run] at h; cases h
end

end Go.Ord

set_option linter.unusedSimpArgs false
set_option linter.unusedVariables false
namespace Go.Ord
section
variable {P : Program}

theorem nw_stuck {α : Type} (s : String) : NoWr P (stuck s : Sem α) := trivial
theorem nw_unsup {α : Type} (u : Unsupported) : NoWr P (unsupported u : Sem α) := trivial
theorem nw_goPanic {α : Type} (v : Value) : NoWr P (goPanic v : Sem α) := trivial
theorem nw_program : NoWr P program := trivial
theorem nw_shp {α : Type} {r : Nat} {f : Option (TypeId × Nat) → Sem α} (hs : ∀ s, NoWr P (f s)) (hn : ∀ w a u, w.heap.size ≤ r → (f none).run P w ≠ .ok a u) : NoWr P (shape r >>= f) := ⟨hs, hn⟩
theorem nw_getObj (r : Nat) : NoWr P (getObj r) := fun _ => trivial
theorem nw_load (a : Addr) (m : Mode) : NoWr P (load a m) := fun _ => trivial
theorem nw_newObj (o : Obj) : NoWr P (newObj o) := fun _ => trivial
theorem nw_choose (q : Question) : NoWr P (choose q) := fun _ => trivial
theorem nw_typeInfo (t : TypeId) : NoWr P (typeInfo t) := by
  unfold typeInfo; refine NoWr.bd nw_program (fun p => ?_); split <;> exact trivial
theorem nw_underlying (t : TypeId) : NoWr P (underlying t) := by
  unfold underlying; refine NoWr.bd nw_program (fun p => ?_); split <;> exact trivial
theorem nw_sizeOf (t : TypeId) : NoWr P (sizeOf t) := NoWr.bd (nw_typeInfo t) fun _ => trivial
theorem nw_zeroValue (t : TypeId) : NoWr P (zeroValue t) := by
  unfold zeroValue; refine NoWr.bd (nw_typeInfo t) (fun p => ?_); split <;> exact trivial
theorem nw_isAgg (t : TypeId) : NoWr P (isAgg t) := by
  unfold isAgg; refine NoWr.bd (nw_underlying t) (fun p => ?_); split <;> exact trivial
theorem nw_elemOf (t : TypeId) : NoWr P (elemOf t) := by
  unfold elemOf; refine NoWr.bd (nw_underlying t) (fun p => ?_); split <;> exact trivial
theorem nw_newVar (t : TypeId) (v : Value) : NoWr P (newVar t v) := fun _ => trivial
theorem nw_rtp {α : Type} (e : RuntimeError) : NoWr P (runtimePanic e : Sem α) := by
  unfold runtimePanic
  refine NoWr.bd nw_program fun p => ?_
  cases e
  case typeAssertion i c a m => exact NoWr.bd (nw_elemOf _) fun _ => NoWr.bd (nw_newVar _ _) fun _ => trivial
  case panicNil => exact NoWr.bd (nw_elemOf _) fun _ => NoWr.bd (nw_newVar _ _) fun _ => trivial
  all_goals exact trivial
theorem val_bind {α : Type} {s : Sem α} {f : α → Sem Next} (h : ∀ a w u n, (f a).run P w = .ok n u → ∃ v, n = .value v) {w u : World} {n : Next} (hr : (s >>= f).run P w = .ok n u) : ∃ v, n = .value v := by
  rw [Sem.run_bind] at hr
  generalize s.run P w = r at hr
  cases r with
  | ok a w' => exact h _ _ _ _ hr
  | halt x w' => simp only [Result.andThen] at hr; cases hr
theorem nil_halts (w u : World) (n : Next) : (runtimePanic .nilDeref : Sem Next).run P w ≠ .ok n u := by
  intro h
  simp [runtimePanic, program, goPanic, Sem.run, Sem.run_bind, Result.andThen] at h
theorem nw_bounds {α : Type} (k : IntKind) (x y : Int) (c : BoundsCode) : NoWr P (boundsPanic k x y c : Sem α) := by
  unfold boundsPanic
  dsimp only
  split
  · exact NoWr.bd (NoWr.mp (nw_choose _)) (fun _ => nw_rtp _)
  · exact NoWr.bd (NoWr.pr _) (fun _ => nw_rtp _)
theorem nw_asIntOf (v : Value) : NoWr P (asIntOf v) := by unfold asIntOf; split <;> exact trivial
theorem nw_asInt (v : Value) : NoWr P (asInt v) := NoWr.bd (nw_asIntOf v) fun _ => trivial
theorem nw_asBool (v : Value) : NoWr P (asBool v) := by unfold asBool; split <;> exact trivial
theorem nw_asAgg (v : Value) : NoWr P (asAgg v) := by unfold asAgg; split <;> exact trivial
theorem nw_asAddr (v : Value) : NoWr P (asAddr v) := by unfold asAddr; split <;> first | exact nw_rtp _ | exact trivial
theorem nw_sureAddr (v : Value) : NoWr P (Instr.sureAddr v) := by unfold Instr.sureAddr; split <;> exact trivial
theorem nw_loadCellsFrom (a : Addr) : ∀ (n i : Nat) (acc : Array Value), NoWr P (loadCellsFrom a i n acc)
  | 0, _, _ => trivial
  | n + 1, i, _ => NoWr.bd (nw_load _ _) fun _ => nw_loadCellsFrom a n (i + 1) _
theorem nw_loadVar (t : TypeId) (a : Addr) : NoWr P (loadVar t a) := by
  unfold loadVar
  refine NoWr.bd (nw_isAgg t) fun b => ?_
  split
  · exact NoWr.bd (nw_sizeOf t) fun _ => NoWr.bd (nw_loadCellsFrom a _ _ _) fun _ => trivial
  · exact nw_load _ _
theorem nw_loadAt (t : TypeId) (v : Value) : NoWr P (Instr.loadAt t v) := NoWr.bd (nw_sureAddr v) fun _ => nw_loadVar _ _
theorem nw_part (t : TypeId) (cs : Array Value) (off : Nat) : NoWr P (part t cs off) := by
  unfold part
  refine NoWr.bd (nw_isAgg t) fun b => ?_
  split
  · exact NoWr.bd (nw_sizeOf t) fun _ => trivial
  · split <;> exact trivial
theorem nw_viewAt (r : Nat) : NoWr P (viewAt r) := by
  unfold viewAt
  refine nw_shp (fun s => ?_) (fun w a u hw h => ?_)
  · split
    · exact trivial
    · refine NoWr.bd (nw_getObj r) fun o => ?_
      split <;> exact trivial
  · simp only [Option.isSome_none, Bool.false_eq_true, if_false, Sem.run_bind, getObj, Sem.run, Array.getElem?_eq_none hw, Result.andThen] at h
    cases h
theorem nw_numberAt (r : Nat) : NoWr P (numberAt r) := by
  unfold numberAt
  refine nw_shp (fun s => ?_) (fun w a u hw h => ?_)
  · split
    · exact trivial
    · refine NoWr.bd (nw_getObj r) fun o => ?_
      split <;> exact trivial
  · simp only [Option.isSome_none, Bool.false_eq_true, if_false, Sem.run_bind, getObj, Sem.run, Array.getElem?_eq_none hw, Result.andThen] at h
    cases h
theorem nw_behindNumber (a : Addr) : NoWr P (behindNumber a) := NoWr.bd (nw_numberAt _) fun _ => trivial
theorem nw_noView (a : Addr) : NoWr P (noView a) := by
  unfold noView
  refine NoWr.bd (nw_viewAt _) fun s => ?_
  split <;> exact trivial
theorem nw_byteOf (a : Addr) : NoWr P (byteOf a) := by
  unfold byteOf
  split
  · exact trivial
  · refine NoWr.bd nw_program fun p => NoWr.bd (nw_noView a) fun _ => nw_shp (fun s => ?_) (fun w a u hw h => by cases h)
    split
    · dsimp only
      split
      · exact trivial
      · split <;> exact trivial
    · exact trivial
theorem nw_partAt (a : Addr) (c b : Nat) : NoWr P (partAt a c b) := NoWr.bd (nw_byteOf a) fun _ => NoWr.bd (nw_byteOf _) fun _ => trivial
theorem nw_fieldPlace (a : Addr) (f : Field) : NoWr P (fieldPlace a f) := by
  unfold fieldPlace
  refine NoWr.bd (nw_sizeOf _) fun n => ?_
  split
  · exact nw_partAt _ _ _
  · exact trivial
theorem nw_fieldAt (s : TypeId) (v : Value) (n : Nat) : NoWr P (Instr.fieldAt s v n) := by
  unfold Instr.fieldAt
  refine NoWr.bd (nw_underlying s) fun d => ?_
  split
  · split
    · exact NoWr.bd (nw_sureAddr v) fun _ => NoWr.bd (nw_fieldPlace _ _) fun _ => trivial
    · exact trivial
  · exact trivial
theorem nw_field (s : TypeId) (v : Value) (n : Nat) : NoWr P (Instr.field s v n) := by
  unfold Instr.field
  refine NoWr.bd (nw_underlying s) fun d => ?_
  split
  · split
    · exact NoWr.bd (nw_asAgg v) fun _ => nw_part _ _ _
    · exact trivial
  · exact trivial
theorem nw_indexAt (t : TypeId) (x i : Value) : NoWr P (Instr.indexAt t x i) := by
  unfold Instr.indexAt
  refine NoWr.bd (nw_asIntOf i) fun ki => ?_
  obtain ⟨k, i⟩ := ki
  refine NoWr.bd (nw_underlying t) fun d => ?_
  dsimp only
  split
  all_goals first
    | refine NoWr.bd (nw_sureAddr _) fun _ => NoWr.bd (NoWr.pr _) fun bl => ?_
    | refine NoWr.bd (NoWr.pr _) fun bl => ?_
    | refine NoWr.bd (nw_stuck _) fun bl => ?_
  all_goals
    obtain ⟨base, len, elem⟩ := bl
    refine NoWr.bd (nw_underlying t) fun d' => ?_
    dsimp only
    split
    · split
      · exact NoWr.bd (nw_sizeOf _) fun _ => trivial
      · split <;> first | exact trivial | exact nw_bounds _ _ _ _ | (split <;> first | exact trivial | exact nw_bounds _ _ _ _)
    · exact nw_bounds _ _ _ _
theorem nw_index (t : TypeId) (x i : Value) : NoWr P (Instr.index t x i) := by
  unfold Instr.index
  refine NoWr.bd (nw_asIntOf i) fun ki => ?_
  obtain ⟨k, i⟩ := ki
  refine NoWr.bd (nw_underlying t) fun d => ?_
  split
  · split
    · exact NoWr.bd (nw_sizeOf _) fun _ => nw_part _ _ _
    · exact nw_bounds _ _ _ _
  · split
    · exact trivial
    · exact nw_bounds _ _ _ _
  · exact trivial
theorem nw_extract (x : Value) (i : Nat) : NoWr P (Instr.extract x i) := by
  unfold Instr.extract; split
  · split <;> exact trivial
  · exact trivial
theorem nw_sliceBound (x : Value) (y : Nat) (c : BoundsCode) : NoWr P (Instr.sliceBound x y c) := by
  unfold Instr.sliceBound
  refine NoWr.bd (nw_asIntOf x) fun ki => ?_
  dsimp only
  split
  · exact trivial
  · exact nw_bounds _ _ _ _
theorem nw_sliceBounds (b : Bool) (n c : Nat) (l h m : Option Value) : NoWr P (Instr.sliceBounds b n c l h m) := by
  unfold Instr.sliceBounds
  cases m <;> cases h <;> cases l <;> dsimp only
  all_goals (repeat (first | exact trivial | exact NoWr.pr _ | exact nw_stuck _ | refine NoWr.bd (nw_sliceBound _ _ _) (fun _ => ?_) | refine NoWr.bd (NoWr.pr _) (fun _ => ?_) | refine NoWr.bd (nw_stuck _) (fun _ => ?_)))
theorem nw_slice (t : TypeId) (x : Value) (l h m : Option Value) : NoWr P (Instr.slice t x l h m) := by
  unfold Instr.slice
  refine NoWr.bd (nw_underlying t) fun d => ?_
  split
  · split
    · exact trivial
    · exact NoWr.bd (nw_sliceBounds _ _ _ _ _ _) fun _ => trivial
  · exact NoWr.bd (nw_sliceBounds _ _ _ _ _ _) fun _ => NoWr.bd (nw_sizeOf _) fun _ => trivial
  · refine NoWr.bd (nw_asAddr _) fun a => NoWr.bd (nw_underlying _) fun d' => ?_
    split
    · exact NoWr.bd (nw_sliceBounds _ _ _ _ _ _) fun _ => NoWr.bd (nw_sizeOf _) fun _ => trivial
    · exact trivial
  · exact trivial
theorem nw_sliceAt (t : TypeId) (x : Value) (l h m : Option Value) : NoWr P (Instr.sliceAt t x l h m) := by
  unfold Instr.sliceAt
  refine NoWr.bd (nw_underlying t) fun d => ?_
  split
  · exact NoWr.bd (nw_sureAddr _) fun _ => NoWr.bd (nw_sliceBounds _ _ _ _ _ _) fun _ => NoWr.bd (nw_sizeOf _) fun _ => trivial
  · exact nw_slice _ _ _ _ _
theorem nw_makeInterface (t : TypeId) (x : Value) : NoWr P (Instr.makeInterface t x) := by
  unfold Instr.makeInterface
  refine NoWr.bd (nw_underlying t) fun d => ?_
  split <;> exact trivial
theorem nw_unary (op : UnOp) (x : Value) : NoWr P (Op.unary op x) := by
  unfold Op.unary Op.intArith Op.intBits
  split <;> first | exact trivial | (split <;> exact trivial)
theorem nw_len (ts : Array TypeId) (t : TypeId) (xs : Array Value) : NoWr P (Builtin.len_ ts t xs) := by
  unfold Builtin.len_
  split
  · refine NoWr.bd (nw_underlying _) fun d => ?_
    split <;> first
      | exact trivial
      | (refine NoWr.bd (nw_underlying _) fun d' => ?_; split <;> exact trivial)
      | (refine NoWr.bd (nw_getObj _) fun d' => ?_; split <;> exact trivial)
  · exact trivial
theorem nw_cap (ts : Array TypeId) (t : TypeId) (xs : Array Value) : NoWr P (Builtin.cap_ ts t xs) := by
  unfold Builtin.cap_
  split
  · refine NoWr.bd (nw_underlying _) fun d => ?_
    split <;> first
      | exact trivial
      | (refine NoWr.bd (nw_underlying _) fun d' => ?_; split <;> exact trivial)
      | (refine NoWr.bd (nw_getObj _) fun d' => ?_; split <;> exact trivial)
  · exact trivial

/-- A type whose values are numbers, bools or strings. -/
def scalarB (P : Program) (t : TypeId) : Bool :=
  match P.underlying t with
  | some (.int _) | some .bool | some .string => true
  | _ => false
def intB (P : Program) (t : TypeId) : Bool :=
  match P.underlying t with
  | some (.int _) => true
  | _ => false

theorem nw_byScalar {α : Type} {t : TypeId} (h : scalarB P t = true) {f : TypeDesc → Sem α}
    (hi : ∀ k, NoWr P (f (.int k))) (hb : NoWr P (f .bool)) (hs : NoWr P (f .string)) : NoWr P (underlying t >>= f) := by
  have : NoWr P ((underlying t).bind f) := by
    show NoWr P ((match P.underlying t with | some d => pure d | none => stuck "no such type" : Sem TypeDesc).bind f)
    unfold scalarB at h
    split at h
    · rename_i hu; rw [hu]; exact hi _
    · rename_i hu; rw [hu]; exact hb
    · rename_i hu; rw [hu]; exact hs
    · cases h
  exact this

theorem nw_floatArith (op : BinOp) (k : FloatKind) (x y : Nat) : NoWr P (Op.floatArith op k x y) := by
  unfold Op.floatArith
  dsimp only
  split <;> (refine NoWr.bd (by first | exact NoWr.pr _ | exact nw_stuck _) fun r => ?_; split <;> first | exact trivial | exact NoWr.bd (nw_choose _) fun _ => trivial)
theorem nw_floatCmp (op : BinOp) (k : FloatKind) (x y : Nat) : NoWr P (Op.floatCmp op k x y) := by
  unfold Op.floatCmp; dsimp only; split <;> exact trivial
theorem nw_intArith (op : BinOp) (k : IntKind) (x y : Int) : NoWr P (Op.intArith op k x y) := by unfold Op.intArith; split <;> exact trivial
theorem nw_intBits (op : BinOp) (k : IntKind) (x y : Int) : NoWr P (Op.intBits op k x y) := by unfold Op.intBits; dsimp only; split <;> exact trivial
theorem nw_intCmp (op : BinOp) (x y : Int) : NoWr P (Op.intCmp op x y) := by unfold Op.intCmp; split <;> exact trivial
theorem nw_intDiv (op : BinOp) (k : IntKind) (x y : Int) : NoWr P (Op.intDiv op k x y) := by
  unfold Op.intDiv; split
  · exact nw_rtp _
  · split <;> exact trivial
theorem nw_shift (op : BinOp) (k j : IntKind) (x y : Int) : NoWr P (Op.shift op k x j y) := by
  unfold Op.shift; split
  · exact nw_rtp _
  · dsimp only; split <;> exact trivial
theorem nw_stringOp (op : BinOp) (x y : ByteArray) : NoWr P (Op.stringOp op x y) := by
  unfold Op.stringOp; dsimp only; split <;> first | exact trivial | (split <;> exact trivial)
theorem nw_floatToFloat (a : FloatKind) (n : Nat) (b : FloatKind) : NoWr P (Conv.floatToFloat a n b) := by
  unfold Conv.floatToFloat
  split
  · exact trivial
  · split
    · exact NoWr.bd (nw_choose _) fun _ => trivial
    · exact trivial
    · dsimp only; split
      · exact NoWr.bd (nw_choose _) fun _ => trivial
      · exact trivial
theorem nw_floatToInt (a : FloatKind) (n : Nat) (b : IntKind) : NoWr P (Conv.floatToInt a n b) := by
  unfold Conv.floatToInt
  dsimp only
  split
  · split
    · exact trivial
    · exact NoWr.bd (nw_choose _) fun _ => trivial
  · exact NoWr.bd (nw_choose _) fun _ => trivial
theorem nw_carith (op : BinOp) (k : FloatKind) (x y : Nat) : NoWr P (Op.Complex.arith op k x y) := by
  unfold Op.Complex.arith
  refine NoWr.bd (nw_floatArith _ _ _ _) fun r => ?_
  split <;> exact trivial
theorem nw_ccmp (op : BinOp) (k : FloatKind) (x y : Nat) : NoWr P (Op.Complex.cmp op k x y) := NoWr.bd (nw_floatCmp _ _ _ _) fun _ => nw_asBool _
theorem nw_cconv (a : FloatKind) (n : Nat) (b : FloatKind) : NoWr P (Op.Complex.conv a n b) := by
  unfold Op.Complex.conv
  split
  · exact trivial
  · refine NoWr.bd (nw_floatToFloat _ _ _) fun r => ?_
    split <;> exact trivial
theorem nw_cmul (x y : Nat) : NoWr P (Op.Complex.mul x y) := nw_carith _ _ _ _
theorem nw_cadd (x y : Nat) : NoWr P (Op.Complex.add x y) := nw_carith _ _ _ _
theorem nw_csub (x y : Nat) : NoWr P (Op.Complex.sub x y) := nw_carith _ _ _ _
theorem nw_cquo (x y : Nat) : NoWr P (Op.Complex.quo x y) := nw_carith _ _ _ _
theorem nw_product (a b c d : Nat) : NoWr P (Op.Complex.product a b c d) :=
  NoWr.bd (nw_cmul _ _) fun _ => NoWr.bd (nw_cmul _ _) fun _ => NoWr.bd (nw_csub _ _) fun _ => NoWr.bd (nw_cmul _ _) fun _ => NoWr.bd (nw_cmul _ _) fun _ => NoWr.bd (nw_cadd _ _) fun _ => trivial
theorem nw_corrected (s a b c d : Nat) : NoWr P (Op.Complex.corrected s a b c d) :=
  NoWr.bd (nw_cmul _ _) fun _ => NoWr.bd (nw_cmul _ _) fun _ => NoWr.bd (nw_cadd _ _) fun _ => NoWr.bd (nw_cmul _ _) fun _ =>
  NoWr.bd (nw_cmul _ _) fun _ => NoWr.bd (nw_cmul _ _) fun _ => NoWr.bd (nw_csub _ _) fun _ => NoWr.bd (nw_cmul _ _) fun _ => trivial
theorem nw_quotient (a b c d : Nat) : NoWr P (Op.Complex.quotient a b c d) := by
  unfold Op.Complex.quotient
  refine NoWr.bd (nw_ccmp _ _ _ _) fun r => ?_
  dsimp only
  split
  all_goals
    refine NoWr.bd (nw_cquo _ _) fun _ => NoWr.bd (nw_cmul _ _) fun _ => NoWr.bd (nw_cadd _ _) fun _ => NoWr.bd (nw_cmul _ _) fun _ => ?_
    first
      | refine NoWr.bd (nw_cadd _ _) fun _ => NoWr.bd (nw_cquo _ _) fun _ => NoWr.bd (nw_cmul _ _) fun _ => NoWr.bd (nw_csub _ _) fun _ => NoWr.bd (nw_cquo _ _) fun _ => NoWr.bd (NoWr.pr _) fun ef => ?_
    refine NoWr.bd (nw_ccmp _ _ _ _) fun _ => NoWr.bd (nw_ccmp _ _ _ _) fun _ => ?_
    split
    · exact trivial
    · split
      · exact NoWr.bd (nw_cmul _ _) fun _ => NoWr.bd (nw_cmul _ _) fun _ => trivial
      · split
        · exact nw_corrected _ _ _ _ _
        · split
          · exact nw_corrected _ _ _ _ _
          · exact trivial
theorem nw_complexOp (op : BinOp) (k : FloatKind) (a b c d : Nat) : NoWr P (Op.complexOp op k a b c d) := by
  unfold Op.complexOp
  split
  · exact NoWr.bd (nw_carith _ _ _ _) fun _ => NoWr.bd (nw_carith _ _ _ _) fun _ => trivial
  · exact NoWr.bd (nw_carith _ _ _ _) fun _ => NoWr.bd (nw_carith _ _ _ _) fun _ => trivial
  · refine NoWr.bd (nw_cconv _ _ _) fun _ => NoWr.bd (nw_cconv _ _ _) fun _ => NoWr.bd (nw_cconv _ _ _) fun _ => NoWr.bd (nw_cconv _ _ _) fun _ => ?_
    exact NoWr.bd (nw_product _ _ _ _) fun _ => NoWr.bd (nw_cconv _ _ _) fun _ => NoWr.bd (nw_cconv _ _ _) fun _ => trivial
  · refine NoWr.bd (nw_cconv _ _ _) fun _ => NoWr.bd (nw_cconv _ _ _) fun _ => NoWr.bd (nw_cconv _ _ _) fun _ => NoWr.bd (nw_cconv _ _ _) fun _ => ?_
    exact NoWr.bd (nw_quotient _ _ _ _) fun _ => NoWr.bd (nw_cconv _ _ _) fun _ => NoWr.bd (nw_cconv _ _ _) fun _ => trivial
  · exact NoWr.bd (nw_ccmp _ _ _ _) fun _ => NoWr.bd (nw_ccmp _ _ _ _) fun _ => trivial
  · exact NoWr.bd (nw_ccmp _ _ _ _) fun _ => NoWr.bd (nw_ccmp _ _ _ _) fun _ => trivial
  · exact trivial
theorem nw_convert {s d : TypeId} (hs : intB P s = true) (hd : intB P d = true) (x : Value) : NoWr P (convert s d x) := by
  unfold convert
  have hs' : ∃ k, P.underlying s = some (.int k) := by unfold intB at hs; split at hs <;> first | exact ⟨_, by assumption⟩ | cases hs
  have hd' : ∃ k, P.underlying d = some (.int k) := by unfold intB at hd; split at hd <;> first | exact ⟨_, by assumption⟩ | cases hd
  obtain ⟨ks, hs'⟩ := hs'
  obtain ⟨kd, hd'⟩ := hd'
  have key : ∀ (f : TypeDesc → TypeDesc → Sem Value), NoWr P (f (.int ks) (.int kd)) → NoWr P (underlying s >>= fun a => underlying d >>= fun b => f a b) := by
    intro f h
    show NoWr P ((match P.underlying s with | some d => pure d | none => stuck "no such type" : Sem TypeDesc).bind fun a => (underlying d).bind fun b => f a b)
    rw [hs']
    show NoWr P ((match P.underlying d with | some d => pure d | none => stuck "no such type" : Sem TypeDesc).bind fun b => f (.int ks) b)
    rw [hd']
    exact h
  refine key _ ?_
  cases x <;> first | exact trivial | exact nw_floatToInt _ _ _ | (rename_i a; cases a <;> exact trivial)
theorem nw_asNumber (a : Addr) (b : Bool) : NoWr P (asNumber a b) := NoWr.bd (nw_newObj _) fun _ => trivial
theorem nw_movedPointer (t : TypeId) (x y : Value) : NoWr P (movedPointer t x y) := by
  unfold movedPointer
  dsimp only
  split
  · refine NoWr.bd (nw_numberAt _) fun n => ?_
    split
    · exact trivial
    · refine NoWr.bd (nw_asInt _) (fun _ => ?_)
      repeat' (first | exact trivial | refine NoWr.bd (nw_viewAt _) (fun _ => ?_) | refine nw_shp (fun _ => ?_) (fun w a u hw h => by cases h) | refine NoWr.bd nw_program (fun _ => ?_) | refine NoWr.bd (nw_unsup _) (fun _ => ?_) | split)
  · cases x
    case pointer ptr =>
      refine NoWr.bd (nw_asInt _) (fun _ => ?_)
      repeat' (first | exact trivial | refine NoWr.bd (nw_viewAt _) (fun _ => ?_) | refine nw_shp (fun _ => ?_) (fun w a u hw h => by cases h) | refine NoWr.bd nw_program (fun _ => ?_) | refine NoWr.bd (nw_unsup _) (fun _ => ?_) | split)
    all_goals exact trivial
theorem nw_movedNumber (t : TypeId) (x y : Value) : NoWr P (movedNumber t x y) := by
  unfold movedNumber
  refine NoWr.bd (nw_underlying _) (fun d => ?_)
  cases x
  case pointer ptr =>
    cases ptr with
    | none =>
      dsimp only
      split
      · exact trivial
      · refine NoWr.bd (nw_asInt _) (fun _ => ?_)
        repeat' (first | exact trivial | refine NoWr.bd (nw_viewAt _) (fun _ => ?_) | refine nw_shp (fun _ => ?_) (fun w a u hw h => by cases h) | refine NoWr.bd nw_program (fun _ => ?_) | refine NoWr.bd (nw_unsup _) (fun _ => ?_) | split)
    | some n =>
      dsimp only
      split
      · exact trivial
      · refine NoWr.bd (nw_behindNumber _) (fun al => ?_)
        refine NoWr.bd ?_ (fun v => ?_)
        · refine NoWr.bd (nw_asInt _) (fun _ => ?_)
          repeat' (first | exact trivial | refine NoWr.bd (nw_viewAt _) (fun _ => ?_) | refine nw_shp (fun _ => ?_) (fun w a u hw h => by cases h) | refine NoWr.bd nw_program (fun _ => ?_) | refine NoWr.bd (nw_unsup _) (fun _ => ?_) | split)
        · split
          · exact nw_asNumber _ _
          · exact trivial
  all_goals (dsimp only; split <;> exact trivial)
theorem nw_twoPlaces (a b : Addr) : NoWr P (Op.twoPlaces a b) := by
  unfold Op.twoPlaces
  refine NoWr.bd nw_program fun p => ?_
  split
  · exact trivial
  · exact NoWr.bd (nw_byteOf _) fun _ => NoWr.bd (nw_byteOf _) fun _ => trivial
theorem nw_addrMod (k : IntKind) (a : Addr) (n : Int) : NoWr P (Op.addrMod k a n) := by
  unfold Op.addrMod
  refine nw_shp (fun s => ?_) (fun w a u hw h => by cases h)
  split
  · refine NoWr.bd (nw_typeInfo _) fun i => ?_
    dsimp only
    split
    · exact trivial
    · exact NoWr.bd (nw_byteOf _) fun _ => trivial
  · exact trivial
theorem nw_addrCmp (op : BinOp) (a b : Addr) : NoWr P (Op.addrCmp op a b) := by
  unfold Op.addrCmp
  refine NoWr.bd (nw_twoPlaces _ _) fun xy => ?_
  dsimp only
  split <;> exact trivial
theorem nw_equalIn {t : TypeId} (h : scalarB P t = true) (n : Nat) (x y : Value) : NoWr P (Op.equalIn n t x y) := by
  cases n with
  | zero => exact trivial
  | succ n =>
    unfold Op.equalIn
    refine nw_byScalar h ?_ ?_ ?_
    · intro k
      dsimp only
      split <;> first | exact trivial | contradiction | (split <;> exact trivial) | skip
      refine NoWr.bd (nw_behindNumber _) fun _ => NoWr.bd (nw_behindNumber _) fun _ => NoWr.bd nw_program fun _ => ?_
      split
      · exact NoWr.bd (nw_byteOf _) fun _ => NoWr.bd (nw_byteOf _) fun _ => trivial
      · refine NoWr.bd (nw_typeInfo _) fun _ => ?_
        split
        · split <;> exact trivial
        · exact trivial
    · dsimp only
      split <;> first | exact trivial | contradiction
    · dsimp only
      split <;> first | exact trivial | contradiction
theorem nw_eqGuardIn {t : TypeId} (h : scalarB P t = true) (n : Nat) (x y : Value) : NoWr P (Op.eqGuardIn n t x y) := by
  cases n with
  | zero => exact trivial
  | succ n =>
    unfold Op.eqGuardIn
    exact nw_byScalar h (fun k => trivial) trivial trivial
theorem nw_eqGuard (op : BinOp) {t : TypeId} (h : scalarB P t = true) (x y : Operand) (a b : Value) : NoWr P (eqGuard op t x y a b) := by
  unfold eqGuard
  repeat' (first | exact trivial | exact nw_unsup _ | refine NoWr.bd (nw_eqGuardIn h _ _ _) (fun _ => ?_) | refine NoWr.bd nw_program (fun _ => ?_) | split)
theorem nw_binOp (op : BinOp) {t : TypeId} (h : scalarB P t = true) (x y : Value) : NoWr P (binOp op t x y) := by
  unfold binOp
  split <;> first
    | exact nw_shift _ _ _ _ _
    | exact nw_complexOp _ _ _ _ _ _
    | exact nw_stringOp _ _ _
    | exact nw_movedNumber _ _ _
    | exact NoWr.bd (nw_equalIn h _ _ _) fun _ => trivial
    | exact NoWr.bd (nw_behindNumber _) fun _ => NoWr.bd (nw_behindNumber _) fun _ => NoWr.bd (nw_twoPlaces _ _) fun _ => trivial
    | exact NoWr.bd (nw_behindNumber _) fun _ => NoWr.bd (nw_behindNumber _) fun _ => nw_addrCmp _ _ _
    | exact NoWr.bd (nw_behindNumber _) fun _ => nw_addrMod _ _ _
    | exact trivial
    | (split
       · exact trivial
       · first
           | exact nw_complexOp _ _ _ _ _ _
           | (split <;> first | exact nw_intArith _ _ _ _ | exact nw_intDiv _ _ _ _ | exact nw_intBits _ _ _ _ | exact nw_intCmp _ _ _ | exact nw_floatArith _ _ _ _ | exact nw_floatCmp _ _ _ _))
    | (refine NoWr.bd (nw_underlying _) fun _ => ?_
       split
       · exact nw_movedPointer _ _ _
       · exact nw_movedNumber _ _ _)
theorem nw_arrMapM {α β : Type} (f : α → Sem β) (hf : ∀ a, NoWr P (f a)) (xs : Array α) : NoWr P (xs.mapM f) := by
  rw [Array.mapM_eq_foldlM]
  rw [← Array.foldlM_toList]
  generalize (#[] : Array β) = acc
  induction xs.toList generalizing acc with
  | nil => exact NoWr.pr _
  | cons x l ih =>
    rw [List.foldlM_cons]
    exact NoWr.bd (NoWr.bd (hf x) fun _ => NoWr.pr _) fun _ => ih _
theorem nw_build (t : TypeId) (ps : Array (Nat × Value)) : NoWr P (Instr.build t ps) := by
  unfold Instr.build
  refine NoWr.bd (nw_zeroValue t) fun z => NoWr.bd (nw_underlying t) fun d => ?_
  split
  · refine NoWr.bd (nw_arrMapM _ (fun f => NoWr.bd (nw_sizeOf _) fun _ => NoWr.pr _) _) fun places => ?_
    split <;> exact trivial
  · refine NoWr.bd (nw_sizeOf _) fun n => ?_
    split <;> exact trivial
  · exact trivial
theorem nw_followBlind : ∀ (l : List FieldStep) (t : TypeId) (x : Option Value), NoWr P (followBlind l t x)
  | [], t, x => trivial
  | s :: rest, t, x => by
    unfold followBlind
    refine NoWr.bd (nw_underlying _) fun d => ?_
    split
    · split
      · split <;> first | exact trivial | exact nw_followBlind rest _ _ | exact NoWr.bd (nw_part _ _ _) fun _ => nw_followBlind rest _ _
      · exact trivial
    · exact trivial
theorem nw_nilAhead : ∀ (n : Nat) (t : TypeId) (v : Value) (s : String), NoWr P (nilAhead n t v s)
  | 0, _, _, _ => trivial
  | n + 1, t, v, s => by
    unfold nilAhead
    refine NoWr.bd (nw_typeInfo _) fun d => ?_
    split
    · refine NoWr.bd (nw_followBlind _ _ _) fun r => ?_
      split
      · exact trivial
      · split <;> first | exact trivial | exact nw_nilAhead n _ _ _ | (refine NoWr.bd (nw_underlying _) fun _ => ?_; split <;> exact trivial)
    · exact trivial
/-- The operations that write nothing. -/
def calmB (P : Program) : Op → Bool
  | .move _ | .assign _ | .pick _ _ _ | .extract _ _ | .field _ _ _ | .fieldAddr _ _ _ | .indexAddr _ _ _ | .index _ _ _ | .slice _ _ _ _ _ | .load _ _ | .unOp _ _ _ | .makeInterface _ _ | .build _ _ | .nilCheck _ => true
  | .binOp _ t _ _ _ => scalarB P t
  | .convert s d _ => intB P s && intB P d
  | .call ⟨.builtin .len, _, _⟩ | .call ⟨.builtin .cap, _, _⟩ => true
  | _ => false
theorem calm_nowr {o : Oper} (h : calmB P o.op = true) (ρ : Operand → Value) :
    NoWr P (execOp ρ o) ∧ ∀ {w u : World} {n : Next}, (execOp ρ o).run P w = .ok n u → ∃ v, n = .value v := by
  obtain ⟨dst, op, type, pos, after, guard⟩ := o
  have V : ∀ {s : Sem Value}, NoWr P s → NoWr P (do pure (Next.value (← s)) : Sem Next) ∧ ∀ {w u : World} {n : Next}, (do pure (Next.value (← s)) : Sem Next).run P w = .ok n u → ∃ v, n = .value v := by
    intro s hs
    refine ⟨NoWr.bd hs fun _ => trivial, fun {w u n} hr => ?_⟩
    rw [Sem.run_bind] at hr
    generalize s.run P w = r at hr
    cases r with
    | ok a w' => simp only [Result.andThen, Sem.run_pure, Result.ok.injEq] at hr; exact ⟨a, hr.1.symm⟩
    | halt x w' => simp only [Result.andThen] at hr; cases hr
  have W : ∀ v : Value, NoWr P (pure (Next.value v) : Sem Next) ∧ ∀ {w u : World} {n : Next}, (pure (Next.value v) : Sem Next).run P w = .ok n u → ∃ v, n = .value v := by
    intro v
    refine ⟨trivial, fun {w u n} hr => ?_⟩
    simp only [Sem.run_pure, Result.ok.injEq] at hr
    exact ⟨v, hr.1.symm⟩
  unfold calmB at h
  dsimp only at h
  split at h <;> simp only [execOp]
  · exact W _
  · exact W _
  · refine ⟨NoWr.bd (nw_asBool _) fun _ => trivial, fun {w u n} hr => ?_⟩
    rw [Sem.run_bind] at hr
    generalize (asBool _).run P w = r at hr
    cases r with
    | ok a w' => simp only [Result.andThen, Sem.run_pure, Result.ok.injEq] at hr; exact ⟨_, hr.1.symm⟩
    | halt x w' => simp only [Result.andThen] at hr; cases hr
  · exact V (nw_extract _ _)
  · exact V (nw_field _ _ _)
  · exact V (nw_fieldAt _ _ _)
  · exact V (nw_indexAt _ _ _)
  · exact V (nw_index _ _ _)
  · exact V (nw_sliceAt _ _ _ _ _)
  · exact V (nw_loadAt _ _)
  · exact V (nw_unary _ _)
  · exact V (nw_makeInterface _ _)
  · exact V (nw_build _ _)
  · split
    · exact ⟨nw_rtp _, fun {w u n} hr => absurd hr (nil_halts _ _ _)⟩
    · exact ⟨nw_rtp _, fun {w u n} hr => absurd hr (nil_halts _ _ _)⟩
    · exact ⟨nw_rtp _, fun {w u n} hr => absurd hr (nil_halts _ _ _)⟩
    · split
      · exact ⟨nw_rtp _, fun {w u n} hr => absurd hr (nil_halts _ _ _)⟩
      · refine ⟨NoWr.bd nw_program fun _ => NoWr.bd (nw_nilAhead _ _ _ _) fun b => ?_, fun {w u n} hr => ?_⟩
        · split
          · exact NoWr.bd (nw_unsup _) fun _ => trivial
          · exact trivial
        · refine val_bind (fun _ _ _ _ hr => ?_) hr
          refine val_bind (fun b w u n hr => ?_) hr
          split at hr
          · refine val_bind (fun _ _ _ _ hr => ?_) hr
            simp only [Sem.run_pure, Result.ok.injEq] at hr
            exact ⟨_, hr.1.symm⟩
          · simp only [Sem.run_pure, Result.ok.injEq] at hr
            exact ⟨_, hr.1.symm⟩
      · exact W _
    · exact W _
  · exact V (NoWr.bd (nw_eqGuard _ h _ _ _ _) fun _ => nw_binOp _ h _ _)
  · simp only [Bool.and_eq_true] at h
    exact V (nw_convert h.1 h.2 _)
  · exact V (nw_len _ _ _)
  · exact V (nw_cap _ _ _)
  · cases h
end
end Go.Ord
