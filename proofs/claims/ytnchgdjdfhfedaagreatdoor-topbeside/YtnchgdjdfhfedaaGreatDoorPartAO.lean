/- Of this claim's own texts these, one behind the other: AsmPure, AsmMem, Asm1, Asm2. No statement of the seat is proved here; no condition but those that stand at the theorems. -/
import Derived.Test.YtnchgdjdfhfedaaGreatDoorPartAC
import Derived.Test.YtnchgdjdfhfedaaGreatDoorRows
import Derived.Test.YtnchgdjdfhfedaaGreatDoorPartAD
import Derived.Test.YtnchgdjdfhfedaaGreatDoorPartAE
import Derived.Maps.OwnOps
import Derived.Maps.OwnSet
import Derived.Maps.Views
import Derived.StringKeys
set_option linter.unusedSimpArgs false
set_option linter.unusedVariables false
namespace Go.Baro

/-- A name. -/
abbrev Nm := List UInt8
/-- A builder: the code, the registers and the labels in the order of their names' first use, the jumps, whether a name was given twice. -/
structure Bs where
  code : List Ins
  regs : List (Nm × Int)
  labs : List (Nm × Int)
  jmps : List (Int × Nm)
  twice : Bool
def nmAsk : List (Nm × Int) → Nm → Option Int
  | [], _ => none
  | p :: ks, s => if p.1 = s then some p.2 else nmAsk ks s
theorem nmAsk_append (a b : List (Nm × Int)) (s : Nm) : nmAsk (a ++ b) s = (nmAsk a s).or (nmAsk b s) := by
  induction a with
  | nil => simp [nmAsk]
  | cons p a ih =>
    rw [List.cons_append, nmAsk, nmAsk]
    split
    · rfl
    · exact ih
/-- The number of a register; a new one is the next. -/
def Bs.rg (b : Bs) (s : Nm) : Bs × Int := match nmAsk b.regs s with
  | some v => (b, v)
  | none => ({ b with regs := b.regs ++ [(s, (b.regs.length : Int))] }, (b.regs.length : Int))
def Bs.put (b : Bs) (o : Ins) : Bs := { b with code := b.code ++ [o] }
def Bs.jmp (b : Bs) (l : Nm) : Bs := { b with jmps := b.jmps ++ [((b.code.length : Int), l)] }
def Bs.lab (b : Bs) (l : Nm) : Bs := { b with labs := b.labs ++ [(l, (b.code.length : Int))] }
def Bs.set (b : Bs) (to : Nm) (n : Int) : Bs := (b.rg to).1.put ⟨1, (b.rg to).2, n, 0, 0⟩
def Bs.two (b : Bs) (x y : Nm) : Bs × Int × Int := (((b.rg x).1.rg y).1, (b.rg x).2, ((b.rg x).1.rg y).2)
def Bs.three (b : Bs) (x y z : Nm) : Bs × Int × Int × Int := (((b.two x y).1.rg z).1, (b.two x y).2.1, (b.two x y).2.2, ((b.two x y).1.rg z).2)
def Bs.copy (b : Bs) (x y : Nm) : Bs := (b.two x y).1.put ⟨2, (b.two x y).2.1, (b.two x y).2.2, 0, 0⟩
def Bs.op3 (b : Bs) (k : Int) (x y z : Nm) : Bs := (b.three x y z).1.put ⟨k, (b.three x y z).2.1, (b.three x y z).2.2.1, (b.three x y z).2.2.2, 0⟩
def Bs.jump (b : Bs) (l : Nm) : Bs := (b.jmp l).put ⟨10, 0, 0, 0, 0⟩
def Bs.when (b : Bs) (r l : Nm) : Bs := ((b.jmp l).rg r).1.put ⟨11, ((b.jmp l).rg r).2, 0, 0, 0⟩
def Bs.unless (b : Bs) (r l : Nm) : Bs := ((b.jmp l).rg r).1.put ⟨12, ((b.jmp l).rg r).2, 0, 0, 0⟩
def Bs.load (b : Bs) (x y : Nm) (o : Int) : Bs := (b.two x y).1.put ⟨13, (b.two x y).2.1, (b.two x y).2.2, o, 0⟩
def Bs.store (b : Bs) (x y : Nm) (o : Int) : Bs := (b.two x y).1.put ⟨14, (b.two x y).2.1, (b.two x y).2.2, o, 0⟩
def Bs.cas (b : Bs) (x y : Nm) (o : Int) (z : Nm) : Bs := (b.three x y z).1.put ⟨15, (b.three x y z).2.1, (b.three x y z).2.2.1, o, (b.three x y z).2.2.2⟩
def Bs.emit1 (b : Bs) (x : Nm) : Bs := (b.rg x).1.put ⟨16, (b.rg x).2, 0, 0, 0⟩
def Bs.emit (b : Bs) (xs : List Nm) : Bs := xs.foldl Bs.emit1 b
def Bs.new (xs : List Nm) : Bs := xs.foldl (fun b x => (b.rg x).1) ⟨[], [], [], [], false⟩
/-- An instruction whose target is known. -/
def tgt (o : Ins) (v : Int) : Ins := if o.k = 10 then { o with a := v } else { o with b := v }
/-- The targets of the jumps are put in. -/
def rslv (labs : List (Nm × Int)) : List (Int × Nm) → List Ins → Option (List Ins)
  | [], c => some c
  | j :: js, c => match nmAsk labs j.2, c[j.1.toNat]? with
    | some v, some o => rslv labs js (c.set j.1.toNat (tgt o v))
    | _, _ => none
/-- The code, where nothing is wrong with it. -/
def Bs.fin (b : Bs) : Option (List Ins) := if b.twice = true then none else
  match rslv b.labs b.jmps b.code with
  | none => none
  | some c => if okC c then some c else none
theorem Bs.fin_some {b : Bs} {c : List Ins} (h : b.fin = some c) : b.twice = false ∧ rslv b.labs b.jmps b.code = some c ∧ okC c := by
  unfold Bs.fin at h
  by_cases ht : b.twice = true
  · rw [if_pos ht] at h; cases h
  · rw [if_neg ht] at h
    cases hr : rslv b.labs b.jmps b.code with
    | none => rw [hr] at h; cases h
    | some c' =>
      rw [hr] at h
      dsimp only at h
      split at h
      · cases h; exact ⟨by simpa using ht, rfl, by assumption⟩
      · cases h
theorem rslv_len (labs : List (Nm × Int)) : ∀ (js : List (Int × Nm)) (c c' : List Ins), rslv labs js c = some c' → c'.length = c.length
  | [], c, c', h => by cases h; rfl
  | j :: js, c, c', h => by
    unfold rslv at h
    split at h
    · rw [rslv_len labs js _ c' h]; simp
    · cases h
/-- A jump that is resolved. -/
theorem rslv_at (labs : List (Nm × Int)) {c' : List Ins} : ∀ (js : List (Int × Nm)) (c : List Ins), rslv labs js c = some c' → ∀ (i : Nat) (j : Int × Nm), js[i]? = some j → ∃ v o ci, nmAsk labs j.2 = some v ∧ rslv labs (js.drop i) ci = some c' ∧ rslv labs (js.take i) c = some ci ∧ ci[j.1.toNat]? = some o ∧ rslv labs (js.take (i + 1)) c = some (ci.set j.1.toNat (tgt o v)) ∧ rslv labs (js.drop (i + 1)) (ci.set j.1.toNat (tgt o v)) = some c'
  | [], c, h, i, j, hj => by simp at hj
  | k :: js, c, h, 0, j, hj => by
    simp at hj
    subst hj
    have h' := h
    unfold rslv at h
    cases ha : nmAsk labs k.2 with
    | none => simp [ha] at h
    | some v =>
      cases hc : c[k.1.toNat]? with
      | none => simp [ha, hc] at h
      | some o =>
        simp only [ha, hc] at h
        exact ⟨v, o, c, rfl, h', rfl, hc, by simp [rslv, ha, hc], by simpa using h⟩
  | k :: js, c, h, i + 1, j, hj => by
    unfold rslv at h
    cases ha : nmAsk labs k.2 with
    | none => simp [ha] at h
    | some v =>
      cases hc : c[k.1.toNat]? with
      | none => simp [ha, hc] at h
      | some o =>
        simp only [ha, hc] at h
        obtain ⟨v', o', ci, q1, q2, q3, q4, q5, q6⟩ := rslv_at labs js _ h i j (by simpa using hj)
        refine ⟨v', o', ci, q1, by simpa using q2, ?_, q4, ?_, by simpa using q6⟩
        · rw [List.take_succ_cons, rslv]
          simp only [ha, hc]
          exact q3
        · rw [List.take_succ_cons, rslv]
          simp only [ha, hc]
          exact q5
section
variable (b : Bs) (x y z l : Nm) (n k : Int)
theorem labs_rg : (b.rg x).1.labs = b.labs := by unfold Bs.rg; split <;> rfl
theorem labs_set : (b.set x n).labs = b.labs := labs_rg b x
theorem labs_two : (b.two x y).1.labs = b.labs := by unfold Bs.two; rw [labs_rg, labs_rg]
theorem labs_three : (b.three x y z).1.labs = b.labs := by unfold Bs.three; rw [labs_rg, labs_two]
theorem labs_copy : (b.copy x y).labs = b.labs := labs_two b x y
theorem labs_op3 : (b.op3 k x y z).labs = b.labs := labs_three b x y z
theorem labs_jump : (b.jump l).labs = b.labs := rfl
theorem labs_when : (b.when x l).labs = b.labs := labs_rg (b.jmp l) x
theorem labs_unless : (b.unless x l).labs = b.labs := labs_rg (b.jmp l) x
theorem labs_load : (b.load x y n).labs = b.labs := labs_two b x y
theorem labs_store : (b.store x y n).labs = b.labs := labs_two b x y
theorem labs_cas : (b.cas x y n z).labs = b.labs := labs_three b x y z
theorem nmAsk_lab {b : Bs} {l l' : Nm} (h : nmAsk b.labs l = none) (hne : l' ≠ l) : nmAsk (b.lab l').labs l = none := by
  unfold Bs.lab
  dsimp only
  rw [nmAsk_append, h]
  simp [nmAsk, hne]
theorem labs_fold {α : Type} {f : Bs → α → Bs} (h : ∀ b a, (f b a).labs = b.labs) : ∀ (l : List α) (b : Bs), (l.foldl f b).labs = b.labs
  | [], b => rfl
  | a :: l, b => by rw [List.foldl_cons, labs_fold h l, h]
theorem labs_new (xs : List Nm) : (Bs.new xs).labs = [] := labs_fold (f := fun b x => (b.rg x).1) (fun b a => labs_rg b a) xs _
end
end Go.Baro

set_option linter.unusedSimpArgs false
set_option linter.unusedVariables false
namespace Go.Proofs.YtnchgdjdfhfedaaGreatDoor
open Go.RowKit Go.Ord Go.Baro Go.Maps Go.WideMaps

theorem results_noneA {P : Program} {fn : Func} (h : fn.results = #[]) (tmps : Array Value) (w : World) : (results fn tmps).run P w = .ok (.tuple #[]) w := by
  unfold results
  simp [h]
/-- The value of a name. -/
def nmV (l : Nm) : Value := .string ⟨l.toArray⟩
/-- The types of rows and boxes that change while a code is built. -/
def tAsm (t : TypeId) : Prop := t = 67 ∨ t = 86 ∨ t = 92
theorem tAsm_op : tAsm 67 := .inl rfl
theorem tAsm_bd : tAsm 86 := .inr (.inl rfl)
theorem tAsm_jp : tAsm 92 := .inr (.inr rfl)
theorem tAsm_str : ¬ tAsm 9 := by unfold tAsm; decide
theorem eltAOp : Elt Tryz.prog 28 67 (.agg #[.int .i64 0, .int .i64 0, .int .i64 0, .int .i64 0, .int .i64 0]) 5 40 := Elt.mk' Tryz.underlying28 (by kernel_rfl) rfl (by decide)
theorem eltAJ : Elt Tryz.prog 84 92 (.agg #[.int .i64 0, .string ⟨#[]⟩]) 2 24 := Elt.mk' Tryz.underlying84 (by kernel_rfl) rfl (by decide)
theorem strKeyed : Keyed Tryz.prog 9 := string_keyed Tryz.underlying9
theorem zeroI (w : World) : (zeroValue 3).run Tryz.prog w = .ok (.int .i64 0) w := by kernel_rfl
/-- A jump's cells. -/
def jmpV (j : Int × Nm) : List Value := [.int .i64 j.1, nmV j.2]
def cellsJ (l : List (Int × Nm)) : List Value := l.flatMap jmpV
theorem cellsJ_length (l : List (Int × Nm)) : (cellsJ l).length = l.length * 2 := by
  induction l with
  | nil => rfl
  | cons f l ih => simp only [cellsJ, jmpV, List.flatMap_cons, List.length_append, List.length_cons, List.length_nil] at ih ⊢; omega
theorem cellsJ_append (a b : List (Int × Nm)) : cellsJ (a ++ b) = cellsJ a ++ cellsJ b := by simp [cellsJ]
/-- The map in block b holds what the list tells. -/
def MS (w : World) (b N : Nat) (ks : List (Nm × Int)) : Prop := ∃ D : DataW Unit, w.ownsMap Tryz.prog 9 (plainElem Tryz.prog 3) b N D ∧ Tidy D ∧ size D = ks.length ∧
  (∀ l : Nm, has D (.string l) = (nmAsk ks l).isSome) ∧ ∀ l : Nm, D.atKey (.string l) (.lit (.int .i64 0)) = .lit (.int .i64 ((nmAsk ks l).getD 0))
section
variable {w w' : World} {b N : Nat} {ks : List (Nm × Int)}
theorem MS.lt (h : MS w b N ks) : b < w.heap.size := by obtain ⟨D, h, _⟩ := h; exact h.lt
theorem MS.mono (h : MS w b N ks) {N' : Nat} (hn : N ≤ N') : MS w b N' ks := by obtain ⟨D, h, h2⟩ := h; exact ⟨D, h.mono hn, h2⟩
theorem MS.kept (h : MS w b N ks) {row : Option Nat} (hg : w.grownBy w' row) (hne : some b ≠ row) : MS w' b N ks := by obtain ⟨D, h, h2⟩ := h; exact ⟨D, h.kept hg hne, h2⟩
theorem MS.map (h : MS w b N ks) : ∃ es ck, w.heap[b]? = some (.map es ck) := by obtain ⟨D, ⟨es, ck, hh, _⟩, _⟩ := h; exact ⟨es, ck, hh⟩
theorem MS.ne (h : MS w b N ks) {g : Nat} {t : TypeId} {cs : Array Value} {fr : Nat × Nat} (hg : w.heap[g]? = some (.cells cs t fr)) : b ≠ g := by
  obtain ⟨es, ck, hh⟩ := h.map
  rintro rfl
  rw [hh] at hg
  cases hg
theorem MS.ne_own (h : MS w b N ks) {base : Nat} {e : TypeId} {s n : Nat} {v : Value} {xs : List Value} (ho : w.ownsRow base e s v n xs) : some b ≠ v.ownBlock := by
  rcases ho.2 with ⟨rfl, _⟩ | ⟨g, cap, cur, rfl, _, hh, _⟩
  · simp [Value.ownBlock]
  · have := h.ne hh
    simpa [Value.ownBlock] using this
theorem MS.made (w : World) : MS (w.alloc (.map #[] 0)) w.heap.size 0 [] := ⟨_, World.ownsMap_made _ _ _ _, tidy_empty, rfl, fun _ => rfl, fun _ => rfl⟩
theorem nm_key {l : Nm} (hl : l.length ≤ 1000) : keyOf Tryz.prog 9 (nmV l) = some (.string l) := by
  have := keyOf_string_mk (P := Tryz.prog) (k := 9) Tryz.underlying9 (s := ⟨l.toArray⟩) (by show l.toArray.size ≤ maxLen; simp; unfold maxLen; omega)
  simpa [nmV] using this
theorem MS.look (h : MS w b N ks) {l : Nm} (hl : l.length ≤ 1000) : (Instr.lookup 83 (.map (some b)) (nmV l) true).run Tryz.prog w = .ok (.tuple #[.int .i64 ((nmAsk ks l).getD 0), .bool (nmAsk ks l).isSome]) w := by
  obtain ⟨D, h, h1, h2, h3, h4⟩ := h
  obtain ⟨v, ps, hrun, hv⟩ := h.look_ok strKeyed Tryz.underlying83 (zeroI _) (plainElem_int Tryz.underlying3 (by decide)) (nm_key hl)
  rw [h4] at hv
  obtain ⟨c, rfl, hc, hwc⟩ := plainElem_int_inv Tryz.underlying3 hv
  simp only [Prod.mk.injEq, DataW.lit.injEq, Lit.int.injEq, true_and] at hc
  rw [hrun, h3, hc.1]
theorem MS.len (h : MS w b N ks) (ty : TypeId) : (Builtin.len_ #[83] ty #[.map (some b)]).run Tryz.prog w = .ok (.int .i64 ks.length) w := by
  obtain ⟨D, h, h1, h2, h3, h4⟩ := h
  rw [h.len Tryz.underlying83 ty, h2]
theorem MS.update (h : MS w b N ks) {l : Nm} (hl : l.length ≤ 1000) {v : Int} (hv : inW v) (hN : N < 1000000) (ha : nmAsk ks l = none) : ∃ w', (Instr.mapUpdate 83 (.map (some b)) (nmV l) (.int .i64 v)).run Tryz.prog w = .ok () w' ∧ MS w' b (N + 1) (ks ++ [(l, v)]) ∧ w.grownBy w' (some b) := by
  obtain ⟨D, h, h1, h2, h3, h4⟩ := h
  obtain ⟨w', hrun, hown, hg⟩ := h.update strKeyed Tryz.underlying83 (by unfold maxLen; omega) (nm_key hl) (plainElem_int Tryz.underlying3 (by unfold inW at hv; exact WalkArith.wf_i64 (by omega)))
  have hk : WideAt.IsKeyLit (Lit.string l) := by simp [WideAt.IsKeyLit]
  refine ⟨w', hrun, ⟨_, hown, h1.put hk _, ?_, fun l' => ?_, fun l' => ?_⟩, hg⟩
  · rw [size_put h1, h3, ha]
    simp [h2]
  · rw [nmAsk_append]
    by_cases he : l' = l
    · subst he
      rw [has_put_same h1.isMap hk, ha]
      simp [nmAsk]
    · rw [has_put_other (by simpa using he), h3]
      have he' : ¬ l = l' := fun e => he e.symm
      have : nmAsk [(l, v)] l' = none := by simp [nmAsk, he']
      rw [this]
      simp
  · rw [nmAsk_append]
    by_cases he : l' = l
    · subst he
      rw [atKey_put_same h1.isMap hk, ha]
      simp [nmAsk]
    · rw [atKey_put_other (by simpa using he), h4]
      have he' : ¬ l = l' := fun e => he e.symm
      have : nmAsk [(l, v)] l' = none := by simp [nmAsk, he']
      rw [this]
      simp
end
theorem wp_lookN {w : World} {ops : Array Oper} {rest : List Oper} {o : Oper} {a : Act} {Q : Exit → Act → World → Prop} (hg : o.guard = none) (m x : Operand) (hop : o.op = Op.lookup 83 m x true) (b N : Nat) (ks : List (Nm × Int)) (l : Nm)
    (hm : a.eval m = .map (some b)) (h : MS w b N ks) (hx : a.eval x = nmV l) (hl : l.length ≤ 1000) (v : Option Int) (hv : nmAsk ks l = v) (hK : wpList Tryz.prog ops Q rest (a.put o.dst (.tuple #[.int .i64 (v.getD 0), .bool v.isSome])) w) : wpList Tryz.prog ops Q (o :: rest) a w := by
  refine wpList_plain hg fun K' hK' => ?_
  have hrun := h.look hl
  rw [hv] at hrun
  unfold Oper.wp
  simp [execOp, hop, hm, hx, hrun, Result.andThen]
  exact hK' _ _ hK
theorem wp_updS {w : World} {ops : Array Oper} {rest : List Oper} {o : Oper} {a : Act} {Q : Exit → Act → World → Prop} (hg : o.guard = none) (hd : o.dst = none) (m x y : Operand) (hop : o.op = Op.mapUpdate 83 m x y) (b N : Nat) (ks : List (Nm × Int)) (l : Nm) (v : Int)
    (hm : a.eval m = .map (some b)) (h : MS w b N ks) (hx : a.eval x = nmV l) (hy : a.eval y = .int .i64 v) (hl : l.length ≤ 1000) (hv : inW v) (hN : N < 1000000) (ha : nmAsk ks l = none)
    (hK : ∀ w', Hid (MS w' b (N + 1) (ks ++ [(l, v)])) → w.grownBy w' (some b) → wpList Tryz.prog ops Q rest a w') : wpList Tryz.prog ops Q (o :: rest) a w := by
  refine wpList_plain hg fun K' hK' => ?_
  obtain ⟨w', hrun, h1, h2⟩ := h.update hl hv hN ha
  unfold Oper.wp
  simp [execOp, hop, hm, hx, hy, hrun, Result.andThen]
  exact hK' _ _ (by rw [hd]; exact hK w' h1 h2)

/-- The builder lies in block b; all its memory lies in blocks from B on; n bounds its lists. -/
structure Bd (w : World) (B b : Nat) (s : Bs) (n : Nat) (cv jv : Value) (rm lm : Nat) : Prop where
  box : Box w b 86 [cv, .map (some rm), .map (some lm), jv, .bool s.twice]
  code : w.ownsRow B 67 5 cv s.code.length (cellsO s.code)
  jmps : w.ownsRow B 92 2 jv s.jmps.length (cellsJ s.jmps)
  regs : MS w rm n s.regs
  labs : MS w lm n s.labs
  low : B ≤ b ∧ B ≤ rm ∧ B ≤ lm ∧ rm ≠ lm
  bnd : s.code.length ≤ n ∧ s.jmps.length ≤ n ∧ s.regs.length ≤ n
def BdAt (w : World) (B b : Nat) (s : Bs) (n : Nat) : Prop := ∃ cv jv rm lm, Bd w B b s n cv jv rm lm
/-- What a method leaves. -/
def AsmPost (w : World) (B b : Nat) (s : Bs) (n : Nat) (w' : World) : Prop := BdAt w' B b s n ∧ Kc tAsm w w' ∧ Below B w w'
theorem neJO : 92 ≠ 67 := by decide
theorem neOB : 67 ≠ 86 := by decide
theorem neJB : 92 ≠ 86 := by decide
section
variable {w w' : World} {B b n rm lm : Nat} {s : Bs} {cv jv : Value}
theorem Bd.kept (h : Bd w B b s n cv jv rm lm) {row : Option Nat} (hg : w.grownBy w' row) (hb : some b ≠ row) (h1 : some rm ≠ row) (h2 : some lm ≠ row) (h3 : ∀ k, cv.ownBlock = some k → some k ≠ row) (h4 : ∀ k, jv.ownBlock = some k → some k ≠ row) : Bd w' B b s n cv jv rm lm := by
  refine ⟨h.box.grown hg hb, h.code.kept hg ?_, h.jmps.kept hg ?_, h.regs.kept hg h1, h.labs.kept hg h2, h.low, h.bnd⟩
  · cases hv : cv.ownBlock with
    | none => exact .inl rfl
    | some k => exact .inr (h3 k hv)
  · cases hv : jv.ownBlock with
    | none => exact .inl rfl
    | some k => exact .inr (h4 k hv)
theorem Bd.alloc (h : Bd w B b s n cv jv rm lm) (o : Obj) : Bd (w.alloc o) B b s n cv jv rm lm := h.kept (World.grownBy_alloc w o none) (by simp) (by simp) (by simp) (by simp) (by simp)
theorem Bd.drew (h : Bd w B b s n cv jv rm lm) : Bd w.drew B b s n cv jv rm lm := ⟨h.box, h.code, h.jmps, h.regs, h.labs, h.low, h.bnd⟩
theorem Bd.drewN (h : Bd w B b s n cv jv rm lm) (q : Nat) : Bd (w.drewN q) B b s n cv jv rm lm := by
  obtain ⟨⟨D, h1, h2⟩, ⟨E, h3, h4⟩⟩ := And.intro h.regs h.labs
  exact ⟨h.box, h.code, h.jmps, ⟨D, h1, h2⟩, ⟨E, h3, h4⟩, h.low, h.bnd⟩
theorem Bd.mono (h : Bd w B b s n cv jv rm lm) {n' : Nat} (hn : n ≤ n') : Bd w B b s n' cv jv rm lm := ⟨h.box, h.code, h.jmps, h.regs.mono hn, h.labs.mono hn, h.low, by have := h.bnd; omega⟩
theorem BdAt.mono (h : BdAt w B b s n) {n' : Nat} (hn : n ≤ n') : BdAt w B b s n' := by obtain ⟨cv, jv, rm, lm, h⟩ := h; exact ⟨cv, jv, rm, lm, h.mono hn⟩
theorem Bd.lt (h : Bd w B b s n cv jv rm lm) : b < w.heap.size := h.box.lt
theorem Bd.hB (h : Bd w B b s n cv jv rm lm) : B ≤ w.heap.size := by have := h.low.1; have := h.lt; omega
theorem BdAt.hB (h : BdAt w B b s n) : B ≤ w.heap.size ∧ b < w.heap.size := by obtain ⟨cv, jv, rm, lm, h⟩ := h; exact ⟨h.hB, h.lt⟩
/-- A map's block is no block of cells. -/
theorem kc_map (h : MS w rm n s.regs) (hg : w.grownBy w' (some rm)) : Kc tAsm w w' := Kc.grown hg fun b cs t fr hr hh => by
  injection hr with hr
  subst hr
  exact absurd rfl (h.ne hh)
theorem kc_mapL (h : MS w lm n s.labs) (hg : w.grownBy w' (some lm)) : Kc tAsm w w' := Kc.grown hg fun b cs t fr hr hh => by
  injection hr with hr
  subst hr
  exact absurd rfl (h.ne hh)
/-- A register has been named. -/
theorem Bd.named (h : Bd w B b s n cv jv rm lm) {l : Nm} {v : Int} (hr : MS w' rm (n + 1) (s.regs ++ [(l, v)])) (hg : w.grownBy w' (some rm)) : Bd w' B b { s with regs := s.regs ++ [(l, v)] } (n + 1) cv jv rm lm := by
  obtain ⟨q1, q2, q3, q4⟩ := h.low
  have hb : some b ≠ some rm := fun e => h.regs.ne h.box (by injection e with e; exact e.symm)
  refine ⟨h.box.grown hg hb, h.code.kept hg ?_, h.jmps.kept hg ?_, hr, (h.labs.kept hg (by simpa using fun e => q4 e.symm)).mono (Nat.le_succ _), h.low, by have := h.bnd; simp; omega⟩
  · cases hv : cv.ownBlock with
    | none => exact .inl rfl
    | some k => exact .inr fun e => h.regs.ne_own h.code (by rw [hv, e])
  · cases hv : jv.ownBlock with
    | none => exact .inl rfl
    | some k => exact .inr fun e => h.regs.ne_own h.jmps (by rw [hv, e])
/-- A label has been placed. -/
theorem Bd.labelled (h : Bd w B b s n cv jv rm lm) {l : Nm} {v : Int} (hr : MS w' lm (n + 1) (s.labs ++ [(l, v)])) (hg : w.grownBy w' (some lm)) : Bd w' B b { s with labs := s.labs ++ [(l, v)] } (n + 1) cv jv rm lm := by
  obtain ⟨q1, q2, q3, q4⟩ := h.low
  have hb : some b ≠ some lm := fun e => h.labs.ne h.box (by injection e with e; exact e.symm)
  refine ⟨h.box.grown hg hb, h.code.kept hg ?_, h.jmps.kept hg ?_, (h.regs.kept hg (by simpa using q4)).mono (Nat.le_succ _), hr, h.low, by have := h.bnd; simp; omega⟩
  · cases hv : cv.ownBlock with
    | none => exact .inl rfl
    | some k => exact .inr fun e => h.labs.ne_own h.code (by rw [hv, e])
  · cases hv : jv.ownBlock with
    | none => exact .inl rfl
    | some k => exact .inr fun e => h.labs.ne_own h.jmps (by rw [hv, e])
theorem own_ne {e1 e2 : TypeId} {s1 s2 n1 n2 B1 B2 : Nat} {v1 v2 : Value} {xs1 xs2 : List Value} (h1 : w.ownsRow B1 e1 s1 v1 n1 xs1) (h2 : w.ownsRow B2 e2 s2 v2 n2 xs2) (hne : e1 ≠ e2) : ∀ k, v1.ownBlock = some k → v2.ownBlock ≠ some k := by
  intro k hk he
  rcases h1.2 with ⟨rfl, _⟩ | ⟨g, _, _, rfl, _, hh, _⟩
  · simp [Value.ownBlock] at hk
  · rcases h2.2 with ⟨rfl, _⟩ | ⟨g2, _, _, rfl, _, hh2, _⟩
    · simp [Value.ownBlock] at he
    · simp [Value.ownBlock] at hk he
      subst hk
      subst he
      rw [hh] at hh2
      simp only [Option.some.injEq, Obj.cells.injEq] at hh2
      exact hne hh2.2.1
/-- An instruction has been appended and stored. -/
theorem Bd.coded (h : Bd w B b s n cv jv rm lm) {o : Ins} {v' : Value} {w1 : World} {ob : Obj} (hg : (w.alloc ob).grownBy w1 cv.ownBlock) (ho : w1.ownsRow B 67 5 v' (s.code.length + 1) (cellsO s.code ++ insV o)) :
    Bd (w1.setCell ⟨b, 0, none⟩ v') B b (s.put o) (n + 1) v' jv rm lm := by
  have hb1 := (h.box.alloc ob).grown hg (h.box.ne h.code neOB)
  have hg2 := grown_setCell w1 ⟨b, 0, none⟩ v'
  have hj1 : w1.ownsRow B 92 2 jv s.jmps.length (cellsJ s.jmps) := (h.jmps.alloc ob).kept hg (by
    cases hv : jv.ownBlock with
    | none => exact .inl rfl
    | some k => exact .inr fun e => own_ne h.jmps h.code neJO k hv e.symm)
  have hr1 : MS w1 rm n s.regs := (h.regs.kept (World.grownBy_alloc w ob none) (by simp)).kept hg (h.regs.ne_own h.code)
  have hl1 : MS w1 lm n s.labs := (h.labs.kept (World.grownBy_alloc w ob none) (by simp)).kept hg (h.labs.ne_own h.code)
  have hne : ∀ {e : TypeId} {z m : Nat} {v : Value} {xs : List Value}, w1.ownsRow B e z v m xs → e ≠ 86 → v.ownBlock = none ∨ v.ownBlock ≠ some b := fun {e z m v xs} hw he => by
    cases hv : v.ownBlock with
    | none => exact .inl rfl
    | some k => exact .inr fun hk => by have := hb1.ne hw he; rw [hv] at this; exact this hk.symm
  refine ⟨hb1.set 0 v', ?_, hj1.kept hg2 (hne hj1 neJB), (hr1.kept hg2 fun e => hr1.ne hb1 (by injection e)).mono (Nat.le_succ _), (hl1.kept hg2 fun e => hl1.ne hb1 (by injection e)).mono (Nat.le_succ _), h.low, by have := h.bnd; unfold Bs.put; simp; omega⟩
  have := ho.kept hg2 (hne ho neOB)
  unfold Bs.put
  dsimp only
  rw [cellsO_append, List.length_append, List.length_singleton]
  simpa [cellsO] using this
theorem Bd.jumped (h : Bd w B b s n cv jv rm lm) {j : Int × Nm} {v' : Value} {w1 : World} {ob : Obj} (hg : (w.alloc ob).grownBy w1 jv.ownBlock) (ho : w1.ownsRow B 92 2 v' (s.jmps.length + 1) (cellsJ s.jmps ++ jmpV j)) :
    Bd (w1.setCell ⟨b, 3, none⟩ v') B b { s with jmps := s.jmps ++ [j] } (n + 1) cv v' rm lm := by
  have hb1 := (h.box.alloc ob).grown hg (h.box.ne h.jmps neJB)
  have hg2 := grown_setCell w1 ⟨b, 3, none⟩ v'
  have hj1 : w1.ownsRow B 67 5 cv s.code.length (cellsO s.code) := (h.code.alloc ob).kept hg (by
    cases hv : cv.ownBlock with
    | none => exact .inl rfl
    | some k => exact .inr fun e => own_ne h.jmps h.code neJO k e.symm hv)
  have hr1 : MS w1 rm n s.regs := (h.regs.kept (World.grownBy_alloc w ob none) (by simp)).kept hg (h.regs.ne_own h.jmps)
  have hl1 : MS w1 lm n s.labs := (h.labs.kept (World.grownBy_alloc w ob none) (by simp)).kept hg (h.labs.ne_own h.jmps)
  have hne : ∀ {e : TypeId} {z m : Nat} {v : Value} {xs : List Value}, w1.ownsRow B e z v m xs → e ≠ 86 → v.ownBlock = none ∨ v.ownBlock ≠ some b := fun {e z m v xs} hw he => by
    cases hv : v.ownBlock with
    | none => exact .inl rfl
    | some k => exact .inr fun hk => by have := hb1.ne hw he; rw [hv] at this; exact this hk.symm
  refine ⟨hb1.set 3 v', hj1.kept hg2 (hne hj1 neOB), ?_, (hr1.kept hg2 fun e => hr1.ne hb1 (by injection e)).mono (Nat.le_succ _), (hl1.kept hg2 fun e => hl1.ne hb1 (by injection e)).mono (Nat.le_succ _), h.low, by have := h.bnd; simp; omega⟩
  have := ho.kept hg2 (hne ho neJB)
  dsimp only
  rw [cellsJ_append, List.length_append, List.length_singleton]
  simpa [cellsJ] using this
/-- What is kept where a row grows and the builder is written. -/
theorem kc_row {e : TypeId} {z m i : Nat} {v v' : Value} {xs : List Value} {w1 : World} {ob : Obj} (h : Bd w B b s n cv jv rm lm) (ho : w.ownsRow B e z v m xs) (he : tAsm e) (he2 : e ≠ 86) (hg : (w.alloc ob).grownBy w1 v.ownBlock) : Kc tAsm w (w1.setCell ⟨b, i, none⟩ v') ∧ Below B w (w1.setCell ⟨b, i, none⟩ v') := by
  have h0 := Below.refl B w
  constructor
  · refine Kc.trans (Kc.trans (Kc.grown (World.grownBy_alloc w ob none) (by simp)) (Kc.grown hg fun k cs t fr hr hh => ?_)) (Kc.grown (grown_setCell w1 ⟨b, i, none⟩ v') fun k cs t fr hr hh => ?_)
    · rcases ho.2 with ⟨rfl, _⟩ | ⟨g, _, _, rfl, _, hh2, _⟩
      · simp [Value.ownBlock] at hr
      · simp [Value.ownBlock] at hr
        subst hr
        have := (Below.heap_alloc w ob g (lt_of_heap hh2)).trans hh2
        rw [this] at hh
        simp only [Option.some.injEq, Obj.cells.injEq] at hh
        rw [← hh.2.1]; exact he
    · simp at hr
      subst hr
      have hne := h.box.ne ho he2
      have := (h.box.alloc ob).grown hg hne
      unfold Box at this
      rw [this] at hh
      simp only [Option.some.injEq, Obj.cells.injEq] at hh
      rw [← hh.2.1]; exact tAsm_bd
  · exact ((h0.alloc h.hB ob).grown hg (by simp; have := h.hB; omega) (fun k hk => (ho.lt k hk).1)).setCell h.low.1 _
end
end Go.Proofs.YtnchgdjdfhfedaaGreatDoor

set_option linter.unusedSimpArgs false
set_option linter.unusedVariables false
namespace Go.Proofs.YtnchgdjdfhfedaaGreatDoor
open Go.RowKit Go.Ord Go.Baro Go.Maps

set_option maxHeartbeats 1000000 in
theorem asm_register (w : World) (B b n : Nat) (s : Bs) (l : Nm) (h : BdAt w B b s n) (hn : n < 100000) (hl : l.length ≤ 1000) :
    Calls Tryz.prog 38 #[.pointer (some ⟨b, 0, none⟩), nmV l] w fun e w' => e = .returned (.int .i64 (s.rg l).2) ∧ AsmPost w B b (s.rg l).1 (n + 1) w' := by
  obtain ⟨cv, jv, rm, lm, h⟩ := h
  have c1 : w.cell? ⟨b, 1, none⟩ = some (.map (some rm)) := h.box.cell 1
  have hlt := h.lt
  have hB := h.hB
  have hlen := fun ty => h.regs.len (ty := ty)
  have hbn : s.regs.length ≤ n := h.bnd.2.2
  have HB := Lib.hid h
  cases ha : nmAsk s.regs l with
  | some v =>
    have HA := Lib.hid ha
    clear ha h hlen
    go_enter Tryz.func38, Tryz.ntmps38
    go_wp2_with (refine wp_lookN rfl (.tmp 11) (.tmp 12) rfl rm n s.regs l rfl HB.out.regs rfl hl (some v) HA.out ?_)
    go_ret
    have e : s.rg l = (s, v) := by unfold Bs.rg; rw [HA.out]
    rw [e]
    exact ⟨rfl, ⟨_, _, _, _, HB.out.mono (Nat.le_succ n)⟩, Kc.refl _ _, Below.refl _ _⟩
  | none =>
    have HA := Lib.hid ha
    clear ha h
    go_enter Tryz.func38, Tryz.ntmps38
    go_wp2_with first
      | (refine wp_lookN rfl (.tmp 11) (.tmp 12) rfl rm n s.regs l rfl HB.out.regs rfl hl none HA.out ?_)
      | (refine wp_updS rfl rfl (.tmp 26) (.tmp 27) (.tmp 28) rfl rm n s.regs l _ rfl HB.out.regs rfl rfl hl (by unfold inW; omega) (by omega) HA.out ?_; intro w1 HM hg1)
    go_ret
    have e : s.rg l = ({ s with regs := s.regs ++ [(l, (s.regs.length : Int))] }, (s.regs.length : Int)) := by unfold Bs.rg; rw [HA.out]
    rw [e]
    exact ⟨rfl, ⟨_, _, _, _, HB.out.named HM.out hg1⟩, kc_map HB.out.regs hg1, (Below.refl B w).grown hg1 hB (fun k hk => by injection hk with hk; subst hk; exact HB.out.low.2.1)⟩
set_option maxHeartbeats 1000000 in
theorem asm_append (w : World) (B b n : Nat) (s : Bs) (o : Ins) (h : BdAt w B b s n) (hn : n < 100000) :
    Calls Tryz.prog 40 #[.pointer (some ⟨b, 0, none⟩), .agg #[.int .i64 o.k, .int .i64 o.a, .int .i64 o.b, .int .i64 o.c, .int .i64 o.d]] w fun e w' => e = .returned (.tuple #[]) ∧ AsmPost w B b (s.put o) (n + 1) w' := by
  obtain ⟨cv, jv, rm, lm, h⟩ := h
  obtain ⟨k, x, y, z, u⟩ := o
  dsimp only
  have hlt := h.lt
  have hB := h.hB
  have hbn := h.bnd.1
  obtain ⟨A, c, rfl, hlc⟩ := own_form h.code
  have c0 : w.cell? ⟨b, 0, none⟩ = some (.slice A s.code.length c) := h.box.cell 0
  obtain ⟨m, hm⟩ : ∃ m, m = s.code.length := ⟨_, rfl⟩
  have HB := Lib.hid h
  have HC := Lib.hid h.code
  rw [← hm] at c0 hbn hlc HC
  have HM := Lib.hid hm
  clear hm h
  go_enter Tryz.func40, Tryz.ntmps40
  go_wp2
  refine region_first [0, 1, 2, 3, 4, 5] (.cons 6 (.cons 7 (seq [8, 9] (seq [10] .nil)))) (by kernel_rfl) (by kernel_rfl) ?_
  simp only [pick, List.map_cons, List.map_nil, List.getD_cons_zero, List.getD_cons_succ]
  go_wp2
  refine ord_call (by kernel_rfl) ?_
  simp only [pick, List.map_cons, List.map_nil, List.getD_cons_zero, List.getD_cons_succ]
  go_wp2
  refine ⟨fun k hk => Below.heap_alloc _ _ k hk, ?_⟩
  refine ord_fin (by kernel_rfl) ?_
  simp only [pick, List.map_cons, List.map_nil, List.getD_cons_zero, List.getD_cons_succ]
  go_wp2_with (at_builtin; go_must (refine app_litd eltAOp (w.alloc (Obj.cells #[.int .i64 k, .int .i64 x, .int .i64 y, .int .i64 z, .int .i64 u] 67)) rfl (.tmp 8) (.tmp 10) rfl B (.slice A m c) m (cellsO s.code) rfl (HC.out.alloc _) 1 [.int .i64 k, .int .i64 x, .int .i64 y, .int .i64 z, .int .i64 u] (w.heap.size + 1) (by simp) rfl rfl (by simp [Value.oneCell']) (by omega) (by omega) (by simp; omega) ?_); intro v' w1 hown1 hg1 hb1 hs1)
  have hbd := (HB.out.alloc (Obj.cells #[.int .i64 k, .int .i64 x, .int .i64 y, .int .i64 z, .int .i64 u] 67)).coded (o := ⟨k, x, y, z, u⟩) (w1 := w1) (v' := v') (by rw [HM.out] at hg1; exact hg1) (by rw [HM.out] at hown1; exact hown1)
  have hkc := kc_row (i := 0) (v' := v') (HB.out.alloc (Obj.cells #[.int .i64 k, .int .i64 x, .int .i64 y, .int .i64 z, .int .i64 u] 67)) (HC.out.alloc _) tAsm_op neOB hg1
  obtain ⟨A8, c8, rfl, hc8⟩ := own_form hown1
  have hlt1 : b < w1.heap.size := by have := hg1.size; simp at this; omega
  have hb8 := ((HB.out.box.alloc (Obj.cells #[.int .i64 k, .int .i64 x, .int .i64 y, .int .i64 z, .int .i64 u] 67)).alloc (Obj.cells #[.int .i64 k, .int .i64 x, .int .i64 y, .int .i64 z, .int .i64 u] 67)).grown hg1 (((HB.out.box.alloc (Obj.cells #[.int .i64 k, .int .i64 x, .int .i64 y, .int .i64 z, .int .i64 u] 67)).alloc (Obj.cells #[.int .i64 k, .int .i64 x, .int .i64 y, .int .i64 z, .int .i64 u] 67)).ne ((HC.out.alloc _).alloc _) neOB)
  have c1 : w1.cell? ⟨b, 0, none⟩ = some (.slice A s.code.length c) := hb8.cell 0
  have f1 := hb8.frozen 0
  have HBD := Lib.hid hbd
  have HKC := Lib.hid hkc
  clear hbd hkc hb1 hs1
  refine ord_more [8, 9] (seq [10] .nil) (by kernel_rfl) ?_
  simp only [pick, List.map_cons, List.map_nil, List.getD_cons_zero, List.getD_cons_succ]
  go_wp2
  refine ord_last [10] (by kernel_rfl) ?_
  simp only [pick, List.map_cons, List.map_nil, List.getD_cons_zero, List.getD_cons_succ]
  go_wp2
  refine bodyPost_end (v := .tuple #[]) (results_noneA rfl _ _) rfl ?_
  exact ⟨rfl, ⟨_, _, _, _, HBD.out⟩, (Kc.grown (World.grownBy_alloc w _ none) (by simp)).trans HKC.out.1, ((Below.refl B w).alloc hB _).trans HKC.out.2⟩
set_option maxHeartbeats 1000000 in
theorem asm_jump (w : World) (B b n : Nat) (s : Bs) (l : Nm) (h : BdAt w B b s n) (hn : n < 100000) (hl : l.length ≤ 1000) :
    Calls Tryz.prog 45 #[.pointer (some ⟨b, 0, none⟩), nmV l] w fun e w' => e = .returned (.tuple #[]) ∧ AsmPost w B b (s.jmp l) (n + 1) w' := by
  obtain ⟨cv, jv, rm, lm, h⟩ := h
  have hlt := h.lt
  have hB := h.hB
  have hbn := h.bnd.2.1
  have hbc := h.bnd.1
  obtain ⟨A, c, rfl, hlc⟩ := own_form h.jmps
  have c0 : w.cell? ⟨b, 3, none⟩ = some (.slice A s.jmps.length c) := h.box.cell 3
  obtain ⟨Ac, cc, rfl, hlcc⟩ := own_form h.code
  have d0 : w.cell? ⟨b, 0, none⟩ = some (.slice Ac s.code.length cc) := h.box.cell 0
  obtain ⟨m, hm⟩ : ∃ m, m = s.jmps.length := ⟨_, rfl⟩
  have HB := Lib.hid h
  have HC := Lib.hid h.jmps
  rw [← hm] at c0 hbn hlc HC
  obtain ⟨q, hq⟩ : ∃ q, q = s.code.length := ⟨_, rfl⟩
  rw [← hq] at d0 hbc
  have HQ := Lib.hid hq
  clear hq hlcc
  have HM := Lib.hid hm
  clear hm h
  unfold nmV
  go_enter Tryz.func45, Tryz.ntmps45
  refine region_first [0, 1, 2, 3, 4, 5, 6, 7, 8, 9, 10, 11] (.cons 12 (.cons 13 (seq [14, 15] (seq [16] .nil)))) (by kernel_rfl) (by kernel_rfl) ?_
  simp only [pick, List.map_cons, List.map_nil, List.getD_cons_zero, List.getD_cons_succ]
  go_wp2
  refine ord_call (by kernel_rfl) ?_
  simp only [pick, List.map_cons, List.map_nil, List.getD_cons_zero, List.getD_cons_succ]
  go_wp2
  refine ⟨fun k hk => Below.heap_alloc _ _ k hk, ?_⟩
  refine ord_fin (by kernel_rfl) ?_
  simp only [pick, List.map_cons, List.map_nil, List.getD_cons_zero, List.getD_cons_succ]
  go_wp2_with (at_builtin; go_must (refine app_litd eltAJ w rfl (.tmp 8) (.tmp 16) rfl B (.slice A m c) m (cellsJ s.jmps) rfl HC.out 1 [.int .i64 q, .string ⟨l.toArray⟩] w.heap.size rfl rfl rfl (by simp [Value.oneCell']) (by omega) (by omega) (by omega) ?_); intro v' w1 hown1 hg1 hb1 hs1)
  have hbd := HB.out.jumped (j := ((q : Int), l)) (w1 := w1) (v' := v') (by rw [HM.out] at hg1; exact hg1) (by rw [HM.out] at hown1; exact hown1)
  have hkc := kc_row (i := 3) (v' := v') HB.out HC.out tAsm_jp neJB hg1
  obtain ⟨A8, c8, rfl, hc8⟩ := own_form hown1
  have hlt1 : b < w1.heap.size := by have := hg1.size; simp at this; omega
  have hb8 := (HB.out.box.alloc (Obj.cells #[.int .i64 q, .string ⟨l.toArray⟩] 92)).grown hg1 ((HB.out.box.alloc (Obj.cells #[.int .i64 q, .string ⟨l.toArray⟩] 92)).ne (HC.out.alloc _) neJB)
  have c1 : w1.cell? ⟨b, 3, none⟩ = some (.slice A s.jmps.length c) := hb8.cell 3
  have f1 := hb8.frozen 3
  have HBD := Lib.hid hbd
  have HKC := Lib.hid hkc
  clear hbd hkc hb1 hs1
  refine ord_more [14, 15] (seq [16] .nil) (by kernel_rfl) ?_
  simp only [pick, List.map_cons, List.map_nil, List.getD_cons_zero, List.getD_cons_succ]
  go_wp2
  refine ord_last [16] (by kernel_rfl) ?_
  simp only [pick, List.map_cons, List.map_nil, List.getD_cons_zero, List.getD_cons_succ]
  go_wp2
  refine bodyPost_end (v := .tuple #[]) (results_noneA rfl _ _) rfl ?_
  have hbd := HBD.out
  rw [HQ.out] at hbd
  exact ⟨rfl, ⟨_, _, _, _, hbd⟩, HKC.out.1, HKC.out.2⟩
end Go.Proofs.YtnchgdjdfhfedaaGreatDoor

set_option linter.unusedSimpArgs false
set_option linter.unusedVariables false
namespace Go.Proofs.YtnchgdjdfhfedaaGreatDoor
open Go.RowKit Go.Ord Go.Baro Go.Maps

theorem AsmPost.trans {w w1 w2 : World} {B b n n' : Nat} {s s' : Bs} (h : AsmPost w B b s n w1) (k : AsmPost w1 B b s' n' w2) : AsmPost w B b s' n' w2 := ⟨k.1, h.2.1.trans k.2.1, h.2.2.trans k.2.2⟩
set_option maxHeartbeats 1000000 in
theorem asm_Set (w : World) (B b n : Nat) (s : Bs) (x0 : Nm) (x1 : Int) (h : BdAt w B b s n) (hn : n < 90000) (h0 : x0.length ≤ 1000) :
    Calls Tryz.prog 26 #[.pointer (some ⟨b, 0, none⟩), nmV x0, .int .i64 x1] w fun e w' => e = .returned (.tuple #[]) ∧ AsmPost w B b (s.set x0 x1) (n + 2) w' := by
  go_enter Tryz.func26, Tryz.ntmps26
  go_wp2_with fail
  refine (asm_register _ B b (n + 0) (s) x0 h (by omega) h0).mono ?_
  rintro e w1 ⟨rfl, H⟩
  have H1 := Lib.hid H
  clear H
  go_wp2_with fail
  refine (asm_append _ B b (n + 1) (((s).rg x0).1) ⟨1, ((s).rg x0).2, x1, 0, 0⟩ H1.out.1 (by omega)).mono ?_
  rintro e w2 ⟨rfl, H⟩
  have H2 := Lib.hid H
  clear H
  go_wp2
  refine bodyPost_end (v := .tuple #[]) (results_noneA rfl _ _) rfl ?_
  exact ⟨rfl, (H1.out.trans H2.out)⟩
theorem asm_SetE (w : World) (B b n : Nat) (s : Bs) (x0 : Nm) (y : Int) (x1 : Int) (hy : y = x1) (h : BdAt w B b s n) (hn : n < 90000) (h0 : x0.length ≤ 1000) :
    Calls Tryz.prog 26 #[.pointer (some ⟨b, 0, none⟩), nmV x0, .int .i64 y] w fun e w' => e = .returned (.tuple #[]) ∧ AsmPost w B b (s.set x0 x1) (n + 2) w' := by
  subst hy
  exact asm_Set w B b n s x0 y h hn h0
set_option maxHeartbeats 1000000 in
theorem asm_Copy (w : World) (B b n : Nat) (s : Bs) (x0 : Nm) (x1 : Nm) (h : BdAt w B b s n) (hn : n < 90000) (h0 : x0.length ≤ 1000) (h1 : x1.length ≤ 1000) :
    Calls Tryz.prog 41 #[.pointer (some ⟨b, 0, none⟩), nmV x0, nmV x1] w fun e w' => e = .returned (.tuple #[]) ∧ AsmPost w B b (s.copy x0 x1) (n + 3) w' := by
  go_enter Tryz.func41, Tryz.ntmps41
  go_wp2_with fail
  refine (asm_register _ B b (n + 0) (s) x0 h (by omega) h0).mono ?_
  rintro e w1 ⟨rfl, H⟩
  have H1 := Lib.hid H
  clear H
  go_wp2_with fail
  refine (asm_register _ B b (n + 1) (((s).rg x0).1) x1 H1.out.1 (by omega) h1).mono ?_
  rintro e w2 ⟨rfl, H⟩
  have H2 := Lib.hid H
  clear H
  go_wp2_with fail
  refine (asm_append _ B b (n + 2) (((((s).rg x0).1).rg x1).1) ⟨2, ((s).rg x0).2, ((((s).rg x0).1).rg x1).2, 0, 0⟩ H2.out.1 (by omega)).mono ?_
  rintro e w3 ⟨rfl, H⟩
  have H3 := Lib.hid H
  clear H
  go_wp2
  refine bodyPost_end (v := .tuple #[]) (results_noneA rfl _ _) rfl ?_
  exact ⟨rfl, ((H1.out.trans H2.out).trans H3.out)⟩
set_option maxHeartbeats 1000000 in
theorem asm_Add (w : World) (B b n : Nat) (s : Bs) (x0 : Nm) (x1 : Nm) (x2 : Nm) (h : BdAt w B b s n) (hn : n < 90000) (h0 : x0.length ≤ 1000) (h1 : x1.length ≤ 1000) (h2 : x2.length ≤ 1000) :
    Calls Tryz.prog 29 #[.pointer (some ⟨b, 0, none⟩), nmV x0, nmV x1, nmV x2] w fun e w' => e = .returned (.tuple #[]) ∧ AsmPost w B b (s.op3 3 x0 x1 x2) (n + 4) w' := by
  go_enter Tryz.func29, Tryz.ntmps29
  go_wp2_with fail
  refine (asm_register _ B b (n + 0) (s) x0 h (by omega) h0).mono ?_
  rintro e w1 ⟨rfl, H⟩
  have H1 := Lib.hid H
  clear H
  go_wp2_with fail
  refine (asm_register _ B b (n + 1) (((s).rg x0).1) x1 H1.out.1 (by omega) h1).mono ?_
  rintro e w2 ⟨rfl, H⟩
  have H2 := Lib.hid H
  clear H
  go_wp2_with fail
  refine (asm_register _ B b (n + 2) (((((s).rg x0).1).rg x1).1) x2 H2.out.1 (by omega) h2).mono ?_
  rintro e w3 ⟨rfl, H⟩
  have H3 := Lib.hid H
  clear H
  go_wp2_with fail
  refine (asm_append _ B b (n + 3) (((((((s).rg x0).1).rg x1).1).rg x2).1) ⟨3, ((s).rg x0).2, ((((s).rg x0).1).rg x1).2, ((((((s).rg x0).1).rg x1).1).rg x2).2, 0⟩ H3.out.1 (by omega)).mono ?_
  rintro e w4 ⟨rfl, H⟩
  have H4 := Lib.hid H
  clear H
  go_wp2
  refine bodyPost_end (v := .tuple #[]) (results_noneA rfl _ _) rfl ?_
  exact ⟨rfl, (((H1.out.trans H2.out).trans H3.out).trans H4.out)⟩
set_option maxHeartbeats 1000000 in
theorem asm_Jump (w : World) (B b n : Nat) (s : Bs) (x0 : Nm) (h : BdAt w B b s n) (hn : n < 90000) (h0 : x0.length ≤ 1000) :
    Calls Tryz.prog 44 #[.pointer (some ⟨b, 0, none⟩), nmV x0] w fun e w' => e = .returned (.tuple #[]) ∧ AsmPost w B b (s.jump x0) (n + 2) w' := by
  go_enter Tryz.func44, Tryz.ntmps44
  go_wp2_with fail
  refine (asm_jump _ B b (n + 0) (s) x0 h (by omega) h0).mono ?_
  rintro e w1 ⟨rfl, H⟩
  have H1 := Lib.hid H
  clear H
  go_wp2_with fail
  refine (asm_append _ B b (n + 1) ((s).jmp x0) ⟨10, 0, 0, 0, 0⟩ H1.out.1 (by omega)).mono ?_
  rintro e w2 ⟨rfl, H⟩
  have H2 := Lib.hid H
  clear H
  go_wp2
  refine bodyPost_end (v := .tuple #[]) (results_noneA rfl _ _) rfl ?_
  exact ⟨rfl, (H1.out.trans H2.out)⟩
set_option maxHeartbeats 1000000 in
theorem asm_When (w : World) (B b n : Nat) (s : Bs) (x0 : Nm) (x1 : Nm) (h : BdAt w B b s n) (hn : n < 90000) (h0 : x0.length ≤ 1000) (h1 : x1.length ≤ 1000) :
    Calls Tryz.prog 39 #[.pointer (some ⟨b, 0, none⟩), nmV x0, nmV x1] w fun e w' => e = .returned (.tuple #[]) ∧ AsmPost w B b (s.when x0 x1) (n + 3) w' := by
  go_enter Tryz.func39, Tryz.ntmps39
  go_wp2_with fail
  refine (asm_jump _ B b (n + 0) (s) x1 h (by omega) h1).mono ?_
  rintro e w1 ⟨rfl, H⟩
  have H1 := Lib.hid H
  clear H
  go_wp2_with fail
  refine (asm_register _ B b (n + 1) ((s).jmp x1) x0 H1.out.1 (by omega) h0).mono ?_
  rintro e w2 ⟨rfl, H⟩
  have H2 := Lib.hid H
  clear H
  go_wp2_with fail
  refine (asm_append _ B b (n + 2) ((((s).jmp x1).rg x0).1) ⟨11, (((s).jmp x1).rg x0).2, 0, 0, 0⟩ H2.out.1 (by omega)).mono ?_
  rintro e w3 ⟨rfl, H⟩
  have H3 := Lib.hid H
  clear H
  go_wp2
  refine bodyPost_end (v := .tuple #[]) (results_noneA rfl _ _) rfl ?_
  exact ⟨rfl, ((H1.out.trans H2.out).trans H3.out)⟩
set_option maxHeartbeats 1000000 in
theorem asm_Unless (w : World) (B b n : Nat) (s : Bs) (x0 : Nm) (x1 : Nm) (h : BdAt w B b s n) (hn : n < 90000) (h0 : x0.length ≤ 1000) (h1 : x1.length ≤ 1000) :
    Calls Tryz.prog 31 #[.pointer (some ⟨b, 0, none⟩), nmV x0, nmV x1] w fun e w' => e = .returned (.tuple #[]) ∧ AsmPost w B b (s.unless x0 x1) (n + 3) w' := by
  go_enter Tryz.func31, Tryz.ntmps31
  go_wp2_with fail
  refine (asm_jump _ B b (n + 0) (s) x1 h (by omega) h1).mono ?_
  rintro e w1 ⟨rfl, H⟩
  have H1 := Lib.hid H
  clear H
  go_wp2_with fail
  refine (asm_register _ B b (n + 1) ((s).jmp x1) x0 H1.out.1 (by omega) h0).mono ?_
  rintro e w2 ⟨rfl, H⟩
  have H2 := Lib.hid H
  clear H
  go_wp2_with fail
  refine (asm_append _ B b (n + 2) ((((s).jmp x1).rg x0).1) ⟨12, (((s).jmp x1).rg x0).2, 0, 0, 0⟩ H2.out.1 (by omega)).mono ?_
  rintro e w3 ⟨rfl, H⟩
  have H3 := Lib.hid H
  clear H
  go_wp2
  refine bodyPost_end (v := .tuple #[]) (results_noneA rfl _ _) rfl ?_
  exact ⟨rfl, ((H1.out.trans H2.out).trans H3.out)⟩
set_option maxHeartbeats 1000000 in
theorem asm_Load (w : World) (B b n : Nat) (s : Bs) (x0 : Nm) (x1 : Nm) (x2 : Int) (h : BdAt w B b s n) (hn : n < 90000) (h0 : x0.length ≤ 1000) (h1 : x1.length ≤ 1000) :
    Calls Tryz.prog 25 #[.pointer (some ⟨b, 0, none⟩), nmV x0, nmV x1, .int .i64 x2] w fun e w' => e = .returned (.tuple #[]) ∧ AsmPost w B b (s.load x0 x1 x2) (n + 3) w' := by
  go_enter Tryz.func25, Tryz.ntmps25
  go_wp2_with fail
  refine (asm_register _ B b (n + 0) (s) x0 h (by omega) h0).mono ?_
  rintro e w1 ⟨rfl, H⟩
  have H1 := Lib.hid H
  clear H
  go_wp2_with fail
  refine (asm_register _ B b (n + 1) (((s).rg x0).1) x1 H1.out.1 (by omega) h1).mono ?_
  rintro e w2 ⟨rfl, H⟩
  have H2 := Lib.hid H
  clear H
  go_wp2_with fail
  refine (asm_append _ B b (n + 2) (((((s).rg x0).1).rg x1).1) ⟨13, ((s).rg x0).2, ((((s).rg x0).1).rg x1).2, x2, 0⟩ H2.out.1 (by omega)).mono ?_
  rintro e w3 ⟨rfl, H⟩
  have H3 := Lib.hid H
  clear H
  go_wp2
  refine bodyPost_end (v := .tuple #[]) (results_noneA rfl _ _) rfl ?_
  exact ⟨rfl, ((H1.out.trans H2.out).trans H3.out)⟩
theorem asm_LoadE (w : World) (B b n : Nat) (s : Bs) (x0 : Nm) (x1 : Nm) (y : Int) (x2 : Int) (hy : y = x2) (h : BdAt w B b s n) (hn : n < 90000) (h0 : x0.length ≤ 1000) (h1 : x1.length ≤ 1000) :
    Calls Tryz.prog 25 #[.pointer (some ⟨b, 0, none⟩), nmV x0, nmV x1, .int .i64 y] w fun e w' => e = .returned (.tuple #[]) ∧ AsmPost w B b (s.load x0 x1 x2) (n + 3) w' := by
  subst hy
  exact asm_Load w B b n s x0 x1 y h hn h0 h1
set_option maxHeartbeats 1000000 in
theorem asm_Store (w : World) (B b n : Nat) (s : Bs) (x0 : Nm) (x1 : Nm) (x2 : Int) (h : BdAt w B b s n) (hn : n < 90000) (h0 : x0.length ≤ 1000) (h1 : x1.length ≤ 1000) :
    Calls Tryz.prog 20 #[.pointer (some ⟨b, 0, none⟩), nmV x0, nmV x1, .int .i64 x2] w fun e w' => e = .returned (.tuple #[]) ∧ AsmPost w B b (s.store x0 x1 x2) (n + 3) w' := by
  go_enter Tryz.func20, Tryz.ntmps20
  go_wp2_with fail
  refine (asm_register _ B b (n + 0) (s) x0 h (by omega) h0).mono ?_
  rintro e w1 ⟨rfl, H⟩
  have H1 := Lib.hid H
  clear H
  go_wp2_with fail
  refine (asm_register _ B b (n + 1) (((s).rg x0).1) x1 H1.out.1 (by omega) h1).mono ?_
  rintro e w2 ⟨rfl, H⟩
  have H2 := Lib.hid H
  clear H
  go_wp2_with fail
  refine (asm_append _ B b (n + 2) (((((s).rg x0).1).rg x1).1) ⟨14, ((s).rg x0).2, ((((s).rg x0).1).rg x1).2, x2, 0⟩ H2.out.1 (by omega)).mono ?_
  rintro e w3 ⟨rfl, H⟩
  have H3 := Lib.hid H
  clear H
  go_wp2
  refine bodyPost_end (v := .tuple #[]) (results_noneA rfl _ _) rfl ?_
  exact ⟨rfl, ((H1.out.trans H2.out).trans H3.out)⟩
theorem asm_StoreE (w : World) (B b n : Nat) (s : Bs) (x0 : Nm) (x1 : Nm) (y : Int) (x2 : Int) (hy : y = x2) (h : BdAt w B b s n) (hn : n < 90000) (h0 : x0.length ≤ 1000) (h1 : x1.length ≤ 1000) :
    Calls Tryz.prog 20 #[.pointer (some ⟨b, 0, none⟩), nmV x0, nmV x1, .int .i64 y] w fun e w' => e = .returned (.tuple #[]) ∧ AsmPost w B b (s.store x0 x1 x2) (n + 3) w' := by
  subst hy
  exact asm_Store w B b n s x0 x1 y h hn h0 h1
set_option maxHeartbeats 1000000 in
theorem asm_Cas (w : World) (B b n : Nat) (s : Bs) (x0 : Nm) (x1 : Nm) (x2 : Int) (x3 : Nm) (h : BdAt w B b s n) (hn : n < 90000) (h0 : x0.length ≤ 1000) (h1 : x1.length ≤ 1000) (h3 : x3.length ≤ 1000) :
    Calls Tryz.prog 30 #[.pointer (some ⟨b, 0, none⟩), nmV x0, nmV x1, .int .i64 x2, nmV x3] w fun e w' => e = .returned (.tuple #[]) ∧ AsmPost w B b (s.cas x0 x1 x2 x3) (n + 4) w' := by
  go_enter Tryz.func30, Tryz.ntmps30
  go_wp2_with fail
  refine (asm_register _ B b (n + 0) (s) x0 h (by omega) h0).mono ?_
  rintro e w1 ⟨rfl, H⟩
  have H1 := Lib.hid H
  clear H
  go_wp2_with fail
  refine (asm_register _ B b (n + 1) (((s).rg x0).1) x1 H1.out.1 (by omega) h1).mono ?_
  rintro e w2 ⟨rfl, H⟩
  have H2 := Lib.hid H
  clear H
  go_wp2_with fail
  refine (asm_register _ B b (n + 2) (((((s).rg x0).1).rg x1).1) x3 H2.out.1 (by omega) h3).mono ?_
  rintro e w3 ⟨rfl, H⟩
  have H3 := Lib.hid H
  clear H
  go_wp2_with fail
  refine (asm_append _ B b (n + 3) (((((((s).rg x0).1).rg x1).1).rg x3).1) ⟨15, ((s).rg x0).2, ((((s).rg x0).1).rg x1).2, x2, ((((((s).rg x0).1).rg x1).1).rg x3).2⟩ H3.out.1 (by omega)).mono ?_
  rintro e w4 ⟨rfl, H⟩
  have H4 := Lib.hid H
  clear H
  go_wp2
  refine bodyPost_end (v := .tuple #[]) (results_noneA rfl _ _) rfl ?_
  exact ⟨rfl, (((H1.out.trans H2.out).trans H3.out).trans H4.out)⟩
theorem asm_CasE (w : World) (B b n : Nat) (s : Bs) (x0 : Nm) (x1 : Nm) (y : Int) (x2 : Int) (x3 : Nm) (hy : y = x2) (h : BdAt w B b s n) (hn : n < 90000) (h0 : x0.length ≤ 1000) (h1 : x1.length ≤ 1000) (h3 : x3.length ≤ 1000) :
    Calls Tryz.prog 30 #[.pointer (some ⟨b, 0, none⟩), nmV x0, nmV x1, .int .i64 y, nmV x3] w fun e w' => e = .returned (.tuple #[]) ∧ AsmPost w B b (s.cas x0 x1 x2 x3) (n + 4) w' := by
  subst hy
  exact asm_Cas w B b n s x0 x1 y x3 h hn h0 h1 h3
end Go.Proofs.YtnchgdjdfhfedaaGreatDoor
