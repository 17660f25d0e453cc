/- The builder of codes as it lies in memory. No statement of the seat is proved here; no condition. -/
import Derived.Test.YtnchgdjdfhfedaaDoorRows
import Derived.Test.YtnchgdjdfhfedaaDoorPartAG
import Derived.Test.YtnchgdjdfhfedaaDoorPartAE
import Derived.Test.YtnchgdjdfhfedaaDoorPartAI
import Derived.Maps.OwnOps
import Derived.Maps.OwnSet
import Derived.Maps.Views
import Derived.StringKeys
set_option linter.unusedSimpArgs false
set_option linter.unusedVariables false
namespace Go.Proofs.YtnchgdjdfhfedaaDoor
open Go.RowKit Go.Ord Go.Baro Go.Maps Go.WideMaps

theorem results_noneA {P : Program} {fn : Func} (h : fn.results = #[]) (tmps : Array Value) (w : World) : (results fn tmps).run P w = .ok (.tuple #[]) w := by
  unfold results
  simp [h]
/-- The value of a name. -/
def nmV (l : Nm) : Value := .string ⟨l.toArray⟩
/-- The types of rows and boxes that change while a code is built. -/
def tAsm (t : TypeId) : Prop := t = 73 ∨ t = 103 ∨ t = 128
theorem tAsm_op : tAsm 73 := .inl rfl
theorem tAsm_bd : tAsm 103 := .inr (.inl rfl)
theorem tAsm_jp : tAsm 128 := .inr (.inr rfl)
theorem tAsm_str : ¬ tAsm 9 := by unfold tAsm; decide
theorem eltAOp : Elt Tryd.prog 24 73 (.agg #[.int .i64 0, .int .i64 0, .int .i64 0, .int .i64 0, .int .i64 0]) 5 40 := Elt.mk' Tryd.underlying24 (by kernel_rfl) rfl (by decide)
theorem eltAJ : Elt Tryd.prog 101 128 (.agg #[.int .i64 0, .string ⟨#[]⟩]) 2 24 := Elt.mk' Tryd.underlying101 (by kernel_rfl) rfl (by decide)
theorem strKeyed : Keyed Tryd.prog 9 := string_keyed Tryd.underlying9
theorem zeroI (w : World) : (zeroValue 3).run Tryd.prog w = .ok (.int .i64 0) w := by kernel_rfl
/-- A jump's cells. -/
def jmpV (j : Int × Nm) : List Value := [.int .i64 j.1, nmV j.2]
def cellsJ (l : List (Int × Nm)) : List Value := l.flatMap jmpV
theorem cellsJ_length (l : List (Int × Nm)) : (cellsJ l).length = l.length * 2 := by
  induction l with
  | nil => rfl
  | cons f l ih => simp only [cellsJ, jmpV, List.flatMap_cons, List.length_append, List.length_cons, List.length_nil] at ih ⊢; omega
theorem cellsJ_append (a b : List (Int × Nm)) : cellsJ (a ++ b) = cellsJ a ++ cellsJ b := by simp [cellsJ]
/-- The map in block b holds what the list tells. -/
def MS (w : World) (b N : Nat) (ks : List (Nm × Int)) : Prop := ∃ D : DataW Unit, w.ownsMap Tryd.prog 9 (plainElem Tryd.prog 3) b N D ∧ Tidy D ∧ size D = ks.length ∧
  (∀ l : Nm, has D (.string l) = (nmAsk ks l).isSome) ∧ ∀ l : Nm, D.atKey (.string l) (.lit (.int .i64 0)) = .lit (.int .i64 ((nmAsk ks l).getD 0))
section
variable {w w' : World} {b N : Nat} {ks : List (Nm × Int)}
theorem MS.lt (h : MS w b N ks) : b < w.heap.size := by obtain ⟨D, h, _⟩ := h; exact h.lt
theorem MS.mono (h : MS w b N ks) {N' : Nat} (hn : N ≤ N') : MS w b N' ks := by obtain ⟨D, h, h2⟩ := h; exact ⟨D, h.mono hn, h2⟩
theorem MS.kept (h : MS w b N ks) {row : Option Nat} (hg : w.grownBy w' row) (hne : some b ≠ row) : MS w' b N ks := by obtain ⟨D, h, h2⟩ := h; exact ⟨D, h.kept hg hne, h2⟩
theorem MS.map (h : MS w b N ks) : ∃ es ck, w.heap[b]? = some (.map es ck) := by obtain ⟨D, ⟨es, ck, hh, _⟩, _⟩ := h; exact ⟨es, ck, hh⟩
theorem MS.ne (h : MS w b N ks) {g : Nat} {t : TypeId} {cs : Array Value} {fr : Nat × Nat} (hg : w.heap[g]? = some (.cells cs t fr)) : b ≠ g := by
  obtain ⟨es, ck, hh⟩ := h.map
  rintro rfl
  rw [hh] at hg
  cases hg
theorem MS.ne_own (h : MS w b N ks) {base : Nat} {e : TypeId} {s n : Nat} {v : Value} {xs : List Value} (ho : w.ownsRow base e s v n xs) : some b ≠ v.ownBlock := by
  rcases ho.2 with ⟨rfl, _⟩ | ⟨g, cap, cur, rfl, _, hh, _⟩
  · simp [Value.ownBlock]
  · have := h.ne hh
    simpa [Value.ownBlock] using this
theorem MS.made (w : World) : MS (w.alloc (.map #[] 0)) w.heap.size 0 [] := ⟨_, World.ownsMap_made _ _ _ _, tidy_empty, rfl, fun _ => rfl, fun _ => rfl⟩
theorem nm_key {l : Nm} (hl : l.length ≤ 1000) : keyOf Tryd.prog 9 (nmV l) = some (.string l) := by
  have := keyOf_string_mk (P := Tryd.prog) (k := 9) Tryd.underlying9 (s := ⟨l.toArray⟩) (by show l.toArray.size ≤ maxLen; simp; unfold maxLen; omega)
  simpa [nmV] using this
theorem MS.look (h : MS w b N ks) {l : Nm} (hl : l.length ≤ 1000) : (Instr.lookup 100 (.map (some b)) (nmV l) true).run Tryd.prog w = .ok (.tuple #[.int .i64 ((nmAsk ks l).getD 0), .bool (nmAsk ks l).isSome]) w := by
  obtain ⟨D, h, h1, h2, h3, h4⟩ := h
  obtain ⟨v, ps, hrun, hv⟩ := h.look_ok strKeyed Tryd.underlying100 (zeroI _) (plainElem_int Tryd.underlying3 (by decide)) (nm_key hl)
  rw [h4] at hv
  obtain ⟨c, rfl, hc, hwc⟩ := plainElem_int_inv Tryd.underlying3 hv
  simp only [Prod.mk.injEq, DataW.lit.injEq, Lit.int.injEq, true_and] at hc
  rw [hrun, h3, hc.1]
theorem MS.len (h : MS w b N ks) (ty : TypeId) : (Builtin.len_ #[100] ty #[.map (some b)]).run Tryd.prog w = .ok (.int .i64 ks.length) w := by
  obtain ⟨D, h, h1, h2, h3, h4⟩ := h
  rw [h.len Tryd.underlying100 ty, h2]
theorem MS.update (h : MS w b N ks) {l : Nm} (hl : l.length ≤ 1000) {v : Int} (hv : inW v) (hN : N < 1000000) (ha : nmAsk ks l = none) : ∃ w', (Instr.mapUpdate 100 (.map (some b)) (nmV l) (.int .i64 v)).run Tryd.prog w = .ok () w' ∧ MS w' b (N + 1) (ks ++ [(l, v)]) ∧ w.grownBy w' (some b) := by
  obtain ⟨D, h, h1, h2, h3, h4⟩ := h
  obtain ⟨w', hrun, hown, hg⟩ := h.update strKeyed Tryd.underlying100 (by unfold maxLen; omega) (nm_key hl) (plainElem_int Tryd.underlying3 (by unfold inW at hv; exact WalkArith.wf_i64 (by omega)))
  have hk : WideAt.IsKeyLit (Lit.string l) := by simp [WideAt.IsKeyLit]
  refine ⟨w', hrun, ⟨_, hown, h1.put hk _, ?_, fun l' => ?_, fun l' => ?_⟩, hg⟩
  · rw [size_put h1, h3, ha]
    simp [h2]
  · rw [nmAsk_append]
    by_cases he : l' = l
    · subst he
      rw [has_put_same h1.isMap hk, ha]
      simp [nmAsk]
    · rw [has_put_other (by simpa using he), h3]
      have he' : ¬ l = l' := fun e => he e.symm
      have : nmAsk [(l, v)] l' = none := by simp [nmAsk, he']
      rw [this]
      simp
  · rw [nmAsk_append]
    by_cases he : l' = l
    · subst he
      rw [atKey_put_same h1.isMap hk, ha]
      simp [nmAsk]
    · rw [atKey_put_other (by simpa using he), h4]
      have he' : ¬ l = l' := fun e => he e.symm
      have : nmAsk [(l, v)] l' = none := by simp [nmAsk, he']
      rw [this]
      simp
end
theorem wp_lookN {w : World} {ops : Array Oper} {rest : List Oper} {o : Oper} {a : Act} {Q : Exit → Act → World → Prop} (hg : o.guard = none) (m x : Operand) (hop : o.op = Op.lookup 100 m x true) (b N : Nat) (ks : List (Nm × Int)) (l : Nm)
    (hm : a.eval m = .map (some b)) (h : MS w b N ks) (hx : a.eval x = nmV l) (hl : l.length ≤ 1000) (v : Option Int) (hv : nmAsk ks l = v) (hK : wpList Tryd.prog ops Q rest (a.put o.dst (.tuple #[.int .i64 (v.getD 0), .bool v.isSome])) w) : wpList Tryd.prog ops Q (o :: rest) a w := by
  refine wpList_plain hg fun K' hK' => ?_
  have hrun := h.look hl
  rw [hv] at hrun
  unfold Oper.wp
  simp [execOp, hop, hm, hx, hrun, Result.andThen]
  exact hK' _ _ hK
theorem wp_updS {w : World} {ops : Array Oper} {rest : List Oper} {o : Oper} {a : Act} {Q : Exit → Act → World → Prop} (hg : o.guard = none) (hd : o.dst = none) (m x y : Operand) (hop : o.op = Op.mapUpdate 100 m x y) (b N : Nat) (ks : List (Nm × Int)) (l : Nm) (v : Int)
    (hm : a.eval m = .map (some b)) (h : MS w b N ks) (hx : a.eval x = nmV l) (hy : a.eval y = .int .i64 v) (hl : l.length ≤ 1000) (hv : inW v) (hN : N < 1000000) (ha : nmAsk ks l = none)
    (hK : ∀ w', Hid (MS w' b (N + 1) (ks ++ [(l, v)])) → w.grownBy w' (some b) → wpList Tryd.prog ops Q rest a w') : wpList Tryd.prog ops Q (o :: rest) a w := by
  refine wpList_plain hg fun K' hK' => ?_
  obtain ⟨w', hrun, h1, h2⟩ := h.update hl hv hN ha
  unfold Oper.wp
  simp [execOp, hop, hm, hx, hy, hrun, Result.andThen]
  exact hK' _ _ (by rw [hd]; exact hK w' h1 h2)

/-- The builder lies in block b; all its memory lies in blocks from B on; n bounds its lists. -/
structure Bd (w : World) (B b : Nat) (s : Bs) (n : Nat) (cv jv : Value) (rm lm : Nat) : Prop where
  box : Box w b 103 [cv, .map (some rm), .map (some lm), jv, .bool s.twice]
  code : w.ownsRow B 73 5 cv s.code.length (cellsO s.code)
  jmps : w.ownsRow B 128 2 jv s.jmps.length (cellsJ s.jmps)
  regs : MS w rm n s.regs
  labs : MS w lm n s.labs
  low : B ≤ b ∧ B ≤ rm ∧ B ≤ lm ∧ rm ≠ lm
  bnd : s.code.length ≤ n ∧ s.jmps.length ≤ n ∧ s.regs.length ≤ n
def BdAt (w : World) (B b : Nat) (s : Bs) (n : Nat) : Prop := ∃ cv jv rm lm, Bd w B b s n cv jv rm lm
/-- What a method leaves. -/
def AsmPost (w : World) (B b : Nat) (s : Bs) (n : Nat) (w' : World) : Prop := BdAt w' B b s n ∧ Kc tAsm w w' ∧ Below B w w'
theorem neJO : 128 ≠ 73 := by decide
theorem neOB : 73 ≠ 103 := by decide
theorem neJB : 128 ≠ 103 := by decide
section
variable {w w' : World} {B b n rm lm : Nat} {s : Bs} {cv jv : Value}
theorem Bd.kept (h : Bd w B b s n cv jv rm lm) {row : Option Nat} (hg : w.grownBy w' row) (hb : some b ≠ row) (h1 : some rm ≠ row) (h2 : some lm ≠ row) (h3 : ∀ k, cv.ownBlock = some k → some k ≠ row) (h4 : ∀ k, jv.ownBlock = some k → some k ≠ row) : Bd w' B b s n cv jv rm lm := by
  refine ⟨h.box.grown hg hb, h.code.kept hg ?_, h.jmps.kept hg ?_, h.regs.kept hg h1, h.labs.kept hg h2, h.low, h.bnd⟩
  · cases hv : cv.ownBlock with
    | none => exact .inl rfl
    | some k => exact .inr (h3 k hv)
  · cases hv : jv.ownBlock with
    | none => exact .inl rfl
    | some k => exact .inr (h4 k hv)
theorem Bd.alloc (h : Bd w B b s n cv jv rm lm) (o : Obj) : Bd (w.alloc o) B b s n cv jv rm lm := h.kept (World.grownBy_alloc w o none) (by simp) (by simp) (by simp) (by simp) (by simp)
theorem Bd.drew (h : Bd w B b s n cv jv rm lm) : Bd w.drew B b s n cv jv rm lm := ⟨h.box, h.code, h.jmps, h.regs, h.labs, h.low, h.bnd⟩
theorem Bd.drewN (h : Bd w B b s n cv jv rm lm) (q : Nat) : Bd (w.drewN q) B b s n cv jv rm lm := by
  obtain ⟨⟨D, h1, h2⟩, ⟨E, h3, h4⟩⟩ := And.intro h.regs h.labs
  exact ⟨h.box, h.code, h.jmps, ⟨D, h1, h2⟩, ⟨E, h3, h4⟩, h.low, h.bnd⟩
theorem Bd.mono (h : Bd w B b s n cv jv rm lm) {n' : Nat} (hn : n ≤ n') : Bd w B b s n' cv jv rm lm := ⟨h.box, h.code, h.jmps, h.regs.mono hn, h.labs.mono hn, h.low, by have := h.bnd; omega⟩
theorem BdAt.mono (h : BdAt w B b s n) {n' : Nat} (hn : n ≤ n') : BdAt w B b s n' := by obtain ⟨cv, jv, rm, lm, h⟩ := h; exact ⟨cv, jv, rm, lm, h.mono hn⟩
theorem Bd.lt (h : Bd w B b s n cv jv rm lm) : b < w.heap.size := h.box.lt
theorem Bd.hB (h : Bd w B b s n cv jv rm lm) : B ≤ w.heap.size := by have := h.low.1; have := h.lt; omega
theorem BdAt.hB (h : BdAt w B b s n) : B ≤ w.heap.size ∧ b < w.heap.size := by obtain ⟨cv, jv, rm, lm, h⟩ := h; exact ⟨h.hB, h.lt⟩
/-- A map's block is no block of cells. -/
theorem kc_map (h : MS w rm n s.regs) (hg : w.grownBy w' (some rm)) : Kc tAsm w w' := Kc.grown hg fun b cs t fr hr hh => by
  injection hr with hr
  subst hr
  exact absurd rfl (h.ne hh)
theorem kc_mapL (h : MS w lm n s.labs) (hg : w.grownBy w' (some lm)) : Kc tAsm w w' := Kc.grown hg fun b cs t fr hr hh => by
  injection hr with hr
  subst hr
  exact absurd rfl (h.ne hh)
/-- A register has been named. -/
theorem Bd.named (h : Bd w B b s n cv jv rm lm) {l : Nm} {v : Int} (hr : MS w' rm (n + 1) (s.regs ++ [(l, v)])) (hg : w.grownBy w' (some rm)) : Bd w' B b { s with regs := s.regs ++ [(l, v)] } (n + 1) cv jv rm lm := by
  obtain ⟨q1, q2, q3, q4⟩ := h.low
  have hb : some b ≠ some rm := fun e => h.regs.ne h.box (by injection e with e; exact e.symm)
  refine ⟨h.box.grown hg hb, h.code.kept hg ?_, h.jmps.kept hg ?_, hr, (h.labs.kept hg (by simpa using fun e => q4 e.symm)).mono (Nat.le_succ _), h.low, by have := h.bnd; simp; omega⟩
  · cases hv : cv.ownBlock with
    | none => exact .inl rfl
    | some k => exact .inr fun e => h.regs.ne_own h.code (by rw [hv, e])
  · cases hv : jv.ownBlock with
    | none => exact .inl rfl
    | some k => exact .inr fun e => h.regs.ne_own h.jmps (by rw [hv, e])
/-- A label has been placed. -/
theorem Bd.labelled (h : Bd w B b s n cv jv rm lm) {l : Nm} {v : Int} (hr : MS w' lm (n + 1) (s.labs ++ [(l, v)])) (hg : w.grownBy w' (some lm)) : Bd w' B b { s with labs := s.labs ++ [(l, v)] } (n + 1) cv jv rm lm := by
  obtain ⟨q1, q2, q3, q4⟩ := h.low
  have hb : some b ≠ some lm := fun e => h.labs.ne h.box (by injection e with e; exact e.symm)
  refine ⟨h.box.grown hg hb, h.code.kept hg ?_, h.jmps.kept hg ?_, (h.regs.kept hg (by simpa using q4)).mono (Nat.le_succ _), hr, h.low, by have := h.bnd; simp; omega⟩
  · cases hv : cv.ownBlock with
    | none => exact .inl rfl
    | some k => exact .inr fun e => h.labs.ne_own h.code (by rw [hv, e])
  · cases hv : jv.ownBlock with
    | none => exact .inl rfl
    | some k => exact .inr fun e => h.labs.ne_own h.jmps (by rw [hv, e])
theorem own_ne {e1 e2 : TypeId} {s1 s2 n1 n2 B1 B2 : Nat} {v1 v2 : Value} {xs1 xs2 : List Value} (h1 : w.ownsRow B1 e1 s1 v1 n1 xs1) (h2 : w.ownsRow B2 e2 s2 v2 n2 xs2) (hne : e1 ≠ e2) : ∀ k, v1.ownBlock = some k → v2.ownBlock ≠ some k := by
  intro k hk he
  rcases h1.2 with ⟨rfl, _⟩ | ⟨g, _, _, rfl, _, hh, _⟩
  · simp [Value.ownBlock] at hk
  · rcases h2.2 with ⟨rfl, _⟩ | ⟨g2, _, _, rfl, _, hh2, _⟩
    · simp [Value.ownBlock] at he
    · simp [Value.ownBlock] at hk he
      subst hk
      subst he
      rw [hh] at hh2
      simp only [Option.some.injEq, Obj.cells.injEq] at hh2
      exact hne hh2.2.1
/-- An instruction has been appended and stored. -/
theorem Bd.coded (h : Bd w B b s n cv jv rm lm) {o : Ins} {v' : Value} {w1 : World} {ob : Obj} (hg : (w.alloc ob).grownBy w1 cv.ownBlock) (ho : w1.ownsRow B 73 5 v' (s.code.length + 1) (cellsO s.code ++ insV o)) :
    Bd (w1.setCell ⟨b, 0, none⟩ v') B b (s.put o) (n + 1) v' jv rm lm := by
  have hb1 := (h.box.alloc ob).grown hg (h.box.ne h.code neOB)
  have hg2 := grown_setCell w1 ⟨b, 0, none⟩ v'
  have hj1 : w1.ownsRow B 128 2 jv s.jmps.length (cellsJ s.jmps) := (h.jmps.alloc ob).kept hg (by
    cases hv : jv.ownBlock with
    | none => exact .inl rfl
    | some k => exact .inr fun e => own_ne h.jmps h.code neJO k hv e.symm)
  have hr1 : MS w1 rm n s.regs := (h.regs.kept (World.grownBy_alloc w ob none) (by simp)).kept hg (h.regs.ne_own h.code)
  have hl1 : MS w1 lm n s.labs := (h.labs.kept (World.grownBy_alloc w ob none) (by simp)).kept hg (h.labs.ne_own h.code)
  have hne : ∀ {e : TypeId} {z m : Nat} {v : Value} {xs : List Value}, w1.ownsRow B e z v m xs → e ≠ 103 → v.ownBlock = none ∨ v.ownBlock ≠ some b := fun {e z m v xs} hw he => by
    cases hv : v.ownBlock with
    | none => exact .inl rfl
    | some k => exact .inr fun hk => by have := hb1.ne hw he; rw [hv] at this; exact this hk.symm
  refine ⟨hb1.set 0 v', ?_, hj1.kept hg2 (hne hj1 neJB), (hr1.kept hg2 fun e => hr1.ne hb1 (by injection e)).mono (Nat.le_succ _), (hl1.kept hg2 fun e => hl1.ne hb1 (by injection e)).mono (Nat.le_succ _), h.low, by have := h.bnd; unfold Bs.put; simp; omega⟩
  have := ho.kept hg2 (hne ho neOB)
  unfold Bs.put
  dsimp only
  rw [cellsO_append, List.length_append, List.length_singleton]
  simpa [cellsO] using this
theorem Bd.jumped (h : Bd w B b s n cv jv rm lm) {j : Int × Nm} {v' : Value} {w1 : World} {ob : Obj} (hg : (w.alloc ob).grownBy w1 jv.ownBlock) (ho : w1.ownsRow B 128 2 v' (s.jmps.length + 1) (cellsJ s.jmps ++ jmpV j)) :
    Bd (w1.setCell ⟨b, 3, none⟩ v') B b { s with jmps := s.jmps ++ [j] } (n + 1) cv v' rm lm := by
  have hb1 := (h.box.alloc ob).grown hg (h.box.ne h.jmps neJB)
  have hg2 := grown_setCell w1 ⟨b, 3, none⟩ v'
  have hj1 : w1.ownsRow B 73 5 cv s.code.length (cellsO s.code) := (h.code.alloc ob).kept hg (by
    cases hv : cv.ownBlock with
    | none => exact .inl rfl
    | some k => exact .inr fun e => own_ne h.jmps h.code neJO k e.symm hv)
  have hr1 : MS w1 rm n s.regs := (h.regs.kept (World.grownBy_alloc w ob none) (by simp)).kept hg (h.regs.ne_own h.jmps)
  have hl1 : MS w1 lm n s.labs := (h.labs.kept (World.grownBy_alloc w ob none) (by simp)).kept hg (h.labs.ne_own h.jmps)
  have hne : ∀ {e : TypeId} {z m : Nat} {v : Value} {xs : List Value}, w1.ownsRow B e z v m xs → e ≠ 103 → v.ownBlock = none ∨ v.ownBlock ≠ some b := fun {e z m v xs} hw he => by
    cases hv : v.ownBlock with
    | none => exact .inl rfl
    | some k => exact .inr fun hk => by have := hb1.ne hw he; rw [hv] at this; exact this hk.symm
  refine ⟨hb1.set 3 v', hj1.kept hg2 (hne hj1 neOB), ?_, (hr1.kept hg2 fun e => hr1.ne hb1 (by injection e)).mono (Nat.le_succ _), (hl1.kept hg2 fun e => hl1.ne hb1 (by injection e)).mono (Nat.le_succ _), h.low, by have := h.bnd; simp; omega⟩
  have := ho.kept hg2 (hne ho neJB)
  dsimp only
  rw [cellsJ_append, List.length_append, List.length_singleton]
  simpa [cellsJ] using this
/-- What is kept where a row grows and the builder is written. -/
theorem kc_row {e : TypeId} {z m i : Nat} {v v' : Value} {xs : List Value} {w1 : World} {ob : Obj} (h : Bd w B b s n cv jv rm lm) (ho : w.ownsRow B e z v m xs) (he : tAsm e) (he2 : e ≠ 103) (hg : (w.alloc ob).grownBy w1 v.ownBlock) : Kc tAsm w (w1.setCell ⟨b, i, none⟩ v') ∧ Below B w (w1.setCell ⟨b, i, none⟩ v') := by
  have h0 := Below.refl B w
  constructor
  · refine Kc.trans (Kc.trans (Kc.grown (World.grownBy_alloc w ob none) (by simp)) (Kc.grown hg fun k cs t fr hr hh => ?_)) (Kc.grown (grown_setCell w1 ⟨b, i, none⟩ v') fun k cs t fr hr hh => ?_)
    · rcases ho.2 with ⟨rfl, _⟩ | ⟨g, _, _, rfl, _, hh2, _⟩
      · simp [Value.ownBlock] at hr
      · simp [Value.ownBlock] at hr
        subst hr
        have := (Below.heap_alloc w ob g (lt_of_heap hh2)).trans hh2
        rw [this] at hh
        simp only [Option.some.injEq, Obj.cells.injEq] at hh
        rw [← hh.2.1]; exact he
    · simp at hr
      subst hr
      have hne := h.box.ne ho he2
      have := (h.box.alloc ob).grown hg hne
      unfold Box at this
      rw [this] at hh
      simp only [Option.some.injEq, Obj.cells.injEq] at hh
      rw [← hh.2.1]; exact tAsm_bd
  · exact ((h0.alloc h.hB ob).grown hg (by simp; have := h.hB; omega) (fun k hk => (ho.lt k hk).1)).setCell h.low.1 _
end
end Go.Proofs.YtnchgdjdfhfedaaDoor
