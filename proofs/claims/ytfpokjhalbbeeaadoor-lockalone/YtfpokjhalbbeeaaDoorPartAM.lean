/- Of this claim's own texts these, one behind the other: LibMid, MachT, KeepLockM. No statement of the seat is proved here; no condition but those that stand at the theorems. -/
import Derived.Test.YtfpokjhalbbeeaaDoorPartAL
import Derived.Deep.MidRow
import Derived.Test.YtfpokjhalbbeeaaDoorRows
import Derived.Test.YtfpokjhalbbeeaaDoorPartAC
import Derived.Test.YtfpokjhalbbeeaaDoorPartAF
import Derived.Test.YtfpokjhalbbeeaaDoorPartAG
import Derived.Test.YtfpokjhalbbeeaaDoorPartAH
import Derived.Test.YtfpokjhalbbeeaaDoorPartAI
set_option linter.unusedSimpArgs false
set_option linter.unusedVariables false
namespace Go.Baro
open Go.RowKit

theorem grown_setCells : ∀ (cs : List Value) (w : World) (b o : Nat), w.grownBy (w.setCells b o cs) (some b)
  | [], w, b, o => World.grownBy.refl w _
  | v :: cs, w, b, o => grown_trans (grown_setCell w ⟨b, o, none⟩ v) (grown_setCells cs _ b (o + 1))
theorem box_setCells {b : Nat} {T : TypeId} {post : List Value} : ∀ (cs old pre : List Value) (w : World) (o : Nat), Box w b T (pre ++ (old ++ post)) → old.length = cs.length → pre.length = o → Box (w.setCells b o cs) b T (pre ++ (cs ++ post))
  | [], old, pre, w, o, h, hl, ho => by
    have : old = [] := List.eq_nil_of_length_eq_zero (by simpa using hl)
    subst this
    exact h
  | v :: cs, [], pre, w, o, h, hl, ho => by simp at hl
  | v :: cs, u :: old, pre, w, o, h, hl, ho => by
    have h1 := h.set o v
    rw [List.set_append_right _ _ (by omega), ho, Nat.sub_self, List.cons_append, List.set_cons_zero] at h1
    have h2 : Box (w.setCell ⟨b, o, none⟩ v) b T ((pre ++ [v]) ++ (old ++ post)) := by
      rw [List.append_assoc]; exact h1
    have h3 := box_setCells cs old (pre ++ [v]) _ (o + 1) h2 (by simpa using hl) (by simp [ho])
    rw [List.append_assoc] at h3
    exact h3
theorem box_there {w : World} {b o : Nat} {T : TypeId} {pre old post : List Value} (h : Box w b T (pre ++ (old ++ post))) (ho : pre.length = o) : w.there b o old.length := by
  intro j hj
  refine ⟨?_, h.frozen _⟩
  have := h.cell (pre.length + j)
  rw [mid_at hj, ho] at this
  rw [this, List.getElem?_eq_getElem hj]
  rfl
theorem box_range {w : World} {b o : Nat} {T : TypeId} {pre old post : List Value} (h : Box w b T (pre ++ (old ++ post))) (ho : pre.length = o) : w.rangeAt b o old := by
  intro j v hv
  have hj := (List.getElem?_eq_some_iff.1 hv).1
  have := h.cell (pre.length + j)
  rw [mid_at hj, ho] at this
  rw [this, hv]
/-- A struct is stored into the middle of a block. -/
theorem store_mid {P : Program} {ops : Array Oper} {rest : List Oper} {op : Oper} {a : Act} {w : World} {Q : Exit → Act → World → Prop} (hgd : op.guard = none) (hdst : op.dst = none) (ty : TypeId) (x y : Operand) (hop : op.op = .store ty x y)
    (b o : Nat) (cells : List Value) (hx : a.eval x = .pointer (some ⟨b, o, none⟩)) (hy : a.eval y = .agg cells.toArray) (T : TypeId) (pre old post : List Value) (h : Box w b T (pre ++ (old ++ post))) (ho : pre.length = o) (hl : old.length = cells.length)
    (hi : (P.info? ty).map (·.size) = some cells.length) (h1 : ∀ v ∈ cells, v.oneCell' = true) (hK : ∀ w', Hid (Box w' b T (pre ++ (cells ++ post))) → w.grownBy w' (some b) → wpList P ops Q rest a w') : wpList P ops Q (op :: rest) a w := by
  refine wpList_store_mid hgd ty x y hop b o cells.toArray hx hy (by have := box_there h ho; rw [hl] at this; simpa using this) (by simpa using hi) (all_oneCell_toArray h1) ?_
  rw [hdst]
  exact hK _ (box_setCells cells old pre w o h hl ho) (grown_setCells cells w b o)
/-- A struct is read out of the middle of a block. -/
theorem load_mid {P : Program} {ops : Array Oper} {rest : List Oper} {op : Oper} {a : Act} {w : World} {Q : Exit → Act → World → Prop} (hgd : op.guard = none) (ty : TypeId) (x : Operand) (hop : op.op = .load ty x)
    (b o : Nat) (hx : a.eval x = .pointer (some ⟨b, o, none⟩)) (T : TypeId) (pre cells post : List Value) (h : Box w b T (pre ++ (cells ++ post))) (ho : pre.length = o) (d : TypeDesc) (hu : P.underlying ty = some d) (hd : d.isRow = true) (hi : (P.info? ty).map (·.size) = some cells.length)
    (hK : wpList P ops Q rest (a.put op.dst (.agg cells.toArray)) w) : wpList P ops Q (op :: rest) a w :=
  wpList_load_mid hgd ty x hop b o hx cells d (box_range h ho) hu hd hi hK
end Go.Baro

set_option linter.unusedSimpArgs false
set_option linter.unusedVariables false
namespace Go.Proofs.YtfpokjhalbbeeaaDoor
open Go.RowKit Go.Ord Go.Baro

theorem eltCall : Elt Tryd.prog 65 67 (.agg #[.int .i64 0, .slice none 0 0]) 2 32 := Elt.mk' Tryd.underlying65 (by kernel_rfl) rfl (by decide)
theorem eltThr : Elt Tryd.prog 34 65 (.slice none 0 0) 1 24 := Elt.mk' Tryd.underlying34 (by kernel_rfl) rfl (by decide)
/-- The types that change while the calls are written. -/
def tCall (t : TypeId) : Prop := t = 67 ∨ t = 65
theorem tCall_int : ¬ tCall 3 := by unfold tCall; decide
theorem tCall_op : ¬ tCall 64 := by unfold tCall; decide
theorem tCall_code : ¬ tCall 26 := by unfold tCall; decide
theorem tCall_mach : ¬ tCall 36 := by unfold tCall; decide
end Go.Proofs.YtfpokjhalbbeeaaDoor

set_option linter.unusedSimpArgs false
set_option linter.unusedVariables false
namespace Go.Proofs.YtfpokjhalbbeeaaDoor
open Go.RowKit Go.Ord Go.OrdG Go.Baro

/-- The calls of a thread that enters and leaves so often. -/
def lockJ (t : Nat) (wk : Nat) (j : Nat) : List Cl := (List.range j).flatMap fun _ => if 0 < wk then [⟨0, [(t : Int)]⟩, ⟨2, []⟩, ⟨1, [(t : Int)]⟩] else [⟨0, [(t : Int)]⟩, ⟨1, [(t : Int)]⟩]
/-- The work between. -/
def workC (wk : Nat) : List Ins := (List.range wk).map fun (i : Nat) => (⟨1, 0, (i : Int), 0, 0⟩ : Ins)
def mLock (ws : Nat → List Int) (ce cl : Nat → List Ins) (n : Nat) (f : Nat → Nat) (wk : Nat) : Mc := ⟨ws n, [ce n, cl n, workC wk], (List.range n).map fun t => lockJ t wk (f t)⟩
theorem eltOpM : Elt Tryd.prog 26 64 (.agg #[.int .i64 0, .int .i64 0, .int .i64 0, .int .i64 0, .int .i64 0]) 5 40 := Elt.mk' Tryd.underlying26 (by kernel_rfl) rfl (by decide)
theorem mem_ofM {l : List Nat} {a : Nat} (h : l.contains a = true) : a ∈ l := by simpa using h
theorem made_ops (m : Nat) : (madeCells (Value.cells (.agg #[.int .i64 0, .int .i64 0, .int .i64 0, .int .i64 0, .int .i64 0])) (m * 5)).toList = cellsO (List.replicate m ⟨0, 0, 0, 0, 0⟩) := by
  have hz : ∀ k : Nat, (cellsO (List.replicate k ⟨0, 0, 0, 0, 0⟩)) = List.replicate (k * 5) (.int .i64 0) := by
    intro k
    induction k with
    | zero => rfl
    | succ k ih =>
      rw [List.replicate_succ, show ∀ (o : Ins) l, cellsO (o :: l) = cellsO [o] ++ cellsO l from fun o l => cellsO_append [o] l, ih, Nat.succ_mul, Nat.add_comm (k * 5) 5, ← List.replicate_append_replicate]
      rfl
  rw [hz]
  apply List.ext_getElem
  · simp [madeCells]
  · intro i h1 h2
    simp only [madeCells, Value.cells, List.getElem_replicate]
    have : i % 5 < 5 := Nat.mod_lt _ (by decide)
    rcases (by omega : i % 5 = 0 ∨ i % 5 = 1 ∨ i % 5 = 2 ∨ i % 5 = 3 ∨ i % 5 = 4) with h | h | h | h | h <;> simp [h]
/-- Blocks of a machine alone are written. -/
def tMach (t : TypeId) : Prop := t = 36
/-- The work when j of its instructions are written. -/
def wkC (j wk : Nat) : List Ins := workC j ++ List.replicate (wk - j) ⟨0, 0, 0, 0, 0⟩
theorem wkC_0 (wk : Nat) : wkC 0 wk = List.replicate wk ⟨0, 0, 0, 0, 0⟩ := by simp [wkC, workC]
theorem wkC_all (wk : Nat) : wkC wk wk = workC wk := by simp [wkC]
theorem workC_len (j : Nat) : (workC j).length = j := by simp [workC]
theorem workC_succ (j : Nat) : workC (j + 1) = workC j ++ [⟨1, 0, (j : Int), 0, 0⟩] := by simp [workC, List.range_succ]
theorem wkC_at {j wk : Nat} (h : j < wk) : cellsO (wkC j wk) = cellsO (workC j) ++ ([.int .i64 0, .int .i64 0, .int .i64 0, .int .i64 0, .int .i64 0] ++ cellsO (List.replicate (wk - (j + 1)) ⟨0, 0, 0, 0, 0⟩)) := by
  rw [wkC, cellsO_append, show wk - j = (wk - (j + 1)) + 1 by omega, List.replicate_succ, show ∀ (o : Ins) l, cellsO (o :: l) = cellsO [o] ++ cellsO l from fun o l => cellsO_append [o] l]
  rfl
theorem wkC_to (j wk : Nat) : cellsO (wkC (j + 1) wk) = cellsO (workC j) ++ ([.int .i64 1, .int .i64 0, .int .i64 (j : Int), .int .i64 0, .int .i64 0] ++ cellsO (List.replicate (wk - (j + 1)) ⟨0, 0, 0, 0, 0⟩)) := by
  rw [wkC, workC_succ, cellsO_append, cellsO_append, List.append_assoc]
  rfl
def tOp (t : TypeId) : Prop := t = 64
theorem lockJ_succ (t wk j : Nat) : lockJ t wk (j + 1) = lockJ t wk j ++ (if 0 < wk then [⟨0, [(t : Int)]⟩, ⟨2, []⟩, ⟨1, [(t : Int)]⟩] else [⟨0, [(t : Int)]⟩, ⟨1, [(t : Int)]⟩]) := by simp [lockJ, List.range_succ]
theorem lockJ_len (t wk j : Nat) : (lockJ t wk j).length = if 0 < wk then 3 * j else 2 * j := by
  induction j with
  | zero => simp [lockJ]
  | succ j ih => rw [lockJ_succ, List.length_append, ih]; split <;> simp <;> omega
theorem lockJ_mem {t wk j : Nat} {x : Cl} (h : x ∈ lockJ t wk j) : (x.k = 0 ∨ x.k = 1 ∨ x.k = 2) ∧ (x.ar = [(t : Int)] ∨ x.ar = []) := by
  simp only [lockJ, List.mem_flatMap, List.mem_range] at h
  obtain ⟨_, _, h⟩ := h
  split at h <;> simp only [List.mem_cons, List.not_mem_nil, or_false] at h
  · rcases h with rfl | rfl | rfl <;> simp
  · rcases h with rfl | rfl <;> simp
theorem lock_th {t wk j : Nat} (ht : t < 4) (hj : j ≤ 6) : okTh (lockJ t wk j) := by
  refine ⟨by rw [lockJ_len]; split <;> omega, fun x hx => ?_⟩
  obtain ⟨h1, h2⟩ := lockJ_mem hx
  refine ⟨by unfold inW; omega, by rcases h2 with h | h <;> rw [h] <;> simp, fun y hy => ?_⟩
  rcases h2 with h | h <;> rw [h] at hy
  · rw [List.mem_singleton.1 hy]; unfold inW; omega
  · cases hy
/-- The machine in memory. -/
theorem lock_inM {ws : Nat → List Int} {ce cl : Nat → List Ins} (hws : WordsOk 4 ws) (hce : CodesOk 4 ce) (hcl : CodesOk 4 cl) {n wk : Nat} (h1 : 1 ≤ n) (h4 : n ≤ 4) (hwk : wk ≤ 40) {f : Nat → Nat} (hf : ∀ t, t < n → f t ≤ 6) {w : World} {Aw Ap Ag : Option Addr} {nw cw np cp ng cg g4 g5 g7 B : Nat} {tg : Nat → Nat} {ts : Nat → Value}
    (q1 : QT w 3 1 Aw nw ((ws n).map (Value.int .i64))) (q2 : QT w 64 5 Ap np (cellsO (ce n))) (q3 : QT w 64 5 Ag ng (cellsO (cl n))) (b4 : Box w g4 64 (cellsO (workC wk))) (b5 : Box w g5 26 [.slice Ap np cp, .slice Ag ng cg, .slice (some ⟨g4, 0, none⟩) wk wk])
    (hm : Mg 3 67 65 tg w B g7 n ts (fun t => lockJ t wk (f t))) (hlw : nw ≤ cw) (hcw : cw ≤ 9223372036854775807) (hlp : np ≤ cp) (hlg : ng ≤ cg) :
    InM w Aw nw cw (some ⟨g5, 0, none⟩) 3 3 (some ⟨g7, 0, none⟩) n n (mLock ws ce cl n f wk) := by
  have q4 : QT w 64 5 (some ⟨g4, 0, none⟩) wk (cellsO (workC wk)) := QT.box b4 (by rw [cellsO_length, workC_len])
  refine ⟨q1.rd, ?_, hm.rts, (hws n h1 h4).2.2, ?_, ?_, ⟨hlw, hcw⟩, ⟨by omega, by omega⟩, ⟨by omega, by omega⟩⟩
  · refine rg_box (rows := [[.slice Ap np cp], [.slice Ag ng cg], [.slice (some ⟨g4, 0, none⟩) wk wk]]) b5 rfl rfl (by simp) fun i r x hr hx => ?_
    match i with
    | 0 =>
      simp [mLock] at hr hx
      subst hr hx
      exact ⟨Ap, np, cp, rfl, hlp, q2.rd⟩
    | 1 =>
      simp [mLock] at hr hx
      subst hr hx
      exact ⟨Ag, ng, cg, rfl, hlg, q3.rd⟩
    | 2 =>
      simp [mLock] at hr hx
      subst hr hx
      exact ⟨some ⟨g4, 0, none⟩, wk, wk, rfl, Nat.le_refl _, q4.rd⟩
    | i + 3 => simp at hr
  · intro x hx
    simp only [mLock, List.mem_cons, List.not_mem_nil, or_false] at hx
    rcases hx with rfl | rfl | rfl
    · have := (hce n h1 h4).2
      exact ⟨by have := this.1.1; omega, this.2⟩
    · have := (hcl n h1 h4).2
      exact ⟨by have := this.1.1; omega, this.2⟩
    · refine ⟨by rw [workC_len]; omega, fun o ho => ?_⟩
      simp only [workC, List.mem_map, List.mem_range] at ho
      obtain ⟨i, hi, rfl⟩ := ho
      refine ⟨?_, ?_, ?_, ?_, ?_⟩ <;> unfold inW <;> dsimp only <;> omega
  · intro t ht
    simp only [mLock, List.mem_map, List.mem_range] at ht
    obtain ⟨i, hi, rfl⟩ := ht
    exact lock_th (by omega) (hf i hi)
theorem lock_ok {ws : Nat → List Int} {ce cl : Nat → List Ins} (hws : WordsOk 4 ws) (hce : CodesOk 4 ce) (hcl : CodesOk 4 cl) {n wk : Nat} (h1 : 1 ≤ n) (h4 : n ≤ 4) (hwk : wk ≤ 40) {f : Nat → Nat} (hf : ∀ t, t < n → f t ≤ 6) : okMc (mLock ws ce cl n f wk) := by
  refine ⟨?_, by simp [mLock], by simp [mLock]; omega, fun x hx => ?_, fun t ht => ?_⟩
  · have := (hws n h1 h4).2.1
    show (ws n).length ≤ 200
    omega
  · simp only [mLock, List.mem_cons, List.not_mem_nil, or_false] at hx
    rcases hx with rfl | rfl | rfl
    · exact (hce n h1 h4).2.1
    · exact (hcl n h1 h4).2.1
    · refine ⟨by rw [workC_len]; omega, fun o ho => ?_⟩
      simp only [workC, List.mem_map, List.mem_range] at ho
      obtain ⟨i, hi, rfl⟩ := ho
      simp [okI, isR]
  · simp only [mLock, List.mem_map, List.mem_range] at ht
    obtain ⟨i, hi, rfl⟩ := ht
    refine ⟨by rw [lockJ_len]; have := hf i hi; split <;> omega, fun x hx => ?_⟩
    obtain ⟨k1, k2⟩ := lockJ_mem hx
    refine ⟨by show 0 ≤ x.k ∧ x.k < ((3 : Nat) : Int); omega, by rcases k2 with h | h <;> rw [h] <;> simp⟩
theorem RI_cell {w : World} {B b o n i : Nat} {x : Int} {xs : List Int} (h : RI w B .i64 (some ⟨b, o, none⟩) n xs) (hi : i < n) (hx : xs[i]? = some x) : w.cell? ⟨b, o + i, none⟩ = some (.int .i64 x) ∧ b < B := by
  obtain ⟨b', o', x', e, hb, hc, HX, _⟩ := h.val hi
  injection e with e
  injection e with e1 e2 _
  subst e1 e2
  have := HX.out.symm.trans hx
  injection this with this
  subst this
  exact ⟨hc, hb⟩
structure LkmV (L : Nat → Bool) (bR n wk ob oo on oc nw cw np cp ng cg : Nat) (Aw Ap Ag : Option Addr) (B : Nat) (w0 : World) (u54 u55 u56 u57 u58 u59 u60 u61 u62 u14 : Value) (w : World) : Prop where
  bel : Below B w0 w
  f0 : L 0 = true → u54 = .slice Aw nw cw
  f1 : L 1 = true → u55 = .slice Ap np cp
  f2 : L 2 = true → u56 = .slice Ag ng cg
  f3 : L 3 = true → u57 = .int .i64 ((wk : Nat) : Int)
  f4 : L 4 = true → ∃ g, u58 = .slice (some ⟨g, 0, none⟩) wk wk ∧ B ≤ g ∧ Box w g 64 (cellsO (List.replicate wk ⟨0, 0, 0, 0, 0⟩))
  f5 : L 5 = true → ∃ g, u59 = .slice (some ⟨g, 0, none⟩) 3 3 ∧ B ≤ g ∧ Box w g 26 [.slice Ap np cp, .slice Ag ng cg, u58]
  f6 : L 6 = true → u60 = .int .i64 ((n : Nat) : Int)
  f7 : L 7 = true → ∃ g, u61 = .slice (some ⟨g, 0, none⟩) n n ∧ B ≤ g ∧ Box w g 65 (List.replicate n (.slice none 0 0))
  f8 : L 8 = true → u62 = .agg #[u54, u59, u61]
  f9 : L 9 = true → ∃ g, u14 = .pointer (some ⟨g, 0, none⟩) ∧ B ≤ g ∧ Box w g 36 [.slice none 0 0, .slice none 0 0, .slice none 0 0]
def LkmG (bR n wk ob oo on oc nw cw np cp ng cg : Nat) (Aw Ap Ag : Option Addr) (B : Nat) (w0 : World) (L : Nat → Bool) (a : Act) (w : World) : Prop :=
  ∃ u54 u55 u56 u57 u58 u59 u60 u61 u62 u14, a = ⟨#[.int .i64 ((n : Nat) : Int), .slice (some ⟨ob, oo, none⟩) on oc, .int .i64 ((wk : Nat) : Int), undef, undef, undef, .pointer (some ⟨bR, 0, none⟩), .bool false, .slice Aw nw cw, .int .i64 0, .slice Ap np cp, .int .i64 0, .slice Ag ng cg, .int .i64 0, u14, undef, undef, undef, .tuple #[.slice Aw nw cw, .int .i64 0], .int .i64 ((n : Nat) : Int), .tuple #[.slice Aw nw cw, .int .i64 0], .slice Aw nw cw, .int .i64 0, .tuple #[.slice Ap np cp, .int .i64 0], .int .i64 ((n : Nat) : Int), .tuple #[.slice Ap np cp, .int .i64 0], .slice Ap np cp, .int .i64 0, .tuple #[.slice Ag ng cg, .int .i64 0], .int .i64 ((n : Nat) : Int), .tuple #[.slice Ag ng cg, .int .i64 0], .slice Ag ng cg, .int .i64 0, .int .i64 0, .bool false, .bool false, .int .i64 0, .bool false, .bool false, .bool false, .int .i64 0, .bool false, .bool false, .bool false, .slice Ap np cp, .int .i64 ((np : Nat) : Int), .bool false, .bool false, .bool false, .slice Ag ng cg, .int .i64 ((ng : Nat) : Int), .bool false, .bool false, undef, u54, u55, u56, u57, u58, u59, u60, u61, u62, undef, undef, undef, undef, undef, undef, undef, undef, undef, undef, undef, undef, undef, undef, undef, undef, undef, undef, undef, undef, undef, undef, undef, undef, undef, undef, undef, undef, undef, undef, undef, undef, undef, undef, undef, undef, undef, undef, undef, undef, undef, undef, undef, undef, undef, undef, undef, undef, undef, undef, undef, undef, undef, undef, undef, undef, undef, undef, undef, undef, undef, undef, undef, undef, undef, undef, undef, undef, undef, undef, undef], []⟩ ∧ LkmV L bR n wk ob oo on oc nw cw np cp ng cg Aw Ap Ag B w0 u54 u55 u56 u57 u58 u59 u60 u61 u62 u14 w


set_option maxRecDepth 100000 in
set_option maxHeartbeats 2000000 in
theorem keep_lockMachine (ws : Nat → List Int) (ce cl : Nat → List Ins) (hws : WordsOk 4 ws) (hce : CodesOk 4 ce) (hcl : CodesOk 4 cl) (hM : MaySpec) (hW : WSpec 8 4 ws) (hE : CSpec 9 4 ce) (hL : CSpec 10 4 cl)
    (w : World) (hT : Tab w) (n wk : Nat) (h1 : 1 ≤ n) (h4 : n ≤ 4) (hwk : wk ≤ 40) (ob oo on oc : Nat) (f : Nat → Nat) (hf : ∀ t, t < n → f t ≤ 6) (hon : n ≤ on) (ho : RI w w.heap.size .i64 (some ⟨ob, oo, none⟩) on ((List.range on).map fun t => ((f t : Nat) : Int))) :
    Calls Tryd.prog 13 #[.int .i64 n, .slice (some ⟨ob, oo, none⟩) on oc, .int .i64 wk] w fun e w' => ∃ Aw nw cw Ac nc cc At nt ct, e = .returned (.tuple #[.agg #[.slice Aw nw cw, .slice Ac nc cc, .slice At nt ct], .bool true]) ∧ InM w' Aw nw cw Ac nc cc At nt ct (mLock ws ce cl n f wk) ∧ Below w.heap.size w w' := by
  have hdw : inW (n : Int) := by unfold inW; omega
  have HW := Lib.hid (fun w hT => hW w hT n hdw)
  have HP := Lib.hid (fun w hT => hE w hT n hdw)
  have HG := Lib.hid (fun w hT => hL w hT n hdw)
  have HM := Lib.hid hM
  have HT := Lib.hid hT
  have HC := Lib.hid (And.intro hws (And.intro hce hcl))
  have HO := Lib.hid ho
  have HF := Lib.hid hf
  have bR := Box.newAt w 36 [.slice none 0 0, .slice none 0 0, .slice none 0 0] w.heap.size rfl
  have hA := (Below.refl w.heap.size w).alloc (Nat.le_refl _) (Obj.cells #[.slice none 0 0, .slice none 0 0, .slice none 0 0] 36)
  have lR := bR.lt
  clear hW hE hL hM hT hws hce hcl hdw ho hf
  go_enter Tryd.func13, Tryd.ntmps13
  go_wp2_with fail
  refine (HW.out _ (HT.out.below hA HT.out.lt)).mono ?_
  rintro e w1 ⟨he1, _, hb1⟩
  obtain ⟨Aw, nw, cw, rfl, hlw, hcw, hq1⟩ := he1 (by omega)
  have HB1 := Lib.hid (hA.trans (hb1.mono (Nat.le_of_lt lR)))
  have bR1 := bR.below hb1 lR
  have HQW := Lib.hid hq1
  have lR1 := bR1.lt
  clear he1 hb1 hq1 bR hA
  go_wp2_with fail
  refine (HP.out w1 (HT.out.below HB1.out HT.out.lt)).mono ?_
  rintro e w2 ⟨he2, _, hb2⟩
  obtain ⟨Ap, np, cp, rfl, hlp, hcp, hq2⟩ := he2 (by omega)
  have HB2 := Lib.hid (HB1.out.trans (hb2.mono HB1.out.size))
  have bR2 := bR1.below hb2 lR1
  have HQW2 := Lib.hid (HQW.out.kc (Kc.below (T := fun _ => False) hb2) id)
  have HQP := Lib.hid hq2
  have lR2 := bR2.lt
  clear he2 hb2 hq2 bR1 HQW
  go_wp2_with fail
  refine (HG.out w2 (HT.out.below HB2.out HT.out.lt)).mono ?_
  rintro e w3 ⟨he3, _, hb3⟩
  obtain ⟨Ag, ng, cg, rfl, hlg, hcg, hq3⟩ := he3 (by omega)
  have HB3 := Lib.hid (HB2.out.trans (hb3.mono HB2.out.size))
  have bR3 := bR2.below hb3 lR2
  have k3 := Kc.below (T := fun _ => False) hb3
  have HS3 : Hid (QT w3 3 1 Aw nw ((ws n).map (Value.int .i64)) ∧ QT w3 64 5 Ap np (cellsO (ce n)) ∧ QT w3 64 5 Ag ng (cellsO (cl n)) ∧ Box w3 w.heap.size 36 [.slice none 0 0, .slice none 0 0, .slice none 0 0]) := by
    have q1 := HQW2.out.kc k3 id
    have q2 := HQP.out.kc k3 id
    have q3 := hq3
    rw [Int.toNat_natCast] at q1 q2 q3
    exact ⟨q1, q2, q3, bR3⟩
  have lR3 := bR3.lt
  have hnp : 0 < np := by
    have h := HS3.out.2.1.1
    rw [cellsO_length] at h
    have := (HC.out.2.1 n h1 h4).1
    omega
  have hng : 0 < ng := by
    have h := HS3.out.2.2.1.1
    rw [cellsO_length] at h
    have := (HC.out.2.2 n h1 h4).1
    omega
  have ep : ((np : Int) == 0) = false := by simp; omega
  have eg : ((ng : Int) == 0) = false := by simp; omega
  clear he3 hb3 hq3 bR2 HQW2 HQP k3 bR3 HB2 HB1
  go_wp2
  refine region_manyL (G := LkmG w.heap.size n wk ob oo on oc nw cw np cp ng cg Aw Ap Ag w3.heap.size w3) 10 (by kernel_rfl) (by kernel_rfl) ⟨_, _, _, _, _, _, _, _, _, _, rfl, ⟨(Below.refl _ _).drew, fun h => (by cases h), fun h => (by cases h), fun h => (by cases h), fun h => (by cases h), fun h => (by cases h), fun h => (by cases h), fun h => (by cases h), fun h => (by cases h), fun h => (by cases h), fun h => (by cases h)⟩⟩ ?_ ?_
  · intro i hi L a wq h1 h2c h3 hG
    obtain ⟨u54, u55, u56, u57, u58, u59, u60, u61, u62, u14, rfl, hV⟩ := hG
    have hszq : w3.heap.size ≤ wq.heap.size := hV.bel.size
    rcases (by omega : i = 0 ∨ i = 1 ∨ i = 2 ∨ i = 3 ∨ i = 4 ∨ i = 5 ∨ i = 6 ∨ i = 7 ∨ i = 8 ∨ i = 9) with rfl | rfl | rfl | rfl | rfl | rfl | rfl | rfl | rfl | rfl
    · simp only [pick, List.map_cons, List.map_nil, List.getD_cons_zero, List.getD_cons_succ]
      go_wp2
      exact ⟨_, _, _, _, _, _, _, _, _, _, rfl, ⟨hV.bel, fun _ => rfl, fun h => hV.f1 (by rwa [markL_ne _ (show 1 ≠ 0 by decide)] at h), fun h => hV.f2 (by rwa [markL_ne _ (show 2 ≠ 0 by decide)] at h), fun h => hV.f3 (by rwa [markL_ne _ (show 3 ≠ 0 by decide)] at h), fun h => hV.f4 (by rwa [markL_ne _ (show 4 ≠ 0 by decide)] at h), fun h => hV.f5 (by rwa [markL_ne _ (show 5 ≠ 0 by decide)] at h), fun h => hV.f6 (by rwa [markL_ne _ (show 6 ≠ 0 by decide)] at h), fun h => hV.f7 (by rwa [markL_ne _ (show 7 ≠ 0 by decide)] at h), fun h => (by rw [markL_ne _ (show 8 ≠ 0 by decide)] at h; have := h2c 8 h 0 (mem_ofM (by kernel_rfl)); rw [h1] at this; cases this), fun h => hV.f9 (by rwa [markL_ne _ (show 9 ≠ 0 by decide)] at h)⟩⟩
    · simp only [pick, List.map_cons, List.map_nil, List.getD_cons_zero, List.getD_cons_succ]
      go_wp2
      exact ⟨_, _, _, _, _, _, _, _, _, _, rfl, ⟨hV.bel, fun h => hV.f0 (by rwa [markL_ne _ (show 0 ≠ 1 by decide)] at h), fun _ => rfl, fun h => hV.f2 (by rwa [markL_ne _ (show 2 ≠ 1 by decide)] at h), fun h => hV.f3 (by rwa [markL_ne _ (show 3 ≠ 1 by decide)] at h), fun h => hV.f4 (by rwa [markL_ne _ (show 4 ≠ 1 by decide)] at h), fun h => hV.f5 (by rwa [markL_ne _ (show 5 ≠ 1 by decide)] at h), fun h => hV.f6 (by rwa [markL_ne _ (show 6 ≠ 1 by decide)] at h), fun h => hV.f7 (by rwa [markL_ne _ (show 7 ≠ 1 by decide)] at h), fun h => hV.f8 (by rwa [markL_ne _ (show 8 ≠ 1 by decide)] at h), fun h => hV.f9 (by rwa [markL_ne _ (show 9 ≠ 1 by decide)] at h)⟩⟩
    · simp only [pick, List.map_cons, List.map_nil, List.getD_cons_zero, List.getD_cons_succ]
      go_wp2
      exact ⟨_, _, _, _, _, _, _, _, _, _, rfl, ⟨hV.bel, fun h => hV.f0 (by rwa [markL_ne _ (show 0 ≠ 2 by decide)] at h), fun h => hV.f1 (by rwa [markL_ne _ (show 1 ≠ 2 by decide)] at h), fun _ => rfl, fun h => hV.f3 (by rwa [markL_ne _ (show 3 ≠ 2 by decide)] at h), fun h => hV.f4 (by rwa [markL_ne _ (show 4 ≠ 2 by decide)] at h), fun h => hV.f5 (by rwa [markL_ne _ (show 5 ≠ 2 by decide)] at h), fun h => hV.f6 (by rwa [markL_ne _ (show 6 ≠ 2 by decide)] at h), fun h => hV.f7 (by rwa [markL_ne _ (show 7 ≠ 2 by decide)] at h), fun h => hV.f8 (by rwa [markL_ne _ (show 8 ≠ 2 by decide)] at h), fun h => hV.f9 (by rwa [markL_ne _ (show 9 ≠ 2 by decide)] at h)⟩⟩
    · simp only [pick, List.map_cons, List.map_nil, List.getD_cons_zero, List.getD_cons_succ]
      go_wp2
      exact ⟨_, _, _, _, _, _, _, _, _, _, rfl, ⟨hV.bel, fun h => hV.f0 (by rwa [markL_ne _ (show 0 ≠ 3 by decide)] at h), fun h => hV.f1 (by rwa [markL_ne _ (show 1 ≠ 3 by decide)] at h), fun h => hV.f2 (by rwa [markL_ne _ (show 2 ≠ 3 by decide)] at h), fun _ => rfl, fun h => hV.f4 (by rwa [markL_ne _ (show 4 ≠ 3 by decide)] at h), fun h => hV.f5 (by rwa [markL_ne _ (show 5 ≠ 3 by decide)] at h), fun h => hV.f6 (by rwa [markL_ne _ (show 6 ≠ 3 by decide)] at h), fun h => hV.f7 (by rwa [markL_ne _ (show 7 ≠ 3 by decide)] at h), fun h => hV.f8 (by rwa [markL_ne _ (show 8 ≠ 3 by decide)] at h), fun h => hV.f9 (by rwa [markL_ne _ (show 9 ≠ 3 by decide)] at h)⟩⟩
    · have e3 := hV.f3 (h3 3 (mem_ofM (by kernel_rfl)))
      subst e3
      simp only [pick, List.map_cons, List.map_nil, List.getD_cons_zero, List.getD_cons_succ]
      go_wp2_with (at_make; refine make_all eltOpM _ rfl _ _ rfl wq.heap.size _ _ _ _ wk rfl rfl rfl rfl (by omega) (by omega) (Nat.le_refl _) ?_; intro w4 hown4 hbel4 hsz4 hgr4)
      have hNew := (own_boxS hown4).1
      rw [made_ops] at hNew
      have hbN := hbel4 wq (Below.refl _ _)
      exact ⟨_, _, _, _, _, _, _, _, _, _, rfl, ⟨hV.bel.trans (hbN.mono hszq), fun h => hV.f0 (by rwa [markL_ne _ (show 0 ≠ 4 by decide)] at h), fun h => hV.f1 (by rwa [markL_ne _ (show 1 ≠ 4 by decide)] at h), fun h => hV.f2 (by rwa [markL_ne _ (show 2 ≠ 4 by decide)] at h), fun h => hV.f3 (by rwa [markL_ne _ (show 3 ≠ 4 by decide)] at h), fun _ => ⟨_, rfl, hszq, hNew⟩, fun h => (by rw [markL_ne _ (show 5 ≠ 4 by decide)] at h; have := h2c 5 h 4 (mem_ofM (by kernel_rfl)); rw [h1] at this; cases this), fun h => hV.f6 (by rwa [markL_ne _ (show 6 ≠ 4 by decide)] at h), fun h => (hV.f7 (by rwa [markL_ne _ (show 7 ≠ 4 by decide)] at h)).imp fun g ⟨e, l, q⟩ => ⟨e, l, q.kc (Kc.below (T := fun _ => False) hbN) id⟩, fun h => hV.f8 (by rwa [markL_ne _ (show 8 ≠ 4 by decide)] at h), fun h => (hV.f9 (by rwa [markL_ne _ (show 9 ≠ 4 by decide)] at h)).imp fun g ⟨e, l, q⟩ => ⟨e, l, q.kc (Kc.below (T := fun _ => False) hbN) id⟩⟩⟩
    · have e1 := hV.f1 (h3 1 (mem_ofM (by kernel_rfl)))
      subst e1
      have e2 := hV.f2 (h3 2 (mem_ofM (by kernel_rfl)))
      subst e2
      obtain ⟨g4, e4, l4, b4⟩ := hV.f4 (h3 4 (mem_ofM (by kernel_rfl)))
      subst e4
      simp only [pick, List.map_cons, List.map_nil, List.getD_cons_zero, List.getD_cons_succ]
      go_wp2
      have hNew := Box.newAt wq 26 [.slice Ap np cp, .slice Ag ng cg, .slice (some ⟨g4, 0, none⟩) wk wk] wq.heap.size rfl
      have hbN := (Below.refl wq.heap.size wq).alloc (Nat.le_refl _) (Obj.cells #[.slice Ap np cp, .slice Ag ng cg, .slice (some ⟨g4, 0, none⟩) wk wk] 26)
      exact ⟨_, _, _, _, _, _, _, _, _, _, rfl, ⟨hV.bel.trans (hbN.mono hszq), fun h => hV.f0 (by rwa [markL_ne _ (show 0 ≠ 5 by decide)] at h), fun h => hV.f1 (by rwa [markL_ne _ (show 1 ≠ 5 by decide)] at h), fun h => hV.f2 (by rwa [markL_ne _ (show 2 ≠ 5 by decide)] at h), fun h => hV.f3 (by rwa [markL_ne _ (show 3 ≠ 5 by decide)] at h), fun h => (hV.f4 (by rwa [markL_ne _ (show 4 ≠ 5 by decide)] at h)).imp fun g ⟨e, l, q⟩ => ⟨e, l, q.kc (Kc.below (T := fun _ => False) hbN) id⟩, fun _ => ⟨_, rfl, hszq, hNew⟩, fun h => hV.f6 (by rwa [markL_ne _ (show 6 ≠ 5 by decide)] at h), fun h => (hV.f7 (by rwa [markL_ne _ (show 7 ≠ 5 by decide)] at h)).imp fun g ⟨e, l, q⟩ => ⟨e, l, q.kc (Kc.below (T := fun _ => False) hbN) id⟩, fun h => (by rw [markL_ne _ (show 8 ≠ 5 by decide)] at h; have := h2c 8 h 5 (mem_ofM (by kernel_rfl)); rw [h1] at this; cases this), fun h => (hV.f9 (by rwa [markL_ne _ (show 9 ≠ 5 by decide)] at h)).imp fun g ⟨e, l, q⟩ => ⟨e, l, q.kc (Kc.below (T := fun _ => False) hbN) id⟩⟩⟩
    · simp only [pick, List.map_cons, List.map_nil, List.getD_cons_zero, List.getD_cons_succ]
      go_wp2
      exact ⟨_, _, _, _, _, _, _, _, _, _, rfl, ⟨hV.bel, fun h => hV.f0 (by rwa [markL_ne _ (show 0 ≠ 6 by decide)] at h), fun h => hV.f1 (by rwa [markL_ne _ (show 1 ≠ 6 by decide)] at h), fun h => hV.f2 (by rwa [markL_ne _ (show 2 ≠ 6 by decide)] at h), fun h => hV.f3 (by rwa [markL_ne _ (show 3 ≠ 6 by decide)] at h), fun h => hV.f4 (by rwa [markL_ne _ (show 4 ≠ 6 by decide)] at h), fun h => hV.f5 (by rwa [markL_ne _ (show 5 ≠ 6 by decide)] at h), fun _ => rfl, fun h => hV.f7 (by rwa [markL_ne _ (show 7 ≠ 6 by decide)] at h), fun h => hV.f8 (by rwa [markL_ne _ (show 8 ≠ 6 by decide)] at h), fun h => hV.f9 (by rwa [markL_ne _ (show 9 ≠ 6 by decide)] at h)⟩⟩
    · have e6 := hV.f6 (h3 6 (mem_ofM (by kernel_rfl)))
      subst e6
      simp only [pick, List.map_cons, List.map_nil, List.getD_cons_zero, List.getD_cons_succ]
      go_wp2_with (at_make; refine make_all eltThr _ rfl _ _ rfl wq.heap.size _ _ _ _ n rfl rfl rfl rfl (by omega) (by omega) (Nat.le_refl _) ?_; intro w4 hown4 hbel4 hsz4 hgr4)
      have hNew := (own_boxS hown4).1
      rw [madeCells_one _ rfl] at hNew
      have hbN := hbel4 wq (Below.refl _ _)
      exact ⟨_, _, _, _, _, _, _, _, _, _, rfl, ⟨hV.bel.trans (hbN.mono hszq), fun h => hV.f0 (by rwa [markL_ne _ (show 0 ≠ 7 by decide)] at h), fun h => hV.f1 (by rwa [markL_ne _ (show 1 ≠ 7 by decide)] at h), fun h => hV.f2 (by rwa [markL_ne _ (show 2 ≠ 7 by decide)] at h), fun h => hV.f3 (by rwa [markL_ne _ (show 3 ≠ 7 by decide)] at h), fun h => (hV.f4 (by rwa [markL_ne _ (show 4 ≠ 7 by decide)] at h)).imp fun g ⟨e, l, q⟩ => ⟨e, l, q.kc (Kc.below (T := fun _ => False) hbN) id⟩, fun h => (hV.f5 (by rwa [markL_ne _ (show 5 ≠ 7 by decide)] at h)).imp fun g ⟨e, l, q⟩ => ⟨e, l, q.kc (Kc.below (T := fun _ => False) hbN) id⟩, fun h => hV.f6 (by rwa [markL_ne _ (show 6 ≠ 7 by decide)] at h), fun _ => ⟨_, rfl, hszq, hNew⟩, fun h => (by rw [markL_ne _ (show 8 ≠ 7 by decide)] at h; have := h2c 8 h 7 (mem_ofM (by kernel_rfl)); rw [h1] at this; cases this), fun h => (hV.f9 (by rwa [markL_ne _ (show 9 ≠ 7 by decide)] at h)).imp fun g ⟨e, l, q⟩ => ⟨e, l, q.kc (Kc.below (T := fun _ => False) hbN) id⟩⟩⟩
    · have e0 := hV.f0 (h3 0 (mem_ofM (by kernel_rfl)))
      subst e0
      obtain ⟨g5, e5, l5, b5⟩ := hV.f5 (h3 5 (mem_ofM (by kernel_rfl)))
      subst e5
      obtain ⟨g7, e7, l7, b7⟩ := hV.f7 (h3 7 (mem_ofM (by kernel_rfl)))
      subst e7
      simp only [pick, List.map_cons, List.map_nil, List.getD_cons_zero, List.getD_cons_succ]
      go_wp2
      exact ⟨_, _, _, _, _, _, _, _, _, _, rfl, ⟨hV.bel, fun h => hV.f0 (by rwa [markL_ne _ (show 0 ≠ 8 by decide)] at h), fun h => hV.f1 (by rwa [markL_ne _ (show 1 ≠ 8 by decide)] at h), fun h => hV.f2 (by rwa [markL_ne _ (show 2 ≠ 8 by decide)] at h), fun h => hV.f3 (by rwa [markL_ne _ (show 3 ≠ 8 by decide)] at h), fun h => hV.f4 (by rwa [markL_ne _ (show 4 ≠ 8 by decide)] at h), fun h => hV.f5 (by rwa [markL_ne _ (show 5 ≠ 8 by decide)] at h), fun h => hV.f6 (by rwa [markL_ne _ (show 6 ≠ 8 by decide)] at h), fun h => hV.f7 (by rwa [markL_ne _ (show 7 ≠ 8 by decide)] at h), fun _ => rfl, fun h => hV.f9 (by rwa [markL_ne _ (show 9 ≠ 8 by decide)] at h)⟩⟩
    · simp only [pick, List.map_cons, List.map_nil, List.getD_cons_zero, List.getD_cons_succ]
      go_wp2
      have hNew := Box.newAt wq 36 [.slice none 0 0, .slice none 0 0, .slice none 0 0] wq.heap.size rfl
      have hbN := (Below.refl wq.heap.size wq).alloc (Nat.le_refl _) (Obj.cells #[.slice none 0 0, .slice none 0 0, .slice none 0 0] 36)
      exact ⟨_, _, _, _, _, _, _, _, _, _, rfl, ⟨hV.bel.trans (hbN.mono hszq), fun h => hV.f0 (by rwa [markL_ne _ (show 0 ≠ 9 by decide)] at h), fun h => hV.f1 (by rwa [markL_ne _ (show 1 ≠ 9 by decide)] at h), fun h => hV.f2 (by rwa [markL_ne _ (show 2 ≠ 9 by decide)] at h), fun h => hV.f3 (by rwa [markL_ne _ (show 3 ≠ 9 by decide)] at h), fun h => (hV.f4 (by rwa [markL_ne _ (show 4 ≠ 9 by decide)] at h)).imp fun g ⟨e, l, q⟩ => ⟨e, l, q.kc (Kc.below (T := fun _ => False) hbN) id⟩, fun h => (hV.f5 (by rwa [markL_ne _ (show 5 ≠ 9 by decide)] at h)).imp fun g ⟨e, l, q⟩ => ⟨e, l, q.kc (Kc.below (T := fun _ => False) hbN) id⟩, fun h => hV.f6 (by rwa [markL_ne _ (show 6 ≠ 9 by decide)] at h), fun h => (hV.f7 (by rwa [markL_ne _ (show 7 ≠ 9 by decide)] at h)).imp fun g ⟨e, l, q⟩ => ⟨e, l, q.kc (Kc.below (T := fun _ => False) hbN) id⟩, fun h => hV.f8 (by rwa [markL_ne _ (show 8 ≠ 9 by decide)] at h), fun _ => ⟨_, rfl, hszq, hNew⟩⟩⟩
  · intro L a wq hall hG
    obtain ⟨u54, u55, u56, u57, u58, u59, u60, u61, u62, u14, rfl, hV⟩ := hG
    have e0 := hV.f0 (hall 0 (by omega))
    subst e0
    have e1 := hV.f1 (hall 1 (by omega))
    subst e1
    have e2 := hV.f2 (hall 2 (by omega))
    subst e2
    have e3 := hV.f3 (hall 3 (by omega))
    subst e3
    obtain ⟨g4, e4, l4, b4⟩ := hV.f4 (hall 4 (by omega))
    subst e4
    obtain ⟨g5, e5, l5, b5⟩ := hV.f5 (hall 5 (by omega))
    subst e5
    have e6 := hV.f6 (hall 6 (by omega))
    subst e6
    obtain ⟨g7, e7, l7, b7⟩ := hV.f7 (hall 7 (by omega))
    subst e7
    have e8 := hV.f8 (hall 8 (by omega))
    subst e8
    obtain ⟨g9, e9, l9, b9⟩ := hV.f9 (hall 9 (by omega))
    subst e9
    have hbQ := hV.bel
    clear hV
    simp only [pick, List.map_cons, List.map_nil, List.getD_cons_zero, List.getD_cons_succ]
    refine store_box rfl rfl 36 (.tmp 14) (.tmp 62) rfl g9 [.slice Aw nw cw, .slice (some ⟨g5, 0, none⟩) 3 3, .slice (some ⟨g7, 0, none⟩) n n] rfl rfl 36 [.slice none 0 0, .slice none 0 0, .slice none 0 0] b9 (by kernel_rfl) rfl (by intro v hv; simp only [List.mem_cons, List.not_mem_nil, or_false] at hv; rcases hv with rfl | rfl | rfl <;> rfl) ?_
    intro wS HBS hgS
    go_wp2
    have hb3S : Below w3.heap.size w3 wS := hbQ.grown hgS hbQ.size (fun k hk => by cases hk; exact l9)
    have hkS : Kc tMach wq wS := Kc.grown hgS (fun b cs t fr he hh => by
      injection he with he
      subst he
      have h6 := b9
      unfold Box at h6
      rw [h6] at hh
      injection hh with hh
      injection hh with _ hh
      exact hh.symm)
    have HB4 := Lib.hid (b4.kc hkS (by unfold tMach; decide))
    have HB5 := Lib.hid (b5.kc hkS (by unfold tMach; decide))
    have HB7 := Lib.hid (b7.kc hkS (by unfold tMach; decide))
    have HB3S := Lib.hid hb3S
    have HL7 := Lib.hid l7
    have HL4 := Lib.hid l4
    clear b4 b5 b7 b9 hkS hb3S hbQ hgS l4 l5 l7 l9
    go_loopw [15] (fun i wr => ∃ j : Nat, j ≤ wk ∧ i = .int .i64 j ∧ Hid (Box wr g4 64 (cellsO (wkC j wk))) ∧ Hid (Kc tOp wS wr) ∧ Below w3.heap.size w3 wr) (fun i _ => wk - (intOf i).toNat)
    case atStart => exact ⟨0, Nat.zero_le _, rfl, (by have := HB4.out; show Box _ _ _ _; rw [wkC_0]; exact this), Kc.refl _ _, HB3S.out⟩
    case round =>
      obtain ⟨j, hj, rfl, HQ4, HK, hbel⟩ := hrel
      have hszr := hbel.size
      by_cases hjw : j < wk
      · have BM := HBS.out.kc HK.out (by unfold tOp; decide)
        have BC := HB5.out.kc HK.out (by unfold tOp; decide)
        have z1 : wr.cell? ⟨g9, 1, none⟩ = _ := BM.cell 1
        have y2 : wr.cell? ⟨g5, 2, none⟩ = _ := BC.cell 2
        simp only [List.getElem?_cons_zero, List.getElem?_cons_succ] at z1 y2
        have l9 := BM.lt
        have l5 := BC.lt
        have l4 := HQ4.out.lt
        have HQ5 : Hid (Box wr g4 64 (cellsO (workC j) ++ ([.int .i64 0, .int .i64 0, .int .i64 0, .int .i64 0, .int .i64 0] ++ cellsO (List.replicate (wk - (j + 1)) ⟨0, 0, 0, 0, 0⟩)))) := by
          have := HQ4.out
          rw [wkC_at hjw] at this
          exact this
        clear BM BC
        go_wp2_with (refine store_mid rfl rfl 64 (.tmp 75) (.tmp 74) rfl g4 (j * 5) [.int .i64 1, .int .i64 0, .int .i64 (j : Int), .int .i64 0, .int .i64 0] rfl rfl 64 _ _ _ HQ5.out (by rw [cellsO_length, workC_len]) rfl (by kernel_rfl) (by intro v hv; simp only [List.mem_cons, List.not_mem_nil, or_false] at hv; rcases hv with rfl | rfl | rfl | rfl | rfl <;> rfl) ?_; intro wT HGT hgT)
        have hkT : Kc tOp wr wT := Kc.grown hgT (fun b cs t fr he hh => by
          injection he with he
          subst he
          have h6 := HQ5.out
          unfold Box at h6
          rw [h6] at hh
          injection hh with hh
          injection hh with _ hh
          exact hh.symm)
        refine ⟨⟨j + 1, by omega, by go_num, ?_, HK.out.trans hkT, hbel.grown hgT hszr (fun k hk => by injection hk with hk; subst hk; exact HL4.out)⟩, by simp [intOf]; omega⟩
        have := HGT.out
        show Box _ _ _ _
        rw [wkC_to]
        exact this
      · obtain rfl : wk = j := by omega
        have HS5 : Hid (QT wr 3 1 Aw nw ((ws n).map (Value.int .i64)) ∧ QT wr 64 5 Ap np (cellsO (ce n)) ∧ QT wr 64 5 Ag ng (cellsO (cl n)) ∧ Box wr g4 64 (cellsO (workC wk)) ∧ Box wr g5 26 [.slice Ap np cp, .slice Ag ng cg, .slice (some ⟨g4, 0, none⟩) wk wk] ∧
            Box wr g9 36 [.slice Aw nw cw, .slice (some ⟨g5, 0, none⟩) 3 3, .slice (some ⟨g7, 0, none⟩) n n] ∧ Box wr w.heap.size 36 [.slice none 0 0, .slice none 0 0, .slice none 0 0]) := by
          have k := Kc.below (T := fun _ => False) hbel
          have q4 := HQ4.out
          rw [wkC_all] at q4
          exact ⟨HS3.out.1.kc k id, HS3.out.2.1.kc k id, HS3.out.2.2.1.kc k id, q4, HB5.out.kc HK.out (by unfold tOp; decide), HBS.out.kc HK.out (by unfold tOp; decide), HS3.out.2.2.2.kc k id⟩
        have HMg5 := Lib.hid (Mg.made wr 3 67 65 (nt := n) (B := w3.heap.size) (HB7.out.kc HK.out (by unfold tOp; decide)) HL7.out)
        have HBw := Lib.hid (HB3.out.trans (hbel.mono HB3.out.size))
        have HSZ := Lib.hid HB3.out.size
        obtain ⟨w5, hw5⟩ : ∃ w5, w5 = wr := ⟨_, rfl⟩
        rw [← hw5] at HS5 HMg5 HBw ⊢
        clear hw5 HQ4 HK hbel hszr HB4 HB5 HB7 HBS HB3S HS3
        go_wp2
        go_loopw [16] (fun i wr => ∃ (t : Nat) (tg : Nat → Nat) (ts : Nat → Value), t ≤ n ∧ i = .int .i64 t ∧ Hid (Mg 3 67 65 tg wr w3.heap.size g7 n ts (fun q => if q < t then lockJ q wk (f q) else [])) ∧ Hid (Kc tCall w5 wr) ∧ Below w.heap.size w wr) (fun i _ => n - (intOf i).toNat)
        case atStart => exact ⟨0, _, _, Nat.zero_le _, rfl, (by have := HMg5.out; show Mg _ _ _ _ _ _ _ _ _ _; rw [show (fun q => if q < 0 then lockJ q wk (f q) else []) = fun _ => ([] : List Cl) by funext q; simp]; exact this), Kc.refl _ _, HBw.out⟩
        case round =>
          obtain ⟨t, tg, ts, ht, rfl, HMg, HK, hbel⟩ := hrel
          have hszr := hbel.size
          by_cases htn : t < n
          · have HMg0 : Hid (Mg 3 67 65 tg wr w3.heap.size g7 n ts (fun q => if q < t then lockJ q wk (f q) else if q = t then lockJ t wk 0 else [])) := HMg.out.congr (fun i hi => by simp [lockJ])
            have HKo := HK
            have hbelo := Lib.hid hbel
            clear HMg HK hbel
            go_wp2
            go_loopw [17] (fun i wr => ∃ (j : Nat) (tg : Nat → Nat) (ts : Nat → Value), j ≤ f t ∧ i = .int .i64 j ∧ Hid (Mg 3 67 65 tg wr w3.heap.size g7 n ts (fun q => if q < t then lockJ q wk (f q) else if q = t then lockJ t wk j else [])) ∧ Hid (Kc tCall w5 wr) ∧ Below w.heap.size w wr) (fun i _ => f t - (intOf i).toNat)
            case atStart => exact ⟨0, tg, ts, Nat.zero_le _, rfl, HMg0.out, HKo.out, hbelo.out⟩
            case round =>
              clear HMg0 HKo hbelo hszr
              obtain ⟨j, tg, ts, hjf, rfl, HMg, HK, hbel⟩ := hrel
              have hszr := hbel.size
              have hft := HF.out t htn
              obtain ⟨c0, hbB⟩ := RI_cell (HO.out.below hbel) (i := t) (x := ((f t : Nat) : Int)) (by omega) (by rw [List.getElem?_map, List.getElem?_range (by omega)]; rfl)
              have hbs : ob < wr.heap.size := by omega
              by_cases hjt : j < f t
              · have BM0 := Lib.hid (HS5.out.2.2.2.2.2.1.kc HK.out tCall_mach)
                obtain ⟨T0, hT0⟩ : ∃ T0 : Nat → List Cl, T0 = (fun q => if q < t then lockJ q wk (f q) else if q = t then lockJ t wk j else []) := ⟨_, rfl⟩
                obtain ⟨L0, hL0⟩ : ∃ L0, L0 = lockJ t wk j := ⟨_, rfl⟩
                obtain ⟨J, hJ⟩ : ∃ J, J = L0.length := ⟨_, rfl⟩
                have hJ18 : J ≤ 18 := by rw [hJ, hL0, lockJ_len]; split <;> omega
                have HT0 : Hid (T0 t = L0) := by show _ = _; rw [hT0, hL0]; simp
                have HJ0 : Hid (L0.length = J) := hJ.symm
                rw [← hT0] at HMg
                have HTT := Lib.hid hT0
                have HLL := Lib.hid hL0
                have HQ1 := Lib.hid (QT.box (s := 1) (n := 1) (Box.newAt wr 3 [.int .i64 (t : Int)] wr.heap.size rfl) rfl)
                clear hT0 hL0 hJ
                have hB7 := HL7.out
                by_cases hwk0 : 0 < wk
                · skip
                  obtain ⟨rows1, r1, r2, r3, r4⟩ := HMg.out.row t htn
                  have r3q := r3
                  rw [HT0.out, HJ0.out] at r3q
                  obtain ⟨Aq1, cq1, hts, hlq⟩ := own_form r3q
                  have z2 : wr.cell? ⟨g9, 2, none⟩ = _ := BM0.out.cell 2
                  have y0 : wr.cell? ⟨g7, t, none⟩ = some (.slice Aq1 J cq1) := by
                    have := HMg.out.thr.cell t
                    rw [range_at _ htn, hts] at this
                    exact this
                  have l6 := HMg.out.thr.lt
                  have lM := BM0.out.lt
                  have g0 := HMg.out.thr.frozen t
                  have HTS1 := Lib.hid hts
                  have R11 := Lib.hid r1
                  have R21 := Lib.hid r2
                  have R31 := Lib.hid r3
                  have R3q1 := Lib.hid r3q
                  have R41 := Lib.hid r4
                  simp only [List.getElem?_cons_zero, List.getElem?_cons_succ] at z2
                  clear hts r1 r2 r3 r4 r3q
                  go_wp2
                  refine region_firstG (Kc tCall) (gok_kc tCall) [0, 1] [2, 3, 4, 5, 6, 7, 8] (.cons 0 (.cons 1 (.cons 9 (seq [10] (.cons 11 (.cons 12 (seq [13] (.cons 14 .nil)))))))) (by kernel_rfl) (by kernel_rfl) ?_
                  simp only [pick, List.map_cons, List.map_nil, List.getD_cons_zero, List.getD_cons_succ]
                  go_wp2
                  refine ord_blindG (.pointer (some ⟨g9, 2, none⟩)) (by kernel_rfl) ?_ ?_
                  · intro w' _
                    simp only [List.getD_cons_zero, List.getD_cons_succ]
                    go_simp
                  refine ord_blindG (.slice (some ⟨g7, 0, none⟩) n n) (by kernel_rfl) ?_ ?_
                  · intro w' hk
                    have zz := (Box.kc (w := wr.drew) BM0.out hk tCall_mach).cell 2
                    simp only [List.getElem?_cons_zero, List.getElem?_cons_succ] at zz
                    simp only [List.getD_cons_zero, List.getD_cons_succ]
                    go_simp
                  refine ord_callG (by kernel_rfl) ?_
                  simp only [pick, List.map_cons, List.map_nil, List.getD_cons_zero, List.getD_cons_succ]
                  go_wp2
                  refine ⟨ext_below ((Below.refl _ _).alloc (Nat.le_refl _) _), ?_⟩
                  refine ord_moreG [10] _ (by kernel_rfl) ?_
                  simp only [pick, List.map_cons, List.map_nil, List.getD_cons_zero, List.getD_cons_succ]
                  go_wp2
                  refine ord_callG (by kernel_rfl) ?_
                  simp only [pick, List.map_cons, List.map_nil, List.getD_cons_zero, List.getD_cons_succ]
                  go_wp2
                  refine ⟨ext_below ((Below.refl _ _).alloc (Nat.le_refl _) _), ?_⟩
                  have hbl1 := (Below.refl wr.heap.size wr).alloc (Nat.le_refl _) (Obj.cells #[.int .i64 (t : Int)] 3)
                  have HMl1 := Lib.hid (HMg.out.below hbl1)
                  have HR3q1 := Lib.hid (World.ownsRow.alloc R3q1.out (Obj.cells #[.int .i64 (t : Int)] 3))
                  have RL1 := Lib.hid (HR3q1.out.alloc (.cells #[.int .i64 0, .slice (some ⟨wr.heap.size, 0, none⟩) 1 1] 67))
                  rw [HTS1.out] at RL1
                  refine ord_finG (by kernel_rfl) ?_
                  simp only [pick, List.map_cons, List.map_nil, List.getD_cons_zero, List.getD_cons_succ]
                  go_wp2_with (at_builtin; go_must (refine app_litBd eltCall (wr.alloc (Obj.cells #[.int .i64 (t : Int)] 3)) rfl (.tmp 96) (.tmp 100) rfl (w3.heap.size) _ J rows1.flatten rfl (by rw [← HTS1.out]; exact HR3q1.out) 1 [.int .i64 0, .slice (some ⟨wr.heap.size, 0, none⟩) 1 1] (wr.heap.size + 1) (by first | rfl | simp) rfl rfl (by intro u hu; simp only [List.mem_cons, List.not_mem_nil, or_false] at hu; rcases hu with rfl | rfl <;> rfl) (by omega) (by omega) (by first | omega | (simp; omega)) ?_); intro v8 w8 own8 g8 hv8)
                  obtain ⟨A81, c81, rfl, hc8⟩ := own_form own8
                  have hK8 : Kc tCall ((wr.alloc (Obj.cells #[.int .i64 (t : Int)] 3)).alloc (.cells #[.int .i64 0, .slice (some ⟨wr.heap.size, 0, none⟩) 1 1] 67)).drew w8 := Kc.grown ⟨g8.os, g8.tape, g8.output, g8.size, g8.block⟩ (fun b cs t fr he hh => .inl (own_same RL1.out he hh))
                  have hne6 := Box.ne (HMl1.out.thr.alloc (.cells #[.int .i64 0, .slice (some ⟨wr.heap.size, 0, none⟩) 1 1] 67)) RL1.out (by decide)
                  have b68 := (HMl1.out.thr.alloc (.cells #[.int .i64 0, .slice (some ⟨wr.heap.size, 0, none⟩) 1 1] 67)).grown g8 hne6
                  obtain ⟨tg1, hMg', hKc', hBel'⟩ := HMl1.out.call (q := t) (c := ⟨0, [(t : Int)]⟩) htn ⟨by decide, by decide, by decide⟩ (rows := rows1) R11.out R21.out (fun i r x hr hx => (R41.out i r x hr hx).kc (T := fun _ => False) (Kc.below hbl1) id) (World.ownsRow.alloc R31.out _) ⟨some ⟨wr.heap.size, 0, none⟩, 1, 1, rfl, Nat.le_refl _, HQ1.out⟩ own8 (by rw [HT0.out, HJ0.out]) (by rw [HTS1.out]; exact g8) (by rw [HTS1.out]; exact hv8)
                  have HMg' := Lib.hid hMg'
                  have HKc' := Lib.hid ((Kc.below (T := tCall) hbl1).trans hKc')
                  have hbel1a := hbel.trans (hbl1.mono hbel.size)
                  have HBel' := Lib.hid (hBel' w w.heap.size (by have := HSZ.out; omega) (by first | omega | (simp; omega)) hbel1a)
                  have y8 : w8.cell? ⟨g7, t, none⟩ = some (.slice Aq1 J cq1) := by
                    have := b68.cell t
                    rw [range_at _ htn, HTS1.out] at this
                    exact this
                  have f8 := b68.frozen t
                  have H68 := Lib.hid b68
                  clear hMg' hKc' hBel' b68 own8 g8 hv8 hne6 z2 y0 g0
                  refine ⟨hK8, ?_⟩
                  refine ord_moreG [13] _ (by kernel_rfl) ?_
                  simp only [pick, List.map_cons, List.map_nil, List.getD_cons_zero, List.getD_cons_succ]
                  go_wp2
                  refine ord_finG (by kernel_rfl) ?_
                  simp only [pick, List.map_cons, List.map_nil, List.getD_cons_zero, List.getD_cons_succ]
                  go_wp2
                  have hK9 : Kc tCall w8 (w8.setCell ⟨g7, t, none⟩ (.slice A81 (J + 1) c81)) := Kc.grown (grown_setCell w8 ⟨g7, t, none⟩ _) (fun b cs t fr he hh => by
                    injection he with he
                    subst he
                    have h6 := H68.out
                    unfold Box at h6
                    rw [h6] at hh
                    injection hh with hh
                    injection hh with _ hh
                    exact .inr hh.symm)
                  refine ⟨hK9, ord_doneG ?_⟩
                  obtain ⟨W1, hW1⟩ : ∃ W, W = w8.setCell ⟨g7, t, none⟩ (.slice A81 (J + 1) c81) := ⟨_, rfl⟩
                  rw [← hW1]
                  have HMg1 := HMg'
                  have HK1 := Lib.hid (HK.out.trans HKc'.out)
                  have hbel1 := HBel'.out
                  rw [← hW1] at HMg1 HK1 hbel1
                  clear HMg' HKc' HBel' hK9 H68 y8 f8 hK8 hW1 R11 R21 R31 R3q1 R41 RL1 HTS1 HMl1 HR3q1
                  obtain ⟨T1, hT1⟩ : ∃ T : Nat → List Cl, T = fun i => if i = t then T0 t ++ [⟨0, [(t : Int)]⟩] else T0 i := ⟨_, rfl⟩
                  obtain ⟨L1, hL1⟩ : ∃ L, L = L0 ++ [⟨0, [(t : Int)]⟩] := ⟨_, rfl⟩
                  have HMg1s := HMg1.out
                  rw [← hT1] at HMg1s
                  obtain ⟨ts1, HMg1t⟩ : ∃ ts, Hid (Mg 3 67 65 tg1 W1 w3.heap.size g7 n ts T1) := ⟨_, HMg1s⟩
                  have HT1 : Hid (T1 t = L1) := by show _ = _; rw [hT1, hL1]; dsimp only; rw [if_pos rfl, HT0.out]
                  have HJ1 : Hid (L1.length = J + 1) := by show _ = _; rw [hL1, List.length_append, HJ0.out]; rfl
                  have HDT1 := Lib.hid hT1
                  have HL1 := Lib.hid hL1
                  have BM1 := Lib.hid (HS5.out.2.2.2.2.2.1.kc HK1.out tCall_mach)
                  have hszr1 := hbel1.size
                  clear HMg1 HMg1s hT1 hL1
                  obtain ⟨rows2, r1, r2, r3, r4⟩ := HMg1t.out.row t htn
                  have r3q := r3
                  rw [HT1.out, HJ1.out] at r3q
                  obtain ⟨Aq2, cq2, hts, hlq⟩ := own_form r3q
                  have z2 : W1.cell? ⟨g9, 2, none⟩ = _ := BM1.out.cell 2
                  have y0 : W1.cell? ⟨g7, t, none⟩ = some (.slice Aq2 (J + 1) cq2) := by
                    have := HMg1t.out.thr.cell t
                    rw [range_at _ htn, hts] at this
                    exact this
                  have l6 := HMg1t.out.thr.lt
                  have lM := BM1.out.lt
                  have g0 := HMg1t.out.thr.frozen t
                  have HTS2 := Lib.hid hts
                  have R12 := Lib.hid r1
                  have R22 := Lib.hid r2
                  have R32 := Lib.hid r3
                  have R3q2 := Lib.hid r3q
                  have R42 := Lib.hid r4
                  simp only [List.getElem?_cons_zero, List.getElem?_cons_succ] at z2
                  clear hts r1 r2 r3 r4 r3q
                  go_wp2
                  refine region_firstG (Kc tCall) (gok_kc tCall) [0, 1] [2, 3, 4, 5, 6, 7, 8] (.cons 0 (.cons 1 (.cons 9 (.cons 10 (seq [11] (.cons 12 .nil)))))) (by kernel_rfl) (by kernel_rfl) ?_
                  simp only [pick, List.map_cons, List.map_nil, List.getD_cons_zero, List.getD_cons_succ]
                  go_wp2
                  refine ord_blindG (.pointer (some ⟨g9, 2, none⟩)) (by kernel_rfl) ?_ ?_
                  · intro w' _
                    simp only [List.getD_cons_zero, List.getD_cons_succ]
                    go_simp
                  refine ord_blindG (.slice (some ⟨g7, 0, none⟩) n n) (by kernel_rfl) ?_ ?_
                  · intro w' hk
                    have zz := (Box.kc (w := W1.drew) BM1.out hk tCall_mach).cell 2
                    simp only [List.getElem?_cons_zero, List.getElem?_cons_succ] at zz
                    simp only [List.getD_cons_zero, List.getD_cons_succ]
                    go_simp
                  refine ord_callG (by kernel_rfl) ?_
                  simp only [pick, List.map_cons, List.map_nil, List.getD_cons_zero, List.getD_cons_succ]
                  go_wp2
                  refine ⟨ext_below ((Below.refl _ _).alloc (Nat.le_refl _) _), ?_⟩
                  have HMl2 := HMg1t
                  have HR3q2 := R3q2
                  have RL2 := Lib.hid (HR3q2.out.alloc (.cells #[.int .i64 2, .slice none 0 0] 67))
                  rw [HTS2.out] at RL2
                  refine ord_finG (by kernel_rfl) ?_
                  simp only [pick, List.map_cons, List.map_nil, List.getD_cons_zero, List.getD_cons_succ]
                  go_wp2_with (at_builtin; go_must (refine app_litBd eltCall W1 rfl (.tmp 112) (.tmp 114) rfl (w3.heap.size) _ (J + 1) rows2.flatten rfl (by rw [← HTS2.out]; exact HR3q2.out) 1 [.int .i64 2, .slice none 0 0] W1.heap.size (by first | rfl | simp) rfl rfl (by intro u hu; simp only [List.mem_cons, List.not_mem_nil, or_false] at hu; rcases hu with rfl | rfl <;> rfl) (by omega) (by omega) (by first | omega | (simp; omega)) ?_); intro v8 w8 own8 g8 hv8)
                  obtain ⟨A82, c82, rfl, hc8⟩ := own_form own8
                  have hK8 : Kc tCall (W1.alloc (.cells #[.int .i64 2, .slice none 0 0] 67)).drew w8 := Kc.grown ⟨g8.os, g8.tape, g8.output, g8.size, g8.block⟩ (fun b cs t fr he hh => .inl (own_same RL2.out he hh))
                  have hne6 := Box.ne (HMl2.out.thr.alloc (.cells #[.int .i64 2, .slice none 0 0] 67)) RL2.out (by decide)
                  have b68 := (HMl2.out.thr.alloc (.cells #[.int .i64 2, .slice none 0 0] 67)).grown g8 hne6
                  obtain ⟨tg2, hMg', hKc', hBel'⟩ := HMl2.out.call (q := t) (c := ⟨2, []⟩) htn ⟨by decide, by decide, by decide⟩ (rows := rows2) R12.out R22.out R42.out R32.out ⟨none, 0, 0, rfl, Nat.le_refl _, QT.nil _ _ _ _⟩ own8 (by rw [HT1.out, HJ1.out]) (by rw [HTS2.out]; exact g8) (by rw [HTS2.out]; exact hv8)
                  have HMg' := Lib.hid hMg'
                  have HKc' := Lib.hid hKc'
                  have hbel2a := hbel1
                  have HBel' := Lib.hid (hBel' w w.heap.size (by have := HSZ.out; omega) (by first | omega | (simp; omega)) hbel2a)
                  have y8 : w8.cell? ⟨g7, t, none⟩ = some (.slice Aq2 (J + 1) cq2) := by
                    have := b68.cell t
                    rw [range_at _ htn, HTS2.out] at this
                    exact this
                  have f8 := b68.frozen t
                  have H68 := Lib.hid b68
                  clear hMg' hKc' hBel' b68 own8 g8 hv8 hne6 z2 y0 g0
                  refine ⟨hK8, ?_⟩
                  refine ord_moreG [11] _ (by kernel_rfl) ?_
                  simp only [pick, List.map_cons, List.map_nil, List.getD_cons_zero, List.getD_cons_succ]
                  go_wp2
                  refine ord_finG (by kernel_rfl) ?_
                  simp only [pick, List.map_cons, List.map_nil, List.getD_cons_zero, List.getD_cons_succ]
                  go_wp2
                  have hK9 : Kc tCall w8 (w8.setCell ⟨g7, t, none⟩ (.slice A82 ((J + 1) + 1) c82)) := Kc.grown (grown_setCell w8 ⟨g7, t, none⟩ _) (fun b cs t fr he hh => by
                    injection he with he
                    subst he
                    have h6 := H68.out
                    unfold Box at h6
                    rw [h6] at hh
                    injection hh with hh
                    injection hh with _ hh
                    exact .inr hh.symm)
                  refine ⟨hK9, ord_doneG ?_⟩
                  obtain ⟨W2, hW2⟩ : ∃ W, W = w8.setCell ⟨g7, t, none⟩ (.slice A82 ((J + 1) + 1) c82) := ⟨_, rfl⟩
                  rw [← hW2]
                  have HMg2 := HMg'
                  have HK2 := Lib.hid (HK1.out.trans HKc'.out)
                  have hbel2 := HBel'.out
                  rw [← hW2] at HMg2 HK2 hbel2
                  clear HMg' HKc' HBel' hK9 H68 y8 f8 hK8 hW2 R12 R22 R32 R3q2 R42 RL2 HTS2 HMl2 HR3q2
                  obtain ⟨T2, hT2⟩ : ∃ T : Nat → List Cl, T = fun i => if i = t then T1 t ++ [⟨2, []⟩] else T1 i := ⟨_, rfl⟩
                  obtain ⟨L2, hL2⟩ : ∃ L, L = L1 ++ [⟨2, []⟩] := ⟨_, rfl⟩
                  have HMg2s := HMg2.out
                  rw [← hT2] at HMg2s
                  obtain ⟨ts2, HMg2t⟩ : ∃ ts, Hid (Mg 3 67 65 tg2 W2 w3.heap.size g7 n ts T2) := ⟨_, HMg2s⟩
                  have HT2 : Hid (T2 t = L2) := by show _ = _; rw [hT2, hL2]; dsimp only; rw [if_pos rfl, HT1.out]
                  have HJ2 : Hid (L2.length = (J + 1) + 1) := by show _ = _; rw [hL2, List.length_append, HJ1.out]; rfl
                  have HDT2 := Lib.hid hT2
                  have HL2 := Lib.hid hL2
                  have BM2 := Lib.hid (HS5.out.2.2.2.2.2.1.kc HK2.out tCall_mach)
                  have hszr2 := hbel2.size
                  have HQ3 := Lib.hid (QT.box (s := 1) (n := 1) (Box.newAt W2 3 [.int .i64 (t : Int)] W2.heap.size rfl) rfl)
                  clear HMg2 HMg2s hT2 hL2
                  obtain ⟨rows3, r1, r2, r3, r4⟩ := HMg2t.out.row t htn
                  have r3q := r3
                  rw [HT2.out, HJ2.out] at r3q
                  obtain ⟨Aq3, cq3, hts, hlq⟩ := own_form r3q
                  have z2 : W2.cell? ⟨g9, 2, none⟩ = _ := BM2.out.cell 2
                  have y0 : W2.cell? ⟨g7, t, none⟩ = some (.slice Aq3 (J + 1 + 1) cq3) := by
                    have := HMg2t.out.thr.cell t
                    rw [range_at _ htn, hts] at this
                    exact this
                  have l6 := HMg2t.out.thr.lt
                  have lM := BM2.out.lt
                  have g0 := HMg2t.out.thr.frozen t
                  have HTS3 := Lib.hid hts
                  have R13 := Lib.hid r1
                  have R23 := Lib.hid r2
                  have R33 := Lib.hid r3
                  have R3q3 := Lib.hid r3q
                  have R43 := Lib.hid r4
                  simp only [List.getElem?_cons_zero, List.getElem?_cons_succ] at z2
                  clear hts r1 r2 r3 r4 r3q
                  go_wp2
                  refine region_firstG (Kc tCall) (gok_kc tCall) [0, 1] [2, 3, 4, 5, 6, 7, 8] (.cons 0 (.cons 1 (.cons 9 (seq [10] (.cons 11 (.cons 12 (seq [13] (.cons 14 .nil)))))))) (by kernel_rfl) (by kernel_rfl) ?_
                  simp only [pick, List.map_cons, List.map_nil, List.getD_cons_zero, List.getD_cons_succ]
                  go_wp2
                  refine ord_blindG (.pointer (some ⟨g9, 2, none⟩)) (by kernel_rfl) ?_ ?_
                  · intro w' _
                    simp only [List.getD_cons_zero, List.getD_cons_succ]
                    go_simp
                  refine ord_blindG (.slice (some ⟨g7, 0, none⟩) n n) (by kernel_rfl) ?_ ?_
                  · intro w' hk
                    have zz := (Box.kc (w := W2.drew) BM2.out hk tCall_mach).cell 2
                    simp only [List.getElem?_cons_zero, List.getElem?_cons_succ] at zz
                    simp only [List.getD_cons_zero, List.getD_cons_succ]
                    go_simp
                  refine ord_callG (by kernel_rfl) ?_
                  simp only [pick, List.map_cons, List.map_nil, List.getD_cons_zero, List.getD_cons_succ]
                  go_wp2
                  refine ⟨ext_below ((Below.refl _ _).alloc (Nat.le_refl _) _), ?_⟩
                  refine ord_moreG [10] _ (by kernel_rfl) ?_
                  simp only [pick, List.map_cons, List.map_nil, List.getD_cons_zero, List.getD_cons_succ]
                  go_wp2
                  refine ord_callG (by kernel_rfl) ?_
                  simp only [pick, List.map_cons, List.map_nil, List.getD_cons_zero, List.getD_cons_succ]
                  go_wp2
                  refine ⟨ext_below ((Below.refl _ _).alloc (Nat.le_refl _) _), ?_⟩
                  have hbl3 := (Below.refl W2.heap.size W2).alloc (Nat.le_refl _) (Obj.cells #[.int .i64 (t : Int)] 3)
                  have HMl3 := Lib.hid (HMg2t.out.below hbl3)
                  have HR3q3 := Lib.hid (World.ownsRow.alloc R3q3.out (Obj.cells #[.int .i64 (t : Int)] 3))
                  have RL3 := Lib.hid (HR3q3.out.alloc (.cells #[.int .i64 1, .slice (some ⟨W2.heap.size, 0, none⟩) 1 1] 67))
                  rw [HTS3.out] at RL3
                  refine ord_finG (by kernel_rfl) ?_
                  simp only [pick, List.map_cons, List.map_nil, List.getD_cons_zero, List.getD_cons_succ]
                  go_wp2_with (at_builtin; go_must (refine app_litBd eltCall (W2.alloc (Obj.cells #[.int .i64 (t : Int)] 3)) rfl (.tmp 124) (.tmp 128) rfl (w3.heap.size) _ (J + 1 + 1) rows3.flatten rfl (by rw [← HTS3.out]; exact HR3q3.out) 1 [.int .i64 1, .slice (some ⟨W2.heap.size, 0, none⟩) 1 1] (W2.heap.size + 1) (by first | rfl | simp) rfl rfl (by intro u hu; simp only [List.mem_cons, List.not_mem_nil, or_false] at hu; rcases hu with rfl | rfl <;> rfl) (by omega) (by omega) (by first | omega | (simp; omega)) ?_); intro v8 w8 own8 g8 hv8)
                  obtain ⟨A83, c83, rfl, hc8⟩ := own_form own8
                  have hK8 : Kc tCall ((W2.alloc (Obj.cells #[.int .i64 (t : Int)] 3)).alloc (.cells #[.int .i64 1, .slice (some ⟨W2.heap.size, 0, none⟩) 1 1] 67)).drew w8 := Kc.grown ⟨g8.os, g8.tape, g8.output, g8.size, g8.block⟩ (fun b cs t fr he hh => .inl (own_same RL3.out he hh))
                  have hne6 := Box.ne (HMl3.out.thr.alloc (.cells #[.int .i64 1, .slice (some ⟨W2.heap.size, 0, none⟩) 1 1] 67)) RL3.out (by decide)
                  have b68 := (HMl3.out.thr.alloc (.cells #[.int .i64 1, .slice (some ⟨W2.heap.size, 0, none⟩) 1 1] 67)).grown g8 hne6
                  obtain ⟨tg3, hMg', hKc', hBel'⟩ := HMl3.out.call (q := t) (c := ⟨1, [(t : Int)]⟩) htn ⟨by decide, by decide, by decide⟩ (rows := rows3) R13.out R23.out (fun i r x hr hx => (R43.out i r x hr hx).kc (T := fun _ => False) (Kc.below hbl3) id) (World.ownsRow.alloc R33.out _) ⟨some ⟨W2.heap.size, 0, none⟩, 1, 1, rfl, Nat.le_refl _, HQ3.out⟩ own8 (by rw [HT2.out, HJ2.out]) (by rw [HTS3.out]; exact g8) (by rw [HTS3.out]; exact hv8)
                  have HMg' := Lib.hid hMg'
                  have HKc' := Lib.hid ((Kc.below (T := tCall) hbl3).trans hKc')
                  have hbel3a := hbel2.trans (hbl3.mono hbel2.size)
                  have HBel' := Lib.hid (hBel' w w.heap.size (by have := HSZ.out; omega) (by first | omega | (simp; omega)) hbel3a)
                  have y8 : w8.cell? ⟨g7, t, none⟩ = some (.slice Aq3 (J + 1 + 1) cq3) := by
                    have := b68.cell t
                    rw [range_at _ htn, HTS3.out] at this
                    exact this
                  have f8 := b68.frozen t
                  have H68 := Lib.hid b68
                  clear hMg' hKc' hBel' b68 own8 g8 hv8 hne6 z2 y0 g0
                  refine ⟨hK8, ?_⟩
                  refine ord_moreG [13] _ (by kernel_rfl) ?_
                  simp only [pick, List.map_cons, List.map_nil, List.getD_cons_zero, List.getD_cons_succ]
                  go_wp2
                  refine ord_finG (by kernel_rfl) ?_
                  simp only [pick, List.map_cons, List.map_nil, List.getD_cons_zero, List.getD_cons_succ]
                  go_wp2
                  have hK9 : Kc tCall w8 (w8.setCell ⟨g7, t, none⟩ (.slice A83 ((J + 1 + 1) + 1) c83)) := Kc.grown (grown_setCell w8 ⟨g7, t, none⟩ _) (fun b cs t fr he hh => by
                    injection he with he
                    subst he
                    have h6 := H68.out
                    unfold Box at h6
                    rw [h6] at hh
                    injection hh with hh
                    injection hh with _ hh
                    exact .inr hh.symm)
                  refine ⟨hK9, ord_doneG ?_⟩
                  obtain ⟨W3, hW3⟩ : ∃ W, W = w8.setCell ⟨g7, t, none⟩ (.slice A83 ((J + 1 + 1) + 1) c83) := ⟨_, rfl⟩
                  rw [← hW3]
                  have HMg3 := HMg'
                  have HK3 := Lib.hid (HK2.out.trans HKc'.out)
                  have hbel3 := HBel'.out
                  rw [← hW3] at HMg3 HK3 hbel3
                  clear HMg' HKc' HBel' hK9 H68 y8 f8 hK8 hW3 R13 R23 R33 R3q3 R43 RL3 HTS3 HMl3 HR3q3
                  go_wp2
                  go_roundw
                  case rel =>
                    have h9 := HMg3.out.congr (T' := fun q => if q < t then lockJ q wk (f q) else if q = t then lockJ t wk (j + 1) else []) (fun i hi => by
                      by_cases hit : i = t
                      · subst hit
                        rw [if_pos rfl, HT2.out, if_neg (by omega), if_pos rfl, lockJ_succ, if_pos hwk0]
                        simp [HL1.out, HLL.out, HL2.out]
                      · rw [if_neg hit, HDT2.out, HDT1.out, HTT.out]
                        simp [hit])
                    exact ⟨j + 1, tg3, _, by omega, by go_num, h9, HK3.out, hbel3⟩
                  case measure => simp [intOf]; omega
                · skip
                  obtain ⟨rows1, r1, r2, r3, r4⟩ := HMg.out.row t htn
                  have r3q := r3
                  rw [HT0.out, HJ0.out] at r3q
                  obtain ⟨Aq1, cq1, hts, hlq⟩ := own_form r3q
                  have z2 : wr.cell? ⟨g9, 2, none⟩ = _ := BM0.out.cell 2
                  have y0 : wr.cell? ⟨g7, t, none⟩ = some (.slice Aq1 J cq1) := by
                    have := HMg.out.thr.cell t
                    rw [range_at _ htn, hts] at this
                    exact this
                  have l6 := HMg.out.thr.lt
                  have lM := BM0.out.lt
                  have g0 := HMg.out.thr.frozen t
                  have HTS1 := Lib.hid hts
                  have R11 := Lib.hid r1
                  have R21 := Lib.hid r2
                  have R31 := Lib.hid r3
                  have R3q1 := Lib.hid r3q
                  have R41 := Lib.hid r4
                  simp only [List.getElem?_cons_zero, List.getElem?_cons_succ] at z2
                  clear hts r1 r2 r3 r4 r3q
                  go_wp2
                  refine region_firstG (Kc tCall) (gok_kc tCall) [0, 1] [2, 3, 4, 5, 6, 7, 8] (.cons 0 (.cons 1 (.cons 9 (seq [10] (.cons 11 (.cons 12 (seq [13] (.cons 14 .nil)))))))) (by kernel_rfl) (by kernel_rfl) ?_
                  simp only [pick, List.map_cons, List.map_nil, List.getD_cons_zero, List.getD_cons_succ]
                  go_wp2
                  refine ord_blindG (.pointer (some ⟨g9, 2, none⟩)) (by kernel_rfl) ?_ ?_
                  · intro w' _
                    simp only [List.getD_cons_zero, List.getD_cons_succ]
                    go_simp
                  refine ord_blindG (.slice (some ⟨g7, 0, none⟩) n n) (by kernel_rfl) ?_ ?_
                  · intro w' hk
                    have zz := (Box.kc (w := wr.drew) BM0.out hk tCall_mach).cell 2
                    simp only [List.getElem?_cons_zero, List.getElem?_cons_succ] at zz
                    simp only [List.getD_cons_zero, List.getD_cons_succ]
                    go_simp
                  refine ord_callG (by kernel_rfl) ?_
                  simp only [pick, List.map_cons, List.map_nil, List.getD_cons_zero, List.getD_cons_succ]
                  go_wp2
                  refine ⟨ext_below ((Below.refl _ _).alloc (Nat.le_refl _) _), ?_⟩
                  refine ord_moreG [10] _ (by kernel_rfl) ?_
                  simp only [pick, List.map_cons, List.map_nil, List.getD_cons_zero, List.getD_cons_succ]
                  go_wp2
                  refine ord_callG (by kernel_rfl) ?_
                  simp only [pick, List.map_cons, List.map_nil, List.getD_cons_zero, List.getD_cons_succ]
                  go_wp2
                  refine ⟨ext_below ((Below.refl _ _).alloc (Nat.le_refl _) _), ?_⟩
                  have hbl1 := (Below.refl wr.heap.size wr).alloc (Nat.le_refl _) (Obj.cells #[.int .i64 (t : Int)] 3)
                  have HMl1 := Lib.hid (HMg.out.below hbl1)
                  have HR3q1 := Lib.hid (World.ownsRow.alloc R3q1.out (Obj.cells #[.int .i64 (t : Int)] 3))
                  have RL1 := Lib.hid (HR3q1.out.alloc (.cells #[.int .i64 0, .slice (some ⟨wr.heap.size, 0, none⟩) 1 1] 67))
                  rw [HTS1.out] at RL1
                  refine ord_finG (by kernel_rfl) ?_
                  simp only [pick, List.map_cons, List.map_nil, List.getD_cons_zero, List.getD_cons_succ]
                  go_wp2_with (at_builtin; go_must (refine app_litBd eltCall (wr.alloc (Obj.cells #[.int .i64 (t : Int)] 3)) rfl (.tmp 96) (.tmp 100) rfl (w3.heap.size) _ J rows1.flatten rfl (by rw [← HTS1.out]; exact HR3q1.out) 1 [.int .i64 0, .slice (some ⟨wr.heap.size, 0, none⟩) 1 1] (wr.heap.size + 1) (by first | rfl | simp) rfl rfl (by intro u hu; simp only [List.mem_cons, List.not_mem_nil, or_false] at hu; rcases hu with rfl | rfl <;> rfl) (by omega) (by omega) (by first | omega | (simp; omega)) ?_); intro v8 w8 own8 g8 hv8)
                  obtain ⟨A81, c81, rfl, hc8⟩ := own_form own8
                  have hK8 : Kc tCall ((wr.alloc (Obj.cells #[.int .i64 (t : Int)] 3)).alloc (.cells #[.int .i64 0, .slice (some ⟨wr.heap.size, 0, none⟩) 1 1] 67)).drew w8 := Kc.grown ⟨g8.os, g8.tape, g8.output, g8.size, g8.block⟩ (fun b cs t fr he hh => .inl (own_same RL1.out he hh))
                  have hne6 := Box.ne (HMl1.out.thr.alloc (.cells #[.int .i64 0, .slice (some ⟨wr.heap.size, 0, none⟩) 1 1] 67)) RL1.out (by decide)
                  have b68 := (HMl1.out.thr.alloc (.cells #[.int .i64 0, .slice (some ⟨wr.heap.size, 0, none⟩) 1 1] 67)).grown g8 hne6
                  obtain ⟨tg1, hMg', hKc', hBel'⟩ := HMl1.out.call (q := t) (c := ⟨0, [(t : Int)]⟩) htn ⟨by decide, by decide, by decide⟩ (rows := rows1) R11.out R21.out (fun i r x hr hx => (R41.out i r x hr hx).kc (T := fun _ => False) (Kc.below hbl1) id) (World.ownsRow.alloc R31.out _) ⟨some ⟨wr.heap.size, 0, none⟩, 1, 1, rfl, Nat.le_refl _, HQ1.out⟩ own8 (by rw [HT0.out, HJ0.out]) (by rw [HTS1.out]; exact g8) (by rw [HTS1.out]; exact hv8)
                  have HMg' := Lib.hid hMg'
                  have HKc' := Lib.hid ((Kc.below (T := tCall) hbl1).trans hKc')
                  have hbel1a := hbel.trans (hbl1.mono hbel.size)
                  have HBel' := Lib.hid (hBel' w w.heap.size (by have := HSZ.out; omega) (by first | omega | (simp; omega)) hbel1a)
                  have y8 : w8.cell? ⟨g7, t, none⟩ = some (.slice Aq1 J cq1) := by
                    have := b68.cell t
                    rw [range_at _ htn, HTS1.out] at this
                    exact this
                  have f8 := b68.frozen t
                  have H68 := Lib.hid b68
                  clear hMg' hKc' hBel' b68 own8 g8 hv8 hne6 z2 y0 g0
                  refine ⟨hK8, ?_⟩
                  refine ord_moreG [13] _ (by kernel_rfl) ?_
                  simp only [pick, List.map_cons, List.map_nil, List.getD_cons_zero, List.getD_cons_succ]
                  go_wp2
                  refine ord_finG (by kernel_rfl) ?_
                  simp only [pick, List.map_cons, List.map_nil, List.getD_cons_zero, List.getD_cons_succ]
                  go_wp2
                  have hK9 : Kc tCall w8 (w8.setCell ⟨g7, t, none⟩ (.slice A81 (J + 1) c81)) := Kc.grown (grown_setCell w8 ⟨g7, t, none⟩ _) (fun b cs t fr he hh => by
                    injection he with he
                    subst he
                    have h6 := H68.out
                    unfold Box at h6
                    rw [h6] at hh
                    injection hh with hh
                    injection hh with _ hh
                    exact .inr hh.symm)
                  refine ⟨hK9, ord_doneG ?_⟩
                  obtain ⟨W1, hW1⟩ : ∃ W, W = w8.setCell ⟨g7, t, none⟩ (.slice A81 (J + 1) c81) := ⟨_, rfl⟩
                  rw [← hW1]
                  have HMg1 := HMg'
                  have HK1 := Lib.hid (HK.out.trans HKc'.out)
                  have hbel1 := HBel'.out
                  rw [← hW1] at HMg1 HK1 hbel1
                  clear HMg' HKc' HBel' hK9 H68 y8 f8 hK8 hW1 R11 R21 R31 R3q1 R41 RL1 HTS1 HMl1 HR3q1
                  obtain ⟨T1, hT1⟩ : ∃ T : Nat → List Cl, T = fun i => if i = t then T0 t ++ [⟨0, [(t : Int)]⟩] else T0 i := ⟨_, rfl⟩
                  obtain ⟨L1, hL1⟩ : ∃ L, L = L0 ++ [⟨0, [(t : Int)]⟩] := ⟨_, rfl⟩
                  have HMg1s := HMg1.out
                  rw [← hT1] at HMg1s
                  obtain ⟨ts1, HMg1t⟩ : ∃ ts, Hid (Mg 3 67 65 tg1 W1 w3.heap.size g7 n ts T1) := ⟨_, HMg1s⟩
                  have HT1 : Hid (T1 t = L1) := by show _ = _; rw [hT1, hL1]; dsimp only; rw [if_pos rfl, HT0.out]
                  have HJ1 : Hid (L1.length = J + 1) := by show _ = _; rw [hL1, List.length_append, HJ0.out]; rfl
                  have HDT1 := Lib.hid hT1
                  have HL1 := Lib.hid hL1
                  have BM1 := Lib.hid (HS5.out.2.2.2.2.2.1.kc HK1.out tCall_mach)
                  have hszr1 := hbel1.size
                  have HQ2 := Lib.hid (QT.box (s := 1) (n := 1) (Box.newAt W1 3 [.int .i64 (t : Int)] W1.heap.size rfl) rfl)
                  clear HMg1 HMg1s hT1 hL1
                  obtain ⟨rows2, r1, r2, r3, r4⟩ := HMg1t.out.row t htn
                  have r3q := r3
                  rw [HT1.out, HJ1.out] at r3q
                  obtain ⟨Aq2, cq2, hts, hlq⟩ := own_form r3q
                  have z2 : W1.cell? ⟨g9, 2, none⟩ = _ := BM1.out.cell 2
                  have y0 : W1.cell? ⟨g7, t, none⟩ = some (.slice Aq2 (J + 1) cq2) := by
                    have := HMg1t.out.thr.cell t
                    rw [range_at _ htn, hts] at this
                    exact this
                  have l6 := HMg1t.out.thr.lt
                  have lM := BM1.out.lt
                  have g0 := HMg1t.out.thr.frozen t
                  have HTS2 := Lib.hid hts
                  have R12 := Lib.hid r1
                  have R22 := Lib.hid r2
                  have R32 := Lib.hid r3
                  have R3q2 := Lib.hid r3q
                  have R42 := Lib.hid r4
                  simp only [List.getElem?_cons_zero, List.getElem?_cons_succ] at z2
                  clear hts r1 r2 r3 r4 r3q
                  go_wp2
                  refine region_firstG (Kc tCall) (gok_kc tCall) [0, 1] [2, 3, 4, 5, 6, 7, 8] (.cons 0 (.cons 1 (.cons 9 (seq [10] (.cons 11 (.cons 12 (seq [13] (.cons 14 .nil)))))))) (by kernel_rfl) (by kernel_rfl) ?_
                  simp only [pick, List.map_cons, List.map_nil, List.getD_cons_zero, List.getD_cons_succ]
                  go_wp2
                  refine ord_blindG (.pointer (some ⟨g9, 2, none⟩)) (by kernel_rfl) ?_ ?_
                  · intro w' _
                    simp only [List.getD_cons_zero, List.getD_cons_succ]
                    go_simp
                  refine ord_blindG (.slice (some ⟨g7, 0, none⟩) n n) (by kernel_rfl) ?_ ?_
                  · intro w' hk
                    have zz := (Box.kc (w := W1.drew) BM1.out hk tCall_mach).cell 2
                    simp only [List.getElem?_cons_zero, List.getElem?_cons_succ] at zz
                    simp only [List.getD_cons_zero, List.getD_cons_succ]
                    go_simp
                  refine ord_callG (by kernel_rfl) ?_
                  simp only [pick, List.map_cons, List.map_nil, List.getD_cons_zero, List.getD_cons_succ]
                  go_wp2
                  refine ⟨ext_below ((Below.refl _ _).alloc (Nat.le_refl _) _), ?_⟩
                  refine ord_moreG [10] _ (by kernel_rfl) ?_
                  simp only [pick, List.map_cons, List.map_nil, List.getD_cons_zero, List.getD_cons_succ]
                  go_wp2
                  refine ord_callG (by kernel_rfl) ?_
                  simp only [pick, List.map_cons, List.map_nil, List.getD_cons_zero, List.getD_cons_succ]
                  go_wp2
                  refine ⟨ext_below ((Below.refl _ _).alloc (Nat.le_refl _) _), ?_⟩
                  have hbl2 := (Below.refl W1.heap.size W1).alloc (Nat.le_refl _) (Obj.cells #[.int .i64 (t : Int)] 3)
                  have HMl2 := Lib.hid (HMg1t.out.below hbl2)
                  have HR3q2 := Lib.hid (World.ownsRow.alloc R3q2.out (Obj.cells #[.int .i64 (t : Int)] 3))
                  have RL2 := Lib.hid (HR3q2.out.alloc (.cells #[.int .i64 1, .slice (some ⟨W1.heap.size, 0, none⟩) 1 1] 67))
                  rw [HTS2.out] at RL2
                  refine ord_finG (by kernel_rfl) ?_
                  simp only [pick, List.map_cons, List.map_nil, List.getD_cons_zero, List.getD_cons_succ]
                  go_wp2_with (at_builtin; go_must (refine app_litBd eltCall (W1.alloc (Obj.cells #[.int .i64 (t : Int)] 3)) rfl (.tmp 124) (.tmp 128) rfl (w3.heap.size) _ (J + 1) rows2.flatten rfl (by rw [← HTS2.out]; exact HR3q2.out) 1 [.int .i64 1, .slice (some ⟨W1.heap.size, 0, none⟩) 1 1] (W1.heap.size + 1) (by first | rfl | simp) rfl rfl (by intro u hu; simp only [List.mem_cons, List.not_mem_nil, or_false] at hu; rcases hu with rfl | rfl <;> rfl) (by omega) (by omega) (by first | omega | (simp; omega)) ?_); intro v8 w8 own8 g8 hv8)
                  obtain ⟨A82, c82, rfl, hc8⟩ := own_form own8
                  have hK8 : Kc tCall ((W1.alloc (Obj.cells #[.int .i64 (t : Int)] 3)).alloc (.cells #[.int .i64 1, .slice (some ⟨W1.heap.size, 0, none⟩) 1 1] 67)).drew w8 := Kc.grown ⟨g8.os, g8.tape, g8.output, g8.size, g8.block⟩ (fun b cs t fr he hh => .inl (own_same RL2.out he hh))
                  have hne6 := Box.ne (HMl2.out.thr.alloc (.cells #[.int .i64 1, .slice (some ⟨W1.heap.size, 0, none⟩) 1 1] 67)) RL2.out (by decide)
                  have b68 := (HMl2.out.thr.alloc (.cells #[.int .i64 1, .slice (some ⟨W1.heap.size, 0, none⟩) 1 1] 67)).grown g8 hne6
                  obtain ⟨tg2, hMg', hKc', hBel'⟩ := HMl2.out.call (q := t) (c := ⟨1, [(t : Int)]⟩) htn ⟨by decide, by decide, by decide⟩ (rows := rows2) R12.out R22.out (fun i r x hr hx => (R42.out i r x hr hx).kc (T := fun _ => False) (Kc.below hbl2) id) (World.ownsRow.alloc R32.out _) ⟨some ⟨W1.heap.size, 0, none⟩, 1, 1, rfl, Nat.le_refl _, HQ2.out⟩ own8 (by rw [HT1.out, HJ1.out]) (by rw [HTS2.out]; exact g8) (by rw [HTS2.out]; exact hv8)
                  have HMg' := Lib.hid hMg'
                  have HKc' := Lib.hid ((Kc.below (T := tCall) hbl2).trans hKc')
                  have hbel2a := hbel1.trans (hbl2.mono hbel1.size)
                  have HBel' := Lib.hid (hBel' w w.heap.size (by have := HSZ.out; omega) (by first | omega | (simp; omega)) hbel2a)
                  have y8 : w8.cell? ⟨g7, t, none⟩ = some (.slice Aq2 (J + 1) cq2) := by
                    have := b68.cell t
                    rw [range_at _ htn, HTS2.out] at this
                    exact this
                  have f8 := b68.frozen t
                  have H68 := Lib.hid b68
                  clear hMg' hKc' hBel' b68 own8 g8 hv8 hne6 z2 y0 g0
                  refine ⟨hK8, ?_⟩
                  refine ord_moreG [13] _ (by kernel_rfl) ?_
                  simp only [pick, List.map_cons, List.map_nil, List.getD_cons_zero, List.getD_cons_succ]
                  go_wp2
                  refine ord_finG (by kernel_rfl) ?_
                  simp only [pick, List.map_cons, List.map_nil, List.getD_cons_zero, List.getD_cons_succ]
                  go_wp2
                  have hK9 : Kc tCall w8 (w8.setCell ⟨g7, t, none⟩ (.slice A82 ((J + 1) + 1) c82)) := Kc.grown (grown_setCell w8 ⟨g7, t, none⟩ _) (fun b cs t fr he hh => by
                    injection he with he
                    subst he
                    have h6 := H68.out
                    unfold Box at h6
                    rw [h6] at hh
                    injection hh with hh
                    injection hh with _ hh
                    exact .inr hh.symm)
                  refine ⟨hK9, ord_doneG ?_⟩
                  obtain ⟨W2, hW2⟩ : ∃ W, W = w8.setCell ⟨g7, t, none⟩ (.slice A82 ((J + 1) + 1) c82) := ⟨_, rfl⟩
                  rw [← hW2]
                  have HMg2 := HMg'
                  have HK2 := Lib.hid (HK1.out.trans HKc'.out)
                  have hbel2 := HBel'.out
                  rw [← hW2] at HMg2 HK2 hbel2
                  clear HMg' HKc' HBel' hK9 H68 y8 f8 hK8 hW2 R12 R22 R32 R3q2 R42 RL2 HTS2 HMl2 HR3q2
                  go_wp2
                  go_roundw
                  case rel =>
                    have h9 := HMg2.out.congr (T' := fun q => if q < t then lockJ q wk (f q) else if q = t then lockJ t wk (j + 1) else []) (fun i hi => by
                      by_cases hit : i = t
                      · subst hit
                        rw [if_pos rfl, HT1.out, if_neg (by omega), if_pos rfl, lockJ_succ, if_neg hwk0]
                        simp [HL1.out, HLL.out]
                      · rw [if_neg hit, HDT1.out, HTT.out]
                        simp [hit])
                    exact ⟨j + 1, tg2, _, by omega, by go_num, h9, HK2.out, hbel2⟩
                  case measure => simp [intOf]; omega
              · obtain rfl : f t = j := by omega
                have HMg1 : Hid (Mg 3 67 65 tg wr w3.heap.size g7 n ts (fun q => if q < t + 1 then lockJ q wk (f q) else [])) := HMg.out.congr (fun i hi => by
                  rcases Nat.lt_trichotomy i t with h | h | h
                  · rw [if_pos h, if_pos (by omega)]
                  · subst h; rw [if_neg (by omega), if_pos rfl, if_pos (by omega)]
                  · rw [if_neg (by omega), if_neg (by omega), if_neg (by omega)])
                clear HMg
                go_wp2
                go_roundw
                case rel => exact ⟨t + 1, tg, ts, by omega, by go_num, HMg1.out, HK.out, hbel⟩
                case measure => simp [intOf]; omega
          · obtain rfl : n = t := by omega
            have HMg1 : Hid (Mg 3 67 65 tg wr w3.heap.size g7 n ts (fun q => lockJ q wk (f q))) := HMg.out.congr (fun i hi => by rw [if_pos hi])
            have bM := HS5.out.2.2.2.2.2.1.kc HK.out tCall_mach
            have bR := HS5.out.2.2.2.2.2.2.kc HK.out tCall_mach
            have HIM := Lib.hid (lock_inM HC.out.1 HC.out.2.1 HC.out.2.2 h1 h4 hwk HF.out (HS5.out.1.kc HK.out tCall_int) (HS5.out.2.1.kc HK.out tCall_op) (HS5.out.2.2.1.kc HK.out tCall_op) (HS5.out.2.2.2.1.kc HK.out tCall_op) (HS5.out.2.2.2.2.1.kc HK.out tCall_code) HMg1.out hlw hcw hlp hlg)
            have hTr := HT.out.below hbel HT.out.lt
            have z0 : wr.cell? ⟨g9, 0, none⟩ = _ := bM.cell 0
            have z1 : wr.cell? ⟨g9, 1, none⟩ = _ := bM.cell 1
            have z2 : wr.cell? ⟨g9, 2, none⟩ = _ := bM.cell 2
            simp only [List.getElem?_cons_zero, List.getElem?_cons_succ] at z0 z1 z2
            have lM := bM.lt
            have lR9 := bR.lt
            clear HMg
            go_wp2
            refine region_first [0, 1] (.cons 2 (seq [3, 4] .nil)) (by kernel_rfl) (by kernel_rfl) ?_
            simp only [pick, List.map_cons, List.map_nil, List.getD_cons_zero, List.getD_cons_succ]
            go_wp2
            refine ord_call (by kernel_rfl) ?_
            simp only [pick, List.map_cons, List.map_nil, List.getD_cons_zero, List.getD_cons_succ]
            go_wp2_with fail
            refine (HM.out wr.drew (hTr.below (Below.refl _ _).drew hTr.lt) Aw nw cw (some ⟨g5, 0, none⟩) 3 3 (some ⟨g7, 0, none⟩) n n (mLock ws ce cl n f wk) true (HIM.out.below (Below.refl _ _).drew) (by simp; exact lock_ok HC.out.1 HC.out.2.1 HC.out.2.2 h1 h4 hwk HF.out)).mono ?_
            rintro e w9 ⟨rfl, hb9⟩
            have hx9 := ext_below hb9
            replace hb9 : Below wr.heap.size wr w9 := hb9.undrew
            have hbel9 := hbel.trans (hb9.mono hszr)
            have bR9 := bR.below hb9 lR9
            have x0 : w9.cell? ⟨w.heap.size, 0, none⟩ = _ := bR9.cell 0
            have x1 : w9.cell? ⟨w.heap.size, 1, none⟩ = _ := bR9.cell 1
            have x2 : w9.cell? ⟨w.heap.size, 2, none⟩ = _ := bR9.cell 2
            have f0 := bR9.frozen 0
            have f1 := bR9.frozen 1
            have f2 := bR9.frozen 2
            simp only [List.getElem?_cons_zero, List.getElem?_cons_succ] at x0 x1 x2
            go_wp2
            refine ord_last [3, 4] (by kernel_rfl) ?_
            simp only [pick, List.map_cons, List.map_nil, List.getD_cons_zero, List.getD_cons_succ]
            go_wp2
            refine bodyPost_ret (results_row_tmp rfl _ _ w.heap.size _ _ _ _ rfl (by exact bR9.three _ _ _) Tryd.underlying36 rfl (by kernel_rfl)) rfl ?_
            have hun : Un (fun k => k = w.heap.size) w9 (((w9.setCell ⟨w.heap.size, 0, none⟩ (.slice Aw nw cw)).setCell ⟨w.heap.size, 1, none⟩ (.slice (some ⟨g5, 0, none⟩) 3 3)).setCell ⟨w.heap.size, 2, none⟩ (.slice (some ⟨g7, 0, none⟩) n n)) :=
              un_at (X := fun k => k = w.heap.size) (un_at (X := fun k => k = w.heap.size) (un_at (X := fun k => k = w.heap.size) (Un.refl _ _) rfl _ _) rfl _ _) rfl _ _
            have hty : ∀ b cs t fr, b = w.heap.size → w9.heap[b]? = some (.cells cs t fr) → t = 36 := fun b cs t fr hb hh => by
              subst hb
              have h6 := bR9
              unfold Box at h6
              rw [h6] at hh
              injection hh with hh
              injection hh with _ hh
              exact hh.symm
            have k9 := Kc.trans (Kc.below (T := fun t => t = 36) hb9) (Kc.un hun hty)
            refine ⟨Aw, nw, cw, _, _, _, _, _, _, rfl, lock_inM HC.out.1 HC.out.2.1 HC.out.2.2 h1 h4 hwk HF.out ((HS5.out.1.kc HK.out tCall_int).kc k9 (by decide)) ((HS5.out.2.1.kc HK.out tCall_op).kc k9 (by decide)) ((HS5.out.2.2.1.kc HK.out tCall_op).kc k9 (by decide)) ((HS5.out.2.2.2.1.kc HK.out tCall_op).kc k9 (by decide)) ((HS5.out.2.2.2.2.1.kc HK.out tCall_code).kc k9 (by decide))
              ((HMg1.out.below hb9).un hun (fun b cs t fr hb hh => by rw [hty b cs t fr hb hh]; decide)) hlw hcw hlp hlg, ?_⟩
            exact below_at (below_at (below_at hbel9 (Nat.le_refl _) _ _) (Nat.le_refl _) _ _) (Nat.le_refl _) _ _
end Go.Proofs.YtfpokjhalbbeeaaDoor
