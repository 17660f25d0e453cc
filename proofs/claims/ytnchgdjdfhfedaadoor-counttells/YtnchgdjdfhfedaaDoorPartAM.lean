/- Of this claim's own texts these, one behind the other: LibMid, MachT, KeepPicked, CountSpec, CuSpec, KeepCountM. No statement of the seat is proved here; no condition but those that stand at the theorems. -/
import Derived.Test.YtnchgdjdfhfedaaDoorPartAL
import Derived.Deep.MidRow
import Derived.Test.YtnchgdjdfhfedaaDoorRows
import Derived.Test.YtnchgdjdfhfedaaDoorPartAC
import Derived.Test.YtnchgdjdfhfedaaDoorPartAI
import Derived.Test.YtnchgdjdfhfedaaDoorPartAK
import Derived.Test.YtnchgdjdfhfedaaDoorPartAF
import Derived.Test.YtnchgdjdfhfedaaDoorPartAG
import Derived.Test.YtnchgdjdfhfedaaDoorPartAH
set_option linter.unusedSimpArgs false
set_option linter.unusedVariables false
namespace Go.Baro
open Go.RowKit

theorem grown_setCells : ∀ (cs : List Value) (w : World) (b o : Nat), w.grownBy (w.setCells b o cs) (some b)
  | [], w, b, o => World.grownBy.refl w _
  | v :: cs, w, b, o => grown_trans (grown_setCell w ⟨b, o, none⟩ v) (grown_setCells cs _ b (o + 1))
theorem box_setCells {b : Nat} {T : TypeId} {post : List Value} : ∀ (cs old pre : List Value) (w : World) (o : Nat), Box w b T (pre ++ (old ++ post)) → old.length = cs.length → pre.length = o → Box (w.setCells b o cs) b T (pre ++ (cs ++ post))
  | [], old, pre, w, o, h, hl, ho => by
    have : old = [] := List.eq_nil_of_length_eq_zero (by simpa using hl)
    subst this
    exact h
  | v :: cs, [], pre, w, o, h, hl, ho => by simp at hl
  | v :: cs, u :: old, pre, w, o, h, hl, ho => by
    have h1 := h.set o v
    rw [List.set_append_right _ _ (by omega), ho, Nat.sub_self, List.cons_append, List.set_cons_zero] at h1
    have h2 : Box (w.setCell ⟨b, o, none⟩ v) b T ((pre ++ [v]) ++ (old ++ post)) := by
      rw [List.append_assoc]; exact h1
    have h3 := box_setCells cs old (pre ++ [v]) _ (o + 1) h2 (by simpa using hl) (by simp [ho])
    rw [List.append_assoc] at h3
    exact h3
theorem box_there {w : World} {b o : Nat} {T : TypeId} {pre old post : List Value} (h : Box w b T (pre ++ (old ++ post))) (ho : pre.length = o) : w.there b o old.length := by
  intro j hj
  refine ⟨?_, h.frozen _⟩
  have := h.cell (pre.length + j)
  rw [mid_at hj, ho] at this
  rw [this, List.getElem?_eq_getElem hj]
  rfl
theorem box_range {w : World} {b o : Nat} {T : TypeId} {pre old post : List Value} (h : Box w b T (pre ++ (old ++ post))) (ho : pre.length = o) : w.rangeAt b o old := by
  intro j v hv
  have hj := (List.getElem?_eq_some_iff.1 hv).1
  have := h.cell (pre.length + j)
  rw [mid_at hj, ho] at this
  rw [this, hv]
/-- A struct is stored into the middle of a block. -/
theorem store_mid {P : Program} {ops : Array Oper} {rest : List Oper} {op : Oper} {a : Act} {w : World} {Q : Exit → Act → World → Prop} (hgd : op.guard = none) (hdst : op.dst = none) (ty : TypeId) (x y : Operand) (hop : op.op = .store ty x y)
    (b o : Nat) (cells : List Value) (hx : a.eval x = .pointer (some ⟨b, o, none⟩)) (hy : a.eval y = .agg cells.toArray) (T : TypeId) (pre old post : List Value) (h : Box w b T (pre ++ (old ++ post))) (ho : pre.length = o) (hl : old.length = cells.length)
    (hi : (P.info? ty).map (·.size) = some cells.length) (h1 : ∀ v ∈ cells, v.oneCell' = true) (hK : ∀ w', Hid (Box w' b T (pre ++ (cells ++ post))) → w.grownBy w' (some b) → wpList P ops Q rest a w') : wpList P ops Q (op :: rest) a w := by
  refine wpList_store_mid hgd ty x y hop b o cells.toArray hx hy (by have := box_there h ho; rw [hl] at this; simpa using this) (by simpa using hi) (all_oneCell_toArray h1) ?_
  rw [hdst]
  exact hK _ (box_setCells cells old pre w o h hl ho) (grown_setCells cells w b o)
/-- A struct is read out of the middle of a block. -/
theorem load_mid {P : Program} {ops : Array Oper} {rest : List Oper} {op : Oper} {a : Act} {w : World} {Q : Exit → Act → World → Prop} (hgd : op.guard = none) (ty : TypeId) (x : Operand) (hop : op.op = .load ty x)
    (b o : Nat) (hx : a.eval x = .pointer (some ⟨b, o, none⟩)) (T : TypeId) (pre cells post : List Value) (h : Box w b T (pre ++ (cells ++ post))) (ho : pre.length = o) (d : TypeDesc) (hu : P.underlying ty = some d) (hd : d.isRow = true) (hi : (P.info? ty).map (·.size) = some cells.length)
    (hK : wpList P ops Q rest (a.put op.dst (.agg cells.toArray)) w) : wpList P ops Q (op :: rest) a w :=
  wpList_load_mid hgd ty x hop b o hx cells d (box_range h ho) hu hd hi hK
end Go.Baro

set_option linter.unusedSimpArgs false
set_option linter.unusedVariables false
namespace Go.Proofs.YtnchgdjdfhfedaaDoor
open Go.RowKit Go.Ord Go.Baro

theorem eltCall : Elt Tryd.prog 42 41 (.agg #[.int .i64 0, .slice none 0 0]) 2 32 := Elt.mk' Tryd.underlying42 (by kernel_rfl) rfl (by decide)
theorem eltThr : Elt Tryd.prog 30 42 (.slice none 0 0) 1 24 := Elt.mk' Tryd.underlying30 (by kernel_rfl) rfl (by decide)
/-- The types that change while the calls are written. -/
def tCall (t : TypeId) : Prop := t = 41 ∨ t = 42
theorem tCall_int : ¬ tCall 3 := by unfold tCall; decide
theorem tCall_op : ¬ tCall 73 := by unfold tCall; decide
theorem tCall_code : ¬ tCall 24 := by unfold tCall; decide
theorem tCall_mach : ¬ tCall 32 := by unfold tCall; decide
end Go.Proofs.YtnchgdjdfhfedaaDoor

set_option linter.unusedSimpArgs false
set_option linter.unusedVariables false
namespace Go.Proofs.YtnchgdjdfhfedaaDoor
open Go.RowKit Go.Ord Go.Baro

theorem tmod_pick (a n : Int) (hn : 0 < n) : (if a.tmod n < 0 then a.tmod n + n else a.tmod n) = a % n := by
  have h1 := Int.tmod_eq_emod (a := a) (b := n)
  have h2 := Int.emod_nonneg a (show n ≠ 0 by omega)
  have h3 := Int.emod_lt_of_pos a hn
  rw [h1]
  split <;> split <;> omega

theorem keep_Picked (a n : Int) (w : World) (hn : 0 < n) (hn1 : n ≤ 4611686018427387904) :
    Calls Tryd.prog 18 #[.int .i64 a, .int .i64 n] w fun e w' => e = .returned (.int .i64 (a % n)) ∧ w = w' := by
  have HT := Lib.hid (tmod_pick a n hn)
  have hb1 : -n < a.tmod n := Int.lt_tmod_of_pos a hn
  have hb2 : a.tmod n < n := Int.tmod_lt_of_pos a hn
  have hne : (n == 0) = false := by simp; omega
  by_cases h : a.tmod n < 0
  · go_enter Tryd.func18, Tryd.ntmps18
    go_wp2
    go_ret
    refine ⟨ret_int ?_, rfl⟩
    have := HT.out
    rw [if_pos h] at this
    exact this
  · go_enter Tryd.func18, Tryd.ntmps18
    go_wp2
    go_ret
    refine ⟨ret_int ?_, rfl⟩
    have := HT.out
    rw [if_neg (by omega)] at this
    exact this
end Go.Proofs.YtnchgdjdfhfedaaDoor

set_option linter.unusedSimpArgs false
set_option linter.unusedVariables false
namespace Go.Baro
open Go.RowKit (wrap64)
/-- The i-th call of count's machine. -/
def cntN (by_ : List Int) (i : Nat) : Int := (by_[i]?.getD 0) % 6
def cntC (by_ : List Int) (i : Nat) : Cl := if 0 < cntN by_ i then ⟨0, [cntN by_ i]⟩ else ⟨1, []⟩
def cntT (by_ : List Int) (t : Nat) : List Cl := [cntC by_ t, cntC by_ (t + 3), cntC by_ (t + 6)]
/-- Count: the words and the two codes. -/
structure Cu where
  ws : List Int
  ca : List Ins
  cg : List Ins
def mCount (c : Cu) (by_ : List Int) : Mc := ⟨c.ws, [c.ca, c.cg], [cntT by_ 0, cntT by_ 1, cntT by_ 2]⟩
def mCount4 (c : Cu) (by_ : List Int) : Mc := ⟨c.ws, [c.ca, c.cg], [cntT by_ 0, cntT by_ 1, cntT by_ 2, [⟨1, []⟩]]⟩
/-- The calls of a thread that adds and gets in turn. -/
def tlsN (by_ : List Int) (i : Nat) : Int := if i < by_.length then by_[i]?.getD 0 else 1
def tlsT (by_ : List Int) (j : Nat) : List Cl := (List.range j).flatMap fun i => [⟨0, [tlsN by_ i]⟩, ⟨1, []⟩]
def mTells (c : Cu) (by_ : List Int) : Mc := ⟨c.ws, [c.ca, c.cg], [tlsT by_ 9]⟩
/-- A call of a run as an operation on a number. -/
def cntA (m : Mc) (d : Dg) : Ac :=
  match (m.ts[d.th]?.getD [])[d.cl]? with
  | some c => ⟨d.b, d.e, decide (c.k = 0), if d.e = -1 then 0 else d.to.headD 0, if c.k = 0 then c.ar.headD 0 else 0⟩
  | none => ⟨d.b, d.e, false, 0, 0⟩
def CountLinD (c : Cu) : Prop := ∀ (by_ : List Int) (S : List Nat), S.length ≤ 400 → (∀ x ∈ S, x < 3) →
  noErr (plyG (mCount c by_) 0 S (g0 (mCount c by_))) ∧ (∀ d ∈ dgs (plyG (mCount c by_) 0 S (g0 (mCount c by_))).out, (d.e ≠ -1 → d.to.length = 1) ∧ d.th < 3 ∧ d.cl < 3) ∧ (dgs (plyG (mCount c by_) 0 S (g0 (mCount c by_))).out).length ≤ 9 ∧
  Lin 2 [0] ((dgs (plyG (mCount c by_) 0 S (g0 (mCount c by_))).out).map (cntA (mCount c by_)))
/-- The schedule of CountAll. -/
def allS (S : List Nat) : List Nat := S ++ List.replicate 200 0 ++ List.replicate 200 1 ++ List.replicate 200 2 ++ List.replicate 60 3
def CountAllD (c : Cu) : Prop := ∀ (by_ : List Int) (S : List Nat), S.length ≤ 300 → (∀ x ∈ S, x < 3) →
  noErr (plyG (mCount4 c by_) 0 (allS S) (g0 (mCount4 c by_))) ∧ (dgs (plyG (mCount4 c by_) 0 (allS S) (g0 (mCount4 c by_))).out).length = 10 ∧
  (∀ d ∈ dgs (plyG (mCount4 c by_) 0 (allS S) (g0 (mCount4 c by_))).out, d.e ≠ -1 ∧ d.to.length = 1) ∧
  (dgs (plyG (mCount4 c by_) 0 (allS S) (g0 (mCount4 c by_))).out).Pairwise (fun a b => (cntA (mCount4 c by_) a).put = true → (cntA (mCount4 c by_) b).put = true → a.to.headD 0 ≠ b.to.headD 0) ∧
  (∃ d ∈ dgs (plyG (mCount4 c by_) 0 (allS S) (g0 (mCount4 c by_))).out, d.th = 3) ∧
  ∀ d ∈ dgs (plyG (mCount4 c by_) 0 (allS S) (g0 (mCount4 c by_))).out, d.th = 3 → d.to.headD 0 = ((dgs (plyG (mCount4 c by_) 0 (allS S) (g0 (mCount4 c by_))).out).map fun d => (cntA (mCount4 c by_) d).add).sum
/-- The sums that a thread is told. -/
def wantN (by_ : List Int) (i : Nat) : Int := (List.range i).foldl (fun s j => wrap64 (s + tlsN by_ j)) 0
def CountTellsD (c : Cu) : Prop := ∀ (by_ : List Int), (∀ x ∈ by_, wrap64 x = x) →
  noErr (plyG (mTells c by_) 0 (List.replicate 1080 0) (g0 (mTells c by_))) ∧ (dgs (plyG (mTells c by_) 0 (List.replicate 1080 0) (g0 (mTells c by_))).out).length = 18 ∧
  ∀ (i : Nat) d, (dgs (plyG (mTells c by_) 0 (List.replicate 1080 0) (g0 (mTells c by_))).out)[i]? = some d → d.e ≠ -1 ∧ d.to = [wantN by_ ((i + 1) / 2)]
end Go.Baro

set_option linter.unusedSimpArgs false
set_option linter.unusedVariables false
namespace Go.Proofs.YtnchgdjdfhfedaaDoor
open Go.RowKit Go.Ord Go.Baro

/-- A function without an argument that gives words, or a code. -/
def W0Spec (F : FuncId) (ws : List Int) : Prop := ∀ (w : World) (hT : Tab w), Calls Tryd.prog F #[] w fun e w' => (∃ A n k, e = .returned (.slice A n k) ∧ n ≤ k ∧ k ≤ 9223372036854775807 ∧ QT w' 3 1 A n (ws.map (Value.int .i64))) ∧ Below w.heap.size w w'
def C0Spec (F : FuncId) (c : List Ins) : Prop := ∀ (w : World) (hT : Tab w), Calls Tryd.prog F #[] w fun e w' => (∃ A n k, e = .returned (.slice A n k) ∧ n ≤ k ∧ k ≤ 9223372036854775807 ∧ QT w' 73 5 A n (cellsO c)) ∧ Below w.heap.size w w'
structure CuOk (c : Cu) : Prop where
  w0 : 0 < c.ws.length
  w1 : c.ws.length ≤ 64
  wi : ∀ x ∈ c.ws, inW x
  a0 : 0 < c.ca.length
  ac : okC c.ca
  ai : ∀ o ∈ c.ca, inI o
  g0 : 0 < c.cg.length
  gc : okC c.cg
  gi : ∀ o ∈ c.cg, inI o
end Go.Proofs.YtnchgdjdfhfedaaDoor

set_option linter.unusedSimpArgs false
set_option linter.unusedVariables false
namespace Go.Proofs.YtnchgdjdfhfedaaDoor
open Go.RowKit Go.Ord Go.OrdG Go.Baro

theorem mem_ofM {l : List Nat} {a : Nat} (h : l.contains a = true) : a ∈ l := by simpa using h
def tMach (t : TypeId) : Prop := t = 32
/-- The calls of a thread when i of them are written. -/
def cntJ (by_ : List Int) (i q : Nat) : List Cl := ((List.range i).filter fun j => decide (j % 3 = q)).map (cntC by_)
theorem cntJ_succ (by_ : List Int) (i q : Nat) : cntJ by_ (i + 1) q = if i % 3 = q then cntJ by_ i q ++ [cntC by_ i] else cntJ by_ i q := by
  unfold cntJ
  rw [List.range_succ, List.filter_append, List.map_append]
  by_cases h : i % 3 = q <;> simp [h]
theorem cntJ_all {by_ : List Int} {q : Nat} (h : q < 3) : cntJ by_ 9 q = cntT by_ q := by
  rcases (by omega : q = 0 ∨ q = 1 ∨ q = 2) with rfl | rfl | rfl <;> rfl
theorem cntJ_len {by_ : List Int} {i q : Nat} (hi : i ≤ 9) : (cntJ by_ i q).length ≤ 9 := by
  unfold cntJ
  rw [List.length_map]
  exact Nat.le_trans (List.length_filter_le _ _) (by simpa using hi)
theorem cntC_mem (by_ : List Int) (i : Nat) : (cntC by_ i = ⟨0, [cntN by_ i]⟩ ∧ 0 < cntN by_ i ∧ cntN by_ i < 6) ∨ (cntC by_ i = ⟨1, []⟩ ∧ cntN by_ i = 0) := by
  unfold cntC
  have h1 : 0 ≤ cntN by_ i ∧ cntN by_ i < 6 := by unfold cntN; omega
  by_cases h : 0 < cntN by_ i
  · rw [if_pos h]; exact .inl ⟨rfl, h, h1.2⟩
  · rw [if_neg h]; exact .inr ⟨rfl, by omega⟩
theorem cnt_th (by_ : List Int) (q : Nat) : okTh (cntT by_ q) := by
  refine ⟨by simp [cntT], fun x hx => ?_⟩
  have h : ∃ i, x = cntC by_ i := by
    simp only [cntT, List.mem_cons, List.not_mem_nil, or_false] at hx
    rcases hx with rfl | rfl | rfl <;> exact ⟨_, rfl⟩
  obtain ⟨i, rfl⟩ := h
  rcases cntC_mem by_ i with ⟨e, h1, h2⟩ | ⟨e, _⟩ <;> rw [e]
  · exact ⟨by unfold inW; dsimp only; omega, by simp, fun y hy => by simp only [List.mem_singleton] at hy; subst hy; unfold inW; omega⟩
  · exact ⟨by unfold inW; dsimp only; omega, by simp, fun y hy => by cases hy⟩
theorem cnt_ts (by_ : List Int) : [cntT by_ 0, cntT by_ 1, cntT by_ 2] = (List.range 3).map (cntT by_) := rfl
/-- The machine in memory. -/
theorem count_inM {c : Cu} (h : CuOk c) (by_ : List Int) {w : World} {Aw Ap Ag : Option Addr} {nw cw np cp ng cg g5 g7 B : Nat} {tg : Nat → Nat} {ts : Nat → Value}
    (q1 : QT w 3 1 Aw nw (c.ws.map (Value.int .i64))) (q2 : QT w 73 5 Ap np (cellsO c.ca)) (q3 : QT w 73 5 Ag ng (cellsO c.cg)) (b5 : Box w g5 24 [.slice Ap np cp, .slice Ag ng cg])
    (hm : Mg 3 41 42 tg w B g7 3 ts (cntT by_)) (hlw : nw ≤ cw) (hcw : cw ≤ 9223372036854775807) (hlp : np ≤ cp) (hlg : ng ≤ cg) :
    InM w Aw nw cw (some ⟨g5, 0, none⟩) 2 2 (some ⟨g7, 0, none⟩) 3 3 (mCount c by_) := by
  refine ⟨q1.rd, ?_, hm.rts, h.wi, ?_, ?_, ⟨hlw, hcw⟩, ⟨by omega, by omega⟩, ⟨by omega, by omega⟩⟩
  · refine rg_box (rows := [[.slice Ap np cp], [.slice Ag ng cg]]) b5 rfl rfl (by simp) fun i r x hr hx => ?_
    match i with
    | 0 =>
      simp [mCount] at hr hx
      subst hr hx
      exact ⟨Ap, np, cp, rfl, hlp, q2.rd⟩
    | 1 =>
      simp [mCount] at hr hx
      subst hr hx
      exact ⟨Ag, ng, cg, rfl, hlg, q3.rd⟩
    | i + 2 => simp at hr
  · intro x hx
    simp only [mCount, List.mem_cons, List.not_mem_nil, or_false] at hx
    rcases hx with rfl | rfl
    · exact ⟨by have := h.ac.1; omega, h.ai⟩
    · exact ⟨by have := h.gc.1; omega, h.gi⟩
  · intro t ht
    simp only [mCount, cnt_ts, List.mem_map, List.mem_range] at ht
    obtain ⟨i, hi, rfl⟩ := ht
    exact cnt_th _ _
theorem count_ok {c : Cu} (h : CuOk c) (by_ : List Int) : okMc (mCount c by_) := by
  refine ⟨by have := h.w1; simp [mCount]; omega, by simp [mCount], by simp [mCount], fun x hx => ?_, fun t ht => ?_⟩
  · simp only [mCount, List.mem_cons, List.not_mem_nil, or_false] at hx
    rcases hx with rfl | rfl
    · exact h.ac
    · exact h.gc
  · simp only [mCount, cnt_ts, List.mem_map, List.mem_range] at ht
    obtain ⟨i, hi, rfl⟩ := ht
    refine ⟨by simp [cntT], fun x hx => ?_⟩
    have hx' : ∃ i, x = cntC by_ i := by
      simp only [cntT, List.mem_cons, List.not_mem_nil, or_false] at hx
      rcases hx with rfl | rfl | rfl <;> exact ⟨_, rfl⟩
    obtain ⟨j, rfl⟩ := hx'
    rcases cntC_mem by_ j with ⟨e, _⟩ | ⟨e, _⟩ <;> rw [e] <;> exact ⟨by simp [mCount], by simp⟩
structure CnmV (L : Nat → Bool) (bR n1 c1 : Nat) (A1 : Option Addr) (c : Cu) (B : Nat) (w0 : World) (u7 u8 u9 u10 u11 u12 u3 : Value) (w : World) : Prop where
  bel : Below B w0 w
  f0 : L 0 = true → ∃ A n k, u7 = .slice A n k ∧ n ≤ k ∧ k ≤ 9223372036854775807 ∧ QT w 3 1 A n (c.ws.map (Value.int .i64))
  f1 : L 1 = true → ∃ A n k, u8 = .slice A n k ∧ n ≤ k ∧ k ≤ 9223372036854775807 ∧ QT w 73 5 A n (cellsO c.ca)
  f2 : L 2 = true → ∃ A n k, u9 = .slice A n k ∧ n ≤ k ∧ k ≤ 9223372036854775807 ∧ QT w 73 5 A n (cellsO c.cg)
  f3 : L 3 = true → ∃ g, u10 = .slice (some ⟨g, 0, none⟩) 2 2 ∧ B ≤ g ∧ Box w g 24 [u8, u9]
  f4 : L 4 = true → ∃ g, u11 = .slice (some ⟨g, 0, none⟩) 3 3 ∧ B ≤ g ∧ Box w g 42 (List.replicate 3 (.slice none 0 0))
  f5 : L 5 = true → u12 = .agg #[u7, u10, u11]
  f6 : L 6 = true → ∃ g, u3 = .pointer (some ⟨g, 0, none⟩) ∧ B ≤ g ∧ Box w g 32 [.slice none 0 0, .slice none 0 0, .slice none 0 0]
def CnmG (bR n1 c1 : Nat) (A1 : Option Addr) (c : Cu) (B : Nat) (w0 : World) (L : Nat → Bool) (a : Act) (w : World) : Prop :=
  ∃ u7 u8 u9 u10 u11 u12 u3, a = ⟨#[.slice A1 n1 c1, undef, .pointer (some ⟨bR, 0, none⟩), u3, undef, undef, undef, u7, u8, u9, u10, u11, u12, undef, undef, undef, undef, undef, undef, undef, undef, undef, undef, undef, undef, undef, undef, undef, undef, undef, undef, undef, undef, undef, undef, undef, undef, undef, undef, undef, undef, undef, undef, undef, undef, undef, undef], []⟩ ∧ CnmV L bR n1 c1 A1 c B w0 u7 u8 u9 u10 u11 u12 u3 w

set_option maxRecDepth 100000 in
set_option maxHeartbeats 2000000 in
theorem keep_countMachine (c : Cu) (hc : CuOk c) (hW : W0Spec 8 c.ws) (hA : C0Spec 9 c.ca) (hG : C0Spec 10 c.cg)
    (w : World) (hT : Tab w) (A1 : Option Addr) (n1 c1 : Nat) (x1 : List Int) (h1 : RI w w.heap.size .i64 A1 n1 x1) (b1 : n1 ≤ 17592186044416) :
    Calls Tryd.prog 12 #[.slice A1 n1 c1] w fun e w' => ∃ Aw nw cw Ac nc cc At nt ct, e = .returned (.agg #[.slice Aw nw cw, .slice Ac nc cc, .slice At nt ct]) ∧ InM w' Aw nw cw Ac nc cc At nt ct (mCount c x1) ∧ nc = 2 ∧ (nt = 3 ∧ ct = 3) ∧ Below w.heap.size w w' := by
  have HT := Lib.hid hT
  have HC := Lib.hid hc
  have HW := Lib.hid hW
  have HAd := Lib.hid hA
  have HGe := Lib.hid hG
  have HX1 := Lib.hid h1
  have HXL := Lib.hid (show x1.length = n1 from h1.len)
  have bR := Box.newAt w 32 [.slice none 0 0, .slice none 0 0, .slice none 0 0] w.heap.size rfl
  have hA0 := (Below.refl w.heap.size w).alloc (Nat.le_refl _) (Obj.cells #[.slice none 0 0, .slice none 0 0, .slice none 0 0] 32)
  clear hT hc hW hA hG h1
  go_enter Tryd.func12, Tryd.ntmps12
  go_wp2
  obtain ⟨w3, hw3⟩ : ∃ w3, w3 = w.alloc (Obj.cells #[.slice none 0 0, .slice none 0 0, .slice none 0 0] 32) := ⟨_, rfl⟩
  rw [← hw3] at bR hA0 ⊢
  have HB3 := Lib.hid hA0
  have HR3 := Lib.hid bR
  have lR3 := bR.lt
  clear hw3 bR hA0
  refine region_manyL (G := CnmG w.heap.size n1 c1 A1 c w3.heap.size w3) 7 (by kernel_rfl) (by kernel_rfl) ⟨_, _, _, _, _, _, _, rfl, ⟨(Below.refl _ _).drew, fun h => (by cases h), fun h => (by cases h), fun h => (by cases h), fun h => (by cases h), fun h => (by cases h), fun h => (by cases h), fun h => (by cases h)⟩⟩ ?_ ?_
  · intro i hi L a wq h1 h2c h3 hG
    obtain ⟨u7, u8, u9, u10, u11, u12, u3, rfl, hV⟩ := hG
    have hszq : w3.heap.size ≤ wq.heap.size := hV.bel.size
    rcases (by omega : i = 0 ∨ i = 1 ∨ i = 2 ∨ i = 3 ∨ i = 4 ∨ i = 5 ∨ i = 6) with rfl | rfl | rfl | rfl | rfl | rfl | rfl
    · have hTq := HT.out.below (HB3.out.trans (hV.bel.mono HB3.out.size)) HT.out.lt
      simp only [pick, List.map_cons, List.map_nil, List.getD_cons_zero, List.getD_cons_succ]
      go_wp2_with fail
      refine (HW.out wq hTq).mono ?_
      rintro e w4 ⟨⟨Ax, nx, kx, rfl, lx, cx, qx⟩, hbN⟩
      go_wp2
      exact ⟨_, _, _, _, _, _, _, rfl, ⟨hV.bel.trans (hbN.mono hszq), fun _ => ⟨_, _, _, rfl, lx, cx, qx⟩, fun h => (hV.f1 (by rwa [markL_ne _ (show 1 ≠ 0 by decide)] at h)).imp fun A ⟨n, k, e, l, c, q⟩ => ⟨n, k, e, l, c, q.kc (Kc.below (T := fun _ => False) hbN) id⟩, fun h => (hV.f2 (by rwa [markL_ne _ (show 2 ≠ 0 by decide)] at h)).imp fun A ⟨n, k, e, l, c, q⟩ => ⟨n, k, e, l, c, q.kc (Kc.below (T := fun _ => False) hbN) id⟩, fun h => (hV.f3 (by rwa [markL_ne _ (show 3 ≠ 0 by decide)] at h)).imp fun g ⟨e, l, q⟩ => ⟨e, l, q.kc (Kc.below (T := fun _ => False) hbN) id⟩, fun h => (hV.f4 (by rwa [markL_ne _ (show 4 ≠ 0 by decide)] at h)).imp fun g ⟨e, l, q⟩ => ⟨e, l, q.kc (Kc.below (T := fun _ => False) hbN) id⟩, fun h => (by rw [markL_ne _ (show 5 ≠ 0 by decide)] at h; have := h2c 5 h 0 (mem_ofM (by kernel_rfl)); rw [h1] at this; cases this), fun h => (hV.f6 (by rwa [markL_ne _ (show 6 ≠ 0 by decide)] at h)).imp fun g ⟨e, l, q⟩ => ⟨e, l, q.kc (Kc.below (T := fun _ => False) hbN) id⟩⟩⟩
    · obtain ⟨Aq0, nq0, kq0, e0, l0, cq0, b0⟩ := hV.f0 (h3 0 (mem_ofM (by kernel_rfl)))
      subst e0
      have hTq := HT.out.below (HB3.out.trans (hV.bel.mono HB3.out.size)) HT.out.lt
      simp only [pick, List.map_cons, List.map_nil, List.getD_cons_zero, List.getD_cons_succ]
      go_wp2_with fail
      refine (HAd.out wq hTq).mono ?_
      rintro e w4 ⟨⟨Ax, nx, kx, rfl, lx, cx, qx⟩, hbN⟩
      go_wp2
      exact ⟨_, _, _, _, _, _, _, rfl, ⟨hV.bel.trans (hbN.mono hszq), fun h => (hV.f0 (by rwa [markL_ne _ (show 0 ≠ 1 by decide)] at h)).imp fun A ⟨n, k, e, l, c, q⟩ => ⟨n, k, e, l, c, q.kc (Kc.below (T := fun _ => False) hbN) id⟩, fun _ => ⟨_, _, _, rfl, lx, cx, qx⟩, fun h => (hV.f2 (by rwa [markL_ne _ (show 2 ≠ 1 by decide)] at h)).imp fun A ⟨n, k, e, l, c, q⟩ => ⟨n, k, e, l, c, q.kc (Kc.below (T := fun _ => False) hbN) id⟩, fun h => (by rw [markL_ne _ (show 3 ≠ 1 by decide)] at h; have := h2c 3 h 1 (mem_ofM (by kernel_rfl)); rw [h1] at this; cases this), fun h => (hV.f4 (by rwa [markL_ne _ (show 4 ≠ 1 by decide)] at h)).imp fun g ⟨e, l, q⟩ => ⟨e, l, q.kc (Kc.below (T := fun _ => False) hbN) id⟩, fun h => hV.f5 (by rwa [markL_ne _ (show 5 ≠ 1 by decide)] at h), fun h => (hV.f6 (by rwa [markL_ne _ (show 6 ≠ 1 by decide)] at h)).imp fun g ⟨e, l, q⟩ => ⟨e, l, q.kc (Kc.below (T := fun _ => False) hbN) id⟩⟩⟩
    · obtain ⟨Aq1, nq1, kq1, e1, l1, cq1, b1⟩ := hV.f1 (h3 1 (mem_ofM (by kernel_rfl)))
      subst e1
      have hTq := HT.out.below (HB3.out.trans (hV.bel.mono HB3.out.size)) HT.out.lt
      simp only [pick, List.map_cons, List.map_nil, List.getD_cons_zero, List.getD_cons_succ]
      go_wp2_with fail
      refine (HGe.out wq hTq).mono ?_
      rintro e w4 ⟨⟨Ax, nx, kx, rfl, lx, cx, qx⟩, hbN⟩
      go_wp2
      exact ⟨_, _, _, _, _, _, _, rfl, ⟨hV.bel.trans (hbN.mono hszq), fun h => (hV.f0 (by rwa [markL_ne _ (show 0 ≠ 2 by decide)] at h)).imp fun A ⟨n, k, e, l, c, q⟩ => ⟨n, k, e, l, c, q.kc (Kc.below (T := fun _ => False) hbN) id⟩, fun h => (hV.f1 (by rwa [markL_ne _ (show 1 ≠ 2 by decide)] at h)).imp fun A ⟨n, k, e, l, c, q⟩ => ⟨n, k, e, l, c, q.kc (Kc.below (T := fun _ => False) hbN) id⟩, fun _ => ⟨_, _, _, rfl, lx, cx, qx⟩, fun h => (by rw [markL_ne _ (show 3 ≠ 2 by decide)] at h; have := h2c 3 h 2 (mem_ofM (by kernel_rfl)); rw [h1] at this; cases this), fun h => (hV.f4 (by rwa [markL_ne _ (show 4 ≠ 2 by decide)] at h)).imp fun g ⟨e, l, q⟩ => ⟨e, l, q.kc (Kc.below (T := fun _ => False) hbN) id⟩, fun h => hV.f5 (by rwa [markL_ne _ (show 5 ≠ 2 by decide)] at h), fun h => (hV.f6 (by rwa [markL_ne _ (show 6 ≠ 2 by decide)] at h)).imp fun g ⟨e, l, q⟩ => ⟨e, l, q.kc (Kc.below (T := fun _ => False) hbN) id⟩⟩⟩
    · obtain ⟨Aq1, nq1, kq1, e1, l1, cq1, b1⟩ := hV.f1 (h3 1 (mem_ofM (by kernel_rfl)))
      subst e1
      obtain ⟨Aq2, nq2, kq2, e2, l2, cq2, b2⟩ := hV.f2 (h3 2 (mem_ofM (by kernel_rfl)))
      subst e2
      simp only [pick, List.map_cons, List.map_nil, List.getD_cons_zero, List.getD_cons_succ]
      go_wp2
      have hNew := Box.newAt wq 24 [.slice Aq1 nq1 kq1, .slice Aq2 nq2 kq2] wq.heap.size rfl
      have hbN := (Below.refl wq.heap.size wq).alloc (Nat.le_refl _) (Obj.cells #[.slice Aq1 nq1 kq1, .slice Aq2 nq2 kq2] 24)
      exact ⟨_, _, _, _, _, _, _, rfl, ⟨hV.bel.trans (hbN.mono hszq), fun h => (hV.f0 (by rwa [markL_ne _ (show 0 ≠ 3 by decide)] at h)).imp fun A ⟨n, k, e, l, c, q⟩ => ⟨n, k, e, l, c, q.kc (Kc.below (T := fun _ => False) hbN) id⟩, fun h => (hV.f1 (by rwa [markL_ne _ (show 1 ≠ 3 by decide)] at h)).imp fun A ⟨n, k, e, l, c, q⟩ => ⟨n, k, e, l, c, q.kc (Kc.below (T := fun _ => False) hbN) id⟩, fun h => (hV.f2 (by rwa [markL_ne _ (show 2 ≠ 3 by decide)] at h)).imp fun A ⟨n, k, e, l, c, q⟩ => ⟨n, k, e, l, c, q.kc (Kc.below (T := fun _ => False) hbN) id⟩, fun _ => ⟨_, rfl, hszq, hNew⟩, fun h => (hV.f4 (by rwa [markL_ne _ (show 4 ≠ 3 by decide)] at h)).imp fun g ⟨e, l, q⟩ => ⟨e, l, q.kc (Kc.below (T := fun _ => False) hbN) id⟩, fun h => (by rw [markL_ne _ (show 5 ≠ 3 by decide)] at h; have := h2c 5 h 3 (mem_ofM (by kernel_rfl)); rw [h1] at this; cases this), fun h => (hV.f6 (by rwa [markL_ne _ (show 6 ≠ 3 by decide)] at h)).imp fun g ⟨e, l, q⟩ => ⟨e, l, q.kc (Kc.below (T := fun _ => False) hbN) id⟩⟩⟩
    · simp only [pick, List.map_cons, List.map_nil, List.getD_cons_zero, List.getD_cons_succ]
      go_wp2_with (at_make; refine make_all eltThr _ rfl _ _ rfl wq.heap.size _ _ _ _ 3 rfl rfl rfl rfl (by omega) (by omega) (Nat.le_refl _) ?_; intro w4 hown4 hbel4 hsz4 hgr4)
      have hNew := (own_boxS hown4).1
      rw [madeCells_one _ rfl] at hNew
      have hbN := hbel4 wq (Below.refl _ _)
      exact ⟨_, _, _, _, _, _, _, rfl, ⟨hV.bel.trans (hbN.mono hszq), fun h => (hV.f0 (by rwa [markL_ne _ (show 0 ≠ 4 by decide)] at h)).imp fun A ⟨n, k, e, l, c, q⟩ => ⟨n, k, e, l, c, q.kc (Kc.below (T := fun _ => False) hbN) id⟩, fun h => (hV.f1 (by rwa [markL_ne _ (show 1 ≠ 4 by decide)] at h)).imp fun A ⟨n, k, e, l, c, q⟩ => ⟨n, k, e, l, c, q.kc (Kc.below (T := fun _ => False) hbN) id⟩, fun h => (hV.f2 (by rwa [markL_ne _ (show 2 ≠ 4 by decide)] at h)).imp fun A ⟨n, k, e, l, c, q⟩ => ⟨n, k, e, l, c, q.kc (Kc.below (T := fun _ => False) hbN) id⟩, fun h => (hV.f3 (by rwa [markL_ne _ (show 3 ≠ 4 by decide)] at h)).imp fun g ⟨e, l, q⟩ => ⟨e, l, q.kc (Kc.below (T := fun _ => False) hbN) id⟩, fun _ => ⟨_, rfl, hszq, hNew⟩, fun h => (by rw [markL_ne _ (show 5 ≠ 4 by decide)] at h; have := h2c 5 h 4 (mem_ofM (by kernel_rfl)); rw [h1] at this; cases this), fun h => (hV.f6 (by rwa [markL_ne _ (show 6 ≠ 4 by decide)] at h)).imp fun g ⟨e, l, q⟩ => ⟨e, l, q.kc (Kc.below (T := fun _ => False) hbN) id⟩⟩⟩
    · obtain ⟨Aq0, nq0, kq0, e0, l0, cq0, b0⟩ := hV.f0 (h3 0 (mem_ofM (by kernel_rfl)))
      subst e0
      obtain ⟨g3, e3, l3, b3⟩ := hV.f3 (h3 3 (mem_ofM (by kernel_rfl)))
      subst e3
      obtain ⟨g4, e4, l4, b4⟩ := hV.f4 (h3 4 (mem_ofM (by kernel_rfl)))
      subst e4
      simp only [pick, List.map_cons, List.map_nil, List.getD_cons_zero, List.getD_cons_succ]
      go_wp2
      exact ⟨_, _, _, _, _, _, _, rfl, ⟨hV.bel, fun h => hV.f0 (by rwa [markL_ne _ (show 0 ≠ 5 by decide)] at h), fun h => hV.f1 (by rwa [markL_ne _ (show 1 ≠ 5 by decide)] at h), fun h => hV.f2 (by rwa [markL_ne _ (show 2 ≠ 5 by decide)] at h), fun h => hV.f3 (by rwa [markL_ne _ (show 3 ≠ 5 by decide)] at h), fun h => hV.f4 (by rwa [markL_ne _ (show 4 ≠ 5 by decide)] at h), fun _ => rfl, fun h => hV.f6 (by rwa [markL_ne _ (show 6 ≠ 5 by decide)] at h)⟩⟩
    · simp only [pick, List.map_cons, List.map_nil, List.getD_cons_zero, List.getD_cons_succ]
      go_wp2
      have hNew := Box.newAt wq 32 [.slice none 0 0, .slice none 0 0, .slice none 0 0] wq.heap.size rfl
      have hbN := (Below.refl wq.heap.size wq).alloc (Nat.le_refl _) (Obj.cells #[.slice none 0 0, .slice none 0 0, .slice none 0 0] 32)
      exact ⟨_, _, _, _, _, _, _, rfl, ⟨hV.bel.trans (hbN.mono hszq), fun h => (hV.f0 (by rwa [markL_ne _ (show 0 ≠ 6 by decide)] at h)).imp fun A ⟨n, k, e, l, c, q⟩ => ⟨n, k, e, l, c, q.kc (Kc.below (T := fun _ => False) hbN) id⟩, fun h => (hV.f1 (by rwa [markL_ne _ (show 1 ≠ 6 by decide)] at h)).imp fun A ⟨n, k, e, l, c, q⟩ => ⟨n, k, e, l, c, q.kc (Kc.below (T := fun _ => False) hbN) id⟩, fun h => (hV.f2 (by rwa [markL_ne _ (show 2 ≠ 6 by decide)] at h)).imp fun A ⟨n, k, e, l, c, q⟩ => ⟨n, k, e, l, c, q.kc (Kc.below (T := fun _ => False) hbN) id⟩, fun h => (hV.f3 (by rwa [markL_ne _ (show 3 ≠ 6 by decide)] at h)).imp fun g ⟨e, l, q⟩ => ⟨e, l, q.kc (Kc.below (T := fun _ => False) hbN) id⟩, fun h => (hV.f4 (by rwa [markL_ne _ (show 4 ≠ 6 by decide)] at h)).imp fun g ⟨e, l, q⟩ => ⟨e, l, q.kc (Kc.below (T := fun _ => False) hbN) id⟩, fun h => hV.f5 (by rwa [markL_ne _ (show 5 ≠ 6 by decide)] at h), fun _ => ⟨_, rfl, hszq, hNew⟩⟩⟩
  · intro L a wq hall hG
    obtain ⟨u7, u8, u9, u10, u11, u12, u3, rfl, hV⟩ := hG
    obtain ⟨Aq0, nq0, kq0, e0, l0, cq0, b0⟩ := hV.f0 (hall 0 (by omega))
    subst e0
    obtain ⟨Aq1, nq1, kq1, e1, l1, cq1, b1⟩ := hV.f1 (hall 1 (by omega))
    subst e1
    obtain ⟨Aq2, nq2, kq2, e2, l2, cq2, b2⟩ := hV.f2 (hall 2 (by omega))
    subst e2
    obtain ⟨g3, e3, l3, b3⟩ := hV.f3 (hall 3 (by omega))
    subst e3
    obtain ⟨g4, e4, l4, b4⟩ := hV.f4 (hall 4 (by omega))
    subst e4
    have e5 := hV.f5 (hall 5 (by omega))
    subst e5
    obtain ⟨g6, e6, l6, b6⟩ := hV.f6 (hall 6 (by omega))
    subst e6
    have hbQ := hV.bel
    clear hV
    simp only [pick, List.map_cons, List.map_nil, List.getD_cons_zero, List.getD_cons_succ]
    refine store_box rfl rfl 32 (.tmp 3) (.tmp 12) rfl g6 [.slice Aq0 nq0 kq0, .slice (some ⟨g3, 0, none⟩) 2 2, .slice (some ⟨g4, 0, none⟩) 3 3] rfl rfl 32 [.slice none 0 0, .slice none 0 0, .slice none 0 0] b6 (by kernel_rfl) rfl (by intro v hv; simp only [List.mem_cons, List.not_mem_nil, or_false] at hv; rcases hv with rfl | rfl | rfl <;> rfl) ?_
    intro w5 HBS hgS
    go_wp2
    have hb3S : Below w3.heap.size w3 w5 := hbQ.grown hgS hbQ.size (fun k hk => by cases hk; exact l6)
    have hkS : Kc tMach wq w5 := Kc.grown hgS (fun b cs t fr he hh => by
      injection he with he
      subst he
      have h6 := b6
      unfold Box at h6
      rw [h6] at hh
      injection hh with hh
      injection hh with _ hh
      exact hh.symm)
    have HQ0 := Lib.hid (b0.kc hkS (by unfold tMach; decide))
    have HQ1 := Lib.hid (b1.kc hkS (by unfold tMach; decide))
    have HQ2 := Lib.hid (b2.kc hkS (by unfold tMach; decide))
    have HQ3 := Lib.hid (b3.kc hkS (by unfold tMach; decide))
    have HMg5 := Lib.hid (Mg.made w5 3 41 42 (nt := 3) (B := w3.heap.size) (b4.kc hkS (by unfold tMach; decide)) l4)
    have HBw := Lib.hid (HB3.out.trans (hb3S.mono HB3.out.size))
    have HRw := Lib.hid (HR3.out.below hb3S lR3)
    have HL6 := Lib.hid l6
    have HL4 := Lib.hid l4
    have HL3 := Lib.hid l3
    have HLc := Lib.hid (And.intro l0 (And.intro cq0 (And.intro l1 l2)))
    clear b0 b1 b2 b3 b4 b6 hkS hb3S hbQ hgS l3 l4 l6 l0 cq0 l1 cq1 l2 cq2
    go_loopw [4] (fun v wr => ∃ (i : Nat) (tg : Nat → Nat) (ts : Nat → Value), i ≤ 9 ∧ v = .int .i64 i ∧ Hid (Mg 3 41 42 tg wr w3.heap.size g4 3 ts (cntJ x1 i)) ∧ Hid (Kc tCall w5 wr) ∧ Below w.heap.size w wr) (fun v _ => 9 - (intOf v).toNat)
    case atStart => exact ⟨0, _, _, Nat.zero_le _, rfl, (by have := HMg5.out; show Mg _ _ _ _ _ _ _ _ _ _; rw [show cntJ x1 0 = fun _ => ([] : List Cl) by funext q; simp [cntJ]]; exact this), Kc.refl _ _, HBw.out⟩
    case round =>
      obtain ⟨i, tg, ts, hi, rfl, HMg, HK, hbel⟩ := hrel
      have hszr := hbel.size
      by_cases hi9 : i < 9
      · have hcn := cntC_mem x1 i
        obtain ⟨t, ht⟩ : ∃ t, t = i % 3 := ⟨_, rfl⟩
        have ht3 : t < 3 := by omega
        have htI : (i : Int) % 3 = (t : Int) := by omega
        have Ht := Lib.hid ht.symm
        obtain ⟨gc, hgc⟩ : ∃ gc, gc = wr.heap.size := ⟨_, rfl⟩
        have Hgc := Lib.hid hgc
        clear ht hgc
        by_cases hin : i < n1
        · obtain ⟨ob, oo, x, rfl, hbB, c0, HX, hxm⟩ := (HX1.out.below hbel).val hin
          have hbs : ob < wr.heap.size := by omega
          have HCx : Hid (cntN x1 i = x % 6) := by show _ = _; unfold cntN; rw [HX.out]; rfl
          go_wp2_with fail
          refine (keep_Picked _ _ _ (by omega) (by omega)).mono ?_
          rintro e w' ⟨rfl, rfl⟩
          obtain ⟨p, hp⟩ : ∃ p, p = x % 6 := ⟨_, rfl⟩
          have hp0 : 0 ≤ p := by omega
          have hp6 : p < 6 := by omega
          rw [← hp] at HCx ⊢
          clear hp
          by_cases hpp : 0 < p
          · have HCN : Hid (cntC x1 i = ⟨0, [p]⟩) := by show _ = _; unfold cntC; rw [HCx.out, if_pos hpp]
            go_wp2
            have b1 := Box.newAt wr 41 [.int .i64 0, .slice (some ⟨wr.heap.size + 1, 0, none⟩) 1 1] wr.heap.size rfl
            have hb1 := (Below.refl wr.heap.size wr).alloc (Nat.le_refl _) (Obj.cells #[.int .i64 0, .slice (some ⟨wr.heap.size + 1, 0, none⟩) 1 1] 41)
            have b2 := QT.box (s := 1) (n := 1) (Box.newAt (wr.alloc (Obj.cells #[.int .i64 0, .slice (some ⟨wr.heap.size + 1, 0, none⟩) 1 1] 41)) 3 [.int .i64 p] (wr.heap.size + 1) (by simp)) rfl
            have b1 := b1.alloc (Obj.cells #[.int .i64 p] 3)
            have hb1 := hb1.alloc hb1.size (Obj.cells #[.int .i64 p] 3)
            obtain ⟨wT, hwn⟩ : ∃ W, W = (wr.alloc (Obj.cells #[.int .i64 0, .slice (some ⟨wr.heap.size + 1, 0, none⟩) 1 1] 41)).alloc (Obj.cells #[.int .i64 p] 3) := ⟨_, rfl⟩
            rw [← hwn] at b1 hb1 b2 ⊢
            have HMg0 := Lib.hid (HMg.out.below hb1)
            have HK0 := Lib.hid (HK.out.trans (Kc.below (T := tCall) hb1))
            have hbel0 := hbel.trans (hb1.mono hszr)
            have BM := Lib.hid (HBS.out.kc HK0.out tCall_mach)
            have hszT := hb1.size
            rw [← Hgc.out] at b1 b2 ⊢
            have HQL := Lib.hid b2
            clear b2
            have x0 : wT.cell? ⟨gc, 0, none⟩ = _ := b1.cell 0
            have x1c : wT.cell? ⟨gc, 1, none⟩ = _ := b1.cell 1
            simp only [List.getElem?_cons_zero, List.getElem?_cons_succ] at x0 x1c
            have lgc := b1.lt
            clear hwn b1 hb1
            have HSZ := Lib.hid HB3.out.size
            have hB4 := HL4.out
            obtain ⟨T0, hT0⟩ : ∃ T0, T0 = cntJ x1 i := ⟨_, rfl⟩
            obtain ⟨L0, hL0⟩ : ∃ L0, L0 = T0 t := ⟨_, rfl⟩
            obtain ⟨J, hJ⟩ : ∃ J, J = L0.length := ⟨_, rfl⟩
            have hJ9 : J ≤ 9 := by rw [hJ, hL0, hT0]; exact cntJ_len hi
            have HT0 : Hid (T0 t = L0) := hL0.symm
            have HJ0 : Hid (L0.length = J) := hJ.symm
            have HTT := Lib.hid hT0
            rw [← hT0] at HMg0
            clear hT0 hL0 hJ HMg HK hbel hcn
            obtain ⟨rows1, r1, r2, r3, r4⟩ := HMg0.out.row t ht3
            have r3q := r3
            rw [HT0.out, HJ0.out] at r3q
            obtain ⟨Aq1, cq1, hts, hlq⟩ := own_form r3q
            have z2 : wT.cell? ⟨g6, 2, none⟩ = _ := BM.out.cell 2
            have y0 : wT.cell? ⟨g4, t, none⟩ = some (.slice Aq1 J cq1) := by
              have := HMg0.out.thr.cell t
              rw [range_at _ ht3, hts] at this
              exact this
            have l6 := HMg0.out.thr.lt
            have lM := BM.out.lt
            have g0 := HMg0.out.thr.frozen t
            have HTS1 := Lib.hid hts
            have R11 := Lib.hid r1
            have R21 := Lib.hid r2
            have R31 := Lib.hid r3
            have R3q1 := Lib.hid r3q
            have R41 := Lib.hid r4
            simp only [List.getElem?_cons_zero, List.getElem?_cons_succ] at z2
            clear hts r1 r2 r3 r4 r3q
            go_wp2
            refine region_firstG (Kc tCall) (gok_kc tCall) [0, 1, 3] [2, 4, 5, 6, 7, 8, 9, 10] (.cons 0 (.cons 1 (.cons 3 (.cons 11 (.cons 12 (seq [13] (.cons 14 .nil))))))) (by kernel_rfl) (by kernel_rfl) ?_
            simp only [pick, List.map_cons, List.map_nil, List.getD_cons_zero, List.getD_cons_succ]
            go_wp2
            refine ord_blindG (.pointer (some ⟨g6, 2, none⟩)) (by kernel_rfl) ?_ ?_
            · intro w' _
              simp only [List.getD_cons_zero, List.getD_cons_succ]
              go_simp
            refine ord_blindG (.slice (some ⟨g4, 0, none⟩) 3 3) (by kernel_rfl) ?_ ?_
            · intro w' hk
              have zz := (Box.kc (w := wT.drew) BM.out hk tCall_mach).cell 2
              simp only [List.getElem?_cons_zero, List.getElem?_cons_succ] at zz
              simp only [List.getD_cons_zero, List.getD_cons_succ]
              go_simp
            refine ord_blindG (.int .i64 (t : Int)) (by kernel_rfl) ?_ ?_
            · intro w' _
              simp only [List.getD_cons_zero, List.getD_cons_succ]
              go_simp
              exact (Int.tmod_eq_emod_of_nonneg (by omega)).trans htI
            refine ord_callG (by kernel_rfl) ?_
            simp only [pick, List.map_cons, List.map_nil, List.getD_cons_zero, List.getD_cons_succ]
            go_wp2
            refine ⟨ext_below ((Below.refl _ _).alloc (Nat.le_refl _) _), ?_⟩
            have HMl1 := HMg0
            have HR3q1 := R3q1
            have RL1 := Lib.hid (HR3q1.out.alloc (.cells #[.int .i64 0, .slice (some ⟨gc + 1, 0, none⟩) 1 1] 41))
            rw [HTS1.out] at RL1
            refine ord_finG (by kernel_rfl) ?_
            simp only [pick, List.map_cons, List.map_nil, List.getD_cons_zero, List.getD_cons_succ]
            go_wp2_with (at_builtin; go_must (refine app_litBd eltCall wT rfl (.tmp 41) (.tmp 43) rfl (w3.heap.size) _ J rows1.flatten rfl (by rw [← HTS1.out]; exact HR3q1.out) 1 [.int .i64 0, .slice (some ⟨gc + 1, 0, none⟩) 1 1] wT.heap.size (by first | rfl | simp) rfl rfl (by intro u hu; simp only [List.mem_cons, List.not_mem_nil, or_false] at hu; rcases hu with rfl | rfl <;> rfl) (by omega) (by omega) (by first | omega | (simp; omega)) ?_); intro v8 w8 own8 g8 hv8)
            obtain ⟨A81, c81, rfl, hc8⟩ := own_form own8
            have hK8 : Kc tCall (wT.alloc (.cells #[.int .i64 0, .slice (some ⟨gc + 1, 0, none⟩) 1 1] 41)).drew w8 := Kc.grown ⟨g8.os, g8.tape, g8.output, g8.size, g8.block⟩ (fun b cs t fr he hh => .inl (own_same RL1.out he hh))
            have hne6 := Box.ne (HMl1.out.thr.alloc (.cells #[.int .i64 0, .slice (some ⟨gc + 1, 0, none⟩) 1 1] 41)) RL1.out (by decide)
            have b68 := (HMl1.out.thr.alloc (.cells #[.int .i64 0, .slice (some ⟨gc + 1, 0, none⟩) 1 1] 41)).grown g8 hne6
            obtain ⟨tg1, hMg', hKc', hBel'⟩ := HMl1.out.call (q := t) (c := ⟨0, [p]⟩) ht3 ⟨by decide, by decide, by decide⟩ (rows := rows1) R11.out R21.out R41.out R31.out ⟨some ⟨gc + 1, 0, none⟩, 1, 1, rfl, Nat.le_refl _, HQL.out⟩ own8 (by rw [HT0.out, HJ0.out]) (by rw [HTS1.out]; exact g8) (by rw [HTS1.out]; exact hv8)
            have HMg' := Lib.hid hMg'
            have HKc' := Lib.hid hKc'
            have hbel1a := hbel0
            have HBel' := Lib.hid (hBel' w w.heap.size (by have := HSZ.out; omega) (by first | omega | (simp; omega)) hbel1a)
            have y8 : w8.cell? ⟨g4, t, none⟩ = some (.slice Aq1 J cq1) := by
              have := b68.cell t
              rw [range_at _ ht3, HTS1.out] at this
              exact this
            have f8 := b68.frozen t
            have H68 := Lib.hid b68
            clear hMg' hKc' hBel' b68 own8 g8 hv8 hne6 z2 y0 g0
            refine ⟨hK8, ?_⟩
            refine ord_moreG [13] _ (by kernel_rfl) ?_
            simp only [pick, List.map_cons, List.map_nil, List.getD_cons_zero, List.getD_cons_succ]
            go_wp2
            refine ord_finG (by kernel_rfl) ?_
            simp only [pick, List.map_cons, List.map_nil, List.getD_cons_zero, List.getD_cons_succ]
            go_wp2
            have hK9 : Kc tCall w8 (w8.setCell ⟨g4, t, none⟩ (.slice A81 (J + 1) c81)) := Kc.grown (grown_setCell w8 ⟨g4, t, none⟩ _) (fun b cs t fr he hh => by
              injection he with he
              subst he
              have h6 := H68.out
              unfold Box at h6
              rw [h6] at hh
              injection hh with hh
              injection hh with _ hh
              exact .inr hh.symm)
            refine ⟨hK9, ord_doneG ?_⟩
            obtain ⟨W1, hW1⟩ : ∃ W, W = w8.setCell ⟨g4, t, none⟩ (.slice A81 (J + 1) c81) := ⟨_, rfl⟩
            rw [← hW1]
            have HMg1 := HMg'
            have HK1 := Lib.hid (HK0.out.trans HKc'.out)
            have hbel1 := HBel'.out
            rw [← hW1] at HMg1 HK1 hbel1
            clear HMg' HKc' HBel' hK9 H68 y8 f8 hK8 hW1 R11 R21 R31 R3q1 R41 RL1 HTS1 HMl1 HR3q1
            go_wp2
            go_roundw
            case rel =>
              have h9 : Hid (Mg 3 41 42 tg1 W1 w3.heap.size g4 3 _ (cntJ x1 (i + 1))) := HMg1.out.congr (fun q hq => by
                rw [cntJ_succ, ← HTT.out, Ht.out, HCN.out]
                by_cases hqt : q = t
                · subst hqt; rw [if_pos rfl]
                · rw [if_neg hqt, if_neg (fun e => hqt e.symm)])
              exact ⟨i + 1, tg1, _, by omega, by go_num, h9, HK1, hbel1⟩
            case measure => simp [intOf]; omega
          · obtain rfl : p = 0 := by omega
            have HCN : Hid (cntC x1 i = ⟨1, []⟩) := by show _ = _; unfold cntC; rw [HCx.out]; rfl
            go_wp2
            have b1 := Box.newAt wr 41 [.int .i64 1, .slice none 0 0] wr.heap.size rfl
            have hb1 := (Below.refl wr.heap.size wr).alloc (Nat.le_refl _) (Obj.cells #[.int .i64 1, .slice none 0 0] 41)
            obtain ⟨wS, hwn⟩ : ∃ W, W = wr.alloc (Obj.cells #[.int .i64 1, .slice none 0 0] 41) := ⟨_, rfl⟩
            rw [← hwn] at b1 hb1 ⊢
            have HMg0 := Lib.hid (HMg.out.below hb1)
            have HK0 := Lib.hid (HK.out.trans (Kc.below (T := tCall) hb1))
            have hbel0 := hbel.trans (hb1.mono hszr)
            have BM := Lib.hid (HBS.out.kc HK0.out tCall_mach)
            have hszT := hb1.size
            rw [← Hgc.out] at b1 ⊢
            have x0 : wS.cell? ⟨gc, 0, none⟩ = _ := b1.cell 0
            have x1c : wS.cell? ⟨gc, 1, none⟩ = _ := b1.cell 1
            simp only [List.getElem?_cons_zero, List.getElem?_cons_succ] at x0 x1c
            have lgc := b1.lt
            clear hwn b1 hb1
            have HSZ := Lib.hid HB3.out.size
            have hB4 := HL4.out
            obtain ⟨T0, hT0⟩ : ∃ T0, T0 = cntJ x1 i := ⟨_, rfl⟩
            obtain ⟨L0, hL0⟩ : ∃ L0, L0 = T0 t := ⟨_, rfl⟩
            obtain ⟨J, hJ⟩ : ∃ J, J = L0.length := ⟨_, rfl⟩
            have hJ9 : J ≤ 9 := by rw [hJ, hL0, hT0]; exact cntJ_len hi
            have HT0 : Hid (T0 t = L0) := hL0.symm
            have HJ0 : Hid (L0.length = J) := hJ.symm
            have HTT := Lib.hid hT0
            rw [← hT0] at HMg0
            clear hT0 hL0 hJ HMg HK hbel hcn
            obtain ⟨rows1, r1, r2, r3, r4⟩ := HMg0.out.row t ht3
            have r3q := r3
            rw [HT0.out, HJ0.out] at r3q
            obtain ⟨Aq1, cq1, hts, hlq⟩ := own_form r3q
            have z2 : wS.cell? ⟨g6, 2, none⟩ = _ := BM.out.cell 2
            have y0 : wS.cell? ⟨g4, t, none⟩ = some (.slice Aq1 J cq1) := by
              have := HMg0.out.thr.cell t
              rw [range_at _ ht3, hts] at this
              exact this
            have l6 := HMg0.out.thr.lt
            have lM := BM.out.lt
            have g0 := HMg0.out.thr.frozen t
            have HTS1 := Lib.hid hts
            have R11 := Lib.hid r1
            have R21 := Lib.hid r2
            have R31 := Lib.hid r3
            have R3q1 := Lib.hid r3q
            have R41 := Lib.hid r4
            simp only [List.getElem?_cons_zero, List.getElem?_cons_succ] at z2
            clear hts r1 r2 r3 r4 r3q
            go_wp2
            refine region_firstG (Kc tCall) (gok_kc tCall) [0, 1, 3] [2, 4, 5, 6, 7, 8, 9, 10] (.cons 0 (.cons 1 (.cons 3 (.cons 11 (.cons 12 (seq [13] (.cons 14 .nil))))))) (by kernel_rfl) (by kernel_rfl) ?_
            simp only [pick, List.map_cons, List.map_nil, List.getD_cons_zero, List.getD_cons_succ]
            go_wp2
            refine ord_blindG (.pointer (some ⟨g6, 2, none⟩)) (by kernel_rfl) ?_ ?_
            · intro w' _
              simp only [List.getD_cons_zero, List.getD_cons_succ]
              go_simp
            refine ord_blindG (.slice (some ⟨g4, 0, none⟩) 3 3) (by kernel_rfl) ?_ ?_
            · intro w' hk
              have zz := (Box.kc (w := wS.drew) BM.out hk tCall_mach).cell 2
              simp only [List.getElem?_cons_zero, List.getElem?_cons_succ] at zz
              simp only [List.getD_cons_zero, List.getD_cons_succ]
              go_simp
            refine ord_blindG (.int .i64 (t : Int)) (by kernel_rfl) ?_ ?_
            · intro w' _
              simp only [List.getD_cons_zero, List.getD_cons_succ]
              go_simp
              exact (Int.tmod_eq_emod_of_nonneg (by omega)).trans htI
            refine ord_callG (by kernel_rfl) ?_
            simp only [pick, List.map_cons, List.map_nil, List.getD_cons_zero, List.getD_cons_succ]
            go_wp2
            refine ⟨ext_below ((Below.refl _ _).alloc (Nat.le_refl _) _), ?_⟩
            have HMl1 := HMg0
            have HR3q1 := R3q1
            have RL1 := Lib.hid (HR3q1.out.alloc (.cells #[.int .i64 1, .slice none 0 0] 41))
            rw [HTS1.out] at RL1
            refine ord_finG (by kernel_rfl) ?_
            simp only [pick, List.map_cons, List.map_nil, List.getD_cons_zero, List.getD_cons_succ]
            go_wp2_with (at_builtin; go_must (refine app_litBd eltCall wS rfl (.tmp 41) (.tmp 43) rfl (w3.heap.size) _ J rows1.flatten rfl (by rw [← HTS1.out]; exact HR3q1.out) 1 [.int .i64 1, .slice none 0 0] wS.heap.size (by first | rfl | simp) rfl rfl (by intro u hu; simp only [List.mem_cons, List.not_mem_nil, or_false] at hu; rcases hu with rfl | rfl <;> rfl) (by omega) (by omega) (by first | omega | (simp; omega)) ?_); intro v8 w8 own8 g8 hv8)
            obtain ⟨A81, c81, rfl, hc8⟩ := own_form own8
            have hK8 : Kc tCall (wS.alloc (.cells #[.int .i64 1, .slice none 0 0] 41)).drew w8 := Kc.grown ⟨g8.os, g8.tape, g8.output, g8.size, g8.block⟩ (fun b cs t fr he hh => .inl (own_same RL1.out he hh))
            have hne6 := Box.ne (HMl1.out.thr.alloc (.cells #[.int .i64 1, .slice none 0 0] 41)) RL1.out (by decide)
            have b68 := (HMl1.out.thr.alloc (.cells #[.int .i64 1, .slice none 0 0] 41)).grown g8 hne6
            obtain ⟨tg1, hMg', hKc', hBel'⟩ := HMl1.out.call (q := t) (c := ⟨1, []⟩) ht3 ⟨by decide, by decide, by decide⟩ (rows := rows1) R11.out R21.out R41.out R31.out ⟨none, 0, 0, rfl, Nat.le_refl _, QT.nil _ _ _ _⟩ own8 (by rw [HT0.out, HJ0.out]) (by rw [HTS1.out]; exact g8) (by rw [HTS1.out]; exact hv8)
            have HMg' := Lib.hid hMg'
            have HKc' := Lib.hid hKc'
            have hbel1a := hbel0
            have HBel' := Lib.hid (hBel' w w.heap.size (by have := HSZ.out; omega) (by first | omega | (simp; omega)) hbel1a)
            have y8 : w8.cell? ⟨g4, t, none⟩ = some (.slice Aq1 J cq1) := by
              have := b68.cell t
              rw [range_at _ ht3, HTS1.out] at this
              exact this
            have f8 := b68.frozen t
            have H68 := Lib.hid b68
            clear hMg' hKc' hBel' b68 own8 g8 hv8 hne6 z2 y0 g0
            refine ⟨hK8, ?_⟩
            refine ord_moreG [13] _ (by kernel_rfl) ?_
            simp only [pick, List.map_cons, List.map_nil, List.getD_cons_zero, List.getD_cons_succ]
            go_wp2
            refine ord_finG (by kernel_rfl) ?_
            simp only [pick, List.map_cons, List.map_nil, List.getD_cons_zero, List.getD_cons_succ]
            go_wp2
            have hK9 : Kc tCall w8 (w8.setCell ⟨g4, t, none⟩ (.slice A81 (J + 1) c81)) := Kc.grown (grown_setCell w8 ⟨g4, t, none⟩ _) (fun b cs t fr he hh => by
              injection he with he
              subst he
              have h6 := H68.out
              unfold Box at h6
              rw [h6] at hh
              injection hh with hh
              injection hh with _ hh
              exact .inr hh.symm)
            refine ⟨hK9, ord_doneG ?_⟩
            obtain ⟨W1, hW1⟩ : ∃ W, W = w8.setCell ⟨g4, t, none⟩ (.slice A81 (J + 1) c81) := ⟨_, rfl⟩
            rw [← hW1]
            have HMg1 := HMg'
            have HK1 := Lib.hid (HK0.out.trans HKc'.out)
            have hbel1 := HBel'.out
            rw [← hW1] at HMg1 HK1 hbel1
            clear HMg' HKc' HBel' hK9 H68 y8 f8 hK8 hW1 R11 R21 R31 R3q1 R41 RL1 HTS1 HMl1 HR3q1
            go_wp2
            go_roundw
            case rel =>
              have h9 : Hid (Mg 3 41 42 tg1 W1 w3.heap.size g4 3 _ (cntJ x1 (i + 1))) := HMg1.out.congr (fun q hq => by
                rw [cntJ_succ, ← HTT.out, Ht.out, HCN.out]
                by_cases hqt : q = t
                · subst hqt; rw [if_pos rfl]
                · rw [if_neg hqt, if_neg (fun e => hqt e.symm)])
              exact ⟨i + 1, tg1, _, by omega, by go_num, h9, HK1, hbel1⟩
            case measure => simp [intOf]; omega
        · have HCN : Hid (cntC x1 i = ⟨1, []⟩) := by show _ = _; unfold cntC cntN; rw [List.getElem?_eq_none (by have := HXL.out; omega)]; rfl
          go_wp2
          have b1 := Box.newAt wr 41 [.int .i64 1, .slice none 0 0] wr.heap.size rfl
          have hb1 := (Below.refl wr.heap.size wr).alloc (Nat.le_refl _) (Obj.cells #[.int .i64 1, .slice none 0 0] 41)
          obtain ⟨wS, hwn⟩ : ∃ W, W = wr.alloc (Obj.cells #[.int .i64 1, .slice none 0 0] 41) := ⟨_, rfl⟩
          rw [← hwn] at b1 hb1 ⊢
          have HMg0 := Lib.hid (HMg.out.below hb1)
          have HK0 := Lib.hid (HK.out.trans (Kc.below (T := tCall) hb1))
          have hbel0 := hbel.trans (hb1.mono hszr)
          have BM := Lib.hid (HBS.out.kc HK0.out tCall_mach)
          have hszT := hb1.size
          rw [← Hgc.out] at b1 ⊢
          have x0 : wS.cell? ⟨gc, 0, none⟩ = _ := b1.cell 0
          have x1c : wS.cell? ⟨gc, 1, none⟩ = _ := b1.cell 1
          simp only [List.getElem?_cons_zero, List.getElem?_cons_succ] at x0 x1c
          have lgc := b1.lt
          clear hwn b1 hb1
          have HSZ := Lib.hid HB3.out.size
          have hB4 := HL4.out
          obtain ⟨T0, hT0⟩ : ∃ T0, T0 = cntJ x1 i := ⟨_, rfl⟩
          obtain ⟨L0, hL0⟩ : ∃ L0, L0 = T0 t := ⟨_, rfl⟩
          obtain ⟨J, hJ⟩ : ∃ J, J = L0.length := ⟨_, rfl⟩
          have hJ9 : J ≤ 9 := by rw [hJ, hL0, hT0]; exact cntJ_len hi
          have HT0 : Hid (T0 t = L0) := hL0.symm
          have HJ0 : Hid (L0.length = J) := hJ.symm
          have HTT := Lib.hid hT0
          rw [← hT0] at HMg0
          clear hT0 hL0 hJ HMg HK hbel hcn
          obtain ⟨rows1, r1, r2, r3, r4⟩ := HMg0.out.row t ht3
          have r3q := r3
          rw [HT0.out, HJ0.out] at r3q
          obtain ⟨Aq1, cq1, hts, hlq⟩ := own_form r3q
          have z2 : wS.cell? ⟨g6, 2, none⟩ = _ := BM.out.cell 2
          have y0 : wS.cell? ⟨g4, t, none⟩ = some (.slice Aq1 J cq1) := by
            have := HMg0.out.thr.cell t
            rw [range_at _ ht3, hts] at this
            exact this
          have l6 := HMg0.out.thr.lt
          have lM := BM.out.lt
          have g0 := HMg0.out.thr.frozen t
          have HTS1 := Lib.hid hts
          have R11 := Lib.hid r1
          have R21 := Lib.hid r2
          have R31 := Lib.hid r3
          have R3q1 := Lib.hid r3q
          have R41 := Lib.hid r4
          simp only [List.getElem?_cons_zero, List.getElem?_cons_succ] at z2
          clear hts r1 r2 r3 r4 r3q
          go_wp2
          refine region_firstG (Kc tCall) (gok_kc tCall) [0, 1, 3] [2, 4, 5, 6, 7, 8, 9, 10] (.cons 0 (.cons 1 (.cons 3 (.cons 11 (.cons 12 (seq [13] (.cons 14 .nil))))))) (by kernel_rfl) (by kernel_rfl) ?_
          simp only [pick, List.map_cons, List.map_nil, List.getD_cons_zero, List.getD_cons_succ]
          go_wp2
          refine ord_blindG (.pointer (some ⟨g6, 2, none⟩)) (by kernel_rfl) ?_ ?_
          · intro w' _
            simp only [List.getD_cons_zero, List.getD_cons_succ]
            go_simp
          refine ord_blindG (.slice (some ⟨g4, 0, none⟩) 3 3) (by kernel_rfl) ?_ ?_
          · intro w' hk
            have zz := (Box.kc (w := wS.drew) BM.out hk tCall_mach).cell 2
            simp only [List.getElem?_cons_zero, List.getElem?_cons_succ] at zz
            simp only [List.getD_cons_zero, List.getD_cons_succ]
            go_simp
          refine ord_blindG (.int .i64 (t : Int)) (by kernel_rfl) ?_ ?_
          · intro w' _
            simp only [List.getD_cons_zero, List.getD_cons_succ]
            go_simp
            exact (Int.tmod_eq_emod_of_nonneg (by omega)).trans htI
          refine ord_callG (by kernel_rfl) ?_
          simp only [pick, List.map_cons, List.map_nil, List.getD_cons_zero, List.getD_cons_succ]
          go_wp2
          refine ⟨ext_below ((Below.refl _ _).alloc (Nat.le_refl _) _), ?_⟩
          have HMl1 := HMg0
          have HR3q1 := R3q1
          have RL1 := Lib.hid (HR3q1.out.alloc (.cells #[.int .i64 1, .slice none 0 0] 41))
          rw [HTS1.out] at RL1
          refine ord_finG (by kernel_rfl) ?_
          simp only [pick, List.map_cons, List.map_nil, List.getD_cons_zero, List.getD_cons_succ]
          go_wp2_with (at_builtin; go_must (refine app_litBd eltCall wS rfl (.tmp 41) (.tmp 43) rfl (w3.heap.size) _ J rows1.flatten rfl (by rw [← HTS1.out]; exact HR3q1.out) 1 [.int .i64 1, .slice none 0 0] wS.heap.size (by first | rfl | simp) rfl rfl (by intro u hu; simp only [List.mem_cons, List.not_mem_nil, or_false] at hu; rcases hu with rfl | rfl <;> rfl) (by omega) (by omega) (by first | omega | (simp; omega)) ?_); intro v8 w8 own8 g8 hv8)
          obtain ⟨A81, c81, rfl, hc8⟩ := own_form own8
          have hK8 : Kc tCall (wS.alloc (.cells #[.int .i64 1, .slice none 0 0] 41)).drew w8 := Kc.grown ⟨g8.os, g8.tape, g8.output, g8.size, g8.block⟩ (fun b cs t fr he hh => .inl (own_same RL1.out he hh))
          have hne6 := Box.ne (HMl1.out.thr.alloc (.cells #[.int .i64 1, .slice none 0 0] 41)) RL1.out (by decide)
          have b68 := (HMl1.out.thr.alloc (.cells #[.int .i64 1, .slice none 0 0] 41)).grown g8 hne6
          obtain ⟨tg1, hMg', hKc', hBel'⟩ := HMl1.out.call (q := t) (c := ⟨1, []⟩) ht3 ⟨by decide, by decide, by decide⟩ (rows := rows1) R11.out R21.out R41.out R31.out ⟨none, 0, 0, rfl, Nat.le_refl _, QT.nil _ _ _ _⟩ own8 (by rw [HT0.out, HJ0.out]) (by rw [HTS1.out]; exact g8) (by rw [HTS1.out]; exact hv8)
          have HMg' := Lib.hid hMg'
          have HKc' := Lib.hid hKc'
          have hbel1a := hbel0
          have HBel' := Lib.hid (hBel' w w.heap.size (by have := HSZ.out; omega) (by first | omega | (simp; omega)) hbel1a)
          have y8 : w8.cell? ⟨g4, t, none⟩ = some (.slice Aq1 J cq1) := by
            have := b68.cell t
            rw [range_at _ ht3, HTS1.out] at this
            exact this
          have f8 := b68.frozen t
          have H68 := Lib.hid b68
          clear hMg' hKc' hBel' b68 own8 g8 hv8 hne6 z2 y0 g0
          refine ⟨hK8, ?_⟩
          refine ord_moreG [13] _ (by kernel_rfl) ?_
          simp only [pick, List.map_cons, List.map_nil, List.getD_cons_zero, List.getD_cons_succ]
          go_wp2
          refine ord_finG (by kernel_rfl) ?_
          simp only [pick, List.map_cons, List.map_nil, List.getD_cons_zero, List.getD_cons_succ]
          go_wp2
          have hK9 : Kc tCall w8 (w8.setCell ⟨g4, t, none⟩ (.slice A81 (J + 1) c81)) := Kc.grown (grown_setCell w8 ⟨g4, t, none⟩ _) (fun b cs t fr he hh => by
            injection he with he
            subst he
            have h6 := H68.out
            unfold Box at h6
            rw [h6] at hh
            injection hh with hh
            injection hh with _ hh
            exact .inr hh.symm)
          refine ⟨hK9, ord_doneG ?_⟩
          obtain ⟨W1, hW1⟩ : ∃ W, W = w8.setCell ⟨g4, t, none⟩ (.slice A81 (J + 1) c81) := ⟨_, rfl⟩
          rw [← hW1]
          have HMg1 := HMg'
          have HK1 := Lib.hid (HK0.out.trans HKc'.out)
          have hbel1 := HBel'.out
          rw [← hW1] at HMg1 HK1 hbel1
          clear HMg' HKc' HBel' hK9 H68 y8 f8 hK8 hW1 R11 R21 R31 R3q1 R41 RL1 HTS1 HMl1 HR3q1
          go_wp2
          go_roundw
          case rel =>
            have h9 : Hid (Mg 3 41 42 tg1 W1 w3.heap.size g4 3 _ (cntJ x1 (i + 1))) := HMg1.out.congr (fun q hq => by
              rw [cntJ_succ, ← HTT.out, Ht.out, HCN.out]
              by_cases hqt : q = t
              · subst hqt; rw [if_pos rfl]
              · rw [if_neg hqt, if_neg (fun e => hqt e.symm)])
            exact ⟨i + 1, tg1, _, by omega, by go_num, h9, HK1, hbel1⟩
          case measure => simp [intOf]; omega
      · obtain rfl : i = 9 := by omega
        have HMg1 : Hid (Mg 3 41 42 tg wr w3.heap.size g4 3 ts (cntT x1)) := HMg.out.congr (fun q hq => cntJ_all hq)
        have bM := HBS.out.kc HK.out tCall_mach
        have bR := HRw.out.kc HK.out tCall_mach
        have z0 : wr.cell? ⟨g6, 0, none⟩ = _ := bM.cell 0
        have z1 : wr.cell? ⟨g6, 1, none⟩ = _ := bM.cell 1
        have z2 : wr.cell? ⟨g6, 2, none⟩ = _ := bM.cell 2
        have x0 : wr.cell? ⟨w.heap.size, 0, none⟩ = _ := bR.cell 0
        have x1c : wr.cell? ⟨w.heap.size, 1, none⟩ = _ := bR.cell 1
        have x2 : wr.cell? ⟨w.heap.size, 2, none⟩ = _ := bR.cell 2
        have f0 := bR.frozen 0
        have f1 := bR.frozen 1
        have f2 := bR.frozen 2
        simp only [List.getElem?_cons_zero, List.getElem?_cons_succ] at z0 z1 z2 x0 x1c x2
        have lM := bM.lt
        have lR9 := bR.lt
        have HbR := Lib.hid bR
        clear HMg bM bR
        go_wp2
        have bR := HbR.out
        refine bodyPost_ret (results_cell_row rfl _ _ w.heap.size _ _ _ _ rfl (by exact bR.three _ _ _) Tryd.underlying32 rfl (by kernel_rfl)) rfl ?_
        have hun : Un (fun k => k = w.heap.size) wr (((wr.setCell ⟨w.heap.size, 0, none⟩ (.slice Aq0 nq0 kq0)).setCell ⟨w.heap.size, 1, none⟩ (.slice (some ⟨g3, 0, none⟩) 2 2)).setCell ⟨w.heap.size, 2, none⟩ (.slice (some ⟨g4, 0, none⟩) 3 3)) :=
          un_at (X := fun k => k = w.heap.size) (un_at (X := fun k => k = w.heap.size) (un_at (X := fun k => k = w.heap.size) (Un.refl _ _) rfl _ _) rfl _ _) rfl _ _
        have hty : ∀ b cs t fr, b = w.heap.size → wr.heap[b]? = some (.cells cs t fr) → t = 32 := fun b cs t fr hb hh => by
          subst hb
          have h6 := bR
          unfold Box at h6
          rw [h6] at hh
          injection hh with hh
          injection hh with _ hh
          exact hh.symm
        have k9 : Kc (fun t => t = 32) wr _ := Kc.un hun hty
        refine ⟨Aq0, nq0, kq0, _, _, _, _, _, _, rfl, count_inM HC.out x1 ((HQ0.out.kc HK.out tCall_int).kc k9 (by decide)) ((HQ1.out.kc HK.out tCall_op).kc k9 (by decide)) ((HQ2.out.kc HK.out tCall_op).kc k9 (by decide)) ((HQ3.out.kc HK.out tCall_code).kc k9 (by decide))
          (HMg1.out.un hun (fun b cs t fr hb hh => by rw [hty b cs t fr hb hh]; decide)) HLc.out.1 HLc.out.2.1 HLc.out.2.2.1 HLc.out.2.2.2, rfl, ⟨rfl, rfl⟩, ?_⟩
        exact below_at (below_at (below_at hbel (Nat.le_refl _) _ _) (Nat.le_refl _) _ _) (Nat.le_refl _) _ _
end Go.Proofs.YtnchgdjdfhfedaaDoor
