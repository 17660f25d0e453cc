/- Of this claim's own texts these, one behind the other: VmMemO, LibMid, RunPure6, VmPure2. No statement of the seat is proved here; no condition but those that stand at the theorems. -/
import Derived.Test.YtjihopbapnfppaaDoorPartAP
import Derived.Test.YtjihopbapnfppaaDoorPartAG
import Derived.Deep.MidRow
import Derived.Test.YtjihopbapnfppaaDoorPartAH
import Derived.Test.YtjihopbapnfppaaDoorPartAE
import Derived.Test.YtjihopbapnfppaaDoorPartAD
set_option linter.unusedSimpArgs false
set_option linter.unusedVariables false
namespace Go.Baro
open Go.RowKit

section
variable {pre c post : List Value} {i : Nat} {u : Value}
theorem mid_at (h : i < c.length) : (pre ++ (c ++ post))[pre.length + i]? = c[i]? := by
  rw [List.getElem?_append_right (by omega), Nat.add_sub_cancel_left, List.getElem?_append_left h]
theorem mid_set (h : i < c.length) : (pre ++ (c ++ post)).set (pre.length + i) u = pre ++ (c.set i u ++ post) := by
  rw [List.set_append_right _ _ (by omega), Nat.add_sub_cancel_left, List.set_append_left _ _ h]
end
/-- The thread lies in block b from cell o on; what it has told and the shared words are rows of the call's own, in two blocks from B on. -/
structure To (T I : TypeId) (pre post : List Value) (w : World) (B b o : Nat) (cv tv wv : Value) (s : Vs) : Prop where
  box : Box w b T (pre ++ (thC cv s.p s.r tv ++ post))
  off : pre.length = o
  told : w.ownsRow B I 1 tv s.t.length (s.t.map (Value.int .i64))
  words : w.ownsRow B I 1 wv s.w.length (s.w.map (Value.int .i64))
  apart : wv.ownBlock = none ∨ wv.ownBlock ≠ tv.ownBlock
  ne : I ≠ T
section
variable {T I : TypeId} {pre post : List Value} {w w' : World} {B b o : Nat} {cv tv wv : Value} {s : Vs}
theorem To.lt (h : To T I pre post w B b o cv tv wv s) : b < w.heap.size := h.box.lt
theorem To.kept (h : To T I pre post w B b o cv tv wv s) {row : Option Nat} (hg : w.grownBy w' row) (hb : some b ≠ row) (ht : ∀ k, tv.ownBlock = some k → some k ≠ row) (hw : ∀ k, wv.ownBlock = some k → some k ≠ row) : To T I pre post w' B b o cv tv wv s := by
  refine ⟨h.box.grown hg hb, h.off, h.told.kept hg ?_, h.words.kept hg ?_, h.apart, h.ne⟩
  · cases hv : tv.ownBlock with
    | none => exact .inl rfl
    | some k => exact .inr (ht k hv)
  · cases hv : wv.ownBlock with
    | none => exact .inl rfl
    | some k => exact .inr (hw k hv)
theorem To.alloc (h : To T I pre post w B b o cv tv wv s) (x : Obj) : To T I pre post (w.alloc x) B b o cv tv wv s := h.kept (World.grownBy_alloc w x none) (by simp) (by simp) (by simp)
theorem To.drewN (h : To T I pre post w B b o cv tv wv s) (n : Nat) : To T I pre post (w.drewN n) B b o cv tv wv s := ⟨h.box, h.off, h.told, h.words, h.apart, h.ne⟩
theorem To.drew (h : To T I pre post w B b o cv tv wv s) : To T I pre post w.drew B b o cv tv wv s := ⟨h.box, h.off, h.told, h.words, h.apart, h.ne⟩
theorem To.cell (h : To T I pre post w B b o cv tv wv s) {i : Nat} (hi : i < 27) : w.cell? ⟨b, o + i, none⟩ = (thC cv s.p s.r tv)[i]? := by
  have := h.box.cell (pre.length + i)
  rw [mid_at (by rw [thC_len]; exact hi), h.off] at this
  exact this
theorem To.boxed (h : To T I pre post w B b o cv tv wv s) {i : Nat} {u : Value} {q : Int} {r : Int → Int} (hi : i < 27) (hs : (thC cv s.p s.r tv).set i u = thC cv q r tv) : To T I pre post (w.setCell ⟨b, o + i, none⟩ u) B b o cv tv wv { s with p := q, r := r } := by
  have hg := grown_setCell w ⟨b, o + i, none⟩ u
  have h1 := h.box.set (pre.length + i) u
  rw [mid_set (by rw [thC_len]; exact hi), hs, h.off] at h1
  refine ⟨h1, h.off, h.told.kept hg ?_, h.words.kept hg ?_, h.apart, h.ne⟩
  · cases hv : tv.ownBlock with
    | none => exact .inl rfl
    | some k => exact .inr fun he => by have := h.box.ne h.told h.ne; rw [hv] at this; exact this he.symm
  · cases hv : wv.ownBlock with
    | none => exact .inl rfl
    | some k => exact .inr fun he => by have := h.box.ne h.words h.ne; rw [hv] at this; exact this he.symm
theorem To.next (h : To T I pre post w B b o cv tv wv s) (q : Int) : To T I pre post (w.setCell ⟨b, o + 1, none⟩ (.int .i64 q)) B b o cv tv wv { s with p := q } := h.boxed (by omega) (thC_set_p q)
theorem To.reg (h : To T I pre post w B b o cv tv wv s) {i : Nat} (hi : i < 24) (v : Int) : To T I pre post (w.setCell ⟨b, o + 2 + i, none⟩ (.int .i64 v)) B b o cv tv wv { s with r := upd s.r i v } := by
  rw [Nat.add_assoc]
  exact h.boxed (by omega) (thC_set_reg hi v)
theorem To.word (h : To T I pre post w B b o cv tv wv s) {g n c q : Nat} (hv : wv = .slice (some ⟨g, 0, none⟩) n c) (v : Int) : To T I pre post (w.setCell ⟨g, q, none⟩ (.int .i64 v)) B b o cv tv wv { s with w := s.w.set q v } := by
  subst hv
  have hl : n = s.w.length := by
    obtain ⟨A, c', he, _⟩ := own_form h.words
    injection he
  subst hl
  have hst := World.ownsRow.stored h.words q (.int .i64 v)
  refine ⟨h.box.grown hst.2 (h.box.ne h.words h.ne), h.off, h.told.kept hst.2 ?_, ?_, h.apart, h.ne⟩
  · cases ht : tv.ownBlock with
    | none => exact .inl rfl
    | some k =>
      refine .inr fun he => ?_
      rcases h.apart with ha | ha
      · cases ha
      · rw [ht] at ha; exact ha he.symm
  · have := hst.1
    rw [← List.map_set] at this
    show World.ownsRow _ _ _ _ _ (s.w.set q v).length _
    rw [List.length_set]
    exact this
theorem To.tell (h : To T I pre post w B b o cv tv wv s) {v' : Value} {x : Int} {m : Nat} {ob : Obj} (hg : (w.alloc ob).grownBy w' tv.ownBlock) (ho : w'.ownsRow B I 1 v' m (s.t.map (Value.int .i64) ++ [.int .i64 x])) (hm : m = s.t.length + 1)
    (hb : v'.ownBlock = tv.ownBlock ∨ v'.ownBlock = some (w.alloc ob).heap.size) : Box w' b T (pre ++ (thC cv s.p s.r tv ++ post)) ∧ To T I pre post (w'.setCell ⟨b, o + 26, none⟩ v') B b o cv v' wv { s with t := s.t ++ [x] } := by
  have hb1 := (h.box.alloc ob).grown hg (h.box.ne h.told h.ne)
  have hg2 := grown_setCell w' ⟨b, o + 26, none⟩ v'
  have hw1 : w'.ownsRow B I 1 wv s.w.length (s.w.map (Value.int .i64)) := (h.words.alloc ob).kept hg h.apart
  refine ⟨hb1, ?_, h.off, ?_, ?_, ?_, h.ne⟩
  · have := hb1.set (pre.length + 26) v'
    rw [mid_set (by rw [thC_len]; omega), thC_set_told, h.off] at this
    exact this
  · show World.ownsRow _ _ _ _ _ (s.t ++ [x]).length _
    rw [List.length_append, List.length_singleton, ← hm, List.map_append]
    refine ho.kept hg2 ?_
    cases hv : v'.ownBlock with
    | none => exact .inl rfl
    | some k => exact .inr fun he => by have := hb1.ne ho h.ne; rw [hv] at this; exact this he.symm
  · refine hw1.kept hg2 ?_
    cases hv : wv.ownBlock with
    | none => exact .inl rfl
    | some k => exact .inr fun he => by have := hb1.ne hw1 h.ne; rw [hv] at this; exact this he.symm
  · rcases hb with hb | hb
    · rw [hb]; exact h.apart
    · rw [hb]
      cases hv : wv.ownBlock with
      | none => exact .inl rfl
      | some k =>
        refine .inr fun he => ?_
        have := (h.words.lt _ hv).2
        injection he with he
        simp at he
        omega
theorem To.tellB (h : To T I pre post w B b o cv tv wv s) {v' : Value} {x : Int} {m : Nat} (hB : B ≤ w.heap.size) (hb : Below w.heap.size w w') (ho : w'.ownsRow w.heap.size I 1 v' m (s.t.map (Value.int .i64) ++ [.int .i64 x])) (hm : m = s.t.length + 1) :
    Box w' b T (pre ++ (thC cv s.p s.r tv ++ post)) ∧ To T I pre post (w'.setCell ⟨b, o + 26, none⟩ v') B b o cv v' wv { s with t := s.t ++ [x] } ∧ ∃ k, v'.ownBlock = some k ∧ w.heap.size ≤ k := by
  have hb1 : Box w' b T _ := (hb.block b h.lt).trans h.box
  have hg2 := grown_setCell w' ⟨b, o + 26, none⟩ v'
  have hw1 : w'.ownsRow B I 1 wv s.w.length (s.w.map (Value.int .i64)) := own_below h.words hb
  have hv' : ∃ k, v'.ownBlock = some k ∧ w.heap.size ≤ k := by
    rcases ho.2 with ⟨_, h0⟩ | ⟨g, cap, cur, rfl, hg, _⟩
    · omega
    · exact ⟨g, rfl, hg⟩
  obtain ⟨k', hk1, hk2⟩ := hv'
  refine ⟨hb1, ⟨?_, h.off, ?_, ?_, ?_, h.ne⟩, k', hk1, hk2⟩
  · have := hb1.set (pre.length + 26) v'
    rw [mid_set (by rw [thC_len]; omega), thC_set_told, h.off] at this
    exact this
  · show World.ownsRow _ _ _ _ _ (s.t ++ [x]).length _
    rw [List.length_append, List.length_singleton, ← hm, List.map_append]
    have h2 : w'.ownsRow B I 1 v' m (s.t.map (Value.int .i64) ++ [.int .i64 x]) := by
      refine ⟨ho.1, ?_⟩
      rcases ho.2 with q | ⟨g, cap, cur, q1, q2, q3⟩
      · exact .inl q
      · exact .inr ⟨g, cap, cur, q1, by omega, q3⟩
    refine h2.kept hg2 ?_
    refine .inr fun he => ?_
    have h3 := h.lt
    rw [hk1] at he
    injection he with he
    dsimp only at he
    omega
  · refine hw1.kept hg2 ?_
    cases hv : wv.ownBlock with
    | none => exact .inl rfl
    | some k => exact .inr fun he => by have := hb1.ne hw1 h.ne; rw [hv] at this; exact this he.symm
  · cases hv : wv.ownBlock with
    | none => exact .inl rfl
    | some k =>
      refine .inr fun he => ?_
      have := (h.words.lt _ hv).2
      rw [hk1] at he
      injection he with he
      omega
theorem To.code (h : To T I pre post w B b o cv tv wv s) : w.cell? ⟨b, o, none⟩ = some cv := h.cell (i := 0) (by omega)
theorem To.at_ (h : To T I pre post w B b o cv tv wv s) : w.cell? ⟨b, o + 1, none⟩ = some (.int .i64 s.p) := h.cell (by omega)
theorem To.get (h : To T I pre post w B b o cv tv wv s) {i : Nat} (hi : i < 24) : w.cell? ⟨b, o + 2 + i, none⟩ = some (.int .i64 (s.r i)) := by
  rw [Nat.add_assoc]
  exact (h.cell (by omega)).trans (thC_reg hi)
theorem To.toldv (h : To T I pre post w B b o cv tv wv s) : w.cell? ⟨b, o + 26, none⟩ = some tv := (h.cell (by omega)).trans thC_told
theorem To.some (h : To T I pre post w B b o cv tv wv s) {q : Nat} (hq : q < s.w.length) : ∃ g c x, wv = .slice (Option.some ⟨g, 0, none⟩) s.w.length c ∧ B ≤ g ∧ g < w.heap.size ∧ g ≠ b ∧ w.cell? ⟨g, q, none⟩ = Option.some (.int .i64 x) ∧ Hid (s.w[q]? = Option.some x) ∧ w.frozen? ⟨g, q, none⟩ = false := by
  obtain ⟨g, c, rfl, h1, h2, h3⟩ := own_some h.words (by omega)
  obtain ⟨x, hx, HX, _⟩ := own_val h.words hq
  refine ⟨g, c, x, rfl, h1, h2, ?_, hx, HX, h.words.frozenAt q⟩
  intro he
  have := h.box.ne h.words h.ne
  exact this (by rw [he]; rfl)


end
end Go.Baro

set_option linter.unusedSimpArgs false
set_option linter.unusedVariables false
namespace Go.Baro
open Go.RowKit

theorem grown_setCells : ∀ (cs : List Value) (w : World) (b o : Nat), w.grownBy (w.setCells b o cs) (some b)
  | [], w, b, o => World.grownBy.refl w _
  | v :: cs, w, b, o => grown_trans (grown_setCell w ⟨b, o, none⟩ v) (grown_setCells cs _ b (o + 1))
theorem box_setCells {b : Nat} {T : TypeId} {post : List Value} : ∀ (cs old pre : List Value) (w : World) (o : Nat), Box w b T (pre ++ (old ++ post)) → old.length = cs.length → pre.length = o → Box (w.setCells b o cs) b T (pre ++ (cs ++ post))
  | [], old, pre, w, o, h, hl, ho => by
    have : old = [] := List.eq_nil_of_length_eq_zero (by simpa using hl)
    subst this
    exact h
  | v :: cs, [], pre, w, o, h, hl, ho => by simp at hl
  | v :: cs, u :: old, pre, w, o, h, hl, ho => by
    have h1 := h.set o v
    rw [List.set_append_right _ _ (by omega), ho, Nat.sub_self, List.cons_append, List.set_cons_zero] at h1
    have h2 : Box (w.setCell ⟨b, o, none⟩ v) b T ((pre ++ [v]) ++ (old ++ post)) := by
      rw [List.append_assoc]; exact h1
    have h3 := box_setCells cs old (pre ++ [v]) _ (o + 1) h2 (by simpa using hl) (by simp [ho])
    rw [List.append_assoc] at h3
    exact h3
theorem box_there {w : World} {b o : Nat} {T : TypeId} {pre old post : List Value} (h : Box w b T (pre ++ (old ++ post))) (ho : pre.length = o) : w.there b o old.length := by
  intro j hj
  refine ⟨?_, h.frozen _⟩
  have := h.cell (pre.length + j)
  rw [mid_at hj, ho] at this
  rw [this, List.getElem?_eq_getElem hj]
  rfl
theorem box_range {w : World} {b o : Nat} {T : TypeId} {pre old post : List Value} (h : Box w b T (pre ++ (old ++ post))) (ho : pre.length = o) : w.rangeAt b o old := by
  intro j v hv
  have hj := (List.getElem?_eq_some_iff.1 hv).1
  have := h.cell (pre.length + j)
  rw [mid_at hj, ho] at this
  rw [this, hv]
/-- A struct is stored into the middle of a block. -/
theorem store_mid {P : Program} {ops : Array Oper} {rest : List Oper} {op : Oper} {a : Act} {w : World} {Q : Exit → Act → World → Prop} (hgd : op.guard = none) (hdst : op.dst = none) (ty : TypeId) (x y : Operand) (hop : op.op = .store ty x y)
    (b o : Nat) (cells : List Value) (hx : a.eval x = .pointer (some ⟨b, o, none⟩)) (hy : a.eval y = .agg cells.toArray) (T : TypeId) (pre old post : List Value) (h : Box w b T (pre ++ (old ++ post))) (ho : pre.length = o) (hl : old.length = cells.length)
    (hi : (P.info? ty).map (·.size) = some cells.length) (h1 : ∀ v ∈ cells, v.oneCell' = true) (hK : ∀ w', Hid (Box w' b T (pre ++ (cells ++ post))) → w.grownBy w' (some b) → wpList P ops Q rest a w') : wpList P ops Q (op :: rest) a w := by
  refine wpList_store_mid hgd ty x y hop b o cells.toArray hx hy (by have := box_there h ho; rw [hl] at this; simpa using this) (by simpa using hi) (all_oneCell_toArray h1) ?_
  rw [hdst]
  exact hK _ (box_setCells cells old pre w o h hl ho) (grown_setCells cells w b o)
/-- A struct is read out of the middle of a block. -/
theorem load_mid {P : Program} {ops : Array Oper} {rest : List Oper} {op : Oper} {a : Act} {w : World} {Q : Exit → Act → World → Prop} (hgd : op.guard = none) (ty : TypeId) (x : Operand) (hop : op.op = .load ty x)
    (b o : Nat) (hx : a.eval x = .pointer (some ⟨b, o, none⟩)) (T : TypeId) (pre cells post : List Value) (h : Box w b T (pre ++ (cells ++ post))) (ho : pre.length = o) (d : TypeDesc) (hu : P.underlying ty = some d) (hd : d.isRow = true) (hi : (P.info? ty).map (·.size) = some cells.length)
    (hK : wpList P ops Q rest (a.put op.dst (.agg cells.toArray)) w) : wpList P ops Q (op :: rest) a w :=
  wpList_load_mid hgd ty x hop b o hx cells d (box_range h ho) hu hd hi hK
end Go.Baro

set_option linter.unusedSimpArgs false
set_option linter.unusedVariables false
namespace Go.Baro

/-- An event with the number of its step. -/
def inSt (st : Nat) (e : Ev) : Ev := { e with st := st }
theorem actL_zero (g : Gs) (st n bg : Nat) (l : Lv) (o a : List Ev) : actL g st n bg l (a ++ o.map (inSt st)) = ⟨(actL ⟨g.w, g.th, []⟩ 0 n bg l o).w, (actL ⟨g.w, g.th, []⟩ 0 n bg l o).th, a ++ (actL ⟨g.w, g.th, []⟩ 0 n bg l o).out.map (inSt st)⟩ := by
  unfold actL
  dsimp only
  by_cases h : (exc l g.w).2.2.2 = true
  · rw [if_pos h, if_pos h]; simp [inSt]
  · rw [if_neg h, if_neg h]
theorem actG_zero (m : Mc) (g : Gs) (st n : Nat) : actG m g st n = ⟨(actG m ⟨g.w, g.th, []⟩ 0 n).w, (actG m ⟨g.w, g.th, []⟩ 0 n).th, g.out ++ (actG m ⟨g.w, g.th, []⟩ 0 n).out.map (inSt st)⟩ := by
  unfold actG
  dsimp only
  cases (g.th n).now with
  | some l =>
    have := actL_zero g st n (g.th n).bg l [] g.out
    simpa using this
  | none =>
    dsimp only
    cases (m.ts[n]?.getD [])[(g.th n).bg]? with
    | none => simp
    | some c =>
      have := actL_zero g st n ((g.th n).bg + 1) (live (m.cs[c.k.toNat]?.getD []) c.ar) [⟨0, n, (g.th n).bg, false, 0, []⟩] g.out
      simpa [inSt] using this
/-- What a thread does, of itself: its state, the words, the events. -/
def actT (m : Mc) (n : Nat) (t : Td) (w : List Int) : Gs := actG m ⟨w, fun _ => t, []⟩ 0 n
theorem actL_T (th : Nat → Td) (w : List Int) (n bg : Nat) (l : Lv) (o : List Ev) (t : Td) : (actL ⟨w, th, []⟩ 0 n bg l o) = ⟨(actL ⟨w, fun _ => t, []⟩ 0 n bg l o).w, putT th n ((actL ⟨w, fun _ => t, []⟩ 0 n bg l o).th n), (actL ⟨w, fun _ => t, []⟩ 0 n bg l o).out⟩ := by
  unfold actL
  dsimp only
  by_cases h : (exc l w).2.2.2 = true
  · rw [if_pos h, if_pos h]; simp [putT]
  · rw [if_neg h, if_neg h]; simp [putT]
theorem putT_self (th : Nat → Td) (n : Nat) : putT th n (th n) = th := by
  funext i
  unfold putT
  by_cases h : i = n
  · rw [if_pos h, h]
  · rw [if_neg h]
theorem actG_T (m : Mc) (th : Nat → Td) (w : List Int) (n : Nat) : actG m ⟨w, th, []⟩ 0 n = ⟨(actT m n (th n) w).w, putT th n ((actT m n (th n) w).th n), (actT m n (th n) w).out⟩ := by
  unfold actT actG
  dsimp only
  cases h : (th n).now with
  | some l => exact actL_T th w n (th n).bg l [] (th n)
  | none =>
    dsimp only
    cases (m.ts[n]?.getD [])[(th n).bg]? with
    | none => simp [putT_self]
    | some c => exact actL_T th w n _ _ _ (th n)
/-- A step of the run, by what the thread does of itself. -/
theorem actG_by (m : Mc) (g : Gs) (st n : Nat) {t' : Td} {W : List Int} {es : List Ev} (h : actT m n (g.th n) g.w = ⟨W, fun i => if i = n then t' else g.th n, es⟩) : actG m g st n = ⟨W, putT g.th n t', g.out ++ es.map (inSt st)⟩ := by
  rw [actG_zero, actG_T, h]; simp
/-- No more calls. -/
theorem actT_idle {m : Mc} {n : Nat} {t : Td} {w : List Int} (h1 : t.now = none) (h2 : (m.ts[n]?.getD [])[t.bg]? = none) : actT m n t w = ⟨w, fun _ => t, []⟩ := by
  unfold actT actG
  dsimp only
  rw [h1]
  dsimp only
  rw [h2]
theorem actT_live {m : Mc} {n : Nat} {t : Td} {l : Lv} {w : List Int} (h1 : t.now = some l) : actT m n t w = actL ⟨w, fun _ => t, []⟩ 0 n t.bg l [] := by
  unfold actT actG
  dsimp only
  rw [h1]
theorem actT_call {m : Mc} {n : Nat} {t : Td} {c : Cl} {w : List Int} (h1 : t.now = none) (h2 : (m.ts[n]?.getD [])[t.bg]? = some c) : actT m n t w = actL ⟨w, fun _ => t, []⟩ 0 n (t.bg + 1) (live (m.cs[c.k.toNat]?.getD []) c.ar) [⟨0, n, t.bg, false, 0, []⟩] := by
  unfold actT actG
  dsimp only
  rw [h1]
  dsimp only
  rw [h2]
  rfl
theorem actL_end {g : Gs} {n bg : Nat} {l l' : Lv} {w' : List Int} {E : Int} {o : List Ev} (h : exc l g.w = (l', w', E, true)) : actL g 0 n bg l o = ⟨w', putT g.th n ⟨none, bg⟩, o ++ [⟨0, n, bg - 1, true, E, l'.t⟩]⟩ := by
  unfold actL; rw [h]; rfl
theorem actL_on {g : Gs} {n bg : Nat} {l l' : Lv} {w' : List Int} {E : Int} {o : List Ev} (h : exc l g.w = (l', w', E, false)) : actL g 0 n bg l o = ⟨w', putT g.th n ⟨some l', bg⟩, o⟩ := by
  unfold actL; rw [h]; rfl
end Go.Baro

set_option linter.unusedSimpArgs false
set_option linter.unusedVariables false
namespace Go.Proofs.YtjihopbapnfppaaDoor
open Go.Baro

/-- A field that is possible as an operand of this sort. -/
def alw (o n : Int) (len : Nat) : Prop := if o = 1 then 0 ≤ n ∧ n < 24 else if o = 2 then 0 ≤ n ∧ n ≤ len else if o = 3 then True else n = 0
theorem okI_row {len k : Nat} {a b c d A B C D : Int} (hk : 1 ≤ k) (h : tabRows[k]? = some (a, b, c, d)) : okI len ⟨k, A, B, C, D⟩ ↔ alw a A len ∧ alw b B len ∧ alw c C len ∧ alw d D len := by
  have h18 : k < 18 := (List.getElem?_eq_some_iff.1 h).1
  rcases (by omega : k = 1 ∨ k = 2 ∨ k = 3 ∨ k = 4 ∨ k = 5 ∨ k = 6 ∨ k = 7 ∨ k = 8 ∨ k = 9 ∨ k = 10 ∨ k = 11 ∨ k = 12 ∨ k = 13 ∨ k = 14 ∨ k = 15 ∨ k = 16 ∨ k = 17) with rfl | rfl | rfl | rfl | rfl | rfl | rfl | rfl | rfl | rfl | rfl | rfl | rfl | rfl | rfl | rfl | rfl <;>
    (simp [tabRows] at h; obtain ⟨rfl, rfl, rfl, rfl⟩ := h; simp [okI, alw, isR, isT])
theorem row_small {k : Nat} {a b c d : Int} (h : tabRows[k]? = some (a, b, c, d)) : (0 ≤ a ∧ a ≤ 3) ∧ (0 ≤ b ∧ b ≤ 3) ∧ (0 ≤ c ∧ c ≤ 3) ∧ (0 ≤ d ∧ d ≤ 3) := by
  have hm := List.mem_of_getElem? h
  have : ∀ r ∈ tabRows, (0 ≤ r.1 ∧ r.1 ≤ 3) ∧ (0 ≤ r.2.1 ∧ r.2.1 ≤ 3) ∧ (0 ≤ r.2.2.1 ∧ r.2.2.1 ≤ 3) ∧ (0 ≤ r.2.2.2 ∧ r.2.2.2 ≤ 3) := by decide
  exact this _ hm
theorem row_at {k : Nat} (h : k < 18) : ∃ a b c d, tabRows[k]? = some (a, b, c, d) := by
  have : k < tabRows.length := h
  exact ⟨_, _, _, _, List.getElem?_eq_getElem this⟩
theorem okI_kind {len : Nat} {o : Ins} (h : okI len o) : 1 ≤ o.k ∧ o.k ≤ 17 := by unfold okI at h; omega
end Go.Proofs.YtjihopbapnfppaaDoor
