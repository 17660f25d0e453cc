/- A worker of the document's answer as it lies in memory: its registers are a map. No statement of the seat is proved here; no condition. -/
import Derived.Test.YtjihopbapnfppaaDoorRows
import Derived.Test.YtjihopbapnfppaaDoorVmMem
import Derived.Maps.OwnOps
import Derived.Maps.Views
set_option linter.unusedSimpArgs false
set_option linter.unusedVariables false
namespace Go.Proofs.YtjihopbapnfppaaDoor
open Go.RowKit Go.Ord Go.Baro Go.Maps

theorem lawInt : Keyed Tryd.prog 3 := int_keyed Tryd.underlying3
theorem zeroInt (w : World) : (zeroValue 3).run Tryd.prog w = .ok (.int .i64 0) w := by kernel_rfl
theorem wf_in {x : Int} (h : inW x) : (Lit.int .i64 x).wf = true := by unfold inW at h; exact WalkArith.wf_i64 (by omega)

/-- The map in block b, of at most N entries, holds the registers r. -/
def MI (w : World) (b N : Nat) (r : Int → Int) : Prop := ∃ D : DataW Unit, w.ownsMap Tryd.prog 3 (plainElem Tryd.prog 3) b N D ∧ IsMap D ∧ ∀ k, inW k → D.atKey (.int .i64 k) (.lit (.int .i64 0)) = .lit (.int .i64 (r k))
section
variable {w w' : World} {b N : Nat} {r : Int → Int}
theorem MI.lt (h : MI w b N r) : b < w.heap.size := by obtain ⟨D, h, _⟩ := h; exact h.lt
theorem MI.mono (h : MI w b N r) {N' : Nat} (hn : N ≤ N') : MI w b N' r := by obtain ⟨D, h, h2⟩ := h; exact ⟨D, h.mono hn, h2⟩
theorem MI.kept (h : MI w b N r) {row : Option Nat} (hg : w.grownBy w' row) (hne : some b ≠ row) : MI w' b N r := by obtain ⟨D, h, h2⟩ := h; exact ⟨D, h.kept hg hne, h2⟩
theorem MI.alloc (h : MI w b N r) (o : Obj) : MI (w.alloc o) b N r := h.kept (World.grownBy_alloc w o none) (by simp)
theorem MI.drew (h : MI w b N r) : MI w.drew b N r := h
theorem MI.drewN (h : MI w b N r) (n : Nat) : MI (w.drewN n) b N r := by obtain ⟨D, h, h2⟩ := h; exact ⟨D, h, h2⟩
theorem MI.set (h : MI w b N r) {g i : Nat} (u : Value) (hne : b ≠ g) : MI (w.setCell ⟨g, i, none⟩ u) b N r := h.kept (grown_setCell w ⟨g, i, none⟩ u) (by simpa using hne)
theorem MI.below (h : MI w b N r) {B : Nat} (hb : Below B w w') (hB : b < B) : MI w' b N r := by
  obtain ⟨D, ⟨es, ck, hh, h1⟩, h2⟩ := h
  exact ⟨D, ⟨es, ck, (hb.block b hB).trans hh, h1⟩, h2⟩
theorem MI.ne (h : MI w b N r) {g : Nat} {t : TypeId} {cs : Array Value} {fr : Nat × Nat} (hg : w.heap[g]? = some (.cells cs t fr)) : b ≠ g := by
  obtain ⟨D, ⟨es, ck, hh, _⟩, _⟩ := h
  rintro rfl
  rw [hh] at hg
  cases hg
theorem MI.ne_own (h : MI w b N r) {base : Nat} {e : TypeId} {s n : Nat} {v : Value} {xs : List Value} (ho : w.ownsRow base e s v n xs) : some b ≠ v.ownBlock := by
  rcases ho.2 with ⟨rfl, _⟩ | ⟨g, cap, cur, rfl, _, hh, _⟩
  · simp [Value.ownBlock]
  · have := h.ne hh
    simpa [Value.ownBlock] using this
theorem MI.made (w : World) : MI (w.alloc (.map #[] 0)) w.heap.size 0 (fun _ => 0) := ⟨_, World.ownsMap_made _ _ _ _, isMap_empty, fun k _ => rfl⟩
theorem MI.look (h : MI w b N r) {k : Int} (hk : inW k) : (Instr.lookup 76 (.map (some b)) (.int .i64 k) false).run Tryd.prog w = .ok (.int .i64 (r k)) w := by
  obtain ⟨D, h, _, h3⟩ := h
  obtain ⟨c, hrun, hat, _⟩ := h.lookup_int lawInt Tryd.underlying76 Tryd.underlying3 (zeroInt _) (keyOf_int_mk Tryd.underlying3 (wf_in hk))
  rw [h3 k hk] at hat
  simp only [DataW.lit.injEq, Lit.int.injEq, true_and] at hat
  rw [hrun, hat]
theorem MI.update (h : MI w b N r) {k v : Int} (hk : inW k) (hv : inW v) (hN : N < 1000000) : ∃ w', (Instr.mapUpdate 76 (.map (some b)) (.int .i64 k) (.int .i64 v)).run Tryd.prog w = .ok () w' ∧ MI w' b (N + 1) (upd r k v) ∧ w.grownBy w' (some b) := by
  obtain ⟨D, h, h2, h3⟩ := h
  obtain ⟨w', hrun, hown, hg⟩ := h.update lawInt Tryd.underlying76 (by unfold maxLen; omega) (keyOf_int_mk Tryd.underlying3 (wf_in hk)) (plainElem_int Tryd.underlying3 (wf_in hv))
  refine ⟨w', hrun, ⟨_, hown, h2.put _ _, fun k' hk' => ?_⟩, hg⟩
  by_cases he : k' = k
  · subst he
    rw [atKey_put_same h2 (by simp [WideAt.IsKeyLit]), upd_same]
  · rw [atKey_put_other (by simpa using he), h3 k' hk', upd_other _ _ he]
end
theorem wp_look {w : World} {ops : Array Oper} {rest : List Oper} {o : Oper} {a : Act} {Q : Exit → Act → World → Prop} (hg : o.guard = none) (m x : Operand) (hop : o.op = Op.lookup 76 m x false) (b N : Nat) (r : Int → Int) (k : Int)
    (hm : a.eval m = .map (some b)) (h : MI w b N r) (hx : a.eval x = .int .i64 k) (hk : inW k) (hK : wpList Tryd.prog ops Q rest (a.put o.dst (.int .i64 (r k))) w) : wpList Tryd.prog ops Q (o :: rest) a w := by
  refine wpList_plain hg fun K' hK' => ?_
  have hrun := h.look hk
  unfold Oper.wp
  simp [execOp, hop, hm, hx, hrun, Result.andThen]
  exact hK' _ _ hK
theorem wp_upd {w : World} {ops : Array Oper} {rest : List Oper} {o : Oper} {a : Act} {Q : Exit → Act → World → Prop} (hg : o.guard = none) (hd : o.dst = none) (m x y : Operand) (hop : o.op = Op.mapUpdate 76 m x y) (b N : Nat) (r : Int → Int) (k v : Int)
    (hm : a.eval m = .map (some b)) (h : MI w b N r) (hx : a.eval x = .int .i64 k) (hy : a.eval y = .int .i64 v) (hk : inW k) (hv : inW v) (hN : N < 1000000)
    (hK : ∀ w', Hid (MI w' b (N + 1) (upd r k v)) → w.grownBy w' (some b) → wpList Tryd.prog ops Q rest a w') : wpList Tryd.prog ops Q (o :: rest) a w := by
  refine wpList_plain hg fun K' hK' => ?_
  obtain ⟨w', hrun, h1, h2⟩ := h.update hk hv hN
  unfold Oper.wp
  simp [execOp, hop, hm, hx, hy, hrun, Result.andThen]
  exact hK' _ _ (by rw [hd]; exact hK w' h1 h2)

/-- The worker lies in block b, its registers in the map of block mb; what it has told and the shared words are rows of the call's own, in two blocks from B on. -/
structure Wk (w : World) (B b mb : Nat) (cv tv wv : Value) (p : Int) (ws t : List Int) (err : Int) (over : Bool) : Prop where
  box : Box w b 78 [cv, .map (some mb), .int .i64 p, tv, .int .i64 err, .bool over]
  told : w.ownsRow B 3 1 tv t.length (t.map (Value.int .i64))
  words : w.ownsRow B 3 1 wv ws.length (ws.map (Value.int .i64))
  apart : wv.ownBlock = none ∨ wv.ownBlock ≠ tv.ownBlock
theorem ne54 : 3 ≠ 78 := by decide
section
variable {w w' : World} {B b mb N : Nat} {cv tv wv : Value} {p : Int} {ws t : List Int} {err : Int} {over : Bool} {r : Int → Int}
theorem Wk.lt (h : Wk w B b mb cv tv wv p ws t err over) : b < w.heap.size := h.box.lt
theorem Wk.kept (h : Wk w B b mb cv tv wv p ws t err over) {row : Option Nat} (hg : w.grownBy w' row) (hb : some b ≠ row) (ht : ∀ k, tv.ownBlock = some k → some k ≠ row) (hw : ∀ k, wv.ownBlock = some k → some k ≠ row) : Wk w' B b mb cv tv wv p ws t err over := by
  refine ⟨h.box.grown hg hb, h.told.kept hg ?_, h.words.kept hg ?_, h.apart⟩
  · cases hv : tv.ownBlock with
    | none => exact .inl rfl
    | some k => exact .inr (ht k hv)
  · cases hv : wv.ownBlock with
    | none => exact .inl rfl
    | some k => exact .inr (hw k hv)
theorem Wk.alloc (h : Wk w B b mb cv tv wv p ws t err over) (o : Obj) : Wk (w.alloc o) B b mb cv tv wv p ws t err over := h.kept (World.grownBy_alloc w o none) (by simp) (by simp) (by simp)
theorem Wk.drew (h : Wk w B b mb cv tv wv p ws t err over) : Wk w.drew B b mb cv tv wv p ws t err over := ⟨h.box, h.told, h.words, h.apart⟩
theorem Wk.drewN (h : Wk w B b mb cv tv wv p ws t err over) (n : Nat) : Wk (w.drewN n) B b mb cv tv wv p ws t err over := ⟨h.box, h.told, h.words, h.apart⟩
/-- A register is written. -/
theorem Wk.map (h : Wk w B b mb cv tv wv p ws t err over) (hm : MI w mb N r) (hg : w.grownBy w' (some mb)) : Wk w' B b mb cv tv wv p ws t err over :=
  h.kept hg (fun he => hm.ne h.box (by injection he with he; exact he.symm)) (fun k hk he => hm.ne_own h.told (by rw [hk, he])) (fun k hk he => hm.ne_own h.words (by rw [hk, he]))
theorem Wk.boxed (h : Wk w B b mb cv tv wv p ws t err over) {i : Nat} {u : Value} {q : Int} {e : Int} {ov : Bool} (hs : [cv, .map (some mb), .int .i64 p, tv, .int .i64 err, .bool over].set i u = [cv, .map (some mb), .int .i64 q, tv, .int .i64 e, .bool ov]) :
    Wk (w.setCell ⟨b, i, none⟩ u) B b mb cv tv wv q ws t e ov := by
  have hg := grown_setCell w ⟨b, i, none⟩ u
  have h1 := h.box.set i u
  rw [hs] at h1
  refine ⟨h1, h.told.kept hg ?_, h.words.kept hg ?_, h.apart⟩
  · cases hv : tv.ownBlock with
    | none => exact .inl rfl
    | some k => exact .inr fun he => by have := h.box.ne h.told ne54; rw [hv] at this; exact this he.symm
  · cases hv : wv.ownBlock with
    | none => exact .inl rfl
    | some k => exact .inr fun he => by have := h.box.ne h.words ne54; rw [hv] at this; exact this he.symm
theorem Wk.at_ (h : Wk w B b mb cv tv wv p ws t err over) (q : Int) : Wk (w.setCell ⟨b, 2, none⟩ (.int .i64 q)) B b mb cv tv wv q ws t err over := h.boxed rfl
theorem Wk.errd (h : Wk w B b mb cv tv wv p ws t err over) (e : Int) : Wk (w.setCell ⟨b, 4, none⟩ (.int .i64 e)) B b mb cv tv wv p ws t e over := h.boxed rfl
theorem Wk.overd (h : Wk w B b mb cv tv wv p ws t err over) (ov : Bool) : Wk (w.setCell ⟨b, 5, none⟩ (.bool ov)) B b mb cv tv wv p ws t err ov := h.boxed rfl
theorem Wk.word (h : Wk w B b mb cv tv wv p ws t err over) {g n c q : Nat} (hv : wv = .slice (some ⟨g, 0, none⟩) n c) (v : Int) : Wk (w.setCell ⟨g, q, none⟩ (.int .i64 v)) B b mb cv tv wv p (ws.set q v) t err over := by
  subst hv
  have hl : n = ws.length := by
    obtain ⟨A, c', he, _⟩ := own_form h.words
    injection he
  subst hl
  have hst := World.ownsRow.stored h.words q (.int .i64 v)
  refine ⟨h.box.grown hst.2 (h.box.ne h.words ne54), h.told.kept hst.2 ?_, ?_, h.apart⟩
  · cases ht : tv.ownBlock with
    | none => exact .inl rfl
    | some k =>
      refine .inr fun he => ?_
      rcases h.apart with ha | ha
      · cases ha
      · rw [ht] at ha; exact ha he.symm
  · have := hst.1
    rw [← List.map_set] at this
    show World.ownsRow _ _ _ _ _ (ws.set q v).length _
    rw [List.length_set]
    exact this
theorem Wk.tell (h : Wk w B b mb cv tv wv p ws t err over) {v' : Value} {x : Int} {m : Nat} {o : Obj} (hg : (w.alloc o).grownBy w' tv.ownBlock) (ho : w'.ownsRow B 3 1 v' m (t.map (Value.int .i64) ++ [.int .i64 x])) (hm : m = t.length + 1)
    (hb : v'.ownBlock = tv.ownBlock ∨ v'.ownBlock = some (w.alloc o).heap.size) : Box w' b 78 [cv, .map (some mb), .int .i64 p, tv, .int .i64 err, .bool over] ∧ Wk (w'.setCell ⟨b, 3, none⟩ v') B b mb cv v' wv p ws (t ++ [x]) err over := by
  have hb1 := (h.box.alloc o).grown hg (h.box.ne h.told ne54)
  have hg2 := grown_setCell w' ⟨b, 3, none⟩ v'
  have hw1 : w'.ownsRow B 3 1 wv ws.length (ws.map (Value.int .i64)) := (h.words.alloc o).kept hg h.apart
  refine ⟨hb1, ?_, ?_, ?_, ?_⟩
  · exact hb1.set 3 v'
  · rw [List.length_append, List.length_singleton, ← hm, List.map_append]
    refine ho.kept hg2 ?_
    cases hv : v'.ownBlock with
    | none => exact .inl rfl
    | some k => exact .inr fun he => by have := hb1.ne ho ne54; rw [hv] at this; exact this he.symm
  · refine hw1.kept hg2 ?_
    cases hv : wv.ownBlock with
    | none => exact .inl rfl
    | some k => exact .inr fun he => by have := hb1.ne hw1 ne54; rw [hv] at this; exact this he.symm
  · rcases hb with hb | hb
    · rw [hb]; exact h.apart
    · rw [hb]
      cases hv : wv.ownBlock with
      | none => exact .inl rfl
      | some k =>
        refine .inr fun he => ?_
        have := (h.words.lt _ hv).2
        injection he with he
        simp at he
        omega
/-- The shared words, where there is one. -/
theorem Wk.some (h : Wk w B b mb cv tv wv p ws t err over) {q : Nat} (hq : q < ws.length) : ∃ g c x, wv = .slice (Option.some ⟨g, 0, none⟩) ws.length c ∧ B ≤ g ∧ g < w.heap.size ∧ g ≠ b ∧ w.cell? ⟨g, q, none⟩ = Option.some (.int .i64 x) ∧ Hid (ws[q]? = Option.some x) ∧ w.frozen? ⟨g, q, none⟩ = false := by
  obtain ⟨g, c, rfl, h1, h2, h3⟩ := own_some h.words (by omega)
  obtain ⟨x, hx, HX, _⟩ := own_val h.words hq
  refine ⟨g, c, x, rfl, h1, h2, ?_, hx, HX, h.words.frozenAt q⟩
  intro he
  have := h.box.ne h.words ne54
  exact this (by rw [he]; rfl)
end
end Go.Proofs.YtjihopbapnfppaaDoor
