/- Of this claim's own texts these, one behind the other: VmMemO, LibF, Vm3O, Vm4O, VmRunPure. No statement of the seat is proved here; no condition but those that stand at the theorems. -/
import Derived.Test.YtjihopbapnfppabDoorPartAT
import Derived.Test.YtjihopbapnfppabDoorPartAE
set_option linter.unusedSimpArgs false
set_option linter.unusedVariables false
namespace Go.Baro
open Go.RowKit

section
variable {pre c post : List Value} {i : Nat} {u : Value}
theorem mid_at (h : i < c.length) : (pre ++ (c ++ post))[pre.length + i]? = c[i]? := by
  rw [List.getElem?_append_right (by omega), Nat.add_sub_cancel_left, List.getElem?_append_left h]
theorem mid_set (h : i < c.length) : (pre ++ (c ++ post)).set (pre.length + i) u = pre ++ (c.set i u ++ post) := by
  rw [List.set_append_right _ _ (by omega), Nat.add_sub_cancel_left, List.set_append_left _ _ h]
end
/-- The thread lies in block b from cell o on; what it has told and the shared words are rows of the call's own, in two blocks from B on. -/
structure To (T I : TypeId) (pre post : List Value) (w : World) (B b o : Nat) (cv tv wv : Value) (s : Vs) : Prop where
  box : Box w b T (pre ++ (thC cv s.p s.r tv ++ post))
  off : pre.length = o
  told : w.ownsRow B I 1 tv s.t.length (s.t.map (Value.int .i64))
  words : w.ownsRow B I 1 wv s.w.length (s.w.map (Value.int .i64))
  apart : wv.ownBlock = none ∨ wv.ownBlock ≠ tv.ownBlock
  ne : I ≠ T
section
variable {T I : TypeId} {pre post : List Value} {w w' : World} {B b o : Nat} {cv tv wv : Value} {s : Vs}
theorem To.lt (h : To T I pre post w B b o cv tv wv s) : b < w.heap.size := h.box.lt
theorem To.kept (h : To T I pre post w B b o cv tv wv s) {row : Option Nat} (hg : w.grownBy w' row) (hb : some b ≠ row) (ht : ∀ k, tv.ownBlock = some k → some k ≠ row) (hw : ∀ k, wv.ownBlock = some k → some k ≠ row) : To T I pre post w' B b o cv tv wv s := by
  refine ⟨h.box.grown hg hb, h.off, h.told.kept hg ?_, h.words.kept hg ?_, h.apart, h.ne⟩
  · cases hv : tv.ownBlock with
    | none => exact .inl rfl
    | some k => exact .inr (ht k hv)
  · cases hv : wv.ownBlock with
    | none => exact .inl rfl
    | some k => exact .inr (hw k hv)
theorem To.alloc (h : To T I pre post w B b o cv tv wv s) (x : Obj) : To T I pre post (w.alloc x) B b o cv tv wv s := h.kept (World.grownBy_alloc w x none) (by simp) (by simp) (by simp)
theorem To.drewN (h : To T I pre post w B b o cv tv wv s) (n : Nat) : To T I pre post (w.drewN n) B b o cv tv wv s := ⟨h.box, h.off, h.told, h.words, h.apart, h.ne⟩
theorem To.drew (h : To T I pre post w B b o cv tv wv s) : To T I pre post w.drew B b o cv tv wv s := ⟨h.box, h.off, h.told, h.words, h.apart, h.ne⟩
theorem To.cell (h : To T I pre post w B b o cv tv wv s) {i : Nat} (hi : i < 27) : w.cell? ⟨b, o + i, none⟩ = (thC cv s.p s.r tv)[i]? := by
  have := h.box.cell (pre.length + i)
  rw [mid_at (by rw [thC_len]; exact hi), h.off] at this
  exact this
theorem To.boxed (h : To T I pre post w B b o cv tv wv s) {i : Nat} {u : Value} {q : Int} {r : Int → Int} (hi : i < 27) (hs : (thC cv s.p s.r tv).set i u = thC cv q r tv) : To T I pre post (w.setCell ⟨b, o + i, none⟩ u) B b o cv tv wv { s with p := q, r := r } := by
  have hg := grown_setCell w ⟨b, o + i, none⟩ u
  have h1 := h.box.set (pre.length + i) u
  rw [mid_set (by rw [thC_len]; exact hi), hs, h.off] at h1
  refine ⟨h1, h.off, h.told.kept hg ?_, h.words.kept hg ?_, h.apart, h.ne⟩
  · cases hv : tv.ownBlock with
    | none => exact .inl rfl
    | some k => exact .inr fun he => by have := h.box.ne h.told h.ne; rw [hv] at this; exact this he.symm
  · cases hv : wv.ownBlock with
    | none => exact .inl rfl
    | some k => exact .inr fun he => by have := h.box.ne h.words h.ne; rw [hv] at this; exact this he.symm
theorem To.next (h : To T I pre post w B b o cv tv wv s) (q : Int) : To T I pre post (w.setCell ⟨b, o + 1, none⟩ (.int .i64 q)) B b o cv tv wv { s with p := q } := h.boxed (by omega) (thC_set_p q)
theorem To.reg (h : To T I pre post w B b o cv tv wv s) {i : Nat} (hi : i < 24) (v : Int) : To T I pre post (w.setCell ⟨b, o + 2 + i, none⟩ (.int .i64 v)) B b o cv tv wv { s with r := upd s.r i v } := by
  rw [Nat.add_assoc]
  exact h.boxed (by omega) (thC_set_reg hi v)
theorem To.word (h : To T I pre post w B b o cv tv wv s) {g n c q : Nat} (hv : wv = .slice (some ⟨g, 0, none⟩) n c) (v : Int) : To T I pre post (w.setCell ⟨g, q, none⟩ (.int .i64 v)) B b o cv tv wv { s with w := s.w.set q v } := by
  subst hv
  have hl : n = s.w.length := by
    obtain ⟨A, c', he, _⟩ := own_form h.words
    injection he
  subst hl
  have hst := World.ownsRow.stored h.words q (.int .i64 v)
  refine ⟨h.box.grown hst.2 (h.box.ne h.words h.ne), h.off, h.told.kept hst.2 ?_, ?_, h.apart, h.ne⟩
  · cases ht : tv.ownBlock with
    | none => exact .inl rfl
    | some k =>
      refine .inr fun he => ?_
      rcases h.apart with ha | ha
      · cases ha
      · rw [ht] at ha; exact ha he.symm
  · have := hst.1
    rw [← List.map_set] at this
    show World.ownsRow _ _ _ _ _ (s.w.set q v).length _
    rw [List.length_set]
    exact this
theorem To.tell (h : To T I pre post w B b o cv tv wv s) {v' : Value} {x : Int} {m : Nat} {ob : Obj} (hg : (w.alloc ob).grownBy w' tv.ownBlock) (ho : w'.ownsRow B I 1 v' m (s.t.map (Value.int .i64) ++ [.int .i64 x])) (hm : m = s.t.length + 1)
    (hb : v'.ownBlock = tv.ownBlock ∨ v'.ownBlock = some (w.alloc ob).heap.size) : Box w' b T (pre ++ (thC cv s.p s.r tv ++ post)) ∧ To T I pre post (w'.setCell ⟨b, o + 26, none⟩ v') B b o cv v' wv { s with t := s.t ++ [x] } := by
  have hb1 := (h.box.alloc ob).grown hg (h.box.ne h.told h.ne)
  have hg2 := grown_setCell w' ⟨b, o + 26, none⟩ v'
  have hw1 : w'.ownsRow B I 1 wv s.w.length (s.w.map (Value.int .i64)) := (h.words.alloc ob).kept hg h.apart
  refine ⟨hb1, ?_, h.off, ?_, ?_, ?_, h.ne⟩
  · have := hb1.set (pre.length + 26) v'
    rw [mid_set (by rw [thC_len]; omega), thC_set_told, h.off] at this
    exact this
  · show World.ownsRow _ _ _ _ _ (s.t ++ [x]).length _
    rw [List.length_append, List.length_singleton, ← hm, List.map_append]
    refine ho.kept hg2 ?_
    cases hv : v'.ownBlock with
    | none => exact .inl rfl
    | some k => exact .inr fun he => by have := hb1.ne ho h.ne; rw [hv] at this; exact this he.symm
  · refine hw1.kept hg2 ?_
    cases hv : wv.ownBlock with
    | none => exact .inl rfl
    | some k => exact .inr fun he => by have := hb1.ne hw1 h.ne; rw [hv] at this; exact this he.symm
  · rcases hb with hb | hb
    · rw [hb]; exact h.apart
    · rw [hb]
      cases hv : wv.ownBlock with
      | none => exact .inl rfl
      | some k =>
        refine .inr fun he => ?_
        have := (h.words.lt _ hv).2
        injection he with he
        simp at he
        omega
theorem To.tellB (h : To T I pre post w B b o cv tv wv s) {v' : Value} {x : Int} {m : Nat} (hB : B ≤ w.heap.size) (hb : Below w.heap.size w w') (ho : w'.ownsRow w.heap.size I 1 v' m (s.t.map (Value.int .i64) ++ [.int .i64 x])) (hm : m = s.t.length + 1) :
    Box w' b T (pre ++ (thC cv s.p s.r tv ++ post)) ∧ To T I pre post (w'.setCell ⟨b, o + 26, none⟩ v') B b o cv v' wv { s with t := s.t ++ [x] } ∧ ∃ k, v'.ownBlock = some k ∧ w.heap.size ≤ k := by
  have hb1 : Box w' b T _ := (hb.block b h.lt).trans h.box
  have hg2 := grown_setCell w' ⟨b, o + 26, none⟩ v'
  have hw1 : w'.ownsRow B I 1 wv s.w.length (s.w.map (Value.int .i64)) := own_below h.words hb
  have hv' : ∃ k, v'.ownBlock = some k ∧ w.heap.size ≤ k := by
    rcases ho.2 with ⟨_, h0⟩ | ⟨g, cap, cur, rfl, hg, _⟩
    · omega
    · exact ⟨g, rfl, hg⟩
  obtain ⟨k', hk1, hk2⟩ := hv'
  refine ⟨hb1, ⟨?_, h.off, ?_, ?_, ?_, h.ne⟩, k', hk1, hk2⟩
  · have := hb1.set (pre.length + 26) v'
    rw [mid_set (by rw [thC_len]; omega), thC_set_told, h.off] at this
    exact this
  · show World.ownsRow _ _ _ _ _ (s.t ++ [x]).length _
    rw [List.length_append, List.length_singleton, ← hm, List.map_append]
    have h2 : w'.ownsRow B I 1 v' m (s.t.map (Value.int .i64) ++ [.int .i64 x]) := by
      refine ⟨ho.1, ?_⟩
      rcases ho.2 with q | ⟨g, cap, cur, q1, q2, q3⟩
      · exact .inl q
      · exact .inr ⟨g, cap, cur, q1, by omega, q3⟩
    refine h2.kept hg2 ?_
    refine .inr fun he => ?_
    have h3 := h.lt
    rw [hk1] at he
    injection he with he
    dsimp only at he
    omega
  · refine hw1.kept hg2 ?_
    cases hv : wv.ownBlock with
    | none => exact .inl rfl
    | some k => exact .inr fun he => by have := hb1.ne hw1 h.ne; rw [hv] at this; exact this he.symm
  · cases hv : wv.ownBlock with
    | none => exact .inl rfl
    | some k =>
      refine .inr fun he => ?_
      have := (h.words.lt _ hv).2
      rw [hk1] at he
      injection he with he
      omega
theorem To.code (h : To T I pre post w B b o cv tv wv s) : w.cell? ⟨b, o, none⟩ = some cv := h.cell (i := 0) (by omega)
theorem To.at_ (h : To T I pre post w B b o cv tv wv s) : w.cell? ⟨b, o + 1, none⟩ = some (.int .i64 s.p) := h.cell (by omega)
theorem To.get (h : To T I pre post w B b o cv tv wv s) {i : Nat} (hi : i < 24) : w.cell? ⟨b, o + 2 + i, none⟩ = some (.int .i64 (s.r i)) := by
  rw [Nat.add_assoc]
  exact (h.cell (by omega)).trans (thC_reg hi)
theorem To.toldv (h : To T I pre post w B b o cv tv wv s) : w.cell? ⟨b, o + 26, none⟩ = some tv := (h.cell (by omega)).trans thC_told
theorem To.some (h : To T I pre post w B b o cv tv wv s) {q : Nat} (hq : q < s.w.length) : ∃ g c x, wv = .slice (Option.some ⟨g, 0, none⟩) s.w.length c ∧ B ≤ g ∧ g < w.heap.size ∧ g ≠ b ∧ w.cell? ⟨g, q, none⟩ = Option.some (.int .i64 x) ∧ Hid (s.w[q]? = Option.some x) ∧ w.frozen? ⟨g, q, none⟩ = false := by
  obtain ⟨g, c, rfl, h1, h2, h3⟩ := own_some h.words (by omega)
  obtain ⟨x, hx, HX, _⟩ := own_val h.words hq
  refine ⟨g, c, x, rfl, h1, h2, ?_, hx, HX, h.words.frozenAt q⟩
  intro he
  have := h.box.ne h.words h.ne
  exact this (by rw [he]; rfl)


end
end Go.Baro

set_option linter.unusedSimpArgs false
set_option linter.unusedVariables false
namespace Go.Proofs.YtjihopbapnfppabDoor
open Go.RowKit Go.Ord Go.Baro

section
variable {P : Program} {t e : TypeId} {z : Value} {s by' : Nat} {ops : Array Oper} {rest : List Oper} {o : Oper} {a : Act} {Q : Exit → Act → World → Prop}
/-- append to a slice without room: into a new block. -/
theorem app_full (E : Elt P t e z s by') (w : World) (hgd : o.guard = none) (l x : Operand) (ho : o.op = .call { callee := .builtin .append, args := #[l, x], argTypes := #[t, t] })
    (A : Option Addr) (n : Nat) (xs : List Value) (hs : a.eval l = .slice A n n) (B : Nat) (hr : Rd w B s A n xs) (hA : A = none → n = 0) (hB : B ≤ w.heap.size) (m : Nat) (hm : 0 < m) (cs : List Value)
    (g : Nat) (hg : g = w.heap.size) (hx : a.eval x = .slice (some ⟨g, 0, none⟩) m m) (hl : cs.length = m * s) (hn : (n + m) * by' ≤ 140737488355328) (hn' : n + m ≤ 140737488355328)
    (h : ∀ v' w', w'.ownsRow w.heap.size e s v' (n + m) (xs ++ cs) → Below w.heap.size w w' → wpList P ops Q rest (a.put o.dst v') w') :
    wpList P ops Q (o :: rest) a (w.alloc (.cells cs.toArray e)) := by
  have E' := E
  obtain ⟨hu, ⟨i, hi, h5, h6, h7⟩, h3, h4⟩ := E
  subst hg
  have hnews : ∀ j u, cs[j]? = some u → (w.alloc (.cells cs.toArray e)).cell? ((⟨w.heap.size, 0, none⟩ : Addr).add j) = some u := by
    intro j u hj
    have hr : (w.alloc (.cells cs.toArray e)).heap[w.heap.size]? = some (.cells cs.toArray e (0, 0)) := heap_alloc_new w _
    rw [Addr.add_lit, Nat.zero_add, cell_of_row _ _ _ _ _ _ hr]
    simpa using hj
  have hgr : ∀ (cap : Nat) (zs : Array Value), n + m ≤ cap → cap ≤ maxLen → zs.size = (cap - (n + m)) * s →
      ((w.alloc (.cells cs.toArray e)).drew.alloc (.cells ((xs ++ cs).toArray ++ zs) e)).ownsRow w.heap.size e s (.slice (some ⟨(w.alloc (.cells cs.toArray e)).heap.size, 0, none⟩) (n + m) cap) (n + m) (xs ++ cs) := by
    intro cap zs h1 h2 h3
    have hlen : (xs ++ cs).length = (n + m) * s := by rw [List.length_append, hr.len, hl, Nat.add_mul]
    refine ⟨hlen, .inr ⟨_, cap, _, rfl, by simp, heap_alloc_new (w.alloc (.cells cs.toArray e)).drew _, h1, h2, ?_, ?_⟩⟩
    · rw [Array.size_append, List.size_toArray, hlen, h3, ← Nat.add_mul]
      congr 1
      omega
    · rw [Array.toList_append, ← hlen]
      exact List.take_left
  have hbl : ∀ o2, Below w.heap.size w ((w.alloc (.cells cs.toArray e)).drew.alloc o2) := fun o2 => (((Below.refl w.heap.size w).alloc (Nat.le_refl _) _).drew).alloc (by simp) o2
  have hcm : ∀ old, grownCap (w.alloc (.cells cs.toArray e)) (n + m) old e ≤ maxLen := fun old => grownCap_le_maxLen _ (n + m) old e (by unfold maxLen; omega)
  have hge : ∀ old, n + m ≤ grownCap (w.alloc (.cells cs.toArray e)) (n + m) old e := fun old => grownCap_ge _ (n + m) old e
  refine wpList_plain hgd fun K hK => ?_
  cases A with
  | none =>
    obtain rfl := hA rfl
    have hx0 : xs = [] := List.eq_nil_of_length_eq_zero (by simpa using hr.len)
    subst hx0
    have hrun := _root_.Go.run_append_nil (P := P) (w.alloc (.cells cs.toArray e)) t o.type e i z hu hi h5 ⟨w.heap.size, 0, none⟩ m m cs (by rw [h6]; exact hl) hnews hm (by omega) (by rw [h7]; rw [Nat.zero_add] at hn; omega)
    unfold Oper.wp
    simp [execOp, ho, resolve, invoke, builtin, hs, hx, hrun, Result.andThen]
    have h1 := hgr (grownCap (w.alloc (.cells cs.toArray e)) m 0 e) (Builtin.zeroCells z.cells (grownCap (w.alloc (.cells cs.toArray e)) m 0 e - m)) (by have := hge 0; rwa [Nat.zero_add] at this ⊢) (by have := hcm 0; rwa [Nat.zero_add] at this) (by rw [size_zeroCells, h3, Nat.zero_add])
    rw [List.nil_append, Nat.zero_add] at h1
    exact hK _ _ (h _ _ (by rw [Nat.zero_add]; simpa using h1) (hbl _))
  | some ad =>
    have holds : ∀ j u, xs[j]? = some u → (w.alloc (.cells cs.toArray e)).cell? (ad.add j) = some u := by
      intro j u hj
      have hjl : j < n * s := by rw [← hr.len]; exact (List.getElem?_eq_some_iff.1 hj).1
      obtain ⟨b, q, hA, hb, hc⟩ := hr.at_ (by rcases Nat.eq_zero_or_pos n with h0 | h0; simp [h0] at hjl; exact h0)
      injection hA with hA
      subst hA
      rw [Addr.add_lit]
      refine (World.cell?_of_block (w := w) (a := ⟨b, q + j, none⟩) (Below.heap_alloc w _ b (by omega))).trans ?_
      rw [hc j hjl, hj]
    have hrun := run_append_grow (P := P) (w.alloc (.cells cs.toArray e)) t o.type e i z hu hi h5 ad n n xs (by rw [h6]; exact hr.len) holds ⟨w.heap.size, 0, none⟩ m m cs (by rw [h6]; exact hl) hnews (by omega) (by omega) (growslice_fits (by omega) (by rw [h7]; exact hn))
    unfold Oper.wp
    simp [execOp, ho, resolve, invoke, builtin, hs, hx, hrun, Result.andThen]
    have h1 := hgr (grownCap (w.alloc (.cells cs.toArray e)) (n + m) n e) (Builtin.zeroCells z.cells (grownCap (w.alloc (.cells cs.toArray e)) (n + m) n e - (n + m))) (hge n) (hcm n) (by rw [size_zeroCells, h3])
    exact hK _ _ (h _ _ (by simpa using h1) (hbl _))
end
end Go.Proofs.YtjihopbapnfppabDoor

set_option linter.unusedSimpArgs false
set_option linter.unusedVariables false
namespace Go.Proofs.YtjihopbapnfppabDoor
open Go.RowKit Go.Ord Go.Baro

theorem eltInt : Elt Tryd.prog 22 3 (.int .i64 0) 1 8 := Elt.mk' Tryd.underlying22 (by kernel_rfl) rfl (by decide)
abbrev ToV (T : TypeId) (pre post : List Value) := To T 3 pre post

theorem vm_endedo (T : TypeId) (pre post : List Value) (o : Nat) (w : World) (B b n c : Nat) (A : Option Addr) (tv wv : Value) (s : Vs) (r : Bool) (h : ToV T pre post w B b o (.slice A n c) tv wv s) (hr : r = true ↔ s.p = n) :
    Calls Tryd.prog 57 #[.pointer (some ⟨b, o, none⟩)] w fun e w' => e = .returned (.bool r) ∧ w' = w.drewN 1 := by
  have H := Lib.hid hr
  clear hr
  have c0 := h.code
  have c1 := h.at_
  have hlt := h.lt
  clear h
  go_enter Tryd.func57, Tryd.ntmps57
  go_wp2
  refine region_two [0, 1, 2, 3, 4, 5, 6, 7, 8, 9, 10] [] (by kernel_rfl) (by kernel_rfl) ?_
  simp only [pick, List.map_cons, List.map_nil, List.getD_cons_zero, List.getD_cons_succ]
  go_wp2
  go_ret
  refine ⟨ret_bool ?_, rfl⟩
  have := H.out
  cases r <;> simp at this ⊢ <;> omega

theorem std_Clip (w : World) (A : Option Addr) (n c : Nat) (hc : n ≤ c) :
    Calls Tryd.prog 80 #[.slice A n c] w fun e w' => e = .returned (.slice A n n) ∧ w' = w := by
  go_enter Tryd.func80, Tryd.ntmps80
  go_wp2
  go_ret
  exact ⟨rfl, rfl⟩
set_option maxHeartbeats 2000000 in
theorem vm_emito (T : TypeId) (pre post : List Value) (o : Nat) (w : World) (B b : Nat) (cv tv wv : Value) (s : Vs) (x : Int) (h : ToV T pre post w B b o cv tv wv s) (hBs : B ≤ w.heap.size) (hl : s.t.length ≤ 200) (E : Int) (t' : List Int) (hE : E = if s.t.length = 200 then 8 else 0) (ht : t' = if s.t.length = 200 then s.t else s.t ++ [x]) :
    Calls Tryd.prog 72 #[.pointer (some ⟨b, o, none⟩), .int .i64 x] w fun e w' => e = .returned (.int .i64 E) ∧ (∃ tv', ToV T pre post w' B b o cv tv' wv { s with t := t' } ∧ (tv'.ownBlock = tv.ownBlock ∨ ∃ k, tv'.ownBlock = some k ∧ w.heap.size ≤ k)) ∧ Un (touch b b tv wv) w w' := by
  obtain ⟨p, r, ws, t⟩ := s
  dsimp only at hl hE ht
  have c26 := h.toldv
  have hlt := h.lt
  have h0 : Un (touch b b tv wv) w w := Un.refl _ _
  have hf := h.box.frozen (o + 26)
  obtain ⟨A, c, rfl, hlc⟩ := own_form h.told
  dsimp only at c26 hlc
  by_cases hfull : t.length = 200
  · rw [if_pos hfull] at hE ht
    subst hE ht
    rw [hfull] at c26
    have HTH := Lib.hid h
    clear h hfull hlc
    go_enter Tryd.func72, Tryd.ntmps72
    go_wp2
    go_ret
    exact ⟨rfl, ⟨_, HTH.out, .inl rfl⟩, h0⟩
  · rw [if_neg hfull] at hE ht
    subst hE
    have HT := Lib.hid ht
    obtain ⟨m, hm⟩ : ∃ m, m = t.length := ⟨_, rfl⟩
    have htold := h.told
    dsimp only at htold
    rw [← hm] at c26 htold hl hfull h0 ⊢
    have hv : ((m : Int) == 200) = false := by simp; omega
    have HM := Lib.hid hm
    have HTH := Lib.hid (show ToV T pre post w B b o cv (.slice A m c) wv ⟨p, r, ws, t⟩ by rw [hm]; exact h)
    rw [← hm] at hlc
    clear h hm ht
    go_enter Tryd.func72, Tryd.ntmps72
    go_wp2_with fail
    refine (std_Clip _ A m c hlc).mono ?_
    rintro e w1 ⟨rfl, rfl⟩
    have HR := Lib.hid (Rd.of_own htold)
    have HA := Lib.hid (show A = none → m = 0 from fun e => by subst e; rcases htold.2 with ⟨_, q⟩ | ⟨g, cap, cur, q, _⟩; exact q; cases q)
    clear htold
    go_wp2_with (at_builtin; go_must (refine app_full eltInt w1 rfl (.tmp 16) (.tmp 18) rfl A m (t.map (Value.int .i64)) rfl w1.heap.size HR.out HA.out (Nat.le_refl _) 1 (by omega) [.int .i64 x] w1.heap.size rfl rfl rfl (by omega) (by omega) ?_); intro v' w2 hown hb2; obtain ⟨A1, c1, rfl, hlc1⟩ := own_form hown; obtain ⟨hbx, hth, k1, hk1, hk2⟩ := HTH.out.tellB hBs hb2 hown (by rw [HM.out]); have c26' : w2.cell? ⟨b, o + 26, none⟩ = some (.slice A m c) := (by have := hbx.cell (pre.length + 26); rw [mid_at (by rw [thC_len]; omega), HTH.out.off, thC_told] at this; exact this); have hf' := hbx.frozen (o + 26))
    go_ret
    refine ⟨rfl, ?_, un_at (un_below hb2) (.inl rfl) _ _⟩
    rw [HT.out]; exact ⟨_, hth, .inr ⟨k1, hk1, hk2⟩⟩
end Go.Proofs.YtjihopbapnfppabDoor

set_option linter.unusedSimpArgs false
set_option linter.unusedVariables false
namespace Go.Proofs.YtjihopbapnfppabDoor
open Go.RowKit Go.Ord Go.Baro

set_option maxRecDepth 100000 in
set_option maxHeartbeats 4000000 in
theorem vm_accesso (T : TypeId) (pre post : List Value) (o : Nat) (w : World) (B b n wn wc : Nat) (wA : Option Addr) (cv tv : Value) (s s' : Vs) (k a' b' c d' E : Int) (h : ToV T pre post w B b o cv tv (.slice wA wn wc) { s with p := s.p + 1 }) (hBs : B ≤ w.heap.size) (hl : s.w.length ≤ 200)
    (hk : k = 13 ∨ k = 14 ∨ k = 15) (ho : okI n ⟨k, a', b', c, d'⟩) (hs : stp n ⟨k, a', b', c, d'⟩ s = (s', E)) :
    Calls Tryd.prog 71 #[.pointer (some ⟨b, o, none⟩), .agg #[.int .i64 k, .int .i64 a', .int .i64 b', .int .i64 c, .int .i64 d'], .slice wA wn wc] w fun e w' => e = .returned (.int .i64 E) ∧ ToV T pre post w' B b o cv tv (.slice wA wn wc) s' ∧ Un (touch b b tv (.slice wA wn wc)) w w' := by
  obtain ⟨p, r, ws, t⟩ := s
  dsimp only at h hl
  have hra : isR a' := by unfold okI isR isT at ho; unfold isR; dsimp only at ho; omega
  have hrb : isR b' := by unfold okI isR isT at ho; unfold isR; dsimp only at ho; omega
  have hrd : k = 15 → isR d' := by unfold okI isR isT at ho; unfold isR; dsimp only at ho; omega
  clear ho
  unfold isR at hra hrb hrd
  obtain ⟨a, rfl⟩ : ∃ a : Nat, a' = a := ⟨a'.toNat, by omega⟩
  obtain ⟨bb, rfl⟩ : ∃ a : Nat, b' = a := ⟨b'.toNat, by omega⟩
  have ha : a < 24 := by omega
  have hb : bb < 24 := by omega
  have hwn : wn = ws.length := by
    obtain ⟨A, c', he, _⟩ := own_form h.words
    injection he
  obtain ⟨q, hq⟩ : ∃ q, wrap64 (r bb + c) = q := ⟨_, rfl⟩
  have h0 : Un (touch b b tv (.slice wA wn wc)) w w := Un.refl _ _
  have hlt := h.lt
  have ga := h.get ha
  have gb := h.get hb
  have fa := h.box.frozen (o + 2 + a)
  dsimp only at ga gb
  by_cases hrange : q < 0 ∨ (wn : Int) ≤ q
  · have hs1 : (s', E) = (⟨p + 1, r, ws, t⟩, 2) := by
      rw [← hs]; exact stp_out hk hq (by dsimp only; omega)
    injection hs1 with hs1 hs2
    subst hs1 hs2
    have HTH := Lib.hid h
    have HQ := Lib.hid hq
    clear hs hwn h
    by_cases hneg : q < 0
    · go_enter Tryd.func71, Tryd.ntmps71
      go_wp2
      refine region_two [0, 1, 2, 3, 4, 5, 6, 7, 8, 9, 10] [] (by kernel_rfl) (by kernel_rfl) ?_
      simp only [pick, List.map_cons, List.map_nil, List.getD_cons_zero, List.getD_cons_succ]
      go_wp2
      go_ret
      exact ⟨rfl, (HTH.out.alloc _).drewN _, (h0.alloc _).drewN _⟩
    · have hge : (wn : Int) ≤ q := by omega
      go_enter Tryd.func71, Tryd.ntmps71
      go_wp2
      refine region_two [0, 1, 2, 3, 4, 5, 6, 7, 8, 9, 10] [] (by kernel_rfl) (by kernel_rfl) ?_
      simp only [pick, List.map_cons, List.map_nil, List.getD_cons_zero, List.getD_cons_succ]
      go_wp2
      go_ret
      exact ⟨rfl, (HTH.out.alloc _).drewN _, (h0.alloc _).drewN _⟩
  · obtain ⟨qn, rfl⟩ : ∃ qn : Nat, q = qn := ⟨q.toNat, by omega⟩
    have hqn : qn < wn := by omega
    have hqs : qn < ws.length := by omega
    obtain ⟨g, wc', x, he, hBg, hgs, hgb, gx, HX, fx⟩ := h.some (q := qn) hqs
    injection he with he1 he2 he3
    subst he1 he3
    have hrange' : ¬ (wrap64 (r (bb : Int) + c) < 0 ∨ (ws.length : Int) ≤ wrap64 (r (bb : Int) + c)) := by rw [hq, ← hwn]; omega
    have hgetD : ws[qn]?.getD 0 = x := by rw [HX.out]; rfl
    clear hrange
    rcases hk with rfl | rfl | rfl
    · have hs1 : (s', E) = (⟨p + 1, upd r a x, ws, t⟩, 0) := by
        rw [← hs]; exact stp_13 hq HX.out
      injection hs1 with hs1 hs2
      subst hs1 hs2
      have HTH := Lib.hid h
      clear hs hwn h hgetD hrange' he2
      go_enter Tryd.func71, Tryd.ntmps71
      go_wp2
      refine region_two [0, 1, 2, 3, 4, 5, 6, 7, 8, 9, 10] [] (by kernel_rfl) (by kernel_rfl) ?_
      simp only [pick, List.map_cons, List.map_nil, List.getD_cons_zero, List.getD_cons_succ]
      go_wp2
      refine region_two [0, 1, 2, 3, 4, 5, 6, 7, 8, 9] [10] (by kernel_rfl) (by kernel_rfl) ?_
      simp only [pick, List.map_cons, List.map_nil, List.getD_cons_zero, List.getD_cons_succ]
      go_wp2
      go_ret
      exact ⟨rfl, ((HTH.out.reg ha x).alloc _).drew.drew, ((un_at h0 touch_b _ _).alloc _).drew.drew⟩
    · have hs1 : (s', E) = (⟨p + 1, r, ws.set qn (r a), t⟩, 0) := by
        rw [← hs]; exact stp_14 hq hqs
      injection hs1 with hs1 hs2
      subst hs1 hs2
      have HTH := Lib.hid h
      clear hs hwn h hgetD hrange' he2
      go_enter Tryd.func71, Tryd.ntmps71
      go_wp2
      refine region_two [0, 1, 2, 3, 4, 5, 6, 7, 8, 9, 10] [] (by kernel_rfl) (by kernel_rfl) ?_
      simp only [pick, List.map_cons, List.map_nil, List.getD_cons_zero, List.getD_cons_succ]
      go_wp2
      refine region_two [0, 1, 2, 3, 4, 5, 6, 7, 8, 9] [10] (by kernel_rfl) (by kernel_rfl) ?_
      simp only [pick, List.map_cons, List.map_nil, List.getD_cons_zero, List.getD_cons_succ]
      go_wp2
      go_ret
      exact ⟨rfl, ((HTH.out.word rfl (r a)).alloc _).drew.drew, ((un_at h0 touch_w _ _).alloc _).drew.drew⟩
    · have hd := hrd rfl
      obtain ⟨d, rfl⟩ : ∃ a : Nat, d' = a := ⟨d'.toNat, by omega⟩
      have hd24 : d < 24 := by omega
      have gd := h.get hd24
      dsimp only at gd
      by_cases hsame : x = r d
      · have hs1 : (s', E) = (⟨p + 1, upd r a 1, ws.set qn (r a), t⟩, 0) := by
          rw [← hs]; exact stp_15t hq HX.out hsame
        injection hs1 with hs1 hs2
        subst hs1 hs2
        have HTH := Lib.hid h
        have hv : (x == r (d : Int)) = true := by simp [hsame]
        have HSM := Lib.hid hsame
        clear hs hwn h hgetD hrange' he2 hsame hd hrd
        go_enter Tryd.func71, Tryd.ntmps71
        go_wp2
        refine region_two [0, 1, 2, 3, 4, 5, 6, 7, 8, 9, 10] [] (by kernel_rfl) (by kernel_rfl) ?_
        simp only [pick, List.map_cons, List.map_nil, List.getD_cons_zero, List.getD_cons_succ]
        go_wp2
        refine region_two [0, 1, 2, 3, 4, 5, 6, 7, 8, 9, 10, 11, 12] [] (by kernel_rfl) (by kernel_rfl) ?_
        simp only [pick, List.map_cons, List.map_nil, List.getD_cons_zero, List.getD_cons_succ]
        go_wp2
        refine region_two [0, 1, 2, 3, 4, 5, 6, 7, 8, 9] [10] (by kernel_rfl) (by kernel_rfl) ?_
        simp only [pick, List.map_cons, List.map_nil, List.getD_cons_zero, List.getD_cons_succ]
        go_wp2
        refine region_first [0, 1, 2, 3, 5, 6] (.cons 4 (seq [7] (seq [8] .nil))) (by kernel_rfl) (by kernel_rfl) ?_
        simp only [pick, List.map_cons, List.map_nil, List.getD_cons_zero, List.getD_cons_succ]
        go_wp2
        refine ord_call (by kernel_rfl) ?_
        simp only [pick, List.map_cons, List.map_nil, List.getD_cons_zero, List.getD_cons_succ]
        go_wp2_with (go_at_call 79; refine (vm_truth true _).mono ?_; rintro e w' ⟨rfl, rfl⟩)
        refine ord_more [7] (seq [8] .nil) (by kernel_rfl) ?_
        simp only [pick, List.map_cons, List.map_nil, List.getD_cons_zero, List.getD_cons_succ]
        go_wp2
        refine ord_last [8] (by kernel_rfl) ?_
        simp only [pick, List.map_cons, List.map_nil, List.getD_cons_zero, List.getD_cons_succ]
        go_wp2
        go_ret
        exact ⟨rfl, (((HTH.out.word rfl (r a)).reg ha 1).alloc _).drew.drew.drew.drew, ((un_at (un_at h0 touch_w _ _) touch_b _ _).alloc _).drew.drew.drew.drew⟩
      · have hs1 : (s', E) = (⟨p + 1, upd r a 0, ws, t⟩, 0) := by
          rw [← hs]; exact stp_15f hq HX.out hsame
        injection hs1 with hs1 hs2
        subst hs1 hs2
        have HTH := Lib.hid h
        have hv : (x == r (d : Int)) = false := by simp [hsame]
        have HSM := Lib.hid hsame
        clear hs hwn h hgetD hrange' he2 hsame hd hrd
        go_enter Tryd.func71, Tryd.ntmps71
        go_wp2
        refine region_two [0, 1, 2, 3, 4, 5, 6, 7, 8, 9, 10] [] (by kernel_rfl) (by kernel_rfl) ?_
        simp only [pick, List.map_cons, List.map_nil, List.getD_cons_zero, List.getD_cons_succ]
        go_wp2
        refine region_two [0, 1, 2, 3, 4, 5, 6, 7, 8, 9, 10, 11, 12] [] (by kernel_rfl) (by kernel_rfl) ?_
        simp only [pick, List.map_cons, List.map_nil, List.getD_cons_zero, List.getD_cons_succ]
        go_wp2
        refine region_first [0, 1, 2, 3, 5, 6] (.cons 4 (seq [7] (seq [8] .nil))) (by kernel_rfl) (by kernel_rfl) ?_
        simp only [pick, List.map_cons, List.map_nil, List.getD_cons_zero, List.getD_cons_succ]
        go_wp2
        refine ord_call (by kernel_rfl) ?_
        simp only [pick, List.map_cons, List.map_nil, List.getD_cons_zero, List.getD_cons_succ]
        go_wp2_with (go_at_call 79; refine (vm_truth false _).mono ?_; rintro e w' ⟨rfl, rfl⟩)
        refine ord_more [7] (seq [8] .nil) (by kernel_rfl) ?_
        simp only [pick, List.map_cons, List.map_nil, List.getD_cons_zero, List.getD_cons_succ]
        go_wp2
        refine ord_last [8] (by kernel_rfl) ?_
        simp only [pick, List.map_cons, List.map_nil, List.getD_cons_zero, List.getD_cons_succ]
        go_wp2
        go_ret
        exact ⟨rfl, ((HTH.out.reg ha 0).alloc _).drew.drew.drew, ((un_at h0 touch_b _ _).alloc _).drew.drew.drew⟩
end Go.Proofs.YtjihopbapnfppabDoor

set_option linter.unusedSimpArgs false
set_option linter.unusedVariables false
namespace Go.Proofs.YtjihopbapnfppabDoor
open Go.RowKit Go.Ord Go.Baro

/-- What a run leaves. -/
def RnPost (T W : List Int) (N : Nat) (E : Int) (w : World) (e : Ending) (w' : World) : Prop := ∃ A1 n1 c1 A2 n2 c2, e = .returned (.tuple #[.slice A1 n1 c1, .slice A2 n2 c2, .int .i64 N, .int .i64 E]) ∧ RI w' w'.heap.size .i64 A1 n1 T ∧ RI w' w'.heap.size .i64 A2 n2 W ∧
  n1 ≤ c1 ∧ n2 ≤ c2 ∧ n1 ≤ 200 ∧ n2 ≤ 200 ∧ Below w.heap.size w w'

/-- How far a run has come. -/
def Prog (l : List Ins) (L j : Nat) (s0 s : Vs) (E : Int) : Prop := (E = 0 ∧ Ok l.length s ∧ rn l L s0 = ((rn l (L - j) s).1, (rn l (L - j) s).2.1 + j, (rn l (L - j) s).2.2)) ∨ (E ≠ 0 ∧ s.t.length ≤ 200 ∧ s.w.length ≤ 200 ∧ rn l L s0 = (s, j, E))
theorem prog_end {l : List Ins} {L j : Nat} {s0 s : Vs} (h : Prog l L j s0 s 0) (hp : s.p = l.length) : rn l L s0 = (s, j, 0) := by
  rcases h with ⟨_, _, h⟩ | ⟨h, _⟩
  · rw [h, rn_end hp]; simp
  · exact absurd rfl h
theorem prog_over {l : List Ins} {j : Nat} {s0 s : Vs} (h : Prog l j j s0 s 0) (hp : s.p ≠ l.length) : rn l j s0 = (s, j, 11) := by
  rcases h with ⟨_, _, h⟩ | ⟨h, _⟩
  · rw [h, Nat.sub_self, rn_over hp]; simp
  · exact absurd rfl h
theorem prog_step {l : List Ins} {L j : Nat} {s0 s s' : Vs} {o : Ins} {E : Int} (h : Prog l L j s0 s 0) (hj : j < L) (hp : s.p ≠ l.length) (ho : l[s.p.toNat]? = some o) (hs : stp l.length o s = (s', E)) (hok : okI l.length o) (hi : inI o) : Prog l L (j + 1) s0 s' E := by
  rcases h with ⟨_, hk, h⟩ | ⟨h, _⟩
  · have hk' := stp_ok hok hi hk (by have := hk.hi; omega)
    rw [hs] at hk'
    rw [show L - j = (L - (j + 1)) + 1 by omega] at h
    by_cases hE : E = 0
    · subst hE
      rw [rn_step hp ho hs] at h
      exact .inl ⟨rfl, hk', by rw [h]; simp only [Prod.mk.injEq, and_true, true_and]; omega⟩
    · rw [rn_err hp ho hs hE] at h
      exact .inr ⟨hE, hk'.tl, hk'.wl, by rw [h]; simp only [Prod.mk.injEq, and_true, true_and]; omega⟩
  · exact absurd rfl h
theorem prog_err {l : List Ins} {L j : Nat} {s0 s : Vs} {E : Int} (h : Prog l L j s0 s E) (hE : E ≠ 0) : rn l L s0 = (s, j, E) ∧ s.t.length ≤ 200 ∧ s.w.length ≤ 200 := by
  rcases h with ⟨h, _⟩ | ⟨_, h1, h2, h⟩
  · exact absurd h hE
  · exact ⟨h, h1, h2⟩
theorem prog_ok {l : List Ins} {L j : Nat} {s0 s : Vs} (h : Prog l L j s0 s 0) : Ok l.length s := by
  rcases h with ⟨_, h, _⟩ | ⟨h, _⟩
  · exact h
  · exact absurd rfl h

/-- How far a run has come: an error has ended the call. -/
def ProgC (l : List Ins) (L j : Nat) (s0 s : Vs) (E : Int) : Prop := (E = 0 ∧ Ok l.length s ∧ rn l L s0 = ((rn l (L - j) s).1, (rn l (L - j) s).2.1 + j, (rn l (L - j) s).2.2)) ∨ (E ≠ 0 ∧ s.p = l.length ∧ s.t.length ≤ 200 ∧ s.w.length ≤ 200 ∧ ∃ p, rn l L s0 = ({ s with p := p }, j, E))
/-- The state behind an instruction: an error ends the call. -/
def aft (n : Nat) (E : Int) (s : Vs) : Vs := { s with p := if E = 0 then s.p else n }
theorem aft_ok (n : Nat) (s : Vs) : aft n 0 s = s := rfl
theorem aft_err {n : Nat} {E : Int} (h : E ≠ 0) (s : Vs) : aft n E s = { s with p := n } := by unfold aft; rw [if_neg h]
theorem progc_end {l : List Ins} {L j : Nat} {s0 s : Vs} {E : Int} (h : ProgC l L j s0 s E) (hp : s.p = l.length) : ∃ p, rn l L s0 = ({ s with p := p }, j, E) := by
  rcases h with ⟨h0, _, h⟩ | ⟨_, _, _, _, h⟩
  · rw [h, rn_end hp, h0]; exact ⟨s.p, by simp⟩
  · exact h
theorem progc_zero {l : List Ins} {L j : Nat} {s0 s : Vs} {E : Int} (h : ProgC l L j s0 s E) (hp : s.p ≠ l.length) : E = 0 := by
  rcases h with ⟨h, _⟩ | ⟨_, h, _⟩
  · exact h
  · exact absurd h hp
theorem progc_over {l : List Ins} {j : Nat} {s0 s : Vs} (h : ProgC l j j s0 s 0) (hp : s.p ≠ l.length) : rn l j s0 = (s, j, 11) := by
  rcases h with ⟨_, _, h⟩ | ⟨h, _⟩
  · rw [h, Nat.sub_self, rn_over hp]; simp
  · exact absurd rfl h
theorem progc_step {l : List Ins} {L j : Nat} {s0 s s' : Vs} {o : Ins} {E : Int} (h : ProgC l L j s0 s 0) (hj : j < L) (hp : s.p ≠ l.length) (ho : l[s.p.toNat]? = some o) (hs : stp l.length o s = (s', E)) (hok : okI l.length o) (hi : inI o) : ProgC l L (j + 1) s0 (aft l.length E s') E := by
  rcases h with ⟨_, hk, h⟩ | ⟨h, _⟩
  · have hk' := stp_ok hok hi hk (by have := hk.hi; omega)
    rw [hs] at hk'
    rw [show L - j = (L - (j + 1)) + 1 by omega] at h
    by_cases hE : E = 0
    · subst hE
      rw [rn_step hp ho hs] at h
      exact .inl ⟨rfl, hk', by rw [h, aft_ok]; simp only [Prod.mk.injEq, and_true, true_and]; omega⟩
    · rw [rn_err hp ho hs hE] at h
      rw [aft_err hE]
      exact .inr ⟨hE, rfl, hk'.tl, hk'.wl, s'.p, by rw [h]; simp only [Prod.mk.injEq, and_true, true_and]; omega⟩
  · exact absurd rfl h
theorem progc_len {l : List Ins} {L j : Nat} {s0 s : Vs} {E : Int} (h : ProgC l L j s0 s E) : s.t.length ≤ 200 ∧ s.w.length ≤ 200 := by
  rcases h with ⟨_, h, _⟩ | ⟨_, _, h1, h2, _⟩
  · exact ⟨h.tl, h.wl⟩
  · exact ⟨h1, h2⟩
theorem progc_ok {l : List Ins} {L j : Nat} {s0 s : Vs} (h : ProgC l L j s0 s 0) : Ok l.length s := by
  rcases h with ⟨_, h, _⟩ | ⟨h, _⟩
  · exact h
  · exact absurd rfl h

end Go.Proofs.YtjihopbapnfppabDoor
