/- What addField does. No statement of the seat is proved here; no condition. -/
import Derived.Test.YtnpabbinckcbaaaDoorZig2
import Derived.Test.YtnpabbinckcbaaaDoorBitsW
import Derived.Test.YtnpabbinckcbaaaDoorZigPack
set_option linter.unusedSimpArgs false
set_option linter.unusedVariables false
namespace Go.Proofs.YtnpabbinckcbaaaDoor
open Go.RowKit Go.Ord Go.Baro

theorem eltField : Elt Tryd.prog 66 74 (.agg #[.int .i64 0, .int .i64 0]) 2 16 := Elt.mk' Tryd.underlying66 (by kernel_rfl) rfl (by decide)

section
variable {P : Program} {t e : TypeId} {z : Value} {s by' : Nat} {ops : Array Oper} {rest : List Oper} {o : Oper} {a : Act} {Q : Exit → Act → World → Prop}
/-- An append behind three draws. -/
theorem app_lit3 (E : Elt P t e z s by') (w : World) (hgd : o.guard = none) (l x : Operand) (ho : o.op = .call { callee := .builtin .append, args := #[l, x], argTypes := #[t, t] })
    (base : Nat) (v : Value) (n : Nat) (xs : List Value) (hs : a.eval l = v) (hown : w.ownsRow base e s v n xs) (m : Nat) (cs : List Value)
    (g : Nat) (hg : g = w.heap.size) (hx : a.eval x = .slice (some ⟨g, 0, none⟩) m m) (hl : cs.length = m * s) (h1 : ∀ u ∈ cs, u.oneCell' = true) (hn : (n + m) * by' ≤ 140737488355328) (hn' : n + m ≤ 140737488355328) (hb : base ≤ w.heap.size)
    (h : ∀ v' w', w'.ownsRow base e s v' (n + m) (xs ++ cs) → (w.alloc (.cells cs.toArray e)).grownBy w' v.ownBlock → (∀ w0, Below base w0 w → Below base w0 w') → base ≤ w'.heap.size → wpList P ops Q rest (a.put o.dst v') w') :
    wpList P ops Q (o :: rest) a (w.alloc (.cells cs.toArray e)).drew.drew.drew :=
  app_lit E w.drew.drew.drew hgd l x ho base v n xs hs hown m cs g hg hx hl h1 hn hn' hb fun v' w' h1 h2 h3 h4 => h v' w' h1 ⟨h2.os, h2.tape, h2.output, h2.size, h2.block⟩ (fun w0 hb0 => h3 w0 hb0.drew.drew.drew) h4
end

theorem cellsF_set2 (pre : List (Int × Int)) (a b c d : Int) (m : Nat) (hm : pre.length = m) :
    ((cellsF (pre ++ [(a, b)])).set (m * 2) (.int .i64 c)).set (m * 2 + 1) (.int .i64 d) = cellsF (pre ++ [(c, d)]) := by
  subst hm
  have h2 := cellsF_length pre
  rw [cellsF_append, cellsF_append, List.set_append_right _ _ (by omega), h2, Nat.sub_self, List.set_append_right _ _ (by omega), h2, show pre.length * 2 + 1 - pre.length * 2 = 1 by omega]
  rfl
theorem up_lt {lv : Int} {a b : Nat} (h0 : 0 ≤ lv) (h1 : lv < 2 ^ a) (h : a + b ≤ 60) : 0 ≤ lv * 2 ^ b ∧ lv * 2 ^ b < 1152921504606846976 := by
  have hp : (0 : Int) < 2 ^ b := Int.pow_pos (by decide)
  have h2 : lv * 2 ^ b < 2 ^ a * 2 ^ b := Int.mul_lt_mul_of_pos_right h1 hp
  rw [← Int.pow_add] at h2
  have h3 := pow_le (j := a + b) (k := 60) h
  exact ⟨Int.mul_nonneg h0 (by omega), by omega⟩
theorem join_val {lv V : Int} {a b : Nat} (h0 : 0 ≤ lv) (h1 : lv < 2 ^ a) (h : a + b ≤ 60) (v0 : 0 ≤ V) (v1 : V < 2 ^ b) : bits .or .i64 (wrap64 (lv * 2 ^ b)) V = lv * 2 ^ b + V := by
  have hu := up_lt h0 h1 h
  have h3 := pow_le (j := b) (k := 60) (by omega)
  rw [IntWalk.wrap64_in _ ⟨by omega, by omega⟩]
  exact i64_or_lt b _ _ hu.1 (Int.mul_emod_left _ _) (by omega) v0 v1 (by omega)
theorem mask_val {V : Int} {r : Nat} (v0 : 0 ≤ V) (v1 : V < 1152921504606846976) (hr : r ≤ 60) : bits .and .i64 V (2 ^ r - 1) = V % 2 ^ r := bits_mask .i64 62 (by decide) wraps_i64 r (by omega) V v0 (by omega)

theorem grown_transO {w w1 w2 : World} {r : Option Nat} (h : w.grownBy w1 r) (h' : w1.grownBy w2 r) : w.grownBy w2 r :=
  ⟨h'.os.trans h.os, h'.tape.trans h.tape, h'.output.trans h.output, Nat.le_trans h.size h'.size, fun k hk hne => (h'.block k (Nat.lt_of_lt_of_le hk h.size) hne).trans (h.block k hk hne)⟩
theorem grown_allocO {w w1 : World} {r : Option Nat} (h : w.grownBy w1 r) (o : Obj) : w.grownBy (w1.alloc o) r := grown_transO h (World.grownBy_alloc _ _ _)
/-- Two cells of an element that the call owns are stored. -/
theorem own_two {w : World} {base g n c : Nat} {e : TypeId} {xs : List Value} (hown : w.ownsRow base e 2 (.slice (some ⟨g, 0, none⟩) n c) n xs) (i j : Nat) (u v : Value) :
    ((w.setCell ⟨g, i, none⟩ u).setCell ⟨g, j, none⟩ v).ownsRow base e 2 (.slice (some ⟨g, 0, none⟩) n c) n ((xs.set i u).set j v) ∧ w.grownBy ((w.setCell ⟨g, i, none⟩ u).setCell ⟨g, j, none⟩ v) (some g) := by
  have h1 := World.ownsRow.stored hown i u
  have h2 := World.ownsRow.stored h1.1 j v
  exact ⟨h2.1, grown_trans h1.2 h2.2⟩

set_option maxHeartbeats 2000000 in
theorem zig_addA (pre : List (Int × Int)) (lw lv W V : Int) (g m c : Nat) (w : World) (base : Nat)
    (hown : w.ownsRow base 74 2 (.slice (some ⟨g, 0, none⟩) (m + 1) c) (m + 1) (cellsF (pre ++ [(lw, lv)]))) (hm : m ≤ 400)
    (hl : okF (lw, lv)) (hf : okF (W, V)) (hc : lw + W ≤ 60) :
    Calls Tryd.prog 33 #[.slice (some ⟨g, 0, none⟩) (m + 1) c, .agg #[.int .i64 W, .int .i64 V]] w fun e w' =>
      e = .returned (.slice (some ⟨g, 0, none⟩) (m + 1) c) ∧ w'.ownsRow base 74 2 (.slice (some ⟨g, 0, none⟩) (m + 1) c) (m + 1) (cellsF (pre ++ [(lw + W, lv * 2 ^ W.toNat + V)])) ∧ w.grownBy w' (some g) := by
  obtain ⟨⟨l0, l1⟩, l2, l3⟩ := hl
  obtain ⟨⟨f0, f1⟩, f2, f3⟩ := hf
  dsimp only at l0 l1 l2 l3 f0 f1 f2 f3
  have hpl : pre.length = m := by have := hown.1; rw [cellsF_length] at this; simp at this; omega
  have hglt : g < w.heap.size := (hown.lt g rfl).2
  obtain ⟨hc0, hc1⟩ := cellsF_at (pre ++ [(lw, lv)]) m (lw, lv) (by rw [List.getElem?_append_right (by omega), hpl]; simp)
  have hx0 := hown.cellAt (m * 2) (by omega)
  have hx1 := hown.cellAt (m * 2 + 1) (by omega)
  rw [hc0] at hx0
  rw [hc1] at hx1
  dsimp only at hx0 hx1
  have hz0 := hown.frozenAt (m * 2)
  have hz1 := hown.frozenAt (m * 2 + 1)
  clear hc0 hc1
  go_enter Tryd.func33, Tryd.ntmps33
  go_wp2
  refine region_two [0, 1, 2, 3, 4, 5, 6] [7, 8] (by kernel_rfl) (by kernel_rfl) ?_
  simp only [pick, List.map_cons, List.map_nil, List.getD_cons_zero, List.getD_cons_succ]
  go_wp2
  refine region_two [0, 1, 2, 3, 4, 5, 6, 7, 8, 9, 10, 11, 12, 13, 14] [15] (by kernel_rfl) (by kernel_rfl) ?_
  simp only [pick, List.map_cons, List.map_nil, List.getD_cons_zero, List.getD_cons_succ]
  go_wp2
  refine region_two [0, 1, 2, 3, 4, 5, 6, 7] [8] (by kernel_rfl) (by kernel_rfl) ?_
  simp only [pick, List.map_cons, List.map_nil, List.getD_cons_zero, List.getD_cons_succ]
  go_wp2
  go_ret
  rw [join_val (a := lw.toNat) l2 l3 (by omega) f2 f3]
  have h2 := own_two hown (m * 2) (m * 2 + 1) (.int .i64 (lw + W)) (.int .i64 (lv * 2 ^ W.toNat + V))
  rw [cellsF_set2 pre lw lv _ _ m hpl] at h2
  exact ⟨rfl, h2.1.alloc _, grown_drewN (grown_alloc h2.2 _) 3⟩

set_option maxHeartbeats 2000000 in
theorem zig_addB (pre : List (Int × Int)) (lw lv W V : Int) (g m c : Nat) (w : World) (base : Nat)
    (hown : w.ownsRow base 74 2 (.slice (some ⟨g, 0, none⟩) (m + 1) c) (m + 1) (cellsF (pre ++ [(lw, lv)]))) (hm : m ≤ 400)
    (hl : okF (lw, lv)) (hf : okF (W, V)) (hc : 60 < lw + W) (hbase : base ≤ w.heap.size) :
    Calls Tryd.prog 33 #[.slice (some ⟨g, 0, none⟩) (m + 1) c, .agg #[.int .i64 W, .int .i64 V]] w fun e w' =>
      ∃ v, e = .returned v ∧ w'.ownsRow base 74 2 v (m + 2) (cellsF ((pre ++ [(60, lv * 2 ^ (60 - lw).toNat + V / 2 ^ (W + lw - 60).toNat)]) ++ [(W + lw - 60, V % 2 ^ (W + lw - 60).toNat)])) ∧ (∀ w0, Below base w0 w → Below base w0 w') ∧ w.grownBy w' (some g) := by
  obtain ⟨⟨l0, l1⟩, l2, l3⟩ := hl
  obtain ⟨⟨f0, f1⟩, f2, f3⟩ := hf
  dsimp only at l0 l1 l2 l3 f0 f1 f2 f3
  have hpl : pre.length = m := by have := hown.1; rw [cellsF_length] at this; simp at this; omega
  have hglt : g < w.heap.size := (hown.lt g rfl).2
  obtain ⟨hc0, hc1⟩ := cellsF_at (pre ++ [(lw, lv)]) m (lw, lv) (by rw [List.getElem?_append_right (by omega), hpl]; simp)
  have hx0 := hown.cellAt (m * 2) (by omega)
  have hx1 := hown.cellAt (m * 2 + 1) (by omega)
  rw [hc0] at hx0
  rw [hc1] at hx1
  dsimp only at hx0 hx1
  have hz0 := hown.frozenAt (m * 2)
  have hz1 := hown.frozenAt (m * 2 + 1)
  clear hc0 hc1
  go_enter Tryd.func33, Tryd.ntmps33
  go_wp2
  refine region_two [0, 1, 2, 3, 4, 5, 6] [7, 8] (by kernel_rfl) (by kernel_rfl) ?_
  simp only [pick, List.map_cons, List.map_nil, List.getD_cons_zero, List.getD_cons_succ]
  go_wp2
  refine region_two [0, 1, 2, 3, 4, 5, 6, 7, 8, 9, 10, 11, 12, 13, 14] [15] (by kernel_rfl) (by kernel_rfl) ?_
  simp only [pick, List.map_cons, List.map_nil, List.getD_cons_zero, List.getD_cons_succ]
  go_wp2
  refine region_two [0, 1, 2, 3, 4, 5, 6, 7] [8] (by kernel_rfl) (by kernel_rfl) ?_
  simp only [pick, List.map_cons, List.map_nil, List.getD_cons_zero, List.getD_cons_succ]
  have h2 := own_two hown (m * 2) (m * 2 + 1) (.int .i64 (lw + (60 - lw))) (.int .i64 (bits .or .i64 (wrap64 (lv * 2 ^ (60 - lw).toNat)) (V / 2 ^ (W - (60 - lw)).toNat)))
  rw [cellsF_set2 pre lw lv _ _ m hpl] at h2
  go_wp2_with (at_builtin; go_must (refine app_lit3 eltField _ rfl _ _ rfl base _ _ _ rfl (by exact h2.1.alloc _) 1 [_, _] (w.heap.size + 1) (by simp) rfl rfl (one2 _ _ _ _) (by omega) (by omega) (by simp; omega) ?_); intro v' w' ho hg hb hsz)
  go_ret
  have e2 : W - (60 - lw) = W + lw - 60 := by omega
  have hp : (0 : Int) < 2 ^ (W + lw - 60).toNat := Int.pow_pos (by decide)
  have hp2 := pow_le (j := (W + lw - 60).toNat) (k := 60) (by omega)
  have hw2 := pow_le (j := W.toNat) (k := 60) (by omega)
  rw [show lw + (60 - lw) = 60 by omega, e2, join_val (a := lw.toNat) l2 l3 (by omega) (Int.ediv_nonneg f2 (by omega)) (by
      apply Int.ediv_lt_of_lt_mul hp
      rw [← Int.pow_add, show (60 - lw).toNat + (W + lw - 60).toNat = W.toNat by omega]; exact f3),
    IntWalk.wrap64_in (2 ^ (W + lw - 60).toNat) ⟨by omega, by omega⟩, IntWalk.wrap64_in _ ⟨by omega, by omega⟩, mask_val f2 (by omega) (by omega)] at ho
  refine ⟨_, rfl, ?_, fun w0 hb0 => hb w0 ?_, ?_⟩
  · rw [cellsF_append (pre ++ _)]
    exact ho
  · exact (below_set hb0 h2.2 (hown.lt g rfl).1 hbase).alloc (by simp; omega) _
  · exact grown_transO (grown_allocO (grown_allocO h2.2 _) _) hg

set_option maxHeartbeats 2000000 in
theorem zig_addN (W V : Int) (v : Value) (w : World) (base : Nat) (hown : w.ownsRow base 74 2 v 0 []) (h0 : 0 < W) (hbase : base ≤ w.heap.size) :
    Calls Tryd.prog 33 #[v, .agg #[.int .i64 W, .int .i64 V]] w fun e w' =>
      ∃ v', e = .returned v' ∧ w'.ownsRow base 74 2 v' 1 (cellsF [(W, V)]) ∧ (∀ w0, Below base w0 w → Below base w0 w') ∧ w.grownBy w' v.ownBlock := by
  obtain ⟨A, c, rfl, _⟩ := own_form hown
  have hb : (W == 0) = false := by simp; omega
  go_enter Tryd.func33, Tryd.ntmps33
  go_wp2_with (at_builtin; go_must (refine app_lit eltField _ rfl _ _ rfl base _ _ _ rfl (by exact hown.alloc _) 1 [_, _] (w.heap.size + 1) (by simp) rfl rfl (one2 _ _ _ _) (by omega) (by omega) (by simp; omega) ?_); intro v' w' ho hg hb hsz)
  go_ret
  exact ⟨_, rfl, ho, fun w0 hb0 => hb w0 (hb0.alloc hbase _), grown_transO (grown_allocO (World.grownBy_alloc _ _ _) _) hg⟩

/-- What addField leaves: fields that hold the bits of the new one too. -/
theorem zig_addField (fs : List (Int × Int)) (bs : List Int) (W V : Int) (v : Value) (n : Nat) (w : World) (base : Nat) (hown : w.ownsRow base 74 2 v n (cellsF fs)) (hp : Pk fs bs) (hn : n ≤ 400)
    (hf : okF (W, V)) (h0 : fs = [] → 0 < W) (hbase : base ≤ w.heap.size) :
    Calls Tryd.prog 33 #[v, .agg #[.int .i64 W, .int .i64 V]] w fun e w' =>
      ∃ v' fs', e = .returned v' ∧ Hid (Pk fs' (bs ++ bitsV W.toNat V)) ∧ Hid (fs' ≠ []) ∧ w'.ownsRow base 74 2 v' fs'.length (cellsF fs') ∧ Below base w w' ∧ w.grownBy w' v.ownBlock := by
  have hl := hown.1
  rw [cellsF_length] at hl
  rcases List.eq_nil_or_concat fs with rfl | ⟨pre, ⟨lw, lv⟩, hcat⟩
  · obtain rfl : n = 0 := by simp at hl; omega
    have hbs : bs = [] := hp.bits.symm
    subst hbs
    refine (zig_addN W V v w base hown (h0 rfl) hbase).mono ?_
    rintro e w' ⟨v', rfl, ho, hb, hgr⟩
    have hb' := hb w (Below.refl _ _)
    exact ⟨v', [(W, V)], rfl, Pk.one hf, List.cons_ne_nil _ _, ho, hb', hgr⟩
  · rw [List.concat_eq_append] at hcat
    subst hcat
    obtain ⟨m, rfl⟩ : ∃ m, n = m + 1 := ⟨pre.length, by simp at hl; omega⟩
    obtain ⟨g, c, rfl, hg, _, _⟩ := own_some hown (by omega)
    have hlast := hp.ok (lw, lv) (by simp)
    have hpl : pre.length = m := by simp at hl; omega
    by_cases hc : lw + W ≤ 60
    · refine (zig_addA pre lw lv W V g m c w base hown (by omega) hlast hf hc).mono ?_
      rintro e w' ⟨rfl, ho, hgr⟩
      have hb' := below_set (Below.refl base w) hgr hg hbase
      refine ⟨_, _, rfl, pk_A hp hf hc, List.append_ne_nil_of_right_ne_nil _ (List.cons_ne_nil _ _), ?_, hb', hgr⟩
      rw [show (pre ++ [(lw + W, lv * 2 ^ W.toNat + V)]).length = m + 1 by simp [hpl]]
      exact ho
    · refine (zig_addB pre lw lv W V g m c w base hown (by omega) hlast hf (by omega) hbase).mono ?_
      rintro e w' ⟨v', rfl, ho, hb, hgr⟩
      have hb' := hb w (Below.refl _ _)
      refine ⟨_, _, rfl, pk_B hp hf (by omega), List.append_ne_nil_of_right_ne_nil _ (List.cons_ne_nil _ _), ?_, hb', hgr⟩
      rw [List.length_append, List.length_append, hpl]
      exact ho
end Go.Proofs.YtnpabbinckcbaaaDoor
