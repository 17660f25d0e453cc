/- What visit of lin does. No statement of the seat is proved here; no condition. -/
import Derived.Test.YtdoniefhmmodbaaLinMap
import Derived.Test.YtdoniefhmmodbaaLinLim
set_option linter.unusedSimpArgs false
set_option linter.unusedVariables false
namespace Go.Proofs.Ytdoniefhmmodbaa
open Go.RowKit Go.Ord Go.Baro Go.MapKept

theorem eltState : Elt Try.prog 76 49 .nilIface 1 16 := Elt.mk' Try.underlying76 (by kernel_rfl) rfl (by decide)
section
variable {w : World} {ops : Array Oper} {rest : List Oper} {o : Oper} {a : Act} {Q : Exit → Act → World → Prop} {B mb N : Nat} {k : Int} {M : Nat → List Int → Prop}
theorem wp_lookS (hg : o.guard = none) (m x : Operand) (hop : o.op = Op.lookup 42 m x false) (hm : a.eval m = .map (some mb)) (h : VM w B mb N k M) (d : Nat) (g : Int) (hx : a.eval x = KV d g)
    (hK : ∀ A n c xs, Rd w w.heap.size 1 A n xs → n ≤ N → (∀ x ∈ xs, ∃ s, StV w k x s ∧ M d s) → wpList Try.prog ops Q rest (a.put o.dst (.slice A n c)) w) : wpList Try.prog ops Q (o :: rest) a w := by
  refine wpList_plain hg fun K' hK' => ?_
  obtain ⟨v, n, xs, hrun, ho, hn, hxs⟩ := h.look d g
  unfold Oper.wp
  simp [execOp, hop, hm, hx, hrun, Result.andThen]
  refine hK' _ _ ?_
  rcases ho.2 with ⟨rfl, rfl⟩ | ⟨b, cap, cur, rfl, _⟩
  · have : xs = [] := List.eq_nil_of_length_eq_zero (by simpa using ho.1)
    subst this
    exact hK none 0 0 [] (Rd.nil _ _ _ _) (Nat.zero_le _) hxs
  · exact hK _ n cap xs (Rd.of_own ho) hn hxs
theorem wp_entry (hg : o.guard = none) (m x : Operand) (hop : o.op = Op.mapEntry 42 m x) (hm : a.eval m = .map (some mb)) (h : VM w B mb N k M) (d : Nat) (g : Int) (hx : a.eval x = KV d g)
    (hK : ∀ w1 es tag i e v n xs, w.grownBy w1 (some mb) → Hid (Kp w w1) → Hid (w1.heap[mb]? = some (.map es es.size)) → Hid (Ents w1 B N k M es tag) → Hid (es[i]? = some e) → Hid (e.key = KV d g) → Hid (e.val = v) → w1.ownsRow B 49 1 v n xs → n ≤ N → Hid (∀ x ∈ xs, ∃ s, StV w1 k x s ∧ M d s) → v.ownBlock ≠ some mb →
      wpList Try.prog ops Q rest (a.put o.dst (.tuple #[v, .int .i64 (i : Nat)])) w1) : wpList Try.prog ops Q (o :: rest) a w := by
  refine wpList_plain hg fun K' hK' => ?_
  obtain ⟨w1, es, tag, i, e, hrun, h1, h2, h3, h4, h5, h6⟩ := h.entry d g
  unfold Oper.wp
  simp [execOp, hop, hm, hx, hrun, Result.andThen]
  obtain ⟨_, d', g', n, xs, q2, q3, q4, q5, _⟩ := h4 i e h5
  rw [h6] at q2
  have hd : (d : Int) = d' := by simp [KV] at q2; exact_mod_cast q2.1
  obtain rfl : d = d' := by omega
  refine hK' _ _ (hK w1 es tag i e e.val n xs h1 h2 h3 h4 h5 h6 rfl q3 q4 q5 ?_)
  rcases map_ne h3 q3 with h | h
  · rw [h]; simp
  · exact h
theorem own_kp {w w' : World} {B n : Nat} {v : Value} {xs : List Value} (ho : w.ownsRow B 49 1 v n xs) (hg : w.grownBy w' v.ownBlock) : Kp w w' :=
  Kp.grown hg fun b cs t fr he hh => by
    rcases ho.2 with ⟨hv, _⟩ | ⟨g', cap, cur, hv, _, hg', _⟩
    · rw [hv] at he; simp [Value.ownBlock] at he
    · rw [hv] at he
      simp only [Value.ownBlock, Option.some.injEq] at he
      subst he
      rw [hg'] at hh
      injection hh with hh
      injection hh with _ hh
      exact hh.symm
theorem lit_kept {w w' : World} {mb : Nat} {x : Value} {e : TypeId} (hg : (w.alloc (.cells #[x] e)).grownBy w' (some mb)) (hm : mb < w.heap.size) : Rd w' w'.heap.size 1 (some ⟨w.heap.size, 0, none⟩) 1 [x] := by
  have h1 := hg.block w.heap.size (by simp) (by simp; omega)
  rw [heap_alloc_new] at h1
  refine ⟨rfl, fun _ => ⟨w.heap.size, 0, rfl, heap_lt h1, fun j hj => ?_⟩⟩
  rw [cell_of_row _ _ _ _ _ _ h1]
  obtain rfl : j = 0 := by omega
  rfl
theorem wp_put (hg : o.guard = none) (hd : o.dst = none) (m x y : Operand) (hop : o.op = Op.entryStore 42 m x y) (hm : a.eval m = .map (some mb)) (i : Nat) (hx : a.eval x = .int .i64 i) (v' : Value) (hy : a.eval y = v')
    (w3 : World) (hrun : (Instr.entryStore 42 (.map (some mb)) (.int .i64 (i : Nat)) v').run Try.prog w = .ok () w3) (hK : wpList Try.prog ops Q rest a w3) : wpList Try.prog ops Q (o :: rest) a w := by
  refine wpList_plain hg fun K' hK' => ?_
  unfold Oper.wp
  simp [execOp, hop, hm, hx, hy, hrun, Result.andThen]
  exact hK' _ _ (by rw [hd]; exact hK)
end
/-- What visit leaves. -/
def VsPost (B mb N : Nat) (k : Int) (M : Nat → List Int → Prop) (d : Nat) (has : List Int) (w : World) (e : Ending) (w' : World) : Prop :=
  (∃ r, e = .returned (.bool r) ∧ (r = false → M d has)) ∧ VM w' B mb (N + 1) k (fun d' s => M d' s ∨ (d' = d ∧ s = has)) ∧ Kp w w' ∧ Below B w w'
set_option maxRecDepth 100000 in
set_option maxHeartbeats 1000000 in
theorem lin_visit (w : World) (s mb B N d : Nat) (k : Int) (v u : Value) (has : List Int) (M : Nat → List Int → Prop) (hs : Box w s 44 [u, .map (some mb)]) (hv : StV w k v has) (hm : VM w B mb N k M) (hN : N ≤ 1000000000000 - 1) :
    Calls Try.prog 28 #[.pointer (some ⟨s, 0, none⟩), .int .u64 d, v] w (VsPost B mb N k M d has w) := by
  have h0 := Below.refl w.heap.size w
  have s1 : w.cell? ⟨s, 1, none⟩ = _ := hs.cell 1
  simp only [List.getElem?_cons_zero, List.getElem?_cons_succ] at s1
  have hBw : B ≤ w.heap.size := Nat.le_trans hm.1 (Nat.le_of_lt hm.lt)
  have ls := hs.lt
  have lm := hm.lt
  obtain ⟨T, y, F, rfl, hmt, hdig⟩ := st_digest hv
  have hm1 := hmt.1 204 w
  have hm2 := hmt.2 #[y] w
  have HD := Lib.hid hdig
  have HV := Lib.hid hv
  have HM := Lib.hid hm
  have HS := Lib.hid hs
  clear hdig hv hm hs
  go_enter Try.func28, Try.ntmps28
  go_wp2_with fail
  refine HD.out.mono ?_
  rintro e w1 ⟨⟨g, rfl⟩, hb1⟩
  have HK1 := Lib.hid (Kp.below hb1)
  have bS1 := HS.out.below hb1 ls
  have HM1 := Lib.hid (HM.out.below hb1)
  have HV1 := Lib.hid (HV.out.kp HK1.out)
  have hB1 := hb1.mono hBw
  have hsz := hb1.size
  clear s1
  -- the place
  have h2 := (Below.refl w1.heap.size w1).alloc (Nat.le_refl _) (Obj.cells #[.int .u64 d, .int .u64 g] 74)
  have bP := Box.newAt w1 74 [.int .u64 d, .int .u64 g] w1.heap.size rfl
  have lP := bP.lt
  have HM2 := Lib.hid (HM1.out.below h2)
  have HV2 := Lib.hid (HV1.out.kp (Kp.below h2))
  have bS2 := bS1.alloc (Obj.cells #[.int .u64 d, .int .u64 g] 74)
  have s1 : (w1.alloc (Obj.cells #[.int .u64 d, .int .u64 g] 74)).cell? ⟨s, 1, none⟩ = _ := bS2.cell 1
  simp only [List.getElem?_cons_zero, List.getElem?_cons_succ] at s1
  go_wp2
  refine region_first [0, 1, 2, 3, 4, 6, 7] (.fork 5 (.cons 8 (seq [9] .nil)) 8 (.cons 5 (seq [9] .nil))) (by kernel_rfl) (by kernel_rfl) ?_
  simp only [pick, List.map_cons, List.map_nil, List.getD_cons_zero, List.getD_cons_succ]
  go_wp2
  have hdr : Below (w1.alloc (Obj.cells #[.int .u64 d, .int .u64 g] 74)).heap.size (w1.alloc (Obj.cells #[.int .u64 d, .int .u64 g] 74)) (w1.alloc (Obj.cells #[.int .u64 d, .int .u64 g] 74)).drew := (Below.refl _ _).drew
  have HM3 := Lib.hid (HM2.out.below hdr)
  have HV3 := Lib.hid (HV2.out.kp (Kp.below hdr))
  refine ord_fork (by kernel_rfl) ?_ ?_
  · simp only [pick, List.map_cons, List.map_nil, List.getD_cons_zero, List.getD_cons_succ]
    go_wp2_with (refine wp_lookS rfl (.tmp 15) (.tmp 16) rfl rfl HM3.out d g rfl ?_; intro A n c xs hr hn hx)
    have HX := Lib.hid hx
    have HR := Lib.hid hr
    clear hx hr
    refine ord_call (by kernel_rfl) ?_
    simp only [pick, List.map_cons, List.map_nil, List.getD_cons_zero, List.getD_cons_succ]
    go_wp2
    refine ord_last [9] (by kernel_rfl) ?_
    simp only [pick, List.map_cons, List.map_nil, List.getD_cons_zero, List.getD_cons_succ]
    go_wp2_with fail
    refine (lin_ContainsSame _ A n c k (.iface T y) has xs (M d) HR.out HV3.out HX.out (by omega)).mono ?_
    rintro e w2 ⟨⟨r, rfl, hr⟩, hb2⟩
    have HRR := Lib.hid hr
    clear hr
    have hb3 := ((h2.trans (hdr.mono h2.size)).trans (hb2.mono h2.size))
    have HM4 := Lib.hid (HM3.out.below hb2)
    have HV4 := Lib.hid (HV3.out.kp (Kp.below hb2))
    have bS4 := bS2.below (hdr.trans hb2) bS2.lt
    have bP4 := bP.below (hdr.trans hb2) lP
    have HK4 := Lib.hid (HK1.out.trans (Kp.below hb3))
    have hB4 := hB1.trans (hb3.mono (Nat.le_trans hBw hsz))
    have hsz4 := hb3.size
    clear s1
    have s1 : w2.cell? ⟨s, 1, none⟩ = _ := bS4.cell 1
    have p0 : w2.cell? ⟨w1.heap.size, 0, none⟩ = _ := bP4.cell 0
    have p1 : w2.cell? ⟨w1.heap.size, 1, none⟩ = _ := bP4.cell 1
    simp only [List.getElem?_cons_zero, List.getElem?_cons_succ] at s1 p0 p1
    clear HR HX HM3 HV3 bP bP4 h2 hb2 hb3 HM1 HM2 HV1 HV2 bS2 bS1 HD hdr
    cases r with
    | true =>
      go_wp2
      go_ret
      refine ⟨⟨false, rfl, fun _ => HRR.out trivial⟩, HM4.out.mono (Nat.le_succ _) (fun _ _ h => .inl h), HK4.out, hB4⟩
    | false =>
      go_wp2
      refine region_first [0, 1, 2, 3, 4, 5] (.cons 6 (seq [7, 8, 10, 9, 11] .nil)) (by kernel_rfl) (by kernel_rfl) ?_
      simp only [pick, List.map_cons, List.map_nil, List.getD_cons_zero, List.getD_cons_succ]
      go_wp2
      have lm4 : mb < w2.drew.heap.size := HM4.out.lt
      have hL := (Below.refl w2.heap.size w2).drew.alloc (Nat.le_refl _) (Obj.cells #[.iface T y] 49)
      have HM5 := Lib.hid (HM4.out.below hL)
      have HV5 := Lib.hid (HV4.out.kp (Kp.below hL))
      have HK5 := Lib.hid (HK4.out.trans (Kp.below hL))
      have hB5 := hB4.trans (hL.mono (Nat.le_trans hBw (Nat.le_trans hsz (Nat.le_trans (by simp) hsz4))))
      refine ord_call (by kernel_rfl) ?_
      simp only [pick, List.map_cons, List.map_nil, List.getD_cons_zero, List.getD_cons_succ]
      go_wp2
      refine ⟨ext_below ((Below.refl _ _).alloc (Nat.le_refl _) _), ?_⟩
      refine ord_last [7, 8, 10, 9, 11] (by kernel_rfl) ?_
      simp only [pick, List.map_cons, List.map_nil, List.getD_cons_zero, List.getD_cons_succ]
      go_wp2_with (first
        | (refine wp_entry rfl (.tmp 25) (.tmp 26) rfl rfl HM5.out d g rfl ?_; intro w4 es tag i e v n4 xs4 g4 K4 E1 E2 E3 E4 E5 own4 hn4 E6 hne4; have RD4 := lit_kept (w := w2.drew) (x := Value.iface T y) (e := 49) (by exact g4) lm4; have hB6 := below_set (by exact hB5) g4 HM5.out.1 (by exact Nat.le_trans hBw hB5.size))
        | (at_builtin; refine app_srcB eltState w4 rfl (.tmp 27) (.tmp 29) rfl B _ n4 xs4 rfl own4 _ 1 1 [.iface T y] rfl _ (by exact RD4) (by intro u hu; rw [List.mem_singleton.1 hu]; rfl) (by omega) (by omega) (by have := hB6.size; omega) ?_; intro v' w5 own5 g5 hb5 hsz5 hv5; have K5 := own_kp own4 g5; obtain ⟨w6, hrun6, g6, K6, vm6⟩ := Ents.store (x := Value.iface T y) (has := has) (v' := v') HM5.out.1 E2.out E1.out E3.out E4.out (by rw [E5.out]; exact own4) hn4 E6.out (by rw [E5.out]; exact g5) own5 (by rw [E5.out]; exact hv5) ((HV5.out.kp K4.out).kp K5))
        | (refine wp_put rfl rfl (.tmp 25) (.tmp 32) (.tmp 31) rfl rfl i rfl v' rfl w6 hrun6 ?_))
      go_ret
      have hB7 := below_set (hb5 _ hB6) g6 HM5.out.1 hsz5
      exact ⟨⟨true, rfl, fun h => by cases h⟩, vm6, (HK5.out.trans K4.out).trans K6, hB7⟩
  · simp only [pick, List.map_cons, List.map_nil, List.getD_cons_zero, List.getD_cons_succ]
    go_wp2
    refine ord_call (by kernel_rfl) ?_
    simp only [pick, List.map_cons, List.map_nil, List.getD_cons_zero, List.getD_cons_succ]
    go_wp2_with (refine wp_lookS rfl (.tmp 15) (.tmp 16) rfl rfl HM3.out d g rfl ?_; intro A n c xs hr hn hx)
    have HX := Lib.hid hx
    have HR := Lib.hid hr
    clear hx hr
    refine ord_last [9] (by kernel_rfl) ?_
    simp only [pick, List.map_cons, List.map_nil, List.getD_cons_zero, List.getD_cons_succ]
    go_wp2_with fail
    refine (lin_ContainsSame _ A n c k (.iface T y) has xs (M d) HR.out HV3.out HX.out (by omega)).mono ?_
    rintro e w2 ⟨⟨r, rfl, hr⟩, hb2⟩
    have HRR := Lib.hid hr
    clear hr
    have hb3 := ((h2.trans (hdr.mono h2.size)).trans (hb2.mono h2.size))
    have HM4 := Lib.hid (HM3.out.below hb2)
    have HV4 := Lib.hid (HV3.out.kp (Kp.below hb2))
    have bS4 := bS2.below (hdr.trans hb2) bS2.lt
    have bP4 := bP.below (hdr.trans hb2) lP
    have HK4 := Lib.hid (HK1.out.trans (Kp.below hb3))
    have hB4 := hB1.trans (hb3.mono (Nat.le_trans hBw hsz))
    have hsz4 := hb3.size
    clear s1
    have s1 : w2.cell? ⟨s, 1, none⟩ = _ := bS4.cell 1
    have p0 : w2.cell? ⟨w1.heap.size, 0, none⟩ = _ := bP4.cell 0
    have p1 : w2.cell? ⟨w1.heap.size, 1, none⟩ = _ := bP4.cell 1
    simp only [List.getElem?_cons_zero, List.getElem?_cons_succ] at s1 p0 p1
    clear HR HX HM3 HV3 bP bP4 h2 hb2 hb3 HM1 HM2 HV1 HV2 bS2 bS1 HD hdr
    cases r with
    | true =>
      go_wp2
      go_ret
      refine ⟨⟨false, rfl, fun _ => HRR.out trivial⟩, HM4.out.mono (Nat.le_succ _) (fun _ _ h => .inl h), HK4.out, hB4⟩
    | false =>
      go_wp2
      refine region_first [0, 1, 2, 3, 4, 5] (.cons 6 (seq [7, 8, 10, 9, 11] .nil)) (by kernel_rfl) (by kernel_rfl) ?_
      simp only [pick, List.map_cons, List.map_nil, List.getD_cons_zero, List.getD_cons_succ]
      go_wp2
      have lm4 : mb < w2.drew.heap.size := HM4.out.lt
      have hL := (Below.refl w2.heap.size w2).drew.alloc (Nat.le_refl _) (Obj.cells #[.iface T y] 49)
      have HM5 := Lib.hid (HM4.out.below hL)
      have HV5 := Lib.hid (HV4.out.kp (Kp.below hL))
      have HK5 := Lib.hid (HK4.out.trans (Kp.below hL))
      have hB5 := hB4.trans (hL.mono (Nat.le_trans hBw (Nat.le_trans hsz (Nat.le_trans (by simp) hsz4))))
      refine ord_call (by kernel_rfl) ?_
      simp only [pick, List.map_cons, List.map_nil, List.getD_cons_zero, List.getD_cons_succ]
      go_wp2
      refine ⟨ext_below ((Below.refl _ _).alloc (Nat.le_refl _) _), ?_⟩
      refine ord_last [7, 8, 10, 9, 11] (by kernel_rfl) ?_
      simp only [pick, List.map_cons, List.map_nil, List.getD_cons_zero, List.getD_cons_succ]
      go_wp2_with (first
        | (refine wp_entry rfl (.tmp 25) (.tmp 26) rfl rfl HM5.out d g rfl ?_; intro w4 es tag i e v n4 xs4 g4 K4 E1 E2 E3 E4 E5 own4 hn4 E6 hne4; have RD4 := lit_kept (w := w2.drew) (x := Value.iface T y) (e := 49) (by exact g4) lm4; have hB6 := below_set (by exact hB5) g4 HM5.out.1 (by exact Nat.le_trans hBw hB5.size))
        | (at_builtin; refine app_srcB eltState w4 rfl (.tmp 27) (.tmp 29) rfl B _ n4 xs4 rfl own4 _ 1 1 [.iface T y] rfl _ (by exact RD4) (by intro u hu; rw [List.mem_singleton.1 hu]; rfl) (by omega) (by omega) (by have := hB6.size; omega) ?_; intro v' w5 own5 g5 hb5 hsz5 hv5; have K5 := own_kp own4 g5; obtain ⟨w6, hrun6, g6, K6, vm6⟩ := Ents.store (x := Value.iface T y) (has := has) (v' := v') HM5.out.1 E2.out E1.out E3.out E4.out (by rw [E5.out]; exact own4) hn4 E6.out (by rw [E5.out]; exact g5) own5 (by rw [E5.out]; exact hv5) ((HV5.out.kp K4.out).kp K5))
        | (refine wp_put rfl rfl (.tmp 25) (.tmp 32) (.tmp 31) rfl rfl i rfl v' rfl w6 hrun6 ?_))
      go_ret
      have hB7 := below_set (hb5 _ hB6) g6 HM5.out.1 hsz5
      exact ⟨⟨true, rfl, fun h => by cases h⟩, vm6, (HK5.out.trans K4.out).trans K6, hB7⟩
end Go.Proofs.Ytdoniefhmmodbaa
