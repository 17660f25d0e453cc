/- Of this claim's own texts these, one behind the other: LinLim, LinVis, LinCom, Lin2. No statement of the seat is proved here; no condition but those that stand at the theorems. -/
import Derived.Test.YtnchgdjdfhfedaaGreatDoorPartAW
set_option linter.unusedSimpArgs false
set_option linter.unusedVariables false
namespace Go.Proofs.YtnchgdjdfhfedaaGreatDoor
open Go.RowKit Go.Ord Go.Baro

/-- The first End of the operations that have ended and are not in d, of the first j. -/
def LimI (l : List Ac) (d j : Nat) (f : Int) (b : Bool) : Prop := (b = true → ∃ i a, i < j ∧ l[i]? = some a ∧ a.e ≠ -1 ∧ d.testBit i = false ∧ a.e = f) ∧ ∀ i a, i < j → l[i]? = some a → a.e ≠ -1 → d.testBit i = false → b = true ∧ f ≤ a.e
theorem limI_zero (l : List Ac) (d : Nat) (f : Int) : LimI l d 0 f false := ⟨fun h => by simp at h, fun i a h => by omega⟩
theorem limI_skip {l : List Ac} {d j : Nat} {f : Int} {b : Bool} {a : Ac} (h : LimI l d j f b) (ha : l[j]? = some a) (hn : a.e = -1 ∨ d.testBit j = true ∨ (b = true ∧ f ≤ a.e)) : LimI l d (j + 1) f b := by
  refine ⟨fun hb => ?_, fun i a' hi h1 h2 h3 => ?_⟩
  · obtain ⟨i, a', hi, h1⟩ := h.1 hb
    exact ⟨i, a', by omega, h1⟩
  · by_cases hij : i = j
    · subst hij
      rw [ha] at h1
      injection h1 with h1
      subst h1
      rcases hn with hn | hn | hn
      · exact absurd hn h2
      · rw [hn] at h3; simp at h3
      · exact hn
    · exact h.2 i a' (by omega) h1 h2 h3
theorem limI_take {l : List Ac} {d j : Nat} {f : Int} {b : Bool} {a : Ac} (h : LimI l d j f b) (ha : l[j]? = some a) (he : a.e ≠ -1) (hd : d.testBit j = false) (hn : b = false ∨ a.e < f) : LimI l d (j + 1) a.e true := by
  refine ⟨fun _ => ⟨j, a, by omega, ha, he, hd, rfl⟩, fun i a' hi h1 h2 h3 => ⟨rfl, ?_⟩⟩
  by_cases hij : i = j
  · subst hij
    rw [ha] at h1
    injection h1 with h1
    subst h1
    exact Int.le_refl _
  · obtain ⟨h4, h5⟩ := h.2 i a' (by omega) h1 h2 h3
    rcases hn with hn | hn
    · rw [hn] at h4; simp at h4
    · omega

set_option maxRecDepth 100000 in
set_option maxHeartbeats 2000000 in
theorem lin_limit (w : World) (s : Nat) (v : Value) (A : Option Addr) (n c B d : Nat) (l : List Ac) (hs : Box w s 103 [.slice A n c, v]) (hl : RA w B A n l) (hB : B ≤ w.heap.size) (hn : n ≤ 9) (hd : d < 512) :
    Calls Tryz.prog 66 #[.pointer (some ⟨s, 0, none⟩), .int .u64 d] w fun e w' => (∃ f b, e = .returned (.tuple #[.int .i64 f, .bool b]) ∧ LimI l d n f b) ∧ Below w.heap.size w w' := by
  have h0 := Below.refl w.heap.size w
  have s0 : w.cell? ⟨s, 0, none⟩ = _ := hs.cell 0
  simp only [List.getElem?_cons_zero] at s0
  have LT := Lib.hid hl.len
  clear hs
  go_enter Tryz.func66, Tryz.ntmps66
  go_wp2
  go_loopw [4, 5, 13] (fun f b i wr => ∃ (j : Nat) (x : Int) (y : Bool), j ≤ n ∧ i = .int .i64 j ∧ f = .int .i64 x ∧ b = .bool y ∧ Hid (LimI l d j x y) ∧ Below w.heap.size w wr) (fun _ _ i _ => n - (intOf i).toNat)
  case atStart => exact ⟨0, _, _, Nat.zero_le _, rfl, rfl, rfl, limI_zero l d 0, h0⟩
  case round =>
    obtain ⟨j, x, y, hj, rfl, rfl, rfl, HI, hbel⟩ := hrel
    have hsz := hbel.size
    by_cases hjm : j < n
    · obtain ⟨b, o, a, rfl, hbB, d0, d1, d2, d3, d4, HX, hmem⟩ := hl.val hjm
      have e0 := (hbel.cell (p := ⟨b, o + j * 5, none⟩) (by show b < _; omega)).trans d0
      have e1 := (hbel.cell (p := ⟨b, o + j * 5 + 1, none⟩) (by show b < _; omega)).trans d1
      have e2 := (hbel.cell (p := ⟨b, o + j * 5 + 2, none⟩) (by show b < _; omega)).trans d2
      have e3 := (hbel.cell (p := ⟨b, o + j * 5 + 3, none⟩) (by show b < _; omega)).trans d3
      have e4 := (hbel.cell (p := ⟨b, o + j * 5 + 4, none⟩) (by show b < _; omega)).trans d4
      obtain ⟨r', hr'⟩ := bool_of (a.e ≠ -1)
      have HE := Lib.hid (fun w => lin_ended w a r' hr')
      have HR' := Lib.hid hr'
      have HH := Lib.hid (fun w => set_has w d j hd (by omega))
      obtain ⟨t, ht⟩ : ∃ t, t = d.testBit j := ⟨_, rfl⟩
      rw [← ht] at HH
      have HT := Lib.hid ht
      clear hr' hmem d0 d1 d2 d3 d4 ht
      obtain ⟨xb, xe, xp, xv, xa⟩ := a
      unfold acA at HE
      dsimp only at HE HR' e0 e1 e2 e3 e4
      have bX := Box.newAt wr 80 [.int .i64 xb, .int .i64 xe, .bool xp, .int .i64 xv, .int .i64 xa] wr.heap.size rfl
      have lX := bX.lt
      have h2 := hbel.alloc hsz (Obj.cells #[.int .i64 xb, .int .i64 xe, .bool xp, .int .i64 xv, .int .i64 xa] 80)
      go_wp2_with fail
      refine (HE.out _).mono ?_
      rintro e w1 ⟨rfl, hb1⟩
      have h3 := h2.trans (hb1.mono (by omega))
      have bX1 := bX.below hb1 lX
      have lX1 := bX1.lt
      have x1 : w1.cell? ⟨wr.heap.size, 1, none⟩ = _ := bX1.cell 1
      simp only [List.getElem?_cons_zero, List.getElem?_cons_succ] at x1
      clear bX lX h2 hb1
      cases r' with
      | false =>
        have HN : Hid (xe = -1) := by
          show xe = -1
          by_cases h : xe = -1
          · exact h
          · exact absurd (HR'.out.2 h) (by simp)
        go_wp2
        go_roundw
        case rel => exact ⟨j + 1, x, y, by omega, by go_num, rfl, rfl, limI_skip HI.out HX.out (.inl HN.out), h3⟩
        case measure => simp [intOf]; omega
      | true =>
        have HN : Hid (xe ≠ -1) := HR'.out.1 rfl
        go_wp2_with fail
        refine (HH.out _).mono ?_
        rintro e w2 ⟨rfl, hb2⟩
        have h4 := h3.trans (hb2.mono h3.size)
        have bX2 := bX1.below hb2 lX1
        have x2 : w2.cell? ⟨wr.heap.size, 1, none⟩ = _ := bX2.cell 1
        simp only [List.getElem?_cons_zero, List.getElem?_cons_succ] at x2
        clear bX1 x1 hb2
        cases t with
        | true =>
          go_wp2
          go_roundw
          case rel => exact ⟨j + 1, x, y, by omega, by go_num, rfl, rfl, limI_skip HI.out HX.out (.inr (.inl HT.out.symm)), h4⟩
          case measure => simp [intOf]; omega
        | false =>
          cases y with
          | false =>
            go_wp2
            go_roundw
            case rel => exact ⟨j + 1, xe, true, by omega, by go_num, rfl, rfl, limI_take HI.out HX.out HN.out HT.out.symm (.inl rfl), h4⟩
            case measure => simp [intOf]; omega
          | true =>
            by_cases hlt : xe < x
            · go_wp2
              go_roundw
              case rel => exact ⟨j + 1, xe, true, by omega, by go_num, rfl, rfl, limI_take HI.out HX.out HN.out HT.out.symm (.inr hlt), h4⟩
              case measure => simp [intOf]; omega
            · go_wp2
              go_roundw
              case rel => exact ⟨j + 1, x, true, by omega, by go_num, rfl, rfl, limI_skip HI.out HX.out (.inr (.inr ⟨rfl, by omega⟩)), h4⟩
              case measure => simp [intOf]; omega
    · obtain rfl : n = j := by omega
      go_wp2
      go_ret2
      exact ⟨⟨x, y, rfl, HI.out⟩, hbel⟩
end Go.Proofs.YtnchgdjdfhfedaaGreatDoor

set_option linter.unusedSimpArgs false
set_option linter.unusedVariables false
namespace Go.Proofs.YtnchgdjdfhfedaaGreatDoor
open Go.RowKit Go.Ord Go.Baro Go.MapKept

theorem eltState : Elt Tryz.prog 144 108 .nilIface 1 16 := Elt.mk' Tryz.underlying144 (by kernel_rfl) rfl (by decide)
section
variable {w : World} {ops : Array Oper} {rest : List Oper} {o : Oper} {a : Act} {Q : Exit → Act → World → Prop} {B mb N : Nat} {k : Int} {M : Nat → List Int → Prop}
theorem wp_lookS (hg : o.guard = none) (m x : Operand) (hop : o.op = Op.lookup 101 m x false) (hm : a.eval m = .map (some mb)) (h : VM w B mb N k M) (d : Nat) (g : Int) (hx : a.eval x = KV d g)
    (hK : ∀ A n c xs, Rd w w.heap.size 1 A n xs → n ≤ N → (∀ x ∈ xs, ∃ s, StV w k x s ∧ M d s) → wpList Tryz.prog ops Q rest (a.put o.dst (.slice A n c)) w) : wpList Tryz.prog ops Q (o :: rest) a w := by
  refine wpList_plain hg fun K' hK' => ?_
  obtain ⟨v, n, xs, hrun, ho, hn, hxs⟩ := h.look d g
  unfold Oper.wp
  simp [execOp, hop, hm, hx, hrun, Result.andThen]
  refine hK' _ _ ?_
  rcases ho.2 with ⟨rfl, rfl⟩ | ⟨b, cap, cur, rfl, _⟩
  · have : xs = [] := List.eq_nil_of_length_eq_zero (by simpa using ho.1)
    subst this
    exact hK none 0 0 [] (Rd.nil _ _ _ _) (Nat.zero_le _) hxs
  · exact hK _ n cap xs (Rd.of_own ho) hn hxs
theorem wp_entry (hg : o.guard = none) (m x : Operand) (hop : o.op = Op.mapEntry 101 m x) (hm : a.eval m = .map (some mb)) (h : VM w B mb N k M) (d : Nat) (g : Int) (hx : a.eval x = KV d g)
    (hK : ∀ w1 es tag i e v n xs, w.grownBy w1 (some mb) → Hid (Kp w w1) → Hid (w1.heap[mb]? = some (.map es es.size)) → Hid (Ents w1 B N k M es tag) → Hid (es[i]? = some e) → Hid (e.key = KV d g) → Hid (e.val = v) → w1.ownsRow B 108 1 v n xs → n ≤ N → Hid (∀ x ∈ xs, ∃ s, StV w1 k x s ∧ M d s) → v.ownBlock ≠ some mb →
      wpList Tryz.prog ops Q rest (a.put o.dst (.tuple #[v, .int .i64 (i : Nat)])) w1) : wpList Tryz.prog ops Q (o :: rest) a w := by
  refine wpList_plain hg fun K' hK' => ?_
  obtain ⟨w1, es, tag, i, e, hrun, h1, h2, h3, h4, h5, h6⟩ := h.entry d g
  unfold Oper.wp
  simp [execOp, hop, hm, hx, hrun, Result.andThen]
  obtain ⟨_, d', g', n, xs, q2, q3, q4, q5, _⟩ := h4 i e h5
  rw [h6] at q2
  have hd : (d : Int) = d' := by simp [KV] at q2; exact_mod_cast q2.1
  obtain rfl : d = d' := by omega
  refine hK' _ _ (hK w1 es tag i e e.val n xs h1 h2 h3 h4 h5 h6 rfl q3 q4 q5 ?_)
  rcases map_ne h3 q3 with h | h
  · rw [h]; simp
  · exact h
theorem own_kp {w w' : World} {B n : Nat} {v : Value} {xs : List Value} (ho : w.ownsRow B 108 1 v n xs) (hg : w.grownBy w' v.ownBlock) : Kp w w' :=
  Kp.grown hg fun b cs t fr he hh => by
    rcases ho.2 with ⟨hv, _⟩ | ⟨g', cap, cur, hv, _, hg', _⟩
    · rw [hv] at he; simp [Value.ownBlock] at he
    · rw [hv] at he
      simp only [Value.ownBlock, Option.some.injEq] at he
      subst he
      rw [hg'] at hh
      injection hh with hh
      injection hh with _ hh
      exact hh.symm
theorem lit_kept {w w' : World} {mb : Nat} {x : Value} {e : TypeId} (hg : (w.alloc (.cells #[x] e)).grownBy w' (some mb)) (hm : mb < w.heap.size) : Rd w' w'.heap.size 1 (some ⟨w.heap.size, 0, none⟩) 1 [x] := by
  have h1 := hg.block w.heap.size (by simp) (by simp; omega)
  rw [heap_alloc_new] at h1
  refine ⟨rfl, fun _ => ⟨w.heap.size, 0, rfl, heap_lt h1, fun j hj => ?_⟩⟩
  rw [cell_of_row _ _ _ _ _ _ h1]
  obtain rfl : j = 0 := by omega
  rfl
theorem wp_put (hg : o.guard = none) (hd : o.dst = none) (m x y : Operand) (hop : o.op = Op.entryStore 101 m x y) (hm : a.eval m = .map (some mb)) (i : Nat) (hx : a.eval x = .int .i64 i) (v' : Value) (hy : a.eval y = v')
    (w3 : World) (hrun : (Instr.entryStore 101 (.map (some mb)) (.int .i64 (i : Nat)) v').run Tryz.prog w = .ok () w3) (hK : wpList Tryz.prog ops Q rest a w3) : wpList Tryz.prog ops Q (o :: rest) a w := by
  refine wpList_plain hg fun K' hK' => ?_
  unfold Oper.wp
  simp [execOp, hop, hm, hx, hy, hrun, Result.andThen]
  exact hK' _ _ (by rw [hd]; exact hK)
end
/-- What visit leaves. -/
def VsPost (B mb N : Nat) (k : Int) (M : Nat → List Int → Prop) (d : Nat) (has : List Int) (w : World) (e : Ending) (w' : World) : Prop :=
  (∃ r, e = .returned (.bool r) ∧ (r = false → M d has)) ∧ VM w' B mb (N + 1) k (fun d' s => M d' s ∨ (d' = d ∧ s = has)) ∧ Kp w w' ∧ Below B w w'
set_option maxRecDepth 100000 in
set_option maxHeartbeats 1000000 in
theorem lin_visit (w : World) (s mb B N d : Nat) (k : Int) (v u : Value) (has : List Int) (M : Nat → List Int → Prop) (hs : Box w s 103 [u, .map (some mb)]) (hv : StV w k v has) (hm : VM w B mb N k M) (hN : N ≤ 1000000000000 - 1) :
    Calls Tryz.prog 67 #[.pointer (some ⟨s, 0, none⟩), .int .u64 d, v] w (VsPost B mb N k M d has w) := by
  have h0 := Below.refl w.heap.size w
  have s1 : w.cell? ⟨s, 1, none⟩ = _ := hs.cell 1
  simp only [List.getElem?_cons_zero, List.getElem?_cons_succ] at s1
  have hBw : B ≤ w.heap.size := Nat.le_trans hm.1 (Nat.le_of_lt hm.lt)
  have ls := hs.lt
  have lm := hm.lt
  obtain ⟨T, y, F, rfl, hmt, hdig⟩ := st_digest hv
  have hm1 := hmt.1 283 w
  have hm2 := hmt.2 #[y] w
  have HD := Lib.hid hdig
  have HV := Lib.hid hv
  have HM := Lib.hid hm
  have HS := Lib.hid hs
  clear hdig hv hm hs
  go_enter Tryz.func67, Tryz.ntmps67
  go_wp2_with fail
  refine HD.out.mono ?_
  rintro e w1 ⟨⟨g, rfl⟩, hb1⟩
  have HK1 := Lib.hid (Kp.below hb1)
  have bS1 := HS.out.below hb1 ls
  have HM1 := Lib.hid (HM.out.below hb1)
  have HV1 := Lib.hid (HV.out.kp HK1.out)
  have hB1 := hb1.mono hBw
  have hsz := hb1.size
  clear s1
  -- the place
  have h2 := (Below.refl w1.heap.size w1).alloc (Nat.le_refl _) (Obj.cells #[.int .u64 d, .int .u64 g] 142)
  have bP := Box.newAt w1 142 [.int .u64 d, .int .u64 g] w1.heap.size rfl
  have lP := bP.lt
  have HM2 := Lib.hid (HM1.out.below h2)
  have HV2 := Lib.hid (HV1.out.kp (Kp.below h2))
  have bS2 := bS1.alloc (Obj.cells #[.int .u64 d, .int .u64 g] 142)
  have s1 : (w1.alloc (Obj.cells #[.int .u64 d, .int .u64 g] 142)).cell? ⟨s, 1, none⟩ = _ := bS2.cell 1
  simp only [List.getElem?_cons_zero, List.getElem?_cons_succ] at s1
  go_wp2
  refine region_first [0, 1, 2, 3, 4, 6, 7] (.fork 5 (.cons 8 (seq [9] .nil)) 8 (.cons 5 (seq [9] .nil))) (by kernel_rfl) (by kernel_rfl) ?_
  simp only [pick, List.map_cons, List.map_nil, List.getD_cons_zero, List.getD_cons_succ]
  go_wp2
  have hdr : Below (w1.alloc (Obj.cells #[.int .u64 d, .int .u64 g] 142)).heap.size (w1.alloc (Obj.cells #[.int .u64 d, .int .u64 g] 142)) (w1.alloc (Obj.cells #[.int .u64 d, .int .u64 g] 142)).drew := (Below.refl _ _).drew
  have HM3 := Lib.hid (HM2.out.below hdr)
  have HV3 := Lib.hid (HV2.out.kp (Kp.below hdr))
  refine ord_fork (by kernel_rfl) ?_ ?_
  · simp only [pick, List.map_cons, List.map_nil, List.getD_cons_zero, List.getD_cons_succ]
    go_wp2_with (refine wp_lookS rfl (.tmp 15) (.tmp 16) rfl rfl HM3.out d g rfl ?_; intro A n c xs hr hn hx)
    have HX := Lib.hid hx
    have HR := Lib.hid hr
    clear hx hr
    refine ord_call (by kernel_rfl) ?_
    simp only [pick, List.map_cons, List.map_nil, List.getD_cons_zero, List.getD_cons_succ]
    go_wp2
    refine ord_last [9] (by kernel_rfl) ?_
    simp only [pick, List.map_cons, List.map_nil, List.getD_cons_zero, List.getD_cons_succ]
    go_wp2_with fail
    refine (lin_ContainsSame _ A n c k (.iface T y) has xs (M d) HR.out HV3.out HX.out (by omega)).mono ?_
    rintro e w2 ⟨⟨r, rfl, hr⟩, hb2⟩
    have HRR := Lib.hid hr
    clear hr
    have hb3 := ((h2.trans (hdr.mono h2.size)).trans (hb2.mono h2.size))
    have HM4 := Lib.hid (HM3.out.below hb2)
    have HV4 := Lib.hid (HV3.out.kp (Kp.below hb2))
    have bS4 := bS2.below (hdr.trans hb2) bS2.lt
    have bP4 := bP.below (hdr.trans hb2) lP
    have HK4 := Lib.hid (HK1.out.trans (Kp.below hb3))
    have hB4 := hB1.trans (hb3.mono (Nat.le_trans hBw hsz))
    have hsz4 := hb3.size
    clear s1
    have s1 : w2.cell? ⟨s, 1, none⟩ = _ := bS4.cell 1
    have p0 : w2.cell? ⟨w1.heap.size, 0, none⟩ = _ := bP4.cell 0
    have p1 : w2.cell? ⟨w1.heap.size, 1, none⟩ = _ := bP4.cell 1
    simp only [List.getElem?_cons_zero, List.getElem?_cons_succ] at s1 p0 p1
    clear HR HX HM3 HV3 bP bP4 h2 hb2 hb3 HM1 HM2 HV1 HV2 bS2 bS1 HD hdr
    cases r with
    | true =>
      go_wp2
      go_ret
      refine ⟨⟨false, rfl, fun _ => HRR.out trivial⟩, HM4.out.mono (Nat.le_succ _) (fun _ _ h => .inl h), HK4.out, hB4⟩
    | false =>
      go_wp2
      refine region_first [0, 1, 2, 3, 4, 5] (.cons 6 (seq [7, 8, 10, 9, 11] .nil)) (by kernel_rfl) (by kernel_rfl) ?_
      simp only [pick, List.map_cons, List.map_nil, List.getD_cons_zero, List.getD_cons_succ]
      go_wp2
      have lm4 : mb < w2.drew.heap.size := HM4.out.lt
      have hL := (Below.refl w2.heap.size w2).drew.alloc (Nat.le_refl _) (Obj.cells #[.iface T y] 108)
      have HM5 := Lib.hid (HM4.out.below hL)
      have HV5 := Lib.hid (HV4.out.kp (Kp.below hL))
      have HK5 := Lib.hid (HK4.out.trans (Kp.below hL))
      have hB5 := hB4.trans (hL.mono (Nat.le_trans hBw (Nat.le_trans hsz (Nat.le_trans (by simp) hsz4))))
      refine ord_call (by kernel_rfl) ?_
      simp only [pick, List.map_cons, List.map_nil, List.getD_cons_zero, List.getD_cons_succ]
      go_wp2
      refine ⟨ext_below ((Below.refl _ _).alloc (Nat.le_refl _) _), ?_⟩
      refine ord_last [7, 8, 10, 9, 11] (by kernel_rfl) ?_
      simp only [pick, List.map_cons, List.map_nil, List.getD_cons_zero, List.getD_cons_succ]
      go_wp2_with (first
        | (refine wp_entry rfl (.tmp 25) (.tmp 26) rfl rfl HM5.out d g rfl ?_; intro w4 es tag i e v n4 xs4 g4 K4 E1 E2 E3 E4 E5 own4 hn4 E6 hne4; have RD4 := lit_kept (w := w2.drew) (x := Value.iface T y) (e := 108) (by exact g4) lm4; have hB6 := below_set (by exact hB5) g4 HM5.out.1 (by exact Nat.le_trans hBw hB5.size))
        | (at_builtin; refine app_srcB eltState w4 rfl (.tmp 27) (.tmp 29) rfl B _ n4 xs4 rfl own4 _ 1 1 [.iface T y] rfl _ (by exact RD4) (by intro u hu; rw [List.mem_singleton.1 hu]; rfl) (by omega) (by omega) (by have := hB6.size; omega) ?_; intro v' w5 own5 g5 hb5 hsz5 hv5; have K5 := own_kp own4 g5; obtain ⟨w6, hrun6, g6, K6, vm6⟩ := Ents.store (x := Value.iface T y) (has := has) (v' := v') HM5.out.1 E2.out E1.out E3.out E4.out (by rw [E5.out]; exact own4) hn4 E6.out (by rw [E5.out]; exact g5) own5 (by rw [E5.out]; exact hv5) ((HV5.out.kp K4.out).kp K5))
        | (refine wp_put rfl rfl (.tmp 25) (.tmp 32) (.tmp 31) rfl rfl i rfl v' rfl w6 hrun6 ?_))
      go_ret
      have hB7 := below_set (hb5 _ hB6) g6 HM5.out.1 hsz5
      exact ⟨⟨true, rfl, fun h => by cases h⟩, vm6, (HK5.out.trans K4.out).trans K6, hB7⟩
  · simp only [pick, List.map_cons, List.map_nil, List.getD_cons_zero, List.getD_cons_succ]
    go_wp2
    refine ord_call (by kernel_rfl) ?_
    simp only [pick, List.map_cons, List.map_nil, List.getD_cons_zero, List.getD_cons_succ]
    go_wp2_with (refine wp_lookS rfl (.tmp 15) (.tmp 16) rfl rfl HM3.out d g rfl ?_; intro A n c xs hr hn hx)
    have HX := Lib.hid hx
    have HR := Lib.hid hr
    clear hx hr
    refine ord_last [9] (by kernel_rfl) ?_
    simp only [pick, List.map_cons, List.map_nil, List.getD_cons_zero, List.getD_cons_succ]
    go_wp2_with fail
    refine (lin_ContainsSame _ A n c k (.iface T y) has xs (M d) HR.out HV3.out HX.out (by omega)).mono ?_
    rintro e w2 ⟨⟨r, rfl, hr⟩, hb2⟩
    have HRR := Lib.hid hr
    clear hr
    have hb3 := ((h2.trans (hdr.mono h2.size)).trans (hb2.mono h2.size))
    have HM4 := Lib.hid (HM3.out.below hb2)
    have HV4 := Lib.hid (HV3.out.kp (Kp.below hb2))
    have bS4 := bS2.below (hdr.trans hb2) bS2.lt
    have bP4 := bP.below (hdr.trans hb2) lP
    have HK4 := Lib.hid (HK1.out.trans (Kp.below hb3))
    have hB4 := hB1.trans (hb3.mono (Nat.le_trans hBw hsz))
    have hsz4 := hb3.size
    clear s1
    have s1 : w2.cell? ⟨s, 1, none⟩ = _ := bS4.cell 1
    have p0 : w2.cell? ⟨w1.heap.size, 0, none⟩ = _ := bP4.cell 0
    have p1 : w2.cell? ⟨w1.heap.size, 1, none⟩ = _ := bP4.cell 1
    simp only [List.getElem?_cons_zero, List.getElem?_cons_succ] at s1 p0 p1
    clear HR HX HM3 HV3 bP bP4 h2 hb2 hb3 HM1 HM2 HV1 HV2 bS2 bS1 HD hdr
    cases r with
    | true =>
      go_wp2
      go_ret
      refine ⟨⟨false, rfl, fun _ => HRR.out trivial⟩, HM4.out.mono (Nat.le_succ _) (fun _ _ h => .inl h), HK4.out, hB4⟩
    | false =>
      go_wp2
      refine region_first [0, 1, 2, 3, 4, 5] (.cons 6 (seq [7, 8, 10, 9, 11] .nil)) (by kernel_rfl) (by kernel_rfl) ?_
      simp only [pick, List.map_cons, List.map_nil, List.getD_cons_zero, List.getD_cons_succ]
      go_wp2
      have lm4 : mb < w2.drew.heap.size := HM4.out.lt
      have hL := (Below.refl w2.heap.size w2).drew.alloc (Nat.le_refl _) (Obj.cells #[.iface T y] 108)
      have HM5 := Lib.hid (HM4.out.below hL)
      have HV5 := Lib.hid (HV4.out.kp (Kp.below hL))
      have HK5 := Lib.hid (HK4.out.trans (Kp.below hL))
      have hB5 := hB4.trans (hL.mono (Nat.le_trans hBw (Nat.le_trans hsz (Nat.le_trans (by simp) hsz4))))
      refine ord_call (by kernel_rfl) ?_
      simp only [pick, List.map_cons, List.map_nil, List.getD_cons_zero, List.getD_cons_succ]
      go_wp2
      refine ⟨ext_below ((Below.refl _ _).alloc (Nat.le_refl _) _), ?_⟩
      refine ord_last [7, 8, 10, 9, 11] (by kernel_rfl) ?_
      simp only [pick, List.map_cons, List.map_nil, List.getD_cons_zero, List.getD_cons_succ]
      go_wp2_with (first
        | (refine wp_entry rfl (.tmp 25) (.tmp 26) rfl rfl HM5.out d g rfl ?_; intro w4 es tag i e v n4 xs4 g4 K4 E1 E2 E3 E4 E5 own4 hn4 E6 hne4; have RD4 := lit_kept (w := w2.drew) (x := Value.iface T y) (e := 108) (by exact g4) lm4; have hB6 := below_set (by exact hB5) g4 HM5.out.1 (by exact Nat.le_trans hBw hB5.size))
        | (at_builtin; refine app_srcB eltState w4 rfl (.tmp 27) (.tmp 29) rfl B _ n4 xs4 rfl own4 _ 1 1 [.iface T y] rfl _ (by exact RD4) (by intro u hu; rw [List.mem_singleton.1 hu]; rfl) (by omega) (by omega) (by have := hB6.size; omega) ?_; intro v' w5 own5 g5 hb5 hsz5 hv5; have K5 := own_kp own4 g5; obtain ⟨w6, hrun6, g6, K6, vm6⟩ := Ents.store (x := Value.iface T y) (has := has) (v' := v') HM5.out.1 E2.out E1.out E3.out E4.out (by rw [E5.out]; exact own4) hn4 E6.out (by rw [E5.out]; exact g5) own5 (by rw [E5.out]; exact hv5) ((HV5.out.kp K4.out).kp K5))
        | (refine wp_put rfl rfl (.tmp 25) (.tmp 32) (.tmp 31) rfl rfl i rfl v' rfl w6 hrun6 ?_))
      go_ret
      have hB7 := below_set (hb5 _ hB6) g6 HM5.out.1 hsz5
      exact ⟨⟨true, rfl, fun h => by cases h⟩, vm6, (HK5.out.trans K4.out).trans K6, hB7⟩
end Go.Proofs.YtnchgdjdfhfedaaGreatDoor

set_option linter.unusedSimpArgs false
set_option linter.unusedVariables false
namespace Go.Proofs.YtnchgdjdfhfedaaGreatDoor
open Go.RowKit Go.Ord Go.Baro Go.MapKept

/-- What completes leaves. -/
def CmPost (B mb N m : Nat) (k : Int) (M : Nat → List Int → Prop) (l : List Ac) (r : Bool) (w : World) (e : Ending) (w' : World) : Prop :=
  e = .returned (.bool r) ∧ (r = false → ∃ N' M', N' ≤ N + cst m ∧ VM w' B mb N' k M' ∧ ∀ d' s, M' d' s → M d' s ∨ ¬ Lin k s (lft d' 0 l)) ∧ Kp w w' ∧ Below B w w'
theorem box_kp {w w' : World} {s : Nat} {cs : List Value} (h : Box w s 103 cs) (hk : Kp w w') : Box w' s 103 cs := hk.block s _ _ _ h (by decide)
theorem com_all {k : Int} {has : List Int} {l : List Ac} {d n : Nat} {f : Int} (hn : l.length = n) (h : LimI l d n f false) : Lin k has (lft d 0 l) :=
  lin_set.2 (.inl fun i a h1 h2 => by
    by_cases he : a.e = -1
    · exact he
    · have hi : i < n := by rw [← hn]; exact (List.getElem?_eq_some_iff.1 h1).1
      exact absurd (h.2 i a hi h1 he h2).1 (by simp))
theorem com_none {k : Int} {has : List Int} {l : List Ac} {d n : Nat} {f : Int} (hn : l.length = n) (h : LimI l d n f true) (h0 : ∀ i, i < n → ¬ nxt k has l d i) : ¬ Lin k has (lft d 0 l) := by
  intro hL
  rcases lin_set.1 hL with h1 | ⟨i, h1⟩
  · obtain ⟨i, a, _, h2, h3, h4, _⟩ := h.1 rfl
    exact h3 (h1 i a h2 h4)
  · have h2 := h1
    obtain ⟨a, h3, _⟩ := h2
    exact h0 i (by rw [← hn]; exact (List.getElem?_eq_some_iff.1 h3).1) h1
theorem com_late {k : Int} {has : List Int} {l : List Ac} {d n j : Nat} {f : Int} {a : Ac} (h : LimI l d n f true) (ha : l[j]? = some a) (hb : f < a.b) : ¬ nxt k has l d j := by
  rintro ⟨a', h1, _, h3, _⟩
  rw [ha] at h1
  injection h1 with h1
  subst h1
  obtain ⟨i, b, _, g1, g2, g3, g4⟩ := h.1 rfl
  have := h3 i b g1 g3 g2
  omega
theorem com_bit {k : Int} {has : List Int} {l : List Ac} {d j : Nat} (h : d.testBit j = true) : ¬ nxt k has l d j := by
  rintro ⟨a', h1, h2, _⟩
  rw [h] at h2
  simp at h2
theorem com_val {k : Int} {has tn : List Int} {tx : Int} {l : List Ac} {d j : Nat} {a : Ac} (ha : l[j]? = some a) (ht : tel k has a = (tx, tn)) (he : a.e ≠ -1) (hv : a.v ≠ tx) : ¬ nxt k has l d j := by
  rintro ⟨a', h1, _, _, h3, _⟩
  rw [ha] at h1
  injection h1 with h1
  subst h1
  have := h3 he
  rw [ht] at this
  exact hv this.symm
theorem com_yes {k : Int} {has tn : List Int} {tx : Int} {l : List Ac} {d j n : Nat} {f : Int} {a : Ac} (hn : l.length = n) (h : LimI l d n f true) (ha : l[j]? = some a) (hd : d.testBit j = false) (hb : a.b ≤ f) (ht : tel k has a = (tx, tn)) (hv : a.e = -1 ∨ a.v = tx) (hL : Lin k tn (lft (d ||| 2 ^ j) 0 l)) : nxt k has l d j := by
  refine ⟨a, ha, hd, fun i b g1 g2 g3 => ?_, fun he => ?_, by rw [ht]; exact hL⟩
  · have := (h.2 i b (by rw [← hn]; exact (List.getElem?_eq_some_iff.1 g1).1) g1 g3 g2).2
    omega
  · rw [ht]
    rcases hv with hv | hv
    · exact absurd hv he
    · exact hv.symm
theorem com_no {k : Int} {has tn : List Int} {tx : Int} {l : List Ac} {d j : Nat} {a : Ac} (ha : l[j]? = some a) (ht : tel k has a = (tx, tn)) (hL : ¬ Lin k tn (lft (d ||| 2 ^ j) 0 l)) : ¬ nxt k has l d j := by
  rintro ⟨a', h1, _, _, _, h3⟩
  rw [ha] at h1
  injection h1 with h1
  subst h1
  rw [ht] at h3
  exact hL h3

/-- What a round of the search begins with. -/
def CmI (B mb N m : Nat) (k : Int) (M : Nat → List Int → Prop) (l : List Ac) (d : Nat) (has : List Int) (j : Nat) (w wr : World) : Prop :=
  ∃ N' M', N' ≤ N + 1 + j * cst (m - 1) ∧ VM wr B mb N' k M' ∧ (∀ d' s, M' d' s → (M d' s ∨ (d' = d ∧ s = has)) ∨ ¬ Lin k s (lft d' 0 l)) ∧ (∀ i, i < j → ¬ nxt k has l d i) ∧ Kp w wr ∧ Below B w wr
theorem CmI.skip {B mb N m : Nat} {k : Int} {M : Nat → List Int → Prop} {l : List Ac} {d : Nat} {has : List Int} {j : Nat} {w wr w' : World} (h : CmI B mb N m k M l d has j w wr) (hb : Below wr.heap.size wr w') (hx : ¬ nxt k has l d j) : CmI B mb N m k M l d has (j + 1) w w' := by
  obtain ⟨N', M', h1, h2, h3, h4, h5, h6⟩ := h
  have hB : B ≤ wr.heap.size := Nat.le_trans h2.1 (Nat.le_of_lt h2.lt)
  refine ⟨N', M', ?_, h2.below hb, h3, fun i hi => ?_, h5.trans (Kp.below hb), h6.trans (hb.mono hB)⟩
  · rw [Nat.succ_mul]; omega
  · by_cases hij : i = j
    · subst hij; exact hx
    · exact h4 i (by omega)

theorem com_G {k : Int} {M M1 : Nat → List Int → Prop} {l : List Ac} {d m : Nat} {has : List Int} (hm : (lft d 0 l).length = m) (hm1 : 1 ≤ m) (hG : ∀ d' s, M d' s → (lft d' 0 l).length ≤ m → ¬ Lin k s (lft d' 0 l)) (h3 : ∀ d' s, M1 d' s → (M d' s ∨ (d' = d ∧ s = has)) ∨ ¬ Lin k s (lft d' 0 l)) :
    ∀ d' s, M1 d' s → (lft d' 0 l).length ≤ m - 1 → ¬ Lin k s (lft d' 0 l) := by
  intro d' s h1 h2
  rcases h3 d' s h1 with (h | ⟨rfl, rfl⟩) | h
  · exact hG d' s h (by omega)
  · omega
  · exact h
theorem com_N {N N1 m j : Nat} (h1 : N1 ≤ N + 1 + j * cst (m - 1)) (hm : 1 ≤ m) (hj : j < 9) : N1 + cst (m - 1) ≤ N + cst m := by
  obtain ⟨m', rfl⟩ : ∃ m', m = m' + 1 := ⟨m - 1, by omega⟩
  rw [Nat.add_sub_cancel] at h1 ⊢
  have h2 : (j + 1) * cst m' ≤ 9 * cst m' := Nat.mul_le_mul_right _ (by omega)
  rw [Nat.succ_mul] at h2
  rw [cst]
  omega
theorem com_next {B mb N N1 m : Nat} {k : Int} {M M1 : Nat → List Int → Prop} {l : List Ac} {d : Nat} {has : List Int} {j : Nat} {w w6 w7 : World} {r : Bool} {e : Ending} (g1 : N1 ≤ N + 1 + j * cst (m - 1)) (g3 : ∀ d' s, M1 d' s → (M d' s ∨ (d' = d ∧ s = has)) ∨ ¬ Lin k s (lft d' 0 l)) (g4 : ∀ i, i < j → ¬ nxt k has l d i) (hx : ¬ nxt k has l d j)
    (hK : Kp w w6) (hB : Below B w w6) (h : ∃ N' M', N' ≤ N1 + cst (m - 1) ∧ VM w7 B mb N' k M' ∧ ∀ d' s, M' d' s → M1 d' s ∨ ¬ Lin k s (lft d' 0 l)) (hK7 : Kp w6 w7) (hB7 : Below B w6 w7) : CmI B mb N m k M l d has (j + 1) w w7 := by
  obtain ⟨N', M', h1, h2, h3⟩ := h
  refine ⟨N', M', ?_, h2, fun d' s hh => ?_, fun i hi => ?_, hK.trans hK7, hB.trans hB7⟩
  · rw [Nat.succ_mul]; omega
  · rcases h3 d' s hh with h | h
    · exact g3 d' s h
    · exact .inr h
  · by_cases hij : i = j
    · subst hij; exact hx
    · exact g4 i (by omega)
theorem com_end {B mb N m n : Nat} {k : Int} {M : Nat → List Int → Prop} {l : List Ac} {d : Nat} {has : List Int} {w wr : World} (h : CmI B mb N m k M l d has n w wr) (hn : n ≤ 9) (hm : 1 ≤ m) (hno : ¬ Lin k has (lft d 0 l)) : CmPost B mb N m k M l false w (.returned (.bool false)) wr := by
  obtain ⟨N', M', h1, h2, h3, _, h5, h6⟩ := h
  refine ⟨rfl, fun _ => ⟨N', M', ?_, h2, fun d' s hh => ?_⟩, h5, h6⟩
  · obtain ⟨m', rfl⟩ : ∃ m', m = m' + 1 := ⟨m - 1, by omega⟩
    rw [Nat.add_sub_cancel] at h1
    have h2 : n * cst m' ≤ 9 * cst m' := Nat.mul_le_mul_right _ hn
    rw [cst]
    omega
  · rcases h3 d' s hh with (h | ⟨rfl, rfl⟩) | h
    · exact .inl h
    · exact .inr hno
    · exact .inr h
theorem com_pos {k : Int} {l : List Ac} {d n m : Nat} {f : Int} (hm : (lft d 0 l).length = m) (h : LimI l d n f true) : 1 ≤ m := by
  obtain ⟨i, a, _, h2, _, h4, _⟩ := h.1 rfl
  rw [← hm, lft_less h2 h4]
  omega

set_option maxRecDepth 100000 in
set_option maxHeartbeats 2000000 in
theorem lin_completes {A : Option Addr} {n c B s mb : Nat} {l : List Ac} {k : Int} (hk : okL k l) (hi : ∀ a ∈ l, inA a) (hn : n ≤ 9) (hln : l.length = n) : ∀ (m : Nat) (w : World) (d N : Nat) (M : Nat → List Int → Prop) (v : Value) (has : List Int) (r : Bool)
    (hm : (lft d 0 l).length = m) (hs : Box w s 103 [.slice A n c, .map (some mb)]) (hl : RA w B A n l) (hv : StV w k v has) (hM : VM w B mb N k M) (hh : has.length + m ≤ 12) (hN : N + cst m ≤ 100000000000) (hd : d < 512)
    (hG : ∀ d' s, M d' s → (lft d' 0 l).length ≤ m → ¬ Lin k s (lft d' 0 l)) (hr : r = true ↔ Lin k has (lft d 0 l)),
    Calls Tryz.prog 53 #[.pointer (some ⟨s, 0, none⟩), .int .u64 d, v] w (CmPost B mb N m k M l r w) := by
  intro m
  induction m using Nat.strongRecOn with
  | _ m ih =>
    intro w d N M v has r hm hs hl hv hM hh hN hd hG hr
    have IH := Lib.hid ih
    have HM := Lib.hid hM
    have HS0 := Lib.hid hs
    have HV := Lib.hid hv
    have HG := Lib.hid hG
    have HR := Lib.hid hr
    have HL := Lib.hid hl
    have HLN := Lib.hid hln
    have HOK := Lib.hid hk.2.2
    have HIN := Lib.hid hi
    have HMM := Lib.hid hm
    have HN := Lib.hid hN
    have hBw : B ≤ w.heap.size := Nat.le_trans hM.1 (Nat.le_of_lt hM.lt)
    have hcst : 1 ≤ cst m := by cases m <;> simp [cst]
    have hN1 : N ≤ 1000000000000 - 1 := by omega
    clear ih hM hv hG hr hm hN
    go_enter Tryz.func53, Tryz.ntmps53
    go_wp2_with fail
    refine (lin_limit w s _ A n c B d l hs hl hBw hn hd).mono ?_
    rintro e w1 ⟨⟨f, b, rfl, hlim⟩, hb1⟩
    have HLIM := Lib.hid hlim
    have hK1 := Kp.below hb1
    have bS1 := box_kp hs hK1
    have HM1 := Lib.hid (HM.out.below hb1)
    have HV1 := Lib.hid (HV.out.kp hK1)
    have hB1 := hb1.mono hBw
    clear hlim hs hl hb1
    cases b with
    | false =>
      go_wp2
      go_ret
      refine ⟨?_, ?_, hK1, hB1⟩
      · rw [HR.out.2 (com_all HLN.out HLIM.out)]
        rfl
      · intro h
        have := HR.out.2 (com_all HLN.out HLIM.out)
        rw [this] at h; cases h
    | true =>
      go_wp2_with fail
      refine (lin_visit w1 s mb B N d k v _ has M bS1 HV1.out HM1.out hN1).mono ?_
      rintro e w2 ⟨⟨r1, rfl, hr1⟩, hVM, hK2, hB2⟩
      have HR1 := Lib.hid hr1
      have HM2 := Lib.hid hVM
      have HK2 := Lib.hid (hK1.trans hK2)
      have HB2 := Lib.hid (hB1.trans hB2)
      have bS2 := box_kp bS1 hK2
      have HV2 := Lib.hid (HV1.out.kp hK2)
      clear hr1 hVM bS1
      cases r1 with
      | false =>
        have hno := HG.out d has (HR1.out rfl) (by rw [HMM.out]; exact Nat.le_refl _)
        have hrf : r = false := by
          cases r with
          | false => rfl
          | true => exact absurd (HR.out.1 rfl) hno
        subst hrf
        have HNO := Lib.hid hno
        clear hno
        go_wp2
        go_ret
        refine ⟨rfl, fun _ => ⟨N + 1, _, by omega, HM2.out, ?_⟩, HK2.out, HB2.out⟩
        rintro d' s' (h | ⟨rfl, rfl⟩)
        · exact .inl h
        · exact .inr HNO.out
      | true =>
        have s0 : w2.cell? ⟨s, 0, none⟩ = _ := bS2.cell 0
        simp only [List.getElem?_cons_zero] at s0
        have HI0 : Hid (CmI B mb N m k M l d has 0 w w2) := ⟨N + 1, _, by omega, HM2.out, fun _ _ h => .inl h, fun i h => by omega, HK2.out, HB2.out⟩
        go_wp2
        go_loopw [31] (fun i wr => ∃ j : Nat, j ≤ n ∧ i = .int .i64 j ∧ Hid (CmI B mb N m k M l d has j w wr)) (fun i _ => n - (intOf i).toNat)
        case atStart => exact ⟨0, Nat.zero_le _, rfl, HI0⟩
        case round =>
          obtain ⟨j, hj, rfl, HI⟩ := hrel
          clear s0 bS2
          obtain ⟨N1, M1, g1, g2, g3, g4, g5, g6⟩ := HI.out
          have hBr : B ≤ wr.heap.size := Nat.le_trans g2.1 (Nat.le_of_lt g2.lt)
          by_cases hjm : j < n
          · obtain ⟨b, o, a, rfl, hbB, d0, d1, d2, d3, d4, HX, hmem⟩ := HL.out.val hjm
            have e0 := (g6.cell (p := ⟨b, o + j * 5, none⟩) (by show b < _; omega)).trans d0
            have e1 := (g6.cell (p := ⟨b, o + j * 5 + 1, none⟩) (by show b < _; omega)).trans d1
            have e2 := (g6.cell (p := ⟨b, o + j * 5 + 2, none⟩) (by show b < _; omega)).trans d2
            have e3 := (g6.cell (p := ⟨b, o + j * 5 + 3, none⟩) (by show b < _; omega)).trans d3
            have e4 := (g6.cell (p := ⟨b, o + j * 5 + 4, none⟩) (by show b < _; omega)).trans d4
            have HA := Lib.hid (HOK.out a hmem)
            have HAI := Lib.hid (HIN.out a hmem)
            obtain ⟨t, ht⟩ : ∃ t, t = d.testBit j := ⟨_, rfl⟩
            have HT := Lib.hid ht
            have HH := Lib.hid (fun w => set_has w d j hd (by omega))
            rw [← ht] at HH
            obtain ⟨xb, xe, xp, xv, xa⟩ := a
            dsimp only at e0 e1 e2 e3 e4
            have G1 := Lib.hid g1
            have G2 := Lib.hid g2
            have G3 := Lib.hid g3
            have G4 := Lib.hid g4
            have G5 := Lib.hid g5
            have G6 := Lib.hid g6
            clear g1 g2 g3 g4 g5 g6 ht hmem d0 d1 d2 d3 d4
            have bX := Box.newAt wr 80 [.int .i64 xb, .int .i64 xe, .bool xp, .int .i64 xv, .int .i64 xa] wr.heap.size rfl
            have lX := bX.lt
            have h2 := (Below.refl wr.heap.size wr).alloc (Nat.le_refl _) (Obj.cells #[.int .i64 xb, .int .i64 xe, .bool xp, .int .i64 xv, .int .i64 xa] 80)
            go_wp2_with fail
            refine (HH.out _).mono ?_
            rintro e w3 ⟨rfl, hb3⟩
            have h3 := h2.trans (hb3.mono h2.size)
            have bX3 := bX.below hb3 lX
            have lX3 := bX3.lt
            have x0 : w3.cell? ⟨wr.heap.size, 0, none⟩ = _ := bX3.cell 0
            have x1 : w3.cell? ⟨wr.heap.size, 1, none⟩ = _ := bX3.cell 1
            have x2 : w3.cell? ⟨wr.heap.size, 2, none⟩ = _ := bX3.cell 2
            have x3 : w3.cell? ⟨wr.heap.size, 3, none⟩ = _ := bX3.cell 3
            have x4 : w3.cell? ⟨wr.heap.size, 4, none⟩ = _ := bX3.cell 4
            simp only [List.getElem?_cons_zero, List.getElem?_cons_succ] at x0 x1 x2 x3 x4
            clear bX lX h2 hb3
            cases t with
            | true =>
              go_wp2
              go_roundw
              case rel => exact ⟨j + 1, by omega, by go_num, HI.out.skip h3 (com_bit HT.out.symm)⟩
              case measure => simp [intOf]; omega
            | false =>
              by_cases hlate : f < xb
              · have HNX := Lib.hid (com_late (k := k) (has := has) HLIM.out HX.out hlate)
                go_wp2
                go_roundw
                case rel => exact ⟨j + 1, by omega, by go_num, HI.out.skip h3 HNX.out⟩
                case measure => simp [intOf]; omega
              · obtain ⟨T, u, F, rfl, hmt, hnx⟩ := st_next ((HV.out.kp G5.out).kp (Kp.below h3)) HA.out HAI.out (by omega)
                obtain ⟨tx, tn, htl⟩ : ∃ tx tn, tel k has ⟨xb, xe, xp, xv, xa⟩ = (tx, tn) := ⟨_, _, rfl⟩
                have htn := (tel_len k has ⟨xb, xe, xp, xv, xa⟩).1
                rw [htl] at hnx htn
                unfold acA at hnx
                dsimp only at hnx htn
                have HTL := Lib.hid htl
                have HNX := Lib.hid hnx
                have hm1' := hmt.1 283 w3
                have hm2' := hmt.2 #[u, .agg #[.int .i64 xb, .int .i64 xe, .bool xp, .int .i64 xv, .int .i64 xa]] w3
                have hm1 := com_pos (k := k) HMM.out HLIM.out
                obtain ⟨r', hr'⟩ := bool_of (xe ≠ -1)
                have HE := Lib.hid (fun w => lin_ended w ⟨xb, xe, xp, xv, xa⟩ r' hr')
                have HR' := Lib.hid hr'
                unfold acA at HE
                dsimp only at HE
                clear hnx htl hr' hmt
                go_wp2_with fail
                refine HNX.out.mono ?_
                rintro e w4 ⟨⟨v', rfl, hv'⟩, hb4⟩
                have h4 := h3.trans (hb4.mono h3.size)
                have HV4 := Lib.hid hv'
                have bX4 := bX3.below hb4 lX3
                have lX4 := bX4.lt
                clear x0 x1 x2 x3 x4 hv' h3 bX3 hm1' hm2'
                have x0 : w4.cell? ⟨wr.heap.size, 0, none⟩ = _ := bX4.cell 0
                have x1 : w4.cell? ⟨wr.heap.size, 1, none⟩ = _ := bX4.cell 1
                have x2 : w4.cell? ⟨wr.heap.size, 2, none⟩ = _ := bX4.cell 2
                have x3 : w4.cell? ⟨wr.heap.size, 3, none⟩ = _ := bX4.cell 3
                have x4 : w4.cell? ⟨wr.heap.size, 4, none⟩ = _ := bX4.cell 4
                simp only [List.getElem?_cons_zero, List.getElem?_cons_succ] at x0 x1 x2 x3 x4
                go_wp2_with fail
                refine (HE.out _).mono ?_
                rintro e w5 ⟨rfl, hb5⟩
                have h5 := h4.trans (hb5.mono h4.size)
                have HV5 := Lib.hid (HV4.out.kp (Kp.below hb5))
                have bX5 := bX4.below hb5 lX4
                clear x0 x1 x2 x3 x4 h4 bX4
                have x3 : w5.cell? ⟨wr.heap.size, 3, none⟩ = _ := bX5.cell 3
                simp only [List.getElem?_cons_zero, List.getElem?_cons_succ] at x3
                cases r' with
                | true =>
                  by_cases hval : xv = tx
                  · subst hval
                    have HVAL : Hid (xe = -1 ∨ xv = xv) := .inr rfl
                    go_wp2_with fail
                    refine (set_with w5 d j hd (by omega)).mono ?_
                    rintro e w6 ⟨rfl, hb6⟩
                    have h6 := h5.trans (hb6.mono h5.size)
                    have HK6 := Lib.hid (G5.out.trans (Kp.below h6))
                    have HB6 := Lib.hid (G6.out.trans (h6.mono hBr))
                    have HV6 := Lib.hid (HV5.out.kp (Kp.below hb6))
                    have HB66 := Lib.hid h6
                    clear hb6 h5 h6
                    obtain ⟨r2, hr2⟩ := bool_of (Lin k tn (lft (d ||| 2 ^ j) 0 l))
                    have HR2 := Lib.hid hr2
                    clear hr2
                    go_wp2_with fail
                    refine (IH.out (m - 1) (by omega) w6 (d ||| 2 ^ j) N1 M1 v' tn r2 (by have := lft_less HX.out HT.out.symm; have := HMM.out; omega) (box_kp HS0.out HK6.out) (HL.out.below HB6.out) HV6.out (G2.out.below HB66.out) (by omega) (by have := com_N G1.out hm1 (by omega); have := HN.out; omega) (bit_lt hd (by omega)) (com_G HMM.out hm1 HG.out G3.out) HR2.out).mono ?_
                    rintro e w7 ⟨rfl, hres, hK7, hB7⟩
                    have HRES := Lib.hid hres
                    clear hres
                    cases r2 with
                    | true =>
                      have hrt : r = true := HR.out.2 (lin_set.2 (.inr ⟨j, com_yes HLN.out HLIM.out HX.out HT.out.symm (by show xb ≤ f; omega) HTL.out (by first | exact HVAL.out | exact .inr rfl) (HR2.out.1 rfl)⟩))
                      subst hrt
                      go_wp2
                      go_ret
                      exact ⟨rfl, fun h => (by cases h), HK6.out.trans hK7, HB6.out.trans hB7⟩
                    | false =>
                      have HNX2 := Lib.hid (com_no (k := k) (has := has) HX.out HTL.out (fun h => by have := HR2.out.2 h; cases this))
                      go_wp2
                      go_roundw
                      case rel => exact ⟨j + 1, by omega, by go_num, com_next (e := .returned (.bool false)) (r := false) G1.out G3.out G4.out HNX2.out HK6.out HB6.out (HRES.out trivial) hK7 hB7⟩
                      case measure => simp [intOf]; omega
                  · have HNX3 := Lib.hid (com_val (k := k) (has := has) (d := d) HX.out HTL.out (HR'.out.1 rfl) hval)
                    have hne : (xv != tx) = true := by simp [hval]
                    clear hval
                    go_wp2
                    go_roundw
                    case rel => exact ⟨j + 1, by omega, by go_num, HI.out.skip h5 HNX3.out⟩
                    case measure => simp [intOf]; omega
                | false =>
                  have HVAL : Hid (xe = -1 ∨ xv = tx) := by
                    show xe = -1 ∨ xv = tx
                    by_cases h : xe = -1
                    · exact .inl h
                    · exact absurd (HR'.out.2 h) (by simp)
                  go_wp2_with fail
                  refine (set_with w5 d j hd (by omega)).mono ?_
                  rintro e w6 ⟨rfl, hb6⟩
                  have h6 := h5.trans (hb6.mono h5.size)
                  have HK6 := Lib.hid (G5.out.trans (Kp.below h6))
                  have HB6 := Lib.hid (G6.out.trans (h6.mono hBr))
                  have HV6 := Lib.hid (HV5.out.kp (Kp.below hb6))
                  have HB66 := Lib.hid h6
                  clear hb6 h5 h6
                  obtain ⟨r2, hr2⟩ := bool_of (Lin k tn (lft (d ||| 2 ^ j) 0 l))
                  have HR2 := Lib.hid hr2
                  clear hr2
                  go_wp2_with fail
                  refine (IH.out (m - 1) (by omega) w6 (d ||| 2 ^ j) N1 M1 v' tn r2 (by have := lft_less HX.out HT.out.symm; have := HMM.out; omega) (box_kp HS0.out HK6.out) (HL.out.below HB6.out) HV6.out (G2.out.below HB66.out) (by omega) (by have := com_N G1.out hm1 (by omega); have := HN.out; omega) (bit_lt hd (by omega)) (com_G HMM.out hm1 HG.out G3.out) HR2.out).mono ?_
                  rintro e w7 ⟨rfl, hres, hK7, hB7⟩
                  have HRES := Lib.hid hres
                  clear hres
                  cases r2 with
                  | true =>
                    have hrt : r = true := HR.out.2 (lin_set.2 (.inr ⟨j, com_yes HLN.out HLIM.out HX.out HT.out.symm (by show xb ≤ f; omega) HTL.out (by first | exact HVAL.out | exact .inr rfl) (HR2.out.1 rfl)⟩))
                    subst hrt
                    go_wp2
                    go_ret
                    exact ⟨rfl, fun h => (by cases h), HK6.out.trans hK7, HB6.out.trans hB7⟩
                  | false =>
                    have HNX2 := Lib.hid (com_no (k := k) (has := has) HX.out HTL.out (fun h => by have := HR2.out.2 h; cases this))
                    go_wp2
                    go_roundw
                    case rel => exact ⟨j + 1, by omega, by go_num, com_next (e := .returned (.bool false)) (r := false) G1.out G3.out G4.out HNX2.out HK6.out HB6.out (HRES.out trivial) hK7 hB7⟩
                    case measure => simp [intOf]; omega
          · obtain rfl : n = j := by omega
            have HNO := Lib.hid (com_none HLN.out HLIM.out g4)
            clear g1 g2 g3 g4 g5 g6
            have hrf : r = false := by
              cases r with
              | false => rfl
              | true => exact absurd (HR.out.1 rfl) HNO.out
            subst hrf
            go_wp2
            go_ret
            exact com_end HI.out hn (com_pos (k := k) HMM.out HLIM.out) HNO.out
end Go.Proofs.YtnchgdjdfhfedaaGreatDoor

set_option linter.unusedSimpArgs false
set_option linter.unusedVariables false
namespace Go.Proofs.YtnchgdjdfhfedaaGreatDoor
open Go.RowKit Go.Ord Go.Baro Go.MapKept

set_option maxHeartbeats 1000000 in
theorem lin_initial (w : World) (k first : Int) (hk : 1 ≤ k ∧ k ≤ 4) (hf : inW first) : Calls Tryz.prog 54 #[.int .i64 k, .int .i64 first] w fun e w' => (∃ v, e = .returned v ∧ StV w' k v (has0 k first)) ∧ Below w.heap.size w w' := by
  have h0 := Below.refl w.heap.size w
  have HF := Lib.hid hf
  clear hf
  by_cases k1 : k = 1
  · subst k1
    go_enter Tryz.func54, Tryz.ntmps54
    go_wp2
    go_ret
    exact ⟨⟨_, rfl, .inl ⟨rfl, first, rfl, rfl, HF.out⟩⟩, h0⟩
  by_cases k2 : k = 2
  · subst k2
    go_enter Tryz.func54, Tryz.ntmps54
    go_wp2
    go_ret
    exact ⟨⟨_, rfl, .inr (.inl ⟨rfl, first, rfl, rfl, HF.out⟩)⟩, h0⟩
  by_cases k3 : k = 3
  · subst k3
    go_enter Tryz.func54, Tryz.ntmps54
    go_wp2
    go_ret
    exact ⟨⟨_, rfl, .inr (.inr (.inl ⟨rfl, none, 0, 0, rfl, Nat.le_refl _, by omega, fun _ => rfl, QR.nil _ _⟩))⟩, h0⟩
  · obtain rfl : k = 4 := by omega
    go_enter Tryz.func54, Tryz.ntmps54
    go_wp2
    go_ret
    exact ⟨⟨_, rfl, .inr (.inr (.inr ⟨rfl, none, 0, 0, rfl, Nat.le_refl _, by omega, fun _ => rfl, QR.nil _ _⟩))⟩, h0⟩
theorem cst9 : cst 9 ≤ 1000000000 := by have := cst_le 9; omega

set_option maxRecDepth 100000 in
set_option maxHeartbeats 2000000 in
theorem lin_Check : LinCheckSpec := by
  intro w A n c l k first r E h hn hlc hi hf hr
  have h0 := Below.refl w.heap.size w
  obtain ⟨rm, hrm⟩ := bool_of (okL k l)
  have HM := Lib.hid (lin_May w A n c l k rm h hn hlc hi hrm)
  have HRM := Lib.hid hrm
  have HR := Lib.hid hr
  have HL := Lib.hid h
  have HI := Lib.hid hi
  have HF := Lib.hid hf
  clear hrm hr h hi hf
  go_enter Tryz.func36, Tryz.ntmps36
  go_wp2_with fail
  refine HM.out.mono ?_
  rintro e w1 ⟨rfl, hb1⟩
  cases rm with
  | false =>
    have hno : ¬ okL k l := fun h => by have := HRM.out.2 h; cases this
    have HE : Hid (r = false ∧ E = 4) := by
      show r = false ∧ E = 4
      rcases HR.out with ⟨_, h1, h2⟩ | ⟨h1, _⟩
      · exact ⟨h1, h2⟩
      · exact absurd h1 hno
    obtain ⟨rfl, rfl⟩ := HE.out
    go_wp2
    go_ret2
    exact ⟨rfl, hb1⟩
  | true =>
    have hok : okL k l := HRM.out.1 rfl
    have hE : (r = true ↔ Lin k (has0 k first) l) ∧ E = 0 := by
      rcases HR.out with ⟨h1, _⟩ | ⟨_, h1, h2⟩
      · exact absurd hok h1
      · exact ⟨h1, h2⟩
    obtain ⟨hE1, rfl⟩ := hE
    have HOK := Lib.hid hok
    have HE := Lib.hid hE1
    have hk4 := hok.1
    have hn9 : n ≤ 9 := by have := hok.2.1; rw [HL.out.len] at this; exact this
    clear hok hE1
    have hmm := @run_makeMap Tryz.prog
    have hA := ((Below.refl w1.heap.size w1).alloc (Nat.le_refl _) (Obj.map #[] 0)).alloc (by simp) (Obj.cells #[.slice A n c, .map (some w1.heap.size)] 103)
    have hMap := VM.made (w := w1) (B := w.heap.size) hb1.size k (fun _ _ => False)
    have hA2 := (Below.refl (w1.alloc (Obj.map #[] 0)).heap.size (w1.alloc (Obj.map #[] 0))).alloc (Nat.le_refl _) (Obj.cells #[.slice A n c, .map (some w1.heap.size)] 103)
    have HM2 := Lib.hid (hMap.below hA2)
    have bS := Box.newAt (w1.alloc (Obj.map #[] 0)) 103 [.slice A n c, .map (some w1.heap.size)] (w1.heap.size + 1) (by simp)
    have hB2 := hb1.trans (hA.mono hb1.size)
    have HB2 := Lib.hid hB2
    have HBS := Lib.hid bS
    clear hMap hA2 bS hB2 hb1
    go_wp2_with fail
    refine (lin_initial _ k first hk4 HF.out).mono ?_
    rintro e w3 ⟨⟨v, rfl, hv⟩, hb3⟩
    have HV := Lib.hid hv
    have HM3 := Lib.hid (HM2.out.below hb3)
    have hB3 := HB2.out.trans (hb3.mono HB2.out.size)
    have bS3 := box_kp HBS.out (Kp.below hb3)
    clear hv hb3
    go_wp2_with fail
    refine (lin_completes HOK.out HI.out hn9 HL.out.len l.length w3 0 0 (fun _ _ => False) v (has0 k first) r (by rw [lft_all]) bS3 (HL.out.below hB3) HV.out HM3.out ?_ ?_ (by omega) (fun _ _ h => h.elim) (by rw [lft_all]; exact HE.out)).mono ?_
    · have := HOK.out.2.1
      unfold has0
      split <;> simp <;> omega
    · have h1 := cst_mono HOK.out.2.1
      have := cst9
      omega
    rintro e w4 ⟨rfl, _, _, hb4⟩
    have hB4 := hB3.trans hb4
    go_wp2
    go_ret2
    exact ⟨rfl, hB4⟩
end Go.Proofs.YtnchgdjdfhfedaaGreatDoor
