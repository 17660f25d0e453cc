/- Of this claim's own texts these, one behind the other: VmClone, Asm4, HistPure, HistPure2. No statement of the seat is proved here; no condition but those that stand at the theorems. -/
import Derived.Test.YtnchgdjdfhfedaaDoorPartAT
import Derived.Test.YtnchgdjdfhfedaaDoorPartAR
import Derived.Test.YtnchgdjdfhfedaaDoorPartAK
import Derived.Test.YtnchgdjdfhfedaaDoorPartAF
import Derived.Test.YtnchgdjdfhfedaaDoorPartAO
set_option linter.unusedSimpArgs false
set_option linter.unusedVariables false
namespace Go.Proofs.YtnchgdjdfhfedaaDoor
open Go.RowKit Go.Ord Go.Baro

theorem run_eql_nilS {P : Program} (w : World) (t e : TypeId) (a : Option Addr) (l c : Nat) (h : P.underlying t = some (.slice e)) : (binOp .eql t (.slice a l c) (.slice none 0 0)).run P w = .ok (.bool a.isNone) w := by
  simp only [binOp]
  simp [run_equal_slice_nil w t e a l c h]
theorem eltOpC : Elt Tryd.prog 24 73 (.agg #[.int .i64 0, .int .i64 0, .int .i64 0, .int .i64 0, .int .i64 0]) 5 40 := Elt.mk' Tryd.underlying24 (by kernel_rfl) rfl (by decide)
theorem cellsO_one (l : List Ins) : ∀ v ∈ cellsO l, v.oneCell' = true := by
  intro v hv
  simp only [cellsO, insV, List.mem_flatMap, List.mem_cons, List.not_mem_nil, or_false] at hv
  obtain ⟨o, _, h⟩ := hv
  rcases h with rfl | rfl | rfl | rfl | rfl <;> rfl

set_option maxHeartbeats 1000000 in
theorem slices_CloneO (l : List Ins) (A : Option Addr) (n c B : Nat) (w : World) (hb : RO w B A n l) (hB : B ≤ w.heap.size) (hn : n ≤ 200) :
    Calls Tryd.prog 65 #[.slice A n c] w fun e w' => ∃ v, e = .returned v ∧ w'.ownsRow w.heap.size 73 5 v n (cellsO l) ∧ Below w.heap.size w w' := by
  have HL := Lib.hid hb.len
  cases A with
  | none =>
    have hn0 : n = 0 := by
      rcases Nat.eq_zero_or_pos n with h0 | h0
      · exact h0
      · obtain ⟨b, q, hA, _⟩ := Rd.at_ hb h0; cases hA
    subst hn0
    have hl : l = [] := List.eq_nil_of_length_eq_zero HL.out
    subst hl
    have hnil := run_eql_nilS w _ _ none 0 c Tryd.underlying24
    go_enter Tryd.func65, Tryd.ntmps65
    go_wp2
    go_ret
    exact ⟨_, rfl, World.ownsRow_nil _ _ _ _, Below.refl _ _⟩
  | some ad =>
    have hnil := run_eql_nilS w _ _ (some ad) n c Tryd.underlying24
    go_enter Tryd.func65, Tryd.ntmps65
    go_wp2_with (at_builtin; go_must (refine app_src eltOpC _ rfl _ _ rfl w.heap.size _ 0 [] rfl (World.ownsRow_lit w #[] 0 (Nat.le_refl _) (by unfold maxLen; omega) rfl) (some ad) n c (cellsO l) rfl _ (RO.below hb ((Below.refl _ _).alloc (by omega) _)) (cellsO_one _) (by omega) (by omega) (by simp) ?_); intro v3 w3 hown3 hgr3 hbel3 _)
    go_ret
    refine ⟨_, rfl, ?_, hbel3 _ ((Below.refl _ _).alloc (Nat.le_refl _) _)⟩
    simpa using hown3

set_option maxHeartbeats 1000000 in
theorem slices_CloneI (l : List Int) (A : Option Addr) (n c B : Nat) (w : World) (hb : RI w B .i64 A n l) (hB : B ≤ w.heap.size) (hn : n ≤ 200) :
    Calls Tryd.prog 40 #[.slice A n c] w fun e w' => ∃ v, e = .returned v ∧ w'.ownsRow w.heap.size 3 1 v n (l.map (Value.int .i64)) ∧ Below w.heap.size w w' := by
  have HL := Lib.hid hb.len
  cases A with
  | none =>
    have hn0 : n = 0 := by
      rcases Nat.eq_zero_or_pos n with h0 | h0
      · exact h0
      · obtain ⟨b, q, hA, _⟩ := Rd.at_ hb h0; cases hA
    subst hn0
    have hl : l = [] := List.eq_nil_of_length_eq_zero HL.out
    subst hl
    have hnil := run_eql_nilS w _ _ none 0 c Tryd.underlying22
    go_enter Tryd.func40, Tryd.ntmps40
    go_wp2
    go_ret
    exact ⟨_, rfl, World.ownsRow_nil _ _ _ _, Below.refl _ _⟩
  | some ad =>
    have hnil := run_eql_nilS w _ _ (some ad) n c Tryd.underlying22
    go_enter Tryd.func40, Tryd.ntmps40
    go_wp2_with (at_builtin; go_must (refine app_src eltInt _ rfl _ _ rfl w.heap.size _ 0 [] rfl (World.ownsRow_lit w #[] 0 (Nat.le_refl _) (by unfold maxLen; omega) rfl) (some ad) n c (l.map (Value.int .i64)) rfl _ (RI.below hb ((Below.refl _ _).alloc (by omega) _)) (one_ints _ _) (by omega) (by omega) (by simp) ?_); intro v3 w3 hown3 hgr3 hbel3 _)
    go_ret
    refine ⟨_, rfl, ?_, hbel3 _ ((Below.refl _ _).alloc (Nat.le_refl _) _)⟩
    simpa using hown3

/-- What a call has told, in a row of its own. -/
theorem vm_Toldo (T : TypeId) (pre post : List Value) (o : Nat) (w : World) (B b : Nat) (cv tv wv : Value) (s : Vs) (h : ToV T pre post w B b o cv tv wv s) (hl : s.t.length ≤ 200) :
    Calls Tryd.prog 55 #[.pointer (some ⟨b, o, none⟩)] w fun e w' => ∃ v, e = .returned v ∧ w'.ownsRow w.heap.size 3 1 v s.t.length (s.t.map (Value.int .i64)) ∧ Below w.heap.size w w' := by
  obtain ⟨A, c, rfl, _⟩ := own_form h.told
  have t26 := h.toldv
  have hr := Rd.of_own h.told
  have hlt := h.lt
  obtain ⟨m, hm⟩ : ∃ m, m = s.t.length := ⟨_, rfl⟩
  rw [← hm] at t26 hr hl ⊢
  clear h hm
  go_enter Tryd.func55, Tryd.ntmps55
  go_wp2_with fail
  refine (slices_CloneI s.t A m c w.heap.size w hr (Nat.le_refl _) hl).mono ?_
  rintro e w1 ⟨v, rfl, h1, h2⟩
  go_wp2
  go_ret
  exact ⟨v, rfl, h1, h2⟩
end Go.Proofs.YtnchgdjdfhfedaaDoor

set_option linter.unusedSimpArgs false
set_option linter.unusedVariables false
namespace Go.Proofs.YtnchgdjdfhfedaaDoor
open Go.RowKit Go.Ord Go.Baro Go.Maps

theorem cellsJ_at (l : List (Int × Nm)) : ∀ (i : Nat) (j : Int × Nm), l[i]? = some j → (cellsJ l)[i * 2]? = some (.int .i64 j.1) ∧ (cellsJ l)[i * 2 + 1]? = some (nmV j.2) := by
  induction l with
  | nil => intro i j h; simp at h
  | cons f l ih =>
    intro i j h
    have hc : cellsJ (f :: l) = jmpV f ++ cellsJ l := rfl
    rw [hc]
    cases i with
    | zero => simp at h; subst h; simp [jmpV]
    | succ i =>
      have := ih i j (by simpa using h)
      rw [List.getElem?_append_right (by simp [jmpV]; omega), List.getElem?_append_right (by simp [jmpV]; omega)]
      simp [jmpV, show (i + 1) * 2 - 2 = i * 2 by omega, show (i + 1) * 2 + 1 - 2 = i * 2 + 1 by omega, this]
theorem cellsO_set : ∀ (l : List Ins) (i k : Nat) (o o' : Ins), l[i]? = some o → (∃ v, (insV o).set k v = insV o') → k < 5 → ∀ v, (insV o).set k v = insV o' → (cellsO l).set (i * 5 + k) v = cellsO (l.set i o')
  | [], i, k, o, o', h, _, _, _, _ => by simp at h
  | f :: l, 0, k, o, o', h, _, hk, v, hv => by
    simp at h
    subst h
    have hc : ∀ g : Ins, cellsO (g :: l) = insV g ++ cellsO l := fun _ => rfl
    rw [List.set_cons_zero, hc, hc, Nat.zero_mul, Nat.zero_add, List.set_append_left _ _ (by simp [insV]; exact hk), hv]
  | f :: l, i + 1, k, o, o', h, hh, hk, v, hv => by
    have hc : ∀ (g : Ins) (t : List Ins), cellsO (g :: t) = insV g ++ cellsO t := fun _ _ => rfl
    rw [List.set_cons_succ, hc, hc, List.set_append_right _ _ (by simp [insV]; omega), ← cellsO_set l i k o o' (by simpa using h) hh hk v hv]
    congr 2
    simp [insV]
    omega
set_option maxRecDepth 100000 in
set_option maxHeartbeats 2000000 in
theorem asm_Code (w : World) (hT : Tab w) (B b n : Nat) (s : Bs) (c : List Ins) (h : BdAt w B b s n) (hf : s.fin = some c) (hj0 : ∀ j ∈ s.jmps, 0 ≤ j.1 ∧ j.2.length ≤ 1000) (hjl : s.jmps.length ≤ 1000) :
    Calls Tryd.prog 48 #[.pointer (some ⟨b, 0, none⟩)] w fun e w' => ∃ v, e = .returned (.tuple #[v, .int .i64 0]) ∧ w'.ownsRow w.heap.size 73 5 v c.length (cellsO c) ∧ Below w.heap.size w w' := by
  obtain ⟨cv, jv, rm, lm, h⟩ := h
  obtain ⟨f1, f2, f3⟩ := Bs.fin_some hf
  have hcl := rslv_len _ _ _ _ f2
  have hlt := h.lt
  obtain ⟨A, k, rfl, hlc⟩ := own_form h.code
  obtain ⟨Aj, kj, rfl, hlj⟩ := own_form h.jmps
  have c0 : w.cell? ⟨b, 0, none⟩ = some (.slice A s.code.length k) := h.box.cell 0
  have c2 : w.cell? ⟨b, 2, none⟩ = some (.map (some lm)) := h.box.cell 2
  have c3 : w.cell? ⟨b, 3, none⟩ = some (.slice Aj s.jmps.length kj) := h.box.cell 3
  have c4 : w.cell? ⟨b, 4, none⟩ = some (.bool false) := by have := h.box.cell 4; rw [f1] at this; exact this
  have HF2 := Lib.hid f2
  have HF3 := Lib.hid f3
  have HCL := Lib.hid hcl
  have hq200 : s.code.length ≤ 200 := by rw [← hcl]; exact f3.1
  have HB := Lib.hid h
  have HT := Lib.hid hT
  have HJ := Lib.hid hj0
  obtain ⟨q, hq⟩ : ∃ q, q = s.code.length := ⟨_, rfl⟩
  obtain ⟨m, hm⟩ : ∃ m, m = s.jmps.length := ⟨_, rfl⟩
  have HRO := Lib.hid (show RO w w.heap.size A q s.code by rw [hq]; exact Rd.of_own h.code)
  have HRJ := Lib.hid (show Rd w w.heap.size 2 Aj m (cellsJ s.jmps) by rw [hm]; exact Rd.of_own h.jmps)
  rw [← hq] at c0 hq200 hlc
  rw [← hm] at c3 hjl hlj
  have HQ := Lib.hid hq
  have HM := Lib.hid hm
  clear h hf f1 f2 f3 hcl hT hj0 hq hm
  go_enter Tryd.func48, Tryd.ntmps48
  go_wp2_with fail
  refine (slices_CloneO s.code A q k w.heap.size _ HRO.out (Nat.le_refl _) hq200).mono ?_
  rintro e w1 ⟨v, rfl, hown, hb1⟩
  obtain ⟨A1, k1, rfl, hlk1⟩ := own_form hown
  have HO := Lib.hid hown
  have d3 : w1.cell? ⟨b, 3, none⟩ = some (.slice Aj m kj) := (hb1.cell hlt).trans c3
  have hlt1 : b < w1.heap.size := by have := hb1.size; omega
  clear hown
  go_wp2
  go_loopw [24] (fun i wr => ∃ (j : Nat) (cj : List Ins), j ≤ m ∧ i = .int .i64 j ∧ Hid (rslv s.labs (s.jmps.take j) s.code = some cj) ∧ Hid (wr.ownsRow w.heap.size 73 5 (.slice A1 q k1) q (cellsO cj)) ∧ Below w.heap.size w wr) (fun i _ => m - (intOf i).toNat)
  case atStart => exact ⟨0, s.code, Nat.zero_le _, rfl, rfl, HO.out, hb1⟩
  case round =>
    obtain ⟨j, cj, hj, rfl, HRS, HOW, hbr⟩ := hrel
    have hszr := hbr.size
    by_cases h1 : j < m
    · obtain ⟨⟨ja, jl⟩, hjx⟩ : ∃ x, s.jmps[j]? = some x := ⟨_, List.getElem?_eq_getElem (by rw [← HM.out]; exact h1)⟩
      obtain ⟨tv, o, ci, r1, r2, r3, r4, r5, r6⟩ := rslv_at s.labs s.jmps s.code HF2.out j (ja, jl) hjx
      obtain rfl : ci = cj := by have := HRS.out; rw [r3] at this; injection this
      dsimp only at r1 r4 r5 r6
      obtain ⟨hja0, hjl0⟩ := HJ.out _ (List.mem_of_getElem? hjx)
      dsimp only at hja0 hjl0
      obtain ⟨jn, rfl⟩ : ∃ jn : Nat, ja = jn := ⟨ja.toNat, by omega⟩
      rw [Int.toNat_natCast] at r4 r5 r6
      have hcil : ci.length = q := by rw [rslv_len _ _ _ _ r3, ← HQ.out]
      have hjn : jn < q := by have := (List.getElem?_eq_some_iff.1 r4).1; omega
      obtain ⟨gj, oj, rfl, hgj, hcj⟩ := Rd.at_ (HRJ.out.below hbr) (by omega)
      obtain ⟨j1, j2⟩ := cellsJ_at s.jmps j _ hjx
      have e1 : wr.cell? ⟨gj, oj + j * 2, none⟩ = some (.int .i64 jn) := by rw [hcj _ (by omega), j1]
      have e2 : wr.cell? ⟨gj, oj + j * 2 + 1, none⟩ = some (.string ⟨jl.toArray⟩) := by rw [Nat.add_assoc, hcj _ (by omega), j2]; rfl
      obtain ⟨g, k9, hv9, hg0, hg1, _⟩ := own_some HOW.out (by omega)
      injection hv9 with hA1 _ hk9
      subst hA1
      subst hk9
      obtain ⟨kk, ka, kb, kc, kd⟩ := o
      have hco := fun i hi => cellsO_at ci jn i _ r4 hi
      have hcell := fun i (hi : i < 5) => (World.ownsRow.cellAt HOW.out (jn * 5 + i) (by omega)).trans (hco i hi)
      have g0 : wr.cell? ⟨g, jn * 5, none⟩ = some (.int .i64 kk) := hcell 0 (by omega)
      have g1 : wr.cell? ⟨g, jn * 5 + 1, none⟩ = some (.int .i64 ka) := hcell 1 (by omega)
      have g2 : wr.cell? ⟨g, jn * 5 + 2, none⟩ = some (.int .i64 kb) := hcell 2 (by omega)
      have fz := fun i => World.ownsRow.frozenAt HOW.out i
      have b2 : wr.cell? ⟨b, 2, none⟩ = some (.map (some lm)) := (hbr.cell hlt).trans c2
      have hltr : b < wr.heap.size := by omega
      have HMS := Lib.hid (show MS wr lm n s.labs from by
        obtain ⟨D, ⟨es, ck, hh, h1'⟩, h2⟩ := HB.out.labs
        exact ⟨D, ⟨es, ck, (hbr.block lm HB.out.labs.lt).trans hh, h1'⟩, h2⟩)
      have HR1 := Lib.hid r1
      have HR4 := Lib.hid r4
      have HR5 := Lib.hid r5
      clear r1 r2 r3 r4 r5 r6 hjx hco hcell hcj j1 j2 c0 c2 c3 c4 d3
      have bx := Box.new wr 128 [.int .i64 jn, .string ⟨jl.toArray⟩]
      go_wp2
      refine region_two [0, 1, 2, 3, 4, 5] [6, 7, 8, 9, 10, 11] (by kernel_rfl) (by kernel_rfl) ?_
      simp only [pick, List.map_cons, List.map_nil, List.getD_cons_zero, List.getD_cons_succ]
      have HM2 := Lib.hid (show MS (wr.alloc (Obj.cells #[.int .i64 jn, .string ⟨jl.toArray⟩] 128)).drew lm n s.labs from by
        obtain ⟨D, h1', h2'⟩ := HMS.out.kept (World.grownBy_alloc wr (Obj.cells #[.int .i64 jn, .string ⟨jl.toArray⟩] 128) none) (by simp)
        exact ⟨D, h1', h2'⟩)
      have hst := fun i u => (World.ownsRow.stored HOW.out i u).1.alloc (Obj.cells #[.int .i64 jn, .string ⟨jl.toArray⟩] 128)
      have hbl := fun i u => ((below_at hbr hg0 i u).alloc (by simp; exact hszr) (Obj.cells #[.int .i64 jn, .string ⟨jl.toArray⟩] 128)).drew
      have HST := Lib.hid hst
      have HBL := Lib.hid hbl
      clear hst hbl
      by_cases hk : kk = 10
      · subst hk
        go_wp2_with (refine wp_lookN rfl (.tmp 32) (.tmp 34) rfl lm n s.labs jl rfl HM2.out rfl hjl0 (some tv) HR1.out ?_)
        go_roundw
        case rel =>
          refine ⟨j + 1, ci.set jn ⟨10, tv, kb, kc, kd⟩, by omega, by go_num, ?_, ?_, HBL.out _ _⟩
          · refine Lib.hid ?_; have := HR5.out; simpa [tgt] using this
          · have h8 := HST.out (jn * 5 + 1) (.int .i64 tv)
            rw [cellsO_set ci jn 1 _ ⟨10, tv, kb, kc, kd⟩ HR4.out ⟨_, rfl⟩ (by omega) _ rfl] at h8
            exact Lib.hid h8
        case measure => simp [intOf]; omega
      · have hk' : (kk == 10) = false := by simpa using hk
        go_wp2_with (refine wp_lookN rfl (.tmp 32) (.tmp 34) rfl lm n s.labs jl rfl HM2.out rfl hjl0 (some tv) HR1.out ?_)
        go_roundw
        case rel =>
          refine ⟨j + 1, ci.set jn ⟨kk, ka, tv, kc, kd⟩, by omega, by go_num, ?_, ?_, HBL.out _ _⟩
          · refine Lib.hid ?_; have := HR5.out; simpa [tgt, hk] using this
          · have h8 := HST.out (jn * 5 + 2) (.int .i64 tv)
            rw [cellsO_set ci jn 2 _ ⟨kk, ka, tv, kc, kd⟩ HR4.out ⟨_, rfl⟩ (by omega) _ rfl] at h8
            exact Lib.hid h8
        case measure => simp [intOf]; omega
    · obtain rfl : j = m := by omega
      have hres := HRS.out
      rw [HM.out, List.take_length, HF2.out] at hres
      injection hres with hres
      subst hres
      have hcq : c.length = q := by rw [HCL.out, HQ.out]
      go_wp2_with fail
      refine (vm_May c A1 q k1 true _ wr.heap.size (HT.out.below hbr HT.out.lt) (Rd.of_own HOW.out) (Nat.le_refl _) (by omega) (by simp; exact HF3.out)).mono ?_
      rintro e w2 ⟨rfl, hb2⟩
      go_wp2
      go_ret2
      rw [hcq]
      exact ⟨_, rfl, own_below HOW.out hb2, hbr.trans (hb2.mono hszr)⟩
end Go.Proofs.YtnchgdjdfhfedaaDoor

set_option linter.unusedSimpArgs false
set_option linter.unusedVariables false
namespace Go.Baro
open Go.RowKit

/-- The call of a thread. -/
def clOf (m : Mc) (th cl : Nat) : Cl := ((m.ts[th]?.getD [])[cl]?).getD ⟨0, []⟩
/-- The key of a call. -/
def hK (d : Dg) : Int := 100 * d.th + d.cl
/-- A call as an operation: pf tells whether it puts, what, and whether it is told as it must be. -/
def hA1 (m : Mc) (pf : Cl → List Int → Bool → Bool × Int × Bool) (d : Dg) : Ac := if d.e = -1 then ⟨d.b, -1, false, 0, 0⟩ else ⟨d.b, d.e, (pf (clOf m d.th d.cl) d.to true).1, (pf (clOf m d.th d.cl) d.to true).2.1, 0⟩
def hA (m : Mc) (pf : Cl → List Int → Bool → Bool × Int × Bool) (d : Dg) : Ac := if d.e = -1 then ⟨d.b, -1, (pf (clOf m d.th d.cl) [] false).1, (pf (clOf m d.th d.cl) [] false).2.1, 0⟩ else hA1 m pf d
/-- What is asked of the events. -/
structure HistOk (m : Mc) (pf : Cl → List Int → Bool → Bool × Int × Bool) (G : Cl → Prop) (T : List Ev) : Prop where
  rng : ∀ x ∈ T, x.th < m.ts.length ∧ x.cl < (m.ts[x.th]?.getD []).length
  drng : ∀ j, ∀ d ∈ dgs (T.take j), d.th < m.ts.length ∧ d.cl < (m.ts[d.th]?.getD []).length
  uq : ∀ (j : Nat) (x : Ev), T[j]? = some x → x.en = true → ∀ d ∈ dgs (T.take j), d.th = x.th → d.cl = x.cl → d.e = -1
  okE : ∀ x ∈ T, x.en = true → (pf (clOf m x.th x.cl) x.to true).2.2 = true
  okO : ∀ d ∈ dgs T, d.e = -1 → (pf (clOf m d.th d.cl) [] false).2.2 = true
  good : ∀ t ∈ m.ts, ∀ c ∈ t, G c
theorem clOf_at {m : Mc} {t c : Nat} {l : List Cl} {x : Cl} (h1 : m.ts[t]? = some l) (h2 : l[c]? = some x) : clOf m t c = x := by simp [clOf, h1, h2]
/-- The calls of which the first k are ended by an event. -/
def finD (x : Ev) (k : Nat) (D : List Dg) : List Dg := (D.take k).map (fun d => d.fin x) ++ D.drop k
theorem finD_zero (x : Ev) (D : List Dg) : finD x 0 D = D := by simp [finD]
theorem finD_len (x : Ev) (k : Nat) (D : List Dg) : (finD x k D).length = D.length := by simp [finD]; omega
theorem finD_all {x : Ev} {k : Nat} {D : List Dg} (h : D.length ≤ k) : finD x k D = D.map (fun d => d.fin x) := by
  unfold finD
  rw [List.take_of_length_le h, List.drop_eq_nil_of_le h, List.append_nil]
theorem finD_at {x : Ev} {k : Nat} {D : List Dg} : (finD x k D)[k]? = D[k]? := by
  unfold finD
  by_cases h : k ≤ D.length
  · rw [List.getElem?_append_right (by simp; omega)]
    simp
    rw [show k - min k D.length = 0 by omega, Nat.add_zero]
  · rw [List.getElem?_eq_none (by simp; omega), List.getElem?_eq_none (by omega)]
theorem finD_succ {x : Ev} {k : Nat} {D : List Dg} {d : Dg} (hp : D[k]? = some d) : finD x (k + 1) D = (finD x k D).set k (d.fin x) := by
  have hk := (List.getElem?_eq_some_iff.1 hp).1
  unfold finD
  rw [List.take_add_one, hp, Option.toList_some, List.map_append, List.map_singleton, List.append_assoc, List.drop_eq_getElem_cons hk, List.set_append_right _ _ (by simp; omega), show k - ((D.take k).map (fun d => d.fin x)).length = 0 by simp; omega]
  rfl
theorem finD_skip {x : Ev} {k : Nat} {D : List Dg} {d : Dg} (hp : D[k]? = some d) (h : ¬ d.is x) : finD x (k + 1) D = finD x k D := by
  rw [finD_succ hp]
  unfold Dg.fin
  rw [if_neg h]
  have hk := (List.getElem?_eq_some_iff.1 hp).1
  apply List.ext_getElem?
  intro j
  by_cases hj : k = j
  · subst hj
    rw [List.getElem?_set_self (by rw [finD_len]; exact hk), finD_at, hp]
  · rw [List.getElem?_set_ne hj]
theorem flat_ac : ∀ (L : List Ac) (k : Nat) (a : Ac) (e v : Int) (p : Bool), L[k]? = some a → (((L.flatMap acV).set (k * 5 + 1) (.int .i64 e)).set (k * 5 + 2) (.bool p)).set (k * 5 + 3) (.int .i64 v) = (L.set k ⟨a.b, e, p, v, a.add⟩).flatMap acV
  | [], k, a, e, v, p, h => by simp at h
  | b :: L, 0, a, e, v, p, h => by
    simp only [List.getElem?_cons_zero, Option.some.injEq] at h
    subst h
    simp [acV]
  | b :: L, k + 1, a, e, v, p, h => by
    have ih := flat_ac L k a e v p (by simpa using h)
    rw [List.flatMap_cons, List.set_cons_succ, List.flatMap_cons, ← ih, show (k + 1) * 5 + 1 = k * 5 + 1 + 5 by omega, show (k + 1) * 5 + 2 = k * 5 + 2 + 5 by omega, show (k + 1) * 5 + 3 = k * 5 + 3 + 5 by omega]
    simp [acV]
/-- Operations of the call's own. -/
def OwnA (w : World) (B : Nat) (e : TypeId) (v : Value) (n : Nat) (L : List Ac) : Prop := w.ownsRow B e 5 v n (L.flatMap acV)
section
variable {w : World} {B n : Nat} {e : TypeId} {L : List Ac}
theorem OwnA.len {v : Value} (h : OwnA w B e v n L) : L.length = n := by have := h.1; rw [flatMap_len acV_len] at this; omega
theorem OwnA.val {g c : Nat} (h : OwnA w B e (.slice (some ⟨g, 0, none⟩) n c) n L) {i : Nat} (hi : i < n) {a : Ac} (ha : L[i]? = some a) : w.cell? ⟨g, i * 5, none⟩ = some (.int .i64 a.b) ∧ w.cell? ⟨g, i * 5 + 1, none⟩ = some (.int .i64 a.e) ∧ w.cell? ⟨g, i * 5 + 2, none⟩ = some (.bool a.put) ∧ w.cell? ⟨g, i * 5 + 3, none⟩ = some (.int .i64 a.v) ∧
    ∀ j, w.frozen? ⟨g, j, none⟩ = false := by
  have key : ∀ j, j < 5 → w.cell? ⟨g, i * 5 + j, none⟩ = (acV a)[j]? := fun j hj => by
    rw [World.ownsRow.cellAt h _ (by omega), flatMap_at acV_len L i j _ ha hj]
  exact ⟨key 0 (by omega), key 1 (by omega), key 2 (by omega), key 3 (by omega), fun j => World.ownsRow.frozenAt h j⟩
theorem OwnA.put {g c : Nat} (h : OwnA w B e (.slice (some ⟨g, 0, none⟩) n c) n L) (i : Nat) (u : Value) : (w.setCell ⟨g, i, none⟩ u).ownsRow B e 5 (.slice (some ⟨g, 0, none⟩) n c) n ((L.flatMap acV).set i u) := (World.ownsRow.stored h i u).1
end
end Go.Baro

set_option linter.unusedSimpArgs false
set_option linter.unusedVariables false
namespace Go.Baro

theorem out_rng (m : Mc) (A : Nat → Prop) (S : List Nat) (hS : ∀ n ∈ S, A n) : ∀ x ∈ (plyG m 0 S (g0 m)).out, A x.th ∧ x.cl < ((plyG m 0 S (g0 m)).th x.th).bg := by
  refine (plyG_indS (I := fun S g => Hs S.length S.length g ∧ ∀ x ∈ g.out, A x.th ∧ x.cl < (g.th x.th).bg) (A := A) ⟨hs_zero m, fun x hx => by simp [g0] at hx⟩ (fun S g n hn ⟨hs, h⟩ => ⟨by rw [List.length_append, List.length_singleton]; exact hs_act hs, ?_⟩) S hS).2
  rw [actG_eq]
  have hsm := hs_begin (m := m) (n := n) hs
  have hm : ∀ x ∈ (bgG m g S.length n).out, A x.th ∧ x.cl < ((bgG m g S.length n).th x.th).bg := by
    rcases bgG_cases m g S.length n with ⟨h1, _⟩ | ⟨c, h1, h2, h3⟩
    · rw [h1]; exact h
    · rw [h3]
      intro x hx
      dsimp only at hx ⊢
      rcases List.mem_append.1 hx with hx | hx
      · obtain ⟨k1, k2⟩ := h x hx
        refine ⟨k1, ?_⟩
        by_cases ht : x.th = n
        · rw [ht, putT_same]; rw [ht] at k2; dsimp only; omega
        · rw [putT_other _ _ ht]; exact k2
      · rw [List.mem_singleton.1 hx]
        refine ⟨hn, ?_⟩
        dsimp only
        rw [putT_same]
        dsimp only
        omega
  generalize bgG m g S.length n = gm at hm hsm
  intro x hx
  rw [exG_bg]
  cases hl : (gm.th n).now with
  | none => rw [exG_none hl] at hx; exact hm x hx
  | some l =>
    by_cases he : (exc l gm.w).2.2.2 = true
    · rw [exG_end hl he] at hx
      rcases List.mem_append.1 hx with hx | hx
      · exact hm x hx
      · rw [List.mem_singleton.1 hx]
        dsimp only
        have := hsm.ps n (by rw [hl]; simp)
        exact ⟨hn, by omega⟩
    · rw [exG_go hl (by simpa using he)] at hx; exact hm x hx
def dKey (d : Dg) : Nat × Nat := (d.th, d.cl)
/-- The calls that a part of the events tells of are those that began in it. -/
theorem dgs_keys (es : List Ev) : (dgs es).map dKey = (es.filter fun x => !x.en).map fun x => (x.th, x.cl) := by
  suffices h : ∀ (es : List Ev) (l : List Dg), (es.foldl dg1 l).map dKey = l.map dKey ++ (es.filter fun x => !x.en).map fun x => (x.th, x.cl) by simpa [dgs] using h es []
  intro es
  induction es with
  | nil => intro l; simp
  | cons x es ih =>
    intro l
    rw [List.foldl_cons, ih]
    by_cases he : x.en = true
    · rw [dg1_end _ _ he]
      have : (l.map fun d => d.fin x).map dKey = l.map dKey := by
        rw [List.map_map]
        apply List.map_congr_left
        intro d _
        simp only [Function.comp, Dg.fin, dKey]
        split <;> rfl
      rw [this]
      simp [he]
    · have he' : x.en = false := by simpa using he
      rw [dg1_begin _ _ he']
      simp [he', dKey]
theorem dgs_from {es : List Ev} {d : Dg} (h : d ∈ dgs es) : ∃ x ∈ es, x.th = d.th ∧ x.cl = d.cl := by
  have : dKey d ∈ (dgs es).map dKey := List.mem_map.2 ⟨d, h, rfl⟩
  rw [dgs_keys] at this
  obtain ⟨x, hx, he⟩ := List.mem_map.1 this
  simp only [dKey, Prod.mk.injEq] at he
  exact ⟨x, (List.mem_filter.1 hx).1, he.1, he.2⟩
theorem keys_once {sb se : Nat} {g : Gs} (h : Hs sb se g) : ((dgs g.out).map dKey).Nodup := by
  unfold List.Nodup
  rw [List.pairwise_map]
  refine (List.Pairwise.and_mem.1 h.srt).imp fun {a b} hab he => ?_
  simp only [dKey, Prod.mk.injEq] at he
  have := h.one a hab.1 b hab.2.1 he.1 he.2
  have h2 := hab.2.2
  rw [this] at h2
  omega
/-- In each part of the events a call is told of once. -/
theorem part_once {sb se : Nat} {g : Gs} (h : Hs sb se g) (j : Nat) : ((dgs (g.out.take j)).map dKey).Nodup := by
  have h1 := keys_once h
  rw [dgs_keys] at h1 ⊢
  have : g.out = g.out.take j ++ g.out.drop j := (List.take_append_drop j g.out).symm
  rw [this, List.filter_append, List.map_append] at h1
  exact (List.nodup_append.1 h1).1
theorem nodup_one {l : List Dg} (h : (l.map dKey).Nodup) {a b : Dg} (ha : a ∈ l) (hb : b ∈ l) (he : dKey a = dKey b) : a = b := by
  obtain ⟨i, hi⟩ := List.mem_iff_getElem?.1 ha
  obtain ⟨j, hj⟩ := List.mem_iff_getElem?.1 hb
  have hil := (List.getElem?_eq_some_iff.1 hi).1
  have hij : i = j := by
    have h1 : (l.map dKey)[i]? = some (dKey a) := by rw [List.getElem?_map, hi]; rfl
    have h2 : (l.map dKey)[j]? = some (dKey a) := by rw [List.getElem?_map, hj, he]; rfl
    exact (List.getElem?_inj (by simpa using hil) h).1 (h1.trans h2.symm)
  subst hij
  rw [hi] at hj
  injection hj
theorem hist_ok {m : Mc} {S : List Nat} {pf : Cl → List Int → Bool → Bool × Int × Bool} {G : Cl → Prop} (hS : ∀ n ∈ S, n < m.ts.length) (hn : noErr (plyG m 0 S (g0 m)))
    (h1 : ∀ d ∈ dgs (plyG m 0 S (g0 m)).out, d.e ≠ -1 → (pf (clOf m d.th d.cl) d.to true).2.2 = true) (h2 : ∀ d ∈ dgs (plyG m 0 S (g0 m)).out, d.e = -1 → (pf (clOf m d.th d.cl) [] false).2.2 = true) (hg : ∀ t ∈ m.ts, ∀ c ∈ t, G c) : HistOk m pf G (plyG m 0 S (g0 m)).out := by
  have hr := out_rng m (fun n => n < m.ts.length) S hS
  have hbg := bg_le m S
  have hrn := rn_ply S hn
  have hs := hs_ply m S
  generalize plyG m 0 S (g0 m) = g at *
  have hrng : ∀ x ∈ g.out, x.th < m.ts.length ∧ x.cl < (m.ts[x.th]?.getD []).length := fun x hx => ⟨(hr x hx).1, Nat.lt_of_lt_of_le (hr x hx).2 (hbg x.th)⟩
  refine ⟨hrng, fun j d hd => ?_, fun j x hx he d hd ht hc => ?_, fun x hx he => ?_, h2, hg⟩
  · obtain ⟨x, hx, e1, e2⟩ := dgs_from hd
    have := hrng x (List.mem_of_mem_take hx)
    rw [e1, e2] at this
    exact this
  · obtain ⟨_, d', hd', k1, k2, k3⟩ := hrn j x hx he
    have := nodup_one (part_once hs j) hd hd' (by simp [dKey, ht, hc, k1, k2])
    rw [this]; exact k3
  · obtain ⟨j, hj⟩ := List.mem_iff_getElem?.1 hx
    obtain ⟨_, d', hd', k1, k2, k3⟩ := hrn j x hj he
    have hjl := (List.getElem?_eq_some_iff.1 hj).1
    have hmem : (⟨d'.b, x.st, d'.th, d'.cl, x.to⟩ : Dg) ∈ dgs (g.out.take (j + 1)) := by
      have : g.out.take (j + 1) = g.out.take j ++ [x] := by rw [List.take_add_one, hj]; rfl
      rw [this, dgs_snoc, dg1_end _ _ he]
      refine List.mem_map.2 ⟨d', hd', ?_⟩
      unfold Dg.fin
      rw [if_pos ⟨k1, k2, k3⟩]
    have hlate : dgs g.out = (g.out.drop (j + 1)).foldl dg1 (dgs (g.out.take (j + 1))) := by
      unfold dgs
      rw [← List.foldl_append, List.take_append_drop]
    obtain ⟨d2, hd2, q1, q2, q3, q4, q5⟩ := dgs_later (es := g.out.drop (j + 1)) (st := 0) (fun _ _ => Nat.zero_le _) _ _ hmem
    rw [← hlate] at hd2
    have e := q4 (by dsimp only; omega)
    rw [e] at hd2
    have := h1 _ hd2 (by dsimp only; omega)
    dsimp only at this
    rw [k1, k2] at this
    exact this
end Go.Baro
