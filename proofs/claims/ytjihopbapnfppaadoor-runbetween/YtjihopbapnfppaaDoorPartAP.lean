/- Of this claim's own texts these, one behind the other: KeepRunBetweenP, VmMem. No statement of the seat is proved here; no condition but those that stand at the theorems. -/
import Derived.Test.YtjihopbapnfppaaDoorPartAO
import Derived.Test.YtjihopbapnfppaaDoorPartAE
import Derived.Laws.Tables
import Derived.Laws.OwnMore
set_option linter.unusedSimpArgs false
set_option linter.unusedVariables false
namespace Go.Proofs.YtjihopbapnfppaaDoor
open Go.RowKit Go.Ord Go.Baro

set_option maxRecDepth 100000 in
set_option maxHeartbeats 2000000 in
theorem keep_RunBetweenP (hP : PlaySpec) (w : World) (hT : Tab w) (A0 : Option Addr) (n0 c0 : Nat) (x0 : List Ins) (h0 : RO w w.heap.size A0 n0 x0) (b0 : n0 ≤ 3518437208883) (r0 : ∀ f ∈ x0, inI f) (_ : n0 ≤ c0)
    (A1 : Option Addr) (n1 c1 : Nat) (x1 : List Ins) (h1 : RO w w.heap.size A1 n1 x1) (b1 : n1 ≤ 3518437208883) (r1 : ∀ f ∈ x1, inI f) (_ : n1 ≤ c1)
    (A2 : Option Addr) (n2 c2 : Nat) (x2 : List Int) (h2 : RI w w.heap.size .i64 A2 n2 x2) (b2 : n2 ≤ 17592186044416) (r2 : ∀ x ∈ x2, -9223372036854775808 ≤ x ∧ x ≤ 9223372036854775807) (_ : n2 ≤ c2)
    (A3 : Option Addr) (n3 c3 : Nat) (x3 : List Int) (h3 : RI w w.heap.size .u8 A3 n3 x3) (b3 : n3 ≤ 140737488351232) (r3 : ∀ x ∈ x3, 0 ≤ x ∧ x < 256) (_ : n3 ≤ c3) :
    Calls Tryd.prog 13 #[.slice A0 n0 c0, .slice A1 n1 c1, .slice A2 n2 c2, .slice A3 n3 c3] w fun e w' => e = .returned (.bool true) ∧ Below w.heap.size w w' := by
  have HP := Lib.hid hP
  have HT := Lib.hid hT
  have H2 := Lib.hid (show ∀ x ∈ x2, inW x from r2)
  have H3 := Lib.hid r3
  clear hP hT r0 r1 r2 r3
  go_enter Tryd.func13, Tryd.ntmps13
  go_wp2_with fail
  refine (keep_MachineOf w A0 A1 A2 n0 c0 n1 c1 n2 c2 x0 x1 x2 h0 b0 h1 b1 h2 b2 H2.out).mono ?_
  rintro e w1 ⟨tg, gw, gc, g6, v0, v1, ts, rfl, hMo, hb1⟩
  have hs1 := hb1.size
  have hA1 := (Below.refl w1.heap.size w1).alloc (Nat.le_refl _) (Obj.cells #[.slice (some ⟨gw, 0, none⟩) 8 8, .slice (some ⟨gc, 0, none⟩) 2 2, .slice (some ⟨g6, 0, none⟩) 3 3] 45)
  have bX := Box.newAt w1 45 [.slice (some ⟨gw, 0, none⟩) 8 8, .slice (some ⟨gc, 0, none⟩) 2 2, .slice (some ⟨g6, 0, none⟩) 3 3] w1.heap.size rfl
  have hbA := hb1.trans (hA1.mono hs1)
  have HMo := Lib.hid (hMo.below hA1)
  clear hMo h0 h1 h2
  go_wp2_with fail
  refine (keep_Schedule x3 A3 n3 c3 _ ((h3.below hbA).more hbA.size) (by omega) H3.out).mono ?_
  rintro e w2 ⟨As, ns, cs, rfl, hrs, hlcs, hns, hb2⟩
  have hbB := hbA.trans (hb2.mono hbA.size)
  have bX2 := bX.below hb2 (by simp)
  have HMo2 := Lib.hid (HMo.out.below hb2)
  have hs2 := hb2.size
  simp at hs2
  have lX := bX2.lt
  have LS := Lib.hid hrs.len
  obtain ⟨S, hS⟩ : ∃ S, S = schL x3 := ⟨_, rfl⟩
  have hSl : S.length = ns := by rw [hS]; exact LS.out
  have hSi : ∀ x ∈ S, 0 ≤ x ∧ x < 3 := fun x hx => schL_in (hS ▸ hx)
  rw [← hS] at hrs
  obtain ⟨N, hN⟩ : ∃ N, N = S.map Int.toNat := ⟨_, rfl⟩
  obtain ⟨M, hM⟩ : ∃ M, M = mD x0 x1 (thL x2) := ⟨_, rfl⟩
  obtain ⟨T1, hT1⟩ : ∃ T1, T1 = (plyG M 0 N (g0 M)).out := ⟨_, rfl⟩
  obtain ⟨W1, hW1⟩ : ∃ W1, W1 = (plyG M 0 N (g0 M)).w := ⟨_, rfl⟩
  have hR1 : PlR M S T1 W1 0 := by
    have := plR_good (x0 := x0) (x1 := x1) (s := S) (fun i _ => thL_ok x2 i) (by omega) hSi
    rw [← hM, ← hN, ← hT1, ← hW1] at this
    exact this
  have hW8 : W1.length = 8 := by rw [hW1, plyG_wl, hM]; rfl
  have hG := run_between M N
  rw [← hT1] at hG
  have hMt : ∀ i, i < 3 → (M.ts[i]?.getD []).length = (thL x2 i).length := fun i hi => by
    rw [hM]
    rcases (by omega : i = 0 ∨ i = 1 ∨ i = 2) with rfl | rfl | rfl <;> rfl
  have hth : ∀ (i : Nat) (n : Nat), N[i]? = some n → n < 3 ∧ S[i]? = some (n : Int) := by
    intro i n h
    rw [hN, List.getElem?_map] at h
    cases h2 : S[i]? with
    | none => rw [h2] at h; cases h
    | some y =>
      rw [h2] at h
      have := hSi y (List.mem_of_getElem? h2)
      simp only [Option.map_some, Option.some.injEq] at h
      refine ⟨by omega, ?_⟩
      congr 1
      omega
  have HR1 := Lib.hid hR1
  have HG := Lib.hid hG
  have HMt := Lib.hid hMt
  have HTh := Lib.hid hth
  have HW8 := Lib.hid hW8
  have HSl := Lib.hid hSl
  have HInM : Hid (∀ w', Below w2.heap.size w2 w' → InM w' (some ⟨gw, 0, none⟩) 8 8 (some ⟨gc, 0, none⟩) 2 2 (some ⟨g6, 0, none⟩) 3 3 M) := fun w' hb => by rw [hM]; exact (HMo2.out.inM (fun i _ => thL_ok x2 i)).below hb
  have y0 : w2.cell? ⟨w1.heap.size, 0, none⟩ = _ := bX2.cell 0
  have y1 : w2.cell? ⟨w1.heap.size, 1, none⟩ = _ := bX2.cell 1
  have y2 : w2.cell? ⟨w1.heap.size, 2, none⟩ = _ := bX2.cell 2
  simp only [List.getElem?_cons_zero, List.getElem?_cons_succ] at y0 y1 y2
  clear hS hSl hSi hN hM hT1 hW1 hR1 hW8 hG hMt hth HMo bX
  go_wp2
  refine region_first [0, 1] (.cons 2 (seq [3, 4, 5, 6, 7, 8, 9, 10] .nil)) (by kernel_rfl) (by kernel_rfl) ?_
  simp only [pick, List.map_cons, List.map_nil, List.getD_cons_zero, List.getD_cons_succ]
  go_wp2
  refine ord_call (by kernel_rfl) ?_
  simp only [pick, List.map_cons, List.map_nil, List.getD_cons_zero, List.getD_cons_succ]
  go_wp2_with (at_builtin; go_must (refine app_src eltIntS w2.drew rfl _ _ rfl w2.heap.size _ 0 [] rfl (World.ownsRow_nil _ _ _ _) As ns _ (S.map (Value.int .i64)) rfl w2.heap.size (by exact Rd.heap hrs rfl) (one_ints _ _) (by omega) (by omega) (Nat.le_refl _) ?_); intro v5 w5 hv5 hg5 hbel5 hsz5)
  have hb5 : Below w2.heap.size w2 w5 := hbel5 w2 (Below.refl _ _).drew
  rw [List.nil_append, Nat.zero_add] at hv5
  obtain ⟨A6, c6, rfl, hlc6⟩ := own_form hv5
  refine ⟨fun k hk => hb5.block k hk, ?_⟩
  have hr6 : RI w5 w5.heap.size .i64 A6 ns S := Rd.of_own hv5
  have hbE := hbB.trans (hb5.mono hbB.size)
  have bX5 := bX2.below hb5 lX
  have lX5 := bX5.lt
  have hrs5 := (hrs.below hb5).more hb5.size
  have HMo5 := Lib.hid (HMo2.out.below hb5)
  clear y0 y1 y2 hv5 hg5 hbel5 bX2 hrs HMo2
  refine ord_last [3, 4, 5, 6, 7, 8, 9, 10] (by kernel_rfl) ?_
  simp only [pick, List.map_cons, List.map_nil, List.getD_cons_zero, List.getD_cons_succ]
  go_wp2_with fail
  refine (HP.out w5 (HT.out.below hbE HT.out.lt) _ 8 8 _ 2 2 _ 3 3 M A6 ns c6 S T1 W1 0 (HInM.out w5 hb5) hr6 (by omega) HR1.out).mono ?_
  rintro e w6 ⟨B3, m3, d3, B4, m4, d4, rfl, hr3, hr4, hl3, hl4, hm3, hm4, hb6⟩
  have hbF := hbE.trans (hb6.mono hbE.size)
  have bX6 := bX5.below hb6 lX5
  have lX6 := bX6.lt
  have hrs6 := (hrs5.below hb6).more hb6.size
  have HMo6 := Lib.hid (HMo5.out.below hb6)
  obtain rfl : m4 = 8 := by rw [← hr4.len]; exact HW8.out
  clear hr4 hr6 bX5 hrs5 HMo5
  go_wp2_with fail
  refine (keep_runSure HP.out w6 (HT.out.below hbF HT.out.lt)).mono ?_
  rintro e w7 ⟨rfl, hb7⟩
  have hbG := hbF.trans (hb7.mono hbF.size)
  have hX := (hr3.below hb7).more hb7.size
  have hrs7 := (hrs6.below hb7).more hb7.size
  have bX7 := bX6.below hb7 lX6
  have HMo7 := Lib.hid (HMo6.out.below hb7)
  clear hr3 hrs6 bX6 HMo6
  have hb8 := ((Below.refl w7.heap.size w7).alloc (Nat.le_refl _) (Obj.cells #[.bool false, .bool false, .bool false] 62)).alloc (by simp) (Obj.cells #[.int .i64 0, .int .i64 0, .int .i64 0] 63)
  have bI := (Box.newAt w7 62 [.bool false, .bool false, .bool false] w7.heap.size rfl).alloc (Obj.cells #[.int .i64 0, .int .i64 0, .int .i64 0] 63)
  have bN := Box.newAt (w7.alloc (Obj.cells #[.bool false, .bool false, .bool false] 62)) 63 [.int .i64 0, .int .i64 0, .int .i64 0] (w7.heap.size + 1) (by simp)
  go_wp2
  go_loopw [16, 17] (fun la i wr => ∃ (j : Nat) (s : Cs) (l : Int), j ≤ m3 ∧ i = .int .i64 j ∧ la = .int .i64 l ∧ l ≤ (s.la : Int) ∧ Hid (s = (T1.take j).foldl ck1 Go.Baro.c0) ∧ Box wr w7.heap.size 62 [.bool (s.inn 0), .bool (s.inn 1), .bool (s.inn 2)] ∧ Box wr (w7.heap.size + 1) 63 [.int .i64 (s.nx 0), .int .i64 (s.nx 1), .int .i64 (s.nx 2)] ∧ Below w7.heap.size w7 wr) (fun _ i _ => m3 - (intOf i).toNat)
  case atStart => exact ⟨0, _, _, Nat.zero_le _, rfl, rfl, by show (-1 : Int) ≤ ((Go.Baro.c0.la : Nat) : Int); omega, rfl, bI, bN, hb8⟩
  case round =>
    clear bI bN hb8
    obtain ⟨j, s, l, hj, rfl, rfl, hla, HS, bI, bN, hbel⟩ := hrel
    have hszr := hbel.size
    by_cases hjm : j < m3
    · obtain ⟨b, o, A8, n8, k8, x, rfl, hbB', q0, q1, q2, q3, q4, q5, hlk, hn8, hri, HX, hmem⟩ := (hX.below hbel).val hjm
      obtain ⟨g1, g2, g3, g4, g5, g6'⟩ := HG.out j x HX.out
      rw [← HS.out] at g1 g3 g4 g6'
      obtain ⟨hth3, hSx⟩ := HTh.out _ _ g2
      have hstn : x.st < ns := by rw [← HSl.out]; exact (List.getElem?_eq_some_iff.1 hSx).1
      rw [HMt.out _ hth3] at g6'
      have hl12 := (thL_ok x2 x.th).1
      obtain ⟨st, th, cl, en, er, to⟩ := x
      dsimp only at q0 q1 q2 q3 q4 hri g1 g2 g3 g4 g5 g6' hth3 hSx hstn hl12
      obtain ⟨b2', o2, y, rfl, hb2B, hcy, HY, hmy⟩ := (hrs7.below hbel).val hstn
      have hyt : y = (th : Int) := by have h1 := HY.out; rw [hSx] at h1; exact (Option.some.inj h1).symm
      subst hyt
      have hMr := HMo7.out.below hbel
      have bXr := bX7.below hbel (by have := bX7.lt; omega)
      obtain ⟨nt, hnt⟩ : ∃ nt, nt = (thL x2 th).length := ⟨_, rfl⟩
      rw [← hnt] at hl12 g6'
      have ct : ∃ A c, wr.cell? ⟨g6, th, none⟩ = some (.slice A nt c) := by
        obtain ⟨rows, _, _, r3q, _⟩ := hMr.row th hth3
        obtain ⟨A, c, hts, _⟩ := own_form r3q
        have := hMr.thr.cell th
        rw [three_at ts hth3, hts, ← hnt] at this
        exact ⟨A, c, this⟩
      obtain ⟨Aq, cq, ct⟩ := ct
      have l6 := hMr.thr.lt
      have z2 : wr.cell? ⟨w1.heap.size, 2, none⟩ = some (.slice (some ⟨g6, 0, none⟩) 3 3) := bXr.cell 2
      have lXr := bXr.lt
      have lX7 : w1.heap.size < w7.heap.size := bX7.lt
      have ci : wr.cell? ⟨w7.heap.size, th, none⟩ = some (.bool en) := by
        have := bI.cell th
        rw [three_at (fun i => Value.bool (s.inn i)) hth3, ← g3] at this
        exact this
      have cn : wr.cell? ⟨w7.heap.size + 1, th, none⟩ = some (.int .i64 cl) := by
        have := bN.cell th
        rw [three_at (fun i => Value.int .i64 (s.nx i)) hth3, ← g4] at this
        exact this
      have fi := bI.frozen th
      have fn := bN.frozen th
      have lI := bI.lt
      have lN := bN.lt
      have hlb : b < wr.heap.size := by omega
      have hlb2 : b2' < wr.heap.size := by omega
      have hls : l ≤ (st : Int) := by omega
      have HG3 := Lib.hid g3
      have HG4 := Lib.hid g4
      have HNx : Hid ((T1.take (j + 1)).foldl ck1 Go.Baro.c0 = ck1 s ⟨st, th, cl, en, er, to⟩) := by
        show _ = _
        rw [at_take HX.out, List.foldl_append, ← HS.out]
        rfl
      have hd6 : ∀ k, Ty wr k 62 → k ≠ g6 := fun k hk h => by subst h; exact absurd (hk.one hMr.thr.ty) (by decide)
      have hg6i : g6 ≠ w7.heap.size := fun h => hd6 w7.heap.size bI.ty h.symm
      have hg6n : g6 ≠ w7.heap.size + 1 := fun h => by have := bN.ty; rw [← h] at this; exact absurd (this.one hMr.thr.ty) (by decide)
      have hst4 : st < 400 := by omega
      clear hmem hmy HX HY hSx g1 g2 hnt hd6 hMr hla HS
      cases en with
      | true =>
        have hcl : cl + 1 ≤ nt := by
          have : (ck1 s ⟨st, th, cl, true, er, to⟩).nx th = s.nx th + 1 := by simp [ck1]
          rw [this, ← g4] at g6'
          exact g6'
        clear g5 g6' g3 g4
        go_wp2
        refine region_two [0, 1, 2, 3, 4, 5, 6, 7, 8, 9, 10, 11, 12, 13, 14, 15, 16, 17, 18, 19, 20, 21, 22, 23, 24, 25, 26, 27, 28, 29, 30, 31, 32, 33, 34, 35, 36, 37, 38, 39, 40, 41, 42, 43, 44, 45, 46, 47, 48] [] (by kernel_rfl) (by kernel_rfl) ?_
        simp only [pick, List.map_cons, List.map_nil, List.getD_cons_zero, List.getD_cons_succ]
        go_wp2
        refine region_two [0, 1, 2, 3, 4, 5, 6, 7, 8, 9, 10, 11] [] (by kernel_rfl) (by kernel_rfl) ?_
        simp only [pick, List.map_cons, List.map_nil, List.getD_cons_zero, List.getD_cons_succ]
        go_wp2
        go_roundw
        case rel =>
          refine ⟨j + 1, ck1 s ⟨st, th, cl, true, er, to⟩, st, by omega, by go_num, rfl, Int.le_refl _, HNx.out.symm, ?_, ?_, ?_⟩
          · have e := three_set (fun i => Value.bool (s.inn i)) (fun i => Value.bool ((ck1 s ⟨st, th, cl, true, er, to⟩).inn i)) (v := .bool false) hth3 (by simp [ck1]) (fun i hi => by simp [ck1, hi])
            have hx := bI.set th (.bool false)
            rw [e] at hx
            exact ((hx.other th (.int .i64 ((cl : Int) + 1)) (b' := w7.heap.size + 1) (by omega)).alloc _)
          · have e := three_set (fun i => Value.int .i64 (s.nx i)) (fun i => Value.int .i64 ((ck1 s ⟨st, th, cl, true, er, to⟩).nx i)) (v := .int .i64 ((cl : Int) + 1)) hth3 (by simp [ck1, ← HG4.out]) (fun i hi => by simp [ck1, hi])
            have hx := (bN.other th (.bool false) (b' := w7.heap.size) (by omega)).set th (.int .i64 ((cl : Int) + 1))
            rw [e] at hx
            exact hx.alloc _
          · exact ((below_at (below_at hbel (Nat.le_refl _) th (.bool false)) (by omega) th (.int .i64 ((cl : Int) + 1))).alloc (by simp; omega) _).drew.drew
        case measure => simp [intOf]; omega
      | false =>
        have hcl : cl ≤ nt := by
          have : (ck1 s ⟨st, th, cl, false, er, to⟩).nx th = s.nx th := by simp [ck1]
          rw [this, ← g4] at g6'
          exact g6'
        obtain ⟨rfl, rfl⟩ := g5 rfl
        obtain rfl : n8 = 0 := hri.len.symm
        clear g5 g6' g3 g4
        go_wp2
        refine region_two [0, 1, 2, 3, 4, 5, 6, 7, 8, 9, 10, 11, 12, 13, 14, 15, 16, 17, 18, 19, 20, 21, 22, 23, 24, 25, 26, 27, 28, 29, 30, 31, 32, 33, 34, 35, 36, 37, 38, 39, 40, 41, 42, 43, 44, 45, 46, 47, 48] [] (by kernel_rfl) (by kernel_rfl) ?_
        simp only [pick, List.map_cons, List.map_nil, List.getD_cons_zero, List.getD_cons_succ]
        go_wp2
        refine region_two [0, 1, 2, 3, 4, 5, 6, 7, 8, 9, 10, 11] [] (by kernel_rfl) (by kernel_rfl) ?_
        simp only [pick, List.map_cons, List.map_nil, List.getD_cons_zero, List.getD_cons_succ]
        go_wp2
        go_roundw
        case rel =>
          refine ⟨j + 1, ck1 s ⟨st, th, cl, false, 0, []⟩, st, by omega, by go_num, rfl, Int.le_refl _, HNx.out.symm, ?_, ?_, ?_⟩
          · have e := three_set (fun i => Value.bool (s.inn i)) (fun i => Value.bool ((ck1 s ⟨st, th, cl, false, 0, []⟩).inn i)) (v := .bool true) hth3 (by simp [ck1]) (fun i hi => by simp [ck1, hi])
            have hx := bI.set th (.bool true)
            rw [e] at hx
            exact hx.alloc _
          · have e : [Value.int .i64 (s.nx 0), .int .i64 (s.nx 1), .int .i64 (s.nx 2)] = [Value.int .i64 ((ck1 s ⟨st, th, cl, false, 0, []⟩).nx 0), .int .i64 ((ck1 s ⟨st, th, cl, false, 0, []⟩).nx 1), .int .i64 ((ck1 s ⟨st, th, cl, false, 0, []⟩).nx 2)] := by simp [ck1]
            have hx := bN.other th (.bool true) (b' := w7.heap.size) (by omega)
            rw [e] at hx
            exact hx.alloc _
          · exact ((below_at hbel (Nat.le_refl _) th (.bool true)).alloc (by simp; omega) _).drew.drew
        case measure => simp [intOf]; omega
    · go_wp2
      go_ret
      exact ⟨rfl, hbG.trans (hbel.mono hbG.size)⟩
end Go.Proofs.YtjihopbapnfppaaDoor

set_option linter.unusedSimpArgs false
set_option linter.unusedVariables false
namespace Go.Baro
open Go.RowKit

def regV (r : Int → Int) : List Value := (List.range 24).map fun i => Value.int .i64 (r (i : Nat))
/-- The cells of a thread: its code, the next instruction, the registers, what it has told. -/
def thC (cv : Value) (p : Int) (r : Int → Int) (tv : Value) : List Value := cv :: .int .i64 p :: (regV r ++ [tv])
theorem regV_len (r : Int → Int) : (regV r).length = 24 := by simp [regV]
theorem regV_at (r : Int → Int) {i : Nat} (h : i < 24) : (regV r)[i]? = some (.int .i64 (r i)) := by simp [regV, List.getElem?_map, List.getElem?_range h]
section
variable {cv tv : Value} {p : Int} {r : Int → Int}
theorem thC_len : (thC cv p r tv).length = 27 := by simp [thC, regV_len]
theorem thC_reg {i : Nat} (h : i < 24) : (thC cv p r tv)[2 + i]? = some (.int .i64 (r i)) := by
  rw [thC, show 2 + i = i + 1 + 1 by omega, List.getElem?_cons_succ, List.getElem?_cons_succ, List.getElem?_append_left (by rw [regV_len]; exact h), regV_at r h]
theorem thC_told : (thC cv p r tv)[26]? = some tv := by
  rw [thC, show 26 = 24 + 1 + 1 by rfl, List.getElem?_cons_succ, List.getElem?_cons_succ, List.getElem?_append_right (by rw [regV_len]; omega), regV_len]; rfl
theorem thC_set_p (q : Int) : (thC cv p r tv).set 1 (.int .i64 q) = thC cv q r tv := rfl
theorem regV_set {i : Nat} (h : i < 24) (v : Int) : (regV r).set i (.int .i64 v) = regV (upd r i v) := by
  refine List.ext_getElem? fun j => ?_
  rw [List.getElem?_set]
  by_cases hj : j < 24
  · rw [regV_at _ hj, regV_at _ hj, regV_len]
    by_cases hij : i = j
    · subst hij; rw [if_pos rfl, if_pos h, upd_same]
    · rw [if_neg hij, upd_other _ _ (by omega)]
  · rw [List.getElem?_eq_none (by rw [regV_len]; omega), List.getElem?_eq_none (by rw [regV_len]; omega), if_neg (by omega)]
theorem thC_set_reg {i : Nat} (h : i < 24) (v : Int) : (thC cv p r tv).set (2 + i) (.int .i64 v) = thC cv p (upd r i v) tv := by
  rw [thC, show 2 + i = i + 1 + 1 by omega, List.set_cons_succ, List.set_cons_succ, List.set_append_left _ _ (by rw [regV_len]; exact h), regV_set h]; rfl
theorem thC_set_told (u : Value) : (thC cv p r tv).set 26 u = thC cv p r u := by
  rw [thC, show 26 = 24 + 1 + 1 by rfl, List.set_cons_succ, List.set_cons_succ, List.set_append_right _ _ (by rw [regV_len]; omega), regV_len]; rfl
end

/-- The thread lies in block b; what it has told and the shared words are rows of the call's own, in two blocks from B on. -/
structure Th (T I : TypeId) (w : World) (B b : Nat) (cv tv wv : Value) (s : Vs) : Prop where
  box : Box w b T (thC cv s.p s.r tv)
  told : w.ownsRow B I 1 tv s.t.length (s.t.map (Value.int .i64))
  words : w.ownsRow B I 1 wv s.w.length (s.w.map (Value.int .i64))
  apart : wv.ownBlock = none ∨ wv.ownBlock ≠ tv.ownBlock
  ne : I ≠ T
section
variable {T I : TypeId} {w w' : World} {B b : Nat} {cv tv wv : Value} {s : Vs}
theorem Th.lt (h : Th T I w B b cv tv wv s) : b < w.heap.size := h.box.lt
theorem Th.kept (h : Th T I w B b cv tv wv s) {row : Option Nat} (hg : w.grownBy w' row) (hb : some b ≠ row) (ht : ∀ k, tv.ownBlock = some k → some k ≠ row) (hw : ∀ k, wv.ownBlock = some k → some k ≠ row) : Th T I w' B b cv tv wv s := by
  refine ⟨h.box.grown hg hb, h.told.kept hg ?_, h.words.kept hg ?_, h.apart, h.ne⟩
  · cases hv : tv.ownBlock with
    | none => exact .inl rfl
    | some k => exact .inr (ht k hv)
  · cases hv : wv.ownBlock with
    | none => exact .inl rfl
    | some k => exact .inr (hw k hv)
theorem Th.alloc (h : Th T I w B b cv tv wv s) (o : Obj) : Th T I (w.alloc o) B b cv tv wv s := h.kept (World.grownBy_alloc w o none) (by simp) (by simp) (by simp)
theorem Th.drewN (h : Th T I w B b cv tv wv s) (n : Nat) : Th T I (w.drewN n) B b cv tv wv s := ⟨h.box, h.told, h.words, h.apart, h.ne⟩
theorem Th.drew (h : Th T I w B b cv tv wv s) : Th T I w.drew B b cv tv wv s := ⟨h.box, h.told, h.words, h.apart, h.ne⟩
theorem Th.boxed (h : Th T I w B b cv tv wv s) {i : Nat} {u : Value} {q : Int} {r : Int → Int} (hs : (thC cv s.p s.r tv).set i u = thC cv q r tv) : Th T I (w.setCell ⟨b, i, none⟩ u) B b cv tv wv { s with p := q, r := r } := by
  have hg := grown_setCell w ⟨b, i, none⟩ u
  have h1 := h.box.set i u
  rw [hs] at h1
  refine ⟨h1, h.told.kept hg ?_, h.words.kept hg ?_, h.apart, h.ne⟩
  · cases hv : tv.ownBlock with
    | none => exact .inl rfl
    | some k => exact .inr fun he => by have := h.box.ne h.told h.ne; rw [hv] at this; exact this he.symm
  · cases hv : wv.ownBlock with
    | none => exact .inl rfl
    | some k => exact .inr fun he => by have := h.box.ne h.words h.ne; rw [hv] at this; exact this he.symm
theorem Th.next (h : Th T I w B b cv tv wv s) (q : Int) : Th T I (w.setCell ⟨b, 1, none⟩ (.int .i64 q)) B b cv tv wv { s with p := q } := h.boxed (thC_set_p q)
theorem Th.reg (h : Th T I w B b cv tv wv s) {i : Nat} (hi : i < 24) (v : Int) : Th T I (w.setCell ⟨b, 2 + i, none⟩ (.int .i64 v)) B b cv tv wv { s with r := upd s.r i v } := h.boxed (thC_set_reg hi v)
theorem Th.word (h : Th T I w B b cv tv wv s) {g n c q : Nat} (hv : wv = .slice (some ⟨g, 0, none⟩) n c) (v : Int) : Th T I (w.setCell ⟨g, q, none⟩ (.int .i64 v)) B b cv tv wv { s with w := s.w.set q v } := by
  subst hv
  have hl : n = s.w.length := by
    obtain ⟨A, c', he, _⟩ := own_form h.words
    injection he
  subst hl
  have hst := World.ownsRow.stored h.words q (.int .i64 v)
  refine ⟨h.box.grown hst.2 (h.box.ne h.words h.ne), h.told.kept hst.2 ?_, ?_, h.apart, h.ne⟩
  · cases ht : tv.ownBlock with
    | none => exact .inl rfl
    | some k =>
      refine .inr fun he => ?_
      rcases h.apart with ha | ha
      · cases ha
      · rw [ht] at ha; exact ha he.symm
  · have := hst.1
    rw [← List.map_set] at this
    show World.ownsRow _ _ _ _ _ (s.w.set q v).length _
    rw [List.length_set]
    exact this
/-- One number more is told: the row has grown, and the thread has it. -/
theorem Th.tell (h : Th T I w B b cv tv wv s) {v' : Value} {x : Int} {m : Nat} {o : Obj} (hg : (w.alloc o).grownBy w' tv.ownBlock) (ho : w'.ownsRow B I 1 v' m (s.t.map (Value.int .i64) ++ [.int .i64 x])) (hm : m = s.t.length + 1)
    (hb : v'.ownBlock = tv.ownBlock ∨ v'.ownBlock = some (w.alloc o).heap.size) : Box w' b T (thC cv s.p s.r tv) ∧ Th T I (w'.setCell ⟨b, 26, none⟩ v') B b cv v' wv { s with t := s.t ++ [x] } := by
  have hb1 := (h.box.alloc o).grown hg (h.box.ne h.told h.ne)
  have hg2 := grown_setCell w' ⟨b, 26, none⟩ v'
  have hw1 : w'.ownsRow B I 1 wv s.w.length (s.w.map (Value.int .i64)) := (h.words.alloc o).kept hg h.apart
  refine ⟨hb1, ?_, ?_, ?_, ?_, h.ne⟩
  · have := hb1.set 26 v'
    rw [thC_set_told] at this
    exact this
  · show World.ownsRow _ _ _ _ _ (s.t ++ [x]).length _
    rw [List.length_append, List.length_singleton, ← hm, List.map_append]
    refine ho.kept hg2 ?_
    cases hv : v'.ownBlock with
    | none => exact .inl rfl
    | some k => exact .inr fun he => by have := hb1.ne ho h.ne; rw [hv] at this; exact this he.symm
  · refine hw1.kept hg2 ?_
    cases hv : wv.ownBlock with
    | none => exact .inl rfl
    | some k => exact .inr fun he => by have := hb1.ne hw1 h.ne; rw [hv] at this; exact this he.symm
  · rcases hb with hb | hb
    · rw [hb]; exact h.apart
    · rw [hb]
      cases hv : wv.ownBlock with
      | none => exact .inl rfl
      | some k =>
        refine .inr fun he => ?_
        have := (h.words.lt _ hv).2
        injection he with he
        simp at he
        omega
theorem Th.code (h : Th T I w B b cv tv wv s) : w.cell? ⟨b, 0, none⟩ = some cv := h.box.cell 0
theorem Th.at_ (h : Th T I w B b cv tv wv s) : w.cell? ⟨b, 1, none⟩ = some (.int .i64 s.p) := h.box.cell 1
theorem Th.get (h : Th T I w B b cv tv wv s) {i : Nat} (hi : i < 24) : w.cell? ⟨b, 2 + i, none⟩ = some (.int .i64 (s.r i)) := (h.box.cell _).trans (thC_reg hi)
theorem Th.toldv (h : Th T I w B b cv tv wv s) : w.cell? ⟨b, 26, none⟩ = some tv := (h.box.cell _).trans thC_told
/-- The shared words, where there is one. -/
theorem Th.some (h : Th T I w B b cv tv wv s) {q : Nat} (hq : q < s.w.length) : ∃ g c x, wv = .slice (Option.some ⟨g, 0, none⟩) s.w.length c ∧ B ≤ g ∧ g < w.heap.size ∧ g ≠ b ∧ w.cell? ⟨g, q, none⟩ = Option.some (.int .i64 x) ∧ Hid (s.w[q]? = Option.some x) ∧ w.frozen? ⟨g, q, none⟩ = false := by
  obtain ⟨g, c, rfl, h1, h2, h3⟩ := own_some h.words (by omega)
  obtain ⟨x, hx, HX, _⟩ := own_val h.words hq
  refine ⟨g, c, x, rfl, h1, h2, ?_, hx, HX, h.words.frozenAt q⟩
  intro he
  have := h.box.ne h.words h.ne
  exact this (by rw [he]; rfl)
end

/-- A whole struct is stored into a block of the call's own. -/
theorem store_box {P : Program} {ops : Array Oper} {rest : List Oper} {o : Oper} {a : Act} {w : World} {Q : Exit → Act → World → Prop} (hgd : o.guard = none) (hdst : o.dst = none) (ty : TypeId) (x y : Operand) (ho : o.op = .store ty x y)
    (g : Nat) (cells : List Value) (hx : a.eval x = .pointer (some ⟨g, 0, none⟩)) (hy : a.eval y = .agg cells.toArray)
    (t : TypeId) (old : List Value) (hg : Box w g t old) (hi : (P.info? ty).map (·.size) = some cells.length)
    (hold : old.length = cells.length) (h1 : ∀ v ∈ cells, v.oneCell' = true)
    (h : ∀ w', Hid (Box w' g t cells) → w.grownBy w' (some g) → wpList P ops Q rest a w') : wpList P ops Q (o :: rest) a w := by
  refine wpList_store_row hgd ty x y ho g cells.toArray hx hy t old.toArray hg (by simpa using hi) (by simpa using hold) (Array.all_eq_true_iff_forall_mem.2 (fun v hv => h1 v (by simpa using hv))) ?_
  rw [hdst]
  refine h _ (setRow_heap w g _ _ t _ hg) ⟨rfl, rfl, rfl, by simp [World.setRow], fun k _ hk => setRow_other w g k _ (fun e => hk (by rw [e]))⟩
theorem results_tmp4 {fn : Func} {t u v x : Tmp} (h : fn.results = #[.tmp t, .tmp u, .tmp v, .tmp x]) (tmps : Array Value) (P : Program) (w : World) :
    (results fn tmps).run P w = .ok (.tuple #[tmps.getD t undef, tmps.getD u undef, tmps.getD v undef, tmps.getD x undef]) w := by
  simp [results, h]
theorem thC_one {cv tv : Value} {p : Int} {r : Int → Int} (hc : cv.oneCell' = true) (ht : tv.oneCell' = true) : ∀ v ∈ thC cv p r tv, v.oneCell' = true := by
  intro v hv
  simp only [thC, regV, List.mem_cons, List.mem_append, List.mem_map, List.mem_singleton, List.not_mem_nil, or_false] at hv
  rcases hv with rfl | rfl | ⟨i, _, rfl⟩ | rfl
  · exact hc
  · rfl
  · rfl
  · exact ht
end Go.Baro
