/- The walk of RunBetween, from what is asked of run.Play. No statement of the seat is proved here. -/
import Derived.Test.YtekkefbmdchekaaDoorKeepRunPartsP
import Derived.Test.YtekkefbmdchekaaDoorRunPure5
set_option linter.unusedSimpArgs false
set_option linter.unusedVariables false
namespace Go.Proofs.YtekkefbmdchekaaDoor
open Go.RowKit Go.Ord Go.Baro

set_option maxRecDepth 100000 in
set_option maxHeartbeats 2000000 in
theorem keep_RunBetweenP (hP : PlaySpec) (w : World) (hT : Tab w) (A0 : Option Addr) (n0 c0 : Nat) (x0 : List Ins) (h0 : RO w w.heap.size A0 n0 x0) (b0 : n0 ≤ 3518437208883) (r0 : ∀ f ∈ x0, inI f) (_ : n0 ≤ c0)
    (A1 : Option Addr) (n1 c1 : Nat) (x1 : List Ins) (h1 : RO w w.heap.size A1 n1 x1) (b1 : n1 ≤ 3518437208883) (r1 : ∀ f ∈ x1, inI f) (_ : n1 ≤ c1)
    (A2 : Option Addr) (n2 c2 : Nat) (x2 : List Int) (h2 : RI w w.heap.size .i64 A2 n2 x2) (b2 : n2 ≤ 17592186044416) (r2 : ∀ x ∈ x2, -9223372036854775808 ≤ x ∧ x ≤ 9223372036854775807) (_ : n2 ≤ c2)
    (A3 : Option Addr) (n3 c3 : Nat) (x3 : List Int) (h3 : RI w w.heap.size .u8 A3 n3 x3) (b3 : n3 ≤ 140737488351232) (r3 : ∀ x ∈ x3, 0 ≤ x ∧ x < 256) (_ : n3 ≤ c3) :
    Calls Tryd.prog 13 #[.slice A0 n0 c0, .slice A1 n1 c1, .slice A2 n2 c2, .slice A3 n3 c3] w fun e w' => e = .returned (.bool true) ∧ Below w.heap.size w w' := by
  have HP := Lib.hid hP
  have HT := Lib.hid hT
  have H2 := Lib.hid (show ∀ x ∈ x2, inW x from r2)
  have H3 := Lib.hid r3
  clear hP hT r0 r1 r2 r3
  go_enter Tryd.func13, Tryd.ntmps13
  go_wp2_with fail
  refine (keep_MachineOf w A0 A1 A2 n0 c0 n1 c1 n2 c2 x0 x1 x2 h0 b0 h1 b1 h2 b2 H2.out).mono ?_
  rintro e w1 ⟨tg, gw, gc, g6, v0, v1, ts, rfl, hMo, hb1⟩
  have hs1 := hb1.size
  have hA1 := (Below.refl w1.heap.size w1).alloc (Nat.le_refl _) (Obj.cells #[.slice (some ⟨gw, 0, none⟩) 8 8, .slice (some ⟨gc, 0, none⟩) 2 2, .slice (some ⟨g6, 0, none⟩) 3 3] 45)
  have bX := Box.newAt w1 45 [.slice (some ⟨gw, 0, none⟩) 8 8, .slice (some ⟨gc, 0, none⟩) 2 2, .slice (some ⟨g6, 0, none⟩) 3 3] w1.heap.size rfl
  have hbA := hb1.trans (hA1.mono hs1)
  have HMo := Lib.hid (hMo.below hA1)
  clear hMo h0 h1 h2
  go_wp2_with fail
  refine (keep_Schedule x3 A3 n3 c3 _ ((h3.below hbA).more hbA.size) (by omega) H3.out).mono ?_
  rintro e w2 ⟨As, ns, cs, rfl, hrs, hlcs, hns, hb2⟩
  have hbB := hbA.trans (hb2.mono hbA.size)
  have bX2 := bX.below hb2 (by simp)
  have HMo2 := Lib.hid (HMo.out.below hb2)
  have hs2 := hb2.size
  simp at hs2
  have lX := bX2.lt
  have LS := Lib.hid hrs.len
  obtain ⟨S, hS⟩ : ∃ S, S = schL x3 := ⟨_, rfl⟩
  have hSl : S.length = ns := by rw [hS]; exact LS.out
  have hSi : ∀ x ∈ S, 0 ≤ x ∧ x < 3 := fun x hx => schL_in (hS ▸ hx)
  rw [← hS] at hrs
  obtain ⟨N, hN⟩ : ∃ N, N = S.map Int.toNat := ⟨_, rfl⟩
  obtain ⟨M, hM⟩ : ∃ M, M = mD x0 x1 (thL x2) := ⟨_, rfl⟩
  obtain ⟨T1, hT1⟩ : ∃ T1, T1 = (plyG M 0 N (g0 M)).out := ⟨_, rfl⟩
  obtain ⟨W1, hW1⟩ : ∃ W1, W1 = (plyG M 0 N (g0 M)).w := ⟨_, rfl⟩
  have hR1 : PlR M S T1 W1 0 := by
    have := plR_good (x0 := x0) (x1 := x1) (s := S) (fun i _ => thL_ok x2 i) (by omega) hSi
    rw [← hM, ← hN, ← hT1, ← hW1] at this
    exact this
  have hW8 : W1.length = 8 := by rw [hW1, plyG_wl, hM]; rfl
  have hG := run_between M N
  rw [← hT1] at hG
  have hMt : ∀ i, i < 3 → (M.ts[i]?.getD []).length = (thL x2 i).length := fun i hi => by
    rw [hM]
    rcases (by omega : i = 0 ∨ i = 1 ∨ i = 2) with rfl | rfl | rfl <;> rfl
  have hth : ∀ (i : Nat) (n : Nat), N[i]? = some n → n < 3 ∧ S[i]? = some (n : Int) := by
    intro i n h
    rw [hN, List.getElem?_map] at h
    cases h2 : S[i]? with
    | none => rw [h2] at h; cases h
    | some y =>
      rw [h2] at h
      have := hSi y (List.mem_of_getElem? h2)
      simp only [Option.map_some, Option.some.injEq] at h
      refine ⟨by omega, ?_⟩
      congr 1
      omega
  have HR1 := Lib.hid hR1
  have HG := Lib.hid hG
  have HMt := Lib.hid hMt
  have HTh := Lib.hid hth
  have HW8 := Lib.hid hW8
  have HSl := Lib.hid hSl
  have HInM : Hid (∀ w', Below w2.heap.size w2 w' → InM w' (some ⟨gw, 0, none⟩) 8 8 (some ⟨gc, 0, none⟩) 2 2 (some ⟨g6, 0, none⟩) 3 3 M) := fun w' hb => by rw [hM]; exact (HMo2.out.inM (fun i _ => thL_ok x2 i)).below hb
  have y0 : w2.cell? ⟨w1.heap.size, 0, none⟩ = _ := bX2.cell 0
  have y1 : w2.cell? ⟨w1.heap.size, 1, none⟩ = _ := bX2.cell 1
  have y2 : w2.cell? ⟨w1.heap.size, 2, none⟩ = _ := bX2.cell 2
  simp only [List.getElem?_cons_zero, List.getElem?_cons_succ] at y0 y1 y2
  clear hS hSl hSi hN hM hT1 hW1 hR1 hW8 hG hMt hth HMo bX
  go_wp2
  refine region_first [0, 1] (.cons 2 (seq [3, 4, 5, 6, 7, 8, 9, 10] .nil)) (by kernel_rfl) (by kernel_rfl) ?_
  simp only [pick, List.map_cons, List.map_nil, List.getD_cons_zero, List.getD_cons_succ]
  go_wp2
  refine ord_call (by kernel_rfl) ?_
  simp only [pick, List.map_cons, List.map_nil, List.getD_cons_zero, List.getD_cons_succ]
  go_wp2_with (at_builtin; go_must (refine app_src eltIntS w2.drew rfl _ _ rfl w2.heap.size _ 0 [] rfl (World.ownsRow_nil _ _ _ _) As ns _ (S.map (Value.int .i64)) rfl w2.heap.size (by exact Rd.heap hrs rfl) (one_ints _ _) (by omega) (by omega) (Nat.le_refl _) ?_); intro v5 w5 hv5 hg5 hbel5 hsz5)
  have hb5 : Below w2.heap.size w2 w5 := hbel5 w2 (Below.refl _ _).drew
  rw [List.nil_append, Nat.zero_add] at hv5
  obtain ⟨A6, c6, rfl, hlc6⟩ := own_form hv5
  refine ⟨fun k hk => hb5.block k hk, ?_⟩
  have hr6 : RI w5 w5.heap.size .i64 A6 ns S := Rd.of_own hv5
  have hbE := hbB.trans (hb5.mono hbB.size)
  have bX5 := bX2.below hb5 lX
  have lX5 := bX5.lt
  have hrs5 := (hrs.below hb5).more hb5.size
  have HMo5 := Lib.hid (HMo2.out.below hb5)
  clear y0 y1 y2 hv5 hg5 hbel5 bX2 hrs HMo2
  refine ord_last [3, 4, 5, 6, 7, 8, 9, 10] (by kernel_rfl) ?_
  simp only [pick, List.map_cons, List.map_nil, List.getD_cons_zero, List.getD_cons_succ]
  go_wp2_with fail
  refine (HP.out w5 (HT.out.below hbE HT.out.lt) _ 8 8 _ 2 2 _ 3 3 M A6 ns c6 S T1 W1 0 (HInM.out w5 hb5) hr6 (by omega) HR1.out).mono ?_
  rintro e w6 ⟨B3, m3, d3, B4, m4, d4, rfl, hr3, hr4, hl3, hl4, hm3, hm4, hb6⟩
  have hbF := hbE.trans (hb6.mono hbE.size)
  have bX6 := bX5.below hb6 lX5
  have lX6 := bX6.lt
  have hrs6 := (hrs5.below hb6).more hb6.size
  have HMo6 := Lib.hid (HMo5.out.below hb6)
  obtain rfl : m4 = 8 := by rw [← hr4.len]; exact HW8.out
  clear hr4 hr6 bX5 hrs5 HMo5
  go_wp2_with fail
  refine (keep_runSure HP.out w6 (HT.out.below hbF HT.out.lt)).mono ?_
  rintro e w7 ⟨rfl, hb7⟩
  have hbG := hbF.trans (hb7.mono hbF.size)
  have hX := (hr3.below hb7).more hb7.size
  have hrs7 := (hrs6.below hb7).more hb7.size
  have bX7 := bX6.below hb7 lX6
  have HMo7 := Lib.hid (HMo6.out.below hb7)
  clear hr3 hrs6 bX6 HMo6
  have hb8 := ((Below.refl w7.heap.size w7).alloc (Nat.le_refl _) (Obj.cells #[.bool false, .bool false, .bool false] 62)).alloc (by simp) (Obj.cells #[.int .i64 0, .int .i64 0, .int .i64 0] 63)
  have bI := (Box.newAt w7 62 [.bool false, .bool false, .bool false] w7.heap.size rfl).alloc (Obj.cells #[.int .i64 0, .int .i64 0, .int .i64 0] 63)
  have bN := Box.newAt (w7.alloc (Obj.cells #[.bool false, .bool false, .bool false] 62)) 63 [.int .i64 0, .int .i64 0, .int .i64 0] (w7.heap.size + 1) (by simp)
  go_wp2
  go_loopw [16, 17] (fun la i wr => ∃ (j : Nat) (s : Cs) (l : Int), j ≤ m3 ∧ i = .int .i64 j ∧ la = .int .i64 l ∧ l ≤ (s.la : Int) ∧ Hid (s = (T1.take j).foldl ck1 Go.Baro.c0) ∧ Box wr w7.heap.size 62 [.bool (s.inn 0), .bool (s.inn 1), .bool (s.inn 2)] ∧ Box wr (w7.heap.size + 1) 63 [.int .i64 (s.nx 0), .int .i64 (s.nx 1), .int .i64 (s.nx 2)] ∧ Below w7.heap.size w7 wr) (fun _ i _ => m3 - (intOf i).toNat)
  case atStart => exact ⟨0, _, _, Nat.zero_le _, rfl, rfl, by show (-1 : Int) ≤ ((Go.Baro.c0.la : Nat) : Int); omega, rfl, bI, bN, hb8⟩
  case round =>
    clear bI bN hb8
    obtain ⟨j, s, l, hj, rfl, rfl, hla, HS, bI, bN, hbel⟩ := hrel
    have hszr := hbel.size
    by_cases hjm : j < m3
    · obtain ⟨b, o, A8, n8, k8, x, rfl, hbB', q0, q1, q2, q3, q4, q5, hlk, hn8, hri, HX, hmem⟩ := (hX.below hbel).val hjm
      obtain ⟨g1, g2, g3, g4, g5, g6'⟩ := HG.out j x HX.out
      rw [← HS.out] at g1 g3 g4 g6'
      obtain ⟨hth3, hSx⟩ := HTh.out _ _ g2
      have hstn : x.st < ns := by rw [← HSl.out]; exact (List.getElem?_eq_some_iff.1 hSx).1
      rw [HMt.out _ hth3] at g6'
      have hl12 := (thL_ok x2 x.th).1
      obtain ⟨st, th, cl, en, er, to⟩ := x
      dsimp only at q0 q1 q2 q3 q4 hri g1 g2 g3 g4 g5 g6' hth3 hSx hstn hl12
      obtain ⟨b2', o2, y, rfl, hb2B, hcy, HY, hmy⟩ := (hrs7.below hbel).val hstn
      have hyt : y = (th : Int) := by have h1 := HY.out; rw [hSx] at h1; exact (Option.some.inj h1).symm
      subst hyt
      have hMr := HMo7.out.below hbel
      have bXr := bX7.below hbel (by have := bX7.lt; omega)
      obtain ⟨nt, hnt⟩ : ∃ nt, nt = (thL x2 th).length := ⟨_, rfl⟩
      rw [← hnt] at hl12 g6'
      have ct : ∃ A c, wr.cell? ⟨g6, th, none⟩ = some (.slice A nt c) := by
        obtain ⟨rows, _, _, r3q, _⟩ := hMr.row th hth3
        obtain ⟨A, c, hts, _⟩ := own_form r3q
        have := hMr.thr.cell th
        rw [three_at ts hth3, hts, ← hnt] at this
        exact ⟨A, c, this⟩
      obtain ⟨Aq, cq, ct⟩ := ct
      have l6 := hMr.thr.lt
      have z2 : wr.cell? ⟨w1.heap.size, 2, none⟩ = some (.slice (some ⟨g6, 0, none⟩) 3 3) := bXr.cell 2
      have lXr := bXr.lt
      have lX7 : w1.heap.size < w7.heap.size := bX7.lt
      have ci : wr.cell? ⟨w7.heap.size, th, none⟩ = some (.bool en) := by
        have := bI.cell th
        rw [three_at (fun i => Value.bool (s.inn i)) hth3, ← g3] at this
        exact this
      have cn : wr.cell? ⟨w7.heap.size + 1, th, none⟩ = some (.int .i64 cl) := by
        have := bN.cell th
        rw [three_at (fun i => Value.int .i64 (s.nx i)) hth3, ← g4] at this
        exact this
      have fi := bI.frozen th
      have fn := bN.frozen th
      have lI := bI.lt
      have lN := bN.lt
      have hlb : b < wr.heap.size := by omega
      have hlb2 : b2' < wr.heap.size := by omega
      have hls : l ≤ (st : Int) := by omega
      have HG3 := Lib.hid g3
      have HG4 := Lib.hid g4
      have HNx : Hid ((T1.take (j + 1)).foldl ck1 Go.Baro.c0 = ck1 s ⟨st, th, cl, en, er, to⟩) := by
        show _ = _
        rw [at_take HX.out, List.foldl_append, ← HS.out]
        rfl
      have hd6 : ∀ k, Ty wr k 62 → k ≠ g6 := fun k hk h => by subst h; exact absurd (hk.one hMr.thr.ty) (by decide)
      have hg6i : g6 ≠ w7.heap.size := fun h => hd6 w7.heap.size bI.ty h.symm
      have hg6n : g6 ≠ w7.heap.size + 1 := fun h => by have := bN.ty; rw [← h] at this; exact absurd (this.one hMr.thr.ty) (by decide)
      have hst4 : st < 400 := by omega
      clear hmem hmy HX HY hSx g1 g2 hnt hd6 hMr hla HS
      cases en with
      | true =>
        have hcl : cl + 1 ≤ nt := by
          have : (ck1 s ⟨st, th, cl, true, er, to⟩).nx th = s.nx th + 1 := by simp [ck1]
          rw [this, ← g4] at g6'
          exact g6'
        clear g5 g6' g3 g4
        go_wp2
        refine region_two [0, 1, 2, 3, 4, 5, 6, 7, 8, 9, 10, 11, 12, 13, 14, 15, 16, 17, 18, 19, 20, 21, 22, 23, 24, 25, 26, 27, 28, 29, 30, 31, 32, 33, 34, 35, 36, 37, 38, 39, 40, 41, 42, 43, 44, 45, 46, 47, 48] [] (by kernel_rfl) (by kernel_rfl) ?_
        simp only [pick, List.map_cons, List.map_nil, List.getD_cons_zero, List.getD_cons_succ]
        go_wp2
        refine region_two [0, 1, 2, 3, 4, 5, 6, 7, 8, 9, 10, 11] [] (by kernel_rfl) (by kernel_rfl) ?_
        simp only [pick, List.map_cons, List.map_nil, List.getD_cons_zero, List.getD_cons_succ]
        go_wp2
        go_roundw
        case rel =>
          refine ⟨j + 1, ck1 s ⟨st, th, cl, true, er, to⟩, st, by omega, by go_num, rfl, Int.le_refl _, HNx.out.symm, ?_, ?_, ?_⟩
          · have e := three_set (fun i => Value.bool (s.inn i)) (fun i => Value.bool ((ck1 s ⟨st, th, cl, true, er, to⟩).inn i)) (v := .bool false) hth3 (by simp [ck1]) (fun i hi => by simp [ck1, hi])
            have hx := bI.set th (.bool false)
            rw [e] at hx
            exact ((hx.other th (.int .i64 ((cl : Int) + 1)) (b' := w7.heap.size + 1) (by omega)).alloc _)
          · have e := three_set (fun i => Value.int .i64 (s.nx i)) (fun i => Value.int .i64 ((ck1 s ⟨st, th, cl, true, er, to⟩).nx i)) (v := .int .i64 ((cl : Int) + 1)) hth3 (by simp [ck1, ← HG4.out]) (fun i hi => by simp [ck1, hi])
            have hx := (bN.other th (.bool false) (b' := w7.heap.size) (by omega)).set th (.int .i64 ((cl : Int) + 1))
            rw [e] at hx
            exact hx.alloc _
          · exact ((below_at (below_at hbel (Nat.le_refl _) th (.bool false)) (by omega) th (.int .i64 ((cl : Int) + 1))).alloc (by simp; omega) _).drew.drew
        case measure => simp [intOf]; omega
      | false =>
        have hcl : cl ≤ nt := by
          have : (ck1 s ⟨st, th, cl, false, er, to⟩).nx th = s.nx th := by simp [ck1]
          rw [this, ← g4] at g6'
          exact g6'
        obtain ⟨rfl, rfl⟩ := g5 rfl
        obtain rfl : n8 = 0 := hri.len.symm
        clear g5 g6' g3 g4
        go_wp2
        refine region_two [0, 1, 2, 3, 4, 5, 6, 7, 8, 9, 10, 11, 12, 13, 14, 15, 16, 17, 18, 19, 20, 21, 22, 23, 24, 25, 26, 27, 28, 29, 30, 31, 32, 33, 34, 35, 36, 37, 38, 39, 40, 41, 42, 43, 44, 45, 46, 47, 48] [] (by kernel_rfl) (by kernel_rfl) ?_
        simp only [pick, List.map_cons, List.map_nil, List.getD_cons_zero, List.getD_cons_succ]
        go_wp2
        refine region_two [0, 1, 2, 3, 4, 5, 6, 7, 8, 9, 10, 11] [] (by kernel_rfl) (by kernel_rfl) ?_
        simp only [pick, List.map_cons, List.map_nil, List.getD_cons_zero, List.getD_cons_succ]
        go_wp2
        go_roundw
        case rel =>
          refine ⟨j + 1, ck1 s ⟨st, th, cl, false, 0, []⟩, st, by omega, by go_num, rfl, Int.le_refl _, HNx.out.symm, ?_, ?_, ?_⟩
          · have e := three_set (fun i => Value.bool (s.inn i)) (fun i => Value.bool ((ck1 s ⟨st, th, cl, false, 0, []⟩).inn i)) (v := .bool true) hth3 (by simp [ck1]) (fun i hi => by simp [ck1, hi])
            have hx := bI.set th (.bool true)
            rw [e] at hx
            exact hx.alloc _
          · have e : [Value.int .i64 (s.nx 0), .int .i64 (s.nx 1), .int .i64 (s.nx 2)] = [Value.int .i64 ((ck1 s ⟨st, th, cl, false, 0, []⟩).nx 0), .int .i64 ((ck1 s ⟨st, th, cl, false, 0, []⟩).nx 1), .int .i64 ((ck1 s ⟨st, th, cl, false, 0, []⟩).nx 2)] := by simp [ck1]
            have hx := bN.other th (.bool true) (b' := w7.heap.size) (by omega)
            rw [e] at hx
            exact hx.alloc _
          · exact ((below_at hbel (Nat.le_refl _) th (.bool true)).alloc (by simp; omega) _).drew.drew
        case measure => simp [intOf]; omega
    · go_wp2
      go_ret
      exact ⟨rfl, hbG.trans (hbel.mono hbG.size)⟩
end Go.Proofs.YtekkefbmdchekaaDoor
