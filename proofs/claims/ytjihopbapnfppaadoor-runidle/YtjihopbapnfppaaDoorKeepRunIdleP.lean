/- The walk of RunIdle, from what is asked of run.Play. No statement of the seat is proved here. -/
import Derived.Test.YtjihopbapnfppaaDoorKeepRunPartsP
set_option linter.unusedSimpArgs false
set_option linter.unusedVariables false
namespace Go.Baro
theorem fewF_snoc (v : Nat) (l : List Nat) (n : Nat) : fewF v (l ++ [n]) = fewF v l ++ (if n = v then [] else [n]) := by
  unfold fewF
  rw [List.filter_append]
  by_cases h : n = v <;> simp [h]
theorem wasF_snoc (v : Nat) : ∀ (l : List Nat) (st n : Nat), wasF v st (l ++ [n]) = wasF v st l ++ (if n = v then [] else [st + l.length])
  | [], st, n => by by_cases h : n = v <;> simp [wasF, h]
  | m :: l, st, n => by
    have ih := wasF_snoc v l (st + 1) n
    show wasF v st (m :: (l ++ [n])) = _
    unfold wasF
    rw [ih]
    have e : st + 1 + l.length = st + (l.length + 1) := by omega
    by_cases h : m = v
    · simp only [h, if_true, List.length_cons, e]
    · simp only [h, if_false, List.length_cons, e, List.cons_append]
theorem wasF_lt (v : Nat) : ∀ (l : List Nat) (st x : Nat), x ∈ wasF v st l → x < st + l.length
  | [], st, x, h => by simp [wasF] at h
  | m :: l, st, x, h => by
    unfold wasF at h
    rw [List.length_cons]
    split at h
    · have := wasF_lt v l (st + 1) x h; omega
    · rcases List.mem_cons.1 h with h | h
      · omega
      · have := wasF_lt v l (st + 1) x h; omega
theorem apart_symm {a b : Option Nat} (h : a = none ∨ a ≠ b) : b = none ∨ b ≠ a := by
  by_cases e : b = a
  · rcases h with h | h
    · exact .inl (e.trans h)
    · exact absurd e.symm h
  · exact .inr e
end Go.Baro
namespace Go.Proofs.YtjihopbapnfppaaDoor
open Go.RowKit Go.Ord Go.Baro
def cN (l : List Nat) : List Value := l.map fun (n : Nat) => Value.int .i64 (n : Int)
theorem cN_snoc (l : List Nat) (n : Nat) : cN (l ++ [n]) = cN l ++ [.int .i64 (n : Int)] := by simp [cN]
theorem cN_ints (l : List Nat) : cN l = (l.map fun (n : Nat) => (n : Int)).map (Value.int .i64) := by simp [cN]

set_option maxRecDepth 100000 in
set_option maxHeartbeats 2000000 in
theorem keep_RunIdleP (hP : PlaySpec) (w : World) (hT : Tab w) (A0 : Option Addr) (n0 c0 : Nat) (x0 : List Ins) (h0 : RO w w.heap.size A0 n0 x0) (b0 : n0 ≤ 3518437208883) (r0 : ∀ f ∈ x0, inI f) (_ : n0 ≤ c0)
    (A1 : Option Addr) (n1 c1 : Nat) (x1 : List Ins) (h1 : RO w w.heap.size A1 n1 x1) (b1 : n1 ≤ 3518437208883) (r1 : ∀ f ∈ x1, inI f) (_ : n1 ≤ c1)
    (A2 : Option Addr) (n2 c2 : Nat) (x2 : List Int) (h2 : RI w w.heap.size .i64 A2 n2 x2) (b2 : n2 ≤ 17592186044416) (r2 : ∀ x ∈ x2, -9223372036854775808 ≤ x ∧ x ≤ 9223372036854775807) (_ : n2 ≤ c2)
    (A3 : Option Addr) (n3 c3 : Nat) (x3 : List Int) (h3 : RI w w.heap.size .u8 A3 n3 x3) (b3 : n3 ≤ 140737488351232) (r3 : ∀ x ∈ x3, 0 ≤ x ∧ x < 256) (_ : n3 ≤ c3)
    (x4 : Int) (r4 : -9223372036854775808 ≤ x4 ∧ x4 ≤ 9223372036854775807) :
    Calls Tryd.prog 14 #[.slice A0 n0 c0, .slice A1 n1 c1, .slice A2 n2 c2, .slice A3 n3 c3, .int .i64 x4] w fun e w' => e = .returned (.bool true) ∧ Below w.heap.size w w' := by
  have HP := Lib.hid hP
  have HT := Lib.hid hT
  have H2 := Lib.hid (show ∀ x ∈ x2, inW x from r2)
  have H3 := Lib.hid r3
  clear hP hT r0 r1 r2 r3
  go_enter Tryd.func14, Tryd.ntmps14
  go_wp2_with fail
  refine (keep_MachineOf w A0 A1 A2 n0 c0 n1 c1 n2 c2 x0 x1 x2 h0 b0 h1 b1 h2 b2 H2.out).mono ?_
  rintro e w1 ⟨tg, gw, gc, g6, v0, v1, ts, rfl, hMo, hb1⟩
  have hs1 := hb1.size
  have hB6 := hMo.B6
  have l6 := hMo.thr.lt
  have HMo0 := Lib.hid hMo
  clear hMo h0 h1 h2
  go_wp2_with fail
  refine (keep_Picked x4 3 _ (by omega) (by omega)).mono ?_
  rintro e w' ⟨rfl, rfl⟩
  obtain ⟨q, hq⟩ : ∃ q : Nat, x4 % 3 = q := ⟨(x4 % 3).toNat, by omega⟩
  have hq3 : q < 3 := by omega
  rw [hq]
  clear hq
  obtain ⟨rowsq, _, _, r3q, _⟩ := HMo0.out.row q hq3
  obtain ⟨Aq, cq, hts, _⟩ := own_form r3q
  have y6 : w1.cell? ⟨g6, q, none⟩ = some (.slice Aq (thL x2 q).length cq) := by
    have := HMo0.out.thr.cell q
    rw [three_at ts hq3, hts] at this
    exact this
  have f6 := HMo0.out.thr.frozen q
  have hun6 : Un (fun k => k = g6) w1 (w1.setCell ⟨g6, q, none⟩ (.slice none 0 0)) := un_at (X := fun k => k = g6) (Un.refl _ _) rfl _ _
  have hbA := hb1.trans (hun6.below (B := w.heap.size) (by omega) (fun k hk h => by omega))
  have hA1 := (Below.refl w1.heap.size (w1.setCell ⟨g6, q, none⟩ (.slice none 0 0))).alloc (by simp) (Obj.cells #[.slice (some ⟨gw, 0, none⟩) 8 8, .slice (some ⟨gc, 0, none⟩) 2 2, .slice (some ⟨g6, 0, none⟩) 3 3] 45)
  have bX := Box.newAt (w1.setCell ⟨g6, q, none⟩ (.slice none 0 0)) 45 [.slice (some ⟨gw, 0, none⟩) 8 8, .slice (some ⟨gc, 0, none⟩) 2 2, .slice (some ⟨g6, 0, none⟩) 3 3] w1.heap.size (by simp)
  have hbB := hbA.trans (hA1.mono hs1)
  have HMo := Lib.hid ((HMo0.out.clear hq3).below ((Below.refl _ _).alloc (Nat.le_refl _) (Obj.cells #[.slice (some ⟨gw, 0, none⟩) 8 8, .slice (some ⟨gc, 0, none⟩) 2 2, .slice (some ⟨g6, 0, none⟩) 3 3] 45)))
  have hrS := (h3.below hbB).more hbB.size
  clear HMo0 r3q hts hun6
  go_wp2_with fail
  refine (keep_Schedule x3 A3 n3 c3 _ hrS (by omega) H3.out).mono ?_
  rintro e w2 ⟨As, ns, cs, rfl, hrs, hlcs, hns, hb2⟩
  have hbC := hbB.trans (hb2.mono hbB.size)
  have bX2 := bX.below hb2 (by simp)
  have HMo2 := Lib.hid (HMo.out.below hb2)
  have lX := bX2.lt
  have LS := Lib.hid hrs.len
  obtain ⟨S, hS⟩ : ∃ S, S = schL x3 := ⟨_, rfl⟩
  have hSl : S.length = ns := by rw [hS]; exact LS.out
  have hSi : ∀ x ∈ S, 0 ≤ x ∧ x < 3 := fun x hx => schL_in (hS ▸ hx)
  rw [← hS] at hrs
  obtain ⟨N, hN⟩ : ∃ N, N = S.map Int.toNat := ⟨_, rfl⟩
  have hNl : N.length = ns := by rw [hN]; simp [hSl]
  obtain ⟨M, hM⟩ : ∃ M, M = mD x0 x1 (fun i => if i = q then [] else thL x2 i) := ⟨_, rfl⟩
  have hTok : ∀ i, i < 3 → okDs ((fun i => if i = q then [] else thL x2 i) i) := fun i _ => by
    dsimp only
    split
    · exact nil_ok
    · exact thL_ok x2 i
  obtain ⟨T1, hT1⟩ : ∃ T1, T1 = (plyG M 0 N (g0 M)).out := ⟨_, rfl⟩
  obtain ⟨W1, hW1⟩ : ∃ W1, W1 = (plyG M 0 N (g0 M)).w := ⟨_, rfl⟩
  obtain ⟨F, hF⟩ : ∃ F, F = fewF q N := ⟨_, rfl⟩
  obtain ⟨U, hU⟩ : ∃ U, U = wasF q 0 N := ⟨_, rfl⟩
  obtain ⟨T2, hT2⟩ : ∃ T2, T2 = (plyG M 0 F (g0 M)).out := ⟨_, rfl⟩
  have hFl : F.length ≤ ns := by rw [hF, ← hNl]; exact List.length_filter_le _ _
  have hUF : U.length = F.length := by rw [hU, hF]; exact wasF_len q N 0
  have hUlt : ∀ x ∈ U, x < 400 := fun x hx => by rw [hU] at hx; have := wasF_lt q N 0 x hx; omega
  have hR1 : PlR M S T1 W1 0 := by
    have := plR_good (x0 := x0) (x1 := x1) (s := S) hTok (by omega) hSi
    rw [← hM, ← hN, ← hT1, ← hW1] at this
    exact this
  have hIdle := run_idle (m := M) (v := q) (by rw [hM]; rcases (by omega : q = 0 ∨ q = 1 ∨ q = 2) with rfl | rfl | rfl <;> simp [mD]) N
  rw [← hF, ← hU, ← hT1, ← hT2, ← hW1] at hIdle
  have hR2 : PlR M (F.map fun (n : Nat) => (n : Int)) T2 W1 0 := by
    have := plR_good (x0 := x0) (x1 := x1) (s := F.map fun (n : Nat) => (n : Int)) hTok (by simp; omega) (fun x hx => by
      obtain ⟨n, hn, rfl⟩ := List.mem_map.1 hx
      rw [hF] at hn
      have hn2 := (List.mem_filter.1 hn).1
      rw [hN] at hn2
      obtain ⟨y, hy, rfl⟩ := List.mem_map.1 hn2
      have := hSi y hy
      omega)
    have e : (F.map fun (n : Nat) => (n : Int)).map Int.toNat = F := by simp [List.map_map, Function.comp_def]
    rw [e, ← hM, ← hT2, ← hIdle.1] at this
    exact this
  have hst : ∀ e ∈ T2, e.st < F.length := by
    intro e he
    obtain ⟨es, h1, h2⟩ := plyG_out M F 0 (g0 M)
    rw [← hT2] at h1
    rw [h1] at he
    have := h2 e (by simpa [g0] using he)
    omega
  have HInM : Hid (∀ w', Below w2.heap.size w2 w' → InM w' (some ⟨gw, 0, none⟩) 8 8 (some ⟨gc, 0, none⟩) 2 2 (some ⟨g6, 0, none⟩) 3 3 M) := fun w' hb => by rw [hM]; exact (HMo2.out.inM hTok).below hb
  have HR1 := Lib.hid hR1
  have HR2 := Lib.hid hR2
  have HI := Lib.hid hIdle.2
  have HST := Lib.hid hst
  have HSi := Lib.hid hSi
  have HSl := Lib.hid hSl
  have HN := Lib.hid hN
  have HNl := Lib.hid hNl
  have HF := Lib.hid hF
  have HU := Lib.hid hU
  have HUF := Lib.hid hUF
  have HUlt := Lib.hid hUlt
  clear hS hM hTok hT1 hW1 hT2 hR1 hR2 hIdle hst HMo HMo2 bX hSi hSl hN hNl hF hU hUF hUlt y6 f6
  go_wp2
  go_loopw [14, 15, 16] (fun fv uv i wr => ∃ j : Nat, j ≤ ns ∧ i = .int .i64 j ∧ wr.ownsRow w2.heap.size 3 1 fv (fewF q (N.take j)).length (cN (fewF q (N.take j))) ∧ wr.ownsRow w2.heap.size 3 1 uv (wasF q 0 (N.take j)).length (cN (wasF q 0 (N.take j))) ∧ (fv.ownBlock = none ∨ fv.ownBlock ≠ uv.ownBlock) ∧ Below w2.heap.size w2 wr) (fun _ _ i _ => ns - (intOf i).toNat)
  case atStart => exact ⟨0, Nat.zero_le _, rfl, by simpa [fewF, cN] using World.ownsRow_nil _ _ _ _, by simpa [wasF, cN] using World.ownsRow_nil _ _ _ _, .inl rfl, Below.refl _ _⟩
  case round =>
    obtain ⟨j, hj, rfl, hf, hu, hap, hbel⟩ := hrel
    have hszr := hbel.size
    obtain ⟨nf, hnf⟩ : ∃ nf, nf = (fewF q (N.take j)).length := ⟨_, rfl⟩
    obtain ⟨nu, hnu⟩ : ∃ nu, nu = (wasF q 0 (N.take j)).length := ⟨_, rfl⟩
    rw [← hnf] at hf
    rw [← hnu] at hu
    obtain ⟨Af, cf, rfl, hlf⟩ := own_form hf
    obtain ⟨Au, cu, rfl, hlu⟩ := own_form hu
    have hnf4 : nf ≤ 400 := by rw [hnf]; have := List.length_filter_le (fun n => decide (n ≠ q)) (N.take j); simp at this; unfold fewF; simp; omega
    have hnu4 : nu ≤ 400 := by rw [hnu, wasF_len, ← hnf]; exact hnf4
    by_cases hjm : j < ns
    · obtain ⟨b, o, x, rfl, hbB', hcell, HX, hmem⟩ := (hrs.below hbel).val hjm
      obtain ⟨n, rfl⟩ : ∃ n : Nat, x = n := ⟨x.toNat, by have := HSi.out x hmem; omega⟩
      have hn3 : n < 3 := by have := HSi.out _ hmem; omega
      have hNj : N[j]? = some n := by rw [HN.out, List.getElem?_map, HX.out]; simp
      have hlb : b < wr.heap.size := by omega
      have e1 := fewF_snoc q (N.take j) n
      have e2 := wasF_snoc q (N.take j) 0 n
      rw [← at_take hNj] at e1 e2
      have hlj : (N.take j).length = j := by simp [HNl.out]; omega
      rw [hlj, Nat.zero_add] at e2
      have E1 := Lib.hid e1
      have E2 := Lib.hid e2
      have HNF := Lib.hid hnf
      have HNU := Lib.hid hnu
      clear hmem HX hNj e1 e2 hlj hnf hnu
      by_cases hnq : n = q
      · have E1' := E1.out
        have E2' := E2.out
        rw [if_pos hnq, List.append_nil] at E1' E2'
        have E1' := Lib.hid E1'
        have E2' := Lib.hid E2'
        subst hnq
        clear E1 E2
        go_wp2
        go_roundw
        case rel => exact ⟨j + 1, by omega, by go_num, by rw [E1'.out, ← HNF.out]; exact hf, by rw [E2'.out, ← HNU.out]; exact hu, hap, hbel⟩
        case measure => simp [intOf]; omega
      · have E1' := E1.out
        have E2' := E2.out
        rw [if_neg hnq] at E1' E2'
        have E1' := Lib.hid E1'
        have E2' := Lib.hid E2'
        have hne : ((n : Int) != (q : Int)) = true := by simp; omega
        clear E1 E2
        go_wp2_with (first
          | (at_builtin; refine app_litB eltIntS wr rfl (.tmp 49) (.tmp 54) rfl w2.heap.size (.slice Af nf cf) nf _ rfl (by exact hf) 1 [.int .i64 n] wr.heap.size rfl rfl rfl (one_ints _ [(n : Int)]) (by omega) (by omega) hszr ?_; intro v4 w4 hv4 hg4 hb4; have hu4 := own_apart (hu.alloc (.cells #[.int .i64 (n : Int)] 3)) (apart_symm hap) hg4; have hap4 := apart_next (hu.alloc (.cells #[.int .i64 (n : Int)] 3)) (apart_symm hap) (by rw [World.size_alloc]; exact hb4); have hbl4 : Below w2.heap.size w2 w4 := (hbel.alloc hszr _).grown hg4 (by simp; omega) (fun k hk => (hf.lt k hk).1); have hsz4 := hbl4.size; have hlb4 : b < w4.heap.size := (by omega); obtain ⟨A4, c4, rfl, hl4⟩ := own_form hv4)
          | (at_builtin; refine app_litB eltIntS w4 rfl (.tmp 56) (.tmp 58) rfl w2.heap.size (.slice Au nu cu) nu _ rfl (by exact hu4) 1 [.int .i64 j] w4.heap.size rfl rfl rfl (one_ints _ [(j : Int)]) (by omega) (by omega) hsz4 ?_; intro v5 w5 hv5 hg5 hb5; have hf5 := own_apart (hv4.alloc (.cells #[.int .i64 (j : Int)] 3)) (apart_symm hap4) hg5; have hap5 := apart_next (hv4.alloc (.cells #[.int .i64 (j : Int)] 3)) (apart_symm hap4) (by rw [World.size_alloc]; exact hb5); have hbl5 : Below w2.heap.size w2 w5 := (hbl4.alloc hsz4 _).grown hg5 (by simp; omega) (fun k hk => (hu4.lt k hk).1); obtain ⟨A5, c5, rfl, hl5⟩ := own_form hv5))
        go_roundw
        case rel => exact ⟨j + 1, by omega, by go_num, by rw [E1'.out, cN_snoc, List.length_append, List.length_singleton, ← HNF.out]; exact hf5, by rw [E2'.out, cN_snoc, List.length_append, List.length_singleton, ← HNU.out]; exact hv5, hap5, hbl5⟩
        case measure => simp [intOf]; omega
    · obtain rfl : ns = j := by omega
      have hNt : N.take ns = N := List.take_of_length_le (by rw [HNl.out]; omega)
      rw [hNt, ← HF.out] at hf hnf
      rw [hNt, ← HU.out] at hu hnu
      have hrF : RI wr wr.heap.size .i64 Af nf (F.map fun (n : Nat) => (n : Int)) := by have := Rd.of_own hf; rw [cN_ints] at this; exact this
      have hrU : RI wr wr.heap.size .i64 Au nu (U.map fun (n : Nat) => (n : Int)) := by have := Rd.of_own hu; rw [cN_ints] at this; exact this
      have HNF := Lib.hid hnf
      have HNU := Lib.hid hnu
      have hbD := hbC.trans (hbel.mono hbC.size)
      have bX3 := bX2.below hbel lX
      have lX3 := bX3.lt
      have hrs3 := (hrs.below hbel).more hszr
      have hbel3 := hbel
      clear hf hu hap hnf hnu hNt bX2 hrs hbel
      obtain ⟨w3, rfl⟩ : ∃ w3, w3 = wr := ⟨wr, rfl⟩
      have y0 : w3.cell? ⟨w1.heap.size, 0, none⟩ = _ := bX3.cell 0
      have y1 : w3.cell? ⟨w1.heap.size, 1, none⟩ = _ := bX3.cell 1
      have y2 : w3.cell? ⟨w1.heap.size, 2, none⟩ = _ := bX3.cell 2
      simp only [List.getElem?_cons_zero, List.getElem?_cons_succ] at y0 y1 y2
      go_wp2
      refine region_first [0, 1] (.cons 2 (seq [3, 4, 5, 6, 7, 8, 9, 10] .nil)) (by kernel_rfl) (by kernel_rfl) ?_
      simp only [pick, List.map_cons, List.map_nil, List.getD_cons_zero, List.getD_cons_succ]
      go_wp2
      refine ord_call (by kernel_rfl) ?_
      simp only [pick, List.map_cons, List.map_nil, List.getD_cons_zero, List.getD_cons_succ]
      go_wp2_with (at_builtin; go_must (refine app_src eltIntS w3.drew rfl _ _ rfl w3.heap.size _ 0 [] rfl (World.ownsRow_nil _ _ _ _) As ns _ (S.map (Value.int .i64)) rfl w3.heap.size (by exact Rd.heap hrs3 rfl) (one_ints _ _) (by omega) (by omega) (Nat.le_refl _) ?_); intro v5 w5 hv5 hg5 hbel5 hsz5)
      have hb5 : Below w3.heap.size w3 w5 := hbel5 w3 (Below.refl _ _).drew
      rw [List.nil_append, Nat.zero_add] at hv5
      obtain ⟨A6, c6, rfl, hlc6⟩ := own_form hv5
      refine ⟨fun k hk => hb5.block k hk, ?_⟩
      have hr6 : RI w5 w5.heap.size .i64 A6 ns S := Rd.of_own hv5
      have hbE := hbD.trans (hb5.mono hbD.size)
      have hbel5' := hbel3.trans (hb5.mono hbel3.size)
      have bX5 := bX3.below hb5 lX3
      have lX5 := bX5.lt
      have hrF5 := (hrF.below hb5).more hb5.size
      have hrU5 := (hrU.below hb5).more hb5.size
      clear y0 y1 y2 hv5 hg5 hbel5 hrF hrU bX3 hrs3
      refine ord_last [3, 4, 5, 6, 7, 8, 9, 10] (by kernel_rfl) ?_
      simp only [pick, List.map_cons, List.map_nil, List.getD_cons_zero, List.getD_cons_succ]
      go_wp2_with fail
      refine (HP.out w5 (HT.out.below hbE HT.out.lt) _ 8 8 _ 2 2 _ 3 3 M A6 ns c6 S T1 W1 0 (HInM.out w5 hbel5') hr6 (by omega) HR1.out).mono ?_
      rintro e w6 ⟨B3, m3, d3, B4, m4, d4, rfl, hr3, hr4, hl3, hl4, hm3, hm4, hb6⟩
      have hbF := hbE.trans (hb6.mono hbE.size)
      have hbel6 := hbel5'.trans (hb6.mono hbel5'.size)
      have bX6 := bX5.below hb6 lX5
      have lX6 := bX6.lt
      have hrF6 := (hrF5.below hb6).more hb6.size
      have hrU6 := (hrU5.below hb6).more hb6.size
      have y0 : w6.cell? ⟨w1.heap.size, 0, none⟩ = _ := bX6.cell 0
      have y1 : w6.cell? ⟨w1.heap.size, 1, none⟩ = _ := bX6.cell 1
      have y2 : w6.cell? ⟨w1.heap.size, 2, none⟩ = _ := bX6.cell 2
      simp only [List.getElem?_cons_zero, List.getElem?_cons_succ] at y0 y1 y2
      clear hrF5 hrU5 bX5 hr6
      go_wp2_with fail
      refine (HP.out w6 (HT.out.below hbF HT.out.lt) _ 8 8 _ 2 2 _ 3 3 M Af nf cf (F.map fun (n : Nat) => (n : Int)) T2 W1 0 (HInM.out w6 hbel6) hrF6 (by omega) HR2.out).mono ?_
      rintro e w7 ⟨B5, m5, d5, B6, m6, d6, rfl, hr5, hr6, hl5, hl6, hm5, hm6, hb7⟩
      have hbG := hbF.trans (hb7.mono hbF.size)
      have hr37 := (hr3.below hb7).more hb7.size
      have hr47 := (hr4.below hb7).more hb7.size
      have hrU7 := (hrU6.below hb7).more hb7.size
      obtain rfl : m3 = m5 := by rw [← hr3.len, ← hr5.len, HI.out]; simp
      clear y0 y1 y2 hr3 hr4 hrU6 hrF6 bX6
      go_wp2_with fail
      refine (keep_runSure HP.out w7 (HT.out.below hbG HT.out.lt)).mono ?_
      rintro e w8 ⟨rfl, hb8⟩
      have hbH := hbG.trans (hb8.mono hbG.size)
      have hX := (hr37.below hb8).more hb8.size
      have hY := (hr5.below hb8).more hb8.size
      have hV := (hrU7.below hb8).more hb8.size
      have hW4 := (hr47.below hb8).more hb8.size
      have hW6 := (hr6.below hb8).more hb8.size
      clear hr37 hr5 hrU7 hr47 hr6
      go_wp2_with fail
      refine (keep_sameInts W1 W1 B4 B6 m4 d4 m6 d6 w8 _ _ true hW4 hW6 (by simp) (by omega) (by omega)).mono ?_
      rintro e w9 ⟨rfl, k9, rfl⟩
      clear hW4 hW6
      go_wp2
      go_loopw [23] (fun i wr => ∃ j : Nat, j ≤ m3 ∧ i = .int .i64 j ∧ Below w8.heap.size w8 wr) (fun i _ => m3 - (intOf i).toNat)
      case atStart => exact ⟨0, Nat.zero_le _, rfl, (Below.refl _ _).drewN _⟩
      case round =>
        obtain ⟨j, hj, rfl, hbel⟩ := hrel
        have hszr := hbel.size
        by_cases hjm : j < m3
        · obtain ⟨b', o', A9, n9, k9', y, rfl, hbB', p0, p1, p2, p3, p4, p5, hlk', hn9, hri', HY, hmem'⟩ := (hY.below hbel).val hjm
          obtain ⟨b, o, A8, n8, k8, x, rfl, hbB, q0, q1, q2, q3, q4, q5, hlk, hn8, hri, HX, hmem⟩ := (hX.below hbel).val hjm
          have hlb' : b' < wr.heap.size := by omega
          have hlb : b < wr.heap.size := by omega
          have hst := HST.out y hmem'
          have hsu : y.st < nu := by rw [HNU.out, HUF.out]; exact hst
          obtain ⟨bu, ou, u, rfl, hbu, hcu, HCU, hmu⟩ := (hV.below hbel).val hsu
          have hlbu : bu < wr.heap.size := by omega
          obtain ⟨un, hun, rfl⟩ := List.mem_map.1 hmu
          have hu4 : un < 400 := HUlt.out un hun
          have hxy : x = setSt un y := by
            have h1 := HX.out
            rw [HI.out, List.getElem?_map, HY.out] at h1
            have h2 := HCU.out
            rw [List.getElem?_map] at h2
            cases h3 : U[y.st]? with
            | none => rw [h3] at h2; cases h2
            | some z =>
              rw [h3] at h2
              simp only [Option.map_some, Option.some.injEq] at h1 h2
              have : z = un := by omega
              subst this
              rw [h3] at h1
              exact h1.symm
          subst hxy
          obtain ⟨st, th, cl, en, er, to⟩ := y
          dsimp only [setSt] at q0 q1 q2 q3 q4 p0 p1 p2 p3 p4 hri hri' hsu hcu
          have h8 := hri.more hszr
          have h9 := hri'.more hszr
          have hnu4 : nu ≤ 400 := by omega
          clear hmem hmem' HX HY hri hri' hst HCU hmu hun
          have hA := hbel.alloc hszr (Obj.cells #[.int .i64 un, .int .i64 th, .int .i64 cl, .bool en, .int .i64 er, .slice A9 n9 k9'] 51)
          have hB2 := (Below.refl wr.heap.size wr).alloc (Nat.le_refl _) (Obj.cells #[.int .i64 un, .int .i64 th, .int .i64 cl, .bool en, .int .i64 er, .slice A9 n9 k9'] 51)
          go_wp2
          refine region_first [0, 1, 2, 3, 4] (.cons 5 (seq [6] .nil)) (by kernel_rfl) (by kernel_rfl) ?_
          simp only [pick, List.map_cons, List.map_nil, List.getD_cons_zero, List.getD_cons_succ]
          go_wp2
          refine ord_call (by kernel_rfl) ?_
          simp only [pick, List.map_cons, List.map_nil, List.getD_cons_zero, List.getD_cons_succ]
          go_wp2_with fail
          refine (keep_sameEvent (wr.alloc (Obj.cells #[.int .i64 un, .int .i64 th, .int .i64 cl, .bool en, .int .i64 er, .slice A9 n9 k9'] 51)).drew un th cl en er to A8 A9 n8 k8 n9 k9' (Rd.more (Rd.heap (h8.below hB2) rfl) (by simp)) (Rd.more (Rd.heap (h9.below hB2) rfl) (by simp)) hn8 hn9).mono ?_
          rintro e w10 ⟨rfl, hb10⟩
          have hE := Lib.hid hb10.block
          have hbel10 := hA.drew.trans (hb10.mono (by simp; omega))
          clear hb10 hA hB2
          go_wp2
          refine ⟨hE.out, ?_⟩
          refine ord_more [6] .nil (by kernel_rfl) ?_
          simp only [pick, List.map_cons, List.map_nil, List.getD_cons_zero, List.getD_cons_succ]
          go_wp2
          refine ord_done ?_
          go_wp2
          go_roundw
          case rel => exact ⟨j + 1, by omega, by go_num, hbel10⟩
          case measure => simp [intOf]; omega
        · go_wp2
          go_ret
          exact ⟨rfl, hbH.trans (hbel.mono hbH.size)⟩
end Go.Proofs.YtjihopbapnfppaaDoor
