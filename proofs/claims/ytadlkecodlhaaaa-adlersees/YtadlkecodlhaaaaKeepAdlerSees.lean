/- A byte that is changed is seen, and two neighbours that changed places: the law's call returns true, for every input, and leaves what was there as it was. No condition but that each slice takes at most 2^47 - 4096 bytes. -/
import Derived.Test.YtadlkecodlhaaaaAdler1
import Derived.Test.YtadlkecodlhaaaaKeepOctets
import Derived.Test.YtadlkecodlhaaaaKeepPicked
import Derived.Test.YtadlkecodlhaaaaLibG
import Derived.Test.YtadlkecodlhaaaaXorByte
import Derived.Test.YtadlkecodlhaaaaOpen
set_option linter.unusedSimpArgs false
set_option linter.unusedVariables false
namespace Go.Proofs.Ytadlkecodlhaaaa
open Go.ChangeShapes Go.WideShapes Go.ChangeAt Go.RowKit Go.Ord Go.Baro

theorem split_two (L : List Int) (i : Nat) (h : i + 1 < L.length) : ∃ a p q b, L = a ++ p :: q :: b ∧ a.length = i :=
  ⟨L.take i, L[i], L[i + 1], L.drop (i + 2), by rw [← List.drop_eq_getElem_cons (by omega), ← List.drop_eq_getElem_cons (by omega), List.take_append_drop], by simp; omega⟩
theorem set_one {a b : List Int} {p q : Int} {i : Nat} (h : a.length = i) (v : Int) : (a ++ p :: q :: b).set i v = a ++ v :: q :: b := by
  subst h; simp
theorem set_two {a b : List Int} {p q : Int} {i : Nat} (h : a.length = i) (v u : Int) : ((a ++ p :: q :: b).set i v).set (i + 1) u = a ++ v :: u :: b := by
  subst h; simp

theorem wrap_small {z : Int} (h0 : 0 ≤ z) (h1 : z ≤ 1002) : IntKind.i64.wrap z = z := by
  rw [IntKind.wrap_i64]; omega

set_option maxHeartbeats 1000000 in
theorem keep_AdlerSees (w : World) (A0 : Option Addr) (n0 c0 : Nat) (x0 : List Int) (h0 : RI w w.heap.size .u8 A0 n0 x0) (b0 : n0 ≤ 140737488351232) (r0 : ∀ x ∈ x0, 0 ≤ x ∧ x < 256) (l0 : n0 ≤ c0)
    (x1 : Int) (r1 : -9223372036854775808 ≤ x1 ∧ x1 ≤ 9223372036854775807) (x2 : Int) (r2 : 0 ≤ x2 ∧ x2 < 256) :
    Calls Try.prog 8 #[.slice A0 n0 c0, .int .i64 x1, .int .u8 x2] w fun e w' => e = .returned (.bool true) ∧ Below w.heap.size w w' := by
  obtain ⟨L, hL⟩ : ∃ L, L = x0.take 1000 ++ [1, 2] := ⟨_, rfl⟩
  have RL : Hid (∀ x ∈ L, 0 ≤ x ∧ x < 256) := Lib.hid (fun x hx => by
    rw [hL] at hx
    rcases List.mem_append.1 hx with hx | hx
    · exact r0 x (List.mem_of_mem_take hx)
    · simp at hx; omega)
  have HL := Lib.hid hL
  clear hL
  go_enter Try.func8, Try.ntmps8
  go_wp2_with fail
  refine (keep_Octets x0 A0 n0 c0 1000 _ h0 b0 l0 (by omega)).mono ?_
  rintro e w1 ⟨v1, N1, rfl, hown1, hN1, hb1⟩
  have hN1' : N1 ≤ 1000 := (by omega)
  clear hN1
  go_wp2_with (at_builtin; go_must (refine app_lit eltOct w1 rfl _ _ rfl w.heap.size _ _ _ rfl (by exact hown1) 2 [_, _] _ rfl rfl rfl (one2 _ _ _ _) (by omega) (by omega) hb1.size ?_); intro u2 w2 hu hgr2 hbel2 hsz2; obtain ⟨N, hu2, hN⟩ := own_count hu; have hN2 : 2 ≤ N := (by omega); have hN3 : N ≤ 1002 := (by omega); clear hN hu; obtain ⟨g, cp, rfl, hbg, hgl, hcp⟩ := own_some hu2 (by omega))
  have hR2 : RI w2 w2.heap.size .u8 (some ⟨g, 0, none⟩) N L := by
    have := Rd.of_own hu2
    unfold RI
    rw [HL.out, List.map_append]
    exact this
  have hbA : Below w.heap.size w w2 := hbel2 w hb1
  obtain ⟨i, hp⟩ := Int.eq_ofNat_of_zero_le (Int.emod_nonneg x1 (b := ((N : Int) - 1)) (by omega))
  have hil : i + 1 < N := by
    have := Int.emod_lt_of_pos x1 (b := ((N : Int) - 1)) (by omega)
    omega
  have HP := Lib.hid hp
  have HLL := Lib.hid hR2.len
  clear hu2 hown1 hgr2 hbel2 hp hb1
  refine (keep_Picked _ _ _ (by omega) (by omega)).mono ?_
  rintro e w' ⟨rfl, rfl⟩
  rw [HP.out]
  obtain ⟨a, p, q, b, hsp, hal⟩ := split_two L i (by rw [HLL.out]; exact hil)
  have hpr := RL.out p (by rw [hsp]; simp)
  have hqr := RL.out q (by rw [hsp]; simp)
  have HSP := Lib.hid hsp
  have HAL := Lib.hid hal
  clear hsp hal
  obtain ⟨v, hv⟩ : ∃ v, v = bits .xor .u8 p x2 := ⟨_, rfl⟩
  have hxr := xor_u8 p x2 hpr r2
  rw [← hv] at hxr
  obtain ⟨hvr, hv0⟩ := hxr
  have HV0 := Lib.hid hv0
  clear hv0
  have hpc : (L.map (Value.int .u8))[i]? = some (.int .u8 p) := by rw [HSP.out, ← HAL.out]; simp
  have hqc : (L.map (Value.int .u8))[i + 1]? = some (.int .u8 q) := by rw [HSP.out, ← HAL.out]; simp
  have HPC := Lib.hid hpc
  have HQC := Lib.hid hqc
  clear hpc hqc
  go_wp2_with (first
    | (at_builtin; refine app_src eltOct w2 rfl _ (.tmp 20) rfl w2.heap.size _ 0 [] rfl (World.ownsRow_nil _ _ _ _) _ _ _ (L.map (Value.int .u8)) (by rfl) _ (by exact hR2) (one_ints _ _) (by omega) (by omega) (Nat.le_refl _) ?_; intro v3 w3 hown3 _ hbel3 _; rw [List.nil_append, Nat.zero_add] at hown3; have hb3 : Below w2.heap.size w2 w3 := hbel3 w2 (Below.refl _ _); clear hbel3; obtain ⟨gy, cy, rfl, hgy, hgyl, hcy⟩ := own_some hown3 (by omega); have hcell3 := (hown3.cellAt i (by omega)).trans HPC.out; have hfz3 := hown3.frozenAt i)
    | (at_builtin; have hst := World.ownsRow.stored hown3 i (.int .u8 (bits .xor .u8 p x2)); have hb4 : Below w2.heap.size w2 (w3.setCell ⟨gy, i, none⟩ (.int .u8 (bits .xor .u8 p x2))) := below_set hb3 hst.2 hgy hb3.size; refine app_src eltOct (w3.setCell ⟨gy, i, none⟩ (.int .u8 (bits .xor .u8 p x2))) rfl _ (.tmp 29) rfl (w3.setCell ⟨gy, i, none⟩ (.int .u8 (bits .xor .u8 p x2))).heap.size _ 0 [] rfl (World.ownsRow_nil _ _ _ _) _ _ _ (L.map (Value.int .u8)) (by rfl) _ (by exact RI.below hR2 hb4) (one_ints _ _) (by omega) (by omega) (Nat.le_refl _) ?_; intro v5 w5 hown5 _ hbel5 _; rw [List.nil_append, Nat.zero_add] at hown5; have hb5 := hbel5 _ (Below.refl _ _); clear hbel5; obtain ⟨gz, cz, rfl, hgz, hgzl, hcz⟩ := own_some hown5 (by omega); have hcell5 := (hown5.cellAt i (by omega)).trans HPC.out; have hcell6 := (hown5.cellAt (i + 1) (by omega)).trans HQC.out; have hfz5 := hown5.frozenAt i; have hfz6 := hown5.frozenAt (i + 1)))
  refine region_firstX [4] [0, 1, 2, 3] (.cons 4 (seq [5, 6, 7, 8, 9, 10, 11, 12, 13, 14] (.cons 15 (seq [16] (seq [17] .nil))))) (by kernel_rfl) (by kernel_rfl) ?_
  simp only [pick, List.map_cons, List.map_nil, List.getD_cons_zero, List.getD_cons_succ]
  go_wp2
  refine ord_blind (.int .i64 ((i : Int) + 1)) (by kernel_rfl) ?_ ?_
  · intro w'
    simp only [List.getD_cons_zero, List.getD_cons_succ]
    go_simp
    exact wrap_small (by omega) (by omega)
  refine ord_more [5, 6, 7, 8, 9, 10, 11, 12, 13, 14] _ (by kernel_rfl) ?_
  simp only [pick, List.map_cons, List.map_nil, List.getD_cons_zero, List.getD_cons_succ]
  go_wp2
  refine ord_fin (by kernel_rfl) ?_
  simp only [pick, List.map_cons, List.map_nil, List.getD_cons_zero, List.getD_cons_succ]
  go_wp2
  refine ord_more [16] _ (by kernel_rfl) ?_
  simp only [pick, List.map_cons, List.map_nil, List.getD_cons_zero, List.getD_cons_succ]
  go_wp2
  refine ord_last [17] (by kernel_rfl) ?_
  simp only [pick, List.map_cons, List.map_nil, List.getD_cons_zero, List.getD_cons_succ]
  go_wp2
  have hs5 := World.ownsRow.stored hown5 i (.int .u8 q)
  have hs6 := World.ownsRow.stored hs5.1 (i + 1) (.int .u8 p)
  have hY4 : RI (w3.setCell ⟨gy, i, none⟩ (.int .u8 (bits .xor .u8 p x2))) (w3.setCell ⟨gy, i, none⟩ (.int .u8 (bits .xor .u8 p x2))).heap.size .u8 (some ⟨gy, 0, none⟩) N (L.set i v) := by
    have := Rd.of_own hst.1
    unfold RI
    rw [List.map_set, hv]
    exact this
  have hZ7 : RI ((w5.setCell ⟨gz, i, none⟩ (.int .u8 q)).setCell ⟨gz, i + 1, none⟩ (.int .u8 p)).drew ((w5.setCell ⟨gz, i, none⟩ (.int .u8 q)).setCell ⟨gz, i + 1, none⟩ (.int .u8 p)).drew.heap.size .u8 (some ⟨gz, 0, none⟩) N ((L.set i q).set (i + 1) p) := by
    have := Rd.of_own hs6.1
    refine RI.heap (w := ((w5.setCell ⟨gz, i, none⟩ (.int .u8 q)).setCell ⟨gz, i + 1, none⟩ (.int .u8 p))) ?_ rfl
    unfold RI
    rw [List.map_set, List.map_set]
    exact this
  have hb7 := ((below_set (below_set hb5 hs5.2 hgz hb5.size) hs6.2 hgz (by have := hb5.size; have := hs5.2.size; omega))).drew
  have hb27 := hb4.trans (hb7.mono hb4.size)
  have hX7 := (hR2.below hb27).more hb27.size
  have hY7 := (hY4.below hb7).more hb7.size
  have hbB := hbA.trans (hb27.mono hbA.size)
  clear hs5 hs6 hst hY4 hb7 hb27 hb4 hb5 hb3 hown5 hown3 hcell3 hfz3 hcell5 hcell6 hfz5 hfz6 hR2 hbA
  generalize ((w5.setCell ⟨gz, i, none⟩ (.int .u8 q)).setCell ⟨gz, i + 1, none⟩ (.int .u8 p)).drew = w7 at *
  have HSY : Hid (L.set i v = a ++ v :: q :: b) := Lib.hid (by rw [HSP.out, set_one HAL.out])
  have HSZ : Hid ((L.set i q).set (i + 1) p = a ++ q :: p :: b) := Lib.hid (by rw [HSP.out, set_two HAL.out])
  obtain ⟨c0, hc0⟩ : ∃ c, c = adO L := ⟨_, rfl⟩
  obtain ⟨c1, hc1⟩ : ∃ c, c = adO (L.set i v) := ⟨_, rfl⟩
  obtain ⟨c2, hc2⟩ : ∃ c, c = adO ((L.set i q).set (i + 1) p) := ⟨_, rfl⟩
  have e1 : c1 = c0 ↔ x2 = 0 := by
    rw [hc0, hc1, HSY.out, HSP.out, changed a (q :: b) p v hpr hvr]
    exact HV0.out
  have e2 : c2 = c0 ↔ p = q := by
    rw [hc0, hc2, HSZ.out, HSP.out, turned a b p q hpr hqr]
  obtain ⟨b1, hb1, hb1'⟩ : ∃ b1, (c1 == c0) = b1 ∧ (x2 == 0) = b1 := ⟨_, rfl, by rw [Bool.eq_iff_iff]; simp [e1]⟩
  obtain ⟨b2, hb2, hb2'⟩ : ∃ b2, (c2 == c0) = b2 ∧ (p == q) = b2 := ⟨_, rfl, by rw [Bool.eq_iff_iff]; simp [e2]⟩
  have RY : Hid (∀ x ∈ L.set i v, 0 ≤ x ∧ x < 256) := Lib.hid (fun x hx => by
    rcases List.mem_or_eq_of_mem_set hx with hx | rfl
    · exact RL.out x hx
    · exact hvr)
  have RZ : Hid (∀ x ∈ (L.set i q).set (i + 1) p, 0 ≤ x ∧ x < 256) := Lib.hid (fun x hx => by
    rcases List.mem_or_eq_of_mem_set hx with hx | rfl
    · rcases List.mem_or_eq_of_mem_set hx with hx | rfl
      · exact RL.out x hx
      · exact hqr
    · exact hpr)
  have HC0 := Lib.hid hc0
  have HC1 := Lib.hid hc1
  have HC2 := Lib.hid hc2
  clear hc0 hc1 hc2 e1 e2 hv
  refine region_first [] (.cons 0 (.cons 1 (seq [2, 3, 4, 6, 9, 10] (.cons 5 (.cons 7 (seq [8, 11, 12, 13, 14, 16, 19, 20, 21, 22, 23, 24, 25, 26, 27, 28] (.cons 15 (.cons 17 (seq [18, 29, 30, 31] .nil))))))))) (by kernel_rfl) (by kernel_rfl) ?_
  simp only [pick, List.map_cons, List.map_nil, List.getD_cons_zero, List.getD_cons_succ]
  go_wp2
  refine ord_call (by kernel_rfl) ?_
  simp only [pick, List.map_cons, List.map_nil, List.getD_cons_zero, List.getD_cons_succ]
  go_wp2
  have hb8 : Below w7.heap.size w7 (w7.alloc (.cells #[Value.int .u8 1] 5)).drew := ((Below.refl _ _).alloc (Nat.le_refl _) _).drew
  refine ⟨hb8.block, ?_⟩
  have hO8 : RI (w7.alloc (.cells #[Value.int .u8 1] 5)).drew (w7.alloc (.cells #[Value.int .u8 1] 5)).drew.heap.size .u8 (some ⟨w7.heap.size, 0, none⟩) 1 [1] := Rd.heap (Rd.lit (n := 1) (s := 1) (cs := [Value.int .u8 1]) w7 _ rfl) rfl
  have hX8 := (hX7.below hb8).more hb8.size
  have hY8 := (hY7.below hb8).more hb8.size
  have hZ8 := (hZ7.below hb8).more hb8.size
  have hbB8 := hbB.trans (hb8.mono hbB.size)
  clear hX7 hY7 hZ7 hbB hb8
  generalize (w7.alloc (.cells #[Value.int .u8 1] 5)).drew = w8 at *
  have HC1' : Hid (131074 = adO [1]) := Lib.hid adO_one.symm
  refine ord_call (by kernel_rfl) ?_
  simp only [pick, List.map_cons, List.map_nil, List.getD_cons_zero, List.getD_cons_succ]
  go_wp2_with fail
  refine (adler_Of [1] _ _ _ _ hO8 (by simp) (by omega)).mono ?_
  rintro e w9 ⟨rfl, hb9⟩
  rw [← HC1'.out]
  have hX9 := (hX8.below hb9).more hb9.size
  have hY9 := (hY8.below hb9).more hb9.size
  have hZ9 := (hZ8.below hb9).more hb9.size
  have hbB9 := hbB8.trans (hb9.mono hbB8.size)
  have hE9 := ext_below hb9
  clear hX8 hY8 hZ8 hbB8 hb9
  go_wp2
  clear hE9
  refine ord_more [2, 3, 4, 6, 9, 10] _ (by kernel_rfl) ?_
  simp only [pick, List.map_cons, List.map_nil, List.getD_cons_zero, List.getD_cons_succ]
  go_wp2
  refine ord_call (by kernel_rfl) ?_
  simp only [pick, List.map_cons, List.map_nil, List.getD_cons_zero, List.getD_cons_succ]
  go_wp2_with fail
  refine (adler_Of (L.set i v) _ _ _ _ hY9 RY.out (by omega)).mono ?_
  rintro e w10 ⟨rfl, hb10⟩
  rw [← HC1.out]
  have hX10 := (hX9.below hb10).more hb10.size
  have hY10 := (hY9.below hb10).more hb10.size
  have hZ10 := (hZ9.below hb10).more hb10.size
  have hbB10 := hbB9.trans (hb10.mono hbB9.size)
  have hE10 := ext_below hb10
  clear hX9 hY9 hZ9 hbB9 hb10
  go_wp2
  clear hE10
  refine ord_call (by kernel_rfl) ?_
  simp only [pick, List.map_cons, List.map_nil, List.getD_cons_zero, List.getD_cons_succ]
  go_wp2_with fail
  refine (adler_Of L _ _ _ _ hX10 RL.out (by omega)).mono ?_
  rintro e w11 ⟨rfl, hb11⟩
  rw [← HC0.out]
  have hX11 := (hX10.below hb11).more hb11.size
  have hY11 := (hY10.below hb11).more hb11.size
  have hZ11 := (hZ10.below hb11).more hb11.size
  have hbB11 := hbB10.trans (hb11.mono hbB10.size)
  have hE11 := ext_below hb11
  clear hX10 hY10 hZ10 hbB10 hb11
  go_wp2
  clear hE11
  obtain ⟨gg, oo, p', hbo, _, hcp', HP', _⟩ := hX11.val (show i < N by omega)
  injection hbo with hbo
  injection hbo with hbo hbo'
  subst hbo hbo'
  obtain ⟨gg, oo, q', hbo, _, hcq', HQ', _⟩ := hX11.val hil
  injection hbo with hbo
  injection hbo with hbo hbo'
  subst hbo hbo'
  rw [Nat.zero_add] at hcp' hcq'
  obtain rfl : p' = p := by
    have := HP'.out
    rw [HSP.out, ← HAL.out] at this
    simpa using this.symm
  obtain rfl : q' = q := by
    have := HQ'.out
    rw [HSP.out, ← HAL.out] at this
    simpa using this.symm
  refine ord_more [8, 11, 12, 13, 14, 16, 19, 20, 21, 22, 23, 24, 25, 26, 27, 28] _ (by kernel_rfl) ?_
  simp only [pick, List.map_cons, List.map_nil, List.getD_cons_zero, List.getD_cons_succ]
  go_wp2
  clear hcp' hcq'
  refine ord_call (by kernel_rfl) ?_
  simp only [pick, List.map_cons, List.map_nil, List.getD_cons_zero, List.getD_cons_succ]
  go_wp2_with fail
  refine (adler_Of ((L.set i q').set (i + 1) p') _ _ _ _ hZ11 RZ.out (by omega)).mono ?_
  rintro e w12 ⟨rfl, hb12⟩
  rw [← HC2.out]
  have hX12 := (hX11.below hb12).more hb12.size
  have hY12 := (hY11.below hb12).more hb12.size
  have hZ12 := (hZ11.below hb12).more hb12.size
  have hbB12 := hbB11.trans (hb12.mono hbB11.size)
  have hE12 := ext_below hb12
  clear hX11 hY11 hZ11 hbB11 hb12
  go_wp2
  clear hE12
  refine ord_call (by kernel_rfl) ?_
  simp only [pick, List.map_cons, List.map_nil, List.getD_cons_zero, List.getD_cons_succ]
  go_wp2_with fail
  refine (adler_Of L _ _ _ _ hX12 RL.out (by omega)).mono ?_
  rintro e w13 ⟨rfl, hb13⟩
  rw [← HC0.out]
  have hX13 := (hX12.below hb13).more hb13.size
  have hY13 := (hY12.below hb13).more hb13.size
  have hZ13 := (hZ12.below hb13).more hb13.size
  have hbB13 := hbB12.trans (hb13.mono hbB12.size)
  have hE13 := ext_below hb13
  clear hX12 hY12 hZ12 hbB12 hb13
  go_wp2
  clear hE13
  refine ord_more [18, 29, 30, 31] .nil (by kernel_rfl) ?_
  simp only [pick, List.map_cons, List.map_nil, List.getD_cons_zero, List.getD_cons_succ]
  go_wp2
  refine ord_done ?_
  go_wp2
  go_ret
  exact ⟨rfl, hbB13⟩

theorem own_AdlerSees : ownKnob Try.prog.godebug = none := by kernel_rfl
theorem laid_AdlerSees : laidOutB Try.prog = true := by kernel_rfl
set_option maxRecDepth 100000 in
theorem lifted_AdlerSees (os : Os) (started : os.Started) (H : Type) (enc : TypeId × Value → H) :
    ReturnsInHanded {} Try.checked os 8 .any (Rows.adlerSeesSpec.pre6 enc Try.prog Try.f8 Rows.adlerSeesRow.domain false) (Rows.adlerSeesSpec.post enc Try.prog Try.f8 false true false false) := by
  refine returnsInHanded_of_change_sized (C := Try.checked) own_AdlerSees started (by kernel_rfl) Try.func8
    (ChangeSpec.witness6 (enc := enc) (C := Try.checked) false ⟨#[], #[.slice none 0 0, .int .i64 0, .int .u8 0], []⟩ 8 (by kernel_rfl) (by kernel_rfl) (by kernel_rfl) (by kernel_rfl)) ?_
  intro W base args ds gs before hval0 hW hcnd hsz0 _
  have hsz : (DataW.weightsEach Try.prog (Try.f8.params.toList ++ Rows.adlerSeesSpec.plain.varTypes Try.prog) (ds ++ gs)).all (· ≤ reachBytes) = true := hsz0
  clear hsz0
  have hval : ∀ (j : Nat) t v, Try.f8.params[j]? = some t → args[j]? = some v → Value.okWide Try.prog W .any base t v := hval0
  have hW' := hW
  obtain ⟨p, q, hA0, hV, rfl, hfz, hnd⟩ := hW
  have hA : DataW.TrodAll enc Try.prog W 0 (fun _ => true) true Try.f8.params.toList args.toList ds p := hA0
  rw [Try.params8] at hA hval hsz
  obtain ⟨v0, vs0, d0, ds0, p0, q0, hargs, rfl, rfl, h0, r0⟩ := trodAll_cons hA
  obtain ⟨v1, vs1, d1, ds1, p1, q1, rfl, rfl, rfl, h1, r1⟩ := trodAll_cons r0
  obtain ⟨v2, vs2, d2, ds2, p2, q2, rfl, rfl, rfl, h2, r2⟩ := trodAll_cons r1
  obtain ⟨rfl, rfl, rfl⟩ := trodAll_nil r2
  obtain rfl : args = #[v0, v1, v2] := by cases args; simp_all
  obtain ⟨rfl, rfl⟩ := trodVars_none hV
  have k0 := h0
  have lt0 : ∀ x ∈ p0, x.block < W.heap.size := by obtain ⟨m, hm⟩ := k0; exact DataW.trod_lt m _ _ _ hm
  obtain ⟨a0, len0, cap0, rfl⟩ := okWide_slice Try.underlying22 (hval 0 22 v0 rfl rfl)
  obtain ⟨x0, ri0, wx0, lc0, hd0⟩ := open_RI Try.underlying22 Try.underlying5 (by kernel_rfl) h0
  have bd0 : len0 ≤ 140737488351232 := by
    rcases hd0 with ⟨h, _⟩ | ⟨el, sp, hd, hl⟩
    · omega
    · subst hd
      have := sized_slice hsz (j := 0) (t := 22) (e := 5) rfl rfl Try.underlying22
      rw [show Try.prog.bytesOf 5 = 1 by kernel_rfl] at this
      simp only [reachBytes] at this
      omega
  have rr0 : ∀ x ∈ x0, 0 ≤ x ∧ x < 256 := fun x hx => by have := bounds_u8 (wx0 x hx); omega
  have k1 := h1
  have lt1 : ∀ x ∈ p1, x.block < W.heap.size := by obtain ⟨m, hm⟩ := k1; exact DataW.trod_lt m _ _ _ hm
  obtain ⟨x1, rfl, rfl, rfl, wx1⟩ := open_int Try.underlying3 (hval 1 3 v1 rfl rfl) h1
  have rr1 := bounds_i64 wx1
  have k2 := h2
  have lt2 : ∀ x ∈ p2, x.block < W.heap.size := by obtain ⟨m, hm⟩ := k2; exact DataW.trod_lt m _ _ _ hm
  obtain ⟨x2, rfl, rfl, rfl, wx2⟩ := open_int Try.underlying5 (hval 2 5 v2 rfl rfl) h2
  have rr2 : 0 ≤ x2 ∧ x2 < 256 := by have := bounds_u8 wx2; omega
  clear hA0 hval0 hsz
  refine (keep_AdlerSees W a0 len0 cap0 x0 ri0 bd0 rr0 lc0 x1 rr1 x2 rr2).mono fun e W' ⟨he, bel⟩ => ?_
  subst he
  exact ⟨_, rfl, _, _, _, [], _, [], hW', trodAll_mk1 (shut_bool Try.underlying4 _), (trodAll_cons_mk (Below.trod laid_AdlerSees (by kernel_rfl) (of_decide_eq_true (by kernel_rfl)) k0 bel lt0) (trodAll_cons_mk (Below.trod laid_AdlerSees (by kernel_rfl) (of_decide_eq_true (by kernel_rfl)) k1 bel lt1) (trodAll_cons_mk (Below.trod laid_AdlerSees (by kernel_rfl) (of_decide_eq_true (by kernel_rfl)) k2 bel lt2) trodAll_mk0))), rfl, bel.frame _, fun h => by cases h⟩

theorem adlerSees_holds : Rows.AdlerSeesSaid :=
  OpenClaim.holds_of_wide 8 Try.f8 rfl rfl rfl rfl rfl rfl rfl ⟨rfl, rfl, rfl, rfl, rfl⟩ rfl rfl rfl rfl rfl (by kernel_rfl) Try.func8 (by kernel_rfl)
    (of_decide_eq_true (by kernel_rfl)) (by unfold Func.isWrapper; first | (rw [if_pos (by decide +kernel)]; kernel_rfl) | (rw [if_neg (by decide +kernel)]; exact ⟨rfl, rfl⟩))
    (fun os started H enc _ => lifted_AdlerSees os started H enc)
#print axioms adlerSees_holds
end Go.Proofs.Ytadlkecodlhaaaa
