/- Changing a byte of a record ends the file before this record: the law's call returns true, for every input, and leaves what was there as it was. No condition but that each slice takes at most 2^47 - 4096 bytes. -/
import Derived.Test.YtpgjjndmbkkhiaaKeepFileOf
import Derived.Test.YtpgjjndmbkkhiaaKeepPicked
import Derived.Test.YtpgjjndmbkkhiaaXorByte
set_option linter.unusedSimpArgs false
set_option linter.unusedVariables false
namespace Go.Proofs.Ytpgjjndmbkkhiaa
open Go.ChangeShapes Go.WideShapes Go.ChangeAt Go.RowKit Go.Ord Go.Baro

theorem fl_next {rs : List (List Int)} {k : Nat} {l : List Int} (h : rs[k]? = some l) : (flL (rs.take (k + 1))).length = (flL (rs.take k)).length + (6 + l.length) := by
  rw [at_take h, flL_snoc, List.length_append, rcL_length]
theorem fl_split {rs : List (List Int)} {k : Nat} {l : List Int} (h : rs[k]? = some l) : flL rs = flL (rs.take k) ++ (hdL l.length (adO l) ++ l ++ flL (rs.drop (k + 1))) := by
  have : rs = rs.take k ++ l :: rs.drop (k + 1) := by rw [← at_drop h, List.take_append_drop]
  conv => lhs; rw [this]
  rw [flL_append, flL_cons]; rfl
theorem fl_set {rs : List (List Int)} {k j : Nat} {l : List Int} (h : rs[k]? = some l) (hj : j < l.length) (y : Int) :
    (flL rs).set ((flL (rs.take k)).length + 6 + j) y = flL (rs.take k) ++ (hdL l.length (adO l) ++ l.set j y ++ flL (rs.drop (k + 1))) := by
  rw [fl_split h, List.append_assoc, List.set_append_right _ _ (by omega), List.set_append_right _ _ (by simp [hdL]; omega), List.set_append_left _ _ (by simp [hdL]; omega), List.append_assoc]
  simp [hdL]
  congr 2
  omega
theorem fl_at {rs : List (List Int)} {k j : Nat} {l : List Int} {x : Int} (h : rs[k]? = some l) (hj : l[j]? = some x) : (flL rs)[(flL (rs.take k)).length + 6 + j]? = some x := by
  have hl := (List.getElem?_eq_some_iff.1 hj).1
  rw [fl_split h, List.append_assoc, List.getElem?_append_right (by omega), List.getElem?_append_right (by simp [hdL]; omega), List.getElem?_append_left (by simp [hdL]; omega), ← hj]
  congr 1
  simp [hdL]
  omega
theorem adO_set {l : List Int} {j : Nat} {x y : Int} (hj : l[j]? = some x) (hx : 0 ≤ x ∧ x < 256) (hy : 0 ≤ y ∧ y < 256) (hne : y ≠ x) : adO (l.set j y) ≠ adO l := by
  have hl := (List.getElem?_eq_some_iff.1 hj).1
  have e : l = l.take j ++ x :: l.drop (j + 1) := by rw [← at_drop hj, List.take_append_drop]
  have e2 : l.set j y = l.take j ++ y :: l.drop (j + 1) := by
    conv => lhs; rw [e]
    rw [List.set_append_right _ _ (by simp; omega), List.length_take, Nat.min_eq_left (by omega), Nat.sub_self]
    rfl
  rw [e2]
  conv => rhs; rw [e]
  intro h
  exact hne ((changed _ _ x y hx hy).1 h)
theorem opn_changed {rs : List (List Int)} {k j : Nat} {l : List Int} {x y : Int} (h4 : ∀ l ∈ rs, l.length ≤ 4000) (hk : rs.length ≤ 200) (h : rs[k]? = some l) (hj : l[j]? = some x) (hx : 0 ≤ x ∧ x < 256) (hy : 0 ≤ y ∧ y < 256) (hne : y ≠ x) :
    opn 200 ((flL rs).set ((flL (rs.take k)).length + 6 + j) y) = (rs.take k, (flL (rs.take k)).length, 10) := by
  have hk2 := (List.getElem?_eq_some_iff.1 h).1
  rw [fl_set h (List.getElem?_eq_some_iff.1 hj).1]
  exact opn_sees _ (fun l hl => h4 l (List.mem_of_mem_take hl)) (by rw [List.length_take]; omega) l _ _ (h4 l (List.mem_of_getElem? h)) (by simp) (adO_set hj hx hy hne)
theorem cells_one {w : World} {B : Nat} {cs : List Value} {ls : List (List Int)} (hl : cs.length = ls.length) (h : ∀ (i : Nat) v l, cs[i]? = some v → ls[i]? = some l → SL w B v l) : ∀ u ∈ cs, u.oneCell' = true := by
  intro u hu
  obtain ⟨i, hi, rfl⟩ := List.getElem_of_mem hu
  obtain ⟨A, n, c, e, _⟩ := h i cs[i] ls[i] (List.getElem?_eq_getElem hi) (List.getElem?_eq_getElem (by omega))
  rw [e]; rfl
theorem RL.put {w : World} {B n : Nat} {A : Option Addr} {cs : List Value} {ls : List (List Int)} {v : Value} {l : List Int} (hr : Rd w B 1 A n (cs ++ [v])) (hl : cs.length = ls.length)
    (h : ∀ (i : Nat) v l, cs[i]? = some v → ls[i]? = some l → SL w B v l) (hv : SL w B v l) : RL w B A n (ls ++ [l]) := by
  refine ⟨cs ++ [v], hr, by simp [hl], fun i v' l' h1 h2 => ?_⟩
  rw [List.getElem?_append] at h1 h2
  split at h1
  · rename_i hi
    rw [if_pos (by omega)] at h2
    exact h i v' l' h1 h2
  · rename_i hi
    rw [if_neg (by omega), ← hl] at h2
    rcases Nat.eq_zero_or_pos (i - cs.length) with h0 | h0
    · rw [h0] at h1 h2
      simp at h1 h2
      rw [← h1, ← h2]; exact hv
    · rw [List.getElem?_eq_none (by simp; omega)] at h1; cases h1

set_option maxRecDepth 100000 in
set_option maxHeartbeats 4000000 in
theorem keep_FileSees (w : World) (A0 : Option Addr) (n0 c0 : Nat) (x0 : List (List Int)) (h0 : RL w w.heap.size A0 n0 x0) (b0 : n0 ≤ 5864062014805) (r0 : ∀ l ∈ x0, l.length ≤ 9223372036854775807 ∧ ∀ y ∈ l, 0 ≤ y ∧ y < 256) (l0 : n0 ≤ c0)
    (x1 : Int) (r1 : -9223372036854775808 ≤ x1 ∧ x1 ≤ 9223372036854775807) (x2 : Int) (r2 : -9223372036854775808 ≤ x2 ∧ x2 ≤ 9223372036854775807) (x3 : Int) (r3 : 0 ≤ x3 ∧ x3 < 256) :
    Calls Try.prog 7 #[.slice A0 n0 c0, .int .i64 x1, .int .i64 x2, .int .u8 x3] w fun e w' => e = .returned (.bool true) ∧ Below w.heap.size w w' := by
  obtain ⟨X, hX⟩ : ∃ X, X = x0.take 20 ++ [[1, 2, 3]] := ⟨_, rfl⟩
  have rX : ∀ l ∈ X, l.length ≤ 9223372036854775807 ∧ ∀ y ∈ l, 0 ≤ y ∧ y < 256 := by
    intro l hl
    rw [hX] at hl
    rcases List.mem_append.1 hl with hl | hl
    · exact r0 l (List.mem_of_mem_take hl)
    · rw [List.mem_singleton] at hl; subst hl; exact ⟨by simp, fun y hy => by simp at hy; omega⟩
  have HX := Lib.hid hX
  have HLX : Hid (X.length = min n0 20 + 1) := Lib.hid (by rw [hX]; simp [h0.len]; omega)
  obtain ⟨q1, q2, q3, q4, q5⟩ := trim_ok 21 rX
  have q6 := trim_length X 21
  obtain ⟨rs, hrs⟩ : ∃ rs, rs = trim X 21 := ⟨_, rfl⟩
  have q7 := trim_all 21 (fun l hl => (rX l hl).2)
  rw [← hrs] at q1 q2 q3 q4 q5 q6 q7
  have HRS := Lib.hid hrs
  have HQ1 := Lib.hid q1
  have HQ2 := Lib.hid q2
  have HQ3 := Lib.hid q3
  have HQ5 := Lib.hid q5
  have HQ6 := Lib.hid q6
  have HQ7 := Lib.hid q7
  have HR := Lib.hid rX
  clear hrs q1 q2 q3 q4 q5 q6 q7 rX r0 hX
  by_cases hsm : n0 ≤ 20
  · obtain ⟨cs, hRd, hcl, hsl⟩ := h0
    have HL0 : Hid (x0.take 20 = x0) := Lib.hid (List.take_of_length_le (by have := hRd.len; omega))
    have hmm : min n0 20 = n0 := by omega
    rw [hmm] at HLX
    clear hmm
    have HOC := Lib.hid (cells_one hcl hsl)
    have HSL := Lib.hid hsl
    have HCL := Lib.hid hcl
    clear hsl hcl
    go_enter Try.func7, Try.ntmps7
    go_wp2_with (first
      | (at_builtin; refine app_src eltLst w rfl (.const (.slice none 0 0)) (.tmp 24) rfl w.heap.size _ 0 [] rfl (World.ownsRow_nil _ _ _ _) _ _ _ cs (by rfl) _ (by exact hRd) HOC.out (by omega) (by omega) (Nat.le_refl _) ?_; intro v1 w1 hv1 _ hbel1 hsz1; rw [List.nil_append, Nat.zero_add] at hv1; obtain ⟨A1, k1, rfl, _⟩ := own_form hv1; have hb1 : Below w.heap.size w w1 := hbel1 w (Below.refl _ _); have hl1 : (w1.alloc (.cells #[.int .u8 1, .int .u8 2, .int .u8 3] 5)).ownsRow w.heap.size 5 1 (.slice (some ⟨w1.heap.size, 0, none⟩) 3 3) 3 ([1, 2, 3].map (Value.int .u8)) := own_new _ _ rfl rfl hsz1 (by omega); have hv1a := hv1.alloc (.cells #[.int .u8 1, .int .u8 2, .int .u8 3] 5); have hb1a : Below w.heap.size w (w1.alloc (.cells #[.int .u8 1, .int .u8 2, .int .u8 3] 5)) := hb1.alloc hsz1 _)
      | (at_builtin; refine app_lit eltLst (w1.alloc (.cells #[.int .u8 1, .int .u8 2, .int .u8 3] 5)) rfl (.tmp 25) (.tmp 27) rfl w.heap.size _ _ _ rfl (by exact hv1a) 1 [_] _ (by simp) rfl rfl (oneS _ _ _) (by omega) (by omega) hb1a.size ?_; intro v2 w2 hv2' hgr2 hbel2 hsz2; obtain ⟨N2, hv2, hN2⟩ := own_count hv2'; clear hv2'; obtain ⟨A2, k2, rfl, _⟩ := own_form hv2; have hl2 := own_keep (hl1.alloc _) (hv1a.alloc _) (by decide) hgr2; have hb2 := hbel2 w hb1a))
    have hsl2 : ∀ (i : Nat) v l, cs[i]? = some v → (x0.take 20)[i]? = some l → SL w2 w2.heap.size v l := fun i v l p1 p2 => by rw [HL0.out] at p2; exact ((HSL.out i v l p1 p2).below hb2).more hb2.size
    have hLX : RL w2 w2.heap.size A2 N2 X := by
      rw [HX.out]
      exact RL.put (Rd.of_own hv2) (by rw [HL0.out]; exact HCL.out) hsl2 (OB.sl (OB.mk0 hl2))
    have hLXf : ∀ m, m = N2 → RL w2 w2.heap.size A2 m X := fun m hm => by rw [hm]; exact hLX
    clear hsl2 hl2 hl1 hv1 hv1a hb1a hbel1 hbel2 hgr2 hsz1 hsz2 hv2 hRd hb1
    refine (keep_FileOf X A2 _ k2 21 w2 (hLXf _ (by omega)) HR.out (by omega) (by omega)).mono ?_
    rintro e w3 ⟨V, M, k3, B3, N, j3, cs3, rfl, hv3, hrow3, hobs3, hb3⟩
    rw [← HRS.out] at hv3 hobs3
    have HM := Lib.hid (own_len hv3)
    have HN := Lib.hid (row_len hrow3 hobs3)
    have hN : 1 ≤ N ∧ N ≤ 21 := by rw [← HN.out, HQ6.out, HLX.out]; omega
    have hM : M ≤ 2226 := by have := HQ5.out; rw [← HM.out, HN.out] at this; omega
    have hf3 : RI w3 w3.heap.size .u8 V M (flL rs) := Rd.of_own hv3
    have hL3 : RL w3 w3.heap.size B3 N rs := hobs3.rl hrow3
    have hbA : Below w.heap.size w w3 := hb2.trans (hb3.mono hb2.size)
    clear hv3 hrow3 hobs3 hb2 hb3 hLX hLXf hN2
    by_cases hx3 : x3 = 0
    · subst hx3
      go_wp2
      go_ret
      exact ⟨rfl, hbA⟩
    have hxb : (x3 == 0) = false := by simp [hx3]
    go_wp2_with fail
    refine (keep_Picked x1 N _ (by omega) (by omega)).mono ?_
    rintro e w4 ⟨rfl, rfl⟩
    obtain ⟨I, HI⟩ : ∃ I : Nat, Hid (x1 % (N : Int) = I) := ⟨(x1 % (N : Int)).toNat, Lib.hid (by have := Int.emod_nonneg x1 (show (N : Int) ≠ 0 by omega); omega)⟩
    have hI : I < N := by have := Int.emod_lt_of_pos x1 (show (0 : Int) < N by omega); have := HI.out; omega
    rw [HI.out]
    go_wp2
    go_loopw [13, 14] (fun a i wr => ∃ j q : Nat, j ≤ I ∧ a = .int .i64 q ∧ i = .int .i64 j ∧ Hid (q = (flL (rs.take j)).length) ∧ q ≤ j * 106 ∧ w3 = wr) (fun _ i _ => I - (intOf i).toNat)
    case atStart => exact ⟨0, 0, Nat.zero_le _, rfl, rfl, rfl, by omega, rfl⟩
    case round =>
      obtain ⟨j, q, hj, rfl, rfl, HQ, hq, rfl⟩ := hrel
      by_cases hlt : j < I
      · obtain ⟨b, o, D1, m1, d1, l1, rfl, _, hcell, _, hr1, HY, hm1⟩ := hL3.val (show j < N by omega)
        have hl1 := HQ1.out l1 hm1
        have HL1 := Lib.hid hr1.len
        rw [hr1.len] at hl1
        go_wp2
        go_roundw
        case rel => exact ⟨j + 1, q + (6 + m1), by omega, by go_num, by go_num, by show _ = _; rw [fl_next HY.out, HL1.out, ← HQ.out], by omega, by first | rfl | trivial⟩
        case measure => simp [intOf]; omega
      · obtain rfl : I = j := by omega
        obtain ⟨b, o, D1, m1, d1, l1, rfl, _, hcell, _, hr1, HY, hm1⟩ := hL3.val hI
        have hl1 := HQ1.out l1 hm1
        have HL1 := Lib.hid hr1.len
        rw [hr1.len] at hl1
        have hfit : q + (6 + m1) ≤ M := by
          rw [HM.out, HQ.out, fl_split HY.out]
          simp [hdL, HL1.out]
          omega
        by_cases hm0 : m1 = 0
        · subst hm0
          go_wp2
          go_ret
          exact ⟨ret_bool (by simp; omega), hbA⟩
        have hmb : ((m1 : Int) == 0) = false := by simp; omega
        obtain ⟨J, HJ⟩ : ∃ J : Nat, Hid (x2 % (m1 : Int) = J) := ⟨(x2 % (m1 : Int)).toNat, Lib.hid (by have := Int.emod_nonneg x2 (show (m1 : Int) ≠ 0 by omega); omega)⟩
        have hJ : J < m1 := by have := Int.emod_lt_of_pos x2 (show (0 : Int) < m1 by omega); have := HJ.out; omega
        obtain ⟨p, hp⟩ : ∃ p, l1[J]? = some p := ⟨_, List.getElem?_eq_getElem (by rw [HL1.out]; exact hJ)⟩
        have hpr := (HQ7.out l1 hm1).2 p (List.mem_of_getElem? hp)
        obtain ⟨v, hv⟩ : ∃ v, v = bits .xor .u8 p x3 := ⟨_, rfl⟩
        have hxr := xor_u8 p x3 hpr r3
        rw [← hv] at hxr
        have hvp : v ≠ p := fun h => hx3 (hxr.2.1 h)
        have HO := Lib.hid (opn_changed HQ2.out (by rw [HN.out]; omega) HY.out hp hpr hxr.1 hvp)
        rw [← HQ.out] at HO
        have HPC : Hid (((flL rs).map (Value.int .u8))[q + 6 + J]? = some (.int .u8 p)) := Lib.hid (by rw [List.getElem?_map, HQ.out, fl_at HY.out hp]; rfl)
        have HV := Lib.hid hv
        have HVR := Lib.hid hxr.1
        clear hv hxr hvp hp
        go_wp2_with (at_builtin; go_must (refine app_src eltOct w3 rfl (.const (.slice none 0 0)) (.tmp 66) rfl w3.heap.size _ 0 [] rfl (World.ownsRow_nil _ _ _ _) _ _ _ ((flL rs).map (Value.int .u8)) (by rfl) _ (by exact hf3) (one_ints _ _) (by omega) (by omega) (Nat.le_refl _) ?_); intro v5 w5 hv5 _ hbel5 _; rw [List.nil_append, Nat.zero_add] at hv5; have hb5 : Below w3.heap.size w3 w5 := hbel5 w3 (Below.refl _ _); clear hbel5; obtain ⟨gy, cy, rfl, hgy, hgyl, hcy⟩ := own_some hv5 (by omega); have hcell5 := (hv5.cellAt (q + 6 + J) (by omega)).trans HPC.out; have hfz5 := hv5.frozenAt (q + 6 + J); have hblt := block_lt' hcell; have hcell6 : w5.cell? ⟨b, o + I, none⟩ = some (.slice D1 m1 d1) := (hb5.cell hblt).trans hcell)
        refine (keep_Picked x2 m1 _ (by omega) (by omega)).mono ?_
        rintro e w6 ⟨rfl, rfl⟩
        rw [HJ.out]
        have hst := World.ownsRow.stored hv5 (q + 6 + J) (.int .u8 (bits .xor .u8 p x3))
        have hb7 := below_set hb5 hst.2 hgy hb5.size
        have hst1 := hst.1
        rw [← List.map_set, ← HV.out] at hst1
        have HR7 : Hid (∀ x ∈ (flL rs).set (q + 6 + J) v, 0 ≤ x ∧ x < 256) := Lib.hid (fun x hx => by
          rcases List.mem_or_eq_of_mem_set hx with hx | rfl
          · exact HQ3.out x hx
          · exact HVR.out)
        go_wp2_with fail
        rw [← HV.out] at hb7 ⊢
        have hbB := hbA.trans (hb7.mono hbA.size)
        clear hst hv5 hb5 hcell5 hcell6 hfz5
        refine (file_Open ((flL rs).set (q + 6 + J) v) _ _ _ _ (Rd.of_own hst1) HR7.out (by omega) hcy).mono ?_
        rintro e w8 ⟨A8, N8, k8, cs8, ls8, p8, y8, rfl, hrow8, hobs8, HO8, hb8⟩
        have he := HO8.out
        rw [HO.out] at he
        simp only [Prod.mk.injEq] at he
        obtain ⟨e1, rfl, rfl⟩ := he
        have hN8 : N8 = I := by rw [← row_len hrow8 hobs8, ← e1, List.length_take, HN.out]; omega
        subst hN8
        clear e1 HO8 HO
        go_wp2
        go_ret
        exact ⟨ret_bool (by simp), hbB.trans (hb8.mono hbB.size)⟩
  · obtain ⟨cs, hRd, hcl, hsl⟩ := h0.take (m := 20) (by omega)
    have hmm : min n0 20 = 20 := by omega
    rw [hmm] at HLX
    clear hmm
    have HOC := Lib.hid (cells_one hcl hsl)
    have HSL := Lib.hid hsl
    have HCL := Lib.hid hcl
    clear hsl hcl
    go_enter Try.func7, Try.ntmps7
    go_wp2_with (first
      | (at_builtin; refine app_src eltLst w rfl (.const (.slice none 0 0)) (.tmp 24) rfl w.heap.size _ 0 [] rfl (World.ownsRow_nil _ _ _ _) _ _ _ cs (by rfl) _ (by exact hRd) HOC.out (by omega) (by omega) (Nat.le_refl _) ?_; intro v1 w1 hv1 _ hbel1 hsz1; rw [List.nil_append, Nat.zero_add] at hv1; obtain ⟨A1, k1, rfl, _⟩ := own_form hv1; have hb1 : Below w.heap.size w w1 := hbel1 w (Below.refl _ _); have hl1 : (w1.alloc (.cells #[.int .u8 1, .int .u8 2, .int .u8 3] 5)).ownsRow w.heap.size 5 1 (.slice (some ⟨w1.heap.size, 0, none⟩) 3 3) 3 ([1, 2, 3].map (Value.int .u8)) := own_new _ _ rfl rfl hsz1 (by omega); have hv1a := hv1.alloc (.cells #[.int .u8 1, .int .u8 2, .int .u8 3] 5); have hb1a : Below w.heap.size w (w1.alloc (.cells #[.int .u8 1, .int .u8 2, .int .u8 3] 5)) := hb1.alloc hsz1 _)
      | (at_builtin; refine app_lit eltLst (w1.alloc (.cells #[.int .u8 1, .int .u8 2, .int .u8 3] 5)) rfl (.tmp 25) (.tmp 27) rfl w.heap.size _ _ _ rfl (by exact hv1a) 1 [_] _ (by simp) rfl rfl (oneS _ _ _) (by omega) (by omega) hb1a.size ?_; intro v2 w2 hv2' hgr2 hbel2 hsz2; obtain ⟨N2, hv2, hN2⟩ := own_count hv2'; clear hv2'; obtain ⟨A2, k2, rfl, _⟩ := own_form hv2; have hl2 := own_keep (hl1.alloc _) (hv1a.alloc _) (by decide) hgr2; have hb2 := hbel2 w hb1a))
    have hsl2 : ∀ (i : Nat) v l, cs[i]? = some v → (x0.take 20)[i]? = some l → SL w2 w2.heap.size v l := fun i v l p1 p2 => by exact ((HSL.out i v l p1 p2).below hb2).more hb2.size
    have hLX : RL w2 w2.heap.size A2 N2 X := by
      rw [HX.out]
      exact RL.put (Rd.of_own hv2) (by exact HCL.out) hsl2 (OB.sl (OB.mk0 hl2))
    have hLXf : ∀ m, m = N2 → RL w2 w2.heap.size A2 m X := fun m hm => by rw [hm]; exact hLX
    clear hsl2 hl2 hl1 hv1 hv1a hb1a hbel1 hbel2 hgr2 hsz1 hsz2 hv2 hRd hb1
    refine (keep_FileOf X A2 _ k2 21 w2 (hLXf _ (by omega)) HR.out (by omega) (by omega)).mono ?_
    rintro e w3 ⟨V, M, k3, B3, N, j3, cs3, rfl, hv3, hrow3, hobs3, hb3⟩
    rw [← HRS.out] at hv3 hobs3
    have HM := Lib.hid (own_len hv3)
    have HN := Lib.hid (row_len hrow3 hobs3)
    have hN : 1 ≤ N ∧ N ≤ 21 := by rw [← HN.out, HQ6.out, HLX.out]; omega
    have hM : M ≤ 2226 := by have := HQ5.out; rw [← HM.out, HN.out] at this; omega
    have hf3 : RI w3 w3.heap.size .u8 V M (flL rs) := Rd.of_own hv3
    have hL3 : RL w3 w3.heap.size B3 N rs := hobs3.rl hrow3
    have hbA : Below w.heap.size w w3 := hb2.trans (hb3.mono hb2.size)
    clear hv3 hrow3 hobs3 hb2 hb3 hLX hLXf hN2
    by_cases hx3 : x3 = 0
    · subst hx3
      go_wp2
      go_ret
      exact ⟨rfl, hbA⟩
    have hxb : (x3 == 0) = false := by simp [hx3]
    go_wp2_with fail
    refine (keep_Picked x1 N _ (by omega) (by omega)).mono ?_
    rintro e w4 ⟨rfl, rfl⟩
    obtain ⟨I, HI⟩ : ∃ I : Nat, Hid (x1 % (N : Int) = I) := ⟨(x1 % (N : Int)).toNat, Lib.hid (by have := Int.emod_nonneg x1 (show (N : Int) ≠ 0 by omega); omega)⟩
    have hI : I < N := by have := Int.emod_lt_of_pos x1 (show (0 : Int) < N by omega); have := HI.out; omega
    rw [HI.out]
    go_wp2
    go_loopw [13, 14] (fun a i wr => ∃ j q : Nat, j ≤ I ∧ a = .int .i64 q ∧ i = .int .i64 j ∧ Hid (q = (flL (rs.take j)).length) ∧ q ≤ j * 106 ∧ w3 = wr) (fun _ i _ => I - (intOf i).toNat)
    case atStart => exact ⟨0, 0, Nat.zero_le _, rfl, rfl, rfl, by omega, rfl⟩
    case round =>
      obtain ⟨j, q, hj, rfl, rfl, HQ, hq, rfl⟩ := hrel
      by_cases hlt : j < I
      · obtain ⟨b, o, D1, m1, d1, l1, rfl, _, hcell, _, hr1, HY, hm1⟩ := hL3.val (show j < N by omega)
        have hl1 := HQ1.out l1 hm1
        have HL1 := Lib.hid hr1.len
        rw [hr1.len] at hl1
        go_wp2
        go_roundw
        case rel => exact ⟨j + 1, q + (6 + m1), by omega, by go_num, by go_num, by show _ = _; rw [fl_next HY.out, HL1.out, ← HQ.out], by omega, by first | rfl | trivial⟩
        case measure => simp [intOf]; omega
      · obtain rfl : I = j := by omega
        obtain ⟨b, o, D1, m1, d1, l1, rfl, _, hcell, _, hr1, HY, hm1⟩ := hL3.val hI
        have hl1 := HQ1.out l1 hm1
        have HL1 := Lib.hid hr1.len
        rw [hr1.len] at hl1
        have hfit : q + (6 + m1) ≤ M := by
          rw [HM.out, HQ.out, fl_split HY.out]
          simp [hdL, HL1.out]
          omega
        by_cases hm0 : m1 = 0
        · subst hm0
          go_wp2
          go_ret
          exact ⟨ret_bool (by simp; omega), hbA⟩
        have hmb : ((m1 : Int) == 0) = false := by simp; omega
        obtain ⟨J, HJ⟩ : ∃ J : Nat, Hid (x2 % (m1 : Int) = J) := ⟨(x2 % (m1 : Int)).toNat, Lib.hid (by have := Int.emod_nonneg x2 (show (m1 : Int) ≠ 0 by omega); omega)⟩
        have hJ : J < m1 := by have := Int.emod_lt_of_pos x2 (show (0 : Int) < m1 by omega); have := HJ.out; omega
        obtain ⟨p, hp⟩ : ∃ p, l1[J]? = some p := ⟨_, List.getElem?_eq_getElem (by rw [HL1.out]; exact hJ)⟩
        have hpr := (HQ7.out l1 hm1).2 p (List.mem_of_getElem? hp)
        obtain ⟨v, hv⟩ : ∃ v, v = bits .xor .u8 p x3 := ⟨_, rfl⟩
        have hxr := xor_u8 p x3 hpr r3
        rw [← hv] at hxr
        have hvp : v ≠ p := fun h => hx3 (hxr.2.1 h)
        have HO := Lib.hid (opn_changed HQ2.out (by rw [HN.out]; omega) HY.out hp hpr hxr.1 hvp)
        rw [← HQ.out] at HO
        have HPC : Hid (((flL rs).map (Value.int .u8))[q + 6 + J]? = some (.int .u8 p)) := Lib.hid (by rw [List.getElem?_map, HQ.out, fl_at HY.out hp]; rfl)
        have HV := Lib.hid hv
        have HVR := Lib.hid hxr.1
        clear hv hxr hvp hp
        go_wp2_with (at_builtin; go_must (refine app_src eltOct w3 rfl (.const (.slice none 0 0)) (.tmp 66) rfl w3.heap.size _ 0 [] rfl (World.ownsRow_nil _ _ _ _) _ _ _ ((flL rs).map (Value.int .u8)) (by rfl) _ (by exact hf3) (one_ints _ _) (by omega) (by omega) (Nat.le_refl _) ?_); intro v5 w5 hv5 _ hbel5 _; rw [List.nil_append, Nat.zero_add] at hv5; have hb5 : Below w3.heap.size w3 w5 := hbel5 w3 (Below.refl _ _); clear hbel5; obtain ⟨gy, cy, rfl, hgy, hgyl, hcy⟩ := own_some hv5 (by omega); have hcell5 := (hv5.cellAt (q + 6 + J) (by omega)).trans HPC.out; have hfz5 := hv5.frozenAt (q + 6 + J); have hblt := block_lt' hcell; have hcell6 : w5.cell? ⟨b, o + I, none⟩ = some (.slice D1 m1 d1) := (hb5.cell hblt).trans hcell)
        refine (keep_Picked x2 m1 _ (by omega) (by omega)).mono ?_
        rintro e w6 ⟨rfl, rfl⟩
        rw [HJ.out]
        have hst := World.ownsRow.stored hv5 (q + 6 + J) (.int .u8 (bits .xor .u8 p x3))
        have hb7 := below_set hb5 hst.2 hgy hb5.size
        have hst1 := hst.1
        rw [← List.map_set, ← HV.out] at hst1
        have HR7 : Hid (∀ x ∈ (flL rs).set (q + 6 + J) v, 0 ≤ x ∧ x < 256) := Lib.hid (fun x hx => by
          rcases List.mem_or_eq_of_mem_set hx with hx | rfl
          · exact HQ3.out x hx
          · exact HVR.out)
        go_wp2_with fail
        rw [← HV.out] at hb7 ⊢
        have hbB := hbA.trans (hb7.mono hbA.size)
        clear hst hv5 hb5 hcell5 hcell6 hfz5
        refine (file_Open ((flL rs).set (q + 6 + J) v) _ _ _ _ (Rd.of_own hst1) HR7.out (by omega) hcy).mono ?_
        rintro e w8 ⟨A8, N8, k8, cs8, ls8, p8, y8, rfl, hrow8, hobs8, HO8, hb8⟩
        have he := HO8.out
        rw [HO.out] at he
        simp only [Prod.mk.injEq] at he
        obtain ⟨e1, rfl, rfl⟩ := he
        have hN8 : N8 = I := by rw [← row_len hrow8 hobs8, ← e1, List.length_take, HN.out]; omega
        subst hN8
        clear e1 HO8 HO
        go_wp2
        go_ret
        exact ⟨ret_bool (by simp), hbB.trans (hb8.mono hbB.size)⟩

theorem own_FileSees : ownKnob Try.prog.godebug = none := by kernel_rfl
theorem laid_FileSees : laidOutB Try.prog = true := by kernel_rfl
set_option maxRecDepth 100000 in
theorem lifted_FileSees (os : Os) (started : os.Started) (H : Type) (enc : TypeId × Value → H) :
    ReturnsInHanded {} Try.checked os 7 .any (Rows.fileSeesSpec.pre6 enc Try.prog Try.f7 Rows.fileSeesRow.domain false) (Rows.fileSeesSpec.post enc Try.prog Try.f7 false true false false) := by
  refine returnsInHanded_of_change_sized (C := Try.checked) own_FileSees started (by kernel_rfl) Try.func7
    (ChangeSpec.witness6 (enc := enc) (C := Try.checked) false ⟨#[], #[.slice none 0 0, .int .i64 0, .int .i64 0, .int .u8 0], []⟩ 8 (by kernel_rfl) (by kernel_rfl) (by kernel_rfl) (by kernel_rfl)) ?_
  intro W base args ds gs before hval0 hW hcnd hsz0 _
  have hsz : (DataW.weightsEach Try.prog (Try.f7.params.toList ++ Rows.fileSeesSpec.plain.varTypes Try.prog) (ds ++ gs)).all (· ≤ reachBytes) = true := hsz0
  clear hsz0
  have hval : ∀ (j : Nat) t v, Try.f7.params[j]? = some t → args[j]? = some v → Value.okWide Try.prog W .any base t v := hval0
  have hW' := hW
  obtain ⟨p, q, hA0, hV, rfl, hfz, hnd⟩ := hW
  have hA : DataW.TrodAll enc Try.prog W 0 (fun _ => true) true Try.f7.params.toList args.toList ds p := hA0
  rw [Try.params7] at hA hval hsz
  obtain ⟨v0, vs0, d0, ds0, p0, q0, hargs, rfl, rfl, h0, r0⟩ := trodAll_cons hA
  obtain ⟨v1, vs1, d1, ds1, p1, q1, rfl, rfl, rfl, h1, r1⟩ := trodAll_cons r0
  obtain ⟨v2, vs2, d2, ds2, p2, q2, rfl, rfl, rfl, h2, r2⟩ := trodAll_cons r1
  obtain ⟨v3, vs3, d3, ds3, p3, q3, rfl, rfl, rfl, h3, r3⟩ := trodAll_cons r2
  obtain ⟨rfl, rfl, rfl⟩ := trodAll_nil r3
  obtain rfl : args = #[v0, v1, v2, v3] := by cases args; simp_all
  obtain ⟨rfl, rfl⟩ := trodVars_none hV
  have k0 := h0
  have lt0 : ∀ x ∈ p0, x.block < W.heap.size := by obtain ⟨m, hm⟩ := k0; exact DataW.trod_lt m _ _ _ hm
  obtain ⟨a0, len0, cap0, rfl⟩ := okWide_slice Try.underlying28 (hval 0 28 v0 rfl rfl)
  obtain ⟨x0, ri0, rr0, lc0, hd0⟩ := open_RL Try.underlying28 Try.underlying22 Try.underlying5 (by kernel_rfl) (by kernel_rfl) h0
  have bd0 : len0 ≤ 5864062014805 := by
    rcases hd0 with ⟨h, _⟩ | ⟨el, sp, hd, hl⟩
    · omega
    · subst hd
      have := sized_slice hsz (j := 0) (t := 28) (e := 22) rfl rfl Try.underlying28
      rw [show Try.prog.bytesOf 22 = 24 by kernel_rfl] at this
      simp only [reachBytes] at this
      omega
  have k1 := h1
  have lt1 : ∀ x ∈ p1, x.block < W.heap.size := by obtain ⟨m, hm⟩ := k1; exact DataW.trod_lt m _ _ _ hm
  obtain ⟨x1, rfl, rfl, rfl, wx1⟩ := open_int Try.underlying3 (hval 1 3 v1 rfl rfl) h1
  have rr1 := bounds_i64 wx1
  have k2 := h2
  have lt2 : ∀ x ∈ p2, x.block < W.heap.size := by obtain ⟨m, hm⟩ := k2; exact DataW.trod_lt m _ _ _ hm
  obtain ⟨x2, rfl, rfl, rfl, wx2⟩ := open_int Try.underlying3 (hval 2 3 v2 rfl rfl) h2
  have rr2 := bounds_i64 wx2
  have k3 := h3
  have lt3 : ∀ x ∈ p3, x.block < W.heap.size := by obtain ⟨m, hm⟩ := k3; exact DataW.trod_lt m _ _ _ hm
  obtain ⟨x3, rfl, rfl, rfl, wx3⟩ := open_int Try.underlying5 (hval 3 5 v3 rfl rfl) h3
  have rr3 : 0 ≤ x3 ∧ x3 < 256 := by have := bounds_u8 wx3; omega
  clear hA0 hval0 hsz
  refine (keep_FileSees W a0 len0 cap0 x0 ri0 bd0 rr0 lc0 x1 rr1 x2 rr2 x3 rr3).mono fun e W' ⟨he, bel⟩ => ?_
  subst he
  exact ⟨_, rfl, _, _, _, [], _, [], hW', trodAll_mk1 (shut_bool Try.underlying4 _), (trodAll_cons_mk (Below.trod laid_FileSees (by kernel_rfl) (of_decide_eq_true (by kernel_rfl)) k0 bel lt0) (trodAll_cons_mk (Below.trod laid_FileSees (by kernel_rfl) (of_decide_eq_true (by kernel_rfl)) k1 bel lt1) (trodAll_cons_mk (Below.trod laid_FileSees (by kernel_rfl) (of_decide_eq_true (by kernel_rfl)) k2 bel lt2) (trodAll_cons_mk (Below.trod laid_FileSees (by kernel_rfl) (of_decide_eq_true (by kernel_rfl)) k3 bel lt3) trodAll_mk0)))), rfl, bel.frame _, fun h => by cases h⟩

theorem fileSees_holds : Rows.FileSeesSaid :=
  OpenClaim.holds_of_wide 7 Try.f7 rfl rfl rfl rfl rfl rfl rfl ⟨rfl, rfl, rfl, rfl, rfl⟩ rfl rfl rfl rfl rfl (by kernel_rfl) Try.func7 (by kernel_rfl)
    (of_decide_eq_true (by kernel_rfl)) (by unfold Func.isWrapper; first | (rw [if_pos (by decide +kernel)]; kernel_rfl) | (rw [if_neg (by decide +kernel)]; exact ⟨rfl, rfl⟩))
    (fun os started H enc _ => lifted_FileSees os started H enc)
#print axioms fileSees_holds
end Go.Proofs.Ytpgjjndmbkkhiaa
