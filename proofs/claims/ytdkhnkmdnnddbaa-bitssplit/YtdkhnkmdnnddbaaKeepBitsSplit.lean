/- A field may be replaced by two that hold its high and its low bits: the law's call returns true, for every input, and leaves what was there as it was. No condition but that each slice takes at most 2^47 - 4096 bytes. -/
import Derived.Test.YtdkhnkmdnnddbaaKeepFields
import Derived.Test.YtdkhnkmdnnddbaaBitsSplitPure
import Derived.Test.YtdkhnkmdnnddbaaSameBytesK
import Derived.Test.YtdkhnkmdnnddbaaOpen
set_option linter.unusedSimpArgs false
set_option linter.unusedVariables false
namespace Go.Proofs.Ytdkhnkmdnnddbaa
open Go.ChangeShapes Go.WideShapes Go.ChangeAt Go.RowKit Go.Ord Go.Baro

theorem written_pos (pre : List (Int × Int)) (hok : ∀ f ∈ pre ++ [((7 : Int), (93 : Int))], okF f) (hn : pre.length ≤ 300) : 0 < (wrBytes (pre ++ [((7 : Int), (93 : Int))])).length ∧ (wrBytes (pre ++ [((7 : Int), (93 : Int))])).length ≤ 4000 := by
  have h1 := read_written _ [] hok (by simp; omega)
  have h2 := lenF_le _ hok
  rw [h1.2.1, packB_len]
  have h3 : (bitsF (pre ++ [((7 : Int), (93 : Int))])).length = (bitsF pre).length + 7 := by simp [bitsF, bitsV]
  simp at h2
  omega
theorem mask_mod (v : Int) (k : Nat) (h0 : 0 ≤ v) (h1 : v < 2 ^ 60) (hk : k ≤ 60) : bits .and .i64 v (2 ^ k - 1) = v % 2 ^ k := by
  have hp := pow_le (j := k) (k := 60) hk
  exact bits_mask .i64 62 (by decide) wraps_i64 k (by omega) v h0 (by omega)
theorem split_at (l : List (Int × Int)) (i : Nat) (h : i < l.length) : ∃ pre x y post, l = pre ++ (x, y) :: post ∧ pre.length = i ∧ post.length = l.length - (i + 1) :=
  ⟨l.take i, l[i].1, l[i].2, l.drop (i + 1), by rw [← List.drop_eq_getElem_cons h, List.take_append_drop], by simp; omega, by simp⟩

set_option maxHeartbeats 8000000 in
set_option maxRecDepth 100000 in
theorem keep_BitsSplit (w : World) (A0 : Option Addr) (n0 c0 : Nat) (x0 : List Int) (h0 : RI w w.heap.size .i64 A0 n0 x0) (b0 : n0 ≤ 17592186044416) (_ : ∀ x ∈ x0, -9223372036854775808 ≤ x ∧ x ≤ 9223372036854775807) (_ : n0 ≤ c0)
    (A1 : Option Addr) (n1 c1 : Nat) (x1 : List Int) (h1 : RI w w.heap.size .i64 A1 n1 x1) (b1 : n1 ≤ 17592186044416) (_ : ∀ x ∈ x1, -9223372036854775808 ≤ x ∧ x ≤ 9223372036854775807) (_ : n1 ≤ c1)
    (x2 : Int) (r2 : -9223372036854775808 ≤ x2 ∧ x2 ≤ 9223372036854775807) (x3 : Int) (r3 : -9223372036854775808 ≤ x3 ∧ x3 ≤ 9223372036854775807) :
    Calls Try.prog 6 #[.slice A0 n0 c0, .slice A1 n1 c1, .int .i64 x2, .int .i64 x3] w fun e w' => e = .returned (.bool true) ∧ Below w.heap.size w w' := by
  obtain ⟨fs0, hfs0⟩ : ∃ fs, fs = fldsOf (x0.take 30) x1 := ⟨_, rfl⟩
  have hok0 : ∀ f ∈ fs0, okF f := by rw [hfs0]; exact fldsOf_ok _ _
  have hlen0 : fs0.length ≤ 30 := by rw [hfs0, fldsOf_length, List.length_take]; omega
  obtain ⟨fs, hfs⟩ : ∃ fs, fs = fs0 ++ [((7 : Int), (93 : Int))] := ⟨_, rfl⟩
  have hok : ∀ f ∈ fs, okF f := by
    rw [hfs]
    intro f hf
    rcases List.mem_append.1 hf with hf | hf
    · exact hok0 f hf
    · simp at hf; subst hf; exact ⟨by decide, by decide⟩
  have hlen : fs.length = fs0.length + 1 := by rw [hfs]; simp
  have hpos := written_pos fs0 (by rw [← hfs]; exact hok) (by omega)
  rw [← hfs] at hpos
  obtain ⟨hpos1, hpos2⟩ := hpos
  obtain ⟨i, hi⟩ := Int.eq_ofNat_of_zero_le (Int.emod_nonneg x2 (b := ((fs0.length : Int) + 1)) (by omega))
  have hil : i < fs.length := by
    have := Int.emod_lt_of_pos x2 (b := ((fs0.length : Int) + 1)) (by omega)
    omega
  obtain ⟨pre, W, V, post, hsp, hpre, hpost⟩ := split_at fs i hil
  have hW := hok (W, V) (by rw [hsp]; simp)
  obtain ⟨⟨hW0, hW1⟩, hV0, hV1⟩ := hW
  dsimp only at hW0 hW1 hV0 hV1
  obtain ⟨wd, rfl⟩ := Int.eq_ofNat_of_zero_le hW0
  rw [Int.toNat_natCast] at hV1
  obtain ⟨k, hk⟩ := Int.eq_ofNat_of_zero_le (Int.emod_nonneg x3 (b := ((wd : Int) + 1)) (by omega))
  have hkl : k ≤ wd := by
    have := Int.emod_lt_of_pos x3 (b := ((wd : Int) + 1)) (by omega)
    omega
  obtain ⟨low, rfl⟩ : ∃ low, wd = k + low := ⟨wd - k, by omega⟩
  rw [Int.natCast_add] at hk
  have hcut := cut_written pre post k low V (by rw [← hsp]; exact hok) (by omega)
  rw [← hsp] at hcut
  have HFS0 := Lib.hid hfs0
  have HFS := Lib.hid hfs
  have HSP := Lib.hid hsp
  have HI := Lib.hid hi
  have HK := Lib.hid hk
  have HCUT := Lib.hid hcut
  have hp := pow_le (j := k + low) (k := 60) (by omega)
  have hpl := pow_le (j := low) (k := 60) (by omega)
  have hpl0 : (0 : Int) < 2 ^ low := Int.pow_pos (by decide)
  have HM := Lib.hid (mask_mod V low hV0 (by omega) (by omega))
  clear hfs0 hok0 hfs hok hi hk hcut hsp
  go_enter Try.func6, Try.ntmps6
  go_wp2_with fail
  refine (keep_FieldsOf x0 x1 _ _ _ _ _ _ 30 _ h0 h1 (by omega) (by omega) (by omega)).mono ?_
  rintro e w1 ⟨v1, v2, rfl, hof, how, hbel1⟩
  rw [← HFS0.out] at hof how
  obtain ⟨Z, kz, rfl, _⟩ := own_form how
  clear how
  go_wp2_with (first
    | (at_builtin; refine app_lit eltField w1 rfl (.tmp 25) (.tmp 27) rfl w.heap.size _ _ _ rfl (by exact hof) 1 [_, _] _ rfl rfl rfl (one2 _ _ _ _) (by omega) (by omega) hbel1.size ?_; intro u2 w2 hu2 hgr2 hbel2 hsz2; obtain ⟨g, cp, rfl, hbg, hgl, hcp⟩ := own_some hu2 (by omega)))
  have hR : RF w2 w2.heap.size (some ⟨g, 0, none⟩) (fs0.length + 1) fs := by
    have := Rd.of_own hu2
    unfold RF
    rw [HFS.out, cellsF_append]
    exact this
  have hbelA : Below w.heap.size w w2 := hbel2 w hbel1
  clear hu2 hof hgr2 hbel1 hbel2
  obtain ⟨b, o, x, y, hbo, _, hcx, hcy, HXY, _⟩ := hR.val (show i < fs0.length + 1 by omega)
  injection hbo with hbo
  injection hbo with hbo hbo'
  subst hbo hbo'
  obtain ⟨hx, hy⟩ : x = ((k + low : Nat) : Int) ∧ y = V := by
    have := HXY.out
    rw [HSP.out, ← hpre, List.getElem?_append_right (Nat.le_refl _), Nat.sub_self, List.getElem?_cons_zero] at this
    simp only [Option.some.injEq, Prod.mk.injEq] at this
    exact ⟨this.1.symm, this.2.symm⟩
  subst hx hy
  rw [Nat.zero_add] at hcx hcy
  go_wp2_with (first
    | (go_at_call 15; refine (keep_Picked _ _ _ (by omega) (by omega)).mono ?_; rintro e w' ⟨rfl, rfl⟩; first | rw [HI.out] | rw [HK.out]))
  rw [show (k : Int) + low - k = low by omega]
  refine region_first [0, 1, 2, 4, 5, 6, 7, 8, 9, 10, 11, 12, 13, 14, 15, 16, 17, 18, 19, 20, 21, 22, 23] (.fork 3 (.cons 24 (seq [25, 26] .nil)) 24 (.cons 3 (seq [25, 26] .nil))) (by kernel_rfl) (by kernel_rfl) ?_
  simp only [pick, List.map_cons, List.map_nil, List.getD_cons_zero, List.getD_cons_succ]
  go_wp2
  rw [HM.out]
  have hR2 : RF w2.drew w2.heap.size (some ⟨g, 0, none⟩) (fs0.length + 1) fs := hR.heap rfl
  rw [HSP.out] at hR2
  have hP2 := hR2.fst
  rw [hpre] at hP2
  have hPw : Rd w2 w2.heap.size 2 (some ⟨g, 0, none⟩) i (cellsF pre) := Rd.heap hP2 rfl
  have four : ∀ u ∈ [Value.int .i64 k, .int .i64 (y / 2 ^ low), .int .i64 low, .int .i64 (y % 2 ^ low)], u.oneCell' = true := by
    intro u hu; simp only [List.mem_cons, List.not_mem_nil, or_false] at hu; rcases hu with rfl | rfl | rfl | rfl <;> rfl
  have hS : ∀ A : Option Addr, (A = some ⟨g, (i + 1) * 2, none⟩ ∨ fs0.length - i = 0) → Rd w2 w2.heap.size 2 A (fs0.length - i) (cellsF post) := by
    intro A hA
    have hpl : post.length = fs0.length - i := by omega
    rcases hA with rfl | hA
    · have h3 := hR
      rw [HSP.out, show pre ++ (((k + low : Nat) : Int), y) :: post = (pre ++ [(((k + low : Nat) : Int), y)]) ++ post by simp] at h3
      have h4 := h3.snd (k := i + 1) (by simp; omega)
      rw [hpl, Nat.zero_add] at h4
      exact h4
    · rw [hA] at hpl ⊢
      have : post = [] := List.eq_nil_of_length_eq_zero hpl
      subst this
      exact Rd.nil _ _ _ _
  have HCF : Hid ([] ++ cellsF pre ++ [Value.int .i64 k, .int .i64 (y / 2 ^ low), .int .i64 low, .int .i64 (y % 2 ^ low)] ++ cellsF post = cellsF (cutF pre k low y post)) := by
    refine Lib.hid ?_
    simp [cutF, cellsF]
  refine ord_fork (by kernel_rfl) ?_ ?_
  · simp only [pick, List.map_cons, List.map_nil, List.getD_cons_zero, List.getD_cons_succ]
    go_wp2_with (at_builtin; refine app_src eltField w2.drew rfl (.const (.slice none 0 0)) (.tmp 50) rfl w2.heap.size _ 0 [] rfl (World.ownsRow_nil _ _ _ _) _ _ _ _ rfl _ (by exact hP2) (one_cellsF _) (by omega) (by omega) (Nat.le_refl _) ?_; intro u3 w3 hu3 hgr3 hbel3 hsz3)
    have hbelQ3 : Below w2.heap.size w2 w3 := hbel3 w2 (Below.refl _ _).drew
    refine ⟨hbelQ3.block, ?_⟩
    refine ord_call (by kernel_rfl) ?_
    simp only [pick, List.map_cons, List.map_nil, List.getD_cons_zero, List.getD_cons_succ]
    go_wp2
    refine ⟨ext_below ((Below.refl _ _).alloc (Nat.le_refl _) _), ?_⟩
    refine ord_last [25, 26] (by kernel_rfl) ?_
    simp only [pick, List.map_cons, List.map_nil, List.getD_cons_zero, List.getD_cons_succ]
    go_wp2_with (first
      | (at_builtin; refine app_lit eltField w3 rfl (.tmp 51) (.tmp 72) rfl w2.heap.size _ _ _ rfl (by exact hu3) 2 [_, _, _, _] _ rfl rfl rfl four (by omega) (by omega) hsz3 ?_; intro u4 w4 hu4 hgr4 hbel4 hsz4; have hbelQ : Below w2.heap.size w2 w4 := hbel4 w2 hbelQ3; clear hu3 hgr3 hbel3 hsz3 hgr4 hbel4 hbelQ3)
      | (at_builtin; refine app_src eltField w4 rfl (.tmp 74) (.tmp 78) rfl w2.heap.size _ _ _ rfl (by exact hu4) _ _ _ _ rfl _ (by exact Rd.below (hS _ (by first | exact .inl rfl | (split <;> first | exact .inl rfl | exact .inr (by omega)))) hbelQ) (one_cellsF _) (by omega) (by omega) hsz4 ?_; intro u5 w5 hu5 hgr5 hbel5 hsz5; obtain ⟨N, hu5b, hN⟩ := own_count hu5; have hNb : N ≤ 100 := (by omega); clear hN hu5; obtain ⟨U, ku, rfl, hku⟩ := own_form hu5b))
    all_goals (
      have hbelR : Below w2.heap.size w2 w5 := hbel5 w2 hbelQ
      have hX5 : RF w5 w5.heap.size (some ⟨g, 0, none⟩) (fs0.length + 1) fs := (hR.below hbelR).more hbelR.size
      have h9 := Rd.of_own hu5b
      rw [HCF.out] at h9
      have hY5 : RF w5 w5.heap.size U _ (cutF pre k low y post) := h9
      clear h9
      have hbelS : Below w.heap.size w w5 := hbelA.trans (hbelR.mono hbelA.size)
      clear hu5b hu4 hbel5 hbelQ hgr5 hbelR
      refine (bits_Write fs _ _ _ _ hX5 (by omega)).mono ?_
      rintro e w6 ⟨v6, rfl, ho6, hbel6⟩
      rw [HCUT.out.1]
      obtain ⟨P6, k6, rfl, _⟩ := own_form ho6
      have hP6 : RI w6 w6.heap.size .u8 P6 _ (wrBytes fs) := Rd.of_own ho6
      have hY6 := (hY5.below hbel6).more hbel6.size
      have hbelT : Below w.heap.size w w6 := hbelS.trans (hbel6.mono hbelS.size)
      clear ho6 hbel6 hY5 hX5 hbelS
      go_wp2_with fail
      refine (bits_Write (cutF pre k low y post) _ _ _ _ hY6 (by omega)).mono ?_
      rintro e w7 ⟨v7, rfl, ho7, hbel7⟩
      rw [HCUT.out.2.1]
      rw [HCUT.out.2.2] at ho7
      obtain ⟨P7, k7, rfl, _⟩ := own_form ho7
      have hP7 : RI w7 w7.heap.size .u8 P7 _ (wrBytes fs) := Rd.of_own ho7
      have hP6b := (hP6.below hbel7).more hbel7.size
      have hbelU : Below w.heap.size w w7 := hbelT.trans (hbel7.mono hbelT.size)
      clear ho7 hbel7 hP6 hY6 hbelT
      go_wp2_with (go_at_call 16; refine (keep_sameBytes _ _ _ _ _ _ _ _ _ _ _ true hP6b hP7 (by simp) (by omega) (by omega)).mono ?_; rintro e w' ⟨rfl, m, rfl⟩)
      go_ret
      exact ⟨rfl, hbelU.drewN m⟩)
  · simp only [pick, List.map_cons, List.map_nil, List.getD_cons_zero, List.getD_cons_succ]
    go_wp2
    have hbelQ3 : Below w2.heap.size w2 ((w2.alloc (.cells #[Value.int .i64 k, .int .i64 (y / 2 ^ low), .int .i64 low, .int .i64 (y % 2 ^ low)] 37)).drew) := ((Below.refl _ _).alloc (Nat.le_refl _) _).drew
    have hL3 : Rd ((w2.alloc (.cells #[Value.int .i64 k, .int .i64 (y / 2 ^ low), .int .i64 low, .int .i64 (y % 2 ^ low)] 37)).drew) ((w2.alloc (.cells #[Value.int .i64 k, .int .i64 (y / 2 ^ low), .int .i64 low, .int .i64 (y % 2 ^ low)] 37)).drew).heap.size 2 (some ⟨w2.heap.size, 0, none⟩) 2 [Value.int .i64 k, .int .i64 (y / 2 ^ low), .int .i64 low, .int .i64 (y % 2 ^ low)] := Rd.heap (Rd.lit w2 _ rfl) rfl
    refine ⟨hbelQ3.block, ?_⟩
    refine ord_call (by kernel_rfl) ?_
    simp only [pick, List.map_cons, List.map_nil, List.getD_cons_zero, List.getD_cons_succ]
    obtain ⟨w9, hw9⟩ : ∃ w9, w9 = ((w2.alloc (.cells #[Value.int .i64 k, .int .i64 (y / 2 ^ low), .int .i64 low, .int .i64 (y % 2 ^ low)] 37)).drew) := ⟨_, rfl⟩
    rw [← hw9] at hL3 hbelQ3 ⊢
    clear hw9
    go_wp2_with (at_builtin; refine app_src eltField w9 rfl (.const (.slice none 0 0)) (.tmp 50) rfl w9.heap.size _ 0 [] rfl (World.ownsRow_nil _ _ _ _) _ _ _ _ rfl _ (by exact Rd.below hPw hbelQ3) (one_cellsF _) (by omega) (by omega) (Nat.le_refl _) ?_; intro u3 w3 hu3 hgr3 hbel3 hsz3)
    refine ⟨ext_below (hbel3 _ (Below.refl _ _)), ?_⟩
    refine ord_last [25, 26] (by kernel_rfl) ?_
    simp only [pick, List.map_cons, List.map_nil, List.getD_cons_zero, List.getD_cons_succ]
    go_wp2_with (first
      | (at_builtin; refine app_src eltField w3 rfl (.tmp 51) (.tmp 72) rfl w2.heap.size _ _ _ rfl (by exact own_more hu3 hbelQ3.size) _ _ _ _ rfl _ (by exact Rd.below hL3 (hbel3 _ (Below.refl _ _))) four (by omega) (by omega) (by have := hbelQ3.size; omega) ?_; intro u4 w4 hu4 hgr4 hbel4 hsz4; have hbelQ : Below w2.heap.size w2 w4 := hbel4 w2 (hbelQ3.trans ((hbel3 _ (Below.refl _ _)).mono hbelQ3.size)); clear hu3 hgr3 hbel3 hsz3 hgr4 hbel4 hbelQ3 hL3)
      | (at_builtin; refine app_src eltField w4 rfl (.tmp 74) (.tmp 78) rfl w2.heap.size _ _ _ rfl (by exact hu4) _ _ _ _ rfl _ (by exact Rd.below (hS _ (by first | exact .inl rfl | (split <;> first | exact .inl rfl | exact .inr (by omega)))) hbelQ) (one_cellsF _) (by omega) (by omega) hsz4 ?_; intro u5 w5 hu5 hgr5 hbel5 hsz5; obtain ⟨N, hu5b, hN⟩ := own_count hu5; have hNb : N ≤ 100 := (by omega); clear hN hu5; obtain ⟨U, ku, rfl, hku⟩ := own_form hu5b))
    all_goals (
      have hbelR : Below w2.heap.size w2 w5 := hbel5 w2 hbelQ
      have hX5 : RF w5 w5.heap.size (some ⟨g, 0, none⟩) (fs0.length + 1) fs := (hR.below hbelR).more hbelR.size
      have h9 := Rd.of_own hu5b
      rw [HCF.out] at h9
      have hY5 : RF w5 w5.heap.size U _ (cutF pre k low y post) := h9
      clear h9
      have hbelS : Below w.heap.size w w5 := hbelA.trans (hbelR.mono hbelA.size)
      clear hu5b hu4 hbel5 hbelQ hgr5 hbelR
      refine (bits_Write fs _ _ _ _ hX5 (by omega)).mono ?_
      rintro e w6 ⟨v6, rfl, ho6, hbel6⟩
      rw [HCUT.out.1]
      obtain ⟨P6, k6, rfl, _⟩ := own_form ho6
      have hP6 : RI w6 w6.heap.size .u8 P6 _ (wrBytes fs) := Rd.of_own ho6
      have hY6 := (hY5.below hbel6).more hbel6.size
      have hbelT : Below w.heap.size w w6 := hbelS.trans (hbel6.mono hbelS.size)
      clear ho6 hbel6 hY5 hX5 hbelS
      go_wp2_with fail
      refine (bits_Write (cutF pre k low y post) _ _ _ _ hY6 (by omega)).mono ?_
      rintro e w7 ⟨v7, rfl, ho7, hbel7⟩
      rw [HCUT.out.2.1]
      rw [HCUT.out.2.2] at ho7
      obtain ⟨P7, k7, rfl, _⟩ := own_form ho7
      have hP7 : RI w7 w7.heap.size .u8 P7 _ (wrBytes fs) := Rd.of_own ho7
      have hP6b := (hP6.below hbel7).more hbel7.size
      have hbelU : Below w.heap.size w w7 := hbelT.trans (hbel7.mono hbelT.size)
      clear ho7 hbel7 hP6 hY6 hbelT
      go_wp2_with (go_at_call 16; refine (keep_sameBytes _ _ _ _ _ _ _ _ _ _ _ true hP6b hP7 (by simp) (by omega) (by omega)).mono ?_; rintro e w' ⟨rfl, m, rfl⟩)
      go_ret
      exact ⟨rfl, hbelU.drewN m⟩)

theorem own_BitsSplit : ownKnob Try.prog.godebug = none := by kernel_rfl
theorem laid_BitsSplit : laidOutB Try.prog = true := by kernel_rfl
set_option maxRecDepth 100000 in
theorem lifted_BitsSplit (os : Os) (started : os.Started) (H : Type) (enc : TypeId × Value → H) :
    ReturnsInHanded {} Try.checked os 6 .any (Rows.bitsSplitSpec.pre6 enc Try.prog Try.f6 Rows.bitsSplitRow.domain false) (Rows.bitsSplitSpec.post enc Try.prog Try.f6 false true false false) := by
  refine returnsInHanded_of_change_sized (C := Try.checked) own_BitsSplit started (by kernel_rfl) Try.func6
    (ChangeSpec.witness6 (enc := enc) (C := Try.checked) false ⟨#[], #[.slice none 0 0, .slice none 0 0, .int .i64 0, .int .i64 0], []⟩ 8 (by kernel_rfl) (by kernel_rfl) (by kernel_rfl) (by kernel_rfl)) ?_
  intro W base args ds gs before hval0 hW hcnd hsz0 _
  have hsz : (DataW.weightsEach Try.prog (Try.f6.params.toList ++ Rows.bitsSplitSpec.plain.varTypes Try.prog) (ds ++ gs)).all (· ≤ reachBytes) = true := hsz0
  clear hsz0
  have hval : ∀ (j : Nat) t v, Try.f6.params[j]? = some t → args[j]? = some v → Value.okWide Try.prog W .any base t v := hval0
  have hW' := hW
  obtain ⟨p, q, hA0, hV, rfl, hfz, hnd⟩ := hW
  have hA : DataW.TrodAll enc Try.prog W 0 (fun _ => true) true Try.f6.params.toList args.toList ds p := hA0
  rw [Try.params6] at hA hval hsz
  obtain ⟨v0, vs0, d0, ds0, p0, q0, hargs, rfl, rfl, h0, r0⟩ := trodAll_cons hA
  obtain ⟨v1, vs1, d1, ds1, p1, q1, rfl, rfl, rfl, h1, r1⟩ := trodAll_cons r0
  obtain ⟨v2, vs2, d2, ds2, p2, q2, rfl, rfl, rfl, h2, r2⟩ := trodAll_cons r1
  obtain ⟨v3, vs3, d3, ds3, p3, q3, rfl, rfl, rfl, h3, r3⟩ := trodAll_cons r2
  obtain ⟨rfl, rfl, rfl⟩ := trodAll_nil r3
  obtain rfl : args = #[v0, v1, v2, v3] := by cases args; simp_all
  obtain ⟨rfl, rfl⟩ := trodVars_none hV
  have k0 := h0
  have lt0 : ∀ x ∈ p0, x.block < W.heap.size := by obtain ⟨m, hm⟩ := k0; exact DataW.trod_lt m _ _ _ hm
  obtain ⟨a0, len0, cap0, rfl⟩ := okWide_slice Try.underlying29 (hval 0 29 v0 rfl rfl)
  obtain ⟨x0, ri0, wx0, lc0, hd0⟩ := open_RI Try.underlying29 Try.underlying3 (by kernel_rfl) h0
  have bd0 : len0 ≤ 17592186044416 := by
    rcases hd0 with ⟨h, _⟩ | ⟨el, sp, hd, hl⟩
    · omega
    · subst hd
      have := sized_slice hsz (j := 0) (t := 29) (e := 3) rfl rfl Try.underlying29
      rw [show Try.prog.bytesOf 3 = 8 by kernel_rfl] at this
      simp only [reachBytes] at this
      omega
  have rr0 : ∀ x ∈ x0, -9223372036854775808 ≤ x ∧ x ≤ 9223372036854775807 := fun x hx => bounds_i64 (wx0 x hx)
  have k1 := h1
  have lt1 : ∀ x ∈ p1, x.block < W.heap.size := by obtain ⟨m, hm⟩ := k1; exact DataW.trod_lt m _ _ _ hm
  obtain ⟨a1, len1, cap1, rfl⟩ := okWide_slice Try.underlying29 (hval 1 29 v1 rfl rfl)
  obtain ⟨x1, ri1, wx1, lc1, hd1⟩ := open_RI Try.underlying29 Try.underlying3 (by kernel_rfl) h1
  have bd1 : len1 ≤ 17592186044416 := by
    rcases hd1 with ⟨h, _⟩ | ⟨el, sp, hd, hl⟩
    · omega
    · subst hd
      have := sized_slice hsz (j := 1) (t := 29) (e := 3) rfl rfl Try.underlying29
      rw [show Try.prog.bytesOf 3 = 8 by kernel_rfl] at this
      simp only [reachBytes] at this
      omega
  have rr1 : ∀ x ∈ x1, -9223372036854775808 ≤ x ∧ x ≤ 9223372036854775807 := fun x hx => bounds_i64 (wx1 x hx)
  have k2 := h2
  have lt2 : ∀ x ∈ p2, x.block < W.heap.size := by obtain ⟨m, hm⟩ := k2; exact DataW.trod_lt m _ _ _ hm
  obtain ⟨x2, rfl, rfl, rfl, wx2⟩ := open_int Try.underlying3 (hval 2 3 v2 rfl rfl) h2
  have rr2 := bounds_i64 wx2
  have k3 := h3
  have lt3 : ∀ x ∈ p3, x.block < W.heap.size := by obtain ⟨m, hm⟩ := k3; exact DataW.trod_lt m _ _ _ hm
  obtain ⟨x3, rfl, rfl, rfl, wx3⟩ := open_int Try.underlying3 (hval 3 3 v3 rfl rfl) h3
  have rr3 := bounds_i64 wx3
  clear hA0 hval0 hsz
  refine (keep_BitsSplit W a0 len0 cap0 x0 ri0 bd0 rr0 lc0 a1 len1 cap1 x1 ri1 bd1 rr1 lc1 x2 rr2 x3 rr3).mono fun e W' ⟨he, bel⟩ => ?_
  subst he
  exact ⟨_, rfl, _, _, _, [], _, [], hW', trodAll_mk1 (shut_bool Try.underlying4 _), (trodAll_cons_mk (Below.trod laid_BitsSplit (by kernel_rfl) (of_decide_eq_true (by kernel_rfl)) k0 bel lt0) (trodAll_cons_mk (Below.trod laid_BitsSplit (by kernel_rfl) (of_decide_eq_true (by kernel_rfl)) k1 bel lt1) (trodAll_cons_mk (Below.trod laid_BitsSplit (by kernel_rfl) (of_decide_eq_true (by kernel_rfl)) k2 bel lt2) (trodAll_cons_mk (Below.trod laid_BitsSplit (by kernel_rfl) (of_decide_eq_true (by kernel_rfl)) k3 bel lt3) trodAll_mk0)))), rfl, bel.frame _, fun h => by cases h⟩

theorem bitsSplit_holds : Rows.BitsSplitSaid :=
  OpenClaim.holds_of_wide 6 Try.f6 rfl rfl rfl rfl rfl rfl rfl ⟨rfl, rfl, rfl, rfl, rfl⟩ rfl rfl rfl rfl rfl (by kernel_rfl) Try.func6 (by kernel_rfl)
    (of_decide_eq_true (by kernel_rfl)) (by unfold Func.isWrapper; first | (rw [if_pos (by decide +kernel)]; kernel_rfl) | (rw [if_neg (by decide +kernel)]; exact ⟨rfl, rfl⟩))
    (fun os started H enc _ => lifted_BitsSplit os started H enc)
#print axioms bitsSplit_holds
end Go.Proofs.Ytdkhnkmdnnddbaa
