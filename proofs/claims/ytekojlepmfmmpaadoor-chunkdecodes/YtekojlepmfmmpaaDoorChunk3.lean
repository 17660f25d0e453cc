/- What readPair and its fellows do. No statement of the seat is proved here; no condition. -/
import Derived.Test.YtekojlepmfmmpaaDoorChunk1
import Derived.Test.YtekojlepmfmmpaaDoorZigDec4
import Derived.Test.YtekojlepmfmmpaaDoorChunkPure2
import Derived.Laws.Cover3
set_option linter.unusedSimpArgs false
set_option linter.unusedVariables false
namespace Go.Proofs.YtekojlepmfmmpaaDoor
open Go.RowKit Go.Ord Go.Baro

theorem chunk_sizeOf (x : Int) (w : World) (hT : Tab w) (hs : Small x) :
    Calls Tryd.prog 31 #[.int .i64 x] w fun e w' => e = .returned (.int .i64 (zsize (zfold x))) ∧ Below w.heap.size w w' := by
  have HZ := Lib.hid (sz_in hs)
  unfold Small at hs
  go_enter Tryd.func31, Tryd.ntmps31
  go_wp2_with fail
  refine (zig_Size x _ hT (by omega) (by omega)).mono ?_
  rintro e w1 ⟨rfl, hb1⟩
  go_wp2
  go_ret
  exact ⟨ret_int HZ.out.1, hb1⟩

set_option maxHeartbeats 1000000 in
theorem chunk_endsAt (l : List Int) (A : Option Addr) (n c a : Nat) (r : Bool) (w : World) (B : Nat) (hb : RI w B .u8 A n l) (hr : ∀ x ∈ l, 0 ≤ x ∧ x < 256) (hn : n ≤ 140737488355328) (ha : a ≤ 8 * n) (he : r = true ↔ EndB l a) :
    Calls Tryd.prog 32 #[.slice A n c, .int .i64 a] w fun e w' => e = .returned (.bool r) ∧ w = w' := by
  have HL := Lib.hid hb.len
  have HR := Lib.hid hr
  have HE := Lib.hid he
  clear hr he
  by_cases h8 : a % 8 = 0
  · have hb8 : ((a : Int) % 8 == 0) = true := by simp; omega
    have HW := Lib.hid (EndB_whole (l := l) h8)
    go_enter Tryd.func32, Tryd.ntmps32
    go_wp2
    go_ret
    refine ⟨ret_bool ?_, rfl⟩
    have h1 := HE.out
    rw [HW.out, HL.out] at h1
    cases r <;> simp at h1 ⊢ <;> omega
  · have hb8 : ((a : Int) % 8 == 0) = false := by simp; omega
    by_cases hl : n = a / 8 + 1
    · obtain ⟨b, o, x, rfl, _, hcell, HX, hmem⟩ := hb.val (show a / 8 < n by omega)
      have hx := HR.out x hmem
      have HP := Lib.hid (EndB_part HR.out h8 HX.out)
      have hbl : ((n : Int) == (a : Int) / 8 + 1) = true := by simp; omega
      go_enter Tryd.func32, Tryd.ntmps32
      go_wp2
      go_ret
      refine ⟨ret_bool ?_, rfl⟩
      have h1 := HE.out
      rw [HP.out, HL.out] at h1
      cases r with
      | true => simpa using (h1.1 rfl).2
      | false =>
        simp only [Bool.false_eq_true, false_iff] at h1
        simp only [beq_eq_false_iff_ne, ne_eq]
        exact fun h => h1 ⟨hl, h⟩
    · have HP := Lib.hid (EndB_short (l := l) h8 (by rw [HL.out]; exact hl))
      have hbl : ((n : Int) == (a : Int) / 8 + 1) = false := by simp; omega
      go_enter Tryd.func32, Tryd.ntmps32
      go_wp2
      go_ret
      refine ⟨ret_bool ?_, rfl⟩
      have h1 := HE.out
      cases r with
      | false => rfl
      | true => exact absurd (h1.1 rfl) HP.out

theorem run_eql_nil {P : Program} (w : World) (t e : TypeId) (a : Option Addr) (l c : Nat) (h : P.underlying t = some (.slice e)) : (binOp .eql t (.slice a l c) (.slice none 0 0)).run P w = .ok (.bool a.isNone) w := by
  simp only [binOp]
  simp [run_equal_slice_nil w t e a l c h]

set_option maxHeartbeats 1000000 in
theorem bytes_Clone (l : List Int) (A : Option Addr) (n c : Nat) (w : World) (hb : RI w w.heap.size .u8 A n l) (hn : n ≤ 140737488355328) :
    Calls Tryd.prog 42 #[.slice A n c] w fun e w' => ∃ v, e = .returned v ∧ w'.ownsRow w.heap.size 5 1 v n (l.map (Value.int .u8)) ∧ Below w.heap.size w w' := by
  have HL := Lib.hid hb.len
  cases A with
  | none =>
    have hn0 : n = 0 := by
      rcases Nat.eq_zero_or_pos n with h0 | h0
      · exact h0
      · obtain ⟨b, q, hA, _⟩ := Rd.at_ hb h0; cases hA
    subst hn0
    have hl : l = [] := List.eq_nil_of_length_eq_zero HL.out
    subst hl
    have hnil := run_eql_nil w _ _ none 0 c Tryd.underlying23
    go_enter Tryd.func42, Tryd.ntmps42
    go_wp2
    go_ret
    exact ⟨_, rfl, World.ownsRow_nil _ _ _ _, Below.refl _ _⟩
  | some ad =>
    have hnil := run_eql_nil w _ _ (some ad) n c Tryd.underlying23
    go_enter Tryd.func42, Tryd.ntmps42
    go_wp2_with (at_builtin; go_must (refine app_src eltByte _ rfl _ _ rfl w.heap.size _ 0 [] rfl (World.ownsRow_lit w #[] 0 (Nat.le_refl _) (by unfold maxLen; omega) rfl) (some ad) n c (l.map (Value.int .u8)) rfl _ (RI.below hb ((Below.refl _ _).alloc (Nat.le_refl _) _)) (one_ints _ _) (by omega) (by omega) (by simp) ?_); intro v3 w3 hown3 hgr3 hbel3 _)
    go_ret
    refine ⟨_, rfl, ?_, hbel3 _ ((Below.refl _ _).alloc (Nat.le_refl _) _)⟩
    simpa using hown3

theorem mask_go (x : Int) (h0 : 0 ≤ x) (h1 : x < 256) (s : Nat) (hs : s < 8) : bits .and .u8 x (255 / 2 ^ s) = x % 2 ^ (8 - s) := by
  have h255 : ∀ s < 8, (255 : Int) / 2 ^ s = 2 ^ (8 - s) - 1 := by decide
  rw [h255 s hs]
  exact bits_mask .u8 8 (by decide) wraps_u8 (8 - s) (by omega) x h0 h1
theorem at_pair (s : Nat) (x y : Int) : ((List.replicate s (0 : Int) ++ [x, y]).map (Value.int .i64))[s]? = some (.int .i64 x) ∧ ((List.replicate s (0 : Int) ++ [x, y]).map (Value.int .i64))[s + 1]? = some (.int .i64 y) := by
  constructor
  · rw [List.getElem?_map, List.getElem?_append_right (by simp)]
    simp
  · rw [List.getElem?_map, List.getElem?_append_right (by simp)]
    simp

set_option maxHeartbeats 2000000 in
theorem chunk_readPair (l : List Int) (A : Option Addr) (n c a : Nat) (w : World) (hT : Tab w) (hb : RI w w.heap.size .u8 A n l) (hr : ∀ x ∈ l, 0 ≤ x ∧ x < 256) (hn : n ≤ 140737488355328) (hnc : n ≤ c) (h0 : 0 < n)
    (ha : a ≤ 8 * n) :
    Calls Tryd.prog 29 #[.slice A n c, .int .i64 a] w fun e w' => e = .returned (.tuple #[.int .i64 (zTwo l a).1, .int .i64 (zTwo l a).2.1, .int .i64 (zTwo l a).2.2.2]) ∧ Below w.heap.size w w' := by
  have HL := Lib.hid hb.len
  have hlt := hT.lt
  have HR := Lib.hid hr
  have hW := win_two hr a (by rw [HL.out]; exact ha)
  clear hr
  obtain ⟨⟨X, Y, E, K⟩, hZ⟩ : ∃ Z, Z = zTwo l a := ⟨_, rfl⟩
  have HER := Lib.hid (show K ≠ 0 → X = 0 ∧ Y = 0 from fun h => by
    have := zTwo_err (l := l) (a := a) (by rw [← hZ]; exact h)
    rw [← hZ] at this
    exact this)
  rw [← hZ] at hW ⊢
  dsimp only at hW ⊢
  have HW := Lib.hid hW
  clear hW hZ
  obtain ⟨b, o, rfl, hbb, hcell⟩ := Rd.at_ hb h0
  clear hcell
  rcases Nat.lt_or_ge (a / 8) c with hc | hc
  · have hcn : (c - a / 8 == 0) = false := by simp; omega
    by_cases hm : n ≤ a / 8 + 17
    · have hwin : RI w w.heap.size .u8 (some ⟨b, o + a / 8, none⟩) (n - a / 8) ((l.drop (a / 8)).take 17) := by
        rw [List.take_of_length_le (by rw [List.length_drop, HL.out]; omega)]
        exact ri_drop hb (by omega)
      go_enter Tryd.func29, Tryd.ntmps29
      go_wp2_with fail
      refine (bytes_Clone ((l.drop (a / 8)).take 17) _ _ _ _ hwin (by omega)).mono ?_
      rintro e w1 ⟨v1, rfl, hown1, hb1⟩
      have hbel1 : Below w.heap.size w w1 := hb1
      have hsz1 := hbel1.size
      by_cases hs : a % 8 = 0
      · have hsb : ((a : Int) % 8) = 0 := by omega
        have HW0 : Hid (dcC (winB l (a / 8) (a % 8)) 2 = K ∧ (K = 0 → dcY (winB l (a / 8) (a % 8)) 2 = List.replicate 0 0 ++ [X, Y])) := by
          have h := HW.out
          rw [hsb, Int.zero_add] at h
          rw [hs] at h ⊢
          exact h
        obtain ⟨B1, cp, rfl, hcp⟩ := own_form hown1
        have hri : RI w1 w1.heap.size .u8 B1 (n - a / 8) (winB l (a / 8) (a % 8)) := by
          rw [hs, winB_zero l HR.out]
          exact Rd.of_own hown1
        go_wp2_with fail
        refine (zig_Decode (winB l (a / 8) (a % 8)) _ _ _ _ _ (hT.below hbel1 hlt) hri (winB_range HR.out _ _) (by omega) hcp).mono ?_
        rintro e w2 ⟨v2, rfl, hown2, hb2⟩
        have hbel2 : Below w.heap.size w w2 := hbel1.trans (hb2.mono hbel1.size)
        rw [HW0.out.1]
        by_cases hz : K = 0
        · rw [HW0.out.2 hz] at hown2
          subst hz
          obtain ⟨g2, cp2, rfl, _, _, _⟩ := own_some hown2 (by simp)
          have hx2 := hown2.cellAt 0 (by simp)
          have hy2 := hown2.cellAt 1 (by simp)
          rw [(at_pair _ _ _).1] at hx2
          rw [(at_pair _ _ _).2] at hy2
          simp only [List.length_append, List.length_replicate, List.length_cons, List.length_nil]
          go_wp2
          refine region_two [0, 1, 2, 3, 4, 5, 6, 7, 8, 9, 10, 11] [] (by kernel_rfl) (by kernel_rfl) ?_
          simp only [pick, List.map_cons, List.map_nil, List.getD_cons_zero, List.getD_cons_succ]
          go_wp2
          go_ret3
          exact ⟨rfl, hbel2.drew⟩
        · have hkb : (K != 0) = true := by simp [hz]
          obtain ⟨hX, hY⟩ := HER.out hz
          subst hX hY
          clear hz
          go_wp2
          go_ret3
          exact ⟨rfl, hbel2⟩
      · have hsb : (0 : Int) < (a : Int) % 8 := by omega
        obtain ⟨g, cp, rfl, hg1, hg2, hcp⟩ := own_some hown1 (by omega)
        obtain ⟨x, hcx, HX, hxm⟩ := own_val hown1 (i := 0) (by omega)
        have hx := HR.out x (List.mem_of_mem_drop (List.mem_of_mem_take hxm))
        have hfz := hown1.frozenAt 0
        have hst := World.ownsRow.stored hown1 0 (.int .u8 (x % 2 ^ (8 - a % 8)))
        have HMK := Lib.hid (mask_go x hx.1 hx.2 (a % 8) (Nat.mod_lt _ (by decide)))
        have hownM : (w1.setCell ⟨g, 0, none⟩ (.int .u8 (x % 2 ^ (8 - a % 8)))).ownsRow w.heap.size 5 1 (.slice (some ⟨g, 0, none⟩) (n - a / 8) cp) (n - a / 8) ((winB l (a / 8) (a % 8)).map (Value.int .u8)) := by
          have := hst.1
          rw [← List.map_set] at this
          unfold winB
          rw [HX.out, Option.getD_some]
          exact this
        have hbelM : Below w.heap.size w (w1.setCell ⟨g, 0, none⟩ (.int .u8 (x % 2 ^ (8 - a % 8)))).drew := (hbel1.setCell hg1 _).drew
        have hTm := hT.below hbelM hlt
        have hri : RI (w1.setCell ⟨g, 0, none⟩ (.int .u8 (x % 2 ^ (8 - a % 8)))).drew (w1.setCell ⟨g, 0, none⟩ (.int .u8 (x % 2 ^ (8 - a % 8)))).drew.heap.size .u8 (some ⟨g, 0, none⟩) (n - a / 8) (winB l (a / 8) (a % 8)) := Rd.of_own hownM
        clear hst
        go_wp2
        refine region_two [0, 1, 2, 3, 4, 5, 6] [7] (by kernel_rfl) (by kernel_rfl) ?_
        simp only [pick, List.map_cons, List.map_nil, List.getD_cons_zero, List.getD_cons_succ]
        go_wp2_with fail
        rw [HMK.out]
        refine (zig_Decode (winB l (a / 8) (a % 8)) _ _ _ _ _ (hTm) hri (winB_range HR.out _ _) (by omega) hcp).mono ?_
        rintro e w2 ⟨v2, rfl, hown2, hb2⟩
        have hbel2 : Below w.heap.size w w2 := hbelM.trans (hb2.mono hbelM.size)
        rw [HW.out.1]
        by_cases hz : K = 0
        · rw [HW.out.2 hz] at hown2
          subst hz
          obtain ⟨g2, cp2, rfl, _, _, _⟩ := own_some hown2 (by simp)
          have hx2 := hown2.cellAt (a % 8) (by simp)
          have hy2 := hown2.cellAt (a % 8 + 1) (by simp)
          rw [(at_pair _ _ _).1] at hx2
          rw [(at_pair _ _ _).2] at hy2
          simp only [List.length_append, List.length_replicate, List.length_cons, List.length_nil]
          go_wp2
          refine region_two [0, 1, 2, 3, 4, 5, 6, 7, 8, 9, 10, 11] [] (by kernel_rfl) (by kernel_rfl) ?_
          simp only [pick, List.map_cons, List.map_nil, List.getD_cons_zero, List.getD_cons_succ]
          go_wp2
          go_ret3
          exact ⟨rfl, hbel2.drew⟩
        · have hkb : (K != 0) = true := by simp [hz]
          obtain ⟨hX, hY⟩ := HER.out hz
          subst hX hY
          clear hz
          go_wp2
          go_ret3
          exact ⟨rfl, hbel2⟩
    · have hwin : RI w w.heap.size .u8 (some ⟨b, o + a / 8, none⟩) 17 ((l.drop (a / 8)).take 17) := RI.take (ri_drop hb (by omega)) (by omega)
      go_enter Tryd.func29, Tryd.ntmps29
      go_wp2_with fail
      refine (bytes_Clone ((l.drop (a / 8)).take 17) _ _ _ _ hwin (by omega)).mono ?_
      rintro e w1 ⟨v1, rfl, hown1, hb1⟩
      have hbel1 : Below w.heap.size w w1 := hb1
      have hsz1 := hbel1.size
      by_cases hs : a % 8 = 0
      · have hsb : ((a : Int) % 8) = 0 := by omega
        have HW0 : Hid (dcC (winB l (a / 8) (a % 8)) 2 = K ∧ (K = 0 → dcY (winB l (a / 8) (a % 8)) 2 = List.replicate 0 0 ++ [X, Y])) := by
          have h := HW.out
          rw [hsb, Int.zero_add] at h
          rw [hs] at h ⊢
          exact h
        obtain ⟨B1, cp, rfl, hcp⟩ := own_form hown1
        have hri : RI w1 w1.heap.size .u8 B1 (17) (winB l (a / 8) (a % 8)) := by
          rw [hs, winB_zero l HR.out]
          exact Rd.of_own hown1
        go_wp2_with fail
        refine (zig_Decode (winB l (a / 8) (a % 8)) _ _ _ _ _ (hT.below hbel1 hlt) hri (winB_range HR.out _ _) (by omega) hcp).mono ?_
        rintro e w2 ⟨v2, rfl, hown2, hb2⟩
        have hbel2 : Below w.heap.size w w2 := hbel1.trans (hb2.mono hbel1.size)
        rw [HW0.out.1]
        by_cases hz : K = 0
        · rw [HW0.out.2 hz] at hown2
          subst hz
          obtain ⟨g2, cp2, rfl, _, _, _⟩ := own_some hown2 (by simp)
          have hx2 := hown2.cellAt 0 (by simp)
          have hy2 := hown2.cellAt 1 (by simp)
          rw [(at_pair _ _ _).1] at hx2
          rw [(at_pair _ _ _).2] at hy2
          simp only [List.length_append, List.length_replicate, List.length_cons, List.length_nil]
          go_wp2
          refine region_two [0, 1, 2, 3, 4, 5, 6, 7, 8, 9, 10, 11] [] (by kernel_rfl) (by kernel_rfl) ?_
          simp only [pick, List.map_cons, List.map_nil, List.getD_cons_zero, List.getD_cons_succ]
          go_wp2
          go_ret3
          exact ⟨rfl, hbel2.drew⟩
        · have hkb : (K != 0) = true := by simp [hz]
          obtain ⟨hX, hY⟩ := HER.out hz
          subst hX hY
          clear hz
          go_wp2
          go_ret3
          exact ⟨rfl, hbel2⟩
      · have hsb : (0 : Int) < (a : Int) % 8 := by omega
        obtain ⟨g, cp, rfl, hg1, hg2, hcp⟩ := own_some hown1 (by omega)
        obtain ⟨x, hcx, HX, hxm⟩ := own_val hown1 (i := 0) (by omega)
        have hx := HR.out x (List.mem_of_mem_drop (List.mem_of_mem_take hxm))
        have hfz := hown1.frozenAt 0
        have hst := World.ownsRow.stored hown1 0 (.int .u8 (x % 2 ^ (8 - a % 8)))
        have HMK := Lib.hid (mask_go x hx.1 hx.2 (a % 8) (Nat.mod_lt _ (by decide)))
        have hownM : (w1.setCell ⟨g, 0, none⟩ (.int .u8 (x % 2 ^ (8 - a % 8)))).ownsRow w.heap.size 5 1 (.slice (some ⟨g, 0, none⟩) (17) cp) (17) ((winB l (a / 8) (a % 8)).map (Value.int .u8)) := by
          have := hst.1
          rw [← List.map_set] at this
          unfold winB
          rw [HX.out, Option.getD_some]
          exact this
        have hbelM : Below w.heap.size w (w1.setCell ⟨g, 0, none⟩ (.int .u8 (x % 2 ^ (8 - a % 8)))).drew := (hbel1.setCell hg1 _).drew
        have hTm := hT.below hbelM hlt
        have hri : RI (w1.setCell ⟨g, 0, none⟩ (.int .u8 (x % 2 ^ (8 - a % 8)))).drew (w1.setCell ⟨g, 0, none⟩ (.int .u8 (x % 2 ^ (8 - a % 8)))).drew.heap.size .u8 (some ⟨g, 0, none⟩) (17) (winB l (a / 8) (a % 8)) := Rd.of_own hownM
        clear hst
        go_wp2
        refine region_two [0, 1, 2, 3, 4, 5, 6] [7] (by kernel_rfl) (by kernel_rfl) ?_
        simp only [pick, List.map_cons, List.map_nil, List.getD_cons_zero, List.getD_cons_succ]
        go_wp2_with fail
        rw [HMK.out]
        refine (zig_Decode (winB l (a / 8) (a % 8)) _ _ _ _ _ (hTm) hri (winB_range HR.out _ _) (by omega) hcp).mono ?_
        rintro e w2 ⟨v2, rfl, hown2, hb2⟩
        have hbel2 : Below w.heap.size w w2 := hbelM.trans (hb2.mono hbelM.size)
        rw [HW.out.1]
        by_cases hz : K = 0
        · rw [HW.out.2 hz] at hown2
          subst hz
          obtain ⟨g2, cp2, rfl, _, _, _⟩ := own_some hown2 (by simp)
          have hx2 := hown2.cellAt (a % 8) (by simp)
          have hy2 := hown2.cellAt (a % 8 + 1) (by simp)
          rw [(at_pair _ _ _).1] at hx2
          rw [(at_pair _ _ _).2] at hy2
          simp only [List.length_append, List.length_replicate, List.length_cons, List.length_nil]
          go_wp2
          refine region_two [0, 1, 2, 3, 4, 5, 6, 7, 8, 9, 10, 11] [] (by kernel_rfl) (by kernel_rfl) ?_
          simp only [pick, List.map_cons, List.map_nil, List.getD_cons_zero, List.getD_cons_succ]
          go_wp2
          go_ret3
          exact ⟨rfl, hbel2.drew⟩
        · have hkb : (K != 0) = true := by simp [hz]
          obtain ⟨hX, hY⟩ := HER.out hz
          subst hX hY
          clear hz
          go_wp2
          go_ret3
          exact ⟨rfl, hbel2⟩
  · have hca : c = a / 8 := by omega
    have hna : n = a / 8 := by omega
    subst hca
    subst hna
    have hwin : RI w w.heap.size .u8 (some ⟨b, o, none⟩) 0 ((l.drop (a / 8)).take 17) := by
      rw [List.drop_eq_nil_of_le (by rw [HL.out]; omega)]
      exact RI.nil _ _ _ _
    have hs0 : a % 8 = 0 := by omega
    go_enter Tryd.func29, Tryd.ntmps29
    go_wp2_with fail
    refine (bytes_Clone ((l.drop (a / 8)).take 17) _ _ _ _ hwin (by omega)).mono ?_
    rintro e w1 ⟨v1, rfl, hown1, hb1⟩
    have hbel1 : Below w.heap.size w w1 := hb1
    have hsz1 := hbel1.size
    by_cases hs : a % 8 = 0
    · have hsb : ((a : Int) % 8) = 0 := by omega
      have HW0 : Hid (dcC (winB l (a / 8) (a % 8)) 2 = K ∧ (K = 0 → dcY (winB l (a / 8) (a % 8)) 2 = List.replicate 0 0 ++ [X, Y])) := by
        have h := HW.out
        rw [hsb, Int.zero_add] at h
        rw [hs] at h ⊢
        exact h
      obtain ⟨B1, cp, rfl, hcp⟩ := own_form hown1
      have hri : RI w1 w1.heap.size .u8 B1 (0) (winB l (a / 8) (a % 8)) := by
        rw [hs, winB_zero l HR.out]
        exact Rd.of_own hown1
      go_wp2_with fail
      refine (zig_Decode (winB l (a / 8) (a % 8)) _ _ _ _ _ (hT.below hbel1 hlt) hri (winB_range HR.out _ _) (by omega) hcp).mono ?_
      rintro e w2 ⟨v2, rfl, hown2, hb2⟩
      have hbel2 : Below w.heap.size w w2 := hbel1.trans (hb2.mono hbel1.size)
      rw [HW0.out.1]
      by_cases hz : K = 0
      · rw [HW0.out.2 hz] at hown2
        subst hz
        obtain ⟨g2, cp2, rfl, _, _, _⟩ := own_some hown2 (by simp)
        have hx2 := hown2.cellAt 0 (by simp)
        have hy2 := hown2.cellAt 1 (by simp)
        rw [(at_pair _ _ _).1] at hx2
        rw [(at_pair _ _ _).2] at hy2
        simp only [List.length_append, List.length_replicate, List.length_cons, List.length_nil]
        go_wp2
        refine region_two [0, 1, 2, 3, 4, 5, 6, 7, 8, 9, 10, 11] [] (by kernel_rfl) (by kernel_rfl) ?_
        simp only [pick, List.map_cons, List.map_nil, List.getD_cons_zero, List.getD_cons_succ]
        go_wp2
        go_ret3
        exact ⟨rfl, hbel2.drew⟩
      · have hkb : (K != 0) = true := by simp [hz]
        obtain ⟨hX, hY⟩ := HER.out hz
        subst hX hY
        clear hz
        go_wp2
        go_ret3
        exact ⟨rfl, hbel2⟩
    · exact absurd hs0 hs
end Go.Proofs.YtekojlepmfmmpaaDoor
