/- What Decode does. No statement of the seat is proved here; no condition. -/
import Derived.Test.YtekojlepmfmmpaaDoorZigDec3
set_option linter.unusedSimpArgs false
set_option linter.unusedVariables false
namespace Go.Proofs.YtekojlepmfmmpaaDoor
open Go.RowKit Go.Ord Go.Baro

/-- What Decode leaves. -/
def DecPost (l : List Int) (k : Int) (w : World) (e : Ending) (w' : World) : Prop :=
  ∃ v, e = .returned (.tuple #[v, .int .i64 (dcC l k)]) ∧ w'.ownsRow w.heap.size 3 1 v (dcY l k).length ((dcY l k).map (Value.int .i64)) ∧ Below w.heap.size w w'
theorem dec_bad {l : List Int} {k e : Int} {w w' : World} (h : dcC l k = e) (he : e ≠ 0) (hb : Below w.heap.size w w') : DecPost l k w (.returned (.tuple #[.slice none 0 0, .int .i64 e])) w' := by
  have hy : dcY l k = [] := by
    unfold dcY
    split
    · rename_i hk
      apply decL_err
      rw [dcC, if_pos hk] at h
      rw [h]; exact he
    · rfl
  refine ⟨_, by rw [h], ?_, hb⟩
  rw [hy]
  exact World.ownsRow_nil _ _ _ _

theorem zig_readCodeI (l : List Int) (A : Option Addr) (n c a : Nat) (a' : Int) (w : World) (he : a' = a) (hT : Tab w) (hb : RI w w.heap.size .u8 A n l) (hr : ∀ x ∈ l, 0 ≤ x ∧ x < 256) (hn : n ≤ 140737488355328) (hnc : n ≤ c)
    (ha : a ≤ 8 * n) (h0 : (zAt l a).2.2 = 0) :
    Calls Tryd.prog 50 #[.slice A n c, .int .i64 a'] w fun e w' => (∃ x s : Int, e = .returned (.tuple #[.int .i64 x, .int .i64 s, .int .i64 0]) ∧ Hid (x = (zAt l a).1) ∧ s = (zAt l a).2.1 - a) ∧ Below w.heap.size w w' := by
  subst he
  refine (zig_readCode l A n c a w hT hb hr hn hnc ha).mono ?_
  rintro e w' ⟨rfl, h⟩
  exact ⟨⟨_, _, by rw [h0], rfl, by rw [cSize, if_pos h0]⟩, h⟩
theorem zig_readCodeX (l : List Int) (A : Option Addr) (n c a : Nat) (a' : Int) (w : World) (he : a' = a) (hT : Tab w) (hb : RI w w.heap.size .u8 A n l) (hr : ∀ x ∈ l, 0 ≤ x ∧ x < 256) (hn : n ≤ 140737488355328) (hnc : n ≤ c)
    (ha : a ≤ 8 * n) :
    Calls Tryd.prog 50 #[.slice A n c, .int .i64 a'] w fun e w' => (∃ x s k : Int, e = .returned (.tuple #[.int .i64 x, .int .i64 s, .int .i64 k]) ∧ k = (zAt l a).2.2) ∧ Below w.heap.size w w' := by
  subst he
  refine (zig_readCode l A n c a w hT hb hr hn hnc ha).mono ?_
  rintro e w' ⟨rfl, h⟩
  exact ⟨⟨_, _, _, rfl, rfl⟩, h⟩

set_option maxHeartbeats 2000000 in
theorem zig_Decode (l : List Int) (A : Option Addr) (n c : Nat) (k : Int) (w : World) (hT : Tab w) (hb : RI w w.heap.size .u8 A n l) (hr : ∀ x ∈ l, 0 ≤ x ∧ x < 256) (hn : n ≤ 140737488355328) (hnc : n ≤ c) :
    Calls Tryd.prog 43 #[.slice A n c, .int .i64 k] w (DecPost l k w) := by
  have HL := Lib.hid hb.len
  have hlt := hT.lt
  have HR := Lib.hid hr
  clear hr
  by_cases hk : k < 0
  · have HE := Lib.hid (show dcC l k = 2 from if_neg (by omega))
    go_enter Tryd.func43, Tryd.ntmps43
    go_wp2
    go_ret2
    exact dec_bad HE.out (by decide) (Below.refl _ _)
  by_cases hk2 : 240 < k
  · have HE := Lib.hid (show dcC l k = 2 from if_neg (by omega))
    go_enter Tryd.func43, Tryd.ntmps43
    go_wp2
    go_ret2
    exact dec_bad HE.out (by decide) (Below.refl _ _)
  obtain ⟨m, rfl⟩ := Int.eq_ofNat_of_zero_le (show 0 ≤ k by omega)
  have HE := Lib.hid (show dcC l (m : Int) = (decL l m 0).2 ∧ dcY l (m : Int) = (decL l m 0).1 from ⟨by rw [dcC, if_pos (by omega), Int.toNat_natCast], by rw [dcY, if_pos (by omega), Int.toNat_natCast]⟩)
  have hm : m ≤ 240 := by omega
  clear hk hk2
  go_enter Tryd.func43, Tryd.ntmps43
  go_wp2_with (at_make; refine make_all eltInt _ rfl _ _ rfl w.heap.size _ _ _ _ m rfl rfl rfl rfl (by omega) (by omega) (Nat.le_refl _) ?_; intro w1 hown hbel1 _ _)
  rw [made_ints] at hown
  have hbel0 : Below w.heap.size w w1 := hbel1 w (Below.refl _ _)
  clear hbel1
  go_wp2
  go_loopw [7, 22] (fun s i wr => ∃ (j a : Nat) (out : List Int), j ≤ m ∧ i = .int .i64 j ∧ s = .int .i64 a ∧ a ≤ 8 * n ∧ Hid (out.length = j) ∧ Hid (decR out (decL l (m - j) a) = decL l m 0) ∧
      wr.ownsRow w.heap.size 3 1 (.slice (some ⟨w.heap.size, 0, none⟩) m m) m ((fillTo out m).map (Value.int .i64)) ∧ Below w.heap.size w wr) (fun _ i _ => m - (intOf i).toNat)
  case atStart =>
    refine ⟨0, 0, [], Nat.zero_le _, rfl, rfl, by omega, rfl, ?_, hown, hbel0⟩
    show decR [] (decL l m 0) = decL l m 0
    unfold decR
    split
    · rename_i h; rw [← h]; rfl
    · rename_i h; rw [← decL_err l m 0 h]
  case round =>
    obtain ⟨j, a, out, hj, rfl, rfl, ha, HO, HD, hown', hbel⟩ := hrel
    clear hown hbel0
    have hsz := hbel.size
    by_cases hlt2 : j < m
    · by_cases hz : (zAt l a).2.2 = 0
      · have hzl := zAt_lt hz
        rw [HL.out] at hzl
        have HZ := Lib.hid hz
        have hz1 := hzl.1
        have hz2 := hzl.2.1
        have hz3 := hzl.2.2.1
        clear hz hzl
        have hcv := hown'.cellAt j (by omega)
        have hfz := hown'.frozenAt j
        rw [List.getElem?_eq_getElem (by simp [fillTo]; have := HO.out; omega)] at hcv
        go_wp2_with fail
        refine (zig_readCodeI l A n c a _ _ rfl (hT.below hbel hlt) ((hb.below hbel).more hsz) HR.out hn hnc ha HZ.out).mono ?_
        rintro e w2 ⟨⟨x, s, rfl, HX, hs⟩, hb2⟩
        have hown2 := own_below hown' hb2
        have hcv2 := hown2.cellAt j (by omega)
        have hfz2 := hown2.frozenAt j
        rw [List.getElem?_eq_getElem (by simp [fillTo]; have := HO.out; omega)] at hcv2
        have hbel2 : Below w.heap.size w w2 := hbel.trans (hb2.mono hsz)
        clear hcv hfz hb2
        go_wp2
        go_roundw
        case rel =>
          have hst := World.ownsRow.stored hown2 j (Value.int .i64 x)
          refine ⟨j + 1, (zAt l a).2.1, out ++ [x], by omega, by go_num, val_int (by omega), hz2, ?_, ?_, ?_, hbel2.setCell (Nat.le_refl _) _⟩
          · show _ = _
            rw [List.length_append, HO.out]; rfl
          · show _ = _
            rw [← HD.out, show m - j = (m - (j + 1)) + 1 by omega, decR_step l out _ a HZ.out, HX.out]
          · have hset := fill_set out m x (by rw [HO.out]; omega)
            rw [HO.out] at hset
            rw [← hset, List.map_set]
            exact hst.1
        case measure => simp [intOf]; omega
      · have hne : ((zAt l a).2.2 != 0) = true := by simp [hz]
        have HZ := Lib.hid hz
        clear hz
        go_wp2_with fail
        refine (zig_readCodeX l A n c a _ _ rfl (hT.below hbel hlt) ((hb.below hbel).more hsz) HR.out hn hnc ha).mono ?_
        rintro e w2 ⟨⟨x, s, k, rfl, hk⟩, hb2⟩
        have hk0 : (k != 0) = true := by rw [hk]; exact hne
        have HKK := Lib.hid hk
        clear hk hne
        go_wp2
        go_ret2
        have hd := HD.out
        rw [show m - j = (m - (j + 1)) + 1 by omega, decR_err l out _ a HZ.out] at hd
        exact dec_bad (by rw [HE.out.1, ← hd, HKK.out]) (by rw [HKK.out]; exact HZ.out) (hbel.trans (hb2.mono hsz))
    · obtain rfl : j = m := by omega
      go_wp2
      go_ret2
      have hd := HD.out
      rw [Nat.sub_self, decR_done] at hd
      refine ⟨_, ret_two rfl (val_int (by rw [HE.out.1, ← hd])), ?_, hbel⟩
      rw [HE.out.2, ← hd]
      rw [fill_full _ _ HO.out] at hown'
      dsimp only
      rw [HO.out]
      exact hown'
end Go.Proofs.YtekojlepmfmmpaaDoor
