/- What readCode does. No statement of the seat is proved here; no condition. -/
import Derived.Test.YtekojlepmfmmpaaDoorZigDec2
set_option linter.unusedSimpArgs false
set_option linter.unusedVariables false
namespace Go.Proofs.YtekojlepmfmmpaaDoor
open Go.RowKit Go.Ord Go.Baro

/-- What readCode leaves. -/
def CodePost (l : List Int) (a : Nat) (w : World) (e : Ending) (w' : World) : Prop := e = .returned (.tuple #[.int .i64 (zAt l a).1, .int .i64 (cSize l a), .int .i64 (zAt l a).2.2]) ∧ Below w.heap.size w w'
theorem code_bad {l : List Int} {a : Nat} {w w' : World} {e : Int} (h : zAt l a = (0, 0, e)) (he : e ≠ 0) (hb : Below w.heap.size w w') : CodePost l a w (.returned (.tuple #[.int .i64 0, .int .i64 0, .int .i64 e])) w' := by
  unfold CodePost
  rw [cSize_bad h he, h]
  exact ⟨rfl, hb⟩

theorem zig_readOkI (l : List Int) (A : Option Addr) (n c a k : Nat) (a' : Int) (w : World) (he : a' = a) (hb : RI w w.heap.size .u8 A n l) (hr : ∀ x ∈ l, 0 ≤ x ∧ x < 256) (hn : n ≤ 140737488355328) (hnc : n ≤ c)
    (hk : k ≤ 60) (hs : a + k ≤ 8 * n) :
    Calls Tryd.prog 55 #[.slice A n c, .int .i64 a', .int .i64 k] w fun e w' => (∃ f, e = .returned (.tuple #[.int .i64 f, .int .i64 0]) ∧ Hid (f = fldOf l a k) ∧ 0 ≤ f ∧ Hid (f < 2 ^ k)) ∧ Below w.heap.size w w' := by
  subst he
  refine (zig_readOk l A n c a k w hb hr hn hnc hk hs).mono ?_
  rintro e w' ⟨rfl, h⟩
  have := fldOf_bd l a k
  exact ⟨⟨_, rfl, rfl, this.1, this.2⟩, h⟩
theorem zig_readShortI (l : List Int) (A : Option Addr) (n c a k : Nat) (a' : Int) (w : World) (he : a' = a) (hb : RI w w.heap.size .u8 A n l) (hr : ∀ x ∈ l, 0 ≤ x ∧ x < 256) (hn : n ≤ 140737488355328) (hnc : n ≤ c)
    (ha : a ≤ 8 * n) (hk : k ≤ 60) (hs : ¬ a + k ≤ 8 * n) :
    Calls Tryd.prog 55 #[.slice A n c, .int .i64 a', .int .i64 k] w fun e w' => e = .returned (.tuple #[.int .i64 0, .int .i64 5]) ∧ Below w.heap.size w w' := by
  subst he
  exact zig_readShort l A n c a k w hb hr hn hnc ha hk hs

set_option maxHeartbeats 1000000 in
theorem zig_readCode (l : List Int) (A : Option Addr) (n c a : Nat) (w : World) (hT : Tab w) (hb : RI w w.heap.size .u8 A n l) (hr : ∀ x ∈ l, 0 ≤ x ∧ x < 256) (hn : n ≤ 140737488355328) (hnc : n ≤ c)
    (ha : a ≤ 8 * n) :
    Calls Tryd.prog 50 #[.slice A n c, .int .i64 a] w (CodePost l a w) := by
  have HL := Lib.hid hb.len
  have hlt := hT.lt
  have HR := Lib.hid hr
  clear hr
  go_enter Tryd.func50, Tryd.ntmps50
  go_wp2_with fail
  refine (zig_readPrefix l A n c a w hT hb HR.out hn hnc ha).mono ?_
  unfold PrePost
  rcases hz : zOnes l 4 a 0 with _ | ⟨k, b⟩
  · have HZ := Lib.hid (zAt_none hz)
    clear hz
    rintro e w1 ⟨rfl, hb1⟩
    go_wp2
    go_ret3
    exact code_bad HZ.out (by decide) (hb1.alloc hb1.size _)
  · have HZ := Lib.hid hz
    clear hz
    rintro e w1 ⟨⟨hbk, hbn, hk4, rfl⟩, hb1⟩
    have hzb := z_bounds hk4
    have hs1 := hb1.size
    have HT := Lib.hid hT
    have HRI : Hid (RI w1 w1.heap.size .u8 A n l) := (hb.below hb1).more hs1
    clear hT hb
    unfold preV
    by_cases hs : b + zwid k ≤ 8 * n
    · go_wp2_with fail
      refine (zig_readOkI l A n c b (zwid k) _ _ (by rw [hbk]; go_num) (HRI.out.below ((Below.refl _ _).alloc (Nat.le_refl _) _) |>.more (by simp)) HR.out (by omega) hnc (by omega) hs).mono ?_
      rintro e w2 ⟨⟨f, rfl, HF, f0, HF1⟩, hb2⟩
      have f1 : f < 576460752303423488 := by
        have h1 := HF1.out
        have h2 := pow_le (j := zwid k) (k := 59) (by omega)
        omega
      have hpx : Box w2 w1.heap.size 70 [.int .i64 (zlen k), .int .i64 (zpre k), .int .i64 (zwid k)] := Box.below (Box.new w1 _ _) hb2 (by simp)
      have hbB : Below w.heap.size w w2 := (hb1.alloc hs1 _).trans (hb2.mono (by simp; omega))
      have hsB := hbB.size
      have hpl := hpx.lt
      have HP := Lib.hid hpx
      have q0 := hpx.cell 0
      have q1 := hpx.cell 1
      have q2 := hpx.cell 2
      have HK := Lib.hid (zk_form hk4 f0 HF1.out)
      clear hb2 hpx hb1 HF1
      have HF2 := Lib.hid (zk_le f)
      by_cases hkf : zk f = k
      · have HE := Lib.hid (zAt_ok HZ.out (by rw [HL.out]; exact hs) (by rw [← HF.out]; exact HK.out.1 hkf))
        go_wp2
        refine region_first [0, 1] (.cons 2 (seq [3] .nil)) (by kernel_rfl) (by kernel_rfl) ?_
        simp only [pick, List.map_cons, List.map_nil, List.getD_cons_zero, List.getD_cons_succ]
        go_wp2
        refine ord_call (by kernel_rfl) ?_
        simp only [pick, List.map_cons, List.map_nil, List.getD_cons_zero, List.getD_cons_succ]
        go_wp2_with fail
        refine (zig_firstFit f w2.drew (Tab.heap (HT.out.below hbB hlt) rfl) f0 f1).mono ?_
        rintro e w3 ⟨rfl, hb3⟩
        unfold preV
        rw [hkf]
        go_wp2
        refine ⟨ext_below hb3, ?_⟩
        have hb4 : Below w2.heap.size w2 w3 := ⟨hb3.os, hb3.tape, hb3.output, hb3.size, hb3.block⟩
        have hbC : Below w.heap.size w w3 := hbB.trans (hb4.mono hsB)
        have hpy : Box w3 w1.heap.size 70 [.int .i64 (zlen k), .int .i64 (zpre k), .int .i64 (zwid k)] := Box.below HP.out hb4 hpl
        have y0 := hpy.cell 0
        have y1 := hpy.cell 1
        have y2 := hpy.cell 2
        clear hb3 hb4 hpy q0 q1 q2
        refine ord_call (by kernel_rfl) ?_
        simp only [pick, List.map_cons, List.map_nil, List.getD_cons_zero, List.getD_cons_succ]
        go_wp2
        refine ord_done ?_
        go_wp2_with fail
        refine (zig_UnfoldS f _ ⟨f0, f1⟩).mono ?_
        rintro e w4 ⟨⟨u, rfl, HU, u0, u1⟩, rfl⟩
        go_wp2
        refine region_first [0, 1, 2, 3, 4, 5, 6, 7, 8, 9] .nil (by kernel_rfl) (by kernel_rfl) ?_
        simp only [pick, List.map_cons, List.map_nil, List.getD_cons_zero, List.getD_cons_succ]
        go_wp2
        refine ord_done ?_
        go_wp2
        go_ret3
        unfold CodePost
        rw [cSize_ok HE.out, HE.out]
        refine ⟨ret_three (val_int (by rw [HU.out, HF.out])) (val_int (by rw [hbk]; go_num)) rfl, ?_⟩
        exact hbC.drew
      · have HE := Lib.hid (zAt_form HZ.out (by rw [HL.out]; exact hs) (by rw [← HF.out]; exact Classical.byContradiction fun h => hkf (HK.out.2 h)))
        have hpv : (zpre k == zpre (zk f)) = false := zpre_inj hk4 HF2.out (fun h => hkf h.symm)
        go_wp2
        refine region_first [0, 1] (.cons 2 (seq [3] .nil)) (by kernel_rfl) (by kernel_rfl) ?_
        simp only [pick, List.map_cons, List.map_nil, List.getD_cons_zero, List.getD_cons_succ]
        go_wp2
        refine ord_call (by kernel_rfl) ?_
        simp only [pick, List.map_cons, List.map_nil, List.getD_cons_zero, List.getD_cons_succ]
        go_wp2_with fail
        refine (zig_firstFit f w2.drew (Tab.heap (HT.out.below hbB hlt) rfl) f0 f1).mono ?_
        rintro e w3 ⟨rfl, hb3⟩
        unfold preV
        go_wp2
        refine ⟨ext_below hb3, ?_⟩
        have hb4 : Below w2.heap.size w2 w3 := ⟨hb3.os, hb3.tape, hb3.output, hb3.size, hb3.block⟩
        have hbC : Below w.heap.size w w3 := hbB.trans (hb4.mono hsB)
        have hpy : Box w3 w1.heap.size 70 [.int .i64 (zlen k), .int .i64 (zpre k), .int .i64 (zwid k)] := Box.below HP.out hb4 hpl
        have y0 := hpy.cell 0
        have y1 := hpy.cell 1
        have y2 := hpy.cell 2
        clear hb3 hb4 hpy q0 q1 q2
        refine ord_call (by kernel_rfl) ?_
        simp only [pick, List.map_cons, List.map_nil, List.getD_cons_zero, List.getD_cons_succ]
        go_wp2
        refine ord_done ?_
        go_wp2
        go_ret3
        exact code_bad HE.out (by decide) hbC
    · have HE := Lib.hid (zAt_end HZ.out (by rw [HL.out]; exact hs))
      go_wp2_with fail
      refine (zig_readShortI l A n c b (zwid k) _ _ (by rw [hbk]; go_num) (HRI.out.below ((Below.refl _ _).alloc (Nat.le_refl _) _) |>.more (by simp)) HR.out (by omega) hnc hbn (by omega) hs).mono ?_
      rintro e w2 ⟨rfl, hb2⟩
      have hbB : Below w.heap.size w w2 := (hb1.alloc hs1 _).trans (hb2.mono (by simp; omega))
      clear hb2
      go_wp2
      go_ret3
      exact code_bad HE.out (by decide) hbB
end Go.Proofs.YtekojlepmfmmpaaDoor
