/- What chunk.Encode does. No statement of the seat is proved here; no condition. -/
import Derived.Test.YtnpabbinckcbaaaDoorChunk1
import Derived.Test.YtnpabbinckcbaaaDoorZigEnc
set_option linter.unusedSimpArgs false
set_option linter.unusedVariables false
namespace Go.Proofs.YtnpabbinckcbaaaDoor
open Go.RowKit Go.Ord Go.Baro

/-- What Encode leaves. -/
def ChPost (l : List (Int × Int)) (w : World) (e : Ending) (w' : World) : Prop :=
  ∃ v, e = .returned (.tuple #[v, .int .i64 (chC l)]) ∧ w'.ownsRow w.heap.size 5 1 v (chY l).length ((chY l).map (Value.int .u8)) ∧ Below w.heap.size w w'
theorem ch_bad {l : List (Int × Int)} {w w' : World} {k : Int} (h : chC l = k) (hk : k ≠ 0) (hb : Below w.heap.size w w') : ChPost l w (.returned (.tuple #[.slice none 0 0, .int .i64 k])) w' := by
  refine ⟨_, by rw [h], ?_, hb⟩
  rw [chY_bad (by omega)]
  exact World.ownsRow_nil _ _ _ _

set_option maxHeartbeats 2000000 in
theorem chunk_Encode (l : List (Int × Int)) (A : Option Addr) (n c : Nat) (w : World) (hT : Tab w) (hb : RF w w.heap.size A n l) (hn : n ≤ 8796093022208) :
    Calls Tryd.prog 16 #[.slice A n c] w (ChPost l w) := by
  have HL := Lib.hid hb.len
  have h0 := hT.lt
  by_cases hbig : 120 < n
  · have HE := Lib.hid (chC_big (l := l) (by rw [HL.out]; exact hbig))
    go_enter Tryd.func16, Tryd.ntmps16
    go_wp2
    go_ret2
    exact ch_bad HE.out (by decide) (Below.refl _ _)
  · have HE := Lib.hid (chC_of (l := l) (by rw [HL.out]; omega))
    go_enter Tryd.func16, Tryd.ntmps16
    go_wp2
    go_loopw [5, 18] (fun v i wr => ∃ (j : Nat) (q : St) (out : List Int), j ≤ n ∧ i = .int .i64 j ∧ okSt q ∧ Hid (out ++ numL q (l.drop j) = numL st0 l) ∧ Hid (ckL st0 l = ckL q (l.drop j)) ∧ Hid (out.length = 2 * j) ∧
        wr.ownsRow w.heap.size 3 1 v (2 * j) (out.map (Value.int .i64)) ∧ Box wr w.heap.size 58 (stC q) ∧ Below w.heap.size w wr) (fun _ i _ => n - (intOf i).toNat)
    case atStart => exact ⟨0, st0, [], Nat.zero_le _, rfl, st0_ok, rfl, rfl, rfl, World.ownsRow_nil _ _ _ _, Box.new w _ _, (Below.refl _ _).alloc (Nat.le_refl _) _⟩
    case round =>
      obtain ⟨j, q, out, hj, rfl, hq, HN, HC, HO, hown, hbox, hbel⟩ := hrel
      have hsz := hbox.lt
      by_cases hlt : j < n
      · obtain ⟨b, o, x, y, rfl, _, hcx, hcy, HX, hmem⟩ := (hb.below hbel).val hlt
        by_cases hk : ck1 q (x, y) = 0
        · have HK := Lib.hid hk
          have hin := ck1_zero hk
          have h1 := hin.1
          have h2 := hin.2.1
          clear hk hin
          go_wp2_with fail
          refine (chunk_check q x y w.heap.size _ (hbox.alloc _)).mono ?_
          rintro e w1 ⟨rfl, hb1⟩
          rw [HK.out]
          have hbx1 : Box w1 wr.heap.size 39 [.int .i64 x, .int .i64 y] := (Box.new wr _ _).below hb1 (by simp)
          have hst1 : Box w1 w.heap.size 58 (stC q) := (hbox.alloc _).below hb1 (by simp; omega)
          have hown1 := own_below (hown.alloc _) hb1
          have hbel1 : Below w.heap.size w w1 := (hbel.alloc (Nat.le_of_lt hsz) _).trans (hb1.mono (by simp; omega))
          have hcx1 : w1.cell? ⟨wr.heap.size, 0, none⟩ = some (.int .i64 x) := hbx1.cell 0
          have hcy1 : w1.cell? ⟨wr.heap.size, 1, none⟩ = some (.int .i64 y) := hbx1.cell 1
          go_wp2_with fail
          refine (chunk_differences q x y w.heap.size _ hst1 hq h1 h2).mono ?_
          rintro e w2 ⟨rfl, hb2⟩
          have hbx2 := hbx1.below hb2 hbx1.lt
          have hst2 := hst1.below hb2 hst1.lt
          have hown2 := own_below hown1 hb2
          have hbel2 : Below w.heap.size w w2 := hbel1.trans (hb2.mono hbel1.size)
          have hsz2 := hst2.lt
          clear hcx1 hcy1
          go_wp2_with (at_builtin; go_must (refine app_lit eltInt w2 rfl _ _ rfl w.heap.size _ _ _ rfl (by exact hown2) 2 [_, _] _ rfl rfl rfl (one2 _ _ _ _) (by omega) (by omega) (by omega) ?_); intro v3 w3 hown3 hgr3 hbel3 _; have hbx3 := (hbx2.alloc _).grown hgr3 (hbx2.ne hown2 (by decide)); have hst3 := (hst2.alloc _).grown hgr3 (hst2.ne hown2 (by decide)); have hcx3 : w3.cell? ⟨wr.heap.size, 0, none⟩ = some (.int .i64 x) := hbx3.cell 0; have hcy3 : w3.cell? ⟨wr.heap.size, 1, none⟩ = some (.int .i64 y) := hbx3.cell 1)
          go_wp2_with fail
          refine (chunk_advance q x y w.heap.size _ hst3 hq h1 h2).mono ?_
          rintro e w4 ⟨rfl, hst4, hgr4⟩
          have hown4 := own_box hown3 hst3 (by decide) hgr4
          have hbel4 : Below w.heap.size w w4 := below_set (hbel3 _ hbel2) hgr4 (Nat.le_refl _) (Nat.le_of_lt hst3.lt)
          go_wp2
          go_roundw
          case rel =>
            refine ⟨j + 1, adv q (x, y), out ++ [x - q.t - q.s, y - q.v], by omega, by go_num, adv_ok hq HK.out, ?_, ?_, ?_, ?_, hst4, hbel4⟩
            · show _ = _
              rw [← HN.out, at_drop HX.out, numL, List.append_assoc]
              rfl
            · show _ = _
              rw [HC.out, at_drop HX.out, ckL_cons HK.out]
            · show _ = _
              rw [List.length_append, HO.out]
              simp
              omega
            · rw [List.map_append, show 2 * (j + 1) = 2 * j + 2 by omega]
              exact hown4
          case measure => simp [intOf]; omega
        · have HK := Lib.hid hk
          obtain ⟨k, hkk⟩ : ∃ k, k = ck1 q (x, y) := ⟨_, rfl⟩
          have HKK := Lib.hid hkk
          have hkb : (k != 0) = true := by rw [hkk]; simp [hk]
          clear hk hkk
          go_wp2_with fail
          refine (chunk_check q x y w.heap.size _ (hbox.alloc _)).mono ?_
          rintro e w1 ⟨rfl, hb1⟩
          rw [← HKK.out]
          go_wp2
          go_ret2
          refine ch_bad ?_ ?_ ((hbel.alloc (Nat.le_of_lt hsz) _).trans (hb1.mono (by simp; omega)))
          · rw [HE.out, HC.out, at_drop HX.out, ckL_bad HK.out, HKK.out]
          · rw [HKK.out]; exact HK.out
      · obtain rfl : j = n := by omega
        have hd : l.drop j = [] := List.drop_eq_nil_of_le (by rw [HL.out]; omega)
        have hN := HN.out
        have hC := HC.out
        rw [hd] at hN hC
        simp only [numL, ckL, List.append_nil] at hN hC
        have HZ := Lib.hid (show chC l = 0 by rw [HE.out]; exact hC)
        have HEN := Lib.hid (num_enc HZ.out)
        have HY := Lib.hid (chY_ok HZ.out)
        have HS := Lib.hid (show ∀ x ∈ out, -9223372036854775808 ≤ x ∧ x ≤ 9223372036854775807 from fun x hx => by
          have := numL_small st0_ok (chC_zero HZ.out).2 x (by rw [← hN]; exact hx)
          unfold Small at this
          omega)
        rw [← hN] at HEN HY
        clear hN hC hd
        obtain ⟨B, cp, rfl, _⟩ := own_form hown
        have hri : RI wr wr.heap.size .i64 B (2 * j) out := Rd.of_own hown
        go_wp2_with fail
        refine (zig_Encode out _ _ _ _ (hT.below hbel h0) hri (by omega) HS.out).mono ?_
        rintro e w2 ⟨v2, rfl, hown2, hbel2⟩
        rw [HEN.out.1, HEN.out.2] at *
        have hbelA : Below w.heap.size w w2 := hbel.trans (hbel2.mono hbel.size)
        have hszA := hbelA.size
        obtain ⟨N2, hown2, hN2⟩ := own_count hown2
        have HN2 := Lib.hid hN2
        obtain ⟨B2, cp2, rfl, _⟩ := own_form hown2
        have hpl : (packB (encB out)).length ≤ 1900 := by
          rw [packB_len]
          have := encB_len out
          rw [HO.out] at this
          omega
        rw [← hN2] at hpl
        clear hN2
        go_wp2_with (at_builtin; go_must (refine app_src eltByte _ rfl _ _ rfl w.heap.size _ 1 [Value.int .u8 (j : Int)] rfl (World.ownsRow_lit w2 #[Value.int .u8 (j : Int)] 1 (by omega) (by unfold maxLen; omega) rfl) B2 N2 cp2 ((packB (encB out)).map (Value.int .u8)) rfl _ (Rd.of_own (hown2.alloc _)) (one_ints _ _) (by omega) (by omega) (by simp; omega) ?_); intro v3 w3 hown3 hgr3 hbel3 _)
        go_ret2
        refine ⟨_, ret_two rfl (val_int HZ.out.symm), ?_, hbel3 _ (hbelA.alloc hszA _)⟩
        rw [HY.out, List.length_cons, HL.out, ← HN2.out, Nat.add_comm]
        exact hown3
end Go.Proofs.YtnpabbinckcbaaaDoor
