/- What the document's answer to Encode does. No statement of the seat is proved here; no condition. -/
import Derived.Test.YtjpdbcohkfchpaaDoorRefZig2
import Derived.Test.YtjpdbcohkfchpaaDoorZigPack
set_option linter.unusedSimpArgs false
set_option linter.unusedVariables false
namespace Go.Proofs.YtjpdbcohkfchpaaDoor
open Go.RowKit Go.Ord Go.Baro

set_option maxHeartbeats 4000000 in
theorem ref_ZigEncoded (l : List Int) (A : Option Addr) (n c : Nat) (w : World) (hb : RI w w.heap.size .i64 A n l) (hn : n ≤ 140737488355328) (hr : ∀ x ∈ l, -9223372036854775808 ≤ x ∧ x ≤ 9223372036854775807) :
    Calls Tryd.prog 11 #[.slice A n c] w fun e w' => ∃ v, e = .returned (.tuple #[v, .int .i64 (encC l)]) ∧ w'.ownsRow w.heap.size 5 1 v (encY l).length ((encY l).map (Value.int .u8)) ∧ Below w.heap.size w w' := by
  have HL := Lib.hid hb.len
  have BAD := Lib.hid (show ∀ (k : Int) (w' : World), encC l = k → k ≠ 0 → Below w.heap.size w w' →
      ∃ v, Ending.returned (.tuple #[.slice none 0 0, .int .i64 k]) = .returned (.tuple #[v, .int .i64 (encC l)]) ∧ w'.ownsRow w.heap.size 5 1 v (encY l).length ((encY l).map (Value.int .u8)) ∧ Below w.heap.size w w' from by
    intro k w' h hk hb
    refine ⟨_, by rw [h], ?_, hb⟩
    rw [encY, if_neg (by omega)]
    exact World.ownsRow_nil _ _ _ _)
  by_cases hbig : 240 < n
  · have HE := Lib.hid (encC_big (l := l) (by rw [HL.out]; exact hbig))
    go_enter Tryd.func11, Tryd.ntmps11
    go_wp2
    go_ret2
    exact BAD.out 1 _ HE.out (by decide) (Below.refl _ _)
  · have HE := Lib.hid (encC_not (l := l) (by rw [HL.out]; exact hbig))
    go_enter Tryd.func11, Tryd.ntmps11
    go_wp2
    go_loopw [4, 14] (fun v i wr => ∃ (j N : Nat), j ≤ n ∧ i = .int .i64 j ∧ Hid (N = (encB (l.take j)).length) ∧ wr.ownsRow w.heap.size 3 1 v N ((encB (l.take j)).map (Value.int .i64)) ∧ Below w.heap.size w wr ∧ Hid (ckS l = ckS (l.drop j))) (fun _ i _ => n - (intOf i).toNat)
    case atStart => exact ⟨0, 0, Nat.zero_le _, rfl, rfl, World.ownsRow_nil _ _ _ _, Below.refl _ _, rfl⟩
    case round =>
      obtain ⟨j, N, hj, rfl, HN, hown, hbel, HC⟩ := hrel
      have hblen : N ≤ 15120 := by
        have := encB_len (l.take j)
        rw [List.length_take, HL.out, ← HN.out] at this
        omega
      by_cases hlt : j < n
      · obtain ⟨b, o, x, rfl, _, hcell, HX, hmem⟩ := (hb.below hbel).val hlt
        have hx := hr x hmem
        by_cases hs : -288230376151711744 ≤ x ∧ x < 288230376151711744
        · go_wp2_with fail
          refine (ref_ZigFoldS x _ hs).mono ?_
          rintro e w' ⟨⟨f, rfl, HF, f0, f1⟩, rfl⟩
          have hzs := zsize_le f
          go_wp2_with fail
          refine (ref_zigFields f _ f0).mono ?_
          rintro e w1 ⟨⟨A1, k1, c1, rfl, hf⟩, hb1⟩
          go_wp2_with fail
          refine (ref_zigBits f A1 k1 c1 _ f0 f1 hf).mono ?_
          rintro e w2 ⟨v2, rfl, hown2, hb2⟩
          have hbelA : Below w.heap.size w w2 := (hbel.trans (hb1.mono hbel.size)).trans (hb2.mono (Nat.le_trans hbel.size hb1.size))
          have hownA := own_below (own_below hown hb1) hb2
          obtain ⟨B2, c2, rfl, hc2⟩ := own_form hown2
          have hrd : Rd w2 w2.heap.size 1 B2 (zsize f) ((zbits f).map (Value.int .i64)) := Rd.of_own hown2
          go_wp2_with (at_builtin; go_must (refine app_src eltInt _ rfl _ _ rfl w.heap.size _ _ _ rfl hownA B2 (zsize f) c2 _ rfl _ hrd (one_ints _ _) (by omega) (by omega) hbelA.size ?_); intro v' w3 hown3 _ hbel3 _)
          go_roundw
          case rel =>
            have he : encB (l.take (j + 1)) = encB (l.take j) ++ zbits f := by rw [at_take HX.out, encB_snoc, HF.out]
            refine ⟨j + 1, N + zsize f, by omega, by go_num, ?_, ?_, hbel3 _ hbelA, ?_⟩
            · show _ = _
              rw [he, List.length_append, ← HN.out, zbits_len]
            · rw [he, List.map_append]; exact hown3
            · show _ = _
              rw [HC.out, at_drop HX.out, ckS_step hs]
          case measure => simp [intOf]; omega
        · go_wp2_with fail
          refine (ref_ZigFoldO x _ (by omega) hx.1 hx.2).mono ?_
          rintro e w' ⟨rfl, rfl⟩
          go_wp2
          go_ret2
          exact BAD.out 11 _ (by rw [HE.out, HC.out, at_drop HX.out, ckS_over hs]) (by decide) hbel
      · obtain rfl : j = n := by omega
        have hall : l.take j = l := List.take_of_length_le (by rw [HL.out]; omega)
        rw [hall] at hown HN
        have hz : encC l = 0 := by rw [HE.out, HC.out, List.drop_eq_nil_of_le (by rw [HL.out]; omega)]; rfl
        have HZ := Lib.hid hz
        clear hz
        obtain ⟨B, cp, rfl, _⟩ := own_form hown
        have hri : RI wr wr.heap.size .i64 B N (encB l) := Rd.of_own hown
        go_wp2_with fail
        refine (ref_byteList (encB l) _ _ _ _ hri (by omega) (encB_01 l)).mono ?_
        rintro e w2 ⟨v2, rfl, hown2, hbel2⟩
        go_wp2
        go_ret2
        refine ⟨_, ret_two rfl (val_int HZ.out.symm), ?_, hbel.trans (hbel2.mono hbel.size)⟩
        rw [encY, if_pos HZ.out]
        exact own_more hown2 hbel.size
end Go.Proofs.YtjpdbcohkfchpaaDoor
