/- What the samples of the statements are made of. No statement of the seat is proved here; no condition. -/
import Derived.Test.YtnpabbinckcbaaaDoorChunk1
import Derived.Test.YtnpabbinckcbaaaDoorChunkKeepPure
import Derived.Test.YtnpabbinckcbaaaDoorKeepPicked
import Derived.Test.YtnpabbinckcbaaaDoorOpenDot
set_option linter.unusedSimpArgs false
set_option linter.unusedVariables false
namespace Go.Proofs.YtnpabbinckcbaaaDoor
open Go.RowKit Go.Ord Go.Baro

set_option maxRecDepth 100000 in
set_option maxHeartbeats 2000000 in
theorem keep_SamplesV (l : List (Int × Int × Bool)) (A : Option Addr) (n c : Nat) (first : Int) (lim : Nat) (w : World) (hb : RD w w.heap.size A n l) (hn : n ≤ 5864062014805) (hr : ∀ f ∈ l, (-9223372036854775808 ≤ f.1 ∧ f.1 ≤ 9223372036854775807) ∧ -9223372036854775808 ≤ f.2.1 ∧ f.2.1 ≤ 9223372036854775807)
    (r0 : -9223372036854775808 ≤ first ∧ first ≤ 9223372036854775807) (hl : lim ≤ 120) :
    Calls Tryd.prog 13 #[.slice A n c, .int .i64 first, .int .i64 lim] w fun e w' => ∃ v S, e = .returned v ∧ Hid (SOk S) ∧ Hid (VB S) ∧ S.length ≤ lim ∧ w'.ownsRow w.heap.size 39 2 v S.length (cellsF S) ∧ Below w.heap.size w w' := by
  have HL := Lib.hid hb.len
  have HR := Lib.hid hr
  clear hr
  go_enter Tryd.func13, Tryd.ntmps13
  go_wp2
  go_loopw [7, 8, 9] (fun t v i wr => ∃ (j : Nat) (T : Int) (S : List (Int × Int)), j ≤ n ∧ j ≤ lim ∧ i = .int .i64 j ∧ t = .int .i64 T ∧ -18014398509481984 ≤ T ∧ T ≤ 18015498021109760 ∧ Hid (SOk S) ∧ Hid (VB S) ∧ Hid ((S.foldl adv st0).b = true → (S.foldl adv st0).t < T) ∧ S.length ≤ j ∧
      wr.ownsRow w.heap.size 39 2 v S.length (cellsF S) ∧ Below w.heap.size w wr) (fun _ _ i _ => lim - (intOf i).toNat)
  case atStart => exact ⟨0, first / 512, [], Nat.zero_le _, Nat.zero_le _, rfl, rfl, by omega, by omega, SOk.nil, VB.nil, (fun h => by cases h), Nat.le_refl _, World.ownsRow_nil _ _ _ _, Below.refl _ _⟩
  case round =>
    obtain ⟨j, T, S, hj, hj2, rfl, rfl, hT1, hT2, HS, HB, HQ, hSl, hown, hbel⟩ := hrel
    have hsz := hbel.size
    by_cases hlt : j < n
    · by_cases hlt2 : j < lim
      · obtain ⟨b, o, x, y, z, rfl, hbb, hcx, hcy, hcz, hmem⟩ := (hb.below hbel).val hlt
        obtain ⟨q1, q2⟩ := HR.out _ hmem
        dsimp only at q1 q2
        have hm1 := Int.emod_nonneg x (show (100 : Int) ≠ 0 by decide)
        have hm2 := Int.emod_lt_of_pos x (show (0 : Int) < 100 by decide)
        have hm3 := Int.emod_nonneg y (show (1000 : Int) ≠ 0 by decide)
        have hm4 := Int.emod_lt_of_pos y (show (0 : Int) < 1000 by decide)
        have hm5 := Int.emod_nonneg x (show (1099511627776 : Int) ≠ 0 by decide)
        have hm6 := Int.emod_lt_of_pos x (show (0 : Int) < 1099511627776 by decide)
        cases z with
        | false =>
          go_wp2_with fail
          refine (keep_Picked x 100 _ (by decide) (by decide)).mono ?_
          rintro e w' ⟨rfl, rfl⟩
          go_wp2_with fail
          refine (keep_Picked y 1000 _ (by decide) (by decide)).mono ?_
          rintro e w' ⟨rfl, rfl⟩
          by_cases hbr : 18014398509481984 < T
          · go_wp2_with (at_builtin; go_must (refine app_lit eltSample _ rfl _ _ rfl w.heap.size _ 0 [] rfl (World.ownsRow_nil _ _ _ _) 1 [_, _] _ rfl rfl rfl (one2 _ _ _ _) (by omega) (by omega) (by omega) ?_); intro v3 w3 hown3 hgr3 hbel3 _)
            go_roundw
            case rel =>
              refine ⟨j + 1, -18014398509481984 + (1 + x % 100), [(-18014398509481984, y % 1000 - 500)], by omega, by omega, by go_num, val_int (by omega), by omega, by omega, ?_, ?_, ?_, by simp, by simpa [cellsF] using hown3, hbel3 _ hbel⟩
              · exact SOk.snoc SOk.nil (fun h => by cases h) (by omega) (by omega) (by unfold InR; omega)
              · exact VB.snoc VB.nil (by omega)
              · intro _
                show -18014398509481984 < _
                omega
            case measure => simp [intOf]; omega
          · go_wp2_with (at_builtin; go_must (refine app_lit eltSample _ rfl _ _ rfl w.heap.size _ _ _ rfl (by exact hown) 1 [_, _] _ rfl rfl rfl (one2 _ _ _ _) (by omega) (by omega) (by omega) ?_); intro v3 w3 hown3 hgr3 hbel3 _)
            go_roundw
            case rel =>
              refine ⟨j + 1, T + (1 + x % 100), S ++ [(T, y % 1000 - 500)], by omega, by omega, by go_num, val_int (by omega), by omega, by omega, ?_, ?_, ?_, by simp; omega, ?_, hbel3 _ hbel⟩
              · exact HS.out.snoc HQ.out hT1 (by omega) (by unfold InR; omega)
              · exact HB.out.snoc (by omega)
              · intro _
                rw [List.foldl_append]
                show T < _
                omega
              · rw [List.length_append, cellsF_append]
                exact hown3
            case measure => simp [intOf]; omega
        | true =>
          go_wp2_with fail
          refine (keep_Picked x 100 _ (by decide) (by decide)).mono ?_
          rintro e w' ⟨rfl, rfl⟩
          go_wp2_with fail
          refine (keep_Picked y 1000 _ (by decide) (by decide)).mono ?_
          rintro e w' ⟨rfl, rfl⟩
          go_wp2_with fail
          refine (keep_Picked x 1099511627776 _ (by decide) (by decide)).mono ?_
          rintro e w' ⟨rfl, rfl⟩
          by_cases hbr : 18014398509481984 < T
          · go_wp2_with (at_builtin; go_must (refine app_lit eltSample _ rfl _ _ rfl w.heap.size _ 0 [] rfl (World.ownsRow_nil _ _ _ _) 1 [_, _] _ rfl rfl rfl (one2 _ _ _ _) (by omega) (by omega) (by omega) ?_); intro v3 w3 hown3 hgr3 hbel3 _)
            go_roundw
            case rel =>
              refine ⟨j + 1, -18014398509481984 + (1 + x % 1099511627776), [(-18014398509481984, y / 512)], by omega, by omega, by go_num, val_int (by omega), by omega, by omega, ?_, ?_, ?_, by simp, by simpa [cellsF] using hown3, hbel3 _ hbel⟩
              · exact SOk.snoc SOk.nil (fun h => by cases h) (by omega) (by omega) (by unfold InR; omega)
              · exact VB.snoc VB.nil (by omega)
              · intro _
                show -18014398509481984 < _
                omega
            case measure => simp [intOf]; omega
          · go_wp2_with (at_builtin; go_must (refine app_lit eltSample _ rfl _ _ rfl w.heap.size _ _ _ rfl (by exact hown) 1 [_, _] _ rfl rfl rfl (one2 _ _ _ _) (by omega) (by omega) (by omega) ?_); intro v3 w3 hown3 hgr3 hbel3 _)
            go_roundw
            case rel =>
              refine ⟨j + 1, T + (1 + x % 1099511627776), S ++ [(T, y / 512)], by omega, by omega, by go_num, val_int (by omega), by omega, by omega, ?_, ?_, ?_, by simp; omega, ?_, hbel3 _ hbel⟩
              · exact HS.out.snoc HQ.out hT1 (by omega) (by unfold InR; omega)
              · exact HB.out.snoc (by omega)
              · intro _
                rw [List.foldl_append]
                show T < _
                omega
              · rw [List.length_append, cellsF_append]
                exact hown3
            case measure => simp [intOf]; omega
      · go_wp2
        go_ret
        exact ⟨_, S, rfl, HS.out, HB.out, by omega, hown, hbel⟩
    · go_wp2
      go_ret
      exact ⟨_, S, rfl, HS.out, HB.out, by omega, hown, hbel⟩

theorem keep_Samples (l : List (Int × Int × Bool)) (A : Option Addr) (n c : Nat) (first : Int) (lim : Nat) (w : World) (hb : RD w w.heap.size A n l) (hn : n ≤ 5864062014805) (hr : ∀ f ∈ l, (-9223372036854775808 ≤ f.1 ∧ f.1 ≤ 9223372036854775807) ∧ -9223372036854775808 ≤ f.2.1 ∧ f.2.1 ≤ 9223372036854775807)
    (r0 : -9223372036854775808 ≤ first ∧ first ≤ 9223372036854775807) (hl : lim ≤ 120) :
    Calls Tryd.prog 13 #[.slice A n c, .int .i64 first, .int .i64 lim] w fun e w' => ∃ v S, e = .returned v ∧ Hid (SOk S) ∧ S.length ≤ lim ∧ w'.ownsRow w.heap.size 39 2 v S.length (cellsF S) ∧ Below w.heap.size w w' := by
  refine (keep_SamplesV l A n c first lim w hb hn hr r0 hl).mono ?_
  rintro e w' ⟨v, S, h1, h2, _, h3⟩
  exact ⟨v, S, h1, h2, h3⟩
end Go.Proofs.YtnpabbinckcbaaaDoor
