/- What Encode does. No statement of the seat is proved here; no condition. -/
import Derived.Test.YtnpabbinckcbaaaDoorZig3
set_option linter.unusedSimpArgs false
set_option linter.unusedVariables false
namespace Go.Proofs.YtnpabbinckcbaaaDoor
open Go.RowKit Go.Ord Go.Baro

/-- What Encode leaves. -/
def EncPost (l : List Int) (w : World) (e : Ending) (w' : World) : Prop :=
  ∃ v, e = .returned (.tuple #[v, .int .i64 (encC l)]) ∧ w'.ownsRow w.heap.size 5 1 v (encY l).length ((encY l).map (Value.int .u8)) ∧ Below w.heap.size w w'
theorem enc_bad {l : List Int} {w w' : World} {k : Int} (h : encC l = k) (hk : k ≠ 0) (hb : Below w.heap.size w w') : EncPost l w (.returned (.tuple #[.slice none 0 0, .int .i64 k])) w' := by
  refine ⟨_, by rw [h], ?_, hb⟩
  rw [encY, if_neg (by omega)]
  exact World.ownsRow_nil _ _ _ _

set_option maxHeartbeats 4000000 in
theorem zig_Encode (l : List Int) (A : Option Addr) (n c : Nat) (w : World) (hT : Tab w) (hb : RI w w.heap.size .i64 A n l) (hn : n ≤ 140737488355328) (hr : ∀ x ∈ l, -9223372036854775808 ≤ x ∧ x ≤ 9223372036854775807) :
    Calls Tryd.prog 28 #[.slice A n c] w (EncPost l w) := by
  have HL := Lib.hid hb.len
  have h0 := hT.lt
  by_cases hbig : 240 < n
  · have HE := Lib.hid (encC_big (l := l) (by rw [HL.out]; exact hbig))
    go_enter Tryd.func28, Tryd.ntmps28
    go_wp2
    go_ret2
    exact enc_bad HE.out (by decide) (Below.refl _ _)
  · have HE := Lib.hid (encC_not (l := l) (by rw [HL.out]; exact hbig))
    go_enter Tryd.func28, Tryd.ntmps28
    go_wp2
    go_loopw [4, 15] (fun v i wr => ∃ (j : Nat) (fs : List (Int × Int)), j ≤ n ∧ i = .int .i64 j ∧ Hid (Pk fs (encB (l.take j))) ∧ wr.ownsRow w.heap.size 74 2 v fs.length (cellsF fs) ∧ Below w.heap.size w wr ∧ Hid (ckS l = ckS (l.drop j))) (fun _ i _ => n - (intOf i).toNat)
    case atStart => exact ⟨0, [], Nat.zero_le _, rfl, Pk.nil, World.ownsRow_nil _ _ _ _, Below.refl _ _, rfl⟩
    case round =>
      obtain ⟨j, fs, hj, rfl, HP, hown, hbel, HC⟩ := hrel
      have hblen : (encB (l.take j)).length ≤ 15120 := by
        have := encB_len (l.take j)
        rw [List.length_take, HL.out] at this
        omega
      have hpl := HP.out.len
      by_cases hlt : j < n
      · obtain ⟨b, o, x, rfl, _, hcell, HX, hmem⟩ := (hb.below hbel).val hlt
        have hx := hr x hmem
        by_cases hs : -288230376151711744 ≤ x ∧ x < 288230376151711744
        · go_wp2_with fail
          refine (zig_FoldS x _ hs).mono ?_
          rintro e w' ⟨⟨f, rfl, HF, f0, f1⟩, rfl⟩
          go_wp2_with fail
          refine (zig_firstFit f _ (hT.below hbel h0) f0 f1).mono ?_
          rintro e w1 ⟨rfl, hb1⟩
          unfold preV
          have hbel1 := hbel.trans (hb1.mono hbel.size)
          have hown1 := own_below hown hb1
          have hpk := zpre_ok f
          have hwk := zwid_ok f0 f1
          have hs1 := hbel1.size
          have hzl : zlen (zk f) ≤ 60 := by have := hpk.1.1.2; dsimp only at this; omega
          have HPK := Lib.hid hpk
          have HWK := Lib.hid hwk
          clear hpk hwk
          go_wp2_with fail
          refine (zig_addField fs _ _ _ u4 _ _ w.heap.size (hown1.alloc _) HP.out (by omega) HPK.out.1 (fun _ => HPK.out.2) (by simp; omega)).mono ?_
          rintro e w2 ⟨v2, fs2, rfl, HP2, HN2, hown2, hbel2, hgr2⟩
          have hp2 : w2.cell? ⟨w1.heap.size, 2, none⟩ = some (.int .i64 (zwid (zk f))) :=
            ((Box.new w1 70 [_, _, _]).grown hgr2 (fun h => by have := (hown1.lt _ h.symm).2; omega)).cell 2
          have hbelA : Below w.heap.size w w2 := (hbel1.alloc hs1 _).trans hbel2
          have hl2 := HP2.out.len
          rw [List.length_append, bitsV_length] at hl2
          go_wp2_with fail
          refine (zig_addField fs2 _ _ _ v2 _ _ w.heap.size hown2 HP2.out (by omega) HWK.out (fun h => absurd h HN2.out) hbelA.size).mono ?_
          rintro e w3 ⟨v3, fs3, rfl, HP3, HN3, hown3, hbel3, hgr3⟩
          go_wp2
          go_roundw
          case rel =>
            refine ⟨j + 1, fs3, by omega, by go_num, ?_, hown3, hbelA.trans hbel3, ?_⟩
            · show Pk _ _
              rw [enc_snoc (at_take HX.out) f HF.out]
              exact HP3.out
            · show _ = _
              rw [HC.out, at_drop HX.out, ckS_step hs]
          case measure => simp [intOf]; omega
        · go_wp2_with fail
          refine (zig_FoldO x _ (by omega) hx.1 hx.2).mono ?_
          rintro e w' ⟨rfl, rfl⟩
          go_wp2
          go_ret2
          exact enc_bad (by rw [HE.out, HC.out, at_drop HX.out, ckS_over hs]) (by decide) hbel
      · obtain rfl : j = n := by omega
        have hall : l.take j = l := List.take_of_length_le (by rw [HL.out]; omega)
        have HW := Lib.hid (pk_written HP.out hblen)
        rw [hall] at HW
        have hz : encC l = 0 := by rw [HE.out, HC.out, List.drop_eq_nil_of_le (by rw [HL.out]; omega)]; rfl
        have HZ := Lib.hid hz
        clear hz
        obtain ⟨B, cp, rfl, _⟩ := own_form hown
        have hrf : RF wr wr.heap.size B fs.length fs := Rd.of_own hown
        go_wp2_with fail
        refine (bits_Write fs _ _ _ _ hrf (by omega)).mono ?_
        rintro e w2 ⟨v2, rfl, hown2, hbel2⟩
        rw [HW.out.1, HW.out.2] at *
        go_wp2
        go_ret2
        refine ⟨_, ret_two rfl (val_int HZ.out.symm), ?_, hbel.trans (hbel2.mono hbel.size)⟩
        rw [encY, if_pos HZ.out]
        exact own_more hown2 hbel.size
end Go.Proofs.YtnpabbinckcbaaaDoor
