/- What the document's answer to chunk.Encode does. No statement of the seat is proved here; no condition. -/
import Derived.Test.YtekojlepmfmmpaaDoorRefChunk
import Derived.Test.YtekojlepmfmmpaaDoorChunk2
set_option linter.unusedSimpArgs false
set_option linter.unusedVariables false
namespace Go.Proofs.YtekojlepmfmmpaaDoor
open Go.RowKit Go.Ord Go.Baro

/-- A row that was made later lies in another block. -/
theorem apart_new {w w' : World} {b1 : Nat} {e1 e2 : TypeId} {s1 n1 s2 n2 : Nat} {v1 v2 : Value} {xs1 xs2 : List Value} (h1 : w.ownsRow b1 e1 s1 v1 n1 xs1) (h2 : w'.ownsRow w.heap.size e2 s2 v2 n2 xs2) : v2.ownBlock = none ∨ v2.ownBlock ≠ v1.ownBlock := by
  cases h : v2.ownBlock with
  | none => exact .inl rfl
  | some k =>
    refine .inr fun he => ?_
    have g1 := (h2.lt k h).1
    have g2 := (h1.lt k he.symm).2
    omega

set_option maxHeartbeats 2000000 in
theorem ref_ChunkEncoded (l : List (Int × Int)) (A : Option Addr) (n c : Nat) (w : World) (hb : RF w w.heap.size A n l) (hn : n ≤ 8796093022208) :
    Calls Tryd.prog 10 #[.slice A n c] w (ChPost l w) := by
  have HL := Lib.hid hb.len
  by_cases hz : chC l = 0
  · have HZ := Lib.hid hz
    have hzz := chC_zero hz
    have hn2 : n ≤ 120 := by rw [← HL.out]; exact hzz.1
    have HSM := Lib.hid (numL_small st0_ok hzz.2)
    have HNL := Lib.hid (show (numL st0 l).length = 2 * n by rw [numL_len, HL.out])
    clear hz hzz
    go_enter Tryd.func10, Tryd.ntmps10
    go_wp2_with fail
    refine (ref_SamplesFault l A n c w hb hn).mono ?_
    rintro e w1 ⟨rfl, hb1⟩
    rw [HZ.out]
    go_wp2_with fail
    refine (ref_bitList [(8, (n : Int))] _ 1 _ _ (rf_lit w1 _ 1 [(8, (n : Int))] rfl) (by decide) (by intro f hf; simp at hf; subst hf; exact ⟨⟨by dsimp only; omega, by dsimp only; omega⟩, by dsimp only; omega, by show (n : Int) < 2 ^ 8; omega⟩)).mono ?_
    rintro e w2 ⟨v2, rfl, hown2, hb2⟩
    have hbel2 : Below w.heap.size w w2 := (hb1.alloc hb1.size _).trans (hb2.mono (by have := hb1.size; simp; omega))
    have hown2' : w2.ownsRow w.heap.size 3 1 v2 8 ((bitsV 8 (n : Int)).map (Value.int .i64)) := by
      rw [bitsF_one] at hown2
      exact own_more hown2 (by have := hb1.size; simp; omega)
    clear hown2
    go_wp2_with fail
    refine (ref_chunkNumbers l A n c w2 ((hb.below hbel2).more hbel2.size) HZ.out).mono ?_
    rintro e w3 ⟨v3, rfl, hown3, hb3⟩
    have hap := apart_new hown2' hown3
    have hownB := own_below hown2' hb3
    have hownN : w3.ownsRow w.heap.size 3 1 v3 (2 * n) ((numL st0 l).map (Value.int .i64)) := own_more hown3 hbel2.size
    have hbel3 : Below w.heap.size w w3 := hbel2.trans (hb3.mono hbel2.size)
    obtain ⟨B3, c3, rfl, hc3⟩ := own_form hownN
    clear hown2' hown3
    go_wp2
    go_loopw [5, 23] (fun v i wr => ∃ (j N : Nat), j ≤ 2 * n ∧ i = .int .i64 j ∧ Hid (N = (bitsV 8 (n : Int) ++ encB ((numL st0 l).take j)).length) ∧ wr.ownsRow w.heap.size 3 1 v N ((bitsV 8 (n : Int) ++ encB ((numL st0 l).take j)).map (Value.int .i64)) ∧
        wr.ownsRow w.heap.size 3 1 (.slice B3 (2 * n) c3) (2 * n) ((numL st0 l).map (Value.int .i64)) ∧ Hid (Value.ownBlock (.slice B3 (2 * n) c3) = none ∨ Value.ownBlock (.slice B3 (2 * n) c3) ≠ v.ownBlock) ∧ Below w.heap.size w wr) (fun _ i _ => 2 * n - (intOf i).toNat)
    case atStart => exact ⟨0, 8, Nat.zero_le _, rfl, by show _ = _; simp [encB, bitsV_len], by simpa [encB] using hownB, hownN, hap, hbel3⟩
    case round =>
      clear hownB hownN hap hbel3
      obtain ⟨j, N, hj, rfl, HN, hown, hownN, HAP, hbel⟩ := hrel
      have hblen : N ≤ 15128 := by
        have := encB_len ((numL st0 l).take j)
        rw [HN.out, List.length_append, bitsV_len]
        rw [List.length_take, HNL.out] at this
        omega
      by_cases hlt : j < 2 * n
      · have hri : RI wr wr.heap.size .i64 B3 (2 * n) (numL st0 l) := Rd.of_own hownN
        obtain ⟨b, o, x, rfl, _, hcell, HX, hmem⟩ := hri.val hlt
        have hs := HSM.out x hmem
        unfold Small at hs
        go_wp2_with fail
        refine (ref_ZigFoldS x _ hs).mono ?_
        rintro e w' ⟨⟨f, rfl, HF, f0, f1⟩, rfl⟩
        have hzs := zsize_le f
        go_wp2_with fail
        refine (ref_zigFields f _ f0).mono ?_
        rintro e w5 ⟨⟨A1, k1, c1, rfl, hf⟩, hb5⟩
        go_wp2_with fail
        refine (ref_zigBits f A1 k1 c1 _ f0 f1 hf).mono ?_
        rintro e w6 ⟨v6, rfl, hown6, hb6⟩
        have hbelA : Below w.heap.size w w6 := (hbel.trans (hb5.mono hbel.size)).trans (hb6.mono (Nat.le_trans hbel.size hb5.size))
        have hownA := own_below (own_below hown hb5) hb6
        have hownNA := own_below (own_below hownN hb5) hb6
        obtain ⟨B6, c6, rfl, hc6⟩ := own_form hown6
        have hrd : Rd w6 w6.heap.size 1 B6 (zsize f) ((zbits f).map (Value.int .i64)) := Rd.of_own hown6
        go_wp2_with (at_builtin; go_must (refine app_srcB eltInt _ rfl _ _ rfl w.heap.size _ _ _ rfl hownA B6 (zsize f) c6 _ rfl _ hrd (one_ints _ _) (by omega) (by omega) hbelA.size ?_); intro v' w7 hown7 hgr7 hbel7 _ hblk)
        have HA := Lib.hid (apart_next hownNA HAP.out hblk)
        have hownN7 := own_apart hownNA HAP.out hgr7
        clear hblk
        go_roundw
        case rel =>
          have he : bitsV 8 (n : Int) ++ encB ((numL st0 l).take (j + 1)) = (bitsV 8 (n : Int) ++ encB ((numL st0 l).take j)) ++ zbits f := by rw [at_take HX.out, encB_snoc, HF.out, List.append_assoc]
          refine ⟨j + 1, N + zsize f, by omega, by go_num, ?_, ?_, hownN7, HA.out, hbel7 _ hbelA⟩
          · show _ = _
            rw [he, List.length_append, ← HN.out, zbits_len]
          · rw [he, List.map_append]; exact hown7
        case measure => simp [intOf]; omega
      · obtain rfl : j = 2 * n := by omega
        have hall : (numL st0 l).take (2 * n) = numL st0 l := List.take_of_length_le (by rw [HNL.out]; omega)
        rw [hall] at hown HN
        obtain ⟨B, cp, rfl, _⟩ := own_form hown
        have hri : RI wr wr.heap.size .i64 B N (bitsV 8 (n : Int) ++ encB (numL st0 l)) := Rd.of_own hown
        go_wp2_with fail
        refine (ref_byteList (bitsV 8 (n : Int) ++ encB (numL st0 l)) _ _ _ _ hri (by omega) (by
          intro b hb
          rcases List.mem_append.1 hb with h | h
          · exact bits01V _ _ b h
          · exact encB_01 _ b h)).mono ?_
        rintro e w8 ⟨v8, rfl, hown8, hbel8⟩
        go_wp2
        go_ret2
        refine ⟨_, ret_two rfl (val_int HZ.out.symm), ?_, hbel.trans (hbel8.mono hbel.size)⟩
        rw [chY_bits HZ.out, HL.out]
        exact own_more hown8 hbel.size
  · obtain ⟨k, hkk⟩ : ∃ k, k = chC l := ⟨_, rfl⟩
    have HKK := Lib.hid hkk
    have HZ := Lib.hid hz
    have hkb : (k != 0) = true := by rw [hkk]; simp [hz]
    clear hz hkk
    go_enter Tryd.func10, Tryd.ntmps10
    go_wp2_with fail
    refine (ref_SamplesFault l A n c w hb hn).mono ?_
    rintro e w1 ⟨rfl, hb1⟩
    rw [← HKK.out]
    go_wp2
    go_ret2
    exact ch_bad HKK.out.symm (by rw [HKK.out]; exact HZ.out) hb1
end Go.Proofs.YtekojlepmfmmpaaDoor
