/- The walk of the law that the beginning of a right history is right, from what is asked of lin.Check. No statement of the seat is proved here. -/
import Derived.Test.YtdoniefhmmodbaaKeepLin3
set_option linter.unusedSimpArgs false
set_option linter.unusedVariables false
namespace Go.Baro
theorem partA_snoc (t : Int) (l : List Ac) (a : Ac) : partA t (l ++ [a]) = partA t l ++ (if a.b ≤ t then [cutA t a] else []) := by
  unfold partA
  rw [List.filter_append, List.map_append]
  by_cases h : a.b ≤ t
  · rw [if_pos h, List.filter_cons_of_pos (by simpa using h)]; rfl
  · rw [if_neg h, List.filter_cons_of_neg (by simpa using h)]; rfl
theorem partA_len (t : Int) (l : List Ac) : (partA t l).length ≤ l.length := by
  unfold partA
  rw [List.length_map]
  exact List.length_filter_le _ _
theorem part_right {k first t : Int} {l : List Dl} (hk : 1 ≤ k ∧ k ≤ 4) (hf : 0 ≤ first ∧ first ≤ 4) (ht : 0 ≤ t) :
    LcR k first (partA t (sqA k true 0 (has0 k first) (l.take 9))) true 0 ∧ ∀ x ∈ partA t (sqA k true 0 (has0 k first) (l.take 9)), inA x := by
  obtain ⟨h1, h2⟩ := sq_okL (wide := true) (l := l) hk hf
  have hm : ∀ x ∈ partA t (sqA k true 0 (has0 k first) (l.take 9)), okA k x ∧ inA x := by
    intro x hx
    unfold partA at hx
    obtain ⟨a, ha, rfl⟩ := List.mem_map.1 hx
    obtain ⟨⟨⟨q1, q1'⟩, q2, q3, q4, q5⟩, ⟨w1, w2, w3, w4⟩, _⟩ := h2 a (List.mem_filter.1 ha).1
    have he : (cutA t a).e = -1 ∨ (cutA t a).e = a.e := by unfold cutA; dsimp only; split; exact .inl rfl; exact .inr rfl
    refine ⟨⟨⟨q1, q1'⟩, ?_, ?_, q4, q5⟩, w1, ?_, w3, w4⟩
    · rcases he with he | he <;> rw [he]; omega; exact q2
    · rcases he with he | he
      · exact .inr he
      · rw [he]; exact q3
    · rcases he with he | he <;> rw [he]
      · unfold inW; omega
      · exact w2
  exact ⟨.inr ⟨⟨hk, Nat.le_trans (partA_len _ _) h1.2.1, fun x hx => (hm x hx).1⟩, by simp only [true_iff]; exact sq_part _ 0 _ (has0_ok hf), rfl⟩, fun x hx => (hm x hx).2⟩
end Go.Baro
namespace Go.Proofs.Ytdoniefhmmodbaa
open Go.RowKit Go.Ord Go.Baro

set_option maxRecDepth 100000 in
set_option maxHeartbeats 2000000 in
theorem keep_LinPartP (hP : LinCheckSpec) (w : World) (x0 : Int) (r0 : -9223372036854775808 ≤ x0 ∧ x0 ≤ 9223372036854775807) (x1 : Int) (r1 : -9223372036854775808 ≤ x1 ∧ x1 ≤ 9223372036854775807) (A2 : Option Addr) (n2 c2 : Nat) (x2 : List Dl) (h2 : RD w w.heap.size A2 n2 x2) (b2 : n2 ≤ 3518437208883) (r2 : ∀ f ∈ x2, inD f) (k2 : n2 ≤ c2)
    (x3 : Int) (r3 : -9223372036854775808 ≤ x3 ∧ x3 ≤ 9223372036854775807) :
    Calls Try.prog 7 #[.int .i64 x0, .int .i64 x1, .slice A2 n2 c2, .int .i64 x3] w fun e w' => e = .returned (.bool true) ∧ Below w.heap.size w w' := by
  have HP := Lib.hid hP
  have HI := Lib.hid r2
  obtain ⟨k, hk⟩ : ∃ k, k = 1 + x0 % 4 := ⟨_, rfl⟩
  obtain ⟨f, hf⟩ : ∃ f, f = x1 % 5 := ⟨_, rfl⟩
  obtain ⟨t, ht⟩ : ∃ t, t = x3 % 260 := ⟨_, rfl⟩
  have hk1 : 1 ≤ k ∧ k ≤ 4 := by omega
  have hf1 : 0 ≤ f ∧ f ≤ 4 := by omega
  have ht1 : 0 ≤ t ∧ t < 260 := by omega
  have hx4 : 0 ≤ x0 % 4 ∧ x0 % 4 < 4 := by omega
  have HK := Lib.hid hk
  have HF := Lib.hid hf
  have HT := Lib.hid ht
  have h0 := Below.refl w.heap.size w
  clear hP r2 hk hf ht
  go_enter Try.func7, Try.ntmps7
  go_wp2_with fail
  refine (keep_Picked x0 4 _ (by omega) (by omega)).mono ?_
  rintro e w' ⟨rfl, rfl⟩
  go_wp2_with fail
  refine (keep_Picked x1 5 _ (by omega) (by omega)).mono ?_
  rintro e w' ⟨rfl, rfl⟩
  rw [← HK.out, ← HF.out]
  go_wp2_with fail
  refine (keep_Sequence w k f A2 n2 c2 x2 true hk1 hf1 h2 b2 HI.out).mono ?_
  rintro e w1 ⟨A3, n3, c3, rfl, ho3, hn3, hlc3, hb1⟩
  have hs1 := hb1.size
  obtain ⟨S, hS⟩ : ∃ S, S = sqA k true 0 (has0 k f) (x2.take 9) := ⟨_, rfl⟩
  rw [← hS] at ho3
  have HS := Lib.hid hS
  have HRA : Hid (RA w1 w1.heap.size A3 n3 S) := Rd.of_own ho3
  have HLS := Lib.hid HRA.out.len
  clear hS ho3
  go_wp2_with fail
  refine (keep_Picked x3 260 _ (by omega) (by omega)).mono ?_
  rintro e w' ⟨rfl, rfl⟩
  rw [← HT.out]
  go_wp2
  go_loopw [13, 14] (fun ov i wr => ∃ (j no : Nat) (Ao : Option Addr) (co : Nat), j ≤ n3 ∧ no ≤ j ∧ i = .int .i64 j ∧ ov = .slice Ao no co ∧ Hid (wr.ownsRow w1.heap.size 34 5 ov no ((partA t (S.take j)).flatMap acV)) ∧ Below w1.heap.size w1 wr) (fun _ i _ => n3 - (intOf i).toNat)
  case atStart => exact ⟨0, 0, none, 0, Nat.zero_le _, Nat.le_refl _, rfl, rfl, World.ownsRow_nil _ _ _ _, Below.refl _ _⟩
  case round =>
    obtain ⟨j, no, Ao, co, hj, hno, rfl, rfl, HO, hbel⟩ := hrel
    have hsz := hbel.size
    by_cases hjm : j < n3
    · obtain ⟨b, o, a, rfl, hbB, d0, d1, d2, d3, d4, HX, hmem⟩ := (HRA.out.below hbel).val hjm
      obtain ⟨ab, ae, ap, av, aa⟩ := a
      dsimp only at d0 d1 d2 d3 d4
      have lb : b < wr.heap.size := by omega
      clear hmem
      by_cases c1 : t < ab
      · go_wp2
        go_roundw
        case rel =>
          refine ⟨j + 1, no, Ao, co, by omega, by omega, by go_num, rfl, ?_, hbel⟩
          show World.ownsRow _ _ _ _ _ _ _
          rw [at_take HX.out, partA_snoc, if_neg (by dsimp only; omega), List.append_nil]
          exact HO.out
        case measure => simp [intOf]; omega
      · obtain ⟨E, hE⟩ : ∃ E, E = if t < ae then -1 else ae := ⟨_, rfl⟩
        have HE := Lib.hid hE
        have HEND : Hid (∀ (w6 : World) (v6 : Value) (ob : Obj), w6.ownsRow w1.heap.size 34 5 v6 (no + 1) ((partA t (S.take j)).flatMap acV ++ [.int .i64 ab, .int .i64 E, .bool ap, .int .i64 av, .int .i64 aa]) → ((wr.alloc (Obj.cells #[.int .i64 ab, .int .i64 E, .bool ap, .int .i64 av, .int .i64 aa] 34)).alloc ob).grownBy w6 (Value.slice Ao no co).ownBlock →
            Hid (w6.ownsRow w1.heap.size 34 5 v6 (no + 1) ((partA t (S.take (j + 1))).flatMap acV)) ∧ Below w1.heap.size w1 w6 ∧ ∃ A c, v6 = .slice A (no + 1) c) := by
          intro w6 v6 ob hown hg
          refine ⟨?_, ?_, ?_⟩
          · show World.ownsRow _ _ _ _ _ _ _
            rw [at_take HX.out, partA_snoc, if_pos (by dsimp only; omega), List.flatMap_append]
            have he : [cutA t ⟨ab, ae, ap, av, aa⟩].flatMap acV = [.int .i64 ab, .int .i64 E, .bool ap, .int .i64 av, .int .i64 aa] := by
              simp only [List.flatMap_cons, List.flatMap_nil, List.append_nil, acV, cutA]
              rw [HE.out]
            rw [he]
            exact hown
          · exact ((hbel.alloc hsz _).alloc (by simp; omega) _).grown hg (by simp; omega) (fun q hq => (HO.out.lt q hq).1)
          · obtain ⟨A, c, he, _⟩ := own_form hown
            exact ⟨A, c, he⟩
        clear hE
        have HOA := Lib.hid (HO.out.alloc (Obj.cells #[.int .i64 ab, .int .i64 E, .bool ap, .int .i64 av, .int .i64 aa] 34))
        by_cases c2 : t < ae
        · have hE1 : E = -1 := by rw [HE.out, if_pos c2]
          rw [hE1] at HEND HOA
          clear hE1
          go_wp2_with (at_builtin; go_must (refine app_litB eltAct (wr.alloc (Obj.cells #[.int .i64 ab, .int .i64 (-1), .bool ap, .int .i64 av, .int .i64 aa] 34)) rfl _ _ rfl w1.heap.size (.slice Ao no co) no ((partA t (S.take j)).flatMap acV) rfl HOA.out 1 [.int .i64 ab, .int .i64 (-1), .bool ap, .int .i64 av, .int .i64 aa] _ (by simp) rfl rfl (oneAct _ _ _ _ _) (by omega) (by omega) (by simp; omega) ?_); intro v6 w6 hown6 hg6 hblk6)
          obtain ⟨hr1, hr2, A6, c6, he6⟩ := HEND.out w6 v6 _ hown6 hg6
          clear hown6 hg6 hblk6
          go_roundw
          case rel => exact ⟨j + 1, no + 1, A6, c6, by omega, by omega, by go_num, he6, hr1, hr2⟩
          case measure => simp [intOf]; omega
        · have hE1 : E = ae := by rw [HE.out, if_neg c2]
          rw [hE1] at HEND HOA
          clear hE1
          go_wp2_with (at_builtin; go_must (refine app_litB eltAct (wr.alloc (Obj.cells #[.int .i64 ab, .int .i64 ae, .bool ap, .int .i64 av, .int .i64 aa] 34)) rfl _ _ rfl w1.heap.size (.slice Ao no co) no ((partA t (S.take j)).flatMap acV) rfl HOA.out 1 [.int .i64 ab, .int .i64 ae, .bool ap, .int .i64 av, .int .i64 aa] _ (by simp) rfl rfl (oneAct _ _ _ _ _) (by omega) (by omega) (by simp; omega) ?_); intro v6 w6 hown6 hg6 hblk6)
          obtain ⟨hr1, hr2, A6, c6, he6⟩ := HEND.out w6 v6 _ hown6 hg6
          clear hown6 hg6 hblk6
          go_roundw
          case rel => exact ⟨j + 1, no + 1, A6, c6, by omega, by omega, by go_num, he6, hr1, hr2⟩
          case measure => simp [intOf]; omega
    · obtain rfl : n3 = j := by omega
      have hO := HO.out
      rw [List.take_of_length_le (by rw [HLS.out]; omega)] at hO
      have HO := Lib.hid hO
      have hlc : no ≤ co := by
        obtain ⟨_, _, he, hlc⟩ := own_form HO.out
        injection he with he1 he2 he3
        rw [he3]; exact hlc
      have hw := part_right (l := x2) (t := t) hk1 hf1 ht1.1
      rw [← HS.out] at hw
      have HW := Lib.hid hw
      have hb2 : Below w.heap.size w wr := hb1.trans (hbel.mono hs1)
      clear hO hw
      go_wp2_with fail
      refine (check_own HP.out wr _ Ao no co _ k f true 0 HO.out (by omega) hlc HW.out.2 hf1 HW.out.1).mono ?_
      rintro e w6 ⟨rfl, hb6⟩
      have hb7 := hb2.trans (hb6.mono hb2.size)
      go_wp2_with fail
      refine (keep_linSure HP.out w6).mono ?_
      rintro e w8 ⟨rfl, hb8⟩
      go_wp2
      go_ret
      exact ⟨rfl, hb7.trans (hb8.mono hb7.size)⟩
end Go.Proofs.Ytdoniefhmmodbaa
