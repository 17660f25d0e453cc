/- The walk of the law that how the operations are told does not matter, from what is asked of lin.Check. No statement of the seat is proved here. -/
import Derived.Test.YtdoniefhmmodbaaKeepLinTellsP
import Derived.Test.YtdoniefhmmodbaaLibL
set_option linter.unusedSimpArgs false
set_option linter.unusedVariables false
namespace Go.Baro
/-- Turned round by q. -/
def rotA (q : Nat) (l : List Ac) : List Ac := l.drop q ++ l.take q
theorem rotA_len (q : Nat) (l : List Ac) : (rotA q l).length = l.length := by unfold rotA; rw [List.length_append, List.length_drop, List.length_take]; omega
theorem rotA_at {q j : Nat} {l : List Ac} (hq : q < l.length) (hj : j < l.length) : (rotA q l)[j]? = l[(j + q) % l.length]? := by
  unfold rotA
  by_cases h : j + q < l.length
  · rw [List.getElem?_append_left (by rw [List.length_drop]; omega), List.getElem?_drop, Nat.mod_eq_of_lt h, Nat.add_comm]
  · rw [List.getElem?_append_right (by rw [List.length_drop]; omega), List.length_drop, List.getElem?_take_of_lt (by omega), Nat.mod_eq_sub_mod (by omega), Nat.mod_eq_of_lt (by omega)]
    congr 1
    omega
theorem rotA_perm (q : Nat) (l : List Ac) : (rotA q l).Perm l := by
  unfold rotA
  conv => rhs; rw [← List.take_append_drop q l]
  exact List.perm_append_comm
/-- Turned and later: as right as it was. -/
theorem turned_right {k first d : Int} {q : Nat} {S : List Ac} (hk : 1 ≤ k ∧ k ≤ 4) (hd : 0 ≤ d ∧ d < 1000) (hn : S.length ≤ 9) (hS : ∀ a ∈ S, okA k a ∧ inA a ∧ a.b ≤ 300 ∧ a.e ≤ 300) :
    ∃ r : Bool, LcR k first S r 0 ∧ LcR k first (((rotA q S).map (shA d)).reverse) r 0 ∧ (∀ a ∈ S, inA a) ∧ ∀ a ∈ ((rotA q S).map (shA d)).reverse, inA a := by
  have hp : (((rotA q S).map (shA d)).reverse).Perm (S.map (shA d)) := (List.reverse_perm _).trans ((rotA_perm q S).map _)
  have hm : ∀ a ∈ ((rotA q S).map (shA d)).reverse, okA k a ∧ inA a := by
    intro a ha
    obtain ⟨c, hc, rfl⟩ := List.mem_map.1 (hp.mem_iff.1 ha)
    obtain ⟨⟨⟨q1, q1'⟩, q2, q3, q4, q5⟩, ⟨⟨w1, w1'⟩, ⟨w2, w2'⟩, w3, w4⟩, b1, b2⟩ := hS c hc
    have he : (shA d c).e = -1 ∨ ((shA d c).e = c.e + d ∧ c.e ≠ -1) := by
      unfold shA; dsimp only
      split
      · exact .inl rfl
      · exact .inr ⟨rfl, by assumption⟩
    have hb : (shA d c).b = c.b + d := rfl
    refine ⟨⟨⟨by omega, by omega⟩, by omega, by omega, q4, q5⟩, ⟨by omega, by omega⟩, ⟨by omega, by omega⟩, w3, w4⟩
  refine ⟨@decide (Lin k (has0 k first) S) (Classical.propDecidable _), .inr ⟨⟨hk, hn, fun a ha => (hS a ha).1⟩, by simp, rfl⟩, .inr ⟨⟨hk, ?_, fun a ha => (hm a ha).1⟩, ?_, rfl⟩, fun a ha => (hS a ha).2.1, fun a ha => (hm a ha).2⟩
  · rw [List.length_reverse, List.length_map, rotA_len]; exact hn
  · have h1 : Lin k (has0 k first) (((rotA q S).map (shA d)).reverse) ↔ Lin k (has0 k first) S := by
      rw [← lin_later (k := k) (has := has0 k first) (left := S) hd.1 (fun a ha => by have := (hS a ha).1; obtain ⟨⟨q1, _⟩, _, q3, _⟩ := this; omega)]
      exact ⟨fun h => h.perm hp, fun h => h.perm hp.symm⟩
    rw [h1]
    simp
end Go.Baro
namespace Go.Proofs.Ytdoniefhmmodbaa
open Go.RowKit Go.Ord Go.Baro

set_option maxRecDepth 100000 in
set_option maxHeartbeats 2000000 in
theorem keep_LinTurnedP (hP : LinCheckSpec) (w : World) (x0 : Int) (r0 : -9223372036854775808 ≤ x0 ∧ x0 ≤ 9223372036854775807) (x1 : Int) (r1 : -9223372036854775808 ≤ x1 ∧ x1 ≤ 9223372036854775807) (A2 : Option Addr) (n2 c2 : Nat) (x2 : List Dl) (h2 : RD w w.heap.size A2 n2 x2) (b2 : n2 ≤ 3518437208883) (r2 : ∀ f ∈ x2, inD f) (k2 : n2 ≤ c2)
    (x3 : Int) (r3 : -9223372036854775808 ≤ x3 ∧ x3 ≤ 9223372036854775807) (x4 : Int) (r4 : -9223372036854775808 ≤ x4 ∧ x4 ≤ 9223372036854775807) (x5 : Int) (r5 : -9223372036854775808 ≤ x5 ∧ x5 ≤ 9223372036854775807) :
    Calls Try.prog 9 #[.int .i64 x0, .int .i64 x1, .slice A2 n2 c2, .int .i64 x3, .int .i64 x4, .int .i64 x5] w fun e w' => e = .returned (.bool true) ∧ Below w.heap.size w w' := by
  have HP := Lib.hid hP
  have HI := Lib.hid r2
  obtain ⟨k, hk⟩ : ∃ k, k = 1 + x0 % 4 := ⟨_, rfl⟩
  obtain ⟨f, hf⟩ : ∃ f, f = x1 % 5 := ⟨_, rfl⟩
  obtain ⟨y, hy⟩ : ∃ y, y = x4 % 4 := ⟨_, rfl⟩
  obtain ⟨d, hd⟩ : ∃ d, d = x5 % 1000 := ⟨_, rfl⟩
  have hk1 : 1 ≤ k ∧ k ≤ 4 := by omega
  have hf1 : 0 ≤ f ∧ f ≤ 4 := by omega
  have hy1 : 0 ≤ y ∧ y < 4 := by omega
  have hd1 : 0 ≤ d ∧ d < 1000 := by omega
  have hx4 : 0 ≤ x0 % 4 ∧ x0 % 4 < 4 := by omega
  have HK := Lib.hid hk
  have HF := Lib.hid hf
  have HY := Lib.hid hy
  have HD := Lib.hid hd
  have h0 := Below.refl w.heap.size w
  clear hP r2 hk hf hy hd
  go_enter Try.func9, Try.ntmps9
  go_wp2_with fail
  refine (keep_Picked x0 4 _ (by omega) (by omega)).mono ?_
  rintro e w' ⟨rfl, rfl⟩
  go_wp2_with fail
  refine (keep_Picked x1 5 _ (by omega) (by omega)).mono ?_
  rintro e w' ⟨rfl, rfl⟩
  rw [← HK.out, ← HF.out]
  go_wp2_with fail
  refine (keep_Sequence w k f A2 n2 c2 x2 true hk1 hf1 h2 b2 HI.out).mono ?_
  rintro e w1 ⟨A3, n3, c3, rfl, ho3, hn3, hlc3, hb1⟩
  have hs1 := hb1.size
  obtain ⟨S, hS⟩ : ∃ S, S = sqA k true 0 (has0 k f) (x2.take 9) := ⟨_, rfl⟩
  rw [← hS] at ho3
  have HV0 : Hid (∀ a ∈ S, okA k a ∧ inA a ∧ a.b ≤ 300 ∧ a.e ≤ 300) := fun a ha => by
    rw [hS] at ha
    have := (sq_okL hk1 hf1).2 a ha
    exact ⟨this.1, this.2.1, this.2.2.2.2.1, this.2.2.2.2.2⟩
  have HO := Lib.hid ho3
  clear hS ho3
  obtain ⟨q, hq⟩ : ∃ q : Nat, 0 < n3 → (q : Int) = x5 % n3 ∧ q < n3 := ⟨(x5 % n3).toNat, fun h => by have := Int.emod_nonneg x5 (show (n3 : Int) ≠ 0 by omega); have := Int.emod_lt_of_pos x5 (show (0 : Int) < n3 by omega); omega⟩
  have HQ := Lib.hid hq
  clear hq
  by_cases hz : n3 = 0
  · subst hz
    obtain ⟨wS, rfl⟩ : ∃ wS, wS = w1 := ⟨w1, rfl⟩
    obtain ⟨S', rfl⟩ : ∃ S', S' = S := ⟨S, rfl⟩
    go_wp2
    have HLS := Lib.hid (RA.len (Rd.of_own HO.out))
    obtain ⟨r, t1, t2, t3, t4⟩ := turned_right (k := k) (first := f) (d := d) (q := q) (S := S') hk1 hd1 (by rw [HLS.out]; exact hn3) HV0.out
    have HTR := Lib.hid (And.intro t1 (And.intro t2 (And.intro t3 t4)))
    clear t1 t2 t3 t4
    go_loopw [17, 18] (fun ov i wr => ∃ (j : Nat) (Ao : Option Addr) (co : Nat), j ≤ 0 ∧ i = .int .i64 j ∧ ov = .slice Ao j co ∧ j ≤ co ∧ Hid (RA wr wr.heap.size Ao j ((((rotA q S').take j).map (shA d)).reverse)) ∧ Below wS.heap.size wS wr) (fun _ i _ => 0 - (intOf i).toNat)
    case atStart => exact ⟨0, none, 0, Nat.zero_le _, rfl, rfl, Nat.le_refl _, ⟨rfl, fun h => absurd h (by omega)⟩, Below.refl _ _⟩
    case round =>
      obtain ⟨j, Ao, co, hj, rfl, rfl, hjc, HRA, hbel⟩ := hrel
      have hsz := hbel.size
      by_cases hjm : j < 0
      · exact absurd hjm (by omega)
      · obtain rfl : 0 = j := by omega
        have hR := HRA.out
        rw [List.take_of_length_le (by rw [rotA_len, HLS.out]; omega)] at hR
        have HRA := Lib.hid hR
        have hb2 : Below w.heap.size w wr := hb1.trans (hbel.mono hs1)
        have hs2 := hb2.size
        have HOR := Lib.hid ((Rd.below (Rd.of_own HO.out) hbel : Rd wr wS.heap.size 5 _ 0 (S'.flatMap acV)).more hsz)
        clear hR
        go_wp2_with fail
        refine (HP.out wr _ 0 _ S' k f r 0 HOR.out (by omega) hlc3 HTR.out.2.2.1 (by unfold inW; omega) HTR.out.1).mono ?_
        rintro e w6 ⟨rfl, hb6⟩
        have hb7 := hb2.trans (hb6.mono hs2)
        go_wp2_with fail
        refine (HP.out w6 Ao 0 co _ k f r 0 ((HRA.out.below hb6).more hb6.size) (by omega) hjc HTR.out.2.2.2 (by unfold inW; omega) HTR.out.2.1).mono ?_
        rintro e w7 ⟨rfl, hb8⟩
        have hb9 := hb7.trans (hb8.mono hb7.size)
        cases r with
        | true =>
          go_wp2_with fail
          refine (keep_linSure HP.out w7).mono ?_
          rintro e w8 ⟨rfl, hb10⟩
          go_wp2
          go_ret
          exact ⟨rfl, hb9.trans (hb10.mono hb9.size)⟩
        | false =>
          go_wp2_with fail
          refine (keep_linSure HP.out w7).mono ?_
          rintro e w8 ⟨rfl, hb10⟩
          go_wp2
          go_ret
          exact ⟨rfl, hb9.trans (hb10.mono hb9.size)⟩
  · have hz2 : ((n3 : Int) == 0) = false := by simp; omega
    have hpos : 0 < n3 := by omega
    obtain ⟨i, hi⟩ : ∃ i : Nat, (i : Int) = x3 % n3 := ⟨(x3 % n3).toNat, by have := Int.emod_nonneg x3 (show (n3 : Int) ≠ 0 by omega); omega⟩
    have hin : i < n3 := by have := Int.emod_lt_of_pos x3 (show (0 : Int) < n3 by omega); omega
    have HIX := Lib.hid hi
    obtain ⟨g, c', hg, hBg, hgs, _⟩ := own_some HO.out (by omega)
    injection hg with hg1 hg2 hg3
    subst hg1 hg3
    obtain ⟨b, o, a, hA, hbB, d0, d1, d2, d3, d4, HX, hmem⟩ := RA.val (Rd.of_own HO.out) hin
    injection hA with hA
    injection hA with hA1 hA2
    subst hA1 hA2
    have hva := HV0.out a hmem
    obtain ⟨ab, ae, ap, av, aa⟩ := a
    dsimp only at d0 d1 d2 d3 d4
    rw [Nat.zero_add] at d0 d1 d2 d3 d4
    have f3 := HO.out.frozenAt (i * 5 + 3)
    clear hmem hi
    go_wp2_with fail
    refine (keep_Picked x3 n3 _ (by omega) (by omega)).mono ?_
    rintro e w' ⟨rfl, rfl⟩
    rw [← HIX.out]
    cases ap with
    | true =>
      obtain ⟨wS, rfl⟩ : ∃ wS, wS = w1 := ⟨w1, rfl⟩
      obtain ⟨S', rfl⟩ : ∃ S', S' = S := ⟨S, rfl⟩
      clear d0 d1 d3 d4 f3 hva
      go_wp2
      have HLS := Lib.hid (RA.len (Rd.of_own HO.out))
      obtain ⟨r, t1, t2, t3, t4⟩ := turned_right (k := k) (first := f) (d := d) (q := q) (S := S') hk1 hd1 (by rw [HLS.out]; exact hn3) HV0.out
      have HTR := Lib.hid (And.intro t1 (And.intro t2 (And.intro t3 t4)))
      clear t1 t2 t3 t4
      go_loopw [17, 18] (fun ov i wr => ∃ (j : Nat) (Ao : Option Addr) (co : Nat), j ≤ n3 ∧ i = .int .i64 j ∧ ov = .slice Ao j co ∧ j ≤ co ∧ Hid (RA wr wr.heap.size Ao j ((((rotA q S').take j).map (shA d)).reverse)) ∧ Below wS.heap.size wS wr) (fun _ i _ => n3 - (intOf i).toNat)
      case atStart => exact ⟨0, none, 0, Nat.zero_le _, rfl, rfl, Nat.le_refl _, ⟨rfl, fun h => absurd h (by omega)⟩, Below.refl _ _⟩
      case round =>
        obtain ⟨j, Ao, co, hj, rfl, rfl, hjc, HRA, hbel⟩ := hrel
        have hsz := hbel.size
        by_cases hjm : j < n3
        · have hq2 := (HQ.out hpos).2
          have HQE := Lib.hid (HQ.out hpos).1
          obtain ⟨p, hp⟩ : ∃ p, p = (j + q) % n3 := ⟨_, rfl⟩
          have hpn : p < n3 := by rw [hp]; exact Nat.mod_lt _ hpos
          have hrem : ((j : Int) + (q : Int)).tmod (n3 : Int) = (p : Int) := by rw [← Int.natCast_add, Int.tmod_eq_emod_of_nonneg (by omega), ← Int.natCast_emod, hp]
          obtain ⟨b', o', a', hA', hbB', e0, e1, e2, e3, e4, HZ, hmz⟩ := RA.val (RA.below (Rd.of_own HO.out) hbel) hpn
          injection hA' with hA'
          injection hA' with hA1' hA2'
          subst hA1' hA2'
          have hvz := HV0.out a' hmz
          obtain ⟨zb, ze, zp, zv, za⟩ := a'
          obtain ⟨⟨⟨v1, v2⟩, v3, v4, _⟩, _, v5, v6⟩ := hvz
          dsimp only at e0 e1 e2 e3 e4 v1 v2 v3 v4 v5 v6
          rw [Nat.zero_add] at e0 e1 e2 e3 e4
          have lg : g < wr.heap.size := by omega
          have HAT : Hid ((rotA q S')[j]? = some ⟨zb, ze, zp, zv, za⟩) := by
            show _ = _
            rw [rotA_at (by rw [HLS.out]; exact hq2) (by rw [HLS.out]; exact hjm), HLS.out, ← hp]
            exact HZ.out
          have HEND : Hid (∀ (Y : Int) (w6 : World) (u6 : Value), Y = (if ze = -1 then -1 else ze + d) → w6.ownsRow wS.heap.size 34 5 u6 (1 + j) ([.int .i64 (zb + d), .int .i64 Y, .bool zp, .int .i64 zv, .int .i64 za] ++ ((((rotA q S').take j).map (shA d)).reverse).flatMap acV) → Below wS.heap.size wS w6 →
              Hid (RA w6 w6.heap.size (match u6 with | .slice A _ _ => A | _ => none) (j + 1) ((((rotA q S').take (j + 1)).map (shA d)).reverse)) ∧ Below wS.heap.size wS w6 ∧ ∃ A c, u6 = .slice A (j + 1) c ∧ j + 1 ≤ c) := by
            intro Y w6 u6 hY hown hb
            rw [Nat.add_comm] at hown
            obtain ⟨A, c, rfl, hlc⟩ := own_form hown
            refine ⟨?_, hb, A, c, rfl, hlc⟩
            show RA _ _ A _ _
            rw [at_take HAT.out, List.map_append, List.map_singleton, List.reverse_append, List.reverse_singleton, List.singleton_append]
            have := Rd.of_own hown
            have he : [Value.int .i64 (zb + d), .int .i64 Y, .bool zp, .int .i64 zv, .int .i64 za] = acV (shA d ⟨zb, ze, zp, zv, za⟩) := by rw [hY]; rfl
            rw [he] at this
            exact this
          clear hmz hp
          go_wp2_with fail
          refine (keep_Picked x5 n3 _ (by omega) (by omega)).mono ?_
          rintro e w' ⟨rfl, rfl⟩
          rw [← HQE.out]
          by_cases hze : ze = -1
          · subst hze
            go_wp2
            refine region_first [0, 1, 2] (.cons 3 (seq [4, 5] (seq [6] .nil))) (by kernel_rfl) (by kernel_rfl) ?_
            simp only [pick, List.map_cons, List.map_nil, List.getD_cons_zero, List.getD_cons_succ]
            go_wp2
            refine ord_call (by kernel_rfl) ?_
            simp only [pick, List.map_cons, List.map_nil, List.getD_cons_zero, List.getD_cons_succ]
            go_wp2_with fail
            refine (keep_Picked x5 1000 _ (by omega) (by omega)).mono ?_
            rintro e w' ⟨rfl, rfl⟩
            rw [← HD.out]
            go_wp2
            refine ord_more [4, 5] (seq [6] .nil) (by kernel_rfl) ?_
            simp only [pick, List.map_cons, List.map_nil, List.getD_cons_zero, List.getD_cons_succ]
            go_wp2
            refine ord_last [6] (by kernel_rfl) ?_
            simp only [pick, List.map_cons, List.map_nil, List.getD_cons_zero, List.getD_cons_succ]
            go_wp2_with (at_builtin; go_must (refine app_src eltAct ((wr.alloc (Obj.cells #[.int .i64 (zb + d), .int .i64 (-1), .bool zp, .int .i64 zv, .int .i64 za] 34)).drew.alloc (Obj.cells #[.int .i64 (zb + d), .int .i64 (-1), .bool zp, .int .i64 zv, .int .i64 za] 34)) rfl (.tmp 86) (.tmp 87) rfl wS.heap.size (.slice (some ⟨wr.heap.size + 1, 0, none⟩) 1 1) 1 [.int .i64 (zb + d), .int .i64 (-1), .bool zp, .int .i64 zv, .int .i64 za] rfl (own_new (w := (wr.alloc (Obj.cells #[.int .i64 (zb + d), .int .i64 (-1), .bool zp, .int .i64 zv, .int .i64 za] 34)).drew) [.int .i64 (zb + d), .int .i64 (-1), .bool zp, .int .i64 zv, .int .i64 za] (wr.heap.size + 1) (by simp) rfl (by simp; omega) (by omega)) Ao j co (((((rotA q S').take j).map (shA d)).reverse).flatMap acV) rfl wr.heap.size (by exact Rd.below HRA.out (((((Below.refl wr.heap.size wr).alloc (Nat.le_refl _) _).drew).alloc (by simp) _))) (acV_one _) (by omega) (by omega) (by simp; omega) ?_); intro u6 w6 hown6 hg6 hbel6 hsz6)
            obtain ⟨hr1, hr2, A6, c6, he6, hc6⟩ := HEND.out (-1) w6 u6 (by simp ) hown6 (hbel6 _ ((((hbel.alloc hsz _).drew).alloc (by simp; omega) _)))
            clear hown6 hg6 hbel6
            go_roundw
            case rel => exact ⟨j + 1, A6, c6, by omega, by go_num, he6, hc6, by rw [he6] at hr1; exact hr1, hr2⟩
            case measure => simp [intOf]; omega
          · have hze2 : (ze != -1) = true := by simp [hze]
            go_wp2
            refine region_first [0, 1, 2] (.cons 3 (seq [4, 5] (seq [6] .nil))) (by kernel_rfl) (by kernel_rfl) ?_
            simp only [pick, List.map_cons, List.map_nil, List.getD_cons_zero, List.getD_cons_succ]
            go_wp2
            refine ord_call (by kernel_rfl) ?_
            simp only [pick, List.map_cons, List.map_nil, List.getD_cons_zero, List.getD_cons_succ]
            go_wp2_with fail
            refine (keep_Picked x5 1000 _ (by omega) (by omega)).mono ?_
            rintro e w' ⟨rfl, rfl⟩
            rw [← HD.out]
            go_wp2
            refine ord_more [4, 5] (seq [6] .nil) (by kernel_rfl) ?_
            simp only [pick, List.map_cons, List.map_nil, List.getD_cons_zero, List.getD_cons_succ]
            go_wp2
            refine ord_last [6] (by kernel_rfl) ?_
            simp only [pick, List.map_cons, List.map_nil, List.getD_cons_zero, List.getD_cons_succ]
            go_wp2
            refine region_first [0, 1, 2] (.cons 3 (seq [4, 5] (seq [6] .nil))) (by kernel_rfl) (by kernel_rfl) ?_
            simp only [pick, List.map_cons, List.map_nil, List.getD_cons_zero, List.getD_cons_succ]
            go_wp2
            refine ord_call (by kernel_rfl) ?_
            simp only [pick, List.map_cons, List.map_nil, List.getD_cons_zero, List.getD_cons_succ]
            go_wp2_with fail
            refine (keep_Picked x5 1000 _ (by omega) (by omega)).mono ?_
            rintro e w' ⟨rfl, rfl⟩
            rw [← HD.out]
            go_wp2
            refine ord_more [4, 5] (seq [6] .nil) (by kernel_rfl) ?_
            simp only [pick, List.map_cons, List.map_nil, List.getD_cons_zero, List.getD_cons_succ]
            go_wp2
            refine ord_last [6] (by kernel_rfl) ?_
            simp only [pick, List.map_cons, List.map_nil, List.getD_cons_zero, List.getD_cons_succ]
            go_wp2_with (at_builtin; go_must (refine app_src eltAct ((wr.alloc (Obj.cells #[.int .i64 (zb + d), .int .i64 (ze + d), .bool zp, .int .i64 zv, .int .i64 za] 34)).drew.drew.alloc (Obj.cells #[.int .i64 (zb + d), .int .i64 (ze + d), .bool zp, .int .i64 zv, .int .i64 za] 34)) rfl (.tmp 86) (.tmp 87) rfl wS.heap.size (.slice (some ⟨wr.heap.size + 1, 0, none⟩) 1 1) 1 [.int .i64 (zb + d), .int .i64 (ze + d), .bool zp, .int .i64 zv, .int .i64 za] rfl (own_new (w := (wr.alloc (Obj.cells #[.int .i64 (zb + d), .int .i64 (ze + d), .bool zp, .int .i64 zv, .int .i64 za] 34)).drew.drew) [.int .i64 (zb + d), .int .i64 (ze + d), .bool zp, .int .i64 zv, .int .i64 za] (wr.heap.size + 1) (by simp) rfl (by simp; omega) (by omega)) Ao j co (((((rotA q S').take j).map (shA d)).reverse).flatMap acV) rfl wr.heap.size (by exact Rd.below HRA.out (((((Below.refl wr.heap.size wr).alloc (Nat.le_refl _) _).drew.drew).alloc (by simp) _))) (acV_one _) (by omega) (by omega) (by simp; omega) ?_); intro u6 w6 hown6 hg6 hbel6 hsz6)
            obtain ⟨hr1, hr2, A6, c6, he6, hc6⟩ := HEND.out (ze + d) w6 u6 (by simp [hze]) hown6 (hbel6 _ ((((hbel.alloc hsz _).drew.drew).alloc (by simp; omega) _)))
            clear hown6 hg6 hbel6
            go_roundw
            case rel => exact ⟨j + 1, A6, c6, by omega, by go_num, he6, hc6, by rw [he6] at hr1; exact hr1, hr2⟩
            case measure => simp [intOf]; omega
        · obtain rfl : n3 = j := by omega
          have hR := HRA.out
          rw [List.take_of_length_le (by rw [rotA_len, HLS.out]; omega)] at hR
          have HRA := Lib.hid hR
          have hb2 : Below w.heap.size w wr := hb1.trans (hbel.mono hs1)
          have hs2 := hb2.size
          have HOR := Lib.hid ((Rd.below (Rd.of_own HO.out) hbel : Rd wr wS.heap.size 5 _ n3 (S'.flatMap acV)).more hsz)
          clear hR
          go_wp2_with fail
          refine (HP.out wr _ n3 _ S' k f r 0 HOR.out (by omega) hlc3 HTR.out.2.2.1 (by unfold inW; omega) HTR.out.1).mono ?_
          rintro e w6 ⟨rfl, hb6⟩
          have hb7 := hb2.trans (hb6.mono hs2)
          go_wp2_with fail
          refine (HP.out w6 Ao n3 co _ k f r 0 ((HRA.out.below hb6).more hb6.size) (by omega) hjc HTR.out.2.2.2 (by unfold inW; omega) HTR.out.2.1).mono ?_
          rintro e w7 ⟨rfl, hb8⟩
          have hb9 := hb7.trans (hb8.mono hb7.size)
          cases r with
          | true =>
            go_wp2_with fail
            refine (keep_linSure HP.out w7).mono ?_
            rintro e w8 ⟨rfl, hb10⟩
            go_wp2
            go_ret
            exact ⟨rfl, hb9.trans (hb10.mono hb9.size)⟩
          | false =>
            go_wp2_with fail
            refine (keep_linSure HP.out w7).mono ?_
            rintro e w8 ⟨rfl, hb10⟩
            go_wp2
            go_ret
            exact ⟨rfl, hb9.trans (hb10.mono hb9.size)⟩
    | false =>
      have hst := World.ownsRow.stored HO.out (i * 5 + 3) (.int .i64 y)
      have hset : (S.flatMap acV).set (i * 5 + 3) (.int .i64 y) = (S.set i ⟨ab, ae, false, y, aa⟩).flatMap acV := flatMap_set acV_len (by omega) S i _ HX.out rfl
      rw [hset] at hst
      have HST := Lib.hid hst.1
      have hbs : Below w.heap.size w (w1.setCell ⟨g, i * 5 + 3, none⟩ (.int .i64 y)) := below_at hb1 hBg _ _
      have HVS : Hid (∀ a ∈ S.set i ⟨ab, ae, false, y, aa⟩, okA k a ∧ inA a ∧ a.b ≤ 300 ∧ a.e ≤ 300) := fun a ha => by
        rcases List.mem_or_eq_of_mem_set ha with ha | rfl
        · exact HV0.out a ha
        · obtain ⟨⟨q1, q2, q3, q4, q5⟩, ⟨w1', w2', w3', w4'⟩, b1', b2'⟩ := hva
          exact ⟨⟨q1, q2, q3, q4, .inr ⟨by dsimp only; omega, fun h => rfl⟩⟩, ⟨w1', w2', by unfold inW; dsimp only; omega, w4'⟩, b1', b2'⟩
      clear hst hset hva
      go_wp2_with fail
      refine (keep_Picked x4 4 _ (by omega) (by omega)).mono ?_
      rintro e w' ⟨rfl, rfl⟩
      rw [← HY.out]
      go_wp2
      clear d0 d1 d2 d3 d4 f3
      generalize w1.setCell ⟨g, i * 5 + 3, none⟩ (.int .i64 y) = wS at HST hbs ⊢
      generalize S.set i ⟨ab, ae, false, y, aa⟩ = S' at HST HVS
      clear HO HV0 HX hb1 hs1
      have HO := HST
      have HV0 := HVS
      have hb1 := hbs
      have hs1 := hb1.size
      clear HST HVS hbs
      have HLS := Lib.hid (RA.len (Rd.of_own HO.out))
      obtain ⟨r, t1, t2, t3, t4⟩ := turned_right (k := k) (first := f) (d := d) (q := q) (S := S') hk1 hd1 (by rw [HLS.out]; exact hn3) HV0.out
      have HTR := Lib.hid (And.intro t1 (And.intro t2 (And.intro t3 t4)))
      clear t1 t2 t3 t4
      go_loopw [17, 18] (fun ov i wr => ∃ (j : Nat) (Ao : Option Addr) (co : Nat), j ≤ n3 ∧ i = .int .i64 j ∧ ov = .slice Ao j co ∧ j ≤ co ∧ Hid (RA wr wr.heap.size Ao j ((((rotA q S').take j).map (shA d)).reverse)) ∧ Below wS.heap.size wS wr) (fun _ i _ => n3 - (intOf i).toNat)
      case atStart => exact ⟨0, none, 0, Nat.zero_le _, rfl, rfl, Nat.le_refl _, ⟨rfl, fun h => absurd h (by omega)⟩, Below.refl _ _⟩
      case round =>
        obtain ⟨j, Ao, co, hj, rfl, rfl, hjc, HRA, hbel⟩ := hrel
        have hsz := hbel.size
        by_cases hjm : j < n3
        · have hq2 := (HQ.out hpos).2
          have HQE := Lib.hid (HQ.out hpos).1
          obtain ⟨p, hp⟩ : ∃ p, p = (j + q) % n3 := ⟨_, rfl⟩
          have hpn : p < n3 := by rw [hp]; exact Nat.mod_lt _ hpos
          have hrem : ((j : Int) + (q : Int)).tmod (n3 : Int) = (p : Int) := by rw [← Int.natCast_add, Int.tmod_eq_emod_of_nonneg (by omega), ← Int.natCast_emod, hp]
          obtain ⟨b', o', a', hA', hbB', e0, e1, e2, e3, e4, HZ, hmz⟩ := RA.val (RA.below (Rd.of_own HO.out) hbel) hpn
          injection hA' with hA'
          injection hA' with hA1' hA2'
          subst hA1' hA2'
          have hvz := HV0.out a' hmz
          obtain ⟨zb, ze, zp, zv, za⟩ := a'
          obtain ⟨⟨⟨v1, v2⟩, v3, v4, _⟩, _, v5, v6⟩ := hvz
          dsimp only at e0 e1 e2 e3 e4 v1 v2 v3 v4 v5 v6
          rw [Nat.zero_add] at e0 e1 e2 e3 e4
          have lg : g < wr.heap.size := by omega
          have HAT : Hid ((rotA q S')[j]? = some ⟨zb, ze, zp, zv, za⟩) := by
            show _ = _
            rw [rotA_at (by rw [HLS.out]; exact hq2) (by rw [HLS.out]; exact hjm), HLS.out, ← hp]
            exact HZ.out
          have HEND : Hid (∀ (Y : Int) (w6 : World) (u6 : Value), Y = (if ze = -1 then -1 else ze + d) → w6.ownsRow wS.heap.size 34 5 u6 (1 + j) ([.int .i64 (zb + d), .int .i64 Y, .bool zp, .int .i64 zv, .int .i64 za] ++ ((((rotA q S').take j).map (shA d)).reverse).flatMap acV) → Below wS.heap.size wS w6 →
              Hid (RA w6 w6.heap.size (match u6 with | .slice A _ _ => A | _ => none) (j + 1) ((((rotA q S').take (j + 1)).map (shA d)).reverse)) ∧ Below wS.heap.size wS w6 ∧ ∃ A c, u6 = .slice A (j + 1) c ∧ j + 1 ≤ c) := by
            intro Y w6 u6 hY hown hb
            rw [Nat.add_comm] at hown
            obtain ⟨A, c, rfl, hlc⟩ := own_form hown
            refine ⟨?_, hb, A, c, rfl, hlc⟩
            show RA _ _ A _ _
            rw [at_take HAT.out, List.map_append, List.map_singleton, List.reverse_append, List.reverse_singleton, List.singleton_append]
            have := Rd.of_own hown
            have he : [Value.int .i64 (zb + d), .int .i64 Y, .bool zp, .int .i64 zv, .int .i64 za] = acV (shA d ⟨zb, ze, zp, zv, za⟩) := by rw [hY]; rfl
            rw [he] at this
            exact this
          clear hmz hp
          go_wp2_with fail
          refine (keep_Picked x5 n3 _ (by omega) (by omega)).mono ?_
          rintro e w' ⟨rfl, rfl⟩
          rw [← HQE.out]
          by_cases hze : ze = -1
          · subst hze
            go_wp2
            refine region_first [0, 1, 2] (.cons 3 (seq [4, 5] (seq [6] .nil))) (by kernel_rfl) (by kernel_rfl) ?_
            simp only [pick, List.map_cons, List.map_nil, List.getD_cons_zero, List.getD_cons_succ]
            go_wp2
            refine ord_call (by kernel_rfl) ?_
            simp only [pick, List.map_cons, List.map_nil, List.getD_cons_zero, List.getD_cons_succ]
            go_wp2_with fail
            refine (keep_Picked x5 1000 _ (by omega) (by omega)).mono ?_
            rintro e w' ⟨rfl, rfl⟩
            rw [← HD.out]
            go_wp2
            refine ord_more [4, 5] (seq [6] .nil) (by kernel_rfl) ?_
            simp only [pick, List.map_cons, List.map_nil, List.getD_cons_zero, List.getD_cons_succ]
            go_wp2
            refine ord_last [6] (by kernel_rfl) ?_
            simp only [pick, List.map_cons, List.map_nil, List.getD_cons_zero, List.getD_cons_succ]
            go_wp2_with (at_builtin; go_must (refine app_src eltAct ((wr.alloc (Obj.cells #[.int .i64 (zb + d), .int .i64 (-1), .bool zp, .int .i64 zv, .int .i64 za] 34)).drew.alloc (Obj.cells #[.int .i64 (zb + d), .int .i64 (-1), .bool zp, .int .i64 zv, .int .i64 za] 34)) rfl (.tmp 86) (.tmp 87) rfl wS.heap.size (.slice (some ⟨wr.heap.size + 1, 0, none⟩) 1 1) 1 [.int .i64 (zb + d), .int .i64 (-1), .bool zp, .int .i64 zv, .int .i64 za] rfl (own_new (w := (wr.alloc (Obj.cells #[.int .i64 (zb + d), .int .i64 (-1), .bool zp, .int .i64 zv, .int .i64 za] 34)).drew) [.int .i64 (zb + d), .int .i64 (-1), .bool zp, .int .i64 zv, .int .i64 za] (wr.heap.size + 1) (by simp) rfl (by simp; omega) (by omega)) Ao j co (((((rotA q S').take j).map (shA d)).reverse).flatMap acV) rfl wr.heap.size (by exact Rd.below HRA.out (((((Below.refl wr.heap.size wr).alloc (Nat.le_refl _) _).drew).alloc (by simp) _))) (acV_one _) (by omega) (by omega) (by simp; omega) ?_); intro u6 w6 hown6 hg6 hbel6 hsz6)
            obtain ⟨hr1, hr2, A6, c6, he6, hc6⟩ := HEND.out (-1) w6 u6 (by simp ) hown6 (hbel6 _ ((((hbel.alloc hsz _).drew).alloc (by simp; omega) _)))
            clear hown6 hg6 hbel6
            go_roundw
            case rel => exact ⟨j + 1, A6, c6, by omega, by go_num, he6, hc6, by rw [he6] at hr1; exact hr1, hr2⟩
            case measure => simp [intOf]; omega
          · have hze2 : (ze != -1) = true := by simp [hze]
            go_wp2
            refine region_first [0, 1, 2] (.cons 3 (seq [4, 5] (seq [6] .nil))) (by kernel_rfl) (by kernel_rfl) ?_
            simp only [pick, List.map_cons, List.map_nil, List.getD_cons_zero, List.getD_cons_succ]
            go_wp2
            refine ord_call (by kernel_rfl) ?_
            simp only [pick, List.map_cons, List.map_nil, List.getD_cons_zero, List.getD_cons_succ]
            go_wp2_with fail
            refine (keep_Picked x5 1000 _ (by omega) (by omega)).mono ?_
            rintro e w' ⟨rfl, rfl⟩
            rw [← HD.out]
            go_wp2
            refine ord_more [4, 5] (seq [6] .nil) (by kernel_rfl) ?_
            simp only [pick, List.map_cons, List.map_nil, List.getD_cons_zero, List.getD_cons_succ]
            go_wp2
            refine ord_last [6] (by kernel_rfl) ?_
            simp only [pick, List.map_cons, List.map_nil, List.getD_cons_zero, List.getD_cons_succ]
            go_wp2
            refine region_first [0, 1, 2] (.cons 3 (seq [4, 5] (seq [6] .nil))) (by kernel_rfl) (by kernel_rfl) ?_
            simp only [pick, List.map_cons, List.map_nil, List.getD_cons_zero, List.getD_cons_succ]
            go_wp2
            refine ord_call (by kernel_rfl) ?_
            simp only [pick, List.map_cons, List.map_nil, List.getD_cons_zero, List.getD_cons_succ]
            go_wp2_with fail
            refine (keep_Picked x5 1000 _ (by omega) (by omega)).mono ?_
            rintro e w' ⟨rfl, rfl⟩
            rw [← HD.out]
            go_wp2
            refine ord_more [4, 5] (seq [6] .nil) (by kernel_rfl) ?_
            simp only [pick, List.map_cons, List.map_nil, List.getD_cons_zero, List.getD_cons_succ]
            go_wp2
            refine ord_last [6] (by kernel_rfl) ?_
            simp only [pick, List.map_cons, List.map_nil, List.getD_cons_zero, List.getD_cons_succ]
            go_wp2_with (at_builtin; go_must (refine app_src eltAct ((wr.alloc (Obj.cells #[.int .i64 (zb + d), .int .i64 (ze + d), .bool zp, .int .i64 zv, .int .i64 za] 34)).drew.drew.alloc (Obj.cells #[.int .i64 (zb + d), .int .i64 (ze + d), .bool zp, .int .i64 zv, .int .i64 za] 34)) rfl (.tmp 86) (.tmp 87) rfl wS.heap.size (.slice (some ⟨wr.heap.size + 1, 0, none⟩) 1 1) 1 [.int .i64 (zb + d), .int .i64 (ze + d), .bool zp, .int .i64 zv, .int .i64 za] rfl (own_new (w := (wr.alloc (Obj.cells #[.int .i64 (zb + d), .int .i64 (ze + d), .bool zp, .int .i64 zv, .int .i64 za] 34)).drew.drew) [.int .i64 (zb + d), .int .i64 (ze + d), .bool zp, .int .i64 zv, .int .i64 za] (wr.heap.size + 1) (by simp) rfl (by simp; omega) (by omega)) Ao j co (((((rotA q S').take j).map (shA d)).reverse).flatMap acV) rfl wr.heap.size (by exact Rd.below HRA.out (((((Below.refl wr.heap.size wr).alloc (Nat.le_refl _) _).drew.drew).alloc (by simp) _))) (acV_one _) (by omega) (by omega) (by simp; omega) ?_); intro u6 w6 hown6 hg6 hbel6 hsz6)
            obtain ⟨hr1, hr2, A6, c6, he6, hc6⟩ := HEND.out (ze + d) w6 u6 (by simp [hze]) hown6 (hbel6 _ ((((hbel.alloc hsz _).drew.drew).alloc (by simp; omega) _)))
            clear hown6 hg6 hbel6
            go_roundw
            case rel => exact ⟨j + 1, A6, c6, by omega, by go_num, he6, hc6, by rw [he6] at hr1; exact hr1, hr2⟩
            case measure => simp [intOf]; omega
        · obtain rfl : n3 = j := by omega
          have hR := HRA.out
          rw [List.take_of_length_le (by rw [rotA_len, HLS.out]; omega)] at hR
          have HRA := Lib.hid hR
          have hb2 : Below w.heap.size w wr := hb1.trans (hbel.mono hs1)
          have hs2 := hb2.size
          have HOR := Lib.hid ((Rd.below (Rd.of_own HO.out) hbel : Rd wr wS.heap.size 5 _ n3 (S'.flatMap acV)).more hsz)
          clear hR
          go_wp2_with fail
          refine (HP.out wr _ n3 _ S' k f r 0 HOR.out (by omega) hlc3 HTR.out.2.2.1 (by unfold inW; omega) HTR.out.1).mono ?_
          rintro e w6 ⟨rfl, hb6⟩
          have hb7 := hb2.trans (hb6.mono hs2)
          go_wp2_with fail
          refine (HP.out w6 Ao n3 co _ k f r 0 ((HRA.out.below hb6).more hb6.size) (by omega) hjc HTR.out.2.2.2 (by unfold inW; omega) HTR.out.2.1).mono ?_
          rintro e w7 ⟨rfl, hb8⟩
          have hb9 := hb7.trans (hb8.mono hb7.size)
          cases r with
          | true =>
            go_wp2_with fail
            refine (keep_linSure HP.out w7).mono ?_
            rintro e w8 ⟨rfl, hb10⟩
            go_wp2
            go_ret
            exact ⟨rfl, hb9.trans (hb10.mono hb9.size)⟩
          | false =>
            go_wp2_with fail
            refine (keep_linSure HP.out w7).mono ?_
            rintro e w8 ⟨rfl, hb10⟩
            go_wp2
            go_ret
            exact ⟨rfl, hb9.trans (hb10.mono hb9.size)⟩
end Go.Proofs.Ytdoniefhmmodbaa
