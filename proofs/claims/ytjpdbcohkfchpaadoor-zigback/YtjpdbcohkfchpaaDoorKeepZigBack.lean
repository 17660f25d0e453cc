/- Numbers come back from their codes, whatever follows, and what is cut off is missed: the law's call returns true, and leaves what was there as it was. No condition but that each slice takes at most 2^47 bytes and that the table of prefixes holds what the program's text lays (the card ties it). -/
import Derived.Test.YtjpdbcohkfchpaaDoorZigEnc
import Derived.Test.YtjpdbcohkfchpaaDoorZigDec4
import Derived.Test.YtjpdbcohkfchpaaDoorZigSmalls
import Derived.Test.YtjpdbcohkfchpaaDoorKeepSmall
import Derived.Test.YtjpdbcohkfchpaaDoorKeepPicked
import Derived.Test.YtjpdbcohkfchpaaDoorSameIntsK
import Derived.Test.YtjpdbcohkfchpaaDoorOpen
set_option linter.unusedSimpArgs false
set_option linter.unusedVariables false
namespace Go.Proofs.YtjpdbcohkfchpaaDoor
open Go.ChangeShapes Go.WideShapes Go.ChangeAt Go.RowKit Go.Ord Go.Baro

theorem keep_PickedI (a n x : Int) (w : World) (hn : 0 < n) (hn1 : n ≤ 4611686018427387904) (h : x = a % n) :
    Calls Tryd.prog 18 #[.int .i64 a, .int .i64 n] w fun e w' => e = .returned (.int .i64 x) ∧ w = w' := by
  rw [h]
  exact keep_Picked a n w hn hn1
theorem dec_back {ns : List Int} {j : Nat} (h : ∀ n ∈ ns, Small n) (hl : ns.length = j) (hj : j ≤ 240) (more : List Int) : dcC (packB (encB ns) ++ more) (j : Int) = 0 ∧ dcY (packB (encB ns) ++ more) (j : Int) = ns := by
  have := zig_back ns more h
  rw [hl] at this
  exact ⟨by rw [dcC, if_pos (by omega), Int.toNat_natCast, this], by rw [dcY, if_pos (by omega), Int.toNat_natCast, this]⟩
theorem dec_cut {ns : List Int} {j : Nat} (h : ∀ n ∈ ns, Small n) (hl : ns.length = j) (hj : j ≤ 240) (p : Nat) (hp : p < (packB (encB ns)).length) : dcC ((packB (encB ns)).take p) (j : Int) = 5 := by
  have := zig_cut ns h p hp
  rw [hl] at this
  rw [dcC, if_pos (by omega), Int.toNat_natCast, this]
theorem enc_pos (ns : List Int) (h : 0 < ns.length) : 0 < (encB ns).length := by
  match ns, h with
  | n :: ns, _ =>
    rw [encB_cons, List.length_append, zbits_len]
    have := (zsize_le (zfold n)).1
    omega

set_option maxHeartbeats 1500000 in
theorem walk_ZigBack (w : World) (hT : Tab w) (A0 : Option Addr) (n0 c0 : Nat) (l : List Int) (hb : RI w w.heap.size .i64 A0 n0 l) (hn : n0 ≤ 17592186044416) (hr : ∀ x ∈ l, -9223372036854775808 ≤ x ∧ x ≤ 9223372036854775807) (_ : n0 ≤ c0)
    (cut : Int) (rc : -9223372036854775808 ≤ cut ∧ cut ≤ 9223372036854775807)
    (A2 : Option Addr) (n2 c2 : Nat) (more : List Int) (hm : RI w w.heap.size .u8 A2 n2 more) (hn2 : n2 ≤ 140737488351232) (hmr : ∀ x ∈ more, 0 ≤ x ∧ x < 256) (_ : n2 ≤ c2) :
    Calls Tryd.prog 6 #[.slice A0 n0 c0, .int .i64 cut, .slice A2 n2 c2] w fun e w' => e = .returned (.bool true) ∧ Below w.heap.size w w' := by
  have HL := Lib.hid hb.len
  have h0 := hT.lt
  have HR := Lib.hid hr
  clear hr
  go_enter Tryd.func6, Tryd.ntmps6
  go_wp2
  go_loopw [7, 8] (fun v i wr => ∃ (j : Nat), j ≤ n0 ∧ j ≤ 60 ∧ i = .int .i64 j ∧ wr.ownsRow w.heap.size 3 1 v j ((smalls l j).map (Value.int .i64)) ∧ Below w.heap.size w wr) (fun _ i _ => 60 - (intOf i).toNat)
  case atStart => exact ⟨0, Nat.zero_le _, by decide, rfl, World.ownsRow_nil _ _ _ _, Below.refl _ _⟩
  case round =>
    obtain ⟨j, hj, hj6, rfl, hown, hbel⟩ := hrel
    have hsz := hbel.size
    by_cases hlt : j < n0
    · by_cases h6 : j < 60
      · obtain ⟨bb, o, q, rfl, _, hcell, HQ, hmem⟩ := (hb.below hbel).val hlt
        have hq := HR.out q hmem
        go_wp2_with fail
        refine (keep_Small q (q / 32) _ rfl).mono ?_
        rintro e w' ⟨rfl, rfl⟩
        go_wp2_with (at_builtin; go_must (refine app_lit eltInt _ rfl _ _ rfl w.heap.size _ _ _ rfl (by exact hown) 1 [_] _ rfl rfl rfl (one1 _ _) (by omega) (by omega) hsz ?_); intro v' w3 hown3 _ hbel3 _)
        go_roundw
        case rel =>
          refine ⟨j + 1, by omega, by omega, by go_num, ?_, hbel3 w hbel⟩
          rw [smalls_snoc HQ.out, List.map_append]
          exact hown3
        case measure => simp [intOf]; omega
      · have HS := Lib.hid (smalls_ok HR.out j)
        have hsl := smalls_len (l := l) (j := j) (by rw [HL.out]; omega)
        have HSL := Lib.hid hsl
        have HE := Lib.hid (enc_smalls HS.out (by rw [hsl]; omega))
        clear hsl
        obtain ⟨U, ku, rfl, _⟩ := own_form hown
        have hri : RI wr wr.heap.size .i64 U j (smalls l j) := Rd.of_own hown
        clear hown
        go_wp2_with fail
        refine (zig_Encode (smalls l j) U j ku wr (hT.below hbel h0) hri (by omega) (fun x hx => by have := HS.out x hx; unfold Small at this; omega)).mono ?_
        rintro e w1 ⟨v1, rfl, hown1, hbel1⟩
        rw [HE.out.1, HE.out.2] at *
        have hbelA : Below w.heap.size w w1 := hbel.trans (hbel1.mono hsz)
        have hszA := hbelA.size
        obtain ⟨B1, k1, rfl, hk1⟩ := own_form hown1
        have hlen := packB_len (encB (smalls l j))
        have hel := encB_len (smalls l j)
        rw [HSL.out] at hel
        obtain ⟨eb, heb⟩ : ∃ eb, eb = packB (encB (smalls l j)) := ⟨_, rfl⟩
        rw [← heb] at hown1 hlen hk1 ⊢
        have HEB := Lib.hid heb
        have hebr : ∀ x ∈ eb, 0 ≤ x ∧ x < 256 := by rw [heb]; exact packB_range _ (encB_01 _)
        have HEBR := Lib.hid hebr
        clear heb hebr
        have hr1 : RI w1 w1.heap.size .u8 B1 eb.length eb := Rd.of_own hown1
        have hnb : eb.length ≤ 480 := by omega
        have hri1 := (hri.below hbel1)
        clear hown1
        generalize hnbe : eb.length = nb at hr1 hnb hlen hk1 ⊢
        have HNB := Lib.hid hnbe
        have HLEN := Lib.hid hlen
        clear hnbe hlen
        go_wp2_with (first
          | (at_builtin; refine app_src eltByte w1 rfl _ (.tmp 41) rfl w1.heap.size _ _ _ rfl (World.ownsRow_nil _ _ _ _) B1 nb k1 _ rfl _ hr1 (one_ints _ _) (by omega) (by omega) (Nat.le_refl _) ?_; intro v2 w2 hown2 _ hbel2 hsz2; rw [List.nil_append] at hown2; have hb2 := hbel2 w1 (Below.refl _ _); have hm2 : Rd w2 w.heap.size 1 A2 n2 (more.map (Value.int .u8)) := Rd.below (Rd.below hm hbelA) (hb2.mono hszA); clear hbel2)
          | (at_builtin; refine app_src eltByte w2 rfl (.tmp 42) (.tmp 43) rfl w1.heap.size _ _ _ rfl hown2 A2 n2 c2 _ rfl _ hm2 (one_ints _ _) (by omega) (by omega) hsz2 ?_; intro v3 w3 hown3 _ hbel3 hsz3; obtain ⟨NN, hown3b, hNN⟩ := own_count hown3; have hNb : NN ≤ 140737488355328 := (by omega); clear hNN hown3; obtain ⟨B3, k3, rfl, hk3⟩ := own_form hown3b))
        have hb3 := hbel3 w1 hb2
        clear hbel3 hown2 hb2 hm2
        rw [← List.map_append] at hown3b
        have hr3 : RI w3 w3.heap.size .u8 B3 NN (eb ++ more) := Rd.of_own hown3b
        clear hown3b
        have hbelB : Below w.heap.size w w3 := hbelA.trans (hb3.mono hszA)
        have HD : Hid (dcC (eb ++ more) (j : Int) = 0 ∧ dcY (eb ++ more) (j : Int) = smalls l j) := by rw [HEB.out]; exact dec_back HS.out HSL.out (by omega) more
        refine (zig_Decode (eb ++ more) B3 NN k3 (j : Int) w3 (hT.below hbelB h0) hr3 (fun x hx => by rcases List.mem_append.1 hx with h | h; exact HEBR.out x h; exact hmr x h) hNb hk3).mono ?_
        rintro e w4 ⟨v4, rfl, hown4, hb4⟩
        rw [HD.out.2] at hown4
        rw [HD.out.1]
        have hbelC : Below w.heap.size w w4 := hbelB.trans (hb4.mono hbelB.size)
        obtain ⟨B4, k4, rfl, hk4⟩ := own_form hown4
        have hr4 : RI w4 w4.heap.size .i64 B4 _ (smalls l j) := Rd.of_own hown4
        rw [HSL.out] at hr4 hk4
        clear hown4 hr3
        have hb14 : Below w1.heap.size w1 w4 := hb3.trans (hb4.mono hb3.size)
        have hri4 : RI w4 wr.heap.size .i64 U j (smalls l j) := hri1.below (hb14.mono hbel1.size)
        rw [HSL.out]
        go_wp2_with fail
        refine (keep_sameInts _ _ _ _ _ _ _ _ _ _ _ true hr4 hri4 (by simp) (by omega) (by omega)).mono ?_
        rintro e w5 ⟨rfl, m5, rfl⟩
        have hb15 : Below w1.heap.size w1 (w4.drewN m5) := hb14.drewN m5
        have hbelD : Below w.heap.size w (w4.drewN m5) := hbelC.drewN m5
        generalize w4.drewN m5 = w5 at *
        clear hr4 hri4 hb14 hbelC hb4 hb3
        go_wp2_with fail
        refine (zig_Encode [1] _ _ _ (w5.alloc (.cells #[.int .i64 1] 3)) (hT.below (hbelD.alloc hbelD.size _) h0) (Rd.lit (cs := [.int .i64 1]) w5 3 rfl) (by omega) (by simp)).mono ?_
        rintro e w6 ⟨v6, rfl, hown6, hb6⟩
        rw [show encC [1] = 0 by decide] at *
        rw [show (encY [1]).length = 1 by decide] at *
        obtain ⟨B6, k6, rfl, hk6⟩ := own_form hown6
        have hb16 : Below w1.heap.size w1 w6 := (hb15.alloc hb15.size _).trans (hb6.mono (by have := hb15.size; simp; omega))
        have hbelE : Below w.heap.size w w6 := hbelA.trans (hb16.mono hszA)
        clear hown6 hb6 hb15 hbelD
        by_cases hj0 : j = 0
        · subst hj0
          go_wp2
          go_ret
          exact ⟨rfl, hbelE⟩
        · have hj0b : ((j : Int) == 0) = false := by simp; omega
          have hnb0 : 0 < nb := by
            have := enc_pos (smalls l j) (by rw [HSL.out]; omega)
            have := HLEN.out
            omega
          obtain ⟨p, hp⟩ : ∃ p : Nat, (p : Int) = cut % (nb : Int) := ⟨(cut % (nb : Int)).toNat, Int.toNat_of_nonneg (Int.emod_nonneg _ (by omega))⟩
          have hpn : p < nb := by have := Int.emod_lt_of_pos cut (show 0 < (nb : Int) by omega); omega
          have HP := Lib.hid hp
          clear hp
          go_wp2_with fail
          refine (keep_PickedI cut (nb : Int) (p : Int) _ (by omega) (by omega) HP.out).mono ?_
          rintro e w7 ⟨rfl, rfl⟩
          have hr7 : RI w6 w1.heap.size .u8 B1 p (eb.take p) := RI.take (hr1.below hb16) (Nat.le_of_lt hpn)
          have HC : Hid (dcC (eb.take p) (j : Int) = 5) := by rw [HEB.out]; exact dec_cut HS.out HSL.out (by omega) p (by rw [← HEB.out, HNB.out]; exact hpn)
          go_wp2_with fail
          refine (zig_Decode (eb.take p) B1 p k1 (j : Int) w6 (hT.below hbelE h0) (hr7.more hb16.size) (fun x hx => HEBR.out x (List.mem_of_mem_take hx)) (by omega) (by omega)).mono ?_
          rintro e w8 ⟨v8, rfl, hown8, hb8⟩
          rw [HC.out]
          go_wp2
          go_ret
          exact ⟨rfl, hbelE.trans (hb8.mono hbelE.size)⟩
    · have HS := Lib.hid (smalls_ok HR.out j)
      have hsl := smalls_len (l := l) (j := j) (by rw [HL.out]; omega)
      have HSL := Lib.hid hsl
      have HE := Lib.hid (enc_smalls HS.out (by rw [hsl]; omega))
      clear hsl
      obtain ⟨U, ku, rfl, _⟩ := own_form hown
      have hri : RI wr wr.heap.size .i64 U j (smalls l j) := Rd.of_own hown
      clear hown
      go_wp2_with fail
      refine (zig_Encode (smalls l j) U j ku wr (hT.below hbel h0) hri (by omega) (fun x hx => by have := HS.out x hx; unfold Small at this; omega)).mono ?_
      rintro e w1 ⟨v1, rfl, hown1, hbel1⟩
      rw [HE.out.1, HE.out.2] at *
      have hbelA : Below w.heap.size w w1 := hbel.trans (hbel1.mono hsz)
      have hszA := hbelA.size
      obtain ⟨B1, k1, rfl, hk1⟩ := own_form hown1
      have hlen := packB_len (encB (smalls l j))
      have hel := encB_len (smalls l j)
      rw [HSL.out] at hel
      obtain ⟨eb, heb⟩ : ∃ eb, eb = packB (encB (smalls l j)) := ⟨_, rfl⟩
      rw [← heb] at hown1 hlen hk1 ⊢
      have HEB := Lib.hid heb
      have hebr : ∀ x ∈ eb, 0 ≤ x ∧ x < 256 := by rw [heb]; exact packB_range _ (encB_01 _)
      have HEBR := Lib.hid hebr
      clear heb hebr
      have hr1 : RI w1 w1.heap.size .u8 B1 eb.length eb := Rd.of_own hown1
      have hnb : eb.length ≤ 480 := by omega
      have hri1 := (hri.below hbel1)
      clear hown1
      generalize hnbe : eb.length = nb at hr1 hnb hlen hk1 ⊢
      have HNB := Lib.hid hnbe
      have HLEN := Lib.hid hlen
      clear hnbe hlen
      go_wp2_with (first
        | (at_builtin; refine app_src eltByte w1 rfl _ (.tmp 41) rfl w1.heap.size _ _ _ rfl (World.ownsRow_nil _ _ _ _) B1 nb k1 _ rfl _ hr1 (one_ints _ _) (by omega) (by omega) (Nat.le_refl _) ?_; intro v2 w2 hown2 _ hbel2 hsz2; rw [List.nil_append] at hown2; have hb2 := hbel2 w1 (Below.refl _ _); have hm2 : Rd w2 w.heap.size 1 A2 n2 (more.map (Value.int .u8)) := Rd.below (Rd.below hm hbelA) (hb2.mono hszA); clear hbel2)
        | (at_builtin; refine app_src eltByte w2 rfl (.tmp 42) (.tmp 43) rfl w1.heap.size _ _ _ rfl hown2 A2 n2 c2 _ rfl _ hm2 (one_ints _ _) (by omega) (by omega) hsz2 ?_; intro v3 w3 hown3 _ hbel3 hsz3; obtain ⟨NN, hown3b, hNN⟩ := own_count hown3; have hNb : NN ≤ 140737488355328 := (by omega); clear hNN hown3; obtain ⟨B3, k3, rfl, hk3⟩ := own_form hown3b))
      have hb3 := hbel3 w1 hb2
      clear hbel3 hown2 hb2 hm2
      rw [← List.map_append] at hown3b
      have hr3 : RI w3 w3.heap.size .u8 B3 NN (eb ++ more) := Rd.of_own hown3b
      clear hown3b
      have hbelB : Below w.heap.size w w3 := hbelA.trans (hb3.mono hszA)
      have HD : Hid (dcC (eb ++ more) (j : Int) = 0 ∧ dcY (eb ++ more) (j : Int) = smalls l j) := by rw [HEB.out]; exact dec_back HS.out HSL.out (by omega) more
      refine (zig_Decode (eb ++ more) B3 NN k3 (j : Int) w3 (hT.below hbelB h0) hr3 (fun x hx => by rcases List.mem_append.1 hx with h | h; exact HEBR.out x h; exact hmr x h) hNb hk3).mono ?_
      rintro e w4 ⟨v4, rfl, hown4, hb4⟩
      rw [HD.out.2] at hown4
      rw [HD.out.1]
      have hbelC : Below w.heap.size w w4 := hbelB.trans (hb4.mono hbelB.size)
      obtain ⟨B4, k4, rfl, hk4⟩ := own_form hown4
      have hr4 : RI w4 w4.heap.size .i64 B4 _ (smalls l j) := Rd.of_own hown4
      rw [HSL.out] at hr4 hk4
      clear hown4 hr3
      have hb14 : Below w1.heap.size w1 w4 := hb3.trans (hb4.mono hb3.size)
      have hri4 : RI w4 wr.heap.size .i64 U j (smalls l j) := hri1.below (hb14.mono hbel1.size)
      rw [HSL.out]
      go_wp2_with fail
      refine (keep_sameInts _ _ _ _ _ _ _ _ _ _ _ true hr4 hri4 (by simp) (by omega) (by omega)).mono ?_
      rintro e w5 ⟨rfl, m5, rfl⟩
      have hb15 : Below w1.heap.size w1 (w4.drewN m5) := hb14.drewN m5
      have hbelD : Below w.heap.size w (w4.drewN m5) := hbelC.drewN m5
      generalize w4.drewN m5 = w5 at *
      clear hr4 hri4 hb14 hbelC hb4 hb3
      go_wp2_with fail
      refine (zig_Encode [1] _ _ _ (w5.alloc (.cells #[.int .i64 1] 3)) (hT.below (hbelD.alloc hbelD.size _) h0) (Rd.lit (cs := [.int .i64 1]) w5 3 rfl) (by omega) (by simp)).mono ?_
      rintro e w6 ⟨v6, rfl, hown6, hb6⟩
      rw [show encC [1] = 0 by decide] at *
      rw [show (encY [1]).length = 1 by decide] at *
      obtain ⟨B6, k6, rfl, hk6⟩ := own_form hown6
      have hb16 : Below w1.heap.size w1 w6 := (hb15.alloc hb15.size _).trans (hb6.mono (by have := hb15.size; simp; omega))
      have hbelE : Below w.heap.size w w6 := hbelA.trans (hb16.mono hszA)
      clear hown6 hb6 hb15 hbelD
      by_cases hj0 : j = 0
      · subst hj0
        go_wp2
        go_ret
        exact ⟨rfl, hbelE⟩
      · have hj0b : ((j : Int) == 0) = false := by simp; omega
        have hnb0 : 0 < nb := by
          have := enc_pos (smalls l j) (by rw [HSL.out]; omega)
          have := HLEN.out
          omega
        obtain ⟨p, hp⟩ : ∃ p : Nat, (p : Int) = cut % (nb : Int) := ⟨(cut % (nb : Int)).toNat, Int.toNat_of_nonneg (Int.emod_nonneg _ (by omega))⟩
        have hpn : p < nb := by have := Int.emod_lt_of_pos cut (show 0 < (nb : Int) by omega); omega
        have HP := Lib.hid hp
        clear hp
        go_wp2_with fail
        refine (keep_PickedI cut (nb : Int) (p : Int) _ (by omega) (by omega) HP.out).mono ?_
        rintro e w7 ⟨rfl, rfl⟩
        have hr7 : RI w6 w1.heap.size .u8 B1 p (eb.take p) := RI.take (hr1.below hb16) (Nat.le_of_lt hpn)
        have HC : Hid (dcC (eb.take p) (j : Int) = 5) := by rw [HEB.out]; exact dec_cut HS.out HSL.out (by omega) p (by rw [← HEB.out, HNB.out]; exact hpn)
        go_wp2_with fail
        refine (zig_Decode (eb.take p) B1 p k1 (j : Int) w6 (hT.below hbelE h0) (hr7.more hb16.size) (fun x hx => HEBR.out x (List.mem_of_mem_take hx)) (by omega) (by omega)).mono ?_
        rintro e w8 ⟨v8, rfl, hown8, hb8⟩
        rw [HC.out]
        go_wp2
        go_ret
        exact ⟨rfl, hbelE.trans (hb8.mono hbelE.size)⟩

theorem own_ZigBack : ownKnob Tryd.prog.godebug = none := by kernel_rfl
theorem laid_ZigBack : laidOutB Tryd.prog = true := by kernel_rfl
set_option maxRecDepth 100000 in
theorem lifted_ZigBack (os : Os) (started : os.Started) (H : Type) (enc : TypeId × Value → H) :
    ReturnsInHanded {} Tryd.checked os 6 .any (fun w args => (Rows.zigBackSpec.pre enc Tryd.prog Tryd.f6 [] false w args ∧ laidMetH Tryd.prog laidL w) ∧ sizedMet enc Tryd.prog Tryd.f6 (OpenSpec.ofChange Rows.zigBackSpec) false w args)
      (Rows.zigBackSpec.post enc Tryd.prog Tryd.f6 false true false false) := by
  refine returnsInHanded_of_change_and (C := Tryd.checked) (X := fun w _ => laidMetH Tryd.prog laidL w) (fun _ _ _ hh h => h.of_heap hh) own_ZigBack started (by kernel_rfl) Tryd.func6
    (ChangeSpec.witness_shaped (enc := enc) (C := Tryd.checked) (os := os) (X := fun w _ => laidMetH Tryd.prog laidL w) false (World.doorLaid Tryd.prog 400 os) #[.slice none 0 0, .int .i64 0, .slice none 0 0] 8 rfl (World.shaped_of_RefB (by kernel_rfl) (by kernel_rfl)) (by kernel_rfl) (by kernel_rfl) (by kernel_rfl) (door_met os _)) ?_
  intro W base args ds gs before hval0 hW hcnd hsz0 hL _
  have hsz : (DataW.weightsEach Tryd.prog (Tryd.f6.params.toList ++ Rows.zigBackSpec.plain.varTypes Tryd.prog) (ds ++ gs)).all (· ≤ reachBytes) = true := hsz0
  clear hsz0
  have hval : ∀ (j : Nat) t v, Tryd.f6.params[j]? = some t → args[j]? = some v → Value.okWide Tryd.prog W .any base t v := hval0
  have hW' := hW
  obtain ⟨p, q, hA0, hV, rfl, hfz, hnd⟩ := hW
  have hA : DataW.TrodAll enc Tryd.prog W 0 (fun _ => true) true Tryd.f6.params.toList args.toList ds p := hA0
  rw [Tryd.params6] at hA hval hsz
  obtain ⟨v0, vs0, d0, ds0, p0, q0, hargs, rfl, rfl, h0, r0⟩ := trodAll_cons hA
  obtain ⟨v1, vs1, d1, ds1, p1, q1, rfl, rfl, rfl, h1, r1⟩ := trodAll_cons r0
  obtain ⟨v2, vs2, d2, ds2, p2, q2, rfl, rfl, rfl, h2, r2⟩ := trodAll_cons r1
  obtain ⟨rfl, rfl, rfl⟩ := trodAll_nil r2
  obtain rfl : args = #[v0, v1, v2] := by cases args; simp_all
  obtain ⟨rfl, rfl⟩ := trodVars_none hV
  have k0 := h0
  have lt0 : ∀ x ∈ p0, x.block < W.heap.size := by obtain ⟨m, hm⟩ := k0; exact DataW.trod_lt m _ _ _ hm
  obtain ⟨a0, len0, cap0, rfl⟩ := okWide_slice Tryd.underlying26 (hval 0 26 v0 rfl rfl)
  obtain ⟨x0, ri0, wx0, lc0, hd0⟩ := open_RI Tryd.underlying26 Tryd.underlying3 (by kernel_rfl) h0
  have bd0 : len0 ≤ 17592186044416 := by
    rcases hd0 with ⟨h, _⟩ | ⟨el, sp, hd, hl⟩
    · omega
    · subst hd
      have := sized_slice hsz (j := 0) (t := 26) (e := 3) rfl rfl Tryd.underlying26
      rw [show Tryd.prog.bytesOf 3 = 8 by kernel_rfl] at this
      simp only [reachBytes] at this
      omega
  have rr0 : ∀ x ∈ x0, -9223372036854775808 ≤ x ∧ x ≤ 9223372036854775807 := fun x hx => bounds_i64 (wx0 x hx)
  have k1 := h1
  have lt1 : ∀ x ∈ p1, x.block < W.heap.size := by obtain ⟨m, hm⟩ := k1; exact DataW.trod_lt m _ _ _ hm
  obtain ⟨x1, rfl, rfl, rfl, wx1⟩ := open_int Tryd.underlying3 (hval 1 3 v1 rfl rfl) h1
  have rr1 := bounds_i64 wx1
  have k2 := h2
  have lt2 : ∀ x ∈ p2, x.block < W.heap.size := by obtain ⟨m, hm⟩ := k2; exact DataW.trod_lt m _ _ _ hm
  obtain ⟨a2, len2, cap2, rfl⟩ := okWide_slice Tryd.underlying27 (hval 2 27 v2 rfl rfl)
  obtain ⟨x2, ri2, wx2, lc2, hd2⟩ := open_RI Tryd.underlying27 Tryd.underlying5 (by kernel_rfl) h2
  have bd2 : len2 ≤ 140737488351232 := by
    rcases hd2 with ⟨h, _⟩ | ⟨el, sp, hd, hl⟩
    · omega
    · subst hd
      have := sized_slice hsz (j := 2) (t := 27) (e := 5) rfl rfl Tryd.underlying27
      rw [show Tryd.prog.bytesOf 5 = 1 by kernel_rfl] at this
      simp only [reachBytes] at this
      omega
  have rr2 : ∀ x ∈ x2, 0 ≤ x ∧ x < 256 := fun x hx => by have := bounds_u8 (wx2 x hx); omega
  clear hA0 hval0 hsz
  refine (walk_ZigBack W (of_laid hL) a0 len0 cap0 x0 ri0 bd0 rr0 lc0 x1 rr1 a2 len2 cap2 x2 ri2 bd2 rr2 lc2).mono fun e W' ⟨he, bel⟩ => ?_
  subst he
  exact ⟨_, rfl, _, _, _, [], _, [], hW', trodAll_mk1 (shut_bool Tryd.underlying4 _), (trodAll_cons_mk (Below.trod laid_ZigBack (by kernel_rfl) (of_decide_eq_true (by kernel_rfl)) k0 bel lt0) (trodAll_cons_mk (Below.trod laid_ZigBack (by kernel_rfl) (of_decide_eq_true (by kernel_rfl)) k1 bel lt1) (trodAll_cons_mk (Below.trod laid_ZigBack (by kernel_rfl) (of_decide_eq_true (by kernel_rfl)) k2 bel lt2) trodAll_mk0))), rfl, bel.frame _, fun h => by cases h⟩

theorem zigBack_holds : Rows.ZigBackSaid :=
  OpenClaim.holds_of_wide 6 Tryd.f6 rfl rfl rfl rfl rfl rfl rfl ⟨rfl, rfl, rfl, rfl, rfl⟩ rfl rfl rfl rfl rfl (by kernel_rfl) Tryd.func6 (by kernel_rfl)
    (of_decide_eq_true (by kernel_rfl)) (by unfold Func.isWrapper; first | (rw [if_pos (by decide +kernel)]; kernel_rfl) | (rw [if_neg (by decide +kernel)]; exact ⟨rfl, rfl⟩))
    (fun os started H enc _ => lifted_ZigBack os started H enc)

theorem zigBack_card : Rows.ZigBackCardSaid :=
  Claim7.holds_tied_plain_at .later [] [.data] true (true, "72ccef4971c2cb35025201605496faadfdd4d9e9d5d238c1c4d2f65cbf014011") false
    zigBack_holds (fun _ h => by cases h) (by kernel_rfl) (fun _ h => by cases h) zigBack_row_tie rfl ⟨rfl, rfl⟩ (by kernel_rfl) rfl
    (fun f fn hf hfn => by
      obtain rfl : f = 6 := Option.some.inj ((show Tryd.prog.funcNamed "barograph/barographkeep.ZigBack" = some 6 by kernel_rfl).symm.trans hf) |>.symm
      obtain rfl : fn = Tryd.f6 := (Option.some.inj (Tryd.func6.symm.trans hfn)).symm
      exact ⟨by kernel_rfl, fun j t ht => by
        rw [Tryd.params6] at ht
        have hm : t ∈ [26, 3, 27] := by simpa using Array.mem_of_getElem? ht
        have hall : ([26, 3, 27].all fun u => !Tryd.prog.wantsStandIn u) = true := by kernel_rfl
        exact (show Tryd.prog.wantsStandIn t = false by simpa using List.all_eq_true.1 hall t hm)⟩)
    (by kernel_rfl)
#print axioms zigBack_card
end Go.Proofs.YtjpdbcohkfchpaaDoor
