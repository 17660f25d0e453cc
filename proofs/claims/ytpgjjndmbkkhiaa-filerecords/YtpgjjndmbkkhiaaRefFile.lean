/- The document's answers on record files. No statement of the seat is proved here; no condition. -/
import Derived.Test.YtpgjjndmbkkhiaaFile3
import Derived.Test.YtpgjjndmbkkhiaaRefAdler
import Derived.Test.YtpgjjndmbkkhiaaRefSame
set_option linter.unusedSimpArgs false
set_option linter.unusedVariables false
namespace Go.Proofs.Ytpgjjndmbkkhiaa
open Go.RowKit Go.Ord Go.Baro

set_option maxHeartbeats 1000000 in
theorem ref_FileRecord (l : List Int) (A : Option Addr) (n c : Nat) (w : World) (hb : RI w w.heap.size .u8 A n l) (hr : ∀ x ∈ l, 0 ≤ x ∧ x < 256) (hn : n ≤ 9223372036854775807) :
    Calls Try.prog 10 #[.slice A n c] w fun e w' => ∃ v N, e = .returned (.tuple #[v, .int .i64 (rcC l)]) ∧ w'.ownsRow w.heap.size 5 1 v N ((rcR l).map (Value.int .u8)) ∧ Below w.heap.size w w' := by
  have HL := Lib.hid hb.len
  have HR := Lib.hid hr
  clear hr
  by_cases h : n ≤ 4000
  · have HM := Lib.hid (rc_in (l := l) (by rw [HL.out]; exact h))
    have hO := adO_range l
    have HA : Hid (moR 1 l = adO l) := Lib.hid (by rw [(mo_in (by decide) l).1]; rfl)
    go_enter Try.func10, Try.ntmps10
    go_wp2_with fail
    refine (ref_AdlerMore 1 l _ _ _ _ _ hb HR.out (by omega) (by omega) (by omega)).mono ?_
    rintro e w1 ⟨rfl, rfl⟩
    rw [HA.out]
    obtain ⟨s, HS⟩ : ∃ s, Hid (adO l = s) := ⟨_, rfl⟩
    rw [HS.out] at hO ⊢
    have hb2 := hb.below (below_alloc (.cells #[Value.int .u8 ((n : Int) / 256), .int .u8 ((n : Int) % 256), .int .u8 (s / 16777216), .int .u8 (s / 65536 % 256), .int .u8 (s / 256 % 256), .int .u8 (s % 256)] 5))
    have hown2 : (w.alloc (.cells #[Value.int .u8 ((n : Int) / 256), .int .u8 ((n : Int) % 256), .int .u8 (s / 16777216), .int .u8 (s / 65536 % 256), .int .u8 (s / 256 % 256), .int .u8 (s % 256)] 5)).ownsRow w.heap.size 5 1 (.slice (some ⟨w.heap.size, 0, none⟩) 6 6) 6 [Value.int .u8 ((n : Int) / 256), .int .u8 ((n : Int) % 256), .int .u8 (s / 16777216), .int .u8 (s / 65536 % 256), .int .u8 (s / 256 % 256), .int .u8 (s % 256)] := own_new [Value.int .u8 ((n : Int) / 256), .int .u8 ((n : Int) % 256), .int .u8 (s / 16777216), .int .u8 (s / 65536 % 256), .int .u8 (s / 256 % 256), .int .u8 (s % 256)] _ rfl rfl (Nat.le_refl _) (by omega)
    have HD : Hid ([Value.int .u8 ((n : Int) / 256), .int .u8 ((n : Int) % 256), .int .u8 (s / 16777216), .int .u8 (s / 65536 % 256), .int .u8 (s / 256 % 256), .int .u8 (s % 256)] = (hdL n s).map (Value.int .u8)) := Lib.hid (by simp only [hdL, List.map_cons, List.map_nil]; rw [show (n : Int) / 256 % 256 = n / 256 by omega, show s / 16777216 % 256 = s / 16777216 by omega])
    go_wp2_with (at_builtin; go_must (refine app_src eltOct _ rfl _ _ rfl w.heap.size _ _ _ rfl (by exact hown2) A n _ (l.map (Value.int .u8)) rfl _ (by exact hb2) (one_ints _ _) (by omega) (by omega) (by simp) ?_); intro v6 w6 hown6 _ hbel6 _)
    go_ret2
    refine ⟨v6, 6 + n, ret_two rfl (val_int HM.out.2.symm), ?_, hbel6 w (below_alloc _)⟩
    rw [HM.out.1]
    unfold rcL
    rw [List.map_append, HL.out, HS.out, ← HD.out]
    exact hown6
  · have HM := Lib.hid (rc_out (l := l) (by rw [HL.out]; exact h))
    go_enter Try.func10, Try.ntmps10
    go_wp2
    go_ret2
    refine ⟨_, 0, ret_two rfl (val_int HM.out.2.symm), ?_, Below.refl _ _⟩
    rw [HM.out.1]
    exact World.ownsRow_nil _ _ _ _

theorem fc_six {a b c d e g : Int} {t : List Int} {M : Nat} {S : Int} (hM : (M : Int) = 256 * a + b) (hS : S = ((c * 256 + d) * 256 + e) * 256 + g) :
    fc (a :: b :: c :: d :: e :: g :: t) = if (M : Int) > 4000 then 1 else if (t.length : Int) < M then 5 else if adO (t.take M) = S then 0 else 10 := by
  rw [show M = (256 * a + b).toNat by omega, hS]; simp only [fc]; rw [show (((256 * a + b).toNat : Nat) : Int) = 256 * a + b by omega]

set_option maxRecDepth 100000 in
set_option maxHeartbeats 1000000 in
theorem ref_FileOpened (f : List Int) (A : Option Addr) (n k : Nat) (w : World) (hb : RI w w.heap.size .u8 A n f) (hr : ∀ x ∈ f, 0 ≤ x ∧ x < 256) (hn : n ≤ 140737488355328) (hnk : n ≤ k) :
    Calls Try.prog 13 #[.slice A n k] w (OpPost f w.heap.size w) := by
  have HL := Lib.hid hb.len
  have HR := Lib.hid hr
  clear hr
  go_enter Try.func13, Try.ntmps13
  go_wp2
  go_loopw [5, 6] (fun b s wr => ∃ A' N c cs done p, b = .slice A' N c ∧ s = .int .i64 (p : Nat) ∧ wr.ownsRow w.heap.size 22 1 (.slice A' N c) N cs ∧ OBs 5 wr w.heap.size none cs done ∧ Hid (Mid f N p done) ∧ N ≤ 200 ∧ p ≤ n ∧ Below w.heap.size w wr) (fun _ s _ => n - (intOf s).toNat)
  case atStart => exact ⟨none, 0, 0, [], [], 0, rfl, rfl, World.ownsRow_nil _ _ _ _, OBs.nil _ _ _ _, Mid.start f, by omega, by omega, Below.refl _ _⟩
  case round =>
    obtain ⟨A', N, c, cs, done, p, rfl, rfl, hown, hobs, HM, hN, hp, hbel⟩ := hrel
    by_cases hlt : p < n
    · have hne : ((n : Int) - p == 0) = false := by simp; omega
      have hpl : p < f.length := by rw [HL.out]; exact hlt
      have hld : (f.drop p).length = n - p := by rw [List.length_drop, HL.out]
      by_cases hN2 : N = 200
      · subst hN2
        go_wp2
        go_ret3
        exact ⟨_, 200, _, cs, done, p, 8, rfl, hown, hobs, HM.out.full hpl, hbel⟩
      by_cases h6 : n - p < 6
      · have HC := Lib.hid (fc_short (f := f.drop p) (by rw [hld]; exact h6))
        go_wp2
        go_ret3
        exact ⟨_, N, _, cs, done, p, 5, rfl, hown, hobs, by show _ = _; rw [HM.out.fault (by omega) hpl (by rw [HC.out]; decide), HC.out], hbel⟩
      obtain ⟨b0, o0, x0, e0, _, hcell0, HX0, hm0⟩ := (hb.below hbel).val hlt
      obtain ⟨b1, o1, x1, e1, _, hcell1, HX1, hm1⟩ := (hb.below hbel).val (show p + 1 < n by omega)
      subst e0
      simp only [Option.some.injEq, Addr.mk.injEq, and_true] at e1
      obtain ⟨rfl, rfl⟩ := e1
      obtain ⟨a, b, c', d, e, g, t, hsix⟩ := six (f := f.drop p) (by rw [hld]; omega)
      have ha : x0 = a := by have := HX0.out; rw [← Nat.add_zero p, ← List.getElem?_drop, hsix] at this; simpa using this.symm
      have hb' : x1 = b := by have := HX1.out; rw [← List.getElem?_drop, hsix] at this; simpa using this.symm
      subst ha hb'
      have hra := HR.out x0 hm0
      have hrb := HR.out x1 hm1
      have hrx : ∀ x ∈ f.drop p, 0 ≤ x ∧ x < 256 := fun x hx => HR.out x (List.mem_of_mem_drop hx)
      rw [hsix] at hrx
      have hrc := hrx c' (by simp)
      have hrd := hrx d (by simp)
      have hre := hrx e (by simp)
      have hrg := hrx g (by simp)
      have HT : Hid (∀ x ∈ t, 0 ≤ x ∧ x < 256) := Lib.hid (fun x hx => hrx x (by simp [hx]))
      obtain ⟨M, hM⟩ : ∃ M : Nat, (M : Int) = 256 * x0 + x1 := ⟨(256 * x0 + x1).toNat, by omega⟩
      obtain ⟨S, hS⟩ : ∃ S : Int, S = ((c' * 256 + d) * 256 + e) * 256 + g := ⟨_, rfl⟩
      have HF : Hid (fc (f.drop p) = if (M : Int) > 4000 then 1 else if (t.length : Int) < M then 5 else if adO (t.take M) = S then 0 else 10) := Lib.hid (by rw [hsix]; exact fc_six hM hS)
      have HLn : Hid (ln (f.drop p) = M) := Lib.hid (by rw [hsix]; simp only [ln]; omega)
      have HBd : Hid (bd (f.drop p) = t.take M) := Lib.hid (by unfold bd; rw [HLn.out, hsix]; rfl)
      have hM1 : M < 65536 := by omega
      have HLT : Hid (t.length = n - p - 6) := Lib.hid (by rw [hsix] at hld; simp at hld; omega)
      have HIS : Hid (M ≤ t.length → (rcL (t.take M) = (f.drop p).take (6 + M) ↔ adO (t.take M) = S)) := Lib.hid (fun h => by
        rw [hsix, hS, ← rc_is hra hrb hrc hrd hre hrg hM h, Nat.add_comm 6 M]
        rfl)
      have hM' : 256 * x0 + x1 = (M : Int) := hM.symm
      have HSix := Lib.hid hsix
      clear hM hS hrx hrc hrd hre hrg hsix hld
      by_cases m1 : 4000 < M
      · have hF := HF.out
        rw [if_pos (by omega)] at hF
        have HF2 := Lib.hid hF
        clear hF
        go_wp2
        refine region_two [0, 1, 2, 3, 4, 5, 6, 7, 8, 9, 10, 11, 12, 13] [] (by kernel_rfl) (by kernel_rfl) ?_
        simp only [pick, List.map_cons, List.map_nil, List.getD_cons_zero, List.getD_cons_succ]
        go_wp2
        go_ret3
        exact ⟨_, N, _, cs, done, p, 1, rfl, hown.drew, hobs.below (Below.refl _ _).drew, by show _ = _; rw [HM.out.fault (by omega) hpl (by rw [HF2.out]; decide), HF2.out], hbel.drew⟩
      by_cases m2 : n - p < 6 + M
      · have hF := HF.out
        rw [if_neg (by omega), if_pos (by rw [HLT.out]; omega)] at hF
        have HF2 := Lib.hid hF
        clear hF
        go_wp2
        refine region_two [0, 1, 2, 3, 4, 5, 6, 7, 8, 9, 10, 11, 12, 13] [] (by kernel_rfl) (by kernel_rfl) ?_
        simp only [pick, List.map_cons, List.map_nil, List.getD_cons_zero, List.getD_cons_succ]
        go_wp2
        go_ret3
        exact ⟨_, N, _, cs, done, p, 5, rfl, hown.drew, hobs.below (Below.refl _ _).drew, by show _ = _; rw [HM.out.fault (by omega) hpl (by rw [HF2.out]; decide), HF2.out], hbel.drew⟩
      have hF := HF.out
      rw [if_neg (by omega), if_neg (by rw [HLT.out]; omega)] at hF
      have HF2 := Lib.hid hF
      have HIS2 := Lib.hid (HIS.out (by rw [HLT.out]; omega))
      clear hF HF HIS
      have hfd : f.drop (p + 6) = t := by rw [← List.drop_drop, HSix.out]; rfl
      have hsrc : RI wr w.heap.size .u8 (some ⟨b0, o0 + (p + 6), none⟩) M (t.take M) := by
        have := RI.part (hb.below hbel) (i := p + 6) (m := M) (by omega)
        rw [hfd] at this
        exact this
      have hrec : RI wr w.heap.size .u8 (some ⟨b0, o0 + p, none⟩) (6 + M) ((f.drop p).take (6 + M)) := RI.part (hb.below hbel) (i := p) (m := 6 + M) (by omega)
      have hrr : Hid (∀ x ∈ (f.drop p).take (6 + M), 0 ≤ x ∧ x < 256) := Lib.hid (fun x hx => HR.out x (List.mem_of_mem_drop (List.mem_of_mem_take hx)))
      have hrt : Hid (∀ x ∈ t.take M, 0 ≤ x ∧ x < 256) := Lib.hid (fun x hx => HT.out x (List.mem_of_mem_take hx))
      have hlt2 : (t.take M).length = M := by rw [List.length_take, HLT.out]; omega
      have HRC := Lib.hid (rc_in (l := t.take M) (by rw [hlt2]; omega))
      clear hfd hlt2 HT
      have hbe1 : Below wr.heap.size wr (wr.alloc (.cells #[] 5)).drew := (below_alloc _).drew
      have hown0 : (wr.alloc (.cells #[] 5)).drew.ownsRow wr.heap.size 5 1 (.slice (some ⟨wr.heap.size, 0, none⟩) 0 0) 0 [] := (own_new [] _ rfl rfl (Nat.le_refl _) (by omega)).drew
      have hlts : b0 < wr.heap.size := block_lt' hcell0
      by_cases hk : k = p + 6
      · obtain rfl : M = 0 := by omega
        have hn0 : n = p + 6 := by omega
        have hM'' : 256 * x0 + x1 = 0 := hM'
        clear hM'
        subst hk hn0
        go_wp2
        refine region_two [0, 1, 2, 3, 4, 5, 6, 7, 8, 9, 10, 11, 12, 13] [] (by kernel_rfl) (by kernel_rfl) ?_
        simp only [pick, List.map_cons, List.map_nil, List.getD_cons_zero, List.getD_cons_succ]
        go_wp2_with (at_builtin; go_must (refine app_src eltOct _ rfl (.tmp 52) (.tmp 60) rfl wr.heap.size _ 0 [] rfl (by exact hown0) _ _ _ ((t.take 0).map (Value.int .u8)) (by rfl) w.heap.size (by exact RI.nil _ _ _ _) (one_ints _ _) (by omega) (by omega) (by simp) ?_); intro v9 w9 hv9' _ hbel9 hsz9; obtain ⟨N9, hv9, hN9⟩ := own_count hv9'; obtain rfl : N9 = 0 := (by omega); clear hN9 hv9'; rw [List.nil_append] at hv9; obtain ⟨A9, k9, rfl, _⟩ := own_form hv9; have hb9 : Below wr.heap.size wr w9 := hbel9 wr hbe1)
        refine (ref_FileRecord (t.take 0) _ _ _ _ (Rd.of_own hv9) hrt.out (by omega)).mono ?_
        rintro e' w10 ⟨v10, N10, rfl, hv10, hb10⟩
        rw [HRC.out.1] at hv10
        obtain ⟨A10, k10, rfl, _⟩ := own_form hv10
        have hb10' : Below wr.heap.size wr w10 := hb9.trans (hb10.mono hb9.size)
        have hown10 := own_below hown hb10'
        have hobs10 := hobs.below hb10'
        have hv9b := own_below hv9 hb10
        have hbelA : Below w.heap.size w w10 := hbel.trans (hb10'.mono hbel.size)
        have hrec1 : ∀ m, m = 6 + 0 → RI w10 w.heap.size .u8 (some ⟨b0, o0 + p, none⟩) m ((f.drop p).take (6 + 0)) := fun m hm => by rw [hm]; exact hrec.below (hb10'.mono hbel.size)
        clear hown0 hbe1 hbel9
        go_wp2_with fail
        by_cases hq : adO (t.take 0) = S
        · have HF3 : Hid (fc (f.drop p) = 0) := Lib.hid (by rw [HF2.out, if_pos hq])
          refine (ref_sameBytes (rcL (t.take 0)) ((f.drop p).take (6 + 0)) _ _ _ _ _ _ _ _ _ true (Rd.of_own hv10) (hrec1 _ (by omega)) (rcL_range hrt.out) hrr.out ⟨fun _ => HIS2.out.2 hq, fun _ => rfl⟩).mono ?_
          rintro e' w11 ⟨rfl, rfl⟩
          clear HF2 HIS2 hq
          go_wp2_with (at_builtin; go_must (refine app_lit eltLst w10 rfl (.tmp 79) (.tmp 81) rfl w.heap.size _ _ _ rfl (by exact hown10) 1 [_] _ rfl rfl rfl (oneS _ _ _) (by omega) (by omega) hbelA.size ?_); intro v4 w4 hv4 hgr4 hbel4 hsz4; obtain ⟨A4, k4, rfl, _⟩ := own_form hv4)
          refine ⟨⟨A4, N + 1, k4, _, done ++ [t.take 0], p + (6 + 0), rfl, by go_num, hv4, ?_, ?_, by omega, by omega, hbel4 w hbelA⟩, by simp [intOf]; omega⟩
          · refine OBs.snoc ((hobs10.below (below_alloc _)).other (hown10.alloc _) (by decide) hgr4) ?_
            exact ((OB.mk0 (own_more hv9b hbel.size)).below (below_alloc _)).other (hown10.alloc _) (by decide) hgr4
          · show Mid _ _ _ _
            have := HM.out.next (by omega) HF3.out
            rw [HLn.out, HBd.out] at this
            exact this
        · have HF3 : Hid (fc (f.drop p) = 10) := Lib.hid (by rw [HF2.out, if_neg hq])
          refine (ref_sameBytes (rcL (t.take 0)) ((f.drop p).take (6 + 0)) _ _ _ _ _ _ _ _ _ false (Rd.of_own hv10) (hrec1 _ (by omega)) (rcL_range hrt.out) hrr.out ⟨fun h => (by cases h), fun h => absurd (HIS2.out.1 h) hq⟩).mono ?_
          rintro e' w11 ⟨rfl, rfl⟩
          clear HF2 HIS2 hq
          go_wp2
          go_ret3
          exact ⟨_, N, _, cs, done, p, 10, rfl, hown10, hobs10, by show _ = _; rw [HM.out.fault (by omega) hpl (by rw [HF3.out]; decide), HF3.out], hbelA⟩
      · have hsrc1 : ∀ (a m : Nat), a = o0 + (p + 6) → m = M → RI (wr.alloc (.cells #[] 5)).drew w.heap.size .u8 (some ⟨b0, a, none⟩) m (t.take M) := fun a m ha hm => by rw [hm, ha]; exact hsrc.below (hbe1.mono hbel.size)
        have HSRC := Lib.hid hsrc1
        clear hsrc1
        go_wp2
        refine region_two [0, 1, 2, 3, 4, 5, 6, 7, 8, 9, 10, 11, 12, 13] [] (by kernel_rfl) (by kernel_rfl) ?_
        simp only [pick, List.map_cons, List.map_nil, List.getD_cons_zero, List.getD_cons_succ]
        go_wp2_with (at_builtin; go_must (refine app_src eltOct _ rfl (.tmp 52) (.tmp 60) rfl wr.heap.size _ 0 [] rfl (by exact hown0) _ _ _ ((t.take M).map (Value.int .u8)) (by rfl) _ (by exact HSRC.out _ _ (by omega) (by omega)) (one_ints _ _) (by omega) (by omega) (by simp) ?_); intro v9 w9 hv9' _ hbel9 hsz9; obtain ⟨N9, hv9, hN9⟩ := own_count hv9'; obtain rfl : M = N9 := (by omega); clear hN9 hv9'; rw [List.nil_append] at hv9; obtain ⟨A9, k9, rfl, _⟩ := own_form hv9; have hb9 : Below wr.heap.size wr w9 := hbel9 wr hbe1)
        refine (ref_FileRecord (t.take M) _ _ _ _ (Rd.of_own hv9) hrt.out (by omega)).mono ?_
        rintro e' w10 ⟨v10, N10, rfl, hv10, hb10⟩
        rw [HRC.out.1] at hv10
        obtain ⟨A10, k10, rfl, _⟩ := own_form hv10
        have hb10' : Below wr.heap.size wr w10 := hb9.trans (hb10.mono hb9.size)
        have hown10 := own_below hown hb10'
        have hobs10 := hobs.below hb10'
        have hv9b := own_below hv9 hb10
        have hbelA : Below w.heap.size w w10 := hbel.trans (hb10'.mono hbel.size)
        have hrec1 : ∀ m, m = 6 + M → RI w10 w.heap.size .u8 (some ⟨b0, o0 + p, none⟩) m ((f.drop p).take (6 + M)) := fun m hm => by rw [hm]; exact hrec.below (hb10'.mono hbel.size)
        clear HSRC hown0 hbe1 hbel9
        go_wp2_with fail
        by_cases hq : adO (t.take M) = S
        · have HF3 : Hid (fc (f.drop p) = 0) := Lib.hid (by rw [HF2.out, if_pos hq])
          refine (ref_sameBytes (rcL (t.take M)) ((f.drop p).take (6 + M)) _ _ _ _ _ _ _ _ _ true (Rd.of_own hv10) (hrec1 _ (by omega)) (rcL_range hrt.out) hrr.out ⟨fun _ => HIS2.out.2 hq, fun _ => rfl⟩).mono ?_
          rintro e' w11 ⟨rfl, rfl⟩
          clear HF2 HIS2 hq
          go_wp2_with (at_builtin; go_must (refine app_lit eltLst w10 rfl (.tmp 79) (.tmp 81) rfl w.heap.size _ _ _ rfl (by exact hown10) 1 [_] _ rfl rfl rfl (oneS _ _ _) (by omega) (by omega) hbelA.size ?_); intro v4 w4 hv4 hgr4 hbel4 hsz4; obtain ⟨A4, k4, rfl, _⟩ := own_form hv4)
          refine ⟨⟨A4, N + 1, k4, _, done ++ [t.take M], p + (6 + M), rfl, by go_num, hv4, ?_, ?_, by omega, by omega, hbel4 w hbelA⟩, by simp [intOf]; omega⟩
          · refine OBs.snoc ((hobs10.below (below_alloc _)).other (hown10.alloc _) (by decide) hgr4) ?_
            exact ((OB.mk0 (own_more hv9b hbel.size)).below (below_alloc _)).other (hown10.alloc _) (by decide) hgr4
          · show Mid _ _ _ _
            have := HM.out.next (by omega) HF3.out
            rw [HLn.out, HBd.out] at this
            exact this
        · have HF3 : Hid (fc (f.drop p) = 10) := Lib.hid (by rw [HF2.out, if_neg hq])
          refine (ref_sameBytes (rcL (t.take M)) ((f.drop p).take (6 + M)) _ _ _ _ _ _ _ _ _ false (Rd.of_own hv10) (hrec1 _ (by omega)) (rcL_range hrt.out) hrr.out ⟨fun h => (by cases h), fun h => absurd (HIS2.out.1 h) hq⟩).mono ?_
          rintro e' w11 ⟨rfl, rfl⟩
          clear HF2 HIS2 hq
          go_wp2
          go_ret3
          exact ⟨_, N, _, cs, done, p, 10, rfl, hown10, hobs10, by show _ = _; rw [HM.out.fault (by omega) hpl (by rw [HF3.out]; decide), HF3.out], hbelA⟩
    · obtain rfl : p = n := by omega
      go_wp2
      go_ret3
      exact ⟨_, N, _, cs, done, p, 0, rfl, hown, hobs, HM.out.ended (by rw [HL.out]), hbel⟩
end Go.Proofs.Ytpgjjndmbkkhiaa
