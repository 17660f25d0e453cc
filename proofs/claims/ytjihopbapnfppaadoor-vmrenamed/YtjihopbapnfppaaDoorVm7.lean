/- What vm.Run does. No statement of the seat is proved here; no condition. -/
import Derived.Test.YtjihopbapnfppaaDoorVm6
set_option linter.unusedSimpArgs false
set_option linter.unusedVariables false
namespace Go.Proofs.YtjihopbapnfppaaDoor
open Go.RowKit Go.Ord Go.Baro

/-- The end of a run. -/
theorem to_post {w w' : World} {B b o : Nat} {T : TypeId} {pre post : List Value} {cv tv : Value} {wA : Option Addr} {wn wc : Nat} {s : Vs} {N : Nat} {E : Int} (h : ToV T pre post w' B b o cv tv (.slice wA wn wc) s) (hb : Below w.heap.size w w') (h1 : s.t.length ≤ 200) (h2 : s.w.length ≤ 200)
    {A : Option Addr} {n c : Nat} (ht : tv = .slice A n c) : RnPost s.t s.w N E w (.returned (.tuple #[.slice A n c, .slice wA wn wc, .int .i64 N, .int .i64 E])) w' := by
  subst ht
  obtain ⟨A1, c1, e1, l1⟩ := own_form h.told
  obtain ⟨A2, c2, e2, l2⟩ := own_form h.words
  injection e1 with _ e1 e1'
  injection e2 with _ e2 e2'
  subst e1 e1' e2 e2'
  exact ⟨_, _, _, _, _, _, rfl, Rd.of_own h.told, Rd.of_own h.words, l1, l2, h1, h2, hb⟩
theorem to_below {w w' : World} {B b o C : Nat} {T : TypeId} {pre post : List Value} {cv tv wv : Value} {s : Vs} (h : ToV T pre post w B b o cv tv wv s) (hu : Un (touch b b tv wv) w w') (hb : C ≤ b) (hB : C ≤ B) : Below C w w' := by
  have := h.lt
  refine hu.below (by omega) fun k hk ht => ?_
  rcases ht with rfl | rfl | ht | ht
  · omega
  · omega
  · have := (h.told.lt k ht.symm).1; omega
  · have := (h.words.lt k ht.symm).1; omega

set_option maxRecDepth 100000 in
set_option maxHeartbeats 4000000 in
theorem vm_Run (l : List Ins) (ar ws : List Int) (limit : Int) (A A1 A2 : Option Addr) (n c n1 c1 n2 c2 : Nat) (w : World) (hT : Tab w) (hb : RO w w.heap.size A n l) (hn : n ≤ 140737488355328) (hi : ∀ o ∈ l, inI o)
    (h1 : RI w w.heap.size .i64 A1 n1 ar) (hn1 : n1 ≤ 140737488355328) (ha : ∀ x ∈ ar, inW x) (h2 : RI w w.heap.size .i64 A2 n2 ws) (hn2 : n2 ≤ 140737488355328) (hw : ∀ x ∈ ws, inW x) (T W : List Int) (N : Nat) (E : Int) (hR : (T, W, N, E) = vmR l ar ws limit) :
    Calls Tryd.prog 17 #[.slice A n c, .slice A1 n1 c1, .slice A2 n2 c2, .int .i64 limit] w (RnPost T W N E w) := by
  have HL := Lib.hid hb.len
  have HL1 := Lib.hid h1.len
  have HL2 := Lib.hid h2.len
  have h0 : Below w.heap.size w w := Below.refl _ _
  have HIN := Lib.hid (show (Tryd.prog.info? 69).map (·.size) = some 27 by kernel_rfl)
  have HLZ := Lib.hid (show thZ.length = 27 from thC_len)
  have HOZ := Lib.hid (show ∀ v ∈ thZ, v.oneCell' = true from thC_one rfl rfl)
  obtain ⟨CZ, hCZ⟩ : ∃ CZ, CZ = thZ := ⟨_, rfl⟩
  have hZ := thZ_arr
  rw [← hCZ] at hZ
  have HZ := Lib.hid hZ
  have HCZ := Lib.hid hCZ
  clear hZ hCZ
  unfold vmR at hR
  by_cases hgo : okC l ∧ n1 ≤ 8
  · obtain ⟨hokc, hn8⟩ := hgo
    obtain ⟨X, hX⟩ : ∃ X : Int, X = if 200 < n2 then 1 else if limit < 0 ∨ 6000 < limit then 2 else 0 := ⟨_, rfl⟩
    have hXv : vmX l ar ws limit = X := by
      unfold vmX
      rw [HL1.out, HL2.out, if_neg (by simpa using hokc), hX]
      by_cases h200 : 200 < n2
      · rw [if_pos (.inr h200), if_pos h200]
      · rw [if_neg (by omega), if_neg h200]
    rw [hXv] at hR
    have hnl : n ≤ 200 := by rw [← HL.out]; exact hokc.1
    have HOC := Lib.hid hokc
    clear hokc hXv
    by_cases hx0 : X = 0
    · rw [if_pos hx0] at hR
      have hlim : 0 ≤ limit ∧ limit ≤ 6000 ∧ n2 ≤ 200 := by
        rw [hx0] at hX
        split at hX
        · cases hX
        · split at hX
          · cases hX
          · omega
      obtain ⟨hl0, hl1, hn200⟩ := hlim
      obtain ⟨L, rfl⟩ : ∃ L : Nat, limit = L := ⟨limit.toNat, by omega⟩
      rw [Int.toNat_natCast] at hR
      have HOK := Lib.hid (show ∀ o ∈ l, okI n o by rw [← HL.out]; exact HOC.out.2)
      have HI := Lib.hid hi
      have HX := Lib.hid hX
      have HR := Lib.hid hR
      have HS0 := Lib.hid (st0_ok (n := l.length) ha hw (by rw [HL2.out]; exact hn200))
      subst hx0
      clear hX hR hi ha hw
      go_enter Tryd.func17, Tryd.ntmps17
      go_wp2_with fail
      refine (vm_Begin w hT l ar A A1 n c n1 c1 w.heap.size hb h1 (Nat.le_refl _) HOC.out hn8).mono ?_
      rintro e w1 ⟨cA, cc, rfl, hro, hfresh, hb1⟩
      have hs1 := hb1.size
      obtain ⟨C2, hC2⟩ : ∃ C2, C2 = thC (.slice cA n cc) 0 (st0 ar []).r (.slice none 0 0) := ⟨_, rfl⟩
      rw [← hC2]
      have HLC := Lib.hid (show C2.length = 27 by rw [hC2]; exact thC_len)
      have HOC2 := Lib.hid (show ∀ v ∈ C2, v.oneCell' = true by rw [hC2]; exact thC_one rfl rfl)
      have HC2 := Lib.hid hC2
      have HB0 := Lib.hid (Box.new w1 69 [Value.slice none 0 0, .int .i64 0, .int .i64 0, .int .i64 0, .int .i64 0, .int .i64 0, .int .i64 0, .int .i64 0, .int .i64 0, .int .i64 0, .int .i64 0, .int .i64 0, .int .i64 0, .int .i64 0, .int .i64 0, .int .i64 0, .int .i64 0, .int .i64 0, .int .i64 0, .int .i64 0, .int .i64 0, .int .i64 0, .int .i64 0, .int .i64 0, .int .i64 0, .int .i64 0, .slice none 0 0])
      clear hC2
      go_wp2_with (refine store_box rfl rfl 69 (.tmp 12) (.tmp 17) rfl w1.heap.size C2 rfl rfl 69 [Value.slice none 0 0, .int .i64 0, .int .i64 0, .int .i64 0, .int .i64 0, .int .i64 0, .int .i64 0, .int .i64 0, .int .i64 0, .int .i64 0, .int .i64 0, .int .i64 0, .int .i64 0, .int .i64 0, .int .i64 0, .int .i64 0, .int .i64 0, .int .i64 0, .int .i64 0, .int .i64 0, .int .i64 0, .int .i64 0, .int .i64 0, .int .i64 0, .int .i64 0, .int .i64 0, .slice none 0 0] HB0.out (by rw [HLC.out]; exact HIN.out) (by rw [HLC.out]; rfl) HOC2.out ?_; intro w2 HG2 hg2)
      have hb12 : Below w1.heap.size w1 w2 := below_set ((Below.refl _ _).alloc (Nat.le_refl _) _) hg2 (Nat.le_refl _) (by simp)
      have hb02 : Below w.heap.size w w2 := hb1.trans (hb12.mono hs1)
      have hs2 := hb02.size
      have hs12 := HG2.out.lt
      refine (vm_check L 0 A2 n2 c2 w2 hn2 HX.out).mono ?_
      rintro e w2' ⟨rfl, rfl⟩
      obtain ⟨w2, rfl⟩ : ∃ w2, w2 = w2' := ⟨_, rfl⟩
      go_wp2_with (at_builtin; go_must (refine app_srcB eltInt w2 rfl _ _ rfl w2.heap.size _ 0 [] rfl (World.ownsRow_nil _ _ _ _) _ _ _ (ws.map (Value.int .i64)) rfl _ (h2.below hb02) (one_ints _ _) (by omega) (by omega) (Nat.le_refl _) ?_); intro v3 w3 hown3 _ hbel3 hsz3 _)
      rw [List.nil_append, Nat.zero_add] at hown3
      obtain ⟨A3, c3, rfl, hlc3⟩ := own_form hown3
      have hb23 := hbel3 _ (Below.refl _ _)
      clear hbel3
      have hb13 : Below w1.heap.size w1 w3 := hb12.trans (hb23.mono (by omega))
      have hth : ToV 69 [] [] w3 w2.heap.size w1.heap.size 0 (.slice cA n cc) (.slice none 0 0) (.slice A3 n2 c3) (st0 ar ws) := by
        refine ⟨?_, rfl, World.ownsRow_nil _ _ _ _, ?_, ?_, by decide⟩
        · have := HG2.out.below hb23 hs12
          rw [HC2.out] at this
          rw [List.nil_append, List.append_nil]
          exact this
        · show World.ownsRow _ _ _ _ _ ws.length _
          rw [HL2.out]
          exact hown3
        · cases hv : (Value.slice A3 n2 c3).ownBlock with
          | none => exact .inl rfl
          | some k => exact .inr (by simp [Value.ownBlock])
      have HP0 := Lib.hid (show ProgC l L 0 (st0 ar ws) (st0 ar ws) 0 from .inl ⟨rfl, HS0.out, by simp⟩)
      clear HG2 hg2 HB0 hown3
      go_loopw [10, 11] (fun i e wr => ∃ (j : Nat) (s : Vs) (E' : Int) (tv : Value), j ≤ L ∧ i = .int .i64 j ∧ e = .int .i64 E' ∧ ToV 69 [] [] wr w2.heap.size w1.heap.size 0 (.slice cA n cc) tv (.slice A3 n2 c3) s ∧ Hid (ProgC l L j (st0 ar ws) s E') ∧ Below w1.heap.size w1 wr ∧ w2.heap.size ≤ wr.heap.size) (fun i _ _ => L - (intOf i).toNat)
      case atStart => exact ⟨0, st0 ar ws, 0, _, Nat.zero_le _, rfl, rfl, hth, HP0.out, hb13, hsz3⟩
      case round =>
        obtain ⟨j, s, E', tv, hj, rfl, rfl, hth, HP, hbel, hszr⟩ := hrel
        clear HP0
        have hsz := hbel.size
        have hblt := hth.lt
        have hbw : Below w.heap.size w wr := hb1.trans (hbel.mono hs1)
        obtain ⟨At, ct, rfl, hlct⟩ := own_form hth.told
        have gt := hth.toldv
        rw [Nat.zero_add] at gt
        obtain ⟨nt, hnt⟩ : ∃ nt, nt = s.t.length := ⟨_, rfl⟩
        rw [← hnt] at gt hth hlct
        have HTH := Lib.hid hth
        have HNT := Lib.hid hnt
        clear hnt
        obtain ⟨hlt, hlw⟩ := progc_len HP.out
        by_cases hp : s.p = n
        · obtain ⟨p9, hf⟩ := progc_end HP.out (by rw [HL.out]; exact hp)
          have HF := Lib.hid hf
          have HPP := Lib.hid hp
          clear hp hth hf
          go_wp2_with fail
          refine (vm_endedo _ _ _ 0 wr _ _ n cc cA _ _ s true HTH.out (by simp; exact HPP.out)).mono ?_
          rintro e w5 ⟨rfl, rfl⟩
          go_wp2
          ((try simp only [Exit.inBlock, Exit.then]); refine bodyPost_ret (results_tmp4 rfl _ _ _) rfl ?_)
          have h9 := HR.out
          rw [HF.out] at h9
          simp only [Prod.mk.injEq] at h9
          obtain ⟨rfl, rfl, rfl, rfl⟩ := h9
          exact to_post (HTH.out.drewN 1) (hbw.drewN 1) hlt hlw rfl
        · obtain rfl : E' = 0 := progc_zero HP.out (by rw [HL.out]; exact hp)
          have HK := Lib.hid (progc_ok HP.out)
          have HPP := Lib.hid hp
          clear hp hth
          by_cases hjL : j = L
          · subst hjL
            have HF := Lib.hid (progc_over HP.out (by rw [HL.out]; exact HPP.out))
            go_wp2_with fail
            refine (vm_endedo _ _ _ 0 wr _ _ n cc cA _ _ s false HTH.out (by simp; exact HPP.out)).mono ?_
            rintro e w5 ⟨rfl, rfl⟩
            go_wp2
            ((try simp only [Exit.inBlock, Exit.then]); refine bodyPost_ret (results_tmp4 rfl _ _ _) rfl ?_)
            have h9 := HR.out
            rw [HF.out] at h9
            simp only [Prod.mk.injEq] at h9
            obtain ⟨rfl, rfl, rfl, rfl⟩ := h9
            exact to_post (HTH.out.drewN 1) (hbw.drewN 1) hlt hlw rfl
          · have hv : ((j : Int) == (L : Int)) = false := by simp; omega
            have hpn : s.p < n := by have := HK.out.hi; have := HPP.out; have := HL.out; omega
            have hp0 := HK.out.lo
            obtain ⟨o, HO⟩ : ∃ o, Hid (l[s.p.toNat]? = some o) := ⟨_, List.getElem?_eq_getElem (by have := HL.out; omega)⟩
            have hmem := List.mem_of_getElem? HO.out
            obtain ⟨s', E2, HS⟩ : ∃ s' E2, Hid (stp n o s = (s', E2)) := ⟨_, _, rfl⟩
            have hs' : stp l.length o s = (s', E2) := by rw [HL.out]; exact HS.out
            have HP' := Lib.hid (show ProgC l L (j + 1) (st0 ar ws) (aft n E2 s') E2 by have := progc_step HP.out (by omega) (by rw [HL.out]; exact HPP.out) HO.out hs' (by rw [HL.out]; exact HOK.out o hmem) (HI.out o hmem); rw [HL.out] at this; exact this)
            clear hmem hs'
            go_wp2_with fail
            refine (vm_endedo _ _ _ 0 wr _ _ n cc cA _ _ s false HTH.out (by simp; exact HPP.out)).mono ?_
            rintro e w5 ⟨rfl, rfl⟩
            go_wp2_with fail
            refine (vm_Stepo _ _ _ 0 (wr.drewN 1) w2.heap.size w1.heap.size w1.heap.size n cc n2 c3 cA A3 _ l s s' o E2 (HTH.out.drewN 1) hszr ((hro.below hbel).heap rfl) hsz hpn hnl (by rw [← HL.out]; exact HK.out) HO.out (HOK.out o (List.mem_of_getElem? HO.out)) HS.out).mono ?_
            rintro e w6 ⟨rfl, ⟨tv', hth6, _⟩, hu6⟩
            have hb6 := (hbel.drewN 1).trans (to_below (HTH.out.drewN 1) hu6 (Nat.le_refl _) (by omega))
            have hsz6 : w2.heap.size ≤ w6.heap.size := Nat.le_trans hszr hu6.size
            go_wp2
            go_roundw
            case rel => exact ⟨j + 1, aft n E2 s', E2, tv', by omega, by go_num, rfl, hth6, HP'.out, hb6, hsz6⟩
            case measure => simp [intOf]; omega
    · rw [if_neg hx0] at hR
      simp only [Prod.mk.injEq] at hR
      obtain ⟨rfl, rfl, rfl, rfl⟩ := hR
      have hv1 : (E != 0) = true := by simp [hx0]
      have HX := Lib.hid hX
      clear hX hx0
      go_enter Tryd.func17, Tryd.ntmps17
      go_wp2_with fail
      refine (vm_Begin w hT l ar A A1 n c n1 c1 w.heap.size hb h1 (Nat.le_refl _) HOC.out hn8).mono ?_
      rintro e w1 ⟨cA, cc, rfl, hro, hfresh, hb1⟩
      have hs1 := hb1.size
      obtain ⟨C2, hC2⟩ : ∃ C2, C2 = thC (.slice cA n cc) 0 (st0 ar []).r (.slice none 0 0) := ⟨_, rfl⟩
      rw [← hC2]
      have HLC := Lib.hid (show C2.length = 27 by rw [hC2]; exact thC_len)
      have HOC2 := Lib.hid (show ∀ v ∈ C2, v.oneCell' = true by rw [hC2]; exact thC_one rfl rfl)
      have HB0 := Lib.hid (Box.new w1 69 [Value.slice none 0 0, .int .i64 0, .int .i64 0, .int .i64 0, .int .i64 0, .int .i64 0, .int .i64 0, .int .i64 0, .int .i64 0, .int .i64 0, .int .i64 0, .int .i64 0, .int .i64 0, .int .i64 0, .int .i64 0, .int .i64 0, .int .i64 0, .int .i64 0, .int .i64 0, .int .i64 0, .int .i64 0, .int .i64 0, .int .i64 0, .int .i64 0, .int .i64 0, .int .i64 0, .slice none 0 0])
      clear hC2
      go_wp2_with (refine store_box rfl rfl 69 (.tmp 12) (.tmp 17) rfl w1.heap.size C2 rfl rfl 69 [Value.slice none 0 0, .int .i64 0, .int .i64 0, .int .i64 0, .int .i64 0, .int .i64 0, .int .i64 0, .int .i64 0, .int .i64 0, .int .i64 0, .int .i64 0, .int .i64 0, .int .i64 0, .int .i64 0, .int .i64 0, .int .i64 0, .int .i64 0, .int .i64 0, .int .i64 0, .int .i64 0, .int .i64 0, .int .i64 0, .int .i64 0, .int .i64 0, .int .i64 0, .int .i64 0, .slice none 0 0] HB0.out (by rw [HLC.out]; exact HIN.out) (by rw [HLC.out]; rfl) HOC2.out ?_; intro w2 HG2 hg2)
      have hb02 : Below w.heap.size w w2 := below_set (hb1.alloc hs1 _) hg2 hs1 (by simp; omega)
      refine (vm_check limit E A2 n2 c2 w2 hn2 HX.out).mono ?_
      rintro e w2' ⟨rfl, rfl⟩
      go_wp2
      ((try simp only [Exit.inBlock, Exit.then]); refine bodyPost_ret (results_tmp4 rfl _ _ _) rfl ?_)
      exact ⟨_, _, _, _, _, _, rfl, RI.nil _ _ _ _, RI.nil _ _ _ _, by omega, by omega, by omega, by omega, hb02⟩
  · obtain ⟨E0, hE0, hX⟩ : ∃ E0 : Int, ((¬ okC l ∧ E0 = 4) ∨ (okC l ∧ 8 < n1 ∧ E0 = 1)) ∧ vmX l ar ws limit = E0 := by
      by_cases hokc : okC l
      · refine ⟨1, .inr ⟨hokc, by have : ¬ n1 ≤ 8 := fun h => hgo ⟨hokc, h⟩
                                  omega, rfl⟩, ?_⟩
        unfold vmX
        rw [if_neg (by simpa using hokc), if_pos (.inl (by rw [HL1.out]; have : ¬ n1 ≤ 8 := fun h => hgo ⟨hokc, h⟩
                                                           omega))]
      · refine ⟨4, .inl ⟨hokc, rfl⟩, ?_⟩
        unfold vmX
        rw [if_pos hokc]
    have hne : E0 ≠ 0 := by omega
    rw [hX, if_neg hne] at hR
    simp only [Prod.mk.injEq] at hR
    obtain ⟨rfl, rfl, rfl, rfl⟩ := hR
    have hv1 : (E != 0) = true := by simp [hne]
    have hv2 : (E == 0) = false := by simp [hne]
    have HE0 := Lib.hid hE0
    clear hX hgo hne hE0
    go_enter Tryd.func17, Tryd.ntmps17
    go_wp2_with fail
    refine (vm_Begin_no w hT l ar A A1 n c n1 c1 w.heap.size E hb (Nat.le_refl _) (by omega) (by omega) HE0.out).mono ?_
    rintro e w1 ⟨rfl, hb1⟩
    rw [← HCZ.out]
    have hs1 := hb1.size
    have HB0 := Lib.hid (Box.new w1 69 [Value.slice none 0 0, .int .i64 0, .int .i64 0, .int .i64 0, .int .i64 0, .int .i64 0, .int .i64 0, .int .i64 0, .int .i64 0, .int .i64 0, .int .i64 0, .int .i64 0, .int .i64 0, .int .i64 0, .int .i64 0, .int .i64 0, .int .i64 0, .int .i64 0, .int .i64 0, .int .i64 0, .int .i64 0, .int .i64 0, .int .i64 0, .int .i64 0, .int .i64 0, .int .i64 0, .slice none 0 0])
    go_wp2_with (refine store_box rfl rfl 69 (.tmp 12) (.tmp 17) rfl w1.heap.size CZ rfl rfl 69 [Value.slice none 0 0, .int .i64 0, .int .i64 0, .int .i64 0, .int .i64 0, .int .i64 0, .int .i64 0, .int .i64 0, .int .i64 0, .int .i64 0, .int .i64 0, .int .i64 0, .int .i64 0, .int .i64 0, .int .i64 0, .int .i64 0, .int .i64 0, .int .i64 0, .int .i64 0, .int .i64 0, .int .i64 0, .int .i64 0, .int .i64 0, .int .i64 0, .int .i64 0, .int .i64 0, .slice none 0 0] HB0.out (by rw [HCZ.out, HLZ.out]; exact HIN.out) (by rw [HCZ.out, HLZ.out]; rfl) (by rw [HCZ.out]; exact HOZ.out) ?_; intro w2 HG2 hg2)
    have hb02 : Below w.heap.size w w2 := below_set (hb1.alloc hs1 _) hg2 hs1 (by simp; omega)
    ((try simp only [Exit.inBlock, Exit.then]); refine bodyPost_ret (results_tmp4 rfl _ _ _) rfl ?_)
    exact ⟨_, _, _, _, _, _, rfl, RI.nil _ _ _ _, RI.nil _ _ _ _, by omega, by omega, by omega, by omega, hb02⟩
end Go.Proofs.YtjihopbapnfppaaDoor
