/- What vm.Run does. No statement of the seat is proved here; no condition. -/
import Derived.Test.YtahfpllphkkmbaaDoorVm6
import Derived.Test.YtahfpllphkkmbaaDoorVmRunPure
set_option linter.unusedSimpArgs false
set_option linter.unusedVariables false
namespace Go.Proofs.YtahfpllphkkmbaaDoor
open Go.RowKit Go.Ord Go.Baro

/-- The end of a run. -/
theorem th_post {w w' : World} {B b : Nat} {cv tv : Value} {wA : Option Addr} {wn wc : Nat} {s : Vs} {N : Nat} {E : Int} (h : ThV w' B b cv tv (.slice wA wn wc) s) (hb : Below w.heap.size w w') (h1 : s.t.length ≤ 200) (h2 : s.w.length ≤ 200)
    {A : Option Addr} {n c : Nat} (ht : tv = .slice A n c) : RnPost s.t s.w N E w (.returned (.tuple #[.slice A n c, .slice wA wn wc, .int .i64 N, .int .i64 E])) w' := by
  subst ht
  obtain ⟨A1, c1, e1, l1⟩ := own_form h.told
  obtain ⟨A2, c2, e2, l2⟩ := own_form h.words
  injection e1 with _ e1 e1'
  injection e2 with _ e2 e2'
  subst e1 e1' e2 e2'
  exact ⟨_, _, _, _, _, _, rfl, Rd.of_own h.told, Rd.of_own h.words, l1, l2, h1, h2, hb⟩

set_option maxRecDepth 100000 in
set_option maxHeartbeats 4000000 in
theorem vm_Run (l : List Ins) (ar ws : List Int) (limit : Int) (A A1 A2 : Option Addr) (n c n1 c1 n2 c2 : Nat) (w : World) (hT : Tab w) (hb : RO w w.heap.size A n l) (hn : n ≤ 140737488355328) (hi : ∀ o ∈ l, inI o)
    (h1 : RI w w.heap.size .i64 A1 n1 ar) (hn1 : n1 ≤ 140737488355328) (ha : ∀ x ∈ ar, inW x) (h2 : RI w w.heap.size .i64 A2 n2 ws) (hn2 : n2 ≤ 140737488355328) (hw : ∀ x ∈ ws, inW x) (T W : List Int) (N : Nat) (E : Int) (hR : (T, W, N, E) = vmR l ar ws limit) :
    Calls Tryd.prog 11 #[.slice A n c, .slice A1 n1 c1, .slice A2 n2 c2, .int .i64 limit] w (RnPost T W N E w) := by
  have HL := Lib.hid hb.len
  have HL1 := Lib.hid h1.len
  have HL2 := Lib.hid h2.len
  have h0 : Below w.heap.size w w := Below.refl _ _
  obtain ⟨X, hX⟩ : ∃ X, X = vmX l ar ws limit := ⟨_, rfl⟩
  unfold vmR at hR
  by_cases hx0 : X = 0
  · rw [← hX, if_pos hx0] at hR
    have hlim : 0 ≤ limit ∧ limit ≤ 6000 ∧ okC l ∧ n1 ≤ 8 ∧ n2 ≤ 200 := by
      rw [hx0] at hX
      unfold vmX at hX
      rw [HL1.out, HL2.out] at hX
      split at hX
      · cases hX
      · split at hX
        · cases hX
        · split at hX
          · cases hX
          · rename_i q1 q2 q3
            exact ⟨by omega, by omega, Decidable.not_not.1 q1, by omega, by omega⟩
    obtain ⟨hl0, hl1, hokc, hn8, hn200⟩ := hlim
    obtain ⟨L, rfl⟩ : ∃ L : Nat, limit = L := ⟨limit.toNat, by omega⟩
    rw [Int.toNat_natCast] at hR
    have hnl : n ≤ 200 := by rw [← HL.out]; exact hokc.1
    have HOK := Lib.hid (show ∀ o ∈ l, okI n o by rw [← HL.out]; exact hokc.2)
    have HI := Lib.hid hi
    have HX := Lib.hid hX
    have HR := Lib.hid hR
    have HS0 := Lib.hid (st0_ok (n := l.length) ha hw (by rw [HL2.out]; exact hn200))
    subst hx0
    clear hX hR hokc hi ha hw
    go_enter Tryd.func11, Tryd.ntmps11
    go_wp2_with fail
    refine (vm_check l ar ws L 0 A A1 A2 n c n1 c1 n2 c2 w _ hT hb (Nat.le_refl _) hn hn1 hn2 HL1.out HL2.out HX.out).mono ?_
    rintro e w1 ⟨rfl, hb1⟩
    have hs1 := hb1.size
    go_wp2_with (at_builtin; go_must (refine app_srcB eltInt w1 rfl _ _ rfl w1.heap.size _ 0 [] rfl (World.ownsRow_nil _ _ _ _) _ _ _ (ws.map (Value.int .i64)) rfl _ (h2.below hb1) (one_ints _ _) (by omega) (by omega) (Nat.le_refl _) ?_); intro v2 w2 hown2 _ hbel2 hsz2 _)
    obtain ⟨A3, c3, rfl, hlc3⟩ := own_form hown2
    rw [List.nil_append, Nat.zero_add] at hown2
    have hb2 := hbel2 _ (Below.refl _ _)
    clear hbel2
    have hb02 : Below w.heap.size w w2 := hb1.trans (hb2.mono hs1)
    have hs2 := hb02.size
    go_wp2_with fail
    refine (vm_begin w2 A A1 n c n1 c1 w.heap.size ar (h1.below hb02) hs2 hn8).mono ?_
    rintro e w3 ⟨rfl, hb3⟩
    have hb03 : Below w.heap.size w w3 := hb02.trans (hb3.mono hs2)
    have hs3 := hb03.size
    have hown3 := own_below hown2 hb3
    obtain ⟨C2, hC2⟩ : ∃ C2, C2 = thC (.slice A n c) 0 (st0 ar []).r (.slice none 0 0) := ⟨_, rfl⟩
    rw [← hC2]
    have HL2' := Lib.hid (show C2.length = 27 by rw [hC2]; exact thC_len)
    have HO2 := Lib.hid (show ∀ v ∈ C2, v.oneCell' = true by rw [hC2]; exact thC_one rfl rfl)
    have HC2 := Lib.hid hC2
    have HIN := Lib.hid (show (Tryd.prog.info? 47).map (·.size) = some 27 by kernel_rfl)
    have HB0 := Lib.hid (Box.new w3 47 [Value.slice none 0 0, .int .i64 0, .int .i64 0, .int .i64 0, .int .i64 0, .int .i64 0, .int .i64 0, .int .i64 0, .int .i64 0, .int .i64 0, .int .i64 0, .int .i64 0, .int .i64 0, .int .i64 0, .int .i64 0, .int .i64 0, .int .i64 0, .int .i64 0, .int .i64 0, .int .i64 0, .int .i64 0, .int .i64 0, .int .i64 0, .int .i64 0, .int .i64 0, .int .i64 0, .slice none 0 0])
    clear hC2
    go_wp2_with (refine store_box rfl rfl 47 (.tmp 12) (.tmp 25) rfl w3.heap.size C2 rfl rfl 47 [Value.slice none 0 0, .int .i64 0, .int .i64 0, .int .i64 0, .int .i64 0, .int .i64 0, .int .i64 0, .int .i64 0, .int .i64 0, .int .i64 0, .int .i64 0, .int .i64 0, .int .i64 0, .int .i64 0, .int .i64 0, .int .i64 0, .int .i64 0, .int .i64 0, .int .i64 0, .int .i64 0, .int .i64 0, .int .i64 0, .int .i64 0, .int .i64 0, .int .i64 0, .int .i64 0, .slice none 0 0] HB0.out (by rw [HL2'.out]; exact HIN.out) (by rw [HL2'.out]; rfl) HO2.out ?_; intro w4 HG4 hg4)
    have hth : ThV w4 w1.heap.size w3.heap.size (.slice A n c) (.slice none 0 0) (.slice A3 n2 c3) (st0 ar ws) := by
      have hw4 : w4.ownsRow w1.heap.size 3 1 (.slice A3 n2 c3) n2 (ws.map (Value.int .i64)) := by
        refine (hown3.alloc _).kept hg4 ?_
        cases hv : (Value.slice A3 n2 c3).ownBlock with
        | none => exact .inl rfl
        | some k =>
          refine .inr fun he => ?_
          have := (hown3.lt _ hv).2
          injection he with he
          omega
      refine ⟨?_, World.ownsRow_nil _ _ _ _, ?_, ?_, by decide⟩
      · have := HG4.out; rw [HC2.out] at this; exact this
      · show World.ownsRow _ _ _ _ _ ws.length _
        rw [HL2.out]
        exact hw4
      · cases hv : (Value.slice A3 n2 c3).ownBlock with
        | none => exact .inl rfl
        | some k => exact .inr (by simp [Value.ownBlock])
    have hb04 : Below w.heap.size w w4 := below_set (hb03.alloc hs3 _) hg4 hs3 (by simp; omega)
    have hbase : w1.heap.size ≤ w3.heap.size := by have := hb2.size; have := hb3.size; omega
    have HP0 := Lib.hid (show Prog l L 0 (st0 ar ws) (st0 ar ws) 0 from .inl ⟨rfl, HS0.out, by simp⟩)
    clear HG4 hg4 HB0 hown3 hown2
    go_loopw [10, 11] (fun i e wr => ∃ (j : Nat) (s : Vs) (E' : Int) (tv : Value), j ≤ L ∧ i = .int .i64 j ∧ e = .int .i64 E' ∧ ThV wr w1.heap.size w3.heap.size (.slice A n c) tv (.slice A3 n2 c3) s ∧ Hid (Prog l L j (st0 ar ws) s E') ∧ Below w.heap.size w wr) (fun i _ _ => L - (intOf i).toNat)
    case atStart => exact ⟨0, st0 ar ws, 0, _, Nat.zero_le _, rfl, rfl, hth, HP0.out, hb04⟩
    case round =>
      obtain ⟨j, s, E', tv, hj, rfl, rfl, hth, HP, hbel⟩ := hrel
      clear HP0
      have hsz := hbel.size
      have hblt := hth.lt
      obtain ⟨At, ct, rfl, hlct⟩ := own_form hth.told
      have gt := hth.toldv
      obtain ⟨nt, hnt⟩ : ∃ nt, nt = s.t.length := ⟨_, rfl⟩
      rw [← hnt] at gt hth hlct
      have HTH := Lib.hid hth
      have HNT := Lib.hid hnt
      clear hnt
      by_cases hE : E' = 0
      · subst hE
        have HK := Lib.hid (prog_ok HP.out)
        by_cases hp : s.p = n
        · have HF := Lib.hid (prog_end HP.out (by rw [HL.out]; exact hp))
          have HPP := Lib.hid hp
          clear hp hth
          go_wp2_with fail
          refine (vm_ended wr _ _ n c A _ _ s true HTH.out (by simp; exact HPP.out)).mono ?_
          rintro e w5 ⟨rfl, rfl⟩
          go_wp2
          ((try simp only [Exit.inBlock, Exit.then]); refine bodyPost_ret (results_tmp4 rfl _ _ _) rfl ?_)
          have h9 := HR.out
          rw [HF.out] at h9
          simp only [Prod.mk.injEq] at h9
          obtain ⟨rfl, rfl, rfl, rfl⟩ := h9
          exact th_post (HTH.out.drewN 1) (hbel.drewN 1) HK.out.tl HK.out.wl rfl
        · have HPP := Lib.hid hp
          clear hp hth
          by_cases hjL : j = L
          · subst hjL
            have HF := Lib.hid (prog_over HP.out (by rw [HL.out]; exact HPP.out))
            go_wp2_with fail
            refine (vm_ended wr _ _ n c A _ _ s false HTH.out (by simp; exact HPP.out)).mono ?_
            rintro e w5 ⟨rfl, rfl⟩
            go_wp2
            ((try simp only [Exit.inBlock, Exit.then]); refine bodyPost_ret (results_tmp4 rfl _ _ _) rfl ?_)
            have h9 := HR.out
            rw [HF.out] at h9
            simp only [Prod.mk.injEq] at h9
            obtain ⟨rfl, rfl, rfl, rfl⟩ := h9
            exact th_post (HTH.out.drewN 1) (hbel.drewN 1) HK.out.tl HK.out.wl rfl
          · have hv : ((j : Int) == (L : Int)) = false := by simp; omega
            have hpn : s.p < n := by have := HK.out.hi; have := HPP.out; have := HL.out; omega
            have hp0 := HK.out.lo
            obtain ⟨o, HO⟩ : ∃ o, Hid (l[s.p.toNat]? = some o) := ⟨_, List.getElem?_eq_getElem (by have := HL.out; omega)⟩
            have hmem := List.mem_of_getElem? HO.out
            obtain ⟨s', E2, HS⟩ : ∃ s' E2, Hid (stp n o s = (s', E2)) := ⟨_, _, rfl⟩
            have hs' : stp l.length o s = (s', E2) := by rw [HL.out]; exact HS.out
            have HP' := Lib.hid (prog_step HP.out (by omega) (by rw [HL.out]; exact HPP.out) HO.out hs' (by rw [HL.out]; exact HOK.out o hmem) (HI.out o hmem))
            clear hmem hs'
            go_wp2_with fail
            refine (vm_ended wr _ _ n c A _ _ s false HTH.out (by simp; exact HPP.out)).mono ?_
            rintro e w5 ⟨rfl, rfl⟩
            go_wp2_with fail
            refine (vm_step _ w1.heap.size w.heap.size w3.heap.size n c n2 c3 A A3 _ l s s' o E2 (HTH.out.drewN 1) hbase ((hb.below hbel).heap rfl) hs1 hpn hnl (by rw [← HL.out]; exact HK.out) HO.out (HOK.out o (List.mem_of_getElem? HO.out)) HS.out).mono ?_
            rintro e w6 ⟨rfl, ⟨tv', hth6⟩, hb6⟩
            have hb06 : Below w.heap.size w w6 := (hbel.drewN 1).trans (hb6.mono hs1)
            go_wp2
            go_roundw
            case rel => exact ⟨j + 1, s', E2, tv', by omega, by go_num, rfl, hth6, HP'.out, hb06⟩
            case measure => simp [intOf]; omega
      · have hv : (E' == 0) = false := by simp [hE]
        obtain ⟨hf, hf1, hf2⟩ := prog_err HP.out hE
        have HF := Lib.hid hf
        clear hf hE hth
        go_wp2
        ((try simp only [Exit.inBlock, Exit.then]); refine bodyPost_ret (results_tmp4 rfl _ _ _) rfl ?_)
        have h9 := HR.out
        rw [HF.out] at h9
        simp only [Prod.mk.injEq] at h9
        obtain ⟨rfl, rfl, rfl, rfl⟩ := h9
        exact th_post HTH.out hbel hf1 hf2 rfl
  · rw [← hX, if_neg hx0] at hR
    simp only [Prod.mk.injEq] at hR
    obtain ⟨rfl, rfl, rfl, rfl⟩ := hR
    have hv1 : (E != 0) = true := by simp [hx0]
    have HX := Lib.hid hX
    clear hX hx0
    go_enter Tryd.func11, Tryd.ntmps11
    go_wp2_with fail
    refine (vm_check l ar ws limit E A A1 A2 n c n1 c1 n2 c2 w _ hT hb (Nat.le_refl _) hn hn1 hn2 HL1.out HL2.out HX.out).mono ?_
    rintro e w1 ⟨rfl, hb1⟩
    go_wp2
    ((try simp only [Exit.inBlock, Exit.then]); refine bodyPost_ret (results_tmp4 rfl _ _ _) rfl ?_)
    exact ⟨_, _, _, _, _, _, rfl, RI.nil _ _ _ _, RI.nil _ _ _ _, by omega, by omega, by omega, by omega, hb1⟩
end Go.Proofs.YtahfpllphkkmbaaDoor
