/- What the document's answer to vm.Run does. No statement of the seat is proved here; no condition. -/
import Derived.Test.YtjihopbapnfppaaDoorRefOne
import Derived.Test.YtjihopbapnfppaaDoorRefVm1
import Derived.Test.YtjihopbapnfppaaDoorVmRunPure
set_option linter.unusedSimpArgs false
set_option linter.unusedVariables false
namespace Go.Proofs.YtjihopbapnfppaaDoor
open Go.RowKit Go.Ord Go.Baro Go.Maps

/-- The registers when j arguments are there. -/
def rJ (ar : List Int) (j : Nat) : Int → Int := fun k => if 0 ≤ k ∧ k < j then ar[k.toNat]?.getD 0 else 0
theorem rJ_zero (ar : List Int) : rJ ar 0 = fun _ => 0 := by funext k; unfold rJ; rw [if_neg (by omega)]
theorem rJ_step {ar : List Int} {j : Nat} {x : Int} (h : ar[j]? = some x) : upd (rJ ar j) j x = rJ ar (j + 1) := by
  funext k
  unfold upd rJ
  by_cases hk : k = j
  · subst hk
    rw [if_pos rfl, if_pos (by omega), Int.toNat_natCast, h]; rfl
  · rw [if_neg hk]
    by_cases h2 : 0 ≤ k ∧ k < j
    · rw [if_pos h2, if_pos (by omega)]
    · rw [if_neg h2, if_neg (by omega)]
theorem rJ_end {ar : List Int} {j : Nat} (h : ar.length = j) : rJ ar j = (st0 ar []).r := by
  funext k
  unfold rJ st0
  dsimp only
  by_cases h0 : 0 ≤ k
  · rw [if_pos h0]
    by_cases h1 : k < j
    · rw [if_pos ⟨h0, h1⟩]
    · rw [if_neg (by omega), List.getElem?_eq_none (by omega)]; rfl
  · rw [if_neg (by omega), if_neg h0]

set_option maxRecDepth 100000 in
set_option maxHeartbeats 2000000 in
theorem ref_NewWorker (w : World) (A A1 : Option Addr) (n c m c1 : Nat) (ar : List Int) (ov : Bool) (hr : RI w w.heap.size .i64 A1 m ar) (hm : m ≤ 8) (hn : n ≤ 200) (ha : ∀ x ∈ ar, inW x) (hov : ov = true ↔ n = 0) :
    Calls Tryd.prog 41 #[.slice A n c, .slice A1 m c1] w fun e w' => e = .returned (.pointer (some ⟨w.heap.size + 1, 0, none⟩)) ∧ Box w' (w.heap.size + 1) 78 [.slice A n c, .map (some w.heap.size), .int .i64 0, .slice none 0 0, .int .i64 0, .bool ov] ∧
      MI w' w.heap.size 8 (st0 ar []).r ∧ Below w.heap.size w w' := by
  have HL := Lib.hid hr.len
  have HA := Lib.hid ha
  have hmm := @run_makeMap Tryd.prog
  have h0 : Below w.heap.size w w := Below.refl _ _
  have hA := (h0.alloc (Nat.le_refl _) (.map #[] 0)).alloc (by simp) (Obj.cells #[.slice A n c, .map (some w.heap.size), .int .i64 0, .slice none 0 0, .int .i64 0, .bool ov] 78)
  have bD := Box.newAt (w.alloc (.map #[] 0)) 78 [.slice A n c, .map (some w.heap.size), .int .i64 0, .slice none 0 0, .int .i64 0, .bool ov] (w.heap.size + 1) (by simp)
  have hMI : MI ((w.alloc (.map #[] 0)).alloc (Obj.cells #[.slice A n c, .map (some w.heap.size), .int .i64 0, .slice none 0 0, .int .i64 0, .bool ov] 78)) w.heap.size 0 (rJ ar 0) := by
    rw [rJ_zero]; exact (MI.made w).alloc _
  have hv : ((n : Int) == 0) = ov := by
    cases ov with
    | true => simpa using hov.1 rfl
    | false => simp at hov; simp; omega
  have HM := Lib.hid hMI
  clear hov ha hMI
  go_enter Tryd.func41, Tryd.ntmps41
  go_wp2
  go_loopw [17] (fun i wr => ∃ j : Nat, j ≤ m ∧ i = .int .i64 j ∧ Hid (MI wr w.heap.size j (rJ ar j)) ∧ Box wr (w.heap.size + 1) 78 [.slice A n c, .map (some w.heap.size), .int .i64 0, .slice none 0 0, .int .i64 0, .bool ov] ∧ Below w.heap.size w wr) (fun i _ => m - (intOf i).toNat)
  case atStart => exact ⟨0, Nat.zero_le _, rfl, HM.out, bD, hA⟩
  case round =>
    obtain ⟨j, hj, rfl, HM, bD, hbel⟩ := hrel
    have hsz := hbel.size
    have lD := bD.lt
    have g1 : wr.cell? ⟨w.heap.size + 1, 1, none⟩ = _ := bD.cell 1
    simp only [List.getElem?_cons_zero, List.getElem?_cons_succ] at g1
    by_cases hjm : j < m
    · obtain ⟨b, o, x, rfl, hbB, hcell, HX, hmem⟩ := (hr.below hbel).val hjm
      have HXI := Lib.hid (HA.out x hmem)
      clear hmem
      go_wp2_with (at_mapUpdate; go_must (refine wp_upd rfl rfl _ _ _ rfl w.heap.size j (rJ ar j) _ _ rfl HM.out rfl rfl (by unfold inW; omega) HXI.out (by omega) ?_); intro w1 HM1 hg1)
      go_roundw
      case rel =>
        refine ⟨j + 1, by omega, by go_num, ?_, bD.grown hg1 (by simp), below_set hbel hg1 (Nat.le_refl _) hsz⟩
        have := HM1.out
        rw [rJ_step HX.out] at this
        exact this
      case measure => simp [intOf]; omega
    · obtain rfl : j = m := by omega
      go_wp2
      go_ret
      refine ⟨rfl, bD, ?_, hbel⟩
      have := HM.out
      rw [rJ_end HL.out] at this
      exact this.mono hm

/-- The end of a run. -/
theorem wk_post {w w' : World} {B b mb : Nat} {cv tv : Value} {wA : Option Addr} {wn wc : Nat} {p : Int} {ws t : List Int} {er : Int} {ov : Bool} {N : Nat} {E : Int} (h : Wk w' B b mb cv tv (.slice wA wn wc) p ws t er ov) (hb : Below w.heap.size w w') (h1 : t.length ≤ 200) (h2 : ws.length ≤ 200)
    {A : Option Addr} {n c : Nat} (ht : tv = .slice A n c) : RnPost t ws N E w (.returned (.tuple #[.slice A n c, .slice wA wn wc, .int .i64 N, .int .i64 E])) w' := by
  subst ht
  obtain ⟨A1, c1, e1, l1⟩ := own_form h.told
  obtain ⟨A2, c2, e2, l2⟩ := own_form h.words
  injection e1 with _ e1 e1'
  injection e2 with _ e2 e2'
  subst e1 e1' e2 e2'
  exact ⟨_, _, _, _, _, _, rfl, Rd.of_own h.told, Rd.of_own h.words, l1, l2, h1, h2, hb⟩

set_option maxRecDepth 100000 in
set_option maxHeartbeats 4000000 in
theorem ref_VmRan (l : List Ins) (ar ws : List Int) (limit : Int) (A A1 A2 : Option Addr) (n c n1 c1 n2 c2 : Nat) (w : World) (hb : RO w w.heap.size A n l) (hn : n ≤ 140737488355328) (hi : ∀ o ∈ l, inI o)
    (h1 : RI w w.heap.size .i64 A1 n1 ar) (hn1 : n1 ≤ 140737488355328) (ha : ∀ x ∈ ar, inW x) (h2 : RI w w.heap.size .i64 A2 n2 ws) (hn2 : n2 ≤ 140737488355328) (hw : ∀ x ∈ ws, inW x) (T W : List Int) (N : Nat) (E : Int) (hR : (T, W, N, E) = vmR l ar ws limit) :
    Calls Tryd.prog 18 #[.slice A n c, .slice A1 n1 c1, .slice A2 n2 c2, .int .i64 limit] w (RnPost T W N E w) := by
  have HL := Lib.hid hb.len
  have HL1 := Lib.hid h1.len
  have HL2 := Lib.hid h2.len
  have h0 : Below w.heap.size w w := Below.refl _ _
  unfold vmR at hR
  by_cases hok : okC l
  · have HOKC := Lib.hid hok
    have hnl : n ≤ 200 := by rw [← HL.out]; exact hok.1
    by_cases h8 : 8 < n1
    · have hX : vmX l ar ws limit = 1 := by unfold vmX; rw [if_neg (by simpa using hok), if_pos (by rw [HL1.out]; exact .inl h8)]
      rw [hX, if_neg (by decide)] at hR
      simp only [Prod.mk.injEq] at hR
      obtain ⟨rfl, rfl, rfl, rfl⟩ := hR
      clear hX hok
      go_enter Tryd.func18, Tryd.ntmps18
      go_wp2_with fail
      refine (ref_CodeMay l A n c true w _ hb (Nat.le_refl _) (by omega) (by simp; exact HOKC.out)).mono ?_
      rintro e w1 ⟨rfl, hb1⟩
      go_wp2
      ((try simp only [Exit.inBlock, Exit.then]); refine bodyPost_ret (results_tmp4 rfl _ _ _) rfl ?_)
      exact ⟨_, _, _, _, _, _, rfl, RI.nil _ _ _ _, RI.nil _ _ _ _, by omega, by omega, by omega, by omega, hb1⟩
    · by_cases h200 : 200 < n2
      · have hX : vmX l ar ws limit = 1 := by unfold vmX; rw [if_neg (by simpa using hok), if_pos (by rw [HL2.out]; exact .inr h200)]
        rw [hX, if_neg (by decide)] at hR
        simp only [Prod.mk.injEq] at hR
        obtain ⟨rfl, rfl, rfl, rfl⟩ := hR
        clear hX hok
        go_enter Tryd.func18, Tryd.ntmps18
        go_wp2_with fail
        refine (ref_CodeMay l A n c true w _ hb (Nat.le_refl _) (by omega) (by simp; exact HOKC.out)).mono ?_
        rintro e w1 ⟨rfl, hb1⟩
        go_wp2
        ((try simp only [Exit.inBlock, Exit.then]); refine bodyPost_ret (results_tmp4 rfl _ _ _) rfl ?_)
        exact ⟨_, _, _, _, _, _, rfl, RI.nil _ _ _ _, RI.nil _ _ _ _, by omega, by omega, by omega, by omega, hb1⟩
      · by_cases hlim : limit < 0 ∨ 6000 < limit
        · have hX : vmX l ar ws limit = 2 := by unfold vmX; rw [if_neg (by simpa using hok), if_neg (by rw [HL1.out, HL2.out]; omega), if_pos hlim]
          rw [hX, if_neg (by decide)] at hR
          simp only [Prod.mk.injEq] at hR
          obtain ⟨rfl, rfl, rfl, rfl⟩ := hR
          clear hX hok
          by_cases hneg : limit < 0
          · go_enter Tryd.func18, Tryd.ntmps18
            go_wp2_with fail
            refine (ref_CodeMay l A n c true w _ hb (Nat.le_refl _) (by omega) (by simp; exact HOKC.out)).mono ?_
            rintro e w1 ⟨rfl, hb1⟩
            go_wp2
            ((try simp only [Exit.inBlock, Exit.then]); refine bodyPost_ret (results_tmp4 rfl _ _ _) rfl ?_)
            exact ⟨_, _, _, _, _, _, rfl, RI.nil _ _ _ _, RI.nil _ _ _ _, by omega, by omega, by omega, by omega, hb1⟩
          · have hbig : 6000 < limit := by omega
            go_enter Tryd.func18, Tryd.ntmps18
            go_wp2_with fail
            refine (ref_CodeMay l A n c true w _ hb (Nat.le_refl _) (by omega) (by simp; exact HOKC.out)).mono ?_
            rintro e w1 ⟨rfl, hb1⟩
            go_wp2
            ((try simp only [Exit.inBlock, Exit.then]); refine bodyPost_ret (results_tmp4 rfl _ _ _) rfl ?_)
            exact ⟨_, _, _, _, _, _, rfl, RI.nil _ _ _ _, RI.nil _ _ _ _, by omega, by omega, by omega, by omega, hb1⟩
        · have hX : vmX l ar ws limit = 0 := by unfold vmX; rw [if_neg (by simpa using hok), if_neg (by rw [HL1.out, HL2.out]; omega), if_neg hlim]
          rw [hX, if_pos rfl] at hR
          obtain ⟨L, rfl⟩ : ∃ L : Nat, limit = L := ⟨limit.toNat, by omega⟩
          rw [Int.toNat_natCast] at hR
          have hL : L ≤ 6000 := by omega
          have HR := Lib.hid hR
          have HOK := Lib.hid (show ∀ o ∈ l, okI n o by rw [← HL.out]; exact hok.2)
          have HI := Lib.hid hi
          have HS0 := Lib.hid (st0_ok (n := l.length) ha hw (by rw [HL2.out]; omega))
          have hn8 : n1 ≤ 8 := by omega
          obtain ⟨ov0, hov0⟩ : ∃ ov0 : Bool, ov0 = true ↔ n = 0 := ⟨decide (n = 0), by simp⟩
          have HOV0 := Lib.hid hov0
          have HA := Lib.hid ha
          clear hX hok hR hlim hi ha hw hov0
          go_enter Tryd.func18, Tryd.ntmps18
          go_wp2_with fail
          refine (ref_CodeMay l A n c true w _ hb (Nat.le_refl _) (by omega) (by simp; exact HOKC.out)).mono ?_
          rintro e w1 ⟨rfl, hb1⟩
          have hs1 := hb1.size
          go_wp2_with fail
          refine (ref_NewWorker w1 A A1 n c n1 c1 ar ov0 ((h1.below hb1).more hs1) hn8 hnl HA.out HOV0.out).mono ?_
          rintro e w2 ⟨rfl, bx2, hmi2, hb2⟩
          have hb02 : Below w.heap.size w w2 := hb1.trans (hb2.mono hs1)
          have hs2 := hb02.size
          have lx2 := bx2.lt
          have HBX2 := Lib.hid bx2
          have HMI2 := Lib.hid hmi2
          clear bx2 hmi2
          go_wp2_with (at_builtin; go_must (refine app_srcB eltIntR w2 rfl _ _ rfl w2.heap.size _ 0 [] rfl (World.ownsRow_nil _ _ _ _) _ _ _ (ws.map (Value.int .i64)) rfl _ (h2.below hb02) (one_ints _ _) (by omega) (by omega) (Nat.le_refl _) ?_); intro v3 w3 hown3 _ hbel3 hsz3 _; obtain ⟨A3, c3, rfl, hlc3⟩ := own_form hown3; rw [List.nil_append, Nat.zero_add] at hown3; have hb3 := hbel3 _ (Below.refl _ _))
          clear hbel3
          have hb03 : Below w.heap.size w w3 := hb02.trans (hb3.mono hs2)
          have hwk : Wk w3 w1.heap.size (w1.heap.size + 1) w1.heap.size (.slice A n c) (.slice none 0 0) (.slice A3 n2 c3) 0 ws [] 0 ov0 := by
            refine ⟨HBX2.out.below hb3 lx2, World.ownsRow_nil _ _ _ _, ?_, ?_⟩
            · rw [HL2.out]; exact own_more hown3 (by omega)
            · cases hv : (Value.slice A3 n2 c3).ownBlock with
              | none => exact .inl rfl
              | some k => exact .inr (by simp [Value.ownBlock])
          have hmi3 : MI w3 w1.heap.size 8 (st0 ar []).r := HMI2.out.below hb3 (by omega)
          have HP0 := Lib.hid (show Prog l L 0 (st0 ar ws) (st0 ar ws) 0 from .inl ⟨rfl, HS0.out, by simp⟩)
          have HOV := Lib.hid (show ((0 : Int) = 0 → (0 : Int) = (st0 ar ws).p ∧ (ov0 = true ↔ (st0 ar ws).p = n)) ∧ ((0 : Int) ≠ 0 → ov0 = true) from ⟨fun _ => ⟨rfl, by rw [HOV0.out]; simp [st0]; omega⟩, fun h => absurd rfl h⟩)
          clear HBX2 HMI2 hown3 HOV0
          go_loopw [14] (fun i wr => ∃ (j : Nat) (s : Vs) (E' p' : Int) (ov : Bool) (tv : Value), j ≤ L ∧ i = .int .i64 j ∧ Wk wr w1.heap.size (w1.heap.size + 1) w1.heap.size (.slice A n c) tv (.slice A3 n2 c3) p' s.w s.t E' ov ∧ MI wr w1.heap.size (8 + 2 * j) s.r ∧ Hid (Prog l L j (st0 ar ws) s E') ∧
            Hid ((E' = 0 → p' = s.p ∧ (ov = true ↔ s.p = n)) ∧ (E' ≠ 0 → ov = true)) ∧ Below w.heap.size w wr) (fun i _ => L - (intOf i).toNat)
          case atStart => exact ⟨0, st0 ar ws, 0, 0, ov0, _, Nat.zero_le _, rfl, hwk, hmi3, HP0.out, HOV.out, hb03⟩
          case round =>
            obtain ⟨j, s, E', p', ov, tv, hj, rfl, hwk, hmi, HP, HOV, hbel⟩ := hrel
            clear HP0 hmi3
            have hsz := hbel.size
            have hblt := hwk.lt
            obtain ⟨At, ct, rfl, hlct⟩ := own_form hwk.told
            obtain ⟨nt, hnt⟩ : ∃ nt, nt = s.t.length := ⟨_, rfl⟩
            rw [← hnt] at hwk hlct
            have g3 : wr.cell? ⟨w1.heap.size + 1, 3, none⟩ = _ := hwk.box.cell 3
            have g4 : wr.cell? ⟨w1.heap.size + 1, 4, none⟩ = _ := hwk.box.cell 4
            have g5 : wr.cell? ⟨w1.heap.size + 1, 5, none⟩ = _ := hwk.box.cell 5
            simp only [List.getElem?_cons_zero, List.getElem?_cons_succ] at g3 g4 g5
            have HWK := Lib.hid hwk
            have HMI := Lib.hid hmi
            have HNT := Lib.hid hnt
            clear hnt hwk hmi
            -- the end, with an error or none
            have HEND := Lib.hid (show ov = true → rn l L (st0 ar ws) = (s, j, E') ∧ s.t.length ≤ 200 ∧ s.w.length ≤ 200 by
              intro hov
              by_cases hE : E' = 0
              · subst hE
                have hk := prog_ok HP.out
                exact ⟨prog_end HP.out (by rw [HL.out]; exact (HOV.out.1 rfl).2.1 hov), hk.tl, hk.wl⟩
              · exact prog_err HP.out hE)
            cases ov with
            | true =>
              by_cases hjL : j < L
              · go_wp2
                refine region_two [0, 1, 2, 3, 4, 5, 6, 7, 8, 9, 10, 11, 12, 13] [] (by kernel_rfl) (by kernel_rfl) ?_
                simp only [pick, List.map_cons, List.map_nil, List.getD_cons_zero, List.getD_cons_succ]
                go_wp2
                ((try simp only [Exit.inBlock, Exit.then]); refine bodyPost_ret (results_tmp4 rfl _ _ _) rfl ?_)
                obtain ⟨hf, hf1, hf2⟩ := HEND.out (by trivial)
                have h9 := HR.out
                rw [hf] at h9
                simp only [Prod.mk.injEq] at h9
                obtain ⟨rfl, rfl, rfl, rfl⟩ := h9
                exact wk_post (HWK.out.drewN 1) (hbel.drewN 1) hf1 hf2 rfl
              · go_wp2
                refine region_two [0, 1, 2, 3, 4, 5, 6, 7, 8, 9, 10, 11, 12, 13] [] (by kernel_rfl) (by kernel_rfl) ?_
                simp only [pick, List.map_cons, List.map_nil, List.getD_cons_zero, List.getD_cons_succ]
                go_wp2
                ((try simp only [Exit.inBlock, Exit.then]); refine bodyPost_ret (results_tmp4 rfl _ _ _) rfl ?_)
                obtain ⟨hf, hf1, hf2⟩ := HEND.out (by trivial)
                have h9 := HR.out
                rw [hf] at h9
                simp only [Prod.mk.injEq] at h9
                obtain ⟨rfl, rfl, rfl, rfl⟩ := h9
                exact wk_post (HWK.out.drewN 1) (hbel.drewN 1) hf1 hf2 rfl
            | false =>
              have hE : E' = 0 := by
                by_cases hE : E' = 0
                · exact hE
                · exact absurd (HOV.out.2 hE) (by simp)
              subst hE
              have HK := Lib.hid (prog_ok HP.out)
              obtain ⟨hpp, hpn⟩ := HOV.out.1 rfl
              have HPP := Lib.hid (show s.p ≠ n from fun h => by have := hpn.2 h; cases this)
              have HPE := Lib.hid hpp
              clear hpn hpp
              by_cases hjL : j < L
              · have hlt : s.p < n := by have := HK.out.hi; have := HPP.out; have := HL.out; omega
                have hp0 := HK.out.lo
                obtain ⟨o, HO⟩ : ∃ o, Hid (l[s.p.toNat]? = some o) := ⟨_, List.getElem?_eq_getElem (by have := HL.out; omega)⟩
                have hmem := List.mem_of_getElem? HO.out
                obtain ⟨s', E2, HS⟩ : ∃ s' E2, Hid (stp n o s = (s', E2)) := ⟨_, _, rfl⟩
                have hs' : stp l.length o s = (s', E2) := by rw [HL.out]; exact HS.out
                have HP' := Lib.hid (prog_step HP.out (by omega) (by rw [HL.out]; exact HPP.out) HO.out hs' (by rw [HL.out]; exact HOK.out o hmem) (HI.out o hmem))
                have HWK2 := Lib.hid (show Wk wr w1.heap.size (w1.heap.size + 1) w1.heap.size (.slice A n c) (.slice At nt ct) (.slice A3 n2 c3) s.p s.w s.t 0 false by rw [← HPE.out]; exact HWK.out)
                clear hmem hs'
                go_wp2_with fail
                refine (ref_One wr w1.heap.size w.heap.size (w1.heap.size + 1) w1.heap.size (8 + 2 * j) n c n2 c3 A A3 _ l s s' o E2 HWK2.out HMI.out (by omega) (by omega) (Nat.le_refl _) (hb.below hbel) hs1 hlt hnl (by rw [← HL.out]; exact HK.out) HO.out (HOK.out o (List.mem_of_getElem? HO.out)) (HI.out o (List.mem_of_getElem? HO.out)) HS.out).mono ?_
                rintro e w6 ⟨rfl, ⟨tv', p6, ov6, hwk6, hov6, hov7, _⟩, hmi6, hun6⟩
                have hb6 : Below w1.heap.size wr w6 := hun6.below (by have := HWK2.out.lt; omega) (fun k hk h => by
                  rcases h with h | h | h | h
                  · omega
                  · omega
                  · have := (HWK2.out.told.lt k h.symm).1; omega
                  · have := (HWK2.out.words.lt k h.symm).1; omega)
                clear hun6
                have hb06 : Below w.heap.size w w6 := hbel.trans (hb6.mono hs1)
                have HOV6 := Lib.hid (And.intro hov6 hov7)
                clear hov6 hov7
                go_wp2
                go_roundw
                case rel => exact ⟨j + 1, s', E2, p6, ov6, tv', by omega, by go_num, hwk6, hmi6.mono (by omega), HP'.out, HOV6.out, hb06⟩
                case measure => simp [intOf]; omega
              · obtain rfl : j = L := by omega
                have HF := Lib.hid (prog_over HP.out (by rw [HL.out]; exact HPP.out))
                go_wp2
                ((try simp only [Exit.inBlock, Exit.then]); refine bodyPost_ret (results_tmp4 rfl _ _ _) rfl ?_)
                have h9 := HR.out
                rw [HF.out] at h9
                simp only [Prod.mk.injEq] at h9
                obtain ⟨rfl, rfl, rfl, rfl⟩ := h9
                exact wk_post HWK.out hbel HK.out.tl HK.out.wl rfl
  · have HOK := Lib.hid hok
    have hX : vmX l ar ws limit = 4 := by unfold vmX; rw [if_pos hok]
    rw [hX, if_neg (by decide)] at hR
    simp only [Prod.mk.injEq] at hR
    obtain ⟨rfl, rfl, rfl, rfl⟩ := hR
    clear hX hok
    go_enter Tryd.func18, Tryd.ntmps18
    go_wp2_with fail
    refine (ref_CodeMay l A n c false w _ hb (Nat.le_refl _) (by omega) (by simp; exact HOK.out)).mono ?_
    rintro e w1 ⟨rfl, hb1⟩
    go_wp2
    ((try simp only [Exit.inBlock, Exit.then]); refine bodyPost_ret (results_tmp4 rfl _ _ _) rfl ?_)
    exact ⟨_, _, _, _, _, _, rfl, RI.nil _ _ _ _, RI.nil _ _ _ _, by omega, by omega, by omega, by omega, hb1⟩
end Go.Proofs.YtjihopbapnfppaaDoor
