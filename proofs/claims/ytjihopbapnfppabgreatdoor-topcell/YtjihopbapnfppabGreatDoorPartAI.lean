/- Of this claim's own texts these, one behind the other: TopHist, AlgPure. No statement of the seat is proved here; no condition but those that stand at the theorems. -/
import Derived.Test.YtjihopbapnfppabGreatDoorPartAG
import Derived.Test.YtjihopbapnfppabGreatDoorPartAH
import Derived.Test.YtjihopbapnfppabGreatDoorPartAF
set_option linter.unusedSimpArgs false
set_option linter.unusedVariables false
namespace Go.Proofs.YtjihopbapnfppabGreatDoor
open Go.RowKit Go.Ord Go.Baro

theorem eltActT : Elt Tryz.prog 37 64 (.agg #[.int .i64 0, .int .i64 0, .bool false, .int .i64 0, .int .i64 0]) 5 40 := Elt.mk' Tryz.underlying37 (by kernel_rfl) rfl (by decide)
theorem acV_oneT (a : Ac) : ∀ u ∈ acV a, u.oneCell' = true := by
  intro u hu
  simp only [acV, List.mem_cons, List.not_mem_nil, or_false] at hu
  rcases hu with rfl | rfl | rfl | rfl | rfl <;> rfl
/-- A closure that tells of a call what it is: function F, which catches nothing. -/
def PfSpec (F : FuncId) (pf : Cl → List Int → Bool → Bool × Int × Bool) (G : Cl → Prop) : Prop := ∀ (w : World) (x : Cl) (A A' : Option Addr) (n c n' c' : Nat) (to : List Int) (b : Bool) (h : RI w w.heap.size .i64 A n x.ar) (h' : RI w w.heap.size .i64 A' n' to) (hG : G x) (hn : n ≤ 1000) (hn' : n' ≤ 200),
    Calls Tryz.prog F #[.agg #[.int .i64 x.k, .slice A n c], .slice A' n' c', .bool b] w fun e w' => e = .returned (.tuple #[.bool (pf x to b).1, .int .i64 (pf x to b).2.1, .bool (pf x to b).2.2]) ∧ Below w.heap.size w w'
/-- What history leaves. -/
def HistPost (m : Mc) (pf : Cl → List Int → Bool → Bool × Int × Bool) (T : List Ev) (w : World) (e : Ending) (w' : World) : Prop := ∃ A n c, e = .returned (.tuple #[.slice A n c, .bool true]) ∧ n ≤ c ∧ n ≤ 12000 ∧ RA w' w'.heap.size A n ((dgs T).map (hA m pf)) ∧ Below w.heap.size w w'

set_option maxRecDepth 100000 in
set_option maxHeartbeats 2000000 in
theorem top_history (hP : PlaySpec) {F : FuncId} {pf : Cl → List Int → Bool → Bool × Int × Bool} {G : Cl → Prop} (hF : PfSpec F pf G) (hF2 : ∀ (args : Array Value) (w : World), (callFunc F args).run Tryz.prog w = .ok (.enter F args) w) (w : World) (hT : Tab w) (Aw : Option Addr) (nw cw : Nat) (Ac : Option Addr) (nc cc : Nat) (At : Option Addr) (nt ct : Nat) (m : Mc) (As : Option Addr) (ns cs : Nat) (s : List Int) (T : List Ev) (W : List Int) (hm : InM w Aw nw cw Ac nc cc At nt ct m)
    (hmc : okMc m) (hs : RI w w.heap.size .i64 As ns s) (hn : ns ≤ 6000) (hR : PlR m s T W 0) (hok : HistOk m pf G T) : Calls Tryz.prog 7 #[.agg #[.slice Aw nw cw, .slice Ac nc cc, .slice At nt ct], .slice As ns cs, .func (.func F) #[] #[]] w (HistPost m pf T w) := by
  have HP := Lib.hid hP
  have HT := Lib.hid hT
  have HR := Lib.hid hR
  have HOK := Lib.hid hok
  have HF := Lib.hid hF
  have HF2 := Lib.hid hF2
  have HMC := Lib.hid hmc
  have hA := (Below.refl w.heap.size w).alloc (Nat.le_refl _) (Obj.cells #[.slice Aw nw cw, .slice Ac nc cc, .slice At nt ct] 33)
  have HM := Lib.hid (hm.below hA)
  have hs2 := (hs.below hA).more hA.size
  have bX := Box.newAt w 33 [.slice Aw nw cw, .slice Ac nc cc, .slice At nt ct] w.heap.size rfl
  have BX0 := Lib.hid bX
  clear hP hT hR hok hm hs hF hF2 hmc
  go_enter Tryz.func7, Tryz.ntmps7
  have x0 := bX.cell 0
  have x1 := bX.cell 1
  have x2 := bX.cell 2
  simp only [List.getElem?_cons_zero, List.getElem?_cons_succ] at x0 x1 x2
  obtain ⟨wA, hwA⟩ : ∃ wA, wA = w.alloc (Obj.cells #[.slice Aw nw cw, .slice Ac nc cc, .slice At nt ct] 33) := ⟨_, rfl⟩
  rw [← hwA] at hA hs2 x0 x1 x2
  have HWA := Lib.hid hwA
  go_wp2
  rw [← HWA.out]
  clear bX hwA
  refine region_first [0, 1] (.cons 2 (seq [3, 4, 5, 6, 7, 8, 9, 10] .nil)) (by kernel_rfl) (by kernel_rfl) ?_
  simp only [pick, List.map_cons, List.map_nil, List.getD_cons_zero, List.getD_cons_succ]
  go_wp2
  refine ord_call (by kernel_rfl) ?_
  simp only [pick, List.map_cons, List.map_nil, List.getD_cons_zero, List.getD_cons_succ]
  go_wp2_with (at_builtin; go_must (refine app_src eltIntS wA.drew rfl _ _ rfl wA.heap.size _ 0 [] rfl (World.ownsRow_nil _ _ _ _) As ns _ (s.map (Value.int .i64)) rfl wA.heap.size (by exact Rd.heap hs2 rfl) (one_ints _ _) (by omega) (by omega) (Nat.le_refl _) ?_); intro v3 w3 hv3 hg3 hbel3 hsz3)
  have hb3 : Below wA.heap.size wA w3 := hbel3 wA (Below.refl _ _).drew
  rw [List.nil_append, Nat.zero_add] at hv3
  obtain ⟨A4, c4, rfl, hlc4⟩ := own_form hv3
  refine ⟨fun k hk => hb3.block k hk, ?_⟩
  have hr4 : RI w3 w3.heap.size .i64 A4 ns s := Rd.of_own hv3
  have hbC := hA.trans (hb3.mono hA.size)
  have HM3 : Hid (InM w3 Aw nw cw Ac nc cc At nt ct m) := by
    have := HM.out
    rw [← HWA.out] at this
    exact this.below hb3
  clear hv3 hg3 hbel3 x0 x1 x2 hs2
  refine ord_last [3, 4, 5, 6, 7, 8, 9, 10] (by kernel_rfl) ?_
  simp only [pick, List.map_cons, List.map_nil, List.getD_cons_zero, List.getD_cons_succ]
  go_wp2_with fail
  refine (HP.out w3 (HT.out.below hbC HT.out.lt) Aw nw cw Ac nc cc At nt ct m A4 ns c4 s T W 0 HM3.out hr4 (by omega) HR.out).mono ?_
  rintro e w4 ⟨B1, m1, d1, B2, m2, d2, rfl, hr1, hr2, hl1, hl2, hm1, hm2, hb4⟩
  have hbD := hbC.trans (hb4.mono hbC.size)
  have hT4 := Lib.hid (HT.out.below hbD HT.out.lt)
  have LT := Lib.hid hr1.len
  have HM4 := Lib.hid (HM3.out.below hb4)
  have lX0 := BX0.out.lt
  have BX4 : Hid (Box w4 w.heap.size 33 [.slice Aw nw cw, .slice Ac nc cc, .slice At nt ct]) := by
    have h1 := BX0.out
    rw [← HWA.out] at h1
    exact h1.below (hb3.trans (hb4.mono hb3.size)) h1.lt
  clear hr2 hr4 HM3 HM HR hb4 hbC hb3 hA BX0
  have hI0 : OwnA w4 w4.heap.size 64 (.slice none 0 0) 0 ((dgs (T.take 0)).map (hA1 m pf)) := World.ownsRow_nil _ _ _ _
  have hJ0 : w4.ownsRow w4.heap.size 3 1 (.slice none 0 0) 0 (((dgs (T.take 0)).map hK).map (Value.int .i64)) := World.ownsRow_nil _ _ _ _
  have lW : w.heap.size < w4.heap.size := BX4.out.lt
  go_wp2
  go_loopw [11, 12, 13] (fun v u i wr => ∃ (j n : Nat), j ≤ m1 ∧ n ≤ j ∧ i = .int .i64 j ∧ OwnA wr w4.heap.size 64 v n ((dgs (T.take j)).map (hA1 m pf)) ∧ wr.ownsRow w4.heap.size 3 1 u n (((dgs (T.take j)).map hK).map (Value.int .i64)) ∧ Below w4.heap.size w4 wr) (fun _ _ i _ => m1 - (intOf i).toNat)
  case atStart => exact ⟨0, 0, Nat.zero_le _, Nat.le_refl _, rfl, hI0, hJ0, Below.refl _ _⟩
  case round =>
    obtain ⟨j, n, hj, hnj, rfl, hown, hwho, hbel⟩ := hrel
    have hsz := hbel.size
    by_cases hjm : j < m1
    · obtain ⟨b, o, A5, n5, k5, x, rfl, hbB, d0, d1', d2, d3, d4, d5, hlk, hn5, hri0, HX, hmem⟩ := hr1.val hjm
      have q0 := (hbel.cell (p := ⟨b, o + j * 6, none⟩) hbB).trans d0
      have q1 := (hbel.cell (p := ⟨b, o + j * 6 + 1, none⟩) hbB).trans d1'
      have q2 := (hbel.cell (p := ⟨b, o + j * 6 + 2, none⟩) hbB).trans d2
      have q3 := (hbel.cell (p := ⟨b, o + j * 6 + 3, none⟩) hbB).trans d3
      have q4 := (hbel.cell (p := ⟨b, o + j * 6 + 4, none⟩) hbB).trans d4
      have q5 := (hbel.cell (p := ⟨b, o + j * 6 + 5, none⟩) hbB).trans d5
      obtain ⟨hx1, hx2⟩ := HOK.out.rng x hmem
      have hnt : m.ts.length = nt := HM4.out.ts.len
      rw [hnt] at hx1
      obtain ⟨bt, ot, At', nt', kt, tl, hAt, hbt, ct0, hlkt, hrl, HTL, htm⟩ := HM4.out.ts.val hx1
      have htl : tl.length = nt' := hrl.len
      have hx2' : x.cl < nt' := by rw [HTL.out] at hx2; simpa [htl] using hx2
      have nt4 : nt ≤ 4 := by rw [← hnt]; exact HMC.out.2.2.1
      have nt20 : nt' ≤ 20 := by rw [← htl]; exact (HMC.out.2.2.2.2 tl htm).1
      subst hAt
      have bM := BX4.out.below hbel lW
      have z2 : wr.cell? ⟨w.heap.size, 2, none⟩ = _ := bM.cell 2
      simp only [List.getElem?_cons_zero, List.getElem?_cons_succ] at z2
      have y0 := (hbel.cell (p := ⟨bt, ot + x.th, none⟩) hbt).trans ct0
      have lM := bM.lt
      have lb : b < wr.heap.size := by omega
      have lbt : bt < wr.heap.size := by omega
      have HTK : Hid (T.take (j + 1) = T.take j ++ [x]) := at_take HX.out
      have HXM := Lib.hid hmem
      clear hmem hx2 hnt
      cases hen : x.en with
      | false =>
        rw [hen] at q3
        have HD : Hid (dgs (T.take (j + 1)) = dgs (T.take j) ++ [⟨x.st, -1, x.th, x.cl, []⟩]) := by
          show _ = _
          rw [HTK.out, dgs_snoc, dg1_begin _ _ hen]
        have bE := Lib.hid hbel
        have hown1 := World.ownsRow.alloc hown (Obj.cells #[.int .i64 x.st, .int .i64 x.th, .int .i64 x.cl, .bool false, .int .i64 x.er, .slice A5 n5 k5] 62)
        clear hri0 d0 d1' d2 d3 d4 d5 hen
        go_wp2
        refine region_two [0, 1, 2, 3, 4, 5, 6, 7, 8, 9, 10, 11, 12, 13, 14, 15, 16, 17, 18, 19, 20, 21, 22, 23, 24, 25, 26, 27] [] (by kernel_rfl) (by kernel_rfl) ?_
        simp only [pick, List.map_cons, List.map_nil, List.getD_cons_zero, List.getD_cons_succ]
        go_wp2_with (first
          | (at_builtin; refine app_litd eltActT (wr.alloc (Obj.cells #[.int .i64 x.st, .int .i64 x.th, .int .i64 x.cl, .bool false, .int .i64 x.er, .slice A5 n5 k5] 62)) rfl (.tmp 81) (.tmp 85) rfl w4.heap.size _ n _ rfl (by exact hown1) 1 [.int .i64 x.st, .int .i64 (-1), .bool false, .int .i64 0, .int .i64 0] _ (by first | rfl | simp) rfl rfl (by exact acV_oneT ⟨x.st, -1, false, 0, 0⟩) (by omega) (by omega) (by simp; omega) ?_; intro v3 w5 hown3 hgr3 hbel3 hsz3; have hwho5 := own_kc (T := fun t => t = 64) (World.ownsRow.alloc (World.ownsRow.alloc hwho _) _) (Kc.grown hgr3 (fun b cs t fr he hh => own_same (World.ownsRow.alloc hown1 _) he hh)) (by decide))
          | (at_builtin; go_must (refine app_lit eltIntS w5 rfl (.tmp 87) (.tmp 89) rfl w4.heap.size _ n _ rfl (by exact hwho5) 1 [.int .i64 (100 * x.th + x.cl)] w5.heap.size rfl rfl rfl (one_ints .i64 [100 * (x.th : Int) + x.cl]) (by omega) (by omega) hsz3 ?_); intro v6 w6 hown6 hgr6 hbel6 hsz6))
        have hb5 : Below w4.heap.size w4 w5 := hbel3 _ (bE.out.alloc hsz _)
        have hb6 : Below w4.heap.size w4 w6 := hbel6 _ hb5
        have hown7 := own_kc (T := fun t => t = 3) (World.ownsRow.alloc hown3 _) (Kc.grown hgr6 (fun b cs t fr he hh => own_same (World.ownsRow.alloc hwho5 _) he hh)) (by decide)
        refine ⟨⟨j + 1, n + 1, by omega, by omega, by go_num, ?_, ?_, hb6⟩, by simp [intOf]; omega⟩
        · unfold OwnA
          rw [HD.out, List.map_append, List.flatMap_append]
          exact hown7
        · rw [HD.out, List.map_append, List.map_append]
          exact hown6
      | true =>
        rw [hen] at q3
        have HD : Hid (dgs (T.take (j + 1)) = (dgs (T.take j)).map (fun d => d.fin x)) := by
          show _ = _
          rw [HTK.out, dgs_snoc, dg1_end _ _ hen]
        have HOKE := Lib.hid (HOK.out.okE x HXM.out hen)
        have HUQ := Lib.hid (HOK.out.uq j x HX.out hen)
        have HDR := Lib.hid (HOK.out.drng j)
        obtain ⟨bl, ol, qx, A7, n7, k7, ar, hAl, hbl, l0, l1, hlk7, hri7, HL7, hl7m⟩ := hrl.val hx2'
        subst hAl
        have hcl : clOf m x.th x.cl = ⟨qx, ar⟩ := clOf_at HTL.out HL7.out
        have HCL := Lib.hid hcl
        have hn7 : n7 ≤ 1000 := by have h1 := (HMC.out.2.2.2.2 tl htm).2 _ hl7m; have h2 := hri7.len; have h3 : ar.length ≤ 8 := h1.2; omega
        have HG := Lib.hid (HOK.out.good tl htm _ hl7m)
        have x20 : x.cl < 20 := by omega
        obtain ⟨A9, c9, rfl, hc9⟩ := own_form hown
        obtain ⟨A8, c8, rfl, hc8⟩ := own_form hwho
        have HLD : Hid ((dgs (T.take j)).length = n) := by have := OwnA.len hown; rw [List.length_map] at this; exact this
        obtain ⟨wo, rfl⟩ : ∃ wo, wo = wr := ⟨wr, rfl⟩
        have bO : Below w4.heap.size w4 (wo.alloc (Obj.cells #[.int .i64 x.st, .int .i64 x.th, .int .i64 x.cl, .bool true, .int .i64 x.er, .slice A5 n5 k5] 62)) := hbel.alloc hsz _
        have hI1 : OwnA (wo.alloc (Obj.cells #[.int .i64 x.st, .int .i64 x.th, .int .i64 x.cl, .bool true, .int .i64 x.er, .slice A5 n5 k5] 62)) w4.heap.size 64 (.slice A9 n c9) n ((finD x 0 (dgs (T.take j))).map (hA1 m pf)) := by rw [finD_zero]; exact World.ownsRow.alloc hown _
        have hJ1 := World.ownsRow.alloc hwho (Obj.cells #[.int .i64 x.st, .int .i64 x.th, .int .i64 x.cl, .bool true, .int .i64 x.er, .slice A5 n5 k5] 62)
        have bE1 := Box.newAt wo 62 [.int .i64 x.st, .int .i64 x.th, .int .i64 x.cl, .bool true, .int .i64 x.er, .slice A5 n5 k5] wo.heap.size rfl
        have HbEl := Lib.hid (show wo.heap.size < (wo.alloc (Obj.cells #[.int .i64 x.st, .int .i64 x.th, .int .i64 x.cl, .bool true, .int .i64 x.er, .slice A5 n5 k5] 62)).heap.size by simp)
        have HI1 := Lib.hid hI1
        have HJ1 := Lib.hid hJ1
        have HE1 := Lib.hid bE1
        have HbO := Lib.hid bO
        clear hown hwho hen HTK HXM hcl hI1 hJ1 bE1 bO
        have en1 : decide (nt ≤ x.th) = false := by simp; omega
        have en2 : decide (nt' ≤ x.cl) = false := by simp; omega
        go_wp2
        refine region_two [0, 1, 2, 3, 4, 5, 6, 7, 8, 9, 10, 11, 12, 13, 14, 15, 16, 17, 18, 19, 20, 21, 22, 23, 24, 25, 26, 27] [] (by kernel_rfl) (by kernel_rfl) ?_
        simp only [pick, List.map_cons, List.map_nil, List.getD_cons_zero, List.getD_cons_succ]
        go_wp2
        go_loopw [16] (fun i wr => ∃ k : Nat, k ≤ n ∧ i = .int .i64 k ∧ OwnA wr w4.heap.size 64 (.slice A9 n c9) n ((finD x k (dgs (T.take j))).map (hA1 m pf)) ∧ wr.ownsRow w4.heap.size 3 1 (.slice A8 n c8) n (((dgs (T.take j)).map hK).map (Value.int .i64)) ∧ Hid (Box wr wo.heap.size 62 [.int .i64 x.st, .int .i64 x.th, .int .i64 x.cl, .bool true, .int .i64 x.er, .slice A5 n5 k5]) ∧ Below w4.heap.size w4 wr) (fun i _ => n - (intOf i).toNat)
        case atStart => exact ⟨0, Nat.zero_le _, rfl, HI1.out, HJ1.out, HE1.out, HbO.out.drew⟩
        case round =>
          obtain ⟨k, hk, rfl, hown, hwho, hBE, hbel2⟩ := hrel
          by_cases hkn : k < n
          · obtain ⟨g, cq9, h9, hBg, _, hgl⟩ := own_pos hown (by omega)
            obtain ⟨g8, cq8, h8, hBg8, _, hgl8⟩ := own_pos hwho (by omega)
            injection h9 with h9 _ h9c
            injection h8 with h8 _ h8c
            subst h9 h8 h9c h8c
            have hk0 : k < (dgs (T.take j)).length := by rw [HLD.out]; exact hkn
            obtain ⟨d, hd⟩ : ∃ d, (dgs (T.take j))[k]? = some d := ⟨_, List.getElem?_eq_getElem hk0⟩
            have HDK := Lib.hid hd
            have HDM := Lib.hid (List.mem_of_getElem? hd)
            have hdm : d ∈ dgs (T.take j) := List.mem_of_getElem? hd
            obtain ⟨hd1, hd2⟩ := HDR.out d hdm
            have hd20 : d.cl < 20 := by
              obtain ⟨l, hl⟩ : ∃ l, m.ts[d.th]? = some l := ⟨_, List.getElem?_eq_getElem hd1⟩
              rw [hl] at hd2
              exact Nat.lt_of_lt_of_le hd2 (HMC.out.2.2.2.2 l (List.mem_of_getElem? hl)).1
            have hd4 : d.th < 4 := Nat.lt_of_lt_of_le hd1 HMC.out.2.2.1
            have hw0 : wr.cell? ⟨g8, k, none⟩ = some (.int .i64 (100 * d.th + d.cl)) := by
              have := World.ownsRow.cellAt hwho k (by omega)
              rw [this, List.getElem?_map, List.getElem?_map, hd]; rfl
            have HOW := Lib.hid hown
            have HWH := Lib.hid hwho
            have e0 := hBE.out.cell 0
            simp only [List.getElem?_cons_zero] at e0
            clear hown hwho hd hdm hd1 hd2
            by_cases hkey : d.th = x.th ∧ d.cl = x.cl
            · have HKEY := Lib.hid hkey
              have heq : ((100 * (d.th : Int) + d.cl) == (100 * (x.th : Int) + x.cl)) = true := by simp; omega
              clear hkey
              have ff := World.ownsRow.frozenAt HOW.out (k * 5 + 1)
              obtain ⟨_, c1, _, _, _⟩ := OwnA.val HOW.out hkn (a := hA1 m pf d) (by rw [List.getElem?_map, finD_at, HDK.out]; rfl)
              have hgE : wo.heap.size ≠ g := fun h => Box.ne hBE.out HOW.out (by decide) (by rw [h]; rfl)
              obtain ⟨w5, hw5⟩ : ∃ w5, w5 = wr.setCell ⟨g, k * 5 + 1, none⟩ (.int .i64 x.st) := ⟨_, rfl⟩
              have hO5 := (World.ownsRow.stored HOW.out (k * 5 + 1) (.int .i64 x.st)).1
              have hW5 := own_kc (T := fun t => t = 64) HWH.out (Kc.grown (grown_setCell wr ⟨g, k * 5 + 1, none⟩ (.int .i64 x.st)) (fun b cs t fr he hh => own_same HOW.out he hh)) (by decide)
              have hE5 := Box.other hBE.out (k * 5 + 1) (.int .i64 x.st) hgE
              have hb5 : Below w4.heap.size w4 (wr.setCell ⟨g, k * 5 + 1, none⟩ (.int .i64 x.st)) := below_at hbel2 hBg _ _
              rw [← hw5] at hO5 hW5 hE5 hb5
              have HO5 := Lib.hid hO5
              have HW5 := Lib.hid hW5
              have HE5 := Lib.hid hE5
              have hs5 := hb5.size
              have z2 : w5.cell? ⟨w.heap.size, 2, none⟩ = _ := (BX4.out.below hb5 lW).cell 2
              have z0 := (hb5.cell (p := ⟨bt, ot + x.th, none⟩) hbt).trans ct0
              have z3 := (hb5.cell (p := ⟨bl, ol + x.cl * 2, none⟩) hbl).trans l0
              have z4 := (hb5.cell (p := ⟨bl, ol + x.cl * 2 + 1, none⟩) hbl).trans l1
              have e1 := hE5.cell 1
              have e2 := hE5.cell 2
              have e5 := hE5.cell 5
              simp only [List.getElem?_cons_zero, List.getElem?_cons_succ] at z2 e1 e2 e5
              have HHW := Lib.hid hw5
              clear hw5 hO5 hW5 hE5
              go_wp2
              rw [← HHW.out]
              clear e0 ff hw0 heq c1
              have hF2 := HF2.out
              refine region_two [0, 1, 2, 3, 4, 5, 6, 7, 8, 9, 10, 11, 12] [13, 14, 15, 16, 17, 18, 19, 20] (by kernel_rfl) (by kernel_rfl) ?_
              simp only [pick, List.map_cons, List.map_nil, List.getD_cons_zero, List.getD_cons_succ]
              go_wp2_with fail
              obtain ⟨p, v, hpp⟩ : ∃ p v, pf ⟨qx, ar⟩ x.to true = (p, v, true) := ⟨_, _, Prod.ext rfl (Prod.ext rfl (by rw [← HCL.out]; exact HOKE.out))⟩
              have HPP := Lib.hid hpp
              clear hpp hF2
              refine (HF.out w5.drew ⟨qx, ar⟩ A7 A5 n7 k7 n5 k5 x.to true (RI.more (RI.below hri7 hb5.drew) hb5.drew.size) (RI.more (RI.below hri0 hb5.drew) hb5.drew.size) HG.out hn7 hn5).mono ?_
              rintro e w6 ⟨he, hb6⟩
              rw [HPP.out] at he
              dsimp only at he
              subst he
              have hO6 := own_kc (w := w5.drew) (T := fun _ => False) HO5.out (Kc.below hb6) id
              have hW6 := own_kc (w := w5.drew) (T := fun _ => False) HW5.out (Kc.below hb6) id
              have hE6 := Box.below (w := w5.drew) HE5.out hb6 (Box.lt HE5.out)
              have hO7 := (World.ownsRow.stored hO6 (k * 5 + 2) (.bool p)).1
              have hW7 := own_kc (T := fun t => t = 64) hW6 (Kc.grown (grown_setCell w6 ⟨g, k * 5 + 2, none⟩ (.bool p)) (fun b cs t fr he hh => own_same hO6 he hh)) (by decide)
              have hE7 := Box.other hE6 (k * 5 + 2) (.bool p) hgE
              have hO8 := (World.ownsRow.stored hO7 (k * 5 + 3) (.int .i64 v)).1
              have hW8 := own_kc (T := fun t => t = 64) hW7 (Kc.grown (grown_setCell (w6.setCell ⟨g, k * 5 + 2, none⟩ (.bool p)) ⟨g, k * 5 + 3, none⟩ (.int .i64 v)) (fun b cs t fr he hh => own_same hO7 he hh)) (by decide)
              have hE8 := Box.other hE7 (k * 5 + 3) (.int .i64 v) hgE
              obtain ⟨y2, c2⟩ : ∃ u, w6.cell? ⟨g, k * 5 + 2, none⟩ = some u := ⟨_, (World.ownsRow.cellAt hO6 _ (by omega)).trans (List.getElem?_eq_getElem (by have := hO6.1; omega))⟩
              obtain ⟨y3, c3⟩ : ∃ u, w6.cell? ⟨g, k * 5 + 3, none⟩ = some u := ⟨_, (World.ownsRow.cellAt hO6 _ (by omega)).trans (List.getElem?_eq_getElem (by have := hO6.1; omega))⟩
              have f1 := World.ownsRow.frozenAt hO6 (k * 5 + 2)
              have f2 := World.ownsRow.frozenAt hO6 (k * 5 + 3)
              have hb8 := below_at (below_at (hb5.drew.trans (hb6.mono hb5.drew.size)) hBg (k * 5 + 2) (.bool p)) hBg (k * 5 + 3) (.int .i64 v)
              have HO8 := Lib.hid hO8
              have HW8 := Lib.hid hW8
              have HE8 := Lib.hid hE8
              clear hO6 hW6 hE6 hO7 hW7 hE7 hO8 hW8 hE8
              go_wp2
              go_roundw
              case rel =>
                refine ⟨k + 1, by omega, by go_num, ?_, HW8.out, HE8, hb8⟩
                have hde : d.e = -1 := HUQ.out d HDM.out HKEY.out.1 HKEY.out.2
                have hfn : hA1 m pf (d.fin x) = ⟨(hA1 m pf d).b, x.st, p, v, (hA1 m pf d).add⟩ := by
                  unfold Dg.fin
                  rw [if_pos ⟨HKEY.out.1, HKEY.out.2, hde⟩]
                  unfold hA1
                  rw [if_neg (by dsimp only; omega), if_pos hde]
                  dsimp only
                  rw [HKEY.out.1, HKEY.out.2, HCL.out, HPP.out]
                rw [finD_succ HDK.out, List.map_set, hfn]
                unfold OwnA
                rw [← flat_ac ((finD x k (dgs (T.take j))).map (hA1 m pf)) k (hA1 m pf d) x.st v p (by rw [List.getElem?_map, finD_at, HDK.out]; rfl)]
                exact HO8.out
              case measure => simp [intOf]; omega
            · have HKEY := Lib.hid hkey
              have heq : ((100 * (d.th : Int) + d.cl) == (100 * (x.th : Int) + x.cl)) = false := by simp; omega
              have HNO : Hid (¬ d.is x) := fun h => HKEY.out ⟨h.1, h.2.1⟩
              clear hkey
              go_wp2
              go_roundw
              case rel => exact ⟨k + 1, by omega, by go_num, by rw [finD_skip HDK.out HNO.out]; exact HOW.out, HWH.out, hBE, hbel2⟩
              case measure => simp [intOf]; omega
          · obtain rfl : n = k := by omega
            have HOW := Lib.hid hown
            have HWH := Lib.hid hwho
            clear hown hwho
            go_wp2
            go_roundw
            case rel =>
              refine ⟨j + 1, n, by omega, by omega, by go_num, ?_, ?_, hbel2⟩
              · rw [HD.out, ← finD_all (by rw [HLD.out]; omega)]
                exact HOW.out
              · have hkk : ((dgs (T.take j)).map (fun d => d.fin x)).map hK = (dgs (T.take j)).map hK := by
                  rw [List.map_map]
                  apply List.map_congr_left
                  intro d _
                  simp only [Function.comp, Dg.fin]
                  split <;> rfl
                rw [HD.out, hkk]
                exact HWH.out
            case measure => simp [intOf]; omega
    · obtain rfl : m1 = j := by omega
      have HTT : Hid (T.take m1 = T) := List.take_of_length_le (by rw [LT.out]; omega)
      rw [HTT.out] at hown hwho
      have HDR : Hid (∀ d ∈ dgs T, d.th < m.ts.length ∧ d.cl < (m.ts[d.th]?.getD []).length) := by
        have := HOK.out.drng m1
        rwa [HTT.out] at this
      obtain ⟨A9, c9, rfl, hc9⟩ := own_form hown
      obtain ⟨A8, c8, rfl, hc8⟩ := own_form hwho
      have HLD : Hid ((dgs T).length = n) := by have := OwnA.len hown; rw [List.length_map] at this; exact this
      have hI1 : OwnA wr w4.heap.size 64 (.slice A9 n c9) n (((dgs T).take 0).map (hA m pf) ++ ((dgs T).drop 0).map (hA1 m pf)) := hown
      obtain ⟨wo, rfl⟩ : ∃ wo, wo = wr := ⟨wr, rfl⟩
      clear hown
      go_wp2
      go_loopw [20] (fun i wr => ∃ k : Nat, k ≤ n ∧ i = .int .i64 k ∧ OwnA wr w4.heap.size 64 (.slice A9 n c9) n (((dgs T).take k).map (hA m pf) ++ ((dgs T).drop k).map (hA1 m pf)) ∧ wr.ownsRow w4.heap.size 3 1 (.slice A8 n c8) n (((dgs T).map hK).map (Value.int .i64)) ∧ Below w4.heap.size w4 wr) (fun i _ => n - (intOf i).toNat)
      case atStart => exact ⟨0, Nat.zero_le _, rfl, hI1, hwho, hbel⟩
      case round =>
        obtain ⟨k, hk, rfl, hown, hwho, hbel2⟩ := hrel
        have hs2 := hbel2.size
        by_cases hkn : k < n
        · obtain ⟨g, cq9, h9, hBg, _, hgl⟩ := own_pos hown (by omega)
          obtain ⟨g8, cq8, h8, hBg8, _, hgl8⟩ := own_pos hwho (by omega)
          injection h9 with h9 _ h9c
          injection h8 with h8 _ h8c
          subst h9 h8 h9c h8c
          have hk0 : k < (dgs T).length := by rw [HLD.out]; exact hkn
          obtain ⟨d, hd⟩ : ∃ d, (dgs T)[k]? = some d := ⟨_, List.getElem?_eq_getElem hk0⟩
          have HDK := Lib.hid hd
          have HDM := Lib.hid (List.mem_of_getElem? hd)
          obtain ⟨hd1, hd2⟩ := HDR.out d HDM.out
          have HDD : Hid ((dgs T).drop k = d :: (dgs T).drop (k + 1)) := at_drop hd
          have HDT : Hid ((dgs T).take (k + 1) = (dgs T).take k ++ [d]) := at_take hd
          have hat : (((dgs T).take k).map (hA m pf) ++ ((dgs T).drop k).map (hA1 m pf))[k]? = some (hA1 m pf d) := by
            rw [List.getElem?_append_right (by simp; omega)]
            simp only [List.length_map, List.length_take]
            rw [show k - min k (dgs T).length = 0 by omega, HDD.out]
            rfl
          have HAT := Lib.hid hat
          obtain ⟨c0, c1, _, _, ff⟩ := OwnA.val hown hkn hat
          have hw0 : wr.cell? ⟨g8, k, none⟩ = some (.int .i64 (100 * d.th + d.cl)) := by
            have := World.ownsRow.cellAt hwho k (by omega)
            rw [this, List.getElem?_map, List.getElem?_map, hd]; rfl
          have HOW := Lib.hid hown
          have HWH := Lib.hid hwho
          clear hown hwho hd hat
          by_cases he : d.e = -1
          · have HE := Lib.hid he
            have c1' : wr.cell? ⟨g, k * 5 + 1, none⟩ = some (.int .i64 (-1)) := by rw [c1]; unfold hA1; rw [if_pos he]
            have hnt : m.ts.length = nt := HM4.out.ts.len
            rw [hnt] at hd1
            obtain ⟨bt, ot, At', nt', kt, tl, hAt, hbt, ct0, hlkt, hrl, HTL, htm⟩ := HM4.out.ts.val hd1
            have htl : tl.length = nt' := hrl.len
            have hd2' : d.cl < nt' := by rw [HTL.out] at hd2; simpa [htl] using hd2
            have nt4 : nt ≤ 4 := by rw [← hnt]; exact HMC.out.2.2.1
            have nt20 : nt' ≤ 20 := by rw [← htl]; exact (HMC.out.2.2.2.2 tl htm).1
            subst hAt
            obtain ⟨bl, ol, qx, A7, n7, k7, ar, hAl, hbl, l0, l1, hlk7, hri7, HL7, hl7m⟩ := hrl.val hd2'
            subst hAl
            have HCL := Lib.hid (clOf_at HTL.out HL7.out)
            have hn7 : n7 ≤ 1000 := by have h1 := (HMC.out.2.2.2.2 tl htm).2 _ hl7m; have h2 := hri7.len; have h3 : ar.length ≤ 8 := h1.2; omega
            have HG := Lib.hid (HOK.out.good tl htm _ hl7m)
            have HOKE := Lib.hid (HOK.out.okO d HDM.out he)
            have z2 : wr.cell? ⟨w.heap.size, 2, none⟩ = _ := (BX4.out.below hbel2 lW).cell 2
            have z0 := (hbel2.cell (p := ⟨bt, ot + d.th, none⟩) hbt).trans ct0
            have z3 := (hbel2.cell (p := ⟨bl, ol + d.cl * 2, none⟩) hbl).trans l0
            have z4 := (hbel2.cell (p := ⟨bl, ol + d.cl * 2 + 1, none⟩) hbl).trans l1
            simp only [List.getElem?_cons_zero, List.getElem?_cons_succ] at z2
            have hq1 : (100 * (d.th : Int) + d.cl).tdiv 100 = d.th := by rw [Int.tdiv_eq_ediv_of_nonneg (by omega)]; omega
            have hq2 : (100 * (d.th : Int) + d.cl).tmod 100 = d.cl := by rw [Int.tmod_eq_emod_of_nonneg (by omega)]; omega
            clear c1 he hnt hd2 c0
            have hF2 := HF2.out
            go_wp2
            refine region_two [0, 1, 2, 3, 4, 5, 6, 7, 8, 9, 10, 11, 12, 13, 14, 15, 16] [17, 18, 19, 20, 21, 22, 23, 24] (by kernel_rfl) (by kernel_rfl) ?_
            simp only [pick, List.map_cons, List.map_nil, List.getD_cons_zero, List.getD_cons_succ]
            go_wp2_with fail
            obtain ⟨p, v, hpp⟩ : ∃ p v, pf ⟨qx, ar⟩ [] false = (p, v, true) := ⟨_, _, Prod.ext rfl (Prod.ext rfl (by rw [← HCL.out]; exact HOKE.out))⟩
            have HPP := Lib.hid hpp
            clear hpp hF2
            refine (HF.out wr.drew ⟨qx, ar⟩ A7 none n7 k7 0 0 [] false (RI.more (RI.below hri7 hbel2.drew) hbel2.drew.size) (RI.nil _ _ _ _) HG.out hn7 (by omega)).mono ?_
            rintro e w6 ⟨he, hb6⟩
            rw [HPP.out] at he
            dsimp only at he
            subst he
            have hO6 := own_kc (w := wr.drew) (T := fun _ => False) HOW.out (Kc.below hb6) id
            have hW6 := own_kc (w := wr.drew) (T := fun _ => False) HWH.out (Kc.below hb6) id
            have hO7 := (World.ownsRow.stored hO6 (k * 5 + 2) (.bool p)).1
            have hW7 := own_kc (T := fun t => t = 64) hW6 (Kc.grown (grown_setCell w6 ⟨g, k * 5 + 2, none⟩ (.bool p)) (fun b cs t fr he hh => own_same hO6 he hh)) (by decide)
            have hO8 := (World.ownsRow.stored hO7 (k * 5 + 3) (.int .i64 v)).1
            have hW8 := own_kc (T := fun t => t = 64) hW7 (Kc.grown (grown_setCell (w6.setCell ⟨g, k * 5 + 2, none⟩ (.bool p)) ⟨g, k * 5 + 3, none⟩ (.int .i64 v)) (fun b cs t fr he hh => own_same hO7 he hh)) (by decide)
            obtain ⟨y2, c2⟩ : ∃ u, w6.cell? ⟨g, k * 5 + 2, none⟩ = some u := ⟨_, (World.ownsRow.cellAt hO6 _ (by omega)).trans (List.getElem?_eq_getElem (by have := hO6.1; omega))⟩
            obtain ⟨y3, c3⟩ : ∃ u, w6.cell? ⟨g, k * 5 + 3, none⟩ = some u := ⟨_, (World.ownsRow.cellAt hO6 _ (by omega)).trans (List.getElem?_eq_getElem (by have := hO6.1; omega))⟩
            have f1 := World.ownsRow.frozenAt hO6 (k * 5 + 2)
            have f2 := World.ownsRow.frozenAt hO6 (k * 5 + 3)
            have f3 := World.ownsRow.frozenAt hO6 (k * 5 + 1)
            have hb8 := below_at (below_at (hbel2.drew.trans (hb6.mono hbel2.drew.size)) hBg (k * 5 + 2) (.bool p)) hBg (k * 5 + 3) (.int .i64 v)
            have HO8 := Lib.hid hO8
            have HW8 := Lib.hid hW8
            clear hO6 hW6 hO7 hW7 hO8 hW8 c1'
            go_wp2
            go_roundw
            case rel =>
              refine ⟨k + 1, by omega, by go_num, ?_, HW8.out, hb8⟩
              have ha1 : hA1 m pf d = ⟨d.b, -1, false, 0, 0⟩ := by unfold hA1; rw [if_pos HE.out]
              have ha : hA m pf d = ⟨d.b, -1, p, v, 0⟩ := by unfold hA; rw [if_pos HE.out, HCL.out, HPP.out]
              have hset : ((dgs T).take (k + 1)).map (hA m pf) ++ ((dgs T).drop (k + 1)).map (hA1 m pf) = (((dgs T).take k).map (hA m pf) ++ ((dgs T).drop k).map (hA1 m pf)).set k ⟨d.b, -1, p, v, 0⟩ := by
                rw [HDT.out, HDD.out, List.map_append, List.append_assoc, List.map_singleton, List.singleton_append, List.map_cons, List.set_append_right _ _ (by simp; omega)]
                simp only [List.length_map, List.length_take]
                rw [show k - min k (dgs T).length = 0 by omega, List.set_cons_zero, ← ha]
                try rfl
              rw [hset]
              unfold OwnA
              have hfl := flat_ac (((dgs T).take k).map (hA m pf) ++ ((dgs T).drop k).map (hA1 m pf)) k (hA1 m pf d) (-1) v p HAT.out
              have hfa := flatMap_at acV_len (((dgs T).take k).map (hA m pf) ++ ((dgs T).drop k).map (hA1 m pf)) k 1 _ HAT.out (by omega)
              rw [ha1] at hfl hfa
              dsimp only at hfl
              have hsm : ((((dgs T).take k).map (hA m pf) ++ ((dgs T).drop k).map (hA1 m pf)).flatMap acV).set (k * 5 + 1) (.int .i64 (-1)) = (((dgs T).take k).map (hA m pf) ++ ((dgs T).drop k).map (hA1 m pf)).flatMap acV := by
                apply List.ext_getElem?
                intro i
                by_cases hi : k * 5 + 1 = i
                · subst hi
                  rw [List.getElem?_set_self (List.getElem?_eq_some_iff.1 (hfa.trans rfl)).1, hfa]
                  rfl
                · rw [List.getElem?_set_ne hi]
              rw [hsm] at hfl
              rw [← hfl]
              exact HO8.out
            case measure => simp [intOf]; omega
          · have HE := Lib.hid he
            have c1' : wr.cell? ⟨g, k * 5 + 1, none⟩ = some (.int .i64 d.e) := by rw [c1]; unfold hA1; rw [if_neg he]
            have he1 : (d.e == (-1 : Int)) = false := by simpa using he
            clear c1 he
            go_wp2
            go_roundw
            case rel =>
              refine ⟨k + 1, by omega, by go_num, ?_, HWH.out, hbel2⟩
              have hh : hA m pf d = hA1 m pf d := by unfold hA; rw [if_neg HE.out]
              rw [HDT.out, List.map_append, List.append_assoc, List.map_singleton, List.singleton_append, hh, ← List.map_cons, ← HDD.out]
              exact HOW.out
            case measure => simp [intOf]; omega
        · obtain rfl : n = k := by omega
          have HOW := Lib.hid hown
          clear hown hwho
          go_wp2
          go_ret2
          refine ⟨A9, n, c9, rfl, hc9, by omega, ?_, hbD.trans (hbel2.mono hbD.size)⟩
          have h1 := HOW.out
          rw [List.take_of_length_le (by rw [HLD.out]; omega), List.drop_eq_nil_of_le (by rw [HLD.out]; omega), List.map_nil, List.append_nil] at h1
          exact Rd.of_own h1
end Go.Proofs.YtjihopbapnfppabGreatDoor

set_option linter.unusedSimpArgs false
set_option linter.unusedVariables false
namespace Go.Baro
open Go.RowKit (wrap64)

/-- A word. -/
def rd (w : List Int) (n : Nat) : Int := w[n]?.getD 0
theorem rd_set {w : List Int} {n m : Nat} {v : Int} (h : n < w.length) : rd (w.set n v) m = if m = n then v else rd w m := by
  unfold rd
  rw [List.getElem?_set]
  by_cases hm : n = m
  · subst hm; simp [h]
  · rw [if_neg hm, if_neg (fun e => hm e.symm)]
theorem rd_same {w : List Int} {n : Nat} {v : Int} (h : n < w.length) : rd (w.set n v) n = v := by rw [rd_set h, if_pos rfl]
theorem rd_other {w : List Int} {n m : Nat} {v : Int} (h : m ≠ n) : rd (w.set n v) m = rd w m := by
  unfold rd
  rw [List.getElem?_set_ne (fun e => h e.symm)]
theorem at_rd {w : List Int} {n : Nat} (h : n < w.length) : w[n]? = some (rd w n) := by simp [rd, h]
theorem wrap_id {x : Int} (h : -9223372036854775808 ≤ x ∧ x ≤ 9223372036854775807) : wrap64 x = x := by unfold wrap64; omega

/-- A run under one more step. -/
theorem ply_snoc (m : Mc) (S : List Nat) (n : Nat) (g : Gs) : plyG m 0 (S ++ [n]) g = actG m (plyG m 0 S g) S.length n := by
  rw [plyG_append]
  simp [plyG]
/-- What holds of a run behind each part of its schedule. -/
theorem plyG_indS {m : Mc} {I : List Nat → Gs → Prop} {A : Nat → Prop} (h0 : I [] (g0 m)) (hs : ∀ S g n, A n → I S g → I (S ++ [n]) (actG m g S.length n)) : ∀ (S : List Nat), (∀ n ∈ S, A n) → I S (plyG m 0 S (g0 m)) := by
  suffices h : ∀ (k : Nat) (S : List Nat), S.length = k → (∀ n ∈ S, A n) → I S (plyG m 0 S (g0 m)) from fun S => h S.length S rfl
  intro k
  induction k with
  | zero => intro S hS _; obtain rfl := List.eq_nil_of_length_eq_zero hS; exact h0
  | succ k ih =>
    intro S hS hA
    obtain ⟨T, n, rfl⟩ : ∃ T n, S = T ++ [n] := ⟨S.dropLast, S.getLast (by rintro rfl; simp at hS), (List.dropLast_concat_getLast _).symm⟩
    rw [ply_snoc]
    exact hs T _ n (hA n (by simp)) (ih T (by simp at hS; exact hS) (fun x hx => hA x (by simp [hx])))

/-- A step of a call without an error. -/
def Nx (c : List Ins) (p : Nat) (r : Int → Int) (t w : List Int) (p' : Nat) (r' : Int → Int) (t' w' : List Int) : Prop :=
  exc ⟨c, p, r, t⟩ w = (⟨c, p', r', t'⟩, w', 0, decide (p' = c.length))
section
variable {c : List Ins} {p : Nat} {r : Int → Int} {t w : List Int} {a b k e : Int}
theorem nx_of {o : Ins} {p' : Nat} {r' : Int → Int} {t' w' : List Int} (h : c[p]? = some o) (hs : stp c.length o ⟨p, r, w, t⟩ = (⟨p', r', w', t'⟩, 0)) : Nx c p r t w p' r' t' w' := by
  have hp := (List.getElem?_eq_some_iff.1 h).1
  unfold Nx exc
  rw [if_neg (by dsimp only; omega)]
  dsimp only
  rw [Int.toNat_natCast, h, Option.getD_some, hs]
  have : decide (((0 : Int) ≠ 0) ∨ ((p' : Int) = (c.length : Int))) = decide (p' = c.length) := by
    by_cases hq : p' = c.length
    · simp [hq]
    · have : ¬ ((p' : Int) = (c.length : Int)) := by omega
      simp [hq, this]
  rw [this]
theorem nx_set (h : c[p]? = some ⟨1, a, b, 0, 0⟩) : Nx c p r t w (p + 1) (upd r a b) t w := nx_of h (by rw [stp_1]; simp)
theorem nx_copy (h : c[p]? = some ⟨2, a, b, 0, 0⟩) : Nx c p r t w (p + 1) (upd r a (r b)) t w := nx_of h (by rw [stp_2]; simp)
theorem nx_cmp {o : Int} (h : c[p]? = some ⟨o, a, b, k, 0⟩) (ho : 3 ≤ o ∧ o ≤ 9) : Nx c p r t w (p + 1) (upd r a (cmpV o (r b) (r k))) t w := nx_of h (by rw [stp_cmp ho]; simp)
theorem nx_add {v : Int} (h : c[p]? = some ⟨3, a, b, k, 0⟩) (hv : wrap64 (r b + r k) = v) : Nx c p r t w (p + 1) (upd r a v) t w := by
  have := nx_cmp (r := r) (t := t) (w := w) h (by omega)
  rwa [show cmpV 3 (r b) (r k) = v by simp [cmpV, hv]] at this
theorem nx_jump {q : Nat} (h : c[p]? = some ⟨10, q, 0, 0, 0⟩) : Nx c p r t w q r t w := nx_of h (by rw [stp_10])
theorem nx_whenN {q : Nat} (h : c[p]? = some ⟨11, a, q, 0, 0⟩) (hr : r a ≠ 0) : Nx c p r t w q r t w := nx_of h (by rw [stp_11]; simp [hr])
theorem nx_whenZ {q : Int} (h : c[p]? = some ⟨11, a, q, 0, 0⟩) (hr : r a = 0) : Nx c p r t w (p + 1) r t w := nx_of h (by rw [stp_11]; simp [hr])
theorem nx_unlZ {q : Nat} (h : c[p]? = some ⟨12, a, q, 0, 0⟩) (hr : r a = 0) : Nx c p r t w q r t w := nx_of h (by rw [stp_12]; simp [hr])
theorem nx_unlN {q : Int} (h : c[p]? = some ⟨12, a, q, 0, 0⟩) (hr : r a ≠ 0) : Nx c p r t w (p + 1) r t w := nx_of h (by rw [stp_12]; simp [hr])
theorem nx_load {q : Nat} (h : c[p]? = some ⟨13, a, b, k, 0⟩) (hq : wrap64 (r b + k) = q) (hl : q < w.length) : Nx c p r t w (p + 1) (upd r a (rd w q)) t w := nx_of h (by rw [stp_13 hq (at_rd hl)]; simp)
theorem nx_store {q : Nat} (h : c[p]? = some ⟨14, a, b, k, 0⟩) (hq : wrap64 (r b + k) = q) (hl : q < w.length) : Nx c p r t w (p + 1) r t (w.set q (r a)) := nx_of h (by rw [stp_14 hq hl]; simp)
theorem nx_casT {q : Nat} (h : c[p]? = some ⟨15, a, b, k, e⟩) (hq : wrap64 (r b + k) = q) (hl : q < w.length) (hx : rd w q = r e) : Nx c p r t w (p + 1) (upd r a 1) t (w.set q (r a)) := nx_of h (by rw [stp_15t hq (at_rd hl) hx]; simp)
theorem nx_casF {q : Nat} (h : c[p]? = some ⟨15, a, b, k, e⟩) (hq : wrap64 (r b + k) = q) (hl : q < w.length) (hx : rd w q ≠ r e) : Nx c p r t w (p + 1) (upd r a 0) t w := nx_of h (by rw [stp_15f hq (at_rd hl) hx]; simp)
theorem nx_emit (h : c[p]? = some ⟨16, a, 0, 0, 0⟩) (ht : t.length < 200) : Nx c p r t w (p + 1) r (t ++ [r a]) w := nx_of h (by rw [stp_16, if_neg (by dsimp only; omega)]; simp)
theorem nx_stop (h : c[p]? = some ⟨17, 0, 0, 0, 0⟩) : Nx c p r t w c.length r t w := nx_of h (by rw [stp_17])
/-- What a step without an error leads to. -/
theorem exG_nx {g : Gs} {st n : Nat} {p' : Nat} {r' : Int → Int} {t' w' : List Int} (hn : (g.th n).now = some ⟨c, p, r, t⟩) (h : Nx c p r t g.w p' r' t' w') :
    exG g st n = if p' = c.length then ⟨w', putT g.th n ⟨none, (g.th n).bg⟩, g.out ++ [⟨st, n, (g.th n).bg - 1, true, 0, t'⟩]⟩ else ⟨w', putT g.th n ⟨some ⟨c, p', r', t'⟩, (g.th n).bg⟩, g.out⟩ := by
  have hq : (exc ⟨c, p, r, t⟩ g.w).2.2.2 = decide (p' = c.length) := by rw [h]
  by_cases hp : p' = c.length
  · rw [if_pos hp, exG_end hn (by rw [hq]; simp [hp]), h]
  · rw [if_neg hp, exG_go hn (by rw [hq]; simp [hp]), h]
end

/-- The steps of a call so far: k of a thread's open call; no call takes more than B of its thread's. -/
def Cnt (S : List Nat) (g : Gs) (k : Nat → Nat) (B : Nat → Nat) : Prop := ∀ x ∈ dgs g.out, x.b ≤ S.length ∧ (x.e = -1 → (S.drop x.b).count x.th = k x.th) ∧ (x.e ≠ -1 → x.e + 1 ≤ S.length ∧ ((S.take (x.e + 1).toNat).drop x.b).count x.th ≤ B x.th)
def upN (f : Nat → Nat) (n v : Nat) : Nat → Nat := fun i => if i = n then v else f i
theorem upN_same (f : Nat → Nat) (n v : Nat) : upN f n v n = v := by simp [upN]
theorem upN_other (f : Nat → Nat) {n i : Nat} (v : Nat) (h : i ≠ n) : upN f n v i = f i := by simp [upN, h]
theorem cnt_zero (m : Mc) (k B : Nat → Nat) : Cnt [] (g0 m) k B := by intro x hx; simp [g0, dgs] at hx
/-- A call begins. -/
theorem cnt_begin {m : Mc} {S : List Nat} {g : Gs} {k B : Nat → Nat} {n : Nat} {c : Cl} (h : Cnt S g k B) (hs : Hs S.length S.length g) (hn : (g.th n).now = none) {T : Nat → Td} {w : List Int} :
    Cnt S ⟨w, T, g.out ++ [⟨S.length, n, (g.th n).bg, false, 0, []⟩]⟩ (upN k n 0) B := by
  intro x hx
  rw [show dgs (g.out ++ [⟨S.length, n, (g.th n).bg, false, 0, []⟩]) = dgs g.out ++ [⟨S.length, -1, n, (g.th n).bg, []⟩] by rw [dgs_snoc, dg1_begin _ _ rfl]] at hx
  rcases List.mem_append.1 hx with hx | hx
  · obtain ⟨h1, h2, h3⟩ := h x hx
    refine ⟨h1, fun he => ?_, h3⟩
    have ho := ((hs.opn x hx).1 he).1
    rw [upN_other _ _ (by rintro e; rw [e] at ho; exact ho hn)]
    exact h2 he
  · rw [List.mem_singleton.1 hx]
    refine ⟨Nat.le_refl _, fun _ => ?_, fun h => absurd rfl h⟩
    dsimp only
    rw [upN_same, List.drop_eq_nil_of_le (Nat.le_refl _)]
    rfl
/-- The step counts for the thread's open call. -/
theorem cnt_go {S : List Nat} {g g' : Gs} {k B : Nat → Nat} {n : Nat} (h : Cnt S g k B) (ho : g'.out = g.out) : Cnt (S ++ [n]) g' (upN k n (k n + 1)) B := by
  intro x hx
  rw [ho] at hx
  obtain ⟨h1, h2, h3⟩ := h x hx
  refine ⟨by rw [List.length_append]; omega, fun he => ?_, fun he => ?_⟩
  · rw [List.drop_append_of_le_length h1, List.count_append, h2 he]
    by_cases hx : x.th = n
    · rw [hx, upN_same]; simp
    · rw [upN_other _ _ hx, List.count_singleton]
      have hx' : ¬ n = x.th := fun e => hx e.symm
      simp [hx']
  · obtain ⟨h4, h5⟩ := h3 he
    refine ⟨by rw [List.length_append]; omega, ?_⟩
    rw [List.take_append_of_le_length (by omega)]
    exact h5
/-- The step ends the thread's call. -/
theorem cnt_end {S : List Nat} {g g' : Gs} {k B : Nat → Nat} {n : Nat} {x : Ev} (h : Cnt S g k B) (ho : g'.out = g.out ++ [x]) (he : x.en = true) (hs : x.st = S.length) (ht : x.th = n) (hk : k n + 1 ≤ B n)
    (hopn : ∀ d ∈ dgs g.out, d.e = -1 → d.th = n → d.is x) : Cnt (S ++ [n]) g' (upN k n (k n + 1)) B := by
  intro y hy
  rw [ho, dgs_snoc, dg1_end _ _ he] at hy
  obtain ⟨d, hd, q1, q2, q3, ⟨q4, q5, q6⟩ | ⟨q4, rfl⟩⟩ := fin_mem hy
  · obtain ⟨h1, h2, h3⟩ := h d hd
    have hde : d.e = -1 := q4.2.2
    have hdt : d.th = n := by rw [q4.1, ht]
    rw [q1, q2, q5, hs]
    refine ⟨by rw [List.length_append]; omega, fun h => by omega, fun _ => ⟨by rw [List.length_append, List.length_singleton]; omega, ?_⟩⟩
    rw [show ((S.length : Int) + 1).toNat = (S ++ [n]).length by rw [List.length_append, List.length_singleton]; omega, List.take_length, List.drop_append_of_le_length h1, List.count_append, h2 hde, hdt]
    simpa using hk
  · obtain ⟨h1, h2, h3⟩ := h y hd
    refine ⟨by rw [List.length_append]; omega, fun he => ?_, fun he => ?_⟩
    · have hx : y.th ≠ n := fun e => q4 (hopn y hd he e)
      rw [List.drop_append_of_le_length h1, List.count_append, h2 he, upN_other _ _ hx, List.count_singleton]
      have hx' : ¬ n = y.th := fun e => hx e.symm
      simp [hx']
    · obtain ⟨h4, h5⟩ := h3 he
      refine ⟨by rw [List.length_append]; omega, ?_⟩
      rw [List.take_append_of_le_length (by omega)]
      exact h5
/-- The calls behind an end: all but the one that has ended are as they were. -/
theorem dgs_end {g : Gs} {sb se n : Nat} {x : Ev} (hs : Hs sb se g) (hn : (g.th n).now ≠ none) (he : x.en = true) (ht : x.th = n) (hc : x.cl = (g.th n).bg - 1) :
    ∃ o ∈ dgs g.out, o.th = n ∧ o.cl = (g.th n).bg - 1 ∧ o.e = -1 ∧ (∀ y ∈ dgs g.out, y.e = -1 → y.th = n → y = o ∧ y.is x) ∧
      (∀ y ∈ dgs (g.out ++ [x]), (y ∈ dgs g.out ∧ y ≠ o ∧ ¬ (y.th = n ∧ y.cl = (g.th n).bg - 1)) ∨ y = ⟨o.b, x.st, n, (g.th n).bg - 1, x.to⟩) ∧
      (∀ y ∈ dgs g.out, y ≠ o → y ∈ dgs (g.out ++ [x])) ∧ ⟨o.b, x.st, n, (g.th n).bg - 1, x.to⟩ ∈ dgs (g.out ++ [x]) := by
  obtain ⟨o, ho, h1, h2, h3, h4⟩ := hs.live hn
  have hu : ∀ y ∈ dgs g.out, y.e = -1 → y.th = n → y = o := fun y hy he hyn => hs.one y hy o ho (by rw [hyn, h1]) (by
    have := ((hs.opn y hy).1 he).2
    rw [hyn] at this; omega)
  have hiso : o.is x := ⟨by rw [h1, ht], by rw [h2, hc], h3⟩
  have hD : dgs (g.out ++ [x]) = (dgs g.out).map (fun d => d.fin x) := by rw [dgs_snoc, dg1_end _ _ he]
  have hfo : o.fin x = ⟨o.b, x.st, n, (g.th n).bg - 1, x.to⟩ := by unfold Dg.fin; rw [if_pos hiso, h1, h2]
  refine ⟨o, ho, h1, h2, h3, fun y hy he' hyn => ⟨hu y hy he' hyn, by rw [hu y hy he' hyn]; exact hiso⟩, fun y hy => ?_, fun y hy hne => ?_, ?_⟩
  · rw [hD] at hy
    obtain ⟨d, hd, rfl⟩ := List.mem_map.1 hy
    by_cases hdo : d = o
    · subst hdo; exact .inr hfo
    · have hnis : ¬ d.is x := fun hi => hdo (hu d hd hi.2.2 (by rw [hi.1, ht]))
      have : d.fin x = d := by unfold Dg.fin; rw [if_neg hnis]
      rw [this]
      exact .inl ⟨hd, hdo, fun hh => hdo (hs.one d hd o ho (by rw [hh.1, h1]) (by rw [hh.2, h2]))⟩
  · rw [hD]
    refine List.mem_map.2 ⟨y, hy, ?_⟩
    unfold Dg.fin
    rw [if_neg]
    intro hi
    exact hne (hu y hy hi.2.2 (by rw [hi.1, ht]))
  · rw [hD]; exact List.mem_map.2 ⟨o, ho, hfo⟩
/-- The calls behind a beginning. -/
theorem dgs_begin (g : Gs) (st n c : Nat) : dgs (g.out ++ [⟨st, n, c, false, 0, []⟩]) = dgs g.out ++ [⟨st, -1, n, c, []⟩] := by rw [dgs_snoc, dg1_begin _ _ rfl]
end Go.Baro
