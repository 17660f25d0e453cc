/- The thread of package run: its event, the beginning of its next call. No statement of the seat is proved here; no condition. -/
import Derived.Test.YtekkefbmdchekaaDoorRunMem
import Derived.Test.YtekkefbmdchekaaDoorOpenM
import Derived.Test.YtekkefbmdchekaaDoorVm6
set_option linter.unusedSimpArgs false
set_option linter.unusedVariables false
namespace Go.Proofs.YtekkefbmdchekaaDoor
open Go.RowKit Go.Ord Go.Baro

set_option maxHeartbeats 1000000 in
theorem run_event (w : World) (B b o n bg : Nat) (pre post : List Value) (cs cv tv wv : Value) (s : Vs) (h : To 86 3 pre (.int .i64 n :: cs :: .int .i64 bg :: post) w B b o cv tv wv s) (hbg : 1 ≤ bg) (hbg2 : bg ≤ 1000) :
    Calls Tryd.prog 55 #[.pointer (some ⟨b, o, none⟩)] w fun e w' => e = .returned (.agg #[.int .i64 0, .int .i64 n, .int .i64 ((bg : Int) - 1), .bool false, .int .i64 0, .slice none 0 0]) ∧ Below w.heap.size w w' := by
  have h0 := Below.refl w.heap.size w
  have c0 : w.cell? ⟨b, o + 27, none⟩ = some (.int .i64 n) := h.tail 0
  have c2 : w.cell? ⟨b, o + 29, none⟩ = some (.int .i64 bg) := h.tail 2
  have hlt := h.lt
  clear h
  go_enter Tryd.func55, Tryd.ntmps55
  go_wp2
  refine region_two [0, 1, 2, 3, 4, 5, 6, 7, 8, 9] [10] (by kernel_rfl) (by kernel_rfl) ?_
  simp only [pick, List.map_cons, List.map_nil, List.getD_cons_zero, List.getD_cons_succ]
  go_wp2
  refine bodyPost_ret (results_cell_row rfl _ _ w.heap.size 51 #[.int .i64 0, .int .i64 n, .int .i64 ((bg : Int) - 1), .bool false, .int .i64 0, .slice none 0 0] (0, 0) _ rfl (Box.new w 51 [.int .i64 0, .int .i64 n, .int .i64 ((bg : Int) - 1), .bool false, .int .i64 0, .slice none 0 0]) Tryd.underlying51 rfl (by kernel_rfl)) rfl ?_
  exact ⟨rfl, (h0.alloc (Nat.le_refl _) _).drew⟩

/-- A thread's cells are stored anew. -/
theorem to_stored {T I : TypeId} {pre post : List Value} {w w' : World} {B b o : Nat} {cv cv' tv wv : Value} {s : Vs} {p : Int} {r : Int → Int} (h : To T I pre post w B b o cv tv wv s) (hb : Box w' b T (pre ++ (thC cv' p r (.slice none 0 0) ++ post))) (hg : w.grownBy w' (some b)) :
    To T I pre post w' B b o cv' (.slice none 0 0) wv ⟨p, r, s.w, []⟩ := by
  refine ⟨hb, h.off, World.ownsRow_nil _ _ _ _, h.words.kept hg ?_, ?_, h.ne⟩
  · cases hv : wv.ownBlock with
    | none => exact .inl rfl
    | some k => exact .inr fun he => by have := h.box.ne h.words h.ne; rw [hv] at this; exact this he.symm
  · cases hv : wv.ownBlock with
    | none => exact .inl rfl
    | some k => exact .inr (by simp [Value.ownBlock])

/-- What the beginning of a thread's next call leaves. -/
def TbPost (cl : List Ins) (ar : List Int) (cn n bg B b o : Nat) (pre post : List Value) (cs wv : Value) (ws : List Int) (w : World) (e : Ending) (w' : World) : Prop :=
  e = .returned (.tuple #[]) ∧ ∃ cA cc, To 86 3 pre (.int .i64 n :: cs :: .int .i64 (bg + 1 : Nat) :: post) w' B b o (.slice cA cn cc) (.slice none 0 0) wv ⟨0, (st0 ar []).r, ws, []⟩ ∧ RO w' w'.heap.size cA cn cl ∧
    (0 < cn → ∀ g q, cA = some ⟨g, q, none⟩ → w.heap.size ≤ g) ∧ Un (fun k => k = b) w w'

set_option maxRecDepth 100000 in
set_option maxHeartbeats 4000000 in
theorem run_begin (w : World) (hT : Tab w) (B b o n bg : Nat) (pre post : List Value) (cv tv wv : Value) (s : Vs) (A1 : Option Addr) (n1 k1 Bc : Nat) (t : List Cl) (Ac : Option Addr) (nc cc nq : Nat) (cds : List (List Ins)) (q : Nat) (ar : List Int) (cl : List Ins)
    (h : To 86 3 pre (.int .i64 n :: .slice A1 n1 k1 :: .int .i64 bg :: post) w B b o cv tv wv s) (hBc : Bc ≤ w.heap.size) (hl : RLs w Bc A1 n1 t) (hlt1 : bg < n1) (hn1 : n1 ≤ 20) (hcs : RCs w Bc Ac nc cds) (hcl : t[bg]? = some ⟨q, ar⟩) (hq : cds[q]? = some cl) (hok : okC cl) (har : ar.length ≤ 8) (hcn : cl.length = nq) :
    Calls Tryd.prog 54 #[.pointer (some ⟨b, o, none⟩), .slice Ac nc cc] w (TbPost cl ar nq n bg B b o pre post (.slice A1 n1 k1) wv s.w w) := by
  have h0 := Below.refl w.heap.size w
  have c1 : w.cell? ⟨b, o + 28, none⟩ = some (.slice A1 n1 k1) := h.tail 1
  have c2 : w.cell? ⟨b, o + 29, none⟩ = some (.int .i64 bg) := h.tail 2
  have hlt := h.lt
  obtain ⟨b1, o1, q', A2, n2, k2, ar', rfl, hb1B, hq0, hq1, hlk2, hri, HXc, hmc⟩ := hl.val hlt1
  have hX := HXc.out
  rw [hcl] at hX
  simp only [Option.some.injEq, Cl.mk.injEq] at hX
  obtain ⟨rfl, rfl⟩ := hX
  have hqn : q < nc := by have := (List.getElem?_eq_some_iff.1 hq).1; rw [hcs.len] at this; exact this
  obtain ⟨b2, o2, cA, cn, ck, cl', rfl, hb2B, hcc0, hlk3, hro, HCC, hmcc⟩ := hcs.val hqn
  have hX := HCC.out
  rw [hq] at hX
  simp only [Option.some.injEq] at hX
  subst hX
  obtain rfl : cn = nq := by rw [← hcn]; exact hro.len.symm
  have hn2 : n2 ≤ 8 := by have := hri.len; omega
  have lb1 : b1 < w.heap.size := by omega
  have lb2 : b2 < w.heap.size := by omega
  have HTH := Lib.hid h
  have HT := Lib.hid hT
  have HOK := Lib.hid hok
  clear h hcl hq hmc hmcc HXc HCC hcn hT hok
  go_enter Tryd.func54, Tryd.ntmps54
  go_wp2
  refine region_first [0, 1, 2, 3, 4, 5, 6, 7, 8, 9] (.cons 10 (seq [11] .nil)) (by kernel_rfl) (by kernel_rfl) ?_
  simp only [pick, List.map_cons, List.map_nil, List.getD_cons_zero, List.getD_cons_succ]
  go_wp2
  refine ord_call (by kernel_rfl) ?_
  simp only [pick, List.map_cons, List.map_nil, List.getD_cons_zero, List.getD_cons_succ]
  go_wp2
  refine ⟨(((Below.refl w.heap.size w).alloc (Nat.le_refl _) _).drew).block, ?_⟩
  refine ord_last [11] (by kernel_rfl) ?_
  simp only [pick, List.map_cons, List.map_nil, List.getD_cons_zero, List.getD_cons_succ]
  go_wp2
  refine region_first [0, 1, 2, 3, 4, 5, 6, 7] (.cons 8 (seq [9, 10, 11, 12, 13] (seq [14] .nil))) (by kernel_rfl) (by kernel_rfl) ?_
  simp only [pick, List.map_cons, List.map_nil, List.getD_cons_zero, List.getD_cons_succ]
  go_wp2
  refine ord_call (by kernel_rfl) ?_
  simp only [pick, List.map_cons, List.map_nil, List.getD_cons_zero, List.getD_cons_succ]
  go_wp2_with fail
  have hcal : Below w.heap.size w (w.alloc (Obj.cells #[.int .i64 q, .slice A2 n2 k2] 60)) := h0.alloc (Nat.le_refl _) _
  refine (vm_Begin _ (HT.out.below hcal.drew.drew HT.out.lt) cl ar cA A2 cn ck n2 k2 Bc (Rd.heap (Rd.below hro (hcal.mono hBc)) rfl) (Rd.heap (Rd.below hri (hcal.mono hBc)) rfl) (by simp; omega) HOK.out hn2).mono ?_
  rintro e w1 ⟨cA1, cc1, rfl, hro1, hfr1, hb1⟩
  obtain ⟨C2, hC2⟩ : ∃ C2, C2 = thC (.slice cA1 cn cc1) 0 (st0 ar []).r (.slice none 0 0) := ⟨_, rfl⟩
  rw [← hC2]
  have HLC := Lib.hid (show C2.length = 27 by rw [hC2]; exact thC_len)
  have HOC2 := Lib.hid (show ∀ v ∈ C2, v.oneCell' = true by rw [hC2]; exact thC_one rfl rfl)
  have HC2 := Lib.hid hC2
  have HIN := Lib.hid (show (Tryd.prog.info? 69).map (·.size) = some 27 by kernel_rfl)
  have hb01 : Below w.heap.size w w1 := hcal.drew.drew.trans (hb1.mono (by simp))
  have hb01' : Un (fun k => k = b) w w1 := un_below hb01
  have HT1 := Lib.hid (HTH.out.below hb01)
  have hE := Lib.hid hb1.block
  have hfr2 : 0 < cn → ∀ g q, cA1 = some ⟨g, q, none⟩ → w.heap.size + 1 ≤ g := fun h1 g q h2 => by have := hfr1 h1 g q h2; simp at this; exact this
  have hs1 : w.heap.size + 1 ≤ w1.heap.size := by have := hb1.size; simp at this; exact this
  have hlt1 : b < w1.heap.size := by omega
  clear hC2 hb1 hfr1
  go_wp2
  refine ⟨hE.out, ?_⟩
  refine ord_more [9, 10, 11, 12, 13] (seq [14] .nil) (by kernel_rfl) ?_
  simp only [pick, List.map_cons, List.map_nil, List.getD_cons_zero, List.getD_cons_succ]
  go_wp2
  refine ord_last [14] (by kernel_rfl) ?_
  simp only [pick, List.map_cons, List.map_nil, List.getD_cons_zero, List.getD_cons_succ]
  go_wp2_with (refine store_mid rfl rfl 69 (.tmp 28) (.tmp 25) rfl b o C2 rfl rfl 86 pre _ _ HT1.out.box HT1.out.off (by rw [HLC.out]; exact thC_len) (by rw [HLC.out]; exact HIN.out) HOC2.out ?_; intro w2 HG2 hg2; have hth2 := to_stored HT1.out (by have := HG2.out; rw [HC2.out] at this; exact this) hg2; have d2 : w2.cell? ⟨b, o + 29, none⟩ = some (.int .i64 bg) := hth2.tail 2; have f2 := hth2.box.frozen (o + 29); have l2 := hth2.lt)
  refine bodyPost_end (v := .tuple #[]) (results_noneT rfl _ _) rfl ?_
  have hu : Un (fun k => k = b) w1 (w2.setCell ⟨b, o + 29, none⟩ (.int .i64 ((bg : Int) + 1))) := un_at (X := fun k => k = b) (un_set (X := fun k => k = b) (Un.refl _ _) hg2 rfl) rfl _ _
  refine ⟨rfl, cA1, cc1, ?_, ?_, fun h1 g q h2 => by have := hfr2 h1 g q h2; omega, hb01'.trans hu⟩
  · have := hth2.setTail 2 (.int .i64 ((bg : Int) + 1))
    rw [show ((bg + 1 : Nat) : Int) = (bg : Int) + 1 by omega]
    exact this
  · exact Rd.more (Rd.un hro1 hu (Nat.le_refl _) (fun h1 g q h2 he => by have := hfr2 h1 g q h2; omega)) hu.size
end Go.Proofs.YtekkefbmdchekaaDoor
