/- What a thread does at a shared word. No statement of the seat is proved here; no condition. -/
import Derived.Test.YtjihopbapnfppaaDoorVm3O
set_option linter.unusedSimpArgs false
set_option linter.unusedVariables false
namespace Go.Proofs.YtjihopbapnfppaaDoor
open Go.RowKit Go.Ord Go.Baro

set_option maxRecDepth 100000 in
set_option maxHeartbeats 4000000 in
theorem vm_accesso (T : TypeId) (pre post : List Value) (o : Nat) (w : World) (B b n wn wc : Nat) (wA : Option Addr) (cv tv : Value) (s s' : Vs) (k a' b' c d' E : Int) (h : ToV T pre post w B b o cv tv (.slice wA wn wc) { s with p := s.p + 1 }) (hBs : B ≤ w.heap.size) (hl : s.w.length ≤ 200)
    (hk : k = 13 ∨ k = 14 ∨ k = 15) (ho : okI n ⟨k, a', b', c, d'⟩) (hs : stp n ⟨k, a', b', c, d'⟩ s = (s', E)) :
    Calls Tryd.prog 57 #[.pointer (some ⟨b, o, none⟩), .agg #[.int .i64 k, .int .i64 a', .int .i64 b', .int .i64 c, .int .i64 d'], .slice wA wn wc] w fun e w' => e = .returned (.int .i64 E) ∧ ToV T pre post w' B b o cv tv (.slice wA wn wc) s' ∧ Un (touch b b tv (.slice wA wn wc)) w w' := by
  obtain ⟨p, r, ws, t⟩ := s
  dsimp only at h hl
  have hra : isR a' := by unfold okI isR isT at ho; unfold isR; dsimp only at ho; omega
  have hrb : isR b' := by unfold okI isR isT at ho; unfold isR; dsimp only at ho; omega
  have hrd : k = 15 → isR d' := by unfold okI isR isT at ho; unfold isR; dsimp only at ho; omega
  clear ho
  unfold isR at hra hrb hrd
  obtain ⟨a, rfl⟩ : ∃ a : Nat, a' = a := ⟨a'.toNat, by omega⟩
  obtain ⟨bb, rfl⟩ : ∃ a : Nat, b' = a := ⟨b'.toNat, by omega⟩
  have ha : a < 24 := by omega
  have hb : bb < 24 := by omega
  have hwn : wn = ws.length := by
    obtain ⟨A, c', he, _⟩ := own_form h.words
    injection he
  obtain ⟨q, hq⟩ : ∃ q, wrap64 (r bb + c) = q := ⟨_, rfl⟩
  have h0 : Un (touch b b tv (.slice wA wn wc)) w w := Un.refl _ _
  have hlt := h.lt
  have ga := h.get ha
  have gb := h.get hb
  have fa := h.box.frozen (o + 2 + a)
  dsimp only at ga gb
  by_cases hrange : q < 0 ∨ (wn : Int) ≤ q
  · have hs1 : (s', E) = (⟨p + 1, r, ws, t⟩, 2) := by
      rw [← hs]; exact stp_out hk hq (by dsimp only; omega)
    injection hs1 with hs1 hs2
    subst hs1 hs2
    have HTH := Lib.hid h
    have HQ := Lib.hid hq
    clear hs hwn h
    by_cases hneg : q < 0
    · go_enter Tryd.func57, Tryd.ntmps57
      go_wp2
      refine region_two [0, 1, 2, 3, 4, 5, 6, 7, 8, 9, 10] [] (by kernel_rfl) (by kernel_rfl) ?_
      simp only [pick, List.map_cons, List.map_nil, List.getD_cons_zero, List.getD_cons_succ]
      go_wp2
      go_ret
      exact ⟨rfl, (HTH.out.alloc _).drewN _, (h0.alloc _).drewN _⟩
    · have hge : (wn : Int) ≤ q := by omega
      go_enter Tryd.func57, Tryd.ntmps57
      go_wp2
      refine region_two [0, 1, 2, 3, 4, 5, 6, 7, 8, 9, 10] [] (by kernel_rfl) (by kernel_rfl) ?_
      simp only [pick, List.map_cons, List.map_nil, List.getD_cons_zero, List.getD_cons_succ]
      go_wp2
      go_ret
      exact ⟨rfl, (HTH.out.alloc _).drewN _, (h0.alloc _).drewN _⟩
  · obtain ⟨qn, rfl⟩ : ∃ qn : Nat, q = qn := ⟨q.toNat, by omega⟩
    have hqn : qn < wn := by omega
    have hqs : qn < ws.length := by omega
    obtain ⟨g, wc', x, he, hBg, hgs, hgb, gx, HX, fx⟩ := h.some (q := qn) hqs
    injection he with he1 he2 he3
    subst he1 he3
    have hrange' : ¬ (wrap64 (r (bb : Int) + c) < 0 ∨ (ws.length : Int) ≤ wrap64 (r (bb : Int) + c)) := by rw [hq, ← hwn]; omega
    have hgetD : ws[qn]?.getD 0 = x := by rw [HX.out]; rfl
    clear hrange
    rcases hk with rfl | rfl | rfl
    · have hs1 : (s', E) = (⟨p + 1, upd r a x, ws, t⟩, 0) := by
        rw [← hs]; exact stp_13 hq HX.out
      injection hs1 with hs1 hs2
      subst hs1 hs2
      have HTH := Lib.hid h
      clear hs hwn h hgetD hrange' he2
      go_enter Tryd.func57, Tryd.ntmps57
      go_wp2
      refine region_two [0, 1, 2, 3, 4, 5, 6, 7, 8, 9, 10] [] (by kernel_rfl) (by kernel_rfl) ?_
      simp only [pick, List.map_cons, List.map_nil, List.getD_cons_zero, List.getD_cons_succ]
      go_wp2
      refine region_two [0, 1, 2, 3, 4, 5, 6, 7, 8, 9] [10] (by kernel_rfl) (by kernel_rfl) ?_
      simp only [pick, List.map_cons, List.map_nil, List.getD_cons_zero, List.getD_cons_succ]
      go_wp2
      go_ret
      exact ⟨rfl, ((HTH.out.reg ha x).alloc _).drew.drew, ((un_at h0 touch_b _ _).alloc _).drew.drew⟩
    · have hs1 : (s', E) = (⟨p + 1, r, ws.set qn (r a), t⟩, 0) := by
        rw [← hs]; exact stp_14 hq hqs
      injection hs1 with hs1 hs2
      subst hs1 hs2
      have HTH := Lib.hid h
      clear hs hwn h hgetD hrange' he2
      go_enter Tryd.func57, Tryd.ntmps57
      go_wp2
      refine region_two [0, 1, 2, 3, 4, 5, 6, 7, 8, 9, 10] [] (by kernel_rfl) (by kernel_rfl) ?_
      simp only [pick, List.map_cons, List.map_nil, List.getD_cons_zero, List.getD_cons_succ]
      go_wp2
      refine region_two [0, 1, 2, 3, 4, 5, 6, 7, 8, 9] [10] (by kernel_rfl) (by kernel_rfl) ?_
      simp only [pick, List.map_cons, List.map_nil, List.getD_cons_zero, List.getD_cons_succ]
      go_wp2
      go_ret
      exact ⟨rfl, ((HTH.out.word rfl (r a)).alloc _).drew.drew, ((un_at h0 touch_w _ _).alloc _).drew.drew⟩
    · have hd := hrd rfl
      obtain ⟨d, rfl⟩ : ∃ a : Nat, d' = a := ⟨d'.toNat, by omega⟩
      have hd24 : d < 24 := by omega
      have gd := h.get hd24
      dsimp only at gd
      by_cases hsame : x = r d
      · have hs1 : (s', E) = (⟨p + 1, upd r a 1, ws.set qn (r a), t⟩, 0) := by
          rw [← hs]; exact stp_15t hq HX.out hsame
        injection hs1 with hs1 hs2
        subst hs1 hs2
        have HTH := Lib.hid h
        have hv : (x == r (d : Int)) = true := by simp [hsame]
        have HSM := Lib.hid hsame
        clear hs hwn h hgetD hrange' he2 hsame hd hrd
        go_enter Tryd.func57, Tryd.ntmps57
        go_wp2
        refine region_two [0, 1, 2, 3, 4, 5, 6, 7, 8, 9, 10] [] (by kernel_rfl) (by kernel_rfl) ?_
        simp only [pick, List.map_cons, List.map_nil, List.getD_cons_zero, List.getD_cons_succ]
        go_wp2
        refine region_two [0, 1, 2, 3, 4, 5, 6, 7, 8, 9, 10, 11, 12] [] (by kernel_rfl) (by kernel_rfl) ?_
        simp only [pick, List.map_cons, List.map_nil, List.getD_cons_zero, List.getD_cons_succ]
        go_wp2
        refine region_two [0, 1, 2, 3, 4, 5, 6, 7, 8, 9] [10] (by kernel_rfl) (by kernel_rfl) ?_
        simp only [pick, List.map_cons, List.map_nil, List.getD_cons_zero, List.getD_cons_succ]
        go_wp2
        refine region_first [0, 1, 2, 3, 5, 6] (.cons 4 (seq [7] (seq [8] .nil))) (by kernel_rfl) (by kernel_rfl) ?_
        simp only [pick, List.map_cons, List.map_nil, List.getD_cons_zero, List.getD_cons_succ]
        go_wp2
        refine ord_call (by kernel_rfl) ?_
        simp only [pick, List.map_cons, List.map_nil, List.getD_cons_zero, List.getD_cons_succ]
        go_wp2_with (go_at_call 60; refine (vm_truth true _).mono ?_; rintro e w' ⟨rfl, rfl⟩)
        refine ord_more [7] (seq [8] .nil) (by kernel_rfl) ?_
        simp only [pick, List.map_cons, List.map_nil, List.getD_cons_zero, List.getD_cons_succ]
        go_wp2
        refine ord_last [8] (by kernel_rfl) ?_
        simp only [pick, List.map_cons, List.map_nil, List.getD_cons_zero, List.getD_cons_succ]
        go_wp2
        go_ret
        exact ⟨rfl, (((HTH.out.word rfl (r a)).reg ha 1).alloc _).drew.drew.drew.drew, ((un_at (un_at h0 touch_w _ _) touch_b _ _).alloc _).drew.drew.drew.drew⟩
      · have hs1 : (s', E) = (⟨p + 1, upd r a 0, ws, t⟩, 0) := by
          rw [← hs]; exact stp_15f hq HX.out hsame
        injection hs1 with hs1 hs2
        subst hs1 hs2
        have HTH := Lib.hid h
        have hv : (x == r (d : Int)) = false := by simp [hsame]
        have HSM := Lib.hid hsame
        clear hs hwn h hgetD hrange' he2 hsame hd hrd
        go_enter Tryd.func57, Tryd.ntmps57
        go_wp2
        refine region_two [0, 1, 2, 3, 4, 5, 6, 7, 8, 9, 10] [] (by kernel_rfl) (by kernel_rfl) ?_
        simp only [pick, List.map_cons, List.map_nil, List.getD_cons_zero, List.getD_cons_succ]
        go_wp2
        refine region_two [0, 1, 2, 3, 4, 5, 6, 7, 8, 9, 10, 11, 12] [] (by kernel_rfl) (by kernel_rfl) ?_
        simp only [pick, List.map_cons, List.map_nil, List.getD_cons_zero, List.getD_cons_succ]
        go_wp2
        refine region_first [0, 1, 2, 3, 5, 6] (.cons 4 (seq [7] (seq [8] .nil))) (by kernel_rfl) (by kernel_rfl) ?_
        simp only [pick, List.map_cons, List.map_nil, List.getD_cons_zero, List.getD_cons_succ]
        go_wp2
        refine ord_call (by kernel_rfl) ?_
        simp only [pick, List.map_cons, List.map_nil, List.getD_cons_zero, List.getD_cons_succ]
        go_wp2_with (go_at_call 60; refine (vm_truth false _).mono ?_; rintro e w' ⟨rfl, rfl⟩)
        refine ord_more [7] (seq [8] .nil) (by kernel_rfl) ?_
        simp only [pick, List.map_cons, List.map_nil, List.getD_cons_zero, List.getD_cons_succ]
        go_wp2
        refine ord_last [8] (by kernel_rfl) ?_
        simp only [pick, List.map_cons, List.map_nil, List.getD_cons_zero, List.getD_cons_succ]
        go_wp2
        go_ret
        exact ⟨rfl, ((HTH.out.reg ha 0).alloc _).drew.drew.drew, ((un_at h0 touch_b _ _).alloc _).drew.drew.drew⟩
end Go.Proofs.YtjihopbapnfppaaDoor
