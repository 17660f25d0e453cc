/- What guarded of the whole's statements does, from what is asked of run.May: the machine of threads that add one, each between two calls that keep the others out. No statement of the seat is proved here; no condition. -/
import Derived.Test.YtfpokjhalbbeeaaDoorPartAF
import Derived.Test.YtfpokjhalbbeeaaDoorPartAG
import Derived.Test.YtfpokjhalbbeeaaDoorPartAH
import Derived.Test.YtfpokjhalbbeeaaDoorPartAI
import Derived.Test.YtfpokjhalbbeeaaDoorPartAL
import Derived.Test.YtfpokjhalbbeeaaDoorPartAM
import Derived.Test.YtfpokjhalbbeeaaDoorPartAN
set_option linter.unusedSimpArgs false
set_option linter.unusedVariables false
namespace Go.Proofs.YtfpokjhalbbeeaaDoor
open Go.RowKit Go.Ord Go.OrdG Go.Baro Go.Baro.Grd

theorem own_lowG {w : World} {B B' k s : Nat} {xs : List Value} {e : TypeId} {v : Value} (h : w.ownsRow B e s v k xs) (hB : B' ≤ B) : w.ownsRow B' e s v k xs := by
  refine ⟨h.1, ?_⟩
  rcases h.2 with q | ⟨g, cap, cur, q1, q2, q3⟩
  · exact .inl q
  · exact .inr ⟨g, cap, cur, q1, by omega, q3⟩
theorem mem_ofG {l : List Nat} {a : Nat} (h : l.contains a = true) : a ∈ l := by simpa using h
theorem eltIntG : Elt Tryd.prog 22 3 (.int .i64 0) 1 8 := Elt.mk' Tryd.underlying22 (by kernel_rfl) rfl (by decide)
def tMachG (t : TypeId) : Prop := t = 36
def tIntG (t : TypeId) : Prop := t = 3
/-- The code of adding as it is written out. -/
theorem addC_cells (N : Nat) : cellsO (addC N) = [.int .i64 1, .int .i64 1, .int .i64 1, .int .i64 0, .int .i64 0, .int .i64 13, .int .i64 0, .int .i64 5, .int .i64 (N : Int), .int .i64 0, .int .i64 3, .int .i64 0, .int .i64 0, .int .i64 1, .int .i64 0, .int .i64 14, .int .i64 0, .int .i64 5, .int .i64 (N : Int), .int .i64 0] := rfl
theorem guard_th {t j : Nat} {nm : Bool} (ht : t < 4) (hj : j ≤ 6) : okTh (gJ t nm j) := by
  have ha : ∀ y ∈ gA t nm, inW y := fun y hy => by
    unfold gA at hy
    split at hy
    · rw [List.mem_singleton.1 hy]; unfold inW; omega
    · cases hy
  have hl : (gA t nm).length ≤ 1 := by unfold gA; split <;> simp
  refine ⟨by rw [gJ_len]; omega, fun x hx => ?_⟩
  obtain ⟨h1, h2⟩ := gJ_mem hx
  refine ⟨by unfold inW; omega, by rcases h2 with h | h <;> rw [h] <;> first | omega | simp, fun y hy => ?_⟩
  rcases h2 with h | h <;> rw [h] at hy
  · exact ha y hy
  · cases hy
/-- The words and codes that guard. -/
structure GuOk (ws : List Int) (ci co : List Ins) : Prop where
  w0 : 0 < ws.length
  w1 : ws.length ≤ 64
  wi : ∀ x ∈ ws, inW x
  i0 : 0 < ci.length
  ic : okC ci
  ii : ∀ o ∈ ci, inI o
  o0 : 0 < co.length
  oc : okC co
  oi : ∀ o ∈ co, inI o
theorem addC_ok {N : Nat} (h : N ≤ 64) : okC (addC N) ∧ ∀ o ∈ addC N, inI o := by
  constructor
  · refine ⟨by simp [addC], fun o ho => ?_⟩
    simp only [addC, List.mem_cons, List.not_mem_nil, or_false] at ho
    rcases ho with rfl | rfl | rfl | rfl <;> simp [okI, isR]
  · intro o ho
    simp only [addC, List.mem_cons, List.not_mem_nil, or_false] at ho
    rcases ho with rfl | rfl | rfl | rfl <;> (refine ⟨?_, ?_, ?_, ?_, ?_⟩ <;> unfold inW <;> dsimp only <;> omega)
theorem guard_ok {ws : List Int} {ci co : List Ins} (h : GuOk ws ci co) {n : Nat} {nm : Bool} (h4 : n ≤ 4) : okMc (mGuard ws ci co n nm) := by
  refine ⟨?_, by simp [mGuard], by simp [mGuard]; omega, fun x hx => ?_, fun t ht => ?_⟩
  · have := h.w1
    simp [mGuard]; omega
  · simp only [mGuard, List.mem_cons, List.not_mem_nil, or_false] at hx
    rcases hx with rfl | rfl | rfl
    · exact h.ic
    · exact h.oc
    · exact (addC_ok h.w1).1
  · simp only [mGuard, List.mem_map, List.mem_range] at ht
    obtain ⟨i, hi, rfl⟩ := ht
    refine ⟨by rw [gJ_len]; omega, fun x hx => ?_⟩
    obtain ⟨k1, k2⟩ := gJ_mem hx
    have hl : (gA i nm).length ≤ 1 := by unfold gA; split <;> simp
    refine ⟨by show 0 ≤ x.k ∧ x.k < ((3 : Nat) : Int); omega, by rcases k2 with h | h <;> rw [h] <;> first | omega | simp⟩
/-- The machine in memory. -/
theorem guard_inM {ws : List Int} {ci co : List Ins} (h : GuOk ws ci co) {n : Nat} {nm : Bool} (h1 : 1 ≤ n) (h4 : n ≤ 4) {w : World} {Aw Ap Ag : Option Addr} {cw np cp ng cg g4 g5 g7 B : Nat} {tg : Nat → Nat} {ts : Nat → Value}
    (q1 : w.ownsRow B 3 1 (.slice Aw (ws.length + 1) cw) (ws.length + 1) ((ws ++ [0]).map (Value.int .i64))) (q2 : QT w 64 5 Ap np (cellsO ci)) (q3 : QT w 64 5 Ag ng (cellsO co)) (b4 : Box w g4 64 (cellsO (addC ws.length))) (b5 : Box w g5 26 [.slice Ap np cp, .slice Ag ng cg, .slice (some ⟨g4, 0, none⟩) 4 4])
    (hm : Mg 3 67 65 tg w B g7 n ts (fun t => gJ t nm 6)) (hlp : np ≤ cp) (hlg : ng ≤ cg) :
    InM w Aw (ws.length + 1) cw (some ⟨g5, 0, none⟩) 3 3 (some ⟨g7, 0, none⟩) n n (mGuard ws ci co n nm) := by
  have q4 : QT w 64 5 (some ⟨g4, 0, none⟩) 4 (cellsO (addC ws.length)) := QT.box b4 rfl
  have hcap : ws.length + 1 ≤ cw ∧ cw ≤ 9223372036854775807 := by
    rcases q1.2 with ⟨q, _⟩ | ⟨g, cap, cur, q, _, _, k1, k2, _⟩
    · injection q with _ q; omega
    · injection q with _ _ q
      subst q
      exact ⟨k1, by unfold maxLen at k2; omega⟩
  refine ⟨Rd.of_own q1, ?_, hm.rts, ?_, ?_, ?_, hcap, ⟨by omega, by omega⟩, ⟨by omega, by omega⟩⟩
  · refine rg_box (rows := [[.slice Ap np cp], [.slice Ag ng cg], [.slice (some ⟨g4, 0, none⟩) 4 4]]) b5 rfl rfl (by simp) fun i r x hr hx => ?_
    match i with
    | 0 =>
      simp [mGuard] at hr hx
      subst hr hx
      exact ⟨Ap, np, cp, rfl, hlp, q2.rd⟩
    | 1 =>
      simp [mGuard] at hr hx
      subst hr hx
      exact ⟨Ag, ng, cg, rfl, hlg, q3.rd⟩
    | 2 =>
      simp [mGuard] at hr hx
      subst hr hx
      exact ⟨some ⟨g4, 0, none⟩, 4, 4, rfl, Nat.le_refl _, q4.rd⟩
    | i + 3 => simp at hr
  · intro x hx
    rcases List.mem_append.1 hx with hx | hx
    · exact h.wi x hx
    · rw [List.mem_singleton.1 hx]; unfold inW; omega
  · intro x hx
    simp only [mGuard, List.mem_cons, List.not_mem_nil, or_false] at hx
    rcases hx with rfl | rfl | rfl
    · exact ⟨by have := h.ic.1; omega, h.ii⟩
    · exact ⟨by have := h.oc.1; omega, h.oi⟩
    · exact ⟨by simp [addC], (addC_ok h.w1).2⟩
  · intro t ht
    simp only [mGuard, List.mem_map, List.mem_range] at ht
    obtain ⟨i, hi, rfl⟩ := ht
    exact guard_th (by omega) (by omega)
structure GdTV (L : Nat → Bool) (bR bA n nw cw np cp ng cg : Nat) (Aw Ap Ag : Option Addr) (ws : List Int) (B : Nat) (w0 : World) (u30 u31 u32 u33 u34 u35 u36 u37 u38 u39 u40 u16 : Value) (w : World) : Prop where
  bel : Below B w0 w
  f0 : L 0 = true → u30 = .slice Aw nw cw
  f1 : L 1 = true → L 3 = false → w.ownsRow B 3 1 u31 nw (ws.map (Value.int .i64))
  f2 : L 2 = true → ∃ g, u32 = .slice (some ⟨g, 0, none⟩) 1 1 ∧ B ≤ g ∧ (L 3 = false → Box w g 3 [.int .i64 0])
  f3 : L 3 = true → w.ownsRow B 3 1 u33 (nw + 1) ((ws ++ [0]).map (Value.int .i64))
  f4 : L 4 = true → u34 = .slice Ap np cp
  f5 : L 5 = true → u35 = .slice Ag ng cg
  f6 : L 6 = true → u36 = .slice (some ⟨bA, 0, none⟩) 4 4
  f7 : L 7 = true → ∃ g, u37 = .slice (some ⟨g, 0, none⟩) 3 3 ∧ B ≤ g ∧ Box w g 26 [.slice Ap np cp, .slice Ag ng cg, .slice (some ⟨bA, 0, none⟩) 4 4]
  f8 : L 8 = true → u38 = .int .i64 ((n : Nat) : Int)
  f9 : L 9 = true → ∃ g, u39 = .slice (some ⟨g, 0, none⟩) n n ∧ B ≤ g ∧ Box w g 65 (List.replicate n (.slice none 0 0))
  f10 : L 10 = true → u40 = .agg #[u33, u37, u39]
  f11 : L 11 = true → ∃ g, u16 = .pointer (some ⟨g, 0, none⟩) ∧ B ≤ g ∧ Box w g 36 [.slice none 0 0, .slice none 0 0, .slice none 0 0]
def GdTG (bR bA n nw cw np cp ng cg : Nat) (Aw Ap Ag : Option Addr) (ws : List Int) (B : Nat) (w0 : World) (L : Nat → Bool) (a : Act) (w : World) : Prop :=
  ∃ u30 u31 u32 u33 u34 u35 u36 u37 u38 u39 u40 u16, a = ⟨#[.slice Aw nw cw, .slice Ap np cp, .slice Ag ng cg, .int .i64 ((n : Nat) : Int), .int .i64 6, .bool true, undef, undef, undef, undef, undef, undef, .pointer (some ⟨bR, 0, none⟩), .bool false, .int .i64 ((nw : Nat) : Int), .slice (some ⟨bA, 0, none⟩) 4 4, u16, undef, undef, undef, undef, .slice Aw nw cw, .int .i64 ((nw : Nat) : Int), .agg #[.int .i64 1, .int .i64 1, .int .i64 1, .int .i64 0, .int .i64 0], .int .i64 ((nw : Nat) : Int), .agg #[.int .i64 13, .int .i64 0, .int .i64 5, .int .i64 ((nw : Nat) : Int), .int .i64 0], .agg #[.int .i64 3, .int .i64 0, .int .i64 0, .int .i64 1, .int .i64 0], .int .i64 ((nw : Nat) : Int), .agg #[.int .i64 14, .int .i64 0, .int .i64 5, .int .i64 ((nw : Nat) : Int), .int .i64 0], .slice (some ⟨bA, 0, none⟩) 4 4, u30, u31, u32, u33, u34, u35, u36, u37, u38, u39, u40, undef, undef, undef, undef, undef, undef, undef, undef, undef, undef, undef, undef, undef, undef, undef, undef, undef, undef, undef, undef, undef, undef, undef, undef, undef, undef, undef, undef, undef, undef, undef, undef, undef, undef, undef, undef, undef, undef, undef, undef, undef, undef, undef, undef, undef, undef, undef, undef, undef, undef, undef, undef, undef, undef], []⟩ ∧ GdTV L bR bA n nw cw np cp ng cg Aw Ap Ag ws B w0 u30 u31 u32 u33 u34 u35 u36 u37 u38 u39 u40 u16 w

set_option maxRecDepth 100000 in
set_option maxHeartbeats 2000000 in
theorem top_guardedT (hM : MaySpec) (w : World) (hT : Tab w) (n : Nat) (h1 : 1 ≤ n) (h4 : n ≤ 4) (Aw Ap Ag : Option Addr) (nw cw np cp ng cg : Nat) (ws : List Int) (ci co : List Ins) (hgu : GuOk ws ci co)
    (q1 : QT w 3 1 Aw nw (ws.map (Value.int .i64))) (q2 : QT w 64 5 Ap np (cellsO ci)) (q3 : QT w 64 5 Ag ng (cellsO co)) (hlw : nw ≤ cw) (hlp : np ≤ cp) (hlg : ng ≤ cg) :
    Calls Tryd.prog 17 #[.slice Aw nw cw, .slice Ap np cp, .slice Ag ng cg, .int .i64 n, .int .i64 6, .bool true] w fun e w' => ∃ Aw nw cw Ac nc cc At nt ct, e = .returned (.tuple #[.agg #[.slice Aw nw cw, .slice Ac nc cc, .slice At nt ct], .bool true]) ∧ InM w' Aw nw cw Ac nc cc At nt ct (mGuard ws ci co n true) ∧ Below w.heap.size w w' := by
  have HM := Lib.hid hM
  have HT := Lib.hid hT
  have HGU := Lib.hid hgu
  have hnw : nw = ws.length := by have := q1.1; simpa using this.symm
  have hw0 := hgu.w0
  have hw1 := hgu.w1
  rw [← hnw] at hw0 hw1
  have hnp : 0 < np := by have h := q2.1; rw [cellsO_length] at h; have := hgu.i0; omega
  have hng : 0 < ng := by have h := q3.1; rw [cellsO_length] at h; have := hgu.o0; omega
  have HNW := Lib.hid hnw
  have bR := Box.newAt w 36 [.slice none 0 0, .slice none 0 0, .slice none 0 0] w.heap.size rfl
  have hA := (Below.refl w.heap.size w).alloc (Nat.le_refl _) (Obj.cells #[.slice none 0 0, .slice none 0 0, .slice none 0 0] 36)
  have HW0 := Lib.hid q1
  have HP0 := Lib.hid q2
  have HG0 := Lib.hid q3
  clear hM hT hgu hnw q1 q2 q3
  go_enter Tryd.func17, Tryd.ntmps17
  go_wp2
  obtain ⟨w3, hw3⟩ : ∃ w3, w3 = (w.alloc (Obj.cells #[.slice none 0 0, .slice none 0 0, .slice none 0 0] 36)).alloc (Obj.cells #[.int .i64 1, .int .i64 1, .int .i64 1, .int .i64 0, .int .i64 0, .int .i64 13, .int .i64 0, .int .i64 5, .int .i64 (nw : Int), .int .i64 0, .int .i64 3, .int .i64 0, .int .i64 0, .int .i64 1, .int .i64 0, .int .i64 14, .int .i64 0, .int .i64 5, .int .i64 (nw : Int), .int .i64 0] 64) := ⟨_, rfl⟩
  have hb3 : Below w.heap.size w w3 := hw3 ▸ hA.alloc (by simp) _
  have bR3 : Box w3 w.heap.size 36 [.slice none 0 0, .slice none 0 0, .slice none 0 0] := hw3 ▸ bR.alloc _
  have bA3 : Box w3 (w.heap.size + 1) 64 (cellsO (addC nw)) := by rw [addC_cells, hw3]; exact Box.newAt _ _ _ _ (by simp)
  rw [← hw3]
  have HS3 : Hid (QT w3 3 1 Aw nw (ws.map (Value.int .i64)) ∧ QT w3 64 5 Ap np (cellsO ci) ∧ QT w3 64 5 Ag ng (cellsO co) ∧ Box w3 (w.heap.size + 1) 64 (cellsO (addC nw)) ∧ Box w3 w.heap.size 36 [.slice none 0 0, .slice none 0 0, .slice none 0 0]) :=
    ⟨HW0.out.kc (Kc.below (T := fun _ => False) hb3) id, HP0.out.kc (Kc.below (T := fun _ => False) hb3) id, HG0.out.kc (Kc.below (T := fun _ => False) hb3) id, bA3, bR3⟩
  have HB3 := Lib.hid hb3
  have lR3 := bR3.lt
  have lA3 := bA3.lt
  clear hw3 hb3 bR3 bA3 bR hA HW0 HP0 HG0
  refine region_manyL (G := GdTG w.heap.size (w.heap.size + 1) n nw cw np cp ng cg Aw Ap Ag ws w3.heap.size w3) 12 (by kernel_rfl) (by kernel_rfl) ⟨_, _, _, _, _, _, _, _, _, _, _, _, rfl, ⟨(Below.refl _ _).drew, fun h => (by cases h), fun h => (by cases h), fun h => (by cases h), fun h => (by cases h), fun h => (by cases h), fun h => (by cases h), fun h => (by cases h), fun h => (by cases h), fun h => (by cases h), fun h => (by cases h), fun h => (by cases h), fun h => (by cases h)⟩⟩ ?_ ?_
  · intro i hi L a wq h1 h2c h3 hG
    obtain ⟨u30, u31, u32, u33, u34, u35, u36, u37, u38, u39, u40, u16, rfl, hV⟩ := hG
    have hszq : w3.heap.size ≤ wq.heap.size := hV.bel.size
    rcases (by omega : i = 0 ∨ i = 1 ∨ i = 2 ∨ i = 3 ∨ i = 4 ∨ i = 5 ∨ i = 6 ∨ i = 7 ∨ i = 8 ∨ i = 9 ∨ i = 10 ∨ i = 11) with rfl | rfl | rfl | rfl | rfl | rfl | rfl | rfl | rfl | rfl | rfl | rfl
    · simp only [pick, List.map_cons, List.map_nil, List.getD_cons_zero, List.getD_cons_succ]
      go_wp2
      exact ⟨_, _, _, _, _, _, _, _, _, _, _, _, rfl, ⟨hV.bel, fun _ => rfl, fun h h3 => hV.f1 (by rwa [markL_ne _ (show 1 ≠ 0 by decide)] at h) (by rwa [markL_ne _ (show 3 ≠ 0 by decide)] at h3), fun h => (hV.f2 (by rwa [markL_ne _ (show 2 ≠ 0 by decide)] at h)).imp fun g ⟨e, l, q⟩ => ⟨e, l, fun h3 => q (by rwa [markL_ne _ (show 3 ≠ 0 by decide)] at h3)⟩, fun h => hV.f3 (by rwa [markL_ne _ (show 3 ≠ 0 by decide)] at h), fun h => hV.f4 (by rwa [markL_ne _ (show 4 ≠ 0 by decide)] at h), fun h => hV.f5 (by rwa [markL_ne _ (show 5 ≠ 0 by decide)] at h), fun h => hV.f6 (by rwa [markL_ne _ (show 6 ≠ 0 by decide)] at h), fun h => hV.f7 (by rwa [markL_ne _ (show 7 ≠ 0 by decide)] at h), fun h => hV.f8 (by rwa [markL_ne _ (show 8 ≠ 0 by decide)] at h), fun h => hV.f9 (by rwa [markL_ne _ (show 9 ≠ 0 by decide)] at h), fun h => hV.f10 (by rwa [markL_ne _ (show 10 ≠ 0 by decide)] at h), fun h => hV.f11 (by rwa [markL_ne _ (show 11 ≠ 0 by decide)] at h)⟩⟩
    · have e0 := hV.f0 (h3 0 (mem_ofG (by kernel_rfl)))
      subst e0
      have HQ1 := (HS3.out.1.kc (Kc.below (T := fun _ => False) hV.bel) id).rd
      simp only [pick, List.map_cons, List.map_nil, List.getD_cons_zero, List.getD_cons_succ]
      go_wp2_with (at_builtin; go_must (refine app_src eltIntG wq rfl _ _ rfl wq.heap.size (.slice none 0 0) 0 [] rfl (World.ownsRow_nil _ _ _ _) Aw nw cw (ws.map (Value.int .i64)) rfl wq.heap.size HQ1 (one_ints _ ws) (by omega) (by omega) (Nat.le_refl _) ?_); intro v4 w4 hown4 hgr4 hbel4 hsz4)
      rw [Nat.zero_add, List.nil_append] at hown4
      have hbN := hbel4 wq (Below.refl _ _)
      exact ⟨_, _, _, _, _, _, _, _, _, _, _, _, rfl, ⟨hV.bel.trans (hbN.mono hszq), fun h => hV.f0 (by rwa [markL_ne _ (show 0 ≠ 1 by decide)] at h), fun _ _ => own_lowG hown4 hszq, fun h => (hV.f2 (by rwa [markL_ne _ (show 2 ≠ 1 by decide)] at h)).imp fun g ⟨e, l, q⟩ => ⟨e, l, fun h3 => (q (by rwa [markL_ne _ (show 3 ≠ 1 by decide)] at h3)).kc (Kc.below (T := fun _ => False) hbN) id⟩, fun h => own_below (hV.f3 (by rwa [markL_ne _ (show 3 ≠ 1 by decide)] at h)) hbN, fun h => hV.f4 (by rwa [markL_ne _ (show 4 ≠ 1 by decide)] at h), fun h => hV.f5 (by rwa [markL_ne _ (show 5 ≠ 1 by decide)] at h), fun h => hV.f6 (by rwa [markL_ne _ (show 6 ≠ 1 by decide)] at h), fun h => (hV.f7 (by rwa [markL_ne _ (show 7 ≠ 1 by decide)] at h)).imp fun g ⟨e, l, q⟩ => ⟨e, l, q.kc (Kc.below (T := fun _ => False) hbN) id⟩, fun h => hV.f8 (by rwa [markL_ne _ (show 8 ≠ 1 by decide)] at h), fun h => (hV.f9 (by rwa [markL_ne _ (show 9 ≠ 1 by decide)] at h)).imp fun g ⟨e, l, q⟩ => ⟨e, l, q.kc (Kc.below (T := fun _ => False) hbN) id⟩, fun h => hV.f10 (by rwa [markL_ne _ (show 10 ≠ 1 by decide)] at h), fun h => (hV.f11 (by rwa [markL_ne _ (show 11 ≠ 1 by decide)] at h)).imp fun g ⟨e, l, q⟩ => ⟨e, l, q.kc (Kc.below (T := fun _ => False) hbN) id⟩⟩⟩
    · simp only [pick, List.map_cons, List.map_nil, List.getD_cons_zero, List.getD_cons_succ]
      go_wp2
      have hNew := Box.newAt wq 3 [.int .i64 0] wq.heap.size rfl
      have hbN := (Below.refl wq.heap.size wq).alloc (Nat.le_refl _) (Obj.cells #[.int .i64 0] 3)
      exact ⟨_, _, _, _, _, _, _, _, _, _, _, _, rfl, ⟨hV.bel.trans (hbN.mono hszq), fun h => hV.f0 (by rwa [markL_ne _ (show 0 ≠ 2 by decide)] at h), fun h h3 => own_below (hV.f1 (by rwa [markL_ne _ (show 1 ≠ 2 by decide)] at h) (by rwa [markL_ne _ (show 3 ≠ 2 by decide)] at h3)) hbN, fun _ => ⟨_, rfl, hszq, fun _ => hNew⟩, fun h => own_below (hV.f3 (by rwa [markL_ne _ (show 3 ≠ 2 by decide)] at h)) hbN, fun h => hV.f4 (by rwa [markL_ne _ (show 4 ≠ 2 by decide)] at h), fun h => hV.f5 (by rwa [markL_ne _ (show 5 ≠ 2 by decide)] at h), fun h => hV.f6 (by rwa [markL_ne _ (show 6 ≠ 2 by decide)] at h), fun h => (hV.f7 (by rwa [markL_ne _ (show 7 ≠ 2 by decide)] at h)).imp fun g ⟨e, l, q⟩ => ⟨e, l, q.kc (Kc.below (T := fun _ => False) hbN) id⟩, fun h => hV.f8 (by rwa [markL_ne _ (show 8 ≠ 2 by decide)] at h), fun h => (hV.f9 (by rwa [markL_ne _ (show 9 ≠ 2 by decide)] at h)).imp fun g ⟨e, l, q⟩ => ⟨e, l, q.kc (Kc.below (T := fun _ => False) hbN) id⟩, fun h => hV.f10 (by rwa [markL_ne _ (show 10 ≠ 2 by decide)] at h), fun h => (hV.f11 (by rwa [markL_ne _ (show 11 ≠ 2 by decide)] at h)).imp fun g ⟨e, l, q⟩ => ⟨e, l, q.kc (Kc.below (T := fun _ => False) hbN) id⟩⟩⟩
    · have o1 := hV.f1 (h3 1 (mem_ofG (by kernel_rfl))) h1
      obtain ⟨A31, c31, e1, l1⟩ := own_form o1
      subst e1
      obtain ⟨g2, e2, l2, b2⟩ := hV.f2 (h3 2 (mem_ofG (by kernel_rfl)))
      subst e2
      have b2 := b2 h1
      simp only [pick, List.map_cons, List.map_nil, List.getD_cons_zero, List.getD_cons_succ]
      go_wp2_with (at_builtin; go_must (refine app_src eltIntG wq rfl _ _ rfl w3.heap.size _ nw _ rfl (by exact o1) (some ⟨g2, 0, none⟩) 1 1 [.int .i64 0] rfl wq.heap.size (QT.box (s := 1) (n := 1) b2 rfl).rd (one_ints _ [0]) (by omega) (by omega) hszq ?_); intro v4 w4 hown4 hgr4 hbel4 hsz4)
      have hk3 : Kc tIntG wq w4 := Kc.grown hgr4 (fun b cs t fr he hh => own_same o1 he hh)
      have hbN := hbel4 _ hV.bel
      exact ⟨_, _, _, _, _, _, _, _, _, _, _, _, rfl, ⟨hbN, fun h => hV.f0 (by rwa [markL_ne _ (show 0 ≠ 3 by decide)] at h), fun h h3 => absurd h3 (by rw [markL_self]; decide), fun h => (hV.f2 (by rwa [markL_ne _ (show 2 ≠ 3 by decide)] at h)).imp fun g ⟨e, l, q⟩ => ⟨e, l, fun h3 => absurd h3 (by rw [markL_self]; decide)⟩, fun _ => (by rw [List.map_append]; exact hown4), fun h => hV.f4 (by rwa [markL_ne _ (show 4 ≠ 3 by decide)] at h), fun h => hV.f5 (by rwa [markL_ne _ (show 5 ≠ 3 by decide)] at h), fun h => hV.f6 (by rwa [markL_ne _ (show 6 ≠ 3 by decide)] at h), fun h => (hV.f7 (by rwa [markL_ne _ (show 7 ≠ 3 by decide)] at h)).imp fun g ⟨e, l, q⟩ => ⟨e, l, q.kc hk3 (by unfold tIntG; decide)⟩, fun h => hV.f8 (by rwa [markL_ne _ (show 8 ≠ 3 by decide)] at h), fun h => (hV.f9 (by rwa [markL_ne _ (show 9 ≠ 3 by decide)] at h)).imp fun g ⟨e, l, q⟩ => ⟨e, l, q.kc hk3 (by unfold tIntG; decide)⟩, fun h => (by rw [markL_ne _ (show 10 ≠ 3 by decide)] at h; have := h2c 10 h 3 (mem_ofG (by kernel_rfl)); rw [h1] at this; cases this), fun h => (hV.f11 (by rwa [markL_ne _ (show 11 ≠ 3 by decide)] at h)).imp fun g ⟨e, l, q⟩ => ⟨e, l, q.kc hk3 (by unfold tIntG; decide)⟩⟩⟩
    · simp only [pick, List.map_cons, List.map_nil, List.getD_cons_zero, List.getD_cons_succ]
      go_wp2
      exact ⟨_, _, _, _, _, _, _, _, _, _, _, _, rfl, ⟨hV.bel, fun h => hV.f0 (by rwa [markL_ne _ (show 0 ≠ 4 by decide)] at h), fun h h3 => hV.f1 (by rwa [markL_ne _ (show 1 ≠ 4 by decide)] at h) (by rwa [markL_ne _ (show 3 ≠ 4 by decide)] at h3), fun h => (hV.f2 (by rwa [markL_ne _ (show 2 ≠ 4 by decide)] at h)).imp fun g ⟨e, l, q⟩ => ⟨e, l, fun h3 => q (by rwa [markL_ne _ (show 3 ≠ 4 by decide)] at h3)⟩, fun h => hV.f3 (by rwa [markL_ne _ (show 3 ≠ 4 by decide)] at h), fun _ => rfl, fun h => hV.f5 (by rwa [markL_ne _ (show 5 ≠ 4 by decide)] at h), fun h => hV.f6 (by rwa [markL_ne _ (show 6 ≠ 4 by decide)] at h), fun h => hV.f7 (by rwa [markL_ne _ (show 7 ≠ 4 by decide)] at h), fun h => hV.f8 (by rwa [markL_ne _ (show 8 ≠ 4 by decide)] at h), fun h => hV.f9 (by rwa [markL_ne _ (show 9 ≠ 4 by decide)] at h), fun h => hV.f10 (by rwa [markL_ne _ (show 10 ≠ 4 by decide)] at h), fun h => hV.f11 (by rwa [markL_ne _ (show 11 ≠ 4 by decide)] at h)⟩⟩
    · simp only [pick, List.map_cons, List.map_nil, List.getD_cons_zero, List.getD_cons_succ]
      go_wp2
      exact ⟨_, _, _, _, _, _, _, _, _, _, _, _, rfl, ⟨hV.bel, fun h => hV.f0 (by rwa [markL_ne _ (show 0 ≠ 5 by decide)] at h), fun h h3 => hV.f1 (by rwa [markL_ne _ (show 1 ≠ 5 by decide)] at h) (by rwa [markL_ne _ (show 3 ≠ 5 by decide)] at h3), fun h => (hV.f2 (by rwa [markL_ne _ (show 2 ≠ 5 by decide)] at h)).imp fun g ⟨e, l, q⟩ => ⟨e, l, fun h3 => q (by rwa [markL_ne _ (show 3 ≠ 5 by decide)] at h3)⟩, fun h => hV.f3 (by rwa [markL_ne _ (show 3 ≠ 5 by decide)] at h), fun h => hV.f4 (by rwa [markL_ne _ (show 4 ≠ 5 by decide)] at h), fun _ => rfl, fun h => hV.f6 (by rwa [markL_ne _ (show 6 ≠ 5 by decide)] at h), fun h => hV.f7 (by rwa [markL_ne _ (show 7 ≠ 5 by decide)] at h), fun h => hV.f8 (by rwa [markL_ne _ (show 8 ≠ 5 by decide)] at h), fun h => hV.f9 (by rwa [markL_ne _ (show 9 ≠ 5 by decide)] at h), fun h => hV.f10 (by rwa [markL_ne _ (show 10 ≠ 5 by decide)] at h), fun h => hV.f11 (by rwa [markL_ne _ (show 11 ≠ 5 by decide)] at h)⟩⟩
    · simp only [pick, List.map_cons, List.map_nil, List.getD_cons_zero, List.getD_cons_succ]
      go_wp2
      exact ⟨_, _, _, _, _, _, _, _, _, _, _, _, rfl, ⟨hV.bel, fun h => hV.f0 (by rwa [markL_ne _ (show 0 ≠ 6 by decide)] at h), fun h h3 => hV.f1 (by rwa [markL_ne _ (show 1 ≠ 6 by decide)] at h) (by rwa [markL_ne _ (show 3 ≠ 6 by decide)] at h3), fun h => (hV.f2 (by rwa [markL_ne _ (show 2 ≠ 6 by decide)] at h)).imp fun g ⟨e, l, q⟩ => ⟨e, l, fun h3 => q (by rwa [markL_ne _ (show 3 ≠ 6 by decide)] at h3)⟩, fun h => hV.f3 (by rwa [markL_ne _ (show 3 ≠ 6 by decide)] at h), fun h => hV.f4 (by rwa [markL_ne _ (show 4 ≠ 6 by decide)] at h), fun h => hV.f5 (by rwa [markL_ne _ (show 5 ≠ 6 by decide)] at h), fun _ => rfl, fun h => hV.f7 (by rwa [markL_ne _ (show 7 ≠ 6 by decide)] at h), fun h => hV.f8 (by rwa [markL_ne _ (show 8 ≠ 6 by decide)] at h), fun h => hV.f9 (by rwa [markL_ne _ (show 9 ≠ 6 by decide)] at h), fun h => hV.f10 (by rwa [markL_ne _ (show 10 ≠ 6 by decide)] at h), fun h => hV.f11 (by rwa [markL_ne _ (show 11 ≠ 6 by decide)] at h)⟩⟩
    · have e4 := hV.f4 (h3 4 (mem_ofG (by kernel_rfl)))
      subst e4
      have e5 := hV.f5 (h3 5 (mem_ofG (by kernel_rfl)))
      subst e5
      have e6 := hV.f6 (h3 6 (mem_ofG (by kernel_rfl)))
      subst e6
      simp only [pick, List.map_cons, List.map_nil, List.getD_cons_zero, List.getD_cons_succ]
      go_wp2
      have hNew := Box.newAt wq 26 [.slice Ap np cp, .slice Ag ng cg, .slice (some ⟨w.heap.size + 1, 0, none⟩) 4 4] wq.heap.size rfl
      have hbN := (Below.refl wq.heap.size wq).alloc (Nat.le_refl _) (Obj.cells #[.slice Ap np cp, .slice Ag ng cg, .slice (some ⟨w.heap.size + 1, 0, none⟩) 4 4] 26)
      exact ⟨_, _, _, _, _, _, _, _, _, _, _, _, rfl, ⟨hV.bel.trans (hbN.mono hszq), fun h => hV.f0 (by rwa [markL_ne _ (show 0 ≠ 7 by decide)] at h), fun h h3 => own_below (hV.f1 (by rwa [markL_ne _ (show 1 ≠ 7 by decide)] at h) (by rwa [markL_ne _ (show 3 ≠ 7 by decide)] at h3)) hbN, fun h => (hV.f2 (by rwa [markL_ne _ (show 2 ≠ 7 by decide)] at h)).imp fun g ⟨e, l, q⟩ => ⟨e, l, fun h3 => (q (by rwa [markL_ne _ (show 3 ≠ 7 by decide)] at h3)).kc (Kc.below (T := fun _ => False) hbN) id⟩, fun h => own_below (hV.f3 (by rwa [markL_ne _ (show 3 ≠ 7 by decide)] at h)) hbN, fun h => hV.f4 (by rwa [markL_ne _ (show 4 ≠ 7 by decide)] at h), fun h => hV.f5 (by rwa [markL_ne _ (show 5 ≠ 7 by decide)] at h), fun h => hV.f6 (by rwa [markL_ne _ (show 6 ≠ 7 by decide)] at h), fun _ => ⟨_, rfl, hszq, hNew⟩, fun h => hV.f8 (by rwa [markL_ne _ (show 8 ≠ 7 by decide)] at h), fun h => (hV.f9 (by rwa [markL_ne _ (show 9 ≠ 7 by decide)] at h)).imp fun g ⟨e, l, q⟩ => ⟨e, l, q.kc (Kc.below (T := fun _ => False) hbN) id⟩, fun h => (by rw [markL_ne _ (show 10 ≠ 7 by decide)] at h; have := h2c 10 h 7 (mem_ofG (by kernel_rfl)); rw [h1] at this; cases this), fun h => (hV.f11 (by rwa [markL_ne _ (show 11 ≠ 7 by decide)] at h)).imp fun g ⟨e, l, q⟩ => ⟨e, l, q.kc (Kc.below (T := fun _ => False) hbN) id⟩⟩⟩
    · simp only [pick, List.map_cons, List.map_nil, List.getD_cons_zero, List.getD_cons_succ]
      go_wp2
      exact ⟨_, _, _, _, _, _, _, _, _, _, _, _, rfl, ⟨hV.bel, fun h => hV.f0 (by rwa [markL_ne _ (show 0 ≠ 8 by decide)] at h), fun h h3 => hV.f1 (by rwa [markL_ne _ (show 1 ≠ 8 by decide)] at h) (by rwa [markL_ne _ (show 3 ≠ 8 by decide)] at h3), fun h => (hV.f2 (by rwa [markL_ne _ (show 2 ≠ 8 by decide)] at h)).imp fun g ⟨e, l, q⟩ => ⟨e, l, fun h3 => q (by rwa [markL_ne _ (show 3 ≠ 8 by decide)] at h3)⟩, fun h => hV.f3 (by rwa [markL_ne _ (show 3 ≠ 8 by decide)] at h), fun h => hV.f4 (by rwa [markL_ne _ (show 4 ≠ 8 by decide)] at h), fun h => hV.f5 (by rwa [markL_ne _ (show 5 ≠ 8 by decide)] at h), fun h => hV.f6 (by rwa [markL_ne _ (show 6 ≠ 8 by decide)] at h), fun h => hV.f7 (by rwa [markL_ne _ (show 7 ≠ 8 by decide)] at h), fun _ => rfl, fun h => hV.f9 (by rwa [markL_ne _ (show 9 ≠ 8 by decide)] at h), fun h => hV.f10 (by rwa [markL_ne _ (show 10 ≠ 8 by decide)] at h), fun h => hV.f11 (by rwa [markL_ne _ (show 11 ≠ 8 by decide)] at h)⟩⟩
    · have e8 := hV.f8 (h3 8 (mem_ofG (by kernel_rfl)))
      subst e8
      simp only [pick, List.map_cons, List.map_nil, List.getD_cons_zero, List.getD_cons_succ]
      go_wp2_with (at_make; refine make_all eltThr _ rfl _ _ rfl wq.heap.size _ _ _ _ n rfl rfl rfl rfl (by omega) (by omega) (Nat.le_refl _) ?_; intro w4 hown4 hbel4 hsz4 hgr4)
      have hNew := (own_boxS hown4).1
      rw [madeCells_one _ rfl] at hNew
      have hbN := hbel4 wq (Below.refl _ _)
      exact ⟨_, _, _, _, _, _, _, _, _, _, _, _, rfl, ⟨hV.bel.trans (hbN.mono hszq), fun h => hV.f0 (by rwa [markL_ne _ (show 0 ≠ 9 by decide)] at h), fun h h3 => own_below (hV.f1 (by rwa [markL_ne _ (show 1 ≠ 9 by decide)] at h) (by rwa [markL_ne _ (show 3 ≠ 9 by decide)] at h3)) hbN, fun h => (hV.f2 (by rwa [markL_ne _ (show 2 ≠ 9 by decide)] at h)).imp fun g ⟨e, l, q⟩ => ⟨e, l, fun h3 => (q (by rwa [markL_ne _ (show 3 ≠ 9 by decide)] at h3)).kc (Kc.below (T := fun _ => False) hbN) id⟩, fun h => own_below (hV.f3 (by rwa [markL_ne _ (show 3 ≠ 9 by decide)] at h)) hbN, fun h => hV.f4 (by rwa [markL_ne _ (show 4 ≠ 9 by decide)] at h), fun h => hV.f5 (by rwa [markL_ne _ (show 5 ≠ 9 by decide)] at h), fun h => hV.f6 (by rwa [markL_ne _ (show 6 ≠ 9 by decide)] at h), fun h => (hV.f7 (by rwa [markL_ne _ (show 7 ≠ 9 by decide)] at h)).imp fun g ⟨e, l, q⟩ => ⟨e, l, q.kc (Kc.below (T := fun _ => False) hbN) id⟩, fun h => hV.f8 (by rwa [markL_ne _ (show 8 ≠ 9 by decide)] at h), fun _ => ⟨_, rfl, hszq, hNew⟩, fun h => (by rw [markL_ne _ (show 10 ≠ 9 by decide)] at h; have := h2c 10 h 9 (mem_ofG (by kernel_rfl)); rw [h1] at this; cases this), fun h => (hV.f11 (by rwa [markL_ne _ (show 11 ≠ 9 by decide)] at h)).imp fun g ⟨e, l, q⟩ => ⟨e, l, q.kc (Kc.below (T := fun _ => False) hbN) id⟩⟩⟩
    · have o3 := hV.f3 (h3 3 (mem_ofG (by kernel_rfl)))
      obtain ⟨A33, c33, e3, l3⟩ := own_form o3
      subst e3
      obtain ⟨g7, e7, l7, b7⟩ := hV.f7 (h3 7 (mem_ofG (by kernel_rfl)))
      subst e7
      obtain ⟨g9, e9, l9, b9⟩ := hV.f9 (h3 9 (mem_ofG (by kernel_rfl)))
      subst e9
      simp only [pick, List.map_cons, List.map_nil, List.getD_cons_zero, List.getD_cons_succ]
      go_wp2
      exact ⟨_, _, _, _, _, _, _, _, _, _, _, _, rfl, ⟨hV.bel, fun h => hV.f0 (by rwa [markL_ne _ (show 0 ≠ 10 by decide)] at h), fun h h3 => hV.f1 (by rwa [markL_ne _ (show 1 ≠ 10 by decide)] at h) (by rwa [markL_ne _ (show 3 ≠ 10 by decide)] at h3), fun h => (hV.f2 (by rwa [markL_ne _ (show 2 ≠ 10 by decide)] at h)).imp fun g ⟨e, l, q⟩ => ⟨e, l, fun h3 => q (by rwa [markL_ne _ (show 3 ≠ 10 by decide)] at h3)⟩, fun h => hV.f3 (by rwa [markL_ne _ (show 3 ≠ 10 by decide)] at h), fun h => hV.f4 (by rwa [markL_ne _ (show 4 ≠ 10 by decide)] at h), fun h => hV.f5 (by rwa [markL_ne _ (show 5 ≠ 10 by decide)] at h), fun h => hV.f6 (by rwa [markL_ne _ (show 6 ≠ 10 by decide)] at h), fun h => hV.f7 (by rwa [markL_ne _ (show 7 ≠ 10 by decide)] at h), fun h => hV.f8 (by rwa [markL_ne _ (show 8 ≠ 10 by decide)] at h), fun h => hV.f9 (by rwa [markL_ne _ (show 9 ≠ 10 by decide)] at h), fun _ => rfl, fun h => hV.f11 (by rwa [markL_ne _ (show 11 ≠ 10 by decide)] at h)⟩⟩
    · simp only [pick, List.map_cons, List.map_nil, List.getD_cons_zero, List.getD_cons_succ]
      go_wp2
      have hNew := Box.newAt wq 36 [.slice none 0 0, .slice none 0 0, .slice none 0 0] wq.heap.size rfl
      have hbN := (Below.refl wq.heap.size wq).alloc (Nat.le_refl _) (Obj.cells #[.slice none 0 0, .slice none 0 0, .slice none 0 0] 36)
      exact ⟨_, _, _, _, _, _, _, _, _, _, _, _, rfl, ⟨hV.bel.trans (hbN.mono hszq), fun h => hV.f0 (by rwa [markL_ne _ (show 0 ≠ 11 by decide)] at h), fun h h3 => own_below (hV.f1 (by rwa [markL_ne _ (show 1 ≠ 11 by decide)] at h) (by rwa [markL_ne _ (show 3 ≠ 11 by decide)] at h3)) hbN, fun h => (hV.f2 (by rwa [markL_ne _ (show 2 ≠ 11 by decide)] at h)).imp fun g ⟨e, l, q⟩ => ⟨e, l, fun h3 => (q (by rwa [markL_ne _ (show 3 ≠ 11 by decide)] at h3)).kc (Kc.below (T := fun _ => False) hbN) id⟩, fun h => own_below (hV.f3 (by rwa [markL_ne _ (show 3 ≠ 11 by decide)] at h)) hbN, fun h => hV.f4 (by rwa [markL_ne _ (show 4 ≠ 11 by decide)] at h), fun h => hV.f5 (by rwa [markL_ne _ (show 5 ≠ 11 by decide)] at h), fun h => hV.f6 (by rwa [markL_ne _ (show 6 ≠ 11 by decide)] at h), fun h => (hV.f7 (by rwa [markL_ne _ (show 7 ≠ 11 by decide)] at h)).imp fun g ⟨e, l, q⟩ => ⟨e, l, q.kc (Kc.below (T := fun _ => False) hbN) id⟩, fun h => hV.f8 (by rwa [markL_ne _ (show 8 ≠ 11 by decide)] at h), fun h => (hV.f9 (by rwa [markL_ne _ (show 9 ≠ 11 by decide)] at h)).imp fun g ⟨e, l, q⟩ => ⟨e, l, q.kc (Kc.below (T := fun _ => False) hbN) id⟩, fun h => hV.f10 (by rwa [markL_ne _ (show 10 ≠ 11 by decide)] at h), fun _ => ⟨_, rfl, hszq, hNew⟩⟩⟩
  · intro L a wq hall hG
    obtain ⟨u30, u31, u32, u33, u34, u35, u36, u37, u38, u39, u40, u16, rfl, hV⟩ := hG
    have e0 := hV.f0 (hall 0 (by omega))
    subst e0
    have o3 := hV.f3 (hall 3 (by omega))
    obtain ⟨A33, c33, e3, l3⟩ := own_form o3
    subst e3
    have e4 := hV.f4 (hall 4 (by omega))
    subst e4
    have e5 := hV.f5 (hall 5 (by omega))
    subst e5
    have e6 := hV.f6 (hall 6 (by omega))
    subst e6
    obtain ⟨g7, e7, l7, b7⟩ := hV.f7 (hall 7 (by omega))
    subst e7
    have e8 := hV.f8 (hall 8 (by omega))
    subst e8
    obtain ⟨g9, e9, l9, b9⟩ := hV.f9 (hall 9 (by omega))
    subst e9
    have e10 := hV.f10 (hall 10 (by omega))
    subst e10
    obtain ⟨g11, e11, l11, b11⟩ := hV.f11 (hall 11 (by omega))
    subst e11
    have hbQ := hV.bel
    clear hV
    simp only [pick, List.map_cons, List.map_nil, List.getD_cons_zero, List.getD_cons_succ]
    refine store_box rfl rfl 36 (.tmp 16) (.tmp 40) rfl g11 [.slice A33 (nw + 1) c33, .slice (some ⟨g7, 0, none⟩) 3 3, .slice (some ⟨g9, 0, none⟩) n n] rfl rfl 36 [.slice none 0 0, .slice none 0 0, .slice none 0 0] b11 (by kernel_rfl) rfl (by intro v hv; simp only [List.mem_cons, List.not_mem_nil, or_false] at hv; rcases hv with rfl | rfl | rfl <;> rfl) ?_
    intro wS HBS hgS
    go_wp2
    have hb3S : Below w3.heap.size w3 wS := hbQ.grown hgS hbQ.size (fun k hk => by cases hk; exact l11)
    have hkS : Kc tMachG wq wS := Kc.grown hgS (fun b cs t fr he hh => by
      injection he with he
      subst he
      have h6 := b11
      unfold Box at h6
      rw [h6] at hh
      injection hh with hh
      injection hh with _ hh
      exact hh.symm)
    have k3 := Kc.below (T := fun _ => False) hb3S
    have HB9 := Lib.hid (b9.kc hkS (by unfold tMachG; decide))
    have HMg5 := Lib.hid (Mg.made wS 3 67 65 (nt := n) (B := w3.heap.size) HB9.out l9)
    have HS5 : Hid (wS.ownsRow w3.heap.size 3 1 (.slice A33 (nw + 1) c33) (nw + 1) ((ws ++ [0]).map (Value.int .i64)) ∧ QT wS 64 5 Ap np (cellsO ci) ∧ QT wS 64 5 Ag ng (cellsO co) ∧ Box wS (w.heap.size + 1) 64 (cellsO (addC nw)) ∧ Box wS g7 26 [.slice Ap np cp, .slice Ag ng cg, .slice (some ⟨w.heap.size + 1, 0, none⟩) 4 4] ∧
        Box wS g11 36 [.slice A33 (nw + 1) c33, .slice (some ⟨g7, 0, none⟩) 3 3, .slice (some ⟨g9, 0, none⟩) n n] ∧ Box wS w.heap.size 36 [.slice none 0 0, .slice none 0 0, .slice none 0 0]) :=
      ⟨own_kc o3 hkS (by unfold tMachG; decide), HS3.out.2.1.kc k3 id, HS3.out.2.2.1.kc k3 id, HS3.out.2.2.2.1.below hb3S lA3, b7.kc hkS (by unfold tMachG; decide), HBS.out, HS3.out.2.2.2.2.below hb3S lR3⟩
    have HBw := Lib.hid (HB3.out.trans (hb3S.mono HB3.out.size))
    have HSZ := Lib.hid HB3.out.size
    have HL9 := Lib.hid l9
    obtain ⟨w5, hw5⟩ : ∃ w5, w5 = wS := ⟨_, rfl⟩
    rw [← hw5] at HS5 HMg5 HBw ⊢
    clear hw5 HBS hgS hb3S hkS k3 HB9 b7 b9 b11 l7 l9 l11 hbQ HS3 o3
    go_loopw [17] (fun i wr => ∃ (t : Nat) (tg : Nat → Nat) (ts : Nat → Value), t ≤ n ∧ i = .int .i64 t ∧ Hid (Mg 3 67 65 tg wr w3.heap.size g9 n ts (fun q => if q < t then gJ q true 6 else [])) ∧ Hid (Kc tCall w5 wr) ∧ Below w.heap.size w wr) (fun i _ => n - (intOf i).toNat)
    case atStart => exact ⟨0, _, _, Nat.zero_le _, rfl, (by have := HMg5.out; show Mg _ _ _ _ _ _ _ _ _ _; rw [show (fun q => if q < 0 then gJ q true 6 else []) = fun _ => ([] : List Cl) by funext q; simp]; exact this), Kc.refl _ _, HBw.out⟩
    case round =>
      obtain ⟨t, tg, ts, ht, rfl, HMg, HK, hbel⟩ := hrel
      have hszr := hbel.size
      by_cases htn : t < n
      · have HMg0 : Hid (Mg 3 67 65 tg wr w3.heap.size g9 n ts (fun q => if q < t then gJ q true 6 else if q = t then gJ t true 0 else [])) := HMg.out.congr (fun i hi => by simp [gJ])
        have HKo := HK
        have hbelo := Lib.hid hbel
        clear HMg HK hbel
        go_wp2
        go_loopw [18] (fun i wr => ∃ (j : Nat) (tg : Nat → Nat) (ts : Nat → Value), j ≤ 6 ∧ i = .int .i64 j ∧ Hid (Mg 3 67 65 tg wr w3.heap.size g9 n ts (fun q => if q < t then gJ q true 6 else if q = t then gJ t true j else [])) ∧ Hid (Kc tCall w5 wr) ∧ Below w.heap.size w wr) (fun i _ => 6 - (intOf i).toNat)
        case atStart => exact ⟨0, tg, ts, Nat.zero_le _, rfl, HMg0.out, HKo.out, hbelo.out⟩
        case round =>
          clear HMg0 HKo hbelo hszr
          obtain ⟨j, tg, ts, hjf, rfl, HMg, HK, hbel⟩ := hrel
          have hszr := hbel.size
          by_cases hjt : j < 6
          · have BM0 := Lib.hid (HS5.out.2.2.2.2.2.1.kc HK.out tCall_mach)
            obtain ⟨T0, hT0⟩ : ∃ T0 : Nat → List Cl, T0 = (fun q => if q < t then gJ q true 6 else if q = t then gJ t true j else []) := ⟨_, rfl⟩
            obtain ⟨L0, hL0⟩ : ∃ L0, L0 = gJ t true j := ⟨_, rfl⟩
            obtain ⟨J, hJ⟩ : ∃ J, J = L0.length := ⟨_, rfl⟩
            have hJ18 : J ≤ 18 := by rw [hJ, hL0, gJ_len]; omega
            have HT0 : Hid (T0 t = L0) := by show _ = _; rw [hT0, hL0]; simp
            have HJ0 : Hid (L0.length = J) := hJ.symm
            rw [← hT0] at HMg
            have HTT := Lib.hid hT0
            have HLL := Lib.hid hL0
            clear hT0 hL0 hJ
            have e1 : decide ((t : Int) < (n : Int)) = true := by simp; omega
            go_wp2
            obtain ⟨W0, hW0⟩ : ∃ W0, W0 = (((wr.alloc (Obj.cells #[.int .i64 0, .slice (some ⟨wr.heap.size + 1 + 1, 0, none⟩) 1 1] 67)).alloc (Obj.cells #[.int .i64 1, .slice (some ⟨wr.heap.size + 1 + 1 + 1, 0, none⟩) 1 1] 67)).alloc (Obj.cells #[.int .i64 (t : Int)] 3)).alloc (Obj.cells #[.int .i64 (t : Int)] 3) := ⟨_, rfl⟩
            rw [← hW0]
            have hbl0 : Below wr.heap.size wr W0 := by
              rw [hW0]
              exact ((((Below.refl wr.heap.size wr).alloc (Nat.le_refl _) _).alloc (by simp) _).alloc (by simp; omega) _).alloc (by simp; omega) _
            have bx : Box W0 wr.heap.size 67 [.int .i64 0, .slice (some ⟨wr.heap.size + 1 + 1, 0, none⟩) 1 1] := by rw [hW0]; exact (((Box.newAt wr _ _ _ rfl).alloc _).alloc _).alloc _
            have by_ : Box W0 (wr.heap.size + 1) 67 [.int .i64 1, .slice (some ⟨wr.heap.size + 1 + 1 + 1, 0, none⟩) 1 1] := by rw [hW0]; exact ((Box.newAt (wr.alloc _) _ _ _ (by simp)).alloc _).alloc _
            have bl : Box W0 (wr.heap.size + 1 + 1) 3 [.int .i64 (t : Int)] := by rw [hW0]; exact (Box.newAt ((wr.alloc _).alloc _) _ _ _ (by simp)).alloc _
            have bm : Box W0 (wr.heap.size + 1 + 1 + 1) 3 [.int .i64 (t : Int)] := by rw [hW0]; exact Box.newAt (((wr.alloc _).alloc _).alloc _) _ _ _ (by simp)
            have HEA : Hid (∀ (i : Nat) r x, ([[.int .i64 0, .slice (some ⟨wr.heap.size + 1 + 1, 0, none⟩) 1 1], [.int .i64 2, .slice none 0 0], [.int .i64 1, .slice (some ⟨wr.heap.size + 1 + 1 + 1, 0, none⟩) 1 1]] : List (List Value))[i]? = some r → ([⟨0, [(t : Int)]⟩, ⟨2, []⟩, ⟨1, [(t : Int)]⟩] : List Cl)[i]? = some x → eA 3 W0 r x) := by
              intro i r x hr hx
              match i with
              | 0 => simp at hr hx; subst hr hx; exact ⟨_, 1, 1, rfl, Nat.le_refl _, QT.box (s := 1) (n := 1) bl rfl⟩
              | 1 => simp at hr hx; subst hr hx; exact ⟨none, 0, 0, rfl, Nat.le_refl _, QT.nil _ _ _ _⟩
              | 2 => simp at hr hx; subst hr hx; exact ⟨_, 1, 1, rfl, Nat.le_refl _, QT.box (s := 1) (n := 1) bm rfl⟩
              | i + 3 => simp at hr
            have k0 : W0.cell? ⟨wr.heap.size, 0, none⟩ = _ := bx.cell 0
            have k1 : W0.cell? ⟨wr.heap.size, 1, none⟩ = _ := bx.cell 1
            have k2 : W0.cell? ⟨wr.heap.size + 1, 0, none⟩ = _ := by_.cell 0
            have k3 : W0.cell? ⟨wr.heap.size + 1, 1, none⟩ = _ := by_.cell 1
            simp only [List.getElem?_cons_zero, List.getElem?_cons_succ] at k0 k1 k2 k3
            have lx := bx.lt
            have ly := by_.lt
            have HMg0 := Lib.hid (HMg.out.below hbl0)
            have HK0 := Lib.hid (HK.out.trans (Kc.below (T := tCall) hbl0))
            have hbel0 := hbel.trans (hbl0.mono hszr)
            have BM := Lib.hid (BM0.out.kc (Kc.below (T := tCall) hbl0) tCall_mach)
            have hszr0 := hbel0.size
            have hB9 := HL9.out
            clear hW0 hbl0 bx by_ bl bm HMg HK hbel
            obtain ⟨rows1, r1, r2, r3, r4⟩ := HMg0.out.row t htn
            have r3q := r3
            rw [HT0.out, HJ0.out] at r3q
            obtain ⟨Aq1, cq1, hts, hlq⟩ := own_form r3q
            have z2 : W0.cell? ⟨g11, 2, none⟩ = _ := BM.out.cell 2
            have y0 : W0.cell? ⟨g9, t, none⟩ = some (.slice Aq1 J cq1) := by
              have := HMg0.out.thr.cell t
              rw [range_at _ htn, hts] at this
              exact this
            have l6 := HMg0.out.thr.lt
            have lM := BM.out.lt
            have g0 := HMg0.out.thr.frozen t
            have HTS1 := Lib.hid hts
            have R11 := Lib.hid r1
            have R21 := Lib.hid r2
            have R31 := Lib.hid r3
            have R3q1 := Lib.hid r3q
            have R41 := Lib.hid r4
            simp only [List.getElem?_cons_zero, List.getElem?_cons_succ] at z2
            clear hts r1 r2 r3 r4 r3q
            go_wp2
            refine region_firstG (Kc tCall) (gok_kc tCall) [0, 1] [2, 3, 4, 5, 6, 7, 8, 9, 10] (.cons 0 (.cons 1 (.cons 11 (.cons 12 (seq [13] (.cons 14 .nil)))))) (by kernel_rfl) (by kernel_rfl) ?_
            simp only [pick, List.map_cons, List.map_nil, List.getD_cons_zero, List.getD_cons_succ]
            go_wp2
            refine ord_blindG (.pointer (some ⟨g11, 2, none⟩)) (by kernel_rfl) ?_ ?_
            · intro w' _
              simp only [List.getD_cons_zero, List.getD_cons_succ]
              go_simp
            refine ord_blindG (.slice (some ⟨g9, 0, none⟩) n n) (by kernel_rfl) ?_ ?_
            · intro w' hk
              have zz := (Box.kc (w := W0.drew) BM.out hk tCall_mach).cell 2
              simp only [List.getElem?_cons_zero, List.getElem?_cons_succ] at zz
              simp only [List.getD_cons_zero, List.getD_cons_succ]
              go_simp
            refine ord_callG (by kernel_rfl) ?_
            simp only [pick, List.map_cons, List.map_nil, List.getD_cons_zero, List.getD_cons_succ]
            go_wp2
            refine ⟨ext_below ((Below.refl _ _).alloc (Nat.le_refl _) _), ?_⟩
            have HMl1 := HMg0
            have HR3q1 := R3q1
            have RL1 := Lib.hid (HR3q1.out.alloc (.cells #[.int .i64 0, .slice (some ⟨wr.heap.size + 1 + 1, 0, none⟩) 1 1, .int .i64 2, .slice none 0 0, .int .i64 1, .slice (some ⟨wr.heap.size + 1 + 1 + 1, 0, none⟩) 1 1] 67))
            rw [HTS1.out] at RL1
            refine ord_finG (by kernel_rfl) ?_
            simp only [pick, List.map_cons, List.map_nil, List.getD_cons_zero, List.getD_cons_succ]
            go_wp2_with (at_builtin; go_must (refine app_litBd eltCall W0 rfl (.tmp 67) (.tmp 71) rfl (w3.heap.size) _ J rows1.flatten rfl (by rw [← HTS1.out]; exact HR3q1.out) 3 [.int .i64 0, .slice (some ⟨wr.heap.size + 1 + 1, 0, none⟩) 1 1, .int .i64 2, .slice none 0 0, .int .i64 1, .slice (some ⟨wr.heap.size + 1 + 1 + 1, 0, none⟩) 1 1] W0.heap.size (by first | rfl | simp) rfl rfl (by intro u hu; simp only [List.mem_cons, List.not_mem_nil, or_false] at hu; rcases hu with rfl | rfl | rfl | rfl | rfl | rfl <;> rfl) (by omega) (by omega) (by first | omega | (simp; omega)) ?_); intro v8 w8 own8 g8 hv8)
            obtain ⟨A81, c81, rfl, hc8⟩ := own_form own8
            have hK8 : Kc tCall (W0.alloc (.cells #[.int .i64 0, .slice (some ⟨wr.heap.size + 1 + 1, 0, none⟩) 1 1, .int .i64 2, .slice none 0 0, .int .i64 1, .slice (some ⟨wr.heap.size + 1 + 1 + 1, 0, none⟩) 1 1] 67)).drew w8 := Kc.grown ⟨g8.os, g8.tape, g8.output, g8.size, g8.block⟩ (fun b cs t fr he hh => .inl (own_same RL1.out he hh))
            have hne6 := Box.ne (HMl1.out.thr.alloc (.cells #[.int .i64 0, .slice (some ⟨wr.heap.size + 1 + 1, 0, none⟩) 1 1, .int .i64 2, .slice none 0 0, .int .i64 1, .slice (some ⟨wr.heap.size + 1 + 1 + 1, 0, none⟩) 1 1] 67)) RL1.out (by decide)
            have b68 := (HMl1.out.thr.alloc (.cells #[.int .i64 0, .slice (some ⟨wr.heap.size + 1 + 1, 0, none⟩) 1 1, .int .i64 2, .slice none 0 0, .int .i64 1, .slice (some ⟨wr.heap.size + 1 + 1 + 1, 0, none⟩) 1 1] 67)).grown g8 hne6
            obtain ⟨tg1, hMg', hKc', hBel'⟩ := HMl1.out.calls (q := t) (rs := [[.int .i64 0, .slice (some ⟨wr.heap.size + 1 + 1, 0, none⟩) 1 1], [.int .i64 2, .slice none 0 0], [.int .i64 1, .slice (some ⟨wr.heap.size + 1 + 1 + 1, 0, none⟩) 1 1]]) (cs := [⟨0, [(t : Int)]⟩, ⟨2, []⟩, ⟨1, [(t : Int)]⟩]) htn ⟨by decide, by decide, by decide⟩ (rows := rows1) R11.out R21.out R41.out R31.out rfl (by simp) HEA.out (by exact own8) (by rw [HT0.out, HJ0.out]; rfl) (by rw [HTS1.out]; exact g8) (by rw [HTS1.out]; exact hv8)
            have HMg' := Lib.hid hMg'
            have HKc' := Lib.hid hKc'
            have hbel1a := hbel0
            have HBel' := Lib.hid (hBel' w w.heap.size (by have := HSZ.out; omega) (by first | omega | (simp; omega)) hbel1a)
            have y8 : w8.cell? ⟨g9, t, none⟩ = some (.slice Aq1 J cq1) := by
              have := b68.cell t
              rw [range_at _ htn, HTS1.out] at this
              exact this
            have f8 := b68.frozen t
            have H68 := Lib.hid b68
            clear hMg' hKc' hBel' b68 own8 g8 hv8 hne6 z2 y0 g0
            refine ⟨hK8, ?_⟩
            refine ord_moreG [13] _ (by kernel_rfl) ?_
            simp only [pick, List.map_cons, List.map_nil, List.getD_cons_zero, List.getD_cons_succ]
            go_wp2
            refine ord_finG (by kernel_rfl) ?_
            simp only [pick, List.map_cons, List.map_nil, List.getD_cons_zero, List.getD_cons_succ]
            go_wp2
            have hK9 : Kc tCall w8 (w8.setCell ⟨g9, t, none⟩ (.slice A81 (J + 3) c81)) := Kc.grown (grown_setCell w8 ⟨g9, t, none⟩ _) (fun b cs t fr he hh => by
              injection he with he
              subst he
              have h6 := H68.out
              unfold Box at h6
              rw [h6] at hh
              injection hh with hh
              injection hh with _ hh
              exact .inr hh.symm)
            refine ⟨hK9, ord_doneG ?_⟩
            obtain ⟨W1, hW1⟩ : ∃ W, W = w8.setCell ⟨g9, t, none⟩ (.slice A81 (J + 3) c81) := ⟨_, rfl⟩
            rw [← hW1]
            have HMg1 := HMg'
            have HK1 := Lib.hid (HK0.out.trans HKc'.out)
            have hbel1 := HBel'.out
            rw [← hW1] at HMg1 HK1 hbel1
            clear HMg' HKc' HBel' hK9 H68 y8 f8 hK8 hW1 R11 R21 R31 R3q1 R41 RL1 HTS1 HMl1 HR3q1
            go_wp2
            go_roundw
            case rel =>
              have h9 := HMg1.out.congr (T' := fun q => if q < t then gJ q true 6 else if q = t then gJ t true (j + 1) else []) (fun i hi => by
                by_cases hit : i = t
                · subst hit
                  rw [if_pos rfl, HT0.out, if_neg (by omega), if_pos rfl, gJ_succ, HLL.out]
                  rfl
                · rw [if_neg hit, HTT.out]
                  simp [hit])
              exact ⟨j + 1, tg1, _, by omega, by go_num, h9, HK1.out, hbel1⟩
            case measure => simp [intOf]; omega
          · obtain rfl : j = 6 := by omega
            have HMg1 : Hid (Mg 3 67 65 tg wr w3.heap.size g9 n ts (fun q => if q < t + 1 then gJ q true 6 else [])) := HMg.out.congr (fun i hi => by
              rcases Nat.lt_trichotomy i t with h | h | h
              · rw [if_pos h, if_pos (by omega)]
              · subst h; rw [if_neg (by omega), if_pos rfl, if_pos (by omega)]
              · rw [if_neg (by omega), if_neg (by omega), if_neg (by omega)])
            clear HMg
            go_wp2
            go_roundw
            case rel => exact ⟨t + 1, tg, ts, by omega, by go_num, HMg1.out, HK.out, hbel⟩
            case measure => simp [intOf]; omega
      · obtain rfl : n = t := by omega
        have HMg1 : Hid (Mg 3 67 65 tg wr w3.heap.size g9 n ts (fun q => gJ q true 6)) := HMg.out.congr (fun i hi => by rw [if_pos hi])
        have hnw := HNW.out
        clear HNW HMg5
        subst hnw
        have bM := HS5.out.2.2.2.2.2.1.kc HK.out tCall_mach
        have bR := HS5.out.2.2.2.2.2.2.kc HK.out tCall_mach
        have HIM := Lib.hid (guard_inM HGU.out h1 h4 (own_kc HS5.out.1 HK.out tCall_int) (HS5.out.2.1.kc HK.out tCall_op) (HS5.out.2.2.1.kc HK.out tCall_op) (HS5.out.2.2.2.1.kc HK.out tCall_op) (HS5.out.2.2.2.2.1.kc HK.out tCall_code) HMg1.out hlp hlg)
        have hTr := HT.out.below hbel HT.out.lt
        have z0 : wr.cell? ⟨g11, 0, none⟩ = _ := bM.cell 0
        have z1 : wr.cell? ⟨g11, 1, none⟩ = _ := bM.cell 1
        have z2 : wr.cell? ⟨g11, 2, none⟩ = _ := bM.cell 2
        simp only [List.getElem?_cons_zero, List.getElem?_cons_succ] at z0 z1 z2
        have lM := bM.lt
        have lR9 := bR.lt
        clear HMg
        go_wp2
        refine region_first [0, 1, 2, 3, 4, 5, 6, 7, 8, 9, 10, 11, 12, 13, 14, 15, 16, 17, 18] (.cons 19 (seq [20, 21, 22] .nil)) (by kernel_rfl) (by kernel_rfl) ?_
        simp only [pick, List.map_cons, List.map_nil, List.getD_cons_zero, List.getD_cons_succ]
        go_wp2
        refine ord_call (by kernel_rfl) ?_
        simp only [pick, List.map_cons, List.map_nil, List.getD_cons_zero, List.getD_cons_succ]
        go_wp2_with fail
        refine (HM.out wr.drew (hTr.below (Below.refl _ _).drew hTr.lt) A33 _ c33 (some ⟨g7, 0, none⟩) 3 3 (some ⟨g9, 0, none⟩) n n (mGuard ws ci co n true) true (HIM.out.below (Below.refl _ _).drew) (by simp; exact guard_ok HGU.out h4)).mono ?_
        rintro e w9 ⟨rfl, hb9⟩
        have hx9 := ext_below hb9
        replace hb9 : Below wr.heap.size wr w9 := hb9.undrew
        have hbel9 := hbel.trans (hb9.mono hszr)
        have bR9 := bR.below hb9 lR9
        have x0 : w9.cell? ⟨w.heap.size, 0, none⟩ = _ := bR9.cell 0
        have x1 : w9.cell? ⟨w.heap.size, 1, none⟩ = _ := bR9.cell 1
        have x2 : w9.cell? ⟨w.heap.size, 2, none⟩ = _ := bR9.cell 2
        have f0 := bR9.frozen 0
        have f1 := bR9.frozen 1
        have f2 := bR9.frozen 2
        simp only [List.getElem?_cons_zero, List.getElem?_cons_succ] at x0 x1 x2
        go_wp2
        refine ord_last [20, 21, 22] (by kernel_rfl) ?_
        simp only [pick, List.map_cons, List.map_nil, List.getD_cons_zero, List.getD_cons_succ]
        go_wp2
        refine bodyPost_ret (results_row_tmp rfl _ _ w.heap.size _ _ _ _ rfl (by exact bR9.three _ _ _) Tryd.underlying36 rfl (by kernel_rfl)) rfl ?_
        have hun : Un (fun k => k = w.heap.size) w9 (((w9.setCell ⟨w.heap.size, 0, none⟩ (.slice A33 (ws.length + 1) c33)).setCell ⟨w.heap.size, 1, none⟩ (.slice (some ⟨g7, 0, none⟩) 3 3)).setCell ⟨w.heap.size, 2, none⟩ (.slice (some ⟨g9, 0, none⟩) n n)) :=
          un_at (X := fun k => k = w.heap.size) (un_at (X := fun k => k = w.heap.size) (un_at (X := fun k => k = w.heap.size) (Un.refl _ _) rfl _ _) rfl _ _) rfl _ _
        have hty : ∀ b cs t fr, b = w.heap.size → w9.heap[b]? = some (.cells cs t fr) → t = 36 := fun b cs t fr hb hh => by
          subst hb
          have h6 := bR9
          unfold Box at h6
          rw [h6] at hh
          injection hh with hh
          injection hh with _ hh
          exact hh.symm
        have k9 := Kc.trans (Kc.below (T := fun t => t = 36) hb9) (Kc.un hun hty)
        refine ⟨A33, _, c33, _, _, _, _, _, _, rfl, guard_inM HGU.out h1 h4 (own_kc (own_kc HS5.out.1 HK.out tCall_int) k9 (by decide)) ((HS5.out.2.1.kc HK.out tCall_op).kc k9 (by decide)) ((HS5.out.2.2.1.kc HK.out tCall_op).kc k9 (by decide)) ((HS5.out.2.2.2.1.kc HK.out tCall_op).kc k9 (by decide)) ((HS5.out.2.2.2.2.1.kc HK.out tCall_code).kc k9 (by decide))
          ((HMg1.out.below hb9).un hun (fun b cs t fr hb hh => by rw [hty b cs t fr hb hh]; decide)) hlp hlg, ?_⟩
        exact below_at (below_at (below_at hbel9 (Nat.le_refl _) _ _) (Nat.le_refl _) _ _) (Nat.le_refl _) _ _
end Go.Proofs.YtfpokjhalbbeeaaDoor
