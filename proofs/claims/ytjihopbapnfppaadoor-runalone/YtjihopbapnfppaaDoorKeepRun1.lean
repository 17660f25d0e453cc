/- What the statements on run have in common: a schedule as it is drawn, equal events, a run that is known. No statement of the seat is proved here; no condition. -/
import Derived.Test.YtjihopbapnfppaaDoorRunSpec
import Derived.Test.YtjihopbapnfppaaDoorSameIntsK
set_option linter.unusedSimpArgs false
set_option linter.unusedVariables false
namespace Go.Proofs.YtjihopbapnfppaaDoor
open Go.RowKit Go.Ord Go.Baro

theorem eltIntS : Elt Tryd.prog 24 3 (.int .i64 0) 1 8 := Elt.mk' Tryd.underlying24 (by kernel_rfl) rfl (by decide)
/-- The schedule that is drawn. -/
def schL (l : List Int) : List Int := (l.take 400).map (· % 3)
theorem schL_len (l : List Int) : (schL l).length = min l.length 400 := by simp [schL, Nat.min_comm]
theorem schL_in {l : List Int} {x : Int} (h : x ∈ schL l) : 0 ≤ x ∧ x < 3 := by
  obtain ⟨y, _, rfl⟩ := List.mem_map.1 h
  omega
theorem mod_three {x : Int} (h : 0 ≤ x ∧ x < 256) : x.tmod 3 = x % 3 := by rw [Int.tmod_eq_emod_of_nonneg h.1]

set_option maxRecDepth 100000 in
set_option maxHeartbeats 2000000 in
theorem keep_Schedule (l : List Int) (A : Option Addr) (n c : Nat) (w : World) (hb : RI w w.heap.size .u8 A n l) (hn : n ≤ 140737488355328) (hr : ∀ x ∈ l, 0 ≤ x ∧ x < 256) :
    Calls Tryd.prog 31 #[.slice A n c, .int .i64 3, .int .i64 400] w fun e w' => ∃ A' n' c', e = .returned (.slice A' n' c') ∧ RI w' w'.heap.size .i64 A' n' (schL l) ∧ n' ≤ c' ∧ n' ≤ 400 ∧ Below w.heap.size w w' := by
  have HL := Lib.hid hb.len
  have HR := Lib.hid hr
  clear hr
  go_enter Tryd.func31, Tryd.ntmps31
  go_wp2
  go_loopw [7, 8] (fun v i wr => ∃ j : Nat, j ≤ n ∧ j ≤ 400 ∧ i = .int .i64 j ∧ wr.ownsRow w.heap.size 3 1 v j (((l.take j).map (· % 3)).map (Value.int .i64)) ∧ Below w.heap.size w wr) (fun _ i _ => 400 - (intOf i).toNat)
  case atStart => exact ⟨0, Nat.zero_le _, by omega, rfl, World.ownsRow_nil _ _ _ _, Below.refl _ _⟩
  case round =>
    obtain ⟨j, hj, hj4, rfl, hown, hbel⟩ := hrel
    have hsz := hbel.size
    obtain ⟨A', c', rfl, hlc⟩ := own_form hown
    have fin : j = n ∨ j = 400 → RI wr wr.heap.size .i64 A' j (schL l) := by
      intro h
      have := Rd.of_own hown
      have e : schL l = (l.take j).map (· % 3) := by
        unfold schL
        rcases h with h | h
        · rw [List.take_of_length_le (l := l) (i := j) (by rw [HL.out]; omega), List.take_of_length_le (l := l) (i := 400) (by rw [HL.out]; omega)]
        · rw [h]
      rw [e]
      exact this
    by_cases h1 : j < n
    · by_cases h2 : j < 400
      · clear fin
        obtain ⟨b, o, x, rfl, hbB, hcell, HX, hmem⟩ := (hb.below hbel).val h1
        obtain ⟨hx0, hx1⟩ := HR.out x hmem
        have ht := mod_three ⟨hx0, hx1⟩
        have HMem := Lib.hid hmem
        obtain ⟨y, hy⟩ : ∃ y, y = x % 3 := ⟨_, rfl⟩
        have hy0 : 0 ≤ y ∧ y < 3 := by omega
        rw [← hy] at ht
        have HY := Lib.hid hy
        clear hmem hy
        go_wp2_with (at_builtin; go_must (refine app_lit eltIntS wr rfl _ _ rfl w.heap.size _ j _ rfl (by exact hown) 1 [.int .i64 y] wr.heap.size rfl rfl rfl (one_ints _ [y]) (by omega) (by omega) hsz ?_); intro v3 w3 hown3 hgr3 hbel3 _)
        go_roundw
        case rel =>
          refine ⟨j + 1, by omega, by omega, by go_num, ?_, hbel3 _ hbel⟩
          rw [at_take HX.out, List.map_append, List.map_append, List.map_singleton, List.map_singleton, ← HY.out]
          exact hown3
        case measure => simp [intOf]; omega
      · have HF := Lib.hid (fin (.inr (by omega)))
        clear fin hown
        go_wp2
        go_ret
        exact ⟨A', j, c', rfl, HF.out, hlc, by omega, hbel⟩
    · obtain rfl : n = j := by omega
      have HF := Lib.hid (fin (.inl rfl))
      clear fin hown
      go_wp2
      go_ret
      exact ⟨A', n, c', rfl, HF.out, hlc, by omega, hbel⟩
/-- An event as a value. -/
def evV (x : Ev) (v : Value) : Value := .agg #[.int .i64 x.st, .int .i64 x.th, .int .i64 x.cl, .bool x.en, .int .i64 x.er, v]
set_option maxHeartbeats 2000000 in
theorem keep_sameEvent (w : World) (st th cl : Int) (en : Bool) (er : Int) (to : List Int) (A A' : Option Addr) (n c n' c' : Nat) (h : RI w w.heap.size .i64 A n to) (h' : RI w w.heap.size .i64 A' n' to) (hn : n ≤ 200) (hn' : n' ≤ 200) :
    Calls Tryd.prog 33 #[.agg #[.int .i64 st, .int .i64 th, .int .i64 cl, .bool en, .int .i64 er, .slice A n c], .agg #[.int .i64 st, .int .i64 th, .int .i64 cl, .bool en, .int .i64 er, .slice A' n' c']] w
      fun e w' => e = .returned (.bool true) ∧ Below w.heap.size w w' := by
  have hb := ((Below.refl w.heap.size w).alloc (Nat.le_refl _) (Obj.cells #[.int .i64 st, .int .i64 th, .int .i64 cl, .bool en, .int .i64 er, .slice A n c] 51)).alloc (by simp) (Obj.cells #[.int .i64 st, .int .i64 th, .int .i64 cl, .bool en, .int .i64 er, .slice A' n' c'] 51)
  have h2 := h.below hb
  have h2' := h'.below hb
  go_enter Tryd.func33, Tryd.ntmps33
  go_wp2_with fail
  refine (keep_sameInts to to A A' n c n' c' _ w.heap.size w.heap.size true h2 h2' (by simp) (by omega) (by omega)).mono ?_
  rintro e w1 ⟨rfl, k1, rfl⟩
  go_wp2
  go_ret
  exact ⟨by first | rfl | simp, hb.drewN _⟩

/-- A slice that lies in a block of its own. -/
theorem Rd.box {w : World} {b s n : Nat} {t : TypeId} {cs : List Value} (h : Box w b t cs) (hl : cs.length = n * s) : Rd w w.heap.size s (some ⟨b, 0, none⟩) n cs :=
  ⟨hl, fun _ => ⟨b, 0, rfl, h.lt, fun j _ => by rw [Nat.zero_add]; exact h.cell j⟩⟩
theorem rg_box {α : Type} {s : Nat} {R : World → Nat → List Value → α → Prop} {w : World} {b n : Nat} {t : TypeId} {rows : List (List Value)} {ls : List α} (h : Box w b t rows.flatten) (h1 : rows.length = ls.length) (hn : ls.length = n) (h2 : ∀ r ∈ rows, r.length = s)
    (h3 : ∀ (i : Nat) r x, rows[i]? = some r → ls[i]? = some x → R w w.heap.size r x) : RG s R w w.heap.size (some ⟨b, 0, none⟩) n ls :=
  ⟨rows, h1, h2, Rd.box h (by rw [flat_len h2, h1, hn]), h3⟩
/-- The run that is known. -/
def mS : Mc := ⟨[4], [[⟨14, 0, 1, 0, 0⟩]], [[⟨0, [9]⟩]]⟩
theorem sure_play : PlR mS [0] [⟨0, 0, 0, false, 0, []⟩, ⟨0, 0, 0, true, 0, []⟩] [9] 0 := by
  refine .inr (.inr (.inr ⟨⟨by decide, by decide, by decide, ?_, ?_⟩, by decide, by simp [mS], ?_, ?_, rfl⟩))
  · intro c hc
    simp only [mS, List.mem_singleton] at hc
    subst hc
    decide
  · intro t ht
    simp only [mS, List.mem_singleton] at ht
    subst ht
    refine ⟨by decide, fun c hc => ?_⟩
    simp only [List.mem_singleton] at hc
    subst hc
    exact ⟨by simp [mS], by decide⟩
  · kernel_rfl
  · kernel_rfl

theorem one_at {α : Type} {a b : α} {i : Nat} (h : [a][i]? = some b) : i = 0 ∧ b = a := by
  cases i with
  | zero => exact ⟨rfl, by simpa using h.symm⟩
  | succ i => simp at h
/-- The machine of the run that is known, and its schedule. -/
theorem sure_mem (w wF : World) (hF : wF = (((((((w.alloc (Obj.cells #[.int .i64 4] 3)).alloc (Obj.cells #[.int .i64 14, .int .i64 0, .int .i64 1, .int .i64 0, .int .i64 0] 37)).alloc (Obj.cells #[.slice (some ⟨w.heap.size + 1, 0, none⟩) 1 1] 22)).alloc (Obj.cells #[.int .i64 9] 3)).alloc (Obj.cells #[.int .i64 0, .slice (some ⟨w.heap.size + 1 + 1 + 1, 0, none⟩) 1 1] 60)).alloc (Obj.cells #[.slice (some ⟨w.heap.size + 1 + 1 + 1 + 1, 0, none⟩) 1 1] 58)).alloc (Obj.cells #[.int .i64 0] 3))) :
    InM wF (some ⟨w.heap.size, 0, none⟩) 1 1 (some ⟨w.heap.size + 1 + 1, 0, none⟩) 1 1 (some ⟨w.heap.size + 1 + 1 + 1 + 1 + 1, 0, none⟩) 1 1 mS ∧ RI wF wF.heap.size .i64 (some ⟨w.heap.size + 1 + 1 + 1 + 1 + 1 + 1, 0, none⟩) 1 [0] ∧ Below w.heap.size w wF := by
  have b0 : Box wF w.heap.size 3 [.int .i64 4] := by rw [hF]; exact ((((((Box.newAt w _ _ _ rfl).alloc _).alloc _).alloc _).alloc _).alloc _).alloc _
  have b1 : Box wF (w.heap.size + 1) 37 [.int .i64 14, .int .i64 0, .int .i64 1, .int .i64 0, .int .i64 0] := by rw [hF]; exact (((((Box.newAt (w.alloc _) _ _ _ (by simp)).alloc _).alloc _).alloc _).alloc _).alloc _
  have b2 : Box wF (w.heap.size + 1 + 1) 22 [.slice (some ⟨w.heap.size + 1, 0, none⟩) 1 1] := by rw [hF]; exact ((((Box.newAt ((w.alloc _).alloc _) _ _ _ (by simp)).alloc _).alloc _).alloc _).alloc _
  have b3 : Box wF (w.heap.size + 1 + 1 + 1) 3 [.int .i64 9] := by rw [hF]; exact (((Box.newAt (((w.alloc _).alloc _).alloc _) _ _ _ (by simp)).alloc _).alloc _).alloc _
  have b4 : Box wF (w.heap.size + 1 + 1 + 1 + 1) 60 [.int .i64 0, .slice (some ⟨w.heap.size + 1 + 1 + 1, 0, none⟩) 1 1] := by rw [hF]; exact ((Box.newAt ((((w.alloc _).alloc _).alloc _).alloc _) _ _ _ (by simp)).alloc _).alloc _
  have b5 : Box wF (w.heap.size + 1 + 1 + 1 + 1 + 1) 58 [.slice (some ⟨w.heap.size + 1 + 1 + 1 + 1, 0, none⟩) 1 1] := by rw [hF]; exact (Box.newAt (((((w.alloc _).alloc _).alloc _).alloc _).alloc _) _ _ _ (by simp)).alloc _
  have b6 : Box wF (w.heap.size + 1 + 1 + 1 + 1 + 1 + 1) 3 [.int .i64 0] := by rw [hF]; exact Box.newAt ((((((w.alloc _).alloc _).alloc _).alloc _).alloc _).alloc _) _ _ _ (by simp)
  refine ⟨⟨Rd.box b0 rfl, ?_, ?_, ?_, ?_, ?_, by omega, by omega, by omega⟩, Rd.box b6 rfl, ?_⟩
  · refine rg_box (rows := [[.slice (some ⟨w.heap.size + 1, 0, none⟩) 1 1]]) b2 rfl rfl (by simp) fun i r x hr hx => ?_
    obtain ⟨_, rfl⟩ := one_at hr
    obtain ⟨_, rfl⟩ := one_at hx
    exact ⟨_, _, _, rfl, Nat.le_refl _, Rd.box b1 rfl⟩
  · refine rg_box (rows := [[.slice (some ⟨w.heap.size + 1 + 1 + 1 + 1, 0, none⟩) 1 1]]) b5 rfl rfl (by simp) fun i r x hr hx => ?_
    obtain ⟨_, rfl⟩ := one_at hr
    obtain ⟨_, rfl⟩ := one_at hx
    refine ⟨_, _, _, rfl, Nat.le_refl _, rg_box (rows := [[.int .i64 0, .slice (some ⟨w.heap.size + 1 + 1 + 1, 0, none⟩) 1 1]]) b4 rfl rfl (by simp) fun i r x hr hx => ?_⟩
    obtain ⟨_, rfl⟩ := one_at hr
    obtain ⟨_, rfl⟩ := one_at hx
    exact ⟨_, _, _, rfl, Nat.le_refl _, Rd.box b3 rfl⟩
  · intro x hx; simp only [mS, List.mem_singleton] at hx; subst hx; unfold inW; omega
  · intro c hc
    simp only [mS, List.mem_singleton] at hc
    subst hc
    refine ⟨by decide, fun o ho => ?_⟩
    simp only [List.mem_singleton] at ho
    subst ho
    unfold inI inW
    dsimp only
    omega
  · intro t ht
    simp only [mS, List.mem_singleton] at ht
    subst ht
    refine ⟨by decide, fun c hc => ?_⟩
    simp only [List.mem_singleton] at hc
    subst hc
    refine ⟨by unfold inW; dsimp only; omega, by decide, fun x hx => ?_⟩
    simp only [List.mem_singleton] at hx
    subst hx
    unfold inW
    omega
  · rw [hF]
    exact (((((((Below.refl w.heap.size w).alloc (by simp) _).alloc (by simp) _).alloc (by simp; omega) _).alloc (by simp; omega) _).alloc (by simp; omega) _).alloc (by simp; omega) _).alloc (by simp; omega) _

set_option maxHeartbeats 2000000 in
theorem keep_runSure (hP : PlaySpec) (w : World) (hT : Tab w) : Calls Tryd.prog 32 #[] w fun e w' => e = .returned (.bool true) ∧ Below w.heap.size w w' := by
  have HP := Lib.hid hP
  have HT := Lib.hid hT
  have hM := sure_mem w _ rfl
  have HM := Lib.hid hM
  clear hP hT hM
  go_enter Tryd.func32, Tryd.ntmps32
  go_wp2_with fail
  refine (HP.out _ (HT.out.below HM.out.2.2 HT.out.lt) _ 1 1 _ 1 1 _ 1 1 mS _ 1 1 [0] _ [9] 0 HM.out.1 HM.out.2.1 (by omega) sure_play).mono ?_
  rintro e w1 ⟨B1, m1, d1, B2, m2, d2, rfl, hr1, hr2, hl1, hl2, hm1, hm2, hb1⟩
  have hb2 := HM.out.2.2.trans (hb1.mono HM.out.2.2.size)
  obtain rfl : m1 = 2 := hr1.len.symm
  obtain rfl : m2 = 1 := hr2.len.symm
  obtain ⟨b, o, A5, n5, k5, x, rfl, hbB, q0, q1, q2, q3, q4, q5, hlk, hn5, hri, HX, hmem⟩ := hr1.val (i := 1) (by omega)
  have hx := HX.out
  simp only [List.getElem?_cons_succ, List.getElem?_cons_zero, Option.some.injEq] at hx
  subst hx
  dsimp only at q3
  rw [Nat.one_mul] at q3
  clear HX hmem q0 q1 q2 q4 q5 hri HM HP HT hb1
  have hB3 := (Below.refl w1.heap.size w1).alloc (Nat.le_refl _) (Obj.cells #[.int .i64 9] 3)
  go_wp2_with fail
  refine (keep_sameInts [9] [9] B2 _ 1 d2 1 1 _ w1.heap.size (w1.heap.size + 1) true (hr2.below hB3) (Rd.more (Rd.box (Box.newAt w1 3 [.int .i64 9] w1.heap.size rfl) rfl) (by simp)) (by simp) (by omega) (by omega)).mono ?_
  rintro e w2 ⟨rfl, k2, rfl⟩
  go_wp2
  go_ret
  exact ⟨by first | rfl | simp, hb2.trans ((hB3.mono hb2.size).drewN _)⟩
end Go.Proofs.YtjihopbapnfppaaDoor
