/- Fields that may be, out of raw numbers. No statement of the seat is proved here; no condition. -/
import Derived.Test.YtdkhnkmdnnddbaaBitsW
set_option linter.unusedSimpArgs false
set_option linter.unusedVariables false
namespace Go.Proofs.Ytdkhnkmdnnddbaa
open Go.RowKit Go.Ord Go.Baro

theorem eltField : Elt Try.prog 22 37 (.agg #[.int .i64 0, .int .i64 0]) 2 16 := Elt.mk' Try.underlying22 (by kernel_rfl) rfl (by decide)

theorem tmod_pick (a n : Int) (hn : 0 < n) : (if a.tmod n < 0 then a.tmod n + n else a.tmod n) = a % n := by
  have h1 := Int.tmod_eq_emod (a := a) (b := n)
  have h2 := Int.emod_nonneg a (show n ≠ 0 by omega)
  have h3 := Int.emod_lt_of_pos a hn
  rw [h1]
  split <;> split <;> omega

theorem keep_Picked (a n : Int) (w : World) (hn : 0 < n) (hn1 : n ≤ 4611686018427387904) :
    Calls Try.prog 15 #[.int .i64 a, .int .i64 n] w fun e w' => e = .returned (.int .i64 (a % n)) ∧ w = w' := by
  have HT := Lib.hid (tmod_pick a n hn)
  have hb1 : -n < a.tmod n := Int.lt_tmod_of_pos a hn
  have hb2 : a.tmod n < n := Int.tmod_lt_of_pos a hn
  have hne : (n == 0) = false := by simp; omega
  by_cases h : a.tmod n < 0
  · go_enter Try.func15, Try.ntmps15
    go_wp2
    go_ret
    refine ⟨ret_int ?_, rfl⟩
    have := HT.out
    rw [if_pos h] at this
    exact this
  · go_enter Try.func15, Try.ntmps15
    go_wp2
    go_ret
    refine ⟨ret_int ?_, rfl⟩
    have := HT.out
    rw [if_neg (by omega)] at this
    exact this

/-- The field that is made of a raw width and a raw value (if there is one). -/
def fld1 (x : Int) (v : Option Int) : Int × Int := (x % 61, if 0 < x % 61 then (v.map (· % 2 ^ (x % 61).toNat)).getD 0 else 0)
def fldsOf : List Int → List Int → List (Int × Int)
  | [], _ => []
  | x :: ws, vs => fld1 x vs.head? :: fldsOf ws vs.tail
theorem fldsOf_length (ws vs : List Int) : (fldsOf ws vs).length = ws.length := by
  induction ws generalizing vs with
  | nil => rfl
  | cons x ws ih => simp [fldsOf, ih]
theorem fldsOf_snoc (ws vs : List Int) (x : Int) : fldsOf (ws ++ [x]) vs = fldsOf ws vs ++ [fld1 x (vs[ws.length]?)] := by
  induction ws generalizing vs with
  | nil => cases vs <;> simp [fldsOf]
  | cons y ws ih =>
    rw [List.cons_append, fldsOf, ih, fldsOf, List.cons_append]
    cases vs <;> simp
theorem fld1_ok (x : Int) (v : Option Int) : okF (fld1 x v) := by
  unfold okF fld1
  dsimp only
  have h0 := Int.emod_nonneg x (show (61 : Int) ≠ 0 by decide)
  have h1 := Int.emod_lt_of_pos x (show (0 : Int) < 61 by decide)
  have hp : (0 : Int) < 2 ^ (x % 61).toNat := Int.pow_pos (by decide)
  refine ⟨⟨by omega, by omega⟩, ?_⟩
  split
  · cases v with
    | none => simp; exact hp
    | some y => simp only [Option.map_some, Option.getD_some]; exact ⟨Int.emod_nonneg _ (by omega), Int.emod_lt_of_pos _ hp⟩
  · exact ⟨by omega, hp⟩
theorem fldsOf_ok (ws vs : List Int) : ∀ f ∈ fldsOf ws vs, okF f := by
  induction ws generalizing vs with
  | nil => simp [fldsOf]
  | cons x ws ih =>
    intro f hf
    rcases List.mem_cons.1 hf with rfl | hf
    · exact fld1_ok _ _
    · exact ih _ f hf

/-- What FieldsOf leaves. -/
def FieldsPost (fs : List (Int × Int)) (w : World) (e : Ending) (w' : World) : Prop :=
  ∃ v1 v2, e = .returned (.tuple #[v1, v2]) ∧ w'.ownsRow w.heap.size 37 2 v1 fs.length (cellsF fs) ∧ w'.ownsRow w.heap.size 3 1 v2 fs.length ((fs.map (·.1)).map (Value.int .i64)) ∧ Below w.heap.size w w'

set_option maxHeartbeats 4000000 in
theorem keep_FieldsOf (ws vs : List Int) (A A' : Option Addr) (n c n' c' : Nat) (lim : Nat) (w : World) (hb : RI w w.heap.size .i64 A n ws) (hv : RI w w.heap.size .i64 A' n' vs) (hn : n ≤ 140737488355328) (hn' : n' ≤ 140737488355328) (hl : lim ≤ 100) :
    Calls Try.prog 14 #[.slice A n c, .slice A' n' c', .int .i64 lim] w (FieldsPost (fldsOf (ws.take lim) vs) w) := by
  have H := Lib.hid hb.len
  have HV := Lib.hid hv.len
  go_enter Try.func14, Try.ntmps14
  go_wp2
  go_loopw [8, 9, 10] (fun v1 v2 i wr => ∃ (j : Nat) (fs : List (Int × Int)), j ≤ n ∧ j ≤ lim ∧ i = .int .i64 j ∧ Hid (fs = fldsOf (ws.take j) vs) ∧ fs.length = j ∧ wr.ownsRow w.heap.size 37 2 v1 j (cellsF fs) ∧
      wr.ownsRow w.heap.size 3 1 v2 j ((fs.map (·.1)).map (Value.int .i64)) ∧ Below w.heap.size w wr) (fun _ _ i _ => lim - (intOf i).toNat)
  case atStart => exact ⟨0, [], Nat.zero_le _, Nat.zero_le _, rfl, rfl, rfl, World.ownsRow_nil _ _ _ _, World.ownsRow_nil _ _ _ _, Below.refl _ _⟩
  case round =>
    obtain ⟨j, fs, hj, hjl, rfl, HF, hfl, hown1, hown2, hbel⟩ := hrel
    have HFL := Lib.hid hfl
    clear hfl
    by_cases hlt : j < n ∧ j < lim
    · obtain ⟨hlt1, hlt2⟩ := hlt
      obtain ⟨b, o, x, rfl, hbb, hcx, HX, _⟩ := (hb.below hbel).val hlt1
      have hsz := hbel.size
      have hx0 := Int.emod_nonneg x (show (61 : Int) ≠ 0 by decide)
      have hx1 := Int.emod_lt_of_pos x (show (0 : Int) < 61 by decide)
      obtain ⟨wd, hwd⟩ := Int.eq_ofNat_of_zero_le hx0
      have HW := Lib.hid hwd
      have hwd60 : wd ≤ 60 := by omega
      clear hwd
      by_cases hval : j < n' ∧ 0 < wd
      · obtain ⟨hv1, hv2⟩ := hval
        obtain ⟨b', o', y, rfl, hbb', hcy, HY, _⟩ := (hv.below hbel).val hv1
        have hbw : b' < wr.heap.size := by omega
        have hp := pow_le (j := wd) (k := 60) (by omega)
        have hp0 : (0 : Int) < 2 ^ wd := Int.pow_pos (by decide)
        go_wp2_with (go_at_call 15; refine (keep_Picked _ _ _ (by omega) (by omega)).mono ?_; rintro e w' ⟨rfl, rfl⟩; rw [HW.out])
        refine region_first [0, 1, 2, 3, 4, 5] (.cons 6 (seq [7] (seq [8] .nil))) (by kernel_rfl) (by kernel_rfl) ?_
        simp only [pick, List.map_cons, List.map_nil, List.getD_cons_zero, List.getD_cons_succ]
        go_wp2
        refine ord_call (by kernel_rfl) ?_
        simp only [pick, List.map_cons, List.map_nil, List.getD_cons_zero, List.getD_cons_succ]
        go_wp2_with (go_at_call 15; refine (keep_Picked _ _ _ (by omega) (by omega)).mono ?_; rintro e w' ⟨rfl, rfl⟩)
        refine ord_more [7] _ (by kernel_rfl) ?_
        simp only [pick, List.map_cons, List.map_nil, List.getD_cons_zero, List.getD_cons_succ]
        go_wp2
        refine ord_last [8] (by kernel_rfl) ?_
        simp only [pick, List.map_cons, List.map_nil, List.getD_cons_zero, List.getD_cons_succ]
        go_wp2_with (first
          | (at_builtin; refine app_litd eltField (wr.alloc _) rfl (.tmp 47) (.tmp 49) rfl w.heap.size _ _ _ rfl (by exact hown1.alloc _) 1 [_, _] _ (by simp) rfl rfl (one2 _ _ _ _) (by omega) (by omega) (by simp; omega) ?_; intro v1' w1 hown1' hgr1 hbel1 hsz1; have hown2a := own_keep ((hown2.alloc _).alloc _) ((hown1.alloc _).alloc _) (by decide) hgr1)
          | (at_builtin; refine app_lit eltInt w1 rfl (.tmp 51) (.tmp 53) rfl w.heap.size _ _ _ rfl (by exact hown2a) 1 [_] _ rfl rfl rfl (one1 _ _) (by omega) (by omega) hsz1 ?_; intro v2' w2 hown2' hgr2 hbel2 hsz2; have hown1b := own_keep (hown1'.alloc _) (hown2a.alloc _) (by decide) hgr2))
        go_roundw
        case rel =>
          refine ⟨j + 1, fs ++ [(((wd : Nat) : Int), y % 2 ^ wd)], by omega, by omega, by go_num, ?_, by simp [HFL.out], ?_, ?_, hbel2 _ (hbel1 _ (hbel.alloc hsz _))⟩
          · show _ = _
            rw [at_take HX.out, fldsOf_snoc, ← HF.out, List.length_take, Nat.min_eq_left (by rw [H.out]; omega)]
            rw [HY.out, fld1, HW.out, if_pos (by omega)]; simp
          · rw [cellsF_append]; exact hown1b
          · rw [List.map_append, List.map_append]; exact hown2'
        case measure => simp [intOf]; omega
      · have hlast : fld1 x vs[j]? = (↑wd, 0) := by
          unfold fld1
          rw [HW.out]
          by_cases hw0 : 0 < wd
          · have : vs[j]? = none := List.getElem?_eq_none (by rw [HV.out]; omega)
            rw [this]; simp
          · rw [if_neg (by omega)]
        have HLAST := Lib.hid hlast
        clear hlast
        have hcase : (n' ≤ j) ∨ (j < n' ∧ wd = 0) := by omega
        clear hval
        rcases hcase with hv1 | ⟨hv1, rfl⟩
        · go_wp2_with (first
            | (go_at_call 15; refine (keep_Picked _ _ _ (by omega) (by omega)).mono ?_; rintro e w' ⟨rfl, rfl⟩; rw [HW.out])
            | (at_builtin; refine app_lit eltField (wr.alloc _) rfl (.tmp 47) (.tmp 49) rfl w.heap.size _ _ _ rfl (by exact hown1.alloc _) 1 [_, _] _ (by simp) rfl rfl (one2 _ _ _ _) (by omega) (by omega) (by simp; omega) ?_; intro v1' w1 hown1' hgr1 hbel1 hsz1; have hown2a := own_keep ((hown2.alloc _).alloc _) ((hown1.alloc _).alloc _) (by decide) hgr1)
            | (at_builtin; refine app_lit eltInt w1 rfl (.tmp 51) (.tmp 53) rfl w.heap.size _ _ _ rfl (by exact hown2a) 1 [_] _ rfl rfl rfl (one1 _ _) (by omega) (by omega) hsz1 ?_; intro v2' w2 hown2' hgr2 hbel2 hsz2; have hown1b := own_keep (hown1'.alloc _) (hown2a.alloc _) (by decide) hgr2))
          go_roundw
          case rel =>
            refine ⟨j + 1, fs ++ [(((wd : Nat) : Int), 0)], by omega, by omega, by go_num, ?_, by simp [HFL.out], ?_, ?_, hbel2 _ (hbel1 _ (hbel.alloc hsz _))⟩
            · show _ = _
              rw [at_take HX.out, fldsOf_snoc, ← HF.out, List.length_take, Nat.min_eq_left (by rw [H.out]; omega), HLAST.out]
              all_goals first | rfl | simp
            · rw [cellsF_append]; exact hown1b
            · rw [List.map_append, List.map_append]; exact hown2'
          case measure => simp [intOf]; omega
        · go_wp2_with (first
            | (go_at_call 15; refine (keep_Picked _ _ _ (by omega) (by omega)).mono ?_; rintro e w' ⟨rfl, rfl⟩; rw [HW.out])
            | (at_builtin; refine app_lit eltField (wr.alloc _) rfl (.tmp 47) (.tmp 49) rfl w.heap.size _ _ _ rfl (by exact hown1.alloc _) 1 [_, _] _ (by simp) rfl rfl (one2 _ _ _ _) (by omega) (by omega) (by simp; omega) ?_; intro v1' w1 hown1' hgr1 hbel1 hsz1; have hown2a := own_keep ((hown2.alloc _).alloc _) ((hown1.alloc _).alloc _) (by decide) hgr1)
            | (at_builtin; refine app_lit eltInt w1 rfl (.tmp 51) (.tmp 53) rfl w.heap.size _ _ _ rfl (by exact hown2a) 1 [_] _ rfl rfl rfl (one1 _ _) (by omega) (by omega) hsz1 ?_; intro v2' w2 hown2' hgr2 hbel2 hsz2; have hown1b := own_keep (hown1'.alloc _) (hown2a.alloc _) (by decide) hgr2))
          go_roundw
          case rel =>
            refine ⟨j + 1, fs ++ [(0, 0)], by omega, by omega, by go_num, ?_, by simp [HFL.out], ?_, ?_, hbel2 _ (hbel1 _ (hbel.alloc hsz _))⟩
            · show _ = _
              rw [at_take HX.out, fldsOf_snoc, ← HF.out, List.length_take, Nat.min_eq_left (by rw [H.out]; omega), HLAST.out]
              all_goals first | rfl | simp
            · rw [cellsF_append]; exact hown1b
            · rw [List.map_append, List.map_append]; exact hown2'
          case measure => simp [intOf]; omega
    · have hcase : n ≤ j ∨ (j < n ∧ lim ≤ j) := by omega
      clear hlt
      rcases hcase with h1 | ⟨h1, h2⟩
      · go_wp2
        go_ret2
        have ht : ws.take lim = ws.take j := by rw [List.take_of_length_le (by rw [H.out]; omega), List.take_of_length_le (by rw [H.out]; omega)]
        refine ⟨_, _, ret_two rfl rfl, ?_, ?_, hbel⟩
        · rw [ht, ← HF.out, HFL.out]; exact hown1
        · rw [ht, ← HF.out, HFL.out]; exact hown2
      · obtain rfl : j = lim := by omega
        go_wp2
        go_ret2
        refine ⟨_, _, ret_two rfl rfl, ?_, ?_, hbel⟩
        · rw [← HF.out, HFL.out]; exact hown1
        · rw [← HF.out, HFL.out]; exact hown2
end Go.Proofs.Ytdkhnkmdnnddbaa
