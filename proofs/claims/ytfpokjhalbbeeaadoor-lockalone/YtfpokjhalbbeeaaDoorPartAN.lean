/- Of this claim's own texts these, one behind the other: LibSp, KeepRan2, KeepLeaves, KeepSched, KeepPicked, KeepLockOneP. No statement of the seat is proved here; no condition but those that stand at the theorems. -/
import Derived.Test.YtfpokjhalbbeeaaDoorPartAK
import Derived.Test.YtfpokjhalbbeeaaDoorPartAC
import Derived.Test.YtfpokjhalbbeeaaDoorPartAL
import Derived.Test.YtfpokjhalbbeeaaDoorPartAI
import Derived.Test.YtfpokjhalbbeeaaDoorRows
import Derived.Test.YtfpokjhalbbeeaaDoorPartAM
set_option linter.unusedSimpArgs false
set_option linter.unusedVariables false
namespace Go.Baro
/-- Where the steps of a call end, in a schedule. -/
def spHi (s : List Int) (d : Dg) : Nat := if d.e = -1 then s.length else min s.length (d.e + 1).toNat
/-- How many steps a thread does in a call. -/
def spn (s : List Int) (d : Dg) : Nat := ((s.take (spHi s d)).drop d.b).count (d.th : Int)
theorem spn_step {s : List Int} {b j : Nat} {x : Int} (h : s[j]? = some x) (hb : b ≤ j) (t : Int) : ((s.take (j + 1)).drop b).count t = ((s.take j).drop b).count t + if x = t then 1 else 0 := by
  have hj := (List.getElem?_eq_some_iff.1 h).1
  rw [at_take h, List.drop_append_of_le_length (by simp; omega), List.count_append]
  simp [List.count_cons]

theorem sp_exit {s : List Int} {b j hi : Nat} {t : Int} {m : Nat} (hj : j ≤ hi ∨ j = b) (h : hi ≤ j) (hm : m = ((s.take j).drop b).count t) : m = ((s.take hi).drop b).count t := by
  rcases hj with hj | hj
  · obtain rfl : j = hi := by omega
    exact hm
  · subst hj
    rw [hm, List.drop_eq_nil_of_le (by simp; omega), List.drop_eq_nil_of_le (by simp; omega)]
end Go.Baro

set_option linter.unusedSimpArgs false
set_option linter.unusedVariables false
namespace Go.Proofs.YtfpokjhalbbeeaaDoor
open Go.RowKit Go.Ord Go.Baro

theorem bool_is (p : Prop) : ∃ r : Bool, r = true ↔ p := ⟨@decide p (Classical.propDecidable p), by simp⟩
/-- A call as a value. -/
def dgV (d : Dg) (v : Value) : Value := .agg #[.int .i64 d.b, .int .i64 d.e, .int .i64 d.th, .int .i64 d.cl, v]

end Go.Proofs.YtfpokjhalbbeeaaDoor

set_option linter.unusedSimpArgs false
set_option linter.unusedVariables false
namespace Go.Baro
open Go.RowKit
/-- The begin of the call behind the next of the same thread. -/
def leavP (D : List Dg) (d : Dg) : Int := ((D.find? fun x => decide (x.th = d.th ∧ x.cl = d.cl + 2)).map fun x => (x.b : Int)).getD 1073741824
theorem leavP_hit {D : List Dg} {d x : Dg} {j : Nat} (hn : ∀ y ∈ D.take j, ¬ (y.th = d.th ∧ y.cl = d.cl + 2)) (hx : D[j]? = some x) (h : x.th = d.th ∧ x.cl = d.cl + 2) : leavP D d = x.b := by
  have hD : D = D.take j ++ x :: D.drop (j + 1) := by
    obtain ⟨hj, e⟩ := List.getElem?_eq_some_iff.1 hx
    subst e
    rw [List.getElem_cons_drop, List.take_append_drop]
  have hf : D.find? (fun x => decide (x.th = d.th ∧ x.cl = d.cl + 2)) = some x := by
    rw [hD, List.find?_append, List.find?_eq_none.2 (by intro y hy; simpa using hn y hy), List.find?_cons, decide_eq_true h]
    rfl
  unfold leavP
  rw [hf]
  rfl
theorem leavP_no {D : List Dg} {d : Dg} (hn : ∀ y ∈ D, ¬ (y.th = d.th ∧ y.cl = d.cl + 2)) : leavP D d = 1073741824 := by
  unfold leavP
  rw [List.find?_eq_none.2 (by intro y hy; simpa using hn y hy)]
  rfl
end Go.Baro
namespace Go.Proofs.YtfpokjhalbbeeaaDoor
open Go.RowKit Go.Ord Go.Baro

set_option maxRecDepth 100000 in
set_option maxHeartbeats 2000000 in
theorem keep_leaves (w : World) (d : Dg) (v : Value) (A : Option Addr) (n c : Nat) (L : List (Dg × Value)) (hL : RDg w w.heap.size A n L) (hn : n ≤ 12000) (hc : d.cl ≤ 6000) :
    Calls Tryd.prog 16 #[.slice A n c, dgV d v] w fun e w' => e = .returned (.int .i64 (leavP (L.map Prod.fst) d)) ∧ Below w.heap.size w w' := by
  have HLen := Lib.hid hL.len
  have HR := Lib.hid hL
  clear hL
  obtain ⟨db, de, dt, dc, dto⟩ := d
  unfold dgV
  dsimp only at hc ⊢
  have bD := Box.newAt w 44 [.int .i64 db, .int .i64 de, .int .i64 dt, .int .i64 dc, v] w.heap.size rfl
  have hA := (Below.refl w.heap.size w).alloc (Nat.le_refl _) (Obj.cells #[.int .i64 db, .int .i64 de, .int .i64 dt, .int .i64 dc, v] 44)
  go_enter Tryd.func16, Tryd.ntmps16
  go_wp2
  go_loopw [5] (fun i wr => ∃ j : Nat, j ≤ n ∧ i = .int .i64 j ∧ Hid (∀ y ∈ (L.map Prod.fst).take j, ¬ (y.th = dt ∧ y.cl = dc + 2)) ∧ Box wr w.heap.size 44 [.int .i64 db, .int .i64 de, .int .i64 dt, .int .i64 dc, v] ∧ Below w.heap.size w wr) (fun i _ => n - (intOf i).toNat)
  case atStart => exact ⟨0, Nat.zero_le _, rfl, by show ∀ y ∈ _, _; simp, bD, hA⟩
  case round =>
    obtain ⟨j, hj, rfl, HN, bD, hbel⟩ := hrel
    have hsz := hbel.size
    have lD := bD.lt
    have y2 : wr.cell? ⟨w.heap.size, 2, none⟩ = _ := bD.cell 2
    have y3 : wr.cell? ⟨w.heap.size, 3, none⟩ = _ := bD.cell 3
    simp only [List.getElem?_cons_zero, List.getElem?_cons_succ] at y2 y3
    by_cases hjn : j < n
    · obtain ⟨b, o, x, A', n', k', rfl, hbB, c0, c1, c2, c3, _, _, _, _, _, HX⟩ := (HR.out.below hbel).val hjn
      have hbs : b < wr.heap.size := by omega
      by_cases ht : x.th = dt
      · by_cases hcl : x.cl = dc + 2
        · have HH := Lib.hid (leavP_hit (d := ⟨db, de, dt, dc, dto⟩) HN.out HX.out ⟨ht, hcl⟩)
          have e1 : ((x.th : Int) == (dt : Int)) = true := by simp [ht]
          have e2 : ((x.cl : Int) == (dc : Int) + 2) = true := by simp [hcl]
          have HN' := HN
          clear HN HX ht hcl
          go_wp2
          refine region_first [0, 1, 2, 3, 4, 5, 6, 7, 8, 9, 10, 11, 12, 13, 14, 15, 16, 17, 18] .nil (by kernel_rfl) (by kernel_rfl) ?_
          simp only [pick, List.map_cons, List.map_nil, List.getD_cons_zero, List.getD_cons_succ]
          go_wp2
          refine ord_done ?_
          go_wp2
          go_ret
          exact ⟨ret_int HH.out.symm, hbel.drew⟩
        · have e1 : ((x.th : Int) == (dt : Int)) = true := by simp [ht]
          have e2 : ((x.cl : Int) == (dc : Int) + 2) = false := by simp; omega
          have HN2 : Hid (∀ y ∈ (L.map Prod.fst).take (j + 1), ¬ (y.th = dt ∧ y.cl = dc + 2)) := by
            intro y hy
            rw [at_take HX.out] at hy
            rcases List.mem_append.1 hy with hy | hy
            · exact HN.out y hy
            · rw [List.mem_singleton.1 hy]; exact fun h => hcl h.2
          clear HN HX ht hcl
          go_wp2
          refine region_first [0, 1, 2, 3, 4, 5, 6, 7, 8, 9, 10, 11, 12, 13, 14, 15, 16, 17, 18] .nil (by kernel_rfl) (by kernel_rfl) ?_
          simp only [pick, List.map_cons, List.map_nil, List.getD_cons_zero, List.getD_cons_succ]
          go_wp2
          refine ord_done ?_
          go_wp2
          go_roundw
          case rel => exact ⟨j + 1, by omega, by go_num, HN2.out, bD.below (Below.refl _ _).drew lD, hbel.drew⟩
          case measure => simp [intOf]; omega
      · have e1 : ((x.th : Int) == (dt : Int)) = false := by simp; omega
        have HN2 : Hid (∀ y ∈ (L.map Prod.fst).take (j + 1), ¬ (y.th = dt ∧ y.cl = dc + 2)) := by
          intro y hy
          rw [at_take HX.out] at hy
          rcases List.mem_append.1 hy with hy | hy
          · exact HN.out y hy
          · rw [List.mem_singleton.1 hy]; exact fun h => ht h.1
        clear HN HX ht
        go_wp2
        refine region_first [0, 1, 2, 3, 4, 5, 6, 7, 8, 9, 10, 11, 12, 13, 14, 15, 16, 17, 18] .nil (by kernel_rfl) (by kernel_rfl) ?_
        simp only [pick, List.map_cons, List.map_nil, List.getD_cons_zero, List.getD_cons_succ]
        go_wp2
        refine ord_done ?_
        go_wp2
        go_roundw
        case rel => exact ⟨j + 1, by omega, by go_num, HN2.out, bD.below (Below.refl _ _).drew lD, hbel.drew⟩
        case measure => simp [intOf]; omega
    · obtain rfl : n = j := by omega
      have HH := Lib.hid (leavP_no (D := L.map Prod.fst) (d := ⟨db, de, dt, dc, dto⟩) (fun y hy => HN.out y (by rw [List.take_of_length_le (by rw [List.length_map, HLen.out]; omega)]; exact hy)))
      clear HN
      go_wp2
      go_ret
      exact ⟨ret_int HH.out.symm, hbel⟩
end Go.Proofs.YtfpokjhalbbeeaaDoor

set_option linter.unusedSimpArgs false
set_option linter.unusedVariables false
namespace Go.Proofs.YtfpokjhalbbeeaaDoor
open Go.RowKit Go.Ord Go.Baro

/-- The schedule that is drawn. -/
def schG (k most : Nat) (l : List Int) : List Int := (l.take most).map (· % (k : Int))
theorem schG_len (k most : Nat) (l : List Int) : (schG k most l).length = min most l.length := by simp [schG]
theorem schG_in {k most : Nat} (hk : 0 < k) {l : List Int} {x : Int} (h : x ∈ schG k most l) : 0 ≤ x ∧ x < k := by
  obtain ⟨y, _, rfl⟩ := List.mem_map.1 h
  exact ⟨Int.emod_nonneg _ (by omega), Int.emod_lt_of_pos _ (by omega)⟩

set_option maxRecDepth 100000 in
set_option maxHeartbeats 2000000 in
theorem keep_ScheduleG (l : List Int) (A : Option Addr) (n c : Nat) (w : World) (k most : Nat) (hk : 0 < k) (hk2 : k ≤ 100) (hmost : most ≤ 6000) (hb : RI w w.heap.size .u8 A n l) (hn : n ≤ 140737488355328) (hr : ∀ x ∈ l, 0 ≤ x ∧ x < 256) :
    Calls Tryd.prog 15 #[.slice A n c, .int .i64 k, .int .i64 most] w fun e w' => ∃ v n', e = .returned v ∧ w'.ownsRow w.heap.size 3 1 v n' ((schG k most l).map (Value.int .i64)) ∧ n' ≤ most ∧ Below w.heap.size w w' := by
  have HL := Lib.hid hb.len
  have HR := Lib.hid hr
  have hk0 : ((k : Int) == 0) = false := by simp; omega
  have hkn : (k : Int) ≠ 0 := by omega
  clear hr
  go_enter Tryd.func15, Tryd.ntmps15
  go_wp2
  go_loopw [7, 8] (fun v i wr => ∃ j : Nat, j ≤ n ∧ j ≤ most ∧ i = .int .i64 j ∧ wr.ownsRow w.heap.size 3 1 v j (((l.take j).map (· % (k : Int))).map (Value.int .i64)) ∧ Below w.heap.size w wr) (fun _ i _ => most - (intOf i).toNat)
  case atStart => exact ⟨0, Nat.zero_le _, by omega, rfl, World.ownsRow_nil _ _ _ _, Below.refl _ _⟩
  case round =>
    obtain ⟨j, hj, hj4, rfl, hown, hbel⟩ := hrel
    have hsz := hbel.size
    have fin : j = n ∨ j = most → wr.ownsRow w.heap.size 3 1 u7 j ((schG k most l).map (Value.int .i64)) := by
      intro h
      have e : schG k most l = (l.take j).map (· % (k : Int)) := by
        unfold schG
        rcases h with h | h
        · rw [List.take_of_length_le (l := l) (i := j) (by rw [HL.out]; omega), List.take_of_length_le (l := l) (i := most) (by rw [HL.out]; omega)]
        · rw [h]
      rw [e]
      exact hown
    by_cases h1 : j < n
    · by_cases h2 : j < most
      · clear fin
        obtain ⟨b, o, x, rfl, hbB, hcell, HX, hmem⟩ := (hb.below hbel).val h1
        obtain ⟨hx0, hx1⟩ := HR.out x hmem
        have ht : x.tmod k = x % k := Int.tmod_eq_emod_of_nonneg hx0
        obtain ⟨y, hy⟩ : ∃ y, y = x % (k : Int) := ⟨_, rfl⟩
        have hy0 : 0 ≤ y := by rw [hy]; exact Int.emod_nonneg _ hkn
        have hy1 : y < k := by rw [hy]; exact Int.emod_lt_of_pos _ (by omega)
        rw [← hy] at ht
        have HY := Lib.hid hy
        clear hmem hy
        go_wp2_with (at_builtin; go_must (refine app_lit eltIntS wr rfl _ _ rfl w.heap.size _ j _ rfl (by exact hown) 1 [.int .i64 y] wr.heap.size rfl rfl rfl (one_ints _ [y]) (by omega) (by omega) hsz ?_); intro v3 w3 hown3 hgr3 hbel3 _)
        go_roundw
        case rel =>
          refine ⟨j + 1, by omega, by omega, by go_num, ?_, hbel3 _ hbel⟩
          rw [at_take HX.out, List.map_append, List.map_append, List.map_singleton, List.map_singleton, ← HY.out]
          exact hown3
        case measure => simp [intOf]; omega
      · have HF := Lib.hid (fin (.inr (by omega)))
        clear fin hown
        go_wp2
        go_ret
        exact ⟨_, j, rfl, HF.out, by omega, hbel⟩
    · obtain rfl : n = j := by omega
      have HF := Lib.hid (fin (.inl rfl))
      clear fin hown
      go_wp2
      go_ret
      exact ⟨_, n, rfl, HF.out, by omega, hbel⟩
end Go.Proofs.YtfpokjhalbbeeaaDoor

set_option linter.unusedSimpArgs false
set_option linter.unusedVariables false
namespace Go.Proofs.YtfpokjhalbbeeaaDoor
open Go.RowKit Go.Ord Go.Baro

theorem tmod_pick (a n : Int) (hn : 0 < n) : (if a.tmod n < 0 then a.tmod n + n else a.tmod n) = a % n := by
  have h1 := Int.tmod_eq_emod (a := a) (b := n)
  have h2 := Int.emod_nonneg a (show n ≠ 0 by omega)
  have h3 := Int.emod_lt_of_pos a hn
  rw [h1]
  split <;> split <;> omega

theorem keep_Picked (a n : Int) (w : World) (hn : 0 < n) (hn1 : n ≤ 4611686018427387904) :
    Calls Tryd.prog 12 #[.int .i64 a, .int .i64 n] w fun e w' => e = .returned (.int .i64 (a % n)) ∧ w = w' := by
  have HT := Lib.hid (tmod_pick a n hn)
  have hb1 : -n < a.tmod n := Int.lt_tmod_of_pos a hn
  have hb2 : a.tmod n < n := Int.tmod_lt_of_pos a hn
  have hne : (n == 0) = false := by simp; omega
  by_cases h : a.tmod n < 0
  · go_enter Tryd.func12, Tryd.ntmps12
    go_wp2
    go_ret
    refine ⟨ret_int ?_, rfl⟩
    have := HT.out
    rw [if_pos h] at this
    exact this
  · go_enter Tryd.func12, Tryd.ntmps12
    go_wp2
    go_ret
    refine ⟨ret_int ?_, rfl⟩
    have := HT.out
    rw [if_neg (by omega)] at this
    exact this
end Go.Proofs.YtfpokjhalbbeeaaDoor

set_option linter.unusedSimpArgs false
set_option linter.unusedVariables false
namespace Go.Proofs.YtfpokjhalbbeeaaDoor
open Go.RowKit Go.Ord Go.Baro
/-- No two are inside at once. -/
def OneIn (D : List Dg) : Prop := ∀ x ∈ D, ∀ y ∈ D, x.cl % 3 = 0 → x.e ≠ -1 → y.th ≠ x.th → y.cl % 3 = 0 → y.e > x.e → y.e + 1 < leavP D x → ¬ y.e + 1 < leavP D y
/-- What is asked of the runs. -/
def LockOneD (ws : Nat → List Int) (ce cl : Nat → List Ins) : Prop := ∀ (n wk : Nat) (S : List Nat), 1 ≤ n → n ≤ 4 → 1 ≤ wk → wk ≤ 40 → S.length ≤ 3000 → (∀ x ∈ S, x < n) →
  noErr (plyG (mLock ws ce cl n (fun _ => 6) wk) 0 S (g0 (mLock ws ce cl n (fun _ => 6) wk))) ∧
  (∀ x ∈ dgs (plyG (mLock ws ce cl n (fun _ => 6) wk) 0 S (g0 (mLock ws ce cl n (fun _ => 6) wk))).out, x.cl ≤ 6000 ∧ -1 ≤ x.e ∧ x.e ≤ 6000) ∧
  OneIn (dgs (plyG (mLock ws ce cl n (fun _ => 6) wk) 0 S (g0 (mLock ws ce cl n (fun _ => 6) wk))).out)
/-- What is known of a run that is fine. -/
theorem plR_fineL {m : Mc} (hm : okMc m) {S : List Int} (hl : S.length ≤ 6000) (hs : ∀ x ∈ S, 0 ≤ x ∧ x < m.ts.length) : PlR m S (plyG m 0 (S.map Int.toNat) (g0 m)).out (plyG m 0 (S.map Int.toNat) (g0 m)).w 0 :=
  .inr (.inr (.inr ⟨hm, hl, hs, rfl, rfl, rfl⟩))
theorem leavP_le {D : List Dg} {d : Dg} (h : ∀ x ∈ D, x.b ≤ 1073741824) : 0 ≤ leavP D d ∧ leavP D d ≤ 1073741824 := by
  unfold leavP
  cases hf : D.find? fun x => decide (x.th = d.th ∧ x.cl = d.cl + 2) with
  | none => simp
  | some x => have := h x (List.mem_of_find?_eq_some hf); simp; omega

set_option maxRecDepth 100000 in
set_option maxHeartbeats 2000000 in
theorem keep_LockOneP (ws : Nat → List Int) (ce cl : Nat → List Ins) (hws : WordsOk 4 ws) (hce : CodesOk 4 ce) (hcl : CodesOk 4 cl) (hgood : LockOneD ws ce cl) (hM : MaySpec) (hPl : PlaySpec) (hW : WSpec 8 4 ws) (hE : CSpec 9 4 ce) (hL : CSpec 10 4 cl)
    (w : World) (hT : Tab w) (x0 : Int) (r0 : -9223372036854775808 ≤ x0 ∧ x0 ≤ 9223372036854775807) (x1 : Int) (r1 : -9223372036854775808 ≤ x1 ∧ x1 ≤ 9223372036854775807)
    (A2 : Option Addr) (n2 c2 : Nat) (x2 : List Int) (h2 : RI w w.heap.size .u8 A2 n2 x2) (b2 : n2 ≤ 140737488351232) (r2 : ∀ x ∈ x2, 0 ≤ x ∧ x < 256) (_ : n2 ≤ c2) :
    Calls Tryd.prog 4 #[.int .i64 x0, .int .i64 x1, .slice A2 n2 c2] w fun e w' => e = .returned (.bool true) ∧ Below w.heap.size w w' := by
  have HPl := Lib.hid hPl
  have HT := Lib.hid hT
  have HR2 := Lib.hid r2
  have HLM := Lib.hid (keep_lockMachine ws ce cl hws hce hcl hM hW hE hL)
  have HOk := Lib.hid (fun n wk h1 h4 hwk => lock_ok (n := n) (wk := wk) (f := fun _ => 6) hws hce hcl h1 h4 hwk (fun _ _ => Nat.le_refl _))
  have HGood := Lib.hid hgood
  clear hPl hT r2 hM hW hE hL hgood hws hce hcl
  obtain ⟨n, hn⟩ : ∃ n : Nat, (n : Int) = 1 + x0 % 4 := ⟨(1 + x0 % 4).toNat, by omega⟩
  obtain ⟨wk, hwk⟩ : ∃ wk : Nat, (wk : Int) = 1 + x1 % 40 := ⟨(1 + x1 % 40).toNat, by omega⟩
  have hn1 : 1 ≤ n := by omega
  have hn4 : n ≤ 4 := by omega
  have hk1 : 1 ≤ wk := by omega
  have hk40 : wk ≤ 40 := by omega
  go_enter Tryd.func4, Tryd.ntmps4
  go_wp2_with fail
  refine (keep_Picked x0 4 _ (by omega) (by omega)).mono ?_
  rintro e w' ⟨rfl, rfl⟩
  obtain ⟨y0, hy0⟩ : ∃ y0, y0 = x0 % 4 := ⟨_, rfl⟩
  rw [← hy0] at hn ⊢
  have hyd : y0 = (n : Int) - 1 := by omega
  clear hy0 hn
  subst hyd
  have hnn : (1 + ((n : Int) - 1)) = (n : Int) := by omega
  have hA0 := (Below.refl w.heap.size w).alloc (Nat.le_refl _) (Obj.cells #[.int .i64 6, .int .i64 6, .int .i64 6, .int .i64 6] 3)
  have HQ0 := Lib.hid (QT.box (s := 1) (n := 4) (Box.newAt w 3 [.int .i64 6, .int .i64 6, .int .i64 6, .int .i64 6] w.heap.size rfl) rfl).rd
  go_wp2_with fail
  refine (keep_Picked x1 40 _ (by omega) (by omega)).mono ?_
  rintro e w' ⟨rfl, rfl⟩
  obtain ⟨y1, hy1⟩ : ∃ y1, y1 = x1 % 40 := ⟨_, rfl⟩
  rw [← hy1] at hwk ⊢
  have hyk : y1 = (wk : Int) - 1 := by omega
  clear hy1 hwk
  subst hyk
  have hkk : (1 + ((wk : Int) - 1)) = (wk : Int) := by omega
  go_wp2_with fail
  refine (HLM.out _ (HT.out.below hA0 HT.out.lt) n wk hn1 hn4 hk40 w.heap.size 0 4 4 (fun _ => 6) (fun _ _ => Nat.le_refl _) (by omega) (by exact HQ0.out)).mono ?_
  rintro e w1 ⟨Aw, nw, cw, Ac, nc, cc, At, nt, ct, rfl, hin1, hb1⟩
  have hb1' := hA0.trans (hb1.mono hA0.size)
  clear hb1 HQ0 hA0 HLM
  have hs1 := hb1'.size
  have hA2 := (Below.refl w1.heap.size w1).alloc (Nat.le_refl _) (Obj.cells #[.slice Aw nw cw, .slice Ac nc cc, .slice At nt ct] 36)
  have bX := Box.newAt w1 36 [.slice Aw nw cw, .slice Ac nc cc, .slice At nt ct] w1.heap.size rfl
  have hb2 := hb1'.trans (hA2.mono hs1)
  have HIN2 := Lib.hid (hin1.below hA2)
  have lX := bX.lt
  obtain ⟨w2, hw2⟩ : ∃ w2, w2 = w1.alloc (Obj.cells #[.slice Aw nw cw, .slice Ac nc cc, .slice At nt ct] 36) := ⟨_, rfl⟩
  clear hin1
  have HW2 := Lib.hid hw2
  rw [← hw2] at hA2 bX hb2 HIN2 lX
  clear hw2
  have z0 : w2.cell? ⟨w1.heap.size, 0, none⟩ = _ := bX.cell 0
  have z1 : w2.cell? ⟨w1.heap.size, 1, none⟩ = _ := bX.cell 1
  have z2 : w2.cell? ⟨w1.heap.size, 2, none⟩ = _ := bX.cell 2
  simp only [List.getElem?_cons_zero, List.getElem?_cons_succ] at z0 z1 z2
  have hs2 := hb2.size
  go_wp2
  rw [← HW2.out]
  refine region_first [0, 1, 2] (.cons 3 (seq [4, 5, 6, 7, 8, 9] .nil)) (by kernel_rfl) (by kernel_rfl) ?_
  simp only [pick, List.map_cons, List.map_nil, List.getD_cons_zero, List.getD_cons_succ]
  go_wp2
  refine ord_call (by kernel_rfl) ?_
  simp only [pick, List.map_cons, List.map_nil, List.getD_cons_zero, List.getD_cons_succ]
  go_wp2_with fail
  refine (keep_ScheduleG x2 A2 n2 c2 w2.drew n 3000 (by omega) (by omega) (by omega) ((h2.below hb2.drew).more hb2.drew.size) (by omega) HR2.out).mono ?_
  rintro e w8 ⟨v, n', rfl, hown, hn', hb8⟩
  obtain ⟨As, cs, rfl, hls⟩ := own_form hown
  have hx8 := ext_below hb8
  have hb8' : Below w2.heap.size w2 w8 := hb8.undrew
  have hbel8 := hb2.trans (hb8'.mono hs2)
  go_wp2
  have HIM8 := Lib.hid (HIN2.out.below hb8')
  have HRS := Lib.hid (show RI w8 w8.heap.size .i64 As n' (schG n 3000 x2) from Rd.of_own hown)
  have LS := Lib.hid HRS.out.len
  obtain ⟨S, hS⟩ : ∃ S, S = schG n 3000 x2 := ⟨_, rfl⟩
  have hSl : S.length ≤ 3000 := by rw [hS, LS.out]; exact hn'
  have hSi : ∀ x ∈ S, 0 ≤ x ∧ x < n := fun x hx => schG_in (k := n) (by omega) (hS ▸ hx)
  rw [← hS] at HRS
  have hR := plR_fineL (HOk.out n wk hn1 hn4 hk40) (S := S) (by omega) (fun x hx => by have := hSi x hx; simpa [mLock] using this)
  obtain ⟨hne, hcl, hone⟩ := HGood.out n wk (S.map Int.toNat) hn1 hn4 hk1 hk40 (by simpa using hSl) (fun x hx => by
    obtain ⟨y, hy, rfl⟩ := List.mem_map.1 hx
    have := hSi y hy
    omega)
  have hrn := rn_ply _ hne
  obtain ⟨T, hTT⟩ : ∃ T, T = (plyG (mLock ws ce cl n (fun _ => 6) wk) 0 (S.map Int.toNat) (g0 (mLock ws ce cl n (fun _ => 6) wk))).out := ⟨_, rfl⟩
  obtain ⟨W, hWW⟩ : ∃ W, W = (plyG (mLock ws ce cl n (fun _ => 6) wk) 0 (S.map Int.toNat) (g0 (mLock ws ce cl n (fun _ => 6) wk))).w := ⟨_, rfl⟩
  rw [← hTT, ← hWW] at hR
  rw [← hTT] at hcl hone hrn
  have HR := Lib.hid hR
  have HCL := Lib.hid hcl
  have HONE := Lib.hid hone
  have HRN := Lib.hid hrn
  clear hR hcl hone hrn hne hTT hWW hSl hSi hS hown hb8 z0 z1 z2 bX HGood HOk
  refine ord_last [4, 5, 6, 7, 8, 9] (by kernel_rfl) ?_
  simp only [pick, List.map_cons, List.map_nil, List.getD_cons_zero, List.getD_cons_succ]
  go_wp2_with fail
  refine (keep_ran HPl.out w8 (HT.out.below hbel8 HT.out.lt) Aw nw cw Ac nc cc At nt ct (mLock ws ce cl n (fun _ => 6) wk) As n' cs S T W HIM8.out HRS.out (by omega) HR.out HRN.out).mono ?_
  rintro e w4 ⟨A4, n4, c4, L, rfl, hlc4, hn4', HL, hD, hb5⟩
  have hb6 := hbel8.trans (hb5.mono hbel8.size)
  obtain ⟨D, hDD⟩ : ∃ D, D = dgs T := ⟨_, rfl⟩
  rw [← hDD] at HL HCL HONE
  have LD := Lib.hid (show D.length = n4 by rw [← HL.out, List.length_map]; exact hD.len)
  have HDM := Lib.hid hD
  have HBW := Lib.hid hb6
  clear HRS HIM8 HR HRN HPl hb5 hb2 hA2 hDD hbel8 hb8' hx8 HIN2 hD hb6
  go_wp2
  go_loopw [12] (fun i wr => ∃ j : Nat, j ≤ n4 ∧ i = .int .i64 j ∧ Below w4.heap.size w4 wr) (fun i _ => n4 - (intOf i).toNat)
  case atStart => exact ⟨0, Nat.zero_le _, rfl, Below.refl _ _⟩
  case round =>
    obtain ⟨j, hj, rfl, hbel⟩ := hrel
    have hsz := hbel.size
    by_cases hjn : j < n4
    · have HD1 := Lib.hid ((HDM.out.below hbel).more hsz)
      obtain ⟨b, o, x, A', n'', k', rfl, hbB, d0, d1, d2, d3, d4, hlk, hn5, hri, HXL, HX⟩ := (HDM.out.below hbel).val hjn
      have HXD : Hid (D[j]? = some x) := by have := HX.out; rwa [HL.out] at this
      have hxm : x ∈ D := List.mem_of_getElem? HXD.out
      have hxc := HCL.out x hxm
      have hbs : b < wr.heap.size := by omega
      by_cases hx3 : (x.cl : Int) % 3 = 0
      · by_cases hxe : x.e = -1
        · have e2 : (x.e == -1) = true := by simp [hxe]
          clear hxe
          go_wp2
          go_roundw
          case rel => exact ⟨j + 1, by omega, by go_num, hbel⟩
          case measure => simp [intOf]; omega
        · have e2 : (x.e == -1) = false := by simp [hxe]
          go_wp2_with fail
          refine (keep_leaves wr x (.slice A' n'' k') (some ⟨b, o, none⟩) n4 c4 L HD1.out (by omega) hxc.1).mono ?_
          rintro e w5 ⟨rfl, hb7⟩
          obtain ⟨o1, ho1⟩ : ∃ o1, o1 = leavP (L.map Prod.fst) x := ⟨_, rfl⟩
          rw [← ho1]
          have HO1 : Hid (leavP D x = o1) := by show _ = _; rw [ho1, HL.out]
          have HX3 := Lib.hid (show x.cl % 3 = 0 by omega)
          have HXE := Lib.hid hxe
          have HXM := Lib.hid hxm
          have hb8 := hbel.trans (hb7.mono hsz)
          have hxe2 := hxc.2
          have X1 := Lib.hid (((hbel.cell (p := ⟨b, o + j * 5 + 1, none⟩) hbB).symm).trans d1)
          have X2 := Lib.hid (((hbel.cell (p := ⟨b, o + j * 5 + 2, none⟩) hbB).symm).trans d2)
          clear ho1 hxe hxm hxc hx3
          have d1' := (hb8.cell (p := ⟨b, o + j * 5 + 1, none⟩) hbB).trans (((hbel.cell (p := ⟨b, o + j * 5 + 1, none⟩) hbB).symm).trans d1)
          go_wp2
          go_loopw [14] (fun i wr => ∃ k : Nat, k ≤ n4 ∧ i = .int .i64 k ∧ Below w4.heap.size w4 wr) (fun i _ => n4 - (intOf i).toNat)
          case atStart => exact ⟨0, Nat.zero_le _, rfl, hb8⟩
          case round =>
            clear hbel hsz d0 d1 d2 d3 d4 d1' hb8 HD1 hbs hb7 e2
            obtain ⟨k, hk, rfl, hbel⟩ := hrel
            have hsz := hbel.size
            have hbs : b < wr.heap.size := by omega
            have hri2 := (HDM.out.below hbel).val hjn
            by_cases hkn : k < n4
            · have HD1 := Lib.hid ((HDM.out.below hbel).more hsz)
              obtain ⟨b6, o6, y, A6, n6, k6, hAe, hbB6, c0, c1, c2, c3, c4', hlk6, hn6, hri6, HYL, HY⟩ := (HDM.out.below hbel).val hkn
              simp only [Option.some.injEq, Addr.mk.injEq, and_true] at hAe
              obtain ⟨rfl, rfl⟩ := hAe
              have HYD : Hid (D[k]? = some y) := by have := HY.out; rwa [HL.out] at this
              have HYM := Lib.hid (List.mem_of_getElem? HYD.out)
              have hyc := HCL.out y HYM.out
              have d1 := (hbel.cell (p := ⟨b, o + j * 5 + 1, none⟩) hbB).trans X1.out
              have d2 := (hbel.cell (p := ⟨b, o + j * 5 + 2, none⟩) hbB).trans X2.out
              by_cases hyt : y.th = x.th
              · have e1 : ((y.th : Int) != (x.th : Int)) = false := by simp [hyt]
                clear hyt
                go_wp2
                refine region_first [0, 1, 2, 3, 4, 5, 6, 7, 8, 9, 10, 11, 12, 13, 14, 15, 16, 17, 18, 19, 20, 21, 22, 23, 24, 25, 26, 27, 28, 29, 30, 31, 32, 33, 34, 35, 36, 37, 38, 39, 40, 41, 42, 43, 44, 45, 46, 47, 48, 49, 50, 51, 52, 53, 54] (.cons 55 (seq [56, 57] .nil)) (by kernel_rfl) (by kernel_rfl) ?_
                simp only [pick, List.map_cons, List.map_nil, List.getD_cons_zero, List.getD_cons_succ]
                go_wp2
                refine ord_call (by kernel_rfl) ?_
                simp only [pick, List.map_cons, List.map_nil, List.getD_cons_zero, List.getD_cons_succ]
                go_wp2
                refine ord_more [56, 57] .nil (by kernel_rfl) ?_
                simp only [pick, List.map_cons, List.map_nil, List.getD_cons_zero, List.getD_cons_succ]
                go_wp2
                refine ord_done ?_
                go_wp2
                go_roundw
                case rel => exact ⟨k + 1, by omega, by go_num, hbel.drew⟩
                case measure => simp [intOf]; omega
              · have e1 : ((y.th : Int) != (x.th : Int)) = true := by simp; omega
                by_cases hy3 : (y.cl : Int) % 3 = 0
                · by_cases hye : x.e < y.e
                  · by_cases hyo : y.e + 1 < o1
                    · have HNO : Hid (¬ y.e + 1 < leavP D y) := HONE.out x HXM.out y HYM.out HX3.out HXE.out (by omega) (by omega) (by omega) (by rw [HO1.out]; exact hyo)
                      go_wp2
                      refine region_first [0, 1, 2, 3, 4, 5, 6, 7, 8, 9, 10, 11, 12, 13, 14, 15, 16, 17, 18, 19, 20, 21, 22, 23, 24, 25, 26, 27, 28, 29, 30, 31, 32, 33, 34, 35, 36, 37, 38, 39, 40, 41, 42, 43, 44, 45, 46, 47, 48, 49, 50, 51, 52, 53, 54] (.cons 55 (seq [56, 57] .nil)) (by kernel_rfl) (by kernel_rfl) ?_
                      simp only [pick, List.map_cons, List.map_nil, List.getD_cons_zero, List.getD_cons_succ]
                      go_wp2
                      refine ord_call (by kernel_rfl) ?_
                      simp only [pick, List.map_cons, List.map_nil, List.getD_cons_zero, List.getD_cons_succ]
                      go_wp2_with fail
                      refine (keep_leaves wr.drew y (.slice A6 n6 k6) (some ⟨b, o, none⟩) n4 c4 L (HD1.out.below (Below.refl _ _).drew) (by omega) hyc.1).mono ?_
                      rintro e w7 ⟨rfl, hb7⟩
                      have hx7 := ext_below hb7
                      obtain ⟨o2, ho2⟩ : ∃ o2, o2 = leavP (L.map Prod.fst) y := ⟨_, rfl⟩
                      rw [← ho2]
                      have hno : ¬ y.e + 1 < o2 := by have := HNO.out; rw [ho2, HL.out]; omega
                      have hb8 := hbel.drew.trans (hb7.mono hsz)
                      clear ho2
                      go_wp2
                      refine ord_more [56, 57] .nil (by kernel_rfl) ?_
                      simp only [pick, List.map_cons, List.map_nil, List.getD_cons_zero, List.getD_cons_succ]
                      go_wp2
                      refine ord_done ?_
                      go_wp2
                      go_roundw
                      case rel => exact ⟨k + 1, by omega, by go_num, hb8⟩
                      case measure => simp [intOf]; omega
                    · skip
                      go_wp2
                      refine region_first [0, 1, 2, 3, 4, 5, 6, 7, 8, 9, 10, 11, 12, 13, 14, 15, 16, 17, 18, 19, 20, 21, 22, 23, 24, 25, 26, 27, 28, 29, 30, 31, 32, 33, 34, 35, 36, 37, 38, 39, 40, 41, 42, 43, 44, 45, 46, 47, 48, 49, 50, 51, 52, 53, 54] (.cons 55 (seq [56, 57] .nil)) (by kernel_rfl) (by kernel_rfl) ?_
                      simp only [pick, List.map_cons, List.map_nil, List.getD_cons_zero, List.getD_cons_succ]
                      go_wp2
                      refine ord_call (by kernel_rfl) ?_
                      simp only [pick, List.map_cons, List.map_nil, List.getD_cons_zero, List.getD_cons_succ]
                      go_wp2
                      refine ord_more [56, 57] .nil (by kernel_rfl) ?_
                      simp only [pick, List.map_cons, List.map_nil, List.getD_cons_zero, List.getD_cons_succ]
                      go_wp2
                      refine ord_done ?_
                      go_wp2
                      go_roundw
                      case rel => exact ⟨k + 1, by omega, by go_num, hbel.drew⟩
                      case measure => simp [intOf]; omega
                  · skip
                    go_wp2
                    refine region_first [0, 1, 2, 3, 4, 5, 6, 7, 8, 9, 10, 11, 12, 13, 14, 15, 16, 17, 18, 19, 20, 21, 22, 23, 24, 25, 26, 27, 28, 29, 30, 31, 32, 33, 34, 35, 36, 37, 38, 39, 40, 41, 42, 43, 44, 45, 46, 47, 48, 49, 50, 51, 52, 53, 54] (.cons 55 (seq [56, 57] .nil)) (by kernel_rfl) (by kernel_rfl) ?_
                    simp only [pick, List.map_cons, List.map_nil, List.getD_cons_zero, List.getD_cons_succ]
                    go_wp2
                    refine ord_call (by kernel_rfl) ?_
                    simp only [pick, List.map_cons, List.map_nil, List.getD_cons_zero, List.getD_cons_succ]
                    go_wp2
                    refine ord_more [56, 57] .nil (by kernel_rfl) ?_
                    simp only [pick, List.map_cons, List.map_nil, List.getD_cons_zero, List.getD_cons_succ]
                    go_wp2
                    refine ord_done ?_
                    go_wp2
                    go_roundw
                    case rel => exact ⟨k + 1, by omega, by go_num, hbel.drew⟩
                    case measure => simp [intOf]; omega
                · skip
                  go_wp2
                  refine region_first [0, 1, 2, 3, 4, 5, 6, 7, 8, 9, 10, 11, 12, 13, 14, 15, 16, 17, 18, 19, 20, 21, 22, 23, 24, 25, 26, 27, 28, 29, 30, 31, 32, 33, 34, 35, 36, 37, 38, 39, 40, 41, 42, 43, 44, 45, 46, 47, 48, 49, 50, 51, 52, 53, 54] (.cons 55 (seq [56, 57] .nil)) (by kernel_rfl) (by kernel_rfl) ?_
                  simp only [pick, List.map_cons, List.map_nil, List.getD_cons_zero, List.getD_cons_succ]
                  go_wp2
                  refine ord_call (by kernel_rfl) ?_
                  simp only [pick, List.map_cons, List.map_nil, List.getD_cons_zero, List.getD_cons_succ]
                  go_wp2
                  refine ord_more [56, 57] .nil (by kernel_rfl) ?_
                  simp only [pick, List.map_cons, List.map_nil, List.getD_cons_zero, List.getD_cons_succ]
                  go_wp2
                  refine ord_done ?_
                  go_wp2
                  go_roundw
                  case rel => exact ⟨k + 1, by omega, by go_num, hbel.drew⟩
                  case measure => simp [intOf]; omega
            · obtain rfl : n4 = k := by omega
              go_wp2
              go_roundw
              case rel => exact ⟨j + 1, by omega, by go_num, hbel⟩
              case measure => simp [intOf]; omega
      · go_wp2
        go_roundw
        case rel => exact ⟨j + 1, by omega, by go_num, hbel⟩
        case measure => simp [intOf]; omega
    · obtain rfl : n4 = j := by omega
      go_wp2
      go_ret
      exact ⟨rfl, HBW.out.trans (hbel.mono HBW.out.size)⟩
end Go.Proofs.YtfpokjhalbbeeaaDoor
