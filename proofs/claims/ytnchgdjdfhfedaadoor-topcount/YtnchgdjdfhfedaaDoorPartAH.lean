/- Of this claim's own texts these, one behind the other: SameIntsK, KeepRun1, LinPure, LinPure2, LibA. No statement of the seat is proved here; no condition but those that stand at the theorems. -/
import Derived.Test.YtnchgdjdfhfedaaDoorRows
import Derived.Test.YtnchgdjdfhfedaaDoorPartAC
import Derived.Test.YtnchgdjdfhfedaaDoorPartAG
import Derived.RowKit
import Derived.Test.YtnchgdjdfhfedaaDoorPartAD
set_option linter.unusedSimpArgs false
set_option linter.unusedVariables false
namespace Go.Proofs.YtnchgdjdfhfedaaDoor
open Go.RowKit Go.Ord Go.Baro

set_option maxHeartbeats 1000000 in
theorem keep_sameInts (xs ys : List Int) (A A' : Option Addr) (n c n' c' : Nat) (w : World) (B B' : Nat) (r : Bool) (h : RI w B .i64 A n xs) (h' : RI w B' .i64 A' n' ys) (hr : r = true ↔ xs = ys) (hn : n ≤ 140737488355328) (hn' : n' ≤ 140737488355328) :
    Calls Tryd.prog 17 #[.slice A n c, .slice A' n' c'] w fun e w' => e = .returned (.bool r) ∧ ∃ m, w' = w.drewN m := by
  have HL := Lib.hid h.len
  have HL' := Lib.hid h'.len
  have HR := Lib.hid hr
  clear hr
  by_cases hne : n = n'
  · subst hne
    go_enter Tryd.func17, Tryd.ntmps17
    go_wp2
    go_loopw [5] (fun i wr => ∃ j : Nat, j ≤ n ∧ i = .int .i64 j ∧ Hid (xs.take j = ys.take j) ∧ ∃ m, wr = w.drewN m) (fun i _ => n - (intOf i).toNat)
    case atStart => exact ⟨0, Nat.zero_le _, rfl, rfl, 0, rfl⟩
    case round =>
      obtain ⟨j, hj, rfl, HE, m, rfl⟩ := hrel
      by_cases hlt : j < n
      · obtain ⟨b, o, x, rfl, _, hcell, HX, _⟩ := h.val hlt
        obtain ⟨b', o', y, rfl, _, hcell', HY, _⟩ := h'.val hlt
        by_cases hxy : x = y
        · subst hxy
          go_wp2
          refine region_two [0, 1, 2, 3, 4, 5, 6, 7, 8] [] (by kernel_rfl) (by kernel_rfl) ?_
          simp only [pick, List.map_cons, List.map_nil, List.getD_cons_zero, List.getD_cons_succ]
          go_wp2
          go_roundw
          case rel => exact ⟨j + 1, by omega, by go_num, by show _ = _; rw [at_take HX.out, at_take HY.out, HE.out], _, rfl⟩
          case measure => simp [intOf]; omega
        · have hb : (x != y) = true := by simp [hxy]
          go_wp2
          refine region_two [0, 1, 2, 3, 4, 5, 6, 7, 8] [] (by kernel_rfl) (by kernel_rfl) ?_
          simp only [pick, List.map_cons, List.map_nil, List.getD_cons_zero, List.getD_cons_succ]
          go_wp2
          go_ret
          refine ⟨ret_bool ?_, _, rfl⟩
          cases r with
          | false => rfl
          | true =>
            have := HR.out.1 rfl
            subst this
            have h1 := HX.out
            rw [HY.out] at h1
            exact absurd (Option.some.inj h1).symm hxy
      · go_wp2
        go_ret
        refine ⟨ret_bool ?_, _, rfl⟩
        have he := HE.out
        rw [List.take_of_length_le (by rw [HL.out]; omega), List.take_of_length_le (by rw [HL'.out]; omega)] at he
        exact (HR.out.2 he).symm
  · have hb : ((n : Int) != (n' : Int)) = true := by simp; omega
    go_enter Tryd.func17, Tryd.ntmps17
    go_wp2
    go_ret
    refine ⟨ret_bool ?_, 0, rfl⟩
    cases r with
    | false => rfl
    | true =>
      have := HR.out.1 rfl
      subst this
      have h1 := HL.out
      rw [HL'.out] at h1
      omega
end Go.Proofs.YtnchgdjdfhfedaaDoor

set_option linter.unusedSimpArgs false
set_option linter.unusedVariables false
namespace Go.Proofs.YtnchgdjdfhfedaaDoor
open Go.RowKit Go.Ord Go.Baro

theorem eltIntS : Elt Tryd.prog 22 3 (.int .i64 0) 1 8 := Elt.mk' Tryd.underlying22 (by kernel_rfl) rfl (by decide)
/-- The schedule that is drawn. -/
def schL (l : List Int) : List Int := (l.take 400).map (· % 3)
theorem schL_len (l : List Int) : (schL l).length = min l.length 400 := by simp [schL, Nat.min_comm]
theorem schL_in {l : List Int} {x : Int} (h : x ∈ schL l) : 0 ≤ x ∧ x < 3 := by
  obtain ⟨y, _, rfl⟩ := List.mem_map.1 h
  omega
theorem mod_three {x : Int} (h : 0 ≤ x ∧ x < 256) : x.tmod 3 = x % 3 := by rw [Int.tmod_eq_emod_of_nonneg h.1]

set_option maxRecDepth 100000 in
set_option maxHeartbeats 2000000 in
theorem keep_Schedule (l : List Int) (A : Option Addr) (n c : Nat) (w : World) (hb : RI w w.heap.size .u8 A n l) (hn : n ≤ 140737488355328) (hr : ∀ x ∈ l, 0 ≤ x ∧ x < 256) :
    Calls Tryd.prog 14 #[.slice A n c, .int .i64 3, .int .i64 400] w fun e w' => ∃ A' n' c', e = .returned (.slice A' n' c') ∧ RI w' w'.heap.size .i64 A' n' (schL l) ∧ n' ≤ c' ∧ n' ≤ 400 ∧ Below w.heap.size w w' := by
  have HL := Lib.hid hb.len
  have HR := Lib.hid hr
  clear hr
  go_enter Tryd.func14, Tryd.ntmps14
  go_wp2
  go_loopw [7, 8] (fun v i wr => ∃ j : Nat, j ≤ n ∧ j ≤ 400 ∧ i = .int .i64 j ∧ wr.ownsRow w.heap.size 3 1 v j (((l.take j).map (· % 3)).map (Value.int .i64)) ∧ Below w.heap.size w wr) (fun _ i _ => 400 - (intOf i).toNat)
  case atStart => exact ⟨0, Nat.zero_le _, by omega, rfl, World.ownsRow_nil _ _ _ _, Below.refl _ _⟩
  case round =>
    obtain ⟨j, hj, hj4, rfl, hown, hbel⟩ := hrel
    have hsz := hbel.size
    obtain ⟨A', c', rfl, hlc⟩ := own_form hown
    have fin : j = n ∨ j = 400 → RI wr wr.heap.size .i64 A' j (schL l) := by
      intro h
      have := Rd.of_own hown
      have e : schL l = (l.take j).map (· % 3) := by
        unfold schL
        rcases h with h | h
        · rw [List.take_of_length_le (l := l) (i := j) (by rw [HL.out]; omega), List.take_of_length_le (l := l) (i := 400) (by rw [HL.out]; omega)]
        · rw [h]
      rw [e]
      exact this
    by_cases h1 : j < n
    · by_cases h2 : j < 400
      · clear fin
        obtain ⟨b, o, x, rfl, hbB, hcell, HX, hmem⟩ := (hb.below hbel).val h1
        obtain ⟨hx0, hx1⟩ := HR.out x hmem
        have ht := mod_three ⟨hx0, hx1⟩
        have HMem := Lib.hid hmem
        obtain ⟨y, hy⟩ : ∃ y, y = x % 3 := ⟨_, rfl⟩
        have hy0 : 0 ≤ y ∧ y < 3 := by omega
        rw [← hy] at ht
        have HY := Lib.hid hy
        clear hmem hy
        go_wp2_with (at_builtin; go_must (refine app_lit eltIntS wr rfl _ _ rfl w.heap.size _ j _ rfl (by exact hown) 1 [.int .i64 y] wr.heap.size rfl rfl rfl (one_ints _ [y]) (by omega) (by omega) hsz ?_); intro v3 w3 hown3 hgr3 hbel3 _)
        go_roundw
        case rel =>
          refine ⟨j + 1, by omega, by omega, by go_num, ?_, hbel3 _ hbel⟩
          rw [at_take HX.out, List.map_append, List.map_append, List.map_singleton, List.map_singleton, ← HY.out]
          exact hown3
        case measure => simp [intOf]; omega
      · have HF := Lib.hid (fin (.inr (by omega)))
        clear fin hown
        go_wp2
        go_ret
        exact ⟨A', j, c', rfl, HF.out, hlc, by omega, hbel⟩
    · obtain rfl : n = j := by omega
      have HF := Lib.hid (fin (.inl rfl))
      clear fin hown
      go_wp2
      go_ret
      exact ⟨A', n, c', rfl, HF.out, hlc, by omega, hbel⟩
/-- An event as a value. -/
def evV (x : Ev) (v : Value) : Value := .agg #[.int .i64 x.st, .int .i64 x.th, .int .i64 x.cl, .bool x.en, .int .i64 x.er, v]

/-- A slice that lies in a block of its own. -/
theorem Rd.box {w : World} {b s n : Nat} {t : TypeId} {cs : List Value} (h : Box w b t cs) (hl : cs.length = n * s) : Rd w w.heap.size s (some ⟨b, 0, none⟩) n cs :=
  ⟨hl, fun _ => ⟨b, 0, rfl, h.lt, fun j _ => by rw [Nat.zero_add]; exact h.cell j⟩⟩
theorem rg_box {α : Type} {s : Nat} {R : World → Nat → List Value → α → Prop} {w : World} {b n : Nat} {t : TypeId} {rows : List (List Value)} {ls : List α} (h : Box w b t rows.flatten) (h1 : rows.length = ls.length) (hn : ls.length = n) (h2 : ∀ r ∈ rows, r.length = s)
    (h3 : ∀ (i : Nat) r x, rows[i]? = some r → ls[i]? = some x → R w w.heap.size r x) : RG s R w w.heap.size (some ⟨b, 0, none⟩) n ls :=
  ⟨rows, h1, h2, Rd.box h (by rw [flat_len h2, h1, hn]), h3⟩
/-- The run that is known. -/
def mS : Mc := ⟨[4], [[⟨14, 0, 1, 0, 0⟩]], [[⟨0, [9]⟩]]⟩
theorem sure_play : PlR mS [0] [⟨0, 0, 0, false, 0, []⟩, ⟨0, 0, 0, true, 0, []⟩] [9] 0 := by
  refine .inr (.inr (.inr ⟨⟨by decide, by decide, by decide, ?_, ?_⟩, by decide, by simp [mS], ?_, ?_, rfl⟩))
  · intro c hc
    simp only [mS, List.mem_singleton] at hc
    subst hc
    decide
  · intro t ht
    simp only [mS, List.mem_singleton] at ht
    subst ht
    refine ⟨by decide, fun c hc => ?_⟩
    simp only [List.mem_singleton] at hc
    subst hc
    exact ⟨by simp [mS], by decide⟩
  · kernel_rfl
  · kernel_rfl

theorem one_at {α : Type} {a b : α} {i : Nat} (h : [a][i]? = some b) : i = 0 ∧ b = a := by
  cases i with
  | zero => exact ⟨rfl, by simpa using h.symm⟩
  | succ i => simp at h
/-- The machine of the run that is known, and its schedule. -/
theorem sure_mem (w wF : World) (hF : wF = (((((((w.alloc (Obj.cells #[.int .i64 4] 3)).alloc (Obj.cells #[.int .i64 14, .int .i64 0, .int .i64 1, .int .i64 0, .int .i64 0] 73)).alloc (Obj.cells #[.slice (some ⟨w.heap.size + 1, 0, none⟩) 1 1] 24)).alloc (Obj.cells #[.int .i64 9] 3)).alloc (Obj.cells #[.int .i64 0, .slice (some ⟨w.heap.size + 1 + 1 + 1, 0, none⟩) 1 1] 41)).alloc (Obj.cells #[.slice (some ⟨w.heap.size + 1 + 1 + 1 + 1, 0, none⟩) 1 1] 42)).alloc (Obj.cells #[.int .i64 0] 3))) :
    InM wF (some ⟨w.heap.size, 0, none⟩) 1 1 (some ⟨w.heap.size + 1 + 1, 0, none⟩) 1 1 (some ⟨w.heap.size + 1 + 1 + 1 + 1 + 1, 0, none⟩) 1 1 mS ∧ RI wF wF.heap.size .i64 (some ⟨w.heap.size + 1 + 1 + 1 + 1 + 1 + 1, 0, none⟩) 1 [0] ∧ Below w.heap.size w wF := by
  have b0 : Box wF w.heap.size 3 [.int .i64 4] := by rw [hF]; exact ((((((Box.newAt w _ _ _ rfl).alloc _).alloc _).alloc _).alloc _).alloc _).alloc _
  have b1 : Box wF (w.heap.size + 1) 73 [.int .i64 14, .int .i64 0, .int .i64 1, .int .i64 0, .int .i64 0] := by rw [hF]; exact (((((Box.newAt (w.alloc _) _ _ _ (by simp)).alloc _).alloc _).alloc _).alloc _).alloc _
  have b2 : Box wF (w.heap.size + 1 + 1) 24 [.slice (some ⟨w.heap.size + 1, 0, none⟩) 1 1] := by rw [hF]; exact ((((Box.newAt ((w.alloc _).alloc _) _ _ _ (by simp)).alloc _).alloc _).alloc _).alloc _
  have b3 : Box wF (w.heap.size + 1 + 1 + 1) 3 [.int .i64 9] := by rw [hF]; exact (((Box.newAt (((w.alloc _).alloc _).alloc _) _ _ _ (by simp)).alloc _).alloc _).alloc _
  have b4 : Box wF (w.heap.size + 1 + 1 + 1 + 1) 41 [.int .i64 0, .slice (some ⟨w.heap.size + 1 + 1 + 1, 0, none⟩) 1 1] := by rw [hF]; exact ((Box.newAt ((((w.alloc _).alloc _).alloc _).alloc _) _ _ _ (by simp)).alloc _).alloc _
  have b5 : Box wF (w.heap.size + 1 + 1 + 1 + 1 + 1) 42 [.slice (some ⟨w.heap.size + 1 + 1 + 1 + 1, 0, none⟩) 1 1] := by rw [hF]; exact (Box.newAt (((((w.alloc _).alloc _).alloc _).alloc _).alloc _) _ _ _ (by simp)).alloc _
  have b6 : Box wF (w.heap.size + 1 + 1 + 1 + 1 + 1 + 1) 3 [.int .i64 0] := by rw [hF]; exact Box.newAt ((((((w.alloc _).alloc _).alloc _).alloc _).alloc _).alloc _) _ _ _ (by simp)
  refine ⟨⟨Rd.box b0 rfl, ?_, ?_, ?_, ?_, ?_, by omega, by omega, by omega⟩, Rd.box b6 rfl, ?_⟩
  · refine rg_box (rows := [[.slice (some ⟨w.heap.size + 1, 0, none⟩) 1 1]]) b2 rfl rfl (by simp) fun i r x hr hx => ?_
    obtain ⟨_, rfl⟩ := one_at hr
    obtain ⟨_, rfl⟩ := one_at hx
    exact ⟨_, _, _, rfl, Nat.le_refl _, Rd.box b1 rfl⟩
  · refine rg_box (rows := [[.slice (some ⟨w.heap.size + 1 + 1 + 1 + 1, 0, none⟩) 1 1]]) b5 rfl rfl (by simp) fun i r x hr hx => ?_
    obtain ⟨_, rfl⟩ := one_at hr
    obtain ⟨_, rfl⟩ := one_at hx
    refine ⟨_, _, _, rfl, Nat.le_refl _, rg_box (rows := [[.int .i64 0, .slice (some ⟨w.heap.size + 1 + 1 + 1, 0, none⟩) 1 1]]) b4 rfl rfl (by simp) fun i r x hr hx => ?_⟩
    obtain ⟨_, rfl⟩ := one_at hr
    obtain ⟨_, rfl⟩ := one_at hx
    exact ⟨_, _, _, rfl, Nat.le_refl _, Rd.box b3 rfl⟩
  · intro x hx; simp only [mS, List.mem_singleton] at hx; subst hx; unfold inW; omega
  · intro c hc
    simp only [mS, List.mem_singleton] at hc
    subst hc
    refine ⟨by decide, fun o ho => ?_⟩
    simp only [List.mem_singleton] at ho
    subst ho
    unfold inI inW
    dsimp only
    omega
  · intro t ht
    simp only [mS, List.mem_singleton] at ht
    subst ht
    refine ⟨by decide, fun c hc => ?_⟩
    simp only [List.mem_singleton] at hc
    subst hc
    refine ⟨by unfold inW; dsimp only; omega, by decide, fun x hx => ?_⟩
    simp only [List.mem_singleton] at hx
    subst hx
    unfold inW
    omega
  · rw [hF]
    exact (((((((Below.refl w.heap.size w).alloc (by simp) _).alloc (by simp) _).alloc (by simp; omega) _).alloc (by simp; omega) _).alloc (by simp; omega) _).alloc (by simp; omega) _).alloc (by simp; omega) _

set_option maxHeartbeats 2000000 in
theorem keep_runSure (hP : PlaySpec) (w : World) (hT : Tab w) : Calls Tryd.prog 34 #[] w fun e w' => e = .returned (.bool true) ∧ Below w.heap.size w w' := by
  have HP := Lib.hid hP
  have HT := Lib.hid hT
  have hM := sure_mem w _ rfl
  have HM := Lib.hid hM
  clear hP hT hM
  go_enter Tryd.func34, Tryd.ntmps34
  go_wp2_with fail
  refine (HP.out _ (HT.out.below HM.out.2.2 HT.out.lt) _ 1 1 _ 1 1 _ 1 1 mS _ 1 1 [0] _ [9] 0 HM.out.1 HM.out.2.1 (by omega) sure_play).mono ?_
  rintro e w1 ⟨B1, m1, d1, B2, m2, d2, rfl, hr1, hr2, hl1, hl2, hm1, hm2, hb1⟩
  have hb2 := HM.out.2.2.trans (hb1.mono HM.out.2.2.size)
  obtain rfl : m1 = 2 := hr1.len.symm
  obtain rfl : m2 = 1 := hr2.len.symm
  obtain ⟨b, o, A5, n5, k5, x, rfl, hbB, q0, q1, q2, q3, q4, q5, hlk, hn5, hri, HX, hmem⟩ := hr1.val (i := 1) (by omega)
  have hx := HX.out
  simp only [List.getElem?_cons_succ, List.getElem?_cons_zero, Option.some.injEq] at hx
  subst hx
  dsimp only at q3
  rw [Nat.one_mul] at q3
  clear HX hmem q0 q1 q2 q4 q5 hri HM HP HT hb1
  have hB3 := (Below.refl w1.heap.size w1).alloc (Nat.le_refl _) (Obj.cells #[.int .i64 9] 3)
  go_wp2_with fail
  refine (keep_sameInts [9] [9] B2 _ 1 d2 1 1 _ w1.heap.size (w1.heap.size + 1) true (hr2.below hB3) (Rd.more (Rd.box (Box.newAt w1 3 [.int .i64 9] w1.heap.size rfl) rfl) (by simp)) (by simp) (by omega) (by omega)).mono ?_
  rintro e w2 ⟨rfl, k2, rfl⟩
  go_wp2
  go_ret
  exact ⟨by first | rfl | simp, hb2.trans ((hB3.mono hb2.size).drewN _)⟩
end Go.Proofs.YtnchgdjdfhfedaaDoor

set_option linter.unusedSimpArgs false
set_option linter.unusedVariables false
namespace Go.Baro
open Go.RowKit (wrap64)

/-- An operation: when it began and ended (-1: it has not), whether it puts, its value, what it adds. -/
structure Ac where
  b : Int
  e : Int
  put : Bool
  v : Int
  add : Int
/-- What an object of kind k that has these numbers tells, and has then. -/
def tel (k : Int) (has : List Int) (a : Ac) : Int × List Int :=
  if k = 1 then (if a.put = true then (a.v, [a.v]) else (has.headD 0, has))
  else if k = 2 then (has.headD 0, [wrap64 (has.headD 0 + a.add)])
  else if a.put = true then (a.v, has ++ [a.v])
  else if has = [] then (-1, has)
  else if k = 3 then (has.headD 0, has.tail)
  else (has.getLastD 0, has.dropLast)
/-- The operations that are left can be put behind one another; those that have not ended may be left out. -/
inductive Lin (k : Int) : List Int → List Ac → Prop
  | done {has : List Int} {left : List Ac} (h : ∀ a ∈ left, a.e = -1) : Lin k has left
  | step {has : List Int} {left : List Ac} (a : Ac) (rest : List Ac) (hp : left.Perm (a :: rest)) (hf : ∀ b ∈ left, b.e ≠ -1 → a.b ≤ b.e) (ht : a.e ≠ -1 → (tel k has a).1 = a.v) (h : Lin k (tel k has a).2 rest) : Lin k has left
section
variable {k : Int} {has : List Int} {left left' : List Ac}
/-- How they are listed does not matter. -/
theorem Lin.perm (h : Lin k has left) (hp : left.Perm left') : Lin k has left' := by
  cases h with
  | done h => exact .done fun a ha => h a (hp.mem_iff.2 ha)
  | step a rest hq hf ht h => exact .step a rest (hp.symm.trans hq) (fun b hb => hf b (hp.mem_iff.2 hb)) ht h
/-- One that has not ended harms nothing. -/
theorem Lin.more (h : Lin k has left) {x : Ac} (hx : x.e = -1) : Lin k has (x :: left) := by
  induction h with
  | done h => exact .done fun a ha => by rcases List.mem_cons.1 ha with rfl | ha; exact hx; exact h a ha
  | @step has left a rest hq hf ht h ih =>
    refine .step a (x :: rest) ((List.Perm.cons x hq).trans (List.Perm.swap a x rest)) (fun b hb hb1 => ?_) ht ih
    rcases List.mem_cons.1 hb with rfl | hb
    · exact absurd hx hb1
    · exact hf b hb hb1
/-- Other times: what has ended then had ended, and whoever could come first still can. -/
theorem Lin.map {f : Ac → Ac} (h : Lin k has left) (h1 : ∀ a ∈ left, (f a).e ≠ -1 → a.e ≠ -1) (h2 : ∀ a ∈ left, (f a).put = a.put ∧ (f a).v = a.v ∧ (f a).add = a.add) (h3 : ∀ a ∈ left, ∀ b ∈ left, (f b).e ≠ -1 → a.b ≤ b.e → (f a).b ≤ (f b).e) : Lin k has (left.map f) := by
  have htel : ∀ (has : List Int) (a : Ac), (f a).put = a.put ∧ (f a).v = a.v ∧ (f a).add = a.add → tel k has (f a) = tel k has a := fun has a hh => by
    unfold tel
    rw [hh.1, hh.2.1, hh.2.2]
  induction h with
  | @done has left h =>
    refine .done fun a ha => ?_
    obtain ⟨c, hc, rfl⟩ := List.mem_map.1 ha
    by_cases he : (f c).e = -1
    · exact he
    · exact absurd (h c hc) (h1 c hc he)
  | @step has left a rest hq hf ht h ih =>
    have ha : a ∈ left := hq.mem_iff.2 (by simp)
    have hr : ∀ c, c ∈ rest → c ∈ left := fun c hc => hq.mem_iff.2 (by simp [hc])
    refine .step (f a) (rest.map f) (hq.map f) (fun b hb hb1 => ?_) (fun h5 => ?_) ?_
    · obtain ⟨c, hc, rfl⟩ := List.mem_map.1 hb
      exact h3 a ha c hc hb1 (hf c hc (h1 c hc hb1))
    · rw [htel has a (h2 a ha), (h2 a ha).2.1]
      exact ht (h1 a ha h5)
    · rw [htel has a (h2 a ha)]
      exact ih (fun c hc => h1 c (hr c hc)) (fun c hc => h2 c (hr c hc)) (fun c hc d hd => h3 c (hr c hc) d (hr d hd))
/-- All of them as much later. -/
def shA (d : Int) (a : Ac) : Ac := { a with b := a.b + d, e := if a.e = -1 then -1 else a.e + d }
theorem lin_later {d : Int} (hd : 0 ≤ d) (he : ∀ a ∈ left, -1 ≤ a.e) : Lin k has (left.map (shA d)) ↔ Lin k has left := by
  refine ⟨fun h => ?_, fun h => ?_⟩
  · have hm : (left.map (shA d)).map (fun a => { a with b := a.b - d, e := if a.e = -1 then -1 else a.e - d }) = left := by
      rw [List.map_map]
      conv => rhs; rw [← List.map_id left]
      refine List.map_congr_left fun a ha => ?_
      have := he a ha
      obtain ⟨b, e, put, v, add⟩ := a
      dsimp only at this
      simp only [Function.comp, shA, id]
      by_cases h1 : e = -1
      · subst h1; simp
      · rw [if_neg h1, if_neg (by omega)]; simp
    rw [← hm]
    refine h.map (fun a ha => ?_) (fun a ha => ⟨rfl, rfl, rfl⟩) (fun a ha b hb => ?_)
    · dsimp only
      split
      · intro hh; exact absurd rfl hh
      · intro _; assumption
    · dsimp only
      split
      · intro hh; exact absurd rfl hh
      · intro _ _; omega
  · refine h.map (fun a ha => ?_) (fun a ha => ⟨rfl, rfl, rfl⟩) (fun a ha b hb => ?_)
    · unfold shA
      dsimp only
      split
      · intro hh; exact absurd rfl hh
      · intro _; assumption
    · unfold shA
      dsimp only
      split
      · intro hh; exact absurd rfl hh
      · intro _ _; omega
end
/-- One behind the other, each tells its value. -/
def runs (k : Int) : List Int → List Ac → Prop
  | _, [] => True
  | has, a :: l => (tel k has a).1 = a.v ∧ runs k (tel k has a).2 l
/-- In this order they can come; those behind them that have not ended are left out. -/
theorem lin_part {k : Int} {l2 : List Ac} (h2 : ∀ a ∈ l2, a.e = -1) : ∀ (l1 : List Ac) (has : List Int), runs k has l1 → l1.Pairwise (fun a b => b.e ≠ -1 → a.b ≤ b.e) → (∀ a ∈ l1, a.e ≠ -1 → a.b ≤ a.e) → Lin k has (l1 ++ l2)
  | [], has, _, _, _ => .done h2
  | a :: l1, has, hr, hp, hs => by
    rw [List.pairwise_cons] at hp
    refine .step a (l1 ++ l2) (List.Perm.refl _) (fun b hb hb1 => ?_) (fun _ => hr.1) (lin_part h2 l1 _ hr.2 hp.2 (fun b hb => hs b (by simp [hb])))
    rw [List.cons_append] at hb
    rcases List.mem_cons.1 hb with rfl | hb
    · exact hs _ (by simp) hb1
    · rcases List.mem_append.1 hb with hb | hb
      · exact hp.1 b hb hb1
      · exact absurd (h2 b hb) hb1
theorem lin_seq {k : Int} {l : List Ac} {has : List Int} (hr : runs k has l) (hp : l.Pairwise (fun a b => b.e ≠ -1 → a.b ≤ b.e)) (hs : ∀ a ∈ l, a.e ≠ -1 → a.b ≤ a.e) : Lin k has l := by
  have := lin_part (l2 := []) (by simp) l has hr hp hs
  rwa [List.append_nil] at this
/-- Where each has ended before the next began there is one order alone. -/
theorem lin_only {k : Int} : ∀ (l : List Ac) (has : List Int), Lin k has l → l.Pairwise (fun a b => a.e < b.b) → (∀ a ∈ l, a.e ≠ -1) → runs k has l
  | [], has, _, _, _ => trivial
  | a :: l, has, h, hp, he => by
    rw [List.pairwise_cons] at hp
    cases h with
    | done h => exact absurd (h a (by simp)) (he a (by simp))
    | step c rest hq hf ht h =>
      have hc : c ∈ a :: l := hq.mem_iff.2 (by simp)
      have hca : c = a := by
        rcases List.mem_cons.1 hc with rfl | hc
        · rfl
        · have h1 := hp.1 c hc
          have h2 := hf a (by simp) (he a (by simp))
          omega
      subst hca
      have hpr : l.Perm rest := List.Perm.cons_inv hq
      exact ⟨ht (he c (by simp)), lin_only l _ (h.perm hpr.symm) hp.2 (fun b hb => he b (by simp [hb]))⟩
end Go.Baro

set_option linter.unusedSimpArgs false
set_option linter.unusedVariables false
namespace Go.Baro
open Go.RowKit (wrap64)

theorem perm_erase {α : Type} {l : List α} {i : Nat} {a : α} (h : l[i]? = some a) : l.Perm (a :: l.eraseIdx i) := by
  obtain ⟨hi, rfl⟩ := List.getElem?_eq_some_iff.1 h
  rw [List.eraseIdx_eq_take_drop_succ]
  conv => lhs; rw [← List.take_append_drop i l, List.drop_eq_getElem_cons hi]
  exact List.perm_middle
/-- Who comes first. -/
theorem lin_iff {k : Int} {has : List Int} {left : List Ac} : Lin k has left ↔ (∀ a ∈ left, a.e = -1) ∨ ∃ i a, left[i]? = some a ∧ (∀ b ∈ left, b.e ≠ -1 → a.b ≤ b.e) ∧ (a.e ≠ -1 → (tel k has a).1 = a.v) ∧ Lin k (tel k has a).2 (left.eraseIdx i) := by
  refine ⟨fun h => ?_, fun h => ?_⟩
  · cases h with
    | done h => exact .inl h
    | step a rest hp hf ht h =>
      obtain ⟨i, hi, he⟩ := List.getElem_of_mem (hp.mem_iff.2 (List.mem_cons_self (a := a) (l := rest)))
      have hi2 : left[i]? = some a := by rw [List.getElem?_eq_getElem hi, he]
      exact .inr ⟨i, a, hi2, hf, ht, h.perm (List.Perm.cons_inv (hp.symm.trans (perm_erase hi2)))⟩
  · rcases h with h | ⟨i, a, hi, hf, ht, h⟩
    · exact .done h
    · exact .step a _ (perm_erase hi) hf ht h
/-- Of another value that is read, taken or was there the run does not tell. -/
theorem tel_v {k : Int} {has : List Int} {a : Ac} (h : k = 2 ∨ a.put = false) (v : Int) : tel k has { a with v := v } = tel k has a := by
  unfold tel
  rcases h with h | h
  · subst h; simp
  · simp [h]
theorem runs_not {k : Int} {v : Int} : ∀ (l : List Ac) (has : List Int) (i : Nat) (a : Ac), runs k has l → l[i]? = some a → (k = 2 ∨ a.put = false) → v ≠ a.v → ¬ runs k has (l.set i { a with v := v })
  | [], has, i, a, _, h, _, _ => by simp at h
  | c :: l, has, 0, a, hr, h, hk, hv => by
    simp only [List.getElem?_cons_zero, Option.some.injEq] at h
    subst h
    intro hn
    have h1 := hn.1
    rw [tel_v hk] at h1
    exact hv (h1.symm.trans hr.1)
  | c :: l, has, i + 1, a, hr, h, hk, hv => fun hn => runs_not l _ i a hr.2 (by simpa using h) hk hv hn.2
theorem runs_map {k : Int} {f : Ac → Ac} (hf : ∀ a, (f a).put = a.put ∧ (f a).v = a.v ∧ (f a).add = a.add) : ∀ (l : List Ac) (has : List Int), runs k has l → runs k has (l.map f)
  | [], _, _ => trivial
  | a :: l, has, h => by
    have e : tel k has (f a) = tel k has a := by unfold tel; rw [(hf a).1, (hf a).2.1, (hf a).2.2]
    exact ⟨by rw [e, (hf a).2.1]; exact h.1, by rw [e]; exact runs_map hf l _ h.2⟩
/-- A deal: put, a value, how much earlier, how much later, not ended. -/
structure Dl where
  put : Bool
  v : Int
  early : Int
  late : Int
  opn : Bool
/-- What the object tells, what is added, what it has then. -/
def tl (k : Int) (has : List Int) (put : Bool) (v : Int) : Int × Int × List Int :=
  if k = 1 then (if put = true then (v, 0, [v]) else (has.headD 0, 0, has))
  else if k = 2 then (if put = true then (has.headD 0, v, [wrap64 (has.headD 0 + v)]) else (has.headD 0, 0, has))
  else if put = true then (v, 0, has ++ [v])
  else if has = [] then (-1, 0, has)
  else if k = 3 then (has.headD 0, 0, has.tail)
  else (has.getLastD 0, 0, has.dropLast)
def acT (i : Nat) (d : Dl) (wide : Bool) (v add : Int) : Ac :=
  ⟨100 + 10 * i - (if wide = true then d.early % 40 else 0), if wide = true then (if d.opn = true then -1 else 105 + 10 * i + d.late % 40) else 105 + 10 * i, d.put, v, add⟩
def sqA (k : Int) (wide : Bool) : Nat → List Int → List Dl → List Ac
  | _, _, [] => []
  | i, has, d :: l => acT i d wide (tl k has d.put (d.v % 4)).1 (tl k has d.put (d.v % 4)).2.1 :: sqA k wide (i + 1) (tl k has d.put (d.v % 4)).2.2 l
/-- Of a register and a counter one number is there. -/
def okH (k : Int) (has : List Int) : Prop := k = 2 → ∃ x, has = [x] ∧ wrap64 x = x
theorem wrap_twice (x : Int) : wrap64 (wrap64 x) = wrap64 x := by unfold wrap64; omega
theorem tl_ok {k : Int} {has : List Int} (h : okH k has) (put : Bool) (v : Int) : okH k (tl k has put v).2.2 := by
  intro hk
  obtain ⟨x, rfl, hx⟩ := h hk
  subst hk
  unfold tl
  rw [if_neg (by decide), if_pos rfl]
  cases put with
  | true => exact ⟨_, rfl, wrap_twice _⟩
  | false => exact ⟨x, rfl, hx⟩
theorem tel_tl {k : Int} {has : List Int} (h : okH k has) (i : Nat) (d : Dl) (wide : Bool) : tel k has (acT i d wide (tl k has d.put (d.v % 4)).1 (tl k has d.put (d.v % 4)).2.1) = ((tl k has d.put (d.v % 4)).1, (tl k has d.put (d.v % 4)).2.2) := by
  unfold tel tl acT
  dsimp only
  by_cases h1 : k = 1
  · rw [if_pos h1, if_pos h1]; cases d.put <;> rfl
  · rw [if_neg h1, if_neg h1]
    by_cases h2 : k = 2
    · rw [if_pos h2, if_pos h2]
      obtain ⟨x, rfl, hx⟩ := h h2
      cases d.put with
      | true => rfl
      | false => simp [hx]
    · rw [if_neg h2, if_neg h2]
      cases d.put with
      | true => rfl
      | false =>
        simp only [Bool.false_eq_true, if_false]
        split
        · rfl
        · split <;> rfl
theorem sq_runs (k : Int) (wide : Bool) : ∀ (l : List Dl) (i : Nat) (has : List Int), okH k has → runs k has (sqA k wide i has l)
  | [], _, _, _ => trivial
  | d :: l, i, has, h => by
    have e := tel_tl h i d wide
    refine ⟨by rw [e]; rfl, ?_⟩
    rw [e]
    exact sq_runs k wide l (i + 1) _ (tl_ok h _ _)
/-- When they begin and end. -/
theorem sq_at (k : Int) (wide : Bool) : ∀ (l : List Dl) (i : Nat) (has : List Int) (a : Ac), a ∈ sqA k wide i has l → ∃ j : Nat, i ≤ j ∧ 100 + 10 * (j : Int) - 40 < a.b ∧ a.b ≤ 100 + 10 * (j : Int) ∧ (a.e = -1 ∨ 105 + 10 * (j : Int) ≤ a.e)
  | [], _, _, a, h => by simp [sqA] at h
  | d :: l, i, has, a, h => by
    rcases List.mem_cons.1 h with h | h
    · refine ⟨i, Nat.le_refl _, ?_⟩
      subst h
      unfold acT
      dsimp only
      cases wide with
      | false => simp; omega
      | true =>
        simp only [if_true]
        cases d.opn with
        | true => simp; omega
        | false => simp; omega
    · obtain ⟨j, h1, h2⟩ := sq_at k wide l (i + 1) _ a h
      exact ⟨j, by omega, h2⟩
theorem sq_self (k : Int) (wide : Bool) (l : List Dl) (i : Nat) (has : List Int) : ∀ a ∈ sqA k wide i has l, a.e ≠ -1 → a.b ≤ a.e := by
  intro a ha he
  obtain ⟨j, _, _, h1, h2⟩ := sq_at k wide l i has a ha
  omega
theorem sq_pair (k : Int) (wide : Bool) : ∀ (l : List Dl) (i : Nat) (has : List Int), (sqA k wide i has l).Pairwise (fun a b => b.e ≠ -1 → a.b ≤ b.e)
  | [], _, _ => List.Pairwise.nil
  | d :: l, i, has => by
    unfold sqA
    rw [List.pairwise_cons]
    refine ⟨fun b hb he => ?_, sq_pair k wide l (i + 1) _⟩
    obtain ⟨j, h0, _, _, h2⟩ := sq_at k wide l (i + 1) _ b hb
    have : (acT i d wide (tl k has d.put (d.v % 4)).1 (tl k has d.put (d.v % 4)).2.1).b ≤ 100 + 10 * (i : Int) := by
      unfold acT
      dsimp only
      cases wide <;> simp <;> omega
    omega
/-- A history that went one behind the other, also with other times, can be put in order. -/
theorem sq_lin {k : Int} {has : List Int} (h : okH k has) (wide : Bool) (l : List Dl) (i : Nat) : Lin k has (sqA k wide i has l) := lin_seq (sq_runs k wide l i has h) (sq_pair k wide l i has) (sq_self k wide l i has)
theorem sq_strict (k : Int) : ∀ (l : List Dl) (i : Nat) (has : List Int), (sqA k false i has l).Pairwise (fun a b => a.e < b.b) ∧ ∀ a ∈ sqA k false i has l, a.e ≠ -1 ∧ 100 + 10 * (i : Int) ≤ a.b
  | [], _, _ => ⟨List.Pairwise.nil, by simp [sqA]⟩
  | d :: l, i, has => by
    obtain ⟨h1, h2⟩ := sq_strict k l (i + 1) (tl k has d.put (d.v % 4)).2.2
    unfold sqA
    refine ⟨List.pairwise_cons.2 ⟨fun b hb => ?_, h1⟩, fun a ha => ?_⟩
    · have := (h2 b hb).2
      unfold acT
      simp
      omega
    · rcases List.mem_cons.1 ha with rfl | ha
      · unfold acT; simp; omega
      · have := h2 a ha; omega
/-- With another value it cannot. -/
theorem sq_tells {k : Int} {has : List Int} (h : okH k has) (l : List Dl) (i j : Nat) {a : Ac} {v : Int} (ha : (sqA k false i has l)[j]? = some a) (hk : k = 2 ∨ a.put = false) (hv : v ≠ a.v) : ¬ Lin k has ((sqA k false i has l).set j { a with v := v }) := by
  intro hl
  obtain ⟨h1, h2⟩ := sq_strict k l i has
  refine runs_not _ has j a (sq_runs k false l i has h) ha hk hv (lin_only _ has hl ?_ ?_)
  · rw [List.pairwise_iff_getElem] at h1 ⊢
    intro p q hp hq hpq
    simp only [List.length_set] at hp hq
    have hh := h1 p q hp hq hpq
    have hx : ∀ (p : Nat) (hp : p < (sqA k false i has l).length), ((sqA k false i has l).set j { a with v := v })[p]'(by simpa using hp) = (sqA k false i has l)[p] ∨ (((sqA k false i has l).set j { a with v := v })[p]'(by simpa using hp) = { a with v := v } ∧ (sqA k false i has l)[p] = a) := by
      intro p hp
      rw [List.getElem_set]
      by_cases hjp : j = p
      · subst hjp
        rw [if_pos rfl]
        rw [List.getElem?_eq_getElem hp] at ha
        exact .inr ⟨rfl, Option.some.inj ha⟩
      · rw [if_neg hjp]; exact .inl rfl
    rcases hx p hp with e1 | ⟨e1, e1'⟩ <;> rcases hx q hq with e2 | ⟨e2, e2'⟩
    · rw [e1, e2]; exact hh
    · rw [e1, e2]; rw [e2'] at hh; exact hh
    · rw [e1, e2]; rw [e1'] at hh; exact hh
    · rw [e1, e2]; rw [e1', e2'] at hh; exact hh
  · intro c hc
    rcases List.mem_or_eq_of_mem_set hc with hc | rfl
    · exact (h2 c hc).1
    · exact (h2 a (List.mem_of_getElem? ha)).1
/-- The beginning of a history, up to time t. -/
def cutA (t : Int) (a : Ac) : Ac := { a with e := if t < a.e then -1 else a.e }
def partA (t : Int) (l : List Ac) : List Ac := (l.filter fun a => decide (a.b ≤ t)).map (cutA t)
theorem sq_part {k : Int} {wide : Bool} {t : Int} : ∀ (l : List Dl) (i : Nat) (has : List Int), okH k has → Lin k has (partA t (sqA k wide i has l)) := by
  have key : ∀ (l : List Dl) (i : Nat) (has : List Int), okH k has → ∃ l1 l2, partA t (sqA k wide i has l) = l1 ++ l2 ∧ runs k has l1 ∧ l1.Pairwise (fun a b => b.e ≠ -1 → a.b ≤ b.e) ∧ (∀ a ∈ l1, a.e ≠ -1 → a.b ≤ a.e) ∧ (∀ a ∈ l2, a.e = -1) ∧ ∀ a ∈ l1, a.e = -1 ∨ 105 + 10 * (i : Int) ≤ a.e := by
    intro l
    induction l with
    | nil => intro i has h; exact ⟨[], [], rfl, trivial, List.Pairwise.nil, by simp, by simp, by simp⟩
    | cons d l ih =>
      intro i has h
      have hb : (acT i d wide (tl k has d.put (d.v % 4)).1 (tl k has d.put (d.v % 4)).2.1).b ≤ 100 + 10 * (i : Int) := by
        unfold acT
        dsimp only
        cases wide <;> simp <;> omega
      have hself := sq_self k wide (d :: l) i has _ (List.mem_cons_self)
      have hself2 := sq_at k wide (d :: l) i has _ (List.mem_cons_self)
      obtain ⟨l1, l2, e1, e2, e3, e4, e5, e6⟩ := ih (i + 1) _ (tl_ok h d.put (d.v % 4))
      have htel := tel_tl h i d wide
      unfold sqA
      generalize hA : acT i d wide (tl k has d.put (d.v % 4)).1 (tl k has d.put (d.v % 4)).2.1 = A at hb hself hself2 htel ⊢
      by_cases hAt : A.b ≤ t
      · refine ⟨cutA t A :: l1, l2, ?_, ?_, ?_, ?_, e5, ?_⟩
        · unfold partA at e1 ⊢
          rw [List.filter_cons_of_pos (by simpa using hAt), List.map_cons, e1, List.cons_append]
        · have e : tel k has (cutA t A) = tel k has A := rfl
          refine ⟨by rw [e, htel, ← hA]; rfl, by rw [e, htel]; exact e2⟩
        · rw [List.pairwise_cons]
          refine ⟨fun b hb2 hb3 => ?_, e3⟩
          rcases e6 b hb2 with h1 | h1
          · exact absurd h1 hb3
          · show A.b ≤ b.e
            omega
        · intro a ha ha2
          rcases List.mem_cons.1 ha with rfl | ha
          · unfold cutA at ha2 ⊢
            dsimp only at ha2 ⊢
            split at ha2
            · exact absurd rfl ha2
            · rename_i hh
              rw [if_neg hh]
              exact hself ha2
          · exact e4 a ha ha2
        · intro a ha
          rcases List.mem_cons.1 ha with rfl | ha
          · unfold cutA
            dsimp only
            split
            · exact .inl rfl
            · rw [← hA]
              unfold acT
              dsimp only
              cases wide with
              | false => simp
              | true => cases d.opn <;> simp <;> omega
          · rcases e6 a ha with h1 | h1
            · exact .inl h1
            · right; omega
      · refine ⟨[], l1 ++ l2, ?_, trivial, List.Pairwise.nil, by simp, ?_, by simp⟩
        · unfold partA at e1 ⊢
          rw [List.filter_cons_of_neg (by simpa using hAt), e1, List.nil_append]
        · intro a ha
          rcases List.mem_append.1 ha with ha1 | ha
          · rcases e6 a ha1 with h1 | h1
            · exact h1
            · have hm : a ∈ partA t (sqA k wide (i + 1) (tl k has d.put (d.v % 4)).2.2 l) := by rw [e1]; exact ha
              unfold partA at hm
              obtain ⟨c, hc, rfl⟩ := List.mem_map.1 hm
              unfold cutA at h1 ⊢
              dsimp only at h1 ⊢
              split at h1
              · rename_i hh; rw [if_pos hh]
              · rename_i hh; omega
          · exact e5 a ha
  intro l i has h
  obtain ⟨l1, l2, e1, e2, e3, e4, e5, _⟩ := key l i has h
  rw [e1]
  exact lin_part e5 l1 has e2 e3 e4
end Go.Baro

set_option linter.unusedSimpArgs false
set_option linter.unusedVariables false
namespace Go.Baro
open Go.ChangeShapes Go.WideShapes Go.ChangeAt Go.RowKit

theorem flatMap_at {α : Type} {s : Nat} {f : α → List Value} (hf : ∀ x, (f x).length = s) : ∀ (ls : List α) (i j : Nat) (x : α), ls[i]? = some x → j < s → (ls.flatMap f)[i * s + j]? = (f x)[j]?
  | [], i, j, x, h, _ => by simp at h
  | y :: ls, 0, j, x, h, hj => by
    simp only [List.getElem?_cons_zero, Option.some.injEq] at h
    subst h
    rw [List.flatMap_cons, Nat.zero_mul, Nat.zero_add, List.getElem?_append_left (by rw [hf]; exact hj)]
  | y :: ls, i + 1, j, x, h, hj => by
    rw [List.flatMap_cons, List.getElem?_append_right (by rw [hf, Nat.succ_mul]; omega), hf, show (i + 1) * s + j - s = i * s + j by rw [Nat.succ_mul]; omega]
    exact flatMap_at hf ls i j x (by simpa using h) hj
theorem flatMap_len {α : Type} {s : Nat} {f : α → List Value} (hf : ∀ x, (f x).length = s) : ∀ (ls : List α), (ls.flatMap f).length = ls.length * s
  | [] => by simp
  | y :: ls => by rw [List.flatMap_cons, List.length_append, hf, flatMap_len hf ls, List.length_cons, Nat.succ_mul]; omega
/-- The cells of an operation, of a deal. -/
def acV (a : Ac) : List Value := [.int .i64 a.b, .int .i64 a.e, .bool a.put, .int .i64 a.v, .int .i64 a.add]
def dlV (a : Dl) : List Value := [.bool a.put, .int .i64 a.v, .int .i64 a.early, .int .i64 a.late, .bool a.opn]
theorem acV_len (a : Ac) : (acV a).length = 5 := rfl
theorem dlV_len (a : Dl) : (dlV a).length = 5 := rfl
def RA (w : World) (B : Nat) (A : Option Addr) (n : Nat) (ls : List Ac) : Prop := Rd w B 5 A n (ls.flatMap acV)
def RD (w : World) (B : Nat) (A : Option Addr) (n : Nat) (ls : List Dl) : Prop := Rd w B 5 A n (ls.flatMap dlV)
section
variable {w w' : World} {B B' n : Nat} {A : Option Addr}
theorem RA.below {ls : List Ac} (h : RA w B A n ls) (hb : Below B w w') : RA w' B A n ls := Rd.below h hb
theorem RA.more {ls : List Ac} (h : RA w B A n ls) (hB : B ≤ B') : RA w B' A n ls := Rd.more h hB
theorem RD.below {ls : List Dl} (h : RD w B A n ls) (hb : Below B w w') : RD w' B A n ls := Rd.below h hb
theorem RD.more {ls : List Dl} (h : RD w B A n ls) (hB : B ≤ B') : RD w B' A n ls := Rd.more h hB
theorem RA.len {ls : List Ac} (h : RA w B A n ls) : ls.length = n := by have := Rd.len h; rw [flatMap_len acV_len] at this; omega
theorem RD.len {ls : List Dl} (h : RD w B A n ls) : ls.length = n := by have := Rd.len h; rw [flatMap_len dlV_len] at this; omega
theorem RA.val {ls : List Ac} (h : RA w B A n ls) {i : Nat} (hi : i < n) : ∃ b o x, A = some ⟨b, o, none⟩ ∧ b < B ∧ w.cell? ⟨b, o + i * 5, none⟩ = some (.int .i64 x.b) ∧ w.cell? ⟨b, o + i * 5 + 1, none⟩ = some (.int .i64 x.e) ∧ w.cell? ⟨b, o + i * 5 + 2, none⟩ = some (.bool x.put) ∧ w.cell? ⟨b, o + i * 5 + 3, none⟩ = some (.int .i64 x.v) ∧
    w.cell? ⟨b, o + i * 5 + 4, none⟩ = some (.int .i64 x.add) ∧ Hid (ls[i]? = some x) ∧ x ∈ ls := by
  have hl := h.len
  have hi2 : i < ls.length := by omega
  obtain ⟨b, o, hA, hb, hc⟩ := Rd.at_ h (by omega)
  have key : ∀ j, j < 5 → w.cell? ⟨b, o + i * 5 + j, none⟩ = (acV ls[i])[j]? := fun j hj => by
    rw [Nat.add_assoc, hc _ (by omega), flatMap_at acV_len ls i j _ (List.getElem?_eq_getElem hi2) hj]
  exact ⟨b, o, ls[i], hA, hb, key 0 (by omega), key 1 (by omega), key 2 (by omega), key 3 (by omega), key 4 (by omega), List.getElem?_eq_getElem hi2, List.getElem_mem hi2⟩
theorem RD.val {ls : List Dl} (h : RD w B A n ls) {i : Nat} (hi : i < n) : ∃ b o x, A = some ⟨b, o, none⟩ ∧ b < B ∧ w.cell? ⟨b, o + i * 5, none⟩ = some (.bool x.put) ∧ w.cell? ⟨b, o + i * 5 + 1, none⟩ = some (.int .i64 x.v) ∧ w.cell? ⟨b, o + i * 5 + 2, none⟩ = some (.int .i64 x.early) ∧ w.cell? ⟨b, o + i * 5 + 3, none⟩ = some (.int .i64 x.late) ∧
    w.cell? ⟨b, o + i * 5 + 4, none⟩ = some (.bool x.opn) ∧ Hid (ls[i]? = some x) ∧ x ∈ ls := by
  have hl := h.len
  have hi2 : i < ls.length := by omega
  obtain ⟨b, o, hA, hb, hc⟩ := Rd.at_ h (by omega)
  have key : ∀ j, j < 5 → w.cell? ⟨b, o + i * 5 + j, none⟩ = (dlV ls[i])[j]? := fun j hj => by
    rw [Nat.add_assoc, hc _ (by omega), flatMap_at dlV_len ls i j _ (List.getElem?_eq_getElem hi2) hj]
  exact ⟨b, o, ls[i], hA, hb, key 0 (by omega), key 1 (by omega), key 2 (by omega), key 3 (by omega), key 4 (by omega), List.getElem?_eq_getElem hi2, List.getElem_mem hi2⟩
end
def inA (a : Ac) : Prop := inW a.b ∧ inW a.e ∧ inW a.v ∧ inW a.add
def inD (a : Dl) : Prop := inW a.v ∧ inW a.early ∧ inW a.late
section
variable {H : Type} {enc : TypeId × Value → H} {P : Program} {W : World}
/-- A slice of operations that came in. -/
theorem open_RA {t e i y : TypeId} {f0 f1 f2 f3 f4 : Field} {a : Option Addr} {len cap : Nat} {d : DataW H} {p : List MemPlace} (ht : P.underlying t = some (.slice e)) (he : P.underlying e = some (.struct #[f0, f1, f2, f3, f4])) (hc : P.cellsOf e = 5)
    (hi : P.underlying i = some (.int .i64)) (hci : P.cellsOf i = 1) (hy : P.underlying y = some .bool) (hcy : P.cellsOf y = 1) (hf : [f0, f1, f2, f3, f4].map (fun f => (f.type, f.offset)) = [(i, 0), (i, 1), (y, 2), (i, 3), (i, 4)])
    (h : DataW.Trod enc P W 0 (fun _ => true) true t (.slice a len cap) d p) :
    ∃ fs : List Ac, RA W W.heap.size a len fs ∧ (∀ f ∈ fs, inA f) ∧ len ≤ cap ∧ ((len = 0 ∧ d = .nil) ∨ ∃ el sp, d = .slice el sp ∧ el.length = len) := by
  obtain ⟨rows, hr, hl, hrow, hlc, hd⟩ := open_rows ht hc (by decide) h
  simp only [List.map_cons, List.map_nil, List.cons.injEq, Prod.mk.injEq, and_true] at hf
  obtain ⟨⟨e0, o0⟩, ⟨e1, o1⟩, ⟨e2, o2⟩, ⟨e3, o3⟩, e4, o4⟩ := hf
  obtain ⟨fs, rfl, hp⟩ := map_of (f := acV) (p := inA) rows (by
      intro r hr
      obtain ⟨hlr, y', n, hy'⟩ := hrow r hr
      obtain ⟨xs, m, _, _, hlen, hlx, hfx⟩ := DataW.trod_struct he hy'
      have hjx : ∀ (j : Nat) (f : Field), #[f0, f1, f2, f3, f4][j]? = some f → j < xs.length := fun j f hj => by
        have := (Array.getElem?_eq_some_iff.1 hj).1
        simp at this hlx; omega
      have g : ∀ (j : Nat) (f : Field), #[f0, f1, f2, f3, f4][j]? = some f → f.type = i → ∃ v, (r.drop f.offset).take 1 = [.int .i64 v] ∧ inW v := by
        intro j f hj hfi
        have h0 := hfx j f hj
        rw [List.getElem?_eq_getElem (hjx j f hj), hfi, hci] at h0
        obtain ⟨u, hu, _, wu⟩ := DataW.trod_int hi h0
        exact ⟨u, hu, bounds_i64 wu⟩
      have gb : ∀ (j : Nat) (f : Field), #[f0, f1, f2, f3, f4][j]? = some f → f.type = y → ∃ v, (r.drop f.offset).take 1 = [.bool v] := by
        intro j f hj hfi
        have h0 := hfx j f hj
        rw [List.getElem?_eq_getElem (hjx j f hj), hfi, hcy] at h0
        obtain ⟨u, hu, _⟩ := DataW.trod_bool hy h0
        exact ⟨u, hu⟩
      obtain ⟨v0, h0, w0⟩ := g 0 f0 rfl e0
      obtain ⟨v1, h1, w1⟩ := g 1 f1 rfl e1
      obtain ⟨v2, h2⟩ := gb 2 f2 rfl e2
      obtain ⟨v3, h3, w3⟩ := g 3 f3 rfl e3
      obtain ⟨v4, h4, w4⟩ := g 4 f4 rfl e4
      rw [o0] at h0; rw [o1] at h1; rw [o2] at h2; rw [o3] at h3; rw [o4] at h4
      match r, hlr with
      | [c0, c1, c2, c3, c4], _ =>
        simp at h0 h1 h2 h3 h4
        exact ⟨⟨v0, v1, v2, v3, v4⟩, by simp [acV, h0, h1, h2, h3, h4], w0, w1, w3, w4⟩)
  refine ⟨fs, ?_, hp, hlc, hd⟩
  have : fs.flatMap acV = (fs.map acV).flatten := by simp [List.flatMap]
  unfold RA
  rw [this]
  exact hr
/-- A slice of deals that came in. -/
theorem open_RD {t e i y : TypeId} {f0 f1 f2 f3 f4 : Field} {a : Option Addr} {len cap : Nat} {d : DataW H} {p : List MemPlace} (ht : P.underlying t = some (.slice e)) (he : P.underlying e = some (.struct #[f0, f1, f2, f3, f4])) (hc : P.cellsOf e = 5)
    (hi : P.underlying i = some (.int .i64)) (hci : P.cellsOf i = 1) (hy : P.underlying y = some .bool) (hcy : P.cellsOf y = 1) (hf : [f0, f1, f2, f3, f4].map (fun f => (f.type, f.offset)) = [(y, 0), (i, 1), (i, 2), (i, 3), (y, 4)])
    (h : DataW.Trod enc P W 0 (fun _ => true) true t (.slice a len cap) d p) :
    ∃ fs : List Dl, RD W W.heap.size a len fs ∧ (∀ f ∈ fs, inD f) ∧ len ≤ cap ∧ ((len = 0 ∧ d = .nil) ∨ ∃ el sp, d = .slice el sp ∧ el.length = len) := by
  obtain ⟨rows, hr, hl, hrow, hlc, hd⟩ := open_rows ht hc (by decide) h
  simp only [List.map_cons, List.map_nil, List.cons.injEq, Prod.mk.injEq, and_true] at hf
  obtain ⟨⟨e0, o0⟩, ⟨e1, o1⟩, ⟨e2, o2⟩, ⟨e3, o3⟩, e4, o4⟩ := hf
  obtain ⟨fs, rfl, hp⟩ := map_of (f := dlV) (p := inD) rows (by
      intro r hr
      obtain ⟨hlr, y', n, hy'⟩ := hrow r hr
      obtain ⟨xs, m, _, _, hlen, hlx, hfx⟩ := DataW.trod_struct he hy'
      have hjx : ∀ (j : Nat) (f : Field), #[f0, f1, f2, f3, f4][j]? = some f → j < xs.length := fun j f hj => by
        have := (Array.getElem?_eq_some_iff.1 hj).1
        simp at this hlx; omega
      have g : ∀ (j : Nat) (f : Field), #[f0, f1, f2, f3, f4][j]? = some f → f.type = i → ∃ v, (r.drop f.offset).take 1 = [.int .i64 v] ∧ inW v := by
        intro j f hj hfi
        have h0 := hfx j f hj
        rw [List.getElem?_eq_getElem (hjx j f hj), hfi, hci] at h0
        obtain ⟨u, hu, _, wu⟩ := DataW.trod_int hi h0
        exact ⟨u, hu, bounds_i64 wu⟩
      have gb : ∀ (j : Nat) (f : Field), #[f0, f1, f2, f3, f4][j]? = some f → f.type = y → ∃ v, (r.drop f.offset).take 1 = [.bool v] := by
        intro j f hj hfi
        have h0 := hfx j f hj
        rw [List.getElem?_eq_getElem (hjx j f hj), hfi, hcy] at h0
        obtain ⟨u, hu, _⟩ := DataW.trod_bool hy h0
        exact ⟨u, hu⟩
      obtain ⟨v0, h0⟩ := gb 0 f0 rfl e0
      obtain ⟨v1, h1, w1⟩ := g 1 f1 rfl e1
      obtain ⟨v2, h2, w2⟩ := g 2 f2 rfl e2
      obtain ⟨v3, h3, w3⟩ := g 3 f3 rfl e3
      obtain ⟨v4, h4⟩ := gb 4 f4 rfl e4
      rw [o0] at h0; rw [o1] at h1; rw [o2] at h2; rw [o3] at h3; rw [o4] at h4
      match r, hlr with
      | [c0, c1, c2, c3, c4], _ =>
        simp at h0 h1 h2 h3 h4
        exact ⟨⟨v0, v1, v2, v3, v4⟩, by simp [dlV, h0, h1, h2, h3, h4], w1, w2, w3⟩)
  refine ⟨fs, ?_, hp, hlc, hd⟩
  have : fs.flatMap dlV = (fs.map dlV).flatten := by simp [List.flatMap]
  unfold RD
  rw [this]
  exact hr
end
end Go.Baro
