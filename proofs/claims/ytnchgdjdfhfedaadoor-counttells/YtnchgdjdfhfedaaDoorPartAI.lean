/- Of this claim's own texts these, one behind the other: RunPure4, RunSpec, SameIntsK, KeepRun1, LinPure. No statement of the seat is proved here; no condition but those that stand at the theorems. -/
import Derived.Test.YtnchgdjdfhfedaaDoorPartAE
import Derived.Test.YtnchgdjdfhfedaaDoorPartAF
import Derived.Test.YtnchgdjdfhfedaaDoorPartAH
import Derived.Test.YtnchgdjdfhfedaaDoorRows
import Derived.Test.YtnchgdjdfhfedaaDoorPartAC
import Derived.RowKit
set_option linter.unusedSimpArgs false
set_option linter.unusedVariables false
namespace Go.Baro

def WOk (w : List Int) : Prop := w.length ≤ 200 ∧ ∀ x ∈ w, inW x
def LOk (l : Lv) : Prop := 0 ≤ l.p ∧ l.p ≤ l.c.length ∧ (∀ i, inW (l.r i)) ∧ (∀ x ∈ l.t, inW x) ∧ l.t.length ≤ 200
theorem ok_of {l : Lv} {w : List Int} (hl : LOk l) (hw : WOk w) : Ok l.c.length ⟨l.p, l.r, w, l.t⟩ := ⟨hl.1, hl.2.1, hl.2.2.1, hw.2, hw.1, hl.2.2.2.1, hl.2.2.2.2⟩
theorem live_ok {c : List Ins} {ar : List Int} (h : ∀ x ∈ ar, inW x) : LOk (live c ar) := by
  have := st0_ok (n := c.length) (args := ar) (words := []) h (by simp) (by simp)
  exact ⟨this.lo, this.hi, this.r, this.t, this.tl⟩
/-- An instruction of a thread within its call. -/
theorem exc_ok {l : Lv} {w : List Int} (hc : okC l.c) (hi : ∀ o ∈ l.c, inI o) (hl : LOk l) (hw : WOk w) :
    WOk (exc l w).2.1 ∧ LOk (exc l w).1 ∧ (exc l w).1.c = l.c ∧ ((exc l w).2.2.2 = false → (exc l w).1.p < l.c.length) := by
  unfold exc
  by_cases hp : l.p = l.c.length
  · rw [if_pos hp]; exact ⟨hw, hl, rfl, fun h => by cases h⟩
  · rw [if_neg hp]
    have hlt : l.p < l.c.length := by have := hl.2.1; omega
    have hlo := hl.1
    have hn : l.p.toNat < l.c.length := by omega
    rw [List.getElem?_eq_getElem hn, Option.getD_some]
    have hm := List.getElem_mem hn
    have hk := stp_ok (hc.2 _ hm) (hi _ hm) (ok_of hl hw) hlt
    refine ⟨⟨hk.wl, hk.w⟩, ⟨hk.lo, hk.hi, hk.r, hk.t, hk.tl⟩, rfl, fun h => ?_⟩
    have := hk.hi
    simp only [decide_eq_false_iff_not, not_or, Decidable.not_not] at h
    dsimp only
    omega
/-- A thread within a call that has not ended, and what its next instruction gives. -/
theorem exc_stp {l : Lv} {w : List Int} {o : Ins} {s' : Vs} {E : Int} (hp : l.p < l.c.length) (ho : l.c[l.p.toNat]? = some o) (hs : stp l.c.length o ⟨l.p, l.r, w, l.t⟩ = (s', E)) :
    exc l w = (⟨l.c, s'.p, s'.r, s'.t⟩, s'.w, E, decide (E ≠ 0 ∨ s'.p = l.c.length)) := by
  unfold exc
  rw [if_neg (by omega), ho, Option.getD_some, hs]
theorem exc_none {l : Lv} {w : List Int} (hp : l.p = l.c.length) : exc l w = (l, w, 0, true) := by unfold exc; rw [if_pos hp]
/-- What holds of a run at step st. -/
structure GOk (m : Mc) (st : Nat) (g : Gs) : Prop where
  w : WOk g.w
  th : ∀ i l, (g.th i).now = some l → l.c ∈ m.cs ∧ LOk l ∧ l.p < l.c.length
  bg : ∀ i, (g.th i).bg ≤ (m.ts[i]?.getD []).length
  ps : ∀ i l, (g.th i).now = some l → 1 ≤ (g.th i).bg
  out : g.out.length ≤ 2 * st
theorem actL_ok {m : Mc} {g : Gs} {st n bg : Nat} {l : Lv} {o : List Ev} (hcs : ∀ c ∈ m.cs, okC c ∧ ∀ o ∈ c, inI o) (h : GOk m st g) (hl : LOk l) (hc : l.c ∈ m.cs) (h1 : 1 ≤ bg) (h2 : bg ≤ (m.ts[n]?.getD []).length) (ho : o.length ≤ 2 * st + 1) : GOk m (st + 1) (actL g st n bg l o) := by
  obtain ⟨e1, e2, e3, e4⟩ := exc_ok (hcs _ hc).1 (hcs _ hc).2 hl h.w
  unfold actL
  dsimp only
  by_cases hq : (exc l g.w).2.2.2 = true
  · rw [if_pos hq]
    refine ⟨e1, fun i k hk => ?_, fun i => ?_, fun i k hk => ?_, by simp; omega⟩
    · by_cases hi : i = n
      · simp [putT, hi] at hk
      · simp only [putT, if_neg hi] at hk; exact h.th i k hk
    · by_cases hi : i = n
      · subst hi; simp [putT]; exact h2
      · simp only [putT, if_neg hi]; exact h.bg i
    · by_cases hi : i = n
      · simp [putT, hi] at hk
      · simp only [putT, if_neg hi] at hk ⊢; exact h.ps i k hk
  · rw [if_neg hq]
    refine ⟨e1, fun i k hk => ?_, fun i => ?_, fun i k hk => ?_, by dsimp only; omega⟩
    · by_cases hi : i = n
      · simp [putT, hi] at hk
        subst hk
        rw [e3]
        exact ⟨hc, e2, e4 (by simpa using hq)⟩
      · simp only [putT, if_neg hi] at hk; exact h.th i k hk
    · by_cases hi : i = n
      · subst hi; simp [putT]; exact h2
      · simp only [putT, if_neg hi]; exact h.bg i
    · by_cases hi : i = n
      · simp [putT, hi]; exact h1
      · simp only [putT, if_neg hi] at hk ⊢; exact h.ps i k hk
/-- The call that a thread begins. -/
theorem call_at {m : Mc} (hm : okMc m) {n i : Nat} {c : Cl} (hc : (m.ts[n]?.getD [])[i]? = some c) : okCl m c ∧ m.cs[c.k.toNat]?.getD [] ∈ m.cs := by
  cases ht : m.ts[n]? with
  | none => rw [ht] at hc; simp at hc
  | some t =>
    rw [ht] at hc
    have hk := (hm.2.2.2.2 t (List.mem_of_getElem? ht)).2 c (List.mem_of_getElem? hc)
    refine ⟨hk, ?_⟩
    have hlt : c.k.toNat < m.cs.length := by have := hk.1; omega
    rw [List.getElem?_eq_getElem hlt]
    exact List.getElem_mem hlt
theorem actG_ok {m : Mc} {g : Gs} {st n : Nat} (hm : okMc m) (hcs : ∀ c ∈ m.cs, okC c ∧ ∀ o ∈ c, inI o) (hts : ∀ t ∈ m.ts, ∀ c ∈ t, ∀ x ∈ c.ar, inW x) (h : GOk m st g) : GOk m (st + 1) (actG m g st n) := by
  unfold actG
  cases hn : (g.th n).now with
  | some l =>
    obtain ⟨h1, h2, h3⟩ := h.th n l hn
    exact actL_ok hcs h h2 h1 (h.ps n l hn) (h.bg n) (by have := h.out; omega)
  | none =>
    dsimp only
    cases hc : (m.ts[n]?.getD [])[(g.th n).bg]? with
    | none => exact ⟨h.w, h.th, h.bg, h.ps, by have := h.out; show g.out.length ≤ _; omega⟩
    | some c =>
      have hlt : (g.th n).bg < (m.ts[n]?.getD []).length := (List.getElem?_eq_some_iff.1 hc).1
      have har : ∀ x ∈ c.ar, inW x := by
        cases ht : m.ts[n]? with
        | none => rw [ht] at hc; simp at hc
        | some t => rw [ht] at hc; exact hts t (List.mem_of_getElem? ht) c (List.mem_of_getElem? hc)
      exact actL_ok hcs h (live_ok har) (call_at hm hc).2 (by omega) (by omega) (by have := h.out; simp; omega)
theorem g0_ok {m : Mc} (hm : okMc m) (hw : ∀ x ∈ m.ws, inW x) : GOk m 0 (g0 m) :=
  ⟨⟨hm.1, hw⟩, fun _ _ h => (by cases h), fun _ => Nat.zero_le _, fun _ _ h => (by cases h), Nat.le_refl _⟩
theorem plyG_snoc (m : Mc) (l : List Nat) (n : Nat) (g : Gs) : plyG m 0 (l ++ [n]) g = actG m (plyG m 0 l g) l.length n := by
  rw [plyG_append]
  show actG m _ (0 + l.length) n = _
  rw [Nat.zero_add]
theorem plyG_ok {m : Mc} (hm : okMc m) (hcs : ∀ c ∈ m.cs, okC c ∧ ∀ o ∈ c, inI o) (hts : ∀ t ∈ m.ts, ∀ c ∈ t, ∀ x ∈ c.ar, inW x) (hw : ∀ x ∈ m.ws, inW x) : ∀ (k : Nat) (l : List Nat), l.length = k → GOk m k (plyG m 0 l (g0 m))
  | 0, l, hl => by rw [List.eq_nil_of_length_eq_zero hl]; exact g0_ok hm hw
  | k + 1, l, hl => by
    have hne : l ≠ [] := fun h => by rw [h] at hl; cases hl
    rw [← List.dropLast_concat_getLast hne, plyG_snoc]
    have h1 : l.dropLast.length = k := by simp [hl]
    rw [h1]
    exact actG_ok hm hcs hts (plyG_ok hm hcs hts hw k _ h1)

/-- What run.Play answers: events, words, an error. -/
def PlR (m : Mc) (s : List Int) (T : List Ev) (W : List Int) (E : Int) : Prop :=
  (¬ okMc m ∧ T = [] ∧ W = [] ∧ E = 4) ∨ (okMc m ∧ 6000 < s.length ∧ T = [] ∧ W = [] ∧ E = 1) ∨ (okMc m ∧ s.length ≤ 6000 ∧ (∃ x ∈ s, x < 0 ∨ (m.ts.length : Int) ≤ x) ∧ T = [] ∧ W = [] ∧ E = 2) ∨
  (okMc m ∧ s.length ≤ 6000 ∧ (∀ x ∈ s, 0 ≤ x ∧ x < m.ts.length) ∧ T = (plyG m 0 (s.map Int.toNat) (g0 m)).out ∧ W = (plyG m 0 (s.map Int.toNat) (g0 m)).w ∧ E = 0)
theorem plR_some (m : Mc) (s : List Int) : ∃ T W E, PlR m s T W E := by
  by_cases h1 : okMc m
  · by_cases h2 : 6000 < s.length
    · exact ⟨[], [], 1, .inr (.inl ⟨h1, h2, rfl, rfl, rfl⟩)⟩
    · by_cases h3 : ∃ x ∈ s, x < 0 ∨ (m.ts.length : Int) ≤ x
      · exact ⟨[], [], 2, .inr (.inr (.inl ⟨h1, by omega, h3, rfl, rfl, rfl⟩))⟩
      · refine ⟨_, _, 0, .inr (.inr (.inr ⟨h1, by omega, fun x hx => ?_, rfl, rfl, rfl⟩))⟩
        by_cases h4 : 0 ≤ x ∧ x < m.ts.length
        · exact h4
        · exact absurd ⟨x, hx, by omega⟩ h3
  · exact ⟨[], [], 4, .inl ⟨h1, rfl, rfl, rfl⟩⟩
end Go.Baro

set_option linter.unusedSimpArgs false
set_option linter.unusedVariables false
namespace Go.Proofs.YtnchgdjdfhfedaaDoor
open Go.RowKit Go.Ord Go.Baro

/-- run.May, of a machine in memory. -/
def MaySpec : Prop := ∀ (w : World) (hT : Tab w) (Aw : Option Addr) (nw cw : Nat) (Ac : Option Addr) (nc cc : Nat) (At : Option Addr) (nt ct : Nat) (m : Mc) (r : Bool) (hm : InM w Aw nw cw Ac nc cc At nt ct m) (hr : r = true ↔ okMc m),
    Calls Tryd.prog 15 #[.agg #[.slice Aw nw cw, .slice Ac nc cc, .slice At nt ct]] w fun e w' => e = .returned (.bool r) ∧ Below w.heap.size w w'
/-- run.Play, of a machine and a schedule in memory. -/
def PlaySpec : Prop := ∀ (w : World) (hT : Tab w) (Aw : Option Addr) (nw cw : Nat) (Ac : Option Addr) (nc cc : Nat) (At : Option Addr) (nt ct : Nat) (m : Mc) (As : Option Addr) (ns cs : Nat) (s : List Int) (T : List Ev) (W : List Int) (E : Int) (hm : InM w Aw nw cw Ac nc cc At nt ct m)
    (hs : RI w w.heap.size .i64 As ns s) (hn : ns ≤ 140737488355328) (hR : PlR m s T W E), Calls Tryd.prog 22 #[.agg #[.slice Aw nw cw, .slice Ac nc cc, .slice At nt ct], .slice As ns cs] w (PlPost T W E w)
end Go.Proofs.YtnchgdjdfhfedaaDoor

set_option linter.unusedSimpArgs false
set_option linter.unusedVariables false
namespace Go.Proofs.YtnchgdjdfhfedaaDoor
open Go.RowKit Go.Ord Go.Baro

set_option maxHeartbeats 1000000 in
theorem keep_sameInts (xs ys : List Int) (A A' : Option Addr) (n c n' c' : Nat) (w : World) (B B' : Nat) (r : Bool) (h : RI w B .i64 A n xs) (h' : RI w B' .i64 A' n' ys) (hr : r = true ↔ xs = ys) (hn : n ≤ 140737488355328) (hn' : n' ≤ 140737488355328) :
    Calls Tryd.prog 17 #[.slice A n c, .slice A' n' c'] w fun e w' => e = .returned (.bool r) ∧ ∃ m, w' = w.drewN m := by
  have HL := Lib.hid h.len
  have HL' := Lib.hid h'.len
  have HR := Lib.hid hr
  clear hr
  by_cases hne : n = n'
  · subst hne
    go_enter Tryd.func17, Tryd.ntmps17
    go_wp2
    go_loopw [5] (fun i wr => ∃ j : Nat, j ≤ n ∧ i = .int .i64 j ∧ Hid (xs.take j = ys.take j) ∧ ∃ m, wr = w.drewN m) (fun i _ => n - (intOf i).toNat)
    case atStart => exact ⟨0, Nat.zero_le _, rfl, rfl, 0, rfl⟩
    case round =>
      obtain ⟨j, hj, rfl, HE, m, rfl⟩ := hrel
      by_cases hlt : j < n
      · obtain ⟨b, o, x, rfl, _, hcell, HX, _⟩ := h.val hlt
        obtain ⟨b', o', y, rfl, _, hcell', HY, _⟩ := h'.val hlt
        by_cases hxy : x = y
        · subst hxy
          go_wp2
          refine region_two [0, 1, 2, 3, 4, 5, 6, 7, 8] [] (by kernel_rfl) (by kernel_rfl) ?_
          simp only [pick, List.map_cons, List.map_nil, List.getD_cons_zero, List.getD_cons_succ]
          go_wp2
          go_roundw
          case rel => exact ⟨j + 1, by omega, by go_num, by show _ = _; rw [at_take HX.out, at_take HY.out, HE.out], _, rfl⟩
          case measure => simp [intOf]; omega
        · have hb : (x != y) = true := by simp [hxy]
          go_wp2
          refine region_two [0, 1, 2, 3, 4, 5, 6, 7, 8] [] (by kernel_rfl) (by kernel_rfl) ?_
          simp only [pick, List.map_cons, List.map_nil, List.getD_cons_zero, List.getD_cons_succ]
          go_wp2
          go_ret
          refine ⟨ret_bool ?_, _, rfl⟩
          cases r with
          | false => rfl
          | true =>
            have := HR.out.1 rfl
            subst this
            have h1 := HX.out
            rw [HY.out] at h1
            exact absurd (Option.some.inj h1).symm hxy
      · go_wp2
        go_ret
        refine ⟨ret_bool ?_, _, rfl⟩
        have he := HE.out
        rw [List.take_of_length_le (by rw [HL.out]; omega), List.take_of_length_le (by rw [HL'.out]; omega)] at he
        exact (HR.out.2 he).symm
  · have hb : ((n : Int) != (n' : Int)) = true := by simp; omega
    go_enter Tryd.func17, Tryd.ntmps17
    go_wp2
    go_ret
    refine ⟨ret_bool ?_, 0, rfl⟩
    cases r with
    | false => rfl
    | true =>
      have := HR.out.1 rfl
      subst this
      have h1 := HL.out
      rw [HL'.out] at h1
      omega
end Go.Proofs.YtnchgdjdfhfedaaDoor

set_option linter.unusedSimpArgs false
set_option linter.unusedVariables false
namespace Go.Proofs.YtnchgdjdfhfedaaDoor
open Go.RowKit Go.Ord Go.Baro

theorem eltIntS : Elt Tryd.prog 22 3 (.int .i64 0) 1 8 := Elt.mk' Tryd.underlying22 (by kernel_rfl) rfl (by decide)
/-- The schedule that is drawn. -/
def schL (l : List Int) : List Int := (l.take 400).map (· % 3)
theorem schL_len (l : List Int) : (schL l).length = min l.length 400 := by simp [schL, Nat.min_comm]
theorem schL_in {l : List Int} {x : Int} (h : x ∈ schL l) : 0 ≤ x ∧ x < 3 := by
  obtain ⟨y, _, rfl⟩ := List.mem_map.1 h
  omega
theorem mod_three {x : Int} (h : 0 ≤ x ∧ x < 256) : x.tmod 3 = x % 3 := by rw [Int.tmod_eq_emod_of_nonneg h.1]

set_option maxRecDepth 100000 in
set_option maxHeartbeats 2000000 in
theorem keep_Schedule (l : List Int) (A : Option Addr) (n c : Nat) (w : World) (hb : RI w w.heap.size .u8 A n l) (hn : n ≤ 140737488355328) (hr : ∀ x ∈ l, 0 ≤ x ∧ x < 256) :
    Calls Tryd.prog 14 #[.slice A n c, .int .i64 3, .int .i64 400] w fun e w' => ∃ A' n' c', e = .returned (.slice A' n' c') ∧ RI w' w'.heap.size .i64 A' n' (schL l) ∧ n' ≤ c' ∧ n' ≤ 400 ∧ Below w.heap.size w w' := by
  have HL := Lib.hid hb.len
  have HR := Lib.hid hr
  clear hr
  go_enter Tryd.func14, Tryd.ntmps14
  go_wp2
  go_loopw [7, 8] (fun v i wr => ∃ j : Nat, j ≤ n ∧ j ≤ 400 ∧ i = .int .i64 j ∧ wr.ownsRow w.heap.size 3 1 v j (((l.take j).map (· % 3)).map (Value.int .i64)) ∧ Below w.heap.size w wr) (fun _ i _ => 400 - (intOf i).toNat)
  case atStart => exact ⟨0, Nat.zero_le _, by omega, rfl, World.ownsRow_nil _ _ _ _, Below.refl _ _⟩
  case round =>
    obtain ⟨j, hj, hj4, rfl, hown, hbel⟩ := hrel
    have hsz := hbel.size
    obtain ⟨A', c', rfl, hlc⟩ := own_form hown
    have fin : j = n ∨ j = 400 → RI wr wr.heap.size .i64 A' j (schL l) := by
      intro h
      have := Rd.of_own hown
      have e : schL l = (l.take j).map (· % 3) := by
        unfold schL
        rcases h with h | h
        · rw [List.take_of_length_le (l := l) (i := j) (by rw [HL.out]; omega), List.take_of_length_le (l := l) (i := 400) (by rw [HL.out]; omega)]
        · rw [h]
      rw [e]
      exact this
    by_cases h1 : j < n
    · by_cases h2 : j < 400
      · clear fin
        obtain ⟨b, o, x, rfl, hbB, hcell, HX, hmem⟩ := (hb.below hbel).val h1
        obtain ⟨hx0, hx1⟩ := HR.out x hmem
        have ht := mod_three ⟨hx0, hx1⟩
        have HMem := Lib.hid hmem
        obtain ⟨y, hy⟩ : ∃ y, y = x % 3 := ⟨_, rfl⟩
        have hy0 : 0 ≤ y ∧ y < 3 := by omega
        rw [← hy] at ht
        have HY := Lib.hid hy
        clear hmem hy
        go_wp2_with (at_builtin; go_must (refine app_lit eltIntS wr rfl _ _ rfl w.heap.size _ j _ rfl (by exact hown) 1 [.int .i64 y] wr.heap.size rfl rfl rfl (one_ints _ [y]) (by omega) (by omega) hsz ?_); intro v3 w3 hown3 hgr3 hbel3 _)
        go_roundw
        case rel =>
          refine ⟨j + 1, by omega, by omega, by go_num, ?_, hbel3 _ hbel⟩
          rw [at_take HX.out, List.map_append, List.map_append, List.map_singleton, List.map_singleton, ← HY.out]
          exact hown3
        case measure => simp [intOf]; omega
      · have HF := Lib.hid (fin (.inr (by omega)))
        clear fin hown
        go_wp2
        go_ret
        exact ⟨A', j, c', rfl, HF.out, hlc, by omega, hbel⟩
    · obtain rfl : n = j := by omega
      have HF := Lib.hid (fin (.inl rfl))
      clear fin hown
      go_wp2
      go_ret
      exact ⟨A', n, c', rfl, HF.out, hlc, by omega, hbel⟩
/-- An event as a value. -/
def evV (x : Ev) (v : Value) : Value := .agg #[.int .i64 x.st, .int .i64 x.th, .int .i64 x.cl, .bool x.en, .int .i64 x.er, v]

/-- A slice that lies in a block of its own. -/
theorem Rd.box {w : World} {b s n : Nat} {t : TypeId} {cs : List Value} (h : Box w b t cs) (hl : cs.length = n * s) : Rd w w.heap.size s (some ⟨b, 0, none⟩) n cs :=
  ⟨hl, fun _ => ⟨b, 0, rfl, h.lt, fun j _ => by rw [Nat.zero_add]; exact h.cell j⟩⟩
theorem rg_box {α : Type} {s : Nat} {R : World → Nat → List Value → α → Prop} {w : World} {b n : Nat} {t : TypeId} {rows : List (List Value)} {ls : List α} (h : Box w b t rows.flatten) (h1 : rows.length = ls.length) (hn : ls.length = n) (h2 : ∀ r ∈ rows, r.length = s)
    (h3 : ∀ (i : Nat) r x, rows[i]? = some r → ls[i]? = some x → R w w.heap.size r x) : RG s R w w.heap.size (some ⟨b, 0, none⟩) n ls :=
  ⟨rows, h1, h2, Rd.box h (by rw [flat_len h2, h1, hn]), h3⟩
/-- The run that is known. -/
def mS : Mc := ⟨[4], [[⟨14, 0, 1, 0, 0⟩]], [[⟨0, [9]⟩]]⟩
theorem sure_play : PlR mS [0] [⟨0, 0, 0, false, 0, []⟩, ⟨0, 0, 0, true, 0, []⟩] [9] 0 := by
  refine .inr (.inr (.inr ⟨⟨by decide, by decide, by decide, ?_, ?_⟩, by decide, by simp [mS], ?_, ?_, rfl⟩))
  · intro c hc
    simp only [mS, List.mem_singleton] at hc
    subst hc
    decide
  · intro t ht
    simp only [mS, List.mem_singleton] at ht
    subst ht
    refine ⟨by decide, fun c hc => ?_⟩
    simp only [List.mem_singleton] at hc
    subst hc
    exact ⟨by simp [mS], by decide⟩
  · kernel_rfl
  · kernel_rfl

theorem one_at {α : Type} {a b : α} {i : Nat} (h : [a][i]? = some b) : i = 0 ∧ b = a := by
  cases i with
  | zero => exact ⟨rfl, by simpa using h.symm⟩
  | succ i => simp at h
/-- The machine of the run that is known, and its schedule. -/
theorem sure_mem (w wF : World) (hF : wF = (((((((w.alloc (Obj.cells #[.int .i64 4] 3)).alloc (Obj.cells #[.int .i64 14, .int .i64 0, .int .i64 1, .int .i64 0, .int .i64 0] 73)).alloc (Obj.cells #[.slice (some ⟨w.heap.size + 1, 0, none⟩) 1 1] 24)).alloc (Obj.cells #[.int .i64 9] 3)).alloc (Obj.cells #[.int .i64 0, .slice (some ⟨w.heap.size + 1 + 1 + 1, 0, none⟩) 1 1] 41)).alloc (Obj.cells #[.slice (some ⟨w.heap.size + 1 + 1 + 1 + 1, 0, none⟩) 1 1] 42)).alloc (Obj.cells #[.int .i64 0] 3))) :
    InM wF (some ⟨w.heap.size, 0, none⟩) 1 1 (some ⟨w.heap.size + 1 + 1, 0, none⟩) 1 1 (some ⟨w.heap.size + 1 + 1 + 1 + 1 + 1, 0, none⟩) 1 1 mS ∧ RI wF wF.heap.size .i64 (some ⟨w.heap.size + 1 + 1 + 1 + 1 + 1 + 1, 0, none⟩) 1 [0] ∧ Below w.heap.size w wF := by
  have b0 : Box wF w.heap.size 3 [.int .i64 4] := by rw [hF]; exact ((((((Box.newAt w _ _ _ rfl).alloc _).alloc _).alloc _).alloc _).alloc _).alloc _
  have b1 : Box wF (w.heap.size + 1) 73 [.int .i64 14, .int .i64 0, .int .i64 1, .int .i64 0, .int .i64 0] := by rw [hF]; exact (((((Box.newAt (w.alloc _) _ _ _ (by simp)).alloc _).alloc _).alloc _).alloc _).alloc _
  have b2 : Box wF (w.heap.size + 1 + 1) 24 [.slice (some ⟨w.heap.size + 1, 0, none⟩) 1 1] := by rw [hF]; exact ((((Box.newAt ((w.alloc _).alloc _) _ _ _ (by simp)).alloc _).alloc _).alloc _).alloc _
  have b3 : Box wF (w.heap.size + 1 + 1 + 1) 3 [.int .i64 9] := by rw [hF]; exact (((Box.newAt (((w.alloc _).alloc _).alloc _) _ _ _ (by simp)).alloc _).alloc _).alloc _
  have b4 : Box wF (w.heap.size + 1 + 1 + 1 + 1) 41 [.int .i64 0, .slice (some ⟨w.heap.size + 1 + 1 + 1, 0, none⟩) 1 1] := by rw [hF]; exact ((Box.newAt ((((w.alloc _).alloc _).alloc _).alloc _) _ _ _ (by simp)).alloc _).alloc _
  have b5 : Box wF (w.heap.size + 1 + 1 + 1 + 1 + 1) 42 [.slice (some ⟨w.heap.size + 1 + 1 + 1 + 1, 0, none⟩) 1 1] := by rw [hF]; exact (Box.newAt (((((w.alloc _).alloc _).alloc _).alloc _).alloc _) _ _ _ (by simp)).alloc _
  have b6 : Box wF (w.heap.size + 1 + 1 + 1 + 1 + 1 + 1) 3 [.int .i64 0] := by rw [hF]; exact Box.newAt ((((((w.alloc _).alloc _).alloc _).alloc _).alloc _).alloc _) _ _ _ (by simp)
  refine ⟨⟨Rd.box b0 rfl, ?_, ?_, ?_, ?_, ?_, by omega, by omega, by omega⟩, Rd.box b6 rfl, ?_⟩
  · refine rg_box (rows := [[.slice (some ⟨w.heap.size + 1, 0, none⟩) 1 1]]) b2 rfl rfl (by simp) fun i r x hr hx => ?_
    obtain ⟨_, rfl⟩ := one_at hr
    obtain ⟨_, rfl⟩ := one_at hx
    exact ⟨_, _, _, rfl, Nat.le_refl _, Rd.box b1 rfl⟩
  · refine rg_box (rows := [[.slice (some ⟨w.heap.size + 1 + 1 + 1 + 1, 0, none⟩) 1 1]]) b5 rfl rfl (by simp) fun i r x hr hx => ?_
    obtain ⟨_, rfl⟩ := one_at hr
    obtain ⟨_, rfl⟩ := one_at hx
    refine ⟨_, _, _, rfl, Nat.le_refl _, rg_box (rows := [[.int .i64 0, .slice (some ⟨w.heap.size + 1 + 1 + 1, 0, none⟩) 1 1]]) b4 rfl rfl (by simp) fun i r x hr hx => ?_⟩
    obtain ⟨_, rfl⟩ := one_at hr
    obtain ⟨_, rfl⟩ := one_at hx
    exact ⟨_, _, _, rfl, Nat.le_refl _, Rd.box b3 rfl⟩
  · intro x hx; simp only [mS, List.mem_singleton] at hx; subst hx; unfold inW; omega
  · intro c hc
    simp only [mS, List.mem_singleton] at hc
    subst hc
    refine ⟨by decide, fun o ho => ?_⟩
    simp only [List.mem_singleton] at ho
    subst ho
    unfold inI inW
    dsimp only
    omega
  · intro t ht
    simp only [mS, List.mem_singleton] at ht
    subst ht
    refine ⟨by decide, fun c hc => ?_⟩
    simp only [List.mem_singleton] at hc
    subst hc
    refine ⟨by unfold inW; dsimp only; omega, by decide, fun x hx => ?_⟩
    simp only [List.mem_singleton] at hx
    subst hx
    unfold inW
    omega
  · rw [hF]
    exact (((((((Below.refl w.heap.size w).alloc (by simp) _).alloc (by simp) _).alloc (by simp; omega) _).alloc (by simp; omega) _).alloc (by simp; omega) _).alloc (by simp; omega) _).alloc (by simp; omega) _

set_option maxHeartbeats 2000000 in
theorem keep_runSure (hP : PlaySpec) (w : World) (hT : Tab w) : Calls Tryd.prog 34 #[] w fun e w' => e = .returned (.bool true) ∧ Below w.heap.size w w' := by
  have HP := Lib.hid hP
  have HT := Lib.hid hT
  have hM := sure_mem w _ rfl
  have HM := Lib.hid hM
  clear hP hT hM
  go_enter Tryd.func34, Tryd.ntmps34
  go_wp2_with fail
  refine (HP.out _ (HT.out.below HM.out.2.2 HT.out.lt) _ 1 1 _ 1 1 _ 1 1 mS _ 1 1 [0] _ [9] 0 HM.out.1 HM.out.2.1 (by omega) sure_play).mono ?_
  rintro e w1 ⟨B1, m1, d1, B2, m2, d2, rfl, hr1, hr2, hl1, hl2, hm1, hm2, hb1⟩
  have hb2 := HM.out.2.2.trans (hb1.mono HM.out.2.2.size)
  obtain rfl : m1 = 2 := hr1.len.symm
  obtain rfl : m2 = 1 := hr2.len.symm
  obtain ⟨b, o, A5, n5, k5, x, rfl, hbB, q0, q1, q2, q3, q4, q5, hlk, hn5, hri, HX, hmem⟩ := hr1.val (i := 1) (by omega)
  have hx := HX.out
  simp only [List.getElem?_cons_succ, List.getElem?_cons_zero, Option.some.injEq] at hx
  subst hx
  dsimp only at q3
  rw [Nat.one_mul] at q3
  clear HX hmem q0 q1 q2 q4 q5 hri HM HP HT hb1
  have hB3 := (Below.refl w1.heap.size w1).alloc (Nat.le_refl _) (Obj.cells #[.int .i64 9] 3)
  go_wp2_with fail
  refine (keep_sameInts [9] [9] B2 _ 1 d2 1 1 _ w1.heap.size (w1.heap.size + 1) true (hr2.below hB3) (Rd.more (Rd.box (Box.newAt w1 3 [.int .i64 9] w1.heap.size rfl) rfl) (by simp)) (by simp) (by omega) (by omega)).mono ?_
  rintro e w2 ⟨rfl, k2, rfl⟩
  go_wp2
  go_ret
  exact ⟨by first | rfl | simp, hb2.trans ((hB3.mono hb2.size).drewN _)⟩
end Go.Proofs.YtnchgdjdfhfedaaDoor

set_option linter.unusedSimpArgs false
set_option linter.unusedVariables false
namespace Go.Baro
open Go.RowKit (wrap64)

/-- An operation: when it began and ended (-1: it has not), whether it puts, its value, what it adds. -/
structure Ac where
  b : Int
  e : Int
  put : Bool
  v : Int
  add : Int
/-- What an object of kind k that has these numbers tells, and has then. -/
def tel (k : Int) (has : List Int) (a : Ac) : Int × List Int :=
  if k = 1 then (if a.put = true then (a.v, [a.v]) else (has.headD 0, has))
  else if k = 2 then (has.headD 0, [wrap64 (has.headD 0 + a.add)])
  else if a.put = true then (a.v, has ++ [a.v])
  else if has = [] then (-1, has)
  else if k = 3 then (has.headD 0, has.tail)
  else (has.getLastD 0, has.dropLast)
/-- The operations that are left can be put behind one another; those that have not ended may be left out. -/
inductive Lin (k : Int) : List Int → List Ac → Prop
  | done {has : List Int} {left : List Ac} (h : ∀ a ∈ left, a.e = -1) : Lin k has left
  | step {has : List Int} {left : List Ac} (a : Ac) (rest : List Ac) (hp : left.Perm (a :: rest)) (hf : ∀ b ∈ left, b.e ≠ -1 → a.b ≤ b.e) (ht : a.e ≠ -1 → (tel k has a).1 = a.v) (h : Lin k (tel k has a).2 rest) : Lin k has left
section
variable {k : Int} {has : List Int} {left left' : List Ac}
/-- How they are listed does not matter. -/
theorem Lin.perm (h : Lin k has left) (hp : left.Perm left') : Lin k has left' := by
  cases h with
  | done h => exact .done fun a ha => h a (hp.mem_iff.2 ha)
  | step a rest hq hf ht h => exact .step a rest (hp.symm.trans hq) (fun b hb => hf b (hp.mem_iff.2 hb)) ht h
/-- One that has not ended harms nothing. -/
theorem Lin.more (h : Lin k has left) {x : Ac} (hx : x.e = -1) : Lin k has (x :: left) := by
  induction h with
  | done h => exact .done fun a ha => by rcases List.mem_cons.1 ha with rfl | ha; exact hx; exact h a ha
  | @step has left a rest hq hf ht h ih =>
    refine .step a (x :: rest) ((List.Perm.cons x hq).trans (List.Perm.swap a x rest)) (fun b hb hb1 => ?_) ht ih
    rcases List.mem_cons.1 hb with rfl | hb
    · exact absurd hx hb1
    · exact hf b hb hb1
/-- Other times: what has ended then had ended, and whoever could come first still can. -/
theorem Lin.map {f : Ac → Ac} (h : Lin k has left) (h1 : ∀ a ∈ left, (f a).e ≠ -1 → a.e ≠ -1) (h2 : ∀ a ∈ left, (f a).put = a.put ∧ (f a).v = a.v ∧ (f a).add = a.add) (h3 : ∀ a ∈ left, ∀ b ∈ left, (f b).e ≠ -1 → a.b ≤ b.e → (f a).b ≤ (f b).e) : Lin k has (left.map f) := by
  have htel : ∀ (has : List Int) (a : Ac), (f a).put = a.put ∧ (f a).v = a.v ∧ (f a).add = a.add → tel k has (f a) = tel k has a := fun has a hh => by
    unfold tel
    rw [hh.1, hh.2.1, hh.2.2]
  induction h with
  | @done has left h =>
    refine .done fun a ha => ?_
    obtain ⟨c, hc, rfl⟩ := List.mem_map.1 ha
    by_cases he : (f c).e = -1
    · exact he
    · exact absurd (h c hc) (h1 c hc he)
  | @step has left a rest hq hf ht h ih =>
    have ha : a ∈ left := hq.mem_iff.2 (by simp)
    have hr : ∀ c, c ∈ rest → c ∈ left := fun c hc => hq.mem_iff.2 (by simp [hc])
    refine .step (f a) (rest.map f) (hq.map f) (fun b hb hb1 => ?_) (fun h5 => ?_) ?_
    · obtain ⟨c, hc, rfl⟩ := List.mem_map.1 hb
      exact h3 a ha c hc hb1 (hf c hc (h1 c hc hb1))
    · rw [htel has a (h2 a ha), (h2 a ha).2.1]
      exact ht (h1 a ha h5)
    · rw [htel has a (h2 a ha)]
      exact ih (fun c hc => h1 c (hr c hc)) (fun c hc => h2 c (hr c hc)) (fun c hc d hd => h3 c (hr c hc) d (hr d hd))
/-- All of them as much later. -/
def shA (d : Int) (a : Ac) : Ac := { a with b := a.b + d, e := if a.e = -1 then -1 else a.e + d }
theorem lin_later {d : Int} (hd : 0 ≤ d) (he : ∀ a ∈ left, -1 ≤ a.e) : Lin k has (left.map (shA d)) ↔ Lin k has left := by
  refine ⟨fun h => ?_, fun h => ?_⟩
  · have hm : (left.map (shA d)).map (fun a => { a with b := a.b - d, e := if a.e = -1 then -1 else a.e - d }) = left := by
      rw [List.map_map]
      conv => rhs; rw [← List.map_id left]
      refine List.map_congr_left fun a ha => ?_
      have := he a ha
      obtain ⟨b, e, put, v, add⟩ := a
      dsimp only at this
      simp only [Function.comp, shA, id]
      by_cases h1 : e = -1
      · subst h1; simp
      · rw [if_neg h1, if_neg (by omega)]; simp
    rw [← hm]
    refine h.map (fun a ha => ?_) (fun a ha => ⟨rfl, rfl, rfl⟩) (fun a ha b hb => ?_)
    · dsimp only
      split
      · intro hh; exact absurd rfl hh
      · intro _; assumption
    · dsimp only
      split
      · intro hh; exact absurd rfl hh
      · intro _ _; omega
  · refine h.map (fun a ha => ?_) (fun a ha => ⟨rfl, rfl, rfl⟩) (fun a ha b hb => ?_)
    · unfold shA
      dsimp only
      split
      · intro hh; exact absurd rfl hh
      · intro _; assumption
    · unfold shA
      dsimp only
      split
      · intro hh; exact absurd rfl hh
      · intro _ _; omega
end
/-- One behind the other, each tells its value. -/
def runs (k : Int) : List Int → List Ac → Prop
  | _, [] => True
  | has, a :: l => (tel k has a).1 = a.v ∧ runs k (tel k has a).2 l
/-- In this order they can come; those behind them that have not ended are left out. -/
theorem lin_part {k : Int} {l2 : List Ac} (h2 : ∀ a ∈ l2, a.e = -1) : ∀ (l1 : List Ac) (has : List Int), runs k has l1 → l1.Pairwise (fun a b => b.e ≠ -1 → a.b ≤ b.e) → (∀ a ∈ l1, a.e ≠ -1 → a.b ≤ a.e) → Lin k has (l1 ++ l2)
  | [], has, _, _, _ => .done h2
  | a :: l1, has, hr, hp, hs => by
    rw [List.pairwise_cons] at hp
    refine .step a (l1 ++ l2) (List.Perm.refl _) (fun b hb hb1 => ?_) (fun _ => hr.1) (lin_part h2 l1 _ hr.2 hp.2 (fun b hb => hs b (by simp [hb])))
    rw [List.cons_append] at hb
    rcases List.mem_cons.1 hb with rfl | hb
    · exact hs _ (by simp) hb1
    · rcases List.mem_append.1 hb with hb | hb
      · exact hp.1 b hb hb1
      · exact absurd (h2 b hb) hb1
theorem lin_seq {k : Int} {l : List Ac} {has : List Int} (hr : runs k has l) (hp : l.Pairwise (fun a b => b.e ≠ -1 → a.b ≤ b.e)) (hs : ∀ a ∈ l, a.e ≠ -1 → a.b ≤ a.e) : Lin k has l := by
  have := lin_part (l2 := []) (by simp) l has hr hp hs
  rwa [List.append_nil] at this
/-- Where each has ended before the next began there is one order alone. -/
theorem lin_only {k : Int} : ∀ (l : List Ac) (has : List Int), Lin k has l → l.Pairwise (fun a b => a.e < b.b) → (∀ a ∈ l, a.e ≠ -1) → runs k has l
  | [], has, _, _, _ => trivial
  | a :: l, has, h, hp, he => by
    rw [List.pairwise_cons] at hp
    cases h with
    | done h => exact absurd (h a (by simp)) (he a (by simp))
    | step c rest hq hf ht h =>
      have hc : c ∈ a :: l := hq.mem_iff.2 (by simp)
      have hca : c = a := by
        rcases List.mem_cons.1 hc with rfl | hc
        · rfl
        · have h1 := hp.1 c hc
          have h2 := hf a (by simp) (he a (by simp))
          omega
      subst hca
      have hpr : l.Perm rest := List.Perm.cons_inv hq
      exact ⟨ht (he c (by simp)), lin_only l _ (h.perm hpr.symm) hp.2 (fun b hb => he b (by simp [hb]))⟩
end Go.Baro
