/- Runs beside one another: without an idle thread's steps; a thread that is alone; what the events keep to. No statement of the seat is proved here; no condition. -/
import Derived.Test.YtjihopbapnfppaaDoorRunPure
set_option linter.unusedSimpArgs false
set_option linter.unusedVariables false
namespace Go.Baro

def setSt (s : Nat) (e : Ev) : Ev := { e with st := s }
/-- What a step does depends on the words and the threads alone. -/
theorem actL_sim {g g' : Gs} (hw : g.w = g'.w) (ht : g.th = g'.th) (st st' n bg : Nat) (l : Lv) (o o' : List Ev) :
    (actL g st n bg l o).w = (actL g' st' n bg l o').w ∧ (actL g st n bg l o).th = (actL g' st' n bg l o').th ∧ ∃ es : List Ev, (actL g st n bg l o).out = o ++ es.map (setSt st) ∧ (actL g' st' n bg l o').out = o' ++ es.map (setSt st') := by
  unfold actL
  dsimp only
  rw [hw, ht]
  by_cases h : (exc l g'.w).2.2.2 = true
  · rw [if_pos h, if_pos h]; exact ⟨rfl, rfl, [⟨0, n, bg - 1, true, (exc l g'.w).2.2.1, (exc l g'.w).1.t⟩], rfl, rfl⟩
  · rw [if_neg h, if_neg h]; exact ⟨rfl, rfl, [], by simp, by simp⟩
theorem actG_sim (m : Mc) {g g' : Gs} (hw : g.w = g'.w) (ht : g.th = g'.th) (st st' n : Nat) :
    (actG m g st n).w = (actG m g' st' n).w ∧ (actG m g st n).th = (actG m g' st' n).th ∧ ∃ es : List Ev, (actG m g st n).out = g.out ++ es.map (setSt st) ∧ (actG m g' st' n).out = g'.out ++ es.map (setSt st') := by
  unfold actG
  rw [ht]
  cases (g'.th n).now with
  | some l => exact actL_sim hw ht _ _ _ _ _ _ _
  | none =>
    dsimp only
    cases (m.ts[n]?.getD [])[(g'.th n).bg]? with
    | none => exact ⟨hw, ht, [], by simp, by simp⟩
    | some c =>
      dsimp only
      obtain ⟨h1, h2, es, h3, h4⟩ := actL_sim hw ht st st' n ((g'.th n).bg + 1) (live (m.cs[c.k.toNat]?.getD []) c.ar) (g.out ++ [⟨st, n, (g'.th n).bg, false, 0, []⟩]) (g'.out ++ [⟨st', n, (g'.th n).bg, false, 0, []⟩])
      exact ⟨h1, h2, ⟨0, n, (g'.th n).bg, false, 0, []⟩ :: es, by rw [h3, List.append_assoc]; rfl, by rw [h4, List.append_assoc]; rfl⟩
/-- The steps of a schedule that are not of thread v, from step st on. -/
def wasF (v : Nat) : Nat → List Nat → List Nat
  | _, [] => []
  | st, n :: l => if n = v then wasF v (st + 1) l else st :: wasF v (st + 1) l
def fewF (v : Nat) (l : List Nat) : List Nat := l.filter (fun n => decide (n ≠ v))
theorem wasF_len (v : Nat) : ∀ (l : List Nat) (st : Nat), (wasF v st l).length = (fewF v l).length
  | [], st => rfl
  | n :: l, st => by
    by_cases h : n = v
    · simpa [wasF, fewF, h] using wasF_len v l (st + 1)
    · simpa [wasF, fewF, h] using wasF_len v l (st + 1)
/-- Who has nothing to do does not matter. -/
theorem ply_idle {m : Mc} {v : Nat} (hv : m.ts[v]?.getD [] = []) (f : Nat → Nat) : ∀ (l : List Nat) (st st' : Nat) (g g' : Gs), g.w = g'.w → g.th = g'.th → (g.th v).now = none →
    g.out = g'.out.map (fun e => setSt (f e.st) e) → (∀ (i x : Nat), (wasF v st l)[i]? = some x → f (st' + i) = x) →
    (plyG m st l g).w = (plyG m st' (fewF v l) g').w ∧ (plyG m st l g).out = (plyG m st' (fewF v l) g').out.map (fun e => setSt (f e.st) e)
  | [], st, st', g, g', hw, ht, hn, ho, hf => ⟨hw, ho⟩
  | n :: l, st, st', g, g', hw, ht, hn, ho, hf => by
    by_cases h : n = v
    · subst h
      have e1 : actG m g st n = g := actG_idle hv hn
      have e2 : fewF n (n :: l) = fewF n l := by simp [fewF]
      rw [e2]
      show (plyG m (st + 1) l (actG m g st n)).w = _ ∧ (plyG m (st + 1) l (actG m g st n)).out = _
      rw [e1]
      refine ply_idle hv f l (st + 1) st' g g' hw ht hn ho fun i x hx => hf i x ?_
      simpa [wasF] using hx
    · have e2 : fewF v (n :: l) = n :: fewF v l := by simp [fewF, h]
      rw [e2]
      show (plyG m (st + 1) l (actG m g st n)).w = (plyG m (st' + 1) (fewF v l) (actG m g' st' n)).w ∧ (plyG m (st + 1) l (actG m g st n)).out = (plyG m (st' + 1) (fewF v l) (actG m g' st' n)).out.map _
      obtain ⟨h1, h2, es, h3, h4⟩ := actG_sim m hw ht st st' n
      have hst : f st' = st := hf 0 st (by simp [wasF, h])
      refine ply_idle hv f l (st + 1) (st' + 1) _ _ h1 h2 (by rw [actG_th (Ne.symm h)]; exact hn) ?_ fun i x hx => ?_
      · rw [h3, h4, List.map_append, ho]
        congr 1
        rw [List.map_map]
        refine List.map_congr_left fun e _ => ?_
        simp [setSt, hst]
      · have := hf (i + 1) x (by simpa [wasF, h] using hx)
        rw [show st' + 1 + i = st' + (i + 1) by omega]
        exact this
theorem run_idle {m : Mc} {v : Nat} (hv : m.ts[v]?.getD [] = []) (l : List Nat) :
    (plyG m 0 l (g0 m)).w = (plyG m 0 (fewF v l) (g0 m)).w ∧ (plyG m 0 l (g0 m)).out = (plyG m 0 (fewF v l) (g0 m)).out.map (fun e => setSt ((wasF v 0 l)[e.st]?.getD 0) e) :=
  ply_idle hv (fun i => (wasF v 0 l)[i]?.getD 0) l 0 0 (g0 m) (g0 m) rfl rfl rfl (by simp [g0]) fun i x hx => by rw [Nat.zero_add, hx]; rfl

/-- What is known of the threads by their events: within a call, the next call; the last step. -/
structure Cs where
  inn : Nat → Bool
  nx : Nat → Nat
  la : Nat
def ck1 (s : Cs) (x : Ev) : Cs := ⟨fun i => if i = x.th then !x.en else s.inn i, fun i => if i = x.th ∧ x.en = true then s.nx i + 1 else s.nx i, x.st⟩
/-- An event that may come. -/
def okE (m : Mc) (sch : List Nat) (s : Cs) (x : Ev) : Prop :=
  s.la ≤ x.st ∧ sch[x.st]? = some x.th ∧ x.en = s.inn x.th ∧ x.cl = s.nx x.th ∧ (x.en = false → x.to = [] ∧ x.er = 0) ∧ (ck1 s x).nx x.th ≤ (m.ts[x.th]?.getD []).length
def c0 : Cs := ⟨fun _ => false, fun _ => 0, 0⟩
def Good (m : Mc) (sch : List Nat) (l : List Ev) : Prop := ∀ (i : Nat) (x : Ev), l[i]? = some x → okE m sch ((l.take i).foldl ck1 c0) x
theorem good_snoc {m : Mc} {sch : List Nat} {l : List Ev} {x : Ev} (h : Good m sch l) (hx : okE m sch (l.foldl ck1 c0) x) : Good m sch (l ++ [x]) := by
  intro i y hy
  by_cases hi : i < l.length
  · rw [List.getElem?_append_left hi] at hy
    rw [List.take_append_of_le_length (by omega)]
    exact h i y hy
  · rw [List.getElem?_append_right (by omega)] at hy
    have hi0 : i - l.length = 0 := by
      rcases Nat.eq_zero_or_pos (i - l.length) with h | h
      · exact h
      · rw [List.getElem?_eq_none (by simp; omega)] at hy; cases hy
    rw [hi0] at hy
    injection hy with hy
    subst hy
    rw [show i = l.length by omega, List.take_left' rfl]
    exact hx
/-- The threads are where their events say. -/
structure Fit (m : Mc) (sch : List Nat) (st : Nat) (g : Gs) : Prop where
  good : Good m sch g.out
  inn : ∀ i, (g.out.foldl ck1 c0).inn i = (g.th i).now.isSome
  nx : ∀ i, (g.out.foldl ck1 c0).nx i = if (g.th i).now.isSome = true then (g.th i).bg - 1 else (g.th i).bg
  bg : ∀ i, (g.th i).bg ≤ (m.ts[i]?.getD []).length
  pos : ∀ i, (g.th i).now.isSome = true → 1 ≤ (g.th i).bg
  la : (g.out.foldl ck1 c0).la ≤ st
/-- A thread within its call number bg - 1 does a step. -/
theorem actL_fit {m : Mc} {sch : List Nat} {st n bg : Nat} {g : Gs} {l : Lv} {o : List Ev} (hs : sch[st]? = some n) (hg : Good m sch o) (hin : ∀ i, (o.foldl ck1 c0).inn i = if i = n then true else (g.th i).now.isSome)
    (hnx : ∀ i, (o.foldl ck1 c0).nx i = if i = n then bg - 1 else if (g.th i).now.isSome = true then (g.th i).bg - 1 else (g.th i).bg) (hbg : ∀ i, (g.th i).bg ≤ (m.ts[i]?.getD []).length) (hb1 : 1 ≤ bg) (hb2 : bg ≤ (m.ts[n]?.getD []).length)
    (hpos : ∀ i, (g.th i).now.isSome = true → 1 ≤ (g.th i).bg) (hla : (o.foldl ck1 c0).la ≤ st) : Fit m sch st (actL g st n bg l o) := by
  unfold actL
  dsimp only
  by_cases h : (exc l g.w).2.2.2 = true
  · rw [if_pos h]
    have hn1 := hnx n
    rw [if_pos rfl] at hn1
    have hx : okE m sch (o.foldl ck1 c0) ⟨st, n, bg - 1, true, (exc l g.w).2.2.1, (exc l g.w).1.t⟩ := by
      refine ⟨hla, hs, ?_, hn1.symm, (fun h => by cases h), ?_⟩
      · have := hin n; rw [if_pos rfl] at this; exact this.symm
      · show (if n = n ∧ true = true then (o.foldl ck1 c0).nx n + 1 else _) ≤ (m.ts[n]?.getD []).length
        rw [if_pos ⟨rfl, rfl⟩, hn1]; omega
    refine ⟨good_snoc hg hx, fun i => ?_, fun i => ?_, fun i => ?_, fun i => ?_, ?_⟩
    · rw [List.foldl_append]
      show (if i = n then !true else (o.foldl ck1 c0).inn i) = (putT g.th n ⟨none, bg⟩ i).now.isSome
      unfold putT
      by_cases hi : i = n
      · rw [if_pos hi, if_pos hi]; rfl
      · rw [if_neg hi, if_neg hi, hin i, if_neg hi]
    · rw [List.foldl_append]
      show (if i = n ∧ true = true then (o.foldl ck1 c0).nx i + 1 else (o.foldl ck1 c0).nx i) = if (putT g.th n ⟨none, bg⟩ i).now.isSome = true then (putT g.th n ⟨none, bg⟩ i).bg - 1 else (putT g.th n ⟨none, bg⟩ i).bg
      unfold putT
      by_cases hi : i = n
      · subst hi; rw [if_pos ⟨rfl, rfl⟩, if_pos rfl, hn1]; show bg - 1 + 1 = bg; omega
      · rw [if_neg (fun h => hi h.1), if_neg hi, hnx i, if_neg hi]
    · unfold putT
      by_cases hi : i = n
      · subst hi; dsimp only; rw [if_pos rfl]; exact hb2
      · dsimp only; rw [if_neg hi]; exact hbg i
    · unfold putT
      by_cases hi : i = n
      · subst hi; dsimp only; rw [if_pos rfl]; intro h; cases h
      · dsimp only; rw [if_neg hi]; exact hpos i
    · rw [List.foldl_append]; exact Nat.le_refl _
  · rw [if_neg h]
    refine ⟨hg, fun i => ?_, fun i => ?_, fun i => ?_, fun i => ?_, hla⟩
    · show _ = (putT g.th n ⟨some (exc l g.w).1, bg⟩ i).now.isSome
      rw [hin i]
      unfold putT
      by_cases hi : i = n
      · rw [if_pos hi, if_pos hi]; rfl
      · rw [if_neg hi, if_neg hi]
    · show _ = if (putT g.th n ⟨some (exc l g.w).1, bg⟩ i).now.isSome = true then (putT g.th n ⟨some (exc l g.w).1, bg⟩ i).bg - 1 else (putT g.th n ⟨some (exc l g.w).1, bg⟩ i).bg
      rw [hnx i]
      unfold putT
      by_cases hi : i = n
      · rw [if_pos hi, if_pos hi]; rfl
      · rw [if_neg hi, if_neg hi]
    · unfold putT
      by_cases hi : i = n
      · subst hi; dsimp only; rw [if_pos rfl]; exact hb2
      · dsimp only; rw [if_neg hi]; exact hbg i
    · unfold putT
      by_cases hi : i = n
      · subst hi; dsimp only; rw [if_pos rfl]; intro _; exact hb1
      · dsimp only; rw [if_neg hi]; exact hpos i
theorem actG_fit {m : Mc} {sch : List Nat} {st n : Nat} {g : Gs} (hs : sch[st]? = some n) (h : Fit m sch st g) : Fit m sch st (actG m g st n) := by
  obtain ⟨hg, hin, hnx, hbg, hpos, hla⟩ := h
  unfold actG
  cases hnow : (g.th n).now with
  | some l =>
    refine actL_fit hs hg (fun i => ?_) (fun i => ?_) hbg (hpos n (by rw [hnow]; rfl)) (hbg n) hpos hla
    · rw [hin i]
      by_cases hi : i = n
      · subst hi; rw [if_pos rfl, hnow]; rfl
      · rw [if_neg hi]
    · rw [hnx i]
      by_cases hi : i = n
      · subst hi; rw [if_pos rfl, hnow]; rfl
      · rw [if_neg hi]
  | none =>
    dsimp only
    cases hc : (m.ts[n]?.getD [])[(g.th n).bg]? with
    | none => exact ⟨hg, hin, hnx, hbg, hpos, hla⟩
    | some c =>
      have hlt : (g.th n).bg < (m.ts[n]?.getD []).length := (List.getElem?_eq_some_iff.1 hc).1
      have hn1 := hnx n
      rw [hnow] at hn1
      have hn1 : (g.out.foldl ck1 c0).nx n = (g.th n).bg := hn1
      have hx : okE m sch (g.out.foldl ck1 c0) ⟨st, n, (g.th n).bg, false, 0, []⟩ := by
        refine ⟨hla, hs, ?_, hn1.symm, fun _ => ⟨rfl, rfl⟩, ?_⟩
        · have := hin n; rw [hnow] at this; exact this.symm
        · show (if n = n ∧ false = true then _ else (g.out.foldl ck1 c0).nx n) ≤ _
          rw [if_neg (by simp), hn1]; exact Nat.le_of_lt hlt
      refine actL_fit hs (good_snoc hg hx) (fun i => ?_) (fun i => ?_) hbg (by omega) (by omega) hpos ?_
      · rw [List.foldl_append]
        show (if i = n then !false else (g.out.foldl ck1 c0).inn i) = _
        by_cases hi : i = n
        · rw [if_pos hi, if_pos hi]; rfl
        · rw [if_neg hi, if_neg hi, hin i]
      · rw [List.foldl_append]
        show (if i = n ∧ false = true then _ else (g.out.foldl ck1 c0).nx i) = _
        rw [if_neg (by simp)]
        by_cases hi : i = n
        · subst hi; rw [if_pos rfl, hn1]; omega
        · rw [if_neg hi, hnx i]
      · rw [List.foldl_append]; exact Nat.le_refl _
theorem plyG_fit {m : Mc} {sch : List Nat} : ∀ (l : List Nat) (st : Nat) (g : Gs), sch.drop st = l → Fit m sch st g → Good m sch (plyG m st l g).out
  | [], st, g, _, h => h.good
  | n :: l, st, g, hd, h => by
    have hs : sch[st]? = some n := by
      have := congrArg (·[0]?) hd
      simpa using this
    have h1 := actG_fit hs h
    refine plyG_fit l (st + 1) _ ?_ ⟨h1.good, h1.inn, h1.nx, h1.bg, h1.pos, Nat.le_succ_of_le h1.la⟩
    rw [← List.drop_drop, hd]; rfl
/-- Calls begin and end in their order, one of a thread at a time. -/
theorem run_between (m : Mc) (sch : List Nat) : Good m sch (plyG m 0 sch (g0 m)).out :=
  plyG_fit sch 0 (g0 m) rfl ⟨(fun i x h => by simp [g0] at h), fun i => rfl, fun i => rfl, fun i => Nat.zero_le _, (fun i h => by cases h), Nat.le_refl _⟩
end Go.Baro
