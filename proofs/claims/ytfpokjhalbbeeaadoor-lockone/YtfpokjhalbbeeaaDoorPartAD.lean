/- Of this claim's own texts these, one behind the other: AlgPure2, LockAlg3, Ord. No statement of the seat is proved here; no condition but those that stand at the theorems. -/
import Derived.Test.YtfpokjhalbbeeaaDoorPartAB
import Derived.Test.YtfpokjhalbbeeaaDoorPartAC
import Derived.Still
import Derived.Tactics
import Derived.Tactics2
import Derived.WalkKit
set_option linter.unusedSimpArgs false
set_option linter.unusedVariables false
namespace Go.Baro

theorem exG_bg (g : Gs) (st n i : Nat) : ((exG g st n).th i).bg = (g.th i).bg := by
  cases hn : (g.th n).now with
  | none => rw [exG_none hn]
  | some l =>
    by_cases he : (exc l g.w).2.2.2 = true
    · rw [exG_end hn he]
      dsimp only
      by_cases hi : i = n
      · subst hi; rw [putT_same]
      · rw [putT_other _ _ hi]
    · rw [exG_go hn (by simpa using he)]
      dsimp only
      by_cases hi : i = n
      · subst hi; rw [putT_same]
      · rw [putT_other _ _ hi]
theorem exG_th {g : Gs} {st n i : Nat} (h : i ≠ n) : (exG g st n).th i = g.th i := by
  cases hn : (g.th n).now with
  | none => rw [exG_none hn]
  | some l =>
    by_cases he : (exc l g.w).2.2.2 = true
    · rw [exG_end hn he]; exact putT_other _ _ h
    · rw [exG_go hn (by simpa using he)]; exact putT_other _ _ h
/-- A step's beginning: nothing, or a call begins. -/
theorem bgG_cases (m : Mc) (g : Gs) (st n : Nat) : (bgG m g st n = g ∧ ((g.th n).now ≠ none ∨ ((g.th n).now = none ∧ (m.ts[n]?.getD []).length ≤ (g.th n).bg))) ∨
    ∃ c, (g.th n).now = none ∧ (m.ts[n]?.getD [])[(g.th n).bg]? = some c ∧ bgG m g st n = ⟨g.w, putT g.th n ⟨some (live (m.cs[c.k.toNat]?.getD []) c.ar), (g.th n).bg + 1⟩, g.out ++ [⟨st, n, (g.th n).bg, false, 0, []⟩]⟩ := by
  unfold bgG
  cases hn : (g.th n).now with
  | some l => exact .inl ⟨rfl, .inl (by simp)⟩
  | none =>
    dsimp only
    cases hc : (m.ts[n]?.getD [])[(g.th n).bg]? with
    | none => exact .inl ⟨rfl, .inr ⟨rfl, by simpa using hc⟩⟩
    | some c => exact .inr ⟨c, rfl, rfl, rfl⟩
/-- No more calls begin than there are. -/
theorem bg_le (m : Mc) (S : List Nat) (i : Nat) : ((plyG m 0 S (g0 m)).th i).bg ≤ (m.ts[i]?.getD []).length := by
  refine plyG_indS (I := fun _ g => (g.th i).bg ≤ (m.ts[i]?.getD []).length) (A := fun _ => True) (by simp [g0]) (fun S g n _ h => ?_) S (fun _ _ => trivial)
  rw [actG_eq, exG_bg]
  rcases bgG_cases m g S.length n with ⟨h1, _⟩ | ⟨c, h1, h2, h3⟩
  · rw [h1]; exact h
  · rw [h3]
    dsimp only
    by_cases hi : i = n
    · subst hi
      rw [putT_same]
      exact (List.getElem?_eq_some_iff.1 h2).1
    · rw [putT_other _ _ hi]; exact h
/-- What becomes of a call. -/
theorem dgs_later {es : List Ev} {st : Nat} (hes : ∀ x ∈ es, st ≤ x.st) : ∀ (l : List Dg) (d : Dg), d ∈ l → ∃ d' ∈ es.foldl dg1 l, d'.th = d.th ∧ d'.cl = d.cl ∧ d'.b = d.b ∧ (d.e ≠ -1 → d' = d) ∧ (d.e = -1 → d'.e = -1 ∨ (st : Int) ≤ d'.e) := by
  induction es with
  | nil => intro l d hd; exact ⟨d, hd, rfl, rfl, rfl, fun _ => rfl, fun h => .inl h⟩
  | cons x es ih =>
    intro l d hd
    rw [List.foldl_cons]
    have ih := ih (fun y hy => hes y (by simp [hy]))
    have hx := hes x (by simp)
    by_cases he : x.en = true
    · rw [dg1_end _ _ he]
      obtain ⟨d', h1, h2, h3, h4, h5, h6⟩ := ih (l.map (fun d => d.fin x)) (d.fin x) (List.mem_map.2 ⟨d, hd, rfl⟩)
      unfold Dg.fin at h2 h3 h4 h5 h6
      by_cases hi : d.is x
      · simp only [if_pos hi] at h2 h3 h4 h5 h6
        refine ⟨d', h1, h2, h3, h4, fun h => absurd hi.2.2 h, fun _ => .inr ?_⟩
        have := h5 (by omega)
        rw [this]
        dsimp only
        omega
      · simp only [if_neg hi] at h2 h3 h4 h5 h6
        exact ⟨d', h1, h2, h3, h4, h5, h6⟩
    · rw [dg1_begin _ _ (by simpa using he)]
      exact ih _ d (by simp [hd])
theorem ply_later (m : Mc) (S T : List Nat) {d : Dg} (hd : d ∈ dgs (plyG m 0 S (g0 m)).out) : ∃ d' ∈ dgs (plyG m 0 (S ++ T) (g0 m)).out, d'.th = d.th ∧ d'.cl = d.cl ∧ d'.b = d.b ∧ (d.e ≠ -1 → d' = d) ∧ (d.e = -1 → d'.e = -1 ∨ (S.length : Int) ≤ d'.e) := by
  obtain ⟨es, h1, h2⟩ := run_parts m S T
  rw [h1]
  have : dgs ((plyG m 0 S (g0 m)).out ++ es) = es.foldl dg1 (dgs (plyG m 0 S (g0 m)).out) := by simp [dgs, List.foldl_append]
  rw [this]
  exact dgs_later h2 _ d hd
/-- Where all calls have ended, those that follow come behind them. -/
theorem dgs_behind {es : List Ev} {st : Nat} (hes : ∀ x ∈ es, st ≤ x.st) : ∀ (l r : List Dg), (∀ d ∈ l, d.e ≠ -1) → (∀ d ∈ r, st ≤ d.b) → ∃ r', es.foldl dg1 (l ++ r) = l ++ r' ∧ ∀ d ∈ r', st ≤ d.b := by
  induction es with
  | nil => intro l r _ hr; exact ⟨r, rfl, hr⟩
  | cons x es ih =>
    intro l r hl hr
    rw [List.foldl_cons]
    have ih := ih (fun y hy => hes y (by simp [hy]))
    by_cases he : x.en = true
    · rw [dg1_end _ _ he, List.map_append]
      have : l.map (fun d => d.fin x) = l := by
        conv => rhs; rw [← List.map_id l]
        refine List.map_congr_left fun d hd => ?_
        unfold Dg.fin
        rw [if_neg (fun hi => hl d hd hi.2.2)]
        rfl
      rw [this]
      refine ih l _ hl fun d hd => ?_
      obtain ⟨q, hq, rfl⟩ := List.mem_map.1 hd
      have := hr q hq
      unfold Dg.fin
      split <;> exact this
    · rw [dg1_begin _ _ (by simpa using he), List.append_assoc]
      refine ih l _ hl fun d hd => ?_
      rcases List.mem_append.1 hd with hd | hd
      · exact hr d hd
      · rw [List.mem_singleton.1 hd]; exact hes x (by simp)
theorem ply_behind (m : Mc) (S T : List Nat) (hd : ∀ d ∈ dgs (plyG m 0 S (g0 m)).out, d.e ≠ -1) : ∃ r, dgs (plyG m 0 (S ++ T) (g0 m)).out = dgs (plyG m 0 S (g0 m)).out ++ r ∧ ∀ d ∈ r, S.length ≤ d.b := by
  obtain ⟨es, h1, h2⟩ := run_parts m S T
  rw [h1]
  have : dgs ((plyG m 0 S (g0 m)).out ++ es) = es.foldl dg1 (dgs (plyG m 0 S (g0 m)).out ++ []) := by simp [dgs, List.foldl_append]
  rw [this]
  exact dgs_behind h2 _ [] hd (by simp)
/-- How many calls a run tells of. -/
theorem dgs_count {m : Mc} {S : List Nat} (hS : ∀ n ∈ S, n < 4) : (dgs (plyG m 0 S (g0 m)).out).length = ((plyG m 0 S (g0 m)).th 0).bg + ((plyG m 0 S (g0 m)).th 1).bg + ((plyG m 0 S (g0 m)).th 2).bg + ((plyG m 0 S (g0 m)).th 3).bg := by
  refine plyG_indS (I := fun _ g => (dgs g.out).length = (g.th 0).bg + (g.th 1).bg + (g.th 2).bg + (g.th 3).bg) (A := fun n => n < 4) (by simp [g0, dgs]) (fun S g n hn h => ?_) S hS
  have hex : ∀ g : Gs, (dgs (exG g S.length n).out).length = (dgs g.out).length := by
    intro g
    cases hn : (g.th n).now with
    | none => rw [exG_none hn]
    | some l =>
      by_cases he : (exc l g.w).2.2.2 = true
      · rw [exG_end hn he]; dsimp only; rw [dgs_snoc, dg1_end _ _ rfl]; simp
      · rw [exG_go hn (by simpa using he)]
  rw [actG_eq, hex, exG_bg, exG_bg, exG_bg, exG_bg]
  rcases bgG_cases m g S.length n with ⟨h1, _⟩ | ⟨c, h1, h2, h3⟩
  · rw [h1]; exact h
  · rw [h3]
    dsimp only
    rw [dgs_begin, List.length_append, List.length_singleton, h]
    unfold putT
    rcases (by omega : n = 0 ∨ n = 1 ∨ n = 2 ∨ n = 3) with rfl | rfl | rfl | rfl <;> simp <;> omega
/-- Threads that do no step have begun nothing. -/
theorem th_idle {m : Mc} {S : List Nat} {i : Nat} (hS : ∀ n ∈ S, n ≠ i) : (plyG m 0 S (g0 m)).th i = ⟨none, 0⟩ := by
  refine plyG_indS (I := fun _ g => g.th i = ⟨none, 0⟩) (A := fun n => n ≠ i) rfl (fun S g n hn h => ?_) S hS
  rw [actG_th (fun e => hn e.symm)]; exact h
theorem th_later {m : Mc} {S T : List Nat} {i : Nat} (hT : ∀ n ∈ T, n ≠ i) : (plyG m 0 (S ++ T) (g0 m)).th i = (plyG m 0 S (g0 m)).th i := by
  rw [plyG_append]
  generalize plyG m 0 S (g0 m) = g
  generalize 0 + S.length = st
  induction T generalizing g st with
  | nil => rfl
  | cons n T ih =>
    show (plyG m (st + 1) T (actG m g st n)).th i = _
    rw [ih (fun k hk => hT k (by simp [hk])), actG_th (fun e => hT n (by simp) e.symm)]
/-- Where no call of a thread takes more than B steps, a thread that has done more steps than all its calls may take has done them all. -/
theorem busy {m : Mc} {n B : Nat} (hB : ∀ S : List Nat, (∀ x ∈ S, x < 4) → ∀ x ∈ dgs (plyG m 0 S (g0 m)).out, x.th = n → x.e ≠ -1 → ((S.take (x.e + 1).toNat).drop x.b).count n ≤ B) (S : List Nat) (hS : ∀ x ∈ S, x < 4) :
    (((plyG m 0 S (g0 m)).th n).now = none ∧ (m.ts[n]?.getD []).length ≤ ((plyG m 0 S (g0 m)).th n).bg) ∨ (((plyG m 0 S (g0 m)).th n).now = none ∧ S.count n ≤ B * ((plyG m 0 S (g0 m)).th n).bg) ∨
      ∃ x ∈ dgs (plyG m 0 S (g0 m)).out, x.th = n ∧ x.e = -1 ∧ S.count n ≤ B * (((plyG m 0 S (g0 m)).th n).bg - 1) + (S.drop x.b).count n := by
  suffices h : Hs S.length S.length (plyG m 0 S (g0 m)) ∧ plyG m 0 S (g0 m) = plyG m 0 S (g0 m) ∧ ((((plyG m 0 S (g0 m)).th n).now = none ∧ (m.ts[n]?.getD []).length ≤ ((plyG m 0 S (g0 m)).th n).bg) ∨ (((plyG m 0 S (g0 m)).th n).now = none ∧ S.count n ≤ B * ((plyG m 0 S (g0 m)).th n).bg) ∨
      ∃ x ∈ dgs (plyG m 0 S (g0 m)).out, x.th = n ∧ x.e = -1 ∧ S.count n ≤ B * (((plyG m 0 S (g0 m)).th n).bg - 1) + (S.drop x.b).count n) from h.2.2
  refine plyG_indS (m := m) (I := fun S g => Hs S.length S.length g ∧ ((∀ x ∈ S, x < 4) ∧ g = plyG m 0 S (g0 m)) ∧ (((g.th n).now = none ∧ (m.ts[n]?.getD []).length ≤ (g.th n).bg) ∨ ((g.th n).now = none ∧ S.count n ≤ B * (g.th n).bg) ∨
      ∃ x ∈ dgs g.out, x.th = n ∧ x.e = -1 ∧ S.count n ≤ B * ((g.th n).bg - 1) + (S.drop x.b).count n)) (A := fun n => n < 4) ⟨hs_zero m, ⟨by simp, rfl⟩, .inr (.inl ⟨rfl, by simp⟩)⟩ (fun S g k hk h => ?_) S hS |> fun h => ⟨h.1, rfl, h.2.2⟩
  obtain ⟨hs, ⟨hS4, hg⟩, hI⟩ := h
  have hsn : Hs (S ++ [k]).length (S ++ [k]).length (actG m g S.length k) := by rw [List.length_append, List.length_singleton]; exact hs_act hs
  have hgn : (∀ x ∈ S ++ [k], x < 4) ∧ actG m g S.length k = plyG m 0 (S ++ [k]) (g0 m) := ⟨fun x hx => by rcases List.mem_append.1 hx with hx | hx; exact hS4 x hx; rw [List.mem_singleton.1 hx]; exact hk, by rw [ply_snoc, hg]⟩
  refine ⟨hsn, hgn, ?_⟩
  have hBn := hB (S ++ [k]) hgn.1
  rw [← hgn.2] at hBn
  by_cases hkn : k = n
  · subst hkn
    have hcnt : (S ++ [k]).count k = S.count k + 1 := by simp
    rw [hcnt]
    -- the state behind the beginning
    have hmid : ((g.th k).now = none ∧ (m.ts[k]?.getD []).length ≤ (g.th k).bg ∧ bgG m g S.length k = g) ∨ (((bgG m g S.length k).th k).now ≠ none ∧ ∃ x ∈ dgs (bgG m g S.length k).out, x.th = k ∧ x.e = -1 ∧ S.count k ≤ B * (((bgG m g S.length k).th k).bg - 1) + (S.drop x.b).count k) := by
      rcases bgG_cases m g S.length k with ⟨h1, h2⟩ | ⟨c, h1, h2, h3⟩
      · rw [h1]
        rcases h2 with h2 | ⟨h2, h4⟩
        · rcases hI with ⟨q, _⟩ | ⟨q, _⟩ | q
          · exact absurd q h2
          · exact absurd q h2
          · exact .inr ⟨h2, q⟩
        · exact .inl ⟨h2, h4, rfl⟩
      · refine .inr ?_
        rw [h3]
        dsimp only
        rw [putT_same, dgs_begin]
        refine ⟨by simp, ⟨S.length, -1, k, (g.th k).bg, []⟩, by simp, rfl, rfl, ?_⟩
        dsimp only
        rcases hI with ⟨_, q⟩ | ⟨_, q⟩ | ⟨x, q1, q2, q3, _⟩
        · have := (List.getElem?_eq_some_iff.1 h2).1; omega
        · rw [List.drop_eq_nil_of_le (Nat.le_refl _)]; simpa using q
        · have := ((hs.opn x q1).1 q3).1; rw [q2] at this; exact absurd h1 this
    rw [actG_eq] at hBn ⊢
    have hsm := hs_begin (m := m) (n := k) hs
    generalize bgG m g S.length k = gm at hmid hBn hsm
    rcases hmid with ⟨h1, h2, rfl⟩ | ⟨h1, x, h2, h3, h4, h5⟩
    · rw [exG_none h1]; exact .inl ⟨h1, h2⟩
    · cases hl : (gm.th k).now with
      | none => exact absurd hl h1
      | some l =>
        have hxb := (hsm.bnd x h2).1
        by_cases he : (exc l gm.w).2.2.2 = true
        · rw [exG_end hl he] at hBn ⊢
          dsimp only at hBn ⊢
          refine .inr (.inl ⟨by rw [putT_same], ?_⟩)
          rw [putT_same]
          dsimp only
          obtain ⟨o, ho, o1, o2, o3, o4, o5, o6, o7⟩ := dgs_end (x := ⟨S.length, k, (gm.th k).bg - 1, true, (exc l gm.w).2.2.1, (exc l gm.w).1.t⟩) hsm (by rw [hl]; simp) rfl rfl rfl
          obtain rfl := (o4 x h2 h4 h3).1
          have := hBn _ o7 rfl (by dsimp only; omega)
          dsimp only at this
          rw [show ((S.length : Int) + 1).toNat = (S ++ [k]).length by simp, List.take_length, List.drop_append_of_le_length (by omega), List.count_append] at this
          have h1b := hsm.ps k (by rw [hl]; simp)
          have hB1 : B * (gm.th k).bg = B * ((gm.th k).bg - 1) + B := by
            rw [← Nat.mul_succ]; congr 1; omega
          simp at this
          omega
        · rw [exG_go hl (by simpa using he)]
          dsimp only
          rw [putT_same]
          refine .inr (.inr ⟨x, h2, h3, h4, ?_⟩)
          dsimp only
          rw [List.drop_append_of_le_length (by omega), List.count_append]
          simp
          omega
  · have hcnt : (S ++ [k]).count n = S.count n := by simp [hkn]
    rw [hcnt, actG_th (fun e => hkn e.symm)]
    rcases hI with q | q | ⟨x, q1, q2, q3, q4⟩
    · exact .inl q
    · exact .inr (.inl q)
    · have hxb := (hs.bnd x q1).1
      refine .inr (.inr ⟨x, ?_, q2, q3, by rw [List.drop_append_of_le_length (by omega), List.count_append]; omega⟩)
      have hmem : x ∈ dgs (bgG m g S.length k).out := by
        rcases bgG_cases m g S.length k with ⟨h1, h2⟩ | ⟨c, h1, h2, h3⟩
        · rw [h1]; exact q1
        · rw [h3]; dsimp only; rw [dgs_begin]; simp [q1]
      have hsm := hs_begin (m := m) (n := k) hs
      rw [actG_eq]
      generalize bgG m g S.length k = gm at hmem hsm
      cases hl : (gm.th k).now with
      | none => rw [exG_none hl]; exact hmem
      | some l =>
        by_cases he : (exc l gm.w).2.2.2 = true
        · rw [exG_end hl he]
          obtain ⟨o, ho, o1, o2, o3, o4, o5, o6, o7⟩ := dgs_end (x := ⟨S.length, k, (gm.th k).bg - 1, true, (exc l gm.w).2.2.1, (exc l gm.w).1.t⟩) hsm (by rw [hl]; simp) rfl rfl rfl
          exact o6 x hmem (by rintro rfl; exact hkn (o1.symm.trans q2))
        · rw [exG_go hl (by simpa using he)]; exact hmem
end Go.Baro

set_option linter.unusedSimpArgs false
set_option linter.unusedVariables false
namespace Go.Baro.Lok
open Go.RowKit (wrap64)

def In (L : Nat) (x : Nat → Nat) : Prop := ∀ i, i < ht L → x i = 3
def Out (x : Nat → Nat) : Prop := ∀ i, x i = 0
/-- The work between, instruction by instruction: it leaves the first words alone. -/
structure MidOk (lo N : Nat) (md : List Ins) (A : Nat → (Int → Int) → (Nat → Int) → Prop) : Prop where
  ne : 0 < md.length
  start : ∀ r v, (∀ i, r i = 0) → A 0 r v
  step : ∀ p r (w : List Int), w.length = N → p ≠ md.length → A p r (rd w) → ∃ p' r' w', Nx md p r [] w p' r' [] w' ∧ w'.length = N ∧ (∀ i, i < lo → rd w' i = rd w i) ∧ A p' r' (rd w')
  same : ∀ p r v v', (∀ i, lo ≤ i → v' i = v i) → A p r v → A p r v'
/-- A machine of lock: n threads come in, do their work, go out, again and again. -/
structure Mok (m : Mc) (L N n : Nat) (md : List Ins) : Prop where
  ws : m.ws.length = N
  wl : 3 * L ≤ N
  nL : n ≤ L
  cs : m.cs = [entC L, leaC L, md]
  calls : ∀ t, t < n → ∀ (i : Nat) c, (m.ts[t]?.getD [])[i]? = some c → (i % 3 = 0 → c.k = 0 ∧ c.ar = [(t : Int)]) ∧ (i % 3 = 1 → c.k = 2 ∧ c.ar = []) ∧ (i % 3 = 2 → c.k = 1 ∧ c.ar = [(t : Int)])
/-- A thread. -/
def TT (L : Nat) (md : List Ins) (A : Nat → (Int → Int) → (Nat → Int) → Prop) (w : List Int) (x : Nat → Nat) (t : Nat) (td : Td) : Prop :=
  (td.now = none ∧ (td.bg % 3 = 0 → Out x) ∧ (td.bg % 3 ≠ 0 → In L x)) ∨
  (∃ (p : Nat) (r : Int → Int), td.now = some ⟨entC L, (p : Nat), r, []⟩ ∧ td.bg % 3 = 1 ∧ p ≠ 20 ∧ EA L t x p r) ∨
  (∃ (p : Nat) (r : Int → Int), td.now = some ⟨md, (p : Nat), r, []⟩ ∧ td.bg % 3 = 2 ∧ p ≠ md.length ∧ A p r (rd w) ∧ In L x) ∨
  (∃ (p : Nat) (r : Int → Int), td.now = some ⟨leaC L, (p : Nat), r, []⟩ ∧ td.bg % 3 = 0 ∧ p ≠ lq L + 3 ∧ LA L t x p r)
/-- Whoever came in ahead has begun to go out. -/
def OneZ (D : List Dg) : Prop := ∀ x ∈ D, ∀ y ∈ D, x.cl % 3 = 0 → x.e ≠ -1 → y.cl % 3 = 0 → y.e ≠ -1 → y.th ≠ x.th → x.e < y.e → ∃ z ∈ D, z.th = x.th ∧ z.cl = x.cl + 2 ∧ (z.b : Int) ≤ y.e
structure J (L N n : Nat) (md : List Ins) (A : Nat → (Int → Int) → (Nat → Int) → Prop) (S : List Nat) (sb : Nat) (g : Gs) (f : Ph) : Prop where
  gi : GI L g.w f
  len : g.w.length = N
  tt : ∀ t, t < n → TT L md A g.w (f t) t (g.th t)
  hs : Hs sb S.length g
  th : ∀ x ∈ dgs g.out, x.th < n
  one : OneZ (dgs g.out)
  err : noErr g
variable {m : Mc} {L N n t : Nat} {md : List Ins} {A : Nat → (Int → Int) → (Nat → Int) → Prop} {S : List Nat} {g : Gs} {f : Ph} {sb : Nat}

theorem TT.keep (hM : MidOk (3 * L) N md A) {w w' : List Int} {x : Nat → Nat} {td : Td} (h : TT L md A w x t td) (hw : (∀ i, 3 * L ≤ i → rd w' i = rd w i) ∨ ¬ In L x) : TT L md A w' x t td := by
  rcases h with h | h | ⟨p, r, h1, h2, h3, h4, h5⟩ | h
  · exact .inl h
  · exact .inr (.inl h)
  · rcases hw with hw | hw
    · exact .inr (.inr (.inl ⟨p, r, h1, h2, h3, hM.same _ _ _ _ hw h4, h5⟩))
    · exact absurd h5 hw
  · exact .inr (.inr (.inr h))
theorem j_begin (hL : okL L) (hM : MidOk (3 * L) N md A) (hm : Mok m L N n md) (ht' : t < n) (H : J L N n md A S S.length g f) : J L N n md A S (S.length + 1) (bgG m g S.length t) f := by
  have hhs := hs_begin (m := m) (n := t) H.hs
  rcases bgG_cases m g S.length t with ⟨h1, _⟩ | ⟨c, h1, h2, h3⟩
  · rw [h1] at hhs ⊢; exact ⟨H.gi, H.len, H.tt, hhs, H.th, H.one, H.err⟩
  · rw [h3] at hhs ⊢
    have hnow := H.tt t ht'
    obtain ⟨q0, q1, q2⟩ := hm.calls t ht' _ c h2
    obtain ⟨q3, q4⟩ : ((g.th t).bg % 3 = 0 → Out (f t)) ∧ ((g.th t).bg % 3 ≠ 0 → In L (f t)) := by
      rcases hnow with ⟨_, h⟩ | ⟨p, r, h, _⟩ | ⟨p, r, h, _⟩ | ⟨p, r, h, _⟩
      · exact h
      all_goals rw [h1] at h; cases h
    refine ⟨H.gi, H.len, fun u hu => ?_, hhs, fun x hx => ?_, fun x hx y hy a1 a2 a3 a4 a5 a6 => ?_, fun x hx hen => ?_⟩
    · by_cases hut : u = t
      · subst hut
        dsimp only
        rw [putT_same]
        rcases (by omega : (g.th u).bg % 3 = 0 ∨ (g.th u).bg % 3 = 1 ∨ (g.th u).bg % 3 = 2) with e | e | e
        · obtain ⟨k1, k2⟩ := q0 e
          refine .inr (.inl ⟨0, _, ?_, by dsimp only; omega, by decide, .s0 _ (show (live (entC L) [(u : Int)]).r 0 = _ by simp [live, st0]) (q3 e)⟩)
          dsimp only
          rw [k1, k2, hm.cs]; rfl
        · obtain ⟨k1, k2⟩ := q1 e
          refine .inr (.inr (.inl ⟨0, _, ?_, by dsimp only; omega, by have := hM.ne; omega, hM.start _ _ (fun i => show (live md []).r i = 0 by simp [live, st0]), q4 (by omega)⟩))
          dsimp only
          rw [k1, k2, hm.cs]; rfl
        · obtain ⟨k1, k2⟩ := q2 e
          refine .inr (.inr (.inr ⟨0, _, ?_, by dsimp only; omega, by omega, .l0 _ (show (live (leaC L) [(u : Int)]).r 0 = _ by simp [live, st0]) (q4 (by omega))⟩))
          dsimp only
          rw [k1, k2, hm.cs]; rfl
      · dsimp only
        rw [putT_other _ _ hut]
        exact H.tt u hu
    · dsimp only at hx
      rw [dgs_begin] at hx
      rcases List.mem_append.1 hx with hx | hx
      · exact H.th x hx
      · rw [List.mem_singleton.1 hx]; exact ht'
    · dsimp only at hx hy ⊢
      rw [dgs_begin] at hx hy ⊢
      rcases List.mem_append.1 hx with hx | hx
      · rcases List.mem_append.1 hy with hy | hy
        · obtain ⟨z, hz, z1⟩ := H.one x hx y hy a1 a2 a3 a4 a5 a6
          exact ⟨z, by simp [hz], z1⟩
        · rw [List.mem_singleton.1 hy] at a4; exact absurd rfl a4
      · rw [List.mem_singleton.1 hx] at a2; exact absurd rfl a2
    · rcases List.mem_append.1 hx with hx | hx
      · exact H.err x hx hen
      · rw [List.mem_singleton.1 hx] at hen; cases hen
/-- What a step of a thread within a call leaves. -/
theorem t_step (hL : okL L) (hM : MidOk (3 * L) N md A) (hnL : n ≤ L) (ht' : t < n) (H : J L N n md A S sb g f) (hnow : (g.th t).now ≠ none) :
    ∃ (c : List Ins) (p : Nat) (r : Int → Int) (p' : Nat) (r' : Int → Int) (w' : List Int) (x' : Nat → Nat), (g.th t).now = some ⟨c, (p : Nat), r, []⟩ ∧ Nx c p r [] g.w p' r' [] w' ∧ GI L w' (pu f t x') ∧ w'.length = N ∧ (∀ u, u < n → u ≠ t → TT L md A w' (f u) u (g.th u)) ∧
      (p' ≠ c.length → TT L md A w' x' t ⟨some ⟨c, (p' : Nat), r', []⟩, (g.th t).bg⟩) ∧ (p' = c.length → TT L md A w' x' t ⟨none, (g.th t).bg⟩) ∧ ((g.th t).bg % 3 ≠ 2 → ∀ i, 3 * L ≤ i → rd w' i = rd g.w i) := by
  rcases H.tt t ht' with ⟨h, _⟩ | ⟨p, r, h1, h2, h3, h4⟩ | ⟨p, r, h1, h2, h3, h4, h5⟩ | ⟨p, r, h1, h2, h3, h4⟩
  · exact absurd h hnow
  · obtain ⟨p', r', w', x', k1, k2, k3, k4, k5⟩ := ent_step hL (by omega) H.gi h4 h3
    refine ⟨_, p, r, p', r', w', x', h1, k1, k2, by rw [k4]; exact H.len, fun u hu hut => (H.tt u hu).keep hM (.inl k5), fun hp => .inr (.inl ⟨p', r', rfl, h2, by rwa [entC_len] at hp, k3⟩), fun hp => ?_, fun _ => k5⟩
    rw [entC_len] at hp
    subst hp
    have : In L x' := by
      cases k3 with
      | fin r F => exact F
    exact .inl ⟨rfl, fun h => by dsimp only at h; omega, fun _ => this⟩
  · obtain ⟨p', r', w', k1, k2, k3, k4⟩ := hM.step p r g.w H.len h3 h4
    refine ⟨_, p, r, p', r', w', f t, h1, k1, by rw [pu_id]; exact H.gi.far (by rw [k2, H.len]) k3 hL, k2, fun u hu hut => (H.tt u hu).keep hM (.inr fun h => H.gi.excl hL (t := t) (u := u) (by omega) (by omega) (fun e => hut e.symm) h5 h), fun hp => .inr (.inr (.inl ⟨p', r', rfl, h2, hp, k4, h5⟩)), fun hp => .inl ⟨rfl, fun h => by dsimp only at h; omega, fun _ => h5⟩, fun h => absurd h2 h⟩
  · obtain ⟨p', r', w', x', k1, k2, k3, k4, k5⟩ := lea_step hL (by omega) H.gi h4 h3
    refine ⟨_, p, r, p', r', w', x', h1, k1, k2, by rw [k4]; exact H.len, fun u hu hut => (H.tt u hu).keep hM (.inl k5), fun hp => .inr (.inr (.inr ⟨p', r', rfl, h2, by rwa [leaC_len hL] at hp, k3⟩)), fun hp => ?_, fun _ => k5⟩
    rw [leaC_len hL] at hp
    subst hp
    have : Out x' := by
      generalize hq : lq L + 3 = q at k3
      have hlq : lq L = 3 ∨ lq L = 6 := by unfold lq; split <;> simp
      cases k3 with
      | fin r z => exact z
      | _ => omega
    exact .inl ⟨rfl, fun _ => this, fun h => by dsimp only at h; omega⟩
/-- Who has come in and not begun to go out is inside. -/
theorem J.inside (H : J L N n md A S sb g f) {x : Dg} (hx : x ∈ dgs g.out) (h3 : x.cl % 3 = 0) (he : x.e ≠ -1) (hz : ∀ z ∈ dgs g.out, z.th = x.th → z.cl ≠ x.cl + 2) : In L (f x.th) := by
  have h1 := H.hs.own x hx
  have h2 : (g.th x.th).bg ≤ x.cl + 2 := by
    refine Classical.byContradiction fun h => ?_
    obtain ⟨z, hz1, hz2, hz3⟩ := H.hs.all x.th (x.cl + 2) (by omega)
    exact hz z hz1 hz2 hz3
  have h4 : (g.th x.th).now ≠ none → x.cl + 1 ≠ (g.th x.th).bg := fun hn e => he ((H.hs.opn x hx).2 ⟨hn, e⟩)
  rcases H.tt x.th (H.th x hx) with ⟨_, _, h⟩ | ⟨p, r, q1, q2, _⟩ | ⟨p, r, q1, q2, _, _, h⟩ | ⟨p, r, q1, q2, _⟩
  · exact h (by omega)
  · have := h4 (by rw [q1]; simp); omega
  · exact h
  · have := h4 (by rw [q1]; simp); omega
theorem noErr_end {g : Gs} (h : noErr g) {w : List Int} {T : Nat → Td} {st n c : Nat} {to : List Int} : noErr ⟨w, T, g.out ++ [⟨st, n, c, true, 0, to⟩]⟩ := by
  intro x hx he
  rcases List.mem_append.1 hx with hx | hx
  · exact h x hx he
  · rw [List.mem_singleton.1 hx]
theorem j_exec (hL : okL L) (hM : MidOk (3 * L) N md A) (hnL : n ≤ L) (ht' : t < n) (H : J L N n md A S (S.length + 1) g f) : ∃ f', J L N n md A (S ++ [t]) (S.length + 1) (exG g S.length t) f' := by
  have hhs := hs_exec (n := t) H.hs
  have hlen : (S ++ [t]).length = S.length + 1 := by simp
  by_cases hnow : (g.th t).now = none
  · rw [exG_none hnow] at hhs ⊢
    exact ⟨f, H.gi, H.len, H.tt, by rw [hlen]; exact hhs, H.th, H.one, H.err⟩
  · obtain ⟨c, p, r, p', r', w', x', k1, k2, k3, k4, k5, k6, k7, _⟩ := t_step hL hM hnL ht' H hnow
    have hstep := exG_nx (st := S.length) k1 k2
    have hTT : ∀ td, TT L md A w' x' t td → ∀ u, u < n → TT L md A w' (pu f t x' u) u (putT g.th t td u) := fun td h u hu => by
      by_cases hut : u = t
      · subst hut; rw [pu_same, putT_same]; exact h
      · rw [pu_other _ _ hut, putT_other _ _ hut]; exact k5 u hu hut
    by_cases hp : p' = c.length
    · rw [if_pos hp] at hstep
      rw [hstep] at hhs ⊢
      obtain ⟨o, ho, o1, o2, o3, o4, o5, o6, o7⟩ := dgs_end (x := ⟨S.length, t, (g.th t).bg - 1, true, 0, []⟩) H.hs (n := t) hnow rfl rfl rfl
      have hbg := H.hs.ps t hnow
      have hzz : ∀ z ∈ dgs g.out, ∃ z' ∈ dgs (g.out ++ [⟨S.length, t, (g.th t).bg - 1, true, 0, []⟩]), z'.th = z.th ∧ z'.cl = z.cl ∧ z'.b = z.b := fun z hz => by
        by_cases hzo : z = o
        · subst hzo; exact ⟨_, o7, o1.symm, o2.symm, rfl⟩
        · exact ⟨z, o6 z hz hzo, rfl, rfl, rfl⟩
      refine ⟨pu f t x', k3, k4, hTT _ (k7 hp), by rw [hlen]; exact hhs, fun x hx => ?_, fun x hx y hy a1 a2 a3 a4 a5 a6 => ?_, noErr_end H.err⟩
      · rcases o5 x hx with ⟨h, _⟩ | rfl
        · exact H.th x h
        · exact ht'
      · rcases o5 x hx with ⟨hx1, _, _⟩ | rfl
        · rcases o5 y hy with ⟨hy1, _, _⟩ | rfl
          · obtain ⟨z, hz, z1, z2, z3⟩ := H.one x hx1 y hy1 a1 a2 a3 a4 a5 a6
            obtain ⟨z', hz', e1, e2, e3⟩ := hzz z hz
            exact ⟨z', hz', e1.trans z1, e2.trans z2, by rw [e3]; exact z3⟩
          · dsimp only at a3 a4 a5 a6 ⊢
            by_cases hz : ∃ z ∈ dgs g.out, z.th = x.th ∧ z.cl = x.cl + 2
            · obtain ⟨z, hz, z1, z2⟩ := hz
              obtain ⟨z', hz', e1, e2, e3⟩ := hzz z hz
              have := (H.hs.bnd z hz).1
              exact ⟨z', hz', e1.trans z1, e2.trans z2, by rw [e3]; omega⟩
            · exfalso
              have h1 := H.inside hx1 a1 a2 (fun z k z1 z2 => hz ⟨z, k, z1, z2⟩)
              have h2 : In L x' := by
                rcases k7 hp with ⟨_, _, h⟩ | ⟨_, _, h, _⟩ | ⟨_, _, h, _⟩ | ⟨_, _, h, _⟩
                · exact h (by dsimp only; omega)
                all_goals cases h
              have hxn := H.th x hx1
              refine k3.excl hL (t := t) (u := x.th) (by omega) (by omega) a5 (fun i hi => ?_) (fun i hi => ?_)
              · rw [pu_same]; exact h2 i hi
              · rw [pu_other _ _ (fun e => a5 e.symm)]; exact h1 i hi
        · rcases o5 y hy with ⟨hy1, _, _⟩ | rfl
          · have := (H.hs.bnd y hy1).2 a4
            dsimp only at a6
            omega
          · exact absurd rfl a5
    · rw [if_neg hp] at hstep
      rw [hstep] at hhs ⊢
      exact ⟨pu f t x', k3, k4, hTT _ (k6 hp), by rw [hlen]; exact hhs, H.th, H.one, H.err⟩
theorem j_zero (hm : Mok m L N n md) : J L N n md A [] 0 (g0 m) (fun _ _ => 0) := by
  refine ⟨⟨by show 3 * L ≤ m.ws.length; rw [hm.ws]; exact hm.wl, fun _ _ _ => ⟨by decide, fun _ => rfl⟩, fun t _ j h => by simp at h, fun t _ j _ h => by simp at h, fun t _ j _ h => by simp at h, fun t _ u _ _ j _ _ _ h => by simp at h⟩,
    hm.ws, fun t ht' => .inl ⟨rfl, fun _ _ => rfl, fun h => by simp [g0] at h⟩, hs_zero m, fun x hx => by simp [g0, dgs] at hx, fun x hx => by simp [g0, dgs] at hx, fun x hx => by simp [g0] at hx⟩
theorem j_run (hL : okL L) (hM : MidOk (3 * L) N md A) (hm : Mok m L N n md) (S : List Nat) (hS : ∀ t ∈ S, t < n) : ∃ f, J L N n md A S S.length (plyG m 0 S (g0 m)) f := by
  refine plyG_indS (I := fun S g => ∃ f, J L N n md A S S.length g f) (A := fun t => t < n) ⟨_, j_zero hm⟩ (fun S g t ht' ⟨f, H⟩ => ?_) S hS
  rw [actG_eq]
  obtain ⟨f', H'⟩ := j_exec hL hM hm.nL ht' (j_begin hL hM hm ht' H)
  refine ⟨f', ?_⟩
  rw [List.length_append, List.length_singleton]
  exact H'
end Go.Baro.Lok

set_option linter.unusedSimpArgs false
set_option linter.unusedVariables false
namespace Go.Ord

/-- s writes nothing: it may look (at blocks that are there), ask, make new blocks, halt. -/
def NoWr (P : Program) {α : Type} : Sem α → Prop
  | .pure _ => True
  | .load _ _ k => ∀ v, NoWr P (k v)
  | .store _ _ _ _ => False
  | .new _ k => ∀ r, NoWr P (k r)
  | .shape r k => (∀ s, NoWr P (k s)) ∧ ∀ w a u, w.heap.size ≤ r → (k none).run P w ≠ .ok a u
  | .freeze _ _ _ => False
  | .frozen _ _ => False
  | .getObj _ k => ∀ o, NoWr P (k o)
  | .setObj _ _ _ => False
  | .choose _ k => ∀ n, NoWr P (k n)
  | .sys _ _ => False
  | .program k => NoWr P (k P)
  | .mark _ k => NoWr P k
  | .halt _ => True

section
variable {P : Program} {α β : Type}

theorem NoWr.bnd {s : Sem α} {f : α → Sem β} (hs : NoWr P s) (hf : ∀ a, NoWr P (f a)) : NoWr P (s.bind f) := by
  induction s with
  | pure a => exact hf a
  | load m a k ih => exact fun v => ih v (hs v)
  | store m a v k ih => exact hs.elim
  | new o k ih => exact fun v => ih v (hs v)
  | shape r k ih =>
    refine ⟨fun v => ih v (hs.1 v), fun w a u hw hr => ?_⟩
    have hr' : ((k none).bind f).run P w = .ok a u := hr
    have hb : ((k none).bind f).run P w = ((k none).run P w).andThen fun x w' => (f x).run P w' := Sem.run_bind ..
    rw [hb] at hr'
    cases hk : (k none).run P w with
    | ok x w' => exact hs.2 w x w' hw hk
    | halt h w' => rw [hk] at hr'; cases hr'
  | freeze a n k ih => exact hs.elim
  | frozen a k ih => exact hs.elim
  | getObj r k ih => exact fun v => ih v (hs v)
  | setObj r o k ih => exact hs.elim
  | choose q k ih => exact fun v => ih v (hs v)
  | sys c k ih => exact hs.elim
  | program k ih => exact ih P hs
  | mark m k ih => exact ih hs
  | halt h => trivial

theorem NoWr.bd {s : Sem α} {f : α → Sem β} (hs : NoWr P s) (hf : ∀ a, NoWr P (f a)) : NoWr P (s >>= f) := NoWr.bnd hs hf
theorem NoWr.pr (a : α) : NoWr P (pure a : Sem α) := trivial
theorem NoWr.mp {s : Sem α} {f : α → β} (hs : NoWr P s) : NoWr P (f <$> s) := NoWr.bnd hs (fun _ => trivial)

/-- A run that writes nothing only goes up: in blocks and in draws; and where neither has gone up, the world is the very same. -/
theorem NoWr.up {s : Sem α} (hs : NoWr P s) : ∀ {w u : World} {a : α}, s.run P w = .ok a u →
    w.heap.size ≤ u.heap.size ∧ w.drawn ≤ u.drawn ∧ (u.heap.size ≤ w.heap.size → u.drawn ≤ w.drawn → u = w) := by
  induction s with
  | pure a => intro w u b h; simp only [Sem.run, Result.ok.injEq] at h; obtain ⟨_, rfl⟩ := h; exact ⟨Nat.le_refl _, Nat.le_refl _, fun _ _ => rfl⟩
  | load m a k ih =>
    intro w u b h
    simp only [Sem.run] at h
    split at h
    · exact ih _ (hs _) h
    · split at h
      · exact ih _ (hs _) h
      · cases h
  | store m a v k ih => exact hs.elim
  | new o k ih =>
    intro w u b h
    simp only [Sem.run] at h
    have := ih _ (hs _) h
    simp only [Array.size_push] at this
    exact ⟨by omega, by omega, fun h1 _ => by omega⟩
  | shape r k ih => intro w u b h; exact ih _ (hs.1 _) h
  | freeze a n k ih => exact hs.elim
  | frozen a k ih => exact hs.elim
  | getObj r k ih =>
    intro w u b h
    simp only [Sem.run] at h
    split at h
    · cases h
    · exact ih _ (hs _) h
    · cases h
  | setObj r o k ih => exact hs.elim
  | choose q k ih =>
    intro w u b h
    simp only [Sem.run] at h
    split at h
    · exact ih _ (hs _) h
    · have := ih _ (hs _) h
      simp only at this
      exact ⟨by omega, by omega, fun h1 _ => by omega⟩
  | sys c k ih => exact hs.elim
  | program k ih => intro w u b h; exact ih P hs h
  | mark m k ih => intro w u b h; exact ih hs h
  | halt x => intro w u b h; simp only [Sem.run] at h; cases h

/-- Every block that w has is there in w', as it was. -/
def Ext (w w' : World) : Prop := ∀ b, b < w.heap.size → w'.heap[b]? = w.heap[b]?
theorem Ext.refl (w : World) : Ext w w := fun _ _ => rfl
theorem Ext.size {w w' : World} (h : Ext w w') : w.heap.size ≤ w'.heap.size := by
  cases hn : w.heap.size with
  | zero => exact Nat.zero_le _
  | succ n =>
    have h1 := h n (by omega)
    have hlt : n < w.heap.size := by omega
    have h3 : w.heap[n]? = some w.heap[n] := Array.getElem?_eq_getElem hlt
    rw [h3] at h1
    obtain ⟨h2, _⟩ := Array.getElem?_eq_some_iff.1 h1
    omega
theorem Ext.trans {a b c : World} (h : Ext a b) (h' : Ext b c) : Ext a c := fun k hk => (h' k (by have := h.size; omega)).trans (h k hk)
theorem Ext.of_heap {w w' : World} (h : w'.heap = w.heap) : Ext w w' := fun b _ => by rw [h]
theorem Ext.kept {w w' : World} (h : Ext w w') {b : Nat} {o : Obj} (ho : w.heap[b]? = some o) : w'.heap[b]? = some o := by
  obtain ⟨h1, _⟩ := Array.getElem?_eq_some_iff.1 ho
  rw [h b h1, ho]

theorem seen_ext {w w' : World} (h : Ext w w') {p : Program} {at_ : Addr} {u : TypeId} {k : Addr} {b : Bool} {r : Array Value × TypeId × (Nat × Nat) × Nat × Value × List (Nat × Nat × List UInt8)} (hr : w.seen p at_ u k b = .ok r) : w'.seen p at_ u k b = .ok r := by
  cases hb : w.heap[at_.block]? with
  | some o =>
    have hb' := h.kept hb
    unfold World.seen at hr ⊢
    rw [hb'] 
    rw [hb] at hr
    exact hr
  | none =>
    exfalso
    unfold World.seen at hr
    simp only [hb] at hr
    simp only [bind, Except.bind, throw, throwThe, MonadExceptOf.throw, pure, Except.pure] at hr
    repeat' (split at hr)
    all_goals (first | cases hr | contradiction | skip)

theorem farLoad_ext {w w' : World} (h : Ext w w') {p : Program} {a : Addr} {b : Bool} {r : Value × List Addr} (hr : w.farLoad p a b = .ok r) : w'.farLoad p a b = .ok r := by
  unfold World.farLoad at hr ⊢
  split at hr
  · rename_i at_ u hb
    rw [h.kept hb]
    dsimp only
    cases hv : w.viewLoad p at_ u a b with
    | error e => rw [hv] at hr; cases hr
    | ok x =>
      rw [hv] at hr
      have : w'.viewLoad p at_ u a b = .ok x := by
        unfold World.viewLoad at hv ⊢
        cases hs : w.seen p at_ u a b with
        | error e => rw [hs] at hv; cases hv
        | ok y => rw [hs] at hv; rw [seen_ext h hs]; exact hv
      rw [this]; exact hr
  · cases hr

/-- A run that writes nothing and leaves the very world goes the same way in every world that has the same blocks, and perhaps more. -/
theorem NoWr.same {s : Sem α} (hs : NoWr P s) : ∀ {w w' : World} {a : α}, s.run P w = .ok a w → Ext w w' → s.run P w' = .ok a w' := by
  induction s with
  | pure a => intro w w' b h hh; simp only [Sem.run, Result.ok.injEq] at h ⊢; exact ⟨h.1, trivial⟩
  | load m a k ih =>
    intro w w' b h hh
    simp only [Sem.run] at h ⊢
    cases hb : w.heap[a.block]? with
    | some o =>
      have hc : w'.cell? a = w.cell? a := by simp only [World.cell?, hb, hh.kept hb]
      rw [hc]
      split at h
      · exact ih _ (hs _) h hh
      · cases hf : w.farLoad P a (m == .atomic) with
        | ok x => rw [hf] at h; rw [farLoad_ext hh hf]; exact ih _ (hs _) h hh
        | error e => rw [hf] at h; cases h
    | none =>
      have hc : w.cell? a = none := by simp only [World.cell?, hb]
      obtain ⟨e, hf⟩ : ∃ e, w.farLoad P a (m == .atomic) = .error e := by
        unfold World.farLoad
        rw [hb]
        exact ⟨_, rfl⟩
      simp only [hc, hf] at h
      cases h
  | store m a v k ih => exact hs.elim
  | new o k ih =>
    intro w w' b h hh
    simp only [Sem.run] at h
    have := (NoWr.up (hs _) h).1
    simp only [Array.size_push] at this
    omega
  | shape r k ih =>
    intro w w' b h hh
    simp only [Sem.run] at h ⊢
    by_cases hr : r < w.heap.size
    · have hc : w'.shape? r = w.shape? r := by simp only [World.shape?, hh r hr]
      rw [hc]; exact ih _ (hs.1 _) h hh
    · have hc : w.shape? r = none := by simp only [World.shape?, Array.getElem?_eq_none (Nat.le_of_not_lt hr)]
      rw [hc] at h
      exact (hs.2 w b w (Nat.le_of_not_lt hr) h).elim
  | freeze a n k ih => exact hs.elim
  | frozen a k ih => exact hs.elim
  | getObj r k ih =>
    intro w w' b h hh
    simp only [Sem.run] at h ⊢
    cases hb : w.heap[r]? with
    | none => rw [hb] at h; cases h
    | some o =>
      rw [hh.kept hb]
      rw [hb] at h
      cases o <;> first | (cases h; done) | exact ih _ (hs _) h hh
  | setObj r o k ih => exact hs.elim
  | choose q k ih =>
    intro w w' b h hh
    simp only [Sem.run] at h ⊢
    split at h
    · rename_i hq; rw [if_pos hq]; exact ih _ (hs _) h hh
    · have := (NoWr.up (hs _) h).2.1
      simp only at this
      omega
  | sys c k ih => exact hs.elim
  | program k ih => intro w w' b h hh; exact ih P hs h hh
  | mark m k ih => intro w w' b h hh; exact ih hs h hh
  | halt x => intro w w' b h hh; simp only [Sem.run] at h; cases h
end

end Go.Ord
