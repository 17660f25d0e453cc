/- Of this claim's own texts these, one behind the other: AlgPure2, HistPure2, LogPure. No statement of the seat is proved here; no condition but those that stand at the theorems. -/
import Derived.Test.YtnchgdjdfhfedaaDoorPartAT
import Derived.Test.YtnchgdjdfhfedaaDoorPartAI
set_option linter.unusedSimpArgs false
set_option linter.unusedVariables false
namespace Go.Baro

theorem exG_bg (g : Gs) (st n i : Nat) : ((exG g st n).th i).bg = (g.th i).bg := by
  cases hn : (g.th n).now with
  | none => rw [exG_none hn]
  | some l =>
    by_cases he : (exc l g.w).2.2.2 = true
    · rw [exG_end hn he]
      dsimp only
      by_cases hi : i = n
      · subst hi; rw [putT_same]
      · rw [putT_other _ _ hi]
    · rw [exG_go hn (by simpa using he)]
      dsimp only
      by_cases hi : i = n
      · subst hi; rw [putT_same]
      · rw [putT_other _ _ hi]
theorem exG_th {g : Gs} {st n i : Nat} (h : i ≠ n) : (exG g st n).th i = g.th i := by
  cases hn : (g.th n).now with
  | none => rw [exG_none hn]
  | some l =>
    by_cases he : (exc l g.w).2.2.2 = true
    · rw [exG_end hn he]; exact putT_other _ _ h
    · rw [exG_go hn (by simpa using he)]; exact putT_other _ _ h
/-- A step's beginning: nothing, or a call begins. -/
theorem bgG_cases (m : Mc) (g : Gs) (st n : Nat) : (bgG m g st n = g ∧ ((g.th n).now ≠ none ∨ ((g.th n).now = none ∧ (m.ts[n]?.getD []).length ≤ (g.th n).bg))) ∨
    ∃ c, (g.th n).now = none ∧ (m.ts[n]?.getD [])[(g.th n).bg]? = some c ∧ bgG m g st n = ⟨g.w, putT g.th n ⟨some (live (m.cs[c.k.toNat]?.getD []) c.ar), (g.th n).bg + 1⟩, g.out ++ [⟨st, n, (g.th n).bg, false, 0, []⟩]⟩ := by
  unfold bgG
  cases hn : (g.th n).now with
  | some l => exact .inl ⟨rfl, .inl (by simp)⟩
  | none =>
    dsimp only
    cases hc : (m.ts[n]?.getD [])[(g.th n).bg]? with
    | none => exact .inl ⟨rfl, .inr ⟨rfl, by simpa using hc⟩⟩
    | some c => exact .inr ⟨c, rfl, rfl, rfl⟩
/-- No more calls begin than there are. -/
theorem bg_le (m : Mc) (S : List Nat) (i : Nat) : ((plyG m 0 S (g0 m)).th i).bg ≤ (m.ts[i]?.getD []).length := by
  refine plyG_indS (I := fun _ g => (g.th i).bg ≤ (m.ts[i]?.getD []).length) (A := fun _ => True) (by simp [g0]) (fun S g n _ h => ?_) S (fun _ _ => trivial)
  rw [actG_eq, exG_bg]
  rcases bgG_cases m g S.length n with ⟨h1, _⟩ | ⟨c, h1, h2, h3⟩
  · rw [h1]; exact h
  · rw [h3]
    dsimp only
    by_cases hi : i = n
    · subst hi
      rw [putT_same]
      exact (List.getElem?_eq_some_iff.1 h2).1
    · rw [putT_other _ _ hi]; exact h
/-- What becomes of a call. -/
theorem dgs_later {es : List Ev} {st : Nat} (hes : ∀ x ∈ es, st ≤ x.st) : ∀ (l : List Dg) (d : Dg), d ∈ l → ∃ d' ∈ es.foldl dg1 l, d'.th = d.th ∧ d'.cl = d.cl ∧ d'.b = d.b ∧ (d.e ≠ -1 → d' = d) ∧ (d.e = -1 → d'.e = -1 ∨ (st : Int) ≤ d'.e) := by
  induction es with
  | nil => intro l d hd; exact ⟨d, hd, rfl, rfl, rfl, fun _ => rfl, fun h => .inl h⟩
  | cons x es ih =>
    intro l d hd
    rw [List.foldl_cons]
    have ih := ih (fun y hy => hes y (by simp [hy]))
    have hx := hes x (by simp)
    by_cases he : x.en = true
    · rw [dg1_end _ _ he]
      obtain ⟨d', h1, h2, h3, h4, h5, h6⟩ := ih (l.map (fun d => d.fin x)) (d.fin x) (List.mem_map.2 ⟨d, hd, rfl⟩)
      unfold Dg.fin at h2 h3 h4 h5 h6
      by_cases hi : d.is x
      · simp only [if_pos hi] at h2 h3 h4 h5 h6
        refine ⟨d', h1, h2, h3, h4, fun h => absurd hi.2.2 h, fun _ => .inr ?_⟩
        have := h5 (by omega)
        rw [this]
        dsimp only
        omega
      · simp only [if_neg hi] at h2 h3 h4 h5 h6
        exact ⟨d', h1, h2, h3, h4, h5, h6⟩
    · rw [dg1_begin _ _ (by simpa using he)]
      exact ih _ d (by simp [hd])
theorem ply_later (m : Mc) (S T : List Nat) {d : Dg} (hd : d ∈ dgs (plyG m 0 S (g0 m)).out) : ∃ d' ∈ dgs (plyG m 0 (S ++ T) (g0 m)).out, d'.th = d.th ∧ d'.cl = d.cl ∧ d'.b = d.b ∧ (d.e ≠ -1 → d' = d) ∧ (d.e = -1 → d'.e = -1 ∨ (S.length : Int) ≤ d'.e) := by
  obtain ⟨es, h1, h2⟩ := run_parts m S T
  rw [h1]
  have : dgs ((plyG m 0 S (g0 m)).out ++ es) = es.foldl dg1 (dgs (plyG m 0 S (g0 m)).out) := by simp [dgs, List.foldl_append]
  rw [this]
  exact dgs_later h2 _ d hd
/-- Where all calls have ended, those that follow come behind them. -/
theorem dgs_behind {es : List Ev} {st : Nat} (hes : ∀ x ∈ es, st ≤ x.st) : ∀ (l r : List Dg), (∀ d ∈ l, d.e ≠ -1) → (∀ d ∈ r, st ≤ d.b) → ∃ r', es.foldl dg1 (l ++ r) = l ++ r' ∧ ∀ d ∈ r', st ≤ d.b := by
  induction es with
  | nil => intro l r _ hr; exact ⟨r, rfl, hr⟩
  | cons x es ih =>
    intro l r hl hr
    rw [List.foldl_cons]
    have ih := ih (fun y hy => hes y (by simp [hy]))
    by_cases he : x.en = true
    · rw [dg1_end _ _ he, List.map_append]
      have : l.map (fun d => d.fin x) = l := by
        conv => rhs; rw [← List.map_id l]
        refine List.map_congr_left fun d hd => ?_
        unfold Dg.fin
        rw [if_neg (fun hi => hl d hd hi.2.2)]
        rfl
      rw [this]
      refine ih l _ hl fun d hd => ?_
      obtain ⟨q, hq, rfl⟩ := List.mem_map.1 hd
      have := hr q hq
      unfold Dg.fin
      split <;> exact this
    · rw [dg1_begin _ _ (by simpa using he), List.append_assoc]
      refine ih l _ hl fun d hd => ?_
      rcases List.mem_append.1 hd with hd | hd
      · exact hr d hd
      · rw [List.mem_singleton.1 hd]; exact hes x (by simp)
theorem ply_behind (m : Mc) (S T : List Nat) (hd : ∀ d ∈ dgs (plyG m 0 S (g0 m)).out, d.e ≠ -1) : ∃ r, dgs (plyG m 0 (S ++ T) (g0 m)).out = dgs (plyG m 0 S (g0 m)).out ++ r ∧ ∀ d ∈ r, S.length ≤ d.b := by
  obtain ⟨es, h1, h2⟩ := run_parts m S T
  rw [h1]
  have : dgs ((plyG m 0 S (g0 m)).out ++ es) = es.foldl dg1 (dgs (plyG m 0 S (g0 m)).out ++ []) := by simp [dgs, List.foldl_append]
  rw [this]
  exact dgs_behind h2 _ [] hd (by simp)
/-- How many calls a run tells of. -/
theorem dgs_count {m : Mc} {S : List Nat} (hS : ∀ n ∈ S, n < 4) : (dgs (plyG m 0 S (g0 m)).out).length = ((plyG m 0 S (g0 m)).th 0).bg + ((plyG m 0 S (g0 m)).th 1).bg + ((plyG m 0 S (g0 m)).th 2).bg + ((plyG m 0 S (g0 m)).th 3).bg := by
  refine plyG_indS (I := fun _ g => (dgs g.out).length = (g.th 0).bg + (g.th 1).bg + (g.th 2).bg + (g.th 3).bg) (A := fun n => n < 4) (by simp [g0, dgs]) (fun S g n hn h => ?_) S hS
  have hex : ∀ g : Gs, (dgs (exG g S.length n).out).length = (dgs g.out).length := by
    intro g
    cases hn : (g.th n).now with
    | none => rw [exG_none hn]
    | some l =>
      by_cases he : (exc l g.w).2.2.2 = true
      · rw [exG_end hn he]; dsimp only; rw [dgs_snoc, dg1_end _ _ rfl]; simp
      · rw [exG_go hn (by simpa using he)]
  rw [actG_eq, hex, exG_bg, exG_bg, exG_bg, exG_bg]
  rcases bgG_cases m g S.length n with ⟨h1, _⟩ | ⟨c, h1, h2, h3⟩
  · rw [h1]; exact h
  · rw [h3]
    dsimp only
    rw [dgs_begin, List.length_append, List.length_singleton, h]
    unfold putT
    rcases (by omega : n = 0 ∨ n = 1 ∨ n = 2 ∨ n = 3) with rfl | rfl | rfl | rfl <;> simp <;> omega
/-- Threads that do no step have begun nothing. -/
theorem th_idle {m : Mc} {S : List Nat} {i : Nat} (hS : ∀ n ∈ S, n ≠ i) : (plyG m 0 S (g0 m)).th i = ⟨none, 0⟩ := by
  refine plyG_indS (I := fun _ g => g.th i = ⟨none, 0⟩) (A := fun n => n ≠ i) rfl (fun S g n hn h => ?_) S hS
  rw [actG_th (fun e => hn e.symm)]; exact h
theorem th_later {m : Mc} {S T : List Nat} {i : Nat} (hT : ∀ n ∈ T, n ≠ i) : (plyG m 0 (S ++ T) (g0 m)).th i = (plyG m 0 S (g0 m)).th i := by
  rw [plyG_append]
  generalize plyG m 0 S (g0 m) = g
  generalize 0 + S.length = st
  induction T generalizing g st with
  | nil => rfl
  | cons n T ih =>
    show (plyG m (st + 1) T (actG m g st n)).th i = _
    rw [ih (fun k hk => hT k (by simp [hk])), actG_th (fun e => hT n (by simp) e.symm)]
/-- Where no call of a thread takes more than B steps, a thread that has done more steps than all its calls may take has done them all. -/
theorem busy {m : Mc} {n B : Nat} (hB : ∀ S : List Nat, (∀ x ∈ S, x < 4) → ∀ x ∈ dgs (plyG m 0 S (g0 m)).out, x.th = n → x.e ≠ -1 → ((S.take (x.e + 1).toNat).drop x.b).count n ≤ B) (S : List Nat) (hS : ∀ x ∈ S, x < 4) :
    (((plyG m 0 S (g0 m)).th n).now = none ∧ (m.ts[n]?.getD []).length ≤ ((plyG m 0 S (g0 m)).th n).bg) ∨ (((plyG m 0 S (g0 m)).th n).now = none ∧ S.count n ≤ B * ((plyG m 0 S (g0 m)).th n).bg) ∨
      ∃ x ∈ dgs (plyG m 0 S (g0 m)).out, x.th = n ∧ x.e = -1 ∧ S.count n ≤ B * (((plyG m 0 S (g0 m)).th n).bg - 1) + (S.drop x.b).count n := by
  suffices h : Hs S.length S.length (plyG m 0 S (g0 m)) ∧ plyG m 0 S (g0 m) = plyG m 0 S (g0 m) ∧ ((((plyG m 0 S (g0 m)).th n).now = none ∧ (m.ts[n]?.getD []).length ≤ ((plyG m 0 S (g0 m)).th n).bg) ∨ (((plyG m 0 S (g0 m)).th n).now = none ∧ S.count n ≤ B * ((plyG m 0 S (g0 m)).th n).bg) ∨
      ∃ x ∈ dgs (plyG m 0 S (g0 m)).out, x.th = n ∧ x.e = -1 ∧ S.count n ≤ B * (((plyG m 0 S (g0 m)).th n).bg - 1) + (S.drop x.b).count n) from h.2.2
  refine plyG_indS (m := m) (I := fun S g => Hs S.length S.length g ∧ ((∀ x ∈ S, x < 4) ∧ g = plyG m 0 S (g0 m)) ∧ (((g.th n).now = none ∧ (m.ts[n]?.getD []).length ≤ (g.th n).bg) ∨ ((g.th n).now = none ∧ S.count n ≤ B * (g.th n).bg) ∨
      ∃ x ∈ dgs g.out, x.th = n ∧ x.e = -1 ∧ S.count n ≤ B * ((g.th n).bg - 1) + (S.drop x.b).count n)) (A := fun n => n < 4) ⟨hs_zero m, ⟨by simp, rfl⟩, .inr (.inl ⟨rfl, by simp⟩)⟩ (fun S g k hk h => ?_) S hS |> fun h => ⟨h.1, rfl, h.2.2⟩
  obtain ⟨hs, ⟨hS4, hg⟩, hI⟩ := h
  have hsn : Hs (S ++ [k]).length (S ++ [k]).length (actG m g S.length k) := by rw [List.length_append, List.length_singleton]; exact hs_act hs
  have hgn : (∀ x ∈ S ++ [k], x < 4) ∧ actG m g S.length k = plyG m 0 (S ++ [k]) (g0 m) := ⟨fun x hx => by rcases List.mem_append.1 hx with hx | hx; exact hS4 x hx; rw [List.mem_singleton.1 hx]; exact hk, by rw [ply_snoc, hg]⟩
  refine ⟨hsn, hgn, ?_⟩
  have hBn := hB (S ++ [k]) hgn.1
  rw [← hgn.2] at hBn
  by_cases hkn : k = n
  · subst hkn
    have hcnt : (S ++ [k]).count k = S.count k + 1 := by simp
    rw [hcnt]
    -- the state behind the beginning
    have hmid : ((g.th k).now = none ∧ (m.ts[k]?.getD []).length ≤ (g.th k).bg ∧ bgG m g S.length k = g) ∨ (((bgG m g S.length k).th k).now ≠ none ∧ ∃ x ∈ dgs (bgG m g S.length k).out, x.th = k ∧ x.e = -1 ∧ S.count k ≤ B * (((bgG m g S.length k).th k).bg - 1) + (S.drop x.b).count k) := by
      rcases bgG_cases m g S.length k with ⟨h1, h2⟩ | ⟨c, h1, h2, h3⟩
      · rw [h1]
        rcases h2 with h2 | ⟨h2, h4⟩
        · rcases hI with ⟨q, _⟩ | ⟨q, _⟩ | q
          · exact absurd q h2
          · exact absurd q h2
          · exact .inr ⟨h2, q⟩
        · exact .inl ⟨h2, h4, rfl⟩
      · refine .inr ?_
        rw [h3]
        dsimp only
        rw [putT_same, dgs_begin]
        refine ⟨by simp, ⟨S.length, -1, k, (g.th k).bg, []⟩, by simp, rfl, rfl, ?_⟩
        dsimp only
        rcases hI with ⟨_, q⟩ | ⟨_, q⟩ | ⟨x, q1, q2, q3, _⟩
        · have := (List.getElem?_eq_some_iff.1 h2).1; omega
        · rw [List.drop_eq_nil_of_le (Nat.le_refl _)]; simpa using q
        · have := ((hs.opn x q1).1 q3).1; rw [q2] at this; exact absurd h1 this
    rw [actG_eq] at hBn ⊢
    have hsm := hs_begin (m := m) (n := k) hs
    generalize bgG m g S.length k = gm at hmid hBn hsm
    rcases hmid with ⟨h1, h2, rfl⟩ | ⟨h1, x, h2, h3, h4, h5⟩
    · rw [exG_none h1]; exact .inl ⟨h1, h2⟩
    · cases hl : (gm.th k).now with
      | none => exact absurd hl h1
      | some l =>
        have hxb := (hsm.bnd x h2).1
        by_cases he : (exc l gm.w).2.2.2 = true
        · rw [exG_end hl he] at hBn ⊢
          dsimp only at hBn ⊢
          refine .inr (.inl ⟨by rw [putT_same], ?_⟩)
          rw [putT_same]
          dsimp only
          obtain ⟨o, ho, o1, o2, o3, o4, o5, o6, o7⟩ := dgs_end (x := ⟨S.length, k, (gm.th k).bg - 1, true, (exc l gm.w).2.2.1, (exc l gm.w).1.t⟩) hsm (by rw [hl]; simp) rfl rfl rfl
          obtain rfl := (o4 x h2 h4 h3).1
          have := hBn _ o7 rfl (by dsimp only; omega)
          dsimp only at this
          rw [show ((S.length : Int) + 1).toNat = (S ++ [k]).length by simp, List.take_length, List.drop_append_of_le_length (by omega), List.count_append] at this
          have h1b := hsm.ps k (by rw [hl]; simp)
          have hB1 : B * (gm.th k).bg = B * ((gm.th k).bg - 1) + B := by
            rw [← Nat.mul_succ]; congr 1; omega
          simp at this
          omega
        · rw [exG_go hl (by simpa using he)]
          dsimp only
          rw [putT_same]
          refine .inr (.inr ⟨x, h2, h3, h4, ?_⟩)
          dsimp only
          rw [List.drop_append_of_le_length (by omega), List.count_append]
          simp
          omega
  · have hcnt : (S ++ [k]).count n = S.count n := by simp [hkn]
    rw [hcnt, actG_th (fun e => hkn e.symm)]
    rcases hI with q | q | ⟨x, q1, q2, q3, q4⟩
    · exact .inl q
    · exact .inr (.inl q)
    · have hxb := (hs.bnd x q1).1
      refine .inr (.inr ⟨x, ?_, q2, q3, by rw [List.drop_append_of_le_length (by omega), List.count_append]; omega⟩)
      have hmem : x ∈ dgs (bgG m g S.length k).out := by
        rcases bgG_cases m g S.length k with ⟨h1, h2⟩ | ⟨c, h1, h2, h3⟩
        · rw [h1]; exact q1
        · rw [h3]; dsimp only; rw [dgs_begin]; simp [q1]
      have hsm := hs_begin (m := m) (n := k) hs
      rw [actG_eq]
      generalize bgG m g S.length k = gm at hmem hsm
      cases hl : (gm.th k).now with
      | none => rw [exG_none hl]; exact hmem
      | some l =>
        by_cases he : (exc l gm.w).2.2.2 = true
        · rw [exG_end hl he]
          obtain ⟨o, ho, o1, o2, o3, o4, o5, o6, o7⟩ := dgs_end (x := ⟨S.length, k, (gm.th k).bg - 1, true, (exc l gm.w).2.2.1, (exc l gm.w).1.t⟩) hsm (by rw [hl]; simp) rfl rfl rfl
          exact o6 x hmem (by rintro rfl; exact hkn (o1.symm.trans q2))
        · rw [exG_go hl (by simpa using he)]; exact hmem
end Go.Baro

set_option linter.unusedSimpArgs false
set_option linter.unusedVariables false
namespace Go.Baro

theorem out_rng (m : Mc) (A : Nat → Prop) (S : List Nat) (hS : ∀ n ∈ S, A n) : ∀ x ∈ (plyG m 0 S (g0 m)).out, A x.th ∧ x.cl < ((plyG m 0 S (g0 m)).th x.th).bg := by
  refine (plyG_indS (I := fun S g => Hs S.length S.length g ∧ ∀ x ∈ g.out, A x.th ∧ x.cl < (g.th x.th).bg) (A := A) ⟨hs_zero m, fun x hx => by simp [g0] at hx⟩ (fun S g n hn ⟨hs, h⟩ => ⟨by rw [List.length_append, List.length_singleton]; exact hs_act hs, ?_⟩) S hS).2
  rw [actG_eq]
  have hsm := hs_begin (m := m) (n := n) hs
  have hm : ∀ x ∈ (bgG m g S.length n).out, A x.th ∧ x.cl < ((bgG m g S.length n).th x.th).bg := by
    rcases bgG_cases m g S.length n with ⟨h1, _⟩ | ⟨c, h1, h2, h3⟩
    · rw [h1]; exact h
    · rw [h3]
      intro x hx
      dsimp only at hx ⊢
      rcases List.mem_append.1 hx with hx | hx
      · obtain ⟨k1, k2⟩ := h x hx
        refine ⟨k1, ?_⟩
        by_cases ht : x.th = n
        · rw [ht, putT_same]; rw [ht] at k2; dsimp only; omega
        · rw [putT_other _ _ ht]; exact k2
      · rw [List.mem_singleton.1 hx]
        refine ⟨hn, ?_⟩
        dsimp only
        rw [putT_same]
        dsimp only
        omega
  generalize bgG m g S.length n = gm at hm hsm
  intro x hx
  rw [exG_bg]
  cases hl : (gm.th n).now with
  | none => rw [exG_none hl] at hx; exact hm x hx
  | some l =>
    by_cases he : (exc l gm.w).2.2.2 = true
    · rw [exG_end hl he] at hx
      rcases List.mem_append.1 hx with hx | hx
      · exact hm x hx
      · rw [List.mem_singleton.1 hx]
        dsimp only
        have := hsm.ps n (by rw [hl]; simp)
        exact ⟨hn, by omega⟩
    · rw [exG_go hl (by simpa using he)] at hx; exact hm x hx
def dKey (d : Dg) : Nat × Nat := (d.th, d.cl)
/-- The calls that a part of the events tells of are those that began in it. -/
theorem dgs_keys (es : List Ev) : (dgs es).map dKey = (es.filter fun x => !x.en).map fun x => (x.th, x.cl) := by
  suffices h : ∀ (es : List Ev) (l : List Dg), (es.foldl dg1 l).map dKey = l.map dKey ++ (es.filter fun x => !x.en).map fun x => (x.th, x.cl) by simpa [dgs] using h es []
  intro es
  induction es with
  | nil => intro l; simp
  | cons x es ih =>
    intro l
    rw [List.foldl_cons, ih]
    by_cases he : x.en = true
    · rw [dg1_end _ _ he]
      have : (l.map fun d => d.fin x).map dKey = l.map dKey := by
        rw [List.map_map]
        apply List.map_congr_left
        intro d _
        simp only [Function.comp, Dg.fin, dKey]
        split <;> rfl
      rw [this]
      simp [he]
    · have he' : x.en = false := by simpa using he
      rw [dg1_begin _ _ he']
      simp [he', dKey]
theorem dgs_from {es : List Ev} {d : Dg} (h : d ∈ dgs es) : ∃ x ∈ es, x.th = d.th ∧ x.cl = d.cl := by
  have : dKey d ∈ (dgs es).map dKey := List.mem_map.2 ⟨d, h, rfl⟩
  rw [dgs_keys] at this
  obtain ⟨x, hx, he⟩ := List.mem_map.1 this
  simp only [dKey, Prod.mk.injEq] at he
  exact ⟨x, (List.mem_filter.1 hx).1, he.1, he.2⟩
theorem keys_once {sb se : Nat} {g : Gs} (h : Hs sb se g) : ((dgs g.out).map dKey).Nodup := by
  unfold List.Nodup
  rw [List.pairwise_map]
  refine (List.Pairwise.and_mem.1 h.srt).imp fun {a b} hab he => ?_
  simp only [dKey, Prod.mk.injEq] at he
  have := h.one a hab.1 b hab.2.1 he.1 he.2
  have h2 := hab.2.2
  rw [this] at h2
  omega
/-- In each part of the events a call is told of once. -/
theorem part_once {sb se : Nat} {g : Gs} (h : Hs sb se g) (j : Nat) : ((dgs (g.out.take j)).map dKey).Nodup := by
  have h1 := keys_once h
  rw [dgs_keys] at h1 ⊢
  have : g.out = g.out.take j ++ g.out.drop j := (List.take_append_drop j g.out).symm
  rw [this, List.filter_append, List.map_append] at h1
  exact (List.nodup_append.1 h1).1
theorem nodup_one {l : List Dg} (h : (l.map dKey).Nodup) {a b : Dg} (ha : a ∈ l) (hb : b ∈ l) (he : dKey a = dKey b) : a = b := by
  obtain ⟨i, hi⟩ := List.mem_iff_getElem?.1 ha
  obtain ⟨j, hj⟩ := List.mem_iff_getElem?.1 hb
  have hil := (List.getElem?_eq_some_iff.1 hi).1
  have hij : i = j := by
    have h1 : (l.map dKey)[i]? = some (dKey a) := by rw [List.getElem?_map, hi]; rfl
    have h2 : (l.map dKey)[j]? = some (dKey a) := by rw [List.getElem?_map, hj, he]; rfl
    exact (List.getElem?_inj (by simpa using hil) h).1 (h1.trans h2.symm)
  subst hij
  rw [hi] at hj
  injection hj
theorem hist_ok {m : Mc} {S : List Nat} {pf : Cl → List Int → Bool → Bool × Int × Bool} {G : Cl → Prop} (hS : ∀ n ∈ S, n < m.ts.length) (hn : noErr (plyG m 0 S (g0 m)))
    (h1 : ∀ d ∈ dgs (plyG m 0 S (g0 m)).out, d.e ≠ -1 → (pf (clOf m d.th d.cl) d.to true).2.2 = true) (h2 : ∀ d ∈ dgs (plyG m 0 S (g0 m)).out, d.e = -1 → (pf (clOf m d.th d.cl) [] false).2.2 = true) (hg : ∀ t ∈ m.ts, ∀ c ∈ t, G c) : HistOk m pf G (plyG m 0 S (g0 m)).out := by
  have hr := out_rng m (fun n => n < m.ts.length) S hS
  have hbg := bg_le m S
  have hrn := rn_ply S hn
  have hs := hs_ply m S
  generalize plyG m 0 S (g0 m) = g at *
  have hrng : ∀ x ∈ g.out, x.th < m.ts.length ∧ x.cl < (m.ts[x.th]?.getD []).length := fun x hx => ⟨(hr x hx).1, Nat.lt_of_lt_of_le (hr x hx).2 (hbg x.th)⟩
  refine ⟨hrng, fun j d hd => ?_, fun j x hx he d hd ht hc => ?_, fun x hx he => ?_, h2, hg⟩
  · obtain ⟨x, hx, e1, e2⟩ := dgs_from hd
    have := hrng x (List.mem_of_mem_take hx)
    rw [e1, e2] at this
    exact this
  · obtain ⟨_, d', hd', k1, k2, k3⟩ := hrn j x hx he
    have := nodup_one (part_once hs j) hd hd' (by simp [dKey, ht, hc, k1, k2])
    rw [this]; exact k3
  · obtain ⟨j, hj⟩ := List.mem_iff_getElem?.1 hx
    obtain ⟨_, d', hd', k1, k2, k3⟩ := hrn j x hj he
    have hjl := (List.getElem?_eq_some_iff.1 hj).1
    have hmem : (⟨d'.b, x.st, d'.th, d'.cl, x.to⟩ : Dg) ∈ dgs (g.out.take (j + 1)) := by
      have : g.out.take (j + 1) = g.out.take j ++ [x] := by rw [List.take_add_one, hj]; rfl
      rw [this, dgs_snoc, dg1_end _ _ he]
      refine List.mem_map.2 ⟨d', hd', ?_⟩
      unfold Dg.fin
      rw [if_pos ⟨k1, k2, k3⟩]
    have hlate : dgs g.out = (g.out.drop (j + 1)).foldl dg1 (dgs (g.out.take (j + 1))) := by
      unfold dgs
      rw [← List.foldl_append, List.take_append_drop]
    obtain ⟨d2, hd2, q1, q2, q3, q4, q5⟩ := dgs_later (es := g.out.drop (j + 1)) (st := 0) (fun _ _ => Nat.zero_le _) _ _ hmem
    rw [← hlate] at hd2
    have e := q4 (by dsimp only; omega)
    rw [e] at hd2
    have := h1 _ hd2 (by dsimp only; omega)
    dsimp only at this
    rw [k1, k2] at this
    exact this
end Go.Baro

set_option linter.unusedSimpArgs false
set_option linter.unusedVariables false
namespace Go.Baro

abbrev Key := Nat × Nat
/-- A log of a run's calls; Q: who has ended and told so is not in it. -/
structure Log (Q : Key → List Int → Prop) (D : List Dg) (L : List Key) : Prop where
  nd : L.Nodup
  mem : ∀ k ∈ L, ∃ d ∈ D, dKey d = k
  all : ∀ d ∈ D, d.e ≠ -1 → dKey d ∈ L ∨ Q (dKey d) d.to
  ord : L.Pairwise (fun a b => ∀ x ∈ D, ∀ y ∈ D, dKey x = a → dKey y = b → y.e ≠ -1 → (x.b : Int) ≤ y.e)
theorem Log.nil (Q : Key → List Int → Prop) : Log Q [] [] := ⟨by simp, by simp, by simp, by simp⟩
/-- A call begins. -/
theorem Log.begin {Q : Key → List Int → Prop} {D : List Dg} {L : List Key} (h : Log Q D L) {st n c : Nat} (hn : (n, c) ∉ L) : Log Q (D ++ [⟨st, -1, n, c, []⟩]) L := by
  refine ⟨h.nd, fun k hk => ?_, fun d hd he => ?_, ?_⟩
  · obtain ⟨d, hd, e⟩ := h.mem k hk
    exact ⟨d, by simp [hd], e⟩
  · rcases List.mem_append.1 hd with hd | hd
    · exact h.all d hd he
    · rw [List.mem_singleton.1 hd] at he; exact absurd rfl he
  · refine h.ord.imp_of_mem fun {a b} ha hb hab x hx y hy hxa hyb hye => ?_
    rcases List.mem_append.1 hx with hx | hx
    · rcases List.mem_append.1 hy with hy | hy
      · exact hab x hx y hy hxa hyb hye
      · rw [List.mem_singleton.1 hy] at hye; exact absurd rfl hye
    · rw [List.mem_singleton.1 hx] at hxa
      rw [← hxa] at ha; exact absurd ha hn
/-- A call takes effect. -/
theorem Log.push {Q : Key → List Int → Prop} {D : List Dg} {L : List Key} (h : Log Q D L) {o : Dg} (ho : o ∈ D) (he : o.e = -1) (hu : ∀ y ∈ D, dKey y = dKey o → y = o) (hn : dKey o ∉ L) : Log Q D (L ++ [dKey o]) := by
  refine ⟨?_, fun k hk => ?_, fun d hd hde => (h.all d hd hde).imp (fun h => by simp [h]) id, ?_⟩
  · rw [List.nodup_append]
    refine ⟨h.nd, by simp, fun a ha b hb => ?_⟩
    rw [List.mem_singleton.1 hb]
    rintro rfl; exact hn ha
  · rcases List.mem_append.1 hk with hk | hk
    · exact h.mem k hk
    · exact ⟨o, ho, (List.mem_singleton.1 hk).symm⟩
  · rw [List.pairwise_append]
    refine ⟨h.ord, by simp, fun a ha b hb x hx y hy hxa hyb hye => ?_⟩
    rw [List.mem_singleton.1 hb] at hyb
    rw [hu y hy hyb] at hye
    exact absurd he hye
/-- A call ends. -/
theorem Log.end {Q : Key → List Int → Prop} {D D' : List Dg} {L : List Key} (h : Log Q D L) {o o' : Dg} {st : Nat} (ho : o ∈ D) (hk : dKey o' = dKey o) (hb : o'.b = o.b) (he : o'.e = st) (hl : dKey o ∈ L ∨ Q (dKey o) o'.to) (hu : ∀ y ∈ D, dKey y = dKey o → y = o) (hbd : ∀ y ∈ D, y.b ≤ st)
    (hD : ∀ y ∈ D', (y ∈ D ∧ y ≠ o) ∨ y = o') (hD2 : ∀ y ∈ D, y ≠ o → y ∈ D') (ho' : o' ∈ D') : Log Q D' L := by
  have hb' : ∀ y ∈ D', y.b ≤ st := fun y hy => by
    rcases hD y hy with ⟨h1, _⟩ | rfl
    · exact hbd y h1
    · rw [hb]; exact hbd o ho
  refine ⟨h.nd, fun k hkl => ?_, fun d hd hde => ?_, ?_⟩
  · obtain ⟨d, hd, e⟩ := h.mem k hkl
    by_cases hdo : d = o
    · subst hdo; exact ⟨o', ho', hk.trans e⟩
    · exact ⟨d, hD2 d hd hdo, e⟩
  · rcases hD d hd with ⟨h1, _⟩ | rfl
    · exact h.all d h1 hde
    · rw [hk]; exact hl
  · refine h.ord.imp_of_mem fun {a b} ha hbm hab x hx y hy hxa hyb hye => ?_
    rcases hD y hy with ⟨hy1, hy2⟩ | rfl
    · rcases hD x hx with ⟨hx1, _⟩ | rfl
      · exact hab x hx1 y hy1 hxa hyb hye
      · rw [hb]; exact hab o ho y hy1 (hk.symm.trans hxa) hyb hye
    · rw [he]
      have := hb' x hx
      omega
/-- Those that are not in it may be left out. -/
theorem Log.sub {Q : Key → List Int → Prop} {D D1 : List Dg} {L : List Key} (h : Log Q D L) (h1 : ∀ d ∈ D1, d ∈ D) (h2 : ∀ d ∈ D, dKey d ∈ L → d ∈ D1) (h3 : ∀ d ∈ D1, d.e ≠ -1 → dKey d ∈ L) : Log (fun _ _ => False) D1 L := by
  refine ⟨h.nd, fun k hk => ?_, fun d hd he => .inl (h3 d hd he), h.ord.imp fun hab x hx y hy => hab x (h1 x hx) y (h1 y hy)⟩
  obtain ⟨d, hd, e⟩ := h.mem k hk
  exact ⟨d, h2 d hd (by rw [e]; exact hk), e⟩
/-- One behind the other, those that have ended tell their values. -/
def runsE (k : Int) : List Int → List Ac → Prop
  | _, [] => True
  | has, a :: l => (a.e ≠ -1 → (tel k has a).1 = a.v) ∧ runsE k (tel k has a).2 l
theorem lin_partE {k : Int} {l2 : List Ac} (h2 : ∀ a ∈ l2, a.e = -1) : ∀ (l1 : List Ac) (has : List Int), runsE k has l1 → l1.Pairwise (fun a b => b.e ≠ -1 → a.b ≤ b.e) → (∀ a ∈ l1, a.e ≠ -1 → a.b ≤ a.e) → Lin k has (l1 ++ l2)
  | [], has, _, _, _ => .done h2
  | a :: l1, has, hr, hp, hs => by
    rw [List.pairwise_cons] at hp
    refine .step a (l1 ++ l2) (List.Perm.refl _) (fun b hb hb1 => ?_) hr.1 (lin_partE h2 l1 _ hr.2 hp.2 (fun b hb => hs b (by simp [hb])))
    rw [List.cons_append] at hb
    rcases List.mem_cons.1 hb with rfl | hb
    · exact hs _ (by simp) hb1
    · rcases List.mem_append.1 hb with hb | hb
      · exact hp.1 b hb hb1
      · exact absurd (h2 b hb) hb1
/-- What the log makes of an object: g tells what a call does, rs what it is told. -/
inductive LogR (k : Int) (g : Key → Ac) (rs : Key → Int) : List Int → List Key → List Int → Prop
  | nil (has : List Int) : LogR k g rs has [] has
  | snoc {has h : List Int} {L : List Key} (key : Key) (hl : LogR k g rs has L h) (hr : (tel k h (g key)).1 = rs key) : LogR k g rs has (L ++ [key]) (tel k h (g key)).2
theorem LogR.frame {k : Int} {g g' : Key → Ac} {rs rs' : Key → Int} {has h : List Int} {L : List Key} (hl : LogR k g rs has L h) (hf : ∀ x ∈ L, g' x = g x ∧ rs' x = rs x) : LogR k g' rs' has L h := by
  induction hl with
  | nil => exact .nil _
  | @snoc h L key hl hr ih =>
    have h1 := hf key (by simp)
    have := LogR.snoc (k := k) (g := g') (rs := rs') key (ih fun x hx => hf x (by simp [hx])) (by rw [h1.1, h1.2]; exact hr)
    rwa [h1.1] at this
theorem tel_same {k : Int} {has : List Int} {a b : Ac} (h1 : a.put = b.put) (h2 : a.add = b.add) (h3 : a.put = true → k ≠ 2 → a.v = b.v) : tel k has a = tel k has b := by
  unfold tel
  rw [← h1, ← h2]
  by_cases hp : a.put = true
  · by_cases hk : k = 2
    · subst hk; simp
    · rw [← h3 hp hk]
  · simp [hp]
theorem runsE_snoc {k : Int} : ∀ (l : List Ac) (has h : List Int) (a : Ac), runsE k has l → l.foldl (fun h a => (tel k h a).2) has = h → (a.e ≠ -1 → (tel k h a).1 = a.v) → runsE k has (l ++ [a])
  | [], has, h, a, _, hf, ha => ⟨by subst hf; exact ha, trivial⟩
  | b :: l, has, h, a, hr, hf, ha => ⟨hr.1, runsE_snoc l _ h a hr.2 hf ha⟩
/-- The calls of the log, in its order. -/
theorem LogR.runs {k : Int} {g : Key → Ac} {rs : Key → Int} {has h : List Int} {L : List Key} (hl : LogR k g rs has L h) (F : Key → Ac) (hF : ∀ x ∈ L, (F x).put = (g x).put ∧ (F x).add = (g x).add ∧ ((g x).put = true → k ≠ 2 → (F x).v = (g x).v) ∧ ((F x).e ≠ -1 → (F x).v = rs x)) :
    runsE k has (L.map F) ∧ (L.map F).foldl (fun h a => (tel k h a).2) has = h := by
  induction hl with
  | nil => exact ⟨trivial, rfl⟩
  | @snoc h L key hl hr ih =>
    obtain ⟨i1, i2⟩ := ih fun x hx => hF x (by simp [hx])
    obtain ⟨f1, f2, f3, f4⟩ := hF key (by simp)
    have ht : tel k h (F key) = tel k h (g key) := tel_same f1 f2 (fun hp hk => f3 (by rw [← f1]; exact hp) hk)
    rw [List.map_append, List.map_singleton]
    refine ⟨runsE_snoc _ _ h _ i1 i2 (fun he => by rw [ht, hr, f4 he]), ?_⟩
    rw [List.foldl_append, i2]
    show (tel k h (F key)).2 = _
    rw [ht]
/-- The calls can be put behind one another. -/
theorem Log.lin {D : List Dg} {L : List Key} (h : Log (fun _ _ => False) D L) (hnd : (D.map dKey).Nodup) {k : Int} {g : Key → Ac} {rs : Key → Int} {has hs : List Int} (hl : LogR k g rs has L hs) (f : Dg → Ac)
    (hf : ∀ d ∈ D, (f d).b = d.b ∧ (f d).e = d.e ∧ (d.e ≠ -1 → (d.b : Int) ≤ d.e) ∧ (f d).put = (g (dKey d)).put ∧ (f d).add = (g (dKey d)).add ∧ ((g (dKey d)).put = true → k ≠ 2 → (f d).v = (g (dKey d)).v) ∧ (d.e ≠ -1 → (f d).v = rs (dKey d))) : Lin k has (D.map f) := by
  have hone : ∀ {a b : Dg}, a ∈ D → b ∈ D → dKey a = dKey b → a = b := fun ha hb he => nodup_one hnd ha hb he
  -- the call of a key
  let F : Key → Option Dg := fun x => D.find? fun d => decide (dKey d = x)
  have hFs : ∀ x ∈ L, ∃ d ∈ D, F x = some d ∧ dKey d = x := fun x hx => by
    obtain ⟨d, hd, e⟩ := h.mem x hx
    cases hF : F x with
    | none =>
      have := List.find?_eq_none.1 hF d hd
      simp [e] at this
    | some d' =>
      have h1 := List.find?_some hF
      exact ⟨d', List.mem_of_find?_eq_some hF, rfl, by simpa using h1⟩
  let C : Key → Dg := fun x => (F x).getD ⟨0, -1, x.1, x.2, []⟩
  have hC : ∀ x ∈ L, C x ∈ D ∧ dKey (C x) = x := fun x hx => by
    obtain ⟨d, hd, e1, e2⟩ := hFs x hx
    have : C x = d := by show (F x).getD _ = d; rw [e1]; rfl
    rw [this]; exact ⟨hd, e2⟩
  have hDn : D.Nodup := (List.pairwise_map.1 hnd).imp fun h e => h (congrArg _ e)
  have hperm : D.Perm (L.map C ++ D.filter fun d => !decide (dKey d ∈ L)) := by
    rw [List.perm_ext_iff_of_nodup hDn]
    · intro d
      rw [List.mem_append]
      constructor
      · intro hd
        by_cases hdl : dKey d ∈ L
        · left
          obtain ⟨h1, h2⟩ := hC _ hdl
          rw [← hone h1 hd h2]
          exact List.mem_map_of_mem hdl
        · right
          simp [hd, hdl]
      · rintro (hd | hd)
        · obtain ⟨x, hx, rfl⟩ := List.mem_map.1 hd
          exact (hC x hx).1
        · exact (List.mem_filter.1 hd).1
    · rw [List.nodup_append]
      refine ⟨?_, hDn.filter _, fun a ha b hb => ?_⟩
      · refine List.Pairwise.map _ (R := fun a b => a ≠ b ∧ a ∈ L ∧ b ∈ L) (fun a b hab e => ?_) ?_
        · have := congrArg dKey e
          rw [(hC a hab.2.1).2, (hC b hab.2.2).2] at this
          exact hab.1 this
        · exact h.nd.imp_of_mem fun ha hb hab => ⟨hab, ha, hb⟩
      · obtain ⟨x, hx, rfl⟩ := List.mem_map.1 ha
        have hb2 := (List.mem_filter.1 hb).2
        rintro rfl
        rw [(hC x hx).2] at hb2
        simp [hx] at hb2
  refine (?_ : Lin k has ((L.map C ++ D.filter fun d => !decide (dKey d ∈ L)).map f)).perm (hperm.map f).symm
  rw [List.map_append, List.map_map]
  obtain ⟨r1, r2⟩ := hl.runs (f ∘ C) (fun x hx => by
    obtain ⟨h1, h2⟩ := hC x hx
    obtain ⟨q1, q2, q3, q4, q5, q6, q7⟩ := hf _ h1
    rw [h2] at q4 q5 q6 q7
    exact ⟨q4, q5, q6, fun he => q7 (by rw [← q2]; exact he)⟩)
  refine lin_partE (fun a ha => ?_) _ _ r1 ?_ (fun a ha he => ?_)
  · obtain ⟨d, hd, rfl⟩ := List.mem_map.1 ha
    obtain ⟨hd1, hd2⟩ := List.mem_filter.1 hd
    rw [(hf d hd1).2.1]
    refine Classical.byContradiction fun he => ?_
    have := (h.all d hd1 he).elim id (fun h => h.elim)
    simp [this] at hd2
  · refine List.Pairwise.map _ (R := fun a b => (∀ x ∈ D, ∀ y ∈ D, dKey x = a → dKey y = b → y.e ≠ -1 → (x.b : Int) ≤ y.e) ∧ a ∈ L ∧ b ∈ L) (fun a b hab he => ?_) (h.ord.imp_of_mem fun ha hb hab => ⟨hab, ha, hb⟩)
    obtain ⟨a1, a2⟩ := hC a hab.2.1
    obtain ⟨b1, b2⟩ := hC b hab.2.2
    show (f (C a)).b ≤ (f (C b)).e
    rw [(hf _ a1).1, (hf _ b1).2.1]
    have he' : (f (C b)).e ≠ -1 := he
    rw [(hf _ b1).2.1] at he'
    exact hab.1 _ a1 _ b1 a2 b2 he'
  · obtain ⟨x, hx, rfl⟩ := List.mem_map.1 ha
    obtain ⟨h1, h2⟩ := hC x hx
    have he' : (f (C x)).e ≠ -1 := he
    show (f (C x)).b ≤ (f (C x)).e
    rw [(hf _ h1).1, (hf _ h1).2.1] at *
    exact (hf _ h1).2.2.1 he'
end Go.Baro
