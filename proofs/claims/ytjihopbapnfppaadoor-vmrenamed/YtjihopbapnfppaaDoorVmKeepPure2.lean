/- What a drawn code leaves as it was: words it does not store to; other names of registers; words further on. No statement of the seat is proved here; no condition. -/
import Derived.Test.YtjihopbapnfppaaDoorVmKeepPure
set_option linter.unusedSimpArgs false
set_option linter.unusedVariables false
namespace Go.Baro
open Go.RowKit (wrap64)

theorem wrap_in {x : Int} (h : -1000 ≤ x ∧ x ≤ 1000) : wrap64 x = x := by unfold wrap64; omega
theorem code_at {c : List Ins} {s : Vs} {P : Ins → Prop} (hc : ∀ o ∈ c, P o) (hd : P ⟨17, 0, 0, 0, 0⟩) : P (c[s.p.toNat]?.getD ⟨17, 0, 0, 0, 0⟩) := by
  cases h : c[s.p.toNat]? with
  | none => exact hd
  | some o => exact hc o (List.mem_of_getElem? h)
theorem sh_done (m : Nat) : shI m ⟨17, 0, 0, 0, 0⟩ := .inr (.inr (.inr (.inr (.inr (.inr (.inr (.inr ⟨rfl, rfl, rfl, rfl, rfl⟩)))))))

/-- What is kept while a drawn code runs: register 5 is 0, there are six words, and those that no instruction stores to are as at first. -/
def KeepW (sto : Nat → Prop) (ws : List Int) (s : Vs) : Prop := s.r 5 = 0 ∧ s.w.length = 6 ∧ ∀ i, ¬ sto i → s.w[i]? = ws[i]?
theorem keepW_step {m : Nat} {o : Ins} {s : Vs} {sto : Nat → Prop} {ws : List Int} (ho : shI m o) (hs : (o.k = 14 ∨ o.k = 15) → sto o.c.toNat) (h : KeepW sto ws s) : KeepW sto ws (stp m o s).1 ∧ ((stp m o s).2 ≠ 0 → (stp m o s).2 = 8) := by
  obtain ⟨h5, h6, h7⟩ := h
  obtain ⟨k, a, b, c, d⟩ := o
  have hu : ∀ (x v : Int), r4 x → upd s.r x v 5 = 0 := fun x v hx => by rw [upd_other _ _ (by unfold r4 at hx; omega)]; exact h5
  rcases ho with ⟨h1, h2, h3, h4, h8⟩ | ⟨h1, h2, h3, h4, h8⟩ | ⟨h1, h2, h3, h4, h8⟩ | ⟨h1, h2, h3, h4, h8⟩ | ⟨h1, h2, h3, h4, h8⟩ | ⟨h1, h2, h3, h4, h8⟩ | ⟨h1, h2, h3, h4, h8⟩ | ⟨h1, h2, h3, h4, h8⟩ | ⟨h1, h2, h3, h4, h8⟩ <;> dsimp only at h1 h2 h3 h4 h8 hs
  · subst h1; rw [stp_1]; exact ⟨⟨hu _ _ h2, h6, h7⟩, fun h => absurd rfl h⟩
  · subst h1; rw [stp_2]; exact ⟨⟨hu _ _ h2, h6, h7⟩, fun h => absurd rfl h⟩
  · rw [stp_cmp h1]; exact ⟨⟨hu _ _ h2, h6, h7⟩, fun h => absurd rfl h⟩
  · subst h1; rw [stp_10]; exact ⟨⟨h5, h6, h7⟩, fun h => absurd rfl h⟩
  · rcases h1 with rfl | rfl
    · rw [stp_11]; exact ⟨⟨h5, h6, h7⟩, fun h => absurd rfl h⟩
    · rw [stp_12]; exact ⟨⟨h5, h6, h7⟩, fun h => absurd rfl h⟩
  · subst h3
    obtain ⟨q, rfl⟩ : ∃ q : Nat, c = q := ⟨c.toNat, by omega⟩
    have hq : wrap64 (s.r 5 + (q : Int)) = q := by rw [h5, wrap_in (by omega)]; omega
    have hl : q < s.w.length := by omega
    rcases h1 with rfl | rfl
    · rw [stp_13 hq (List.getElem?_eq_getElem hl)]; exact ⟨⟨hu _ _ h2, h6, h7⟩, fun h => absurd rfl h⟩
    · rw [stp_14 hq hl]
      refine ⟨⟨h5, by simpa using h6, fun i hi => ?_⟩, fun h => absurd rfl h⟩
      have : i ≠ q := fun e => hi (by rw [e]; have := hs (.inl rfl); rwa [Int.toNat_natCast] at this)
      show (s.w.set q _)[i]? = _
      rw [List.getElem?_set_ne (Ne.symm this)]
      exact h7 i hi
  · subst h1 h3
    obtain ⟨q, rfl⟩ : ∃ q : Nat, c = q := ⟨c.toNat, by omega⟩
    have hq : wrap64 (s.r 5 + (q : Int)) = q := by rw [h5, wrap_in (by omega)]; omega
    have hl : q < s.w.length := by omega
    by_cases hx : s.w[q] = s.r d
    · rw [stp_15t hq (List.getElem?_eq_getElem hl) hx]
      refine ⟨⟨hu _ _ h2, by simpa using h6, fun i hi => ?_⟩, fun h => absurd rfl h⟩
      have : i ≠ q := fun e => hi (by rw [e]; have := hs (.inr rfl); rwa [Int.toNat_natCast] at this)
      show (s.w.set q _)[i]? = _
      rw [List.getElem?_set_ne (Ne.symm this)]
      exact h7 i hi
    · rw [stp_15f hq (List.getElem?_eq_getElem hl) hx]; exact ⟨⟨hu _ _ h2, h6, h7⟩, fun h => absurd rfl h⟩
  · subst h1
    rw [stp_16]
    by_cases ht : s.t.length = 200
    · rw [if_pos ht]; exact ⟨⟨h5, h6, h7⟩, fun _ => rfl⟩
    · rw [if_neg ht]; exact ⟨⟨h5, h6, h7⟩, fun h => absurd rfl h⟩
  · subst h1; rw [stp_17]; exact ⟨⟨h5, h6, h7⟩, fun h => absurd rfl h⟩
/-- A code changes no words but those it stores to. -/
theorem run_words {c : List Ins} {ws : List Int} {sto : Nat → Prop} (hc : ∀ o ∈ c, shI c.length o) (hs : ∀ o ∈ c, (o.k = 14 ∨ o.k = 15) → sto o.c.toNat) (hw : ws.length = 6) (f : Nat) :
    (rn c f (st0 [] ws)).1.w.length = 6 ∧ (∀ i, ¬ sto i → (rn c f (st0 [] ws)).1.w[i]? = ws[i]?) ∧ ((rn c f (st0 [] ws)).2.2 = 0 ∨ (rn c f (st0 [] ws)).2.2 = 11 ∨ (rn c f (st0 [] ws)).2.2 = 8) := by
  have h0 : KeepW sto ws (st0 [] ws) := ⟨by simp [st0], hw, fun i _ => rfl⟩
  obtain ⟨⟨_, h1, h2⟩, h3⟩ := rn_inv (c := c) (I := KeepW sto ws) (e := fun x => x = 8) (fun s hs' hp => keepW_step (code_at hc (sh_done _)) (code_at (P := fun o => (o.k = 14 ∨ o.k = 15) → sto o.c.toNat) hs (by simp)) hs') f _ h0
  exact ⟨h1, h2, h3⟩

/-- The name of a register, turned by k. -/
def nmR (k r : Int) : Int := if r < 4 then (r + k) % 4 else r
theorem nmR_inj {k x y : Int} (hk : r4 k) (hx : r4 x) (hy : r4 y) (h : nmR k x = nmR k y) : x = y := by
  unfold nmR r4 at *
  rw [if_pos hx.2, if_pos hy.2] at h
  omega
theorem nmR_r4 {k x : Int} (hk : r4 k) (hx : r4 x) : r4 (nmR k x) := by
  unfold nmR r4 at *
  rw [if_pos hx.2]
  omega
def rnI (k : Int) (o : Ins) : Ins :=
  ⟨o.k, if o.k ≠ 10 ∧ o.k ≠ 17 then nmR k o.a else o.a, if o.k = 2 ∨ (3 ≤ o.k ∧ o.k ≤ 9) then nmR k o.b else o.b, if 3 ≤ o.k ∧ o.k ≤ 9 then nmR k o.c else o.c, if o.k = 15 then nmR k o.d else o.d⟩
/-- Two states with other names. -/
def RelR (k : Int) (s s' : Vs) : Prop := s'.p = s.p ∧ s'.w = s.w ∧ s'.t = s.t ∧ (∀ i, r4 i → s'.r (nmR k i) = s.r i) ∧ s.r 5 = 0 ∧ s'.r 5 = 0
theorem relR_upd {k : Int} {r r' : Int → Int} (hk : r4 k) (h : ∀ i, r4 i → r' (nmR k i) = r i) {a : Int} (ha : r4 a) (v : Int) : ∀ i, r4 i → upd r' (nmR k a) v (nmR k i) = upd r a v i := by
  intro i hi
  by_cases he : i = a
  · rw [he, upd_same, upd_same]
  · rw [upd_other _ _ he, upd_other _ _ (fun h' => he (nmR_inj hk hi ha h')), h i hi]
theorem relR_step {m : Nat} {k : Int} {o : Ins} {s s' : Vs} (hk : r4 k) (ho : shI m o) (h : RelR k s s') : RelR k (stp m o s).1 (stp m (rnI k o) s').1 ∧ (stp m o s).2 = (stp m (rnI k o) s').2 := by
  obtain ⟨p, r, w, t⟩ := s
  obtain ⟨p', r', w', t'⟩ := s'
  obtain ⟨hp, hw, ht, hr, h5, h5'⟩ := h
  dsimp only at hp hw ht hr h5 h5'
  subst hp hw ht
  obtain ⟨kk, a, b, c, d⟩ := o
  have hu : ∀ (x v : Int), r4 x → upd r x v 5 = 0 := fun x v hx => by rw [upd_other _ _ (by unfold r4 at hx; omega)]; exact h5
  have hu' : ∀ (x v : Int), r4 x → upd r' (nmR k x) v 5 = 0 := fun x v hx => by
    have := nmR_r4 hk hx
    rw [upd_other _ _ (by unfold r4 at this; omega)]; exact h5'
  rcases ho with ⟨h1, h2, h3, h4, h8⟩ | ⟨h1, h2, h3, h4, h8⟩ | ⟨h1, h2, h3, h4, h8⟩ | ⟨h1, h2, h3, h4, h8⟩ | ⟨h1, h2, h3, h4, h8⟩ | ⟨h1, h2, h3, h4, h8⟩ | ⟨h1, h2, h3, h4, h8⟩ | ⟨h1, h2, h3, h4, h8⟩ | ⟨h1, h2, h3, h4, h8⟩ <;> dsimp only at h1 h2 h3 h4 h8
  · subst h1
    simp only [rnI, Int.reduceNe, Int.reduceEq, ne_eq, not_false_eq_true, and_self, if_true, Int.reduceLE, false_and, and_false, or_self, if_false]
    rw [stp_1, stp_1]
    exact ⟨⟨rfl, rfl, rfl, relR_upd hk hr h2 b, hu _ _ h2, hu' _ _ h2⟩, rfl⟩
  · subst h1
    simp only [rnI, Int.reduceNe, Int.reduceEq, ne_eq, not_false_eq_true, and_self, if_true, Int.reduceLE, false_and, and_false, or_false, if_false]
    rw [stp_2, stp_2]
    dsimp only
    rw [hr b h3]
    exact ⟨⟨rfl, rfl, rfl, relR_upd hk hr h2 _, hu _ _ h2, hu' _ _ h2⟩, rfl⟩
  · have e : rnI k ⟨kk, a, b, c, d⟩ = ⟨kk, nmR k a, nmR k b, nmR k c, d⟩ := by
      unfold rnI
      dsimp only
      rw [if_pos (by omega), if_pos (.inr h1), if_pos h1, if_neg (by omega)]
    rw [e, stp_cmp h1, stp_cmp h1]
    dsimp only
    rw [hr b h3, hr c h4]
    exact ⟨⟨rfl, rfl, rfl, relR_upd hk hr h2 _, hu _ _ h2, hu' _ _ h2⟩, rfl⟩
  · have e : rnI k ⟨kk, a, b, c, d⟩ = ⟨kk, a, b, c, d⟩ := by
      unfold rnI
      dsimp only
      rw [if_neg (by omega), if_neg (by omega), if_neg (by omega), if_neg (by omega)]
    rw [e]; subst h1; rw [stp_10, stp_10]; exact ⟨⟨rfl, rfl, rfl, hr, h5, h5'⟩, rfl⟩
  · have e : rnI k ⟨kk, a, b, c, d⟩ = ⟨kk, nmR k a, b, c, d⟩ := by
      unfold rnI
      dsimp only
      rw [if_pos (by omega), if_neg (by omega), if_neg (by omega), if_neg (by omega)]
    rw [e]
    rcases h1 with rfl | rfl
    · rw [stp_11, stp_11]; dsimp only; simp only [hr a h2]; exact ⟨⟨rfl, rfl, rfl, hr, h5, h5'⟩, trivial⟩
    · rw [stp_12, stp_12]; dsimp only; simp only [hr a h2]; exact ⟨⟨rfl, rfl, rfl, hr, h5, h5'⟩, trivial⟩
  · have e : rnI k ⟨kk, a, b, c, d⟩ = ⟨kk, nmR k a, b, c, d⟩ := by
      unfold rnI
      dsimp only
      rw [if_pos (by omega), if_neg (by omega), if_neg (by omega), if_neg (by omega)]
    rw [e]; subst h3
    obtain ⟨q, rfl⟩ : ∃ q : Nat, c = q := ⟨c.toNat, by omega⟩
    have hq : wrap64 (r 5 + (q : Int)) = q := by rw [h5, wrap_in (by omega)]; omega
    have hq' : wrap64 (r' 5 + (q : Int)) = q := by rw [h5', wrap_in (by omega)]; omega
    by_cases hl : q < w'.length
    · rcases h1 with rfl | rfl
      · rw [stp_13 (s := ⟨p', r, w', t'⟩) hq (List.getElem?_eq_getElem hl), stp_13 (s := ⟨p', r', w', t'⟩) hq' (List.getElem?_eq_getElem hl)]
        exact ⟨⟨rfl, rfl, rfl, relR_upd hk hr h2 _, hu _ _ h2, hu' _ _ h2⟩, rfl⟩
      · rw [stp_14 (s := ⟨p', r, w', t'⟩) hq hl, stp_14 (s := ⟨p', r', w', t'⟩) hq' hl]
        dsimp only
        rw [hr a h2]
        exact ⟨⟨rfl, rfl, rfl, hr, h5, h5'⟩, rfl⟩
    · rw [stp_out (s := ⟨p', r, w', t'⟩) (by omega) hq (by dsimp only; omega), stp_out (s := ⟨p', r', w', t'⟩) (by omega) hq' (by dsimp only; omega)]
      exact ⟨⟨rfl, rfl, rfl, hr, h5, h5'⟩, rfl⟩
  · have e : rnI k ⟨kk, a, b, c, d⟩ = ⟨kk, nmR k a, b, c, nmR k d⟩ := by
      unfold rnI
      dsimp only
      rw [if_pos (by omega), if_neg (by omega), if_neg (by omega), if_pos h1]
    rw [e]; subst h1 h3
    obtain ⟨q, rfl⟩ : ∃ q : Nat, c = q := ⟨c.toNat, by omega⟩
    have hq : wrap64 (r 5 + (q : Int)) = q := by rw [h5, wrap_in (by omega)]; omega
    have hq' : wrap64 (r' 5 + (q : Int)) = q := by rw [h5', wrap_in (by omega)]; omega
    by_cases hl : q < w'.length
    · by_cases hx : w'[q] = r d
      · rw [stp_15t (s := ⟨p', r, w', t'⟩) hq (List.getElem?_eq_getElem hl) hx, stp_15t (s := ⟨p', r', w', t'⟩) hq' (List.getElem?_eq_getElem hl) (by dsimp only; rw [hr d h8]; exact hx)]
        dsimp only
        rw [hr a h2]
        exact ⟨⟨rfl, rfl, rfl, relR_upd hk hr h2 _, hu _ _ h2, hu' _ _ h2⟩, rfl⟩
      · rw [stp_15f (s := ⟨p', r, w', t'⟩) hq (List.getElem?_eq_getElem hl) hx, stp_15f (s := ⟨p', r', w', t'⟩) hq' (List.getElem?_eq_getElem hl) (by dsimp only; rw [hr d h8]; exact hx)]
        exact ⟨⟨rfl, rfl, rfl, relR_upd hk hr h2 _, hu _ _ h2, hu' _ _ h2⟩, rfl⟩
    · rw [stp_out (s := ⟨p', r, w', t'⟩) (by omega) hq (by dsimp only; omega), stp_out (s := ⟨p', r', w', t'⟩) (by omega) hq' (by dsimp only; omega)]
      exact ⟨⟨rfl, rfl, rfl, hr, h5, h5'⟩, rfl⟩
  · have e : rnI k ⟨kk, a, b, c, d⟩ = ⟨kk, nmR k a, b, c, d⟩ := by
      unfold rnI
      dsimp only
      rw [if_pos (by omega), if_neg (by omega), if_neg (by omega), if_neg (by omega)]
    rw [e]; subst h1
    rw [stp_16, stp_16]
    dsimp only
    rw [hr a h2]
    by_cases ht : t'.length = 200
    · rw [if_pos ht, if_pos ht]; exact ⟨⟨rfl, rfl, rfl, hr, h5, h5'⟩, rfl⟩
    · rw [if_neg ht, if_neg ht]; exact ⟨⟨rfl, rfl, rfl, hr, h5, h5'⟩, rfl⟩
  · have e : rnI k ⟨kk, a, b, c, d⟩ = ⟨kk, a, b, c, d⟩ := by
      unfold rnI
      dsimp only
      rw [if_neg (by omega), if_neg (by omega), if_neg (by omega), if_neg (by omega)]
    rw [e]; subst h1; rw [stp_17, stp_17]; exact ⟨⟨rfl, rfl, rfl, hr, h5, h5'⟩, rfl⟩
/-- A step beside a step, at the same place of two codes of which one is made of the other. -/
theorem map_at {c : List Ins} {g : Ins → Ins} (hg : g ⟨17, 0, 0, 0, 0⟩ = ⟨17, 0, 0, 0, 0⟩) (i : Nat) : (c.map g)[i]?.getD ⟨17, 0, 0, 0, 0⟩ = g (c[i]?.getD ⟨17, 0, 0, 0, 0⟩) := by
  rw [List.getElem?_map]
  cases c[i]? with
  | none => exact hg.symm
  | some o => rfl
/-- Which registers it are does not matter. -/
theorem run_renamed {c : List Ins} {k : Int} {ws : List Int} (hk : r4 k) (hc : ∀ o ∈ c, shI c.length o) (f : Nat) :
    (rn c f (st0 [] ws)).1.t = (rn (c.map (rnI k)) f (st0 [] ws)).1.t ∧ (rn c f (st0 [] ws)).1.w = (rn (c.map (rnI k)) f (st0 [] ws)).1.w ∧ (rn c f (st0 [] ws)).2 = (rn (c.map (rnI k)) f (st0 [] ws)).2 := by
  have h0 : RelR k (st0 [] ws) (st0 [] ws) := ⟨rfl, rfl, rfl, fun i _ => by simp [st0], by simp [st0], by simp [st0]⟩
  obtain ⟨⟨_, h1, h2, _⟩, h3⟩ := rn_sim (c := c) (c' := c.map (rnI k)) (R := RelR k) (by simp) (fun s s' h => h.1) (fun s s' h hp => by
    rw [map_at (by simp [rnI])]
    exact relR_step hk (code_at hc (sh_done _)) h) f _ _ h0
  exact ⟨h2.symm, h1.symm, h3⟩
theorem sh_ren {m : Nat} {k : Int} {o : Ins} (hk : r4 k) (h : shI m o) : shI m (rnI k o) := by
  obtain ⟨kk, a, b, c, d⟩ := o
  rcases h with ⟨h1, h2, h3, h4, h8⟩ | ⟨h1, h2, h3, h4, h8⟩ | ⟨h1, h2, h3, h4, h8⟩ | ⟨h1, h2, h3, h4, h8⟩ | ⟨h1, h2, h3, h4, h8⟩ | ⟨h1, h2, h3, h4, h8⟩ | ⟨h1, h2, h3, h4, h8⟩ | ⟨h1, h2, h3, h4, h8⟩ | ⟨h1, h2, h3, h4, h8⟩ <;> dsimp only at h1 h2 h3 h4 h8 <;> unfold rnI <;> dsimp only
  · rw [if_pos (by omega), if_neg (by omega), if_neg (by omega), if_neg (by omega)]; exact .inl ⟨h1, nmR_r4 hk h2, h3, h4, h8⟩
  · rw [if_pos (by omega), if_pos (.inl h1), if_neg (by omega), if_neg (by omega)]; exact .inr (.inl ⟨h1, nmR_r4 hk h2, nmR_r4 hk h3, h4, h8⟩)
  · rw [if_pos (by omega), if_pos (.inr h1), if_pos h1, if_neg (by omega)]; exact .inr (.inr (.inl ⟨h1, nmR_r4 hk h2, nmR_r4 hk h3, nmR_r4 hk h4, h8⟩))
  · rw [if_neg (by omega), if_neg (by omega), if_neg (by omega), if_neg (by omega)]; exact .inr (.inr (.inr (.inl ⟨h1, h2, h3, h4, h8⟩)))
  · rw [if_pos (by omega), if_neg (by omega), if_neg (by omega), if_neg (by omega)]; exact .inr (.inr (.inr (.inr (.inl ⟨h1, nmR_r4 hk h2, h3, h4, h8⟩))))
  · rw [if_pos (by omega), if_neg (by omega), if_neg (by omega), if_neg (by omega)]; exact .inr (.inr (.inr (.inr (.inr (.inl ⟨h1, nmR_r4 hk h2, h3, h4, h8⟩)))))
  · rw [if_pos (by omega), if_neg (by omega), if_neg (by omega), if_pos h1]; exact .inr (.inr (.inr (.inr (.inr (.inr (.inl ⟨h1, nmR_r4 hk h2, h3, h4, nmR_r4 hk h8⟩))))))
  · rw [if_pos (by omega), if_neg (by omega), if_neg (by omega), if_neg (by omega)]; exact .inr (.inr (.inr (.inr (.inr (.inr (.inr (.inl ⟨h1, nmR_r4 hk h2, h3, h4, h8⟩)))))))
  · rw [if_neg (by omega), if_neg (by omega), if_neg (by omega), if_neg (by omega)]; exact .inr (.inr (.inr (.inr (.inr (.inr (.inr (.inr ⟨h1, h2, h3, h4, h8⟩)))))))

/-- An instruction whose words all stand k places further on. -/
def mvI (k : Int) (o : Ins) : Ins := ⟨o.k, o.a, o.b, if o.k = 13 ∨ o.k = 14 ∨ o.k = 15 then o.c + k else o.c, o.d⟩
def RelM (fr : List Int) (s s' : Vs) : Prop := s'.p = s.p ∧ s'.w = fr ++ s.w ∧ s'.t = s.t ∧ s'.r = s.r ∧ s.r 5 = 0 ∧ s.w.length = 6
theorem relM_step {m : Nat} {fr : List Int} {o : Ins} {s s' : Vs} (hK : fr.length ≤ 100) (ho : shI m o) (h : RelM fr s s') : RelM fr (stp m o s).1 (stp m (mvI fr.length o) s').1 ∧ (stp m o s).2 = (stp m (mvI fr.length o) s').2 := by
  obtain ⟨p, r, w, t⟩ := s
  obtain ⟨p', r', w', t'⟩ := s'
  obtain ⟨hp, hw, ht, hr, h5, h6⟩ := h
  dsimp only at hp hw ht hr h5 h6
  subst hp hw ht hr
  obtain ⟨kk, a, b, c, d⟩ := o
  have hu : ∀ (x v : Int), r4 x → upd r' x v 5 = 0 := fun x v hx => by rw [upd_other _ _ (by unfold r4 at hx; omega)]; exact h5
  have hset : ∀ (q : Nat) (v : Int), (fr ++ w).set (q + fr.length) v = fr ++ w.set q v := fun q v => by
    rw [List.set_append_right _ _ (by omega), Nat.add_sub_cancel]
  have hget : ∀ q : Nat, (fr ++ w)[q + fr.length]? = w[q]? := fun q => by
    rw [List.getElem?_append_right (by omega), Nat.add_sub_cancel]
  rcases ho with ⟨h1, h2, h3, h4, h8⟩ | ⟨h1, h2, h3, h4, h8⟩ | ⟨h1, h2, h3, h4, h8⟩ | ⟨h1, h2, h3, h4, h8⟩ | ⟨h1, h2, h3, h4, h8⟩ | ⟨h1, h2, h3, h4, h8⟩ | ⟨h1, h2, h3, h4, h8⟩ | ⟨h1, h2, h3, h4, h8⟩ | ⟨h1, h2, h3, h4, h8⟩ <;> dsimp only at h1 h2 h3 h4 h8 <;> unfold mvI <;> dsimp only
  · rw [if_neg (by omega)]; subst h1; rw [stp_1, stp_1]; exact ⟨⟨rfl, rfl, rfl, rfl, hu _ _ h2, h6⟩, rfl⟩
  · rw [if_neg (by omega)]; subst h1; rw [stp_2, stp_2]; exact ⟨⟨rfl, rfl, rfl, rfl, hu _ _ h2, h6⟩, rfl⟩
  · rw [if_neg (by omega), stp_cmp h1, stp_cmp h1]; exact ⟨⟨rfl, rfl, rfl, rfl, hu _ _ h2, h6⟩, rfl⟩
  · rw [if_neg (by omega)]; subst h1; rw [stp_10, stp_10]; exact ⟨⟨rfl, rfl, rfl, rfl, h5, h6⟩, rfl⟩
  · rw [if_neg (by omega)]
    rcases h1 with rfl | rfl
    · rw [stp_11, stp_11]; exact ⟨⟨rfl, rfl, rfl, rfl, h5, h6⟩, rfl⟩
    · rw [stp_12, stp_12]; exact ⟨⟨rfl, rfl, rfl, rfl, h5, h6⟩, rfl⟩
  · rw [if_pos (by omega)]; subst h3
    obtain ⟨q, rfl⟩ : ∃ q : Nat, c = q := ⟨c.toNat, by omega⟩
    have hq : wrap64 (r' 5 + (q : Int)) = q := by rw [h5, wrap_in (by omega)]; omega
    have hq' : wrap64 (r' 5 + ((q : Int) + fr.length)) = ((q + fr.length : Nat) : Int) := by rw [h5, wrap_in (by omega)]; omega
    have hl : q < w.length := by omega
    rcases h1 with rfl | rfl
    · rw [stp_13 (s := ⟨p', r', w, t'⟩) hq (List.getElem?_eq_getElem hl), stp_13 (s := ⟨p', r', fr ++ w, t'⟩) hq' (by dsimp only; rw [hget]; exact List.getElem?_eq_getElem hl)]
      exact ⟨⟨rfl, rfl, rfl, rfl, hu _ _ h2, h6⟩, rfl⟩
    · rw [stp_14 (s := ⟨p', r', w, t'⟩) hq hl, stp_14 (s := ⟨p', r', fr ++ w, t'⟩) hq' (by dsimp only; rw [List.length_append]; omega)]
      exact ⟨⟨rfl, hset _ _, rfl, rfl, h5, by simpa using h6⟩, rfl⟩
  · rw [if_pos (by omega)]; subst h1 h3
    obtain ⟨q, rfl⟩ : ∃ q : Nat, c = q := ⟨c.toNat, by omega⟩
    have hq : wrap64 (r' 5 + (q : Int)) = q := by rw [h5, wrap_in (by omega)]; omega
    have hq' : wrap64 (r' 5 + ((q : Int) + fr.length)) = ((q + fr.length : Nat) : Int) := by rw [h5, wrap_in (by omega)]; omega
    have hl : q < w.length := by omega
    have hg : (fr ++ w)[q + fr.length]? = some w[q] := by rw [hget]; exact List.getElem?_eq_getElem hl
    by_cases hx : w[q] = r' d
    · rw [stp_15t (s := ⟨p', r', w, t'⟩) hq (List.getElem?_eq_getElem hl) hx, stp_15t (s := ⟨p', r', fr ++ w, t'⟩) hq' hg hx]
      exact ⟨⟨rfl, hset _ _, rfl, rfl, hu _ _ h2, by simpa using h6⟩, rfl⟩
    · rw [stp_15f (s := ⟨p', r', w, t'⟩) hq (List.getElem?_eq_getElem hl) hx, stp_15f (s := ⟨p', r', fr ++ w, t'⟩) hq' hg hx]
      exact ⟨⟨rfl, rfl, rfl, rfl, hu _ _ h2, h6⟩, rfl⟩
  · rw [if_neg (by omega)]; subst h1
    rw [stp_16, stp_16]
    dsimp only
    by_cases ht : t'.length = 200
    · rw [if_pos ht, if_pos ht]; exact ⟨⟨rfl, rfl, rfl, rfl, h5, h6⟩, rfl⟩
    · rw [if_neg ht, if_neg ht]; exact ⟨⟨rfl, rfl, rfl, rfl, h5, h6⟩, rfl⟩
  · rw [if_neg (by omega)]; subst h1; rw [stp_17, stp_17]; exact ⟨⟨rfl, rfl, rfl, rfl, h5, h6⟩, rfl⟩
/-- Where the words stand does not matter. -/
theorem run_moved {c : List Ins} {fr ar ws : List Int} (hK : fr.length ≤ 100) (ha : ar.length ≤ 4) (hw : ws.length = 6) (hc : ∀ o ∈ c, shI c.length o) (f : Nat) :
    (rn c f (st0 ar ws)).1.t = (rn (c.map (mvI fr.length)) f (st0 ar (fr ++ ws))).1.t ∧ (rn (c.map (mvI fr.length)) f (st0 ar (fr ++ ws))).1.w = fr ++ (rn c f (st0 ar ws)).1.w ∧ (rn c f (st0 ar ws)).2 = (rn (c.map (mvI fr.length)) f (st0 ar (fr ++ ws))).2 ∧ (rn c f (st0 ar ws)).1.w.length = 6 := by
  have h5 : (st0 ar ws).r 5 = 0 := by
    show (if (0 : Int) ≤ 5 then ar[(5 : Int).toNat]?.getD 0 else 0) = 0
    rw [if_pos (by decide), List.getElem?_eq_none (by show ar.length ≤ 5; omega)]; rfl
  have h0 : RelM fr (st0 ar ws) (st0 ar (fr ++ ws)) := ⟨rfl, rfl, rfl, rfl, h5, hw⟩
  obtain ⟨⟨_, h1, h2, _, _, h4⟩, h3⟩ := rn_sim (c := c) (c' := c.map (mvI fr.length)) (R := RelM fr) (by simp) (fun s s' h => h.1) (fun s s' h hp => by
    rw [map_at (by simp [mvI])]
    exact relM_step hK (code_at hc (sh_done _)) h) f _ _ h0
  exact ⟨h2.symm, h1, h3, h4⟩
theorem mv_ok {m : Nat} {k : Int} {o : Ins} (hk : 0 ≤ k ∧ k ≤ 100) (hm : m ≤ 200) (h : shI m o) : okI m (mvI k o) ∧ inI (mvI k o) := by
  have h1 := sh_ok h
  have h2 := sh_in hm h
  obtain ⟨kk, a, b, c, d⟩ := o
  unfold mvI
  dsimp only
  by_cases he : kk = 13 ∨ kk = 14 ∨ kk = 15
  · rw [if_pos he]
    rcases h with ⟨g1, g2, g3, g4, g5⟩ | ⟨g1, g2, g3, g4, g5⟩ | ⟨g1, g2, g3, g4, g5⟩ | ⟨g1, g2, g3, g4, g5⟩ | ⟨g1, g2, g3, g4, g5⟩ | ⟨g1, g2, g3, g4, g5⟩ | ⟨g1, g2, g3, g4, g5⟩ | ⟨g1, g2, g3, g4, g5⟩ | ⟨g1, g2, g3, g4, g5⟩ <;> dsimp only at g1 g2 g3 g4 g5 <;> first | (exfalso; omega) | skip
    · exact ⟨.inr (.inr (.inr (.inr (.inr (.inl ⟨g1, r4_R g2, (show isR b by rw [g3]; decide), g5⟩))))), h2.1, h2.2.1, h2.2.2.1, by unfold inW; dsimp only; omega, h2.2.2.2.2⟩
    · exact ⟨.inr (.inr (.inr (.inr (.inr (.inr (.inl ⟨g1, r4_R g2, (show isR b by rw [g3]; decide), r4_R g5⟩)))))), h2.1, h2.2.1, h2.2.2.1, by unfold inW; dsimp only; omega, h2.2.2.2.2⟩
  · rw [if_neg he]; exact ⟨h1, h2⟩
end Go.Baro
