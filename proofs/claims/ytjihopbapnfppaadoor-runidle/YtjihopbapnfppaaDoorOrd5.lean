/- Regions whose operations may come up in any order, each leaving what the others have left. No statement of the seat is proved here; no condition. -/
import Derived.Test.YtjihopbapnfppaaDoorOrd4
set_option linter.unusedSimpArgs false
set_option linter.unusedVariables false
namespace Go.Ord
section
variable {P : Program} {md : Region.Mode} {ops : Array Oper} {Q : Exit → Act → World → Prop}

theorem cnt_lt : ∀ (l : List Nat) (p q : Nat → Bool), (∀ x ∈ l, q x = true → p x = true) → (∃ x ∈ l, p x = true ∧ q x = false) → (l.filter q).length < (l.filter p).length
  | [], p, q, _, h => by obtain ⟨x, hx, _⟩ := h; cases hx
  | y :: l, p, q, h1, h2 => by
    have hle : (l.filter q).length ≤ (l.filter p).length := by
      clear h2
      induction l with
      | nil => simp
      | cons x l ih =>
        have ih := ih (fun x hx => h1 x (by simp only [List.mem_cons] at hx ⊢; rcases hx with hx | hx; exact .inl hx; exact .inr (.inr hx)))
        have hx := h1 x (by simp)
        cases hq : q x with
        | true => rw [List.filter_cons, List.filter_cons, hq, hx hq]; simpa using ih
        | false => cases hp : p x <;> rw [List.filter_cons, List.filter_cons, hq, hp] <;> simp <;> omega
    obtain ⟨x, hx, hp, hq⟩ := h2
    rcases List.mem_cons.1 hx with rfl | hx
    · rw [List.filter_cons, List.filter_cons, hp, hq]; simp; omega
    · have ih := cnt_lt l p q (fun x hx => h1 x (by simp [hx])) ⟨x, hx, hp, hq⟩
      have hy := h1 y (by simp)
      cases hq : q y with
      | true => rw [List.filter_cons, List.filter_cons, hq, hy hq]; simpa using ih
      | false => cases hp : p y <;> rw [List.filter_cons, List.filter_cons, hq, hp] <;> simp <;> omega
theorem getD_any {i : Nat} {listed : Array Bool} (hs : listed.size = ops.size) (hi : i < ops.size) : listed.getD i true = listed.getD i false := by
  simp [Array.getD_eq_getD_getElem?, hs, hi]
/-- How many have not come up. -/
def unl (ops : Array Oper) (listed : Array Bool) : Nat := ((List.range ops.size).filter fun i => !listed.getD i false).length
theorem unl_set {i : Nat} {listed : Array Bool} (hi : i < ops.size) (hs : listed.size = ops.size) (h : listed.getD i false = false) : unl ops (listed.setIfInBounds i true) < unl ops listed := by
  refine cnt_lt _ _ _ (fun x _ hx => ?_) ⟨i, List.mem_range.2 hi, by simp [h], ?_⟩
  · by_cases hxi : i = x
    · subst hxi; simp [h]
    · rw [getD_set_ne false hxi] at hx; exact hx
  · simp [Array.getD_eq_getD_getElem?, hs, hi]
theorem wpAny_many {F : Nat → Act → World → Prop} {G : Act → World → Prop} (z : Nat) (hz : ops.size = z + 1) (hpre : ∀ i, i < ops.size → ∀ p ∈ preds md ops i, p < i) (hanc : ∀ k, k < z → k ∈ ancs md ops 12 (preds md ops z))
    (hop : ∀ i, i < z → ∀ o, ops[i]? = some o → ∀ a w, G a w → (∀ p ∈ preds md ops i, F p a w) → wpList P ops (fun e a' w' => e = .normal ∧ G a' w' ∧ F i a' w' ∧ ∀ k, k < z → k ≠ i → F k a w → F k a' w') [o] a w)
    (hend : ∀ o, ops[z]? = some o → ∀ a w, G a w → (∀ k, k < z → F k a w) → wpList P ops (fun e a' w' => e = .normal ∧ Q .normal a' w') [o] a w) :
    ∀ (f : Nat) (listed : Array Bool) (a : Act) (w : World), Closed md ops listed → listed.size = ops.size → unl ops listed ≤ f → (listed.getD z false = false → G a w ∧ ∀ k, k < z → listed.getD k false = true → F k a w) →
      (listed.getD z false = true → Q .normal a w) → wpAny P md ops (Only Q) f listed a w := by
  have hall : ∀ (listed : Array Bool), listed.size = ops.size → Region.ready md ops listed = [] → ∀ i, i < ops.size → listed.getD i false = true := by
    intro listed hs hr i
    induction i using Nat.strongRecOn with
    | _ i ih =>
      intro hi
      cases hl : listed.getD i false with
      | true => rfl
      | false =>
        exfalso
        have ho : ops[i]? = some ops[i] := Array.getElem?_eq_getElem hi
        have : i ∈ Region.ready md ops listed := by
          refine mem_ready.2 ⟨(getD_any hs hi).trans hl, ops[i], ho, fun e he hb => ?_⟩
          have hp : e.on ∈ preds md ops i := by
            unfold preds
            refine List.mem_map.2 ⟨e, List.mem_filter.2 ⟨?_, hb⟩, rfl⟩
            rw [getD_of ho]
            simpa using he
          have hlt := hpre i hi _ hp
          exact ih _ hlt (by omega)
        rw [hr] at this
        cases this
  intro f
  induction f with
  | zero =>
    intro listed a w hc hs hu h1 h2
    have he : ∀ i, i < ops.size → listed.getD i false = true := by
      intro i hi
      cases hl : listed.getD i false with
      | true => rfl
      | false =>
        have := unl_set hi hs hl
        omega
    refine ⟨?_, rfl, h2 (he z (by omega))⟩
    cases hr : Region.ready md ops listed with
    | nil => rfl
    | cons i r =>
      exfalso
      have hi : i ∈ Region.ready md ops listed := by rw [hr]; simp
      obtain ⟨hn, o, ho, _⟩ := mem_ready.1 hi
      have h3 := (Array.getElem?_eq_some_iff.1 ho).1
      have := he i h3
      rw [getD_any hs h3, this] at hn
      cases hn
  | succ f ih =>
    intro listed a w hc hs hu h1 h2
    refine ⟨fun hr => ⟨rfl, h2 (hall listed hs hr z (by omega))⟩, fun i hi => ?_⟩
    have hi' := hi
    obtain ⟨hn, o, ho, _⟩ := mem_ready.1 hi
    have hlt : i < ops.size := (Array.getElem?_eq_some_iff.1 ho).1
    have hn' : listed.getD i false = false := (getD_any hs hlt).symm.trans hn
    have hset : ∀ k, k ≠ i → (listed.setIfInBounds i true).getD k false = listed.getD k false := fun k hk => getD_set_ne false (Ne.symm hk)
    have hsi : (listed.setIfInBounds i true).getD i false = true := by simp [Array.getD_eq_getD_getElem?, hs, hlt]
    have hun := unl_set hlt hs hn'
    by_cases hiz : i = z
    · subst hiz
      obtain ⟨hG, hF⟩ := h1 hn'
      have hk : ∀ k, k < i → F k a w := fun k hk => hF k hk (ancs_listed hc 12 _ (ready_preds hi) k (hanc k hk))
      refine wpOp_one ho (wpList_mono' (fun e a' w' hq => ⟨hq.1, ?_⟩) _ _ _ (hend o ho a w hG hk))
      exact ih _ a' w' (hc.set hi) (by simpa using hs) (by omega) (fun h => by rw [hsi] at h; cases h) (fun _ => hq.2)
    · have hiz2 : i < z := by omega
      have hzn : listed.getD z false = false := by
        cases hl : listed.getD z false with
        | false => rfl
        | true =>
          have := ancs_listed hc 12 _ (fun p hp => hc z hl p hp) i (hanc i hiz2)
          rw [hn'] at this
          cases this
      obtain ⟨hG, hF⟩ := h1 hzn
      have hpz : ∀ p ∈ preds md ops i, F p a w := fun p hp => hF p (by have := hpre i hlt p hp; omega) (ready_preds hi p hp)
      refine wpOp_one ho (wpList_mono' (fun e a' w' hq => ⟨hq.1, ?_⟩) _ _ _ (hop i hiz2 o ho a w hG hpz))
      obtain ⟨_, q1, q2, q3⟩ := hq
      refine ih _ a' w' (hc.set hi) (by simpa using hs) (by omega) (fun _ => ⟨q1, fun k hk hl => ?_⟩) (fun h => ?_)
      · by_cases hki : k = i
        · subst hki; exact q2
        · rw [hset k hki] at hl; exact q3 k hk hki (hF k hk hl)
      · rw [hset z (fun h => hiz h.symm)] at h
        rw [hzn] at h
        cases h
/-- i has come up, too. -/
def markL (L : Nat → Bool) (i : Nat) : Nat → Bool := fun k => if k = i then true else L k
theorem markL_self (L : Nat → Bool) (i : Nat) : markL L i i = true := by simp [markL]
theorem markL_ne (L : Nat → Bool) {i k : Nat} (h : k ≠ i) : markL L i k = L k := by simp [markL, h]
theorem markL_false {L : Nat → Bool} {i k : Nat} (h : markL L i k = false) : L k = false := by
  unfold markL at h
  split at h
  · cases h
  · exact h
theorem wpAny_manyL {G : (Nat → Bool) → Act → World → Prop} (z : Nat) (hz : ops.size = z + 1) (hpre : ∀ i, i < ops.size → ∀ p ∈ preds md ops i, p < i) (hanc : ∀ k, k < z → k ∈ ancs md ops 12 (preds md ops z))
    (hop : ∀ i, i < z → ∀ o, ops[i]? = some o → ∀ L a w, L i = false → (∀ k, L k = true → ∀ p ∈ preds md ops k, L p = true) → (∀ p ∈ preds md ops i, L p = true) → G L a w → wpList P ops (fun e a' w' => e = .normal ∧ G (markL L i) a' w') [o] a w)
    (hend : ∀ o, ops[z]? = some o → ∀ L a w, (∀ k, k < z → L k = true) → G L a w → wpList P ops (fun e a' w' => e = .normal ∧ Q .normal a' w') [o] a w) :
    ∀ (f : Nat) (listed : Array Bool) (a : Act) (w : World), Closed md ops listed → listed.size = ops.size → unl ops listed ≤ f → (listed.getD z false = false → G (fun k => listed.getD k false) a w) →
      (listed.getD z false = true → Q .normal a w) → wpAny P md ops (Only Q) f listed a w := by
  have hall : ∀ (listed : Array Bool), listed.size = ops.size → Region.ready md ops listed = [] → ∀ i, i < ops.size → listed.getD i false = true := by
    intro listed hs hr i
    induction i using Nat.strongRecOn with
    | _ i ih =>
      intro hi
      cases hl : listed.getD i false with
      | true => rfl
      | false =>
        exfalso
        have ho : ops[i]? = some ops[i] := Array.getElem?_eq_getElem hi
        have : i ∈ Region.ready md ops listed := by
          refine mem_ready.2 ⟨(getD_any hs hi).trans hl, ops[i], ho, fun e he hb => ?_⟩
          have hp : e.on ∈ preds md ops i := by
            unfold preds
            refine List.mem_map.2 ⟨e, List.mem_filter.2 ⟨?_, hb⟩, rfl⟩
            rw [getD_of ho]
            simpa using he
          have hlt := hpre i hi _ hp
          exact ih _ hlt (by omega)
        rw [hr] at this
        cases this
  intro f
  induction f with
  | zero =>
    intro listed a w hc hs hu h1 h2
    have he : ∀ i, i < ops.size → listed.getD i false = true := by
      intro i hi
      cases hl : listed.getD i false with
      | true => rfl
      | false =>
        have := unl_set hi hs hl
        omega
    refine ⟨?_, rfl, h2 (he z (by omega))⟩
    cases hr : Region.ready md ops listed with
    | nil => rfl
    | cons i r =>
      exfalso
      have hi : i ∈ Region.ready md ops listed := by rw [hr]; simp
      obtain ⟨hn, o, ho, _⟩ := mem_ready.1 hi
      have h3 := (Array.getElem?_eq_some_iff.1 ho).1
      have := he i h3
      rw [getD_any hs h3, this] at hn
      cases hn
  | succ f ih =>
    intro listed a w hc hs hu h1 h2
    refine ⟨fun hr => ⟨rfl, h2 (hall listed hs hr z (by omega))⟩, fun i hi => ?_⟩
    have hi' := hi
    obtain ⟨hn, o, ho, _⟩ := mem_ready.1 hi
    have hlt : i < ops.size := (Array.getElem?_eq_some_iff.1 ho).1
    have hn' : listed.getD i false = false := (getD_any hs hlt).symm.trans hn
    have hset : ∀ k, k ≠ i → (listed.setIfInBounds i true).getD k false = listed.getD k false := fun k hk => getD_set_ne false (Ne.symm hk)
    have hsi : (listed.setIfInBounds i true).getD i false = true := by simp [Array.getD_eq_getD_getElem?, hs, hlt]
    have hun := unl_set hlt hs hn'
    by_cases hiz : i = z
    · subst hiz
      have hk : ∀ k, k < i → listed.getD k false = true := fun k hk => ancs_listed hc 12 _ (ready_preds hi) k (hanc k hk)
      refine wpOp_one ho (wpList_mono' (fun e a' w' hq => ⟨hq.1, ?_⟩) _ _ _ (hend o ho _ a w hk (h1 hn')))
      exact ih _ a' w' (hc.set hi) (by simpa using hs) (by omega) (fun h => by rw [hsi] at h; cases h) (fun _ => hq.2)
    · have hiz2 : i < z := by omega
      have hzn : listed.getD z false = false := by
        cases hl : listed.getD z false with
        | false => rfl
        | true =>
          have := ancs_listed hc 12 _ (fun p hp => hc z hl p hp) i (hanc i hiz2)
          rw [hn'] at this
          cases this
      have he : markL (fun k => listed.getD k false) i = fun k => (listed.setIfInBounds i true).getD k false := by
        funext k
        by_cases hki : k = i
        · subst hki; rw [markL_self, hsi]
        · rw [markL_ne _ hki, hset k hki]
      refine wpOp_one ho (wpList_mono' (fun e a' w' hq => ⟨hq.1, ?_⟩) _ _ _ (hop i hiz2 o ho _ a w hn' (fun k hk p hp => hc k hk p hp) (fun p hp => ready_preds hi p hp) (h1 hzn)))
      refine ih _ a' w' (hc.set hi) (by simpa using hs) (by omega) (fun _ => he ▸ hq.2) (fun h => ?_)
      rw [hset z (fun h => hiz h.symm)] at h
      rw [hzn] at h
      cases h
end
section
variable {P : Program} {l : List Oper} {Q : Exit → Act → World → Prop}
/-- A region of operations of which the last waits for all the others; these may come up in any order, and each leaves what the others have left. -/
theorem region_many {id : Nat} {a : Act} {w : World} {F : Nat → Act → World → Prop} {G : Act → World → Prop} (z : Nat) (hm : P.follows .mixedOrders = true)
    (hB : (decide (l.length = z + 1) && (List.range l.length).all (fun i => (preds .any l.toArray i).all fun p => decide (p < i)) && (List.range z).all (fun k => (ancs .any l.toArray 12 (preds .any l.toArray z)).contains k)) = true)
    (h0 : G a w.drew)
    (hop : ∀ i, i < z → ∀ a w, G a w → (∀ p ∈ preds .any l.toArray i, F p a w) → wpList P l.toArray (fun e a' w' => e = .normal ∧ G a' w' ∧ F i a' w' ∧ ∀ k, k < z → k ≠ i → F k a w → F k a' w') (pick l [i]) a w)
    (hend : ∀ a w, G a w → (∀ k, k < z → F k a w) → wpList P l.toArray (fun e a' w' => e = .normal ∧ Q .normal a' w') (pick l [z]) a w) : (Code.region id l.toArray true).wp P Q a w := by
  simp only [Bool.and_eq_true, decide_eq_true_eq] at hB
  obtain ⟨⟨hlen, hpre⟩, hanc⟩ := hB
  have hpk : ∀ i o, l.toArray[i]? = some o → pick l [i] = [o] := by
    intro i o ho
    have : l[i]? = some o := by simpa using ho
    simp [pick, List.getD_eq_getElem?_getD, this]
  refine Code.wp_mono (Q := Only Q) (fun e a w ⟨he, hq⟩ => by subst he; exact hq) (wp_region_any hm ?_)
  refine wpAny_many (F := F) (G := G) z (by simpa using hlen) (fun i hi p hp => ?_) (fun k hk => ?_) (fun i hi o ho a w hG hF => ?_) (fun o ho a w hG hF => ?_) _ _ a w.drew (fun k hk => ?_) (by simp) ?_ (fun _ => ⟨h0, fun k hk hl => ?_⟩) (fun h => ?_)
  · have := List.all_eq_true.1 hpre i (List.mem_range.2 (by simpa using hi))
    have := List.all_eq_true.1 this p hp
    simpa using this
  · have := List.all_eq_true.1 hanc k (List.mem_range.2 hk)
    simpa using this
  · have := hop i hi a w hG hF
    rw [hpk i o ho] at this
    exact this
  · have := hend a w hG hF
    rw [hpk z o ho] at this
    exact this
  · simp [Array.getD_eq_getD_getElem?, Array.getElem?_replicate] at hk; split at hk <;> simp at hk
  · unfold unl
    refine Nat.le_trans (List.length_filter_le _ _) (by simp)
  · simp [Array.getD_eq_getD_getElem?, Array.getElem?_replicate] at hl; split at hl <;> simp at hl
  · simp [Array.getD_eq_getD_getElem?, Array.getElem?_replicate] at h; split at h <;> simp at h
/-- The same, where the invariant knows what has come up. -/
theorem region_manyL {id : Nat} {a : Act} {w : World} {G : (Nat → Bool) → Act → World → Prop} (z : Nat) (hm : P.follows .mixedOrders = true)
    (hB : (decide (l.length = z + 1) && (List.range l.length).all (fun i => (preds .any l.toArray i).all fun p => decide (p < i)) && (List.range z).all (fun k => (ancs .any l.toArray 12 (preds .any l.toArray z)).contains k)) = true)
    (h0 : G (fun _ => false) a w.drew)
    (hop : ∀ i, i < z → ∀ L a w, L i = false → (∀ k, L k = true → ∀ p ∈ preds .any l.toArray k, L p = true) → (∀ p ∈ preds .any l.toArray i, L p = true) → G L a w → wpList P l.toArray (fun e a' w' => e = .normal ∧ G (markL L i) a' w') (pick l [i]) a w)
    (hend : ∀ L a w, (∀ k, k < z → L k = true) → G L a w → wpList P l.toArray (fun e a' w' => e = .normal ∧ Q .normal a' w') (pick l [z]) a w) : (Code.region id l.toArray true).wp P Q a w := by
  simp only [Bool.and_eq_true, decide_eq_true_eq] at hB
  obtain ⟨⟨hlen, hpre⟩, hanc⟩ := hB
  have hpk : ∀ i o, l.toArray[i]? = some o → pick l [i] = [o] := by
    intro i o ho
    have : l[i]? = some o := by simpa using ho
    simp [pick, List.getD_eq_getElem?_getD, this]
  have hL0 : (fun k => (Array.replicate l.toArray.size false).getD k false) = fun _ => false := by
    funext k
    simp [Array.getD_eq_getD_getElem?, Array.getElem?_replicate]
    split <;> rfl
  refine Code.wp_mono (Q := Only Q) (fun e a w ⟨he, hq⟩ => by subst he; exact hq) (wp_region_any hm ?_)
  refine wpAny_manyL (G := G) z (by simpa using hlen) (fun i hi p hp => ?_) (fun k hk => ?_) (fun i hi o ho L a w h1 h2 h3 hG => ?_) (fun o ho L a w hF hG => ?_) _ _ a w.drew (fun k hk => ?_) (by simp) ?_ (fun _ => by rw [hL0]; exact h0) (fun h => ?_)
  · have := List.all_eq_true.1 hpre i (List.mem_range.2 (by simpa using hi))
    have := List.all_eq_true.1 this p hp
    simpa using this
  · have := List.all_eq_true.1 hanc k (List.mem_range.2 hk)
    simpa using this
  · have := hop i hi L a w h1 h2 h3 hG
    rw [hpk i o ho] at this
    exact this
  · have := hend L a w hF hG
    rw [hpk z o ho] at this
    exact this
  · simp [Array.getD_eq_getD_getElem?, Array.getElem?_replicate] at hk; split at hk <;> simp at hk
  · unfold unl
    refine Nat.le_trans (List.length_filter_le _ _) (by simp)
  · simp [Array.getD_eq_getD_getElem?, Array.getElem?_replicate] at h; split at h <;> simp at h
end
end Go.Ord
