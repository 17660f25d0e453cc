/- Of this claim's own texts these, one behind the other: Ord5, OpenM, LibE, RunPure4, RunSpec. No statement of the seat is proved here; no condition but those that stand at the theorems. -/
import Derived.Test.YtnchgdjdfhfedaaDoorPartAB
import Derived.Test.YtnchgdjdfhfedaaDoorPartAE
import Derived.Lib.SmallJoins
import Derived.Test.YtnchgdjdfhfedaaDoorPartAD
import Derived.Test.YtnchgdjdfhfedaaDoorPartAF
set_option linter.unusedSimpArgs false
set_option linter.unusedVariables false
namespace Go.Ord
section
variable {P : Program} {md : Region.Mode} {ops : Array Oper} {Q : Exit → Act → World → Prop}

theorem cnt_lt : ∀ (l : List Nat) (p q : Nat → Bool), (∀ x ∈ l, q x = true → p x = true) → (∃ x ∈ l, p x = true ∧ q x = false) → (l.filter q).length < (l.filter p).length
  | [], p, q, _, h => by obtain ⟨x, hx, _⟩ := h; cases hx
  | y :: l, p, q, h1, h2 => by
    have hle : (l.filter q).length ≤ (l.filter p).length := by
      clear h2
      induction l with
      | nil => simp
      | cons x l ih =>
        have ih := ih (fun x hx => h1 x (by simp only [List.mem_cons] at hx ⊢; rcases hx with hx | hx; exact .inl hx; exact .inr (.inr hx)))
        have hx := h1 x (by simp)
        cases hq : q x with
        | true => rw [List.filter_cons, List.filter_cons, hq, hx hq]; simpa using ih
        | false => cases hp : p x <;> rw [List.filter_cons, List.filter_cons, hq, hp] <;> simp <;> omega
    obtain ⟨x, hx, hp, hq⟩ := h2
    rcases List.mem_cons.1 hx with rfl | hx
    · rw [List.filter_cons, List.filter_cons, hp, hq]; simp; omega
    · have ih := cnt_lt l p q (fun x hx => h1 x (by simp [hx])) ⟨x, hx, hp, hq⟩
      have hy := h1 y (by simp)
      cases hq : q y with
      | true => rw [List.filter_cons, List.filter_cons, hq, hy hq]; simpa using ih
      | false => cases hp : p y <;> rw [List.filter_cons, List.filter_cons, hq, hp] <;> simp <;> omega
theorem getD_any {i : Nat} {listed : Array Bool} (hs : listed.size = ops.size) (hi : i < ops.size) : listed.getD i true = listed.getD i false := by
  simp [Array.getD_eq_getD_getElem?, hs, hi]
/-- How many have not come up. -/
def unl (ops : Array Oper) (listed : Array Bool) : Nat := ((List.range ops.size).filter fun i => !listed.getD i false).length
theorem unl_set {i : Nat} {listed : Array Bool} (hi : i < ops.size) (hs : listed.size = ops.size) (h : listed.getD i false = false) : unl ops (listed.setIfInBounds i true) < unl ops listed := by
  refine cnt_lt _ _ _ (fun x _ hx => ?_) ⟨i, List.mem_range.2 hi, by simp [h], ?_⟩
  · by_cases hxi : i = x
    · subst hxi; simp [h]
    · rw [getD_set_ne false hxi] at hx; exact hx
  · simp [Array.getD_eq_getD_getElem?, hs, hi]
theorem wpAny_many {F : Nat → Act → World → Prop} {G : Act → World → Prop} (z : Nat) (hz : ops.size = z + 1) (hpre : ∀ i, i < ops.size → ∀ p ∈ preds md ops i, p < i) (hanc : ∀ k, k < z → k ∈ ancs md ops 12 (preds md ops z))
    (hop : ∀ i, i < z → ∀ o, ops[i]? = some o → ∀ a w, G a w → (∀ p ∈ preds md ops i, F p a w) → wpList P ops (fun e a' w' => e = .normal ∧ G a' w' ∧ F i a' w' ∧ ∀ k, k < z → k ≠ i → F k a w → F k a' w') [o] a w)
    (hend : ∀ o, ops[z]? = some o → ∀ a w, G a w → (∀ k, k < z → F k a w) → wpList P ops (fun e a' w' => e = .normal ∧ Q .normal a' w') [o] a w) :
    ∀ (f : Nat) (listed : Array Bool) (a : Act) (w : World), Closed md ops listed → listed.size = ops.size → unl ops listed ≤ f → (listed.getD z false = false → G a w ∧ ∀ k, k < z → listed.getD k false = true → F k a w) →
      (listed.getD z false = true → Q .normal a w) → wpAny P md ops (Only Q) f listed a w := by
  have hall : ∀ (listed : Array Bool), listed.size = ops.size → Region.ready md ops listed = [] → ∀ i, i < ops.size → listed.getD i false = true := by
    intro listed hs hr i
    induction i using Nat.strongRecOn with
    | _ i ih =>
      intro hi
      cases hl : listed.getD i false with
      | true => rfl
      | false =>
        exfalso
        have ho : ops[i]? = some ops[i] := Array.getElem?_eq_getElem hi
        have : i ∈ Region.ready md ops listed := by
          refine mem_ready.2 ⟨(getD_any hs hi).trans hl, ops[i], ho, fun e he hb => ?_⟩
          have hp : e.on ∈ preds md ops i := by
            unfold preds
            refine List.mem_map.2 ⟨e, List.mem_filter.2 ⟨?_, hb⟩, rfl⟩
            rw [getD_of ho]
            simpa using he
          have hlt := hpre i hi _ hp
          exact ih _ hlt (by omega)
        rw [hr] at this
        cases this
  intro f
  induction f with
  | zero =>
    intro listed a w hc hs hu h1 h2
    have he : ∀ i, i < ops.size → listed.getD i false = true := by
      intro i hi
      cases hl : listed.getD i false with
      | true => rfl
      | false =>
        have := unl_set hi hs hl
        omega
    refine ⟨?_, rfl, h2 (he z (by omega))⟩
    cases hr : Region.ready md ops listed with
    | nil => rfl
    | cons i r =>
      exfalso
      have hi : i ∈ Region.ready md ops listed := by rw [hr]; simp
      obtain ⟨hn, o, ho, _⟩ := mem_ready.1 hi
      have h3 := (Array.getElem?_eq_some_iff.1 ho).1
      have := he i h3
      rw [getD_any hs h3, this] at hn
      cases hn
  | succ f ih =>
    intro listed a w hc hs hu h1 h2
    refine ⟨fun hr => ⟨rfl, h2 (hall listed hs hr z (by omega))⟩, fun i hi => ?_⟩
    have hi' := hi
    obtain ⟨hn, o, ho, _⟩ := mem_ready.1 hi
    have hlt : i < ops.size := (Array.getElem?_eq_some_iff.1 ho).1
    have hn' : listed.getD i false = false := (getD_any hs hlt).symm.trans hn
    have hset : ∀ k, k ≠ i → (listed.setIfInBounds i true).getD k false = listed.getD k false := fun k hk => getD_set_ne false (Ne.symm hk)
    have hsi : (listed.setIfInBounds i true).getD i false = true := by simp [Array.getD_eq_getD_getElem?, hs, hlt]
    have hun := unl_set hlt hs hn'
    by_cases hiz : i = z
    · subst hiz
      obtain ⟨hG, hF⟩ := h1 hn'
      have hk : ∀ k, k < i → F k a w := fun k hk => hF k hk (ancs_listed hc 12 _ (ready_preds hi) k (hanc k hk))
      refine wpOp_one ho (wpList_mono' (fun e a' w' hq => ⟨hq.1, ?_⟩) _ _ _ (hend o ho a w hG hk))
      exact ih _ a' w' (hc.set hi) (by simpa using hs) (by omega) (fun h => by rw [hsi] at h; cases h) (fun _ => hq.2)
    · have hiz2 : i < z := by omega
      have hzn : listed.getD z false = false := by
        cases hl : listed.getD z false with
        | false => rfl
        | true =>
          have := ancs_listed hc 12 _ (fun p hp => hc z hl p hp) i (hanc i hiz2)
          rw [hn'] at this
          cases this
      obtain ⟨hG, hF⟩ := h1 hzn
      have hpz : ∀ p ∈ preds md ops i, F p a w := fun p hp => hF p (by have := hpre i hlt p hp; omega) (ready_preds hi p hp)
      refine wpOp_one ho (wpList_mono' (fun e a' w' hq => ⟨hq.1, ?_⟩) _ _ _ (hop i hiz2 o ho a w hG hpz))
      obtain ⟨_, q1, q2, q3⟩ := hq
      refine ih _ a' w' (hc.set hi) (by simpa using hs) (by omega) (fun _ => ⟨q1, fun k hk hl => ?_⟩) (fun h => ?_)
      · by_cases hki : k = i
        · subst hki; exact q2
        · rw [hset k hki] at hl; exact q3 k hk hki (hF k hk hl)
      · rw [hset z (fun h => hiz h.symm)] at h
        rw [hzn] at h
        cases h
/-- i has come up, too. -/
def markL (L : Nat → Bool) (i : Nat) : Nat → Bool := fun k => if k = i then true else L k
theorem markL_self (L : Nat → Bool) (i : Nat) : markL L i i = true := by simp [markL]
theorem markL_ne (L : Nat → Bool) {i k : Nat} (h : k ≠ i) : markL L i k = L k := by simp [markL, h]
theorem markL_false {L : Nat → Bool} {i k : Nat} (h : markL L i k = false) : L k = false := by
  unfold markL at h
  split at h
  · cases h
  · exact h
theorem wpAny_manyL {G : (Nat → Bool) → Act → World → Prop} (z : Nat) (hz : ops.size = z + 1) (hpre : ∀ i, i < ops.size → ∀ p ∈ preds md ops i, p < i) (hanc : ∀ k, k < z → k ∈ ancs md ops 12 (preds md ops z))
    (hop : ∀ i, i < z → ∀ o, ops[i]? = some o → ∀ L a w, L i = false → (∀ k, L k = true → ∀ p ∈ preds md ops k, L p = true) → (∀ p ∈ preds md ops i, L p = true) → G L a w → wpList P ops (fun e a' w' => e = .normal ∧ G (markL L i) a' w') [o] a w)
    (hend : ∀ o, ops[z]? = some o → ∀ L a w, (∀ k, k < z → L k = true) → G L a w → wpList P ops (fun e a' w' => e = .normal ∧ Q .normal a' w') [o] a w) :
    ∀ (f : Nat) (listed : Array Bool) (a : Act) (w : World), Closed md ops listed → listed.size = ops.size → unl ops listed ≤ f → (listed.getD z false = false → G (fun k => listed.getD k false) a w) →
      (listed.getD z false = true → Q .normal a w) → wpAny P md ops (Only Q) f listed a w := by
  have hall : ∀ (listed : Array Bool), listed.size = ops.size → Region.ready md ops listed = [] → ∀ i, i < ops.size → listed.getD i false = true := by
    intro listed hs hr i
    induction i using Nat.strongRecOn with
    | _ i ih =>
      intro hi
      cases hl : listed.getD i false with
      | true => rfl
      | false =>
        exfalso
        have ho : ops[i]? = some ops[i] := Array.getElem?_eq_getElem hi
        have : i ∈ Region.ready md ops listed := by
          refine mem_ready.2 ⟨(getD_any hs hi).trans hl, ops[i], ho, fun e he hb => ?_⟩
          have hp : e.on ∈ preds md ops i := by
            unfold preds
            refine List.mem_map.2 ⟨e, List.mem_filter.2 ⟨?_, hb⟩, rfl⟩
            rw [getD_of ho]
            simpa using he
          have hlt := hpre i hi _ hp
          exact ih _ hlt (by omega)
        rw [hr] at this
        cases this
  intro f
  induction f with
  | zero =>
    intro listed a w hc hs hu h1 h2
    have he : ∀ i, i < ops.size → listed.getD i false = true := by
      intro i hi
      cases hl : listed.getD i false with
      | true => rfl
      | false =>
        have := unl_set hi hs hl
        omega
    refine ⟨?_, rfl, h2 (he z (by omega))⟩
    cases hr : Region.ready md ops listed with
    | nil => rfl
    | cons i r =>
      exfalso
      have hi : i ∈ Region.ready md ops listed := by rw [hr]; simp
      obtain ⟨hn, o, ho, _⟩ := mem_ready.1 hi
      have h3 := (Array.getElem?_eq_some_iff.1 ho).1
      have := he i h3
      rw [getD_any hs h3, this] at hn
      cases hn
  | succ f ih =>
    intro listed a w hc hs hu h1 h2
    refine ⟨fun hr => ⟨rfl, h2 (hall listed hs hr z (by omega))⟩, fun i hi => ?_⟩
    have hi' := hi
    obtain ⟨hn, o, ho, _⟩ := mem_ready.1 hi
    have hlt : i < ops.size := (Array.getElem?_eq_some_iff.1 ho).1
    have hn' : listed.getD i false = false := (getD_any hs hlt).symm.trans hn
    have hset : ∀ k, k ≠ i → (listed.setIfInBounds i true).getD k false = listed.getD k false := fun k hk => getD_set_ne false (Ne.symm hk)
    have hsi : (listed.setIfInBounds i true).getD i false = true := by simp [Array.getD_eq_getD_getElem?, hs, hlt]
    have hun := unl_set hlt hs hn'
    by_cases hiz : i = z
    · subst hiz
      have hk : ∀ k, k < i → listed.getD k false = true := fun k hk => ancs_listed hc 12 _ (ready_preds hi) k (hanc k hk)
      refine wpOp_one ho (wpList_mono' (fun e a' w' hq => ⟨hq.1, ?_⟩) _ _ _ (hend o ho _ a w hk (h1 hn')))
      exact ih _ a' w' (hc.set hi) (by simpa using hs) (by omega) (fun h => by rw [hsi] at h; cases h) (fun _ => hq.2)
    · have hiz2 : i < z := by omega
      have hzn : listed.getD z false = false := by
        cases hl : listed.getD z false with
        | false => rfl
        | true =>
          have := ancs_listed hc 12 _ (fun p hp => hc z hl p hp) i (hanc i hiz2)
          rw [hn'] at this
          cases this
      have he : markL (fun k => listed.getD k false) i = fun k => (listed.setIfInBounds i true).getD k false := by
        funext k
        by_cases hki : k = i
        · subst hki; rw [markL_self, hsi]
        · rw [markL_ne _ hki, hset k hki]
      refine wpOp_one ho (wpList_mono' (fun e a' w' hq => ⟨hq.1, ?_⟩) _ _ _ (hop i hiz2 o ho _ a w hn' (fun k hk p hp => hc k hk p hp) (fun p hp => ready_preds hi p hp) (h1 hzn)))
      refine ih _ a' w' (hc.set hi) (by simpa using hs) (by omega) (fun _ => he ▸ hq.2) (fun h => ?_)
      rw [hset z (fun h => hiz h.symm)] at h
      rw [hzn] at h
      cases h
end
section
variable {P : Program} {l : List Oper} {Q : Exit → Act → World → Prop}
/-- A region of operations of which the last waits for all the others; these may come up in any order, and each leaves what the others have left. -/
theorem region_many {id : Nat} {a : Act} {w : World} {F : Nat → Act → World → Prop} {G : Act → World → Prop} (z : Nat) (hm : P.follows .mixedOrders = true)
    (hB : (decide (l.length = z + 1) && (List.range l.length).all (fun i => (preds .any l.toArray i).all fun p => decide (p < i)) && (List.range z).all (fun k => (ancs .any l.toArray 12 (preds .any l.toArray z)).contains k)) = true)
    (h0 : G a w.drew)
    (hop : ∀ i, i < z → ∀ a w, G a w → (∀ p ∈ preds .any l.toArray i, F p a w) → wpList P l.toArray (fun e a' w' => e = .normal ∧ G a' w' ∧ F i a' w' ∧ ∀ k, k < z → k ≠ i → F k a w → F k a' w') (pick l [i]) a w)
    (hend : ∀ a w, G a w → (∀ k, k < z → F k a w) → wpList P l.toArray (fun e a' w' => e = .normal ∧ Q .normal a' w') (pick l [z]) a w) : (Code.region id l.toArray true).wp P Q a w := by
  simp only [Bool.and_eq_true, decide_eq_true_eq] at hB
  obtain ⟨⟨hlen, hpre⟩, hanc⟩ := hB
  have hpk : ∀ i o, l.toArray[i]? = some o → pick l [i] = [o] := by
    intro i o ho
    have : l[i]? = some o := by simpa using ho
    simp [pick, List.getD_eq_getElem?_getD, this]
  refine Code.wp_mono (Q := Only Q) (fun e a w ⟨he, hq⟩ => by subst he; exact hq) (wp_region_any hm ?_)
  refine wpAny_many (F := F) (G := G) z (by simpa using hlen) (fun i hi p hp => ?_) (fun k hk => ?_) (fun i hi o ho a w hG hF => ?_) (fun o ho a w hG hF => ?_) _ _ a w.drew (fun k hk => ?_) (by simp) ?_ (fun _ => ⟨h0, fun k hk hl => ?_⟩) (fun h => ?_)
  · have := List.all_eq_true.1 hpre i (List.mem_range.2 (by simpa using hi))
    have := List.all_eq_true.1 this p hp
    simpa using this
  · have := List.all_eq_true.1 hanc k (List.mem_range.2 hk)
    simpa using this
  · have := hop i hi a w hG hF
    rw [hpk i o ho] at this
    exact this
  · have := hend a w hG hF
    rw [hpk z o ho] at this
    exact this
  · simp [Array.getD_eq_getD_getElem?, Array.getElem?_replicate] at hk; split at hk <;> simp at hk
  · unfold unl
    refine Nat.le_trans (List.length_filter_le _ _) (by simp)
  · simp [Array.getD_eq_getD_getElem?, Array.getElem?_replicate] at hl; split at hl <;> simp at hl
  · simp [Array.getD_eq_getD_getElem?, Array.getElem?_replicate] at h; split at h <;> simp at h
/-- The same, where the invariant knows what has come up. -/
theorem region_manyL {id : Nat} {a : Act} {w : World} {G : (Nat → Bool) → Act → World → Prop} (z : Nat) (hm : P.follows .mixedOrders = true)
    (hB : (decide (l.length = z + 1) && (List.range l.length).all (fun i => (preds .any l.toArray i).all fun p => decide (p < i)) && (List.range z).all (fun k => (ancs .any l.toArray 12 (preds .any l.toArray z)).contains k)) = true)
    (h0 : G (fun _ => false) a w.drew)
    (hop : ∀ i, i < z → ∀ L a w, L i = false → (∀ k, L k = true → ∀ p ∈ preds .any l.toArray k, L p = true) → (∀ p ∈ preds .any l.toArray i, L p = true) → G L a w → wpList P l.toArray (fun e a' w' => e = .normal ∧ G (markL L i) a' w') (pick l [i]) a w)
    (hend : ∀ L a w, (∀ k, k < z → L k = true) → G L a w → wpList P l.toArray (fun e a' w' => e = .normal ∧ Q .normal a' w') (pick l [z]) a w) : (Code.region id l.toArray true).wp P Q a w := by
  simp only [Bool.and_eq_true, decide_eq_true_eq] at hB
  obtain ⟨⟨hlen, hpre⟩, hanc⟩ := hB
  have hpk : ∀ i o, l.toArray[i]? = some o → pick l [i] = [o] := by
    intro i o ho
    have : l[i]? = some o := by simpa using ho
    simp [pick, List.getD_eq_getElem?_getD, this]
  have hL0 : (fun k => (Array.replicate l.toArray.size false).getD k false) = fun _ => false := by
    funext k
    simp [Array.getD_eq_getD_getElem?, Array.getElem?_replicate]
    split <;> rfl
  refine Code.wp_mono (Q := Only Q) (fun e a w ⟨he, hq⟩ => by subst he; exact hq) (wp_region_any hm ?_)
  refine wpAny_manyL (G := G) z (by simpa using hlen) (fun i hi p hp => ?_) (fun k hk => ?_) (fun i hi o ho L a w h1 h2 h3 hG => ?_) (fun o ho L a w hF hG => ?_) _ _ a w.drew (fun k hk => ?_) (by simp) ?_ (fun _ => by rw [hL0]; exact h0) (fun h => ?_)
  · have := List.all_eq_true.1 hpre i (List.mem_range.2 (by simpa using hi))
    have := List.all_eq_true.1 this p hp
    simpa using this
  · have := List.all_eq_true.1 hanc k (List.mem_range.2 hk)
    simpa using this
  · have := hop i hi L a w h1 h2 h3 hG
    rw [hpk i o ho] at this
    exact this
  · have := hend L a w hF hG
    rw [hpk z o ho] at this
    exact this
  · simp [Array.getD_eq_getD_getElem?, Array.getElem?_replicate] at hk; split at hk <;> simp at hk
  · unfold unl
    refine Nat.le_trans (List.length_filter_le _ _) (by simp)
  · simp [Array.getD_eq_getD_getElem?, Array.getElem?_replicate] at h; split at h <;> simp at h
end
end Go.Ord

set_option linter.unusedSimpArgs false
set_option linter.unusedVariables false
namespace Go.Baro
open Go.ChangeShapes Go.WideShapes Go.ChangeAt Go.RowKit
section
variable {H : Type} {enc : TypeId × Value → H} {P : Program} {W : World}
/-- A slice whose elements open. -/
theorem open_RG {α : Type} {s : Nat} {R : World → Nat → List Value → α → Prop} {ok : α → Prop} {t e : TypeId} {a : Option Addr} {len cap : Nat} {d : DataW H} {p : List MemPlace} (ht : P.underlying t = some (.slice e)) (hc : P.cellsOf e = s) (hs : 0 < s)
    (hrow : ∀ n r y, r.length = s → DataW.trod enc P W 0 (fun _ => true) true n e r = some y → ∃ x, R W W.heap.size r x ∧ ok x)
    (h : DataW.Trod enc P W 0 (fun _ => true) true t (.slice a len cap) d p) : ∃ ls : List α, RG s R W W.heap.size a len ls ∧ (∀ x ∈ ls, ok x) ∧ len ≤ cap := by
  obtain ⟨rows, hr, hl, hrw, hlc, _⟩ := open_rows ht hc hs h
  obtain ⟨us, ls, he, hul, hp, hq⟩ := zip_of (f := fun r : List Value => r) (R := fun r x => R W W.heap.size r x ∧ ok x) rows (by
    intro r hr
    obtain ⟨h1, y, n, hy⟩ := hrw r hr
    obtain ⟨x, hx⟩ := hrow n r y h1 hy
    exact ⟨r, x, rfl, hx⟩)
  rw [show us.map (fun r : List Value => r) = us from List.map_id us] at he
  subst he
  refine ⟨ls, ⟨rows, hul, fun r hr => (hrw r hr).1, hr, fun i r x h1 h2 => (hp i r x h1 h2).1⟩, fun x hx => ?_, hlc⟩
  obtain ⟨r, hr⟩ := hq x hx
  exact hr.2
/-- A cell that is a slice. -/
theorem open_cell {e b : TypeId} {n : Nat} {r : List Value} {y : DataW H × List MemPlace} (he : P.underlying e = some (.slice b)) (h : DataW.trod enc P W 0 (fun _ => true) true n e r = some y) :
    ∃ A len cap, r = [.slice A len cap] ∧ cap ≤ 9223372036854775807 ∧ DataW.Trod enc P W 0 (fun _ => true) true e (.slice A len cap) y.1 y.2 := by
  have hm : ∃ A len cap, r = [.slice A len cap] ∧ cap ≤ maxLen := by
    rcases DataW.trod_slice he h with ⟨hcs, _⟩ | ⟨x, l, c, _, _, _, _, hcs, _, _, _, hm, _⟩
    · exact ⟨none, 0, 0, hcs, by unfold maxLen; omega⟩
    · exact ⟨some x, l, c, hcs, hm⟩
  obtain ⟨A, len, cap, rfl, hm⟩ := hm
  exact ⟨A, len, cap, rfl, by unfold maxLen at hm; omega, n, by simpa [Value.cells] using h⟩
def okCo (c : List Ins) : Prop := c.length ≤ 9223372036854775807 ∧ ∀ o ∈ c, inI o
def okCa (c : Cl) : Prop := inW c.k ∧ c.ar.length ≤ 9223372036854775807 ∧ ∀ x ∈ c.ar, inW x
def okTh (t : List Cl) : Prop := t.length ≤ 9223372036854775807 ∧ ∀ c ∈ t, okCa c
/-- The codes. -/
theorem open_RCs {t e o i : TypeId} {f0 f1 f2 f3 f4 : Field} {a : Option Addr} {len cap : Nat} {d : DataW H} {p : List MemPlace} (ht : P.underlying t = some (.slice e)) (hce : P.cellsOf e = 1) (he : P.underlying e = some (.slice o)) (ho : P.underlying o = some (.struct #[f0, f1, f2, f3, f4])) (hco : P.cellsOf o = 5)
    (hi : P.underlying i = some (.int .i64)) (hci : P.cellsOf i = 1) (hf : [f0, f1, f2, f3, f4].map (fun f => (f.type, f.offset)) = [(i, 0), (i, 1), (i, 2), (i, 3), (i, 4)])
    (h : DataW.Trod enc P W 0 (fun _ => true) true t (.slice a len cap) d p) : ∃ ls, RCs W W.heap.size a len ls ∧ (∀ c ∈ ls, okCo c) ∧ len ≤ cap := by
  refine open_RG ht hce (by decide) (fun n r y hr hy => ?_) h
  obtain ⟨A, l, c, rfl, hm, hT⟩ := open_cell he hy
  obtain ⟨fs, h1, h2, h3, _⟩ := open_RO he ho hco hi hci hf hT
  exact ⟨fs, ⟨A, l, c, rfl, h3, h1⟩, by rw [h1.len]; omega, h2⟩
/-- The calls of a thread. -/
theorem open_RLs {t e v i : TypeId} {f0 f1 : Field} {a : Option Addr} {len cap : Nat} {d : DataW H} {p : List MemPlace} (ht : P.underlying t = some (.slice e)) (hce : P.cellsOf e = 2) (he : P.underlying e = some (.struct #[f0, f1]))
    (hi : P.underlying i = some (.int .i64)) (hci : P.cellsOf i = 1) (hv : P.underlying v = some (.slice i)) (hcv : P.cellsOf v = 1) (hf : (f0.type, f0.offset, f1.type, f1.offset) = (i, 0, v, 1))
    (h : DataW.Trod enc P W 0 (fun _ => true) true t (.slice a len cap) d p) : ∃ ls, RLs W W.heap.size a len ls ∧ (∀ c ∈ ls, okCa c) ∧ len ≤ cap := by
  simp only [Prod.mk.injEq] at hf
  obtain ⟨e0, o0, e1, o1⟩ := hf
  refine open_RG ht hce (by decide) (fun n r y hr hy => ?_) h
  obtain ⟨y0, y1, m, _, _, h0, h1⟩ := trod_struct2 he hy
  rw [e0, o0, hci] at h0
  rw [e1, o1, hcv] at h1
  obtain ⟨k, hk, _, wk⟩ := DataW.trod_int hi h0
  obtain ⟨A, l, c, hr1, hm, hT⟩ := open_cell hv h1
  obtain ⟨xs, h3, h4, h5, _⟩ := open_RI hv hi hci hT
  match r, hr with
  | [u0, u1], _ =>
    simp at hk hr1
    subst hk hr1
    exact ⟨⟨k, xs⟩, ⟨A, l, c, rfl, h5, h3⟩, bounds_i64 wk, by rw [h3.len]; omega, fun x hx => bounds_i64 (h4 x hx)⟩
/-- The threads. -/
theorem open_RTs {t u e v i : TypeId} {f0 f1 : Field} {a : Option Addr} {len cap : Nat} {d : DataW H} {p : List MemPlace} (ht : P.underlying t = some (.slice u)) (hcu : P.cellsOf u = 1) (hu : P.underlying u = some (.slice e)) (hce : P.cellsOf e = 2) (he : P.underlying e = some (.struct #[f0, f1]))
    (hi : P.underlying i = some (.int .i64)) (hci : P.cellsOf i = 1) (hv : P.underlying v = some (.slice i)) (hcv : P.cellsOf v = 1) (hf : (f0.type, f0.offset, f1.type, f1.offset) = (i, 0, v, 1))
    (h : DataW.Trod enc P W 0 (fun _ => true) true t (.slice a len cap) d p) : ∃ ls, RTs W W.heap.size a len ls ∧ (∀ c ∈ ls, okTh c) ∧ len ≤ cap := by
  refine open_RG ht hcu (by decide) (fun n r y hr hy => ?_) h
  obtain ⟨A, l, c, rfl, hm, hT⟩ := open_cell hu hy
  obtain ⟨ls, h1, h2, h3⟩ := open_RLs hu hce he hi hci hv hcv hf hT
  exact ⟨ls, ⟨A, l, c, rfl, h3, h1⟩, by rw [h1.len]; omega, h2⟩
/-- What is known of a machine that came in. -/
structure InM (W : World) (Aw : Option Addr) (nw cw : Nat) (Ac : Option Addr) (nc cc : Nat) (At : Option Addr) (nt ct : Nat) (m : Mc) : Prop where
  ws : RI W W.heap.size .i64 Aw nw m.ws
  cs : RCs W W.heap.size Ac nc m.cs
  ts : RTs W W.heap.size At nt m.ts
  wok : ∀ x ∈ m.ws, inW x
  cok : ∀ c ∈ m.cs, okCo c
  tok : ∀ t ∈ m.ts, okTh t
  lw : nw ≤ cw ∧ cw ≤ 9223372036854775807
  lc : nc ≤ cc ∧ cc ≤ 9223372036854775807
  lt : nt ≤ ct ∧ ct ≤ 9223372036854775807
theorem InM.below {W W' : World} {Aw : Option Addr} {nw cw : Nat} {Ac : Option Addr} {nc cc : Nat} {At : Option Addr} {nt ct : Nat} {m : Mc} (h : InM W Aw nw cw Ac nc cc At nt ct m) (hb : Below W.heap.size W W') : InM W' Aw nw cw Ac nc cc At nt ct m :=
  ⟨(h.ws.below hb).more hb.size, (h.cs.below hb).more hb.size, (h.ts.below hb).more hb.size, h.wok, h.cok, h.tok, h.lw, h.lc, h.lt⟩
theorem open_Mc {r : Reach} {b0 : Nat} {t tw tc te to tt tu tl i : TypeId} {f0 f1 f2 g0 g1 g2 g3 g4 k0 k1 : Field} {v : Value} {d : DataW H} {p : List MemPlace} (hs : P.underlying t = some (.struct #[f0, f1, f2])) (hone : Go.Deep.oneCellFields P #[f0, f1, f2] = true) (hC : P.cellsOf t = 3)
    (hf : (f0.type, f1.type, f2.type) = (tw, tc, tt)) (hi : P.underlying i = some (.int .i64)) (hci : P.cellsOf i = 1) (hw : P.underlying tw = some (.slice i)) (hcw : P.cellsOf tw = 1)
    (hc : P.underlying tc = some (.slice te)) (hce : P.cellsOf te = 1) (he : P.underlying te = some (.slice to)) (ho : P.underlying to = some (.struct #[g0, g1, g2, g3, g4])) (hco : P.cellsOf to = 5) (hg : [g0, g1, g2, g3, g4].map (fun f => (f.type, f.offset)) = [(i, 0), (i, 1), (i, 2), (i, 3), (i, 4)])
    (ht : P.underlying tt = some (.slice tu)) (hcu : P.cellsOf tu = 1) (hu : P.underlying tu = some (.slice tl)) (hcl : P.cellsOf tl = 2) (hl : P.underlying tl = some (.struct #[k0, k1])) (hk : (k0.type, k0.offset, k1.type, k1.offset) = (i, 0, tw, 1))
    (hv : Value.okWide P W r b0 t v) (h : DataW.Trod enc P W 0 (fun _ => true) true t v d p) :
    ∃ Aw nw cw Ac nc cc At nt ct m, v = .agg #[.slice Aw nw cw, .slice Ac nc cc, .slice At nt ct] ∧ InM W Aw nw cw Ac nc cc At nt ct m := by
  obtain ⟨v0, v1, v2, y0, y1, y2, n, rfl, _, _, h0, h1, h2⟩ := Go.Joins.open_agg3 hs hone hC hv h
  simp only [Prod.mk.injEq] at hf
  obtain ⟨e0, e1, e2⟩ := hf
  rw [e0] at h0
  rw [e1] at h1
  rw [e2] at h2
  obtain ⟨Aw, nw, cw, q0, m0, T0⟩ := open_cell hw h0
  obtain ⟨Ac, nc, cc, q1, m1, T1⟩ := open_cell hc h1
  obtain ⟨At, nt, ct, q2, m2, T2⟩ := open_cell ht h2
  simp only [List.cons.injEq, and_true] at q0 q1 q2
  subst q0 q1 q2
  obtain ⟨ws, a1, a2, a3, _⟩ := open_RI hw hi hci T0
  obtain ⟨cs, b1, b2, b3⟩ := open_RCs hc hce he ho hco hi hci hg T1
  obtain ⟨ts, c1, c2, c3⟩ := open_RTs ht hcu hu hcl hl hi hci hw hcw hk T2
  exact ⟨Aw, nw, cw, Ac, nc, cc, At, nt, ct, ⟨ws, cs, ts⟩, rfl, a1, b1, c1, fun x hx => bounds_i64 (a2 x hx), b2, c2, ⟨a3, m0⟩, ⟨b3, m1⟩, c3, m2⟩
end
end Go.Baro

set_option linter.unusedSimpArgs false
set_option linter.unusedVariables false
namespace Go.Baro
open Go.RowKit

section
variable {P : Program} {t e : TypeId} {z : Value} {s by' : Nat} {ops : Array Oper} {rest : List Oper} {o : Oper} {a : Act} {Q : Exit → Act → World → Prop}
/-- append(v, x..) where x is a row that was written out just ahead of it; which block the new row lies in. -/
theorem app_litB (E : Elt P t e z s by') (w : World) (hgd : o.guard = none) (l x : Operand) (ho : o.op = .call { callee := .builtin .append, args := #[l, x], argTypes := #[t, t] })
    (base : Nat) (v : Value) (n : Nat) (xs : List Value) (hs : a.eval l = v) (hown : w.ownsRow base e s v n xs) (m : Nat) (cs : List Value)
    (g : Nat) (hg : g = w.heap.size) (hx : a.eval x = .slice (some ⟨g, 0, none⟩) m m) (hl : cs.length = m * s) (h1 : ∀ u ∈ cs, u.oneCell' = true) (hn : (n + m) * by' ≤ 140737488355328) (hn' : n + m ≤ 140737488355328) (hb : base ≤ w.heap.size)
    (h : ∀ v' w', w'.ownsRow base e s v' (n + m) (xs ++ cs) → (w.alloc (.cells cs.toArray e)).grownBy w' v.ownBlock → (v'.ownBlock = v.ownBlock ∨ v'.ownBlock = some (w.heap.size + 1)) → wpList P ops Q rest (a.put o.dst v') w') :
    wpList P ops Q (o :: rest) a (w.alloc (.cells cs.toArray e)) := by
  subst hg
  refine app_srcB E (w.alloc (.cells cs.toArray e)) hgd l x ho base v n xs hs (hown.alloc _) _ m m cs hx _ (Rd.lit w e hl) h1 hn hn' (by simp; omega) ?_
  intro v' w' h1 h2 _ _ h3
  refine h v' w' h1 h2 ?_
  rw [show (w.alloc (.cells cs.toArray e)).heap.size = w.heap.size + 1 by simp] at h3
  exact h3
theorem app_litBd (E : Elt P t e z s by') (w : World) (hgd : o.guard = none) (l x : Operand) (ho : o.op = .call { callee := .builtin .append, args := #[l, x], argTypes := #[t, t] })
    (base : Nat) (v : Value) (n : Nat) (xs : List Value) (hs : a.eval l = v) (hown : w.ownsRow base e s v n xs) (m : Nat) (cs : List Value)
    (g : Nat) (hg : g = w.heap.size) (hx : a.eval x = .slice (some ⟨g, 0, none⟩) m m) (hl : cs.length = m * s) (h1 : ∀ u ∈ cs, u.oneCell' = true) (hn : (n + m) * by' ≤ 140737488355328) (hn' : n + m ≤ 140737488355328) (hb : base ≤ w.heap.size)
    (h : ∀ v' w', w'.ownsRow base e s v' (n + m) (xs ++ cs) → (w.alloc (.cells cs.toArray e)).grownBy w' v.ownBlock → (v'.ownBlock = v.ownBlock ∨ v'.ownBlock = some (w.heap.size + 1)) → wpList P ops Q rest (a.put o.dst v') w') :
    wpList P ops Q (o :: rest) a (w.alloc (.cells cs.toArray e)).drew :=
  app_litB E w.drew hgd l x ho base v n xs hs hown m cs g hg hx hl h1 hn hn' hb fun v' w' h1 h2 h3 => h v' w' h1 ⟨h2.os, h2.tape, h2.output, h2.size, h2.block⟩ h3
end

/-- The six cells of an event. -/
def evC (x : Ev) (v : Value) : List Value := [.int .i64 x.st, .int .i64 x.th, .int .i64 x.cl, .bool x.en, .int .i64 x.er, v]
/-- Six cells that are an event. -/
def eE (w : World) (B : Nat) (r : List Value) (x : Ev) : Prop := ∃ A n k, r = evC x (.slice A n k) ∧ n ≤ k ∧ n ≤ 200 ∧ RI w B .i64 A n x.to
def REv (w : World) (B : Nat) (A : Option Addr) (n : Nat) (ls : List Ev) : Prop := RG 6 eE w B A n ls
section
variable {w w' : World} {B B' n : Nat} {A : Option Addr} {ls : List Ev}
theorem eE.below {r : List Value} {x : Ev} (h : eE w B r x) (hb : Below B w w') : eE w' B r x := by obtain ⟨A, n, k, h1, h2, h3, h4⟩ := h; exact ⟨A, n, k, h1, h2, h3, h4.below hb⟩
theorem eE.more {r : List Value} {x : Ev} (h : eE w B r x) (hB : B ≤ B') : eE w B' r x := by obtain ⟨A, n, k, h1, h2, h3, h4⟩ := h; exact ⟨A, n, k, h1, h2, h3, h4.more hB⟩
theorem REv.below (h : REv w B A n ls) (hb : Below B w w') : REv w' B A n ls := RG.keep h rfl (fun _ h => h.below hb) (fun _ _ h => eE.below h hb)
theorem REv.more (h : REv w B A n ls) (hB : B ≤ B') : REv w B' A n ls := RG.keep h rfl (fun _ h => h.more hB) (fun _ _ h => eE.more h hB)
theorem REv.len (h : REv w B A n ls) : ls.length = n := RG.len h (by decide)
theorem REv.val (h : REv w B A n ls) {i : Nat} (hi : i < n) : ∃ b o A' n' k x, A = some ⟨b, o, none⟩ ∧ b < B ∧ w.cell? ⟨b, o + i * 6, none⟩ = some (.int .i64 x.st) ∧ w.cell? ⟨b, o + i * 6 + 1, none⟩ = some (.int .i64 x.th) ∧ w.cell? ⟨b, o + i * 6 + 2, none⟩ = some (.int .i64 x.cl) ∧
    w.cell? ⟨b, o + i * 6 + 3, none⟩ = some (.bool x.en) ∧ w.cell? ⟨b, o + i * 6 + 4, none⟩ = some (.int .i64 x.er) ∧ w.cell? ⟨b, o + i * 6 + 5, none⟩ = some (.slice A' n' k) ∧ n' ≤ k ∧ n' ≤ 200 ∧ RI w B .i64 A' n' x.to ∧ Hid (ls[i]? = some x) ∧ x ∈ ls := by
  obtain ⟨b, o, r, x, h1, h2, h3, ⟨A', n', k, rfl, h4, h5, h8⟩, h6, h7⟩ := RG.val h (by decide) hi
  exact ⟨b, o, A', n', k, x, h1, h2, h3 0 (by decide), h3 1 (by decide), h3 2 (by decide), h3 3 (by decide), h3 4 (by decide), h3 5 (by decide), h4, h5, h8, h6, h7⟩
theorem REv.nil (w : World) (B : Nat) : REv w B none 0 [] := ⟨[], rfl, by simp, ⟨by simp, fun h => absurd h (by omega)⟩, fun i r x h => by simp at h⟩
end
/-- An event of the call's own: what it tells lies in blocks of P. -/
def eP (P : Nat → Prop) (w : World) (r : List Value) (x : Ev) : Prop := ∃ A n k, r = evC x (.slice A n k) ∧ n ≤ k ∧ n ≤ 200 ∧ RI w w.heap.size .i64 A n x.to ∧ (0 < n → ∀ b o, A = some ⟨b, o, none⟩ → P b)
/-- The events so far: a row of the call's own. -/
def Er (P : Nat → Prop) (w : World) (B : Nat) (e : TypeId) (ov : Value) (ls : List Ev) : Prop :=
  ∃ rows : List (List Value), rows.length = ls.length ∧ (∀ r ∈ rows, r.length = 6) ∧ w.ownsRow B e 6 ov ls.length rows.flatten ∧ ∀ (i : Nat) r x, rows[i]? = some r → ls[i]? = some x → eP P w r x
section
variable {P X : Nat → Prop} {w w' : World} {B : Nat} {e : TypeId} {ov : Value} {ls : List Ev}
theorem eP.un {r : List Value} {x : Ev} (h : eP P w r x) (hu : Un X w w') (hP : ∀ b, P b → ¬ X b) : eP P w' r x := by
  obtain ⟨A, n, k, h1, h2, h3, h4, h5⟩ := h
  exact ⟨A, n, k, h1, h2, h3, Rd.more (Rd.un h4 hu (Nat.le_refl _) (fun h0 b o hA => hP b (h5 h0 b o hA))) hu.size, h5⟩
theorem Er.nil (P : Nat → Prop) (w : World) (B : Nat) (e : TypeId) : Er P w B e (.slice none 0 0) [] := ⟨[], rfl, by simp, World.ownsRow_nil _ _ _ _, fun i r x h => by simp at h⟩
theorem Er.un (h : Er P w B e ov ls) (hu : Un X w w') (ho : ∀ k, ov.ownBlock = some k → ¬ X k) (hP : ∀ b, P b → ¬ X b) : Er P w' B e ov ls := by
  obtain ⟨rows, h1, h2, h3, h4⟩ := h
  exact ⟨rows, h1, h2, own_un h3 hu ho, fun i r x hr hx => (h4 i r x hr hx).un hu hP⟩
theorem Er.mono {P' : Nat → Prop} (h : Er P w B e ov ls) (hP : ∀ b, b < w.heap.size → P b → P' b) : Er P' w B e ov ls := by
  obtain ⟨rows, h1, h2, h3, h4⟩ := h
  refine ⟨rows, h1, h2, h3, fun i r x hr hx => ?_⟩
  obtain ⟨A, n, k, q1, q2, q3, q4, q5⟩ := h4 i r x hr hx
  refine ⟨A, n, k, q1, q2, q3, q4, fun h0 b o hA => ?_⟩
  obtain ⟨b', o', hA', hb', _⟩ := Rd.at_ q4 h0
  rw [hA] at hA'
  injection hA' with hA'
  injection hA' with hA' _
  exact hP b (by omega) (q5 h0 b o hA)
/-- One more event. -/
theorem er_snoc {rows : List (List Value)} {r : List Value} {x : Ev} {v' : Value} {n : Nat} (h1 : rows.length = ls.length) (h2 : ∀ r ∈ rows, r.length = 6) (h4 : ∀ (i : Nat) r x, rows[i]? = some r → ls[i]? = some x → eP P w r x)
    (ho : w'.ownsRow B e 6 v' n (rows.flatten ++ r)) (hn : n = ls.length + 1) (hu : Un X w w') (hP : ∀ b, P b → ¬ X b) (hr : eP P w r x) : Er P w' B e v' (ls ++ [x]) := by
  have hr6 : r.length = 6 := by obtain ⟨A, n, k, rfl, _⟩ := hr; rfl
  refine ⟨rows ++ [r], by simp [h1], fun q hq => ?_, ?_, fun i q y hq hy => ?_⟩
  · rcases List.mem_append.1 hq with hq | hq
    · exact h2 q hq
    · rw [List.mem_singleton.1 hq]; exact hr6
  · rw [List.flatten_append, List.length_append, List.length_singleton, ← hn]
    simpa using ho
  · rcases Nat.lt_trichotomy i rows.length with hi | hi | hi
    · rw [List.getElem?_append_left hi] at hq
      rw [List.getElem?_append_left (by omega)] at hy
      exact (h4 i q y hq hy).un hu hP
    · rw [List.getElem?_append_right (by omega), show i - rows.length = 0 by omega] at hq
      rw [List.getElem?_append_right (by omega), show i - ls.length = 0 by omega] at hy
      injection hq with hq
      injection hy with hy
      subst hq hy
      exact hr.un hu hP
    · rw [List.getElem?_eq_none (by simp; omega)] at hq; cases hq
theorem Er.post (h : Er P w B e ov ls) : ∃ A c, ov = .slice A ls.length c ∧ ls.length ≤ c ∧ REv w w.heap.size A ls.length ls := by
  obtain ⟨rows, h1, h2, h3, h4⟩ := h
  obtain ⟨A, c, rfl, hlc⟩ := own_form h3
  refine ⟨A, c, rfl, hlc, rows, h1, h2, Rd.of_own h3, fun i r x hr hx => ?_⟩
  obtain ⟨A, n, k, q1, q2, q3, q4, _⟩ := h4 i r x hr hx
  exact ⟨A, n, k, q1, q2, q3, q4⟩
end
/-- What run.Play leaves. -/
def PlPost (T : List Ev) (W : List Int) (E : Int) (w : World) (e : Ending) (w' : World) : Prop :=
  ∃ A n c A1 n1 c1, e = .returned (.tuple #[.slice A n c, .slice A1 n1 c1, .int .i64 E]) ∧ REv w' w'.heap.size A n T ∧ RI w' w'.heap.size .i64 A1 n1 W ∧ n ≤ c ∧ n1 ≤ c1 ∧ n ≤ 12000 ∧ n1 ≤ 200 ∧ Below w.heap.size w w'
end Go.Baro

set_option linter.unusedSimpArgs false
set_option linter.unusedVariables false
namespace Go.Baro

def WOk (w : List Int) : Prop := w.length ≤ 200 ∧ ∀ x ∈ w, inW x
def LOk (l : Lv) : Prop := 0 ≤ l.p ∧ l.p ≤ l.c.length ∧ (∀ i, inW (l.r i)) ∧ (∀ x ∈ l.t, inW x) ∧ l.t.length ≤ 200
theorem ok_of {l : Lv} {w : List Int} (hl : LOk l) (hw : WOk w) : Ok l.c.length ⟨l.p, l.r, w, l.t⟩ := ⟨hl.1, hl.2.1, hl.2.2.1, hw.2, hw.1, hl.2.2.2.1, hl.2.2.2.2⟩
theorem live_ok {c : List Ins} {ar : List Int} (h : ∀ x ∈ ar, inW x) : LOk (live c ar) := by
  have := st0_ok (n := c.length) (args := ar) (words := []) h (by simp) (by simp)
  exact ⟨this.lo, this.hi, this.r, this.t, this.tl⟩
/-- An instruction of a thread within its call. -/
theorem exc_ok {l : Lv} {w : List Int} (hc : okC l.c) (hi : ∀ o ∈ l.c, inI o) (hl : LOk l) (hw : WOk w) :
    WOk (exc l w).2.1 ∧ LOk (exc l w).1 ∧ (exc l w).1.c = l.c ∧ ((exc l w).2.2.2 = false → (exc l w).1.p < l.c.length) := by
  unfold exc
  by_cases hp : l.p = l.c.length
  · rw [if_pos hp]; exact ⟨hw, hl, rfl, fun h => by cases h⟩
  · rw [if_neg hp]
    have hlt : l.p < l.c.length := by have := hl.2.1; omega
    have hlo := hl.1
    have hn : l.p.toNat < l.c.length := by omega
    rw [List.getElem?_eq_getElem hn, Option.getD_some]
    have hm := List.getElem_mem hn
    have hk := stp_ok (hc.2 _ hm) (hi _ hm) (ok_of hl hw) hlt
    refine ⟨⟨hk.wl, hk.w⟩, ⟨hk.lo, hk.hi, hk.r, hk.t, hk.tl⟩, rfl, fun h => ?_⟩
    have := hk.hi
    simp only [decide_eq_false_iff_not, not_or, Decidable.not_not] at h
    dsimp only
    omega
/-- A thread within a call that has not ended, and what its next instruction gives. -/
theorem exc_stp {l : Lv} {w : List Int} {o : Ins} {s' : Vs} {E : Int} (hp : l.p < l.c.length) (ho : l.c[l.p.toNat]? = some o) (hs : stp l.c.length o ⟨l.p, l.r, w, l.t⟩ = (s', E)) :
    exc l w = (⟨l.c, s'.p, s'.r, s'.t⟩, s'.w, E, decide (E ≠ 0 ∨ s'.p = l.c.length)) := by
  unfold exc
  rw [if_neg (by omega), ho, Option.getD_some, hs]
theorem exc_none {l : Lv} {w : List Int} (hp : l.p = l.c.length) : exc l w = (l, w, 0, true) := by unfold exc; rw [if_pos hp]
/-- What holds of a run at step st. -/
structure GOk (m : Mc) (st : Nat) (g : Gs) : Prop where
  w : WOk g.w
  th : ∀ i l, (g.th i).now = some l → l.c ∈ m.cs ∧ LOk l ∧ l.p < l.c.length
  bg : ∀ i, (g.th i).bg ≤ (m.ts[i]?.getD []).length
  ps : ∀ i l, (g.th i).now = some l → 1 ≤ (g.th i).bg
  out : g.out.length ≤ 2 * st
theorem actL_ok {m : Mc} {g : Gs} {st n bg : Nat} {l : Lv} {o : List Ev} (hcs : ∀ c ∈ m.cs, okC c ∧ ∀ o ∈ c, inI o) (h : GOk m st g) (hl : LOk l) (hc : l.c ∈ m.cs) (h1 : 1 ≤ bg) (h2 : bg ≤ (m.ts[n]?.getD []).length) (ho : o.length ≤ 2 * st + 1) : GOk m (st + 1) (actL g st n bg l o) := by
  obtain ⟨e1, e2, e3, e4⟩ := exc_ok (hcs _ hc).1 (hcs _ hc).2 hl h.w
  unfold actL
  dsimp only
  by_cases hq : (exc l g.w).2.2.2 = true
  · rw [if_pos hq]
    refine ⟨e1, fun i k hk => ?_, fun i => ?_, fun i k hk => ?_, by simp; omega⟩
    · by_cases hi : i = n
      · simp [putT, hi] at hk
      · simp only [putT, if_neg hi] at hk; exact h.th i k hk
    · by_cases hi : i = n
      · subst hi; simp [putT]; exact h2
      · simp only [putT, if_neg hi]; exact h.bg i
    · by_cases hi : i = n
      · simp [putT, hi] at hk
      · simp only [putT, if_neg hi] at hk ⊢; exact h.ps i k hk
  · rw [if_neg hq]
    refine ⟨e1, fun i k hk => ?_, fun i => ?_, fun i k hk => ?_, by dsimp only; omega⟩
    · by_cases hi : i = n
      · simp [putT, hi] at hk
        subst hk
        rw [e3]
        exact ⟨hc, e2, e4 (by simpa using hq)⟩
      · simp only [putT, if_neg hi] at hk; exact h.th i k hk
    · by_cases hi : i = n
      · subst hi; simp [putT]; exact h2
      · simp only [putT, if_neg hi]; exact h.bg i
    · by_cases hi : i = n
      · simp [putT, hi]; exact h1
      · simp only [putT, if_neg hi] at hk ⊢; exact h.ps i k hk
/-- The call that a thread begins. -/
theorem call_at {m : Mc} (hm : okMc m) {n i : Nat} {c : Cl} (hc : (m.ts[n]?.getD [])[i]? = some c) : okCl m c ∧ m.cs[c.k.toNat]?.getD [] ∈ m.cs := by
  cases ht : m.ts[n]? with
  | none => rw [ht] at hc; simp at hc
  | some t =>
    rw [ht] at hc
    have hk := (hm.2.2.2.2 t (List.mem_of_getElem? ht)).2 c (List.mem_of_getElem? hc)
    refine ⟨hk, ?_⟩
    have hlt : c.k.toNat < m.cs.length := by have := hk.1; omega
    rw [List.getElem?_eq_getElem hlt]
    exact List.getElem_mem hlt
theorem actG_ok {m : Mc} {g : Gs} {st n : Nat} (hm : okMc m) (hcs : ∀ c ∈ m.cs, okC c ∧ ∀ o ∈ c, inI o) (hts : ∀ t ∈ m.ts, ∀ c ∈ t, ∀ x ∈ c.ar, inW x) (h : GOk m st g) : GOk m (st + 1) (actG m g st n) := by
  unfold actG
  cases hn : (g.th n).now with
  | some l =>
    obtain ⟨h1, h2, h3⟩ := h.th n l hn
    exact actL_ok hcs h h2 h1 (h.ps n l hn) (h.bg n) (by have := h.out; omega)
  | none =>
    dsimp only
    cases hc : (m.ts[n]?.getD [])[(g.th n).bg]? with
    | none => exact ⟨h.w, h.th, h.bg, h.ps, by have := h.out; show g.out.length ≤ _; omega⟩
    | some c =>
      have hlt : (g.th n).bg < (m.ts[n]?.getD []).length := (List.getElem?_eq_some_iff.1 hc).1
      have har : ∀ x ∈ c.ar, inW x := by
        cases ht : m.ts[n]? with
        | none => rw [ht] at hc; simp at hc
        | some t => rw [ht] at hc; exact hts t (List.mem_of_getElem? ht) c (List.mem_of_getElem? hc)
      exact actL_ok hcs h (live_ok har) (call_at hm hc).2 (by omega) (by omega) (by have := h.out; simp; omega)
theorem g0_ok {m : Mc} (hm : okMc m) (hw : ∀ x ∈ m.ws, inW x) : GOk m 0 (g0 m) :=
  ⟨⟨hm.1, hw⟩, fun _ _ h => (by cases h), fun _ => Nat.zero_le _, fun _ _ h => (by cases h), Nat.le_refl _⟩
theorem plyG_snoc (m : Mc) (l : List Nat) (n : Nat) (g : Gs) : plyG m 0 (l ++ [n]) g = actG m (plyG m 0 l g) l.length n := by
  rw [plyG_append]
  show actG m _ (0 + l.length) n = _
  rw [Nat.zero_add]
theorem plyG_ok {m : Mc} (hm : okMc m) (hcs : ∀ c ∈ m.cs, okC c ∧ ∀ o ∈ c, inI o) (hts : ∀ t ∈ m.ts, ∀ c ∈ t, ∀ x ∈ c.ar, inW x) (hw : ∀ x ∈ m.ws, inW x) : ∀ (k : Nat) (l : List Nat), l.length = k → GOk m k (plyG m 0 l (g0 m))
  | 0, l, hl => by rw [List.eq_nil_of_length_eq_zero hl]; exact g0_ok hm hw
  | k + 1, l, hl => by
    have hne : l ≠ [] := fun h => by rw [h] at hl; cases hl
    rw [← List.dropLast_concat_getLast hne, plyG_snoc]
    have h1 : l.dropLast.length = k := by simp [hl]
    rw [h1]
    exact actG_ok hm hcs hts (plyG_ok hm hcs hts hw k _ h1)

/-- What run.Play answers: events, words, an error. -/
def PlR (m : Mc) (s : List Int) (T : List Ev) (W : List Int) (E : Int) : Prop :=
  (¬ okMc m ∧ T = [] ∧ W = [] ∧ E = 4) ∨ (okMc m ∧ 6000 < s.length ∧ T = [] ∧ W = [] ∧ E = 1) ∨ (okMc m ∧ s.length ≤ 6000 ∧ (∃ x ∈ s, x < 0 ∨ (m.ts.length : Int) ≤ x) ∧ T = [] ∧ W = [] ∧ E = 2) ∨
  (okMc m ∧ s.length ≤ 6000 ∧ (∀ x ∈ s, 0 ≤ x ∧ x < m.ts.length) ∧ T = (plyG m 0 (s.map Int.toNat) (g0 m)).out ∧ W = (plyG m 0 (s.map Int.toNat) (g0 m)).w ∧ E = 0)
theorem plR_some (m : Mc) (s : List Int) : ∃ T W E, PlR m s T W E := by
  by_cases h1 : okMc m
  · by_cases h2 : 6000 < s.length
    · exact ⟨[], [], 1, .inr (.inl ⟨h1, h2, rfl, rfl, rfl⟩)⟩
    · by_cases h3 : ∃ x ∈ s, x < 0 ∨ (m.ts.length : Int) ≤ x
      · exact ⟨[], [], 2, .inr (.inr (.inl ⟨h1, by omega, h3, rfl, rfl, rfl⟩))⟩
      · refine ⟨_, _, 0, .inr (.inr (.inr ⟨h1, by omega, fun x hx => ?_, rfl, rfl, rfl⟩))⟩
        by_cases h4 : 0 ≤ x ∧ x < m.ts.length
        · exact h4
        · exact absurd ⟨x, hx, by omega⟩ h3
  · exact ⟨[], [], 4, .inl ⟨h1, rfl, rfl, rfl⟩⟩
end Go.Baro

set_option linter.unusedSimpArgs false
set_option linter.unusedVariables false
namespace Go.Proofs.YtnchgdjdfhfedaaDoor
open Go.RowKit Go.Ord Go.Baro

/-- run.May, of a machine in memory. -/
def MaySpec : Prop := ∀ (w : World) (hT : Tab w) (Aw : Option Addr) (nw cw : Nat) (Ac : Option Addr) (nc cc : Nat) (At : Option Addr) (nt ct : Nat) (m : Mc) (r : Bool) (hm : InM w Aw nw cw Ac nc cc At nt ct m) (hr : r = true ↔ okMc m),
    Calls Tryd.prog 15 #[.agg #[.slice Aw nw cw, .slice Ac nc cc, .slice At nt ct]] w fun e w' => e = .returned (.bool r) ∧ Below w.heap.size w w'
/-- run.Play, of a machine and a schedule in memory. -/
def PlaySpec : Prop := ∀ (w : World) (hT : Tab w) (Aw : Option Addr) (nw cw : Nat) (Ac : Option Addr) (nc cc : Nat) (At : Option Addr) (nt ct : Nat) (m : Mc) (As : Option Addr) (ns cs : Nat) (s : List Int) (T : List Ev) (W : List Int) (E : Int) (hm : InM w Aw nw cw Ac nc cc At nt ct m)
    (hs : RI w w.heap.size .i64 As ns s) (hn : ns ≤ 140737488355328) (hR : PlR m s T W E), Calls Tryd.prog 22 #[.agg #[.slice Aw nw cw, .slice Ac nc cc, .slice At nt ct], .slice As ns cs] w (PlPost T W E w)
end Go.Proofs.YtnchgdjdfhfedaaDoor
