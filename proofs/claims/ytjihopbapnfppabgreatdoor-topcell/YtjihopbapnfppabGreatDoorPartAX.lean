/- Of this claim's own texts these, one behind the other: Ord5, RefLin2, LinSt2, RefLin3. No statement of the seat is proved here; no condition but those that stand at the theorems. -/
import Derived.Test.YtjihopbapnfppabGreatDoorPartAB
import Derived.Test.YtjihopbapnfppabGreatDoorPartAW
import Derived.Test.YtjihopbapnfppabGreatDoorPartAE
set_option linter.unusedSimpArgs false
set_option linter.unusedVariables false
namespace Go.Ord
section
variable {P : Program} {md : Region.Mode} {ops : Array Oper} {Q : Exit → Act → World → Prop}

theorem cnt_lt : ∀ (l : List Nat) (p q : Nat → Bool), (∀ x ∈ l, q x = true → p x = true) → (∃ x ∈ l, p x = true ∧ q x = false) → (l.filter q).length < (l.filter p).length
  | [], p, q, _, h => by obtain ⟨x, hx, _⟩ := h; cases hx
  | y :: l, p, q, h1, h2 => by
    have hle : (l.filter q).length ≤ (l.filter p).length := by
      clear h2
      induction l with
      | nil => simp
      | cons x l ih =>
        have ih := ih (fun x hx => h1 x (by simp only [List.mem_cons] at hx ⊢; rcases hx with hx | hx; exact .inl hx; exact .inr (.inr hx)))
        have hx := h1 x (by simp)
        cases hq : q x with
        | true => rw [List.filter_cons, List.filter_cons, hq, hx hq]; simpa using ih
        | false => cases hp : p x <;> rw [List.filter_cons, List.filter_cons, hq, hp] <;> simp <;> omega
    obtain ⟨x, hx, hp, hq⟩ := h2
    rcases List.mem_cons.1 hx with rfl | hx
    · rw [List.filter_cons, List.filter_cons, hp, hq]; simp; omega
    · have ih := cnt_lt l p q (fun x hx => h1 x (by simp [hx])) ⟨x, hx, hp, hq⟩
      have hy := h1 y (by simp)
      cases hq : q y with
      | true => rw [List.filter_cons, List.filter_cons, hq, hy hq]; simpa using ih
      | false => cases hp : p y <;> rw [List.filter_cons, List.filter_cons, hq, hp] <;> simp <;> omega
theorem getD_any {i : Nat} {listed : Array Bool} (hs : listed.size = ops.size) (hi : i < ops.size) : listed.getD i true = listed.getD i false := by
  simp [Array.getD_eq_getD_getElem?, hs, hi]
/-- How many have not come up. -/
def unl (ops : Array Oper) (listed : Array Bool) : Nat := ((List.range ops.size).filter fun i => !listed.getD i false).length
theorem unl_set {i : Nat} {listed : Array Bool} (hi : i < ops.size) (hs : listed.size = ops.size) (h : listed.getD i false = false) : unl ops (listed.setIfInBounds i true) < unl ops listed := by
  refine cnt_lt _ _ _ (fun x _ hx => ?_) ⟨i, List.mem_range.2 hi, by simp [h], ?_⟩
  · by_cases hxi : i = x
    · subst hxi; simp [h]
    · rw [getD_set_ne false hxi] at hx; exact hx
  · simp [Array.getD_eq_getD_getElem?, hs, hi]
theorem wpAny_many {F : Nat → Act → World → Prop} {G : Act → World → Prop} (z : Nat) (hz : ops.size = z + 1) (hpre : ∀ i, i < ops.size → ∀ p ∈ preds md ops i, p < i) (hanc : ∀ k, k < z → k ∈ ancs md ops 12 (preds md ops z))
    (hop : ∀ i, i < z → ∀ o, ops[i]? = some o → ∀ a w, G a w → (∀ p ∈ preds md ops i, F p a w) → wpList P ops (fun e a' w' => e = .normal ∧ G a' w' ∧ F i a' w' ∧ ∀ k, k < z → k ≠ i → F k a w → F k a' w') [o] a w)
    (hend : ∀ o, ops[z]? = some o → ∀ a w, G a w → (∀ k, k < z → F k a w) → wpList P ops (fun e a' w' => e = .normal ∧ Q .normal a' w') [o] a w) :
    ∀ (f : Nat) (listed : Array Bool) (a : Act) (w : World), Closed md ops listed → listed.size = ops.size → unl ops listed ≤ f → (listed.getD z false = false → G a w ∧ ∀ k, k < z → listed.getD k false = true → F k a w) →
      (listed.getD z false = true → Q .normal a w) → wpAny P md ops (Only Q) f listed a w := by
  have hall : ∀ (listed : Array Bool), listed.size = ops.size → Region.ready md ops listed = [] → ∀ i, i < ops.size → listed.getD i false = true := by
    intro listed hs hr i
    induction i using Nat.strongRecOn with
    | _ i ih =>
      intro hi
      cases hl : listed.getD i false with
      | true => rfl
      | false =>
        exfalso
        have ho : ops[i]? = some ops[i] := Array.getElem?_eq_getElem hi
        have : i ∈ Region.ready md ops listed := by
          refine mem_ready.2 ⟨(getD_any hs hi).trans hl, ops[i], ho, fun e he hb => ?_⟩
          have hp : e.on ∈ preds md ops i := by
            unfold preds
            refine List.mem_map.2 ⟨e, List.mem_filter.2 ⟨?_, hb⟩, rfl⟩
            rw [getD_of ho]
            simpa using he
          have hlt := hpre i hi _ hp
          exact ih _ hlt (by omega)
        rw [hr] at this
        cases this
  intro f
  induction f with
  | zero =>
    intro listed a w hc hs hu h1 h2
    have he : ∀ i, i < ops.size → listed.getD i false = true := by
      intro i hi
      cases hl : listed.getD i false with
      | true => rfl
      | false =>
        have := unl_set hi hs hl
        omega
    refine ⟨?_, rfl, h2 (he z (by omega))⟩
    cases hr : Region.ready md ops listed with
    | nil => rfl
    | cons i r =>
      exfalso
      have hi : i ∈ Region.ready md ops listed := by rw [hr]; simp
      obtain ⟨hn, o, ho, _⟩ := mem_ready.1 hi
      have h3 := (Array.getElem?_eq_some_iff.1 ho).1
      have := he i h3
      rw [getD_any hs h3, this] at hn
      cases hn
  | succ f ih =>
    intro listed a w hc hs hu h1 h2
    refine ⟨fun hr => ⟨rfl, h2 (hall listed hs hr z (by omega))⟩, fun i hi => ?_⟩
    have hi' := hi
    obtain ⟨hn, o, ho, _⟩ := mem_ready.1 hi
    have hlt : i < ops.size := (Array.getElem?_eq_some_iff.1 ho).1
    have hn' : listed.getD i false = false := (getD_any hs hlt).symm.trans hn
    have hset : ∀ k, k ≠ i → (listed.setIfInBounds i true).getD k false = listed.getD k false := fun k hk => getD_set_ne false (Ne.symm hk)
    have hsi : (listed.setIfInBounds i true).getD i false = true := by simp [Array.getD_eq_getD_getElem?, hs, hlt]
    have hun := unl_set hlt hs hn'
    by_cases hiz : i = z
    · subst hiz
      obtain ⟨hG, hF⟩ := h1 hn'
      have hk : ∀ k, k < i → F k a w := fun k hk => hF k hk (ancs_listed hc 12 _ (ready_preds hi) k (hanc k hk))
      refine wpOp_one ho (wpList_mono' (fun e a' w' hq => ⟨hq.1, ?_⟩) _ _ _ (hend o ho a w hG hk))
      exact ih _ a' w' (hc.set hi) (by simpa using hs) (by omega) (fun h => by rw [hsi] at h; cases h) (fun _ => hq.2)
    · have hiz2 : i < z := by omega
      have hzn : listed.getD z false = false := by
        cases hl : listed.getD z false with
        | false => rfl
        | true =>
          have := ancs_listed hc 12 _ (fun p hp => hc z hl p hp) i (hanc i hiz2)
          rw [hn'] at this
          cases this
      obtain ⟨hG, hF⟩ := h1 hzn
      have hpz : ∀ p ∈ preds md ops i, F p a w := fun p hp => hF p (by have := hpre i hlt p hp; omega) (ready_preds hi p hp)
      refine wpOp_one ho (wpList_mono' (fun e a' w' hq => ⟨hq.1, ?_⟩) _ _ _ (hop i hiz2 o ho a w hG hpz))
      obtain ⟨_, q1, q2, q3⟩ := hq
      refine ih _ a' w' (hc.set hi) (by simpa using hs) (by omega) (fun _ => ⟨q1, fun k hk hl => ?_⟩) (fun h => ?_)
      · by_cases hki : k = i
        · subst hki; exact q2
        · rw [hset k hki] at hl; exact q3 k hk hki (hF k hk hl)
      · rw [hset z (fun h => hiz h.symm)] at h
        rw [hzn] at h
        cases h
/-- i has come up, too. -/
def markL (L : Nat → Bool) (i : Nat) : Nat → Bool := fun k => if k = i then true else L k
theorem markL_self (L : Nat → Bool) (i : Nat) : markL L i i = true := by simp [markL]
theorem markL_ne (L : Nat → Bool) {i k : Nat} (h : k ≠ i) : markL L i k = L k := by simp [markL, h]
theorem markL_false {L : Nat → Bool} {i k : Nat} (h : markL L i k = false) : L k = false := by
  unfold markL at h
  split at h
  · cases h
  · exact h
theorem wpAny_manyL {G : (Nat → Bool) → Act → World → Prop} (z : Nat) (hz : ops.size = z + 1) (hpre : ∀ i, i < ops.size → ∀ p ∈ preds md ops i, p < i) (hanc : ∀ k, k < z → k ∈ ancs md ops 12 (preds md ops z))
    (hop : ∀ i, i < z → ∀ o, ops[i]? = some o → ∀ L a w, L i = false → (∀ k, L k = true → ∀ p ∈ preds md ops k, L p = true) → (∀ p ∈ preds md ops i, L p = true) → G L a w → wpList P ops (fun e a' w' => e = .normal ∧ G (markL L i) a' w') [o] a w)
    (hend : ∀ o, ops[z]? = some o → ∀ L a w, (∀ k, k < z → L k = true) → G L a w → wpList P ops (fun e a' w' => e = .normal ∧ Q .normal a' w') [o] a w) :
    ∀ (f : Nat) (listed : Array Bool) (a : Act) (w : World), Closed md ops listed → listed.size = ops.size → unl ops listed ≤ f → (listed.getD z false = false → G (fun k => listed.getD k false) a w) →
      (listed.getD z false = true → Q .normal a w) → wpAny P md ops (Only Q) f listed a w := by
  have hall : ∀ (listed : Array Bool), listed.size = ops.size → Region.ready md ops listed = [] → ∀ i, i < ops.size → listed.getD i false = true := by
    intro listed hs hr i
    induction i using Nat.strongRecOn with
    | _ i ih =>
      intro hi
      cases hl : listed.getD i false with
      | true => rfl
      | false =>
        exfalso
        have ho : ops[i]? = some ops[i] := Array.getElem?_eq_getElem hi
        have : i ∈ Region.ready md ops listed := by
          refine mem_ready.2 ⟨(getD_any hs hi).trans hl, ops[i], ho, fun e he hb => ?_⟩
          have hp : e.on ∈ preds md ops i := by
            unfold preds
            refine List.mem_map.2 ⟨e, List.mem_filter.2 ⟨?_, hb⟩, rfl⟩
            rw [getD_of ho]
            simpa using he
          have hlt := hpre i hi _ hp
          exact ih _ hlt (by omega)
        rw [hr] at this
        cases this
  intro f
  induction f with
  | zero =>
    intro listed a w hc hs hu h1 h2
    have he : ∀ i, i < ops.size → listed.getD i false = true := by
      intro i hi
      cases hl : listed.getD i false with
      | true => rfl
      | false =>
        have := unl_set hi hs hl
        omega
    refine ⟨?_, rfl, h2 (he z (by omega))⟩
    cases hr : Region.ready md ops listed with
    | nil => rfl
    | cons i r =>
      exfalso
      have hi : i ∈ Region.ready md ops listed := by rw [hr]; simp
      obtain ⟨hn, o, ho, _⟩ := mem_ready.1 hi
      have h3 := (Array.getElem?_eq_some_iff.1 ho).1
      have := he i h3
      rw [getD_any hs h3, this] at hn
      cases hn
  | succ f ih =>
    intro listed a w hc hs hu h1 h2
    refine ⟨fun hr => ⟨rfl, h2 (hall listed hs hr z (by omega))⟩, fun i hi => ?_⟩
    have hi' := hi
    obtain ⟨hn, o, ho, _⟩ := mem_ready.1 hi
    have hlt : i < ops.size := (Array.getElem?_eq_some_iff.1 ho).1
    have hn' : listed.getD i false = false := (getD_any hs hlt).symm.trans hn
    have hset : ∀ k, k ≠ i → (listed.setIfInBounds i true).getD k false = listed.getD k false := fun k hk => getD_set_ne false (Ne.symm hk)
    have hsi : (listed.setIfInBounds i true).getD i false = true := by simp [Array.getD_eq_getD_getElem?, hs, hlt]
    have hun := unl_set hlt hs hn'
    by_cases hiz : i = z
    · subst hiz
      have hk : ∀ k, k < i → listed.getD k false = true := fun k hk => ancs_listed hc 12 _ (ready_preds hi) k (hanc k hk)
      refine wpOp_one ho (wpList_mono' (fun e a' w' hq => ⟨hq.1, ?_⟩) _ _ _ (hend o ho _ a w hk (h1 hn')))
      exact ih _ a' w' (hc.set hi) (by simpa using hs) (by omega) (fun h => by rw [hsi] at h; cases h) (fun _ => hq.2)
    · have hiz2 : i < z := by omega
      have hzn : listed.getD z false = false := by
        cases hl : listed.getD z false with
        | false => rfl
        | true =>
          have := ancs_listed hc 12 _ (fun p hp => hc z hl p hp) i (hanc i hiz2)
          rw [hn'] at this
          cases this
      have he : markL (fun k => listed.getD k false) i = fun k => (listed.setIfInBounds i true).getD k false := by
        funext k
        by_cases hki : k = i
        · subst hki; rw [markL_self, hsi]
        · rw [markL_ne _ hki, hset k hki]
      refine wpOp_one ho (wpList_mono' (fun e a' w' hq => ⟨hq.1, ?_⟩) _ _ _ (hop i hiz2 o ho _ a w hn' (fun k hk p hp => hc k hk p hp) (fun p hp => ready_preds hi p hp) (h1 hzn)))
      refine ih _ a' w' (hc.set hi) (by simpa using hs) (by omega) (fun _ => he ▸ hq.2) (fun h => ?_)
      rw [hset z (fun h => hiz h.symm)] at h
      rw [hzn] at h
      cases h
end
section
variable {P : Program} {l : List Oper} {Q : Exit → Act → World → Prop}
/-- A region of operations of which the last waits for all the others; these may come up in any order, and each leaves what the others have left. -/
theorem region_many {id : Nat} {a : Act} {w : World} {F : Nat → Act → World → Prop} {G : Act → World → Prop} (z : Nat) (hm : P.follows .mixedOrders = true)
    (hB : (decide (l.length = z + 1) && (List.range l.length).all (fun i => (preds .any l.toArray i).all fun p => decide (p < i)) && (List.range z).all (fun k => (ancs .any l.toArray 12 (preds .any l.toArray z)).contains k)) = true)
    (h0 : G a w.drew)
    (hop : ∀ i, i < z → ∀ a w, G a w → (∀ p ∈ preds .any l.toArray i, F p a w) → wpList P l.toArray (fun e a' w' => e = .normal ∧ G a' w' ∧ F i a' w' ∧ ∀ k, k < z → k ≠ i → F k a w → F k a' w') (pick l [i]) a w)
    (hend : ∀ a w, G a w → (∀ k, k < z → F k a w) → wpList P l.toArray (fun e a' w' => e = .normal ∧ Q .normal a' w') (pick l [z]) a w) : (Code.region id l.toArray true).wp P Q a w := by
  simp only [Bool.and_eq_true, decide_eq_true_eq] at hB
  obtain ⟨⟨hlen, hpre⟩, hanc⟩ := hB
  have hpk : ∀ i o, l.toArray[i]? = some o → pick l [i] = [o] := by
    intro i o ho
    have : l[i]? = some o := by simpa using ho
    simp [pick, List.getD_eq_getElem?_getD, this]
  refine Code.wp_mono (Q := Only Q) (fun e a w ⟨he, hq⟩ => by subst he; exact hq) (wp_region_any hm ?_)
  refine wpAny_many (F := F) (G := G) z (by simpa using hlen) (fun i hi p hp => ?_) (fun k hk => ?_) (fun i hi o ho a w hG hF => ?_) (fun o ho a w hG hF => ?_) _ _ a w.drew (fun k hk => ?_) (by simp) ?_ (fun _ => ⟨h0, fun k hk hl => ?_⟩) (fun h => ?_)
  · have := List.all_eq_true.1 hpre i (List.mem_range.2 (by simpa using hi))
    have := List.all_eq_true.1 this p hp
    simpa using this
  · have := List.all_eq_true.1 hanc k (List.mem_range.2 hk)
    simpa using this
  · have := hop i hi a w hG hF
    rw [hpk i o ho] at this
    exact this
  · have := hend a w hG hF
    rw [hpk z o ho] at this
    exact this
  · simp [Array.getD_eq_getD_getElem?, Array.getElem?_replicate] at hk; split at hk <;> simp at hk
  · unfold unl
    refine Nat.le_trans (List.length_filter_le _ _) (by simp)
  · simp [Array.getD_eq_getD_getElem?, Array.getElem?_replicate] at hl; split at hl <;> simp at hl
  · simp [Array.getD_eq_getD_getElem?, Array.getElem?_replicate] at h; split at h <;> simp at h
/-- The same, where the invariant knows what has come up. -/
theorem region_manyL {id : Nat} {a : Act} {w : World} {G : (Nat → Bool) → Act → World → Prop} (z : Nat) (hm : P.follows .mixedOrders = true)
    (hB : (decide (l.length = z + 1) && (List.range l.length).all (fun i => (preds .any l.toArray i).all fun p => decide (p < i)) && (List.range z).all (fun k => (ancs .any l.toArray 12 (preds .any l.toArray z)).contains k)) = true)
    (h0 : G (fun _ => false) a w.drew)
    (hop : ∀ i, i < z → ∀ L a w, L i = false → (∀ k, L k = true → ∀ p ∈ preds .any l.toArray k, L p = true) → (∀ p ∈ preds .any l.toArray i, L p = true) → G L a w → wpList P l.toArray (fun e a' w' => e = .normal ∧ G (markL L i) a' w') (pick l [i]) a w)
    (hend : ∀ L a w, (∀ k, k < z → L k = true) → G L a w → wpList P l.toArray (fun e a' w' => e = .normal ∧ Q .normal a' w') (pick l [z]) a w) : (Code.region id l.toArray true).wp P Q a w := by
  simp only [Bool.and_eq_true, decide_eq_true_eq] at hB
  obtain ⟨⟨hlen, hpre⟩, hanc⟩ := hB
  have hpk : ∀ i o, l.toArray[i]? = some o → pick l [i] = [o] := by
    intro i o ho
    have : l[i]? = some o := by simpa using ho
    simp [pick, List.getD_eq_getElem?_getD, this]
  have hL0 : (fun k => (Array.replicate l.toArray.size false).getD k false) = fun _ => false := by
    funext k
    simp [Array.getD_eq_getD_getElem?, Array.getElem?_replicate]
    split <;> rfl
  refine Code.wp_mono (Q := Only Q) (fun e a w ⟨he, hq⟩ => by subst he; exact hq) (wp_region_any hm ?_)
  refine wpAny_manyL (G := G) z (by simpa using hlen) (fun i hi p hp => ?_) (fun k hk => ?_) (fun i hi o ho L a w h1 h2 h3 hG => ?_) (fun o ho L a w hF hG => ?_) _ _ a w.drew (fun k hk => ?_) (by simp) ?_ (fun _ => by rw [hL0]; exact h0) (fun h => ?_)
  · have := List.all_eq_true.1 hpre i (List.mem_range.2 (by simpa using hi))
    have := List.all_eq_true.1 this p hp
    simpa using this
  · have := List.all_eq_true.1 hanc k (List.mem_range.2 hk)
    simpa using this
  · have := hop i hi L a w h1 h2 h3 hG
    rw [hpk i o ho] at this
    exact this
  · have := hend L a w hF hG
    rw [hpk z o ho] at this
    exact this
  · simp [Array.getD_eq_getD_getElem?, Array.getElem?_replicate] at hk; split at hk <;> simp at hk
  · unfold unl
    refine Nat.le_trans (List.length_filter_le _ _) (by simp)
  · simp [Array.getD_eq_getD_getElem?, Array.getElem?_replicate] at h; split at h <;> simp at h
end
end Go.Ord

set_option linter.unusedSimpArgs false
set_option linter.unusedVariables false
namespace Go.Proofs.YtjihopbapnfppabGreatDoor
open Go.RowKit Go.Ord Go.Baro

theorem eltIntL : Elt Tryz.prog 23 3 (.int .i64 0) 1 8 := Elt.mk' Tryz.underlying23 (by kernel_rfl) rfl (by decide)
theorem RI_litL (w : World) (e : TypeId) (k : IntKind) (xs : List Int) (n g : Nat) (hg : g = w.heap.size) (hn : xs.length = n) :
    RI (w.alloc (.cells (xs.map (Value.int k)).toArray e)) (g + 1) k (some ⟨g, 0, none⟩) n xs := by
  subst hg
  have h := Rd.lit w e (cs := xs.map (Value.int k)) (s := 1) (n := n) (by simp [hn])
  rw [show (w.alloc (.cells (xs.map (Value.int k)).toArray e)).heap.size = w.heap.size + 1 by simp] at h
  exact h
theorem RI.winL {w : World} {B n : Nat} {k : IntKind} {b o : Nat} {xs : List Int} (h : RI w B k (some ⟨b, o, none⟩) n xs) {i m : Nat} (hi : i + m ≤ n) : RI w B k (some ⟨b, o + i, none⟩) m ((xs.drop i).take m) := by
  have h1 : RI w B k (some ⟨b, o + i, none⟩) (n - i) (xs.drop i) := by
    have := Rd.drop h (k := i) (by omega)
    rw [Nat.mul_one, ← List.map_drop] at this
    exact this
  exact h1.take (by omega)
/-- What the operations of the put have left, of a list. -/
structure GtV (L : Nat → Bool) (bx B hn hc : Nat) (hA : Option Addr) (has : List Int) (av : Int) (w0 : World) (u6 u36 u37 u38 u39 u40 u41 u42 u43 : Value) (w : World) : Prop where
  bel : Below B w0 w
  f0 : L 0 = true → u36 = .pointer (some ⟨bx, 3, none⟩)
  f1 : L 1 = true → u37 = .int .i64 av
  f2 : L 2 = true → u38 = .slice hA hn hc
  f3 : L 3 = true → ∃ A c, u39 = .slice A hn c ∧ (L 7 = false → w.ownsRow B 3 1 u39 hn (has.map (Value.int .i64)))
  f4 : L 4 = true → u40 = .pointer (some ⟨bx, 3, none⟩)
  f5 : L 5 = true → u41 = .int .i64 av
  f6 : L 6 = true → ∃ g, u42 = .slice (some ⟨g, 0, none⟩) 1 1 ∧ (L 7 = false → RI w w.heap.size .i64 (some ⟨g, 0, none⟩) 1 [av])
  f7 : L 7 = true → ∃ A c, u43 = .slice A (hn + 1) c ∧ w.ownsRow B 3 1 u43 (hn + 1) ((has ++ [av]).map (Value.int .i64))
  f8 : L 8 = true → u6 = .int .i64 av
/-- The frame of the put. -/
def Gt (k : Int) (hA : Option Addr) (hn hc : Nat) (ab ae av aa : Int) (bx B : Nat) (has : List Int) (w0 : World) (L : Nat → Bool) (a : Act) (w : World) : Prop :=
  ∃ u6 u36 u37 u38 u39 u40 u41 u42 u43, a = ⟨#[.int .i64 k, .slice hA hn hc, .agg #[.int .i64 ab, .int .i64 ae, .bool true, .int .i64 av, .int .i64 aa], undef, undef, .pointer (some ⟨bx, 0, none⟩), u6, .slice none 0 0, .int .i64 k, .bool false, .bool false, undef, undef, undef, undef, undef, undef, undef, undef, undef, undef, undef, .bool false, .bool false, undef, undef, undef, undef, undef, undef, undef, undef, undef, undef, .pointer (some ⟨bx, 2, none⟩), .bool true, u36, u37, u38, u39, u40, u41, u42, u43, undef, undef, undef, undef, undef, undef, undef, undef, undef, undef, undef, undef, undef, undef, undef, undef, undef, undef, undef, undef, undef, undef], []⟩ ∧ GtV L bx B hn hc hA has av w0 u6 u36 u37 u38 u39 u40 u41 u42 u43 w
theorem mem_ofL {l : List Nat} {a : Nat} (h : l.contains a = true) : a ∈ l := by simpa using h
/-- What it leaves: what is told, and a slice of what it has then. -/
def TlPost (v : Int) (nx : List Int) (w : World) (e : Ending) (w' : World) : Prop := ∃ A n c, e = .returned (.tuple #[.int .i64 v, .slice A n c]) ∧ RI w' w'.heap.size .i64 A n nx ∧ n ≤ c ∧ Below w.heap.size w w'

end Go.Proofs.YtjihopbapnfppabGreatDoor

set_option linter.unusedSimpArgs false
set_option linter.unusedVariables false
namespace Go.Proofs.YtjihopbapnfppabGreatDoor
open Go.RowKit Go.Ord Go.Baro

set_option maxHeartbeats 1000000 in
theorem lin_mixed (w : World) (A : Option Addr) (n c : Nat) (xs : List Int) (h : QR w A n xs) (hn : n ≤ 20) : Calls Tryz.prog 113 #[.slice A n c] w fun e w' => (∃ g, e = .returned (.int .u64 g)) ∧ Below w.heap.size w w' := by
  have h0 := Below.refl w.heap.size w
  have hri := h.ri
  clear h
  go_enter Tryz.func113, Tryz.ntmps113
  go_wp2
  go_loopw [3, 11] (fun s i wr => ∃ (j : Nat) (y : Int), j ≤ n ∧ i = .int .i64 j ∧ s = .int .u64 y ∧ Below w.heap.size w wr) (fun _ i _ => n - (intOf i).toNat)
  case atStart => exact ⟨0, _, Nat.zero_le _, rfl, rfl, h0⟩
  case round =>
    obtain ⟨j, y, hj, rfl, rfl, hbel⟩ := hrel
    by_cases hjm : j < n
    · obtain ⟨b, o, x, rfl, hb, hcell, HX, hmem⟩ := (hri.below hbel).val hjm
      clear hmem
      go_wp2
      go_roundw
      case rel => exact ⟨j + 1, _, by omega, by go_num, rfl, hbel⟩
      case measure => simp [intOf]; omega
    · go_wp2
      go_ret
      exact ⟨⟨_, rfl⟩, hbel⟩
set_option maxHeartbeats 1000000 in
theorem q_digest (w : World) (A : Option Addr) (n c : Nat) (xs : List Int) (h : QR w A n xs) (hn : n ≤ 20) : Calls Tryz.prog 110 #[.slice A n c] w fun e w' => (∃ g, e = .returned (.int .u64 g)) ∧ Below w.heap.size w w' := by
  have HC := Lib.hid (lin_mixed w A n c xs h hn)
  clear h
  go_enter Tryz.func110, Tryz.ntmps110
  go_wp2_with fail
  refine HC.out.mono ?_
  rintro e w1 ⟨⟨g, rfl⟩, hb1⟩
  go_wp2
  go_ret
  exact ⟨⟨_, rfl⟩, hb1⟩
set_option maxHeartbeats 1000000 in
theorem s_digest (w : World) (A : Option Addr) (n c : Nat) (xs : List Int) (h : QR w A n xs) (hn : n ≤ 20) : Calls Tryz.prog 116 #[.slice A n c] w fun e w' => (∃ g, e = .returned (.int .u64 g)) ∧ Below w.heap.size w w' := by
  have HC := Lib.hid (lin_mixed w A n c xs h hn)
  clear h
  go_enter Tryz.func116, Tryz.ntmps116
  go_wp2_with fail
  refine HC.out.mono ?_
  rintro e w1 ⟨⟨g, rfl⟩, hb1⟩
  go_wp2
  go_ret
  exact ⟨⟨_, rfl⟩, hb1⟩
set_option maxHeartbeats 1000000 in
theorem lin_Clip (w : World) (A : Option Addr) (n c : Nat) (hn : n ≤ 20) (hc : n ≤ c) (hA : A = none → c = 0) : Calls Tryz.prog 86 #[.slice A n c] w fun e w' => e = .returned (.slice A n n) ∧ Below w.heap.size w w' := by
  have h0 := Below.refl w.heap.size w
  cases A with
  | none =>
    obtain rfl := hA rfl
    obtain rfl : n = 0 := by omega
    go_enter Tryz.func86, Tryz.ntmps86
    go_wp2
    go_ret
    exact ⟨rfl, h0⟩
  | some ad =>
    clear hA
    obtain ⟨b, o, q⟩ := ad
    go_enter Tryz.func86, Tryz.ntmps86
    go_wp2
    go_ret
    exact ⟨rfl, h0⟩
set_option maxHeartbeats 1000000 in
theorem lin_inserted (w : World) (A : Option Addr) (n c : Nat) (xs : List Int) (x : Int) (h : QR w A n xs) (hn : n ≤ 20) (hc : n ≤ c) (hA : A = none → c = 0) : Calls Tryz.prog 114 #[.slice A n c, .int .i64 x] w fun e w' => (∃ A' c', e = .returned (.slice A' (n + 1) c') ∧ n + 1 ≤ c' ∧ (A' = none → c' = 0) ∧ QR w' A' (n + 1) (xs ++ [x])) ∧ Below w.heap.size w w' := by
  have HC := Lib.hid (lin_Clip w A n c hn hc hA)
  have HRI := Lib.hid h.ri
  have hA0 : A = none → n = 0 := fun h => by have := hA h; omega
  have HA := Lib.hid hA0
  clear h hA0 hA
  go_enter Tryz.func114, Tryz.ntmps114
  go_wp2_with fail
  refine HC.out.mono ?_
  rintro e w1 ⟨rfl, hb1⟩
  have HR1 := Lib.hid ((HRI.out.below hb1).more (B' := w1.heap.size) hb1.size)
  go_wp2_with (at_builtin; go_must (refine app_full eltIntL w1 rfl (.tmp 6) (.tmp 8) rfl A n (xs.map (Value.int .i64)) rfl w1.heap.size HR1.out HA.out (Nat.le_refl _) 1 (by omega) [.int .i64 x] w1.heap.size rfl rfl rfl (by omega) (by omega) ?_); intro v' w2 hown hb2)
  rw [show xs.map (Value.int .i64) ++ [.int .i64 x] = (xs ++ [x]).map (Value.int .i64) by simp] at hown
  obtain ⟨A', c', rfl, hc', hA', hq⟩ := QR.own hown
  have HQ := Lib.hid hq
  have HA' := Lib.hid hA'
  clear hown hq hA'
  go_wp2
  go_ret
  exact ⟨⟨A', c', rfl, hc', HA'.out, HQ.out⟩, hb1.trans (hb2.mono hb1.size)⟩

set_option maxHeartbeats 1000000 in
theorem q_Equal (w : World) (A A' : Option Addr) (n c n' c' : Nat) (xs ys : List Int) (r : Bool) (h : QR w A n xs) (h' : QR w A' n' ys) (hn : n ≤ 20) (hn' : n' ≤ 20) (hr : r = true ↔ xs = ys) :
    Calls Tryz.prog 115 #[.slice A n c, .slice A' n' c'] w fun e w' => e = .returned (.bool r) ∧ Below w.heap.size w w' := by
  have h0 := Below.refl w.heap.size w
  have L1 := Lib.hid h.1
  have L2 := Lib.hid h'.1
  have HR := Lib.hid hr
  have hri := h.ri
  have hri' := h'.ri
  clear h h' hr
  by_cases hnn : n = n'
  · subst hnn
    go_enter Tryz.func115, Tryz.ntmps115
    go_wp2
    go_loopw [13] (fun i wr => ∃ j : Nat, j ≤ n ∧ i = .int .i64 j ∧ Hid (xs.take j = ys.take j) ∧ Below w.heap.size w wr) (fun i _ => n - (intOf i).toNat)
    case atStart => exact ⟨0, Nat.zero_le _, rfl, by show _ = _; simp, h0⟩
    case round =>
      obtain ⟨j, hj, rfl, HE, hbel⟩ := hrel
      by_cases hjm : j < n
      · obtain ⟨b, o, x, rfl, hb, hcell, HX, hmem⟩ := (hri.below hbel).val hjm
        obtain ⟨b', o', y, rfl, hb', hcell', HY, hmem'⟩ := (hri'.below hbel).val hjm
        clear hmem hmem'
        go_wp2
        refine region_two [0, 1, 2, 3, 4, 5, 6, 7, 8] [] (by kernel_rfl) (by kernel_rfl) ?_
        simp only [pick, List.map_cons, List.map_nil, List.getD_cons_zero, List.getD_cons_succ]
        by_cases hxy : x = y
        · subst hxy
          go_wp2
          go_roundw
          case rel =>
            refine ⟨j + 1, by omega, by go_num, ?_, hbel.drew⟩
            show _ = _
            rw [at_take HX.out, at_take HY.out, HE.out]
          case measure => simp [intOf]; omega
        · have hxy2 : (x != y) = true := by simp [hxy]
          have HXY := Lib.hid hxy
          clear hxy
          go_wp2
          go_ret
          refine ⟨?_, hbel.drew⟩
          cases r with
          | false => rfl
          | true =>
            have h1 := HR.out.1 rfl
            subst h1
            have h2 := HX.out
            rw [HY.out] at h2
            injection h2 with h2
            exact absurd h2.symm HXY.out
      · obtain rfl : n = j := by omega
        go_wp2
        go_ret
        refine ⟨ret_bool ?_, hbel⟩
        have h1 := HE.out
        rw [List.take_of_length_le (by rw [L1.out]; omega), List.take_of_length_le (by rw [L2.out]; omega)] at h1
        exact (HR.out.2 h1).symm
  · have HNN := Lib.hid hnn
    have hnn2 : ((n : Int) != (n' : Int)) = true := by simp; omega
    clear hnn
    go_enter Tryz.func115, Tryz.ntmps115
    go_wp2
    go_ret
    refine ⟨?_, h0⟩
    cases r with
    | false => rfl
    | true =>
      have h1 := congrArg List.length (HR.out.1 rfl)
      rw [L1.out, L2.out] at h1
      exact absurd h1 HNN.out
set_option maxHeartbeats 1000000 in
theorem q_same (w : World) (A A' : Option Addr) (n c n' c' : Nat) (xs ys : List Int) (r : Bool) (h : QR w A n xs) (h' : QR w A' n' ys) (hn : n ≤ 20) (hn' : n' ≤ 20) (hr : r = true ↔ ys = xs) :
    Calls Tryz.prog 112 #[.slice A n c, .iface 114 (.slice A' n' c')] w fun e w' => e = .returned (.bool r) ∧ Below w.heap.size w w' := by
  have HC := Lib.hid (q_Equal w A' A n' c' n c ys xs r h' h hn' hn hr)
  clear h h' hr
  have ta : (Instr.typeAssert (.iface 114 (.slice A' n' c')) 74 114 true).run Tryz.prog w = .ok (.tuple #[.slice A' n' c', .bool true]) w := by kernel_rfl
  go_enter Tryz.func112, Tryz.ntmps112
  go_wp2_with fail
  refine HC.out.mono ?_
  rintro e w1 ⟨rfl, hb1⟩
  go_wp2
  go_ret
  exact ⟨rfl, hb1⟩

set_option maxHeartbeats 1000000 in
theorem s_Equal (w : World) (A A' : Option Addr) (n c n' c' : Nat) (xs ys : List Int) (r : Bool) (h : QR w A n xs) (h' : QR w A' n' ys) (hn : n ≤ 20) (hn' : n' ≤ 20) (hr : r = true ↔ xs = ys) :
    Calls Tryz.prog 119 #[.slice A n c, .slice A' n' c'] w fun e w' => e = .returned (.bool r) ∧ Below w.heap.size w w' := by
  have h0 := Below.refl w.heap.size w
  have L1 := Lib.hid h.1
  have L2 := Lib.hid h'.1
  have HR := Lib.hid hr
  have hri := h.ri
  have hri' := h'.ri
  clear h h' hr
  by_cases hnn : n = n'
  · subst hnn
    go_enter Tryz.func119, Tryz.ntmps119
    go_wp2
    go_loopw [13] (fun i wr => ∃ j : Nat, j ≤ n ∧ i = .int .i64 j ∧ Hid (xs.take j = ys.take j) ∧ Below w.heap.size w wr) (fun i _ => n - (intOf i).toNat)
    case atStart => exact ⟨0, Nat.zero_le _, rfl, by show _ = _; simp, h0⟩
    case round =>
      obtain ⟨j, hj, rfl, HE, hbel⟩ := hrel
      by_cases hjm : j < n
      · obtain ⟨b, o, x, rfl, hb, hcell, HX, hmem⟩ := (hri.below hbel).val hjm
        obtain ⟨b', o', y, rfl, hb', hcell', HY, hmem'⟩ := (hri'.below hbel).val hjm
        clear hmem hmem'
        go_wp2
        refine region_two [0, 1, 2, 3, 4, 5, 6, 7, 8] [] (by kernel_rfl) (by kernel_rfl) ?_
        simp only [pick, List.map_cons, List.map_nil, List.getD_cons_zero, List.getD_cons_succ]
        by_cases hxy : x = y
        · subst hxy
          go_wp2
          go_roundw
          case rel =>
            refine ⟨j + 1, by omega, by go_num, ?_, hbel.drew⟩
            show _ = _
            rw [at_take HX.out, at_take HY.out, HE.out]
          case measure => simp [intOf]; omega
        · have hxy2 : (x != y) = true := by simp [hxy]
          have HXY := Lib.hid hxy
          clear hxy
          go_wp2
          go_ret
          refine ⟨?_, hbel.drew⟩
          cases r with
          | false => rfl
          | true =>
            have h1 := HR.out.1 rfl
            subst h1
            have h2 := HX.out
            rw [HY.out] at h2
            injection h2 with h2
            exact absurd h2.symm HXY.out
      · obtain rfl : n = j := by omega
        go_wp2
        go_ret
        refine ⟨ret_bool ?_, hbel⟩
        have h1 := HE.out
        rw [List.take_of_length_le (by rw [L1.out]; omega), List.take_of_length_le (by rw [L2.out]; omega)] at h1
        exact (HR.out.2 h1).symm
  · have HNN := Lib.hid hnn
    have hnn2 : ((n : Int) != (n' : Int)) = true := by simp; omega
    clear hnn
    go_enter Tryz.func119, Tryz.ntmps119
    go_wp2
    go_ret
    refine ⟨?_, h0⟩
    cases r with
    | false => rfl
    | true =>
      have h1 := congrArg List.length (HR.out.1 rfl)
      rw [L1.out, L2.out] at h1
      exact absurd h1 HNN.out
set_option maxHeartbeats 1000000 in
theorem s_same (w : World) (A A' : Option Addr) (n c n' c' : Nat) (xs ys : List Int) (r : Bool) (h : QR w A n xs) (h' : QR w A' n' ys) (hn : n ≤ 20) (hn' : n' ≤ 20) (hr : r = true ↔ ys = xs) :
    Calls Tryz.prog 118 #[.slice A n c, .iface 115 (.slice A' n' c')] w fun e w' => e = .returned (.bool r) ∧ Below w.heap.size w w' := by
  have HC := Lib.hid (s_Equal w A' A n' c' n c ys xs r h' h hn' hn hr)
  clear h h' hr
  have ta : (Instr.typeAssert (.iface 115 (.slice A' n' c')) 74 115 true).run Tryz.prog w = .ok (.tuple #[.slice A' n' c', .bool true]) w := by kernel_rfl
  go_enter Tryz.func118, Tryz.ntmps118
  go_wp2_with fail
  refine HC.out.mono ?_
  rintro e w1 ⟨rfl, hb1⟩
  go_wp2
  go_ret
  exact ⟨rfl, hb1⟩

/-- What next leaves: the state then, and the value. -/
def NxPost (T : TypeId) (v : Int) (nx : List Int) (w : World) (e : Ending) (w' : World) : Prop := (∃ A n c, e = .returned (.tuple #[.iface T (.slice A n c), .int .i64 v]) ∧ n ≤ c ∧ (A = none → c = 0) ∧ QR w' A n nx) ∧ Below w.heap.size w w'
set_option maxHeartbeats 1000000 in
theorem q_next (w : World) (A : Option Addr) (n c : Nat) (xs : List Int) (a : Ac) (h : QR w A n xs) (hn : n ≤ 19) (hc : n ≤ c) (hA : A = none → c = 0) :
    Calls Tryz.prog 111 #[.slice A n c, acA a] w (NxPost 114 (tel 3 xs a).1 (tel 3 xs a).2 w) := by
  obtain ⟨xb, xe, xp, xv, xa⟩ := a
  unfold acA
  have h0 := (Below.refl w.heap.size w).alloc (Nat.le_refl _) (Obj.cells #[.int .i64 xb, .int .i64 xe, .bool xp, .int .i64 xv, .int .i64 xa] 64)
  have bX := Box.newAt w 64 [.int .i64 xb, .int .i64 xe, .bool xp, .int .i64 xv, .int .i64 xa] w.heap.size rfl
  have lX := bX.lt
  have hq := h.kp (Kp.below h0)
  have L := Lib.hid h.1
  have HQ := Lib.hid hq
  have HA := Lib.hid hA
  dsimp only
  unfold tel
  rw [if_neg (by decide), if_neg (by decide)]
  cases xp with
  | true =>
    rw [if_pos rfl]
    clear h hq hA
    go_enter Tryz.func111, Tryz.ntmps111
    go_wp2
    refine region_first [0, 1, 2, 5, 6] (.cons 3 (seq [4, 7, 8] .nil)) (by kernel_rfl) (by kernel_rfl) ?_
    simp only [pick, List.map_cons, List.map_nil, List.getD_cons_zero, List.getD_cons_succ]
    go_wp2
    refine ord_call (by kernel_rfl) ?_
    simp only [pick, List.map_cons, List.map_nil, List.getD_cons_zero, List.getD_cons_succ]
    go_wp2_with fail
    refine (lin_inserted ((w.alloc (Obj.cells #[.int .i64 xb, .int .i64 xe, .bool true, .int .i64 xv, .int .i64 xa] 64)).drew) A n c xs xv (by exact HQ.out) (by omega) hc HA.out).mono ?_
    rintro e w1 ⟨⟨A', c', rfl, k1, k2, k3⟩, hb1⟩
    have hb2 := h0.drew.trans (hb1.mono (by show w.heap.size ≤ (w.alloc _).heap.size; omega))
    have HK2 := Lib.hid k2
    have HK3 := Lib.hid k3
    have HB1 := Lib.hid hb1
    clear k2 k3 hb1
    go_wp2
    refine ⟨ext_below HB1.out, ?_⟩
    refine ord_more [4, 7, 8] .nil (by kernel_rfl) ?_
    simp only [pick, List.map_cons, List.map_nil, List.getD_cons_zero, List.getD_cons_succ]
    go_wp2
    refine ord_done ?_
    go_wp2
    go_ret2
    exact ⟨⟨A', n + 1, c', rfl, k1, HK2.out, HK3.out⟩, hb2⟩
  | false =>
    rw [if_neg (by simp)]
    by_cases hn0 : n = 0
    · subst hn0
      have hx : xs = [] := List.eq_nil_of_length_eq_zero L.out
      subst hx
      rw [if_pos rfl]
      clear h hq hA
      go_enter Tryz.func111, Tryz.ntmps111
      go_wp2
      go_ret2
      exact ⟨⟨A, 0, c, rfl, hc, HA.out, HQ.out⟩, h0⟩
    · have hpos : 0 < n := by omega
      have hx : xs ≠ [] := by rintro rfl; have := L.out; simp at this; omega
      rw [if_neg hx, if_pos rfl]
      obtain ⟨b, o, x, rfl, hb, hcell, HX, hmem⟩ := hq.ri.val hpos
      have HW := Lib.hid (hq.win (i := 1) (m := n - 1) (by omega))
      rw [Nat.add_zero] at hcell
      have hne : ((n : Int) == 0) = false := by simp; omega
      have hx0 : xs.headD 0 = x := by
        have := HX.out
        cases xs with
        | nil => exact absurd rfl hx
        | cons y ys => simpa using this
      have htl : (xs.drop 1).take (n - 1) = xs.tail := by
        rw [List.take_of_length_le (by rw [List.length_drop, L.out]; omega), List.drop_one]
      rw [htl] at HW
      rw [hx0]
      clear h hq hA hmem hx hx0 htl HX
      by_cases hc1 : c = 1
      · subst hc1
        obtain rfl : n = 1 := by omega
        go_enter Tryz.func111, Tryz.ntmps111
        go_wp2
        refine region_two [0, 1, 2, 3, 4, 5, 6, 7] [] (by kernel_rfl) (by kernel_rfl) ?_
        simp only [pick, List.map_cons, List.map_nil, List.getD_cons_zero, List.getD_cons_succ]
        go_wp2
        go_ret2
        exact ⟨⟨_, _, _, rfl, by omega, (fun h => by cases h), ⟨HW.out.1, fun h => absurd h (by omega)⟩⟩, h0.drew⟩
      · go_enter Tryz.func111, Tryz.ntmps111
        go_wp2
        refine region_two [0, 1, 2, 3, 4, 5, 6, 7] [] (by kernel_rfl) (by kernel_rfl) ?_
        simp only [pick, List.map_cons, List.map_nil, List.getD_cons_zero, List.getD_cons_succ]
        go_wp2
        go_ret2
        exact ⟨⟨_, _, _, rfl, by omega, (fun h => by cases h), by exact HW.out⟩, h0.drew⟩
set_option maxHeartbeats 1000000 in
theorem s_next (w : World) (A : Option Addr) (n c : Nat) (xs : List Int) (a : Ac) (h : QR w A n xs) (hn : n ≤ 19) (hc : n ≤ c) (hA : A = none → c = 0) :
    Calls Tryz.prog 117 #[.slice A n c, acA a] w (NxPost 115 (tel 4 xs a).1 (tel 4 xs a).2 w) := by
  obtain ⟨xb, xe, xp, xv, xa⟩ := a
  unfold acA
  have h0 := (Below.refl w.heap.size w).alloc (Nat.le_refl _) (Obj.cells #[.int .i64 xb, .int .i64 xe, .bool xp, .int .i64 xv, .int .i64 xa] 64)
  have bX := Box.newAt w 64 [.int .i64 xb, .int .i64 xe, .bool xp, .int .i64 xv, .int .i64 xa] w.heap.size rfl
  have lX := bX.lt
  have hq := h.kp (Kp.below h0)
  have L := Lib.hid h.1
  have HQ := Lib.hid hq
  have HA := Lib.hid hA
  dsimp only
  unfold tel
  rw [if_neg (by decide), if_neg (by decide)]
  cases xp with
  | true =>
    rw [if_pos rfl]
    clear h hq hA
    go_enter Tryz.func117, Tryz.ntmps117
    go_wp2
    refine region_first [0, 1, 2, 5, 6] (.cons 3 (seq [4, 7, 8] .nil)) (by kernel_rfl) (by kernel_rfl) ?_
    simp only [pick, List.map_cons, List.map_nil, List.getD_cons_zero, List.getD_cons_succ]
    go_wp2
    refine ord_call (by kernel_rfl) ?_
    simp only [pick, List.map_cons, List.map_nil, List.getD_cons_zero, List.getD_cons_succ]
    go_wp2_with fail
    refine (lin_inserted ((w.alloc (Obj.cells #[.int .i64 xb, .int .i64 xe, .bool true, .int .i64 xv, .int .i64 xa] 64)).drew) A n c xs xv (by exact HQ.out) (by omega) hc HA.out).mono ?_
    rintro e w1 ⟨⟨A', c', rfl, k1, k2, k3⟩, hb1⟩
    have hb2 := h0.drew.trans (hb1.mono (by show w.heap.size ≤ (w.alloc _).heap.size; omega))
    have HK2 := Lib.hid k2
    have HK3 := Lib.hid k3
    have HB1 := Lib.hid hb1
    clear k2 k3 hb1
    go_wp2
    refine ⟨ext_below HB1.out, ?_⟩
    refine ord_more [4, 7, 8] .nil (by kernel_rfl) ?_
    simp only [pick, List.map_cons, List.map_nil, List.getD_cons_zero, List.getD_cons_succ]
    go_wp2
    refine ord_done ?_
    go_wp2
    go_ret2
    exact ⟨⟨A', n + 1, c', rfl, k1, HK2.out, HK3.out⟩, hb2⟩
  | false =>
    rw [if_neg (by simp)]
    by_cases hn0 : n = 0
    · subst hn0
      have hx : xs = [] := List.eq_nil_of_length_eq_zero L.out
      subst hx
      rw [if_pos rfl]
      clear h hq hA
      go_enter Tryz.func117, Tryz.ntmps117
      go_wp2
      go_ret2
      exact ⟨⟨A, 0, c, rfl, hc, HA.out, HQ.out⟩, h0⟩
    · have hpos : 0 < n := by omega
      have hx : xs ≠ [] := by rintro rfl; have := L.out; simp at this; omega
      rw [if_neg hx, if_neg (by decide)]
      obtain ⟨b, o, x, rfl, hb, hcell, HX, hmem⟩ := hq.ri.val (i := n - 1) (by omega)
      have HW := Lib.hid (hq.win (i := 0) (m := n - 1) (by omega))
      have hne : ((n : Int) == 0) = false := by simp; omega
      have hx0 : xs.getLastD 0 = x := by
        have h2 := HX.out
        rw [← L.out, ← List.getLast?_eq_getElem?] at h2
        rw [List.getLastD_eq_getLast?, h2]
        rfl
      have htl : (xs.drop 0).take (n - 1) = xs.dropLast := by
        rw [List.drop_zero, ← L.out, List.dropLast_eq_take]
      rw [htl] at HW
      rw [hx0]
      have hn1 : ((n : Int) - 1) = ((n - 1 : Nat) : Int) := by omega
      clear h hq hA hmem hx hx0 htl HX
      go_enter Tryz.func117, Tryz.ntmps117
      go_wp2
      refine region_two [0, 1, 2, 3, 4, 5, 6, 7, 8, 9] [] (by kernel_rfl) (by kernel_rfl) ?_
      simp only [pick, List.map_cons, List.map_nil, List.getD_cons_zero, List.getD_cons_succ]
      go_wp2
      go_ret2
      exact ⟨⟨_, _, _, rfl, by omega, (fun h => by cases h), by exact HW.out⟩, h0.drew⟩
end Go.Proofs.YtjihopbapnfppabGreatDoor

set_option linter.unusedSimpArgs false
set_option linter.unusedVariables false
namespace Go.Baro
open Go.RowKit
theorem RA.win {w : World} {B n b o : Nat} {ls : List Ac} (h : RA w B (some ⟨b, o, none⟩) n ls) {i m : Nat} (hi : i + m ≤ n) : RA w B (some ⟨b, o + i * 5, none⟩) m ((ls.drop i).take m) := by
  have hl := h.len
  refine ⟨by rw [flatMap_len acV_len]; simp; omega, fun h0 => ?_⟩
  obtain ⟨b', o', hA, hb, hc⟩ := Rd.at_ h (by omega)
  injection hA with hA
  injection hA with hA1 hA2
  subst hA1 hA2
  refine ⟨b, o + i * 5, rfl, hb, fun j hj => ?_⟩
  have hq : j % 5 < 5 := Nat.mod_lt _ (by omega)
  have hj5 : j = j / 5 * 5 + j % 5 := by omega
  have hp : j / 5 < m := by omega
  have hx : i + j / 5 < ls.length := by omega
  have e1 : ((ls.drop i).take m)[j / 5]? = some ls[i + j / 5] := by
    rw [List.getElem?_take_of_lt hp, List.getElem?_drop, List.getElem?_eq_getElem hx]
  rw [show o + i * 5 + j = o + ((i + j / 5) * 5 + j % 5) by omega, hc _ (by omega), flatMap_at acV_len ls _ _ _ (List.getElem?_eq_getElem hx) hq]
  conv => rhs; rw [hj5]
  rw [flatMap_at acV_len _ _ _ _ e1 hq]
/-- What comes first. -/
def cand (k : Int) (has : List Int) (left : List Ac) (i : Nat) : Prop := ∃ a, left[i]? = some a ∧ (∀ b ∈ left, b.e ≠ -1 → a.b ≤ b.e) ∧ (a.e ≠ -1 → (tel k has a).1 = a.v) ∧ Lin k (tel k has a).2 (left.eraseIdx i)
theorem lin_cand {k : Int} {has : List Int} {left : List Ac} : Lin k has left ↔ (∀ a ∈ left, a.e = -1) ∨ ∃ i, cand k has left i := lin_iff
theorem cand_lt {k : Int} {has : List Int} {left : List Ac} {i : Nat} (h : cand k has left i) : i < left.length := by
  obtain ⟨a, h, _⟩ := h
  exact (List.getElem?_eq_some_iff.1 h).1
theorem tel_len (k : Int) (has : List Int) (a : Ac) : (tel k has a).2.length ≤ has.length + 1 ∧ (k < 3 → 1 ≤ k → has.length = 1 → (tel k has a).2.length = 1) := by
  unfold tel
  by_cases h1 : k = 1
  · rw [if_pos h1]
    split
    · exact ⟨by simp, fun _ _ _ => rfl⟩
    · exact ⟨by simp, fun _ _ h => h⟩
  rw [if_neg h1]
  by_cases h2 : k = 2
  · rw [if_pos h2]; exact ⟨by simp, fun _ _ _ => rfl⟩
  rw [if_neg h2]
  refine ⟨?_, fun h3 h4 => by omega⟩
  split
  · simp
  · split
    · simp
    · split
      · simp; omega
      · simp; omega
end Go.Baro
namespace Go.Proofs.YtjihopbapnfppabGreatDoor
open Go.RowKit Go.Ord Go.Baro

theorem eltAct : Elt Tryz.prog 37 64 (.agg #[.int .i64 0, .int .i64 0, .bool false, .int .i64 0, .int .i64 0]) 5 40 := Elt.mk' Tryz.underlying37 (by kernel_rfl) rfl (by decide)
theorem acV_one (l : List Ac) : ∀ u ∈ l.flatMap acV, u.oneCell' = true := by
  intro u hu
  simp only [List.mem_flatMap, acV, List.mem_cons, List.not_mem_nil, or_false] at hu
  obtain ⟨a, _, h⟩ := hu
  rcases h with rfl | rfl | rfl | rfl | rfl <;> rfl

theorem ra_none {w : World} {B n : Nat} {A A' : Option Addr} {ls : List Ac} (h : RA w B A n ls) (h0 : n = 0) : Rd w B 5 A' n (ls.flatMap acV) := ⟨Rd.len h, fun h => absurd h (by omega)⟩

end Go.Proofs.YtjihopbapnfppabGreatDoor
