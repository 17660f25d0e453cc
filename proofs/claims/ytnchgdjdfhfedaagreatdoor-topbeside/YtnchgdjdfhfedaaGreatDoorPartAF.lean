/- Of this claim's own texts these, one behind the other: Ord5, VmMem, VmMemO, LibMid, MachT, KeepPicked, OpenM. No statement of the seat is proved here; no condition but those that stand at the theorems. -/
import Derived.Test.YtnchgdjdfhfedaaGreatDoorPartAB
import Derived.Test.YtnchgdjdfhfedaaGreatDoorPartAD
import Derived.Laws.Tables
import Derived.Laws.OwnMore
import Derived.Deep.MidRow
import Derived.Test.YtnchgdjdfhfedaaGreatDoorRows
import Derived.Test.YtnchgdjdfhfedaaGreatDoorPartAC
import Derived.Lib.SmallJoins
set_option linter.unusedSimpArgs false
set_option linter.unusedVariables false
namespace Go.Ord
section
variable {P : Program} {md : Region.Mode} {ops : Array Oper} {Q : Exit → Act → World → Prop}

theorem cnt_lt : ∀ (l : List Nat) (p q : Nat → Bool), (∀ x ∈ l, q x = true → p x = true) → (∃ x ∈ l, p x = true ∧ q x = false) → (l.filter q).length < (l.filter p).length
  | [], p, q, _, h => by obtain ⟨x, hx, _⟩ := h; cases hx
  | y :: l, p, q, h1, h2 => by
    have hle : (l.filter q).length ≤ (l.filter p).length := by
      clear h2
      induction l with
      | nil => simp
      | cons x l ih =>
        have ih := ih (fun x hx => h1 x (by simp only [List.mem_cons] at hx ⊢; rcases hx with hx | hx; exact .inl hx; exact .inr (.inr hx)))
        have hx := h1 x (by simp)
        cases hq : q x with
        | true => rw [List.filter_cons, List.filter_cons, hq, hx hq]; simpa using ih
        | false => cases hp : p x <;> rw [List.filter_cons, List.filter_cons, hq, hp] <;> simp <;> omega
    obtain ⟨x, hx, hp, hq⟩ := h2
    rcases List.mem_cons.1 hx with rfl | hx
    · rw [List.filter_cons, List.filter_cons, hp, hq]; simp; omega
    · have ih := cnt_lt l p q (fun x hx => h1 x (by simp [hx])) ⟨x, hx, hp, hq⟩
      have hy := h1 y (by simp)
      cases hq : q y with
      | true => rw [List.filter_cons, List.filter_cons, hq, hy hq]; simpa using ih
      | false => cases hp : p y <;> rw [List.filter_cons, List.filter_cons, hq, hp] <;> simp <;> omega
theorem getD_any {i : Nat} {listed : Array Bool} (hs : listed.size = ops.size) (hi : i < ops.size) : listed.getD i true = listed.getD i false := by
  simp [Array.getD_eq_getD_getElem?, hs, hi]
/-- How many have not come up. -/
def unl (ops : Array Oper) (listed : Array Bool) : Nat := ((List.range ops.size).filter fun i => !listed.getD i false).length
theorem unl_set {i : Nat} {listed : Array Bool} (hi : i < ops.size) (hs : listed.size = ops.size) (h : listed.getD i false = false) : unl ops (listed.setIfInBounds i true) < unl ops listed := by
  refine cnt_lt _ _ _ (fun x _ hx => ?_) ⟨i, List.mem_range.2 hi, by simp [h], ?_⟩
  · by_cases hxi : i = x
    · subst hxi; simp [h]
    · rw [getD_set_ne false hxi] at hx; exact hx
  · simp [Array.getD_eq_getD_getElem?, hs, hi]
theorem wpAny_many {F : Nat → Act → World → Prop} {G : Act → World → Prop} (z : Nat) (hz : ops.size = z + 1) (hpre : ∀ i, i < ops.size → ∀ p ∈ preds md ops i, p < i) (hanc : ∀ k, k < z → k ∈ ancs md ops 12 (preds md ops z))
    (hop : ∀ i, i < z → ∀ o, ops[i]? = some o → ∀ a w, G a w → (∀ p ∈ preds md ops i, F p a w) → wpList P ops (fun e a' w' => e = .normal ∧ G a' w' ∧ F i a' w' ∧ ∀ k, k < z → k ≠ i → F k a w → F k a' w') [o] a w)
    (hend : ∀ o, ops[z]? = some o → ∀ a w, G a w → (∀ k, k < z → F k a w) → wpList P ops (fun e a' w' => e = .normal ∧ Q .normal a' w') [o] a w) :
    ∀ (f : Nat) (listed : Array Bool) (a : Act) (w : World), Closed md ops listed → listed.size = ops.size → unl ops listed ≤ f → (listed.getD z false = false → G a w ∧ ∀ k, k < z → listed.getD k false = true → F k a w) →
      (listed.getD z false = true → Q .normal a w) → wpAny P md ops (Only Q) f listed a w := by
  have hall : ∀ (listed : Array Bool), listed.size = ops.size → Region.ready md ops listed = [] → ∀ i, i < ops.size → listed.getD i false = true := by
    intro listed hs hr i
    induction i using Nat.strongRecOn with
    | _ i ih =>
      intro hi
      cases hl : listed.getD i false with
      | true => rfl
      | false =>
        exfalso
        have ho : ops[i]? = some ops[i] := Array.getElem?_eq_getElem hi
        have : i ∈ Region.ready md ops listed := by
          refine mem_ready.2 ⟨(getD_any hs hi).trans hl, ops[i], ho, fun e he hb => ?_⟩
          have hp : e.on ∈ preds md ops i := by
            unfold preds
            refine List.mem_map.2 ⟨e, List.mem_filter.2 ⟨?_, hb⟩, rfl⟩
            rw [getD_of ho]
            simpa using he
          have hlt := hpre i hi _ hp
          exact ih _ hlt (by omega)
        rw [hr] at this
        cases this
  intro f
  induction f with
  | zero =>
    intro listed a w hc hs hu h1 h2
    have he : ∀ i, i < ops.size → listed.getD i false = true := by
      intro i hi
      cases hl : listed.getD i false with
      | true => rfl
      | false =>
        have := unl_set hi hs hl
        omega
    refine ⟨?_, rfl, h2 (he z (by omega))⟩
    cases hr : Region.ready md ops listed with
    | nil => rfl
    | cons i r =>
      exfalso
      have hi : i ∈ Region.ready md ops listed := by rw [hr]; simp
      obtain ⟨hn, o, ho, _⟩ := mem_ready.1 hi
      have h3 := (Array.getElem?_eq_some_iff.1 ho).1
      have := he i h3
      rw [getD_any hs h3, this] at hn
      cases hn
  | succ f ih =>
    intro listed a w hc hs hu h1 h2
    refine ⟨fun hr => ⟨rfl, h2 (hall listed hs hr z (by omega))⟩, fun i hi => ?_⟩
    have hi' := hi
    obtain ⟨hn, o, ho, _⟩ := mem_ready.1 hi
    have hlt : i < ops.size := (Array.getElem?_eq_some_iff.1 ho).1
    have hn' : listed.getD i false = false := (getD_any hs hlt).symm.trans hn
    have hset : ∀ k, k ≠ i → (listed.setIfInBounds i true).getD k false = listed.getD k false := fun k hk => getD_set_ne false (Ne.symm hk)
    have hsi : (listed.setIfInBounds i true).getD i false = true := by simp [Array.getD_eq_getD_getElem?, hs, hlt]
    have hun := unl_set hlt hs hn'
    by_cases hiz : i = z
    · subst hiz
      obtain ⟨hG, hF⟩ := h1 hn'
      have hk : ∀ k, k < i → F k a w := fun k hk => hF k hk (ancs_listed hc 12 _ (ready_preds hi) k (hanc k hk))
      refine wpOp_one ho (wpList_mono' (fun e a' w' hq => ⟨hq.1, ?_⟩) _ _ _ (hend o ho a w hG hk))
      exact ih _ a' w' (hc.set hi) (by simpa using hs) (by omega) (fun h => by rw [hsi] at h; cases h) (fun _ => hq.2)
    · have hiz2 : i < z := by omega
      have hzn : listed.getD z false = false := by
        cases hl : listed.getD z false with
        | false => rfl
        | true =>
          have := ancs_listed hc 12 _ (fun p hp => hc z hl p hp) i (hanc i hiz2)
          rw [hn'] at this
          cases this
      obtain ⟨hG, hF⟩ := h1 hzn
      have hpz : ∀ p ∈ preds md ops i, F p a w := fun p hp => hF p (by have := hpre i hlt p hp; omega) (ready_preds hi p hp)
      refine wpOp_one ho (wpList_mono' (fun e a' w' hq => ⟨hq.1, ?_⟩) _ _ _ (hop i hiz2 o ho a w hG hpz))
      obtain ⟨_, q1, q2, q3⟩ := hq
      refine ih _ a' w' (hc.set hi) (by simpa using hs) (by omega) (fun _ => ⟨q1, fun k hk hl => ?_⟩) (fun h => ?_)
      · by_cases hki : k = i
        · subst hki; exact q2
        · rw [hset k hki] at hl; exact q3 k hk hki (hF k hk hl)
      · rw [hset z (fun h => hiz h.symm)] at h
        rw [hzn] at h
        cases h
/-- i has come up, too. -/
def markL (L : Nat → Bool) (i : Nat) : Nat → Bool := fun k => if k = i then true else L k
theorem markL_self (L : Nat → Bool) (i : Nat) : markL L i i = true := by simp [markL]
theorem markL_ne (L : Nat → Bool) {i k : Nat} (h : k ≠ i) : markL L i k = L k := by simp [markL, h]
theorem markL_false {L : Nat → Bool} {i k : Nat} (h : markL L i k = false) : L k = false := by
  unfold markL at h
  split at h
  · cases h
  · exact h
theorem wpAny_manyL {G : (Nat → Bool) → Act → World → Prop} (z : Nat) (hz : ops.size = z + 1) (hpre : ∀ i, i < ops.size → ∀ p ∈ preds md ops i, p < i) (hanc : ∀ k, k < z → k ∈ ancs md ops 12 (preds md ops z))
    (hop : ∀ i, i < z → ∀ o, ops[i]? = some o → ∀ L a w, L i = false → (∀ k, L k = true → ∀ p ∈ preds md ops k, L p = true) → (∀ p ∈ preds md ops i, L p = true) → G L a w → wpList P ops (fun e a' w' => e = .normal ∧ G (markL L i) a' w') [o] a w)
    (hend : ∀ o, ops[z]? = some o → ∀ L a w, (∀ k, k < z → L k = true) → G L a w → wpList P ops (fun e a' w' => e = .normal ∧ Q .normal a' w') [o] a w) :
    ∀ (f : Nat) (listed : Array Bool) (a : Act) (w : World), Closed md ops listed → listed.size = ops.size → unl ops listed ≤ f → (listed.getD z false = false → G (fun k => listed.getD k false) a w) →
      (listed.getD z false = true → Q .normal a w) → wpAny P md ops (Only Q) f listed a w := by
  have hall : ∀ (listed : Array Bool), listed.size = ops.size → Region.ready md ops listed = [] → ∀ i, i < ops.size → listed.getD i false = true := by
    intro listed hs hr i
    induction i using Nat.strongRecOn with
    | _ i ih =>
      intro hi
      cases hl : listed.getD i false with
      | true => rfl
      | false =>
        exfalso
        have ho : ops[i]? = some ops[i] := Array.getElem?_eq_getElem hi
        have : i ∈ Region.ready md ops listed := by
          refine mem_ready.2 ⟨(getD_any hs hi).trans hl, ops[i], ho, fun e he hb => ?_⟩
          have hp : e.on ∈ preds md ops i := by
            unfold preds
            refine List.mem_map.2 ⟨e, List.mem_filter.2 ⟨?_, hb⟩, rfl⟩
            rw [getD_of ho]
            simpa using he
          have hlt := hpre i hi _ hp
          exact ih _ hlt (by omega)
        rw [hr] at this
        cases this
  intro f
  induction f with
  | zero =>
    intro listed a w hc hs hu h1 h2
    have he : ∀ i, i < ops.size → listed.getD i false = true := by
      intro i hi
      cases hl : listed.getD i false with
      | true => rfl
      | false =>
        have := unl_set hi hs hl
        omega
    refine ⟨?_, rfl, h2 (he z (by omega))⟩
    cases hr : Region.ready md ops listed with
    | nil => rfl
    | cons i r =>
      exfalso
      have hi : i ∈ Region.ready md ops listed := by rw [hr]; simp
      obtain ⟨hn, o, ho, _⟩ := mem_ready.1 hi
      have h3 := (Array.getElem?_eq_some_iff.1 ho).1
      have := he i h3
      rw [getD_any hs h3, this] at hn
      cases hn
  | succ f ih =>
    intro listed a w hc hs hu h1 h2
    refine ⟨fun hr => ⟨rfl, h2 (hall listed hs hr z (by omega))⟩, fun i hi => ?_⟩
    have hi' := hi
    obtain ⟨hn, o, ho, _⟩ := mem_ready.1 hi
    have hlt : i < ops.size := (Array.getElem?_eq_some_iff.1 ho).1
    have hn' : listed.getD i false = false := (getD_any hs hlt).symm.trans hn
    have hset : ∀ k, k ≠ i → (listed.setIfInBounds i true).getD k false = listed.getD k false := fun k hk => getD_set_ne false (Ne.symm hk)
    have hsi : (listed.setIfInBounds i true).getD i false = true := by simp [Array.getD_eq_getD_getElem?, hs, hlt]
    have hun := unl_set hlt hs hn'
    by_cases hiz : i = z
    · subst hiz
      have hk : ∀ k, k < i → listed.getD k false = true := fun k hk => ancs_listed hc 12 _ (ready_preds hi) k (hanc k hk)
      refine wpOp_one ho (wpList_mono' (fun e a' w' hq => ⟨hq.1, ?_⟩) _ _ _ (hend o ho _ a w hk (h1 hn')))
      exact ih _ a' w' (hc.set hi) (by simpa using hs) (by omega) (fun h => by rw [hsi] at h; cases h) (fun _ => hq.2)
    · have hiz2 : i < z := by omega
      have hzn : listed.getD z false = false := by
        cases hl : listed.getD z false with
        | false => rfl
        | true =>
          have := ancs_listed hc 12 _ (fun p hp => hc z hl p hp) i (hanc i hiz2)
          rw [hn'] at this
          cases this
      have he : markL (fun k => listed.getD k false) i = fun k => (listed.setIfInBounds i true).getD k false := by
        funext k
        by_cases hki : k = i
        · subst hki; rw [markL_self, hsi]
        · rw [markL_ne _ hki, hset k hki]
      refine wpOp_one ho (wpList_mono' (fun e a' w' hq => ⟨hq.1, ?_⟩) _ _ _ (hop i hiz2 o ho _ a w hn' (fun k hk p hp => hc k hk p hp) (fun p hp => ready_preds hi p hp) (h1 hzn)))
      refine ih _ a' w' (hc.set hi) (by simpa using hs) (by omega) (fun _ => he ▸ hq.2) (fun h => ?_)
      rw [hset z (fun h => hiz h.symm)] at h
      rw [hzn] at h
      cases h
end
section
variable {P : Program} {l : List Oper} {Q : Exit → Act → World → Prop}
/-- A region of operations of which the last waits for all the others; these may come up in any order, and each leaves what the others have left. -/
theorem region_many {id : Nat} {a : Act} {w : World} {F : Nat → Act → World → Prop} {G : Act → World → Prop} (z : Nat) (hm : P.follows .mixedOrders = true)
    (hB : (decide (l.length = z + 1) && (List.range l.length).all (fun i => (preds .any l.toArray i).all fun p => decide (p < i)) && (List.range z).all (fun k => (ancs .any l.toArray 12 (preds .any l.toArray z)).contains k)) = true)
    (h0 : G a w.drew)
    (hop : ∀ i, i < z → ∀ a w, G a w → (∀ p ∈ preds .any l.toArray i, F p a w) → wpList P l.toArray (fun e a' w' => e = .normal ∧ G a' w' ∧ F i a' w' ∧ ∀ k, k < z → k ≠ i → F k a w → F k a' w') (pick l [i]) a w)
    (hend : ∀ a w, G a w → (∀ k, k < z → F k a w) → wpList P l.toArray (fun e a' w' => e = .normal ∧ Q .normal a' w') (pick l [z]) a w) : (Code.region id l.toArray true).wp P Q a w := by
  simp only [Bool.and_eq_true, decide_eq_true_eq] at hB
  obtain ⟨⟨hlen, hpre⟩, hanc⟩ := hB
  have hpk : ∀ i o, l.toArray[i]? = some o → pick l [i] = [o] := by
    intro i o ho
    have : l[i]? = some o := by simpa using ho
    simp [pick, List.getD_eq_getElem?_getD, this]
  refine Code.wp_mono (Q := Only Q) (fun e a w ⟨he, hq⟩ => by subst he; exact hq) (wp_region_any hm ?_)
  refine wpAny_many (F := F) (G := G) z (by simpa using hlen) (fun i hi p hp => ?_) (fun k hk => ?_) (fun i hi o ho a w hG hF => ?_) (fun o ho a w hG hF => ?_) _ _ a w.drew (fun k hk => ?_) (by simp) ?_ (fun _ => ⟨h0, fun k hk hl => ?_⟩) (fun h => ?_)
  · have := List.all_eq_true.1 hpre i (List.mem_range.2 (by simpa using hi))
    have := List.all_eq_true.1 this p hp
    simpa using this
  · have := List.all_eq_true.1 hanc k (List.mem_range.2 hk)
    simpa using this
  · have := hop i hi a w hG hF
    rw [hpk i o ho] at this
    exact this
  · have := hend a w hG hF
    rw [hpk z o ho] at this
    exact this
  · simp [Array.getD_eq_getD_getElem?, Array.getElem?_replicate] at hk; split at hk <;> simp at hk
  · unfold unl
    refine Nat.le_trans (List.length_filter_le _ _) (by simp)
  · simp [Array.getD_eq_getD_getElem?, Array.getElem?_replicate] at hl; split at hl <;> simp at hl
  · simp [Array.getD_eq_getD_getElem?, Array.getElem?_replicate] at h; split at h <;> simp at h
/-- The same, where the invariant knows what has come up. -/
theorem region_manyL {id : Nat} {a : Act} {w : World} {G : (Nat → Bool) → Act → World → Prop} (z : Nat) (hm : P.follows .mixedOrders = true)
    (hB : (decide (l.length = z + 1) && (List.range l.length).all (fun i => (preds .any l.toArray i).all fun p => decide (p < i)) && (List.range z).all (fun k => (ancs .any l.toArray 12 (preds .any l.toArray z)).contains k)) = true)
    (h0 : G (fun _ => false) a w.drew)
    (hop : ∀ i, i < z → ∀ L a w, L i = false → (∀ k, L k = true → ∀ p ∈ preds .any l.toArray k, L p = true) → (∀ p ∈ preds .any l.toArray i, L p = true) → G L a w → wpList P l.toArray (fun e a' w' => e = .normal ∧ G (markL L i) a' w') (pick l [i]) a w)
    (hend : ∀ L a w, (∀ k, k < z → L k = true) → G L a w → wpList P l.toArray (fun e a' w' => e = .normal ∧ Q .normal a' w') (pick l [z]) a w) : (Code.region id l.toArray true).wp P Q a w := by
  simp only [Bool.and_eq_true, decide_eq_true_eq] at hB
  obtain ⟨⟨hlen, hpre⟩, hanc⟩ := hB
  have hpk : ∀ i o, l.toArray[i]? = some o → pick l [i] = [o] := by
    intro i o ho
    have : l[i]? = some o := by simpa using ho
    simp [pick, List.getD_eq_getElem?_getD, this]
  have hL0 : (fun k => (Array.replicate l.toArray.size false).getD k false) = fun _ => false := by
    funext k
    simp [Array.getD_eq_getD_getElem?, Array.getElem?_replicate]
    split <;> rfl
  refine Code.wp_mono (Q := Only Q) (fun e a w ⟨he, hq⟩ => by subst he; exact hq) (wp_region_any hm ?_)
  refine wpAny_manyL (G := G) z (by simpa using hlen) (fun i hi p hp => ?_) (fun k hk => ?_) (fun i hi o ho L a w h1 h2 h3 hG => ?_) (fun o ho L a w hF hG => ?_) _ _ a w.drew (fun k hk => ?_) (by simp) ?_ (fun _ => by rw [hL0]; exact h0) (fun h => ?_)
  · have := List.all_eq_true.1 hpre i (List.mem_range.2 (by simpa using hi))
    have := List.all_eq_true.1 this p hp
    simpa using this
  · have := List.all_eq_true.1 hanc k (List.mem_range.2 hk)
    simpa using this
  · have := hop i hi L a w h1 h2 h3 hG
    rw [hpk i o ho] at this
    exact this
  · have := hend L a w hF hG
    rw [hpk z o ho] at this
    exact this
  · simp [Array.getD_eq_getD_getElem?, Array.getElem?_replicate] at hk; split at hk <;> simp at hk
  · unfold unl
    refine Nat.le_trans (List.length_filter_le _ _) (by simp)
  · simp [Array.getD_eq_getD_getElem?, Array.getElem?_replicate] at h; split at h <;> simp at h
end
end Go.Ord

set_option linter.unusedSimpArgs false
set_option linter.unusedVariables false
namespace Go.Baro
open Go.RowKit

def regV (r : Int → Int) : List Value := (List.range 24).map fun i => Value.int .i64 (r (i : Nat))
/-- The cells of a thread: its code, the next instruction, the registers, what it has told. -/
def thC (cv : Value) (p : Int) (r : Int → Int) (tv : Value) : List Value := cv :: .int .i64 p :: (regV r ++ [tv])
theorem regV_len (r : Int → Int) : (regV r).length = 24 := by simp [regV]
theorem regV_at (r : Int → Int) {i : Nat} (h : i < 24) : (regV r)[i]? = some (.int .i64 (r i)) := by simp [regV, List.getElem?_map, List.getElem?_range h]
section
variable {cv tv : Value} {p : Int} {r : Int → Int}
theorem thC_len : (thC cv p r tv).length = 27 := by simp [thC, regV_len]
theorem thC_reg {i : Nat} (h : i < 24) : (thC cv p r tv)[2 + i]? = some (.int .i64 (r i)) := by
  rw [thC, show 2 + i = i + 1 + 1 by omega, List.getElem?_cons_succ, List.getElem?_cons_succ, List.getElem?_append_left (by rw [regV_len]; exact h), regV_at r h]
theorem thC_told : (thC cv p r tv)[26]? = some tv := by
  rw [thC, show 26 = 24 + 1 + 1 by rfl, List.getElem?_cons_succ, List.getElem?_cons_succ, List.getElem?_append_right (by rw [regV_len]; omega), regV_len]; rfl
theorem thC_set_p (q : Int) : (thC cv p r tv).set 1 (.int .i64 q) = thC cv q r tv := rfl
theorem regV_set {i : Nat} (h : i < 24) (v : Int) : (regV r).set i (.int .i64 v) = regV (upd r i v) := by
  refine List.ext_getElem? fun j => ?_
  rw [List.getElem?_set]
  by_cases hj : j < 24
  · rw [regV_at _ hj, regV_at _ hj, regV_len]
    by_cases hij : i = j
    · subst hij; rw [if_pos rfl, if_pos h, upd_same]
    · rw [if_neg hij, upd_other _ _ (by omega)]
  · rw [List.getElem?_eq_none (by rw [regV_len]; omega), List.getElem?_eq_none (by rw [regV_len]; omega), if_neg (by omega)]
theorem thC_set_reg {i : Nat} (h : i < 24) (v : Int) : (thC cv p r tv).set (2 + i) (.int .i64 v) = thC cv p (upd r i v) tv := by
  rw [thC, show 2 + i = i + 1 + 1 by omega, List.set_cons_succ, List.set_cons_succ, List.set_append_left _ _ (by rw [regV_len]; exact h), regV_set h]; rfl
theorem thC_set_told (u : Value) : (thC cv p r tv).set 26 u = thC cv p r u := by
  rw [thC, show 26 = 24 + 1 + 1 by rfl, List.set_cons_succ, List.set_cons_succ, List.set_append_right _ _ (by rw [regV_len]; omega), regV_len]; rfl
end

/-- The thread lies in block b; what it has told and the shared words are rows of the call's own, in two blocks from B on. -/
structure Th (T I : TypeId) (w : World) (B b : Nat) (cv tv wv : Value) (s : Vs) : Prop where
  box : Box w b T (thC cv s.p s.r tv)
  told : w.ownsRow B I 1 tv s.t.length (s.t.map (Value.int .i64))
  words : w.ownsRow B I 1 wv s.w.length (s.w.map (Value.int .i64))
  apart : wv.ownBlock = none ∨ wv.ownBlock ≠ tv.ownBlock
  ne : I ≠ T
section
variable {T I : TypeId} {w w' : World} {B b : Nat} {cv tv wv : Value} {s : Vs}
theorem Th.lt (h : Th T I w B b cv tv wv s) : b < w.heap.size := h.box.lt
theorem Th.kept (h : Th T I w B b cv tv wv s) {row : Option Nat} (hg : w.grownBy w' row) (hb : some b ≠ row) (ht : ∀ k, tv.ownBlock = some k → some k ≠ row) (hw : ∀ k, wv.ownBlock = some k → some k ≠ row) : Th T I w' B b cv tv wv s := by
  refine ⟨h.box.grown hg hb, h.told.kept hg ?_, h.words.kept hg ?_, h.apart, h.ne⟩
  · cases hv : tv.ownBlock with
    | none => exact .inl rfl
    | some k => exact .inr (ht k hv)
  · cases hv : wv.ownBlock with
    | none => exact .inl rfl
    | some k => exact .inr (hw k hv)
theorem Th.alloc (h : Th T I w B b cv tv wv s) (o : Obj) : Th T I (w.alloc o) B b cv tv wv s := h.kept (World.grownBy_alloc w o none) (by simp) (by simp) (by simp)
theorem Th.drewN (h : Th T I w B b cv tv wv s) (n : Nat) : Th T I (w.drewN n) B b cv tv wv s := ⟨h.box, h.told, h.words, h.apart, h.ne⟩
theorem Th.drew (h : Th T I w B b cv tv wv s) : Th T I w.drew B b cv tv wv s := ⟨h.box, h.told, h.words, h.apart, h.ne⟩
theorem Th.boxed (h : Th T I w B b cv tv wv s) {i : Nat} {u : Value} {q : Int} {r : Int → Int} (hs : (thC cv s.p s.r tv).set i u = thC cv q r tv) : Th T I (w.setCell ⟨b, i, none⟩ u) B b cv tv wv { s with p := q, r := r } := by
  have hg := grown_setCell w ⟨b, i, none⟩ u
  have h1 := h.box.set i u
  rw [hs] at h1
  refine ⟨h1, h.told.kept hg ?_, h.words.kept hg ?_, h.apart, h.ne⟩
  · cases hv : tv.ownBlock with
    | none => exact .inl rfl
    | some k => exact .inr fun he => by have := h.box.ne h.told h.ne; rw [hv] at this; exact this he.symm
  · cases hv : wv.ownBlock with
    | none => exact .inl rfl
    | some k => exact .inr fun he => by have := h.box.ne h.words h.ne; rw [hv] at this; exact this he.symm
theorem Th.next (h : Th T I w B b cv tv wv s) (q : Int) : Th T I (w.setCell ⟨b, 1, none⟩ (.int .i64 q)) B b cv tv wv { s with p := q } := h.boxed (thC_set_p q)
theorem Th.reg (h : Th T I w B b cv tv wv s) {i : Nat} (hi : i < 24) (v : Int) : Th T I (w.setCell ⟨b, 2 + i, none⟩ (.int .i64 v)) B b cv tv wv { s with r := upd s.r i v } := h.boxed (thC_set_reg hi v)
theorem Th.word (h : Th T I w B b cv tv wv s) {g n c q : Nat} (hv : wv = .slice (some ⟨g, 0, none⟩) n c) (v : Int) : Th T I (w.setCell ⟨g, q, none⟩ (.int .i64 v)) B b cv tv wv { s with w := s.w.set q v } := by
  subst hv
  have hl : n = s.w.length := by
    obtain ⟨A, c', he, _⟩ := own_form h.words
    injection he
  subst hl
  have hst := World.ownsRow.stored h.words q (.int .i64 v)
  refine ⟨h.box.grown hst.2 (h.box.ne h.words h.ne), h.told.kept hst.2 ?_, ?_, h.apart, h.ne⟩
  · cases ht : tv.ownBlock with
    | none => exact .inl rfl
    | some k =>
      refine .inr fun he => ?_
      rcases h.apart with ha | ha
      · cases ha
      · rw [ht] at ha; exact ha he.symm
  · have := hst.1
    rw [← List.map_set] at this
    show World.ownsRow _ _ _ _ _ (s.w.set q v).length _
    rw [List.length_set]
    exact this
/-- One number more is told: the row has grown, and the thread has it. -/
theorem Th.tell (h : Th T I w B b cv tv wv s) {v' : Value} {x : Int} {m : Nat} {o : Obj} (hg : (w.alloc o).grownBy w' tv.ownBlock) (ho : w'.ownsRow B I 1 v' m (s.t.map (Value.int .i64) ++ [.int .i64 x])) (hm : m = s.t.length + 1)
    (hb : v'.ownBlock = tv.ownBlock ∨ v'.ownBlock = some (w.alloc o).heap.size) : Box w' b T (thC cv s.p s.r tv) ∧ Th T I (w'.setCell ⟨b, 26, none⟩ v') B b cv v' wv { s with t := s.t ++ [x] } := by
  have hb1 := (h.box.alloc o).grown hg (h.box.ne h.told h.ne)
  have hg2 := grown_setCell w' ⟨b, 26, none⟩ v'
  have hw1 : w'.ownsRow B I 1 wv s.w.length (s.w.map (Value.int .i64)) := (h.words.alloc o).kept hg h.apart
  refine ⟨hb1, ?_, ?_, ?_, ?_, h.ne⟩
  · have := hb1.set 26 v'
    rw [thC_set_told] at this
    exact this
  · show World.ownsRow _ _ _ _ _ (s.t ++ [x]).length _
    rw [List.length_append, List.length_singleton, ← hm, List.map_append]
    refine ho.kept hg2 ?_
    cases hv : v'.ownBlock with
    | none => exact .inl rfl
    | some k => exact .inr fun he => by have := hb1.ne ho h.ne; rw [hv] at this; exact this he.symm
  · refine hw1.kept hg2 ?_
    cases hv : wv.ownBlock with
    | none => exact .inl rfl
    | some k => exact .inr fun he => by have := hb1.ne hw1 h.ne; rw [hv] at this; exact this he.symm
  · rcases hb with hb | hb
    · rw [hb]; exact h.apart
    · rw [hb]
      cases hv : wv.ownBlock with
      | none => exact .inl rfl
      | some k =>
        refine .inr fun he => ?_
        have := (h.words.lt _ hv).2
        injection he with he
        simp at he
        omega
theorem Th.code (h : Th T I w B b cv tv wv s) : w.cell? ⟨b, 0, none⟩ = some cv := h.box.cell 0
theorem Th.at_ (h : Th T I w B b cv tv wv s) : w.cell? ⟨b, 1, none⟩ = some (.int .i64 s.p) := h.box.cell 1
theorem Th.get (h : Th T I w B b cv tv wv s) {i : Nat} (hi : i < 24) : w.cell? ⟨b, 2 + i, none⟩ = some (.int .i64 (s.r i)) := (h.box.cell _).trans (thC_reg hi)
theorem Th.toldv (h : Th T I w B b cv tv wv s) : w.cell? ⟨b, 26, none⟩ = some tv := (h.box.cell _).trans thC_told
/-- The shared words, where there is one. -/
theorem Th.some (h : Th T I w B b cv tv wv s) {q : Nat} (hq : q < s.w.length) : ∃ g c x, wv = .slice (Option.some ⟨g, 0, none⟩) s.w.length c ∧ B ≤ g ∧ g < w.heap.size ∧ g ≠ b ∧ w.cell? ⟨g, q, none⟩ = Option.some (.int .i64 x) ∧ Hid (s.w[q]? = Option.some x) ∧ w.frozen? ⟨g, q, none⟩ = false := by
  obtain ⟨g, c, rfl, h1, h2, h3⟩ := own_some h.words (by omega)
  obtain ⟨x, hx, HX, _⟩ := own_val h.words hq
  refine ⟨g, c, x, rfl, h1, h2, ?_, hx, HX, h.words.frozenAt q⟩
  intro he
  have := h.box.ne h.words h.ne
  exact this (by rw [he]; rfl)
end

/-- A whole struct is stored into a block of the call's own. -/
theorem store_box {P : Program} {ops : Array Oper} {rest : List Oper} {o : Oper} {a : Act} {w : World} {Q : Exit → Act → World → Prop} (hgd : o.guard = none) (hdst : o.dst = none) (ty : TypeId) (x y : Operand) (ho : o.op = .store ty x y)
    (g : Nat) (cells : List Value) (hx : a.eval x = .pointer (some ⟨g, 0, none⟩)) (hy : a.eval y = .agg cells.toArray)
    (t : TypeId) (old : List Value) (hg : Box w g t old) (hi : (P.info? ty).map (·.size) = some cells.length)
    (hold : old.length = cells.length) (h1 : ∀ v ∈ cells, v.oneCell' = true)
    (h : ∀ w', Hid (Box w' g t cells) → w.grownBy w' (some g) → wpList P ops Q rest a w') : wpList P ops Q (o :: rest) a w := by
  refine wpList_store_row hgd ty x y ho g cells.toArray hx hy t old.toArray hg (by simpa using hi) (by simpa using hold) (Array.all_eq_true_iff_forall_mem.2 (fun v hv => h1 v (by simpa using hv))) ?_
  rw [hdst]
  refine h _ (setRow_heap w g _ _ t _ hg) ⟨rfl, rfl, rfl, by simp [World.setRow], fun k _ hk => setRow_other w g k _ (fun e => hk (by rw [e]))⟩
theorem results_tmp4 {fn : Func} {t u v x : Tmp} (h : fn.results = #[.tmp t, .tmp u, .tmp v, .tmp x]) (tmps : Array Value) (P : Program) (w : World) :
    (results fn tmps).run P w = .ok (.tuple #[tmps.getD t undef, tmps.getD u undef, tmps.getD v undef, tmps.getD x undef]) w := by
  simp [results, h]
theorem thC_one {cv tv : Value} {p : Int} {r : Int → Int} (hc : cv.oneCell' = true) (ht : tv.oneCell' = true) : ∀ v ∈ thC cv p r tv, v.oneCell' = true := by
  intro v hv
  simp only [thC, regV, List.mem_cons, List.mem_append, List.mem_map, List.mem_singleton, List.not_mem_nil, or_false] at hv
  rcases hv with rfl | rfl | ⟨i, _, rfl⟩ | rfl
  · exact hc
  · rfl
  · rfl
  · exact ht
end Go.Baro

set_option linter.unusedSimpArgs false
set_option linter.unusedVariables false
namespace Go.Baro
open Go.RowKit

section
variable {pre c post : List Value} {i : Nat} {u : Value}
theorem mid_at (h : i < c.length) : (pre ++ (c ++ post))[pre.length + i]? = c[i]? := by
  rw [List.getElem?_append_right (by omega), Nat.add_sub_cancel_left, List.getElem?_append_left h]
theorem mid_set (h : i < c.length) : (pre ++ (c ++ post)).set (pre.length + i) u = pre ++ (c.set i u ++ post) := by
  rw [List.set_append_right _ _ (by omega), Nat.add_sub_cancel_left, List.set_append_left _ _ h]
end
/-- The thread lies in block b from cell o on; what it has told and the shared words are rows of the call's own, in two blocks from B on. -/
structure To (T I : TypeId) (pre post : List Value) (w : World) (B b o : Nat) (cv tv wv : Value) (s : Vs) : Prop where
  box : Box w b T (pre ++ (thC cv s.p s.r tv ++ post))
  off : pre.length = o
  told : w.ownsRow B I 1 tv s.t.length (s.t.map (Value.int .i64))
  words : w.ownsRow B I 1 wv s.w.length (s.w.map (Value.int .i64))
  apart : wv.ownBlock = none ∨ wv.ownBlock ≠ tv.ownBlock
  ne : I ≠ T
section
variable {T I : TypeId} {pre post : List Value} {w w' : World} {B b o : Nat} {cv tv wv : Value} {s : Vs}
theorem To.lt (h : To T I pre post w B b o cv tv wv s) : b < w.heap.size := h.box.lt
theorem To.kept (h : To T I pre post w B b o cv tv wv s) {row : Option Nat} (hg : w.grownBy w' row) (hb : some b ≠ row) (ht : ∀ k, tv.ownBlock = some k → some k ≠ row) (hw : ∀ k, wv.ownBlock = some k → some k ≠ row) : To T I pre post w' B b o cv tv wv s := by
  refine ⟨h.box.grown hg hb, h.off, h.told.kept hg ?_, h.words.kept hg ?_, h.apart, h.ne⟩
  · cases hv : tv.ownBlock with
    | none => exact .inl rfl
    | some k => exact .inr (ht k hv)
  · cases hv : wv.ownBlock with
    | none => exact .inl rfl
    | some k => exact .inr (hw k hv)
theorem To.alloc (h : To T I pre post w B b o cv tv wv s) (x : Obj) : To T I pre post (w.alloc x) B b o cv tv wv s := h.kept (World.grownBy_alloc w x none) (by simp) (by simp) (by simp)
theorem To.drewN (h : To T I pre post w B b o cv tv wv s) (n : Nat) : To T I pre post (w.drewN n) B b o cv tv wv s := ⟨h.box, h.off, h.told, h.words, h.apart, h.ne⟩
theorem To.drew (h : To T I pre post w B b o cv tv wv s) : To T I pre post w.drew B b o cv tv wv s := ⟨h.box, h.off, h.told, h.words, h.apart, h.ne⟩
theorem To.cell (h : To T I pre post w B b o cv tv wv s) {i : Nat} (hi : i < 27) : w.cell? ⟨b, o + i, none⟩ = (thC cv s.p s.r tv)[i]? := by
  have := h.box.cell (pre.length + i)
  rw [mid_at (by rw [thC_len]; exact hi), h.off] at this
  exact this
theorem To.boxed (h : To T I pre post w B b o cv tv wv s) {i : Nat} {u : Value} {q : Int} {r : Int → Int} (hi : i < 27) (hs : (thC cv s.p s.r tv).set i u = thC cv q r tv) : To T I pre post (w.setCell ⟨b, o + i, none⟩ u) B b o cv tv wv { s with p := q, r := r } := by
  have hg := grown_setCell w ⟨b, o + i, none⟩ u
  have h1 := h.box.set (pre.length + i) u
  rw [mid_set (by rw [thC_len]; exact hi), hs, h.off] at h1
  refine ⟨h1, h.off, h.told.kept hg ?_, h.words.kept hg ?_, h.apart, h.ne⟩
  · cases hv : tv.ownBlock with
    | none => exact .inl rfl
    | some k => exact .inr fun he => by have := h.box.ne h.told h.ne; rw [hv] at this; exact this he.symm
  · cases hv : wv.ownBlock with
    | none => exact .inl rfl
    | some k => exact .inr fun he => by have := h.box.ne h.words h.ne; rw [hv] at this; exact this he.symm
theorem To.next (h : To T I pre post w B b o cv tv wv s) (q : Int) : To T I pre post (w.setCell ⟨b, o + 1, none⟩ (.int .i64 q)) B b o cv tv wv { s with p := q } := h.boxed (by omega) (thC_set_p q)
theorem To.reg (h : To T I pre post w B b o cv tv wv s) {i : Nat} (hi : i < 24) (v : Int) : To T I pre post (w.setCell ⟨b, o + 2 + i, none⟩ (.int .i64 v)) B b o cv tv wv { s with r := upd s.r i v } := by
  rw [Nat.add_assoc]
  exact h.boxed (by omega) (thC_set_reg hi v)
theorem To.word (h : To T I pre post w B b o cv tv wv s) {g n c q : Nat} (hv : wv = .slice (some ⟨g, 0, none⟩) n c) (v : Int) : To T I pre post (w.setCell ⟨g, q, none⟩ (.int .i64 v)) B b o cv tv wv { s with w := s.w.set q v } := by
  subst hv
  have hl : n = s.w.length := by
    obtain ⟨A, c', he, _⟩ := own_form h.words
    injection he
  subst hl
  have hst := World.ownsRow.stored h.words q (.int .i64 v)
  refine ⟨h.box.grown hst.2 (h.box.ne h.words h.ne), h.off, h.told.kept hst.2 ?_, ?_, h.apart, h.ne⟩
  · cases ht : tv.ownBlock with
    | none => exact .inl rfl
    | some k =>
      refine .inr fun he => ?_
      rcases h.apart with ha | ha
      · cases ha
      · rw [ht] at ha; exact ha he.symm
  · have := hst.1
    rw [← List.map_set] at this
    show World.ownsRow _ _ _ _ _ (s.w.set q v).length _
    rw [List.length_set]
    exact this
theorem To.tell (h : To T I pre post w B b o cv tv wv s) {v' : Value} {x : Int} {m : Nat} {ob : Obj} (hg : (w.alloc ob).grownBy w' tv.ownBlock) (ho : w'.ownsRow B I 1 v' m (s.t.map (Value.int .i64) ++ [.int .i64 x])) (hm : m = s.t.length + 1)
    (hb : v'.ownBlock = tv.ownBlock ∨ v'.ownBlock = some (w.alloc ob).heap.size) : Box w' b T (pre ++ (thC cv s.p s.r tv ++ post)) ∧ To T I pre post (w'.setCell ⟨b, o + 26, none⟩ v') B b o cv v' wv { s with t := s.t ++ [x] } := by
  have hb1 := (h.box.alloc ob).grown hg (h.box.ne h.told h.ne)
  have hg2 := grown_setCell w' ⟨b, o + 26, none⟩ v'
  have hw1 : w'.ownsRow B I 1 wv s.w.length (s.w.map (Value.int .i64)) := (h.words.alloc ob).kept hg h.apart
  refine ⟨hb1, ?_, h.off, ?_, ?_, ?_, h.ne⟩
  · have := hb1.set (pre.length + 26) v'
    rw [mid_set (by rw [thC_len]; omega), thC_set_told, h.off] at this
    exact this
  · show World.ownsRow _ _ _ _ _ (s.t ++ [x]).length _
    rw [List.length_append, List.length_singleton, ← hm, List.map_append]
    refine ho.kept hg2 ?_
    cases hv : v'.ownBlock with
    | none => exact .inl rfl
    | some k => exact .inr fun he => by have := hb1.ne ho h.ne; rw [hv] at this; exact this he.symm
  · refine hw1.kept hg2 ?_
    cases hv : wv.ownBlock with
    | none => exact .inl rfl
    | some k => exact .inr fun he => by have := hb1.ne hw1 h.ne; rw [hv] at this; exact this he.symm
  · rcases hb with hb | hb
    · rw [hb]; exact h.apart
    · rw [hb]
      cases hv : wv.ownBlock with
      | none => exact .inl rfl
      | some k =>
        refine .inr fun he => ?_
        have := (h.words.lt _ hv).2
        injection he with he
        simp at he
        omega
theorem To.tellB (h : To T I pre post w B b o cv tv wv s) {v' : Value} {x : Int} {m : Nat} (hB : B ≤ w.heap.size) (hb : Below w.heap.size w w') (ho : w'.ownsRow w.heap.size I 1 v' m (s.t.map (Value.int .i64) ++ [.int .i64 x])) (hm : m = s.t.length + 1) :
    Box w' b T (pre ++ (thC cv s.p s.r tv ++ post)) ∧ To T I pre post (w'.setCell ⟨b, o + 26, none⟩ v') B b o cv v' wv { s with t := s.t ++ [x] } ∧ ∃ k, v'.ownBlock = some k ∧ w.heap.size ≤ k := by
  have hb1 : Box w' b T _ := (hb.block b h.lt).trans h.box
  have hg2 := grown_setCell w' ⟨b, o + 26, none⟩ v'
  have hw1 : w'.ownsRow B I 1 wv s.w.length (s.w.map (Value.int .i64)) := own_below h.words hb
  have hv' : ∃ k, v'.ownBlock = some k ∧ w.heap.size ≤ k := by
    rcases ho.2 with ⟨_, h0⟩ | ⟨g, cap, cur, rfl, hg, _⟩
    · omega
    · exact ⟨g, rfl, hg⟩
  obtain ⟨k', hk1, hk2⟩ := hv'
  refine ⟨hb1, ⟨?_, h.off, ?_, ?_, ?_, h.ne⟩, k', hk1, hk2⟩
  · have := hb1.set (pre.length + 26) v'
    rw [mid_set (by rw [thC_len]; omega), thC_set_told, h.off] at this
    exact this
  · show World.ownsRow _ _ _ _ _ (s.t ++ [x]).length _
    rw [List.length_append, List.length_singleton, ← hm, List.map_append]
    have h2 : w'.ownsRow B I 1 v' m (s.t.map (Value.int .i64) ++ [.int .i64 x]) := by
      refine ⟨ho.1, ?_⟩
      rcases ho.2 with q | ⟨g, cap, cur, q1, q2, q3⟩
      · exact .inl q
      · exact .inr ⟨g, cap, cur, q1, by omega, q3⟩
    refine h2.kept hg2 ?_
    refine .inr fun he => ?_
    have h3 := h.lt
    rw [hk1] at he
    injection he with he
    dsimp only at he
    omega
  · refine hw1.kept hg2 ?_
    cases hv : wv.ownBlock with
    | none => exact .inl rfl
    | some k => exact .inr fun he => by have := hb1.ne hw1 h.ne; rw [hv] at this; exact this he.symm
  · cases hv : wv.ownBlock with
    | none => exact .inl rfl
    | some k =>
      refine .inr fun he => ?_
      have := (h.words.lt _ hv).2
      rw [hk1] at he
      injection he with he
      omega
theorem To.code (h : To T I pre post w B b o cv tv wv s) : w.cell? ⟨b, o, none⟩ = some cv := h.cell (i := 0) (by omega)
theorem To.at_ (h : To T I pre post w B b o cv tv wv s) : w.cell? ⟨b, o + 1, none⟩ = some (.int .i64 s.p) := h.cell (by omega)
theorem To.get (h : To T I pre post w B b o cv tv wv s) {i : Nat} (hi : i < 24) : w.cell? ⟨b, o + 2 + i, none⟩ = some (.int .i64 (s.r i)) := by
  rw [Nat.add_assoc]
  exact (h.cell (by omega)).trans (thC_reg hi)
theorem To.toldv (h : To T I pre post w B b o cv tv wv s) : w.cell? ⟨b, o + 26, none⟩ = some tv := (h.cell (by omega)).trans thC_told
theorem To.some (h : To T I pre post w B b o cv tv wv s) {q : Nat} (hq : q < s.w.length) : ∃ g c x, wv = .slice (Option.some ⟨g, 0, none⟩) s.w.length c ∧ B ≤ g ∧ g < w.heap.size ∧ g ≠ b ∧ w.cell? ⟨g, q, none⟩ = Option.some (.int .i64 x) ∧ Hid (s.w[q]? = Option.some x) ∧ w.frozen? ⟨g, q, none⟩ = false := by
  obtain ⟨g, c, rfl, h1, h2, h3⟩ := own_some h.words (by omega)
  obtain ⟨x, hx, HX, _⟩ := own_val h.words hq
  refine ⟨g, c, x, rfl, h1, h2, ?_, hx, HX, h.words.frozenAt q⟩
  intro he
  have := h.box.ne h.words h.ne
  exact this (by rw [he]; rfl)


end
end Go.Baro

set_option linter.unusedSimpArgs false
set_option linter.unusedVariables false
namespace Go.Baro
open Go.RowKit

theorem grown_setCells : ∀ (cs : List Value) (w : World) (b o : Nat), w.grownBy (w.setCells b o cs) (some b)
  | [], w, b, o => World.grownBy.refl w _
  | v :: cs, w, b, o => grown_trans (grown_setCell w ⟨b, o, none⟩ v) (grown_setCells cs _ b (o + 1))
theorem box_setCells {b : Nat} {T : TypeId} {post : List Value} : ∀ (cs old pre : List Value) (w : World) (o : Nat), Box w b T (pre ++ (old ++ post)) → old.length = cs.length → pre.length = o → Box (w.setCells b o cs) b T (pre ++ (cs ++ post))
  | [], old, pre, w, o, h, hl, ho => by
    have : old = [] := List.eq_nil_of_length_eq_zero (by simpa using hl)
    subst this
    exact h
  | v :: cs, [], pre, w, o, h, hl, ho => by simp at hl
  | v :: cs, u :: old, pre, w, o, h, hl, ho => by
    have h1 := h.set o v
    rw [List.set_append_right _ _ (by omega), ho, Nat.sub_self, List.cons_append, List.set_cons_zero] at h1
    have h2 : Box (w.setCell ⟨b, o, none⟩ v) b T ((pre ++ [v]) ++ (old ++ post)) := by
      rw [List.append_assoc]; exact h1
    have h3 := box_setCells cs old (pre ++ [v]) _ (o + 1) h2 (by simpa using hl) (by simp [ho])
    rw [List.append_assoc] at h3
    exact h3
theorem box_there {w : World} {b o : Nat} {T : TypeId} {pre old post : List Value} (h : Box w b T (pre ++ (old ++ post))) (ho : pre.length = o) : w.there b o old.length := by
  intro j hj
  refine ⟨?_, h.frozen _⟩
  have := h.cell (pre.length + j)
  rw [mid_at hj, ho] at this
  rw [this, List.getElem?_eq_getElem hj]
  rfl
theorem box_range {w : World} {b o : Nat} {T : TypeId} {pre old post : List Value} (h : Box w b T (pre ++ (old ++ post))) (ho : pre.length = o) : w.rangeAt b o old := by
  intro j v hv
  have hj := (List.getElem?_eq_some_iff.1 hv).1
  have := h.cell (pre.length + j)
  rw [mid_at hj, ho] at this
  rw [this, hv]
/-- A struct is stored into the middle of a block. -/
theorem store_mid {P : Program} {ops : Array Oper} {rest : List Oper} {op : Oper} {a : Act} {w : World} {Q : Exit → Act → World → Prop} (hgd : op.guard = none) (hdst : op.dst = none) (ty : TypeId) (x y : Operand) (hop : op.op = .store ty x y)
    (b o : Nat) (cells : List Value) (hx : a.eval x = .pointer (some ⟨b, o, none⟩)) (hy : a.eval y = .agg cells.toArray) (T : TypeId) (pre old post : List Value) (h : Box w b T (pre ++ (old ++ post))) (ho : pre.length = o) (hl : old.length = cells.length)
    (hi : (P.info? ty).map (·.size) = some cells.length) (h1 : ∀ v ∈ cells, v.oneCell' = true) (hK : ∀ w', Hid (Box w' b T (pre ++ (cells ++ post))) → w.grownBy w' (some b) → wpList P ops Q rest a w') : wpList P ops Q (op :: rest) a w := by
  refine wpList_store_mid hgd ty x y hop b o cells.toArray hx hy (by have := box_there h ho; rw [hl] at this; simpa using this) (by simpa using hi) (all_oneCell_toArray h1) ?_
  rw [hdst]
  exact hK _ (box_setCells cells old pre w o h hl ho) (grown_setCells cells w b o)
/-- A struct is read out of the middle of a block. -/
theorem load_mid {P : Program} {ops : Array Oper} {rest : List Oper} {op : Oper} {a : Act} {w : World} {Q : Exit → Act → World → Prop} (hgd : op.guard = none) (ty : TypeId) (x : Operand) (hop : op.op = .load ty x)
    (b o : Nat) (hx : a.eval x = .pointer (some ⟨b, o, none⟩)) (T : TypeId) (pre cells post : List Value) (h : Box w b T (pre ++ (cells ++ post))) (ho : pre.length = o) (d : TypeDesc) (hu : P.underlying ty = some d) (hd : d.isRow = true) (hi : (P.info? ty).map (·.size) = some cells.length)
    (hK : wpList P ops Q rest (a.put op.dst (.agg cells.toArray)) w) : wpList P ops Q (op :: rest) a w :=
  wpList_load_mid hgd ty x hop b o hx cells d (box_range h ho) hu hd hi hK
end Go.Baro

set_option linter.unusedSimpArgs false
set_option linter.unusedVariables false
namespace Go.Proofs.YtnchgdjdfhfedaaGreatDoor
open Go.RowKit Go.Ord Go.Baro

theorem eltCall : Elt Tryz.prog 38 40 (.agg #[.int .i64 0, .slice none 0 0]) 2 32 := Elt.mk' Tryz.underlying38 (by kernel_rfl) rfl (by decide)
theorem eltThr : Elt Tryz.prog 35 38 (.slice none 0 0) 1 24 := Elt.mk' Tryz.underlying35 (by kernel_rfl) rfl (by decide)
/-- The types that change while the calls are written. -/
def tCall (t : TypeId) : Prop := t = 40 ∨ t = 38
theorem tCall_int : ¬ tCall 3 := by unfold tCall; decide
theorem tCall_op : ¬ tCall 67 := by unfold tCall; decide
theorem tCall_code : ¬ tCall 28 := by unfold tCall; decide
theorem tCall_mach : ¬ tCall 37 := by unfold tCall; decide
end Go.Proofs.YtnchgdjdfhfedaaGreatDoor

set_option linter.unusedSimpArgs false
set_option linter.unusedVariables false
namespace Go.Proofs.YtnchgdjdfhfedaaGreatDoor
open Go.RowKit Go.Ord Go.Baro

theorem tmod_pick (a n : Int) (hn : 0 < n) : (if a.tmod n < 0 then a.tmod n + n else a.tmod n) = a % n := by
  have h1 := Int.tmod_eq_emod (a := a) (b := n)
  have h2 := Int.emod_nonneg a (show n ≠ 0 by omega)
  have h3 := Int.emod_lt_of_pos a hn
  rw [h1]
  split <;> split <;> omega

theorem keep_Picked (a n : Int) (w : World) (hn : 0 < n) (hn1 : n ≤ 4611686018427387904) :
    Calls Tryz.prog 4 #[.int .i64 a, .int .i64 n] w fun e w' => e = .returned (.int .i64 (a % n)) ∧ w = w' := by
  have HT := Lib.hid (tmod_pick a n hn)
  have hb1 : -n < a.tmod n := Int.lt_tmod_of_pos a hn
  have hb2 : a.tmod n < n := Int.tmod_lt_of_pos a hn
  have hne : (n == 0) = false := by simp; omega
  by_cases h : a.tmod n < 0
  · go_enter Tryz.func4, Tryz.ntmps4
    go_wp2
    go_ret
    refine ⟨ret_int ?_, rfl⟩
    have := HT.out
    rw [if_pos h] at this
    exact this
  · go_enter Tryz.func4, Tryz.ntmps4
    go_wp2
    go_ret
    refine ⟨ret_int ?_, rfl⟩
    have := HT.out
    rw [if_neg (by omega)] at this
    exact this
end Go.Proofs.YtnchgdjdfhfedaaGreatDoor

set_option linter.unusedSimpArgs false
set_option linter.unusedVariables false
namespace Go.Baro
open Go.ChangeShapes Go.WideShapes Go.ChangeAt Go.RowKit
section
variable {H : Type} {enc : TypeId × Value → H} {P : Program} {W : World}
/-- A slice whose elements open. -/
theorem open_RG {α : Type} {s : Nat} {R : World → Nat → List Value → α → Prop} {ok : α → Prop} {t e : TypeId} {a : Option Addr} {len cap : Nat} {d : DataW H} {p : List MemPlace} (ht : P.underlying t = some (.slice e)) (hc : P.cellsOf e = s) (hs : 0 < s)
    (hrow : ∀ n r y, r.length = s → DataW.trod enc P W 0 (fun _ => true) true n e r = some y → ∃ x, R W W.heap.size r x ∧ ok x)
    (h : DataW.Trod enc P W 0 (fun _ => true) true t (.slice a len cap) d p) : ∃ ls : List α, RG s R W W.heap.size a len ls ∧ (∀ x ∈ ls, ok x) ∧ len ≤ cap := by
  obtain ⟨rows, hr, hl, hrw, hlc, _⟩ := open_rows ht hc hs h
  obtain ⟨us, ls, he, hul, hp, hq⟩ := zip_of (f := fun r : List Value => r) (R := fun r x => R W W.heap.size r x ∧ ok x) rows (by
    intro r hr
    obtain ⟨h1, y, n, hy⟩ := hrw r hr
    obtain ⟨x, hx⟩ := hrow n r y h1 hy
    exact ⟨r, x, rfl, hx⟩)
  rw [show us.map (fun r : List Value => r) = us from List.map_id us] at he
  subst he
  refine ⟨ls, ⟨rows, hul, fun r hr => (hrw r hr).1, hr, fun i r x h1 h2 => (hp i r x h1 h2).1⟩, fun x hx => ?_, hlc⟩
  obtain ⟨r, hr⟩ := hq x hx
  exact hr.2
/-- A cell that is a slice. -/
theorem open_cell {e b : TypeId} {n : Nat} {r : List Value} {y : DataW H × List MemPlace} (he : P.underlying e = some (.slice b)) (h : DataW.trod enc P W 0 (fun _ => true) true n e r = some y) :
    ∃ A len cap, r = [.slice A len cap] ∧ cap ≤ 9223372036854775807 ∧ DataW.Trod enc P W 0 (fun _ => true) true e (.slice A len cap) y.1 y.2 := by
  have hm : ∃ A len cap, r = [.slice A len cap] ∧ cap ≤ maxLen := by
    rcases DataW.trod_slice he h with ⟨hcs, _⟩ | ⟨x, l, c, _, _, _, _, hcs, _, _, _, hm, _⟩
    · exact ⟨none, 0, 0, hcs, by unfold maxLen; omega⟩
    · exact ⟨some x, l, c, hcs, hm⟩
  obtain ⟨A, len, cap, rfl, hm⟩ := hm
  exact ⟨A, len, cap, rfl, by unfold maxLen at hm; omega, n, by simpa [Value.cells] using h⟩
def okCo (c : List Ins) : Prop := c.length ≤ 9223372036854775807 ∧ ∀ o ∈ c, inI o
def okCa (c : Cl) : Prop := inW c.k ∧ c.ar.length ≤ 9223372036854775807 ∧ ∀ x ∈ c.ar, inW x
def okTh (t : List Cl) : Prop := t.length ≤ 9223372036854775807 ∧ ∀ c ∈ t, okCa c
/-- The codes. -/
theorem open_RCs {t e o i : TypeId} {f0 f1 f2 f3 f4 : Field} {a : Option Addr} {len cap : Nat} {d : DataW H} {p : List MemPlace} (ht : P.underlying t = some (.slice e)) (hce : P.cellsOf e = 1) (he : P.underlying e = some (.slice o)) (ho : P.underlying o = some (.struct #[f0, f1, f2, f3, f4])) (hco : P.cellsOf o = 5)
    (hi : P.underlying i = some (.int .i64)) (hci : P.cellsOf i = 1) (hf : [f0, f1, f2, f3, f4].map (fun f => (f.type, f.offset)) = [(i, 0), (i, 1), (i, 2), (i, 3), (i, 4)])
    (h : DataW.Trod enc P W 0 (fun _ => true) true t (.slice a len cap) d p) : ∃ ls, RCs W W.heap.size a len ls ∧ (∀ c ∈ ls, okCo c) ∧ len ≤ cap := by
  refine open_RG ht hce (by decide) (fun n r y hr hy => ?_) h
  obtain ⟨A, l, c, rfl, hm, hT⟩ := open_cell he hy
  obtain ⟨fs, h1, h2, h3, _⟩ := open_RO he ho hco hi hci hf hT
  exact ⟨fs, ⟨A, l, c, rfl, h3, h1⟩, by rw [h1.len]; omega, h2⟩
/-- The calls of a thread. -/
theorem open_RLs {t e v i : TypeId} {f0 f1 : Field} {a : Option Addr} {len cap : Nat} {d : DataW H} {p : List MemPlace} (ht : P.underlying t = some (.slice e)) (hce : P.cellsOf e = 2) (he : P.underlying e = some (.struct #[f0, f1]))
    (hi : P.underlying i = some (.int .i64)) (hci : P.cellsOf i = 1) (hv : P.underlying v = some (.slice i)) (hcv : P.cellsOf v = 1) (hf : (f0.type, f0.offset, f1.type, f1.offset) = (i, 0, v, 1))
    (h : DataW.Trod enc P W 0 (fun _ => true) true t (.slice a len cap) d p) : ∃ ls, RLs W W.heap.size a len ls ∧ (∀ c ∈ ls, okCa c) ∧ len ≤ cap := by
  simp only [Prod.mk.injEq] at hf
  obtain ⟨e0, o0, e1, o1⟩ := hf
  refine open_RG ht hce (by decide) (fun n r y hr hy => ?_) h
  obtain ⟨y0, y1, m, _, _, h0, h1⟩ := trod_struct2 he hy
  rw [e0, o0, hci] at h0
  rw [e1, o1, hcv] at h1
  obtain ⟨k, hk, _, wk⟩ := DataW.trod_int hi h0
  obtain ⟨A, l, c, hr1, hm, hT⟩ := open_cell hv h1
  obtain ⟨xs, h3, h4, h5, _⟩ := open_RI hv hi hci hT
  match r, hr with
  | [u0, u1], _ =>
    simp at hk hr1
    subst hk hr1
    exact ⟨⟨k, xs⟩, ⟨A, l, c, rfl, h5, h3⟩, bounds_i64 wk, by rw [h3.len]; omega, fun x hx => bounds_i64 (h4 x hx)⟩
/-- The threads. -/
theorem open_RTs {t u e v i : TypeId} {f0 f1 : Field} {a : Option Addr} {len cap : Nat} {d : DataW H} {p : List MemPlace} (ht : P.underlying t = some (.slice u)) (hcu : P.cellsOf u = 1) (hu : P.underlying u = some (.slice e)) (hce : P.cellsOf e = 2) (he : P.underlying e = some (.struct #[f0, f1]))
    (hi : P.underlying i = some (.int .i64)) (hci : P.cellsOf i = 1) (hv : P.underlying v = some (.slice i)) (hcv : P.cellsOf v = 1) (hf : (f0.type, f0.offset, f1.type, f1.offset) = (i, 0, v, 1))
    (h : DataW.Trod enc P W 0 (fun _ => true) true t (.slice a len cap) d p) : ∃ ls, RTs W W.heap.size a len ls ∧ (∀ c ∈ ls, okTh c) ∧ len ≤ cap := by
  refine open_RG ht hcu (by decide) (fun n r y hr hy => ?_) h
  obtain ⟨A, l, c, rfl, hm, hT⟩ := open_cell hu hy
  obtain ⟨ls, h1, h2, h3⟩ := open_RLs hu hce he hi hci hv hcv hf hT
  exact ⟨ls, ⟨A, l, c, rfl, h3, h1⟩, by rw [h1.len]; omega, h2⟩
/-- What is known of a machine that came in. -/
structure InM (W : World) (Aw : Option Addr) (nw cw : Nat) (Ac : Option Addr) (nc cc : Nat) (At : Option Addr) (nt ct : Nat) (m : Mc) : Prop where
  ws : RI W W.heap.size .i64 Aw nw m.ws
  cs : RCs W W.heap.size Ac nc m.cs
  ts : RTs W W.heap.size At nt m.ts
  wok : ∀ x ∈ m.ws, inW x
  cok : ∀ c ∈ m.cs, okCo c
  tok : ∀ t ∈ m.ts, okTh t
  lw : nw ≤ cw ∧ cw ≤ 9223372036854775807
  lc : nc ≤ cc ∧ cc ≤ 9223372036854775807
  lt : nt ≤ ct ∧ ct ≤ 9223372036854775807
theorem InM.below {W W' : World} {Aw : Option Addr} {nw cw : Nat} {Ac : Option Addr} {nc cc : Nat} {At : Option Addr} {nt ct : Nat} {m : Mc} (h : InM W Aw nw cw Ac nc cc At nt ct m) (hb : Below W.heap.size W W') : InM W' Aw nw cw Ac nc cc At nt ct m :=
  ⟨(h.ws.below hb).more hb.size, (h.cs.below hb).more hb.size, (h.ts.below hb).more hb.size, h.wok, h.cok, h.tok, h.lw, h.lc, h.lt⟩
theorem open_Mc {r : Reach} {b0 : Nat} {t tw tc te to tt tu tl i : TypeId} {f0 f1 f2 g0 g1 g2 g3 g4 k0 k1 : Field} {v : Value} {d : DataW H} {p : List MemPlace} (hs : P.underlying t = some (.struct #[f0, f1, f2])) (hone : Go.Deep.oneCellFields P #[f0, f1, f2] = true) (hC : P.cellsOf t = 3)
    (hf : (f0.type, f1.type, f2.type) = (tw, tc, tt)) (hi : P.underlying i = some (.int .i64)) (hci : P.cellsOf i = 1) (hw : P.underlying tw = some (.slice i)) (hcw : P.cellsOf tw = 1)
    (hc : P.underlying tc = some (.slice te)) (hce : P.cellsOf te = 1) (he : P.underlying te = some (.slice to)) (ho : P.underlying to = some (.struct #[g0, g1, g2, g3, g4])) (hco : P.cellsOf to = 5) (hg : [g0, g1, g2, g3, g4].map (fun f => (f.type, f.offset)) = [(i, 0), (i, 1), (i, 2), (i, 3), (i, 4)])
    (ht : P.underlying tt = some (.slice tu)) (hcu : P.cellsOf tu = 1) (hu : P.underlying tu = some (.slice tl)) (hcl : P.cellsOf tl = 2) (hl : P.underlying tl = some (.struct #[k0, k1])) (hk : (k0.type, k0.offset, k1.type, k1.offset) = (i, 0, tw, 1))
    (hv : Value.okWide P W r b0 t v) (h : DataW.Trod enc P W 0 (fun _ => true) true t v d p) :
    ∃ Aw nw cw Ac nc cc At nt ct m, v = .agg #[.slice Aw nw cw, .slice Ac nc cc, .slice At nt ct] ∧ InM W Aw nw cw Ac nc cc At nt ct m := by
  obtain ⟨v0, v1, v2, y0, y1, y2, n, rfl, _, _, h0, h1, h2⟩ := Go.Joins.open_agg3 hs hone hC hv h
  simp only [Prod.mk.injEq] at hf
  obtain ⟨e0, e1, e2⟩ := hf
  rw [e0] at h0
  rw [e1] at h1
  rw [e2] at h2
  obtain ⟨Aw, nw, cw, q0, m0, T0⟩ := open_cell hw h0
  obtain ⟨Ac, nc, cc, q1, m1, T1⟩ := open_cell hc h1
  obtain ⟨At, nt, ct, q2, m2, T2⟩ := open_cell ht h2
  simp only [List.cons.injEq, and_true] at q0 q1 q2
  subst q0 q1 q2
  obtain ⟨ws, a1, a2, a3, _⟩ := open_RI hw hi hci T0
  obtain ⟨cs, b1, b2, b3⟩ := open_RCs hc hce he ho hco hi hci hg T1
  obtain ⟨ts, c1, c2, c3⟩ := open_RTs ht hcu hu hcl hl hi hci hw hcw hk T2
  exact ⟨Aw, nw, cw, Ac, nc, cc, At, nt, ct, ⟨ws, cs, ts⟩, rfl, a1, b1, c1, fun x hx => bounds_i64 (a2 x hx), b2, c2, ⟨a3, m0⟩, ⟨b3, m1⟩, c3, m2⟩
end
end Go.Baro
