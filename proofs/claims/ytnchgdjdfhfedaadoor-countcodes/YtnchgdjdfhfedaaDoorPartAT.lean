/- Of this claim's own texts these, one behind the other: LibD, HistPure. No statement of the seat is proved here; no condition but those that stand at the theorems. -/
import Derived.Test.YtnchgdjdfhfedaaDoorPartAS
import Derived.Test.YtnchgdjdfhfedaaDoorPartAQ
import Derived.Test.YtnchgdjdfhfedaaDoorPartAI
set_option linter.unusedSimpArgs false
set_option linter.unusedVariables false
namespace Go.Baro
open Go.RowKit

/-- The cells of a call, beside what it tells. -/
def dgC (p : Dg × Value) : List Value := [.int .i64 p.1.b, .int .i64 p.1.e, .int .i64 p.1.th, .int .i64 p.1.cl, p.2]
theorem dgC_len (p : Dg × Value) : (dgC p).length = 5 := rfl
/-- What a call tells lies in a slice. -/
def tld (w : World) (B : Nat) (p : Dg × Value) : Prop := ∃ A n k, p.2 = .slice A n k ∧ n ≤ k ∧ n ≤ 200 ∧ RI w B .i64 A n p.1.to
def RDg (w : World) (B : Nat) (A : Option Addr) (n : Nat) (L : List (Dg × Value)) : Prop := Rd w B 5 A n (L.flatMap dgC) ∧ ∀ p ∈ L, tld w B p
section
variable {w w' : World} {B B' n : Nat} {A : Option Addr} {L : List (Dg × Value)}
theorem tld.below {p : Dg × Value} (h : tld w B p) (hb : Below B w w') : tld w' B p := by obtain ⟨A, n, k, h1, h2, h3, h4⟩ := h; exact ⟨A, n, k, h1, h2, h3, h4.below hb⟩
theorem tld.more {p : Dg × Value} (h : tld w B p) (hB : B ≤ B') : tld w B' p := by obtain ⟨A, n, k, h1, h2, h3, h4⟩ := h; exact ⟨A, n, k, h1, h2, h3, h4.more hB⟩
theorem RDg.below (h : RDg w B A n L) (hb : Below B w w') : RDg w' B A n L := ⟨Rd.below h.1 hb, fun p hp => (h.2 p hp).below hb⟩
theorem RDg.more (h : RDg w B A n L) (hB : B ≤ B') : RDg w B' A n L := ⟨Rd.more h.1 hB, fun p hp => (h.2 p hp).more hB⟩
theorem RDg.len (h : RDg w B A n L) : L.length = n := by have := Rd.len h.1; rw [flatMap_len dgC_len] at this; omega
theorem RDg.val (h : RDg w B A n L) {i : Nat} (hi : i < n) : ∃ b o d A' n' k, A = some ⟨b, o, none⟩ ∧ b < B ∧ w.cell? ⟨b, o + i * 5, none⟩ = some (.int .i64 d.b) ∧ w.cell? ⟨b, o + i * 5 + 1, none⟩ = some (.int .i64 d.e) ∧ w.cell? ⟨b, o + i * 5 + 2, none⟩ = some (.int .i64 d.th) ∧
    w.cell? ⟨b, o + i * 5 + 3, none⟩ = some (.int .i64 d.cl) ∧ w.cell? ⟨b, o + i * 5 + 4, none⟩ = some (.slice A' n' k) ∧ n' ≤ k ∧ n' ≤ 200 ∧ RI w B .i64 A' n' d.to ∧ Hid (L[i]? = some (d, .slice A' n' k)) ∧ Hid ((L.map Prod.fst)[i]? = some d) := by
  have hl := h.len
  have hi2 : i < L.length := by omega
  obtain ⟨b, o, hA, hb, hc⟩ := Rd.at_ h.1 (by omega)
  have key : ∀ j, j < 5 → w.cell? ⟨b, o + i * 5 + j, none⟩ = (dgC L[i])[j]? := fun j hj => by
    rw [Nat.add_assoc, hc _ (by omega), flatMap_at dgC_len L i j _ (List.getElem?_eq_getElem hi2) hj]
  obtain ⟨A', n', k, q1, q2, q3, q4⟩ := h.2 L[i] (List.getElem_mem hi2)
  have h4 := key 4 (by omega)
  have hLi : L[i]? = some (L[i].1, .slice A' n' k) := by rw [List.getElem?_eq_getElem hi2, ← q1]
  refine ⟨b, o, L[i].1, A', n', k, hA, hb, key 0 (by omega), key 1 (by omega), key 2 (by omega), key 3 (by omega), ?_, q2, q3, q4, hLi, ?_⟩
  · rw [h4]; simp [dgC, q1]
  · show _ = _
    rw [List.getElem?_map, hLi]; rfl
theorem flat_fin : ∀ (L : List (Dg × Value)) (k : Nat) (p : Dg × Value) (e : Int) (to : List Int) (v : Value), L[k]? = some p → ((L.flatMap dgC).set (k * 5 + 1) (.int .i64 e)).set (k * 5 + 4) v = (L.set k (⟨p.1.b, e, p.1.th, p.1.cl, to⟩, v)).flatMap dgC
  | [], k, p, e, to, v, h => by simp at h
  | a :: L, 0, p, e, to, v, h => by
    simp only [List.getElem?_cons_zero, Option.some.injEq] at h
    subst h
    simp [dgC]
  | a :: L, k + 1, p, e, to, v, h => by
    have ih := flat_fin L k p e to v (by simpa using h)
    rw [List.flatMap_cons, List.set_cons_succ, List.flatMap_cons, ← ih, show (k + 1) * 5 + 1 = k * 5 + 1 + 5 by omega, show (k + 1) * 5 + 4 = k * 5 + 4 + 5 by omega]
    simp [dgC]
/-- Calls of the call's own. -/
def OwnD (w : World) (B : Nat) (e : TypeId) (v : Value) (n : Nat) (L : List (Dg × Value)) : Prop := w.ownsRow B e 5 v n (L.flatMap dgC)
theorem OwnD.len {e : TypeId} {v : Value} (h : OwnD w B e v n L) : L.length = n := by have := h.1; rw [flatMap_len dgC_len] at this; omega
theorem OwnD.val {e : TypeId} {g c : Nat} (h : OwnD w B e (.slice (some ⟨g, 0, none⟩) n c) n L) {i : Nat} (hi : i < n) : ∃ p, Hid (L[i]? = some p) ∧ p ∈ L ∧ w.cell? ⟨g, i * 5, none⟩ = some (.int .i64 p.1.b) ∧ w.cell? ⟨g, i * 5 + 1, none⟩ = some (.int .i64 p.1.e) ∧ w.cell? ⟨g, i * 5 + 2, none⟩ = some (.int .i64 p.1.th) ∧
    w.cell? ⟨g, i * 5 + 3, none⟩ = some (.int .i64 p.1.cl) ∧ w.cell? ⟨g, i * 5 + 4, none⟩ = some p.2 ∧ w.frozen? ⟨g, i * 5 + 1, none⟩ = false ∧ w.frozen? ⟨g, i * 5 + 4, none⟩ = false := by
  have hl := h.len
  have hi2 : i < L.length := by omega
  have key : ∀ j, j < 5 → w.cell? ⟨g, i * 5 + j, none⟩ = (dgC L[i])[j]? := fun j hj => by
    rw [World.ownsRow.cellAt h _ (by omega), flatMap_at dgC_len L i j _ (List.getElem?_eq_getElem hi2) hj]
  exact ⟨L[i], List.getElem?_eq_getElem hi2, List.getElem_mem hi2, key 0 (by omega), key 1 (by omega), key 2 (by omega), key 3 (by omega), key 4 (by omega), World.ownsRow.frozenAt h _, World.ownsRow.frozenAt h _⟩
theorem OwnD.fin {e : TypeId} {g c : Nat} (h : OwnD w B e (.slice (some ⟨g, 0, none⟩) n c) n L) {i : Nat} {p : Dg × Value} (hp : L[i]? = some p) (en : Int) (to : List Int) (v : Value) :
    OwnD ((w.setCell ⟨g, i * 5 + 1, none⟩ (.int .i64 en)).setCell ⟨g, i * 5 + 4, none⟩ v) B e (.slice (some ⟨g, 0, none⟩) n c) n (L.set i (⟨p.1.b, en, p.1.th, p.1.cl, to⟩, v)) := by
  unfold OwnD
  rw [← flat_fin L i p en to v hp]
  exact (World.ownsRow.stored (World.ownsRow.stored h (i * 5 + 1) (.int .i64 en)).1 (i * 5 + 4) v).1
end
/-- The calls of which the first k are ended by an event. -/
def finP (x : Ev) (v : Value) (p : Dg × Value) : Dg × Value := if p.1.is x then (⟨p.1.b, x.st, p.1.th, p.1.cl, x.to⟩, v) else p
def finK (x : Ev) (v : Value) (k : Nat) (L : List (Dg × Value)) : List (Dg × Value) := (L.take k).map (finP x v) ++ L.drop k
theorem finP_fst (x : Ev) (v : Value) (p : Dg × Value) : (finP x v p).1 = p.1.fin x := by unfold finP Dg.fin; split <;> rfl
theorem finK_zero (x : Ev) (v : Value) (L : List (Dg × Value)) : finK x v 0 L = L := by simp [finK]
theorem finK_len (x : Ev) (v : Value) (k : Nat) (L : List (Dg × Value)) : (finK x v k L).length = L.length := by simp [finK]; omega
theorem finK_all {x : Ev} {v : Value} {k : Nat} {L : List (Dg × Value)} (h : L.length ≤ k) : (finK x v k L).map Prod.fst = (L.map Prod.fst).map (fun d => d.fin x) := by
  unfold finK
  rw [List.take_of_length_le h, List.drop_eq_nil_of_le h, List.append_nil, List.map_map, List.map_map]
  exact List.map_congr_left fun p _ => finP_fst x v p
theorem finK_at {x : Ev} {v : Value} {k : Nat} {L : List (Dg × Value)} : (finK x v k L)[k]? = L[k]? := by
  unfold finK
  by_cases h : k ≤ L.length
  · rw [List.getElem?_append_right (by simp; omega)]
    simp
    rw [show k - min k L.length = 0 by omega, Nat.add_zero]
  · rw [List.getElem?_eq_none (by simp; omega), List.getElem?_eq_none (by omega)]
theorem finK_succ {x : Ev} {v : Value} {k : Nat} {L : List (Dg × Value)} {p : Dg × Value} (hp : L[k]? = some p) : finK x v (k + 1) L = (finK x v k L).set k (finP x v p) := by
  have hk := (List.getElem?_eq_some_iff.1 hp).1
  have he := (List.getElem?_eq_some_iff.1 hp).2
  unfold finK
  rw [List.take_add_one, hp, Option.toList_some, List.map_append, List.map_singleton, List.append_assoc, List.drop_eq_getElem_cons hk, List.set_append_right _ _ (by simp; omega), show k - ((L.take k).map (finP x v)).length = 0 by simp; omega]
  rfl
theorem finK_skip {x : Ev} {v : Value} {k : Nat} {L : List (Dg × Value)} {p : Dg × Value} (hp : L[k]? = some p) (h : ¬ p.1.is x) : finK x v (k + 1) L = finK x v k L := by
  rw [finK_succ hp]
  unfold finP
  rw [if_neg h]
  have hk := (List.getElem?_eq_some_iff.1 hp).1
  apply List.ext_getElem?
  intro j
  by_cases hj : k = j
  · subst hj
    rw [List.getElem?_set_self (by rw [finK_len]; exact hk), finK_at, hp]
  · rw [List.getElem?_set_ne hj]
theorem finK_mem {x : Ev} {v : Value} {k : Nat} {L : List (Dg × Value)} {q : Dg × Value} (h : q ∈ finK x v k L) : q ∈ L ∨ (q.2 = v ∧ q.1.to = x.to) := by
  unfold finK at h
  rcases List.mem_append.1 h with h | h
  · obtain ⟨p, hp, rfl⟩ := List.mem_map.1 h
    unfold finP
    split
    · exact .inr ⟨rfl, rfl⟩
    · exact .inl (List.mem_of_mem_take hp)
  · exact .inl (List.mem_of_mem_drop h)
end Go.Baro

set_option linter.unusedSimpArgs false
set_option linter.unusedVariables false
namespace Go.Baro
open Go.RowKit

/-- The call of a thread. -/
def clOf (m : Mc) (th cl : Nat) : Cl := ((m.ts[th]?.getD [])[cl]?).getD ⟨0, []⟩
/-- The key of a call. -/
def hK (d : Dg) : Int := 100 * d.th + d.cl
/-- A call as an operation: pf tells whether it puts, what, and whether it is told as it must be. -/
def hA1 (m : Mc) (pf : Cl → List Int → Bool → Bool × Int × Bool) (d : Dg) : Ac := if d.e = -1 then ⟨d.b, -1, false, 0, 0⟩ else ⟨d.b, d.e, (pf (clOf m d.th d.cl) d.to true).1, (pf (clOf m d.th d.cl) d.to true).2.1, 0⟩
def hA (m : Mc) (pf : Cl → List Int → Bool → Bool × Int × Bool) (d : Dg) : Ac := if d.e = -1 then ⟨d.b, -1, (pf (clOf m d.th d.cl) [] false).1, (pf (clOf m d.th d.cl) [] false).2.1, 0⟩ else hA1 m pf d
/-- What is asked of the events. -/
structure HistOk (m : Mc) (pf : Cl → List Int → Bool → Bool × Int × Bool) (G : Cl → Prop) (T : List Ev) : Prop where
  rng : ∀ x ∈ T, x.th < m.ts.length ∧ x.cl < (m.ts[x.th]?.getD []).length
  drng : ∀ j, ∀ d ∈ dgs (T.take j), d.th < m.ts.length ∧ d.cl < (m.ts[d.th]?.getD []).length
  uq : ∀ (j : Nat) (x : Ev), T[j]? = some x → x.en = true → ∀ d ∈ dgs (T.take j), d.th = x.th → d.cl = x.cl → d.e = -1
  okE : ∀ x ∈ T, x.en = true → (pf (clOf m x.th x.cl) x.to true).2.2 = true
  okO : ∀ d ∈ dgs T, d.e = -1 → (pf (clOf m d.th d.cl) [] false).2.2 = true
  good : ∀ t ∈ m.ts, ∀ c ∈ t, G c
theorem clOf_at {m : Mc} {t c : Nat} {l : List Cl} {x : Cl} (h1 : m.ts[t]? = some l) (h2 : l[c]? = some x) : clOf m t c = x := by simp [clOf, h1, h2]
/-- The calls of which the first k are ended by an event. -/
def finD (x : Ev) (k : Nat) (D : List Dg) : List Dg := (D.take k).map (fun d => d.fin x) ++ D.drop k
theorem finD_zero (x : Ev) (D : List Dg) : finD x 0 D = D := by simp [finD]
theorem finD_len (x : Ev) (k : Nat) (D : List Dg) : (finD x k D).length = D.length := by simp [finD]; omega
theorem finD_all {x : Ev} {k : Nat} {D : List Dg} (h : D.length ≤ k) : finD x k D = D.map (fun d => d.fin x) := by
  unfold finD
  rw [List.take_of_length_le h, List.drop_eq_nil_of_le h, List.append_nil]
theorem finD_at {x : Ev} {k : Nat} {D : List Dg} : (finD x k D)[k]? = D[k]? := by
  unfold finD
  by_cases h : k ≤ D.length
  · rw [List.getElem?_append_right (by simp; omega)]
    simp
    rw [show k - min k D.length = 0 by omega, Nat.add_zero]
  · rw [List.getElem?_eq_none (by simp; omega), List.getElem?_eq_none (by omega)]
theorem finD_succ {x : Ev} {k : Nat} {D : List Dg} {d : Dg} (hp : D[k]? = some d) : finD x (k + 1) D = (finD x k D).set k (d.fin x) := by
  have hk := (List.getElem?_eq_some_iff.1 hp).1
  unfold finD
  rw [List.take_add_one, hp, Option.toList_some, List.map_append, List.map_singleton, List.append_assoc, List.drop_eq_getElem_cons hk, List.set_append_right _ _ (by simp; omega), show k - ((D.take k).map (fun d => d.fin x)).length = 0 by simp; omega]
  rfl
theorem finD_skip {x : Ev} {k : Nat} {D : List Dg} {d : Dg} (hp : D[k]? = some d) (h : ¬ d.is x) : finD x (k + 1) D = finD x k D := by
  rw [finD_succ hp]
  unfold Dg.fin
  rw [if_neg h]
  have hk := (List.getElem?_eq_some_iff.1 hp).1
  apply List.ext_getElem?
  intro j
  by_cases hj : k = j
  · subst hj
    rw [List.getElem?_set_self (by rw [finD_len]; exact hk), finD_at, hp]
  · rw [List.getElem?_set_ne hj]
theorem flat_ac : ∀ (L : List Ac) (k : Nat) (a : Ac) (e v : Int) (p : Bool), L[k]? = some a → (((L.flatMap acV).set (k * 5 + 1) (.int .i64 e)).set (k * 5 + 2) (.bool p)).set (k * 5 + 3) (.int .i64 v) = (L.set k ⟨a.b, e, p, v, a.add⟩).flatMap acV
  | [], k, a, e, v, p, h => by simp at h
  | b :: L, 0, a, e, v, p, h => by
    simp only [List.getElem?_cons_zero, Option.some.injEq] at h
    subst h
    simp [acV]
  | b :: L, k + 1, a, e, v, p, h => by
    have ih := flat_ac L k a e v p (by simpa using h)
    rw [List.flatMap_cons, List.set_cons_succ, List.flatMap_cons, ← ih, show (k + 1) * 5 + 1 = k * 5 + 1 + 5 by omega, show (k + 1) * 5 + 2 = k * 5 + 2 + 5 by omega, show (k + 1) * 5 + 3 = k * 5 + 3 + 5 by omega]
    simp [acV]
/-- Operations of the call's own. -/
def OwnA (w : World) (B : Nat) (e : TypeId) (v : Value) (n : Nat) (L : List Ac) : Prop := w.ownsRow B e 5 v n (L.flatMap acV)
section
variable {w : World} {B n : Nat} {e : TypeId} {L : List Ac}
theorem OwnA.len {v : Value} (h : OwnA w B e v n L) : L.length = n := by have := h.1; rw [flatMap_len acV_len] at this; omega
theorem OwnA.val {g c : Nat} (h : OwnA w B e (.slice (some ⟨g, 0, none⟩) n c) n L) {i : Nat} (hi : i < n) {a : Ac} (ha : L[i]? = some a) : w.cell? ⟨g, i * 5, none⟩ = some (.int .i64 a.b) ∧ w.cell? ⟨g, i * 5 + 1, none⟩ = some (.int .i64 a.e) ∧ w.cell? ⟨g, i * 5 + 2, none⟩ = some (.bool a.put) ∧ w.cell? ⟨g, i * 5 + 3, none⟩ = some (.int .i64 a.v) ∧
    ∀ j, w.frozen? ⟨g, j, none⟩ = false := by
  have key : ∀ j, j < 5 → w.cell? ⟨g, i * 5 + j, none⟩ = (acV a)[j]? := fun j hj => by
    rw [World.ownsRow.cellAt h _ (by omega), flatMap_at acV_len L i j _ ha hj]
  exact ⟨key 0 (by omega), key 1 (by omega), key 2 (by omega), key 3 (by omega), fun j => World.ownsRow.frozenAt h j⟩
theorem OwnA.put {g c : Nat} (h : OwnA w B e (.slice (some ⟨g, 0, none⟩) n c) n L) (i : Nat) (u : Value) : (w.setCell ⟨g, i, none⟩ u).ownsRow B e 5 (.slice (some ⟨g, 0, none⟩) n c) n ((L.flatMap acV).set i u) := (World.ownsRow.stored h i u).1
end
end Go.Baro
