/- Codes, calls and threads of a machine in memory. No statement of the seat is proved here; no condition. -/
import Derived.Test.YtjihopbapnfppaaDoorLibO
import Derived.Test.YtjihopbapnfppaaDoorOpenL
import Derived.Test.YtjihopbapnfppaaDoorRunPure
set_option linter.unusedSimpArgs false
set_option linter.unusedVariables false
namespace Go.Baro
open Go.RowKit

/-- A slice whose elements, of s cells each, are of a sort R. -/
def RG {α : Type} (s : Nat) (R : World → Nat → List Value → α → Prop) (w : World) (B : Nat) (A : Option Addr) (n : Nat) (ls : List α) : Prop :=
  ∃ rows : List (List Value), rows.length = ls.length ∧ (∀ r ∈ rows, r.length = s) ∧ Rd w B s A n rows.flatten ∧ ∀ (i : Nat) r x, rows[i]? = some r → ls[i]? = some x → R w B r x
theorem flatten_at {α : Type} {s : Nat} : ∀ (rows : List (List α)) (i j : Nat) (r : List α), (∀ r ∈ rows, r.length = s) → rows[i]? = some r → j < s → rows.flatten[i * s + j]? = r[j]?
  | [], i, j, r, _, h, _ => by simp at h
  | q :: rows, i, j, r, hs, h, hj => by
    have hq : q.length = s := hs q (by simp)
    rw [List.flatten_cons]
    cases i with
    | zero => simp at h; subst h; rw [List.getElem?_append_left (by omega)]; simp
    | succ i =>
      have := flatten_at rows i j r (fun r hr => hs r (by simp [hr])) (by simpa using h) hj
      rw [List.getElem?_append_right (by rw [hq, Nat.succ_mul]; omega), ← this, hq]
      congr 1
      rw [Nat.succ_mul]; omega
section
variable {α : Type} {s : Nat} {R : World → Nat → List Value → α → Prop} {w w' : World} {B B' n : Nat} {A : Option Addr} {ls : List α}
theorem flat_len {rows : List (List Value)} (h : ∀ r ∈ rows, r.length = s) : rows.flatten.length = rows.length * s := by
  induction rows with
  | nil => simp
  | cons r rows ih =>
    rw [List.flatten_cons, List.length_append, h r (by simp), ih (fun r hr => h r (by simp [hr])), List.length_cons, Nat.succ_mul]; omega
theorem RG.len (h : RG s R w B A n ls) (hs : 0 < s) : ls.length = n := by
  obtain ⟨rows, h1, h2, h3, _⟩ := h
  have := h3.len
  rw [flat_len h2] at this
  rw [← h1]
  exact Nat.eq_of_mul_eq_mul_right hs this
theorem RG.val (h : RG s R w B A n ls) (hs : 0 < s) {i : Nat} (hi : i < n) : ∃ b o r x, A = some ⟨b, o, none⟩ ∧ b < B ∧ (∀ j, j < s → w.cell? ⟨b, o + i * s + j, none⟩ = r[j]?) ∧ R w B r x ∧ Hid (ls[i]? = some x) ∧ x ∈ ls := by
  have hl := h.len hs
  obtain ⟨rows, h1, h2, h3, h4⟩ := h
  obtain ⟨b, o, hA, hb, hc⟩ := h3.at_ (by omega)
  have hi1 : i < rows.length := by omega
  have hi2 : i < ls.length := by omega
  refine ⟨b, o, rows[i], ls[i], hA, hb, fun j hj => ?_, h4 i _ _ (List.getElem?_eq_getElem hi1) (List.getElem?_eq_getElem hi2), List.getElem?_eq_getElem hi2, List.getElem_mem hi2⟩
  have hij : i * s + j < n * s := by
    have : (i + 1) * s ≤ n * s := Nat.mul_le_mul_right s hi
    rw [Nat.succ_mul] at this
    omega
  rw [Nat.add_assoc, hc _ hij, flatten_at rows i j _ h2 (List.getElem?_eq_getElem hi1) hj]
theorem RG.keep (h : RG s R w B A n ls) (hr : Rd w B s A n = Rd w B s A n) (hd : ∀ cs, Rd w B s A n cs → Rd w' B' s A n cs) (hR : ∀ r x, R w B r x → R w' B' r x) : RG s R w' B' A n ls := by
  obtain ⟨rows, h1, h2, h3, h4⟩ := h
  exact ⟨rows, h1, h2, hd _ h3, fun i r x hr hx => hR r x (h4 i r x hr hx)⟩
end

/-- A cell that is a slice of instructions. -/
def eC (w : World) (B : Nat) (r : List Value) (c : List Ins) : Prop := ∃ A n k, r = [.slice A n k] ∧ n ≤ k ∧ RO w B A n c
/-- Two cells that are a call. -/
def eL (w : World) (B : Nat) (r : List Value) (c : Cl) : Prop := ∃ A n k, r = [.int .i64 c.k, .slice A n k] ∧ n ≤ k ∧ RI w B .i64 A n c.ar
/-- A cell that is a slice of calls. -/
def eT (w : World) (B : Nat) (r : List Value) (t : List Cl) : Prop := ∃ A n k, r = [.slice A n k] ∧ n ≤ k ∧ RG 2 eL w B A n t
section
variable {w w' : World} {B B' n : Nat} {A : Option Addr}
theorem eC.below {r : List Value} {c : List Ins} (h : eC w B r c) (hb : Below B w w') : eC w' B r c := by obtain ⟨A, n, k, h1, h2, h3⟩ := h; exact ⟨A, n, k, h1, h2, h3.below hb⟩
theorem eC.more {r : List Value} {c : List Ins} (h : eC w B r c) (hB : B ≤ B') : eC w B' r c := by obtain ⟨A, n, k, h1, h2, h3⟩ := h; exact ⟨A, n, k, h1, h2, h3.more hB⟩
theorem eL.below {r : List Value} {c : Cl} (h : eL w B r c) (hb : Below B w w') : eL w' B r c := by obtain ⟨A, n, k, h1, h2, h3⟩ := h; exact ⟨A, n, k, h1, h2, h3.below hb⟩
theorem eL.more {r : List Value} {c : Cl} (h : eL w B r c) (hB : B ≤ B') : eL w B' r c := by obtain ⟨A, n, k, h1, h2, h3⟩ := h; exact ⟨A, n, k, h1, h2, h3.more hB⟩
/-- The codes of a machine. -/
def RCs (w : World) (B : Nat) (A : Option Addr) (n : Nat) (ls : List (List Ins)) : Prop := RG 1 eC w B A n ls
/-- The calls of a thread. -/
def RLs (w : World) (B : Nat) (A : Option Addr) (n : Nat) (ls : List Cl) : Prop := RG 2 eL w B A n ls
/-- The threads of a machine. -/
def RTs (w : World) (B : Nat) (A : Option Addr) (n : Nat) (ls : List (List Cl)) : Prop := RG 1 eT w B A n ls
theorem RCs.below {ls : List (List Ins)} (h : RCs w B A n ls) (hb : Below B w w') : RCs w' B A n ls := RG.keep h rfl (fun _ h => h.below hb) (fun _ _ h => eC.below h hb)
theorem RCs.more {ls : List (List Ins)} (h : RCs w B A n ls) (hB : B ≤ B') : RCs w B' A n ls := RG.keep h rfl (fun _ h => h.more hB) (fun _ _ h => eC.more h hB)
theorem RLs.below {ls : List Cl} (h : RLs w B A n ls) (hb : Below B w w') : RLs w' B A n ls := RG.keep h rfl (fun _ h => h.below hb) (fun _ _ h => eL.below h hb)
theorem RLs.more {ls : List Cl} (h : RLs w B A n ls) (hB : B ≤ B') : RLs w B' A n ls := RG.keep h rfl (fun _ h => h.more hB) (fun _ _ h => eL.more h hB)
theorem eT.below {r : List Value} {t : List Cl} (h : eT w B r t) (hb : Below B w w') : eT w' B r t := by obtain ⟨A, n, k, h1, h2, h3⟩ := h; exact ⟨A, n, k, h1, h2, RLs.below h3 hb⟩
theorem eT.more {r : List Value} {t : List Cl} (h : eT w B r t) (hB : B ≤ B') : eT w B' r t := by obtain ⟨A, n, k, h1, h2, h3⟩ := h; exact ⟨A, n, k, h1, h2, RLs.more h3 hB⟩
theorem RTs.below {ls : List (List Cl)} (h : RTs w B A n ls) (hb : Below B w w') : RTs w' B A n ls := RG.keep h rfl (fun _ h => h.below hb) (fun _ _ h => eT.below h hb)
theorem RTs.more {ls : List (List Cl)} (h : RTs w B A n ls) (hB : B ≤ B') : RTs w B' A n ls := RG.keep h rfl (fun _ h => h.more hB) (fun _ _ h => eT.more h hB)
theorem RCs.len {ls : List (List Ins)} (h : RCs w B A n ls) : ls.length = n := RG.len h (by decide)
theorem RLs.len {ls : List Cl} (h : RLs w B A n ls) : ls.length = n := RG.len h (by decide)
theorem RTs.len {ls : List (List Cl)} (h : RTs w B A n ls) : ls.length = n := RG.len h (by decide)
theorem RCs.val {ls : List (List Ins)} (h : RCs w B A n ls) {i : Nat} (hi : i < n) : ∃ b o A' n' k c, A = some ⟨b, o, none⟩ ∧ b < B ∧ w.cell? ⟨b, o + i, none⟩ = some (.slice A' n' k) ∧ n' ≤ k ∧ RO w B A' n' c ∧ Hid (ls[i]? = some c) ∧ c ∈ ls := by
  obtain ⟨b, o, r, x, h1, h2, h3, ⟨A', n', k, rfl, h4, h5⟩, h6, h7⟩ := RG.val h (by decide) hi
  have := h3 0 (by decide)
  rw [Nat.mul_one, Nat.add_zero] at this
  exact ⟨b, o, A', n', k, x, h1, h2, this, h4, h5, h6, h7⟩
theorem RLs.val {ls : List Cl} (h : RLs w B A n ls) {i : Nat} (hi : i < n) : ∃ b o q A' n' k ar, A = some ⟨b, o, none⟩ ∧ b < B ∧ w.cell? ⟨b, o + i * 2, none⟩ = some (.int .i64 q) ∧ w.cell? ⟨b, o + i * 2 + 1, none⟩ = some (.slice A' n' k) ∧ n' ≤ k ∧ RI w B .i64 A' n' ar ∧ Hid (ls[i]? = some ⟨q, ar⟩) ∧ Cl.mk q ar ∈ ls := by
  obtain ⟨b, o, r, x, h1, h2, h3, ⟨A', n', k, rfl, h4, h5⟩, h6, h7⟩ := RG.val h (by decide) hi
  exact ⟨b, o, x.k, A', n', k, x.ar, h1, h2, h3 0 (by decide), h3 1 (by decide), h4, h5, h6, h7⟩
theorem RTs.val {ls : List (List Cl)} (h : RTs w B A n ls) {i : Nat} (hi : i < n) : ∃ b o A' n' k t, A = some ⟨b, o, none⟩ ∧ b < B ∧ w.cell? ⟨b, o + i, none⟩ = some (.slice A' n' k) ∧ n' ≤ k ∧ RLs w B A' n' t ∧ Hid (ls[i]? = some t) ∧ t ∈ ls := by
  obtain ⟨b, o, r, x, h1, h2, h3, ⟨A', n', k, rfl, h4, h5⟩, h6, h7⟩ := RG.val h (by decide) hi
  have := h3 0 (by decide)
  rw [Nat.mul_one, Nat.add_zero] at this
  exact ⟨b, o, A', n', k, x, h1, h2, this, h4, h5, h6, h7⟩
end
end Go.Baro
