/- The threads of package run in memory. No statement of the seat is proved here; no condition. -/
import Derived.Test.YtekkefbmdchekaaDoorVmMemO
import Derived.Test.YtekkefbmdchekaaDoorLibMid
import Derived.Test.YtekkefbmdchekaaDoorLibE
import Derived.Test.YtekkefbmdchekaaDoorRunPure6
set_option linter.unusedSimpArgs false
set_option linter.unusedVariables false
namespace Go.Baro
open Go.RowKit
section
variable {T I : TypeId} {pre post : List Value} {w w' : World} {B b o : Nat} {cv tv wv : Value} {s : Vs} {X : Nat → Prop}
theorem To.un (h : To T I pre post w B b o cv tv wv s) (hu : Un X w w') (hb : ¬ X b) (ht : ∀ k, tv.ownBlock = Option.some k → ¬ X k) (hw : ∀ k, wv.ownBlock = Option.some k → ¬ X k) : To T I pre post w' B b o cv tv wv s :=
  ⟨h.box.un hu hb, h.off, own_un h.told hu ht, own_un h.words hu hw, h.apart, h.ne⟩
theorem To.below (h : To T I pre post w B b o cv tv wv s) (hb : Below w.heap.size w w') : To T I pre post w' B b o cv tv wv s := h.un (X := fun _ => False) (un_below hb) id (fun _ _ h => h) (fun _ _ h => h)
theorem To.tail (h : To T I pre post w B b o cv tv wv s) (j : Nat) : w.cell? ⟨b, o + 27 + j, none⟩ = post[j]? := by
  have := h.box.cell (o + 27 + j)
  rw [List.getElem?_append_right (by rw [h.off]; omega), List.getElem?_append_right (by rw [thC_len, h.off]; omega), thC_len, h.off] at this
  rw [this]
  congr 1
  omega
theorem To.setTail (h : To T I pre post w B b o cv tv wv s) (j : Nat) (u : Value) : To T I pre (post.set j u) (w.setCell ⟨b, o + 27 + j, none⟩ u) B b o cv tv wv s := by
  have hg := grown_setCell w ⟨b, o + 27 + j, none⟩ u
  have h1 := h.box.set (o + 27 + j) u
  rw [List.set_append_right _ _ (by rw [h.off]; omega), List.set_append_right _ _ (by rw [thC_len, h.off]; omega), thC_len, h.off, show o + 27 + j - o - 27 = j by omega] at h1
  refine ⟨h1, h.off, h.told.kept hg ?_, h.words.kept hg ?_, h.apart, h.ne⟩
  · cases hv : tv.ownBlock with
    | none => exact .inl rfl
    | some k => exact .inr fun he => by have := h.box.ne h.told h.ne; rw [hv] at this; exact this he.symm
  · cases hv : wv.ownBlock with
    | none => exact .inl rfl
    | some k => exact .inr fun he => by have := h.box.ne h.words h.ne; rw [hv] at this; exact this he.symm
end
end Go.Baro
namespace Go.Proofs.YtekkefbmdchekaaDoor
open Go.RowKit Go.Ord Go.Baro

/-- The code of a thread lies apart from all that its instructions may turn. -/
def CB (b : Nat) (cA : Option Addr) (cn : Nat) (tv wv : Value) : Prop := 0 < cn → ∀ g q, cA = some ⟨g, q, none⟩ → g ≠ b ∧ tv.ownBlock ≠ some g ∧ wv.ownBlock ≠ some g
/-- A thread, in block b from cell o on. -/
def Tl (w : World) (B b o : Nat) (pre post : List Value) (i : Nat) (cs wv : Value) (ws : List Int) (t : Td) (cA : Option Addr) (cn : Nat) (tv : Value) : Prop :=
  ∃ (cc : Nat) (p : Int) (r : Int → Int) (l : List Ins) (tl : List Int), To 86 3 pre (.int .i64 i :: cs :: .int .i64 t.bg :: post) w B b o (.slice cA cn cc) tv wv ⟨p, r, ws, tl⟩ ∧
    RO w w.heap.size cA cn l ∧ CB b cA cn tv wv ∧ ((t.now = none ∧ p = cn) ∨ t.now = some ⟨l, p, r, tl⟩)
/-- What a step of a thread leaves. -/
def PfPost (m : Mc) (n B b o : Nat) (pre post : List Value) (cs wv : Value) (ws : List Int) (t : Td) (cA : Option Addr) (cn : Nat) (tv : Value) (w : World) (e : Ending) (w' : World) : Prop :=
  ∃ (A : Option Addr) (k c M : Nat) (cA' : Option Addr) (cn' : Nat) (tv' : Value) (rows : List (List Value)), e = .returned (.slice A k c) ∧ Tl w' B b o pre post n cs wv (actT m n t ws).w ((actT m n t ws).th n) cA' cn' tv' ∧ k = (actT m n t ws).out.length ∧ k ≤ 2 ∧ rows.length = k ∧ (∀ r ∈ rows, r.length = 6) ∧ Rd w' w'.heap.size 6 A k rows.flatten ∧
    (∀ (i : Nat) r x, rows[i]? = some r → (actT m n t ws).out[i]? = some x → eP (fun g => M ≤ g) w' r x) ∧ w.heap.size ≤ M ∧ (0 < cn' → ∀ g q, cA' = some ⟨g, q, none⟩ → (cA' = cA ∧ cn' = cn) ∨ (w.heap.size ≤ g ∧ g < M)) ∧
    (∀ g, tv'.ownBlock = some g → tv.ownBlock = some g ∨ (w.heap.size ≤ g ∧ g < M)) ∧ (0 < k → ∀ g q, A = some ⟨g, q, none⟩ → w.heap.size ≤ g) ∧ Un (touch b b tv wv) w w'
end Go.Proofs.YtekkefbmdchekaaDoor
