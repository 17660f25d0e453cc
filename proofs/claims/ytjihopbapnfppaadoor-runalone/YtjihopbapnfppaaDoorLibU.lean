/- What a call leaves alone: all blocks but those of a given set. No statement of the seat is proved here; no condition. -/
import Derived.Test.YtjihopbapnfppaaDoorLibBox
set_option linter.unusedSimpArgs false
set_option linter.unusedVariables false
namespace Go.Baro
open Go.RowKit

/-- Of the blocks of world a none has turned but those of X. -/
structure Un (X : Nat → Prop) (a w : World) : Prop where
  os : w.os = a.os
  tape : w.tape = a.tape
  output : w.output = a.output
  size : a.heap.size ≤ w.heap.size
  block : ∀ k, k < a.heap.size → ¬ X k → w.heap[k]? = a.heap[k]?
section
variable {X : Nat → Prop} {a w w' : World}
theorem Un.refl (X : Nat → Prop) (a : World) : Un X a a := ⟨rfl, rfl, rfl, Nat.le_refl _, fun _ _ _ => rfl⟩
theorem Un.drew (h : Un X a w) : Un X a w.drew := ⟨h.os, h.tape, h.output, h.size, h.block⟩
theorem Un.drewN (h : Un X a w) (n : Nat) : Un X a (w.drewN n) := ⟨h.os, h.tape, h.output, h.size, h.block⟩
theorem Un.trans (h : Un X a w) (k : Un X w w') : Un X a w' := ⟨k.os.trans h.os, k.tape.trans h.tape, k.output.trans h.output, Nat.le_trans h.size k.size, fun i hi hx => (k.block i (Nat.lt_of_lt_of_le hi h.size) hx).trans (h.block i hi hx)⟩
theorem Un.wider {Y : Nat → Prop} (h : Un X a w) (hy : ∀ k, k < a.heap.size → X k → Y k) : Un Y a w := ⟨h.os, h.tape, h.output, h.size, fun k hk hx => h.block k hk fun h' => hx (hy k hk h')⟩
theorem un_grown {row : Option Nat} (h : Un X a w) (hg : w.grownBy w' row) (hX : ∀ k, row = some k → X k) : Un X a w' :=
  ⟨hg.os.trans h.os, hg.tape.trans h.tape, hg.output.trans h.output, Nat.le_trans h.size hg.size, fun k hk hx => (hg.block k (Nat.lt_of_lt_of_le hk h.size) fun e => hx (hX k e.symm)).trans (h.block k hk hx)⟩
theorem un_set {g : Nat} (h : Un X a w) (hg : w.grownBy w' (some g)) (hX : X g) : Un X a w' := un_grown h hg fun k e => by injection e with e; exact e ▸ hX
theorem Un.alloc (h : Un X a w) (o : Obj) : Un X a (w.alloc o) := un_grown h (World.grownBy_alloc w o none) (fun _ e => by cases e)
theorem un_at {b : Nat} (h : Un X a w) (hX : X b) (i : Nat) (u : Value) : Un X a (w.setCell ⟨b, i, none⟩ u) := un_set h (grown_setCell w ⟨b, i, none⟩ u) hX
theorem un_below (h : Below a.heap.size a w) : Un X a w := ⟨h.os, h.tape, h.output, h.size, fun k hk _ => h.block k hk⟩
/-- Where all of X lies from B on. -/
theorem Un.below {B : Nat} (h : Un X a w) (hB : B ≤ a.heap.size) (hX : ∀ k, k < B → ¬ X k) : Below B a w := ⟨h.os, h.tape, h.output, h.size, fun k hk => h.block k (by omega) (hX k hk)⟩
theorem Box.un {b : Nat} {t : TypeId} {cs : List Value} (h : Box a b t cs) (hu : Un X a w) (hb : ¬ X b) : Box w b t cs := (hu.block b h.lt hb).trans h
theorem own_un {b : Nat} {e : TypeId} {s n : Nat} {v : Value} {xs : List Value} (h : a.ownsRow b e s v n xs) (hu : Un X a w) (hX : ∀ k, v.ownBlock = some k → ¬ X k) : w.ownsRow b e s v n xs := by
  obtain ⟨h1, h2⟩ := h
  refine ⟨h1, ?_⟩
  rcases h2 with h2 | ⟨g, cap, cur, hv, hg, hh, hr⟩
  · exact Or.inl h2
  · have hlt : g < a.heap.size := by
      rcases Nat.lt_or_ge g a.heap.size with h | h
      · exact h
      · rw [Array.getElem?_eq_none h] at hh; cases hh
    exact Or.inr ⟨g, cap, cur, hv, hg, by rw [hu.block g hlt (hX g (by rw [hv]; rfl))]; exact hh, hr⟩
theorem Rd.un {B s n : Nat} {A : Option Addr} {cs : List Value} (h : Rd a B s A n cs) (hu : Un X a w) (hB : B ≤ a.heap.size) (hX : 0 < n → ∀ b o, A = some ⟨b, o, none⟩ → ¬ X b) : Rd w B s A n cs :=
  ⟨h.len, fun hn => by
    obtain ⟨b, o, hA, hb, hc⟩ := h.at_ hn
    exact ⟨b, o, hA, hb, fun j hj => (World.cell?_of_block (w := a) (a := ⟨b, o + j, none⟩) (hu.block b (by omega) (hX hn b o hA))).trans (hc j hj)⟩⟩
end
/-- The blocks that a worker's instruction may turn: its own, its registers', what it has told, the shared words. -/
def touch (b mb : Nat) (tv wv : Value) : Nat → Prop := fun k => k = b ∨ k = mb ∨ some k = tv.ownBlock ∨ some k = wv.ownBlock
theorem touch_b {b mb : Nat} {tv wv : Value} : touch b mb tv wv b := Or.inl rfl
theorem touch_w {b mb g o n c : Nat} {tv : Value} : touch b mb tv (.slice (some ⟨g, o, none⟩) n c) g := Or.inr (Or.inr (Or.inr rfl))
end Go.Baro
