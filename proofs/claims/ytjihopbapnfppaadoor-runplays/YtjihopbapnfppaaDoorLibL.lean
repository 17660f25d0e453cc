/- Lists of lists of bytes in memory. No statement of the seat is proved here; no condition. -/
import Derived.Test.YtjihopbapnfppaaDoorLibB
set_option linter.unusedSimpArgs false
set_option linter.unusedVariables false
namespace Go.Baro
open Go.RowKit

/-- A value that is a slice of these bytes. -/
def SL (w : World) (B : Nat) (v : Value) (l : List Int) : Prop := ∃ A n c, v = .slice A n c ∧ n ≤ c ∧ RI w B .u8 A n l
/-- A slice of slices of bytes. -/
def RL (w : World) (B : Nat) (A : Option Addr) (n : Nat) (ls : List (List Int)) : Prop :=
  ∃ cs : List Value, Rd w B 1 A n cs ∧ cs.length = ls.length ∧ ∀ (i : Nat) v l, cs[i]? = some v → ls[i]? = some l → SL w B v l

section
variable {w w' : World} {B B' n : Nat} {A : Option Addr} {ls : List (List Int)}
theorem SL.below {v : Value} {l : List Int} (h : SL w B v l) (hb : Below B w w') : SL w' B v l := by
  obtain ⟨A, n, c, e, hc, hr⟩ := h
  exact ⟨A, n, c, e, hc, hr.below hb⟩
theorem SL.heap {v : Value} {l : List Int} (h : SL w B v l) (hh : w'.heap = w.heap) : SL w' B v l := by
  obtain ⟨A, n, c, e, hc, hr⟩ := h
  exact ⟨A, n, c, e, hc, hr.heap hh⟩
theorem SL.more {v : Value} {l : List Int} (h : SL w B v l) (hB : B ≤ B') : SL w B' v l := by
  obtain ⟨A, n, c, e, hc, hr⟩ := h
  exact ⟨A, n, c, e, hc, hr.more hB⟩
theorem RL.len (h : RL w B A n ls) : ls.length = n := by
  obtain ⟨cs, hr, hl, _⟩ := h
  have := hr.len
  omega
theorem RL.below (h : RL w B A n ls) (hb : Below B w w') : RL w' B A n ls := by
  obtain ⟨cs, hr, hl, hs⟩ := h
  exact ⟨cs, hr.below hb, hl, fun i v l h1 h2 => (hs i v l h1 h2).below hb⟩
theorem RL.heap (h : RL w B A n ls) (hh : w'.heap = w.heap) : RL w' B A n ls := by
  obtain ⟨cs, hr, hl, hs⟩ := h
  exact ⟨cs, hr.heap hh, hl, fun i v l h1 h2 => (hs i v l h1 h2).heap hh⟩
theorem RL.more (h : RL w B A n ls) (hB : B ≤ B') : RL w B' A n ls := by
  obtain ⟨cs, hr, hl, hs⟩ := h
  exact ⟨cs, hr.more hB, hl, fun i v l h1 h2 => (hs i v l h1 h2).more hB⟩
theorem RL.val (h : RL w B A n ls) {i : Nat} (hi : i < n) : ∃ b o A' n' c' l, A = some ⟨b, o, none⟩ ∧ b < B ∧ w.cell? ⟨b, o + i, none⟩ = some (.slice A' n' c') ∧ n' ≤ c' ∧ RI w B .u8 A' n' l ∧ Hid (ls[i]? = some l) ∧ l ∈ ls := by
  obtain ⟨cs, hr, hl, hs⟩ := h
  obtain ⟨b, o, hA, hb, hc⟩ := hr.at_ (by omega)
  have h1 := hr.len
  have hi1 : i < cs.length := by omega
  have hi2 : i < ls.length := by omega
  obtain ⟨A', n', c', e, hc', hr'⟩ := hs i cs[i] ls[i] (List.getElem?_eq_getElem hi1) (List.getElem?_eq_getElem hi2)
  refine ⟨b, o, A', n', c', ls[i], hA, hb, ?_, hc', hr', List.getElem?_eq_getElem hi2, List.getElem_mem hi2⟩
  rw [hc i (by omega), List.getElem?_eq_getElem hi1, e]
theorem RL.nil (w : World) (B : Nat) (A : Option Addr) : RL w B A 0 [] := ⟨[], Rd.nil w B 1 A, rfl, fun i v l h => by simp at h⟩
theorem RL.take (h : RL w B A n ls) {m : Nat} (hm : m ≤ n) : RL w B A m (ls.take m) := by
  obtain ⟨cs, hr, hl, hs⟩ := h
  have h1 := hr.len
  refine ⟨cs.take (m * 1), hr.take hm, by simp; omega, fun i v l h2 h3 => hs i v l ?_ ?_⟩
  · rw [List.getElem?_take] at h2; split at h2; exact h2; cases h2
  · rw [List.getElem?_take] at h3; split at h3; exact h3; cases h3
end

/-- A list of bytes of the call's own, not in block x. -/
def OB (T : TypeId) (w : World) (base : Nat) (x : Option Nat) (v : Value) (l : List Int) : Prop :=
  ∃ n, w.ownsRow base T 1 v n (l.map (Value.int .u8)) ∧ (v.ownBlock = none ∨ v.ownBlock ≠ x)
def OBs (T : TypeId) (w : World) (base : Nat) (x : Option Nat) (cs : List Value) (ls : List (List Int)) : Prop :=
  cs.length = ls.length ∧ ∀ (i : Nat) v l, cs[i]? = some v → ls[i]? = some l → OB T w base x v l
section
variable {T U : TypeId} {w w' : World} {base base' : Nat} {x x' : Option Nat} {v : Value} {l : List Int} {cs : List Value} {ls : List (List Int)}
theorem OB.mk {n : Nat} (h : w.ownsRow base T 1 v n (l.map (Value.int .u8))) (hx : v.ownBlock = none ∨ v.ownBlock ≠ x) : OB T w base x v l := ⟨n, h, hx⟩
theorem OB.mk0 {n : Nat} (h : w.ownsRow base T 1 v n (l.map (Value.int .u8))) : OB T w base none v l := ⟨n, h, by cases v.ownBlock <;> simp⟩
theorem OB.below (h : OB T w base x v l) (hb : Below w.heap.size w w') : OB T w' base x v l := by
  obtain ⟨n, h1, h2⟩ := h
  exact ⟨n, own_below h1 hb, h2⟩
theorem OB.low (h : OB T w base x v l) (hb : base' ≤ base) : OB T w base' x v l := by
  obtain ⟨n, h1, h2⟩ := h
  exact ⟨n, own_more h1 hb, h2⟩
theorem OB.other {s n : Nat} {v2 : Value} {xs : List Value} (h : OB T w base x v l) (h2 : w.ownsRow base' U s v2 n xs) (hne : T ≠ U) (hg : w.grownBy w' v2.ownBlock) : OB T w' base x v l := by
  obtain ⟨n, h1, hx⟩ := h
  exact ⟨n, own_keep h1 h2 hne hg, hx⟩
theorem OB.kept (h : OB T w base x v l) (hg : w.grownBy w' x) : OB T w' base x v l := by
  obtain ⟨n, h1, hx⟩ := h
  exact ⟨n, h1.kept hg hx, hx⟩
theorem OB.block (h : OB T w base x v l) (hb : x' = x ∨ x' = some w.heap.size) : OB T w base x' v l := by
  obtain ⟨n, h1, hx⟩ := h
  refine ⟨n, h1, ?_⟩
  rcases hb with rfl | rfl
  · exact hx
  · refine .inr fun he => ?_
    have := (h1.lt _ he).2
    omega
theorem OB.sl (h : OB T w base x v l) : SL w w.heap.size v l := by
  obtain ⟨n, h1, hx⟩ := h
  obtain ⟨A, c, rfl, hc⟩ := own_form h1
  exact ⟨A, n, c, rfl, hc, Rd.of_own h1⟩
theorem OBs.nil (T : TypeId) (w : World) (base : Nat) (x : Option Nat) : OBs T w base x [] [] := ⟨rfl, fun i v l h => by simp at h⟩
theorem OBs.snoc (h : OBs T w base x cs ls) (h1 : OB T w base x v l) : OBs T w base x (cs ++ [v]) (ls ++ [l]) := by
  refine ⟨by simp [h.1], fun i v' l' hv hl => ?_⟩
  rw [List.getElem?_append] at hv hl
  split at hv
  · rename_i hi
    rw [if_pos (by rw [← h.1]; exact hi)] at hl
    exact h.2 i v' l' hv hl
  · rename_i hi
    rw [if_neg (by rw [← h.1]; exact hi), ← h.1] at hl
    rcases Nat.eq_zero_or_pos (i - cs.length) with h0 | h0
    · rw [h0] at hv hl
      simp at hv hl
      rw [← hv, ← hl]; exact h1
    · rw [List.getElem?_eq_none (by simp; omega)] at hv; cases hv
theorem OBs.below (h : OBs T w base x cs ls) (hb : Below w.heap.size w w') : OBs T w' base x cs ls := ⟨h.1, fun i v l h1 h2 => (h.2 i v l h1 h2).below hb⟩
theorem OBs.low (h : OBs T w base x cs ls) (hb : base' ≤ base) : OBs T w base' x cs ls := ⟨h.1, fun i v l h1 h2 => (h.2 i v l h1 h2).low hb⟩
theorem OBs.other {s n : Nat} {v2 : Value} {xs : List Value} (h : OBs T w base x cs ls) (h2 : w.ownsRow base' U s v2 n xs) (hne : T ≠ U) (hg : w.grownBy w' v2.ownBlock) : OBs T w' base x cs ls :=
  ⟨h.1, fun i v l h1 h3 => (h.2 i v l h1 h3).other h2 hne hg⟩
theorem OBs.kept (h : OBs T w base x cs ls) (hg : w.grownBy w' x) : OBs T w' base x cs ls := ⟨h.1, fun i v l h1 h2 => (h.2 i v l h1 h2).kept hg⟩
theorem OBs.block (h : OBs T w base x cs ls) (hb : x' = x ∨ x' = some w.heap.size) : OBs T w base x' cs ls := ⟨h.1, fun i v l h1 h2 => (h.2 i v l h1 h2).block hb⟩
theorem OB.grow (h : OB T w base x v l) (hg : w.grownBy w' x) (hb : x' = x ∨ x' = some w.heap.size) : OB T w' base x' v l := by
  obtain ⟨n, h1, hx⟩ := h
  obtain ⟨_, _, hx'⟩ := OB.block ⟨n, h1, hx⟩ hb
  exact ⟨n, h1.kept hg hx, hx'⟩
theorem OBs.grow (h : OBs T w base x cs ls) (hg : w.grownBy w' x) (hb : x' = x ∨ x' = some w.heap.size) : OBs T w' base x' cs ls := ⟨h.1, fun i v l h1 h2 => (h.2 i v l h1 h2).grow hg hb⟩
theorem OBs.rl {n : Nat} {A : Option Addr} {c : Nat} (h : OBs T w base x cs ls) (ho : w.ownsRow base' U 1 (.slice A n c) n cs) : RL w w.heap.size A n ls :=
  ⟨cs, Rd.of_own ho, h.1, fun i v l h1 h2 => (h.2 i v l h1 h2).sl⟩
end
section
variable {P : Program} {t e : TypeId} {z : Value} {s by' : Nat} {ops : Array Oper} {rest : List Oper} {o : Oper} {a : Act} {Q : Exit → Act → World → Prop}
/-- make([]T, 0, n) -/
theorem make_room (E : Elt P t e z s by') (w : World) (hgd : o.guard = none) (l c : Operand) (ho : o.op = Op.makeSlice t l c) (base : Nat) (kl kc : IntKind) (C : Int) (n : Nat)
    (hl : a.eval l = .int kl 0) (hc : a.eval c = .int kc C) (hC : C = n) (hn : by' * n ≤ 140737488355328) (hn' : n ≤ 140737488355328) (hb : base ≤ w.heap.size)
    (h : ∀ w', w'.ownsRow base e s (.slice (some ⟨w.heap.size, 0, none⟩) 0 n) 0 [] → (∀ w0, Below base w0 w → Below base w0 w') → base ≤ w'.heap.size → w.grownBy w' none →
      wpList P ops Q rest (a.put o.dst (.slice (some ⟨w.heap.size, 0, none⟩) 0 n)) w') : wpList P ops Q (o :: rest) a w := by
  obtain ⟨hu, ⟨i, hi, h5, h6, h7⟩, h3, h4⟩ := E
  refine wpList_make_own w hgd l c t ho base e i z s hu hi h5 h6 kl kc C n hl hc hC (by rw [h7]; omega) (by unfold maxLen; omega) hb ?_
  intro w' ho hg
  refine h w' ho (fun w0 hb0 => hb0.grown hg hb (fun k hk => by cases hk)) ?_ hg
  have := hg.size; omega
end
/-- A row that was written out just now. -/
theorem own_new {w : World} {base : Nat} {e : TypeId} {s m : Nat} (cs : List Value) (g : Nat) (hg : g = w.heap.size) (hl : cs.length = m * s) (hb : base ≤ w.heap.size) (hm : m ≤ 140737488355328) :
    (w.alloc (.cells cs.toArray e)).ownsRow base e s (.slice (some ⟨g, 0, none⟩) m m) m cs := by
  subst hg
  refine ⟨hl, .inr ⟨w.heap.size, m, cs.toArray, rfl, hb, heap_alloc_new w _, Nat.le_refl _, by unfold maxLen; omega, by simpa using hl, ?_⟩⟩
  rw [List.take_of_length_le (by simp; omega)]
/-- A row made later lies in another block. -/
theorem own_later {w w0 : World} {b b0 : Nat} {e e0 : TypeId} {s s0 n n0 : Nat} {v v0 : Value} {xs xs0 : List Value} (h : w.ownsRow b e s v n xs) (h0 : w0.ownsRow b0 e0 s0 v0 n0 xs0) (hb : w0.heap.size ≤ b) : v.ownBlock = none ∨ v.ownBlock ≠ v0.ownBlock := by
  cases hv : v.ownBlock with
  | none => exact .inl rfl
  | some k =>
    refine .inr fun he => ?_
    have h1 := (h.lt k hv).1
    have h2 := (h0.lt k he.symm).2
    omega
theorem oneS (A : Option Addr) (n c : Nat) : ∀ u ∈ [Value.slice A n c], u.oneCell' = true := by
  intro u hu; simp only [List.mem_singleton] at hu; subst hu; rfl
theorem below_alloc {w : World} (o : Obj) : Below w.heap.size w (w.alloc o) := (Below.refl _ _).alloc (Nat.le_refl _) _
end Go.Baro
