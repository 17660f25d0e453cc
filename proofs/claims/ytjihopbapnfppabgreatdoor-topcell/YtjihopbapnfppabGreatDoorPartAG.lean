/- Of this claim's own texts these, one behind the other: LibT, HistPure, DoorV, OpenM. No statement of the seat is proved here; no condition but those that stand at the theorems. -/
import Derived.Test.YtjihopbapnfppabGreatDoorPartAE
import Derived.Test.YtjihopbapnfppabGreatDoorPartAF
import Derived.Test.YtjihopbapnfppabGreatDoorRows
import Derived.Test.YtjihopbapnfppabGreatDoorCards
import Derived.Test.YtjihopbapnfppabGreatDoorTie
import Derived.Test.YtjihopbapnfppabGreatDoorPartAC
import Derived.ProofKit
import Derived.OpenShut
import Derived.LaidHandle
import Derived.LaidMore
import Derived.MakeChecks
import Derived.Stop.Joined
import Derived.Deep.Strs
import Derived.Lib.SmallJoins
set_option linter.unusedSimpArgs false
set_option linter.unusedVariables false
namespace Go.Baro
open Go.RowKit

/-- A slice that lies in a block of type e. -/
def QT (w : World) (e : TypeId) (s : Nat) (A : Option Addr) (n : Nat) (cs : List Value) : Prop :=
  cs.length = n * s ∧ (0 < n → ∃ b o cur fr, A = some ⟨b, o, none⟩ ∧ w.heap[b]? = some (.cells cur e fr) ∧ ∀ j, j < n * s → w.cell? ⟨b, o + j, none⟩ = cs[j]?)
/-- All blocks of cells are kept but those of the types of T. -/
structure Kc (T : TypeId → Prop) (w w' : World) : Prop where
  size : w.heap.size ≤ w'.heap.size
  block : ∀ (b : Nat) (cs : Array Value) (t : TypeId) (fr : Nat × Nat), w.heap[b]? = some (.cells cs t fr) → ¬ T t → w'.heap[b]? = some (.cells cs t fr)
section
variable {T : TypeId → Prop} {w w' w'' : World} {e t : TypeId} {s n : Nat} {A : Option Addr} {cs : List Value}
theorem lt_of_heap {b : Nat} {o : Obj} (h : w.heap[b]? = some o) : b < w.heap.size := (Array.getElem?_eq_some_iff.1 h).1
theorem Kc.refl (T : TypeId → Prop) (w : World) : Kc T w w := ⟨Nat.le_refl _, fun _ _ _ _ h _ => h⟩
theorem Kc.trans (h : Kc T w w') (k : Kc T w' w'') : Kc T w w'' := ⟨Nat.le_trans h.size k.size, fun i cs t fr h1 h2 => k.block i cs t fr (h.block i cs t fr h1 h2) h2⟩
theorem Kc.below (h : Below w.heap.size w w') : Kc T w w' := ⟨h.size, fun b cs t fr h1 _ => (h.block b (lt_of_heap h1)).trans h1⟩
theorem Kc.ext (h : Ord.Ext w w') : Kc T w w' := ⟨h.size, fun b cs t fr h1 _ => h.kept h1⟩
theorem Kc.un {X : Nat → Prop} (h : Un X w w') (hX : ∀ b cs t fr, X b → w.heap[b]? = some (.cells cs t fr) → T t) : Kc T w w' :=
  ⟨h.size, fun b cs t fr h1 h2 => (h.block b (lt_of_heap h1) fun hx => h2 (hX b cs t fr hx h1)).trans h1⟩
theorem Kc.grown {row : Option Nat} (hg : w.grownBy w' row) (hr : ∀ (b : Nat) (cs : Array Value) (t : TypeId) (fr : Nat × Nat), row = some b → w.heap[b]? = some (.cells cs t fr) → T t) : Kc T w w' :=
  ⟨hg.size, fun b cs t fr h1 h2 => (hg.block b (lt_of_heap h1) (fun e => h2 (hr b cs t fr e.symm h1))).trans h1⟩
theorem QT.rd (h : QT w e s A n cs) : Rd w w.heap.size s A n cs := by
  refine ⟨h.1, fun h0 => ?_⟩
  obtain ⟨b, o, cur, fr, hA, hb, hc⟩ := h.2 h0
  exact ⟨b, o, hA, lt_of_heap hb, hc⟩
theorem QT.kc (h : QT w e s A n cs) (hk : Kc T w w') (he : ¬ T e) : QT w' e s A n cs := by
  refine ⟨h.1, fun h0 => ?_⟩
  obtain ⟨b, o, cur, fr, hA, hb, hc⟩ := h.2 h0
  have hb' := hk.block b cur e fr hb he
  refine ⟨b, o, cur, fr, hA, hb', fun j hj => ?_⟩
  rw [← hc j hj]
  exact World.cell?_of_block (w := w) (a := ⟨b, o + j, none⟩) (hb'.trans hb.symm)
theorem QT.nil (w : World) (e : TypeId) (s : Nat) (A : Option Addr) : QT w e s A 0 [] := ⟨by simp, fun h => absurd h (by omega)⟩
theorem QT.own {B c : Nat} (h : w.ownsRow B e s (.slice A n c) n cs) : QT w e s A n cs := by
  refine ⟨h.1, fun hn => ?_⟩
  rcases h.2 with ⟨_, h0⟩ | ⟨g, cap, cur, hv, _, hh, hnc, _, hsz, htake⟩
  · omega
  · have hA : A = some ⟨g, 0, none⟩ := by injection hv
    subst hA
    refine ⟨g, 0, cur, (0, 0), rfl, hh, fun j hj => ?_⟩
    rw [Nat.zero_add, cell_of_row w g j cur e (0, 0) hh, ← htake, List.getElem?_take, if_pos hj]
    simp
theorem QT.box {b : Nat} (h : Box w b e cs) (hl : cs.length = n * s) : QT w e s (some ⟨b, 0, none⟩) n cs :=
  ⟨hl, fun _ => ⟨b, 0, cs.toArray, (0, 0), rfl, h, fun j _ => by rw [Nat.zero_add]; exact h.cell j⟩⟩
theorem Box.kc {b : Nat} (h : Box w b e cs) (hk : Kc T w w') (he : ¬ T e) : Box w' b e cs := hk.block b _ e (0, 0) h he
theorem own_kc {B : Nat} {v : Value} (h : w.ownsRow B e s v n cs) (hk : Kc T w w') (he : ¬ T e) : w'.ownsRow B e s v n cs := by
  refine ⟨h.1, ?_⟩
  rcases h.2 with h2 | ⟨g, cap, cur, hv, hg, hh, hr⟩
  · exact .inl h2
  · exact .inr ⟨g, cap, cur, hv, hg, hk.block g cur e (0, 0) hh he, hr⟩
end
/-- A full row is a block. -/
theorem own_boxT {w : World} {B m g : Nat} {e : TypeId} {xs : List Value} (h : w.ownsRow B e 1 (.slice (some ⟨g, 0, none⟩) m m) m xs) : Box w g e xs ∧ B ≤ g := by
  rcases h.2 with ⟨h, _⟩ | ⟨g', cap, cur, h1, h2, h3, h4, h5, h6, h7⟩
  · cases h
  · simp only [Value.slice.injEq, Option.some.injEq, Addr.mk.injEq, and_true, true_and] at h1
    obtain ⟨rfl, rfl⟩ := h1
    refine ⟨?_, h2⟩
    rw [List.take_of_length_le (by simp [h6])] at h7
    unfold Box
    rw [h3, ← h7]
/-- A call of the call's own: its arguments lie in a block of type ti. -/
def eA (ti : TypeId) (w : World) (r : List Value) (c : Cl) : Prop := ∃ A n k, r = [.int .i64 c.k, .slice A n k] ∧ n ≤ k ∧ QT w ti 1 A n (c.ar.map (Value.int .i64))
/-- The calls of a thread: a row of the call's own. -/
def Ca (ti e : TypeId) (w : World) (B : Nat) (v : Value) (ls : List Cl) : Prop :=
  ∃ rows : List (List Value), rows.length = ls.length ∧ (∀ r ∈ rows, r.length = 2) ∧ w.ownsRow B e 2 v ls.length rows.flatten ∧ ∀ (i : Nat) r x, rows[i]? = some r → ls[i]? = some x → eA ti w r x
section
variable {T : TypeId → Prop} {w w' : World} {ti e : TypeId} {B n : Nat} {v v' : Value} {ls : List Cl}
theorem eA.kc {r : List Value} {c : Cl} (h : eA ti w r c) (hk : Kc T w w') (he : ¬ T ti) : eA ti w' r c := by obtain ⟨A, n, k, h1, h2, h3⟩ := h; exact ⟨A, n, k, h1, h2, h3.kc hk he⟩
theorem Ca.nil (ti e : TypeId) (w : World) (B : Nat) : Ca ti e w B (.slice none 0 0) [] := ⟨[], rfl, by simp, World.ownsRow_nil _ _ _ _, fun i r x h => by simp at h⟩
theorem Ca.own (h : Ca ti e w B v ls) : ∃ rows : List (List Value), rows.length = ls.length ∧ w.ownsRow B e 2 v ls.length rows.flatten := by obtain ⟨rows, h1, _, h3, _⟩ := h; exact ⟨rows, h1, h3⟩
/-- The row is kept. -/
theorem Ca.un {X : Nat → Prop} (h : Ca ti e w B v ls) (hu : Un X w w') (ho : ∀ k, v.ownBlock = some k → ¬ X k) (hk : Kc T w w') (he : ¬ T ti) : Ca ti e w' B v ls := by
  obtain ⟨rows, h1, h2, h3, h4⟩ := h
  exact ⟨rows, h1, h2, own_un h3 hu ho, fun i r x hr hx => (h4 i r x hr hx).kc hk he⟩
theorem ca_snoc {rows : List (List Value)} {r : List Value} {x : Cl} (h1 : rows.length = ls.length) (h2 : ∀ r ∈ rows, r.length = 2) (h4 : ∀ (i : Nat) r x, rows[i]? = some r → ls[i]? = some x → eA ti w r x)
    (ho : w'.ownsRow B e 2 v' n (rows.flatten ++ r)) (hn : n = ls.length + 1) (hk : Kc T w w') (he : ¬ T ti) (hr : eA ti w r x) : Ca ti e w' B v' (ls ++ [x]) := by
  have hr2 : r.length = 2 := by obtain ⟨A, n, k, rfl, _⟩ := hr; rfl
  refine ⟨rows ++ [r], by simp [h1], fun q hq => ?_, ?_, fun i q y hq hy => ?_⟩
  · rcases List.mem_append.1 hq with hq | hq
    · exact h2 q hq
    · rw [List.mem_singleton.1 hq]; exact hr2
  · rw [List.flatten_append, List.length_append, List.length_singleton, ← hn]
    simpa using ho
  · rcases Nat.lt_trichotomy i rows.length with hi | hi | hi
    · rw [List.getElem?_append_left hi] at hq
      rw [List.getElem?_append_left (by omega)] at hy
      exact (h4 i q y hq hy).kc hk he
    · rw [List.getElem?_append_right (by omega), show i - rows.length = 0 by omega] at hq
      rw [List.getElem?_append_right (by omega), show i - ls.length = 0 by omega] at hy
      injection hq with hq
      injection hy with hy
      subst hq hy
      exact hr.kc hk he
    · rw [List.getElem?_eq_none (by simp; omega)] at hq; cases hq
theorem Ca.post (h : Ca ti e w B v ls) : ∃ A c, v = .slice A ls.length c ∧ ls.length ≤ c ∧ RLs w w.heap.size A ls.length ls := by
  obtain ⟨rows, h1, h2, h3, h4⟩ := h
  obtain ⟨A, c, rfl, hlc⟩ := own_form h3
  refine ⟨A, c, rfl, hlc, rows, h1, h2, Rd.of_own h3, fun i r x hr hx => ?_⟩
  obtain ⟨A, n, k, q1, q2, q3⟩ := h4 i r x hr hx
  exact ⟨A, n, k, q1, q2, q3.rd⟩
end
/-- Threads in memory whose calls are being written: block g6 holds them. tc: the type of a call; tt: that of a thread; ti: that of a number. -/
structure Mg (ti tc tt : TypeId) (tg : Nat → Nat) (w : World) (B g6 nt : Nat) (ts : Nat → Value) (T : Nat → List Cl) : Prop where
  thr : Box w g6 tt ((List.range nt).map ts)
  row : ∀ i, i < nt → Ca ti tc w B (ts i) (T i)
  tag : ∀ i, i < nt → ∀ k, (ts i).ownBlock = some k → tg k = i
  B6 : B ≤ g6
theorem range_set {α : Type} (f : α) (n q : Nat) (g : Nat → α) : ((List.range n).map g).set q f = (List.range n).map (fun i => if i = q then f else g i) := by
  apply List.ext_getElem?
  intro i
  rw [List.getElem?_set]
  by_cases hq : q = i
  · subst hq
    by_cases hn : q < n
    · simp [hn]
    · simp [hn, List.getElem?_eq_none (l := List.range n) (i := q) (by simp; omega)]
  · rw [if_neg hq, List.getElem?_map, List.getElem?_map]
    by_cases hn : i < n
    · simp [hn, Ne.symm hq]
    · simp [List.getElem?_eq_none (l := List.range n) (i := i) (by simp; omega)]
theorem range_at {α : Type} (g : Nat → α) {n q : Nat} (h : q < n) : ((List.range n).map g)[q]? = some (g q) := by simp [h]
section
variable {ti tc tt : TypeId} {tg : Nat → Nat} {w w' : World} {B g6 nt q : Nat} {ts : Nat → Value} {T : Nat → List Cl} {v' : Value}
theorem own_type {e : TypeId} {s n : Nat} {v : Value} {xs : List Value} {k : Nat} (h : w.ownsRow B e s v n xs) (hk : v.ownBlock = some k) : ∃ cs, w.heap[k]? = some (.cells cs e (0, 0)) := by
  rcases h.2 with ⟨rfl, _⟩ | ⟨g, cap, cur, rfl, _, hh, _⟩
  · cases hk
  · injection hk with hk
    subst hk
    exact ⟨cur, hh⟩
theorem own_same {e t : TypeId} {s n : Nat} {v : Value} {xs : List Value} {k : Nat} {cs : Array Value} {fr : Nat × Nat} (h : w.ownsRow B e s v n xs) (hk : v.ownBlock = some k) (hh : w.heap[k]? = some (.cells cs t fr)) : t = e := by
  obtain ⟨cs', h'⟩ := own_type h hk
  rw [h'] at hh
  injection hh with hh
  injection hh with _ hh
  exact hh.symm
/-- What is done to other blocks leaves the threads. -/
theorem Mg.un {X : Nat → Prop} (h : Mg ti tc tt tg w B g6 nt ts T) (hu : Un X w w') (hX : ∀ b cs t fr, X b → w.heap[b]? = some (.cells cs t fr) → t ≠ tc ∧ t ≠ tt ∧ t ≠ ti) : Mg ti tc tt tg w' B g6 nt ts T := by
  refine ⟨h.thr.un hu fun hx => (hX g6 _ _ _ hx h.thr).2.1 rfl, fun i hi => ?_, h.tag, h.B6⟩
  obtain ⟨rows, _, h3⟩ := (h.row i hi).own
  refine (h.row i hi).un (T := fun t => t ≠ ti) hu (fun k hk hx => ?_) (Kc.un hu fun b cs t fr hb hh => (hX b cs t fr hb hh).2.2) (by simp)
  obtain ⟨cs, hh⟩ := own_type h3 hk
  exact (hX k _ _ _ hx hh).1 rfl
theorem Mg.below (h : Mg ti tc tt tg w B g6 nt ts T) (hb : Below w.heap.size w w') : Mg ti tc tt tg w' B g6 nt ts T :=
  h.un (X := fun _ => False) (un_below hb) (fun _ _ _ _ hx => hx.elim)
/-- A call is added to thread q. -/
theorem Mg.push (h : Mg ti tc tt tg w B g6 nt ts T) (hq : q < nt) (hne : tc ≠ ti ∧ tt ≠ ti ∧ tc ≠ tt) {rows : List (List Value)} {r : List Value} {c : Cl} {n : Nat} (h1 : rows.length = (T q).length) (h2 : ∀ r ∈ rows, r.length = 2) (h4 : ∀ (i : Nat) r x, rows[i]? = some r → (T q)[i]? = some x → eA ti w r x)
    (h3 : w.ownsRow B tc 2 (ts q) (T q).length rows.flatten) (ho : w'.ownsRow B tc 2 v' n (rows.flatten ++ r)) (hn : n = (T q).length + 1) (hu : Un (fun k => some k = (ts q).ownBlock) w w') (hb : v'.ownBlock = (ts q).ownBlock ∨ ∃ k, v'.ownBlock = some k ∧ w.heap.size ≤ k) (hr : eA ti w r c) :
    Mg ti tc tt (fun k => if k < w.heap.size then tg k else q) (w'.setCell ⟨g6, q, none⟩ v') B g6 nt (fun i => if i = q then v' else ts i) (fun i => if i = q then T q ++ [c] else T i) ∧ Kc (fun t => t = tc ∨ t = tt) w (w'.setCell ⟨g6, q, none⟩ v') := by
  have hX : ∀ b cs t fr, some b = (ts q).ownBlock → w.heap[b]? = some (.cells cs t fr) → t = tc := fun b cs t fr hk ht => by
    obtain ⟨cs', hh⟩ := own_type h3 hk.symm
    rw [hh] at ht
    injection ht with ht
    injection ht with _ ht
    exact ht.symm
  have k1 : Kc (fun t => t = tc ∨ t = tt) w w' := Kc.un hu fun b cs t fr hb hh => .inl (hX b cs t fr hb hh)
  have hu2 : Un (fun k => k = g6) w' (w'.setCell ⟨g6, q, none⟩ v') := un_at (X := fun k => k = g6) (Un.refl _ _) rfl _ _
  have b6 : Box w' g6 tt ((List.range nt).map ts) := h.thr.un hu fun hx => hne.2.2 (hX g6 _ _ _ hx h.thr).symm
  have hX2 : ∀ b cs t fr, b = g6 → w'.heap[b]? = some (.cells cs t fr) → t = tt := fun b cs t fr hk ht => by
    subst hk
    have hh : w'.heap[b]? = _ := b6
    rw [hh] at ht
    injection ht with ht
    injection ht with _ ht
    exact ht.symm
  have k2 : Kc (fun t => t = tc ∨ t = tt) w' (w'.setCell ⟨g6, q, none⟩ v') := Kc.un hu2 fun b cs t fr hb hh => .inr (hX2 b cs t fr hb hh)
  have hti : ¬ (ti = tc ∨ ti = tt) := by
    rintro (h | h)
    · exact hne.1 h.symm
    · exact hne.2.1 h.symm
  have hrq : Ca ti tc w' B v' (T q ++ [c]) := ca_snoc h1 h2 h4 ho hn k1 hti hr
  have out6 : ∀ {v : Value} {ls : List Cl}, Ca ti tc w' B v ls → Ca ti tc (w'.setCell ⟨g6, q, none⟩ v') B v ls := fun {v ls} hc => by
    obtain ⟨rows', _, h3'⟩ := hc.own
    refine hc.un hu2 (fun k hk hx => ?_) k2 hti
    obtain ⟨cs, hh⟩ := own_type h3' hk
    exact hne.2.2 (hX2 k _ _ _ hx hh)
  refine ⟨⟨?_, fun i hi => ?_, fun i hi k hk => ?_, h.B6⟩, k1.trans k2⟩
  · have := b6.set q v'
    rw [range_set] at this
    exact this
  · by_cases hiq : i = q
    · subst hiq
      rw [if_pos rfl, if_pos rfl]
      exact out6 hrq
    · rw [if_neg hiq, if_neg hiq]
      exact out6 ((h.row i hi).un hu (fun k hk hx => by
        have e1 := h.tag i hi k hk
        have e2 := h.tag q hq k hx.symm
        exact hiq (e1.symm.trans e2)) k1 hti)
  · by_cases hiq : i = q
    · subst hiq
      rw [if_pos rfl] at hk
      rcases hb with hb | ⟨k', hb, hge⟩
      · rw [hb] at hk
        obtain ⟨cs, hh⟩ := own_type h3 hk
        rw [if_pos (lt_of_heap hh)]
        exact h.tag i hi k hk
      · rw [hb] at hk
        injection hk with hk
        subst hk
        rw [if_neg (by omega)]
    · rw [if_neg hiq] at hk
      obtain ⟨rows', _, h3'⟩ := (h.row i hi).own
      obtain ⟨cs, hh⟩ := own_type h3' hk
      rw [if_pos (lt_of_heap hh)]
      exact h.tag i hi k hk
/-- What a walk has when it has appended a call to thread q and stored the slice. -/
theorem Mg.call (h : Mg ti tc tt tg w B g6 nt ts T) (hq : q < nt) (hne : tc ≠ ti ∧ tt ≠ ti ∧ tc ≠ tt) {rows : List (List Value)} {r : List Value} {c : Cl} {w8 : World} {n : Nat} (h1 : rows.length = (T q).length) (h2 : ∀ r ∈ rows, r.length = 2) (h4 : ∀ (i : Nat) r x, rows[i]? = some r → (T q)[i]? = some x → eA ti w r x)
    (h3 : w.ownsRow B tc 2 (ts q) (T q).length rows.flatten) (hr : eA ti w r c) (ho : w8.ownsRow B tc 2 v' n (rows.flatten ++ r)) (hn : n = (T q).length + 1) (hg : (w.alloc (.cells r.toArray tc)).grownBy w8 (ts q).ownBlock) (hb : v'.ownBlock = (ts q).ownBlock ∨ v'.ownBlock = some (w.heap.size + 1)) :
    ∃ tg', Mg ti tc tt tg' (w8.setCell ⟨g6, q, none⟩ v') B g6 nt (fun i => if i = q then v' else ts i) (fun i => if i = q then T q ++ [c] else T i) ∧ Kc (fun t => t = tc ∨ t = tt) w (w8.setCell ⟨g6, q, none⟩ v') ∧ ∀ (a : World) (Z : Nat), Z ≤ B → B ≤ w.heap.size → Below Z a w → Below Z a (w8.setCell ⟨g6, q, none⟩ v') := by
  have hA := (Below.refl w.heap.size w).alloc (Nat.le_refl _) (.cells r.toArray tc)
  have kA : Kc (fun t => t = tc ∨ t = tt) w (w.alloc (.cells r.toArray tc)) := Kc.below hA
  have hti : ¬ (ti = tc ∨ ti = tt) := by
    rintro (h | h)
    · exact hne.1 h.symm
    · exact hne.2.1 h.symm
  have h3A := h3.alloc (.cells r.toArray tc)
  obtain ⟨m1, m2⟩ := (h.below hA).push hq hne h1 h2 (fun i r x hr hx => (h4 i r x hr hx).kc kA hti) h3A ho hn (un_grown (X := fun k => some k = (ts q).ownBlock) (Un.refl _ _) hg (fun k hk => hk.symm)) (by
    rcases hb with hb | hb
    · exact .inl hb
    · exact .inr ⟨_, hb, by simp⟩) (hr.kc kA hti)
  refine ⟨_, m1, kA.trans m2, fun a Z hZ hBw hz => ?_⟩
  have hs := hz.size
  have h5 : Below Z a (w.alloc (.cells r.toArray tc)) := hz.alloc (Nat.le_trans hZ hBw) _
  have h6 : Below Z a w8 := h5.grown hg (by simp; omega) (fun k hk => Nat.le_trans hZ (h3A.lt k hk).1)
  exact below_at h6 (Nat.le_trans hZ h.B6) _ _
theorem Mg.made (w : World) (ti tc tt : TypeId) {B g6 nt : Nat} (h : Box w g6 tt (List.replicate nt (.slice none 0 0))) (hB : B ≤ g6) : Mg ti tc tt (fun _ => 0) w B g6 nt (fun _ => .slice none 0 0) (fun _ => []) := by
  refine ⟨?_, fun i hi => Ca.nil _ _ _ _, fun i hi k hk => (by cases hk), hB⟩
  have : (List.range nt).map (fun _ => Value.slice none 0 0) = List.replicate nt (.slice none 0 0) := by
    apply List.ext_getElem?
    intro i
    by_cases hi : i < nt
    · simp [hi]
    · rw [List.getElem?_eq_none (by simp; omega), List.getElem?_eq_none (by simp; omega)]
  rw [this]
  exact h
theorem flat_two : ∀ (rows : List (List Value)) (i : Nat) (a b u : Value), (∀ r ∈ rows, r.length = 2) → rows[i]? = some [a, b] → rows.flatten.set (i * 2 + 1) u = (rows.set i [a, u]).flatten
  | [], i, a, b, u, _, h => by simp at h
  | r :: rows, 0, a, b, u, _, h => by
    simp only [List.getElem?_cons_zero, Option.some.injEq] at h
    subst h
    simp
  | r :: rows, i + 1, a, b, u, hr, h => by
    have ih := flat_two rows i a b u (fun q hq => hr q (by simp [hq])) (by simpa using h)
    have h2 := hr r (by simp)
    match r, h2 with
    | [x, y], _ => rw [List.flatten_cons, List.set_cons_succ, List.flatten_cons, ← ih, show (i + 1) * 2 + 1 = i * 2 + 1 + 1 + 1 by omega]; rfl
/-- The arguments of the i-th call of thread q are others then. -/
theorem Mg.args (h : Mg ti tc tt tg w B g6 nt ts T) (hq : q < nt) (hne : tc ≠ ti ∧ tt ≠ ti ∧ tc ≠ tt) {g n c i k m : Nat} {x : Cl} {A : Option Addr} {ar : List Int} (hv : ts q = .slice (some ⟨g, 0, none⟩) n c) (hn : n = (T q).length) (hx : (T q)[i]? = some x) (hmk : m ≤ k) (ha : QT w ti 1 A m (ar.map (Value.int .i64))) :
    Mg ti tc tt tg (w.setCell ⟨g, i * 2 + 1, none⟩ (.slice A m k)) B g6 nt ts (fun t => if t = q then (T q).set i ⟨x.k, ar⟩ else T t) ∧ Kc (fun t => t = tc) w (w.setCell ⟨g, i * 2 + 1, none⟩ (.slice A m k)) := by
  obtain ⟨rows, h1, h2, h3, h4⟩ := h.row q hq
  rw [hv, ← hn] at h3
  have hi := (List.getElem?_eq_some_iff.1 hx).1
  have hri : rows[i]? = some rows[i] := List.getElem?_eq_getElem (by omega)
  obtain ⟨A0, n0, k0, e0, _, _⟩ := h4 i _ _ hri hx
  rw [e0] at hri
  have hst := (World.ownsRow.stored h3 (i * 2 + 1) (.slice A m k))
  have hg : w.grownBy (w.setCell ⟨g, i * 2 + 1, none⟩ (.slice A m k)) (some g) := hst.2
  have hX : ∀ b cs t fr, b = g → w.heap[b]? = some (.cells cs t fr) → t = tc := fun b cs t fr hb hh => by
    subst hb
    exact own_same h3 rfl hh
  have hu : Un (fun b => b = g) w (w.setCell ⟨g, i * 2 + 1, none⟩ (.slice A m k)) := un_set (X := fun b => b = g) (Un.refl _ _) hg rfl
  have kk : Kc (fun t => t = tc) w (w.setCell ⟨g, i * 2 + 1, none⟩ (.slice A m k)) := Kc.un hu hX
  have hti : ¬ (ti = tc) := fun h => hne.1 h.symm
  refine ⟨⟨h.thr.un hu fun hx => hne.2.2 (hX g6 _ _ _ hx h.thr).symm, fun t ht => ?_, h.tag, h.B6⟩, kk⟩
  by_cases htq : t = q
  · subst htq
    rw [if_pos rfl]
    have hrl : i < rows.length := by omega
    refine ⟨rows.set i [.int .i64 x.k, .slice A m k], by simp [h1], fun r hr => ?_, ?_, fun j r y hr hy => ?_⟩
    · rcases List.mem_or_eq_of_mem_set hr with hr | hr
      · exact h2 r hr
      · rw [hr]; rfl
    · rw [← flat_two rows i _ _ _ h2 hri, List.length_set, ← hn, hv]
      exact hst.1
    · by_cases hji : i = j
      · subst hji
        rw [List.getElem?_set_self hrl] at hr
        rw [List.getElem?_set_self hi] at hy
        injection hr with hr
        injection hy with hy
        subst hr hy
        exact ⟨A, m, k, rfl, hmk, ha.kc kk hti⟩
      · rw [List.getElem?_set_ne hji] at hr hy
        exact (h4 j r y hr hy).kc kk hti
  · rw [if_neg htq]
    refine (h.row t ht).un hu (fun b hb hx => ?_) kk hti
    have e1 := h.tag t ht b hb
    have e2 := h.tag q hq b (by rw [hv, hx]; rfl)
    exact htq (e1.symm.trans e2)
theorem Mg.congr {T' : Nat → List Cl} (h : Mg ti tc tt tg w B g6 nt ts T) (hT : ∀ i, i < nt → T i = T' i) : Mg ti tc tt tg w B g6 nt ts T' := ⟨h.thr, fun i hi => (hT i hi) ▸ h.row i hi, h.tag, h.B6⟩
/-- The threads as a machine has them. -/
theorem Mg.rts (h : Mg ti tc tt tg w B g6 nt ts T) : RTs w w.heap.size (some ⟨g6, 0, none⟩) nt ((List.range nt).map T) := by
  refine ⟨(List.range nt).map (fun i => [ts i]), by simp, fun r hr => ?_, ?_, fun i r x hr hx => ?_⟩
  · obtain ⟨i, _, rfl⟩ := List.mem_map.1 hr; rfl
  · have e : ((List.range nt).map (fun i => [ts i])).flatten = (List.range nt).map ts := by
      induction (List.range nt) with
      | nil => rfl
      | cons a l ih => simp [ih]
    rw [e]
    exact ⟨by simp, fun _ => ⟨g6, 0, rfl, lt_of_heap h.thr, fun j _ => by rw [Nat.zero_add]; exact h.thr.cell j⟩⟩
  · have hi : i < nt := by
      have := (List.getElem?_eq_some_iff.1 hx).1
      simpa using this
    rw [range_at _ hi] at hr hx
    injection hr with hr
    injection hx with hx
    subst hr hx
    obtain ⟨A, c, hv, hlc, hrl⟩ := (h.row i hi).post
    exact ⟨A, (T i).length, c, by rw [hv], hlc, hrl⟩
end
end Go.Baro

set_option linter.unusedSimpArgs false
set_option linter.unusedVariables false
namespace Go.Baro
open Go.RowKit

/-- The call of a thread. -/
def clOf (m : Mc) (th cl : Nat) : Cl := ((m.ts[th]?.getD [])[cl]?).getD ⟨0, []⟩
/-- The key of a call. -/
def hK (d : Dg) : Int := 100 * d.th + d.cl
/-- A call as an operation: pf tells whether it puts, what, and whether it is told as it must be. -/
def hA1 (m : Mc) (pf : Cl → List Int → Bool → Bool × Int × Bool) (d : Dg) : Ac := if d.e = -1 then ⟨d.b, -1, false, 0, 0⟩ else ⟨d.b, d.e, (pf (clOf m d.th d.cl) d.to true).1, (pf (clOf m d.th d.cl) d.to true).2.1, 0⟩
def hA (m : Mc) (pf : Cl → List Int → Bool → Bool × Int × Bool) (d : Dg) : Ac := if d.e = -1 then ⟨d.b, -1, (pf (clOf m d.th d.cl) [] false).1, (pf (clOf m d.th d.cl) [] false).2.1, 0⟩ else hA1 m pf d
/-- What is asked of the events. -/
structure HistOk (m : Mc) (pf : Cl → List Int → Bool → Bool × Int × Bool) (G : Cl → Prop) (T : List Ev) : Prop where
  rng : ∀ x ∈ T, x.th < m.ts.length ∧ x.cl < (m.ts[x.th]?.getD []).length
  drng : ∀ j, ∀ d ∈ dgs (T.take j), d.th < m.ts.length ∧ d.cl < (m.ts[d.th]?.getD []).length
  uq : ∀ (j : Nat) (x : Ev), T[j]? = some x → x.en = true → ∀ d ∈ dgs (T.take j), d.th = x.th → d.cl = x.cl → d.e = -1
  okE : ∀ x ∈ T, x.en = true → (pf (clOf m x.th x.cl) x.to true).2.2 = true
  okO : ∀ d ∈ dgs T, d.e = -1 → (pf (clOf m d.th d.cl) [] false).2.2 = true
  good : ∀ t ∈ m.ts, ∀ c ∈ t, G c
theorem clOf_at {m : Mc} {t c : Nat} {l : List Cl} {x : Cl} (h1 : m.ts[t]? = some l) (h2 : l[c]? = some x) : clOf m t c = x := by simp [clOf, h1, h2]
/-- The calls of which the first k are ended by an event. -/
def finD (x : Ev) (k : Nat) (D : List Dg) : List Dg := (D.take k).map (fun d => d.fin x) ++ D.drop k
theorem finD_zero (x : Ev) (D : List Dg) : finD x 0 D = D := by simp [finD]
theorem finD_len (x : Ev) (k : Nat) (D : List Dg) : (finD x k D).length = D.length := by simp [finD]; omega
theorem finD_all {x : Ev} {k : Nat} {D : List Dg} (h : D.length ≤ k) : finD x k D = D.map (fun d => d.fin x) := by
  unfold finD
  rw [List.take_of_length_le h, List.drop_eq_nil_of_le h, List.append_nil]
theorem finD_at {x : Ev} {k : Nat} {D : List Dg} : (finD x k D)[k]? = D[k]? := by
  unfold finD
  by_cases h : k ≤ D.length
  · rw [List.getElem?_append_right (by simp; omega)]
    simp
    rw [show k - min k D.length = 0 by omega, Nat.add_zero]
  · rw [List.getElem?_eq_none (by simp; omega), List.getElem?_eq_none (by omega)]
theorem finD_succ {x : Ev} {k : Nat} {D : List Dg} {d : Dg} (hp : D[k]? = some d) : finD x (k + 1) D = (finD x k D).set k (d.fin x) := by
  have hk := (List.getElem?_eq_some_iff.1 hp).1
  unfold finD
  rw [List.take_add_one, hp, Option.toList_some, List.map_append, List.map_singleton, List.append_assoc, List.drop_eq_getElem_cons hk, List.set_append_right _ _ (by simp; omega), show k - ((D.take k).map (fun d => d.fin x)).length = 0 by simp; omega]
  rfl
theorem finD_skip {x : Ev} {k : Nat} {D : List Dg} {d : Dg} (hp : D[k]? = some d) (h : ¬ d.is x) : finD x (k + 1) D = finD x k D := by
  rw [finD_succ hp]
  unfold Dg.fin
  rw [if_neg h]
  have hk := (List.getElem?_eq_some_iff.1 hp).1
  apply List.ext_getElem?
  intro j
  by_cases hj : k = j
  · subst hj
    rw [List.getElem?_set_self (by rw [finD_len]; exact hk), finD_at, hp]
  · rw [List.getElem?_set_ne hj]
theorem flat_ac : ∀ (L : List Ac) (k : Nat) (a : Ac) (e v : Int) (p : Bool), L[k]? = some a → (((L.flatMap acV).set (k * 5 + 1) (.int .i64 e)).set (k * 5 + 2) (.bool p)).set (k * 5 + 3) (.int .i64 v) = (L.set k ⟨a.b, e, p, v, a.add⟩).flatMap acV
  | [], k, a, e, v, p, h => by simp at h
  | b :: L, 0, a, e, v, p, h => by
    simp only [List.getElem?_cons_zero, Option.some.injEq] at h
    subst h
    simp [acV]
  | b :: L, k + 1, a, e, v, p, h => by
    have ih := flat_ac L k a e v p (by simpa using h)
    rw [List.flatMap_cons, List.set_cons_succ, List.flatMap_cons, ← ih, show (k + 1) * 5 + 1 = k * 5 + 1 + 5 by omega, show (k + 1) * 5 + 2 = k * 5 + 2 + 5 by omega, show (k + 1) * 5 + 3 = k * 5 + 3 + 5 by omega]
    simp [acV]
/-- Operations of the call's own. -/
def OwnA (w : World) (B : Nat) (e : TypeId) (v : Value) (n : Nat) (L : List Ac) : Prop := w.ownsRow B e 5 v n (L.flatMap acV)
section
variable {w : World} {B n : Nat} {e : TypeId} {L : List Ac}
theorem OwnA.len {v : Value} (h : OwnA w B e v n L) : L.length = n := by have := h.1; rw [flatMap_len acV_len] at this; omega
theorem OwnA.val {g c : Nat} (h : OwnA w B e (.slice (some ⟨g, 0, none⟩) n c) n L) {i : Nat} (hi : i < n) {a : Ac} (ha : L[i]? = some a) : w.cell? ⟨g, i * 5, none⟩ = some (.int .i64 a.b) ∧ w.cell? ⟨g, i * 5 + 1, none⟩ = some (.int .i64 a.e) ∧ w.cell? ⟨g, i * 5 + 2, none⟩ = some (.bool a.put) ∧ w.cell? ⟨g, i * 5 + 3, none⟩ = some (.int .i64 a.v) ∧
    ∀ j, w.frozen? ⟨g, j, none⟩ = false := by
  have key : ∀ j, j < 5 → w.cell? ⟨g, i * 5 + j, none⟩ = (acV a)[j]? := fun j hj => by
    rw [World.ownsRow.cellAt h _ (by omega), flatMap_at acV_len L i j _ ha hj]
  exact ⟨key 0 (by omega), key 1 (by omega), key 2 (by omega), key 3 (by omega), fun j => World.ownsRow.frozenAt h j⟩
theorem OwnA.put {g c : Nat} (h : OwnA w B e (.slice (some ⟨g, 0, none⟩) n c) n L) (i : Nat) (u : Value) : (w.setCell ⟨g, i, none⟩ u).ownsRow B e 5 (.slice (some ⟨g, 0, none⟩) n c) n ((L.flatMap acV).set i u) := (World.ownsRow.stored h i u).1
end
end Go.Baro

set_option linter.unusedSimpArgs false
set_option linter.unusedVariables false
namespace Go.Proofs.YtjihopbapnfppabGreatDoor
open Go.ChangeShapes Go.WideShapes Go.ChangeAt Go.RowKit Go.Ord Go.Baro

def laidL : List (String × DataW Unit) := [("math/bits.deBruijn32tab", Rows.laid_math_bits_deBruijn32tab), ("math/bits.deBruijn64tab", Rows.laid_math_bits_deBruijn64tab), ("internal/strconv.uint64pow10", Rows.laid_internal_strconv_uint64pow10), ("barograph/vm.operands", Rows.laid_barograph_vm_operands)]
theorem gTab : Tryz.prog.globalNamed "barograph/vm.operands" = some 0 := by kernel_rfl
theorem tTab : (Tryz.prog.globals[0]?).map (·.type) = some 135 := by kernel_rfl
theorem door_met (os : Os) (args : Array Value) : laidMetH Tryz.prog laidL ((World.doorLaid Tryz.prog 400 os).forCall (fun _ _ => 0) ⟨#[], args, []⟩).memory := by
  rw [MakeChecks.laidMetH_plain _ _ _ (by kernel_rfl)]
  exact laidMet_of_run' 8 (by kernel_rfl) (by kernel_rfl)

/-- The operands of each kind. -/
def tabRows : List (Int × Int × Int × Int) := [(0, 0, 0, 0), (1, 3, 0, 0), (1, 1, 0, 0), (1, 1, 1, 0), (1, 1, 1, 0), (1, 1, 1, 0), (1, 1, 1, 0), (1, 1, 1, 0), (1, 1, 1, 0), (1, 1, 1, 0), (2, 0, 0, 0), (1, 2, 0, 0), (1, 2, 0, 0), (1, 1, 3, 0), (1, 1, 3, 0), (1, 1, 3, 1), (1, 0, 0, 0), (0, 0, 0, 0)]
def rowD (H : Type) (r : Int × Int × Int × Int) : DataW H := .agg [.lit (.int .i64 r.1), .lit (.int .i64 r.2.1), .lit (.int .i64 r.2.2.1), .lit (.int .i64 r.2.2.2)]
theorem laid_rows (H : Type) : (Rows.laid_barograph_vm_operands : DataW H) = .agg (tabRows.map (rowD H)) := rfl
/-- The table of operands lies in its block. -/
def Tab (W : World) : Prop := ∀ i a b c d, tabRows[i]? = some (a, b, c, d) →
  W.cell? ⟨0, i * 4, none⟩ = some (.int .i64 a) ∧ W.cell? ⟨0, i * 4 + 1, none⟩ = some (.int .i64 b) ∧ W.cell? ⟨0, i * 4 + 2, none⟩ = some (.int .i64 c) ∧ W.cell? ⟨0, i * 4 + 3, none⟩ = some (.int .i64 d)

theorem of_laid {W : World} (h : laidMetH Tryz.prog laidL W) : Tab W := by
  rw [MakeChecks.laidMetH_plain _ _ _ (by kernel_rfl)] at h
  obtain ⟨ps, ⟨_, _, _, _, _, _, _, _, _, _, ⟨_, _, _, _, _, _, _, _, _, _, ⟨_, _, _, _, _, _, _, _, _, _, ⟨g0, t0, cs0, f0, p0, q0, hg0, ht0, hv0, hd0, _, _⟩, _⟩, _⟩, _⟩, _, _⟩ := h
  obtain rfl := Option.some.inj (gTab.symm.trans hg0)
  obtain rfl := Option.some.inj (tTab.symm.trans ht0)
  obtain ⟨xs, m1, rfl, hx1, hlen, hn5, hel⟩ := DataW.trod_array Tryz.underlying135 hd0
  have c4 : Tryz.prog.cellsOf 134 = 4 := by kernel_rfl
  have c1 : Tryz.prog.cellsOf 133 = 1 := by kernel_rfl
  rw [c4] at hel
  have hcell := fun i => World.var?_cell hg0 hv0 i
  have hcell' : ∀ i, W.cell? ⟨0, i, none⟩ = cs0.toList[i]? := fun i => by rw [hcell i]; simp
  clear hcell
  have hx2 : xs.map (·.1) = tabRows.map (rowD Unit) := by
    have := hx1
    rw [laid_rows] at this
    simp only [Prod.mk.injEq, DataW.agg.injEq] at this
    exact this.1.symm
  clear hx1
  intro i a b c d hi
  have hi18 : i < 18 := (List.getElem?_eq_some_iff.1 hi).1
  have hixs : i < xs.length := by omega
  have h0 := (hel i hi18).trans (List.getElem?_eq_getElem hixs)
  have hrow : (xs[i]'hixs).1 = rowD Unit (a, b, c, d) := by
    have := congrArg (·[i]?) hx2
    simp only [List.getElem?_map, hi, List.getElem?_eq_getElem hixs, Option.map_some, Option.some.injEq] at this
    exact this
  obtain ⟨ys, m2, rfl, hy, hly, hn4, hey⟩ := DataW.trod_array Tryz.underlying134 h0
  rw [c4] at hly
  rw [c1] at hey
  rw [hy] at hrow
  have each : ∀ (j : Nat), j < 4 → ∃ v, (((cs0.toList.drop (i * 4)).take 4).drop j).take 1 = [Value.int .i64 v] ∧ (ys[j]?).map (·.1) = some (.lit (.int .i64 v)) := by
    intro j hj
    have h1 := hey j hj
    rw [Nat.mul_one, List.getElem?_eq_getElem (show j < ys.length by omega)] at h1
    obtain ⟨v, ev, fv, _⟩ := DataW.trod_int (k := .i64) Tryz.underlying133 h1
    exact ⟨v, ev, by rw [List.getElem?_eq_getElem (show j < ys.length by omega), Option.map_some, fv]⟩
  have key : ∀ (j : Nat) (x : Int), j < 4 → [a, b, c, d][j]? = some x → W.cell? ⟨0, i * 4 + j, none⟩ = some (.int .i64 x) := by
    intro j x hj hx
    obtain ⟨v, ev, fv⟩ := each j hj
    have hv : v = x := by
      simp only [rowD, DataW.agg.injEq] at hrow
      have := congrArg (·[j]?) hrow
      simp only [List.getElem?_map] at this
      rw [fv] at this
      match j, hj with
      | 0, _ => simp at this hx; omega
      | 1, _ => simp at this hx; omega
      | 2, _ => simp at this hx; omega
      | 3, _ => simp at this hx; omega
    subst hv
    rw [hcell']
    have := congrArg (·[0]?) ev
    simp [List.getElem?_take, hj] at this
    simpa using this
  exact ⟨key 0 a (by decide) rfl, key 1 b (by decide) rfl, key 2 c (by decide) rfl, key 3 d (by decide) rfl⟩

theorem Tab.lt {W : World} (h : Tab W) : 0 < W.heap.size := block_lt' (h 0 0 0 0 0 rfl).1
theorem Tab.below {W W' : World} {B : Nat} (h : Tab W) (hb : Below B W W') (hB : 0 < B) : Tab W' := fun i a b c d hx => by
  obtain ⟨h0, h1, h2, h3⟩ := h i a b c d hx
  exact ⟨(hb.cell hB).trans h0, (hb.cell hB).trans h1, (hb.cell hB).trans h2, (hb.cell hB).trans h3⟩
theorem Tab.heap {W W' : World} (h : Tab W) (hh : W'.heap = W.heap) : Tab W' := fun i a b c d hx => by
  have : ∀ x : Addr, W'.cell? x = W.cell? x := fun x => by simp [World.cell?, hh]
  rw [this, this, this, this]; exact h i a b c d hx
end Go.Proofs.YtjihopbapnfppabGreatDoor

set_option linter.unusedSimpArgs false
set_option linter.unusedVariables false
namespace Go.Baro
open Go.ChangeShapes Go.WideShapes Go.ChangeAt Go.RowKit
section
variable {H : Type} {enc : TypeId × Value → H} {P : Program} {W : World}
/-- A slice whose elements open. -/
theorem open_RG {α : Type} {s : Nat} {R : World → Nat → List Value → α → Prop} {ok : α → Prop} {t e : TypeId} {a : Option Addr} {len cap : Nat} {d : DataW H} {p : List MemPlace} (ht : P.underlying t = some (.slice e)) (hc : P.cellsOf e = s) (hs : 0 < s)
    (hrow : ∀ n r y, r.length = s → DataW.trod enc P W 0 (fun _ => true) true n e r = some y → ∃ x, R W W.heap.size r x ∧ ok x)
    (h : DataW.Trod enc P W 0 (fun _ => true) true t (.slice a len cap) d p) : ∃ ls : List α, RG s R W W.heap.size a len ls ∧ (∀ x ∈ ls, ok x) ∧ len ≤ cap := by
  obtain ⟨rows, hr, hl, hrw, hlc, _⟩ := open_rows ht hc hs h
  obtain ⟨us, ls, he, hul, hp, hq⟩ := zip_of (f := fun r : List Value => r) (R := fun r x => R W W.heap.size r x ∧ ok x) rows (by
    intro r hr
    obtain ⟨h1, y, n, hy⟩ := hrw r hr
    obtain ⟨x, hx⟩ := hrow n r y h1 hy
    exact ⟨r, x, rfl, hx⟩)
  rw [show us.map (fun r : List Value => r) = us from List.map_id us] at he
  subst he
  refine ⟨ls, ⟨rows, hul, fun r hr => (hrw r hr).1, hr, fun i r x h1 h2 => (hp i r x h1 h2).1⟩, fun x hx => ?_, hlc⟩
  obtain ⟨r, hr⟩ := hq x hx
  exact hr.2
/-- A cell that is a slice. -/
theorem open_cell {e b : TypeId} {n : Nat} {r : List Value} {y : DataW H × List MemPlace} (he : P.underlying e = some (.slice b)) (h : DataW.trod enc P W 0 (fun _ => true) true n e r = some y) :
    ∃ A len cap, r = [.slice A len cap] ∧ cap ≤ 9223372036854775807 ∧ DataW.Trod enc P W 0 (fun _ => true) true e (.slice A len cap) y.1 y.2 := by
  have hm : ∃ A len cap, r = [.slice A len cap] ∧ cap ≤ maxLen := by
    rcases DataW.trod_slice he h with ⟨hcs, _⟩ | ⟨x, l, c, _, _, _, _, hcs, _, _, _, hm, _⟩
    · exact ⟨none, 0, 0, hcs, by unfold maxLen; omega⟩
    · exact ⟨some x, l, c, hcs, hm⟩
  obtain ⟨A, len, cap, rfl, hm⟩ := hm
  exact ⟨A, len, cap, rfl, by unfold maxLen at hm; omega, n, by simpa [Value.cells] using h⟩
def okCo (c : List Ins) : Prop := c.length ≤ 9223372036854775807 ∧ ∀ o ∈ c, inI o
def okCa (c : Cl) : Prop := inW c.k ∧ c.ar.length ≤ 9223372036854775807 ∧ ∀ x ∈ c.ar, inW x
def okTh (t : List Cl) : Prop := t.length ≤ 9223372036854775807 ∧ ∀ c ∈ t, okCa c
/-- The codes. -/
theorem open_RCs {t e o i : TypeId} {f0 f1 f2 f3 f4 : Field} {a : Option Addr} {len cap : Nat} {d : DataW H} {p : List MemPlace} (ht : P.underlying t = some (.slice e)) (hce : P.cellsOf e = 1) (he : P.underlying e = some (.slice o)) (ho : P.underlying o = some (.struct #[f0, f1, f2, f3, f4])) (hco : P.cellsOf o = 5)
    (hi : P.underlying i = some (.int .i64)) (hci : P.cellsOf i = 1) (hf : [f0, f1, f2, f3, f4].map (fun f => (f.type, f.offset)) = [(i, 0), (i, 1), (i, 2), (i, 3), (i, 4)])
    (h : DataW.Trod enc P W 0 (fun _ => true) true t (.slice a len cap) d p) : ∃ ls, RCs W W.heap.size a len ls ∧ (∀ c ∈ ls, okCo c) ∧ len ≤ cap := by
  refine open_RG ht hce (by decide) (fun n r y hr hy => ?_) h
  obtain ⟨A, l, c, rfl, hm, hT⟩ := open_cell he hy
  obtain ⟨fs, h1, h2, h3, _⟩ := open_RO he ho hco hi hci hf hT
  exact ⟨fs, ⟨A, l, c, rfl, h3, h1⟩, by rw [h1.len]; omega, h2⟩
/-- The calls of a thread. -/
theorem open_RLs {t e v i : TypeId} {f0 f1 : Field} {a : Option Addr} {len cap : Nat} {d : DataW H} {p : List MemPlace} (ht : P.underlying t = some (.slice e)) (hce : P.cellsOf e = 2) (he : P.underlying e = some (.struct #[f0, f1]))
    (hi : P.underlying i = some (.int .i64)) (hci : P.cellsOf i = 1) (hv : P.underlying v = some (.slice i)) (hcv : P.cellsOf v = 1) (hf : (f0.type, f0.offset, f1.type, f1.offset) = (i, 0, v, 1))
    (h : DataW.Trod enc P W 0 (fun _ => true) true t (.slice a len cap) d p) : ∃ ls, RLs W W.heap.size a len ls ∧ (∀ c ∈ ls, okCa c) ∧ len ≤ cap := by
  simp only [Prod.mk.injEq] at hf
  obtain ⟨e0, o0, e1, o1⟩ := hf
  refine open_RG ht hce (by decide) (fun n r y hr hy => ?_) h
  obtain ⟨y0, y1, m, _, _, h0, h1⟩ := trod_struct2 he hy
  rw [e0, o0, hci] at h0
  rw [e1, o1, hcv] at h1
  obtain ⟨k, hk, _, wk⟩ := DataW.trod_int hi h0
  obtain ⟨A, l, c, hr1, hm, hT⟩ := open_cell hv h1
  obtain ⟨xs, h3, h4, h5, _⟩ := open_RI hv hi hci hT
  match r, hr with
  | [u0, u1], _ =>
    simp at hk hr1
    subst hk hr1
    exact ⟨⟨k, xs⟩, ⟨A, l, c, rfl, h5, h3⟩, bounds_i64 wk, by rw [h3.len]; omega, fun x hx => bounds_i64 (h4 x hx)⟩
/-- The threads. -/
theorem open_RTs {t u e v i : TypeId} {f0 f1 : Field} {a : Option Addr} {len cap : Nat} {d : DataW H} {p : List MemPlace} (ht : P.underlying t = some (.slice u)) (hcu : P.cellsOf u = 1) (hu : P.underlying u = some (.slice e)) (hce : P.cellsOf e = 2) (he : P.underlying e = some (.struct #[f0, f1]))
    (hi : P.underlying i = some (.int .i64)) (hci : P.cellsOf i = 1) (hv : P.underlying v = some (.slice i)) (hcv : P.cellsOf v = 1) (hf : (f0.type, f0.offset, f1.type, f1.offset) = (i, 0, v, 1))
    (h : DataW.Trod enc P W 0 (fun _ => true) true t (.slice a len cap) d p) : ∃ ls, RTs W W.heap.size a len ls ∧ (∀ c ∈ ls, okTh c) ∧ len ≤ cap := by
  refine open_RG ht hcu (by decide) (fun n r y hr hy => ?_) h
  obtain ⟨A, l, c, rfl, hm, hT⟩ := open_cell hu hy
  obtain ⟨ls, h1, h2, h3⟩ := open_RLs hu hce he hi hci hv hcv hf hT
  exact ⟨ls, ⟨A, l, c, rfl, h3, h1⟩, by rw [h1.len]; omega, h2⟩
/-- What is known of a machine that came in. -/
structure InM (W : World) (Aw : Option Addr) (nw cw : Nat) (Ac : Option Addr) (nc cc : Nat) (At : Option Addr) (nt ct : Nat) (m : Mc) : Prop where
  ws : RI W W.heap.size .i64 Aw nw m.ws
  cs : RCs W W.heap.size Ac nc m.cs
  ts : RTs W W.heap.size At nt m.ts
  wok : ∀ x ∈ m.ws, inW x
  cok : ∀ c ∈ m.cs, okCo c
  tok : ∀ t ∈ m.ts, okTh t
  lw : nw ≤ cw ∧ cw ≤ 9223372036854775807
  lc : nc ≤ cc ∧ cc ≤ 9223372036854775807
  lt : nt ≤ ct ∧ ct ≤ 9223372036854775807
theorem InM.below {W W' : World} {Aw : Option Addr} {nw cw : Nat} {Ac : Option Addr} {nc cc : Nat} {At : Option Addr} {nt ct : Nat} {m : Mc} (h : InM W Aw nw cw Ac nc cc At nt ct m) (hb : Below W.heap.size W W') : InM W' Aw nw cw Ac nc cc At nt ct m :=
  ⟨(h.ws.below hb).more hb.size, (h.cs.below hb).more hb.size, (h.ts.below hb).more hb.size, h.wok, h.cok, h.tok, h.lw, h.lc, h.lt⟩
theorem open_Mc {r : Reach} {b0 : Nat} {t tw tc te to tt tu tl i : TypeId} {f0 f1 f2 g0 g1 g2 g3 g4 k0 k1 : Field} {v : Value} {d : DataW H} {p : List MemPlace} (hs : P.underlying t = some (.struct #[f0, f1, f2])) (hone : Go.Deep.oneCellFields P #[f0, f1, f2] = true) (hC : P.cellsOf t = 3)
    (hf : (f0.type, f1.type, f2.type) = (tw, tc, tt)) (hi : P.underlying i = some (.int .i64)) (hci : P.cellsOf i = 1) (hw : P.underlying tw = some (.slice i)) (hcw : P.cellsOf tw = 1)
    (hc : P.underlying tc = some (.slice te)) (hce : P.cellsOf te = 1) (he : P.underlying te = some (.slice to)) (ho : P.underlying to = some (.struct #[g0, g1, g2, g3, g4])) (hco : P.cellsOf to = 5) (hg : [g0, g1, g2, g3, g4].map (fun f => (f.type, f.offset)) = [(i, 0), (i, 1), (i, 2), (i, 3), (i, 4)])
    (ht : P.underlying tt = some (.slice tu)) (hcu : P.cellsOf tu = 1) (hu : P.underlying tu = some (.slice tl)) (hcl : P.cellsOf tl = 2) (hl : P.underlying tl = some (.struct #[k0, k1])) (hk : (k0.type, k0.offset, k1.type, k1.offset) = (i, 0, tw, 1))
    (hv : Value.okWide P W r b0 t v) (h : DataW.Trod enc P W 0 (fun _ => true) true t v d p) :
    ∃ Aw nw cw Ac nc cc At nt ct m, v = .agg #[.slice Aw nw cw, .slice Ac nc cc, .slice At nt ct] ∧ InM W Aw nw cw Ac nc cc At nt ct m := by
  obtain ⟨v0, v1, v2, y0, y1, y2, n, rfl, _, _, h0, h1, h2⟩ := Go.Joins.open_agg3 hs hone hC hv h
  simp only [Prod.mk.injEq] at hf
  obtain ⟨e0, e1, e2⟩ := hf
  rw [e0] at h0
  rw [e1] at h1
  rw [e2] at h2
  obtain ⟨Aw, nw, cw, q0, m0, T0⟩ := open_cell hw h0
  obtain ⟨Ac, nc, cc, q1, m1, T1⟩ := open_cell hc h1
  obtain ⟨At, nt, ct, q2, m2, T2⟩ := open_cell ht h2
  simp only [List.cons.injEq, and_true] at q0 q1 q2
  subst q0 q1 q2
  obtain ⟨ws, a1, a2, a3, _⟩ := open_RI hw hi hci T0
  obtain ⟨cs, b1, b2, b3⟩ := open_RCs hc hce he ho hco hi hci hg T1
  obtain ⟨ts, c1, c2, c3⟩ := open_RTs ht hcu hu hcl hl hi hci hw hcw hk T2
  exact ⟨Aw, nw, cw, Ac, nc, cc, At, nt, ct, ⟨ws, cs, ts⟩, rfl, a1, b1, c1, fun x hx => bounds_i64 (a2 x hx), b2, c2, ⟨a3, m0⟩, ⟨b3, m1⟩, c3, m2⟩
end
end Go.Baro
