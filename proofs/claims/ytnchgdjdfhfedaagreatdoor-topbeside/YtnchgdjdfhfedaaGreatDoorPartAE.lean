/- Of this claim's own texts these, one behind the other: LibT, DoorV, AlgSpec, OrdG, LibT2. No statement of the seat is proved here; no condition but those that stand at the theorems. -/
import Derived.Test.YtnchgdjdfhfedaaGreatDoorPartAD
import Derived.Test.YtnchgdjdfhfedaaGreatDoorRows
import Derived.Test.YtnchgdjdfhfedaaGreatDoorCards
import Derived.Test.YtnchgdjdfhfedaaGreatDoorTie
import Derived.Test.YtnchgdjdfhfedaaGreatDoorPartAC
import Derived.ProofKit
import Derived.OpenShut
import Derived.LaidHandle
import Derived.LaidMore
import Derived.MakeChecks
import Derived.Stop.Joined
import Derived.Deep.Strs
import Derived.Test.YtnchgdjdfhfedaaGreatDoorPartAB
set_option linter.unusedSimpArgs false
set_option linter.unusedVariables false
namespace Go.Baro
open Go.RowKit

/-- A slice that lies in a block of type e. -/
def QT (w : World) (e : TypeId) (s : Nat) (A : Option Addr) (n : Nat) (cs : List Value) : Prop :=
  cs.length = n * s ∧ (0 < n → ∃ b o cur fr, A = some ⟨b, o, none⟩ ∧ w.heap[b]? = some (.cells cur e fr) ∧ ∀ j, j < n * s → w.cell? ⟨b, o + j, none⟩ = cs[j]?)
/-- All blocks of cells are kept but those of the types of T. -/
structure Kc (T : TypeId → Prop) (w w' : World) : Prop where
  size : w.heap.size ≤ w'.heap.size
  block : ∀ (b : Nat) (cs : Array Value) (t : TypeId) (fr : Nat × Nat), w.heap[b]? = some (.cells cs t fr) → ¬ T t → w'.heap[b]? = some (.cells cs t fr)
section
variable {T : TypeId → Prop} {w w' w'' : World} {e t : TypeId} {s n : Nat} {A : Option Addr} {cs : List Value}
theorem lt_of_heap {b : Nat} {o : Obj} (h : w.heap[b]? = some o) : b < w.heap.size := (Array.getElem?_eq_some_iff.1 h).1
theorem Kc.refl (T : TypeId → Prop) (w : World) : Kc T w w := ⟨Nat.le_refl _, fun _ _ _ _ h _ => h⟩
theorem Kc.trans (h : Kc T w w') (k : Kc T w' w'') : Kc T w w'' := ⟨Nat.le_trans h.size k.size, fun i cs t fr h1 h2 => k.block i cs t fr (h.block i cs t fr h1 h2) h2⟩
theorem Kc.below (h : Below w.heap.size w w') : Kc T w w' := ⟨h.size, fun b cs t fr h1 _ => (h.block b (lt_of_heap h1)).trans h1⟩
theorem Kc.ext (h : Ord.Ext w w') : Kc T w w' := ⟨h.size, fun b cs t fr h1 _ => h.kept h1⟩
theorem Kc.un {X : Nat → Prop} (h : Un X w w') (hX : ∀ b cs t fr, X b → w.heap[b]? = some (.cells cs t fr) → T t) : Kc T w w' :=
  ⟨h.size, fun b cs t fr h1 h2 => (h.block b (lt_of_heap h1) fun hx => h2 (hX b cs t fr hx h1)).trans h1⟩
theorem Kc.grown {row : Option Nat} (hg : w.grownBy w' row) (hr : ∀ (b : Nat) (cs : Array Value) (t : TypeId) (fr : Nat × Nat), row = some b → w.heap[b]? = some (.cells cs t fr) → T t) : Kc T w w' :=
  ⟨hg.size, fun b cs t fr h1 h2 => (hg.block b (lt_of_heap h1) (fun e => h2 (hr b cs t fr e.symm h1))).trans h1⟩
theorem QT.rd (h : QT w e s A n cs) : Rd w w.heap.size s A n cs := by
  refine ⟨h.1, fun h0 => ?_⟩
  obtain ⟨b, o, cur, fr, hA, hb, hc⟩ := h.2 h0
  exact ⟨b, o, hA, lt_of_heap hb, hc⟩
theorem QT.kc (h : QT w e s A n cs) (hk : Kc T w w') (he : ¬ T e) : QT w' e s A n cs := by
  refine ⟨h.1, fun h0 => ?_⟩
  obtain ⟨b, o, cur, fr, hA, hb, hc⟩ := h.2 h0
  have hb' := hk.block b cur e fr hb he
  refine ⟨b, o, cur, fr, hA, hb', fun j hj => ?_⟩
  rw [← hc j hj]
  exact World.cell?_of_block (w := w) (a := ⟨b, o + j, none⟩) (hb'.trans hb.symm)
theorem QT.nil (w : World) (e : TypeId) (s : Nat) (A : Option Addr) : QT w e s A 0 [] := ⟨by simp, fun h => absurd h (by omega)⟩
theorem QT.own {B c : Nat} (h : w.ownsRow B e s (.slice A n c) n cs) : QT w e s A n cs := by
  refine ⟨h.1, fun hn => ?_⟩
  rcases h.2 with ⟨_, h0⟩ | ⟨g, cap, cur, hv, _, hh, hnc, _, hsz, htake⟩
  · omega
  · have hA : A = some ⟨g, 0, none⟩ := by injection hv
    subst hA
    refine ⟨g, 0, cur, (0, 0), rfl, hh, fun j hj => ?_⟩
    rw [Nat.zero_add, cell_of_row w g j cur e (0, 0) hh, ← htake, List.getElem?_take, if_pos hj]
    simp
theorem QT.box {b : Nat} (h : Box w b e cs) (hl : cs.length = n * s) : QT w e s (some ⟨b, 0, none⟩) n cs :=
  ⟨hl, fun _ => ⟨b, 0, cs.toArray, (0, 0), rfl, h, fun j _ => by rw [Nat.zero_add]; exact h.cell j⟩⟩
theorem Box.kc {b : Nat} (h : Box w b e cs) (hk : Kc T w w') (he : ¬ T e) : Box w' b e cs := hk.block b _ e (0, 0) h he
theorem own_kc {B : Nat} {v : Value} (h : w.ownsRow B e s v n cs) (hk : Kc T w w') (he : ¬ T e) : w'.ownsRow B e s v n cs := by
  refine ⟨h.1, ?_⟩
  rcases h.2 with h2 | ⟨g, cap, cur, hv, hg, hh, hr⟩
  · exact .inl h2
  · exact .inr ⟨g, cap, cur, hv, hg, hk.block g cur e (0, 0) hh he, hr⟩
end
/-- A full row is a block. -/
theorem own_boxT {w : World} {B m g : Nat} {e : TypeId} {xs : List Value} (h : w.ownsRow B e 1 (.slice (some ⟨g, 0, none⟩) m m) m xs) : Box w g e xs ∧ B ≤ g := by
  rcases h.2 with ⟨h, _⟩ | ⟨g', cap, cur, h1, h2, h3, h4, h5, h6, h7⟩
  · cases h
  · simp only [Value.slice.injEq, Option.some.injEq, Addr.mk.injEq, and_true, true_and] at h1
    obtain ⟨rfl, rfl⟩ := h1
    refine ⟨?_, h2⟩
    rw [List.take_of_length_le (by simp [h6])] at h7
    unfold Box
    rw [h3, ← h7]
/-- A call of the call's own: its arguments lie in a block of type ti. -/
def eA (ti : TypeId) (w : World) (r : List Value) (c : Cl) : Prop := ∃ A n k, r = [.int .i64 c.k, .slice A n k] ∧ n ≤ k ∧ QT w ti 1 A n (c.ar.map (Value.int .i64))
/-- The calls of a thread: a row of the call's own. -/
def Ca (ti e : TypeId) (w : World) (B : Nat) (v : Value) (ls : List Cl) : Prop :=
  ∃ rows : List (List Value), rows.length = ls.length ∧ (∀ r ∈ rows, r.length = 2) ∧ w.ownsRow B e 2 v ls.length rows.flatten ∧ ∀ (i : Nat) r x, rows[i]? = some r → ls[i]? = some x → eA ti w r x
section
variable {T : TypeId → Prop} {w w' : World} {ti e : TypeId} {B n : Nat} {v v' : Value} {ls : List Cl}
theorem eA.kc {r : List Value} {c : Cl} (h : eA ti w r c) (hk : Kc T w w') (he : ¬ T ti) : eA ti w' r c := by obtain ⟨A, n, k, h1, h2, h3⟩ := h; exact ⟨A, n, k, h1, h2, h3.kc hk he⟩
theorem Ca.nil (ti e : TypeId) (w : World) (B : Nat) : Ca ti e w B (.slice none 0 0) [] := ⟨[], rfl, by simp, World.ownsRow_nil _ _ _ _, fun i r x h => by simp at h⟩
theorem Ca.own (h : Ca ti e w B v ls) : ∃ rows : List (List Value), rows.length = ls.length ∧ w.ownsRow B e 2 v ls.length rows.flatten := by obtain ⟨rows, h1, _, h3, _⟩ := h; exact ⟨rows, h1, h3⟩
/-- The row is kept. -/
theorem Ca.un {X : Nat → Prop} (h : Ca ti e w B v ls) (hu : Un X w w') (ho : ∀ k, v.ownBlock = some k → ¬ X k) (hk : Kc T w w') (he : ¬ T ti) : Ca ti e w' B v ls := by
  obtain ⟨rows, h1, h2, h3, h4⟩ := h
  exact ⟨rows, h1, h2, own_un h3 hu ho, fun i r x hr hx => (h4 i r x hr hx).kc hk he⟩
theorem ca_snoc {rows : List (List Value)} {r : List Value} {x : Cl} (h1 : rows.length = ls.length) (h2 : ∀ r ∈ rows, r.length = 2) (h4 : ∀ (i : Nat) r x, rows[i]? = some r → ls[i]? = some x → eA ti w r x)
    (ho : w'.ownsRow B e 2 v' n (rows.flatten ++ r)) (hn : n = ls.length + 1) (hk : Kc T w w') (he : ¬ T ti) (hr : eA ti w r x) : Ca ti e w' B v' (ls ++ [x]) := by
  have hr2 : r.length = 2 := by obtain ⟨A, n, k, rfl, _⟩ := hr; rfl
  refine ⟨rows ++ [r], by simp [h1], fun q hq => ?_, ?_, fun i q y hq hy => ?_⟩
  · rcases List.mem_append.1 hq with hq | hq
    · exact h2 q hq
    · rw [List.mem_singleton.1 hq]; exact hr2
  · rw [List.flatten_append, List.length_append, List.length_singleton, ← hn]
    simpa using ho
  · rcases Nat.lt_trichotomy i rows.length with hi | hi | hi
    · rw [List.getElem?_append_left hi] at hq
      rw [List.getElem?_append_left (by omega)] at hy
      exact (h4 i q y hq hy).kc hk he
    · rw [List.getElem?_append_right (by omega), show i - rows.length = 0 by omega] at hq
      rw [List.getElem?_append_right (by omega), show i - ls.length = 0 by omega] at hy
      injection hq with hq
      injection hy with hy
      subst hq hy
      exact hr.kc hk he
    · rw [List.getElem?_eq_none (by simp; omega)] at hq; cases hq
theorem Ca.post (h : Ca ti e w B v ls) : ∃ A c, v = .slice A ls.length c ∧ ls.length ≤ c ∧ RLs w w.heap.size A ls.length ls := by
  obtain ⟨rows, h1, h2, h3, h4⟩ := h
  obtain ⟨A, c, rfl, hlc⟩ := own_form h3
  refine ⟨A, c, rfl, hlc, rows, h1, h2, Rd.of_own h3, fun i r x hr hx => ?_⟩
  obtain ⟨A, n, k, q1, q2, q3⟩ := h4 i r x hr hx
  exact ⟨A, n, k, q1, q2, q3.rd⟩
end
/-- Threads in memory whose calls are being written: block g6 holds them. tc: the type of a call; tt: that of a thread; ti: that of a number. -/
structure Mg (ti tc tt : TypeId) (tg : Nat → Nat) (w : World) (B g6 nt : Nat) (ts : Nat → Value) (T : Nat → List Cl) : Prop where
  thr : Box w g6 tt ((List.range nt).map ts)
  row : ∀ i, i < nt → Ca ti tc w B (ts i) (T i)
  tag : ∀ i, i < nt → ∀ k, (ts i).ownBlock = some k → tg k = i
  B6 : B ≤ g6
theorem range_set {α : Type} (f : α) (n q : Nat) (g : Nat → α) : ((List.range n).map g).set q f = (List.range n).map (fun i => if i = q then f else g i) := by
  apply List.ext_getElem?
  intro i
  rw [List.getElem?_set]
  by_cases hq : q = i
  · subst hq
    by_cases hn : q < n
    · simp [hn]
    · simp [hn, List.getElem?_eq_none (l := List.range n) (i := q) (by simp; omega)]
  · rw [if_neg hq, List.getElem?_map, List.getElem?_map]
    by_cases hn : i < n
    · simp [hn, Ne.symm hq]
    · simp [List.getElem?_eq_none (l := List.range n) (i := i) (by simp; omega)]
theorem range_at {α : Type} (g : Nat → α) {n q : Nat} (h : q < n) : ((List.range n).map g)[q]? = some (g q) := by simp [h]
section
variable {ti tc tt : TypeId} {tg : Nat → Nat} {w w' : World} {B g6 nt q : Nat} {ts : Nat → Value} {T : Nat → List Cl} {v' : Value}
theorem own_type {e : TypeId} {s n : Nat} {v : Value} {xs : List Value} {k : Nat} (h : w.ownsRow B e s v n xs) (hk : v.ownBlock = some k) : ∃ cs, w.heap[k]? = some (.cells cs e (0, 0)) := by
  rcases h.2 with ⟨rfl, _⟩ | ⟨g, cap, cur, rfl, _, hh, _⟩
  · cases hk
  · injection hk with hk
    subst hk
    exact ⟨cur, hh⟩
theorem own_same {e t : TypeId} {s n : Nat} {v : Value} {xs : List Value} {k : Nat} {cs : Array Value} {fr : Nat × Nat} (h : w.ownsRow B e s v n xs) (hk : v.ownBlock = some k) (hh : w.heap[k]? = some (.cells cs t fr)) : t = e := by
  obtain ⟨cs', h'⟩ := own_type h hk
  rw [h'] at hh
  injection hh with hh
  injection hh with _ hh
  exact hh.symm
/-- What is done to other blocks leaves the threads. -/
theorem Mg.un {X : Nat → Prop} (h : Mg ti tc tt tg w B g6 nt ts T) (hu : Un X w w') (hX : ∀ b cs t fr, X b → w.heap[b]? = some (.cells cs t fr) → t ≠ tc ∧ t ≠ tt ∧ t ≠ ti) : Mg ti tc tt tg w' B g6 nt ts T := by
  refine ⟨h.thr.un hu fun hx => (hX g6 _ _ _ hx h.thr).2.1 rfl, fun i hi => ?_, h.tag, h.B6⟩
  obtain ⟨rows, _, h3⟩ := (h.row i hi).own
  refine (h.row i hi).un (T := fun t => t ≠ ti) hu (fun k hk hx => ?_) (Kc.un hu fun b cs t fr hb hh => (hX b cs t fr hb hh).2.2) (by simp)
  obtain ⟨cs, hh⟩ := own_type h3 hk
  exact (hX k _ _ _ hx hh).1 rfl
theorem Mg.below (h : Mg ti tc tt tg w B g6 nt ts T) (hb : Below w.heap.size w w') : Mg ti tc tt tg w' B g6 nt ts T :=
  h.un (X := fun _ => False) (un_below hb) (fun _ _ _ _ hx => hx.elim)
/-- A call is added to thread q. -/
theorem Mg.push (h : Mg ti tc tt tg w B g6 nt ts T) (hq : q < nt) (hne : tc ≠ ti ∧ tt ≠ ti ∧ tc ≠ tt) {rows : List (List Value)} {r : List Value} {c : Cl} {n : Nat} (h1 : rows.length = (T q).length) (h2 : ∀ r ∈ rows, r.length = 2) (h4 : ∀ (i : Nat) r x, rows[i]? = some r → (T q)[i]? = some x → eA ti w r x)
    (h3 : w.ownsRow B tc 2 (ts q) (T q).length rows.flatten) (ho : w'.ownsRow B tc 2 v' n (rows.flatten ++ r)) (hn : n = (T q).length + 1) (hu : Un (fun k => some k = (ts q).ownBlock) w w') (hb : v'.ownBlock = (ts q).ownBlock ∨ ∃ k, v'.ownBlock = some k ∧ w.heap.size ≤ k) (hr : eA ti w r c) :
    Mg ti tc tt (fun k => if k < w.heap.size then tg k else q) (w'.setCell ⟨g6, q, none⟩ v') B g6 nt (fun i => if i = q then v' else ts i) (fun i => if i = q then T q ++ [c] else T i) ∧ Kc (fun t => t = tc ∨ t = tt) w (w'.setCell ⟨g6, q, none⟩ v') := by
  have hX : ∀ b cs t fr, some b = (ts q).ownBlock → w.heap[b]? = some (.cells cs t fr) → t = tc := fun b cs t fr hk ht => by
    obtain ⟨cs', hh⟩ := own_type h3 hk.symm
    rw [hh] at ht
    injection ht with ht
    injection ht with _ ht
    exact ht.symm
  have k1 : Kc (fun t => t = tc ∨ t = tt) w w' := Kc.un hu fun b cs t fr hb hh => .inl (hX b cs t fr hb hh)
  have hu2 : Un (fun k => k = g6) w' (w'.setCell ⟨g6, q, none⟩ v') := un_at (X := fun k => k = g6) (Un.refl _ _) rfl _ _
  have b6 : Box w' g6 tt ((List.range nt).map ts) := h.thr.un hu fun hx => hne.2.2 (hX g6 _ _ _ hx h.thr).symm
  have hX2 : ∀ b cs t fr, b = g6 → w'.heap[b]? = some (.cells cs t fr) → t = tt := fun b cs t fr hk ht => by
    subst hk
    have hh : w'.heap[b]? = _ := b6
    rw [hh] at ht
    injection ht with ht
    injection ht with _ ht
    exact ht.symm
  have k2 : Kc (fun t => t = tc ∨ t = tt) w' (w'.setCell ⟨g6, q, none⟩ v') := Kc.un hu2 fun b cs t fr hb hh => .inr (hX2 b cs t fr hb hh)
  have hti : ¬ (ti = tc ∨ ti = tt) := by
    rintro (h | h)
    · exact hne.1 h.symm
    · exact hne.2.1 h.symm
  have hrq : Ca ti tc w' B v' (T q ++ [c]) := ca_snoc h1 h2 h4 ho hn k1 hti hr
  have out6 : ∀ {v : Value} {ls : List Cl}, Ca ti tc w' B v ls → Ca ti tc (w'.setCell ⟨g6, q, none⟩ v') B v ls := fun {v ls} hc => by
    obtain ⟨rows', _, h3'⟩ := hc.own
    refine hc.un hu2 (fun k hk hx => ?_) k2 hti
    obtain ⟨cs, hh⟩ := own_type h3' hk
    exact hne.2.2 (hX2 k _ _ _ hx hh)
  refine ⟨⟨?_, fun i hi => ?_, fun i hi k hk => ?_, h.B6⟩, k1.trans k2⟩
  · have := b6.set q v'
    rw [range_set] at this
    exact this
  · by_cases hiq : i = q
    · subst hiq
      rw [if_pos rfl, if_pos rfl]
      exact out6 hrq
    · rw [if_neg hiq, if_neg hiq]
      exact out6 ((h.row i hi).un hu (fun k hk hx => by
        have e1 := h.tag i hi k hk
        have e2 := h.tag q hq k hx.symm
        exact hiq (e1.symm.trans e2)) k1 hti)
  · by_cases hiq : i = q
    · subst hiq
      rw [if_pos rfl] at hk
      rcases hb with hb | ⟨k', hb, hge⟩
      · rw [hb] at hk
        obtain ⟨cs, hh⟩ := own_type h3 hk
        rw [if_pos (lt_of_heap hh)]
        exact h.tag i hi k hk
      · rw [hb] at hk
        injection hk with hk
        subst hk
        rw [if_neg (by omega)]
    · rw [if_neg hiq] at hk
      obtain ⟨rows', _, h3'⟩ := (h.row i hi).own
      obtain ⟨cs, hh⟩ := own_type h3' hk
      rw [if_pos (lt_of_heap hh)]
      exact h.tag i hi k hk
/-- What a walk has when it has appended a call to thread q and stored the slice. -/
theorem Mg.call (h : Mg ti tc tt tg w B g6 nt ts T) (hq : q < nt) (hne : tc ≠ ti ∧ tt ≠ ti ∧ tc ≠ tt) {rows : List (List Value)} {r : List Value} {c : Cl} {w8 : World} {n : Nat} (h1 : rows.length = (T q).length) (h2 : ∀ r ∈ rows, r.length = 2) (h4 : ∀ (i : Nat) r x, rows[i]? = some r → (T q)[i]? = some x → eA ti w r x)
    (h3 : w.ownsRow B tc 2 (ts q) (T q).length rows.flatten) (hr : eA ti w r c) (ho : w8.ownsRow B tc 2 v' n (rows.flatten ++ r)) (hn : n = (T q).length + 1) (hg : (w.alloc (.cells r.toArray tc)).grownBy w8 (ts q).ownBlock) (hb : v'.ownBlock = (ts q).ownBlock ∨ v'.ownBlock = some (w.heap.size + 1)) :
    ∃ tg', Mg ti tc tt tg' (w8.setCell ⟨g6, q, none⟩ v') B g6 nt (fun i => if i = q then v' else ts i) (fun i => if i = q then T q ++ [c] else T i) ∧ Kc (fun t => t = tc ∨ t = tt) w (w8.setCell ⟨g6, q, none⟩ v') ∧ ∀ (a : World) (Z : Nat), Z ≤ B → B ≤ w.heap.size → Below Z a w → Below Z a (w8.setCell ⟨g6, q, none⟩ v') := by
  have hA := (Below.refl w.heap.size w).alloc (Nat.le_refl _) (.cells r.toArray tc)
  have kA : Kc (fun t => t = tc ∨ t = tt) w (w.alloc (.cells r.toArray tc)) := Kc.below hA
  have hti : ¬ (ti = tc ∨ ti = tt) := by
    rintro (h | h)
    · exact hne.1 h.symm
    · exact hne.2.1 h.symm
  have h3A := h3.alloc (.cells r.toArray tc)
  obtain ⟨m1, m2⟩ := (h.below hA).push hq hne h1 h2 (fun i r x hr hx => (h4 i r x hr hx).kc kA hti) h3A ho hn (un_grown (X := fun k => some k = (ts q).ownBlock) (Un.refl _ _) hg (fun k hk => hk.symm)) (by
    rcases hb with hb | hb
    · exact .inl hb
    · exact .inr ⟨_, hb, by simp⟩) (hr.kc kA hti)
  refine ⟨_, m1, kA.trans m2, fun a Z hZ hBw hz => ?_⟩
  have hs := hz.size
  have h5 : Below Z a (w.alloc (.cells r.toArray tc)) := hz.alloc (Nat.le_trans hZ hBw) _
  have h6 : Below Z a w8 := h5.grown hg (by simp; omega) (fun k hk => Nat.le_trans hZ (h3A.lt k hk).1)
  exact below_at h6 (Nat.le_trans hZ h.B6) _ _
theorem Mg.made (w : World) (ti tc tt : TypeId) {B g6 nt : Nat} (h : Box w g6 tt (List.replicate nt (.slice none 0 0))) (hB : B ≤ g6) : Mg ti tc tt (fun _ => 0) w B g6 nt (fun _ => .slice none 0 0) (fun _ => []) := by
  refine ⟨?_, fun i hi => Ca.nil _ _ _ _, fun i hi k hk => (by cases hk), hB⟩
  have : (List.range nt).map (fun _ => Value.slice none 0 0) = List.replicate nt (.slice none 0 0) := by
    apply List.ext_getElem?
    intro i
    by_cases hi : i < nt
    · simp [hi]
    · rw [List.getElem?_eq_none (by simp; omega), List.getElem?_eq_none (by simp; omega)]
  rw [this]
  exact h
theorem flat_two : ∀ (rows : List (List Value)) (i : Nat) (a b u : Value), (∀ r ∈ rows, r.length = 2) → rows[i]? = some [a, b] → rows.flatten.set (i * 2 + 1) u = (rows.set i [a, u]).flatten
  | [], i, a, b, u, _, h => by simp at h
  | r :: rows, 0, a, b, u, _, h => by
    simp only [List.getElem?_cons_zero, Option.some.injEq] at h
    subst h
    simp
  | r :: rows, i + 1, a, b, u, hr, h => by
    have ih := flat_two rows i a b u (fun q hq => hr q (by simp [hq])) (by simpa using h)
    have h2 := hr r (by simp)
    match r, h2 with
    | [x, y], _ => rw [List.flatten_cons, List.set_cons_succ, List.flatten_cons, ← ih, show (i + 1) * 2 + 1 = i * 2 + 1 + 1 + 1 by omega]; rfl
/-- The arguments of the i-th call of thread q are others then. -/
theorem Mg.args (h : Mg ti tc tt tg w B g6 nt ts T) (hq : q < nt) (hne : tc ≠ ti ∧ tt ≠ ti ∧ tc ≠ tt) {g n c i k m : Nat} {x : Cl} {A : Option Addr} {ar : List Int} (hv : ts q = .slice (some ⟨g, 0, none⟩) n c) (hn : n = (T q).length) (hx : (T q)[i]? = some x) (hmk : m ≤ k) (ha : QT w ti 1 A m (ar.map (Value.int .i64))) :
    Mg ti tc tt tg (w.setCell ⟨g, i * 2 + 1, none⟩ (.slice A m k)) B g6 nt ts (fun t => if t = q then (T q).set i ⟨x.k, ar⟩ else T t) ∧ Kc (fun t => t = tc) w (w.setCell ⟨g, i * 2 + 1, none⟩ (.slice A m k)) := by
  obtain ⟨rows, h1, h2, h3, h4⟩ := h.row q hq
  rw [hv, ← hn] at h3
  have hi := (List.getElem?_eq_some_iff.1 hx).1
  have hri : rows[i]? = some rows[i] := List.getElem?_eq_getElem (by omega)
  obtain ⟨A0, n0, k0, e0, _, _⟩ := h4 i _ _ hri hx
  rw [e0] at hri
  have hst := (World.ownsRow.stored h3 (i * 2 + 1) (.slice A m k))
  have hg : w.grownBy (w.setCell ⟨g, i * 2 + 1, none⟩ (.slice A m k)) (some g) := hst.2
  have hX : ∀ b cs t fr, b = g → w.heap[b]? = some (.cells cs t fr) → t = tc := fun b cs t fr hb hh => by
    subst hb
    exact own_same h3 rfl hh
  have hu : Un (fun b => b = g) w (w.setCell ⟨g, i * 2 + 1, none⟩ (.slice A m k)) := un_set (X := fun b => b = g) (Un.refl _ _) hg rfl
  have kk : Kc (fun t => t = tc) w (w.setCell ⟨g, i * 2 + 1, none⟩ (.slice A m k)) := Kc.un hu hX
  have hti : ¬ (ti = tc) := fun h => hne.1 h.symm
  refine ⟨⟨h.thr.un hu fun hx => hne.2.2 (hX g6 _ _ _ hx h.thr).symm, fun t ht => ?_, h.tag, h.B6⟩, kk⟩
  by_cases htq : t = q
  · subst htq
    rw [if_pos rfl]
    have hrl : i < rows.length := by omega
    refine ⟨rows.set i [.int .i64 x.k, .slice A m k], by simp [h1], fun r hr => ?_, ?_, fun j r y hr hy => ?_⟩
    · rcases List.mem_or_eq_of_mem_set hr with hr | hr
      · exact h2 r hr
      · rw [hr]; rfl
    · rw [← flat_two rows i _ _ _ h2 hri, List.length_set, ← hn, hv]
      exact hst.1
    · by_cases hji : i = j
      · subst hji
        rw [List.getElem?_set_self hrl] at hr
        rw [List.getElem?_set_self hi] at hy
        injection hr with hr
        injection hy with hy
        subst hr hy
        exact ⟨A, m, k, rfl, hmk, ha.kc kk hti⟩
      · rw [List.getElem?_set_ne hji] at hr hy
        exact (h4 j r y hr hy).kc kk hti
  · rw [if_neg htq]
    refine (h.row t ht).un hu (fun b hb hx => ?_) kk hti
    have e1 := h.tag t ht b hb
    have e2 := h.tag q hq b (by rw [hv, hx]; rfl)
    exact htq (e1.symm.trans e2)
theorem Mg.congr {T' : Nat → List Cl} (h : Mg ti tc tt tg w B g6 nt ts T) (hT : ∀ i, i < nt → T i = T' i) : Mg ti tc tt tg w B g6 nt ts T' := ⟨h.thr, fun i hi => (hT i hi) ▸ h.row i hi, h.tag, h.B6⟩
/-- The threads as a machine has them. -/
theorem Mg.rts (h : Mg ti tc tt tg w B g6 nt ts T) : RTs w w.heap.size (some ⟨g6, 0, none⟩) nt ((List.range nt).map T) := by
  refine ⟨(List.range nt).map (fun i => [ts i]), by simp, fun r hr => ?_, ?_, fun i r x hr hx => ?_⟩
  · obtain ⟨i, _, rfl⟩ := List.mem_map.1 hr; rfl
  · have e : ((List.range nt).map (fun i => [ts i])).flatten = (List.range nt).map ts := by
      induction (List.range nt) with
      | nil => rfl
      | cons a l ih => simp [ih]
    rw [e]
    exact ⟨by simp, fun _ => ⟨g6, 0, rfl, lt_of_heap h.thr, fun j _ => by rw [Nat.zero_add]; exact h.thr.cell j⟩⟩
  · have hi : i < nt := by
      have := (List.getElem?_eq_some_iff.1 hx).1
      simpa using this
    rw [range_at _ hi] at hr hx
    injection hr with hr
    injection hx with hx
    subst hr hx
    obtain ⟨A, c, hv, hlc, hrl⟩ := (h.row i hi).post
    exact ⟨A, (T i).length, c, by rw [hv], hlc, hrl⟩
end
end Go.Baro

set_option linter.unusedSimpArgs false
set_option linter.unusedVariables false
namespace Go.Proofs.YtnchgdjdfhfedaaGreatDoor
open Go.ChangeShapes Go.WideShapes Go.ChangeAt Go.RowKit Go.Ord Go.Baro

def laidL : List (String × DataW Unit) := [("math/bits.deBruijn32tab", Rows.laid_math_bits_deBruijn32tab), ("math/bits.deBruijn64tab", Rows.laid_math_bits_deBruijn64tab), ("internal/strconv.uint64pow10", Rows.laid_internal_strconv_uint64pow10), ("barograph/vm.operands", Rows.laid_barograph_vm_operands)]
theorem gTab : Tryz.prog.globalNamed "barograph/vm.operands" = some 0 := by kernel_rfl
theorem tTab : (Tryz.prog.globals[0]?).map (·.type) = some 133 := by kernel_rfl
theorem door_met (os : Os) (args : Array Value) : laidMetH Tryz.prog laidL ((World.doorLaid Tryz.prog 400 os).forCall (fun _ _ => 0) ⟨#[], args, []⟩).memory := by
  rw [MakeChecks.laidMetH_plain _ _ _ (by kernel_rfl)]
  exact laidMet_of_run' 8 (by kernel_rfl) (by kernel_rfl)

/-- The operands of each kind. -/
def tabRows : List (Int × Int × Int × Int) := [(0, 0, 0, 0), (1, 3, 0, 0), (1, 1, 0, 0), (1, 1, 1, 0), (1, 1, 1, 0), (1, 1, 1, 0), (1, 1, 1, 0), (1, 1, 1, 0), (1, 1, 1, 0), (1, 1, 1, 0), (2, 0, 0, 0), (1, 2, 0, 0), (1, 2, 0, 0), (1, 1, 3, 0), (1, 1, 3, 0), (1, 1, 3, 1), (1, 0, 0, 0), (0, 0, 0, 0)]
def rowD (H : Type) (r : Int × Int × Int × Int) : DataW H := .agg [.lit (.int .i64 r.1), .lit (.int .i64 r.2.1), .lit (.int .i64 r.2.2.1), .lit (.int .i64 r.2.2.2)]
theorem laid_rows (H : Type) : (Rows.laid_barograph_vm_operands : DataW H) = .agg (tabRows.map (rowD H)) := rfl
/-- The table of operands lies in its block. -/
def Tab (W : World) : Prop := ∀ i a b c d, tabRows[i]? = some (a, b, c, d) →
  W.cell? ⟨0, i * 4, none⟩ = some (.int .i64 a) ∧ W.cell? ⟨0, i * 4 + 1, none⟩ = some (.int .i64 b) ∧ W.cell? ⟨0, i * 4 + 2, none⟩ = some (.int .i64 c) ∧ W.cell? ⟨0, i * 4 + 3, none⟩ = some (.int .i64 d)

theorem of_laid {W : World} (h : laidMetH Tryz.prog laidL W) : Tab W := by
  rw [MakeChecks.laidMetH_plain _ _ _ (by kernel_rfl)] at h
  obtain ⟨ps, ⟨_, _, _, _, _, _, _, _, _, _, ⟨_, _, _, _, _, _, _, _, _, _, ⟨_, _, _, _, _, _, _, _, _, _, ⟨g0, t0, cs0, f0, p0, q0, hg0, ht0, hv0, hd0, _, _⟩, _⟩, _⟩, _⟩, _, _⟩ := h
  obtain rfl := Option.some.inj (gTab.symm.trans hg0)
  obtain rfl := Option.some.inj (tTab.symm.trans ht0)
  obtain ⟨xs, m1, rfl, hx1, hlen, hn5, hel⟩ := DataW.trod_array Tryz.underlying133 hd0
  have c4 : Tryz.prog.cellsOf 132 = 4 := by kernel_rfl
  have c1 : Tryz.prog.cellsOf 131 = 1 := by kernel_rfl
  rw [c4] at hel
  have hcell := fun i => World.var?_cell hg0 hv0 i
  have hcell' : ∀ i, W.cell? ⟨0, i, none⟩ = cs0.toList[i]? := fun i => by rw [hcell i]; simp
  clear hcell
  have hx2 : xs.map (·.1) = tabRows.map (rowD Unit) := by
    have := hx1
    rw [laid_rows] at this
    simp only [Prod.mk.injEq, DataW.agg.injEq] at this
    exact this.1.symm
  clear hx1
  intro i a b c d hi
  have hi18 : i < 18 := (List.getElem?_eq_some_iff.1 hi).1
  have hixs : i < xs.length := by omega
  have h0 := (hel i hi18).trans (List.getElem?_eq_getElem hixs)
  have hrow : (xs[i]'hixs).1 = rowD Unit (a, b, c, d) := by
    have := congrArg (·[i]?) hx2
    simp only [List.getElem?_map, hi, List.getElem?_eq_getElem hixs, Option.map_some, Option.some.injEq] at this
    exact this
  obtain ⟨ys, m2, rfl, hy, hly, hn4, hey⟩ := DataW.trod_array Tryz.underlying132 h0
  rw [c4] at hly
  rw [c1] at hey
  rw [hy] at hrow
  have each : ∀ (j : Nat), j < 4 → ∃ v, (((cs0.toList.drop (i * 4)).take 4).drop j).take 1 = [Value.int .i64 v] ∧ (ys[j]?).map (·.1) = some (.lit (.int .i64 v)) := by
    intro j hj
    have h1 := hey j hj
    rw [Nat.mul_one, List.getElem?_eq_getElem (show j < ys.length by omega)] at h1
    obtain ⟨v, ev, fv, _⟩ := DataW.trod_int (k := .i64) Tryz.underlying131 h1
    exact ⟨v, ev, by rw [List.getElem?_eq_getElem (show j < ys.length by omega), Option.map_some, fv]⟩
  have key : ∀ (j : Nat) (x : Int), j < 4 → [a, b, c, d][j]? = some x → W.cell? ⟨0, i * 4 + j, none⟩ = some (.int .i64 x) := by
    intro j x hj hx
    obtain ⟨v, ev, fv⟩ := each j hj
    have hv : v = x := by
      simp only [rowD, DataW.agg.injEq] at hrow
      have := congrArg (·[j]?) hrow
      simp only [List.getElem?_map] at this
      rw [fv] at this
      match j, hj with
      | 0, _ => simp at this hx; omega
      | 1, _ => simp at this hx; omega
      | 2, _ => simp at this hx; omega
      | 3, _ => simp at this hx; omega
    subst hv
    rw [hcell']
    have := congrArg (·[0]?) ev
    simp [List.getElem?_take, hj] at this
    simpa using this
  exact ⟨key 0 a (by decide) rfl, key 1 b (by decide) rfl, key 2 c (by decide) rfl, key 3 d (by decide) rfl⟩

theorem Tab.lt {W : World} (h : Tab W) : 0 < W.heap.size := block_lt' (h 0 0 0 0 0 rfl).1
theorem Tab.below {W W' : World} {B : Nat} (h : Tab W) (hb : Below B W W') (hB : 0 < B) : Tab W' := fun i a b c d hx => by
  obtain ⟨h0, h1, h2, h3⟩ := h i a b c d hx
  exact ⟨(hb.cell hB).trans h0, (hb.cell hB).trans h1, (hb.cell hB).trans h2, (hb.cell hB).trans h3⟩
theorem Tab.heap {W W' : World} (h : Tab W) (hh : W'.heap = W.heap) : Tab W' := fun i a b c d hx => by
  have : ∀ x : Addr, W'.cell? x = W.cell? x := fun x => by simp [World.cell?, hh]
  rw [this, this, this, this]; exact h i a b c d hx
end Go.Proofs.YtnchgdjdfhfedaaGreatDoor

set_option linter.unusedSimpArgs false
set_option linter.unusedVariables false
namespace Go.Baro
open Go.RowKit
/-- Words may be, up to a limit. -/
def WordsOk (hi : Nat) (ws : Nat → List Int) : Prop := ∀ d, 1 ≤ d → d ≤ hi → 0 < (ws d).length ∧ (ws d).length ≤ 64 ∧ ∀ x ∈ ws d, inW x
/-- Codes may be, up to a limit. -/
def CodesOk (hi : Nat) (cs : Nat → List Ins) : Prop := ∀ d, 1 ≤ d → d ≤ hi → 0 < (cs d).length ∧ okC (cs d) ∧ ∀ o ∈ cs d, inI o
end Go.Baro
namespace Go.Proofs.YtnchgdjdfhfedaaGreatDoor
open Go.RowKit Go.Ord Go.Baro
/-- A function that gives words. -/
def WSpec (F : FuncId) (hi : Nat) (ws : Nat → List Int) : Prop := ∀ (w : World) (hT : Tab w) (d : Int) (hd : inW d), Calls Tryz.prog F #[.int .i64 d] w fun e w' => ((1 ≤ d ∧ d ≤ hi) → ∃ A n k, e = .returned (.tuple #[.slice A n k, .int .i64 0]) ∧ n ≤ k ∧ k ≤ 9223372036854775807 ∧ QT w' 3 1 A n ((ws d.toNat).map (Value.int .i64))) ∧
  (¬ (1 ≤ d ∧ d ≤ hi) → ∃ A k, e = .returned (.tuple #[.slice A 0 k, .int .i64 2])) ∧ Below w.heap.size w w'
/-- A function that gives a code. -/
def CSpec (F : FuncId) (hi : Nat) (c : Nat → List Ins) : Prop := ∀ (w : World) (hT : Tab w) (d : Int) (hd : inW d), Calls Tryz.prog F #[.int .i64 d] w fun e w' => ((1 ≤ d ∧ d ≤ hi) → ∃ A n k, e = .returned (.tuple #[.slice A n k, .int .i64 0]) ∧ n ≤ k ∧ k ≤ 9223372036854775807 ∧ QT w' 67 5 A n (cellsO (c d.toNat))) ∧
  (¬ (1 ≤ d ∧ d ≤ hi) → ∃ A k, e = .returned (.tuple #[.slice A 0 k, .int .i64 2])) ∧ Below w.heap.size w w'
end Go.Proofs.YtnchgdjdfhfedaaGreatDoor

set_option linter.unusedSimpArgs false
set_option linter.unusedVariables false
namespace Go.OrdG
open Go.Ord
/-- A sort of changes, under which the operations of X are blind. -/
structure GOk (G : World → World → Prop) : Prop where
  refl : ∀ w, G w w
  trans : ∀ {a b c}, G a b → G b c → G a c
  ext : ∀ {a b}, Ext a b → G a b
section
variable {G : World → World → Prop} {P : Program} {X : List Nat} {ops : Array Oper} {md : Region.Mode} {w0 : World} {wet : Bool} {Q : Exit → Act → World → Prop}

/-- In state a, operation o leaves v, and the world, in w0 and in every world that has w0's blocks. -/
def Yl (G : World → World → Prop) (P : Program) (ops : Array Oper) (w0 : World) (wet : Bool) (o : Oper) (v : Value) (a : Act) : Prop :=
  (Region.wanted o (yielded ops a.tmps) = true ∧ ((∀ w, G w0 w → (execOp a.eval o).run P w = .ok (.value v) w) ∨ (wet = true ∧ ∀ w, Ext w0 w → (execOp a.eval o).run P w = .ok (.value v) w))) ∨
  (Region.wanted o (yielded ops a.tmps) = false ∧ v = undef)

theorem Yl.ext (hG : GOk G) {o : Oper} {v : Value} {a : Act} {w1 : World} (hy : Yl G P ops w0 wet o v a) (h : Ext w0 w1) : Yl G P ops w1 wet o v a := by
  rcases hy with ⟨h1, h2 | ⟨h3, h4⟩⟩ | h5
  · exact .inl ⟨h1, .inl fun w hw => h2 w (hG.trans (hG.ext h) hw)⟩
  · exact .inl ⟨h1, .inr ⟨h3, fun w hw => h4 w (h.trans hw)⟩⟩
  · exact .inr h5
theorem Yl.dry (hG : GOk G) {o : Oper} {v : Value} {a : Act} {w1 : World} (hy : Yl G P ops w0 wet o v a) (h : wet = false) (hg : G w0 w1) : Yl G P ops w1 wet o v a := by
  rcases hy with ⟨h1, h2 | ⟨h3, h4⟩⟩ | h5
  · exact .inl ⟨h1, .inl fun w hw => h2 w (hG.trans hg hw)⟩
  · rw [h] at h3; cases h3
  · exact .inr h5

theorem Yl.of_same {o : Oper} {v : Value} {a a' : Act} (hy : Yl G P ops w0 wet o v a) (he : execOp a'.eval o = execOp a.eval o)
    (hw : Region.wanted o (yielded ops a'.tmps) = Region.wanted o (yielded ops a.tmps)) : Yl G P ops w0 wet o v a' := by
  unfold Yl at *
  rw [he, hw]
  exact hy

/-- What an operation's own step must keep. -/
def Keeps (G : World → World → Prop) (P : Program) (X : List Nat) (md : Region.Mode) (ops : Array Oper) (i : Nat) (w w' : World) : Prop :=
  if calmB P (ops.getD i default).op then w' = w else ((finB P X md ops i = true ∧ G w w') ∨ Ext w w')

def wpAnyC (G : World → World → Prop) (P : Program) (X : List Nat) (md : Region.Mode) (ops : Array Oper) (Q : Exit → Act → World → Prop) : Nat → Array Bool → Act → World → Prop
  | 0, listed, a, w => Region.ready md ops listed = [] ∧ Q .normal a w
  | f + 1, listed, a, w => (Region.ready md ops listed = [] → Q .normal a w) ∧
      ∀ i ∈ Region.ready md ops listed, wpOp P ops Q i (fun a' w' => Keeps G P X md ops i w w' ∧ wpAnyC G P X md ops Q f (listed.setIfInBounds i true) a' w') a w

theorem wpAny_of_C : ∀ (f : Nat) (listed : Array Bool) (a : Act) (w : World), wpAnyC G P X md ops Q f listed a w → wpAny P md ops Q f listed a w
  | 0, _, _, _, h => h
  | f + 1, _, _, _, h => ⟨h.1, fun i hi => wpOp_mono (fun a' w' h' => wpAny_of_C f _ a' w' h'.2) (h.2 i hi)⟩

theorem Yl.step (hG : GOk G) {i : Nat} {oi : Oper} {v : Value} {a : Act} {w : World} {K : Act → World → Prop} (hi : ops[i]? = some oi) (hy : Yl G P ops w wet oi v a)
    (h : K (a.put oi.dst v) w) : wpOp P ops Q i K a w := by
  unfold Go.wpOp
  simp only [hi]
  rcases hy with ⟨h1, h2⟩ | ⟨h1, rfl⟩
  · simp only [h1, if_true]
    refine .inl ?_
    have hr : (execOp a.eval oi).run P w = .ok (.value v) w := by
      rcases h2 with h2 | ⟨hd, h2⟩
      · exact h2 w (hG.refl w)
      · exact h2 w (Ext.refl w)
    simp only [Oper.wp, hr, Oper.upon]
    exact h
  · simp only [h1, Bool.false_eq_true, if_false]; exact h

/-- oj comes up while oi, apart from it, has not: the same as behind it. -/
theorem wpOp_over {j : Nat} {oi oj : Oper} {v : Value} (hj : ops[j]? = some oj) (hap : oi.apart ops oj = true)
    (hsi : ∀ cs b, oi.op ≠ .select cs b) (hsj : ∀ cs b, oj.op ≠ .select cs b)
    (hQ : ∀ c a w, ¬ Q (.panic c) a w) {K : Act → World → Prop} {a : Act} {w : World}
    (hy : Yl G P ops w0 wet oi v a) (h : wpOp P ops Q j K (a.put oi.dst v) w) :
    wpOp P ops Q j (fun a' w' => Yl G P ops w0 wet oi v a' ∧ K (a'.put oi.dst v) w') a w := by
  obtain ⟨h1, h2, h3⟩ := Oper.apart_spec hap
  have keep : ∀ (a : Act), Yl G P ops w0 wet oi v a → ∀ u, Yl G P ops w0 wet oi v (a.put oj.dst u) := fun a hy u =>
    hy.of_same (execOp_put oi hsi a oj.dst u h3) (wanted_put oi a oj.dst u h3)
  have keepD : ∀ d, Yl G P ops w0 wet oi v { a with defers := d :: a.defers } := fun d => hy.of_same rfl rfl
  unfold wpOp at *
  simp only [hj] at *
  rw [wanted_put oj a oi.dst v h1] at h
  split
  · rename_i hw
    simp only [hw, if_true] at h
    rcases h with h | ⟨hasks, hlets⟩
    case inr => exact .inr ⟨by unfold Oper.asks at *; rw [execOp_put oj hsj a oi.dst v h1] at hasks; exact hasks, hlets⟩
    refine .inl ?_
    unfold Oper.wp at *
    rw [execOp_put oj hsj a oi.dst v h1] at h
    generalize (execOp a.eval oj).run P w = r at *
    cases r with
    | ok n w' =>
      cases n <;> simp only [Oper.upon] at h ⊢
      case value u => exact ⟨keep a hy u, by rw [← Act.put_comm a v u h2]; exact h⟩
      case skip => exact ⟨keep a hy _, by rw [← Act.put_comm a v undef h2]; exact h⟩
      case defer d =>
        refine ⟨keep _ (keepD d) _, ?_⟩
        rw [← Act.put_comm _ v undef h2, ← Act.put_defers]
        exact h
      case enter f args =>
        refine Calls.mono h fun e w'' he => ?_
        cases e with
        | returned u => exact ⟨keep a hy u, by rw [← Act.put_comm a v u h2]; exact he⟩
        | panicked c => exact (hQ _ _ _ he).elim
        | outgrown => exact he
      case row row args => exact Rows.mono h fun u w'' he => ⟨keep a hy u, by rw [← Act.put_comm a v u h2]; exact he⟩
    | halt x w' =>
      cases x <;> simp only [Oper.upon] at h ⊢
      case panic u => exact (hQ _ _ _ h).elim
  · rename_i hw
    simp only [hw] at h
    exact ⟨keep a hy _, by rw [← Act.put_comm a v undef h2]; exact h⟩

/-- A calm operation that may come up now may be taken first. -/
theorem wpAnyC_first (hG : GOk G) {i : Nat} {oi : Oper} {v : Value} (hi : ops[i]? = some oi) (hcalm : calmB P oi.op = true) (hsel : ∀ (j : Nat) (o : Oper) cs b, ops[j]? = some o → o.op ≠ .select cs b)
    (hQ : ∀ c a w, ¬ Q (.panic c) a w) :
    ∀ (f : Nat) (listed : Array Bool) (a : Act) (w : World), Closed md ops listed → listed.size = ops.size →
      (∀ j oj, ops[j]? = some oj → j ≠ i → listed.getD j true = false → (∀ e ∈ oj.after, Region.binds md e = true → e.on ≠ i) → oi.apart ops oj = true) →
      i ∈ Region.ready md ops listed → Yl G P ops w (wetAt X ops i) oi v a →
      wpAnyC G P X md ops Q f (listed.setIfInBounds i true) (a.put oi.dst v) w → wpAnyC G P X md ops Q (f + 1) listed a w := by
  intro f
  have his : i < ops.size := (Array.getElem?_eq_some_iff.1 hi).1
  have self : ∀ (f : Nat) (listed : Array Bool) (a : Act) (w : World), Yl G P ops w (wetAt X ops i) oi v a → wpAnyC G P X md ops Q f (listed.setIfInBounds i true) (a.put oi.dst v) w →
      wpOp P ops Q i (fun a' w' => Keeps G P X md ops i w w' ∧ wpAnyC G P X md ops Q f (listed.setIfInBounds i true) a' w') a w := by
    intro f listed a w hy H
    refine hy.step hG hi ⟨?_, H⟩
    simp [Keeps, getD_of hi, hcalm]
  induction f with
  | zero =>
    intro listed a w hc hs _ hr hy H
    refine ⟨fun h => (by rw [h] at hr; cases hr), fun j hj => ?_⟩
    by_cases hji : j = i
    · subst hji; exact self 0 listed a w hy H
    · have := ready_mono hj hji
      rw [H.1] at this
      cases this
  | succ f ih =>
    intro listed a w hc hs hfree hr hy H
    refine ⟨fun h => (by rw [h] at hr; cases hr), fun j hj => ?_⟩
    by_cases hji : j = i
    · subst hji; exact self (f + 1) listed a w hy H
    · have h1 := H.2 j (ready_mono hj hji)
      obtain ⟨hjun, oj, hoj, hall⟩ := mem_ready.1 hj
      have hnot : ∀ e ∈ oj.after, Region.binds md e = true → e.on ≠ i := fun e he hb heq => by
        have h1 := hall e he hb
        have h0 := (mem_ready.1 hr).1
        rw [heq] at h1
        have hlt : i < listed.size := by omega
        simp [hlt] at h0 h1
        rw [h0] at h1
        cases h1
      have h2 := wpOp_over hoj (hfree j oj hoj hji hjun hnot) (fun cs b => hsel i oi cs b hi) (fun cs b => hsel j oj cs b hoj) hQ hy h1
      have hfree' : ∀ k ok, ops[k]? = some ok → k ≠ i → (listed.setIfInBounds j true).getD k true = false →
          (∀ e ∈ ok.after, Region.binds md e = true → e.on ≠ i) → oi.apart ops ok = true := fun k ok hk hki hun hno => by
        refine hfree k ok hk hki ?_ hno
        by_cases hjk : j = k
        · subst hjk; exact hjun
        · rw [getD_set_ne true hjk] at hun; exact hun
      refine wpOp_mono (fun a' w' h3 => ⟨h3.2.1, ih (listed.setIfInBounds j true) a' w' (hc.set hj) (by simpa using hs) hfree' (ready_mono hr (Ne.symm hji)) ?_ ?_⟩) h2
      · have hk := h3.2.1
        unfold Keeps at hk
        split at hk
        · subst hk; exact h3.1
        · rcases hk with hk | hk
          · obtain ⟨hk, hg⟩ := hk
            refine h3.1.dry hG ?_ hg
            cases hd : wetAt X ops i with
            | false => rfl
            | true =>
              have hh : heavyAt P X ops i = true := by simp [heavyAt, getD_of hi, hcalm, hd]
              rcases fin_listed hk hc hj hh his (Ne.symm hji) hr with h4 | h4
              · have h5 := (mem_ready.1 hr).1
                have hlt : i < listed.size := by omega
                simp [hlt] at h4 h5
                rw [h4] at h5
                cases h5
              · have h5 := (mem_ready.1 hj).1
                have hlt : j < listed.size := by rw [hs]; exact (Array.getElem?_eq_some_iff.1 hoj).1
                simp [hlt] at h4 h5
                rw [h4] at h5
                cases h5
          · exact h3.1.ext hG hk
      · rw [Array.setIfInBounds_comm _ _ hji]
        exact h3.2.2

/-- The walk in the order that is given. -/
def wpOrd (G : World → World → Prop) (P : Program) (X : List Nat) (md : Region.Mode) (ops : Array Oper) (Q : Exit → Act → World → Prop) : Plan → Act → World → Prop
  | .nil, a, w => Q .normal a w
  | .cons i rest, a, w => ∃ o, ops[i]? = some o ∧
      if calmB P o.op then ∃ v, Yl G P ops w (wetAt X ops i) o v a ∧ wpOrd G P X md ops Q rest (a.put o.dst v) w
      else wpOp P ops Q i (fun a' w' => ((finB P X md ops i = true ∧ G w w') ∨ Ext w w') ∧ wpOrd G P X md ops Q rest a' w') a w
  | .fork i p j q, a, w =>
      wpOp P ops Q i (fun a' w' => ((finB P X md ops i = true ∧ G w w') ∨ Ext w w') ∧ wpOrd G P X md ops Q p a' w') a w ∧
      wpOp P ops Q j (fun a' w' => ((finB P X md ops j = true ∧ G w w') ∨ Ext w w') ∧ wpOrd G P X md ops Q q a' w') a w

theorem wpAnyC_ord (hG : GOk G) (hsel : Region.noSelect ops = true) (hQ : ∀ c a w, ¬ Q (.panic c) a w) : ∀ (l : Plan) (listed : Array Bool) (a : Act) (w : World), Closed md ops listed → listed.size = ops.size →
    orderB P md ops l listed = true → wpOrd G P X md ops Q l a w → wpAnyC G P X md ops Q l.len listed a w
  | .nil, _, _, _, _, _, hB, h => ⟨by simpa [orderB] using hB, h⟩
  | .cons i l, listed, a, w, hc, hs, hB, h => by
    obtain ⟨o, ho, h⟩ := h
    simp only [orderB, Bool.and_eq_true, getD_of ho] at hB
    obtain ⟨hr, hB⟩ := hB
    by_cases hcalm : calmB P o.op = true
    · simp only [hcalm, if_true, Bool.and_eq_true] at hr h
      obtain ⟨hr, hf⟩ := hr
      obtain ⟨v, hy, h⟩ := h
      have hr' : i ∈ Region.ready md ops listed := by simpa using hr
      exact wpAnyC_first hG ho hcalm (Region.noSelect_spec hsel) hQ l.len listed a w hc hs (Region.free_spec ho hf) hr' hy
        (wpAnyC_ord hG hsel hQ l _ _ _ (hc.set hr') (by simpa using hs) hB h)
    · simp only [hcalm, Bool.false_eq_true, if_false, decide_eq_true_eq] at hr h
      refine ⟨fun h0 => (by rw [hr] at h0; cases h0), fun j hj => ?_⟩
      have hj' := hj
      rw [hr] at hj
      have hji : j = i := by simpa using hj
      subst hji
      refine wpOp_mono (fun a' w' h' => ⟨by simp only [Keeps, getD_of ho, hcalm, Bool.false_eq_true, if_false]; exact h'.1, ?_⟩) h
      exact wpAnyC_ord hG hsel hQ l _ a' w' (hc.set hj') (by simpa using hs) hB h'.2
  | .fork i p j q, listed, a, w, hc, hs, hB, h => by
    simp only [orderB, Bool.and_eq_true, Bool.not_eq_true', decide_eq_true_eq] at hB
    obtain ⟨⟨⟨⟨⟨hci, hcj⟩, hr⟩, hl⟩, hBp⟩, hBq⟩ := hB
    refine ⟨fun h0 => (by rw [hr] at h0; cases h0), fun k hk => ?_⟩
    have hk' := hk
    rw [hr] at hk
    have hkk : k = i ∨ k = j := by simpa using hk
    rcases hkk with rfl | rfl
    · refine wpOp_mono (fun a' w' h' => ⟨by simp only [Keeps, hci, Bool.false_eq_true, if_false]; exact h'.1, ?_⟩) h.1
      exact wpAnyC_ord hG hsel hQ p _ a' w' (hc.set hk') (by simpa using hs) hBp h'.2
    · refine wpOp_mono (fun a' w' h' => ⟨by simp only [Keeps, hcj, Bool.false_eq_true, if_false]; exact h'.1, ?_⟩) h.2
      have := wpAnyC_ord hG hsel hQ q _ a' w' (hc.set hk') (by simpa using hs) hBq h'.2
      rw [hl] at this
      exact this

theorem wp_region_ord (hG : GOk G) {id : Nat} {a : Act} {w : World} {l : List Oper} (ord : Plan) (hm : P.follows .mixedOrders = true)
    (hB : (Region.noSelect l.toArray && decide (ord.len = l.length) && orderB P .any l.toArray ord (Array.replicate l.toArray.size false)) = true)
    (h : wpOrd G P X .any l.toArray (Only Q) ord a w.drew) : (Code.region id l.toArray true).wp P Q a w := by
  simp only [Bool.and_eq_true, decide_eq_true_eq] at hB
  obtain ⟨⟨hsel, hlen⟩, hB⟩ := hB
  refine Code.wp_mono (Q := Only Q) (fun e a w ⟨he, hq⟩ => by subst he; exact hq) (wp_region_any hm ?_)
  have H := wpAnyC_ord hG (Q := Only Q) (md := .any) hsel (fun c a w hc => by cases hc.1) ord (Array.replicate l.toArray.size false) a w.drew
    (fun k hk => by simp [Array.getD_eq_getD_getElem?, Array.getElem?_replicate] at hk; split at hk <;> simp at hk) (by simp) hB h
  have := wpAny_of_C _ _ _ _ H
  rw [hlen] at this
  simpa using this

/-- A stretch of calm operations, walked as a list. -/
theorem ord_seg {R : Plan} : ∀ (is : List Nat) (l : List Oper) (a : Act) (w : World), (∀ j : Nat, l[j]? = (is[j]?).bind (fun i => ops[i]?)) → is.length = l.length → l.all (fun o => calmB P o.op) = true → is.all (fun i => !X.contains i) = true →
    wpList P ops (fun e a' w' => e = .normal ∧ w' = w ∧ wpOrd G P X md ops Q R a' w') l a w → wpOrd G P X md ops Q (seq is R) a w
  | [], [], _, _, _, _, _, _, h => h.2.2
  | i :: is, o :: l, a, w, hl, hlen, hc, hX, h => by
    have ho : ops[i]? = some o := by simpa using (hl 0).symm
    have hlt : ∀ j : Nat, l[j]? = (is[j]?).bind (fun i => ops[i]?) := fun j => by simpa using hl (j + 1)
    simp only [List.all_cons, Bool.and_eq_true] at hc hX
    refine ⟨o, ho, ?_⟩
    rw [if_pos hc.1]
    unfold wpList at h
    split at h
    · rename_i hwant
      rcases h with h | ⟨_, hlo⟩
      · obtain ⟨hn, hv⟩ := calm_nowr hc.1 a.eval
        unfold Oper.wp at h
        generalize hr : (execOp a.eval o).run P w = r at h
        cases r with
        | ok n u =>
          obtain ⟨v, rfl⟩ := hv hr
          have h1 := hn.up hr
          have h2 := wpList_up l _ _ hc.2 h
          have huw : u = w := h1.2.2 h2.1 h2.2
          subst huw
          refine ⟨v, .inl ⟨hwant, ?_⟩, ord_seg is l _ _ hlt (by simpa using hlen) hc.2 hX.2 h⟩
          cases hd : dryB o.op with
          | true => exact .inl fun w' _ => dry_same hd _ hr
          | false => exact .inr ⟨by simp only [wetAt, getD_of ho, hd, hX.1, Bool.not_false, Bool.and_self], fun w' hw' => hn.same hr hw'⟩
        | halt x u =>
          cases x <;> simp only [Oper.upon] at h
          cases h.1
      · obtain ⟨_, _, hq⟩ := hlo
        cases hq.1
    · rename_i hwant
      exact ⟨undef, .inr ⟨by simpa using hwant, rfl⟩, ord_seg is l _ _ hlt (by simpa using hlen) hc.2 hX.2 h⟩
  | [], _ :: _, _, _, _, hlen, _, _, _ => by simp at hlen
  | _ :: _, [], _, _, _, hlen, _, _, _ => by simp at hlen

/-- An operation of which the walk knows that it does not look at the world. -/
theorem ord_dry {R : Plan} {i : Nat} {o : Oper} {a : Act} {w : World} (v : Value) (ho : ops[i]? = some o) (hc : calmB P o.op = true) (hw : Region.wanted o (yielded ops a.tmps) = true) (hr : ∀ w', G w w' → (execOp a.eval o).run P w' = .ok (.value v) w')
    (h : wpOrd G P X md ops Q R (a.put o.dst v) w) : wpOrd G P X md ops Q (.cons i R) a w := by
  refine ⟨o, ho, ?_⟩
  rw [if_pos hc]
  exact ⟨v, .inl ⟨hw, .inl hr⟩, h⟩

/-- An operation that is not calm: a call, a store, an append; walked as a list of one. -/
theorem ord_one {i : Nat} {is : Plan} {o : Oper} {a : Act} {w : World} (ho : ops[i]? = some o) (hc : calmB P o.op = false)
    (h : wpList P ops (fun e a' w' => e = .normal ∧ ((finB P X md ops i = true ∧ G w w') ∨ Ext w w') ∧ wpOrd G P X md ops (Only Q) is a' w') [o] a w) : wpOrd G P X md ops (Only Q) (.cons i is) a w := by
  refine ⟨o, ho, ?_⟩
  rw [if_neg (by simp [hc])]
  exact wpOp_one ho h

/-- Two that are not calm, either of which may come up. -/
theorem ord_two {i j : Nat} {p q : Plan} {o o' : Oper} {a : Act} {w : World} (ho : ops[i]? = some o) (ho' : ops[j]? = some o')
    (h : wpList P ops (fun e a' w' => e = .normal ∧ ((finB P X md ops i = true ∧ G w w') ∨ Ext w w') ∧ wpOrd G P X md ops (Only Q) p a' w') [o] a w)
    (h' : wpList P ops (fun e a' w' => e = .normal ∧ ((finB P X md ops j = true ∧ G w w') ∨ Ext w w') ∧ wpOrd G P X md ops (Only Q) q a' w') [o'] a w) : wpOrd G P X md ops (Only Q) (.fork i p j q) a w :=
  ⟨wpOp_one ho h, wpOp_one ho' h'⟩

end
section
variable {G : World → World → Prop} {P : Program} {X : List Nat} {Q : Exit → Act → World → Prop} {l : List Oper}
/-- The first stretch, where calls lie between: then 'ord_call', 'ord_more', 'ord_last'. X: the operations that the walk will show to be blind ('ord_blind'). -/
theorem region_firstG {id : Nat} {a : Act} {w : World} (G : World → World → Prop) (hG : GOk G) (X : List Nat) (hd : List Nat) (tl : Plan) (hm : P.follows .mixedOrders = true) (hB : (wholeB P l (seq hd tl) && headB P X l hd) = true)
    (h : wpList P l.toArray (fun e a' w' => e = .normal ∧ w' = w.drew ∧ wpOrd G P X .any l.toArray (Only Q) tl a' w') (pick l hd) a w.drew) :
    (Code.region id l.toArray true).wp P Q a w := by
  simp only [Bool.and_eq_true, headB] at hB
  obtain ⟨hB, ⟨h1, h2⟩, h3⟩ := hB
  refine wp_region_ord hG (X := X) (seq hd tl) hm hB ?_
  exact ord_seg (R := tl) hd (pick l hd) a w.drew (pick_at h1) (by simp [pick]) h2 h3 h
/-- An operation that does not look at the world, by the values that it is given. -/
theorem ord_blindG {i : Nat} {is : Plan} {a : Act} {w : World} (v : Value) (hB : (inB l [i] && calmB P (l.getD i default).op && Region.wanted (l.getD i default) (yielded l.toArray a.tmps)) = true)
    (hr : ∀ w', G w w' → (execOp a.eval (l.getD i default)).run P w' = .ok (.value v) w') (h : wpOrd G P X .any l.toArray (Only Q) is (a.put (l.getD i default).dst v) w) : wpOrd G P X .any l.toArray (Only Q) (.cons i is) a w := by
  simp only [Bool.and_eq_true] at hB
  have hi : l.toArray[i]? = some (l.getD i default) := by
    have := pick_at hB.1.1 0
    simpa [pick] using this.symm
  exact ord_dry v hi hB.1.2 hB.2 hr h

/-- One operation that is not calm and leaves the blocks that are there alone. -/
theorem ord_callG {i : Nat} {is : Plan} {a : Act} {w : World} (hB : (inB l [i] && !calmB P (l.getD i default).op) = true)
    (h : wpList P l.toArray (fun e a' w' => e = .normal ∧ Ext w w' ∧ wpOrd G P X .any l.toArray (Only Q) is a' w') (pick l [i]) a w) : wpOrd G P X .any l.toArray (Only Q) (.cons i is) a w := by
  simp only [Bool.and_eq_true, Bool.not_eq_true'] at hB
  have hi : l.toArray[i]? = some (l.getD i default) := by
    have := pick_at hB.1 0
    simpa [pick] using this.symm
  exact ord_one hi hB.2 (wpList_mono' (fun e a' w' hq => ⟨hq.1, .inr hq.2.1, hq.2.2⟩) _ _ _ h)

/-- One operation that is not calm and before or behind which all that look at the world must come (a store of an assignment of several): it may write what it will. -/
theorem ord_finG {i : Nat} {is : Plan} {a : Act} {w : World} (hB : (inB l [i] && !calmB P (l.getD i default).op && finB P X .any l.toArray i) = true)
    (h : wpList P l.toArray (fun e a' w' => e = .normal ∧ G w w' ∧ wpOrd G P X .any l.toArray (Only Q) is a' w') (pick l [i]) a w) : wpOrd G P X .any l.toArray (Only Q) (.cons i is) a w := by
  simp only [Bool.and_eq_true, Bool.not_eq_true'] at hB
  have hi : l.toArray[i]? = some (l.getD i default) := by
    have := pick_at hB.1.1 0
    simpa [pick] using this.symm
  exact ord_one hi hB.1.2 (wpList_mono' (fun e a' w' hq => ⟨hq.1, .inl ⟨hB.2, hq.2.1⟩, hq.2.2⟩) _ _ _ h)

/-- Two operations that are not calm, in either order; each leaves the blocks that are there alone. -/
theorem ord_forkG {i j : Nat} {p q : Plan} {a : Act} {w : World} (hB : (inB l [i] && inB l [j]) = true)
    (h : wpList P l.toArray (fun e a' w' => e = .normal ∧ Ext w w' ∧ wpOrd G P X .any l.toArray (Only Q) p a' w') (pick l [i]) a w)
    (h' : wpList P l.toArray (fun e a' w' => e = .normal ∧ Ext w w' ∧ wpOrd G P X .any l.toArray (Only Q) q a' w') (pick l [j]) a w) : wpOrd G P X .any l.toArray (Only Q) (.fork i p j q) a w := by
  simp only [Bool.and_eq_true] at hB
  have hi : l.toArray[i]? = some (l.getD i default) := by
    have := pick_at hB.1 0
    simpa [pick] using this.symm
  have hj : l.toArray[j]? = some (l.getD j default) := by
    have := pick_at hB.2 0
    simpa [pick] using this.symm
  exact ord_two hi hj (wpList_mono' (fun e a' w' hq => ⟨hq.1, .inr hq.2.1, hq.2.2⟩) _ _ _ h) (wpList_mono' (fun e a' w' hq => ⟨hq.1, .inr hq.2.1, hq.2.2⟩) _ _ _ h')

/-- A further stretch of calm ones. -/
theorem ord_moreG {a : Act} {w : World} (hd : List Nat) (tl : Plan) (hB : headB P X l hd = true)
    (h : wpList P l.toArray (fun e a' w' => e = .normal ∧ w' = w ∧ wpOrd G P X .any l.toArray (Only Q) tl a' w') (pick l hd) a w) : wpOrd G P X .any l.toArray (Only Q) (seq hd tl) a w := by
  simp only [Bool.and_eq_true, headB] at hB
  exact ord_seg (R := tl) hd (pick l hd) a w (pick_at hB.1.1) (by simp [pick]) hB.1.2 hB.2 h

theorem ord_doneG {ops : Array Oper} {md : Region.Mode} {a : Act} {w : World} (h : Q .normal a w) : wpOrd G P X md ops (Only Q) .nil a w := ⟨rfl, h⟩
end
end Go.OrdG

set_option linter.unusedSimpArgs false
set_option linter.unusedVariables false
namespace Go.Baro
open Go.RowKit
theorem own_boxS {w : World} {B m g s : Nat} {e : TypeId} {xs : List Value} (h : w.ownsRow B e s (.slice (some ⟨g, 0, none⟩) m m) m xs) : Box w g e xs ∧ B ≤ g := by
  rcases h.2 with ⟨h, _⟩ | ⟨g', cap, cur, h1, h2, h3, h4, h5, h6, h7⟩
  · cases h
  · simp only [Value.slice.injEq, Option.some.injEq, Addr.mk.injEq, and_true, true_and] at h1
    obtain ⟨rfl, rfl⟩ := h1
    refine ⟨?_, h2⟩
    rw [List.take_of_length_le (by simp [h6])] at h7
    unfold Box
    rw [h3, ← h7]
theorem gok_kc (T : TypeId → Prop) : OrdG.GOk (Kc T) := ⟨Kc.refl T, fun h k => h.trans k, Kc.ext⟩
end Go.Baro
