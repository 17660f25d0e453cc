/- A machine of three threads in memory. No statement of the seat is proved here; no condition. -/
import Derived.Test.YtjihopbapnfppaaDoorKeepRun1
import Derived.Test.YtjihopbapnfppaaDoorOrd5
set_option linter.unusedSimpArgs false
set_option linter.unusedVariables false
namespace Go.Baro
open Go.RowKit Go.Ord
section
variable {w w' : World} {B n k s : Nat} {t t' e ti : TypeId} {v : Value} {xs : List Value} {X : Nat → Prop} {ls : List Cl}
def Ty (w : World) (k : Nat) (t : TypeId) : Prop := ∃ cs, w.heap[k]? = some (.cells cs t (0, 0))
theorem own_ty (h : w.ownsRow B e s v n xs) (hk : v.ownBlock = some k) : Ty w k e := by
  rcases h.2 with ⟨rfl, _⟩ | ⟨g, cap, cur, rfl, _, hh, _⟩
  · cases hk
  · injection hk with hk
    subst hk
    exact ⟨cur, hh⟩
theorem Box.ty {cs : List Value} (h : Box w k t cs) : Ty w k t := ⟨_, h⟩
theorem Ty.lt (h : Ty w k t) : k < w.heap.size := by
  obtain ⟨cs, h⟩ := h
  exact (Array.getElem?_eq_some_iff.1 h).1
theorem Ty.un (h : Ty w k t) (hu : Un X w w') (hx : ¬ X k) : Ty w' k t := by
  have hl := h.lt
  obtain ⟨cs, h⟩ := h
  exact ⟨cs, (hu.block k hl hx).trans h⟩
theorem Ty.one (h : Ty w k t) (h' : Ty w k t') : t = t' := by
  obtain ⟨cs, h⟩ := h
  obtain ⟨cs', h'⟩ := h'
  rw [h] at h'
  injection h' with h'
  injection h'
theorem own_ext (h : w.ownsRow B e s v n xs) (hx : Ext w w') : w'.ownsRow B e s v n xs := by
  refine ⟨h.1, ?_⟩
  rcases h.2 with h | ⟨g, cap, cur, h1, h2, h3, h4⟩
  · exact .inl h
  · exact .inr ⟨g, cap, cur, h1, h2, hx.kept h3, h4⟩
theorem Box.ext {cs : List Value} (h : Box w k t cs) (hx : Ext w w') : Box w' k t cs := hx.kept h
/-- A full row is a block. -/
theorem own_box {g m : Nat} (h : w.ownsRow B e 1 (.slice (some ⟨g, 0, none⟩) m m) m xs) : Box w g e xs ∧ B ≤ g := by
  rcases h.2 with ⟨h, _⟩ | ⟨g', cap, cur, h1, h2, h3, h4, h5, h6, h7⟩
  · cases h
  · simp only [Value.slice.injEq, Option.some.injEq, Addr.mk.injEq, and_true, true_and] at h1
    obtain ⟨rfl, rfl⟩ := h1
    refine ⟨?_, h2⟩
    rw [List.take_of_length_le (by simp [h6])] at h7
    unfold Box
    rw [h3, ← h7]
/-- A call of the call's own: its arguments lie in blocks of type ti. -/
def eQ (ti : TypeId) (w : World) (r : List Value) (c : Cl) : Prop := ∃ A n k, r = [.int .i64 c.k, .slice A n k] ∧ n ≤ k ∧ RI w w.heap.size .i64 A n c.ar ∧ (0 < n → ∀ b o, A = some ⟨b, o, none⟩ → Ty w b ti)
/-- The calls of a thread: a row of the call's own. -/
def Cr (ti e : TypeId) (w : World) (B : Nat) (v : Value) (ls : List Cl) : Prop :=
  ∃ rows : List (List Value), rows.length = ls.length ∧ (∀ r ∈ rows, r.length = 2) ∧ w.ownsRow B e 2 v ls.length rows.flatten ∧ ∀ (i : Nat) r x, rows[i]? = some r → ls[i]? = some x → eQ ti w r x
theorem eQ.un {r : List Value} {c : Cl} (h : eQ ti w r c) (hu : Un X w w') (hX : ∀ b, Ty w b ti → ¬ X b) : eQ ti w' r c := by
  obtain ⟨A, n, k, h1, h2, h3, h4⟩ := h
  exact ⟨A, n, k, h1, h2, Rd.more (Rd.un h3 hu (Nat.le_refl _) (fun h0 b o hA => hX b (h4 h0 b o hA))) hu.size, fun h0 b o hA => (h4 h0 b o hA).un hu (hX b (h4 h0 b o hA))⟩
theorem Cr.nil (ti e : TypeId) (w : World) (B : Nat) : Cr ti e w B (.slice none 0 0) [] := ⟨[], rfl, by simp, World.ownsRow_nil _ _ _ _, fun i r x h => by simp at h⟩
theorem Cr.un (h : Cr ti e w B v ls) (hu : Un X w w') (ho : ∀ k, v.ownBlock = some k → ¬ X k) (hX : ∀ b, Ty w b ti → ¬ X b) : Cr ti e w' B v ls := by
  obtain ⟨rows, h1, h2, h3, h4⟩ := h
  exact ⟨rows, h1, h2, own_un h3 hu ho, fun i r x hr hx => (h4 i r x hr hx).un hu hX⟩
theorem cr_snoc {rows : List (List Value)} {r : List Value} {x : Cl} {v' : Value} (h1 : rows.length = ls.length) (h2 : ∀ r ∈ rows, r.length = 2) (h4 : ∀ (i : Nat) r x, rows[i]? = some r → ls[i]? = some x → eQ ti w r x)
    (ho : w'.ownsRow B e 2 v' n (rows.flatten ++ r)) (hn : n = ls.length + 1) (hu : Un X w w') (hX : ∀ b, Ty w b ti → ¬ X b) (hr : eQ ti w r x) : Cr ti e w' B v' (ls ++ [x]) := by
  have hr2 : r.length = 2 := by obtain ⟨A, n, k, rfl, _⟩ := hr; rfl
  refine ⟨rows ++ [r], by simp [h1], fun q hq => ?_, ?_, fun i q y hq hy => ?_⟩
  · rcases List.mem_append.1 hq with hq | hq
    · exact h2 q hq
    · rw [List.mem_singleton.1 hq]; exact hr2
  · rw [List.flatten_append, List.length_append, List.length_singleton, ← hn]
    simpa using ho
  · rcases Nat.lt_trichotomy i rows.length with hi | hi | hi
    · rw [List.getElem?_append_left hi] at hq
      rw [List.getElem?_append_left (by omega)] at hy
      exact (h4 i q y hq hy).un hu hX
    · rw [List.getElem?_append_right (by omega), show i - rows.length = 0 by omega] at hq
      rw [List.getElem?_append_right (by omega), show i - ls.length = 0 by omega] at hy
      injection hq with hq
      injection hy with hy
      subst hq hy
      exact hr.un hu hX
    · rw [List.getElem?_eq_none (by simp; omega)] at hq; cases hq
theorem Cr.post (h : Cr ti e w B v ls) : ∃ A c, v = .slice A ls.length c ∧ ls.length ≤ c ∧ RLs w w.heap.size A ls.length ls := by
  obtain ⟨rows, h1, h2, h3, h4⟩ := h
  obtain ⟨A, c, rfl, hlc⟩ := own_form h3
  refine ⟨A, c, rfl, hlc, rows, h1, h2, Rd.of_own h3, fun i r x hr hx => ?_⟩
  obtain ⟨A, n, k, q1, q2, q3, _⟩ := h4 i r x hr hx
  exact ⟨A, n, k, q1, q2, q3⟩
end
/-- The calls that are drawn. -/
def clJ (cs : List Int) (j : Nat) : Cl := ⟨(cs[j]?.getD 0) % 2, [(cs[j]?.getD 0) % 7, j]⟩
def thJ (cs : List Int) (q : Nat) : Nat → List Cl
  | 0 => []
  | j + 1 => if j % 3 = q then thJ cs q j ++ [clJ cs j] else thJ cs q j
theorem thJ_len (cs : List Int) (q : Nat) : ∀ j, (thJ cs q j).length ≤ j
  | 0 => Nat.le_refl _
  | j + 1 => by
    have := thJ_len cs q j
    unfold thJ
    split
    · simp; omega
    · omega
def thL (cs : List Int) (q : Nat) : List Cl := thJ cs q (min cs.length 12)
end Go.Baro
namespace Go.Proofs.YtjihopbapnfppaaDoor
open Go.RowKit Go.Ord Go.Baro

theorem eltCall : Elt Tryd.prog 58 60 (.agg #[.int .i64 0, .slice none 0 0]) 2 32 := Elt.mk' Tryd.underlying58 (by kernel_rfl) rfl (by decide)
theorem eltThr : Elt Tryd.prog 43 58 (.slice none 0 0) 1 24 := Elt.mk' Tryd.underlying43 (by kernel_rfl) rfl (by decide)
/-- A machine in memory, in blocks of the call's own. -/
structure Mo (tg : Nat → Nat) (w : World) (B gw gc g6 : Nat) (v0 v1 : Value) (ts : Nat → Value) (c0 c1 : List Ins) (T : Nat → List Cl) : Prop where
  words : w.ownsRow B 3 1 (.slice (some ⟨gw, 0, none⟩) 8 8) 8 (List.replicate 8 (.int .i64 0))
  codes : Box w gc 22 [v0, v1]
  k0 : ∃ n, n ≤ 12 ∧ w.ownsRow B 37 5 v0 n (cellsO c0)
  k1 : ∃ n, n ≤ 12 ∧ w.ownsRow B 37 5 v1 n (cellsO c1)
  thr : Box w g6 58 [ts 0, ts 1, ts 2]
  row : ∀ i, i < 3 → Cr 3 60 w B (ts i) (T i)
  tag : ∀ i, i < 3 → ∀ k, (ts i).ownBlock = some k → tg k = i
  B6 : B ≤ g6
theorem three_set {α : Type} (f f' : Nat → α) {n : Nat} {v : α} (hn : n < 3) (h1 : f' n = v) (h2 : ∀ i, i ≠ n → f' i = f i) : [f 0, f 1, f 2].set n v = [f' 0, f' 1, f' 2] := by
  rcases (by omega : n = 0 ∨ n = 1 ∨ n = 2) with rfl | rfl | rfl <;> simp [h1, h2]
theorem three_at {α : Type} (f : Nat → α) {n : Nat} (hn : n < 3) : [f 0, f 1, f 2][n]? = some (f n) := by
  rcases (by omega : n = 0 ∨ n = 1 ∨ n = 2) with rfl | rfl | rfl <;> rfl
section
variable {tg tg' : Nat → Nat} {w w' : World} {B gw gc g6 q : Nat} {v0 v1 v' : Value} {ts : Nat → Value} {c0 c1 : List Ins} {T : Nat → List Cl}
theorem Mo.un {X : Nat → Prop} (h : Mo tg w B gw gc g6 v0 v1 ts c0 c1 T) (hu : Un X w w') (hX : ∀ k t, X k → Ty w k t → t ≠ 3 ∧ t ≠ 37 ∧ t ≠ 22 ∧ t ≠ 58 ∧ t ≠ 60) : Mo tg w' B gw gc g6 v0 v1 ts c0 c1 T := by
  refine ⟨own_un h.words hu fun k hk hx => (hX k _ hx (own_ty h.words hk)).1 rfl, h.codes.un hu fun hx => (hX gc _ hx h.codes.ty).2.2.1 rfl, ?_, ?_, h.thr.un hu fun hx => (hX g6 _ hx h.thr.ty).2.2.2.1 rfl, fun i hi => (h.row i hi).un hu (fun k hk hx => ?_) (fun b hb hx => (hX b _ hx hb).1 rfl), h.tag, h.B6⟩
  · obtain ⟨n, hn, hk⟩ := h.k0; exact ⟨n, hn, own_un hk hu fun k hk' hx => (hX k _ hx (own_ty hk hk')).2.1 rfl⟩
  · obtain ⟨n, hn, hk⟩ := h.k1; exact ⟨n, hn, own_un hk hu fun k hk' hx => (hX k _ hx (own_ty hk hk')).2.1 rfl⟩
  · obtain ⟨rows, _, _, h3, _⟩ := h.row i hi
    exact (hX k _ hx (own_ty h3 hk)).2.2.2.2 rfl
/-- A call is added to thread q. -/
theorem Mo.push (h : Mo tg w B gw gc g6 v0 v1 ts c0 c1 T) (hq : q < 3) {rows : List (List Value)} {r : List Value} {c : Cl} {n : Nat} (h1 : rows.length = (T q).length) (h2 : ∀ r ∈ rows, r.length = 2) (h4 : ∀ (i : Nat) r x, rows[i]? = some r → (T q)[i]? = some x → eQ 3 w r x)
    (h3 : w.ownsRow B 60 2 (ts q) (T q).length rows.flatten) (ho : w'.ownsRow B 60 2 v' n (rows.flatten ++ r)) (hn : n = (T q).length + 1) (hu : Un (fun k => some k = (ts q).ownBlock) w w') (hb : v'.ownBlock = (ts q).ownBlock ∨ ∃ k, v'.ownBlock = some k ∧ w.heap.size ≤ k) (hr : eQ 3 w r c) :
    Mo (fun k => if k < w.heap.size then tg k else q) (w'.setCell ⟨g6, q, none⟩ v') B gw gc g6 v0 v1 (fun i => if i = q then v' else ts i) c0 c1 (fun i => if i = q then T q ++ [c] else T i) := by
  have hX : ∀ k t, some k = (ts q).ownBlock → Ty w k t → t = 60 := fun k t hk ht => ht.one (own_ty h3 hk.symm)
  have hu2 : Un (fun k => k = g6) w' (w'.setCell ⟨g6, q, none⟩ v') := un_at (X := fun k => k = g6) (Un.refl _ _) rfl _ _
  have b6 : Box w' g6 58 [ts 0, ts 1, ts 2] := h.thr.un hu fun hx => absurd (hX g6 _ hx h.thr.ty) (by decide)
  have hX2 : ∀ k t, k = g6 → Ty w' k t → t = 58 := fun k t hk ht => by subst hk; exact ht.one b6.ty
  have hw1 := own_un h.words hu fun k hk hx => absurd (hX k _ hx (own_ty h.words hk)) (by decide)
  have hc1 := h.codes.un hu fun hx => absurd (hX gc _ hx h.codes.ty) (by decide)
  have hrq : Cr 3 60 w' B v' (T q ++ [c]) := cr_snoc h1 h2 h4 ho hn hu (fun b hb hx => absurd (hX b _ hx hb) (by decide)) hr
  refine ⟨own_un hw1 hu2 fun k hk hx => absurd (hX2 k _ hx (own_ty hw1 hk)) (by decide), hc1.un hu2 fun hx => absurd (hX2 gc _ hx hc1.ty) (by decide), ?_, ?_, ?_, fun i hi => ?_, fun i hi k hk => ?_, h.B6⟩
  · obtain ⟨n, hn, hk⟩ := h.k0
    have hk1 := own_un hk hu fun k hk' hx => absurd (hX k _ hx (own_ty hk hk')) (by decide)
    exact ⟨n, hn, own_un hk1 hu2 fun k hk' hx => absurd (hX2 k _ hx (own_ty hk1 hk')) (by decide)⟩
  · obtain ⟨n, hn, hk⟩ := h.k1
    have hk1 := own_un hk hu fun k hk' hx => absurd (hX k _ hx (own_ty hk hk')) (by decide)
    exact ⟨n, hn, own_un hk1 hu2 fun k hk' hx => absurd (hX2 k _ hx (own_ty hk1 hk')) (by decide)⟩
  · have := b6.set q v'
    rw [three_set ts (fun i => if i = q then v' else ts i) hq (by simp) (fun i hi => by simp [hi])] at this
    exact this
  · by_cases hiq : i = q
    · subst hiq
      rw [if_pos rfl, if_pos rfl]
      obtain ⟨rows', _, _, h3', _⟩ := id hrq
      exact hrq.un hu2 (fun k hk hx => absurd (hX2 k _ hx (own_ty h3' hk)) (by decide)) (fun b hb hx => absurd (hX2 b _ hx hb) (by decide))
    · rw [if_neg hiq, if_neg hiq]
      have hri := (h.row i hi).un hu (fun k hk hx => by
        have e1 := h.tag i hi k hk
        have e2 := h.tag q hq k hx.symm
        exact hiq (e1.symm.trans e2)) (fun b hb hx => absurd (hX b _ hx hb) (by decide))
      obtain ⟨rows', _, _, h3', _⟩ := id hri
      exact hri.un hu2 (fun k hk hx => absurd (hX2 k _ hx (own_ty h3' hk)) (by decide)) (fun b hb hx => absurd (hX2 b _ hx hb) (by decide))
  · by_cases hiq : i = q
    · subst hiq
      rw [if_pos rfl] at hk
      rcases hb with hb | ⟨k', hb, hge⟩
      · rw [hb] at hk
        rw [if_pos (own_ty h3 hk).lt]
        exact h.tag i hi k hk
      · rw [hb] at hk
        injection hk with hk
        subst hk
        rw [if_neg (by omega)]
    · rw [if_neg hiq] at hk
      obtain ⟨rows', _, _, h3', _⟩ := h.row i hi
      rw [if_pos (own_ty h3' hk).lt]
      exact h.tag i hi k hk
end
end Go.Proofs.YtjihopbapnfppaaDoor
