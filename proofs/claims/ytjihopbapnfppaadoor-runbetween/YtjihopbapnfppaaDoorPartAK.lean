/- Of this claim's own texts these, one behind the other: KeepMachP, KeepPicked, VmKeepPure. No statement of the seat is proved here; no condition but those that stand at the theorems. -/
import Derived.Test.YtjihopbapnfppaaDoorPartAI
import Derived.Test.YtjihopbapnfppaaDoorPartAJ
import Derived.Test.YtjihopbapnfppaaDoorRows
import Derived.Test.YtjihopbapnfppaaDoorPartAC
import Derived.Test.YtjihopbapnfppaaDoorPartAE
set_option linter.unusedSimpArgs false
set_option linter.unusedVariables false
namespace Go.Baro
open Go.RowKit Go.Ord
section
variable {w w' : World} {B n k s : Nat} {t t' e ti : TypeId} {v : Value} {xs : List Value} {X : Nat → Prop} {ls : List Cl}
def Ty (w : World) (k : Nat) (t : TypeId) : Prop := ∃ cs, w.heap[k]? = some (.cells cs t (0, 0))
theorem own_ty (h : w.ownsRow B e s v n xs) (hk : v.ownBlock = some k) : Ty w k e := by
  rcases h.2 with ⟨rfl, _⟩ | ⟨g, cap, cur, rfl, _, hh, _⟩
  · cases hk
  · injection hk with hk
    subst hk
    exact ⟨cur, hh⟩
theorem Box.ty {cs : List Value} (h : Box w k t cs) : Ty w k t := ⟨_, h⟩
theorem Ty.lt (h : Ty w k t) : k < w.heap.size := by
  obtain ⟨cs, h⟩ := h
  exact (Array.getElem?_eq_some_iff.1 h).1
theorem Ty.un (h : Ty w k t) (hu : Un X w w') (hx : ¬ X k) : Ty w' k t := by
  have hl := h.lt
  obtain ⟨cs, h⟩ := h
  exact ⟨cs, (hu.block k hl hx).trans h⟩
theorem Ty.one (h : Ty w k t) (h' : Ty w k t') : t = t' := by
  obtain ⟨cs, h⟩ := h
  obtain ⟨cs', h'⟩ := h'
  rw [h] at h'
  injection h' with h'
  injection h'
theorem own_ext (h : w.ownsRow B e s v n xs) (hx : Ext w w') : w'.ownsRow B e s v n xs := by
  refine ⟨h.1, ?_⟩
  rcases h.2 with h | ⟨g, cap, cur, h1, h2, h3, h4⟩
  · exact .inl h
  · exact .inr ⟨g, cap, cur, h1, h2, hx.kept h3, h4⟩
theorem Box.ext {cs : List Value} (h : Box w k t cs) (hx : Ext w w') : Box w' k t cs := hx.kept h
/-- A full row is a block. -/
theorem own_box {g m : Nat} (h : w.ownsRow B e 1 (.slice (some ⟨g, 0, none⟩) m m) m xs) : Box w g e xs ∧ B ≤ g := by
  rcases h.2 with ⟨h, _⟩ | ⟨g', cap, cur, h1, h2, h3, h4, h5, h6, h7⟩
  · cases h
  · simp only [Value.slice.injEq, Option.some.injEq, Addr.mk.injEq, and_true, true_and] at h1
    obtain ⟨rfl, rfl⟩ := h1
    refine ⟨?_, h2⟩
    rw [List.take_of_length_le (by simp [h6])] at h7
    unfold Box
    rw [h3, ← h7]
/-- A call of the call's own: its arguments lie in blocks of type ti. -/
def eQ (ti : TypeId) (w : World) (r : List Value) (c : Cl) : Prop := ∃ A n k, r = [.int .i64 c.k, .slice A n k] ∧ n ≤ k ∧ RI w w.heap.size .i64 A n c.ar ∧ (0 < n → ∀ b o, A = some ⟨b, o, none⟩ → Ty w b ti)
/-- The calls of a thread: a row of the call's own. -/
def Cr (ti e : TypeId) (w : World) (B : Nat) (v : Value) (ls : List Cl) : Prop :=
  ∃ rows : List (List Value), rows.length = ls.length ∧ (∀ r ∈ rows, r.length = 2) ∧ w.ownsRow B e 2 v ls.length rows.flatten ∧ ∀ (i : Nat) r x, rows[i]? = some r → ls[i]? = some x → eQ ti w r x
theorem eQ.un {r : List Value} {c : Cl} (h : eQ ti w r c) (hu : Un X w w') (hX : ∀ b, Ty w b ti → ¬ X b) : eQ ti w' r c := by
  obtain ⟨A, n, k, h1, h2, h3, h4⟩ := h
  exact ⟨A, n, k, h1, h2, Rd.more (Rd.un h3 hu (Nat.le_refl _) (fun h0 b o hA => hX b (h4 h0 b o hA))) hu.size, fun h0 b o hA => (h4 h0 b o hA).un hu (hX b (h4 h0 b o hA))⟩
theorem Cr.nil (ti e : TypeId) (w : World) (B : Nat) : Cr ti e w B (.slice none 0 0) [] := ⟨[], rfl, by simp, World.ownsRow_nil _ _ _ _, fun i r x h => by simp at h⟩
theorem Cr.un (h : Cr ti e w B v ls) (hu : Un X w w') (ho : ∀ k, v.ownBlock = some k → ¬ X k) (hX : ∀ b, Ty w b ti → ¬ X b) : Cr ti e w' B v ls := by
  obtain ⟨rows, h1, h2, h3, h4⟩ := h
  exact ⟨rows, h1, h2, own_un h3 hu ho, fun i r x hr hx => (h4 i r x hr hx).un hu hX⟩
theorem cr_snoc {rows : List (List Value)} {r : List Value} {x : Cl} {v' : Value} (h1 : rows.length = ls.length) (h2 : ∀ r ∈ rows, r.length = 2) (h4 : ∀ (i : Nat) r x, rows[i]? = some r → ls[i]? = some x → eQ ti w r x)
    (ho : w'.ownsRow B e 2 v' n (rows.flatten ++ r)) (hn : n = ls.length + 1) (hu : Un X w w') (hX : ∀ b, Ty w b ti → ¬ X b) (hr : eQ ti w r x) : Cr ti e w' B v' (ls ++ [x]) := by
  have hr2 : r.length = 2 := by obtain ⟨A, n, k, rfl, _⟩ := hr; rfl
  refine ⟨rows ++ [r], by simp [h1], fun q hq => ?_, ?_, fun i q y hq hy => ?_⟩
  · rcases List.mem_append.1 hq with hq | hq
    · exact h2 q hq
    · rw [List.mem_singleton.1 hq]; exact hr2
  · rw [List.flatten_append, List.length_append, List.length_singleton, ← hn]
    simpa using ho
  · rcases Nat.lt_trichotomy i rows.length with hi | hi | hi
    · rw [List.getElem?_append_left hi] at hq
      rw [List.getElem?_append_left (by omega)] at hy
      exact (h4 i q y hq hy).un hu hX
    · rw [List.getElem?_append_right (by omega), show i - rows.length = 0 by omega] at hq
      rw [List.getElem?_append_right (by omega), show i - ls.length = 0 by omega] at hy
      injection hq with hq
      injection hy with hy
      subst hq hy
      exact hr.un hu hX
    · rw [List.getElem?_eq_none (by simp; omega)] at hq; cases hq
theorem Cr.post (h : Cr ti e w B v ls) : ∃ A c, v = .slice A ls.length c ∧ ls.length ≤ c ∧ RLs w w.heap.size A ls.length ls := by
  obtain ⟨rows, h1, h2, h3, h4⟩ := h
  obtain ⟨A, c, rfl, hlc⟩ := own_form h3
  refine ⟨A, c, rfl, hlc, rows, h1, h2, Rd.of_own h3, fun i r x hr hx => ?_⟩
  obtain ⟨A, n, k, q1, q2, q3, _⟩ := h4 i r x hr hx
  exact ⟨A, n, k, q1, q2, q3⟩
end
/-- The calls that are drawn. -/
def clJ (cs : List Int) (j : Nat) : Cl := ⟨(cs[j]?.getD 0) % 2, [(cs[j]?.getD 0) % 7, j]⟩
def thJ (cs : List Int) (q : Nat) : Nat → List Cl
  | 0 => []
  | j + 1 => if j % 3 = q then thJ cs q j ++ [clJ cs j] else thJ cs q j
theorem thJ_len (cs : List Int) (q : Nat) : ∀ j, (thJ cs q j).length ≤ j
  | 0 => Nat.le_refl _
  | j + 1 => by
    have := thJ_len cs q j
    unfold thJ
    split
    · simp; omega
    · omega
def thL (cs : List Int) (q : Nat) : List Cl := thJ cs q (min cs.length 12)
end Go.Baro
namespace Go.Proofs.YtjihopbapnfppaaDoor
open Go.RowKit Go.Ord Go.Baro

theorem eltCall : Elt Tryd.prog 58 60 (.agg #[.int .i64 0, .slice none 0 0]) 2 32 := Elt.mk' Tryd.underlying58 (by kernel_rfl) rfl (by decide)
theorem eltThr : Elt Tryd.prog 43 58 (.slice none 0 0) 1 24 := Elt.mk' Tryd.underlying43 (by kernel_rfl) rfl (by decide)
/-- A machine in memory, in blocks of the call's own. -/
structure Mo (tg : Nat → Nat) (w : World) (B gw gc g6 : Nat) (v0 v1 : Value) (ts : Nat → Value) (c0 c1 : List Ins) (T : Nat → List Cl) : Prop where
  words : w.ownsRow B 3 1 (.slice (some ⟨gw, 0, none⟩) 8 8) 8 (List.replicate 8 (.int .i64 0))
  codes : Box w gc 22 [v0, v1]
  k0 : ∃ n, n ≤ 12 ∧ w.ownsRow B 37 5 v0 n (cellsO c0)
  k1 : ∃ n, n ≤ 12 ∧ w.ownsRow B 37 5 v1 n (cellsO c1)
  thr : Box w g6 58 [ts 0, ts 1, ts 2]
  row : ∀ i, i < 3 → Cr 3 60 w B (ts i) (T i)
  tag : ∀ i, i < 3 → ∀ k, (ts i).ownBlock = some k → tg k = i
  B6 : B ≤ g6
theorem three_set {α : Type} (f f' : Nat → α) {n : Nat} {v : α} (hn : n < 3) (h1 : f' n = v) (h2 : ∀ i, i ≠ n → f' i = f i) : [f 0, f 1, f 2].set n v = [f' 0, f' 1, f' 2] := by
  rcases (by omega : n = 0 ∨ n = 1 ∨ n = 2) with rfl | rfl | rfl <;> simp [h1, h2]
theorem three_at {α : Type} (f : Nat → α) {n : Nat} (hn : n < 3) : [f 0, f 1, f 2][n]? = some (f n) := by
  rcases (by omega : n = 0 ∨ n = 1 ∨ n = 2) with rfl | rfl | rfl <;> rfl
section
variable {tg tg' : Nat → Nat} {w w' : World} {B gw gc g6 q : Nat} {v0 v1 v' : Value} {ts : Nat → Value} {c0 c1 : List Ins} {T : Nat → List Cl}
theorem Mo.un {X : Nat → Prop} (h : Mo tg w B gw gc g6 v0 v1 ts c0 c1 T) (hu : Un X w w') (hX : ∀ k t, X k → Ty w k t → t ≠ 3 ∧ t ≠ 37 ∧ t ≠ 22 ∧ t ≠ 58 ∧ t ≠ 60) : Mo tg w' B gw gc g6 v0 v1 ts c0 c1 T := by
  refine ⟨own_un h.words hu fun k hk hx => (hX k _ hx (own_ty h.words hk)).1 rfl, h.codes.un hu fun hx => (hX gc _ hx h.codes.ty).2.2.1 rfl, ?_, ?_, h.thr.un hu fun hx => (hX g6 _ hx h.thr.ty).2.2.2.1 rfl, fun i hi => (h.row i hi).un hu (fun k hk hx => ?_) (fun b hb hx => (hX b _ hx hb).1 rfl), h.tag, h.B6⟩
  · obtain ⟨n, hn, hk⟩ := h.k0; exact ⟨n, hn, own_un hk hu fun k hk' hx => (hX k _ hx (own_ty hk hk')).2.1 rfl⟩
  · obtain ⟨n, hn, hk⟩ := h.k1; exact ⟨n, hn, own_un hk hu fun k hk' hx => (hX k _ hx (own_ty hk hk')).2.1 rfl⟩
  · obtain ⟨rows, _, _, h3, _⟩ := h.row i hi
    exact (hX k _ hx (own_ty h3 hk)).2.2.2.2 rfl
/-- A call is added to thread q. -/
theorem Mo.push (h : Mo tg w B gw gc g6 v0 v1 ts c0 c1 T) (hq : q < 3) {rows : List (List Value)} {r : List Value} {c : Cl} {n : Nat} (h1 : rows.length = (T q).length) (h2 : ∀ r ∈ rows, r.length = 2) (h4 : ∀ (i : Nat) r x, rows[i]? = some r → (T q)[i]? = some x → eQ 3 w r x)
    (h3 : w.ownsRow B 60 2 (ts q) (T q).length rows.flatten) (ho : w'.ownsRow B 60 2 v' n (rows.flatten ++ r)) (hn : n = (T q).length + 1) (hu : Un (fun k => some k = (ts q).ownBlock) w w') (hb : v'.ownBlock = (ts q).ownBlock ∨ ∃ k, v'.ownBlock = some k ∧ w.heap.size ≤ k) (hr : eQ 3 w r c) :
    Mo (fun k => if k < w.heap.size then tg k else q) (w'.setCell ⟨g6, q, none⟩ v') B gw gc g6 v0 v1 (fun i => if i = q then v' else ts i) c0 c1 (fun i => if i = q then T q ++ [c] else T i) := by
  have hX : ∀ k t, some k = (ts q).ownBlock → Ty w k t → t = 60 := fun k t hk ht => ht.one (own_ty h3 hk.symm)
  have hu2 : Un (fun k => k = g6) w' (w'.setCell ⟨g6, q, none⟩ v') := un_at (X := fun k => k = g6) (Un.refl _ _) rfl _ _
  have b6 : Box w' g6 58 [ts 0, ts 1, ts 2] := h.thr.un hu fun hx => absurd (hX g6 _ hx h.thr.ty) (by decide)
  have hX2 : ∀ k t, k = g6 → Ty w' k t → t = 58 := fun k t hk ht => by subst hk; exact ht.one b6.ty
  have hw1 := own_un h.words hu fun k hk hx => absurd (hX k _ hx (own_ty h.words hk)) (by decide)
  have hc1 := h.codes.un hu fun hx => absurd (hX gc _ hx h.codes.ty) (by decide)
  have hrq : Cr 3 60 w' B v' (T q ++ [c]) := cr_snoc h1 h2 h4 ho hn hu (fun b hb hx => absurd (hX b _ hx hb) (by decide)) hr
  refine ⟨own_un hw1 hu2 fun k hk hx => absurd (hX2 k _ hx (own_ty hw1 hk)) (by decide), hc1.un hu2 fun hx => absurd (hX2 gc _ hx hc1.ty) (by decide), ?_, ?_, ?_, fun i hi => ?_, fun i hi k hk => ?_, h.B6⟩
  · obtain ⟨n, hn, hk⟩ := h.k0
    have hk1 := own_un hk hu fun k hk' hx => absurd (hX k _ hx (own_ty hk hk')) (by decide)
    exact ⟨n, hn, own_un hk1 hu2 fun k hk' hx => absurd (hX2 k _ hx (own_ty hk1 hk')) (by decide)⟩
  · obtain ⟨n, hn, hk⟩ := h.k1
    have hk1 := own_un hk hu fun k hk' hx => absurd (hX k _ hx (own_ty hk hk')) (by decide)
    exact ⟨n, hn, own_un hk1 hu2 fun k hk' hx => absurd (hX2 k _ hx (own_ty hk1 hk')) (by decide)⟩
  · have := b6.set q v'
    rw [three_set ts (fun i => if i = q then v' else ts i) hq (by simp) (fun i hi => by simp [hi])] at this
    exact this
  · by_cases hiq : i = q
    · subst hiq
      rw [if_pos rfl, if_pos rfl]
      obtain ⟨rows', _, _, h3', _⟩ := id hrq
      exact hrq.un hu2 (fun k hk hx => absurd (hX2 k _ hx (own_ty h3' hk)) (by decide)) (fun b hb hx => absurd (hX2 b _ hx hb) (by decide))
    · rw [if_neg hiq, if_neg hiq]
      have hri := (h.row i hi).un hu (fun k hk hx => by
        have e1 := h.tag i hi k hk
        have e2 := h.tag q hq k hx.symm
        exact hiq (e1.symm.trans e2)) (fun b hb hx => absurd (hX b _ hx hb) (by decide))
      obtain ⟨rows', _, _, h3', _⟩ := id hri
      exact hri.un hu2 (fun k hk hx => absurd (hX2 k _ hx (own_ty h3' hk)) (by decide)) (fun b hb hx => absurd (hX2 b _ hx hb) (by decide))
  · by_cases hiq : i = q
    · subst hiq
      rw [if_pos rfl] at hk
      rcases hb with hb | ⟨k', hb, hge⟩
      · rw [hb] at hk
        rw [if_pos (own_ty h3 hk).lt]
        exact h.tag i hi k hk
      · rw [hb] at hk
        injection hk with hk
        subst hk
        rw [if_neg (by omega)]
    · rw [if_neg hiq] at hk
      obtain ⟨rows', _, _, h3', _⟩ := h.row i hi
      rw [if_pos (own_ty h3' hk).lt]
      exact h.tag i hi k hk
end
end Go.Proofs.YtjihopbapnfppaaDoor

set_option linter.unusedSimpArgs false
set_option linter.unusedVariables false
namespace Go.Proofs.YtjihopbapnfppaaDoor
open Go.RowKit Go.Ord Go.Baro

theorem tmod_pick (a n : Int) (hn : 0 < n) : (if a.tmod n < 0 then a.tmod n + n else a.tmod n) = a % n := by
  have h1 := Int.tmod_eq_emod (a := a) (b := n)
  have h2 := Int.emod_nonneg a (show n ≠ 0 by omega)
  have h3 := Int.emod_lt_of_pos a hn
  rw [h1]
  split <;> split <;> omega

theorem keep_Picked (a n : Int) (w : World) (hn : 0 < n) (hn1 : n ≤ 4611686018427387904) :
    Calls Tryd.prog 21 #[.int .i64 a, .int .i64 n] w fun e w' => e = .returned (.int .i64 (a % n)) ∧ w = w' := by
  have HT := Lib.hid (tmod_pick a n hn)
  have hb1 : -n < a.tmod n := Int.lt_tmod_of_pos a hn
  have hb2 : a.tmod n < n := Int.tmod_lt_of_pos a hn
  have hne : (n == 0) = false := by simp; omega
  by_cases h : a.tmod n < 0
  · go_enter Tryd.func21, Tryd.ntmps21
    go_wp2
    go_ret
    refine ⟨ret_int ?_, rfl⟩
    have := HT.out
    rw [if_pos h] at this
    exact this
  · go_enter Tryd.func21, Tryd.ntmps21
    go_wp2
    go_ret
    refine ⟨ret_int ?_, rfl⟩
    have := HT.out
    rw [if_neg (by omega)] at this
    exact this
end Go.Proofs.YtjihopbapnfppaaDoor

set_option linter.unusedSimpArgs false
set_option linter.unusedVariables false
namespace Go.Baro
open Go.RowKit (wrap64)

theorem stp_any {P : Vs × Int → Prop} {n : Nat} {o : Ins} {s : Vs} (h1 : ∀ q r, P (⟨q, r, s.w, s.t⟩, 0)) (h2 : ∀ q r i v, P (⟨q, r, s.w.set i v, s.t⟩, 0)) (h3 : ∀ q r, P (⟨q, r, s.w, s.t⟩, 2)) (h4 : ∀ q r v, P (⟨q, r, s.w, s.t ++ [v]⟩, 0)) (h5 : ∀ q r, P (⟨q, r, s.w, s.t⟩, 8)) : P (stp n o s) := by
  have hq : ∀ {b : Prop} [Decidable b] {x y : Vs × Int}, (b → P x) → (¬ b → P y) → P (if b then x else y) := by
    intro b _ x y hx hy
    by_cases hb : b
    · rw [if_pos hb]; exact hx hb
    · rw [if_neg hb]; exact hy hb
  unfold stp
  refine hq (fun _ => h1 _ _) fun _ => hq (fun _ => h1 _ _) fun _ => hq (fun _ => h1 _ _) fun _ => hq (fun _ => h1 _ _) fun _ => hq (fun _ => h1 _ _) fun _ => hq (fun _ => hq (fun _ => h3 _ _) fun _ => h1 _ _) fun _ => hq (fun _ => hq (fun _ => h3 _ _) fun _ => h2 _ _ _ _) fun _ =>
    hq (fun _ => hq (fun _ => h3 _ _) fun _ => hq (fun _ => h2 _ _ _ _) fun _ => h1 _ _) fun _ => hq (fun _ => hq (fun _ => h5 _ _) fun _ => h4 _ _ _) fun _ => hq (fun _ => h1 _ _) fun _ => h1 _ _
theorem stp_pre (n : Nat) (o : Ins) (s : Vs) : s.t <+: (stp n o s).1.t :=
  stp_any (P := fun x => s.t <+: x.1.t) (fun _ _ => List.prefix_refl _) (fun _ _ _ _ => List.prefix_refl _) (fun _ _ => List.prefix_refl _) (fun _ _ _ => List.prefix_append _ _) (fun _ _ => List.prefix_refl _)
theorem stp_err (n : Nat) (o : Ins) (s : Vs) : (stp n o s).2 = 0 ∨ (stp n o s).2 = 2 ∨ (stp n o s).2 = 8 :=
  stp_any (P := fun x => x.2 = 0 ∨ x.2 = 2 ∨ x.2 = 8) (by simp) (by simp) (by simp) (by simp) (by simp)

theorem rn_one (c : List Ins) (f : Nat) (s : Vs) (h : s.p ≠ c.length) : ∃ o, o = c[s.p.toNat]?.getD ⟨17, 0, 0, 0, 0⟩ ∧ ((stp c.length o s).2 ≠ 0 → rn c (f + 1) s = ((stp c.length o s).1, 1, (stp c.length o s).2)) ∧
    ((stp c.length o s).2 = 0 → rn c (f + 1) s = ((rn c f (stp c.length o s).1).1, (rn c f (stp c.length o s).1).2.1 + 1, (rn c f (stp c.length o s).1).2.2)) := by
  refine ⟨_, rfl, fun he => ?_, fun he => ?_⟩
  · rw [rn, if_neg h, if_pos he]
  · rw [rn, if_neg h, if_neg (by simpa using he)]

theorem rn_pre (c : List Ins) : ∀ (f : Nat) (s : Vs), s.t <+: (rn c f s).1.t
  | 0, s => by rw [rn]; split <;> exact List.prefix_refl _
  | f + 1, s => by
    by_cases h : s.p = c.length
    · rw [rn_end h]; exact List.prefix_refl _
    · obtain ⟨o, _, h1, h2⟩ := rn_one c f s h
      by_cases he : (stp c.length o s).2 = 0
      · rw [h2 he]; exact (stp_pre _ _ _).trans (rn_pre c f _)
      · rw [h1 he]; exact stp_pre _ _ _

/-- With a greater limit a run goes on where it was over. -/
theorem rn_mono (c : List Ins) : ∀ (f g : Nat) (s : Vs), f ≤ g → (rn c f s).1.t <+: (rn c g s).1.t ∧ (rn c f s).2.1 ≤ (rn c g s).2.1 ∧ (rn c f s).2.1 ≤ f ∧ ((rn c f s).2.2 = 11 → (rn c f s).2.1 = f) ∧ ((rn c f s).2.2 ≠ 11 → rn c f s = rn c g s)
  | 0, g, s, _ => by
    by_cases h : s.p = c.length
    · rw [rn_end h, rn_end h]; exact ⟨List.prefix_refl _, Nat.le_refl _, Nat.le_refl _, fun _ => rfl, fun _ => rfl⟩
    · rw [rn_over h]; exact ⟨rn_pre c g s, Nat.zero_le _, Nat.le_refl _, fun _ => rfl, fun h => absurd rfl h⟩
  | f + 1, 0, s, h => absurd h (by omega)
  | f + 1, g + 1, s, hfg => by
    by_cases h : s.p = c.length
    · rw [rn_end h, rn_end h]; exact ⟨List.prefix_refl _, Nat.le_refl _, Nat.zero_le _, fun h => absurd (show (0 : Int) = 11 from h) (by decide), fun _ => rfl⟩
    · obtain ⟨o, ho, h1, h2⟩ := rn_one c f s h
      obtain ⟨o', ho', h1', h2'⟩ := rn_one c g s h
      obtain rfl : o = o' := ho.trans ho'.symm
      by_cases he : (stp c.length o s).2 = 0
      · rw [h2 he, h2' he]
        obtain ⟨i1, i2, i3, i4, i5⟩ := rn_mono c f g (stp c.length o s).1 (by omega)
        refine ⟨i1, by dsimp only; omega, by dsimp only; omega, fun h => ?_, fun h => ?_⟩
        · have := i4 h; dsimp only; omega
        · rw [i5 h]
      · rw [h1 he, h1' he]
        refine ⟨List.prefix_refl _, Nat.le_refl _, by dsimp only; omega, fun h => ?_, fun _ => rfl⟩
        rcases stp_err c.length o s with h' | h' | h' <;> (dsimp only at h; omega)

/-- What every step keeps, a run keeps. -/
theorem rn_inv {c : List Ins} {I : Vs → Prop} {e : Int → Prop} (hs : ∀ s, I s → s.p ≠ c.length → I (stp c.length (c[s.p.toNat]?.getD ⟨17, 0, 0, 0, 0⟩) s).1 ∧ ((stp c.length (c[s.p.toNat]?.getD ⟨17, 0, 0, 0, 0⟩) s).2 ≠ 0 → e (stp c.length (c[s.p.toNat]?.getD ⟨17, 0, 0, 0, 0⟩) s).2)) :
    ∀ (f : Nat) (s : Vs), I s → I (rn c f s).1 ∧ ((rn c f s).2.2 = 0 ∨ (rn c f s).2.2 = 11 ∨ e (rn c f s).2.2)
  | 0, s, h => by
    by_cases hp : s.p = c.length
    · rw [rn_end hp]; exact ⟨h, .inl rfl⟩
    · rw [rn_over hp]; exact ⟨h, .inr (.inl rfl)⟩
  | f + 1, s, h => by
    by_cases hp : s.p = c.length
    · rw [rn_end hp]; exact ⟨h, .inl rfl⟩
    · obtain ⟨o, ho, h1, h2⟩ := rn_one c f s hp
      obtain ⟨i1, i2⟩ := hs s h hp
      rw [← ho] at i1 i2
      by_cases he : (stp c.length o s).2 = 0
      · rw [h2 he]; exact rn_inv hs f _ i1
      · rw [h1 he]; exact ⟨i1, .inr (.inr (i2 he))⟩

/-- Two codes whose steps go beside each other. -/
theorem rn_sim {c c' : List Ins} {R : Vs → Vs → Prop} (hl : c'.length = c.length) (hp : ∀ s s', R s s' → s'.p = s.p)
    (hs : ∀ s s', R s s' → s.p ≠ c.length → R (stp c.length (c[s.p.toNat]?.getD ⟨17, 0, 0, 0, 0⟩) s).1 (stp c.length (c'[s.p.toNat]?.getD ⟨17, 0, 0, 0, 0⟩) s').1 ∧ (stp c.length (c[s.p.toNat]?.getD ⟨17, 0, 0, 0, 0⟩) s).2 = (stp c.length (c'[s.p.toNat]?.getD ⟨17, 0, 0, 0, 0⟩) s').2) :
    ∀ (f : Nat) (s s' : Vs), R s s' → R (rn c f s).1 (rn c' f s').1 ∧ (rn c f s).2 = (rn c' f s').2
  | 0, s, s', h => by
    have hpp := hp s s' h
    by_cases hq : s.p = c.length
    · rw [rn_end hq, rn_end (by rw [hpp, hq, hl])]; exact ⟨h, rfl⟩
    · rw [rn_over hq, rn_over (by rw [hpp, hl]; exact hq)]; exact ⟨h, rfl⟩
  | f + 1, s, s', h => by
    have hpp := hp s s' h
    by_cases hq : s.p = c.length
    · rw [rn_end hq, rn_end (by rw [hpp, hq, hl])]; exact ⟨h, rfl⟩
    · obtain ⟨o, ho, h1, h2⟩ := rn_one c f s hq
      obtain ⟨o', ho', h1', h2'⟩ := rn_one c' f s' (by rw [hpp, hl]; exact hq)
      obtain ⟨i1, i2⟩ := hs s s' h hq
      rw [hpp] at ho'
      rw [hl] at h1' h2'
      rw [← ho, ← ho'] at i1 i2
      by_cases he : (stp c.length o s).2 = 0
      · rw [h2 he, h2' (i2 ▸ he)]
        obtain ⟨j1, j2⟩ := rn_sim hl hp hs f _ _ i1
        exact ⟨j1, by rw [j2]⟩
      · rw [h1 he, h1' (i2 ▸ he), i2]; exact ⟨i1, rfl⟩

/-- An instruction as it is drawn: of a code of m, over four registers and six words. -/
def kI (m : Nat) (x : Ins) : Ins :=
  if x.k % 17 = 0 then ⟨1, x.a % 4, x.b % 9 - 3, 0, 0⟩
  else if x.k % 17 = 1 then ⟨2, x.a % 4, x.b % 4, 0, 0⟩
  else if x.k % 17 = 9 then ⟨10, x.a % (m + 1 : Int), 0, 0, 0⟩
  else if x.k % 17 = 10 ∨ x.k % 17 = 11 then ⟨1 + x.k % 17, x.a % 4, x.b % (m + 1 : Int), 0, 0⟩
  else if x.k % 17 = 12 ∨ x.k % 17 = 13 then ⟨1 + x.k % 17, x.a % 4, 5, x.c % 6, 0⟩
  else if x.k % 17 = 14 then ⟨15, x.a % 4, 5, x.c % 6, x.d % 4⟩
  else if x.k % 17 = 15 then ⟨16, x.a % 4, 0, 0, 0⟩
  else if x.k % 17 = 16 then ⟨17, 0, 0, 0, 0⟩
  else ⟨1 + x.k % 17, x.a % 4, x.b % 4, x.c % 4, 0⟩
def kC (l : List Ins) : List Ins := (l.take 40).map (kI (min l.length 40))
theorem kC_len (l : List Ins) : (kC l).length = min l.length 40 := by simp [kC, Nat.min_comm]

def r4 (n : Int) : Prop := 0 ≤ n ∧ n < 4
/-- What a drawn instruction keeps to. -/
def shI (m : Nat) (o : Ins) : Prop :=
  (o.k = 1 ∧ r4 o.a ∧ (-3 ≤ o.b ∧ o.b ≤ 5) ∧ o.c = 0 ∧ o.d = 0) ∨ (o.k = 2 ∧ r4 o.a ∧ r4 o.b ∧ o.c = 0 ∧ o.d = 0) ∨ ((3 ≤ o.k ∧ o.k ≤ 9) ∧ r4 o.a ∧ r4 o.b ∧ r4 o.c ∧ o.d = 0) ∨
  (o.k = 10 ∧ (0 ≤ o.a ∧ o.a ≤ m) ∧ o.b = 0 ∧ o.c = 0 ∧ o.d = 0) ∨ ((o.k = 11 ∨ o.k = 12) ∧ r4 o.a ∧ (0 ≤ o.b ∧ o.b ≤ m) ∧ o.c = 0 ∧ o.d = 0) ∨ ((o.k = 13 ∨ o.k = 14) ∧ r4 o.a ∧ o.b = 5 ∧ (0 ≤ o.c ∧ o.c < 6) ∧ o.d = 0) ∨
  (o.k = 15 ∧ r4 o.a ∧ o.b = 5 ∧ (0 ≤ o.c ∧ o.c < 6) ∧ r4 o.d) ∨ (o.k = 16 ∧ r4 o.a ∧ o.b = 0 ∧ o.c = 0 ∧ o.d = 0) ∨ (o.k = 17 ∧ o.a = 0 ∧ o.b = 0 ∧ o.c = 0 ∧ o.d = 0)
theorem kI_sh (m : Nat) (x : Ins) : shI m (kI m x) := by
  have h1 : 0 ≤ x.k % 17 ∧ x.k % 17 < 17 := by omega
  have h2 : 0 ≤ x.a % 4 ∧ x.a % 4 < 4 := by omega
  have h3 : 0 ≤ x.b % 4 ∧ x.b % 4 < 4 := by omega
  have h4 : 0 ≤ x.c % 4 ∧ x.c % 4 < 4 := by omega
  have h5 : 0 ≤ x.d % 4 ∧ x.d % 4 < 4 := by omega
  have h6 : 0 ≤ x.b % 9 ∧ x.b % 9 < 9 := by omega
  have h7 : 0 ≤ x.c % 6 ∧ x.c % 6 < 6 := by omega
  have h8 : 0 ≤ x.a % (m + 1 : Int) ∧ x.a % (m + 1 : Int) < m + 1 := ⟨Int.emod_nonneg _ (by omega), Int.emod_lt_of_pos _ (by omega)⟩
  have h9 : 0 ≤ x.b % (m + 1 : Int) ∧ x.b % (m + 1 : Int) < m + 1 := ⟨Int.emod_nonneg _ (by omega), Int.emod_lt_of_pos _ (by omega)⟩
  have hq : ∀ {b : Prop} [Decidable b] {u v : Ins}, (b → shI m u) → (¬ b → shI m v) → shI m (if b then u else v) := by
    intro b _ u v hx hy
    by_cases hb : b
    · rw [if_pos hb]; exact hx hb
    · rw [if_neg hb]; exact hy hb
  unfold kI
  refine hq (fun _ => .inl ⟨rfl, h2, by dsimp only; omega, rfl, rfl⟩) fun e0 => ?_
  refine hq (fun _ => .inr (.inl ⟨rfl, h2, h3, rfl, rfl⟩)) fun e1 => ?_
  refine hq (fun _ => .inr (.inr (.inr (.inl ⟨rfl, by dsimp only; omega, rfl, rfl, rfl⟩)))) fun e9 => ?_
  refine hq (fun e => .inr (.inr (.inr (.inr (.inl ⟨by dsimp only; omega, h2, by dsimp only; omega, rfl, rfl⟩))))) fun e10 => ?_
  refine hq (fun e => .inr (.inr (.inr (.inr (.inr (.inl ⟨by dsimp only; omega, h2, rfl, h7, rfl⟩)))))) fun e12 => ?_
  refine hq (fun _ => .inr (.inr (.inr (.inr (.inr (.inr (.inl ⟨rfl, h2, rfl, h7, h5⟩))))))) fun e14 => ?_
  refine hq (fun _ => .inr (.inr (.inr (.inr (.inr (.inr (.inr (.inl ⟨rfl, h2, rfl, rfl, rfl⟩)))))))) fun e15 => ?_
  refine hq (fun _ => .inr (.inr (.inr (.inr (.inr (.inr (.inr (.inr ⟨rfl, rfl, rfl, rfl, rfl⟩)))))))) fun e16 => ?_
  exact .inr (.inr (.inl ⟨by dsimp only; omega, h2, h3, h4, rfl⟩))
theorem kC_sh {l : List Ins} {o : Ins} (h : o ∈ kC l) : shI (kC l).length o := by
  rw [kC_len]
  obtain ⟨x, _, rfl⟩ := List.mem_map.1 h
  exact kI_sh _ x
theorem r4_R {x : Int} (h : r4 x) : isR x := ⟨h.1, by have := h.2; omega⟩
theorem sh_ok {m : Nat} {o : Ins} (h : shI m o) : okI m o := by
  rcases h with ⟨h1, h2, h3, h4, h5⟩ | ⟨h1, h2, h3, h4, h5⟩ | ⟨h1, h2, h3, h4, h5⟩ | ⟨h1, h2, h3, h4, h5⟩ | ⟨h1, h2, h3, h4, h5⟩ | ⟨h1, h2, h3, h4, h5⟩ | ⟨h1, h2, h3, h4, h5⟩ | ⟨h1, h2, h3, h4, h5⟩ | ⟨h1, h2, h3, h4, h5⟩
  · exact .inl ⟨h1, r4_R h2, h4, h5⟩
  · exact .inr (.inl ⟨h1, r4_R h2, r4_R h3, h4, h5⟩)
  · exact .inr (.inr (.inl ⟨h1, r4_R h2, r4_R h3, r4_R h4, h5⟩))
  · exact .inr (.inr (.inr (.inl ⟨h1, h2, h3, h4, h5⟩)))
  · exact .inr (.inr (.inr (.inr (.inl ⟨h1, r4_R h2, h3, h4, h5⟩))))
  · exact .inr (.inr (.inr (.inr (.inr (.inl ⟨h1, r4_R h2, by rw [h3]; decide, h5⟩)))))
  · exact .inr (.inr (.inr (.inr (.inr (.inr (.inl ⟨h1, r4_R h2, by rw [h3]; decide, r4_R h5⟩))))))
  · exact .inr (.inr (.inr (.inr (.inr (.inr (.inr (.inl ⟨h1, r4_R h2, h3, h4, h5⟩)))))))
  · exact .inr (.inr (.inr (.inr (.inr (.inr (.inr (.inr ⟨h1, h2, h3, h4, h5⟩)))))))
theorem sh_in {m : Nat} {o : Ins} (hm : m ≤ 200) (h : shI m o) : inI o := by
  have hw : ∀ x : Int, -1000 ≤ x → x ≤ 1000 → inW x := fun x h1 h2 => by unfold inW; omega
  have hw4 : ∀ x : Int, r4 x → inW x := fun x h => by unfold r4 at h; exact hw x (by omega) (by omega)
  rcases h with ⟨h1, h2, h3, h4, h5⟩ | ⟨h1, h2, h3, h4, h5⟩ | ⟨h1, h2, h3, h4, h5⟩ | ⟨h1, h2, h3, h4, h5⟩ | ⟨h1, h2, h3, h4, h5⟩ | ⟨h1, h2, h3, h4, h5⟩ | ⟨h1, h2, h3, h4, h5⟩ | ⟨h1, h2, h3, h4, h5⟩ | ⟨h1, h2, h3, h4, h5⟩ <;>
    refine ⟨hw _ (by omega) (by omega), ?_, ?_, ?_, ?_⟩ <;> first | exact hw4 _ (by assumption) | exact hw _ (by omega) (by omega)
theorem kC_ok (l : List Ins) : okC (kC l) := ⟨by rw [kC_len]; omega, fun o ho => sh_ok (kC_sh ho)⟩
theorem kC_in (l : List Ins) : ∀ o ∈ kC l, inI o := fun o ho => sh_in (by rw [kC_len]; omega) (kC_sh ho)

/-- A code that is drawn, of at most N instructions. -/
def kN (N : Nat) (l : List Ins) : List Ins := (l.take N).map (kI (min l.length N))
theorem kN_kC (l : List Ins) : kN 40 l = kC l := rfl
theorem kN_len (N : Nat) (l : List Ins) : (kN N l).length = min l.length N := by simp [kN, Nat.min_comm]
theorem kN_sh {N : Nat} {l : List Ins} {o : Ins} (h : o ∈ kN N l) : shI (kN N l).length o := by
  rw [kN_len]
  obtain ⟨x, _, rfl⟩ := List.mem_map.1 h
  exact kI_sh _ x
theorem kN_ok {N : Nat} (hN : N ≤ 200) (l : List Ins) : okC (kN N l) := ⟨by rw [kN_len]; omega, fun o ho => sh_ok (kN_sh ho)⟩
theorem kN_in {N : Nat} (hN : N ≤ 200) (l : List Ins) : ∀ o ∈ kN N l, inI o := fun o ho => sh_in (by rw [kN_len]; omega) (kN_sh ho)
end Go.Baro
