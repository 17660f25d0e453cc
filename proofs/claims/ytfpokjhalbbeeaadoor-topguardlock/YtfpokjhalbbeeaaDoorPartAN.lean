/- Threads that add one to a word, each between two calls that keep the others out: nothing is lost. No statement of the seat is proved here; no condition. -/
import Derived.Test.YtfpokjhalbbeeaaDoorPartAM
set_option linter.unusedSimpArgs false
set_option linter.unusedVariables false
namespace Go.Baro.Grd
open Go.RowKit (wrap64)

/-- Adding one to a word. -/
def addC (N : Nat) : List Ins := [⟨1, 1, 1, 0, 0⟩, ⟨13, 0, 5, N, 0⟩, ⟨3, 0, 0, 1, 0⟩, ⟨14, 0, 5, N, 0⟩]
theorem addC_len (N : Nat) : (addC N).length = 4 := rfl
def gA (t : Nat) (nm : Bool) : List Int := if nm then [(t : Int)] else []
/-- The calls of a thread. -/
def gJ (t : Nat) (nm : Bool) (j : Nat) : List Cl := (List.range j).flatMap fun _ => [⟨0, gA t nm⟩, ⟨2, []⟩, ⟨1, gA t nm⟩]
def mGuard (ws : List Int) (ci co : List Ins) (n : Nat) (nm : Bool) : Mc := ⟨ws ++ [0], [ci, co, addC ws.length], (List.range n).map fun t => gJ t nm 6⟩
theorem gJ_succ (t : Nat) (nm : Bool) (j : Nat) : gJ t nm (j + 1) = gJ t nm j ++ [⟨0, gA t nm⟩, ⟨2, []⟩, ⟨1, gA t nm⟩] := by simp [gJ, List.range_succ]
theorem gJ_len (t : Nat) (nm : Bool) (j : Nat) : (gJ t nm j).length = 3 * j := by
  induction j with
  | zero => rfl
  | succ j ih => rw [gJ_succ, List.length_append, ih]; simp; omega
theorem gJ_mem {t j : Nat} {nm : Bool} {x : Cl} (h : x ∈ gJ t nm j) : (x.k = 0 ∨ x.k = 1 ∨ x.k = 2) ∧ (x.ar = gA t nm ∨ x.ar = []) := by
  simp only [gJ, List.mem_flatMap, List.mem_range, List.mem_cons, List.not_mem_nil, or_false] at h
  obtain ⟨_, _, h⟩ := h
  rcases h with rfl | rfl | rfl <;> simp
theorem gJ_at {t j i : Nat} {nm : Bool} {c : Cl} (h : (gJ t nm j)[i]? = some c) : (i % 3 = 0 → c.k = 0 ∧ c.ar = gA t nm) ∧ (i % 3 = 1 → c.k = 2 ∧ c.ar = []) ∧ (i % 3 = 2 → c.k = 1 ∧ c.ar = gA t nm) := by
  induction j with
  | zero => simp [gJ] at h
  | succ j ih =>
    rw [gJ_succ] at h
    by_cases hi : i < (gJ t nm j).length
    · rw [List.getElem?_append_left hi] at h; exact ih h
    · rw [List.getElem?_append_right (by omega), gJ_len] at h
      rw [gJ_len] at hi
      have hlt := (List.getElem?_eq_some_iff.1 h).1
      simp only [List.length_cons, List.length_nil] at hlt
      rcases (by omega : i = 3 * j ∨ i = 3 * j + 1 ∨ i = 3 * j + 2) with rfl | rfl | rfl
      · rw [show 3 * j - 3 * j = 0 by omega] at h
        injection h with h; subst h
        exact ⟨fun _ => ⟨rfl, rfl⟩, fun h => by omega, fun h => by omega⟩
      · rw [show 3 * j + 1 - 3 * j = 1 by omega] at h
        injection h with h; subst h
        exact ⟨fun h => by omega, fun _ => ⟨rfl, rfl⟩, fun h => by omega⟩
      · rw [show 3 * j + 2 - 3 * j = 2 by omega] at h
        injection h with h; subst h
        exact ⟨fun h => by omega, fun h => by omega, fun _ => ⟨rfl, rfl⟩⟩
def isEnd (x : Ev) : Bool := x.en && decide (x.cl % 3 = 1)
def isBeg (x : Ev) : Bool := !x.en && decide (x.cl % 3 = 1)
def endM (es : List Ev) : Nat := es.countP isEnd
def begM (es : List Ev) : Nat := es.countP isBeg
/-- A thread adds. -/
def inMid (g : Gs) (t : Nat) : Prop := (g.th t).now ≠ none ∧ (g.th t).bg % 3 = 2
/-- How far a thread is that adds. -/
def Mid (N : Nat) (g : Gs) (t : Nat) : Prop := ∃ (p : Nat) (r : Int → Int), (g.th t).now = some ⟨addC N, (p : Nat), r, []⟩ ∧ p < 4 ∧ r 5 = 0 ∧ (1 ≤ p → r 1 = 1) ∧ (p = 2 → r 0 = rd g.w N) ∧ (p = 3 → r 0 = rd g.w N + 1)
structure GI (N n : Nat) (S : List Nat) (g : Gs) : Prop where
  num : rd g.w N = endM g.out
  out : g.out.length ≤ 2 * S.length
  two : (begM g.out = endM g.out ∧ ∀ t, t < n → ¬ inMid g t) ∨ (begM g.out = endM g.out + 1 ∧ ∃ t, t < n ∧ inMid g t ∧ ∀ u, u < n → u ≠ t → ¬ inMid g u)
  mid : ∀ t, t < n → inMid g t → Mid N g t
theorem endM_le (es : List Ev) : endM es ≤ es.length := List.countP_le_length
/-- What is asked of the machine. -/
structure Guarded (m : Mc) (N n : Nat) : Prop where
  code : m.cs[2]? = some (addC N)
  calls : ∀ t, t < n → ∀ (i : Nat) c, (m.ts[t]?.getD [])[i]? = some c → i % 3 = 1 → c.k = 2 ∧ c.ar = []
  zero : rd m.ws N = 0
  len : ∀ S : List Nat, (∀ x ∈ S, x < n) → N < (plyG m 0 S (g0 m)).w.length
  ex : ∀ S : List Nat, (∀ x ∈ S, x < n) → ∀ t u, t < n → u < n → t ≠ u → inMid (plyG m 0 S (g0 m)) t → inMid (plyG m 0 S (g0 m)) u → False
  keep : ∀ S : List Nat, (∀ x ∈ S, x < n) → ∀ t, t < n → ¬ inMid (bgG m (plyG m 0 S (g0 m)) S.length t) t → rd (actG m (plyG m 0 S (g0 m)) S.length t).w N = rd (plyG m 0 S (g0 m)).w N
variable {m : Mc} {N n t : Nat} {S : List Nat} {g : Gs}
theorem mid_step (hN : N < 1000) (hl : N < g.w.length) (hb : rd g.w N < 1000000 ∧ 0 ≤ rd g.w N) (h : Mid N g t) (st : Nat) :
    (∃ r p, ((p : Nat) < 4) ∧ exG g st t = ⟨g.w, putT g.th t ⟨some ⟨addC N, (p : Nat), r, []⟩, (g.th t).bg⟩, g.out⟩ ∧ r 5 = 0 ∧ (1 ≤ p → r 1 = 1) ∧ (p = 2 → r 0 = rd g.w N) ∧ (p = 3 → r 0 = rd g.w N + 1)) ∨
    exG g st t = ⟨g.w.set N (rd g.w N + 1), putT g.th t ⟨none, (g.th t).bg⟩, g.out ++ [⟨st, t, (g.th t).bg - 1, true, 0, []⟩]⟩ := by
  obtain ⟨p, r, h1, h2, h3, h4, h5, h6⟩ := h
  have hq : wrap64 (r 5 + (N : Int)) = (N : Nat) := by rw [h3]; exact wrap_id (by omega) |>.trans (by omega)
  rcases (by omega : p = 0 ∨ p = 1 ∨ p = 2 ∨ p = 3) with rfl | rfl | rfl | rfl
  · have hx : Nx (addC N) 0 r [] g.w 1 (upd r 1 1) [] g.w := nx_set (by rfl)
    have := exG_nx (st := st) h1 hx
    rw [if_neg (by rw [addC_len]; decide)] at this
    exact .inl ⟨_, 1, by omega, this, by rw [upd_other _ _ (by decide)]; exact h3, fun _ => upd_same _ _ _, fun h => by omega, fun h => by omega⟩
  · have hx : Nx (addC N) 1 r [] g.w 2 (upd r 0 (rd g.w N)) [] g.w := nx_load (by rfl) hq hl
    have := exG_nx (st := st) h1 hx
    rw [if_neg (by rw [addC_len]; decide)] at this
    exact .inl ⟨_, 2, by omega, this, by rw [upd_other _ _ (by decide)]; exact h3, fun _ => by rw [upd_other _ _ (by decide)]; exact h4 (by omega), fun _ => upd_same _ _ _, fun h => by omega⟩
  · have hx : Nx (addC N) 2 r [] g.w 3 (upd r 0 (rd g.w N + 1)) [] g.w := nx_add (by rfl) (by rw [h5 rfl, h4 (by omega)]; exact wrap_id (by omega))
    have := exG_nx (st := st) h1 hx
    rw [if_neg (by rw [addC_len]; decide)] at this
    exact .inl ⟨_, 3, by omega, this, by rw [upd_other _ _ (by decide)]; exact h3, fun _ => by rw [upd_other _ _ (by decide)]; exact h4 (by omega), fun h => by omega, fun _ => upd_same _ _ _⟩
  · have hx : Nx (addC N) 3 r [] g.w 4 r [] (g.w.set N (r 0)) := nx_store (by rfl) hq hl
    rw [h6 rfl] at hx
    have := exG_nx (st := st) h1 hx
    rw [if_pos (addC_len N).symm] at this
    exact .inr this
theorem inMid_put {g' : Gs} {td : Td} {u : Nat} (h : g'.th = putT g.th t td) (hu : u ≠ t) : inMid g' u ↔ inMid g u := by
  unfold inMid; rw [h, putT_other _ _ hu]
theorem Mid_put {g' : Gs} {td : Td} {u : Nat} (h : g'.th = putT g.th t td) (hu : u ≠ t) (hw : rd g'.w N = rd g.w N) (hM : Mid N g u) : Mid N g' u := by
  unfold Mid at *; rw [h, putT_other _ _ hu, hw]; exact hM
/-- The beginning of a step. -/
theorem gi_begin (hm : Guarded m N n) (ht : t < n) (H : GI N n S g) (hno : ((g.th t).now = none ∧ (g.th t).bg % 3 = 1 ∧ (bgG m g S.length t).th t ≠ g.th t) → ∀ u, u < n → u ≠ t → ¬ inMid g u) : rd (bgG m g S.length t).w N = endM (bgG m g S.length t).out ∧ (bgG m g S.length t).out.length ≤ 2 * S.length + 1 ∧
    ((begM (bgG m g S.length t).out = endM (bgG m g S.length t).out ∧ ∀ u, u < n → ¬ inMid (bgG m g S.length t) u) ∨ (begM (bgG m g S.length t).out = endM (bgG m g S.length t).out + 1 ∧ ∃ v, v < n ∧ inMid (bgG m g S.length t) v ∧ ∀ u, u < n → u ≠ v → ¬ inMid (bgG m g S.length t) u)) ∧
    ∀ u, u < n → inMid (bgG m g S.length t) u → Mid N (bgG m g S.length t) u := by
  rcases bgG_cases m g S.length t with ⟨h1, _⟩ | ⟨c, h1, h2, h3⟩
  · rw [h1]; exact ⟨H.num, by have := H.out; omega, H.two, H.mid⟩
  · rw [h3] at hno ⊢
    have he : endM (g.out ++ [⟨S.length, t, (g.th t).bg, false, 0, []⟩]) = endM g.out := by simp [endM, List.countP_append, isEnd]
    have hth : (⟨g.w, putT g.th t ⟨some (live (m.cs[c.k.toNat]?.getD []) c.ar), (g.th t).bg + 1⟩, g.out ++ [⟨S.length, t, (g.th t).bg, false, 0, []⟩]⟩ : Gs).th = putT g.th t ⟨some (live (m.cs[c.k.toNat]?.getD []) c.ar), (g.th t).bg + 1⟩ := rfl
    refine ⟨by dsimp only; rw [he]; exact H.num, by have := H.out; simp; omega, ?_, fun u hu hi => ?_⟩
    · dsimp only
      rw [he]
      by_cases h5 : (g.th t).bg % 3 = 1
      · have hb : begM (g.out ++ [⟨S.length, t, (g.th t).bg, false, 0, []⟩]) = begM g.out + 1 := by simp [begM, List.countP_append, isBeg, h5]
        have hno' := hno ⟨h1, h5, by dsimp only; rw [putT_same]; intro e; have := congrArg Td.now e; rw [h1] at this; cases this⟩
        refine .inr ⟨?_, t, ht, ⟨by dsimp only; rw [putT_same]; simp, by dsimp only; rw [putT_same]; dsimp only; omega⟩, fun u hu hut => ?_⟩
        · rw [hb]
          rcases H.two with ⟨q, _⟩ | ⟨_, v, hv, q, _⟩
          · omega
          · exfalso
            by_cases hvt : v = t
            · subst hvt; exact q.1 h1
            · exact hno' v hv hvt q
        · rw [inMid_put hth hut]; exact hno' u hu hut
      · have hb : begM (g.out ++ [⟨S.length, t, (g.th t).bg, false, 0, []⟩]) = begM g.out := by simp [begM, List.countP_append, isBeg, h5]
        rw [hb]
        have hi : ∀ u, inMid (⟨g.w, putT g.th t ⟨some (live (m.cs[c.k.toNat]?.getD []) c.ar), (g.th t).bg + 1⟩, g.out ++ [⟨S.length, t, (g.th t).bg, false, 0, []⟩]⟩ : Gs) u ↔ inMid g u := fun u => by
          by_cases hut : u = t
          · subst hut
            unfold inMid
            dsimp only
            rw [putT_same]
            dsimp only
            constructor
            · intro h; have := h.2; omega
            · intro h; exact absurd h1 h.1
          · exact inMid_put hth hut
        rcases H.two with ⟨q1, q2⟩ | ⟨q1, v, hv, q2, q3⟩
        · exact .inl ⟨q1, fun u hu => by rw [hi]; exact q2 u hu⟩
        · exact .inr ⟨q1, v, hv, by rw [hi]; exact q2, fun u hu huv => by rw [hi]; exact q3 u hu huv⟩
    · by_cases hut : u = t
      · subst hut
        have h5 : (g.th u).bg % 3 = 1 := by
          have := hi.2
          dsimp only at this
          rw [putT_same] at this
          dsimp only at this; omega
        obtain ⟨k1, k2⟩ := hm.calls u hu _ c h2 h5
        refine ⟨0, (live (addC N) []).r, ?_, by omega, ?_, fun h => by omega, fun h => by omega, fun h => by omega⟩
        · dsimp only
          rw [putT_same, k1, k2, show (2 : Int).toNat = 2 from rfl, hm.code]; rfl
        · simp [live, st0]
      · exact Mid_put hth hut rfl (H.mid u hu ((inMid_put hth hut).1 hi))
theorem gi_act (hm : Guarded m N n) (hN : N < 1000) (ht : t < n) (hS : ∀ x ∈ S, x < n) (hg : g = plyG m 0 S (g0 m)) (hl : S.length ≤ 100000) (H : GI N n S g) : GI N n (S ++ [t]) (actG m g S.length t) := by
  have hS' : ∀ x ∈ S ++ [t], x < n := fun x hx => by
    rcases List.mem_append.1 hx with hx | hx
    · exact hS x hx
    · rw [List.mem_singleton.1 hx]; exact ht
  have hlen := hm.len S hS
  rw [← hg] at hlen
  have hb := endM_le g.out
  have hob := H.out
  have hnum := H.num
  have hv : rd g.w N < 1000000 ∧ 0 ≤ rd g.w N := by omega
  have hno : ((g.th t).now = none ∧ (g.th t).bg % 3 = 1 ∧ (bgG m g S.length t).th t ≠ g.th t) → ∀ u, u < n → u ≠ t → ¬ inMid g u := by
    rintro ⟨h1, h2, h3⟩ u hu hut hi
    -- the step begins the call and does its first instruction
    rcases bgG_cases m g S.length t with ⟨k, _⟩ | ⟨c, k1, k2, k3⟩
    · rw [k] at h3; exact h3 rfl
    · obtain ⟨c1, c2⟩ := hm.calls t ht _ c k2 h2
      have hM : Mid N (bgG m g S.length t) t := by
        rw [k3]
        refine ⟨0, (live (addC N) []).r, ?_, by omega, ?_, fun h => by omega, fun h => by omega, fun h => by omega⟩
        · dsimp only
          rw [putT_same, c1, c2, show (2 : Int).toNat = 2 from rfl, hm.code]; rfl
        · simp [live, st0]
      have e0 : (bgG m g S.length t).w = g.w := by rw [k3]
      obtain ⟨p, r, q1, q2, _⟩ := hM
      have hp : p = 0 := by
        have : (bgG m g S.length t).th t = ⟨some (live (m.cs[c.k.toNat]?.getD []) c.ar), (g.th t).bg + 1⟩ := by rw [k3]; exact putT_same _ _ _
        rw [this] at q1
        injection q1 with q1
        have := congrArg Lv.p q1
        simp [live] at this; omega
      subst hp
      have hx : Nx (addC N) 0 r [] (bgG m g S.length t).w 1 (upd r 1 1) [] (bgG m g S.length t).w := nx_set (by rfl)
      have hs := exG_nx (st := S.length) q1 hx
      rw [if_neg (by rw [addC_len]; decide), ← actG_eq] at hs
      have ex := hm.ex (S ++ [t]) hS' t u ht hu (fun e => hut e.symm)
      rw [ply_snoc, ← hg] at ex
      refine ex ?_ ?_
      · rw [hs]
        refine ⟨by dsimp only; rw [putT_same]; simp, ?_⟩
        dsimp only
        rw [putT_same]
        dsimp only
        rw [k3]
        dsimp only
        rw [putT_same]
        dsimp only; omega
      · unfold inMid at hi ⊢
        rw [actG_th hut]; exact hi
  obtain ⟨b1, b2, b3, b4⟩ := gi_begin hm ht H hno
  have e0 : (bgG m g S.length t).w = g.w := by
    rcases bgG_cases m g S.length t with ⟨k, _⟩ | ⟨c, k1, k2, k3⟩
    · rw [k]
    · rw [k3]
  by_cases hmid : inMid (bgG m g S.length t) t
  · have hM := b4 t ht hmid
    have htwo : begM (bgG m g S.length t).out = endM (bgG m g S.length t).out + 1 ∧ ∀ u, u < n → u ≠ t → ¬ inMid (bgG m g S.length t) u := by
      rcases b3 with ⟨_, q⟩ | ⟨q, v, hv, q2, q3⟩
      · exact absurd hmid (q t ht)
      · by_cases hvt : v = t
        · subst hvt; exact ⟨q, q3⟩
        · exact absurd hmid (q3 t ht (fun e => hvt e.symm))
    rw [actG_eq]
    generalize hgb : bgG m g S.length t = gb at *
    rcases mid_step (N := N) hN (by rw [e0]; exact hlen) (by rw [e0]; exact hv) hM S.length with ⟨r, p, hp, hs, m1, m2, m3, m4⟩ | hs
    · rw [hs]
      have hth : (⟨gb.w, putT gb.th t ⟨some ⟨addC N, (p : Nat), r, []⟩, (gb.th t).bg⟩, gb.out⟩ : Gs).th = putT gb.th t ⟨some ⟨addC N, (p : Nat), r, []⟩, (gb.th t).bg⟩ := rfl
      refine ⟨b1, by simp; omega, .inr ⟨htwo.1, t, ht, ⟨by dsimp only; rw [putT_same]; simp, by dsimp only; rw [putT_same]; exact hmid.2⟩, fun u hu hut => by rw [inMid_put hth hut]; exact htwo.2 u hu hut⟩, fun u hu hi => ?_⟩
      by_cases hut : u = t
      · subst hut
        exact ⟨p, r, by dsimp only; rw [putT_same], hp, m1, m2, m3, m4⟩
      · exact absurd ((inMid_put hth hut).1 hi) (htwo.2 u hu hut)
    · rw [hs]
      have hth : (⟨gb.w.set N (rd gb.w N + 1), putT gb.th t ⟨none, (gb.th t).bg⟩, gb.out ++ [⟨S.length, t, (gb.th t).bg - 1, true, 0, []⟩]⟩ : Gs).th = putT gb.th t ⟨none, (gb.th t).bg⟩ := rfl
      have h3 := hmid.2
      have he : endM (gb.out ++ [⟨S.length, t, (gb.th t).bg - 1, true, 0, []⟩]) = endM gb.out + 1 := by
        have : ((gb.th t).bg - 1) % 3 = 1 := by omega
        simp [endM, List.countP_append, isEnd, this]
      have hbm : begM (gb.out ++ [⟨S.length, t, (gb.th t).bg - 1, true, 0, []⟩]) = begM gb.out := by simp [begM, List.countP_append, isBeg]
      have hno2 : ∀ u, u < n → ¬ inMid (⟨gb.w.set N (rd gb.w N + 1), putT gb.th t ⟨none, (gb.th t).bg⟩, gb.out ++ [⟨S.length, t, (gb.th t).bg - 1, true, 0, []⟩]⟩ : Gs) u := fun u hu hi => by
        by_cases hut : u = t
        · subst hut
          have := hi.1
          dsimp only at this
          rw [putT_same] at this
          exact this rfl
        · exact htwo.2 u hu hut ((inMid_put hth hut).1 hi)
      refine ⟨?_, by simp; omega, .inl ⟨by dsimp only; rw [he, hbm]; exact htwo.1, hno2⟩, fun u hu hi => absurd hi (hno2 u hu)⟩
      dsimp only
      rw [rd_same (by rw [e0]; exact hlen), he, b1]; omega
  · have hk := hm.keep S hS t ht
    rw [← hg] at hk
    have hk := hk hmid
    rw [actG_eq] at hk ⊢
    generalize hgb : bgG m g S.length t = gb at *
    cases hnow : (gb.th t).now with
    | none => rw [exG_none hnow]; exact ⟨b1, by simp; omega, b3, b4⟩
    | some l =>
      have h3 : (gb.th t).bg % 3 ≠ 2 := fun e => hmid ⟨by rw [hnow]; simp, e⟩
      have key : ∀ (w : List Int) (td : Td) (es : List Ev), td.bg = (gb.th t).bg → rd w N = rd g.w N → (es = [] ∨ ∃ x, es = [x] ∧ x.en = true ∧ x.cl = (gb.th t).bg - 1) → GI N n (S ++ [t]) ⟨w, putT gb.th t td, gb.out ++ es⟩ := by
        intro w td es hbg hw hes
        have hth : (⟨w, putT gb.th t td, gb.out ++ es⟩ : Gs).th = putT gb.th t td := rfl
        have hce : endM (gb.out ++ es) = endM gb.out ∧ begM (gb.out ++ es) = begM gb.out ∧ es.length ≤ 1 := by
          rcases hes with rfl | ⟨x, rfl, x1, x2⟩
          · simp
          · have : ¬ x.cl % 3 = 1 := by rw [x2]; omega
            simp [endM, begM, List.countP_append, isEnd, isBeg, x1, this]
        have hi : ∀ u, inMid (⟨w, putT gb.th t td, gb.out ++ es⟩ : Gs) u ↔ inMid gb u := fun u => by
          by_cases hut : u = t
          · subst hut
            unfold inMid
            dsimp only
            rw [putT_same, hbg]
            exact ⟨fun h => absurd h.2 h3, fun h => absurd h.2 h3⟩
          · exact inMid_put hth hut
        refine ⟨by dsimp only; rw [hce.1, hw, ← e0]; exact b1, by simp; omega, ?_, fun u hu hiu => ?_⟩
        · dsimp only
          rw [hce.1, hce.2.1]
          rcases b3 with ⟨q1, q2⟩ | ⟨q1, v, hv, q2, q3⟩
          · exact .inl ⟨q1, fun u hu => by rw [hi]; exact q2 u hu⟩
          · exact .inr ⟨q1, v, hv, by rw [hi]; exact q2, fun u hu huv => by rw [hi]; exact q3 u hu huv⟩
        · have h1 := (hi u).1 hiu
          have hut : u ≠ t := by rintro rfl; exact hmid h1
          exact Mid_put hth hut (by dsimp only; rw [hw, ← e0]) (b4 u hu h1)
      by_cases he : (exc l gb.w).2.2.2 = true
      · rw [exG_end hnow he] at hk ⊢
        exact key _ ⟨none, (gb.th t).bg⟩ [_] rfl hk (.inr ⟨_, rfl, rfl, rfl⟩)
      · rw [exG_go hnow (by simpa using he)] at hk ⊢
        have := key _ ⟨some (exc l gb.w).1, (gb.th t).bg⟩ [] rfl hk (.inl rfl)
        rwa [List.append_nil] at this
/-- Nothing is lost. -/
theorem guard_run (hm : Guarded m N n) (hN : N < 1000) (S : List Nat) (hS : ∀ x ∈ S, x < n) (hl : S.length ≤ 100000) : rd (plyG m 0 S (g0 m)).w N = endM (plyG m 0 S (g0 m)).out ∧ begM (plyG m 0 S (g0 m)).out ≤ endM (plyG m 0 S (g0 m)).out + 1 := by
  have h : ∀ (S : List Nat), (∀ x ∈ S, x < n) → ((∀ x ∈ S, x < n) ∧ plyG m 0 S (g0 m) = plyG m 0 S (g0 m)) ∧ (S.length ≤ 100000 → GI N n S (plyG m 0 S (g0 m))) := by
    intro S hS
    have := plyG_indS (m := m) (I := fun S g => ((∀ x ∈ S, x < n) ∧ g = plyG m 0 S (g0 m)) ∧ (S.length ≤ 100000 → GI N n S g)) (A := fun t => t < n) ⟨⟨by simp, rfl⟩, fun _ => ?_⟩ (fun S g t ht ⟨⟨h1, h2⟩, h3⟩ => ⟨⟨?_, ?_⟩, fun hl => ?_⟩) S hS
    · exact ⟨⟨hS, rfl⟩, this.2⟩
    · refine ⟨hm.zero, by simp [g0], .inl ⟨rfl, fun t _ h => h.1 rfl⟩, fun t _ h => absurd rfl h.1⟩
    · intro x hx
      rcases List.mem_append.1 hx with hx | hx
      · exact h1 x hx
      · rw [List.mem_singleton.1 hx]; exact ht
    · rw [ply_snoc, h2]
    · have hl' : S.length ≤ 100000 := by simp at hl; omega
      exact gi_act hm hN ht h1 h2 hl' (h3 hl')
  have hG := (h S hS).2 hl
  refine ⟨hG.num, ?_⟩
  rcases hG.two with ⟨q, _⟩ | ⟨q, _⟩ <;> omega
end Go.Baro.Grd
