/- Of this claim's own texts these, one behind the other: LockAlg3, LockAlg7, AsmPure. No statement of the seat is proved here; no condition but those that stand at the theorems. -/
import Derived.Test.YtfpokjhalbbeeaaDoorPartAQ
import Derived.Test.YtfpokjhalbbeeaaDoorPartAM
import Derived.Test.YtfpokjhalbbeeaaDoorPartAN
import Derived.Test.YtfpokjhalbbeeaaDoorPartAD
set_option linter.unusedSimpArgs false
set_option linter.unusedVariables false
namespace Go.Baro.Lok
open Go.RowKit (wrap64)

def In (L : Nat) (x : Nat → Nat) : Prop := ∀ i, i < ht L → x i = 3
def Out (x : Nat → Nat) : Prop := ∀ i, x i = 0
/-- The work between, instruction by instruction: it leaves the first words alone. -/
structure MidOk (lo N : Nat) (md : List Ins) (A : Nat → (Int → Int) → (Nat → Int) → Prop) : Prop where
  ne : 0 < md.length
  start : ∀ r v, (∀ i, r i = 0) → A 0 r v
  step : ∀ p r (w : List Int), w.length = N → p ≠ md.length → A p r (rd w) → ∃ p' r' w', Nx md p r [] w p' r' [] w' ∧ w'.length = N ∧ (∀ i, i < lo → rd w' i = rd w i) ∧ A p' r' (rd w')
  same : ∀ p r v v', (∀ i, lo ≤ i → v' i = v i) → A p r v → A p r v'
/-- A machine of lock: n threads come in, do their work, go out, again and again. -/
structure Mok (m : Mc) (L N n : Nat) (md : List Ins) : Prop where
  ws : m.ws.length = N
  wl : 3 * L ≤ N
  nL : n ≤ L
  cs : m.cs = [entC L, leaC L, md]
  calls : ∀ t, t < n → ∀ (i : Nat) c, (m.ts[t]?.getD [])[i]? = some c → (i % 3 = 0 → c.k = 0 ∧ c.ar = [(t : Int)]) ∧ (i % 3 = 1 → c.k = 2 ∧ c.ar = []) ∧ (i % 3 = 2 → c.k = 1 ∧ c.ar = [(t : Int)])
/-- A thread. -/
def TT (L : Nat) (md : List Ins) (A : Nat → (Int → Int) → (Nat → Int) → Prop) (w : List Int) (x : Nat → Nat) (t : Nat) (td : Td) : Prop :=
  (td.now = none ∧ (td.bg % 3 = 0 → Out x) ∧ (td.bg % 3 ≠ 0 → In L x)) ∨
  (∃ (p : Nat) (r : Int → Int), td.now = some ⟨entC L, (p : Nat), r, []⟩ ∧ td.bg % 3 = 1 ∧ p ≠ 20 ∧ EA L t x p r) ∨
  (∃ (p : Nat) (r : Int → Int), td.now = some ⟨md, (p : Nat), r, []⟩ ∧ td.bg % 3 = 2 ∧ p ≠ md.length ∧ A p r (rd w) ∧ In L x) ∨
  (∃ (p : Nat) (r : Int → Int), td.now = some ⟨leaC L, (p : Nat), r, []⟩ ∧ td.bg % 3 = 0 ∧ p ≠ lq L + 3 ∧ LA L t x p r)
/-- Whoever came in ahead has begun to go out. -/
def OneZ (D : List Dg) : Prop := ∀ x ∈ D, ∀ y ∈ D, x.cl % 3 = 0 → x.e ≠ -1 → y.cl % 3 = 0 → y.e ≠ -1 → y.th ≠ x.th → x.e < y.e → ∃ z ∈ D, z.th = x.th ∧ z.cl = x.cl + 2 ∧ (z.b : Int) ≤ y.e
structure J (L N n : Nat) (md : List Ins) (A : Nat → (Int → Int) → (Nat → Int) → Prop) (S : List Nat) (sb : Nat) (g : Gs) (f : Ph) : Prop where
  gi : GI L g.w f
  len : g.w.length = N
  tt : ∀ t, t < n → TT L md A g.w (f t) t (g.th t)
  hs : Hs sb S.length g
  th : ∀ x ∈ dgs g.out, x.th < n
  one : OneZ (dgs g.out)
  err : noErr g
variable {m : Mc} {L N n t : Nat} {md : List Ins} {A : Nat → (Int → Int) → (Nat → Int) → Prop} {S : List Nat} {g : Gs} {f : Ph} {sb : Nat}

theorem TT.keep (hM : MidOk (3 * L) N md A) {w w' : List Int} {x : Nat → Nat} {td : Td} (h : TT L md A w x t td) (hw : (∀ i, 3 * L ≤ i → rd w' i = rd w i) ∨ ¬ In L x) : TT L md A w' x t td := by
  rcases h with h | h | ⟨p, r, h1, h2, h3, h4, h5⟩ | h
  · exact .inl h
  · exact .inr (.inl h)
  · rcases hw with hw | hw
    · exact .inr (.inr (.inl ⟨p, r, h1, h2, h3, hM.same _ _ _ _ hw h4, h5⟩))
    · exact absurd h5 hw
  · exact .inr (.inr (.inr h))
theorem j_begin (hL : okL L) (hM : MidOk (3 * L) N md A) (hm : Mok m L N n md) (ht' : t < n) (H : J L N n md A S S.length g f) : J L N n md A S (S.length + 1) (bgG m g S.length t) f := by
  have hhs := hs_begin (m := m) (n := t) H.hs
  rcases bgG_cases m g S.length t with ⟨h1, _⟩ | ⟨c, h1, h2, h3⟩
  · rw [h1] at hhs ⊢; exact ⟨H.gi, H.len, H.tt, hhs, H.th, H.one, H.err⟩
  · rw [h3] at hhs ⊢
    have hnow := H.tt t ht'
    obtain ⟨q0, q1, q2⟩ := hm.calls t ht' _ c h2
    obtain ⟨q3, q4⟩ : ((g.th t).bg % 3 = 0 → Out (f t)) ∧ ((g.th t).bg % 3 ≠ 0 → In L (f t)) := by
      rcases hnow with ⟨_, h⟩ | ⟨p, r, h, _⟩ | ⟨p, r, h, _⟩ | ⟨p, r, h, _⟩
      · exact h
      all_goals rw [h1] at h; cases h
    refine ⟨H.gi, H.len, fun u hu => ?_, hhs, fun x hx => ?_, fun x hx y hy a1 a2 a3 a4 a5 a6 => ?_, fun x hx hen => ?_⟩
    · by_cases hut : u = t
      · subst hut
        dsimp only
        rw [putT_same]
        rcases (by omega : (g.th u).bg % 3 = 0 ∨ (g.th u).bg % 3 = 1 ∨ (g.th u).bg % 3 = 2) with e | e | e
        · obtain ⟨k1, k2⟩ := q0 e
          refine .inr (.inl ⟨0, _, ?_, by dsimp only; omega, by decide, .s0 _ (show (live (entC L) [(u : Int)]).r 0 = _ by simp [live, st0]) (q3 e)⟩)
          dsimp only
          rw [k1, k2, hm.cs]; rfl
        · obtain ⟨k1, k2⟩ := q1 e
          refine .inr (.inr (.inl ⟨0, _, ?_, by dsimp only; omega, by have := hM.ne; omega, hM.start _ _ (fun i => show (live md []).r i = 0 by simp [live, st0]), q4 (by omega)⟩))
          dsimp only
          rw [k1, k2, hm.cs]; rfl
        · obtain ⟨k1, k2⟩ := q2 e
          refine .inr (.inr (.inr ⟨0, _, ?_, by dsimp only; omega, by omega, .l0 _ (show (live (leaC L) [(u : Int)]).r 0 = _ by simp [live, st0]) (q4 (by omega))⟩))
          dsimp only
          rw [k1, k2, hm.cs]; rfl
      · dsimp only
        rw [putT_other _ _ hut]
        exact H.tt u hu
    · dsimp only at hx
      rw [dgs_begin] at hx
      rcases List.mem_append.1 hx with hx | hx
      · exact H.th x hx
      · rw [List.mem_singleton.1 hx]; exact ht'
    · dsimp only at hx hy ⊢
      rw [dgs_begin] at hx hy ⊢
      rcases List.mem_append.1 hx with hx | hx
      · rcases List.mem_append.1 hy with hy | hy
        · obtain ⟨z, hz, z1⟩ := H.one x hx y hy a1 a2 a3 a4 a5 a6
          exact ⟨z, by simp [hz], z1⟩
        · rw [List.mem_singleton.1 hy] at a4; exact absurd rfl a4
      · rw [List.mem_singleton.1 hx] at a2; exact absurd rfl a2
    · rcases List.mem_append.1 hx with hx | hx
      · exact H.err x hx hen
      · rw [List.mem_singleton.1 hx] at hen; cases hen
/-- What a step of a thread within a call leaves. -/
theorem t_step (hL : okL L) (hM : MidOk (3 * L) N md A) (hnL : n ≤ L) (ht' : t < n) (H : J L N n md A S sb g f) (hnow : (g.th t).now ≠ none) :
    ∃ (c : List Ins) (p : Nat) (r : Int → Int) (p' : Nat) (r' : Int → Int) (w' : List Int) (x' : Nat → Nat), (g.th t).now = some ⟨c, (p : Nat), r, []⟩ ∧ Nx c p r [] g.w p' r' [] w' ∧ GI L w' (pu f t x') ∧ w'.length = N ∧ (∀ u, u < n → u ≠ t → TT L md A w' (f u) u (g.th u)) ∧
      (p' ≠ c.length → TT L md A w' x' t ⟨some ⟨c, (p' : Nat), r', []⟩, (g.th t).bg⟩) ∧ (p' = c.length → TT L md A w' x' t ⟨none, (g.th t).bg⟩) ∧ ((g.th t).bg % 3 ≠ 2 → ∀ i, 3 * L ≤ i → rd w' i = rd g.w i) := by
  rcases H.tt t ht' with ⟨h, _⟩ | ⟨p, r, h1, h2, h3, h4⟩ | ⟨p, r, h1, h2, h3, h4, h5⟩ | ⟨p, r, h1, h2, h3, h4⟩
  · exact absurd h hnow
  · obtain ⟨p', r', w', x', k1, k2, k3, k4, k5⟩ := ent_step hL (by omega) H.gi h4 h3
    refine ⟨_, p, r, p', r', w', x', h1, k1, k2, by rw [k4]; exact H.len, fun u hu hut => (H.tt u hu).keep hM (.inl k5), fun hp => .inr (.inl ⟨p', r', rfl, h2, by rwa [entC_len] at hp, k3⟩), fun hp => ?_, fun _ => k5⟩
    rw [entC_len] at hp
    subst hp
    have : In L x' := by
      cases k3 with
      | fin r F => exact F
    exact .inl ⟨rfl, fun h => by dsimp only at h; omega, fun _ => this⟩
  · obtain ⟨p', r', w', k1, k2, k3, k4⟩ := hM.step p r g.w H.len h3 h4
    refine ⟨_, p, r, p', r', w', f t, h1, k1, by rw [pu_id]; exact H.gi.far (by rw [k2, H.len]) k3 hL, k2, fun u hu hut => (H.tt u hu).keep hM (.inr fun h => H.gi.excl hL (t := t) (u := u) (by omega) (by omega) (fun e => hut e.symm) h5 h), fun hp => .inr (.inr (.inl ⟨p', r', rfl, h2, hp, k4, h5⟩)), fun hp => .inl ⟨rfl, fun h => by dsimp only at h; omega, fun _ => h5⟩, fun h => absurd h2 h⟩
  · obtain ⟨p', r', w', x', k1, k2, k3, k4, k5⟩ := lea_step hL (by omega) H.gi h4 h3
    refine ⟨_, p, r, p', r', w', x', h1, k1, k2, by rw [k4]; exact H.len, fun u hu hut => (H.tt u hu).keep hM (.inl k5), fun hp => .inr (.inr (.inr ⟨p', r', rfl, h2, by rwa [leaC_len hL] at hp, k3⟩)), fun hp => ?_, fun _ => k5⟩
    rw [leaC_len hL] at hp
    subst hp
    have : Out x' := by
      generalize hq : lq L + 3 = q at k3
      have hlq : lq L = 3 ∨ lq L = 6 := by unfold lq; split <;> simp
      cases k3 with
      | fin r z => exact z
      | _ => omega
    exact .inl ⟨rfl, fun _ => this, fun h => by dsimp only at h; omega⟩
/-- Who has come in and not begun to go out is inside. -/
theorem J.inside (H : J L N n md A S sb g f) {x : Dg} (hx : x ∈ dgs g.out) (h3 : x.cl % 3 = 0) (he : x.e ≠ -1) (hz : ∀ z ∈ dgs g.out, z.th = x.th → z.cl ≠ x.cl + 2) : In L (f x.th) := by
  have h1 := H.hs.own x hx
  have h2 : (g.th x.th).bg ≤ x.cl + 2 := by
    refine Classical.byContradiction fun h => ?_
    obtain ⟨z, hz1, hz2, hz3⟩ := H.hs.all x.th (x.cl + 2) (by omega)
    exact hz z hz1 hz2 hz3
  have h4 : (g.th x.th).now ≠ none → x.cl + 1 ≠ (g.th x.th).bg := fun hn e => he ((H.hs.opn x hx).2 ⟨hn, e⟩)
  rcases H.tt x.th (H.th x hx) with ⟨_, _, h⟩ | ⟨p, r, q1, q2, _⟩ | ⟨p, r, q1, q2, _, _, h⟩ | ⟨p, r, q1, q2, _⟩
  · exact h (by omega)
  · have := h4 (by rw [q1]; simp); omega
  · exact h
  · have := h4 (by rw [q1]; simp); omega
theorem noErr_end {g : Gs} (h : noErr g) {w : List Int} {T : Nat → Td} {st n c : Nat} {to : List Int} : noErr ⟨w, T, g.out ++ [⟨st, n, c, true, 0, to⟩]⟩ := by
  intro x hx he
  rcases List.mem_append.1 hx with hx | hx
  · exact h x hx he
  · rw [List.mem_singleton.1 hx]
theorem j_exec (hL : okL L) (hM : MidOk (3 * L) N md A) (hnL : n ≤ L) (ht' : t < n) (H : J L N n md A S (S.length + 1) g f) : ∃ f', J L N n md A (S ++ [t]) (S.length + 1) (exG g S.length t) f' := by
  have hhs := hs_exec (n := t) H.hs
  have hlen : (S ++ [t]).length = S.length + 1 := by simp
  by_cases hnow : (g.th t).now = none
  · rw [exG_none hnow] at hhs ⊢
    exact ⟨f, H.gi, H.len, H.tt, by rw [hlen]; exact hhs, H.th, H.one, H.err⟩
  · obtain ⟨c, p, r, p', r', w', x', k1, k2, k3, k4, k5, k6, k7, _⟩ := t_step hL hM hnL ht' H hnow
    have hstep := exG_nx (st := S.length) k1 k2
    have hTT : ∀ td, TT L md A w' x' t td → ∀ u, u < n → TT L md A w' (pu f t x' u) u (putT g.th t td u) := fun td h u hu => by
      by_cases hut : u = t
      · subst hut; rw [pu_same, putT_same]; exact h
      · rw [pu_other _ _ hut, putT_other _ _ hut]; exact k5 u hu hut
    by_cases hp : p' = c.length
    · rw [if_pos hp] at hstep
      rw [hstep] at hhs ⊢
      obtain ⟨o, ho, o1, o2, o3, o4, o5, o6, o7⟩ := dgs_end (x := ⟨S.length, t, (g.th t).bg - 1, true, 0, []⟩) H.hs (n := t) hnow rfl rfl rfl
      have hbg := H.hs.ps t hnow
      have hzz : ∀ z ∈ dgs g.out, ∃ z' ∈ dgs (g.out ++ [⟨S.length, t, (g.th t).bg - 1, true, 0, []⟩]), z'.th = z.th ∧ z'.cl = z.cl ∧ z'.b = z.b := fun z hz => by
        by_cases hzo : z = o
        · subst hzo; exact ⟨_, o7, o1.symm, o2.symm, rfl⟩
        · exact ⟨z, o6 z hz hzo, rfl, rfl, rfl⟩
      refine ⟨pu f t x', k3, k4, hTT _ (k7 hp), by rw [hlen]; exact hhs, fun x hx => ?_, fun x hx y hy a1 a2 a3 a4 a5 a6 => ?_, noErr_end H.err⟩
      · rcases o5 x hx with ⟨h, _⟩ | rfl
        · exact H.th x h
        · exact ht'
      · rcases o5 x hx with ⟨hx1, _, _⟩ | rfl
        · rcases o5 y hy with ⟨hy1, _, _⟩ | rfl
          · obtain ⟨z, hz, z1, z2, z3⟩ := H.one x hx1 y hy1 a1 a2 a3 a4 a5 a6
            obtain ⟨z', hz', e1, e2, e3⟩ := hzz z hz
            exact ⟨z', hz', e1.trans z1, e2.trans z2, by rw [e3]; exact z3⟩
          · dsimp only at a3 a4 a5 a6 ⊢
            by_cases hz : ∃ z ∈ dgs g.out, z.th = x.th ∧ z.cl = x.cl + 2
            · obtain ⟨z, hz, z1, z2⟩ := hz
              obtain ⟨z', hz', e1, e2, e3⟩ := hzz z hz
              have := (H.hs.bnd z hz).1
              exact ⟨z', hz', e1.trans z1, e2.trans z2, by rw [e3]; omega⟩
            · exfalso
              have h1 := H.inside hx1 a1 a2 (fun z k z1 z2 => hz ⟨z, k, z1, z2⟩)
              have h2 : In L x' := by
                rcases k7 hp with ⟨_, _, h⟩ | ⟨_, _, h, _⟩ | ⟨_, _, h, _⟩ | ⟨_, _, h, _⟩
                · exact h (by dsimp only; omega)
                all_goals cases h
              have hxn := H.th x hx1
              refine k3.excl hL (t := t) (u := x.th) (by omega) (by omega) a5 (fun i hi => ?_) (fun i hi => ?_)
              · rw [pu_same]; exact h2 i hi
              · rw [pu_other _ _ (fun e => a5 e.symm)]; exact h1 i hi
        · rcases o5 y hy with ⟨hy1, _, _⟩ | rfl
          · have := (H.hs.bnd y hy1).2 a4
            dsimp only at a6
            omega
          · exact absurd rfl a5
    · rw [if_neg hp] at hstep
      rw [hstep] at hhs ⊢
      exact ⟨pu f t x', k3, k4, hTT _ (k6 hp), by rw [hlen]; exact hhs, H.th, H.one, H.err⟩
theorem j_zero (hm : Mok m L N n md) : J L N n md A [] 0 (g0 m) (fun _ _ => 0) := by
  refine ⟨⟨by show 3 * L ≤ m.ws.length; rw [hm.ws]; exact hm.wl, fun _ _ _ => ⟨by decide, fun _ => rfl⟩, fun t _ j h => by simp at h, fun t _ j _ h => by simp at h, fun t _ j _ h => by simp at h, fun t _ u _ _ j _ _ _ h => by simp at h⟩,
    hm.ws, fun t ht' => .inl ⟨rfl, fun _ _ => rfl, fun h => by simp [g0] at h⟩, hs_zero m, fun x hx => by simp [g0, dgs] at hx, fun x hx => by simp [g0, dgs] at hx, fun x hx => by simp [g0] at hx⟩
theorem j_run (hL : okL L) (hM : MidOk (3 * L) N md A) (hm : Mok m L N n md) (S : List Nat) (hS : ∀ t ∈ S, t < n) : ∃ f, J L N n md A S S.length (plyG m 0 S (g0 m)) f := by
  refine plyG_indS (I := fun S g => ∃ f, J L N n md A S S.length g f) (A := fun t => t < n) ⟨_, j_zero hm⟩ (fun S g t ht' ⟨f, H⟩ => ?_) S hS
  rw [actG_eq]
  obtain ⟨f', H'⟩ := j_exec hL hM hm.nL ht' (j_begin hL hM hm ht' H)
  refine ⟨f', ?_⟩
  rw [List.length_append, List.length_singleton]
  exact H'
end Go.Baro.Lok

set_option linter.unusedSimpArgs false
set_option linter.unusedVariables false
namespace Go.Baro.Lok
open Go.RowKit (wrap64)
theorem lv_okG (n : Nat) : okL (lv n) := by unfold okL lv; split <;> simp
theorem mid_add (lo : Nat) (hlo : lo < 1000) : MidOk lo (lo + 1) (Grd.addC lo) (fun p r _ => p ≤ 4 ∧ r 5 = 0) := by
  refine ⟨by rw [Grd.addC_len]; decide, fun r _ h => ⟨by omega, h 5⟩, fun p r w hw hp ⟨hA, h5⟩ => ?_, fun _ _ _ _ _ h => h⟩
  rw [Grd.addC_len] at hp
  have hq : wrap64 (r 5 + (lo : Int)) = (lo : Nat) := by rw [h5]; exact (wrap_id (by omega)).trans (by omega)
  rcases (by omega : p = 0 ∨ p = 1 ∨ p = 2 ∨ p = 3) with rfl | rfl | rfl | rfl
  · exact ⟨1, _, w, nx_set (by rfl), hw, fun _ _ => rfl, by omega, by rw [upd_other _ _ (by decide)]; exact h5⟩
  · exact ⟨2, _, w, nx_load (by rfl) hq (by omega), hw, fun _ _ => rfl, by omega, by rw [upd_other _ _ (by decide)]; exact h5⟩
  · exact ⟨3, _, w, nx_cmp (by rfl) (by decide), hw, fun _ _ => rfl, by omega, by rw [upd_other _ _ (by decide)]; exact h5⟩
  · exact ⟨4, _, _, nx_store (by rfl) hq (by omega), by simpa using hw, fun i hi => rd_other (by omega), by omega, h5⟩
theorem mok_guard {n : Nat} (h4 : n ≤ 4) : Mok (Grd.mGuard (wsL n) (entC (lv n)) (leaC (lv n)) n true) (lv n) (3 * lv n + 1) n (Grd.addC (3 * lv n)) := by
  have hlen : (wsL n).length = 3 * lv n := by simp [wsL]
  refine ⟨by simp [Grd.mGuard, hlen], by omega, by unfold lv; split <;> omega, by simp [Grd.mGuard, hlen], fun t ht i c hc => ?_⟩
  have : (Grd.mGuard (wsL n) (entC (lv n)) (leaC (lv n)) n true).ts[t]?.getD [] = Grd.gJ t true 6 := by simp [Grd.mGuard, ht]
  rw [this] at hc
  have := Grd.gJ_at hc
  simpa [Grd.gA] using this
theorem lock_guarded {n : Nat} (h4 : n ≤ 4) : Grd.Guarded (Grd.mGuard (wsL n) (entC (lv n)) (leaC (lv n)) n true) (3 * lv n) n := by
  have hlen : (wsL n).length = 3 * lv n := by simp [wsL]
  have hl4 : lv n ≤ 4 := by unfold lv; split <;> omega
  have hM := mid_add (3 * lv n) (by omega)
  have hm := mok_guard h4
  have hrun := fun S hS => j_run (lv_okG n) hM hm S hS
  have hin : ∀ S : List Nat, (∀ x ∈ S, x < n) → ∀ f, J (lv n) (3 * lv n + 1) n (Grd.addC (3 * lv n)) (fun p r _ => p ≤ 4 ∧ r 5 = 0) S S.length (plyG (Grd.mGuard (wsL n) (entC (lv n)) (leaC (lv n)) n true) 0 S (g0 (Grd.mGuard (wsL n) (entC (lv n)) (leaC (lv n)) n true))) f →
      ∀ t, t < n → Grd.inMid (plyG (Grd.mGuard (wsL n) (entC (lv n)) (leaC (lv n)) n true) 0 S (g0 (Grd.mGuard (wsL n) (entC (lv n)) (leaC (lv n)) n true))) t → In (lv n) (f t) := by
    intro S hS f H t ht hi
    rcases H.tt t ht with ⟨h, _⟩ | ⟨p, r, q1, q2, _⟩ | ⟨p, r, q1, q2, _, _, h⟩ | ⟨p, r, q1, q2, _⟩
    · exact absurd h hi.1
    · have := hi.2; omega
    · exact h
    · have := hi.2; omega
  refine ⟨by rw [hm.cs]; rfl, fun t ht i c hc hi => ((hm.calls t ht i c hc).2.1 hi), ?_, fun S hS => ?_, fun S hS t u ht hu hne h1 h2 => ?_, fun S hS t ht hno => ?_⟩
  · show rd (wsL n ++ [0]) (3 * lv n) = 0
    unfold rd
    rw [List.getElem?_append_right (by omega), hlen, Nat.sub_self]; rfl
  · obtain ⟨f, H⟩ := hrun S hS
    rw [H.len]; omega
  · obtain ⟨f, H⟩ := hrun S hS
    exact H.gi.excl (lv_okG n) (by have := hm.nL; omega) (by have := hm.nL; omega) hne (hin S hS f H t ht h1) (hin S hS f H u hu h2)
  · obtain ⟨f, H⟩ := hrun S hS
    have H' := j_begin (lv_okG n) hM hm ht H
    generalize hg : plyG (Grd.mGuard (wsL n) (entC (lv n)) (leaC (lv n)) n true) 0 S (g0 (Grd.mGuard (wsL n) (entC (lv n)) (leaC (lv n)) n true)) = g at *
    have e0 : (bgG (Grd.mGuard (wsL n) (entC (lv n)) (leaC (lv n)) n true) g S.length t).w = g.w := by
      rcases bgG_cases (Grd.mGuard (wsL n) (entC (lv n)) (leaC (lv n)) n true) g S.length t with ⟨k, _⟩ | ⟨c, k1, k2, k3⟩
      · rw [k]
      · rw [k3]
    rw [actG_eq, ← e0]
    generalize bgG (Grd.mGuard (wsL n) (entC (lv n)) (leaC (lv n)) n true) g S.length t = gb at *
    by_cases hnow : (gb.th t).now = none
    · rw [exG_none hnow]
    · obtain ⟨c, p, r, p', r', w', x', k1, k2, k3, k4, k5, k6, k7, k8⟩ := t_step (lv_okG n) hM hm.nL ht H' hnow
      have hs := exG_nx (st := S.length) k1 k2
      have hw := k8 (fun e => hno ⟨hnow, e⟩) (3 * lv n) (Nat.le_refl _)
      rw [hs]
      split <;> exact hw
end Go.Baro.Lok

set_option linter.unusedSimpArgs false
set_option linter.unusedVariables false
namespace Go.Baro

/-- A name. -/
abbrev Nm := List UInt8
/-- A builder: the code, the registers and the labels in the order of their names' first use, the jumps, whether a name was given twice. -/
structure Bs where
  code : List Ins
  regs : List (Nm × Int)
  labs : List (Nm × Int)
  jmps : List (Int × Nm)
  twice : Bool
def nmAsk : List (Nm × Int) → Nm → Option Int
  | [], _ => none
  | p :: ks, s => if p.1 = s then some p.2 else nmAsk ks s
theorem nmAsk_append (a b : List (Nm × Int)) (s : Nm) : nmAsk (a ++ b) s = (nmAsk a s).or (nmAsk b s) := by
  induction a with
  | nil => simp [nmAsk]
  | cons p a ih =>
    rw [List.cons_append, nmAsk, nmAsk]
    split
    · rfl
    · exact ih
/-- The number of a register; a new one is the next. -/
def Bs.rg (b : Bs) (s : Nm) : Bs × Int := match nmAsk b.regs s with
  | some v => (b, v)
  | none => ({ b with regs := b.regs ++ [(s, (b.regs.length : Int))] }, (b.regs.length : Int))
def Bs.put (b : Bs) (o : Ins) : Bs := { b with code := b.code ++ [o] }
def Bs.jmp (b : Bs) (l : Nm) : Bs := { b with jmps := b.jmps ++ [((b.code.length : Int), l)] }
def Bs.lab (b : Bs) (l : Nm) : Bs := { b with labs := b.labs ++ [(l, (b.code.length : Int))] }
def Bs.set (b : Bs) (to : Nm) (n : Int) : Bs := (b.rg to).1.put ⟨1, (b.rg to).2, n, 0, 0⟩
def Bs.two (b : Bs) (x y : Nm) : Bs × Int × Int := (((b.rg x).1.rg y).1, (b.rg x).2, ((b.rg x).1.rg y).2)
def Bs.three (b : Bs) (x y z : Nm) : Bs × Int × Int × Int := (((b.two x y).1.rg z).1, (b.two x y).2.1, (b.two x y).2.2, ((b.two x y).1.rg z).2)
def Bs.copy (b : Bs) (x y : Nm) : Bs := (b.two x y).1.put ⟨2, (b.two x y).2.1, (b.two x y).2.2, 0, 0⟩
def Bs.op3 (b : Bs) (k : Int) (x y z : Nm) : Bs := (b.three x y z).1.put ⟨k, (b.three x y z).2.1, (b.three x y z).2.2.1, (b.three x y z).2.2.2, 0⟩
def Bs.jump (b : Bs) (l : Nm) : Bs := (b.jmp l).put ⟨10, 0, 0, 0, 0⟩
def Bs.when (b : Bs) (r l : Nm) : Bs := ((b.jmp l).rg r).1.put ⟨11, ((b.jmp l).rg r).2, 0, 0, 0⟩
def Bs.unless (b : Bs) (r l : Nm) : Bs := ((b.jmp l).rg r).1.put ⟨12, ((b.jmp l).rg r).2, 0, 0, 0⟩
def Bs.load (b : Bs) (x y : Nm) (o : Int) : Bs := (b.two x y).1.put ⟨13, (b.two x y).2.1, (b.two x y).2.2, o, 0⟩
def Bs.store (b : Bs) (x y : Nm) (o : Int) : Bs := (b.two x y).1.put ⟨14, (b.two x y).2.1, (b.two x y).2.2, o, 0⟩
def Bs.cas (b : Bs) (x y : Nm) (o : Int) (z : Nm) : Bs := (b.three x y z).1.put ⟨15, (b.three x y z).2.1, (b.three x y z).2.2.1, o, (b.three x y z).2.2.2⟩
def Bs.emit1 (b : Bs) (x : Nm) : Bs := (b.rg x).1.put ⟨16, (b.rg x).2, 0, 0, 0⟩
def Bs.emit (b : Bs) (xs : List Nm) : Bs := xs.foldl Bs.emit1 b
def Bs.new (xs : List Nm) : Bs := xs.foldl (fun b x => (b.rg x).1) ⟨[], [], [], [], false⟩
/-- An instruction whose target is known. -/
def tgt (o : Ins) (v : Int) : Ins := if o.k = 10 then { o with a := v } else { o with b := v }
/-- The targets of the jumps are put in. -/
def rslv (labs : List (Nm × Int)) : List (Int × Nm) → List Ins → Option (List Ins)
  | [], c => some c
  | j :: js, c => match nmAsk labs j.2, c[j.1.toNat]? with
    | some v, some o => rslv labs js (c.set j.1.toNat (tgt o v))
    | _, _ => none
/-- The code, where nothing is wrong with it. -/
def Bs.fin (b : Bs) : Option (List Ins) := if b.twice = true then none else
  match rslv b.labs b.jmps b.code with
  | none => none
  | some c => if okC c then some c else none
theorem Bs.fin_some {b : Bs} {c : List Ins} (h : b.fin = some c) : b.twice = false ∧ rslv b.labs b.jmps b.code = some c ∧ okC c := by
  unfold Bs.fin at h
  by_cases ht : b.twice = true
  · rw [if_pos ht] at h; cases h
  · rw [if_neg ht] at h
    cases hr : rslv b.labs b.jmps b.code with
    | none => rw [hr] at h; cases h
    | some c' =>
      rw [hr] at h
      dsimp only at h
      split at h
      · cases h; exact ⟨by simpa using ht, rfl, by assumption⟩
      · cases h
theorem rslv_len (labs : List (Nm × Int)) : ∀ (js : List (Int × Nm)) (c c' : List Ins), rslv labs js c = some c' → c'.length = c.length
  | [], c, c', h => by cases h; rfl
  | j :: js, c, c', h => by
    unfold rslv at h
    split at h
    · rw [rslv_len labs js _ c' h]; simp
    · cases h
/-- A jump that is resolved. -/
theorem rslv_at (labs : List (Nm × Int)) {c' : List Ins} : ∀ (js : List (Int × Nm)) (c : List Ins), rslv labs js c = some c' → ∀ (i : Nat) (j : Int × Nm), js[i]? = some j → ∃ v o ci, nmAsk labs j.2 = some v ∧ rslv labs (js.drop i) ci = some c' ∧ rslv labs (js.take i) c = some ci ∧ ci[j.1.toNat]? = some o ∧ rslv labs (js.take (i + 1)) c = some (ci.set j.1.toNat (tgt o v)) ∧ rslv labs (js.drop (i + 1)) (ci.set j.1.toNat (tgt o v)) = some c'
  | [], c, h, i, j, hj => by simp at hj
  | k :: js, c, h, 0, j, hj => by
    simp at hj
    subst hj
    have h' := h
    unfold rslv at h
    cases ha : nmAsk labs k.2 with
    | none => simp [ha] at h
    | some v =>
      cases hc : c[k.1.toNat]? with
      | none => simp [ha, hc] at h
      | some o =>
        simp only [ha, hc] at h
        exact ⟨v, o, c, rfl, h', rfl, hc, by simp [rslv, ha, hc], by simpa using h⟩
  | k :: js, c, h, i + 1, j, hj => by
    unfold rslv at h
    cases ha : nmAsk labs k.2 with
    | none => simp [ha] at h
    | some v =>
      cases hc : c[k.1.toNat]? with
      | none => simp [ha, hc] at h
      | some o =>
        simp only [ha, hc] at h
        obtain ⟨v', o', ci, q1, q2, q3, q4, q5, q6⟩ := rslv_at labs js _ h i j (by simpa using hj)
        refine ⟨v', o', ci, q1, by simpa using q2, ?_, q4, ?_, by simpa using q6⟩
        · rw [List.take_succ_cons, rslv]
          simp only [ha, hc]
          exact q3
        · rw [List.take_succ_cons, rslv]
          simp only [ha, hc]
          exact q5
section
variable (b : Bs) (x y z l : Nm) (n k : Int)
theorem labs_rg : (b.rg x).1.labs = b.labs := by unfold Bs.rg; split <;> rfl
theorem labs_set : (b.set x n).labs = b.labs := labs_rg b x
theorem labs_two : (b.two x y).1.labs = b.labs := by unfold Bs.two; rw [labs_rg, labs_rg]
theorem labs_three : (b.three x y z).1.labs = b.labs := by unfold Bs.three; rw [labs_rg, labs_two]
theorem labs_copy : (b.copy x y).labs = b.labs := labs_two b x y
theorem labs_op3 : (b.op3 k x y z).labs = b.labs := labs_three b x y z
theorem labs_jump : (b.jump l).labs = b.labs := rfl
theorem labs_when : (b.when x l).labs = b.labs := labs_rg (b.jmp l) x
theorem labs_unless : (b.unless x l).labs = b.labs := labs_rg (b.jmp l) x
theorem labs_load : (b.load x y n).labs = b.labs := labs_two b x y
theorem labs_store : (b.store x y n).labs = b.labs := labs_two b x y
theorem labs_cas : (b.cas x y n z).labs = b.labs := labs_three b x y z
theorem nmAsk_lab {b : Bs} {l l' : Nm} (h : nmAsk b.labs l = none) (hne : l' ≠ l) : nmAsk (b.lab l').labs l = none := by
  unfold Bs.lab
  dsimp only
  rw [nmAsk_append, h]
  simp [nmAsk, hne]
theorem labs_fold {α : Type} {f : Bs → α → Bs} (h : ∀ b a, (f b a).labs = b.labs) : ∀ (l : List α) (b : Bs), (l.foldl f b).labs = b.labs
  | [], b => rfl
  | a :: l, b => by rw [List.foldl_cons, labs_fold h l, h]
theorem labs_new (xs : List Nm) : (Bs.new xs).labs = [] := labs_fold (f := fun b x => (b.rg x).1) (fun b a => labs_rg b a) xs _
end
end Go.Baro
