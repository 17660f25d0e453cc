/- Runs beside one another: with a greater limit, with other names of registers, with the words further on. No statement of the seat is proved here; no condition. -/
import Derived.Test.YtjihopbapnfppaaDoorVmPure
set_option linter.unusedSimpArgs false
set_option linter.unusedVariables false
namespace Go.Baro
open Go.RowKit (wrap64)

theorem stp_any {P : Vs × Int → Prop} {n : Nat} {o : Ins} {s : Vs} (h1 : ∀ q r, P (⟨q, r, s.w, s.t⟩, 0)) (h2 : ∀ q r i v, P (⟨q, r, s.w.set i v, s.t⟩, 0)) (h3 : ∀ q r, P (⟨q, r, s.w, s.t⟩, 2)) (h4 : ∀ q r v, P (⟨q, r, s.w, s.t ++ [v]⟩, 0)) (h5 : ∀ q r, P (⟨q, r, s.w, s.t⟩, 8)) : P (stp n o s) := by
  have hq : ∀ {b : Prop} [Decidable b] {x y : Vs × Int}, (b → P x) → (¬ b → P y) → P (if b then x else y) := by
    intro b _ x y hx hy
    by_cases hb : b
    · rw [if_pos hb]; exact hx hb
    · rw [if_neg hb]; exact hy hb
  unfold stp
  refine hq (fun _ => h1 _ _) fun _ => hq (fun _ => h1 _ _) fun _ => hq (fun _ => h1 _ _) fun _ => hq (fun _ => h1 _ _) fun _ => hq (fun _ => h1 _ _) fun _ => hq (fun _ => hq (fun _ => h3 _ _) fun _ => h1 _ _) fun _ => hq (fun _ => hq (fun _ => h3 _ _) fun _ => h2 _ _ _ _) fun _ =>
    hq (fun _ => hq (fun _ => h3 _ _) fun _ => hq (fun _ => h2 _ _ _ _) fun _ => h1 _ _) fun _ => hq (fun _ => hq (fun _ => h5 _ _) fun _ => h4 _ _ _) fun _ => hq (fun _ => h1 _ _) fun _ => h1 _ _
theorem stp_pre (n : Nat) (o : Ins) (s : Vs) : s.t <+: (stp n o s).1.t :=
  stp_any (P := fun x => s.t <+: x.1.t) (fun _ _ => List.prefix_refl _) (fun _ _ _ _ => List.prefix_refl _) (fun _ _ => List.prefix_refl _) (fun _ _ _ => List.prefix_append _ _) (fun _ _ => List.prefix_refl _)
theorem stp_err (n : Nat) (o : Ins) (s : Vs) : (stp n o s).2 = 0 ∨ (stp n o s).2 = 2 ∨ (stp n o s).2 = 8 :=
  stp_any (P := fun x => x.2 = 0 ∨ x.2 = 2 ∨ x.2 = 8) (by simp) (by simp) (by simp) (by simp) (by simp)

theorem rn_one (c : List Ins) (f : Nat) (s : Vs) (h : s.p ≠ c.length) : ∃ o, o = c[s.p.toNat]?.getD ⟨17, 0, 0, 0, 0⟩ ∧ ((stp c.length o s).2 ≠ 0 → rn c (f + 1) s = ((stp c.length o s).1, 1, (stp c.length o s).2)) ∧
    ((stp c.length o s).2 = 0 → rn c (f + 1) s = ((rn c f (stp c.length o s).1).1, (rn c f (stp c.length o s).1).2.1 + 1, (rn c f (stp c.length o s).1).2.2)) := by
  refine ⟨_, rfl, fun he => ?_, fun he => ?_⟩
  · rw [rn, if_neg h, if_pos he]
  · rw [rn, if_neg h, if_neg (by simpa using he)]

theorem rn_pre (c : List Ins) : ∀ (f : Nat) (s : Vs), s.t <+: (rn c f s).1.t
  | 0, s => by rw [rn]; split <;> exact List.prefix_refl _
  | f + 1, s => by
    by_cases h : s.p = c.length
    · rw [rn_end h]; exact List.prefix_refl _
    · obtain ⟨o, _, h1, h2⟩ := rn_one c f s h
      by_cases he : (stp c.length o s).2 = 0
      · rw [h2 he]; exact (stp_pre _ _ _).trans (rn_pre c f _)
      · rw [h1 he]; exact stp_pre _ _ _

/-- With a greater limit a run goes on where it was over. -/
theorem rn_mono (c : List Ins) : ∀ (f g : Nat) (s : Vs), f ≤ g → (rn c f s).1.t <+: (rn c g s).1.t ∧ (rn c f s).2.1 ≤ (rn c g s).2.1 ∧ (rn c f s).2.1 ≤ f ∧ ((rn c f s).2.2 = 11 → (rn c f s).2.1 = f) ∧ ((rn c f s).2.2 ≠ 11 → rn c f s = rn c g s)
  | 0, g, s, _ => by
    by_cases h : s.p = c.length
    · rw [rn_end h, rn_end h]; exact ⟨List.prefix_refl _, Nat.le_refl _, Nat.le_refl _, fun _ => rfl, fun _ => rfl⟩
    · rw [rn_over h]; exact ⟨rn_pre c g s, Nat.zero_le _, Nat.le_refl _, fun _ => rfl, fun h => absurd rfl h⟩
  | f + 1, 0, s, h => absurd h (by omega)
  | f + 1, g + 1, s, hfg => by
    by_cases h : s.p = c.length
    · rw [rn_end h, rn_end h]; exact ⟨List.prefix_refl _, Nat.le_refl _, Nat.zero_le _, fun h => absurd (show (0 : Int) = 11 from h) (by decide), fun _ => rfl⟩
    · obtain ⟨o, ho, h1, h2⟩ := rn_one c f s h
      obtain ⟨o', ho', h1', h2'⟩ := rn_one c g s h
      obtain rfl : o = o' := ho.trans ho'.symm
      by_cases he : (stp c.length o s).2 = 0
      · rw [h2 he, h2' he]
        obtain ⟨i1, i2, i3, i4, i5⟩ := rn_mono c f g (stp c.length o s).1 (by omega)
        refine ⟨i1, by dsimp only; omega, by dsimp only; omega, fun h => ?_, fun h => ?_⟩
        · have := i4 h; dsimp only; omega
        · rw [i5 h]
      · rw [h1 he, h1' he]
        refine ⟨List.prefix_refl _, Nat.le_refl _, by dsimp only; omega, fun h => ?_, fun _ => rfl⟩
        rcases stp_err c.length o s with h' | h' | h' <;> (dsimp only at h; omega)

/-- What every step keeps, a run keeps. -/
theorem rn_inv {c : List Ins} {I : Vs → Prop} {e : Int → Prop} (hs : ∀ s, I s → s.p ≠ c.length → I (stp c.length (c[s.p.toNat]?.getD ⟨17, 0, 0, 0, 0⟩) s).1 ∧ ((stp c.length (c[s.p.toNat]?.getD ⟨17, 0, 0, 0, 0⟩) s).2 ≠ 0 → e (stp c.length (c[s.p.toNat]?.getD ⟨17, 0, 0, 0, 0⟩) s).2)) :
    ∀ (f : Nat) (s : Vs), I s → I (rn c f s).1 ∧ ((rn c f s).2.2 = 0 ∨ (rn c f s).2.2 = 11 ∨ e (rn c f s).2.2)
  | 0, s, h => by
    by_cases hp : s.p = c.length
    · rw [rn_end hp]; exact ⟨h, .inl rfl⟩
    · rw [rn_over hp]; exact ⟨h, .inr (.inl rfl)⟩
  | f + 1, s, h => by
    by_cases hp : s.p = c.length
    · rw [rn_end hp]; exact ⟨h, .inl rfl⟩
    · obtain ⟨o, ho, h1, h2⟩ := rn_one c f s hp
      obtain ⟨i1, i2⟩ := hs s h hp
      rw [← ho] at i1 i2
      by_cases he : (stp c.length o s).2 = 0
      · rw [h2 he]; exact rn_inv hs f _ i1
      · rw [h1 he]; exact ⟨i1, .inr (.inr (i2 he))⟩

/-- Two codes whose steps go beside each other. -/
theorem rn_sim {c c' : List Ins} {R : Vs → Vs → Prop} (hl : c'.length = c.length) (hp : ∀ s s', R s s' → s'.p = s.p)
    (hs : ∀ s s', R s s' → s.p ≠ c.length → R (stp c.length (c[s.p.toNat]?.getD ⟨17, 0, 0, 0, 0⟩) s).1 (stp c.length (c'[s.p.toNat]?.getD ⟨17, 0, 0, 0, 0⟩) s').1 ∧ (stp c.length (c[s.p.toNat]?.getD ⟨17, 0, 0, 0, 0⟩) s).2 = (stp c.length (c'[s.p.toNat]?.getD ⟨17, 0, 0, 0, 0⟩) s').2) :
    ∀ (f : Nat) (s s' : Vs), R s s' → R (rn c f s).1 (rn c' f s').1 ∧ (rn c f s).2 = (rn c' f s').2
  | 0, s, s', h => by
    have hpp := hp s s' h
    by_cases hq : s.p = c.length
    · rw [rn_end hq, rn_end (by rw [hpp, hq, hl])]; exact ⟨h, rfl⟩
    · rw [rn_over hq, rn_over (by rw [hpp, hl]; exact hq)]; exact ⟨h, rfl⟩
  | f + 1, s, s', h => by
    have hpp := hp s s' h
    by_cases hq : s.p = c.length
    · rw [rn_end hq, rn_end (by rw [hpp, hq, hl])]; exact ⟨h, rfl⟩
    · obtain ⟨o, ho, h1, h2⟩ := rn_one c f s hq
      obtain ⟨o', ho', h1', h2'⟩ := rn_one c' f s' (by rw [hpp, hl]; exact hq)
      obtain ⟨i1, i2⟩ := hs s s' h hq
      rw [hpp] at ho'
      rw [hl] at h1' h2'
      rw [← ho, ← ho'] at i1 i2
      by_cases he : (stp c.length o s).2 = 0
      · rw [h2 he, h2' (i2 ▸ he)]
        obtain ⟨j1, j2⟩ := rn_sim hl hp hs f _ _ i1
        exact ⟨j1, by rw [j2]⟩
      · rw [h1 he, h1' (i2 ▸ he), i2]; exact ⟨i1, rfl⟩

/-- An instruction as it is drawn: of a code of m, over four registers and six words. -/
def kI (m : Nat) (x : Ins) : Ins :=
  if x.k % 17 = 0 then ⟨1, x.a % 4, x.b % 9 - 3, 0, 0⟩
  else if x.k % 17 = 1 then ⟨2, x.a % 4, x.b % 4, 0, 0⟩
  else if x.k % 17 = 9 then ⟨10, x.a % (m + 1 : Int), 0, 0, 0⟩
  else if x.k % 17 = 10 ∨ x.k % 17 = 11 then ⟨1 + x.k % 17, x.a % 4, x.b % (m + 1 : Int), 0, 0⟩
  else if x.k % 17 = 12 ∨ x.k % 17 = 13 then ⟨1 + x.k % 17, x.a % 4, 5, x.c % 6, 0⟩
  else if x.k % 17 = 14 then ⟨15, x.a % 4, 5, x.c % 6, x.d % 4⟩
  else if x.k % 17 = 15 then ⟨16, x.a % 4, 0, 0, 0⟩
  else if x.k % 17 = 16 then ⟨17, 0, 0, 0, 0⟩
  else ⟨1 + x.k % 17, x.a % 4, x.b % 4, x.c % 4, 0⟩
def kC (l : List Ins) : List Ins := (l.take 40).map (kI (min l.length 40))
theorem kC_len (l : List Ins) : (kC l).length = min l.length 40 := by simp [kC, Nat.min_comm]

def r4 (n : Int) : Prop := 0 ≤ n ∧ n < 4
/-- What a drawn instruction keeps to. -/
def shI (m : Nat) (o : Ins) : Prop :=
  (o.k = 1 ∧ r4 o.a ∧ (-3 ≤ o.b ∧ o.b ≤ 5) ∧ o.c = 0 ∧ o.d = 0) ∨ (o.k = 2 ∧ r4 o.a ∧ r4 o.b ∧ o.c = 0 ∧ o.d = 0) ∨ ((3 ≤ o.k ∧ o.k ≤ 9) ∧ r4 o.a ∧ r4 o.b ∧ r4 o.c ∧ o.d = 0) ∨
  (o.k = 10 ∧ (0 ≤ o.a ∧ o.a ≤ m) ∧ o.b = 0 ∧ o.c = 0 ∧ o.d = 0) ∨ ((o.k = 11 ∨ o.k = 12) ∧ r4 o.a ∧ (0 ≤ o.b ∧ o.b ≤ m) ∧ o.c = 0 ∧ o.d = 0) ∨ ((o.k = 13 ∨ o.k = 14) ∧ r4 o.a ∧ o.b = 5 ∧ (0 ≤ o.c ∧ o.c < 6) ∧ o.d = 0) ∨
  (o.k = 15 ∧ r4 o.a ∧ o.b = 5 ∧ (0 ≤ o.c ∧ o.c < 6) ∧ r4 o.d) ∨ (o.k = 16 ∧ r4 o.a ∧ o.b = 0 ∧ o.c = 0 ∧ o.d = 0) ∨ (o.k = 17 ∧ o.a = 0 ∧ o.b = 0 ∧ o.c = 0 ∧ o.d = 0)
theorem kI_sh (m : Nat) (x : Ins) : shI m (kI m x) := by
  have h1 : 0 ≤ x.k % 17 ∧ x.k % 17 < 17 := by omega
  have h2 : 0 ≤ x.a % 4 ∧ x.a % 4 < 4 := by omega
  have h3 : 0 ≤ x.b % 4 ∧ x.b % 4 < 4 := by omega
  have h4 : 0 ≤ x.c % 4 ∧ x.c % 4 < 4 := by omega
  have h5 : 0 ≤ x.d % 4 ∧ x.d % 4 < 4 := by omega
  have h6 : 0 ≤ x.b % 9 ∧ x.b % 9 < 9 := by omega
  have h7 : 0 ≤ x.c % 6 ∧ x.c % 6 < 6 := by omega
  have h8 : 0 ≤ x.a % (m + 1 : Int) ∧ x.a % (m + 1 : Int) < m + 1 := ⟨Int.emod_nonneg _ (by omega), Int.emod_lt_of_pos _ (by omega)⟩
  have h9 : 0 ≤ x.b % (m + 1 : Int) ∧ x.b % (m + 1 : Int) < m + 1 := ⟨Int.emod_nonneg _ (by omega), Int.emod_lt_of_pos _ (by omega)⟩
  have hq : ∀ {b : Prop} [Decidable b] {u v : Ins}, (b → shI m u) → (¬ b → shI m v) → shI m (if b then u else v) := by
    intro b _ u v hx hy
    by_cases hb : b
    · rw [if_pos hb]; exact hx hb
    · rw [if_neg hb]; exact hy hb
  unfold kI
  refine hq (fun _ => .inl ⟨rfl, h2, by dsimp only; omega, rfl, rfl⟩) fun e0 => ?_
  refine hq (fun _ => .inr (.inl ⟨rfl, h2, h3, rfl, rfl⟩)) fun e1 => ?_
  refine hq (fun _ => .inr (.inr (.inr (.inl ⟨rfl, by dsimp only; omega, rfl, rfl, rfl⟩)))) fun e9 => ?_
  refine hq (fun e => .inr (.inr (.inr (.inr (.inl ⟨by dsimp only; omega, h2, by dsimp only; omega, rfl, rfl⟩))))) fun e10 => ?_
  refine hq (fun e => .inr (.inr (.inr (.inr (.inr (.inl ⟨by dsimp only; omega, h2, rfl, h7, rfl⟩)))))) fun e12 => ?_
  refine hq (fun _ => .inr (.inr (.inr (.inr (.inr (.inr (.inl ⟨rfl, h2, rfl, h7, h5⟩))))))) fun e14 => ?_
  refine hq (fun _ => .inr (.inr (.inr (.inr (.inr (.inr (.inr (.inl ⟨rfl, h2, rfl, rfl, rfl⟩)))))))) fun e15 => ?_
  refine hq (fun _ => .inr (.inr (.inr (.inr (.inr (.inr (.inr (.inr ⟨rfl, rfl, rfl, rfl, rfl⟩)))))))) fun e16 => ?_
  exact .inr (.inr (.inl ⟨by dsimp only; omega, h2, h3, h4, rfl⟩))
theorem kC_sh {l : List Ins} {o : Ins} (h : o ∈ kC l) : shI (kC l).length o := by
  rw [kC_len]
  obtain ⟨x, _, rfl⟩ := List.mem_map.1 h
  exact kI_sh _ x
theorem r4_R {x : Int} (h : r4 x) : isR x := ⟨h.1, by have := h.2; omega⟩
theorem sh_ok {m : Nat} {o : Ins} (h : shI m o) : okI m o := by
  rcases h with ⟨h1, h2, h3, h4, h5⟩ | ⟨h1, h2, h3, h4, h5⟩ | ⟨h1, h2, h3, h4, h5⟩ | ⟨h1, h2, h3, h4, h5⟩ | ⟨h1, h2, h3, h4, h5⟩ | ⟨h1, h2, h3, h4, h5⟩ | ⟨h1, h2, h3, h4, h5⟩ | ⟨h1, h2, h3, h4, h5⟩ | ⟨h1, h2, h3, h4, h5⟩
  · exact .inl ⟨h1, r4_R h2, h4, h5⟩
  · exact .inr (.inl ⟨h1, r4_R h2, r4_R h3, h4, h5⟩)
  · exact .inr (.inr (.inl ⟨h1, r4_R h2, r4_R h3, r4_R h4, h5⟩))
  · exact .inr (.inr (.inr (.inl ⟨h1, h2, h3, h4, h5⟩)))
  · exact .inr (.inr (.inr (.inr (.inl ⟨h1, r4_R h2, h3, h4, h5⟩))))
  · exact .inr (.inr (.inr (.inr (.inr (.inl ⟨h1, r4_R h2, by rw [h3]; decide, h5⟩)))))
  · exact .inr (.inr (.inr (.inr (.inr (.inr (.inl ⟨h1, r4_R h2, by rw [h3]; decide, r4_R h5⟩))))))
  · exact .inr (.inr (.inr (.inr (.inr (.inr (.inr (.inl ⟨h1, r4_R h2, h3, h4, h5⟩)))))))
  · exact .inr (.inr (.inr (.inr (.inr (.inr (.inr (.inr ⟨h1, h2, h3, h4, h5⟩)))))))
theorem sh_in {m : Nat} {o : Ins} (hm : m ≤ 200) (h : shI m o) : inI o := by
  have hw : ∀ x : Int, -1000 ≤ x → x ≤ 1000 → inW x := fun x h1 h2 => by unfold inW; omega
  have hw4 : ∀ x : Int, r4 x → inW x := fun x h => by unfold r4 at h; exact hw x (by omega) (by omega)
  rcases h with ⟨h1, h2, h3, h4, h5⟩ | ⟨h1, h2, h3, h4, h5⟩ | ⟨h1, h2, h3, h4, h5⟩ | ⟨h1, h2, h3, h4, h5⟩ | ⟨h1, h2, h3, h4, h5⟩ | ⟨h1, h2, h3, h4, h5⟩ | ⟨h1, h2, h3, h4, h5⟩ | ⟨h1, h2, h3, h4, h5⟩ | ⟨h1, h2, h3, h4, h5⟩ <;>
    refine ⟨hw _ (by omega) (by omega), ?_, ?_, ?_, ?_⟩ <;> first | exact hw4 _ (by assumption) | exact hw _ (by omega) (by omega)
theorem kC_ok (l : List Ins) : okC (kC l) := ⟨by rw [kC_len]; omega, fun o ho => sh_ok (kC_sh ho)⟩
theorem kC_in (l : List Ins) : ∀ o ∈ kC l, inI o := fun o ho => sh_in (by rw [kC_len]; omega) (kC_sh ho)

/-- A code that is drawn, of at most N instructions. -/
def kN (N : Nat) (l : List Ins) : List Ins := (l.take N).map (kI (min l.length N))
theorem kN_kC (l : List Ins) : kN 40 l = kC l := rfl
theorem kN_len (N : Nat) (l : List Ins) : (kN N l).length = min l.length N := by simp [kN, Nat.min_comm]
theorem kN_sh {N : Nat} {l : List Ins} {o : Ins} (h : o ∈ kN N l) : shI (kN N l).length o := by
  rw [kN_len]
  obtain ⟨x, _, rfl⟩ := List.mem_map.1 h
  exact kI_sh _ x
theorem kN_ok {N : Nat} (hN : N ≤ 200) (l : List Ins) : okC (kN N l) := ⟨by rw [kN_len]; omega, fun o ho => sh_ok (kN_sh ho)⟩
theorem kN_in {N : Nat} (hN : N ≤ 200) (l : List Ins) : ∀ o ∈ kN N l, inI o := fun o ho => sh_in (by rw [kN_len]; omega) (kN_sh ho)
end Go.Baro
