/- Of this claim's own texts these, one behind the other: CellAlg3, CellAlg4, CellAlg5, CellAlg6. No statement of the seat is proved here; no condition but those that stand at the theorems. -/
import Derived.Test.YtnchgdjdfhfedaaGreatDoorPartAL
set_option linter.unusedSimpArgs false
set_option linter.unusedVariables false
namespace Go.Baro.Cel
open Go.RowKit (wrap64)

/-- Who is at the seats, and how far the readers have come. -/
structure GI (w : List Int) (g : Gh) : Prop where
  own0 : ∀ s, s < 4 → (rd w (2 + s) = 0 ↔ g.own s = 0)
  rng : ∀ s, g.own s ≤ 3
  posn : ∀ s, s < 4 → g.own s ≠ 0 → g.pos (g.own s) = s
  le2 : g.pos 1 ≤ 2 ∧ g.pos 2 ≤ 2 ∧ g.pos 3 ≤ 2
  all : ¬ (1 ≤ g.pos 1 ∧ 1 ≤ g.pos 2 ∧ 1 ≤ g.pos 3)
  two : ¬ (2 ≤ g.pos 1 ∧ 2 ≤ g.pos 2) ∧ ¬ (2 ≤ g.pos 1 ∧ 2 ≤ g.pos 3) ∧ ¬ (2 ≤ g.pos 2 ∧ 2 ≤ g.pos 3)
  lov : ∀ t, g.lo t ≤ g.V
  out : ∀ s, 4 ≤ s → g.own s = 0
def No (g : Gh) (t : Nat) : Prop := ∀ s, g.own s ≠ t
/-- At a seat: no copy has been taken yet, or one has been given. -/
def Hl (d : Nat) (w : List Int) (g : Gh) (s lo : Nat) : Prop := rd w (2 + s) = 1 ∨ Giv d w g s lo
/-- The same of who has looked which copy is current. -/
def Saw (d : Nat) (w : List Int) (g : Gh) (s j lo : Nat) : Prop := (rd w (2 + s) = 1 ∧ Sk g s j ∧ lo ≤ g.con j) ∨ Giv d w g s lo
/-- A Get of thread t, instruction by instruction; k: the steps that it has taken. -/
inductive RA (d : Nat) (val : Nat → Nat → Int) (w : List Int) (g : Gh) (t k : Nat) : Nat → (Int → Int) → List Int → Prop
  | start (r : Int → Int) (K : k = 0) (z : ∀ i, r i = 0) (P : g.pos t = 0) (N : No g t) : RA d val w g t k 0 r []
  | go (s : Nat) (r : Int → Int) (hs : s ≤ 2) (K : k ≤ 1 + 6 * s) (r0 : r 0 = 0) (r5 : r 5 = 0) (r2 : r 2 = s) (P : g.pos t = s) (N : No g t) : RA d val w g t k 1 r []
  | try (s : Nat) (r : Int → Int) (hs : s ≤ 2) (K : k ≤ 2 + 6 * s) (r0 : r 0 = 0) (r5 : r 5 = 0) (r2 : r 2 = s) (P : g.pos t = s) (N : No g t) (r1 : r 1 = 1) : RA d val w g t k 2 r []
  | won (s : Nat) (r : Int → Int) (hs : s ≤ 2) (K : k ≤ 3 + 6 * s) (r5 : r 5 = 0) (r2 : r 2 = s) (O : g.own s = t) (r1 : r 1 = 1) (H : Hl d w g s (g.lo t)) : RA d val w g t k 3 r []
  | lost (s : Nat) (r : Int → Int) (hs : s + 1 ≤ 2) (K : k ≤ 3 + 6 * s) (r0 : r 0 = 0) (r5 : r 5 = 0) (r2 : r 2 = s) (r1 : r 1 = 0) (P : g.pos t = s + 1) (N : No g t) : RA d val w g t k 3 r []
  | los1 (s : Nat) (r : Int → Int) (hs : s + 1 ≤ 2) (K : k ≤ 4 + 6 * s) (r0 : r 0 = 0) (r5 : r 5 = 0) (r2 : r 2 = s) (P : g.pos t = s + 1) (N : No g t) : RA d val w g t k 4 r []
  | los2 (s : Nat) (r : Int → Int) (hs : s + 1 ≤ 2) (K : k ≤ 5 + 6 * s) (r0 : r 0 = 0) (r5 : r 5 = 0) (r2 : r 2 = s) (r3 : r 3 = 1) (P : g.pos t = s + 1) (N : No g t) : RA d val w g t k 5 r []
  | los3 (s : Nat) (r : Int → Int) (hs : s + 1 ≤ 2) (K : k ≤ 6 + 6 * s) (r0 : r 0 = 0) (r5 : r 5 = 0) (r2 : r 2 = (s : Int) + 1) (P : g.pos t = s + 1) (N : No g t) : RA d val w g t k 6 r []
  | sat (s : Nat) (r : Int → Int) (hs : s ≤ 2) (K : k ≤ 16) (r5 : r 5 = 0) (r2 : r 2 = s) (O : g.own s = t) (H : Hl d w g s (g.lo t)) : RA d val w g t k 7 r []
  | saw (s j : Nat) (r : Int → Int) (hs : s ≤ 2) (K : k ≤ 17) (r2 : r 2 = s) (O : g.own s = t) (hj : j < 5) (C : r 4 = (ad d j : Int) - 7) (W : Saw d w g s j (g.lo t)) : RA d val w g t k 8 r []
  | sawF (s j : Nat) (r : Int → Int) (hs : s ≤ 2) (K : k ≤ 18) (r2 : r 2 = s) (O : g.own s = t) (hj : j < 5) (C : r 4 = (ad d j : Int) - 7) (F : r 6 = 7) (W : Saw d w g s j (g.lo t)) : RA d val w g t k 9 r []
  | sawA (s j : Nat) (r : Int → Int) (hs : s ≤ 2) (K : k ≤ 19) (r2 : r 2 = s) (O : g.own s = t) (hj : j < 5) (C : r 4 = (ad d j : Int)) (W : Saw d w g s j (g.lo t)) : RA d val w g t k 10 r []
  | sawK (s j : Nat) (r : Int → Int) (hs : s ≤ 2) (K : k ≤ 20) (r2 : r 2 = s) (O : g.own s = t) (hj : j < 5) (C : r 4 = (ad d j : Int)) (L : r 7 = 1) (W : Saw d w g s j (g.lo t)) : RA d val w g t k 11 r []
  | got (s : Nat) (r : Int → Int) (hs : s ≤ 2) (K : k ≤ 21) (r2 : r 2 = s) (O : g.own s = t) (W : Giv d w g s (g.lo t)) : RA d val w g t k 12 r []
  | read (i s j : Nat) (r : Int → Int) (hi : i ≤ d) (hs : s ≤ 2) (K : k ≤ 22 + i) (r2 : r 2 = s) (O : g.own s = t) (hj : j < 5) (ht : j ≠ g.tg) (sv : rd w (2 + s) = (ad d j : Int)) (l : g.lo t ≤ g.con j) (u : g.con j ≤ g.V) (C : r 4 = (ad d j : Int))
      (rv : ∀ q : Nat, q < i → r (8 + q) = val (g.con j) q) : RA d val w g t k (13 + i) r []
  | free (s v : Nat) (r : Int → Int) (hs : s ≤ 2) (K : k ≤ 23 + d) (r0 : r 0 = 0) (r2 : r 2 = s) (O : g.own s = t) (l : g.lo t ≤ v) (u : v ≤ g.V) (rv : ∀ q : Nat, q < d → r (8 + q) = val v q) : RA d val w g t k (14 + d) r []
  | emit (i v : Nat) (r : Int → Int) (hi : i ≤ d) (K : k ≤ 24 + d + i) (P : g.pos t = 0) (N : No g t) (l : g.lo t ≤ v) (u : v ≤ g.V) (rv : ∀ q : Nat, q < d → r (8 + q) = val v q) : RA d val w g t k (15 + d + i) r ((List.range i).map fun q => val v q)

variable {d : Nat} {val : Nat → Nat → Int} {w w' : List Int} {g g' : Gh} {b k t : Nat} {r : Int → Int} {l : List Int}

theorem rg_refl (g' : Gh) (hw : g' = g) : RG d t w g w g' := by
  subst hw
  exact ⟨rfl, ⟨rfl, rfl, rfl, rfl, rfl, rfl⟩, fun _ _ => rfl, fun _ _ => .inl rfl, fun _ _ _ _ => ⟨rfl, rfl⟩, fun _ => .inl rfl, fun _ _ => ⟨rfl, rfl⟩⟩
theorem Sk.le (h : SI d val w g) {s j : Nat} (hs : Sk g s j) : j < 5 ∧ j ≠ g.tg ∧ g.con j ≤ g.V := by
  obtain ⟨h5, h | ⟨h1, h2, h3⟩⟩ := hs
  · subst h; exact ⟨h5, h_tc h, Nat.le_of_eq h.con⟩
  · subst h3
    obtain ⟨p1, p2, p3⟩ := h.pv h2
    exact ⟨h5, by omega, by omega⟩
where h_tc (h : SI d val w g) : g.cu ≠ g.tg := h.tc.symm
/-- A seat is written. -/
theorem SI.seat (h : SI d val w g) {s : Nat} (hs : s ≤ 2) {v : Int} (hv : v = 0 ∨ v = 1 ∨ ∃ j, j < 5 ∧ j ≠ g.tg ∧ g.con j ≤ g.V ∧ v = (ad d j : Int)) {g' : Gh} (he : g'.V = g.V ∧ g'.cu = g.cu ∧ g'.pr = g.pr ∧ g'.con = g.con ∧ g'.tg = g.tg ∧ g'.gp = g.gp) : SI d val (w.set (2 + s) v) g' := by
  obtain ⟨e1, e2, e3, e4, e5, e6⟩ := he
  have hll := h.ll
  refine ⟨by simp; exact h.len, by rw [e2]; exact h.cu, by rw [rd_other (by omega), e2]; exact h.cw, by rw [e4, e2, e1]; exact h.con, by rw [e5, e2]; exact h.tc, fun j hj ht q hq => ?_, by rw [e6, e3, e5, e4, e1]; exact h.pv, fun i h4 => ?_, by rw [rd_other (by omega)]; exact h.s3⟩
  · rw [rd_other (by have := ad_low d j; omega), e4]
    rw [e5] at ht
    exact h.num j hj ht q hq
  · rw [e4, e5, e1]
    by_cases hi : i = s
    · subst hi; rw [rd_same (by omega)]; exact hv
    · rw [rd_other (by omega)]; exact h.st i h4
theorem get_step (h1 : 1 ≤ d) (h6 : d ≤ 6) (ht : 1 ≤ t ∧ t ≤ 3) (hI : SI d val w g) (hG : GI w g) {p : Nat} (h : RA d val w g t k p r l) (hp : p ≠ 15 + 2 * d) :
    ∃ p' r' l' w' g', Nx (getC d) p r l w p' r' l' w' ∧ SI d val w' g' ∧ GI w' g' ∧ RA d val w' g' t (k + 1) p' r' l' ∧ g'.lo = g.lo ∧ RG d t w g w' g' := by
  have hll := hI.ll
  have hq0 : RG d t w g w g := rg_refl g rfl
  cases h with
  | start r K z P N => exact ⟨1, _, [], w, g, nx_set (get_pre (o := ⟨1, 0, 0, 0, 0⟩) rfl), hI, hG, .go 0 _ (by omega) (by omega) (upd_same _ _ _) (by rw [upd_other _ _ (by omega)]; exact z 5) (by rw [upd_other _ _ (by omega)]; exact z 2) P N, rfl, hq0⟩
  | go s r hs K r0 r5 r2 P N => exact ⟨2, _, [], w, g, nx_set (get_pre (o := ⟨1, 1, 1, 0, 0⟩) rfl), hI, hG, .try s _ hs (by omega) (by rw [upd_other _ _ (by omega)]; exact r0) (by rw [upd_other _ _ (by omega)]; exact r5) (by rw [upd_other _ _ (by omega)]; exact r2) P N (upd_same _ _ _), rfl, hq0⟩
  | «try» s r hs K r0 r5 r2 P N r1 =>
    have hwq : wrap64 (r 2 + 2) = (2 + s : Nat) := by rw [r2, wrap_id (by omega)]; omega
    have hins : (getC d)[2]? = some ⟨15, 1, 2, 2, 0⟩ := get_pre rfl
    by_cases hz : rd w (2 + s) = 0
    · have ho : g.own s = 0 := (hG.own0 s (by omega)).1 hz
      refine ⟨3, _, [], w.set (2 + s) (r 1), { g with own := upN g.own s t }, nx_casT (q := 2 + s) hins hwq (by omega) (by rw [r0]; exact hz), hI.seat hs (.inr (.inl r1)) ⟨rfl, rfl, rfl, rfl, rfl, rfl⟩, ?_, .won s _ hs (by omega) (by rw [upd_other _ _ (by omega)]; exact r5) (by rw [upd_other _ _ (by omega)]; exact r2) (upN_same _ _ _) (upd_same _ _ _) (.inl (by rw [rd_same (by omega)]; exact r1)), rfl, ?_⟩
      · refine ⟨fun i h4 => ?_, fun i => ?_, fun i h4 hn => ?_, hG.le2, hG.all, hG.two, hG.lov, fun i h4 => by dsimp only; rw [upN_other _ _ (by omega)]; exact hG.out i h4⟩
        · dsimp only
          by_cases hi : i = s
          · subst hi; rw [rd_same (by omega), upN_same, r1]; omega
          · rw [rd_other (by omega), upN_other _ _ hi]; exact hG.own0 i h4
        · dsimp only
          by_cases hi : i = s
          · subst hi; rw [upN_same]; omega
          · rw [upN_other _ _ hi]; exact hG.rng i
        · dsimp only at hn ⊢
          by_cases hi : i = s
          · subst hi; rw [upN_same]; exact P
          · rw [upN_other _ _ hi] at hn ⊢; exact hG.posn i h4 hn
      · refine ⟨by simp, ⟨rfl, rfl, rfl, rfl, rfl, rfl⟩, fun n hn => rd_other (by omega), fun i h4 => ?_, fun i h4 hn1 hn2 => ?_, fun i => ?_, fun _ _ => ⟨rfl, rfl⟩⟩
        · by_cases hi : i = s
          · subst hi; rw [rd_same (by omega)]; exact .inr (.inr (.inl r1))
          · exact .inl (rd_other (by omega))
        · have hi : i ≠ s := by rintro rfl; exact hn1 ho
          exact ⟨rd_other (by omega), upN_other _ _ hi⟩
        · dsimp only
          by_cases hi : i = s
          · subst hi; rw [upN_same]; exact .inr (.inr rfl)
          · exact .inl (upN_other _ _ hi)
    · have ho : g.own s ≠ 0 := fun e => hz ((hG.own0 s (by omega)).2 e)
      have hpo := hG.posn s (by omega) ho
      have hot := N s
      have hr := hG.rng s
      generalize hu : g.own s = u at ho hpo hot hr
      have hle := hG.le2
      have hall := hG.all
      have htwo := hG.two
      have hkey : s + 1 ≤ 2 ∧ (upN g.pos t (s + 1) 1 ≤ 2 ∧ upN g.pos t (s + 1) 2 ≤ 2 ∧ upN g.pos t (s + 1) 3 ≤ 2) ∧ ¬ (1 ≤ upN g.pos t (s + 1) 1 ∧ 1 ≤ upN g.pos t (s + 1) 2 ∧ 1 ≤ upN g.pos t (s + 1) 3) ∧
          ¬ (2 ≤ upN g.pos t (s + 1) 1 ∧ 2 ≤ upN g.pos t (s + 1) 2) ∧ ¬ (2 ≤ upN g.pos t (s + 1) 1 ∧ 2 ≤ upN g.pos t (s + 1) 3) ∧ ¬ (2 ≤ upN g.pos t (s + 1) 2 ∧ 2 ≤ upN g.pos t (s + 1) 3) := by
        unfold upN
        rcases (by omega : t = 1 ∨ t = 2 ∨ t = 3) with rfl | rfl | rfl <;> rcases (by omega : u = 1 ∨ u = 2 ∨ u = 3) with rfl | rfl | rfl <;> simp at hot ⊢ <;> omega
      refine ⟨3, _, [], w, { g with pos := upN g.pos t (s + 1) }, nx_casF (q := 2 + s) hins hwq (by omega) (by rw [r0]; exact hz), ⟨hI.len, hI.cu, hI.cw, hI.con, hI.tc, hI.num, hI.pv, hI.st, hI.s3⟩, ⟨hG.own0, hG.rng, fun i h4 hn => ?_, hkey.2.1, hkey.2.2.1, hkey.2.2.2, hG.lov, hG.out⟩,
        .lost s _ hkey.1 (by omega) (by rw [upd_other _ _ (by omega)]; exact r0) (by rw [upd_other _ _ (by omega)]; exact r5) (by rw [upd_other _ _ (by omega)]; exact r2) (upd_same _ _ _) (upN_same _ _ _) N, rfl, ?_⟩
      · dsimp only at hn ⊢
        rw [upN_other _ _ (N i)]; exact hG.posn i h4 hn
      · exact ⟨rfl, ⟨rfl, rfl, rfl, rfl, rfl, rfl⟩, fun _ _ => rfl, fun _ _ => .inl rfl, fun _ _ _ _ => ⟨rfl, rfl⟩, fun _ => .inl rfl, fun _ hu => ⟨upN_other _ _ hu, rfl⟩⟩
  | won s r hs K r5 r2 O r1 H => exact ⟨7, _, [], w, g, nx_whenN (q := 7) (get_pre (o := ⟨11, 1, 7, 0, 0⟩) rfl) (by rw [r1]; omega), hI, hG, .sat s _ hs (by omega) r5 r2 O H, rfl, hq0⟩
  | lost s r hs K r0 r5 r2 r1 P N => exact ⟨4, _, [], w, g, nx_whenZ (get_pre (o := ⟨11, 1, 7, 0, 0⟩) rfl) r1, hI, hG, .los1 s _ hs (by omega) r0 r5 r2 P N, rfl, hq0⟩
  | los1 s r hs K r0 r5 r2 P N => exact ⟨5, _, [], w, g, nx_set (get_pre (o := ⟨1, 3, 1, 0, 0⟩) rfl), hI, hG, .los2 s _ hs (by omega) (by rw [upd_other _ _ (by omega)]; exact r0) (by rw [upd_other _ _ (by omega)]; exact r5) (by rw [upd_other _ _ (by omega)]; exact r2) (upd_same _ _ _) P N, rfl, hq0⟩
  | los2 s r hs K r0 r5 r2 r3 P N => exact ⟨6, _, [], w, g, nx_add (v := (s : Int) + 1) (get_pre (o := ⟨3, 2, 2, 3, 0⟩) rfl) (by rw [r2, r3]; exact wrap_id (by omega)), hI, hG, .los3 s _ hs (by omega) (by rw [upd_other _ _ (by omega)]; exact r0) (by rw [upd_other _ _ (by omega)]; exact r5) (upd_same _ _ _) P N, rfl, hq0⟩
  | los3 s r hs K r0 r5 r2 P N => exact ⟨1, _, [], w, g, nx_jump (q := 1) (get_pre (o := ⟨10, 1, 0, 0, 0⟩) rfl), hI, hG, .go (s + 1) _ hs (by omega) r0 r5 (by rw [r2]; rfl) P N, rfl, hq0⟩
  | sat s r hs K r5 r2 O H =>
    refine ⟨8, _, [], w, g, nx_load (q := 6) (get_pre (o := ⟨13, 4, 5, 6, 0⟩) rfl) (by rw [r5]; exact wrap_id (by omega)) (by omega), hI, hG, .saw s g.cu _ hs (by omega) (by rw [upd_other _ _ (by omega)]; exact r2) O hI.cu (by rw [upd_same]; exact hI.cw) ?_, rfl, hq0⟩
    rcases H with h | h
    · exact .inl ⟨h, ⟨hI.cu, .inl rfl⟩, by rw [hI.con]; exact hG.lov t⟩
    · exact .inr h
  | saw s j r hs K r2 O hj C W => exact ⟨9, _, [], w, g, nx_set (get_pre (o := ⟨1, 6, 7, 0, 0⟩) rfl), hI, hG, .sawF s j _ hs (by omega) (by rw [upd_other _ _ (by omega)]; exact r2) O hj (by rw [upd_other _ _ (by omega)]; exact C) (upd_same _ _ _) W, rfl, hq0⟩
  | sawF s j r hs K r2 O hj C F W =>
    have hle := ad_le (d := d) h6 hj
    have hlo := ad_low d j
    exact ⟨10, _, [], w, g, nx_add (v := (ad d j : Int)) (get_pre (o := ⟨3, 4, 4, 6, 0⟩) rfl) (by rw [C, F, wrap_id (by omega)]; omega), hI, hG, .sawA s j _ hs (by omega) (by rw [upd_other _ _ (by omega)]; exact r2) O hj (upd_same _ _ _) W, rfl, hq0⟩
  | sawA s j r hs K r2 O hj C W => exact ⟨11, _, [], w, g, nx_set (get_pre (o := ⟨1, 7, 1, 0, 0⟩) rfl), hI, hG, .sawK s j _ hs (by omega) (by rw [upd_other _ _ (by omega)]; exact r2) O hj (by rw [upd_other _ _ (by omega)]; exact C) (upd_same _ _ _) W, rfl, hq0⟩
  | sawK s j r hs K r2 O hj C L W =>
    have hwq : wrap64 (r 2 + 2) = (2 + s : Nat) := by rw [r2, wrap_id (by omega)]; omega
    have hins : (getC d)[11]? = some ⟨15, 4, 2, 2, 7⟩ := get_pre rfl
    have hos : g.own s ≠ 0 := by omega
    by_cases hone : rd w (2 + s) = 1
    · rcases W with ⟨_, hsk, hlo⟩ | ⟨q, _, _, hv, _⟩
      · obtain ⟨q1, q2, q3⟩ := hsk.le hI
        have hne : r 4 ≠ 0 := by have := ad_low d j; omega
        refine ⟨12, _, [], w.set (2 + s) (r 4), g, nx_casT (q := 2 + s) hins hwq (by omega) (by rw [L]; exact hone), hI.seat hs (.inr (.inr ⟨j, hj, q2, q3, C⟩)) ⟨rfl, rfl, rfl, rfl, rfl, rfl⟩, ⟨fun i h4 => ?_, hG.rng, hG.posn, hG.le2, hG.all, hG.two, hG.lov, hG.out⟩,
          .got s _ hs (by omega) (by rw [upd_other _ _ (by omega)]; exact r2) O ⟨j, hj, q2, by rw [rd_same (by omega)]; exact C, hlo, q3⟩, rfl, ⟨by simp, ⟨rfl, rfl, rfl, rfl, rfl, rfl⟩, fun n hn => rd_other (by omega), fun i h4 => ?_, fun i h4 hn1 hn2 => ?_, fun _ => .inl rfl, fun _ _ => ⟨rfl, rfl⟩⟩⟩
        · by_cases hi : i = s
          · subst hi; rw [rd_same (by omega)]; exact ⟨fun h => absurd h hne, fun h => absurd h hos⟩
          · rw [rd_other (by omega)]; exact hG.own0 i h4
        · by_cases hi : i = s
          · subst hi; rw [rd_same (by omega)]; exact .inr (.inr (.inr ⟨hone, j, hsk, C⟩))
          · exact .inl (rd_other (by omega))
        · exact ⟨rd_other (by rintro e; exact hn2 (by rw [show i = s by omega]; exact O)), rfl⟩
      · have := ad_low d q; omega
    · refine ⟨12, _, [], w, g, nx_casF (q := 2 + s) hins hwq (by omega) (by rw [L]; exact hone), hI, hG, .got s _ hs (by omega) (by rw [upd_other _ _ (by omega)]; exact r2) O ?_, rfl, hq0⟩
      rcases W with ⟨h, _⟩ | h
      · exact absurd h hone
      · exact h
  | got s r hs K r2 O W =>
    obtain ⟨j, hj, htg, hv, hlo, hV⟩ := W
    have hwq : wrap64 (r 2 + 2) = (2 + s : Nat) := by rw [r2, wrap_id (by omega)]; omega
    exact ⟨13 + 0, _, [], w, g, nx_load (q := 2 + s) (get_pre (o := ⟨13, 4, 2, 2, 0⟩) rfl) hwq (by omega), hI, hG, .read 0 s j _ (by omega) hs (by omega) (by rw [upd_other _ _ (by omega)]; exact r2) O hj htg hv hlo hV (by rw [upd_same]; exact hv) (fun q hq => by omega), rfl, hq0⟩
  | read i s j r hi hs K r2 O hj htg sv lo u C rv =>
    by_cases hid : i < d
    · have hal := hI.al hj
      have hle := ad_le (d := d) h6 hj
      have hlow := ad_low d j
      refine ⟨13 + (i + 1), _, [], w, g, nx_load (q := ad d j + (1 + i)) (get_mid hid) (by rw [C, wrap_id (by omega)]; omega) (by omega), hI, hG, .read (i + 1) s j _ (by omega) hs (by omega) (by rw [upd_other _ _ (by omega)]; exact r2) O hj htg sv lo u (by rw [upd_other _ _ (by omega)]; exact C) (fun q hq => ?_), rfl, hq0⟩
      by_cases hqi : q = i
      · subst hqi; rw [upd_same]; exact hI.num j hj htg q hid
      · rw [upd_other _ _ (by omega)]; exact rv q (by omega)
    · obtain rfl : i = d := by omega
      exact ⟨14 + i, _, [], w, g, by rw [show 14 + i = 13 + i + 1 by omega]; exact nx_set (get_post (i := 0) (o := ⟨1, 0, 0, 0, 0⟩) (by omega) rfl), hI, hG, .free s (g.con j) _ hs (by omega) (upd_same _ _ _) (by rw [upd_other _ _ (by omega)]; exact r2) O lo u (fun q hq => by rw [upd_other _ _ (by omega)]; exact rv q hq), rfl, hq0⟩
  | free s v r hs K r0 r2 O lo u rv =>
    have hwq : wrap64 (r 2 + 2) = (2 + s : Nat) := by rw [r2, wrap_id (by omega)]; omega
    have hle := hG.le2
    have hall := hG.all
    have htwo := hG.two
    have hkey : (upN g.pos t 0 1 ≤ 2 ∧ upN g.pos t 0 2 ≤ 2 ∧ upN g.pos t 0 3 ≤ 2) ∧ ¬ (1 ≤ upN g.pos t 0 1 ∧ 1 ≤ upN g.pos t 0 2 ∧ 1 ≤ upN g.pos t 0 3) ∧
        ¬ (2 ≤ upN g.pos t 0 1 ∧ 2 ≤ upN g.pos t 0 2) ∧ ¬ (2 ≤ upN g.pos t 0 1 ∧ 2 ≤ upN g.pos t 0 3) ∧ ¬ (2 ≤ upN g.pos t 0 2 ∧ 2 ≤ upN g.pos t 0 3) := by
      unfold upN
      rcases (by omega : t = 1 ∨ t = 2 ∨ t = 3) with rfl | rfl | rfl <;> simp <;> omega
    have hone : ∀ i, i < 4 → i ≠ s → g.own i ≠ t := fun i h4 hi e => by
      have h1 := hG.posn i h4 (by omega)
      have h2 := hG.posn s (by omega) (by omega)
      rw [e] at h1; rw [O] at h2; omega
    refine ⟨15 + d + 0, r, _, w.set (2 + s) (r 0), { g with own := upN g.own s 0, pos := upN g.pos t 0 }, by rw [show 15 + d + 0 = 14 + d + 1 by omega]; exact nx_store (q := 2 + s) (get_post (i := 1) (o := ⟨14, 0, 2, 2, 0⟩) (by omega) rfl) hwq (by omega), hI.seat hs (.inl r0) ⟨rfl, rfl, rfl, rfl, rfl, rfl⟩,
      ⟨fun i h4 => ?_, fun i => ?_, fun i h4 hn => ?_, hkey.1, hkey.2.1, hkey.2.2, hG.lov, fun i h4 => by dsimp only; rw [upN_other _ _ (by omega)]; exact hG.out i h4⟩, .emit 0 v r (by omega) (by omega) (upN_same _ _ _) (fun i => ?_) lo u rv, rfl, ⟨by simp, ⟨rfl, rfl, rfl, rfl, rfl, rfl⟩, fun n hn => rd_other (by omega), fun i h4 => ?_, fun i h4 hn1 hn2 => ?_, fun i => ?_, fun u hu => ⟨upN_other _ _ hu, rfl⟩⟩⟩
    · dsimp only
      by_cases hi : i = s
      · subst hi; rw [rd_same (by omega), upN_same, r0]; simp
      · rw [rd_other (by omega), upN_other _ _ hi]; exact hG.own0 i h4
    · dsimp only
      by_cases hi : i = s
      · subst hi; rw [upN_same]; omega
      · rw [upN_other _ _ hi]; exact hG.rng i
    · dsimp only at hn ⊢
      by_cases hi : i = s
      · subst hi; rw [upN_same] at hn; exact absurd rfl hn
      · rw [upN_other _ _ hi] at hn ⊢; rw [upN_other _ _ (hone i h4 hi)]; exact hG.posn i h4 hn
    · dsimp only
      by_cases hi : i = s
      · subst hi; rw [upN_same]; omega
      · rw [upN_other _ _ hi]
        intro e
        by_cases h4 : i < 4
        · exact hone i h4 hi e
        · have := hG.out i (by omega); omega
    · by_cases hi : i = s
      · subst hi; rw [rd_same (by omega)]; exact .inr (.inl r0)
      · exact .inl (rd_other (by omega))
    · have hi : i ≠ s := by rintro rfl; exact hn2 O
      exact ⟨rd_other (by omega), upN_other _ _ hi⟩
    · dsimp only
      by_cases hi : i = s
      · subst hi; rw [upN_same]; exact .inr (.inl rfl)
      · exact .inl (upN_other _ _ hi)
  | emit i v r hi K P N lo u rv =>
    have hid : i < d := by omega
    refine ⟨15 + d + (i + 1), _, _, w, g, nx_emit (get_emit hid) (by simp; omega), hI, hG, ?_, rfl, hq0⟩
    rw [rv i hid, show (List.range i).map (fun q => val v q) ++ [val v i] = (List.range (i + 1)).map (fun q => val v q) by rw [List.range_succ]; simp]
    exact .emit (i + 1) v r (by omega) (by omega) P N lo u rv
end Go.Baro.Cel

set_option linter.unusedSimpArgs false
set_option linter.unusedVariables false
namespace Go.Baro.Cel
open Go.RowKit (wrap64)
variable {d : Nat} {val : Nat → Nat → Int} {w w' : List Int} {g g' : Gh} {b k t u p : Nat} {r : Int → Int} {l : List Int}

theorem RG.mark (h : RG d t w g w' g') (j k : Nat) : rd w' (ad d j + k) = rd w (ad d j + k) := h.mem _ (.inr (by have := ad_low d j; omega))
theorem RG.mark0 (h : RG d t w g w' g') (j : Nat) : rd w' (ad d j) = rd w (ad d j) := h.mark j 0
/-- A seat that holds a copy now held it before, or the copy is the current one. -/
theorem RG.was (h : RG d t w g w' g') (h4 : g.gp = 4) {s j : Nat} (hs : s < 4) (hv : rd w' (2 + s) = (ad d j : Int)) : rd w (2 + s) = (ad d j : Int) ∨ j = g.cu := by
  have hl := ad_low d j
  rcases h.st s hs with e | e | e | ⟨_, q, ⟨_, hq⟩, e⟩
  · rw [← e]; exact .inl hv
  · omega
  · omega
  · have hjq : j = q := ad_inj (d := d) (by omega)
    subst hjq
    exact .inr (by omega)
theorem Sc.stable (sc : Sc d w g p) (h : RG d t w g w' g') (h4 : g.gp = 4) : Sc d w' g' p := by
  obtain ⟨e1, e2, e3, e4, e5, e6⟩ := h.same
  refine ⟨fun s h1 h2 j hj hv => ?_, ?_, ?_⟩
  · rw [h.mark0]
    rcases h.was h4 h2 hv with hw | rfl
    · exact sc.seat s h1 h2 j hj hw
    · exact sc.cur
  · rw [e2, h.mark0]; exact sc.cur
  · obtain ⟨x, y, z, hf⟩ := sc.few
    exact ⟨x, y, z, fun j hj hn => by rw [h.mark0] at hn; rw [e2]; exact hf j hj hn⟩
theorem pa_stable (hI : SI d val w g) (h : PA d val w g b k p r) (hr : RG d t w g w' g') : PA d val w' g' b k p r := by
  obtain ⟨e1, e2, e3, e4, e5, e6⟩ := hr.same
  have hR : PR d val g b r → PR d val g' b r := fun R => ⟨R.z, fun q hq => by rw [e1]; exact R.ar q hq, by rw [e6]; exact R.gp, by rw [e1]; exact R.b⟩
  cases h with
  | clear _ r hi K R T m => exact .clear p r hi K (hR R) (by rw [e5]; exact T) fun j hj => by rw [hr.mark0]; exact m j hj
  | got0 r K R T m M => exact .got0 r K (hR R) (by rw [e5]; exact T) (fun j hj => by rw [hr.mark0]; exact m j hj) M
  | got1 r K R T m M C => exact .got1 r K (hR R) (by rw [e5]; exact T) (fun j hj => by rw [hr.mark0]; exact m j hj) M (by rw [e2]; exact C)
  | scan i r hi K R T M sc => exact .scan i r hi K (hR R) (by rw [e5]; exact T) M (sc.stable hr R.gp)
  | hit i r hi K R T M sc A A3 B =>
    refine .hit i r hi K (hR R) (by rw [e5]; exact T) M (sc.stable hr R.gp) A A3 fun j hj hv => ?_
    rw [e2]
    rcases hr.was R.gp hi hv with h | h
    · exact B j hj h
    · exact .inr h
  | size r K R T sc S => exact .size r K (hR R) (by rw [e5]; exact T) (sc.stable hr R.gp) S
  | loop n r hn K R T sc S C m => exact .loop n r hn K (hR R) (by rw [e5]; exact T) (sc.stable hr R.gp) S C fun j hj => by rw [hr.mark0]; exact m j hj
  | look n r hn K R T sc S C m => exact .look n r hn K (hR R) (by rw [e5]; exact T) (sc.stable hr R.gp) S C fun j hj => by rw [hr.mark0]; exact m j hj
  | test n r hn K R T sc S C m M => exact .test n r hn K (hR R) (by rw [e5]; exact T) (sc.stable hr R.gp) S C (fun j hj => by rw [hr.mark0]; exact m j hj) (by rw [hr.mark0]; exact M)
  | copy i c r hi hc K R T C cp fr =>
    refine .copy i c r hi hc K (hR R) (by rw [e5]; exact T) C (fun q hq => by rw [hr.mark, e1]; exact cp q hq) fun s hs hv => ?_
    rcases hr.was R.gp hs hv with h | h
    · exact fr s hs h
    · have := hI.tc; rw [T] at this; exact this h
  | pub r K B Z G T C => exact .pub r K (by rw [e1]; exact B) Z (by rw [e6]; exact G) (by rw [e5]; exact T) (by rw [e2]; exact C)
  | pubF r K B Z G T C F => exact .pubF r K (by rw [e1]; exact B) Z (by rw [e6]; exact G) (by rw [e5]; exact T) (by rw [e2]; exact C) F
  | pubA r K B Z G T A => exact .pubA r K (by rw [e1]; exact B) Z (by rw [e6]; exact G) (by rw [e5]; exact T) (by rw [e2]; exact A)
  | give i r hi K B Z G T A L => exact .give i r hi K (by rw [e1]; exact B) Z (by rw [e6]; exact G) (by rw [e5]; exact T) (by rw [e2]; exact A) L
  | givG i r hi K B Z G T A L H => exact .givG i r hi K (by rw [e1]; exact B) Z (by rw [e6]; exact G) (by rw [e5]; exact T) (by rw [e2]; exact A) L (by rw [e2]; exact H)
theorem gi_put (hG : GI w g) (hp : PG d w g w' g') : GI w' g' := by
  obtain ⟨e1, e2, e3⟩ := hp.same
  refine ⟨fun s h4 => ?_, by rw [e1]; exact hG.rng, by rw [e1, e2]; exact hG.posn, by rw [e2]; exact hG.le2, by rw [e2]; exact hG.all, by rw [e2]; exact hG.two, fun t => by rw [e3]; exact Nat.le_trans (hG.lov t) hp.V, by rw [e1]; exact hG.out⟩
  rw [e1]
  by_cases h1 : rd w (2 + s) = 1
  · have h0 : g.own s ≠ 0 := fun e => by have := (hG.own0 s h4).2 e; omega
    have hn : rd w' (2 + s) ≠ 0 := by
      rcases hp.one s h4 h1 with ⟨h, _⟩ | ⟨j, _, _, h, _⟩
      · omega
      · have := ad_low d j; omega
    exact ⟨fun h => absurd h hn, fun h => absurd h h0⟩
  · rw [hp.seat s h4 h1]; exact hG.own0 s h4
theorem Giv.put {s lo : Nat} (h : Giv d w g s lo) (hs : s < 4) (hp : PG d w g w' g') : Giv d w' g' s lo := by
  obtain ⟨j, h1, h2, h3, h4, h5⟩ := h
  have hl := ad_low d j
  obtain ⟨q1, q2⟩ := hp.hold s j hs h1 h2 h3
  exact ⟨j, h1, q1, by rw [hp.seat s hs (by omega)]; exact h3, by rw [q2]; exact h4, by rw [q2]; exact Nat.le_trans h5 hp.V⟩
theorem Hl.put {s lo : Nat} (h : Hl d w g s lo) (hs : s < 4) (hlo : lo ≤ g.V) (hp : PG d w g w' g') : Hl d w' g' s lo := by
  rcases h with h | h
  · rcases hp.one s hs h with ⟨h, _⟩ | ⟨j, h1, h2, h3, h4, h5⟩
    · exact .inl h
    · exact .inr ⟨j, h1, h2, h3, by omega, h5⟩
  · exact .inr (h.put hs hp)
theorem Saw.put {s j lo : Nat} (h : Saw d w g s j lo) (hs : s < 4) (hlo : lo ≤ g.V) (hp : PG d w g w' g') : Saw d w' g' s j lo := by
  rcases h with ⟨h, hk, hl⟩ | h
  · rcases hp.one s hs h with ⟨h, hj⟩ | ⟨j, h1, h2, h3, h4, h5⟩
    · exact .inl ⟨h, (hj j hk).1, by rw [(hj j hk).2]; exact hl⟩
    · exact .inr ⟨j, h1, h2, h3, by omega, h5⟩
  · exact .inr (h.put hs hp)
theorem ra_put (hG : GI w g) (h : RA d val w g t k p r l) (hp : PG d w g w' g') : RA d val w' g' t k p r l := by
  obtain ⟨e1, e2, e3⟩ := hp.same
  have hN : No g t → No g' t := fun N s => by rw [e1]; exact N s
  have hV := hp.V
  have hlo := hG.lov t
  have el : g'.lo t = g.lo t := by rw [e3]
  have hO : ∀ {s}, g.own s = t → g'.own s = t := fun {s} O => by rw [e1]; exact O
  have hP : ∀ {s}, g.pos t = s → g'.pos t = s := fun {s} O => by rw [e2]; exact O
  cases h with
  | start r K z P N => exact .start r K z (hP P) (hN N)
  | go s r hs K r0 r5 r2 P N => exact .go s r hs K r0 r5 r2 (hP P) (hN N)
  | «try» s r hs K r0 r5 r2 P N r1 => exact .try s r hs K r0 r5 r2 (hP P) (hN N) r1
  | won s r hs K r5 r2 O r1 H => exact .won s r hs K r5 r2 (hO O) r1 (by rw [el]; exact H.put (by omega) hlo hp)
  | lost s r hs K r0 r5 r2 r1 P N => exact .lost s r hs K r0 r5 r2 r1 (hP P) (hN N)
  | los1 s r hs K r0 r5 r2 P N => exact .los1 s r hs K r0 r5 r2 (hP P) (hN N)
  | los2 s r hs K r0 r5 r2 r3 P N => exact .los2 s r hs K r0 r5 r2 r3 (hP P) (hN N)
  | los3 s r hs K r0 r5 r2 P N => exact .los3 s r hs K r0 r5 r2 (hP P) (hN N)
  | sat s r hs K r5 r2 O H => exact .sat s r hs K r5 r2 (hO O) (by rw [el]; exact H.put (by omega) hlo hp)
  | saw s j r hs K r2 O hj C W => exact .saw s j r hs K r2 (hO O) hj C (by rw [el]; exact W.put (by omega) hlo hp)
  | sawF s j r hs K r2 O hj C F W => exact .sawF s j r hs K r2 (hO O) hj C F (by rw [el]; exact W.put (by omega) hlo hp)
  | sawA s j r hs K r2 O hj C W => exact .sawA s j r hs K r2 (hO O) hj C (by rw [el]; exact W.put (by omega) hlo hp)
  | sawK s j r hs K r2 O hj C L W => exact .sawK s j r hs K r2 (hO O) hj C L (by rw [el]; exact W.put (by omega) hlo hp)
  | got s r hs K r2 O W => exact .got s r hs K r2 (hO O) (by rw [el]; exact W.put (by omega) hp)
  | read i s j r hi hs K r2 O hj ht sv lo u C rv =>
    have hl := ad_low d j
    obtain ⟨q1, q2⟩ := hp.hold s j (by omega) hj ht sv
    exact .read i s j r hi hs K r2 (hO O) hj q1 (by rw [hp.seat s (by omega) (by omega)]; exact sv) (by rw [el, q2]; exact lo) (by rw [q2]; omega) C (by rw [q2]; exact rv)
  | free s v r hs K r0 r2 O lo u rv => exact .free s v r hs K r0 r2 (hO O) (by rw [el]; exact lo) (by omega) rv
  | emit i v r hi K P N lo u rv => exact .emit i v r hi K (hP P) (hN N) (by rw [el]; exact lo) (by omega) rv
theorem ra_get (h : RA d val w g u k p r l) (hu : u ≠ 0) (hut : u ≠ t) (hr : RG d t w g w' g') : RA d val w' g' u k p r l := by
  obtain ⟨e1, e2, e3, e4, e5, e6⟩ := hr.same
  have hN : No g u → No g' u := fun N s => by rcases hr.own s with h | h | h <;> rw [h]; exact N s; exact fun e => hu e.symm; exact fun e => hut e.symm
  have el := (hr.pos u hut).2
  have hO : ∀ {s}, s < 4 → g.own s = u → g'.own s = u ∧ rd w' (2 + s) = rd w (2 + s) := fun {s} hs O => by
    obtain ⟨q1, q2⟩ := hr.oth s hs (by omega) (by omega)
    exact ⟨by rw [q2]; exact O, q1⟩
  have hP : ∀ {s}, g.pos u = s → g'.pos u = s := fun {s} O => by rw [(hr.pos u hut).1]; exact O
  have hV : ∀ {s lo}, s < 4 → g.own s = u → Giv d w g s lo → Giv d w' g' s lo := fun hs O ⟨j, h1, h2, h3, h4, h5⟩ => ⟨j, h1, by rw [e5]; exact h2, by rw [(hO hs O).2]; exact h3, by rw [e4]; exact h4, by rw [e4, e1]; exact h5⟩
  have hH : ∀ {s lo}, s < 4 → g.own s = u → Hl d w g s lo → Hl d w' g' s lo := fun hs O H => by
    rcases H with h | h
    · exact .inl (by rw [(hO hs O).2]; exact h)
    · exact .inr (hV hs O h)
  have hW : ∀ {s j lo}, s < 4 → g.own s = u → Saw d w g s j lo → Saw d w' g' s j lo := fun {s j lo} hs O H => by
    rcases H with ⟨h, ⟨h5, hk⟩, hl⟩ | h
    · exact .inl ⟨by rw [(hO hs O).2]; exact h, ⟨h5, by rw [e2, e6, e3]; exact hk⟩, by rw [e4]; exact hl⟩
    · exact .inr (hV hs O h)
  cases h with
  | start r K z P N => exact .start r K z (hP P) (hN N)
  | go s r hs K r0 r5 r2 P N => exact .go s r hs K r0 r5 r2 (hP P) (hN N)
  | «try» s r hs K r0 r5 r2 P N r1 => exact .try s r hs K r0 r5 r2 (hP P) (hN N) r1
  | won s r hs K r5 r2 O r1 H => exact .won s r hs K r5 r2 (hO (by omega) O).1 r1 (by rw [el]; exact hH (by omega) O H)
  | lost s r hs K r0 r5 r2 r1 P N => exact .lost s r hs K r0 r5 r2 r1 (hP P) (hN N)
  | los1 s r hs K r0 r5 r2 P N => exact .los1 s r hs K r0 r5 r2 (hP P) (hN N)
  | los2 s r hs K r0 r5 r2 r3 P N => exact .los2 s r hs K r0 r5 r2 r3 (hP P) (hN N)
  | los3 s r hs K r0 r5 r2 P N => exact .los3 s r hs K r0 r5 r2 (hP P) (hN N)
  | sat s r hs K r5 r2 O H => exact .sat s r hs K r5 r2 (hO (by omega) O).1 (by rw [el]; exact hH (by omega) O H)
  | saw s j r hs K r2 O hj C W => exact .saw s j r hs K r2 (hO (by omega) O).1 hj C (by rw [el]; exact hW (by omega) O W)
  | sawF s j r hs K r2 O hj C F W => exact .sawF s j r hs K r2 (hO (by omega) O).1 hj C F (by rw [el]; exact hW (by omega) O W)
  | sawA s j r hs K r2 O hj C W => exact .sawA s j r hs K r2 (hO (by omega) O).1 hj C (by rw [el]; exact hW (by omega) O W)
  | sawK s j r hs K r2 O hj C L W => exact .sawK s j r hs K r2 (hO (by omega) O).1 hj C L (by rw [el]; exact hW (by omega) O W)
  | got s r hs K r2 O W => exact .got s r hs K r2 (hO (by omega) O).1 (by rw [el]; exact hV (by omega) O W)
  | read i s j r hi hs K r2 O hj ht sv lo u C rv =>
    exact .read i s j r hi hs K r2 (hO (by omega) O).1 hj (by rw [e5]; exact ht) (by rw [(hO (by omega) O).2]; exact sv) (by rw [el, e4]; exact lo) (by rw [e4, e1]; exact u) C (by rw [e4]; exact rv)
  | free s v r hs K r0 r2 O lo u rv => exact .free s v r hs K r0 r2 (hO (by omega) O).1 (by rw [el]; exact lo) (by rw [e1]; exact u) rv
  | emit i v r hi K P N lo u rv => exact .emit i v r hi K (hP P) (hN N) (by rw [el]; exact lo) (by rw [e1]; exact u) rv
/-- Where a Put has ended. -/
theorem PA.fin (h : PA d val w g b k p r) (hp : p = 33 + d) : g.gp = 4 ∧ g.tg = 5 ∧ b = g.V := by
  cases h with
  | give i r hi K B Z G T A L => exact ⟨by omega, T, B⟩
  | copy i c r hi hc K R T C cp fr => omega
  | _ => omega
theorem PA.steps (h : PA d val w g b k p r) : k ≤ 45 + d := by
  cases h <;> omega
theorem PA.place (h : PA d val w g b k p r) : p ≤ 33 + d := by
  cases h <;> omega
/-- The record of the v-th Put. -/
def rcd (val : Nat → Nat → Int) (d v : Nat) : List Int := (List.range d).map fun q => val v q
theorem RA.fin (h1 : 1 ≤ d) (h : RA d val w g t k p r l) (hp : p = 15 + 2 * d) : g.pos t = 0 ∧ No g t ∧ ∃ v, g.lo t ≤ v ∧ v ≤ g.V ∧ l = rcd val d v := by
  cases h with
  | emit i v r hi K P N lo u rv =>
    obtain rfl : i = d := by omega
    exact ⟨P, N, v, lo, u, rfl⟩
  | read i s j r hi hs K r2 O hj ht sv lo u C rv => omega
  | _ => omega
theorem RA.steps (h : RA d val w g t k p r l) : k ≤ 24 + 2 * d := by
  cases h <;> omega
end Go.Baro.Cel

set_option linter.unusedSimpArgs false
set_option linter.unusedVariables false
namespace Go.Baro.Cel
open Go.RowKit (wrap64)

/-- A machine of cell: thread 0 puts, the others get. -/
structure Mok (m : Mc) (d : Nat) (val : Nat → Nat → Int) : Prop where
  ws : m.ws = wsC d
  cs : m.cs = [putC d, getC d]
  puts : ∀ (i : Nat) c, (m.ts[0]?.getD [])[i]? = some c → c.k = 0 ∧ c.ar.length = d ∧ ∀ q, q < d → c.ar[q]?.getD 0 = val (i + 1) q
  gets : ∀ t, 1 ≤ t → t < 4 → ∀ (i : Nat) c, (m.ts[t]?.getD [])[i]? = some c → c.k = 1 ∧ c.ar = []
  v0 : ∀ q, q < d → val 0 q = 0
/-- The calls of a run. -/
structure HI (d : Nat) (val : Nat → Nat → Int) (D : List Dg) (h : Gh) : Prop where
  th : ∀ x ∈ D, x.th < 4
  p0 : ∀ y ∈ D, y.th = 0 → y.e ≠ -1 → y.cl + 1 ≤ h.V
  gV : ∀ y ∈ D, y.th ≠ 0 → y.e ≠ -1 → h.tl y.th y.cl ≤ h.V
  opn : ∀ x ∈ D, x.th ≠ 0 → x.e = -1 → ∀ y ∈ D, y.e ≠ -1 → y.e < x.b → (y.th = 0 → y.cl + 1 ≤ h.lo x.th) ∧ (y.th ≠ 0 → h.tl y.th y.cl ≤ h.lo x.th)
  told : ∀ x ∈ D, x.th ≠ 0 → x.e ≠ -1 → x.to = rcd val d (h.tl x.th x.cl)
  early : ∀ x ∈ D, x.th ≠ 0 → x.e ≠ -1 → ∀ y ∈ D, y.th = 0 → y.cl + 1 = h.tl x.th x.cl → (y.b : Int) ≤ x.e
  ord : ∀ x ∈ D, x.th ≠ 0 → x.e ≠ -1 → ∀ y ∈ D, y.e ≠ -1 → y.e < x.b → (y.th = 0 → y.cl + 1 ≤ h.tl x.th x.cl) ∧ (y.th ≠ 0 → h.tl y.th y.cl ≤ h.tl x.th x.cl)
/-- Thread 0. -/
def T0 (d : Nat) (val : Nat → Nat → Int) (w : List Int) (h : Gh) (td : Td) : Prop := (td.now = none ∧ h.gp = 4 ∧ h.tg = 5 ∧ td.bg = h.V) ∨ ∃ p r, td.now = some ⟨putC d, (p : Nat), r, []⟩ ∧ p ≠ 33 + d ∧ PA d val w h td.bg (h.k 0) p r
/-- Another thread. -/
def T1 (d : Nat) (val : Nat → Nat → Int) (w : List Int) (h : Gh) (t : Nat) (td : Td) : Prop := (td.now = none ∧ h.pos t = 0 ∧ No h t) ∨ ∃ p r l, td.now = some ⟨getC d, (p : Nat), r, l⟩ ∧ p ≠ 15 + 2 * d ∧ RA d val w h t (h.k t) p r l
/-- What a run keeps to. -/
structure J (m : Mc) (d : Nat) (val : Nat → Nat → Int) (S : List Nat) (sb : Nat) (g : Gs) (h : Gh) : Prop where
  si : SI d val g.w h
  gi : GI g.w h
  t0 : T0 d val g.w h (g.th 0)
  tr : ∀ t, 1 ≤ t → t ≤ 3 → T1 d val g.w h t (g.th t)
  cnt : Cnt S g h.k (fun t => if t = 0 then 45 + d else 24 + 2 * d)
  hs : Hs sb S.length g
  hist : HI d val (dgs g.out) h
  err : noErr g
variable {m : Mc} {d : Nat} {val : Nat → Nat → Int} {S : List Nat} {g : Gs} {h h' : Gh} {w : List Int} {t : Nat} {td : Td}
/-- Who is within no call, or as far as it was. -/
theorem T0.get {w' : List Int} (H : T0 d val w h td) (hI : SI d val w h) (hr : RG d t w h w' h') (hk : h'.k 0 = h.k 0) : T0 d val w' h' td := by
  obtain ⟨e1, e2, e3, e4, e5, e6⟩ := hr.same
  rcases H with ⟨q1, q2, q3, q4⟩ | ⟨p, r, q1, q2, q3⟩
  · exact .inl ⟨q1, by rw [e6]; exact q2, by rw [e5]; exact q3, by rw [e1]; exact q4⟩
  · exact .inr ⟨p, r, q1, q2, by rw [hk]; exact pa_stable hI q3 hr⟩
theorem T1.get {w' : List Int} {u : Nat} (H : T1 d val w h u td) (hu : u ≠ 0) (hut : u ≠ t) (hr : RG d t w h w' h') (hk : h'.k u = h.k u) : T1 d val w' h' u td := by
  rcases H with ⟨q1, q2, q3⟩ | ⟨p, r, l, q1, q2, q3⟩
  · exact .inl ⟨q1, by rw [(hr.pos u hut).1]; exact q2, fun s => by rcases hr.own s with h | h | h <;> rw [h]; exact q3 s; exact fun e => hu e.symm; exact fun e => hut e.symm⟩
  · exact .inr ⟨p, r, l, q1, q2, by rw [hk]; exact ra_get q3 hu hut hr⟩
theorem T1.put {w' : List Int} {u : Nat} (H : T1 d val w h u td) (hG : GI w h) (hr : PG d w h w' h') (hk : h'.k u = h.k u) : T1 d val w' h' u td := by
  obtain ⟨e1, e2, e3⟩ := hr.same
  rcases H with ⟨q1, q2, q3⟩ | ⟨p, r, l, q1, q2, q3⟩
  · exact .inl ⟨q1, by rw [e2]; exact q2, fun s => by rw [e1]; exact q3 s⟩
  · exact .inr ⟨p, r, l, q1, q2, by rw [hk]; exact ra_put hG q3 hr⟩
/-- Nothing but the counts and what was told of. -/
theorem rg_kt (a : Nat → Nat) (b : Nat → Nat → Nat) : RG d t w h w { h with k := a, tl := b } := ⟨rfl, ⟨rfl, rfl, rfl, rfl, rfl, rfl⟩, fun _ _ => rfl, fun _ _ => .inl rfl, fun _ _ _ _ => ⟨rfl, rfl⟩, fun _ => .inl rfl, fun _ _ => ⟨rfl, rfl⟩⟩
theorem RG.kt {w' : List Int} (H : RG d t w h w' h') (a : Nat → Nat) (b : Nat → Nat → Nat) : RG d t w h w' { h' with k := a, tl := b } := ⟨H.len, H.same, H.mem, H.st, H.oth, H.own, H.pos⟩
theorem PG.kt {w' : List Int} (H : PG d w h w' h') (a : Nat → Nat) (b : Nat → Nat → Nat) : PG d w h w' { h' with k := a, tl := b } := ⟨H.V, H.same, H.seat, H.one, H.hold⟩
theorem SI.kt (H : SI d val w h) (a : Nat → Nat) (b : Nat → Nat → Nat) : SI d val w { h with k := a, tl := b } := ⟨H.len, H.cu, H.cw, H.con, H.tc, H.num, H.pv, H.st, H.s3⟩
theorem GI.kt (H : GI w h) (a : Nat → Nat) (b : Nat → Nat → Nat) : GI w { h with k := a, tl := b } := ⟨H.own0, H.rng, H.posn, H.le2, H.all, H.two, H.lov, H.out⟩
theorem PA.kt {b k p : Nat} {r : Int → Int} (H : PA d val w h b k p r) (hI : SI d val w h) (x : Nat → Nat) (y : Nat → Nat → Nat) : PA d val w { h with k := x, tl := y } b k p r := pa_stable hI H (rg_kt (t := 0) x y)
theorem RA.kt {k p : Nat} {r : Int → Int} {l : List Int} (H : RA d val w h t k p r l) (ht : t ≠ 0) (x : Nat → Nat) (y : Nat → Nat → Nat) : RA d val w { h with k := x, tl := y } t k p r l := ra_get (t := t + 1) H ht (by omega) (rg_kt x y)
theorem HI.k {D : List Dg} (H : HI d val D h) (a : Nat → Nat) : HI d val D { h with k := a } := ⟨H.th, H.p0, H.gV, H.opn, H.told, H.early, H.ord⟩

theorem j_begin (hm : Mok m d val) {n : Nat} (hn : n < 4) (H : J m d val S S.length g h) : ∃ h', J m d val S (S.length + 1) (bgG m g S.length n) h' := by
  unfold bgG
  cases hnow : (g.th n).now with
  | some l => exact ⟨h, H.si, H.gi, H.t0, H.tr, H.cnt, H.hs.mono (Nat.le_succ _) (Nat.le_refl _), H.hist, H.err⟩
  | none =>
    dsimp only
    cases hc : (m.ts[n]?.getD [])[(g.th n).bg]? with
    | none => exact ⟨h, H.si, H.gi, H.t0, H.tr, H.cnt, H.hs.mono (Nat.le_succ _) (Nat.le_refl _), H.hist, H.err⟩
    | some c =>
      dsimp only
      have hhs := hs_begin (m := m) (n := n) H.hs
      unfold bgG at hhs
      rw [hnow] at hhs
      dsimp only at hhs
      rw [hc] at hhs
      dsimp only at hhs
      have herr : noErr ⟨g.w, putT g.th n ⟨some (live (m.cs[c.k.toNat]?.getD []) c.ar), (g.th n).bg + 1⟩, g.out ++ [⟨S.length, n, (g.th n).bg, false, 0, []⟩]⟩ := by
        intro x hx hen
        rcases List.mem_append.1 hx with hx | hx
        · exact H.err x hx hen
        · rw [List.mem_singleton.1 hx] at hen; cases hen
      have hcnt := cnt_begin (c := c) H.cnt H.hs hnow (T := putT g.th n ⟨some (live (m.cs[c.k.toNat]?.getD []) c.ar), (g.th n).bg + 1⟩) (w := g.w) (m := m)
      have hopn : ∀ x ∈ dgs g.out, x.e = -1 → x.th ≠ n := fun x hx he e => by
        have := ((H.hs.opn x hx).1 he).1
        rw [e] at this; exact this hnow
      have hHI := H.hist
      by_cases hn0 : n = 0
      · subst hn0
        obtain ⟨k0, ka, kv⟩ := hm.puts _ c hc
        obtain ⟨t1, t2, t3, t4⟩ : (g.th 0).now = none ∧ h.gp = 4 ∧ h.tg = 5 ∧ (g.th 0).bg = h.V := by
          rcases H.t0 with q | ⟨p, r, q, _⟩
          · exact q
          · rw [hnow] at q; cases q
        refine ⟨{ h with k := upN h.k 0 0 }, H.si.kt _ h.tl, H.gi.kt _ h.tl, ?_, fun t h1 h3 => ?_, hcnt, hhs, ?_, herr⟩
        · dsimp only
          rw [putT_same, k0, hm.cs]
          refine .inr ⟨0, _, rfl, by omega, ?_⟩
          dsimp only
          rw [upN_same]
          refine .clear 0 _ (by omega) (by omega) ⟨?_, fun q hq => ?_, t2, by dsimp only; omega⟩ t3 (fun j hj => by omega)
          · simp [st0, ka]
          · have := kv q hq
            rw [t4] at this
            simp [st0, this]
        · dsimp only
          rw [putT_other _ _ (by omega)]
          exact (H.tr t h1 h3).get (by omega) (t := t + 1) (by omega) (rg_kt _ h.tl) (upN_other _ _ (by omega))
        · dsimp only
          rw [dgs_begin]
          have hold : ∀ {P : Dg → Prop}, (∀ x ∈ dgs g.out, P x) → P ⟨S.length, -1, 0, (g.th 0).bg, []⟩ → ∀ x ∈ dgs g.out ++ [⟨S.length, -1, 0, (g.th 0).bg, []⟩], P x := fun h1 h2 x hx => by
            rcases List.mem_append.1 hx with hx | hx
            · exact h1 x hx
            · rw [List.mem_singleton.1 hx]; exact h2
          refine ⟨hold hHI.th (by dsimp only; omega), hold hHI.p0 (fun _ h => absurd rfl h), hold hHI.gV (fun _ h => absurd rfl h), hold (fun x hx hx0 hxe => hold (hHI.opn x hx hx0 hxe) (fun h => absurd rfl h)) (fun h => absurd rfl h), hold hHI.told (fun h => absurd rfl h), hold (fun x hx hx0 hxe => hold (hHI.early x hx hx0 hxe) (fun _ hcl => ?_)) (fun h => absurd rfl h), hold (fun x hx hx0 hxe => hold (hHI.ord x hx hx0 hxe) (fun h => absurd rfl h)) (fun h => absurd rfl h)⟩
          have := hHI.gV x hx hx0 hxe
          dsimp only at hcl
          omega
      · obtain ⟨k1, ka⟩ := hm.gets n (by omega) hn _ c hc
        obtain ⟨t1, t2, t3⟩ : (g.th n).now = none ∧ h.pos n = 0 ∧ No h n := by
          rcases H.tr n (by omega) (by omega) with q | ⟨p, r, l, q, _⟩
          · exact q
          · rw [hnow] at q; cases q
        have hRG : RG d n g.w h g.w { h with k := upN h.k n 0, lo := upN h.lo n h.V } := ⟨rfl, ⟨rfl, rfl, rfl, rfl, rfl, rfl⟩, fun _ _ => rfl, fun _ _ => .inl rfl, fun _ _ _ _ => ⟨rfl, rfl⟩, fun _ => .inl rfl, fun u hu => ⟨rfl, upN_other _ _ hu⟩⟩
        refine ⟨{ h with k := upN h.k n 0, lo := upN h.lo n h.V }, ⟨H.si.len, H.si.cu, H.si.cw, H.si.con, H.si.tc, H.si.num, H.si.pv, H.si.st, H.si.s3⟩, ⟨H.gi.own0, H.gi.rng, H.gi.posn, H.gi.le2, H.gi.all, H.gi.two, fun u => ?_, H.gi.out⟩, ?_, fun t h1 h3 => ?_, hcnt, hhs, ?_, herr⟩
        · dsimp only
          by_cases hu : u = n
          · rw [hu, upN_same]; exact Nat.le_refl _
          · rw [upN_other _ _ hu]; exact H.gi.lov u
        · dsimp only
          rw [putT_other _ _ (by omega)]
          exact H.t0.get H.si hRG (upN_other _ _ (by omega))
        · dsimp only
          by_cases htn : t = n
          · subst htn
            rw [putT_same, k1, ka, hm.cs]
            refine .inr ⟨0, _, _, rfl, by omega, ?_⟩
            dsimp only
            rw [upN_same]
            exact .start _ rfl (fun i => by simp [st0]) t2 t3
          · rw [putT_other _ _ htn]
            exact (H.tr t h1 h3).get (by omega) htn hRG (upN_other _ _ htn)
        · dsimp only
          rw [dgs_begin]
          have hold : ∀ {P : Dg → Prop}, (∀ x ∈ dgs g.out, P x) → P ⟨S.length, -1, n, (g.th n).bg, []⟩ → ∀ x ∈ dgs g.out ++ [⟨S.length, -1, n, (g.th n).bg, []⟩], P x := fun h1 h2 x hx => by
            rcases List.mem_append.1 hx with hx | hx
            · exact h1 x hx
            · rw [List.mem_singleton.1 hx]; exact h2
          refine ⟨hold hHI.th hn, hold hHI.p0 (fun _ h => absurd rfl h), hold hHI.gV (fun _ h => absurd rfl h), hold (fun x hx hx0 hxe => hold (fun y hy hye hyb => ?_) (fun h => absurd rfl h)) (fun _ _ => hold (fun y hy hye hyb => ?_) (fun h => absurd rfl h)), hold hHI.told (fun _ h => absurd rfl h), hold (fun x hx hx0 hxe => hold (hHI.early x hx hx0 hxe) (fun h => absurd h hn0)) (fun _ h => absurd rfl h), hold (fun x hx hx0 hxe => hold (hHI.ord x hx hx0 hxe) (fun h => absurd rfl h)) (fun _ h => absurd rfl h)⟩
          · dsimp only
            rw [upN_other _ _ (hopn x hx hxe)]
            exact hHI.opn x hx hx0 hxe y hy hye hyb
          · dsimp only
            rw [upN_same]
            exact ⟨fun h0 => hHI.p0 y hy h0 hye, fun h0 => hHI.gV y hy h0 hye⟩
end Go.Baro.Cel

set_option linter.unusedSimpArgs false
set_option linter.unusedVariables false
namespace Go.Baro.Cel
variable {m : Mc} {d : Nat} {val : Nat → Nat → Int} {S : List Nat} {g : Gs} {h h' : Gh} {w : List Int} {t : Nat} {td : Td}

theorem HI.up {D : List Dg} (H : HI d val D h) (hV : h.V ≤ h'.V) (hl : h'.lo = h.lo) (ht : h'.tl = h.tl) : HI d val D h' :=
  ⟨H.th, fun y hy h0 he => Nat.le_trans (H.p0 y hy h0 he) hV, fun y hy h0 he => by rw [ht]; exact Nat.le_trans (H.gV y hy h0 he) hV, by rw [hl, ht]; exact H.opn, by rw [ht]; exact H.told, by rw [ht]; exact H.early, by rw [ht]; exact H.ord⟩
theorem hi_end {D D' : List Dg} {o : Dg} {st n c : Nat} {to : List Int} (H : HI d val D h) (hV : h.V ≤ h'.V) (hlo : ∀ u, u ≠ n → h'.lo u = h.lo u) (hD : ∀ y ∈ D', (y ∈ D ∧ y ≠ o ∧ ¬ (y.th = n ∧ y.cl = c)) ∨ y = ⟨o.b, st, n, c, to⟩) (ho : o ∈ D) (hoe : o.e = -1) (hon : o.th = n) (hoc : o.cl = c)
    (hu : ∀ y ∈ D, y.e = -1 → y.th = n → y = o) (hb : ∀ y ∈ D, y.b ≤ st) (hn : n < 4) (htl : ∀ t c', ¬ (t = n ∧ c' = c) → h'.tl t c' = h.tl t c') (hput : n = 0 → c + 1 ≤ h'.V) (hget : n ≠ 0 → h.lo n ≤ h'.tl n c ∧ h'.tl n c ≤ h'.V ∧ to = rcd val d (h'.tl n c)) : HI d val D' h' := by
  refine ⟨fun x hx => ?_, fun y hy h0 he => ?_, fun y hy h0 he => ?_, fun x hx hx0 hxe y hy hye hyb => ?_, fun x hx hx0 hxe => ?_, fun x hx hx0 hxe y hy hy0 hyc => ?_, fun x hx hx0 hxe y hy hye hyb => ?_⟩
  · rcases hD x hx with ⟨h1, _, _⟩ | rfl
    · exact H.th x h1
    · exact hn
  · rcases hD y hy with ⟨h1, _, _⟩ | rfl
    · exact Nat.le_trans (H.p0 y h1 h0 he) hV
    · exact hput h0
  · rcases hD y hy with ⟨h1, _, h3⟩ | rfl
    · rw [htl _ _ h3]; exact Nat.le_trans (H.gV y h1 h0 he) hV
    · exact (hget h0).2.1
  · rcases hD x hx with ⟨h1, h2, h3⟩ | rfl
    · rw [hlo x.th (fun e => h2 (hu x h1 hxe e))]
      rcases hD y hy with ⟨k1, k2, k3⟩ | rfl
      · rw [htl _ _ k3]; exact H.opn x h1 hx0 hxe y k1 hye hyb
      · have := hb x h1; dsimp only at hyb; omega
    · dsimp only at hxe; omega
  · rcases hD x hx with ⟨h1, h2, h3⟩ | rfl
    · rw [htl _ _ h3]; exact H.told x h1 hx0 hxe
    · exact (hget hx0).2.2
  · rcases hD x hx with ⟨h1, h2, h3⟩ | rfl
    · rw [htl _ _ h3] at hyc
      rcases hD y hy with ⟨k1, k2, k3⟩ | rfl
      · exact H.early x h1 hx0 hxe y k1 hy0 hyc
      · exact H.early x h1 hx0 hxe o ho (by rw [hon]; exact hy0) (by rw [hoc]; exact hyc)
    · rcases hD y hy with ⟨k1, k2, k3⟩ | rfl
      · have := hb y k1; dsimp only; omega
      · have := hb o ho; dsimp only; omega
  · rcases hD x hx with ⟨h1, h2, h3⟩ | rfl
    · rcases hD y hy with ⟨k1, k2, k3⟩ | rfl
      · rw [htl _ _ h3, htl _ _ k3]; exact H.ord x h1 hx0 hxe y k1 hye hyb
      · have := hb x h1; dsimp only at hyb; omega
    · obtain ⟨g1, g2, g3⟩ := hget hx0
      rcases hD y hy with ⟨k1, k2, k3⟩ | rfl
      · rw [htl _ _ k3]
        have := H.opn o ho (by rw [hon]; exact hx0) hoe y k1 hye hyb
        rw [hon] at this
        exact ⟨fun h0 => Nat.le_trans (this.1 h0) g1, fun h0 => Nat.le_trans (this.2 h0) g1⟩
      · have := hb o ho; dsimp only at hyb; omega
theorem noErr_end {g : Gs} (h : noErr g) {w : List Int} {T : Nat → Td} {st n c : Nat} {to : List Int} : noErr ⟨w, T, g.out ++ [⟨st, n, c, true, 0, to⟩]⟩ := by
  intro x hx he
  rcases List.mem_append.1 hx with hx | hx
  · exact h x hx he
  · rw [List.mem_singleton.1 hx]

theorem j_exec (h1 : 1 ≤ d) (h6 : d ≤ 6) {n : Nat} (hn : n < 4) (H : J m d val S (S.length + 1) g h) : ∃ h', J m d val (S ++ [n]) (S.length + 1) (exG g S.length n) h' := by
  have hhs := hs_exec (n := n) H.hs
  have hlen : (S ++ [n]).length = S.length + 1 := by simp
  have hopn : ∀ x : Ev, x.th = n → x.cl = (g.th n).bg - 1 → ∀ d ∈ dgs g.out, d.e = -1 → d.th = n → d.is x := fun x hx hc d hd he hdn => ⟨by rw [hdn, hx], by
    have := ((H.hs.opn d hd).1 he).2
    rw [hdn] at this; rw [hc]; omega, he⟩
  cases hnow : (g.th n).now with
  | none =>
    rw [exG_none hnow] at hhs ⊢
    refine ⟨{ h with k := upN h.k n (h.k n + 1) }, H.si.kt _ h.tl, H.gi.kt _ h.tl, ?_, fun t q1 q3 => ?_, cnt_go H.cnt rfl, by rw [hlen]; exact hhs, H.hist.k _, H.err⟩
    · by_cases hn0 : n = 0
      · subst hn0
        rcases H.t0 with ⟨q1, q2, q3, q4⟩ | ⟨p, r, q, _⟩
        · exact .inl ⟨q1, q2, q3, q4⟩
        · rw [hnow] at q; cases q
      · exact H.t0.get (t := 0) H.si (rg_kt _ h.tl) (upN_other _ _ (by omega))
    · by_cases hnt : t = n
      · subst hnt
        rcases H.tr t q1 q3 with ⟨q1, q2, q3⟩ | ⟨p, r, l, q, _⟩
        · exact .inl ⟨q1, q2, q3⟩
        · rw [hnow] at q; cases q
      · exact (H.tr t q1 q3).get (by omega) (t := t + 1) (by omega) (rg_kt _ h.tl) (upN_other _ _ hnt)
  | some l =>
    by_cases hn0 : n = 0
    · subst hn0
      obtain ⟨p, r, q1, q2, q3⟩ : ∃ p r, (g.th 0).now = some ⟨putC d, (p : Nat), r, []⟩ ∧ p ≠ 33 + d ∧ PA d val g.w h (g.th 0).bg (h.k 0) p r := by
        rcases H.t0 with ⟨q, _⟩ | q
        · rw [hnow] at q; cases q
        · exact q
      obtain ⟨p', r', w', g', hx, hI', hP', hG'⟩ := put_step h1 h6 H.si q3 q2
      have hstep := exG_nx (st := S.length) q1 hx
      have hGI := gi_put H.gi hG'
      obtain ⟨e1, e2, e3⟩ := hG'.same
      by_cases hp : p' = 33 + d
      · rw [if_pos (by rw [putC_len]; exact hp)] at hstep
        rw [hstep] at hhs ⊢
        obtain ⟨f1, f2, f3⟩ := hP'.fin hp
        have hk := hP'.steps
        obtain ⟨o, ho, o1, o2, o3, o4, o5, _, _⟩ := dgs_end (x := ⟨S.length, 0, (g.th 0).bg - 1, true, 0, []⟩) H.hs (n := 0) (by rw [hnow]; simp) rfl rfl rfl
        have hbg : 1 ≤ (g.th 0).bg := H.hs.ps 0 (by rw [hnow]; simp)
        refine ⟨{ g' with k := upN h.k 0 (h.k 0 + 1), tl := h.tl }, hI'.kt _ _, hGI.kt _ _, .inl ⟨by dsimp only; rw [putT_same], f1, f2, by dsimp only; rw [putT_same]; exact f3⟩, fun t k1 k3 => ?_, cnt_end H.cnt rfl rfl rfl rfl (by simpa using hk) (hopn _ rfl rfl), by rw [hlen]; exact hhs, ?_, noErr_end H.err⟩
        · dsimp only
          rw [putT_other _ _ (by omega)]
          exact (H.tr t k1 k3).put H.gi (hG'.kt _ _) (upN_other _ _ (by omega))
        · refine hi_end H.hist hG'.V (fun u _ => by dsimp only; rw [e3]) o5 ho o3 o1 o2 (fun y hy he hyn => (o4 y hy he hyn).1) (fun y hy => by have := (H.hs.bnd y hy).1; dsimp only; omega) (by omega) (fun _ _ _ => rfl) (fun _ => ?_) (fun h => absurd rfl h)
          dsimp only; omega
      · rw [if_neg (by rw [putC_len]; exact hp)] at hstep
        rw [hstep] at hhs ⊢
        refine ⟨{ g' with k := upN h.k 0 (h.k 0 + 1), tl := h.tl }, hI'.kt _ _, hGI.kt _ _, .inr ⟨p', r', by dsimp only; rw [putT_same], hp, ?_⟩, fun t k1 k3 => ?_, cnt_go H.cnt rfl, by rw [hlen]; exact hhs, H.hist.up hG'.V e3 rfl, H.err⟩
        · dsimp only
          rw [putT_same, upN_same]
          exact hP'.kt hI' _ _
        · dsimp only
          rw [putT_other _ _ (by omega)]
          exact (H.tr t k1 k3).put H.gi (hG'.kt _ _) (upN_other _ _ (by omega))
    · obtain ⟨p, r, l', q1, q2, q3⟩ : ∃ p r l', (g.th n).now = some ⟨getC d, (p : Nat), r, l'⟩ ∧ p ≠ 15 + 2 * d ∧ RA d val g.w h n (h.k n) p r l' := by
        rcases H.tr n (by omega) (by omega) with ⟨q, _⟩ | q
        · rw [hnow] at q; cases q
        · exact q
      obtain ⟨p', r', l2, w', g', hx, hI', hGI, hP', hlo, hG'⟩ := get_step h1 h6 ⟨by omega, by omega⟩ H.si H.gi q3 q2
      have hstep := exG_nx (st := S.length) q1 hx
      obtain ⟨e1, e2, e3, e4, e5, e6⟩ := hG'.same
      by_cases hp : p' = 15 + 2 * d
      · rw [if_pos (by rw [getC_len]; exact hp)] at hstep
        rw [hstep] at hhs ⊢
        obtain ⟨f1, f2, v, f3, f4, f5⟩ := hP'.fin h1 hp
        have hk := hP'.steps
        obtain ⟨o, ho, o1, o2, o3, o4, o5, _, _⟩ := dgs_end (x := ⟨S.length, n, (g.th n).bg - 1, true, 0, l2⟩) H.hs (n := n) (by rw [hnow]; simp) rfl rfl rfl
        refine ⟨{ g' with k := upN h.k n (h.k n + 1), tl := fun a b => if a = n ∧ b = (g.th n).bg - 1 then v else h.tl a b }, hI'.kt _ _, hGI.kt _ _, ?_, fun t k1 k3 => ?_, cnt_end H.cnt rfl rfl rfl rfl (by simp [hn0]; omega) (hopn _ rfl rfl), by rw [hlen]; exact hhs, ?_, noErr_end H.err⟩
        · dsimp only
          rw [putT_other _ _ (by omega)]
          exact H.t0.get H.si (hG'.kt _ _) (upN_other _ _ (by omega))
        · dsimp only
          by_cases htn : t = n
          · subst htn
            rw [putT_same]
            exact .inl ⟨rfl, f1, f2⟩
          · rw [putT_other _ _ htn]
            exact (H.tr t k1 k3).get (by omega) htn (hG'.kt _ _) (upN_other _ _ htn)
        · refine hi_end H.hist (Nat.le_of_eq e1.symm) (fun u hu => (hG'.pos u hu).2) o5 ho o3 o1 o2 (fun y hy he hyn => (o4 y hy he hyn).1) (fun y hy => by have := (H.hs.bnd y hy).1; dsimp only; omega) hn (fun _ _ hh => by dsimp only; rw [if_neg hh]) (fun h => absurd h hn0) (fun _ => ?_)
          dsimp only
          rw [if_pos ⟨rfl, rfl⟩]
          exact ⟨by rw [← hlo]; exact f3, f4, f5⟩
      · rw [if_neg (by rw [getC_len]; exact hp)] at hstep
        rw [hstep] at hhs ⊢
        refine ⟨{ g' with k := upN h.k n (h.k n + 1), tl := h.tl }, hI'.kt _ _, hGI.kt _ _, ?_, fun t k1 k3 => ?_, cnt_go H.cnt rfl, by rw [hlen]; exact hhs, ?_, H.err⟩
        · dsimp only
          rw [putT_other _ _ (by omega)]
          exact H.t0.get H.si (hG'.kt _ _) (upN_other _ _ (by omega))
        · dsimp only
          by_cases htn : t = n
          · subst htn
            rw [putT_same]
            refine .inr ⟨p', r', l2, rfl, hp, ?_⟩
            dsimp only
            rw [upN_same]
            exact hP'.kt (by omega) _ _
          · rw [putT_other _ _ htn]
            exact (H.tr t k1 k3).get (by omega) htn (hG'.kt _ _) (upN_other _ _ htn)
        · exact H.hist.up (Nat.le_of_eq e1.symm) hlo rfl
end Go.Baro.Cel
