/- Of this claim's own texts these, one behind the other: CountAlg, ObjPure2. No statement of the seat is proved here; no condition but those that stand at the theorems. -/
import Derived.Test.YtnchgdjdfhfedaaDoorPartAO
set_option linter.unusedSimpArgs false
set_option linter.unusedVariables false
namespace Go.Baro.Cnt
open Go.RowKit (wrap64)

def addC : List Ins := [⟨13, 1, 2, 0, 0⟩, ⟨3, 3, 1, 0, 0⟩, ⟨15, 3, 2, 0, 1⟩, ⟨12, 3, 0, 0, 0⟩, ⟨16, 1, 0, 0, 0⟩]
def getC : List Ins := [⟨13, 0, 1, 0, 0⟩, ⟨16, 0, 0, 0, 0⟩]
/-- What a call adds. -/
def byK (m : Mc) (x : Key) : Option Int := match (m.ts[x.1]?.getD [])[x.2]? with | some c => if c.k = 0 then some (c.ar.headD 0) else none | none => none
/-- What a call does. -/
def gK (m : Mc) (x : Key) : Ac := ⟨0, 0, (byK m x).isSome, 0, (byK m x).getD 0⟩
/-- A machine of count. -/
structure Mok (m : Mc) : Prop where
  ws : m.ws.length = 1
  in_ : ∀ x ∈ m.ws, wrap64 x = x
  cs : m.cs = [addC, getC]
  calls : ∀ (t i : Nat) (c : Cl), (m.ts[t]?.getD [])[i]? = some c → (c.k = 0 ∧ ∃ a, c.ar = [a]) ∨ (c.k = 1 ∧ c.ar = [])
/-- An Add of a: pc, registers, told so far, whether it is in the log. -/
inductive AA (a v : Int) : Nat → (Int → Int) → List Int → Bool → Prop
  | a0 (r : Int → Int) (A : r 0 = a) (Z : r 2 = 0) : AA a v 0 r [] false
  | a1 (r : Int → Int) (A : r 0 = a) (Z : r 2 = 0) : AA a v 1 r [] false
  | a2 (r : Int → Int) (A : r 0 = a) (Z : r 2 = 0) (N : r 3 = wrap64 (r 1 + a)) : AA a v 2 r [] false
  | no (r : Int → Int) (A : r 0 = a) (Z : r 2 = 0) (N : r 3 = 0) : AA a v 3 r [] false
  | yes (r : Int → Int) (N : r 3 = 1) (V : r 1 = v) : AA a v 3 r [] true
  | a4 (r : Int → Int) (V : r 1 = v) : AA a v 4 r [] true
  | fin (r : Int → Int) : AA a v 5 r [v] true
inductive GA (v : Int) : Nat → (Int → Int) → List Int → Bool → Prop
  | g0 (r : Int → Int) (Z : r 1 = 0) : GA v 0 r [] false
  | g1 (r : Int → Int) (V : r 0 = v) : GA v 1 r [] true
  | fin (r : Int → Int) : GA v 2 r [v] true
variable {m : Mc}
/-- What a step of a call leaves: the words, and whether it has taken effect, and of what it tells. -/
def Eff (m : Mc) (x : Key) (w : List Int) (b : Bool) (w' : List Int) (b' : Bool) (v v' : Int) : Prop :=
  (w' = w ∧ b' = b ∧ v' = v) ∨ (b = false ∧ b' = true ∧ w' = (tel 2 w (gK m x)).2 ∧ v' = (tel 2 w (gK m x)).1)
theorem one_word {w : List Int} (h : w.length = 1) : w = [rd w 0] := by
  match w, h with
  | [x], _ => rfl
theorem add_step {x : Key} {a v : Int} {p : Nat} {r : Int → Int} {l : List Int} {b : Bool} {w : List Int} (hl : w.length = 1) (hx : byK m x = some a) (h : AA a v p r l b) (hp : p ≠ 5) :
    ∃ p' r' l' w' b' v', Nx addC p r l w p' r' l' w' ∧ AA a v' p' r' l' b' ∧ Eff m x w b w' b' v v' ∧ p' ≤ 5 := by
  have hq0 : ∀ y : Int, y = 0 → wrap64 (y + 0) = (0 : Nat) := fun y hy => by rw [hy]; exact wrap_id (by omega)
  cases h with
  | a0 r A Z => exact ⟨1, _, _, _, _, v, nx_load (q := 0) (by rfl) (hq0 _ Z) (by omega), .a1 _ (by rw [upd_other _ _ (by decide)]; exact A) (by rw [upd_other _ _ (by decide)]; exact Z), .inl ⟨rfl, rfl, rfl⟩, by omega⟩
  | a1 r A Z => exact ⟨2, _, _, _, _, v, nx_add (by rfl) (by rw [A]), .a2 _ (by rw [upd_other _ _ (by decide)]; exact A) (by rw [upd_other _ _ (by decide)]; exact Z) (by rw [upd_same, upd_other _ _ (by decide)]), .inl ⟨rfl, rfl, rfl⟩, by omega⟩
  | a2 r A Z N =>
    by_cases hc : rd w 0 = r 1
    · refine ⟨3, _, _, _, true, r 1, nx_casT (q := 0) (by rfl) (hq0 _ Z) (by omega) hc, .yes _ (upd_same _ _ _) (by rw [upd_other _ _ (by decide)]), .inr ⟨rfl, rfl, ?_, ?_⟩, by omega⟩
      · rw [one_word hl]
        simp [tel, gK, hx, N, hc]
      · rw [one_word hl]
        simp [tel, gK, hx, hc]
    · exact ⟨3, _, _, _, _, v, nx_casF (q := 0) (by rfl) (hq0 _ Z) (by omega) hc, .no _ (by rw [upd_other _ _ (by decide)]; exact A) (by rw [upd_other _ _ (by decide)]; exact Z) (upd_same _ _ _), .inl ⟨rfl, rfl, rfl⟩, by omega⟩
  | no r A Z N => exact ⟨0, _, _, _, _, v, nx_unlZ (by rfl) N, .a0 _ A Z, .inl ⟨rfl, rfl, rfl⟩, by omega⟩
  | yes r N V => exact ⟨4, _, _, _, _, v, nx_unlN (by rfl) (by rw [N]; decide), .a4 _ V, .inl ⟨rfl, rfl, rfl⟩, by omega⟩
  | a4 r V =>
    refine ⟨5, _, _, _, _, v, nx_emit (by rfl) (by decide), ?_, .inl ⟨rfl, rfl, rfl⟩, by omega⟩
    rw [V]; exact .fin _
  | fin r => exact absurd rfl hp
theorem get_step {x : Key} {v : Int} {p : Nat} {r : Int → Int} {l : List Int} {b : Bool} {w : List Int} (hl : w.length = 1) (hw : wrap64 (rd w 0) = rd w 0) (hx : byK m x = none) (h : GA v p r l b) (hp : p ≠ 2) :
    ∃ p' r' l' w' b' v', Nx getC p r l w p' r' l' w' ∧ GA v' p' r' l' b' ∧ Eff m x w b w' b' v v' ∧ p' ≤ 2 := by
  cases h with
  | g0 r Z =>
    refine ⟨1, _, _, _, true, rd w 0, nx_load (q := 0) (by rfl) (by rw [Z]; exact wrap_id (by omega)) (by omega), .g1 _ (upd_same _ _ _), .inr ⟨rfl, rfl, ?_, ?_⟩, by omega⟩
    · rw [one_word hl]
      simp [tel, gK, hx, rd] at hw ⊢
      exact hw.symm
    · rw [one_word hl]
      simp [tel, gK, hx, rd]
  | g1 r V =>
    refine ⟨2, _, _, _, _, v, nx_emit (by rfl) (by decide), ?_, .inl ⟨rfl, rfl, rfl⟩, by omega⟩
    rw [V]; exact .fin _
  | fin r => exact absurd rfl hp
def Fin (_ : Key) (l : List Int) (b : Bool) (v : Int) : Prop := b = true ∧ l = [v]
def Inv (m : Mc) (w has : List Int) (_ : Unit) (loc : Nat → Option Lc) : Prop :=
  w = has ∧ w.length = 1 ∧ wrap64 (rd w 0) = rd w 0 ∧ ∀ t i c p r l b v, loc t = some ⟨i, c, p, r, l, b, v⟩ → (c = addC ∧ ∃ a, byK m (t, i) = some a ∧ AA a v p r l b) ∨ (c = getC ∧ byK m (t, i) = none ∧ GA v p r l b)
theorem wrap_wrap (x : Int) : wrap64 (wrap64 x) = wrap64 x := by unfold wrap64; omega
theorem tel_num (w : List Int) (hl : w.length = 1) (hw : wrap64 (rd w 0) = rd w 0) (a : Ac) : (tel 2 w a).2.length = 1 ∧ wrap64 (rd (tel 2 w a).2 0) = rd (tel 2 w a).2 0 := by
  simp [tel, rd, wrap_wrap]
theorem cnt_ok {m : Mc} (hm : Mok m) : ObjOk Unit m (fun _ => True) 2 (gK m) m.ws Fin (Inv m) := by
  refine ⟨⟨(), rfl, hm.ws, ?_, fun t i c p r l b v h => by cases h⟩, fun w has gh loc t i c _ hI hl hc => ?_, fun w has gh loc t i c p r l b v _ hI hl hp => ?_⟩
  · rw [one_word hm.ws]
    exact hm.in_ _ (by have := one_word hm.ws; rw [this]; simp [rd])
  · obtain ⟨h1, h2, h3, h4⟩ := hI
    rcases hm.calls t i c hc with ⟨k1, a, k2⟩ | ⟨k1, k2⟩
    · have hcode : m.cs[c.k.toNat]?.getD [] = addC := by rw [k1, hm.cs]; rfl
      rw [hcode]
      refine ⟨by decide, (), h1, h2, h3, fun t' i' c' p' r' l' b' v' hl' => ?_⟩
      by_cases ht : t' = t
      · subst ht
        rw [putL_same] at hl'
        injection hl' with hl'
        injection hl' with e1 e2 e3 e4 e5 e6 e7
        subst e1 e2 e3 e4 e5 e6 e7
        refine .inl ⟨rfl, a, by simp [byK, hc, k1, k2], ?_⟩
        rw [k2]
        exact .a0 _ (by simp [st0]) (by simp [st0])
      · rw [putL_other _ _ ht] at hl'; exact h4 t' i' c' p' r' l' b' v' hl'
    · have hcode : m.cs[c.k.toNat]?.getD [] = getC := by rw [k1, hm.cs]; rfl
      rw [hcode]
      refine ⟨by decide, (), h1, h2, h3, fun t' i' c' p' r' l' b' v' hl' => ?_⟩
      by_cases ht : t' = t
      · subst ht
        rw [putL_same] at hl'
        injection hl' with hl'
        injection hl' with e1 e2 e3 e4 e5 e6 e7
        subst e1 e2 e3 e4 e5 e6 e7
        refine .inr ⟨rfl, by simp [byK, hc, k1], ?_⟩
        rw [k2]
        exact .g0 _ (by simp [st0])
      · rw [putL_other _ _ ht] at hl'; exact h4 t' i' c' p' r' l' b' v' hl'
  · obtain ⟨rfl, h2, h3, h4⟩ := hI
    have hkeep : ∀ (w' : List Int) (x : Option Lc), (w' = w ∨ w' = (tel 2 w (gK m (t, i))).2) → (∀ i' c' p' r' l' b' v', x = some ⟨i', c', p', r', l', b', v'⟩ → (c' = addC ∧ ∃ a, byK m (t, i') = some a ∧ AA a v' p' r' l' b') ∨ (c' = getC ∧ byK m (t, i') = none ∧ GA v' p' r' l' b')) → Inv m w' w' () (putL loc t x) := by
      intro w' x hw hx
      have h23 : w'.length = 1 ∧ wrap64 (rd w' 0) = rd w' 0 := by
        rcases hw with rfl | rfl
        · exact ⟨h2, h3⟩
        · exact tel_num w h2 h3 _
      refine ⟨rfl, h23.1, h23.2, fun t' i' c' p' r' l' b' v' hl' => ?_⟩
      by_cases ht : t' = t
      · subst ht
        rw [putL_same] at hl'
        exact hx i' c' p' r' l' b' v' hl'
      · rw [putL_other _ _ ht] at hl'; exact h4 t' i' c' p' r' l' b' v' hl'
    rcases h4 t i c p r l b v hl with ⟨rfl, a, hx, hA⟩ | ⟨rfl, hx, hG⟩
    · obtain ⟨p', r', l', w', b', v', k1, k2, k3, k4⟩ := add_step h2 hx hA hp
      have hw : w' = w ∨ w' = (tel 2 w (gK m (t, i))).2 := by rcases k3 with ⟨e, _⟩ | ⟨_, _, e, _⟩ <;> simp [e]
      refine ⟨p', r', l', w', b', v', w', (), k1, ?_, fun _ => hkeep w' _ hw ?_, fun hp' => ⟨?_, hkeep w' none hw (fun _ _ _ _ _ _ _ h => by cases h)⟩⟩
      · rcases k3 with ⟨e1, e2, e3⟩ | ⟨e1, e2, e3, e4⟩
        · exact .inl ⟨e2, e3, e1⟩
        · exact .inr ⟨e1, e2, by rw [e3, e4]⟩
      · intro i' c' p'' r'' l'' b'' v'' h
        injection h with h
        injection h with e1 e2 e3 e4 e5 e6 e7
        subst e1 e2 e3 e4 e5 e6 e7
        exact .inl ⟨rfl, a, hx, k2⟩
      · have hp5 : p' = 5 := hp'
        subst hp5
        cases k2 with
        | fin r => exact ⟨rfl, rfl⟩
    · obtain ⟨p', r', l', w', b', v', k1, k2, k3, k4⟩ := get_step h2 h3 hx hG hp
      have hw : w' = w ∨ w' = (tel 2 w (gK m (t, i))).2 := by rcases k3 with ⟨e, _⟩ | ⟨_, _, e, _⟩ <;> simp [e]
      refine ⟨p', r', l', w', b', v', w', (), k1, ?_, fun _ => hkeep w' _ hw ?_, fun hp' => ⟨?_, hkeep w' none hw (fun _ _ _ _ _ _ _ h => by cases h)⟩⟩
      · rcases k3 with ⟨e1, e2, e3⟩ | ⟨e1, e2, e3, e4⟩
        · exact .inl ⟨e2, e3, e1⟩
        · exact .inr ⟨e1, e2, by rw [e3, e4]⟩
      · intro i' c' p'' r'' l'' b'' v'' h
        injection h with h
        injection h with e1 e2 e3 e4 e5 e6 e7
        subst e1 e2 e3 e4 e5 e6 e7
        exact .inr ⟨rfl, hx, k2⟩
      · have hp5 : p' = 2 := hp'
        subst hp5
        cases k2 with
        | fin r => exact ⟨rfl, rfl⟩
end Go.Baro.Cnt

set_option linter.unusedSimpArgs false
set_option linter.unusedVariables false
namespace Go.Baro
open Go.RowKit (wrap64)
section
variable {Gh : Type} {m : Mc} {A : Nat → Prop} {k : Int} {gK : Key → Ac} {has0 : List Int} {Fin : Key → List Int → Bool → Int → Prop} {Inv : List Int → List Int → Gh → (Nat → Option Lc) → Prop}
/-- A step of who is alone brings its call nearer to its end. -/
structure Prog (m : Mc) (A : Nat → Prop) (Inv : List Int → List Int → Gh → (Nat → Option Lc) → Prop) (B : Nat) (F : List Int → List Ins → Nat → (Int → Int) → Nat) : Prop where
  pos : ∀ w has gh loc t i c p r l b v, A t → Inv w has gh loc → loc t = some ⟨i, c, p, r, l, b, v⟩ → p ≠ c.length → 1 ≤ F w c p r ∧ F w c p r ≤ B
  dec : ∀ w has gh loc t i c p r l b v p' r' l' w', A t → Inv w has gh loc → loc t = some ⟨i, c, p, r, l, b, v⟩ → p ≠ c.length → Nx c p r l w p' r' l' w' → p' ≠ c.length → F w' c p' r' < F w c p r
/-- How many steps a thread has yet to do, at most, if it is alone. -/
def todo (m : Mc) (B : Nat) (F : List Int → List Ins → Nat → (Int → Int) → Nat) (g : Gs) (t : Nat) : Nat :=
  (match (g.th t).now with | some l => F g.w l.c l.p.toNat l.r | none => 0) + B * ((m.ts[t]?.getD []).length - (g.th t).bg)
theorem nx_det {c : List Ins} {p : Nat} {r : Int → Int} {l w : List Int} {p1 p2 : Nat} {r1 r2 : Int → Int} {l1 l2 w1 w2 : List Int} (h1 : Nx c p r l w p1 r1 l1 w1) (h2 : Nx c p r l w p2 r2 l2 w2) : p1 = p2 ∧ r1 = r2 ∧ l1 = l2 ∧ w1 = w2 := by
  unfold Nx at h1 h2
  rw [h1] at h2
  injection h2 with e1 e2
  injection e1 with _ e3 e4 e5
  injection e2 with e6 _
  exact ⟨by omega, e4, e5, e6⟩
theorem todo_step (ho : ObjOk Gh m A k gK has0 Fin Inv) {B : Nat} {F : List Int → List Ins → Nat → (Int → Int) → Nat} (hB : 1 ≤ B) (hp : Prog m A Inv B F) {t : Nat} (ht : A t) {S : List Nat} (hS : ∀ n ∈ S, A n) :
    todo m B F (plyG m 0 (S ++ [t]) (g0 m)) t ≤ todo m B F (plyG m 0 S (g0 m)) t - 1 := by
  obtain ⟨L, rs, has, gh, loc, H⟩ := obj_run ho S hS
  rw [ply_snoc, actG_eq]
  generalize plyG m 0 S (g0 m) = g at *
  -- an instruction of a call that is open
  have hexec : ∀ (gb : Gs) (sb : Nat) (gh : Gh) (loc : Nat → Option Lc), ObjJ A k gK has0 Fin Inv S sb gb L rs has gh loc → ∀ l, (gb.th t).now = some l → ∃ X, todo m B F gb t = X + B * ((m.ts[t]?.getD []).length - (gb.th t).bg) ∧ 1 ≤ X ∧ X ≤ B ∧ todo m B F (exG gb S.length t) t + 1 ≤ X + B * ((m.ts[t]?.getD []).length - (gb.th t).bg) := by
    intro gb sb gh loc H l hl
    cases hloc : loc t with
    | none => rw [(H.out t).2 hloc] at hl; cases hl
    | some q =>
      obtain ⟨i, c, p, r, lt, b, v⟩ := q
      obtain ⟨a1, a2, a3, a4, a5⟩ := H.at_ t i c p r lt b v hloc
      obtain ⟨f1, f2⟩ := hp.pos _ _ _ _ _ _ _ _ _ _ _ _ ht H.inv hloc a2
      obtain ⟨p', r', l', w', b', v', has', gh', k1, k2, k3, k4⟩ := ho.step _ _ _ _ t i c p r lt b v ht H.inv hloc a2
      have hstep := exG_nx (st := S.length) a1 k1
      refine ⟨F gb.w c p r, ?_, f1, f2, ?_⟩
      · unfold todo; rw [a1]; simp
      · rw [hstep]
        by_cases hpc : p' = c.length
        · rw [if_pos hpc]
          unfold todo
          dsimp only
          rw [putT_same]
          dsimp only
          omega
        · rw [if_neg hpc]
          have hd := hp.dec _ _ _ _ _ _ _ _ _ _ _ _ _ _ _ _ ht H.inv hloc a2 k1 hpc
          unfold todo
          dsimp only
          rw [putT_same]
          dsimp only
          rw [Int.toNat_natCast]
          omega
  rcases bgG_cases m g S.length t with ⟨h1, h2⟩ | ⟨c, h1, h2, h3⟩
  · rw [h1]
    rcases h2 with h2 | ⟨h2, h4⟩
    · cases hl : (g.th t).now with
      | none => exact absurd hl h2
      | some l =>
        obtain ⟨X, x1, x2, x3, x4⟩ := hexec g _ _ _ H l hl
        omega
    · rw [exG_none h2]
      have : todo m B F g t = 0 := by
        unfold todo
        rw [h2, Nat.sub_eq_zero_of_le h4]
        simp
      omega
  · obtain ⟨gh', loc', Hb⟩ := obj_begin ho ht H
    have hbg := (List.getElem?_eq_some_iff.1 h2).1
    have hnow : ((bgG m g S.length t).th t).now = some (live (m.cs[c.k.toNat]?.getD []) c.ar) ∧ ((bgG m g S.length t).th t).bg = (g.th t).bg + 1 := by rw [h3]; dsimp only; rw [putT_same]; exact ⟨rfl, rfl⟩
    obtain ⟨X, x1, x2, x3, x4⟩ := hexec _ _ _ _ Hb _ hnow.1
    rw [hnow.2] at x4
    have : todo m B F g t = B * ((m.ts[t]?.getD []).length - (g.th t).bg) := by unfold todo; rw [h1]; simp
    rw [this]
    have hB1 : B * ((m.ts[t]?.getD []).length - (g.th t).bg) = B * ((m.ts[t]?.getD []).length - ((g.th t).bg + 1)) + B := by
      rw [← Nat.mul_succ]; congr 1; omega
    omega
theorem todo_alone (ho : ObjOk Gh m A k gK has0 Fin Inv) {B : Nat} {F : List Int → List Ins → Nat → (Int → Int) → Nat} (hB : 1 ≤ B) (hp : Prog m A Inv B F) {t : Nat} (ht : A t) {S : List Nat} (hS : ∀ n ∈ S, A n) : ∀ j, todo m B F (plyG m 0 (S ++ List.replicate j t) (g0 m)) t ≤ todo m B F (plyG m 0 S (g0 m)) t - j
  | 0 => by simp
  | j + 1 => by
    rw [List.replicate_succ', ← List.append_assoc]
    have h1 := todo_step ho hB hp ht (S := S ++ List.replicate j t) (fun n hn => by
      rcases List.mem_append.1 hn with hn | hn
      · exact hS n hn
      · rw [List.eq_of_mem_replicate hn]; exact ht)
    have h2 := todo_alone ho hB hp ht hS j
    omega
theorem todo_le (ho : ObjOk Gh m A k gK has0 Fin Inv) {B : Nat} {F : List Int → List Ins → Nat → (Int → Int) → Nat} (hB : 1 ≤ B) (hp : Prog m A Inv B F) {t : Nat} (ht : A t) {S : List Nat} (hS : ∀ n ∈ S, A n) : todo m B F (plyG m 0 S (g0 m)) t ≤ B * (m.ts[t]?.getD []).length := by
  obtain ⟨L, rs, has, gh, loc, H⟩ := obj_run ho S hS
  have hle := bg_le m S t
  generalize plyG m 0 S (g0 m) = g at *
  unfold todo
  cases hl : (g.th t).now with
  | none =>
    have := Nat.mul_le_mul_left B (Nat.sub_le (m.ts[t]?.getD []).length (g.th t).bg)
    simpa using this
  | some l =>
    cases hloc : loc t with
    | none => rw [(H.out t).2 hloc] at hl; cases hl
    | some q =>
      obtain ⟨i, c, p, r, lt, b, v⟩ := q
      obtain ⟨a1, a2, a3, a4, a5⟩ := H.at_ t i c p r lt b v hloc
      obtain ⟨f1, f2⟩ := hp.pos _ _ _ _ _ _ _ _ _ _ _ _ ht H.inv hloc a2
      rw [hl] at a1
      injection a1 with a1
      subst a1
      dsimp only
      rw [Int.toNat_natCast]
      have h1 : B * ((m.ts[t]?.getD []).length - (g.th t).bg) + B ≤ B * (m.ts[t]?.getD []).length := by
        rw [← Nat.mul_succ]
        exact Nat.mul_le_mul_left B (by omega)
      omega
/-- Who has nothing left to do has done all its calls. -/
theorem todo_zero (ho : ObjOk Gh m A k gK has0 Fin Inv) {B : Nat} {F : List Int → List Ins → Nat → (Int → Int) → Nat} (hB : 1 ≤ B) (hp : Prog m A Inv B F) {t : Nat} (ht : A t) {S : List Nat} (hS : ∀ n ∈ S, A n) (h0 : todo m B F (plyG m 0 S (g0 m)) t = 0) : ((plyG m 0 S (g0 m)).th t).now = none ∧ (m.ts[t]?.getD []).length ≤ ((plyG m 0 S (g0 m)).th t).bg := by
  obtain ⟨L, rs, has, gh, loc, H⟩ := obj_run ho S hS
  generalize plyG m 0 S (g0 m) = g at *
  unfold todo at h0
  cases hl : (g.th t).now with
  | none =>
    rw [hl] at h0
    refine ⟨rfl, ?_⟩
    have : B * ((m.ts[t]?.getD []).length - (g.th t).bg) = 0 := by simpa using h0
    rcases Nat.mul_eq_zero.1 this with h | h <;> omega
  | some l =>
    cases hloc : loc t with
    | none => rw [(H.out t).2 hloc] at hl; cases hl
    | some q =>
      obtain ⟨i, c, p, r, lt, b, v⟩ := q
      obtain ⟨a1, a2, a3, a4, a5⟩ := H.at_ t i c p r lt b v hloc
      obtain ⟨f1, f2⟩ := hp.pos _ _ _ _ _ _ _ _ _ _ _ _ ht H.inv hloc a2
      rw [a1] at h0
      dsimp only at h0
      rw [Int.toNat_natCast] at h0
      omega
/-- A thread that is alone for long enough has done all its calls. -/
theorem alone_done (ho : ObjOk Gh m A k gK has0 Fin Inv) {B : Nat} {F : List Int → List Ins → Nat → (Int → Int) → Nat} (hB : 1 ≤ B) (hp : Prog m A Inv B F) {t : Nat} (ht : A t) {S : List Nat} (hS : ∀ n ∈ S, A n) {j : Nat} (hj : B * (m.ts[t]?.getD []).length ≤ j) :
    ((plyG m 0 (S ++ List.replicate j t) (g0 m)).th t).now = none ∧ (m.ts[t]?.getD []).length ≤ ((plyG m 0 (S ++ List.replicate j t) (g0 m)).th t).bg := by
  refine todo_zero ho hB hp ht (fun n hn => ?_) ?_
  · rcases List.mem_append.1 hn with hn | hn
    · exact hS n hn
    · rw [List.eq_of_mem_replicate hn]; exact ht
  · have h1 := todo_alone ho hB hp ht hS j
    have h2 := todo_le ho hB hp ht hS
    omega
end
/-- Who has done all its calls has one for each, and all have ended. -/
theorem all_ended {m : Mc} {sb se : Nat} {g : Gs} (h : Hs sb se g) {t : Nat} (hn : (g.th t).now = none) : ∀ d ∈ dgs g.out, d.th = t → d.e ≠ -1 := by
  intro d hd ht he
  have := ((h.opn d hd).1 he).1
  rw [ht] at this
  exact this hn
end Go.Baro
