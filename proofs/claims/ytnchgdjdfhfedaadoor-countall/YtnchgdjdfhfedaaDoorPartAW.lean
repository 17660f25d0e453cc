/- Of this claim's own texts these, one behind the other: ObjPure2, CountAlg2. No statement of the seat is proved here; no condition but those that stand at the theorems. -/
import Derived.Test.YtnchgdjdfhfedaaDoorPartAV
import Derived.Test.YtnchgdjdfhfedaaDoorPartAM
set_option linter.unusedSimpArgs false
set_option linter.unusedVariables false
namespace Go.Baro
open Go.RowKit (wrap64)
section
variable {Gh : Type} {m : Mc} {A : Nat → Prop} {k : Int} {gK : Key → Ac} {has0 : List Int} {Fin : Key → List Int → Bool → Int → Prop} {Inv : List Int → List Int → Gh → (Nat → Option Lc) → Prop}
/-- A step of who is alone brings its call nearer to its end. -/
structure Prog (m : Mc) (A : Nat → Prop) (Inv : List Int → List Int → Gh → (Nat → Option Lc) → Prop) (B : Nat) (F : List Int → List Ins → Nat → (Int → Int) → Nat) : Prop where
  pos : ∀ w has gh loc t i c p r l b v, A t → Inv w has gh loc → loc t = some ⟨i, c, p, r, l, b, v⟩ → p ≠ c.length → 1 ≤ F w c p r ∧ F w c p r ≤ B
  dec : ∀ w has gh loc t i c p r l b v p' r' l' w', A t → Inv w has gh loc → loc t = some ⟨i, c, p, r, l, b, v⟩ → p ≠ c.length → Nx c p r l w p' r' l' w' → p' ≠ c.length → F w' c p' r' < F w c p r
/-- How many steps a thread has yet to do, at most, if it is alone. -/
def todo (m : Mc) (B : Nat) (F : List Int → List Ins → Nat → (Int → Int) → Nat) (g : Gs) (t : Nat) : Nat :=
  (match (g.th t).now with | some l => F g.w l.c l.p.toNat l.r | none => 0) + B * ((m.ts[t]?.getD []).length - (g.th t).bg)
theorem nx_det {c : List Ins} {p : Nat} {r : Int → Int} {l w : List Int} {p1 p2 : Nat} {r1 r2 : Int → Int} {l1 l2 w1 w2 : List Int} (h1 : Nx c p r l w p1 r1 l1 w1) (h2 : Nx c p r l w p2 r2 l2 w2) : p1 = p2 ∧ r1 = r2 ∧ l1 = l2 ∧ w1 = w2 := by
  unfold Nx at h1 h2
  rw [h1] at h2
  injection h2 with e1 e2
  injection e1 with _ e3 e4 e5
  injection e2 with e6 _
  exact ⟨by omega, e4, e5, e6⟩
theorem todo_step (ho : ObjOk Gh m A k gK has0 Fin Inv) {B : Nat} {F : List Int → List Ins → Nat → (Int → Int) → Nat} (hB : 1 ≤ B) (hp : Prog m A Inv B F) {t : Nat} (ht : A t) {S : List Nat} (hS : ∀ n ∈ S, A n) :
    todo m B F (plyG m 0 (S ++ [t]) (g0 m)) t ≤ todo m B F (plyG m 0 S (g0 m)) t - 1 := by
  obtain ⟨L, rs, has, gh, loc, H⟩ := obj_run ho S hS
  rw [ply_snoc, actG_eq]
  generalize plyG m 0 S (g0 m) = g at *
  -- an instruction of a call that is open
  have hexec : ∀ (gb : Gs) (sb : Nat) (gh : Gh) (loc : Nat → Option Lc), ObjJ A k gK has0 Fin Inv S sb gb L rs has gh loc → ∀ l, (gb.th t).now = some l → ∃ X, todo m B F gb t = X + B * ((m.ts[t]?.getD []).length - (gb.th t).bg) ∧ 1 ≤ X ∧ X ≤ B ∧ todo m B F (exG gb S.length t) t + 1 ≤ X + B * ((m.ts[t]?.getD []).length - (gb.th t).bg) := by
    intro gb sb gh loc H l hl
    cases hloc : loc t with
    | none => rw [(H.out t).2 hloc] at hl; cases hl
    | some q =>
      obtain ⟨i, c, p, r, lt, b, v⟩ := q
      obtain ⟨a1, a2, a3, a4, a5⟩ := H.at_ t i c p r lt b v hloc
      obtain ⟨f1, f2⟩ := hp.pos _ _ _ _ _ _ _ _ _ _ _ _ ht H.inv hloc a2
      obtain ⟨p', r', l', w', b', v', has', gh', k1, k2, k3, k4⟩ := ho.step _ _ _ _ t i c p r lt b v ht H.inv hloc a2
      have hstep := exG_nx (st := S.length) a1 k1
      refine ⟨F gb.w c p r, ?_, f1, f2, ?_⟩
      · unfold todo; rw [a1]; simp
      · rw [hstep]
        by_cases hpc : p' = c.length
        · rw [if_pos hpc]
          unfold todo
          dsimp only
          rw [putT_same]
          dsimp only
          omega
        · rw [if_neg hpc]
          have hd := hp.dec _ _ _ _ _ _ _ _ _ _ _ _ _ _ _ _ ht H.inv hloc a2 k1 hpc
          unfold todo
          dsimp only
          rw [putT_same]
          dsimp only
          rw [Int.toNat_natCast]
          omega
  rcases bgG_cases m g S.length t with ⟨h1, h2⟩ | ⟨c, h1, h2, h3⟩
  · rw [h1]
    rcases h2 with h2 | ⟨h2, h4⟩
    · cases hl : (g.th t).now with
      | none => exact absurd hl h2
      | some l =>
        obtain ⟨X, x1, x2, x3, x4⟩ := hexec g _ _ _ H l hl
        omega
    · rw [exG_none h2]
      have : todo m B F g t = 0 := by
        unfold todo
        rw [h2, Nat.sub_eq_zero_of_le h4]
        simp
      omega
  · obtain ⟨gh', loc', Hb⟩ := obj_begin ho ht H
    have hbg := (List.getElem?_eq_some_iff.1 h2).1
    have hnow : ((bgG m g S.length t).th t).now = some (live (m.cs[c.k.toNat]?.getD []) c.ar) ∧ ((bgG m g S.length t).th t).bg = (g.th t).bg + 1 := by rw [h3]; dsimp only; rw [putT_same]; exact ⟨rfl, rfl⟩
    obtain ⟨X, x1, x2, x3, x4⟩ := hexec _ _ _ _ Hb _ hnow.1
    rw [hnow.2] at x4
    have : todo m B F g t = B * ((m.ts[t]?.getD []).length - (g.th t).bg) := by unfold todo; rw [h1]; simp
    rw [this]
    have hB1 : B * ((m.ts[t]?.getD []).length - (g.th t).bg) = B * ((m.ts[t]?.getD []).length - ((g.th t).bg + 1)) + B := by
      rw [← Nat.mul_succ]; congr 1; omega
    omega
theorem todo_alone (ho : ObjOk Gh m A k gK has0 Fin Inv) {B : Nat} {F : List Int → List Ins → Nat → (Int → Int) → Nat} (hB : 1 ≤ B) (hp : Prog m A Inv B F) {t : Nat} (ht : A t) {S : List Nat} (hS : ∀ n ∈ S, A n) : ∀ j, todo m B F (plyG m 0 (S ++ List.replicate j t) (g0 m)) t ≤ todo m B F (plyG m 0 S (g0 m)) t - j
  | 0 => by simp
  | j + 1 => by
    rw [List.replicate_succ', ← List.append_assoc]
    have h1 := todo_step ho hB hp ht (S := S ++ List.replicate j t) (fun n hn => by
      rcases List.mem_append.1 hn with hn | hn
      · exact hS n hn
      · rw [List.eq_of_mem_replicate hn]; exact ht)
    have h2 := todo_alone ho hB hp ht hS j
    omega
theorem todo_le (ho : ObjOk Gh m A k gK has0 Fin Inv) {B : Nat} {F : List Int → List Ins → Nat → (Int → Int) → Nat} (hB : 1 ≤ B) (hp : Prog m A Inv B F) {t : Nat} (ht : A t) {S : List Nat} (hS : ∀ n ∈ S, A n) : todo m B F (plyG m 0 S (g0 m)) t ≤ B * (m.ts[t]?.getD []).length := by
  obtain ⟨L, rs, has, gh, loc, H⟩ := obj_run ho S hS
  have hle := bg_le m S t
  generalize plyG m 0 S (g0 m) = g at *
  unfold todo
  cases hl : (g.th t).now with
  | none =>
    have := Nat.mul_le_mul_left B (Nat.sub_le (m.ts[t]?.getD []).length (g.th t).bg)
    simpa using this
  | some l =>
    cases hloc : loc t with
    | none => rw [(H.out t).2 hloc] at hl; cases hl
    | some q =>
      obtain ⟨i, c, p, r, lt, b, v⟩ := q
      obtain ⟨a1, a2, a3, a4, a5⟩ := H.at_ t i c p r lt b v hloc
      obtain ⟨f1, f2⟩ := hp.pos _ _ _ _ _ _ _ _ _ _ _ _ ht H.inv hloc a2
      rw [hl] at a1
      injection a1 with a1
      subst a1
      dsimp only
      rw [Int.toNat_natCast]
      have h1 : B * ((m.ts[t]?.getD []).length - (g.th t).bg) + B ≤ B * (m.ts[t]?.getD []).length := by
        rw [← Nat.mul_succ]
        exact Nat.mul_le_mul_left B (by omega)
      omega
/-- Who has nothing left to do has done all its calls. -/
theorem todo_zero (ho : ObjOk Gh m A k gK has0 Fin Inv) {B : Nat} {F : List Int → List Ins → Nat → (Int → Int) → Nat} (hB : 1 ≤ B) (hp : Prog m A Inv B F) {t : Nat} (ht : A t) {S : List Nat} (hS : ∀ n ∈ S, A n) (h0 : todo m B F (plyG m 0 S (g0 m)) t = 0) : ((plyG m 0 S (g0 m)).th t).now = none ∧ (m.ts[t]?.getD []).length ≤ ((plyG m 0 S (g0 m)).th t).bg := by
  obtain ⟨L, rs, has, gh, loc, H⟩ := obj_run ho S hS
  generalize plyG m 0 S (g0 m) = g at *
  unfold todo at h0
  cases hl : (g.th t).now with
  | none =>
    rw [hl] at h0
    refine ⟨rfl, ?_⟩
    have : B * ((m.ts[t]?.getD []).length - (g.th t).bg) = 0 := by simpa using h0
    rcases Nat.mul_eq_zero.1 this with h | h <;> omega
  | some l =>
    cases hloc : loc t with
    | none => rw [(H.out t).2 hloc] at hl; cases hl
    | some q =>
      obtain ⟨i, c, p, r, lt, b, v⟩ := q
      obtain ⟨a1, a2, a3, a4, a5⟩ := H.at_ t i c p r lt b v hloc
      obtain ⟨f1, f2⟩ := hp.pos _ _ _ _ _ _ _ _ _ _ _ _ ht H.inv hloc a2
      rw [a1] at h0
      dsimp only at h0
      rw [Int.toNat_natCast] at h0
      omega
/-- A thread that is alone for long enough has done all its calls. -/
theorem alone_done (ho : ObjOk Gh m A k gK has0 Fin Inv) {B : Nat} {F : List Int → List Ins → Nat → (Int → Int) → Nat} (hB : 1 ≤ B) (hp : Prog m A Inv B F) {t : Nat} (ht : A t) {S : List Nat} (hS : ∀ n ∈ S, A n) {j : Nat} (hj : B * (m.ts[t]?.getD []).length ≤ j) :
    ((plyG m 0 (S ++ List.replicate j t) (g0 m)).th t).now = none ∧ (m.ts[t]?.getD []).length ≤ ((plyG m 0 (S ++ List.replicate j t) (g0 m)).th t).bg := by
  refine todo_zero ho hB hp ht (fun n hn => ?_) ?_
  · rcases List.mem_append.1 hn with hn | hn
    · exact hS n hn
    · rw [List.eq_of_mem_replicate hn]; exact ht
  · have h1 := todo_alone ho hB hp ht hS j
    have h2 := todo_le ho hB hp ht hS
    omega
end
/-- Who has done all its calls has one for each, and all have ended. -/
theorem all_ended {m : Mc} {sb se : Nat} {g : Gs} (h : Hs sb se g) {t : Nat} (hn : (g.th t).now = none) : ∀ d ∈ dgs g.out, d.th = t → d.e ≠ -1 := by
  intro d hd ht he
  have := ((h.opn d hd).1 he).1
  rw [ht] at this
  exact this hn
end Go.Baro

set_option linter.unusedSimpArgs false
set_option linter.unusedVariables false
namespace Go.Baro.Cnt
open Go.RowKit (wrap64)

def cC : Cu := ⟨[0], addC, getC⟩
variable {m : Mc}
theorem cnt_at {S : List Nat} {d : Dg} (h : Hs S.length S.length (plyG m 0 S (g0 m))) (hd : d ∈ dgs (plyG m 0 S (g0 m)).out) : ∃ c, (m.ts[d.th]?.getD [])[d.cl]? = some c := by
  have h1 := h.own d hd
  have h2 := bg_le m S d.th
  exact ⟨_, List.getElem?_eq_getElem (by omega)⟩
/-- What holds of each run. -/
theorem cnt_run (hm : Mok m) (S : List Nat) : ∃ L rs has gh loc, ObjJ (fun _ => True) 2 (gK m) m.ws Fin (Inv m) S S.length (plyG m 0 S (g0 m)) L rs has gh loc ∧ Log (fun _ _ => False) (dgs (plyG m 0 S (g0 m)).out) L ∧
    ∀ d ∈ dgs (plyG m 0 S (g0 m)).out, d.e ≠ -1 → dKey d ∈ L ∧ d.to = [rs (dKey d)] := by
  obtain ⟨L, rs, has, gh, loc, H⟩ := obj_run (cnt_ok hm) S (fun _ _ => trivial)
  refine ⟨L, rs, has, gh, loc, H, ⟨H.log.nd, H.log.mem, fun d hd he => (H.log.all d hd he).elim .inl (fun ⟨v, hv, _⟩ => by cases hv), H.log.ord⟩, fun d hd he => ?_⟩
  rcases H.told d hd he with ⟨h1, h2⟩ | ⟨v, _, h1, _⟩
  · have h3 : dKey d ∈ L := by simpa using h1
    rw [if_pos h3] at h2
    exact ⟨h3, h2⟩
  · cases h1
theorem cntA_of {d : Dg} {c : Cl} (h : (m.ts[d.th]?.getD [])[d.cl]? = some c) : cntA m d = ⟨d.b, d.e, (gK m (dKey d)).put, if d.e = -1 then 0 else d.to.headD 0, (gK m (dKey d)).add⟩ := by
  unfold cntA gK byK dKey
  rw [h]
  dsimp only
  by_cases hk : c.k = 0 <;> simp [hk]
theorem cnt_lin (hm : Mok m) (S : List Nat) : noErr (plyG m 0 S (g0 m)) ∧ (∀ d ∈ dgs (plyG m 0 S (g0 m)).out, d.e ≠ -1 → d.to.length = 1) ∧ Lin 2 m.ws ((dgs (plyG m 0 S (g0 m)).out).map (cntA m)) := by
  obtain ⟨L, rs, has, gh, loc, H, hL, ht⟩ := cnt_run hm S
  refine ⟨H.err, fun d hd he => by rw [(ht d hd he).2]; rfl, hL.lin (keys_once H.hs) H.run (cntA m) fun d hd => ?_⟩
  obtain ⟨c, hc⟩ := cnt_at H.hs hd
  rw [cntA_of hc]
  refine ⟨rfl, rfl, fun he => ((H.hs.bnd d hd).2 he).1, rfl, rfl, fun _ h => absurd rfl h, fun he => ?_⟩
  dsimp only
  rw [if_neg he, (ht d hd he).2]
  rfl
/-- How far a call is from its end, if it is alone. -/
def FC (w : List Int) (c : List Ins) (p : Nat) (r : Int → Int) : Nat :=
  if c.length = 5 then (if p = 0 then 5 else if p = 1 then (if r 1 = rd w 0 then 4 else 8) else if p = 2 then (if r 1 = rd w 0 then 3 else 7) else if p = 3 then (if r 3 = 0 then 6 else 2) else 1) else 2 - p
theorem cnt_prog (m : Mc) : Prog m (fun _ => True) (Inv m) 8 FC := by
  refine ⟨fun w has gh loc t i c p r l b v _ hI hl hp => ?_, fun w has gh loc t i c p r l b v p' r' l' w' _ hI hl hp hn hp' => ?_⟩
  · obtain ⟨h1, h2, h3, h4⟩ := hI
    unfold FC
    rcases h4 t i c p r l b v hl with ⟨rfl, a, hx, hA⟩ | ⟨rfl, hx, hG⟩
    · rw [if_pos (by rfl)]
      repeat' split
      all_goals omega
    · rw [if_neg (by decide)]
      cases hG with
      | g0 => omega
      | g1 => omega
      | fin => exact absurd rfl hp
  · obtain ⟨h1, h2, h3, h4⟩ := hI
    have hq0 : ∀ y : Int, y = 0 → wrap64 (y + 0) = (0 : Nat) := fun y hy => by rw [hy]; exact wrap_id (by omega)
    rcases h4 t i c p r l b v hl with ⟨rfl, a, hx, hA⟩ | ⟨rfl, hx, hG⟩
    · have h5 : addC.length = 5 := rfl
      unfold FC
      rw [if_pos h5, if_pos h5]
      cases hA with
      | a0 r A Z =>
        obtain ⟨e1, e2, e3, e4⟩ := nx_det hn (nx_load (q := 0) (by rfl) (hq0 _ Z) (by omega))
        subst e1 e2 e3 e4
        simp [upd_same]
      | a1 r A Z =>
        obtain ⟨e1, e2, e3, e4⟩ := nx_det hn (nx_add (by rfl) (by rw [A]))
        subst e1 e2 e3 e4
        simp only [upd_other _ _ (show (1 : Int) ≠ 3 by decide)]
        simp
        split <;> omega
      | a2 r A Z N =>
        by_cases hc : rd w 0 = r 1
        · obtain ⟨e1, e2, e3, e4⟩ := nx_det hn (nx_casT (q := 0) (by rfl) (hq0 _ Z) (by omega) hc)
          subst e1 e2 e3 e4
          simp [upd_same, hc]
        · obtain ⟨e1, e2, e3, e4⟩ := nx_det hn (nx_casF (q := 0) (by rfl) (hq0 _ Z) (by omega) hc)
          subst e1 e2 e3 e4
          simp [upd_same, Ne.symm hc]
      | no r A Z N =>
        obtain ⟨e1, e2, e3, e4⟩ := nx_det hn (nx_unlZ (by rfl) N)
        have e1 : p' = 0 := e1
        subst e1 e2 e3 e4
        simp [N]
      | yes r N V =>
        obtain ⟨e1, e2, e3, e4⟩ := nx_det hn (nx_unlN (by rfl) (by rw [N]; decide))
        subst e1 e2 e3 e4
        simp [N]
      | a4 r V =>
        obtain ⟨e1, e2, e3, e4⟩ := nx_det hn (nx_emit (by rfl) (by decide))
        exact absurd e1 hp'
      | fin r => exact absurd rfl hp
    · have h5 : ¬ getC.length = 5 := by decide
      unfold FC
      rw [if_neg h5, if_neg h5]
      cases hG with
      | g0 r Z =>
        obtain ⟨e1, e2, e3, e4⟩ := nx_det hn (nx_load (q := 0) (by rfl) (by rw [Z]; exact wrap_id (by omega)) (by omega))
        omega
      | g1 r V =>
        obtain ⟨e1, e2, e3, e4⟩ := nx_det hn (nx_emit (by rfl) (by decide))
        exact absurd e1 hp'
      | fin r => exact absurd rfl hp
theorem cnt_done (hm : Mok m) {t : Nat} (S : List Nat) {j : Nat} (hj : 8 * (m.ts[t]?.getD []).length ≤ j) :
    ((plyG m 0 (S ++ List.replicate j t) (g0 m)).th t).now = none ∧ (m.ts[t]?.getD []).length = ((plyG m 0 (S ++ List.replicate j t) (g0 m)).th t).bg := by
  obtain ⟨h1, h2⟩ := alone_done (cnt_ok hm) (by decide) (cnt_prog m) (t := t) trivial (S := S) (fun _ _ => trivial) hj
  have := bg_le m (S ++ List.replicate j t) t
  exact ⟨h1, by omega⟩
theorem cntC_cases (by_ : List Int) (i : Nat) : ((cntC by_ i).k = 0 ∧ ∃ a, (cntC by_ i).ar = [a] ∧ 1 ≤ a ∧ a ≤ 5) ∨ ((cntC by_ i).k = 1 ∧ (cntC by_ i).ar = []) := by
  unfold cntC
  split
  · rename_i h
    refine .inl ⟨rfl, _, rfl, by omega, ?_⟩
    unfold cntN at *
    omega
  · exact .inr ⟨rfl, rfl⟩
theorem mok_of {ts : List (List Cl)} (h : ∀ (t i : Nat) (c : Cl), (ts[t]?.getD [])[i]? = some c → (c.k = 0 ∧ ∃ a, c.ar = [a]) ∨ (c.k = 1 ∧ c.ar = [])) : Mok ⟨cC.ws, [cC.ca, cC.cg], ts⟩ :=
  ⟨rfl, fun x hx => by rw [List.mem_singleton.1 hx]; exact wrap_id (by omega), rfl, h⟩
theorem cntT_at {by_ : List Int} {t i : Nat} {c : Cl} (h : (cntT by_ t)[i]? = some c) : ∃ j, c = cntC by_ j := by
  have hm := List.mem_of_getElem? h
  simp only [cntT, List.mem_cons, List.not_mem_nil, or_false] at hm
  rcases hm with rfl | rfl | rfl <;> exact ⟨_, rfl⟩
theorem cnt3_at {by_ : List Int} {t i : Nat} {c : Cl} (h : (((mCount cC by_).ts)[t]?.getD [])[i]? = some c) : ∃ j, c = cntC by_ j := by
  match t, h with
  | 0, h => exact cntT_at h
  | 1, h => exact cntT_at h
  | 2, h => exact cntT_at h
  | t + 3, h => simp [mCount] at h
theorem cnt4_at {by_ : List Int} {t i : Nat} {c : Cl} (h : (((mCount4 cC by_).ts)[t]?.getD [])[i]? = some c) : (∃ j, c = cntC by_ j) ∨ (t = 3 ∧ c = ⟨1, []⟩) := by
  match t, h with
  | 0, h => exact .inl (cntT_at h)
  | 1, h => exact .inl (cntT_at h)
  | 2, h => exact .inl (cntT_at h)
  | 3, h =>
    right
    have := List.mem_of_getElem? h
    simp [mCount4] at this
    exact ⟨rfl, this⟩
  | t + 4, h => simp [mCount4] at h
theorem mok3 (by_ : List Int) : Mok (mCount cC by_) := mok_of fun t i c h => by
  obtain ⟨j, rfl⟩ := cnt3_at h
  exact (cntC_cases by_ j).imp (fun ⟨h1, a, h2, _⟩ => ⟨h1, a, h2⟩) id
theorem mok4 (by_ : List Int) : Mok (mCount4 cC by_) := mok_of fun t i c h => by
  rcases cnt4_at h with ⟨j, rfl⟩ | ⟨_, rfl⟩
  · exact (cntC_cases by_ j).imp (fun ⟨h1, a, h2, _⟩ => ⟨h1, a, h2⟩) id
  · exact .inr ⟨rfl, rfl⟩
theorem cnt3_len (by_ : List Int) (t : Nat) : (((mCount cC by_).ts)[t]?.getD []).length = if t < 3 then 3 else 0 := by
  match t with
  | 0 => rfl
  | 1 => rfl
  | 2 => rfl
  | t + 3 => simp [mCount]
/-- Any schedule. -/
theorem cnt_linD : CountLinD cC := by
  intro by_ S _ hS
  obtain ⟨h1, h2, h3⟩ := cnt_lin (mok3 by_) S
  have hs := hs_ply (mCount cC by_) S
  refine ⟨h1, fun d hd => ⟨h2 d hd, ?_⟩, ?_, h3⟩
  · have q1 := hs.own d hd
    have q2 := bg_le (mCount cC by_) S d.th
    rw [cnt3_len] at q2
    split at q2
    · exact ⟨by assumption, by omega⟩
    · omega
  · rw [dgs_count (fun n hn => by have := hS n hn; omega)]
    have q0 := bg_le (mCount cC by_) S 0
    have q1 := bg_le (mCount cC by_) S 1
    have q2 := bg_le (mCount cC by_) S 2
    have q3 := bg_le (mCount cC by_) S 3
    rw [cnt3_len] at q0 q1 q2 q3
    simp at q0 q1 q2 q3
    omega
theorem perm_sum {l l' : List Int} (h : l.Perm l') : l.sum = l'.sum := by
  induction h with
  | nil => rfl
  | cons x _ ih => simp [ih]
  | swap x y l => simp; omega
  | trans _ _ ih1 ih2 => exact ih1.trans ih2
/-- What the log of a number tells, if it never gets too large. -/
theorem num_log {g : Key → Ac} {rs : Key → Int} {L : List Key} {has : List Int} (hl : LogR 2 g rs [0] L has) (hg : ∀ x ∈ L, 0 ≤ (g x).add ∧ (g x).add ≤ 5 ∧ ((g x).put = true → 1 ≤ (g x).add)) (hn : L.length ≤ 1000) :
    has = [(L.map fun x => (g x).add).sum] ∧ 0 ≤ (L.map fun x => (g x).add).sum ∧ (L.map fun x => (g x).add).sum ≤ 5 * L.length ∧ (∀ a ∈ L, (g a).put = true → rs a < (L.map fun x => (g x).add).sum) ∧ (∀ a ∈ L, ∀ b ∈ L, a ≠ b → (g a).put = true → (g b).put = true → rs a ≠ rs b) ∧
    ∀ A key, L = A ++ [key] → rs key + (g key).add = (L.map fun x => (g x).add).sum := by
  induction hl with
  | nil => exact ⟨rfl, by simp, by simp, by simp, by simp, fun A key h => by simp at h⟩
  | @snoc h L key hl hr ih =>
    rw [List.length_append, List.length_singleton] at hn
    obtain ⟨i1, i2, i3, i4, i5, i6⟩ := ih (fun x hx => hg x (by simp [hx])) (by omega)
    obtain ⟨g1, g2, g3⟩ := hg key (by simp)
    have hsum : ((L ++ [key]).map fun x => (g x).add).sum = (L.map fun x => (g x).add).sum + (g key).add := by simp [List.sum_append]
    rw [hsum]
    generalize (L.map fun x => (g x).add).sum = s at *
    subst i1
    have hr' : s = rs key := hr
    have hw : (tel 2 [s] (g key)).2 = [s + (g key).add] := by
      show [wrap64 (s + (g key).add)] = _
      rw [wrap_id (by omega)]
    rw [List.length_append, List.length_singleton]
    refine ⟨hw, by omega, by omega, fun a ha hp => ?_, fun a ha b hb hab hpa hpb => ?_, fun A k hk => ?_⟩
    · rcases List.mem_append.1 ha with ha | ha
      · have := i4 a ha hp; omega
      · have e := List.mem_singleton.1 ha
        subst e
        have := g3 hp
        omega
    · rcases List.mem_append.1 ha with ha1 | ha
      · rcases List.mem_append.1 hb with hb1 | hb
        · exact i5 a ha1 b hb1 hab hpa hpb
        · have e := List.mem_singleton.1 hb
          subst e
          have := i4 a ha1 hpa
          omega
      · have e := List.mem_singleton.1 ha
        subst e
        rcases List.mem_append.1 hb with hb1 | hb
        · have := i4 b hb1 hpb
          omega
        · exact absurd (List.mem_singleton.1 hb).symm hab
    · obtain ⟨_, e⟩ := List.append_inj' hk rfl
      injection e with e _
      subst e
      omega
theorem cnt4_add {by_ : List Int} (x : Key) : 0 ≤ (gK (mCount4 cC by_) x).add ∧ (gK (mCount4 cC by_) x).add ≤ 5 ∧ ((gK (mCount4 cC by_) x).put = true → 1 ≤ (gK (mCount4 cC by_) x).add) := by
  have hb : ∀ a, byK (mCount4 cC by_) x = some a → 1 ≤ a ∧ a ≤ 5 := by
    intro a ha
    unfold byK at ha
    cases hc : ((mCount4 cC by_).ts[x.1]?.getD [])[x.2]? with
    | none => rw [hc] at ha; cases ha
    | some c =>
      rw [hc] at ha
      dsimp only at ha
      rcases cnt4_at hc with ⟨j, rfl⟩ | ⟨_, rfl⟩
      · rcases cntC_cases by_ j with ⟨k1, a', k2, k3⟩ | ⟨k1, k2⟩
        · rw [k1, k2] at ha
          simp at ha
          omega
        · rw [k1] at ha; simp at ha
      · simp at ha
  unfold gK
  cases hx : byK (mCount4 cC by_) x with
  | none => simp
  | some a =>
    have := hb a hx
    simp
    omega
theorem cnt4_len (by_ : List Int) (t : Nat) : (((mCount4 cC by_).ts)[t]?.getD []).length = if t < 3 then 3 else if t = 3 then 1 else 0 := by
  match t with
  | 0 => rfl
  | 1 => rfl
  | 2 => rfl
  | 3 => rfl
  | t + 4 => simp [mCount4]
/-- All calls. -/
theorem cnt_allD : CountAllD cC := by
  intro by_ S _ hS
  obtain ⟨R, hR, hRl⟩ : ∃ R, R = S ++ List.replicate 200 0 ++ List.replicate 200 1 ++ List.replicate 200 2 ∧ allS S = R ++ List.replicate 60 3 := ⟨_, rfl, rfl⟩
  have hm := mok4 by_
  -- who has done all
  have f0 : ((plyG (mCount4 cC by_) 0 R (g0 (mCount4 cC by_))).th 0).now = none ∧ ((plyG (mCount4 cC by_) 0 R (g0 (mCount4 cC by_))).th 0).bg = 3 := by
    obtain ⟨q1, q2⟩ := cnt_done hm S (t := 0) (j := 200) (by rw [cnt4_len]; decide)
    rw [cnt4_len] at q2
    rw [hR, th_later (fun n hn => by rw [List.eq_of_mem_replicate hn]; decide), th_later (fun n hn => by rw [List.eq_of_mem_replicate hn]; decide)]
    exact ⟨q1, q2.symm⟩
  have f1 : ((plyG (mCount4 cC by_) 0 R (g0 (mCount4 cC by_))).th 1).now = none ∧ ((plyG (mCount4 cC by_) 0 R (g0 (mCount4 cC by_))).th 1).bg = 3 := by
    obtain ⟨q1, q2⟩ := cnt_done hm (S ++ List.replicate 200 0) (t := 1) (j := 200) (by rw [cnt4_len]; decide)
    rw [cnt4_len] at q2
    rw [hR, th_later (fun n hn => by rw [List.eq_of_mem_replicate hn]; decide)]
    exact ⟨q1, q2.symm⟩
  have f2 : ((plyG (mCount4 cC by_) 0 R (g0 (mCount4 cC by_))).th 2).now = none ∧ ((plyG (mCount4 cC by_) 0 R (g0 (mCount4 cC by_))).th 2).bg = 3 := by
    obtain ⟨q1, q2⟩ := cnt_done hm (S ++ List.replicate 200 0 ++ List.replicate 200 1) (t := 2) (j := 200) (by rw [cnt4_len]; decide)
    rw [cnt4_len] at q2
    rw [hR]
    exact ⟨q1, q2.symm⟩
  have hR3 : ∀ n ∈ R, n < 3 := by
    rw [hR]
    intro n hn
    simp only [List.mem_append, List.mem_replicate] at hn
    rcases hn with ((hn | hn) | hn) | hn
    · exact hS n hn
    all_goals omega
  have f3 : (plyG (mCount4 cC by_) 0 R (g0 (mCount4 cC by_))).th 3 = ⟨none, 0⟩ := th_idle fun n hn => by have := hR3 n hn; omega
  have e3 : ((plyG (mCount4 cC by_) 0 (allS S) (g0 (mCount4 cC by_))).th 3).now = none ∧ ((plyG (mCount4 cC by_) 0 (allS S) (g0 (mCount4 cC by_))).th 3).bg = 1 := by
    obtain ⟨q1, q2⟩ := cnt_done hm R (t := 3) (j := 60) (by rw [cnt4_len]; decide)
    rw [cnt4_len] at q2
    rw [hRl]
    exact ⟨q1, q2.symm⟩
  have hlat : ∀ t, t ≠ 3 → (plyG (mCount4 cC by_) 0 (allS S) (g0 (mCount4 cC by_))).th t = (plyG (mCount4 cC by_) 0 R (g0 (mCount4 cC by_))).th t := fun t ht => by
    rw [hRl]
    exact th_later fun n hn => by rw [List.eq_of_mem_replicate hn]; exact Ne.symm ht
  have hA4 : ∀ n ∈ allS S, n < 4 := by
    rw [hRl]
    intro n hn
    rcases List.mem_append.1 hn with hn | hn
    · have := hR3 n hn; omega
    · have := List.eq_of_mem_replicate hn; omega
  have kR := dgs_count (m := mCount4 cC by_) (S := R) (fun n hn => by have := hR3 n hn; omega)
  rw [f0.2, f1.2, f2.2, f3] at kR
  have kA := dgs_count (m := mCount4 cC by_) hA4
  rw [hlat 0 (by decide), hlat 1 (by decide), hlat 2 (by decide), f0.2, f1.2, f2.2, e3.2] at kA
  have hsR := hs_ply (mCount4 cC by_) R
  have hth : ∀ (T : List Nat), (∀ d ∈ dgs (plyG (mCount4 cC by_) 0 T (g0 (mCount4 cC by_))).out, d.th < 4) := fun T d hd => by
    have q1 := (hs_ply (mCount4 cC by_) T).own d hd
    have q2 := bg_le (mCount4 cC by_) T d.th
    rw [cnt4_len] at q2
    by_cases h4 : d.th < 4
    · exact h4
    · rw [if_neg (by omega), if_neg (by omega)] at q2; omega
  have four : ∀ t : Nat, t < 4 → t = 0 ∨ t = 1 ∨ t = 2 ∨ t = 3 := fun t h => by omega
  have ER : ∀ d ∈ dgs (plyG (mCount4 cC by_) 0 R (g0 (mCount4 cC by_))).out, d.e ≠ -1 := fun d hd he => by
    have := ((hsR.opn d hd).1 he).1
    rcases four _ (hth R d hd) with h | h | h | h <;> rw [h] at this
    · exact this f0.1
    · exact this f1.1
    · exact this f2.1
    · rw [f3] at this; exact this rfl
  obtain ⟨L, rs, has, gh, loc, H, hL, ht⟩ := cnt_run hm (allS S)
  have EA : ∀ d ∈ dgs (plyG (mCount4 cC by_) 0 (allS S) (g0 (mCount4 cC by_))).out, d.e ≠ -1 := fun d hd he => by
    have := ((H.hs.opn d hd).1 he).1
    rcases four _ (hth _ d hd) with h | h | h | h <;> rw [h] at this
    · rw [hlat 0 (by decide)] at this; exact this f0.1
    · rw [hlat 1 (by decide)] at this; exact this f1.1
    · rw [hlat 2 (by decide)] at this; exact this f2.1
    · exact this e3.1
  obtain ⟨r, hr1, hr2⟩ := ply_behind (mCount4 cC by_) R (List.replicate 60 3) ER
  rw [← hRl] at hr1
  have hrl : r.length = 1 := by
    have := congrArg List.length hr1
    rw [List.length_append] at this
    dsimp only at kR
    omega
  obtain ⟨q, hq⟩ := List.length_eq_one_iff.1 hrl
  subst hq
  -- the log and the calls
  have hko := keys_once H.hs
  have hmemL : ∀ x, x ∈ L ↔ x ∈ (dgs (plyG (mCount4 cC by_) 0 (allS S) (g0 (mCount4 cC by_))).out).map dKey := fun x => by
    constructor
    · intro hx
      obtain ⟨d, hd, e⟩ := hL.mem x hx
      exact e ▸ List.mem_map_of_mem hd
    · intro hx
      obtain ⟨d, hd, rfl⟩ := List.mem_map.1 hx
      exact (ht d hd (EA d hd)).1
  have hperm : L.Perm ((dgs (plyG (mCount4 cC by_) 0 (allS S) (g0 (mCount4 cC by_))).out).map dKey) := (List.perm_ext_iff_of_nodup hL.nd hko).2 hmemL
  have hLl : L.length = 10 := by rw [hperm.length_eq, List.length_map, kA]
  obtain ⟨n1, n2, n3, n4, n5, n6⟩ := num_log H.run (fun x _ => cnt4_add x) (by omega)
  have hadd : ∀ d ∈ dgs (plyG (mCount4 cC by_) 0 (allS S) (g0 (mCount4 cC by_))).out, (cntA (mCount4 cC by_) d).put = (gK (mCount4 cC by_) (dKey d)).put ∧ (cntA (mCount4 cC by_) d).add = (gK (mCount4 cC by_) (dKey d)).add := fun d hd => by
    obtain ⟨c, hc⟩ := cnt_at H.hs hd
    rw [cntA_of hc]
    exact ⟨rfl, rfl⟩
  have hthree : ∀ d ∈ dgs (plyG (mCount4 cC by_) 0 (allS S) (g0 (mCount4 cC by_))).out, d.th = 3 → d = q := fun d hd h3 => by
    rw [hr1] at hd
    rcases List.mem_append.1 hd with hd | hd
    · have := hsR.own d hd
      rw [h3, f3] at this
      exact absurd this (Nat.not_lt_zero _)
    · exact List.mem_singleton.1 hd
  obtain ⟨d3, hd3, hd3t, _⟩ := H.hs.all 3 0 (by rw [e3.2]; decide)
  have hqd := hthree d3 hd3 hd3t
  subst hqd
  refine ⟨H.err, kA, fun d hd => ⟨EA d hd, by rw [(ht d hd (EA d hd)).2]; rfl⟩, ?_, ⟨d3, hd3, hd3t⟩, fun d hd h3 => ?_⟩
  · refine (List.pairwise_map.1 hko).imp_of_mem fun {a b} ha hb hab hpa hpb => ?_
    rw [(hadd a ha).1] at hpa
    rw [(hadd b hb).1] at hpb
    rw [(ht a ha (EA a ha)).2, (ht b hb (EA b hb)).2]
    exact n5 _ (ht a ha (EA a ha)).1 _ (ht b hb (EA b hb)).1 hab hpa hpb
  · have hdq := hthree d hd h3
    subst hdq
    have hm3 := (ht d hd (EA d hd)).1
    obtain ⟨A, B, hAB⟩ := List.append_of_mem hm3
    have hB : B = [] := by
      cases B with
      | nil => rfl
      | cons x B =>
        exfalso
        have hx : x ∈ L := by rw [hAB]; simp
        obtain ⟨y, hy, hyx⟩ := hL.mem x hx
        have ho := hL.ord
        rw [hAB] at ho
        have ho2 := (List.pairwise_cons.1 (List.pairwise_append.1 ho).2.1).1 x (by simp) d hd y hy rfl hyx (EA y hy)
        have hnd := hL.nd
        rw [hAB] at hnd
        have hne : dKey d ≠ x := by
          have := (List.nodup_cons.1 (List.nodup_append.1 hnd).2.1).1
          exact fun e => this (by rw [e]; simp)
        have hyR : y ∈ dgs (plyG (mCount4 cC by_) 0 R (g0 (mCount4 cC by_))).out := by
          rw [hr1] at hy
          rcases List.mem_append.1 hy with hy | hy
          · exact hy
          · rw [List.mem_singleton.1 hy] at hyx; exact absurd hyx hne
        have := ((hsR.bnd y hyR).2 (ER y hyR)).2
        have := hr2 d (by simp)
        omega
    subst hB
    have h6 := n6 A _ hAB
    have hz : (gK (mCount4 cC by_) (dKey d)).add = 0 := by
      obtain ⟨c, hc⟩ := cnt_at H.hs hd
      rw [h3] at hc
      have := List.mem_of_getElem? hc
      simp [mCount4] at this
      unfold gK byK dKey
      rw [h3, hc, this]
      rfl
    rw [(ht d hd (EA d hd)).2]
    show rs (dKey d) = _
    rw [hz] at h6
    have h7 : (L.map fun x => (gK (mCount4 cC by_) x).add).sum = ((dgs (plyG (mCount4 cC by_) 0 (allS S) (g0 (mCount4 cC by_))).out).map fun d => (cntA (mCount4 cC by_) d).add).sum := by
      rw [perm_sum (hperm.map _), List.map_map]
      congr 1
      exact List.map_congr_left fun d hd => (hadd d hd).2.symm
    omega
end Go.Baro.Cnt
