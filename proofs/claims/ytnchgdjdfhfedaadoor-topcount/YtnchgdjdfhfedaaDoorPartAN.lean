/- Of this claim's own texts these, one behind the other: CountAlg2, LinSpec, CntTop, LinPure3, LinPure4. No statement of the seat is proved here; no condition but those that stand at the theorems. -/
import Derived.Test.YtnchgdjdfhfedaaDoorPartAM
import Derived.Test.YtnchgdjdfhfedaaDoorPartAK
import Derived.Test.YtnchgdjdfhfedaaDoorPartAH
import Derived.Test.YtnchgdjdfhfedaaDoorPartAL
set_option linter.unusedSimpArgs false
set_option linter.unusedVariables false
namespace Go.Baro.Cnt
open Go.RowKit (wrap64)

def cC : Cu := ⟨[0], addC, getC⟩
variable {m : Mc}
theorem cnt_at {S : List Nat} {d : Dg} (h : Hs S.length S.length (plyG m 0 S (g0 m))) (hd : d ∈ dgs (plyG m 0 S (g0 m)).out) : ∃ c, (m.ts[d.th]?.getD [])[d.cl]? = some c := by
  have h1 := h.own d hd
  have h2 := bg_le m S d.th
  exact ⟨_, List.getElem?_eq_getElem (by omega)⟩
/-- What holds of each run. -/
theorem cnt_run (hm : Mok m) (S : List Nat) : ∃ L rs has gh loc, ObjJ (fun _ => True) 2 (gK m) m.ws Fin (Inv m) S S.length (plyG m 0 S (g0 m)) L rs has gh loc ∧ Log (fun _ _ => False) (dgs (plyG m 0 S (g0 m)).out) L ∧
    ∀ d ∈ dgs (plyG m 0 S (g0 m)).out, d.e ≠ -1 → dKey d ∈ L ∧ d.to = [rs (dKey d)] := by
  obtain ⟨L, rs, has, gh, loc, H⟩ := obj_run (cnt_ok hm) S (fun _ _ => trivial)
  refine ⟨L, rs, has, gh, loc, H, ⟨H.log.nd, H.log.mem, fun d hd he => (H.log.all d hd he).elim .inl (fun ⟨v, hv, _⟩ => by cases hv), H.log.ord⟩, fun d hd he => ?_⟩
  rcases H.told d hd he with ⟨h1, h2⟩ | ⟨v, _, h1, _⟩
  · have h3 : dKey d ∈ L := by simpa using h1
    rw [if_pos h3] at h2
    exact ⟨h3, h2⟩
  · cases h1
theorem cntA_of {d : Dg} {c : Cl} (h : (m.ts[d.th]?.getD [])[d.cl]? = some c) : cntA m d = ⟨d.b, d.e, (gK m (dKey d)).put, if d.e = -1 then 0 else d.to.headD 0, (gK m (dKey d)).add⟩ := by
  unfold cntA gK byK dKey
  rw [h]
  dsimp only
  by_cases hk : c.k = 0 <;> simp [hk]
theorem cnt_lin (hm : Mok m) (S : List Nat) : noErr (plyG m 0 S (g0 m)) ∧ (∀ d ∈ dgs (plyG m 0 S (g0 m)).out, d.e ≠ -1 → d.to.length = 1) ∧ Lin 2 m.ws ((dgs (plyG m 0 S (g0 m)).out).map (cntA m)) := by
  obtain ⟨L, rs, has, gh, loc, H, hL, ht⟩ := cnt_run hm S
  refine ⟨H.err, fun d hd he => by rw [(ht d hd he).2]; rfl, hL.lin (keys_once H.hs) H.run (cntA m) fun d hd => ?_⟩
  obtain ⟨c, hc⟩ := cnt_at H.hs hd
  rw [cntA_of hc]
  refine ⟨rfl, rfl, fun he => ((H.hs.bnd d hd).2 he).1, rfl, rfl, fun _ h => absurd rfl h, fun he => ?_⟩
  dsimp only
  rw [if_neg he, (ht d hd he).2]
  rfl
/-- How far a call is from its end, if it is alone. -/
def FC (w : List Int) (c : List Ins) (p : Nat) (r : Int → Int) : Nat :=
  if c.length = 5 then (if p = 0 then 5 else if p = 1 then (if r 1 = rd w 0 then 4 else 8) else if p = 2 then (if r 1 = rd w 0 then 3 else 7) else if p = 3 then (if r 3 = 0 then 6 else 2) else 1) else 2 - p
theorem cnt_prog (m : Mc) : Prog m (fun _ => True) (Inv m) 8 FC := by
  refine ⟨fun w has gh loc t i c p r l b v _ hI hl hp => ?_, fun w has gh loc t i c p r l b v p' r' l' w' _ hI hl hp hn hp' => ?_⟩
  · obtain ⟨h1, h2, h3, h4⟩ := hI
    unfold FC
    rcases h4 t i c p r l b v hl with ⟨rfl, a, hx, hA⟩ | ⟨rfl, hx, hG⟩
    · rw [if_pos (by rfl)]
      repeat' split
      all_goals omega
    · rw [if_neg (by decide)]
      cases hG with
      | g0 => omega
      | g1 => omega
      | fin => exact absurd rfl hp
  · obtain ⟨h1, h2, h3, h4⟩ := hI
    have hq0 : ∀ y : Int, y = 0 → wrap64 (y + 0) = (0 : Nat) := fun y hy => by rw [hy]; exact wrap_id (by omega)
    rcases h4 t i c p r l b v hl with ⟨rfl, a, hx, hA⟩ | ⟨rfl, hx, hG⟩
    · have h5 : addC.length = 5 := rfl
      unfold FC
      rw [if_pos h5, if_pos h5]
      cases hA with
      | a0 r A Z =>
        obtain ⟨e1, e2, e3, e4⟩ := nx_det hn (nx_load (q := 0) (by rfl) (hq0 _ Z) (by omega))
        subst e1 e2 e3 e4
        simp [upd_same]
      | a1 r A Z =>
        obtain ⟨e1, e2, e3, e4⟩ := nx_det hn (nx_add (by rfl) (by rw [A]))
        subst e1 e2 e3 e4
        simp only [upd_other _ _ (show (1 : Int) ≠ 3 by decide)]
        simp
        split <;> omega
      | a2 r A Z N =>
        by_cases hc : rd w 0 = r 1
        · obtain ⟨e1, e2, e3, e4⟩ := nx_det hn (nx_casT (q := 0) (by rfl) (hq0 _ Z) (by omega) hc)
          subst e1 e2 e3 e4
          simp [upd_same, hc]
        · obtain ⟨e1, e2, e3, e4⟩ := nx_det hn (nx_casF (q := 0) (by rfl) (hq0 _ Z) (by omega) hc)
          subst e1 e2 e3 e4
          simp [upd_same, Ne.symm hc]
      | no r A Z N =>
        obtain ⟨e1, e2, e3, e4⟩ := nx_det hn (nx_unlZ (by rfl) N)
        have e1 : p' = 0 := e1
        subst e1 e2 e3 e4
        simp [N]
      | yes r N V =>
        obtain ⟨e1, e2, e3, e4⟩ := nx_det hn (nx_unlN (by rfl) (by rw [N]; decide))
        subst e1 e2 e3 e4
        simp [N]
      | a4 r V =>
        obtain ⟨e1, e2, e3, e4⟩ := nx_det hn (nx_emit (by rfl) (by decide))
        exact absurd e1 hp'
      | fin r => exact absurd rfl hp
    · have h5 : ¬ getC.length = 5 := by decide
      unfold FC
      rw [if_neg h5, if_neg h5]
      cases hG with
      | g0 r Z =>
        obtain ⟨e1, e2, e3, e4⟩ := nx_det hn (nx_load (q := 0) (by rfl) (by rw [Z]; exact wrap_id (by omega)) (by omega))
        omega
      | g1 r V =>
        obtain ⟨e1, e2, e3, e4⟩ := nx_det hn (nx_emit (by rfl) (by decide))
        exact absurd e1 hp'
      | fin r => exact absurd rfl hp
theorem cnt_done (hm : Mok m) {t : Nat} (S : List Nat) {j : Nat} (hj : 8 * (m.ts[t]?.getD []).length ≤ j) :
    ((plyG m 0 (S ++ List.replicate j t) (g0 m)).th t).now = none ∧ (m.ts[t]?.getD []).length = ((plyG m 0 (S ++ List.replicate j t) (g0 m)).th t).bg := by
  obtain ⟨h1, h2⟩ := alone_done (cnt_ok hm) (by decide) (cnt_prog m) (t := t) trivial (S := S) (fun _ _ => trivial) hj
  have := bg_le m (S ++ List.replicate j t) t
  exact ⟨h1, by omega⟩
theorem cntC_cases (by_ : List Int) (i : Nat) : ((cntC by_ i).k = 0 ∧ ∃ a, (cntC by_ i).ar = [a] ∧ 1 ≤ a ∧ a ≤ 5) ∨ ((cntC by_ i).k = 1 ∧ (cntC by_ i).ar = []) := by
  unfold cntC
  split
  · rename_i h
    refine .inl ⟨rfl, _, rfl, by omega, ?_⟩
    unfold cntN at *
    omega
  · exact .inr ⟨rfl, rfl⟩
theorem mok_of {ts : List (List Cl)} (h : ∀ (t i : Nat) (c : Cl), (ts[t]?.getD [])[i]? = some c → (c.k = 0 ∧ ∃ a, c.ar = [a]) ∨ (c.k = 1 ∧ c.ar = [])) : Mok ⟨cC.ws, [cC.ca, cC.cg], ts⟩ :=
  ⟨rfl, fun x hx => by rw [List.mem_singleton.1 hx]; exact wrap_id (by omega), rfl, h⟩
theorem cntT_at {by_ : List Int} {t i : Nat} {c : Cl} (h : (cntT by_ t)[i]? = some c) : ∃ j, c = cntC by_ j := by
  have hm := List.mem_of_getElem? h
  simp only [cntT, List.mem_cons, List.not_mem_nil, or_false] at hm
  rcases hm with rfl | rfl | rfl <;> exact ⟨_, rfl⟩
theorem cnt3_at {by_ : List Int} {t i : Nat} {c : Cl} (h : (((mCount cC by_).ts)[t]?.getD [])[i]? = some c) : ∃ j, c = cntC by_ j := by
  match t, h with
  | 0, h => exact cntT_at h
  | 1, h => exact cntT_at h
  | 2, h => exact cntT_at h
  | t + 3, h => simp [mCount] at h
theorem cnt4_at {by_ : List Int} {t i : Nat} {c : Cl} (h : (((mCount4 cC by_).ts)[t]?.getD [])[i]? = some c) : (∃ j, c = cntC by_ j) ∨ (t = 3 ∧ c = ⟨1, []⟩) := by
  match t, h with
  | 0, h => exact .inl (cntT_at h)
  | 1, h => exact .inl (cntT_at h)
  | 2, h => exact .inl (cntT_at h)
  | 3, h =>
    right
    have := List.mem_of_getElem? h
    simp [mCount4] at this
    exact ⟨rfl, this⟩
  | t + 4, h => simp [mCount4] at h
theorem mok3 (by_ : List Int) : Mok (mCount cC by_) := mok_of fun t i c h => by
  obtain ⟨j, rfl⟩ := cnt3_at h
  exact (cntC_cases by_ j).imp (fun ⟨h1, a, h2, _⟩ => ⟨h1, a, h2⟩) id
theorem mok4 (by_ : List Int) : Mok (mCount4 cC by_) := mok_of fun t i c h => by
  rcases cnt4_at h with ⟨j, rfl⟩ | ⟨_, rfl⟩
  · exact (cntC_cases by_ j).imp (fun ⟨h1, a, h2, _⟩ => ⟨h1, a, h2⟩) id
  · exact .inr ⟨rfl, rfl⟩
theorem cnt3_len (by_ : List Int) (t : Nat) : (((mCount cC by_).ts)[t]?.getD []).length = if t < 3 then 3 else 0 := by
  match t with
  | 0 => rfl
  | 1 => rfl
  | 2 => rfl
  | t + 3 => simp [mCount]
/-- Any schedule. -/
theorem cnt_linD : CountLinD cC := by
  intro by_ S _ hS
  obtain ⟨h1, h2, h3⟩ := cnt_lin (mok3 by_) S
  have hs := hs_ply (mCount cC by_) S
  refine ⟨h1, fun d hd => ⟨h2 d hd, ?_⟩, ?_, h3⟩
  · have q1 := hs.own d hd
    have q2 := bg_le (mCount cC by_) S d.th
    rw [cnt3_len] at q2
    split at q2
    · exact ⟨by assumption, by omega⟩
    · omega
  · rw [dgs_count (fun n hn => by have := hS n hn; omega)]
    have q0 := bg_le (mCount cC by_) S 0
    have q1 := bg_le (mCount cC by_) S 1
    have q2 := bg_le (mCount cC by_) S 2
    have q3 := bg_le (mCount cC by_) S 3
    rw [cnt3_len] at q0 q1 q2 q3
    simp at q0 q1 q2 q3
    omega
theorem perm_sum {l l' : List Int} (h : l.Perm l') : l.sum = l'.sum := by
  induction h with
  | nil => rfl
  | cons x _ ih => simp [ih]
  | swap x y l => simp; omega
  | trans _ _ ih1 ih2 => exact ih1.trans ih2
/-- What the log of a number tells, if it never gets too large. -/
theorem num_log {g : Key → Ac} {rs : Key → Int} {L : List Key} {has : List Int} (hl : LogR 2 g rs [0] L has) (hg : ∀ x ∈ L, 0 ≤ (g x).add ∧ (g x).add ≤ 5 ∧ ((g x).put = true → 1 ≤ (g x).add)) (hn : L.length ≤ 1000) :
    has = [(L.map fun x => (g x).add).sum] ∧ 0 ≤ (L.map fun x => (g x).add).sum ∧ (L.map fun x => (g x).add).sum ≤ 5 * L.length ∧ (∀ a ∈ L, (g a).put = true → rs a < (L.map fun x => (g x).add).sum) ∧ (∀ a ∈ L, ∀ b ∈ L, a ≠ b → (g a).put = true → (g b).put = true → rs a ≠ rs b) ∧
    ∀ A key, L = A ++ [key] → rs key + (g key).add = (L.map fun x => (g x).add).sum := by
  induction hl with
  | nil => exact ⟨rfl, by simp, by simp, by simp, by simp, fun A key h => by simp at h⟩
  | @snoc h L key hl hr ih =>
    rw [List.length_append, List.length_singleton] at hn
    obtain ⟨i1, i2, i3, i4, i5, i6⟩ := ih (fun x hx => hg x (by simp [hx])) (by omega)
    obtain ⟨g1, g2, g3⟩ := hg key (by simp)
    have hsum : ((L ++ [key]).map fun x => (g x).add).sum = (L.map fun x => (g x).add).sum + (g key).add := by simp [List.sum_append]
    rw [hsum]
    generalize (L.map fun x => (g x).add).sum = s at *
    subst i1
    have hr' : s = rs key := hr
    have hw : (tel 2 [s] (g key)).2 = [s + (g key).add] := by
      show [wrap64 (s + (g key).add)] = _
      rw [wrap_id (by omega)]
    rw [List.length_append, List.length_singleton]
    refine ⟨hw, by omega, by omega, fun a ha hp => ?_, fun a ha b hb hab hpa hpb => ?_, fun A k hk => ?_⟩
    · rcases List.mem_append.1 ha with ha | ha
      · have := i4 a ha hp; omega
      · have e := List.mem_singleton.1 ha
        subst e
        have := g3 hp
        omega
    · rcases List.mem_append.1 ha with ha1 | ha
      · rcases List.mem_append.1 hb with hb1 | hb
        · exact i5 a ha1 b hb1 hab hpa hpb
        · have e := List.mem_singleton.1 hb
          subst e
          have := i4 a ha1 hpa
          omega
      · have e := List.mem_singleton.1 ha
        subst e
        rcases List.mem_append.1 hb with hb1 | hb
        · have := i4 b hb1 hpb
          omega
        · exact absurd (List.mem_singleton.1 hb).symm hab
    · obtain ⟨_, e⟩ := List.append_inj' hk rfl
      injection e with e _
      subst e
      omega
theorem cnt4_add {by_ : List Int} (x : Key) : 0 ≤ (gK (mCount4 cC by_) x).add ∧ (gK (mCount4 cC by_) x).add ≤ 5 ∧ ((gK (mCount4 cC by_) x).put = true → 1 ≤ (gK (mCount4 cC by_) x).add) := by
  have hb : ∀ a, byK (mCount4 cC by_) x = some a → 1 ≤ a ∧ a ≤ 5 := by
    intro a ha
    unfold byK at ha
    cases hc : ((mCount4 cC by_).ts[x.1]?.getD [])[x.2]? with
    | none => rw [hc] at ha; cases ha
    | some c =>
      rw [hc] at ha
      dsimp only at ha
      rcases cnt4_at hc with ⟨j, rfl⟩ | ⟨_, rfl⟩
      · rcases cntC_cases by_ j with ⟨k1, a', k2, k3⟩ | ⟨k1, k2⟩
        · rw [k1, k2] at ha
          simp at ha
          omega
        · rw [k1] at ha; simp at ha
      · simp at ha
  unfold gK
  cases hx : byK (mCount4 cC by_) x with
  | none => simp
  | some a =>
    have := hb a hx
    simp
    omega
theorem cnt4_len (by_ : List Int) (t : Nat) : (((mCount4 cC by_).ts)[t]?.getD []).length = if t < 3 then 3 else if t = 3 then 1 else 0 := by
  match t with
  | 0 => rfl
  | 1 => rfl
  | 2 => rfl
  | 3 => rfl
  | t + 4 => simp [mCount4]
/-- All calls. -/
theorem cnt_allD : CountAllD cC := by
  intro by_ S _ hS
  obtain ⟨R, hR, hRl⟩ : ∃ R, R = S ++ List.replicate 200 0 ++ List.replicate 200 1 ++ List.replicate 200 2 ∧ allS S = R ++ List.replicate 60 3 := ⟨_, rfl, rfl⟩
  have hm := mok4 by_
  -- who has done all
  have f0 : ((plyG (mCount4 cC by_) 0 R (g0 (mCount4 cC by_))).th 0).now = none ∧ ((plyG (mCount4 cC by_) 0 R (g0 (mCount4 cC by_))).th 0).bg = 3 := by
    obtain ⟨q1, q2⟩ := cnt_done hm S (t := 0) (j := 200) (by rw [cnt4_len]; decide)
    rw [cnt4_len] at q2
    rw [hR, th_later (fun n hn => by rw [List.eq_of_mem_replicate hn]; decide), th_later (fun n hn => by rw [List.eq_of_mem_replicate hn]; decide)]
    exact ⟨q1, q2.symm⟩
  have f1 : ((plyG (mCount4 cC by_) 0 R (g0 (mCount4 cC by_))).th 1).now = none ∧ ((plyG (mCount4 cC by_) 0 R (g0 (mCount4 cC by_))).th 1).bg = 3 := by
    obtain ⟨q1, q2⟩ := cnt_done hm (S ++ List.replicate 200 0) (t := 1) (j := 200) (by rw [cnt4_len]; decide)
    rw [cnt4_len] at q2
    rw [hR, th_later (fun n hn => by rw [List.eq_of_mem_replicate hn]; decide)]
    exact ⟨q1, q2.symm⟩
  have f2 : ((plyG (mCount4 cC by_) 0 R (g0 (mCount4 cC by_))).th 2).now = none ∧ ((plyG (mCount4 cC by_) 0 R (g0 (mCount4 cC by_))).th 2).bg = 3 := by
    obtain ⟨q1, q2⟩ := cnt_done hm (S ++ List.replicate 200 0 ++ List.replicate 200 1) (t := 2) (j := 200) (by rw [cnt4_len]; decide)
    rw [cnt4_len] at q2
    rw [hR]
    exact ⟨q1, q2.symm⟩
  have hR3 : ∀ n ∈ R, n < 3 := by
    rw [hR]
    intro n hn
    simp only [List.mem_append, List.mem_replicate] at hn
    rcases hn with ((hn | hn) | hn) | hn
    · exact hS n hn
    all_goals omega
  have f3 : (plyG (mCount4 cC by_) 0 R (g0 (mCount4 cC by_))).th 3 = ⟨none, 0⟩ := th_idle fun n hn => by have := hR3 n hn; omega
  have e3 : ((plyG (mCount4 cC by_) 0 (allS S) (g0 (mCount4 cC by_))).th 3).now = none ∧ ((plyG (mCount4 cC by_) 0 (allS S) (g0 (mCount4 cC by_))).th 3).bg = 1 := by
    obtain ⟨q1, q2⟩ := cnt_done hm R (t := 3) (j := 60) (by rw [cnt4_len]; decide)
    rw [cnt4_len] at q2
    rw [hRl]
    exact ⟨q1, q2.symm⟩
  have hlat : ∀ t, t ≠ 3 → (plyG (mCount4 cC by_) 0 (allS S) (g0 (mCount4 cC by_))).th t = (plyG (mCount4 cC by_) 0 R (g0 (mCount4 cC by_))).th t := fun t ht => by
    rw [hRl]
    exact th_later fun n hn => by rw [List.eq_of_mem_replicate hn]; exact Ne.symm ht
  have hA4 : ∀ n ∈ allS S, n < 4 := by
    rw [hRl]
    intro n hn
    rcases List.mem_append.1 hn with hn | hn
    · have := hR3 n hn; omega
    · have := List.eq_of_mem_replicate hn; omega
  have kR := dgs_count (m := mCount4 cC by_) (S := R) (fun n hn => by have := hR3 n hn; omega)
  rw [f0.2, f1.2, f2.2, f3] at kR
  have kA := dgs_count (m := mCount4 cC by_) hA4
  rw [hlat 0 (by decide), hlat 1 (by decide), hlat 2 (by decide), f0.2, f1.2, f2.2, e3.2] at kA
  have hsR := hs_ply (mCount4 cC by_) R
  have hth : ∀ (T : List Nat), (∀ d ∈ dgs (plyG (mCount4 cC by_) 0 T (g0 (mCount4 cC by_))).out, d.th < 4) := fun T d hd => by
    have q1 := (hs_ply (mCount4 cC by_) T).own d hd
    have q2 := bg_le (mCount4 cC by_) T d.th
    rw [cnt4_len] at q2
    by_cases h4 : d.th < 4
    · exact h4
    · rw [if_neg (by omega), if_neg (by omega)] at q2; omega
  have four : ∀ t : Nat, t < 4 → t = 0 ∨ t = 1 ∨ t = 2 ∨ t = 3 := fun t h => by omega
  have ER : ∀ d ∈ dgs (plyG (mCount4 cC by_) 0 R (g0 (mCount4 cC by_))).out, d.e ≠ -1 := fun d hd he => by
    have := ((hsR.opn d hd).1 he).1
    rcases four _ (hth R d hd) with h | h | h | h <;> rw [h] at this
    · exact this f0.1
    · exact this f1.1
    · exact this f2.1
    · rw [f3] at this; exact this rfl
  obtain ⟨L, rs, has, gh, loc, H, hL, ht⟩ := cnt_run hm (allS S)
  have EA : ∀ d ∈ dgs (plyG (mCount4 cC by_) 0 (allS S) (g0 (mCount4 cC by_))).out, d.e ≠ -1 := fun d hd he => by
    have := ((H.hs.opn d hd).1 he).1
    rcases four _ (hth _ d hd) with h | h | h | h <;> rw [h] at this
    · rw [hlat 0 (by decide)] at this; exact this f0.1
    · rw [hlat 1 (by decide)] at this; exact this f1.1
    · rw [hlat 2 (by decide)] at this; exact this f2.1
    · exact this e3.1
  obtain ⟨r, hr1, hr2⟩ := ply_behind (mCount4 cC by_) R (List.replicate 60 3) ER
  rw [← hRl] at hr1
  have hrl : r.length = 1 := by
    have := congrArg List.length hr1
    rw [List.length_append] at this
    dsimp only at kR
    omega
  obtain ⟨q, hq⟩ := List.length_eq_one_iff.1 hrl
  subst hq
  -- the log and the calls
  have hko := keys_once H.hs
  have hmemL : ∀ x, x ∈ L ↔ x ∈ (dgs (plyG (mCount4 cC by_) 0 (allS S) (g0 (mCount4 cC by_))).out).map dKey := fun x => by
    constructor
    · intro hx
      obtain ⟨d, hd, e⟩ := hL.mem x hx
      exact e ▸ List.mem_map_of_mem hd
    · intro hx
      obtain ⟨d, hd, rfl⟩ := List.mem_map.1 hx
      exact (ht d hd (EA d hd)).1
  have hperm : L.Perm ((dgs (plyG (mCount4 cC by_) 0 (allS S) (g0 (mCount4 cC by_))).out).map dKey) := (List.perm_ext_iff_of_nodup hL.nd hko).2 hmemL
  have hLl : L.length = 10 := by rw [hperm.length_eq, List.length_map, kA]
  obtain ⟨n1, n2, n3, n4, n5, n6⟩ := num_log H.run (fun x _ => cnt4_add x) (by omega)
  have hadd : ∀ d ∈ dgs (plyG (mCount4 cC by_) 0 (allS S) (g0 (mCount4 cC by_))).out, (cntA (mCount4 cC by_) d).put = (gK (mCount4 cC by_) (dKey d)).put ∧ (cntA (mCount4 cC by_) d).add = (gK (mCount4 cC by_) (dKey d)).add := fun d hd => by
    obtain ⟨c, hc⟩ := cnt_at H.hs hd
    rw [cntA_of hc]
    exact ⟨rfl, rfl⟩
  have hthree : ∀ d ∈ dgs (plyG (mCount4 cC by_) 0 (allS S) (g0 (mCount4 cC by_))).out, d.th = 3 → d = q := fun d hd h3 => by
    rw [hr1] at hd
    rcases List.mem_append.1 hd with hd | hd
    · have := hsR.own d hd
      rw [h3, f3] at this
      exact absurd this (Nat.not_lt_zero _)
    · exact List.mem_singleton.1 hd
  obtain ⟨d3, hd3, hd3t, _⟩ := H.hs.all 3 0 (by rw [e3.2]; decide)
  have hqd := hthree d3 hd3 hd3t
  subst hqd
  refine ⟨H.err, kA, fun d hd => ⟨EA d hd, by rw [(ht d hd (EA d hd)).2]; rfl⟩, ?_, ⟨d3, hd3, hd3t⟩, fun d hd h3 => ?_⟩
  · refine (List.pairwise_map.1 hko).imp_of_mem fun {a b} ha hb hab hpa hpb => ?_
    rw [(hadd a ha).1] at hpa
    rw [(hadd b hb).1] at hpb
    rw [(ht a ha (EA a ha)).2, (ht b hb (EA b hb)).2]
    exact n5 _ (ht a ha (EA a ha)).1 _ (ht b hb (EA b hb)).1 hab hpa hpb
  · have hdq := hthree d hd h3
    subst hdq
    have hm3 := (ht d hd (EA d hd)).1
    obtain ⟨A, B, hAB⟩ := List.append_of_mem hm3
    have hB : B = [] := by
      cases B with
      | nil => rfl
      | cons x B =>
        exfalso
        have hx : x ∈ L := by rw [hAB]; simp
        obtain ⟨y, hy, hyx⟩ := hL.mem x hx
        have ho := hL.ord
        rw [hAB] at ho
        have ho2 := (List.pairwise_cons.1 (List.pairwise_append.1 ho).2.1).1 x (by simp) d hd y hy rfl hyx (EA y hy)
        have hnd := hL.nd
        rw [hAB] at hnd
        have hne : dKey d ≠ x := by
          have := (List.nodup_cons.1 (List.nodup_append.1 hnd).2.1).1
          exact fun e => this (by rw [e]; simp)
        have hyR : y ∈ dgs (plyG (mCount4 cC by_) 0 R (g0 (mCount4 cC by_))).out := by
          rw [hr1] at hy
          rcases List.mem_append.1 hy with hy | hy
          · exact hy
          · rw [List.mem_singleton.1 hy] at hyx; exact absurd hyx hne
        have := ((hsR.bnd y hyR).2 (ER y hyR)).2
        have := hr2 d (by simp)
        omega
    subst hB
    have h6 := n6 A _ hAB
    have hz : (gK (mCount4 cC by_) (dKey d)).add = 0 := by
      obtain ⟨c, hc⟩ := cnt_at H.hs hd
      rw [h3] at hc
      have := List.mem_of_getElem? hc
      simp [mCount4] at this
      unfold gK byK dKey
      rw [h3, hc, this]
      rfl
    rw [(ht d hd (EA d hd)).2]
    show rs (dKey d) = _
    rw [hz] at h6
    have h7 : (L.map fun x => (gK (mCount4 cC by_) x).add).sum = ((dgs (plyG (mCount4 cC by_) 0 (allS S) (g0 (mCount4 cC by_))).out).map fun d => (cntA (mCount4 cC by_) d).add).sum := by
      rw [perm_sum (hperm.map _), List.map_map]
      congr 1
      exact List.map_congr_left fun d hd => (hadd d hd).2.symm
    omega
end Go.Baro.Cnt

set_option linter.unusedSimpArgs false
set_option linter.unusedVariables false
namespace Go.Baro
/-- A valid operation of an object of kind k. -/
def okA (k : Int) (a : Ac) : Prop := (0 ≤ a.b ∧ a.b ≤ 1048576) ∧ a.e ≤ 1048576 ∧ (a.b ≤ a.e ∨ a.e = -1) ∧ (a.add = 0 ∨ (k = 2 ∧ a.put = true)) ∧ (k < 3 ∨ (-1 ≤ a.v ∧ (a.v = -1 → a.put = false)))
/-- A valid history. -/
def okL (k : Int) (l : List Ac) : Prop := (1 ≤ k ∧ k ≤ 4) ∧ l.length ≤ 9 ∧ ∀ a ∈ l, okA k a
/-- What an object has at first. -/
def has0 (k first : Int) : List Int := if k < 3 then [first] else []
/-- What lin.Check answers. -/
def LcR (k first : Int) (l : List Ac) (r : Bool) (E : Int) : Prop := (¬ okL k l ∧ r = false ∧ E = 4) ∨ (okL k l ∧ (r = true ↔ Lin k (has0 k first) l) ∧ E = 0)
theorem lcR_some (k first : Int) (l : List Ac) : ∃ r E, LcR k first l r E := by
  by_cases h : okL k l
  · exact ⟨@decide (Lin k (has0 k first) l) (Classical.propDecidable _), 0, .inr ⟨h, by simp, rfl⟩⟩
  · exact ⟨false, 4, .inl ⟨h, rfl, rfl⟩⟩
end Go.Baro
namespace Go.Proofs.YtnchgdjdfhfedaaDoor
open Go.RowKit Go.Ord Go.Baro
/-- lin.May, of a history in memory. -/
def LinMaySpec : Prop := ∀ (w : World) (A : Option Addr) (n c : Nat) (l : List Ac) (k : Int) (r : Bool) (h : RA w w.heap.size A n l) (hn : n ≤ 9223372036854775807) (hlc : n ≤ c) (hi : ∀ a ∈ l, inA a) (hr : r = true ↔ okL k l),
    Calls Tryd.prog 42 #[.int .i64 k, .slice A n c] w fun e w' => e = .returned (.bool r) ∧ Below w.heap.size w w'
/-- lin.Check, of a history in memory. -/
def LinCheckSpec : Prop := ∀ (w : World) (A : Option Addr) (n c : Nat) (l : List Ac) (k first : Int) (r : Bool) (E : Int) (h : RA w w.heap.size A n l) (hn : n ≤ 9223372036854775807) (hlc : n ≤ c) (hi : ∀ a ∈ l, inA a) (hf : inW first) (hr : LcR k first l r E),
    Calls Tryd.prog 23 #[.int .i64 k, .int .i64 first, .slice A n c] w fun e w' => e = .returned (.tuple #[.bool r, .int .i64 E]) ∧ Below w.heap.size w w'
end Go.Proofs.YtnchgdjdfhfedaaDoor

set_option linter.unusedSimpArgs false
set_option linter.unusedVariables false
namespace Go.Baro.Cnt
open Go.RowKit (wrap64)

def tcN (by_ : List Int) (i : Nat) : Int := (by_[i]?.getD 0) % 3
def tcC (by_ : List Int) (i : Nat) : Cl := if 0 < tcN by_ i then ⟨0, [tcN by_ i]⟩ else ⟨1, []⟩
def tcT (by_ : List Int) (t : Nat) : List Cl := [tcC by_ t, tcC by_ (t + 3), tcC by_ (t + 6)]
def mTc (c : Cu) (by_ : List Int) : Mc := ⟨c.ws, [c.ca, c.cg], [tcT by_ 0, tcT by_ 1, tcT by_ 2]⟩
/-- What the statement's closure says of a call. -/
def pfN (c : Cl) (to : List Int) (b : Bool) : Bool × Int × Bool := if b = false then (decide (c.k = 0), 0, true) else if to.length = 1 then (decide (c.k = 0), to.headD 0, true) else (false, 0, false)
def goodN (c : Cl) : Prop := (c.k = 0 ∧ c.ar.length = 1) ∨ (c.k = 1 ∧ c.ar.length = 0)
theorem tcC_cases (by_ : List Int) (i : Nat) : ((tcC by_ i).k = 0 ∧ ∃ a, (tcC by_ i).ar = [a] ∧ 1 ≤ a ∧ a ≤ 5) ∨ ((tcC by_ i).k = 1 ∧ (tcC by_ i).ar = []) := by
  unfold tcC
  split
  · rename_i h
    refine .inl ⟨rfl, _, rfl, by omega, ?_⟩
    unfold tcN at *
    omega
  · exact .inr ⟨rfl, rfl⟩
theorem tcT_mem {by_ : List Int} {t : Nat} {c : Cl} (h : c ∈ tcT by_ t) : ∃ j, c = tcC by_ j := by
  simp only [tcT, List.mem_cons, List.not_mem_nil, or_false] at h
  rcases h with rfl | rfl | rfl <;> exact ⟨_, rfl⟩
theorem tc_at {by_ : List Int} {t i : Nat} {c : Cl} (h : (((mTc cC by_).ts)[t]?.getD [])[i]? = some c) : ∃ j, c = tcC by_ j := by
  match t, h with
  | 0, h => exact tcT_mem (List.mem_of_getElem? h)
  | 1, h => exact tcT_mem (List.mem_of_getElem? h)
  | 2, h => exact tcT_mem (List.mem_of_getElem? h)
  | t + 3, h => simp [mTc] at h
theorem mokTc (by_ : List Int) : Mok (mTc cC by_) := mok_of fun t i c h => by
  obtain ⟨j, rfl⟩ := tc_at h
  exact (tcC_cases by_ j).imp (fun ⟨h1, a, h2, _⟩ => ⟨h1, a, h2⟩) id
theorem tc_len (by_ : List Int) (t : Nat) : (((mTc cC by_).ts)[t]?.getD []).length = if t < 3 then 3 else 0 := by
  match t with
  | 0 => rfl
  | 1 => rfl
  | 2 => rfl
  | t + 3 => simp [mTc]
theorem tc_add {by_ : List Int} (x : Key) : 0 ≤ (gK (mTc cC by_) x).add ∧ (gK (mTc cC by_) x).add ≤ 5 ∧ ((gK (mTc cC by_) x).put = true → 1 ≤ (gK (mTc cC by_) x).add) := by
  have hb : ∀ a, byK (mTc cC by_) x = some a → 1 ≤ a ∧ a ≤ 5 := by
    intro a ha
    unfold byK at ha
    cases hc : ((mTc cC by_).ts[x.1]?.getD [])[x.2]? with
    | none => rw [hc] at ha; cases ha
    | some c =>
      rw [hc] at ha
      dsimp only at ha
      obtain ⟨j, rfl⟩ := tc_at hc
      rcases tcC_cases by_ j with ⟨k1, a', k2, k3⟩ | ⟨k1, k2⟩
      · rw [k1, k2] at ha
        simp at ha
        omega
      · rw [k1] at ha; simp at ha
  unfold gK
  cases hx : byK (mTc cC by_) x with
  | none => simp
  | some a =>
    have := hb a hx
    simp
    omega
/-- What a log tells lies between nothing and the sum. -/
theorem num_bnd {g : Key → Ac} {rs : Key → Int} {L : List Key} {has : List Int} (hl : LogR 2 g rs [0] L has) (hg : ∀ x ∈ L, 0 ≤ (g x).add ∧ (g x).add ≤ 5 ∧ ((g x).put = true → 1 ≤ (g x).add)) (hn : L.length ≤ 1000) :
    has = [(L.map fun x => (g x).add).sum] ∧ 0 ≤ (L.map fun x => (g x).add).sum ∧ (L.map fun x => (g x).add).sum ≤ 5 * L.length ∧ ∀ a ∈ L, 0 ≤ rs a ∧ rs a ≤ (L.map fun x => (g x).add).sum := by
  induction hl with
  | nil => exact ⟨rfl, by simp, by simp, by simp⟩
  | @snoc h L key hl hr ih =>
    rw [List.length_append, List.length_singleton] at hn
    obtain ⟨i1, i2, i3, i4⟩ := ih (fun x hx => hg x (by simp [hx])) (by omega)
    obtain ⟨g1, g2, g3⟩ := hg key (by simp)
    have hsum : ((L ++ [key]).map fun x => (g x).add).sum = (L.map fun x => (g x).add).sum + (g key).add := by simp [List.sum_append]
    rw [hsum]
    generalize (L.map fun x => (g x).add).sum = s at *
    subst i1
    have hr' : s = rs key := hr
    have hw : (tel 2 [s] (g key)).2 = [s + (g key).add] := by
      show [wrap64 (s + (g key).add)] = _
      rw [wrap_id (by omega)]
    rw [List.length_append, List.length_singleton]
    refine ⟨hw, by omega, by omega, fun a ha => ?_⟩
    rcases List.mem_append.1 ha with ha | ha
    · have := i4 a ha; omega
    · have e := List.mem_singleton.1 ha
      subst e
      omega
theorem nodup_le : ∀ (L M : List Key), L.Nodup → (∀ x ∈ L, x ∈ M) → L.length ≤ M.length
  | [], _, _, _ => Nat.zero_le _
  | a :: L, M, hn, hs => by
    rw [List.nodup_cons] at hn
    have ha := hs a (by simp)
    have h1 := nodup_le L (M.erase a) hn.2 (fun x hx => (List.mem_erase_of_ne (by rintro rfl; exact hn.1 hx)).2 (hs x (by simp [hx])))
    have h2 := List.length_erase_of_mem ha
    have h3 := List.length_pos_of_mem ha
    simp
    omega
theorem tc_top (by_ : List Int) (S : List Nat) (hl : S.length ≤ 400) (hS : ∀ n ∈ S, n < 3) :
    noErr (plyG (mTc cC by_) 0 S (g0 (mTc cC by_))) ∧ HistOk (mTc cC by_) pfN goodN (plyG (mTc cC by_) 0 S (g0 (mTc cC by_))).out ∧
    (okL 2 ((dgs (plyG (mTc cC by_) 0 S (g0 (mTc cC by_))).out).map (cntA (mTc cC by_))) ∧ ∀ a ∈ (dgs (plyG (mTc cC by_) 0 S (g0 (mTc cC by_))).out).map (cntA (mTc cC by_)), inA a) ∧ Lin 2 [0] ((dgs (plyG (mTc cC by_) 0 S (g0 (mTc cC by_))).out).map (cntA (mTc cC by_))) ∧
    ∀ d ∈ dgs (plyG (mTc cC by_) 0 S (g0 (mTc cC by_))).out, hA (mTc cC by_) pfN d = { cntA (mTc cC by_) d with add := 0 } := by
  have hm := mokTc by_
  obtain ⟨L, rs, has, gh, loc, H, hL, ht⟩ := cnt_run hm S
  obtain ⟨_, h2, hlin⟩ := cnt_lin hm S
  have hko := keys_once H.hs
  have hsub : ∀ x ∈ L, x ∈ (dgs (plyG (mTc cC by_) 0 S (g0 (mTc cC by_))).out).map dKey := fun x hx => by
    obtain ⟨d, hd, e⟩ := hL.mem x hx
    exact e ▸ List.mem_map_of_mem hd
  have hcnt := dgs_count (m := mTc cC by_) (S := S) (fun n hn => by have := hS n hn; omega)
  have b0 := bg_le (mTc cC by_) S 0
  have b1 := bg_le (mTc cC by_) S 1
  have b2 := bg_le (mTc cC by_) S 2
  have b3 := bg_le (mTc cC by_) S 3
  rw [tc_len] at b0 b1 b2 b3
  simp at b0 b1 b2 b3
  have h9 : (dgs (plyG (mTc cC by_) 0 S (g0 (mTc cC by_))).out).length ≤ 9 := by omega
  have hLl : L.length ≤ 9 := by
    have := nodup_le L _ hL.nd hsub
    rw [List.length_map] at this
    omega
  obtain ⟨n1, n2, n3, n4⟩ := num_bnd H.run (fun x _ => tc_add x) (by omega)
  have hcase : ∀ d ∈ dgs (plyG (mTc cC by_) 0 S (g0 (mTc cC by_))).out, ∃ j, clOf (mTc cC by_) d.th d.cl = tcC by_ j ∧ cntA (mTc cC by_) d = ⟨d.b, d.e, decide ((tcC by_ j).k = 0), if d.e = -1 then 0 else d.to.headD 0, if (tcC by_ j).k = 0 then (tcC by_ j).ar.headD 0 else 0⟩ := fun d hd => by
    obtain ⟨c, hc⟩ := cnt_at H.hs hd
    obtain ⟨j, rfl⟩ := tc_at hc
    refine ⟨j, by unfold clOf; rw [hc]; rfl, ?_⟩
    unfold cntA
    rw [hc]
  refine ⟨H.err, hist_ok hS H.err (fun d hd he => ?_) (fun d hd he => ?_) (fun t ht c hc => ?_), ⟨⟨by omega, by rw [List.length_map]; exact h9, fun a ha => ?_⟩, fun a ha => ?_⟩, hlin, fun d hd => ?_⟩
  · unfold pfN
    rw [if_neg (by simp), if_pos (h2 d hd he)]
  · unfold pfN
    rw [if_pos rfl]
  · simp only [mTc, List.mem_cons, List.not_mem_nil, or_false] at ht
    have : ∃ j, c = tcC by_ j := by rcases ht with rfl | rfl | rfl <;> exact tcT_mem hc
    obtain ⟨j, rfl⟩ := this
    rcases tcC_cases by_ j with ⟨k1, a, k2, _⟩ | ⟨k1, k2⟩
    · exact .inl ⟨k1, by rw [k2]; rfl⟩
    · exact .inr ⟨k1, by rw [k2]; rfl⟩
  · obtain ⟨d, hd, rfl⟩ := List.mem_map.1 ha
    obtain ⟨j, _, e⟩ := hcase d hd
    have hb := H.hs.bnd d hd
    rw [e]
    refine ⟨⟨by dsimp only; omega, by dsimp only; omega⟩, ?_, ?_, ?_, .inl (by omega)⟩
    · dsimp only
      by_cases he : d.e = -1
      · omega
      · have := (hb.2 he).2; omega
    · dsimp only
      by_cases he : d.e = -1
      · exact .inr he
      · exact .inl (hb.2 he).1
    · dsimp only
      by_cases hk : (tcC by_ j).k = 0
      · exact .inr ⟨rfl, by simp [hk]⟩
      · exact .inl (by rw [if_neg hk])
  · obtain ⟨d, hd, rfl⟩ := List.mem_map.1 ha
    obtain ⟨j, _, e⟩ := hcase d hd
    have hb := H.hs.bnd d hd
    have hv : 0 ≤ (if d.e = -1 then 0 else d.to.headD 0) ∧ (if d.e = -1 then 0 else d.to.headD 0) ≤ 100 := by
      by_cases he : d.e = -1
      · rw [if_pos he]; omega
      · rw [if_neg he]
        obtain ⟨q1, q2⟩ := ht d hd he
        have := n4 _ q1
        rw [q2]
        simp only [List.headD_cons]
        omega
    have ha2 : 0 ≤ (if (tcC by_ j).k = 0 then (tcC by_ j).ar.headD 0 else 0) ∧ (if (tcC by_ j).k = 0 then (tcC by_ j).ar.headD 0 else 0) ≤ 5 := by
      rcases tcC_cases by_ j with ⟨k1, a, k2, k3⟩ | ⟨k1, k2⟩
      · rw [if_pos k1, k2]; simp only [List.headD_cons]; omega
      · rw [if_neg (by rw [k1]; decide)]; omega
    rw [e]
    unfold inA inW
    dsimp only
    by_cases he : d.e = -1
    · omega
    · have := hb.2 he
      omega
  · obtain ⟨j, e1, e⟩ := hcase d hd
    rw [e]
    unfold hA hA1 pfN
    rw [e1]
    by_cases he : d.e = -1
    · simp [he]
    · simp [he, h2 d hd he]
/-- What is told of a call later is told of the same call. -/
theorem dgs_keep : ∀ (es : List Ev) (l : List Dg) (k : Nat) (d : Dg), l[k]? = some d → ∃ d', (es.foldl dg1 l)[k]? = some d' ∧ d'.th = d.th ∧ d'.cl = d.cl
  | [], l, k, d, h => ⟨d, h, rfl, rfl⟩
  | x :: es, l, k, d, h => by
    rw [List.foldl_cons]
    by_cases he : x.en = true
    · rw [dg1_end _ _ he]
      obtain ⟨d', h1, h2, h3⟩ := dgs_keep es (l.map fun d => d.fin x) k (d.fin x) (by rw [List.getElem?_map, h]; rfl)
      have hf : (d.fin x).th = d.th ∧ (d.fin x).cl = d.cl := by unfold Dg.fin; split <;> exact ⟨rfl, rfl⟩
      exact ⟨d', h1, h2.trans hf.1, h3.trans hf.2⟩
    · rw [dg1_begin _ _ (by simpa using he)]
      exact dgs_keep es _ k d (by rw [List.getElem?_append_left (List.getElem?_eq_some_iff.1 h).1]; exact h)
theorem dgs_nth {T : List Ev} {j : Nat} {x : Ev} (h : T[j]? = some x) (he : x.en = false) : ∃ d, (dgs T)[(dgs (T.take j)).length]? = some d ∧ d.th = x.th ∧ d.cl = x.cl := by
  have h1 : dgs T = (T.drop (j + 1)).foldl dg1 (dgs (T.take (j + 1))) := by
    unfold dgs
    rw [← List.foldl_append, List.take_append_drop]
  have h2 : dgs (T.take (j + 1)) = dgs (T.take j) ++ [⟨x.st, -1, x.th, x.cl, []⟩] := by
    rw [List.take_add_one, h]
    show dgs (T.take j ++ [x]) = _
    rw [dgs_snoc, dg1_begin _ _ he]
  obtain ⟨d, q1, q2, q3⟩ := dgs_keep (T.drop (j + 1)) (dgs (T.take (j + 1))) (dgs (T.take j)).length ⟨x.st, -1, x.th, x.cl, []⟩ (by rw [h2]; simp)
  exact ⟨d, by rw [h1]; exact q1, q2, q3⟩
theorem dgs_lenB {T : List Ev} {j : Nat} {x : Ev} (h : T[j]? = some x) (he : x.en = false) : (dgs (T.take (j + 1))).length = (dgs (T.take j)).length + 1 := by
  rw [List.take_add_one, h]
  show (dgs (T.take j ++ [x])).length = _
  rw [dgs_snoc, dg1_begin _ _ he]; simp
theorem dgs_lenE {T : List Ev} {j : Nat} {x : Ev} (h : T[j]? = some x) (he : x.en = true) : (dgs (T.take (j + 1))).length = (dgs (T.take j)).length := by
  rw [List.take_add_one, h]
  show (dgs (T.take j ++ [x])).length = _
  rw [dgs_snoc, dg1_end _ _ he]; simp
end Go.Baro.Cnt

set_option linter.unusedSimpArgs false
set_option linter.unusedVariables false
namespace Go.Baro
open Go.RowKit (wrap64)
/-- What the object has behind these deals. -/
def sqH (k : Int) : List Int → List Dl → List Int
  | has, [] => has
  | has, d :: l => sqH k (tl k has d.put (d.v % 4)).2.2 l
theorem sqH_snoc (k : Int) : ∀ (l : List Dl) (has : List Int) (d : Dl), sqH k has (l ++ [d]) = (tl k (sqH k has l) d.put (d.v % 4)).2.2
  | [], has, d => rfl
  | c :: l, has, d => sqH_snoc k l _ d
theorem sqA_snoc (k : Int) (wide : Bool) : ∀ (l : List Dl) (i : Nat) (has : List Int) (d : Dl), sqA k wide i has (l ++ [d]) = sqA k wide i has l ++ [acT (i + l.length) d wide (tl k (sqH k has l) d.put (d.v % 4)).1 (tl k (sqH k has l) d.put (d.v % 4)).2.1]
  | [], i, has, d => rfl
  | c :: l, i, has, d => by
    show _ :: sqA k wide (i + 1) _ (l ++ [d]) = _
    rw [sqA_snoc k wide l (i + 1) _ d]
    show _ = _ :: (sqA k wide (i + 1) _ l ++ _)
    rw [show i + (c :: l).length = i + 1 + l.length by simp; omega]
    rfl
theorem sqA_len (k : Int) (wide : Bool) : ∀ (l : List Dl) (i : Nat) (has : List Int), (sqA k wide i has l).length = l.length
  | [], _, _ => rfl
  | d :: l, i, has => by show (sqA k wide (i + 1) _ l).length + 1 = _; rw [sqA_len k wide l]; rfl
/-- What the object tells is small. -/
theorem tl_small {k : Int} {has : List Int} {put : Bool} {v : Int} {m : Int} (hv : 0 ≤ v ∧ v ≤ 3) (hm : 4 ≤ m ∧ m ≤ 1000) (h : ∀ x ∈ has, 0 ≤ x ∧ x ≤ m) :
    (-1 ≤ (tl k has put v).1 ∧ (tl k has put v).1 ≤ m) ∧ (0 ≤ (tl k has put v).2.1 ∧ (tl k has put v).2.1 ≤ 3) ∧ (∀ x ∈ (tl k has put v).2.2, 0 ≤ x ∧ x ≤ m + 3) := by
  have hd : 0 ≤ has.headD 0 ∧ has.headD 0 ≤ m := by
    cases has with
    | nil => exact ⟨Int.le_refl _, by simp; omega⟩
    | cons y t => exact h y (by simp)
  have hg : 0 ≤ has.getLastD 0 ∧ has.getLastD 0 ≤ m := by
    cases has with
    | nil => exact ⟨Int.le_refl _, by simp; omega⟩
    | cons y t =>
      rw [List.getLastD_cons]
      rcases t.eq_nil_or_concat with rfl | ⟨s, z, rfl⟩
      · exact h y (by simp)
      · simp; exact h z (by simp)
  have hmore : ∀ x ∈ has, 0 ≤ x ∧ x ≤ m + 3 := fun x hx => by have := h x hx; omega
  have hw : wrap64 (has.headD 0 + v) = has.headD 0 + v := by unfold wrap64; omega
  unfold tl
  split
  · split
    · exact ⟨⟨by dsimp only; omega, by dsimp only; omega⟩, ⟨by dsimp only; omega, by dsimp only; omega⟩, fun x hx => by rw [List.mem_singleton.1 hx]; omega⟩
    · exact ⟨⟨by dsimp only; omega, by dsimp only; omega⟩, ⟨by dsimp only; omega, by dsimp only; omega⟩, hmore⟩
  · split
    · split
      · exact ⟨⟨by dsimp only; omega, by dsimp only; omega⟩, ⟨by dsimp only; omega, by dsimp only; omega⟩, fun x hx => by rw [List.mem_singleton.1 hx, hw]; omega⟩
      · exact ⟨⟨by dsimp only; omega, by dsimp only; omega⟩, ⟨by dsimp only; omega, by dsimp only; omega⟩, hmore⟩
    · split
      · refine ⟨⟨by dsimp only; omega, by dsimp only; omega⟩, ⟨by dsimp only; omega, by dsimp only; omega⟩, fun x hx => ?_⟩
        rcases List.mem_append.1 hx with hx | hx
        · exact hmore x hx
        · rw [List.mem_singleton.1 hx]; omega
      · split
        · exact ⟨⟨by dsimp only; omega, by dsimp only; omega⟩, ⟨by dsimp only; omega, by dsimp only; omega⟩, hmore⟩
        · split
          · exact ⟨⟨by dsimp only; omega, by dsimp only; omega⟩, ⟨by dsimp only; omega, by dsimp only; omega⟩, fun x hx => hmore x (List.mem_of_mem_tail hx)⟩
          · exact ⟨⟨by dsimp only; omega, by dsimp only; omega⟩, ⟨by dsimp only; omega, by dsimp only; omega⟩, fun x hx => hmore x (List.dropLast_subset _ hx)⟩
theorem tl_len (k : Int) (has : List Int) (put : Bool) (v : Int) : (tl k has put v).2.2.length ≤ has.length + 1 ∧ (k < 3 → 1 ≤ k → has.length = 1 → (tl k has put v).2.2.length = 1) := by
  unfold tl
  split
  · split
    · exact ⟨by simp, fun _ _ _ => rfl⟩
    · exact ⟨by simp, fun _ _ h => h⟩
  · split
    · split
      · exact ⟨by simp, fun _ _ _ => rfl⟩
      · exact ⟨by simp, fun _ _ h => h⟩
    · refine ⟨?_, fun h3 h4 => by omega⟩
      split
      · simp
      · split
        · simp
        · split
          · simp; omega
          · simp; omega
/-- All that is told is small. -/
theorem sqH_small {k : Int} : ∀ (l : List Dl) (has : List Int) (m : Int), 4 ≤ m → m + 3 * l.length ≤ 1000 → (∀ x ∈ has, 0 ≤ x ∧ x ≤ m) → ∀ x ∈ sqH k has l, 0 ≤ x ∧ x ≤ m + 3 * l.length
  | [], has, m, _, _, h => by simpa [sqH] using h
  | d :: l, has, m, h4, hb, h => by
    simp only [List.length_cons] at hb ⊢
    have := (tl_small (k := k) (has := has) (put := d.put) (v := d.v % 4) (m := m) (by omega) (by omega) h).2.2
    have h2 := sqH_small (k := k) l _ (m + 3) (by omega) (by omega) this
    intro x hx
    have := h2 x hx
    omega
end Go.Baro

set_option linter.unusedSimpArgs false
set_option linter.unusedVariables false
namespace Go.Baro
open Go.RowKit (wrap64)
theorem tl_valid {k : Int} {has : List Int} {put : Bool} {v : Int} (hv : 0 ≤ v) (h : ∀ x ∈ has, 0 ≤ x) : ((tl k has put v).2.1 = 0 ∨ (k = 2 ∧ put = true)) ∧ (put = true → k ≠ 2 → 0 ≤ (tl k has put v).1) := by
  unfold tl
  split
  · cases put <;> simp; omega
  · split
    · rename_i h2
      cases put <;> simp [h2]
    · cases put with
      | true => simp; omega
      | false =>
        simp only [Bool.false_eq_true, if_false]
        refine ⟨?_, fun h => by cases h⟩
        left
        split
        · rfl
        · split <;> rfl
/-- Each is valid, and its numbers are small. -/
theorem sq_each (k : Int) (wide : Bool) : ∀ (l : List Dl) (i : Nat) (has : List Int) (m : Int), i + l.length ≤ 9 → 4 ≤ m → m + 3 * l.length ≤ 200 → (∀ x ∈ has, 0 ≤ x ∧ x ≤ m) → ∀ a ∈ sqA k wide i has l, okA k a ∧ inA a ∧ -1 ≤ a.v ∧ a.v ≤ 200 ∧ a.b ≤ 300 ∧ a.e ≤ 300
  | [], _, _, _, _, _, _, _, a, ha => by simp [sqA] at ha
  | d :: l, i, has, m, hi, h4, hm, hh, a, ha => by
    simp only [List.length_cons] at hi hm
    obtain ⟨⟨s1, s2⟩, ⟨s3, s4⟩, s5⟩ := tl_small (k := k) (has := has) (put := d.put) (v := d.v % 4) (m := m) (by omega) (by omega) hh
    obtain ⟨v1, v2⟩ := tl_valid (k := k) (has := has) (put := d.put) (v := d.v % 4) (by omega) (fun x hx => (hh x hx).1)
    rcases List.mem_cons.1 ha with rfl | ha
    · have hb : 0 ≤ (if wide = true then d.early % 40 else 0) ∧ (if wide = true then d.early % 40 else 0) < 40 := by split <;> omega
      have he : (acT i d wide (tl k has d.put (d.v % 4)).1 (tl k has d.put (d.v % 4)).2.1).e = -1 ∨ (105 + 10 * (i : Int) ≤ (acT i d wide (tl k has d.put (d.v % 4)).1 (tl k has d.put (d.v % 4)).2.1).e ∧ (acT i d wide (tl k has d.put (d.v % 4)).1 (tl k has d.put (d.v % 4)).2.1).e ≤ 300) := by
        unfold acT
        dsimp only
        cases wide with
        | false => right; simp; omega
        | true =>
          simp only [if_true]
          cases d.opn with
          | true => left; simp
          | false => right; simp; omega
      have hbb : (acT i d wide (tl k has d.put (d.v % 4)).1 (tl k has d.put (d.v % 4)).2.1).b = 100 + 10 * (i : Int) - (if wide = true then d.early % 40 else 0) := rfl
      have hp : (acT i d wide (tl k has d.put (d.v % 4)).1 (tl k has d.put (d.v % 4)).2.1).put = d.put := rfl
      have hvv : (acT i d wide (tl k has d.put (d.v % 4)).1 (tl k has d.put (d.v % 4)).2.1).v = (tl k has d.put (d.v % 4)).1 := rfl
      have haa : (acT i d wide (tl k has d.put (d.v % 4)).1 (tl k has d.put (d.v % 4)).2.1).add = (tl k has d.put (d.v % 4)).2.1 := rfl
      generalize acT i d wide (tl k has d.put (d.v % 4)).1 (tl k has d.put (d.v % 4)).2.1 = a at *
      refine ⟨⟨by omega, by omega, by omega, by rw [haa, hp]; exact v1, ?_⟩, ⟨⟨by omega, by omega⟩, ⟨by omega, by omega⟩, ⟨by omega, by omega⟩, ⟨by omega, by omega⟩⟩, by omega, by omega, by omega, by omega⟩
      by_cases hk : k < 3
      · exact .inl hk
      · refine .inr ⟨by omega, fun h => ?_⟩
        rw [hp]
        cases hput : d.put with
        | false => rfl
        | true => have := v2 hput (by omega); omega
    · exact sq_each k wide l (i + 1) _ (m + 3) (by omega) (by omega) (by omega) s5 a ha
theorem sq_okL {k first : Int} {wide : Bool} {l : List Dl} (hk : 1 ≤ k ∧ k ≤ 4) (hf : 0 ≤ first ∧ first ≤ 4) : okL k (sqA k wide 0 (has0 k first) (l.take 9)) ∧ ∀ a ∈ sqA k wide 0 (has0 k first) (l.take 9), okA k a ∧ inA a ∧ -1 ≤ a.v ∧ a.v ≤ 200 ∧ a.b ≤ 300 ∧ a.e ≤ 300 := by
  have h9 : (l.take 9).length ≤ 9 := by simp; omega
  have hs : ∀ x ∈ has0 k first, 0 ≤ x ∧ x ≤ 4 := by
    intro x hx
    unfold has0 at hx
    split at hx
    · rw [List.mem_singleton.1 hx]; omega
    · simp at hx
  have := sq_each k wide (l.take 9) 0 (has0 k first) 4 (by omega) (by omega) (by omega) hs
  exact ⟨⟨hk, by rw [sqA_len]; exact h9, fun a ha => (this a ha).1⟩, this⟩
theorem has0_ok {k first : Int} (hf : 0 ≤ first ∧ first ≤ 4) : okH k (has0 k first) := by
  intro hk
  unfold has0
  rw [if_pos (by omega)]
  exact ⟨first, rfl, by unfold wrap64; omega⟩
/-- A drawn history is right. -/
theorem sq_right {k first : Int} {wide : Bool} {l : List Dl} (hk : 1 ≤ k ∧ k ≤ 4) (hf : 0 ≤ first ∧ first ≤ 4) : LcR k first (sqA k wide 0 (has0 k first) (l.take 9)) true 0 :=
  .inr ⟨(sq_okL hk hf).1, by simp only [true_iff]; exact sq_lin (has0_ok hf) wide _ 0, rfl⟩
/-- The two small histories. -/
theorem sure1 : LcR 1 0 [⟨1, 2, false, 0, 0⟩] true 0 := by
  refine .inr ⟨⟨by omega, by simp, fun a ha => ?_⟩, ?_, rfl⟩
  · rw [List.mem_singleton.1 ha]; unfold okA; simp
  · simp only [true_iff]
    refine lin_seq ⟨?_, trivial⟩ (List.pairwise_singleton _ _) (fun a ha _ => ?_)
    · simp [tel, has0]
    · rw [List.mem_singleton.1 ha]; simp
theorem sure2 : LcR 1 0 [⟨1, 2, false, 1, 0⟩] false 0 := by
  refine .inr ⟨⟨by omega, by simp, fun a ha => ?_⟩, ?_, rfl⟩
  · rw [List.mem_singleton.1 ha]; unfold okA; simp
  · simp only [Bool.false_eq_true, false_iff]
    intro h
    have := lin_only _ _ h (List.pairwise_singleton _ _) (fun a ha => by rw [List.mem_singleton.1 ha]; simp)
    have := this.1
    simp [tel, has0] at this
end Go.Baro
