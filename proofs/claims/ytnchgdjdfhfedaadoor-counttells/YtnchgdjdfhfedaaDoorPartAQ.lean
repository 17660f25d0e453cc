/- Of this claim's own texts these, one behind the other: CountAlg2, CountAlg3. No statement of the seat is proved here; no condition but those that stand at the theorems. -/
import Derived.Test.YtnchgdjdfhfedaaDoorPartAP
import Derived.Test.YtnchgdjdfhfedaaDoorPartAM
set_option linter.unusedSimpArgs false
set_option linter.unusedVariables false
namespace Go.Baro.Cnt
open Go.RowKit (wrap64)

def cC : Cu := ⟨[0], addC, getC⟩
variable {m : Mc}
theorem cnt_at {S : List Nat} {d : Dg} (h : Hs S.length S.length (plyG m 0 S (g0 m))) (hd : d ∈ dgs (plyG m 0 S (g0 m)).out) : ∃ c, (m.ts[d.th]?.getD [])[d.cl]? = some c := by
  have h1 := h.own d hd
  have h2 := bg_le m S d.th
  exact ⟨_, List.getElem?_eq_getElem (by omega)⟩
/-- What holds of each run. -/
theorem cnt_run (hm : Mok m) (S : List Nat) : ∃ L rs has gh loc, ObjJ (fun _ => True) 2 (gK m) m.ws Fin (Inv m) S S.length (plyG m 0 S (g0 m)) L rs has gh loc ∧ Log (fun _ _ => False) (dgs (plyG m 0 S (g0 m)).out) L ∧
    ∀ d ∈ dgs (plyG m 0 S (g0 m)).out, d.e ≠ -1 → dKey d ∈ L ∧ d.to = [rs (dKey d)] := by
  obtain ⟨L, rs, has, gh, loc, H⟩ := obj_run (cnt_ok hm) S (fun _ _ => trivial)
  refine ⟨L, rs, has, gh, loc, H, ⟨H.log.nd, H.log.mem, fun d hd he => (H.log.all d hd he).elim .inl (fun ⟨v, hv, _⟩ => by cases hv), H.log.ord⟩, fun d hd he => ?_⟩
  rcases H.told d hd he with ⟨h1, h2⟩ | ⟨v, _, h1, _⟩
  · have h3 : dKey d ∈ L := by simpa using h1
    rw [if_pos h3] at h2
    exact ⟨h3, h2⟩
  · cases h1
theorem cntA_of {d : Dg} {c : Cl} (h : (m.ts[d.th]?.getD [])[d.cl]? = some c) : cntA m d = ⟨d.b, d.e, (gK m (dKey d)).put, if d.e = -1 then 0 else d.to.headD 0, (gK m (dKey d)).add⟩ := by
  unfold cntA gK byK dKey
  rw [h]
  dsimp only
  by_cases hk : c.k = 0 <;> simp [hk]
theorem cnt_lin (hm : Mok m) (S : List Nat) : noErr (plyG m 0 S (g0 m)) ∧ (∀ d ∈ dgs (plyG m 0 S (g0 m)).out, d.e ≠ -1 → d.to.length = 1) ∧ Lin 2 m.ws ((dgs (plyG m 0 S (g0 m)).out).map (cntA m)) := by
  obtain ⟨L, rs, has, gh, loc, H, hL, ht⟩ := cnt_run hm S
  refine ⟨H.err, fun d hd he => by rw [(ht d hd he).2]; rfl, hL.lin (keys_once H.hs) H.run (cntA m) fun d hd => ?_⟩
  obtain ⟨c, hc⟩ := cnt_at H.hs hd
  rw [cntA_of hc]
  refine ⟨rfl, rfl, fun he => ((H.hs.bnd d hd).2 he).1, rfl, rfl, fun _ h => absurd rfl h, fun he => ?_⟩
  dsimp only
  rw [if_neg he, (ht d hd he).2]
  rfl
/-- How far a call is from its end, if it is alone. -/
def FC (w : List Int) (c : List Ins) (p : Nat) (r : Int → Int) : Nat :=
  if c.length = 5 then (if p = 0 then 5 else if p = 1 then (if r 1 = rd w 0 then 4 else 8) else if p = 2 then (if r 1 = rd w 0 then 3 else 7) else if p = 3 then (if r 3 = 0 then 6 else 2) else 1) else 2 - p
theorem cnt_prog (m : Mc) : Prog m (fun _ => True) (Inv m) 8 FC := by
  refine ⟨fun w has gh loc t i c p r l b v _ hI hl hp => ?_, fun w has gh loc t i c p r l b v p' r' l' w' _ hI hl hp hn hp' => ?_⟩
  · obtain ⟨h1, h2, h3, h4⟩ := hI
    unfold FC
    rcases h4 t i c p r l b v hl with ⟨rfl, a, hx, hA⟩ | ⟨rfl, hx, hG⟩
    · rw [if_pos (by rfl)]
      repeat' split
      all_goals omega
    · rw [if_neg (by decide)]
      cases hG with
      | g0 => omega
      | g1 => omega
      | fin => exact absurd rfl hp
  · obtain ⟨h1, h2, h3, h4⟩ := hI
    have hq0 : ∀ y : Int, y = 0 → wrap64 (y + 0) = (0 : Nat) := fun y hy => by rw [hy]; exact wrap_id (by omega)
    rcases h4 t i c p r l b v hl with ⟨rfl, a, hx, hA⟩ | ⟨rfl, hx, hG⟩
    · have h5 : addC.length = 5 := rfl
      unfold FC
      rw [if_pos h5, if_pos h5]
      cases hA with
      | a0 r A Z =>
        obtain ⟨e1, e2, e3, e4⟩ := nx_det hn (nx_load (q := 0) (by rfl) (hq0 _ Z) (by omega))
        subst e1 e2 e3 e4
        simp [upd_same]
      | a1 r A Z =>
        obtain ⟨e1, e2, e3, e4⟩ := nx_det hn (nx_add (by rfl) (by rw [A]))
        subst e1 e2 e3 e4
        simp only [upd_other _ _ (show (1 : Int) ≠ 3 by decide)]
        simp
        split <;> omega
      | a2 r A Z N =>
        by_cases hc : rd w 0 = r 1
        · obtain ⟨e1, e2, e3, e4⟩ := nx_det hn (nx_casT (q := 0) (by rfl) (hq0 _ Z) (by omega) hc)
          subst e1 e2 e3 e4
          simp [upd_same, hc]
        · obtain ⟨e1, e2, e3, e4⟩ := nx_det hn (nx_casF (q := 0) (by rfl) (hq0 _ Z) (by omega) hc)
          subst e1 e2 e3 e4
          simp [upd_same, Ne.symm hc]
      | no r A Z N =>
        obtain ⟨e1, e2, e3, e4⟩ := nx_det hn (nx_unlZ (by rfl) N)
        have e1 : p' = 0 := e1
        subst e1 e2 e3 e4
        simp [N]
      | yes r N V =>
        obtain ⟨e1, e2, e3, e4⟩ := nx_det hn (nx_unlN (by rfl) (by rw [N]; decide))
        subst e1 e2 e3 e4
        simp [N]
      | a4 r V =>
        obtain ⟨e1, e2, e3, e4⟩ := nx_det hn (nx_emit (by rfl) (by decide))
        exact absurd e1 hp'
      | fin r => exact absurd rfl hp
    · have h5 : ¬ getC.length = 5 := by decide
      unfold FC
      rw [if_neg h5, if_neg h5]
      cases hG with
      | g0 r Z =>
        obtain ⟨e1, e2, e3, e4⟩ := nx_det hn (nx_load (q := 0) (by rfl) (by rw [Z]; exact wrap_id (by omega)) (by omega))
        omega
      | g1 r V =>
        obtain ⟨e1, e2, e3, e4⟩ := nx_det hn (nx_emit (by rfl) (by decide))
        exact absurd e1 hp'
      | fin r => exact absurd rfl hp
theorem cnt_done (hm : Mok m) {t : Nat} (S : List Nat) {j : Nat} (hj : 8 * (m.ts[t]?.getD []).length ≤ j) :
    ((plyG m 0 (S ++ List.replicate j t) (g0 m)).th t).now = none ∧ (m.ts[t]?.getD []).length = ((plyG m 0 (S ++ List.replicate j t) (g0 m)).th t).bg := by
  obtain ⟨h1, h2⟩ := alone_done (cnt_ok hm) (by decide) (cnt_prog m) (t := t) trivial (S := S) (fun _ _ => trivial) hj
  have := bg_le m (S ++ List.replicate j t) t
  exact ⟨h1, by omega⟩
theorem cntC_cases (by_ : List Int) (i : Nat) : ((cntC by_ i).k = 0 ∧ ∃ a, (cntC by_ i).ar = [a] ∧ 1 ≤ a ∧ a ≤ 5) ∨ ((cntC by_ i).k = 1 ∧ (cntC by_ i).ar = []) := by
  unfold cntC
  split
  · rename_i h
    refine .inl ⟨rfl, _, rfl, by omega, ?_⟩
    unfold cntN at *
    omega
  · exact .inr ⟨rfl, rfl⟩
theorem mok_of {ts : List (List Cl)} (h : ∀ (t i : Nat) (c : Cl), (ts[t]?.getD [])[i]? = some c → (c.k = 0 ∧ ∃ a, c.ar = [a]) ∨ (c.k = 1 ∧ c.ar = [])) : Mok ⟨cC.ws, [cC.ca, cC.cg], ts⟩ :=
  ⟨rfl, fun x hx => by rw [List.mem_singleton.1 hx]; exact wrap_id (by omega), rfl, h⟩
theorem cntT_at {by_ : List Int} {t i : Nat} {c : Cl} (h : (cntT by_ t)[i]? = some c) : ∃ j, c = cntC by_ j := by
  have hm := List.mem_of_getElem? h
  simp only [cntT, List.mem_cons, List.not_mem_nil, or_false] at hm
  rcases hm with rfl | rfl | rfl <;> exact ⟨_, rfl⟩
theorem cnt3_at {by_ : List Int} {t i : Nat} {c : Cl} (h : (((mCount cC by_).ts)[t]?.getD [])[i]? = some c) : ∃ j, c = cntC by_ j := by
  match t, h with
  | 0, h => exact cntT_at h
  | 1, h => exact cntT_at h
  | 2, h => exact cntT_at h
  | t + 3, h => simp [mCount] at h
theorem cnt4_at {by_ : List Int} {t i : Nat} {c : Cl} (h : (((mCount4 cC by_).ts)[t]?.getD [])[i]? = some c) : (∃ j, c = cntC by_ j) ∨ (t = 3 ∧ c = ⟨1, []⟩) := by
  match t, h with
  | 0, h => exact .inl (cntT_at h)
  | 1, h => exact .inl (cntT_at h)
  | 2, h => exact .inl (cntT_at h)
  | 3, h =>
    right
    have := List.mem_of_getElem? h
    simp [mCount4] at this
    exact ⟨rfl, this⟩
  | t + 4, h => simp [mCount4] at h
theorem mok3 (by_ : List Int) : Mok (mCount cC by_) := mok_of fun t i c h => by
  obtain ⟨j, rfl⟩ := cnt3_at h
  exact (cntC_cases by_ j).imp (fun ⟨h1, a, h2, _⟩ => ⟨h1, a, h2⟩) id
theorem mok4 (by_ : List Int) : Mok (mCount4 cC by_) := mok_of fun t i c h => by
  rcases cnt4_at h with ⟨j, rfl⟩ | ⟨_, rfl⟩
  · exact (cntC_cases by_ j).imp (fun ⟨h1, a, h2, _⟩ => ⟨h1, a, h2⟩) id
  · exact .inr ⟨rfl, rfl⟩
theorem cnt3_len (by_ : List Int) (t : Nat) : (((mCount cC by_).ts)[t]?.getD []).length = if t < 3 then 3 else 0 := by
  match t with
  | 0 => rfl
  | 1 => rfl
  | 2 => rfl
  | t + 3 => simp [mCount]
/-- Any schedule. -/
theorem cnt_linD : CountLinD cC := by
  intro by_ S _ hS
  obtain ⟨h1, h2, h3⟩ := cnt_lin (mok3 by_) S
  have hs := hs_ply (mCount cC by_) S
  refine ⟨h1, fun d hd => ⟨h2 d hd, ?_⟩, ?_, h3⟩
  · have q1 := hs.own d hd
    have q2 := bg_le (mCount cC by_) S d.th
    rw [cnt3_len] at q2
    split at q2
    · exact ⟨by assumption, by omega⟩
    · omega
  · rw [dgs_count (fun n hn => by have := hS n hn; omega)]
    have q0 := bg_le (mCount cC by_) S 0
    have q1 := bg_le (mCount cC by_) S 1
    have q2 := bg_le (mCount cC by_) S 2
    have q3 := bg_le (mCount cC by_) S 3
    rw [cnt3_len] at q0 q1 q2 q3
    simp at q0 q1 q2 q3
    omega
theorem perm_sum {l l' : List Int} (h : l.Perm l') : l.sum = l'.sum := by
  induction h with
  | nil => rfl
  | cons x _ ih => simp [ih]
  | swap x y l => simp; omega
  | trans _ _ ih1 ih2 => exact ih1.trans ih2
/-- What the log of a number tells, if it never gets too large. -/
theorem num_log {g : Key → Ac} {rs : Key → Int} {L : List Key} {has : List Int} (hl : LogR 2 g rs [0] L has) (hg : ∀ x ∈ L, 0 ≤ (g x).add ∧ (g x).add ≤ 5 ∧ ((g x).put = true → 1 ≤ (g x).add)) (hn : L.length ≤ 1000) :
    has = [(L.map fun x => (g x).add).sum] ∧ 0 ≤ (L.map fun x => (g x).add).sum ∧ (L.map fun x => (g x).add).sum ≤ 5 * L.length ∧ (∀ a ∈ L, (g a).put = true → rs a < (L.map fun x => (g x).add).sum) ∧ (∀ a ∈ L, ∀ b ∈ L, a ≠ b → (g a).put = true → (g b).put = true → rs a ≠ rs b) ∧
    ∀ A key, L = A ++ [key] → rs key + (g key).add = (L.map fun x => (g x).add).sum := by
  induction hl with
  | nil => exact ⟨rfl, by simp, by simp, by simp, by simp, fun A key h => by simp at h⟩
  | @snoc h L key hl hr ih =>
    rw [List.length_append, List.length_singleton] at hn
    obtain ⟨i1, i2, i3, i4, i5, i6⟩ := ih (fun x hx => hg x (by simp [hx])) (by omega)
    obtain ⟨g1, g2, g3⟩ := hg key (by simp)
    have hsum : ((L ++ [key]).map fun x => (g x).add).sum = (L.map fun x => (g x).add).sum + (g key).add := by simp [List.sum_append]
    rw [hsum]
    generalize (L.map fun x => (g x).add).sum = s at *
    subst i1
    have hr' : s = rs key := hr
    have hw : (tel 2 [s] (g key)).2 = [s + (g key).add] := by
      show [wrap64 (s + (g key).add)] = _
      rw [wrap_id (by omega)]
    rw [List.length_append, List.length_singleton]
    refine ⟨hw, by omega, by omega, fun a ha hp => ?_, fun a ha b hb hab hpa hpb => ?_, fun A k hk => ?_⟩
    · rcases List.mem_append.1 ha with ha | ha
      · have := i4 a ha hp; omega
      · have e := List.mem_singleton.1 ha
        subst e
        have := g3 hp
        omega
    · rcases List.mem_append.1 ha with ha1 | ha
      · rcases List.mem_append.1 hb with hb1 | hb
        · exact i5 a ha1 b hb1 hab hpa hpb
        · have e := List.mem_singleton.1 hb
          subst e
          have := i4 a ha1 hpa
          omega
      · have e := List.mem_singleton.1 ha
        subst e
        rcases List.mem_append.1 hb with hb1 | hb
        · have := i4 b hb1 hpb
          omega
        · exact absurd (List.mem_singleton.1 hb).symm hab
    · obtain ⟨_, e⟩ := List.append_inj' hk rfl
      injection e with e _
      subst e
      omega
theorem cnt4_add {by_ : List Int} (x : Key) : 0 ≤ (gK (mCount4 cC by_) x).add ∧ (gK (mCount4 cC by_) x).add ≤ 5 ∧ ((gK (mCount4 cC by_) x).put = true → 1 ≤ (gK (mCount4 cC by_) x).add) := by
  have hb : ∀ a, byK (mCount4 cC by_) x = some a → 1 ≤ a ∧ a ≤ 5 := by
    intro a ha
    unfold byK at ha
    cases hc : ((mCount4 cC by_).ts[x.1]?.getD [])[x.2]? with
    | none => rw [hc] at ha; cases ha
    | some c =>
      rw [hc] at ha
      dsimp only at ha
      rcases cnt4_at hc with ⟨j, rfl⟩ | ⟨_, rfl⟩
      · rcases cntC_cases by_ j with ⟨k1, a', k2, k3⟩ | ⟨k1, k2⟩
        · rw [k1, k2] at ha
          simp at ha
          omega
        · rw [k1] at ha; simp at ha
      · simp at ha
  unfold gK
  cases hx : byK (mCount4 cC by_) x with
  | none => simp
  | some a =>
    have := hb a hx
    simp
    omega
theorem cnt4_len (by_ : List Int) (t : Nat) : (((mCount4 cC by_).ts)[t]?.getD []).length = if t < 3 then 3 else if t = 3 then 1 else 0 := by
  match t with
  | 0 => rfl
  | 1 => rfl
  | 2 => rfl
  | 3 => rfl
  | t + 4 => simp [mCount4]
/-- All calls. -/
theorem cnt_allD : CountAllD cC := by
  intro by_ S _ hS
  obtain ⟨R, hR, hRl⟩ : ∃ R, R = S ++ List.replicate 200 0 ++ List.replicate 200 1 ++ List.replicate 200 2 ∧ allS S = R ++ List.replicate 60 3 := ⟨_, rfl, rfl⟩
  have hm := mok4 by_
  -- who has done all
  have f0 : ((plyG (mCount4 cC by_) 0 R (g0 (mCount4 cC by_))).th 0).now = none ∧ ((plyG (mCount4 cC by_) 0 R (g0 (mCount4 cC by_))).th 0).bg = 3 := by
    obtain ⟨q1, q2⟩ := cnt_done hm S (t := 0) (j := 200) (by rw [cnt4_len]; decide)
    rw [cnt4_len] at q2
    rw [hR, th_later (fun n hn => by rw [List.eq_of_mem_replicate hn]; decide), th_later (fun n hn => by rw [List.eq_of_mem_replicate hn]; decide)]
    exact ⟨q1, q2.symm⟩
  have f1 : ((plyG (mCount4 cC by_) 0 R (g0 (mCount4 cC by_))).th 1).now = none ∧ ((plyG (mCount4 cC by_) 0 R (g0 (mCount4 cC by_))).th 1).bg = 3 := by
    obtain ⟨q1, q2⟩ := cnt_done hm (S ++ List.replicate 200 0) (t := 1) (j := 200) (by rw [cnt4_len]; decide)
    rw [cnt4_len] at q2
    rw [hR, th_later (fun n hn => by rw [List.eq_of_mem_replicate hn]; decide)]
    exact ⟨q1, q2.symm⟩
  have f2 : ((plyG (mCount4 cC by_) 0 R (g0 (mCount4 cC by_))).th 2).now = none ∧ ((plyG (mCount4 cC by_) 0 R (g0 (mCount4 cC by_))).th 2).bg = 3 := by
    obtain ⟨q1, q2⟩ := cnt_done hm (S ++ List.replicate 200 0 ++ List.replicate 200 1) (t := 2) (j := 200) (by rw [cnt4_len]; decide)
    rw [cnt4_len] at q2
    rw [hR]
    exact ⟨q1, q2.symm⟩
  have hR3 : ∀ n ∈ R, n < 3 := by
    rw [hR]
    intro n hn
    simp only [List.mem_append, List.mem_replicate] at hn
    rcases hn with ((hn | hn) | hn) | hn
    · exact hS n hn
    all_goals omega
  have f3 : (plyG (mCount4 cC by_) 0 R (g0 (mCount4 cC by_))).th 3 = ⟨none, 0⟩ := th_idle fun n hn => by have := hR3 n hn; omega
  have e3 : ((plyG (mCount4 cC by_) 0 (allS S) (g0 (mCount4 cC by_))).th 3).now = none ∧ ((plyG (mCount4 cC by_) 0 (allS S) (g0 (mCount4 cC by_))).th 3).bg = 1 := by
    obtain ⟨q1, q2⟩ := cnt_done hm R (t := 3) (j := 60) (by rw [cnt4_len]; decide)
    rw [cnt4_len] at q2
    rw [hRl]
    exact ⟨q1, q2.symm⟩
  have hlat : ∀ t, t ≠ 3 → (plyG (mCount4 cC by_) 0 (allS S) (g0 (mCount4 cC by_))).th t = (plyG (mCount4 cC by_) 0 R (g0 (mCount4 cC by_))).th t := fun t ht => by
    rw [hRl]
    exact th_later fun n hn => by rw [List.eq_of_mem_replicate hn]; exact Ne.symm ht
  have hA4 : ∀ n ∈ allS S, n < 4 := by
    rw [hRl]
    intro n hn
    rcases List.mem_append.1 hn with hn | hn
    · have := hR3 n hn; omega
    · have := List.eq_of_mem_replicate hn; omega
  have kR := dgs_count (m := mCount4 cC by_) (S := R) (fun n hn => by have := hR3 n hn; omega)
  rw [f0.2, f1.2, f2.2, f3] at kR
  have kA := dgs_count (m := mCount4 cC by_) hA4
  rw [hlat 0 (by decide), hlat 1 (by decide), hlat 2 (by decide), f0.2, f1.2, f2.2, e3.2] at kA
  have hsR := hs_ply (mCount4 cC by_) R
  have hth : ∀ (T : List Nat), (∀ d ∈ dgs (plyG (mCount4 cC by_) 0 T (g0 (mCount4 cC by_))).out, d.th < 4) := fun T d hd => by
    have q1 := (hs_ply (mCount4 cC by_) T).own d hd
    have q2 := bg_le (mCount4 cC by_) T d.th
    rw [cnt4_len] at q2
    by_cases h4 : d.th < 4
    · exact h4
    · rw [if_neg (by omega), if_neg (by omega)] at q2; omega
  have four : ∀ t : Nat, t < 4 → t = 0 ∨ t = 1 ∨ t = 2 ∨ t = 3 := fun t h => by omega
  have ER : ∀ d ∈ dgs (plyG (mCount4 cC by_) 0 R (g0 (mCount4 cC by_))).out, d.e ≠ -1 := fun d hd he => by
    have := ((hsR.opn d hd).1 he).1
    rcases four _ (hth R d hd) with h | h | h | h <;> rw [h] at this
    · exact this f0.1
    · exact this f1.1
    · exact this f2.1
    · rw [f3] at this; exact this rfl
  obtain ⟨L, rs, has, gh, loc, H, hL, ht⟩ := cnt_run hm (allS S)
  have EA : ∀ d ∈ dgs (plyG (mCount4 cC by_) 0 (allS S) (g0 (mCount4 cC by_))).out, d.e ≠ -1 := fun d hd he => by
    have := ((H.hs.opn d hd).1 he).1
    rcases four _ (hth _ d hd) with h | h | h | h <;> rw [h] at this
    · rw [hlat 0 (by decide)] at this; exact this f0.1
    · rw [hlat 1 (by decide)] at this; exact this f1.1
    · rw [hlat 2 (by decide)] at this; exact this f2.1
    · exact this e3.1
  obtain ⟨r, hr1, hr2⟩ := ply_behind (mCount4 cC by_) R (List.replicate 60 3) ER
  rw [← hRl] at hr1
  have hrl : r.length = 1 := by
    have := congrArg List.length hr1
    rw [List.length_append] at this
    dsimp only at kR
    omega
  obtain ⟨q, hq⟩ := List.length_eq_one_iff.1 hrl
  subst hq
  -- the log and the calls
  have hko := keys_once H.hs
  have hmemL : ∀ x, x ∈ L ↔ x ∈ (dgs (plyG (mCount4 cC by_) 0 (allS S) (g0 (mCount4 cC by_))).out).map dKey := fun x => by
    constructor
    · intro hx
      obtain ⟨d, hd, e⟩ := hL.mem x hx
      exact e ▸ List.mem_map_of_mem hd
    · intro hx
      obtain ⟨d, hd, rfl⟩ := List.mem_map.1 hx
      exact (ht d hd (EA d hd)).1
  have hperm : L.Perm ((dgs (plyG (mCount4 cC by_) 0 (allS S) (g0 (mCount4 cC by_))).out).map dKey) := (List.perm_ext_iff_of_nodup hL.nd hko).2 hmemL
  have hLl : L.length = 10 := by rw [hperm.length_eq, List.length_map, kA]
  obtain ⟨n1, n2, n3, n4, n5, n6⟩ := num_log H.run (fun x _ => cnt4_add x) (by omega)
  have hadd : ∀ d ∈ dgs (plyG (mCount4 cC by_) 0 (allS S) (g0 (mCount4 cC by_))).out, (cntA (mCount4 cC by_) d).put = (gK (mCount4 cC by_) (dKey d)).put ∧ (cntA (mCount4 cC by_) d).add = (gK (mCount4 cC by_) (dKey d)).add := fun d hd => by
    obtain ⟨c, hc⟩ := cnt_at H.hs hd
    rw [cntA_of hc]
    exact ⟨rfl, rfl⟩
  have hthree : ∀ d ∈ dgs (plyG (mCount4 cC by_) 0 (allS S) (g0 (mCount4 cC by_))).out, d.th = 3 → d = q := fun d hd h3 => by
    rw [hr1] at hd
    rcases List.mem_append.1 hd with hd | hd
    · have := hsR.own d hd
      rw [h3, f3] at this
      exact absurd this (Nat.not_lt_zero _)
    · exact List.mem_singleton.1 hd
  obtain ⟨d3, hd3, hd3t, _⟩ := H.hs.all 3 0 (by rw [e3.2]; decide)
  have hqd := hthree d3 hd3 hd3t
  subst hqd
  refine ⟨H.err, kA, fun d hd => ⟨EA d hd, by rw [(ht d hd (EA d hd)).2]; rfl⟩, ?_, ⟨d3, hd3, hd3t⟩, fun d hd h3 => ?_⟩
  · refine (List.pairwise_map.1 hko).imp_of_mem fun {a b} ha hb hab hpa hpb => ?_
    rw [(hadd a ha).1] at hpa
    rw [(hadd b hb).1] at hpb
    rw [(ht a ha (EA a ha)).2, (ht b hb (EA b hb)).2]
    exact n5 _ (ht a ha (EA a ha)).1 _ (ht b hb (EA b hb)).1 hab hpa hpb
  · have hdq := hthree d hd h3
    subst hdq
    have hm3 := (ht d hd (EA d hd)).1
    obtain ⟨A, B, hAB⟩ := List.append_of_mem hm3
    have hB : B = [] := by
      cases B with
      | nil => rfl
      | cons x B =>
        exfalso
        have hx : x ∈ L := by rw [hAB]; simp
        obtain ⟨y, hy, hyx⟩ := hL.mem x hx
        have ho := hL.ord
        rw [hAB] at ho
        have ho2 := (List.pairwise_cons.1 (List.pairwise_append.1 ho).2.1).1 x (by simp) d hd y hy rfl hyx (EA y hy)
        have hnd := hL.nd
        rw [hAB] at hnd
        have hne : dKey d ≠ x := by
          have := (List.nodup_cons.1 (List.nodup_append.1 hnd).2.1).1
          exact fun e => this (by rw [e]; simp)
        have hyR : y ∈ dgs (plyG (mCount4 cC by_) 0 R (g0 (mCount4 cC by_))).out := by
          rw [hr1] at hy
          rcases List.mem_append.1 hy with hy | hy
          · exact hy
          · rw [List.mem_singleton.1 hy] at hyx; exact absurd hyx hne
        have := ((hsR.bnd y hyR).2 (ER y hyR)).2
        have := hr2 d (by simp)
        omega
    subst hB
    have h6 := n6 A _ hAB
    have hz : (gK (mCount4 cC by_) (dKey d)).add = 0 := by
      obtain ⟨c, hc⟩ := cnt_at H.hs hd
      rw [h3] at hc
      have := List.mem_of_getElem? hc
      simp [mCount4] at this
      unfold gK byK dKey
      rw [h3, hc, this]
      rfl
    rw [(ht d hd (EA d hd)).2]
    show rs (dKey d) = _
    rw [hz] at h6
    have h7 : (L.map fun x => (gK (mCount4 cC by_) x).add).sum = ((dgs (plyG (mCount4 cC by_) 0 (allS S) (g0 (mCount4 cC by_))).out).map fun d => (cntA (mCount4 cC by_) d).add).sum := by
      rw [perm_sum (hperm.map _), List.map_map]
      congr 1
      exact List.map_congr_left fun d hd => (hadd d hd).2.symm
    omega
end Go.Baro.Cnt

set_option linter.unusedSimpArgs false
set_option linter.unusedVariables false
namespace Go.Baro.Cnt
open Go.RowKit (wrap64)

theorem tlsT_succ (by_ : List Int) (j : Nat) : tlsT by_ (j + 1) = tlsT by_ j ++ [⟨0, [tlsN by_ j]⟩, ⟨1, []⟩] := by
  simp [tlsT, List.range_succ]
theorem tlsT_len (by_ : List Int) : ∀ j, (tlsT by_ j).length = 2 * j
  | 0 => rfl
  | j + 1 => by rw [tlsT_succ, List.length_append, tlsT_len by_ j]; simp; omega
theorem tls_at {by_ : List Int} : ∀ {j i : Nat} {c : Cl}, (tlsT by_ j)[i]? = some c → (i % 2 = 0 → c = ⟨0, [tlsN by_ (i / 2)]⟩) ∧ (i % 2 = 1 → c = ⟨1, []⟩)
  | 0, i, c, h => by simp [tlsT] at h
  | j + 1, i, c, h => by
    rw [tlsT_succ] at h
    by_cases hi : i < (tlsT by_ j).length
    · rw [List.getElem?_append_left hi] at h; exact tls_at h
    · rw [List.getElem?_append_right (by omega)] at h
      have hlt := (List.getElem?_eq_some_iff.1 h).1
      rw [tlsT_len] at h hi hlt
      simp only [List.length_cons, List.length_nil] at hlt
      rcases (by omega : i = 2 * j ∨ i = 2 * j + 1) with rfl | rfl
      · rw [Nat.sub_self] at h
        injection h with h
        subst h
        exact ⟨fun _ => by rw [show 2 * j / 2 = j by omega], fun h => by omega⟩
      · rw [show 2 * j + 1 - 2 * j = 1 by omega] at h
        injection h with h
        subst h
        exact ⟨fun h => by omega, fun _ => rfl⟩
theorem inc_lo : ∀ (l : List Nat) (k i x : Nat), l.Pairwise (· < ·) → (∀ x ∈ l, k ≤ x) → l[i]? = some x → k + i ≤ x
  | [], _, _, _, _, _, h => by simp at h
  | a :: l, k, 0, x, hp, hk, h => by
    injection h with h
    subst h
    exact hk _ (by simp)
  | a :: l, k, i + 1, x, hp, hk, h => by
    rw [List.pairwise_cons] at hp
    have := inc_lo l (k + 1) i x hp.2 (fun y hy => by have := hp.1 y hy; have := hk a (by simp); omega) (by simpa using h)
    omega
theorem inc_hi : ∀ (l : List Nat) (n i x : Nat), l.Pairwise (· < ·) → (∀ x ∈ l, x < n) → l[i]? = some x → x + (l.length - i) ≤ n
  | [], _, _, _, _, _, h => by simp at h
  | a :: l, n, 0, x, hp, hk, h => by
    injection h with h
    subst h
    rw [List.pairwise_cons] at hp
    match l, hp, hk with
    | [], _, hk => have := hk a (by simp); simp; omega
    | b :: l, hp, hk =>
      have := inc_hi (b :: l) n 0 b hp.2 (fun y hy => hk y (by simp [hy])) rfl
      have := hp.1 b (by simp)
      simp at *
      omega
  | a :: l, n, i + 1, x, hp, hk, h => by
    rw [List.pairwise_cons] at hp
    have := inc_hi l n i x hp.2 (fun y hy => hk y (by simp [hy])) (by simpa using h)
    simp at *
    omega
theorem runs_at {k : Int} : ∀ (l : List Ac) (has : List Int) (i : Nat) (a : Ac), runs k has l → l[i]? = some a → (tel k ((l.take i).foldl (fun h a => (tel k h a).2) has) a).1 = a.v
  | [], _, _, _, _, h => by simp at h
  | b :: l, has, 0, a, hr, h => by
    injection h with h
    subst h
    exact hr.1
  | b :: l, has, i + 1, a, hr, h => by
    rw [List.take_succ_cons, List.foldl_cons]
    exact runs_at l _ i a hr.2 (by simpa using h)
theorem wantN_succ (by_ : List Int) (i : Nat) : wantN by_ (i + 1) = wrap64 (wantN by_ i + tlsN by_ i) := by
  simp [wantN, List.range_succ]
theorem wantN_wrap (by_ : List Int) : ∀ i, wrap64 (wantN by_ i) = wantN by_ i
  | 0 => wrap_id (by show (-9223372036854775808 : Int) ≤ 0 ∧ (0 : Int) ≤ 9223372036854775807; omega)
  | i + 1 => by rw [wantN_succ, wrap_wrap]
theorem mokT (by_ : List Int) : Mok (mTells cC by_) := mok_of fun t i c h => by
  match t, h with
  | 0, h =>
    obtain ⟨h1, h2⟩ := tls_at h
    rcases Nat.mod_two_eq_zero_or_one i with hi | hi
    · exact .inl (by rw [h1 hi]; exact ⟨rfl, _, rfl⟩)
    · exact .inr (by rw [h2 hi]; exact ⟨rfl, rfl⟩)
  | t + 1, h => simp at h
theorem tlen (by_ : List Int) (t : Nat) : (((mTells cC by_).ts)[t]?.getD []).length = if t = 0 then 18 else 0 := by
  match t with
  | 0 => exact tlsT_len by_ 9
  | t + 1 => simp [mTells]
theorem cnt_tellsD : CountTellsD cC := by
  intro by_ _
  have hm := mokT by_
  obtain ⟨h1, h2, h3⟩ := cnt_lin hm (List.replicate 1080 0)
  have hs := hs_ply (mTells cC by_) (List.replicate 1080 0)
  obtain ⟨q1, q2⟩ := cnt_done hm [] (t := 0) (j := 1080) (by rw [tlen]; decide)
  rw [List.nil_append] at q1 q2
  rw [tlen, if_pos rfl] at q2
  have kA := dgs_count (m := mTells cC by_) (S := List.replicate 1080 0) (fun n hn => by rw [List.eq_of_mem_replicate hn]; decide)
  have b1 := bg_le (mTells cC by_) (List.replicate 1080 0) 1
  have b2 := bg_le (mTells cC by_) (List.replicate 1080 0) 2
  have b3 := bg_le (mTells cC by_) (List.replicate 1080 0) 3
  rw [tlen] at b1 b2 b3
  simp only [Nat.succ_ne_zero, if_false, Nat.le_zero, reduceIte] at b1 b2 b3
  rw [← q2] at kA
  have hth : ∀ d ∈ dgs (plyG (mTells cC by_) 0 (List.replicate 1080 0) (g0 (mTells cC by_))).out, d.th = 0 ∧ d.cl < 18 := fun d hd => by
    have q1 := hs.own d hd
    have q2 := bg_le (mTells cC by_) (List.replicate 1080 0) d.th
    rw [tlen] at q2
    by_cases h0 : d.th = 0
    · rw [if_pos h0] at q2; exact ⟨h0, by omega⟩
    · rw [if_neg h0] at q2; omega
  have hend : ∀ d ∈ dgs (plyG (mTells cC by_) 0 (List.replicate 1080 0) (g0 (mTells cC by_))).out, d.e ≠ -1 := fun d hd => all_ended (m := mTells cC by_) hs q1 d hd (hth d hd).1
  have hat : ∀ d ∈ dgs (plyG (mTells cC by_) 0 (List.replicate 1080 0) (g0 (mTells cC by_))).out, (cntA (mTells cC by_) d).b = d.b ∧ (cntA (mTells cC by_) d).e = d.e ∧ (cntA (mTells cC by_) d).v = d.to.headD 0 ∧ (cntA (mTells cC by_) d).add = if d.cl % 2 = 0 then tlsN by_ (d.cl / 2) else 0 := fun d hd => by
    obtain ⟨c, hc⟩ := cnt_at hs hd
    rw [cntA_of hc]
    refine ⟨rfl, rfl, if_neg (hend d hd), ?_⟩
    have hc' := hc
    rw [(hth d hd).1] at hc'
    obtain ⟨t1, t2⟩ := tls_at (by_ := by_) (j := 9) hc'
    unfold gK byK dKey
    rw [hc]
    rcases Nat.mod_two_eq_zero_or_one d.cl with hi | hi
    · rw [t1 hi, if_pos hi]; rfl
    · rw [t2 hi, if_neg (show ¬ d.cl % 2 = 0 by omega)]; rfl
  have hsrt : (dgs (plyG (mTells cC by_) 0 (List.replicate 1080 0) (g0 (mTells cC by_))).out).Pairwise (fun a b => a.cl < b.cl ∧ a.e < b.b) := hs.srt.imp_of_mem fun {a b} ha hb hab => by
    have hab' : a.th = b.th := by rw [(hth a ha).1, (hth b hb).1]
    rcases Nat.lt_trichotomy a.cl b.cl with h | h | h
    · exact ⟨h, (hs.seq a ha b hb hab' h).2⟩
    · have := hs.one a ha b hb hab' h
      subst this
      omega
    · have g1 := (hs.seq b hb a ha hab'.symm h).2
      have g2 := ((hs.bnd b hb).2 (hend b hb)).1
      omega
  have kA' : (dgs (plyG (mTells cC by_) 0 (List.replicate 1080 0) (g0 (mTells cC by_))).out).length = 18 := by omega
  clear q1 q2 b1 b2 b3
  refine ⟨h1, kA', ?_⟩
  clear kA hs h1
  generalize dgs (plyG (mTells cC by_) 0 (List.replicate 1080 0) (g0 (mTells cC by_))).out = D at *
  have hcl : ∀ (i : Nat) (d : Dg), D[i]? = some d → d.cl = i := fun i d hd => by
    have hp : (D.map Dg.cl).Pairwise (· < ·) := List.Pairwise.map _ (fun a b h => h.1) hsrt
    have hx : (D.map Dg.cl)[i]? = some d.cl := by rw [List.getElem?_map, hd]; rfl
    have g1 := inc_lo _ 0 i d.cl hp (fun _ _ => Nat.zero_le _) hx
    have g2 := inc_hi _ 18 i d.cl hp (fun x hx => by obtain ⟨y, hy, rfl⟩ := List.mem_map.1 hx; exact (hth y hy).2) hx
    have g3 := (List.getElem?_eq_some_iff.1 hd).1
    rw [List.length_map, kA'] at g2
    omega
  have hruns : runs 2 [0] (D.map (cntA (mTells cC by_))) := by
    refine lin_only _ _ h3 ?_ (fun a ha => ?_)
    · refine List.Pairwise.map _ (R := fun a b => (a.cl < b.cl ∧ a.e < b.b) ∧ a ∈ D ∧ b ∈ D) (fun a b hab => ?_) (hsrt.imp_of_mem fun ha hb hab => ⟨hab, ha, hb⟩)
      rw [(hat a hab.2.1).2.1, (hat b hab.2.2).1]
      exact hab.1.2
    · obtain ⟨d, hd, rfl⟩ := List.mem_map.1 ha
      rw [(hat d hd).2.1]
      exact hend d hd
  have hst : ∀ i, i ≤ 18 → ((D.map (cntA (mTells cC by_))).take i).foldl (fun h a => (tel 2 h a).2) [0] = [wantN by_ ((i + 1) / 2)] := by
    intro i
    induction i with
    | zero => intro _; rfl
    | succ i ih =>
      intro hi
      have hd : D[i]? = some (D[i]'(by omega)) := List.getElem?_eq_getElem (by omega)
      have hmem := List.mem_of_getElem? hd
      have hx : (D.map (cntA (mTells cC by_)))[i]? = some (cntA (mTells cC by_) (D[i]'(by omega))) := by rw [List.getElem?_map, hd]; rfl
      rw [List.take_add_one, hx, List.foldl_append, ih (by omega)]
      show [wrap64 (wantN by_ ((i + 1) / 2) + (cntA (mTells cC by_) (D[i]'(by omega))).add)] = _
      rw [(hat _ hmem).2.2.2, hcl i _ hd]
      rcases Nat.mod_two_eq_zero_or_one i with h | h
      · rw [if_pos h, show (i + 1 + 1) / 2 = i / 2 + 1 by omega, show (i + 1) / 2 = i / 2 by omega, wantN_succ]
      · rw [if_neg (by omega), Int.add_zero, wantN_wrap, show (i + 1 + 1) / 2 = (i + 1) / 2 by omega]
  intro i d hd
  have hmem := List.mem_of_getElem? hd
  have hi := (List.getElem?_eq_some_iff.1 hd).1
  have hx : (D.map (cntA (mTells cC by_)))[i]? = some (cntA (mTells cC by_) d) := by rw [List.getElem?_map, hd]; rfl
  have hr := runs_at _ _ i _ hruns hx
  rw [hst i (by omega), (hat d hmem).2.2.1] at hr
  refine ⟨hend d hmem, ?_⟩
  have hl := h2 d hmem (hend d hmem)
  obtain ⟨v, hv⟩ := List.length_eq_one_iff.1 hl
  rw [hv] at hr ⊢
  have : wantN by_ ((i + 1) / 2) = v := hr
  rw [this]
end Go.Baro.Cnt
