/- Of this claim's own texts these, one behind the other: CountAlg2, CellAlg, CellAlg2. No statement of the seat is proved here; no condition but those that stand at the theorems. -/
import Derived.Test.YtnchgdjdfhfedaaGreatDoorPartAK
import Derived.Test.YtnchgdjdfhfedaaGreatDoorPartAI
import Derived.Test.YtnchgdjdfhfedaaGreatDoorPartAH
set_option linter.unusedSimpArgs false
set_option linter.unusedVariables false
namespace Go.Baro.Cnt
open Go.RowKit (wrap64)

def cC : Cu := ⟨[0], addC, getC⟩
variable {m : Mc}
theorem cnt_at {S : List Nat} {d : Dg} (h : Hs S.length S.length (plyG m 0 S (g0 m))) (hd : d ∈ dgs (plyG m 0 S (g0 m)).out) : ∃ c, (m.ts[d.th]?.getD [])[d.cl]? = some c := by
  have h1 := h.own d hd
  have h2 := bg_le m S d.th
  exact ⟨_, List.getElem?_eq_getElem (by omega)⟩
/-- What holds of each run. -/
theorem cnt_run (hm : Mok m) (S : List Nat) : ∃ L rs has gh loc, ObjJ (fun _ => True) 2 (gK m) m.ws Fin (Inv m) S S.length (plyG m 0 S (g0 m)) L rs has gh loc ∧ Log (fun _ _ => False) (dgs (plyG m 0 S (g0 m)).out) L ∧
    ∀ d ∈ dgs (plyG m 0 S (g0 m)).out, d.e ≠ -1 → dKey d ∈ L ∧ d.to = [rs (dKey d)] := by
  obtain ⟨L, rs, has, gh, loc, H⟩ := obj_run (cnt_ok hm) S (fun _ _ => trivial)
  refine ⟨L, rs, has, gh, loc, H, ⟨H.log.nd, H.log.mem, fun d hd he => (H.log.all d hd he).elim .inl (fun ⟨v, hv, _⟩ => by cases hv), H.log.ord⟩, fun d hd he => ?_⟩
  rcases H.told d hd he with ⟨h1, h2⟩ | ⟨v, _, h1, _⟩
  · have h3 : dKey d ∈ L := by simpa using h1
    rw [if_pos h3] at h2
    exact ⟨h3, h2⟩
  · cases h1
theorem cntA_of {d : Dg} {c : Cl} (h : (m.ts[d.th]?.getD [])[d.cl]? = some c) : cntA m d = ⟨d.b, d.e, (gK m (dKey d)).put, if d.e = -1 then 0 else d.to.headD 0, (gK m (dKey d)).add⟩ := by
  unfold cntA gK byK dKey
  rw [h]
  dsimp only
  by_cases hk : c.k = 0 <;> simp [hk]
theorem cnt_lin (hm : Mok m) (S : List Nat) : noErr (plyG m 0 S (g0 m)) ∧ (∀ d ∈ dgs (plyG m 0 S (g0 m)).out, d.e ≠ -1 → d.to.length = 1) ∧ Lin 2 m.ws ((dgs (plyG m 0 S (g0 m)).out).map (cntA m)) := by
  obtain ⟨L, rs, has, gh, loc, H, hL, ht⟩ := cnt_run hm S
  refine ⟨H.err, fun d hd he => by rw [(ht d hd he).2]; rfl, hL.lin (keys_once H.hs) H.run (cntA m) fun d hd => ?_⟩
  obtain ⟨c, hc⟩ := cnt_at H.hs hd
  rw [cntA_of hc]
  refine ⟨rfl, rfl, fun he => ((H.hs.bnd d hd).2 he).1, rfl, rfl, fun _ h => absurd rfl h, fun he => ?_⟩
  dsimp only
  rw [if_neg he, (ht d hd he).2]
  rfl
/-- How far a call is from its end, if it is alone. -/
def FC (w : List Int) (c : List Ins) (p : Nat) (r : Int → Int) : Nat :=
  if c.length = 5 then (if p = 0 then 5 else if p = 1 then (if r 1 = rd w 0 then 4 else 8) else if p = 2 then (if r 1 = rd w 0 then 3 else 7) else if p = 3 then (if r 3 = 0 then 6 else 2) else 1) else 2 - p
theorem cnt_prog (m : Mc) : Prog m (fun _ => True) (Inv m) 8 FC := by
  refine ⟨fun w has gh loc t i c p r l b v _ hI hl hp => ?_, fun w has gh loc t i c p r l b v p' r' l' w' _ hI hl hp hn hp' => ?_⟩
  · obtain ⟨h1, h2, h3, h4⟩ := hI
    unfold FC
    rcases h4 t i c p r l b v hl with ⟨rfl, a, hx, hA⟩ | ⟨rfl, hx, hG⟩
    · rw [if_pos (by rfl)]
      repeat' split
      all_goals omega
    · rw [if_neg (by decide)]
      cases hG with
      | g0 => omega
      | g1 => omega
      | fin => exact absurd rfl hp
  · obtain ⟨h1, h2, h3, h4⟩ := hI
    have hq0 : ∀ y : Int, y = 0 → wrap64 (y + 0) = (0 : Nat) := fun y hy => by rw [hy]; exact wrap_id (by omega)
    rcases h4 t i c p r l b v hl with ⟨rfl, a, hx, hA⟩ | ⟨rfl, hx, hG⟩
    · have h5 : addC.length = 5 := rfl
      unfold FC
      rw [if_pos h5, if_pos h5]
      cases hA with
      | a0 r A Z =>
        obtain ⟨e1, e2, e3, e4⟩ := nx_det hn (nx_load (q := 0) (by rfl) (hq0 _ Z) (by omega))
        subst e1 e2 e3 e4
        simp [upd_same]
      | a1 r A Z =>
        obtain ⟨e1, e2, e3, e4⟩ := nx_det hn (nx_add (by rfl) (by rw [A]))
        subst e1 e2 e3 e4
        simp only [upd_other _ _ (show (1 : Int) ≠ 3 by decide)]
        simp
        split <;> omega
      | a2 r A Z N =>
        by_cases hc : rd w 0 = r 1
        · obtain ⟨e1, e2, e3, e4⟩ := nx_det hn (nx_casT (q := 0) (by rfl) (hq0 _ Z) (by omega) hc)
          subst e1 e2 e3 e4
          simp [upd_same, hc]
        · obtain ⟨e1, e2, e3, e4⟩ := nx_det hn (nx_casF (q := 0) (by rfl) (hq0 _ Z) (by omega) hc)
          subst e1 e2 e3 e4
          simp [upd_same, Ne.symm hc]
      | no r A Z N =>
        obtain ⟨e1, e2, e3, e4⟩ := nx_det hn (nx_unlZ (by rfl) N)
        have e1 : p' = 0 := e1
        subst e1 e2 e3 e4
        simp [N]
      | yes r N V =>
        obtain ⟨e1, e2, e3, e4⟩ := nx_det hn (nx_unlN (by rfl) (by rw [N]; decide))
        subst e1 e2 e3 e4
        simp [N]
      | a4 r V =>
        obtain ⟨e1, e2, e3, e4⟩ := nx_det hn (nx_emit (by rfl) (by decide))
        exact absurd e1 hp'
      | fin r => exact absurd rfl hp
    · have h5 : ¬ getC.length = 5 := by decide
      unfold FC
      rw [if_neg h5, if_neg h5]
      cases hG with
      | g0 r Z =>
        obtain ⟨e1, e2, e3, e4⟩ := nx_det hn (nx_load (q := 0) (by rfl) (by rw [Z]; exact wrap_id (by omega)) (by omega))
        omega
      | g1 r V =>
        obtain ⟨e1, e2, e3, e4⟩ := nx_det hn (nx_emit (by rfl) (by decide))
        exact absurd e1 hp'
      | fin r => exact absurd rfl hp
theorem cnt_done (hm : Mok m) {t : Nat} (S : List Nat) {j : Nat} (hj : 8 * (m.ts[t]?.getD []).length ≤ j) :
    ((plyG m 0 (S ++ List.replicate j t) (g0 m)).th t).now = none ∧ (m.ts[t]?.getD []).length = ((plyG m 0 (S ++ List.replicate j t) (g0 m)).th t).bg := by
  obtain ⟨h1, h2⟩ := alone_done (cnt_ok hm) (by decide) (cnt_prog m) (t := t) trivial (S := S) (fun _ _ => trivial) hj
  have := bg_le m (S ++ List.replicate j t) t
  exact ⟨h1, by omega⟩
theorem cntC_cases (by_ : List Int) (i : Nat) : ((cntC by_ i).k = 0 ∧ ∃ a, (cntC by_ i).ar = [a] ∧ 1 ≤ a ∧ a ≤ 5) ∨ ((cntC by_ i).k = 1 ∧ (cntC by_ i).ar = []) := by
  unfold cntC
  split
  · rename_i h
    refine .inl ⟨rfl, _, rfl, by omega, ?_⟩
    unfold cntN at *
    omega
  · exact .inr ⟨rfl, rfl⟩
theorem mok_of {ts : List (List Cl)} (h : ∀ (t i : Nat) (c : Cl), (ts[t]?.getD [])[i]? = some c → (c.k = 0 ∧ ∃ a, c.ar = [a]) ∨ (c.k = 1 ∧ c.ar = [])) : Mok ⟨cC.ws, [cC.ca, cC.cg], ts⟩ :=
  ⟨rfl, fun x hx => by rw [List.mem_singleton.1 hx]; exact wrap_id (by omega), rfl, h⟩
theorem cntT_at {by_ : List Int} {t i : Nat} {c : Cl} (h : (cntT by_ t)[i]? = some c) : ∃ j, c = cntC by_ j := by
  have hm := List.mem_of_getElem? h
  simp only [cntT, List.mem_cons, List.not_mem_nil, or_false] at hm
  rcases hm with rfl | rfl | rfl <;> exact ⟨_, rfl⟩
theorem cnt3_at {by_ : List Int} {t i : Nat} {c : Cl} (h : (((mCount cC by_).ts)[t]?.getD [])[i]? = some c) : ∃ j, c = cntC by_ j := by
  match t, h with
  | 0, h => exact cntT_at h
  | 1, h => exact cntT_at h
  | 2, h => exact cntT_at h
  | t + 3, h => simp [mCount] at h
theorem cnt4_at {by_ : List Int} {t i : Nat} {c : Cl} (h : (((mCount4 cC by_).ts)[t]?.getD [])[i]? = some c) : (∃ j, c = cntC by_ j) ∨ (t = 3 ∧ c = ⟨1, []⟩) := by
  match t, h with
  | 0, h => exact .inl (cntT_at h)
  | 1, h => exact .inl (cntT_at h)
  | 2, h => exact .inl (cntT_at h)
  | 3, h =>
    right
    have := List.mem_of_getElem? h
    simp [mCount4] at this
    exact ⟨rfl, this⟩
  | t + 4, h => simp [mCount4] at h
theorem mok3 (by_ : List Int) : Mok (mCount cC by_) := mok_of fun t i c h => by
  obtain ⟨j, rfl⟩ := cnt3_at h
  exact (cntC_cases by_ j).imp (fun ⟨h1, a, h2, _⟩ => ⟨h1, a, h2⟩) id
theorem mok4 (by_ : List Int) : Mok (mCount4 cC by_) := mok_of fun t i c h => by
  rcases cnt4_at h with ⟨j, rfl⟩ | ⟨_, rfl⟩
  · exact (cntC_cases by_ j).imp (fun ⟨h1, a, h2, _⟩ => ⟨h1, a, h2⟩) id
  · exact .inr ⟨rfl, rfl⟩
theorem cnt3_len (by_ : List Int) (t : Nat) : (((mCount cC by_).ts)[t]?.getD []).length = if t < 3 then 3 else 0 := by
  match t with
  | 0 => rfl
  | 1 => rfl
  | 2 => rfl
  | t + 3 => simp [mCount]
/-- Any schedule. -/
theorem cnt_linD : CountLinD cC := by
  intro by_ S _ hS
  obtain ⟨h1, h2, h3⟩ := cnt_lin (mok3 by_) S
  have hs := hs_ply (mCount cC by_) S
  refine ⟨h1, fun d hd => ⟨h2 d hd, ?_⟩, ?_, h3⟩
  · have q1 := hs.own d hd
    have q2 := bg_le (mCount cC by_) S d.th
    rw [cnt3_len] at q2
    split at q2
    · exact ⟨by assumption, by omega⟩
    · omega
  · rw [dgs_count (fun n hn => by have := hS n hn; omega)]
    have q0 := bg_le (mCount cC by_) S 0
    have q1 := bg_le (mCount cC by_) S 1
    have q2 := bg_le (mCount cC by_) S 2
    have q3 := bg_le (mCount cC by_) S 3
    rw [cnt3_len] at q0 q1 q2 q3
    simp at q0 q1 q2 q3
    omega
theorem perm_sum {l l' : List Int} (h : l.Perm l') : l.sum = l'.sum := by
  induction h with
  | nil => rfl
  | cons x _ ih => simp [ih]
  | swap x y l => simp; omega
  | trans _ _ ih1 ih2 => exact ih1.trans ih2
/-- What the log of a number tells, if it never gets too large. -/
theorem num_log {g : Key → Ac} {rs : Key → Int} {L : List Key} {has : List Int} (hl : LogR 2 g rs [0] L has) (hg : ∀ x ∈ L, 0 ≤ (g x).add ∧ (g x).add ≤ 5 ∧ ((g x).put = true → 1 ≤ (g x).add)) (hn : L.length ≤ 1000) :
    has = [(L.map fun x => (g x).add).sum] ∧ 0 ≤ (L.map fun x => (g x).add).sum ∧ (L.map fun x => (g x).add).sum ≤ 5 * L.length ∧ (∀ a ∈ L, (g a).put = true → rs a < (L.map fun x => (g x).add).sum) ∧ (∀ a ∈ L, ∀ b ∈ L, a ≠ b → (g a).put = true → (g b).put = true → rs a ≠ rs b) ∧
    ∀ A key, L = A ++ [key] → rs key + (g key).add = (L.map fun x => (g x).add).sum := by
  induction hl with
  | nil => exact ⟨rfl, by simp, by simp, by simp, by simp, fun A key h => by simp at h⟩
  | @snoc h L key hl hr ih =>
    rw [List.length_append, List.length_singleton] at hn
    obtain ⟨i1, i2, i3, i4, i5, i6⟩ := ih (fun x hx => hg x (by simp [hx])) (by omega)
    obtain ⟨g1, g2, g3⟩ := hg key (by simp)
    have hsum : ((L ++ [key]).map fun x => (g x).add).sum = (L.map fun x => (g x).add).sum + (g key).add := by simp [List.sum_append]
    rw [hsum]
    generalize (L.map fun x => (g x).add).sum = s at *
    subst i1
    have hr' : s = rs key := hr
    have hw : (tel 2 [s] (g key)).2 = [s + (g key).add] := by
      show [wrap64 (s + (g key).add)] = _
      rw [wrap_id (by omega)]
    rw [List.length_append, List.length_singleton]
    refine ⟨hw, by omega, by omega, fun a ha hp => ?_, fun a ha b hb hab hpa hpb => ?_, fun A k hk => ?_⟩
    · rcases List.mem_append.1 ha with ha | ha
      · have := i4 a ha hp; omega
      · have e := List.mem_singleton.1 ha
        subst e
        have := g3 hp
        omega
    · rcases List.mem_append.1 ha with ha1 | ha
      · rcases List.mem_append.1 hb with hb1 | hb
        · exact i5 a ha1 b hb1 hab hpa hpb
        · have e := List.mem_singleton.1 hb
          subst e
          have := i4 a ha1 hpa
          omega
      · have e := List.mem_singleton.1 ha
        subst e
        rcases List.mem_append.1 hb with hb1 | hb
        · have := i4 b hb1 hpb
          omega
        · exact absurd (List.mem_singleton.1 hb).symm hab
    · obtain ⟨_, e⟩ := List.append_inj' hk rfl
      injection e with e _
      subst e
      omega
theorem cnt4_add {by_ : List Int} (x : Key) : 0 ≤ (gK (mCount4 cC by_) x).add ∧ (gK (mCount4 cC by_) x).add ≤ 5 ∧ ((gK (mCount4 cC by_) x).put = true → 1 ≤ (gK (mCount4 cC by_) x).add) := by
  have hb : ∀ a, byK (mCount4 cC by_) x = some a → 1 ≤ a ∧ a ≤ 5 := by
    intro a ha
    unfold byK at ha
    cases hc : ((mCount4 cC by_).ts[x.1]?.getD [])[x.2]? with
    | none => rw [hc] at ha; cases ha
    | some c =>
      rw [hc] at ha
      dsimp only at ha
      rcases cnt4_at hc with ⟨j, rfl⟩ | ⟨_, rfl⟩
      · rcases cntC_cases by_ j with ⟨k1, a', k2, k3⟩ | ⟨k1, k2⟩
        · rw [k1, k2] at ha
          simp at ha
          omega
        · rw [k1] at ha; simp at ha
      · simp at ha
  unfold gK
  cases hx : byK (mCount4 cC by_) x with
  | none => simp
  | some a =>
    have := hb a hx
    simp
    omega
theorem cnt4_len (by_ : List Int) (t : Nat) : (((mCount4 cC by_).ts)[t]?.getD []).length = if t < 3 then 3 else if t = 3 then 1 else 0 := by
  match t with
  | 0 => rfl
  | 1 => rfl
  | 2 => rfl
  | 3 => rfl
  | t + 4 => simp [mCount4]
/-- All calls. -/
theorem cnt_allD : CountAllD cC := by
  intro by_ S _ hS
  obtain ⟨R, hR, hRl⟩ : ∃ R, R = S ++ List.replicate 200 0 ++ List.replicate 200 1 ++ List.replicate 200 2 ∧ allS S = R ++ List.replicate 60 3 := ⟨_, rfl, rfl⟩
  have hm := mok4 by_
  -- who has done all
  have f0 : ((plyG (mCount4 cC by_) 0 R (g0 (mCount4 cC by_))).th 0).now = none ∧ ((plyG (mCount4 cC by_) 0 R (g0 (mCount4 cC by_))).th 0).bg = 3 := by
    obtain ⟨q1, q2⟩ := cnt_done hm S (t := 0) (j := 200) (by rw [cnt4_len]; decide)
    rw [cnt4_len] at q2
    rw [hR, th_later (fun n hn => by rw [List.eq_of_mem_replicate hn]; decide), th_later (fun n hn => by rw [List.eq_of_mem_replicate hn]; decide)]
    exact ⟨q1, q2.symm⟩
  have f1 : ((plyG (mCount4 cC by_) 0 R (g0 (mCount4 cC by_))).th 1).now = none ∧ ((plyG (mCount4 cC by_) 0 R (g0 (mCount4 cC by_))).th 1).bg = 3 := by
    obtain ⟨q1, q2⟩ := cnt_done hm (S ++ List.replicate 200 0) (t := 1) (j := 200) (by rw [cnt4_len]; decide)
    rw [cnt4_len] at q2
    rw [hR, th_later (fun n hn => by rw [List.eq_of_mem_replicate hn]; decide)]
    exact ⟨q1, q2.symm⟩
  have f2 : ((plyG (mCount4 cC by_) 0 R (g0 (mCount4 cC by_))).th 2).now = none ∧ ((plyG (mCount4 cC by_) 0 R (g0 (mCount4 cC by_))).th 2).bg = 3 := by
    obtain ⟨q1, q2⟩ := cnt_done hm (S ++ List.replicate 200 0 ++ List.replicate 200 1) (t := 2) (j := 200) (by rw [cnt4_len]; decide)
    rw [cnt4_len] at q2
    rw [hR]
    exact ⟨q1, q2.symm⟩
  have hR3 : ∀ n ∈ R, n < 3 := by
    rw [hR]
    intro n hn
    simp only [List.mem_append, List.mem_replicate] at hn
    rcases hn with ((hn | hn) | hn) | hn
    · exact hS n hn
    all_goals omega
  have f3 : (plyG (mCount4 cC by_) 0 R (g0 (mCount4 cC by_))).th 3 = ⟨none, 0⟩ := th_idle fun n hn => by have := hR3 n hn; omega
  have e3 : ((plyG (mCount4 cC by_) 0 (allS S) (g0 (mCount4 cC by_))).th 3).now = none ∧ ((plyG (mCount4 cC by_) 0 (allS S) (g0 (mCount4 cC by_))).th 3).bg = 1 := by
    obtain ⟨q1, q2⟩ := cnt_done hm R (t := 3) (j := 60) (by rw [cnt4_len]; decide)
    rw [cnt4_len] at q2
    rw [hRl]
    exact ⟨q1, q2.symm⟩
  have hlat : ∀ t, t ≠ 3 → (plyG (mCount4 cC by_) 0 (allS S) (g0 (mCount4 cC by_))).th t = (plyG (mCount4 cC by_) 0 R (g0 (mCount4 cC by_))).th t := fun t ht => by
    rw [hRl]
    exact th_later fun n hn => by rw [List.eq_of_mem_replicate hn]; exact Ne.symm ht
  have hA4 : ∀ n ∈ allS S, n < 4 := by
    rw [hRl]
    intro n hn
    rcases List.mem_append.1 hn with hn | hn
    · have := hR3 n hn; omega
    · have := List.eq_of_mem_replicate hn; omega
  have kR := dgs_count (m := mCount4 cC by_) (S := R) (fun n hn => by have := hR3 n hn; omega)
  rw [f0.2, f1.2, f2.2, f3] at kR
  have kA := dgs_count (m := mCount4 cC by_) hA4
  rw [hlat 0 (by decide), hlat 1 (by decide), hlat 2 (by decide), f0.2, f1.2, f2.2, e3.2] at kA
  have hsR := hs_ply (mCount4 cC by_) R
  have hth : ∀ (T : List Nat), (∀ d ∈ dgs (plyG (mCount4 cC by_) 0 T (g0 (mCount4 cC by_))).out, d.th < 4) := fun T d hd => by
    have q1 := (hs_ply (mCount4 cC by_) T).own d hd
    have q2 := bg_le (mCount4 cC by_) T d.th
    rw [cnt4_len] at q2
    by_cases h4 : d.th < 4
    · exact h4
    · rw [if_neg (by omega), if_neg (by omega)] at q2; omega
  have four : ∀ t : Nat, t < 4 → t = 0 ∨ t = 1 ∨ t = 2 ∨ t = 3 := fun t h => by omega
  have ER : ∀ d ∈ dgs (plyG (mCount4 cC by_) 0 R (g0 (mCount4 cC by_))).out, d.e ≠ -1 := fun d hd he => by
    have := ((hsR.opn d hd).1 he).1
    rcases four _ (hth R d hd) with h | h | h | h <;> rw [h] at this
    · exact this f0.1
    · exact this f1.1
    · exact this f2.1
    · rw [f3] at this; exact this rfl
  obtain ⟨L, rs, has, gh, loc, H, hL, ht⟩ := cnt_run hm (allS S)
  have EA : ∀ d ∈ dgs (plyG (mCount4 cC by_) 0 (allS S) (g0 (mCount4 cC by_))).out, d.e ≠ -1 := fun d hd he => by
    have := ((H.hs.opn d hd).1 he).1
    rcases four _ (hth _ d hd) with h | h | h | h <;> rw [h] at this
    · rw [hlat 0 (by decide)] at this; exact this f0.1
    · rw [hlat 1 (by decide)] at this; exact this f1.1
    · rw [hlat 2 (by decide)] at this; exact this f2.1
    · exact this e3.1
  obtain ⟨r, hr1, hr2⟩ := ply_behind (mCount4 cC by_) R (List.replicate 60 3) ER
  rw [← hRl] at hr1
  have hrl : r.length = 1 := by
    have := congrArg List.length hr1
    rw [List.length_append] at this
    dsimp only at kR
    omega
  obtain ⟨q, hq⟩ := List.length_eq_one_iff.1 hrl
  subst hq
  -- the log and the calls
  have hko := keys_once H.hs
  have hmemL : ∀ x, x ∈ L ↔ x ∈ (dgs (plyG (mCount4 cC by_) 0 (allS S) (g0 (mCount4 cC by_))).out).map dKey := fun x => by
    constructor
    · intro hx
      obtain ⟨d, hd, e⟩ := hL.mem x hx
      exact e ▸ List.mem_map_of_mem hd
    · intro hx
      obtain ⟨d, hd, rfl⟩ := List.mem_map.1 hx
      exact (ht d hd (EA d hd)).1
  have hperm : L.Perm ((dgs (plyG (mCount4 cC by_) 0 (allS S) (g0 (mCount4 cC by_))).out).map dKey) := (List.perm_ext_iff_of_nodup hL.nd hko).2 hmemL
  have hLl : L.length = 10 := by rw [hperm.length_eq, List.length_map, kA]
  obtain ⟨n1, n2, n3, n4, n5, n6⟩ := num_log H.run (fun x _ => cnt4_add x) (by omega)
  have hadd : ∀ d ∈ dgs (plyG (mCount4 cC by_) 0 (allS S) (g0 (mCount4 cC by_))).out, (cntA (mCount4 cC by_) d).put = (gK (mCount4 cC by_) (dKey d)).put ∧ (cntA (mCount4 cC by_) d).add = (gK (mCount4 cC by_) (dKey d)).add := fun d hd => by
    obtain ⟨c, hc⟩ := cnt_at H.hs hd
    rw [cntA_of hc]
    exact ⟨rfl, rfl⟩
  have hthree : ∀ d ∈ dgs (plyG (mCount4 cC by_) 0 (allS S) (g0 (mCount4 cC by_))).out, d.th = 3 → d = q := fun d hd h3 => by
    rw [hr1] at hd
    rcases List.mem_append.1 hd with hd | hd
    · have := hsR.own d hd
      rw [h3, f3] at this
      exact absurd this (Nat.not_lt_zero _)
    · exact List.mem_singleton.1 hd
  obtain ⟨d3, hd3, hd3t, _⟩ := H.hs.all 3 0 (by rw [e3.2]; decide)
  have hqd := hthree d3 hd3 hd3t
  subst hqd
  refine ⟨H.err, kA, fun d hd => ⟨EA d hd, by rw [(ht d hd (EA d hd)).2]; rfl⟩, ?_, ⟨d3, hd3, hd3t⟩, fun d hd h3 => ?_⟩
  · refine (List.pairwise_map.1 hko).imp_of_mem fun {a b} ha hb hab hpa hpb => ?_
    rw [(hadd a ha).1] at hpa
    rw [(hadd b hb).1] at hpb
    rw [(ht a ha (EA a ha)).2, (ht b hb (EA b hb)).2]
    exact n5 _ (ht a ha (EA a ha)).1 _ (ht b hb (EA b hb)).1 hab hpa hpb
  · have hdq := hthree d hd h3
    subst hdq
    have hm3 := (ht d hd (EA d hd)).1
    obtain ⟨A, B, hAB⟩ := List.append_of_mem hm3
    have hB : B = [] := by
      cases B with
      | nil => rfl
      | cons x B =>
        exfalso
        have hx : x ∈ L := by rw [hAB]; simp
        obtain ⟨y, hy, hyx⟩ := hL.mem x hx
        have ho := hL.ord
        rw [hAB] at ho
        have ho2 := (List.pairwise_cons.1 (List.pairwise_append.1 ho).2.1).1 x (by simp) d hd y hy rfl hyx (EA y hy)
        have hnd := hL.nd
        rw [hAB] at hnd
        have hne : dKey d ≠ x := by
          have := (List.nodup_cons.1 (List.nodup_append.1 hnd).2.1).1
          exact fun e => this (by rw [e]; simp)
        have hyR : y ∈ dgs (plyG (mCount4 cC by_) 0 R (g0 (mCount4 cC by_))).out := by
          rw [hr1] at hy
          rcases List.mem_append.1 hy with hy | hy
          · exact hy
          · rw [List.mem_singleton.1 hy] at hyx; exact absurd hyx hne
        have := ((hsR.bnd y hyR).2 (ER y hyR)).2
        have := hr2 d (by simp)
        omega
    subst hB
    have h6 := n6 A _ hAB
    have hz : (gK (mCount4 cC by_) (dKey d)).add = 0 := by
      obtain ⟨c, hc⟩ := cnt_at H.hs hd
      rw [h3] at hc
      have := List.mem_of_getElem? hc
      simp [mCount4] at this
      unfold gK byK dKey
      rw [h3, hc, this]
      rfl
    rw [(ht d hd (EA d hd)).2]
    show rs (dKey d) = _
    rw [hz] at h6
    have h7 : (L.map fun x => (gK (mCount4 cC by_) x).add).sum = ((dgs (plyG (mCount4 cC by_) 0 (allS S) (g0 (mCount4 cC by_))).out).map fun d => (cntA (mCount4 cC by_) d).add).sum := by
      rw [perm_sum (hperm.map _), List.map_map]
      congr 1
      exact List.map_congr_left fun d hd => (hadd d hd).2.symm
    omega
end Go.Baro.Cnt

set_option linter.unusedSimpArgs false
set_option linter.unusedVariables false
namespace Go.Baro.Cel
open Go.RowKit (wrap64)

def wsC (d : Nat) : List Int := List.replicate (7 + 5 * (1 + d)) 0
def putPre (d : Nat) : List Ins :=
  [⟨14, d, d, 7, 0⟩, ⟨14, d, d, 7 + (1 + d), 0⟩, ⟨14, d, d, 7 + 2 * (1 + d), 0⟩, ⟨14, d, d, 7 + 3 * (1 + d), 0⟩, ⟨14, d, d, 7 + 4 * (1 + d), 0⟩, ⟨1, d + 1, 1, 0, 0⟩, ⟨13, d + 2, d, 6, 0⟩, ⟨14, d + 1, d + 2, 7, 0⟩,
   ⟨13, d + 3, d, 2, 0⟩, ⟨14, d + 1, d + 3, 0, 0⟩, ⟨13, d + 3, d, 3, 0⟩, ⟨14, d + 1, d + 3, 0, 0⟩, ⟨13, d + 3, d, 4, 0⟩, ⟨14, d + 1, d + 3, 0, 0⟩, ⟨13, d + 3, d, 5, 0⟩, ⟨14, d + 1, d + 3, 0, 0⟩,
   ⟨1, d + 4, 1 + d, 0, 0⟩, ⟨1, d + 2, -(1 + d), 0, 0⟩, ⟨3, d + 2, d + 2, d + 4, 0⟩, ⟨13, d + 1, d + 2, 7, 0⟩, ⟨11, d + 1, 18, 0, 0⟩]
def putMid (d : Nat) : List Ins := (List.range d).map fun (i : Nat) => ⟨14, i, d + 2, 8 + i, 0⟩
def putPost (d : Nat) : List Ins := [⟨14, d + 2, d, 6, 0⟩, ⟨1, d + 5, 7, 0, 0⟩, ⟨3, d + 3, d + 2, d + 5, 0⟩, ⟨1, d + 6, 1, 0, 0⟩, ⟨2, d + 7, d + 3, 0, 0⟩, ⟨15, d + 7, d, 2, d + 6⟩, ⟨2, d + 7, d + 3, 0, 0⟩, ⟨15, d + 7, d, 3, d + 6⟩,
   ⟨2, d + 7, d + 3, 0, 0⟩, ⟨15, d + 7, d, 4, d + 6⟩, ⟨2, d + 7, d + 3, 0, 0⟩, ⟨15, d + 7, d, 5, d + 6⟩]
def putC (d : Nat) : List Ins := putPre d ++ (putMid d ++ putPost d)
def getPre : List Ins := [⟨1, 0, 0, 0, 0⟩, ⟨1, 1, 1, 0, 0⟩, ⟨15, 1, 2, 2, 0⟩, ⟨11, 1, 7, 0, 0⟩, ⟨1, 3, 1, 0, 0⟩, ⟨3, 2, 2, 3, 0⟩, ⟨10, 1, 0, 0, 0⟩, ⟨13, 4, 5, 6, 0⟩, ⟨1, 6, 7, 0, 0⟩, ⟨3, 4, 4, 6, 0⟩, ⟨1, 7, 1, 0, 0⟩, ⟨15, 4, 2, 2, 7⟩, ⟨13, 4, 2, 2, 0⟩]
def getMid (d : Nat) : List Ins := (List.range d).map fun (i : Nat) => ⟨13, 8 + i, 4, 1 + i, 0⟩
def getPost (d : Nat) : List Ins := [⟨1, 0, 0, 0, 0⟩, ⟨14, 0, 2, 2, 0⟩] ++ (List.range d).map fun (i : Nat) => ⟨16, 8 + i, 0, 0, 0⟩
def getC (d : Nat) : List Ins := getPre ++ (getMid d ++ getPost d)
theorem putC_len (d : Nat) : (putC d).length = 33 + d := by simp [putC, putPre, putMid, putPost]; omega
theorem getC_len (d : Nat) : (getC d).length = 15 + 2 * d := by simp [getC, getPre, getMid, getPost]; omega
section
variable {d p i : Nat} {o : Ins}
theorem put_pre (h : (putPre d)[p]? = some o) : (putC d)[p]? = some o := by
  have := (List.getElem?_eq_some_iff.1 h).1
  unfold putC
  rw [List.getElem?_append_left this, h]
theorem put_mid (h : i < d) : (putC d)[21 + i]? = some ⟨14, i, d + 2, 8 + i, 0⟩ := by
  unfold putC
  rw [List.getElem?_append_right (by simp [putPre]), show (21 + i - (putPre d).length) = i by simp [putPre], List.getElem?_append_left (by simpa [putMid] using h)]
  simp [putMid, h]
theorem put_post (hp : p = 21 + d + i) (h : (putPost d)[i]? = some o) : (putC d)[p]? = some o := by
  subst hp
  unfold putC
  rw [List.getElem?_append_right (by simp [putPre]; omega), show (21 + d + i - (putPre d).length) = d + i by simp [putPre]; omega, List.getElem?_append_right (by simp [putMid]), show d + i - (putMid d).length = i by simp [putMid], h]
theorem get_pre (h : getPre[p]? = some o) : (getC d)[p]? = some o := by
  have := (List.getElem?_eq_some_iff.1 h).1
  unfold getC
  rw [List.getElem?_append_left this, h]
theorem get_mid (h : i < d) : (getC d)[13 + i]? = some ⟨13, 8 + i, 4, 1 + i, 0⟩ := by
  unfold getC
  rw [List.getElem?_append_right (by simp [getPre]), show (13 + i - getPre.length) = i by simp [getPre], List.getElem?_append_left (by simpa [getMid] using h)]
  simp [getMid, h]
theorem get_post (hp : p = 13 + d + i) (h : (getPost d)[i]? = some o) : (getC d)[p]? = some o := by
  subst hp
  unfold getC
  rw [List.getElem?_append_right (by simp [getPre]; omega), show (13 + d + i - getPre.length) = d + i by simp [getPre]; omega, List.getElem?_append_right (by simp [getMid]), show d + i - (getMid d).length = i by simp [getMid], h]
theorem get_emit (h : i < d) : (getC d)[15 + d + i]? = some ⟨16, 8 + i, 0, 0, 0⟩ := get_post (i := 2 + i) (by omega) (by
  unfold getPost
  rw [List.getElem?_append_right (by simp), show 2 + i - ([⟨1, 0, 0, 0, 0⟩, ⟨14, 0, 2, 2, 0⟩] : List Ins).length = i by simp]
  simp [h])
end

/-- What is known beside the words: V: which Put's record is current; cu: its copy; pr: the copy before; con: which record a copy holds; tg: the copy that is being written (5: none); gp: the next seat that the Put gives to (4: it gives no more);
who is at a seat (0: nobody); how far a reader has come; what it must at least tell of; how many steps a thread has taken in its call; what a Get told of. -/
structure Gh where
  V : Nat
  cu : Nat
  pr : Nat
  con : Nat → Nat
  tg : Nat
  gp : Nat
  own : Nat → Nat
  pos : Nat → Nat
  lo : Nat → Nat
  k : Nat → Nat
  tl : Nat → Nat → Nat

/-- Where the copy j begins. -/
def ad (d j : Nat) : Nat := 7 + j * (1 + d)
theorem ad_lt {d j j' : Nat} (h : j < j') : ad d j + (1 + d) ≤ ad d j' := by
  unfold ad
  have := Nat.mul_le_mul_right (1 + d) (show j + 1 ≤ j' from h)
  rw [Nat.succ_mul] at this
  omega
theorem ad_inj {d j j' : Nat} (h : ad d j = ad d j') : j = j' := by
  rcases Nat.lt_trichotomy j j' with h1 | h1 | h1
  · have := ad_lt (d := d) h1; omega
  · exact h1
  · have := ad_lt (d := d) h1; omega
theorem ad_top {d j : Nat} (h : j < 5) : ad d j + (1 + d) ≤ 7 + 5 * (1 + d) := ad_lt (d := d) (j' := 5) h
theorem ad_low (d j : Nat) : 7 ≤ ad d j := by unfold ad; omega
theorem ad_cell {d j j' k k' : Nat} (hk : k ≤ d) (hk' : k' ≤ d) (h : ad d j + k = ad d j' + k') : j = j' ∧ k = k' := by
  rcases Nat.lt_trichotomy j j' with h1 | h1 | h1
  · have := ad_lt (d := d) h1; omega
  · subst h1; exact ⟨rfl, by omega⟩
  · have := ad_lt (d := d) h1; omega

/-- The words. -/
structure SI (d : Nat) (val : Nat → Nat → Int) (w : List Int) (g : Gh) : Prop where
  len : w.length = 7 + 5 * (1 + d)
  cu : g.cu < 5
  cw : rd w 6 = (ad d g.cu : Int) - 7
  con : g.con g.cu = g.V
  tc : g.tg ≠ g.cu
  num : ∀ j, j < 5 → j ≠ g.tg → ∀ k, k < d → rd w (ad d j + (1 + k)) = val (g.con j) k
  pv : g.gp < 4 → g.pr < 5 ∧ g.tg = 5 ∧ g.con g.pr + 1 = g.V
  st : ∀ s, s < 4 → rd w (2 + s) = 0 ∨ rd w (2 + s) = 1 ∨ ∃ j, j < 5 ∧ j ≠ g.tg ∧ g.con j ≤ g.V ∧ rd w (2 + s) = (ad d j : Int)
  s3 : rd w 5 = 0
/-- A copy that was current when it was read and may still be taken. -/
def Sk (g : Gh) (s j : Nat) : Prop := j < 5 ∧ (j = g.cu ∨ (g.gp ≤ s ∧ g.gp < 4 ∧ j = g.pr))
/-- The seat holds a copy. -/
def Giv (d : Nat) (w : List Int) (g : Gh) (s lo : Nat) : Prop := ∃ j, j < 5 ∧ j ≠ g.tg ∧ rd w (2 + s) = (ad d j : Int) ∧ lo ≤ g.con j ∧ g.con j ≤ g.V
/-- What is marked covers what is at the first i seats. -/
structure Sc (d : Nat) (w : List Int) (g : Gh) (i : Nat) : Prop where
  seat : ∀ s, s < i → s < 4 → ∀ j, j < 5 → rd w (2 + s) = (ad d j : Int) → rd w (ad d j) ≠ 0
  cur : rd w (ad d g.cu) ≠ 0
  few : ∃ a b c, ∀ j, j < 5 → rd w (ad d j) ≠ 0 → j = g.cu ∨ (0 < i ∧ j = a) ∨ (1 < i ∧ j = b) ∨ (2 < i ∧ j = c)
/-- The registers of a Put ahead of its store to the current copy's word. -/
structure PR (d : Nat) (val : Nat → Nat → Int) (g : Gh) (b : Nat) (r : Int → Int) : Prop where
  z : r d = 0
  ar : ∀ k : Nat, k < d → r k = val (g.V + 1) k
  gp : g.gp = 4
  b : b = g.V + 1
/-- A Put, instruction by instruction. b: how many Puts have begun; k: the steps that it has taken. -/
inductive PA (d : Nat) (val : Nat → Nat → Int) (w : List Int) (g : Gh) (b k : Nat) : Nat → (Int → Int) → Prop
  | clear (i : Nat) (r : Int → Int) (hi : i ≤ 5) (K : k ≤ i) (R : PR d val g b r) (T : g.tg = 5) (m : ∀ j, j < i → rd w (ad d j) = 0) : PA d val w g b k i r
  | got0 (r : Int → Int) (K : k ≤ 6) (R : PR d val g b r) (T : g.tg = 5) (m : ∀ j, j < 5 → rd w (ad d j) = 0) (M : r (d + 1) = 1) : PA d val w g b k 6 r
  | got1 (r : Int → Int) (K : k ≤ 7) (R : PR d val g b r) (T : g.tg = 5) (m : ∀ j, j < 5 → rd w (ad d j) = 0) (M : r (d + 1) = 1) (C : r (d + 2) = (ad d g.cu : Int) - 7) : PA d val w g b k 7 r
  | scan (i : Nat) (r : Int → Int) (hi : i ≤ 4) (K : k ≤ 8 + 2 * i) (R : PR d val g b r) (T : g.tg = 5) (M : r (d + 1) = 1) (sc : Sc d w g i) : PA d val w g b k (8 + 2 * i) r
  | hit (i : Nat) (r : Int → Int) (hi : i < 4) (K : k ≤ 9 + 2 * i) (R : PR d val g b r) (T : g.tg = 5) (M : r (d + 1) = 1) (sc : Sc d w g i) (A : r (d + 3) = 0 ∨ r (d + 3) = 1 ∨ ∃ j, j < 5 ∧ r (d + 3) = (ad d j : Int))
      (A3 : i = 3 → r (d + 3) = 0) (B : ∀ j, j < 5 → rd w (2 + i) = (ad d j : Int) → r (d + 3) = (ad d j : Int) ∨ j = g.cu) : PA d val w g b k (9 + 2 * i) r
  | size (r : Int → Int) (K : k ≤ 17) (R : PR d val g b r) (T : g.tg = 5) (sc : Sc d w g 4) (S : r (d + 4) = 1 + d) : PA d val w g b k 17 r
  | loop (n : Nat) (r : Int → Int) (hn : n ≤ 4) (K : k ≤ 18 + 3 * n) (R : PR d val g b r) (T : g.tg = 5) (sc : Sc d w g 4) (S : r (d + 4) = 1 + d) (C : r (d + 2) = (ad d n : Int) - 7 - (1 + d)) (m : ∀ j, j < n → rd w (ad d j) ≠ 0) : PA d val w g b k 18 r
  | look (n : Nat) (r : Int → Int) (hn : n ≤ 4) (K : k ≤ 19 + 3 * n) (R : PR d val g b r) (T : g.tg = 5) (sc : Sc d w g 4) (S : r (d + 4) = 1 + d) (C : r (d + 2) = (ad d n : Int) - 7) (m : ∀ j, j < n → rd w (ad d j) ≠ 0) : PA d val w g b k 19 r
  | test (n : Nat) (r : Int → Int) (hn : n ≤ 4) (K : k ≤ 20 + 3 * n) (R : PR d val g b r) (T : g.tg = 5) (sc : Sc d w g 4) (S : r (d + 4) = 1 + d) (C : r (d + 2) = (ad d n : Int) - 7) (m : ∀ j, j < n → rd w (ad d j) ≠ 0) (M : r (d + 1) = rd w (ad d n)) : PA d val w g b k 20 r
  | copy (i c : Nat) (r : Int → Int) (hi : i ≤ d) (hc : c < 5) (K : k ≤ 33 + i) (R : PR d val g b r) (T : g.tg = c) (C : r (d + 2) = (ad d c : Int) - 7) (cp : ∀ q, q < i → rd w (ad d c + (1 + q)) = val (g.V + 1) q)
      (fr : ∀ s, s < 4 → rd w (2 + s) ≠ (ad d c : Int)) : PA d val w g b k (21 + i) r
  | pub (r : Int → Int) (K : k ≤ 34 + d) (B : b = g.V) (Z : r d = 0) (G : g.gp = 0) (T : g.tg = 5) (C : r (d + 2) = (ad d g.cu : Int) - 7) : PA d val w g b k (22 + d) r
  | pubF (r : Int → Int) (K : k ≤ 35 + d) (B : b = g.V) (Z : r d = 0) (G : g.gp = 0) (T : g.tg = 5) (C : r (d + 2) = (ad d g.cu : Int) - 7) (F : r (d + 5) = 7) : PA d val w g b k (23 + d) r
  | pubA (r : Int → Int) (K : k ≤ 36 + d) (B : b = g.V) (Z : r d = 0) (G : g.gp = 0) (T : g.tg = 5) (A : r (d + 3) = (ad d g.cu : Int)) : PA d val w g b k (24 + d) r
  | give (i : Nat) (r : Int → Int) (hi : i ≤ 4) (K : k ≤ 37 + d + 2 * i) (B : b = g.V) (Z : r d = 0) (G : g.gp = i) (T : g.tg = 5) (A : r (d + 3) = (ad d g.cu : Int)) (L : r (d + 6) = 1) : PA d val w g b k (25 + d + 2 * i) r
  | givG (i : Nat) (r : Int → Int) (hi : i < 4) (K : k ≤ 38 + d + 2 * i) (B : b = g.V) (Z : r d = 0) (G : g.gp = i) (T : g.tg = 5) (A : r (d + 3) = (ad d g.cu : Int)) (L : r (d + 6) = 1) (H : r (d + 7) = (ad d g.cu : Int)) : PA d val w g b k (26 + d + 2 * i) r

/-- What a Put does to the others. -/
structure PG (d : Nat) (w : List Int) (g : Gh) (w' : List Int) (g' : Gh) : Prop where
  V : g.V ≤ g'.V
  same : g'.own = g.own ∧ g'.pos = g.pos ∧ g'.lo = g.lo
  seat : ∀ s, s < 4 → rd w (2 + s) ≠ 1 → rd w' (2 + s) = rd w (2 + s)
  one : ∀ s, s < 4 → rd w (2 + s) = 1 → (rd w' (2 + s) = 1 ∧ ∀ j, Sk g s j → Sk g' s j ∧ g'.con j = g.con j) ∨ (∃ j, j < 5 ∧ j ≠ g'.tg ∧ rd w' (2 + s) = (ad d j : Int) ∧ g.V ≤ g'.con j ∧ g'.con j ≤ g'.V)
  hold : ∀ s j, s < 4 → j < 5 → j ≠ g.tg → rd w (2 + s) = (ad d j : Int) → j ≠ g'.tg ∧ g'.con j = g.con j
/-- What a Get does to the others: t is its thread. -/
structure RG (d t : Nat) (w : List Int) (g : Gh) (w' : List Int) (g' : Gh) : Prop where
  len : w'.length = w.length
  same : g'.V = g.V ∧ g'.cu = g.cu ∧ g'.pr = g.pr ∧ g'.con = g.con ∧ g'.tg = g.tg ∧ g'.gp = g.gp
  mem : ∀ n, n < 2 ∨ 6 ≤ n → rd w' n = rd w n
  st : ∀ s, s < 4 → rd w' (2 + s) = rd w (2 + s) ∨ rd w' (2 + s) = 0 ∨ rd w' (2 + s) = 1 ∨ (rd w (2 + s) = 1 ∧ ∃ j, Sk g s j ∧ rd w' (2 + s) = (ad d j : Int))
  oth : ∀ s, s < 4 → g.own s ≠ 0 → g.own s ≠ t → rd w' (2 + s) = rd w (2 + s) ∧ g'.own s = g.own s
  own : ∀ s, g'.own s = g.own s ∨ g'.own s = 0 ∨ g'.own s = t
  pos : ∀ u, u ≠ t → g'.pos u = g.pos u ∧ g'.lo u = g.lo u
end Go.Baro.Cel

set_option linter.unusedSimpArgs false
set_option linter.unusedVariables false
namespace Go.Baro.Cel
open Go.RowKit (wrap64)
variable {d : Nat} {val : Nat → Nat → Int} {w : List Int} {g : Gh} {b k : Nat} {r : Int → Int}

theorem SI.al (h : SI d val w g) {j : Nat} (hj : j < 5) : ad d j + d < w.length := by rw [h.len]; have := ad_top (d := d) hj; omega
theorem SI.ll (h : SI d val w g) : 12 ≤ w.length := by rw [h.len]; omega
/-- What has no part in the words' meaning. -/
theorem SI.frame (h : SI d val w g) {w' : List Int} (hl : w'.length = w.length) (h6 : rd w' 6 = rd w 6) (hs : ∀ s, s < 4 → rd w' (2 + s) = rd w (2 + s)) (hn : ∀ j, j < 5 → j ≠ g.tg → ∀ k, k < d → rd w' (ad d j + (1 + k)) = rd w (ad d j + (1 + k))) : SI d val w' g :=
  ⟨hl.trans h.len, h.cu, h6.trans h.cw, h.con, h.tc, fun j hj ht k hk => (hn j hj ht k hk).trans (h.num j hj ht k hk), h.pv, fun s h4 => by rw [hs s h4]; exact h.st s h4, by have := hs 3 (by omega); rw [show 2 + 3 = 5 from rfl] at this; rw [this]; exact h.s3⟩
theorem pg_quiet {w' : List Int} (h : SI d val w g) (hs : ∀ s, s < 4 → rd w' (2 + s) = rd w (2 + s)) : PG d w g w' g :=
  ⟨Nat.le_refl _, ⟨rfl, rfl, rfl⟩, fun s h4 _ => hs s h4, fun s h4 h1 => .inl ⟨by rw [hs s h4, h1], fun j hj => ⟨hj, rfl⟩⟩, fun s j h4 h5 ht _ => ⟨ht, rfl⟩⟩
theorem PR.upd (h : PR d val g b r) {i v : Int} (hi : (d : Int) + 1 ≤ i) : PR d val g b (upd r i v) :=
  ⟨by rw [upd_other _ _ (by omega)]; exact h.z, fun k hk => by rw [upd_other _ _ (by omega)]; exact h.ar k hk, h.gp, h.b⟩
/-- A mark is written. -/
theorem SI.mark (h : SI d val w g) {j : Nat} (hj : j < 5) (v : Int) : SI d val (w.set (ad d j) v) g ∧ PG d w g (w.set (ad d j) v) g := by
  have hlow := ad_low d j
  have hs : ∀ s, s < 4 → rd (w.set (ad d j) v) (2 + s) = rd w (2 + s) := fun s hs => rd_other (by omega)
  exact ⟨h.frame (by simp) (rd_other (by omega)) hs fun i hi ht k hk => rd_other fun e => by have := (ad_cell (d := d) (j := i) (j' := j) (k := 1 + k) (k' := 0) (by omega) (by omega) (by omega)).2; omega, pg_quiet h hs⟩
theorem mark_at (h : SI d val w g) {j : Nat} (hj : j < 5) (v : Int) : rd (w.set (ad d j) v) (ad d j) = v := rd_same (by have := h.al hj; omega)
theorem mark_ne {j i : Nat} (hi : i ≠ j) (v : Int) : rd (w.set (ad d j) v) (ad d i) = rd w (ad d i) := rd_other fun e => hi (ad_inj e)
theorem SI.scr (h : SI d val w g) {n : Nat} (hn : n < 2) (v : Int) : SI d val (w.set n v) g ∧ PG d w g (w.set n v) g := by
  have hs : ∀ s, s < 4 → rd (w.set n v) (2 + s) = rd w (2 + s) := fun s hs => rd_other (by omega)
  exact ⟨h.frame (by simp) (rd_other (by omega)) hs fun i hi ht k hk => rd_other (by have := ad_low d i; omega), pg_quiet h hs⟩
theorem put_clear {i : Nat} (h : i < 5) : (putC d)[i]? = some ⟨14, d, d, (ad d i : Nat), 0⟩ := by
  refine put_pre ?_
  rcases (by omega : i = 0 ∨ i = 1 ∨ i = 2 ∨ i = 3 ∨ i = 4) with rfl | rfl | rfl | rfl | rfl <;> simp [putPre, ad]
theorem put_scan {i : Nat} (h : i < 4) : (putC d)[8 + 2 * i]? = some ⟨13, d + 3, d, 2 + i, 0⟩ ∧ (putC d)[9 + 2 * i]? = some ⟨14, d + 1, d + 3, 0, 0⟩ := by
  rcases (by omega : i = 0 ∨ i = 1 ∨ i = 2 ∨ i = 3) with rfl | rfl | rfl | rfl <;> exact ⟨put_pre (by simp [putPre]), put_pre (by simp [putPre])⟩
theorem put_give {i : Nat} (h : i < 4) : (putC d)[25 + d + 2 * i]? = some ⟨2, d + 7, d + 3, 0, 0⟩ ∧ (putC d)[26 + d + 2 * i]? = some ⟨15, d + 7, d, 2 + i, d + 6⟩ := by
  rcases (by omega : i = 0 ∨ i = 1 ∨ i = 2 ∨ i = 3) with rfl | rfl | rfl | rfl
  · exact ⟨put_post (i := 4) (by omega) (by simp [putPost]), put_post (i := 5) (by omega) (by simp [putPost])⟩
  · exact ⟨put_post (i := 6) (by omega) (by simp [putPost]), put_post (i := 7) (by omega) (by simp [putPost])⟩
  · exact ⟨put_post (i := 8) (by omega) (by simp [putPost]), put_post (i := 9) (by omega) (by simp [putPost])⟩
  · exact ⟨put_post (i := 10) (by omega) (by simp [putPost]), put_post (i := 11) (by omega) (by simp [putPost])⟩
theorem ad_le {j : Nat} (hd : d ≤ 6) (hj : j < 5) : ad d j ≤ 42 := by have := ad_top (d := d) hj; omega
/-- Five copies, of which four are taken. -/
theorem five (cu a b c : Nat) (h : ∀ j, j < 5 → j = cu ∨ j = a ∨ j = b ∨ j = c) : False := by
  have h0 := h 0 (by omega); have h1 := h 1 (by omega); have h2 := h 2 (by omega); have h3 := h 3 (by omega); have h4 := h 4 (by omega)
  omega
/-- What is at one more seat is marked. -/
theorem Sc.more (hI : SI d val w g) {i : Nat} (sc : Sc d w g i) (hi : i < 4) {v : Int} (h0 : v ≠ 0) {x : Nat} (hx : x < 2 ∨ ∃ j, j < 5 ∧ x = ad d j) (h3 : i = 3 → x = 0) (hB : ∀ j, j < 5 → rd w (2 + i) = (ad d j : Int) → x = ad d j ∨ j = g.cu) : Sc d (w.set x v) g (i + 1) := by
  have hseat : ∀ s, s < 4 → rd (w.set x v) (2 + s) = rd w (2 + s) := fun s hs => rd_other (by rcases hx with hx | ⟨j, _, hx⟩; omega; have := ad_low d j; omega)
  have hkeep : ∀ j, j < 5 → rd w (ad d j) ≠ 0 → rd (w.set x v) (ad d j) ≠ 0 := by
    intro j hj hn
    rcases hx with hx | ⟨q, hq, rfl⟩
    · rw [rd_other (by have := ad_low d j; omega)]; exact hn
    · by_cases hjq : j = q
      · subst hjq; rw [mark_at hI hj]; exact h0
      · rw [mark_ne hjq]; exact hn
  refine ⟨fun s h1 h2 j hj hs => ?_, hkeep _ hI.cu sc.cur, ?_⟩
  · rw [hseat s h2] at hs
    by_cases hsi : s < i
    · exact hkeep j hj (sc.seat s hsi h2 j hj hs)
    · obtain rfl : s = i := by omega
      rcases hB j hj hs with rfl | rfl
      · rw [mark_at hI hj]; exact h0
      · exact hkeep _ hj sc.cur
  · obtain ⟨a, b, c, hf⟩ := sc.few
    have hnew : ∀ j, j < 5 → rd (w.set x v) (ad d j) ≠ 0 → x = ad d j ∨ rd w (ad d j) ≠ 0 := by
      intro j hj hn
      by_cases he : x = ad d j
      · exact .inl he
      · rw [rd_other (fun e => he e.symm)] at hn; exact .inr hn
    by_cases hxs : ∃ q, q < 5 ∧ x = ad d q
    · obtain ⟨q, hq, rfl⟩ := hxs
      have hi3 : i < 3 := by
        rcases Nat.lt_or_ge i 3 with h | h
        · exact h
        · have := h3 (by omega); have := ad_low d q; omega
      have hn : ∀ j, j < 5 → rd (w.set (ad d q) v) (ad d j) ≠ 0 → j = q ∨ j = g.cu ∨ (0 < i ∧ j = a) ∨ (1 < i ∧ j = b) ∨ (2 < i ∧ j = c) := fun j hj hn => by
        rcases hnew j hj hn with h | h
        · exact .inl (ad_inj h).symm
        · exact .inr (hf j hj h)
      rcases (by omega : i = 0 ∨ i = 1 ∨ i = 2) with rfl | rfl | rfl
      · exact ⟨q, b, c, fun j hj h => by have := hn j hj h; omega⟩
      · exact ⟨a, q, c, fun j hj h => by have := hn j hj h; omega⟩
      · exact ⟨a, b, q, fun j hj h => by have := hn j hj h; omega⟩
    · refine ⟨a, b, c, fun j hj h => ?_⟩
      rcases hnew j hj h with h | h
      · exact absurd ⟨j, hj, h⟩ hxs
      · have := hf j hj h; omega

theorem put_step (h1 : 1 ≤ d) (h6 : d ≤ 6) (hI : SI d val w g) {p : Nat} (h : PA d val w g b k p r) (hp : p ≠ 33 + d) : ∃ p' r' w' g', Nx (putC d) p r [] w p' r' [] w' ∧ SI d val w' g' ∧ PA d val w' g' b (k + 1) p' r' ∧ PG d w g w' g' := by
  have hll := hI.ll
  have hq : ∀ w' : List Int, (∀ s, s < 4 → rd w' (2 + s) = rd w (2 + s)) → PG d w g w' g := fun _ h => pg_quiet hI h
  have hq0 := hq w (fun _ _ => rfl)
  cases h with
  | clear _ r hi K R T m =>
    by_cases h5 : p < 5
    · have hal := hI.al h5
      have hle := ad_le h6 h5
      obtain ⟨hI', hG⟩ := hI.mark h5 (r d)
      refine ⟨p + 1, r, w.set (ad d p) (r d), g, nx_store (q := ad d p) (put_clear h5) (by rw [R.z, wrap_id (by omega)]; omega) (by omega), hI', .clear (p + 1) r (by omega) (by omega) R T fun j hj => ?_, hG⟩
      by_cases hji : j = p
      · subst hji; rw [mark_at hI h5]; exact R.z
      · rw [mark_ne hji]; exact m j (by omega)
    · obtain rfl : p = 5 := by omega
      exact ⟨6, _, w, g, nx_set (put_pre (o := ⟨1, d + 1, 1, 0, 0⟩) rfl), hI, .got0 _ (by omega) (R.upd (by omega)) T m (upd_same _ _ _), hq0⟩
  | got0 r K R T m M =>
    refine ⟨7, _, w, g, nx_load (q := 6) (put_pre (o := ⟨13, d + 2, d, 6, 0⟩) rfl) (by rw [R.z]; exact wrap_id (by omega)) (by omega), hI, .got1 _ (by omega) (R.upd (by omega)) T m (by rw [upd_other _ _ (by omega)]; exact M) (by rw [upd_same]; exact hI.cw), hq0⟩
  | got1 r K R T m M C =>
    have hle := ad_le (d := d) h6 hI.cu
    have hal := hI.al hI.cu
    obtain ⟨hI', hG⟩ := hI.mark hI.cu (r (d + 1))
    refine ⟨8 + 2 * 0, r, _, g, nx_store (q := ad d g.cu) (put_pre (o := ⟨14, d + 1, d + 2, 7, 0⟩) rfl) (by rw [C]; rw [wrap_id (by omega)]; omega) (by omega), hI', .scan 0 r (by omega) (by omega) R T M ⟨fun s hs => by omega, by rw [mark_at hI hI.cu, M]; omega, 0, 0, 0, fun j hj hn => ?_⟩, hG⟩
    by_cases hc : j = g.cu
    · exact .inl hc
    · rw [mark_ne hc] at hn; exact absurd (m j hj) hn
  | scan i r hi K R T M sc =>
    by_cases h4 : i < 4
    · refine ⟨9 + 2 * i, _, w, g, by rw [show 9 + 2 * i = 8 + 2 * i + 1 by omega]; exact nx_load (q := 2 + i) (put_scan h4).1 (by rw [R.z]; rw [wrap_id (by omega)]; omega) (by omega), hI, .hit i _ h4 (by omega) (R.upd (by omega)) T (by rw [upd_other _ _ (by omega)]; exact M) sc ?_ ?_ ?_, hq0⟩
      · rw [upd_same]
        rcases hI.st i h4 with h | h | ⟨j, hj, _, _, h⟩
        · exact .inl h
        · exact .inr (.inl h)
        · exact .inr (.inr ⟨j, hj, h⟩)
      · rintro rfl; rw [upd_same]; exact hI.s3
      · intro j hj h; rw [upd_same]; exact .inl h
    · obtain rfl : i = 4 := by omega
      exact ⟨17, _, w, g, nx_set (put_pre (o := ⟨1, d + 4, 1 + d, 0, 0⟩) rfl), hI, .size _ (by omega) (R.upd (by omega)) T sc (upd_same _ _ _), hq0⟩
  | hit i r h4 K R T M sc A A3 B =>
    obtain ⟨x, hx, hxr⟩ : ∃ x : Nat, (x < 2 ∨ ∃ j, j < 5 ∧ x = ad d j) ∧ r (d + 3) = x := by
      rcases A with h | h | ⟨j, hj, h⟩
      · exact ⟨0, .inl (by omega), h⟩
      · exact ⟨1, .inl (by omega), h⟩
      · exact ⟨_, .inr ⟨j, hj, rfl⟩, h⟩
    have hxl : x < w.length ∧ x ≤ 42 := by
      rcases hx with hx | ⟨j, hj, rfl⟩
      · omega
      · have := hI.al hj; have := ad_le (d := d) h6 hj; omega
    have hs := sc.more hI h4 (v := r (d + 1)) (by rw [M]; omega) hx (fun h => by have := A3 h; omega) (fun j hj hv => by rcases B j hj hv with h | h; exact .inl (by omega); exact .inr h)
    have hIG : SI d val (w.set x (r (d + 1))) g ∧ PG d w g (w.set x (r (d + 1))) g := by
      rcases hx with hx | ⟨j, hj, rfl⟩
      · exact hI.scr hx _
      · exact hI.mark hj _
    exact ⟨8 + 2 * (i + 1), r, _, g, by rw [show 8 + 2 * (i + 1) = 9 + 2 * i + 1 by omega]; exact nx_store (q := x) (put_scan h4).2 (by rw [hxr]; rw [wrap_id (by omega)]; omega) hxl.1, hIG.1, .scan (i + 1) r (by omega) (by omega) R T M hs, hIG.2⟩
  | size r K R T sc S =>
    exact ⟨18, _, w, g, nx_set (put_pre (o := ⟨1, d + 2, -(1 + d), 0, 0⟩) rfl), hI, .loop 0 _ (by omega) (by omega) (R.upd (by omega)) T sc (by rw [upd_other _ _ (by omega)]; exact S) (by rw [upd_same]; unfold ad; omega) (fun j hj => by omega), hq0⟩
  | loop n r hn K R T sc S C m =>
    have hle := ad_le (d := d) (j := n) h6 (by omega)
    have hlo := ad_low d n
    refine ⟨19, _, w, g, nx_add (v := (ad d n : Int) - 7) (put_pre (o := ⟨3, d + 2, d + 2, d + 4, 0⟩) rfl) (by rw [C, S, wrap_id (by omega)]; omega), hI, .look n _ hn (by omega) (R.upd (by omega)) T sc (by rw [upd_other _ _ (by omega)]; exact S) (upd_same _ _ _) m, hq0⟩
  | look n r hn K R T sc S C m =>
    have hle := ad_le (d := d) (j := n) h6 (by omega)
    have hal := hI.al (j := n) (by omega)
    have hlo := ad_low d n
    refine ⟨20, _, w, g, nx_load (q := ad d n) (put_pre (o := ⟨13, d + 1, d + 2, 7, 0⟩) rfl) (by rw [C, wrap_id (by omega)]; omega) (by omega), hI, .test n _ hn (by omega) (R.upd (by omega)) T sc (by rw [upd_other _ _ (by omega)]; exact S) (by rw [upd_other _ _ (by omega)]; exact C) m (upd_same _ _ _), hq0⟩
  | test n r hn K R T sc S C m M =>
    have hins : (putC d)[20]? = some ⟨11, d + 1, (18 : Nat), 0, 0⟩ := put_pre (by simp [putPre])
    by_cases hM : r (d + 1) = 0
    · have hnc : n ≠ g.cu := fun e => sc.cur (by rw [← e, ← M]; exact hM)
      refine ⟨21 + 0, r, w, { g with tg := n }, nx_whenZ hins hM, ?_, .copy 0 n r (by omega) (by omega) (by omega) ⟨R.z, R.ar, R.gp, R.b⟩ rfl C (fun q hq => by omega) (fun s hs hv => sc.seat s hs hs n (by omega) hv (by rw [← M]; exact hM)), ?_⟩
      · refine ⟨hI.len, hI.cu, hI.cw, hI.con, hnc, fun j hj ht => hI.num j hj (by rw [T]; omega), fun hgp => ?_, fun s hs => ?_, hI.s3⟩
        · have := R.gp; dsimp only at hgp; omega
        · rcases hI.st s hs with h | h | ⟨j, hj, ht, hc, h⟩
          · exact .inl h
          · exact .inr (.inl h)
          · refine .inr (.inr ⟨j, hj, ?_, hc, h⟩)
            rintro rfl
            exact sc.seat s hs hs j hj h (by rw [← M]; exact hM)
      · refine ⟨Nat.le_refl _, ⟨rfl, rfl, rfl⟩, fun _ _ _ => rfl, fun s hs h1 => .inl ⟨h1, fun j hj => ⟨hj, rfl⟩⟩, fun s j hs hj ht hv => ⟨?_, rfl⟩⟩
        rintro rfl
        exact sc.seat s hs hs j hj hv (by rw [← M]; exact hM)
    · have hn4 : n < 4 := by
        rcases Nat.lt_or_ge n 4 with h | h
        · exact h
        · obtain rfl : n = 4 := by omega
          obtain ⟨x, y, z, hf⟩ := sc.few
          exfalso
          refine five g.cu x y z fun j hj => ?_
          have hmj : rd w (ad d j) ≠ 0 := by
            by_cases hj4 : j < 4
            · exact m j hj4
            · obtain rfl : j = 4 := by omega
              rw [← M]; exact hM
          rcases hf j hj hmj with h | h | h | h <;> omega
      refine ⟨18, r, w, g, nx_whenN hins hM, hI, .loop (n + 1) r (by omega) (by omega) R T sc S ?_ (fun j hj => ?_), hq0⟩
      · rw [C]; unfold ad; rw [Nat.succ_mul]; omega
      · by_cases hjn : j = n
        · subst hjn; rw [← M]; exact hM
        · exact m j (by omega)
  | copy i c r hi hc K R T C cp fr =>
    have hle := ad_le (d := d) h6 hc
    have hal := hI.al hc
    have hlo := ad_low d c
    by_cases hid : i < d
    · have hs : ∀ s, s < 4 → rd (w.set (ad d c + (1 + i)) (r i)) (2 + s) = rd w (2 + s) := fun s hs => rd_other (by omega)
      refine ⟨21 + (i + 1), r, w.set (ad d c + (1 + i)) (r i), g, nx_store (q := ad d c + (1 + i)) (put_mid hid) (by rw [C, wrap_id (by omega)]; omega) (by omega), hI.frame (by simp) (rd_other (by omega)) hs fun j hj ht q hq => rd_other fun e => ht (by rw [T]; exact (ad_cell (by omega) (by omega) e).1), .copy (i + 1) c r (by omega) hc (by omega) R T C (fun q hq => ?_) (fun s h4 => by rw [hs s h4]; exact fr s h4), hq _ hs⟩
      by_cases hqi : q = i
      · subst hqi; rw [rd_same (by omega)]; exact R.ar q hid
      · rw [rd_other (by omega)]; exact cp q (by omega)
    · obtain rfl : i = d := by omega
      have hins : (putC i)[21 + i]? = some ⟨14, i + 2, i, 6, 0⟩ := put_post (i := 0) (by omega) (by simp [putPost])
      have hs : ∀ s, s < 4 → rd (w.set 6 (r (i + 2))) (2 + s) = rd w (2 + s) := fun s hs => rd_other (by omega)
      have htc := hI.tc
      rw [T] at htc
      refine ⟨22 + i, r, w.set 6 (r (i + 2)), { g with V := g.V + 1, cu := c, pr := g.cu, con := upN g.con c (g.V + 1), tg := 5, gp := 0 }, by rw [show 22 + i = 21 + i + 1 by omega]; exact nx_store (q := 6) hins (by rw [R.z, wrap_id (by omega)]; omega) (by omega), ?_, .pub r (by omega) R.b R.z rfl rfl C, ?_⟩
      · refine ⟨by simp; exact hI.len, hc, by dsimp only; rw [rd_same (by omega)]; exact C, upN_same _ _ _, fun e => by dsimp only at e; omega, fun j hj ht q hq => ?_, fun _ => ⟨hI.cu, rfl, ?_⟩, fun s h4 => ?_, by rw [show (5 : Nat) = 2 + 3 from rfl, hs 3 (by omega)]; exact hI.s3⟩
        · rw [rd_other (by have := ad_low i j; omega)]
          dsimp only
          by_cases hjc : j = c
          · subst hjc; rw [upN_same]; exact cp q hq
          · rw [upN_other _ _ hjc]; exact hI.num j hj (by rw [T]; exact hjc) q hq
        · dsimp only; rw [upN_other _ _ (fun e => htc e.symm), hI.con]
        · rw [hs s h4]
          rcases hI.st s h4 with h | h | ⟨j, hj, ht, hcn, h⟩
          · exact .inl h
          · exact .inr (.inl h)
          · rw [T] at ht
            exact .inr (.inr ⟨j, hj, by dsimp only; omega, by dsimp only; rw [upN_other _ _ ht]; omega, h⟩)
      · refine ⟨Nat.le_succ _, ⟨rfl, rfl, rfl⟩, fun s h4 _ => hs s h4, fun s h4 h1' => .inl ⟨by rw [hs s h4, h1'], fun j hj => ?_⟩, fun s j h4 hj ht hv => ?_⟩
        · obtain ⟨hj5, hj⟩ := hj
          have hgp := R.gp
          obtain rfl : j = g.cu := by omega
          exact ⟨⟨hj5, .inr ⟨Nat.zero_le _, by dsimp only; omega, rfl⟩⟩, upN_other _ _ fun e => htc e.symm⟩
        · rw [T] at ht
          exact ⟨by dsimp only; omega, upN_other _ _ ht⟩
  | pub r K B Z G T C =>
    exact ⟨23 + d, _, w, g, by rw [show 23 + d = 22 + d + 1 by omega]; exact nx_set (put_post (i := 1) (o := ⟨1, d + 5, 7, 0, 0⟩) (by omega) rfl), hI, .pubF _ (by omega) B (by rw [upd_other _ _ (by omega)]; exact Z) G T (by rw [upd_other _ _ (by omega)]; exact C) (upd_same _ _ _), hq0⟩
  | pubF r K B Z G T C F =>
    have hle := ad_le (d := d) h6 hI.cu
    have hlo := ad_low d g.cu
    exact ⟨24 + d, _, w, g, by rw [show 24 + d = 23 + d + 1 by omega]; exact nx_add (v := (ad d g.cu : Int)) (put_post (i := 2) (o := ⟨3, d + 3, d + 2, d + 5, 0⟩) (by omega) rfl) (by rw [C, F, wrap_id (by omega)]; omega), hI, .pubA _ (by omega) B (by rw [upd_other _ _ (by omega)]; exact Z) G T (upd_same _ _ _), hq0⟩
  | pubA r K B Z G T A =>
    exact ⟨25 + d + 2 * 0, _, w, g, by rw [show 25 + d + 2 * 0 = 24 + d + 1 by omega]; exact nx_set (put_post (i := 3) (o := ⟨1, d + 6, 1, 0, 0⟩) (by omega) rfl), hI, .give 0 _ (by omega) (by omega) B (by rw [upd_other _ _ (by omega)]; exact Z) G T (by rw [upd_other _ _ (by omega)]; exact A) (upd_same _ _ _), hq0⟩
  | give i r hi K B Z G T A L =>
    have h4 : i < 4 := by omega
    exact ⟨26 + d + 2 * i, _, w, g, by rw [show 26 + d + 2 * i = 25 + d + 2 * i + 1 by omega]; exact nx_copy (put_give h4).1, hI, .givG i _ h4 (by omega) B (by rw [upd_other _ _ (by omega)]; exact Z) G T (by rw [upd_other _ _ (by omega)]; exact A) (by rw [upd_other _ _ (by omega)]; exact L) (by rw [upd_same]; exact A), hq0⟩
  | givG i r h4 K B Z G T A L H =>
    have hle := ad_le (d := d) h6 hI.cu
    have hlo := ad_low d g.cu
    have hins := (put_give (d := d) h4).2
    have hpv := hI.pv (by omega)
    have hwq : wrap64 (r d + (2 + i)) = (2 + i : Nat) := by rw [Z, wrap_id (by omega)]; omega
    have hsk : ∀ s j, s < 4 → s ≠ i → Sk g s j → Sk { g with gp := i + 1 } s j := by
      rintro s j hs hsi ⟨h5, hj⟩
      refine ⟨h5, ?_⟩
      dsimp only
      rcases hj with hj | ⟨h1, h2, h3⟩
      · exact .inl hj
      · exact .inr ⟨by omega, by omega, h3⟩
    by_cases hone : rd w (2 + i) = 1
    · have hi3 : i ≠ 3 := by rintro rfl; have := hI.s3; rw [show 2 + 3 = 5 from rfl] at hone; omega
      have hs : ∀ s, s ≠ i → rd (w.set (2 + i) (r (d + 7))) (2 + s) = rd w (2 + s) := fun s hs => rd_other (by omega)
      have hsi : rd (w.set (2 + i) (r (d + 7))) (2 + i) = (ad d g.cu : Int) := by rw [rd_same (by omega)]; exact H
      refine ⟨25 + d + 2 * (i + 1), _, w.set (2 + i) (r (d + 7)), { g with gp := i + 1 }, by rw [show 25 + d + 2 * (i + 1) = 26 + d + 2 * i + 1 by omega]; exact nx_casT (q := 2 + i) hins hwq (by omega) (by rw [L]; exact hone), ?_,
        .give (i + 1) _ (by omega) (by omega) B (by rw [upd_other _ _ (by omega)]; exact Z) rfl T (by rw [upd_other _ _ (by omega)]; exact A) (by rw [upd_other _ _ (by omega)]; exact L), ?_⟩
      · refine ⟨by simp; exact hI.len, hI.cu, by rw [rd_other (by omega)]; exact hI.cw, hI.con, hI.tc, fun j hj ht q hq => by rw [rd_other (by have := ad_low d j; omega)]; exact hI.num j hj ht q hq, fun _ => hpv, fun s h4 => ?_, by rw [rd_other (by omega)]; exact hI.s3⟩
        by_cases hsi' : s = i
        · subst hsi'
          exact .inr (.inr ⟨g.cu, hI.cu, hI.tc.symm, Nat.le_of_eq hI.con, hsi⟩)
        · rw [hs s hsi']; exact hI.st s h4
      · refine ⟨Nat.le_refl _, ⟨rfl, rfl, rfl⟩, fun s h4 hn => hs s (by rintro rfl; exact hn hone), fun s h4 h1' => ?_, fun s j h4 hj ht _ => ⟨ht, rfl⟩⟩
        by_cases hsi' : s = i
        · subst hsi'
          exact .inr ⟨g.cu, hI.cu, hI.tc.symm, hsi, Nat.le_of_eq hI.con.symm, Nat.le_of_eq hI.con⟩
        · exact .inl ⟨by rw [hs s hsi', h1'], fun j hj => ⟨hsk s j h4 hsi' hj, rfl⟩⟩
    · refine ⟨25 + d + 2 * (i + 1), _, w, { g with gp := i + 1 }, by rw [show 25 + d + 2 * (i + 1) = 26 + d + 2 * i + 1 by omega]; exact nx_casF (q := 2 + i) hins hwq (by omega) (by rw [L]; exact hone), ?_,
        .give (i + 1) _ (by omega) (by omega) B (by rw [upd_other _ _ (by omega)]; exact Z) rfl T (by rw [upd_other _ _ (by omega)]; exact A) (by rw [upd_other _ _ (by omega)]; exact L), ?_⟩
      · exact ⟨hI.len, hI.cu, hI.cw, hI.con, hI.tc, hI.num, fun _ => hpv, hI.st, hI.s3⟩
      · exact ⟨Nat.le_refl _, ⟨rfl, rfl, rfl⟩, fun _ _ _ => rfl, fun s h4 h1' => .inl ⟨h1', fun j hj => ⟨hsk s j h4 (by rintro rfl; exact hone h1') hj, rfl⟩⟩, fun s j h4 hj ht _ => ⟨ht, rfl⟩⟩
end Go.Baro.Cel
