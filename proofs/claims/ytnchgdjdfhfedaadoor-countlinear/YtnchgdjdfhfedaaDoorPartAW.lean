/- Of this claim's own texts these, one behind the other: CountAlg2, Count1, RunPure6. No statement of the seat is proved here; no condition but those that stand at the theorems. -/
import Derived.Test.YtnchgdjdfhfedaaDoorPartAV
import Derived.Test.YtnchgdjdfhfedaaDoorPartAM
import Derived.Test.YtnchgdjdfhfedaaDoorPartAT
import Derived.Test.YtnchgdjdfhfedaaDoorPartAI
set_option linter.unusedSimpArgs false
set_option linter.unusedVariables false
namespace Go.Baro.Cnt
open Go.RowKit (wrap64)

def cC : Cu := ⟨[0], addC, getC⟩
variable {m : Mc}
theorem cnt_at {S : List Nat} {d : Dg} (h : Hs S.length S.length (plyG m 0 S (g0 m))) (hd : d ∈ dgs (plyG m 0 S (g0 m)).out) : ∃ c, (m.ts[d.th]?.getD [])[d.cl]? = some c := by
  have h1 := h.own d hd
  have h2 := bg_le m S d.th
  exact ⟨_, List.getElem?_eq_getElem (by omega)⟩
/-- What holds of each run. -/
theorem cnt_run (hm : Mok m) (S : List Nat) : ∃ L rs has gh loc, ObjJ (fun _ => True) 2 (gK m) m.ws Fin (Inv m) S S.length (plyG m 0 S (g0 m)) L rs has gh loc ∧ Log (fun _ _ => False) (dgs (plyG m 0 S (g0 m)).out) L ∧
    ∀ d ∈ dgs (plyG m 0 S (g0 m)).out, d.e ≠ -1 → dKey d ∈ L ∧ d.to = [rs (dKey d)] := by
  obtain ⟨L, rs, has, gh, loc, H⟩ := obj_run (cnt_ok hm) S (fun _ _ => trivial)
  refine ⟨L, rs, has, gh, loc, H, ⟨H.log.nd, H.log.mem, fun d hd he => (H.log.all d hd he).elim .inl (fun ⟨v, hv, _⟩ => by cases hv), H.log.ord⟩, fun d hd he => ?_⟩
  rcases H.told d hd he with ⟨h1, h2⟩ | ⟨v, _, h1, _⟩
  · have h3 : dKey d ∈ L := by simpa using h1
    rw [if_pos h3] at h2
    exact ⟨h3, h2⟩
  · cases h1
theorem cntA_of {d : Dg} {c : Cl} (h : (m.ts[d.th]?.getD [])[d.cl]? = some c) : cntA m d = ⟨d.b, d.e, (gK m (dKey d)).put, if d.e = -1 then 0 else d.to.headD 0, (gK m (dKey d)).add⟩ := by
  unfold cntA gK byK dKey
  rw [h]
  dsimp only
  by_cases hk : c.k = 0 <;> simp [hk]
theorem cnt_lin (hm : Mok m) (S : List Nat) : noErr (plyG m 0 S (g0 m)) ∧ (∀ d ∈ dgs (plyG m 0 S (g0 m)).out, d.e ≠ -1 → d.to.length = 1) ∧ Lin 2 m.ws ((dgs (plyG m 0 S (g0 m)).out).map (cntA m)) := by
  obtain ⟨L, rs, has, gh, loc, H, hL, ht⟩ := cnt_run hm S
  refine ⟨H.err, fun d hd he => by rw [(ht d hd he).2]; rfl, hL.lin (keys_once H.hs) H.run (cntA m) fun d hd => ?_⟩
  obtain ⟨c, hc⟩ := cnt_at H.hs hd
  rw [cntA_of hc]
  refine ⟨rfl, rfl, fun he => ((H.hs.bnd d hd).2 he).1, rfl, rfl, fun _ h => absurd rfl h, fun he => ?_⟩
  dsimp only
  rw [if_neg he, (ht d hd he).2]
  rfl
/-- How far a call is from its end, if it is alone. -/
def FC (w : List Int) (c : List Ins) (p : Nat) (r : Int → Int) : Nat :=
  if c.length = 5 then (if p = 0 then 5 else if p = 1 then (if r 1 = rd w 0 then 4 else 8) else if p = 2 then (if r 1 = rd w 0 then 3 else 7) else if p = 3 then (if r 3 = 0 then 6 else 2) else 1) else 2 - p
theorem cnt_prog (m : Mc) : Prog m (fun _ => True) (Inv m) 8 FC := by
  refine ⟨fun w has gh loc t i c p r l b v _ hI hl hp => ?_, fun w has gh loc t i c p r l b v p' r' l' w' _ hI hl hp hn hp' => ?_⟩
  · obtain ⟨h1, h2, h3, h4⟩ := hI
    unfold FC
    rcases h4 t i c p r l b v hl with ⟨rfl, a, hx, hA⟩ | ⟨rfl, hx, hG⟩
    · rw [if_pos (by rfl)]
      repeat' split
      all_goals omega
    · rw [if_neg (by decide)]
      cases hG with
      | g0 => omega
      | g1 => omega
      | fin => exact absurd rfl hp
  · obtain ⟨h1, h2, h3, h4⟩ := hI
    have hq0 : ∀ y : Int, y = 0 → wrap64 (y + 0) = (0 : Nat) := fun y hy => by rw [hy]; exact wrap_id (by omega)
    rcases h4 t i c p r l b v hl with ⟨rfl, a, hx, hA⟩ | ⟨rfl, hx, hG⟩
    · have h5 : addC.length = 5 := rfl
      unfold FC
      rw [if_pos h5, if_pos h5]
      cases hA with
      | a0 r A Z =>
        obtain ⟨e1, e2, e3, e4⟩ := nx_det hn (nx_load (q := 0) (by rfl) (hq0 _ Z) (by omega))
        subst e1 e2 e3 e4
        simp [upd_same]
      | a1 r A Z =>
        obtain ⟨e1, e2, e3, e4⟩ := nx_det hn (nx_add (by rfl) (by rw [A]))
        subst e1 e2 e3 e4
        simp only [upd_other _ _ (show (1 : Int) ≠ 3 by decide)]
        simp
        split <;> omega
      | a2 r A Z N =>
        by_cases hc : rd w 0 = r 1
        · obtain ⟨e1, e2, e3, e4⟩ := nx_det hn (nx_casT (q := 0) (by rfl) (hq0 _ Z) (by omega) hc)
          subst e1 e2 e3 e4
          simp [upd_same, hc]
        · obtain ⟨e1, e2, e3, e4⟩ := nx_det hn (nx_casF (q := 0) (by rfl) (hq0 _ Z) (by omega) hc)
          subst e1 e2 e3 e4
          simp [upd_same, Ne.symm hc]
      | no r A Z N =>
        obtain ⟨e1, e2, e3, e4⟩ := nx_det hn (nx_unlZ (by rfl) N)
        have e1 : p' = 0 := e1
        subst e1 e2 e3 e4
        simp [N]
      | yes r N V =>
        obtain ⟨e1, e2, e3, e4⟩ := nx_det hn (nx_unlN (by rfl) (by rw [N]; decide))
        subst e1 e2 e3 e4
        simp [N]
      | a4 r V =>
        obtain ⟨e1, e2, e3, e4⟩ := nx_det hn (nx_emit (by rfl) (by decide))
        exact absurd e1 hp'
      | fin r => exact absurd rfl hp
    · have h5 : ¬ getC.length = 5 := by decide
      unfold FC
      rw [if_neg h5, if_neg h5]
      cases hG with
      | g0 r Z =>
        obtain ⟨e1, e2, e3, e4⟩ := nx_det hn (nx_load (q := 0) (by rfl) (by rw [Z]; exact wrap_id (by omega)) (by omega))
        omega
      | g1 r V =>
        obtain ⟨e1, e2, e3, e4⟩ := nx_det hn (nx_emit (by rfl) (by decide))
        exact absurd e1 hp'
      | fin r => exact absurd rfl hp
theorem cnt_done (hm : Mok m) {t : Nat} (S : List Nat) {j : Nat} (hj : 8 * (m.ts[t]?.getD []).length ≤ j) :
    ((plyG m 0 (S ++ List.replicate j t) (g0 m)).th t).now = none ∧ (m.ts[t]?.getD []).length = ((plyG m 0 (S ++ List.replicate j t) (g0 m)).th t).bg := by
  obtain ⟨h1, h2⟩ := alone_done (cnt_ok hm) (by decide) (cnt_prog m) (t := t) trivial (S := S) (fun _ _ => trivial) hj
  have := bg_le m (S ++ List.replicate j t) t
  exact ⟨h1, by omega⟩
theorem cntC_cases (by_ : List Int) (i : Nat) : ((cntC by_ i).k = 0 ∧ ∃ a, (cntC by_ i).ar = [a] ∧ 1 ≤ a ∧ a ≤ 5) ∨ ((cntC by_ i).k = 1 ∧ (cntC by_ i).ar = []) := by
  unfold cntC
  split
  · rename_i h
    refine .inl ⟨rfl, _, rfl, by omega, ?_⟩
    unfold cntN at *
    omega
  · exact .inr ⟨rfl, rfl⟩
theorem mok_of {ts : List (List Cl)} (h : ∀ (t i : Nat) (c : Cl), (ts[t]?.getD [])[i]? = some c → (c.k = 0 ∧ ∃ a, c.ar = [a]) ∨ (c.k = 1 ∧ c.ar = [])) : Mok ⟨cC.ws, [cC.ca, cC.cg], ts⟩ :=
  ⟨rfl, fun x hx => by rw [List.mem_singleton.1 hx]; exact wrap_id (by omega), rfl, h⟩
theorem cntT_at {by_ : List Int} {t i : Nat} {c : Cl} (h : (cntT by_ t)[i]? = some c) : ∃ j, c = cntC by_ j := by
  have hm := List.mem_of_getElem? h
  simp only [cntT, List.mem_cons, List.not_mem_nil, or_false] at hm
  rcases hm with rfl | rfl | rfl <;> exact ⟨_, rfl⟩
theorem cnt3_at {by_ : List Int} {t i : Nat} {c : Cl} (h : (((mCount cC by_).ts)[t]?.getD [])[i]? = some c) : ∃ j, c = cntC by_ j := by
  match t, h with
  | 0, h => exact cntT_at h
  | 1, h => exact cntT_at h
  | 2, h => exact cntT_at h
  | t + 3, h => simp [mCount] at h
theorem cnt4_at {by_ : List Int} {t i : Nat} {c : Cl} (h : (((mCount4 cC by_).ts)[t]?.getD [])[i]? = some c) : (∃ j, c = cntC by_ j) ∨ (t = 3 ∧ c = ⟨1, []⟩) := by
  match t, h with
  | 0, h => exact .inl (cntT_at h)
  | 1, h => exact .inl (cntT_at h)
  | 2, h => exact .inl (cntT_at h)
  | 3, h =>
    right
    have := List.mem_of_getElem? h
    simp [mCount4] at this
    exact ⟨rfl, this⟩
  | t + 4, h => simp [mCount4] at h
theorem mok3 (by_ : List Int) : Mok (mCount cC by_) := mok_of fun t i c h => by
  obtain ⟨j, rfl⟩ := cnt3_at h
  exact (cntC_cases by_ j).imp (fun ⟨h1, a, h2, _⟩ => ⟨h1, a, h2⟩) id
theorem mok4 (by_ : List Int) : Mok (mCount4 cC by_) := mok_of fun t i c h => by
  rcases cnt4_at h with ⟨j, rfl⟩ | ⟨_, rfl⟩
  · exact (cntC_cases by_ j).imp (fun ⟨h1, a, h2, _⟩ => ⟨h1, a, h2⟩) id
  · exact .inr ⟨rfl, rfl⟩
theorem cnt3_len (by_ : List Int) (t : Nat) : (((mCount cC by_).ts)[t]?.getD []).length = if t < 3 then 3 else 0 := by
  match t with
  | 0 => rfl
  | 1 => rfl
  | 2 => rfl
  | t + 3 => simp [mCount]
/-- Any schedule. -/
theorem cnt_linD : CountLinD cC := by
  intro by_ S _ hS
  obtain ⟨h1, h2, h3⟩ := cnt_lin (mok3 by_) S
  have hs := hs_ply (mCount cC by_) S
  refine ⟨h1, fun d hd => ⟨h2 d hd, ?_⟩, ?_, h3⟩
  · have q1 := hs.own d hd
    have q2 := bg_le (mCount cC by_) S d.th
    rw [cnt3_len] at q2
    split at q2
    · exact ⟨by assumption, by omega⟩
    · omega
  · rw [dgs_count (fun n hn => by have := hS n hn; omega)]
    have q0 := bg_le (mCount cC by_) S 0
    have q1 := bg_le (mCount cC by_) S 1
    have q2 := bg_le (mCount cC by_) S 2
    have q3 := bg_le (mCount cC by_) S 3
    rw [cnt3_len] at q0 q1 q2 q3
    simp at q0 q1 q2 q3
    omega
theorem perm_sum {l l' : List Int} (h : l.Perm l') : l.sum = l'.sum := by
  induction h with
  | nil => rfl
  | cons x _ ih => simp [ih]
  | swap x y l => simp; omega
  | trans _ _ ih1 ih2 => exact ih1.trans ih2
/-- What the log of a number tells, if it never gets too large. -/
theorem num_log {g : Key → Ac} {rs : Key → Int} {L : List Key} {has : List Int} (hl : LogR 2 g rs [0] L has) (hg : ∀ x ∈ L, 0 ≤ (g x).add ∧ (g x).add ≤ 5 ∧ ((g x).put = true → 1 ≤ (g x).add)) (hn : L.length ≤ 1000) :
    has = [(L.map fun x => (g x).add).sum] ∧ 0 ≤ (L.map fun x => (g x).add).sum ∧ (L.map fun x => (g x).add).sum ≤ 5 * L.length ∧ (∀ a ∈ L, (g a).put = true → rs a < (L.map fun x => (g x).add).sum) ∧ (∀ a ∈ L, ∀ b ∈ L, a ≠ b → (g a).put = true → (g b).put = true → rs a ≠ rs b) ∧
    ∀ A key, L = A ++ [key] → rs key + (g key).add = (L.map fun x => (g x).add).sum := by
  induction hl with
  | nil => exact ⟨rfl, by simp, by simp, by simp, by simp, fun A key h => by simp at h⟩
  | @snoc h L key hl hr ih =>
    rw [List.length_append, List.length_singleton] at hn
    obtain ⟨i1, i2, i3, i4, i5, i6⟩ := ih (fun x hx => hg x (by simp [hx])) (by omega)
    obtain ⟨g1, g2, g3⟩ := hg key (by simp)
    have hsum : ((L ++ [key]).map fun x => (g x).add).sum = (L.map fun x => (g x).add).sum + (g key).add := by simp [List.sum_append]
    rw [hsum]
    generalize (L.map fun x => (g x).add).sum = s at *
    subst i1
    have hr' : s = rs key := hr
    have hw : (tel 2 [s] (g key)).2 = [s + (g key).add] := by
      show [wrap64 (s + (g key).add)] = _
      rw [wrap_id (by omega)]
    rw [List.length_append, List.length_singleton]
    refine ⟨hw, by omega, by omega, fun a ha hp => ?_, fun a ha b hb hab hpa hpb => ?_, fun A k hk => ?_⟩
    · rcases List.mem_append.1 ha with ha | ha
      · have := i4 a ha hp; omega
      · have e := List.mem_singleton.1 ha
        subst e
        have := g3 hp
        omega
    · rcases List.mem_append.1 ha with ha1 | ha
      · rcases List.mem_append.1 hb with hb1 | hb
        · exact i5 a ha1 b hb1 hab hpa hpb
        · have e := List.mem_singleton.1 hb
          subst e
          have := i4 a ha1 hpa
          omega
      · have e := List.mem_singleton.1 ha
        subst e
        rcases List.mem_append.1 hb with hb1 | hb
        · have := i4 b hb1 hpb
          omega
        · exact absurd (List.mem_singleton.1 hb).symm hab
    · obtain ⟨_, e⟩ := List.append_inj' hk rfl
      injection e with e _
      subst e
      omega
theorem cnt4_add {by_ : List Int} (x : Key) : 0 ≤ (gK (mCount4 cC by_) x).add ∧ (gK (mCount4 cC by_) x).add ≤ 5 ∧ ((gK (mCount4 cC by_) x).put = true → 1 ≤ (gK (mCount4 cC by_) x).add) := by
  have hb : ∀ a, byK (mCount4 cC by_) x = some a → 1 ≤ a ∧ a ≤ 5 := by
    intro a ha
    unfold byK at ha
    cases hc : ((mCount4 cC by_).ts[x.1]?.getD [])[x.2]? with
    | none => rw [hc] at ha; cases ha
    | some c =>
      rw [hc] at ha
      dsimp only at ha
      rcases cnt4_at hc with ⟨j, rfl⟩ | ⟨_, rfl⟩
      · rcases cntC_cases by_ j with ⟨k1, a', k2, k3⟩ | ⟨k1, k2⟩
        · rw [k1, k2] at ha
          simp at ha
          omega
        · rw [k1] at ha; simp at ha
      · simp at ha
  unfold gK
  cases hx : byK (mCount4 cC by_) x with
  | none => simp
  | some a =>
    have := hb a hx
    simp
    omega
theorem cnt4_len (by_ : List Int) (t : Nat) : (((mCount4 cC by_).ts)[t]?.getD []).length = if t < 3 then 3 else if t = 3 then 1 else 0 := by
  match t with
  | 0 => rfl
  | 1 => rfl
  | 2 => rfl
  | 3 => rfl
  | t + 4 => simp [mCount4]
/-- All calls. -/
theorem cnt_allD : CountAllD cC := by
  intro by_ S _ hS
  obtain ⟨R, hR, hRl⟩ : ∃ R, R = S ++ List.replicate 200 0 ++ List.replicate 200 1 ++ List.replicate 200 2 ∧ allS S = R ++ List.replicate 60 3 := ⟨_, rfl, rfl⟩
  have hm := mok4 by_
  -- who has done all
  have f0 : ((plyG (mCount4 cC by_) 0 R (g0 (mCount4 cC by_))).th 0).now = none ∧ ((plyG (mCount4 cC by_) 0 R (g0 (mCount4 cC by_))).th 0).bg = 3 := by
    obtain ⟨q1, q2⟩ := cnt_done hm S (t := 0) (j := 200) (by rw [cnt4_len]; decide)
    rw [cnt4_len] at q2
    rw [hR, th_later (fun n hn => by rw [List.eq_of_mem_replicate hn]; decide), th_later (fun n hn => by rw [List.eq_of_mem_replicate hn]; decide)]
    exact ⟨q1, q2.symm⟩
  have f1 : ((plyG (mCount4 cC by_) 0 R (g0 (mCount4 cC by_))).th 1).now = none ∧ ((plyG (mCount4 cC by_) 0 R (g0 (mCount4 cC by_))).th 1).bg = 3 := by
    obtain ⟨q1, q2⟩ := cnt_done hm (S ++ List.replicate 200 0) (t := 1) (j := 200) (by rw [cnt4_len]; decide)
    rw [cnt4_len] at q2
    rw [hR, th_later (fun n hn => by rw [List.eq_of_mem_replicate hn]; decide)]
    exact ⟨q1, q2.symm⟩
  have f2 : ((plyG (mCount4 cC by_) 0 R (g0 (mCount4 cC by_))).th 2).now = none ∧ ((plyG (mCount4 cC by_) 0 R (g0 (mCount4 cC by_))).th 2).bg = 3 := by
    obtain ⟨q1, q2⟩ := cnt_done hm (S ++ List.replicate 200 0 ++ List.replicate 200 1) (t := 2) (j := 200) (by rw [cnt4_len]; decide)
    rw [cnt4_len] at q2
    rw [hR]
    exact ⟨q1, q2.symm⟩
  have hR3 : ∀ n ∈ R, n < 3 := by
    rw [hR]
    intro n hn
    simp only [List.mem_append, List.mem_replicate] at hn
    rcases hn with ((hn | hn) | hn) | hn
    · exact hS n hn
    all_goals omega
  have f3 : (plyG (mCount4 cC by_) 0 R (g0 (mCount4 cC by_))).th 3 = ⟨none, 0⟩ := th_idle fun n hn => by have := hR3 n hn; omega
  have e3 : ((plyG (mCount4 cC by_) 0 (allS S) (g0 (mCount4 cC by_))).th 3).now = none ∧ ((plyG (mCount4 cC by_) 0 (allS S) (g0 (mCount4 cC by_))).th 3).bg = 1 := by
    obtain ⟨q1, q2⟩ := cnt_done hm R (t := 3) (j := 60) (by rw [cnt4_len]; decide)
    rw [cnt4_len] at q2
    rw [hRl]
    exact ⟨q1, q2.symm⟩
  have hlat : ∀ t, t ≠ 3 → (plyG (mCount4 cC by_) 0 (allS S) (g0 (mCount4 cC by_))).th t = (plyG (mCount4 cC by_) 0 R (g0 (mCount4 cC by_))).th t := fun t ht => by
    rw [hRl]
    exact th_later fun n hn => by rw [List.eq_of_mem_replicate hn]; exact Ne.symm ht
  have hA4 : ∀ n ∈ allS S, n < 4 := by
    rw [hRl]
    intro n hn
    rcases List.mem_append.1 hn with hn | hn
    · have := hR3 n hn; omega
    · have := List.eq_of_mem_replicate hn; omega
  have kR := dgs_count (m := mCount4 cC by_) (S := R) (fun n hn => by have := hR3 n hn; omega)
  rw [f0.2, f1.2, f2.2, f3] at kR
  have kA := dgs_count (m := mCount4 cC by_) hA4
  rw [hlat 0 (by decide), hlat 1 (by decide), hlat 2 (by decide), f0.2, f1.2, f2.2, e3.2] at kA
  have hsR := hs_ply (mCount4 cC by_) R
  have hth : ∀ (T : List Nat), (∀ d ∈ dgs (plyG (mCount4 cC by_) 0 T (g0 (mCount4 cC by_))).out, d.th < 4) := fun T d hd => by
    have q1 := (hs_ply (mCount4 cC by_) T).own d hd
    have q2 := bg_le (mCount4 cC by_) T d.th
    rw [cnt4_len] at q2
    by_cases h4 : d.th < 4
    · exact h4
    · rw [if_neg (by omega), if_neg (by omega)] at q2; omega
  have four : ∀ t : Nat, t < 4 → t = 0 ∨ t = 1 ∨ t = 2 ∨ t = 3 := fun t h => by omega
  have ER : ∀ d ∈ dgs (plyG (mCount4 cC by_) 0 R (g0 (mCount4 cC by_))).out, d.e ≠ -1 := fun d hd he => by
    have := ((hsR.opn d hd).1 he).1
    rcases four _ (hth R d hd) with h | h | h | h <;> rw [h] at this
    · exact this f0.1
    · exact this f1.1
    · exact this f2.1
    · rw [f3] at this; exact this rfl
  obtain ⟨L, rs, has, gh, loc, H, hL, ht⟩ := cnt_run hm (allS S)
  have EA : ∀ d ∈ dgs (plyG (mCount4 cC by_) 0 (allS S) (g0 (mCount4 cC by_))).out, d.e ≠ -1 := fun d hd he => by
    have := ((H.hs.opn d hd).1 he).1
    rcases four _ (hth _ d hd) with h | h | h | h <;> rw [h] at this
    · rw [hlat 0 (by decide)] at this; exact this f0.1
    · rw [hlat 1 (by decide)] at this; exact this f1.1
    · rw [hlat 2 (by decide)] at this; exact this f2.1
    · exact this e3.1
  obtain ⟨r, hr1, hr2⟩ := ply_behind (mCount4 cC by_) R (List.replicate 60 3) ER
  rw [← hRl] at hr1
  have hrl : r.length = 1 := by
    have := congrArg List.length hr1
    rw [List.length_append] at this
    dsimp only at kR
    omega
  obtain ⟨q, hq⟩ := List.length_eq_one_iff.1 hrl
  subst hq
  -- the log and the calls
  have hko := keys_once H.hs
  have hmemL : ∀ x, x ∈ L ↔ x ∈ (dgs (plyG (mCount4 cC by_) 0 (allS S) (g0 (mCount4 cC by_))).out).map dKey := fun x => by
    constructor
    · intro hx
      obtain ⟨d, hd, e⟩ := hL.mem x hx
      exact e ▸ List.mem_map_of_mem hd
    · intro hx
      obtain ⟨d, hd, rfl⟩ := List.mem_map.1 hx
      exact (ht d hd (EA d hd)).1
  have hperm : L.Perm ((dgs (plyG (mCount4 cC by_) 0 (allS S) (g0 (mCount4 cC by_))).out).map dKey) := (List.perm_ext_iff_of_nodup hL.nd hko).2 hmemL
  have hLl : L.length = 10 := by rw [hperm.length_eq, List.length_map, kA]
  obtain ⟨n1, n2, n3, n4, n5, n6⟩ := num_log H.run (fun x _ => cnt4_add x) (by omega)
  have hadd : ∀ d ∈ dgs (plyG (mCount4 cC by_) 0 (allS S) (g0 (mCount4 cC by_))).out, (cntA (mCount4 cC by_) d).put = (gK (mCount4 cC by_) (dKey d)).put ∧ (cntA (mCount4 cC by_) d).add = (gK (mCount4 cC by_) (dKey d)).add := fun d hd => by
    obtain ⟨c, hc⟩ := cnt_at H.hs hd
    rw [cntA_of hc]
    exact ⟨rfl, rfl⟩
  have hthree : ∀ d ∈ dgs (plyG (mCount4 cC by_) 0 (allS S) (g0 (mCount4 cC by_))).out, d.th = 3 → d = q := fun d hd h3 => by
    rw [hr1] at hd
    rcases List.mem_append.1 hd with hd | hd
    · have := hsR.own d hd
      rw [h3, f3] at this
      exact absurd this (Nat.not_lt_zero _)
    · exact List.mem_singleton.1 hd
  obtain ⟨d3, hd3, hd3t, _⟩ := H.hs.all 3 0 (by rw [e3.2]; decide)
  have hqd := hthree d3 hd3 hd3t
  subst hqd
  refine ⟨H.err, kA, fun d hd => ⟨EA d hd, by rw [(ht d hd (EA d hd)).2]; rfl⟩, ?_, ⟨d3, hd3, hd3t⟩, fun d hd h3 => ?_⟩
  · refine (List.pairwise_map.1 hko).imp_of_mem fun {a b} ha hb hab hpa hpb => ?_
    rw [(hadd a ha).1] at hpa
    rw [(hadd b hb).1] at hpb
    rw [(ht a ha (EA a ha)).2, (ht b hb (EA b hb)).2]
    exact n5 _ (ht a ha (EA a ha)).1 _ (ht b hb (EA b hb)).1 hab hpa hpb
  · have hdq := hthree d hd h3
    subst hdq
    have hm3 := (ht d hd (EA d hd)).1
    obtain ⟨A, B, hAB⟩ := List.append_of_mem hm3
    have hB : B = [] := by
      cases B with
      | nil => rfl
      | cons x B =>
        exfalso
        have hx : x ∈ L := by rw [hAB]; simp
        obtain ⟨y, hy, hyx⟩ := hL.mem x hx
        have ho := hL.ord
        rw [hAB] at ho
        have ho2 := (List.pairwise_cons.1 (List.pairwise_append.1 ho).2.1).1 x (by simp) d hd y hy rfl hyx (EA y hy)
        have hnd := hL.nd
        rw [hAB] at hnd
        have hne : dKey d ≠ x := by
          have := (List.nodup_cons.1 (List.nodup_append.1 hnd).2.1).1
          exact fun e => this (by rw [e]; simp)
        have hyR : y ∈ dgs (plyG (mCount4 cC by_) 0 R (g0 (mCount4 cC by_))).out := by
          rw [hr1] at hy
          rcases List.mem_append.1 hy with hy | hy
          · exact hy
          · rw [List.mem_singleton.1 hy] at hyx; exact absurd hyx hne
        have := ((hsR.bnd y hyR).2 (ER y hyR)).2
        have := hr2 d (by simp)
        omega
    subst hB
    have h6 := n6 A _ hAB
    have hz : (gK (mCount4 cC by_) (dKey d)).add = 0 := by
      obtain ⟨c, hc⟩ := cnt_at H.hs hd
      rw [h3] at hc
      have := List.mem_of_getElem? hc
      simp [mCount4] at this
      unfold gK byK dKey
      rw [h3, hc, this]
      rfl
    rw [(ht d hd (EA d hd)).2]
    show rs (dKey d) = _
    rw [hz] at h6
    have h7 : (L.map fun x => (gK (mCount4 cC by_) x).add).sum = ((dgs (plyG (mCount4 cC by_) 0 (allS S) (g0 (mCount4 cC by_))).out).map fun d => (cntA (mCount4 cC by_) d).add).sum := by
      rw [perm_sum (hperm.map _), List.map_map]
      congr 1
      exact List.map_congr_left fun d hd => (hadd d hd).2.symm
    omega
end Go.Baro.Cnt

set_option linter.unusedSimpArgs false
set_option linter.unusedVariables false
namespace Go.Proofs.YtnchgdjdfhfedaaDoor
open Go.RowKit Go.Ord Go.Baro Go.Maps

def nm_number : Nm := [110, 117, 109, 98, 101, 114]
def nm_again : Nm := [97, 103, 97, 105, 110]
def nm_value : Nm := [118, 97, 108, 117, 101]
def nm_zero : Nm := [122, 101, 114, 111]
def nm_given : Nm := [103, 105, 118, 101, 110]
theorem own_cap {w : World} {B : Nat} {e : TypeId} {s n : Nat} {v : Value} {xs : List Value} (h : w.ownsRow B e s v n xs) : ∃ A k, v = .slice A n k ∧ n ≤ k ∧ k ≤ 9223372036854775807 := by
  rcases h.2 with ⟨rfl, rfl⟩ | ⟨g, cap, cur, rfl, _, _, h1, h2, _⟩
  · exact ⟨_, _, rfl, Nat.le_refl _, by omega⟩
  · exact ⟨_, _, rfl, h1, by unfold maxLen at h2; omega⟩
theorem AsmPost.alloc {w : World} {B b n : Nat} {s : Bs} {w' : World} (h : AsmPost w B b s n w') (o : Obj) : AsmPost w B b s n (w'.alloc o) := by
  obtain ⟨⟨cv, jv, rm, lm, h1⟩, h2, h3⟩ := h
  exact ⟨⟨cv, jv, rm, lm, h1.alloc o⟩, h2.trans (Kc.below ((Below.refl _ _).alloc (Nat.le_refl _) o)), h3.alloc h1.hB o⟩
set_option maxHeartbeats 1000000 in
theorem count_assembled (w : World) (hT : Tab w) (B b n : Nat) (s : Bs) (c : List Ins) (h : BdAt w B b s n) (hf : s.fin = some c) (hj0 : ∀ j ∈ s.jmps, 0 ≤ j.1 ∧ j.2.length ≤ 1000) (hjl : s.jmps.length ≤ 1000) :
    Calls Tryd.prog 31 #[.pointer (some ⟨b, 0, none⟩)] w fun e w' => (∃ A m k, e = .returned (.slice A m k) ∧ m ≤ k ∧ k ≤ 9223372036854775807 ∧ QT w' 73 5 A m (cellsO c)) ∧ Below w.heap.size w w' := by
  have HC := Lib.hid (asm_Code w hT B b n s c h hf hj0 hjl)
  clear h hf hj0 hjl hT
  go_enter Tryd.func31, Tryd.ntmps31
  go_wp2_with fail
  refine HC.out.mono ?_
  rintro e w7 ⟨v, rfl, hown, hb7⟩
  obtain ⟨A7, k7, rfl, hk7, hk8⟩ := own_cap hown
  go_wp2
  go_ret
  exact ⟨⟨_, _, _, rfl, hk7, hk8, QT.own hown⟩, hb7⟩
def count_Add_B : Bs := (((((((Bs.new [nm_number]).lab nm_again).load nm_value nm_zero (0)).op3 3 nm_given nm_value nm_number).cas nm_given nm_zero (0) nm_value).unless nm_given nm_again).emit [nm_value])
theorem count_Add_fin : (count_Add_B).fin = some (Cnt.addC) ∧ (∀ j ∈ (count_Add_B).jmps, 0 ≤ j.1 ∧ j.2.length ≤ 1000) ∧ (count_Add_B).jmps.length ≤ 1000 := ⟨by kernel_rfl, by decide +kernel, by decide +kernel⟩
theorem count_Add_new : ∀ (j : Nat) l, ([nm_number] : List Nm)[j]? = some l → nmAsk (Bs.new (([nm_number] : List Nm).take j)).regs l = none := by
  intro j l hl
  rcases (by omega : j = 0 ∨ 1 ≤ j) with rfl | h
  all_goals first | (injection hl with hl; subst hl; kernel_rfl) | (rw [List.getElem?_eq_none (by simpa using h)] at hl; cases hl)
set_option maxRecDepth 100000 in
set_option maxHeartbeats 4000000 in
theorem count_Add : C0Spec 9 (Cnt.addC) := by
  intro w hT
  have HT := Lib.hid hT
  clear hT
  go_enter Tryd.func9, Tryd.ntmps9
  go_wp2_with fail
  have HQ := Lib.hid (show QN (w.alloc (.cells #[nmV nm_number] 9)) (some ⟨w.heap.size, 0, none⟩) 1 [nm_number] from QT.box (s := 1) (n := 1) (Box.newAt w 9 [nmV nm_number] w.heap.size rfl) rfl)
  have hb0 : Below w.heap.size w (w.alloc (.cells #[nmV nm_number] 9)) := (Below.refl w.heap.size w).alloc (Nat.le_refl _) (.cells #[nmV nm_number] 9)
  refine (asm_New (w.alloc (.cells #[nmV nm_number] 9)) (some ⟨w.heap.size, 0, none⟩) 1 1 [nm_number] HQ.out (by omega) (by decide) count_Add_new).mono ?_
  rintro e w1 ⟨b, rfl, H⟩
  obtain ⟨w0, hw0⟩ : ∃ w0, w0 = w.alloc (.cells #[nmV nm_number] 9) := ⟨_, rfl⟩
  clear HQ
  rw [← hw0] at H hb0
  obtain ⟨B, hB⟩ : ∃ B, B = w0.heap.size := ⟨_, rfl⟩
  rw [← hB] at H
  have HBB := Lib.hid hB
  have HB0 := Lib.hid hb0
  have HP0 := Lib.hid H
  clear H hB hb0 hw0
  go_wp2_with fail
  refine (asm_Label _ B b 1 (Bs.new [nm_number]) nm_again HP0.out.1 (by omega) (by decide) (by kernel_rfl)).mono ?_
  rintro e w1 ⟨rfl, H⟩
  have HP1 := Lib.hid (HP0.out.trans H)
  clear H
  go_wp2_with fail
  refine (asm_LoadE _ B b (1 + 1) ((Bs.new [nm_number]).lab nm_again) nm_value nm_zero _ (0) (by first | rfl | omega) HP1.out.1 (by omega) (by decide) (by decide)).mono ?_
  rintro e w2 ⟨rfl, H⟩
  have HP2 := Lib.hid (HP1.out.trans H)
  clear H
  go_wp2_with fail
  refine (asm_Add _ B b ((1 + 1) + 3) (((Bs.new [nm_number]).lab nm_again).load nm_value nm_zero (0)) nm_given nm_value nm_number HP2.out.1 (by omega) (by decide) (by decide) (by decide)).mono ?_
  rintro e w3 ⟨rfl, H⟩
  have HP3 := Lib.hid (HP2.out.trans H)
  clear H
  go_wp2_with fail
  refine (asm_CasE _ B b (((1 + 1) + 3) + 4) ((((Bs.new [nm_number]).lab nm_again).load nm_value nm_zero (0)).op3 3 nm_given nm_value nm_number) nm_given nm_zero _ (0) nm_value (by first | rfl | omega) HP3.out.1 (by omega) (by decide) (by decide) (by decide)).mono ?_
  rintro e w4 ⟨rfl, H⟩
  have HP4 := Lib.hid (HP3.out.trans H)
  clear H
  go_wp2_with fail
  refine (asm_Unless _ B b ((((1 + 1) + 3) + 4) + 4) (((((Bs.new [nm_number]).lab nm_again).load nm_value nm_zero (0)).op3 3 nm_given nm_value nm_number).cas nm_given nm_zero (0) nm_value) nm_given nm_again HP4.out.1 (by omega) (by decide) (by decide)).mono ?_
  rintro e w5 ⟨rfl, H⟩
  have HP5 := Lib.hid (HP4.out.trans H)
  clear H
  go_wp2_with fail
  have HN6 := Lib.hid (show QN (w5.alloc (.cells #[nmV nm_value] 9)) (some ⟨w5.heap.size, 0, none⟩) 1 [nm_value] from QT.box (s := 1) (n := 1) (Box.newAt w5 9 [nmV nm_value] w5.heap.size rfl) rfl)
  have HM6 := Lib.hid (HP5.out.alloc (.cells #[nmV nm_value] 9))
  refine (asm_Emit _ B b (((((1 + 1) + 3) + 4) + 4) + 3) ((((((Bs.new [nm_number]).lab nm_again).load nm_value nm_zero (0)).op3 3 nm_given nm_value nm_number).cas nm_given nm_zero (0) nm_value).unless nm_given nm_again) (some ⟨w5.heap.size, 0, none⟩) 1 1 [nm_value] HM6.out.1 (by omega) HN6.out (by omega) (by decide)).mono ?_
  rintro e w6 ⟨rfl, H⟩
  have HP6 := Lib.hid (HM6.out.trans H)
  clear H
  obtain ⟨f1, f2, f3⟩ := count_Add_fin
  have hb6 : Below w.heap.size w _ := HB0.out.trans (HP6.out.2.2.mono (by rw [HBB.out]; exact HB0.out.size))
  go_wp2_with fail
  refine (count_assembled _ (HT.out.below hb6 HT.out.lt) B b _ (count_Add_B) _ HP6.out.1 f1 f2 f3).mono ?_
  rintro e w7 ⟨⟨A7, m7, k7, rfl, hk7, hk8, hq7⟩, hb7⟩
  go_wp2
  go_ret
  exact ⟨⟨_, _, _, rfl, hk7, hk8, hq7⟩, hb6.trans (hb7.mono hb6.size)⟩
def count_Get_B : Bs := (((Bs.new []).load nm_value nm_zero (0)).emit [nm_value])
theorem count_Get_fin : (count_Get_B).fin = some (Cnt.getC) ∧ (∀ j ∈ (count_Get_B).jmps, 0 ≤ j.1 ∧ j.2.length ≤ 1000) ∧ (count_Get_B).jmps.length ≤ 1000 := ⟨by kernel_rfl, by decide +kernel, by decide +kernel⟩
set_option maxRecDepth 100000 in
set_option maxHeartbeats 4000000 in
theorem count_Get : C0Spec 10 (Cnt.getC) := by
  intro w hT
  have HT := Lib.hid hT
  clear hT
  go_enter Tryd.func10, Tryd.ntmps10
  go_wp2_with fail
  refine (asm_New _ none 0 0 [] (QT.nil _ _ _ _) (by omega) (by simp) (by simp)).mono ?_
  have hb0 : Below w.heap.size w w := Below.refl _ _
  rintro e w1 ⟨b, rfl, H⟩
  obtain ⟨w0, hw0⟩ : ∃ w0, w0 = w := ⟨_, rfl⟩
  rw [← hw0] at H
  have hb0 : Below w.heap.size w w0 := by rw [hw0]; exact Below.refl _ _
  obtain ⟨B, hB⟩ : ∃ B, B = w0.heap.size := ⟨_, rfl⟩
  rw [← hB] at H
  have HBB := Lib.hid hB
  have HB0 := Lib.hid hb0
  have HP0 := Lib.hid H
  clear H hB hb0 hw0
  go_wp2_with fail
  refine (asm_LoadE _ B b 0 (Bs.new []) nm_value nm_zero _ (0) (by first | rfl | omega) HP0.out.1 (by omega) (by decide) (by decide)).mono ?_
  rintro e w1 ⟨rfl, H⟩
  have HP1 := Lib.hid (HP0.out.trans H)
  clear H
  go_wp2_with fail
  have HN2 := Lib.hid (show QN (w1.alloc (.cells #[nmV nm_value] 9)) (some ⟨w1.heap.size, 0, none⟩) 1 [nm_value] from QT.box (s := 1) (n := 1) (Box.newAt w1 9 [nmV nm_value] w1.heap.size rfl) rfl)
  have HM2 := Lib.hid (HP1.out.alloc (.cells #[nmV nm_value] 9))
  refine (asm_Emit _ B b (0 + 3) ((Bs.new []).load nm_value nm_zero (0)) (some ⟨w1.heap.size, 0, none⟩) 1 1 [nm_value] HM2.out.1 (by omega) HN2.out (by omega) (by decide)).mono ?_
  rintro e w2 ⟨rfl, H⟩
  have HP2 := Lib.hid (HM2.out.trans H)
  clear H
  obtain ⟨f1, f2, f3⟩ := count_Get_fin
  have hb6 : Below w.heap.size w _ := HB0.out.trans (HP2.out.2.2.mono (by rw [HBB.out]; exact HB0.out.size))
  go_wp2_with fail
  refine (count_assembled _ (HT.out.below hb6 HT.out.lt) B b _ (count_Get_B) _ HP2.out.1 f1 f2 f3).mono ?_
  rintro e w7 ⟨⟨A7, m7, k7, rfl, hk7, hk8, hq7⟩, hb7⟩
  go_wp2
  go_ret
  exact ⟨⟨_, _, _, rfl, hk7, hk8, hq7⟩, hb6.trans (hb7.mono hb6.size)⟩
theorem eltIntC : Elt Tryd.prog 22 3 (.int .i64 0) 1 8 := Elt.mk' Tryd.underlying22 (by kernel_rfl) rfl (by decide)
set_option maxHeartbeats 1000000 in
theorem count_Words : W0Spec 8 [0] := by
  intro w hT
  clear hT
  go_enter Tryd.func8, Tryd.ntmps8
  go_wp2_with (at_make; refine make_all eltIntC w rfl _ _ rfl w.heap.size _ _ _ _ 1 rfl rfl rfl rfl (by omega) (by omega) (Nat.le_refl _) ?_; intro w1 hown1 hb1 hs1 hg1)
  go_ret
  have hb := hb1 w (Below.refl _ _)
  refine ⟨?_, hb⟩
  have hq := QT.own hown1
  refine ⟨_, _, _, rfl, Nat.le_refl _, by omega, ?_⟩
  rw [madeCells_one _ rfl] at hq
  simpa using hq
instance (x : Int) : Decidable (inW x) := by unfold inW; infer_instance
instance (o : Ins) : Decidable (inI o) := by unfold inI; infer_instance
theorem count_cuOk : CuOk Cnt.cC := ⟨by decide, by decide, by decide, by decide, by decide +kernel, by decide +kernel, by decide, by decide +kernel, by decide +kernel⟩
end Go.Proofs.YtnchgdjdfhfedaaDoor

set_option linter.unusedSimpArgs false
set_option linter.unusedVariables false
namespace Go.Baro

/-- An event with the number of its step. -/
def inSt (st : Nat) (e : Ev) : Ev := { e with st := st }
theorem actL_zero (g : Gs) (st n bg : Nat) (l : Lv) (o a : List Ev) : actL g st n bg l (a ++ o.map (inSt st)) = ⟨(actL ⟨g.w, g.th, []⟩ 0 n bg l o).w, (actL ⟨g.w, g.th, []⟩ 0 n bg l o).th, a ++ (actL ⟨g.w, g.th, []⟩ 0 n bg l o).out.map (inSt st)⟩ := by
  unfold actL
  dsimp only
  by_cases h : (exc l g.w).2.2.2 = true
  · rw [if_pos h, if_pos h]; simp [inSt]
  · rw [if_neg h, if_neg h]
theorem actG_zero (m : Mc) (g : Gs) (st n : Nat) : actG m g st n = ⟨(actG m ⟨g.w, g.th, []⟩ 0 n).w, (actG m ⟨g.w, g.th, []⟩ 0 n).th, g.out ++ (actG m ⟨g.w, g.th, []⟩ 0 n).out.map (inSt st)⟩ := by
  unfold actG
  dsimp only
  cases (g.th n).now with
  | some l =>
    have := actL_zero g st n (g.th n).bg l [] g.out
    simpa using this
  | none =>
    dsimp only
    cases (m.ts[n]?.getD [])[(g.th n).bg]? with
    | none => simp
    | some c =>
      have := actL_zero g st n ((g.th n).bg + 1) (live (m.cs[c.k.toNat]?.getD []) c.ar) [⟨0, n, (g.th n).bg, false, 0, []⟩] g.out
      simpa [inSt] using this
/-- What a thread does, of itself: its state, the words, the events. -/
def actT (m : Mc) (n : Nat) (t : Td) (w : List Int) : Gs := actG m ⟨w, fun _ => t, []⟩ 0 n
theorem actL_T (th : Nat → Td) (w : List Int) (n bg : Nat) (l : Lv) (o : List Ev) (t : Td) : (actL ⟨w, th, []⟩ 0 n bg l o) = ⟨(actL ⟨w, fun _ => t, []⟩ 0 n bg l o).w, putT th n ((actL ⟨w, fun _ => t, []⟩ 0 n bg l o).th n), (actL ⟨w, fun _ => t, []⟩ 0 n bg l o).out⟩ := by
  unfold actL
  dsimp only
  by_cases h : (exc l w).2.2.2 = true
  · rw [if_pos h, if_pos h]; simp [putT]
  · rw [if_neg h, if_neg h]; simp [putT]
theorem putT_self (th : Nat → Td) (n : Nat) : putT th n (th n) = th := by
  funext i
  unfold putT
  by_cases h : i = n
  · rw [if_pos h, h]
  · rw [if_neg h]
theorem actG_T (m : Mc) (th : Nat → Td) (w : List Int) (n : Nat) : actG m ⟨w, th, []⟩ 0 n = ⟨(actT m n (th n) w).w, putT th n ((actT m n (th n) w).th n), (actT m n (th n) w).out⟩ := by
  unfold actT actG
  dsimp only
  cases h : (th n).now with
  | some l => exact actL_T th w n (th n).bg l [] (th n)
  | none =>
    dsimp only
    cases (m.ts[n]?.getD [])[(th n).bg]? with
    | none => simp [putT_self]
    | some c => exact actL_T th w n _ _ _ (th n)
/-- A step of the run, by what the thread does of itself. -/
theorem actG_by (m : Mc) (g : Gs) (st n : Nat) {t' : Td} {W : List Int} {es : List Ev} (h : actT m n (g.th n) g.w = ⟨W, fun i => if i = n then t' else g.th n, es⟩) : actG m g st n = ⟨W, putT g.th n t', g.out ++ es.map (inSt st)⟩ := by
  rw [actG_zero, actG_T, h]; simp
/-- No more calls. -/
theorem actT_idle {m : Mc} {n : Nat} {t : Td} {w : List Int} (h1 : t.now = none) (h2 : (m.ts[n]?.getD [])[t.bg]? = none) : actT m n t w = ⟨w, fun _ => t, []⟩ := by
  unfold actT actG
  dsimp only
  rw [h1]
  dsimp only
  rw [h2]
theorem actT_live {m : Mc} {n : Nat} {t : Td} {l : Lv} {w : List Int} (h1 : t.now = some l) : actT m n t w = actL ⟨w, fun _ => t, []⟩ 0 n t.bg l [] := by
  unfold actT actG
  dsimp only
  rw [h1]
theorem actT_call {m : Mc} {n : Nat} {t : Td} {c : Cl} {w : List Int} (h1 : t.now = none) (h2 : (m.ts[n]?.getD [])[t.bg]? = some c) : actT m n t w = actL ⟨w, fun _ => t, []⟩ 0 n (t.bg + 1) (live (m.cs[c.k.toNat]?.getD []) c.ar) [⟨0, n, t.bg, false, 0, []⟩] := by
  unfold actT actG
  dsimp only
  rw [h1]
  dsimp only
  rw [h2]
  rfl
theorem actL_end {g : Gs} {n bg : Nat} {l l' : Lv} {w' : List Int} {E : Int} {o : List Ev} (h : exc l g.w = (l', w', E, true)) : actL g 0 n bg l o = ⟨w', putT g.th n ⟨none, bg⟩, o ++ [⟨0, n, bg - 1, true, E, l'.t⟩]⟩ := by
  unfold actL; rw [h]; rfl
theorem actL_on {g : Gs} {n bg : Nat} {l l' : Lv} {w' : List Int} {E : Int} {o : List Ev} (h : exc l g.w = (l', w', E, false)) : actL g 0 n bg l o = ⟨w', putT g.th n ⟨some l', bg⟩, o⟩ := by
  unfold actL; rw [h]; rfl
end Go.Baro
