/- Of this claim's own texts these, one behind the other: CellAlg7, HistPure2, LinSpec, CellAlg9, LinPure3. No statement of the seat is proved here; no condition but those that stand at the theorems. -/
import Derived.Test.YtjihopbapnfppabGreatDoorPartAL
import Derived.Test.YtjihopbapnfppabGreatDoorPartAM
import Derived.Test.YtjihopbapnfppabGreatDoorPartAG
import Derived.Test.YtjihopbapnfppabGreatDoorPartAE
set_option linter.unusedSimpArgs false
set_option linter.unusedVariables false
namespace Go.Baro.Cel
/-- The words and codes of cell. -/
def cc : Cc := ⟨wsC, putC, getC⟩
theorem rd_zero (d n : Nat) : rd (wsC d) n = 0 := by
  unfold rd wsC
  rw [List.getElem?_replicate]
  split <;> rfl
theorem j_zero {m : Mc} {d : Nat} {val : Nat → Nat → Int} (hm : Mok m d val) : ∃ h, J m d val [] 0 (g0 m) h := by
  refine ⟨⟨0, 0, 0, fun _ => 0, 5, 4, fun _ => 0, fun _ => 0, fun _ => 0, fun _ => 0, fun _ _ => 0⟩, ?_, ?_, .inl ⟨rfl, rfl, rfl, rfl⟩, fun t h1 h3 => .inl ⟨rfl, rfl, fun s => by dsimp only; omega⟩, cnt_zero m _ _, hs_zero m, ?_, fun x hx => by simp [g0] at hx⟩
  · simp only [g0, hm.ws]
    refine ⟨by simp [wsC], by dsimp only; omega, by rw [rd_zero]; simp [ad], rfl, by dsimp only; omega, fun j hj ht k hk => by rw [rd_zero]; exact (hm.v0 k hk).symm, fun h => by dsimp only at h; omega, fun s _ => .inl (rd_zero _ _), rd_zero _ _⟩
  · simp only [g0, hm.ws]
    refine ⟨fun s _ => by rw [rd_zero]; exact ⟨fun _ => rfl, fun _ => rfl⟩, fun _ => by dsimp only; omega, fun _ _ h => absurd rfl h, by dsimp only; omega, by dsimp only; omega, by dsimp only; omega, fun _ => Nat.le_refl _, fun _ _ => rfl⟩
  · refine ⟨?_, ?_, ?_, ?_, ?_, ?_, ?_⟩ <;> simp [g0, dgs]
theorem j_run {m : Mc} {d : Nat} {val : Nat → Nat → Int} (h1 : 1 ≤ d) (h6 : d ≤ 6) (hm : Mok m d val) (S : List Nat) (hS : ∀ n ∈ S, n < 4) : ∃ h, J m d val S S.length (plyG m 0 S (g0 m)) h := by
  refine plyG_indS (I := fun S g => ∃ h, J m d val S S.length g h) (A := fun n => n < 4) (j_zero hm) (fun S g n hn ⟨h, H⟩ => ?_) S hS
  rw [actG_eq]
  obtain ⟨h', H'⟩ := j_begin hm hn H
  obtain ⟨h2, H2⟩ := j_exec h1 h6 hn H'
  refine ⟨h2, ?_⟩
  rw [List.length_append, List.length_singleton]
  exact H2
theorem PA.bV {d : Nat} {val : Nat → Nat → Int} {w : List Int} {g : Gh} {b k p : Nat} {r : Int → Int} (h : PA d val w g b k p r) : g.V ≤ b := by
  cases h <;> first | (have := ‹PR d val g b r›.b; omega) | omega
theorem J.Vbg {m : Mc} {d : Nat} {val : Nat → Nat → Int} {S : List Nat} {sb : Nat} {g : Gs} {h : Gh} (H : J m d val S sb g h) : h.V ≤ (g.th 0).bg := by
  rcases H.t0 with ⟨_, _, _, q⟩ | ⟨p, r, _, _, q⟩
  · omega
  · exact q.bV
/-- No call takes more steps. -/
theorem J.few {m : Mc} {d : Nat} {val : Nat → Nat → Int} {S : List Nat} {g : Gs} {h : Gh} (h6 : d ≤ 6) (H : J m d val S S.length g h) {x : Dg} (hx : x ∈ dgs g.out) : (x.e = -1 → (S.drop x.b).count x.th ≤ if x.th = 0 then 51 else 36) ∧ (x.e ≠ -1 → ((S.take (x.e + 1).toNat).drop x.b).count x.th ≤ if x.th = 0 then 51 else 36) := by
  obtain ⟨c1, c2, c3⟩ := H.cnt x hx
  have h4 := H.hist.th x hx
  refine ⟨fun he => ?_, fun he => ?_⟩
  · rw [c2 he]
    have hn := ((H.hs.opn x hx).1 he).1
    by_cases h0 : x.th = 0
    · rw [if_pos h0, h0]
      rw [h0] at hn
      rcases H.t0 with ⟨q, _⟩ | ⟨p, r, _, _, q⟩
      · exact absurd q hn
      · have := q.steps; omega
    · rw [if_neg h0]
      rcases H.tr x.th (by omega) (by omega) with ⟨q, _⟩ | ⟨p, r, l, _, _, q⟩
      · exact absurd q hn
      · have := q.steps; omega
  · have := (c3 he).2
    dsimp only at this
    split at this <;> (split <;> omega)
/-- The record of a Put of the statements. -/
def valR (p k : Nat) : Int := if p = 0 then 0 else ((10 * p + k : Nat) : Int)
theorem rcd_recd (d p : Nat) : rcd valR d p = recd d p := rfl
theorem mok_cell (d puts gets : Nat) : Mok (mCell cc d puts gets) d valR := by
  refine ⟨rfl, rfl, fun i c hc => ?_, fun t h1 h4 i c hc => ?_, fun q _ => rfl⟩
  · have h0 : (mCell cc d puts gets).ts[0]?.getD [] = putJ d puts := by simp [mCell]
    rw [h0] at hc
    have hi := (List.getElem?_eq_some_iff.1 hc).1
    rw [putJ_len] at hi
    have : c = ⟨0, putA d i⟩ := by
      have : (putJ d puts)[i]? = some ⟨0, putA d i⟩ := by simp [putJ, hi]
      rw [this] at hc
      injection hc with hc
      exact hc.symm
    subst this
    refine ⟨rfl, by simp [putA], fun q hq => ?_⟩
    simp [putA, hq, valR]
  · have h0 : (mCell cc d puts gets).ts[t]?.getD [] = getJ gets := by
      simp [mCell, h4]
      omega
    rw [h0] at hc
    have := List.eq_of_mem_replicate (List.mem_of_getElem? hc)
    subst this
    exact ⟨rfl, rfl⟩
theorem cell_whole : CellWhole cc := by
  intro d S h1 h6 hl hS
  obtain ⟨h, H⟩ := j_run h1 h6 (mok_cell d 12 8) S hS
  have hbg := bg_le (mCell cc d 12 8) S 0
  generalize plyG (mCell cc d 12 8) 0 S (g0 (mCell cc d 12 8)) = g at H hbg
  have hV : h.V ≤ 12 := by
    have h0 : (mCell cc d 12 8).ts[0]?.getD [] = putJ d 12 := by simp [mCell]
    rw [h0, putJ_len] at hbg
    have := H.Vbg; omega
  refine ⟨H.err, fun i => match (dgs g.out)[i]? with | none => 0 | some x => if x.th ≠ 0 ∧ x.e ≠ -1 then h.tl x.th x.cl else 0, ?_⟩
  have hI := H.hist
  have hmem : ∀ {i : Nat} {x : Dg}, (dgs g.out)[i]? = some x → x ∈ dgs g.out := fun hx => List.mem_of_getElem? hx
  refine ⟨fun i x hx hh => ?_, fun i x hx => ?_, fun i x hx q1 q2 => ?_, fun i x hx q1 q2 hn => ?_, fun i x hx q1 q2 k y hy y1 y2 => ?_, fun i x hx q1 q2 k y hy y1 y2 y3 => ?_, fun i x hx q1 q2 k y hy y1 y2 y3 => ?_⟩
  · simp only [hx]
    rw [if_neg]
    rintro ⟨a, b⟩
    rcases hh with hh | hh
    · exact a hh
    · exact b hh
  · simp only [hx]
    split
    · rename_i hh
      exact Nat.le_trans (hI.gV x (hmem hx) hh.1 hh.2) hV
    · omega
  · simp only [hx]
    rw [if_pos ⟨q1, q2⟩]
    exact hI.told x (hmem hx) q1 q2
  · simp only [hx] at hn ⊢
    rw [if_pos ⟨q1, q2⟩] at hn ⊢
    have h2 := hI.gV x (hmem hx) q1 q2
    have h3 := H.Vbg
    obtain ⟨y, hy, e1, e2⟩ := H.hs.all 0 (h.tl x.th x.cl - 1) (by omega)
    obtain ⟨k, hk⟩ := List.mem_iff_getElem?.1 hy
    exact ⟨k, y, hk, e1, by omega⟩
  · simp only [hx] at y2
    rw [if_pos ⟨q1, q2⟩] at y2
    exact hI.early x (hmem hx) q1 q2 y (hmem hy) y1 y2
  · simp only [hx]
    rw [if_pos ⟨q1, q2⟩]
    exact (hI.ord x (hmem hx) q1 q2 y (hmem hy) y2 y3).1 y1
  · simp only [hx, hy]
    rw [if_pos ⟨y1, y2⟩, if_pos ⟨q1, q2⟩]
    exact (hI.ord x (hmem hx) q1 q2 y (hmem hy) y2 y3).2 y1
theorem count_nat {l : List Int} (h : ∀ x ∈ l, 0 ≤ x) (n : Nat) : l.count (n : Int) = (l.map Int.toNat).count n := by
  induction l with
  | nil => rfl
  | cons a l ih =>
    have ha := h a (by simp)
    rw [List.map_cons, List.count_cons, List.count_cons, ih (fun x hx => h x (by simp [hx]))]
    congr 1
    by_cases he : a = n
    · subst he; simp
    · have : ¬ a.toNat = n := by omega
      simp [he, this]
theorem cell_ends : CellEnds cc := by
  intro d S h1 h6 hl hS
  have hT4 : ∀ x ∈ endS S, 0 ≤ x ∧ x < 4 := by
    intro x hx
    unfold endS at hx
    rcases List.mem_append.1 hx with hx | hx
    · rcases List.mem_append.1 hx with hx | hx
      · exact hS x hx
      · rw [List.eq_of_mem_replicate hx]; omega
    · rw [List.eq_of_mem_replicate hx]; omega
  have hN4 : ∀ n ∈ (endS S).map Int.toNat, n < 4 := by
    intro n hn
    obtain ⟨x, hx, rfl⟩ := List.mem_map.1 hn
    have := hT4 x hx; omega
  obtain ⟨A, hA, hAl⟩ : ∃ A : List Nat, (endS S).map Int.toNat = A ++ List.replicate 80 1 ∧ A.length = S.length + 80 := ⟨(S ++ List.replicate 80 0).map Int.toNat, by simp [endS], by simp⟩
  have hTl : (endS S).length = ((endS S).map Int.toNat).length := by simp
  obtain ⟨h, H⟩ := j_run h1 h6 (mok_cell d 12 8) _ hN4
  have hA4 : ∀ n ∈ A, n < 4 := fun n hn => hN4 n (by rw [hA]; simp [hn])
  obtain ⟨hA', HA⟩ := j_run h1 h6 (mok_cell d 12 8) A hA4
  have hlt := fun (x : Dg) hx => @ply_later (mCell cc d 12 8) A (List.replicate 80 1) x hx
  rw [← hA] at hlt
  have hop : ∀ x ∈ dgs (plyG (mCell cc d 12 8) 0 ((endS S).map Int.toNat) (g0 (mCell cc d 12 8))).out, x.th = 1 → x.e = -1 → S.length + 80 < x.b := by
    intro x hx hx1 hxe
    rcases Nat.lt_or_ge (S.length + 80) x.b with hlt | hge
    · exact hlt
    · exfalso
      have := (H.few h6 hx).1 hxe
      rw [hx1, if_neg (by omega), hA, List.drop_append_of_le_length (by omega), List.count_append] at this
      simp at this
  refine ⟨H.err, ⟨fun x hx hx0 => ?_, fun _ => ⟨hop, ?_⟩⟩⟩
  · have hf := H.few h6 hx
    rw [hx0, if_pos rfl] at hf
    obtain ⟨c1, c2, c3⟩ := H.cnt x hx
    unfold spn
    rw [hx0, count_nat (fun y hy => (hT4 y (List.mem_of_mem_take (List.mem_of_mem_drop hy))).1), List.map_drop, List.map_take]
    unfold spHi
    by_cases he : x.e = -1
    · rw [if_pos he, hTl, List.take_length]
      have := hf.1 he; omega
    · rw [if_neg he, Nat.min_eq_right (by have := (c3 he).1; rw [hTl]; omega)]
      have := hf.2 he; omega
  · -- what thread 1 does at the first of the last eighty steps
    have hst : ∃ gA, gA = plyG (mCell cc d 12 8) 0 A (g0 (mCell cc d 12 8)) := ⟨_, rfl⟩
    obtain ⟨gA, hgA⟩ := hst
    rw [← hgA] at HA hlt
    have h8 : (mCell cc d 12 8).ts[1]?.getD [] = getJ 8 := by simp [mCell]
    rcases bgG_cases (mCell cc d 12 8) gA A.length 1 with ⟨_, hb | ⟨hb1, hb2⟩⟩ | ⟨c, hb1, hb2, hb3⟩
    · obtain ⟨x, hx, x1, x2, x3, x4⟩ := HA.hs.live hb
      obtain ⟨x', hx', y1, y2, y3, y4, y5⟩ := hlt x hx
      refine .inl ⟨x', hx', by rw [y1, x1], ?_⟩
      rcases y5 x3 with y5 | y5
      · have := hop x' hx' (by rw [y1, x1]) y5
        have := (HA.hs.bnd x hx).1
        omega
      · omega
    · rw [h8, getJ_len] at hb2
      obtain ⟨x, hx, x1, x2⟩ := HA.hs.all 1 7 (by omega)
      have hxe : x.e ≠ -1 := fun he => by
        have := ((HA.hs.opn x hx).1 he).1
        rw [x1] at this; exact this hb1
      obtain ⟨x', hx', y1, y2, y3, y4, y5⟩ := hlt x hx
      obtain rfl := y4 hxe
      refine .inr ⟨x', hx', x1, x2, hxe, ?_⟩
      have := ((HA.hs.bnd x' hx).2 hxe).2
      omega
    · -- a call begins at this step
      have hA1 : ∃ x ∈ dgs (plyG (mCell cc d 12 8) 0 (A ++ [1]) (g0 (mCell cc d 12 8))).out, x.th = 1 ∧ x.b = A.length ∧ (x.e = -1 ∨ x.e = A.length) := by
        rw [ply_snoc, ← hgA, actG_eq, hb3]
        obtain ⟨es, q1, q2⟩ : ∃ es, (exG ⟨gA.w, putT gA.th 1 ⟨some (live ((mCell cc d 12 8).cs[c.k.toNat]?.getD []) c.ar), (gA.th 1).bg + 1⟩, gA.out ++ [⟨A.length, 1, (gA.th 1).bg, false, 0, []⟩]⟩ A.length 1).out = (gA.out ++ [⟨A.length, 1, (gA.th 1).bg, false, 0, []⟩]) ++ es ∧ ∀ e ∈ es, e.st = A.length := by
          unfold exG
          dsimp only
          rw [putT_same]
          exact actL_out _ _ _ _ _ _
        rw [q1]
        have : dgs ((gA.out ++ [⟨A.length, 1, (gA.th 1).bg, false, 0, []⟩]) ++ es) = es.foldl dg1 (dgs gA.out ++ [⟨A.length, -1, 1, (gA.th 1).bg, []⟩]) := by
          rw [← dgs_begin]; simp [dgs, List.foldl_append]
        rw [this]
        have hup : ∀ (es : List Ev) (l : List Dg) (d : Dg), (∀ e ∈ es, e.st = A.length) → d ∈ l → (d.e = -1 ∨ d.e = A.length) → ∃ d' ∈ es.foldl dg1 l, d'.th = d.th ∧ d'.b = d.b ∧ (d'.e = -1 ∨ d'.e = A.length) := by
          intro es
          induction es with
          | nil => intro l d _ hd he; exact ⟨d, hd, rfl, rfl, he⟩
          | cons x es ih =>
            intro l d hes hd he
            rw [List.foldl_cons]
            by_cases hen : x.en = true
            · rw [dg1_end _ _ hen]
              have hfe : (d.fin x).e = -1 ∨ (d.fin x).e = A.length := by
                unfold Dg.fin
                split
                · exact .inr (by dsimp only; rw [hes x (by simp)])
                · exact he
              obtain ⟨d', k1, k2, k3, k4⟩ := ih (l.map (fun d => d.fin x)) (d.fin x) (fun e he => hes e (by simp [he])) (List.mem_map.2 ⟨d, hd, rfl⟩) hfe
              refine ⟨d', k1, ?_, ?_, k4⟩
              · rw [k2]; unfold Dg.fin; split <;> rfl
              · rw [k3]; unfold Dg.fin; split <;> rfl
            · rw [dg1_begin _ _ (by simpa using hen)]
              exact ih _ d (fun e he => hes e (List.mem_cons_of_mem _ he)) (List.mem_append_left _ hd) he
        obtain ⟨d', k1, k2, k3, k4⟩ := hup es (dgs gA.out ++ [⟨A.length, -1, 1, (gA.th 1).bg, []⟩]) ⟨A.length, -1, 1, (gA.th 1).bg, []⟩ q2 (by simp) (.inl rfl)
        exact ⟨d', k1, k2, k3, k4⟩
      obtain ⟨x, hx, x1, x2, x3⟩ := hA1
      have hlt2 := ply_later (mCell cc d 12 8) (A ++ [1]) (List.replicate 79 1) hx
      rw [List.append_assoc, show [1] ++ List.replicate 79 1 = List.replicate 80 1 from rfl, ← hA] at hlt2
      obtain ⟨x', hx', y1, y2, y3, y4, y5⟩ := hlt2
      refine .inl ⟨x', hx', by rw [y1, x1], ?_⟩
      rcases x3 with x3 | x3
      · rcases y5 x3 with y5 | y5
        · have := hop x' hx' (by rw [y1, x1]) y5
          omega
        · simp at y5; omega
      · rw [y4 (by omega)]; omega
end Go.Baro.Cel

set_option linter.unusedSimpArgs false
set_option linter.unusedVariables false
namespace Go.Baro

theorem out_rng (m : Mc) (A : Nat → Prop) (S : List Nat) (hS : ∀ n ∈ S, A n) : ∀ x ∈ (plyG m 0 S (g0 m)).out, A x.th ∧ x.cl < ((plyG m 0 S (g0 m)).th x.th).bg := by
  refine (plyG_indS (I := fun S g => Hs S.length S.length g ∧ ∀ x ∈ g.out, A x.th ∧ x.cl < (g.th x.th).bg) (A := A) ⟨hs_zero m, fun x hx => by simp [g0] at hx⟩ (fun S g n hn ⟨hs, h⟩ => ⟨by rw [List.length_append, List.length_singleton]; exact hs_act hs, ?_⟩) S hS).2
  rw [actG_eq]
  have hsm := hs_begin (m := m) (n := n) hs
  have hm : ∀ x ∈ (bgG m g S.length n).out, A x.th ∧ x.cl < ((bgG m g S.length n).th x.th).bg := by
    rcases bgG_cases m g S.length n with ⟨h1, _⟩ | ⟨c, h1, h2, h3⟩
    · rw [h1]; exact h
    · rw [h3]
      intro x hx
      dsimp only at hx ⊢
      rcases List.mem_append.1 hx with hx | hx
      · obtain ⟨k1, k2⟩ := h x hx
        refine ⟨k1, ?_⟩
        by_cases ht : x.th = n
        · rw [ht, putT_same]; rw [ht] at k2; dsimp only; omega
        · rw [putT_other _ _ ht]; exact k2
      · rw [List.mem_singleton.1 hx]
        refine ⟨hn, ?_⟩
        dsimp only
        rw [putT_same]
        dsimp only
        omega
  generalize bgG m g S.length n = gm at hm hsm
  intro x hx
  rw [exG_bg]
  cases hl : (gm.th n).now with
  | none => rw [exG_none hl] at hx; exact hm x hx
  | some l =>
    by_cases he : (exc l gm.w).2.2.2 = true
    · rw [exG_end hl he] at hx
      rcases List.mem_append.1 hx with hx | hx
      · exact hm x hx
      · rw [List.mem_singleton.1 hx]
        dsimp only
        have := hsm.ps n (by rw [hl]; simp)
        exact ⟨hn, by omega⟩
    · rw [exG_go hl (by simpa using he)] at hx; exact hm x hx
def dKey (d : Dg) : Nat × Nat := (d.th, d.cl)
/-- The calls that a part of the events tells of are those that began in it. -/
theorem dgs_keys (es : List Ev) : (dgs es).map dKey = (es.filter fun x => !x.en).map fun x => (x.th, x.cl) := by
  suffices h : ∀ (es : List Ev) (l : List Dg), (es.foldl dg1 l).map dKey = l.map dKey ++ (es.filter fun x => !x.en).map fun x => (x.th, x.cl) by simpa [dgs] using h es []
  intro es
  induction es with
  | nil => intro l; simp
  | cons x es ih =>
    intro l
    rw [List.foldl_cons, ih]
    by_cases he : x.en = true
    · rw [dg1_end _ _ he]
      have : (l.map fun d => d.fin x).map dKey = l.map dKey := by
        rw [List.map_map]
        apply List.map_congr_left
        intro d _
        simp only [Function.comp, Dg.fin, dKey]
        split <;> rfl
      rw [this]
      simp [he]
    · have he' : x.en = false := by simpa using he
      rw [dg1_begin _ _ he']
      simp [he', dKey]
theorem dgs_from {es : List Ev} {d : Dg} (h : d ∈ dgs es) : ∃ x ∈ es, x.th = d.th ∧ x.cl = d.cl := by
  have : dKey d ∈ (dgs es).map dKey := List.mem_map.2 ⟨d, h, rfl⟩
  rw [dgs_keys] at this
  obtain ⟨x, hx, he⟩ := List.mem_map.1 this
  simp only [dKey, Prod.mk.injEq] at he
  exact ⟨x, (List.mem_filter.1 hx).1, he.1, he.2⟩
theorem keys_once {sb se : Nat} {g : Gs} (h : Hs sb se g) : ((dgs g.out).map dKey).Nodup := by
  unfold List.Nodup
  rw [List.pairwise_map]
  refine (List.Pairwise.and_mem.1 h.srt).imp fun {a b} hab he => ?_
  simp only [dKey, Prod.mk.injEq] at he
  have := h.one a hab.1 b hab.2.1 he.1 he.2
  have h2 := hab.2.2
  rw [this] at h2
  omega
/-- In each part of the events a call is told of once. -/
theorem part_once {sb se : Nat} {g : Gs} (h : Hs sb se g) (j : Nat) : ((dgs (g.out.take j)).map dKey).Nodup := by
  have h1 := keys_once h
  rw [dgs_keys] at h1 ⊢
  have : g.out = g.out.take j ++ g.out.drop j := (List.take_append_drop j g.out).symm
  rw [this, List.filter_append, List.map_append] at h1
  exact (List.nodup_append.1 h1).1
theorem nodup_one {l : List Dg} (h : (l.map dKey).Nodup) {a b : Dg} (ha : a ∈ l) (hb : b ∈ l) (he : dKey a = dKey b) : a = b := by
  obtain ⟨i, hi⟩ := List.mem_iff_getElem?.1 ha
  obtain ⟨j, hj⟩ := List.mem_iff_getElem?.1 hb
  have hil := (List.getElem?_eq_some_iff.1 hi).1
  have hij : i = j := by
    have h1 : (l.map dKey)[i]? = some (dKey a) := by rw [List.getElem?_map, hi]; rfl
    have h2 : (l.map dKey)[j]? = some (dKey a) := by rw [List.getElem?_map, hj, he]; rfl
    exact (List.getElem?_inj (by simpa using hil) h).1 (h1.trans h2.symm)
  subst hij
  rw [hi] at hj
  injection hj
theorem hist_ok {m : Mc} {S : List Nat} {pf : Cl → List Int → Bool → Bool × Int × Bool} {G : Cl → Prop} (hS : ∀ n ∈ S, n < m.ts.length) (hn : noErr (plyG m 0 S (g0 m)))
    (h1 : ∀ d ∈ dgs (plyG m 0 S (g0 m)).out, d.e ≠ -1 → (pf (clOf m d.th d.cl) d.to true).2.2 = true) (h2 : ∀ d ∈ dgs (plyG m 0 S (g0 m)).out, d.e = -1 → (pf (clOf m d.th d.cl) [] false).2.2 = true) (hg : ∀ t ∈ m.ts, ∀ c ∈ t, G c) : HistOk m pf G (plyG m 0 S (g0 m)).out := by
  have hr := out_rng m (fun n => n < m.ts.length) S hS
  have hbg := bg_le m S
  have hrn := rn_ply S hn
  have hs := hs_ply m S
  generalize plyG m 0 S (g0 m) = g at *
  have hrng : ∀ x ∈ g.out, x.th < m.ts.length ∧ x.cl < (m.ts[x.th]?.getD []).length := fun x hx => ⟨(hr x hx).1, Nat.lt_of_lt_of_le (hr x hx).2 (hbg x.th)⟩
  refine ⟨hrng, fun j d hd => ?_, fun j x hx he d hd ht hc => ?_, fun x hx he => ?_, h2, hg⟩
  · obtain ⟨x, hx, e1, e2⟩ := dgs_from hd
    have := hrng x (List.mem_of_mem_take hx)
    rw [e1, e2] at this
    exact this
  · obtain ⟨_, d', hd', k1, k2, k3⟩ := hrn j x hx he
    have := nodup_one (part_once hs j) hd hd' (by simp [dKey, ht, hc, k1, k2])
    rw [this]; exact k3
  · obtain ⟨j, hj⟩ := List.mem_iff_getElem?.1 hx
    obtain ⟨_, d', hd', k1, k2, k3⟩ := hrn j x hj he
    have hjl := (List.getElem?_eq_some_iff.1 hj).1
    have hmem : (⟨d'.b, x.st, d'.th, d'.cl, x.to⟩ : Dg) ∈ dgs (g.out.take (j + 1)) := by
      have : g.out.take (j + 1) = g.out.take j ++ [x] := by rw [List.take_add_one, hj]; rfl
      rw [this, dgs_snoc, dg1_end _ _ he]
      refine List.mem_map.2 ⟨d', hd', ?_⟩
      unfold Dg.fin
      rw [if_pos ⟨k1, k2, k3⟩]
    have hlate : dgs g.out = (g.out.drop (j + 1)).foldl dg1 (dgs (g.out.take (j + 1))) := by
      unfold dgs
      rw [← List.foldl_append, List.take_append_drop]
    obtain ⟨d2, hd2, q1, q2, q3, q4, q5⟩ := dgs_later (es := g.out.drop (j + 1)) (st := 0) (fun _ _ => Nat.zero_le _) _ _ hmem
    rw [← hlate] at hd2
    have e := q4 (by dsimp only; omega)
    rw [e] at hd2
    have := h1 _ hd2 (by dsimp only; omega)
    dsimp only at this
    rw [k1, k2] at this
    exact this
end Go.Baro

set_option linter.unusedSimpArgs false
set_option linter.unusedVariables false
namespace Go.Baro
/-- A valid operation of an object of kind k. -/
def okA (k : Int) (a : Ac) : Prop := (0 ≤ a.b ∧ a.b ≤ 1048576) ∧ a.e ≤ 1048576 ∧ (a.b ≤ a.e ∨ a.e = -1) ∧ (a.add = 0 ∨ (k = 2 ∧ a.put = true)) ∧ (k < 3 ∨ (-1 ≤ a.v ∧ (a.v = -1 → a.put = false)))
/-- A valid history. -/
def okL (k : Int) (l : List Ac) : Prop := (1 ≤ k ∧ k ≤ 4) ∧ l.length ≤ 9 ∧ ∀ a ∈ l, okA k a
/-- What an object has at first. -/
def has0 (k first : Int) : List Int := if k < 3 then [first] else []
/-- What lin.Check answers. -/
def LcR (k first : Int) (l : List Ac) (r : Bool) (E : Int) : Prop := (¬ okL k l ∧ r = false ∧ E = 4) ∨ (okL k l ∧ (r = true ↔ Lin k (has0 k first) l) ∧ E = 0)
theorem lcR_some (k first : Int) (l : List Ac) : ∃ r E, LcR k first l r E := by
  by_cases h : okL k l
  · exact ⟨@decide (Lin k (has0 k first) l) (Classical.propDecidable _), 0, .inr ⟨h, by simp, rfl⟩⟩
  · exact ⟨false, 4, .inl ⟨h, rfl, rfl⟩⟩
end Go.Baro
namespace Go.Proofs.YtjihopbapnfppabGreatDoor
open Go.RowKit Go.Ord Go.Baro
/-- lin.May, of a history in memory. -/
def LinMaySpec : Prop := ∀ (w : World) (A : Option Addr) (n c : Nat) (l : List Ac) (k : Int) (r : Bool) (h : RA w w.heap.size A n l) (hn : n ≤ 9223372036854775807) (hlc : n ≤ c) (hi : ∀ a ∈ l, inA a) (hr : r = true ↔ okL k l),
    Calls Tryz.prog 27 #[.int .i64 k, .slice A n c] w fun e w' => e = .returned (.bool r) ∧ Below w.heap.size w w'
/-- lin.Check, of a history in memory. -/
def LinCheckSpec : Prop := ∀ (w : World) (A : Option Addr) (n c : Nat) (l : List Ac) (k first : Int) (r : Bool) (E : Int) (h : RA w w.heap.size A n l) (hn : n ≤ 9223372036854775807) (hlc : n ≤ c) (hi : ∀ a ∈ l, inA a) (hf : inW first) (hr : LcR k first l r E),
    Calls Tryz.prog 11 #[.int .i64 k, .int .i64 first, .slice A n c] w fun e w' => e = .returned (.tuple #[.bool r, .int .i64 E]) ∧ Below w.heap.size w w'
end Go.Proofs.YtjihopbapnfppabGreatDoor

set_option linter.unusedSimpArgs false
set_option linter.unusedVariables false
namespace Go.Baro.Cel
/-- The machine of the statement of the whole. -/
def putT (j : Nat) : List Cl := (List.range j).map fun i => ⟨0, [((i + 5 : Nat) : Int)]⟩
def mTop (c : Cc) (j : Nat) : Mc := ⟨c.ws 1, [c.cp 1, c.cg 1], [putT j, getJ j, getJ j]⟩
def valTop (p _k : Nat) : Int := if p = 0 then 0 else ((p + 4 : Nat) : Int)
/-- How a call is told. -/
def pfC (c : Cl) (told : List Int) (ended : Bool) : Bool × Int × Bool := if c.k = 0 then (true, c.ar.headD 0, true) else if ended = false then (false, 0, true) else if told.length = 1 then (false, told.headD 0, true) else (false, 0, false)
def goodC (c : Cl) : Prop := (c.k = 0 ∧ c.ar.length = 1) ∨ (c.k = 1 ∧ c.ar = [])
theorem putT_len (j : Nat) : (putT j).length = j := by simp [putT]
theorem mok_top (j : Nat) : Mok (mTop cc j) 1 valTop := by
  refine ⟨rfl, rfl, fun i c hc => ?_, fun t h1 h4 i c hc => ?_, fun q _ => rfl⟩
  · have h0 : (mTop cc j).ts[0]?.getD [] = putT j := rfl
    rw [h0] at hc
    have hi := (List.getElem?_eq_some_iff.1 hc).1
    rw [putT_len] at hi
    have : c = ⟨0, [((i + 5 : Nat) : Int)]⟩ := by
      have : (putT j)[i]? = some ⟨0, [((i + 5 : Nat) : Int)]⟩ := by simp [putT, hi]
      rw [this] at hc
      injection hc with hc
      exact hc.symm
    subst this
    refine ⟨rfl, rfl, fun q hq => ?_⟩
    obtain rfl : q = 0 := by omega
    simp [valTop]
    omega
  · have h0 : (mTop cc j).ts[t]?.getD [] = getJ j ∨ (mTop cc j).ts[t]?.getD [] = [] := by
      rcases (by omega : t = 1 ∨ t = 2 ∨ t = 3) with rfl | rfl | rfl
      · exact .inl rfl
      · exact .inl rfl
      · exact .inr rfl
    rcases h0 with h0 | h0 <;> rw [h0] at hc
    · have := List.eq_of_mem_replicate (List.mem_of_getElem? hc)
      subst this
      exact ⟨rfl, rfl⟩
    · simp at hc
/-- The calls that count, and where they come. -/
def key (V : Nat) (tl : Nat → Nat → Nat) (d : Dg) : Nat := if d.th = 0 then 2 * (d.cl + 1) else 2 * tl d.th d.cl + 1
def cnts (V : Nat) (d : Dg) : Bool := (decide (d.th = 0) && decide (d.cl + 1 ≤ V)) || (decide (d.th ≠ 0) && decide (d.e ≠ -1))
/-- Reading behind each other. -/
theorem runs_reg {f : Dg → Ac} {val : Nat → Int} {V : Nat} {tl : Nat → Nat → Nat} : ∀ (L : List Dg) (p : Nat), (∀ d ∈ L, (d.th = 0 → (f d).put = true ∧ (f d).v = val (d.cl + 1)) ∧ (d.th ≠ 0 → (f d).put = false ∧ (f d).v = val (tl d.th d.cl))) →
    L.Pairwise (fun a b => key V tl a ≤ key V tl b) → (∀ d ∈ L, d.th = 0 → p < d.cl + 1) → (∀ d ∈ L, d.th ≠ 0 → p ≤ tl d.th d.cl ∧ tl d.th d.cl ≤ V) → (∀ d ∈ L, d.th = 0 → d.cl + 1 ≤ V) → (∀ q, p < q → q ≤ V → ∃ d ∈ L, d.th = 0 ∧ d.cl + 1 = q) → (L.map dKey).Nodup → runs 1 [val p] (L.map f)
  | [], p, _, _, _, _, _, _, _ => trivial
  | a :: L, p, hf, hs, h1, h2, h3, h4, hn => by
    rw [List.pairwise_cons] at hs
    rw [List.map_cons, List.nodup_cons] at hn
    have hfa := hf a (by simp)
    have hnext : ∀ d, d ∈ a :: L → d.th = 0 → key V tl a ≤ key V tl d := fun d hd _ => by
      rcases List.mem_cons.1 hd with rfl | hd
      · exact Nat.le_refl _
      · exact hs.1 d hd
    by_cases ha : a.th = 0
    · obtain ⟨q1, q2⟩ := hfa.1 ha
      have hp : a.cl + 1 = p + 1 := by
        have := h1 a (by simp) ha
        have hV := h3 a (by simp) ha
        obtain ⟨d, hd, e1, e2⟩ := h4 (p + 1) (by omega) (by omega)
        have := hnext d hd e1
        unfold key at this
        rw [if_pos ha, if_pos e1] at this
        omega
      refine ⟨by rw [show (tel 1 [val p] (f a)).1 = (f a).v by simp [tel, q1]], ?_⟩
      rw [show (tel 1 [val p] (f a)).2 = [val (p + 1)] by simp [tel, q1, q2, hp]]
      refine runs_reg L (p + 1) (fun d hd => hf d (by simp [hd])) hs.2 (fun d hd h0 => ?_) (fun d hd h0 => ?_) (fun d hd h0 => h3 d (by simp [hd]) h0) (fun q hq hV => ?_) hn.2
      · have := h1 d (by simp [hd]) h0
        rcases Nat.lt_or_ge (p + 1) (d.cl + 1) with h | h
        · exact h
        · exact absurd (List.mem_map.2 ⟨d, hd, by simp [dKey, h0, ha]; omega⟩) hn.1
      · have := h2 d (by simp [hd]) h0
        have hk := hs.1 d hd
        unfold key at hk
        rw [if_pos ha, if_neg h0] at hk
        omega
      · obtain ⟨d, hd, e1, e2⟩ := h4 q (by omega) hV
        rcases List.mem_cons.1 hd with rfl | hd
        · omega
        · exact ⟨d, hd, e1, e2⟩
    · obtain ⟨q1, q2⟩ := hfa.2 ha
      have ht := h2 a (by simp) ha
      have hp : tl a.th a.cl = p := by
        rcases Nat.lt_or_ge p (tl a.th a.cl) with h | h
        · obtain ⟨d, hd, e1, e2⟩ := h4 (p + 1) (by omega) (by omega)
          have := hnext d hd e1
          unfold key at this
          rw [if_neg ha, if_pos e1] at this
          omega
        · omega
      refine ⟨by simp [tel, q1, q2, hp], ?_⟩
      rw [show (tel 1 [val p] (f a)).2 = [val p] by simp [tel, q1]]
      refine runs_reg L p (fun d hd => hf d (by simp [hd])) hs.2 (fun d hd h0 => h1 d (by simp [hd]) h0) (fun d hd h0 => h2 d (by simp [hd]) h0) (fun d hd h0 => h3 d (by simp [hd]) h0) (fun q hq hV => ?_) hn.2
      obtain ⟨d, hd, e1, e2⟩ := h4 q hq hV
      rcases List.mem_cons.1 hd with rfl | hd
      · exact absurd e1 ha
      · exact ⟨d, hd, e1, e2⟩
theorem cl_put {th cl : Nat} (h0 : th = 0) (hc : cl < 3) : clOf (mTop cc 3) th cl = ⟨0, [((cl + 5 : Nat) : Int)]⟩ := by
  subst h0
  exact clOf_at (l := putT 3) rfl (by simp [putT, hc])
theorem cl_get {th cl : Nat} (h1 : 1 ≤ th) (h3 : th < 3) (hc : cl < 3) : clOf (mTop cc 3) th cl = ⟨1, []⟩ := by
  have hg : (getJ 3)[cl]? = some ⟨1, []⟩ := by rcases (by omega : cl = 0 ∨ cl = 1 ∨ cl = 2) with rfl | rfl | rfl <;> rfl
  rcases (by omega : th = 1 ∨ th = 2) with rfl | rfl
  · exact clOf_at (l := getJ 3) rfl hg
  · exact clOf_at (l := getJ 3) rfl hg
theorem top_lens (t : Nat) : ((mTop cc 3).ts[t]?.getD []).length = if t < 3 then 3 else 0 := by
  rcases (by omega : t = 0 ∨ t = 1 ∨ t = 2 ∨ 3 ≤ t) with rfl | rfl | rfl | h
  · rfl
  · rfl
  · rfl
  · rw [if_neg (by omega)]
    have : (mTop cc 3).ts[t]? = none := by simp [mTop]; omega
    rw [this]; rfl
/-- Under every schedule the history of the statement of the whole can be put in order. -/
theorem cell_top (S : List Nat) (hl : S.length ≤ 500) (hS : ∀ n ∈ S, n < 3) : noErr (plyG (mTop cc 3) 0 S (g0 (mTop cc 3))) ∧ HistOk (mTop cc 3) pfC goodC (plyG (mTop cc 3) 0 S (g0 (mTop cc 3))).out ∧
    (okL 1 ((dgs (plyG (mTop cc 3) 0 S (g0 (mTop cc 3))).out).map (hA (mTop cc 3) pfC)) ∧ ∀ a ∈ (dgs (plyG (mTop cc 3) 0 S (g0 (mTop cc 3))).out).map (hA (mTop cc 3) pfC), inA a) ∧ Lin 1 [0] ((dgs (plyG (mTop cc 3) 0 S (g0 (mTop cc 3))).out).map (hA (mTop cc 3) pfC)) := by
  obtain ⟨h, H⟩ := j_run (Nat.le_refl 1) (by omega) (mok_top 3) S (fun n hn => by have := hS n hn; omega)
  have hbg := bg_le (mTop cc 3) S
  have hcnt := dgs_count (m := mTop cc 3) (S := S) (fun n hn => by have := hS n hn; omega)
  have hrng := out_rng (mTop cc 3) (fun n => n < 3) S hS
  have hho := hist_ok (m := mTop cc 3) (S := S) (pf := pfC) (G := goodC) hS H.err
  generalize plyG (mTop cc 3) 0 S (g0 (mTop cc 3)) = g at *
  have hlen : ∀ t, (g.th t).bg ≤ if t < 3 then 3 else 0 := fun t => by have := hbg t; rwa [top_lens] at this
  have h3 : ∀ d ∈ dgs g.out, d.th < 3 ∧ d.cl < 3 := fun d hd => by
    obtain ⟨x, hx, e1, e2⟩ := dgs_from hd
    have := hrng x hx
    have h2 := hlen x.th
    rw [if_pos this.1] at h2
    rw [← e1, ← e2]
    exact ⟨this.1, by omega⟩
  have hI := H.hist
  have hput : ∀ d ∈ dgs g.out, d.th = 0 → clOf (mTop cc 3) d.th d.cl = ⟨0, [((d.cl + 5 : Nat) : Int)]⟩ := fun d hd h0 => cl_put h0 (h3 d hd).2
  have hget : ∀ d ∈ dgs g.out, d.th ≠ 0 → clOf (mTop cc 3) d.th d.cl = ⟨1, []⟩ := fun d hd h0 => cl_get (by omega) (h3 d hd).1 (h3 d hd).2
  have htold : ∀ d ∈ dgs g.out, d.th ≠ 0 → d.e ≠ -1 → d.to = [valTop (h.tl d.th d.cl) 0] := fun d hd h0 he => hI.told d hd h0 he
  -- a call as an operation
  have fput : ∀ d ∈ dgs g.out, d.th = 0 → hA (mTop cc 3) pfC d = ⟨d.b, d.e, true, valTop (d.cl + 1) 0, 0⟩ := fun d hd h0 => by
    unfold hA hA1
    rw [hput d hd h0]
    by_cases he : d.e = -1
    · rw [if_pos he, he]; simp [pfC, valTop]; omega
    · rw [if_neg he, if_neg he]; simp [pfC, valTop]; omega
  have fget : ∀ d ∈ dgs g.out, d.th ≠ 0 → d.e ≠ -1 → hA (mTop cc 3) pfC d = ⟨d.b, d.e, false, valTop (h.tl d.th d.cl) 0, 0⟩ := fun d hd h0 he => by
    unfold hA hA1
    rw [hget d hd h0, if_neg he, if_neg he, htold d hd h0 he]
    simp [pfC]
  have fopn : ∀ d ∈ dgs g.out, d.th ≠ 0 → d.e = -1 → hA (mTop cc 3) pfC d = ⟨d.b, -1, false, 0, 0⟩ := fun d hd h0 he => by
    unfold hA
    rw [hget d hd h0, if_pos he]
    simp [pfC]
  have fbe : ∀ d ∈ dgs g.out, (hA (mTop cc 3) pfC d).b = d.b ∧ (hA (mTop cc 3) pfC d).e = d.e ∧ (hA (mTop cc 3) pfC d).add = 0 ∧ 0 ≤ (hA (mTop cc 3) pfC d).v ∧ (hA (mTop cc 3) pfC d).v ≤ 100 := fun d hd => by
    have hv : ∀ p, p ≤ 50 → 0 ≤ valTop p 0 ∧ valTop p 0 ≤ 100 := fun p hp => by unfold valTop; split <;> omega
    have hb0 := hlen 0
    rw [if_pos (by omega)] at hb0
    have hV := H.Vbg
    by_cases h0 : d.th = 0
    · rw [fput d hd h0]; exact ⟨rfl, rfl, rfl, hv (d.cl + 1) (by have := (h3 d hd).2; omega)⟩
    · by_cases he : d.e = -1
      · rw [fopn d hd h0 he]; exact ⟨rfl, he.symm, rfl, by dsimp only; omega, by dsimp only; omega⟩
      · rw [fget d hd h0 he]; exact ⟨rfl, rfl, rfl, hv (h.tl d.th d.cl) (by have := hI.gV d hd h0 he; omega)⟩
  refine ⟨H.err, hho (fun d hd he => ?_) (fun d hd he => ?_) (fun t ht c hc => ?_), ⟨⟨⟨by omega, by omega⟩, ?_, fun a ha => ?_⟩, fun a ha => ?_⟩, ?_⟩
  · by_cases h0 : d.th = 0
    · rw [hput d hd h0]; simp [pfC]
    · rw [hget d hd h0, htold d hd h0 he]; simp [pfC]
  · by_cases h0 : d.th = 0
    · rw [hput d hd h0]; simp [pfC]
    · rw [hget d hd h0]; simp [pfC]
  · simp only [mTop, List.mem_cons, List.not_mem_nil, or_false] at ht
    rcases ht with rfl | rfl | rfl
    · obtain ⟨i, _, rfl⟩ := List.mem_map.1 hc
      exact .inl ⟨rfl, rfl⟩
    · rw [List.eq_of_mem_replicate hc]; exact .inr ⟨rfl, rfl⟩
    · rw [List.eq_of_mem_replicate hc]; exact .inr ⟨rfl, rfl⟩
  · rw [List.length_map, hcnt]
    have b0 := hlen 0; have b1 := hlen 1; have b2 := hlen 2; have b3 := hlen 3
    simp at b0 b1 b2 b3
    omega
  · obtain ⟨d, hd, rfl⟩ := List.mem_map.1 ha
    obtain ⟨e1, e2, e3, e4, e5⟩ := fbe d hd
    obtain ⟨k1, k2⟩ := H.hs.bnd d hd
    refine ⟨by rw [e1]; omega, ?_, ?_, .inl e3, .inl (by omega)⟩
    · rw [e2]
      by_cases he : d.e = -1
      · omega
      · have := k2 he; omega
    · rw [e1, e2]
      by_cases he : d.e = -1
      · exact .inr he
      · exact .inl (k2 he).1
  · obtain ⟨d, hd, rfl⟩ := List.mem_map.1 ha
    obtain ⟨e1, e2, e3, e4, e5⟩ := fbe d hd
    obtain ⟨k1, k2⟩ := H.hs.bnd d hd
    unfold inA inW
    rw [e1, e2, e3]
    refine ⟨by omega, ?_, by omega, by omega⟩
    by_cases he : d.e = -1
    · omega
    · have := k2 he; omega
  · -- the order
    have hord : ∀ a ∈ dgs g.out, ∀ b ∈ dgs g.out, cnts h.V a = true → cnts h.V b = true → b.e ≠ -1 → b.e < a.b → key h.V h.tl b ≤ key h.V h.tl a := by
      intro a ha b hb ca cb hbe hlt
      unfold cnts at ca cb
      simp at ca cb
      unfold key
      by_cases ha0 : a.th = 0
      · rw [if_pos ha0]
        by_cases hb0 : b.th = 0
        · rw [if_pos hb0]
          rcases Nat.lt_trichotomy a.cl b.cl with hc | hc | hc
          · have := H.hs.seq a ha b hb (by omega) hc
            have h1 := (H.hs.bnd b hb).2 hbe
            have h2 := (H.hs.bnd a ha).2 this.1
            omega
          · omega
          · omega
        · rw [if_neg hb0]
          rcases Nat.lt_or_ge a.cl (h.tl b.th b.cl) with hc | hc
          · have hV := hI.gV b hb hb0 hbe
            have hVb := H.Vbg
            obtain ⟨y, hy, y1, y2⟩ := H.hs.all 0 (h.tl b.th b.cl - 1) (by omega)
            have hyb := hI.early b hb hb0 hbe y hy y1 (by omega)
            by_cases hya : y.cl = a.cl
            · have := H.hs.one y hy a ha (by omega) hya
              rw [this] at hyb; omega
            · have hsq := H.hs.seq a ha y hy (by omega) (by omega)
              have h2 := (H.hs.bnd a ha).2 hsq.1
              omega
          · omega
      · rw [if_neg ha0]
        have hae : a.e ≠ -1 := by rcases ca with ca | ca; exact absurd ca.1 ha0; exact ca.2
        have := hI.ord a ha ha0 hae b hb hbe hlt
        by_cases hb0 : b.th = 0
        · rw [if_pos hb0]; have := this.1 hb0; omega
        · rw [if_neg hb0]; have := this.2 hb0; omega
    let K : Dg → Nat := fun d => key h.V h.tl d * 1000 + d.b
    let le : Dg → Dg → Bool := fun a b => decide (K a ≤ K b)
    let L := ((dgs g.out).filter (cnts h.V)).mergeSort le
    have hLp : L.Perm ((dgs g.out).filter (cnts h.V)) := List.mergeSort_perm _ _
    have hLs : L.Pairwise (fun a b => K a ≤ K b) := by
      have := List.pairwise_mergeSort (le := le) (fun a b c h1 h2 => decide_eq_true (Nat.le_trans (of_decide_eq_true h1) (of_decide_eq_true h2))) (fun a b => (Bool.or_eq_true (le a b) (le b a)).mpr ((Nat.le_total (K a) (K b)).imp (fun h => decide_eq_true h) (fun h => decide_eq_true h))) ((dgs g.out).filter (cnts h.V))
      exact this.imp fun h => of_decide_eq_true h
    have hLm : ∀ d ∈ L, d ∈ dgs g.out ∧ cnts h.V d = true := fun d hd => List.mem_filter.1 (hLp.mem_iff.1 hd)
    have hperm : (L.map (hA (mTop cc 3) pfC) ++ ((dgs g.out).filter (fun d => !cnts h.V d)).map (hA (mTop cc 3) pfC)).Perm ((dgs g.out).map (hA (mTop cc 3) pfC)) := by
      rw [← List.map_append]
      exact ((hLp.append_right _).trans (List.filter_append_perm _ _)).map _
    refine (lin_part ?_ (L.map (hA (mTop cc 3) pfC)) [0] ?_ ?_ ?_).perm hperm
    · intro a ha
      obtain ⟨d, hd, rfl⟩ := List.mem_map.1 ha
      obtain ⟨hd, hc⟩ := List.mem_filter.1 hd
      rw [(fbe d hd).2.1]
      simp [cnts] at hc
      by_cases h0 : d.th = 0
      · by_cases he : d.e = -1
        · exact he
        · have := hI.p0 d hd h0 he
          rcases hc.1 with h | h
          · exact absurd h0 h
          · omega
      · rcases hc.2 with h | h
        · exact absurd h h0
        · exact h
    · have hkk : L.Pairwise (fun a b => key h.V h.tl a ≤ key h.V h.tl b) := by
        refine (List.Pairwise.and_mem.1 hLs).imp fun {a b} hab => ?_
        obtain ⟨h1, h2, h5⟩ := hab
        have b1 := (H.hs.bnd a (hLm a h1).1).1
        have b2 := (H.hs.bnd b (hLm b h2).1).1
        dsimp only [K] at h5
        omega
      have hn : (L.map dKey).Nodup := by
        have h1 := keys_once H.hs
        have h2 : ((dgs g.out).filter (cnts h.V)).map dKey |>.Nodup := h1.sublist (List.filter_sublist.map _)
        exact (hLp.map dKey).nodup_iff.2 h2
      refine runs_reg (val := fun p => valTop p 0) (V := h.V) (tl := h.tl) L 0 (fun d hd => ⟨fun h0 => ?_, fun h0 => ?_⟩) hkk (fun d hd h0 => by omega) (fun d hd h0 => ?_) (fun d hd h0 => ?_) (fun q hq hV => ?_) hn
      · rw [fput d (hLm d hd).1 h0]; exact ⟨rfl, rfl⟩
      · have he : d.e ≠ -1 := by have := (hLm d hd).2; simp [cnts] at this; rcases this with h | h; exact absurd h.1 h0; exact h.2
        rw [fget d (hLm d hd).1 h0 he]; exact ⟨rfl, rfl⟩
      · have he : d.e ≠ -1 := by have := (hLm d hd).2; simp [cnts] at this; rcases this with h | h; exact absurd h.1 h0; exact h.2
        exact ⟨Nat.zero_le _, hI.gV d (hLm d hd).1 h0 he⟩
      · have := (hLm d hd).2; simp [cnts] at this; omega
      · have hVb := H.Vbg
        obtain ⟨y, hy, y1, y2⟩ := H.hs.all 0 (q - 1) (by omega)
        refine ⟨y, hLp.mem_iff.2 (List.mem_filter.2 ⟨hy, ?_⟩), y1, by omega⟩
        simp [cnts]; omega
    · rw [List.pairwise_map]
      refine (List.Pairwise.and_mem.1 hLs).imp fun {a b} hab hbe => ?_
      obtain ⟨h1, h2, h5⟩ := hab
      obtain ⟨a1, a2⟩ := hLm a h1
      obtain ⟨b1, b2⟩ := hLm b h2
      rw [(fbe a a1).1, (fbe b b1).2.1]
      rw [(fbe b b1).2.1] at hbe
      rcases Int.lt_or_le b.e a.b with hlt | hge
      · exfalso
        have := hord a a1 b b1 a2 b2 hbe hlt
        have k1 := (H.hs.bnd a a1).1
        have k2 := (H.hs.bnd b b1).2 hbe
        dsimp only [K] at h5
        omega
      · exact hge
    · intro a ha hae
      obtain ⟨d, hd, rfl⟩ := List.mem_map.1 ha
      rw [(fbe d (hLm d hd).1).1, (fbe d (hLm d hd).1).2.1]
      rw [(fbe d (hLm d hd).1).2.1] at hae
      exact ((H.hs.bnd d (hLm d hd).1).2 hae).1
end Go.Baro.Cel

set_option linter.unusedSimpArgs false
set_option linter.unusedVariables false
namespace Go.Baro
open Go.RowKit (wrap64)
/-- What the object has behind these deals. -/
def sqH (k : Int) : List Int → List Dl → List Int
  | has, [] => has
  | has, d :: l => sqH k (tl k has d.put (d.v % 4)).2.2 l
theorem sqH_snoc (k : Int) : ∀ (l : List Dl) (has : List Int) (d : Dl), sqH k has (l ++ [d]) = (tl k (sqH k has l) d.put (d.v % 4)).2.2
  | [], has, d => rfl
  | c :: l, has, d => sqH_snoc k l _ d
theorem sqA_snoc (k : Int) (wide : Bool) : ∀ (l : List Dl) (i : Nat) (has : List Int) (d : Dl), sqA k wide i has (l ++ [d]) = sqA k wide i has l ++ [acT (i + l.length) d wide (tl k (sqH k has l) d.put (d.v % 4)).1 (tl k (sqH k has l) d.put (d.v % 4)).2.1]
  | [], i, has, d => rfl
  | c :: l, i, has, d => by
    show _ :: sqA k wide (i + 1) _ (l ++ [d]) = _
    rw [sqA_snoc k wide l (i + 1) _ d]
    show _ = _ :: (sqA k wide (i + 1) _ l ++ _)
    rw [show i + (c :: l).length = i + 1 + l.length by simp; omega]
    rfl
theorem sqA_len (k : Int) (wide : Bool) : ∀ (l : List Dl) (i : Nat) (has : List Int), (sqA k wide i has l).length = l.length
  | [], _, _ => rfl
  | d :: l, i, has => by show (sqA k wide (i + 1) _ l).length + 1 = _; rw [sqA_len k wide l]; rfl
/-- What the object tells is small. -/
theorem tl_small {k : Int} {has : List Int} {put : Bool} {v : Int} {m : Int} (hv : 0 ≤ v ∧ v ≤ 3) (hm : 4 ≤ m ∧ m ≤ 1000) (h : ∀ x ∈ has, 0 ≤ x ∧ x ≤ m) :
    (-1 ≤ (tl k has put v).1 ∧ (tl k has put v).1 ≤ m) ∧ (0 ≤ (tl k has put v).2.1 ∧ (tl k has put v).2.1 ≤ 3) ∧ (∀ x ∈ (tl k has put v).2.2, 0 ≤ x ∧ x ≤ m + 3) := by
  have hd : 0 ≤ has.headD 0 ∧ has.headD 0 ≤ m := by
    cases has with
    | nil => exact ⟨Int.le_refl _, by simp; omega⟩
    | cons y t => exact h y (by simp)
  have hg : 0 ≤ has.getLastD 0 ∧ has.getLastD 0 ≤ m := by
    cases has with
    | nil => exact ⟨Int.le_refl _, by simp; omega⟩
    | cons y t =>
      rw [List.getLastD_cons]
      rcases t.eq_nil_or_concat with rfl | ⟨s, z, rfl⟩
      · exact h y (by simp)
      · simp; exact h z (by simp)
  have hmore : ∀ x ∈ has, 0 ≤ x ∧ x ≤ m + 3 := fun x hx => by have := h x hx; omega
  have hw : wrap64 (has.headD 0 + v) = has.headD 0 + v := by unfold wrap64; omega
  unfold tl
  split
  · split
    · exact ⟨⟨by dsimp only; omega, by dsimp only; omega⟩, ⟨by dsimp only; omega, by dsimp only; omega⟩, fun x hx => by rw [List.mem_singleton.1 hx]; omega⟩
    · exact ⟨⟨by dsimp only; omega, by dsimp only; omega⟩, ⟨by dsimp only; omega, by dsimp only; omega⟩, hmore⟩
  · split
    · split
      · exact ⟨⟨by dsimp only; omega, by dsimp only; omega⟩, ⟨by dsimp only; omega, by dsimp only; omega⟩, fun x hx => by rw [List.mem_singleton.1 hx, hw]; omega⟩
      · exact ⟨⟨by dsimp only; omega, by dsimp only; omega⟩, ⟨by dsimp only; omega, by dsimp only; omega⟩, hmore⟩
    · split
      · refine ⟨⟨by dsimp only; omega, by dsimp only; omega⟩, ⟨by dsimp only; omega, by dsimp only; omega⟩, fun x hx => ?_⟩
        rcases List.mem_append.1 hx with hx | hx
        · exact hmore x hx
        · rw [List.mem_singleton.1 hx]; omega
      · split
        · exact ⟨⟨by dsimp only; omega, by dsimp only; omega⟩, ⟨by dsimp only; omega, by dsimp only; omega⟩, hmore⟩
        · split
          · exact ⟨⟨by dsimp only; omega, by dsimp only; omega⟩, ⟨by dsimp only; omega, by dsimp only; omega⟩, fun x hx => hmore x (List.mem_of_mem_tail hx)⟩
          · exact ⟨⟨by dsimp only; omega, by dsimp only; omega⟩, ⟨by dsimp only; omega, by dsimp only; omega⟩, fun x hx => hmore x (List.dropLast_subset _ hx)⟩
theorem tl_len (k : Int) (has : List Int) (put : Bool) (v : Int) : (tl k has put v).2.2.length ≤ has.length + 1 ∧ (k < 3 → 1 ≤ k → has.length = 1 → (tl k has put v).2.2.length = 1) := by
  unfold tl
  split
  · split
    · exact ⟨by simp, fun _ _ _ => rfl⟩
    · exact ⟨by simp, fun _ _ h => h⟩
  · split
    · split
      · exact ⟨by simp, fun _ _ _ => rfl⟩
      · exact ⟨by simp, fun _ _ h => h⟩
    · refine ⟨?_, fun h3 h4 => by omega⟩
      split
      · simp
      · split
        · simp
        · split
          · simp; omega
          · simp; omega
/-- All that is told is small. -/
theorem sqH_small {k : Int} : ∀ (l : List Dl) (has : List Int) (m : Int), 4 ≤ m → m + 3 * l.length ≤ 1000 → (∀ x ∈ has, 0 ≤ x ∧ x ≤ m) → ∀ x ∈ sqH k has l, 0 ≤ x ∧ x ≤ m + 3 * l.length
  | [], has, m, _, _, h => by simpa [sqH] using h
  | d :: l, has, m, h4, hb, h => by
    simp only [List.length_cons] at hb ⊢
    have := (tl_small (k := k) (has := has) (put := d.put) (v := d.v % 4) (m := m) (by omega) (by omega) h).2.2
    have h2 := sqH_small (k := k) l _ (m + 3) (by omega) (by omega) this
    intro x hx
    have := h2 x hx
    omega
end Go.Baro
