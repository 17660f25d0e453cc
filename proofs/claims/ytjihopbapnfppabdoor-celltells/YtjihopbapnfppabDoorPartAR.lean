/- Of this claim's own texts these, one behind the other: CellAlg7, CellAlg8, AsmPure. No statement of the seat is proved here; no condition but those that stand at the theorems. -/
import Derived.Test.YtjihopbapnfppabDoorPartAQ
import Derived.Test.YtjihopbapnfppabDoorPartAH
import Derived.Test.YtjihopbapnfppabDoorPartAA
set_option linter.unusedSimpArgs false
set_option linter.unusedVariables false
namespace Go.Baro.Cel
/-- The words and codes of cell. -/
def cc : Cc := ⟨wsC, putC, getC⟩
theorem rd_zero (d n : Nat) : rd (wsC d) n = 0 := by
  unfold rd wsC
  rw [List.getElem?_replicate]
  split <;> rfl
theorem j_zero {m : Mc} {d : Nat} {val : Nat → Nat → Int} (hm : Mok m d val) : ∃ h, J m d val [] 0 (g0 m) h := by
  refine ⟨⟨0, 0, 0, fun _ => 0, 5, 4, fun _ => 0, fun _ => 0, fun _ => 0, fun _ => 0, fun _ _ => 0⟩, ?_, ?_, .inl ⟨rfl, rfl, rfl, rfl⟩, fun t h1 h3 => .inl ⟨rfl, rfl, fun s => by dsimp only; omega⟩, cnt_zero m _ _, hs_zero m, ?_, fun x hx => by simp [g0] at hx⟩
  · simp only [g0, hm.ws]
    refine ⟨by simp [wsC], by dsimp only; omega, by rw [rd_zero]; simp [ad], rfl, by dsimp only; omega, fun j hj ht k hk => by rw [rd_zero]; exact (hm.v0 k hk).symm, fun h => by dsimp only at h; omega, fun s _ => .inl (rd_zero _ _), rd_zero _ _⟩
  · simp only [g0, hm.ws]
    refine ⟨fun s _ => by rw [rd_zero]; exact ⟨fun _ => rfl, fun _ => rfl⟩, fun _ => by dsimp only; omega, fun _ _ h => absurd rfl h, by dsimp only; omega, by dsimp only; omega, by dsimp only; omega, fun _ => Nat.le_refl _, fun _ _ => rfl⟩
  · refine ⟨?_, ?_, ?_, ?_, ?_, ?_, ?_⟩ <;> simp [g0, dgs]
theorem j_run {m : Mc} {d : Nat} {val : Nat → Nat → Int} (h1 : 1 ≤ d) (h6 : d ≤ 6) (hm : Mok m d val) (S : List Nat) (hS : ∀ n ∈ S, n < 4) : ∃ h, J m d val S S.length (plyG m 0 S (g0 m)) h := by
  refine plyG_indS (I := fun S g => ∃ h, J m d val S S.length g h) (A := fun n => n < 4) (j_zero hm) (fun S g n hn ⟨h, H⟩ => ?_) S hS
  rw [actG_eq]
  obtain ⟨h', H'⟩ := j_begin hm hn H
  obtain ⟨h2, H2⟩ := j_exec h1 h6 hn H'
  refine ⟨h2, ?_⟩
  rw [List.length_append, List.length_singleton]
  exact H2
theorem PA.bV {d : Nat} {val : Nat → Nat → Int} {w : List Int} {g : Gh} {b k p : Nat} {r : Int → Int} (h : PA d val w g b k p r) : g.V ≤ b := by
  cases h <;> first | (have := ‹PR d val g b r›.b; omega) | omega
theorem J.Vbg {m : Mc} {d : Nat} {val : Nat → Nat → Int} {S : List Nat} {sb : Nat} {g : Gs} {h : Gh} (H : J m d val S sb g h) : h.V ≤ (g.th 0).bg := by
  rcases H.t0 with ⟨_, _, _, q⟩ | ⟨p, r, _, _, q⟩
  · omega
  · exact q.bV
/-- No call takes more steps. -/
theorem J.few {m : Mc} {d : Nat} {val : Nat → Nat → Int} {S : List Nat} {g : Gs} {h : Gh} (h6 : d ≤ 6) (H : J m d val S S.length g h) {x : Dg} (hx : x ∈ dgs g.out) : (x.e = -1 → (S.drop x.b).count x.th ≤ if x.th = 0 then 51 else 36) ∧ (x.e ≠ -1 → ((S.take (x.e + 1).toNat).drop x.b).count x.th ≤ if x.th = 0 then 51 else 36) := by
  obtain ⟨c1, c2, c3⟩ := H.cnt x hx
  have h4 := H.hist.th x hx
  refine ⟨fun he => ?_, fun he => ?_⟩
  · rw [c2 he]
    have hn := ((H.hs.opn x hx).1 he).1
    by_cases h0 : x.th = 0
    · rw [if_pos h0, h0]
      rw [h0] at hn
      rcases H.t0 with ⟨q, _⟩ | ⟨p, r, _, _, q⟩
      · exact absurd q hn
      · have := q.steps; omega
    · rw [if_neg h0]
      rcases H.tr x.th (by omega) (by omega) with ⟨q, _⟩ | ⟨p, r, l, _, _, q⟩
      · exact absurd q hn
      · have := q.steps; omega
  · have := (c3 he).2
    dsimp only at this
    split at this <;> (split <;> omega)
/-- The record of a Put of the statements. -/
def valR (p k : Nat) : Int := if p = 0 then 0 else ((10 * p + k : Nat) : Int)
theorem rcd_recd (d p : Nat) : rcd valR d p = recd d p := rfl
theorem mok_cell (d puts gets : Nat) : Mok (mCell cc d puts gets) d valR := by
  refine ⟨rfl, rfl, fun i c hc => ?_, fun t h1 h4 i c hc => ?_, fun q _ => rfl⟩
  · have h0 : (mCell cc d puts gets).ts[0]?.getD [] = putJ d puts := by simp [mCell]
    rw [h0] at hc
    have hi := (List.getElem?_eq_some_iff.1 hc).1
    rw [putJ_len] at hi
    have : c = ⟨0, putA d i⟩ := by
      have : (putJ d puts)[i]? = some ⟨0, putA d i⟩ := by simp [putJ, hi]
      rw [this] at hc
      injection hc with hc
      exact hc.symm
    subst this
    refine ⟨rfl, by simp [putA], fun q hq => ?_⟩
    simp [putA, hq, valR]
  · have h0 : (mCell cc d puts gets).ts[t]?.getD [] = getJ gets := by
      simp [mCell, h4]
      omega
    rw [h0] at hc
    have := List.eq_of_mem_replicate (List.mem_of_getElem? hc)
    subst this
    exact ⟨rfl, rfl⟩
theorem cell_whole : CellWhole cc := by
  intro d S h1 h6 hl hS
  obtain ⟨h, H⟩ := j_run h1 h6 (mok_cell d 12 8) S hS
  have hbg := bg_le (mCell cc d 12 8) S 0
  generalize plyG (mCell cc d 12 8) 0 S (g0 (mCell cc d 12 8)) = g at H hbg
  have hV : h.V ≤ 12 := by
    have h0 : (mCell cc d 12 8).ts[0]?.getD [] = putJ d 12 := by simp [mCell]
    rw [h0, putJ_len] at hbg
    have := H.Vbg; omega
  refine ⟨H.err, fun i => match (dgs g.out)[i]? with | none => 0 | some x => if x.th ≠ 0 ∧ x.e ≠ -1 then h.tl x.th x.cl else 0, ?_⟩
  have hI := H.hist
  have hmem : ∀ {i : Nat} {x : Dg}, (dgs g.out)[i]? = some x → x ∈ dgs g.out := fun hx => List.mem_of_getElem? hx
  refine ⟨fun i x hx hh => ?_, fun i x hx => ?_, fun i x hx q1 q2 => ?_, fun i x hx q1 q2 hn => ?_, fun i x hx q1 q2 k y hy y1 y2 => ?_, fun i x hx q1 q2 k y hy y1 y2 y3 => ?_, fun i x hx q1 q2 k y hy y1 y2 y3 => ?_⟩
  · simp only [hx]
    rw [if_neg]
    rintro ⟨a, b⟩
    rcases hh with hh | hh
    · exact a hh
    · exact b hh
  · simp only [hx]
    split
    · rename_i hh
      exact Nat.le_trans (hI.gV x (hmem hx) hh.1 hh.2) hV
    · omega
  · simp only [hx]
    rw [if_pos ⟨q1, q2⟩]
    exact hI.told x (hmem hx) q1 q2
  · simp only [hx] at hn ⊢
    rw [if_pos ⟨q1, q2⟩] at hn ⊢
    have h2 := hI.gV x (hmem hx) q1 q2
    have h3 := H.Vbg
    obtain ⟨y, hy, e1, e2⟩ := H.hs.all 0 (h.tl x.th x.cl - 1) (by omega)
    obtain ⟨k, hk⟩ := List.mem_iff_getElem?.1 hy
    exact ⟨k, y, hk, e1, by omega⟩
  · simp only [hx] at y2
    rw [if_pos ⟨q1, q2⟩] at y2
    exact hI.early x (hmem hx) q1 q2 y (hmem hy) y1 y2
  · simp only [hx]
    rw [if_pos ⟨q1, q2⟩]
    exact (hI.ord x (hmem hx) q1 q2 y (hmem hy) y2 y3).1 y1
  · simp only [hx, hy]
    rw [if_pos ⟨y1, y2⟩, if_pos ⟨q1, q2⟩]
    exact (hI.ord x (hmem hx) q1 q2 y (hmem hy) y2 y3).2 y1
theorem count_nat {l : List Int} (h : ∀ x ∈ l, 0 ≤ x) (n : Nat) : l.count (n : Int) = (l.map Int.toNat).count n := by
  induction l with
  | nil => rfl
  | cons a l ih =>
    have ha := h a (by simp)
    rw [List.map_cons, List.count_cons, List.count_cons, ih (fun x hx => h x (by simp [hx]))]
    congr 1
    by_cases he : a = n
    · subst he; simp
    · have : ¬ a.toNat = n := by omega
      simp [he, this]
theorem cell_ends : CellEnds cc := by
  intro d S h1 h6 hl hS
  have hT4 : ∀ x ∈ endS S, 0 ≤ x ∧ x < 4 := by
    intro x hx
    unfold endS at hx
    rcases List.mem_append.1 hx with hx | hx
    · rcases List.mem_append.1 hx with hx | hx
      · exact hS x hx
      · rw [List.eq_of_mem_replicate hx]; omega
    · rw [List.eq_of_mem_replicate hx]; omega
  have hN4 : ∀ n ∈ (endS S).map Int.toNat, n < 4 := by
    intro n hn
    obtain ⟨x, hx, rfl⟩ := List.mem_map.1 hn
    have := hT4 x hx; omega
  obtain ⟨A, hA, hAl⟩ : ∃ A : List Nat, (endS S).map Int.toNat = A ++ List.replicate 80 1 ∧ A.length = S.length + 80 := ⟨(S ++ List.replicate 80 0).map Int.toNat, by simp [endS], by simp⟩
  have hTl : (endS S).length = ((endS S).map Int.toNat).length := by simp
  obtain ⟨h, H⟩ := j_run h1 h6 (mok_cell d 12 8) _ hN4
  have hA4 : ∀ n ∈ A, n < 4 := fun n hn => hN4 n (by rw [hA]; simp [hn])
  obtain ⟨hA', HA⟩ := j_run h1 h6 (mok_cell d 12 8) A hA4
  have hlt := fun (x : Dg) hx => @ply_later (mCell cc d 12 8) A (List.replicate 80 1) x hx
  rw [← hA] at hlt
  have hop : ∀ x ∈ dgs (plyG (mCell cc d 12 8) 0 ((endS S).map Int.toNat) (g0 (mCell cc d 12 8))).out, x.th = 1 → x.e = -1 → S.length + 80 < x.b := by
    intro x hx hx1 hxe
    rcases Nat.lt_or_ge (S.length + 80) x.b with hlt | hge
    · exact hlt
    · exfalso
      have := (H.few h6 hx).1 hxe
      rw [hx1, if_neg (by omega), hA, List.drop_append_of_le_length (by omega), List.count_append] at this
      simp at this
  refine ⟨H.err, ⟨fun x hx hx0 => ?_, fun _ => ⟨hop, ?_⟩⟩⟩
  · have hf := H.few h6 hx
    rw [hx0, if_pos rfl] at hf
    obtain ⟨c1, c2, c3⟩ := H.cnt x hx
    unfold spn
    rw [hx0, count_nat (fun y hy => (hT4 y (List.mem_of_mem_take (List.mem_of_mem_drop hy))).1), List.map_drop, List.map_take]
    unfold spHi
    by_cases he : x.e = -1
    · rw [if_pos he, hTl, List.take_length]
      have := hf.1 he; omega
    · rw [if_neg he, Nat.min_eq_right (by have := (c3 he).1; rw [hTl]; omega)]
      have := hf.2 he; omega
  · -- what thread 1 does at the first of the last eighty steps
    have hst : ∃ gA, gA = plyG (mCell cc d 12 8) 0 A (g0 (mCell cc d 12 8)) := ⟨_, rfl⟩
    obtain ⟨gA, hgA⟩ := hst
    rw [← hgA] at HA hlt
    have h8 : (mCell cc d 12 8).ts[1]?.getD [] = getJ 8 := by simp [mCell]
    rcases bgG_cases (mCell cc d 12 8) gA A.length 1 with ⟨_, hb | ⟨hb1, hb2⟩⟩ | ⟨c, hb1, hb2, hb3⟩
    · obtain ⟨x, hx, x1, x2, x3, x4⟩ := HA.hs.live hb
      obtain ⟨x', hx', y1, y2, y3, y4, y5⟩ := hlt x hx
      refine .inl ⟨x', hx', by rw [y1, x1], ?_⟩
      rcases y5 x3 with y5 | y5
      · have := hop x' hx' (by rw [y1, x1]) y5
        have := (HA.hs.bnd x hx).1
        omega
      · omega
    · rw [h8, getJ_len] at hb2
      obtain ⟨x, hx, x1, x2⟩ := HA.hs.all 1 7 (by omega)
      have hxe : x.e ≠ -1 := fun he => by
        have := ((HA.hs.opn x hx).1 he).1
        rw [x1] at this; exact this hb1
      obtain ⟨x', hx', y1, y2, y3, y4, y5⟩ := hlt x hx
      obtain rfl := y4 hxe
      refine .inr ⟨x', hx', x1, x2, hxe, ?_⟩
      have := ((HA.hs.bnd x' hx).2 hxe).2
      omega
    · -- a call begins at this step
      have hA1 : ∃ x ∈ dgs (plyG (mCell cc d 12 8) 0 (A ++ [1]) (g0 (mCell cc d 12 8))).out, x.th = 1 ∧ x.b = A.length ∧ (x.e = -1 ∨ x.e = A.length) := by
        rw [ply_snoc, ← hgA, actG_eq, hb3]
        obtain ⟨es, q1, q2⟩ : ∃ es, (exG ⟨gA.w, putT gA.th 1 ⟨some (live ((mCell cc d 12 8).cs[c.k.toNat]?.getD []) c.ar), (gA.th 1).bg + 1⟩, gA.out ++ [⟨A.length, 1, (gA.th 1).bg, false, 0, []⟩]⟩ A.length 1).out = (gA.out ++ [⟨A.length, 1, (gA.th 1).bg, false, 0, []⟩]) ++ es ∧ ∀ e ∈ es, e.st = A.length := by
          unfold exG
          dsimp only
          rw [putT_same]
          exact actL_out _ _ _ _ _ _
        rw [q1]
        have : dgs ((gA.out ++ [⟨A.length, 1, (gA.th 1).bg, false, 0, []⟩]) ++ es) = es.foldl dg1 (dgs gA.out ++ [⟨A.length, -1, 1, (gA.th 1).bg, []⟩]) := by
          rw [← dgs_begin]; simp [dgs, List.foldl_append]
        rw [this]
        have hup : ∀ (es : List Ev) (l : List Dg) (d : Dg), (∀ e ∈ es, e.st = A.length) → d ∈ l → (d.e = -1 ∨ d.e = A.length) → ∃ d' ∈ es.foldl dg1 l, d'.th = d.th ∧ d'.b = d.b ∧ (d'.e = -1 ∨ d'.e = A.length) := by
          intro es
          induction es with
          | nil => intro l d _ hd he; exact ⟨d, hd, rfl, rfl, he⟩
          | cons x es ih =>
            intro l d hes hd he
            rw [List.foldl_cons]
            by_cases hen : x.en = true
            · rw [dg1_end _ _ hen]
              have hfe : (d.fin x).e = -1 ∨ (d.fin x).e = A.length := by
                unfold Dg.fin
                split
                · exact .inr (by dsimp only; rw [hes x (by simp)])
                · exact he
              obtain ⟨d', k1, k2, k3, k4⟩ := ih (l.map (fun d => d.fin x)) (d.fin x) (fun e he => hes e (by simp [he])) (List.mem_map.2 ⟨d, hd, rfl⟩) hfe
              refine ⟨d', k1, ?_, ?_, k4⟩
              · rw [k2]; unfold Dg.fin; split <;> rfl
              · rw [k3]; unfold Dg.fin; split <;> rfl
            · rw [dg1_begin _ _ (by simpa using hen)]
              exact ih _ d (fun e he => hes e (List.mem_cons_of_mem _ he)) (List.mem_append_left _ hd) he
        obtain ⟨d', k1, k2, k3, k4⟩ := hup es (dgs gA.out ++ [⟨A.length, -1, 1, (gA.th 1).bg, []⟩]) ⟨A.length, -1, 1, (gA.th 1).bg, []⟩ q2 (by simp) (.inl rfl)
        exact ⟨d', k1, k2, k3, k4⟩
      obtain ⟨x, hx, x1, x2, x3⟩ := hA1
      have hlt2 := ply_later (mCell cc d 12 8) (A ++ [1]) (List.replicate 79 1) hx
      rw [List.append_assoc, show [1] ++ List.replicate 79 1 = List.replicate 80 1 from rfl, ← hA] at hlt2
      obtain ⟨x', hx', y1, y2, y3, y4, y5⟩ := hlt2
      refine .inl ⟨x', hx', by rw [y1, x1], ?_⟩
      rcases x3 with x3 | x3
      · rcases y5 x3 with y5 | y5
        · have := hop x' hx' (by rw [y1, x1]) y5
          omega
        · simp at y5; omega
      · rw [y4 (by omega)]; omega
end Go.Baro.Cel

set_option linter.unusedSimpArgs false
set_option linter.unusedVariables false
namespace Go.Baro.Cel
def valT (ar : List Int) (p k : Nat) : Int := if p = 0 then 0 else if p = 1 then ((10 + k : Nat) : Int) else ar[k]?.getD 0
theorem mok_tell {d : Nat} {ar : List Int} (ha : ar.length = d) : Mok (mTell cc d ar) d (valT ar) := by
  refine ⟨rfl, rfl, fun i c hc => ?_, fun t h1 h4 i c hc => ?_, fun q _ => rfl⟩
  · have h0 : (mTell cc d ar).ts[0]?.getD [] = [⟨0, putA d 0⟩, ⟨0, ar⟩] := by simp [mTell]
    rw [h0] at hc
    match i, hc with
    | 0, hc =>
      simp at hc
      subst hc
      refine ⟨rfl, by simp [putA], fun q hq => ?_⟩
      simp [putA, hq, valT]
    | 1, hc =>
      simp at hc
      subst hc
      refine ⟨rfl, ha, fun q hq => ?_⟩
      simp [valT]
    | i + 2, hc => simp at hc
  · have h0 : (mTell cc d ar).ts[t]?.getD [] = getJ 1 := by
      simp [mTell, h4]
      omega
    rw [h0] at hc
    have := List.eq_of_mem_replicate (List.mem_of_getElem? hc)
    subst this
    exact ⟨rfl, rfl⟩
/-- A thread that has done more steps than its calls may take has done them all. -/
theorem done {m : Mc} {d : Nat} {val : Nat → Nat → Int} (h1 : 1 ≤ d) (h6 : d ≤ 6) (hm : Mok m d val) {S : List Nat} (hS : ∀ n ∈ S, n < 4) {n : Nat} (hc : (if n = 0 then 51 else 36) * (m.ts[n]?.getD []).length < S.count n) :
    ((plyG m 0 S (g0 m)).th n).now = none ∧ ((plyG m 0 S (g0 m)).th n).bg = (m.ts[n]?.getD []).length := by
  have hle := bg_le m S n
  obtain ⟨h, H⟩ := j_run h1 h6 hm S hS
  rcases busy (m := m) (n := n) (B := if n = 0 then 51 else 36) (fun S hS x hx hn he => by
    obtain ⟨h, H⟩ := j_run h1 h6 hm S hS
    have := (H.few h6 hx).2 he
    rwa [hn] at this) S hS with ⟨q1, q2⟩ | ⟨q1, q2⟩ | ⟨x, hx, x1, x2, x3⟩
  · exact ⟨q1, by omega⟩
  · have := Nat.mul_le_mul_left (if n = 0 then 51 else 36) hle
    omega
  · have := (H.few h6 hx).1 x2
    rw [x1] at this
    have hn := ((H.hs.opn x hx).1 x2).1
    have hp := H.hs.ps x.th hn
    rw [x1] at hp
    have h2 := Nat.mul_le_mul_left (if n = 0 then 51 else 36) hle
    have h3 : (if n = 0 then 51 else 36) * ((plyG m 0 S (g0 m)).th n).bg = (if n = 0 then 51 else 36) * (((plyG m 0 S (g0 m)).th n).bg - 1) + (if n = 0 then 51 else 36) := by
      rw [← Nat.mul_succ]; congr 1; omega
    omega
theorem all_end {g : Gs} {sb se : Nat} (h : Hs sb se g) (hn : ∀ t, t < 4 → (g.th t).now = none) (h4 : ∀ x ∈ dgs g.out, x.th < 4) : ∀ x ∈ dgs g.out, x.e ≠ -1 := fun x hx he => ((h.opn x hx).1 he).1 (hn x.th (h4 x hx))
theorem cell_tells : CellTells cc := by
  intro d ar h1 h6 ha hi
  have hm := mok_tell ha
  obtain ⟨S1, S2, S3, e1, e2, e3, hS⟩ : ∃ S1 S2 S3 : List Nat, S1 = List.replicate 160 1 ∧ S2 = List.replicate 160 0 ∧ S3 = List.replicate 160 2 ∧ (tQ 3).map Int.toNat = S1 ++ S2 ++ S3 := ⟨_, _, _, rfl, rfl, rfl, by
    rw [tQ, tQ, tQ, tQ]
    simp only [List.map_append, List.map_replicate, List.nil_append]
    rfl⟩
  rw [hS]
  have l1 : S1.length = 160 := by rw [e1, List.length_replicate]
  have l2 : S2.length = 160 := by rw [e2, List.length_replicate]
  have m1 : ∀ x ∈ S1, x = 1 := by rw [e1]; exact fun x hx => List.eq_of_mem_replicate hx
  have m2 : ∀ x ∈ S2, x = 0 := by rw [e2]; exact fun x hx => List.eq_of_mem_replicate hx
  have m3 : ∀ x ∈ S3, x = 2 := by rw [e3]; exact fun x hx => List.eq_of_mem_replicate hx
  have c1 : S1.count 1 = 160 := by rw [e1, List.count_replicate_self]
  have c2 : (S1 ++ S2).count 0 = 160 := by rw [List.count_append, e1, e2, List.count_replicate_self, List.count_replicate]; simp
  have c3 : (S1 ++ S2 ++ S3).count 2 = 160 := by rw [List.count_append, List.count_append, e1, e2, e3, List.count_replicate_self, List.count_replicate, List.count_replicate]; simp
  clear e1 e2 e3 hS
  have A1 : ∀ n ∈ S1, n < 4 := fun n hn => by have := m1 n hn; omega
  have A2 : ∀ n ∈ S1 ++ S2, n < 4 := fun n hn => by
    rcases List.mem_append.1 hn with hn | hn
    · exact A1 n hn
    · have := m2 n hn; omega
  have A3 : ∀ n ∈ S1 ++ S2 ++ S3, n < 4 := fun n hn => by
    rcases List.mem_append.1 hn with hn | hn
    · exact A2 n hn
    · have := m3 n hn; omega
  have t0 : ((mTell cc d ar).ts[0]?.getD []).length = 2 := by simp [mTell]
  have t1 : ((mTell cc d ar).ts[1]?.getD []).length = 1 := by simp [mTell, getJ]
  have t2 : ((mTell cc d ar).ts[2]?.getD []).length = 1 := by simp [mTell, getJ]
  obtain ⟨g1, G1⟩ := j_run h1 h6 hm S1 A1
  obtain ⟨g2, G2⟩ := j_run h1 h6 hm _ A2
  obtain ⟨g3, G3⟩ := j_run h1 h6 hm _ A3
  obtain ⟨p1, b1⟩ := done h1 h6 hm A1 (n := 1) (by rw [t1, c1]; decide)
  obtain ⟨p2, b2⟩ := done h1 h6 hm A2 (n := 0) (by rw [t0, c2]; decide)
  obtain ⟨p3, b3⟩ := done h1 h6 hm A3 (n := 2) (by rw [t2, c3]; decide)
  rw [t1] at b1
  rw [t0] at b2
  rw [t2] at b3
  have i10 := th_idle (m := mTell cc d ar) (S := S1) (i := 0) (fun n hn => by have := m1 n hn; omega)
  have i12 := th_idle (m := mTell cc d ar) (S := S1) (i := 2) (fun n hn => by have := m1 n hn; omega)
  have i13 := th_idle (m := mTell cc d ar) (S := S1) (i := 3) (fun n hn => by have := m1 n hn; omega)
  have i21 := th_later (m := mTell cc d ar) (S := S1) (T := S2) (i := 1) (fun n hn => by have := m2 n hn; omega)
  have i22 := th_later (m := mTell cc d ar) (S := S1) (T := S2) (i := 2) (fun n hn => by have := m2 n hn; omega)
  have i23 := th_later (m := mTell cc d ar) (S := S1) (T := S2) (i := 3) (fun n hn => by have := m2 n hn; omega)
  have i30 := th_later (m := mTell cc d ar) (S := S1 ++ S2) (T := S3) (i := 0) (fun n hn => by have := m3 n hn; omega)
  have i31 := th_later (m := mTell cc d ar) (S := S1 ++ S2) (T := S3) (i := 1) (fun n hn => by have := m3 n hn; omega)
  have i33 := th_later (m := mTell cc d ar) (S := S1 ++ S2) (T := S3) (i := 3) (fun n hn => by have := m3 n hn; omega)
  have k1 := dgs_count (m := mTell cc d ar) A1
  have k2 := dgs_count (m := mTell cc d ar) A2
  have k3 := dgs_count (m := mTell cc d ar) A3
  have f2 := ply_behind (mTell cc d ar) S1 S2
  have f3 := ply_behind (mTell cc d ar) (S1 ++ S2) S3
  generalize plyG (mTell cc d ar) 0 S1 (g0 (mTell cc d ar)) = s1 at *
  generalize plyG (mTell cc d ar) 0 (S1 ++ S2) (g0 (mTell cc d ar)) = s2 at *
  generalize plyG (mTell cc d ar) 0 (S1 ++ S2 ++ S3) (g0 (mTell cc d ar)) = s3 at *
  have four : ∀ t : Nat, t < 4 → t = 0 ∨ t = 1 ∨ t = 2 ∨ t = 3 := fun t h => by omega
  have n1 : ∀ t, t < 4 → (s1.th t).now = none := fun t ht => by rcases four t ht with rfl | rfl | rfl | rfl <;> simp [i10, p1, i12, i13]
  have n2 : ∀ t, t < 4 → (s2.th t).now = none := fun t ht => by rcases four t ht with rfl | rfl | rfl | rfl <;> simp [p2, i21, i22, i23, i10, p1, i12, i13]
  have n3 : ∀ t, t < 4 → (s3.th t).now = none := fun t ht => by rcases four t ht with rfl | rfl | rfl | rfl <;> simp [p3, i30, i31, i33, p2, i21, i22, i23, i10, p1, i12, i13]
  have E1 := all_end G1.hs n1 G1.hist.th
  have E2 := all_end G2.hs n2 G2.hist.th
  have E3 := all_end G3.hs n3 G3.hist.th
  obtain ⟨r2, f2, _⟩ := f2 E1
  obtain ⟨r3, f3, hb3⟩ := f3 E2
  rw [b1, i10, i12, i13] at k1
  rw [b2, i21, i22, i23, b1, i12, i13] at k2
  rw [b3, i30, i31, i33, b2, i21, i23, b1, i13] at k3
  simp only [Nat.zero_add, Nat.add_zero] at k1 k2 k3
  rw [f3] at k3
  rw [f2] at k2
  rw [List.length_append] at k2 k3
  rw [f2, List.length_append] at k3
  obtain ⟨d0, hd0⟩ := List.length_eq_one_iff.1 k1
  obtain ⟨d1, d2, hr2⟩ : ∃ a b, r2 = [a, b] := by
    have hl : r2.length = 2 := by omega
    match r2, hl with
    | [a, b], _ => exact ⟨a, b, rfl⟩
  obtain ⟨d3, hr3⟩ := List.length_eq_one_iff.1 (show r3.length = 1 by omega)
  rw [hd0, hr2] at f2
  rw [f2, hr3] at f3
  refine ⟨G3.err, d0, d1, d2, d3, f3, E1 d0 (by rw [hd0]; simp), E2 d2 (by rw [f2]; simp), E3 d3 (by rw [f3]; simp), ?_, ?_⟩
  · have hm0 : d0 ∈ dgs s1.out := by rw [hd0]; simp
    obtain ⟨x, hx, x1, x2⟩ := G1.hs.all 1 0 (by rw [b1]; omega)
    have hx0 : x = d0 := by rw [hd0] at hx; simpa using hx
    subst hx0
    have ht := G1.hist.told x hm0 (by omega) (E1 x hm0)
    have hv := G1.hist.gV x hm0 (by omega) (E1 x hm0)
    have hV := G1.Vbg
    rw [i10] at hV
    have hz : g1.tl x.th x.cl = 0 := by dsimp only at hV; omega
    rw [ht, hz]
    unfold rcd
    apply List.ext_getElem?
    intro i
    by_cases hid : i < d
    · simp [hid, valT]
    · rw [List.getElem?_eq_none (by simp; omega), List.getElem?_eq_none (by simp; omega)]
  · have hm3 : d3 ∈ dgs s3.out := by rw [f3]; simp
    have hx3 : d3.th = 2 := by
      obtain ⟨x, hx, x1, x2⟩ := G3.hs.all 2 0 (by rw [b3]; omega)
      rw [f3] at hx
      have hnot : x ∉ dgs s2.out := fun hx2 => by
        have := G2.hs.own x hx2
        rw [x1, i22, i12] at this
        dsimp only at this
        omega
      rw [f2] at hnot
      simp at hx hnot
      obtain ⟨q1, q2, q3⟩ := hnot
      rcases hx with hx | hx | hx | hx
      · exact absurd hx q1
      · exact absurd hx q2
      · exact absurd hx q3
      · rw [← hx]; exact x1
    obtain ⟨y, hy, y1, y2⟩ := G2.hs.all 0 1 (by rw [b2]; omega)
    have hye := E2 y hy
    have hyb := ((G2.hs.bnd y hy).2 hye).2
    have hdb := hb3 d3 (by rw [hr3]; simp)
    have hy3 : y ∈ dgs s3.out := by
      rw [f2] at hy
      rw [f3]
      simp at hy ⊢
      rcases hy with h | h | h <;> simp [h]
    have ho := (G3.hist.ord d3 hm3 (by omega) (E3 d3 hm3) y hy3 hye (by omega)).1 y1
    have hv := G3.hist.gV d3 hm3 (by omega) (E3 d3 hm3)
    have hV := G3.Vbg
    rw [i30, b2] at hV
    rw [G3.hist.told d3 hm3 (by omega) (E3 d3 hm3), show g3.tl d3.th d3.cl = 2 by omega]
    unfold rcd
    apply List.ext_getElem?
    intro i
    by_cases hid : i < d
    · have hia : i < ar.length := by omega
      simp [hid, valT, List.getElem?_eq_getElem hia]
    · rw [List.getElem?_eq_none (by simp; omega), List.getElem?_eq_none (by omega)]
end Go.Baro.Cel

set_option linter.unusedSimpArgs false
set_option linter.unusedVariables false
namespace Go.Baro

/-- A name. -/
abbrev Nm := List UInt8
/-- A builder: the code, the registers and the labels in the order of their names' first use, the jumps, whether a name was given twice. -/
structure Bs where
  code : List Ins
  regs : List (Nm × Int)
  labs : List (Nm × Int)
  jmps : List (Int × Nm)
  twice : Bool
def nmAsk : List (Nm × Int) → Nm → Option Int
  | [], _ => none
  | p :: ks, s => if p.1 = s then some p.2 else nmAsk ks s
theorem nmAsk_append (a b : List (Nm × Int)) (s : Nm) : nmAsk (a ++ b) s = (nmAsk a s).or (nmAsk b s) := by
  induction a with
  | nil => simp [nmAsk]
  | cons p a ih =>
    rw [List.cons_append, nmAsk, nmAsk]
    split
    · rfl
    · exact ih
/-- The number of a register; a new one is the next. -/
def Bs.rg (b : Bs) (s : Nm) : Bs × Int := match nmAsk b.regs s with
  | some v => (b, v)
  | none => ({ b with regs := b.regs ++ [(s, (b.regs.length : Int))] }, (b.regs.length : Int))
def Bs.put (b : Bs) (o : Ins) : Bs := { b with code := b.code ++ [o] }
def Bs.jmp (b : Bs) (l : Nm) : Bs := { b with jmps := b.jmps ++ [((b.code.length : Int), l)] }
def Bs.lab (b : Bs) (l : Nm) : Bs := { b with labs := b.labs ++ [(l, (b.code.length : Int))] }
def Bs.set (b : Bs) (to : Nm) (n : Int) : Bs := (b.rg to).1.put ⟨1, (b.rg to).2, n, 0, 0⟩
def Bs.two (b : Bs) (x y : Nm) : Bs × Int × Int := (((b.rg x).1.rg y).1, (b.rg x).2, ((b.rg x).1.rg y).2)
def Bs.three (b : Bs) (x y z : Nm) : Bs × Int × Int × Int := (((b.two x y).1.rg z).1, (b.two x y).2.1, (b.two x y).2.2, ((b.two x y).1.rg z).2)
def Bs.copy (b : Bs) (x y : Nm) : Bs := (b.two x y).1.put ⟨2, (b.two x y).2.1, (b.two x y).2.2, 0, 0⟩
def Bs.op3 (b : Bs) (k : Int) (x y z : Nm) : Bs := (b.three x y z).1.put ⟨k, (b.three x y z).2.1, (b.three x y z).2.2.1, (b.three x y z).2.2.2, 0⟩
def Bs.jump (b : Bs) (l : Nm) : Bs := (b.jmp l).put ⟨10, 0, 0, 0, 0⟩
def Bs.when (b : Bs) (r l : Nm) : Bs := ((b.jmp l).rg r).1.put ⟨11, ((b.jmp l).rg r).2, 0, 0, 0⟩
def Bs.unless (b : Bs) (r l : Nm) : Bs := ((b.jmp l).rg r).1.put ⟨12, ((b.jmp l).rg r).2, 0, 0, 0⟩
def Bs.load (b : Bs) (x y : Nm) (o : Int) : Bs := (b.two x y).1.put ⟨13, (b.two x y).2.1, (b.two x y).2.2, o, 0⟩
def Bs.store (b : Bs) (x y : Nm) (o : Int) : Bs := (b.two x y).1.put ⟨14, (b.two x y).2.1, (b.two x y).2.2, o, 0⟩
def Bs.cas (b : Bs) (x y : Nm) (o : Int) (z : Nm) : Bs := (b.three x y z).1.put ⟨15, (b.three x y z).2.1, (b.three x y z).2.2.1, o, (b.three x y z).2.2.2⟩
def Bs.emit1 (b : Bs) (x : Nm) : Bs := (b.rg x).1.put ⟨16, (b.rg x).2, 0, 0, 0⟩
def Bs.emit (b : Bs) (xs : List Nm) : Bs := xs.foldl Bs.emit1 b
def Bs.new (xs : List Nm) : Bs := xs.foldl (fun b x => (b.rg x).1) ⟨[], [], [], [], false⟩
/-- An instruction whose target is known. -/
def tgt (o : Ins) (v : Int) : Ins := if o.k = 10 then { o with a := v } else { o with b := v }
/-- The targets of the jumps are put in. -/
def rslv (labs : List (Nm × Int)) : List (Int × Nm) → List Ins → Option (List Ins)
  | [], c => some c
  | j :: js, c => match nmAsk labs j.2, c[j.1.toNat]? with
    | some v, some o => rslv labs js (c.set j.1.toNat (tgt o v))
    | _, _ => none
/-- The code, where nothing is wrong with it. -/
def Bs.fin (b : Bs) : Option (List Ins) := if b.twice = true then none else
  match rslv b.labs b.jmps b.code with
  | none => none
  | some c => if okC c then some c else none
theorem Bs.fin_some {b : Bs} {c : List Ins} (h : b.fin = some c) : b.twice = false ∧ rslv b.labs b.jmps b.code = some c ∧ okC c := by
  unfold Bs.fin at h
  by_cases ht : b.twice = true
  · rw [if_pos ht] at h; cases h
  · rw [if_neg ht] at h
    cases hr : rslv b.labs b.jmps b.code with
    | none => rw [hr] at h; cases h
    | some c' =>
      rw [hr] at h
      dsimp only at h
      split at h
      · cases h; exact ⟨by simpa using ht, rfl, by assumption⟩
      · cases h
theorem rslv_len (labs : List (Nm × Int)) : ∀ (js : List (Int × Nm)) (c c' : List Ins), rslv labs js c = some c' → c'.length = c.length
  | [], c, c', h => by cases h; rfl
  | j :: js, c, c', h => by
    unfold rslv at h
    split at h
    · rw [rslv_len labs js _ c' h]; simp
    · cases h
/-- A jump that is resolved. -/
theorem rslv_at (labs : List (Nm × Int)) {c' : List Ins} : ∀ (js : List (Int × Nm)) (c : List Ins), rslv labs js c = some c' → ∀ (i : Nat) (j : Int × Nm), js[i]? = some j → ∃ v o ci, nmAsk labs j.2 = some v ∧ rslv labs (js.drop i) ci = some c' ∧ rslv labs (js.take i) c = some ci ∧ ci[j.1.toNat]? = some o ∧ rslv labs (js.take (i + 1)) c = some (ci.set j.1.toNat (tgt o v)) ∧ rslv labs (js.drop (i + 1)) (ci.set j.1.toNat (tgt o v)) = some c'
  | [], c, h, i, j, hj => by simp at hj
  | k :: js, c, h, 0, j, hj => by
    simp at hj
    subst hj
    have h' := h
    unfold rslv at h
    cases ha : nmAsk labs k.2 with
    | none => simp [ha] at h
    | some v =>
      cases hc : c[k.1.toNat]? with
      | none => simp [ha, hc] at h
      | some o =>
        simp only [ha, hc] at h
        exact ⟨v, o, c, rfl, h', rfl, hc, by simp [rslv, ha, hc], by simpa using h⟩
  | k :: js, c, h, i + 1, j, hj => by
    unfold rslv at h
    cases ha : nmAsk labs k.2 with
    | none => simp [ha] at h
    | some v =>
      cases hc : c[k.1.toNat]? with
      | none => simp [ha, hc] at h
      | some o =>
        simp only [ha, hc] at h
        obtain ⟨v', o', ci, q1, q2, q3, q4, q5, q6⟩ := rslv_at labs js _ h i j (by simpa using hj)
        refine ⟨v', o', ci, q1, by simpa using q2, ?_, q4, ?_, by simpa using q6⟩
        · rw [List.take_succ_cons, rslv]
          simp only [ha, hc]
          exact q3
        · rw [List.take_succ_cons, rslv]
          simp only [ha, hc]
          exact q5
section
variable (b : Bs) (x y z l : Nm) (n k : Int)
theorem labs_rg : (b.rg x).1.labs = b.labs := by unfold Bs.rg; split <;> rfl
theorem labs_set : (b.set x n).labs = b.labs := labs_rg b x
theorem labs_two : (b.two x y).1.labs = b.labs := by unfold Bs.two; rw [labs_rg, labs_rg]
theorem labs_three : (b.three x y z).1.labs = b.labs := by unfold Bs.three; rw [labs_rg, labs_two]
theorem labs_copy : (b.copy x y).labs = b.labs := labs_two b x y
theorem labs_op3 : (b.op3 k x y z).labs = b.labs := labs_three b x y z
theorem labs_jump : (b.jump l).labs = b.labs := rfl
theorem labs_when : (b.when x l).labs = b.labs := labs_rg (b.jmp l) x
theorem labs_unless : (b.unless x l).labs = b.labs := labs_rg (b.jmp l) x
theorem labs_load : (b.load x y n).labs = b.labs := labs_two b x y
theorem labs_store : (b.store x y n).labs = b.labs := labs_two b x y
theorem labs_cas : (b.cas x y n z).labs = b.labs := labs_three b x y z
theorem nmAsk_lab {b : Bs} {l l' : Nm} (h : nmAsk b.labs l = none) (hne : l' ≠ l) : nmAsk (b.lab l').labs l = none := by
  unfold Bs.lab
  dsimp only
  rw [nmAsk_append, h]
  simp [nmAsk, hne]
theorem labs_fold {α : Type} {f : Bs → α → Bs} (h : ∀ b a, (f b a).labs = b.labs) : ∀ (l : List α) (b : Bs), (l.foldl f b).labs = b.labs
  | [], b => rfl
  | a :: l, b => by rw [List.foldl_cons, labs_fold h l, h]
theorem labs_new (xs : List Nm) : (Bs.new xs).labs = [] := labs_fold (f := fun b x => (b.rg x).1) (fun b a => labs_rg b a) xs _
end
end Go.Baro
