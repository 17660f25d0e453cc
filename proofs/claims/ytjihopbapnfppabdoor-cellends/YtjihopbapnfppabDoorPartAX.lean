/- Of this claim's own texts these, one behind the other: CellAlg7, Cell3, Cell4, CellOk, LibMid, RunPure6. No statement of the seat is proved here; no condition but those that stand at the theorems. -/
import Derived.Test.YtjihopbapnfppabDoorPartAW
import Derived.Test.YtjihopbapnfppabDoorPartAH
import Derived.Test.YtjihopbapnfppabDoorPartAS
import Derived.Test.YtjihopbapnfppabDoorPartAG
import Derived.Test.YtjihopbapnfppabDoorPartAQ
import Derived.Deep.MidRow
import Derived.Test.YtjihopbapnfppabDoorPartAA
set_option linter.unusedSimpArgs false
set_option linter.unusedVariables false
namespace Go.Baro.Cel
/-- The words and codes of cell. -/
def cc : Cc := ⟨wsC, putC, getC⟩
theorem rd_zero (d n : Nat) : rd (wsC d) n = 0 := by
  unfold rd wsC
  rw [List.getElem?_replicate]
  split <;> rfl
theorem j_zero {m : Mc} {d : Nat} {val : Nat → Nat → Int} (hm : Mok m d val) : ∃ h, J m d val [] 0 (g0 m) h := by
  refine ⟨⟨0, 0, 0, fun _ => 0, 5, 4, fun _ => 0, fun _ => 0, fun _ => 0, fun _ => 0, fun _ _ => 0⟩, ?_, ?_, .inl ⟨rfl, rfl, rfl, rfl⟩, fun t h1 h3 => .inl ⟨rfl, rfl, fun s => by dsimp only; omega⟩, cnt_zero m _ _, hs_zero m, ?_, fun x hx => by simp [g0] at hx⟩
  · simp only [g0, hm.ws]
    refine ⟨by simp [wsC], by dsimp only; omega, by rw [rd_zero]; simp [ad], rfl, by dsimp only; omega, fun j hj ht k hk => by rw [rd_zero]; exact (hm.v0 k hk).symm, fun h => by dsimp only at h; omega, fun s _ => .inl (rd_zero _ _), rd_zero _ _⟩
  · simp only [g0, hm.ws]
    refine ⟨fun s _ => by rw [rd_zero]; exact ⟨fun _ => rfl, fun _ => rfl⟩, fun _ => by dsimp only; omega, fun _ _ h => absurd rfl h, by dsimp only; omega, by dsimp only; omega, by dsimp only; omega, fun _ => Nat.le_refl _, fun _ _ => rfl⟩
  · refine ⟨?_, ?_, ?_, ?_, ?_, ?_, ?_⟩ <;> simp [g0, dgs]
theorem j_run {m : Mc} {d : Nat} {val : Nat → Nat → Int} (h1 : 1 ≤ d) (h6 : d ≤ 6) (hm : Mok m d val) (S : List Nat) (hS : ∀ n ∈ S, n < 4) : ∃ h, J m d val S S.length (plyG m 0 S (g0 m)) h := by
  refine plyG_indS (I := fun S g => ∃ h, J m d val S S.length g h) (A := fun n => n < 4) (j_zero hm) (fun S g n hn ⟨h, H⟩ => ?_) S hS
  rw [actG_eq]
  obtain ⟨h', H'⟩ := j_begin hm hn H
  obtain ⟨h2, H2⟩ := j_exec h1 h6 hn H'
  refine ⟨h2, ?_⟩
  rw [List.length_append, List.length_singleton]
  exact H2
theorem PA.bV {d : Nat} {val : Nat → Nat → Int} {w : List Int} {g : Gh} {b k p : Nat} {r : Int → Int} (h : PA d val w g b k p r) : g.V ≤ b := by
  cases h <;> first | (have := ‹PR d val g b r›.b; omega) | omega
theorem J.Vbg {m : Mc} {d : Nat} {val : Nat → Nat → Int} {S : List Nat} {sb : Nat} {g : Gs} {h : Gh} (H : J m d val S sb g h) : h.V ≤ (g.th 0).bg := by
  rcases H.t0 with ⟨_, _, _, q⟩ | ⟨p, r, _, _, q⟩
  · omega
  · exact q.bV
/-- No call takes more steps. -/
theorem J.few {m : Mc} {d : Nat} {val : Nat → Nat → Int} {S : List Nat} {g : Gs} {h : Gh} (h6 : d ≤ 6) (H : J m d val S S.length g h) {x : Dg} (hx : x ∈ dgs g.out) : (x.e = -1 → (S.drop x.b).count x.th ≤ if x.th = 0 then 51 else 36) ∧ (x.e ≠ -1 → ((S.take (x.e + 1).toNat).drop x.b).count x.th ≤ if x.th = 0 then 51 else 36) := by
  obtain ⟨c1, c2, c3⟩ := H.cnt x hx
  have h4 := H.hist.th x hx
  refine ⟨fun he => ?_, fun he => ?_⟩
  · rw [c2 he]
    have hn := ((H.hs.opn x hx).1 he).1
    by_cases h0 : x.th = 0
    · rw [if_pos h0, h0]
      rw [h0] at hn
      rcases H.t0 with ⟨q, _⟩ | ⟨p, r, _, _, q⟩
      · exact absurd q hn
      · have := q.steps; omega
    · rw [if_neg h0]
      rcases H.tr x.th (by omega) (by omega) with ⟨q, _⟩ | ⟨p, r, l, _, _, q⟩
      · exact absurd q hn
      · have := q.steps; omega
  · have := (c3 he).2
    dsimp only at this
    split at this <;> (split <;> omega)
/-- The record of a Put of the statements. -/
def valR (p k : Nat) : Int := if p = 0 then 0 else ((10 * p + k : Nat) : Int)
theorem rcd_recd (d p : Nat) : rcd valR d p = recd d p := rfl
theorem mok_cell (d puts gets : Nat) : Mok (mCell cc d puts gets) d valR := by
  refine ⟨rfl, rfl, fun i c hc => ?_, fun t h1 h4 i c hc => ?_, fun q _ => rfl⟩
  · have h0 : (mCell cc d puts gets).ts[0]?.getD [] = putJ d puts := by simp [mCell]
    rw [h0] at hc
    have hi := (List.getElem?_eq_some_iff.1 hc).1
    rw [putJ_len] at hi
    have : c = ⟨0, putA d i⟩ := by
      have : (putJ d puts)[i]? = some ⟨0, putA d i⟩ := by simp [putJ, hi]
      rw [this] at hc
      injection hc with hc
      exact hc.symm
    subst this
    refine ⟨rfl, by simp [putA], fun q hq => ?_⟩
    simp [putA, hq, valR]
  · have h0 : (mCell cc d puts gets).ts[t]?.getD [] = getJ gets := by
      simp [mCell, h4]
      omega
    rw [h0] at hc
    have := List.eq_of_mem_replicate (List.mem_of_getElem? hc)
    subst this
    exact ⟨rfl, rfl⟩
theorem cell_whole : CellWhole cc := by
  intro d S h1 h6 hl hS
  obtain ⟨h, H⟩ := j_run h1 h6 (mok_cell d 12 8) S hS
  have hbg := bg_le (mCell cc d 12 8) S 0
  generalize plyG (mCell cc d 12 8) 0 S (g0 (mCell cc d 12 8)) = g at H hbg
  have hV : h.V ≤ 12 := by
    have h0 : (mCell cc d 12 8).ts[0]?.getD [] = putJ d 12 := by simp [mCell]
    rw [h0, putJ_len] at hbg
    have := H.Vbg; omega
  refine ⟨H.err, fun i => match (dgs g.out)[i]? with | none => 0 | some x => if x.th ≠ 0 ∧ x.e ≠ -1 then h.tl x.th x.cl else 0, ?_⟩
  have hI := H.hist
  have hmem : ∀ {i : Nat} {x : Dg}, (dgs g.out)[i]? = some x → x ∈ dgs g.out := fun hx => List.mem_of_getElem? hx
  refine ⟨fun i x hx hh => ?_, fun i x hx => ?_, fun i x hx q1 q2 => ?_, fun i x hx q1 q2 hn => ?_, fun i x hx q1 q2 k y hy y1 y2 => ?_, fun i x hx q1 q2 k y hy y1 y2 y3 => ?_, fun i x hx q1 q2 k y hy y1 y2 y3 => ?_⟩
  · simp only [hx]
    rw [if_neg]
    rintro ⟨a, b⟩
    rcases hh with hh | hh
    · exact a hh
    · exact b hh
  · simp only [hx]
    split
    · rename_i hh
      exact Nat.le_trans (hI.gV x (hmem hx) hh.1 hh.2) hV
    · omega
  · simp only [hx]
    rw [if_pos ⟨q1, q2⟩]
    exact hI.told x (hmem hx) q1 q2
  · simp only [hx] at hn ⊢
    rw [if_pos ⟨q1, q2⟩] at hn ⊢
    have h2 := hI.gV x (hmem hx) q1 q2
    have h3 := H.Vbg
    obtain ⟨y, hy, e1, e2⟩ := H.hs.all 0 (h.tl x.th x.cl - 1) (by omega)
    obtain ⟨k, hk⟩ := List.mem_iff_getElem?.1 hy
    exact ⟨k, y, hk, e1, by omega⟩
  · simp only [hx] at y2
    rw [if_pos ⟨q1, q2⟩] at y2
    exact hI.early x (hmem hx) q1 q2 y (hmem hy) y1 y2
  · simp only [hx]
    rw [if_pos ⟨q1, q2⟩]
    exact (hI.ord x (hmem hx) q1 q2 y (hmem hy) y2 y3).1 y1
  · simp only [hx, hy]
    rw [if_pos ⟨y1, y2⟩, if_pos ⟨q1, q2⟩]
    exact (hI.ord x (hmem hx) q1 q2 y (hmem hy) y2 y3).2 y1
theorem count_nat {l : List Int} (h : ∀ x ∈ l, 0 ≤ x) (n : Nat) : l.count (n : Int) = (l.map Int.toNat).count n := by
  induction l with
  | nil => rfl
  | cons a l ih =>
    have ha := h a (by simp)
    rw [List.map_cons, List.count_cons, List.count_cons, ih (fun x hx => h x (by simp [hx]))]
    congr 1
    by_cases he : a = n
    · subst he; simp
    · have : ¬ a.toNat = n := by omega
      simp [he, this]
theorem cell_ends : CellEnds cc := by
  intro d S h1 h6 hl hS
  have hT4 : ∀ x ∈ endS S, 0 ≤ x ∧ x < 4 := by
    intro x hx
    unfold endS at hx
    rcases List.mem_append.1 hx with hx | hx
    · rcases List.mem_append.1 hx with hx | hx
      · exact hS x hx
      · rw [List.eq_of_mem_replicate hx]; omega
    · rw [List.eq_of_mem_replicate hx]; omega
  have hN4 : ∀ n ∈ (endS S).map Int.toNat, n < 4 := by
    intro n hn
    obtain ⟨x, hx, rfl⟩ := List.mem_map.1 hn
    have := hT4 x hx; omega
  obtain ⟨A, hA, hAl⟩ : ∃ A : List Nat, (endS S).map Int.toNat = A ++ List.replicate 80 1 ∧ A.length = S.length + 80 := ⟨(S ++ List.replicate 80 0).map Int.toNat, by simp [endS], by simp⟩
  have hTl : (endS S).length = ((endS S).map Int.toNat).length := by simp
  obtain ⟨h, H⟩ := j_run h1 h6 (mok_cell d 12 8) _ hN4
  have hA4 : ∀ n ∈ A, n < 4 := fun n hn => hN4 n (by rw [hA]; simp [hn])
  obtain ⟨hA', HA⟩ := j_run h1 h6 (mok_cell d 12 8) A hA4
  have hlt := fun (x : Dg) hx => @ply_later (mCell cc d 12 8) A (List.replicate 80 1) x hx
  rw [← hA] at hlt
  have hop : ∀ x ∈ dgs (plyG (mCell cc d 12 8) 0 ((endS S).map Int.toNat) (g0 (mCell cc d 12 8))).out, x.th = 1 → x.e = -1 → S.length + 80 < x.b := by
    intro x hx hx1 hxe
    rcases Nat.lt_or_ge (S.length + 80) x.b with hlt | hge
    · exact hlt
    · exfalso
      have := (H.few h6 hx).1 hxe
      rw [hx1, if_neg (by omega), hA, List.drop_append_of_le_length (by omega), List.count_append] at this
      simp at this
  refine ⟨H.err, ⟨fun x hx hx0 => ?_, fun _ => ⟨hop, ?_⟩⟩⟩
  · have hf := H.few h6 hx
    rw [hx0, if_pos rfl] at hf
    obtain ⟨c1, c2, c3⟩ := H.cnt x hx
    unfold spn
    rw [hx0, count_nat (fun y hy => (hT4 y (List.mem_of_mem_take (List.mem_of_mem_drop hy))).1), List.map_drop, List.map_take]
    unfold spHi
    by_cases he : x.e = -1
    · rw [if_pos he, hTl, List.take_length]
      have := hf.1 he; omega
    · rw [if_neg he, Nat.min_eq_right (by have := (c3 he).1; rw [hTl]; omega)]
      have := hf.2 he; omega
  · -- what thread 1 does at the first of the last eighty steps
    have hst : ∃ gA, gA = plyG (mCell cc d 12 8) 0 A (g0 (mCell cc d 12 8)) := ⟨_, rfl⟩
    obtain ⟨gA, hgA⟩ := hst
    rw [← hgA] at HA hlt
    have h8 : (mCell cc d 12 8).ts[1]?.getD [] = getJ 8 := by simp [mCell]
    rcases bgG_cases (mCell cc d 12 8) gA A.length 1 with ⟨_, hb | ⟨hb1, hb2⟩⟩ | ⟨c, hb1, hb2, hb3⟩
    · obtain ⟨x, hx, x1, x2, x3, x4⟩ := HA.hs.live hb
      obtain ⟨x', hx', y1, y2, y3, y4, y5⟩ := hlt x hx
      refine .inl ⟨x', hx', by rw [y1, x1], ?_⟩
      rcases y5 x3 with y5 | y5
      · have := hop x' hx' (by rw [y1, x1]) y5
        have := (HA.hs.bnd x hx).1
        omega
      · omega
    · rw [h8, getJ_len] at hb2
      obtain ⟨x, hx, x1, x2⟩ := HA.hs.all 1 7 (by omega)
      have hxe : x.e ≠ -1 := fun he => by
        have := ((HA.hs.opn x hx).1 he).1
        rw [x1] at this; exact this hb1
      obtain ⟨x', hx', y1, y2, y3, y4, y5⟩ := hlt x hx
      obtain rfl := y4 hxe
      refine .inr ⟨x', hx', x1, x2, hxe, ?_⟩
      have := ((HA.hs.bnd x' hx).2 hxe).2
      omega
    · -- a call begins at this step
      have hA1 : ∃ x ∈ dgs (plyG (mCell cc d 12 8) 0 (A ++ [1]) (g0 (mCell cc d 12 8))).out, x.th = 1 ∧ x.b = A.length ∧ (x.e = -1 ∨ x.e = A.length) := by
        rw [ply_snoc, ← hgA, actG_eq, hb3]
        obtain ⟨es, q1, q2⟩ : ∃ es, (exG ⟨gA.w, putT gA.th 1 ⟨some (live ((mCell cc d 12 8).cs[c.k.toNat]?.getD []) c.ar), (gA.th 1).bg + 1⟩, gA.out ++ [⟨A.length, 1, (gA.th 1).bg, false, 0, []⟩]⟩ A.length 1).out = (gA.out ++ [⟨A.length, 1, (gA.th 1).bg, false, 0, []⟩]) ++ es ∧ ∀ e ∈ es, e.st = A.length := by
          unfold exG
          dsimp only
          rw [putT_same]
          exact actL_out _ _ _ _ _ _
        rw [q1]
        have : dgs ((gA.out ++ [⟨A.length, 1, (gA.th 1).bg, false, 0, []⟩]) ++ es) = es.foldl dg1 (dgs gA.out ++ [⟨A.length, -1, 1, (gA.th 1).bg, []⟩]) := by
          rw [← dgs_begin]; simp [dgs, List.foldl_append]
        rw [this]
        have hup : ∀ (es : List Ev) (l : List Dg) (d : Dg), (∀ e ∈ es, e.st = A.length) → d ∈ l → (d.e = -1 ∨ d.e = A.length) → ∃ d' ∈ es.foldl dg1 l, d'.th = d.th ∧ d'.b = d.b ∧ (d'.e = -1 ∨ d'.e = A.length) := by
          intro es
          induction es with
          | nil => intro l d _ hd he; exact ⟨d, hd, rfl, rfl, he⟩
          | cons x es ih =>
            intro l d hes hd he
            rw [List.foldl_cons]
            by_cases hen : x.en = true
            · rw [dg1_end _ _ hen]
              have hfe : (d.fin x).e = -1 ∨ (d.fin x).e = A.length := by
                unfold Dg.fin
                split
                · exact .inr (by dsimp only; rw [hes x (by simp)])
                · exact he
              obtain ⟨d', k1, k2, k3, k4⟩ := ih (l.map (fun d => d.fin x)) (d.fin x) (fun e he => hes e (by simp [he])) (List.mem_map.2 ⟨d, hd, rfl⟩) hfe
              refine ⟨d', k1, ?_, ?_, k4⟩
              · rw [k2]; unfold Dg.fin; split <;> rfl
              · rw [k3]; unfold Dg.fin; split <;> rfl
            · rw [dg1_begin _ _ (by simpa using hen)]
              exact ih _ d (fun e he => hes e (List.mem_cons_of_mem _ he)) (List.mem_append_left _ hd) he
        obtain ⟨d', k1, k2, k3, k4⟩ := hup es (dgs gA.out ++ [⟨A.length, -1, 1, (gA.th 1).bg, []⟩]) ⟨A.length, -1, 1, (gA.th 1).bg, []⟩ q2 (by simp) (.inl rfl)
        exact ⟨d', k1, k2, k3, k4⟩
      obtain ⟨x, hx, x1, x2, x3⟩ := hA1
      have hlt2 := ply_later (mCell cc d 12 8) (A ++ [1]) (List.replicate 79 1) hx
      rw [List.append_assoc, show [1] ++ List.replicate 79 1 = List.replicate 80 1 from rfl, ← hA] at hlt2
      obtain ⟨x', hx', y1, y2, y3, y4, y5⟩ := hlt2
      refine .inl ⟨x', hx', by rw [y1, x1], ?_⟩
      rcases x3 with x3 | x3
      · rcases y5 x3 with y5 | y5
        · have := hop x' hx' (by rw [y1, x1]) y5
          omega
        · simp at y5; omega
      · rw [y4 (by omega)]; omega
end Go.Baro.Cel

set_option linter.unusedSimpArgs false
set_option linter.unusedVariables false
namespace Go.Proofs.YtjihopbapnfppabDoor
open Go.RowKit Go.Ord Go.Baro Go.Maps

/-- The codes as the builder makes them. -/
def putM (d : Nat) : Bs := cell_choose d (cell_mark d (Bs.new (numL d)))
def putS (d j : Nat) : Bs := (List.range j).foldl (fun (s : Bs) (i : Nat) => s.store (nmNum i) nm_copy (8 + (i : Int))) (putM d)
def putB (d : Nat) : Bs := cell_give ((putS d d).store nm_copy nm_zero 6)
def getM : Bs := cell_take (cell_sit (Bs.new []))
def getS (j : Nat) : Bs := (List.range j).foldl (fun (s : Bs) (i : Nat) => s.load (nmNum i) nm_copy (1 + (i : Int))) getM
def getB (d : Nat) : Bs := (((getS d).set nm_free 0).store nm_free nm_seat 2).emit (numL d)
instance : DecidableEq Ins := fun a b => by
  obtain ⟨a1, a2, a3, a4, a5⟩ := a
  obtain ⟨b1, b2, b3, b4, b5⟩ := b
  rw [Ins.mk.injEq]
  infer_instance
theorem putB_fin (d : Nat) (h1 : 1 ≤ d) (h6 : d ≤ 6) : (putB d).fin = some (Cel.putC d) ∧ (∀ j ∈ (putB d).jmps, 0 ≤ j.1 ∧ j.2.length ≤ 1000) ∧ (putB d).jmps.length ≤ 1000 := by
  rcases (by omega : d = 1 ∨ d = 2 ∨ d = 3 ∨ d = 4 ∨ d = 5 ∨ d = 6) with rfl | rfl | rfl | rfl | rfl | rfl <;> exact ⟨by kernel_rfl, by decide +kernel, by decide +kernel⟩
theorem getB_fin (d : Nat) (h1 : 1 ≤ d) (h6 : d ≤ 6) : (getB d).fin = some (Cel.getC d) ∧ (∀ j ∈ (getB d).jmps, 0 ≤ j.1 ∧ j.2.length ≤ 1000) ∧ (getB d).jmps.length ≤ 1000 := by
  rcases (by omega : d = 1 ∨ d = 2 ∨ d = 3 ∨ d = 4 ∨ d = 5 ∨ d = 6) with rfl | rfl | rfl | rfl | rfl | rfl <;> exact ⟨by kernel_rfl, by decide +kernel, by decide +kernel⟩
theorem numL_new (d : Nat) (h6 : d ≤ 6) : ∀ (j : Nat) l, (numL d)[j]? = some l → nmAsk (Bs.new ((numL d).take j)).regs l = none := by
  intro j l hl
  have hj : j < d := by have := (List.getElem?_eq_some_iff.1 hl).1; rw [numL_len] at this; exact this
  have he : l = nmNum j := by simp [numL, hj] at hl; exact hl.symm
  have ht : (numL d).take j = numL j := by simp [numL, ← List.map_take, List.take_range, Nat.min_eq_left (Nat.le_of_lt hj)]
  rw [ht, he]
  rcases (by omega : j = 0 ∨ j = 1 ∨ j = 2 ∨ j = 3 ∨ j = 4 ∨ j = 5) with rfl | rfl | rfl | rfl | rfl | rfl <;> decide +kernel
theorem numL_short (d : Nat) : ∀ x ∈ numL d, x.length ≤ 1000 := by
  intro x hx
  obtain ⟨i, _, rfl⟩ := List.mem_map.1 hx
  show 8 ≤ 1000
  omega
theorem numL_at {d j : Nat} (h : j < d) : (numL d)[j]? = some (nmNum j) := by simp [numL, h]
theorem labs_mark (d : Nat) (s : Bs) : (cell_mark d s).labs = s.labs := by
  unfold cell_mark
  rw [labs_fold (fun b a => by rw [labs_store, labs_load]), labs_store, labs_load, labs_set, labs_fold (fun b a => by rw [labs_store])]
theorem cell_valid (w : World) (d : Int) (hd : inW d) : Calls Tryd.prog 18 #[.int .i64 d] w fun e w' => e = .returned (.bool (decide (1 ≤ d ∧ d ≤ 6))) ∧ w = w' := by
  by_cases h1 : 1 ≤ d
  · by_cases h6 : d ≤ 6
    · go_enter Tryd.func18, Tryd.ntmps18
      go_wp2
      go_ret
      exact ⟨ret_bool (by simp [h1, h6]), rfl⟩
    · have h7 : 6 < d := by omega
      go_enter Tryd.func18, Tryd.ntmps18
      go_wp2
      go_ret
      exact ⟨ret_bool (by simp; omega), rfl⟩
  · have h7 : d < 1 := by omega
    go_enter Tryd.func18, Tryd.ntmps18
    go_wp2
    go_ret
    exact ⟨ret_bool (by simp; omega), rfl⟩
theorem own_cap {w : World} {B : Nat} {e : TypeId} {s n : Nat} {v : Value} {xs : List Value} (h : w.ownsRow B e s v n xs) : ∃ A k, v = .slice A n k ∧ n ≤ k ∧ k ≤ 9223372036854775807 := by
  rcases h.2 with ⟨rfl, rfl⟩ | ⟨g, cap, cur, rfl, _, _, h1, h2, _⟩
  · exact ⟨_, _, rfl, Nat.le_refl _, by omega⟩
  · exact ⟨_, _, rfl, h1, by unfold maxLen at h2; omega⟩
theorem eltIntC : Elt Tryd.prog 22 3 (.int .i64 0) 1 8 := Elt.mk' Tryd.underlying22 (by kernel_rfl) rfl (by decide)
set_option maxHeartbeats 1000000 in
theorem cell_Words : CellWordsSpec Cel.cc := by
  intro w d hd
  have hd' := hd
  unfold inW at hd'
  by_cases hx : 1 ≤ d ∧ d ≤ 6
  · obtain ⟨n, rfl⟩ : ∃ n : Nat, d = n := ⟨d.toNat, by omega⟩
    go_enter Tryd.func7, Tryd.ntmps7
    go_wp2_with fail
    refine (cell_valid _ _ hd).mono ?_
    rintro e w' ⟨he, rfl⟩
    rw [decide_eq_true hx] at he
    subst he
    go_wp2_with fail
    refine (cell_size _ n (by omega)).mono ?_
    rintro e w' ⟨rfl, rfl⟩
    go_wp2_with (refine make_all eltIntC w rfl _ _ rfl w.heap.size .i64 .i64 _ _ (7 + 5 * (1 + n)) rfl rfl (by omega) (by omega) (by omega) (by omega) (Nat.le_refl _) ?_; intro w1 hown1 hb1 hs1 hg1)
    go_ret2
    have hb := hb1 w (Below.refl _ _)
    refine ⟨fun _ => ?_, fun h => absurd hx h, hb⟩
    have hq := QT.own hown1
    refine ⟨_, _, _, rfl, Nat.le_refl _, by omega, ?_⟩
    rw [madeCells_one _ rfl] at hq
    simpa [Cel.cc, Cel.wsC] using hq
  · go_enter Tryd.func7, Tryd.ntmps7
    go_wp2_with fail
    refine (cell_valid _ _ hd).mono ?_
    rintro e w' ⟨he, rfl⟩
    rw [decide_eq_false hx] at he
    subst he
    go_wp2
    go_ret2
    exact ⟨fun h => absurd h hx, fun _ => ⟨_, _, rfl⟩, Below.refl _ _⟩
end Go.Proofs.YtjihopbapnfppabDoor

set_option linter.unusedSimpArgs false
set_option linter.unusedVariables false
namespace Go.Proofs.YtjihopbapnfppabDoor
open Go.RowKit Go.Ord Go.Baro Go.Maps

set_option maxRecDepth 100000 in
set_option maxHeartbeats 4000000 in
theorem cell_Put : CellCodeSpec 8 Cel.cc.cp := by
  intro w hT d hd
  have hd' := hd
  unfold inW at hd'
  by_cases hx : 1 ≤ d ∧ d ≤ 6
  · obtain ⟨n, rfl⟩ : ∃ n : Nat, d = n := ⟨d.toNat, by omega⟩
    have h1 : 1 ≤ n := by omega
    have h6 : n ≤ 6 := by omega
    have HT := Lib.hid hT
    clear hT
    go_enter Tryd.func8, Tryd.ntmps8
    go_wp2_with fail
    refine (cell_valid _ _ hd).mono ?_
    rintro e w' ⟨he, rfl⟩
    rw [decide_eq_true hx] at he
    subst he
    go_wp2_with fail
    refine (cell_numbers _ n h6).mono ?_
    rintro e w1 ⟨A, c, rfl, hc, hqn, hb1⟩
    have HQ := Lib.hid hqn
    clear hqn
    go_wp2_with fail
    refine (asm_New _ A n c (numL n) HQ.out (by omega) (numL_short n) (numL_new n h6)).mono ?_
    rintro e w2 ⟨b, rfl, H⟩
    have HP := Lib.hid H
    clear H
    go_wp2_with fail
    refine (cell_mark_ok _ w1.heap.size b n (Bs.new (numL n)) n HP.out.1 (by omega) h6).mono ?_
    rintro e w3 ⟨rfl, H⟩
    have HP3 := Lib.hid (HP.out.trans H)
    clear H HP
    go_wp2_with fail
    refine (cell_choose_ok _ w1.heap.size b _ (cell_mark n (Bs.new (numL n))) n HP3.out.1 (by omega) h6 (by rw [labs_mark, labs_new]; rfl)).mono ?_
    rintro e w4 ⟨rfl, H⟩
    have HP4 := Lib.hid (HP3.out.trans H)
    clear H HP3
    go_wp2
    go_loopw [23] (fun i wr => ∃ j : Nat, j ≤ n ∧ i = .int .i64 j ∧ Hid (AsmPost w1 w1.heap.size b (putS n j) (n + 47 + 15 + 3 * j) wr)) (fun i _ => n - (intOf i).toNat)
    case atStart => exact ⟨0, Nat.zero_le _, rfl, HP4.out⟩
    case round =>
      obtain ⟨j, hj, rfl, HPj⟩ := hrel
      by_cases hjn : j < n
      · obtain ⟨g, o, l, rfl, hgB, hcell, HXL⟩ := (HQ.out.kc HPj.out.2.1).val hjn
        obtain rfl : l = nmNum j := by have := HXL.out; rw [numL_at hjn] at this; injection this with h; exact h.symm
        go_wp2_with fail
        refine (asm_StoreE _ w1.heap.size b _ (putS n j) (nmNum j) nm_copy _ (8 + (j : Int)) (by first | rfl | omega) HPj.out.1 (by omega) (by show 8 ≤ 1000; omega) (by decide)).mono ?_
        rintro e w5 ⟨rfl, H⟩
        have HP5 := Lib.hid (HPj.out.trans H)
        clear H
        go_wp2
        go_roundw
        case rel =>
          refine ⟨j + 1, by omega, by go_num, ?_⟩
          unfold putS
          rw [List.range_succ, List.foldl_append, show n + 47 + 15 + 3 * (j + 1) = n + 47 + 15 + 3 * j + 3 by omega]
          exact HP5.out
        case measure => simp [intOf]; omega
      · obtain rfl : j = n := by omega
        go_wp2_with fail
        refine (asm_StoreE _ w1.heap.size b _ (putS j j) nm_copy nm_zero _ 6 rfl HPj.out.1 (by omega) (by decide) (by decide)).mono ?_
        rintro e w5 ⟨rfl, H⟩
        have HP5 := Lib.hid (HPj.out.trans H)
        clear H
        go_wp2_with fail
        refine (cell_give_ok _ w1.heap.size b _ ((putS j j).store nm_copy nm_zero 6) HP5.out.1 (by omega)).mono ?_
        rintro e w6 ⟨rfl, H⟩
        have HP6 := Lib.hid (HP5.out.trans H)
        clear H
        obtain ⟨f1, f2, f3⟩ := putB_fin j h1 h6
        have hb6 : Below w.heap.size w w6 := hb1.trans (HP6.out.2.2.mono hb1.size)
        go_wp2_with fail
        refine (asm_Code _ (HT.out.below hb6 HT.out.lt) w1.heap.size b _ (putB j) (Cel.putC j) HP6.out.1 f1 f2 f3).mono ?_
        rintro e w7 ⟨v, rfl, hown, hb7⟩
        obtain ⟨A7, k7, rfl, hk7, hk8⟩ := own_cap hown
        go_wp2
        go_ret2
        exact ⟨fun _ => ⟨_, _, _, rfl, hk7, hk8, QT.own hown⟩, fun h => absurd hx h, hb6.trans (hb7.mono hb6.size)⟩
  · clear hT
    go_enter Tryd.func8, Tryd.ntmps8
    go_wp2_with fail
    refine (cell_valid _ _ hd).mono ?_
    rintro e w' ⟨he, rfl⟩
    rw [decide_eq_false hx] at he
    subst he
    go_wp2
    go_ret2
    exact ⟨fun h => absurd h hx, fun _ => ⟨_, _, rfl⟩, Below.refl _ _⟩
set_option maxRecDepth 100000 in
set_option maxHeartbeats 4000000 in
theorem cell_Get : CellCodeSpec 9 Cel.cc.cg := by
  intro w hT d hd
  have hd' := hd
  unfold inW at hd'
  by_cases hx : 1 ≤ d ∧ d ≤ 6
  · obtain ⟨n, rfl⟩ : ∃ n : Nat, d = n := ⟨d.toNat, by omega⟩
    have h1 : 1 ≤ n := by omega
    have h6 : n ≤ 6 := by omega
    have HT := Lib.hid hT
    clear hT
    go_enter Tryd.func9, Tryd.ntmps9
    go_wp2_with fail
    refine (cell_valid _ _ hd).mono ?_
    rintro e w' ⟨he, rfl⟩
    rw [decide_eq_true hx] at he
    subst he
    go_wp2_with fail
    refine (cell_numbers _ n h6).mono ?_
    rintro e w1 ⟨A, c, rfl, hc, hqn, hb1⟩
    have HQ := Lib.hid hqn
    clear hqn
    go_wp2_with fail
    refine (asm_New _ none 0 0 [] (QT.nil _ _ _ _) (by omega) (by simp) (by simp)).mono ?_
    rintro e w2 ⟨b, rfl, H⟩
    have HP := Lib.hid H
    clear H
    go_wp2_with fail
    refine (cell_sit_ok _ w1.heap.size b 0 (Bs.new []) HP.out.1 (by omega) rfl rfl).mono ?_
    rintro e w3 ⟨rfl, H⟩
    have HP3 := Lib.hid (HP.out.trans H)
    clear H HP
    go_wp2_with fail
    refine (cell_take_ok _ w1.heap.size b _ (cell_sit (Bs.new [])) HP3.out.1 (by omega)).mono ?_
    rintro e w4 ⟨rfl, H⟩
    have HP4 := Lib.hid (HP3.out.trans H)
    clear H HP3
    go_wp2
    go_loopw [20] (fun i wr => ∃ j : Nat, j ≤ n ∧ i = .int .i64 j ∧ Hid (AsmPost w1 w1.heap.size b (getS j) (0 + 21 + 18 + 3 * j) wr)) (fun i _ => n - (intOf i).toNat)
    case atStart => exact ⟨0, Nat.zero_le _, rfl, HP4.out⟩
    case round =>
      obtain ⟨j, hj, rfl, HPj⟩ := hrel
      by_cases hjn : j < n
      · obtain ⟨g, o, l, rfl, hgB, hcell, HXL⟩ := (HQ.out.kc HPj.out.2.1).val hjn
        obtain rfl : l = nmNum j := by have := HXL.out; rw [numL_at hjn] at this; injection this with h; exact h.symm
        go_wp2_with fail
        refine (asm_LoadE _ w1.heap.size b _ (getS j) (nmNum j) nm_copy _ (1 + (j : Int)) (by first | rfl | omega) HPj.out.1 (by omega) (by show 8 ≤ 1000; omega) (by decide)).mono ?_
        rintro e w5 ⟨rfl, H⟩
        have HP5 := Lib.hid (HPj.out.trans H)
        clear H
        go_wp2
        go_roundw
        case rel =>
          refine ⟨j + 1, by omega, by go_num, ?_⟩
          unfold getS
          rw [List.range_succ, List.foldl_append, show 0 + 21 + 18 + 3 * (j + 1) = 0 + 21 + 18 + 3 * j + 3 by omega]
          exact HP5.out
        case measure => simp [intOf]; omega
      · obtain rfl : j = n := by omega
        go_wp2_with fail
        refine (asm_SetE _ w1.heap.size b _ (getS j) nm_free _ 0 rfl HPj.out.1 (by omega) (by decide)).mono ?_
        rintro e w5 ⟨rfl, H⟩
        have HP5 := Lib.hid (HPj.out.trans H)
        clear H
        go_wp2_with fail
        refine (asm_StoreE _ w1.heap.size b _ ((getS j).set nm_free 0) nm_free nm_seat _ 2 rfl HP5.out.1 (by omega) (by decide) (by decide)).mono ?_
        rintro e w6 ⟨rfl, H⟩
        have HP6a := Lib.hid (HP5.out.trans H)
        clear H
        go_wp2_with fail
        refine (asm_Emit _ w1.heap.size b _ (((getS j).set nm_free 0).store nm_free nm_seat 2) A j c (numL j) HP6a.out.1 (by omega) (HQ.out.kc HP6a.out.2.1) (by omega) (numL_short j)).mono ?_
        rintro e w6 ⟨rfl, H⟩
        have HP6 := Lib.hid (HP6a.out.trans H)
        clear H
        obtain ⟨f1, f2, f3⟩ := getB_fin j h1 h6
        have hb6 : Below w.heap.size w w6 := hb1.trans (HP6.out.2.2.mono hb1.size)
        go_wp2_with fail
        refine (asm_Code _ (HT.out.below hb6 HT.out.lt) w1.heap.size b _ (getB j) (Cel.getC j) HP6.out.1 f1 f2 f3).mono ?_
        rintro e w7 ⟨v, rfl, hown, hb7⟩
        obtain ⟨A7, k7, rfl, hk7, hk8⟩ := own_cap hown
        go_wp2
        go_ret2
        exact ⟨fun _ => ⟨_, _, _, rfl, hk7, hk8, QT.own hown⟩, fun h => absurd hx h, hb6.trans (hb7.mono hb6.size)⟩
  · clear hT
    go_enter Tryd.func9, Tryd.ntmps9
    go_wp2_with fail
    refine (cell_valid _ _ hd).mono ?_
    rintro e w' ⟨he, rfl⟩
    rw [decide_eq_false hx] at he
    subst he
    go_wp2
    go_ret2
    exact ⟨fun h => absurd h hx, fun _ => ⟨_, _, rfl⟩, Below.refl _ _⟩
end Go.Proofs.YtjihopbapnfppabDoor

set_option linter.unusedSimpArgs false
set_option linter.unusedVariables false
namespace Go.Proofs.YtjihopbapnfppabDoor
open Go.RowKit Go.Ord Go.Baro
instance (x : Int) : Decidable (inW x) := by unfold inW; infer_instance
instance (o : Ins) : Decidable (inI o) := by unfold inI; infer_instance
theorem cc_ok : Cel.cc.Ok := by
  refine ⟨fun d h1 h6 => ?_, fun d h1 h6 => ?_, fun d h1 h6 => ?_⟩
  · show 0 < (Cel.wsC d).length ∧ (Cel.wsC d).length ≤ 64 ∧ ∀ x ∈ Cel.wsC d, inW x
    refine ⟨by simp [Cel.wsC]; omega, by simp [Cel.wsC]; omega, fun x hx => ?_⟩
    rw [List.eq_of_mem_replicate hx]; unfold inW; omega
  · show 0 < (Cel.putC d).length ∧ okC (Cel.putC d) ∧ ∀ o ∈ Cel.putC d, inI o
    rcases (by omega : d = 1 ∨ d = 2 ∨ d = 3 ∨ d = 4 ∨ d = 5 ∨ d = 6) with rfl | rfl | rfl | rfl | rfl | rfl <;> decide +kernel
  · show 0 < (Cel.getC d).length ∧ okC (Cel.getC d) ∧ ∀ o ∈ Cel.getC d, inI o
    rcases (by omega : d = 1 ∨ d = 2 ∨ d = 3 ∨ d = 4 ∨ d = 5 ∨ d = 6) with rfl | rfl | rfl | rfl | rfl | rfl <;> decide +kernel
end Go.Proofs.YtjihopbapnfppabDoor

set_option linter.unusedSimpArgs false
set_option linter.unusedVariables false
namespace Go.Baro
open Go.RowKit

theorem grown_setCells : ∀ (cs : List Value) (w : World) (b o : Nat), w.grownBy (w.setCells b o cs) (some b)
  | [], w, b, o => World.grownBy.refl w _
  | v :: cs, w, b, o => grown_trans (grown_setCell w ⟨b, o, none⟩ v) (grown_setCells cs _ b (o + 1))
theorem box_setCells {b : Nat} {T : TypeId} {post : List Value} : ∀ (cs old pre : List Value) (w : World) (o : Nat), Box w b T (pre ++ (old ++ post)) → old.length = cs.length → pre.length = o → Box (w.setCells b o cs) b T (pre ++ (cs ++ post))
  | [], old, pre, w, o, h, hl, ho => by
    have : old = [] := List.eq_nil_of_length_eq_zero (by simpa using hl)
    subst this
    exact h
  | v :: cs, [], pre, w, o, h, hl, ho => by simp at hl
  | v :: cs, u :: old, pre, w, o, h, hl, ho => by
    have h1 := h.set o v
    rw [List.set_append_right _ _ (by omega), ho, Nat.sub_self, List.cons_append, List.set_cons_zero] at h1
    have h2 : Box (w.setCell ⟨b, o, none⟩ v) b T ((pre ++ [v]) ++ (old ++ post)) := by
      rw [List.append_assoc]; exact h1
    have h3 := box_setCells cs old (pre ++ [v]) _ (o + 1) h2 (by simpa using hl) (by simp [ho])
    rw [List.append_assoc] at h3
    exact h3
theorem box_there {w : World} {b o : Nat} {T : TypeId} {pre old post : List Value} (h : Box w b T (pre ++ (old ++ post))) (ho : pre.length = o) : w.there b o old.length := by
  intro j hj
  refine ⟨?_, h.frozen _⟩
  have := h.cell (pre.length + j)
  rw [mid_at hj, ho] at this
  rw [this, List.getElem?_eq_getElem hj]
  rfl
theorem box_range {w : World} {b o : Nat} {T : TypeId} {pre old post : List Value} (h : Box w b T (pre ++ (old ++ post))) (ho : pre.length = o) : w.rangeAt b o old := by
  intro j v hv
  have hj := (List.getElem?_eq_some_iff.1 hv).1
  have := h.cell (pre.length + j)
  rw [mid_at hj, ho] at this
  rw [this, hv]
/-- A struct is stored into the middle of a block. -/
theorem store_mid {P : Program} {ops : Array Oper} {rest : List Oper} {op : Oper} {a : Act} {w : World} {Q : Exit → Act → World → Prop} (hgd : op.guard = none) (hdst : op.dst = none) (ty : TypeId) (x y : Operand) (hop : op.op = .store ty x y)
    (b o : Nat) (cells : List Value) (hx : a.eval x = .pointer (some ⟨b, o, none⟩)) (hy : a.eval y = .agg cells.toArray) (T : TypeId) (pre old post : List Value) (h : Box w b T (pre ++ (old ++ post))) (ho : pre.length = o) (hl : old.length = cells.length)
    (hi : (P.info? ty).map (·.size) = some cells.length) (h1 : ∀ v ∈ cells, v.oneCell' = true) (hK : ∀ w', Hid (Box w' b T (pre ++ (cells ++ post))) → w.grownBy w' (some b) → wpList P ops Q rest a w') : wpList P ops Q (op :: rest) a w := by
  refine wpList_store_mid hgd ty x y hop b o cells.toArray hx hy (by have := box_there h ho; rw [hl] at this; simpa using this) (by simpa using hi) (all_oneCell_toArray h1) ?_
  rw [hdst]
  exact hK _ (box_setCells cells old pre w o h hl ho) (grown_setCells cells w b o)
/-- A struct is read out of the middle of a block. -/
theorem load_mid {P : Program} {ops : Array Oper} {rest : List Oper} {op : Oper} {a : Act} {w : World} {Q : Exit → Act → World → Prop} (hgd : op.guard = none) (ty : TypeId) (x : Operand) (hop : op.op = .load ty x)
    (b o : Nat) (hx : a.eval x = .pointer (some ⟨b, o, none⟩)) (T : TypeId) (pre cells post : List Value) (h : Box w b T (pre ++ (cells ++ post))) (ho : pre.length = o) (d : TypeDesc) (hu : P.underlying ty = some d) (hd : d.isRow = true) (hi : (P.info? ty).map (·.size) = some cells.length)
    (hK : wpList P ops Q rest (a.put op.dst (.agg cells.toArray)) w) : wpList P ops Q (op :: rest) a w :=
  wpList_load_mid hgd ty x hop b o hx cells d (box_range h ho) hu hd hi hK
end Go.Baro

set_option linter.unusedSimpArgs false
set_option linter.unusedVariables false
namespace Go.Baro

/-- An event with the number of its step. -/
def inSt (st : Nat) (e : Ev) : Ev := { e with st := st }
theorem actL_zero (g : Gs) (st n bg : Nat) (l : Lv) (o a : List Ev) : actL g st n bg l (a ++ o.map (inSt st)) = ⟨(actL ⟨g.w, g.th, []⟩ 0 n bg l o).w, (actL ⟨g.w, g.th, []⟩ 0 n bg l o).th, a ++ (actL ⟨g.w, g.th, []⟩ 0 n bg l o).out.map (inSt st)⟩ := by
  unfold actL
  dsimp only
  by_cases h : (exc l g.w).2.2.2 = true
  · rw [if_pos h, if_pos h]; simp [inSt]
  · rw [if_neg h, if_neg h]
theorem actG_zero (m : Mc) (g : Gs) (st n : Nat) : actG m g st n = ⟨(actG m ⟨g.w, g.th, []⟩ 0 n).w, (actG m ⟨g.w, g.th, []⟩ 0 n).th, g.out ++ (actG m ⟨g.w, g.th, []⟩ 0 n).out.map (inSt st)⟩ := by
  unfold actG
  dsimp only
  cases (g.th n).now with
  | some l =>
    have := actL_zero g st n (g.th n).bg l [] g.out
    simpa using this
  | none =>
    dsimp only
    cases (m.ts[n]?.getD [])[(g.th n).bg]? with
    | none => simp
    | some c =>
      have := actL_zero g st n ((g.th n).bg + 1) (live (m.cs[c.k.toNat]?.getD []) c.ar) [⟨0, n, (g.th n).bg, false, 0, []⟩] g.out
      simpa [inSt] using this
/-- What a thread does, of itself: its state, the words, the events. -/
def actT (m : Mc) (n : Nat) (t : Td) (w : List Int) : Gs := actG m ⟨w, fun _ => t, []⟩ 0 n
theorem actL_T (th : Nat → Td) (w : List Int) (n bg : Nat) (l : Lv) (o : List Ev) (t : Td) : (actL ⟨w, th, []⟩ 0 n bg l o) = ⟨(actL ⟨w, fun _ => t, []⟩ 0 n bg l o).w, putT th n ((actL ⟨w, fun _ => t, []⟩ 0 n bg l o).th n), (actL ⟨w, fun _ => t, []⟩ 0 n bg l o).out⟩ := by
  unfold actL
  dsimp only
  by_cases h : (exc l w).2.2.2 = true
  · rw [if_pos h, if_pos h]; simp [putT]
  · rw [if_neg h, if_neg h]; simp [putT]
theorem putT_self (th : Nat → Td) (n : Nat) : putT th n (th n) = th := by
  funext i
  unfold putT
  by_cases h : i = n
  · rw [if_pos h, h]
  · rw [if_neg h]
theorem actG_T (m : Mc) (th : Nat → Td) (w : List Int) (n : Nat) : actG m ⟨w, th, []⟩ 0 n = ⟨(actT m n (th n) w).w, putT th n ((actT m n (th n) w).th n), (actT m n (th n) w).out⟩ := by
  unfold actT actG
  dsimp only
  cases h : (th n).now with
  | some l => exact actL_T th w n (th n).bg l [] (th n)
  | none =>
    dsimp only
    cases (m.ts[n]?.getD [])[(th n).bg]? with
    | none => simp [putT_self]
    | some c => exact actL_T th w n _ _ _ (th n)
/-- A step of the run, by what the thread does of itself. -/
theorem actG_by (m : Mc) (g : Gs) (st n : Nat) {t' : Td} {W : List Int} {es : List Ev} (h : actT m n (g.th n) g.w = ⟨W, fun i => if i = n then t' else g.th n, es⟩) : actG m g st n = ⟨W, putT g.th n t', g.out ++ es.map (inSt st)⟩ := by
  rw [actG_zero, actG_T, h]; simp
/-- No more calls. -/
theorem actT_idle {m : Mc} {n : Nat} {t : Td} {w : List Int} (h1 : t.now = none) (h2 : (m.ts[n]?.getD [])[t.bg]? = none) : actT m n t w = ⟨w, fun _ => t, []⟩ := by
  unfold actT actG
  dsimp only
  rw [h1]
  dsimp only
  rw [h2]
theorem actT_live {m : Mc} {n : Nat} {t : Td} {l : Lv} {w : List Int} (h1 : t.now = some l) : actT m n t w = actL ⟨w, fun _ => t, []⟩ 0 n t.bg l [] := by
  unfold actT actG
  dsimp only
  rw [h1]
theorem actT_call {m : Mc} {n : Nat} {t : Td} {c : Cl} {w : List Int} (h1 : t.now = none) (h2 : (m.ts[n]?.getD [])[t.bg]? = some c) : actT m n t w = actL ⟨w, fun _ => t, []⟩ 0 n (t.bg + 1) (live (m.cs[c.k.toNat]?.getD []) c.ar) [⟨0, n, t.bg, false, 0, []⟩] := by
  unfold actT actG
  dsimp only
  rw [h1]
  dsimp only
  rw [h2]
  rfl
theorem actL_end {g : Gs} {n bg : Nat} {l l' : Lv} {w' : List Int} {E : Int} {o : List Ev} (h : exc l g.w = (l', w', E, true)) : actL g 0 n bg l o = ⟨w', putT g.th n ⟨none, bg⟩, o ++ [⟨0, n, bg - 1, true, E, l'.t⟩]⟩ := by
  unfold actL; rw [h]; rfl
theorem actL_on {g : Gs} {n bg : Nat} {l l' : Lv} {w' : List Int} {E : Int} {o : List Ev} (h : exc l g.w = (l', w', E, false)) : actL g 0 n bg l o = ⟨w', putT g.th n ⟨some l', bg⟩, o⟩ := by
  unfold actL; rw [h]; rfl
end Go.Baro
