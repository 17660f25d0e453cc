/- Of this claim's own texts these, one behind the other: CellPure, CellAlg7, Cell3. No statement of the seat is proved here; no condition but those that stand at the theorems. -/
import Derived.Test.YtjihopbapnfppabDoorPartAJ
import Derived.Test.YtjihopbapnfppabDoorPartAT
import Derived.Test.YtjihopbapnfppabDoorPartAY
import Derived.Test.YtjihopbapnfppabDoorPartAS
set_option linter.unusedSimpArgs false
set_option linter.unusedVariables false
namespace Go.Baro
/-- The record of the p-th Put; 0: the initial one. -/
def recd (d p : Nat) : List Int := (List.range d).map fun k => if p = 0 then 0 else ((10 * p + k : Nat) : Int)
theorem recd_len (d p : Nat) : (recd d p).length = d := by simp [recd]
theorem recd_at {d p k : Nat} (h : k < d) : (recd d p)[k]? = some (if p = 0 then 0 else ((10 * p + k : Nat) : Int)) := by simp [recd, h]
/-- Every Get tells of the tl-th Put, and all could be one behind the other. -/
structure CellW (d : Nat) (D : List Dg) (tl : Nat → Nat) : Prop where
  zero : ∀ (i : Nat) (x : Dg), D[i]? = some x → (x.th = 0 ∨ x.e = -1) → tl i = 0
  le : ∀ (i : Nat) (x : Dg), D[i]? = some x → tl i ≤ 12
  told : ∀ (i : Nat) (x : Dg), D[i]? = some x → x.th ≠ 0 → x.e ≠ -1 → x.to = recd d (tl i)
  has : ∀ (i : Nat) (x : Dg), D[i]? = some x → x.th ≠ 0 → x.e ≠ -1 → tl i ≠ 0 → ∃ (k : Nat) (y : Dg), D[k]? = some y ∧ y.th = 0 ∧ y.cl + 1 = tl i
  early : ∀ (i : Nat) (x : Dg), D[i]? = some x → x.th ≠ 0 → x.e ≠ -1 → ∀ (k : Nat) (y : Dg), D[k]? = some y → y.th = 0 → y.cl + 1 = tl i → (y.b : Int) ≤ x.e
  puts : ∀ (i : Nat) (x : Dg), D[i]? = some x → x.th ≠ 0 → x.e ≠ -1 → ∀ (k : Nat) (y : Dg), D[k]? = some y → y.th = 0 → y.e ≠ -1 → y.e < x.b → y.cl + 1 ≤ tl i
  gets : ∀ (i : Nat) (x : Dg), D[i]? = some x → x.th ≠ 0 → x.e ≠ -1 → ∀ (k : Nat) (y : Dg), D[k]? = some y → y.th ≠ 0 → y.e ≠ -1 → y.e < x.b → tl k ≤ tl i
/-- Under every schedule. -/
def CellWhole (c : Cc) : Prop := ∀ (d : Nat) (S : List Nat), 1 ≤ d → d ≤ 6 → S.length ≤ 1200 → (∀ x ∈ S, x < 4) → noErr (plyG (mCell c d 12 8) 0 S (g0 (mCell c d 12 8))) ∧ ∃ tl, CellW d (dgs (plyG (mCell c d 12 8) 0 S (g0 (mCell c d 12 8))).out) tl
/-- The schedule of CellEnds. -/
def endS (S : List Int) : List Int := S ++ List.replicate 80 0 ++ List.replicate 80 1
/-- A Put ends within its steps, and a Get that no Put is beside. -/
structure CellE (S : List Int) (D : List Dg) : Prop where
  put : ∀ x ∈ D, x.th = 0 → spn (endS S) x ≤ 80
  get : (∀ x ∈ D, x.th = 0 → x.e ≠ -1) → (∀ x ∈ D, x.th = 1 → x.e = -1 → S.length + 80 < x.b) ∧ ((∃ x ∈ D, x.th = 1 ∧ ((S.length + 80 : Nat) : Int) ≤ x.e) ∨ ∃ x ∈ D, x.th = 1 ∧ x.cl = 7 ∧ x.e ≠ -1 ∧ x.e < ((S.length + 80 : Nat) : Int))
/-- Under every schedule. -/
def CellEnds (c : Cc) : Prop := ∀ (d : Nat) (S : List Int), 1 ≤ d → d ≤ 6 → S.length ≤ 1000 → (∀ x ∈ S, 0 ≤ x ∧ x < 4) → noErr (plyG (mCell c d 12 8) 0 ((endS S).map Int.toNat) (g0 (mCell c d 12 8))) ∧ CellE S (dgs (plyG (mCell c d 12 8) 0 ((endS S).map Int.toNat) (g0 (mCell c d 12 8))).out)
/-- The arguments of CellTells, its machine, its schedule. -/
def tellA (d : Nat) (l : List Int) : List Int := (List.range d).map fun k => l[k]?.getD 7
def mTell (c : Cc) (d : Nat) (ar : List Int) : Mc := ⟨c.ws d, [c.cp d, c.cg d], (List.range 4).map fun t => if t = 0 then [⟨0, putA d 0⟩, ⟨0, ar⟩] else getJ 1⟩
def tV (q : Nat) : Int := if q = 0 then 1 else if q = 1 then 0 else 2
def tQ : Nat → List Int
  | 0 => []
  | q + 1 => tQ q ++ List.replicate 160 (tV q)
theorem tQ_len : ∀ q, (tQ q).length = 160 * q
  | 0 => rfl
  | q + 1 => by simp [tQ, tQ_len q]; omega
theorem tQ_in : ∀ q, ∀ x ∈ tQ q, 0 ≤ x ∧ x < 4
  | 0, x, h => by cases h
  | q + 1, x, h => by
    rcases List.mem_append.1 h with h | h
    · exact tQ_in q x h
    · rw [List.eq_of_mem_replicate h]; unfold tV; split <;> (try split) <;> omega
/-- One behind the other. -/
def CellTells (c : Cc) : Prop := ∀ (d : Nat) (ar : List Int), 1 ≤ d → d ≤ 6 → ar.length = d → (∀ x ∈ ar, inW x) → noErr (plyG (mTell c d ar) 0 ((tQ 3).map Int.toNat) (g0 (mTell c d ar))) ∧
  ∃ d0 d1 d2 d3, dgs (plyG (mTell c d ar) 0 ((tQ 3).map Int.toNat) (g0 (mTell c d ar))).out = [d0, d1, d2, d3] ∧ d0.e ≠ -1 ∧ d2.e ≠ -1 ∧ d3.e ≠ -1 ∧ d0.to = List.replicate d 0 ∧ d3.to = ar
theorem mTell_ok {c : Cc} (hc : c.Ok) {d : Nat} {ar : List Int} (h1 : 1 ≤ d) (h6 : d ≤ 6) (ha : ar.length = d) : okMc (mTell c d ar) := by
  refine ⟨?_, by simp [mTell], by simp [mTell], fun x hx => ?_, fun t ht => ?_⟩
  · have := (hc.ws d h1 h6).2.1
    show (c.ws d).length ≤ 200
    omega
  · simp only [mTell, List.mem_cons, List.not_mem_nil, or_false] at hx
    rcases hx with rfl | rfl
    · exact (hc.cp d h1 h6).2.1
    · exact (hc.cg d h1 h6).2.1
  · simp only [mTell, List.mem_map, List.mem_range] at ht
    obtain ⟨i, hi, rfl⟩ := ht
    have key : ∀ x : Cl, (x.k = 0 ∨ x.k = 1) → x.ar.length ≤ 8 → okCl (mTell c d ar) x := fun x h h' => ⟨by show 0 ≤ x.k ∧ x.k < ((2 : Nat) : Int); omega, h'⟩
    split
    · refine ⟨by simp, fun x hx => ?_⟩
      simp only [List.mem_cons, List.not_mem_nil, or_false] at hx
      rcases hx with rfl | rfl
      · exact key _ (.inl rfl) (by simp [putA]; omega)
      · exact key _ (.inl rfl) (by show ar.length ≤ 8; omega)
    · refine ⟨by rw [getJ_len]; omega, fun x hx => ?_⟩
      rw [List.eq_of_mem_replicate hx]
      exact key _ (.inr rfl) (by simp)
end Go.Baro

set_option linter.unusedSimpArgs false
set_option linter.unusedVariables false
namespace Go.Baro.Cel
/-- The words and codes of cell. -/
def cc : Cc := ⟨wsC, putC, getC⟩
theorem rd_zero (d n : Nat) : rd (wsC d) n = 0 := by
  unfold rd wsC
  rw [List.getElem?_replicate]
  split <;> rfl
theorem j_zero {m : Mc} {d : Nat} {val : Nat → Nat → Int} (hm : Mok m d val) : ∃ h, J m d val [] 0 (g0 m) h := by
  refine ⟨⟨0, 0, 0, fun _ => 0, 5, 4, fun _ => 0, fun _ => 0, fun _ => 0, fun _ => 0, fun _ _ => 0⟩, ?_, ?_, .inl ⟨rfl, rfl, rfl, rfl⟩, fun t h1 h3 => .inl ⟨rfl, rfl, fun s => by dsimp only; omega⟩, cnt_zero m _ _, hs_zero m, ?_, fun x hx => by simp [g0] at hx⟩
  · simp only [g0, hm.ws]
    refine ⟨by simp [wsC], by dsimp only; omega, by rw [rd_zero]; simp [ad], rfl, by dsimp only; omega, fun j hj ht k hk => by rw [rd_zero]; exact (hm.v0 k hk).symm, fun h => by dsimp only at h; omega, fun s _ => .inl (rd_zero _ _), rd_zero _ _⟩
  · simp only [g0, hm.ws]
    refine ⟨fun s _ => by rw [rd_zero]; exact ⟨fun _ => rfl, fun _ => rfl⟩, fun _ => by dsimp only; omega, fun _ _ h => absurd rfl h, by dsimp only; omega, by dsimp only; omega, by dsimp only; omega, fun _ => Nat.le_refl _, fun _ _ => rfl⟩
  · refine ⟨?_, ?_, ?_, ?_, ?_, ?_, ?_⟩ <;> simp [g0, dgs]
theorem j_run {m : Mc} {d : Nat} {val : Nat → Nat → Int} (h1 : 1 ≤ d) (h6 : d ≤ 6) (hm : Mok m d val) (S : List Nat) (hS : ∀ n ∈ S, n < 4) : ∃ h, J m d val S S.length (plyG m 0 S (g0 m)) h := by
  refine plyG_indS (I := fun S g => ∃ h, J m d val S S.length g h) (A := fun n => n < 4) (j_zero hm) (fun S g n hn ⟨h, H⟩ => ?_) S hS
  rw [actG_eq]
  obtain ⟨h', H'⟩ := j_begin hm hn H
  obtain ⟨h2, H2⟩ := j_exec h1 h6 hn H'
  refine ⟨h2, ?_⟩
  rw [List.length_append, List.length_singleton]
  exact H2
theorem PA.bV {d : Nat} {val : Nat → Nat → Int} {w : List Int} {g : Gh} {b k p : Nat} {r : Int → Int} (h : PA d val w g b k p r) : g.V ≤ b := by
  cases h <;> first | (have := ‹PR d val g b r›.b; omega) | omega
theorem J.Vbg {m : Mc} {d : Nat} {val : Nat → Nat → Int} {S : List Nat} {sb : Nat} {g : Gs} {h : Gh} (H : J m d val S sb g h) : h.V ≤ (g.th 0).bg := by
  rcases H.t0 with ⟨_, _, _, q⟩ | ⟨p, r, _, _, q⟩
  · omega
  · exact q.bV
/-- No call takes more steps. -/
theorem J.few {m : Mc} {d : Nat} {val : Nat → Nat → Int} {S : List Nat} {g : Gs} {h : Gh} (h6 : d ≤ 6) (H : J m d val S S.length g h) {x : Dg} (hx : x ∈ dgs g.out) : (x.e = -1 → (S.drop x.b).count x.th ≤ if x.th = 0 then 51 else 36) ∧ (x.e ≠ -1 → ((S.take (x.e + 1).toNat).drop x.b).count x.th ≤ if x.th = 0 then 51 else 36) := by
  obtain ⟨c1, c2, c3⟩ := H.cnt x hx
  have h4 := H.hist.th x hx
  refine ⟨fun he => ?_, fun he => ?_⟩
  · rw [c2 he]
    have hn := ((H.hs.opn x hx).1 he).1
    by_cases h0 : x.th = 0
    · rw [if_pos h0, h0]
      rw [h0] at hn
      rcases H.t0 with ⟨q, _⟩ | ⟨p, r, _, _, q⟩
      · exact absurd q hn
      · have := q.steps; omega
    · rw [if_neg h0]
      rcases H.tr x.th (by omega) (by omega) with ⟨q, _⟩ | ⟨p, r, l, _, _, q⟩
      · exact absurd q hn
      · have := q.steps; omega
  · have := (c3 he).2
    dsimp only at this
    split at this <;> (split <;> omega)
/-- The record of a Put of the statements. -/
def valR (p k : Nat) : Int := if p = 0 then 0 else ((10 * p + k : Nat) : Int)
theorem rcd_recd (d p : Nat) : rcd valR d p = recd d p := rfl
theorem mok_cell (d puts gets : Nat) : Mok (mCell cc d puts gets) d valR := by
  refine ⟨rfl, rfl, fun i c hc => ?_, fun t h1 h4 i c hc => ?_, fun q _ => rfl⟩
  · have h0 : (mCell cc d puts gets).ts[0]?.getD [] = putJ d puts := by simp [mCell]
    rw [h0] at hc
    have hi := (List.getElem?_eq_some_iff.1 hc).1
    rw [putJ_len] at hi
    have : c = ⟨0, putA d i⟩ := by
      have : (putJ d puts)[i]? = some ⟨0, putA d i⟩ := by simp [putJ, hi]
      rw [this] at hc
      injection hc with hc
      exact hc.symm
    subst this
    refine ⟨rfl, by simp [putA], fun q hq => ?_⟩
    simp [putA, hq, valR]
  · have h0 : (mCell cc d puts gets).ts[t]?.getD [] = getJ gets := by
      simp [mCell, h4]
      omega
    rw [h0] at hc
    have := List.eq_of_mem_replicate (List.mem_of_getElem? hc)
    subst this
    exact ⟨rfl, rfl⟩
theorem cell_whole : CellWhole cc := by
  intro d S h1 h6 hl hS
  obtain ⟨h, H⟩ := j_run h1 h6 (mok_cell d 12 8) S hS
  have hbg := bg_le (mCell cc d 12 8) S 0
  generalize plyG (mCell cc d 12 8) 0 S (g0 (mCell cc d 12 8)) = g at H hbg
  have hV : h.V ≤ 12 := by
    have h0 : (mCell cc d 12 8).ts[0]?.getD [] = putJ d 12 := by simp [mCell]
    rw [h0, putJ_len] at hbg
    have := H.Vbg; omega
  refine ⟨H.err, fun i => match (dgs g.out)[i]? with | none => 0 | some x => if x.th ≠ 0 ∧ x.e ≠ -1 then h.tl x.th x.cl else 0, ?_⟩
  have hI := H.hist
  have hmem : ∀ {i : Nat} {x : Dg}, (dgs g.out)[i]? = some x → x ∈ dgs g.out := fun hx => List.mem_of_getElem? hx
  refine ⟨fun i x hx hh => ?_, fun i x hx => ?_, fun i x hx q1 q2 => ?_, fun i x hx q1 q2 hn => ?_, fun i x hx q1 q2 k y hy y1 y2 => ?_, fun i x hx q1 q2 k y hy y1 y2 y3 => ?_, fun i x hx q1 q2 k y hy y1 y2 y3 => ?_⟩
  · simp only [hx]
    rw [if_neg]
    rintro ⟨a, b⟩
    rcases hh with hh | hh
    · exact a hh
    · exact b hh
  · simp only [hx]
    split
    · rename_i hh
      exact Nat.le_trans (hI.gV x (hmem hx) hh.1 hh.2) hV
    · omega
  · simp only [hx]
    rw [if_pos ⟨q1, q2⟩]
    exact hI.told x (hmem hx) q1 q2
  · simp only [hx] at hn ⊢
    rw [if_pos ⟨q1, q2⟩] at hn ⊢
    have h2 := hI.gV x (hmem hx) q1 q2
    have h3 := H.Vbg
    obtain ⟨y, hy, e1, e2⟩ := H.hs.all 0 (h.tl x.th x.cl - 1) (by omega)
    obtain ⟨k, hk⟩ := List.mem_iff_getElem?.1 hy
    exact ⟨k, y, hk, e1, by omega⟩
  · simp only [hx] at y2
    rw [if_pos ⟨q1, q2⟩] at y2
    exact hI.early x (hmem hx) q1 q2 y (hmem hy) y1 y2
  · simp only [hx]
    rw [if_pos ⟨q1, q2⟩]
    exact (hI.ord x (hmem hx) q1 q2 y (hmem hy) y2 y3).1 y1
  · simp only [hx, hy]
    rw [if_pos ⟨y1, y2⟩, if_pos ⟨q1, q2⟩]
    exact (hI.ord x (hmem hx) q1 q2 y (hmem hy) y2 y3).2 y1
theorem count_nat {l : List Int} (h : ∀ x ∈ l, 0 ≤ x) (n : Nat) : l.count (n : Int) = (l.map Int.toNat).count n := by
  induction l with
  | nil => rfl
  | cons a l ih =>
    have ha := h a (by simp)
    rw [List.map_cons, List.count_cons, List.count_cons, ih (fun x hx => h x (by simp [hx]))]
    congr 1
    by_cases he : a = n
    · subst he; simp
    · have : ¬ a.toNat = n := by omega
      simp [he, this]
theorem cell_ends : CellEnds cc := by
  intro d S h1 h6 hl hS
  have hT4 : ∀ x ∈ endS S, 0 ≤ x ∧ x < 4 := by
    intro x hx
    unfold endS at hx
    rcases List.mem_append.1 hx with hx | hx
    · rcases List.mem_append.1 hx with hx | hx
      · exact hS x hx
      · rw [List.eq_of_mem_replicate hx]; omega
    · rw [List.eq_of_mem_replicate hx]; omega
  have hN4 : ∀ n ∈ (endS S).map Int.toNat, n < 4 := by
    intro n hn
    obtain ⟨x, hx, rfl⟩ := List.mem_map.1 hn
    have := hT4 x hx; omega
  obtain ⟨A, hA, hAl⟩ : ∃ A : List Nat, (endS S).map Int.toNat = A ++ List.replicate 80 1 ∧ A.length = S.length + 80 := ⟨(S ++ List.replicate 80 0).map Int.toNat, by simp [endS], by simp⟩
  have hTl : (endS S).length = ((endS S).map Int.toNat).length := by simp
  obtain ⟨h, H⟩ := j_run h1 h6 (mok_cell d 12 8) _ hN4
  have hA4 : ∀ n ∈ A, n < 4 := fun n hn => hN4 n (by rw [hA]; simp [hn])
  obtain ⟨hA', HA⟩ := j_run h1 h6 (mok_cell d 12 8) A hA4
  have hlt := fun (x : Dg) hx => @ply_later (mCell cc d 12 8) A (List.replicate 80 1) x hx
  rw [← hA] at hlt
  have hop : ∀ x ∈ dgs (plyG (mCell cc d 12 8) 0 ((endS S).map Int.toNat) (g0 (mCell cc d 12 8))).out, x.th = 1 → x.e = -1 → S.length + 80 < x.b := by
    intro x hx hx1 hxe
    rcases Nat.lt_or_ge (S.length + 80) x.b with hlt | hge
    · exact hlt
    · exfalso
      have := (H.few h6 hx).1 hxe
      rw [hx1, if_neg (by omega), hA, List.drop_append_of_le_length (by omega), List.count_append] at this
      simp at this
  refine ⟨H.err, ⟨fun x hx hx0 => ?_, fun _ => ⟨hop, ?_⟩⟩⟩
  · have hf := H.few h6 hx
    rw [hx0, if_pos rfl] at hf
    obtain ⟨c1, c2, c3⟩ := H.cnt x hx
    unfold spn
    rw [hx0, count_nat (fun y hy => (hT4 y (List.mem_of_mem_take (List.mem_of_mem_drop hy))).1), List.map_drop, List.map_take]
    unfold spHi
    by_cases he : x.e = -1
    · rw [if_pos he, hTl, List.take_length]
      have := hf.1 he; omega
    · rw [if_neg he, Nat.min_eq_right (by have := (c3 he).1; rw [hTl]; omega)]
      have := hf.2 he; omega
  · -- what thread 1 does at the first of the last eighty steps
    have hst : ∃ gA, gA = plyG (mCell cc d 12 8) 0 A (g0 (mCell cc d 12 8)) := ⟨_, rfl⟩
    obtain ⟨gA, hgA⟩ := hst
    rw [← hgA] at HA hlt
    have h8 : (mCell cc d 12 8).ts[1]?.getD [] = getJ 8 := by simp [mCell]
    rcases bgG_cases (mCell cc d 12 8) gA A.length 1 with ⟨_, hb | ⟨hb1, hb2⟩⟩ | ⟨c, hb1, hb2, hb3⟩
    · obtain ⟨x, hx, x1, x2, x3, x4⟩ := HA.hs.live hb
      obtain ⟨x', hx', y1, y2, y3, y4, y5⟩ := hlt x hx
      refine .inl ⟨x', hx', by rw [y1, x1], ?_⟩
      rcases y5 x3 with y5 | y5
      · have := hop x' hx' (by rw [y1, x1]) y5
        have := (HA.hs.bnd x hx).1
        omega
      · omega
    · rw [h8, getJ_len] at hb2
      obtain ⟨x, hx, x1, x2⟩ := HA.hs.all 1 7 (by omega)
      have hxe : x.e ≠ -1 := fun he => by
        have := ((HA.hs.opn x hx).1 he).1
        rw [x1] at this; exact this hb1
      obtain ⟨x', hx', y1, y2, y3, y4, y5⟩ := hlt x hx
      obtain rfl := y4 hxe
      refine .inr ⟨x', hx', x1, x2, hxe, ?_⟩
      have := ((HA.hs.bnd x' hx).2 hxe).2
      omega
    · -- a call begins at this step
      have hA1 : ∃ x ∈ dgs (plyG (mCell cc d 12 8) 0 (A ++ [1]) (g0 (mCell cc d 12 8))).out, x.th = 1 ∧ x.b = A.length ∧ (x.e = -1 ∨ x.e = A.length) := by
        rw [ply_snoc, ← hgA, actG_eq, hb3]
        obtain ⟨es, q1, q2⟩ : ∃ es, (exG ⟨gA.w, putT gA.th 1 ⟨some (live ((mCell cc d 12 8).cs[c.k.toNat]?.getD []) c.ar), (gA.th 1).bg + 1⟩, gA.out ++ [⟨A.length, 1, (gA.th 1).bg, false, 0, []⟩]⟩ A.length 1).out = (gA.out ++ [⟨A.length, 1, (gA.th 1).bg, false, 0, []⟩]) ++ es ∧ ∀ e ∈ es, e.st = A.length := by
          unfold exG
          dsimp only
          rw [putT_same]
          exact actL_out _ _ _ _ _ _
        rw [q1]
        have : dgs ((gA.out ++ [⟨A.length, 1, (gA.th 1).bg, false, 0, []⟩]) ++ es) = es.foldl dg1 (dgs gA.out ++ [⟨A.length, -1, 1, (gA.th 1).bg, []⟩]) := by
          rw [← dgs_begin]; simp [dgs, List.foldl_append]
        rw [this]
        have hup : ∀ (es : List Ev) (l : List Dg) (d : Dg), (∀ e ∈ es, e.st = A.length) → d ∈ l → (d.e = -1 ∨ d.e = A.length) → ∃ d' ∈ es.foldl dg1 l, d'.th = d.th ∧ d'.b = d.b ∧ (d'.e = -1 ∨ d'.e = A.length) := by
          intro es
          induction es with
          | nil => intro l d _ hd he; exact ⟨d, hd, rfl, rfl, he⟩
          | cons x es ih =>
            intro l d hes hd he
            rw [List.foldl_cons]
            by_cases hen : x.en = true
            · rw [dg1_end _ _ hen]
              have hfe : (d.fin x).e = -1 ∨ (d.fin x).e = A.length := by
                unfold Dg.fin
                split
                · exact .inr (by dsimp only; rw [hes x (by simp)])
                · exact he
              obtain ⟨d', k1, k2, k3, k4⟩ := ih (l.map (fun d => d.fin x)) (d.fin x) (fun e he => hes e (by simp [he])) (List.mem_map.2 ⟨d, hd, rfl⟩) hfe
              refine ⟨d', k1, ?_, ?_, k4⟩
              · rw [k2]; unfold Dg.fin; split <;> rfl
              · rw [k3]; unfold Dg.fin; split <;> rfl
            · rw [dg1_begin _ _ (by simpa using hen)]
              exact ih _ d (fun e he => hes e (List.mem_cons_of_mem _ he)) (List.mem_append_left _ hd) he
        obtain ⟨d', k1, k2, k3, k4⟩ := hup es (dgs gA.out ++ [⟨A.length, -1, 1, (gA.th 1).bg, []⟩]) ⟨A.length, -1, 1, (gA.th 1).bg, []⟩ q2 (by simp) (.inl rfl)
        exact ⟨d', k1, k2, k3, k4⟩
      obtain ⟨x, hx, x1, x2, x3⟩ := hA1
      have hlt2 := ply_later (mCell cc d 12 8) (A ++ [1]) (List.replicate 79 1) hx
      rw [List.append_assoc, show [1] ++ List.replicate 79 1 = List.replicate 80 1 from rfl, ← hA] at hlt2
      obtain ⟨x', hx', y1, y2, y3, y4, y5⟩ := hlt2
      refine .inl ⟨x', hx', by rw [y1, x1], ?_⟩
      rcases x3 with x3 | x3
      · rcases y5 x3 with y5 | y5
        · have := hop x' hx' (by rw [y1, x1]) y5
          omega
        · simp at y5; omega
      · rw [y4 (by omega)]; omega
end Go.Baro.Cel

set_option linter.unusedSimpArgs false
set_option linter.unusedVariables false
namespace Go.Proofs.YtjihopbapnfppabDoor
open Go.RowKit Go.Ord Go.Baro Go.Maps

/-- The codes as the builder makes them. -/
def putM (d : Nat) : Bs := cell_choose d (cell_mark d (Bs.new (numL d)))
def putS (d j : Nat) : Bs := (List.range j).foldl (fun (s : Bs) (i : Nat) => s.store (nmNum i) nm_copy (8 + (i : Int))) (putM d)
def putB (d : Nat) : Bs := cell_give ((putS d d).store nm_copy nm_zero 6)
def getM : Bs := cell_take (cell_sit (Bs.new []))
def getS (j : Nat) : Bs := (List.range j).foldl (fun (s : Bs) (i : Nat) => s.load (nmNum i) nm_copy (1 + (i : Int))) getM
def getB (d : Nat) : Bs := (((getS d).set nm_free 0).store nm_free nm_seat 2).emit (numL d)
instance : DecidableEq Ins := fun a b => by
  obtain ⟨a1, a2, a3, a4, a5⟩ := a
  obtain ⟨b1, b2, b3, b4, b5⟩ := b
  rw [Ins.mk.injEq]
  infer_instance
theorem putB_fin (d : Nat) (h1 : 1 ≤ d) (h6 : d ≤ 6) : (putB d).fin = some (Cel.putC d) ∧ (∀ j ∈ (putB d).jmps, 0 ≤ j.1 ∧ j.2.length ≤ 1000) ∧ (putB d).jmps.length ≤ 1000 := by
  rcases (by omega : d = 1 ∨ d = 2 ∨ d = 3 ∨ d = 4 ∨ d = 5 ∨ d = 6) with rfl | rfl | rfl | rfl | rfl | rfl <;> exact ⟨by kernel_rfl, by decide +kernel, by decide +kernel⟩
theorem getB_fin (d : Nat) (h1 : 1 ≤ d) (h6 : d ≤ 6) : (getB d).fin = some (Cel.getC d) ∧ (∀ j ∈ (getB d).jmps, 0 ≤ j.1 ∧ j.2.length ≤ 1000) ∧ (getB d).jmps.length ≤ 1000 := by
  rcases (by omega : d = 1 ∨ d = 2 ∨ d = 3 ∨ d = 4 ∨ d = 5 ∨ d = 6) with rfl | rfl | rfl | rfl | rfl | rfl <;> exact ⟨by kernel_rfl, by decide +kernel, by decide +kernel⟩
theorem numL_new (d : Nat) (h6 : d ≤ 6) : ∀ (j : Nat) l, (numL d)[j]? = some l → nmAsk (Bs.new ((numL d).take j)).regs l = none := by
  intro j l hl
  have hj : j < d := by have := (List.getElem?_eq_some_iff.1 hl).1; rw [numL_len] at this; exact this
  have he : l = nmNum j := by simp [numL, hj] at hl; exact hl.symm
  have ht : (numL d).take j = numL j := by simp [numL, ← List.map_take, List.take_range, Nat.min_eq_left (Nat.le_of_lt hj)]
  rw [ht, he]
  rcases (by omega : j = 0 ∨ j = 1 ∨ j = 2 ∨ j = 3 ∨ j = 4 ∨ j = 5) with rfl | rfl | rfl | rfl | rfl | rfl <;> decide +kernel
theorem numL_short (d : Nat) : ∀ x ∈ numL d, x.length ≤ 1000 := by
  intro x hx
  obtain ⟨i, _, rfl⟩ := List.mem_map.1 hx
  show 8 ≤ 1000
  omega
theorem numL_at {d j : Nat} (h : j < d) : (numL d)[j]? = some (nmNum j) := by simp [numL, h]
theorem labs_mark (d : Nat) (s : Bs) : (cell_mark d s).labs = s.labs := by
  unfold cell_mark
  rw [labs_fold (fun b a => by rw [labs_store, labs_load]), labs_store, labs_load, labs_set, labs_fold (fun b a => by rw [labs_store])]
theorem cell_valid (w : World) (d : Int) (hd : inW d) : Calls Tryd.prog 18 #[.int .i64 d] w fun e w' => e = .returned (.bool (decide (1 ≤ d ∧ d ≤ 6))) ∧ w = w' := by
  by_cases h1 : 1 ≤ d
  · by_cases h6 : d ≤ 6
    · go_enter Tryd.func18, Tryd.ntmps18
      go_wp2
      go_ret
      exact ⟨ret_bool (by simp [h1, h6]), rfl⟩
    · have h7 : 6 < d := by omega
      go_enter Tryd.func18, Tryd.ntmps18
      go_wp2
      go_ret
      exact ⟨ret_bool (by simp; omega), rfl⟩
  · have h7 : d < 1 := by omega
    go_enter Tryd.func18, Tryd.ntmps18
    go_wp2
    go_ret
    exact ⟨ret_bool (by simp; omega), rfl⟩
theorem own_cap {w : World} {B : Nat} {e : TypeId} {s n : Nat} {v : Value} {xs : List Value} (h : w.ownsRow B e s v n xs) : ∃ A k, v = .slice A n k ∧ n ≤ k ∧ k ≤ 9223372036854775807 := by
  rcases h.2 with ⟨rfl, rfl⟩ | ⟨g, cap, cur, rfl, _, _, h1, h2, _⟩
  · exact ⟨_, _, rfl, Nat.le_refl _, by omega⟩
  · exact ⟨_, _, rfl, h1, by unfold maxLen at h2; omega⟩
theorem eltIntC : Elt Tryd.prog 22 3 (.int .i64 0) 1 8 := Elt.mk' Tryd.underlying22 (by kernel_rfl) rfl (by decide)
set_option maxHeartbeats 1000000 in
theorem cell_Words : CellWordsSpec Cel.cc := by
  intro w d hd
  have hd' := hd
  unfold inW at hd'
  by_cases hx : 1 ≤ d ∧ d ≤ 6
  · obtain ⟨n, rfl⟩ : ∃ n : Nat, d = n := ⟨d.toNat, by omega⟩
    go_enter Tryd.func7, Tryd.ntmps7
    go_wp2_with fail
    refine (cell_valid _ _ hd).mono ?_
    rintro e w' ⟨he, rfl⟩
    rw [decide_eq_true hx] at he
    subst he
    go_wp2_with fail
    refine (cell_size _ n (by omega)).mono ?_
    rintro e w' ⟨rfl, rfl⟩
    go_wp2_with (refine make_all eltIntC w rfl _ _ rfl w.heap.size .i64 .i64 _ _ (7 + 5 * (1 + n)) rfl rfl (by omega) (by omega) (by omega) (by omega) (Nat.le_refl _) ?_; intro w1 hown1 hb1 hs1 hg1)
    go_ret2
    have hb := hb1 w (Below.refl _ _)
    refine ⟨fun _ => ?_, fun h => absurd hx h, hb⟩
    have hq := QT.own hown1
    refine ⟨_, _, _, rfl, Nat.le_refl _, by omega, ?_⟩
    rw [madeCells_one _ rfl] at hq
    simpa [Cel.cc, Cel.wsC] using hq
  · go_enter Tryd.func7, Tryd.ntmps7
    go_wp2_with fail
    refine (cell_valid _ _ hd).mono ?_
    rintro e w' ⟨he, rfl⟩
    rw [decide_eq_false hx] at he
    subst he
    go_wp2
    go_ret2
    exact ⟨fun h => absurd h hx, fun _ => ⟨_, _, rfl⟩, Below.refl _ _⟩
end Go.Proofs.YtjihopbapnfppabDoor
