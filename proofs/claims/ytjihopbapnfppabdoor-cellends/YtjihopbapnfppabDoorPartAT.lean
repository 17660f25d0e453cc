/- Of this claim's own texts these, one behind the other: AlgPure, CellAlg. No statement of the seat is proved here; no condition but those that stand at the theorems. -/
import Derived.Test.YtjihopbapnfppabDoorPartAH
set_option linter.unusedSimpArgs false
set_option linter.unusedVariables false
namespace Go.Baro
open Go.RowKit (wrap64)

/-- A word. -/
def rd (w : List Int) (n : Nat) : Int := w[n]?.getD 0
theorem rd_set {w : List Int} {n m : Nat} {v : Int} (h : n < w.length) : rd (w.set n v) m = if m = n then v else rd w m := by
  unfold rd
  rw [List.getElem?_set]
  by_cases hm : n = m
  · subst hm; simp [h]
  · rw [if_neg hm, if_neg (fun e => hm e.symm)]
theorem rd_same {w : List Int} {n : Nat} {v : Int} (h : n < w.length) : rd (w.set n v) n = v := by rw [rd_set h, if_pos rfl]
theorem rd_other {w : List Int} {n m : Nat} {v : Int} (h : m ≠ n) : rd (w.set n v) m = rd w m := by
  unfold rd
  rw [List.getElem?_set_ne (fun e => h e.symm)]
theorem at_rd {w : List Int} {n : Nat} (h : n < w.length) : w[n]? = some (rd w n) := by simp [rd, h]
theorem wrap_id {x : Int} (h : -9223372036854775808 ≤ x ∧ x ≤ 9223372036854775807) : wrap64 x = x := by unfold wrap64; omega

/-- A run under one more step. -/
theorem ply_snoc (m : Mc) (S : List Nat) (n : Nat) (g : Gs) : plyG m 0 (S ++ [n]) g = actG m (plyG m 0 S g) S.length n := by
  rw [plyG_append]
  simp [plyG]
/-- What holds of a run behind each part of its schedule. -/
theorem plyG_indS {m : Mc} {I : List Nat → Gs → Prop} {A : Nat → Prop} (h0 : I [] (g0 m)) (hs : ∀ S g n, A n → I S g → I (S ++ [n]) (actG m g S.length n)) : ∀ (S : List Nat), (∀ n ∈ S, A n) → I S (plyG m 0 S (g0 m)) := by
  suffices h : ∀ (k : Nat) (S : List Nat), S.length = k → (∀ n ∈ S, A n) → I S (plyG m 0 S (g0 m)) from fun S => h S.length S rfl
  intro k
  induction k with
  | zero => intro S hS _; obtain rfl := List.eq_nil_of_length_eq_zero hS; exact h0
  | succ k ih =>
    intro S hS hA
    obtain ⟨T, n, rfl⟩ : ∃ T n, S = T ++ [n] := ⟨S.dropLast, S.getLast (by rintro rfl; simp at hS), (List.dropLast_concat_getLast _).symm⟩
    rw [ply_snoc]
    exact hs T _ n (hA n (by simp)) (ih T (by simp at hS; exact hS) (fun x hx => hA x (by simp [hx])))

/-- A step of a call without an error. -/
def Nx (c : List Ins) (p : Nat) (r : Int → Int) (t w : List Int) (p' : Nat) (r' : Int → Int) (t' w' : List Int) : Prop :=
  exc ⟨c, p, r, t⟩ w = (⟨c, p', r', t'⟩, w', 0, decide (p' = c.length))
section
variable {c : List Ins} {p : Nat} {r : Int → Int} {t w : List Int} {a b k e : Int}
theorem nx_of {o : Ins} {p' : Nat} {r' : Int → Int} {t' w' : List Int} (h : c[p]? = some o) (hs : stp c.length o ⟨p, r, w, t⟩ = (⟨p', r', w', t'⟩, 0)) : Nx c p r t w p' r' t' w' := by
  have hp := (List.getElem?_eq_some_iff.1 h).1
  unfold Nx exc
  rw [if_neg (by dsimp only; omega)]
  dsimp only
  rw [Int.toNat_natCast, h, Option.getD_some, hs]
  have : decide (((0 : Int) ≠ 0) ∨ ((p' : Int) = (c.length : Int))) = decide (p' = c.length) := by
    by_cases hq : p' = c.length
    · simp [hq]
    · have : ¬ ((p' : Int) = (c.length : Int)) := by omega
      simp [hq, this]
  rw [this]
theorem nx_set (h : c[p]? = some ⟨1, a, b, 0, 0⟩) : Nx c p r t w (p + 1) (upd r a b) t w := nx_of h (by rw [stp_1]; simp)
theorem nx_copy (h : c[p]? = some ⟨2, a, b, 0, 0⟩) : Nx c p r t w (p + 1) (upd r a (r b)) t w := nx_of h (by rw [stp_2]; simp)
theorem nx_cmp {o : Int} (h : c[p]? = some ⟨o, a, b, k, 0⟩) (ho : 3 ≤ o ∧ o ≤ 9) : Nx c p r t w (p + 1) (upd r a (cmpV o (r b) (r k))) t w := nx_of h (by rw [stp_cmp ho]; simp)
theorem nx_add {v : Int} (h : c[p]? = some ⟨3, a, b, k, 0⟩) (hv : wrap64 (r b + r k) = v) : Nx c p r t w (p + 1) (upd r a v) t w := by
  have := nx_cmp (r := r) (t := t) (w := w) h (by omega)
  rwa [show cmpV 3 (r b) (r k) = v by simp [cmpV, hv]] at this
theorem nx_jump {q : Nat} (h : c[p]? = some ⟨10, q, 0, 0, 0⟩) : Nx c p r t w q r t w := nx_of h (by rw [stp_10])
theorem nx_whenN {q : Nat} (h : c[p]? = some ⟨11, a, q, 0, 0⟩) (hr : r a ≠ 0) : Nx c p r t w q r t w := nx_of h (by rw [stp_11]; simp [hr])
theorem nx_whenZ {q : Int} (h : c[p]? = some ⟨11, a, q, 0, 0⟩) (hr : r a = 0) : Nx c p r t w (p + 1) r t w := nx_of h (by rw [stp_11]; simp [hr])
theorem nx_unlZ {q : Nat} (h : c[p]? = some ⟨12, a, q, 0, 0⟩) (hr : r a = 0) : Nx c p r t w q r t w := nx_of h (by rw [stp_12]; simp [hr])
theorem nx_unlN {q : Int} (h : c[p]? = some ⟨12, a, q, 0, 0⟩) (hr : r a ≠ 0) : Nx c p r t w (p + 1) r t w := nx_of h (by rw [stp_12]; simp [hr])
theorem nx_load {q : Nat} (h : c[p]? = some ⟨13, a, b, k, 0⟩) (hq : wrap64 (r b + k) = q) (hl : q < w.length) : Nx c p r t w (p + 1) (upd r a (rd w q)) t w := nx_of h (by rw [stp_13 hq (at_rd hl)]; simp)
theorem nx_store {q : Nat} (h : c[p]? = some ⟨14, a, b, k, 0⟩) (hq : wrap64 (r b + k) = q) (hl : q < w.length) : Nx c p r t w (p + 1) r t (w.set q (r a)) := nx_of h (by rw [stp_14 hq hl]; simp)
theorem nx_casT {q : Nat} (h : c[p]? = some ⟨15, a, b, k, e⟩) (hq : wrap64 (r b + k) = q) (hl : q < w.length) (hx : rd w q = r e) : Nx c p r t w (p + 1) (upd r a 1) t (w.set q (r a)) := nx_of h (by rw [stp_15t hq (at_rd hl) hx]; simp)
theorem nx_casF {q : Nat} (h : c[p]? = some ⟨15, a, b, k, e⟩) (hq : wrap64 (r b + k) = q) (hl : q < w.length) (hx : rd w q ≠ r e) : Nx c p r t w (p + 1) (upd r a 0) t w := nx_of h (by rw [stp_15f hq (at_rd hl) hx]; simp)
theorem nx_emit (h : c[p]? = some ⟨16, a, 0, 0, 0⟩) (ht : t.length < 200) : Nx c p r t w (p + 1) r (t ++ [r a]) w := nx_of h (by rw [stp_16, if_neg (by dsimp only; omega)]; simp)
theorem nx_stop (h : c[p]? = some ⟨17, 0, 0, 0, 0⟩) : Nx c p r t w c.length r t w := nx_of h (by rw [stp_17])
/-- What a step without an error leads to. -/
theorem exG_nx {g : Gs} {st n : Nat} {p' : Nat} {r' : Int → Int} {t' w' : List Int} (hn : (g.th n).now = some ⟨c, p, r, t⟩) (h : Nx c p r t g.w p' r' t' w') :
    exG g st n = if p' = c.length then ⟨w', putT g.th n ⟨none, (g.th n).bg⟩, g.out ++ [⟨st, n, (g.th n).bg - 1, true, 0, t'⟩]⟩ else ⟨w', putT g.th n ⟨some ⟨c, p', r', t'⟩, (g.th n).bg⟩, g.out⟩ := by
  have hq : (exc ⟨c, p, r, t⟩ g.w).2.2.2 = decide (p' = c.length) := by rw [h]
  by_cases hp : p' = c.length
  · rw [if_pos hp, exG_end hn (by rw [hq]; simp [hp]), h]
  · rw [if_neg hp, exG_go hn (by rw [hq]; simp [hp]), h]
end

/-- The steps of a call so far: k of a thread's open call; no call takes more than B of its thread's. -/
def Cnt (S : List Nat) (g : Gs) (k : Nat → Nat) (B : Nat → Nat) : Prop := ∀ x ∈ dgs g.out, x.b ≤ S.length ∧ (x.e = -1 → (S.drop x.b).count x.th = k x.th) ∧ (x.e ≠ -1 → x.e + 1 ≤ S.length ∧ ((S.take (x.e + 1).toNat).drop x.b).count x.th ≤ B x.th)
def upN (f : Nat → Nat) (n v : Nat) : Nat → Nat := fun i => if i = n then v else f i
theorem upN_same (f : Nat → Nat) (n v : Nat) : upN f n v n = v := by simp [upN]
theorem upN_other (f : Nat → Nat) {n i : Nat} (v : Nat) (h : i ≠ n) : upN f n v i = f i := by simp [upN, h]
theorem cnt_zero (m : Mc) (k B : Nat → Nat) : Cnt [] (g0 m) k B := by intro x hx; simp [g0, dgs] at hx
/-- A call begins. -/
theorem cnt_begin {m : Mc} {S : List Nat} {g : Gs} {k B : Nat → Nat} {n : Nat} {c : Cl} (h : Cnt S g k B) (hs : Hs S.length S.length g) (hn : (g.th n).now = none) {T : Nat → Td} {w : List Int} :
    Cnt S ⟨w, T, g.out ++ [⟨S.length, n, (g.th n).bg, false, 0, []⟩]⟩ (upN k n 0) B := by
  intro x hx
  rw [show dgs (g.out ++ [⟨S.length, n, (g.th n).bg, false, 0, []⟩]) = dgs g.out ++ [⟨S.length, -1, n, (g.th n).bg, []⟩] by rw [dgs_snoc, dg1_begin _ _ rfl]] at hx
  rcases List.mem_append.1 hx with hx | hx
  · obtain ⟨h1, h2, h3⟩ := h x hx
    refine ⟨h1, fun he => ?_, h3⟩
    have ho := ((hs.opn x hx).1 he).1
    rw [upN_other _ _ (by rintro e; rw [e] at ho; exact ho hn)]
    exact h2 he
  · rw [List.mem_singleton.1 hx]
    refine ⟨Nat.le_refl _, fun _ => ?_, fun h => absurd rfl h⟩
    dsimp only
    rw [upN_same, List.drop_eq_nil_of_le (Nat.le_refl _)]
    rfl
/-- The step counts for the thread's open call. -/
theorem cnt_go {S : List Nat} {g g' : Gs} {k B : Nat → Nat} {n : Nat} (h : Cnt S g k B) (ho : g'.out = g.out) : Cnt (S ++ [n]) g' (upN k n (k n + 1)) B := by
  intro x hx
  rw [ho] at hx
  obtain ⟨h1, h2, h3⟩ := h x hx
  refine ⟨by rw [List.length_append]; omega, fun he => ?_, fun he => ?_⟩
  · rw [List.drop_append_of_le_length h1, List.count_append, h2 he]
    by_cases hx : x.th = n
    · rw [hx, upN_same]; simp
    · rw [upN_other _ _ hx, List.count_singleton]
      have hx' : ¬ n = x.th := fun e => hx e.symm
      simp [hx']
  · obtain ⟨h4, h5⟩ := h3 he
    refine ⟨by rw [List.length_append]; omega, ?_⟩
    rw [List.take_append_of_le_length (by omega)]
    exact h5
/-- The step ends the thread's call. -/
theorem cnt_end {S : List Nat} {g g' : Gs} {k B : Nat → Nat} {n : Nat} {x : Ev} (h : Cnt S g k B) (ho : g'.out = g.out ++ [x]) (he : x.en = true) (hs : x.st = S.length) (ht : x.th = n) (hk : k n + 1 ≤ B n)
    (hopn : ∀ d ∈ dgs g.out, d.e = -1 → d.th = n → d.is x) : Cnt (S ++ [n]) g' (upN k n (k n + 1)) B := by
  intro y hy
  rw [ho, dgs_snoc, dg1_end _ _ he] at hy
  obtain ⟨d, hd, q1, q2, q3, ⟨q4, q5, q6⟩ | ⟨q4, rfl⟩⟩ := fin_mem hy
  · obtain ⟨h1, h2, h3⟩ := h d hd
    have hde : d.e = -1 := q4.2.2
    have hdt : d.th = n := by rw [q4.1, ht]
    rw [q1, q2, q5, hs]
    refine ⟨by rw [List.length_append]; omega, fun h => by omega, fun _ => ⟨by rw [List.length_append, List.length_singleton]; omega, ?_⟩⟩
    rw [show ((S.length : Int) + 1).toNat = (S ++ [n]).length by rw [List.length_append, List.length_singleton]; omega, List.take_length, List.drop_append_of_le_length h1, List.count_append, h2 hde, hdt]
    simpa using hk
  · obtain ⟨h1, h2, h3⟩ := h y hd
    refine ⟨by rw [List.length_append]; omega, fun he => ?_, fun he => ?_⟩
    · have hx : y.th ≠ n := fun e => q4 (hopn y hd he e)
      rw [List.drop_append_of_le_length h1, List.count_append, h2 he, upN_other _ _ hx, List.count_singleton]
      have hx' : ¬ n = y.th := fun e => hx e.symm
      simp [hx']
    · obtain ⟨h4, h5⟩ := h3 he
      refine ⟨by rw [List.length_append]; omega, ?_⟩
      rw [List.take_append_of_le_length (by omega)]
      exact h5
/-- The calls behind an end: all but the one that has ended are as they were. -/
theorem dgs_end {g : Gs} {sb se n : Nat} {x : Ev} (hs : Hs sb se g) (hn : (g.th n).now ≠ none) (he : x.en = true) (ht : x.th = n) (hc : x.cl = (g.th n).bg - 1) :
    ∃ o ∈ dgs g.out, o.th = n ∧ o.cl = (g.th n).bg - 1 ∧ o.e = -1 ∧ (∀ y ∈ dgs g.out, y.e = -1 → y.th = n → y = o ∧ y.is x) ∧
      (∀ y ∈ dgs (g.out ++ [x]), (y ∈ dgs g.out ∧ y ≠ o ∧ ¬ (y.th = n ∧ y.cl = (g.th n).bg - 1)) ∨ y = ⟨o.b, x.st, n, (g.th n).bg - 1, x.to⟩) ∧
      (∀ y ∈ dgs g.out, y ≠ o → y ∈ dgs (g.out ++ [x])) ∧ ⟨o.b, x.st, n, (g.th n).bg - 1, x.to⟩ ∈ dgs (g.out ++ [x]) := by
  obtain ⟨o, ho, h1, h2, h3, h4⟩ := hs.live hn
  have hu : ∀ y ∈ dgs g.out, y.e = -1 → y.th = n → y = o := fun y hy he hyn => hs.one y hy o ho (by rw [hyn, h1]) (by
    have := ((hs.opn y hy).1 he).2
    rw [hyn] at this; omega)
  have hiso : o.is x := ⟨by rw [h1, ht], by rw [h2, hc], h3⟩
  have hD : dgs (g.out ++ [x]) = (dgs g.out).map (fun d => d.fin x) := by rw [dgs_snoc, dg1_end _ _ he]
  have hfo : o.fin x = ⟨o.b, x.st, n, (g.th n).bg - 1, x.to⟩ := by unfold Dg.fin; rw [if_pos hiso, h1, h2]
  refine ⟨o, ho, h1, h2, h3, fun y hy he' hyn => ⟨hu y hy he' hyn, by rw [hu y hy he' hyn]; exact hiso⟩, fun y hy => ?_, fun y hy hne => ?_, ?_⟩
  · rw [hD] at hy
    obtain ⟨d, hd, rfl⟩ := List.mem_map.1 hy
    by_cases hdo : d = o
    · subst hdo; exact .inr hfo
    · have hnis : ¬ d.is x := fun hi => hdo (hu d hd hi.2.2 (by rw [hi.1, ht]))
      have : d.fin x = d := by unfold Dg.fin; rw [if_neg hnis]
      rw [this]
      exact .inl ⟨hd, hdo, fun hh => hdo (hs.one d hd o ho (by rw [hh.1, h1]) (by rw [hh.2, h2]))⟩
  · rw [hD]
    refine List.mem_map.2 ⟨y, hy, ?_⟩
    unfold Dg.fin
    rw [if_neg]
    intro hi
    exact hne (hu y hy hi.2.2 (by rw [hi.1, ht]))
  · rw [hD]; exact List.mem_map.2 ⟨o, ho, hfo⟩
/-- The calls behind a beginning. -/
theorem dgs_begin (g : Gs) (st n c : Nat) : dgs (g.out ++ [⟨st, n, c, false, 0, []⟩]) = dgs g.out ++ [⟨st, -1, n, c, []⟩] := by rw [dgs_snoc, dg1_begin _ _ rfl]
end Go.Baro

set_option linter.unusedSimpArgs false
set_option linter.unusedVariables false
namespace Go.Baro.Cel
open Go.RowKit (wrap64)

def wsC (d : Nat) : List Int := List.replicate (7 + 5 * (1 + d)) 0
def putPre (d : Nat) : List Ins :=
  [⟨14, d, d, 7, 0⟩, ⟨14, d, d, 7 + (1 + d), 0⟩, ⟨14, d, d, 7 + 2 * (1 + d), 0⟩, ⟨14, d, d, 7 + 3 * (1 + d), 0⟩, ⟨14, d, d, 7 + 4 * (1 + d), 0⟩, ⟨1, d + 1, 1, 0, 0⟩, ⟨13, d + 2, d, 6, 0⟩, ⟨14, d + 1, d + 2, 7, 0⟩,
   ⟨13, d + 3, d, 2, 0⟩, ⟨14, d + 1, d + 3, 0, 0⟩, ⟨13, d + 3, d, 3, 0⟩, ⟨14, d + 1, d + 3, 0, 0⟩, ⟨13, d + 3, d, 4, 0⟩, ⟨14, d + 1, d + 3, 0, 0⟩, ⟨13, d + 3, d, 5, 0⟩, ⟨14, d + 1, d + 3, 0, 0⟩,
   ⟨1, d + 4, 1 + d, 0, 0⟩, ⟨1, d + 2, -(1 + d), 0, 0⟩, ⟨3, d + 2, d + 2, d + 4, 0⟩, ⟨13, d + 1, d + 2, 7, 0⟩, ⟨11, d + 1, 18, 0, 0⟩]
def putMid (d : Nat) : List Ins := (List.range d).map fun (i : Nat) => ⟨14, i, d + 2, 8 + i, 0⟩
def putPost (d : Nat) : List Ins := [⟨14, d + 2, d, 6, 0⟩, ⟨1, d + 5, 7, 0, 0⟩, ⟨3, d + 3, d + 2, d + 5, 0⟩, ⟨1, d + 6, 1, 0, 0⟩, ⟨2, d + 7, d + 3, 0, 0⟩, ⟨15, d + 7, d, 2, d + 6⟩, ⟨2, d + 7, d + 3, 0, 0⟩, ⟨15, d + 7, d, 3, d + 6⟩,
   ⟨2, d + 7, d + 3, 0, 0⟩, ⟨15, d + 7, d, 4, d + 6⟩, ⟨2, d + 7, d + 3, 0, 0⟩, ⟨15, d + 7, d, 5, d + 6⟩]
def putC (d : Nat) : List Ins := putPre d ++ (putMid d ++ putPost d)
def getPre : List Ins := [⟨1, 0, 0, 0, 0⟩, ⟨1, 1, 1, 0, 0⟩, ⟨15, 1, 2, 2, 0⟩, ⟨11, 1, 7, 0, 0⟩, ⟨1, 3, 1, 0, 0⟩, ⟨3, 2, 2, 3, 0⟩, ⟨10, 1, 0, 0, 0⟩, ⟨13, 4, 5, 6, 0⟩, ⟨1, 6, 7, 0, 0⟩, ⟨3, 4, 4, 6, 0⟩, ⟨1, 7, 1, 0, 0⟩, ⟨15, 4, 2, 2, 7⟩, ⟨13, 4, 2, 2, 0⟩]
def getMid (d : Nat) : List Ins := (List.range d).map fun (i : Nat) => ⟨13, 8 + i, 4, 1 + i, 0⟩
def getPost (d : Nat) : List Ins := [⟨1, 0, 0, 0, 0⟩, ⟨14, 0, 2, 2, 0⟩] ++ (List.range d).map fun (i : Nat) => ⟨16, 8 + i, 0, 0, 0⟩
def getC (d : Nat) : List Ins := getPre ++ (getMid d ++ getPost d)
theorem putC_len (d : Nat) : (putC d).length = 33 + d := by simp [putC, putPre, putMid, putPost]; omega
theorem getC_len (d : Nat) : (getC d).length = 15 + 2 * d := by simp [getC, getPre, getMid, getPost]; omega
section
variable {d p i : Nat} {o : Ins}
theorem put_pre (h : (putPre d)[p]? = some o) : (putC d)[p]? = some o := by
  have := (List.getElem?_eq_some_iff.1 h).1
  unfold putC
  rw [List.getElem?_append_left this, h]
theorem put_mid (h : i < d) : (putC d)[21 + i]? = some ⟨14, i, d + 2, 8 + i, 0⟩ := by
  unfold putC
  rw [List.getElem?_append_right (by simp [putPre]), show (21 + i - (putPre d).length) = i by simp [putPre], List.getElem?_append_left (by simpa [putMid] using h)]
  simp [putMid, h]
theorem put_post (hp : p = 21 + d + i) (h : (putPost d)[i]? = some o) : (putC d)[p]? = some o := by
  subst hp
  unfold putC
  rw [List.getElem?_append_right (by simp [putPre]; omega), show (21 + d + i - (putPre d).length) = d + i by simp [putPre]; omega, List.getElem?_append_right (by simp [putMid]), show d + i - (putMid d).length = i by simp [putMid], h]
theorem get_pre (h : getPre[p]? = some o) : (getC d)[p]? = some o := by
  have := (List.getElem?_eq_some_iff.1 h).1
  unfold getC
  rw [List.getElem?_append_left this, h]
theorem get_mid (h : i < d) : (getC d)[13 + i]? = some ⟨13, 8 + i, 4, 1 + i, 0⟩ := by
  unfold getC
  rw [List.getElem?_append_right (by simp [getPre]), show (13 + i - getPre.length) = i by simp [getPre], List.getElem?_append_left (by simpa [getMid] using h)]
  simp [getMid, h]
theorem get_post (hp : p = 13 + d + i) (h : (getPost d)[i]? = some o) : (getC d)[p]? = some o := by
  subst hp
  unfold getC
  rw [List.getElem?_append_right (by simp [getPre]; omega), show (13 + d + i - getPre.length) = d + i by simp [getPre]; omega, List.getElem?_append_right (by simp [getMid]), show d + i - (getMid d).length = i by simp [getMid], h]
theorem get_emit (h : i < d) : (getC d)[15 + d + i]? = some ⟨16, 8 + i, 0, 0, 0⟩ := get_post (i := 2 + i) (by omega) (by
  unfold getPost
  rw [List.getElem?_append_right (by simp), show 2 + i - ([⟨1, 0, 0, 0, 0⟩, ⟨14, 0, 2, 2, 0⟩] : List Ins).length = i by simp]
  simp [h])
end

/-- What is known beside the words: V: which Put's record is current; cu: its copy; pr: the copy before; con: which record a copy holds; tg: the copy that is being written (5: none); gp: the next seat that the Put gives to (4: it gives no more);
who is at a seat (0: nobody); how far a reader has come; what it must at least tell of; how many steps a thread has taken in its call; what a Get told of. -/
structure Gh where
  V : Nat
  cu : Nat
  pr : Nat
  con : Nat → Nat
  tg : Nat
  gp : Nat
  own : Nat → Nat
  pos : Nat → Nat
  lo : Nat → Nat
  k : Nat → Nat
  tl : Nat → Nat → Nat

/-- Where the copy j begins. -/
def ad (d j : Nat) : Nat := 7 + j * (1 + d)
theorem ad_lt {d j j' : Nat} (h : j < j') : ad d j + (1 + d) ≤ ad d j' := by
  unfold ad
  have := Nat.mul_le_mul_right (1 + d) (show j + 1 ≤ j' from h)
  rw [Nat.succ_mul] at this
  omega
theorem ad_inj {d j j' : Nat} (h : ad d j = ad d j') : j = j' := by
  rcases Nat.lt_trichotomy j j' with h1 | h1 | h1
  · have := ad_lt (d := d) h1; omega
  · exact h1
  · have := ad_lt (d := d) h1; omega
theorem ad_top {d j : Nat} (h : j < 5) : ad d j + (1 + d) ≤ 7 + 5 * (1 + d) := ad_lt (d := d) (j' := 5) h
theorem ad_low (d j : Nat) : 7 ≤ ad d j := by unfold ad; omega
theorem ad_cell {d j j' k k' : Nat} (hk : k ≤ d) (hk' : k' ≤ d) (h : ad d j + k = ad d j' + k') : j = j' ∧ k = k' := by
  rcases Nat.lt_trichotomy j j' with h1 | h1 | h1
  · have := ad_lt (d := d) h1; omega
  · subst h1; exact ⟨rfl, by omega⟩
  · have := ad_lt (d := d) h1; omega

/-- The words. -/
structure SI (d : Nat) (val : Nat → Nat → Int) (w : List Int) (g : Gh) : Prop where
  len : w.length = 7 + 5 * (1 + d)
  cu : g.cu < 5
  cw : rd w 6 = (ad d g.cu : Int) - 7
  con : g.con g.cu = g.V
  tc : g.tg ≠ g.cu
  num : ∀ j, j < 5 → j ≠ g.tg → ∀ k, k < d → rd w (ad d j + (1 + k)) = val (g.con j) k
  pv : g.gp < 4 → g.pr < 5 ∧ g.tg = 5 ∧ g.con g.pr + 1 = g.V
  st : ∀ s, s < 4 → rd w (2 + s) = 0 ∨ rd w (2 + s) = 1 ∨ ∃ j, j < 5 ∧ j ≠ g.tg ∧ g.con j ≤ g.V ∧ rd w (2 + s) = (ad d j : Int)
  s3 : rd w 5 = 0
/-- A copy that was current when it was read and may still be taken. -/
def Sk (g : Gh) (s j : Nat) : Prop := j < 5 ∧ (j = g.cu ∨ (g.gp ≤ s ∧ g.gp < 4 ∧ j = g.pr))
/-- The seat holds a copy. -/
def Giv (d : Nat) (w : List Int) (g : Gh) (s lo : Nat) : Prop := ∃ j, j < 5 ∧ j ≠ g.tg ∧ rd w (2 + s) = (ad d j : Int) ∧ lo ≤ g.con j ∧ g.con j ≤ g.V
/-- What is marked covers what is at the first i seats. -/
structure Sc (d : Nat) (w : List Int) (g : Gh) (i : Nat) : Prop where
  seat : ∀ s, s < i → s < 4 → ∀ j, j < 5 → rd w (2 + s) = (ad d j : Int) → rd w (ad d j) ≠ 0
  cur : rd w (ad d g.cu) ≠ 0
  few : ∃ a b c, ∀ j, j < 5 → rd w (ad d j) ≠ 0 → j = g.cu ∨ (0 < i ∧ j = a) ∨ (1 < i ∧ j = b) ∨ (2 < i ∧ j = c)
/-- The registers of a Put ahead of its store to the current copy's word. -/
structure PR (d : Nat) (val : Nat → Nat → Int) (g : Gh) (b : Nat) (r : Int → Int) : Prop where
  z : r d = 0
  ar : ∀ k : Nat, k < d → r k = val (g.V + 1) k
  gp : g.gp = 4
  b : b = g.V + 1
/-- A Put, instruction by instruction. b: how many Puts have begun; k: the steps that it has taken. -/
inductive PA (d : Nat) (val : Nat → Nat → Int) (w : List Int) (g : Gh) (b k : Nat) : Nat → (Int → Int) → Prop
  | clear (i : Nat) (r : Int → Int) (hi : i ≤ 5) (K : k ≤ i) (R : PR d val g b r) (T : g.tg = 5) (m : ∀ j, j < i → rd w (ad d j) = 0) : PA d val w g b k i r
  | got0 (r : Int → Int) (K : k ≤ 6) (R : PR d val g b r) (T : g.tg = 5) (m : ∀ j, j < 5 → rd w (ad d j) = 0) (M : r (d + 1) = 1) : PA d val w g b k 6 r
  | got1 (r : Int → Int) (K : k ≤ 7) (R : PR d val g b r) (T : g.tg = 5) (m : ∀ j, j < 5 → rd w (ad d j) = 0) (M : r (d + 1) = 1) (C : r (d + 2) = (ad d g.cu : Int) - 7) : PA d val w g b k 7 r
  | scan (i : Nat) (r : Int → Int) (hi : i ≤ 4) (K : k ≤ 8 + 2 * i) (R : PR d val g b r) (T : g.tg = 5) (M : r (d + 1) = 1) (sc : Sc d w g i) : PA d val w g b k (8 + 2 * i) r
  | hit (i : Nat) (r : Int → Int) (hi : i < 4) (K : k ≤ 9 + 2 * i) (R : PR d val g b r) (T : g.tg = 5) (M : r (d + 1) = 1) (sc : Sc d w g i) (A : r (d + 3) = 0 ∨ r (d + 3) = 1 ∨ ∃ j, j < 5 ∧ r (d + 3) = (ad d j : Int))
      (A3 : i = 3 → r (d + 3) = 0) (B : ∀ j, j < 5 → rd w (2 + i) = (ad d j : Int) → r (d + 3) = (ad d j : Int) ∨ j = g.cu) : PA d val w g b k (9 + 2 * i) r
  | size (r : Int → Int) (K : k ≤ 17) (R : PR d val g b r) (T : g.tg = 5) (sc : Sc d w g 4) (S : r (d + 4) = 1 + d) : PA d val w g b k 17 r
  | loop (n : Nat) (r : Int → Int) (hn : n ≤ 4) (K : k ≤ 18 + 3 * n) (R : PR d val g b r) (T : g.tg = 5) (sc : Sc d w g 4) (S : r (d + 4) = 1 + d) (C : r (d + 2) = (ad d n : Int) - 7 - (1 + d)) (m : ∀ j, j < n → rd w (ad d j) ≠ 0) : PA d val w g b k 18 r
  | look (n : Nat) (r : Int → Int) (hn : n ≤ 4) (K : k ≤ 19 + 3 * n) (R : PR d val g b r) (T : g.tg = 5) (sc : Sc d w g 4) (S : r (d + 4) = 1 + d) (C : r (d + 2) = (ad d n : Int) - 7) (m : ∀ j, j < n → rd w (ad d j) ≠ 0) : PA d val w g b k 19 r
  | test (n : Nat) (r : Int → Int) (hn : n ≤ 4) (K : k ≤ 20 + 3 * n) (R : PR d val g b r) (T : g.tg = 5) (sc : Sc d w g 4) (S : r (d + 4) = 1 + d) (C : r (d + 2) = (ad d n : Int) - 7) (m : ∀ j, j < n → rd w (ad d j) ≠ 0) (M : r (d + 1) = rd w (ad d n)) : PA d val w g b k 20 r
  | copy (i c : Nat) (r : Int → Int) (hi : i ≤ d) (hc : c < 5) (K : k ≤ 33 + i) (R : PR d val g b r) (T : g.tg = c) (C : r (d + 2) = (ad d c : Int) - 7) (cp : ∀ q, q < i → rd w (ad d c + (1 + q)) = val (g.V + 1) q)
      (fr : ∀ s, s < 4 → rd w (2 + s) ≠ (ad d c : Int)) : PA d val w g b k (21 + i) r
  | pub (r : Int → Int) (K : k ≤ 34 + d) (B : b = g.V) (Z : r d = 0) (G : g.gp = 0) (T : g.tg = 5) (C : r (d + 2) = (ad d g.cu : Int) - 7) : PA d val w g b k (22 + d) r
  | pubF (r : Int → Int) (K : k ≤ 35 + d) (B : b = g.V) (Z : r d = 0) (G : g.gp = 0) (T : g.tg = 5) (C : r (d + 2) = (ad d g.cu : Int) - 7) (F : r (d + 5) = 7) : PA d val w g b k (23 + d) r
  | pubA (r : Int → Int) (K : k ≤ 36 + d) (B : b = g.V) (Z : r d = 0) (G : g.gp = 0) (T : g.tg = 5) (A : r (d + 3) = (ad d g.cu : Int)) : PA d val w g b k (24 + d) r
  | give (i : Nat) (r : Int → Int) (hi : i ≤ 4) (K : k ≤ 37 + d + 2 * i) (B : b = g.V) (Z : r d = 0) (G : g.gp = i) (T : g.tg = 5) (A : r (d + 3) = (ad d g.cu : Int)) (L : r (d + 6) = 1) : PA d val w g b k (25 + d + 2 * i) r
  | givG (i : Nat) (r : Int → Int) (hi : i < 4) (K : k ≤ 38 + d + 2 * i) (B : b = g.V) (Z : r d = 0) (G : g.gp = i) (T : g.tg = 5) (A : r (d + 3) = (ad d g.cu : Int)) (L : r (d + 6) = 1) (H : r (d + 7) = (ad d g.cu : Int)) : PA d val w g b k (26 + d + 2 * i) r

/-- What a Put does to the others. -/
structure PG (d : Nat) (w : List Int) (g : Gh) (w' : List Int) (g' : Gh) : Prop where
  V : g.V ≤ g'.V
  same : g'.own = g.own ∧ g'.pos = g.pos ∧ g'.lo = g.lo
  seat : ∀ s, s < 4 → rd w (2 + s) ≠ 1 → rd w' (2 + s) = rd w (2 + s)
  one : ∀ s, s < 4 → rd w (2 + s) = 1 → (rd w' (2 + s) = 1 ∧ ∀ j, Sk g s j → Sk g' s j ∧ g'.con j = g.con j) ∨ (∃ j, j < 5 ∧ j ≠ g'.tg ∧ rd w' (2 + s) = (ad d j : Int) ∧ g.V ≤ g'.con j ∧ g'.con j ≤ g'.V)
  hold : ∀ s j, s < 4 → j < 5 → j ≠ g.tg → rd w (2 + s) = (ad d j : Int) → j ≠ g'.tg ∧ g'.con j = g.con j
/-- What a Get does to the others: t is its thread. -/
structure RG (d t : Nat) (w : List Int) (g : Gh) (w' : List Int) (g' : Gh) : Prop where
  len : w'.length = w.length
  same : g'.V = g.V ∧ g'.cu = g.cu ∧ g'.pr = g.pr ∧ g'.con = g.con ∧ g'.tg = g.tg ∧ g'.gp = g.gp
  mem : ∀ n, n < 2 ∨ 6 ≤ n → rd w' n = rd w n
  st : ∀ s, s < 4 → rd w' (2 + s) = rd w (2 + s) ∨ rd w' (2 + s) = 0 ∨ rd w' (2 + s) = 1 ∨ (rd w (2 + s) = 1 ∧ ∃ j, Sk g s j ∧ rd w' (2 + s) = (ad d j : Int))
  oth : ∀ s, s < 4 → g.own s ≠ 0 → g.own s ≠ t → rd w' (2 + s) = rd w (2 + s) ∧ g'.own s = g.own s
  own : ∀ s, g'.own s = g.own s ∨ g'.own s = 0 ∨ g'.own s = t
  pos : ∀ u, u ≠ t → g'.pos u = g.pos u ∧ g'.lo u = g.lo u
end Go.Baro.Cel
