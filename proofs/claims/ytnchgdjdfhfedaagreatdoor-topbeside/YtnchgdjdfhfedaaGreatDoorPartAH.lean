/- Of this claim's own texts these, one behind the other: AlgPure, AlgPure2, RunPure2, VmKeepPure. No statement of the seat is proved here; no condition but those that stand at the theorems. -/
import Derived.Test.YtnchgdjdfhfedaaGreatDoorPartAG
import Derived.Test.YtnchgdjdfhfedaaGreatDoorPartAD
import Derived.Test.YtnchgdjdfhfedaaGreatDoorPartAC
set_option linter.unusedSimpArgs false
set_option linter.unusedVariables false
namespace Go.Baro
open Go.RowKit (wrap64)

/-- A word. -/
def rd (w : List Int) (n : Nat) : Int := w[n]?.getD 0
theorem rd_set {w : List Int} {n m : Nat} {v : Int} (h : n < w.length) : rd (w.set n v) m = if m = n then v else rd w m := by
  unfold rd
  rw [List.getElem?_set]
  by_cases hm : n = m
  · subst hm; simp [h]
  · rw [if_neg hm, if_neg (fun e => hm e.symm)]
theorem rd_same {w : List Int} {n : Nat} {v : Int} (h : n < w.length) : rd (w.set n v) n = v := by rw [rd_set h, if_pos rfl]
theorem rd_other {w : List Int} {n m : Nat} {v : Int} (h : m ≠ n) : rd (w.set n v) m = rd w m := by
  unfold rd
  rw [List.getElem?_set_ne (fun e => h e.symm)]
theorem at_rd {w : List Int} {n : Nat} (h : n < w.length) : w[n]? = some (rd w n) := by simp [rd, h]
theorem wrap_id {x : Int} (h : -9223372036854775808 ≤ x ∧ x ≤ 9223372036854775807) : wrap64 x = x := by unfold wrap64; omega

/-- A run under one more step. -/
theorem ply_snoc (m : Mc) (S : List Nat) (n : Nat) (g : Gs) : plyG m 0 (S ++ [n]) g = actG m (plyG m 0 S g) S.length n := by
  rw [plyG_append]
  simp [plyG]
/-- What holds of a run behind each part of its schedule. -/
theorem plyG_indS {m : Mc} {I : List Nat → Gs → Prop} {A : Nat → Prop} (h0 : I [] (g0 m)) (hs : ∀ S g n, A n → I S g → I (S ++ [n]) (actG m g S.length n)) : ∀ (S : List Nat), (∀ n ∈ S, A n) → I S (plyG m 0 S (g0 m)) := by
  suffices h : ∀ (k : Nat) (S : List Nat), S.length = k → (∀ n ∈ S, A n) → I S (plyG m 0 S (g0 m)) from fun S => h S.length S rfl
  intro k
  induction k with
  | zero => intro S hS _; obtain rfl := List.eq_nil_of_length_eq_zero hS; exact h0
  | succ k ih =>
    intro S hS hA
    obtain ⟨T, n, rfl⟩ : ∃ T n, S = T ++ [n] := ⟨S.dropLast, S.getLast (by rintro rfl; simp at hS), (List.dropLast_concat_getLast _).symm⟩
    rw [ply_snoc]
    exact hs T _ n (hA n (by simp)) (ih T (by simp at hS; exact hS) (fun x hx => hA x (by simp [hx])))

/-- A step of a call without an error. -/
def Nx (c : List Ins) (p : Nat) (r : Int → Int) (t w : List Int) (p' : Nat) (r' : Int → Int) (t' w' : List Int) : Prop :=
  exc ⟨c, p, r, t⟩ w = (⟨c, p', r', t'⟩, w', 0, decide (p' = c.length))
section
variable {c : List Ins} {p : Nat} {r : Int → Int} {t w : List Int} {a b k e : Int}
theorem nx_of {o : Ins} {p' : Nat} {r' : Int → Int} {t' w' : List Int} (h : c[p]? = some o) (hs : stp c.length o ⟨p, r, w, t⟩ = (⟨p', r', w', t'⟩, 0)) : Nx c p r t w p' r' t' w' := by
  have hp := (List.getElem?_eq_some_iff.1 h).1
  unfold Nx exc
  rw [if_neg (by dsimp only; omega)]
  dsimp only
  rw [Int.toNat_natCast, h, Option.getD_some, hs]
  have : decide (((0 : Int) ≠ 0) ∨ ((p' : Int) = (c.length : Int))) = decide (p' = c.length) := by
    by_cases hq : p' = c.length
    · simp [hq]
    · have : ¬ ((p' : Int) = (c.length : Int)) := by omega
      simp [hq, this]
  rw [this]
theorem nx_set (h : c[p]? = some ⟨1, a, b, 0, 0⟩) : Nx c p r t w (p + 1) (upd r a b) t w := nx_of h (by rw [stp_1]; simp)
theorem nx_copy (h : c[p]? = some ⟨2, a, b, 0, 0⟩) : Nx c p r t w (p + 1) (upd r a (r b)) t w := nx_of h (by rw [stp_2]; simp)
theorem nx_cmp {o : Int} (h : c[p]? = some ⟨o, a, b, k, 0⟩) (ho : 3 ≤ o ∧ o ≤ 9) : Nx c p r t w (p + 1) (upd r a (cmpV o (r b) (r k))) t w := nx_of h (by rw [stp_cmp ho]; simp)
theorem nx_add {v : Int} (h : c[p]? = some ⟨3, a, b, k, 0⟩) (hv : wrap64 (r b + r k) = v) : Nx c p r t w (p + 1) (upd r a v) t w := by
  have := nx_cmp (r := r) (t := t) (w := w) h (by omega)
  rwa [show cmpV 3 (r b) (r k) = v by simp [cmpV, hv]] at this
theorem nx_jump {q : Nat} (h : c[p]? = some ⟨10, q, 0, 0, 0⟩) : Nx c p r t w q r t w := nx_of h (by rw [stp_10])
theorem nx_whenN {q : Nat} (h : c[p]? = some ⟨11, a, q, 0, 0⟩) (hr : r a ≠ 0) : Nx c p r t w q r t w := nx_of h (by rw [stp_11]; simp [hr])
theorem nx_whenZ {q : Int} (h : c[p]? = some ⟨11, a, q, 0, 0⟩) (hr : r a = 0) : Nx c p r t w (p + 1) r t w := nx_of h (by rw [stp_11]; simp [hr])
theorem nx_unlZ {q : Nat} (h : c[p]? = some ⟨12, a, q, 0, 0⟩) (hr : r a = 0) : Nx c p r t w q r t w := nx_of h (by rw [stp_12]; simp [hr])
theorem nx_unlN {q : Int} (h : c[p]? = some ⟨12, a, q, 0, 0⟩) (hr : r a ≠ 0) : Nx c p r t w (p + 1) r t w := nx_of h (by rw [stp_12]; simp [hr])
theorem nx_load {q : Nat} (h : c[p]? = some ⟨13, a, b, k, 0⟩) (hq : wrap64 (r b + k) = q) (hl : q < w.length) : Nx c p r t w (p + 1) (upd r a (rd w q)) t w := nx_of h (by rw [stp_13 hq (at_rd hl)]; simp)
theorem nx_store {q : Nat} (h : c[p]? = some ⟨14, a, b, k, 0⟩) (hq : wrap64 (r b + k) = q) (hl : q < w.length) : Nx c p r t w (p + 1) r t (w.set q (r a)) := nx_of h (by rw [stp_14 hq hl]; simp)
theorem nx_casT {q : Nat} (h : c[p]? = some ⟨15, a, b, k, e⟩) (hq : wrap64 (r b + k) = q) (hl : q < w.length) (hx : rd w q = r e) : Nx c p r t w (p + 1) (upd r a 1) t (w.set q (r a)) := nx_of h (by rw [stp_15t hq (at_rd hl) hx]; simp)
theorem nx_casF {q : Nat} (h : c[p]? = some ⟨15, a, b, k, e⟩) (hq : wrap64 (r b + k) = q) (hl : q < w.length) (hx : rd w q ≠ r e) : Nx c p r t w (p + 1) (upd r a 0) t w := nx_of h (by rw [stp_15f hq (at_rd hl) hx]; simp)
theorem nx_emit (h : c[p]? = some ⟨16, a, 0, 0, 0⟩) (ht : t.length < 200) : Nx c p r t w (p + 1) r (t ++ [r a]) w := nx_of h (by rw [stp_16, if_neg (by dsimp only; omega)]; simp)
theorem nx_stop (h : c[p]? = some ⟨17, 0, 0, 0, 0⟩) : Nx c p r t w c.length r t w := nx_of h (by rw [stp_17])
/-- What a step without an error leads to. -/
theorem exG_nx {g : Gs} {st n : Nat} {p' : Nat} {r' : Int → Int} {t' w' : List Int} (hn : (g.th n).now = some ⟨c, p, r, t⟩) (h : Nx c p r t g.w p' r' t' w') :
    exG g st n = if p' = c.length then ⟨w', putT g.th n ⟨none, (g.th n).bg⟩, g.out ++ [⟨st, n, (g.th n).bg - 1, true, 0, t'⟩]⟩ else ⟨w', putT g.th n ⟨some ⟨c, p', r', t'⟩, (g.th n).bg⟩, g.out⟩ := by
  have hq : (exc ⟨c, p, r, t⟩ g.w).2.2.2 = decide (p' = c.length) := by rw [h]
  by_cases hp : p' = c.length
  · rw [if_pos hp, exG_end hn (by rw [hq]; simp [hp]), h]
  · rw [if_neg hp, exG_go hn (by rw [hq]; simp [hp]), h]
end

/-- The steps of a call so far: k of a thread's open call; no call takes more than B of its thread's. -/
def Cnt (S : List Nat) (g : Gs) (k : Nat → Nat) (B : Nat → Nat) : Prop := ∀ x ∈ dgs g.out, x.b ≤ S.length ∧ (x.e = -1 → (S.drop x.b).count x.th = k x.th) ∧ (x.e ≠ -1 → x.e + 1 ≤ S.length ∧ ((S.take (x.e + 1).toNat).drop x.b).count x.th ≤ B x.th)
def upN (f : Nat → Nat) (n v : Nat) : Nat → Nat := fun i => if i = n then v else f i
theorem upN_same (f : Nat → Nat) (n v : Nat) : upN f n v n = v := by simp [upN]
theorem upN_other (f : Nat → Nat) {n i : Nat} (v : Nat) (h : i ≠ n) : upN f n v i = f i := by simp [upN, h]
theorem cnt_zero (m : Mc) (k B : Nat → Nat) : Cnt [] (g0 m) k B := by intro x hx; simp [g0, dgs] at hx
/-- A call begins. -/
theorem cnt_begin {m : Mc} {S : List Nat} {g : Gs} {k B : Nat → Nat} {n : Nat} {c : Cl} (h : Cnt S g k B) (hs : Hs S.length S.length g) (hn : (g.th n).now = none) {T : Nat → Td} {w : List Int} :
    Cnt S ⟨w, T, g.out ++ [⟨S.length, n, (g.th n).bg, false, 0, []⟩]⟩ (upN k n 0) B := by
  intro x hx
  rw [show dgs (g.out ++ [⟨S.length, n, (g.th n).bg, false, 0, []⟩]) = dgs g.out ++ [⟨S.length, -1, n, (g.th n).bg, []⟩] by rw [dgs_snoc, dg1_begin _ _ rfl]] at hx
  rcases List.mem_append.1 hx with hx | hx
  · obtain ⟨h1, h2, h3⟩ := h x hx
    refine ⟨h1, fun he => ?_, h3⟩
    have ho := ((hs.opn x hx).1 he).1
    rw [upN_other _ _ (by rintro e; rw [e] at ho; exact ho hn)]
    exact h2 he
  · rw [List.mem_singleton.1 hx]
    refine ⟨Nat.le_refl _, fun _ => ?_, fun h => absurd rfl h⟩
    dsimp only
    rw [upN_same, List.drop_eq_nil_of_le (Nat.le_refl _)]
    rfl
/-- The step counts for the thread's open call. -/
theorem cnt_go {S : List Nat} {g g' : Gs} {k B : Nat → Nat} {n : Nat} (h : Cnt S g k B) (ho : g'.out = g.out) : Cnt (S ++ [n]) g' (upN k n (k n + 1)) B := by
  intro x hx
  rw [ho] at hx
  obtain ⟨h1, h2, h3⟩ := h x hx
  refine ⟨by rw [List.length_append]; omega, fun he => ?_, fun he => ?_⟩
  · rw [List.drop_append_of_le_length h1, List.count_append, h2 he]
    by_cases hx : x.th = n
    · rw [hx, upN_same]; simp
    · rw [upN_other _ _ hx, List.count_singleton]
      have hx' : ¬ n = x.th := fun e => hx e.symm
      simp [hx']
  · obtain ⟨h4, h5⟩ := h3 he
    refine ⟨by rw [List.length_append]; omega, ?_⟩
    rw [List.take_append_of_le_length (by omega)]
    exact h5
/-- The step ends the thread's call. -/
theorem cnt_end {S : List Nat} {g g' : Gs} {k B : Nat → Nat} {n : Nat} {x : Ev} (h : Cnt S g k B) (ho : g'.out = g.out ++ [x]) (he : x.en = true) (hs : x.st = S.length) (ht : x.th = n) (hk : k n + 1 ≤ B n)
    (hopn : ∀ d ∈ dgs g.out, d.e = -1 → d.th = n → d.is x) : Cnt (S ++ [n]) g' (upN k n (k n + 1)) B := by
  intro y hy
  rw [ho, dgs_snoc, dg1_end _ _ he] at hy
  obtain ⟨d, hd, q1, q2, q3, ⟨q4, q5, q6⟩ | ⟨q4, rfl⟩⟩ := fin_mem hy
  · obtain ⟨h1, h2, h3⟩ := h d hd
    have hde : d.e = -1 := q4.2.2
    have hdt : d.th = n := by rw [q4.1, ht]
    rw [q1, q2, q5, hs]
    refine ⟨by rw [List.length_append]; omega, fun h => by omega, fun _ => ⟨by rw [List.length_append, List.length_singleton]; omega, ?_⟩⟩
    rw [show ((S.length : Int) + 1).toNat = (S ++ [n]).length by rw [List.length_append, List.length_singleton]; omega, List.take_length, List.drop_append_of_le_length h1, List.count_append, h2 hde, hdt]
    simpa using hk
  · obtain ⟨h1, h2, h3⟩ := h y hd
    refine ⟨by rw [List.length_append]; omega, fun he => ?_, fun he => ?_⟩
    · have hx : y.th ≠ n := fun e => q4 (hopn y hd he e)
      rw [List.drop_append_of_le_length h1, List.count_append, h2 he, upN_other _ _ hx, List.count_singleton]
      have hx' : ¬ n = y.th := fun e => hx e.symm
      simp [hx']
    · obtain ⟨h4, h5⟩ := h3 he
      refine ⟨by rw [List.length_append]; omega, ?_⟩
      rw [List.take_append_of_le_length (by omega)]
      exact h5
/-- The calls behind an end: all but the one that has ended are as they were. -/
theorem dgs_end {g : Gs} {sb se n : Nat} {x : Ev} (hs : Hs sb se g) (hn : (g.th n).now ≠ none) (he : x.en = true) (ht : x.th = n) (hc : x.cl = (g.th n).bg - 1) :
    ∃ o ∈ dgs g.out, o.th = n ∧ o.cl = (g.th n).bg - 1 ∧ o.e = -1 ∧ (∀ y ∈ dgs g.out, y.e = -1 → y.th = n → y = o ∧ y.is x) ∧
      (∀ y ∈ dgs (g.out ++ [x]), (y ∈ dgs g.out ∧ y ≠ o ∧ ¬ (y.th = n ∧ y.cl = (g.th n).bg - 1)) ∨ y = ⟨o.b, x.st, n, (g.th n).bg - 1, x.to⟩) ∧
      (∀ y ∈ dgs g.out, y ≠ o → y ∈ dgs (g.out ++ [x])) ∧ ⟨o.b, x.st, n, (g.th n).bg - 1, x.to⟩ ∈ dgs (g.out ++ [x]) := by
  obtain ⟨o, ho, h1, h2, h3, h4⟩ := hs.live hn
  have hu : ∀ y ∈ dgs g.out, y.e = -1 → y.th = n → y = o := fun y hy he hyn => hs.one y hy o ho (by rw [hyn, h1]) (by
    have := ((hs.opn y hy).1 he).2
    rw [hyn] at this; omega)
  have hiso : o.is x := ⟨by rw [h1, ht], by rw [h2, hc], h3⟩
  have hD : dgs (g.out ++ [x]) = (dgs g.out).map (fun d => d.fin x) := by rw [dgs_snoc, dg1_end _ _ he]
  have hfo : o.fin x = ⟨o.b, x.st, n, (g.th n).bg - 1, x.to⟩ := by unfold Dg.fin; rw [if_pos hiso, h1, h2]
  refine ⟨o, ho, h1, h2, h3, fun y hy he' hyn => ⟨hu y hy he' hyn, by rw [hu y hy he' hyn]; exact hiso⟩, fun y hy => ?_, fun y hy hne => ?_, ?_⟩
  · rw [hD] at hy
    obtain ⟨d, hd, rfl⟩ := List.mem_map.1 hy
    by_cases hdo : d = o
    · subst hdo; exact .inr hfo
    · have hnis : ¬ d.is x := fun hi => hdo (hu d hd hi.2.2 (by rw [hi.1, ht]))
      have : d.fin x = d := by unfold Dg.fin; rw [if_neg hnis]
      rw [this]
      exact .inl ⟨hd, hdo, fun hh => hdo (hs.one d hd o ho (by rw [hh.1, h1]) (by rw [hh.2, h2]))⟩
  · rw [hD]
    refine List.mem_map.2 ⟨y, hy, ?_⟩
    unfold Dg.fin
    rw [if_neg]
    intro hi
    exact hne (hu y hy hi.2.2 (by rw [hi.1, ht]))
  · rw [hD]; exact List.mem_map.2 ⟨o, ho, hfo⟩
/-- The calls behind a beginning. -/
theorem dgs_begin (g : Gs) (st n c : Nat) : dgs (g.out ++ [⟨st, n, c, false, 0, []⟩]) = dgs g.out ++ [⟨st, -1, n, c, []⟩] := by rw [dgs_snoc, dg1_begin _ _ rfl]
end Go.Baro

set_option linter.unusedSimpArgs false
set_option linter.unusedVariables false
namespace Go.Baro

theorem exG_bg (g : Gs) (st n i : Nat) : ((exG g st n).th i).bg = (g.th i).bg := by
  cases hn : (g.th n).now with
  | none => rw [exG_none hn]
  | some l =>
    by_cases he : (exc l g.w).2.2.2 = true
    · rw [exG_end hn he]
      dsimp only
      by_cases hi : i = n
      · subst hi; rw [putT_same]
      · rw [putT_other _ _ hi]
    · rw [exG_go hn (by simpa using he)]
      dsimp only
      by_cases hi : i = n
      · subst hi; rw [putT_same]
      · rw [putT_other _ _ hi]
theorem exG_th {g : Gs} {st n i : Nat} (h : i ≠ n) : (exG g st n).th i = g.th i := by
  cases hn : (g.th n).now with
  | none => rw [exG_none hn]
  | some l =>
    by_cases he : (exc l g.w).2.2.2 = true
    · rw [exG_end hn he]; exact putT_other _ _ h
    · rw [exG_go hn (by simpa using he)]; exact putT_other _ _ h
/-- A step's beginning: nothing, or a call begins. -/
theorem bgG_cases (m : Mc) (g : Gs) (st n : Nat) : (bgG m g st n = g ∧ ((g.th n).now ≠ none ∨ ((g.th n).now = none ∧ (m.ts[n]?.getD []).length ≤ (g.th n).bg))) ∨
    ∃ c, (g.th n).now = none ∧ (m.ts[n]?.getD [])[(g.th n).bg]? = some c ∧ bgG m g st n = ⟨g.w, putT g.th n ⟨some (live (m.cs[c.k.toNat]?.getD []) c.ar), (g.th n).bg + 1⟩, g.out ++ [⟨st, n, (g.th n).bg, false, 0, []⟩]⟩ := by
  unfold bgG
  cases hn : (g.th n).now with
  | some l => exact .inl ⟨rfl, .inl (by simp)⟩
  | none =>
    dsimp only
    cases hc : (m.ts[n]?.getD [])[(g.th n).bg]? with
    | none => exact .inl ⟨rfl, .inr ⟨rfl, by simpa using hc⟩⟩
    | some c => exact .inr ⟨c, rfl, rfl, rfl⟩
/-- No more calls begin than there are. -/
theorem bg_le (m : Mc) (S : List Nat) (i : Nat) : ((plyG m 0 S (g0 m)).th i).bg ≤ (m.ts[i]?.getD []).length := by
  refine plyG_indS (I := fun _ g => (g.th i).bg ≤ (m.ts[i]?.getD []).length) (A := fun _ => True) (by simp [g0]) (fun S g n _ h => ?_) S (fun _ _ => trivial)
  rw [actG_eq, exG_bg]
  rcases bgG_cases m g S.length n with ⟨h1, _⟩ | ⟨c, h1, h2, h3⟩
  · rw [h1]; exact h
  · rw [h3]
    dsimp only
    by_cases hi : i = n
    · subst hi
      rw [putT_same]
      exact (List.getElem?_eq_some_iff.1 h2).1
    · rw [putT_other _ _ hi]; exact h
/-- What becomes of a call. -/
theorem dgs_later {es : List Ev} {st : Nat} (hes : ∀ x ∈ es, st ≤ x.st) : ∀ (l : List Dg) (d : Dg), d ∈ l → ∃ d' ∈ es.foldl dg1 l, d'.th = d.th ∧ d'.cl = d.cl ∧ d'.b = d.b ∧ (d.e ≠ -1 → d' = d) ∧ (d.e = -1 → d'.e = -1 ∨ (st : Int) ≤ d'.e) := by
  induction es with
  | nil => intro l d hd; exact ⟨d, hd, rfl, rfl, rfl, fun _ => rfl, fun h => .inl h⟩
  | cons x es ih =>
    intro l d hd
    rw [List.foldl_cons]
    have ih := ih (fun y hy => hes y (by simp [hy]))
    have hx := hes x (by simp)
    by_cases he : x.en = true
    · rw [dg1_end _ _ he]
      obtain ⟨d', h1, h2, h3, h4, h5, h6⟩ := ih (l.map (fun d => d.fin x)) (d.fin x) (List.mem_map.2 ⟨d, hd, rfl⟩)
      unfold Dg.fin at h2 h3 h4 h5 h6
      by_cases hi : d.is x
      · simp only [if_pos hi] at h2 h3 h4 h5 h6
        refine ⟨d', h1, h2, h3, h4, fun h => absurd hi.2.2 h, fun _ => .inr ?_⟩
        have := h5 (by omega)
        rw [this]
        dsimp only
        omega
      · simp only [if_neg hi] at h2 h3 h4 h5 h6
        exact ⟨d', h1, h2, h3, h4, h5, h6⟩
    · rw [dg1_begin _ _ (by simpa using he)]
      exact ih _ d (by simp [hd])
theorem ply_later (m : Mc) (S T : List Nat) {d : Dg} (hd : d ∈ dgs (plyG m 0 S (g0 m)).out) : ∃ d' ∈ dgs (plyG m 0 (S ++ T) (g0 m)).out, d'.th = d.th ∧ d'.cl = d.cl ∧ d'.b = d.b ∧ (d.e ≠ -1 → d' = d) ∧ (d.e = -1 → d'.e = -1 ∨ (S.length : Int) ≤ d'.e) := by
  obtain ⟨es, h1, h2⟩ := run_parts m S T
  rw [h1]
  have : dgs ((plyG m 0 S (g0 m)).out ++ es) = es.foldl dg1 (dgs (plyG m 0 S (g0 m)).out) := by simp [dgs, List.foldl_append]
  rw [this]
  exact dgs_later h2 _ d hd
/-- Where all calls have ended, those that follow come behind them. -/
theorem dgs_behind {es : List Ev} {st : Nat} (hes : ∀ x ∈ es, st ≤ x.st) : ∀ (l r : List Dg), (∀ d ∈ l, d.e ≠ -1) → (∀ d ∈ r, st ≤ d.b) → ∃ r', es.foldl dg1 (l ++ r) = l ++ r' ∧ ∀ d ∈ r', st ≤ d.b := by
  induction es with
  | nil => intro l r _ hr; exact ⟨r, rfl, hr⟩
  | cons x es ih =>
    intro l r hl hr
    rw [List.foldl_cons]
    have ih := ih (fun y hy => hes y (by simp [hy]))
    by_cases he : x.en = true
    · rw [dg1_end _ _ he, List.map_append]
      have : l.map (fun d => d.fin x) = l := by
        conv => rhs; rw [← List.map_id l]
        refine List.map_congr_left fun d hd => ?_
        unfold Dg.fin
        rw [if_neg (fun hi => hl d hd hi.2.2)]
        rfl
      rw [this]
      refine ih l _ hl fun d hd => ?_
      obtain ⟨q, hq, rfl⟩ := List.mem_map.1 hd
      have := hr q hq
      unfold Dg.fin
      split <;> exact this
    · rw [dg1_begin _ _ (by simpa using he), List.append_assoc]
      refine ih l _ hl fun d hd => ?_
      rcases List.mem_append.1 hd with hd | hd
      · exact hr d hd
      · rw [List.mem_singleton.1 hd]; exact hes x (by simp)
theorem ply_behind (m : Mc) (S T : List Nat) (hd : ∀ d ∈ dgs (plyG m 0 S (g0 m)).out, d.e ≠ -1) : ∃ r, dgs (plyG m 0 (S ++ T) (g0 m)).out = dgs (plyG m 0 S (g0 m)).out ++ r ∧ ∀ d ∈ r, S.length ≤ d.b := by
  obtain ⟨es, h1, h2⟩ := run_parts m S T
  rw [h1]
  have : dgs ((plyG m 0 S (g0 m)).out ++ es) = es.foldl dg1 (dgs (plyG m 0 S (g0 m)).out ++ []) := by simp [dgs, List.foldl_append]
  rw [this]
  exact dgs_behind h2 _ [] hd (by simp)
/-- How many calls a run tells of. -/
theorem dgs_count {m : Mc} {S : List Nat} (hS : ∀ n ∈ S, n < 4) : (dgs (plyG m 0 S (g0 m)).out).length = ((plyG m 0 S (g0 m)).th 0).bg + ((plyG m 0 S (g0 m)).th 1).bg + ((plyG m 0 S (g0 m)).th 2).bg + ((plyG m 0 S (g0 m)).th 3).bg := by
  refine plyG_indS (I := fun _ g => (dgs g.out).length = (g.th 0).bg + (g.th 1).bg + (g.th 2).bg + (g.th 3).bg) (A := fun n => n < 4) (by simp [g0, dgs]) (fun S g n hn h => ?_) S hS
  have hex : ∀ g : Gs, (dgs (exG g S.length n).out).length = (dgs g.out).length := by
    intro g
    cases hn : (g.th n).now with
    | none => rw [exG_none hn]
    | some l =>
      by_cases he : (exc l g.w).2.2.2 = true
      · rw [exG_end hn he]; dsimp only; rw [dgs_snoc, dg1_end _ _ rfl]; simp
      · rw [exG_go hn (by simpa using he)]
  rw [actG_eq, hex, exG_bg, exG_bg, exG_bg, exG_bg]
  rcases bgG_cases m g S.length n with ⟨h1, _⟩ | ⟨c, h1, h2, h3⟩
  · rw [h1]; exact h
  · rw [h3]
    dsimp only
    rw [dgs_begin, List.length_append, List.length_singleton, h]
    unfold putT
    rcases (by omega : n = 0 ∨ n = 1 ∨ n = 2 ∨ n = 3) with rfl | rfl | rfl | rfl <;> simp <;> omega
/-- Threads that do no step have begun nothing. -/
theorem th_idle {m : Mc} {S : List Nat} {i : Nat} (hS : ∀ n ∈ S, n ≠ i) : (plyG m 0 S (g0 m)).th i = ⟨none, 0⟩ := by
  refine plyG_indS (I := fun _ g => g.th i = ⟨none, 0⟩) (A := fun n => n ≠ i) rfl (fun S g n hn h => ?_) S hS
  rw [actG_th (fun e => hn e.symm)]; exact h
theorem th_later {m : Mc} {S T : List Nat} {i : Nat} (hT : ∀ n ∈ T, n ≠ i) : (plyG m 0 (S ++ T) (g0 m)).th i = (plyG m 0 S (g0 m)).th i := by
  rw [plyG_append]
  generalize plyG m 0 S (g0 m) = g
  generalize 0 + S.length = st
  induction T generalizing g st with
  | nil => rfl
  | cons n T ih =>
    show (plyG m (st + 1) T (actG m g st n)).th i = _
    rw [ih (fun k hk => hT k (by simp [hk])), actG_th (fun e => hT n (by simp) e.symm)]
/-- Where no call of a thread takes more than B steps, a thread that has done more steps than all its calls may take has done them all. -/
theorem busy {m : Mc} {n B : Nat} (hB : ∀ S : List Nat, (∀ x ∈ S, x < 4) → ∀ x ∈ dgs (plyG m 0 S (g0 m)).out, x.th = n → x.e ≠ -1 → ((S.take (x.e + 1).toNat).drop x.b).count n ≤ B) (S : List Nat) (hS : ∀ x ∈ S, x < 4) :
    (((plyG m 0 S (g0 m)).th n).now = none ∧ (m.ts[n]?.getD []).length ≤ ((plyG m 0 S (g0 m)).th n).bg) ∨ (((plyG m 0 S (g0 m)).th n).now = none ∧ S.count n ≤ B * ((plyG m 0 S (g0 m)).th n).bg) ∨
      ∃ x ∈ dgs (plyG m 0 S (g0 m)).out, x.th = n ∧ x.e = -1 ∧ S.count n ≤ B * (((plyG m 0 S (g0 m)).th n).bg - 1) + (S.drop x.b).count n := by
  suffices h : Hs S.length S.length (plyG m 0 S (g0 m)) ∧ plyG m 0 S (g0 m) = plyG m 0 S (g0 m) ∧ ((((plyG m 0 S (g0 m)).th n).now = none ∧ (m.ts[n]?.getD []).length ≤ ((plyG m 0 S (g0 m)).th n).bg) ∨ (((plyG m 0 S (g0 m)).th n).now = none ∧ S.count n ≤ B * ((plyG m 0 S (g0 m)).th n).bg) ∨
      ∃ x ∈ dgs (plyG m 0 S (g0 m)).out, x.th = n ∧ x.e = -1 ∧ S.count n ≤ B * (((plyG m 0 S (g0 m)).th n).bg - 1) + (S.drop x.b).count n) from h.2.2
  refine plyG_indS (m := m) (I := fun S g => Hs S.length S.length g ∧ ((∀ x ∈ S, x < 4) ∧ g = plyG m 0 S (g0 m)) ∧ (((g.th n).now = none ∧ (m.ts[n]?.getD []).length ≤ (g.th n).bg) ∨ ((g.th n).now = none ∧ S.count n ≤ B * (g.th n).bg) ∨
      ∃ x ∈ dgs g.out, x.th = n ∧ x.e = -1 ∧ S.count n ≤ B * ((g.th n).bg - 1) + (S.drop x.b).count n)) (A := fun n => n < 4) ⟨hs_zero m, ⟨by simp, rfl⟩, .inr (.inl ⟨rfl, by simp⟩)⟩ (fun S g k hk h => ?_) S hS |> fun h => ⟨h.1, rfl, h.2.2⟩
  obtain ⟨hs, ⟨hS4, hg⟩, hI⟩ := h
  have hsn : Hs (S ++ [k]).length (S ++ [k]).length (actG m g S.length k) := by rw [List.length_append, List.length_singleton]; exact hs_act hs
  have hgn : (∀ x ∈ S ++ [k], x < 4) ∧ actG m g S.length k = plyG m 0 (S ++ [k]) (g0 m) := ⟨fun x hx => by rcases List.mem_append.1 hx with hx | hx; exact hS4 x hx; rw [List.mem_singleton.1 hx]; exact hk, by rw [ply_snoc, hg]⟩
  refine ⟨hsn, hgn, ?_⟩
  have hBn := hB (S ++ [k]) hgn.1
  rw [← hgn.2] at hBn
  by_cases hkn : k = n
  · subst hkn
    have hcnt : (S ++ [k]).count k = S.count k + 1 := by simp
    rw [hcnt]
    -- the state behind the beginning
    have hmid : ((g.th k).now = none ∧ (m.ts[k]?.getD []).length ≤ (g.th k).bg ∧ bgG m g S.length k = g) ∨ (((bgG m g S.length k).th k).now ≠ none ∧ ∃ x ∈ dgs (bgG m g S.length k).out, x.th = k ∧ x.e = -1 ∧ S.count k ≤ B * (((bgG m g S.length k).th k).bg - 1) + (S.drop x.b).count k) := by
      rcases bgG_cases m g S.length k with ⟨h1, h2⟩ | ⟨c, h1, h2, h3⟩
      · rw [h1]
        rcases h2 with h2 | ⟨h2, h4⟩
        · rcases hI with ⟨q, _⟩ | ⟨q, _⟩ | q
          · exact absurd q h2
          · exact absurd q h2
          · exact .inr ⟨h2, q⟩
        · exact .inl ⟨h2, h4, rfl⟩
      · refine .inr ?_
        rw [h3]
        dsimp only
        rw [putT_same, dgs_begin]
        refine ⟨by simp, ⟨S.length, -1, k, (g.th k).bg, []⟩, by simp, rfl, rfl, ?_⟩
        dsimp only
        rcases hI with ⟨_, q⟩ | ⟨_, q⟩ | ⟨x, q1, q2, q3, _⟩
        · have := (List.getElem?_eq_some_iff.1 h2).1; omega
        · rw [List.drop_eq_nil_of_le (Nat.le_refl _)]; simpa using q
        · have := ((hs.opn x q1).1 q3).1; rw [q2] at this; exact absurd h1 this
    rw [actG_eq] at hBn ⊢
    have hsm := hs_begin (m := m) (n := k) hs
    generalize bgG m g S.length k = gm at hmid hBn hsm
    rcases hmid with ⟨h1, h2, rfl⟩ | ⟨h1, x, h2, h3, h4, h5⟩
    · rw [exG_none h1]; exact .inl ⟨h1, h2⟩
    · cases hl : (gm.th k).now with
      | none => exact absurd hl h1
      | some l =>
        have hxb := (hsm.bnd x h2).1
        by_cases he : (exc l gm.w).2.2.2 = true
        · rw [exG_end hl he] at hBn ⊢
          dsimp only at hBn ⊢
          refine .inr (.inl ⟨by rw [putT_same], ?_⟩)
          rw [putT_same]
          dsimp only
          obtain ⟨o, ho, o1, o2, o3, o4, o5, o6, o7⟩ := dgs_end (x := ⟨S.length, k, (gm.th k).bg - 1, true, (exc l gm.w).2.2.1, (exc l gm.w).1.t⟩) hsm (by rw [hl]; simp) rfl rfl rfl
          obtain rfl := (o4 x h2 h4 h3).1
          have := hBn _ o7 rfl (by dsimp only; omega)
          dsimp only at this
          rw [show ((S.length : Int) + 1).toNat = (S ++ [k]).length by simp, List.take_length, List.drop_append_of_le_length (by omega), List.count_append] at this
          have h1b := hsm.ps k (by rw [hl]; simp)
          have hB1 : B * (gm.th k).bg = B * ((gm.th k).bg - 1) + B := by
            rw [← Nat.mul_succ]; congr 1; omega
          simp at this
          omega
        · rw [exG_go hl (by simpa using he)]
          dsimp only
          rw [putT_same]
          refine .inr (.inr ⟨x, h2, h3, h4, ?_⟩)
          dsimp only
          rw [List.drop_append_of_le_length (by omega), List.count_append]
          simp
          omega
  · have hcnt : (S ++ [k]).count n = S.count n := by simp [hkn]
    rw [hcnt, actG_th (fun e => hkn e.symm)]
    rcases hI with q | q | ⟨x, q1, q2, q3, q4⟩
    · exact .inl q
    · exact .inr (.inl q)
    · have hxb := (hs.bnd x q1).1
      refine .inr (.inr ⟨x, ?_, q2, q3, by rw [List.drop_append_of_le_length (by omega), List.count_append]; omega⟩)
      have hmem : x ∈ dgs (bgG m g S.length k).out := by
        rcases bgG_cases m g S.length k with ⟨h1, h2⟩ | ⟨c, h1, h2, h3⟩
        · rw [h1]; exact q1
        · rw [h3]; dsimp only; rw [dgs_begin]; simp [q1]
      have hsm := hs_begin (m := m) (n := k) hs
      rw [actG_eq]
      generalize bgG m g S.length k = gm at hmem hsm
      cases hl : (gm.th k).now with
      | none => rw [exG_none hl]; exact hmem
      | some l =>
        by_cases he : (exc l gm.w).2.2.2 = true
        · rw [exG_end hl he]
          obtain ⟨o, ho, o1, o2, o3, o4, o5, o6, o7⟩ := dgs_end (x := ⟨S.length, k, (gm.th k).bg - 1, true, (exc l gm.w).2.2.1, (exc l gm.w).1.t⟩) hsm (by rw [hl]; simp) rfl rfl rfl
          exact o6 x hmem (by rintro rfl; exact hkn (o1.symm.trans q2))
        · rw [exG_go hl (by simpa using he)]; exact hmem
end Go.Baro

set_option linter.unusedSimpArgs false
set_option linter.unusedVariables false
namespace Go.Baro

def setSt (s : Nat) (e : Ev) : Ev := { e with st := s }
/-- What a step does depends on the words and the threads alone. -/
theorem actL_sim {g g' : Gs} (hw : g.w = g'.w) (ht : g.th = g'.th) (st st' n bg : Nat) (l : Lv) (o o' : List Ev) :
    (actL g st n bg l o).w = (actL g' st' n bg l o').w ∧ (actL g st n bg l o).th = (actL g' st' n bg l o').th ∧ ∃ es : List Ev, (actL g st n bg l o).out = o ++ es.map (setSt st) ∧ (actL g' st' n bg l o').out = o' ++ es.map (setSt st') := by
  unfold actL
  dsimp only
  rw [hw, ht]
  by_cases h : (exc l g'.w).2.2.2 = true
  · rw [if_pos h, if_pos h]; exact ⟨rfl, rfl, [⟨0, n, bg - 1, true, (exc l g'.w).2.2.1, (exc l g'.w).1.t⟩], rfl, rfl⟩
  · rw [if_neg h, if_neg h]; exact ⟨rfl, rfl, [], by simp, by simp⟩
theorem actG_sim (m : Mc) {g g' : Gs} (hw : g.w = g'.w) (ht : g.th = g'.th) (st st' n : Nat) :
    (actG m g st n).w = (actG m g' st' n).w ∧ (actG m g st n).th = (actG m g' st' n).th ∧ ∃ es : List Ev, (actG m g st n).out = g.out ++ es.map (setSt st) ∧ (actG m g' st' n).out = g'.out ++ es.map (setSt st') := by
  unfold actG
  rw [ht]
  cases (g'.th n).now with
  | some l => exact actL_sim hw ht _ _ _ _ _ _ _
  | none =>
    dsimp only
    cases (m.ts[n]?.getD [])[(g'.th n).bg]? with
    | none => exact ⟨hw, ht, [], by simp, by simp⟩
    | some c =>
      dsimp only
      obtain ⟨h1, h2, es, h3, h4⟩ := actL_sim hw ht st st' n ((g'.th n).bg + 1) (live (m.cs[c.k.toNat]?.getD []) c.ar) (g.out ++ [⟨st, n, (g'.th n).bg, false, 0, []⟩]) (g'.out ++ [⟨st', n, (g'.th n).bg, false, 0, []⟩])
      exact ⟨h1, h2, ⟨0, n, (g'.th n).bg, false, 0, []⟩ :: es, by rw [h3, List.append_assoc]; rfl, by rw [h4, List.append_assoc]; rfl⟩
/-- The steps of a schedule that are not of thread v, from step st on. -/
def wasF (v : Nat) : Nat → List Nat → List Nat
  | _, [] => []
  | st, n :: l => if n = v then wasF v (st + 1) l else st :: wasF v (st + 1) l
def fewF (v : Nat) (l : List Nat) : List Nat := l.filter (fun n => decide (n ≠ v))
theorem wasF_len (v : Nat) : ∀ (l : List Nat) (st : Nat), (wasF v st l).length = (fewF v l).length
  | [], st => rfl
  | n :: l, st => by
    by_cases h : n = v
    · simpa [wasF, fewF, h] using wasF_len v l (st + 1)
    · simpa [wasF, fewF, h] using wasF_len v l (st + 1)
/-- Who has nothing to do does not matter. -/
theorem ply_idle {m : Mc} {v : Nat} (hv : m.ts[v]?.getD [] = []) (f : Nat → Nat) : ∀ (l : List Nat) (st st' : Nat) (g g' : Gs), g.w = g'.w → g.th = g'.th → (g.th v).now = none →
    g.out = g'.out.map (fun e => setSt (f e.st) e) → (∀ (i x : Nat), (wasF v st l)[i]? = some x → f (st' + i) = x) →
    (plyG m st l g).w = (plyG m st' (fewF v l) g').w ∧ (plyG m st l g).out = (plyG m st' (fewF v l) g').out.map (fun e => setSt (f e.st) e)
  | [], st, st', g, g', hw, ht, hn, ho, hf => ⟨hw, ho⟩
  | n :: l, st, st', g, g', hw, ht, hn, ho, hf => by
    by_cases h : n = v
    · subst h
      have e1 : actG m g st n = g := actG_idle hv hn
      have e2 : fewF n (n :: l) = fewF n l := by simp [fewF]
      rw [e2]
      show (plyG m (st + 1) l (actG m g st n)).w = _ ∧ (plyG m (st + 1) l (actG m g st n)).out = _
      rw [e1]
      refine ply_idle hv f l (st + 1) st' g g' hw ht hn ho fun i x hx => hf i x ?_
      simpa [wasF] using hx
    · have e2 : fewF v (n :: l) = n :: fewF v l := by simp [fewF, h]
      rw [e2]
      show (plyG m (st + 1) l (actG m g st n)).w = (plyG m (st' + 1) (fewF v l) (actG m g' st' n)).w ∧ (plyG m (st + 1) l (actG m g st n)).out = (plyG m (st' + 1) (fewF v l) (actG m g' st' n)).out.map _
      obtain ⟨h1, h2, es, h3, h4⟩ := actG_sim m hw ht st st' n
      have hst : f st' = st := hf 0 st (by simp [wasF, h])
      refine ply_idle hv f l (st + 1) (st' + 1) _ _ h1 h2 (by rw [actG_th (Ne.symm h)]; exact hn) ?_ fun i x hx => ?_
      · rw [h3, h4, List.map_append, ho]
        congr 1
        rw [List.map_map]
        refine List.map_congr_left fun e _ => ?_
        simp [setSt, hst]
      · have := hf (i + 1) x (by simpa [wasF, h] using hx)
        rw [show st' + 1 + i = st' + (i + 1) by omega]
        exact this
theorem run_idle {m : Mc} {v : Nat} (hv : m.ts[v]?.getD [] = []) (l : List Nat) :
    (plyG m 0 l (g0 m)).w = (plyG m 0 (fewF v l) (g0 m)).w ∧ (plyG m 0 l (g0 m)).out = (plyG m 0 (fewF v l) (g0 m)).out.map (fun e => setSt ((wasF v 0 l)[e.st]?.getD 0) e) :=
  ply_idle hv (fun i => (wasF v 0 l)[i]?.getD 0) l 0 0 (g0 m) (g0 m) rfl rfl rfl (by simp [g0]) fun i x hx => by rw [Nat.zero_add, hx]; rfl

/-- What is known of the threads by their events: within a call, the next call; the last step. -/
structure Cs where
  inn : Nat → Bool
  nx : Nat → Nat
  la : Nat
def ck1 (s : Cs) (x : Ev) : Cs := ⟨fun i => if i = x.th then !x.en else s.inn i, fun i => if i = x.th ∧ x.en = true then s.nx i + 1 else s.nx i, x.st⟩
/-- An event that may come. -/
def okE (m : Mc) (sch : List Nat) (s : Cs) (x : Ev) : Prop :=
  s.la ≤ x.st ∧ sch[x.st]? = some x.th ∧ x.en = s.inn x.th ∧ x.cl = s.nx x.th ∧ (x.en = false → x.to = [] ∧ x.er = 0) ∧ (ck1 s x).nx x.th ≤ (m.ts[x.th]?.getD []).length
def c0 : Cs := ⟨fun _ => false, fun _ => 0, 0⟩
def Good (m : Mc) (sch : List Nat) (l : List Ev) : Prop := ∀ (i : Nat) (x : Ev), l[i]? = some x → okE m sch ((l.take i).foldl ck1 c0) x
theorem good_snoc {m : Mc} {sch : List Nat} {l : List Ev} {x : Ev} (h : Good m sch l) (hx : okE m sch (l.foldl ck1 c0) x) : Good m sch (l ++ [x]) := by
  intro i y hy
  by_cases hi : i < l.length
  · rw [List.getElem?_append_left hi] at hy
    rw [List.take_append_of_le_length (by omega)]
    exact h i y hy
  · rw [List.getElem?_append_right (by omega)] at hy
    have hi0 : i - l.length = 0 := by
      rcases Nat.eq_zero_or_pos (i - l.length) with h | h
      · exact h
      · rw [List.getElem?_eq_none (by simp; omega)] at hy; cases hy
    rw [hi0] at hy
    injection hy with hy
    subst hy
    rw [show i = l.length by omega, List.take_left' rfl]
    exact hx
/-- The threads are where their events say. -/
structure Fit (m : Mc) (sch : List Nat) (st : Nat) (g : Gs) : Prop where
  good : Good m sch g.out
  inn : ∀ i, (g.out.foldl ck1 c0).inn i = (g.th i).now.isSome
  nx : ∀ i, (g.out.foldl ck1 c0).nx i = if (g.th i).now.isSome = true then (g.th i).bg - 1 else (g.th i).bg
  bg : ∀ i, (g.th i).bg ≤ (m.ts[i]?.getD []).length
  pos : ∀ i, (g.th i).now.isSome = true → 1 ≤ (g.th i).bg
  la : (g.out.foldl ck1 c0).la ≤ st
/-- A thread within its call number bg - 1 does a step. -/
theorem actL_fit {m : Mc} {sch : List Nat} {st n bg : Nat} {g : Gs} {l : Lv} {o : List Ev} (hs : sch[st]? = some n) (hg : Good m sch o) (hin : ∀ i, (o.foldl ck1 c0).inn i = if i = n then true else (g.th i).now.isSome)
    (hnx : ∀ i, (o.foldl ck1 c0).nx i = if i = n then bg - 1 else if (g.th i).now.isSome = true then (g.th i).bg - 1 else (g.th i).bg) (hbg : ∀ i, (g.th i).bg ≤ (m.ts[i]?.getD []).length) (hb1 : 1 ≤ bg) (hb2 : bg ≤ (m.ts[n]?.getD []).length)
    (hpos : ∀ i, (g.th i).now.isSome = true → 1 ≤ (g.th i).bg) (hla : (o.foldl ck1 c0).la ≤ st) : Fit m sch st (actL g st n bg l o) := by
  unfold actL
  dsimp only
  by_cases h : (exc l g.w).2.2.2 = true
  · rw [if_pos h]
    have hn1 := hnx n
    rw [if_pos rfl] at hn1
    have hx : okE m sch (o.foldl ck1 c0) ⟨st, n, bg - 1, true, (exc l g.w).2.2.1, (exc l g.w).1.t⟩ := by
      refine ⟨hla, hs, ?_, hn1.symm, (fun h => by cases h), ?_⟩
      · have := hin n; rw [if_pos rfl] at this; exact this.symm
      · show (if n = n ∧ true = true then (o.foldl ck1 c0).nx n + 1 else _) ≤ (m.ts[n]?.getD []).length
        rw [if_pos ⟨rfl, rfl⟩, hn1]; omega
    refine ⟨good_snoc hg hx, fun i => ?_, fun i => ?_, fun i => ?_, fun i => ?_, ?_⟩
    · rw [List.foldl_append]
      show (if i = n then !true else (o.foldl ck1 c0).inn i) = (putT g.th n ⟨none, bg⟩ i).now.isSome
      unfold putT
      by_cases hi : i = n
      · rw [if_pos hi, if_pos hi]; rfl
      · rw [if_neg hi, if_neg hi, hin i, if_neg hi]
    · rw [List.foldl_append]
      show (if i = n ∧ true = true then (o.foldl ck1 c0).nx i + 1 else (o.foldl ck1 c0).nx i) = if (putT g.th n ⟨none, bg⟩ i).now.isSome = true then (putT g.th n ⟨none, bg⟩ i).bg - 1 else (putT g.th n ⟨none, bg⟩ i).bg
      unfold putT
      by_cases hi : i = n
      · subst hi; rw [if_pos ⟨rfl, rfl⟩, if_pos rfl, hn1]; show bg - 1 + 1 = bg; omega
      · rw [if_neg (fun h => hi h.1), if_neg hi, hnx i, if_neg hi]
    · unfold putT
      by_cases hi : i = n
      · subst hi; dsimp only; rw [if_pos rfl]; exact hb2
      · dsimp only; rw [if_neg hi]; exact hbg i
    · unfold putT
      by_cases hi : i = n
      · subst hi; dsimp only; rw [if_pos rfl]; intro h; cases h
      · dsimp only; rw [if_neg hi]; exact hpos i
    · rw [List.foldl_append]; exact Nat.le_refl _
  · rw [if_neg h]
    refine ⟨hg, fun i => ?_, fun i => ?_, fun i => ?_, fun i => ?_, hla⟩
    · show _ = (putT g.th n ⟨some (exc l g.w).1, bg⟩ i).now.isSome
      rw [hin i]
      unfold putT
      by_cases hi : i = n
      · rw [if_pos hi, if_pos hi]; rfl
      · rw [if_neg hi, if_neg hi]
    · show _ = if (putT g.th n ⟨some (exc l g.w).1, bg⟩ i).now.isSome = true then (putT g.th n ⟨some (exc l g.w).1, bg⟩ i).bg - 1 else (putT g.th n ⟨some (exc l g.w).1, bg⟩ i).bg
      rw [hnx i]
      unfold putT
      by_cases hi : i = n
      · rw [if_pos hi, if_pos hi]; rfl
      · rw [if_neg hi, if_neg hi]
    · unfold putT
      by_cases hi : i = n
      · subst hi; dsimp only; rw [if_pos rfl]; exact hb2
      · dsimp only; rw [if_neg hi]; exact hbg i
    · unfold putT
      by_cases hi : i = n
      · subst hi; dsimp only; rw [if_pos rfl]; intro _; exact hb1
      · dsimp only; rw [if_neg hi]; exact hpos i
theorem actG_fit {m : Mc} {sch : List Nat} {st n : Nat} {g : Gs} (hs : sch[st]? = some n) (h : Fit m sch st g) : Fit m sch st (actG m g st n) := by
  obtain ⟨hg, hin, hnx, hbg, hpos, hla⟩ := h
  unfold actG
  cases hnow : (g.th n).now with
  | some l =>
    refine actL_fit hs hg (fun i => ?_) (fun i => ?_) hbg (hpos n (by rw [hnow]; rfl)) (hbg n) hpos hla
    · rw [hin i]
      by_cases hi : i = n
      · subst hi; rw [if_pos rfl, hnow]; rfl
      · rw [if_neg hi]
    · rw [hnx i]
      by_cases hi : i = n
      · subst hi; rw [if_pos rfl, hnow]; rfl
      · rw [if_neg hi]
  | none =>
    dsimp only
    cases hc : (m.ts[n]?.getD [])[(g.th n).bg]? with
    | none => exact ⟨hg, hin, hnx, hbg, hpos, hla⟩
    | some c =>
      have hlt : (g.th n).bg < (m.ts[n]?.getD []).length := (List.getElem?_eq_some_iff.1 hc).1
      have hn1 := hnx n
      rw [hnow] at hn1
      have hn1 : (g.out.foldl ck1 c0).nx n = (g.th n).bg := hn1
      have hx : okE m sch (g.out.foldl ck1 c0) ⟨st, n, (g.th n).bg, false, 0, []⟩ := by
        refine ⟨hla, hs, ?_, hn1.symm, fun _ => ⟨rfl, rfl⟩, ?_⟩
        · have := hin n; rw [hnow] at this; exact this.symm
        · show (if n = n ∧ false = true then _ else (g.out.foldl ck1 c0).nx n) ≤ _
          rw [if_neg (by simp), hn1]; exact Nat.le_of_lt hlt
      refine actL_fit hs (good_snoc hg hx) (fun i => ?_) (fun i => ?_) hbg (by omega) (by omega) hpos ?_
      · rw [List.foldl_append]
        show (if i = n then !false else (g.out.foldl ck1 c0).inn i) = _
        by_cases hi : i = n
        · rw [if_pos hi, if_pos hi]; rfl
        · rw [if_neg hi, if_neg hi, hin i]
      · rw [List.foldl_append]
        show (if i = n ∧ false = true then _ else (g.out.foldl ck1 c0).nx i) = _
        rw [if_neg (by simp)]
        by_cases hi : i = n
        · subst hi; rw [if_pos rfl, hn1]; omega
        · rw [if_neg hi, hnx i]
      · rw [List.foldl_append]; exact Nat.le_refl _
theorem plyG_fit {m : Mc} {sch : List Nat} : ∀ (l : List Nat) (st : Nat) (g : Gs), sch.drop st = l → Fit m sch st g → Good m sch (plyG m st l g).out
  | [], st, g, _, h => h.good
  | n :: l, st, g, hd, h => by
    have hs : sch[st]? = some n := by
      have := congrArg (·[0]?) hd
      simpa using this
    have h1 := actG_fit hs h
    refine plyG_fit l (st + 1) _ ?_ ⟨h1.good, h1.inn, h1.nx, h1.bg, h1.pos, Nat.le_succ_of_le h1.la⟩
    rw [← List.drop_drop, hd]; rfl
/-- Calls begin and end in their order, one of a thread at a time. -/
theorem run_between (m : Mc) (sch : List Nat) : Good m sch (plyG m 0 sch (g0 m)).out :=
  plyG_fit sch 0 (g0 m) rfl ⟨(fun i x h => by simp [g0] at h), fun i => rfl, fun i => rfl, fun i => Nat.zero_le _, (fun i h => by cases h), Nat.le_refl _⟩
end Go.Baro

set_option linter.unusedSimpArgs false
set_option linter.unusedVariables false
namespace Go.Baro
open Go.RowKit (wrap64)

theorem stp_any {P : Vs × Int → Prop} {n : Nat} {o : Ins} {s : Vs} (h1 : ∀ q r, P (⟨q, r, s.w, s.t⟩, 0)) (h2 : ∀ q r i v, P (⟨q, r, s.w.set i v, s.t⟩, 0)) (h3 : ∀ q r, P (⟨q, r, s.w, s.t⟩, 2)) (h4 : ∀ q r v, P (⟨q, r, s.w, s.t ++ [v]⟩, 0)) (h5 : ∀ q r, P (⟨q, r, s.w, s.t⟩, 8)) : P (stp n o s) := by
  have hq : ∀ {b : Prop} [Decidable b] {x y : Vs × Int}, (b → P x) → (¬ b → P y) → P (if b then x else y) := by
    intro b _ x y hx hy
    by_cases hb : b
    · rw [if_pos hb]; exact hx hb
    · rw [if_neg hb]; exact hy hb
  unfold stp
  refine hq (fun _ => h1 _ _) fun _ => hq (fun _ => h1 _ _) fun _ => hq (fun _ => h1 _ _) fun _ => hq (fun _ => h1 _ _) fun _ => hq (fun _ => h1 _ _) fun _ => hq (fun _ => hq (fun _ => h3 _ _) fun _ => h1 _ _) fun _ => hq (fun _ => hq (fun _ => h3 _ _) fun _ => h2 _ _ _ _) fun _ =>
    hq (fun _ => hq (fun _ => h3 _ _) fun _ => hq (fun _ => h2 _ _ _ _) fun _ => h1 _ _) fun _ => hq (fun _ => hq (fun _ => h5 _ _) fun _ => h4 _ _ _) fun _ => hq (fun _ => h1 _ _) fun _ => h1 _ _
theorem stp_pre (n : Nat) (o : Ins) (s : Vs) : s.t <+: (stp n o s).1.t :=
  stp_any (P := fun x => s.t <+: x.1.t) (fun _ _ => List.prefix_refl _) (fun _ _ _ _ => List.prefix_refl _) (fun _ _ => List.prefix_refl _) (fun _ _ _ => List.prefix_append _ _) (fun _ _ => List.prefix_refl _)
theorem stp_err (n : Nat) (o : Ins) (s : Vs) : (stp n o s).2 = 0 ∨ (stp n o s).2 = 2 ∨ (stp n o s).2 = 8 :=
  stp_any (P := fun x => x.2 = 0 ∨ x.2 = 2 ∨ x.2 = 8) (by simp) (by simp) (by simp) (by simp) (by simp)

theorem rn_one (c : List Ins) (f : Nat) (s : Vs) (h : s.p ≠ c.length) : ∃ o, o = c[s.p.toNat]?.getD ⟨17, 0, 0, 0, 0⟩ ∧ ((stp c.length o s).2 ≠ 0 → rn c (f + 1) s = ((stp c.length o s).1, 1, (stp c.length o s).2)) ∧
    ((stp c.length o s).2 = 0 → rn c (f + 1) s = ((rn c f (stp c.length o s).1).1, (rn c f (stp c.length o s).1).2.1 + 1, (rn c f (stp c.length o s).1).2.2)) := by
  refine ⟨_, rfl, fun he => ?_, fun he => ?_⟩
  · rw [rn, if_neg h, if_pos he]
  · rw [rn, if_neg h, if_neg (by simpa using he)]

theorem rn_pre (c : List Ins) : ∀ (f : Nat) (s : Vs), s.t <+: (rn c f s).1.t
  | 0, s => by rw [rn]; split <;> exact List.prefix_refl _
  | f + 1, s => by
    by_cases h : s.p = c.length
    · rw [rn_end h]; exact List.prefix_refl _
    · obtain ⟨o, _, h1, h2⟩ := rn_one c f s h
      by_cases he : (stp c.length o s).2 = 0
      · rw [h2 he]; exact (stp_pre _ _ _).trans (rn_pre c f _)
      · rw [h1 he]; exact stp_pre _ _ _

/-- With a greater limit a run goes on where it was over. -/
theorem rn_mono (c : List Ins) : ∀ (f g : Nat) (s : Vs), f ≤ g → (rn c f s).1.t <+: (rn c g s).1.t ∧ (rn c f s).2.1 ≤ (rn c g s).2.1 ∧ (rn c f s).2.1 ≤ f ∧ ((rn c f s).2.2 = 11 → (rn c f s).2.1 = f) ∧ ((rn c f s).2.2 ≠ 11 → rn c f s = rn c g s)
  | 0, g, s, _ => by
    by_cases h : s.p = c.length
    · rw [rn_end h, rn_end h]; exact ⟨List.prefix_refl _, Nat.le_refl _, Nat.le_refl _, fun _ => rfl, fun _ => rfl⟩
    · rw [rn_over h]; exact ⟨rn_pre c g s, Nat.zero_le _, Nat.le_refl _, fun _ => rfl, fun h => absurd rfl h⟩
  | f + 1, 0, s, h => absurd h (by omega)
  | f + 1, g + 1, s, hfg => by
    by_cases h : s.p = c.length
    · rw [rn_end h, rn_end h]; exact ⟨List.prefix_refl _, Nat.le_refl _, Nat.zero_le _, fun h => absurd (show (0 : Int) = 11 from h) (by decide), fun _ => rfl⟩
    · obtain ⟨o, ho, h1, h2⟩ := rn_one c f s h
      obtain ⟨o', ho', h1', h2'⟩ := rn_one c g s h
      obtain rfl : o = o' := ho.trans ho'.symm
      by_cases he : (stp c.length o s).2 = 0
      · rw [h2 he, h2' he]
        obtain ⟨i1, i2, i3, i4, i5⟩ := rn_mono c f g (stp c.length o s).1 (by omega)
        refine ⟨i1, by dsimp only; omega, by dsimp only; omega, fun h => ?_, fun h => ?_⟩
        · have := i4 h; dsimp only; omega
        · rw [i5 h]
      · rw [h1 he, h1' he]
        refine ⟨List.prefix_refl _, Nat.le_refl _, by dsimp only; omega, fun h => ?_, fun _ => rfl⟩
        rcases stp_err c.length o s with h' | h' | h' <;> (dsimp only at h; omega)

/-- What every step keeps, a run keeps. -/
theorem rn_inv {c : List Ins} {I : Vs → Prop} {e : Int → Prop} (hs : ∀ s, I s → s.p ≠ c.length → I (stp c.length (c[s.p.toNat]?.getD ⟨17, 0, 0, 0, 0⟩) s).1 ∧ ((stp c.length (c[s.p.toNat]?.getD ⟨17, 0, 0, 0, 0⟩) s).2 ≠ 0 → e (stp c.length (c[s.p.toNat]?.getD ⟨17, 0, 0, 0, 0⟩) s).2)) :
    ∀ (f : Nat) (s : Vs), I s → I (rn c f s).1 ∧ ((rn c f s).2.2 = 0 ∨ (rn c f s).2.2 = 11 ∨ e (rn c f s).2.2)
  | 0, s, h => by
    by_cases hp : s.p = c.length
    · rw [rn_end hp]; exact ⟨h, .inl rfl⟩
    · rw [rn_over hp]; exact ⟨h, .inr (.inl rfl)⟩
  | f + 1, s, h => by
    by_cases hp : s.p = c.length
    · rw [rn_end hp]; exact ⟨h, .inl rfl⟩
    · obtain ⟨o, ho, h1, h2⟩ := rn_one c f s hp
      obtain ⟨i1, i2⟩ := hs s h hp
      rw [← ho] at i1 i2
      by_cases he : (stp c.length o s).2 = 0
      · rw [h2 he]; exact rn_inv hs f _ i1
      · rw [h1 he]; exact ⟨i1, .inr (.inr (i2 he))⟩

/-- Two codes whose steps go beside each other. -/
theorem rn_sim {c c' : List Ins} {R : Vs → Vs → Prop} (hl : c'.length = c.length) (hp : ∀ s s', R s s' → s'.p = s.p)
    (hs : ∀ s s', R s s' → s.p ≠ c.length → R (stp c.length (c[s.p.toNat]?.getD ⟨17, 0, 0, 0, 0⟩) s).1 (stp c.length (c'[s.p.toNat]?.getD ⟨17, 0, 0, 0, 0⟩) s').1 ∧ (stp c.length (c[s.p.toNat]?.getD ⟨17, 0, 0, 0, 0⟩) s).2 = (stp c.length (c'[s.p.toNat]?.getD ⟨17, 0, 0, 0, 0⟩) s').2) :
    ∀ (f : Nat) (s s' : Vs), R s s' → R (rn c f s).1 (rn c' f s').1 ∧ (rn c f s).2 = (rn c' f s').2
  | 0, s, s', h => by
    have hpp := hp s s' h
    by_cases hq : s.p = c.length
    · rw [rn_end hq, rn_end (by rw [hpp, hq, hl])]; exact ⟨h, rfl⟩
    · rw [rn_over hq, rn_over (by rw [hpp, hl]; exact hq)]; exact ⟨h, rfl⟩
  | f + 1, s, s', h => by
    have hpp := hp s s' h
    by_cases hq : s.p = c.length
    · rw [rn_end hq, rn_end (by rw [hpp, hq, hl])]; exact ⟨h, rfl⟩
    · obtain ⟨o, ho, h1, h2⟩ := rn_one c f s hq
      obtain ⟨o', ho', h1', h2'⟩ := rn_one c' f s' (by rw [hpp, hl]; exact hq)
      obtain ⟨i1, i2⟩ := hs s s' h hq
      rw [hpp] at ho'
      rw [hl] at h1' h2'
      rw [← ho, ← ho'] at i1 i2
      by_cases he : (stp c.length o s).2 = 0
      · rw [h2 he, h2' (i2 ▸ he)]
        obtain ⟨j1, j2⟩ := rn_sim hl hp hs f _ _ i1
        exact ⟨j1, by rw [j2]⟩
      · rw [h1 he, h1' (i2 ▸ he), i2]; exact ⟨i1, rfl⟩

/-- An instruction as it is drawn: of a code of m, over four registers and six words. -/
def kI (m : Nat) (x : Ins) : Ins :=
  if x.k % 17 = 0 then ⟨1, x.a % 4, x.b % 9 - 3, 0, 0⟩
  else if x.k % 17 = 1 then ⟨2, x.a % 4, x.b % 4, 0, 0⟩
  else if x.k % 17 = 9 then ⟨10, x.a % (m + 1 : Int), 0, 0, 0⟩
  else if x.k % 17 = 10 ∨ x.k % 17 = 11 then ⟨1 + x.k % 17, x.a % 4, x.b % (m + 1 : Int), 0, 0⟩
  else if x.k % 17 = 12 ∨ x.k % 17 = 13 then ⟨1 + x.k % 17, x.a % 4, 5, x.c % 6, 0⟩
  else if x.k % 17 = 14 then ⟨15, x.a % 4, 5, x.c % 6, x.d % 4⟩
  else if x.k % 17 = 15 then ⟨16, x.a % 4, 0, 0, 0⟩
  else if x.k % 17 = 16 then ⟨17, 0, 0, 0, 0⟩
  else ⟨1 + x.k % 17, x.a % 4, x.b % 4, x.c % 4, 0⟩
def kC (l : List Ins) : List Ins := (l.take 40).map (kI (min l.length 40))
theorem kC_len (l : List Ins) : (kC l).length = min l.length 40 := by simp [kC, Nat.min_comm]

def r4 (n : Int) : Prop := 0 ≤ n ∧ n < 4
/-- What a drawn instruction keeps to. -/
def shI (m : Nat) (o : Ins) : Prop :=
  (o.k = 1 ∧ r4 o.a ∧ (-3 ≤ o.b ∧ o.b ≤ 5) ∧ o.c = 0 ∧ o.d = 0) ∨ (o.k = 2 ∧ r4 o.a ∧ r4 o.b ∧ o.c = 0 ∧ o.d = 0) ∨ ((3 ≤ o.k ∧ o.k ≤ 9) ∧ r4 o.a ∧ r4 o.b ∧ r4 o.c ∧ o.d = 0) ∨
  (o.k = 10 ∧ (0 ≤ o.a ∧ o.a ≤ m) ∧ o.b = 0 ∧ o.c = 0 ∧ o.d = 0) ∨ ((o.k = 11 ∨ o.k = 12) ∧ r4 o.a ∧ (0 ≤ o.b ∧ o.b ≤ m) ∧ o.c = 0 ∧ o.d = 0) ∨ ((o.k = 13 ∨ o.k = 14) ∧ r4 o.a ∧ o.b = 5 ∧ (0 ≤ o.c ∧ o.c < 6) ∧ o.d = 0) ∨
  (o.k = 15 ∧ r4 o.a ∧ o.b = 5 ∧ (0 ≤ o.c ∧ o.c < 6) ∧ r4 o.d) ∨ (o.k = 16 ∧ r4 o.a ∧ o.b = 0 ∧ o.c = 0 ∧ o.d = 0) ∨ (o.k = 17 ∧ o.a = 0 ∧ o.b = 0 ∧ o.c = 0 ∧ o.d = 0)
theorem kI_sh (m : Nat) (x : Ins) : shI m (kI m x) := by
  have h1 : 0 ≤ x.k % 17 ∧ x.k % 17 < 17 := by omega
  have h2 : 0 ≤ x.a % 4 ∧ x.a % 4 < 4 := by omega
  have h3 : 0 ≤ x.b % 4 ∧ x.b % 4 < 4 := by omega
  have h4 : 0 ≤ x.c % 4 ∧ x.c % 4 < 4 := by omega
  have h5 : 0 ≤ x.d % 4 ∧ x.d % 4 < 4 := by omega
  have h6 : 0 ≤ x.b % 9 ∧ x.b % 9 < 9 := by omega
  have h7 : 0 ≤ x.c % 6 ∧ x.c % 6 < 6 := by omega
  have h8 : 0 ≤ x.a % (m + 1 : Int) ∧ x.a % (m + 1 : Int) < m + 1 := ⟨Int.emod_nonneg _ (by omega), Int.emod_lt_of_pos _ (by omega)⟩
  have h9 : 0 ≤ x.b % (m + 1 : Int) ∧ x.b % (m + 1 : Int) < m + 1 := ⟨Int.emod_nonneg _ (by omega), Int.emod_lt_of_pos _ (by omega)⟩
  have hq : ∀ {b : Prop} [Decidable b] {u v : Ins}, (b → shI m u) → (¬ b → shI m v) → shI m (if b then u else v) := by
    intro b _ u v hx hy
    by_cases hb : b
    · rw [if_pos hb]; exact hx hb
    · rw [if_neg hb]; exact hy hb
  unfold kI
  refine hq (fun _ => .inl ⟨rfl, h2, by dsimp only; omega, rfl, rfl⟩) fun e0 => ?_
  refine hq (fun _ => .inr (.inl ⟨rfl, h2, h3, rfl, rfl⟩)) fun e1 => ?_
  refine hq (fun _ => .inr (.inr (.inr (.inl ⟨rfl, by dsimp only; omega, rfl, rfl, rfl⟩)))) fun e9 => ?_
  refine hq (fun e => .inr (.inr (.inr (.inr (.inl ⟨by dsimp only; omega, h2, by dsimp only; omega, rfl, rfl⟩))))) fun e10 => ?_
  refine hq (fun e => .inr (.inr (.inr (.inr (.inr (.inl ⟨by dsimp only; omega, h2, rfl, h7, rfl⟩)))))) fun e12 => ?_
  refine hq (fun _ => .inr (.inr (.inr (.inr (.inr (.inr (.inl ⟨rfl, h2, rfl, h7, h5⟩))))))) fun e14 => ?_
  refine hq (fun _ => .inr (.inr (.inr (.inr (.inr (.inr (.inr (.inl ⟨rfl, h2, rfl, rfl, rfl⟩)))))))) fun e15 => ?_
  refine hq (fun _ => .inr (.inr (.inr (.inr (.inr (.inr (.inr (.inr ⟨rfl, rfl, rfl, rfl, rfl⟩)))))))) fun e16 => ?_
  exact .inr (.inr (.inl ⟨by dsimp only; omega, h2, h3, h4, rfl⟩))
theorem kC_sh {l : List Ins} {o : Ins} (h : o ∈ kC l) : shI (kC l).length o := by
  rw [kC_len]
  obtain ⟨x, _, rfl⟩ := List.mem_map.1 h
  exact kI_sh _ x
theorem r4_R {x : Int} (h : r4 x) : isR x := ⟨h.1, by have := h.2; omega⟩
theorem sh_ok {m : Nat} {o : Ins} (h : shI m o) : okI m o := by
  rcases h with ⟨h1, h2, h3, h4, h5⟩ | ⟨h1, h2, h3, h4, h5⟩ | ⟨h1, h2, h3, h4, h5⟩ | ⟨h1, h2, h3, h4, h5⟩ | ⟨h1, h2, h3, h4, h5⟩ | ⟨h1, h2, h3, h4, h5⟩ | ⟨h1, h2, h3, h4, h5⟩ | ⟨h1, h2, h3, h4, h5⟩ | ⟨h1, h2, h3, h4, h5⟩
  · exact .inl ⟨h1, r4_R h2, h4, h5⟩
  · exact .inr (.inl ⟨h1, r4_R h2, r4_R h3, h4, h5⟩)
  · exact .inr (.inr (.inl ⟨h1, r4_R h2, r4_R h3, r4_R h4, h5⟩))
  · exact .inr (.inr (.inr (.inl ⟨h1, h2, h3, h4, h5⟩)))
  · exact .inr (.inr (.inr (.inr (.inl ⟨h1, r4_R h2, h3, h4, h5⟩))))
  · exact .inr (.inr (.inr (.inr (.inr (.inl ⟨h1, r4_R h2, by rw [h3]; decide, h5⟩)))))
  · exact .inr (.inr (.inr (.inr (.inr (.inr (.inl ⟨h1, r4_R h2, by rw [h3]; decide, r4_R h5⟩))))))
  · exact .inr (.inr (.inr (.inr (.inr (.inr (.inr (.inl ⟨h1, r4_R h2, h3, h4, h5⟩)))))))
  · exact .inr (.inr (.inr (.inr (.inr (.inr (.inr (.inr ⟨h1, h2, h3, h4, h5⟩)))))))
theorem sh_in {m : Nat} {o : Ins} (hm : m ≤ 200) (h : shI m o) : inI o := by
  have hw : ∀ x : Int, -1000 ≤ x → x ≤ 1000 → inW x := fun x h1 h2 => by unfold inW; omega
  have hw4 : ∀ x : Int, r4 x → inW x := fun x h => by unfold r4 at h; exact hw x (by omega) (by omega)
  rcases h with ⟨h1, h2, h3, h4, h5⟩ | ⟨h1, h2, h3, h4, h5⟩ | ⟨h1, h2, h3, h4, h5⟩ | ⟨h1, h2, h3, h4, h5⟩ | ⟨h1, h2, h3, h4, h5⟩ | ⟨h1, h2, h3, h4, h5⟩ | ⟨h1, h2, h3, h4, h5⟩ | ⟨h1, h2, h3, h4, h5⟩ | ⟨h1, h2, h3, h4, h5⟩ <;>
    refine ⟨hw _ (by omega) (by omega), ?_, ?_, ?_, ?_⟩ <;> first | exact hw4 _ (by assumption) | exact hw _ (by omega) (by omega)
theorem kC_ok (l : List Ins) : okC (kC l) := ⟨by rw [kC_len]; omega, fun o ho => sh_ok (kC_sh ho)⟩
theorem kC_in (l : List Ins) : ∀ o ∈ kC l, inI o := fun o ho => sh_in (by rw [kC_len]; omega) (kC_sh ho)

/-- A code that is drawn, of at most N instructions. -/
def kN (N : Nat) (l : List Ins) : List Ins := (l.take N).map (kI (min l.length N))
theorem kN_kC (l : List Ins) : kN 40 l = kC l := rfl
theorem kN_len (N : Nat) (l : List Ins) : (kN N l).length = min l.length N := by simp [kN, Nat.min_comm]
theorem kN_sh {N : Nat} {l : List Ins} {o : Ins} (h : o ∈ kN N l) : shI (kN N l).length o := by
  rw [kN_len]
  obtain ⟨x, _, rfl⟩ := List.mem_map.1 h
  exact kI_sh _ x
theorem kN_ok {N : Nat} (hN : N ≤ 200) (l : List Ins) : okC (kN N l) := ⟨by rw [kN_len]; omega, fun o ho => sh_ok (kN_sh ho)⟩
theorem kN_in {N : Nat} (hN : N ≤ 200) (l : List Ins) : ∀ o ∈ kN N l, inI o := fun o ho => sh_in (by rw [kN_len]; omega) (kN_sh ho)
end Go.Baro
