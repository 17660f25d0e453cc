/- Of this claim's own texts these, one behind the other: RunSpecW, AlgPure, AlgPure2, HistPure2. No statement of the seat is proved here; no condition but those that stand at the theorems. -/
import Derived.Test.YtnchgdjdfhfedaaDoorPartAG
import Derived.Test.YtnchgdjdfhfedaaDoorPartAI
import Derived.Test.YtnchgdjdfhfedaaDoorPartAK
set_option linter.unusedSimpArgs false
set_option linter.unusedVariables false
namespace Go.Proofs.YtnchgdjdfhfedaaDoor
open Go.RowKit Go.Ord Go.Baro
theorem own_geW {w : World} {B : Nat} {e : TypeId} {s n : Nat} {v : Value} {xs : List Value} (h : w.ownsRow B e s v n xs) {k : Nat} (hk : v.ownBlock = some k) : B ≤ k := by
  rcases h.2 with ⟨rfl, _⟩ | ⟨g, cap, cur, rfl, hB, _⟩
  · cases hk
  · injection hk with hk; subst hk; exact hB
theorem own_ltW {w : World} {B : Nat} {e : TypeId} {s n : Nat} {v : Value} {xs : List Value} (h : w.ownsRow B e s v n xs) {k : Nat} (hk : v.ownBlock = some k) : k < w.heap.size := by
  rcases h.2 with ⟨rfl, _⟩ | ⟨g, cap, cur, rfl, _, hh, _⟩
  · cases hk
  · injection hk with hk; subst hk; exact (Array.getElem?_eq_some_iff.1 hh).1
def PlPostW (T : List Ev) (W : List Int) (E : Int) (w : World) (e : Ending) (w' : World) : Prop :=
  ∃ A n c A1 n1 c1, e = .returned (.tuple #[.slice A n c, .slice A1 n1 c1, .int .i64 E]) ∧ REv w' w'.heap.size A n T ∧ RI w' w'.heap.size .i64 A1 n1 W ∧ n ≤ c ∧ n1 ≤ c1 ∧ n ≤ 12000 ∧ n1 ≤ 200 ∧ (∀ b o f, A = some ⟨b, o, f⟩ → w.heap.size ≤ b) ∧ Below w.heap.size w w'
theorem PlPostW.post {T : List Ev} {W : List Int} {E : Int} {w : World} {e : Ending} {w' : World} (h : PlPostW T W E w e w') : PlPost T W E w e w' := by
  obtain ⟨A, n, c, A1, n1, c1, h1, h2, h3, h4, h5, h6, h7, _, h8⟩ := h
  exact ⟨A, n, c, A1, n1, c1, h1, h2, h3, h4, h5, h6, h7, h8⟩
def PlaySpecW : Prop := ∀ (w : World) (hT : Tab w) (Aw : Option Addr) (nw cw : Nat) (Ac : Option Addr) (nc cc : Nat) (At : Option Addr) (nt ct : Nat) (m : Mc) (As : Option Addr) (ns cs : Nat) (s : List Int) (T : List Ev) (W : List Int) (E : Int) (hm : InM w Aw nw cw Ac nc cc At nt ct m)
    (hs : RI w w.heap.size .i64 As ns s) (hn : ns ≤ 140737488355328) (hR : PlR m s T W E), Calls Tryd.prog 22 #[.agg #[.slice Aw nw cw, .slice Ac nc cc, .slice At nt ct], .slice As ns cs] w (PlPostW T W E w)
theorem PlaySpecW.spec (h : PlaySpecW) : PlaySpec := fun w hT Aw nw cw Ac nc cc At nt ct m As ns cs s T W E hm hs hn hR => (h w hT Aw nw cw Ac nc cc At nt ct m As ns cs s T W E hm hs hn hR).mono fun _ _ h => h.post
end Go.Proofs.YtnchgdjdfhfedaaDoor

set_option linter.unusedSimpArgs false
set_option linter.unusedVariables false
namespace Go.Baro
open Go.RowKit (wrap64)

/-- A word. -/
def rd (w : List Int) (n : Nat) : Int := w[n]?.getD 0
theorem rd_set {w : List Int} {n m : Nat} {v : Int} (h : n < w.length) : rd (w.set n v) m = if m = n then v else rd w m := by
  unfold rd
  rw [List.getElem?_set]
  by_cases hm : n = m
  · subst hm; simp [h]
  · rw [if_neg hm, if_neg (fun e => hm e.symm)]
theorem rd_same {w : List Int} {n : Nat} {v : Int} (h : n < w.length) : rd (w.set n v) n = v := by rw [rd_set h, if_pos rfl]
theorem rd_other {w : List Int} {n m : Nat} {v : Int} (h : m ≠ n) : rd (w.set n v) m = rd w m := by
  unfold rd
  rw [List.getElem?_set_ne (fun e => h e.symm)]
theorem at_rd {w : List Int} {n : Nat} (h : n < w.length) : w[n]? = some (rd w n) := by simp [rd, h]
theorem wrap_id {x : Int} (h : -9223372036854775808 ≤ x ∧ x ≤ 9223372036854775807) : wrap64 x = x := by unfold wrap64; omega

/-- A run under one more step. -/
theorem ply_snoc (m : Mc) (S : List Nat) (n : Nat) (g : Gs) : plyG m 0 (S ++ [n]) g = actG m (plyG m 0 S g) S.length n := by
  rw [plyG_append]
  simp [plyG]
/-- What holds of a run behind each part of its schedule. -/
theorem plyG_indS {m : Mc} {I : List Nat → Gs → Prop} {A : Nat → Prop} (h0 : I [] (g0 m)) (hs : ∀ S g n, A n → I S g → I (S ++ [n]) (actG m g S.length n)) : ∀ (S : List Nat), (∀ n ∈ S, A n) → I S (plyG m 0 S (g0 m)) := by
  suffices h : ∀ (k : Nat) (S : List Nat), S.length = k → (∀ n ∈ S, A n) → I S (plyG m 0 S (g0 m)) from fun S => h S.length S rfl
  intro k
  induction k with
  | zero => intro S hS _; obtain rfl := List.eq_nil_of_length_eq_zero hS; exact h0
  | succ k ih =>
    intro S hS hA
    obtain ⟨T, n, rfl⟩ : ∃ T n, S = T ++ [n] := ⟨S.dropLast, S.getLast (by rintro rfl; simp at hS), (List.dropLast_concat_getLast _).symm⟩
    rw [ply_snoc]
    exact hs T _ n (hA n (by simp)) (ih T (by simp at hS; exact hS) (fun x hx => hA x (by simp [hx])))

/-- A step of a call without an error. -/
def Nx (c : List Ins) (p : Nat) (r : Int → Int) (t w : List Int) (p' : Nat) (r' : Int → Int) (t' w' : List Int) : Prop :=
  exc ⟨c, p, r, t⟩ w = (⟨c, p', r', t'⟩, w', 0, decide (p' = c.length))
section
variable {c : List Ins} {p : Nat} {r : Int → Int} {t w : List Int} {a b k e : Int}
theorem nx_of {o : Ins} {p' : Nat} {r' : Int → Int} {t' w' : List Int} (h : c[p]? = some o) (hs : stp c.length o ⟨p, r, w, t⟩ = (⟨p', r', w', t'⟩, 0)) : Nx c p r t w p' r' t' w' := by
  have hp := (List.getElem?_eq_some_iff.1 h).1
  unfold Nx exc
  rw [if_neg (by dsimp only; omega)]
  dsimp only
  rw [Int.toNat_natCast, h, Option.getD_some, hs]
  have : decide (((0 : Int) ≠ 0) ∨ ((p' : Int) = (c.length : Int))) = decide (p' = c.length) := by
    by_cases hq : p' = c.length
    · simp [hq]
    · have : ¬ ((p' : Int) = (c.length : Int)) := by omega
      simp [hq, this]
  rw [this]
theorem nx_set (h : c[p]? = some ⟨1, a, b, 0, 0⟩) : Nx c p r t w (p + 1) (upd r a b) t w := nx_of h (by rw [stp_1]; simp)
theorem nx_copy (h : c[p]? = some ⟨2, a, b, 0, 0⟩) : Nx c p r t w (p + 1) (upd r a (r b)) t w := nx_of h (by rw [stp_2]; simp)
theorem nx_cmp {o : Int} (h : c[p]? = some ⟨o, a, b, k, 0⟩) (ho : 3 ≤ o ∧ o ≤ 9) : Nx c p r t w (p + 1) (upd r a (cmpV o (r b) (r k))) t w := nx_of h (by rw [stp_cmp ho]; simp)
theorem nx_add {v : Int} (h : c[p]? = some ⟨3, a, b, k, 0⟩) (hv : wrap64 (r b + r k) = v) : Nx c p r t w (p + 1) (upd r a v) t w := by
  have := nx_cmp (r := r) (t := t) (w := w) h (by omega)
  rwa [show cmpV 3 (r b) (r k) = v by simp [cmpV, hv]] at this
theorem nx_jump {q : Nat} (h : c[p]? = some ⟨10, q, 0, 0, 0⟩) : Nx c p r t w q r t w := nx_of h (by rw [stp_10])
theorem nx_whenN {q : Nat} (h : c[p]? = some ⟨11, a, q, 0, 0⟩) (hr : r a ≠ 0) : Nx c p r t w q r t w := nx_of h (by rw [stp_11]; simp [hr])
theorem nx_whenZ {q : Int} (h : c[p]? = some ⟨11, a, q, 0, 0⟩) (hr : r a = 0) : Nx c p r t w (p + 1) r t w := nx_of h (by rw [stp_11]; simp [hr])
theorem nx_unlZ {q : Nat} (h : c[p]? = some ⟨12, a, q, 0, 0⟩) (hr : r a = 0) : Nx c p r t w q r t w := nx_of h (by rw [stp_12]; simp [hr])
theorem nx_unlN {q : Int} (h : c[p]? = some ⟨12, a, q, 0, 0⟩) (hr : r a ≠ 0) : Nx c p r t w (p + 1) r t w := nx_of h (by rw [stp_12]; simp [hr])
theorem nx_load {q : Nat} (h : c[p]? = some ⟨13, a, b, k, 0⟩) (hq : wrap64 (r b + k) = q) (hl : q < w.length) : Nx c p r t w (p + 1) (upd r a (rd w q)) t w := nx_of h (by rw [stp_13 hq (at_rd hl)]; simp)
theorem nx_store {q : Nat} (h : c[p]? = some ⟨14, a, b, k, 0⟩) (hq : wrap64 (r b + k) = q) (hl : q < w.length) : Nx c p r t w (p + 1) r t (w.set q (r a)) := nx_of h (by rw [stp_14 hq hl]; simp)
theorem nx_casT {q : Nat} (h : c[p]? = some ⟨15, a, b, k, e⟩) (hq : wrap64 (r b + k) = q) (hl : q < w.length) (hx : rd w q = r e) : Nx c p r t w (p + 1) (upd r a 1) t (w.set q (r a)) := nx_of h (by rw [stp_15t hq (at_rd hl) hx]; simp)
theorem nx_casF {q : Nat} (h : c[p]? = some ⟨15, a, b, k, e⟩) (hq : wrap64 (r b + k) = q) (hl : q < w.length) (hx : rd w q ≠ r e) : Nx c p r t w (p + 1) (upd r a 0) t w := nx_of h (by rw [stp_15f hq (at_rd hl) hx]; simp)
theorem nx_emit (h : c[p]? = some ⟨16, a, 0, 0, 0⟩) (ht : t.length < 200) : Nx c p r t w (p + 1) r (t ++ [r a]) w := nx_of h (by rw [stp_16, if_neg (by dsimp only; omega)]; simp)
theorem nx_stop (h : c[p]? = some ⟨17, 0, 0, 0, 0⟩) : Nx c p r t w c.length r t w := nx_of h (by rw [stp_17])
/-- What a step without an error leads to. -/
theorem exG_nx {g : Gs} {st n : Nat} {p' : Nat} {r' : Int → Int} {t' w' : List Int} (hn : (g.th n).now = some ⟨c, p, r, t⟩) (h : Nx c p r t g.w p' r' t' w') :
    exG g st n = if p' = c.length then ⟨w', putT g.th n ⟨none, (g.th n).bg⟩, g.out ++ [⟨st, n, (g.th n).bg - 1, true, 0, t'⟩]⟩ else ⟨w', putT g.th n ⟨some ⟨c, p', r', t'⟩, (g.th n).bg⟩, g.out⟩ := by
  have hq : (exc ⟨c, p, r, t⟩ g.w).2.2.2 = decide (p' = c.length) := by rw [h]
  by_cases hp : p' = c.length
  · rw [if_pos hp, exG_end hn (by rw [hq]; simp [hp]), h]
  · rw [if_neg hp, exG_go hn (by rw [hq]; simp [hp]), h]
end

/-- The steps of a call so far: k of a thread's open call; no call takes more than B of its thread's. -/
def Cnt (S : List Nat) (g : Gs) (k : Nat → Nat) (B : Nat → Nat) : Prop := ∀ x ∈ dgs g.out, x.b ≤ S.length ∧ (x.e = -1 → (S.drop x.b).count x.th = k x.th) ∧ (x.e ≠ -1 → x.e + 1 ≤ S.length ∧ ((S.take (x.e + 1).toNat).drop x.b).count x.th ≤ B x.th)
def upN (f : Nat → Nat) (n v : Nat) : Nat → Nat := fun i => if i = n then v else f i
theorem upN_same (f : Nat → Nat) (n v : Nat) : upN f n v n = v := by simp [upN]
theorem upN_other (f : Nat → Nat) {n i : Nat} (v : Nat) (h : i ≠ n) : upN f n v i = f i := by simp [upN, h]
theorem cnt_zero (m : Mc) (k B : Nat → Nat) : Cnt [] (g0 m) k B := by intro x hx; simp [g0, dgs] at hx
/-- A call begins. -/
theorem cnt_begin {m : Mc} {S : List Nat} {g : Gs} {k B : Nat → Nat} {n : Nat} {c : Cl} (h : Cnt S g k B) (hs : Hs S.length S.length g) (hn : (g.th n).now = none) {T : Nat → Td} {w : List Int} :
    Cnt S ⟨w, T, g.out ++ [⟨S.length, n, (g.th n).bg, false, 0, []⟩]⟩ (upN k n 0) B := by
  intro x hx
  rw [show dgs (g.out ++ [⟨S.length, n, (g.th n).bg, false, 0, []⟩]) = dgs g.out ++ [⟨S.length, -1, n, (g.th n).bg, []⟩] by rw [dgs_snoc, dg1_begin _ _ rfl]] at hx
  rcases List.mem_append.1 hx with hx | hx
  · obtain ⟨h1, h2, h3⟩ := h x hx
    refine ⟨h1, fun he => ?_, h3⟩
    have ho := ((hs.opn x hx).1 he).1
    rw [upN_other _ _ (by rintro e; rw [e] at ho; exact ho hn)]
    exact h2 he
  · rw [List.mem_singleton.1 hx]
    refine ⟨Nat.le_refl _, fun _ => ?_, fun h => absurd rfl h⟩
    dsimp only
    rw [upN_same, List.drop_eq_nil_of_le (Nat.le_refl _)]
    rfl
/-- The step counts for the thread's open call. -/
theorem cnt_go {S : List Nat} {g g' : Gs} {k B : Nat → Nat} {n : Nat} (h : Cnt S g k B) (ho : g'.out = g.out) : Cnt (S ++ [n]) g' (upN k n (k n + 1)) B := by
  intro x hx
  rw [ho] at hx
  obtain ⟨h1, h2, h3⟩ := h x hx
  refine ⟨by rw [List.length_append]; omega, fun he => ?_, fun he => ?_⟩
  · rw [List.drop_append_of_le_length h1, List.count_append, h2 he]
    by_cases hx : x.th = n
    · rw [hx, upN_same]; simp
    · rw [upN_other _ _ hx, List.count_singleton]
      have hx' : ¬ n = x.th := fun e => hx e.symm
      simp [hx']
  · obtain ⟨h4, h5⟩ := h3 he
    refine ⟨by rw [List.length_append]; omega, ?_⟩
    rw [List.take_append_of_le_length (by omega)]
    exact h5
/-- The step ends the thread's call. -/
theorem cnt_end {S : List Nat} {g g' : Gs} {k B : Nat → Nat} {n : Nat} {x : Ev} (h : Cnt S g k B) (ho : g'.out = g.out ++ [x]) (he : x.en = true) (hs : x.st = S.length) (ht : x.th = n) (hk : k n + 1 ≤ B n)
    (hopn : ∀ d ∈ dgs g.out, d.e = -1 → d.th = n → d.is x) : Cnt (S ++ [n]) g' (upN k n (k n + 1)) B := by
  intro y hy
  rw [ho, dgs_snoc, dg1_end _ _ he] at hy
  obtain ⟨d, hd, q1, q2, q3, ⟨q4, q5, q6⟩ | ⟨q4, rfl⟩⟩ := fin_mem hy
  · obtain ⟨h1, h2, h3⟩ := h d hd
    have hde : d.e = -1 := q4.2.2
    have hdt : d.th = n := by rw [q4.1, ht]
    rw [q1, q2, q5, hs]
    refine ⟨by rw [List.length_append]; omega, fun h => by omega, fun _ => ⟨by rw [List.length_append, List.length_singleton]; omega, ?_⟩⟩
    rw [show ((S.length : Int) + 1).toNat = (S ++ [n]).length by rw [List.length_append, List.length_singleton]; omega, List.take_length, List.drop_append_of_le_length h1, List.count_append, h2 hde, hdt]
    simpa using hk
  · obtain ⟨h1, h2, h3⟩ := h y hd
    refine ⟨by rw [List.length_append]; omega, fun he => ?_, fun he => ?_⟩
    · have hx : y.th ≠ n := fun e => q4 (hopn y hd he e)
      rw [List.drop_append_of_le_length h1, List.count_append, h2 he, upN_other _ _ hx, List.count_singleton]
      have hx' : ¬ n = y.th := fun e => hx e.symm
      simp [hx']
    · obtain ⟨h4, h5⟩ := h3 he
      refine ⟨by rw [List.length_append]; omega, ?_⟩
      rw [List.take_append_of_le_length (by omega)]
      exact h5
/-- The calls behind an end: all but the one that has ended are as they were. -/
theorem dgs_end {g : Gs} {sb se n : Nat} {x : Ev} (hs : Hs sb se g) (hn : (g.th n).now ≠ none) (he : x.en = true) (ht : x.th = n) (hc : x.cl = (g.th n).bg - 1) :
    ∃ o ∈ dgs g.out, o.th = n ∧ o.cl = (g.th n).bg - 1 ∧ o.e = -1 ∧ (∀ y ∈ dgs g.out, y.e = -1 → y.th = n → y = o ∧ y.is x) ∧
      (∀ y ∈ dgs (g.out ++ [x]), (y ∈ dgs g.out ∧ y ≠ o ∧ ¬ (y.th = n ∧ y.cl = (g.th n).bg - 1)) ∨ y = ⟨o.b, x.st, n, (g.th n).bg - 1, x.to⟩) ∧
      (∀ y ∈ dgs g.out, y ≠ o → y ∈ dgs (g.out ++ [x])) ∧ ⟨o.b, x.st, n, (g.th n).bg - 1, x.to⟩ ∈ dgs (g.out ++ [x]) := by
  obtain ⟨o, ho, h1, h2, h3, h4⟩ := hs.live hn
  have hu : ∀ y ∈ dgs g.out, y.e = -1 → y.th = n → y = o := fun y hy he hyn => hs.one y hy o ho (by rw [hyn, h1]) (by
    have := ((hs.opn y hy).1 he).2
    rw [hyn] at this; omega)
  have hiso : o.is x := ⟨by rw [h1, ht], by rw [h2, hc], h3⟩
  have hD : dgs (g.out ++ [x]) = (dgs g.out).map (fun d => d.fin x) := by rw [dgs_snoc, dg1_end _ _ he]
  have hfo : o.fin x = ⟨o.b, x.st, n, (g.th n).bg - 1, x.to⟩ := by unfold Dg.fin; rw [if_pos hiso, h1, h2]
  refine ⟨o, ho, h1, h2, h3, fun y hy he' hyn => ⟨hu y hy he' hyn, by rw [hu y hy he' hyn]; exact hiso⟩, fun y hy => ?_, fun y hy hne => ?_, ?_⟩
  · rw [hD] at hy
    obtain ⟨d, hd, rfl⟩ := List.mem_map.1 hy
    by_cases hdo : d = o
    · subst hdo; exact .inr hfo
    · have hnis : ¬ d.is x := fun hi => hdo (hu d hd hi.2.2 (by rw [hi.1, ht]))
      have : d.fin x = d := by unfold Dg.fin; rw [if_neg hnis]
      rw [this]
      exact .inl ⟨hd, hdo, fun hh => hdo (hs.one d hd o ho (by rw [hh.1, h1]) (by rw [hh.2, h2]))⟩
  · rw [hD]
    refine List.mem_map.2 ⟨y, hy, ?_⟩
    unfold Dg.fin
    rw [if_neg]
    intro hi
    exact hne (hu y hy hi.2.2 (by rw [hi.1, ht]))
  · rw [hD]; exact List.mem_map.2 ⟨o, ho, hfo⟩
/-- The calls behind a beginning. -/
theorem dgs_begin (g : Gs) (st n c : Nat) : dgs (g.out ++ [⟨st, n, c, false, 0, []⟩]) = dgs g.out ++ [⟨st, -1, n, c, []⟩] := by rw [dgs_snoc, dg1_begin _ _ rfl]
end Go.Baro

set_option linter.unusedSimpArgs false
set_option linter.unusedVariables false
namespace Go.Baro

theorem exG_bg (g : Gs) (st n i : Nat) : ((exG g st n).th i).bg = (g.th i).bg := by
  cases hn : (g.th n).now with
  | none => rw [exG_none hn]
  | some l =>
    by_cases he : (exc l g.w).2.2.2 = true
    · rw [exG_end hn he]
      dsimp only
      by_cases hi : i = n
      · subst hi; rw [putT_same]
      · rw [putT_other _ _ hi]
    · rw [exG_go hn (by simpa using he)]
      dsimp only
      by_cases hi : i = n
      · subst hi; rw [putT_same]
      · rw [putT_other _ _ hi]
theorem exG_th {g : Gs} {st n i : Nat} (h : i ≠ n) : (exG g st n).th i = g.th i := by
  cases hn : (g.th n).now with
  | none => rw [exG_none hn]
  | some l =>
    by_cases he : (exc l g.w).2.2.2 = true
    · rw [exG_end hn he]; exact putT_other _ _ h
    · rw [exG_go hn (by simpa using he)]; exact putT_other _ _ h
/-- A step's beginning: nothing, or a call begins. -/
theorem bgG_cases (m : Mc) (g : Gs) (st n : Nat) : (bgG m g st n = g ∧ ((g.th n).now ≠ none ∨ ((g.th n).now = none ∧ (m.ts[n]?.getD []).length ≤ (g.th n).bg))) ∨
    ∃ c, (g.th n).now = none ∧ (m.ts[n]?.getD [])[(g.th n).bg]? = some c ∧ bgG m g st n = ⟨g.w, putT g.th n ⟨some (live (m.cs[c.k.toNat]?.getD []) c.ar), (g.th n).bg + 1⟩, g.out ++ [⟨st, n, (g.th n).bg, false, 0, []⟩]⟩ := by
  unfold bgG
  cases hn : (g.th n).now with
  | some l => exact .inl ⟨rfl, .inl (by simp)⟩
  | none =>
    dsimp only
    cases hc : (m.ts[n]?.getD [])[(g.th n).bg]? with
    | none => exact .inl ⟨rfl, .inr ⟨rfl, by simpa using hc⟩⟩
    | some c => exact .inr ⟨c, rfl, rfl, rfl⟩
/-- No more calls begin than there are. -/
theorem bg_le (m : Mc) (S : List Nat) (i : Nat) : ((plyG m 0 S (g0 m)).th i).bg ≤ (m.ts[i]?.getD []).length := by
  refine plyG_indS (I := fun _ g => (g.th i).bg ≤ (m.ts[i]?.getD []).length) (A := fun _ => True) (by simp [g0]) (fun S g n _ h => ?_) S (fun _ _ => trivial)
  rw [actG_eq, exG_bg]
  rcases bgG_cases m g S.length n with ⟨h1, _⟩ | ⟨c, h1, h2, h3⟩
  · rw [h1]; exact h
  · rw [h3]
    dsimp only
    by_cases hi : i = n
    · subst hi
      rw [putT_same]
      exact (List.getElem?_eq_some_iff.1 h2).1
    · rw [putT_other _ _ hi]; exact h
/-- What becomes of a call. -/
theorem dgs_later {es : List Ev} {st : Nat} (hes : ∀ x ∈ es, st ≤ x.st) : ∀ (l : List Dg) (d : Dg), d ∈ l → ∃ d' ∈ es.foldl dg1 l, d'.th = d.th ∧ d'.cl = d.cl ∧ d'.b = d.b ∧ (d.e ≠ -1 → d' = d) ∧ (d.e = -1 → d'.e = -1 ∨ (st : Int) ≤ d'.e) := by
  induction es with
  | nil => intro l d hd; exact ⟨d, hd, rfl, rfl, rfl, fun _ => rfl, fun h => .inl h⟩
  | cons x es ih =>
    intro l d hd
    rw [List.foldl_cons]
    have ih := ih (fun y hy => hes y (by simp [hy]))
    have hx := hes x (by simp)
    by_cases he : x.en = true
    · rw [dg1_end _ _ he]
      obtain ⟨d', h1, h2, h3, h4, h5, h6⟩ := ih (l.map (fun d => d.fin x)) (d.fin x) (List.mem_map.2 ⟨d, hd, rfl⟩)
      unfold Dg.fin at h2 h3 h4 h5 h6
      by_cases hi : d.is x
      · simp only [if_pos hi] at h2 h3 h4 h5 h6
        refine ⟨d', h1, h2, h3, h4, fun h => absurd hi.2.2 h, fun _ => .inr ?_⟩
        have := h5 (by omega)
        rw [this]
        dsimp only
        omega
      · simp only [if_neg hi] at h2 h3 h4 h5 h6
        exact ⟨d', h1, h2, h3, h4, h5, h6⟩
    · rw [dg1_begin _ _ (by simpa using he)]
      exact ih _ d (by simp [hd])
theorem ply_later (m : Mc) (S T : List Nat) {d : Dg} (hd : d ∈ dgs (plyG m 0 S (g0 m)).out) : ∃ d' ∈ dgs (plyG m 0 (S ++ T) (g0 m)).out, d'.th = d.th ∧ d'.cl = d.cl ∧ d'.b = d.b ∧ (d.e ≠ -1 → d' = d) ∧ (d.e = -1 → d'.e = -1 ∨ (S.length : Int) ≤ d'.e) := by
  obtain ⟨es, h1, h2⟩ := run_parts m S T
  rw [h1]
  have : dgs ((plyG m 0 S (g0 m)).out ++ es) = es.foldl dg1 (dgs (plyG m 0 S (g0 m)).out) := by simp [dgs, List.foldl_append]
  rw [this]
  exact dgs_later h2 _ d hd
/-- Where all calls have ended, those that follow come behind them. -/
theorem dgs_behind {es : List Ev} {st : Nat} (hes : ∀ x ∈ es, st ≤ x.st) : ∀ (l r : List Dg), (∀ d ∈ l, d.e ≠ -1) → (∀ d ∈ r, st ≤ d.b) → ∃ r', es.foldl dg1 (l ++ r) = l ++ r' ∧ ∀ d ∈ r', st ≤ d.b := by
  induction es with
  | nil => intro l r _ hr; exact ⟨r, rfl, hr⟩
  | cons x es ih =>
    intro l r hl hr
    rw [List.foldl_cons]
    have ih := ih (fun y hy => hes y (by simp [hy]))
    by_cases he : x.en = true
    · rw [dg1_end _ _ he, List.map_append]
      have : l.map (fun d => d.fin x) = l := by
        conv => rhs; rw [← List.map_id l]
        refine List.map_congr_left fun d hd => ?_
        unfold Dg.fin
        rw [if_neg (fun hi => hl d hd hi.2.2)]
        rfl
      rw [this]
      refine ih l _ hl fun d hd => ?_
      obtain ⟨q, hq, rfl⟩ := List.mem_map.1 hd
      have := hr q hq
      unfold Dg.fin
      split <;> exact this
    · rw [dg1_begin _ _ (by simpa using he), List.append_assoc]
      refine ih l _ hl fun d hd => ?_
      rcases List.mem_append.1 hd with hd | hd
      · exact hr d hd
      · rw [List.mem_singleton.1 hd]; exact hes x (by simp)
theorem ply_behind (m : Mc) (S T : List Nat) (hd : ∀ d ∈ dgs (plyG m 0 S (g0 m)).out, d.e ≠ -1) : ∃ r, dgs (plyG m 0 (S ++ T) (g0 m)).out = dgs (plyG m 0 S (g0 m)).out ++ r ∧ ∀ d ∈ r, S.length ≤ d.b := by
  obtain ⟨es, h1, h2⟩ := run_parts m S T
  rw [h1]
  have : dgs ((plyG m 0 S (g0 m)).out ++ es) = es.foldl dg1 (dgs (plyG m 0 S (g0 m)).out ++ []) := by simp [dgs, List.foldl_append]
  rw [this]
  exact dgs_behind h2 _ [] hd (by simp)
/-- How many calls a run tells of. -/
theorem dgs_count {m : Mc} {S : List Nat} (hS : ∀ n ∈ S, n < 4) : (dgs (plyG m 0 S (g0 m)).out).length = ((plyG m 0 S (g0 m)).th 0).bg + ((plyG m 0 S (g0 m)).th 1).bg + ((plyG m 0 S (g0 m)).th 2).bg + ((plyG m 0 S (g0 m)).th 3).bg := by
  refine plyG_indS (I := fun _ g => (dgs g.out).length = (g.th 0).bg + (g.th 1).bg + (g.th 2).bg + (g.th 3).bg) (A := fun n => n < 4) (by simp [g0, dgs]) (fun S g n hn h => ?_) S hS
  have hex : ∀ g : Gs, (dgs (exG g S.length n).out).length = (dgs g.out).length := by
    intro g
    cases hn : (g.th n).now with
    | none => rw [exG_none hn]
    | some l =>
      by_cases he : (exc l g.w).2.2.2 = true
      · rw [exG_end hn he]; dsimp only; rw [dgs_snoc, dg1_end _ _ rfl]; simp
      · rw [exG_go hn (by simpa using he)]
  rw [actG_eq, hex, exG_bg, exG_bg, exG_bg, exG_bg]
  rcases bgG_cases m g S.length n with ⟨h1, _⟩ | ⟨c, h1, h2, h3⟩
  · rw [h1]; exact h
  · rw [h3]
    dsimp only
    rw [dgs_begin, List.length_append, List.length_singleton, h]
    unfold putT
    rcases (by omega : n = 0 ∨ n = 1 ∨ n = 2 ∨ n = 3) with rfl | rfl | rfl | rfl <;> simp <;> omega
/-- Threads that do no step have begun nothing. -/
theorem th_idle {m : Mc} {S : List Nat} {i : Nat} (hS : ∀ n ∈ S, n ≠ i) : (plyG m 0 S (g0 m)).th i = ⟨none, 0⟩ := by
  refine plyG_indS (I := fun _ g => g.th i = ⟨none, 0⟩) (A := fun n => n ≠ i) rfl (fun S g n hn h => ?_) S hS
  rw [actG_th (fun e => hn e.symm)]; exact h
theorem th_later {m : Mc} {S T : List Nat} {i : Nat} (hT : ∀ n ∈ T, n ≠ i) : (plyG m 0 (S ++ T) (g0 m)).th i = (plyG m 0 S (g0 m)).th i := by
  rw [plyG_append]
  generalize plyG m 0 S (g0 m) = g
  generalize 0 + S.length = st
  induction T generalizing g st with
  | nil => rfl
  | cons n T ih =>
    show (plyG m (st + 1) T (actG m g st n)).th i = _
    rw [ih (fun k hk => hT k (by simp [hk])), actG_th (fun e => hT n (by simp) e.symm)]
/-- Where no call of a thread takes more than B steps, a thread that has done more steps than all its calls may take has done them all. -/
theorem busy {m : Mc} {n B : Nat} (hB : ∀ S : List Nat, (∀ x ∈ S, x < 4) → ∀ x ∈ dgs (plyG m 0 S (g0 m)).out, x.th = n → x.e ≠ -1 → ((S.take (x.e + 1).toNat).drop x.b).count n ≤ B) (S : List Nat) (hS : ∀ x ∈ S, x < 4) :
    (((plyG m 0 S (g0 m)).th n).now = none ∧ (m.ts[n]?.getD []).length ≤ ((plyG m 0 S (g0 m)).th n).bg) ∨ (((plyG m 0 S (g0 m)).th n).now = none ∧ S.count n ≤ B * ((plyG m 0 S (g0 m)).th n).bg) ∨
      ∃ x ∈ dgs (plyG m 0 S (g0 m)).out, x.th = n ∧ x.e = -1 ∧ S.count n ≤ B * (((plyG m 0 S (g0 m)).th n).bg - 1) + (S.drop x.b).count n := by
  suffices h : Hs S.length S.length (plyG m 0 S (g0 m)) ∧ plyG m 0 S (g0 m) = plyG m 0 S (g0 m) ∧ ((((plyG m 0 S (g0 m)).th n).now = none ∧ (m.ts[n]?.getD []).length ≤ ((plyG m 0 S (g0 m)).th n).bg) ∨ (((plyG m 0 S (g0 m)).th n).now = none ∧ S.count n ≤ B * ((plyG m 0 S (g0 m)).th n).bg) ∨
      ∃ x ∈ dgs (plyG m 0 S (g0 m)).out, x.th = n ∧ x.e = -1 ∧ S.count n ≤ B * (((plyG m 0 S (g0 m)).th n).bg - 1) + (S.drop x.b).count n) from h.2.2
  refine plyG_indS (m := m) (I := fun S g => Hs S.length S.length g ∧ ((∀ x ∈ S, x < 4) ∧ g = plyG m 0 S (g0 m)) ∧ (((g.th n).now = none ∧ (m.ts[n]?.getD []).length ≤ (g.th n).bg) ∨ ((g.th n).now = none ∧ S.count n ≤ B * (g.th n).bg) ∨
      ∃ x ∈ dgs g.out, x.th = n ∧ x.e = -1 ∧ S.count n ≤ B * ((g.th n).bg - 1) + (S.drop x.b).count n)) (A := fun n => n < 4) ⟨hs_zero m, ⟨by simp, rfl⟩, .inr (.inl ⟨rfl, by simp⟩)⟩ (fun S g k hk h => ?_) S hS |> fun h => ⟨h.1, rfl, h.2.2⟩
  obtain ⟨hs, ⟨hS4, hg⟩, hI⟩ := h
  have hsn : Hs (S ++ [k]).length (S ++ [k]).length (actG m g S.length k) := by rw [List.length_append, List.length_singleton]; exact hs_act hs
  have hgn : (∀ x ∈ S ++ [k], x < 4) ∧ actG m g S.length k = plyG m 0 (S ++ [k]) (g0 m) := ⟨fun x hx => by rcases List.mem_append.1 hx with hx | hx; exact hS4 x hx; rw [List.mem_singleton.1 hx]; exact hk, by rw [ply_snoc, hg]⟩
  refine ⟨hsn, hgn, ?_⟩
  have hBn := hB (S ++ [k]) hgn.1
  rw [← hgn.2] at hBn
  by_cases hkn : k = n
  · subst hkn
    have hcnt : (S ++ [k]).count k = S.count k + 1 := by simp
    rw [hcnt]
    -- the state behind the beginning
    have hmid : ((g.th k).now = none ∧ (m.ts[k]?.getD []).length ≤ (g.th k).bg ∧ bgG m g S.length k = g) ∨ (((bgG m g S.length k).th k).now ≠ none ∧ ∃ x ∈ dgs (bgG m g S.length k).out, x.th = k ∧ x.e = -1 ∧ S.count k ≤ B * (((bgG m g S.length k).th k).bg - 1) + (S.drop x.b).count k) := by
      rcases bgG_cases m g S.length k with ⟨h1, h2⟩ | ⟨c, h1, h2, h3⟩
      · rw [h1]
        rcases h2 with h2 | ⟨h2, h4⟩
        · rcases hI with ⟨q, _⟩ | ⟨q, _⟩ | q
          · exact absurd q h2
          · exact absurd q h2
          · exact .inr ⟨h2, q⟩
        · exact .inl ⟨h2, h4, rfl⟩
      · refine .inr ?_
        rw [h3]
        dsimp only
        rw [putT_same, dgs_begin]
        refine ⟨by simp, ⟨S.length, -1, k, (g.th k).bg, []⟩, by simp, rfl, rfl, ?_⟩
        dsimp only
        rcases hI with ⟨_, q⟩ | ⟨_, q⟩ | ⟨x, q1, q2, q3, _⟩
        · have := (List.getElem?_eq_some_iff.1 h2).1; omega
        · rw [List.drop_eq_nil_of_le (Nat.le_refl _)]; simpa using q
        · have := ((hs.opn x q1).1 q3).1; rw [q2] at this; exact absurd h1 this
    rw [actG_eq] at hBn ⊢
    have hsm := hs_begin (m := m) (n := k) hs
    generalize bgG m g S.length k = gm at hmid hBn hsm
    rcases hmid with ⟨h1, h2, rfl⟩ | ⟨h1, x, h2, h3, h4, h5⟩
    · rw [exG_none h1]; exact .inl ⟨h1, h2⟩
    · cases hl : (gm.th k).now with
      | none => exact absurd hl h1
      | some l =>
        have hxb := (hsm.bnd x h2).1
        by_cases he : (exc l gm.w).2.2.2 = true
        · rw [exG_end hl he] at hBn ⊢
          dsimp only at hBn ⊢
          refine .inr (.inl ⟨by rw [putT_same], ?_⟩)
          rw [putT_same]
          dsimp only
          obtain ⟨o, ho, o1, o2, o3, o4, o5, o6, o7⟩ := dgs_end (x := ⟨S.length, k, (gm.th k).bg - 1, true, (exc l gm.w).2.2.1, (exc l gm.w).1.t⟩) hsm (by rw [hl]; simp) rfl rfl rfl
          obtain rfl := (o4 x h2 h4 h3).1
          have := hBn _ o7 rfl (by dsimp only; omega)
          dsimp only at this
          rw [show ((S.length : Int) + 1).toNat = (S ++ [k]).length by simp, List.take_length, List.drop_append_of_le_length (by omega), List.count_append] at this
          have h1b := hsm.ps k (by rw [hl]; simp)
          have hB1 : B * (gm.th k).bg = B * ((gm.th k).bg - 1) + B := by
            rw [← Nat.mul_succ]; congr 1; omega
          simp at this
          omega
        · rw [exG_go hl (by simpa using he)]
          dsimp only
          rw [putT_same]
          refine .inr (.inr ⟨x, h2, h3, h4, ?_⟩)
          dsimp only
          rw [List.drop_append_of_le_length (by omega), List.count_append]
          simp
          omega
  · have hcnt : (S ++ [k]).count n = S.count n := by simp [hkn]
    rw [hcnt, actG_th (fun e => hkn e.symm)]
    rcases hI with q | q | ⟨x, q1, q2, q3, q4⟩
    · exact .inl q
    · exact .inr (.inl q)
    · have hxb := (hs.bnd x q1).1
      refine .inr (.inr ⟨x, ?_, q2, q3, by rw [List.drop_append_of_le_length (by omega), List.count_append]; omega⟩)
      have hmem : x ∈ dgs (bgG m g S.length k).out := by
        rcases bgG_cases m g S.length k with ⟨h1, h2⟩ | ⟨c, h1, h2, h3⟩
        · rw [h1]; exact q1
        · rw [h3]; dsimp only; rw [dgs_begin]; simp [q1]
      have hsm := hs_begin (m := m) (n := k) hs
      rw [actG_eq]
      generalize bgG m g S.length k = gm at hmem hsm
      cases hl : (gm.th k).now with
      | none => rw [exG_none hl]; exact hmem
      | some l =>
        by_cases he : (exc l gm.w).2.2.2 = true
        · rw [exG_end hl he]
          obtain ⟨o, ho, o1, o2, o3, o4, o5, o6, o7⟩ := dgs_end (x := ⟨S.length, k, (gm.th k).bg - 1, true, (exc l gm.w).2.2.1, (exc l gm.w).1.t⟩) hsm (by rw [hl]; simp) rfl rfl rfl
          exact o6 x hmem (by rintro rfl; exact hkn (o1.symm.trans q2))
        · rw [exG_go hl (by simpa using he)]; exact hmem
end Go.Baro

set_option linter.unusedSimpArgs false
set_option linter.unusedVariables false
namespace Go.Baro

theorem out_rng (m : Mc) (A : Nat → Prop) (S : List Nat) (hS : ∀ n ∈ S, A n) : ∀ x ∈ (plyG m 0 S (g0 m)).out, A x.th ∧ x.cl < ((plyG m 0 S (g0 m)).th x.th).bg := by
  refine (plyG_indS (I := fun S g => Hs S.length S.length g ∧ ∀ x ∈ g.out, A x.th ∧ x.cl < (g.th x.th).bg) (A := A) ⟨hs_zero m, fun x hx => by simp [g0] at hx⟩ (fun S g n hn ⟨hs, h⟩ => ⟨by rw [List.length_append, List.length_singleton]; exact hs_act hs, ?_⟩) S hS).2
  rw [actG_eq]
  have hsm := hs_begin (m := m) (n := n) hs
  have hm : ∀ x ∈ (bgG m g S.length n).out, A x.th ∧ x.cl < ((bgG m g S.length n).th x.th).bg := by
    rcases bgG_cases m g S.length n with ⟨h1, _⟩ | ⟨c, h1, h2, h3⟩
    · rw [h1]; exact h
    · rw [h3]
      intro x hx
      dsimp only at hx ⊢
      rcases List.mem_append.1 hx with hx | hx
      · obtain ⟨k1, k2⟩ := h x hx
        refine ⟨k1, ?_⟩
        by_cases ht : x.th = n
        · rw [ht, putT_same]; rw [ht] at k2; dsimp only; omega
        · rw [putT_other _ _ ht]; exact k2
      · rw [List.mem_singleton.1 hx]
        refine ⟨hn, ?_⟩
        dsimp only
        rw [putT_same]
        dsimp only
        omega
  generalize bgG m g S.length n = gm at hm hsm
  intro x hx
  rw [exG_bg]
  cases hl : (gm.th n).now with
  | none => rw [exG_none hl] at hx; exact hm x hx
  | some l =>
    by_cases he : (exc l gm.w).2.2.2 = true
    · rw [exG_end hl he] at hx
      rcases List.mem_append.1 hx with hx | hx
      · exact hm x hx
      · rw [List.mem_singleton.1 hx]
        dsimp only
        have := hsm.ps n (by rw [hl]; simp)
        exact ⟨hn, by omega⟩
    · rw [exG_go hl (by simpa using he)] at hx; exact hm x hx
def dKey (d : Dg) : Nat × Nat := (d.th, d.cl)
/-- The calls that a part of the events tells of are those that began in it. -/
theorem dgs_keys (es : List Ev) : (dgs es).map dKey = (es.filter fun x => !x.en).map fun x => (x.th, x.cl) := by
  suffices h : ∀ (es : List Ev) (l : List Dg), (es.foldl dg1 l).map dKey = l.map dKey ++ (es.filter fun x => !x.en).map fun x => (x.th, x.cl) by simpa [dgs] using h es []
  intro es
  induction es with
  | nil => intro l; simp
  | cons x es ih =>
    intro l
    rw [List.foldl_cons, ih]
    by_cases he : x.en = true
    · rw [dg1_end _ _ he]
      have : (l.map fun d => d.fin x).map dKey = l.map dKey := by
        rw [List.map_map]
        apply List.map_congr_left
        intro d _
        simp only [Function.comp, Dg.fin, dKey]
        split <;> rfl
      rw [this]
      simp [he]
    · have he' : x.en = false := by simpa using he
      rw [dg1_begin _ _ he']
      simp [he', dKey]
theorem dgs_from {es : List Ev} {d : Dg} (h : d ∈ dgs es) : ∃ x ∈ es, x.th = d.th ∧ x.cl = d.cl := by
  have : dKey d ∈ (dgs es).map dKey := List.mem_map.2 ⟨d, h, rfl⟩
  rw [dgs_keys] at this
  obtain ⟨x, hx, he⟩ := List.mem_map.1 this
  simp only [dKey, Prod.mk.injEq] at he
  exact ⟨x, (List.mem_filter.1 hx).1, he.1, he.2⟩
theorem keys_once {sb se : Nat} {g : Gs} (h : Hs sb se g) : ((dgs g.out).map dKey).Nodup := by
  unfold List.Nodup
  rw [List.pairwise_map]
  refine (List.Pairwise.and_mem.1 h.srt).imp fun {a b} hab he => ?_
  simp only [dKey, Prod.mk.injEq] at he
  have := h.one a hab.1 b hab.2.1 he.1 he.2
  have h2 := hab.2.2
  rw [this] at h2
  omega
/-- In each part of the events a call is told of once. -/
theorem part_once {sb se : Nat} {g : Gs} (h : Hs sb se g) (j : Nat) : ((dgs (g.out.take j)).map dKey).Nodup := by
  have h1 := keys_once h
  rw [dgs_keys] at h1 ⊢
  have : g.out = g.out.take j ++ g.out.drop j := (List.take_append_drop j g.out).symm
  rw [this, List.filter_append, List.map_append] at h1
  exact (List.nodup_append.1 h1).1
theorem nodup_one {l : List Dg} (h : (l.map dKey).Nodup) {a b : Dg} (ha : a ∈ l) (hb : b ∈ l) (he : dKey a = dKey b) : a = b := by
  obtain ⟨i, hi⟩ := List.mem_iff_getElem?.1 ha
  obtain ⟨j, hj⟩ := List.mem_iff_getElem?.1 hb
  have hil := (List.getElem?_eq_some_iff.1 hi).1
  have hij : i = j := by
    have h1 : (l.map dKey)[i]? = some (dKey a) := by rw [List.getElem?_map, hi]; rfl
    have h2 : (l.map dKey)[j]? = some (dKey a) := by rw [List.getElem?_map, hj, he]; rfl
    exact (List.getElem?_inj (by simpa using hil) h).1 (h1.trans h2.symm)
  subst hij
  rw [hi] at hj
  injection hj
theorem hist_ok {m : Mc} {S : List Nat} {pf : Cl → List Int → Bool → Bool × Int × Bool} {G : Cl → Prop} (hS : ∀ n ∈ S, n < m.ts.length) (hn : noErr (plyG m 0 S (g0 m)))
    (h1 : ∀ d ∈ dgs (plyG m 0 S (g0 m)).out, d.e ≠ -1 → (pf (clOf m d.th d.cl) d.to true).2.2 = true) (h2 : ∀ d ∈ dgs (plyG m 0 S (g0 m)).out, d.e = -1 → (pf (clOf m d.th d.cl) [] false).2.2 = true) (hg : ∀ t ∈ m.ts, ∀ c ∈ t, G c) : HistOk m pf G (plyG m 0 S (g0 m)).out := by
  have hr := out_rng m (fun n => n < m.ts.length) S hS
  have hbg := bg_le m S
  have hrn := rn_ply S hn
  have hs := hs_ply m S
  generalize plyG m 0 S (g0 m) = g at *
  have hrng : ∀ x ∈ g.out, x.th < m.ts.length ∧ x.cl < (m.ts[x.th]?.getD []).length := fun x hx => ⟨(hr x hx).1, Nat.lt_of_lt_of_le (hr x hx).2 (hbg x.th)⟩
  refine ⟨hrng, fun j d hd => ?_, fun j x hx he d hd ht hc => ?_, fun x hx he => ?_, h2, hg⟩
  · obtain ⟨x, hx, e1, e2⟩ := dgs_from hd
    have := hrng x (List.mem_of_mem_take hx)
    rw [e1, e2] at this
    exact this
  · obtain ⟨_, d', hd', k1, k2, k3⟩ := hrn j x hx he
    have := nodup_one (part_once hs j) hd hd' (by simp [dKey, ht, hc, k1, k2])
    rw [this]; exact k3
  · obtain ⟨j, hj⟩ := List.mem_iff_getElem?.1 hx
    obtain ⟨_, d', hd', k1, k2, k3⟩ := hrn j x hj he
    have hjl := (List.getElem?_eq_some_iff.1 hj).1
    have hmem : (⟨d'.b, x.st, d'.th, d'.cl, x.to⟩ : Dg) ∈ dgs (g.out.take (j + 1)) := by
      have : g.out.take (j + 1) = g.out.take j ++ [x] := by rw [List.take_add_one, hj]; rfl
      rw [this, dgs_snoc, dg1_end _ _ he]
      refine List.mem_map.2 ⟨d', hd', ?_⟩
      unfold Dg.fin
      rw [if_pos ⟨k1, k2, k3⟩]
    have hlate : dgs g.out = (g.out.drop (j + 1)).foldl dg1 (dgs (g.out.take (j + 1))) := by
      unfold dgs
      rw [← List.foldl_append, List.take_append_drop]
    obtain ⟨d2, hd2, q1, q2, q3, q4, q5⟩ := dgs_later (es := g.out.drop (j + 1)) (st := 0) (fun _ _ => Nat.zero_le _) _ _ hmem
    rw [← hlate] at hd2
    have e := q4 (by dsimp only; omega)
    rw [e] at hd2
    have := h1 _ hd2 (by dsimp only; omega)
    dsimp only at this
    rw [k1, k2] at this
    exact this
end Go.Baro
