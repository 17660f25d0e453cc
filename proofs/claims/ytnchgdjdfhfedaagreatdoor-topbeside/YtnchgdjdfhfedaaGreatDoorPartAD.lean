/- Of this claim's own texts these, one behind the other: LibO, LibB, LibL, OpenL, RunPure, LibM, LibU. No statement of the seat is proved here; no condition but those that stand at the theorems. -/
import Derived.Test.YtnchgdjdfhfedaaGreatDoorPartAC
import Derived.OpenShut
set_option linter.unusedSimpArgs false
set_option linter.unusedVariables false
namespace Go.Baro
open Go.RowKit

def insV (o : Ins) : List Value := [.int .i64 o.k, .int .i64 o.a, .int .i64 o.b, .int .i64 o.c, .int .i64 o.d]
/-- The cells of instructions. -/
def cellsO (l : List Ins) : List Value := l.flatMap insV
/-- A slice of instructions. -/
def RO (w : World) (B : Nat) (A : Option Addr) (n : Nat) (l : List Ins) : Prop := Rd w B 5 A n (cellsO l)
theorem cellsO_length (l : List Ins) : (cellsO l).length = l.length * 5 := by
  induction l with
  | nil => rfl
  | cons f l ih => simp only [cellsO, insV, List.flatMap_cons, List.length_append, List.length_cons, List.length_nil] at ih ⊢; omega
theorem cellsO_append (a b : List Ins) : cellsO (a ++ b) = cellsO a ++ cellsO b := by simp [cellsO]
theorem cellsO_at (l : List Ins) : ∀ (i j : Nat) (o : Ins), l[i]? = some o → j < 5 → (cellsO l)[i * 5 + j]? = (insV o)[j]? := by
  induction l with
  | nil => intro i j o h; simp at h
  | cons g l ih =>
    intro i j o h hj
    have hc : cellsO (g :: l) = insV g ++ cellsO l := rfl
    rw [hc]
    cases i with
    | zero => simp at h; subst h; rw [List.getElem?_append_left (by simp [insV]; omega)]; simp
    | succ i =>
      have := ih i j o (by simpa using h) hj
      rw [List.getElem?_append_right (by simp [insV]; omega), ← this]
      simp [insV, show (i + 1) * 5 + j - 5 = i * 5 + j by omega]
section
variable {w w' : World} {B B' n : Nat} {A : Option Addr} {l : List Ins}
theorem RO.len (h : RO w B A n l) : l.length = n := by have := Rd.len h; rw [cellsO_length] at this; omega
theorem RO.val (h : RO w B A n l) {i : Nat} (hi : i < n) : ∃ b o k x y z u, A = some ⟨b, o, none⟩ ∧ b < B ∧ w.cell? ⟨b, o + i * 5, none⟩ = some (.int .i64 k) ∧ w.cell? ⟨b, o + i * 5 + 1, none⟩ = some (.int .i64 x) ∧ w.cell? ⟨b, o + i * 5 + 2, none⟩ = some (.int .i64 y) ∧
    w.cell? ⟨b, o + i * 5 + 3, none⟩ = some (.int .i64 z) ∧ w.cell? ⟨b, o + i * 5 + 4, none⟩ = some (.int .i64 u) ∧ Hid (l[i]? = some ⟨k, x, y, z, u⟩) ∧ Ins.mk k x y z u ∈ l := by
  obtain ⟨b, o, hA, hb, hc⟩ := Rd.at_ h (by omega)
  have hl : i < l.length := by rw [h.len]; exact hi
  have hf : l[i]? = some l[i] := List.getElem?_eq_getElem hl
  refine ⟨b, o, l[i].k, l[i].a, l[i].b, l[i].c, l[i].d, hA, hb, ?_, ?_, ?_, ?_, ?_, hf, List.getElem_mem hl⟩
  · rw [hc (i * 5) (by omega)]; exact cellsO_at l i 0 _ hf (by omega)
  · rw [Nat.add_assoc, hc (i * 5 + 1) (by omega)]; exact cellsO_at l i 1 _ hf (by omega)
  · rw [Nat.add_assoc, hc (i * 5 + 2) (by omega)]; exact cellsO_at l i 2 _ hf (by omega)
  · rw [Nat.add_assoc, hc (i * 5 + 3) (by omega)]; exact cellsO_at l i 3 _ hf (by omega)
  · rw [Nat.add_assoc, hc (i * 5 + 4) (by omega)]; exact cellsO_at l i 4 _ hf (by omega)
theorem RO.below (h : RO w B A n l) (hb : Below B w w') : RO w' B A n l := Rd.below h hb
theorem RO.heap (h : RO w B A n l) (hh : w'.heap = w.heap) : RO w' B A n l := Rd.heap h hh
theorem RO.more (h : RO w B A n l) (hB : B ≤ B') : RO w B' A n l := Rd.more h hB
theorem RO.size (h : RO w B A n l) : RO w w.heap.size A n l := Rd.size h (by decide)
theorem RO.nil (w : World) (B : Nat) (A : Option Addr) : RO w B A 0 [] := Rd.nil w B 5 A
end
section
variable {H : Type} {enc : TypeId × Value → H} {P : Program} {W : World}
/-- A slice of instructions that came in. -/
theorem open_RO {t e i : TypeId} {f0 f1 f2 f3 f4 : Field} {a : Option Addr} {len cap : Nat} {d : DataW H} {p : List MemPlace} (ht : P.underlying t = some (.slice e)) (he : P.underlying e = some (.struct #[f0, f1, f2, f3, f4])) (hc : P.cellsOf e = 5)
    (hi : P.underlying i = some (.int .i64)) (hci : P.cellsOf i = 1) (hf : [f0, f1, f2, f3, f4].map (fun f => (f.type, f.offset)) = [(i, 0), (i, 1), (i, 2), (i, 3), (i, 4)])
    (h : DataW.Trod enc P W 0 (fun _ => true) true t (.slice a len cap) d p) :
    ∃ fs : List Ins, RO W W.heap.size a len fs ∧ (∀ f ∈ fs, inI f) ∧ len ≤ cap ∧ ((len = 0 ∧ d = .nil) ∨ ∃ el sp, d = .slice el sp ∧ el.length = len) := by
  obtain ⟨rows, hr, hl, hrow, hlc, hd⟩ := open_rows ht hc (by decide) h
  simp only [List.map_cons, List.map_nil, List.cons.injEq, Prod.mk.injEq, and_true] at hf
  obtain ⟨⟨e0, o0⟩, ⟨e1, o1⟩, ⟨e2, o2⟩, ⟨e3, o3⟩, e4, o4⟩ := hf
  obtain ⟨fs, rfl, hp⟩ := map_of (f := insV) (p := inI) rows (by
      intro r hr
      obtain ⟨hlr, y, n, hy⟩ := hrow r hr
      obtain ⟨xs, m, _, _, hlen, hlx, hfx⟩ := DataW.trod_struct he hy
      have g : ∀ (j : Nat) (f : Field), #[f0, f1, f2, f3, f4][j]? = some f → f.type = i → ∃ v, (r.drop f.offset).take 1 = [.int .i64 v] ∧ inW v := by
        intro j f hj hfi
        have h0 := hfx j f hj
        have hjl : j < xs.length := by
          have := (Array.getElem?_eq_some_iff.1 hj).1
          simp at this hlx; omega
        rw [List.getElem?_eq_getElem hjl, hfi, hci] at h0
        obtain ⟨u, hu, _, wu⟩ := DataW.trod_int hi h0
        exact ⟨u, hu, bounds_i64 wu⟩
      obtain ⟨v0, h0, w0⟩ := g 0 f0 rfl e0
      obtain ⟨v1, h1, w1⟩ := g 1 f1 rfl e1
      obtain ⟨v2, h2, w2⟩ := g 2 f2 rfl e2
      obtain ⟨v3, h3, w3⟩ := g 3 f3 rfl e3
      obtain ⟨v4, h4, w4⟩ := g 4 f4 rfl e4
      rw [o0] at h0; rw [o1] at h1; rw [o2] at h2; rw [o3] at h3; rw [o4] at h4
      match r, hlr with
      | [c0, c1, c2, c3, c4], _ =>
        simp at h0 h1 h2 h3 h4
        exact ⟨⟨v0, v1, v2, v3, v4⟩, by simp [insV, h0, h1, h2, h3, h4], w0, w1, w2, w3, w4⟩)
  refine ⟨fs, ?_, hp, hlc, hd⟩
  have : cellsO fs = (fs.map insV).flatten := by simp [cellsO, List.flatMap]
  unfold RO
  rw [this]
  exact hr
end
end Go.Baro

set_option linter.unusedSimpArgs false
set_option linter.unusedVariables false
namespace Go.Baro
open Go.RowKit
section
variable {P : Program} {t e : TypeId} {z : Value} {s by' : Nat} {ops : Array Oper} {rest : List Oper} {o : Oper} {a : Act} {Q : Exit → Act → World → Prop}

/-- It is the same block as before, or a new one. -/
theorem append_block (E : Elt P t e z s by') (ty : TypeId) {w w' : World} {base n m c : Nat} {v v' : Value} {xs news : List Value} {ad : Addr} (hown : w.ownsRow base e s v n xs) (hl : news.length = m * s)
    (hnews : ∀ j u, news[j]? = some u → w.cell? (ad.add j) = some u) (h1 : ∀ u ∈ news, u.oneCell' = true) (hn : (n + m) * by' ≤ 140737488355328) (hn' : n + m ≤ 140737488355328)
    (hr : (Builtin.append_ #[t, t] ty #[v, .slice (some ad) m c]).run P w = .ok v' w') : v'.ownBlock = v.ownBlock ∨ v'.ownBlock = some w.heap.size := by
  obtain ⟨hu, ⟨i, hi, h5, h6, h7⟩, h3, h4⟩ := E
  subst h6 h7
  rcases hown.2 with ⟨rfl, rfl⟩ | ⟨g, cap, cur, rfl, hbg, hg, hnc, hcm, hcs, htake⟩
  · have hx : xs = [] := List.eq_nil_of_length_eq_zero (by simpa using hown.1)
    subst hx
    by_cases hm : m = 0
    · subst hm
      have hn : news = [] := List.eq_nil_of_length_eq_zero (by simpa using hl)
      subst hn
      simp [Builtin.append_, run_underlying hu, sizeOf, typeInfo, hi, Builtin.lenOf, Builtin.firstCells, loadCells, loadCellsFrom] at hr
      exact .inl (by rw [← hr.1])
    · rw [_root_.Go.run_append_nil (P := P) w t ty e i z hu hi h5 ad m c news hl hnews (by omega) (by omega) (by simp only [Nat.zero_add] at hn; omega)] at hr
      injection hr with hr _
      exact .inr (by rw [← hr]; rfl)
  · by_cases hroom : n + m ≤ cap
    · have hfit : n * i.size + news.length ≤ cur.size := by rw [hl, hcs, ← Nat.add_mul]; exact Nat.mul_le_mul_right _ hroom
      rw [run_append_room (P := P) w t ty e i hu hi g n cap cur hg ad m c news hl hnews h1 hroom hfit] at hr
      injection hr with hr _
      exact .inl (by rw [← hr]; rfl)
    · have holds : ∀ j u, xs[j]? = some u → w.cell? ((⟨g, 0, none⟩ : Addr).add j) = some u := hown.cells (g := g) rfl
      rw [run_append_grow (P := P) w t ty e i z hu hi h5 ⟨g, 0, none⟩ n cap xs hown.1 holds ad m c news hl hnews (by omega) (by omega) (growslice_fits (by omega) hn)] at hr
      injection hr with hr _
      exact .inr (by rw [← hr]; rfl)

/-- append(v, x...) from whatever slice x, and where its row lies. -/
theorem app_srcB (E : Elt P t e z s by') (w : World) (hgd : o.guard = none) (l x : Operand) (ho : o.op = .call { callee := .builtin .append, args := #[l, x], argTypes := #[t, t] })
    (base : Nat) (v : Value) (n : Nat) (xs : List Value) (hs : a.eval l = v) (hown : w.ownsRow base e s v n xs) (A : Option Addr) (m c : Nat) (cs : List Value) (hx : a.eval x = .slice A m c) (B : Nat) (hr : Rd w B s A m cs)
    (h1 : ∀ u ∈ cs, u.oneCell' = true) (hn : (n + m) * by' ≤ 140737488355328) (hn' : n + m ≤ 140737488355328) (hb : base ≤ w.heap.size)
    (h : ∀ v' w', w'.ownsRow base e s v' (n + m) (xs ++ cs) → w.grownBy w' v.ownBlock → (∀ w0, Below base w0 w → Below base w0 w') → base ≤ w'.heap.size → (v'.ownBlock = v.ownBlock ∨ v'.ownBlock = some w.heap.size) → wpList P ops Q rest (a.put o.dst v') w') :
    wpList P ops Q (o :: rest) a w := by
  cases A with
  | none =>
    have hm : m = 0 := by
      rcases Nat.eq_zero_or_pos m with h0 | h0
      · exact h0
      · obtain ⟨b, q, hA, _⟩ := hr.at_ h0; cases hA
    subst hm
    have hc : cs = [] := List.eq_nil_of_length_eq_zero (by simpa using hr.len)
    subst hc
    refine wpList_plain hgd fun K hK => ?_
    unfold Oper.wp
    simp [execOp, ho, resolve, invoke, builtin, hs, hx, run_append_nil E o.type hown c, Result.andThen]
    exact hK _ _ (h v w (by simpa using hown) (World.grownBy.refl w _) (fun _ hb0 => hb0) hb (.inl rfl))
  | some ad =>
    have hnews : ∀ j u, cs[j]? = some u → w.cell? (ad.add j) = some u := by
      intro j u hj
      have hjl : j < m * s := by rw [← hr.len]; exact (List.getElem?_eq_some_iff.1 hj).1
      obtain ⟨b, q, hA, _, hc⟩ := hr.at_ (by rcases Nat.eq_zero_or_pos m with h0 | h0; simp [h0] at hjl; exact h0)
      injection hA with hA
      subst hA
      rw [Addr.add_lit, hc j hjl, hj]
    have E' := E
    obtain ⟨hu, ⟨i, hi, h5, h6, h7⟩, h3, h4⟩ := E
    obtain ⟨v', w', hrun, ho2, hg2, _⟩ := run_append_own (P := P) w base t o.type e i z s by' hu hi h5 h6 h7 h3 h4 v n xs hown ad m c cs hr.len hnews h1 (by unfold maxLen; omega) hn hb
    have hblk := append_block E' o.type hown hr.len hnews h1 hn hn' hrun
    refine wpList_plain hgd fun K hK => ?_
    unfold Oper.wp
    simp [execOp, ho, resolve, invoke, builtin, hs, hx, hrun, Result.andThen]
    refine hK _ _ (h v' w' ho2 hg2 (fun w0 hb0 => hb0.grown hg2 hb (fun k hk => (hown.lt k hk).1)) ?_ hblk)
    have := hg2.size; omega

/-- Two rows of the call's own in two blocks: what is done to the one leaves the other. -/
theorem own_apart {w w' : World} {b1 : Nat} {e1 : TypeId} {s1 n1 : Nat} {v1 v2 : Value} {xs1 : List Value} (h1 : w.ownsRow b1 e1 s1 v1 n1 xs1) (hne : v1.ownBlock = none ∨ v1.ownBlock ≠ v2.ownBlock)
    (hg : w.grownBy w' v2.ownBlock) : w'.ownsRow b1 e1 s1 v1 n1 xs1 := h1.kept hg hne
/-- They stay in two blocks. -/
theorem apart_next {w : World} {b1 : Nat} {e1 : TypeId} {s1 n1 : Nat} {v1 v2 v2' : Value} {xs1 : List Value} (h1 : w.ownsRow b1 e1 s1 v1 n1 xs1) (hne : v1.ownBlock = none ∨ v1.ownBlock ≠ v2.ownBlock)
    (hb : v2'.ownBlock = v2.ownBlock ∨ v2'.ownBlock = some w.heap.size) : v1.ownBlock = none ∨ v1.ownBlock ≠ v2'.ownBlock := by
  rcases hb with hb | hb
  · rw [hb]; exact hne
  · rw [hb]
    refine .inr fun he => ?_
    have := (h1.lt _ he).2
    omega
end
end Go.Baro

set_option linter.unusedSimpArgs false
set_option linter.unusedVariables false
namespace Go.Baro
open Go.RowKit

/-- A value that is a slice of these bytes. -/
def SL (w : World) (B : Nat) (v : Value) (l : List Int) : Prop := ∃ A n c, v = .slice A n c ∧ n ≤ c ∧ RI w B .u8 A n l
/-- A slice of slices of bytes. -/
def RL (w : World) (B : Nat) (A : Option Addr) (n : Nat) (ls : List (List Int)) : Prop :=
  ∃ cs : List Value, Rd w B 1 A n cs ∧ cs.length = ls.length ∧ ∀ (i : Nat) v l, cs[i]? = some v → ls[i]? = some l → SL w B v l

section
variable {w w' : World} {B B' n : Nat} {A : Option Addr} {ls : List (List Int)}
theorem SL.below {v : Value} {l : List Int} (h : SL w B v l) (hb : Below B w w') : SL w' B v l := by
  obtain ⟨A, n, c, e, hc, hr⟩ := h
  exact ⟨A, n, c, e, hc, hr.below hb⟩
theorem SL.heap {v : Value} {l : List Int} (h : SL w B v l) (hh : w'.heap = w.heap) : SL w' B v l := by
  obtain ⟨A, n, c, e, hc, hr⟩ := h
  exact ⟨A, n, c, e, hc, hr.heap hh⟩
theorem SL.more {v : Value} {l : List Int} (h : SL w B v l) (hB : B ≤ B') : SL w B' v l := by
  obtain ⟨A, n, c, e, hc, hr⟩ := h
  exact ⟨A, n, c, e, hc, hr.more hB⟩
theorem RL.len (h : RL w B A n ls) : ls.length = n := by
  obtain ⟨cs, hr, hl, _⟩ := h
  have := hr.len
  omega
theorem RL.below (h : RL w B A n ls) (hb : Below B w w') : RL w' B A n ls := by
  obtain ⟨cs, hr, hl, hs⟩ := h
  exact ⟨cs, hr.below hb, hl, fun i v l h1 h2 => (hs i v l h1 h2).below hb⟩
theorem RL.heap (h : RL w B A n ls) (hh : w'.heap = w.heap) : RL w' B A n ls := by
  obtain ⟨cs, hr, hl, hs⟩ := h
  exact ⟨cs, hr.heap hh, hl, fun i v l h1 h2 => (hs i v l h1 h2).heap hh⟩
theorem RL.more (h : RL w B A n ls) (hB : B ≤ B') : RL w B' A n ls := by
  obtain ⟨cs, hr, hl, hs⟩ := h
  exact ⟨cs, hr.more hB, hl, fun i v l h1 h2 => (hs i v l h1 h2).more hB⟩
theorem RL.val (h : RL w B A n ls) {i : Nat} (hi : i < n) : ∃ b o A' n' c' l, A = some ⟨b, o, none⟩ ∧ b < B ∧ w.cell? ⟨b, o + i, none⟩ = some (.slice A' n' c') ∧ n' ≤ c' ∧ RI w B .u8 A' n' l ∧ Hid (ls[i]? = some l) ∧ l ∈ ls := by
  obtain ⟨cs, hr, hl, hs⟩ := h
  obtain ⟨b, o, hA, hb, hc⟩ := hr.at_ (by omega)
  have h1 := hr.len
  have hi1 : i < cs.length := by omega
  have hi2 : i < ls.length := by omega
  obtain ⟨A', n', c', e, hc', hr'⟩ := hs i cs[i] ls[i] (List.getElem?_eq_getElem hi1) (List.getElem?_eq_getElem hi2)
  refine ⟨b, o, A', n', c', ls[i], hA, hb, ?_, hc', hr', List.getElem?_eq_getElem hi2, List.getElem_mem hi2⟩
  rw [hc i (by omega), List.getElem?_eq_getElem hi1, e]
theorem RL.nil (w : World) (B : Nat) (A : Option Addr) : RL w B A 0 [] := ⟨[], Rd.nil w B 1 A, rfl, fun i v l h => by simp at h⟩
theorem RL.take (h : RL w B A n ls) {m : Nat} (hm : m ≤ n) : RL w B A m (ls.take m) := by
  obtain ⟨cs, hr, hl, hs⟩ := h
  have h1 := hr.len
  refine ⟨cs.take (m * 1), hr.take hm, by simp; omega, fun i v l h2 h3 => hs i v l ?_ ?_⟩
  · rw [List.getElem?_take] at h2; split at h2; exact h2; cases h2
  · rw [List.getElem?_take] at h3; split at h3; exact h3; cases h3
end

/-- A list of bytes of the call's own, not in block x. -/
def OB (T : TypeId) (w : World) (base : Nat) (x : Option Nat) (v : Value) (l : List Int) : Prop :=
  ∃ n, w.ownsRow base T 1 v n (l.map (Value.int .u8)) ∧ (v.ownBlock = none ∨ v.ownBlock ≠ x)
def OBs (T : TypeId) (w : World) (base : Nat) (x : Option Nat) (cs : List Value) (ls : List (List Int)) : Prop :=
  cs.length = ls.length ∧ ∀ (i : Nat) v l, cs[i]? = some v → ls[i]? = some l → OB T w base x v l
section
variable {T U : TypeId} {w w' : World} {base base' : Nat} {x x' : Option Nat} {v : Value} {l : List Int} {cs : List Value} {ls : List (List Int)}
theorem OB.mk {n : Nat} (h : w.ownsRow base T 1 v n (l.map (Value.int .u8))) (hx : v.ownBlock = none ∨ v.ownBlock ≠ x) : OB T w base x v l := ⟨n, h, hx⟩
theorem OB.mk0 {n : Nat} (h : w.ownsRow base T 1 v n (l.map (Value.int .u8))) : OB T w base none v l := ⟨n, h, by cases v.ownBlock <;> simp⟩
theorem OB.below (h : OB T w base x v l) (hb : Below w.heap.size w w') : OB T w' base x v l := by
  obtain ⟨n, h1, h2⟩ := h
  exact ⟨n, own_below h1 hb, h2⟩
theorem OB.low (h : OB T w base x v l) (hb : base' ≤ base) : OB T w base' x v l := by
  obtain ⟨n, h1, h2⟩ := h
  exact ⟨n, own_more h1 hb, h2⟩
theorem OB.other {s n : Nat} {v2 : Value} {xs : List Value} (h : OB T w base x v l) (h2 : w.ownsRow base' U s v2 n xs) (hne : T ≠ U) (hg : w.grownBy w' v2.ownBlock) : OB T w' base x v l := by
  obtain ⟨n, h1, hx⟩ := h
  exact ⟨n, own_keep h1 h2 hne hg, hx⟩
theorem OB.kept (h : OB T w base x v l) (hg : w.grownBy w' x) : OB T w' base x v l := by
  obtain ⟨n, h1, hx⟩ := h
  exact ⟨n, h1.kept hg hx, hx⟩
theorem OB.block (h : OB T w base x v l) (hb : x' = x ∨ x' = some w.heap.size) : OB T w base x' v l := by
  obtain ⟨n, h1, hx⟩ := h
  refine ⟨n, h1, ?_⟩
  rcases hb with rfl | rfl
  · exact hx
  · refine .inr fun he => ?_
    have := (h1.lt _ he).2
    omega
theorem OB.sl (h : OB T w base x v l) : SL w w.heap.size v l := by
  obtain ⟨n, h1, hx⟩ := h
  obtain ⟨A, c, rfl, hc⟩ := own_form h1
  exact ⟨A, n, c, rfl, hc, Rd.of_own h1⟩
theorem OBs.nil (T : TypeId) (w : World) (base : Nat) (x : Option Nat) : OBs T w base x [] [] := ⟨rfl, fun i v l h => by simp at h⟩
theorem OBs.snoc (h : OBs T w base x cs ls) (h1 : OB T w base x v l) : OBs T w base x (cs ++ [v]) (ls ++ [l]) := by
  refine ⟨by simp [h.1], fun i v' l' hv hl => ?_⟩
  rw [List.getElem?_append] at hv hl
  split at hv
  · rename_i hi
    rw [if_pos (by rw [← h.1]; exact hi)] at hl
    exact h.2 i v' l' hv hl
  · rename_i hi
    rw [if_neg (by rw [← h.1]; exact hi), ← h.1] at hl
    rcases Nat.eq_zero_or_pos (i - cs.length) with h0 | h0
    · rw [h0] at hv hl
      simp at hv hl
      rw [← hv, ← hl]; exact h1
    · rw [List.getElem?_eq_none (by simp; omega)] at hv; cases hv
theorem OBs.below (h : OBs T w base x cs ls) (hb : Below w.heap.size w w') : OBs T w' base x cs ls := ⟨h.1, fun i v l h1 h2 => (h.2 i v l h1 h2).below hb⟩
theorem OBs.low (h : OBs T w base x cs ls) (hb : base' ≤ base) : OBs T w base' x cs ls := ⟨h.1, fun i v l h1 h2 => (h.2 i v l h1 h2).low hb⟩
theorem OBs.other {s n : Nat} {v2 : Value} {xs : List Value} (h : OBs T w base x cs ls) (h2 : w.ownsRow base' U s v2 n xs) (hne : T ≠ U) (hg : w.grownBy w' v2.ownBlock) : OBs T w' base x cs ls :=
  ⟨h.1, fun i v l h1 h3 => (h.2 i v l h1 h3).other h2 hne hg⟩
theorem OBs.kept (h : OBs T w base x cs ls) (hg : w.grownBy w' x) : OBs T w' base x cs ls := ⟨h.1, fun i v l h1 h2 => (h.2 i v l h1 h2).kept hg⟩
theorem OBs.block (h : OBs T w base x cs ls) (hb : x' = x ∨ x' = some w.heap.size) : OBs T w base x' cs ls := ⟨h.1, fun i v l h1 h2 => (h.2 i v l h1 h2).block hb⟩
theorem OB.grow (h : OB T w base x v l) (hg : w.grownBy w' x) (hb : x' = x ∨ x' = some w.heap.size) : OB T w' base x' v l := by
  obtain ⟨n, h1, hx⟩ := h
  obtain ⟨_, _, hx'⟩ := OB.block ⟨n, h1, hx⟩ hb
  exact ⟨n, h1.kept hg hx, hx'⟩
theorem OBs.grow (h : OBs T w base x cs ls) (hg : w.grownBy w' x) (hb : x' = x ∨ x' = some w.heap.size) : OBs T w' base x' cs ls := ⟨h.1, fun i v l h1 h2 => (h.2 i v l h1 h2).grow hg hb⟩
theorem OBs.rl {n : Nat} {A : Option Addr} {c : Nat} (h : OBs T w base x cs ls) (ho : w.ownsRow base' U 1 (.slice A n c) n cs) : RL w w.heap.size A n ls :=
  ⟨cs, Rd.of_own ho, h.1, fun i v l h1 h2 => (h.2 i v l h1 h2).sl⟩
end
section
variable {P : Program} {t e : TypeId} {z : Value} {s by' : Nat} {ops : Array Oper} {rest : List Oper} {o : Oper} {a : Act} {Q : Exit → Act → World → Prop}
/-- make([]T, 0, n) -/
theorem make_room (E : Elt P t e z s by') (w : World) (hgd : o.guard = none) (l c : Operand) (ho : o.op = Op.makeSlice t l c) (base : Nat) (kl kc : IntKind) (C : Int) (n : Nat)
    (hl : a.eval l = .int kl 0) (hc : a.eval c = .int kc C) (hC : C = n) (hn : by' * n ≤ 140737488355328) (hn' : n ≤ 140737488355328) (hb : base ≤ w.heap.size)
    (h : ∀ w', w'.ownsRow base e s (.slice (some ⟨w.heap.size, 0, none⟩) 0 n) 0 [] → (∀ w0, Below base w0 w → Below base w0 w') → base ≤ w'.heap.size → w.grownBy w' none →
      wpList P ops Q rest (a.put o.dst (.slice (some ⟨w.heap.size, 0, none⟩) 0 n)) w') : wpList P ops Q (o :: rest) a w := by
  obtain ⟨hu, ⟨i, hi, h5, h6, h7⟩, h3, h4⟩ := E
  refine wpList_make_own w hgd l c t ho base e i z s hu hi h5 h6 kl kc C n hl hc hC (by rw [h7]; omega) (by unfold maxLen; omega) hb ?_
  intro w' ho hg
  refine h w' ho (fun w0 hb0 => hb0.grown hg hb (fun k hk => by cases hk)) ?_ hg
  have := hg.size; omega
end
/-- A row that was written out just now. -/
theorem own_new {w : World} {base : Nat} {e : TypeId} {s m : Nat} (cs : List Value) (g : Nat) (hg : g = w.heap.size) (hl : cs.length = m * s) (hb : base ≤ w.heap.size) (hm : m ≤ 140737488355328) :
    (w.alloc (.cells cs.toArray e)).ownsRow base e s (.slice (some ⟨g, 0, none⟩) m m) m cs := by
  subst hg
  refine ⟨hl, .inr ⟨w.heap.size, m, cs.toArray, rfl, hb, heap_alloc_new w _, Nat.le_refl _, by unfold maxLen; omega, by simpa using hl, ?_⟩⟩
  rw [List.take_of_length_le (by simp; omega)]
/-- A row made later lies in another block. -/
theorem own_later {w w0 : World} {b b0 : Nat} {e e0 : TypeId} {s s0 n n0 : Nat} {v v0 : Value} {xs xs0 : List Value} (h : w.ownsRow b e s v n xs) (h0 : w0.ownsRow b0 e0 s0 v0 n0 xs0) (hb : w0.heap.size ≤ b) : v.ownBlock = none ∨ v.ownBlock ≠ v0.ownBlock := by
  cases hv : v.ownBlock with
  | none => exact .inl rfl
  | some k =>
    refine .inr fun he => ?_
    have h1 := (h.lt k hv).1
    have h2 := (h0.lt k he.symm).2
    omega
theorem oneS (A : Option Addr) (n c : Nat) : ∀ u ∈ [Value.slice A n c], u.oneCell' = true := by
  intro u hu; simp only [List.mem_singleton] at hu; subst hu; rfl
theorem below_alloc {w : World} (o : Obj) : Below w.heap.size w (w.alloc o) := (Below.refl _ _).alloc (Nat.le_refl _) _
end Go.Baro

set_option linter.unusedSimpArgs false
set_option linter.unusedVariables false
namespace Go.Baro
open Go.ChangeShapes Go.WideShapes Go.ChangeAt Go.RowKit
section
variable {H : Type} {enc : TypeId × Value → H} {P : Program} {W : World}
/-- What one cell of it is. -/
def Inner (W : World) (v : Value) (l : List Int) : Prop := SL W W.heap.size v l ∧ l.length ≤ 9223372036854775807 ∧ ∀ y ∈ l, 0 ≤ y ∧ y < 256
theorem open_inner {e b : TypeId} {n : Nat} {r : List Value} {y : DataW H × List MemPlace} (he : P.underlying e = some (.slice b)) (hb : P.underlying b = some (.int .u8)) (hcb : P.cellsOf b = 1)
    (h : DataW.trod enc P W 0 (fun _ => true) true n e r = some y) : ∃ v l, r = [v] ∧ Inner W v l := by
  obtain ⟨d, p⟩ := y
  have hm : ∃ A len cap, r = [.slice A len cap] ∧ cap ≤ maxLen := by
    rcases DataW.trod_slice he h with ⟨hcs, _⟩ | ⟨x, l, c, _, _, _, _, hcs, _, _, _, hm, _⟩
    · exact ⟨none, 0, 0, hcs, by unfold maxLen; omega⟩
    · exact ⟨some x, l, c, hcs, hm⟩
  obtain ⟨A, len, cap, rfl, hm⟩ := hm
  obtain ⟨xs, hx, hw, hlc, _⟩ := open_RI (t := e) (e := b) (k := .u8) (a := A) (len := len) (cap := cap) (d := d) (p := p) he hb hcb ⟨n, by simpa [Value.cells] using h⟩
  refine ⟨_, xs, rfl, ⟨A, len, cap, rfl, hlc, hx⟩, ?_, fun y hy => ?_⟩
  · rw [hx.len]; unfold maxLen at hm; omega
  · have := bounds_u8 (hw y hy); omega
/-- A list of rows that each have a shape, beside what they are. -/
theorem zip_of {α β γ : Type} {f : α → β} {R : α → γ → Prop} : ∀ (l : List β), (∀ b ∈ l, ∃ a c, b = f a ∧ R a c) → ∃ (us : List α) (cs : List γ), l = us.map f ∧ us.length = cs.length ∧ (∀ (i : Nat) a c, us[i]? = some a → cs[i]? = some c → R a c) ∧ ∀ c ∈ cs, ∃ a, R a c
  | [], _ => ⟨[], [], rfl, rfl, by simp, by simp⟩
  | b :: l, h => by
    obtain ⟨a, c, rfl, hr⟩ := h b (by simp)
    obtain ⟨us, cs, rfl, hl, hp, hq⟩ := zip_of (f := f) (R := R) l fun b hb => h b (by simp [hb])
    refine ⟨a :: us, c :: cs, rfl, by simp [hl], fun i a' c' h1 h2 => ?_, fun x hx => ?_⟩
    · cases i with
      | zero => simp at h1 h2; rw [← h1, ← h2]; exact hr
      | succ i => exact hp i a' c' (by simpa using h1) (by simpa using h2)
    · rcases List.mem_cons.1 hx with rfl | hx
      · exact ⟨a, hr⟩
      · exact hq x hx
theorem open_RL {t e b : TypeId} {a : Option Addr} {len cap : Nat} {d : DataW H} {p : List MemPlace} (ht : P.underlying t = some (.slice e)) (he : P.underlying e = some (.slice b)) (hb : P.underlying b = some (.int .u8)) (hc : P.cellsOf e = 1) (hcb : P.cellsOf b = 1)
    (h : DataW.Trod enc P W 0 (fun _ => true) true t (.slice a len cap) d p) :
    ∃ ls : List (List Int), RL W W.heap.size a len ls ∧ (∀ l ∈ ls, l.length ≤ 9223372036854775807 ∧ ∀ y ∈ l, 0 ≤ y ∧ y < 256) ∧ len ≤ cap ∧ ((len = 0 ∧ d = .nil) ∨ ∃ el sp, d = .slice el sp ∧ el.length = len) := by
  obtain ⟨rows, hr, hl, hrow, hlc, hd⟩ := open_rows ht hc (by decide) h
  obtain ⟨vs, ls, rfl, hvl, hp, hq⟩ := zip_of (f := fun v : Value => [v]) (R := Inner W) rows (by
    intro r hr
    obtain ⟨_, y, n, hy⟩ := hrow r hr
    exact open_inner he hb hcb hy)
  have hf : (vs.map fun v : Value => [v]).flatten = vs := by
    clear hr hl hrow hvl hp hq
    induction vs with
    | nil => rfl
    | cons v vs ih => simp [ih]
  rw [hf] at hr
  refine ⟨ls, ⟨vs, hr, hvl, fun i v l h1 h2 => (hp i v l h1 h2).1⟩, fun l hl => ?_, hlc, hd⟩
  obtain ⟨v, hv⟩ := hq l hl
  exact hv.2
end
end Go.Baro

set_option linter.unusedSimpArgs false
set_option linter.unusedVariables false
namespace Go.Baro

/-- A call: the number of its code, its arguments. -/
structure Cl where
  k : Int
  ar : List Int
/-- A machine: the words, the codes, the calls of each thread. -/
structure Mc where
  ws : List Int
  cs : List (List Ins)
  ts : List (List Cl)
/-- An event. -/
structure Ev where
  st : Nat
  th : Nat
  cl : Nat
  en : Bool
  er : Int
  to : List Int

def okCl (m : Mc) (c : Cl) : Prop := (0 ≤ c.k ∧ c.k < m.cs.length) ∧ c.ar.length ≤ 8
/-- A valid machine. -/
def okMc (m : Mc) : Prop := m.ws.length ≤ 200 ∧ m.cs.length ≤ 8 ∧ m.ts.length ≤ 4 ∧ (∀ c ∈ m.cs, okC c) ∧ ∀ t ∈ m.ts, t.length ≤ 20 ∧ ∀ c ∈ t, okCl m c

/-- A thread within a call: the code, the next instruction, the registers, what it has told. -/
structure Lv where
  c : List Ins
  p : Int
  r : Int → Int
  t : List Int
/-- A thread: its call, if it is within one, and how many it has begun. -/
structure Td where
  now : Option Lv
  bg : Nat
/-- Where a run is. -/
structure Gs where
  w : List Int
  th : Nat → Td
  out : List Ev

def putT (f : Nat → Td) (n : Nat) (t : Td) : Nat → Td := fun i => if i = n then t else f i
def live (c : List Ins) (ar : List Int) : Lv := ⟨c, 0, (st0 ar []).r, []⟩
/-- An instruction of a thread: its call, the words, the error, and whether the call has ended. -/
def exc (l : Lv) (w : List Int) : Lv × List Int × Int × Bool :=
  if l.p = l.c.length then (l, w, 0, true)
  else
    let q := stp l.c.length (l.c[l.p.toNat]?.getD ⟨17, 0, 0, 0, 0⟩) ⟨l.p, l.r, w, l.t⟩
    (⟨l.c, q.1.p, q.1.r, q.1.t⟩, q.1.w, q.2, decide (q.2 ≠ 0 ∨ q.1.p = l.c.length))
/-- What a thread within a call does. -/
def actL (g : Gs) (st n : Nat) (bg : Nat) (l : Lv) (out : List Ev) : Gs :=
  let q := exc l g.w
  if q.2.2.2 then ⟨q.2.1, putT g.th n ⟨none, bg⟩, out ++ [⟨st, n, bg - 1, true, q.2.2.1, q.1.t⟩]⟩
  else ⟨q.2.1, putT g.th n ⟨some q.1, bg⟩, out⟩
/-- A step of thread n. -/
def actG (m : Mc) (g : Gs) (st n : Nat) : Gs :=
  match (g.th n).now with
  | some l => actL g st n (g.th n).bg l g.out
  | none =>
    match (m.ts[n]?.getD [])[(g.th n).bg]? with
    | none => g
    | some c => actL g st n ((g.th n).bg + 1) (live (m.cs[c.k.toNat]?.getD []) c.ar) (g.out ++ [⟨st, n, (g.th n).bg, false, 0, []⟩])
/-- A schedule from step st on. -/
def plyG (m : Mc) : Nat → List Nat → Gs → Gs
  | _, [], g => g
  | st, n :: l, g => plyG m (st + 1) l (actG m g st n)
def g0 (m : Mc) : Gs := ⟨m.ws, fun _ => ⟨none, 0⟩, []⟩

theorem plyG_append (m : Mc) : ∀ (a b : List Nat) (st : Nat) (g : Gs), plyG m st (a ++ b) g = plyG m (st + a.length) b (plyG m st a g)
  | [], b, st, g => rfl
  | n :: a, b, st, g => by
    show plyG m (st + 1) (a ++ b) _ = plyG m (st + (a.length + 1)) b (plyG m (st + 1) a _)
    rw [plyG_append m a b (st + 1), show st + 1 + a.length = st + (a.length + 1) by omega]

/-- A step adds events of this step alone. -/
theorem actL_out (g : Gs) (st n bg : Nat) (l : Lv) (out : List Ev) : ∃ es, (actL g st n bg l out).out = out ++ es ∧ ∀ e ∈ es, e.st = st := by
  unfold actL
  dsimp only
  by_cases h : (exc l g.w).2.2.2 = true
  · rw [if_pos h]; exact ⟨_, rfl, fun e he => by rw [List.mem_singleton.1 he]⟩
  · rw [if_neg h]; exact ⟨[], by simp, by simp⟩
theorem actG_out (m : Mc) (g : Gs) (st n : Nat) : ∃ es, (actG m g st n).out = g.out ++ es ∧ ∀ e ∈ es, e.st = st := by
  unfold actG
  cases (g.th n).now with
  | some l => exact actL_out _ _ _ _ _ _
  | none =>
    dsimp only
    cases (m.ts[n]?.getD [])[(g.th n).bg]? with
    | none => exact ⟨[], by simp, by simp⟩
    | some c =>
      obtain ⟨es, h1, h2⟩ := actL_out g st n ((g.th n).bg + 1) (live (m.cs[c.k.toNat]?.getD []) c.ar) (g.out ++ [⟨st, n, (g.th n).bg, false, 0, []⟩])
      refine ⟨[⟨st, n, (g.th n).bg, false, 0, []⟩] ++ es, by dsimp only; rw [h1, List.append_assoc], fun e he => ?_⟩
      rcases List.mem_append.1 he with he | he
      · rw [List.mem_singleton.1 he]
      · exact h2 e he
theorem plyG_out (m : Mc) : ∀ (l : List Nat) (st : Nat) (g : Gs), ∃ es, (plyG m st l g).out = g.out ++ es ∧ ∀ e ∈ es, st ≤ e.st ∧ e.st < st + l.length
  | [], st, g => ⟨[], by simp [plyG], by simp⟩
  | n :: l, st, g => by
    obtain ⟨e1, h1, h2⟩ := actG_out m g st n
    obtain ⟨e2, h3, h4⟩ := plyG_out m l (st + 1) (actG m g st n)
    refine ⟨e1 ++ e2, by show (plyG m (st + 1) l _).out = _; rw [h3, h1, List.append_assoc], fun e he => ?_⟩
    rw [List.length_cons]
    rcases List.mem_append.1 he with he | he
    · have := h2 e he; omega
    · have := h4 e he; omega
/-- A run under more of a schedule begins as the one under less. -/
theorem run_parts (m : Mc) (a b : List Nat) : ∃ es, (plyG m 0 (a ++ b) (g0 m)).out = (plyG m 0 a (g0 m)).out ++ es ∧ ∀ e ∈ es, a.length ≤ e.st := by
  rw [plyG_append]
  obtain ⟨es, h1, h2⟩ := plyG_out m b (0 + a.length) (plyG m 0 a (g0 m))
  exact ⟨es, h1, fun e he => by have := h2 e he; omega⟩

/-- Who has nothing to do: its step changes nothing. -/
theorem actG_idle {m : Mc} {g : Gs} {st n : Nat} (h : m.ts[n]?.getD [] = []) (hn : (g.th n).now = none) : actG m g st n = g := by
  unfold actG
  rw [hn, h]
  rfl
/-- Other threads are as they were. -/
theorem actL_th {g : Gs} {st n bg i : Nat} {l : Lv} {out : List Ev} (h : i ≠ n) : (actL g st n bg l out).th i = g.th i := by
  unfold actL putT
  dsimp only
  by_cases hq : (exc l g.w).2.2.2 = true
  · rw [if_pos hq]; dsimp only; rw [if_neg h]
  · rw [if_neg hq]; dsimp only; rw [if_neg h]
theorem actG_th {m : Mc} {g : Gs} {st n i : Nat} (h : i ≠ n) : (actG m g st n).th i = g.th i := by
  unfold actG
  cases (g.th n).now with
  | some l => exact actL_th h
  | none =>
    dsimp only
    cases (m.ts[n]?.getD [])[(g.th n).bg]? with
    | none => rfl
    | some c => exact actL_th h
end Go.Baro

set_option linter.unusedSimpArgs false
set_option linter.unusedVariables false
namespace Go.Baro
open Go.RowKit

/-- A slice whose elements, of s cells each, are of a sort R. -/
def RG {α : Type} (s : Nat) (R : World → Nat → List Value → α → Prop) (w : World) (B : Nat) (A : Option Addr) (n : Nat) (ls : List α) : Prop :=
  ∃ rows : List (List Value), rows.length = ls.length ∧ (∀ r ∈ rows, r.length = s) ∧ Rd w B s A n rows.flatten ∧ ∀ (i : Nat) r x, rows[i]? = some r → ls[i]? = some x → R w B r x
theorem flatten_at {α : Type} {s : Nat} : ∀ (rows : List (List α)) (i j : Nat) (r : List α), (∀ r ∈ rows, r.length = s) → rows[i]? = some r → j < s → rows.flatten[i * s + j]? = r[j]?
  | [], i, j, r, _, h, _ => by simp at h
  | q :: rows, i, j, r, hs, h, hj => by
    have hq : q.length = s := hs q (by simp)
    rw [List.flatten_cons]
    cases i with
    | zero => simp at h; subst h; rw [List.getElem?_append_left (by omega)]; simp
    | succ i =>
      have := flatten_at rows i j r (fun r hr => hs r (by simp [hr])) (by simpa using h) hj
      rw [List.getElem?_append_right (by rw [hq, Nat.succ_mul]; omega), ← this, hq]
      congr 1
      rw [Nat.succ_mul]; omega
section
variable {α : Type} {s : Nat} {R : World → Nat → List Value → α → Prop} {w w' : World} {B B' n : Nat} {A : Option Addr} {ls : List α}
theorem flat_len {rows : List (List Value)} (h : ∀ r ∈ rows, r.length = s) : rows.flatten.length = rows.length * s := by
  induction rows with
  | nil => simp
  | cons r rows ih =>
    rw [List.flatten_cons, List.length_append, h r (by simp), ih (fun r hr => h r (by simp [hr])), List.length_cons, Nat.succ_mul]; omega
theorem RG.len (h : RG s R w B A n ls) (hs : 0 < s) : ls.length = n := by
  obtain ⟨rows, h1, h2, h3, _⟩ := h
  have := h3.len
  rw [flat_len h2] at this
  rw [← h1]
  exact Nat.eq_of_mul_eq_mul_right hs this
theorem RG.val (h : RG s R w B A n ls) (hs : 0 < s) {i : Nat} (hi : i < n) : ∃ b o r x, A = some ⟨b, o, none⟩ ∧ b < B ∧ (∀ j, j < s → w.cell? ⟨b, o + i * s + j, none⟩ = r[j]?) ∧ R w B r x ∧ Hid (ls[i]? = some x) ∧ x ∈ ls := by
  have hl := h.len hs
  obtain ⟨rows, h1, h2, h3, h4⟩ := h
  obtain ⟨b, o, hA, hb, hc⟩ := h3.at_ (by omega)
  have hi1 : i < rows.length := by omega
  have hi2 : i < ls.length := by omega
  refine ⟨b, o, rows[i], ls[i], hA, hb, fun j hj => ?_, h4 i _ _ (List.getElem?_eq_getElem hi1) (List.getElem?_eq_getElem hi2), List.getElem?_eq_getElem hi2, List.getElem_mem hi2⟩
  have hij : i * s + j < n * s := by
    have : (i + 1) * s ≤ n * s := Nat.mul_le_mul_right s hi
    rw [Nat.succ_mul] at this
    omega
  rw [Nat.add_assoc, hc _ hij, flatten_at rows i j _ h2 (List.getElem?_eq_getElem hi1) hj]
theorem RG.keep (h : RG s R w B A n ls) (hr : Rd w B s A n = Rd w B s A n) (hd : ∀ cs, Rd w B s A n cs → Rd w' B' s A n cs) (hR : ∀ r x, R w B r x → R w' B' r x) : RG s R w' B' A n ls := by
  obtain ⟨rows, h1, h2, h3, h4⟩ := h
  exact ⟨rows, h1, h2, hd _ h3, fun i r x hr hx => hR r x (h4 i r x hr hx)⟩
end

/-- A cell that is a slice of instructions. -/
def eC (w : World) (B : Nat) (r : List Value) (c : List Ins) : Prop := ∃ A n k, r = [.slice A n k] ∧ n ≤ k ∧ RO w B A n c
/-- Two cells that are a call. -/
def eL (w : World) (B : Nat) (r : List Value) (c : Cl) : Prop := ∃ A n k, r = [.int .i64 c.k, .slice A n k] ∧ n ≤ k ∧ RI w B .i64 A n c.ar
/-- A cell that is a slice of calls. -/
def eT (w : World) (B : Nat) (r : List Value) (t : List Cl) : Prop := ∃ A n k, r = [.slice A n k] ∧ n ≤ k ∧ RG 2 eL w B A n t
section
variable {w w' : World} {B B' n : Nat} {A : Option Addr}
theorem eC.below {r : List Value} {c : List Ins} (h : eC w B r c) (hb : Below B w w') : eC w' B r c := by obtain ⟨A, n, k, h1, h2, h3⟩ := h; exact ⟨A, n, k, h1, h2, h3.below hb⟩
theorem eC.more {r : List Value} {c : List Ins} (h : eC w B r c) (hB : B ≤ B') : eC w B' r c := by obtain ⟨A, n, k, h1, h2, h3⟩ := h; exact ⟨A, n, k, h1, h2, h3.more hB⟩
theorem eL.below {r : List Value} {c : Cl} (h : eL w B r c) (hb : Below B w w') : eL w' B r c := by obtain ⟨A, n, k, h1, h2, h3⟩ := h; exact ⟨A, n, k, h1, h2, h3.below hb⟩
theorem eL.more {r : List Value} {c : Cl} (h : eL w B r c) (hB : B ≤ B') : eL w B' r c := by obtain ⟨A, n, k, h1, h2, h3⟩ := h; exact ⟨A, n, k, h1, h2, h3.more hB⟩
/-- The codes of a machine. -/
def RCs (w : World) (B : Nat) (A : Option Addr) (n : Nat) (ls : List (List Ins)) : Prop := RG 1 eC w B A n ls
/-- The calls of a thread. -/
def RLs (w : World) (B : Nat) (A : Option Addr) (n : Nat) (ls : List Cl) : Prop := RG 2 eL w B A n ls
/-- The threads of a machine. -/
def RTs (w : World) (B : Nat) (A : Option Addr) (n : Nat) (ls : List (List Cl)) : Prop := RG 1 eT w B A n ls
theorem RCs.below {ls : List (List Ins)} (h : RCs w B A n ls) (hb : Below B w w') : RCs w' B A n ls := RG.keep h rfl (fun _ h => h.below hb) (fun _ _ h => eC.below h hb)
theorem RCs.more {ls : List (List Ins)} (h : RCs w B A n ls) (hB : B ≤ B') : RCs w B' A n ls := RG.keep h rfl (fun _ h => h.more hB) (fun _ _ h => eC.more h hB)
theorem RLs.below {ls : List Cl} (h : RLs w B A n ls) (hb : Below B w w') : RLs w' B A n ls := RG.keep h rfl (fun _ h => h.below hb) (fun _ _ h => eL.below h hb)
theorem RLs.more {ls : List Cl} (h : RLs w B A n ls) (hB : B ≤ B') : RLs w B' A n ls := RG.keep h rfl (fun _ h => h.more hB) (fun _ _ h => eL.more h hB)
theorem eT.below {r : List Value} {t : List Cl} (h : eT w B r t) (hb : Below B w w') : eT w' B r t := by obtain ⟨A, n, k, h1, h2, h3⟩ := h; exact ⟨A, n, k, h1, h2, RLs.below h3 hb⟩
theorem eT.more {r : List Value} {t : List Cl} (h : eT w B r t) (hB : B ≤ B') : eT w B' r t := by obtain ⟨A, n, k, h1, h2, h3⟩ := h; exact ⟨A, n, k, h1, h2, RLs.more h3 hB⟩
theorem RTs.below {ls : List (List Cl)} (h : RTs w B A n ls) (hb : Below B w w') : RTs w' B A n ls := RG.keep h rfl (fun _ h => h.below hb) (fun _ _ h => eT.below h hb)
theorem RTs.more {ls : List (List Cl)} (h : RTs w B A n ls) (hB : B ≤ B') : RTs w B' A n ls := RG.keep h rfl (fun _ h => h.more hB) (fun _ _ h => eT.more h hB)
theorem RCs.len {ls : List (List Ins)} (h : RCs w B A n ls) : ls.length = n := RG.len h (by decide)
theorem RLs.len {ls : List Cl} (h : RLs w B A n ls) : ls.length = n := RG.len h (by decide)
theorem RTs.len {ls : List (List Cl)} (h : RTs w B A n ls) : ls.length = n := RG.len h (by decide)
theorem RCs.val {ls : List (List Ins)} (h : RCs w B A n ls) {i : Nat} (hi : i < n) : ∃ b o A' n' k c, A = some ⟨b, o, none⟩ ∧ b < B ∧ w.cell? ⟨b, o + i, none⟩ = some (.slice A' n' k) ∧ n' ≤ k ∧ RO w B A' n' c ∧ Hid (ls[i]? = some c) ∧ c ∈ ls := by
  obtain ⟨b, o, r, x, h1, h2, h3, ⟨A', n', k, rfl, h4, h5⟩, h6, h7⟩ := RG.val h (by decide) hi
  have := h3 0 (by decide)
  rw [Nat.mul_one, Nat.add_zero] at this
  exact ⟨b, o, A', n', k, x, h1, h2, this, h4, h5, h6, h7⟩
theorem RLs.val {ls : List Cl} (h : RLs w B A n ls) {i : Nat} (hi : i < n) : ∃ b o q A' n' k ar, A = some ⟨b, o, none⟩ ∧ b < B ∧ w.cell? ⟨b, o + i * 2, none⟩ = some (.int .i64 q) ∧ w.cell? ⟨b, o + i * 2 + 1, none⟩ = some (.slice A' n' k) ∧ n' ≤ k ∧ RI w B .i64 A' n' ar ∧ Hid (ls[i]? = some ⟨q, ar⟩) ∧ Cl.mk q ar ∈ ls := by
  obtain ⟨b, o, r, x, h1, h2, h3, ⟨A', n', k, rfl, h4, h5⟩, h6, h7⟩ := RG.val h (by decide) hi
  exact ⟨b, o, x.k, A', n', k, x.ar, h1, h2, h3 0 (by decide), h3 1 (by decide), h4, h5, h6, h7⟩
theorem RTs.val {ls : List (List Cl)} (h : RTs w B A n ls) {i : Nat} (hi : i < n) : ∃ b o A' n' k t, A = some ⟨b, o, none⟩ ∧ b < B ∧ w.cell? ⟨b, o + i, none⟩ = some (.slice A' n' k) ∧ n' ≤ k ∧ RLs w B A' n' t ∧ Hid (ls[i]? = some t) ∧ t ∈ ls := by
  obtain ⟨b, o, r, x, h1, h2, h3, ⟨A', n', k, rfl, h4, h5⟩, h6, h7⟩ := RG.val h (by decide) hi
  have := h3 0 (by decide)
  rw [Nat.mul_one, Nat.add_zero] at this
  exact ⟨b, o, A', n', k, x, h1, h2, this, h4, h5, h6, h7⟩
end
end Go.Baro

set_option linter.unusedSimpArgs false
set_option linter.unusedVariables false
namespace Go.Baro
open Go.RowKit

/-- Of the blocks of world a none has turned but those of X. -/
structure Un (X : Nat → Prop) (a w : World) : Prop where
  os : w.os = a.os
  tape : w.tape = a.tape
  output : w.output = a.output
  size : a.heap.size ≤ w.heap.size
  block : ∀ k, k < a.heap.size → ¬ X k → w.heap[k]? = a.heap[k]?
section
variable {X : Nat → Prop} {a w w' : World}
theorem Un.refl (X : Nat → Prop) (a : World) : Un X a a := ⟨rfl, rfl, rfl, Nat.le_refl _, fun _ _ _ => rfl⟩
theorem Un.drew (h : Un X a w) : Un X a w.drew := ⟨h.os, h.tape, h.output, h.size, h.block⟩
theorem Un.drewN (h : Un X a w) (n : Nat) : Un X a (w.drewN n) := ⟨h.os, h.tape, h.output, h.size, h.block⟩
theorem Un.trans (h : Un X a w) (k : Un X w w') : Un X a w' := ⟨k.os.trans h.os, k.tape.trans h.tape, k.output.trans h.output, Nat.le_trans h.size k.size, fun i hi hx => (k.block i (Nat.lt_of_lt_of_le hi h.size) hx).trans (h.block i hi hx)⟩
theorem Un.wider {Y : Nat → Prop} (h : Un X a w) (hy : ∀ k, k < a.heap.size → X k → Y k) : Un Y a w := ⟨h.os, h.tape, h.output, h.size, fun k hk hx => h.block k hk fun h' => hx (hy k hk h')⟩
theorem un_grown {row : Option Nat} (h : Un X a w) (hg : w.grownBy w' row) (hX : ∀ k, row = some k → X k) : Un X a w' :=
  ⟨hg.os.trans h.os, hg.tape.trans h.tape, hg.output.trans h.output, Nat.le_trans h.size hg.size, fun k hk hx => (hg.block k (Nat.lt_of_lt_of_le hk h.size) fun e => hx (hX k e.symm)).trans (h.block k hk hx)⟩
theorem un_set {g : Nat} (h : Un X a w) (hg : w.grownBy w' (some g)) (hX : X g) : Un X a w' := un_grown h hg fun k e => by injection e with e; exact e ▸ hX
theorem Un.alloc (h : Un X a w) (o : Obj) : Un X a (w.alloc o) := un_grown h (World.grownBy_alloc w o none) (fun _ e => by cases e)
theorem un_at {b : Nat} (h : Un X a w) (hX : X b) (i : Nat) (u : Value) : Un X a (w.setCell ⟨b, i, none⟩ u) := un_set h (grown_setCell w ⟨b, i, none⟩ u) hX
theorem un_below (h : Below a.heap.size a w) : Un X a w := ⟨h.os, h.tape, h.output, h.size, fun k hk _ => h.block k hk⟩
/-- Where all of X lies from B on. -/
theorem Un.below {B : Nat} (h : Un X a w) (hB : B ≤ a.heap.size) (hX : ∀ k, k < B → ¬ X k) : Below B a w := ⟨h.os, h.tape, h.output, h.size, fun k hk => h.block k (by omega) (hX k hk)⟩
theorem Box.un {b : Nat} {t : TypeId} {cs : List Value} (h : Box a b t cs) (hu : Un X a w) (hb : ¬ X b) : Box w b t cs := (hu.block b h.lt hb).trans h
theorem own_un {b : Nat} {e : TypeId} {s n : Nat} {v : Value} {xs : List Value} (h : a.ownsRow b e s v n xs) (hu : Un X a w) (hX : ∀ k, v.ownBlock = some k → ¬ X k) : w.ownsRow b e s v n xs := by
  obtain ⟨h1, h2⟩ := h
  refine ⟨h1, ?_⟩
  rcases h2 with h2 | ⟨g, cap, cur, hv, hg, hh, hr⟩
  · exact Or.inl h2
  · have hlt : g < a.heap.size := by
      rcases Nat.lt_or_ge g a.heap.size with h | h
      · exact h
      · rw [Array.getElem?_eq_none h] at hh; cases hh
    exact Or.inr ⟨g, cap, cur, hv, hg, by rw [hu.block g hlt (hX g (by rw [hv]; rfl))]; exact hh, hr⟩
theorem Rd.un {B s n : Nat} {A : Option Addr} {cs : List Value} (h : Rd a B s A n cs) (hu : Un X a w) (hB : B ≤ a.heap.size) (hX : 0 < n → ∀ b o, A = some ⟨b, o, none⟩ → ¬ X b) : Rd w B s A n cs :=
  ⟨h.len, fun hn => by
    obtain ⟨b, o, hA, hb, hc⟩ := h.at_ hn
    exact ⟨b, o, hA, hb, fun j hj => (World.cell?_of_block (w := a) (a := ⟨b, o + j, none⟩) (hu.block b (by omega) (hX hn b o hA))).trans (hc j hj)⟩⟩
end
/-- The blocks that a worker's instruction may turn: its own, its registers', what it has told, the shared words. -/
def touch (b mb : Nat) (tv wv : Value) : Nat → Prop := fun k => k = b ∨ k = mb ∨ some k = tv.ownBlock ∨ some k = wv.ownBlock
theorem touch_b {b mb : Nat} {tv wv : Value} : touch b mb tv wv b := Or.inl rfl
theorem touch_w {b mb g o n c : Nat} {tv : Value} : touch b mb tv (.slice (some ⟨g, o, none⟩) n c) g := Or.inr (Or.inr (Or.inr rfl))
end Go.Baro
