/- Where the row lies that an append leaves. No statement of the seat is proved here; no condition. -/
import Derived.Test.YtjihopbapnfppaaDoorLib
set_option linter.unusedSimpArgs false
set_option linter.unusedVariables false
namespace Go.Baro
open Go.RowKit
section
variable {P : Program} {t e : TypeId} {z : Value} {s by' : Nat} {ops : Array Oper} {rest : List Oper} {o : Oper} {a : Act} {Q : Exit → Act → World → Prop}

/-- It is the same block as before, or a new one. -/
theorem append_block (E : Elt P t e z s by') (ty : TypeId) {w w' : World} {base n m c : Nat} {v v' : Value} {xs news : List Value} {ad : Addr} (hown : w.ownsRow base e s v n xs) (hl : news.length = m * s)
    (hnews : ∀ j u, news[j]? = some u → w.cell? (ad.add j) = some u) (h1 : ∀ u ∈ news, u.oneCell' = true) (hn : (n + m) * by' ≤ 140737488355328) (hn' : n + m ≤ 140737488355328)
    (hr : (Builtin.append_ #[t, t] ty #[v, .slice (some ad) m c]).run P w = .ok v' w') : v'.ownBlock = v.ownBlock ∨ v'.ownBlock = some w.heap.size := by
  obtain ⟨hu, ⟨i, hi, h5, h6, h7⟩, h3, h4⟩ := E
  subst h6 h7
  rcases hown.2 with ⟨rfl, rfl⟩ | ⟨g, cap, cur, rfl, hbg, hg, hnc, hcm, hcs, htake⟩
  · have hx : xs = [] := List.eq_nil_of_length_eq_zero (by simpa using hown.1)
    subst hx
    by_cases hm : m = 0
    · subst hm
      have hn : news = [] := List.eq_nil_of_length_eq_zero (by simpa using hl)
      subst hn
      simp [Builtin.append_, run_underlying hu, sizeOf, typeInfo, hi, Builtin.lenOf, Builtin.firstCells, loadCells, loadCellsFrom] at hr
      exact .inl (by rw [← hr.1])
    · rw [_root_.Go.run_append_nil (P := P) w t ty e i z hu hi h5 ad m c news hl hnews (by omega) (by omega) (by simp only [Nat.zero_add] at hn; omega)] at hr
      injection hr with hr _
      exact .inr (by rw [← hr]; rfl)
  · by_cases hroom : n + m ≤ cap
    · have hfit : n * i.size + news.length ≤ cur.size := by rw [hl, hcs, ← Nat.add_mul]; exact Nat.mul_le_mul_right _ hroom
      rw [run_append_room (P := P) w t ty e i hu hi g n cap cur hg ad m c news hl hnews h1 hroom hfit] at hr
      injection hr with hr _
      exact .inl (by rw [← hr]; rfl)
    · have holds : ∀ j u, xs[j]? = some u → w.cell? ((⟨g, 0, none⟩ : Addr).add j) = some u := hown.cells (g := g) rfl
      rw [run_append_grow (P := P) w t ty e i z hu hi h5 ⟨g, 0, none⟩ n cap xs hown.1 holds ad m c news hl hnews (by omega) (by omega) (growslice_fits (by omega) hn)] at hr
      injection hr with hr _
      exact .inr (by rw [← hr]; rfl)

/-- append(v, x...) from whatever slice x, and where its row lies. -/
theorem app_srcB (E : Elt P t e z s by') (w : World) (hgd : o.guard = none) (l x : Operand) (ho : o.op = .call { callee := .builtin .append, args := #[l, x], argTypes := #[t, t] })
    (base : Nat) (v : Value) (n : Nat) (xs : List Value) (hs : a.eval l = v) (hown : w.ownsRow base e s v n xs) (A : Option Addr) (m c : Nat) (cs : List Value) (hx : a.eval x = .slice A m c) (B : Nat) (hr : Rd w B s A m cs)
    (h1 : ∀ u ∈ cs, u.oneCell' = true) (hn : (n + m) * by' ≤ 140737488355328) (hn' : n + m ≤ 140737488355328) (hb : base ≤ w.heap.size)
    (h : ∀ v' w', w'.ownsRow base e s v' (n + m) (xs ++ cs) → w.grownBy w' v.ownBlock → (∀ w0, Below base w0 w → Below base w0 w') → base ≤ w'.heap.size → (v'.ownBlock = v.ownBlock ∨ v'.ownBlock = some w.heap.size) → wpList P ops Q rest (a.put o.dst v') w') :
    wpList P ops Q (o :: rest) a w := by
  cases A with
  | none =>
    have hm : m = 0 := by
      rcases Nat.eq_zero_or_pos m with h0 | h0
      · exact h0
      · obtain ⟨b, q, hA, _⟩ := hr.at_ h0; cases hA
    subst hm
    have hc : cs = [] := List.eq_nil_of_length_eq_zero (by simpa using hr.len)
    subst hc
    refine wpList_plain hgd fun K hK => ?_
    unfold Oper.wp
    simp [execOp, ho, resolve, invoke, builtin, hs, hx, run_append_nil E o.type hown c, Result.andThen]
    exact hK _ _ (h v w (by simpa using hown) (World.grownBy.refl w _) (fun _ hb0 => hb0) hb (.inl rfl))
  | some ad =>
    have hnews : ∀ j u, cs[j]? = some u → w.cell? (ad.add j) = some u := by
      intro j u hj
      have hjl : j < m * s := by rw [← hr.len]; exact (List.getElem?_eq_some_iff.1 hj).1
      obtain ⟨b, q, hA, _, hc⟩ := hr.at_ (by rcases Nat.eq_zero_or_pos m with h0 | h0; simp [h0] at hjl; exact h0)
      injection hA with hA
      subst hA
      rw [Addr.add_lit, hc j hjl, hj]
    have E' := E
    obtain ⟨hu, ⟨i, hi, h5, h6, h7⟩, h3, h4⟩ := E
    obtain ⟨v', w', hrun, ho2, hg2, _⟩ := run_append_own (P := P) w base t o.type e i z s by' hu hi h5 h6 h7 h3 h4 v n xs hown ad m c cs hr.len hnews h1 (by unfold maxLen; omega) hn hb
    have hblk := append_block E' o.type hown hr.len hnews h1 hn hn' hrun
    refine wpList_plain hgd fun K hK => ?_
    unfold Oper.wp
    simp [execOp, ho, resolve, invoke, builtin, hs, hx, hrun, Result.andThen]
    refine hK _ _ (h v' w' ho2 hg2 (fun w0 hb0 => hb0.grown hg2 hb (fun k hk => (hown.lt k hk).1)) ?_ hblk)
    have := hg2.size; omega

/-- Two rows of the call's own in two blocks: what is done to the one leaves the other. -/
theorem own_apart {w w' : World} {b1 : Nat} {e1 : TypeId} {s1 n1 : Nat} {v1 v2 : Value} {xs1 : List Value} (h1 : w.ownsRow b1 e1 s1 v1 n1 xs1) (hne : v1.ownBlock = none ∨ v1.ownBlock ≠ v2.ownBlock)
    (hg : w.grownBy w' v2.ownBlock) : w'.ownsRow b1 e1 s1 v1 n1 xs1 := h1.kept hg hne
/-- They stay in two blocks. -/
theorem apart_next {w : World} {b1 : Nat} {e1 : TypeId} {s1 n1 : Nat} {v1 v2 v2' : Value} {xs1 : List Value} (h1 : w.ownsRow b1 e1 s1 v1 n1 xs1) (hne : v1.ownBlock = none ∨ v1.ownBlock ≠ v2.ownBlock)
    (hb : v2'.ownBlock = v2.ownBlock ∨ v2'.ownBlock = some w.heap.size) : v1.ownBlock = none ∨ v1.ownBlock ≠ v2'.ownBlock := by
  rcases hb with hb | hb
  · rw [hb]; exact hne
  · rw [hb]
    refine .inr fun he => ?_
    have := (h1.lt _ he).2
    omega
end
end Go.Baro
