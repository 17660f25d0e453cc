/- Of this claim's own texts these, one behind the other: LinSpec, RefLin1, RefLin2, RefLin3, KeepLin1. No statement of the seat is proved here; no condition but those that stand at the theorems. -/
import Derived.Test.YtnchgdjdfhfedaaDoorPartAJ
import Derived.Test.YtnchgdjdfhfedaaDoorPartAD
import Derived.Test.YtnchgdjdfhfedaaDoorPartAH
import Derived.Test.YtnchgdjdfhfedaaDoorPartAM
set_option linter.unusedSimpArgs false
set_option linter.unusedVariables false
namespace Go.Baro
/-- A valid operation of an object of kind k. -/
def okA (k : Int) (a : Ac) : Prop := (0 ≤ a.b ∧ a.b ≤ 1048576) ∧ a.e ≤ 1048576 ∧ (a.b ≤ a.e ∨ a.e = -1) ∧ (a.add = 0 ∨ (k = 2 ∧ a.put = true)) ∧ (k < 3 ∨ (-1 ≤ a.v ∧ (a.v = -1 → a.put = false)))
/-- A valid history. -/
def okL (k : Int) (l : List Ac) : Prop := (1 ≤ k ∧ k ≤ 4) ∧ l.length ≤ 9 ∧ ∀ a ∈ l, okA k a
/-- What an object has at first. -/
def has0 (k first : Int) : List Int := if k < 3 then [first] else []
/-- What lin.Check answers. -/
def LcR (k first : Int) (l : List Ac) (r : Bool) (E : Int) : Prop := (¬ okL k l ∧ r = false ∧ E = 4) ∨ (okL k l ∧ (r = true ↔ Lin k (has0 k first) l) ∧ E = 0)
theorem lcR_some (k first : Int) (l : List Ac) : ∃ r E, LcR k first l r E := by
  by_cases h : okL k l
  · exact ⟨@decide (Lin k (has0 k first) l) (Classical.propDecidable _), 0, .inr ⟨h, by simp, rfl⟩⟩
  · exact ⟨false, 4, .inl ⟨h, rfl, rfl⟩⟩
end Go.Baro
namespace Go.Proofs.YtnchgdjdfhfedaaDoor
open Go.RowKit Go.Ord Go.Baro
/-- lin.May, of a history in memory. -/
def LinMaySpec : Prop := ∀ (w : World) (A : Option Addr) (n c : Nat) (l : List Ac) (k : Int) (r : Bool) (h : RA w w.heap.size A n l) (hn : n ≤ 9223372036854775807) (hlc : n ≤ c) (hi : ∀ a ∈ l, inA a) (hr : r = true ↔ okL k l),
    Calls Tryd.prog 42 #[.int .i64 k, .slice A n c] w fun e w' => e = .returned (.bool r) ∧ Below w.heap.size w w'
/-- lin.Check, of a history in memory. -/
def LinCheckSpec : Prop := ∀ (w : World) (A : Option Addr) (n c : Nat) (l : List Ac) (k first : Int) (r : Bool) (E : Int) (h : RA w w.heap.size A n l) (hn : n ≤ 9223372036854775807) (hlc : n ≤ c) (hi : ∀ a ∈ l, inA a) (hf : inW first) (hr : LcR k first l r E),
    Calls Tryd.prog 23 #[.int .i64 k, .int .i64 first, .slice A n c] w fun e w' => e = .returned (.tuple #[.bool r, .int .i64 E]) ∧ Below w.heap.size w w'
end Go.Proofs.YtnchgdjdfhfedaaDoor

set_option linter.unusedSimpArgs false
set_option linter.unusedVariables false
namespace Go.Proofs.YtnchgdjdfhfedaaDoor
open Go.RowKit Go.Ord Go.Baro

end Go.Proofs.YtnchgdjdfhfedaaDoor

set_option linter.unusedSimpArgs false
set_option linter.unusedVariables false
namespace Go.Proofs.YtnchgdjdfhfedaaDoor
open Go.RowKit Go.Ord Go.Baro

theorem eltIntL : Elt Tryd.prog 22 3 (.int .i64 0) 1 8 := Elt.mk' Tryd.underlying22 (by kernel_rfl) rfl (by decide)
theorem RI_litL (w : World) (e : TypeId) (k : IntKind) (xs : List Int) (n g : Nat) (hg : g = w.heap.size) (hn : xs.length = n) :
    RI (w.alloc (.cells (xs.map (Value.int k)).toArray e)) (g + 1) k (some ⟨g, 0, none⟩) n xs := by
  subst hg
  have h := Rd.lit w e (cs := xs.map (Value.int k)) (s := 1) (n := n) (by simp [hn])
  rw [show (w.alloc (.cells (xs.map (Value.int k)).toArray e)).heap.size = w.heap.size + 1 by simp] at h
  exact h
theorem RI.winL {w : World} {B n : Nat} {k : IntKind} {b o : Nat} {xs : List Int} (h : RI w B k (some ⟨b, o, none⟩) n xs) {i m : Nat} (hi : i + m ≤ n) : RI w B k (some ⟨b, o + i, none⟩) m ((xs.drop i).take m) := by
  have h1 : RI w B k (some ⟨b, o + i, none⟩) (n - i) (xs.drop i) := by
    have := Rd.drop h (k := i) (by omega)
    rw [Nat.mul_one, ← List.map_drop] at this
    exact this
  exact h1.take (by omega)
/-- What the operations of the put have left, of a list. -/
structure GtV (L : Nat → Bool) (bx B hn hc : Nat) (hA : Option Addr) (has : List Int) (av : Int) (w0 : World) (u6 u36 u37 u38 u39 u40 u41 u42 u43 : Value) (w : World) : Prop where
  bel : Below B w0 w
  f0 : L 0 = true → u36 = .pointer (some ⟨bx, 3, none⟩)
  f1 : L 1 = true → u37 = .int .i64 av
  f2 : L 2 = true → u38 = .slice hA hn hc
  f3 : L 3 = true → ∃ A c, u39 = .slice A hn c ∧ (L 7 = false → w.ownsRow B 3 1 u39 hn (has.map (Value.int .i64)))
  f4 : L 4 = true → u40 = .pointer (some ⟨bx, 3, none⟩)
  f5 : L 5 = true → u41 = .int .i64 av
  f6 : L 6 = true → ∃ g, u42 = .slice (some ⟨g, 0, none⟩) 1 1 ∧ (L 7 = false → RI w w.heap.size .i64 (some ⟨g, 0, none⟩) 1 [av])
  f7 : L 7 = true → ∃ A c, u43 = .slice A (hn + 1) c ∧ w.ownsRow B 3 1 u43 (hn + 1) ((has ++ [av]).map (Value.int .i64))
  f8 : L 8 = true → u6 = .int .i64 av
/-- The frame of the put. -/
def Gt (k : Int) (hA : Option Addr) (hn hc : Nat) (ab ae av aa : Int) (bx B : Nat) (has : List Int) (w0 : World) (L : Nat → Bool) (a : Act) (w : World) : Prop :=
  ∃ u6 u36 u37 u38 u39 u40 u41 u42 u43, a = ⟨#[.int .i64 k, .slice hA hn hc, .agg #[.int .i64 ab, .int .i64 ae, .bool true, .int .i64 av, .int .i64 aa], undef, undef, .pointer (some ⟨bx, 0, none⟩), u6, .slice none 0 0, .int .i64 k, .bool false, .bool false, undef, undef, undef, undef, undef, undef, undef, undef, undef, undef, undef, .bool false, .bool false, undef, undef, undef, undef, undef, undef, undef, undef, undef, undef, .pointer (some ⟨bx, 2, none⟩), .bool true, u36, u37, u38, u39, u40, u41, u42, u43, undef, undef, undef, undef, undef, undef, undef, undef, undef, undef, undef, undef, undef, undef, undef, undef, undef, undef, undef, undef, undef, undef], []⟩ ∧ GtV L bx B hn hc hA has av w0 u6 u36 u37 u38 u39 u40 u41 u42 u43 w
theorem mem_ofL {l : List Nat} {a : Nat} (h : l.contains a = true) : a ∈ l := by simpa using h
/-- What it leaves: what is told, and a slice of what it has then. -/
def TlPost (v : Int) (nx : List Int) (w : World) (e : Ending) (w' : World) : Prop := ∃ A n c, e = .returned (.tuple #[.int .i64 v, .slice A n c]) ∧ RI w' w'.heap.size .i64 A n nx ∧ n ≤ c ∧ Below w.heap.size w w'

end Go.Proofs.YtnchgdjdfhfedaaDoor

set_option linter.unusedSimpArgs false
set_option linter.unusedVariables false
namespace Go.Baro
open Go.RowKit
theorem RA.win {w : World} {B n b o : Nat} {ls : List Ac} (h : RA w B (some ⟨b, o, none⟩) n ls) {i m : Nat} (hi : i + m ≤ n) : RA w B (some ⟨b, o + i * 5, none⟩) m ((ls.drop i).take m) := by
  have hl := h.len
  refine ⟨by rw [flatMap_len acV_len]; simp; omega, fun h0 => ?_⟩
  obtain ⟨b', o', hA, hb, hc⟩ := Rd.at_ h (by omega)
  injection hA with hA
  injection hA with hA1 hA2
  subst hA1 hA2
  refine ⟨b, o + i * 5, rfl, hb, fun j hj => ?_⟩
  have hq : j % 5 < 5 := Nat.mod_lt _ (by omega)
  have hj5 : j = j / 5 * 5 + j % 5 := by omega
  have hp : j / 5 < m := by omega
  have hx : i + j / 5 < ls.length := by omega
  have e1 : ((ls.drop i).take m)[j / 5]? = some ls[i + j / 5] := by
    rw [List.getElem?_take_of_lt hp, List.getElem?_drop, List.getElem?_eq_getElem hx]
  rw [show o + i * 5 + j = o + ((i + j / 5) * 5 + j % 5) by omega, hc _ (by omega), flatMap_at acV_len ls _ _ _ (List.getElem?_eq_getElem hx) hq]
  conv => rhs; rw [hj5]
  rw [flatMap_at acV_len _ _ _ _ e1 hq]
/-- What comes first. -/
def cand (k : Int) (has : List Int) (left : List Ac) (i : Nat) : Prop := ∃ a, left[i]? = some a ∧ (∀ b ∈ left, b.e ≠ -1 → a.b ≤ b.e) ∧ (a.e ≠ -1 → (tel k has a).1 = a.v) ∧ Lin k (tel k has a).2 (left.eraseIdx i)
theorem lin_cand {k : Int} {has : List Int} {left : List Ac} : Lin k has left ↔ (∀ a ∈ left, a.e = -1) ∨ ∃ i, cand k has left i := lin_iff
theorem cand_lt {k : Int} {has : List Int} {left : List Ac} {i : Nat} (h : cand k has left i) : i < left.length := by
  obtain ⟨a, h, _⟩ := h
  exact (List.getElem?_eq_some_iff.1 h).1
theorem tel_len (k : Int) (has : List Int) (a : Ac) : (tel k has a).2.length ≤ has.length + 1 ∧ (k < 3 → 1 ≤ k → has.length = 1 → (tel k has a).2.length = 1) := by
  unfold tel
  by_cases h1 : k = 1
  · rw [if_pos h1]
    split
    · exact ⟨by simp, fun _ _ _ => rfl⟩
    · exact ⟨by simp, fun _ _ h => h⟩
  rw [if_neg h1]
  by_cases h2 : k = 2
  · rw [if_pos h2]; exact ⟨by simp, fun _ _ _ => rfl⟩
  rw [if_neg h2]
  refine ⟨?_, fun h3 h4 => by omega⟩
  split
  · simp
  · split
    · simp
    · split
      · simp; omega
      · simp; omega
end Go.Baro
namespace Go.Proofs.YtnchgdjdfhfedaaDoor
open Go.RowKit Go.Ord Go.Baro

theorem eltAct : Elt Tryd.prog 39 46 (.agg #[.int .i64 0, .int .i64 0, .bool false, .int .i64 0, .int .i64 0]) 5 40 := Elt.mk' Tryd.underlying39 (by kernel_rfl) rfl (by decide)
theorem acV_one (l : List Ac) : ∀ u ∈ l.flatMap acV, u.oneCell' = true := by
  intro u hu
  simp only [List.mem_flatMap, acV, List.mem_cons, List.not_mem_nil, or_false] at hu
  obtain ⟨a, _, h⟩ := hu
  rcases h with rfl | rfl | rfl | rfl | rfl <;> rfl

theorem ra_none {w : World} {B n : Nat} {A A' : Option Addr} {ls : List Ac} (h : RA w B A n ls) (h0 : n = 0) : Rd w B 5 A' n (ls.flatMap acV) := ⟨Rd.len h, fun h => absurd h (by omega)⟩

end Go.Proofs.YtnchgdjdfhfedaaDoor

set_option linter.unusedSimpArgs false
set_option linter.unusedVariables false
namespace Go.Proofs.YtnchgdjdfhfedaaDoor
open Go.RowKit Go.Ord Go.Baro

/-- What it leaves: what is told, what is added, a slice of what it has then. -/
def TkPost (hA : Option Addr) (hn : Nat) (v a : Int) (nx : List Int) (w : World) (e : Ending) (w' : World) : Prop := ∃ A n c, e = .returned (.tuple #[.int .i64 v, .int .i64 a, .slice A n c]) ∧ RI w' w'.heap.size .i64 A n nx ∧ n ≤ c ∧ Below w.heap.size w w' ∧ ∀ b o, A = some ⟨b, o, none⟩ → (∃ o', hA = some ⟨b, o', none⟩ ∧ n ≤ hn) ∨ w.heap.size ≤ b

set_option maxRecDepth 100000 in
set_option maxHeartbeats 2000000 in
theorem keep_tell (w : World) (k : Int) (hA : Option Addr) (hn hc : Nat) (has : List Int) (put : Bool) (v : Int) (h : RI w w.heap.size .i64 hA hn has) (hk : 1 ≤ k ∧ k ≤ 4) (h1 : k < 3 → hn = 1) (hb : hn ≤ 100) (hnc : hn ≤ hc) :
    Calls Tryd.prog 38 #[.int .i64 k, .slice hA hn hc, .bool put, .int .i64 v] w (TkPost hA hn (tl k has put v).1 (tl k has put v).2.1 (tl k has put v).2.2 w) := by
  have HL := Lib.hid h.len
  have hri0 := h
  have h0 := Below.refl w.heap.size w
  rcases (by omega : k = 1 ∨ k = 2 ∨ k = 3 ∨ k = 4) with rfl | rfl | hk34
  · have hn1 := h1 (by omega)
    subst hn1
    cases put with
    | true =>
      go_enter Tryd.func38, Tryd.ntmps38
      go_wp2
      go_ret3
      refine ⟨_, _, _, rfl, ?_, Nat.le_refl _, h0.alloc (Nat.le_refl _) _, fun b o hb => .inr (by injection hb with hb; injection hb with hb; omega)⟩
      exact RI.more (RI_litL w 3 .i64 [v] 1 w.heap.size rfl rfl) (by simp)
    | false =>
      obtain ⟨b, o, x, rfl, hbB, c0, HX, _⟩ := h.val (i := 0) (by omega)
      rw [Nat.add_zero] at c0
      have hh : has = [x] := by
        match has, HL.out, HX.out with
        | [y], _, hx => simp at hx; rw [hx]
      subst hh
      clear HX
      go_enter Tryd.func38, Tryd.ntmps38
      go_wp2
      go_ret3
      exact ⟨_, _, _, rfl, h, hnc, h0, fun b o hb => .inl ⟨o, hb, Nat.le_refl _⟩⟩
  · have hn1 := h1 (by omega)
    subst hn1
    obtain ⟨b, o, x, rfl, hbB, c0, HX, _⟩ := h.val (i := 0) (by omega)
    rw [Nat.add_zero] at c0
    have hh : has = [x] := by
      match has, HL.out, HX.out with
      | [y], _, hx => simp at hx; rw [hx]
    subst hh
    clear HX
    cases put with
    | true =>
      go_enter Tryd.func38, Tryd.ntmps38
      go_wp2
      refine region_first [0, 1, 2, 3, 4, 5, 6, 7, 8, 10, 11] (.cons 9 (seq [12] .nil)) (by kernel_rfl) (by kernel_rfl) ?_
      simp only [pick, List.map_cons, List.map_nil, List.getD_cons_zero, List.getD_cons_succ]
      go_wp2
      refine ord_call (by kernel_rfl) ?_
      simp only [pick, List.map_cons, List.map_nil, List.getD_cons_zero, List.getD_cons_succ]
      go_wp2
      refine ⟨ext_below ((Below.refl _ _).alloc (Nat.le_refl _) _), ?_⟩
      refine ord_more [12] .nil (by kernel_rfl) ?_
      simp only [pick, List.map_cons, List.map_nil, List.getD_cons_zero, List.getD_cons_succ]
      go_wp2
      refine ord_done ?_
      go_wp2
      go_ret3
      refine ⟨_, _, _, rfl, ?_, Nat.le_refl _, h0.drew.alloc (Nat.le_refl _) _, fun b o hb => .inr (by injection hb with hb; injection hb with hb; omega)⟩
      exact RI.more (RI_litL w.drew 3 .i64 [wrap64 (x + v)] 1 w.heap.size rfl rfl) (by simp)
    | false =>
      go_enter Tryd.func38, Tryd.ntmps38
      go_wp2
      go_ret3
      exact ⟨_, _, _, rfl, h, hnc, h0, fun b o hb => .inl ⟨o, hb, Nat.le_refl _⟩⟩
  · have e1 : (k == 1) = false := by simp; omega
    have e2 : (k == 2) = false := by simp; omega
    have et : tl k has put v = if put = true then (v, 0, has ++ [v]) else if has = [] then (-1, 0, has) else if k = 3 then (has.headD 0, 0, has.tail) else (has.getLastD 0, 0, has.dropLast) := by
      unfold tl; rw [if_neg (by omega), if_neg (by omega)]
    rw [et]
    clear et
    cases put with
    | true =>
      rw [if_pos rfl]
      go_enter Tryd.func38, Tryd.ntmps38
      go_wp2_with (first
        | (at_builtin; refine app_src eltIntL w rfl (.const (.slice none 0 0)) (.tmp 41) rfl w.heap.size (.slice none 0 0) 0 [] rfl (World.ownsRow_nil _ _ _ _) _ _ _ (has.map (Value.int .i64)) rfl _ h (one_ints _ _) (by omega) (by omega) (Nat.le_refl _) ?_; intro u3 w3 hu3 hgr3 hbel3 hsz3; rw [List.nil_append, Nat.zero_add] at hu3; obtain ⟨A3, c3, rfl, _⟩ := own_form hu3; have hb3 := hbel3 _ (Below.refl _ _))
        | (at_builtin; refine app_lit eltIntL w3 rfl (.tmp 42) (.tmp 44) rfl w.heap.size (.slice A3 hn c3) hn (has.map (Value.int .i64)) rfl hu3 1 [.int .i64 v] _ rfl rfl rfl (by simp [Value.oneCell']) (by omega) (by omega) hsz3 ?_; intro u4 w4 hu4 hgr4 hbel4 hsz4; obtain ⟨A4, c4, rfl, hlc4⟩ := own_form hu4))
      go_ret3
      refine ⟨_, _, _, rfl, ?_, hlc4, hbel4 _ hb3, fun b o hb => .inr (hu4.lt b (by rw [hb]; rfl)).1⟩
      have := Rd.of_own hu4
      unfold RI
      rw [List.map_append]
      exact this
    | false =>
      rw [if_neg (by simp)]
      by_cases hz : hn = 0
      · subst hz
        have hh : has = [] := List.eq_nil_of_length_eq_zero HL.out
        subst hh
        rw [if_pos rfl]
        go_enter Tryd.func38, Tryd.ntmps38
        go_wp2
        go_ret3
        exact ⟨_, _, _, rfl, h, hnc, h0, fun b o hb => .inl ⟨o, hb, Nat.le_refl _⟩⟩
      · have hne : has ≠ [] := fun e => by rw [e] at HL; exact hz HL.out.symm
        have hz2 : ((hn : Int) == 0) = false := by simp; omega
        rw [if_neg hne]
        by_cases hk3 : k = 3
        · subst hk3
          rw [if_pos rfl]
          obtain ⟨b, o, x, rfl, hbB, c0, HX, _⟩ := h.val (i := 0) (by omega)
          rw [Nat.add_zero] at c0
          have hv2 : has.headD 0 = x ∧ has.tail = (has.drop 1).take (hn - 1) := by
            have hx := HX.out
            cases has with
            | nil => exact absurd rfl hne
            | cons y t =>
              simp at hx
              have hl := HL.out
              simp at hl
              exact ⟨by simp [hx], by rw [List.drop_one, List.tail_cons, List.take_of_length_le (by omega)]⟩
          dsimp only
          rw [hv2.1]
          obtain ⟨nx, hnx⟩ : ∃ nx, nx = has.tail := ⟨_, rfl⟩
          rw [← hnx]
          have HNX := Lib.hid (hnx.trans hv2.2)
          clear HX hv2 hne hnx
          go_enter Tryd.func38, Tryd.ntmps38
          go_wp2
          refine region_two [0, 1, 2, 3, 4, 5, 6, 7] [] (by kernel_rfl) (by kernel_rfl) ?_
          simp only [pick, List.map_cons, List.map_nil, List.getD_cons_zero, List.getD_cons_succ]
          go_wp2
          all_goals (
            go_ret3
            refine ⟨_, _, _, rfl, ?_, ?_, h0.drew, fun b' o' hb => .inl ⟨o, by injection hb with hb; injection hb with hb; rw [hb], by omega⟩⟩
            rotate_left
            · omega
            rw [HNX.out]
            first
              | (have h9 : hn - 1 = 0 := by omega
                 rw [h9]; exact ⟨by simp, fun h => absurd h (by omega)⟩)
              | exact Rd.more (Rd.heap (RI.winL hri0 (i := 1) (m := hn - 1) (by omega)) rfl) (Nat.le_refl _))
        · have hk4 : k = 4 := by omega
          subst hk4
          rw [if_neg (by decide)]
          obtain ⟨b, o, x, rfl, hbB, c0, HX, _⟩ := h.val (i := hn - 1) (by omega)
          have hv2 : has.getLastD 0 = x ∧ has.dropLast = (has.drop 0).take (hn - 1) := by
            have hx := HX.out
            refine ⟨?_, ?_⟩
            · rw [List.getLastD_eq_getLast?, List.getLast?_eq_getElem?, HL.out, hx]; rfl
            · rw [List.drop_zero, List.dropLast_eq_take, HL.out]
          dsimp only
          rw [hv2.1, hv2.2]
          obtain ⟨q, hq⟩ : ∃ q, hn = q + 1 := ⟨hn - 1, by omega⟩
          subst hq
          rw [Nat.add_sub_cancel] at c0 ⊢
          clear HX hv2 hne
          go_enter Tryd.func38, Tryd.ntmps38
          go_wp2
          refine region_two [0, 1, 2, 3, 4, 5, 6, 7, 8, 9, 10, 11, 12, 13] [] (by kernel_rfl) (by kernel_rfl) ?_
          simp only [pick, List.map_cons, List.map_nil, List.getD_cons_zero, List.getD_cons_succ]
          go_wp2
          go_ret3
          refine ⟨_, _, _, rfl, ?_, by omega, h0.drew, fun b' o' hb => .inl ⟨o, by injection hb with hb; injection hb with hb; rw [hb], by omega⟩⟩
          exact Rd.more (Rd.heap (RI.winL h (i := 0) (m := q) (by omega)) rfl) (Nat.le_refl _)
end Go.Proofs.YtnchgdjdfhfedaaDoor
