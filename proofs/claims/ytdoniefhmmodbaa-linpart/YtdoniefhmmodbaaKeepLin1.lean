/- What the object of the histories that are drawn tells. No statement of the seat is proved here; no condition. -/
import Derived.Test.YtdoniefhmmodbaaRefLin4
import Derived.Test.YtdoniefhmmodbaaKeepPicked
set_option linter.unusedSimpArgs false
set_option linter.unusedVariables false
namespace Go.Proofs.Ytdoniefhmmodbaa
open Go.RowKit Go.Ord Go.Baro

/-- What it leaves: what is told, what is added, a slice of what it has then. -/
def TkPost (hA : Option Addr) (hn : Nat) (v a : Int) (nx : List Int) (w : World) (e : Ending) (w' : World) : Prop := ∃ A n c, e = .returned (.tuple #[.int .i64 v, .int .i64 a, .slice A n c]) ∧ RI w' w'.heap.size .i64 A n nx ∧ n ≤ c ∧ Below w.heap.size w w' ∧ ∀ b o, A = some ⟨b, o, none⟩ → (∃ o', hA = some ⟨b, o', none⟩ ∧ n ≤ hn) ∨ w.heap.size ≤ b

set_option maxRecDepth 100000 in
set_option maxHeartbeats 2000000 in
theorem keep_tell (w : World) (k : Int) (hA : Option Addr) (hn hc : Nat) (has : List Int) (put : Bool) (v : Int) (h : RI w w.heap.size .i64 hA hn has) (hk : 1 ≤ k ∧ k ≤ 4) (h1 : k < 3 → hn = 1) (hb : hn ≤ 100) (hnc : hn ≤ hc) :
    Calls Try.prog 24 #[.int .i64 k, .slice hA hn hc, .bool put, .int .i64 v] w (TkPost hA hn (tl k has put v).1 (tl k has put v).2.1 (tl k has put v).2.2 w) := by
  have HL := Lib.hid h.len
  have hri0 := h
  have h0 := Below.refl w.heap.size w
  rcases (by omega : k = 1 ∨ k = 2 ∨ k = 3 ∨ k = 4) with rfl | rfl | hk34
  · have hn1 := h1 (by omega)
    subst hn1
    cases put with
    | true =>
      go_enter Try.func24, Try.ntmps24
      go_wp2
      go_ret3
      refine ⟨_, _, _, rfl, ?_, Nat.le_refl _, h0.alloc (Nat.le_refl _) _, fun b o hb => .inr (by injection hb with hb; injection hb with hb; omega)⟩
      exact RI.more (RI_litL w 3 .i64 [v] 1 w.heap.size rfl rfl) (by simp)
    | false =>
      obtain ⟨b, o, x, rfl, hbB, c0, HX, _⟩ := h.val (i := 0) (by omega)
      rw [Nat.add_zero] at c0
      have hh : has = [x] := by
        match has, HL.out, HX.out with
        | [y], _, hx => simp at hx; rw [hx]
      subst hh
      clear HX
      go_enter Try.func24, Try.ntmps24
      go_wp2
      go_ret3
      exact ⟨_, _, _, rfl, h, hnc, h0, fun b o hb => .inl ⟨o, hb, Nat.le_refl _⟩⟩
  · have hn1 := h1 (by omega)
    subst hn1
    obtain ⟨b, o, x, rfl, hbB, c0, HX, _⟩ := h.val (i := 0) (by omega)
    rw [Nat.add_zero] at c0
    have hh : has = [x] := by
      match has, HL.out, HX.out with
      | [y], _, hx => simp at hx; rw [hx]
    subst hh
    clear HX
    cases put with
    | true =>
      go_enter Try.func24, Try.ntmps24
      go_wp2
      refine region_first [0, 1, 2, 3, 4, 5, 6, 7, 8, 10, 11] (.cons 9 (seq [12] .nil)) (by kernel_rfl) (by kernel_rfl) ?_
      simp only [pick, List.map_cons, List.map_nil, List.getD_cons_zero, List.getD_cons_succ]
      go_wp2
      refine ord_call (by kernel_rfl) ?_
      simp only [pick, List.map_cons, List.map_nil, List.getD_cons_zero, List.getD_cons_succ]
      go_wp2
      refine ⟨ext_below ((Below.refl _ _).alloc (Nat.le_refl _) _), ?_⟩
      refine ord_more [12] .nil (by kernel_rfl) ?_
      simp only [pick, List.map_cons, List.map_nil, List.getD_cons_zero, List.getD_cons_succ]
      go_wp2
      refine ord_done ?_
      go_wp2
      go_ret3
      refine ⟨_, _, _, rfl, ?_, Nat.le_refl _, h0.drew.alloc (Nat.le_refl _) _, fun b o hb => .inr (by injection hb with hb; injection hb with hb; omega)⟩
      exact RI.more (RI_litL w.drew 3 .i64 [wrap64 (x + v)] 1 w.heap.size rfl rfl) (by simp)
    | false =>
      go_enter Try.func24, Try.ntmps24
      go_wp2
      go_ret3
      exact ⟨_, _, _, rfl, h, hnc, h0, fun b o hb => .inl ⟨o, hb, Nat.le_refl _⟩⟩
  · have e1 : (k == 1) = false := by simp; omega
    have e2 : (k == 2) = false := by simp; omega
    have et : tl k has put v = if put = true then (v, 0, has ++ [v]) else if has = [] then (-1, 0, has) else if k = 3 then (has.headD 0, 0, has.tail) else (has.getLastD 0, 0, has.dropLast) := by
      unfold tl; rw [if_neg (by omega), if_neg (by omega)]
    rw [et]
    clear et
    cases put with
    | true =>
      rw [if_pos rfl]
      go_enter Try.func24, Try.ntmps24
      go_wp2_with (first
        | (at_builtin; refine app_src eltIntL w rfl (.const (.slice none 0 0)) (.tmp 41) rfl w.heap.size (.slice none 0 0) 0 [] rfl (World.ownsRow_nil _ _ _ _) _ _ _ (has.map (Value.int .i64)) rfl _ h (one_ints _ _) (by omega) (by omega) (Nat.le_refl _) ?_; intro u3 w3 hu3 hgr3 hbel3 hsz3; rw [List.nil_append, Nat.zero_add] at hu3; obtain ⟨A3, c3, rfl, _⟩ := own_form hu3; have hb3 := hbel3 _ (Below.refl _ _))
        | (at_builtin; refine app_lit eltIntL w3 rfl (.tmp 42) (.tmp 44) rfl w.heap.size (.slice A3 hn c3) hn (has.map (Value.int .i64)) rfl hu3 1 [.int .i64 v] _ rfl rfl rfl (by simp [Value.oneCell']) (by omega) (by omega) hsz3 ?_; intro u4 w4 hu4 hgr4 hbel4 hsz4; obtain ⟨A4, c4, rfl, hlc4⟩ := own_form hu4))
      go_ret3
      refine ⟨_, _, _, rfl, ?_, hlc4, hbel4 _ hb3, fun b o hb => .inr (hu4.lt b (by rw [hb]; rfl)).1⟩
      have := Rd.of_own hu4
      unfold RI
      rw [List.map_append]
      exact this
    | false =>
      rw [if_neg (by simp)]
      by_cases hz : hn = 0
      · subst hz
        have hh : has = [] := List.eq_nil_of_length_eq_zero HL.out
        subst hh
        rw [if_pos rfl]
        go_enter Try.func24, Try.ntmps24
        go_wp2
        go_ret3
        exact ⟨_, _, _, rfl, h, hnc, h0, fun b o hb => .inl ⟨o, hb, Nat.le_refl _⟩⟩
      · have hne : has ≠ [] := fun e => by rw [e] at HL; exact hz HL.out.symm
        have hz2 : ((hn : Int) == 0) = false := by simp; omega
        rw [if_neg hne]
        by_cases hk3 : k = 3
        · subst hk3
          rw [if_pos rfl]
          obtain ⟨b, o, x, rfl, hbB, c0, HX, _⟩ := h.val (i := 0) (by omega)
          rw [Nat.add_zero] at c0
          have hv2 : has.headD 0 = x ∧ has.tail = (has.drop 1).take (hn - 1) := by
            have hx := HX.out
            cases has with
            | nil => exact absurd rfl hne
            | cons y t =>
              simp at hx
              have hl := HL.out
              simp at hl
              exact ⟨by simp [hx], by rw [List.drop_one, List.tail_cons, List.take_of_length_le (by omega)]⟩
          dsimp only
          rw [hv2.1]
          obtain ⟨nx, hnx⟩ : ∃ nx, nx = has.tail := ⟨_, rfl⟩
          rw [← hnx]
          have HNX := Lib.hid (hnx.trans hv2.2)
          clear HX hv2 hne hnx
          go_enter Try.func24, Try.ntmps24
          go_wp2
          refine region_two [0, 1, 2, 3, 4, 5, 6, 7] [] (by kernel_rfl) (by kernel_rfl) ?_
          simp only [pick, List.map_cons, List.map_nil, List.getD_cons_zero, List.getD_cons_succ]
          go_wp2
          all_goals (
            go_ret3
            refine ⟨_, _, _, rfl, ?_, ?_, h0.drew, fun b' o' hb => .inl ⟨o, by injection hb with hb; injection hb with hb; rw [hb], by omega⟩⟩
            rotate_left
            · omega
            rw [HNX.out]
            first
              | (have h9 : hn - 1 = 0 := by omega
                 rw [h9]; exact ⟨by simp, fun h => absurd h (by omega)⟩)
              | exact Rd.more (Rd.heap (RI.winL hri0 (i := 1) (m := hn - 1) (by omega)) rfl) (Nat.le_refl _))
        · have hk4 : k = 4 := by omega
          subst hk4
          rw [if_neg (by decide)]
          obtain ⟨b, o, x, rfl, hbB, c0, HX, _⟩ := h.val (i := hn - 1) (by omega)
          have hv2 : has.getLastD 0 = x ∧ has.dropLast = (has.drop 0).take (hn - 1) := by
            have hx := HX.out
            refine ⟨?_, ?_⟩
            · rw [List.getLastD_eq_getLast?, List.getLast?_eq_getElem?, HL.out, hx]; rfl
            · rw [List.drop_zero, List.dropLast_eq_take, HL.out]
          dsimp only
          rw [hv2.1, hv2.2]
          obtain ⟨q, hq⟩ : ∃ q, hn = q + 1 := ⟨hn - 1, by omega⟩
          subst hq
          rw [Nat.add_sub_cancel] at c0 ⊢
          clear HX hv2 hne
          go_enter Try.func24, Try.ntmps24
          go_wp2
          refine region_two [0, 1, 2, 3, 4, 5, 6, 7, 8, 9, 10, 11, 12, 13] [] (by kernel_rfl) (by kernel_rfl) ?_
          simp only [pick, List.map_cons, List.map_nil, List.getD_cons_zero, List.getD_cons_succ]
          go_wp2
          go_ret3
          refine ⟨_, _, _, rfl, ?_, by omega, h0.drew, fun b' o' hb => .inl ⟨o, by injection hb with hb; injection hb with hb; rw [hb], by omega⟩⟩
          exact Rd.more (Rd.heap (RI.winL h (i := 0) (m := q) (by omega)) rfl) (Nat.le_refl _)
end Go.Proofs.Ytdoniefhmmodbaa
