/- What the document's answer to run.Play does. No statement of the seat is proved here; no condition. -/
import Derived.Test.YtjihopbapnfppaaDoorRefRun1
import Derived.Test.YtjihopbapnfppaaDoorRefRunMem
import Derived.Test.YtjihopbapnfppaaDoorRefVm2
set_option linter.unusedSimpArgs false
set_option linter.unusedVariables false
namespace Go.Proofs.YtjihopbapnfppaaDoor
open Go.RowKit Go.Ord Go.Baro Go.Maps

theorem eltEv : Elt Tryd.prog 47 51 (.agg #[.int .i64 0, .int .i64 0, .int .i64 0, .bool false, .int .i64 0, .slice none 0 0]) 6 64 := Elt.mk' Tryd.underlying47 (by kernel_rfl) rfl (by decide)
theorem eltIntP : Elt Tryd.prog 24 3 (.int .i64 0) 1 8 := Elt.mk' Tryd.underlying24 (by kernel_rfl) rfl (by decide)
theorem one6 (a b c e : Int) (d : Bool) (A : Option Addr) (n k : Nat) : ∀ u ∈ [Value.int .i64 a, .int .i64 b, .int .i64 c, .bool d, .int .i64 e, .slice A n k], u.oneCell' = true := by simp [Value.oneCell']
set_option maxRecDepth 100000 in
/-- An ended call: nothing is done. -/
theorem ref_OneOver (w : World) (b : Nat) (v0 v1 v2 v3 v4 wv : Value) (h : Box w b 78 [v0, v1, v2, v3, v4, .bool true]) :
    Calls Tryd.prog 42 #[.pointer (some ⟨b, 0, none⟩), wv] w fun e w' => e = .returned (.tuple #[]) ∧ w = w' := by
  have t5 : w.cell? ⟨b, 5, none⟩ = _ := h.cell 5
  simp only [List.getElem?_cons_zero, List.getElem?_cons_succ] at t5
  go_enter Tryd.func42, Tryd.ntmps42
  go_wp2
  refine bodyPost_ret (results_noneV rfl _ _) rfl ?_
  exact ⟨rfl, rfl⟩
theorem ref_NewWorkerAt (w : World) (A A1 : Option Addr) (n c m c1 g : Nat) (ar : List Int) (ov : Bool) (hg : g = w.heap.size) (hr : RI w w.heap.size .i64 A1 m ar) (hm : m ≤ 8) (hn : n ≤ 200) (ha : ∀ x ∈ ar, inW x) (hov : ov = true ↔ n = 0) :
    Calls Tryd.prog 41 #[.slice A n c, .slice A1 m c1] w fun e w' => e = .returned (.pointer (some ⟨g + 1, 0, none⟩)) ∧ Box w' (g + 1) 78 [.slice A n c, .map (some g), .int .i64 0, .slice none 0 0, .int .i64 0, .bool ov] ∧
      MI w' g 8 (st0 ar []).r ∧ Below g w w' := by subst hg; exact ref_NewWorker w A A1 n c m c1 ar ov hr hm hn ha hov
/-- What a thread's block is of. -/
theorem tag_told {w : World} {B n : Nat} {own : Nat → Nat} {tv : Value} {t : List Int} (h : w.ownsRow B 3 1 tv t.length (t.map (Value.int .i64))) (ht : ∀ k, tv.ownBlock = some k → own k = n) :
    ∃ A c, tv = .slice A t.length c ∧ t.length ≤ c ∧ RI w w.heap.size .i64 A t.length t ∧ ∀ b o, A = some ⟨b, o, none⟩ → own b = n := by
  obtain ⟨A, c, rfl, hlc⟩ := own_form h
  exact ⟨A, c, rfl, hlc, Rd.of_own h, fun b o hA => by subst hA; exact ht b rfl⟩
/-- What an instruction of worker n does, or the end of a call that has none. -/
theorem ref_OneW (w : World) (own : Nat → Nat) (B nb gb N n b : Nat) (wv ov : Value) (ps : Nat → Option Nat) (g : Gs) (l : Lv) (hP : Pl own w B nb gb wv ov ps N 4 g) (hn : n < 4) (hp : ps n = some b) (hnow : (g.th n).now = some l) (hl : LOk l) (hc : okC l.c) (hi : ∀ o ∈ l.c, inI o) (hw : WOk g.w)
    (hlt : l.c.length ≠ 0 → l.p < l.c.length) (hN : N < 100000) :
    Calls Tryd.prog 42 #[.pointer (some ⟨b, 0, none⟩), wv] w fun e w' => e = .returned (.tuple #[]) ∧ ∃ own' l' W E en v0 v1 v2 tv', exc l g.w = (l', W, E, en) ∧ Pl own' w' B nb gb wv ov ps (N + 2) n { g with w := W } ∧
      Box w' b 78 [v0, v1, v2, tv', .int .i64 E, .bool en] ∧ w'.ownsRow B 3 1 tv' l'.t.length (l'.t.map (Value.int .i64)) ∧ (∀ k, tv'.ownBlock = some k → own' k = 12 + 3 * n) ∧ (en = false → Wt own' w' B n b (N + 2) l') ∧ Below B w w' := by
  obtain ⟨b', hp', mb, cA, cc, tv, ovr, hbox, hov, hmi, hown, hro, t1, t2, t3, hBb, hBm⟩ := hP.live hn (by omega) hnow
  rw [hp] at hp'
  injection hp' with hp'
  subst hp'
  have hB := hP.hB
  by_cases hz : l.c.length = 0
  · have he : ovr = true := hov.2 hz
    subst he
    have hpe : l.p = l.c.length := by have := hl.1; have := hl.2.1; omega
    refine (ref_OneOver w b _ _ _ _ _ wv hbox).mono ?_
    rintro e w' ⟨rfl, rfl⟩
    refine ⟨rfl, own, l, g.w, 0, true, _, _, _, tv, exc_none hpe, (hP.out_ n).mono (by omega), hbox, hown, t3, fun h => (by cases h), Below.refl _ _⟩
  · have he : ovr = false := by
      cases ovr with
      | false => rfl
      | true => exact absurd (hov.1 rfl) hz
    subst he
    have hlt := hlt hz
    have hlo := hl.1
    have hpn : l.p.toNat < l.c.length := by omega
    obtain ⟨o, ho⟩ : ∃ o, l.c[l.p.toNat]? = some o := ⟨_, List.getElem?_eq_getElem hpn⟩
    have hom := List.mem_of_getElem? ho
    obtain ⟨wA, wc, rfl, _⟩ := own_form hP.words
    obtain ⟨s', E, hst⟩ : ∃ s' E, stp l.c.length o ⟨l.p, l.r, g.w, l.t⟩ = (s', E) := ⟨_, _, rfl⟩
    have hWk : Wk w B b mb (.slice cA l.c.length cc) tv (.slice wA g.w.length wc) l.p g.w l.t 0 false := by
      refine ⟨hbox, hown, hP.words, ?_⟩
      cases hq : (Value.slice wA g.w.length wc).ownBlock with
      | none => exact .inl rfl
      | some k =>
        refine .inr fun h => ?_
        have := t3 k h.symm
        have := hP.tw k hq
        omega
    refine (ref_One w B B b mb N l.c.length cc g.w.length wc cA wA tv l.c ⟨l.p, l.r, g.w, l.t⟩ s' o E hWk hmi hN hBb hBm hro (Nat.le_refl _) hlt hc.1 (ok_of hl hw) ho (hc.2 o hom) (hi o hom) hst).mono ?_
    rintro e w' ⟨rfl, ⟨tv', p', ov', hWk', hE0, hE1, hblk⟩, hmi', hun⟩
    have hre : ∀ k, k < w.heap.size → (fun k => if k < w.heap.size then own k else 12 + 3 * n) k = own k := fun k hk => by show (if k < w.heap.size then own k else 12 + 3 * n) = own k; rw [if_pos hk]
    have hT : ∀ k, touch b mb tv (.slice wA g.w.length wc) k → B ≤ k := by
      intro k hk
      rcases hk with rfl | rfl | hk | hk
      · exact hBb
      · exact hBm
      · exact (hown.lt k hk.symm).1
      · exact (hP.words.lt k hk.symm).1
    have hPn := (hP.retag hre).one hn hun ((hre b hbox.lt).trans t1) ((hre mb hmi.lt).trans t2) (fun k hk => (hre k (own_lt hown hk)).trans (t3 k hk)) hBb hBm (fun k hk => (hown.lt k hk).1) hWk'.words (show N ≤ N + 2 by omega) (fun i hi _ => by omega)
    have htt : ∀ k, tv'.ownBlock = some k → (fun k => if k < w.heap.size then own k else 12 + 3 * n) k = 12 + 3 * n := by
      intro k hk
      rcases hblk with hb | ⟨k', hb, hge⟩
      · rw [hb] at hk; exact (hre k (own_lt hown hk)).trans (t3 k hk)
      · rw [hb] at hk
        injection hk with hk
        subst hk
        show (if k' < w.heap.size then own k' else 12 + 3 * n) = 12 + 3 * n
        rw [if_neg (by omega)]
    have hen : ov' = decide (E ≠ 0 ∨ s'.p = l.c.length) := by
      by_cases h0 : E = 0
      · have := (hE0 h0).2
        cases ov' with
        | true => simp [this.1 rfl]
        | false =>
          have : s'.p ≠ l.c.length := fun h => by have := this.2 h; cases this
          simp [h0, this]
      · rw [hE1 h0]; simp [h0]
    refine ⟨rfl, _, ⟨l.c, s'.p, s'.r, s'.t⟩, s'.w, E, ov', _, _, _, tv', by rw [hen]; exact exc_stp hlt ho hst, hPn, hWk'.box, hWk'.told, htt, fun hf => ?_, hun.below hB fun k hk h => by have := hT k h; omega⟩
    have h0 : E = 0 := by
      by_cases h0 : E = 0
      · exact h0
      · have := hE1 h0; rw [hf] at this; cases this
    subst h0 hf
    obtain ⟨rfl, hno⟩ := hE0 rfl
    exact ⟨mb, cA, cc, tv', false, hWk'.box, ⟨fun h => (by cases h), fun h => absurd h hz⟩, hmi', hWk'.told, hro.below (hun.below hB fun k hk h => by have := hT k h; omega), (hre b hbox.lt).trans t1, (hre mb hmi.lt).trans t2, htt, hBb, hBm⟩
theorem actL_eq {g g1 : Gs} {st n bg : Nat} {l : Lv} {o : List Ev} {t : Td} (hw : g1.w = g.w) (ht : g1.th = putT g.th n t) (ho : g1.out = o) : actL g st n bg l o = actL g1 st n bg l g1.out := by
  have hp : ∀ t', putT (putT g.th n t) n t' = putT g.th n t' := fun t' => by funext i; by_cases hi : i = n <;> simp [putT, hi]
  unfold actL
  dsimp only
  rw [hw, ht, ho, hp, hp]
/-- What a thread does whose call goes on, and one whose call ends. -/
theorem actL_onR {g : Gs} {st n bg : Nat} {l l' : Lv} {W : List Int} {E : Int} (h : exc l g.w = (l', W, E, false)) : actL g st n bg l g.out = ⟨W, putT g.th n ⟨some l', bg⟩, g.out⟩ := by unfold actL; rw [h]; rfl
theorem actL_off {g : Gs} {st n bg : Nat} {l l' : Lv} {W : List Int} {E : Int} (h : exc l g.w = (l', W, E, true)) : actL g st n bg l g.out = ⟨W, putT g.th n ⟨none, bg⟩, g.out ++ [⟨st, n, bg - 1, true, E, l'.t⟩]⟩ := by unfold actL; rw [h]; rfl

end Go.Proofs.YtjihopbapnfppaaDoor
