/- The walk of CountAll, from what is asked of count, run.Play and of the runs. No statement of the seat is proved here. -/
import Derived.Test.YtnchgdjdfhfedaaDoorPartAN
import Derived.Test.YtnchgdjdfhfedaaDoorPartAO
import Derived.Test.YtnchgdjdfhfedaaDoorPartAL
set_option linter.unusedSimpArgs false
set_option linter.unusedVariables false
namespace Go.Baro
open Go.RowKit (wrap64)
/-- A call that a run tells of is one of the machine's. -/
theorem dg_call {m : Mc} {S : List Nat} {d : Dg} (hd : d ∈ dgs (plyG m 0 S (g0 m)).out) : ∃ t c, m.ts[d.th]? = some t ∧ t[d.cl]? = some c := by
  have h1 := (hs_ply m S).own d hd
  have h2 := bg_le m S d.th
  cases ht : m.ts[d.th]? with
  | none => rw [ht] at h2; simp at h2; omega
  | some t =>
    rw [ht] at h2
    simp only [Option.getD_some] at h2
    exact ⟨t, _, rfl, List.getElem?_eq_getElem (by omega)⟩
/-- What thread 3 is told. -/
def lastV (l : List Dg) : Int := l.foldl (fun v d => if d.th = 3 then d.to.headD 0 else v) (-1)
theorem lastV_snoc (l : List Dg) (d : Dg) : lastV (l ++ [d]) = if d.th = 3 then d.to.headD 0 else lastV l := by simp [lastV]
theorem lastV_all {l : List Dg} {s : Int} (h1 : ∃ d ∈ l, d.th = 3) (h2 : ∀ d ∈ l, d.th = 3 → d.to.headD 0 = s) : lastV l = s := by
  have key : ∀ (l : List Dg) (v : Int), (∀ d ∈ l, d.th = 3 → d.to.headD 0 = s) → (v = s ∨ ∃ d ∈ l, d.th = 3) → l.foldl (fun v d => if d.th = 3 then d.to.headD 0 else v) v = s := by
    intro l
    induction l with
    | nil => intro v _ h; rcases h with h | ⟨d, hd, _⟩; exact h; cases hd
    | cons d l ih =>
      intro v h2 h
      rw [List.foldl_cons]
      refine ih _ (fun d' hd' => h2 d' (by simp [hd'])) ?_
      by_cases h3 : d.th = 3
      · exact .inl (by rw [if_pos h3]; exact h2 d (by simp) h3)
      · rw [if_neg h3]
        rcases h with h | ⟨d', hd', h'⟩
        · exact .inl h
        · rcases List.mem_cons.1 hd' with rfl | hd'
          · exact absurd h' h3
          · exact .inr ⟨d', hd', h'⟩
  exact key l (-1) h2 (.inr h1)
/-- The schedule while it is written. -/
def allJ (S : List Int) : Nat → List Int
  | 0 => S
  | t + 1 => allJ S t ++ List.replicate 200 (t : Int)
theorem allJ_len (S : List Int) : ∀ t, (allJ S t).length = S.length + 200 * t
  | 0 => rfl
  | t + 1 => by rw [allJ, List.length_append, allJ_len S t, List.length_replicate]; omega
theorem allJ_mem {S : List Int} (h : ∀ x ∈ S, 0 ≤ x ∧ x < 4) : ∀ t, t ≤ 3 → ∀ x ∈ allJ S t, 0 ≤ x ∧ x < 4
  | 0, _, x, hx => h x hx
  | t + 1, ht, x, hx => by
    rcases List.mem_append.1 hx with hx | hx
    · exact allJ_mem h t (by omega) x hx
    · rw [List.eq_of_mem_replicate hx]; omega
theorem allJ_all (S : List Int) : (allJ S 3 ++ List.replicate 60 3).map Int.toNat = allS (S.map Int.toNat) := by
  simp only [allJ, List.map_append, List.map_replicate]
  rfl
theorem pw_at {α : Type} {R : α → α → Prop} {l : List α} (h : l.Pairwise R) {i j : Nat} {a b : α} (ha : l[i]? = some a) (hb : l[j]? = some b) (hij : i < j) : R a b := by
  obtain ⟨h1, rfl⟩ := List.getElem?_eq_some_iff.1 ha
  obtain ⟨h2, rfl⟩ := List.getElem?_eq_some_iff.1 hb
  exact List.pairwise_iff_getElem.1 h i j h1 h2 hij
theorem rep_snoc (j : Nat) (x : Int) : List.replicate (j + 1) x = List.replicate j x ++ [x] := by rw [List.replicate_succ']
end Go.Baro
namespace Go.Proofs.YtnchgdjdfhfedaaDoor
open Go.RowKit Go.Ord Go.Baro

theorem plR_fineA {m : Mc} (hm : okMc m) {S : List Int} (hl : S.length ≤ 6000) (hs : ∀ x ∈ S, 0 ≤ x ∧ x < m.ts.length) : PlR m S (plyG m 0 (S.map Int.toNat) (g0 m)).out (plyG m 0 (S.map Int.toNat) (g0 m)).w 0 :=
  .inr (.inr (.inr ⟨hm, hl, hs, rfl, rfl, rfl⟩))
theorem okTh_get : okTh [⟨1, []⟩] := ⟨by simp, fun x hx => by rw [List.mem_singleton.1 hx]; exact ⟨by unfold inW; dsimp only; omega, by simp, fun y hy => by cases hy⟩⟩
theorem count_ok4 {c : Cu} (h : CuOk c) (by_ : List Int) : okMc (mCount4 c by_) := by
  obtain ⟨h1, h2, h3, h4, h5⟩ := count_ok h by_
  refine ⟨h1, h2, by simp [mCount4], h4, fun t ht => ?_⟩
  simp only [mCount4, List.mem_cons, List.not_mem_nil, or_false] at ht
  rcases ht with rfl | rfl | rfl | rfl
  · exact h5 _ (by simp [mCount])
  · exact h5 _ (by simp [mCount])
  · exact h5 _ (by simp [mCount])
  · exact ⟨by simp, fun x hx => by rw [List.mem_singleton.1 hx]; exact ⟨by simp [mCount4], by simp⟩⟩
/-- The machine with a thread more. -/
theorem count_inM4 {c : Cu} {by_ : List Int} {w w' : World} {Aw : Option Addr} {nw cw : Nat} {Ac : Option Addr} {cc : Nat} {At : Option Addr} {rows : List (List Value)} {g : Nat} {A' : Option Addr} {c' : Nat} (h : InM w Aw nw cw Ac 2 cc At 3 3 (mCount c by_)) (hb : Below w.heap.size w w')
    (r1 : rows.length = 3) (r2 : ∀ r ∈ rows, r.length = 1) (r4 : ∀ (i : Nat) r x, rows[i]? = some r → (mCount c by_).ts[i]? = some x → eT w w.heap.size r x)
    (hq : Rd w' w'.heap.size 1 A' 4 (rows.flatten ++ [.slice (some ⟨g, 0, none⟩) 1 1])) (bx : Box w' g 41 [.int .i64 1, .slice none 0 0]) (hc : 4 ≤ c' ∧ c' ≤ 9223372036854775807) : InM w' Aw nw cw Ac 2 cc A' 4 c' (mCount4 c by_) := by
  refine ⟨(h.ws.below hb).more hb.size, (h.cs.below hb).more hb.size, ⟨rows ++ [[.slice (some ⟨g, 0, none⟩) 1 1]], by simp [r1, mCount4], fun r hr => ?_, by simpa using hq, fun i r x hr hx => ?_⟩, h.wok, h.cok, fun t ht => ?_, h.lw, h.lc, hc⟩
  · rcases List.mem_append.1 hr with hr | hr
    · exact r2 r hr
    · rw [List.mem_singleton.1 hr]; rfl
  · by_cases hi : i < 3
    · rw [List.getElem?_append_left (by omega)] at hr
      have hx' : (mCount c by_).ts[i]? = some x := by
        rcases (by omega : i = 0 ∨ i = 1 ∨ i = 2) with rfl | rfl | rfl <;> exact hx
      exact ((r4 i r x hr hx').below hb).more hb.size
    · rw [List.getElem?_append_right (by omega)] at hr
      have hi3 : i = 3 := by
        have := (List.getElem?_eq_some_iff.1 hx).1
        simp [mCount4] at this
        omega
      subst hi3
      rw [r1] at hr
      simp at hr
      simp [mCount4] at hx
      subst hr hx
      refine ⟨_, 1, 1, rfl, Nat.le_refl _, ?_⟩
      refine ⟨[[.int .i64 1, .slice none 0 0]], rfl, by simp, Rd.box bx rfl, fun j r x hr hx => ?_⟩
      match j with
      | 0 =>
        simp at hr hx
        subst hr hx
        exact ⟨none, 0, 0, rfl, Nat.le_refl _, ⟨rfl, fun h => by omega⟩⟩
      | j + 1 => simp at hr
  · simp only [mCount4, List.mem_cons, List.not_mem_nil, or_false] at ht
    rcases ht with rfl | rfl | rfl | rfl
    · exact h.tok _ (by simp [mCount])
    · exact h.tok _ (by simp [mCount])
    · exact h.tok _ (by simp [mCount])
    · exact okTh_get
theorem cnt4_th {c : Cu} {by_ : List Int} {q : Nat} {t : List Cl} {i : Nat} {x : Cl} (ht : (mCount4 c by_).ts[q]? = some t) (hx : t[i]? = some x) : (x.k = 0 ∧ ∃ y, x.ar = [y] ∧ 0 ≤ y ∧ y ≤ 5) ∨ (x.k = 1 ∧ x.ar = []) := by
  have hm := List.mem_of_getElem? hx
  have h : (∃ j, x = cntC by_ j) ∨ x = ⟨1, []⟩ := by
    match q, ht with
    | 0, ht =>
      injection ht with ht; subst ht
      simp only [cntT, List.mem_cons, List.not_mem_nil, or_false] at hm
      rcases hm with h | h | h <;> exact .inl ⟨_, h⟩
    | 1, ht =>
      injection ht with ht; subst ht
      simp only [cntT, List.mem_cons, List.not_mem_nil, or_false] at hm
      rcases hm with h | h | h <;> exact .inl ⟨_, h⟩
    | 2, ht =>
      injection ht with ht; subst ht
      simp only [cntT, List.mem_cons, List.not_mem_nil, or_false] at hm
      rcases hm with h | h | h <;> exact .inl ⟨_, h⟩
    | 3, ht =>
      injection ht with ht; subst ht
      exact .inr (List.mem_singleton.1 hm)
    | q + 4, ht => simp [mCount4] at ht
  rcases h with ⟨j, rfl⟩ | rfl
  · rcases cntC_mem by_ j with ⟨e, h1, h2⟩ | ⟨e, _⟩ <;> rw [e]
    · exact .inl ⟨rfl, _, rfl, by omega, by omega⟩
    · exact .inr ⟨rfl, rfl⟩
  · exact .inr ⟨rfl, rfl⟩

set_option maxRecDepth 100000 in
set_option maxHeartbeats 2000000 in
theorem keep_CountAllP (c : Cu) (hc : CuOk c) (hgood : CountAllD c) (hPl : PlaySpec) (hW : W0Spec 8 c.ws) (hA : C0Spec 9 c.ca) (hG : C0Spec 10 c.cg)
    (w : World) (hT : Tab w) (A0 : Option Addr) (n0 c0 : Nat) (x0 : List Int) (h0 : RI w w.heap.size .i64 A0 n0 x0) (b0 : n0 ≤ 17592186044416) (r0 : ∀ x ∈ x0, -9223372036854775808 ≤ x ∧ x ≤ 9223372036854775807) (_ : n0 ≤ c0)
    (A2 : Option Addr) (n2 c2 : Nat) (x2 : List Int) (h2 : RI w w.heap.size .u8 A2 n2 x2) (b2 : n2 ≤ 140737488351232) (r2 : ∀ x ∈ x2, 0 ≤ x ∧ x < 256) (_ : n2 ≤ c2) :
    Calls Tryd.prog 5 #[.slice A0 n0 c0, .slice A2 n2 c2] w fun e w' => e = .returned (.bool true) ∧ Below w.heap.size w w' := by
  have HPl := Lib.hid hPl
  have HT := Lib.hid hT
  have HR2 := Lib.hid r2
  have HLM := Lib.hid (keep_countMachine c hc hW hA hG)
  have HOk := Lib.hid (count_ok4 hc)
  have HGood := Lib.hid hgood
  have HC := Lib.hid hc
  clear hPl hT r2 r0 hW hA hG hgood hc
  go_enter Tryd.func5, Tryd.ntmps5
  go_wp2_with fail
  refine (HLM.out w HT.out A0 n0 c0 x0 h0 b0).mono ?_
  rintro e w1 ⟨Aw, nw, cw, Ac, nc, cc, At, nt, ct, rfl, hin1, rfl, ⟨rfl, rfl⟩, hb1⟩
  have hs1 := hb1.size
  have hA2 := (Below.refl w1.heap.size w1).alloc (Nat.le_refl _) (Obj.cells #[.slice Aw nw cw, .slice Ac 2 cc, .slice At 3 3] 32)
  have bX := Box.newAt w1 32 [.slice Aw nw cw, .slice Ac 2 cc, .slice At 3 3] w1.heap.size rfl
  have hb2 := hb1.trans (hA2.mono hs1)
  have HIN := Lib.hid hin1
  have lX := bX.lt
  obtain ⟨w2, hw2⟩ : ∃ w2, w2 = w1.alloc (Obj.cells #[.slice Aw nw cw, .slice Ac 2 cc, .slice At 3 3] 32) := ⟨_, rfl⟩
  clear hin1
  have HW2 := Lib.hid hw2
  rw [← hw2] at hA2 bX hb2 lX
  have HX := Lib.hid bX
  have HA2 := Lib.hid hA2
  clear hw2 HLM bX hA2
  have hs2 := hb2.size
  go_wp2_with fail
  rw [← HW2.out]
  refine (keep_ScheduleG x2 A2 n2 c2 w2 3 300 (by omega) (by omega) (by omega) ((h2.below hb2).more hb2.size) (by omega) HR2.out).mono ?_
  rintro e w8 ⟨v, n', rfl, hown, hn', hb8⟩
  obtain ⟨S, hS⟩ : ∃ S, S = schG 3 300 x2 := ⟨_, rfl⟩
  rw [← hS] at hown
  have hSl : S.length = n' := by have := hown.1; simpa using this
  have hSi : ∀ x ∈ S, 0 ≤ x ∧ x < 3 := fun x hx => schG_in (k := 3) (by omega) (hS ▸ hx)
  have HSL := Lib.hid hSl
  have HSI := Lib.hid hSi
  have HOW8 := Lib.hid hown
  clear hS hSl hSi hown h0 h2
  go_wp2
  go_loopw [6, 7] (fun v i wr => ∃ t : Nat, t ≤ 3 ∧ i = .int .i64 t ∧ Hid (wr.ownsRow w2.heap.size 3 1 v (n' + 200 * t) ((allJ S t).map (Value.int .i64))) ∧ Below w2.heap.size w2 wr) (fun _ i _ => 3 - (intOf i).toNat)
  case atStart => exact ⟨0, by omega, rfl, HOW8.out, hb8⟩
  case round =>
    obtain ⟨t, ht, rfl, HOW, hbel⟩ := hrel
    clear HOW8 hb8
    have hszr := hbel.size
    by_cases ht3 : t < 3
    · have et3 : decide ((t : Int) < 3) = true := by simp; omega
      go_wp2
      go_loopw [6, 8] (fun v i wr => ∃ j : Nat, j ≤ 200 ∧ i = .int .i64 j ∧ Hid (wr.ownsRow w2.heap.size 3 1 v (n' + 200 * t + j) ((allJ S t ++ List.replicate j (t : Int)).map (Value.int .i64))) ∧ Below w2.heap.size w2 wr) (fun _ i _ => 200 - (intOf i).toNat)
      case atStart => exact ⟨0, by omega, rfl, by simpa using HOW, hbel⟩
      case round =>
        obtain ⟨j, hj, rfl, HOWj, hbelj⟩ := hrel
        have hszj := hbelj.size
        by_cases hj2 : j < 200
        · go_wp2_with (at_builtin; go_must (refine app_lit eltIntS _ rfl (.tmp 29) (.tmp 31) rfl w2.heap.size _ (n' + 200 * t + j) _ rfl (by exact HOWj.out) 1 [.int .i64 (t : Int)] _ rfl rfl rfl (one_ints .i64 [(t : Int)]) (by omega) (by omega) hszj ?_); intro v6 w6 hown6 hgr6 hbel6 hsz6)
          have hb6 := hbel6 _ hbelj
          go_roundw
          case rel =>
            refine ⟨j + 1, by omega, by go_num, ?_, hb6⟩
            show World.ownsRow _ _ _ _ _ _ _
            rw [rep_snoc, ← List.append_assoc, List.map_append]
            exact hown6
          case measure => simp [intOf]; omega
        · obtain rfl : j = 200 := by omega
          go_wp2
          go_roundw
          case rel =>
            refine ⟨t + 1, by omega, by go_num, ?_, hbelj⟩
            show World.ownsRow _ _ _ _ _ _ _
            have := HOWj.out
            rw [show n' + 200 * (t + 1) = n' + 200 * t + 200 by omega]
            exact this
          case measure => simp [intOf]; omega
    · obtain rfl : t = 3 := by omega
      obtain ⟨rows, q1, q2, q3, q4⟩ := HIN.out.ts
      have HROW := Lib.hid q4
      have HQ12 := Lib.hid (And.intro q1 q2)
      have lX3 : w1.heap.size < wr.heap.size := by omega
      have hbX : Below w1.heap.size w1 wr := HA2.out.trans (hbel.mono HA2.out.size)
      have hq3 := q3.below hbX
      have HQ3 := Lib.hid hq3
      have hAn : At = none → 3 = 0 := by
        intro hA
        obtain ⟨b, o, hA', _⟩ := q3.at_ (show 0 < 3 by omega)
        rw [hA] at hA'; cases hA'
      have HAN := Lib.hid hAn
      have bXr := HX.out.below hbel lX
      have HXr := Lib.hid bXr
      have z2 : wr.cell? ⟨w1.heap.size, 2, none⟩ = _ := bXr.cell 2
      simp only [List.getElem?_cons_zero, List.getElem?_cons_succ] at z2
      have HBX := Lib.hid hbX
      have HOW3 := Lib.hid HOW.out
      have hG9 := (Below.refl wr.heap.size wr).alloc (Nat.le_refl _) (Obj.cells #[.int .i64 1, .slice none 0 0] 41)
      have HG9 := Lib.hid hG9
      have HBx9 := Lib.hid (Box.newAt wr 41 [.int .i64 1, .slice none 0 0] wr.heap.size rfl)
      clear q1 q2 q3 q4 hq3 hAn bXr hbX hG9 HOW ht3
      go_wp2_with (at_builtin; go_must (refine app_full eltThr (wr.alloc (Obj.cells #[.int .i64 1, .slice none 0 0] 41)) rfl (.tmp 34) (.tmp 37) rfl At 3 rows.flatten rfl w1.heap.size (HQ3.out.below (HG9.out.mono (by omega))) HAN.out (by have := HG9.out.size; omega) 1 (by omega) [.slice (some ⟨wr.heap.size, 0, none⟩) 1 1] (wr.heap.size + 1) (by simp) rfl rfl (by omega) (by omega) ?_); intro v7 w7 hown7 hb7; obtain ⟨A7, c7, rfl, hlc7⟩ := own_form hown7; have hb7w : Below wr.heap.size wr w7 := HG9.out.trans (hb7.mono HG9.out.size); have bX7 := HXr.out.below hb7w lX3; have z7 : w7.cell? ⟨w1.heap.size, 2, none⟩ = _ := bX7.cell 2; have f7 := bX7.frozen 2; have lX7 := bX7.lt; simp only [List.getElem?_cons_zero, List.getElem?_cons_succ] at z7)
      obtain ⟨w10, hw10⟩ : ∃ W, W = w7.setCell ⟨w1.heap.size, 2, none⟩ (.slice A7 4 c7) := ⟨_, rfl⟩
      have bX10 : Box w10 w1.heap.size 32 [.slice Aw nw cw, .slice Ac 2 cc, .slice A7 4 c7] := by rw [hw10]; exact bX7.set 2 _
      have hk10 : Kc (fun t => t = 32) w7 w10 := by
        rw [hw10]
        refine Kc.grown (grown_setCell w7 ⟨w1.heap.size, 2, none⟩ _) (fun b cs t fr he hh => ?_)
        injection he with he
        subst he
        have h6 := bX7
        unfold Box at h6
        rw [h6] at hh
        injection hh with hh
        injection hh with _ hh
        exact hh.symm
      have hb10 : Below w1.heap.size w1 w10 := by rw [hw10]; exact below_at (HBX.out.trans (hb7w.mono (by omega))) (Nat.le_refl _) _ _
      have HOW10 := Lib.hid (own_kc HOW3.out ((Kc.below (T := fun t => t = 32) hb7w).trans hk10) (by decide))
      have HQ10 := Lib.hid ((QT.own hown7).kc hk10 (by decide))
      have HBx10 := Lib.hid (((HBx9.out.below hb7 (by simp))).kc hk10 (by decide))
      have hc7 : 4 ≤ c7 ∧ c7 ≤ 9223372036854775807 := by
        refine ⟨hlc7, ?_⟩
        rcases hown7.2 with ⟨h, _⟩ | ⟨g, cap, cur, h, _, _, _, h2, _⟩
        · injection h with _ _ h; omega
        · injection h with _ _ h; subst h; unfold maxLen at h2; omega
      have HB10 := Lib.hid hb10
      have HX10 := Lib.hid bX10
      have HC7 := Lib.hid hc7
      have hs10 : w2.heap.size ≤ w10.heap.size := by have := hb7w.size; rw [hw10]; simp; omega
      rw [← hw10]
      clear hw10 bX7 z7 f7 lX7 z2 hown7 hb7 hb7w hk10 hb10 bX10 hc7 HXr HBx9 HOW3 HAN HQ3 HG9 HBX hlc7 lX3
      go_wp2
      go_loopw [6, 9] (fun v i wr => ∃ j : Nat, j ≤ 60 ∧ i = .int .i64 j ∧ Hid (wr.ownsRow w2.heap.size 3 1 v (n' + 600 + j) ((allJ S 3 ++ List.replicate j 3).map (Value.int .i64))) ∧ Hid (Kc (fun t => t = 3) w10 wr) ∧ Below w2.heap.size w10 wr) (fun _ i _ => 60 - (intOf i).toNat)
      case atStart => exact ⟨0, by omega, rfl, by simpa using HOW10, Kc.refl _ _, Below.refl _ _⟩
      case round =>
        obtain ⟨j, hj, rfl, HOWj, HKj, hbelj⟩ := hrel
        have hszj := hbelj.size
        by_cases hj2 : j < 60
        · have hszj2 : w2.heap.size ≤ wr.heap.size := by omega
          go_wp2_with (at_builtin; go_must (refine app_lit eltIntS _ rfl (.tmp 44) (.tmp 45) rfl w2.heap.size _ (n' + 600 + j) _ rfl (by exact HOWj.out) 1 [.int .i64 3] _ rfl rfl rfl (one_ints .i64 [3]) (by omega) (by omega) hszj2 ?_); intro v6 w6 hown6 hgr6 hbel6 hsz6)
          have hb6 := hbel6 _ hbelj
          have hk6 : Kc (fun t => t = 3) wr w6 := (Kc.below ((Below.refl wr.heap.size wr).alloc (Nat.le_refl _) _)).trans (Kc.grown hgr6 (fun b cs t fr he hh => (own_same (HOWj.out.alloc _) he hh)))
          go_roundw
          case rel =>
            refine ⟨j + 1, by omega, by go_num, ?_, HKj.out.trans hk6, hb6⟩
            show World.ownsRow _ _ _ _ _ _ _
            rw [rep_snoc, ← List.append_assoc, List.map_append]
            exact hown6
          case measure => simp [intOf]; omega
        · obtain rfl : j = 60 := by omega
          have hbW : Below w1.heap.size w1 wr := HB10.out.trans (hbelj.mono HA2.out.size)
          have HIM8 := Lib.hid (count_inM4 HIN.out hbW (by have := HQ12.out.1; simpa [mCount] using this) HQ12.out.2 HROW.out ((HQ10.out.kc HKj.out (by decide)).rd) (HBx10.out.kc HKj.out (by decide)) HC7.out)
          have bX8 := HX10.out.below hbelj (by have := HX.out.lt; exact this)
          have HX8 := Lib.hid bX8
          obtain ⟨As, cs, rfl, hls⟩ := own_form HOWj.out
          have HRS := Lib.hid (show RI wr wr.heap.size .i64 As (n' + 600 + 60) (allJ S 3 ++ List.replicate 60 3) from Rd.of_own HOWj.out)
          have z0 : wr.cell? ⟨w1.heap.size, 0, none⟩ = _ := bX8.cell 0
          have z1 : wr.cell? ⟨w1.heap.size, 1, none⟩ = _ := bX8.cell 1
          have z2 : wr.cell? ⟨w1.heap.size, 2, none⟩ = _ := bX8.cell 2
          simp only [List.getElem?_cons_zero, List.getElem?_cons_succ] at z0 z1 z2
          have lX8 := bX8.lt
          have hbel8 : Below w.heap.size w wr := hb1.trans (hbW.mono hs1)
          have HB8 := Lib.hid hbel8
          have hs8 := hbel8.size
          have hR := plR_fineA (HOk.out x0) (S := allJ S 3 ++ List.replicate 60 3) (by rw [List.length_append, allJ_len, List.length_replicate, HSL.out]; omega) (fun x hx => by
            show 0 ≤ x ∧ x < ((4 : Nat) : Int)
            rcases List.mem_append.1 hx with hx | hx
            · exact allJ_mem (fun y hy => by have := HSI.out y hy; omega) 3 (Nat.le_refl _) x hx
            · rw [List.eq_of_mem_replicate hx]; omega)
          obtain ⟨hne, h10, hend, hpw, hex, hlast⟩ := HGood.out x0 (S.map Int.toNat) (by rw [List.length_map, HSL.out]; exact hn') (fun x hx => by
            obtain ⟨y, hy, rfl⟩ := List.mem_map.1 hx
            have := HSI.out y hy
            omega)
          rw [← allJ_all S] at hne h10 hend hpw hex hlast
          have hrn := rn_ply _ hne
          have hcall := fun d hd => dg_call (m := mCount4 c x0) (S := (allJ S 3 ++ List.replicate 60 3).map Int.toNat) (d := d) hd
          obtain ⟨T, hTT⟩ : ∃ T, T = (plyG (mCount4 c x0) 0 ((allJ S 3 ++ List.replicate 60 3).map Int.toNat) (g0 (mCount4 c x0))).out := ⟨_, rfl⟩
          obtain ⟨W, hWW⟩ : ∃ W, W = (plyG (mCount4 c x0) 0 ((allJ S 3 ++ List.replicate 60 3).map Int.toNat) (g0 (mCount4 c x0))).w := ⟨_, rfl⟩
          rw [← hTT, ← hWW] at hR
          rw [← hTT] at h10 hend hpw hex hlast hrn hcall
          have HR := Lib.hid hR
          have H10 := Lib.hid h10
          have HEND := Lib.hid hend
          have HPW := Lib.hid hpw
          have HLAST := Lib.hid (lastV_all hex hlast)
          have HCALL := Lib.hid hcall
          have HRN := Lib.hid hrn
          clear hR h10 hend hpw hex hlast hcall hrn hne hTT hWW HGood HOWj HKj HQ10 HBx10 HROW HQ12 HX10 HB10 HIN HX HC7 HOW10 bX8 hbW hj2 hj hbelj
          go_wp2_with fail
          refine (keep_ran HPl.out wr (HT.out.below HB8.out HT.out.lt) Aw nw cw Ac 2 cc A7 4 c7 (mCount4 c x0) As _ cs _ T W HIM8.out HRS.out (by omega) HR.out HRN.out).mono ?_
          rintro e w4 ⟨A4, n4, c4, L, rfl, hlc4, hn4', HL, hD, hb5⟩
          have hb6 := HB8.out.trans (hb5.mono hs8)
          obtain ⟨D, hDD⟩ : ∃ D, D = dgs T := ⟨_, rfl⟩
          rw [← hDD] at HL H10 HEND HPW HLAST HCALL
          have LD := Lib.hid (show D.length = n4 by rw [← HL.out, List.length_map]; exact hD.len)
          obtain rfl : n4 = 10 := by rw [← LD.out]; exact H10.out
          have HDM := Lib.hid hD
          have HBW := Lib.hid hb6
          have HIM4 := Lib.hid (HIM8.out.below hb5)
          have HX4 := Lib.hid (HX8.out.below hb5 lX8)
          have hs4 := hb6.size
          clear hb6 hb5 hD hDD z0 z1 z2 HX8 HIM8 HRS HR HRN HPl
          go_wp2
          go_loopw [12, 13, 14] (fun s l i wr => ∃ j : Nat, j ≤ 10 ∧ i = .int .i64 j ∧ s = .int .i64 ((D.take j).map fun d => (cntA (mCount4 c x0) d).add).sum ∧ l = .int .i64 (lastV (D.take j)) ∧ (0 ≤ ((D.take j).map fun d => (cntA (mCount4 c x0) d).add).sum ∧ ((D.take j).map fun d => (cntA (mCount4 c x0) d).add).sum ≤ 5 * j) ∧ Below w4.heap.size w4 wr) (fun _ _ i _ => 10 - (intOf i).toNat)
          case atStart => exact ⟨0, Nat.zero_le _, rfl, rfl, rfl, by simp, Below.refl _ _⟩
          case round =>
            obtain ⟨j, hj, rfl, rfl, rfl, hsb, hbel⟩ := hrel
            have hsz := hbel.size
            by_cases hjn : j < 10
            · have ej10 : decide ((j : Int) < 10) = true := by simp; omega
              obtain ⟨s, hs⟩ : ∃ s, s = ((D.take j).map fun d => (cntA (mCount4 c x0) d).add).sum := ⟨_, rfl⟩
              obtain ⟨l, hl⟩ : ∃ l, l = lastV (D.take j) := ⟨_, rfl⟩
              rw [← hs] at hsb ⊢
              rw [← hl]
              have HS := Lib.hid hs
              have HLV := Lib.hid hl
              clear hs hl
              obtain ⟨b, o, x, A', n'', k', rfl, hbB, d0, d1, d2, d3, d4, hlk, hn5, hri, HXL, HXX⟩ := (HDM.out.below hbel).val hjn
              have HXD : Hid (D[j]? = some x) := by have := HXX.out; rwa [HL.out] at this
              have hxm : x ∈ D := List.mem_of_getElem? HXD.out
              obtain ⟨hxe, hx1⟩ := HEND.out x hxm
              obtain ⟨t, cx, hct, hcx⟩ := HCALL.out x hxm
              have hth : x.th < 4 := by have := (List.getElem?_eq_some_iff.1 hct).1; simpa [mCount4] using this
              have hbs : b < wr.heap.size := by omega
              have bXr := HX4.out.below hbel HX4.out.lt
              have z2 : wr.cell? ⟨w1.heap.size, 2, none⟩ = _ := bXr.cell 2
              simp only [List.getElem?_cons_zero, List.getElem?_cons_succ] at z2
              have lXr := bXr.lt
              obtain ⟨bt, ot, At', nt', kt, t', rfl, hbt, y0, hlt, hrl, HTT, htm⟩ := ((HIM4.out.ts).below hbel).val (i := x.th) (by omega)
              obtain rfl : t' = t := by have := HTT.out; rw [hct] at this; injection this with this; exact this.symm
              have hcl : x.cl < nt' := by have h1 := hrl.len; have h2 := (List.getElem?_eq_some_iff.1 hcx).1; omega
              obtain ⟨bl, ol, qx, A9, n9, k9, ar, hAl, hbl, l0, l1, hlk7, hri7, HL7, hl7m⟩ := hrl.val hcl
              subst hAl
              obtain rfl : cx = ⟨qx, ar⟩ := by have := HL7.out; rw [hcx] at this; injection this
              have hcc := cnt4_th hct hcx
              dsimp only at hcc
              have lbt : bt < wr.heap.size := by omega
              have lbl : bl < wr.heap.size := by omega
              have HCA : Hid ((cntA (mCount4 c x0) x).put = decide (qx = 0) ∧ (cntA (mCount4 c x0) x).add = if qx = 0 then ar.headD 0 else 0) := by
                show _ ∧ _
                unfold cntA
                rw [hct]
                simp only [Option.getD_some]
                rw [hcx]
                exact ⟨rfl, rfl⟩
              have HXE := Lib.hid hxe
              have exe : (x.e == -1) = false := by simp; exact hxe
              obtain ⟨t0, ht0⟩ : ∃ t0, x.to = [t0] := List.length_eq_one_iff.1 hx1
              have hn1 : n'' = 1 := by have := hri.len; omega
              subst hn1
              have HTO := Lib.hid ht0
              obtain ⟨bt0, ot0, tv, rfl, hbt0, ct0, HTV, _⟩ := hri.val (i := 0) (by omega)
              rw [Nat.add_zero] at ct0
              have htv : t0 = tv := by have := HTV.out; rw [ht0] at this; simpa using this
              subst htv
              have HXM := Lib.hid hxm
              have nt20 : nt' ≤ 20 := by have h1 := hrl.len; have h2 := ((HOk.out x0).2.2.2.2 _ htm).1; omega
              clear htm hl7m hrl bXr HTT hct hcx ht0 HTV hri hxm hxe hx1 HXX
              rcases hcc with ⟨rfl, y, rfl, hy0, hy5⟩ | ⟨hq1, hq2⟩
              · have e00 : ((0 : Int) == 0) = true := rfl
                have lt0 : bt0 < wr.heap.size := by omega
                obtain ⟨ba, oa, av, hAa, hba, ca, HAV, _⟩ := hri7.val (i := 0) (by have := hri7.len; simp at this; omega)
                subst hAa
                rw [Nat.add_zero] at ca
                have hav : y = av := by have := HAV.out; simpa using this
                subst hav
                have hn9 : n9 = 1 := by have := hri7.len; simpa using this.symm
                subst hn9
                have lba : ba < wr.heap.size := by omega
                clear HAV hri7
                go_wp2
                refine region_first [0, 1, 2, 3, 4, 5, 6, 7, 8, 9, 10, 11, 12, 13, 14, 15] (.cons 16 (seq [17] .nil)) (by kernel_rfl) (by kernel_rfl) ?_
                simp only [pick, List.map_cons, List.map_nil, List.getD_cons_zero, List.getD_cons_succ]
                go_wp2
                refine ord_call (by kernel_rfl) ?_
                simp only [pick, List.map_cons, List.map_nil, List.getD_cons_zero, List.getD_cons_succ]
                go_wp2
                refine ⟨ext_below ((Below.refl _ _).alloc (Nat.le_refl _) _), ?_⟩
                refine ord_last [17] (by kernel_rfl) ?_
                simp only [pick, List.map_cons, List.map_nil, List.getD_cons_zero, List.getD_cons_succ]
                go_wp2
                have hbc := ((Below.refl wr.heap.size wr).alloc (Nat.le_refl _) (Obj.cells #[.int .i64 0, .slice (some ⟨ba, oa, none⟩) 1 k9] 41)).drew
                have bc0 := Box.newAt wr 41 [.int .i64 0, .slice (some ⟨ba, oa, none⟩) 1 k9] wr.heap.size rfl
                have bc := bc0.below (Below.refl _ _).drew bc0.lt
                clear bc0
                obtain ⟨wc, hwc⟩ : ∃ W, W = (wr.alloc (Obj.cells #[.int .i64 0, .slice (some ⟨ba, oa, none⟩) 1 k9] 41)).drew := ⟨_, rfl⟩
                obtain ⟨gc, hgc⟩ : ∃ g, g = wr.heap.size := ⟨_, rfl⟩
                rw [← hwc] at hbc bc ⊢
                have Hgc := Lib.hid hgc
                have Hbc := Lib.hid hbc
                have hsc := hbc.size
                rw [← hgc] at bc ⊢
                clear hwc hgc
                have lgc := bc.lt
                have v0 : wc.cell? ⟨gc, 0, none⟩ = _ := bc.cell 0
                have v1 : wc.cell? ⟨gc, 1, none⟩ = _ := bc.cell 1
                simp only [List.getElem?_cons_zero, List.getElem?_cons_succ] at v0 v1
                have d2 := (hbc.cell (p := ⟨b, o + j * 5 + 2, none⟩) hbs).trans d2
                have d4 := (hbc.cell (p := ⟨b, o + j * 5 + 4, none⟩) hbs).trans d4
                have ct0 := (hbc.cell (p := ⟨bt0, ot0, none⟩) (show bt0 < wr.heap.size by omega)).trans ct0
                have lbc : b < wc.heap.size := by omega
                have lt0 : bt0 < wc.heap.size := by omega
                have hbelc : Below w4.heap.size w4 wc := hbel.trans (hbc.mono hsz)
                have Hbelc := Lib.hid hbelc
                have hszc := hbelc.size
                clear hbc y0 l0 l1 z2 d0 d1 d3
                go_loopw [16] (fun i wr => ∃ k : Nat, k ≤ j ∧ i = .int .i64 k ∧ Below wc.heap.size wc wr) (fun i _ => j - (intOf i).toNat)
                case atStart => exact ⟨0, Nat.zero_le _, rfl, Below.refl _ _⟩
                case round =>
                  obtain ⟨k, hk, rfl, hbelk⟩ := hrel
                  have hszk := hbelk.size
                  have hbel2 : Below w4.heap.size w4 wr := Hbelc.out.trans (hbelk.mono Hbelc.out.size)
                  have HBW2 := Lib.hid hbel2
                  have hsz2 := hbel2.size
                  have d2 := (hbelk.cell (p := ⟨b, o + j * 5 + 2, none⟩) lbc).trans d2
                  have d4 := (hbelk.cell (p := ⟨b, o + j * 5 + 4, none⟩) lbc).trans d4
                  have ct0 := (hbelk.cell (p := ⟨bt0, ot0, none⟩) lt0).trans ct0
                  have lbk : b < wr.heap.size := by omega
                  have lt0k : bt0 < wr.heap.size := by omega
                  clear v0 v1
                  by_cases hkj : k < j
                  · obtain ⟨b', o', x', A'', nk1, k'', hAe, hbB', d0', d1', d2', d3', d4', hlk', hn5', hri', HXL', HXX'⟩ := (HDM.out.below hbel2).val (show k < 10 by omega)
                    injection hAe with hAe
                    injection hAe with hAe1 hAe2
                    subst hAe1 hAe2
                    have HXD' : Hid (D[k]? = some x') := by have := HXX'.out; rwa [HL.out] at this
                    have hxm' : x' ∈ D := List.mem_of_getElem? HXD'.out
                    obtain ⟨hxe', hx1'⟩ := HEND.out x' hxm'
                    obtain ⟨t', cx', hct', hcx'⟩ := HCALL.out x' hxm'
                    have hth' : x'.th < 4 := by have := (List.getElem?_eq_some_iff.1 hct').1; simpa [mCount4] using this
                    have bXr := HX4.out.below hbel2 HX4.out.lt
                    have z2 : wr.cell? ⟨w1.heap.size, 2, none⟩ = _ := bXr.cell 2
                    simp only [List.getElem?_cons_zero, List.getElem?_cons_succ] at z2
                    have lXr := bXr.lt
                    obtain ⟨bt', ot', At'', nt'', kt', t'', hAt', hbt', y0', hlt', hrl', HTT', htm'⟩ := ((HIM4.out.ts).below hbel2).val (i := x'.th) (by omega)
                    injection hAt' with hAt'
                    injection hAt' with hAt1 hAt2
                    subst hAt1 hAt2
                    obtain rfl : t'' = t' := by have := HTT'.out; rw [hct'] at this; injection this with this; exact this.symm
                    have hcl' : x'.cl < nt'' := by have h1 := hrl'.len; have h2 := (List.getElem?_eq_some_iff.1 hcx').1; omega
                    obtain ⟨bl', ol', qy, A9', n9', k9', ar', hAl', hbl', l0', l1', hlk7', hri7', HL7', hl7m'⟩ := hrl'.val hcl'
                    subst hAl'
                    obtain rfl : cx' = ⟨qy, ar'⟩ := by have := HL7'.out; rw [hcx'] at this; injection this
                    have hcc' := cnt4_th hct' hcx'
                    dsimp only at hcc'
                    have nt20' : nt'' ≤ 20 := by have h1 := hrl'.len; have h2 := ((HOk.out x0).2.2.2.2 _ htm').1; omega
                    have lbt' : bt < wr.heap.size := by omega
                    have lbl' : bl' < wr.heap.size := by omega
                    have hput' : (cntA (mCount4 c x0) x').put = decide (qy = 0) := by
                      unfold cntA
                      rw [hct']
                      simp only [Option.getD_some]
                      rw [hcx']
                    obtain ⟨t1, ht1⟩ : ∃ t1, x'.to = [t1] := List.length_eq_one_iff.1 hx1'
                    have hn1' : nk1 = 1 := by have := hri'.len; omega
                    subst hn1'
                    obtain ⟨bt1, ot1, tv1, rfl, hbt1, ct1, HTV1, _⟩ := hri'.val (i := 0) (by omega)
                    rw [Nat.add_zero] at ct1
                    have htv1 : t1 = tv1 := by have := HTV1.out; rw [ht1] at this; simpa using this
                    subst htv1
                    have lt1 : bt1 < wr.heap.size := by omega
                    have hne' : qy = 0 → t1 ≠ t0 := by
                      intro h0 he
                      have := pw_at HPW.out HXD'.out HXD.out hkj (by rw [hput', h0]; rfl) (by rw [HCA.out.1]; rfl)
                      rw [ht1, HTO.out] at this
                      exact this he
                    clear htm' hl7m' hrl' bXr HTT' hct' hcx' HTV1 hri' hxm' hxe' hx1' HXX' hput' ht1 hri7' l1'
                    rcases hcc' with ⟨rfl, _⟩ | ⟨rfl, _⟩
                    · have e1 : (t1 == t0) = false := by simp; exact hne' rfl
                      clear hne'
                      go_wp2
                      refine region_two [0, 1, 2, 3, 4, 5, 6, 7, 8, 9, 10, 11, 12, 13, 14, 15, 16, 17, 18, 19, 20, 21, 22, 23, 24, 25, 26, 27, 28, 29, 30, 31, 32, 33, 34] [] (by kernel_rfl) (by kernel_rfl) ?_
                      simp only [pick, List.map_cons, List.map_nil, List.getD_cons_zero, List.getD_cons_succ]
                      go_wp2
                      go_roundw
                      case rel => exact ⟨k + 1, by omega, by go_num, by first | exact hbelk | exact hbelk.drew⟩
                      case measure => simp [intOf]; omega
                    · clear hne'
                      go_wp2
                      refine region_two [0, 1, 2, 3, 4, 5, 6, 7, 8, 9, 10, 11, 12, 13, 14, 15, 16, 17, 18, 19, 20, 21, 22, 23, 24, 25, 26, 27, 28, 29, 30, 31, 32, 33, 34] [] (by kernel_rfl) (by kernel_rfl) ?_
                      simp only [pick, List.map_cons, List.map_nil, List.getD_cons_zero, List.getD_cons_succ]
                      go_wp2
                      go_roundw
                      case rel => exact ⟨k + 1, by omega, by go_num, by first | exact hbelk | exact hbelk.drew⟩
                      case measure => simp [intOf]; omega
                  · obtain rfl : j = k := by omega
                    by_cases h3 : x.th = 3
                    · have H3 := Lib.hid h3
                      have e3 : ((x.th : Int) == 3) = true := by simp; omega
                      clear h3
                      go_wp2
                      go_roundw
                      case rel =>
                        have hadd : (cntA (mCount4 c x0) x).add = y := by rw [HCA.out.2]; simp
                        refine ⟨j + 1, by omega, by go_num, ?_, ?_, ?_, HBW2.out⟩
                        · rw [at_take HXD.out, List.map_append, List.sum_append, List.map_singleton, ← HS.out, hadd]
                          simp
                        · rw [at_take HXD.out, lastV_snoc, if_pos H3.out, HTO.out]
                          rfl
                        · rw [at_take HXD.out, List.map_append, List.sum_append, List.map_singleton, ← HS.out, hadd]
                          simp only [List.sum_cons, List.sum_nil]
                          omega
                      case measure => simp [intOf]; omega
                    · have H3 := Lib.hid h3
                      have e3 : ((x.th : Int) == 3) = false := by simp; omega
                      clear h3
                      go_wp2
                      go_roundw
                      case rel =>
                        have hadd : (cntA (mCount4 c x0) x).add = y := by rw [HCA.out.2]; simp
                        refine ⟨j + 1, by omega, by go_num, ?_, ?_, ?_, HBW2.out⟩
                        · rw [at_take HXD.out, List.map_append, List.sum_append, List.map_singleton, ← HS.out, hadd]
                          simp
                        · rw [at_take HXD.out, lastV_snoc, if_neg H3.out, ← HLV.out]
                        · rw [at_take HXD.out, List.map_append, List.sum_append, List.map_singleton, ← HS.out, hadd]
                          simp only [List.sum_cons, List.sum_nil]
                          omega
                      case measure => simp [intOf]; omega
              · have e10 : (qx == 0) = false := by rw [hq1]; rfl
                have HQ1 := Lib.hid hq1
                have lt0 : bt0 < wr.heap.size := by omega
                clear hq1 hq2 hri7
                by_cases h3 : x.th = 3
                · have H3 := Lib.hid h3
                  have e3 : ((x.th : Int) == 3) = true := by simp; omega
                  clear h3
                  go_wp2
                  refine region_first [0, 1, 2, 3, 4, 5, 6, 7, 8, 9, 10, 11, 12, 13, 14, 15] (.cons 16 (seq [17] .nil)) (by kernel_rfl) (by kernel_rfl) ?_
                  simp only [pick, List.map_cons, List.map_nil, List.getD_cons_zero, List.getD_cons_succ]
                  go_wp2
                  refine ord_call (by kernel_rfl) ?_
                  simp only [pick, List.map_cons, List.map_nil, List.getD_cons_zero, List.getD_cons_succ]
                  go_wp2
                  refine ⟨ext_below ((Below.refl _ _).alloc (Nat.le_refl _) _), ?_⟩
                  refine ord_last [17] (by kernel_rfl) ?_
                  simp only [pick, List.map_cons, List.map_nil, List.getD_cons_zero, List.getD_cons_succ]
                  go_wp2
                  have hbc := ((Below.refl wr.heap.size wr).alloc (Nat.le_refl _) (Obj.cells #[.int .i64 qx, .slice A9 n9 k9] 41)).drew
                  have HBW2 := Lib.hid (hbel.trans (hbc.mono hsz))
                  clear hbc
                  go_roundw
                  case rel =>
                    have hadd : (cntA (mCount4 c x0) x).add = 0 := by rw [HCA.out.2, HQ1.out]; rfl
                    refine ⟨j + 1, by omega, by go_num, ?_, ?_, ?_, HBW2.out⟩
                    · rw [at_take HXD.out, List.map_append, List.sum_append, List.map_singleton, ← HS.out, hadd]
                      simp
                    · rw [at_take HXD.out, lastV_snoc, if_pos H3.out, HTO.out]
                      rfl
                    · rw [at_take HXD.out, List.map_append, List.sum_append, List.map_singleton, ← HS.out, hadd]
                      simp only [List.sum_cons, List.sum_nil]
                      omega
                  case measure => simp [intOf]; omega
                · have H3 := Lib.hid h3
                  have e3 : ((x.th : Int) == 3) = false := by simp; omega
                  clear h3
                  go_wp2
                  refine region_first [0, 1, 2, 3, 4, 5, 6, 7, 8, 9, 10, 11, 12, 13, 14, 15] (.cons 16 (seq [17] .nil)) (by kernel_rfl) (by kernel_rfl) ?_
                  simp only [pick, List.map_cons, List.map_nil, List.getD_cons_zero, List.getD_cons_succ]
                  go_wp2
                  refine ord_call (by kernel_rfl) ?_
                  simp only [pick, List.map_cons, List.map_nil, List.getD_cons_zero, List.getD_cons_succ]
                  go_wp2
                  refine ⟨ext_below ((Below.refl _ _).alloc (Nat.le_refl _) _), ?_⟩
                  refine ord_last [17] (by kernel_rfl) ?_
                  simp only [pick, List.map_cons, List.map_nil, List.getD_cons_zero, List.getD_cons_succ]
                  go_wp2
                  have hbc := ((Below.refl wr.heap.size wr).alloc (Nat.le_refl _) (Obj.cells #[.int .i64 qx, .slice A9 n9 k9] 41)).drew
                  have HBW2 := Lib.hid (hbel.trans (hbc.mono hsz))
                  clear hbc
                  go_roundw
                  case rel =>
                    have hadd : (cntA (mCount4 c x0) x).add = 0 := by rw [HCA.out.2, HQ1.out]; rfl
                    refine ⟨j + 1, by omega, by go_num, ?_, ?_, ?_, HBW2.out⟩
                    · rw [at_take HXD.out, List.map_append, List.sum_append, List.map_singleton, ← HS.out, hadd]
                      simp
                    · rw [at_take HXD.out, lastV_snoc, if_neg H3.out, ← HLV.out]
                    · rw [at_take HXD.out, List.map_append, List.sum_append, List.map_singleton, ← HS.out, hadd]
                      simp only [List.sum_cons, List.sum_nil]
                      omega
                  case measure => simp [intOf]; omega
            · obtain rfl : j = 10 := by omega
              have hD10 : D.take 10 = D := List.take_of_length_le (by rw [LD.out]; exact Nat.le_refl _)
              rw [hD10, HLAST.out]
              have HBF := Lib.hid (HBW.out.trans (hbel.mono (HBW.out.size)))
              go_wp2
              go_ret
              exact ⟨by simp, HBF.out⟩


end Go.Proofs.YtnchgdjdfhfedaaDoor
