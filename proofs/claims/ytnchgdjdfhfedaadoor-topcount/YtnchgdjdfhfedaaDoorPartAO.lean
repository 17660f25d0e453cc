/- Of this claim's own texts these, one behind the other: TopSure, TopCountP. No statement of the seat is proved here; no condition but those that stand at the theorems. -/
import Derived.Test.YtnchgdjdfhfedaaDoorPartAN
import Derived.Test.YtnchgdjdfhfedaaDoorPartAF
import Derived.Test.YtnchgdjdfhfedaaDoorPartAG
import Derived.Test.YtnchgdjdfhfedaaDoorPartAJ
import Derived.Test.YtnchgdjdfhfedaaDoorPartAK
import Derived.Test.YtnchgdjdfhfedaaDoorPartAL
set_option linter.unusedSimpArgs false
set_option linter.unusedVariables false
namespace Go.Proofs.YtnchgdjdfhfedaaDoor
open Go.RowKit Go.Ord Go.Baro

theorem RA_litT (w : World) (e : TypeId) (a : Ac) : RA (w.alloc (.cells #[.int .i64 a.b, .int .i64 a.e, .bool a.put, .int .i64 a.v, .int .i64 a.add] e)) (w.alloc (.cells #[.int .i64 a.b, .int .i64 a.e, .bool a.put, .int .i64 a.v, .int .i64 a.add] e)).heap.size (some ⟨w.heap.size, 0, none⟩) 1 [a] := by
  have h := Rd.lit w e (cs := acV a) (s := 5) (n := 1) rfl
  unfold RA
  simp only [List.flatMap_cons, List.flatMap_nil, List.append_nil]
  exact h
set_option maxRecDepth 100000 in
set_option maxHeartbeats 1000000 in
theorem top_sure (hP : LinCheckSpec) (w : World) : Calls Tryd.prog 21 #[] w fun e w' => e = .returned (.bool true) ∧ Below w.heap.size w w' := by
  have HP := Lib.hid hP
  have h0 := Below.refl w.heap.size w
  have r1 := Lib.hid (RA_litT w 46 ⟨1, 2, false, 0, 0⟩)
  have hb1 := h0.alloc (Nat.le_refl _) (Obj.cells #[.int .i64 1, .int .i64 2, .bool false, .int .i64 0, .int .i64 0] 46)
  clear hP
  go_enter Tryd.func21, Tryd.ntmps21
  go_wp2_with fail
  refine (HP.out _ _ 1 1 [⟨1, 2, false, 0, 0⟩] 1 0 true 0 r1.out (by omega) (Nat.le_refl _) (fun a ha => by rw [List.mem_singleton.1 ha]; unfold inA inW; simp) (by unfold inW; simp) sure1).mono ?_
  rintro e w1 ⟨rfl, hb2⟩
  have hb3 := hb1.trans (hb2.mono hb1.size)
  have hs3 := hb3.size
  have r2 := Lib.hid (RA_litT w1 46 ⟨1, 2, false, 1, 0⟩)
  have hb4 := hb3.alloc hs3 (Obj.cells #[.int .i64 1, .int .i64 2, .bool false, .int .i64 1, .int .i64 0] 46)
  go_wp2_with fail
  refine (HP.out _ _ 1 1 [⟨1, 2, false, 1, 0⟩] 1 0 false 0 r2.out (by omega) (Nat.le_refl _) (fun a ha => by rw [List.mem_singleton.1 ha]; unfold inA inW; simp) (by unfold inW; simp) sure2).mono ?_
  rintro e w2 ⟨rfl, hb5⟩
  have hb6 := hb4.trans (hb5.mono hb4.size)
  go_wp2
  go_ret
  exact ⟨rfl, hb6⟩
end Go.Proofs.YtnchgdjdfhfedaaDoor

set_option linter.unusedSimpArgs false
set_option linter.unusedVariables false
namespace Go.Baro
open Go.RowKit
theorem flat_add : ∀ (L : List Ac) (k : Nat) (a : Ac) (y : Int), L[k]? = some a → (L.flatMap acV).set (k * 5 + 4) (.int .i64 y) = (L.set k { a with add := y }).flatMap acV
  | [], k, a, y, h => by simp at h
  | b :: L, 0, a, y, h => by
    simp only [List.getElem?_cons_zero, Option.some.injEq] at h
    subst h
    simp [acV]
  | b :: L, k + 1, a, y, h => by
    simp only [List.getElem?_cons_succ] at h
    have ih := flat_add L k a y h
    simp only [List.set_cons_succ, List.flatMap_cons]
    rw [← ih, List.set_append_right _ _ (by simp [acV]; omega)]
    congr 2
    simp [acV]
    omega
theorem drop_at {α : Type} {D : List α} {K : Nat} {d : α} (hd : D[K]? = some d) : D.drop K = d :: D.drop (K + 1) := by
  obtain ⟨h, rfl⟩ := List.getElem?_eq_some_iff.1 hd
  exact List.drop_eq_getElem_cons h
theorem lk_len {α β : Type} {D : List α} {f : α → β} {K : Nat} {d : α} (hd : D[K]? = some d) : ((D.take K).map f).length = K := by
  have := (List.getElem?_eq_some_iff.1 hd).1
  rw [List.length_map, List.length_take]; omega
theorem lk_at {α β : Type} {D : List α} {f g : α → β} {K : Nat} {d : α} (hd : D[K]? = some d) : ((D.take K).map f ++ (D.drop K).map g)[K]? = some (g d) := by
  rw [List.getElem?_append_right (by rw [lk_len hd]; exact Nat.le_refl _), lk_len hd, Nat.sub_self, drop_at hd]; rfl
theorem lk_step {α β : Type} {D : List α} {f g : α → β} {K : Nat} {d : α} (hd : D[K]? = some d) : (D.take (K + 1)).map f ++ (D.drop (K + 1)).map g = ((D.take K).map f ++ (D.drop K).map g).set K (f d) := by
  rw [List.set_append_right _ _ (by rw [lk_len hd]; exact Nat.le_refl _), lk_len hd, Nat.sub_self, drop_at hd, List.take_add_one, hd]
  simp
theorem set_sameK {β : Type} {l : List β} {K : Nat} {a : β} (h : l[K]? = some a) : l.set K a = l := by
  apply List.ext_getElem?
  intro i
  by_cases hi : K = i
  · subst hi; rw [List.getElem?_set_self (List.getElem?_eq_some_iff.1 h).1, h]
  · rw [List.getElem?_set_ne hi]
theorem cell_heap {w w' : World} {b i : Nat} (h : w'.heap[b]? = w.heap[b]?) : w'.cell? ⟨b, i, none⟩ = w.cell? ⟨b, i, none⟩ := by unfold World.cell?; rw [h]
end Go.Baro
namespace Go.Proofs.YtnchgdjdfhfedaaDoor
open Go.RowKit Go.Ord Go.OrdG Go.Baro Go.Baro.Cnt

/-- What is asked of the runs. -/
def TcD (c : Cu) : Prop := ∀ (by_ : List Int) (S : List Nat), S.length ≤ 400 → (∀ n ∈ S, n < 3) →
    noErr (plyG (mTc c by_) 0 S (g0 (mTc c by_))) ∧ HistOk (mTc c by_) pfN goodN (plyG (mTc c by_) 0 S (g0 (mTc c by_))).out ∧
    (okL 2 ((dgs (plyG (mTc c by_) 0 S (g0 (mTc c by_))).out).map (cntA (mTc c by_))) ∧ ∀ a ∈ (dgs (plyG (mTc c by_) 0 S (g0 (mTc c by_))).out).map (cntA (mTc c by_)), inA a) ∧ Lin 2 [0] ((dgs (plyG (mTc c by_) 0 S (g0 (mTc c by_))).out).map (cntA (mTc c by_))) ∧
    ∀ d ∈ dgs (plyG (mTc c by_) 0 S (g0 (mTc c by_))).out, hA (mTc c by_) pfN d = { cntA (mTc c by_) d with add := 0 }
set_option maxRecDepth 100000 in
set_option maxHeartbeats 1000000 in
theorem top_pfCnt : PfSpec 20 pfN goodN := by
  intro w x A A' n c n' c' to b h h' hG hn hn'
  obtain ⟨k, ar⟩ := x
  have h0 := Below.refl w.heap.size w
  have hb1 := h0.alloc (Nat.le_refl _) (Obj.cells #[.int .i64 k, .slice A n c] 41)
  have HL' := Lib.hid h'.len
  dsimp only at h hG
  have hk : (k == 0) = decide (k = 0) := rfl
  clear h
  cases b with
  | false =>
    rcases hG with ⟨hk, _⟩ | ⟨hk, _⟩ <;> subst hk
    · go_enter Tryd.func20, Tryd.ntmps20
      go_wp2
      go_ret3
      exact ⟨rfl, hb1⟩
    · go_enter Tryd.func20, Tryd.ntmps20
      go_wp2
      go_ret3
      exact ⟨rfl, hb1⟩
  | true =>
    by_cases h1 : n' = 1
    · subst h1
      obtain ⟨bb, o, v, rfl, hbB, hc, HX, _⟩ := h'.val (i := 0) (by omega)
      have hv : to.length = 1 ∧ to.headD 0 = v := by
        have := HX.out
        refine ⟨HL'.out, ?_⟩
        cases to with
        | nil => simp at this
        | cons y l => simp at this; simp [this]
      have HV := Lib.hid hv
      simp only [Nat.zero_add, Nat.add_zero] at hc
      clear h' hv
      rcases hG with ⟨hk, _⟩ | ⟨hk, _⟩ <;> subst hk
      · go_enter Tryd.func20, Tryd.ntmps20
        go_wp2
        refine region_two [0, 1, 2, 3, 4, 5, 6, 7, 8] [] (by kernel_rfl) (by kernel_rfl) ?_
        simp only [pick, List.map_cons, List.map_nil, List.getD_cons_zero, List.getD_cons_succ]
        go_wp2
        go_ret3
        unfold pfN
        dsimp only
        rw [if_neg (by simp), if_pos HV.out.1, HV.out.2]
        exact ⟨rfl, hb1.drew⟩
      · go_enter Tryd.func20, Tryd.ntmps20
        go_wp2
        refine region_two [0, 1, 2, 3, 4, 5, 6, 7, 8] [] (by kernel_rfl) (by kernel_rfl) ?_
        simp only [pick, List.map_cons, List.map_nil, List.getD_cons_zero, List.getD_cons_succ]
        go_wp2
        go_ret3
        unfold pfN
        dsimp only
        rw [if_neg (by simp), if_pos HV.out.1, HV.out.2]
        exact ⟨rfl, hb1.drew⟩
    · have hq : ((n' : Int) == 1) = false := by simp; omega
      have HN := Lib.hid (show ¬ to.length = 1 by rw [HL'.out]; exact h1)
      clear h' hk
      go_enter Tryd.func20, Tryd.ntmps20
      go_wp2
      go_ret3
      unfold pfN
      dsimp only
      rw [if_neg (by simp), if_neg HN.out]
      exact ⟨rfl, hb1⟩
theorem mem_ofM {l : List Nat} {a : Nat} (h : l.contains a = true) : a ∈ l := by simpa using h
def tMach (t : TypeId) : Prop := t = 32
/-- The calls of a thread when i of them are written. -/
def tcJ (by_ : List Int) (i q : Nat) : List Cl := ((List.range i).filter fun j => decide (j % 3 = q)).map (tcC by_)
theorem tcJ_succ (by_ : List Int) (i q : Nat) : tcJ by_ (i + 1) q = if i % 3 = q then tcJ by_ i q ++ [tcC by_ i] else tcJ by_ i q := by
  unfold tcJ
  rw [List.range_succ, List.filter_append, List.map_append]
  by_cases h : i % 3 = q <;> simp [h]
theorem tcJ_all {by_ : List Int} {q : Nat} (h : q < 3) : tcJ by_ 9 q = tcT by_ q := by
  rcases (by omega : q = 0 ∨ q = 1 ∨ q = 2) with rfl | rfl | rfl <;> rfl
theorem tcJ_len {by_ : List Int} {i q : Nat} (hi : i ≤ 9) : (tcJ by_ i q).length ≤ 9 := by
  unfold tcJ
  rw [List.length_map]
  exact Nat.le_trans (List.length_filter_le _ _) (by simpa using hi)
theorem tcC_mem (by_ : List Int) (i : Nat) : (tcC by_ i = ⟨0, [tcN by_ i]⟩ ∧ 0 < tcN by_ i ∧ tcN by_ i < 3) ∨ (tcC by_ i = ⟨1, []⟩ ∧ tcN by_ i = 0) := by
  unfold tcC
  have h1 : 0 ≤ tcN by_ i ∧ tcN by_ i < 3 := by unfold tcN; omega
  by_cases h : 0 < tcN by_ i
  · rw [if_pos h]; exact .inl ⟨rfl, h, h1.2⟩
  · rw [if_neg h]; exact .inr ⟨rfl, by omega⟩
theorem tc_th (by_ : List Int) (q : Nat) : okTh (tcT by_ q) := by
  refine ⟨by simp [tcT], fun x hx => ?_⟩
  have h : ∃ i, x = tcC by_ i := by
    simp only [tcT, List.mem_cons, List.not_mem_nil, or_false] at hx
    rcases hx with rfl | rfl | rfl <;> exact ⟨_, rfl⟩
  obtain ⟨i, rfl⟩ := h
  rcases tcC_mem by_ i with ⟨e, h1, h2⟩ | ⟨e, _⟩ <;> rw [e]
  · exact ⟨by unfold inW; dsimp only; omega, by simp, fun y hy => by simp only [List.mem_singleton] at hy; subst hy; unfold inW; omega⟩
  · exact ⟨by unfold inW; dsimp only; omega, by simp, fun y hy => by cases hy⟩
theorem tc_ts (by_ : List Int) : [tcT by_ 0, tcT by_ 1, tcT by_ 2] = (List.range 3).map (tcT by_) := rfl
/-- The machine in memory. -/
theorem tc_inM {c : Cu} (h : CuOk c) (by_ : List Int) {w : World} {Aw Ap Ag : Option Addr} {nw cw np cp ng cg g5 g7 B : Nat} {tg : Nat → Nat} {ts : Nat → Value}
    (q1 : QT w 3 1 Aw nw (c.ws.map (Value.int .i64))) (q2 : QT w 73 5 Ap np (cellsO c.ca)) (q3 : QT w 73 5 Ag ng (cellsO c.cg)) (b5 : Box w g5 24 [.slice Ap np cp, .slice Ag ng cg])
    (hm : Mg 3 41 42 tg w B g7 3 ts (tcT by_)) (hlw : nw ≤ cw) (hcw : cw ≤ 9223372036854775807) (hlp : np ≤ cp) (hlg : ng ≤ cg) :
    InM w Aw nw cw (some ⟨g5, 0, none⟩) 2 2 (some ⟨g7, 0, none⟩) 3 3 (mTc c by_) := by
  refine ⟨q1.rd, ?_, hm.rts, h.wi, ?_, ?_, ⟨hlw, hcw⟩, ⟨by omega, by omega⟩, ⟨by omega, by omega⟩⟩
  · refine rg_box (rows := [[.slice Ap np cp], [.slice Ag ng cg]]) b5 rfl rfl (by simp) fun i r x hr hx => ?_
    match i with
    | 0 =>
      simp [mTc] at hr hx
      subst hr hx
      exact ⟨Ap, np, cp, rfl, hlp, q2.rd⟩
    | 1 =>
      simp [mTc] at hr hx
      subst hr hx
      exact ⟨Ag, ng, cg, rfl, hlg, q3.rd⟩
    | i + 2 => simp at hr
  · intro x hx
    simp only [mTc, List.mem_cons, List.not_mem_nil, or_false] at hx
    rcases hx with rfl | rfl
    · exact ⟨by have := h.ac.1; omega, h.ai⟩
    · exact ⟨by have := h.gc.1; omega, h.gi⟩
  · intro t ht
    simp only [mTc, tc_ts, List.mem_map, List.mem_range] at ht
    obtain ⟨i, hi, rfl⟩ := ht
    exact tc_th _ _
theorem tc_ok {c : Cu} (h : CuOk c) (by_ : List Int) : okMc (mTc c by_) := by
  refine ⟨by have := h.w1; simp [mTc]; omega, by simp [mTc], by simp [mTc], fun x hx => ?_, fun t ht => ?_⟩
  · simp only [mTc, List.mem_cons, List.not_mem_nil, or_false] at hx
    rcases hx with rfl | rfl
    · exact h.ac
    · exact h.gc
  · simp only [mTc, tc_ts, List.mem_map, List.mem_range] at ht
    obtain ⟨i, hi, rfl⟩ := ht
    refine ⟨by simp [tcT], fun x hx => ?_⟩
    have hx' : ∃ i, x = tcC by_ i := by
      simp only [tcT, List.mem_cons, List.not_mem_nil, or_false] at hx
      rcases hx with rfl | rfl | rfl <;> exact ⟨_, rfl⟩
    obtain ⟨j, rfl⟩ := hx'
    rcases tcC_mem by_ j with ⟨e, _⟩ | ⟨e, _⟩ <;> rw [e] <;> exact ⟨by simp [mTc], by simp⟩
structure TcmV (L : Nat → Bool) (ny cy nz cz : Nat) (Ay Az : Option Addr) (c : Cu) (B : Nat) (w0 : World) (u19 u20 u21 u22 u23 u24 u5 : Value) (w : World) : Prop where
  bel : Below B w0 w
  f0 : L 0 = true → ∃ A n k, u19 = .slice A n k ∧ n ≤ k ∧ k ≤ 9223372036854775807 ∧ QT w 3 1 A n (c.ws.map (Value.int .i64))
  f1 : L 1 = true → ∃ A n k, u20 = .slice A n k ∧ n ≤ k ∧ k ≤ 9223372036854775807 ∧ QT w 73 5 A n (cellsO c.ca)
  f2 : L 2 = true → ∃ A n k, u21 = .slice A n k ∧ n ≤ k ∧ k ≤ 9223372036854775807 ∧ QT w 73 5 A n (cellsO c.cg)
  f3 : L 3 = true → ∃ g, u22 = .slice (some ⟨g, 0, none⟩) 2 2 ∧ B ≤ g ∧ Box w g 24 [u20, u21]
  f4 : L 4 = true → ∃ g, u23 = .slice (some ⟨g, 0, none⟩) 3 3 ∧ B ≤ g ∧ Box w g 42 (List.replicate 3 (.slice none 0 0))
  f5 : L 5 = true → u24 = .agg #[u19, u22, u23]
  f6 : L 6 = true → ∃ g, u5 = .pointer (some ⟨g, 0, none⟩) ∧ B ≤ g ∧ Box w g 32 [.slice none 0 0, .slice none 0 0, .slice none 0 0]
def TcmG (ny cy nz cz : Nat) (Ay Az : Option Addr) (c : Cu) (B : Nat) (w0 : World) (L : Nat → Bool) (a : Act) (w : World) : Prop :=
  ∃ u19 u20 u21 u22 u23 u24 u5, a = ⟨#[.slice Ay ny cy, .slice Az nz cz, undef, undef, .bool false, u5, undef, undef, undef, undef, undef, undef, undef, undef, undef, undef, undef, undef, undef, u19, u20, u21, u22, u23, u24, undef, undef, undef, undef, undef, undef, undef, undef, undef, undef, undef, undef, undef, undef, undef, undef, undef, undef, undef, undef, undef, undef, undef, undef, undef, undef, undef, undef, undef, undef, undef, undef, undef, undef, undef, undef, undef, undef, undef, undef, undef, undef, undef, undef, undef, undef, undef, undef, undef, undef, undef, undef, undef, undef, undef, undef, undef, undef, undef, undef, undef, undef, undef, undef, undef, undef, undef, undef, undef, undef, undef, undef, undef, undef, undef, undef, undef, undef, undef, undef, undef, undef, undef, undef, undef, undef, undef, undef, undef, undef, undef, undef, undef, undef, undef, undef, undef, undef, undef, undef, undef, undef, undef, undef, undef, undef, undef, undef, undef, undef, undef, undef, undef, undef, undef, undef, undef, undef, undef, undef, undef, undef, undef, undef, undef, undef, undef], []⟩ ∧ TcmV L ny cy nz cz Ay Az c B w0 u19 u20 u21 u22 u23 u24 u5 w

set_option maxRecDepth 100000 in
set_option maxHeartbeats 2000000 in
theorem top_TopCountP (c : Cu) (hc : CuOk c) (hgood : TcD c) (hPl : PlaySpecW) (hLC : LinCheckSpec) (hW : W0Spec 8 c.ws) (hA : C0Spec 9 c.ca) (hG : C0Spec 10 c.cg)
    (w : World) (hT : Tab w) (Ay : Option Addr) (ny cy : Nat) (xy : List Int) (hy : RI w w.heap.size .i64 Ay ny xy) (bY : ny ≤ 17592186044416) (_ : ∀ x ∈ xy, -9223372036854775808 ≤ x ∧ x ≤ 9223372036854775807) (_ : ny ≤ cy)
    (Az : Option Addr) (nz cz : Nat) (xz : List Int) (hz : RI w w.heap.size .u8 Az nz xz) (bZ : nz ≤ 140737488351232) (rZ : ∀ x ∈ xz, 0 ≤ x ∧ x < 256) (_ : nz ≤ cz) :
    Calls Tryd.prog 7 #[.slice Ay ny cy, .slice Az nz cz] w fun e w' => e = .returned (.bool true) ∧ Below w.heap.size w w' := by
  have HT := Lib.hid hT
  have HC := Lib.hid hc
  have HPl := Lib.hid hPl
  have HLC := Lib.hid hLC
  have HGood := Lib.hid (hgood xy)
  have HW := Lib.hid hW
  have HAd := Lib.hid hA
  have HGe := Lib.hid hG
  have HXy := Lib.hid hy
  have HXz := Lib.hid hz
  have HRz := Lib.hid rZ
  have HXLy := Lib.hid (show xy.length = ny from hy.len)
  have HB3 := Lib.hid (Below.refl w.heap.size w)
  clear hT hc hW hA hG hy hz rZ hPl hLC hgood
  go_enter Tryd.func7, Tryd.ntmps7
  go_wp2
  refine region_manyL (G := TcmG ny cy nz cz Ay Az c w.heap.size w) 7 (by kernel_rfl) (by kernel_rfl) ⟨_, _, _, _, _, _, _, rfl, ⟨(Below.refl _ _).drew, fun h => (by cases h), fun h => (by cases h), fun h => (by cases h), fun h => (by cases h), fun h => (by cases h), fun h => (by cases h), fun h => (by cases h)⟩⟩ ?_ ?_
  · intro i hi L a wq h1 h2c h3 hG
    obtain ⟨u19, u20, u21, u22, u23, u24, u5, rfl, hV⟩ := hG
    have hszq : w.heap.size ≤ wq.heap.size := hV.bel.size
    rcases (by omega : i = 0 ∨ i = 1 ∨ i = 2 ∨ i = 3 ∨ i = 4 ∨ i = 5 ∨ i = 6) with rfl | rfl | rfl | rfl | rfl | rfl | rfl
    · have hTq := HT.out.below (HB3.out.trans (hV.bel.mono HB3.out.size)) HT.out.lt
      simp only [pick, List.map_cons, List.map_nil, List.getD_cons_zero, List.getD_cons_succ]
      go_wp2_with fail
      refine (HW.out wq hTq).mono ?_
      rintro e w4 ⟨⟨Ax, nx, kx, rfl, lx, cx, qx⟩, hbN⟩
      go_wp2
      exact ⟨_, _, _, _, _, _, _, rfl, ⟨hV.bel.trans (hbN.mono hszq), fun _ => ⟨_, _, _, rfl, lx, cx, qx⟩, fun h => (hV.f1 (by rwa [markL_ne _ (show 1 ≠ 0 by decide)] at h)).imp fun A ⟨n, k, e, l, c, q⟩ => ⟨n, k, e, l, c, q.kc (Kc.below (T := fun _ => False) hbN) id⟩, fun h => (hV.f2 (by rwa [markL_ne _ (show 2 ≠ 0 by decide)] at h)).imp fun A ⟨n, k, e, l, c, q⟩ => ⟨n, k, e, l, c, q.kc (Kc.below (T := fun _ => False) hbN) id⟩, fun h => (hV.f3 (by rwa [markL_ne _ (show 3 ≠ 0 by decide)] at h)).imp fun g ⟨e, l, q⟩ => ⟨e, l, q.kc (Kc.below (T := fun _ => False) hbN) id⟩, fun h => (hV.f4 (by rwa [markL_ne _ (show 4 ≠ 0 by decide)] at h)).imp fun g ⟨e, l, q⟩ => ⟨e, l, q.kc (Kc.below (T := fun _ => False) hbN) id⟩, fun h => (by rw [markL_ne _ (show 5 ≠ 0 by decide)] at h; have := h2c 5 h 0 (mem_ofM (by kernel_rfl)); rw [h1] at this; cases this), fun h => (hV.f6 (by rwa [markL_ne _ (show 6 ≠ 0 by decide)] at h)).imp fun g ⟨e, l, q⟩ => ⟨e, l, q.kc (Kc.below (T := fun _ => False) hbN) id⟩⟩⟩
    · obtain ⟨Aq0, nq0, kq0, e0, l0, cq0, b0⟩ := hV.f0 (h3 0 (mem_ofM (by kernel_rfl)))
      subst e0
      have hTq := HT.out.below (HB3.out.trans (hV.bel.mono HB3.out.size)) HT.out.lt
      simp only [pick, List.map_cons, List.map_nil, List.getD_cons_zero, List.getD_cons_succ]
      go_wp2_with fail
      refine (HAd.out wq hTq).mono ?_
      rintro e w4 ⟨⟨Ax, nx, kx, rfl, lx, cx, qx⟩, hbN⟩
      go_wp2
      exact ⟨_, _, _, _, _, _, _, rfl, ⟨hV.bel.trans (hbN.mono hszq), fun h => (hV.f0 (by rwa [markL_ne _ (show 0 ≠ 1 by decide)] at h)).imp fun A ⟨n, k, e, l, c, q⟩ => ⟨n, k, e, l, c, q.kc (Kc.below (T := fun _ => False) hbN) id⟩, fun _ => ⟨_, _, _, rfl, lx, cx, qx⟩, fun h => (hV.f2 (by rwa [markL_ne _ (show 2 ≠ 1 by decide)] at h)).imp fun A ⟨n, k, e, l, c, q⟩ => ⟨n, k, e, l, c, q.kc (Kc.below (T := fun _ => False) hbN) id⟩, fun h => (by rw [markL_ne _ (show 3 ≠ 1 by decide)] at h; have := h2c 3 h 1 (mem_ofM (by kernel_rfl)); rw [h1] at this; cases this), fun h => (hV.f4 (by rwa [markL_ne _ (show 4 ≠ 1 by decide)] at h)).imp fun g ⟨e, l, q⟩ => ⟨e, l, q.kc (Kc.below (T := fun _ => False) hbN) id⟩, fun h => hV.f5 (by rwa [markL_ne _ (show 5 ≠ 1 by decide)] at h), fun h => (hV.f6 (by rwa [markL_ne _ (show 6 ≠ 1 by decide)] at h)).imp fun g ⟨e, l, q⟩ => ⟨e, l, q.kc (Kc.below (T := fun _ => False) hbN) id⟩⟩⟩
    · obtain ⟨Aq1, nq1, kq1, e1, l1, cq1, b1⟩ := hV.f1 (h3 1 (mem_ofM (by kernel_rfl)))
      subst e1
      have hTq := HT.out.below (HB3.out.trans (hV.bel.mono HB3.out.size)) HT.out.lt
      simp only [pick, List.map_cons, List.map_nil, List.getD_cons_zero, List.getD_cons_succ]
      go_wp2_with fail
      refine (HGe.out wq hTq).mono ?_
      rintro e w4 ⟨⟨Ax, nx, kx, rfl, lx, cx, qx⟩, hbN⟩
      go_wp2
      exact ⟨_, _, _, _, _, _, _, rfl, ⟨hV.bel.trans (hbN.mono hszq), fun h => (hV.f0 (by rwa [markL_ne _ (show 0 ≠ 2 by decide)] at h)).imp fun A ⟨n, k, e, l, c, q⟩ => ⟨n, k, e, l, c, q.kc (Kc.below (T := fun _ => False) hbN) id⟩, fun h => (hV.f1 (by rwa [markL_ne _ (show 1 ≠ 2 by decide)] at h)).imp fun A ⟨n, k, e, l, c, q⟩ => ⟨n, k, e, l, c, q.kc (Kc.below (T := fun _ => False) hbN) id⟩, fun _ => ⟨_, _, _, rfl, lx, cx, qx⟩, fun h => (by rw [markL_ne _ (show 3 ≠ 2 by decide)] at h; have := h2c 3 h 2 (mem_ofM (by kernel_rfl)); rw [h1] at this; cases this), fun h => (hV.f4 (by rwa [markL_ne _ (show 4 ≠ 2 by decide)] at h)).imp fun g ⟨e, l, q⟩ => ⟨e, l, q.kc (Kc.below (T := fun _ => False) hbN) id⟩, fun h => hV.f5 (by rwa [markL_ne _ (show 5 ≠ 2 by decide)] at h), fun h => (hV.f6 (by rwa [markL_ne _ (show 6 ≠ 2 by decide)] at h)).imp fun g ⟨e, l, q⟩ => ⟨e, l, q.kc (Kc.below (T := fun _ => False) hbN) id⟩⟩⟩
    · obtain ⟨Aq1, nq1, kq1, e1, l1, cq1, b1⟩ := hV.f1 (h3 1 (mem_ofM (by kernel_rfl)))
      subst e1
      obtain ⟨Aq2, nq2, kq2, e2, l2, cq2, b2⟩ := hV.f2 (h3 2 (mem_ofM (by kernel_rfl)))
      subst e2
      simp only [pick, List.map_cons, List.map_nil, List.getD_cons_zero, List.getD_cons_succ]
      go_wp2
      have hNew := Box.newAt wq 24 [.slice Aq1 nq1 kq1, .slice Aq2 nq2 kq2] wq.heap.size rfl
      have hbN := (Below.refl wq.heap.size wq).alloc (Nat.le_refl _) (Obj.cells #[.slice Aq1 nq1 kq1, .slice Aq2 nq2 kq2] 24)
      exact ⟨_, _, _, _, _, _, _, rfl, ⟨hV.bel.trans (hbN.mono hszq), fun h => (hV.f0 (by rwa [markL_ne _ (show 0 ≠ 3 by decide)] at h)).imp fun A ⟨n, k, e, l, c, q⟩ => ⟨n, k, e, l, c, q.kc (Kc.below (T := fun _ => False) hbN) id⟩, fun h => (hV.f1 (by rwa [markL_ne _ (show 1 ≠ 3 by decide)] at h)).imp fun A ⟨n, k, e, l, c, q⟩ => ⟨n, k, e, l, c, q.kc (Kc.below (T := fun _ => False) hbN) id⟩, fun h => (hV.f2 (by rwa [markL_ne _ (show 2 ≠ 3 by decide)] at h)).imp fun A ⟨n, k, e, l, c, q⟩ => ⟨n, k, e, l, c, q.kc (Kc.below (T := fun _ => False) hbN) id⟩, fun _ => ⟨_, rfl, hszq, hNew⟩, fun h => (hV.f4 (by rwa [markL_ne _ (show 4 ≠ 3 by decide)] at h)).imp fun g ⟨e, l, q⟩ => ⟨e, l, q.kc (Kc.below (T := fun _ => False) hbN) id⟩, fun h => (by rw [markL_ne _ (show 5 ≠ 3 by decide)] at h; have := h2c 5 h 3 (mem_ofM (by kernel_rfl)); rw [h1] at this; cases this), fun h => (hV.f6 (by rwa [markL_ne _ (show 6 ≠ 3 by decide)] at h)).imp fun g ⟨e, l, q⟩ => ⟨e, l, q.kc (Kc.below (T := fun _ => False) hbN) id⟩⟩⟩
    · simp only [pick, List.map_cons, List.map_nil, List.getD_cons_zero, List.getD_cons_succ]
      go_wp2_with (at_make; refine make_all eltThr _ rfl _ _ rfl wq.heap.size _ _ _ _ 3 rfl rfl rfl rfl (by omega) (by omega) (Nat.le_refl _) ?_; intro w4 hown4 hbel4 hsz4 hgr4)
      have hNew := (own_boxS hown4).1
      rw [madeCells_one _ rfl] at hNew
      have hbN := hbel4 wq (Below.refl _ _)
      exact ⟨_, _, _, _, _, _, _, rfl, ⟨hV.bel.trans (hbN.mono hszq), fun h => (hV.f0 (by rwa [markL_ne _ (show 0 ≠ 4 by decide)] at h)).imp fun A ⟨n, k, e, l, c, q⟩ => ⟨n, k, e, l, c, q.kc (Kc.below (T := fun _ => False) hbN) id⟩, fun h => (hV.f1 (by rwa [markL_ne _ (show 1 ≠ 4 by decide)] at h)).imp fun A ⟨n, k, e, l, c, q⟩ => ⟨n, k, e, l, c, q.kc (Kc.below (T := fun _ => False) hbN) id⟩, fun h => (hV.f2 (by rwa [markL_ne _ (show 2 ≠ 4 by decide)] at h)).imp fun A ⟨n, k, e, l, c, q⟩ => ⟨n, k, e, l, c, q.kc (Kc.below (T := fun _ => False) hbN) id⟩, fun h => (hV.f3 (by rwa [markL_ne _ (show 3 ≠ 4 by decide)] at h)).imp fun g ⟨e, l, q⟩ => ⟨e, l, q.kc (Kc.below (T := fun _ => False) hbN) id⟩, fun _ => ⟨_, rfl, hszq, hNew⟩, fun h => (by rw [markL_ne _ (show 5 ≠ 4 by decide)] at h; have := h2c 5 h 4 (mem_ofM (by kernel_rfl)); rw [h1] at this; cases this), fun h => (hV.f6 (by rwa [markL_ne _ (show 6 ≠ 4 by decide)] at h)).imp fun g ⟨e, l, q⟩ => ⟨e, l, q.kc (Kc.below (T := fun _ => False) hbN) id⟩⟩⟩
    · obtain ⟨Aq0, nq0, kq0, e0, l0, cq0, b0⟩ := hV.f0 (h3 0 (mem_ofM (by kernel_rfl)))
      subst e0
      obtain ⟨g3, e3, l3, b3⟩ := hV.f3 (h3 3 (mem_ofM (by kernel_rfl)))
      subst e3
      obtain ⟨g4, e4, l4, b4⟩ := hV.f4 (h3 4 (mem_ofM (by kernel_rfl)))
      subst e4
      simp only [pick, List.map_cons, List.map_nil, List.getD_cons_zero, List.getD_cons_succ]
      go_wp2
      exact ⟨_, _, _, _, _, _, _, rfl, ⟨hV.bel, fun h => hV.f0 (by rwa [markL_ne _ (show 0 ≠ 5 by decide)] at h), fun h => hV.f1 (by rwa [markL_ne _ (show 1 ≠ 5 by decide)] at h), fun h => hV.f2 (by rwa [markL_ne _ (show 2 ≠ 5 by decide)] at h), fun h => hV.f3 (by rwa [markL_ne _ (show 3 ≠ 5 by decide)] at h), fun h => hV.f4 (by rwa [markL_ne _ (show 4 ≠ 5 by decide)] at h), fun _ => rfl, fun h => hV.f6 (by rwa [markL_ne _ (show 6 ≠ 5 by decide)] at h)⟩⟩
    · simp only [pick, List.map_cons, List.map_nil, List.getD_cons_zero, List.getD_cons_succ]
      go_wp2
      have hNew := Box.newAt wq 32 [.slice none 0 0, .slice none 0 0, .slice none 0 0] wq.heap.size rfl
      have hbN := (Below.refl wq.heap.size wq).alloc (Nat.le_refl _) (Obj.cells #[.slice none 0 0, .slice none 0 0, .slice none 0 0] 32)
      exact ⟨_, _, _, _, _, _, _, rfl, ⟨hV.bel.trans (hbN.mono hszq), fun h => (hV.f0 (by rwa [markL_ne _ (show 0 ≠ 6 by decide)] at h)).imp fun A ⟨n, k, e, l, c, q⟩ => ⟨n, k, e, l, c, q.kc (Kc.below (T := fun _ => False) hbN) id⟩, fun h => (hV.f1 (by rwa [markL_ne _ (show 1 ≠ 6 by decide)] at h)).imp fun A ⟨n, k, e, l, c, q⟩ => ⟨n, k, e, l, c, q.kc (Kc.below (T := fun _ => False) hbN) id⟩, fun h => (hV.f2 (by rwa [markL_ne _ (show 2 ≠ 6 by decide)] at h)).imp fun A ⟨n, k, e, l, c, q⟩ => ⟨n, k, e, l, c, q.kc (Kc.below (T := fun _ => False) hbN) id⟩, fun h => (hV.f3 (by rwa [markL_ne _ (show 3 ≠ 6 by decide)] at h)).imp fun g ⟨e, l, q⟩ => ⟨e, l, q.kc (Kc.below (T := fun _ => False) hbN) id⟩, fun h => (hV.f4 (by rwa [markL_ne _ (show 4 ≠ 6 by decide)] at h)).imp fun g ⟨e, l, q⟩ => ⟨e, l, q.kc (Kc.below (T := fun _ => False) hbN) id⟩, fun h => hV.f5 (by rwa [markL_ne _ (show 5 ≠ 6 by decide)] at h), fun _ => ⟨_, rfl, hszq, hNew⟩⟩⟩
  · intro L a wq hall hG
    obtain ⟨u19, u20, u21, u22, u23, u24, u5, rfl, hV⟩ := hG
    obtain ⟨Aq0, nq0, kq0, e0, l0, cq0, b0⟩ := hV.f0 (hall 0 (by omega))
    subst e0
    obtain ⟨Aq1, nq1, kq1, e1, l1, cq1, b1⟩ := hV.f1 (hall 1 (by omega))
    subst e1
    obtain ⟨Aq2, nq2, kq2, e2, l2, cq2, b2⟩ := hV.f2 (hall 2 (by omega))
    subst e2
    obtain ⟨g3, e3, l3, b3⟩ := hV.f3 (hall 3 (by omega))
    subst e3
    obtain ⟨g4, e4, l4, b4⟩ := hV.f4 (hall 4 (by omega))
    subst e4
    have e5 := hV.f5 (hall 5 (by omega))
    subst e5
    obtain ⟨g6, e6, l6, b6⟩ := hV.f6 (hall 6 (by omega))
    subst e6
    have hbQ := hV.bel
    clear hV
    simp only [pick, List.map_cons, List.map_nil, List.getD_cons_zero, List.getD_cons_succ]
    refine store_box rfl rfl 32 (.tmp 5) (.tmp 24) rfl g6 [.slice Aq0 nq0 kq0, .slice (some ⟨g3, 0, none⟩) 2 2, .slice (some ⟨g4, 0, none⟩) 3 3] rfl rfl 32 [.slice none 0 0, .slice none 0 0, .slice none 0 0] b6 (by kernel_rfl) rfl (by intro v hv; simp only [List.mem_cons, List.not_mem_nil, or_false] at hv; rcases hv with rfl | rfl | rfl <;> rfl) ?_
    intro w5 HBS hgS
    go_wp2
    have hb3S : Below w.heap.size w w5 := hbQ.grown hgS hbQ.size (fun k hk => by cases hk; exact l6)
    have hkS : Kc tMach wq w5 := Kc.grown hgS (fun b cs t fr he hh => by
      injection he with he
      subst he
      have h6 := b6
      unfold Box at h6
      rw [h6] at hh
      injection hh with hh
      injection hh with _ hh
      exact hh.symm)
    have HQ0 := Lib.hid (b0.kc hkS (by unfold tMach; decide))
    have HQ1 := Lib.hid (b1.kc hkS (by unfold tMach; decide))
    have HQ2 := Lib.hid (b2.kc hkS (by unfold tMach; decide))
    have HQ3 := Lib.hid (b3.kc hkS (by unfold tMach; decide))
    have HMg5 := Lib.hid (Mg.made w5 3 41 42 (nt := 3) (B := w.heap.size) (b4.kc hkS (by unfold tMach; decide)) l4)
    have HBw := Lib.hid (HB3.out.trans (hb3S.mono HB3.out.size))
    have HL6 := Lib.hid l6
    have HL4 := Lib.hid l4
    have HL3 := Lib.hid l3
    have HLc := Lib.hid (And.intro l0 (And.intro cq0 (And.intro l1 l2)))
    clear b0 b1 b2 b3 b4 b6 hkS hb3S hbQ hgS l3 l4 l6 l0 cq0 l1 cq1 l2 cq2
    go_loopw [6] (fun v wr => ∃ (i : Nat) (tg : Nat → Nat) (ts : Nat → Value), i ≤ 9 ∧ v = .int .i64 i ∧ Hid (Mg 3 41 42 tg wr w.heap.size g4 3 ts (tcJ xy i)) ∧ Hid (Kc tCall w5 wr) ∧ Below w.heap.size w wr) (fun v _ => 9 - (intOf v).toNat)
    case atStart => exact ⟨0, _, _, Nat.zero_le _, rfl, (by have := HMg5.out; show Mg _ _ _ _ _ _ _ _ _ _; rw [show tcJ xy 0 = fun _ => ([] : List Cl) by funext q; simp [tcJ]]; exact this), Kc.refl _ _, HBw.out⟩
    case round =>
      obtain ⟨i, tg, ts, hi, rfl, HMg, HK, hbel⟩ := hrel
      have hszr := hbel.size
      by_cases hi9 : i < 9
      · have hcn := tcC_mem xy i
        obtain ⟨t, ht⟩ : ∃ t, t = i % 3 := ⟨_, rfl⟩
        have ht3 : t < 3 := by omega
        have htI : (i : Int) % 3 = (t : Int) := by omega
        have Ht := Lib.hid ht.symm
        obtain ⟨gc, hgc⟩ : ∃ gc, gc = wr.heap.size := ⟨_, rfl⟩
        have Hgc := Lib.hid hgc
        clear ht hgc
        by_cases hin : i < ny
        · obtain ⟨ob, oo, x, rfl, hbB, c0, HX, hxm⟩ := (HXy.out.below hbel).val hin
          have hbs : ob < wr.heap.size := by omega
          have HCx : Hid (tcN xy i = x % 3) := by show _ = _; unfold tcN; rw [HX.out]; rfl
          go_wp2_with fail
          refine (keep_Picked _ _ _ (by omega) (by omega)).mono ?_
          rintro e w' ⟨rfl, rfl⟩
          obtain ⟨p, hp⟩ : ∃ p, p = x % 3 := ⟨_, rfl⟩
          have hp0 : 0 ≤ p := by omega
          have hp3 : p < 3 := by omega
          rw [← hp] at HCx ⊢
          have HPP := Lib.hid hp
          clear hp
          by_cases hpp : 0 < p
          · have HCN : Hid (tcC xy i = ⟨0, [p]⟩) := by show _ = _; unfold tcC; rw [HCx.out, if_pos hpp]
            go_wp2_with fail
            refine (keep_Picked _ _ _ (by omega) (by omega)).mono ?_
            rintro e w' ⟨rfl, rfl⟩
            rw [← HPP.out]
            go_wp2
            have b1 := Box.newAt wr 41 [.int .i64 0, .slice (some ⟨wr.heap.size + 1, 0, none⟩) 1 1] wr.heap.size rfl
            have hb1 := (Below.refl wr.heap.size wr).alloc (Nat.le_refl _) (Obj.cells #[.int .i64 0, .slice (some ⟨wr.heap.size + 1, 0, none⟩) 1 1] 41)
            have b2 := QT.box (s := 1) (n := 1) (Box.newAt (wr.alloc (Obj.cells #[.int .i64 0, .slice (some ⟨wr.heap.size + 1, 0, none⟩) 1 1] 41)) 3 [.int .i64 p] (wr.heap.size + 1) (by simp)) rfl
            have b1 := b1.alloc (Obj.cells #[.int .i64 p] 3)
            have hb1 := hb1.alloc hb1.size (Obj.cells #[.int .i64 p] 3)
            obtain ⟨wT, hwn⟩ : ∃ W, W = (wr.alloc (Obj.cells #[.int .i64 0, .slice (some ⟨wr.heap.size + 1, 0, none⟩) 1 1] 41)).alloc (Obj.cells #[.int .i64 p] 3) := ⟨_, rfl⟩
            rw [← hwn] at b1 hb1 b2 ⊢
            have HMg0 := Lib.hid (HMg.out.below hb1)
            have HK0 := Lib.hid (HK.out.trans (Kc.below (T := tCall) hb1))
            have hbel0 := hbel.trans (hb1.mono hszr)
            have BM := Lib.hid (HBS.out.kc HK0.out tCall_mach)
            have hszT := hb1.size
            rw [← Hgc.out] at b1 b2 ⊢
            have HQL := Lib.hid b2
            clear b2
            have x0 : wT.cell? ⟨gc, 0, none⟩ = _ := b1.cell 0
            have x1c : wT.cell? ⟨gc, 1, none⟩ = _ := b1.cell 1
            simp only [List.getElem?_cons_zero, List.getElem?_cons_succ] at x0 x1c
            have lgc := b1.lt
            clear hwn b1 hb1
            have hB4 := HL4.out
            obtain ⟨T0, hT0⟩ : ∃ T0, T0 = tcJ xy i := ⟨_, rfl⟩
            obtain ⟨L0, hL0⟩ : ∃ L0, L0 = T0 t := ⟨_, rfl⟩
            obtain ⟨J, hJ⟩ : ∃ J, J = L0.length := ⟨_, rfl⟩
            have hJ9 : J ≤ 9 := by rw [hJ, hL0, hT0]; exact tcJ_len hi
            have HT0 : Hid (T0 t = L0) := hL0.symm
            have HJ0 : Hid (L0.length = J) := hJ.symm
            have HTT := Lib.hid hT0
            rw [← hT0] at HMg0
            clear hT0 hL0 hJ HMg HK hbel hcn
            obtain ⟨rows1, r1, r2, r3, r4⟩ := HMg0.out.row t ht3
            have r3q := r3
            rw [HT0.out, HJ0.out] at r3q
            obtain ⟨Aq1, cq1, hts, hlq⟩ := own_form r3q
            have z2 : wT.cell? ⟨g6, 2, none⟩ = _ := BM.out.cell 2
            have y0 : wT.cell? ⟨g4, t, none⟩ = some (.slice Aq1 J cq1) := by
              have := HMg0.out.thr.cell t
              rw [range_at _ ht3, hts] at this
              exact this
            have l6 := HMg0.out.thr.lt
            have lM := BM.out.lt
            have g0 := HMg0.out.thr.frozen t
            have HTS1 := Lib.hid hts
            have R11 := Lib.hid r1
            have R21 := Lib.hid r2
            have R31 := Lib.hid r3
            have R3q1 := Lib.hid r3q
            have R41 := Lib.hid r4
            simp only [List.getElem?_cons_zero, List.getElem?_cons_succ] at z2
            clear hts r1 r2 r3 r4 r3q
            go_wp2
            refine region_firstG (Kc tCall) (gok_kc tCall) [0, 1, 3] [2, 4, 5, 6, 7, 8, 9, 10] (.cons 0 (.cons 1 (.cons 3 (.cons 11 (.cons 12 (seq [13] (.cons 14 .nil))))))) (by kernel_rfl) (by kernel_rfl) ?_
            simp only [pick, List.map_cons, List.map_nil, List.getD_cons_zero, List.getD_cons_succ]
            go_wp2
            refine ord_blindG (.pointer (some ⟨g6, 2, none⟩)) (by kernel_rfl) ?_ ?_
            · intro w' _
              simp only [List.getD_cons_zero, List.getD_cons_succ]
              go_simp
            refine ord_blindG (.slice (some ⟨g4, 0, none⟩) 3 3) (by kernel_rfl) ?_ ?_
            · intro w' hk
              have zz := (Box.kc (w := wT.drew) BM.out hk tCall_mach).cell 2
              simp only [List.getElem?_cons_zero, List.getElem?_cons_succ] at zz
              simp only [List.getD_cons_zero, List.getD_cons_succ]
              go_simp
            refine ord_blindG (.int .i64 (t : Int)) (by kernel_rfl) ?_ ?_
            · intro w' _
              simp only [List.getD_cons_zero, List.getD_cons_succ]
              go_simp
              exact (Int.tmod_eq_emod_of_nonneg (by omega)).trans htI
            refine ord_callG (by kernel_rfl) ?_
            simp only [pick, List.map_cons, List.map_nil, List.getD_cons_zero, List.getD_cons_succ]
            go_wp2
            refine ⟨ext_below ((Below.refl _ _).alloc (Nat.le_refl _) _), ?_⟩
            have HMl1 := HMg0
            have HR3q1 := R3q1
            have RL1 := Lib.hid (HR3q1.out.alloc (.cells #[.int .i64 0, .slice (some ⟨gc + 1, 0, none⟩) 1 1] 41))
            rw [HTS1.out] at RL1
            refine ord_finG (by kernel_rfl) ?_
            simp only [pick, List.map_cons, List.map_nil, List.getD_cons_zero, List.getD_cons_succ]
            go_wp2_with (at_builtin; go_must (refine app_litBd eltCall wT rfl (.tmp 58) (.tmp 60) rfl (w.heap.size) _ J rows1.flatten rfl (by rw [← HTS1.out]; exact HR3q1.out) 1 [.int .i64 0, .slice (some ⟨gc + 1, 0, none⟩) 1 1] wT.heap.size (by first | rfl | simp) rfl rfl (by intro u hu; simp only [List.mem_cons, List.not_mem_nil, or_false] at hu; rcases hu with rfl | rfl <;> rfl) (by omega) (by omega) (by first | omega | (simp; omega)) ?_); intro v8 w8 own8 g8 hv8)
            obtain ⟨A81, c81, rfl, hc8⟩ := own_form own8
            have hK8 : Kc tCall (wT.alloc (.cells #[.int .i64 0, .slice (some ⟨gc + 1, 0, none⟩) 1 1] 41)).drew w8 := Kc.grown ⟨g8.os, g8.tape, g8.output, g8.size, g8.block⟩ (fun b cs t fr he hh => .inl (own_same RL1.out he hh))
            have hne6 := Box.ne (HMl1.out.thr.alloc (.cells #[.int .i64 0, .slice (some ⟨gc + 1, 0, none⟩) 1 1] 41)) RL1.out (by decide)
            have b68 := (HMl1.out.thr.alloc (.cells #[.int .i64 0, .slice (some ⟨gc + 1, 0, none⟩) 1 1] 41)).grown g8 hne6
            obtain ⟨tg1, hMg', hKc', hBel'⟩ := HMl1.out.call (q := t) (c := ⟨0, [p]⟩) ht3 ⟨by decide, by decide, by decide⟩ (rows := rows1) R11.out R21.out R41.out R31.out ⟨some ⟨gc + 1, 0, none⟩, 1, 1, rfl, Nat.le_refl _, HQL.out⟩ own8 (by rw [HT0.out, HJ0.out]) (by rw [HTS1.out]; exact g8) (by rw [HTS1.out]; exact hv8)
            have HMg' := Lib.hid hMg'
            have HKc' := Lib.hid hKc'
            have hbel1a := hbel0
            have HBel' := Lib.hid (hBel' w w.heap.size (Nat.le_refl _) (by first | omega | (simp; omega)) hbel1a)
            have y8 : w8.cell? ⟨g4, t, none⟩ = some (.slice Aq1 J cq1) := by
              have := b68.cell t
              rw [range_at _ ht3, HTS1.out] at this
              exact this
            have f8 := b68.frozen t
            have H68 := Lib.hid b68
            clear hMg' hKc' hBel' b68 own8 g8 hv8 hne6 z2 y0 g0
            refine ⟨hK8, ?_⟩
            refine ord_moreG [13] _ (by kernel_rfl) ?_
            simp only [pick, List.map_cons, List.map_nil, List.getD_cons_zero, List.getD_cons_succ]
            go_wp2
            refine ord_finG (by kernel_rfl) ?_
            simp only [pick, List.map_cons, List.map_nil, List.getD_cons_zero, List.getD_cons_succ]
            go_wp2
            have hK9 : Kc tCall w8 (w8.setCell ⟨g4, t, none⟩ (.slice A81 (J + 1) c81)) := Kc.grown (grown_setCell w8 ⟨g4, t, none⟩ _) (fun b cs t fr he hh => by
              injection he with he
              subst he
              have h6 := H68.out
              unfold Box at h6
              rw [h6] at hh
              injection hh with hh
              injection hh with _ hh
              exact .inr hh.symm)
            refine ⟨hK9, ord_doneG ?_⟩
            obtain ⟨W1, hW1⟩ : ∃ W, W = w8.setCell ⟨g4, t, none⟩ (.slice A81 (J + 1) c81) := ⟨_, rfl⟩
            rw [← hW1]
            have HMg1 := HMg'
            have HK1 := Lib.hid (HK0.out.trans HKc'.out)
            have hbel1 := HBel'.out
            rw [← hW1] at HMg1 HK1 hbel1
            clear HMg' HKc' HBel' hK9 H68 y8 f8 hK8 hW1 R11 R21 R31 R3q1 R41 RL1 HTS1 HMl1 HR3q1
            go_wp2
            go_roundw
            case rel =>
              have h9 : Hid (Mg 3 41 42 tg1 W1 w.heap.size g4 3 _ (tcJ xy (i + 1))) := HMg1.out.congr (fun q hq => by
                rw [tcJ_succ, ← HTT.out, Ht.out, HCN.out]
                by_cases hqt : q = t
                · subst hqt; rw [if_pos rfl]
                · rw [if_neg hqt, if_neg (fun e => hqt e.symm)])
              exact ⟨i + 1, tg1, _, by omega, by go_num, h9, HK1, hbel1⟩
            case measure => simp [intOf]; omega
          · obtain rfl : p = 0 := by omega
            have HCN : Hid (tcC xy i = ⟨1, []⟩) := by show _ = _; unfold tcC; rw [HCx.out]; rfl
            go_wp2
            have b1 := Box.newAt wr 41 [.int .i64 1, .slice none 0 0] wr.heap.size rfl
            have hb1 := (Below.refl wr.heap.size wr).alloc (Nat.le_refl _) (Obj.cells #[.int .i64 1, .slice none 0 0] 41)
            obtain ⟨wS, hwn⟩ : ∃ W, W = wr.alloc (Obj.cells #[.int .i64 1, .slice none 0 0] 41) := ⟨_, rfl⟩
            rw [← hwn] at b1 hb1 ⊢
            have HMg0 := Lib.hid (HMg.out.below hb1)
            have HK0 := Lib.hid (HK.out.trans (Kc.below (T := tCall) hb1))
            have hbel0 := hbel.trans (hb1.mono hszr)
            have BM := Lib.hid (HBS.out.kc HK0.out tCall_mach)
            have hszT := hb1.size
            rw [← Hgc.out] at b1 ⊢
            have x0 : wS.cell? ⟨gc, 0, none⟩ = _ := b1.cell 0
            have x1c : wS.cell? ⟨gc, 1, none⟩ = _ := b1.cell 1
            simp only [List.getElem?_cons_zero, List.getElem?_cons_succ] at x0 x1c
            have lgc := b1.lt
            clear hwn b1 hb1
            have hB4 := HL4.out
            obtain ⟨T0, hT0⟩ : ∃ T0, T0 = tcJ xy i := ⟨_, rfl⟩
            obtain ⟨L0, hL0⟩ : ∃ L0, L0 = T0 t := ⟨_, rfl⟩
            obtain ⟨J, hJ⟩ : ∃ J, J = L0.length := ⟨_, rfl⟩
            have hJ9 : J ≤ 9 := by rw [hJ, hL0, hT0]; exact tcJ_len hi
            have HT0 : Hid (T0 t = L0) := hL0.symm
            have HJ0 : Hid (L0.length = J) := hJ.symm
            have HTT := Lib.hid hT0
            rw [← hT0] at HMg0
            clear hT0 hL0 hJ HMg HK hbel hcn
            obtain ⟨rows1, r1, r2, r3, r4⟩ := HMg0.out.row t ht3
            have r3q := r3
            rw [HT0.out, HJ0.out] at r3q
            obtain ⟨Aq1, cq1, hts, hlq⟩ := own_form r3q
            have z2 : wS.cell? ⟨g6, 2, none⟩ = _ := BM.out.cell 2
            have y0 : wS.cell? ⟨g4, t, none⟩ = some (.slice Aq1 J cq1) := by
              have := HMg0.out.thr.cell t
              rw [range_at _ ht3, hts] at this
              exact this
            have l6 := HMg0.out.thr.lt
            have lM := BM.out.lt
            have g0 := HMg0.out.thr.frozen t
            have HTS1 := Lib.hid hts
            have R11 := Lib.hid r1
            have R21 := Lib.hid r2
            have R31 := Lib.hid r3
            have R3q1 := Lib.hid r3q
            have R41 := Lib.hid r4
            simp only [List.getElem?_cons_zero, List.getElem?_cons_succ] at z2
            clear hts r1 r2 r3 r4 r3q
            go_wp2
            refine region_firstG (Kc tCall) (gok_kc tCall) [0, 1, 3] [2, 4, 5, 6, 7, 8, 9, 10] (.cons 0 (.cons 1 (.cons 3 (.cons 11 (.cons 12 (seq [13] (.cons 14 .nil))))))) (by kernel_rfl) (by kernel_rfl) ?_
            simp only [pick, List.map_cons, List.map_nil, List.getD_cons_zero, List.getD_cons_succ]
            go_wp2
            refine ord_blindG (.pointer (some ⟨g6, 2, none⟩)) (by kernel_rfl) ?_ ?_
            · intro w' _
              simp only [List.getD_cons_zero, List.getD_cons_succ]
              go_simp
            refine ord_blindG (.slice (some ⟨g4, 0, none⟩) 3 3) (by kernel_rfl) ?_ ?_
            · intro w' hk
              have zz := (Box.kc (w := wS.drew) BM.out hk tCall_mach).cell 2
              simp only [List.getElem?_cons_zero, List.getElem?_cons_succ] at zz
              simp only [List.getD_cons_zero, List.getD_cons_succ]
              go_simp
            refine ord_blindG (.int .i64 (t : Int)) (by kernel_rfl) ?_ ?_
            · intro w' _
              simp only [List.getD_cons_zero, List.getD_cons_succ]
              go_simp
              exact (Int.tmod_eq_emod_of_nonneg (by omega)).trans htI
            refine ord_callG (by kernel_rfl) ?_
            simp only [pick, List.map_cons, List.map_nil, List.getD_cons_zero, List.getD_cons_succ]
            go_wp2
            refine ⟨ext_below ((Below.refl _ _).alloc (Nat.le_refl _) _), ?_⟩
            have HMl1 := HMg0
            have HR3q1 := R3q1
            have RL1 := Lib.hid (HR3q1.out.alloc (.cells #[.int .i64 1, .slice none 0 0] 41))
            rw [HTS1.out] at RL1
            refine ord_finG (by kernel_rfl) ?_
            simp only [pick, List.map_cons, List.map_nil, List.getD_cons_zero, List.getD_cons_succ]
            go_wp2_with (at_builtin; go_must (refine app_litBd eltCall wS rfl (.tmp 58) (.tmp 60) rfl (w.heap.size) _ J rows1.flatten rfl (by rw [← HTS1.out]; exact HR3q1.out) 1 [.int .i64 1, .slice none 0 0] wS.heap.size (by first | rfl | simp) rfl rfl (by intro u hu; simp only [List.mem_cons, List.not_mem_nil, or_false] at hu; rcases hu with rfl | rfl <;> rfl) (by omega) (by omega) (by first | omega | (simp; omega)) ?_); intro v8 w8 own8 g8 hv8)
            obtain ⟨A81, c81, rfl, hc8⟩ := own_form own8
            have hK8 : Kc tCall (wS.alloc (.cells #[.int .i64 1, .slice none 0 0] 41)).drew w8 := Kc.grown ⟨g8.os, g8.tape, g8.output, g8.size, g8.block⟩ (fun b cs t fr he hh => .inl (own_same RL1.out he hh))
            have hne6 := Box.ne (HMl1.out.thr.alloc (.cells #[.int .i64 1, .slice none 0 0] 41)) RL1.out (by decide)
            have b68 := (HMl1.out.thr.alloc (.cells #[.int .i64 1, .slice none 0 0] 41)).grown g8 hne6
            obtain ⟨tg1, hMg', hKc', hBel'⟩ := HMl1.out.call (q := t) (c := ⟨1, []⟩) ht3 ⟨by decide, by decide, by decide⟩ (rows := rows1) R11.out R21.out R41.out R31.out ⟨none, 0, 0, rfl, Nat.le_refl _, QT.nil _ _ _ _⟩ own8 (by rw [HT0.out, HJ0.out]) (by rw [HTS1.out]; exact g8) (by rw [HTS1.out]; exact hv8)
            have HMg' := Lib.hid hMg'
            have HKc' := Lib.hid hKc'
            have hbel1a := hbel0
            have HBel' := Lib.hid (hBel' w w.heap.size (Nat.le_refl _) (by first | omega | (simp; omega)) hbel1a)
            have y8 : w8.cell? ⟨g4, t, none⟩ = some (.slice Aq1 J cq1) := by
              have := b68.cell t
              rw [range_at _ ht3, HTS1.out] at this
              exact this
            have f8 := b68.frozen t
            have H68 := Lib.hid b68
            clear hMg' hKc' hBel' b68 own8 g8 hv8 hne6 z2 y0 g0
            refine ⟨hK8, ?_⟩
            refine ord_moreG [13] _ (by kernel_rfl) ?_
            simp only [pick, List.map_cons, List.map_nil, List.getD_cons_zero, List.getD_cons_succ]
            go_wp2
            refine ord_finG (by kernel_rfl) ?_
            simp only [pick, List.map_cons, List.map_nil, List.getD_cons_zero, List.getD_cons_succ]
            go_wp2
            have hK9 : Kc tCall w8 (w8.setCell ⟨g4, t, none⟩ (.slice A81 (J + 1) c81)) := Kc.grown (grown_setCell w8 ⟨g4, t, none⟩ _) (fun b cs t fr he hh => by
              injection he with he
              subst he
              have h6 := H68.out
              unfold Box at h6
              rw [h6] at hh
              injection hh with hh
              injection hh with _ hh
              exact .inr hh.symm)
            refine ⟨hK9, ord_doneG ?_⟩
            obtain ⟨W1, hW1⟩ : ∃ W, W = w8.setCell ⟨g4, t, none⟩ (.slice A81 (J + 1) c81) := ⟨_, rfl⟩
            rw [← hW1]
            have HMg1 := HMg'
            have HK1 := Lib.hid (HK0.out.trans HKc'.out)
            have hbel1 := HBel'.out
            rw [← hW1] at HMg1 HK1 hbel1
            clear HMg' HKc' HBel' hK9 H68 y8 f8 hK8 hW1 R11 R21 R31 R3q1 R41 RL1 HTS1 HMl1 HR3q1
            go_wp2
            go_roundw
            case rel =>
              have h9 : Hid (Mg 3 41 42 tg1 W1 w.heap.size g4 3 _ (tcJ xy (i + 1))) := HMg1.out.congr (fun q hq => by
                rw [tcJ_succ, ← HTT.out, Ht.out, HCN.out]
                by_cases hqt : q = t
                · subst hqt; rw [if_pos rfl]
                · rw [if_neg hqt, if_neg (fun e => hqt e.symm)])
              exact ⟨i + 1, tg1, _, by omega, by go_num, h9, HK1, hbel1⟩
            case measure => simp [intOf]; omega
        · have HCN : Hid (tcC xy i = ⟨1, []⟩) := by show _ = _; unfold tcC tcN; rw [List.getElem?_eq_none (by have := HXLy.out; omega)]; rfl
          go_wp2
          have b1 := Box.newAt wr 41 [.int .i64 1, .slice none 0 0] wr.heap.size rfl
          have hb1 := (Below.refl wr.heap.size wr).alloc (Nat.le_refl _) (Obj.cells #[.int .i64 1, .slice none 0 0] 41)
          obtain ⟨wS, hwn⟩ : ∃ W, W = wr.alloc (Obj.cells #[.int .i64 1, .slice none 0 0] 41) := ⟨_, rfl⟩
          rw [← hwn] at b1 hb1 ⊢
          have HMg0 := Lib.hid (HMg.out.below hb1)
          have HK0 := Lib.hid (HK.out.trans (Kc.below (T := tCall) hb1))
          have hbel0 := hbel.trans (hb1.mono hszr)
          have BM := Lib.hid (HBS.out.kc HK0.out tCall_mach)
          have hszT := hb1.size
          rw [← Hgc.out] at b1 ⊢
          have x0 : wS.cell? ⟨gc, 0, none⟩ = _ := b1.cell 0
          have x1c : wS.cell? ⟨gc, 1, none⟩ = _ := b1.cell 1
          simp only [List.getElem?_cons_zero, List.getElem?_cons_succ] at x0 x1c
          have lgc := b1.lt
          clear hwn b1 hb1
          have hB4 := HL4.out
          obtain ⟨T0, hT0⟩ : ∃ T0, T0 = tcJ xy i := ⟨_, rfl⟩
          obtain ⟨L0, hL0⟩ : ∃ L0, L0 = T0 t := ⟨_, rfl⟩
          obtain ⟨J, hJ⟩ : ∃ J, J = L0.length := ⟨_, rfl⟩
          have hJ9 : J ≤ 9 := by rw [hJ, hL0, hT0]; exact tcJ_len hi
          have HT0 : Hid (T0 t = L0) := hL0.symm
          have HJ0 : Hid (L0.length = J) := hJ.symm
          have HTT := Lib.hid hT0
          rw [← hT0] at HMg0
          clear hT0 hL0 hJ HMg HK hbel hcn
          obtain ⟨rows1, r1, r2, r3, r4⟩ := HMg0.out.row t ht3
          have r3q := r3
          rw [HT0.out, HJ0.out] at r3q
          obtain ⟨Aq1, cq1, hts, hlq⟩ := own_form r3q
          have z2 : wS.cell? ⟨g6, 2, none⟩ = _ := BM.out.cell 2
          have y0 : wS.cell? ⟨g4, t, none⟩ = some (.slice Aq1 J cq1) := by
            have := HMg0.out.thr.cell t
            rw [range_at _ ht3, hts] at this
            exact this
          have l6 := HMg0.out.thr.lt
          have lM := BM.out.lt
          have g0 := HMg0.out.thr.frozen t
          have HTS1 := Lib.hid hts
          have R11 := Lib.hid r1
          have R21 := Lib.hid r2
          have R31 := Lib.hid r3
          have R3q1 := Lib.hid r3q
          have R41 := Lib.hid r4
          simp only [List.getElem?_cons_zero, List.getElem?_cons_succ] at z2
          clear hts r1 r2 r3 r4 r3q
          go_wp2
          refine region_firstG (Kc tCall) (gok_kc tCall) [0, 1, 3] [2, 4, 5, 6, 7, 8, 9, 10] (.cons 0 (.cons 1 (.cons 3 (.cons 11 (.cons 12 (seq [13] (.cons 14 .nil))))))) (by kernel_rfl) (by kernel_rfl) ?_
          simp only [pick, List.map_cons, List.map_nil, List.getD_cons_zero, List.getD_cons_succ]
          go_wp2
          refine ord_blindG (.pointer (some ⟨g6, 2, none⟩)) (by kernel_rfl) ?_ ?_
          · intro w' _
            simp only [List.getD_cons_zero, List.getD_cons_succ]
            go_simp
          refine ord_blindG (.slice (some ⟨g4, 0, none⟩) 3 3) (by kernel_rfl) ?_ ?_
          · intro w' hk
            have zz := (Box.kc (w := wS.drew) BM.out hk tCall_mach).cell 2
            simp only [List.getElem?_cons_zero, List.getElem?_cons_succ] at zz
            simp only [List.getD_cons_zero, List.getD_cons_succ]
            go_simp
          refine ord_blindG (.int .i64 (t : Int)) (by kernel_rfl) ?_ ?_
          · intro w' _
            simp only [List.getD_cons_zero, List.getD_cons_succ]
            go_simp
            exact (Int.tmod_eq_emod_of_nonneg (by omega)).trans htI
          refine ord_callG (by kernel_rfl) ?_
          simp only [pick, List.map_cons, List.map_nil, List.getD_cons_zero, List.getD_cons_succ]
          go_wp2
          refine ⟨ext_below ((Below.refl _ _).alloc (Nat.le_refl _) _), ?_⟩
          have HMl1 := HMg0
          have HR3q1 := R3q1
          have RL1 := Lib.hid (HR3q1.out.alloc (.cells #[.int .i64 1, .slice none 0 0] 41))
          rw [HTS1.out] at RL1
          refine ord_finG (by kernel_rfl) ?_
          simp only [pick, List.map_cons, List.map_nil, List.getD_cons_zero, List.getD_cons_succ]
          go_wp2_with (at_builtin; go_must (refine app_litBd eltCall wS rfl (.tmp 58) (.tmp 60) rfl (w.heap.size) _ J rows1.flatten rfl (by rw [← HTS1.out]; exact HR3q1.out) 1 [.int .i64 1, .slice none 0 0] wS.heap.size (by first | rfl | simp) rfl rfl (by intro u hu; simp only [List.mem_cons, List.not_mem_nil, or_false] at hu; rcases hu with rfl | rfl <;> rfl) (by omega) (by omega) (by first | omega | (simp; omega)) ?_); intro v8 w8 own8 g8 hv8)
          obtain ⟨A81, c81, rfl, hc8⟩ := own_form own8
          have hK8 : Kc tCall (wS.alloc (.cells #[.int .i64 1, .slice none 0 0] 41)).drew w8 := Kc.grown ⟨g8.os, g8.tape, g8.output, g8.size, g8.block⟩ (fun b cs t fr he hh => .inl (own_same RL1.out he hh))
          have hne6 := Box.ne (HMl1.out.thr.alloc (.cells #[.int .i64 1, .slice none 0 0] 41)) RL1.out (by decide)
          have b68 := (HMl1.out.thr.alloc (.cells #[.int .i64 1, .slice none 0 0] 41)).grown g8 hne6
          obtain ⟨tg1, hMg', hKc', hBel'⟩ := HMl1.out.call (q := t) (c := ⟨1, []⟩) ht3 ⟨by decide, by decide, by decide⟩ (rows := rows1) R11.out R21.out R41.out R31.out ⟨none, 0, 0, rfl, Nat.le_refl _, QT.nil _ _ _ _⟩ own8 (by rw [HT0.out, HJ0.out]) (by rw [HTS1.out]; exact g8) (by rw [HTS1.out]; exact hv8)
          have HMg' := Lib.hid hMg'
          have HKc' := Lib.hid hKc'
          have hbel1a := hbel0
          have HBel' := Lib.hid (hBel' w w.heap.size (Nat.le_refl _) (by first | omega | (simp; omega)) hbel1a)
          have y8 : w8.cell? ⟨g4, t, none⟩ = some (.slice Aq1 J cq1) := by
            have := b68.cell t
            rw [range_at _ ht3, HTS1.out] at this
            exact this
          have f8 := b68.frozen t
          have H68 := Lib.hid b68
          clear hMg' hKc' hBel' b68 own8 g8 hv8 hne6 z2 y0 g0
          refine ⟨hK8, ?_⟩
          refine ord_moreG [13] _ (by kernel_rfl) ?_
          simp only [pick, List.map_cons, List.map_nil, List.getD_cons_zero, List.getD_cons_succ]
          go_wp2
          refine ord_finG (by kernel_rfl) ?_
          simp only [pick, List.map_cons, List.map_nil, List.getD_cons_zero, List.getD_cons_succ]
          go_wp2
          have hK9 : Kc tCall w8 (w8.setCell ⟨g4, t, none⟩ (.slice A81 (J + 1) c81)) := Kc.grown (grown_setCell w8 ⟨g4, t, none⟩ _) (fun b cs t fr he hh => by
            injection he with he
            subst he
            have h6 := H68.out
            unfold Box at h6
            rw [h6] at hh
            injection hh with hh
            injection hh with _ hh
            exact .inr hh.symm)
          refine ⟨hK9, ord_doneG ?_⟩
          obtain ⟨W1, hW1⟩ : ∃ W, W = w8.setCell ⟨g4, t, none⟩ (.slice A81 (J + 1) c81) := ⟨_, rfl⟩
          rw [← hW1]
          have HMg1 := HMg'
          have HK1 := Lib.hid (HK0.out.trans HKc'.out)
          have hbel1 := HBel'.out
          rw [← hW1] at HMg1 HK1 hbel1
          clear HMg' HKc' HBel' hK9 H68 y8 f8 hK8 hW1 R11 R21 R31 R3q1 R41 RL1 HTS1 HMl1 HR3q1
          go_wp2
          go_roundw
          case rel =>
            have h9 : Hid (Mg 3 41 42 tg1 W1 w.heap.size g4 3 _ (tcJ xy (i + 1))) := HMg1.out.congr (fun q hq => by
              rw [tcJ_succ, ← HTT.out, Ht.out, HCN.out]
              by_cases hqt : q = t
              · subst hqt; rw [if_pos rfl]
              · rw [if_neg hqt, if_neg (fun e => hqt e.symm)])
            exact ⟨i + 1, tg1, _, by omega, by go_num, h9, HK1, hbel1⟩
          case measure => simp [intOf]; omega
      · obtain rfl : i = 9 := by omega
        have HMg1 : Hid (Mg 3 41 42 tg wr w.heap.size g4 3 ts (tcT xy)) := HMg.out.congr (fun q hq => tcJ_all hq)
        have bM := HBS.out.kc HK.out tCall_mach
        have HIM := Lib.hid (tc_inM HC.out xy (HQ0.out.kc HK.out tCall_int) (HQ1.out.kc HK.out tCall_op) (HQ2.out.kc HK.out tCall_op) (HQ3.out.kc HK.out tCall_code) HMg1.out HLc.out.1 HLc.out.2.1 HLc.out.2.2.1 HLc.out.2.2.2)
        have lM := bM.lt
        have HBM := Lib.hid bM
        have HTr := Lib.hid (HT.out.below hbel HT.out.lt)
        clear HMg HMg1 HK bM HBS HQ0 HQ1 HQ2 HQ3 HMg5 HBw HL3 HL4 HL6 hi9
        go_wp2_with fail
        refine (keep_ScheduleG xz Az nz cz wr 3 400 (by omega) (by omega) (by omega) ((HXz.out.below hbel).more hbel.size) (by omega) HRz.out).mono ?_
        rintro e w8 ⟨v, n', rfl, hown, hn', hb8⟩
        obtain ⟨As, cs, rfl, hls⟩ := own_form hown
        have hbel8 := hbel.trans (hb8.mono hszr)
        have HIM8 := Lib.hid (HIM.out.below hb8)
        have HRS := Lib.hid (show RI w8 w8.heap.size .i64 As n' (schG 3 400 xz) from Rd.of_own hown)
        have HT8 := Lib.hid (HTr.out.below hb8 HTr.out.lt)
        obtain ⟨S, hS⟩ : ∃ S, S = schG 3 400 xz := ⟨_, rfl⟩
        have hSi : ∀ x ∈ S, 0 ≤ x ∧ x < 3 := fun x hx => schG_in (k := 3) (by omega) (hS ▸ hx)
        rw [← hS] at HRS
        have hSl : S.length = n' := HRS.out.len
        obtain ⟨p1, p2, p3, p4, p5⟩ := HGood.out (S.map Int.toNat) (by rw [List.length_map]; omega) (fun n hn => by obtain ⟨x, hx, rfl⟩ := List.mem_map.1 hn; have := hSi x hx; omega)
        have hR : PlR (mTc c xy) S (plyG (mTc c xy) 0 (S.map Int.toNat) (g0 (mTc c xy))).out (plyG (mTc c xy) 0 (S.map Int.toNat) (g0 (mTc c xy))).w 0 :=
          .inr (.inr (.inr ⟨tc_ok HC.out xy, by omega, fun x hx => hSi x hx, rfl, rfl, rfl⟩))
        obtain ⟨T, hTT⟩ : ∃ T, T = (plyG (mTc c xy) 0 (S.map Int.toNat) (g0 (mTc c xy))).out := ⟨_, rfl⟩
        obtain ⟨W, hWW⟩ : ∃ W, W = (plyG (mTc c xy) 0 (S.map Int.toNat) (g0 (mTc c xy))).w := ⟨_, rfl⟩
        rw [← hTT, ← hWW] at hR
        rw [← hTT] at p2 p3 p4 p5
        have HR := Lib.hid hR
        have HP2 := Lib.hid p2
        have HRNG := Lib.hid p2.rng
        have HP3 := Lib.hid p3
        have HP4 := Lib.hid p4
        have HP5 := Lib.hid p5
        have HBM8 := Lib.hid (HBM.out.below hb8 lM)
        have z0 : w8.cell? ⟨g6, 0, none⟩ = _ := HBM8.out.cell 0
        have z1 : w8.cell? ⟨g6, 1, none⟩ = _ := HBM8.out.cell 1
        have z2 : w8.cell? ⟨g6, 2, none⟩ = _ := HBM8.out.cell 2
        simp only [List.getElem?_cons_zero, List.getElem?_cons_succ] at z0 z1 z2
        have lM8 := HBM8.out.lt
        have hs8 := hbel8.size
        clear p1 p2 p3 p4 p5 hR hS hSi hSl hTT hWW hown hb8 HIM HTr HGood HBM
        go_wp2_with fail
        refine (top_historyW HPl.out.spec top_pfCnt (fun _ _ => by kernel_rfl) w8 HT8.out Aq0 nq0 kq0 (some ⟨g3, 0, none⟩) 2 2 (some ⟨g4, 0, none⟩) 3 3 (mTc c xy) As n' cs S T W HIM8.out (tc_ok HC.out xy) HRS.out (by omega) HR.out HP2.out).mono ?_
        rintro e w9 ⟨A9, n9, c9, rfl, hlc9, hn9, hoA, hb9⟩
        have HOA9 := Lib.hid hoA
        have hbel9 := hbel8.trans (hb9.mono hs8)
        have hs9 := hbel9.size
        have H89 := Lib.hid hb9
        clear hoA hb9
        go_wp2_with fail
        refine (top_sure HLC.out _).mono ?_
        rintro e w10 ⟨rfl, hb10⟩
        have hbel10 := hbel9.trans (hb10.mono hs9)
        have h810 := H89.out.trans (hb10.mono H89.out.size)
        have HOA := Lib.hid (show OwnA w10 w8.heap.size 46 (.slice A9 n9 c9) n9 ((dgs T).map (hA (mTc c xy) pfN)) from own_kc (T := fun _ => False) HOA9.out (Kc.below hb10) id)
        have HIM10 := Lib.hid (HIM8.out.below h810)
        have HBM10 := Lib.hid (HBM8.out.below h810 lM8)
        have HT10 := Lib.hid (HT8.out.below h810 HT8.out.lt)
        have hs2 := (HRS.out.below h810).more h810.size
        have hs10 := hbel10.size
        have HB10 := Lib.hid hbel10
        have H810 := Lib.hid h810
        have hs810 := h810.size
        have z0 : w10.cell? ⟨g6, 0, none⟩ = _ := HBM10.out.cell 0
        have z1 : w10.cell? ⟨g6, 1, none⟩ = _ := HBM10.out.cell 1
        have z2 : w10.cell? ⟨g6, 2, none⟩ = _ := HBM10.out.cell 2
        simp only [List.getElem?_cons_zero, List.getElem?_cons_succ] at z0 z1 z2
        have lM10 := HBM10.out.lt
        clear hb10 h810 HOA9 HBM8 HT8 HRS H89
        go_wp2
        refine region_first [0, 1] (.cons 2 (seq [3, 4, 5, 6, 7, 8, 9, 10] .nil)) (by kernel_rfl) (by kernel_rfl) ?_
        simp only [pick, List.map_cons, List.map_nil, List.getD_cons_zero, List.getD_cons_succ]
        go_wp2
        refine ord_call (by kernel_rfl) ?_
        simp only [pick, List.map_cons, List.map_nil, List.getD_cons_zero, List.getD_cons_succ]
        go_wp2_with (at_builtin; go_must (refine app_src eltIntS w10.drew rfl _ _ rfl w10.heap.size _ 0 [] rfl (World.ownsRow_nil _ _ _ _) As n' _ (S.map (Value.int .i64)) rfl w10.heap.size (by exact Rd.heap hs2 rfl) (one_ints _ _) (by omega) (by omega) (Nat.le_refl _) ?_); intro v3 w3 hv3 hg3 hbel3 hsz3)
        have hb3 : Below w10.heap.size w10 w3 := hbel3 w10 (Below.refl _ _).drew
        rw [List.nil_append, Nat.zero_add] at hv3
        obtain ⟨A4, c4, rfl, hlc4⟩ := own_form hv3
        refine ⟨ext_below (hbel3 _ (Below.refl _ _)), ?_⟩
        have HR4 := Lib.hid (show RI w3 w3.heap.size .i64 A4 n' S from Rd.of_own hv3)
        have hbel3w := HB10.out.trans (hb3.mono hs10)
        have HB3w := Lib.hid hbel3w
        have HIM3 := Lib.hid (HIM10.out.below hb3)
        have HBM3 := Lib.hid (HBM10.out.below hb3 lM10)
        have HT3 := Lib.hid (HT10.out.below hb3 HT10.out.lt)
        have HOA3 := Lib.hid (show OwnA w3 w8.heap.size 46 (.slice A9 n9 c9) n9 ((dgs T).map (hA (mTc c xy) pfN)) from own_kc (T := fun _ => False) HOA.out (Kc.below hb3) id)
        have H83 := Lib.hid (H810.out.trans (hb3.mono hs810))
        have hs3w := hbel3w.size
        have lM3 := HBM3.out.lt
        have hlt9 : ∀ k, (Value.slice A9 n9 c9).ownBlock = some k → k < w3.heap.size := fun k hk => own_ltW HOA3.out hk
        have HLT9 := Lib.hid hlt9
        clear hv3 hg3 hbel3 hsz3 hbel3w z0 z1 z2 hs2 HIM10 HBM10 HT10 HOA H810 hlt9
        refine ord_last [3, 4, 5, 6, 7, 8, 9, 10] (by kernel_rfl) ?_
        simp only [pick, List.map_cons, List.map_nil, List.getD_cons_zero, List.getD_cons_succ]
        go_wp2_with fail
        refine (HPl.out w3 HT3.out Aq0 nq0 kq0 (some ⟨g3, 0, none⟩) 2 2 (some ⟨g4, 0, none⟩) 3 3 (mTc c xy) A4 n' c4 S T W 0 HIM3.out HR4.out (by omega) HR.out).mono ?_
        rintro e w4 ⟨B1, m1, d1, B2, m2, d2, rfl, hr1, _, hl1, hl2, hm1, hm2, hge, hb4⟩
        have hbel4 := HB3w.out.trans (hb4.mono hs3w)
        have HB4 := Lib.hid hbel4
        have LT := Lib.hid hr1.len
        have HGE := Lib.hid hge
        have HEV := Lib.hid hr1
        have HIM4 := Lib.hid (HIM3.out.below hb4)
        have HBM4 := Lib.hid (HBM3.out.below hb4 lM3)
        have HOA4 := Lib.hid (show OwnA w4 w8.heap.size 46 (.slice A9 n9 c9) n9 ((dgs T).map (hA (mTc c xy) pfN)) from own_kc (T := fun _ => False) HOA3.out (Kc.below hb4) id)
        have H84 := Lib.hid (H83.out.trans (hb4.mono H83.out.size))
        obtain ⟨D, hD⟩ : ∃ D, D = dgs T := ⟨_, rfl⟩
        have HD := Lib.hid hD
        have hs4 := hbel4.size
        have hs34 := hb4.size
        have hs84 := H84.out.size
        have HLD : Hid (D.length = n9) := by
          have := OwnA.len HOA4.out
          rw [List.length_map] at this
          show _ = _
          rw [hD]; exact this
        rw [← hD] at HOA4 HP3 HP4 HP5
        have hlM8 : g6 < w8.heap.size := lM8
        clear hr1 hge hb4 hbel4 hD HIM3 HBM3 HT3 HR4 HR HP2 HPl HOA3 H83 HB3w HB10 lM3 hb3 HXy HXz HRz HXLy HW HAd HGe HT HLc
        go_wp2
        go_loopw [14, 15] (fun kk i wr => ∃ j : Nat, j ≤ m1 ∧ i = .int .i64 j ∧ kk = .int .i64 (dgs (T.take j)).length ∧ Hid (OwnA wr w8.heap.size 46 (.slice A9 n9 c9) n9 ((D.take (dgs (T.take j)).length).map (cntA (mTc c xy)) ++ (D.drop (dgs (T.take j)).length).map (hA (mTc c xy) pfN))) ∧ Hid (w4.heap.size ≤ wr.heap.size ∧ ∀ b, b < w4.heap.size → some b ≠ (Value.slice A9 n9 c9).ownBlock → wr.heap[b]? = w4.heap[b]?) ∧ Below w8.heap.size w4 wr) (fun _ i _ => m1 - (intOf i).toNat)
        case atStart => exact ⟨0, Nat.zero_le _, rfl, rfl, by simpa [dgs] using HOA4, ⟨Nat.le_refl _, fun _ _ _ => rfl⟩, Below.refl _ _⟩
        case round =>
          obtain ⟨j, hj, rfl, rfl, HOW, HUN, hbel⟩ := hrel
          have hsz : w4.heap.size ≤ wr.heap.size := HUN.out.1
          by_cases hjm : j < m1
          · have ejm : decide ((j : Int) < m1) = true := by simp; omega
            obtain ⟨b, o, A5, n5, k5, x, rfl, hbB, d0, d1', d2, d3, d4, d5, hlk, hn5, hri0, HX, hmem⟩ := HEV.out.val hjm
            have hbge : w3.heap.size ≤ b := HGE.out b o none rfl
            have hne : some b ≠ (Value.slice A9 n9 c9).ownBlock := fun e => by have := HLT9.out b e.symm; omega
            have hH := HUN.out.2 b hbB hne
            have q1 := (cell_heap (i := o + j * 6 + 1) hH).trans d1'
            have q2 := (cell_heap (i := o + j * 6 + 2) hH).trans d2
            have q3 := (cell_heap (i := o + j * 6 + 3) hH).trans d3
            have lb : b < wr.heap.size := by omega
            have HXT := Lib.hid hmem
            clear hri0 d0 d1' d2 d3 d4 d5 hmem hH hne
            obtain ⟨K, hK⟩ : ∃ K, K = (dgs (T.take j)).length := ⟨_, rfl⟩
            rw [← hK] at HOW ⊢
            have HK := Lib.hid hK
            clear hK
            cases hen : x.en with
            | true =>
              rw [hen] at q3
              have HNX : Hid ((dgs (T.take (j + 1))).length = K) := by show _ = _; rw [dgs_lenE HX.out hen, HK.out]
              clear hen
              go_wp2
              go_roundw
              case rel => exact ⟨j + 1, by omega, by go_num, by rw [HNX.out], by rw [HNX.out]; exact HOW.out, HUN.out, hbel⟩
              case measure => simp [intOf]; omega
            | false =>
              rw [hen] at q3
              have HNX : Hid ((dgs (T.take (j + 1))).length = K + 1) := by show _ = _; rw [dgs_lenB HX.out hen, HK.out]
              obtain ⟨d, hd, hdt, hdc⟩ := dgs_nth HX.out hen
              rw [← HK.out, ← HD.out] at hd
              have hKn : K < n9 := by rw [← HLD.out]; exact (List.getElem?_eq_some_iff.1 hd).1
              have eKn : decide ((K : Int) < n9) = true := by simp; omega
              have hdm := List.mem_of_getElem? hd
              obtain ⟨hxt, hxc⟩ := HRNG.out x HXT.out
              have hth3 : x.th < 3 := by simpa [mTc] using hxt
              have h8r := H84.out.trans hbel
              obtain ⟨bt, ot, At', nt', kt, tl, hAt, hbt, y0, hlt, hrl, HTT, htm⟩ := ((HIM8.out.ts).below h8r).val (i := x.th) hth3
              have bMr := HBM4.out.below hbel hlM8
              have z2 : wr.cell? ⟨g6, 2, none⟩ = _ := bMr.cell 2
              simp only [List.getElem?_cons_zero, List.getElem?_cons_succ] at z2
              rw [hAt] at z2
              have lMr := bMr.lt
              rw [HTT.out] at hxc
              simp only [Option.getD_some] at hxc
              have hcl : x.cl < nt' := by have := hrl.len; omega
              obtain ⟨bl, ol, qx, A7, n7, k7, ar, hAl, hbl, l0, l1, hlk7, hri7, HL7, hl7m⟩ := hrl.val hcl
              subst hAl
              have nt20 : nt' ≤ 20 := by have h1 := hrl.len; have h2 := ((tc_ok HC.out xy).2.2.2.2 _ htm).1; omega
              have lbt : bt < wr.heap.size := by omega
              have lbl : bl < wr.heap.size := by omega
              have hcc : (qx = 0 ∧ ∃ y, ar = [y]) ∨ (qx = 1 ∧ ar = []) := by
                obtain ⟨i, hi⟩ := tc_at (by_ := xy) (t := x.th) (i := x.cl) (c := ⟨qx, ar⟩) (by
                  have h1 : (mTc cC xy).ts[x.th]? = some tl := HTT.out
                  rw [h1]; exact HL7.out)
                rcases tcC_mem xy i with ⟨e, _⟩ | ⟨e, _⟩ <;> rw [← hi] at e <;> injection e with e1 e2
                · exact .inl ⟨e1, _, e2⟩
                · exact .inr ⟨e1, e2⟩
              have HADD : Hid ((cntA (mTc c xy) d).add = if qx = 0 then ar.headD 0 else 0) := by
                show _ = _
                unfold cntA
                rw [hdt, hdc, HTT.out]
                simp only [Option.getD_some]
                rw [HL7.out]
              have HDK := Lib.hid hd
              have HA5 := Lib.hid (HP5.out d hdm)
              obtain ⟨g9, cq9, h9, hBg, _, hgl⟩ := own_pos HOW.out (by omega)
              injection h9 with h9 _ h9c
              subst h9 h9c
              have a4 : wr.cell? ⟨g9, K * 5 + 4, none⟩ = some (.int .i64 (hA (mTc c xy) pfN d).add) := by
                rw [World.ownsRow.cellAt HOW.out _ (by omega), flatMap_at acV_len _ K 4 _ (lk_at hd) (by omega)]
                rfl
              have ff := World.ownsRow.frozenAt HOW.out (K * 5 + 4)
              clear htm hl7m hrl bMr HTT hd hdt hdc hdm hAt h8r hxt hxc hen
              rcases hcc with ⟨rfl, y, rfl⟩ | ⟨hq1, hq2⟩
              · obtain ⟨ba, oa, av, hAa, hba, ca, HAV, _⟩ := hri7.val (i := 0) (by have := hri7.len; simp at this; omega)
                subst hAa
                rw [Nat.add_zero] at ca
                have hav : y = av := by have := HAV.out; simpa using this
                subst hav
                have hn7 : n7 = 1 := by have := hri7.len; simpa using this.symm
                subst hn7
                have lba : ba < wr.heap.size := by omega
                clear HAV hri7
                go_wp2
                refine region_first [0, 1, 2, 3, 4, 5, 6, 7, 8, 9, 10, 11, 12, 13, 14, 15] (.cons 16 (seq [17] .nil)) (by kernel_rfl) (by kernel_rfl) ?_
                simp only [pick, List.map_cons, List.map_nil, List.getD_cons_zero, List.getD_cons_succ]
                go_wp2
                refine ord_call (by kernel_rfl) ?_
                simp only [pick, List.map_cons, List.map_nil, List.getD_cons_zero, List.getD_cons_succ]
                go_wp2
                refine ⟨ext_below ((Below.refl _ _).alloc (Nat.le_refl _) _), ?_⟩
                refine ord_last [17] (by kernel_rfl) ?_
                simp only [pick, List.map_cons, List.map_nil, List.getD_cons_zero, List.getD_cons_succ]
                go_wp2
                have he : { hA (mTc c xy) pfN d with add := y } = cntA (mTc c xy) d := by
                  have h := HADD.out
                  simp only [if_true, List.headD_cons] at h
                  rw [HA5.out, ← h]
                have h0 : OwnA (wr.setCell ⟨g9, K * 5 + 4, none⟩ (.int .i64 y)) w8.heap.size 46 (.slice (some ⟨g9, 0, none⟩) n9 c9) n9 ((D.take (K + 1)).map (cntA (mTc c xy)) ++ (D.drop (K + 1)).map (hA (mTc c xy) pfN)) := by
                  have h1 := OwnA.put HOW.out (K * 5 + 4) (.int .i64 y)
                  rw [flat_add _ K _ y (lk_at HDK.out), he, ← lk_step HDK.out] at h1
                  exact h1
                have hW : wr.heap.size ≤ ((wr.setCell ⟨g9, K * 5 + 4, none⟩ (.int .i64 y)).alloc (Obj.cells #[.int .i64 0, .slice (some ⟨ba, oa, none⟩) 1 k7] 41)).heap.size := by simp
                refine ⟨⟨j + 1, by omega, by go_num, by rw [HNX.out]; simp, ?_, ⟨Nat.le_trans hsz hW, fun b' hb' hne' => ?_⟩, ?_⟩, by simp [intOf]; omega⟩
                · rw [HNX.out]
                  exact own_kc (T := fun _ => False) h0 (Kc.below (((Below.refl _ _).alloc (Nat.le_refl _) _).drew)) id
                · have h1 := (grown_setCell wr ⟨g9, K * 5 + 4, none⟩ (.int .i64 y)).block b' (by omega) hne'
                  have h2 := ((Below.refl (wr.setCell ⟨g9, K * 5 + 4, none⟩ (.int .i64 y)).heap.size (wr.setCell ⟨g9, K * 5 + 4, none⟩ (.int .i64 y))).alloc (Nat.le_refl _) (Obj.cells #[.int .i64 0, .slice (some ⟨ba, oa, none⟩) 1 k7] 41)).block b' (by simp; omega)
                  exact (h2.trans h1).trans (HUN.out.2 b' hb' hne')
                · exact ((below_at hbel hBg _ _).alloc (by simp; omega) _).drew
              · have e10 : (qx == 0) = false := by rw [hq1]; rfl
                have HQ1 := Lib.hid hq1
                clear hq1 hq2 hri7 a4 ff
                go_wp2
                refine region_first [0, 1, 2, 3, 4, 5, 6, 7, 8, 9, 10, 11, 12, 13, 14, 15] (.cons 16 (seq [17] .nil)) (by kernel_rfl) (by kernel_rfl) ?_
                simp only [pick, List.map_cons, List.map_nil, List.getD_cons_zero, List.getD_cons_succ]
                go_wp2
                refine ord_call (by kernel_rfl) ?_
                simp only [pick, List.map_cons, List.map_nil, List.getD_cons_zero, List.getD_cons_succ]
                go_wp2
                refine ⟨ext_below ((Below.refl _ _).alloc (Nat.le_refl _) _), ?_⟩
                refine ord_last [17] (by kernel_rfl) ?_
                simp only [pick, List.map_cons, List.map_nil, List.getD_cons_zero, List.getD_cons_succ]
                go_wp2
                have he : cntA (mTc c xy) d = hA (mTc c xy) pfN d := by
                  have h := HADD.out
                  rw [if_neg (by rw [HQ1.out]; decide)] at h
                  rw [HA5.out, ← h]
                refine ⟨⟨j + 1, by omega, by go_num, by rw [HNX.out]; simp, ?_, ⟨Nat.le_trans hsz (by show wr.heap.size ≤ (wr.alloc _).heap.size; simp), fun b' hb' hne' => ?_⟩, ?_⟩, by simp [intOf]; omega⟩
                · rw [HNX.out, lk_step HDK.out, he, set_sameK (lk_at HDK.out)]
                  exact own_kc (T := fun _ => False) HOW.out (Kc.below (((Below.refl _ _).alloc (Nat.le_refl _) _).drew)) id
                · have h2 := ((Below.refl wr.heap.size wr).alloc (Nat.le_refl _) (Obj.cells #[.int .i64 qx, .slice A7 n7 k7] 41)).block b' (by omega)
                  exact h2.trans (HUN.out.2 b' hb' hne')
                · exact (hbel.alloc (by omega) _).drew
          · obtain rfl : m1 = j := by omega
            have hT : T.take m1 = T := List.take_of_length_le (by rw [LT.out]; exact Nat.le_refl _)
            rw [hT, ← HD.out] at HOW
            rw [hT, ← HD.out, HLD.out]
            have h1 : OwnA wr w8.heap.size 46 (.slice A9 n9 c9) n9 (D.map (cntA (mTc c xy))) := by
              have h1 := HOW.out
              rw [List.take_of_length_le (Nat.le_refl _), List.drop_eq_nil_of_le (Nat.le_refl _), List.map_nil, List.append_nil] at h1
              exact h1
            have HO1 := Lib.hid h1
            have hbelF : Below w.heap.size w wr := HB4.out.trans (hbel.mono (by have := H84.out.size; omega))
            have HBF := Lib.hid hbelF
            have hsF := hbelF.size
            clear h1 hT HOW hbelF
            go_wp2_with fail
            refine (HLC.out wr A9 n9 c9 _ 2 0 true 0 (Rd.of_own HO1.out) (by omega) hlc9 HP3.out.2 (by unfold inW; omega) (.inr ⟨HP3.out.1, ⟨fun _ => HP4.out, fun _ => rfl⟩, rfl⟩)).mono ?_
            rintro e w11 ⟨rfl, hb11⟩
            have HB11 := Lib.hid (HBF.out.trans (hb11.mono hsF))
            go_wp2
            go_ret
            exact ⟨by simp, HB11.out⟩
end Go.Proofs.YtnchgdjdfhfedaaDoor
