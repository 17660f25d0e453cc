/- The walk of TopBeside, from what is asked of count, cell, run.Play and lin.Check. No statement of the seat is proved here. -/
import Derived.Test.YtnchgdjdfhfedaaGreatDoorPartAE
import Derived.Test.YtnchgdjdfhfedaaGreatDoorPartAF
import Derived.Test.YtnchgdjdfhfedaaGreatDoorPartAG
import Derived.Test.YtnchgdjdfhfedaaGreatDoorPartAI
import Derived.Test.YtnchgdjdfhfedaaGreatDoorPartAN
import Derived.Test.YtnchgdjdfhfedaaGreatDoorPartAR
set_option linter.unusedSimpArgs false
set_option linter.unusedVariables false
namespace Go.Proofs.YtnchgdjdfhfedaaGreatDoor
open Go.RowKit Go.Ord Go.OrdG Go.Baro Go.Baro.Bsd

theorem put_mv (d : Nat) (h1 : 1 ≤ d) (h6 : d ≤ 6) : okC ((Cel.putC d).map (mvB 1)) ∧ (∀ o ∈ (Cel.putC d).map (mvB 1), inI o) ∧ ∀ o ∈ Cel.putC d, (o.k = 13 ∨ o.k = 14 ∨ o.k = 15) → 0 ≤ o.c ∧ o.c < 1000 := by
  rcases (by omega : d = 1 ∨ d = 2 ∨ d = 3 ∨ d = 4 ∨ d = 5 ∨ d = 6) with rfl | rfl | rfl | rfl | rfl | rfl <;> decide +kernel
theorem get_mv (d : Nat) (h1 : 1 ≤ d) (h6 : d ≤ 6) : okC ((Cel.getC d).map (mvB 1)) ∧ (∀ o ∈ (Cel.getC d).map (mvB 1), inI o) ∧ ∀ o ∈ Cel.getC d, (o.k = 13 ∨ o.k = 14 ∨ o.k = 15) → 0 ≤ o.c ∧ o.c < 1000 := by
  rcases (by omega : d = 1 ∨ d = 2 ∨ d = 3 ∨ d = 4 ∨ d = 5 ∨ d = 6) with rfl | rfl | rfl | rfl | rfl | rfl <;> decide +kernel
theorem add_ok : okC Cnt.addC ∧ ∀ o ∈ Cnt.addC, inI o := by decide +kernel
theorem bs_th {by_ : List Int} {d q : Nat} (h6 : d ≤ 6) (hq : q < 4) : okTh (bsJ by_ d 6 q) := by
  refine ⟨by have := bsJ_len (by_ := by_) (d := d) (i := 6) (q := q); omega, fun x hx => ?_⟩
  unfold bsJ at hx
  split at hx
  · rw [List.eq_of_mem_replicate hx]
    exact ⟨by unfold inW; dsimp only; omega, by simp; omega, fun y hy => by rw [List.eq_of_mem_replicate hy]; unfold inW; omega⟩
  · split at hx
    · rw [List.eq_of_mem_replicate hx]
      exact ⟨by unfold inW; dsimp only; omega, by simp, fun y hy => by cases hy⟩
    · obtain ⟨j, _, rfl⟩ := List.mem_map.1 hx
      refine ⟨by unfold inW; dsimp only; omega, by simp, fun y hy => ?_⟩
      rw [List.mem_singleton.1 hy]
      unfold bsN inW
      split <;> omega
theorem bs_ok (by_ : List Int) {d : Nat} (h1 : 1 ≤ d) (h6 : d ≤ 6) : okMc (mB by_ d) := by
  refine ⟨by simp [mB, Cel.wsC]; omega, by simp [mB], by simp [mB], fun x hx => ?_, fun t ht => ?_⟩
  · simp only [mB, List.mem_cons, List.not_mem_nil, or_false] at hx
    rcases hx with rfl | rfl | rfl
    · exact add_ok.1
    · exact (put_mv d h1 h6).1
    · exact (get_mv d h1 h6).1
  · simp only [mB, List.mem_map, List.mem_range] at ht
    obtain ⟨q, hq, rfl⟩ := ht
    refine ⟨by have := bsJ_len (by_ := by_) (d := d) (i := 6) (q := q); omega, fun x hx => ?_⟩
    unfold bsJ at hx
    split at hx
    · rw [List.eq_of_mem_replicate hx]; exact ⟨by simp [mB], by simp; omega⟩
    · split at hx
      · rw [List.eq_of_mem_replicate hx]; exact ⟨by simp [mB], by simp⟩
      · obtain ⟨j, _, rfl⟩ := List.mem_map.1 hx
        exact ⟨by simp [mB], by simp⟩
theorem bs_inM (by_ : List Int) {d : Nat} (h1 : 1 ≤ d) (h6 : d ≤ 6) {w : World} {Aw A1 A2 A3 : Option Addr} {nw cw n1 c1 n2 c2 n3 c3 g5 g7 B : Nat} {tg : Nat → Nat} {ts : Nat → Value}
    (q0 : QT w 3 1 Aw nw ((([0] : List Int) ++ Cel.wsC d).map (Value.int .i64))) (q1 : QT w 67 5 A1 n1 (cellsO Cnt.addC)) (q2 : QT w 67 5 A2 n2 (cellsO ((Cel.putC d).map (mvB 1)))) (q3 : QT w 67 5 A3 n3 (cellsO ((Cel.getC d).map (mvB 1))))
    (b5 : Box w g5 28 [.slice A1 n1 c1, .slice A2 n2 c2, .slice A3 n3 c3]) (hm : Mg 3 40 38 tg w B g7 4 ts (bsJ by_ d 6)) (hlw : nw ≤ cw) (hcw : cw ≤ 9223372036854775807) (hl1 : n1 ≤ c1) (hl2 : n2 ≤ c2) (hl3 : n3 ≤ c3) :
    InM w Aw nw cw (some ⟨g5, 0, none⟩) 3 3 (some ⟨g7, 0, none⟩) 4 4 (mB by_ d) := by
  refine ⟨q0.rd, ?_, hm.rts, fun x hx => ?_, ?_, ?_, ⟨hlw, hcw⟩, ⟨by omega, by omega⟩, ⟨by omega, by omega⟩⟩
  · refine rg_box (rows := [[.slice A1 n1 c1], [.slice A2 n2 c2], [.slice A3 n3 c3]]) b5 rfl rfl (by simp) fun i r x hr hx => ?_
    match i with
    | 0 =>
      simp [mB] at hr hx
      subst hr hx
      exact ⟨A1, n1, c1, rfl, hl1, q1.rd⟩
    | 1 =>
      simp [mB] at hr hx
      subst hr
      refine ⟨A2, n2, c2, rfl, hl2, ?_⟩
      rw [← hx]; exact q2.rd
    | 2 =>
      simp [mB] at hr hx
      subst hr
      refine ⟨A3, n3, c3, rfl, hl3, ?_⟩
      rw [← hx]; exact q3.rd
    | i + 3 => simp at hr
  · simp only [mB, List.mem_append, List.mem_singleton] at hx
    rcases hx with rfl | hx
    · unfold inW; omega
    · rw [List.eq_of_mem_replicate hx]; unfold inW; omega
  · intro x hx
    simp only [mB, List.mem_cons, List.not_mem_nil, or_false] at hx
    rcases hx with rfl | rfl | rfl
    · exact ⟨by have := add_ok.1.1; omega, add_ok.2⟩
    · exact ⟨by have := (put_mv d h1 h6).1.1; omega, (put_mv d h1 h6).2.1⟩
    · exact ⟨by have := (get_mv d h1 h6).1.1; omega, (get_mv d h1 h6).2.1⟩
  · intro t ht
    simp only [mB, List.mem_map, List.mem_range] at ht
    obtain ⟨q, hq, rfl⟩ := ht
    exact bs_th h6 hq
def lowI (x : Int) : Bool := decide (x < 2)
/-- The schedule's two parts while j steps are dealt. -/
structure SpM (S : List Int) (B : Nat) (u v : Value) (j : Nat) (w : World) : Prop where
  lo : w.ownsRow B 3 1 u ((S.take j).filter lowI).length (((S.take j).filter lowI).map (Value.int .i64))
  hi : w.ownsRow B 3 1 v ((S.take j).filter fun x => !lowI x).length (((S.take j).filter fun x => !lowI x).map (Value.int .i64))
  ne : ∀ k, u.ownBlock = some k → v.ownBlock ≠ some k
theorem own_keptB {w w' : World} {B : Nat} {e : TypeId} {s n : Nat} {v : Value} {xs : List Value} {row : Option Nat} (h : w.ownsRow B e s v n xs) (hg : w.grownBy w' row) (hne : ∀ k, v.ownBlock = some k → row ≠ some k) : w'.ownsRow B e s v n xs :=
  h.kept hg (by cases hv : v.ownBlock with | none => exact .inl rfl | some k => exact .inr (fun e => hne k hv e.symm))
theorem mem_ofB {l : List Nat} {a : Nat} (h : l.contains a = true) : a ∈ l := by simpa using h
theorem eltIntB : Elt Tryz.prog 22 3 (.int .i64 0) 1 8 := Elt.mk' Tryz.underlying22 (by kernel_rfl) rfl (by decide)
theorem own_lowB {w : World} {B B' : Nat} {e : TypeId} {s n : Nat} {v : Value} {xs : List Value} (h : w.ownsRow B e s v n xs) (hB : B' ≤ B) : w.ownsRow B' e s v n xs := by
  refine ⟨h.1, ?_⟩
  rcases h.2 with h2 | ⟨g, cap, cur, h1, h2, h3⟩
  · exact .inl h2
  · exact .inr ⟨g, cap, cur, h1, Nat.le_trans hB h2, h3⟩
structure BsdV (L : Nat → Bool) (ny cy nz cz nw cw np cp ng cg cv ca d : Nat) (xw : Int) (Ay Az Aw Ap Ag Av Aa : Option Addr) (B : Nat) (w0 : World) (u94 u95 u96 u97 u98 u99 u100 u101 u102 u103 u104 u105 u106 u107 u16 : Value) (w : World) : Prop where
  bel : Below B w0 w
  f0 : L 0 = true → u94 = .slice Av 1 cv
  f1 : L 1 = true → L 3 = false → w.ownsRow B 3 1 u95 1 [.int .i64 0]
  f2 : L 2 = true → u96 = .slice Aw nw cw
  f3 : L 3 = true → w.ownsRow B 3 1 u97 (1 + nw) ((([0] : List Int) ++ Cel.wsC d).map (Value.int .i64))
  f4 : L 4 = true → ∃ A n k, u98 = .slice A n k ∧ n ≤ k ∧ k ≤ 9223372036854775807 ∧ QT w 67 5 A n (cellsO (Cnt.addC))
  f5 : L 5 = true → u99 = .slice Ap np cp
  f6 : L 6 = true → u100 = .int .i64 1
  f7 : L 7 = true → ∃ A n k, u101 = .slice A n k ∧ n ≤ k ∧ k ≤ 9223372036854775807 ∧ QT w 67 5 A n (cellsO ((Cel.putC d).map (mvB 1)))
  f8 : L 8 = true → u102 = .slice Ag ng cg
  f9 : L 9 = true → u103 = .int .i64 1
  f10 : L 10 = true → ∃ A n k, u104 = .slice A n k ∧ n ≤ k ∧ k ≤ 9223372036854775807 ∧ QT w 67 5 A n (cellsO ((Cel.getC d).map (mvB 1)))
  f11 : L 11 = true → ∃ g, u105 = .slice (some ⟨g, 0, none⟩) 3 3 ∧ B ≤ g ∧ Box w g 28 [u98, u101, u104]
  f12 : L 12 = true → ∃ g, u106 = .slice (some ⟨g, 0, none⟩) 4 4 ∧ B ≤ g ∧ Box w g 38 (List.replicate 4 (.slice none 0 0))
  f13 : L 13 = true → u107 = .agg #[u97, u105, u106]
  f14 : L 14 = true → ∃ g, u16 = .pointer (some ⟨g, 0, none⟩) ∧ B ≤ g ∧ Box w g 37 [.slice none 0 0, .slice none 0 0, .slice none 0 0]
def BsdG (ny cy nz cz nw cw np cp ng cg cv ca d : Nat) (xw : Int) (Ay Az Aw Ap Ag Av Aa : Option Addr) (B : Nat) (w0 : World) (L : Nat → Bool) (a : Act) (w : World) : Prop :=
  ∃ u94 u95 u96 u97 u98 u99 u100 u101 u102 u103 u104 u105 u106 u107 u16, a = ⟨#[.slice Ay ny cy, .int .i64 xw, .slice Az nz cz, undef, undef, undef, .bool false, .int .i64 ((d : Nat) : Int), .slice Aw nw cw, .int .i64 0, .slice Ap np cp, .int .i64 0, .slice Ag ng cg, .int .i64 0, .slice Av 1 cv, .int .i64 1, u16, undef, undef, undef, undef, undef, undef, undef, undef, undef, undef, undef, undef, undef, undef, undef, undef, undef, undef, undef, undef, .int .i64 xw, .int .i64 (((d : Nat) : Int) - 1), .int .i64 ((d : Nat) : Int), .tuple #[.slice Aw nw cw, .int .i64 0], .int .i64 ((d : Nat) : Int), .tuple #[.slice Aw nw cw, .int .i64 0], .slice Aw nw cw, .int .i64 0, .tuple #[.slice Ap np cp, .int .i64 0], .int .i64 ((d : Nat) : Int), .tuple #[.slice Ap np cp, .int .i64 0], .slice Ap np cp, .int .i64 0, .tuple #[.slice Ag ng cg, .int .i64 0], .int .i64 ((d : Nat) : Int), .tuple #[.slice Ag ng cg, .int .i64 0], .slice Ag ng cg, .int .i64 0, .slice Av 1 cv, .slice Av 1 cv, .int .i64 1, .int .i64 0, .bool false, .bool false, .int .i64 0, .bool false, .bool false, .bool false, .int .i64 0, .bool false, .bool false, .bool false, .int .i64 1, .bool false, .bool false, .bool false, .int .i64 1, .slice Aw nw cw, .int .i64 ((nw : Nat) : Int), .int .i64 (1 + ((nw : Nat) : Int)), .bool false, .bool false, .bool false, .slice Ap np cp, .int .i64 ((np : Nat) : Int), .bool false, .bool false, .bool false, .slice Ag ng cg, .int .i64 ((ng : Nat) : Int), .bool false, .bool false, .bool false, .slice Aa 5 ca, .int .i64 5, .bool false, .bool false, u94, u95, u96, u97, u98, u99, u100, u101, u102, u103, u104, u105, u106, u107, undef, undef, undef, undef, undef, undef, undef, undef, undef, undef, undef, undef, undef, undef, undef, undef, undef, undef, undef, undef, undef, undef, undef, undef, undef, undef, undef, undef, undef, undef, undef, undef, undef, undef, undef, undef, undef, undef, undef, undef, undef, undef, undef, undef, undef, undef, undef, undef, undef, undef, undef, undef, undef, undef, undef, undef, undef, undef, undef, undef, undef, undef, undef, undef, undef, undef, undef, undef, undef, undef, undef, undef, undef, undef, undef, undef, undef, undef, undef, undef, undef, undef, undef, undef, undef, undef, undef, undef, undef, undef, undef, undef, undef, undef, undef, undef, undef, undef, undef, undef, undef, undef, undef, undef, undef, undef, undef, undef, undef, undef, undef, undef, undef, undef, undef, undef, undef, undef, undef, undef, undef, undef, undef, undef, undef, undef, undef, undef, undef, undef, undef, undef, undef, undef, undef, undef, undef, undef, undef, undef, undef, undef, undef, undef, undef, undef, undef, undef, undef, undef, undef, undef, undef, undef, undef, undef, undef, undef, undef, undef, undef, undef, undef, undef, undef, undef, undef, undef, undef, undef, undef, undef, undef, undef, undef, undef, undef, undef, undef, undef, undef, undef, undef, undef, undef, undef, undef, undef, undef, undef, undef, undef, undef, undef, undef, undef, undef, undef, undef, undef, undef, undef, undef, undef, undef, undef, undef, undef, undef, undef, undef, undef, undef, undef, undef, undef, undef, undef, undef, undef, undef, undef, undef, undef, undef, undef, undef], []⟩ ∧ BsdV L ny cy nz cz nw cw np cp ng cg cv ca d xw Ay Az Aw Ap Ag Av Aa B w0 u94 u95 u96 u97 u98 u99 u100 u101 u102 u103 u104 u105 u106 u107 u16 w

set_option maxRecDepth 100000 in
set_option maxHeartbeats 2000000 in
theorem top_TopBesideP (hPl : PlaySpecW) (hLC : LinCheckSpec) (hCW : CellWordsSpec Cel.cc) (hCP : CellCodeSpec 6 Cel.cc.cp) (hCG : CellCodeSpec 7 Cel.cc.cg) (hW : W0Spec 8 [0]) (hA : C0Spec 9 Cnt.addC)
    (w : World) (hT : Tab w) (Ay : Option Addr) (ny cy : Nat) (xy : List Int) (hy : RI w w.heap.size .i64 Ay ny xy) (bY : ny ≤ 17592186044416) (_ : ∀ x ∈ xy, -9223372036854775808 ≤ x ∧ x ≤ 9223372036854775807) (_ : ny ≤ cy)
    (xw : Int) (hxw : -9223372036854775808 ≤ xw ∧ xw ≤ 9223372036854775807)
    (Az : Option Addr) (nz cz : Nat) (xz : List Int) (hz : RI w w.heap.size .u8 Az nz xz) (bZ : nz ≤ 140737488351232) (rZ : ∀ x ∈ xz, 0 ≤ x ∧ x < 256) (_ : nz ≤ cz) :
    Calls Tryz.prog 3 #[.slice Ay ny cy, .int .i64 xw, .slice Az nz cz] w fun e w' => e = .returned (.bool true) ∧ Below w.heap.size w w' := by
  have HT := Lib.hid hT
  have HPl := Lib.hid hPl
  have HLC := Lib.hid hLC
  have HCW := Lib.hid hCW
  have HCP := Lib.hid hCP
  have HCG := Lib.hid hCG
  have HW := Lib.hid hW
  have HAd := Lib.hid hA
  have HXy := Lib.hid hy
  have HXz := Lib.hid hz
  have HRz := Lib.hid rZ
  have HXLy := Lib.hid (show xy.length = ny from hy.len)
  clear hT hPl hLC hCW hCP hCG hW hA hy hz rZ
  go_enter Tryz.func3, Tryz.ntmps3
  go_wp2_with fail
  refine (keep_Picked _ _ _ (by omega) (by omega)).mono ?_
  rintro e w' ⟨rfl, rfl⟩
  obtain ⟨d, hd⟩ : ∃ d : Nat, xw % 6 + 1 = d := ⟨(xw % 6 + 1).toNat, by omega⟩
  obtain ⟨xm, hxm⟩ : ∃ xm, xm = xw % 6 := ⟨_, rfl⟩
  rw [← hxm]
  have hdx : xm = (d : Int) - 1 := by omega
  have h1 : 1 ≤ d := by omega
  have h6 : d ≤ 6 := by omega
  subst hdx
  have hdd : 1 + ((d : Int) - 1) = d := by omega
  have hdi : inW (d : Int) := by unfold inW; omega
  clear hd hxm
  go_wp2_with fail
  refine (HCW.out _ _ hdi).mono ?_
  rintro e w1 ⟨he1, _, hb1⟩
  obtain ⟨Aw, nw, cw, rfl, hlw, hcw, hq1⟩ := he1 (by omega)
  rw [Int.toNat_natCast] at hq1
  have HQW := Lib.hid hq1
  have HB1 := Lib.hid hb1
  clear he1 hb1 hq1
  go_wp2_with fail
  refine (HCP.out w1 (HT.out.below HB1.out HT.out.lt) _ hdi).mono ?_
  rintro e w2 ⟨he2, _, hb2⟩
  obtain ⟨Ap, np, cp, rfl, hlp, hcp, hq2⟩ := he2 (by omega)
  rw [Int.toNat_natCast] at hq2
  have HB2 := Lib.hid (HB1.out.trans (hb2.mono HB1.out.size))
  have HQW2 := Lib.hid (HQW.out.kc (Kc.below (T := fun _ => False) hb2) id)
  have HQP := Lib.hid hq2
  clear he2 hb2 hq2 HQW HB1
  go_wp2_with fail
  refine (HCG.out w2 (HT.out.below HB2.out HT.out.lt) _ hdi).mono ?_
  rintro e w3 ⟨he3, _, hb3⟩
  obtain ⟨Ag, ng, cg, rfl, hlg, hcg, hq3⟩ := he3 (by omega)
  rw [Int.toNat_natCast] at hq3
  have HB3 := Lib.hid (HB2.out.trans (hb3.mono HB2.out.size))
  have HQW3 := Lib.hid (HQW2.out.kc (Kc.below (T := fun _ => False) hb3) id)
  have HQP3 := Lib.hid (HQP.out.kc (Kc.below (T := fun _ => False) hb3) id)
  have HQG3 := Lib.hid hq3
  clear he3 hb3 hq3 HQW2 HQP HB2
  go_wp2_with fail
  refine (HW.out w3 (HT.out.below HB3.out HT.out.lt)).mono ?_
  rintro e w4 ⟨⟨Av, nv, cv, rfl, hlv, hcv, hq4⟩, hb4⟩
  obtain rfl : nv = 1 := by have := hq4.1; simpa using this.symm
  have HB4 := Lib.hid (HB3.out.trans (hb4.mono HB3.out.size))
  have HQW4 := Lib.hid (HQW3.out.kc (Kc.below (T := fun _ => False) hb4) id)
  have HQP4 := Lib.hid (HQP3.out.kc (Kc.below (T := fun _ => False) hb4) id)
  have HQG4 := Lib.hid (HQG3.out.kc (Kc.below (T := fun _ => False) hb4) id)
  have HQV4 := Lib.hid hq4
  have HNW : Hid ((Cel.wsC d).length = nw) := by show _ = _; have := HQW4.out.1; rw [List.length_map, Nat.mul_one] at this; exact this
  have hnw : 0 < nw ∧ nw ≤ 60 := by have := HNW.out; simp [Cel.wsC] at this; omega
  have hnp : 0 < np ∧ np ≤ 200 := by
    have h := HQP4.out.1
    rw [cellsO_length] at h
    have h2 := (cc_ok.cp d h1 h6)
    have : (Cel.cc.cp d).length = np := by omega
    have h3 := h2.2.1.1
    have h4 := h2.1
    omega
  have hng : 0 < ng ∧ ng ≤ 200 := by
    have h := HQG4.out.1
    rw [cellsO_length] at h
    have h2 := (cc_ok.cg d h1 h6)
    have : (Cel.cc.cg d).length = ng := by omega
    have h3 := h2.2.1.1
    have h4 := h2.1
    omega
  have eW : decide ((200 : Int) < 1 + (nw : Int)) = false := by simp; omega
  have eP : ((np : Int) == 0) = false := by simp; omega
  have eG : ((ng : Int) == 0) = false := by simp; omega
  clear hb4 hq4 HQW3 HQP3 HQG3 HB3
  go_wp2_with fail
  refine (HAd.out w4 (HT.out.below HB4.out HT.out.lt)).mono ?_
  rintro e w5 ⟨⟨Aa, na, ca, rfl, hla, hca, hq5⟩, hb5⟩
  have hna : na = 5 := by have h := hq5.1; rw [cellsO_length] at h; have : Cnt.addC.length = 5 := rfl; omega
  subst hna
  have HB5 := Lib.hid (HB4.out.trans (hb5.mono HB4.out.size))
  have HQW5 := Lib.hid (HQW4.out.kc (Kc.below (T := fun _ => False) hb5) id)
  have HQP5 := Lib.hid (HQP4.out.kc (Kc.below (T := fun _ => False) hb5) id)
  have HQG5 := Lib.hid (HQG4.out.kc (Kc.below (T := fun _ => False) hb5) id)
  have HQV5 := Lib.hid (HQV4.out.kc (Kc.below (T := fun _ => False) hb5) id)
  clear hb5 hq5 HQW4 HQP4 HQG4 HQV4 HB4
  go_wp2
  refine region_manyL (G := BsdG ny cy nz cz nw cw np cp ng cg cv ca d xw Ay Az Aw Ap Ag Av Aa w5.heap.size w5) 15 (by kernel_rfl) (by kernel_rfl) ⟨_, _, _, _, _, _, _, _, _, _, _, _, _, _, _, rfl, ⟨(Below.refl _ _).drew, fun h => (by cases h), fun h => (by cases h), fun h => (by cases h), fun h => (by cases h), fun h => (by cases h), fun h => (by cases h), fun h => (by cases h), fun h => (by cases h), fun h => (by cases h), fun h => (by cases h), fun h => (by cases h), fun h => (by cases h), fun h => (by cases h), fun h => (by cases h), fun h => (by cases h)⟩⟩ ?_ ?_
  · intro i hi L a wq h1z h2c h3 hG
    obtain ⟨u94, u95, u96, u97, u98, u99, u100, u101, u102, u103, u104, u105, u106, u107, u16, rfl, hV⟩ := hG
    have hszq : w5.heap.size ≤ wq.heap.size := hV.bel.size
    rcases (by omega : i = 0 ∨ i = 1 ∨ i = 2 ∨ i = 3 ∨ i = 4 ∨ i = 5 ∨ i = 6 ∨ i = 7 ∨ i = 8 ∨ i = 9 ∨ i = 10 ∨ i = 11 ∨ i = 12 ∨ i = 13 ∨ i = 14) with rfl | rfl | rfl | rfl | rfl | rfl | rfl | rfl | rfl | rfl | rfl | rfl | rfl | rfl | rfl
    · simp only [pick, List.map_cons, List.map_nil, List.getD_cons_zero, List.getD_cons_succ]
      go_wp2
      exact ⟨_, _, _, _, _, _, _, _, _, _, _, _, _, _, _, rfl, ⟨hV.bel, fun _ => rfl, fun h h3 => hV.f1 (by rwa [markL_ne _ (show 1 ≠ 0 by decide)] at h) (by rwa [markL_ne _ (show 3 ≠ 0 by decide)] at h3), fun h => hV.f2 (by rwa [markL_ne _ (show 2 ≠ 0 by decide)] at h), fun h => hV.f3 (by rwa [markL_ne _ (show 3 ≠ 0 by decide)] at h), fun h => hV.f4 (by rwa [markL_ne _ (show 4 ≠ 0 by decide)] at h), fun h => hV.f5 (by rwa [markL_ne _ (show 5 ≠ 0 by decide)] at h), fun h => hV.f6 (by rwa [markL_ne _ (show 6 ≠ 0 by decide)] at h), fun h => hV.f7 (by rwa [markL_ne _ (show 7 ≠ 0 by decide)] at h), fun h => hV.f8 (by rwa [markL_ne _ (show 8 ≠ 0 by decide)] at h), fun h => hV.f9 (by rwa [markL_ne _ (show 9 ≠ 0 by decide)] at h), fun h => hV.f10 (by rwa [markL_ne _ (show 10 ≠ 0 by decide)] at h), fun h => hV.f11 (by rwa [markL_ne _ (show 11 ≠ 0 by decide)] at h), fun h => hV.f12 (by rwa [markL_ne _ (show 12 ≠ 0 by decide)] at h), fun h => hV.f13 (by rwa [markL_ne _ (show 13 ≠ 0 by decide)] at h), fun h => hV.f14 (by rwa [markL_ne _ (show 14 ≠ 0 by decide)] at h)⟩⟩
    · have e0 := hV.f0 (h3 0 (mem_ofB (by kernel_rfl)))
      subst e0
      have HQ1 := (HQV5.out.kc (Kc.below (T := fun _ => False) hV.bel) id).rd
      simp only [pick, List.map_cons, List.map_nil, List.getD_cons_zero, List.getD_cons_succ]
      go_wp2_with (at_builtin; go_must (refine app_src eltIntB wq rfl _ _ rfl wq.heap.size (.slice none 0 0) 0 [] rfl (World.ownsRow_nil _ _ _ _) Av 1 cv (([0] : List Int).map (Value.int .i64)) rfl wq.heap.size HQ1 (one_ints _ [0]) (by omega) (by omega) (Nat.le_refl _) ?_); intro v4 w4 hown4 hgr4 hbel4 hsz4)
      rw [Nat.zero_add, List.nil_append] at hown4
      have hbN := hbel4 wq (Below.refl _ _)
      exact ⟨_, _, _, _, _, _, _, _, _, _, _, _, _, _, _, rfl, ⟨hV.bel.trans (hbN.mono hszq), fun h => hV.f0 (by rwa [markL_ne _ (show 0 ≠ 1 by decide)] at h), fun _ _ => own_lowB hown4 hszq, fun h => hV.f2 (by rwa [markL_ne _ (show 2 ≠ 1 by decide)] at h), fun h => own_below (hV.f3 (by rwa [markL_ne _ (show 3 ≠ 1 by decide)] at h)) hbN, fun h => (hV.f4 (by rwa [markL_ne _ (show 4 ≠ 1 by decide)] at h)).imp fun A ⟨n, k, e, l, c, q⟩ => ⟨n, k, e, l, c, q.kc (Kc.below (T := fun _ => False) hbN) id⟩, fun h => hV.f5 (by rwa [markL_ne _ (show 5 ≠ 1 by decide)] at h), fun h => hV.f6 (by rwa [markL_ne _ (show 6 ≠ 1 by decide)] at h), fun h => (hV.f7 (by rwa [markL_ne _ (show 7 ≠ 1 by decide)] at h)).imp fun A ⟨n, k, e, l, c, q⟩ => ⟨n, k, e, l, c, q.kc (Kc.below (T := fun _ => False) hbN) id⟩, fun h => hV.f8 (by rwa [markL_ne _ (show 8 ≠ 1 by decide)] at h), fun h => hV.f9 (by rwa [markL_ne _ (show 9 ≠ 1 by decide)] at h), fun h => (hV.f10 (by rwa [markL_ne _ (show 10 ≠ 1 by decide)] at h)).imp fun A ⟨n, k, e, l, c, q⟩ => ⟨n, k, e, l, c, q.kc (Kc.below (T := fun _ => False) hbN) id⟩, fun h => (hV.f11 (by rwa [markL_ne _ (show 11 ≠ 1 by decide)] at h)).imp fun g ⟨e, l, q⟩ => ⟨e, l, q.kc (Kc.below (T := fun _ => False) hbN) id⟩, fun h => (hV.f12 (by rwa [markL_ne _ (show 12 ≠ 1 by decide)] at h)).imp fun g ⟨e, l, q⟩ => ⟨e, l, q.kc (Kc.below (T := fun _ => False) hbN) id⟩, fun h => hV.f13 (by rwa [markL_ne _ (show 13 ≠ 1 by decide)] at h), fun h => (hV.f14 (by rwa [markL_ne _ (show 14 ≠ 1 by decide)] at h)).imp fun g ⟨e, l, q⟩ => ⟨e, l, q.kc (Kc.below (T := fun _ => False) hbN) id⟩⟩⟩
    · simp only [pick, List.map_cons, List.map_nil, List.getD_cons_zero, List.getD_cons_succ]
      go_wp2
      exact ⟨_, _, _, _, _, _, _, _, _, _, _, _, _, _, _, rfl, ⟨hV.bel, fun h => hV.f0 (by rwa [markL_ne _ (show 0 ≠ 2 by decide)] at h), fun h h3 => hV.f1 (by rwa [markL_ne _ (show 1 ≠ 2 by decide)] at h) (by rwa [markL_ne _ (show 3 ≠ 2 by decide)] at h3), fun _ => rfl, fun h => hV.f3 (by rwa [markL_ne _ (show 3 ≠ 2 by decide)] at h), fun h => hV.f4 (by rwa [markL_ne _ (show 4 ≠ 2 by decide)] at h), fun h => hV.f5 (by rwa [markL_ne _ (show 5 ≠ 2 by decide)] at h), fun h => hV.f6 (by rwa [markL_ne _ (show 6 ≠ 2 by decide)] at h), fun h => hV.f7 (by rwa [markL_ne _ (show 7 ≠ 2 by decide)] at h), fun h => hV.f8 (by rwa [markL_ne _ (show 8 ≠ 2 by decide)] at h), fun h => hV.f9 (by rwa [markL_ne _ (show 9 ≠ 2 by decide)] at h), fun h => hV.f10 (by rwa [markL_ne _ (show 10 ≠ 2 by decide)] at h), fun h => hV.f11 (by rwa [markL_ne _ (show 11 ≠ 2 by decide)] at h), fun h => hV.f12 (by rwa [markL_ne _ (show 12 ≠ 2 by decide)] at h), fun h => hV.f13 (by rwa [markL_ne _ (show 13 ≠ 2 by decide)] at h), fun h => hV.f14 (by rwa [markL_ne _ (show 14 ≠ 2 by decide)] at h)⟩⟩
    · have o1 := hV.f1 (h3 1 (mem_ofB (by kernel_rfl))) h1z
      obtain ⟨A95, c95, e1, l1⟩ := own_form o1
      subst e1
      have e2 := hV.f2 (h3 2 (mem_ofB (by kernel_rfl)))
      subst e2
      have HQ3 : Rd wq wq.heap.size 1 Aw nw ((Cel.wsC d).map (Value.int .i64)) := (HQW5.out.kc (Kc.below (T := fun _ => False) hV.bel) id).rd
      simp only [pick, List.map_cons, List.map_nil, List.getD_cons_zero, List.getD_cons_succ]
      go_wp2_with (at_builtin; go_must (refine app_src eltIntB wq rfl _ _ rfl w5.heap.size _ 1 _ rfl (by exact o1) Aw nw cw ((Cel.wsC d).map (Value.int .i64)) rfl wq.heap.size HQ3 (one_ints _ _) (by omega) (by omega) hszq ?_); intro v4 w4 hown4 hgr4 hbel4 hsz4)
      have hk3 : Kc (fun t => t = 3) wq w4 := Kc.grown hgr4 (fun b cs t fr he hh => own_same o1 he hh)
      have hbN := hbel4 _ hV.bel
      exact ⟨_, _, _, _, _, _, _, _, _, _, _, _, _, _, _, rfl, ⟨hbN, fun h => hV.f0 (by rwa [markL_ne _ (show 0 ≠ 3 by decide)] at h), fun h h3 => absurd h3 (by rw [markL_self]; decide), fun h => hV.f2 (by rwa [markL_ne _ (show 2 ≠ 3 by decide)] at h), fun _ => (by rw [List.map_append]; exact hown4), fun h => (hV.f4 (by rwa [markL_ne _ (show 4 ≠ 3 by decide)] at h)).imp fun A ⟨n, k, e, l, c, q⟩ => ⟨n, k, e, l, c, q.kc hk3 (by decide)⟩, fun h => hV.f5 (by rwa [markL_ne _ (show 5 ≠ 3 by decide)] at h), fun h => hV.f6 (by rwa [markL_ne _ (show 6 ≠ 3 by decide)] at h), fun h => (hV.f7 (by rwa [markL_ne _ (show 7 ≠ 3 by decide)] at h)).imp fun A ⟨n, k, e, l, c, q⟩ => ⟨n, k, e, l, c, q.kc hk3 (by decide)⟩, fun h => hV.f8 (by rwa [markL_ne _ (show 8 ≠ 3 by decide)] at h), fun h => hV.f9 (by rwa [markL_ne _ (show 9 ≠ 3 by decide)] at h), fun h => (hV.f10 (by rwa [markL_ne _ (show 10 ≠ 3 by decide)] at h)).imp fun A ⟨n, k, e, l, c, q⟩ => ⟨n, k, e, l, c, q.kc hk3 (by decide)⟩, fun h => (hV.f11 (by rwa [markL_ne _ (show 11 ≠ 3 by decide)] at h)).imp fun g ⟨e, l, q⟩ => ⟨e, l, q.kc hk3 (by decide)⟩, fun h => (hV.f12 (by rwa [markL_ne _ (show 12 ≠ 3 by decide)] at h)).imp fun g ⟨e, l, q⟩ => ⟨e, l, q.kc hk3 (by decide)⟩, fun h => (by rw [markL_ne _ (show 13 ≠ 3 by decide)] at h; have := h2c 13 h 3 (mem_ofB (by kernel_rfl)); rw [h1z] at this; cases this), fun h => (hV.f14 (by rwa [markL_ne _ (show 14 ≠ 3 by decide)] at h)).imp fun g ⟨e, l, q⟩ => ⟨e, l, q.kc hk3 (by decide)⟩⟩⟩
    · have hTq := HT.out.below (HB5.out.trans (hV.bel.mono HB5.out.size)) HT.out.lt
      simp only [pick, List.map_cons, List.map_nil, List.getD_cons_zero, List.getD_cons_succ]
      go_wp2_with fail
      refine (HAd.out wq hTq).mono ?_
      rintro e w4 ⟨⟨Ax, nx, kx, rfl, lx, cx, qx⟩, hbN⟩
      go_wp2
      exact ⟨_, _, _, _, _, _, _, _, _, _, _, _, _, _, _, rfl, ⟨hV.bel.trans (hbN.mono hszq), fun h => hV.f0 (by rwa [markL_ne _ (show 0 ≠ 4 by decide)] at h), fun h h3 => own_below (hV.f1 (by rwa [markL_ne _ (show 1 ≠ 4 by decide)] at h) (by rwa [markL_ne _ (show 3 ≠ 4 by decide)] at h3)) hbN, fun h => hV.f2 (by rwa [markL_ne _ (show 2 ≠ 4 by decide)] at h), fun h => own_below (hV.f3 (by rwa [markL_ne _ (show 3 ≠ 4 by decide)] at h)) hbN, fun _ => ⟨_, _, _, rfl, lx, cx, qx⟩, fun h => hV.f5 (by rwa [markL_ne _ (show 5 ≠ 4 by decide)] at h), fun h => hV.f6 (by rwa [markL_ne _ (show 6 ≠ 4 by decide)] at h), fun h => (hV.f7 (by rwa [markL_ne _ (show 7 ≠ 4 by decide)] at h)).imp fun A ⟨n, k, e, l, c, q⟩ => ⟨n, k, e, l, c, q.kc (Kc.below (T := fun _ => False) hbN) id⟩, fun h => hV.f8 (by rwa [markL_ne _ (show 8 ≠ 4 by decide)] at h), fun h => hV.f9 (by rwa [markL_ne _ (show 9 ≠ 4 by decide)] at h), fun h => (hV.f10 (by rwa [markL_ne _ (show 10 ≠ 4 by decide)] at h)).imp fun A ⟨n, k, e, l, c, q⟩ => ⟨n, k, e, l, c, q.kc (Kc.below (T := fun _ => False) hbN) id⟩, fun h => (by rw [markL_ne _ (show 11 ≠ 4 by decide)] at h; have := h2c 11 h 4 (mem_ofB (by kernel_rfl)); rw [h1z] at this; cases this), fun h => (hV.f12 (by rwa [markL_ne _ (show 12 ≠ 4 by decide)] at h)).imp fun g ⟨e, l, q⟩ => ⟨e, l, q.kc (Kc.below (T := fun _ => False) hbN) id⟩, fun h => hV.f13 (by rwa [markL_ne _ (show 13 ≠ 4 by decide)] at h), fun h => (hV.f14 (by rwa [markL_ne _ (show 14 ≠ 4 by decide)] at h)).imp fun g ⟨e, l, q⟩ => ⟨e, l, q.kc (Kc.below (T := fun _ => False) hbN) id⟩⟩⟩
    · simp only [pick, List.map_cons, List.map_nil, List.getD_cons_zero, List.getD_cons_succ]
      go_wp2
      exact ⟨_, _, _, _, _, _, _, _, _, _, _, _, _, _, _, rfl, ⟨hV.bel, fun h => hV.f0 (by rwa [markL_ne _ (show 0 ≠ 5 by decide)] at h), fun h h3 => hV.f1 (by rwa [markL_ne _ (show 1 ≠ 5 by decide)] at h) (by rwa [markL_ne _ (show 3 ≠ 5 by decide)] at h3), fun h => hV.f2 (by rwa [markL_ne _ (show 2 ≠ 5 by decide)] at h), fun h => hV.f3 (by rwa [markL_ne _ (show 3 ≠ 5 by decide)] at h), fun h => hV.f4 (by rwa [markL_ne _ (show 4 ≠ 5 by decide)] at h), fun _ => rfl, fun h => hV.f6 (by rwa [markL_ne _ (show 6 ≠ 5 by decide)] at h), fun h => hV.f7 (by rwa [markL_ne _ (show 7 ≠ 5 by decide)] at h), fun h => hV.f8 (by rwa [markL_ne _ (show 8 ≠ 5 by decide)] at h), fun h => hV.f9 (by rwa [markL_ne _ (show 9 ≠ 5 by decide)] at h), fun h => hV.f10 (by rwa [markL_ne _ (show 10 ≠ 5 by decide)] at h), fun h => hV.f11 (by rwa [markL_ne _ (show 11 ≠ 5 by decide)] at h), fun h => hV.f12 (by rwa [markL_ne _ (show 12 ≠ 5 by decide)] at h), fun h => hV.f13 (by rwa [markL_ne _ (show 13 ≠ 5 by decide)] at h), fun h => hV.f14 (by rwa [markL_ne _ (show 14 ≠ 5 by decide)] at h)⟩⟩
    · simp only [pick, List.map_cons, List.map_nil, List.getD_cons_zero, List.getD_cons_succ]
      go_wp2
      exact ⟨_, _, _, _, _, _, _, _, _, _, _, _, _, _, _, rfl, ⟨hV.bel, fun h => hV.f0 (by rwa [markL_ne _ (show 0 ≠ 6 by decide)] at h), fun h h3 => hV.f1 (by rwa [markL_ne _ (show 1 ≠ 6 by decide)] at h) (by rwa [markL_ne _ (show 3 ≠ 6 by decide)] at h3), fun h => hV.f2 (by rwa [markL_ne _ (show 2 ≠ 6 by decide)] at h), fun h => hV.f3 (by rwa [markL_ne _ (show 3 ≠ 6 by decide)] at h), fun h => hV.f4 (by rwa [markL_ne _ (show 4 ≠ 6 by decide)] at h), fun h => hV.f5 (by rwa [markL_ne _ (show 5 ≠ 6 by decide)] at h), fun _ => rfl, fun h => hV.f7 (by rwa [markL_ne _ (show 7 ≠ 6 by decide)] at h), fun h => hV.f8 (by rwa [markL_ne _ (show 8 ≠ 6 by decide)] at h), fun h => hV.f9 (by rwa [markL_ne _ (show 9 ≠ 6 by decide)] at h), fun h => hV.f10 (by rwa [markL_ne _ (show 10 ≠ 6 by decide)] at h), fun h => hV.f11 (by rwa [markL_ne _ (show 11 ≠ 6 by decide)] at h), fun h => hV.f12 (by rwa [markL_ne _ (show 12 ≠ 6 by decide)] at h), fun h => hV.f13 (by rwa [markL_ne _ (show 13 ≠ 6 by decide)] at h), fun h => hV.f14 (by rwa [markL_ne _ (show 14 ≠ 6 by decide)] at h)⟩⟩
    · have e5 := hV.f5 (h3 5 (mem_ofB (by kernel_rfl)))
      subst e5
      have e6 := hV.f6 (h3 6 (mem_ofB (by kernel_rfl)))
      subst e6
      have hro : RO wq wq.heap.size Ap np (Cel.putC d) := (HQP5.out.kc (Kc.below (T := fun _ => False) hV.bel) id).rd
      simp only [pick, List.map_cons, List.map_nil, List.getD_cons_zero, List.getD_cons_succ]
      go_wp2_with fail
      refine (keep_MovedW (Cel.putC d) Ap np cp 1 wq hro (by omega) (by omega) (put_mv d h1 h6).2.2).mono ?_
      rintro e w4 ⟨Ax, kx, rfl, lx, cx, qx, hbN⟩
      go_wp2
      exact ⟨_, _, _, _, _, _, _, _, _, _, _, _, _, _, _, rfl, ⟨hV.bel.trans (hbN.mono hszq), fun h => hV.f0 (by rwa [markL_ne _ (show 0 ≠ 7 by decide)] at h), fun h h3 => own_below (hV.f1 (by rwa [markL_ne _ (show 1 ≠ 7 by decide)] at h) (by rwa [markL_ne _ (show 3 ≠ 7 by decide)] at h3)) hbN, fun h => hV.f2 (by rwa [markL_ne _ (show 2 ≠ 7 by decide)] at h), fun h => own_below (hV.f3 (by rwa [markL_ne _ (show 3 ≠ 7 by decide)] at h)) hbN, fun h => (hV.f4 (by rwa [markL_ne _ (show 4 ≠ 7 by decide)] at h)).imp fun A ⟨n, k, e, l, c, q⟩ => ⟨n, k, e, l, c, q.kc (Kc.below (T := fun _ => False) hbN) id⟩, fun h => hV.f5 (by rwa [markL_ne _ (show 5 ≠ 7 by decide)] at h), fun h => hV.f6 (by rwa [markL_ne _ (show 6 ≠ 7 by decide)] at h), fun _ => ⟨_, _, _, rfl, lx, cx, qx⟩, fun h => hV.f8 (by rwa [markL_ne _ (show 8 ≠ 7 by decide)] at h), fun h => hV.f9 (by rwa [markL_ne _ (show 9 ≠ 7 by decide)] at h), fun h => (hV.f10 (by rwa [markL_ne _ (show 10 ≠ 7 by decide)] at h)).imp fun A ⟨n, k, e, l, c, q⟩ => ⟨n, k, e, l, c, q.kc (Kc.below (T := fun _ => False) hbN) id⟩, fun h => (by rw [markL_ne _ (show 11 ≠ 7 by decide)] at h; have := h2c 11 h 7 (mem_ofB (by kernel_rfl)); rw [h1z] at this; cases this), fun h => (hV.f12 (by rwa [markL_ne _ (show 12 ≠ 7 by decide)] at h)).imp fun g ⟨e, l, q⟩ => ⟨e, l, q.kc (Kc.below (T := fun _ => False) hbN) id⟩, fun h => hV.f13 (by rwa [markL_ne _ (show 13 ≠ 7 by decide)] at h), fun h => (hV.f14 (by rwa [markL_ne _ (show 14 ≠ 7 by decide)] at h)).imp fun g ⟨e, l, q⟩ => ⟨e, l, q.kc (Kc.below (T := fun _ => False) hbN) id⟩⟩⟩
    · simp only [pick, List.map_cons, List.map_nil, List.getD_cons_zero, List.getD_cons_succ]
      go_wp2
      exact ⟨_, _, _, _, _, _, _, _, _, _, _, _, _, _, _, rfl, ⟨hV.bel, fun h => hV.f0 (by rwa [markL_ne _ (show 0 ≠ 8 by decide)] at h), fun h h3 => hV.f1 (by rwa [markL_ne _ (show 1 ≠ 8 by decide)] at h) (by rwa [markL_ne _ (show 3 ≠ 8 by decide)] at h3), fun h => hV.f2 (by rwa [markL_ne _ (show 2 ≠ 8 by decide)] at h), fun h => hV.f3 (by rwa [markL_ne _ (show 3 ≠ 8 by decide)] at h), fun h => hV.f4 (by rwa [markL_ne _ (show 4 ≠ 8 by decide)] at h), fun h => hV.f5 (by rwa [markL_ne _ (show 5 ≠ 8 by decide)] at h), fun h => hV.f6 (by rwa [markL_ne _ (show 6 ≠ 8 by decide)] at h), fun h => hV.f7 (by rwa [markL_ne _ (show 7 ≠ 8 by decide)] at h), fun _ => rfl, fun h => hV.f9 (by rwa [markL_ne _ (show 9 ≠ 8 by decide)] at h), fun h => hV.f10 (by rwa [markL_ne _ (show 10 ≠ 8 by decide)] at h), fun h => hV.f11 (by rwa [markL_ne _ (show 11 ≠ 8 by decide)] at h), fun h => hV.f12 (by rwa [markL_ne _ (show 12 ≠ 8 by decide)] at h), fun h => hV.f13 (by rwa [markL_ne _ (show 13 ≠ 8 by decide)] at h), fun h => hV.f14 (by rwa [markL_ne _ (show 14 ≠ 8 by decide)] at h)⟩⟩
    · simp only [pick, List.map_cons, List.map_nil, List.getD_cons_zero, List.getD_cons_succ]
      go_wp2
      exact ⟨_, _, _, _, _, _, _, _, _, _, _, _, _, _, _, rfl, ⟨hV.bel, fun h => hV.f0 (by rwa [markL_ne _ (show 0 ≠ 9 by decide)] at h), fun h h3 => hV.f1 (by rwa [markL_ne _ (show 1 ≠ 9 by decide)] at h) (by rwa [markL_ne _ (show 3 ≠ 9 by decide)] at h3), fun h => hV.f2 (by rwa [markL_ne _ (show 2 ≠ 9 by decide)] at h), fun h => hV.f3 (by rwa [markL_ne _ (show 3 ≠ 9 by decide)] at h), fun h => hV.f4 (by rwa [markL_ne _ (show 4 ≠ 9 by decide)] at h), fun h => hV.f5 (by rwa [markL_ne _ (show 5 ≠ 9 by decide)] at h), fun h => hV.f6 (by rwa [markL_ne _ (show 6 ≠ 9 by decide)] at h), fun h => hV.f7 (by rwa [markL_ne _ (show 7 ≠ 9 by decide)] at h), fun h => hV.f8 (by rwa [markL_ne _ (show 8 ≠ 9 by decide)] at h), fun _ => rfl, fun h => hV.f10 (by rwa [markL_ne _ (show 10 ≠ 9 by decide)] at h), fun h => hV.f11 (by rwa [markL_ne _ (show 11 ≠ 9 by decide)] at h), fun h => hV.f12 (by rwa [markL_ne _ (show 12 ≠ 9 by decide)] at h), fun h => hV.f13 (by rwa [markL_ne _ (show 13 ≠ 9 by decide)] at h), fun h => hV.f14 (by rwa [markL_ne _ (show 14 ≠ 9 by decide)] at h)⟩⟩
    · have e8 := hV.f8 (h3 8 (mem_ofB (by kernel_rfl)))
      subst e8
      have e9 := hV.f9 (h3 9 (mem_ofB (by kernel_rfl)))
      subst e9
      have hro : RO wq wq.heap.size Ag ng (Cel.getC d) := (HQG5.out.kc (Kc.below (T := fun _ => False) hV.bel) id).rd
      simp only [pick, List.map_cons, List.map_nil, List.getD_cons_zero, List.getD_cons_succ]
      go_wp2_with fail
      refine (keep_MovedW (Cel.getC d) Ag ng cg 1 wq hro (by omega) (by omega) (get_mv d h1 h6).2.2).mono ?_
      rintro e w4 ⟨Ax, kx, rfl, lx, cx, qx, hbN⟩
      go_wp2
      exact ⟨_, _, _, _, _, _, _, _, _, _, _, _, _, _, _, rfl, ⟨hV.bel.trans (hbN.mono hszq), fun h => hV.f0 (by rwa [markL_ne _ (show 0 ≠ 10 by decide)] at h), fun h h3 => own_below (hV.f1 (by rwa [markL_ne _ (show 1 ≠ 10 by decide)] at h) (by rwa [markL_ne _ (show 3 ≠ 10 by decide)] at h3)) hbN, fun h => hV.f2 (by rwa [markL_ne _ (show 2 ≠ 10 by decide)] at h), fun h => own_below (hV.f3 (by rwa [markL_ne _ (show 3 ≠ 10 by decide)] at h)) hbN, fun h => (hV.f4 (by rwa [markL_ne _ (show 4 ≠ 10 by decide)] at h)).imp fun A ⟨n, k, e, l, c, q⟩ => ⟨n, k, e, l, c, q.kc (Kc.below (T := fun _ => False) hbN) id⟩, fun h => hV.f5 (by rwa [markL_ne _ (show 5 ≠ 10 by decide)] at h), fun h => hV.f6 (by rwa [markL_ne _ (show 6 ≠ 10 by decide)] at h), fun h => (hV.f7 (by rwa [markL_ne _ (show 7 ≠ 10 by decide)] at h)).imp fun A ⟨n, k, e, l, c, q⟩ => ⟨n, k, e, l, c, q.kc (Kc.below (T := fun _ => False) hbN) id⟩, fun h => hV.f8 (by rwa [markL_ne _ (show 8 ≠ 10 by decide)] at h), fun h => hV.f9 (by rwa [markL_ne _ (show 9 ≠ 10 by decide)] at h), fun _ => ⟨_, _, _, rfl, lx, cx, qx⟩, fun h => (by rw [markL_ne _ (show 11 ≠ 10 by decide)] at h; have := h2c 11 h 10 (mem_ofB (by kernel_rfl)); rw [h1z] at this; cases this), fun h => (hV.f12 (by rwa [markL_ne _ (show 12 ≠ 10 by decide)] at h)).imp fun g ⟨e, l, q⟩ => ⟨e, l, q.kc (Kc.below (T := fun _ => False) hbN) id⟩, fun h => hV.f13 (by rwa [markL_ne _ (show 13 ≠ 10 by decide)] at h), fun h => (hV.f14 (by rwa [markL_ne _ (show 14 ≠ 10 by decide)] at h)).imp fun g ⟨e, l, q⟩ => ⟨e, l, q.kc (Kc.below (T := fun _ => False) hbN) id⟩⟩⟩
    · obtain ⟨A4q, n4q, k4q, e4, l4, c4q, b4⟩ := hV.f4 (h3 4 (mem_ofB (by kernel_rfl)))
      subst e4
      obtain ⟨A7q, n7q, k7q, e7, l7, c7q, b7⟩ := hV.f7 (h3 7 (mem_ofB (by kernel_rfl)))
      subst e7
      obtain ⟨A10q, n10q, k10q, e10, l10, c10q, b10⟩ := hV.f10 (h3 10 (mem_ofB (by kernel_rfl)))
      subst e10
      simp only [pick, List.map_cons, List.map_nil, List.getD_cons_zero, List.getD_cons_succ]
      go_wp2
      have hNew := Box.newAt wq 28 [.slice A4q n4q k4q, .slice A7q n7q k7q, .slice A10q n10q k10q] wq.heap.size rfl
      have hbN := (Below.refl wq.heap.size wq).alloc (Nat.le_refl _) (Obj.cells #[.slice A4q n4q k4q, .slice A7q n7q k7q, .slice A10q n10q k10q] 28)
      exact ⟨_, _, _, _, _, _, _, _, _, _, _, _, _, _, _, rfl, ⟨hV.bel.trans (hbN.mono hszq), fun h => hV.f0 (by rwa [markL_ne _ (show 0 ≠ 11 by decide)] at h), fun h h3 => own_below (hV.f1 (by rwa [markL_ne _ (show 1 ≠ 11 by decide)] at h) (by rwa [markL_ne _ (show 3 ≠ 11 by decide)] at h3)) hbN, fun h => hV.f2 (by rwa [markL_ne _ (show 2 ≠ 11 by decide)] at h), fun h => own_below (hV.f3 (by rwa [markL_ne _ (show 3 ≠ 11 by decide)] at h)) hbN, fun h => (hV.f4 (by rwa [markL_ne _ (show 4 ≠ 11 by decide)] at h)).imp fun A ⟨n, k, e, l, c, q⟩ => ⟨n, k, e, l, c, q.kc (Kc.below (T := fun _ => False) hbN) id⟩, fun h => hV.f5 (by rwa [markL_ne _ (show 5 ≠ 11 by decide)] at h), fun h => hV.f6 (by rwa [markL_ne _ (show 6 ≠ 11 by decide)] at h), fun h => (hV.f7 (by rwa [markL_ne _ (show 7 ≠ 11 by decide)] at h)).imp fun A ⟨n, k, e, l, c, q⟩ => ⟨n, k, e, l, c, q.kc (Kc.below (T := fun _ => False) hbN) id⟩, fun h => hV.f8 (by rwa [markL_ne _ (show 8 ≠ 11 by decide)] at h), fun h => hV.f9 (by rwa [markL_ne _ (show 9 ≠ 11 by decide)] at h), fun h => (hV.f10 (by rwa [markL_ne _ (show 10 ≠ 11 by decide)] at h)).imp fun A ⟨n, k, e, l, c, q⟩ => ⟨n, k, e, l, c, q.kc (Kc.below (T := fun _ => False) hbN) id⟩, fun _ => ⟨_, rfl, hszq, hNew⟩, fun h => (hV.f12 (by rwa [markL_ne _ (show 12 ≠ 11 by decide)] at h)).imp fun g ⟨e, l, q⟩ => ⟨e, l, q.kc (Kc.below (T := fun _ => False) hbN) id⟩, fun h => (by rw [markL_ne _ (show 13 ≠ 11 by decide)] at h; have := h2c 13 h 11 (mem_ofB (by kernel_rfl)); rw [h1z] at this; cases this), fun h => (hV.f14 (by rwa [markL_ne _ (show 14 ≠ 11 by decide)] at h)).imp fun g ⟨e, l, q⟩ => ⟨e, l, q.kc (Kc.below (T := fun _ => False) hbN) id⟩⟩⟩
    · simp only [pick, List.map_cons, List.map_nil, List.getD_cons_zero, List.getD_cons_succ]
      go_wp2_with (at_make; refine make_all eltThr _ rfl _ _ rfl wq.heap.size _ _ _ _ 4 rfl rfl rfl rfl (by omega) (by omega) (Nat.le_refl _) ?_; intro w4 hown4 hbel4 hsz4 hgr4)
      have hNew := (own_boxS hown4).1
      rw [madeCells_one _ rfl] at hNew
      have hbN := hbel4 wq (Below.refl _ _)
      exact ⟨_, _, _, _, _, _, _, _, _, _, _, _, _, _, _, rfl, ⟨hV.bel.trans (hbN.mono hszq), fun h => hV.f0 (by rwa [markL_ne _ (show 0 ≠ 12 by decide)] at h), fun h h3 => own_below (hV.f1 (by rwa [markL_ne _ (show 1 ≠ 12 by decide)] at h) (by rwa [markL_ne _ (show 3 ≠ 12 by decide)] at h3)) hbN, fun h => hV.f2 (by rwa [markL_ne _ (show 2 ≠ 12 by decide)] at h), fun h => own_below (hV.f3 (by rwa [markL_ne _ (show 3 ≠ 12 by decide)] at h)) hbN, fun h => (hV.f4 (by rwa [markL_ne _ (show 4 ≠ 12 by decide)] at h)).imp fun A ⟨n, k, e, l, c, q⟩ => ⟨n, k, e, l, c, q.kc (Kc.below (T := fun _ => False) hbN) id⟩, fun h => hV.f5 (by rwa [markL_ne _ (show 5 ≠ 12 by decide)] at h), fun h => hV.f6 (by rwa [markL_ne _ (show 6 ≠ 12 by decide)] at h), fun h => (hV.f7 (by rwa [markL_ne _ (show 7 ≠ 12 by decide)] at h)).imp fun A ⟨n, k, e, l, c, q⟩ => ⟨n, k, e, l, c, q.kc (Kc.below (T := fun _ => False) hbN) id⟩, fun h => hV.f8 (by rwa [markL_ne _ (show 8 ≠ 12 by decide)] at h), fun h => hV.f9 (by rwa [markL_ne _ (show 9 ≠ 12 by decide)] at h), fun h => (hV.f10 (by rwa [markL_ne _ (show 10 ≠ 12 by decide)] at h)).imp fun A ⟨n, k, e, l, c, q⟩ => ⟨n, k, e, l, c, q.kc (Kc.below (T := fun _ => False) hbN) id⟩, fun h => (hV.f11 (by rwa [markL_ne _ (show 11 ≠ 12 by decide)] at h)).imp fun g ⟨e, l, q⟩ => ⟨e, l, q.kc (Kc.below (T := fun _ => False) hbN) id⟩, fun _ => ⟨_, rfl, hszq, hNew⟩, fun h => (by rw [markL_ne _ (show 13 ≠ 12 by decide)] at h; have := h2c 13 h 12 (mem_ofB (by kernel_rfl)); rw [h1z] at this; cases this), fun h => (hV.f14 (by rwa [markL_ne _ (show 14 ≠ 12 by decide)] at h)).imp fun g ⟨e, l, q⟩ => ⟨e, l, q.kc (Kc.below (T := fun _ => False) hbN) id⟩⟩⟩
    · have o3 := hV.f3 (h3 3 (mem_ofB (by kernel_rfl)))
      obtain ⟨A97, c97, e3, l3⟩ := own_form o3
      subst e3
      obtain ⟨g11, e11, l11, b11⟩ := hV.f11 (h3 11 (mem_ofB (by kernel_rfl)))
      subst e11
      obtain ⟨g12, e12, l12, b12⟩ := hV.f12 (h3 12 (mem_ofB (by kernel_rfl)))
      subst e12
      simp only [pick, List.map_cons, List.map_nil, List.getD_cons_zero, List.getD_cons_succ]
      go_wp2
      exact ⟨_, _, _, _, _, _, _, _, _, _, _, _, _, _, _, rfl, ⟨hV.bel, fun h => hV.f0 (by rwa [markL_ne _ (show 0 ≠ 13 by decide)] at h), fun h h3 => hV.f1 (by rwa [markL_ne _ (show 1 ≠ 13 by decide)] at h) (by rwa [markL_ne _ (show 3 ≠ 13 by decide)] at h3), fun h => hV.f2 (by rwa [markL_ne _ (show 2 ≠ 13 by decide)] at h), fun h => hV.f3 (by rwa [markL_ne _ (show 3 ≠ 13 by decide)] at h), fun h => hV.f4 (by rwa [markL_ne _ (show 4 ≠ 13 by decide)] at h), fun h => hV.f5 (by rwa [markL_ne _ (show 5 ≠ 13 by decide)] at h), fun h => hV.f6 (by rwa [markL_ne _ (show 6 ≠ 13 by decide)] at h), fun h => hV.f7 (by rwa [markL_ne _ (show 7 ≠ 13 by decide)] at h), fun h => hV.f8 (by rwa [markL_ne _ (show 8 ≠ 13 by decide)] at h), fun h => hV.f9 (by rwa [markL_ne _ (show 9 ≠ 13 by decide)] at h), fun h => hV.f10 (by rwa [markL_ne _ (show 10 ≠ 13 by decide)] at h), fun h => hV.f11 (by rwa [markL_ne _ (show 11 ≠ 13 by decide)] at h), fun h => hV.f12 (by rwa [markL_ne _ (show 12 ≠ 13 by decide)] at h), fun _ => rfl, fun h => hV.f14 (by rwa [markL_ne _ (show 14 ≠ 13 by decide)] at h)⟩⟩
    · simp only [pick, List.map_cons, List.map_nil, List.getD_cons_zero, List.getD_cons_succ]
      go_wp2
      have hNew := Box.newAt wq 37 [.slice none 0 0, .slice none 0 0, .slice none 0 0] wq.heap.size rfl
      have hbN := (Below.refl wq.heap.size wq).alloc (Nat.le_refl _) (Obj.cells #[.slice none 0 0, .slice none 0 0, .slice none 0 0] 37)
      exact ⟨_, _, _, _, _, _, _, _, _, _, _, _, _, _, _, rfl, ⟨hV.bel.trans (hbN.mono hszq), fun h => hV.f0 (by rwa [markL_ne _ (show 0 ≠ 14 by decide)] at h), fun h h3 => own_below (hV.f1 (by rwa [markL_ne _ (show 1 ≠ 14 by decide)] at h) (by rwa [markL_ne _ (show 3 ≠ 14 by decide)] at h3)) hbN, fun h => hV.f2 (by rwa [markL_ne _ (show 2 ≠ 14 by decide)] at h), fun h => own_below (hV.f3 (by rwa [markL_ne _ (show 3 ≠ 14 by decide)] at h)) hbN, fun h => (hV.f4 (by rwa [markL_ne _ (show 4 ≠ 14 by decide)] at h)).imp fun A ⟨n, k, e, l, c, q⟩ => ⟨n, k, e, l, c, q.kc (Kc.below (T := fun _ => False) hbN) id⟩, fun h => hV.f5 (by rwa [markL_ne _ (show 5 ≠ 14 by decide)] at h), fun h => hV.f6 (by rwa [markL_ne _ (show 6 ≠ 14 by decide)] at h), fun h => (hV.f7 (by rwa [markL_ne _ (show 7 ≠ 14 by decide)] at h)).imp fun A ⟨n, k, e, l, c, q⟩ => ⟨n, k, e, l, c, q.kc (Kc.below (T := fun _ => False) hbN) id⟩, fun h => hV.f8 (by rwa [markL_ne _ (show 8 ≠ 14 by decide)] at h), fun h => hV.f9 (by rwa [markL_ne _ (show 9 ≠ 14 by decide)] at h), fun h => (hV.f10 (by rwa [markL_ne _ (show 10 ≠ 14 by decide)] at h)).imp fun A ⟨n, k, e, l, c, q⟩ => ⟨n, k, e, l, c, q.kc (Kc.below (T := fun _ => False) hbN) id⟩, fun h => (hV.f11 (by rwa [markL_ne _ (show 11 ≠ 14 by decide)] at h)).imp fun g ⟨e, l, q⟩ => ⟨e, l, q.kc (Kc.below (T := fun _ => False) hbN) id⟩, fun h => (hV.f12 (by rwa [markL_ne _ (show 12 ≠ 14 by decide)] at h)).imp fun g ⟨e, l, q⟩ => ⟨e, l, q.kc (Kc.below (T := fun _ => False) hbN) id⟩, fun h => hV.f13 (by rwa [markL_ne _ (show 13 ≠ 14 by decide)] at h), fun _ => ⟨_, rfl, hszq, hNew⟩⟩⟩
  · intro L a wq hall hG
    obtain ⟨u94, u95, u96, u97, u98, u99, u100, u101, u102, u103, u104, u105, u106, u107, u16, rfl, hV⟩ := hG
    have e0 := hV.f0 (hall 0 (by omega))
    subst e0
    have e2 := hV.f2 (hall 2 (by omega))
    subst e2
    have o3 := hV.f3 (hall 3 (by omega))
    obtain ⟨A97, c97, e3, l3⟩ := own_form o3
    subst e3
    obtain ⟨A4q, n4q, k4q, e4, l4, c4q, b4⟩ := hV.f4 (hall 4 (by omega))
    subst e4
    have e5 := hV.f5 (hall 5 (by omega))
    subst e5
    have e6 := hV.f6 (hall 6 (by omega))
    subst e6
    obtain ⟨A7q, n7q, k7q, e7, l7, c7q, b7⟩ := hV.f7 (hall 7 (by omega))
    subst e7
    have e8 := hV.f8 (hall 8 (by omega))
    subst e8
    have e9 := hV.f9 (hall 9 (by omega))
    subst e9
    obtain ⟨A10q, n10q, k10q, e10, l10, c10q, b10⟩ := hV.f10 (hall 10 (by omega))
    subst e10
    obtain ⟨g11, e11, l11, b11⟩ := hV.f11 (hall 11 (by omega))
    subst e11
    obtain ⟨g12, e12, l12, b12⟩ := hV.f12 (hall 12 (by omega))
    subst e12
    have e13 := hV.f13 (hall 13 (by omega))
    subst e13
    obtain ⟨g14, e14, l14, b14⟩ := hV.f14 (hall 14 (by omega))
    subst e14
    have hbQ := hV.bel
    clear hV
    simp only [pick, List.map_cons, List.map_nil, List.getD_cons_zero, List.getD_cons_succ]
    refine store_box rfl rfl 37 (.tmp 16) (.tmp 107) rfl g14 [.slice A97 (1 + nw) c97, .slice (some ⟨g11, 0, none⟩) 3 3, .slice (some ⟨g12, 0, none⟩) 4 4] rfl rfl 37 [.slice none 0 0, .slice none 0 0, .slice none 0 0] b14 (by kernel_rfl) rfl (by intro v hv; simp only [List.mem_cons, List.not_mem_nil, or_false] at hv; rcases hv with rfl | rfl | rfl <;> rfl) ?_
    intro w6 HBS hgS
    go_wp2
    have hb5S : Below w5.heap.size w5 w6 := hbQ.grown hgS hbQ.size (fun k hk => by cases hk; exact l14)
    have hkS : Kc (fun t => t = 37) wq w6 := Kc.grown hgS (fun b cs t fr he hh => by
      injection he with he
      subst he
      have h6 := b14
      unfold Box at h6
      rw [h6] at hh
      injection hh with hh
      injection hh with _ hh
      exact hh.symm)
    have HQ0 := Lib.hid ((QT.own o3).kc hkS (by decide))
    have HO3 := Lib.hid (own_kc o3 hkS (by decide))
    have HQA := Lib.hid (b4.kc hkS (by decide))
    have HQB := Lib.hid (b7.kc hkS (by decide))
    have HQC := Lib.hid (b10.kc hkS (by decide))
    have HQ3 := Lib.hid (b11.kc hkS (by decide))
    have HMg6 := Lib.hid (Mg.made w6 3 40 38 (nt := 4) (B := w5.heap.size) (b12.kc hkS (by decide)) l12)
    have HBw := Lib.hid (HB5.out.trans (hb5S.mono HB5.out.size))
    have HSZ := Lib.hid HB5.out.size
    have HL14 := Lib.hid l14
    have HL12 := Lib.hid l12
    have HLc := Lib.hid (And.intro l3 (And.intro l4 (And.intro l7 l10)))
    clear b4 b7 b10 b11 b12 b14 hkS hb5S hbQ hgS l11 l12 l14 l3 l4 l7 l10 c4q c7q c10q o3 HQW5 HQP5 HQG5 HQV5 HB5 HCW HCP HCG HW HAd hall
    go_loopw [17] (fun v wr => ∃ (i : Nat) (tg : Nat → Nat) (ts : Nat → Value), i ≤ 6 ∧ v = .int .i64 i ∧ Hid (Mg 3 40 38 tg wr w5.heap.size g12 4 ts (bsJ xy d i)) ∧ Hid (Kc tCall w6 wr) ∧ Below w.heap.size w wr) (fun v _ => 6 - (intOf v).toNat)
    case atStart => exact ⟨0, _, _, Nat.zero_le _, rfl, (by have := HMg6.out; show Mg _ _ _ _ _ _ _ _ _ _; rw [show bsJ xy d 0 = fun _ => ([] : List Cl) by funext q; simp [bsJ]]; exact this), Kc.refl _ _, HBw.out⟩
    case round =>
      obtain ⟨i, tg, ts, hi, rfl, HMg, HK, hbel⟩ := hrel
      have hszr := hbel.size
      by_cases hi6 : i < 6
      · have ei6 : decide ((i : Int) < 6) = true := by simp; omega
        obtain ⟨t, ht⟩ : ∃ t, t = i % 2 := ⟨_, rfl⟩
        have ht2 : t < 2 := by omega
        have ht4 : t < 4 := by omega
        have htI : (i : Int) % 2 = (t : Int) := by omega
        have Ht := Lib.hid ht.symm
        clear ht
        by_cases hin : i < ny
        · obtain ⟨ob, oo, x, rfl, hbB, c0, HX, hxm⟩ := (HXy.out.below hbel).val hin
          have hbs : ob < wr.heap.size := by omega
          have HNX : Hid (bsN xy i = x % 9) := by show _ = _; unfold bsN; rw [if_pos (by rw [HXLy.out]; exact hin), HX.out]; rfl
          go_wp2_with fail
          refine (keep_Picked _ _ _ (by omega) (by omega)).mono ?_
          rintro e w' ⟨rfl, rfl⟩
          obtain ⟨p, hp⟩ : ∃ p, p = x % 9 := ⟨_, rfl⟩
          have hp0 : 0 ≤ p := by omega
          have hp9 : p < 9 := by omega
          rw [← hp] at HNX ⊢
          clear hp hxm
          have hB12 := HL12.out
          have HMg0 := HMg
          have HK0 := HK
          have hbel0 := hbel
          have BM0 := Lib.hid (HBS.out.kc HK0.out tCall_mach)
          obtain ⟨T0, hT0⟩ : ∃ T0, T0 = bsJ xy d i := ⟨_, rfl⟩
          obtain ⟨J0, hJ0⟩ : ∃ J, J = (T0 t).length := ⟨_, rfl⟩
          have hJ0' : J0 ≤ 6 := by rw [hJ0, hT0]; have := bsJ_len (by_ := xy) (d := d) (i := i) (q := t); omega
          obtain ⟨L0, hL0⟩ : ∃ L0, L0 = T0 t := ⟨_, rfl⟩
          have HT0 : Hid (T0 t = L0) := hL0.symm
          have HJ0 : Hid (L0.length = J0) := by show _ = _; rw [hL0, hJ0]
          have HTT := Lib.hid hT0
          rw [← hT0] at HMg0
          have HQ1 := Lib.hid (QT.box (s := 1) (n := 1) (Box.newAt wr 3 [.int .i64 p] wr.heap.size rfl) rfl)
          clear hT0 hL0 hJ0 HMg HK hbel
          obtain ⟨rows1, r1, r2, r3, r4⟩ := HMg0.out.row t ht4
          have r3q := r3
          rw [HT0.out, HJ0.out] at r3q
          obtain ⟨Aq1, cq1, hts, hlq⟩ := own_form r3q
          have z2 : wr.cell? ⟨g14, 2, none⟩ = _ := BM0.out.cell 2
          have y0 : wr.cell? ⟨g12, t, none⟩ = some (.slice Aq1 J0 cq1) := by
            have := HMg0.out.thr.cell t
            rw [range_at _ ht4, hts] at this
            exact this
          have l6 := HMg0.out.thr.lt
          have lM := BM0.out.lt
          have g0 := HMg0.out.thr.frozen t
          have HTS1 := Lib.hid hts
          have R11 := Lib.hid r1
          have R21 := Lib.hid r2
          have R31 := Lib.hid r3
          have R3q1 := Lib.hid r3q
          have R41 := Lib.hid r4
          simp only [List.getElem?_cons_zero, List.getElem?_cons_succ] at z2
          clear hts r1 r2 r3 r4 r3q
          go_wp2
          refine region_firstG (Kc tCall) (gok_kc tCall) [0, 1, 3] [2, 4, 5, 6, 7, 8, 9, 10] (.cons 0 (.cons 1 (.cons 3 (.cons 11 (seq [12] (.cons 13 (.cons 14 (seq [15] (.cons 16 .nil))))))))) (by kernel_rfl) (by kernel_rfl) ?_
          simp only [pick, List.map_cons, List.map_nil, List.getD_cons_zero, List.getD_cons_succ]
          go_wp2
          refine ord_blindG (.pointer (some ⟨g14, 2, none⟩)) (by kernel_rfl) ?_ ?_
          · intro w' _
            simp only [List.getD_cons_zero, List.getD_cons_succ]
            go_simp
          refine ord_blindG (.slice (some ⟨g12, 0, none⟩) 4 4) (by kernel_rfl) ?_ ?_
          · intro w' hk
            have zz := (Box.kc (w := wr.drew) BM0.out hk tCall_mach).cell 2
            simp only [List.getElem?_cons_zero, List.getElem?_cons_succ] at zz
            simp only [List.getD_cons_zero, List.getD_cons_succ]
            go_simp
          refine ord_blindG (.int .i64 (t : Int)) (by kernel_rfl) ?_ ?_
          · intro w' _
            simp only [List.getD_cons_zero, List.getD_cons_succ]
            go_simp
            exact (Int.tmod_eq_emod_of_nonneg (by omega)).trans htI
          refine ord_callG (by kernel_rfl) ?_
          simp only [pick, List.map_cons, List.map_nil, List.getD_cons_zero, List.getD_cons_succ]
          go_wp2
          refine ⟨ext_below ((Below.refl _ _).alloc (Nat.le_refl _) _), ?_⟩
          refine ord_moreG [12] _ (by kernel_rfl) ?_
          simp only [pick, List.map_cons, List.map_nil, List.getD_cons_zero, List.getD_cons_succ]
          go_wp2
          refine ord_callG (by kernel_rfl) ?_
          simp only [pick, List.map_cons, List.map_nil, List.getD_cons_zero, List.getD_cons_succ]
          go_wp2
          refine ⟨ext_below ((Below.refl _ _).alloc (Nat.le_refl _) _), ?_⟩
          have hbl1 := (Below.refl wr.heap.size wr).alloc (Nat.le_refl _) (Obj.cells #[.int .i64 p] 3)
          have HMl1 := Lib.hid (HMg0.out.below hbl1)
          have HR3q1 := Lib.hid (World.ownsRow.alloc R3q1.out (Obj.cells #[.int .i64 p] 3))
          have RL1 := Lib.hid (HR3q1.out.alloc (.cells #[.int .i64 0, .slice (some ⟨wr.heap.size, 0, none⟩) 1 1] 40))
          rw [HTS1.out] at RL1
          refine ord_finG (by kernel_rfl) ?_
          simp only [pick, List.map_cons, List.map_nil, List.getD_cons_zero, List.getD_cons_succ]
          go_wp2_with (at_builtin; go_must (refine app_litBd eltCall (wr.alloc (Obj.cells #[.int .i64 p] 3)) rfl (.tmp 130) (.tmp 134) rfl (w5.heap.size) _ J0 rows1.flatten rfl (by rw [← HTS1.out]; exact HR3q1.out) 1 [.int .i64 0, .slice (some ⟨wr.heap.size, 0, none⟩) 1 1] (wr.heap.size + 1) (by first | rfl | simp) rfl rfl (by intro u hu; simp only [List.mem_cons, List.not_mem_nil, or_false] at hu; rcases hu with rfl | rfl <;> rfl) (by omega) (by omega) (by first | omega | (simp; omega)) ?_); intro v8 w8 own8 g8 hv8)
          obtain ⟨A81, c81, rfl, hc8⟩ := own_form own8
          have hK8 : Kc tCall ((wr.alloc (Obj.cells #[.int .i64 p] 3)).alloc (.cells #[.int .i64 0, .slice (some ⟨wr.heap.size, 0, none⟩) 1 1] 40)).drew w8 := Kc.grown ⟨g8.os, g8.tape, g8.output, g8.size, g8.block⟩ (fun b cs t fr he hh => .inl (own_same RL1.out he hh))
          have hne6 := Box.ne (HMl1.out.thr.alloc (.cells #[.int .i64 0, .slice (some ⟨wr.heap.size, 0, none⟩) 1 1] 40)) RL1.out (by decide)
          have b68 := (HMl1.out.thr.alloc (.cells #[.int .i64 0, .slice (some ⟨wr.heap.size, 0, none⟩) 1 1] 40)).grown g8 hne6
          obtain ⟨tg1, hMg', hKc', hBel'⟩ := HMl1.out.call (q := t) (c := ⟨0, [p]⟩) ht4 ⟨by decide, by decide, by decide⟩ (rows := rows1) R11.out R21.out (fun i r x hr hx => (R41.out i r x hr hx).kc (T := fun _ => False) (Kc.below hbl1) id) (World.ownsRow.alloc R31.out _) ⟨some ⟨wr.heap.size, 0, none⟩, 1, 1, rfl, Nat.le_refl _, HQ1.out⟩ own8 (by rw [HT0.out, HJ0.out]) (by rw [HTS1.out]; exact g8) (by rw [HTS1.out]; exact hv8)
          have HMg' := Lib.hid hMg'
          have HKc' := Lib.hid ((Kc.below (T := tCall) hbl1).trans hKc')
          have hbel1a := hbel0.trans (hbl1.mono hbel0.size)
          have HBel' := Lib.hid (hBel' w w.heap.size (by have := HSZ.out; omega) (by first | omega | (simp; omega)) hbel1a)
          have y8 : w8.cell? ⟨g12, t, none⟩ = some (.slice Aq1 J0 cq1) := by
            have := b68.cell t
            rw [range_at _ ht4, HTS1.out] at this
            exact this
          have f8 := b68.frozen t
          have H68 := Lib.hid b68
          clear hMg' hKc' hBel' b68 own8 g8 hv8 hne6 z2 y0 g0
          refine ⟨hK8, ?_⟩
          refine ord_moreG [15] _ (by kernel_rfl) ?_
          simp only [pick, List.map_cons, List.map_nil, List.getD_cons_zero, List.getD_cons_succ]
          go_wp2
          refine ord_finG (by kernel_rfl) ?_
          simp only [pick, List.map_cons, List.map_nil, List.getD_cons_zero, List.getD_cons_succ]
          go_wp2
          have hK9 : Kc tCall w8 (w8.setCell ⟨g12, t, none⟩ (.slice A81 (J0 + 1) c81)) := Kc.grown (grown_setCell w8 ⟨g12, t, none⟩ _) (fun b cs t fr he hh => by
            injection he with he
            subst he
            have h6 := H68.out
            unfold Box at h6
            rw [h6] at hh
            injection hh with hh
            injection hh with _ hh
            exact .inr hh.symm)
          refine ⟨hK9, ord_doneG ?_⟩
          obtain ⟨W1, hW1⟩ : ∃ W, W = w8.setCell ⟨g12, t, none⟩ (.slice A81 (J0 + 1) c81) := ⟨_, rfl⟩
          rw [← hW1]
          have HMg1 := HMg'
          have HK1 := Lib.hid (HK0.out.trans HKc'.out)
          have hbel1 := HBel'.out
          rw [← hW1] at HMg1 HK1 hbel1
          clear HMg' HKc' HBel' hK9 H68 y8 f8 hK8 hW1 R11 R21 R31 R3q1 R41 RL1 HTS1 HMl1 HR3q1
          obtain ⟨T1, hT1⟩ : ∃ T : Nat → List Cl, T = fun i => if i = t then T0 t ++ [⟨0, [p]⟩] else T0 i := ⟨_, rfl⟩
          have HMg1s := HMg1.out
          rw [← hT1] at HMg1s
          have HMg1t := Lib.hid HMg1s
          clear HMg1s
          obtain ⟨L1, hL1⟩ : ∃ L, L = T1 2 := ⟨_, rfl⟩
          obtain ⟨J1, hJ1⟩ : ∃ J, J = L1.length := ⟨_, rfl⟩
          have hJ1' : J1 ≤ 6 := by
            rw [hJ1, hL1, hT1]
            dsimp only
            rw [if_neg (by omega)]
            
            rw [HTT.out]
            have := bsJ_len (by_ := xy) (d := d) (i := i) (q := 2)
            omega
          have HT1 : Hid (T1 2 = L1) := hL1.symm
          have HJ1 : Hid (L1.length = J1) := hJ1.symm
          have HT1q := Lib.hid hT1
          have BM1 := Lib.hid (HBS.out.kc HK1.out tCall_mach)
          have hszr1 := hbel1.size
          clear HMg1 hT1 hL1 hJ1
          obtain ⟨rows2, r1, r2, r3, r4⟩ := HMg1t.out.row 2 (by omega)
          have r3q := r3
          rw [HT1.out, HJ1.out] at r3q
          obtain ⟨Aq2, cq2, hts, hlq⟩ := own_form r3q
          have z2 : W1.cell? ⟨g14, 2, none⟩ = _ := BM1.out.cell 2
          have y0 : W1.cell? ⟨g12, 2, none⟩ = some (.slice Aq2 J1 cq2) := by
            have := HMg1t.out.thr.cell 2
            rw [range_at _ (by omega), hts] at this
            exact this
          have l6 := HMg1t.out.thr.lt
          have lM := BM1.out.lt
          have g0 := HMg1t.out.thr.frozen 2
          have HTS2 := Lib.hid hts
          have R12 := Lib.hid r1
          have R22 := Lib.hid r2
          have R32 := Lib.hid r3
          have R3q2 := Lib.hid r3q
          have R42 := Lib.hid r4
          simp only [List.getElem?_cons_zero, List.getElem?_cons_succ] at z2
          clear hts r1 r2 r3 r4 r3q
          go_wp2
          refine region_firstG (Kc tCall) (gok_kc tCall) [0, 1] [2, 3, 4, 5, 6] (.cons 0 (.cons 1 (.cons 7 (seq [8] (.cons 9 (.cons 10 (seq [11] (.cons 12 .nil)))))))) (by kernel_rfl) (by kernel_rfl) ?_
          simp only [pick, List.map_cons, List.map_nil, List.getD_cons_zero, List.getD_cons_succ]
          go_wp2
          refine ord_blindG (.pointer (some ⟨g14, 2, none⟩)) (by kernel_rfl) ?_ ?_
          · intro w' _
            simp only [List.getD_cons_zero, List.getD_cons_succ]
            go_simp
          refine ord_blindG (.slice (some ⟨g12, 0, none⟩) 4 4) (by kernel_rfl) ?_ ?_
          · intro w' hk
            have zz := (Box.kc (w := W1.drew) BM1.out hk tCall_mach).cell 2
            simp only [List.getElem?_cons_zero, List.getElem?_cons_succ] at zz
            simp only [List.getD_cons_zero, List.getD_cons_succ]
            go_simp
          refine ord_callG (by kernel_rfl) ?_
          simp only [pick, List.map_cons, List.map_nil, List.getD_cons_zero, List.getD_cons_succ]
          go_wp2_with (at_make; refine make_all eltIntB _ rfl _ _ rfl W1.heap.size _ _ _ _ d rfl rfl rfl rfl (by omega) (by omega) (by first | exact Nat.le_refl _ | simp) ?_; intro wMd hownM hbelM hszM hgrM)
          refine ⟨ext_below (hbelM _ (Below.refl _ _)), ?_⟩
          obtain ⟨wM, hwM⟩ : ∃ W, W = wMd := ⟨_, rfl⟩
          rw [← hwM] at hownM hbelM hszM ⊢
          have hbM : Below W1.heap.size W1 wM := hbelM W1 (Below.refl _ _).drew
          rw [madeCells_one _ rfl] at hownM
          have HQ2 : Hid (QT wM 3 1 (some ⟨W1.heap.size, 0, none⟩) d ((List.replicate d 0).map (Value.int .i64))) := by
            show QT _ _ _ _ _ _
            rw [List.map_replicate]
            exact QT.own hownM
          clear hwM hownM hbelM hgrM
          refine ord_moreG [8] _ (by kernel_rfl) ?_
          simp only [pick, List.map_cons, List.map_nil, List.getD_cons_zero, List.getD_cons_succ]
          go_wp2
          refine ord_callG (by kernel_rfl) ?_
          simp only [pick, List.map_cons, List.map_nil, List.getD_cons_zero, List.getD_cons_succ]
          go_wp2
          refine ⟨ext_below ((Below.refl _ _).alloc (Nat.le_refl _) _), ?_⟩
          have hbl2 := hbM
          have HMl2 := Lib.hid (HMg1t.out.below hbl2)
          have HR3q2 := Lib.hid (own_below R3q2.out hbM)
          have RL2 := Lib.hid (HR3q2.out.alloc (.cells #[.int .i64 1, .slice (some ⟨W1.heap.size, 0, none⟩) d d] 40))
          rw [HTS2.out] at RL2
          refine ord_finG (by kernel_rfl) ?_
          simp only [pick, List.map_cons, List.map_nil, List.getD_cons_zero, List.getD_cons_succ]
          go_wp2_with (at_builtin; go_must (refine app_litB eltCall wM rfl (.tmp 142) (.tmp 146) rfl (w5.heap.size) _ J1 rows2.flatten rfl (by rw [← HTS2.out]; exact HR3q2.out) 1 [.int .i64 1, .slice (some ⟨W1.heap.size, 0, none⟩) d d] wM.heap.size (by first | rfl | simp) rfl rfl (by intro u hu; simp only [List.mem_cons, List.not_mem_nil, or_false] at hu; rcases hu with rfl | rfl <;> rfl) (by omega) (by omega) (by first | omega | (simp; omega)) ?_); intro v8 w8 own8 g8 hv8)
          obtain ⟨A82, c82, rfl, hc8⟩ := own_form own8
          have hK8 : Kc tCall (wM.alloc (.cells #[.int .i64 1, .slice (some ⟨W1.heap.size, 0, none⟩) d d] 40)) w8 := Kc.grown g8 (fun b cs t fr he hh => .inl (own_same RL2.out he hh))
          have hne6 := Box.ne (HMl2.out.thr.alloc (.cells #[.int .i64 1, .slice (some ⟨W1.heap.size, 0, none⟩) d d] 40)) RL2.out (by decide)
          have b68 := (HMl2.out.thr.alloc (.cells #[.int .i64 1, .slice (some ⟨W1.heap.size, 0, none⟩) d d] 40)).grown g8 hne6
          obtain ⟨tg2, hMg', hKc', hBel'⟩ := HMl2.out.call (q := 2) (c := ⟨1, List.replicate d 0⟩) (by omega) ⟨by decide, by decide, by decide⟩ (rows := rows2) R12.out R22.out (fun i r x hr hx => (R42.out i r x hr hx).kc (T := fun _ => False) (Kc.below hbl2) id) (own_below R32.out hbM) ⟨some ⟨W1.heap.size, 0, none⟩, d, d, rfl, Nat.le_refl _, HQ2.out⟩ own8 (by rw [HT1.out, HJ1.out]) (by rw [HTS2.out]; exact g8) (by rw [HTS2.out]; exact hv8)
          have HMg' := Lib.hid hMg'
          have HKc' := Lib.hid ((Kc.below (T := tCall) hbl2).trans hKc')
          have hbel2a := hbel1.trans (hbl2.mono hbel1.size)
          have HBel' := Lib.hid (hBel' w w.heap.size (by have := HSZ.out; omega) (by first | omega | (simp; omega)) hbel2a)
          have y8 : w8.cell? ⟨g12, 2, none⟩ = some (.slice Aq2 J1 cq2) := by
            have := b68.cell 2
            rw [range_at _ (by omega), HTS2.out] at this
            exact this
          have f8 := b68.frozen 2
          have H68 := Lib.hid b68
          clear hMg' hKc' hBel' b68 own8 g8 hv8 hne6 z2 y0 g0
          refine ⟨hK8, ?_⟩
          refine ord_moreG [11] _ (by kernel_rfl) ?_
          simp only [pick, List.map_cons, List.map_nil, List.getD_cons_zero, List.getD_cons_succ]
          go_wp2
          refine ord_finG (by kernel_rfl) ?_
          simp only [pick, List.map_cons, List.map_nil, List.getD_cons_zero, List.getD_cons_succ]
          go_wp2
          have hK9 : Kc tCall w8 (w8.setCell ⟨g12, 2, none⟩ (.slice A82 (J1 + 1) c82)) := Kc.grown (grown_setCell w8 ⟨g12, 2, none⟩ _) (fun b cs t fr he hh => by
            injection he with he
            subst he
            have h6 := H68.out
            unfold Box at h6
            rw [h6] at hh
            injection hh with hh
            injection hh with _ hh
            exact .inr hh.symm)
          refine ⟨hK9, ord_doneG ?_⟩
          obtain ⟨W2, hW2⟩ : ∃ W, W = w8.setCell ⟨g12, 2, none⟩ (.slice A82 (J1 + 1) c82) := ⟨_, rfl⟩
          rw [← hW2]
          have HMg2 := HMg'
          have HK2 := Lib.hid (HK1.out.trans HKc'.out)
          have hbel2 := HBel'.out
          rw [← hW2] at HMg2 HK2 hbel2
          clear HMg' HKc' HBel' hK9 H68 y8 f8 hK8 hW2 R12 R22 R32 R3q2 R42 RL2 HTS2 HMl2 HR3q2
          obtain ⟨T2, hT2⟩ : ∃ T : Nat → List Cl, T = fun i => if i = 2 then T1 2 ++ [⟨1, List.replicate d 0⟩] else T1 i := ⟨_, rfl⟩
          have HMg2s := HMg2.out
          rw [← hT2] at HMg2s
          have HMg2t := Lib.hid HMg2s
          clear HMg2s
          obtain ⟨L2, hL2⟩ : ∃ L, L = T2 3 := ⟨_, rfl⟩
          obtain ⟨J2, hJ2⟩ : ∃ J, J = L2.length := ⟨_, rfl⟩
          have hJ2' : J2 ≤ 6 := by
            rw [hJ2, hL2, hT2]
            dsimp only
            rw [if_neg (by omega)]
            rw [HT1q.out]; dsimp only; rw [if_neg (by omega)]
            rw [HTT.out]
            have := bsJ_len (by_ := xy) (d := d) (i := i) (q := 3)
            omega
          have HT2 : Hid (T2 3 = L2) := hL2.symm
          have HJ2 : Hid (L2.length = J2) := hJ2.symm
          have HT2q := Lib.hid hT2
          have BM2 := Lib.hid (HBS.out.kc HK2.out tCall_mach)
          have hszr2 := hbel2.size
          clear HMg2 hT2 hL2 hJ2
          obtain ⟨rows3, r1, r2, r3, r4⟩ := HMg2t.out.row 3 (by omega)
          have r3q := r3
          rw [HT2.out, HJ2.out] at r3q
          obtain ⟨Aq3, cq3, hts, hlq⟩ := own_form r3q
          have z2 : W2.cell? ⟨g14, 2, none⟩ = _ := BM2.out.cell 2
          have y0 : W2.cell? ⟨g12, 3, none⟩ = some (.slice Aq3 J2 cq3) := by
            have := HMg2t.out.thr.cell 3
            rw [range_at _ (by omega), hts] at this
            exact this
          have l6 := HMg2t.out.thr.lt
          have lM := BM2.out.lt
          have g0 := HMg2t.out.thr.frozen 3
          have HTS3 := Lib.hid hts
          have R13 := Lib.hid r1
          have R23 := Lib.hid r2
          have R33 := Lib.hid r3
          have R3q3 := Lib.hid r3q
          have R43 := Lib.hid r4
          simp only [List.getElem?_cons_zero, List.getElem?_cons_succ] at z2
          clear hts r1 r2 r3 r4 r3q
          go_wp2
          refine region_firstG (Kc tCall) (gok_kc tCall) [0, 1] [2, 3, 4, 5, 6] (.cons 0 (.cons 1 (.cons 7 (.cons 8 (seq [9] (.cons 10 .nil)))))) (by kernel_rfl) (by kernel_rfl) ?_
          simp only [pick, List.map_cons, List.map_nil, List.getD_cons_zero, List.getD_cons_succ]
          go_wp2
          refine ord_blindG (.pointer (some ⟨g14, 2, none⟩)) (by kernel_rfl) ?_ ?_
          · intro w' _
            simp only [List.getD_cons_zero, List.getD_cons_succ]
            go_simp
          refine ord_blindG (.slice (some ⟨g12, 0, none⟩) 4 4) (by kernel_rfl) ?_ ?_
          · intro w' hk
            have zz := (Box.kc (w := W2.drew) BM2.out hk tCall_mach).cell 2
            simp only [List.getElem?_cons_zero, List.getElem?_cons_succ] at zz
            simp only [List.getD_cons_zero, List.getD_cons_succ]
            go_simp
          refine ord_callG (by kernel_rfl) ?_
          simp only [pick, List.map_cons, List.map_nil, List.getD_cons_zero, List.getD_cons_succ]
          go_wp2
          refine ⟨ext_below ((Below.refl _ _).alloc (Nat.le_refl _) _), ?_⟩
          have HMl3 := HMg2t
          have HR3q3 := R3q3
          have RL3 := Lib.hid (HR3q3.out.alloc (.cells #[.int .i64 2, .slice none 0 0] 40))
          rw [HTS3.out] at RL3
          refine ord_finG (by kernel_rfl) ?_
          simp only [pick, List.map_cons, List.map_nil, List.getD_cons_zero, List.getD_cons_succ]
          go_wp2_with (at_builtin; go_must (refine app_litBd eltCall W2 rfl (.tmp 154) (.tmp 156) rfl (w5.heap.size) _ J2 rows3.flatten rfl (by rw [← HTS3.out]; exact HR3q3.out) 1 [.int .i64 2, .slice none 0 0] W2.heap.size (by first | rfl | simp) rfl rfl (by intro u hu; simp only [List.mem_cons, List.not_mem_nil, or_false] at hu; rcases hu with rfl | rfl <;> rfl) (by omega) (by omega) (by first | omega | (simp; omega)) ?_); intro v8 w8 own8 g8 hv8)
          obtain ⟨A83, c83, rfl, hc8⟩ := own_form own8
          have hK8 : Kc tCall (W2.alloc (.cells #[.int .i64 2, .slice none 0 0] 40)).drew w8 := Kc.grown ⟨g8.os, g8.tape, g8.output, g8.size, g8.block⟩ (fun b cs t fr he hh => .inl (own_same RL3.out he hh))
          have hne6 := Box.ne (HMl3.out.thr.alloc (.cells #[.int .i64 2, .slice none 0 0] 40)) RL3.out (by decide)
          have b68 := (HMl3.out.thr.alloc (.cells #[.int .i64 2, .slice none 0 0] 40)).grown g8 hne6
          obtain ⟨tg3, hMg', hKc', hBel'⟩ := HMl3.out.call (q := 3) (c := ⟨2, []⟩) (by omega) ⟨by decide, by decide, by decide⟩ (rows := rows3) R13.out R23.out R43.out R33.out ⟨none, 0, 0, rfl, Nat.le_refl _, QT.nil _ _ _ _⟩ own8 (by rw [HT2.out, HJ2.out]) (by rw [HTS3.out]; exact g8) (by rw [HTS3.out]; exact hv8)
          have HMg' := Lib.hid hMg'
          have HKc' := Lib.hid hKc'
          have hbel3a := hbel2
          have HBel' := Lib.hid (hBel' w w.heap.size (by have := HSZ.out; omega) (by first | omega | (simp; omega)) hbel3a)
          have y8 : w8.cell? ⟨g12, 3, none⟩ = some (.slice Aq3 J2 cq3) := by
            have := b68.cell 3
            rw [range_at _ (by omega), HTS3.out] at this
            exact this
          have f8 := b68.frozen 3
          have H68 := Lib.hid b68
          clear hMg' hKc' hBel' b68 own8 g8 hv8 hne6 z2 y0 g0
          refine ⟨hK8, ?_⟩
          refine ord_moreG [9] _ (by kernel_rfl) ?_
          simp only [pick, List.map_cons, List.map_nil, List.getD_cons_zero, List.getD_cons_succ]
          go_wp2
          refine ord_finG (by kernel_rfl) ?_
          simp only [pick, List.map_cons, List.map_nil, List.getD_cons_zero, List.getD_cons_succ]
          go_wp2
          have hK9 : Kc tCall w8 (w8.setCell ⟨g12, 3, none⟩ (.slice A83 (J2 + 1) c83)) := Kc.grown (grown_setCell w8 ⟨g12, 3, none⟩ _) (fun b cs t fr he hh => by
            injection he with he
            subst he
            have h6 := H68.out
            unfold Box at h6
            rw [h6] at hh
            injection hh with hh
            injection hh with _ hh
            exact .inr hh.symm)
          refine ⟨hK9, ord_doneG ?_⟩
          obtain ⟨W3, hW3⟩ : ∃ W, W = w8.setCell ⟨g12, 3, none⟩ (.slice A83 (J2 + 1) c83) := ⟨_, rfl⟩
          rw [← hW3]
          have HMg3 := HMg'
          have HK3 := Lib.hid (HK2.out.trans HKc'.out)
          have hbel3 := HBel'.out
          rw [← hW3] at HMg3 HK3 hbel3
          clear HMg' HKc' HBel' hK9 H68 y8 f8 hK8 hW3 R13 R23 R33 R3q3 R43 RL3 HTS3 HMl3 HR3q3
          go_wp2
          go_roundw
          case rel =>
            have h9 : Hid (Mg 3 40 38 tg3 W3 w5.heap.size g12 4 _ (bsJ xy d (i + 1))) := HMg3.out.congr (fun q hq => by
              rw [bsJ_succ, HT2q.out, HT1q.out, HTT.out, Ht.out]
              have hp := HNX.out
              rcases (by omega : q = 0 ∨ q = 1 ∨ q = 2 ∨ q = 3) with rfl | rfl | rfl | rfl
              · by_cases h0 : t = 0
                · simp [h0, hp]
                · simp [h0, Ne.symm h0]
              · by_cases h0 : t = 1
                · simp [h0, hp]
                · simp [h0, Ne.symm h0]
              · have : ¬ t = 2 := by omega
                simp [this, Ne.symm this]
              · have : ¬ t = 3 := by omega
                simp [this, Ne.symm this])
            exact ⟨i + 1, tg3, _, by omega, by go_num, h9, HK3, hbel3⟩
          case measure => simp [intOf]; omega
        · have HNX : Hid (bsN xy i = 1) := by show _ = _; unfold bsN; rw [if_neg (by rw [HXLy.out]; exact hin)]
          have hB12 := HL12.out
          have HMg0 := HMg
          have HK0 := HK
          have hbel0 := hbel
          have BM0 := Lib.hid (HBS.out.kc HK0.out tCall_mach)
          obtain ⟨T0, hT0⟩ : ∃ T0, T0 = bsJ xy d i := ⟨_, rfl⟩
          obtain ⟨J0, hJ0⟩ : ∃ J, J = (T0 t).length := ⟨_, rfl⟩
          have hJ0' : J0 ≤ 6 := by rw [hJ0, hT0]; have := bsJ_len (by_ := xy) (d := d) (i := i) (q := t); omega
          obtain ⟨L0, hL0⟩ : ∃ L0, L0 = T0 t := ⟨_, rfl⟩
          have HT0 : Hid (T0 t = L0) := hL0.symm
          have HJ0 : Hid (L0.length = J0) := by show _ = _; rw [hL0, hJ0]
          have HTT := Lib.hid hT0
          rw [← hT0] at HMg0
          have HQ1 := Lib.hid (QT.box (s := 1) (n := 1) (Box.newAt wr 3 [.int .i64 1] wr.heap.size rfl) rfl)
          clear hT0 hL0 hJ0 HMg HK hbel
          obtain ⟨rows1, r1, r2, r3, r4⟩ := HMg0.out.row t ht4
          have r3q := r3
          rw [HT0.out, HJ0.out] at r3q
          obtain ⟨Aq1, cq1, hts, hlq⟩ := own_form r3q
          have z2 : wr.cell? ⟨g14, 2, none⟩ = _ := BM0.out.cell 2
          have y0 : wr.cell? ⟨g12, t, none⟩ = some (.slice Aq1 J0 cq1) := by
            have := HMg0.out.thr.cell t
            rw [range_at _ ht4, hts] at this
            exact this
          have l6 := HMg0.out.thr.lt
          have lM := BM0.out.lt
          have g0 := HMg0.out.thr.frozen t
          have HTS1 := Lib.hid hts
          have R11 := Lib.hid r1
          have R21 := Lib.hid r2
          have R31 := Lib.hid r3
          have R3q1 := Lib.hid r3q
          have R41 := Lib.hid r4
          simp only [List.getElem?_cons_zero, List.getElem?_cons_succ] at z2
          clear hts r1 r2 r3 r4 r3q
          go_wp2
          refine region_firstG (Kc tCall) (gok_kc tCall) [0, 1, 3] [2, 4, 5, 6, 7, 8, 9, 10] (.cons 0 (.cons 1 (.cons 3 (.cons 11 (seq [12] (.cons 13 (.cons 14 (seq [15] (.cons 16 .nil))))))))) (by kernel_rfl) (by kernel_rfl) ?_
          simp only [pick, List.map_cons, List.map_nil, List.getD_cons_zero, List.getD_cons_succ]
          go_wp2
          refine ord_blindG (.pointer (some ⟨g14, 2, none⟩)) (by kernel_rfl) ?_ ?_
          · intro w' _
            simp only [List.getD_cons_zero, List.getD_cons_succ]
            go_simp
          refine ord_blindG (.slice (some ⟨g12, 0, none⟩) 4 4) (by kernel_rfl) ?_ ?_
          · intro w' hk
            have zz := (Box.kc (w := wr.drew) BM0.out hk tCall_mach).cell 2
            simp only [List.getElem?_cons_zero, List.getElem?_cons_succ] at zz
            simp only [List.getD_cons_zero, List.getD_cons_succ]
            go_simp
          refine ord_blindG (.int .i64 (t : Int)) (by kernel_rfl) ?_ ?_
          · intro w' _
            simp only [List.getD_cons_zero, List.getD_cons_succ]
            go_simp
            exact (Int.tmod_eq_emod_of_nonneg (by omega)).trans htI
          refine ord_callG (by kernel_rfl) ?_
          simp only [pick, List.map_cons, List.map_nil, List.getD_cons_zero, List.getD_cons_succ]
          go_wp2
          refine ⟨ext_below ((Below.refl _ _).alloc (Nat.le_refl _) _), ?_⟩
          refine ord_moreG [12] _ (by kernel_rfl) ?_
          simp only [pick, List.map_cons, List.map_nil, List.getD_cons_zero, List.getD_cons_succ]
          go_wp2
          refine ord_callG (by kernel_rfl) ?_
          simp only [pick, List.map_cons, List.map_nil, List.getD_cons_zero, List.getD_cons_succ]
          go_wp2
          refine ⟨ext_below ((Below.refl _ _).alloc (Nat.le_refl _) _), ?_⟩
          have hbl1 := (Below.refl wr.heap.size wr).alloc (Nat.le_refl _) (Obj.cells #[.int .i64 1] 3)
          have HMl1 := Lib.hid (HMg0.out.below hbl1)
          have HR3q1 := Lib.hid (World.ownsRow.alloc R3q1.out (Obj.cells #[.int .i64 1] 3))
          have RL1 := Lib.hid (HR3q1.out.alloc (.cells #[.int .i64 0, .slice (some ⟨wr.heap.size, 0, none⟩) 1 1] 40))
          rw [HTS1.out] at RL1
          refine ord_finG (by kernel_rfl) ?_
          simp only [pick, List.map_cons, List.map_nil, List.getD_cons_zero, List.getD_cons_succ]
          go_wp2_with (at_builtin; go_must (refine app_litBd eltCall (wr.alloc (Obj.cells #[.int .i64 1] 3)) rfl (.tmp 130) (.tmp 134) rfl (w5.heap.size) _ J0 rows1.flatten rfl (by rw [← HTS1.out]; exact HR3q1.out) 1 [.int .i64 0, .slice (some ⟨wr.heap.size, 0, none⟩) 1 1] (wr.heap.size + 1) (by first | rfl | simp) rfl rfl (by intro u hu; simp only [List.mem_cons, List.not_mem_nil, or_false] at hu; rcases hu with rfl | rfl <;> rfl) (by omega) (by omega) (by first | omega | (simp; omega)) ?_); intro v8 w8 own8 g8 hv8)
          obtain ⟨A81, c81, rfl, hc8⟩ := own_form own8
          have hK8 : Kc tCall ((wr.alloc (Obj.cells #[.int .i64 1] 3)).alloc (.cells #[.int .i64 0, .slice (some ⟨wr.heap.size, 0, none⟩) 1 1] 40)).drew w8 := Kc.grown ⟨g8.os, g8.tape, g8.output, g8.size, g8.block⟩ (fun b cs t fr he hh => .inl (own_same RL1.out he hh))
          have hne6 := Box.ne (HMl1.out.thr.alloc (.cells #[.int .i64 0, .slice (some ⟨wr.heap.size, 0, none⟩) 1 1] 40)) RL1.out (by decide)
          have b68 := (HMl1.out.thr.alloc (.cells #[.int .i64 0, .slice (some ⟨wr.heap.size, 0, none⟩) 1 1] 40)).grown g8 hne6
          obtain ⟨tg1, hMg', hKc', hBel'⟩ := HMl1.out.call (q := t) (c := ⟨0, [1]⟩) ht4 ⟨by decide, by decide, by decide⟩ (rows := rows1) R11.out R21.out (fun i r x hr hx => (R41.out i r x hr hx).kc (T := fun _ => False) (Kc.below hbl1) id) (World.ownsRow.alloc R31.out _) ⟨some ⟨wr.heap.size, 0, none⟩, 1, 1, rfl, Nat.le_refl _, HQ1.out⟩ own8 (by rw [HT0.out, HJ0.out]) (by rw [HTS1.out]; exact g8) (by rw [HTS1.out]; exact hv8)
          have HMg' := Lib.hid hMg'
          have HKc' := Lib.hid ((Kc.below (T := tCall) hbl1).trans hKc')
          have hbel1a := hbel0.trans (hbl1.mono hbel0.size)
          have HBel' := Lib.hid (hBel' w w.heap.size (by have := HSZ.out; omega) (by first | omega | (simp; omega)) hbel1a)
          have y8 : w8.cell? ⟨g12, t, none⟩ = some (.slice Aq1 J0 cq1) := by
            have := b68.cell t
            rw [range_at _ ht4, HTS1.out] at this
            exact this
          have f8 := b68.frozen t
          have H68 := Lib.hid b68
          clear hMg' hKc' hBel' b68 own8 g8 hv8 hne6 z2 y0 g0
          refine ⟨hK8, ?_⟩
          refine ord_moreG [15] _ (by kernel_rfl) ?_
          simp only [pick, List.map_cons, List.map_nil, List.getD_cons_zero, List.getD_cons_succ]
          go_wp2
          refine ord_finG (by kernel_rfl) ?_
          simp only [pick, List.map_cons, List.map_nil, List.getD_cons_zero, List.getD_cons_succ]
          go_wp2
          have hK9 : Kc tCall w8 (w8.setCell ⟨g12, t, none⟩ (.slice A81 (J0 + 1) c81)) := Kc.grown (grown_setCell w8 ⟨g12, t, none⟩ _) (fun b cs t fr he hh => by
            injection he with he
            subst he
            have h6 := H68.out
            unfold Box at h6
            rw [h6] at hh
            injection hh with hh
            injection hh with _ hh
            exact .inr hh.symm)
          refine ⟨hK9, ord_doneG ?_⟩
          obtain ⟨W1, hW1⟩ : ∃ W, W = w8.setCell ⟨g12, t, none⟩ (.slice A81 (J0 + 1) c81) := ⟨_, rfl⟩
          rw [← hW1]
          have HMg1 := HMg'
          have HK1 := Lib.hid (HK0.out.trans HKc'.out)
          have hbel1 := HBel'.out
          rw [← hW1] at HMg1 HK1 hbel1
          clear HMg' HKc' HBel' hK9 H68 y8 f8 hK8 hW1 R11 R21 R31 R3q1 R41 RL1 HTS1 HMl1 HR3q1
          obtain ⟨T1, hT1⟩ : ∃ T : Nat → List Cl, T = fun i => if i = t then T0 t ++ [⟨0, [1]⟩] else T0 i := ⟨_, rfl⟩
          have HMg1s := HMg1.out
          rw [← hT1] at HMg1s
          have HMg1t := Lib.hid HMg1s
          clear HMg1s
          obtain ⟨L1, hL1⟩ : ∃ L, L = T1 2 := ⟨_, rfl⟩
          obtain ⟨J1, hJ1⟩ : ∃ J, J = L1.length := ⟨_, rfl⟩
          have hJ1' : J1 ≤ 6 := by
            rw [hJ1, hL1, hT1]
            dsimp only
            rw [if_neg (by omega)]
            
            rw [HTT.out]
            have := bsJ_len (by_ := xy) (d := d) (i := i) (q := 2)
            omega
          have HT1 : Hid (T1 2 = L1) := hL1.symm
          have HJ1 : Hid (L1.length = J1) := hJ1.symm
          have HT1q := Lib.hid hT1
          have BM1 := Lib.hid (HBS.out.kc HK1.out tCall_mach)
          have hszr1 := hbel1.size
          clear HMg1 hT1 hL1 hJ1
          obtain ⟨rows2, r1, r2, r3, r4⟩ := HMg1t.out.row 2 (by omega)
          have r3q := r3
          rw [HT1.out, HJ1.out] at r3q
          obtain ⟨Aq2, cq2, hts, hlq⟩ := own_form r3q
          have z2 : W1.cell? ⟨g14, 2, none⟩ = _ := BM1.out.cell 2
          have y0 : W1.cell? ⟨g12, 2, none⟩ = some (.slice Aq2 J1 cq2) := by
            have := HMg1t.out.thr.cell 2
            rw [range_at _ (by omega), hts] at this
            exact this
          have l6 := HMg1t.out.thr.lt
          have lM := BM1.out.lt
          have g0 := HMg1t.out.thr.frozen 2
          have HTS2 := Lib.hid hts
          have R12 := Lib.hid r1
          have R22 := Lib.hid r2
          have R32 := Lib.hid r3
          have R3q2 := Lib.hid r3q
          have R42 := Lib.hid r4
          simp only [List.getElem?_cons_zero, List.getElem?_cons_succ] at z2
          clear hts r1 r2 r3 r4 r3q
          go_wp2
          refine region_firstG (Kc tCall) (gok_kc tCall) [0, 1] [2, 3, 4, 5, 6] (.cons 0 (.cons 1 (.cons 7 (seq [8] (.cons 9 (.cons 10 (seq [11] (.cons 12 .nil)))))))) (by kernel_rfl) (by kernel_rfl) ?_
          simp only [pick, List.map_cons, List.map_nil, List.getD_cons_zero, List.getD_cons_succ]
          go_wp2
          refine ord_blindG (.pointer (some ⟨g14, 2, none⟩)) (by kernel_rfl) ?_ ?_
          · intro w' _
            simp only [List.getD_cons_zero, List.getD_cons_succ]
            go_simp
          refine ord_blindG (.slice (some ⟨g12, 0, none⟩) 4 4) (by kernel_rfl) ?_ ?_
          · intro w' hk
            have zz := (Box.kc (w := W1.drew) BM1.out hk tCall_mach).cell 2
            simp only [List.getElem?_cons_zero, List.getElem?_cons_succ] at zz
            simp only [List.getD_cons_zero, List.getD_cons_succ]
            go_simp
          refine ord_callG (by kernel_rfl) ?_
          simp only [pick, List.map_cons, List.map_nil, List.getD_cons_zero, List.getD_cons_succ]
          go_wp2_with (at_make; refine make_all eltIntB _ rfl _ _ rfl W1.heap.size _ _ _ _ d rfl rfl rfl rfl (by omega) (by omega) (by first | exact Nat.le_refl _ | simp) ?_; intro wMd hownM hbelM hszM hgrM)
          refine ⟨ext_below (hbelM _ (Below.refl _ _)), ?_⟩
          obtain ⟨wM, hwM⟩ : ∃ W, W = wMd := ⟨_, rfl⟩
          rw [← hwM] at hownM hbelM hszM ⊢
          have hbM : Below W1.heap.size W1 wM := hbelM W1 (Below.refl _ _).drew
          rw [madeCells_one _ rfl] at hownM
          have HQ2 : Hid (QT wM 3 1 (some ⟨W1.heap.size, 0, none⟩) d ((List.replicate d 0).map (Value.int .i64))) := by
            show QT _ _ _ _ _ _
            rw [List.map_replicate]
            exact QT.own hownM
          clear hwM hownM hbelM hgrM
          refine ord_moreG [8] _ (by kernel_rfl) ?_
          simp only [pick, List.map_cons, List.map_nil, List.getD_cons_zero, List.getD_cons_succ]
          go_wp2
          refine ord_callG (by kernel_rfl) ?_
          simp only [pick, List.map_cons, List.map_nil, List.getD_cons_zero, List.getD_cons_succ]
          go_wp2
          refine ⟨ext_below ((Below.refl _ _).alloc (Nat.le_refl _) _), ?_⟩
          have hbl2 := hbM
          have HMl2 := Lib.hid (HMg1t.out.below hbl2)
          have HR3q2 := Lib.hid (own_below R3q2.out hbM)
          have RL2 := Lib.hid (HR3q2.out.alloc (.cells #[.int .i64 1, .slice (some ⟨W1.heap.size, 0, none⟩) d d] 40))
          rw [HTS2.out] at RL2
          refine ord_finG (by kernel_rfl) ?_
          simp only [pick, List.map_cons, List.map_nil, List.getD_cons_zero, List.getD_cons_succ]
          go_wp2_with (at_builtin; go_must (refine app_litB eltCall wM rfl (.tmp 142) (.tmp 146) rfl (w5.heap.size) _ J1 rows2.flatten rfl (by rw [← HTS2.out]; exact HR3q2.out) 1 [.int .i64 1, .slice (some ⟨W1.heap.size, 0, none⟩) d d] wM.heap.size (by first | rfl | simp) rfl rfl (by intro u hu; simp only [List.mem_cons, List.not_mem_nil, or_false] at hu; rcases hu with rfl | rfl <;> rfl) (by omega) (by omega) (by first | omega | (simp; omega)) ?_); intro v8 w8 own8 g8 hv8)
          obtain ⟨A82, c82, rfl, hc8⟩ := own_form own8
          have hK8 : Kc tCall (wM.alloc (.cells #[.int .i64 1, .slice (some ⟨W1.heap.size, 0, none⟩) d d] 40)) w8 := Kc.grown g8 (fun b cs t fr he hh => .inl (own_same RL2.out he hh))
          have hne6 := Box.ne (HMl2.out.thr.alloc (.cells #[.int .i64 1, .slice (some ⟨W1.heap.size, 0, none⟩) d d] 40)) RL2.out (by decide)
          have b68 := (HMl2.out.thr.alloc (.cells #[.int .i64 1, .slice (some ⟨W1.heap.size, 0, none⟩) d d] 40)).grown g8 hne6
          obtain ⟨tg2, hMg', hKc', hBel'⟩ := HMl2.out.call (q := 2) (c := ⟨1, List.replicate d 0⟩) (by omega) ⟨by decide, by decide, by decide⟩ (rows := rows2) R12.out R22.out (fun i r x hr hx => (R42.out i r x hr hx).kc (T := fun _ => False) (Kc.below hbl2) id) (own_below R32.out hbM) ⟨some ⟨W1.heap.size, 0, none⟩, d, d, rfl, Nat.le_refl _, HQ2.out⟩ own8 (by rw [HT1.out, HJ1.out]) (by rw [HTS2.out]; exact g8) (by rw [HTS2.out]; exact hv8)
          have HMg' := Lib.hid hMg'
          have HKc' := Lib.hid ((Kc.below (T := tCall) hbl2).trans hKc')
          have hbel2a := hbel1.trans (hbl2.mono hbel1.size)
          have HBel' := Lib.hid (hBel' w w.heap.size (by have := HSZ.out; omega) (by first | omega | (simp; omega)) hbel2a)
          have y8 : w8.cell? ⟨g12, 2, none⟩ = some (.slice Aq2 J1 cq2) := by
            have := b68.cell 2
            rw [range_at _ (by omega), HTS2.out] at this
            exact this
          have f8 := b68.frozen 2
          have H68 := Lib.hid b68
          clear hMg' hKc' hBel' b68 own8 g8 hv8 hne6 z2 y0 g0
          refine ⟨hK8, ?_⟩
          refine ord_moreG [11] _ (by kernel_rfl) ?_
          simp only [pick, List.map_cons, List.map_nil, List.getD_cons_zero, List.getD_cons_succ]
          go_wp2
          refine ord_finG (by kernel_rfl) ?_
          simp only [pick, List.map_cons, List.map_nil, List.getD_cons_zero, List.getD_cons_succ]
          go_wp2
          have hK9 : Kc tCall w8 (w8.setCell ⟨g12, 2, none⟩ (.slice A82 (J1 + 1) c82)) := Kc.grown (grown_setCell w8 ⟨g12, 2, none⟩ _) (fun b cs t fr he hh => by
            injection he with he
            subst he
            have h6 := H68.out
            unfold Box at h6
            rw [h6] at hh
            injection hh with hh
            injection hh with _ hh
            exact .inr hh.symm)
          refine ⟨hK9, ord_doneG ?_⟩
          obtain ⟨W2, hW2⟩ : ∃ W, W = w8.setCell ⟨g12, 2, none⟩ (.slice A82 (J1 + 1) c82) := ⟨_, rfl⟩
          rw [← hW2]
          have HMg2 := HMg'
          have HK2 := Lib.hid (HK1.out.trans HKc'.out)
          have hbel2 := HBel'.out
          rw [← hW2] at HMg2 HK2 hbel2
          clear HMg' HKc' HBel' hK9 H68 y8 f8 hK8 hW2 R12 R22 R32 R3q2 R42 RL2 HTS2 HMl2 HR3q2
          obtain ⟨T2, hT2⟩ : ∃ T : Nat → List Cl, T = fun i => if i = 2 then T1 2 ++ [⟨1, List.replicate d 0⟩] else T1 i := ⟨_, rfl⟩
          have HMg2s := HMg2.out
          rw [← hT2] at HMg2s
          have HMg2t := Lib.hid HMg2s
          clear HMg2s
          obtain ⟨L2, hL2⟩ : ∃ L, L = T2 3 := ⟨_, rfl⟩
          obtain ⟨J2, hJ2⟩ : ∃ J, J = L2.length := ⟨_, rfl⟩
          have hJ2' : J2 ≤ 6 := by
            rw [hJ2, hL2, hT2]
            dsimp only
            rw [if_neg (by omega)]
            rw [HT1q.out]; dsimp only; rw [if_neg (by omega)]
            rw [HTT.out]
            have := bsJ_len (by_ := xy) (d := d) (i := i) (q := 3)
            omega
          have HT2 : Hid (T2 3 = L2) := hL2.symm
          have HJ2 : Hid (L2.length = J2) := hJ2.symm
          have HT2q := Lib.hid hT2
          have BM2 := Lib.hid (HBS.out.kc HK2.out tCall_mach)
          have hszr2 := hbel2.size
          clear HMg2 hT2 hL2 hJ2
          obtain ⟨rows3, r1, r2, r3, r4⟩ := HMg2t.out.row 3 (by omega)
          have r3q := r3
          rw [HT2.out, HJ2.out] at r3q
          obtain ⟨Aq3, cq3, hts, hlq⟩ := own_form r3q
          have z2 : W2.cell? ⟨g14, 2, none⟩ = _ := BM2.out.cell 2
          have y0 : W2.cell? ⟨g12, 3, none⟩ = some (.slice Aq3 J2 cq3) := by
            have := HMg2t.out.thr.cell 3
            rw [range_at _ (by omega), hts] at this
            exact this
          have l6 := HMg2t.out.thr.lt
          have lM := BM2.out.lt
          have g0 := HMg2t.out.thr.frozen 3
          have HTS3 := Lib.hid hts
          have R13 := Lib.hid r1
          have R23 := Lib.hid r2
          have R33 := Lib.hid r3
          have R3q3 := Lib.hid r3q
          have R43 := Lib.hid r4
          simp only [List.getElem?_cons_zero, List.getElem?_cons_succ] at z2
          clear hts r1 r2 r3 r4 r3q
          go_wp2
          refine region_firstG (Kc tCall) (gok_kc tCall) [0, 1] [2, 3, 4, 5, 6] (.cons 0 (.cons 1 (.cons 7 (.cons 8 (seq [9] (.cons 10 .nil)))))) (by kernel_rfl) (by kernel_rfl) ?_
          simp only [pick, List.map_cons, List.map_nil, List.getD_cons_zero, List.getD_cons_succ]
          go_wp2
          refine ord_blindG (.pointer (some ⟨g14, 2, none⟩)) (by kernel_rfl) ?_ ?_
          · intro w' _
            simp only [List.getD_cons_zero, List.getD_cons_succ]
            go_simp
          refine ord_blindG (.slice (some ⟨g12, 0, none⟩) 4 4) (by kernel_rfl) ?_ ?_
          · intro w' hk
            have zz := (Box.kc (w := W2.drew) BM2.out hk tCall_mach).cell 2
            simp only [List.getElem?_cons_zero, List.getElem?_cons_succ] at zz
            simp only [List.getD_cons_zero, List.getD_cons_succ]
            go_simp
          refine ord_callG (by kernel_rfl) ?_
          simp only [pick, List.map_cons, List.map_nil, List.getD_cons_zero, List.getD_cons_succ]
          go_wp2
          refine ⟨ext_below ((Below.refl _ _).alloc (Nat.le_refl _) _), ?_⟩
          have HMl3 := HMg2t
          have HR3q3 := R3q3
          have RL3 := Lib.hid (HR3q3.out.alloc (.cells #[.int .i64 2, .slice none 0 0] 40))
          rw [HTS3.out] at RL3
          refine ord_finG (by kernel_rfl) ?_
          simp only [pick, List.map_cons, List.map_nil, List.getD_cons_zero, List.getD_cons_succ]
          go_wp2_with (at_builtin; go_must (refine app_litBd eltCall W2 rfl (.tmp 154) (.tmp 156) rfl (w5.heap.size) _ J2 rows3.flatten rfl (by rw [← HTS3.out]; exact HR3q3.out) 1 [.int .i64 2, .slice none 0 0] W2.heap.size (by first | rfl | simp) rfl rfl (by intro u hu; simp only [List.mem_cons, List.not_mem_nil, or_false] at hu; rcases hu with rfl | rfl <;> rfl) (by omega) (by omega) (by first | omega | (simp; omega)) ?_); intro v8 w8 own8 g8 hv8)
          obtain ⟨A83, c83, rfl, hc8⟩ := own_form own8
          have hK8 : Kc tCall (W2.alloc (.cells #[.int .i64 2, .slice none 0 0] 40)).drew w8 := Kc.grown ⟨g8.os, g8.tape, g8.output, g8.size, g8.block⟩ (fun b cs t fr he hh => .inl (own_same RL3.out he hh))
          have hne6 := Box.ne (HMl3.out.thr.alloc (.cells #[.int .i64 2, .slice none 0 0] 40)) RL3.out (by decide)
          have b68 := (HMl3.out.thr.alloc (.cells #[.int .i64 2, .slice none 0 0] 40)).grown g8 hne6
          obtain ⟨tg3, hMg', hKc', hBel'⟩ := HMl3.out.call (q := 3) (c := ⟨2, []⟩) (by omega) ⟨by decide, by decide, by decide⟩ (rows := rows3) R13.out R23.out R43.out R33.out ⟨none, 0, 0, rfl, Nat.le_refl _, QT.nil _ _ _ _⟩ own8 (by rw [HT2.out, HJ2.out]) (by rw [HTS3.out]; exact g8) (by rw [HTS3.out]; exact hv8)
          have HMg' := Lib.hid hMg'
          have HKc' := Lib.hid hKc'
          have hbel3a := hbel2
          have HBel' := Lib.hid (hBel' w w.heap.size (by have := HSZ.out; omega) (by first | omega | (simp; omega)) hbel3a)
          have y8 : w8.cell? ⟨g12, 3, none⟩ = some (.slice Aq3 J2 cq3) := by
            have := b68.cell 3
            rw [range_at _ (by omega), HTS3.out] at this
            exact this
          have f8 := b68.frozen 3
          have H68 := Lib.hid b68
          clear hMg' hKc' hBel' b68 own8 g8 hv8 hne6 z2 y0 g0
          refine ⟨hK8, ?_⟩
          refine ord_moreG [9] _ (by kernel_rfl) ?_
          simp only [pick, List.map_cons, List.map_nil, List.getD_cons_zero, List.getD_cons_succ]
          go_wp2
          refine ord_finG (by kernel_rfl) ?_
          simp only [pick, List.map_cons, List.map_nil, List.getD_cons_zero, List.getD_cons_succ]
          go_wp2
          have hK9 : Kc tCall w8 (w8.setCell ⟨g12, 3, none⟩ (.slice A83 (J2 + 1) c83)) := Kc.grown (grown_setCell w8 ⟨g12, 3, none⟩ _) (fun b cs t fr he hh => by
            injection he with he
            subst he
            have h6 := H68.out
            unfold Box at h6
            rw [h6] at hh
            injection hh with hh
            injection hh with _ hh
            exact .inr hh.symm)
          refine ⟨hK9, ord_doneG ?_⟩
          obtain ⟨W3, hW3⟩ : ∃ W, W = w8.setCell ⟨g12, 3, none⟩ (.slice A83 (J2 + 1) c83) := ⟨_, rfl⟩
          rw [← hW3]
          have HMg3 := HMg'
          have HK3 := Lib.hid (HK2.out.trans HKc'.out)
          have hbel3 := HBel'.out
          rw [← hW3] at HMg3 HK3 hbel3
          clear HMg' HKc' HBel' hK9 H68 y8 f8 hK8 hW3 R13 R23 R33 R3q3 R43 RL3 HTS3 HMl3 HR3q3
          go_wp2
          go_roundw
          case rel =>
            have h9 : Hid (Mg 3 40 38 tg3 W3 w5.heap.size g12 4 _ (bsJ xy d (i + 1))) := HMg3.out.congr (fun q hq => by
              rw [bsJ_succ, HT2q.out, HT1q.out, HTT.out, Ht.out]
              have hp := HNX.out
              rcases (by omega : q = 0 ∨ q = 1 ∨ q = 2 ∨ q = 3) with rfl | rfl | rfl | rfl
              · by_cases h0 : t = 0
                · simp [h0, hp]
                · simp [h0, Ne.symm h0]
              · by_cases h0 : t = 1
                · simp [h0, hp]
                · simp [h0, Ne.symm h0]
              · have : ¬ t = 2 := by omega
                simp [this, Ne.symm this]
              · have : ¬ t = 3 := by omega
                simp [this, Ne.symm this])
            exact ⟨i + 1, tg3, _, by omega, by go_num, h9, HK3, hbel3⟩
          case measure => simp [intOf]; omega
      · obtain rfl : i = 6 := by omega
        have bM := HBS.out.kc HK.out tCall_mach
        have hc97 : c97 ≤ 9223372036854775807 := by
          obtain ⟨_, k, e, _, h⟩ := own_capW HO3.out
          injection e with _ _ e
          omega
        have HIM := Lib.hid (bs_inM xy h1 h6 (HQ0.out.kc HK.out tCall_int) (HQA.out.kc HK.out tCall_op) (HQB.out.kc HK.out tCall_op) (HQC.out.kc HK.out tCall_op) (HQ3.out.kc HK.out tCall_code) HMg.out HLc.out.1 hc97 HLc.out.2.1 HLc.out.2.2.1 HLc.out.2.2.2)
        have lM := bM.lt
        have HBM := Lib.hid bM
        have HTr := Lib.hid (HT.out.below hbel HT.out.lt)
        clear HMg HK bM HBS HQ0 HQA HQB HQC HQ3 HMg6 HBw HL14 HL12 HLc HO3 hc97 hi6 HXy HXLy HSZ
        go_wp2_with fail
        refine (keep_ScheduleG xz Az nz cz wr 4 900 (by omega) (by omega) (by omega) ((HXz.out.below hbel).more hbel.size) (by omega) HRz.out).mono ?_
        rintro e w8 ⟨v, n', rfl, hown, hn', hb8⟩
        obtain ⟨As, cs, rfl, hls⟩ := own_form hown
        have hbel8 := hbel.trans (hb8.mono hszr)
        have HB8 := Lib.hid hbel8
        have hs8 := hbel8.size
        have HIM8 := Lib.hid (HIM.out.below hb8)
        have HT8 := Lib.hid (HTr.out.below hb8 HTr.out.lt)
        have HBM8 := Lib.hid (HBM.out.below hb8 lM)
        have lM8 := HBM8.out.lt
        obtain ⟨S, hS⟩ : ∃ S, S = schG 4 900 xz := ⟨_, rfl⟩
        have HSI := Lib.hid (show ∀ x ∈ S, 0 ≤ x ∧ x < 4 from fun x hx => by have := schG_in (k := 4) (most := 900) (l := xz) (by omega) (hS ▸ hx); omega)
        rw [← hS] at hown
        have HRS := Lib.hid (show RI w8 w8.heap.size .i64 As n' S from Rd.of_own hown)
        have HSL : Hid (S.length = n') := HRS.out.len
        clear hS hown hb8 hbel8 HIM HTr HBM HXz HRz HT
        go_wp2
        go_loopw [20, 21, 22] (fun a b i wr => ∃ (j : Nat) (u v : Value), u = a ∧ v = b ∧ j ≤ n' ∧ i = .int .i64 j ∧ Hid (SpM S w8.heap.size u v j wr) ∧ Below w8.heap.size w8 wr) (fun _ _ i _ => n' - (intOf i).toNat)
        case atStart => exact ⟨0, _, _, rfl, rfl, Nat.zero_le _, rfl, ⟨World.ownsRow_nil _ _ _ _, World.ownsRow_nil _ _ _ _, fun k hk => by cases hk⟩, Below.refl _ _⟩
        case round =>
          obtain ⟨j, u, v, rfl, rfl, hj, rfl, HSP, hbel⟩ := hrel
          have hsz := hbel.size
          by_cases hjn : j < n'
          · have ejn : decide ((j : Int) < n') = true := by simp; omega
            obtain ⟨ob, oo, x, rfl, hbB, c0, HX, hxm⟩ := (HRS.out.below hbel).val hjn
            have hbs : ob < wr.heap.size := by omega
            have hl1 : ((S.take j).filter lowI).length ≤ 900 := by have := List.length_filter_le lowI (S.take j); have := List.length_take_le j S; omega
            have hl2 : ((S.take j).filter fun x => !lowI x).length ≤ 900 := by have := List.length_filter_le (fun x => !lowI x) (S.take j); have := List.length_take_le j S; omega
            by_cases hx2 : x < 2
            · have ex2 : decide (x < 2) = true := by simpa using hx2
              have HF1 : Hid ((S.take (j + 1)).filter lowI = (S.take j).filter lowI ++ [x]) := by
                show _ = _
                rw [at_take HX.out, List.filter_append, List.filter_cons_of_pos (by unfold lowI; exact ex2)]; rfl
              have HF2 : Hid (((S.take (j + 1)).filter fun x => !lowI x) = (S.take j).filter fun x => !lowI x) := by
                show _ = _
                rw [at_take HX.out, List.filter_append, List.filter_cons_of_neg (by unfold lowI; simp [hx2]), List.filter_nil, List.append_nil]
              clear hx2 hxm
              go_wp2_with (at_builtin; go_must (refine app_litB eltIntB wr rfl (.tmp 172) (.tmp 177) rfl w8.heap.size _ _ _ rfl (by exact HSP.out.lo) 1 [.int .i64 x] _ rfl rfl rfl (one_ints .i64 [x]) (by omega) (by omega) hsz ?_); intro v6 w6b own6 g6b ho6)
              have hb6 : Below w8.heap.size w8 w6b := (hbel.alloc hsz _).grown g6b (by simp; omega) (fun k hk => own_geW HSP.out.lo hk)
              go_roundw
              case rel =>
                refine ⟨j + 1, _, _, rfl, rfl, by omega, by go_num, ⟨?_, ?_, ?_⟩, hb6⟩
                · rw [HF1.out, List.length_append, List.map_append]
                  exact own6
                · rw [HF2.out]
                  exact own_keptB (HSP.out.hi.alloc _) g6b (fun k hk hu => HSP.out.ne k hu hk)
                · intro k hk
                  rcases ho6 with e | e
                  · exact HSP.out.ne k (e.symm.trans hk)
                  · intro hk2
                    have := own_ltW HSP.out.hi hk2
                    rw [e] at hk
                    injection hk with hk
                    omega
              case measure => simp [intOf]; omega
            · have ex2 : decide (x < 2) = false := by simp; omega
              have HF1 : Hid ((S.take (j + 1)).filter lowI = (S.take j).filter lowI) := by
                show _ = _
                rw [at_take HX.out, List.filter_append, List.filter_cons_of_neg (by unfold lowI; simp; omega), List.filter_nil, List.append_nil]
              have HF2 : Hid (((S.take (j + 1)).filter fun x => !lowI x) = ((S.take j).filter fun x => !lowI x) ++ [x]) := by
                show _ = _
                rw [at_take HX.out, List.filter_append, List.filter_cons_of_pos (by unfold lowI; rw [ex2]; rfl)]; rfl
              clear hx2 hxm
              go_wp2_with (at_builtin; go_must (refine app_litB eltIntB wr rfl (.tmp 179) (.tmp 184) rfl w8.heap.size _ _ _ rfl (by exact HSP.out.hi) 1 [.int .i64 x] _ rfl rfl rfl (one_ints .i64 [x]) (by omega) (by omega) hsz ?_); intro v6 w6b own6 g6b ho6)
              have hb6 : Below w8.heap.size w8 w6b := (hbel.alloc hsz _).grown g6b (by simp; omega) (fun k hk => own_geW HSP.out.hi hk)
              go_roundw
              case rel =>
                refine ⟨j + 1, _, _, rfl, rfl, by omega, by go_num, ⟨?_, ?_, ?_⟩, hb6⟩
                · rw [HF1.out]
                  exact own_keptB (HSP.out.lo.alloc _) g6b (fun k hk hv => HSP.out.ne k hk hv)
                · rw [HF2.out, List.length_append, List.map_append]
                  exact own6
                · intro k hk hk2
                  rcases ho6 with e | e
                  · exact HSP.out.ne k hk (e.symm.trans hk2)
                  · have := own_ltW HSP.out.lo hk
                    rw [e] at hk2
                    injection hk2 with hk2
                    omega
              case measure => simp [intOf]; omega
          · obtain rfl : n' = j := by omega
            have hST : S.take n' = S := List.take_of_length_le (by rw [HSL.out]; exact Nat.le_refl _)
            obtain ⟨Sf, hSf⟩ : ∃ Sf, Sf = S.filter lowI := ⟨_, rfl⟩
            obtain ⟨Sl, hSl⟩ : ∃ Sl, Sl = S.filter fun x => !lowI x := ⟨_, rfl⟩
            have o1 := HSP.out.lo
            have o2 := HSP.out.hi
            rw [hST, ← hSf] at o1
            rw [hST, ← hSl] at o2
            obtain ⟨Af, cf, rfl, hlf⟩ := own_form o1
            obtain ⟨Al, cl, rfl, hll⟩ := own_form o2
            obtain ⟨nf, hnf⟩ : ∃ n, n = Sf.length := ⟨_, rfl⟩
            obtain ⟨nl, hnl⟩ : ∃ n, n = Sl.length := ⟨_, rfl⟩
            rw [← hnf, ← hnl]
            rw [← hnf] at o1 hlf
            rw [← hnl] at o2 hll
            have hnf9 : nf ≤ 900 := by rw [hnf, hSf]; have := List.length_filter_le lowI S; have := HSL.out; omega
            have hnl9 : nl ≤ 900 := by rw [hnl, hSl]; have := List.length_filter_le (fun x => !lowI x) S; have := HSL.out; omega
            have HRF := Lib.hid (show RI wr wr.heap.size .i64 Af nf Sf from Rd.of_own o1)
            have HRL := Lib.hid (show RI wr wr.heap.size .i64 Al nl Sl from Rd.of_own o2)
            obtain ⟨c1, c2⟩ := bes_cmp xy h1 h6 (S.map Int.toNat) (fun x hx => by obtain ⟨y, hy, rfl⟩ := List.mem_map.1 hx; have := HSI.out y hy; omega)
            have eF : ((S.map Int.toNat).filter fun x => decide (x < 2)) = Sf.map Int.toNat := by
              rw [hSf, List.filter_map]
              congr 1
              refine List.filter_congr fun x hx => ?_
              have := HSI.out x hx
              unfold lowI
              simp only [Function.comp]
              rw [decide_eq_decide]
              omega
            have eL : ((S.map Int.toNat).filter fun x => !decide (x < 2)) = Sl.map Int.toNat := by
              rw [hSl, List.filter_map]
              congr 1
              refine List.filter_congr fun x hx => ?_
              have := HSI.out x hx
              unfold lowI
              simp only [Function.comp]
              congr 1
              rw [decide_eq_decide]
              omega
            rw [eF] at c1
            rw [eL] at c2
            have hpl : ∀ X : List Int, (∀ x ∈ X, 0 ≤ x ∧ x < 4) → X.length ≤ 900 → PlR (mB xy d) X (plyG (mB xy d) 0 (X.map Int.toNat) (g0 (mB xy d))).out (plyG (mB xy d) 0 (X.map Int.toNat) (g0 (mB xy d))).w 0 := fun X hX hl => .inr (.inr (.inr ⟨bs_ok xy h1 h6, by omega, fun x hx => hX x hx, rfl, rfl, rfl⟩))
            have p1 := hpl S HSI.out (by have := HSL.out; omega)
            have p2 := hpl Sf (fun x hx => HSI.out x (by rw [hSf] at hx; exact (List.mem_filter.1 hx).1)) (by omega)
            have p3 := hpl Sl (fun x hx => HSI.out x (by rw [hSl] at hx; exact (List.mem_filter.1 hx).1)) (by omega)
            obtain ⟨T1, hT1⟩ : ∃ T, T = (plyG (mB xy d) 0 (S.map Int.toNat) (g0 (mB xy d))).out := ⟨_, rfl⟩
            obtain ⟨T2, hT2⟩ : ∃ T, T = (plyG (mB xy d) 0 (Sf.map Int.toNat) (g0 (mB xy d))).out := ⟨_, rfl⟩
            obtain ⟨T3, hT3⟩ : ∃ T, T = (plyG (mB xy d) 0 (Sl.map Int.toNat) (g0 (mB xy d))).out := ⟨_, rfl⟩
            rw [← hT1, ← hT2] at c1
            rw [← hT1, ← hT3] at c2
            rw [← hT1] at p1
            rw [← hT2] at p2
            rw [← hT3] at p3
            have HC1 := Lib.hid c1
            have HC2 := Lib.hid c2
            have P1 := Lib.hid p1
            have P2 := Lib.hid p2
            have P3 := Lib.hid p3
            have HIMr := Lib.hid (HIM8.out.below hbel)
            have HTr := Lib.hid (HT8.out.below hbel HT8.out.lt)
            have HBMr := Lib.hid (HBM8.out.below hbel lM8)
            have hs2 := (HRS.out.below hbel).more hbel.size
            have z0 : wr.cell? ⟨g14, 0, none⟩ = _ := HBMr.out.cell 0
            have z1 : wr.cell? ⟨g14, 1, none⟩ = _ := HBMr.out.cell 1
            have z2 : wr.cell? ⟨g14, 2, none⟩ = _ := HBMr.out.cell 2
            simp only [List.getElem?_cons_zero, List.getElem?_cons_succ] at z0 z1 z2
            have lMr := HBMr.out.lt
            have HBr := Lib.hid (HB8.out.trans (hbel.mono hs8))
            have hsr := HBr.out.size
            clear o1 o2 hST hSf hSl hnf hnl c1 c2 eF eL hpl p1 p2 p3 hT1 hT2 hT3 HSP HIM8 HT8 HBM8 HRS HB8 HSI HSL hjn
            go_wp2
            refine region_first [0, 1] (.cons 2 (seq [3, 4, 5, 6, 7, 8, 9, 10] .nil)) (by kernel_rfl) (by kernel_rfl) ?_
            simp only [pick, List.map_cons, List.map_nil, List.getD_cons_zero, List.getD_cons_succ]
            go_wp2
            refine ord_call (by kernel_rfl) ?_
            simp only [pick, List.map_cons, List.map_nil, List.getD_cons_zero, List.getD_cons_succ]
            go_wp2_with (at_builtin; go_must (refine app_src eltIntB wr.drew rfl _ _ rfl wr.heap.size _ 0 [] rfl (World.ownsRow_nil _ _ _ _) As n' _ (S.map (Value.int .i64)) rfl wr.heap.size (by exact Rd.heap hs2 rfl) (one_ints _ _) (by omega) (by omega) (Nat.le_refl _) ?_); intro v3 wa hv3 hg3 hbel3 hsz3)
            have hb3 : Below wr.heap.size wr wa := hbel3 wr (Below.refl _ _).drew
            rw [List.nil_append, Nat.zero_add] at hv3
            obtain ⟨A4, c4, rfl, hlc4⟩ := own_form hv3
            refine ⟨ext_below (hbel3 _ (Below.refl _ _)), ?_⟩
            have HR4 := Lib.hid (show RI wa wa.heap.size .i64 A4 n' S from Rd.of_own hv3)
            have HBa := Lib.hid (HBr.out.trans (hb3.mono hsr))
            have HIMa := Lib.hid (HIMr.out.below hb3)
            have HBMa := Lib.hid (HBMr.out.below hb3 lMr)
            have HTa := Lib.hid (HTr.out.below hb3 HTr.out.lt)
            have HRFa := Lib.hid ((HRF.out.below hb3).more hb3.size)
            have HRLa := Lib.hid ((HRL.out.below hb3).more hb3.size)
            have hsa := HBa.out.size
            have lMa := HBMa.out.lt
            clear hv3 hg3 hbel3 hsz3 z0 z1 z2 hs2 HIMr HBMr HTr HRF HRL hb3
            refine ord_last [3, 4, 5, 6, 7, 8, 9, 10] (by kernel_rfl) ?_
            simp only [pick, List.map_cons, List.map_nil, List.getD_cons_zero, List.getD_cons_succ]
            go_wp2_with fail
            refine (HPl.out wa HTa.out A97 (1 + nw) c97 (some ⟨g11, 0, none⟩) 3 3 (some ⟨g12, 0, none⟩) 4 4 (mB xy d) A4 n' c4 S T1 _ 0 HIMa.out HR4.out (by omega) P1.out).mono ?_
            rintro e wb ⟨B1, m1, d1, D1, k1, e1, rfl, hr1, _, hl1, _, hm1, _, _, hb4⟩
            have HBb := Lib.hid (HBa.out.trans (hb4.mono hsa))
            have hsb := HBb.out.size
            have HE1b := Lib.hid hr1
            have HIMb := Lib.hid (HIMa.out.below hb4)
            have HBMb := Lib.hid (HBMa.out.below hb4 lMa)
            have HTb := Lib.hid (HTa.out.below hb4 HTa.out.lt)
            have HRFb := Lib.hid ((HRFa.out.below hb4).more hb4.size)
            have HRLb := Lib.hid ((HRLa.out.below hb4).more hb4.size)
            have lMb := HBMb.out.lt
            have z0 : wb.cell? ⟨g14, 0, none⟩ = _ := HBMb.out.cell 0
            have z1 : wb.cell? ⟨g14, 1, none⟩ = _ := HBMb.out.cell 1
            have z2 : wb.cell? ⟨g14, 2, none⟩ = _ := HBMb.out.cell 2
            simp only [List.getElem?_cons_zero, List.getElem?_cons_succ] at z0 z1 z2
            clear hr1 hb4 HIMa HBMa HTa HRFa HRLa HBa HR4 P1
            go_wp2_with fail
            refine (HPl.out wb HTb.out A97 (1 + nw) c97 (some ⟨g11, 0, none⟩) 3 3 (some ⟨g12, 0, none⟩) 4 4 (mB xy d) Af nf cf Sf T2 _ 0 HIMb.out HRFb.out (by omega) P2.out).mono ?_
            rintro e wc ⟨B2, m2, d2, D2, k2, e2, rfl, hr2, _, hl2, _, hm2, _, _, hb4⟩
            have HBc := Lib.hid (HBb.out.trans (hb4.mono hsb))
            have hsc := HBc.out.size
            have HE1c := Lib.hid ((HE1b.out.below hb4).more hb4.size)
            have HE2c := Lib.hid hr2
            have HIMc := Lib.hid (HIMb.out.below hb4)
            have HBMc := Lib.hid (HBMb.out.below hb4 lMb)
            have HTc := Lib.hid (HTb.out.below hb4 HTb.out.lt)
            have HRLc := Lib.hid ((HRLb.out.below hb4).more hb4.size)
            have lMc := HBMc.out.lt
            have z0 : wc.cell? ⟨g14, 0, none⟩ = _ := HBMc.out.cell 0
            have z1 : wc.cell? ⟨g14, 1, none⟩ = _ := HBMc.out.cell 1
            have z2 : wc.cell? ⟨g14, 2, none⟩ = _ := HBMc.out.cell 2
            simp only [List.getElem?_cons_zero, List.getElem?_cons_succ] at z0 z1 z2
            clear hr2 hb4 HIMb HBMb HTb HRFb HRLb HBb P2 HE1b
            go_wp2_with fail
            refine (HPl.out wc HTc.out A97 (1 + nw) c97 (some ⟨g11, 0, none⟩) 3 3 (some ⟨g12, 0, none⟩) 4 4 (mB xy d) Al nl cl Sl T3 _ 0 HIMc.out HRLc.out (by omega) P3.out).mono ?_
            rintro e wd ⟨B3, m3, d3, D3, k3, e3, rfl, hr3, _, hl3, _, hm3, _, _, hb4⟩
            have HBd := Lib.hid (HBc.out.trans (hb4.mono hsc))
            have hsd := HBd.out.size
            have HE1d := Lib.hid ((HE1c.out.below hb4).more hb4.size)
            have HE2d := Lib.hid ((HE2c.out.below hb4).more hb4.size)
            have HE3d := Lib.hid hr3
            have HLA := Lib.hid HE1d.out.len
            have HLB := Lib.hid HE2d.out.len
            have HLC3 := Lib.hid HE3d.out.len
            have hm123 : m1 = m2 + m3 := by
              have h := filter_len lo T1
              have q1 := congrArg List.length HC1.out
              have q2 := congrArg List.length HC2.out
              rw [List.length_map, List.length_map] at q1 q2
              rw [HLA.out] at h
              rw [HLB.out] at q1
              rw [HLC3.out] at q2
              omega
            have eLen : ((m1 : Int) != (m2 : Int) + (m3 : Int)) = false := by simp; omega
            clear hm123
            clear hr3 hb4 HIMc HBMc HTc HRLc HBc P3 HE1c HE2c z0 z1 z2 HPl
            go_wp2_with fail
            refine (top_sure HLC.out _).mono ?_
            rintro e we ⟨rfl, hb4⟩
            have HBe := Lib.hid (HBd.out.trans (hb4.mono hsd))
            have hse := HBe.out.size
            have HE1 := Lib.hid ((HE1d.out.below hb4).more hb4.size)
            have HE2 := Lib.hid ((HE2d.out.below hb4).more hb4.size)
            have HE3 := Lib.hid ((HE3d.out.below hb4).more hb4.size)
            clear hb4 HE1d HE2d HE3d HBd HLC
            go_wp2
            go_loopw [32, 33, 34] (fun x y q wr => ∃ j : Nat, j ≤ m1 ∧ q = .int .i64 j ∧ x = .int .i64 ((T1.take j).filter lo).length ∧ y = .int .i64 ((T1.take j).filter fun x => !lo x).length ∧ Below we.heap.size we wr) (fun _ _ q _ => m1 - (intOf q).toNat)
            case atStart => exact ⟨0, Nat.zero_le _, rfl, rfl, rfl, Below.refl _ _⟩
            case round =>
              obtain ⟨j, hj, rfl, rfl, rfl, hbel⟩ := hrel
              have hsz := hbel.size
              by_cases hjm : j < m1
              · have ejm : decide ((j : Int) < m1) = true := by simp; omega
                obtain ⟨ba, oa, Aq, nq, kq, xa, rfl, hbB, a0, a1, a2, a3, a4, a5, hlk, hn5, hri, HX, hmem⟩ := (HE1.out.below hbel).val hjm
                have lba : ba < wr.heap.size := by omega
                obtain ⟨K, hK⟩ : ∃ K, K = ((T1.take j).filter lo).length := ⟨_, rfl⟩
                obtain ⟨M, hM⟩ : ∃ M, M = ((T1.take j).filter fun x => !lo x).length := ⟨_, rfl⟩
                rw [← hK, ← hM]
                have HK := Lib.hid hK
                have HM := Lib.hid hM
                have HRA := Lib.hid hri
                clear hmem hri hK hM
                by_cases h2 : xa.th < 2
                · have e2 : decide ((xa.th : Int) < 2) = true := by simp; omega
                  have hlo : lo xa = true := by unfold lo; simpa using h2
                  have hf := filter_at (p := lo) HX.out (by exact hlo)
                  rw [← HK.out] at hf
                  have hg : (T2.map (strip 0))[K]? = some (strip 0 xa) := by
                    rw [← HC1.out, List.getElem?_map, hf]; rfl
                  rw [List.getElem?_map] at hg
                  obtain ⟨z, hz, hsz0⟩ := Option.map_eq_some_iff.1 hg
                  have hKm : K < m2 := by rw [← HLB.out]; exact (List.getElem?_eq_some_iff.1 hz).1
                  have eK : decide (m2 ≤ K) = false := by simp; omega
                  obtain ⟨bb, ob, Ar, nr, kr, z', hBe, hbB2, b0, b1, b2, b3, b4, b5, hlk2, hn52, hri2, HZ, hmem2⟩ := (HE2.out.below hbel).val hKm
                  obtain rfl : z' = z := by have := HZ.out; rw [hz] at this; injection this with this; exact this.symm
                  subst hBe
                  unfold strip at hsz0
                  injection hsz0 with s1 s2
                  injection s2 with s2 s3
                  injection s3 with s3 s4
                  injection s4 with s4 s5
                  have s1 : z'.th = xa.th := by omega
                  rw [s1] at b1
                  rw [s2] at b2
                  rw [s3] at b3
                  rw [s4] at b4
                  have hnn : nr = nq := by have h1 := hri2.len; have h2 := HRA.out.len; rw [s5] at h1; omega
                  subst hnn
                  rw [s5] at hri2
                  have HRB := Lib.hid hri2
                  have lbb : bb < wr.heap.size := by omega
                  have HN1 : Hid (((T1.take (j + 1)).filter lo).length = K + 1) := by
                    show _ = _
                    rw [at_take HX.out, List.filter_append, List.length_append, ← HK.out]
                    rw [List.filter_cons_of_pos hlo]; rfl
                  have HN2 : Hid (((T1.take (j + 1)).filter fun x => !lo x).length = M) := by
                    show _ = _
                    rw [at_take HX.out, List.filter_append, List.length_append, ← HM.out]
                    rw [List.filter_cons_of_neg (by rw [hlo]; decide)]; rfl
                  obtain ⟨st, hst⟩ : ∃ st : Int, st = (z'.st : Int) := ⟨_, rfl⟩
                  rw [← hst] at b0
                  obtain ⟨th, hth⟩ : ∃ th : Int, th = (xa.th : Int) := ⟨_, rfl⟩
                  obtain ⟨cl', hcl⟩ : ∃ c : Int, c = (xa.cl : Int) := ⟨_, rfl⟩
                  rw [← hth] at b1 a1 e2
                  rw [← hcl] at b2 a2
                  have t1 : (th != th) = false := by simp
                  have t2 : (cl' != cl') = false := by simp
                  have t3 : (xa.en != xa.en) = false := by simp
                  have t4 : (xa.er != xa.er) = false := by simp
                  have t5 : ((nr : Int) != (nr : Int)) = false := by simp
                  have nr200 : nr ≤ 200 := hn5
                  have hbz := (Below.refl wr.heap.size wr).alloc (Nat.le_refl _) (Obj.cells #[.int .i64 st, .int .i64 th, .int .i64 cl', .bool xa.en, .int .i64 xa.er, .slice Ar nr kr] 47)
                  have bz := Box.newAt wr 47 [.int .i64 st, .int .i64 th, .int .i64 cl', .bool xa.en, .int .i64 xa.er, .slice Ar nr kr] wr.heap.size rfl
                  clear hlo hf hg hz s1 s2 s3 s4 s5 hst hth hcl hri2 hmem2 h2
                  go_wp2
                  refine region_two [0, 1, 2, 3, 4, 5, 6, 7, 8, 9, 10, 11, 12, 13, 14, 15, 16, 17, 18, 19, 20, 21, 22, 23, 24, 25, 26, 27, 28, 29, 30, 31, 32, 33, 34, 35, 36, 37, 38, 39, 40, 41, 42, 43, 44, 45, 46, 47, 48, 49] [] (by kernel_rfl) (by kernel_rfl) ?_
                  simp only [pick, List.map_cons, List.map_nil, List.getD_cons_zero, List.getD_cons_succ]
                  go_wp2
                  obtain ⟨gz, hgz⟩ : ∃ g, g = wr.heap.size := ⟨_, rfl⟩
                  have Hgz := Lib.hid hgz
                  obtain ⟨wz, hwz⟩ : ∃ W, W = (wr.alloc (Obj.cells #[.int .i64 st, .int .i64 th, .int .i64 cl', .bool xa.en, .int .i64 xa.er, .slice Ar nr kr] 47)).drew := ⟨_, rfl⟩
                  have bz := bz.below (Below.refl _ _).drew bz.lt
                  have hbz := hbz.drew
                  rw [← hwz] at bz hbz ⊢
                  rw [← hgz] at bz ⊢
                  have Hbz := Lib.hid hbz
                  have hszz := hbz.size
                  have HBZ := Lib.hid bz
                  have a5 := (hbz.cell (p := ⟨ba, oa + j * 6 + 5, none⟩) lba).trans a5
                  have lbaz : ba < wz.heap.size := by omega
                  have lz := bz.lt
                  clear hwz hgz a0 a1 a2 a3 a4 b0 b1 b2 b3 b4 b5 t1 t2 t3 t4 t5 e2 eK bz hbz
                  go_loopw [36] (fun i wq => ∃ r : Nat, r ≤ nr ∧ i = .int .i64 r ∧ Below wz.heap.size wz wq) (fun i _ => nr - (intOf i).toNat)
                  case atStart => exact ⟨0, Nat.zero_le _, rfl, Below.refl _ _⟩
                  case round =>
                    obtain ⟨r, hr, rfl, hbelq⟩ := hrel
                    have hszq := hbelq.size
                    have bzr := HBZ.out.below hbelq lz
                    have v5 : wr.cell? ⟨gz, 5, none⟩ = _ := bzr.cell 5
                    simp only [List.getElem?_cons_zero, List.getElem?_cons_succ] at v5
                    have lzr := bzr.lt
                    have a5 := (hbelq.cell (p := ⟨ba, oa + j * 6 + 5, none⟩) lbaz).trans a5
                    have lbar : ba < wr.heap.size := by omega
                    have HBFr := Lib.hid (hbel.trans ((Hbz.out.trans (hbelq.mono Hbz.out.size)).mono hsz))
                    by_cases hrn : r < nr
                    · have ern : decide ((r : Int) < nr) = true := by simp; omega
                      obtain ⟨bu, ou, v1, hAu, hbu, cu, HV1, _⟩ := ((HRA.out.below (Hbz.out.mono hsz)).below (hbelq.mono (by omega))).val hrn
                      obtain ⟨bw, ow, v2, hAw, hbw, cw', HV2, _⟩ := ((HRB.out.below (Hbz.out.mono hsz)).below (hbelq.mono (by omega))).val hrn
                      subst hAu hAw
                      have hvv : v1 = v2 := by have h1 := HV1.out; rw [HV2.out] at h1; injection h1 with h1; exact h1.symm
                      subst hvv
                      have tv : (v1 != v1) = false := by simp
                      have lbu : bu < wr.heap.size := by omega
                      have lbw : bw < wr.heap.size := by omega
                      clear HV1 HV2
                      go_wp2
                      refine region_two [0, 1, 2, 3, 4, 5, 6, 7, 8, 9, 10, 11, 12, 13] [] (by kernel_rfl) (by kernel_rfl) ?_
                      simp only [pick, List.map_cons, List.map_nil, List.getD_cons_zero, List.getD_cons_succ]
                      go_wp2
                      go_roundw
                      case rel => exact ⟨r + 1, by omega, by go_num, by first | exact hbelq | exact hbelq.drew⟩
                      case measure => simp [intOf]; omega
                    · obtain rfl : nr = r := by omega
                      go_wp2
                      go_roundw
                      case rel => exact ⟨j + 1, by omega, by go_num, by (first | (rw [HN1.out]; done) | (rw [HN1.out]; go_num)), by (first | (rw [HN2.out]; done) | (rw [HN2.out]; go_num)), HBFr.out⟩
                      case measure => simp [intOf]; omega
                · have e2 : decide ((xa.th : Int) < 2) = false := by simp; omega
                  have hlo : lo xa = false := by unfold lo; simpa using h2
                  have hf := filter_at (p := (fun x => !lo x)) HX.out (by rw [hlo]; rfl)
                  rw [← HM.out] at hf
                  have hg : (T3.map (strip 0))[M]? = some (strip 0 xa) := by
                    rw [← HC2.out, List.getElem?_map, hf]; rfl
                  rw [List.getElem?_map] at hg
                  obtain ⟨z, hz, hsz0⟩ := Option.map_eq_some_iff.1 hg
                  have hKm : M < m3 := by rw [← HLC3.out]; exact (List.getElem?_eq_some_iff.1 hz).1
                  have eK : decide (m3 ≤ M) = false := by simp; omega
                  obtain ⟨bb, ob, Ar, nr, kr, z', hBe, hbB2, b0, b1, b2, b3, b4, b5, hlk2, hn52, hri2, HZ, hmem2⟩ := (HE3.out.below hbel).val hKm
                  obtain rfl : z' = z := by have := HZ.out; rw [hz] at this; injection this with this; exact this.symm
                  subst hBe
                  unfold strip at hsz0
                  injection hsz0 with s1 s2
                  injection s2 with s2 s3
                  injection s3 with s3 s4
                  injection s4 with s4 s5
                  have s1 : z'.th = xa.th := by omega
                  rw [s1] at b1
                  rw [s2] at b2
                  rw [s3] at b3
                  rw [s4] at b4
                  have hnn : nr = nq := by have h1 := hri2.len; have h2 := HRA.out.len; rw [s5] at h1; omega
                  subst hnn
                  rw [s5] at hri2
                  have HRB := Lib.hid hri2
                  have lbb : bb < wr.heap.size := by omega
                  have HN1 : Hid (((T1.take (j + 1)).filter lo).length = K) := by
                    show _ = _
                    rw [at_take HX.out, List.filter_append, List.length_append, ← HK.out]
                    rw [List.filter_cons_of_neg (by rw [hlo]; decide)]; rfl
                  have HN2 : Hid (((T1.take (j + 1)).filter fun x => !lo x).length = M + 1) := by
                    show _ = _
                    rw [at_take HX.out, List.filter_append, List.length_append, ← HM.out]
                    rw [List.filter_cons_of_pos (by rw [hlo]; rfl)]; rfl
                  obtain ⟨st, hst⟩ : ∃ st : Int, st = (z'.st : Int) := ⟨_, rfl⟩
                  rw [← hst] at b0
                  obtain ⟨th, hth⟩ : ∃ th : Int, th = (xa.th : Int) := ⟨_, rfl⟩
                  obtain ⟨cl', hcl⟩ : ∃ c : Int, c = (xa.cl : Int) := ⟨_, rfl⟩
                  rw [← hth] at b1 a1 e2
                  rw [← hcl] at b2 a2
                  have t1 : (th != th) = false := by simp
                  have t2 : (cl' != cl') = false := by simp
                  have t3 : (xa.en != xa.en) = false := by simp
                  have t4 : (xa.er != xa.er) = false := by simp
                  have t5 : ((nr : Int) != (nr : Int)) = false := by simp
                  have nr200 : nr ≤ 200 := hn5
                  have hbz := (Below.refl wr.heap.size wr).alloc (Nat.le_refl _) (Obj.cells #[.int .i64 st, .int .i64 th, .int .i64 cl', .bool xa.en, .int .i64 xa.er, .slice Ar nr kr] 47)
                  have bz := Box.newAt wr 47 [.int .i64 st, .int .i64 th, .int .i64 cl', .bool xa.en, .int .i64 xa.er, .slice Ar nr kr] wr.heap.size rfl
                  clear hlo hf hg hz s1 s2 s3 s4 s5 hst hth hcl hri2 hmem2 h2
                  go_wp2
                  refine region_two [0, 1, 2, 3, 4, 5, 6, 7, 8, 9, 10, 11, 12, 13, 14, 15, 16, 17, 18, 19, 20, 21, 22, 23, 24, 25, 26, 27, 28, 29, 30, 31, 32, 33, 34, 35, 36, 37, 38, 39, 40, 41, 42, 43, 44, 45, 46, 47, 48, 49] [] (by kernel_rfl) (by kernel_rfl) ?_
                  simp only [pick, List.map_cons, List.map_nil, List.getD_cons_zero, List.getD_cons_succ]
                  go_wp2
                  obtain ⟨gz, hgz⟩ : ∃ g, g = wr.heap.size := ⟨_, rfl⟩
                  have Hgz := Lib.hid hgz
                  obtain ⟨wz, hwz⟩ : ∃ W, W = (wr.alloc (Obj.cells #[.int .i64 st, .int .i64 th, .int .i64 cl', .bool xa.en, .int .i64 xa.er, .slice Ar nr kr] 47)).drew := ⟨_, rfl⟩
                  have bz := bz.below (Below.refl _ _).drew bz.lt
                  have hbz := hbz.drew
                  rw [← hwz] at bz hbz ⊢
                  rw [← hgz] at bz ⊢
                  have Hbz := Lib.hid hbz
                  have hszz := hbz.size
                  have HBZ := Lib.hid bz
                  have a5 := (hbz.cell (p := ⟨ba, oa + j * 6 + 5, none⟩) lba).trans a5
                  have lbaz : ba < wz.heap.size := by omega
                  have lz := bz.lt
                  clear hwz hgz a0 a1 a2 a3 a4 b0 b1 b2 b3 b4 b5 t1 t2 t3 t4 t5 e2 eK bz hbz
                  go_loopw [36] (fun i wq => ∃ r : Nat, r ≤ nr ∧ i = .int .i64 r ∧ Below wz.heap.size wz wq) (fun i _ => nr - (intOf i).toNat)
                  case atStart => exact ⟨0, Nat.zero_le _, rfl, Below.refl _ _⟩
                  case round =>
                    obtain ⟨r, hr, rfl, hbelq⟩ := hrel
                    have hszq := hbelq.size
                    have bzr := HBZ.out.below hbelq lz
                    have v5 : wr.cell? ⟨gz, 5, none⟩ = _ := bzr.cell 5
                    simp only [List.getElem?_cons_zero, List.getElem?_cons_succ] at v5
                    have lzr := bzr.lt
                    have a5 := (hbelq.cell (p := ⟨ba, oa + j * 6 + 5, none⟩) lbaz).trans a5
                    have lbar : ba < wr.heap.size := by omega
                    have HBFr := Lib.hid (hbel.trans ((Hbz.out.trans (hbelq.mono Hbz.out.size)).mono hsz))
                    by_cases hrn : r < nr
                    · have ern : decide ((r : Int) < nr) = true := by simp; omega
                      obtain ⟨bu, ou, v1, hAu, hbu, cu, HV1, _⟩ := ((HRA.out.below (Hbz.out.mono hsz)).below (hbelq.mono (by omega))).val hrn
                      obtain ⟨bw, ow, v2, hAw, hbw, cw', HV2, _⟩ := ((HRB.out.below (Hbz.out.mono hsz)).below (hbelq.mono (by omega))).val hrn
                      subst hAu hAw
                      have hvv : v1 = v2 := by have h1 := HV1.out; rw [HV2.out] at h1; injection h1 with h1; exact h1.symm
                      subst hvv
                      have tv : (v1 != v1) = false := by simp
                      have lbu : bu < wr.heap.size := by omega
                      have lbw : bw < wr.heap.size := by omega
                      clear HV1 HV2
                      go_wp2
                      refine region_two [0, 1, 2, 3, 4, 5, 6, 7, 8, 9, 10, 11, 12, 13] [] (by kernel_rfl) (by kernel_rfl) ?_
                      simp only [pick, List.map_cons, List.map_nil, List.getD_cons_zero, List.getD_cons_succ]
                      go_wp2
                      go_roundw
                      case rel => exact ⟨r + 1, by omega, by go_num, by first | exact hbelq | exact hbelq.drew⟩
                      case measure => simp [intOf]; omega
                    · obtain rfl : nr = r := by omega
                      go_wp2
                      go_roundw
                      case rel => exact ⟨j + 1, by omega, by go_num, by (first | (rw [HN1.out]; done) | (rw [HN1.out]; go_num)), by (first | (rw [HN2.out]; done) | (rw [HN2.out]; go_num)), HBFr.out⟩
                      case measure => simp [intOf]; omega
              · obtain rfl : m1 = j := by omega
                have HBF := Lib.hid (HBe.out.trans (hbel.mono hse))
                go_wp2
                go_ret
                exact ⟨rfl, HBF.out⟩
end Go.Proofs.YtnchgdjdfhfedaaGreatDoor
