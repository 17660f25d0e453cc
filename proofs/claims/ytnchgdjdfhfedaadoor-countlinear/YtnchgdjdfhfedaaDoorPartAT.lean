/- Of this claim's own texts these, one behind the other: Vm5S, VmClone, Asm4, HistPure, AlgPure. No statement of the seat is proved here; no condition but those that stand at the theorems. -/
import Derived.Test.YtnchgdjdfhfedaaDoorPartAS
import Derived.Test.YtnchgdjdfhfedaaDoorPartAR
import Derived.Test.YtnchgdjdfhfedaaDoorPartAK
import Derived.Test.YtnchgdjdfhfedaaDoorPartAF
set_option linter.unusedSimpArgs false
set_option linter.unusedVariables false
namespace Go.Proofs.YtnchgdjdfhfedaaDoor
open Go.RowKit Go.Ord Go.Baro

/-- One call behind another, where what was told has come to lie in a new block. -/
theorem un_next {b mb : Nat} {tv tv2 wv : Value} {w w2 w3 : World} (h : Un (touch b mb tv wv) w w2) (k : Un (touch b mb tv2 wv) w2 w3) (hb : tv2.ownBlock = tv.ownBlock ∨ ∃ k, tv2.ownBlock = some k ∧ w.heap.size ≤ k) : Un (touch b mb tv wv) w w3 := by
  refine ⟨k.os.trans h.os, k.tape.trans h.tape, k.output.trans h.output, Nat.le_trans h.size k.size, fun i hi hx => (k.block i (Nat.lt_of_lt_of_le hi h.size) fun ht => hx ?_).trans (h.block i hi hx)⟩
  rcases ht with ht | ht | ht | ht
  · exact .inl ht
  · exact .inr (.inl ht)
  · rcases hb with hb | ⟨q, hq, hs⟩
    · exact .inr (.inr (.inl (hb ▸ ht)))
    · rw [hq] at ht; injection ht with ht; omega
  · exact .inr (.inr (.inr ht))

set_option maxRecDepth 100000 in
set_option maxHeartbeats 4000000 in
theorem vm_Stepo (T : TypeId) (pre post : List Value) (oo : Nat) (w : World) (B Bc b n cc wn wc : Nat) (cA wA : Option Addr) (tv : Value) (l : List Ins) (s s' : Vs) (o : Ins) (E : Int) (h : ToV T pre post w B b oo (.slice cA n cc) tv (.slice wA wn wc) s) (hBs : B ≤ w.heap.size)
    (hc : RO w Bc cA n l) (hBc : Bc ≤ w.heap.size) (hp : s.p < n) (hn : n ≤ 200) (hok : Ok n s) (hx : l[s.p.toNat]? = some o) (ho : okI n o) (hs : stp n o s = (s', E)) :
    Calls Tryd.prog 54 #[.pointer (some ⟨b, oo, none⟩), .slice wA wn wc] w (StPostO T pre post B b oo (.slice cA n cc) tv (.slice wA wn wc) (aft n E s') E w) := by
  obtain ⟨p', r, ws, t⟩ := s
  have q1 := hok.lo
  dsimp only at q1 hp hx
  obtain ⟨p, rfl⟩ : ∃ p : Nat, p' = p := ⟨p'.toNat, by omega⟩
  rw [Int.toNat_natCast] at hx
  have hpn : p < n := by omega
  have h0 : Un (touch b b tv (.slice wA wn wc)) w w := Un.refl _ _
  have HTH := Lib.hid h
  have HOK := Lib.hid hok
  have HO := Lib.hid ho
  have HS := Lib.hid hs
  have HC := Lib.hid hc
  have HXX := Lib.hid hx
  have hv : ((p : Int) == (n : Int)) = false := by simp; omega
  clear h hok ho hs hc hx
  go_enter Tryd.func54, Tryd.ntmps54
  go_wp2_with fail
  refine (vm_endedo T pre post oo w B b n cc _ tv _ ⟨p, r, ws, t⟩ false HTH.out (by simp; omega)).mono ?_
  rintro e w1 ⟨rfl, hw1⟩
  have h1 : ToV T pre post w1 B b oo (.slice cA n cc) tv (.slice wA wn wc) ⟨p, r, ws, t⟩ := by rw [hw1]; exact HTH.out.drewN 1
  have hc1 : RO w1 Bc cA n l := by rw [hw1]; exact HC.out.heap rfl
  have hu1 : Un (touch b b tv (.slice wA wn wc)) w w1 := by rw [hw1]; exact h0.drewN 1
  have hsz1 : w1.heap.size ≤ w.heap.size := by rw [hw1]; exact Nat.le_refl _
  have hsz2 : w.heap.size ≤ w1.heap.size := by rw [hw1]; exact Nat.le_refl _
  clear hw1 h0
  obtain ⟨bc, oc, k0, x0, y0, z0, u0, rfl, hbc, c0, c1, c2, c3, c4, HX, hmem⟩ := hc1.val hpn
  have hX := HX.out
  rw [HXX.out] at hX
  simp only [Option.some.injEq] at hX
  subst hX
  clear HX hmem hc1
  have hlt := h1.lt
  have hcs : bc < w1.heap.size := by omega
  have t0 := h1.code
  have t1 := h1.at_
  dsimp only at t1
  have f1 := h1.box.frozen (oo + 1)
  have HT1 := Lib.hid h1
  clear h1
  go_wp2
  refine region_first [0, 1, 2, 3, 4, 5, 6, 7, 8, 9] (.cons 10 (seq [11] .nil)) (by kernel_rfl) (by kernel_rfl) ?_
  simp only [pick, List.map_cons, List.map_nil, List.getD_cons_zero, List.getD_cons_succ]
  go_wp2
  refine ord_call (by kernel_rfl) ?_
  simp only [pick, List.map_cons, List.map_nil, List.getD_cons_zero, List.getD_cons_succ]
  go_wp2
  refine ⟨(((Below.refl w1.heap.size w1).alloc (Nat.le_refl _) _).drew).block, ?_⟩
  refine ord_last [11] (by kernel_rfl) ?_
  simp only [pick, List.map_cons, List.map_nil, List.getD_cons_zero, List.getD_cons_succ]
  go_wp2_with fail
  refine (vm_execo T pre post oo _ B b n cc wn wc _ wA tv ⟨p, r, ws, t⟩ s' k0 x0 y0 z0 u0 E (by exact ((HT1.out.next (p + 1)).alloc _).drew) (by simp; omega) HOK.out HO.out HS.out).mono ?_
  rintro e w2 ⟨rfl, ⟨tv2, hth2, hbk⟩, hb2⟩
  have hbk' : tv2.ownBlock = tv.ownBlock ∨ ∃ k, tv2.ownBlock = some k ∧ w.heap.size ≤ k := hbk.imp id (fun ⟨k, e, hk⟩ => ⟨k, e, by simp at hk; omega⟩)
  have hu2 : Un (touch b b tv (.slice wA wn wc)) w w2 := ((un_at hu1 touch_b _ _).alloc _).drew.trans hb2
  by_cases hE : E = 0
  · subst hE
    go_wp2
    go_ret
    exact ⟨rfl, ⟨tv2, hth2, hbk'⟩, hu2⟩
  · have hv2 : (E != 0) = true := by simp [hE]
    have HE := Lib.hid hE
    clear hE
    go_wp2_with fail
    refine (vm_endo T pre post oo _ B b n cc _ tv2 _ s' hth2).mono ?_
    rintro e w3 ⟨rfl, hth3, hb3⟩
    go_wp2
    go_ret
    refine ⟨rfl, ⟨tv2, by rw [aft_err HE.out]; exact hth3, hbk'⟩, un_next hu2 hb3 hbk'⟩
/-- A step of a thread within a call, its code valid: what it does of itself. -/
theorem vm_Stepx (T : TypeId) (pre post : List Value) (oo : Nat) (w : World) (B Bc b n cc wn wc : Nat) (cA wA : Option Addr) (tv : Value) (L L' : Lv) (ws W' : List Int) (E : Int) (en : Bool) (h : ToV T pre post w B b oo (.slice cA n cc) tv (.slice wA wn wc) ⟨L.p, L.r, ws, L.t⟩) (hBs : B ≤ w.heap.size)
    (hc : RO w Bc cA n L.c) (hBc : Bc ≤ w.heap.size) (hok : okC L.c) (hl : LOk L) (hw : WOk ws) (hx : exc L ws = (L', W', E, en)) :
    Calls Tryd.prog 54 #[.pointer (some ⟨b, oo, none⟩), .slice wA wn wc] w fun e w' => ∃ q : Int, StPostO T pre post B b oo (.slice cA n cc) tv (.slice wA wn wc) ⟨q, L'.r, W', L'.t⟩ E w e w' ∧ (en = true ↔ q = n) ∧ (en = false → q = L'.p ∧ L'.c = L.c) := by
  have hlen := hc.len
  by_cases hp : L.p = L.c.length
  · rw [exc_none hp] at hx
    simp only [Prod.mk.injEq] at hx
    obtain ⟨rfl, rfl, rfl, rfl⟩ := hx
    have h0 : Un (touch b b tv (.slice wA wn wc)) w w := Un.refl _ _
    have HTH := Lib.hid h
    have hpn : L.p = n := by omega
    have HP := Lib.hid hpn
    clear h hp hpn
    go_enter Tryd.func54, Tryd.ntmps54
    go_wp2_with fail
    refine (vm_endedo T pre post oo w B b n cc _ tv _ ⟨L.p, L.r, ws, L.t⟩ true HTH.out (by simp; exact HP.out)).mono ?_
    rintro e w1 ⟨rfl, rfl⟩
    go_wp2
    go_ret
    exact ⟨L.p, ⟨rfl, ⟨tv, HTH.out.drewN 1, .inl rfl⟩, h0.drewN 1⟩, by simp; exact HP.out, by simp⟩
  · have hlt : L.p < L.c.length := by have := hl.2.1; omega
    have hlo := hl.1
    have hn : L.p.toNat < L.c.length := by omega
    obtain ⟨o, ho⟩ : ∃ o, L.c[L.p.toNat]? = some o := ⟨_, List.getElem?_eq_getElem hn⟩
    obtain ⟨s', E', hs⟩ : ∃ s' E', stp L.c.length o ⟨L.p, L.r, ws, L.t⟩ = (s', E') := ⟨_, _, rfl⟩
    rw [exc_stp hlt ho hs] at hx
    simp only [Prod.mk.injEq] at hx
    obtain ⟨rfl, rfl, rfl, rfl⟩ := hx
    refine (vm_Stepo T pre post oo w B Bc b n cc wn wc cA wA tv L.c ⟨L.p, L.r, ws, L.t⟩ s' o E' h hBs hc hBc (by dsimp only; omega) (by have := hok.1; omega) (by rw [← hlen]; exact ok_of hl hw) ho (by rw [← hlen]; exact hok.2 o (List.mem_of_getElem? ho)) (by rw [← hlen]; exact hs)).mono ?_
    intro e w' hP
    refine ⟨if E' = 0 then s'.p else n, hP, ?_, ?_⟩
    · rw [hlen]
      by_cases hE : E' = 0
      · simp [hE]
      · simp [hE]
    · intro hf
      simp at hf
      simp [hf.1]
end Go.Proofs.YtnchgdjdfhfedaaDoor

set_option linter.unusedSimpArgs false
set_option linter.unusedVariables false
namespace Go.Proofs.YtnchgdjdfhfedaaDoor
open Go.RowKit Go.Ord Go.Baro

theorem run_eql_nilS {P : Program} (w : World) (t e : TypeId) (a : Option Addr) (l c : Nat) (h : P.underlying t = some (.slice e)) : (binOp .eql t (.slice a l c) (.slice none 0 0)).run P w = .ok (.bool a.isNone) w := by
  simp only [binOp]
  simp [run_equal_slice_nil w t e a l c h]
theorem eltOpC : Elt Tryd.prog 24 73 (.agg #[.int .i64 0, .int .i64 0, .int .i64 0, .int .i64 0, .int .i64 0]) 5 40 := Elt.mk' Tryd.underlying24 (by kernel_rfl) rfl (by decide)
theorem cellsO_one (l : List Ins) : ∀ v ∈ cellsO l, v.oneCell' = true := by
  intro v hv
  simp only [cellsO, insV, List.mem_flatMap, List.mem_cons, List.not_mem_nil, or_false] at hv
  obtain ⟨o, _, h⟩ := hv
  rcases h with rfl | rfl | rfl | rfl | rfl <;> rfl

set_option maxHeartbeats 1000000 in
theorem slices_CloneO (l : List Ins) (A : Option Addr) (n c B : Nat) (w : World) (hb : RO w B A n l) (hB : B ≤ w.heap.size) (hn : n ≤ 200) :
    Calls Tryd.prog 65 #[.slice A n c] w fun e w' => ∃ v, e = .returned v ∧ w'.ownsRow w.heap.size 73 5 v n (cellsO l) ∧ Below w.heap.size w w' := by
  have HL := Lib.hid hb.len
  cases A with
  | none =>
    have hn0 : n = 0 := by
      rcases Nat.eq_zero_or_pos n with h0 | h0
      · exact h0
      · obtain ⟨b, q, hA, _⟩ := Rd.at_ hb h0; cases hA
    subst hn0
    have hl : l = [] := List.eq_nil_of_length_eq_zero HL.out
    subst hl
    have hnil := run_eql_nilS w _ _ none 0 c Tryd.underlying24
    go_enter Tryd.func65, Tryd.ntmps65
    go_wp2
    go_ret
    exact ⟨_, rfl, World.ownsRow_nil _ _ _ _, Below.refl _ _⟩
  | some ad =>
    have hnil := run_eql_nilS w _ _ (some ad) n c Tryd.underlying24
    go_enter Tryd.func65, Tryd.ntmps65
    go_wp2_with (at_builtin; go_must (refine app_src eltOpC _ rfl _ _ rfl w.heap.size _ 0 [] rfl (World.ownsRow_lit w #[] 0 (Nat.le_refl _) (by unfold maxLen; omega) rfl) (some ad) n c (cellsO l) rfl _ (RO.below hb ((Below.refl _ _).alloc (by omega) _)) (cellsO_one _) (by omega) (by omega) (by simp) ?_); intro v3 w3 hown3 hgr3 hbel3 _)
    go_ret
    refine ⟨_, rfl, ?_, hbel3 _ ((Below.refl _ _).alloc (Nat.le_refl _) _)⟩
    simpa using hown3

set_option maxHeartbeats 1000000 in
theorem slices_CloneI (l : List Int) (A : Option Addr) (n c B : Nat) (w : World) (hb : RI w B .i64 A n l) (hB : B ≤ w.heap.size) (hn : n ≤ 200) :
    Calls Tryd.prog 40 #[.slice A n c] w fun e w' => ∃ v, e = .returned v ∧ w'.ownsRow w.heap.size 3 1 v n (l.map (Value.int .i64)) ∧ Below w.heap.size w w' := by
  have HL := Lib.hid hb.len
  cases A with
  | none =>
    have hn0 : n = 0 := by
      rcases Nat.eq_zero_or_pos n with h0 | h0
      · exact h0
      · obtain ⟨b, q, hA, _⟩ := Rd.at_ hb h0; cases hA
    subst hn0
    have hl : l = [] := List.eq_nil_of_length_eq_zero HL.out
    subst hl
    have hnil := run_eql_nilS w _ _ none 0 c Tryd.underlying22
    go_enter Tryd.func40, Tryd.ntmps40
    go_wp2
    go_ret
    exact ⟨_, rfl, World.ownsRow_nil _ _ _ _, Below.refl _ _⟩
  | some ad =>
    have hnil := run_eql_nilS w _ _ (some ad) n c Tryd.underlying22
    go_enter Tryd.func40, Tryd.ntmps40
    go_wp2_with (at_builtin; go_must (refine app_src eltInt _ rfl _ _ rfl w.heap.size _ 0 [] rfl (World.ownsRow_lit w #[] 0 (Nat.le_refl _) (by unfold maxLen; omega) rfl) (some ad) n c (l.map (Value.int .i64)) rfl _ (RI.below hb ((Below.refl _ _).alloc (by omega) _)) (one_ints _ _) (by omega) (by omega) (by simp) ?_); intro v3 w3 hown3 hgr3 hbel3 _)
    go_ret
    refine ⟨_, rfl, ?_, hbel3 _ ((Below.refl _ _).alloc (Nat.le_refl _) _)⟩
    simpa using hown3

/-- What a call has told, in a row of its own. -/
theorem vm_Toldo (T : TypeId) (pre post : List Value) (o : Nat) (w : World) (B b : Nat) (cv tv wv : Value) (s : Vs) (h : ToV T pre post w B b o cv tv wv s) (hl : s.t.length ≤ 200) :
    Calls Tryd.prog 55 #[.pointer (some ⟨b, o, none⟩)] w fun e w' => ∃ v, e = .returned v ∧ w'.ownsRow w.heap.size 3 1 v s.t.length (s.t.map (Value.int .i64)) ∧ Below w.heap.size w w' := by
  obtain ⟨A, c, rfl, _⟩ := own_form h.told
  have t26 := h.toldv
  have hr := Rd.of_own h.told
  have hlt := h.lt
  obtain ⟨m, hm⟩ : ∃ m, m = s.t.length := ⟨_, rfl⟩
  rw [← hm] at t26 hr hl ⊢
  clear h hm
  go_enter Tryd.func55, Tryd.ntmps55
  go_wp2_with fail
  refine (slices_CloneI s.t A m c w.heap.size w hr (Nat.le_refl _) hl).mono ?_
  rintro e w1 ⟨v, rfl, h1, h2⟩
  go_wp2
  go_ret
  exact ⟨v, rfl, h1, h2⟩
end Go.Proofs.YtnchgdjdfhfedaaDoor

set_option linter.unusedSimpArgs false
set_option linter.unusedVariables false
namespace Go.Proofs.YtnchgdjdfhfedaaDoor
open Go.RowKit Go.Ord Go.Baro Go.Maps

theorem cellsJ_at (l : List (Int × Nm)) : ∀ (i : Nat) (j : Int × Nm), l[i]? = some j → (cellsJ l)[i * 2]? = some (.int .i64 j.1) ∧ (cellsJ l)[i * 2 + 1]? = some (nmV j.2) := by
  induction l with
  | nil => intro i j h; simp at h
  | cons f l ih =>
    intro i j h
    have hc : cellsJ (f :: l) = jmpV f ++ cellsJ l := rfl
    rw [hc]
    cases i with
    | zero => simp at h; subst h; simp [jmpV]
    | succ i =>
      have := ih i j (by simpa using h)
      rw [List.getElem?_append_right (by simp [jmpV]; omega), List.getElem?_append_right (by simp [jmpV]; omega)]
      simp [jmpV, show (i + 1) * 2 - 2 = i * 2 by omega, show (i + 1) * 2 + 1 - 2 = i * 2 + 1 by omega, this]
theorem cellsO_set : ∀ (l : List Ins) (i k : Nat) (o o' : Ins), l[i]? = some o → (∃ v, (insV o).set k v = insV o') → k < 5 → ∀ v, (insV o).set k v = insV o' → (cellsO l).set (i * 5 + k) v = cellsO (l.set i o')
  | [], i, k, o, o', h, _, _, _, _ => by simp at h
  | f :: l, 0, k, o, o', h, _, hk, v, hv => by
    simp at h
    subst h
    have hc : ∀ g : Ins, cellsO (g :: l) = insV g ++ cellsO l := fun _ => rfl
    rw [List.set_cons_zero, hc, hc, Nat.zero_mul, Nat.zero_add, List.set_append_left _ _ (by simp [insV]; exact hk), hv]
  | f :: l, i + 1, k, o, o', h, hh, hk, v, hv => by
    have hc : ∀ (g : Ins) (t : List Ins), cellsO (g :: t) = insV g ++ cellsO t := fun _ _ => rfl
    rw [List.set_cons_succ, hc, hc, List.set_append_right _ _ (by simp [insV]; omega), ← cellsO_set l i k o o' (by simpa using h) hh hk v hv]
    congr 2
    simp [insV]
    omega
set_option maxRecDepth 100000 in
set_option maxHeartbeats 2000000 in
theorem asm_Code (w : World) (hT : Tab w) (B b n : Nat) (s : Bs) (c : List Ins) (h : BdAt w B b s n) (hf : s.fin = some c) (hj0 : ∀ j ∈ s.jmps, 0 ≤ j.1 ∧ j.2.length ≤ 1000) (hjl : s.jmps.length ≤ 1000) :
    Calls Tryd.prog 48 #[.pointer (some ⟨b, 0, none⟩)] w fun e w' => ∃ v, e = .returned (.tuple #[v, .int .i64 0]) ∧ w'.ownsRow w.heap.size 73 5 v c.length (cellsO c) ∧ Below w.heap.size w w' := by
  obtain ⟨cv, jv, rm, lm, h⟩ := h
  obtain ⟨f1, f2, f3⟩ := Bs.fin_some hf
  have hcl := rslv_len _ _ _ _ f2
  have hlt := h.lt
  obtain ⟨A, k, rfl, hlc⟩ := own_form h.code
  obtain ⟨Aj, kj, rfl, hlj⟩ := own_form h.jmps
  have c0 : w.cell? ⟨b, 0, none⟩ = some (.slice A s.code.length k) := h.box.cell 0
  have c2 : w.cell? ⟨b, 2, none⟩ = some (.map (some lm)) := h.box.cell 2
  have c3 : w.cell? ⟨b, 3, none⟩ = some (.slice Aj s.jmps.length kj) := h.box.cell 3
  have c4 : w.cell? ⟨b, 4, none⟩ = some (.bool false) := by have := h.box.cell 4; rw [f1] at this; exact this
  have HF2 := Lib.hid f2
  have HF3 := Lib.hid f3
  have HCL := Lib.hid hcl
  have hq200 : s.code.length ≤ 200 := by rw [← hcl]; exact f3.1
  have HB := Lib.hid h
  have HT := Lib.hid hT
  have HJ := Lib.hid hj0
  obtain ⟨q, hq⟩ : ∃ q, q = s.code.length := ⟨_, rfl⟩
  obtain ⟨m, hm⟩ : ∃ m, m = s.jmps.length := ⟨_, rfl⟩
  have HRO := Lib.hid (show RO w w.heap.size A q s.code by rw [hq]; exact Rd.of_own h.code)
  have HRJ := Lib.hid (show Rd w w.heap.size 2 Aj m (cellsJ s.jmps) by rw [hm]; exact Rd.of_own h.jmps)
  rw [← hq] at c0 hq200 hlc
  rw [← hm] at c3 hjl hlj
  have HQ := Lib.hid hq
  have HM := Lib.hid hm
  clear h hf f1 f2 f3 hcl hT hj0 hq hm
  go_enter Tryd.func48, Tryd.ntmps48
  go_wp2_with fail
  refine (slices_CloneO s.code A q k w.heap.size _ HRO.out (Nat.le_refl _) hq200).mono ?_
  rintro e w1 ⟨v, rfl, hown, hb1⟩
  obtain ⟨A1, k1, rfl, hlk1⟩ := own_form hown
  have HO := Lib.hid hown
  have d3 : w1.cell? ⟨b, 3, none⟩ = some (.slice Aj m kj) := (hb1.cell hlt).trans c3
  have hlt1 : b < w1.heap.size := by have := hb1.size; omega
  clear hown
  go_wp2
  go_loopw [24] (fun i wr => ∃ (j : Nat) (cj : List Ins), j ≤ m ∧ i = .int .i64 j ∧ Hid (rslv s.labs (s.jmps.take j) s.code = some cj) ∧ Hid (wr.ownsRow w.heap.size 73 5 (.slice A1 q k1) q (cellsO cj)) ∧ Below w.heap.size w wr) (fun i _ => m - (intOf i).toNat)
  case atStart => exact ⟨0, s.code, Nat.zero_le _, rfl, rfl, HO.out, hb1⟩
  case round =>
    obtain ⟨j, cj, hj, rfl, HRS, HOW, hbr⟩ := hrel
    have hszr := hbr.size
    by_cases h1 : j < m
    · obtain ⟨⟨ja, jl⟩, hjx⟩ : ∃ x, s.jmps[j]? = some x := ⟨_, List.getElem?_eq_getElem (by rw [← HM.out]; exact h1)⟩
      obtain ⟨tv, o, ci, r1, r2, r3, r4, r5, r6⟩ := rslv_at s.labs s.jmps s.code HF2.out j (ja, jl) hjx
      obtain rfl : ci = cj := by have := HRS.out; rw [r3] at this; injection this
      dsimp only at r1 r4 r5 r6
      obtain ⟨hja0, hjl0⟩ := HJ.out _ (List.mem_of_getElem? hjx)
      dsimp only at hja0 hjl0
      obtain ⟨jn, rfl⟩ : ∃ jn : Nat, ja = jn := ⟨ja.toNat, by omega⟩
      rw [Int.toNat_natCast] at r4 r5 r6
      have hcil : ci.length = q := by rw [rslv_len _ _ _ _ r3, ← HQ.out]
      have hjn : jn < q := by have := (List.getElem?_eq_some_iff.1 r4).1; omega
      obtain ⟨gj, oj, rfl, hgj, hcj⟩ := Rd.at_ (HRJ.out.below hbr) (by omega)
      obtain ⟨j1, j2⟩ := cellsJ_at s.jmps j _ hjx
      have e1 : wr.cell? ⟨gj, oj + j * 2, none⟩ = some (.int .i64 jn) := by rw [hcj _ (by omega), j1]
      have e2 : wr.cell? ⟨gj, oj + j * 2 + 1, none⟩ = some (.string ⟨jl.toArray⟩) := by rw [Nat.add_assoc, hcj _ (by omega), j2]; rfl
      obtain ⟨g, k9, hv9, hg0, hg1, _⟩ := own_some HOW.out (by omega)
      injection hv9 with hA1 _ hk9
      subst hA1
      subst hk9
      obtain ⟨kk, ka, kb, kc, kd⟩ := o
      have hco := fun i hi => cellsO_at ci jn i _ r4 hi
      have hcell := fun i (hi : i < 5) => (World.ownsRow.cellAt HOW.out (jn * 5 + i) (by omega)).trans (hco i hi)
      have g0 : wr.cell? ⟨g, jn * 5, none⟩ = some (.int .i64 kk) := hcell 0 (by omega)
      have g1 : wr.cell? ⟨g, jn * 5 + 1, none⟩ = some (.int .i64 ka) := hcell 1 (by omega)
      have g2 : wr.cell? ⟨g, jn * 5 + 2, none⟩ = some (.int .i64 kb) := hcell 2 (by omega)
      have fz := fun i => World.ownsRow.frozenAt HOW.out i
      have b2 : wr.cell? ⟨b, 2, none⟩ = some (.map (some lm)) := (hbr.cell hlt).trans c2
      have hltr : b < wr.heap.size := by omega
      have HMS := Lib.hid (show MS wr lm n s.labs from by
        obtain ⟨D, ⟨es, ck, hh, h1'⟩, h2⟩ := HB.out.labs
        exact ⟨D, ⟨es, ck, (hbr.block lm HB.out.labs.lt).trans hh, h1'⟩, h2⟩)
      have HR1 := Lib.hid r1
      have HR4 := Lib.hid r4
      have HR5 := Lib.hid r5
      clear r1 r2 r3 r4 r5 r6 hjx hco hcell hcj j1 j2 c0 c2 c3 c4 d3
      have bx := Box.new wr 128 [.int .i64 jn, .string ⟨jl.toArray⟩]
      go_wp2
      refine region_two [0, 1, 2, 3, 4, 5] [6, 7, 8, 9, 10, 11] (by kernel_rfl) (by kernel_rfl) ?_
      simp only [pick, List.map_cons, List.map_nil, List.getD_cons_zero, List.getD_cons_succ]
      have HM2 := Lib.hid (show MS (wr.alloc (Obj.cells #[.int .i64 jn, .string ⟨jl.toArray⟩] 128)).drew lm n s.labs from by
        obtain ⟨D, h1', h2'⟩ := HMS.out.kept (World.grownBy_alloc wr (Obj.cells #[.int .i64 jn, .string ⟨jl.toArray⟩] 128) none) (by simp)
        exact ⟨D, h1', h2'⟩)
      have hst := fun i u => (World.ownsRow.stored HOW.out i u).1.alloc (Obj.cells #[.int .i64 jn, .string ⟨jl.toArray⟩] 128)
      have hbl := fun i u => ((below_at hbr hg0 i u).alloc (by simp; exact hszr) (Obj.cells #[.int .i64 jn, .string ⟨jl.toArray⟩] 128)).drew
      have HST := Lib.hid hst
      have HBL := Lib.hid hbl
      clear hst hbl
      by_cases hk : kk = 10
      · subst hk
        go_wp2_with (refine wp_lookN rfl (.tmp 32) (.tmp 34) rfl lm n s.labs jl rfl HM2.out rfl hjl0 (some tv) HR1.out ?_)
        go_roundw
        case rel =>
          refine ⟨j + 1, ci.set jn ⟨10, tv, kb, kc, kd⟩, by omega, by go_num, ?_, ?_, HBL.out _ _⟩
          · refine Lib.hid ?_; have := HR5.out; simpa [tgt] using this
          · have h8 := HST.out (jn * 5 + 1) (.int .i64 tv)
            rw [cellsO_set ci jn 1 _ ⟨10, tv, kb, kc, kd⟩ HR4.out ⟨_, rfl⟩ (by omega) _ rfl] at h8
            exact Lib.hid h8
        case measure => simp [intOf]; omega
      · have hk' : (kk == 10) = false := by simpa using hk
        go_wp2_with (refine wp_lookN rfl (.tmp 32) (.tmp 34) rfl lm n s.labs jl rfl HM2.out rfl hjl0 (some tv) HR1.out ?_)
        go_roundw
        case rel =>
          refine ⟨j + 1, ci.set jn ⟨kk, ka, tv, kc, kd⟩, by omega, by go_num, ?_, ?_, HBL.out _ _⟩
          · refine Lib.hid ?_; have := HR5.out; simpa [tgt, hk] using this
          · have h8 := HST.out (jn * 5 + 2) (.int .i64 tv)
            rw [cellsO_set ci jn 2 _ ⟨kk, ka, tv, kc, kd⟩ HR4.out ⟨_, rfl⟩ (by omega) _ rfl] at h8
            exact Lib.hid h8
        case measure => simp [intOf]; omega
    · obtain rfl : j = m := by omega
      have hres := HRS.out
      rw [HM.out, List.take_length, HF2.out] at hres
      injection hres with hres
      subst hres
      have hcq : c.length = q := by rw [HCL.out, HQ.out]
      go_wp2_with fail
      refine (vm_May c A1 q k1 true _ wr.heap.size (HT.out.below hbr HT.out.lt) (Rd.of_own HOW.out) (Nat.le_refl _) (by omega) (by simp; exact HF3.out)).mono ?_
      rintro e w2 ⟨rfl, hb2⟩
      go_wp2
      go_ret2
      rw [hcq]
      exact ⟨_, rfl, own_below HOW.out hb2, hbr.trans (hb2.mono hszr)⟩
end Go.Proofs.YtnchgdjdfhfedaaDoor

set_option linter.unusedSimpArgs false
set_option linter.unusedVariables false
namespace Go.Baro
open Go.RowKit

/-- The call of a thread. -/
def clOf (m : Mc) (th cl : Nat) : Cl := ((m.ts[th]?.getD [])[cl]?).getD ⟨0, []⟩
/-- The key of a call. -/
def hK (d : Dg) : Int := 100 * d.th + d.cl
/-- A call as an operation: pf tells whether it puts, what, and whether it is told as it must be. -/
def hA1 (m : Mc) (pf : Cl → List Int → Bool → Bool × Int × Bool) (d : Dg) : Ac := if d.e = -1 then ⟨d.b, -1, false, 0, 0⟩ else ⟨d.b, d.e, (pf (clOf m d.th d.cl) d.to true).1, (pf (clOf m d.th d.cl) d.to true).2.1, 0⟩
def hA (m : Mc) (pf : Cl → List Int → Bool → Bool × Int × Bool) (d : Dg) : Ac := if d.e = -1 then ⟨d.b, -1, (pf (clOf m d.th d.cl) [] false).1, (pf (clOf m d.th d.cl) [] false).2.1, 0⟩ else hA1 m pf d
/-- What is asked of the events. -/
structure HistOk (m : Mc) (pf : Cl → List Int → Bool → Bool × Int × Bool) (G : Cl → Prop) (T : List Ev) : Prop where
  rng : ∀ x ∈ T, x.th < m.ts.length ∧ x.cl < (m.ts[x.th]?.getD []).length
  drng : ∀ j, ∀ d ∈ dgs (T.take j), d.th < m.ts.length ∧ d.cl < (m.ts[d.th]?.getD []).length
  uq : ∀ (j : Nat) (x : Ev), T[j]? = some x → x.en = true → ∀ d ∈ dgs (T.take j), d.th = x.th → d.cl = x.cl → d.e = -1
  okE : ∀ x ∈ T, x.en = true → (pf (clOf m x.th x.cl) x.to true).2.2 = true
  okO : ∀ d ∈ dgs T, d.e = -1 → (pf (clOf m d.th d.cl) [] false).2.2 = true
  good : ∀ t ∈ m.ts, ∀ c ∈ t, G c
theorem clOf_at {m : Mc} {t c : Nat} {l : List Cl} {x : Cl} (h1 : m.ts[t]? = some l) (h2 : l[c]? = some x) : clOf m t c = x := by simp [clOf, h1, h2]
/-- The calls of which the first k are ended by an event. -/
def finD (x : Ev) (k : Nat) (D : List Dg) : List Dg := (D.take k).map (fun d => d.fin x) ++ D.drop k
theorem finD_zero (x : Ev) (D : List Dg) : finD x 0 D = D := by simp [finD]
theorem finD_len (x : Ev) (k : Nat) (D : List Dg) : (finD x k D).length = D.length := by simp [finD]; omega
theorem finD_all {x : Ev} {k : Nat} {D : List Dg} (h : D.length ≤ k) : finD x k D = D.map (fun d => d.fin x) := by
  unfold finD
  rw [List.take_of_length_le h, List.drop_eq_nil_of_le h, List.append_nil]
theorem finD_at {x : Ev} {k : Nat} {D : List Dg} : (finD x k D)[k]? = D[k]? := by
  unfold finD
  by_cases h : k ≤ D.length
  · rw [List.getElem?_append_right (by simp; omega)]
    simp
    rw [show k - min k D.length = 0 by omega, Nat.add_zero]
  · rw [List.getElem?_eq_none (by simp; omega), List.getElem?_eq_none (by omega)]
theorem finD_succ {x : Ev} {k : Nat} {D : List Dg} {d : Dg} (hp : D[k]? = some d) : finD x (k + 1) D = (finD x k D).set k (d.fin x) := by
  have hk := (List.getElem?_eq_some_iff.1 hp).1
  unfold finD
  rw [List.take_add_one, hp, Option.toList_some, List.map_append, List.map_singleton, List.append_assoc, List.drop_eq_getElem_cons hk, List.set_append_right _ _ (by simp; omega), show k - ((D.take k).map (fun d => d.fin x)).length = 0 by simp; omega]
  rfl
theorem finD_skip {x : Ev} {k : Nat} {D : List Dg} {d : Dg} (hp : D[k]? = some d) (h : ¬ d.is x) : finD x (k + 1) D = finD x k D := by
  rw [finD_succ hp]
  unfold Dg.fin
  rw [if_neg h]
  have hk := (List.getElem?_eq_some_iff.1 hp).1
  apply List.ext_getElem?
  intro j
  by_cases hj : k = j
  · subst hj
    rw [List.getElem?_set_self (by rw [finD_len]; exact hk), finD_at, hp]
  · rw [List.getElem?_set_ne hj]
theorem flat_ac : ∀ (L : List Ac) (k : Nat) (a : Ac) (e v : Int) (p : Bool), L[k]? = some a → (((L.flatMap acV).set (k * 5 + 1) (.int .i64 e)).set (k * 5 + 2) (.bool p)).set (k * 5 + 3) (.int .i64 v) = (L.set k ⟨a.b, e, p, v, a.add⟩).flatMap acV
  | [], k, a, e, v, p, h => by simp at h
  | b :: L, 0, a, e, v, p, h => by
    simp only [List.getElem?_cons_zero, Option.some.injEq] at h
    subst h
    simp [acV]
  | b :: L, k + 1, a, e, v, p, h => by
    have ih := flat_ac L k a e v p (by simpa using h)
    rw [List.flatMap_cons, List.set_cons_succ, List.flatMap_cons, ← ih, show (k + 1) * 5 + 1 = k * 5 + 1 + 5 by omega, show (k + 1) * 5 + 2 = k * 5 + 2 + 5 by omega, show (k + 1) * 5 + 3 = k * 5 + 3 + 5 by omega]
    simp [acV]
/-- Operations of the call's own. -/
def OwnA (w : World) (B : Nat) (e : TypeId) (v : Value) (n : Nat) (L : List Ac) : Prop := w.ownsRow B e 5 v n (L.flatMap acV)
section
variable {w : World} {B n : Nat} {e : TypeId} {L : List Ac}
theorem OwnA.len {v : Value} (h : OwnA w B e v n L) : L.length = n := by have := h.1; rw [flatMap_len acV_len] at this; omega
theorem OwnA.val {g c : Nat} (h : OwnA w B e (.slice (some ⟨g, 0, none⟩) n c) n L) {i : Nat} (hi : i < n) {a : Ac} (ha : L[i]? = some a) : w.cell? ⟨g, i * 5, none⟩ = some (.int .i64 a.b) ∧ w.cell? ⟨g, i * 5 + 1, none⟩ = some (.int .i64 a.e) ∧ w.cell? ⟨g, i * 5 + 2, none⟩ = some (.bool a.put) ∧ w.cell? ⟨g, i * 5 + 3, none⟩ = some (.int .i64 a.v) ∧
    ∀ j, w.frozen? ⟨g, j, none⟩ = false := by
  have key : ∀ j, j < 5 → w.cell? ⟨g, i * 5 + j, none⟩ = (acV a)[j]? := fun j hj => by
    rw [World.ownsRow.cellAt h _ (by omega), flatMap_at acV_len L i j _ ha hj]
  exact ⟨key 0 (by omega), key 1 (by omega), key 2 (by omega), key 3 (by omega), fun j => World.ownsRow.frozenAt h j⟩
theorem OwnA.put {g c : Nat} (h : OwnA w B e (.slice (some ⟨g, 0, none⟩) n c) n L) (i : Nat) (u : Value) : (w.setCell ⟨g, i, none⟩ u).ownsRow B e 5 (.slice (some ⟨g, 0, none⟩) n c) n ((L.flatMap acV).set i u) := (World.ownsRow.stored h i u).1
end
end Go.Baro

set_option linter.unusedSimpArgs false
set_option linter.unusedVariables false
namespace Go.Baro
open Go.RowKit (wrap64)

/-- A word. -/
def rd (w : List Int) (n : Nat) : Int := w[n]?.getD 0
theorem rd_set {w : List Int} {n m : Nat} {v : Int} (h : n < w.length) : rd (w.set n v) m = if m = n then v else rd w m := by
  unfold rd
  rw [List.getElem?_set]
  by_cases hm : n = m
  · subst hm; simp [h]
  · rw [if_neg hm, if_neg (fun e => hm e.symm)]
theorem rd_same {w : List Int} {n : Nat} {v : Int} (h : n < w.length) : rd (w.set n v) n = v := by rw [rd_set h, if_pos rfl]
theorem rd_other {w : List Int} {n m : Nat} {v : Int} (h : m ≠ n) : rd (w.set n v) m = rd w m := by
  unfold rd
  rw [List.getElem?_set_ne (fun e => h e.symm)]
theorem at_rd {w : List Int} {n : Nat} (h : n < w.length) : w[n]? = some (rd w n) := by simp [rd, h]
theorem wrap_id {x : Int} (h : -9223372036854775808 ≤ x ∧ x ≤ 9223372036854775807) : wrap64 x = x := by unfold wrap64; omega

/-- A run under one more step. -/
theorem ply_snoc (m : Mc) (S : List Nat) (n : Nat) (g : Gs) : plyG m 0 (S ++ [n]) g = actG m (plyG m 0 S g) S.length n := by
  rw [plyG_append]
  simp [plyG]
/-- What holds of a run behind each part of its schedule. -/
theorem plyG_indS {m : Mc} {I : List Nat → Gs → Prop} {A : Nat → Prop} (h0 : I [] (g0 m)) (hs : ∀ S g n, A n → I S g → I (S ++ [n]) (actG m g S.length n)) : ∀ (S : List Nat), (∀ n ∈ S, A n) → I S (plyG m 0 S (g0 m)) := by
  suffices h : ∀ (k : Nat) (S : List Nat), S.length = k → (∀ n ∈ S, A n) → I S (plyG m 0 S (g0 m)) from fun S => h S.length S rfl
  intro k
  induction k with
  | zero => intro S hS _; obtain rfl := List.eq_nil_of_length_eq_zero hS; exact h0
  | succ k ih =>
    intro S hS hA
    obtain ⟨T, n, rfl⟩ : ∃ T n, S = T ++ [n] := ⟨S.dropLast, S.getLast (by rintro rfl; simp at hS), (List.dropLast_concat_getLast _).symm⟩
    rw [ply_snoc]
    exact hs T _ n (hA n (by simp)) (ih T (by simp at hS; exact hS) (fun x hx => hA x (by simp [hx])))

/-- A step of a call without an error. -/
def Nx (c : List Ins) (p : Nat) (r : Int → Int) (t w : List Int) (p' : Nat) (r' : Int → Int) (t' w' : List Int) : Prop :=
  exc ⟨c, p, r, t⟩ w = (⟨c, p', r', t'⟩, w', 0, decide (p' = c.length))
section
variable {c : List Ins} {p : Nat} {r : Int → Int} {t w : List Int} {a b k e : Int}
theorem nx_of {o : Ins} {p' : Nat} {r' : Int → Int} {t' w' : List Int} (h : c[p]? = some o) (hs : stp c.length o ⟨p, r, w, t⟩ = (⟨p', r', w', t'⟩, 0)) : Nx c p r t w p' r' t' w' := by
  have hp := (List.getElem?_eq_some_iff.1 h).1
  unfold Nx exc
  rw [if_neg (by dsimp only; omega)]
  dsimp only
  rw [Int.toNat_natCast, h, Option.getD_some, hs]
  have : decide (((0 : Int) ≠ 0) ∨ ((p' : Int) = (c.length : Int))) = decide (p' = c.length) := by
    by_cases hq : p' = c.length
    · simp [hq]
    · have : ¬ ((p' : Int) = (c.length : Int)) := by omega
      simp [hq, this]
  rw [this]
theorem nx_set (h : c[p]? = some ⟨1, a, b, 0, 0⟩) : Nx c p r t w (p + 1) (upd r a b) t w := nx_of h (by rw [stp_1]; simp)
theorem nx_copy (h : c[p]? = some ⟨2, a, b, 0, 0⟩) : Nx c p r t w (p + 1) (upd r a (r b)) t w := nx_of h (by rw [stp_2]; simp)
theorem nx_cmp {o : Int} (h : c[p]? = some ⟨o, a, b, k, 0⟩) (ho : 3 ≤ o ∧ o ≤ 9) : Nx c p r t w (p + 1) (upd r a (cmpV o (r b) (r k))) t w := nx_of h (by rw [stp_cmp ho]; simp)
theorem nx_add {v : Int} (h : c[p]? = some ⟨3, a, b, k, 0⟩) (hv : wrap64 (r b + r k) = v) : Nx c p r t w (p + 1) (upd r a v) t w := by
  have := nx_cmp (r := r) (t := t) (w := w) h (by omega)
  rwa [show cmpV 3 (r b) (r k) = v by simp [cmpV, hv]] at this
theorem nx_jump {q : Nat} (h : c[p]? = some ⟨10, q, 0, 0, 0⟩) : Nx c p r t w q r t w := nx_of h (by rw [stp_10])
theorem nx_whenN {q : Nat} (h : c[p]? = some ⟨11, a, q, 0, 0⟩) (hr : r a ≠ 0) : Nx c p r t w q r t w := nx_of h (by rw [stp_11]; simp [hr])
theorem nx_whenZ {q : Int} (h : c[p]? = some ⟨11, a, q, 0, 0⟩) (hr : r a = 0) : Nx c p r t w (p + 1) r t w := nx_of h (by rw [stp_11]; simp [hr])
theorem nx_unlZ {q : Nat} (h : c[p]? = some ⟨12, a, q, 0, 0⟩) (hr : r a = 0) : Nx c p r t w q r t w := nx_of h (by rw [stp_12]; simp [hr])
theorem nx_unlN {q : Int} (h : c[p]? = some ⟨12, a, q, 0, 0⟩) (hr : r a ≠ 0) : Nx c p r t w (p + 1) r t w := nx_of h (by rw [stp_12]; simp [hr])
theorem nx_load {q : Nat} (h : c[p]? = some ⟨13, a, b, k, 0⟩) (hq : wrap64 (r b + k) = q) (hl : q < w.length) : Nx c p r t w (p + 1) (upd r a (rd w q)) t w := nx_of h (by rw [stp_13 hq (at_rd hl)]; simp)
theorem nx_store {q : Nat} (h : c[p]? = some ⟨14, a, b, k, 0⟩) (hq : wrap64 (r b + k) = q) (hl : q < w.length) : Nx c p r t w (p + 1) r t (w.set q (r a)) := nx_of h (by rw [stp_14 hq hl]; simp)
theorem nx_casT {q : Nat} (h : c[p]? = some ⟨15, a, b, k, e⟩) (hq : wrap64 (r b + k) = q) (hl : q < w.length) (hx : rd w q = r e) : Nx c p r t w (p + 1) (upd r a 1) t (w.set q (r a)) := nx_of h (by rw [stp_15t hq (at_rd hl) hx]; simp)
theorem nx_casF {q : Nat} (h : c[p]? = some ⟨15, a, b, k, e⟩) (hq : wrap64 (r b + k) = q) (hl : q < w.length) (hx : rd w q ≠ r e) : Nx c p r t w (p + 1) (upd r a 0) t w := nx_of h (by rw [stp_15f hq (at_rd hl) hx]; simp)
theorem nx_emit (h : c[p]? = some ⟨16, a, 0, 0, 0⟩) (ht : t.length < 200) : Nx c p r t w (p + 1) r (t ++ [r a]) w := nx_of h (by rw [stp_16, if_neg (by dsimp only; omega)]; simp)
theorem nx_stop (h : c[p]? = some ⟨17, 0, 0, 0, 0⟩) : Nx c p r t w c.length r t w := nx_of h (by rw [stp_17])
/-- What a step without an error leads to. -/
theorem exG_nx {g : Gs} {st n : Nat} {p' : Nat} {r' : Int → Int} {t' w' : List Int} (hn : (g.th n).now = some ⟨c, p, r, t⟩) (h : Nx c p r t g.w p' r' t' w') :
    exG g st n = if p' = c.length then ⟨w', putT g.th n ⟨none, (g.th n).bg⟩, g.out ++ [⟨st, n, (g.th n).bg - 1, true, 0, t'⟩]⟩ else ⟨w', putT g.th n ⟨some ⟨c, p', r', t'⟩, (g.th n).bg⟩, g.out⟩ := by
  have hq : (exc ⟨c, p, r, t⟩ g.w).2.2.2 = decide (p' = c.length) := by rw [h]
  by_cases hp : p' = c.length
  · rw [if_pos hp, exG_end hn (by rw [hq]; simp [hp]), h]
  · rw [if_neg hp, exG_go hn (by rw [hq]; simp [hp]), h]
end

/-- The steps of a call so far: k of a thread's open call; no call takes more than B of its thread's. -/
def Cnt (S : List Nat) (g : Gs) (k : Nat → Nat) (B : Nat → Nat) : Prop := ∀ x ∈ dgs g.out, x.b ≤ S.length ∧ (x.e = -1 → (S.drop x.b).count x.th = k x.th) ∧ (x.e ≠ -1 → x.e + 1 ≤ S.length ∧ ((S.take (x.e + 1).toNat).drop x.b).count x.th ≤ B x.th)
def upN (f : Nat → Nat) (n v : Nat) : Nat → Nat := fun i => if i = n then v else f i
theorem upN_same (f : Nat → Nat) (n v : Nat) : upN f n v n = v := by simp [upN]
theorem upN_other (f : Nat → Nat) {n i : Nat} (v : Nat) (h : i ≠ n) : upN f n v i = f i := by simp [upN, h]
theorem cnt_zero (m : Mc) (k B : Nat → Nat) : Cnt [] (g0 m) k B := by intro x hx; simp [g0, dgs] at hx
/-- A call begins. -/
theorem cnt_begin {m : Mc} {S : List Nat} {g : Gs} {k B : Nat → Nat} {n : Nat} {c : Cl} (h : Cnt S g k B) (hs : Hs S.length S.length g) (hn : (g.th n).now = none) {T : Nat → Td} {w : List Int} :
    Cnt S ⟨w, T, g.out ++ [⟨S.length, n, (g.th n).bg, false, 0, []⟩]⟩ (upN k n 0) B := by
  intro x hx
  rw [show dgs (g.out ++ [⟨S.length, n, (g.th n).bg, false, 0, []⟩]) = dgs g.out ++ [⟨S.length, -1, n, (g.th n).bg, []⟩] by rw [dgs_snoc, dg1_begin _ _ rfl]] at hx
  rcases List.mem_append.1 hx with hx | hx
  · obtain ⟨h1, h2, h3⟩ := h x hx
    refine ⟨h1, fun he => ?_, h3⟩
    have ho := ((hs.opn x hx).1 he).1
    rw [upN_other _ _ (by rintro e; rw [e] at ho; exact ho hn)]
    exact h2 he
  · rw [List.mem_singleton.1 hx]
    refine ⟨Nat.le_refl _, fun _ => ?_, fun h => absurd rfl h⟩
    dsimp only
    rw [upN_same, List.drop_eq_nil_of_le (Nat.le_refl _)]
    rfl
/-- The step counts for the thread's open call. -/
theorem cnt_go {S : List Nat} {g g' : Gs} {k B : Nat → Nat} {n : Nat} (h : Cnt S g k B) (ho : g'.out = g.out) : Cnt (S ++ [n]) g' (upN k n (k n + 1)) B := by
  intro x hx
  rw [ho] at hx
  obtain ⟨h1, h2, h3⟩ := h x hx
  refine ⟨by rw [List.length_append]; omega, fun he => ?_, fun he => ?_⟩
  · rw [List.drop_append_of_le_length h1, List.count_append, h2 he]
    by_cases hx : x.th = n
    · rw [hx, upN_same]; simp
    · rw [upN_other _ _ hx, List.count_singleton]
      have hx' : ¬ n = x.th := fun e => hx e.symm
      simp [hx']
  · obtain ⟨h4, h5⟩ := h3 he
    refine ⟨by rw [List.length_append]; omega, ?_⟩
    rw [List.take_append_of_le_length (by omega)]
    exact h5
/-- The step ends the thread's call. -/
theorem cnt_end {S : List Nat} {g g' : Gs} {k B : Nat → Nat} {n : Nat} {x : Ev} (h : Cnt S g k B) (ho : g'.out = g.out ++ [x]) (he : x.en = true) (hs : x.st = S.length) (ht : x.th = n) (hk : k n + 1 ≤ B n)
    (hopn : ∀ d ∈ dgs g.out, d.e = -1 → d.th = n → d.is x) : Cnt (S ++ [n]) g' (upN k n (k n + 1)) B := by
  intro y hy
  rw [ho, dgs_snoc, dg1_end _ _ he] at hy
  obtain ⟨d, hd, q1, q2, q3, ⟨q4, q5, q6⟩ | ⟨q4, rfl⟩⟩ := fin_mem hy
  · obtain ⟨h1, h2, h3⟩ := h d hd
    have hde : d.e = -1 := q4.2.2
    have hdt : d.th = n := by rw [q4.1, ht]
    rw [q1, q2, q5, hs]
    refine ⟨by rw [List.length_append]; omega, fun h => by omega, fun _ => ⟨by rw [List.length_append, List.length_singleton]; omega, ?_⟩⟩
    rw [show ((S.length : Int) + 1).toNat = (S ++ [n]).length by rw [List.length_append, List.length_singleton]; omega, List.take_length, List.drop_append_of_le_length h1, List.count_append, h2 hde, hdt]
    simpa using hk
  · obtain ⟨h1, h2, h3⟩ := h y hd
    refine ⟨by rw [List.length_append]; omega, fun he => ?_, fun he => ?_⟩
    · have hx : y.th ≠ n := fun e => q4 (hopn y hd he e)
      rw [List.drop_append_of_le_length h1, List.count_append, h2 he, upN_other _ _ hx, List.count_singleton]
      have hx' : ¬ n = y.th := fun e => hx e.symm
      simp [hx']
    · obtain ⟨h4, h5⟩ := h3 he
      refine ⟨by rw [List.length_append]; omega, ?_⟩
      rw [List.take_append_of_le_length (by omega)]
      exact h5
/-- The calls behind an end: all but the one that has ended are as they were. -/
theorem dgs_end {g : Gs} {sb se n : Nat} {x : Ev} (hs : Hs sb se g) (hn : (g.th n).now ≠ none) (he : x.en = true) (ht : x.th = n) (hc : x.cl = (g.th n).bg - 1) :
    ∃ o ∈ dgs g.out, o.th = n ∧ o.cl = (g.th n).bg - 1 ∧ o.e = -1 ∧ (∀ y ∈ dgs g.out, y.e = -1 → y.th = n → y = o ∧ y.is x) ∧
      (∀ y ∈ dgs (g.out ++ [x]), (y ∈ dgs g.out ∧ y ≠ o ∧ ¬ (y.th = n ∧ y.cl = (g.th n).bg - 1)) ∨ y = ⟨o.b, x.st, n, (g.th n).bg - 1, x.to⟩) ∧
      (∀ y ∈ dgs g.out, y ≠ o → y ∈ dgs (g.out ++ [x])) ∧ ⟨o.b, x.st, n, (g.th n).bg - 1, x.to⟩ ∈ dgs (g.out ++ [x]) := by
  obtain ⟨o, ho, h1, h2, h3, h4⟩ := hs.live hn
  have hu : ∀ y ∈ dgs g.out, y.e = -1 → y.th = n → y = o := fun y hy he hyn => hs.one y hy o ho (by rw [hyn, h1]) (by
    have := ((hs.opn y hy).1 he).2
    rw [hyn] at this; omega)
  have hiso : o.is x := ⟨by rw [h1, ht], by rw [h2, hc], h3⟩
  have hD : dgs (g.out ++ [x]) = (dgs g.out).map (fun d => d.fin x) := by rw [dgs_snoc, dg1_end _ _ he]
  have hfo : o.fin x = ⟨o.b, x.st, n, (g.th n).bg - 1, x.to⟩ := by unfold Dg.fin; rw [if_pos hiso, h1, h2]
  refine ⟨o, ho, h1, h2, h3, fun y hy he' hyn => ⟨hu y hy he' hyn, by rw [hu y hy he' hyn]; exact hiso⟩, fun y hy => ?_, fun y hy hne => ?_, ?_⟩
  · rw [hD] at hy
    obtain ⟨d, hd, rfl⟩ := List.mem_map.1 hy
    by_cases hdo : d = o
    · subst hdo; exact .inr hfo
    · have hnis : ¬ d.is x := fun hi => hdo (hu d hd hi.2.2 (by rw [hi.1, ht]))
      have : d.fin x = d := by unfold Dg.fin; rw [if_neg hnis]
      rw [this]
      exact .inl ⟨hd, hdo, fun hh => hdo (hs.one d hd o ho (by rw [hh.1, h1]) (by rw [hh.2, h2]))⟩
  · rw [hD]
    refine List.mem_map.2 ⟨y, hy, ?_⟩
    unfold Dg.fin
    rw [if_neg]
    intro hi
    exact hne (hu y hy hi.2.2 (by rw [hi.1, ht]))
  · rw [hD]; exact List.mem_map.2 ⟨o, ho, hfo⟩
/-- The calls behind a beginning. -/
theorem dgs_begin (g : Gs) (st n c : Nat) : dgs (g.out ++ [⟨st, n, c, false, 0, []⟩]) = dgs g.out ++ [⟨st, -1, n, c, []⟩] := by rw [dgs_snoc, dg1_begin _ _ rfl]
end Go.Baro
