/- Of this claim's own texts these, one behind the other: Vm5S, VmClone, Vm6. No statement of the seat is proved here; no condition but those that stand at the theorems. -/
import Derived.Test.YtjihopbapnfppaaDoorPartAT
import Derived.Laws.CopyOwn
set_option linter.unusedSimpArgs false
set_option linter.unusedVariables false
namespace Go.Proofs.YtjihopbapnfppaaDoor
open Go.RowKit Go.Ord Go.Baro

/-- One call behind another, where what was told has come to lie in a new block. -/
theorem un_next {b mb : Nat} {tv tv2 wv : Value} {w w2 w3 : World} (h : Un (touch b mb tv wv) w w2) (k : Un (touch b mb tv2 wv) w2 w3) (hb : tv2.ownBlock = tv.ownBlock ∨ ∃ k, tv2.ownBlock = some k ∧ w.heap.size ≤ k) : Un (touch b mb tv wv) w w3 := by
  refine ⟨k.os.trans h.os, k.tape.trans h.tape, k.output.trans h.output, Nat.le_trans h.size k.size, fun i hi hx => (k.block i (Nat.lt_of_lt_of_le hi h.size) fun ht => hx ?_).trans (h.block i hi hx)⟩
  rcases ht with ht | ht | ht | ht
  · exact .inl ht
  · exact .inr (.inl ht)
  · rcases hb with hb | ⟨q, hq, hs⟩
    · exact .inr (.inr (.inl (hb ▸ ht)))
    · rw [hq] at ht; injection ht with ht; omega
  · exact .inr (.inr (.inr ht))

set_option maxRecDepth 100000 in
set_option maxHeartbeats 4000000 in
theorem vm_Stepo (T : TypeId) (pre post : List Value) (oo : Nat) (w : World) (B Bc b n cc wn wc : Nat) (cA wA : Option Addr) (tv : Value) (l : List Ins) (s s' : Vs) (o : Ins) (E : Int) (h : ToV T pre post w B b oo (.slice cA n cc) tv (.slice wA wn wc) s) (hBs : B ≤ w.heap.size)
    (hc : RO w Bc cA n l) (hBc : Bc ≤ w.heap.size) (hp : s.p < n) (hn : n ≤ 200) (hok : Ok n s) (hx : l[s.p.toNat]? = some o) (ho : okI n o) (hs : stp n o s = (s', E)) :
    Calls Tryd.prog 40 #[.pointer (some ⟨b, oo, none⟩), .slice wA wn wc] w (StPostO T pre post B b oo (.slice cA n cc) tv (.slice wA wn wc) (aft n E s') E w) := by
  obtain ⟨p', r, ws, t⟩ := s
  have q1 := hok.lo
  dsimp only at q1 hp hx
  obtain ⟨p, rfl⟩ : ∃ p : Nat, p' = p := ⟨p'.toNat, by omega⟩
  rw [Int.toNat_natCast] at hx
  have hpn : p < n := by omega
  have h0 : Un (touch b b tv (.slice wA wn wc)) w w := Un.refl _ _
  have HTH := Lib.hid h
  have HOK := Lib.hid hok
  have HO := Lib.hid ho
  have HS := Lib.hid hs
  have HC := Lib.hid hc
  have HXX := Lib.hid hx
  have hv : ((p : Int) == (n : Int)) = false := by simp; omega
  clear h hok ho hs hc hx
  go_enter Tryd.func40, Tryd.ntmps40
  go_wp2_with fail
  refine (vm_endedo T pre post oo w B b n cc _ tv _ ⟨p, r, ws, t⟩ false HTH.out (by simp; omega)).mono ?_
  rintro e w1 ⟨rfl, hw1⟩
  have h1 : ToV T pre post w1 B b oo (.slice cA n cc) tv (.slice wA wn wc) ⟨p, r, ws, t⟩ := by rw [hw1]; exact HTH.out.drewN 1
  have hc1 : RO w1 Bc cA n l := by rw [hw1]; exact HC.out.heap rfl
  have hu1 : Un (touch b b tv (.slice wA wn wc)) w w1 := by rw [hw1]; exact h0.drewN 1
  have hsz1 : w1.heap.size ≤ w.heap.size := by rw [hw1]; exact Nat.le_refl _
  have hsz2 : w.heap.size ≤ w1.heap.size := by rw [hw1]; exact Nat.le_refl _
  clear hw1 h0
  obtain ⟨bc, oc, k0, x0, y0, z0, u0, rfl, hbc, c0, c1, c2, c3, c4, HX, hmem⟩ := hc1.val hpn
  have hX := HX.out
  rw [HXX.out] at hX
  simp only [Option.some.injEq] at hX
  subst hX
  clear HX hmem hc1
  have hlt := h1.lt
  have hcs : bc < w1.heap.size := by omega
  have t0 := h1.code
  have t1 := h1.at_
  dsimp only at t1
  have f1 := h1.box.frozen (oo + 1)
  have HT1 := Lib.hid h1
  clear h1
  go_wp2
  refine region_first [0, 1, 2, 3, 4, 5, 6, 7, 8, 9] (.cons 10 (seq [11] .nil)) (by kernel_rfl) (by kernel_rfl) ?_
  simp only [pick, List.map_cons, List.map_nil, List.getD_cons_zero, List.getD_cons_succ]
  go_wp2
  refine ord_call (by kernel_rfl) ?_
  simp only [pick, List.map_cons, List.map_nil, List.getD_cons_zero, List.getD_cons_succ]
  go_wp2
  refine ⟨(((Below.refl w1.heap.size w1).alloc (Nat.le_refl _) _).drew).block, ?_⟩
  refine ord_last [11] (by kernel_rfl) ?_
  simp only [pick, List.map_cons, List.map_nil, List.getD_cons_zero, List.getD_cons_succ]
  go_wp2_with fail
  refine (vm_execo T pre post oo _ B b n cc wn wc _ wA tv ⟨p, r, ws, t⟩ s' k0 x0 y0 z0 u0 E (by exact ((HT1.out.next (p + 1)).alloc _).drew) (by simp; omega) HOK.out HO.out HS.out).mono ?_
  rintro e w2 ⟨rfl, ⟨tv2, hth2, hbk⟩, hb2⟩
  have hbk' : tv2.ownBlock = tv.ownBlock ∨ ∃ k, tv2.ownBlock = some k ∧ w.heap.size ≤ k := hbk.imp id (fun ⟨k, e, hk⟩ => ⟨k, e, by simp at hk; omega⟩)
  have hu2 : Un (touch b b tv (.slice wA wn wc)) w w2 := ((un_at hu1 touch_b _ _).alloc _).drew.trans hb2
  by_cases hE : E = 0
  · subst hE
    go_wp2
    go_ret
    exact ⟨rfl, ⟨tv2, hth2, hbk'⟩, hu2⟩
  · have hv2 : (E != 0) = true := by simp [hE]
    have HE := Lib.hid hE
    clear hE
    go_wp2_with fail
    refine (vm_endo T pre post oo _ B b n cc _ tv2 _ s' hth2).mono ?_
    rintro e w3 ⟨rfl, hth3, hb3⟩
    go_wp2
    go_ret
    refine ⟨rfl, ⟨tv2, by rw [aft_err HE.out]; exact hth3, hbk'⟩, un_next hu2 hb3 hbk'⟩
/-- A step of a thread within a call, its code valid: what it does of itself. -/
theorem vm_Stepx (T : TypeId) (pre post : List Value) (oo : Nat) (w : World) (B Bc b n cc wn wc : Nat) (cA wA : Option Addr) (tv : Value) (L L' : Lv) (ws W' : List Int) (E : Int) (en : Bool) (h : ToV T pre post w B b oo (.slice cA n cc) tv (.slice wA wn wc) ⟨L.p, L.r, ws, L.t⟩) (hBs : B ≤ w.heap.size)
    (hc : RO w Bc cA n L.c) (hBc : Bc ≤ w.heap.size) (hok : okC L.c) (hl : LOk L) (hw : WOk ws) (hx : exc L ws = (L', W', E, en)) :
    Calls Tryd.prog 40 #[.pointer (some ⟨b, oo, none⟩), .slice wA wn wc] w fun e w' => ∃ q : Int, StPostO T pre post B b oo (.slice cA n cc) tv (.slice wA wn wc) ⟨q, L'.r, W', L'.t⟩ E w e w' ∧ (en = true ↔ q = n) ∧ (en = false → q = L'.p ∧ L'.c = L.c) := by
  have hlen := hc.len
  by_cases hp : L.p = L.c.length
  · rw [exc_none hp] at hx
    simp only [Prod.mk.injEq] at hx
    obtain ⟨rfl, rfl, rfl, rfl⟩ := hx
    have h0 : Un (touch b b tv (.slice wA wn wc)) w w := Un.refl _ _
    have HTH := Lib.hid h
    have hpn : L.p = n := by omega
    have HP := Lib.hid hpn
    clear h hp hpn
    go_enter Tryd.func40, Tryd.ntmps40
    go_wp2_with fail
    refine (vm_endedo T pre post oo w B b n cc _ tv _ ⟨L.p, L.r, ws, L.t⟩ true HTH.out (by simp; exact HP.out)).mono ?_
    rintro e w1 ⟨rfl, rfl⟩
    go_wp2
    go_ret
    exact ⟨L.p, ⟨rfl, ⟨tv, HTH.out.drewN 1, .inl rfl⟩, h0.drewN 1⟩, by simp; exact HP.out, by simp⟩
  · have hlt : L.p < L.c.length := by have := hl.2.1; omega
    have hlo := hl.1
    have hn : L.p.toNat < L.c.length := by omega
    obtain ⟨o, ho⟩ : ∃ o, L.c[L.p.toNat]? = some o := ⟨_, List.getElem?_eq_getElem hn⟩
    obtain ⟨s', E', hs⟩ : ∃ s' E', stp L.c.length o ⟨L.p, L.r, ws, L.t⟩ = (s', E') := ⟨_, _, rfl⟩
    rw [exc_stp hlt ho hs] at hx
    simp only [Prod.mk.injEq] at hx
    obtain ⟨rfl, rfl, rfl, rfl⟩ := hx
    refine (vm_Stepo T pre post oo w B Bc b n cc wn wc cA wA tv L.c ⟨L.p, L.r, ws, L.t⟩ s' o E' h hBs hc hBc (by dsimp only; omega) (by have := hok.1; omega) (by rw [← hlen]; exact ok_of hl hw) ho (by rw [← hlen]; exact hok.2 o (List.mem_of_getElem? ho)) (by rw [← hlen]; exact hs)).mono ?_
    intro e w' hP
    refine ⟨if E' = 0 then s'.p else n, hP, ?_, ?_⟩
    · rw [hlen]
      by_cases hE : E' = 0
      · simp [hE]
      · simp [hE]
    · intro hf
      simp at hf
      simp [hf.1]
end Go.Proofs.YtjihopbapnfppaaDoor

set_option linter.unusedSimpArgs false
set_option linter.unusedVariables false
namespace Go.Proofs.YtjihopbapnfppaaDoor
open Go.RowKit Go.Ord Go.Baro

theorem run_eql_nilS {P : Program} (w : World) (t e : TypeId) (a : Option Addr) (l c : Nat) (h : P.underlying t = some (.slice e)) : (binOp .eql t (.slice a l c) (.slice none 0 0)).run P w = .ok (.bool a.isNone) w := by
  simp only [binOp]
  simp [run_equal_slice_nil w t e a l c h]
theorem eltOpC : Elt Tryd.prog 22 37 (.agg #[.int .i64 0, .int .i64 0, .int .i64 0, .int .i64 0, .int .i64 0]) 5 40 := Elt.mk' Tryd.underlying22 (by kernel_rfl) rfl (by decide)
theorem cellsO_one (l : List Ins) : ∀ v ∈ cellsO l, v.oneCell' = true := by
  intro v hv
  simp only [cellsO, insV, List.mem_flatMap, List.mem_cons, List.not_mem_nil, or_false] at hv
  obtain ⟨o, _, h⟩ := hv
  rcases h with rfl | rfl | rfl | rfl | rfl <;> rfl

set_option maxHeartbeats 1000000 in
theorem slices_CloneO (l : List Ins) (A : Option Addr) (n c B : Nat) (w : World) (hb : RO w B A n l) (hB : B ≤ w.heap.size) (hn : n ≤ 200) :
    Calls Tryd.prog 49 #[.slice A n c] w fun e w' => ∃ v, e = .returned v ∧ w'.ownsRow w.heap.size 37 5 v n (cellsO l) ∧ Below w.heap.size w w' := by
  have HL := Lib.hid hb.len
  cases A with
  | none =>
    have hn0 : n = 0 := by
      rcases Nat.eq_zero_or_pos n with h0 | h0
      · exact h0
      · obtain ⟨b, q, hA, _⟩ := Rd.at_ hb h0; cases hA
    subst hn0
    have hl : l = [] := List.eq_nil_of_length_eq_zero HL.out
    subst hl
    have hnil := run_eql_nilS w _ _ none 0 c Tryd.underlying22
    go_enter Tryd.func49, Tryd.ntmps49
    go_wp2
    go_ret
    exact ⟨_, rfl, World.ownsRow_nil _ _ _ _, Below.refl _ _⟩
  | some ad =>
    have hnil := run_eql_nilS w _ _ (some ad) n c Tryd.underlying22
    go_enter Tryd.func49, Tryd.ntmps49
    go_wp2_with (at_builtin; go_must (refine app_src eltOpC _ rfl _ _ rfl w.heap.size _ 0 [] rfl (World.ownsRow_lit w #[] 0 (Nat.le_refl _) (by unfold maxLen; omega) rfl) (some ad) n c (cellsO l) rfl _ (RO.below hb ((Below.refl _ _).alloc (by omega) _)) (cellsO_one _) (by omega) (by omega) (by simp) ?_); intro v3 w3 hown3 hgr3 hbel3 _)
    go_ret
    refine ⟨_, rfl, ?_, hbel3 _ ((Below.refl _ _).alloc (Nat.le_refl _) _)⟩
    simpa using hown3

set_option maxHeartbeats 1000000 in
theorem slices_CloneI (l : List Int) (A : Option Addr) (n c B : Nat) (w : World) (hb : RI w B .i64 A n l) (hB : B ≤ w.heap.size) (hn : n ≤ 200) :
    Calls Tryd.prog 46 #[.slice A n c] w fun e w' => ∃ v, e = .returned v ∧ w'.ownsRow w.heap.size 3 1 v n (l.map (Value.int .i64)) ∧ Below w.heap.size w w' := by
  have HL := Lib.hid hb.len
  cases A with
  | none =>
    have hn0 : n = 0 := by
      rcases Nat.eq_zero_or_pos n with h0 | h0
      · exact h0
      · obtain ⟨b, q, hA, _⟩ := Rd.at_ hb h0; cases hA
    subst hn0
    have hl : l = [] := List.eq_nil_of_length_eq_zero HL.out
    subst hl
    have hnil := run_eql_nilS w _ _ none 0 c Tryd.underlying24
    go_enter Tryd.func46, Tryd.ntmps46
    go_wp2
    go_ret
    exact ⟨_, rfl, World.ownsRow_nil _ _ _ _, Below.refl _ _⟩
  | some ad =>
    have hnil := run_eql_nilS w _ _ (some ad) n c Tryd.underlying24
    go_enter Tryd.func46, Tryd.ntmps46
    go_wp2_with (at_builtin; go_must (refine app_src eltInt _ rfl _ _ rfl w.heap.size _ 0 [] rfl (World.ownsRow_lit w #[] 0 (Nat.le_refl _) (by unfold maxLen; omega) rfl) (some ad) n c (l.map (Value.int .i64)) rfl _ (RI.below hb ((Below.refl _ _).alloc (by omega) _)) (one_ints _ _) (by omega) (by omega) (by simp) ?_); intro v3 w3 hown3 hgr3 hbel3 _)
    go_ret
    refine ⟨_, rfl, ?_, hbel3 _ ((Below.refl _ _).alloc (Nat.le_refl _) _)⟩
    simpa using hown3

/-- What a call has told, in a row of its own. -/
theorem vm_Toldo (T : TypeId) (pre post : List Value) (o : Nat) (w : World) (B b : Nat) (cv tv wv : Value) (s : Vs) (h : ToV T pre post w B b o cv tv wv s) (hl : s.t.length ≤ 200) :
    Calls Tryd.prog 56 #[.pointer (some ⟨b, o, none⟩)] w fun e w' => ∃ v, e = .returned v ∧ w'.ownsRow w.heap.size 3 1 v s.t.length (s.t.map (Value.int .i64)) ∧ Below w.heap.size w w' := by
  obtain ⟨A, c, rfl, _⟩ := own_form h.told
  have t26 := h.toldv
  have hr := Rd.of_own h.told
  have hlt := h.lt
  obtain ⟨m, hm⟩ : ∃ m, m = s.t.length := ⟨_, rfl⟩
  rw [← hm] at t26 hr hl ⊢
  clear h hm
  go_enter Tryd.func56, Tryd.ntmps56
  go_wp2_with fail
  refine (slices_CloneI s.t A m c w.heap.size w hr (Nat.le_refl _) hl).mono ?_
  rintro e w1 ⟨v, rfl, h1, h2⟩
  go_wp2
  go_ret
  exact ⟨v, rfl, h1, h2⟩
end Go.Proofs.YtjihopbapnfppaaDoor

set_option linter.unusedSimpArgs false
set_option linter.unusedVariables false
namespace Go.Proofs.YtjihopbapnfppaaDoor
open Go.RowKit Go.Ord Go.Baro

theorem thC_zero (cv tv : Value) (p : Int) : thC cv p (fun _ => 0) tv = cv :: .int .i64 p :: (List.replicate 24 (.int .i64 0) ++ [tv]) := by
  unfold thC regV
  congr 3
theorem thC_splice (cv tv : Value) (p : Int) (ar : List Int) (h : ar.length ≤ 24) : splice (thC cv p (fun _ => 0) tv) 2 (ar.map (Value.int .i64)) = thC cv p (fun i => if 0 ≤ i then ar[i.toNat]?.getD 0 else 0) tv := by
  unfold splice thC
  rw [List.take_succ_cons, List.take_succ_cons, List.take_zero, List.length_map, show 2 + ar.length = ar.length + 1 + 1 by omega, List.drop_succ_cons, List.drop_succ_cons]
  rw [List.cons_append, List.cons_append, List.nil_append, List.drop_append_of_le_length (by rw [regV_len]; exact h), ← List.append_assoc]
  congr 3
  refine List.ext_getElem? fun j => ?_
  by_cases hj : j < 24
  · rw [regV_at _ hj]
    by_cases hja : j < ar.length
    · rw [List.getElem?_append_left (by simpa using hja), List.getElem?_map, List.getElem?_eq_getElem hja]
      simp [List.getElem?_eq_getElem hja]
    · rw [List.getElem?_append_right (by simp; omega), List.getElem?_drop, List.length_map, show ar.length + (j - ar.length) = j by omega, regV_at _ hj]
      simp [List.getElem?_eq_none (show ar.length ≤ j by omega)]
  · rw [List.getElem?_eq_none (by simp [regV_len]; omega), List.getElem?_eq_none (by rw [regV_len]; omega)]

theorem thA_zero (cv tv : Value) : (thC cv 0 (fun _ => 0) tv).toArray = #[cv, .int .i64 0, .int .i64 0, .int .i64 0, .int .i64 0, .int .i64 0, .int .i64 0, .int .i64 0, .int .i64 0, .int .i64 0, .int .i64 0, .int .i64 0, .int .i64 0, .int .i64 0, .int .i64 0, .int .i64 0, .int .i64 0, .int .i64 0, .int .i64 0, .int .i64 0, .int .i64 0, .int .i64 0, .int .i64 0, .int .i64 0, .int .i64 0, .int .i64 0, tv] := by rw [thC_zero]; simp [List.replicate]

/-- The zero value of a thread. -/
def thZ : List Value := thC (.slice none 0 0) 0 (fun _ => 0) (.slice none 0 0)
theorem thZ_arr : thZ.toArray = #[Value.slice none 0 0, .int .i64 0, .int .i64 0, .int .i64 0, .int .i64 0, .int .i64 0, .int .i64 0, .int .i64 0, .int .i64 0, .int .i64 0, .int .i64 0, .int .i64 0, .int .i64 0, .int .i64 0, .int .i64 0, .int .i64 0, .int .i64 0, .int .i64 0, .int .i64 0, .int .i64 0, .int .i64 0, .int .i64 0, .int .i64 0, .int .i64 0, .int .i64 0, .int .i64 0, .slice none 0 0] := thA_zero _ _

set_option maxRecDepth 100000 in
set_option maxHeartbeats 4000000 in
theorem vm_Begin_no (w : World) (hT : Tab w) (l : List Ins) (ar : List Int) (cA A : Option Addr) (n cc m c B : Nat) (E : Int) (hc : RO w B cA n l) (hB : B ≤ w.heap.size) (hn : n ≤ 9223372036854775807) (hm : m ≤ 9223372036854775807) (hE : (¬ okC l ∧ E = 4) ∨ (okC l ∧ 8 < m ∧ E = 1)) :
    Calls Tryd.prog 37 #[.slice cA n cc, .slice A m c] w fun e w' => e = .returned (.tuple #[.agg thZ.toArray, .int .i64 E]) ∧ Below w.heap.size w w' := by
  have h0 : Below w.heap.size w w := Below.refl _ _
  have bx0 : Box (w.alloc (.cells thZ.toArray 69)) w.heap.size 69 thZ := Box.new w _ _
  have l0 : thZ.length = 27 := thC_len
  have o0 : ∀ v ∈ thZ, v.oneCell' = true := thC_one rfl rfl
  have hin : (Tryd.prog.info? 69).map (·.size) = some 27 := by kernel_rfl
  have hA := h0.alloc (Nat.le_refl _) (Obj.cells thZ.toArray 69)
  have hTA := hT.below hA hT.lt
  have hcA := hc.below (hA.mono hB)
  obtain ⟨C0, hC0⟩ : ∃ C0, C0 = thZ := ⟨_, rfl⟩
  have hZ := thZ_arr
  rw [← hC0] at bx0 l0 o0 hA hTA hcA hZ ⊢
  rw [hZ] at hA hTA hcA bx0
  have HL0 := Lib.hid l0
  have HO0 := Lib.hid o0
  have HIN := Lib.hid hin
  have HZ := Lib.hid hZ
  clear l0 o0 hin hC0 hZ
  rcases hE with ⟨hno, rfl⟩ | ⟨hok, h8, rfl⟩
  · have HNO := Lib.hid hno
    clear hno
    go_enter Tryd.func37, Tryd.ntmps37
    go_wp2_with fail
    refine (vm_May l cA n cc false _ B hTA hcA (by simp; omega) hn (by simp; exact HNO.out)).mono ?_
    rintro e w1 ⟨rfl, hb1⟩
    have HB1 := Lib.hid (bx0.below hb1 (by simp))
    go_wp2_with (refine store_box rfl rfl 69 (.tmp 4) (.tmp 10) rfl w.heap.size C0 rfl (congrArg Value.agg HZ.out.symm) 69 C0 (by have := HB1.out; exact this) (by rw [HL0.out]; exact HIN.out) rfl HO0.out ?_; intro w2 HG2 hg2)
    refine bodyPost_ret (results_row_tmp rfl _ _ w.heap.size 69 C0.toArray (0, 0) _ rfl HG2.out Tryd.underlying69 rfl (by rw [List.size_toArray, HL0.out]; exact HIN.out)) rfl ?_
    have hb2 := hA.trans (hb1.mono (by simp))
    exact ⟨rfl, below_set hb2 hg2 (Nat.le_refl _) hb2.size⟩
  · have HOK := Lib.hid hok
    clear hok
    go_enter Tryd.func37, Tryd.ntmps37
    go_wp2_with fail
    refine (vm_May l cA n cc true _ B hTA hcA (by simp; omega) hn (by simp; exact HOK.out)).mono ?_
    rintro e w1 ⟨rfl, hb1⟩
    have HB1 := Lib.hid (bx0.below hb1 (by simp))
    go_wp2_with (refine store_box rfl rfl 69 (.tmp 4) (.tmp 14) rfl w.heap.size C0 rfl (congrArg Value.agg HZ.out.symm) 69 C0 (by have := HB1.out; exact this) (by rw [HL0.out]; exact HIN.out) rfl HO0.out ?_; intro w2 HG2 hg2)
    refine bodyPost_ret (results_row_tmp rfl _ _ w.heap.size 69 C0.toArray (0, 0) _ rfl HG2.out Tryd.underlying69 rfl (by rw [List.size_toArray, HL0.out]; exact HIN.out)) rfl ?_
    have hb2 := hA.trans (hb1.mono (by simp))
    exact ⟨rfl, below_set hb2 hg2 (Nat.le_refl _) hb2.size⟩

/-- What the beginning of a call leaves: its code lies in a row of its own. -/
def BgPost (l : List Ins) (ar : List Int) (n : Nat) (w : World) (e : Ending) (w' : World) : Prop :=
  ∃ cA cc, e = .returned (.tuple #[.agg (thC (.slice cA n cc) 0 (st0 ar []).r (.slice none 0 0)).toArray, .int .i64 0]) ∧ RO w' w'.heap.size cA n l ∧ (0 < n → ∀ g q, cA = some ⟨g, q, none⟩ → w.heap.size ≤ g) ∧ Below w.heap.size w w'

set_option maxRecDepth 100000 in
set_option maxHeartbeats 4000000 in
theorem vm_Begin (w : World) (hT : Tab w) (l : List Ins) (ar : List Int) (cA A : Option Addr) (n cc m c B : Nat) (hc : RO w B cA n l) (hr : RI w B .i64 A m ar) (hB : B ≤ w.heap.size) (hok : okC l) (hm : m ≤ 8) :
    Calls Tryd.prog 37 #[.slice cA n cc, .slice A m c] w (BgPost l ar n w) := by
  have HL := Lib.hid hr.len
  have hn : n ≤ 200 := by have := hok.1; have := hc.len; omega
  have h0 : Below w.heap.size w w := Below.refl _ _
  have bx0 : Box (w.alloc (.cells thZ.toArray 69)) w.heap.size 69 thZ := Box.new w _ _
  have l0 : thZ.length = 27 := thC_len
  have o0 : ∀ v ∈ thZ, v.oneCell' = true := thC_one rfl rfl
  have hin : (Tryd.prog.info? 69).map (·.size) = some 27 := by kernel_rfl
  have hA := h0.alloc (Nat.le_refl _) (Obj.cells thZ.toArray 69)
  have hTA := hT.below hA hT.lt
  have hcA := hc.below (hA.mono hB)
  obtain ⟨C0, hC0⟩ : ∃ C0, C0 = thZ := ⟨_, rfl⟩
  have hZ := thZ_arr
  rw [← hC0] at bx0 l0 o0 hA hTA hcA hZ
  rw [hZ] at hA hTA hcA bx0
  have HL0 := Lib.hid l0
  have HO0 := Lib.hid o0
  have HIN := Lib.hid hin
  have HZ := Lib.hid hZ
  have HOK := Lib.hid hok
  clear l0 o0 hin hC0 hZ hok
  go_enter Tryd.func37, Tryd.ntmps37
  go_wp2_with fail
  refine (vm_May l cA n cc true _ B hTA hcA (by simp; omega) (by omega) (by simp; exact HOK.out)).mono ?_
  rintro e w1 ⟨rfl, hb1⟩
  have HB1 := Lib.hid (bx0.below hb1 (by simp))
  have hb01 := hA.trans (hb1.mono (by simp))
  have hs1 : w.heap.size + 1 ≤ w1.heap.size := by have := hb1.size; simp at this; omega
  go_wp2_with fail
  refine (slices_CloneO l cA n cc B w1 (hc.below (hb01.mono hB)) (by omega) hn).mono ?_
  rintro e w2 ⟨v, rfl, hown, hb2⟩
  obtain ⟨cA1, cc1, rfl, hlc⟩ := own_form hown
  have HROW := Lib.hid hown
  have hb02 : Below w.heap.size w w2 := hb01.trans (hb2.mono (by omega))
  have HBX := Lib.hid (HB1.out.below hb2 (by omega))
  have hs2 := hb2.size
  obtain ⟨C1, hC1⟩ : ∃ C1, C1 = thC (.slice cA1 n cc1) 0 (fun _ => 0) (.slice none 0 0) := ⟨_, rfl⟩
  obtain ⟨C2, hC2⟩ : ∃ C2, C2 = thC (.slice cA1 n cc1) 0 (st0 ar []).r (.slice none 0 0) := ⟨_, rfl⟩
  have HS := Lib.hid (show splice C1 2 (ar.map (Value.int .i64)) = C2 by rw [hC1, hC2]; exact thC_splice _ _ _ _ (by rw [HL.out]; omega))
  have HL1 := Lib.hid (show C1.length = 27 by rw [hC1]; exact thC_len)
  have HL2 := Lib.hid (show C2.length = 27 by rw [hC2]; exact thC_len)
  have HO1 := Lib.hid (show ∀ v ∈ C1, v.oneCell' = true by rw [hC1]; exact thC_one rfl rfl)
  have HO2 := Lib.hid (show ∀ v ∈ C2, v.oneCell' = true by rw [hC2]; exact thC_one rfl rfl)
  have HE1 := Lib.hid (show C1.toArray = #[Value.slice cA1 n cc1, .int .i64 0, .int .i64 0, .int .i64 0, .int .i64 0, .int .i64 0, .int .i64 0, .int .i64 0, .int .i64 0, .int .i64 0, .int .i64 0, .int .i64 0, .int .i64 0, .int .i64 0, .int .i64 0, .int .i64 0, .int .i64 0, .int .i64 0, .int .i64 0, .int .i64 0, .int .i64 0, .int .i64 0, .int .i64 0, .int .i64 0, .int .i64 0, .int .i64 0, .slice none 0 0] by rw [hC1]; exact thA_zero _ _)
  have HC2 := Lib.hid hC2
  have HB2 := Lib.hid (show Box (w2.alloc (.cells C0.toArray 69)) w2.heap.size 69 C0 from Box.new _ _ _)
  have HPOS := Lib.hid (show ∀ w3, Below w2.heap.size w2 w3 → 0 < (ar.map (Value.int .i64)).length → ∃ ad, A = some ad ∧ ∀ j v, (ar.map (Value.int .i64))[j]? = some v → w3.cell? (ad.add j) = some v from by
    intro w3 hw3 hl
    have hm0 : 0 < m := by rw [List.length_map, HL.out] at hl; exact hl
    obtain ⟨bb, oo, rfl, hlt, hcl⟩ := ((hr.below (hb02.mono hB)).below (hw3.mono (by omega))).at_ hm0
    refine ⟨_, rfl, fun j v hj => ?_⟩
    have hjl : j < m := by have := (List.getElem?_eq_some_iff.1 hj).1; rw [List.length_map, HL.out] at this; exact this
    rw [Addr.add_lit, hcl j (by omega)]
    exact hj)
  clear hC1 hC2 hown
  go_wp2_with (first
    | (refine store_box rfl rfl 69 (.tmp 6) (.tmp 17) rfl w2.heap.size C1 rfl (congrArg Value.agg HE1.out.symm) 69 C0 (by have := HB2.out; rw [HZ.out] at this; exact this) (by rw [HL1.out]; exact HIN.out) (by rw [HL0.out, HL1.out]) HO1.out ?_; intro w3 HG3 hg3; have hB3 : Below w2.heap.size w2 w3 := below_set ((Below.refl _ _).alloc (Nat.le_refl _) _) hg3 (Nat.le_refl _) (by simp))
    | (refine wpList_copy_splice rfl _ _ 24 24 rfl 3 Tryd.underlying24 (by kernel_rfl) _ _ _ _ _ _ rfl rfl w2.heap.size 2 C1 69 HG3.out (ar.map (Value.int .i64)) (by rw [List.length_map, HL.out]; exact (Nat.min_eq_left (by omega)).symm) (fun hl => ⟨rfl, HPOS.out w3 hB3 hl⟩) (by rw [List.length_map, HL.out, HL1.out]; omega) (one_ints _ _) w2.heap.size w2 hB3 (Nat.le_refl _) ?_; intro w4 HG4 hB4)
    | (refine wpList_load_row rfl 69 _ rfl w2.heap.size rfl 69 C2.toArray (0, 0) _ (by rw [← HS.out]; exact HG4.out) Tryd.underlying69 rfl (by rw [List.size_toArray, HL2.out]; exact HIN.out) ?_)
    | (refine store_box rfl rfl 69 (.tmp 4) (.tmp 22) rfl w.heap.size C2 rfl rfl 69 C0 (HBX.out.below hB4 (by omega)) (by rw [HL2.out]; exact HIN.out) (by rw [HL0.out, HL2.out]) HO2.out ?_; intro w5 HG5 hg5))
  refine bodyPost_ret (results_row_tmp rfl _ _ w.heap.size 69 C2.toArray (0, 0) _ rfl HG5.out Tryd.underlying69 rfl (by rw [List.size_toArray, HL2.out]; exact HIN.out)) rfl ?_
  have hb4 : Below w.heap.size w w4 := hb02.trans (hB4.mono (by omega))
  have hb5 : Below w.heap.size w w5 := below_set hb4 hg5 (Nat.le_refl _) hb4.size
  refine ⟨cA1, cc1, by rw [HC2.out]; rfl, ?_, ?_, hb5⟩
  · have h1 : w4.ownsRow w1.heap.size 37 5 (.slice cA1 n cc1) n (cellsO l) := own_below HROW.out hB4
    have h2 : w5.ownsRow w1.heap.size 37 5 (.slice cA1 n cc1) n (cellsO l) := by
      refine h1.kept hg5 ?_
      cases hv : (Value.slice cA1 n cc1).ownBlock with
      | none => exact .inl rfl
      | some k =>
        refine .inr fun he => ?_
        have := (h1.lt _ hv).1
        injection he with he
        omega
    exact Rd.of_own h2
  · intro _ g q hA
    have := (HROW.out.lt g (by rw [hA]; rfl)).1
    omega
end Go.Proofs.YtjihopbapnfppaaDoor
