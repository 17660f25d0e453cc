/- A step of a thread: one instruction, if there is one; an error ends the call. No statement of the seat is proved here; no condition. -/
import Derived.Test.YtjihopbapnfppaaDoorVm5O
set_option linter.unusedSimpArgs false
set_option linter.unusedVariables false
namespace Go.Proofs.YtjihopbapnfppaaDoor
open Go.RowKit Go.Ord Go.Baro

/-- One call behind another, where what was told has come to lie in a new block. -/
theorem un_next {b mb : Nat} {tv tv2 wv : Value} {w w2 w3 : World} (h : Un (touch b mb tv wv) w w2) (k : Un (touch b mb tv2 wv) w2 w3) (hb : tv2.ownBlock = tv.ownBlock ∨ ∃ k, tv2.ownBlock = some k ∧ w.heap.size ≤ k) : Un (touch b mb tv wv) w w3 := by
  refine ⟨k.os.trans h.os, k.tape.trans h.tape, k.output.trans h.output, Nat.le_trans h.size k.size, fun i hi hx => (k.block i (Nat.lt_of_lt_of_le hi h.size) fun ht => hx ?_).trans (h.block i hi hx)⟩
  rcases ht with ht | ht | ht | ht
  · exact .inl ht
  · exact .inr (.inl ht)
  · rcases hb with hb | ⟨q, hq, hs⟩
    · exact .inr (.inr (.inl (hb ▸ ht)))
    · rw [hq] at ht; injection ht with ht; omega
  · exact .inr (.inr (.inr ht))

set_option maxRecDepth 100000 in
set_option maxHeartbeats 4000000 in
theorem vm_Stepo (T : TypeId) (pre post : List Value) (oo : Nat) (w : World) (B Bc b n cc wn wc : Nat) (cA wA : Option Addr) (tv : Value) (l : List Ins) (s s' : Vs) (o : Ins) (E : Int) (h : ToV T pre post w B b oo (.slice cA n cc) tv (.slice wA wn wc) s) (hBs : B ≤ w.heap.size)
    (hc : RO w Bc cA n l) (hBc : Bc ≤ w.heap.size) (hp : s.p < n) (hn : n ≤ 200) (hok : Ok n s) (hx : l[s.p.toNat]? = some o) (ho : okI n o) (hs : stp n o s = (s', E)) :
    Calls Tryd.prog 40 #[.pointer (some ⟨b, oo, none⟩), .slice wA wn wc] w (StPostO T pre post B b oo (.slice cA n cc) tv (.slice wA wn wc) (aft n E s') E w) := by
  obtain ⟨p', r, ws, t⟩ := s
  have q1 := hok.lo
  dsimp only at q1 hp hx
  obtain ⟨p, rfl⟩ : ∃ p : Nat, p' = p := ⟨p'.toNat, by omega⟩
  rw [Int.toNat_natCast] at hx
  have hpn : p < n := by omega
  have h0 : Un (touch b b tv (.slice wA wn wc)) w w := Un.refl _ _
  have HTH := Lib.hid h
  have HOK := Lib.hid hok
  have HO := Lib.hid ho
  have HS := Lib.hid hs
  have HC := Lib.hid hc
  have HXX := Lib.hid hx
  have hv : ((p : Int) == (n : Int)) = false := by simp; omega
  clear h hok ho hs hc hx
  go_enter Tryd.func40, Tryd.ntmps40
  go_wp2_with fail
  refine (vm_endedo T pre post oo w B b n cc _ tv _ ⟨p, r, ws, t⟩ false HTH.out (by simp; omega)).mono ?_
  rintro e w1 ⟨rfl, hw1⟩
  have h1 : ToV T pre post w1 B b oo (.slice cA n cc) tv (.slice wA wn wc) ⟨p, r, ws, t⟩ := by rw [hw1]; exact HTH.out.drewN 1
  have hc1 : RO w1 Bc cA n l := by rw [hw1]; exact HC.out.heap rfl
  have hu1 : Un (touch b b tv (.slice wA wn wc)) w w1 := by rw [hw1]; exact h0.drewN 1
  have hsz1 : w1.heap.size ≤ w.heap.size := by rw [hw1]; exact Nat.le_refl _
  have hsz2 : w.heap.size ≤ w1.heap.size := by rw [hw1]; exact Nat.le_refl _
  clear hw1 h0
  obtain ⟨bc, oc, k0, x0, y0, z0, u0, rfl, hbc, c0, c1, c2, c3, c4, HX, hmem⟩ := hc1.val hpn
  have hX := HX.out
  rw [HXX.out] at hX
  simp only [Option.some.injEq] at hX
  subst hX
  clear HX hmem hc1
  have hlt := h1.lt
  have hcs : bc < w1.heap.size := by omega
  have t0 := h1.code
  have t1 := h1.at_
  dsimp only at t1
  have f1 := h1.box.frozen (oo + 1)
  have HT1 := Lib.hid h1
  clear h1
  go_wp2
  refine region_first [0, 1, 2, 3, 4, 5, 6, 7, 8, 9] (.cons 10 (seq [11] .nil)) (by kernel_rfl) (by kernel_rfl) ?_
  simp only [pick, List.map_cons, List.map_nil, List.getD_cons_zero, List.getD_cons_succ]
  go_wp2
  refine ord_call (by kernel_rfl) ?_
  simp only [pick, List.map_cons, List.map_nil, List.getD_cons_zero, List.getD_cons_succ]
  go_wp2
  refine ⟨(((Below.refl w1.heap.size w1).alloc (Nat.le_refl _) _).drew).block, ?_⟩
  refine ord_last [11] (by kernel_rfl) ?_
  simp only [pick, List.map_cons, List.map_nil, List.getD_cons_zero, List.getD_cons_succ]
  go_wp2_with fail
  refine (vm_execo T pre post oo _ B b n cc wn wc _ wA tv ⟨p, r, ws, t⟩ s' k0 x0 y0 z0 u0 E (by exact ((HT1.out.next (p + 1)).alloc _).drew) (by simp; omega) HOK.out HO.out HS.out).mono ?_
  rintro e w2 ⟨rfl, ⟨tv2, hth2, hbk⟩, hb2⟩
  have hbk' : tv2.ownBlock = tv.ownBlock ∨ ∃ k, tv2.ownBlock = some k ∧ w.heap.size ≤ k := hbk.imp id (fun ⟨k, e, hk⟩ => ⟨k, e, by simp at hk; omega⟩)
  have hu2 : Un (touch b b tv (.slice wA wn wc)) w w2 := ((un_at hu1 touch_b _ _).alloc _).drew.trans hb2
  by_cases hE : E = 0
  · subst hE
    go_wp2
    go_ret
    exact ⟨rfl, ⟨tv2, hth2, hbk'⟩, hu2⟩
  · have hv2 : (E != 0) = true := by simp [hE]
    have HE := Lib.hid hE
    clear hE
    go_wp2_with fail
    refine (vm_endo T pre post oo _ B b n cc _ tv2 _ s' hth2).mono ?_
    rintro e w3 ⟨rfl, hth3, hb3⟩
    go_wp2
    go_ret
    refine ⟨rfl, ⟨tv2, by rw [aft_err HE.out]; exact hth3, hbk'⟩, un_next hu2 hb3 hbk'⟩
/-- A step of a thread within a call, its code valid: what it does of itself. -/
theorem vm_Stepx (T : TypeId) (pre post : List Value) (oo : Nat) (w : World) (B Bc b n cc wn wc : Nat) (cA wA : Option Addr) (tv : Value) (L L' : Lv) (ws W' : List Int) (E : Int) (en : Bool) (h : ToV T pre post w B b oo (.slice cA n cc) tv (.slice wA wn wc) ⟨L.p, L.r, ws, L.t⟩) (hBs : B ≤ w.heap.size)
    (hc : RO w Bc cA n L.c) (hBc : Bc ≤ w.heap.size) (hok : okC L.c) (hl : LOk L) (hw : WOk ws) (hx : exc L ws = (L', W', E, en)) :
    Calls Tryd.prog 40 #[.pointer (some ⟨b, oo, none⟩), .slice wA wn wc] w fun e w' => ∃ q : Int, StPostO T pre post B b oo (.slice cA n cc) tv (.slice wA wn wc) ⟨q, L'.r, W', L'.t⟩ E w e w' ∧ (en = true ↔ q = n) ∧ (en = false → q = L'.p ∧ L'.c = L.c) := by
  have hlen := hc.len
  by_cases hp : L.p = L.c.length
  · rw [exc_none hp] at hx
    simp only [Prod.mk.injEq] at hx
    obtain ⟨rfl, rfl, rfl, rfl⟩ := hx
    have h0 : Un (touch b b tv (.slice wA wn wc)) w w := Un.refl _ _
    have HTH := Lib.hid h
    have hpn : L.p = n := by omega
    have HP := Lib.hid hpn
    clear h hp hpn
    go_enter Tryd.func40, Tryd.ntmps40
    go_wp2_with fail
    refine (vm_endedo T pre post oo w B b n cc _ tv _ ⟨L.p, L.r, ws, L.t⟩ true HTH.out (by simp; exact HP.out)).mono ?_
    rintro e w1 ⟨rfl, rfl⟩
    go_wp2
    go_ret
    exact ⟨L.p, ⟨rfl, ⟨tv, HTH.out.drewN 1, .inl rfl⟩, h0.drewN 1⟩, by simp; exact HP.out, by simp⟩
  · have hlt : L.p < L.c.length := by have := hl.2.1; omega
    have hlo := hl.1
    have hn : L.p.toNat < L.c.length := by omega
    obtain ⟨o, ho⟩ : ∃ o, L.c[L.p.toNat]? = some o := ⟨_, List.getElem?_eq_getElem hn⟩
    obtain ⟨s', E', hs⟩ : ∃ s' E', stp L.c.length o ⟨L.p, L.r, ws, L.t⟩ = (s', E') := ⟨_, _, rfl⟩
    rw [exc_stp hlt ho hs] at hx
    simp only [Prod.mk.injEq] at hx
    obtain ⟨rfl, rfl, rfl, rfl⟩ := hx
    refine (vm_Stepo T pre post oo w B Bc b n cc wn wc cA wA tv L.c ⟨L.p, L.r, ws, L.t⟩ s' o E' h hBs hc hBc (by dsimp only; omega) (by have := hok.1; omega) (by rw [← hlen]; exact ok_of hl hw) ho (by rw [← hlen]; exact hok.2 o (List.mem_of_getElem? ho)) (by rw [← hlen]; exact hs)).mono ?_
    intro e w' hP
    refine ⟨if E' = 0 then s'.p else n, hP, ?_, ?_⟩
    · rw [hlen]
      by_cases hE : E' = 0
      · simp [hE]
      · simp [hE]
    · intro hf
      simp at hf
      simp [hf.1]
end Go.Proofs.YtjihopbapnfppaaDoor
