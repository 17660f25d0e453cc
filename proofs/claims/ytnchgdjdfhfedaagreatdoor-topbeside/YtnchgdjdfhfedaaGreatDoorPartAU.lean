/- What run.Play does, from a thread's cells to the whole run. No statement of the seat is proved here; no condition. -/
import Derived.Test.YtnchgdjdfhfedaaGreatDoorPartAF
import Derived.Test.YtnchgdjdfhfedaaGreatDoorPartAG
import Derived.Test.YtnchgdjdfhfedaaGreatDoorPartAT
import Derived.Test.YtnchgdjdfhfedaaGreatDoorPartAQ
import Derived.Test.YtnchgdjdfhfedaaGreatDoorPartAI
set_option linter.unusedSimpArgs false
set_option linter.unusedVariables false
namespace Go.Baro
open Go.RowKit
section
variable {T I : TypeId} {pre post : List Value} {w w' : World} {B b o : Nat} {cv tv wv : Value} {s : Vs} {X : Nat → Prop}
theorem To.un (h : To T I pre post w B b o cv tv wv s) (hu : Un X w w') (hb : ¬ X b) (ht : ∀ k, tv.ownBlock = Option.some k → ¬ X k) (hw : ∀ k, wv.ownBlock = Option.some k → ¬ X k) : To T I pre post w' B b o cv tv wv s :=
  ⟨h.box.un hu hb, h.off, own_un h.told hu ht, own_un h.words hu hw, h.apart, h.ne⟩
theorem To.below (h : To T I pre post w B b o cv tv wv s) (hb : Below w.heap.size w w') : To T I pre post w' B b o cv tv wv s := h.un (X := fun _ => False) (un_below hb) id (fun _ _ h => h) (fun _ _ h => h)
theorem To.tail (h : To T I pre post w B b o cv tv wv s) (j : Nat) : w.cell? ⟨b, o + 27 + j, none⟩ = post[j]? := by
  have := h.box.cell (o + 27 + j)
  rw [List.getElem?_append_right (by rw [h.off]; omega), List.getElem?_append_right (by rw [thC_len, h.off]; omega), thC_len, h.off] at this
  rw [this]
  congr 1
  omega
theorem To.setTail (h : To T I pre post w B b o cv tv wv s) (j : Nat) (u : Value) : To T I pre (post.set j u) (w.setCell ⟨b, o + 27 + j, none⟩ u) B b o cv tv wv s := by
  have hg := grown_setCell w ⟨b, o + 27 + j, none⟩ u
  have h1 := h.box.set (o + 27 + j) u
  rw [List.set_append_right _ _ (by rw [h.off]; omega), List.set_append_right _ _ (by rw [thC_len, h.off]; omega), thC_len, h.off, show o + 27 + j - o - 27 = j by omega] at h1
  refine ⟨h1, h.off, h.told.kept hg ?_, h.words.kept hg ?_, h.apart, h.ne⟩
  · cases hv : tv.ownBlock with
    | none => exact .inl rfl
    | some k => exact .inr fun he => by have := h.box.ne h.told h.ne; rw [hv] at this; exact this he.symm
  · cases hv : wv.ownBlock with
    | none => exact .inl rfl
    | some k => exact .inr fun he => by have := h.box.ne h.words h.ne; rw [hv] at this; exact this he.symm
end
end Go.Baro
namespace Go.Proofs.YtnchgdjdfhfedaaGreatDoor
open Go.RowKit Go.Ord Go.Baro

/-- The code of a thread lies apart from all that its instructions may turn. -/
def CB (b : Nat) (cA : Option Addr) (cn : Nat) (tv wv : Value) : Prop := 0 < cn → ∀ g q, cA = some ⟨g, q, none⟩ → g ≠ b ∧ tv.ownBlock ≠ some g ∧ wv.ownBlock ≠ some g
/-- A thread, in block b from cell o on. -/
def Tl (w : World) (B b o : Nat) (pre post : List Value) (i : Nat) (cs wv : Value) (ws : List Int) (t : Td) (cA : Option Addr) (cn : Nat) (tv : Value) : Prop :=
  ∃ (cc : Nat) (p : Int) (r : Int → Int) (l : List Ins) (tl : List Int), To 74 3 pre (.int .i64 i :: cs :: .int .i64 t.bg :: post) w B b o (.slice cA cn cc) tv wv ⟨p, r, ws, tl⟩ ∧
    RO w w.heap.size cA cn l ∧ CB b cA cn tv wv ∧ ((t.now = none ∧ p = cn) ∨ t.now = some ⟨l, p, r, tl⟩)
/-- What a step of a thread leaves. -/
def PfPost (m : Mc) (n B b o : Nat) (pre post : List Value) (cs wv : Value) (ws : List Int) (t : Td) (cA : Option Addr) (cn : Nat) (tv : Value) (w : World) (e : Ending) (w' : World) : Prop :=
  ∃ (A : Option Addr) (k c M : Nat) (cA' : Option Addr) (cn' : Nat) (tv' : Value) (rows : List (List Value)), e = .returned (.slice A k c) ∧ Tl w' B b o pre post n cs wv (actT m n t ws).w ((actT m n t ws).th n) cA' cn' tv' ∧ k = (actT m n t ws).out.length ∧ k ≤ 2 ∧ rows.length = k ∧ (∀ r ∈ rows, r.length = 6) ∧ Rd w' w'.heap.size 6 A k rows.flatten ∧
    (∀ (i : Nat) r x, rows[i]? = some r → (actT m n t ws).out[i]? = some x → eP (fun g => M ≤ g) w' r x) ∧ w.heap.size ≤ M ∧ (0 < cn' → ∀ g q, cA' = some ⟨g, q, none⟩ → (cA' = cA ∧ cn' = cn) ∨ (w.heap.size ≤ g ∧ g < M)) ∧
    (∀ g, tv'.ownBlock = some g → tv.ownBlock = some g ∨ (w.heap.size ≤ g ∧ g < M)) ∧ (0 < k → ∀ g q, A = some ⟨g, q, none⟩ → w.heap.size ≤ g) ∧ Un (touch b b tv wv) w w'
end Go.Proofs.YtnchgdjdfhfedaaGreatDoor

set_option linter.unusedSimpArgs false
set_option linter.unusedVariables false
namespace Go.Proofs.YtnchgdjdfhfedaaGreatDoor
open Go.RowKit Go.Ord Go.Baro

set_option maxHeartbeats 1000000 in
theorem run_event (w : World) (B b o n bg : Nat) (pre post : List Value) (cs cv tv wv : Value) (s : Vs) (h : To 74 3 pre (.int .i64 n :: cs :: .int .i64 bg :: post) w B b o cv tv wv s) (hbg : 1 ≤ bg) (hbg2 : bg ≤ 1000) :
    Calls Tryz.prog 49 #[.pointer (some ⟨b, o, none⟩)] w fun e w' => e = .returned (.agg #[.int .i64 0, .int .i64 n, .int .i64 ((bg : Int) - 1), .bool false, .int .i64 0, .slice none 0 0]) ∧ Below w.heap.size w w' := by
  have h0 := Below.refl w.heap.size w
  have c0 : w.cell? ⟨b, o + 27, none⟩ = some (.int .i64 n) := h.tail 0
  have c2 : w.cell? ⟨b, o + 29, none⟩ = some (.int .i64 bg) := h.tail 2
  have hlt := h.lt
  clear h
  go_enter Tryz.func49, Tryz.ntmps49
  go_wp2
  refine region_two [0, 1, 2, 3, 4, 5, 6, 7, 8, 9] [10] (by kernel_rfl) (by kernel_rfl) ?_
  simp only [pick, List.map_cons, List.map_nil, List.getD_cons_zero, List.getD_cons_succ]
  go_wp2
  refine bodyPost_ret (results_cell_row rfl _ _ w.heap.size 47 #[.int .i64 0, .int .i64 n, .int .i64 ((bg : Int) - 1), .bool false, .int .i64 0, .slice none 0 0] (0, 0) _ rfl (Box.new w 47 [.int .i64 0, .int .i64 n, .int .i64 ((bg : Int) - 1), .bool false, .int .i64 0, .slice none 0 0]) Tryz.underlying47 rfl (by kernel_rfl)) rfl ?_
  exact ⟨rfl, (h0.alloc (Nat.le_refl _) _).drew⟩

/-- A thread's cells are stored anew. -/
theorem to_stored {T I : TypeId} {pre post : List Value} {w w' : World} {B b o : Nat} {cv cv' tv wv : Value} {s : Vs} {p : Int} {r : Int → Int} (h : To T I pre post w B b o cv tv wv s) (hb : Box w' b T (pre ++ (thC cv' p r (.slice none 0 0) ++ post))) (hg : w.grownBy w' (some b)) :
    To T I pre post w' B b o cv' (.slice none 0 0) wv ⟨p, r, s.w, []⟩ := by
  refine ⟨hb, h.off, World.ownsRow_nil _ _ _ _, h.words.kept hg ?_, ?_, h.ne⟩
  · cases hv : wv.ownBlock with
    | none => exact .inl rfl
    | some k => exact .inr fun he => by have := h.box.ne h.words h.ne; rw [hv] at this; exact this he.symm
  · cases hv : wv.ownBlock with
    | none => exact .inl rfl
    | some k => exact .inr (by simp [Value.ownBlock])

/-- What the beginning of a thread's next call leaves. -/
def TbPost (cl : List Ins) (ar : List Int) (cn n bg B b o : Nat) (pre post : List Value) (cs wv : Value) (ws : List Int) (w : World) (e : Ending) (w' : World) : Prop :=
  e = .returned (.tuple #[]) ∧ ∃ cA cc, To 74 3 pre (.int .i64 n :: cs :: .int .i64 (bg + 1 : Nat) :: post) w' B b o (.slice cA cn cc) (.slice none 0 0) wv ⟨0, (st0 ar []).r, ws, []⟩ ∧ RO w' w'.heap.size cA cn cl ∧
    (0 < cn → ∀ g q, cA = some ⟨g, q, none⟩ → w.heap.size ≤ g) ∧ Un (fun k => k = b) w w'

set_option maxRecDepth 100000 in
set_option maxHeartbeats 4000000 in
theorem run_begin (w : World) (hT : Tab w) (B b o n bg : Nat) (pre post : List Value) (cv tv wv : Value) (s : Vs) (A1 : Option Addr) (n1 k1 Bc : Nat) (t : List Cl) (Ac : Option Addr) (nc cc nq : Nat) (cds : List (List Ins)) (q : Nat) (ar : List Int) (cl : List Ins)
    (h : To 74 3 pre (.int .i64 n :: .slice A1 n1 k1 :: .int .i64 bg :: post) w B b o cv tv wv s) (hBc : Bc ≤ w.heap.size) (hl : RLs w Bc A1 n1 t) (hlt1 : bg < n1) (hn1 : n1 ≤ 20) (hcs : RCs w Bc Ac nc cds) (hcl : t[bg]? = some ⟨q, ar⟩) (hq : cds[q]? = some cl) (hok : okC cl) (har : ar.length ≤ 8) (hcn : cl.length = nq) :
    Calls Tryz.prog 48 #[.pointer (some ⟨b, o, none⟩), .slice Ac nc cc] w (TbPost cl ar nq n bg B b o pre post (.slice A1 n1 k1) wv s.w w) := by
  have h0 := Below.refl w.heap.size w
  have c1 : w.cell? ⟨b, o + 28, none⟩ = some (.slice A1 n1 k1) := h.tail 1
  have c2 : w.cell? ⟨b, o + 29, none⟩ = some (.int .i64 bg) := h.tail 2
  have hlt := h.lt
  obtain ⟨b1, o1, q', A2, n2, k2, ar', rfl, hb1B, hq0, hq1, hlk2, hri, HXc, hmc⟩ := hl.val hlt1
  have hX := HXc.out
  rw [hcl] at hX
  simp only [Option.some.injEq, Cl.mk.injEq] at hX
  obtain ⟨rfl, rfl⟩ := hX
  have hqn : q < nc := by have := (List.getElem?_eq_some_iff.1 hq).1; rw [hcs.len] at this; exact this
  obtain ⟨b2, o2, cA, cn, ck, cl', rfl, hb2B, hcc0, hlk3, hro, HCC, hmcc⟩ := hcs.val hqn
  have hX := HCC.out
  rw [hq] at hX
  simp only [Option.some.injEq] at hX
  subst hX
  obtain rfl : cn = nq := by rw [← hcn]; exact hro.len.symm
  have hn2 : n2 ≤ 8 := by have := hri.len; omega
  have lb1 : b1 < w.heap.size := by omega
  have lb2 : b2 < w.heap.size := by omega
  have HTH := Lib.hid h
  have HT := Lib.hid hT
  have HOK := Lib.hid hok
  clear h hcl hq hmc hmcc HXc HCC hcn hT hok
  go_enter Tryz.func48, Tryz.ntmps48
  go_wp2
  refine region_first [0, 1, 2, 3, 4, 5, 6, 7, 8, 9] (.cons 10 (seq [11] .nil)) (by kernel_rfl) (by kernel_rfl) ?_
  simp only [pick, List.map_cons, List.map_nil, List.getD_cons_zero, List.getD_cons_succ]
  go_wp2
  refine ord_call (by kernel_rfl) ?_
  simp only [pick, List.map_cons, List.map_nil, List.getD_cons_zero, List.getD_cons_succ]
  go_wp2
  refine ⟨(((Below.refl w.heap.size w).alloc (Nat.le_refl _) _).drew).block, ?_⟩
  refine ord_last [11] (by kernel_rfl) ?_
  simp only [pick, List.map_cons, List.map_nil, List.getD_cons_zero, List.getD_cons_succ]
  go_wp2
  refine region_first [0, 1, 2, 3, 4, 5, 6, 7] (.cons 8 (seq [9, 10, 11, 12, 13] (seq [14] .nil))) (by kernel_rfl) (by kernel_rfl) ?_
  simp only [pick, List.map_cons, List.map_nil, List.getD_cons_zero, List.getD_cons_succ]
  go_wp2
  refine ord_call (by kernel_rfl) ?_
  simp only [pick, List.map_cons, List.map_nil, List.getD_cons_zero, List.getD_cons_succ]
  go_wp2_with fail
  have hcal : Below w.heap.size w (w.alloc (Obj.cells #[.int .i64 q, .slice A2 n2 k2] 40)) := h0.alloc (Nat.le_refl _) _
  refine (vm_Begin _ (HT.out.below hcal.drew.drew HT.out.lt) cl ar cA A2 cn ck n2 k2 Bc (Rd.heap (Rd.below hro (hcal.mono hBc)) rfl) (Rd.heap (Rd.below hri (hcal.mono hBc)) rfl) (by simp; omega) HOK.out hn2).mono ?_
  rintro e w1 ⟨cA1, cc1, rfl, hro1, hfr1, hb1⟩
  obtain ⟨C2, hC2⟩ : ∃ C2, C2 = thC (.slice cA1 cn cc1) 0 (st0 ar []).r (.slice none 0 0) := ⟨_, rfl⟩
  rw [← hC2]
  have HLC := Lib.hid (show C2.length = 27 by rw [hC2]; exact thC_len)
  have HOC2 := Lib.hid (show ∀ v ∈ C2, v.oneCell' = true by rw [hC2]; exact thC_one rfl rfl)
  have HC2 := Lib.hid hC2
  have HIN := Lib.hid (show (Tryz.prog.info? 72).map (·.size) = some 27 by kernel_rfl)
  have hb01 : Below w.heap.size w w1 := hcal.drew.drew.trans (hb1.mono (by simp))
  have hb01' : Un (fun k => k = b) w w1 := un_below hb01
  have HT1 := Lib.hid (HTH.out.below hb01)
  have hE := Lib.hid hb1.block
  have hfr2 : 0 < cn → ∀ g q, cA1 = some ⟨g, q, none⟩ → w.heap.size + 1 ≤ g := fun h1 g q h2 => by have := hfr1 h1 g q h2; simp at this; exact this
  have hs1 : w.heap.size + 1 ≤ w1.heap.size := by have := hb1.size; simp at this; exact this
  have hlt1 : b < w1.heap.size := by omega
  clear hC2 hb1 hfr1
  go_wp2
  refine ⟨hE.out, ?_⟩
  refine ord_more [9, 10, 11, 12, 13] (seq [14] .nil) (by kernel_rfl) ?_
  simp only [pick, List.map_cons, List.map_nil, List.getD_cons_zero, List.getD_cons_succ]
  go_wp2
  refine ord_last [14] (by kernel_rfl) ?_
  simp only [pick, List.map_cons, List.map_nil, List.getD_cons_zero, List.getD_cons_succ]
  go_wp2_with (refine store_mid rfl rfl 72 (.tmp 28) (.tmp 25) rfl b o C2 rfl rfl 74 pre _ _ HT1.out.box HT1.out.off (by rw [HLC.out]; exact thC_len) (by rw [HLC.out]; exact HIN.out) HOC2.out ?_; intro w2 HG2 hg2; have hth2 := to_stored HT1.out (by have := HG2.out; rw [HC2.out] at this; exact this) hg2; have d2 : w2.cell? ⟨b, o + 29, none⟩ = some (.int .i64 bg) := hth2.tail 2; have f2 := hth2.box.frozen (o + 29); have l2 := hth2.lt)
  refine bodyPost_end (v := .tuple #[]) (results_noneT rfl _ _) rfl ?_
  have hu : Un (fun k => k = b) w1 (w2.setCell ⟨b, o + 29, none⟩ (.int .i64 ((bg : Int) + 1))) := un_at (X := fun k => k = b) (un_set (X := fun k => k = b) (Un.refl _ _) hg2 rfl) rfl _ _
  refine ⟨rfl, cA1, cc1, ?_, ?_, fun h1 g q h2 => by have := hfr2 h1 g q h2; omega, hb01'.trans hu⟩
  · have := hth2.setTail 2 (.int .i64 ((bg : Int) + 1))
    rw [show ((bg + 1 : Nat) : Int) = (bg : Int) + 1 by omega]
    exact this
  · exact Rd.more (Rd.un hro1 hu (Nat.le_refl _) (fun h1 g q h2 he => by have := hfr2 h1 g q h2; omega)) hu.size
end Go.Proofs.YtnchgdjdfhfedaaGreatDoor

set_option linter.unusedSimpArgs false
set_option linter.unusedVariables false
namespace Go.Proofs.YtnchgdjdfhfedaaGreatDoor
open Go.RowKit Go.Ord Go.Baro

theorem eltEvR : Elt Tryz.prog 42 47 (.agg #[.int .i64 0, .int .i64 0, .int .i64 0, .bool false, .int .i64 0, .slice none 0 0]) 6 64 := Elt.mk' Tryz.underlying42 (by kernel_rfl) rfl (by decide)
theorem one6R (a b c e : Int) (d : Bool) (A : Option Addr) (n k : Nat) : ∀ u ∈ [Value.int .i64 a, .int .i64 b, .int .i64 c, .bool d, .int .i64 e, .slice A n k], u.oneCell' = true := by simp [Value.oneCell']
theorem vm_endedB (T : TypeId) (pre post : List Value) (o : Nat) (w : World) (B b n c : Nat) (A : Option Addr) (tv wv : Value) (s : Vs) (r : Bool) (h : ToV T pre post w B b o (.slice A n c) tv wv s) (hr : r = true ↔ s.p = n) :
    Calls Tryz.prog 47 #[.pointer (some ⟨b, o, none⟩)] w fun e w' => e = .returned (.bool r) ∧ Below w.heap.size w w' ∧ w'.heap.size ≤ w.heap.size := by
  refine (vm_endedo T pre post o w B b n c A tv wv s r h hr).mono ?_
  rintro e w' ⟨rfl, rfl⟩
  exact ⟨rfl, (Below.refl _ _).drewN 1, Nat.le_refl _⟩
theorem un_sub {b mb : Nat} {tv tv2 wv : Value} {w w2 w3 : World} (h : Un (touch b mb tv wv) w w2) (k : Un (touch b mb tv2 wv) w2 w3) (hb : ∀ k, tv2.ownBlock = some k → tv.ownBlock = some k ∨ w.heap.size ≤ k) : Un (touch b mb tv wv) w w3 := by
  refine ⟨k.os.trans h.os, k.tape.trans h.tape, k.output.trans h.output, Nat.le_trans h.size k.size, fun i hi hx => (k.block i (Nat.lt_of_lt_of_le hi h.size) fun ht => hx ?_).trans (h.block i hi hx)⟩
  rcases ht with ht | ht | ht | ht
  · exact .inl ht
  · exact .inr (.inl ht)
  · rcases hb i ht.symm with hb | hb
    · exact .inr (.inr (.inl hb.symm))
    · omega
  · exact .inr (.inr (.inr ht))
theorem un_new {X : Nat → Prop} {Y : Nat → Prop} {w w2 w3 : World} (h : Un X w w2) (k : Un Y w2 w3) (hY : ∀ i, Y i → w.heap.size ≤ i) : Un X w w3 :=
  ⟨k.os.trans h.os, k.tape.trans h.tape, k.output.trans h.output, Nat.le_trans h.size k.size, fun i hi hx => (k.block i (Nat.lt_of_lt_of_le hi h.size) fun hy => by have := hY i hy; omega).trans (h.block i hi hx)⟩
/-- Where the events so far lie: in a row of the step's own, apart from all of the thread. -/
def EvAt (w : World) (b : Nat) (cA : Option Addr) (cn : Nat) (tv wv ev : Value) (wt : World) : Prop := ∀ k, ev.ownBlock = some k → w.heap.size ≤ k ∧ k < wt.heap.size ∧ k ≠ b ∧ tv.ownBlock ≠ some k ∧ wv.ownBlock ≠ some k ∧ (0 < cn → ∀ g q, cA = some ⟨g, q, none⟩ → g ≠ k)
theorem ev_keep {w b cA cn tv wv ev wt} {w5 : World} {Be k : Nat} {xs : List Value} {e : TypeId} (h : wt.ownsRow Be e 6 ev k xs) (hA : EvAt w b cA cn tv wv ev wt) (hu : Un (touch b b tv wv) wt w5) : w5.ownsRow Be e 6 ev k xs := by
  refine own_un h hu fun g hg ht => ?_
  obtain ⟨h1, h2, h3, h4, h5, h6⟩ := hA g hg
  rcases ht with ht | ht | ht | ht
  · exact h3 ht
  · exact h3 ht
  · exact h4 ht.symm
  · exact h5 ht.symm
theorem ev_at {w : World} {Be k n c : Nat} {xs : List Value} {e : TypeId} {A : Option Addr} (h : w.ownsRow Be e 6 (.slice A n c) k xs) {g q : Nat} (hg : A = some ⟨g, q, none⟩) : Be ≤ g := (h.lt g (by rw [hg]; rfl)).1
theorem own_low {w : World} {B B' k s : Nat} {xs : List Value} {e : TypeId} {v : Value} (h : w.ownsRow B e s v k xs) (hB : B' ≤ B) : w.ownsRow B' e s v k xs := by
  refine ⟨h.1, ?_⟩
  rcases h.2 with h | ⟨g, cap, cur, h1, h2, h3⟩
  · exact .inl h
  · exact .inr ⟨g, cap, cur, h1, by omega, h3⟩
theorem snoc_at {P : Nat → Prop} {w : World} {rows : List (List Value)} {es : List Ev} {r : List Value} {x : Ev} {k : Nat} (h1 : rows.length = k) (h2 : k = es.length) (h : ∀ (i : Nat) r x, rows[i]? = some r → es[i]? = some x → eP P w r x) (hx : eP P w r x) : ∀ (i : Nat) r' x', (rows ++ [r])[i]? = some r' → (es ++ [x])[i]? = some x' → eP P w r' x' := by
  intro i r' x' hr hy
  rcases Nat.lt_trichotomy i rows.length with hi | hi | hi
  · rw [List.getElem?_append_left hi] at hr
    rw [List.getElem?_append_left (by omega)] at hy
    exact h i r' x' hr hy
  · rw [List.getElem?_append_right (by omega), show i - rows.length = 0 by omega] at hr
    rw [List.getElem?_append_right (by omega), show i - es.length = 0 by omega] at hy
    injection hr with hr
    injection hy with hy
    subst hr hy
    exact hx
  · rw [List.getElem?_eq_none (by simp; omega)] at hr; cases hr
/-- The end of a step whose call goes on or has ended. -/
theorem perf_end {m : Mc} {n B b o : Nat} {pre post : List Value} {cs : Value} {wA : Option Addr} {wn wc : Nat} {ws : List Int} {t : Td} {cA cA2 : Option Addr} {cn cn2 cc2 : Nat} {tv tv2 tv5 ev : Value} {w wt w5 w9 : World} {L L' : Lv} {W' : List Int} {bg2 : Nat} {q : Int} {A : Option Addr} {k c M : Nat} {rows : List (List Value)} {es : List Ev} {t' : Td}
    (hact : actT m n t ws = ⟨W', putT (fun _ => t) n t', es⟩) (ht' : t'.bg = bg2) (hnow : (t'.now = none ∧ q = cn2) ∨ (t'.now = some L' ∧ q = L'.p ∧ L'.c = L.c))
    (hut : Un (touch b b tv (.slice wA wn wc)) w wt) (ho5 : To 74 3 pre (.int .i64 n :: cs :: .int .i64 bg2 :: post) w5 B b o (.slice cA2 cn2 cc2) tv5 (.slice wA wn wc) ⟨q, L'.r, W', L'.t⟩)
    (hb5 : tv5.ownBlock = tv2.ownBlock ∨ ∃ k, tv5.ownBlock = some k ∧ wt.heap.size ≤ k) (hu5 : Un (touch b b tv2 (.slice wA wn wc)) wt w5) (hro : RO wt wt.heap.size cA2 cn2 L.c) (hcb : CB b cA2 cn2 tv2 (.slice wA wn wc)) (hev : EvAt w b cA2 cn2 tv2 (.slice wA wn wc) ev wt)
    (htv2 : ∀ k, tv2.ownBlock = some k → tv.ownBlock = some k ∨ (w.heap.size ≤ k ∧ k < wt.heap.size)) (hcA2 : 0 < cn2 → ∀ g q, cA2 = some ⟨g, q, none⟩ → (cA2 = cA ∧ cn2 = cn) ∨ (w.heap.size ≤ g ∧ g < wt.heap.size))
    (hu9 : Un (fun k => some k = ev.ownBlock) w5 w9) (hM : w5.heap.size ≤ M) (hk : k = es.length) (hk2 : k ≤ 2) (hr1 : rows.length = k) (hr2 : ∀ r ∈ rows, r.length = 6) (hr3 : Rd w9 w9.heap.size 6 A k rows.flatten) (hr4 : ∀ (i : Nat) r x, rows[i]? = some r → es[i]? = some x → eP (fun g => M ≤ g) w9 r x)
    (hA : 0 < k → ∀ g q, A = some ⟨g, q, none⟩ → w.heap.size ≤ g) : PfPost m n B b o pre post cs (.slice wA wn wc) ws t cA cn tv w (.returned (.slice A k c)) w9 := by
  have hsz := hut.size
  have hsz5 := hu5.size
  have hX : ∀ k, some k = ev.ownBlock → k ≠ b ∧ tv5.ownBlock ≠ some k ∧ (Value.slice wA wn wc).ownBlock ≠ some k ∧ w.heap.size ≤ k := by
    intro k hk
    obtain ⟨h1, h2, h3, h4, h5, h6⟩ := hev k hk.symm
    refine ⟨h3, fun h => ?_, h5, h1⟩
    rcases hb5 with hb | ⟨k', hb, hge⟩
    · rw [hb] at h; exact h4 h
    · rw [hb] at h; injection h with h; omega
  have hro5 : RO w5 w5.heap.size cA2 cn2 L.c := by
    refine Rd.more (Rd.un hro hu5 (Nat.le_refl _) (fun h0 g q hg ht => ?_)) hu5.size
    obtain ⟨c1, c2, c3⟩ := hcb h0 g q hg
    rcases ht with ht | ht | ht | ht
    · exact c1 ht
    · exact c1 ht
    · exact c2 ht.symm
    · exact c3 ht.symm
  have hro9 : RO w9 w9.heap.size cA2 cn2 L.c := Rd.more (Rd.un hro5 hu9 (Nat.le_refl _) (fun h0 g q hg ht => (hev g ht.symm).2.2.2.2.2 h0 g q hg rfl)) hu9.size
  have ho9 := ho5.un hu9 (fun h => (hX b h).1 rfl) (fun k hk h => (hX k h).2.1 hk) (fun k hk h => (hX k h).2.2.1 hk)
  have hth : putT (fun _ => t) n t' n = t' := by simp [putT]
  refine ⟨A, k, c, M, cA2, cn2, tv5, rows, rfl, ?_, by rw [hact]; exact hk, hk2, hr1, hr2, hr3, by rw [hact]; exact hr4, by omega, fun h0 g q hg => ?_, fun g hg => ?_, hA, ?_⟩
  · rw [hact]
    show Tl w9 B b o pre post n cs _ W' (putT (fun _ => t) n t' n) cA2 cn2 tv5
    rw [hth]
    refine ⟨cc2, q, L'.r, L.c, L'.t, by rw [ht']; exact ho9, hro9, fun h0 g q' hg => ?_, ?_⟩
    · obtain ⟨c1, c2, c3⟩ := hcb h0 g q' hg
      refine ⟨c1, fun h => ?_, c3⟩
      rcases hb5 with hb | ⟨k', hb, hge⟩
      · rw [hb] at h; exact c2 h
      · rw [hb] at h
        injection h with h
        obtain ⟨bb, oo, hA', hlt, _⟩ := Rd.at_ hro h0
        rw [hg] at hA'
        injection hA' with hA'
        injection hA' with hA' _
        omega
    · rcases hnow with ⟨h1, h2⟩ | ⟨h1, h2, h3⟩
      · exact .inl ⟨h1, h2⟩
      · refine .inr ?_
        rw [h1, h2, ← h3]
  · rcases hcA2 h0 g q hg with h | h
    · exact .inl h
    · exact .inr ⟨h.1, by omega⟩
  · rcases hb5 with hb | ⟨k', hb, hge⟩
    · rw [hb] at hg
      rcases htv2 g hg with h | h
      · exact .inl h
      · exact .inr ⟨h.1, by omega⟩
    · have := (ho5.told.lt g hg).2
      rw [hb] at hg
      injection hg with hg
      exact .inr ⟨by omega, by omega⟩
  · refine un_new (un_sub hut hu5 fun k hk => ?_) hu9 (fun k hk => (hX k hk).2.2.2)
    rcases htv2 k hk with h | h
    · exact .inl h
    · exact .inr h.1

set_option maxRecDepth 100000 in
set_option maxHeartbeats 4000000 in
theorem run_perform (w : World) (hT : Tab w) (m : Mc) (B b o n : Nat) (pre post : List Value) (A1 : Option Addr) (n1 k1 Bc : Nat) (t : List Cl) (Ac : Option Addr) (nc cc : Nat) (wA : Option Addr) (wn wc : Nat) (ws : List Int) (td : Td) (cA : Option Addr) (cn : Nat) (tv : Value)
    (h : Tl w B b o pre post n (.slice A1 n1 k1) (.slice wA wn wc) ws td cA cn tv) (hBs : B ≤ w.heap.size) (hBc : Bc ≤ w.heap.size) (hm : okMc m) (hcs : RCs w Bc Ac nc m.cs) (hl : RLs w Bc A1 n1 t) (ht : m.ts[n]? = some t) (hcok : ∀ c ∈ m.cs, ∀ o ∈ c, inI o) (htok : ∀ c ∈ t, ∀ x ∈ c.ar, inW x) (hw : WOk ws) (hbg : td.bg ≤ n1)
    (hlive : ∀ l, td.now = some l → l.c ∈ m.cs ∧ LOk l ∧ l.p < l.c.length ∧ 1 ≤ td.bg) :
    Calls Tryz.prog 35 #[.pointer (some ⟨b, o, none⟩), .slice Ac nc cc, .slice wA wn wc] w (PfPost m n B b o pre post (.slice A1 n1 k1) (.slice wA wn wc) ws td cA cn tv w) := by
  obtain ⟨cc0, p, r, l, tl, hto, hro, hcb, hnow⟩ := h
  have hn1 : n1 ≤ 20 := by have := (hm.2.2.2.2 t (List.mem_of_getElem? ht)).1; rw [hl.len] at this; exact this
  have hlt := hto.lt
  obtain ⟨now, bg⟩ := td
  dsimp only at hbg hnow hlive hto
  have h0 : Un (touch b b tv (.slice wA wn wc)) w w := Un.refl _ _
  have HTH := Lib.hid hto
  have HT := Lib.hid hT
  have HM := Lib.hid hm
  have HTS := Lib.hid ht
  have HCS := Lib.hid hcs
  have HLS := Lib.hid hl
  have HCOK := Lib.hid hcok
  have HTOK := Lib.hid htok
  have HW := Lib.hid hw
  have HRO := Lib.hid hro
  have HCB := Lib.hid hcb
  clear hto hT hm ht hcs hl hcok htok hw hro hcb
  cases now with
  | none =>
    have hp : p = cn := by
      rcases hnow with h | h
      · exact h.2
      · cases h
    clear hlive hnow
    subst hp
    by_cases hend : bg = n1
    · subst hend
      have HLV := HLS.out.len
      go_enter Tryz.func35, Tryz.ntmps35
      go_wp2_with fail
      refine (vm_endedB 74 _ _ o w B b cn cc0 cA tv _ _ true HTH.out (by simp)).mono ?_
      rintro e w1 ⟨rfl, hb1, hs1⟩
      have HT1 := Lib.hid (HTH.out.below hb1)
      have hs1' := hb1.size
      have d1 : w1.cell? ⟨b, o + 28, none⟩ = some (.slice A1 bg k1) := HT1.out.tail 1
      have d2 : w1.cell? ⟨b, o + 29, none⟩ = some (.int .i64 bg) := HT1.out.tail 2
      have hlt1 : b < w1.heap.size := by omega
      have hHid := Lib.hid HLV
      clear HLV
      go_wp2
      refine region_two [0, 1, 2, 3, 4, 5, 6, 7, 8, 9] [] (by kernel_rfl) (by kernel_rfl) ?_
      simp only [pick, List.map_cons, List.map_nil, List.getD_cons_zero, List.getD_cons_succ]
      go_wp2
      go_ret
      have hid : actT m n ⟨none, bg⟩ ws = ⟨ws, fun _ => ⟨none, bg⟩, []⟩ := actT_idle rfl (by rw [HTS.out, Option.getD_some]; exact List.getElem?_eq_none (by rw [hHid.out]; exact Nat.le_refl _))
      have hun : Un (touch b b tv (.slice wA wn wc)) w w1.drew := (un_below hb1).drew
      refine ⟨none, 0, 0, w.heap.size + w1.heap.size, cA, cn, tv, [], rfl, ?_, by rw [hid]; rfl, by omega, rfl, by simp, ⟨rfl, fun h => absurd h (by omega)⟩, by intro i r x h; simp at h, by omega, fun _ g q hg => .inl ⟨rfl, rfl⟩, fun g hg => .inl hg, fun h => absurd h (by omega), hun⟩
      rw [hid]
      exact ⟨cc0, cn, r, l, tl, HT1.out.drew, (Rd.heap (Rd.more (Rd.below HRO.out hb1) hs1') rfl), HCB.out, .inl ⟨rfl, rfl⟩⟩
    · have hlt1 : bg < n1 := by omega
      have hbne : ((bg : Int) == (n1 : Int)) = false := by simp; omega
      have hlt1' : bg < t.length := by rw [HLS.out.len]; exact hlt1
      obtain ⟨c0, hc0⟩ : ∃ c0, t[bg]? = some c0 := ⟨_, List.getElem?_eq_getElem hlt1'⟩
      have hcm : c0 ∈ t := List.mem_of_getElem? hc0
      obtain ⟨q0, ar⟩ := c0
      have hokc : okCl m ⟨q0, ar⟩ := (HM.out.2.2.2.2 t (List.mem_of_getElem? HTS.out)).2 _ hcm
      obtain ⟨⟨hq1, hq2⟩, har⟩ := hokc
      dsimp only at hq1 hq2 har
      obtain ⟨qn, rfl⟩ : ∃ qn : Nat, q0 = qn := ⟨q0.toNat, by omega⟩
      obtain ⟨cl, hcl⟩ : ∃ cl, m.cs[qn]? = some cl := ⟨_, List.getElem?_eq_getElem (by omega)⟩
      have hLm0 : cl ∈ m.cs := List.mem_of_getElem? hcl
      obtain ⟨cn2, hcn2⟩ : ∃ x, cl.length = x := ⟨_, rfl⟩
      have HACT0 := Lib.hid (show actT m n ⟨none, bg⟩ ws = actL ⟨ws, fun _ => ⟨none, bg⟩, []⟩ 0 n (bg + 1) (live cl ar) [⟨0, n, bg, false, 0, []⟩] by
        have := actT_call (m := m) (n := n) (t := ⟨none, bg⟩) (w := ws) (c := ⟨qn, ar⟩) rfl (by rw [HTS.out, Option.getD_some]; exact hc0)
        rw [this]
        dsimp only
        rw [Int.toNat_natCast, hcl, Option.getD_some])
      have HC0 := Lib.hid hc0
      have HCL := Lib.hid hcl
      have HCN2 := Lib.hid hcn2
      have HARW := Lib.hid (HTOK.out _ hcm)
      have HOKC := Lib.hid (HM.out.2.2.2.1 cl hLm0)
      clear hc0 hcl hcm hq1 hq2 hcn2 hlt1'
      go_enter Tryz.func35, Tryz.ntmps35
      go_wp2_with fail
      refine (vm_endedB 74 _ _ o w B b cn cc0 cA tv _ _ true HTH.out (by simp)).mono ?_
      rintro e w1 ⟨rfl, hb1, hs1⟩
      have HT1 := Lib.hid (HTH.out.below hb1)
      have hs1' := hb1.size
      have d1 : w1.cell? ⟨b, o + 28, none⟩ = some (.slice A1 n1 k1) := HT1.out.tail 1
      have d2 : w1.cell? ⟨b, o + 29, none⟩ = some (.int .i64 bg) := HT1.out.tail 2
      have hlt2 : b < w1.heap.size := by omega
      go_wp2
      refine region_two [0, 1, 2, 3, 4, 5, 6, 7, 8, 9] [] (by kernel_rfl) (by kernel_rfl) ?_
      simp only [pick, List.map_cons, List.map_nil, List.getD_cons_zero, List.getD_cons_succ]
      go_wp2_with fail
      refine (run_begin w1.drew (HT.out.below hb1.drew HT.out.lt) B b o n bg pre post _ tv _ _ A1 n1 k1 Bc t Ac nc cc cn2 m.cs qn ar cl HT1.out.drew (by show Bc ≤ w1.heap.size; omega) (RLs.below HLS.out (hb1.drew.mono hBc)) hlt1 hn1 (RCs.below HCS.out (hb1.drew.mono hBc)) HC0.out HCL.out HOKC.out har HCN2.out).mono ?_
      rintro e w2 ⟨rfl, cA2, cc2, hto2, hro2, hfr2, hu2⟩
      have hs2 : w1.heap.size ≤ w2.heap.size := hu2.size
      have HT2 := Lib.hid hto2
      have HRO2 := Lib.hid hro2
      obtain ⟨bg2, hbg2⟩ : ∃ x, x = bg + 1 := ⟨_, rfl⟩
      rw [← hbg2] at HT2 HACT0
      have hbgi : ((bg2 : Nat) : Int) - 1 = bg := by omega
      have HBGI := Lib.hid hbgi
      have hbg1' : 1 ≤ bg2 := by omega
      have hb20 : bg2 ≤ 20 := by omega
      clear hto2 hro2 hbgi hbg2
      go_wp2_with fail
      refine (run_event w2 B b o n bg2 pre post _ _ (.slice none 0 0) _ _ HT2.out (by omega) (by omega)).mono ?_
      rintro e w3 ⟨rfl, hb3⟩
      have hs3 := hb3.size
      go_wp2_with (at_builtin; go_must (refine app_litB eltEvR w3 rfl _ _ rfl w3.heap.size (.slice none 0 0) 0 [] rfl (World.ownsRow_nil _ _ _ _) 1 [.int .i64 0, .int .i64 n, .int .i64 ((bg2 : Int) - 1), .bool false, .int .i64 0, .slice none 0 0] _ rfl rfl rfl (one6R _ _ _ _ _ _ _ _) (by omega) (by omega) (Nat.le_refl _) ?_); intro v4 wt hown4 hg4 hblk4; rw [Nat.zero_add, List.nil_append] at hown4; obtain ⟨Ae, ce, rfl, hlc4⟩ := own_form hown4)
      all_goals (first | done | skip)
      have hb34 : Below w3.heap.size w3 wt := ⟨hg4.os, hg4.tape, hg4.output, by have := hg4.size; simp at this; omega, fun k hk => (hg4.block k (by simp; omega) (by simp [Value.ownBlock])).trans (Below.heap_alloc w3 _ k hk)⟩
      have hst := hb34.size
      have hb24 : Below w2.heap.size w2 wt := hb3.trans (hb34.mono hs3)
      obtain ⟨L, hL⟩ : ∃ L, L = live cl ar := ⟨_, rfl⟩
      have hLm : L.c ∈ m.cs := by rw [hL]; exact hLm0
      have hLO : LOk L := by rw [hL]; exact live_ok HARW.out
      obtain ⟨rows0, hrows0⟩ : ∃ r : List (List Value), r = [[.int .i64 0, .int .i64 n, .int .i64 ((bg2 : Int) - 1), .bool false, .int .i64 0, .slice none 0 0]] := ⟨_, rfl⟩
      obtain ⟨es0, hes0⟩ : ∃ e : List Ev, e = [⟨0, n, bg, false, 0, []⟩] := ⟨_, rfl⟩
      have HACT := Lib.hid (show actT m n ⟨none, bg⟩ ws = actL ⟨ws, fun _ => ⟨none, bg⟩, []⟩ 0 n bg2 L es0 by rw [hL, hes0]; exact HACT0.out)
      have HTo : Hid (To 74 3 pre (.int .i64 n :: .slice A1 n1 k1 :: .int .i64 bg2 :: post) wt B b o (.slice cA2 cn2 cc2) (.slice none 0 0) (.slice wA wn wc) ⟨L.p, L.r, ws, L.t⟩) := by
        rw [hL]; exact HT2.out.below hb24
      have HROt : Hid (RO wt wt.heap.size cA2 cn2 L.c) := by
        rw [hL]; exact Rd.more (Rd.below HRO2.out hb24) hb24.size
      have hfr : 0 < cn2 → ∀ g q, cA2 = some ⟨g, q, none⟩ → w.heap.size ≤ g ∧ g < w2.heap.size := by
        intro h0 g q hg
        have h1 : w1.heap.size ≤ g := hfr2 h0 g q hg
        obtain ⟨bb, oo, hA', hlt', _⟩ := Rd.at_ HRO2.out h0
        rw [hg] at hA'
        injection hA' with hA'
        injection hA' with hA' _
        omega
      have hwlt : ∀ k, (Value.slice wA wn wc).ownBlock = some k → k < w.heap.size := fun k hk => (HTH.out.words.lt k hk).2
      have HCBt : Hid (CB b cA2 cn2 (.slice none 0 0) (.slice wA wn wc)) := by
        intro h0 g q hg
        have := hfr h0 g q hg
        exact ⟨by omega, by simp [Value.ownBlock], fun hk => by have := hwlt g hk; omega⟩
      have HEVo : Hid (wt.ownsRow w.heap.size 47 6 (.slice Ae 1 ce) 1 rows0.flatten) := by
        rw [hrows0]
        exact own_low hown4 (by omega)
      have HEA : Hid (EvAt w b cA2 cn2 (.slice none 0 0) (.slice wA wn wc) (.slice Ae 1 ce) wt) := by
        intro k hk
        have := hown4.lt k hk
        refine ⟨by omega, by omega, by omega, by simp [Value.ownBlock], fun h => by have := hwlt k h; omega, fun h0 g q hg => by have := hfr h0 g q hg; omega⟩
      have HUT : Hid (Un (touch b b tv (.slice wA wn wc)) w wt) := by
        refine un_new (Y := fun _ => False) (w2 := w2) ?_ (un_below hb24) (fun _ h => h.elim)
        exact (un_below (X := touch b b tv (.slice wA wn wc)) hb1.drew).trans (hu2.wider (fun k _ hk => .inl hk))
      have hBt : B ≤ wt.heap.size := by omega
      have HTV2 : Hid (∀ k, (Value.slice none 0 0).ownBlock = some k → tv.ownBlock = some k ∨ (w.heap.size ≤ k ∧ k < wt.heap.size)) := fun k hk => by cases hk
      have HCA2 : Hid (0 < cn2 → ∀ g q, cA2 = some ⟨g, q, none⟩ → (cA2 = cA ∧ cn2 = cn) ∨ (w.heap.size ≤ g ∧ g < wt.heap.size)) := fun h0 g q hg => .inr (by have := hfr h0 g q hg; omega)
      have HR4 : Hid (∀ (M : Nat) (w' : World) (i : Nat) r x, rows0[i]? = some r → es0[i]? = some x → eP (fun g => M ≤ g) w' r x) := by
        intro M w' i r x hr hx
        rw [hrows0] at hr
        rw [hes0] at hx
        match i with
        | 0 =>
          simp at hr hx
          subst hr hx
          exact ⟨none, 0, 0, by simp only [evC]; rw [HBGI.out]; rfl, Nat.le_refl _, by omega, RI.nil _ _ _ _, fun h => absurd h (by omega)⟩
        | i + 1 => simp at hr
      have HK0 := Lib.hid (show 1 = es0.length by rw [hes0]; rfl)
      have HR1 := Lib.hid (show rows0.length = 1 by rw [hrows0]; rfl)
      have HR2 := Lib.hid (show ∀ r ∈ rows0, r.length = 6 by rw [hrows0]; intro r hr; rw [List.mem_singleton.1 hr]; rfl)
      obtain ⟨tv2, htv2⟩ : ∃ x : Value, x = .slice none 0 0 := ⟨_, rfl⟩
      rw [← htv2] at HTo HCBt HEA HTV2
      clear hL hrows0 hes0 htv2 hown4 hg4 hblk4 hfr hwlt

      obtain ⟨L', W', E, en, HX⟩ : ∃ L' W' E en, Hid (exc L ws = (L', W', E, en)) := ⟨_, _, _, _, rfl⟩
      have HXO := Lib.hid (exc_ok (HM.out.2.2.2.1 _ hLm) (HCOK.out _ hLm) hLO HW.out)
      go_wp2_with fail
      refine (vm_Stepx 74 _ _ o wt B wt.heap.size b cn2 cc2 wn wc cA2 wA tv2 L L' ws W' E en HTo.out hBt HROt.out (Nat.le_refl _) (HM.out.2.2.2.1 _ hLm) hLO HW.out HX.out).mono ?_
      rintro e w5 ⟨q, ⟨rfl, ⟨tv5, ho5, hb5⟩, hu5⟩, hen1, hen2⟩
      have HO5 := Lib.hid ho5
      have HEN1 := Lib.hid hen1
      have HEN2 := Lib.hid hen2
      have HU5 := Lib.hid hu5
      have HB5 := Lib.hid hb5
      have hl5 := ho5.lt
      have hst5 := hu5.size
      have HEV5 : Hid (w5.ownsRow w.heap.size 47 6 (Value.slice Ae 1 ce) 1 rows0.flatten) := ev_keep HEVo.out HEA.out hu5
      clear ho5 hen1 hen2 hu5 hb5
      go_wp2_with fail
      refine (vm_endedB 74 _ _ o w5 B b cn2 cc2 cA2 tv5 _ _ en HO5.out (by exact HEN1.out)).mono ?_
      rintro e w6 ⟨rfl, hb6, hs6⟩
      have hs6' := hb6.size
      have HO6 := Lib.hid (HO5.out.below hb6)
      have hl6 := HO6.out.lt
      cases en with
      | false =>
        go_wp2
        go_ret
        exact perf_end (m := m) (L := L) (L' := L') (rows := rows0) (es := es0) (M := w6.heap.size) (t' := ⟨some L', bg2⟩) (ev := (Value.slice Ae 1 ce)) (tv2 := tv2) (by rw [HACT.out, actL_on HX.out]) rfl (.inr ⟨rfl, HEN2.out (by first | rfl | trivial)⟩) HUT.out HO5.out HB5.out HU5.out HROt.out HCBt.out HEA.out HTV2.out HCA2.out (un_below hb6) hs6' HK0.out (by omega) HR1.out HR2.out (Rd.of_own (own_below HEV5.out hb6)) (HR4.out _ _) (fun h0 g q hg => ev_at HEVo.out hg)
      | true =>
        have HQ := Lib.hid (show q = cn2 from HEN1.out.1 (by first | rfl | trivial))
        have hlt200 : L'.t.length ≤ 200 := by have := HXO.out.2.1.2.2.2.2; rw [HX.out] at this; exact this
        go_wp2_with fail
        refine (run_event w6 B b o n bg2 pre post _ _ tv5 _ _ HO6.out (by omega) (by omega)).mono ?_
        rintro e w7 ⟨rfl, hb7⟩
        have hs7 := hb7.size
        have HO7 := Lib.hid (HO6.out.below hb7)
        have bx7 := Lib.hid (Box.newAt w7 47 [.int .i64 0, .int .i64 n, .int .i64 ((bg2 : Int) - 1), .bool false, .int .i64 0, .slice none 0 0] w7.heap.size rfl)
        have hb57 : Below w5.heap.size w5 w7 := hb6.trans (hb7.mono hs6')
        have hb57a := hb57.alloc (by omega) (Obj.cells #[.int .i64 0, .int .i64 n, .int .i64 ((bg2 : Int) - 1), .bool false, .int .i64 0, .slice none 0 0] 47)
        go_wp2_with fail
        refine (vm_Toldo 74 _ _ o _ B b _ tv5 _ _ (HO7.out.alloc _) hlt200).mono ?_
        rintro e w8 ⟨v8, rfl, hown8, hb8⟩
        obtain ⟨A8, c8, rfl, hlc8⟩ := own_form hown8
        have HOWN8 := Lib.hid hown8
        have hs8 : w7.heap.size + 1 ≤ w8.heap.size := by have := hb8.size; simp at this; exact this
        have HB8 := Lib.hid (bx7.out.below hb8 (by simp))
        have hb58 : Below w5.heap.size w5 w8 := hb57a.trans (hb8.mono (by simp; omega))
        have k0 : w8.cell? ⟨w7.heap.size, 0, none⟩ = _ := HB8.out.cell 0
        have k1' : w8.cell? ⟨w7.heap.size, 1, none⟩ = _ := HB8.out.cell 1
        have k2 : w8.cell? ⟨w7.heap.size, 2, none⟩ = _ := HB8.out.cell 2
        have k3 : w8.cell? ⟨w7.heap.size, 3, none⟩ = _ := HB8.out.cell 3
        have k4 : w8.cell? ⟨w7.heap.size, 4, none⟩ = _ := HB8.out.cell 4
        have k5 : w8.cell? ⟨w7.heap.size, 5, none⟩ = _ := HB8.out.cell 5
        simp only [List.getElem?_cons_zero, List.getElem?_cons_succ] at k0 k1' k2 k3 k4 k5
        have f3 := HB8.out.frozen 3
        have f4 := HB8.out.frozen 4
        have f5 := HB8.out.frozen 5
        have hl7 : w7.heap.size < w8.heap.size := by omega
        obtain ⟨n8, hn8⟩ : ∃ n8, n8 = L'.t.length := ⟨_, rfl⟩
        rw [← hn8] at HOWN8 hlc8 hlt200 ⊢
        have HN8 := Lib.hid hn8
        have HHB8 := Lib.hid hb8
        clear hown8 hn8 hb8
        obtain ⟨w9, hw9⟩ : ∃ w9, w9 = ((w8.setCell ⟨w7.heap.size, 3, none⟩ (.bool true)).setCell ⟨w7.heap.size, 4, none⟩ (.int .i64 E)).setCell ⟨w7.heap.size, 5, none⟩ (.slice A8 n8 c8) := ⟨_, rfl⟩
        have HW9 := Lib.hid hw9
        have hu89 : Un (fun k => k = w7.heap.size) w8 w9 := by
          rw [hw9]
          exact un_at (X := fun k => k = w7.heap.size) (un_at (X := fun k => k = w7.heap.size) (un_at (X := fun k => k = w7.heap.size) (Un.refl _ _) rfl _ _) rfl _ _) rfl _ _
        have hb59 : Below w5.heap.size w5 w9 := by
          rw [hw9]
          exact below_at (below_at (below_at hb58 (by omega) _ _) (by omega) _ _) (by omega) _ _
        have HEV9 := Lib.hid (own_below HEV5.out hb59)
        have hs9 : w8.heap.size ≤ w9.heap.size := hu89.size
        clear hw9
        go_wp2_with (at_builtin; go_must (refine app_litB eltEvR _ rfl _ _ rfl w.heap.size _ 1 rows0.flatten rfl (by rw [← HW9.out]; exact HEV9.out) 1 [.int .i64 0, .int .i64 n, .int .i64 ((bg2 : Int) - 1), .bool true, .int .i64 E, .slice A8 n8 c8] _ (by simp) rfl rfl (one6R _ _ _ _ _ _ _ _) (by omega) (by omega) (by rw [← HW9.out]; omega) ?_); rw [← HW9.out]; intro v10 w10 hown10 hg10 hblk10; obtain ⟨A10, c10, rfl, hlc10⟩ := own_form hown10)
        go_ret
        have hu59 : Un (fun k => some k = ((Value.slice Ae 1 ce) : Value).ownBlock) w5 w10 := un_grown ((un_below hb59).alloc _) hg10 (fun k hk => hk.symm)
        have hu910 : Un (fun k => some k = ((Value.slice Ae 1 ce) : Value).ownBlock) w9 w10 := un_grown ((Un.refl _ _).alloc _) hg10 (fun k hk => hk.symm)
        have hri8 : RI w8 w8.heap.size .i64 A8 n8 L'.t := Rd.of_own HOWN8.out
        have hge8 : ∀ g q, A8 = some ⟨g, q, none⟩ → w7.heap.size + 1 ≤ g := fun g q hg => by have := (HOWN8.out.lt g (by rw [hg]; rfl)).1; simp at this; exact this
        have hri10 : RI w10 w10.heap.size .i64 A8 n8 L'.t := by
          refine Rd.more (Rd.un (Rd.more (Rd.un hri8 hu89 (Nat.le_refl _) (fun _ g q hg he => by have := hge8 g q hg; omega)) hs9) hu910 (Nat.le_refl _) (fun _ g q hg he => ?_)) hu910.size
          have := (HEA.out g he.symm).2.1
          have := hge8 g q hg
          omega
        exact perf_end (m := m) (L := L) (L' := L') (rows := rows0 ++ [[.int .i64 0, .int .i64 n, .int .i64 ((bg2 : Int) - 1), .bool true, .int .i64 E, .slice A8 n8 c8]]) (es := es0 ++ [⟨0, n, bg2 - 1, true, E, L'.t⟩]) (M := w7.heap.size + 1) (t' := ⟨none, bg2⟩) (ev := (Value.slice Ae 1 ce)) (tv2 := tv2) (by rw [HACT.out, actL_end HX.out]) rfl (.inl ⟨rfl, HQ.out⟩) HUT.out HO5.out HB5.out HU5.out HROt.out HCBt.out HEA.out HTV2.out HCA2.out hu59 (by omega) (by rw [List.length_append, ← HK0.out]; rfl) (by omega) (by rw [List.length_append, HR1.out]; rfl)
          (fun r hr => by rcases List.mem_append.1 hr with hr | hr
                          · exact HR2.out r hr
                          · rw [List.mem_singleton.1 hr]; rfl)
          (by rw [List.flatten_append]; exact Rd.of_own hown10)
          (snoc_at HR1.out HK0.out (HR4.out _ _) ⟨A8, n8, c8, by simp only [evC]; rw [show ((bg2 - 1 : Nat) : Int) = (bg2 : Int) - 1 by omega]; rfl, hlc8, hlt200, hri10, fun _ g q hg => hge8 g q hg⟩)
          (fun h0 g q hg => ev_at hown10 hg)
  | some L =>
    obtain ⟨hLm, hLO, hLp, hbg1⟩ := hlive L rfl
    have hnow' : L = ⟨l, p, r, tl⟩ := by
      rcases hnow with h | h
      · cases h.1
      · injection h
    have ec : L.c = l := by rw [hnow']
    have ep : L.p = p := by rw [hnow']
    have er : L.r = r := by rw [hnow']
    have et : L.t = tl := by rw [hnow']
    rw [← ep, ← er, ← et] at HTH
    rw [← ec] at HRO
    clear hnow' hnow ec ep er et
    obtain ⟨bg2, hbg2⟩ : ∃ x, x = bg := ⟨_, rfl⟩
    rw [← hbg2] at HTH
    have hbg1' : 1 ≤ bg2 := by omega
    have HACT0 := Lib.hid (show actT m n ⟨some L, bg⟩ ws = actL ⟨ws, fun _ => ⟨some L, bg⟩, []⟩ 0 n bg2 L [] by rw [hbg2]; exact actT_live rfl)
    have hb20 : bg2 ≤ 20 := by omega
    clear hbg2
    have hLn : L.p ≠ cn := by have := HRO.out.len; omega
    obtain ⟨es0, hes0⟩ : ∃ e : List Ev, e = [] := ⟨_, rfl⟩
    obtain ⟨rows0, hrows0⟩ : ∃ e : List (List Value), e = [] := ⟨_, rfl⟩
    have HACT := Lib.hid (show actT m n ⟨some L, bg⟩ ws = actL ⟨ws, fun _ => ⟨some L, bg⟩, []⟩ 0 n bg2 L es0 by rw [hes0]; exact HACT0.out)
    have HLN := Lib.hid hLn
    clear hLn
    go_enter Tryz.func35, Tryz.ntmps35
    go_wp2_with fail
    refine (vm_endedB 74 _ _ o w B b cn cc0 cA tv _ _ false HTH.out (by simp; exact HLN.out)).mono ?_
    rintro e wt ⟨rfl, hb1, hs1⟩
    have hst := hb1.size
    have HTo := Lib.hid (HTH.out.below hb1)
    have HROt : Hid (RO wt wt.heap.size cA cn L.c) := Rd.more (Rd.below HRO.out hb1) hst
    obtain ⟨tv2, htv2⟩ : ∃ x, x = tv := ⟨_, rfl⟩
    obtain ⟨cA2, hcA2⟩ : ∃ x, x = cA := ⟨_, rfl⟩
    obtain ⟨cn2, hcn2⟩ : ∃ x, x = cn := ⟨_, rfl⟩
    obtain ⟨cc2, hcc2⟩ : ∃ x, x = cc0 := ⟨_, rfl⟩
    have HCBt : Hid (CB b cA2 cn2 tv2 (.slice wA wn wc)) := by rw [hcA2, hcn2, htv2]; exact HCB.out
    have HTV2 : Hid (∀ k, tv2.ownBlock = some k → tv.ownBlock = some k ∨ (w.heap.size ≤ k ∧ k < wt.heap.size)) := fun k hk => .inl (by rw [← htv2]; exact hk)
    have HCA2 : Hid (0 < cn2 → ∀ g q, cA2 = some ⟨g, q, none⟩ → (cA2 = cA ∧ cn2 = cn) ∨ (w.heap.size ≤ g ∧ g < wt.heap.size)) := fun h0 g q hg => .inl ⟨hcA2, hcn2⟩
    rw [← htv2, ← hcA2, ← hcn2, ← hcc2] at HTo
    rw [← hcA2, ← hcn2] at HROt
    have HEVo : Hid (wt.ownsRow w.heap.size 47 6 (Value.slice none 0 0) 0 rows0.flatten) := by rw [hrows0]; exact World.ownsRow_nil _ _ _ _
    have HEA : Hid (EvAt w b cA2 cn2 tv2 (.slice wA wn wc) (.slice none 0 0) wt) := fun k hk => by cases hk
    have HUT : Hid (Un (touch b b tv (.slice wA wn wc)) w wt) := un_below hb1
    have hBt : B ≤ wt.heap.size := by omega
    have HR4 : Hid (∀ (M : Nat) (w' : World) (i : Nat) r x, rows0[i]? = some r → es0[i]? = some x → eP (fun g => M ≤ g) w' r x) := by
      intro M w' i r x hr hx
      rw [hrows0] at hr
      simp at hr
    have HK0 := Lib.hid (show 0 = es0.length by rw [hes0]; rfl)
    have HR1 := Lib.hid (show rows0.length = 0 by rw [hrows0]; rfl)
    have HR2 := Lib.hid (show ∀ r ∈ rows0, r.length = 6 by rw [hrows0]; intro r hr; simp at hr)
    clear htv2 hcA2 hcn2 hcc2 hes0 hrows0

    obtain ⟨L', W', E, en, HX⟩ : ∃ L' W' E en, Hid (exc L ws = (L', W', E, en)) := ⟨_, _, _, _, rfl⟩
    have HXO := Lib.hid (exc_ok (HM.out.2.2.2.1 _ hLm) (HCOK.out _ hLm) hLO HW.out)
    go_wp2_with fail
    refine (vm_Stepx 74 _ _ o wt B wt.heap.size b cn2 cc2 wn wc cA2 wA tv2 L L' ws W' E en HTo.out hBt HROt.out (Nat.le_refl _) (HM.out.2.2.2.1 _ hLm) hLO HW.out HX.out).mono ?_
    rintro e w5 ⟨q, ⟨rfl, ⟨tv5, ho5, hb5⟩, hu5⟩, hen1, hen2⟩
    have HO5 := Lib.hid ho5
    have HEN1 := Lib.hid hen1
    have HEN2 := Lib.hid hen2
    have HU5 := Lib.hid hu5
    have HB5 := Lib.hid hb5
    have hl5 := ho5.lt
    have hst5 := hu5.size
    have HEV5 : Hid (w5.ownsRow w.heap.size 47 6 (Value.slice none 0 0) 0 rows0.flatten) := ev_keep HEVo.out HEA.out hu5
    clear ho5 hen1 hen2 hu5 hb5
    go_wp2_with fail
    refine (vm_endedB 74 _ _ o w5 B b cn2 cc2 cA2 tv5 _ _ en HO5.out (by exact HEN1.out)).mono ?_
    rintro e w6 ⟨rfl, hb6, hs6⟩
    have hs6' := hb6.size
    have HO6 := Lib.hid (HO5.out.below hb6)
    have hl6 := HO6.out.lt
    cases en with
    | false =>
      go_wp2
      go_ret
      exact perf_end (m := m) (L := L) (L' := L') (rows := rows0) (es := es0) (M := w6.heap.size) (t' := ⟨some L', bg2⟩) (ev := (Value.slice none 0 0)) (tv2 := tv2) (by rw [HACT.out, actL_on HX.out]) rfl (.inr ⟨rfl, HEN2.out (by first | rfl | trivial)⟩) HUT.out HO5.out HB5.out HU5.out HROt.out HCBt.out HEA.out HTV2.out HCA2.out (un_below hb6) hs6' HK0.out (by omega) HR1.out HR2.out (Rd.of_own (own_below HEV5.out hb6)) (HR4.out _ _) (fun h0 g q hg => ev_at HEVo.out hg)
    | true =>
      have HQ := Lib.hid (show q = cn2 from HEN1.out.1 (by first | rfl | trivial))
      have hlt200 : L'.t.length ≤ 200 := by have := HXO.out.2.1.2.2.2.2; rw [HX.out] at this; exact this
      go_wp2_with fail
      refine (run_event w6 B b o n bg2 pre post _ _ tv5 _ _ HO6.out (by omega) (by omega)).mono ?_
      rintro e w7 ⟨rfl, hb7⟩
      have hs7 := hb7.size
      have HO7 := Lib.hid (HO6.out.below hb7)
      have bx7 := Lib.hid (Box.newAt w7 47 [.int .i64 0, .int .i64 n, .int .i64 ((bg2 : Int) - 1), .bool false, .int .i64 0, .slice none 0 0] w7.heap.size rfl)
      have hb57 : Below w5.heap.size w5 w7 := hb6.trans (hb7.mono hs6')
      have hb57a := hb57.alloc (by omega) (Obj.cells #[.int .i64 0, .int .i64 n, .int .i64 ((bg2 : Int) - 1), .bool false, .int .i64 0, .slice none 0 0] 47)
      go_wp2_with fail
      refine (vm_Toldo 74 _ _ o _ B b _ tv5 _ _ (HO7.out.alloc _) hlt200).mono ?_
      rintro e w8 ⟨v8, rfl, hown8, hb8⟩
      obtain ⟨A8, c8, rfl, hlc8⟩ := own_form hown8
      have HOWN8 := Lib.hid hown8
      have hs8 : w7.heap.size + 1 ≤ w8.heap.size := by have := hb8.size; simp at this; exact this
      have HB8 := Lib.hid (bx7.out.below hb8 (by simp))
      have hb58 : Below w5.heap.size w5 w8 := hb57a.trans (hb8.mono (by simp; omega))
      have k0 : w8.cell? ⟨w7.heap.size, 0, none⟩ = _ := HB8.out.cell 0
      have k1' : w8.cell? ⟨w7.heap.size, 1, none⟩ = _ := HB8.out.cell 1
      have k2 : w8.cell? ⟨w7.heap.size, 2, none⟩ = _ := HB8.out.cell 2
      have k3 : w8.cell? ⟨w7.heap.size, 3, none⟩ = _ := HB8.out.cell 3
      have k4 : w8.cell? ⟨w7.heap.size, 4, none⟩ = _ := HB8.out.cell 4
      have k5 : w8.cell? ⟨w7.heap.size, 5, none⟩ = _ := HB8.out.cell 5
      simp only [List.getElem?_cons_zero, List.getElem?_cons_succ] at k0 k1' k2 k3 k4 k5
      have f3 := HB8.out.frozen 3
      have f4 := HB8.out.frozen 4
      have f5 := HB8.out.frozen 5
      have hl7 : w7.heap.size < w8.heap.size := by omega
      obtain ⟨n8, hn8⟩ : ∃ n8, n8 = L'.t.length := ⟨_, rfl⟩
      rw [← hn8] at HOWN8 hlc8 hlt200 ⊢
      have HN8 := Lib.hid hn8
      have HHB8 := Lib.hid hb8
      clear hown8 hn8 hb8
      obtain ⟨w9, hw9⟩ : ∃ w9, w9 = ((w8.setCell ⟨w7.heap.size, 3, none⟩ (.bool true)).setCell ⟨w7.heap.size, 4, none⟩ (.int .i64 E)).setCell ⟨w7.heap.size, 5, none⟩ (.slice A8 n8 c8) := ⟨_, rfl⟩
      have HW9 := Lib.hid hw9
      have hu89 : Un (fun k => k = w7.heap.size) w8 w9 := by
        rw [hw9]
        exact un_at (X := fun k => k = w7.heap.size) (un_at (X := fun k => k = w7.heap.size) (un_at (X := fun k => k = w7.heap.size) (Un.refl _ _) rfl _ _) rfl _ _) rfl _ _
      have hb59 : Below w5.heap.size w5 w9 := by
        rw [hw9]
        exact below_at (below_at (below_at hb58 (by omega) _ _) (by omega) _ _) (by omega) _ _
      have HEV9 := Lib.hid (own_below HEV5.out hb59)
      have hs9 : w8.heap.size ≤ w9.heap.size := hu89.size
      clear hw9
      go_wp2_with (at_builtin; go_must (refine app_litB eltEvR _ rfl _ _ rfl w.heap.size _ 0 rows0.flatten rfl (by rw [← HW9.out]; exact HEV9.out) 1 [.int .i64 0, .int .i64 n, .int .i64 ((bg2 : Int) - 1), .bool true, .int .i64 E, .slice A8 n8 c8] _ (by simp) rfl rfl (one6R _ _ _ _ _ _ _ _) (by omega) (by omega) (by rw [← HW9.out]; omega) ?_); rw [← HW9.out]; intro v10 w10 hown10 hg10 hblk10; obtain ⟨A10, c10, rfl, hlc10⟩ := own_form hown10)
      go_ret
      have hu59 : Un (fun k => some k = ((Value.slice none 0 0) : Value).ownBlock) w5 w10 := un_grown ((un_below hb59).alloc _) hg10 (fun k hk => hk.symm)
      have hu910 : Un (fun k => some k = ((Value.slice none 0 0) : Value).ownBlock) w9 w10 := un_grown ((Un.refl _ _).alloc _) hg10 (fun k hk => hk.symm)
      have hri8 : RI w8 w8.heap.size .i64 A8 n8 L'.t := Rd.of_own HOWN8.out
      have hge8 : ∀ g q, A8 = some ⟨g, q, none⟩ → w7.heap.size + 1 ≤ g := fun g q hg => by have := (HOWN8.out.lt g (by rw [hg]; rfl)).1; simp at this; exact this
      have hri10 : RI w10 w10.heap.size .i64 A8 n8 L'.t := by
        refine Rd.more (Rd.un (Rd.more (Rd.un hri8 hu89 (Nat.le_refl _) (fun _ g q hg he => by have := hge8 g q hg; omega)) hs9) hu910 (Nat.le_refl _) (fun _ g q hg he => ?_)) hu910.size
        have := (HEA.out g he.symm).2.1
        have := hge8 g q hg
        omega
      exact perf_end (m := m) (L := L) (L' := L') (rows := rows0 ++ [[.int .i64 0, .int .i64 n, .int .i64 ((bg2 : Int) - 1), .bool true, .int .i64 E, .slice A8 n8 c8]]) (es := es0 ++ [⟨0, n, bg2 - 1, true, E, L'.t⟩]) (M := w7.heap.size + 1) (t' := ⟨none, bg2⟩) (ev := (Value.slice none 0 0)) (tv2 := tv2) (by rw [HACT.out, actL_end HX.out]) rfl (.inl ⟨rfl, HQ.out⟩) HUT.out HO5.out HB5.out HU5.out HROt.out HCBt.out HEA.out HTV2.out HCA2.out hu59 (by omega) (by rw [List.length_append, ← HK0.out]; rfl) (by omega) (by rw [List.length_append, HR1.out]; rfl)
        (fun r hr => by rcases List.mem_append.1 hr with hr | hr
                        · exact HR2.out r hr
                        · rw [List.mem_singleton.1 hr]; rfl)
        (by rw [List.flatten_append]; exact Rd.of_own hown10)
        (snoc_at HR1.out HK0.out (HR4.out _ _) ⟨A8, n8, c8, by simp only [evC]; rw [show ((bg2 - 1 : Nat) : Int) = (bg2 : Int) - 1 by omega]; rfl, hlc8, hlt200, hri10, fun _ g q hg => hge8 g q hg⟩)
        (fun h0 g q hg => ev_at hown10 hg)
end Go.Proofs.YtnchgdjdfhfedaaGreatDoor

set_option linter.unusedSimpArgs false
set_option linter.unusedVariables false
namespace Go.Baro
open Go.RowKit
theorem rows_of (s : Nat) : ∀ (n : Nat) (cs : List Value), cs.length = n * s → ∃ rows : List (List Value), rows.flatten = cs ∧ rows.length = n ∧ ∀ r ∈ rows, r.length = s
  | 0, cs, h => ⟨[], by rw [Nat.zero_mul] at h; rw [List.eq_nil_of_length_eq_zero h]; rfl, rfl, by simp⟩
  | n + 1, cs, h => by
    rw [Nat.succ_mul] at h
    obtain ⟨rows, h1, h2, h3⟩ := rows_of s n (cs.drop s) (by rw [List.length_drop]; omega)
    refine ⟨cs.take s :: rows, by rw [List.flatten_cons, h1, List.take_append_drop], by rw [List.length_cons, h2], fun r hr => ?_⟩
    rcases List.mem_cons.1 hr with rfl | hr
    · rw [List.length_take]; omega
    · exact h3 r hr
theorem flat_mid {rows : List (List Value)} {i : Nat} {r : List Value} (h : rows[i]? = some r) : rows.flatten = (rows.take i).flatten ++ (r ++ (rows.drop (i + 1)).flatten) := by
  have hi := (List.getElem?_eq_some_iff.1 h).1
  have he := (List.getElem?_eq_some_iff.1 h).2
  conv => lhs; rw [← List.take_append_drop i rows, List.flatten_append, List.drop_eq_getElem_cons hi, List.flatten_cons, he]
theorem flat_set {rows : List (List Value)} {i : Nat} (hi : i < rows.length) (r : List Value) : (rows.set i r).flatten = (rows.take i).flatten ++ (r ++ (rows.drop (i + 1)).flatten) := by
  have := flat_mid (rows := rows.set i r) (i := i) (r := r) (by rw [List.getElem?_set_self hi])
  rw [this, List.take_set_of_le (Nat.le_refl i), List.drop_set_of_lt (by omega)]
theorem rtake_len {rows : List (List Value)} {s : Nat} (h : ∀ r ∈ rows, r.length = s) {i : Nat} (hi : i ≤ rows.length) : (rows.take i).flatten.length = i * s := by
  rw [flat_len (fun r hr => h r (List.mem_of_mem_take hr)), List.length_take, Nat.min_eq_left hi]
theorem box_own {w : World} {base g n s : Nat} {e : TypeId} {xs : List Value} (h : w.ownsRow base e s (.slice (some ⟨g, 0, none⟩) n n) n xs) : Box w g e xs := by
  rcases h.2 with ⟨h1, _⟩ | ⟨g', cap, cur, h1, _, h3, _, _, h6, h7⟩
  · cases h1
  · injection h1 with h1 _ h8
    injection h1 with h1
    injection h1 with h1 _
    subst h1 h8
    have : xs = cur.toList := by rw [← h7, List.take_of_length_le (by rw [Array.length_toList]; omega)]
    rw [this]
    exact h3
end Go.Baro
namespace Go.Proofs.YtnchgdjdfhfedaaGreatDoor
open Go.RowKit Go.Ord Go.Baro

/-- Thread i in its row of cells: own tells of each block whose it is (10 + 2 i what the thread has told, 11 + 2 i its code). -/
def Tc (own : Nat → Nat) (w : World) (B i : Nat) (row : List Value) (t : Td) (cs : Value) : Prop :=
  ∃ (cA : Option Addr) (cn cc : Nat) (p : Int) (r : Int → Int) (tv : Value) (l : List Ins) (tl : List Int), row = thC (.slice cA cn cc) p r tv ++ [.int .i64 i, cs, .int .i64 t.bg] ∧ RO w w.heap.size cA cn l ∧ (0 < cn → ∀ g q, cA = some ⟨g, q, none⟩ → own g = 11 + 2 * i) ∧
    w.ownsRow B 3 1 tv tl.length (tl.map (Value.int .i64)) ∧ (∀ k, tv.ownBlock = some k → own k = 10 + 2 * i) ∧ ((t.now = none ∧ p = cn) ∨ t.now = some ⟨l, p, r, tl⟩)
/-- All of it: the words (1), the threads (2), the events (4; 5: what they tell). -/
structure Pm (own : Nat → Nat) (w : World) (B tb nt : Nat) (wv ov : Value) (cls : Nat → Value) (rows : List (List Value)) (g : Gs) : Prop where
  words : w.ownsRow B 3 1 wv g.w.length (g.w.map (Value.int .i64))
  tw : ∀ k, wv.ownBlock = some k → own k = 1
  box : Box w tb 74 rows.flatten
  tt : own tb = 2
  len : rows.length = nt
  r30 : ∀ r ∈ rows, r.length = 30
  evs : Er (fun b => own b = 5) w B 47 ov g.out
  to : ∀ k, ov.ownBlock = some k → own k = 4
  th : ∀ i r, rows[i]? = some r → Tc own w B i r (g.th i) (cls i)
  Bt : B ≤ tb
section
variable {own own' : Nat → Nat} {w w' : World} {B tb nt i : Nat} {wv ov cs : Value} {cls : Nat → Value} {rows : List (List Value)} {row : List Value} {g : Gs} {t : Td} {X : Nat → Prop}
theorem own_ltR {e : TypeId} {s m k : Nat} {v : Value} {xs : List Value} (h : w.ownsRow B e s v m xs) (hk : v.ownBlock = some k) : k < w.heap.size := (h.lt k hk).2
theorem ro_lt {cA : Option Addr} {cn : Nat} {l : List Ins} {C : Nat} (h : RO w C cA cn l) (h0 : 0 < cn) {g q : Nat} (hg : cA = some ⟨g, q, none⟩) : g < C := by
  obtain ⟨bb, oo, hA', hlt, _⟩ := Rd.at_ h h0
  rw [hg] at hA'
  injection hA' with hA'
  injection hA' with hA' _
  omega
theorem Tc.un (h : Tc own w B i row t cs) (hu : Un X w w') (hX : ∀ k, k < w.heap.size → X k → own k ≠ 10 + 2 * i ∧ own k ≠ 11 + 2 * i) : Tc own w' B i row t cs := by
  obtain ⟨cA, cn, cc, p, r, tv, l, tl, h1, h2, h3, h4, h5, h6⟩ := h
  refine ⟨cA, cn, cc, p, r, tv, l, tl, h1, Rd.more (Rd.un h2 hu (Nat.le_refl _) (fun h0 g q hg hx => (hX g (ro_lt h2 h0 hg) hx).2 (h3 h0 g q hg))) hu.size, h3, own_un h4 hu (fun k hk hx => (hX k (own_ltR h4 hk) hx).1 (h5 k hk)), h5, h6⟩
theorem Tc.retag (h : Tc own w B i row t cs) (he : ∀ k, k < w.heap.size → own' k = own k) : Tc own' w B i row t cs := by
  obtain ⟨cA, cn, cc, p, r, tv, l, tl, h1, h2, h3, h4, h5, h6⟩ := h
  exact ⟨cA, cn, cc, p, r, tv, l, tl, h1, h2, fun h0 g q hg => (he g (ro_lt h2 h0 hg)).trans (h3 h0 g q hg), h4, fun k hk => (he k (own_ltR h4 hk)).trans (h5 k hk), h6⟩
theorem Pm.lt (h : Pm own w B tb nt wv ov cls rows g) : tb < w.heap.size := h.box.lt
theorem Pm.hB (h : Pm own w B tb nt wv ov cls rows g) : B ≤ w.heap.size := by have := h.lt; have := h.Bt; omega
/-- Nothing of it has turned. -/
theorem Pm.un (h : Pm own w B tb nt wv ov cls rows g) (hu : Un X w w') (hX : ∀ k, k < w.heap.size → X k → own k = 0) : Pm own w' B tb nt wv ov cls rows g := by
  refine ⟨own_un h.words hu fun k hk hx => ?_, h.tw, h.box.un hu fun hx => ?_, h.tt, h.len, h.r30, ?_, h.to, fun i r hr => (h.th i r hr).un hu (fun k hk hx => ?_), h.Bt⟩
  · have := hX k (own_ltR h.words hk) hx; have := h.tw k hk; omega
  · have := hX tb h.lt hx; have := h.tt; omega
  · obtain ⟨rws, h1, h2, h3, h4⟩ := h.evs
    refine Er.un (X := fun k => X k ∧ k < w.heap.size) ⟨rws, h1, h2, h3, h4⟩ ⟨hu.os, hu.tape, hu.output, hu.size, fun k hk hx => hu.block k hk fun h => hx ⟨h, hk⟩⟩ (fun k hk hx => ?_) (fun k hk hx => ?_)
    · have := hX k hx.2 hx.1; have := h.to k hk; omega
    · have := hX k hx.2 hx.1; omega
  · have := hX k hk hx; omega
theorem Pm.below (h : Pm own w B tb nt wv ov cls rows g) (hb : Below w.heap.size w w') : Pm own w' B tb nt wv ov cls rows g := h.un (X := fun _ => False) (un_below hb) (fun _ _ h => h.elim)
theorem Pm.drew (h : Pm own w B tb nt wv ov cls rows g) : Pm own w.drew B tb nt wv ov cls rows g := h.below (Below.refl _ _).drew
theorem Pm.alloc (h : Pm own w B tb nt wv ov cls rows g) (o : Obj) : Pm own (w.alloc o) B tb nt wv ov cls rows g := h.un (X := fun _ => False) ((Un.refl _ _).alloc o) (fun _ _ h => h.elim)
theorem Pm.retag (h : Pm own w B tb nt wv ov cls rows g) (he : ∀ k, k < w.heap.size → own' k = own k) : Pm own' w B tb nt wv ov cls rows g :=
  ⟨h.words, fun k hk => (he k (own_ltR h.words hk)).trans (h.tw k hk), h.box, (he tb h.lt).trans h.tt, h.len, h.r30, h.evs.mono (fun b hb h5 => (he b hb).trans h5), fun k hk => by
    obtain ⟨rws, h1, h2, h3, h4⟩ := h.evs
    exact (he k (own_ltR h3 hk)).trans (h.to k hk), fun i r hr => (h.th i r hr).retag he, h.Bt⟩
/-- A thread, taken out of it. -/
theorem Pm.at_ (h : Pm own w B tb nt wv ov cls rows g) {n : Nat} (hn : n < nt) : ∃ row cA cn tv, rows[n]? = some row ∧ Tl w B tb (n * 30) (rows.take n).flatten (rows.drop (n + 1)).flatten n (cls n) wv g.w (g.th n) cA cn tv ∧ (∀ k, tv.ownBlock = some k → own k = 10 + 2 * n ∧ B ≤ k ∧ k < w.heap.size) ∧ (0 < cn → ∀ g q, cA = some ⟨g, q, none⟩ → own g = 11 + 2 * n ∧ g < w.heap.size) := by
  have hlt : n < rows.length := by rw [h.len]; exact hn
  have hr : rows[n]? = some rows[n] := List.getElem?_eq_getElem hlt
  obtain ⟨cA, cn, cc, p, r, tv, l, tl, h1, h2, h3, h4, h5, h6⟩ := h.th n _ hr
  refine ⟨rows[n], cA, cn, tv, hr, ⟨cc, p, r, l, tl, ⟨?_, rtake_len h.r30 (by omega), h4, h.words, ?_, by decide⟩, h2, fun h0 gg q hg => ?_, h6⟩, fun k hk => ⟨h5 k hk, h4.lt k hk⟩, fun h0 gg q hg => ⟨h3 h0 gg q hg, ro_lt h2 h0 hg⟩⟩
  · have := h.box
    rw [flat_mid hr, h1, List.append_assoc] at this
    exact this
  · cases hq : wv.ownBlock with
    | none => exact .inl rfl
    | some k =>
      refine .inr fun he => ?_
      have := h5 k he.symm
      have := h.tw k hq
      omega
  · have := h3 h0 gg q hg
    refine ⟨fun he => ?_, fun he => ?_, fun he => ?_⟩
    · have h2 := h.tt; rw [← he] at h2; omega
    · have := h5 gg he; omega
    · have := h.tw gg he; omega
/-- What a thread's step leaves of it. -/
theorem Pm.one (h : Pm own w B tb nt wv ov cls rows g) {n M : Nat} (hn : n < nt) {cA cA' : Option Addr} {cn cn' : Nat} {tv tv' : Value} {W : List Int} {t' : Td} (htv : ∀ k, tv.ownBlock = some k → own k = 10 + 2 * n ∧ B ≤ k ∧ k < w.heap.size) (hcA : 0 < cn → ∀ g q, cA = some ⟨g, q, none⟩ → own g = 11 + 2 * n ∧ g < w.heap.size)
    (hl : Tl w' B tb (n * 30) (rows.take n).flatten (rows.drop (n + 1)).flatten n (cls n) wv W t' cA' cn' tv') (hM : w.heap.size ≤ M) (hcA' : 0 < cn' → ∀ g q, cA' = some ⟨g, q, none⟩ → (cA' = cA ∧ cn' = cn) ∨ (w.heap.size ≤ g ∧ g < M)) (htv' : ∀ g, tv'.ownBlock = some g → tv.ownBlock = some g ∨ (w.heap.size ≤ g ∧ g < M)) (hu : Un (touch tb tb tv wv) w w') :
    ∃ own' rows', Pm own' w' B tb nt wv ov cls rows' ⟨W, putT g.th n t', g.out⟩ ∧ (∀ k, M ≤ k → own' k = 5) ∧ (∀ k, w.heap.size ≤ k → own' k ≠ 4) := by
  obtain ⟨cc, p, r, l, tl, hto, hro, hcb, hnow⟩ := hl
  have hlt : n < rows.length := by rw [h.len]; exact hn
  refine ⟨fun k => if k < w.heap.size then own k else if M ≤ k then 5 else if tv'.ownBlock = some k then 10 + 2 * n else 11 + 2 * n, rows.set n (thC (.slice cA' cn' cc) p r tv' ++ [.int .i64 n, cls n, .int .i64 t'.bg]), ?_, fun k hk => ?_, fun k hk => ?_⟩
  · have hre : ∀ k, k < w.heap.size → (fun k => if k < w.heap.size then own k else if M ≤ k then 5 else if tv'.ownBlock = some k then 10 + 2 * n else 11 + 2 * n) k = own k := fun k hk => by
      show (if k < w.heap.size then own k else if M ≤ k then 5 else if tv'.ownBlock = some k then 10 + 2 * n else 11 + 2 * n) = own k
      rw [if_pos hk]
    have hT : ∀ k, touch tb tb tv wv k → own k = 2 ∨ own k = 10 + 2 * n ∨ own k = 1 := by
      intro k hk
      rcases hk with rfl | rfl | hk | hk
      · exact .inl h.tt
      · exact .inl h.tt
      · exact .inr (.inl (htv k hk.symm).1)
      · exact .inr (.inr (h.tw k hk.symm))
    refine ⟨hto.words, fun k hk => (hre k (own_ltR h.words hk)).trans (h.tw k hk), ?_, (hre tb h.lt).trans h.tt, by rw [List.length_set]; exact h.len, fun q hq => ?_, ?_, fun k hk => ?_, fun i q hq => ?_, h.Bt⟩
    · have := hto.box
      rw [flat_set hlt, List.append_assoc]
      exact this
    · rcases List.mem_or_eq_of_mem_set hq with hq | hq
      · exact h.r30 q hq
      · rw [hq, List.length_append, thC_len]; rfl
    · have h1 : Er (fun b => own b = 5 ∧ b < w.heap.size) w B 47 ov g.out := h.evs.mono fun b hb h5 => ⟨h5, hb⟩
      refine (h1.un hu (fun k hk hx => ?_) (fun b hb hx => ?_)).mono fun b _ hb => (hre b hb.2).trans hb.1
      · have := hT k hx; have := h.to k hk; omega
      · have := hT b hx; omega
    · obtain ⟨rws, h1, h2, h3, h4⟩ := h.evs
      exact (hre k (own_ltR h3 hk)).trans (h.to k hk)
    · by_cases hin : i = n
      · subst hin
        rw [List.getElem?_set_self hlt] at hq
        injection hq with hq
        subst hq
        refine ⟨cA', cn', cc, p, r, tv', l, tl, by simp [putT], hro, fun h0 gg q hg => ?_, hto.told, fun k hk => ?_, by simpa [putT] using hnow⟩
        · rcases hcA' h0 gg q hg with ⟨h1, h2⟩ | ⟨h1, h2⟩
          · rw [h2] at h0
            rw [h1] at hg
            have := hcA h0 gg q hg
            exact (hre gg this.2).trans this.1
          · have hne := (hcb h0 gg q hg).2.1
            show (if gg < w.heap.size then own gg else if M ≤ gg then 5 else if tv'.ownBlock = some gg then 10 + 2 * i else 11 + 2 * i) = _
            rw [if_neg (by omega), if_neg (by omega), if_neg hne]
        · rcases htv' k hk with h1 | ⟨h1, h2⟩
          · have := htv k h1
            exact (hre k this.2.2).trans this.1
          · show (if k < w.heap.size then own k else if M ≤ k then 5 else if tv'.ownBlock = some k then 10 + 2 * i else 11 + 2 * i) = _
            rw [if_neg (by omega), if_neg (by omega), if_pos hk]
      · rw [List.getElem?_set_ne (by omega)] at hq
        have := ((h.th i q hq).retag (own' := fun k => if k < w.heap.size then own k else if M ≤ k then 5 else if tv'.ownBlock = some k then 10 + 2 * n else 11 + 2 * n) hre).un hu (fun k hk hx => by rw [if_pos hk]; have := hT k hx; omega)
        show Tc _ w' B i q (putT g.th n t' i) (cls i)
        rw [show (putT g.th n t' i) = g.th i by simp [putT, hin]]
        exact this
  · show (if k < w.heap.size then own k else if M ≤ k then 5 else if tv'.ownBlock = some k then 10 + 2 * n else 11 + 2 * n) = 5
    rw [if_neg (by omega), if_pos hk]
  · show (if k < w.heap.size then own k else if M ≤ k then 5 else if tv'.ownBlock = some k then 10 + 2 * n else 11 + 2 * n) ≠ 4
    rw [if_neg (by omega)]
    split
    · omega
    · split <;> omega
/-- An event is added. -/
theorem Pm.event (h : Pm own w B tb nt wv ov cls rows g) {rws : List (List Value)} {r : List Value} {y : Ev} {v' : Value} {o : Obj} {k : Nat} (h1 : rws.length = g.out.length) (h2 : ∀ r ∈ rws, r.length = 6) (h3 : w.ownsRow B 47 6 ov g.out.length rws.flatten)
    (h4 : ∀ (i : Nat) r x, rws[i]? = some r → g.out[i]? = some x → eP (fun b => own b = 5) w r x) (ho : w'.ownsRow B 47 6 v' k (rws.flatten ++ r)) (hk : k = g.out.length + 1) (hg : (w.alloc o).grownBy w' ov.ownBlock) (hb : v'.ownBlock = ov.ownBlock ∨ v'.ownBlock = some (w.heap.size + 1)) (hr : eP (fun b => own b = 5) w r y) :
    Pm (fun k => if k < w.heap.size then own k else 4) w' B tb nt wv v' cls rows { g with out := g.out ++ [y] } := by
  have hre : ∀ k, k < w.heap.size → (fun k => if k < w.heap.size then own k else 4) k = own k := fun k hk => by show (if k < w.heap.size then own k else 4) = own k; rw [if_pos hk]
  have hu : Un (fun k => some k = ov.ownBlock) w w' := un_grown ((Un.refl _ w).alloc o) hg (fun k hk => hk.symm)
  have e : ∀ k, some k = ov.ownBlock → own k = 4 := fun k hk => h.to k hk.symm
  have h' := h.retag hre
  have e' : ∀ k, k < w.heap.size → some k = ov.ownBlock → (if k < w.heap.size then own k else 4) = 4 := fun k hk hx => (hre k hk).trans (e k hx)
  refine ⟨own_un h'.words hu fun k hk hx => ?_, h'.tw, h'.box.un hu fun hx => ?_, h'.tt, h.len, h.r30, ?_, fun k hk => ?_, fun i q hq => (h'.th i q hq).un hu (fun k hk hx => ?_), h.Bt⟩
  · have := e k hx; have := h.tw k hk; omega
  · have := e tb hx; have := h.tt; omega
  · have hE : Er (fun b => own b = 5 ∧ b < w.heap.size) w' B 47 v' (g.out ++ [y]) := by
      have hm : ∀ (r : List Value) (x : Ev), eP (fun b => own b = 5) w r x → eP (fun b => own b = 5 ∧ b < w.heap.size) w r x := by
        rintro r x ⟨A, n, k, q1, q2, q3, q4, q5⟩
        refine ⟨A, n, k, q1, q2, q3, q4, fun h0 b o hA => ⟨q5 h0 b o hA, ?_⟩⟩
        obtain ⟨b', o', hA', hb', _⟩ := Rd.at_ q4 h0
        rw [hA] at hA'
        injection hA' with hA'
        injection hA' with hA' _
        omega
      exact er_snoc h1 h2 (fun i r x hr hx => hm r x (h4 i r x hr hx)) ho hk hu (fun b hb hx => by have := e b hx; omega) (hm _ _ hr)
    exact hE.mono fun b _ hb5 => by rw [if_pos hb5.2]; exact hb5.1
  · rcases hb with hb | hb
    · exact h'.to k (hb ▸ hk)
    · rw [hb] at hk
      injection hk with hk
      rw [if_neg (by omega)]
  · have := e' k hk hx; omega
/-- As the run begins. -/
theorem Pm.init {m : Mc} (hw : w.ownsRow B 3 1 wv m.ws.length (m.ws.map (Value.int .i64))) (hb : Box w tb 74 rows.flatten) (hne : wv.ownBlock ≠ some tb) (hl : rows.length = nt) (hr : ∀ (i : Nat) (r : List Value), rows[i]? = some r → r = thZ ++ [.int .i64 i, cls i, .int .i64 0]) (hB : B ≤ tb) :
    Pm (fun k => if k = tb then 2 else 1) w B tb nt wv (.slice none 0 0) cls rows (g0 m) := by
  refine ⟨hw, fun k hk => ?_, hb, by simp, hl, fun r hrm => ?_, Er.nil _ _ _ _, fun k hk => (by cases hk), fun i r hri => ?_, hB⟩
  · have : k ≠ tb := fun e => hne (e ▸ hk)
    rw [if_neg this]
  · obtain ⟨i, hi⟩ := List.mem_iff_getElem?.1 hrm
    rw [hr i r hi, List.length_append, show thZ.length = 27 from thC_len]; rfl
  · rw [hr i r hri]
    exact ⟨none, 0, 0, 0, fun _ => 0, .slice none 0 0, [], [], rfl, ⟨rfl, fun h => absurd h (by omega)⟩, fun h => absurd h (by omega), World.ownsRow_nil _ _ _ _, fun k hk => (by cases hk), .inl ⟨rfl, rfl⟩⟩
end
end Go.Proofs.YtnchgdjdfhfedaaGreatDoor

set_option linter.unusedSimpArgs false
set_option linter.unusedVariables false
namespace Go.Proofs.YtnchgdjdfhfedaaGreatDoor
open Go.RowKit Go.Ord Go.Baro

/-- What is wrong with a machine and its schedule. -/
def PcR (m : Mc) (s : List Int) (E : Int) : Prop := (¬ okMc m ∧ E = 4) ∨ (okMc m ∧ 6000 < s.length ∧ E = 1) ∨ (okMc m ∧ s.length ≤ 6000 ∧ (∃ x ∈ s, x < 0 ∨ (m.ts.length : Int) ≤ x) ∧ E = 2) ∨ (okMc m ∧ s.length ≤ 6000 ∧ (∀ x ∈ s, 0 ≤ x ∧ x < m.ts.length) ∧ E = 0)

set_option maxRecDepth 100000 in
set_option maxHeartbeats 2000000 in
theorem run_check (w : World) (hT : Tab w) (Aw : Option Addr) (nw cw : Nat) (Ac : Option Addr) (nc cc : Nat) (At : Option Addr) (nt ct : Nat) (m : Mc) (As : Option Addr) (ns cs : Nat) (s : List Int) (E : Int) (hm : InM w Aw nw cw Ac nc cc At nt ct m) (hs : RI w w.heap.size .i64 As ns s) (hn : ns ≤ 140737488355328) (hE : PcR m s E) :
    Calls Tryz.prog 33 #[.agg #[.slice Aw nw cw, .slice Ac nc cc, .slice At nt ct], .slice As ns cs] w fun e w' => e = .returned (.int .i64 E) ∧ Below w.heap.size w w' := by
  have LS := Lib.hid hs.len
  have HM := Lib.hid hm
  have HT := Lib.hid hT
  have LT := Lib.hid hm.ts.len
  have h0 : Below w.heap.size w w := Below.refl _ _
  have hA := h0.alloc (Nat.le_refl _) (Obj.cells #[.slice Aw nw cw, .slice Ac nc cc, .slice At nt ct] 37)
  have bX := Box.newAt w 37 [.slice Aw nw cw, .slice Ac nc cc, .slice At nt ct] w.heap.size rfl
  have hmA : InM (w.alloc (Obj.cells #[.slice Aw nw cw, .slice Ac nc cc, .slice At nt ct] 37)) Aw nw cw Ac nc cc At nt ct m := hm.below hA
  have HMA := Lib.hid hmA
  have HTA := Lib.hid (hT.below hA hT.lt)
  clear hm hmA hT
  rcases hE with ⟨hno, rfl⟩ | ⟨hok, hbig, rfl⟩ | hR
  · have HNO := Lib.hid hno
    clear hno
    go_enter Tryz.func33, Tryz.ntmps33
    go_wp2_with fail
    refine (run_May _ HTA.out Aw nw cw Ac nc cc At nt ct m false HMA.out ⟨(fun h => nomatch h), fun h => absurd h HNO.out⟩).mono ?_
    rintro e w1 ⟨rfl, hb1⟩
    go_wp2
    go_ret
    exact ⟨rfl, hA.trans (hb1.mono (by simp))⟩
  · have HOK := Lib.hid hok
    have hbn : 6000 < ns := by rw [LS.out] at hbig; exact hbig
    clear hok hbig
    go_enter Tryz.func33, Tryz.ntmps33
    go_wp2_with fail
    refine (run_May _ HTA.out Aw nw cw Ac nc cc At nt ct m true HMA.out ⟨fun _ => HOK.out, fun _ => rfl⟩).mono ?_
    rintro e w1 ⟨rfl, hb1⟩
    go_wp2
    go_ret
    exact ⟨rfl, hA.trans (hb1.mono (by simp))⟩
  have hok : okMc m := by rcases hR with hR | hR <;> exact hR.1
  have hsl : ns ≤ 6000 := by rw [← LS.out]; rcases hR with hR | hR <;> exact hR.2.1
  have HOK := Lib.hid hok
  have HR := Lib.hid hR
  clear hok hR
  go_enter Tryz.func33, Tryz.ntmps33
  go_wp2_with fail
  refine (run_May _ HTA.out Aw nw cw Ac nc cc At nt ct m true HMA.out ⟨fun _ => HOK.out, fun _ => rfl⟩).mono ?_
  rintro e w1 ⟨rfl, hb1⟩
  have bX1 := bX.below hb1 (by simp)
  have hb2 := hA.trans (hb1.mono (by simp))
  have hs1 := hb2.size
  have lX1 := bX1.lt
  have x2 : w1.cell? ⟨w.heap.size, 2, none⟩ = _ := bX1.cell 2
  simp only [List.getElem?_cons_zero, List.getElem?_cons_succ] at x2
  have hnt4 : nt ≤ 4 := by have := HOK.out.2.2.1; rw [LT.out] at this; exact this
  go_wp2
  go_loopw [15] (fun i wr => ∃ j : Nat, j ≤ ns ∧ i = .int .i64 j ∧ Hid (∀ x ∈ s.take j, 0 ≤ x ∧ x < (nt : Int)) ∧ wr = w1) (fun i _ => ns - (intOf i).toNat)
  case atStart => exact ⟨0, Nat.zero_le _, rfl, by intro c h; simp at h, rfl⟩
  case round =>
    obtain ⟨j, hj, rfl, HS, rfl⟩ := hrel
    by_cases hjm : j < ns
    · obtain ⟨b, o, x, rfl, hbB, hcell, HX, hmem⟩ := (hs.below hb2).val hjm
      have hbad : x < 0 ∨ (nt : Int) ≤ x → E = 2 := by
        intro hx
        rcases HR.out with ⟨_, _, _, h⟩ | ⟨_, _, h, _⟩
        · exact h
        · have := h x hmem; rw [LT.out] at this; omega
      clear hmem
      by_cases c1 : x < 0
      · obtain rfl := hbad (.inl c1)
        clear hbad
        go_wp2
        go_ret
        exact ⟨rfl, hb2⟩
      by_cases c2 : (nt : Int) ≤ x
      · obtain rfl := hbad (.inr c2)
        clear hbad
        go_wp2
        go_ret
        exact ⟨rfl, hb2⟩
      clear hbad
      go_wp2
      go_roundw
      case rel =>
        refine ⟨j + 1, by omega, by go_num, ?_, by first | rfl | trivial⟩
        intro d hd
        rw [at_take HX.out] at hd
        rcases List.mem_append.1 hd with hd | hd
        · exact HS.out d hd
        · rw [List.mem_singleton.1 hd]; omega
      case measure => simp [intOf]; omega
    · obtain rfl : ns = j := by omega
      have HS2 := HS.out
      rw [List.take_of_length_le (by rw [LS.out]; omega)] at HS2
      have HS := Lib.hid HS2
      clear HS2
      have hgood : E = 0 := by
        rcases HR.out with ⟨_, _, ⟨x, hx, hx2⟩, _⟩ | ⟨_, _, _, h⟩
        · have := HS.out x hx; rw [LT.out] at hx2; omega
        · exact h
      subst hgood
      go_wp2
      go_ret
      exact ⟨rfl, hb2⟩
end Go.Proofs.YtnchgdjdfhfedaaGreatDoor

set_option linter.unusedSimpArgs false
set_option linter.unusedVariables false
namespace Go.Proofs.YtnchgdjdfhfedaaGreatDoor
open Go.RowKit Go.Ord Go.Baro

theorem eltThread : Elt Tryz.prog 69 74 (.agg #[Value.slice none 0 0, .int .i64 0, .int .i64 0, .int .i64 0, .int .i64 0, .int .i64 0, .int .i64 0, .int .i64 0, .int .i64 0, .int .i64 0, .int .i64 0, .int .i64 0, .int .i64 0, .int .i64 0, .int .i64 0, .int .i64 0, .int .i64 0, .int .i64 0, .int .i64 0, .int .i64 0, .int .i64 0, .int .i64 0, .int .i64 0, .int .i64 0, .int .i64 0, .int .i64 0, .slice none 0 0, .int .i64 0, .slice none 0 0, .int .i64 0]) 30 288 := Elt.mk' Tryz.underlying69 (by kernel_rfl) rfl (by decide)
theorem thR_arr (i : Nat) (v : Value) : (thZ ++ [.int .i64 i, v, .int .i64 0]).toArray = #[Value.slice none 0 0, .int .i64 0, .int .i64 0, .int .i64 0, .int .i64 0, .int .i64 0, .int .i64 0, .int .i64 0, .int .i64 0, .int .i64 0, .int .i64 0, .int .i64 0, .int .i64 0, .int .i64 0, .int .i64 0, .int .i64 0, .int .i64 0, .int .i64 0, .int .i64 0, .int .i64 0, .int .i64 0, .int .i64 0, .int .i64 0, .int .i64 0, .int .i64 0, .int .i64 0, .slice none 0 0, .int .i64 i, v, .int .i64 0] := by
  have h := congrArg Array.toList thZ_arr
  simp only [List.toList_toArray] at h
  rw [h]; rfl
theorem actG_eq (m : Mc) (g : Gs) (st n : Nat) : actG m g st n = ⟨(actT m n (g.th n) g.w).w, putT g.th n ((actT m n (g.th n) g.w).th n), g.out ++ (actT m n (g.th n) g.w).out.map (inSt st)⟩ := by rw [actG_zero, actG_T]
theorem eP_mono {P P' : Nat → Prop} {w : World} {r : List Value} {x : Ev} (h : eP P w r x) (hP : ∀ b, b < w.heap.size → P b → P' b) : eP P' w r x := by
  obtain ⟨A, n, k, q1, q2, q3, q4, q5⟩ := h
  refine ⟨A, n, k, q1, q2, q3, q4, fun h0 b o hA => ?_⟩
  obtain ⟨b', o', hA', hb', _⟩ := Rd.at_ q4 h0
  rw [hA] at hA'
  injection hA' with hA'
  injection hA' with hA' _
  exact hP b (by omega) (q5 h0 b o hA)
theorem ply_nextC {m : Mc} {s : List Int} {j n : Nat} {g : Gs} (hg : g = plyG m 0 ((s.take j).map Int.toNat) (g0 m)) (hx : s[j]? = some (n : Int)) : actG m g j n = plyG m 0 ((s.take (j + 1)).map Int.toNat) (g0 m) := by
  have hj : j < s.length := (List.getElem?_eq_some_iff.1 hx).1
  rw [at_take hx, List.map_append, List.map_singleton, plyG_snoc, ← hg, Int.toNat_natCast]
  congr 1
  simp; omega

set_option maxRecDepth 100000 in
set_option maxHeartbeats 4000000 in
theorem run_PlayW : PlaySpecW := by
  intro w hT Aw nw cw Ac nc cc At nt ct m As ns cs s T W E hm hs hn hR
  have LS := Lib.hid hs.len
  have HM := Lib.hid hm
  have HT := Lib.hid hT
  have LT := Lib.hid hm.ts.len
  have LC := Lib.hid hm.cs.len
  have LW := Lib.hid hm.ws.len
  have h0 : Below w.heap.size w w := Below.refl _ _
  have hA := h0.alloc (Nat.le_refl _) (Obj.cells #[.slice Aw nw cw, .slice Ac nc cc, .slice At nt ct] 37)
  have bX := Box.newAt w 37 [.slice Aw nw cw, .slice Ac nc cc, .slice At nt ct] w.heap.size rfl
  have HMA := Lib.hid (show InM (w.alloc (Obj.cells #[.slice Aw nw cw, .slice Ac nc cc, .slice At nt ct] 37)) Aw nw cw Ac nc cc At nt ct m from hm.below hA)
  have HTA := Lib.hid (hT.below hA hT.lt)
  have HSA := Lib.hid ((hs.below hA).more hA.size)
  clear hm hT
  by_cases hE : E = 0
  · have hgood : okMc m ∧ s.length ≤ 6000 ∧ (∀ x ∈ s, 0 ≤ x ∧ x < m.ts.length) ∧ T = (plyG m 0 (s.map Int.toNat) (g0 m)).out ∧ W = (plyG m 0 (s.map Int.toNat) (g0 m)).w := by
      rcases hR with ⟨_, _, _, h⟩ | ⟨_, _, _, _, h⟩ | ⟨_, _, _, _, _, h⟩ | ⟨h1, h2, h3, h4, h5, _⟩
      · rw [hE] at h; cases h
      · rw [hE] at h; cases h
      · rw [hE] at h; cases h
      · exact ⟨h1, h2, h3, h4, h5⟩
    obtain ⟨hok, hsl, hsx, rT, rW⟩ := hgood
    subst hE
    have HPC := Lib.hid (show PcR m s 0 from .inr (.inr (.inr ⟨hok, hsl, hsx, rfl⟩)))
    have HOK := Lib.hid hok
    have HTW := Lib.hid (And.intro rT rW)
    have hnt4 : nt ≤ 4 := by have := hok.2.2.1; rw [LT.out] at this; exact this
    have hnw : nw ≤ 200 := by have := hok.1; rw [LW.out] at this; exact this
    have hsl' : ns ≤ 6000 := by rw [← LS.out]; exact hsl
    have HSX := Lib.hid (show ∀ x ∈ s, 0 ≤ x ∧ x < (nt : Int) by rw [← LT.out]; exact hsx)
    clear hR hok hsl hsx rT rW
    obtain ⟨cls, HCLS⟩ : ∃ cls : Nat → Value, Hid (∀ b o i v, At = some ⟨b, o, none⟩ → w.cell? ⟨b, o + i, none⟩ = some v → cls i = v) :=
      ⟨fun i => match At with | some a => (w.cell? ⟨a.block, a.off + i, none⟩).getD (.bool false) | none => .bool false, by intro b o i v h1 h2; subst h1; show (w.cell? ⟨b, o + i, none⟩).getD _ = v; rw [h2]; rfl⟩
    go_enter Tryz.func12, Tryz.ntmps12
    go_wp2_with fail
    refine (run_check _ HTA.out Aw nw cw Ac nc cc At nt ct m As ns cs s 0 HMA.out HSA.out hn HPC.out).mono ?_
    rintro e w1 ⟨rfl, hb1⟩
    have bX1 := bX.below hb1 (by simp)
    have hb2 := hA.trans (hb1.mono (by simp))
    have hs1 : w.heap.size + 1 ≤ w1.heap.size := by have := hb1.size; simp at this; exact this
    have lX1 := bX1.lt
    have x0 : w1.cell? ⟨w.heap.size, 0, none⟩ = _ := bX1.cell 0
    have x1 : w1.cell? ⟨w.heap.size, 1, none⟩ = _ := bX1.cell 1
    have x2 : w1.cell? ⟨w.heap.size, 2, none⟩ = _ := bX1.cell 2
    simp only [List.getElem?_cons_zero, List.getElem?_cons_succ] at x0 x1 x2
    go_wp2_with (at_make; refine make_all eltThread w1 rfl _ _ rfl (w.heap.size + 1) _ _ _ _ nt rfl rfl rfl rfl (by omega) (by omega) hs1 ?_; intro w2 hown2 hbel2 hsz2 hg2; have hb12 := hbel2 w1 (Below.refl _ _); have bX2 := bX1.below hb12 (by omega); have lX2 := bX2.lt; have x2' : w2.cell? ⟨w.heap.size, 2, none⟩ = some (.slice At nt ct) := bX2.cell 2)
    obtain ⟨rows2, hr2a, hr2b, hr2c⟩ := rows_of 30 nt _ hown2.1
    have hbox2 := box_own hown2
    rw [← hr2a] at hbox2
    have HBX2 := Lib.hid hbox2
    have HR2B := Lib.hid hr2b
    have HR2C := Lib.hid hr2c
    clear hown2 hbel2 hg2 hr2a hr2b hr2c hbox2
    go_loopw [30] (fun i wr => ∃ (j : Nat) (rows : List (List Value)), j ≤ nt ∧ i = .int .i64 j ∧ Hid (Box wr w1.heap.size 74 rows.flatten) ∧ Hid (rows.length = nt) ∧ Hid (∀ r ∈ rows, r.length = 30) ∧ Hid (∀ i, i < j → rows[i]? = some (thZ ++ [.int .i64 i, cls i, .int .i64 0])) ∧ Below (w.heap.size + 1) w1 wr) (fun i _ => nt - (intOf i).toNat)
    case atStart => exact ⟨0, rows2, Nat.zero_le _, rfl, HBX2.out, HR2B.out, HR2C.out, by intro i hi; omega, hb12⟩
    case round =>
      clear x0 x1 x2 x2' lX2
      obtain ⟨j, rows, hj, rfl, HBX, HRB, HRC, HRI, hbel⟩ := hrel
      have bXr := bX1.below hbel (by omega)
      have lXr := bXr.lt
      have x0 : wr.cell? ⟨w.heap.size, 0, none⟩ = _ := bXr.cell 0
      have x1 : wr.cell? ⟨w.heap.size, 1, none⟩ = _ := bXr.cell 1
      have x2 : wr.cell? ⟨w.heap.size, 2, none⟩ = _ := bXr.cell 2
      simp only [List.getElem?_cons_zero, List.getElem?_cons_succ] at x0 x1 x2
      have hbw := hb2.trans (hbel.mono (by omega))
      have lB := HBX.out.lt
      by_cases hjm : j < nt
      · obtain ⟨b, o, A', n', k, t, rfl, hbB, hcell0, hlk, hrl, HXt, hmem⟩ := HM.out.ts.val hjm
        have hcell := (hbw.cell (p := ⟨b, o + j, none⟩) hbB).trans hcell0
        have HCV := Lib.hid (HCLS.out b o j _ rfl hcell0)
        have hjr : j < rows.length := by rw [HRB.out]; exact hjm
        have HOLD : Hid (rows[j]? = some rows[j]) := List.getElem?_eq_getElem hjr
        have lb : b < wr.heap.size := by omega
        obtain ⟨R, hRd⟩ : ∃ R, R = thZ ++ [.int .i64 j, .slice A' n' k, .int .i64 0] := ⟨_, rfl⟩
        have HRA := Lib.hid (show R.toArray = #[Value.slice none 0 0, .int .i64 0, .int .i64 0, .int .i64 0, .int .i64 0, .int .i64 0, .int .i64 0, .int .i64 0, .int .i64 0, .int .i64 0, .int .i64 0, .int .i64 0, .int .i64 0, .int .i64 0, .int .i64 0, .int .i64 0, .int .i64 0, .int .i64 0, .int .i64 0, .int .i64 0, .int .i64 0, .int .i64 0, .int .i64 0, .int .i64 0, .int .i64 0, .int .i64 0, .slice none 0 0, .int .i64 j, .slice A' n' k, .int .i64 0] by rw [hRd]; exact thR_arr _ _)
        have HRL := Lib.hid (show R.length = 30 by rw [hRd, List.length_append, show thZ.length = 27 from thC_len]; rfl)
        have HRO := Lib.hid (show ∀ v ∈ R, v.oneCell' = true by
          rw [hRd]
          intro v hv
          rcases List.mem_append.1 hv with hv | hv
          · exact thC_one rfl rfl v hv
          · simp at hv; rcases hv with rfl | rfl | rfl <;> rfl)
        have HRD := Lib.hid hRd
        have HIN := Lib.hid (show (Tryz.prog.info? 74).map (·.size) = some 30 by kernel_rfl)
        have HBM := Lib.hid (show Box wr w1.heap.size 74 ((rows.take j).flatten ++ (rows[j] ++ (rows.drop (j + 1)).flatten)) by rw [← flat_mid HOLD.out]; exact HBX.out)
        have HTL := Lib.hid (rtake_len HRC.out (i := j) (by omega))
        have HOL := Lib.hid (HRC.out rows[j] (List.getElem_mem hjr))
        clear hcell0 hRd hmem
        go_wp2_with (refine store_mid rfl rfl 74 (.tmp 40) (.tmp 39) rfl w1.heap.size (j * 30) R rfl (congrArg Value.agg HRA.out.symm) 74 (rows.take j).flatten rows[j] (rows.drop (j + 1)).flatten HBM.out HTL.out (by rw [HOL.out, HRL.out]) (by rw [HRL.out]; exact HIN.out) HRO.out ?_; intro w3 HG3 hg3)
        go_roundw
        case rel =>
          refine ⟨j + 1, rows.set j R, by omega, by go_num, ?_, ?_, ?_, ?_, below_set hbel hg3 (by omega) (by omega)⟩
          · show Box _ _ _ _
            rw [flat_set hjr]; exact HG3.out
          · show _ = _
            rw [List.length_set]; exact HRB.out
          · intro r hr
            rcases List.mem_or_eq_of_mem_set hr with hr | hr
            · exact HRC.out r hr
            · rw [hr]; exact HRL.out
          · intro i hi
            by_cases hij : i = j
            · subst hij
              rw [List.getElem?_set_self hjr, HRD.out, HCV.out]
            · rw [List.getElem?_set_ne (by omega)]; exact HRI.out i (by omega)
        case measure => simp [intOf]; omega
      · obtain rfl : nt = j := by omega
        have hszr := hbel.size
        go_wp2_with fail
        refine (slices_CloneI m.ws Aw nw cw w.heap.size wr (HM.out.ws.below hbw) (by omega) hnw).mono ?_
        rintro e w4 ⟨wv, rfl, hown4, hb4⟩
        obtain ⟨wA, wc, rfl, _⟩ := own_form hown4
        have hb14 : Below (w.heap.size + 1) w1 w4 := hbel.trans (hb4.mono (by omega))
        have HP0 := Lib.hid (Pm.init (m := m) (cls := cls) (nt := nt) (tb := w1.heap.size) (B := w.heap.size + 1) (by rw [LW.out]; exact own_low hown4 (by omega)) (HBX.out.below hb4 lB) (fun h => by have := (hown4.lt _ h).1; omega) HRB.out (fun i r hr => by
          have hi : i < rows.length := (List.getElem?_eq_some_iff.1 hr).1
          rw [HRI.out i (by rw [← HRB.out]; exact hi)] at hr
          injection hr with hr
          exact hr.symm) hs1)
        clear x0 x1 x2 lXr bXr HBX hown4 lB hbw
        go_wp2
        go_loopw [12, 47] (fun ov i wr => ∃ (j : Nat) (own : Nat → Nat) (rows : List (List Value)) (g : Gs), j ≤ ns ∧ i = .int .i64 j ∧ Hid (g = plyG m 0 ((s.take j).map Int.toNat) (g0 m)) ∧ Hid (Pm own wr (w.heap.size + 1) w1.heap.size nt (.slice wA nw wc) ov cls rows g) ∧ Below (w.heap.size + 1) w1 wr ∧ ∃ A n c, ov = .slice A n c) (fun _ i _ => ns - (intOf i).toNat)
        case atStart => exact ⟨0, _, _, _, Nat.zero_le _, rfl, rfl, HP0.out, hb14, _, _, _, rfl⟩
        case round =>
          clear HRB HRC HRI hbel hszr
          obtain ⟨j, own, rows, g, hj, rfl, HG, HP, hbel, Ao, no, co, rfl⟩ := hrel
          have hbw := hb2.trans (hbel.mono (by omega))
          have bXr := bX1.below hbel (by omega)
          have lXr := bXr.lt
          have x1 : wr.cell? ⟨w.heap.size, 1, none⟩ = _ := bXr.cell 1
          simp only [List.getElem?_cons_zero, List.getElem?_cons_succ] at x1
          have hszr := hbel.size
          have hGO : GOk m j g := by
            rw [HG.out]
            exact plyG_ok HOK.out (fun c hc => ⟨HOK.out.2.2.2.1 c hc, (HM.out.cok c hc).2⟩) (fun t ht c hc => ((HM.out.tok t ht).2 c hc).2.2) HM.out.wok j _ (by simp [LS.out]; omega)
          have HGO := Lib.hid hGO
          clear hGO
          by_cases hjm : j < ns
          · obtain ⟨b0, o0, x, rfl, hbB0, hcell0, HX, hmem⟩ := (hs.below hbw).val hjm
            obtain ⟨n, rfl⟩ : ∃ n : Nat, x = n := ⟨x.toNat, by have := HSX.out x hmem; omega⟩
            have hn' : n < nt := by have := HSX.out _ hmem; omega
            clear hmem
            obtain ⟨bt, ot, A1, n1, k1, t, rfl, hbt, hct0, hlk, hrl, HXt, hmt⟩ := HM.out.ts.val hn'
            have HCV := Lib.hid (HCLS.out bt ot n _ rfl hct0)
            have HRLS := Lib.hid (RLs.below hrl hbw.drew)
            have HTOK := Lib.hid (fun c hc => ((HM.out.tok t hmt).2 c hc).2.2)
            have HLEN := Lib.hid hrl.len
            have HPD := Lib.hid HP.out.drew
            obtain ⟨row, cA, cn, tv, hrow, hTl, htv, hcA⟩ := HPD.out.at_ hn'
            rw [HCV.out] at hTl
            have HTl := Lib.hid hTl
            have HTV := Lib.hid htv
            have HCA := Lib.hid hcA
            have HBG : Hid ((g.th n).bg ≤ n1) := by
              have := HGO.out.bg n
              rw [HXt.out, Option.getD_some, HLEN.out] at this
              exact this
            clear hct0 hrl hmt hrow hTl htv hcA
            go_wp2
            refine region_first [0, 1, 2, 3, 4, 5, 8] (.cons 6 (seq [7] .nil)) (by kernel_rfl) (by kernel_rfl) ?_
            simp only [pick, List.map_cons, List.map_nil, List.getD_cons_zero, List.getD_cons_succ]
            go_wp2
            refine ord_fin (by kernel_rfl) ?_
            simp only [pick, List.map_cons, List.map_nil, List.getD_cons_zero, List.getD_cons_succ]
            go_wp2_with fail
            refine (run_perform wr.drew (HT.out.below hbw.drew HT.out.lt) m (w.heap.size + 1) w1.heap.size (n * 30) n _ _ A1 n1 k1 w.heap.size t Ac nc cc wA nw wc g.w (g.th n) cA cn tv HTl.out (by show _ ≤ wr.heap.size; omega) (by show _ ≤ wr.heap.size; omega) HOK.out (RCs.below HM.out.cs hbw.drew) HRLS.out HXt.out (fun c hc => (HM.out.cok c hc).2) HTOK.out HGO.out.w HBG.out (fun l hl => by
              obtain ⟨h1, h2, h3⟩ := HGO.out.th n l hl
              exact ⟨h1, h2, h3, HGO.out.ps n l hl⟩)).mono ?_
            rintro e w5 ⟨A5, k5, c5, M, cA', cn', tv', rowsE, rfl, hTl', hk5, hk52, hrE1, hrE2, hrE3, hrE4, hM, hcA', htv', hA5, hu5⟩
            rw [← HCV.out] at hTl'
            obtain ⟨own5, rows5, hP5, h5a, h5b⟩ := HPD.out.one hn' HTV.out HCA.out hTl' hM hcA' htv' hu5
            obtain ⟨aT, haT⟩ : ∃ aT, aT = actT m n (g.th n) g.w := ⟨_, rfl⟩
            rw [← haT] at hP5 hk5 hrE4
            have hbel5 : Below (w.heap.size + 1) w1 w5 := hbel.drew.trans (hu5.below (by show _ ≤ wr.heap.size; omega) fun k hk ht => by
              rcases ht with rfl | rfl | ht | ht
              · omega
              · omega
              · have := (HTV.out k ht.symm).2.1; omega
              · have := (HP.out.words.lt k ht.symm).1; omega)
            have HP5 := Lib.hid (show Pm own5 w5 (w.heap.size + 1) w1.heap.size nt (.slice wA nw wc) (.slice Ao no co) cls rows5 ⟨aT.w, putT g.th n (aT.th n), g.out ++ (aT.out.take 0).map (inSt j)⟩ by simpa using hP5)
            have HK5 := Lib.hid hk5
            have HE1 := Lib.hid hrE1
            have HE2 := Lib.hid hrE2
            have HE3 := Lib.hid hrE3
            have HE4 := Lib.hid (show ∀ (i : Nat) r x, rowsE[i]? = some r → aT.out[i]? = some x → eP (fun b => own5 b = 5) w5 r x from fun i r x hr hx => eP_mono (hrE4 i r x hr hx) (fun b _ hb => h5a b hb))
            have HE5 := Lib.hid (show 0 < k5 → ∀ g q, A5 = some ⟨g, q, none⟩ → own5 g ≠ 4 from fun h0 g q hg => h5b g (hA5 h0 g q hg))
            have HAT := Lib.hid haT
            clear hP5 hk5 hrE1 hrE2 hrE3 hrE4 hTl' hcA' htv' hA5 h5a h5b haT
            go_wp2
            refine ord_more [7] .nil (by kernel_rfl) ?_
            simp only [pick, List.map_cons, List.map_nil, List.getD_cons_zero, List.getD_cons_succ]
            go_wp2
            refine ord_done ?_
            go_wp2
            go_loopw [12, 60] (fun ov i wr => ∃ (q : Nat) (own : Nat → Nat), q ≤ k5 ∧ i = .int .i64 q ∧ Hid (Pm own wr (w.heap.size + 1) w1.heap.size nt (.slice wA nw wc) ov cls rows5 ⟨aT.w, putT g.th n (aT.th n), g.out ++ (aT.out.take q).map (inSt j)⟩) ∧ Hid (Rd wr wr.heap.size 6 A5 k5 rowsE.flatten) ∧ Hid (∀ (i : Nat) r x, rowsE[i]? = some r → aT.out[i]? = some x → eP (fun b => own b = 5) wr r x) ∧ Hid (0 < k5 → ∀ g q, A5 = some ⟨g, q, none⟩ → own g ≠ 4) ∧ Below (w.heap.size + 1) w1 wr ∧ ∃ A n c, ov = .slice A n c) (fun _ i _ => k5 - (intOf i).toNat)
            case atStart => exact ⟨0, own5, Nat.zero_le _, rfl, HP5.out, HE3.out, HE4.out, HE5.out, hbel5, _, _, _, rfl⟩
            case round =>
              clear hszr bXr lXr x1 hbw
              obtain ⟨q, own, hq, rfl, HPq, HRq, HEq, HTq, hbelq, Aq, nq, cq, rfl⟩ := hrel
              by_cases hqk : q < k5
              · have hq1 : q < rowsE.length := by rw [HE1.out]; exact hqk
                have hq2 : q < aT.out.length := by rw [← HK5.out]; exact hqk
                obtain ⟨r, hr⟩ : ∃ r, rowsE[q]? = some r := ⟨_, List.getElem?_eq_getElem hq1⟩
                obtain ⟨x, hx⟩ : ∃ x, aT.out[q]? = some x := ⟨_, List.getElem?_eq_getElem hq2⟩
                obtain ⟨Ax, nx, kx, rfl, hx1, hx2, hx3, hx4⟩ := HEq.out q r x hr hx
                obtain ⟨eb, eo, hA5e, hebl, hcl⟩ := Rd.at_ HRq.out (by omega)
                subst hA5e
                have d : ∀ i, i < 6 → wr.cell? ⟨eb, eo + q * 6 + i, none⟩ = (evC x (.slice Ax nx kx))[i]? := fun i hi => by
                  rw [Nat.add_assoc, hcl (q * 6 + i) (by omega)]; exact flatten_at rowsE q i _ HE2.out hr hi
                obtain ⟨xs, xt, xc, xe, xr, xto⟩ := x
                have d0 : wr.cell? ⟨eb, eo + q * 6, none⟩ = some (.int .i64 xs) := d 0 (by omega)
                have d1 : wr.cell? ⟨eb, eo + q * 6 + 1, none⟩ = some (.int .i64 xt) := d 1 (by omega)
                have d2 : wr.cell? ⟨eb, eo + q * 6 + 2, none⟩ = some (.int .i64 xc) := d 2 (by omega)
                have d3 : wr.cell? ⟨eb, eo + q * 6 + 3, none⟩ = some (.bool xe) := d 3 (by omega)
                have d4 : wr.cell? ⟨eb, eo + q * 6 + 4, none⟩ = some (.int .i64 xr) := d 4 (by omega)
                have d5 : wr.cell? ⟨eb, eo + q * 6 + 5, none⟩ = some (.slice Ax nx kx) := d 5 (by omega)
                obtain ⟨rws, r1, r2, r3, r4⟩ := HPq.out.evs
                have hnq : nq = (g.out ++ (aT.out.take q).map (inSt j)).length := by
                  obtain ⟨_, _, he, _⟩ := own_form r3
                  injection he
                have hnqb : nq ≤ 20000 := by
                  have := HGO.out.out
                  rw [hnq, List.length_append, List.length_map, List.length_take]
                  omega
                have HHR := Lib.hid hr
                have HHX := Lib.hid hx
                have HX3 := Lib.hid hx3
                have HX4 := Lib.hid hx4
                have HR1 := Lib.hid r1
                have HR2 := Lib.hid r2
                have HR3 := Lib.hid r3
                have HR3' := Lib.hid (show wr.ownsRow (w.heap.size + 1) 47 6 (.slice Aq nq cq) nq rws.flatten by rw [← hnq] at r3; exact r3)
                have HR4 := Lib.hid r4
                have HNQ := Lib.hid hnq
                clear hr hx hx3 hx4 r1 r2 r3 r4 hnq d hcl hq1 hq2
                have hszq : w.heap.size + 1 ≤ wr.heap.size := HPq.out.hB
                have HU1 : Hid (Un (fun _ => False) wr (wr.alloc (Obj.cells #[.int .i64 j, .int .i64 xt, .int .i64 xc, .bool xe, .int .i64 xr, .slice Ax nx kx] 47))) := (Un.refl _ _).alloc _
                have HEV : Hid (eP (fun b => own b = 5) (wr.alloc (Obj.cells #[.int .i64 j, .int .i64 xt, .int .i64 xc, .bool xe, .int .i64 xr, .slice Ax nx kx] 47)) [.int .i64 j, .int .i64 xt, .int .i64 xc, .bool xe, .int .i64 xr, .slice Ax nx kx] (inSt j ⟨xs, xt, xc, xe, xr, xto⟩)) :=
                  ⟨Ax, nx, kx, rfl, hx1, hx2, Rd.more (Rd.un HX3.out HU1.out (Nat.le_refl _) (fun _ _ _ _ h => h)) HU1.out.size, HX4.out⟩
                go_wp2_with (at_builtin; go_must (refine app_litB eltEvR (wr.alloc (Obj.cells #[.int .i64 j, .int .i64 xt, .int .i64 xc, .bool xe, .int .i64 xr, .slice Ax nx kx] 47)) rfl _ _ rfl (w.heap.size + 1) (.slice Aq nq cq) nq rws.flatten rfl (HR3'.out.alloc _) 1 [.int .i64 j, .int .i64 xt, .int .i64 xc, .bool xe, .int .i64 xr, .slice Ax nx kx] (wr.heap.size + 1) (by simp) rfl rfl (one6R _ _ _ _ _ _ _ _) (by omega) (by omega) (by simp; omega) ?_); intro v6 w6 hown6 hg6 hblk6; have HP6 := Lib.hid ((HPq.out.alloc (Obj.cells #[.int .i64 j, .int .i64 xt, .int .i64 xc, .bool xe, .int .i64 xr, .slice Ax nx kx] 47)).event HR1.out HR2.out (HR3.out.alloc _) (fun i r x hr hx => (HR4.out i r x hr hx).un HU1.out (fun _ _ h => h)) hown6 (by rw [HNQ.out]) hg6 hblk6 HEV.out); have HG6 := Lib.hid hg6; obtain ⟨A6, c6, rfl, _⟩ := own_form hown6; clear hown6 hg6 hblk6)
                go_roundw
                case rel =>
                  have hu6 : Un (fun k => some k = (Value.slice Aq nq cq).ownBlock) wr w6 := un_grown (((Un.refl _ wr).alloc _).alloc _) HG6.out (fun k hk => hk.symm)
                  have hb6 : Below (w.heap.size + 1) w1 w6 := ((hbelq.alloc hszq _).alloc (by simp; omega) _).grown HG6.out (by simp; omega) (fun k hk => (HR3'.out.lt k hk).1)
                  have hto := HPq.out.to
                  refine ⟨q + 1, fun k => if k < (wr.alloc (Obj.cells #[.int .i64 j, .int .i64 xt, .int .i64 xc, .bool xe, .int .i64 xr, .slice Ax nx kx] 47)).heap.size then own k else 4, by omega, by go_num, ?_, ?_, ?_, ?_, hb6, _, _, _, rfl⟩
                  · show Pm _ _ _ _ _ _ _ _ _ _
                    have := HP6.out
                    rw [at_take HHX.out, List.map_append, List.map_singleton, ← List.append_assoc]
                    exact this
                  · exact Rd.more (Rd.un HRq.out hu6 (Nat.le_refl _) (fun h0 b o hA he => HTq.out h0 b o hA (hto b he.symm))) hu6.size
                  · intro i r x hr hx
                    have e1 := eP_mono (P' := fun b => own b = 5 ∧ b < wr.heap.size) (HEq.out i r x hr hx) (fun b hb h5 => ⟨h5, hb⟩)
                    refine eP_mono (e1.un hu6 (fun b hb he => by have := hto b he.symm; omega)) (fun b _ hb => ?_)
                    show (if b < (wr.alloc _).heap.size then own b else 4) = 5
                    rw [if_pos (by simp; omega)]
                    exact hb.1
                  · intro h0 b o hA
                    injection hA with hA
                    injection hA with hA _
                    show (if b < (wr.alloc _).heap.size then own b else 4) ≠ 4
                    rw [if_pos (by simp; omega)]
                    exact HTq.out h0 b eo (by rw [hA])
                case measure => simp [intOf]; omega
              · obtain rfl : k5 = q := by omega
                go_wp2
                go_roundw
                case rel =>
                  refine ⟨j + 1, own, rows5, actG m g j n, by omega, by go_num, ?_, ?_, hbelq, _, _, _, rfl⟩
                  · show _ = _
                    rw [← ply_nextC HG.out HX.out]
                  · have := HPq.out
                    rw [List.take_of_length_le (by rw [← HK5.out]; exact Nat.le_refl _)] at this
                    rw [actG_eq, ← HAT.out]
                    exact this
                case measure => simp [intOf]; omega
          · obtain rfl : ns = j := by omega
            go_wp2
            go_ret3
            have HG2 := HG.out
            rw [List.take_of_length_le (by rw [LS.out]; omega)] at HG2
            obtain ⟨A9, c9, he9, hlc9, hrev⟩ := HP.out.evs.post
            obtain ⟨A8, c8, he8, hlc8⟩ := own_form HP.out.words
            injection he9 with e1 e2 e3
            injection he8 with e4 e5 e6
            subst e1 e3 e4 e6
            have hri := Rd.of_own (A := wA) (n := g.w.length) (c := wc) (by have := HP.out.words; rw [e5] at this; exact this)
            refine ⟨Ao, no, co, wA, nw, wc, rfl, ?_, ?_, by rw [e2]; exact hlc9, by rw [e5]; exact hlc8, ?_, hnw, ?_, hbw⟩
            · rw [e2, HTW.out.1, ← HG2]; exact hrev
            · rw [e5, HTW.out.2, ← HG2]; exact hri
            · have := HGO.out.out; rw [e2]; omega
            · intro b o f h
              obtain ⟨rows, _, _, hown, _⟩ := HP.out.evs
              have := own_geW hown (k := b) (by rw [h]; rfl)
              omega
  · have hpc : PcR m s E ∧ T = [] ∧ W = [] := by
      rcases hR with ⟨h1, h2, h3, h4⟩ | ⟨h1, h2, h3, h4, h5⟩ | ⟨h1, h2, h3, h4, h5, h6⟩ | ⟨_, _, _, _, _, h6⟩
      · exact ⟨.inl ⟨h1, h4⟩, h2, h3⟩
      · exact ⟨.inr (.inl ⟨h1, h2, h5⟩), h3, h4⟩
      · exact ⟨.inr (.inr (.inl ⟨h1, h2, h3, h6⟩)), h4, h5⟩
      · exact absurd h6 hE
    obtain ⟨hpc, rfl, rfl⟩ := hpc
    have HPC := Lib.hid hpc
    have hv : (E != 0) = true := by simp [hE]
    clear hpc hR hE
    go_enter Tryz.func12, Tryz.ntmps12
    go_wp2_with fail
    refine (run_check _ HTA.out Aw nw cw Ac nc cc At nt ct m As ns cs s E HMA.out HSA.out hn HPC.out).mono ?_
    rintro e w1 ⟨rfl, hb1⟩
    go_wp2
    go_ret3
    exact ⟨none, 0, 0, none, 0, 0, rfl, REv.nil _ _, RI.nil _ _ _ _, Nat.le_refl _, Nat.le_refl _, by omega, by omega, fun _ _ _ h => (by cases h), hA.trans (hb1.mono (by simp))⟩
theorem run_Play : PlaySpec := run_PlayW.spec
end Go.Proofs.YtnchgdjdfhfedaaGreatDoor
