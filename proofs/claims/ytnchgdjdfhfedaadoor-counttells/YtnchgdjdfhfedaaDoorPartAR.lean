/- The walk of CountTells, from what is asked of count, run.Play and of the runs. No statement of the seat is proved here. -/
import Derived.Test.YtnchgdjdfhfedaaDoorPartAM
import Derived.Test.YtnchgdjdfhfedaaDoorPartAL
import Derived.Test.YtnchgdjdfhfedaaDoorPartAI
import Derived.Test.YtnchgdjdfhfedaaDoorPartAQ
set_option linter.unusedSimpArgs false
set_option linter.unusedVariables false
namespace Go.Baro
open Go.RowKit
/-- The cells of the calls, and what is wanted, while they are written. -/
def tlsV (gA : Nat → Nat) (j : Nat) : List Value := (List.range j).flatMap fun q => [.int .i64 0, .slice (some ⟨gA q, 0, none⟩) 1 1, .int .i64 1, .slice none 0 0]
def wntL (by_ : List Int) (j : Nat) : List Int := (List.range j).flatMap fun q => [wantN by_ q, wantN by_ (q + 1)]
theorem tlsV_succ (gA : Nat → Nat) (j : Nat) : tlsV gA (j + 1) = tlsV gA j ++ [.int .i64 0, .slice (some ⟨gA j, 0, none⟩) 1 1, .int .i64 1, .slice none 0 0] := by simp [tlsV, List.range_succ]
theorem tlsV_congr {gA gA' : Nat → Nat} {j : Nat} (h : ∀ q, q < j → gA q = gA' q) : tlsV gA j = tlsV gA' j := by
  unfold tlsV
  rw [List.flatMap_def, List.flatMap_def]
  congr 1
  exact List.map_congr_left fun q hq => by rw [h q (List.mem_range.1 hq)]
theorem wntL_succ (by_ : List Int) (j : Nat) : wntL by_ (j + 1) = wntL by_ j ++ [wantN by_ j, wantN by_ (j + 1)] := by simp [wntL, List.range_succ]
theorem wntL_len (by_ : List Int) : ∀ j, (wntL by_ j).length = 2 * j
  | 0 => rfl
  | j + 1 => by rw [wntL_succ, List.length_append, wntL_len by_ j]; simp; omega
theorem wntL_at (by_ : List Int) : ∀ (j i : Nat), i < 2 * j → (wntL by_ j)[i]? = some (wantN by_ ((i + 1) / 2))
  | 0, i, h => by omega
  | j + 1, i, h => by
    rw [wntL_succ]
    by_cases hi : i < 2 * j
    · rw [List.getElem?_append_left (by rw [wntL_len]; exact hi)]
      exact wntL_at by_ j i hi
    · rw [List.getElem?_append_right (by rw [wntL_len]; omega), wntL_len]
      rcases (by omega : i = 2 * j ∨ i = 2 * j + 1) with rfl | rfl
      · rw [Nat.sub_self, show (2 * j + 1) / 2 = j by omega]; rfl
      · rw [show 2 * j + 1 - 2 * j = 1 by omega, show (2 * j + 1 + 1) / 2 = j + 1 by omega]; rfl
def tlsR (gA : Nat → Nat) (j : Nat) : List (List Value) := (List.range j).flatMap fun q => [[.int .i64 0, .slice (some ⟨gA q, 0, none⟩) 1 1], [.int .i64 1, .slice none 0 0]]
theorem tlsR_succ (gA : Nat → Nat) (j : Nat) : tlsR gA (j + 1) = tlsR gA j ++ [[.int .i64 0, .slice (some ⟨gA j, 0, none⟩) 1 1], [.int .i64 1, .slice none 0 0]] := by simp [tlsR, List.range_succ]
theorem tlsR_len (gA : Nat → Nat) : ∀ j, (tlsR gA j).length = 2 * j
  | 0 => rfl
  | j + 1 => by rw [tlsR_succ, List.length_append, tlsR_len gA j]; simp; omega
theorem tlsR_flat (gA : Nat → Nat) : ∀ j, (tlsR gA j).flatten = tlsV gA j
  | 0 => rfl
  | j + 1 => by rw [tlsR_succ, List.flatten_append, tlsR_flat gA j, tlsV_succ]; rfl
end Go.Baro
namespace Go.Proofs.YtnchgdjdfhfedaaDoor
open Go.RowKit Go.Ord Go.OrdG Go.Baro

theorem plR_fineT {m : Mc} (hm : okMc m) {S : List Int} (hl : S.length ≤ 6000) (hs : ∀ x ∈ S, 0 ≤ x ∧ x < m.ts.length) : PlR m S (plyG m 0 (S.map Int.toNat) (g0 m)).out (plyG m 0 (S.map Int.toNat) (g0 m)).w 0 :=
  .inr (.inr (.inr ⟨hm, hl, hs, rfl, rfl, rfl⟩))
theorem own_ltT {w : World} {B : Nat} {e : TypeId} {s n : Nat} {v : Value} {xs : List Value} (h : w.ownsRow B e s v n xs) {b : Nat} (hb : v.ownBlock = some b) : b < w.heap.size := by
  obtain ⟨cs, hh⟩ := own_type h hb
  exact (Array.getElem?_eq_some_iff.1 hh).1
theorem own_geT {w : World} {B : Nat} {e : TypeId} {s n : Nat} {v : Value} {xs : List Value} (h : w.ownsRow B e s v n xs) {k : Nat} (hk : v.ownBlock = some k) : B ≤ k := by
  rcases h.2 with ⟨rfl, _⟩ | ⟨g, cap, cur, rfl, hB, _⟩
  · cases hk
  · injection hk with hk; subst hk; exact hB
theorem keep_app {w w' : World} {v v' : Value} {b : Nat} {t : TypeId} {cs : List Value} {o : Obj} (h : Box w b t cs) (hne : some b ≠ v.ownBlock) (hg : (w.alloc o).grownBy w' v.ownBlock) (ho : v'.ownBlock = v.ownBlock ∨ v'.ownBlock = some (w.heap.size + 1)) : Box w' b t cs ∧ some b ≠ v'.ownBlock := by
  have hlt := h.lt
  refine ⟨(h.below ((Below.refl _ _).alloc (Nat.le_refl _) _) hlt).grown hg hne, ?_⟩
  rcases ho with e | e <;> rw [e]
  · exact hne
  · intro e; injection e with e; omega
/-- The thread, the arguments and what is wanted while j rounds are done. -/
structure TlM (by_ : List Int) (B g6 : Nat) (gA : Nat → Nat) (ts v : Value) (j : Nat) (w : World) : Prop where
  row : w.ownsRow B 41 2 ts (2 * j) (tlsV gA j)
  arg : ∀ q, q < j → Box w (gA q) 3 [.int .i64 (tlsN by_ q)] ∧ some (gA q) ≠ v.ownBlock
  wnt : w.ownsRow B 3 1 v (2 * j) ((wntL by_ j).map (Value.int .i64))
  thr : Box w g6 42 [ts]
theorem tls_RLs {by_ : List Int} {w : World} {A : Option Addr} {gA : Nat → Nat} {n : Nat} : ∀ j, (∀ q, q < j → Box w (gA q) 3 [.int .i64 (tlsN by_ q)]) → ∀ (i : Nat) r x, (tlsR gA j)[i]? = some r → (tlsT by_ j)[i]? = some x → eL w w.heap.size r x
  | 0, _, i, r, x, hr, _ => by simp [tlsR] at hr
  | j + 1, hb, i, r, x, hr, hx => by
    rw [tlsR_succ] at hr
    rw [Cnt.tlsT_succ] at hx
    by_cases hi : i < 2 * j
    · rw [List.getElem?_append_left (by rw [tlsR_len]; exact hi)] at hr
      rw [List.getElem?_append_left (by rw [Cnt.tlsT_len]; exact hi)] at hx
      exact tls_RLs (A := A) (n := n) j (fun q hq => hb q (by omega)) i r x hr hx
    · rw [List.getElem?_append_right (by rw [tlsR_len]; omega), tlsR_len] at hr
      rw [List.getElem?_append_right (by rw [Cnt.tlsT_len]; omega), Cnt.tlsT_len] at hx
      have hlt := (List.getElem?_eq_some_iff.1 hr).1
      simp only [List.length_cons, List.length_nil] at hlt
      rcases (by omega : i - 2 * j = 0 ∨ i - 2 * j = 1) with h | h <;> rw [h] at hr hx
      · simp at hr hx
        subst hr hx
        exact ⟨_, 1, 1, rfl, Nat.le_refl _, Rd.box (hb j (by omega)) rfl⟩
      · simp at hr hx
        subst hr hx
        exact ⟨none, 0, 0, rfl, Nat.le_refl _, ⟨rfl, fun h => by omega⟩⟩
theorem okTh_tls {by_ : List Int} (hb : ∀ x ∈ by_, inW x) : ∀ j, j ≤ 9 → okTh (tlsT by_ j) := by
  intro j hj
  refine ⟨by rw [Cnt.tlsT_len]; omega, fun x hx => ?_⟩
  obtain ⟨i, hi⟩ := List.getElem?_of_mem hx
  obtain ⟨h1, h2⟩ := Cnt.tls_at hi
  rcases Nat.mod_two_eq_zero_or_one i with h | h
  · rw [h1 h]
    refine ⟨by unfold inW; dsimp only; omega, by simp, fun y hy => ?_⟩
    rw [List.mem_singleton.1 hy]
    unfold tlsN
    split
    · rename_i hq
      rw [List.getElem?_eq_getElem hq]
      exact hb _ (List.getElem_mem hq)
    · unfold inW; omega
  · rw [h2 h]
    exact ⟨by unfold inW; dsimp only; omega, by simp, fun y hy => by cases hy⟩
theorem count_okT {c : Cu} (h : CuOk c) (by_ : List Int) : okMc (mTells c by_) := by
  obtain ⟨h1, h2, h3, h4, h5⟩ := count_ok h by_
  refine ⟨h1, h2, by simp [mTells], h4, fun t ht => ?_⟩
  simp only [mTells, List.mem_cons, List.not_mem_nil, or_false] at ht
  subst ht
  refine ⟨by rw [Cnt.tlsT_len]; decide, fun x hx => ?_⟩
  obtain ⟨i, hi⟩ := List.getElem?_of_mem hx
  obtain ⟨q1, q2⟩ := Cnt.tls_at hi
  rcases Nat.mod_two_eq_zero_or_one i with h | h
  · rw [q1 h]; exact ⟨by simp [mTells], by simp⟩
  · rw [q2 h]; exact ⟨by simp [mTells], by simp⟩
theorem count_inMT {c : Cu} {by_ : List Int} (hby : ∀ x ∈ by_, inW x) {w w' : World} {Aw : Option Addr} {nw cw : Nat} {Ac : Option Addr} {cc : Nat} {At : Option Addr} {nt ct B g6 : Nat} {gA : Nat → Nat} {Aq : Option Addr} {cq : Nat} {v : Value} (h : InM w Aw nw cw Ac 2 cc At nt ct (mCount c [])) (hb : Below w.heap.size w w')
    (ht : TlM by_ B g6 gA (.slice Aq 18 cq) v 9 w') (hc : 18 ≤ cq) : InM w' Aw nw cw Ac 2 cc (some ⟨g6, 0, none⟩) 1 1 (mTells c by_) := by
  refine ⟨(h.ws.below hb).more hb.size, (h.cs.below hb).more hb.size, ?_, h.wok, h.cok, fun t ht => ?_, h.lw, h.lc, ⟨Nat.le_refl _, by omega⟩⟩
  · refine ⟨[[.slice Aq 18 cq]], rfl, by simp, Rd.box ht.thr rfl, fun i r x hr hx => ?_⟩
    match i with
    | 0 =>
      simp [mTells] at hr hx
      subst hr hx
      refine ⟨Aq, 18, cq, rfl, hc, ⟨tlsR gA 9, by rw [tlsR_len, Cnt.tlsT_len], fun r hr => ?_, by rw [tlsR_flat]; exact Rd.of_own ht.row, tls_RLs (A := Aq) (n := 0) 9 fun q hq => (ht.arg q hq).1⟩⟩
      simp only [tlsR, List.mem_flatMap, List.mem_range, List.mem_cons, List.not_mem_nil, or_false] at hr
      obtain ⟨q, _, rfl | rfl⟩ := hr <;> rfl
    | i + 1 => simp at hr
  · simp only [mTells, List.mem_cons, List.not_mem_nil, or_false] at ht
    subst ht
    exact okTh_tls hby 9 (Nat.le_refl _)

set_option maxRecDepth 100000 in
set_option maxHeartbeats 2000000 in
theorem keep_CountTellsP (c : Cu) (hc : CuOk c) (hgood : CountTellsD c) (hPl : PlaySpec) (hW : W0Spec 8 c.ws) (hA : C0Spec 9 c.ca) (hG : C0Spec 10 c.cg)
    (w : World) (hT : Tab w) (A0 : Option Addr) (n0 c0 : Nat) (x0 : List Int) (h0 : RI w w.heap.size .i64 A0 n0 x0) (b0 : n0 ≤ 17592186044416) (r0 : ∀ x ∈ x0, -9223372036854775808 ≤ x ∧ x ≤ 9223372036854775807) (_ : n0 ≤ c0) :
    Calls Tryd.prog 6 #[.slice A0 n0 c0] w fun e w' => e = .returned (.bool true) ∧ Below w.heap.size w w' := by
  have HPl := Lib.hid hPl
  have HT := Lib.hid hT
  have HLM := Lib.hid (keep_countMachine c hc hW hA hG)
  have HOk := Lib.hid (count_okT hc)
  have HGood := Lib.hid (hgood x0 (fun x hx => by have := r0 x hx; unfold wrap64; omega))
  have HR0 := Lib.hid (show ∀ x ∈ x0, inW x from fun x hx => by have := r0 x hx; unfold inW; omega)
  have HX0 := Lib.hid h0
  have LX0 := Lib.hid h0.len
  clear hPl hT r0 hW hA hG hgood hc h0
  go_enter Tryd.func6, Tryd.ntmps6
  go_wp2_with fail
  refine (HLM.out w HT.out none 0 0 [] ⟨rfl, fun h => by omega⟩ (by omega)).mono ?_
  rintro e w1 ⟨Aw, nw, cw, Ac, nc, cc, At, nt, ct, rfl, hin1, rfl, ⟨rfl, rfl⟩, hb1⟩
  have hs1 := hb1.size
  have hA2 := (Below.refl w1.heap.size w1).alloc (Nat.le_refl _) (Obj.cells #[.slice Aw nw cw, .slice Ac 2 cc, .slice At 3 3] 32)
  have bX := Box.newAt w1 32 [.slice Aw nw cw, .slice Ac 2 cc, .slice At 3 3] w1.heap.size rfl
  have HIN := Lib.hid hin1
  have HB1 := Lib.hid hb1
  obtain ⟨w2, hw2⟩ : ∃ w2, w2 = w1.alloc (Obj.cells #[.slice Aw nw cw, .slice Ac 2 cc, .slice At 3 3] 32) := ⟨_, rfl⟩
  have hz2 : w2.heap.size = w1.heap.size + 1 := by rw [hw2]; simp
  rw [← hw2] at bX hA2
  have hA3 := hA2.alloc hA2.size (Obj.cells #[.slice none 0 0] 42)
  have bX3 := bX.below ((Below.refl w2.heap.size w2).alloc (Nat.le_refl _) (Obj.cells #[.slice none 0 0] 42)) bX.lt
  have bT := Box.newAt w2 42 [.slice none 0 0] w2.heap.size rfl
  rw [hz2] at bT
  have z2 : (w2.alloc (Obj.cells #[.slice none 0 0] 42)).cell? ⟨w1.heap.size, 2, none⟩ = _ := bX3.cell 2
  have f2 := bX3.frozen 2
  simp only [List.getElem?_cons_zero, List.getElem?_cons_succ] at z2
  have HX3 : Hid (Box ((w2.setCell ⟨w1.heap.size, 2, none⟩ (.slice (some ⟨w1.heap.size + 1, 0, none⟩) 1 1)).alloc (Obj.cells #[.slice none 0 0] 42)) w1.heap.size 32 [.slice Aw nw cw, .slice Ac 2 cc, .slice (some ⟨w1.heap.size + 1, 0, none⟩) 1 1]) := Lib.hid ((bX.set 2 (.slice (some ⟨w1.heap.size + 1, 0, none⟩) 1 1)).below ((Below.refl _ (w2.setCell ⟨w1.heap.size, 2, none⟩ (.slice (some ⟨w1.heap.size + 1, 0, none⟩) 1 1))).alloc (Nat.le_refl _) (Obj.cells #[.slice none 0 0] 42)) (by simpa using bX.lt))
  have HT3 := Lib.hid (Box.newAt (w2.setCell ⟨w1.heap.size, 2, none⟩ (.slice (some ⟨w1.heap.size + 1, 0, none⟩) 1 1)) 42 [.slice none 0 0] (w1.heap.size + 1) (by simp [hz2]))
  have HA3 := Lib.hid ((below_at hA2 (Nat.le_refl _) 2 (.slice (some ⟨w1.heap.size + 1, 0, none⟩) 1 1)).alloc (by simpa using hA2.size) (Obj.cells #[.slice none 0 0] 42))
  have HW2 := Lib.hid hw2
  have lX3 := bX3.lt
  clear hin1 hb1 hA2 bX hA3 bX3 bT HLM hw2
  go_wp2_with (rw [← HW2.out])
  obtain ⟨gM, hgM⟩ : ∃ g, g = w1.heap.size := ⟨_, rfl⟩
  have HgM := Lib.hid hgM
  rw [← hgM] at HX3 HT3 HA3 ⊢
  obtain ⟨w3, hw3⟩ : ∃ W, W = (w2.setCell ⟨gM, 2, none⟩ (.slice (some ⟨gM + 1, 0, none⟩) 1 1)).alloc (Obj.cells #[.slice none 0 0] 42) := ⟨_, rfl⟩
  rw [← hw3] at HX3 HT3 HA3 ⊢
  have hz3 : gM + 1 < w3.heap.size := HT3.out.lt
  clear hw3 hgM z2 f2
  go_loopw [4, 5, 6] (fun s v i wr => ∃ (j : Nat) (gA : Nat → Nat) (ts u : Value), u = v ∧ j ≤ 9 ∧ i = .int .i64 j ∧ s = .int .i64 (wantN x0 j) ∧ Hid (TlM x0 w3.heap.size (gM + 1) gA ts v j wr) ∧ Below (gM + 1) w3 wr) (fun _ _ i _ => 9 - (intOf i).toNat)
  case atStart => exact ⟨0, fun _ => 0, .slice none 0 0, _, rfl, Nat.zero_le _, rfl, rfl, ⟨World.ownsRow_nil _ _ _ _, fun q h => absurd h (Nat.not_lt_zero _), World.ownsRow_nil _ _ _ _, HT3.out⟩, Below.refl _ _⟩
  case round =>
    obtain ⟨j, gA, ts, v, rfl, hj, rfl, rfl, HTl, hbel⟩ := hrel
    have hsz := hbel.size
    have HBX := Lib.hid (HX3.out.below hbel (by omega))
    by_cases hj9 : j < 9
    · obtain ⟨s, hs⟩ : ∃ s, s = wantN x0 j := ⟨_, rfl⟩
      have HS := Lib.hid hs
      rw [← hs]
      obtain ⟨Aq, cq, hts, hlq⟩ := own_form HTl.out.row
      have z2 : wr.cell? ⟨gM, 2, none⟩ = _ := HBX.out.cell 2
      have y0 : wr.cell? ⟨gM + 1, 0, none⟩ = some (.slice Aq (2 * j) cq) := by
        have := HTl.out.thr.cell 0
        rw [hts] at this
        exact this
      have l6 := HTl.out.thr.lt
      have lM := HBX.out.lt
      have g0 := HTl.out.thr.frozen 0
      have HTS := Lib.hid hts
      have R3 := Lib.hid HTl.out.row
      simp only [List.getElem?_cons_zero, List.getElem?_cons_succ] at z2
      clear hts hs
      by_cases hjn : j < n0
      · skip
        obtain ⟨ba, oa, y, hAa, hba, ca, HAV, _⟩ := HX0.out.val (i := j) (by omega)
        subst hAa
        have hbw0 : Below w.heap.size w wr := HB1.out.trans ((HA3.out.mono (by have := HgM.out; omega)).trans (hbel.mono (by have := hs1; have := HgM.out; omega)))
        have ca := (hbw0.cell (p := ⟨ba, oa + j, none⟩) hba).trans ca
        have lba : ba < wr.heap.size := by have := hbw0.size; omega
        have HN : Hid (tlsN x0 j = y) := by
          show _ = _
          unfold tlsN
          rw [if_pos (by rw [LX0.out]; exact hjn), HAV.out]
          rfl
        clear HAV hbw0
        go_wp2
        refine region_firstG (Kc tCall) (gok_kc tCall) [0, 1] [2, 3, 4, 5, 6, 9] (.cons 0 (.cons 1 (.cons 7 (seq [8] (.cons 10 (.cons 11 (seq [12] (.cons 13 .nil)))))))) (by kernel_rfl) (by kernel_rfl) ?_
        simp only [pick, List.map_cons, List.map_nil, List.getD_cons_zero, List.getD_cons_succ]
        go_wp2
        refine ord_blindG (.pointer (some ⟨gM, 2, none⟩)) (by kernel_rfl) ?_ ?_
        · intro w' _
          simp only [List.getD_cons_zero, List.getD_cons_succ]
          go_simp
        refine ord_blindG (.slice (some ⟨gM + 1, 0, none⟩) 1 1) (by kernel_rfl) ?_ ?_
        · intro w' hk
          have zz := (Box.kc (w := wr.drew) HBX.out hk tCall_mach).cell 2
          simp only [List.getElem?_cons_zero, List.getElem?_cons_succ] at zz
          simp only [List.getD_cons_zero, List.getD_cons_succ]
          go_simp
        refine ord_callG (by kernel_rfl) ?_
        simp only [pick, List.map_cons, List.map_nil, List.getD_cons_zero, List.getD_cons_succ]
        go_wp2
        refine ⟨ext_below ((Below.refl _ _).alloc (Nat.le_refl _) _), ?_⟩
        refine ord_moreG [8] _ (by kernel_rfl) ?_
        simp only [pick, List.map_cons, List.map_nil, List.getD_cons_zero, List.getD_cons_succ]
        go_wp2
        refine ord_callG (by kernel_rfl) ?_
        simp only [pick, List.map_cons, List.map_nil, List.getD_cons_zero, List.getD_cons_succ]
        go_wp2
        refine ⟨ext_below ((Below.refl _ _).alloc (Nat.le_refl _) _), ?_⟩
        have hbl1 := (Below.refl wr.heap.size wr).alloc (Nat.le_refl _) (Obj.cells #[.int .i64 y] 3)
        have HR3q1 := Lib.hid (World.ownsRow.alloc R3.out (Obj.cells #[.int .i64 y] 3))
        have RL1 := Lib.hid (HR3q1.out.alloc (.cells #[.int .i64 0, .slice (some ⟨wr.heap.size, 0, none⟩) 1 1, .int .i64 1, .slice none 0 0] 41))
        rw [HTS.out] at RL1
        have hBr : w3.heap.size ≤ wr.heap.size := hsz
        refine ord_finG (by kernel_rfl) ?_
        simp only [pick, List.map_cons, List.map_nil, List.getD_cons_zero, List.getD_cons_succ]
        go_wp2_with (at_builtin; go_must (refine app_litBd eltCall (wr.alloc (Obj.cells #[.int .i64 y] 3)) rfl (.tmp 31) (.tmp 36) rfl w3.heap.size _ (2 * j) (tlsV gA j) rfl (by rw [← HTS.out]; exact HR3q1.out) 2 [.int .i64 0, .slice (some ⟨wr.heap.size, 0, none⟩) 1 1, .int .i64 1, .slice none 0 0] (wr.heap.size + 1) (by first | rfl | simp) rfl rfl (by intro u hu; simp only [List.mem_cons, List.not_mem_nil, or_false] at hu; rcases hu with rfl | rfl | rfl | rfl <;> rfl) (by omega) (by omega) (by first | omega | (simp; omega)) ?_); intro v8 w8 own8 g8 hv8)
        obtain ⟨A8, c8, rfl, hc8⟩ := own_form own8
        have hK8 : Kc tCall ((wr.alloc (Obj.cells #[.int .i64 y] 3)).alloc (.cells #[.int .i64 0, .slice (some ⟨wr.heap.size, 0, none⟩) 1 1, .int .i64 1, .slice none 0 0] 41)).drew w8 := Kc.grown ⟨g8.os, g8.tape, g8.output, g8.size, g8.block⟩ (fun b cs t fr he hh => .inl (own_same RL1.out he hh))
        have hK8' : Kc tCall ((wr.alloc (Obj.cells #[.int .i64 y] 3)).alloc (.cells #[.int .i64 0, .slice (some ⟨wr.heap.size, 0, none⟩) 1 1, .int .i64 1, .slice none 0 0] 41)) w8 := Kc.grown g8 (fun b cs t fr he hh => .inl (own_same RL1.out he hh))
        have hkw : Kc tCall wr ((wr.alloc (Obj.cells #[.int .i64 y] 3)).alloc (.cells #[.int .i64 0, .slice (some ⟨wr.heap.size, 0, none⟩) 1 1, .int .i64 1, .slice none 0 0] 41)) := (Kc.below hbl1).trans (Kc.below ((Below.refl _ _).alloc (Nat.le_refl _) _))
        have hbw : Below wr.heap.size wr ((wr.alloc (Obj.cells #[.int .i64 y] 3)).alloc (.cells #[.int .i64 0, .slice (some ⟨wr.heap.size, 0, none⟩) 1 1, .int .i64 1, .slice none 0 0] 41)) := hbl1.alloc hbl1.size _
        have b6 : Box ((wr.alloc (Obj.cells #[.int .i64 y] 3)).alloc (.cells #[.int .i64 0, .slice (some ⟨wr.heap.size, 0, none⟩) 1 1, .int .i64 1, .slice none 0 0] 41)) (gM + 1) 42 [ts] := HTl.out.thr.below hbw l6
        have hne6 := Box.ne b6 RL1.out (by decide)
        have b68 := b6.grown g8 hne6
        have y8 : w8.cell? ⟨gM + 1, 0, none⟩ = some (.slice Aq (2 * j) cq) := by
          have := b68.cell 0
          rw [HTS.out] at this
          exact this
        have f8 := b68.frozen 0
        have H68 := Lib.hid b68
        have HK8 := Lib.hid (hkw.trans hK8')
        have HO8 := Lib.hid own8
        have HNA := Lib.hid (Box.newAt wr 3 [.int .i64 y] wr.heap.size rfl)
        have HbN : Hid (Below (gM + 1) w3 w8) := by
          have h1 : Below (gM + 1) w3 ((wr.alloc (Obj.cells #[.int .i64 y] 3)).alloc (.cells #[.int .i64 0, .slice (some ⟨wr.heap.size, 0, none⟩) 1 1, .int .i64 1, .slice none 0 0] 41)) := hbel.trans (hbw.mono (by omega))
          show Below _ _ _
          exact h1.grown g8 (by have := hbw.size; omega) (fun k hk => by have := own_geT RL1.out hk; omega)
        have HKa : Hid (Kc tCall (wr.alloc (Obj.cells #[.int .i64 y] 3)) w8) := (Kc.below ((Below.refl _ _).alloc (Nat.le_refl _) _)).trans hK8'
        clear hK8' b68 own8 g8 hv8 hne6 z2 y0 g0 b6 hkw
        refine ⟨hK8, ?_⟩
        refine ord_moreG [12] _ (by kernel_rfl) ?_
        simp only [pick, List.map_cons, List.map_nil, List.getD_cons_zero, List.getD_cons_succ]
        go_wp2
        refine ord_finG (by kernel_rfl) ?_
        simp only [pick, List.map_cons, List.map_nil, List.getD_cons_zero, List.getD_cons_succ]
        go_wp2
        have hK9 : Kc tCall w8 (w8.setCell ⟨gM + 1, 0, none⟩ (.slice A8 (2 * j + 2) c8)) := Kc.grown (grown_setCell w8 ⟨gM + 1, 0, none⟩ _) (fun b cs t fr he hh => by
          injection he with he
          subst he
          have h6 := H68.out
          unfold Box at h6
          rw [h6] at hh
          injection hh with hh
          injection hh with _ hh
          exact .inr hh.symm)
        refine ⟨hK9, ord_doneG ?_⟩
        have hrow1 : World.ownsRow (w8.setCell ⟨gM + 1, 0, none⟩ (.slice A8 (2 * j + 2) c8)) w3.heap.size 41 2 (.slice A8 (2 * j + 2) c8) (2 * j + 2) (tlsV gA j ++ [.int .i64 0, .slice (some ⟨wr.heap.size, 0, none⟩) 1 1, .int .i64 1, .slice none 0 0]) := own_kc (T := fun t => t = 42) HO8.out (Kc.grown (grown_setCell w8 ⟨gM + 1, 0, none⟩ _) (fun b cs t fr he hh => by
          injection he with he
          subst he
          have h6 := H68.out
          unfold Box at h6
          rw [h6] at hh
          injection hh with hh
          injection hh with _ hh
          exact hh.symm)) (by decide)
        have hthr1 := H68.out.set 0 (.slice A8 (2 * j + 2) c8)
        have hk1 := HK8.out.trans hK9
        have hka1 := HKa.out.trans hK9
        have hbel1 := below_at HbN.out (Nat.le_refl (gM + 1)) 0 (.slice A8 (2 * j + 2) c8)
        have hs18 : (w8.setCell ⟨gM + 1, 0, none⟩ (.slice A8 (2 * j + 2) c8)).heap.size = w8.heap.size := by simp
        obtain ⟨W1, hW1⟩ : ∃ W, W = w8.setCell ⟨gM + 1, 0, none⟩ (.slice A8 (2 * j + 2) c8) := ⟨_, rfl⟩
        rw [← hW1] at hrow1 hthr1 hk1 hka1 hbel1 ⊢
        have hszw : wr.heap.size < W1.heap.size := HNA.out.kc hka1 tCall_int |>.lt
        have hsz1 := hbel1.size
        have hwnt := own_kc HTl.out.wnt hk1 tCall_int
        have harg : ∀ q, q < j → Box W1 (gA q) 3 [.int .i64 (tlsN x0 q)] ∧ some (gA q) ≠ v.ownBlock := fun q hq => ⟨(HTl.out.arg q hq).1.kc hk1 tCall_int, (HTl.out.arg q hq).2⟩
        have hnew := HNA.out.kc hka1 tCall_int
        have hnne : some wr.heap.size ≠ v.ownBlock := fun e => by have := own_ltT HTl.out.wnt e.symm; omega
        have HROW1 := Lib.hid hrow1
        have HTHR1 := Lib.hid hthr1
        have HARG := Lib.hid harg
        have HNEW := Lib.hid hnew
        have HWNT := Lib.hid hwnt
        have HNNE := Lib.hid hnne
        have HBEL1 := Lib.hid hbel1
        clear hK9 H68 y8 f8 hK8 hrow1 hthr1 hk1 hka1 hbel1 harg hnew hwnt hnne HK8 HKa HO8 HNA HbN hs18 hW1 RL1 HR3q1 hbw hbl1 R3
        go_wp2_with (first
          | (at_builtin; refine app_litB eltIntS W1 rfl (.tmp 39) (.tmp 41) rfl w3.heap.size _ (2 * j) _ rfl (by exact HWNT.out) 1 [.int .i64 s] _ rfl rfl rfl (one_ints .i64 [s]) (by omega) (by omega) (by omega) ?_; intro v5 w5 own5 g5 ho5; have hs5 : w3.heap.size ≤ w5.heap.size := by (have := g5.size; simp at this; omega))
          | (at_builtin; go_must (refine app_litB eltIntS w5 rfl (.tmp 46) (.tmp 48) rfl w3.heap.size _ (2 * j + 1) _ rfl (by exact own5) 1 [.int .i64 (wrap64 (s + y))] _ rfl rfl rfl (one_ints .i64 [wrap64 (s + y)]) (by omega) (by omega) hs5 ?_); intro v6 w6 own6 g6 ho6))
        have hk15 : Kc (fun t => t = 3) W1 w5 := (Kc.below ((Below.refl _ _).alloc (Nat.le_refl _) _)).trans (Kc.grown g5 (fun b cs t fr he hh => own_same (HWNT.out.alloc _) he hh))
        have hk56 : Kc (fun t => t = 3) w5 w6 := (Kc.below ((Below.refl _ _).alloc (Nat.le_refl _) _)).trans (Kc.grown g6 (fun b cs t fr he hh => own_same (own5.alloc _) he hh))
        have hk16 := hk15.trans hk56
        have hsum : wrap64 (s + y) = wantN x0 (j + 1) := by rw [Cnt.wantN_succ, HN.out, HS.out]
        have two : ∀ b y, Box W1 b 3 [.int .i64 y] → some b ≠ v.ownBlock → Box w6 b 3 [.int .i64 y] ∧ some b ≠ v6.ownBlock := fun b y h1 h2 => by
          obtain ⟨q1, q2⟩ := keep_app h1 h2 g5 ho5
          exact keep_app q1 q2 g6 ho6
        have hb5 : Below (gM + 1) w3 w5 := (HBEL1.out.alloc (by omega) _).grown g5 (by simp; omega) (fun k hk => by have := own_geT HWNT.out hk; omega)
        have hb6 : Below (gM + 1) w3 w6 := (hb5.alloc (by omega) _).grown g6 (by simp; omega) (fun k hk => by have := own_geT own5 hk; omega)
        refine ⟨⟨j + 1, fun q => if q = j then wr.heap.size else gA q, .slice A8 (2 * j + 2) c8, v6, rfl, by omega, by go_num, by rw [hsum], ?_, hb6⟩, by simp [intOf]; omega⟩
        refine ⟨?_, fun q hq => ?_, ?_, HTHR1.out.kc hk16 (by decide)⟩
        · have h1 := own_kc HROW1.out hk16 (by decide)
          rw [show 2 * (j + 1) = 2 * j + 2 by omega, tlsV_succ, if_pos rfl, tlsV_congr (gA' := gA) (fun q hq => if_neg (by omega))]
          exact h1
        · by_cases hqj : q = j
          · subst hqj
            rw [if_pos rfl, HN.out]
            exact two _ _ HNEW.out HNNE.out
          · rw [if_neg hqj]
            obtain ⟨q1, q2⟩ := HARG.out q (by omega)
            exact two _ _ q1 q2
        · rw [show 2 * (j + 1) = 2 * j + 1 + 1 by omega, wntL_succ, List.map_append, ← hsum]
          have := own6
          rw [List.append_assoc] at this
          rw [← HS.out]
          exact this
      · skip
        have HN : Hid (tlsN x0 j = 1) := by
          show _ = _
          unfold tlsN
          rw [if_neg (by rw [LX0.out]; exact hjn)]
        go_wp2
        refine region_firstG (Kc tCall) (gok_kc tCall) [0, 1] [2, 3, 4, 5, 6, 9] (.cons 0 (.cons 1 (.cons 7 (seq [8] (.cons 10 (.cons 11 (seq [12] (.cons 13 .nil)))))))) (by kernel_rfl) (by kernel_rfl) ?_
        simp only [pick, List.map_cons, List.map_nil, List.getD_cons_zero, List.getD_cons_succ]
        go_wp2
        refine ord_blindG (.pointer (some ⟨gM, 2, none⟩)) (by kernel_rfl) ?_ ?_
        · intro w' _
          simp only [List.getD_cons_zero, List.getD_cons_succ]
          go_simp
        refine ord_blindG (.slice (some ⟨gM + 1, 0, none⟩) 1 1) (by kernel_rfl) ?_ ?_
        · intro w' hk
          have zz := (Box.kc (w := wr.drew) HBX.out hk tCall_mach).cell 2
          simp only [List.getElem?_cons_zero, List.getElem?_cons_succ] at zz
          simp only [List.getD_cons_zero, List.getD_cons_succ]
          go_simp
        refine ord_callG (by kernel_rfl) ?_
        simp only [pick, List.map_cons, List.map_nil, List.getD_cons_zero, List.getD_cons_succ]
        go_wp2
        refine ⟨ext_below ((Below.refl _ _).alloc (Nat.le_refl _) _), ?_⟩
        refine ord_moreG [8] _ (by kernel_rfl) ?_
        simp only [pick, List.map_cons, List.map_nil, List.getD_cons_zero, List.getD_cons_succ]
        go_wp2
        refine ord_callG (by kernel_rfl) ?_
        simp only [pick, List.map_cons, List.map_nil, List.getD_cons_zero, List.getD_cons_succ]
        go_wp2
        refine ⟨ext_below ((Below.refl _ _).alloc (Nat.le_refl _) _), ?_⟩
        have hbl1 := (Below.refl wr.heap.size wr).alloc (Nat.le_refl _) (Obj.cells #[.int .i64 1] 3)
        have HR3q1 := Lib.hid (World.ownsRow.alloc R3.out (Obj.cells #[.int .i64 1] 3))
        have RL1 := Lib.hid (HR3q1.out.alloc (.cells #[.int .i64 0, .slice (some ⟨wr.heap.size, 0, none⟩) 1 1, .int .i64 1, .slice none 0 0] 41))
        rw [HTS.out] at RL1
        have hBr : w3.heap.size ≤ wr.heap.size := hsz
        refine ord_finG (by kernel_rfl) ?_
        simp only [pick, List.map_cons, List.map_nil, List.getD_cons_zero, List.getD_cons_succ]
        go_wp2_with (at_builtin; go_must (refine app_litBd eltCall (wr.alloc (Obj.cells #[.int .i64 1] 3)) rfl (.tmp 31) (.tmp 36) rfl w3.heap.size _ (2 * j) (tlsV gA j) rfl (by rw [← HTS.out]; exact HR3q1.out) 2 [.int .i64 0, .slice (some ⟨wr.heap.size, 0, none⟩) 1 1, .int .i64 1, .slice none 0 0] (wr.heap.size + 1) (by first | rfl | simp) rfl rfl (by intro u hu; simp only [List.mem_cons, List.not_mem_nil, or_false] at hu; rcases hu with rfl | rfl | rfl | rfl <;> rfl) (by omega) (by omega) (by first | omega | (simp; omega)) ?_); intro v8 w8 own8 g8 hv8)
        obtain ⟨A8, c8, rfl, hc8⟩ := own_form own8
        have hK8 : Kc tCall ((wr.alloc (Obj.cells #[.int .i64 1] 3)).alloc (.cells #[.int .i64 0, .slice (some ⟨wr.heap.size, 0, none⟩) 1 1, .int .i64 1, .slice none 0 0] 41)).drew w8 := Kc.grown ⟨g8.os, g8.tape, g8.output, g8.size, g8.block⟩ (fun b cs t fr he hh => .inl (own_same RL1.out he hh))
        have hK8' : Kc tCall ((wr.alloc (Obj.cells #[.int .i64 1] 3)).alloc (.cells #[.int .i64 0, .slice (some ⟨wr.heap.size, 0, none⟩) 1 1, .int .i64 1, .slice none 0 0] 41)) w8 := Kc.grown g8 (fun b cs t fr he hh => .inl (own_same RL1.out he hh))
        have hkw : Kc tCall wr ((wr.alloc (Obj.cells #[.int .i64 1] 3)).alloc (.cells #[.int .i64 0, .slice (some ⟨wr.heap.size, 0, none⟩) 1 1, .int .i64 1, .slice none 0 0] 41)) := (Kc.below hbl1).trans (Kc.below ((Below.refl _ _).alloc (Nat.le_refl _) _))
        have hbw : Below wr.heap.size wr ((wr.alloc (Obj.cells #[.int .i64 1] 3)).alloc (.cells #[.int .i64 0, .slice (some ⟨wr.heap.size, 0, none⟩) 1 1, .int .i64 1, .slice none 0 0] 41)) := hbl1.alloc hbl1.size _
        have b6 : Box ((wr.alloc (Obj.cells #[.int .i64 1] 3)).alloc (.cells #[.int .i64 0, .slice (some ⟨wr.heap.size, 0, none⟩) 1 1, .int .i64 1, .slice none 0 0] 41)) (gM + 1) 42 [ts] := HTl.out.thr.below hbw l6
        have hne6 := Box.ne b6 RL1.out (by decide)
        have b68 := b6.grown g8 hne6
        have y8 : w8.cell? ⟨gM + 1, 0, none⟩ = some (.slice Aq (2 * j) cq) := by
          have := b68.cell 0
          rw [HTS.out] at this
          exact this
        have f8 := b68.frozen 0
        have H68 := Lib.hid b68
        have HK8 := Lib.hid (hkw.trans hK8')
        have HO8 := Lib.hid own8
        have HNA := Lib.hid (Box.newAt wr 3 [.int .i64 1] wr.heap.size rfl)
        have HbN : Hid (Below (gM + 1) w3 w8) := by
          have h1 : Below (gM + 1) w3 ((wr.alloc (Obj.cells #[.int .i64 1] 3)).alloc (.cells #[.int .i64 0, .slice (some ⟨wr.heap.size, 0, none⟩) 1 1, .int .i64 1, .slice none 0 0] 41)) := hbel.trans (hbw.mono (by omega))
          show Below _ _ _
          exact h1.grown g8 (by have := hbw.size; omega) (fun k hk => by have := own_geT RL1.out hk; omega)
        have HKa : Hid (Kc tCall (wr.alloc (Obj.cells #[.int .i64 1] 3)) w8) := (Kc.below ((Below.refl _ _).alloc (Nat.le_refl _) _)).trans hK8'
        clear hK8' b68 own8 g8 hv8 hne6 z2 y0 g0 b6 hkw
        refine ⟨hK8, ?_⟩
        refine ord_moreG [12] _ (by kernel_rfl) ?_
        simp only [pick, List.map_cons, List.map_nil, List.getD_cons_zero, List.getD_cons_succ]
        go_wp2
        refine ord_finG (by kernel_rfl) ?_
        simp only [pick, List.map_cons, List.map_nil, List.getD_cons_zero, List.getD_cons_succ]
        go_wp2
        have hK9 : Kc tCall w8 (w8.setCell ⟨gM + 1, 0, none⟩ (.slice A8 (2 * j + 2) c8)) := Kc.grown (grown_setCell w8 ⟨gM + 1, 0, none⟩ _) (fun b cs t fr he hh => by
          injection he with he
          subst he
          have h6 := H68.out
          unfold Box at h6
          rw [h6] at hh
          injection hh with hh
          injection hh with _ hh
          exact .inr hh.symm)
        refine ⟨hK9, ord_doneG ?_⟩
        have hrow1 : World.ownsRow (w8.setCell ⟨gM + 1, 0, none⟩ (.slice A8 (2 * j + 2) c8)) w3.heap.size 41 2 (.slice A8 (2 * j + 2) c8) (2 * j + 2) (tlsV gA j ++ [.int .i64 0, .slice (some ⟨wr.heap.size, 0, none⟩) 1 1, .int .i64 1, .slice none 0 0]) := own_kc (T := fun t => t = 42) HO8.out (Kc.grown (grown_setCell w8 ⟨gM + 1, 0, none⟩ _) (fun b cs t fr he hh => by
          injection he with he
          subst he
          have h6 := H68.out
          unfold Box at h6
          rw [h6] at hh
          injection hh with hh
          injection hh with _ hh
          exact hh.symm)) (by decide)
        have hthr1 := H68.out.set 0 (.slice A8 (2 * j + 2) c8)
        have hk1 := HK8.out.trans hK9
        have hka1 := HKa.out.trans hK9
        have hbel1 := below_at HbN.out (Nat.le_refl (gM + 1)) 0 (.slice A8 (2 * j + 2) c8)
        have hs18 : (w8.setCell ⟨gM + 1, 0, none⟩ (.slice A8 (2 * j + 2) c8)).heap.size = w8.heap.size := by simp
        obtain ⟨W1, hW1⟩ : ∃ W, W = w8.setCell ⟨gM + 1, 0, none⟩ (.slice A8 (2 * j + 2) c8) := ⟨_, rfl⟩
        rw [← hW1] at hrow1 hthr1 hk1 hka1 hbel1 ⊢
        have hszw : wr.heap.size < W1.heap.size := HNA.out.kc hka1 tCall_int |>.lt
        have hsz1 := hbel1.size
        have hwnt := own_kc HTl.out.wnt hk1 tCall_int
        have harg : ∀ q, q < j → Box W1 (gA q) 3 [.int .i64 (tlsN x0 q)] ∧ some (gA q) ≠ v.ownBlock := fun q hq => ⟨(HTl.out.arg q hq).1.kc hk1 tCall_int, (HTl.out.arg q hq).2⟩
        have hnew := HNA.out.kc hka1 tCall_int
        have hnne : some wr.heap.size ≠ v.ownBlock := fun e => by have := own_ltT HTl.out.wnt e.symm; omega
        have HROW1 := Lib.hid hrow1
        have HTHR1 := Lib.hid hthr1
        have HARG := Lib.hid harg
        have HNEW := Lib.hid hnew
        have HWNT := Lib.hid hwnt
        have HNNE := Lib.hid hnne
        have HBEL1 := Lib.hid hbel1
        clear hK9 H68 y8 f8 hK8 hrow1 hthr1 hk1 hka1 hbel1 harg hnew hwnt hnne HK8 HKa HO8 HNA HbN hs18 hW1 RL1 HR3q1 hbw hbl1 R3
        go_wp2_with (first
          | (at_builtin; refine app_litB eltIntS W1 rfl (.tmp 39) (.tmp 41) rfl w3.heap.size _ (2 * j) _ rfl (by exact HWNT.out) 1 [.int .i64 s] _ rfl rfl rfl (one_ints .i64 [s]) (by omega) (by omega) (by omega) ?_; intro v5 w5 own5 g5 ho5; have hs5 : w3.heap.size ≤ w5.heap.size := by (have := g5.size; simp at this; omega))
          | (at_builtin; go_must (refine app_litB eltIntS w5 rfl (.tmp 46) (.tmp 48) rfl w3.heap.size _ (2 * j + 1) _ rfl (by exact own5) 1 [.int .i64 (wrap64 (s + 1))] _ rfl rfl rfl (one_ints .i64 [wrap64 (s + 1)]) (by omega) (by omega) hs5 ?_); intro v6 w6 own6 g6 ho6))
        have hk15 : Kc (fun t => t = 3) W1 w5 := (Kc.below ((Below.refl _ _).alloc (Nat.le_refl _) _)).trans (Kc.grown g5 (fun b cs t fr he hh => own_same (HWNT.out.alloc _) he hh))
        have hk56 : Kc (fun t => t = 3) w5 w6 := (Kc.below ((Below.refl _ _).alloc (Nat.le_refl _) _)).trans (Kc.grown g6 (fun b cs t fr he hh => own_same (own5.alloc _) he hh))
        have hk16 := hk15.trans hk56
        have hsum : wrap64 (s + 1) = wantN x0 (j + 1) := by rw [Cnt.wantN_succ, HN.out, HS.out]
        have two : ∀ b y, Box W1 b 3 [.int .i64 y] → some b ≠ v.ownBlock → Box w6 b 3 [.int .i64 y] ∧ some b ≠ v6.ownBlock := fun b y h1 h2 => by
          obtain ⟨q1, q2⟩ := keep_app h1 h2 g5 ho5
          exact keep_app q1 q2 g6 ho6
        have hb5 : Below (gM + 1) w3 w5 := (HBEL1.out.alloc (by omega) _).grown g5 (by simp; omega) (fun k hk => by have := own_geT HWNT.out hk; omega)
        have hb6 : Below (gM + 1) w3 w6 := (hb5.alloc (by omega) _).grown g6 (by simp; omega) (fun k hk => by have := own_geT own5 hk; omega)
        refine ⟨⟨j + 1, fun q => if q = j then wr.heap.size else gA q, .slice A8 (2 * j + 2) c8, v6, rfl, by omega, by go_num, by rw [hsum], ?_, hb6⟩, by simp [intOf]; omega⟩
        refine ⟨?_, fun q hq => ?_, ?_, HTHR1.out.kc hk16 (by decide)⟩
        · have h1 := own_kc HROW1.out hk16 (by decide)
          rw [show 2 * (j + 1) = 2 * j + 2 by omega, tlsV_succ, if_pos rfl, tlsV_congr (gA' := gA) (fun q hq => if_neg (by omega))]
          exact h1
        · by_cases hqj : q = j
          · subst hqj
            rw [if_pos rfl, HN.out]
            exact two _ _ HNEW.out HNNE.out
          · rw [if_neg hqj]
            obtain ⟨q1, q2⟩ := HARG.out q (by omega)
            exact two _ _ q1 q2
        · rw [show 2 * (j + 1) = 2 * j + 1 + 1 by omega, wntL_succ, List.map_append, ← hsum]
          have := own6
          rw [List.append_assoc] at this
          rw [← HS.out]
          exact this
    · obtain rfl : j = 9 := by omega
      obtain ⟨Aq, cq, hts, hlq⟩ := own_form HTl.out.row
      obtain ⟨Av, cv, hv, hlv⟩ := own_form HTl.out.wnt
      have hv' : v = .slice Av 18 cv := hv
      subst hv'
      have hbW : Below w1.heap.size w1 wr := by rw [← HgM.out]; exact HA3.out.trans (hbel.mono (by omega))
      have HIM := Lib.hid (count_inMT HR0.out HIN.out hbW (by rw [← show ts = .slice Aq 18 cq from hts]; exact HTl.out) hlq)
      have hbw : Below w.heap.size w wr := HB1.out.trans (hbW.mono hs1)
      have HBw := Lib.hid hbw
      have hsw := hbw.size
      have HWR := Lib.hid (show RI wr wr.heap.size .i64 Av 18 (wntL x0 9) from Rd.of_own HTl.out.wnt)
      have z0 : wr.cell? ⟨gM, 0, none⟩ = _ := HBX.out.cell 0
      have z1 : wr.cell? ⟨gM, 1, none⟩ = _ := HBX.out.cell 1
      have z2 : wr.cell? ⟨gM, 2, none⟩ = _ := HBX.out.cell 2
      simp only [List.getElem?_cons_zero, List.getElem?_cons_succ] at z0 z1 z2
      have lX := HBX.out.lt
      have hS : (List.replicate 1080 (0 : Int)).map Int.toNat = List.replicate 1080 0 := by rw [List.map_replicate]; rfl
      have hR := plR_fineT (HOk.out x0) (S := List.replicate 1080 (0 : Int)) (by rw [List.length_replicate]; omega) (fun x hx => by rw [List.eq_of_mem_replicate hx]; simp [mTells])
      rw [hS] at hR
      obtain ⟨hne, h18, heach⟩ := HGood.out
      have hrn := rn_ply _ hne
      obtain ⟨T, hTT⟩ : ∃ T, T = (plyG (mTells c x0) 0 (List.replicate 1080 0) (g0 (mTells c x0))).out := ⟨_, rfl⟩
      obtain ⟨W, hWW⟩ : ∃ W, W = (plyG (mTells c x0) 0 (List.replicate 1080 0) (g0 (mTells c x0))).w := ⟨_, rfl⟩
      rw [← hTT, ← hWW] at hR
      rw [← hTT] at h18 heach hrn
      have HR := Lib.hid hR
      have H18 := Lib.hid h18
      have HEACH := Lib.hid heach
      have HRN := Lib.hid hrn
      clear hR h18 heach hrn hne hTT hWW HGood hS hbW hbw hts HTl hj9
      go_wp2
      refine region_first [0] (.cons 1 (seq [2, 3, 4, 5, 6, 7] .nil)) (by kernel_rfl) (by kernel_rfl) ?_
      simp only [pick, List.map_cons, List.map_nil, List.getD_cons_zero, List.getD_cons_succ]
      go_wp2
      refine ord_call (by kernel_rfl) ?_
      simp only [pick, List.map_cons, List.map_nil, List.getD_cons_zero, List.getD_cons_succ]
      go_wp2_with (at_make; refine make_all eltIntS _ rfl _ _ rfl wr.heap.size _ _ _ _ 1080 rfl rfl rfl rfl (by omega) (by omega) (by first | exact Nat.le_refl _ | simp) ?_; intro w5 hown5 hbel5 hsz5 hgr5)
      have hb5 : Below wr.heap.size wr w5 := hbel5 wr (by first | exact (Below.refl _ _).drew | exact Below.refl _ _)
      refine ⟨ext_below (hbel5 _ (Below.refl _ _)), ?_⟩
      rw [madeCells_one _ rfl] at hown5
      have HRS := Lib.hid (show RI w5 w5.heap.size .i64 _ 1080 (List.replicate 1080 0) from by
        have := Rd.of_own hown5
        show Rd _ _ _ _ _ _
        rw [List.map_replicate]
        exact this)
      have HIM5 := Lib.hid (HIM.out.below hb5)
      have hbw5 : Below w.heap.size w w5 := HBw.out.trans (hb5.mono hsw)
      have HBw5 := Lib.hid hbw5
      have hs5 := hbw5.size
      have HWR5 := Lib.hid ((HWR.out.below hb5).more hb5.size)
      clear hown5 hbel5 hgr5 HIM HWR hbw5
      refine ord_last [2, 3, 4, 5, 6, 7] (by kernel_rfl) ?_
      simp only [pick, List.map_cons, List.map_nil, List.getD_cons_zero, List.getD_cons_succ]
      go_wp2_with fail
      refine (keep_ran HPl.out w5 (HT.out.below HBw5.out HT.out.lt) Aw nw cw Ac 2 cc _ 1 1 (mTells c x0) _ 1080 1080 (List.replicate 1080 0) T W HIM5.out HRS.out (by omega) HR.out HRN.out).mono ?_
      rintro e w4 ⟨A4, n4, c4, L, rfl, hlc4, hn4', HL, hD, hb6⟩
      have hbF := HBw5.out.trans (hb6.mono hs5)
      obtain ⟨D, hDD⟩ : ∃ D, D = dgs T := ⟨_, rfl⟩
      rw [← hDD] at HL H18 HEACH
      have LD := Lib.hid (show D.length = n4 by rw [← HL.out, List.length_map]; exact hD.len)
      obtain rfl : n4 = 18 := by rw [← LD.out]; exact H18.out
      have HDM := Lib.hid hD
      have HBF := Lib.hid hbF
      have HWR4 := Lib.hid ((HWR5.out.below hb6).more hb6.size)
      have hs4 := hbF.size
      clear hbF hb6 hD hDD z0 z1 z2 HIM5 HRS HR HRN HPl HBX hb5
      go_wp2
      go_loopw [10] (fun i wr => ∃ j : Nat, j ≤ 18 ∧ i = .int .i64 j ∧ Below w4.heap.size w4 wr) (fun i _ => 18 - (intOf i).toNat)
      case atStart => exact ⟨0, Nat.zero_le _, rfl, Below.refl _ _⟩
      case round =>
        obtain ⟨j, hj, rfl, hbel⟩ := hrel
        have hsz := hbel.size
        by_cases hjn : j < 18
        · obtain ⟨b, o, x, A', n'', k', rfl, hbB, d0, d1, d2, d3, d4, hlk, hn5, hri, HXL, HXX⟩ := (HDM.out.below hbel).val hjn
          have HXD : Hid (D[j]? = some x) := by have := HXX.out; rwa [HL.out] at this
          obtain ⟨hxe, hto⟩ := HEACH.out j x HXD.out
          have exe : (x.e == -1) = false := by simp; exact hxe
          obtain ⟨bv, ov, y, hAv, hbv, cv0, HYV, _⟩ := (HWR4.out.below hbel).val hjn
          subst hAv
          have hy : y = wantN x0 ((j + 1) / 2) := by
            have := HYV.out
            rw [wntL_at x0 9 j (by omega)] at this
            injection this with this
            exact this.symm
          rw [← hy] at hto
          have HTO := Lib.hid hto
          have HRI := Lib.hid hri
          have hn1 : n'' = 1 := by have := hri.len; rw [hto] at this; simpa using this.symm
          subst hn1
          have lb : b < wr.heap.size := by omega
          have lbv : bv < wr.heap.size := by omega
          clear HYV hri hxe hto HXX hy
          go_wp2
          refine region_first [0, 1, 2, 3, 4, 5, 6, 7, 8, 9, 10, 11, 12, 13, 14, 15] (.cons 16 (.cons 17 (seq [18, 19] .nil))) (by kernel_rfl) (by kernel_rfl) ?_
          simp only [pick, List.map_cons, List.map_nil, List.getD_cons_zero, List.getD_cons_succ]
          go_wp2
          refine ord_call (by kernel_rfl) ?_
          simp only [pick, List.map_cons, List.map_nil, List.getD_cons_zero, List.getD_cons_succ]
          go_wp2
          refine ⟨ext_below ((Below.refl _ _).alloc (Nat.le_refl _) _), ?_⟩
          have HNW := Lib.hid (Box.newAt wr 3 [.int .i64 y] wr.heap.size rfl)
          have HBN := Lib.hid ((Below.refl wr.heap.size wr).alloc (Nat.le_refl _) (Obj.cells #[.int .i64 y] 3))
          refine ord_call (by kernel_rfl) ?_
          simp only [pick, List.map_cons, List.map_nil, List.getD_cons_zero, List.getD_cons_succ]
          go_wp2_with fail
          refine (keep_sameInts x.to [y] A' (some ⟨wr.heap.size, 0, none⟩) 1 k' 1 1 _ w4.heap.size (wr.alloc (Obj.cells #[.int .i64 y] 3)).heap.size true (by exact (HRI.out.below (HBN.out.mono (by omega))).heap rfl) (by exact Rd.heap (Rd.box HNW.out rfl) rfl) (by rw [HTO.out]; simp) (by omega) (by omega)).mono ?_
          rintro e w7 ⟨rfl, m, rfl⟩
          go_wp2
          refine ⟨ext_below ((Below.refl _ _).trans ⟨rfl, rfl, rfl, Nat.le_refl _, fun _ _ => rfl⟩), ?_⟩
          refine ord_more [18, 19] .nil (by kernel_rfl) ?_
          simp only [pick, List.map_cons, List.map_nil, List.getD_cons_zero, List.getD_cons_succ]
          go_wp2
          refine ord_done ?_
          go_wp2
          have hbN : ∀ m, Below w4.heap.size w4 ((wr.alloc (Obj.cells #[.int .i64 y] 3)).drewN m) := fun m => (hbel.trans (HBN.out.mono (by omega))).trans ⟨rfl, rfl, rfl, Nat.le_refl _, fun _ _ => rfl⟩
          go_roundw
          case rel => exact ⟨j + 1, by omega, by go_num, hbN _⟩
          case measure => simp [intOf]; omega
        · obtain rfl : j = 18 := by omega
          have hbE : Below w.heap.size w wr := HBF.out.trans (hbel.mono hs4)
          have HBE := Lib.hid hbE
          go_wp2
          go_ret
          exact ⟨rfl, HBE.out⟩

end Go.Proofs.YtnchgdjdfhfedaaDoor
