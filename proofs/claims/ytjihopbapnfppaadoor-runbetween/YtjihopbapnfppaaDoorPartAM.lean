/- A machine of three threads, as it is drawn. No statement of the seat is proved here; no condition. -/
import Derived.Test.YtjihopbapnfppaaDoorPartAK
import Derived.Test.YtjihopbapnfppaaDoorPartAL
set_option linter.unusedSimpArgs false
set_option linter.unusedVariables false
namespace Go.Proofs.YtjihopbapnfppaaDoor
open Go.RowKit Go.Ord Go.Baro

theorem Mo.less {tg : Nat → Nat} {w : World} {B B' gw gc g6 : Nat} {v0 v1 : Value} {ts : Nat → Value} {c0 c1 : List Ins} {T : Nat → List Cl} (h : Mo tg w B gw gc g6 v0 v1 ts c0 c1 T) (hB : B' ≤ B) : Mo tg w B' gw gc g6 v0 v1 ts c0 c1 T := by
  refine ⟨own_more h.words hB, h.codes, ?_, ?_, h.thr, fun i hi => ?_, h.tag, by have := h.B6; omega⟩
  · obtain ⟨n, hn, hk⟩ := h.k0; exact ⟨n, hn, own_more hk hB⟩
  · obtain ⟨n, hn, hk⟩ := h.k1; exact ⟨n, hn, own_more hk hB⟩
  · obtain ⟨rows, h1, h2, h3, h4⟩ := h.row i hi
    exact ⟨rows, h1, h2, own_more h3 hB, h4⟩
theorem thJ_next (cs : List Int) {j q : Nat} {x : Int} (hq : j % 3 = q) (hx : cs[j]? = some x) : (fun i => if i = q then thJ cs q j ++ [⟨x % 2, [x % 7, j]⟩] else thJ cs i j) = fun i => thJ cs i (j + 1) := by
  funext i
  show _ = if j % 3 = i then thJ cs i j ++ [clJ cs j] else thJ cs i j
  by_cases hi : i = q
  · subst hi
    rw [if_pos rfl, if_pos hq]
    simp [clJ, hx]
  · rw [if_neg hi, if_neg (by omega)]
theorem one2V (a : Int) (A : Option Addr) (n k : Nat) : ∀ u ∈ [Value.int .i64 a, .slice A n k], u.oneCell' = true := by simp [Value.oneCell']
theorem mem_of {l : List Nat} {a : Nat} (h : l.contains a = true) : a ∈ l := by simpa using h
/-- What operation i of the machine's literal has left. -/
def Fm (B : Nat) (s0 s1 : Value) (x0 x1 : List Ins) (i : Nat) (a : Act) (w : World) : Prop :=
  match i with
  | 0 => ∃ g, a.tmps.getD 10 undef = .slice (some ⟨g, 0, none⟩) 8 8 ∧ w.ownsRow B 3 1 (.slice (some ⟨g, 0, none⟩) 8 8) 8 (List.replicate 8 (.int .i64 0))
  | 1 => a.tmps.getD 11 undef = s0
  | 2 => ∃ v n, a.tmps.getD 12 undef = v ∧ n ≤ 12 ∧ w.ownsRow B 37 5 v n (cellsO (kN 12 x0))
  | 3 => a.tmps.getD 13 undef = s1
  | 4 => ∃ v n, a.tmps.getD 14 undef = v ∧ n ≤ 12 ∧ w.ownsRow B 37 5 v n (cellsO (kN 12 x1))
  | 5 => ∃ g v0 v1 n n', a.tmps.getD 15 undef = .slice (some ⟨g, 0, none⟩) 2 2 ∧ Box w g 22 [v0, v1] ∧ n ≤ 12 ∧ w.ownsRow B 37 5 v0 n (cellsO (kN 12 x0)) ∧ n' ≤ 12 ∧ w.ownsRow B 37 5 v1 n' (cellsO (kN 12 x1))
  | 6 => ∃ g, a.tmps.getD 16 undef = .slice (some ⟨g, 0, none⟩) 3 3 ∧ B ≤ g ∧ Box w g 58 [.slice none 0 0, .slice none 0 0, .slice none 0 0]
  | 7 => ∃ g0 g g6 v0 v1 n n', a.tmps.getD 17 undef = .agg #[.slice (some ⟨g0, 0, none⟩) 8 8, .slice (some ⟨g, 0, none⟩) 2 2, .slice (some ⟨g6, 0, none⟩) 3 3] ∧ w.ownsRow B 3 1 (.slice (some ⟨g0, 0, none⟩) 8 8) 8 (List.replicate 8 (.int .i64 0)) ∧
      Box w g 22 [v0, v1] ∧ n ≤ 12 ∧ w.ownsRow B 37 5 v0 n (cellsO (kN 12 x0)) ∧ n' ≤ 12 ∧ w.ownsRow B 37 5 v1 n' (cellsO (kN 12 x1)) ∧ B ≤ g6 ∧ Box w g6 58 [.slice none 0 0, .slice none 0 0, .slice none 0 0]
  | 8 => ∃ g, a.tmps.getD 7 undef = .pointer (some ⟨g, 0, none⟩) ∧ B ≤ g ∧ Box w g 45 [.slice none 0 0, .slice none 0 0, .slice none 0 0]
  | _ => True
def slotM (i : Nat) : Nat := [10, 11, 12, 13, 14, 15, 16, 17, 7].getD i 0
theorem Fm.ext {B : Nat} {s0 s1 : Value} {x0 x1 : List Ins} {i : Nat} {a a' : Act} {w w' : World} (h : Fm B s0 s1 x0 x1 i a w) (hx : Ext w w') (he : a'.tmps.getD (slotM i) undef = a.tmps.getD (slotM i) undef) : Fm B s0 s1 x0 x1 i a' w' := by
  match i, h, he with
  | 0, ⟨g, h1, h2⟩, he => exact ⟨g, he.trans h1, own_ext h2 hx⟩
  | 1, h, he => exact he.trans h
  | 2, ⟨v, n, h1, h2, h3⟩, he => exact ⟨v, n, he.trans h1, h2, own_ext h3 hx⟩
  | 3, h, he => exact he.trans h
  | 4, ⟨v, n, h1, h2, h3⟩, he => exact ⟨v, n, he.trans h1, h2, own_ext h3 hx⟩
  | 5, ⟨g, v0, v1, n, n', h1, h2, h3, h4, h5, h6⟩, he => exact ⟨g, v0, v1, n, n', he.trans h1, h2.ext hx, h3, own_ext h4 hx, h5, own_ext h6 hx⟩
  | 6, ⟨g, h1, h2, h3⟩, he => exact ⟨g, he.trans h1, h2, h3.ext hx⟩
  | 7, ⟨g0, g, g6, v0, v1, n, n', h1, h2, h3, h4, h5, h6, h7, h8, h9⟩, he => exact ⟨g0, g, g6, v0, v1, n, n', he.trans h1, own_ext h2 hx, h3.ext hx, h4, own_ext h5 hx, h6, own_ext h7 hx, h8, h9.ext hx⟩
  | 8, ⟨g, h1, h2, h3⟩, he => exact ⟨g, he.trans h1, h2, h3.ext hx⟩
  | i + 9, _, _ => trivial

/-- The row with the call in it: what the store of it will leave. -/
def Dq (B g0 gc g6 q : Nat) (v0 v1 : Value) (c0 c1 : List Ins) (T : Nat → List Cl) (v : Value) (w : World) : Prop := ∃ tg ts A n c, v = .slice A n c ∧ Mo tg (w.setCell ⟨g6, q, none⟩ v) B g0 gc g6 v0 v1 ts c0 c1 T
/-- What operation k of a call's push has left; D: the row with the call in it. -/
def Vk (gm g6 q j b o n2 c2 nq cq : Nat) (Aq : Option Addr) (x y z : Int) (D : Value → World → Prop) (k : Nat) (v : Value) (w : World) : Prop :=
  match k with
  | 0 => v = .pointer (some ⟨gm, 2, none⟩)
  | 1 => v = .slice (some ⟨g6, 0, none⟩) 3 3
  | 2 => v = .int .i64 j
  | 3 => v = .int .i64 q
  | 4 => v = .pointer (some ⟨gm, 2, none⟩)
  | 5 => v = .slice (some ⟨g6, 0, none⟩) 3 3
  | 6 => v = .int .i64 j
  | 7 => v = .int .i64 q
  | 8 => v = .pointer (some ⟨g6, q, none⟩)
  | 9 => v = .slice Aq nq cq
  | 10 => v = .int .i64 y
  | 11 => v = .slice (some ⟨b, o, none⟩) n2 c2
  | 12 => v = .int .i64 j
  | 13 => v = .pointer (some ⟨b, o + j, none⟩)
  | 14 => v = .int .i64 x
  | 15 => v = .int .i64 z
  | 16 => v = .int .i64 j
  | 17 => ∃ ga, v = .slice (some ⟨ga, 0, none⟩) 2 2 ∧ Box w ga 3 [.int .i64 z, .int .i64 j]
  | 18 => ∃ ga, v = .agg #[.int .i64 y, .slice (some ⟨ga, 0, none⟩) 2 2] ∧ Box w ga 3 [.int .i64 z, .int .i64 j]
  | 19 => ∃ ga gl, v = .slice (some ⟨gl, 0, none⟩) 1 1 ∧ Box w gl 60 [.int .i64 y, .slice (some ⟨ga, 0, none⟩) 2 2] ∧ Box w ga 3 [.int .i64 z, .int .i64 j]
  | 20 => D v w
  | 21 => v = .pointer (some ⟨g6, q, none⟩)
  | _ => True
def Vq (P : Nat → Value → World → Prop) (L : Nat → Bool) (us : List Value) (w : World) : Prop := ∀ k v, L k = true → us[k]? = some v → ((k = 17 ∨ k = 18 ∨ k = 19) → L 20 = false) → P k v w
section
variable {gm g6 q j b o n2 c2 nq cq : Nat} {Aq : Option Addr} {x y z : Int} {D : Value → World → Prop} {k : Nat} {v : Value} {w w' : World}
theorem Vk.any (h : Vk gm g6 q j b o n2 c2 nq cq Aq x y z D k v w) (hk : k ≠ 17 ∧ k ≠ 18 ∧ k ≠ 19 ∧ k ≠ 20) : Vk gm g6 q j b o n2 c2 nq cq Aq x y z D k v w' := by
  match k, h, hk with
  | 0, h, _ | 1, h, _ | 2, h, _ | 3, h, _ | 4, h, _ | 5, h, _ | 6, h, _ | 7, h, _ | 8, h, _ | 9, h, _ | 10, h, _ | 11, h, _ | 12, h, _ | 13, h, _ | 14, h, _ | 15, h, _ | 16, h, _ | 21, h, _ => exact h
  | k + 22, _, _ => trivial
  | 17, _, hk => exact absurd rfl hk.1
  | 18, _, hk => exact absurd rfl hk.2.1
  | 19, _, hk => exact absurd rfl hk.2.2.1
  | 20, _, hk => exact absurd rfl hk.2.2.2
theorem Vk.ext (h : Vk gm g6 q j b o n2 c2 nq cq Aq x y z D k v w) (hk : k ≠ 20) (hx : Ext w w') : Vk gm g6 q j b o n2 c2 nq cq Aq x y z D k v w' := by
  by_cases h17 : k = 17
  · subst h17; obtain ⟨ga, h1, h2⟩ := h; exact ⟨ga, h1, h2.ext hx⟩
  by_cases h18 : k = 18
  · subst h18; obtain ⟨ga, h1, h2⟩ := h; exact ⟨ga, h1, h2.ext hx⟩
  by_cases h19 : k = 19
  · subst h19; obtain ⟨ga, gl, h1, h2, h3⟩ := h; exact ⟨ga, gl, h1, h2.ext hx, h3.ext hx⟩
  exact h.any ⟨h17, h18, h19, hk⟩
end
theorem Vq.set {P : Nat → Value → World → Prop} {L : Nat → Bool} {us : List Value} {w w' : World} {i : Nat} {v : Value} (h : Vq P L us w) (hi : i < us.length) (hP : P i v w') (hst : ∀ k u, L k = true → k ≠ i → (i = 20 → k ≠ 17 ∧ k ≠ 18 ∧ k ≠ 19) → P k u w → P k u w') :
    Vq P (markL L i) (us.set i v) w' := by
  intro k u hk hu h20
  by_cases hki : k = i
  · subst hki
    rw [List.getElem?_set_self hi] at hu
    injection hu with hu
    subst hu
    exact hP
  · rw [markL_ne _ hki] at hk
    rw [List.getElem?_set_ne (Ne.symm hki)] at hu
    refine hst k u hk hki (fun he => ?_) (h k u hk hu fun h17 => ?_)
    · subst he
      refine ⟨fun h => ?_, fun h => ?_, fun h => ?_⟩ <;> (have := h20 (by omega); rw [markL_self] at this; cases this)
    · exact markL_false (h20 h17)
/-- The frame while a call is pushed. -/
def Gq (fr : List Value) (P : Nat → Value → World → Prop) (C M : World → Prop) (L : Nat → Bool) (a : Act) (w : World) : Prop :=
  ∃ u33 u34 u35 u36 u37 u38 u39 u40 u41 u42 u43 u44 u45 u46 u47 u48 u49 u50 u51 u52 u53 u54, a = ⟨(fr ++ [u33, u34, u35, u36, u37, u38, u39, u40, u41, u42, u43, u44, u45, u46, u47, u48, u49, u50, u51, u52, u53, u54, undef]).toArray, []⟩ ∧ Vq P L [u33, u34, u35, u36, u37, u38, u39, u40, u41, u42, u43, u44, u45, u46, u47, u48, u49, u50, u51, u52, u53, u54] w ∧ C w ∧ (L 20 = false → M w)

/-- The frame while the machine's literal is made. -/
def Gm (w : World) (A0 A1 A2 : Option Addr) (n0 c0 n1 c1 n2 c2 : Nat) (a : Act) (wr : World) : Prop := (∃ u7 u10 u11 u12 u13 u14 u15 u16 u17, a = ⟨(List.toArray (Value.slice A0 n0 c0 :: Value.slice A1 n1 c1 :: Value.slice A2 n2 c2 :: undef :: undef :: undef :: Value.pointer (some ⟨w.heap.size, 0, none⟩) :: u7 :: undef :: undef :: u10 :: u11 :: u12 :: u13 :: u14 :: u15 :: u16 :: u17 :: undef :: undef :: undef :: undef :: undef :: undef :: undef :: undef :: undef :: undef :: undef :: undef :: undef :: undef :: undef :: undef :: undef :: undef :: undef :: undef :: undef :: undef :: undef :: undef :: undef :: undef :: undef :: undef :: undef :: undef :: undef :: undef :: undef :: undef :: undef :: undef :: undef :: undef :: [])), []⟩) ∧ Below (w.heap.size + 1) (w.alloc (Obj.cells #[.slice none 0 0, .slice none 0 0, .slice none 0 0] 45)) wr

set_option maxRecDepth 100000 in
set_option maxHeartbeats 2000000 in
theorem keep_MachineOf (w : World) (A0 A1 A2 : Option Addr) (n0 c0 n1 c1 n2 c2 : Nat) (x0 x1 : List Ins) (x2 : List Int) (h0 : RO w w.heap.size A0 n0 x0) (b0 : n0 ≤ 3518437208883) (h1 : RO w w.heap.size A1 n1 x1) (b1 : n1 ≤ 3518437208883) (h2 : RI w w.heap.size .i64 A2 n2 x2) (b2 : n2 ≤ 17592186044416) (r2 : ∀ x ∈ x2, inW x) :
    Calls Tryd.prog 30 #[.slice A0 n0 c0, .slice A1 n1 c1, .slice A2 n2 c2] w fun e w' => ∃ tg gw gc g6 v0 v1 ts, e = .returned (.agg #[.slice (some ⟨gw, 0, none⟩) 8 8, .slice (some ⟨gc, 0, none⟩) 2 2, .slice (some ⟨g6, 0, none⟩) 3 3]) ∧
      Mo tg w' w.heap.size gw gc g6 v0 v1 ts (kN 12 x0) (kN 12 x1) (thL x2) ∧ Below w.heap.size w w' := by
  have hbel0 := (Below.refl w.heap.size w).alloc (Nat.le_refl _) (Obj.cells #[.slice none 0 0, .slice none 0 0, .slice none 0 0] 45)
  have bR := Box.newAt w 45 [.slice none 0 0, .slice none 0 0, .slice none 0 0] w.heap.size rfl
  have H2 := Lib.hid r2
  have L2 := Lib.hid h2.len
  clear r2
  go_enter Tryd.func30, Tryd.ntmps30
  go_wp2
  refine region_many (F := Fm (w.heap.size + 1) (.slice A0 n0 c0) (.slice A1 n1 c1) x0 x1) (G := Gm w A0 A1 A2 n0 c0 n1 c1 n2 c2) 9 (by kernel_rfl) (by kernel_rfl) ⟨⟨undef, undef, undef, undef, undef, undef, undef, undef, undef, rfl⟩, (Below.refl _ _).drew⟩ ?_ ?_
  · intro i hi a wr hG hF
    obtain ⟨⟨u7, u10, u11, u12, u13, u14, u15, u16, u17, rfl⟩, hb⟩ := hG
    have hsz := hb.size
    simp at hsz
    have hbw : Below w.heap.size w wr := hbel0.trans (hb.mono (by omega))
    have fin : ∀ (a' : Act) (w' : World) (d : Nat), Ext wr w' → (∀ k, k < 9 → k ≠ i → a'.tmps.getD (slotM k) undef = (Act.mk (List.toArray (Value.slice A0 n0 c0 :: Value.slice A1 n1 c1 :: Value.slice A2 n2 c2 :: undef :: undef :: undef :: Value.pointer (some ⟨w.heap.size, 0, none⟩) :: u7 :: undef :: undef :: u10 :: u11 :: u12 :: u13 :: u14 :: u15 :: u16 :: u17 :: undef :: undef :: undef :: undef :: undef :: undef :: undef :: undef :: undef :: undef :: undef :: undef :: undef :: undef :: undef :: undef :: undef :: undef :: undef :: undef :: undef :: undef :: undef :: undef :: undef :: undef :: undef :: undef :: undef :: undef :: undef :: undef :: undef :: undef :: undef :: undef :: undef :: undef :: [])) []).tmps.getD (slotM k) undef) → ∀ k, k < 9 → k ≠ i → Fm (w.heap.size + 1) (.slice A0 n0 c0) (.slice A1 n1 c1) x0 x1 k ⟨(List.toArray (Value.slice A0 n0 c0 :: Value.slice A1 n1 c1 :: Value.slice A2 n2 c2 :: undef :: undef :: undef :: Value.pointer (some ⟨w.heap.size, 0, none⟩) :: u7 :: undef :: undef :: u10 :: u11 :: u12 :: u13 :: u14 :: u15 :: u16 :: u17 :: undef :: undef :: undef :: undef :: undef :: undef :: undef :: undef :: undef :: undef :: undef :: undef :: undef :: undef :: undef :: undef :: undef :: undef :: undef :: undef :: undef :: undef :: undef :: undef :: undef :: undef :: undef :: undef :: undef :: undef :: undef :: undef :: undef :: undef :: undef :: undef :: undef :: undef :: [])), []⟩ wr → Fm (w.heap.size + 1) (.slice A0 n0 c0) (.slice A1 n1 c1) x0 x1 k a' w' :=
      fun a' w' _ hx he k hk hne h => h.ext hx (he k hk hne)
    rcases (by omega : i = 0 ∨ i = 1 ∨ i = 2 ∨ i = 3 ∨ i = 4 ∨ i = 5 ∨ i = 6 ∨ i = 7 ∨ i = 8) with rfl | rfl | rfl | rfl | rfl | rfl | rfl | rfl | rfl
    · simp only [pick, List.map_cons, List.map_nil, List.getD_cons_zero, List.getD_cons_succ]
      go_wp2_with (at_make; refine make_all eltIntS _ rfl _ _ rfl (w.heap.size + 1) _ _ _ _ 8 rfl rfl rfl rfl (by omega) (by omega) (by omega) ?_; intro w1 hown1 hbel1 hsz1 hgr1)
      have HX : Hid (Ext wr w1) := fun k hk => hgr1.block k hk (by simp)
      exact ⟨⟨⟨_, _, _, _, _, _, _, _, _, rfl⟩, hbel1 _ hb⟩, ⟨_, rfl, by rw [madeCells_one _ rfl] at hown1; simpa using hown1⟩, (by intro k hk hne h; refine h.ext HX.out ?_; rcases (by omega : k = 0 ∨ k = 1 ∨ k = 2 ∨ k = 3 ∨ k = 4 ∨ k = 5 ∨ k = 6 ∨ k = 7 ∨ k = 8) with rfl | rfl | rfl | rfl | rfl | rfl | rfl | rfl | rfl <;> first | exact absurd rfl hne | rfl)⟩
    · have HX : Hid (Ext wr wr) := Ext.refl _
      simp only [pick, List.map_cons, List.map_nil, List.getD_cons_zero, List.getD_cons_succ]
      go_wp2
      exact ⟨⟨⟨_, _, _, _, _, _, _, _, _, rfl⟩, hb⟩, rfl, (by intro k hk hne h; refine h.ext HX.out ?_; rcases (by omega : k = 0 ∨ k = 1 ∨ k = 2 ∨ k = 3 ∨ k = 4 ∨ k = 5 ∨ k = 6 ∨ k = 7 ∨ k = 8) with rfl | rfl | rfl | rfl | rfl | rfl | rfl | rfl | rfl <;> first | exact absurd rfl hne | rfl)⟩
    · have e11 : u11 = .slice A0 n0 c0 := hF 1 (mem_of (by kernel_rfl))
      subst e11
      simp only [pick, List.map_cons, List.map_nil, List.getD_cons_zero, List.getD_cons_succ]
      go_wp2_with fail
      refine (keep_CodeOfN 12 (by omega) x0 A0 n0 c0 wr ((h0.below hbw).more (by omega)) b0).mono ?_
      rintro e w1 ⟨A', n', c', rfl, hown, hlc, hn', hb1⟩
      have HX : Hid (Ext wr w1) := hb1.block
      go_wp2
      exact ⟨⟨⟨_, _, _, _, _, _, _, _, _, rfl⟩, hb.trans (hb1.mono (by omega))⟩, ⟨_, _, rfl, hn', own_more hown (by omega)⟩, (by intro k hk hne h; refine h.ext HX.out ?_; rcases (by omega : k = 0 ∨ k = 1 ∨ k = 2 ∨ k = 3 ∨ k = 4 ∨ k = 5 ∨ k = 6 ∨ k = 7 ∨ k = 8) with rfl | rfl | rfl | rfl | rfl | rfl | rfl | rfl | rfl <;> first | exact absurd rfl hne | rfl)⟩
    · have HX : Hid (Ext wr wr) := Ext.refl _
      simp only [pick, List.map_cons, List.map_nil, List.getD_cons_zero, List.getD_cons_succ]
      go_wp2
      exact ⟨⟨⟨_, _, _, _, _, _, _, _, _, rfl⟩, hb⟩, rfl, (by intro k hk hne h; refine h.ext HX.out ?_; rcases (by omega : k = 0 ∨ k = 1 ∨ k = 2 ∨ k = 3 ∨ k = 4 ∨ k = 5 ∨ k = 6 ∨ k = 7 ∨ k = 8) with rfl | rfl | rfl | rfl | rfl | rfl | rfl | rfl | rfl <;> first | exact absurd rfl hne | rfl)⟩
    · have e11 : u13 = .slice A1 n1 c1 := hF 3 (mem_of (by kernel_rfl))
      subst e11
      simp only [pick, List.map_cons, List.map_nil, List.getD_cons_zero, List.getD_cons_succ]
      go_wp2_with fail
      refine (keep_CodeOfN 12 (by omega) x1 A1 n1 c1 wr ((h1.below hbw).more (by omega)) b1).mono ?_
      rintro e w1 ⟨A', n', c', rfl, hown, hlc, hn', hb1⟩
      have HX : Hid (Ext wr w1) := hb1.block
      go_wp2
      exact ⟨⟨⟨_, _, _, _, _, _, _, _, _, rfl⟩, hb.trans (hb1.mono (by omega))⟩, ⟨_, _, rfl, hn', own_more hown (by omega)⟩, (by intro k hk hne h; refine h.ext HX.out ?_; rcases (by omega : k = 0 ∨ k = 1 ∨ k = 2 ∨ k = 3 ∨ k = 4 ∨ k = 5 ∨ k = 6 ∨ k = 7 ∨ k = 8) with rfl | rfl | rfl | rfl | rfl | rfl | rfl | rfl | rfl <;> first | exact absurd rfl hne | rfl)⟩
    · obtain ⟨v2, m2, e2, q2, o2⟩ : Fm _ _ _ x0 x1 2 _ _ := hF 2 (mem_of (by kernel_rfl))
      obtain ⟨v4, m4, e4, q4, o4⟩ : Fm _ _ _ x0 x1 4 _ _ := hF 4 (mem_of (by kernel_rfl))
      obtain ⟨A2', k2, rfl, _⟩ := own_form o2
      obtain ⟨A4', k4, rfl, _⟩ := own_form o4
      have e2 : u12 = .slice A2' m2 k2 := e2
      have e4 : u14 = .slice A4' m4 k4 := e4
      subst e2 e4
      have HX : Hid (Ext wr (wr.alloc (Obj.cells #[.slice A2' m2 k2, .slice A4' m4 k4] 22))) := fun k hk => Below.heap_alloc wr _ k hk
      have bN := Box.newAt wr 22 [.slice A2' m2 k2, .slice A4' m4 k4] wr.heap.size rfl
      simp only [pick, List.map_cons, List.map_nil, List.getD_cons_zero, List.getD_cons_succ]
      go_wp2
      exact ⟨⟨⟨_, _, _, _, _, _, _, _, _, rfl⟩, hb.alloc (by omega) _⟩, ⟨_, _, _, _, _, rfl, bN, q2, o2.alloc _, q4, o4.alloc _⟩, (by intro k hk hne h; refine h.ext HX.out ?_; rcases (by omega : k = 0 ∨ k = 1 ∨ k = 2 ∨ k = 3 ∨ k = 4 ∨ k = 5 ∨ k = 6 ∨ k = 7 ∨ k = 8) with rfl | rfl | rfl | rfl | rfl | rfl | rfl | rfl | rfl <;> first | exact absurd rfl hne | rfl)⟩
    · simp only [pick, List.map_cons, List.map_nil, List.getD_cons_zero, List.getD_cons_succ]
      go_wp2_with (at_make; refine make_all eltThr _ rfl _ _ rfl (w.heap.size + 1) _ _ _ _ 3 rfl rfl rfl rfl (by omega) (by omega) (by omega) ?_; intro w1 hown1 hbel1 hsz1 hgr1)
      have HX : Hid (Ext wr w1) := fun k hk => hgr1.block k hk (by simp)
      rw [madeCells_one _ rfl] at hown1
      have hbx := own_box hown1
      exact ⟨⟨⟨_, _, _, _, _, _, _, _, _, rfl⟩, hbel1 _ hb⟩, ⟨_, rfl, hbx.2, hbx.1⟩, (by intro k hk hne h; refine h.ext HX.out ?_; rcases (by omega : k = 0 ∨ k = 1 ∨ k = 2 ∨ k = 3 ∨ k = 4 ∨ k = 5 ∨ k = 6 ∨ k = 7 ∨ k = 8) with rfl | rfl | rfl | rfl | rfl | rfl | rfl | rfl | rfl <;> first | exact absurd rfl hne | rfl)⟩
    · obtain ⟨g0, e0, o0⟩ : Fm _ _ _ x0 x1 0 _ _ := hF 0 (mem_of (by kernel_rfl))
      obtain ⟨g5, v0, v1, m, m', e5, p1, p2, p3, p4, p5⟩ : Fm _ _ _ x0 x1 5 _ _ := hF 5 (mem_of (by kernel_rfl))
      obtain ⟨g6, e6, p6, p7⟩ : Fm _ _ _ x0 x1 6 _ _ := hF 6 (mem_of (by kernel_rfl))
      have e0 : u10 = .slice (some ⟨g0, 0, none⟩) 8 8 := e0
      have e5 : u15 = .slice (some ⟨g5, 0, none⟩) 2 2 := e5
      have e6 : u16 = .slice (some ⟨g6, 0, none⟩) 3 3 := e6
      subst e0 e5 e6
      have HX : Hid (Ext wr wr) := Ext.refl _
      simp only [pick, List.map_cons, List.map_nil, List.getD_cons_zero, List.getD_cons_succ]
      go_wp2
      exact ⟨⟨⟨_, _, _, _, _, _, _, _, _, rfl⟩, hb⟩, ⟨_, _, _, _, _, _, _, rfl, o0, p1, p2, p3, p4, p5, p6, p7⟩, (by intro k hk hne h; refine h.ext HX.out ?_; rcases (by omega : k = 0 ∨ k = 1 ∨ k = 2 ∨ k = 3 ∨ k = 4 ∨ k = 5 ∨ k = 6 ∨ k = 7 ∨ k = 8) with rfl | rfl | rfl | rfl | rfl | rfl | rfl | rfl | rfl <;> first | exact absurd rfl hne | rfl)⟩
    · have HX : Hid (Ext wr (wr.alloc (Obj.cells #[.slice none 0 0, .slice none 0 0, .slice none 0 0] 45))) := fun k hk => Below.heap_alloc wr _ k hk
      have bN := Box.newAt wr 45 [.slice none 0 0, .slice none 0 0, .slice none 0 0] wr.heap.size rfl
      simp only [pick, List.map_cons, List.map_nil, List.getD_cons_zero, List.getD_cons_succ]
      go_wp2
      exact ⟨⟨⟨_, _, _, _, _, _, _, _, _, rfl⟩, hb.alloc (by omega) _⟩, ⟨_, rfl, by omega, bN⟩, (by intro k hk hne h; refine h.ext HX.out ?_; rcases (by omega : k = 0 ∨ k = 1 ∨ k = 2 ∨ k = 3 ∨ k = 4 ∨ k = 5 ∨ k = 6 ∨ k = 7 ∨ k = 8) with rfl | rfl | rfl | rfl | rfl | rfl | rfl | rfl | rfl <;> first | exact absurd rfl hne | rfl)⟩
  · intro a wr hG hF
    obtain ⟨⟨u7, u10, u11, u12, u13, u14, u15, u16, u17, rfl⟩, hb⟩ := hG
    have hsz := hb.size
    simp at hsz
    have hbw : Below w.heap.size w wr := hbel0.trans (hb.mono (by omega))
    obtain ⟨gm, e7, q8, bM⟩ : Fm _ _ _ x0 x1 8 _ _ := hF 8 (by omega)
    obtain ⟨g0, gc, g6, v0, v1, m, m', e17, o0, p1, p2, p3, p4, p5, p6, p7⟩ : Fm _ _ _ x0 x1 7 _ _ := hF 7 (by omega)
    have e7 : u7 = .pointer (some ⟨gm, 0, none⟩) := e7
    have e17 : u17 = .agg #[.slice (some ⟨g0, 0, none⟩) 8 8, .slice (some ⟨gc, 0, none⟩) 2 2, .slice (some ⟨g6, 0, none⟩) 3 3] := e17
    subst e7 e17
    clear hF
    have hMo : Mo (fun _ => 0) wr (w.heap.size + 1) g0 gc g6 v0 v1 (fun _ => .slice none 0 0) (kN 12 x0) (kN 12 x1) (fun i => thJ x2 i 0) := ⟨o0, p1, ⟨m, p2, p3⟩, ⟨m', p4, p5⟩, p7, fun i hi => Cr.nil _ _ _ _, fun i hi k hk => (by cases hk), p6⟩
    have bR1 := bR.below hb (by omega)
    have z0 : wr.cell? ⟨gm, 0, none⟩ = _ := bM.cell 0
    have z1 : wr.cell? ⟨gm, 1, none⟩ = _ := bM.cell 1
    have z2 : wr.cell? ⟨gm, 2, none⟩ = _ := bM.cell 2
    simp only [List.getElem?_cons_zero, List.getElem?_cons_succ] at z0 z1 z2
    have f0 := bM.frozen 0
    have f1 := bM.frozen 1
    have f2 := bM.frozen 2
    have lM := bM.lt
    have bM2 := bM.three (.slice (some ⟨g0, 0, none⟩) 8 8) (.slice (some ⟨gc, 0, none⟩) 2 2) (.slice (some ⟨g6, 0, none⟩) 3 3)
    have hun : Un (fun k => k = gm) wr (((wr.setCell ⟨gm, 0, none⟩ (.slice (some ⟨g0, 0, none⟩) 8 8)).setCell ⟨gm, 1, none⟩ (.slice (some ⟨gc, 0, none⟩) 2 2)).setCell ⟨gm, 2, none⟩ (.slice (some ⟨g6, 0, none⟩) 3 3)) :=
      un_at (X := fun k => k = gm) (un_at (X := fun k => k = gm) (un_at (X := fun k => k = gm) (Un.refl _ _) rfl _ _) rfl _ _) rfl _ _
    have HMo := Lib.hid (hMo.un hun (fun k t hk ht => by subst hk; rw [ht.one bM.ty]; decide))
    have bR2 := bR1.un hun (fun h => by omega)
    have hbw2 : Below w.heap.size w _ := hbw.trans (hun.below (by omega) (fun k hk h => by omega))
    clear hMo o0 p1 p3 p5 p7 bR1 bM hb hun
    simp only [pick, List.map_cons, List.map_nil, List.getD_cons_zero, List.getD_cons_succ]
    go_wp2
    go_loopw [8] (fun i wr => ∃ (j : Nat) (tg : Nat → Nat) (ts : Nat → Value), j ≤ n2 ∧ j ≤ 12 ∧ i = .int .i64 j ∧ Hid (Mo tg wr (w.heap.size + 1) g0 gc g6 v0 v1 ts (kN 12 x0) (kN 12 x1) (fun i => thJ x2 i j)) ∧ Box wr gm 45 [.slice (some ⟨g0, 0, none⟩) 8 8, .slice (some ⟨gc, 0, none⟩) 2 2, .slice (some ⟨g6, 0, none⟩) 3 3] ∧ Box wr w.heap.size 45 [.slice none 0 0, .slice none 0 0, .slice none 0 0] ∧ Below w.heap.size w wr) (fun i _ => 12 - (intOf i).toNat)
    case atStart => exact ⟨0, _, _, Nat.zero_le _, by omega, rfl, HMo.out, bM2, bR2, hbw2⟩
    case round =>
      clear HMo bM2 bR2 hbw2
      obtain ⟨j, tg, ts, hj, hj12, rfl, HMo, bM, bR, hbel⟩ := hrel
      have hszr := hbel.size
      have z0 : wr.cell? ⟨gm, 0, none⟩ = _ := bM.cell 0
      have z1 : wr.cell? ⟨gm, 1, none⟩ = _ := bM.cell 1
      have z2 : wr.cell? ⟨gm, 2, none⟩ = _ := bM.cell 2
      simp only [List.getElem?_cons_zero, List.getElem?_cons_succ] at z0 z1 z2
      have lM := bM.lt
      have lR := bR.lt
      have l6 := HMo.out.thr.lt
      have hB6 := HMo.out.B6
      have fin : j = n2 ∨ j = 12 → (fun i => thJ x2 i j) = thL x2 := by
        intro h
        funext i
        unfold thL
        rw [L2.out]
        congr 1
        omega
      have HFin := Lib.hid fin
      clear fin
      by_cases h1' : j < n2
      · by_cases h2' : j < 12
        · obtain ⟨b, o, x, rfl, hbB, hcell, HX, hmem⟩ := (h2.below hbel).val h1'
          have hxw := H2.out x hmem
          obtain ⟨q, hq⟩ : ∃ q, j % 3 = q := ⟨_, rfl⟩
          have hq3 : q < 3 := by omega
          have hmod : (j : Int).tmod 3 = (q : Int) := by rw [Int.tmod_eq_emod_of_nonneg (by omega)]; omega
          obtain ⟨rows, r1, r2, r3, r4⟩ := HMo.out.row q hq3
          obtain ⟨Aq, cq, hts, hlq⟩ := own_form r3
          obtain ⟨nq, hnq⟩ : ∃ nq, nq = (thJ x2 q j).length := ⟨_, rfl⟩
          have hnq12 : nq ≤ 12 := by have := thJ_len x2 q j; omega
          have y6 : wr.cell? ⟨g6, q, none⟩ = some (.slice Aq nq cq) := by
            have := HMo.out.thr.cell q
            rw [three_at ts hq3, hts, ← hnq] at this
            exact this
          have hlb : b < wr.heap.size := by omega
          have HCA : Hid (w.cell? ⟨b, o + j, none⟩ = some (.int .i64 x)) := (hbel.cell (p := ⟨b, o + j, none⟩) hbB).symm.trans hcell
          have HQ := Lib.hid hq
          have HTS := Lib.hid hts
          have HNQ := Lib.hid hnq
          have HMem := Lib.hid hmem
          have r3' : wr.ownsRow (w.heap.size + 1) 60 2 (.slice Aq nq cq) nq rows.flatten := by rw [hnq, ← hts]; exact r3
          have R1 := Lib.hid r1
          have R2 := Lib.hid r2
          have R3 := Lib.hid r3
          have R4 := Lib.hid r4
          have R3' := Lib.hid r3'
          unfold inW at hxw
          obtain ⟨y, hy⟩ : ∃ y, y = x % 2 := ⟨_, rfl⟩
          obtain ⟨z, hz⟩ : ∃ z, z = x % 7 := ⟨_, rfl⟩
          have hy0 : 0 ≤ y ∧ y < 2 := by omega
          have hz0 : 0 ≤ z ∧ z < 7 := by omega
          have HY := Lib.hid hy
          have HZ := Lib.hid hz
          clear hq hts hnq hmem r1 r2 r3 r4 r3' hy hz hlq R1 R2 R3 R4 R3'
          go_wp2_with fail
          refine (keep_Picked x 2 wr (by omega) (by omega)).mono ?_
          rintro e w' ⟨rfl, rfl⟩
          rw [← HY.out]
          go_wp2
          have hC0 : Box wr gm 45 [.slice (some ⟨g0, 0, none⟩) 8 8, .slice (some ⟨gc, 0, none⟩) 2 2, .slice (some ⟨g6, 0, none⟩) 3 3] ∧ Box wr w.heap.size 45 [.slice none 0 0, .slice none 0 0, .slice none 0 0] ∧ Box wr g6 58 [ts 0, ts 1, ts 2] ∧ Below w.heap.size w wr := ⟨bM, bR, HMo.out.thr, hbel⟩
          refine region_manyL (G := Gq [.slice A0 n0 c0, .slice A1 n1 c1, .slice (some ⟨b, o, none⟩) n2 c2, undef, undef, undef, .pointer (some ⟨w.heap.size, 0, none⟩), .pointer (some ⟨gm, 0, none⟩), .int .i64 j, .int .i64 y, u10, u11, u12, u13, u14, u15, u16, .agg #[.slice (some ⟨g0, 0, none⟩) 8 8, .slice (some ⟨gc, 0, none⟩) 2 2, .slice (some ⟨g6, 0, none⟩) 3 3], .int .i64 j, .slice (some ⟨b, o, none⟩) n2 c2, .int .i64 n2, .bool true, .bool true, .int .i64 j, .bool true, .bool true, u26, u27, .slice (some ⟨b, o, none⟩) n2 c2, .int .i64 j, .pointer (some ⟨b, o + j, none⟩), .int .i64 x, .int .i64 y] (Vk gm g6 q j b o n2 c2 nq cq Aq x y z (Dq (w.heap.size + 1) g0 gc g6 q v0 v1 (kN 12 x0) (kN 12 x1) (fun i => thJ x2 i (j + 1)))) (fun wr => Box wr gm 45 [.slice (some ⟨g0, 0, none⟩) 8 8, .slice (some ⟨gc, 0, none⟩) 2 2, .slice (some ⟨g6, 0, none⟩) 3 3] ∧ Box wr w.heap.size 45 [.slice none 0 0, .slice none 0 0, .slice none 0 0] ∧ Box wr g6 58 [ts 0, ts 1, ts 2] ∧ Below w.heap.size w wr) (fun wr => Mo tg wr (w.heap.size + 1) g0 gc g6 v0 v1 ts (kN 12 x0) (kN 12 x1) (fun i => thJ x2 i j))) 22 (by kernel_rfl) (by kernel_rfl) ⟨_, _, _, _, _, _, _, _, _, _, _, _, _, _, _, _, _, _, _, _, _, _, rfl, (fun k v hk => (by cases hk)), ⟨bM, bR, HMo.out.thr, hbel.drew⟩, fun _ => HMo.out.un (X := fun _ => False) (Un.refl _ _).drew (fun _ _ h => h.elim)⟩ ?_ ?_
          · intro i hi L a wq h1 h2c h3 hG
            clear HMo bM bR hC0 z0 z1 z2 y6 hcell lM lR l6
            obtain ⟨u33, u34, u35, u36, u37, u38, u39, u40, u41, u42, u43, u44, u45, u46, u47, u48, u49, u50, u51, u52, u53, u54, rfl, hV, hC, hM⟩ := hG
            have HMM := Lib.hid hM
            have HC := Lib.hid hC
            obtain ⟨bM, bR, b6, hbq⟩ := hC
            have z2 : wq.cell? ⟨gm, 2, none⟩ = some (.slice (some ⟨g6, 0, none⟩) 3 3) := bM.cell 2
            have y6 : wq.cell? ⟨g6, q, none⟩ = some (.slice Aq nq cq) := by
              have := b6.cell q
              rw [three_at ts hq3, HTS.out, ← HNQ.out] at this
              exact this
            have ya : wq.cell? ⟨b, o + j, none⟩ = some (.int .i64 x) := (hbq.cell (p := ⟨b, o + j, none⟩) hbB).trans HCA.out
            have hszq := hbq.size
            have lM := bM.lt
            have l6 := b6.lt
            have hlbq : b < wq.heap.size := by omega
            simp only [List.cons_append, List.nil_append]
            rcases (by omega : i = 0 ∨ i = 1 ∨ i = 2 ∨ i = 3 ∨ i = 4 ∨ i = 5 ∨ i = 6 ∨ i = 7 ∨ i = 8 ∨ i = 9 ∨ i = 10 ∨ i = 11 ∨ i = 12 ∨ i = 13 ∨ i = 14 ∨ i = 15 ∨ i = 16 ∨ i = 17 ∨ i = 18 ∨ i = 19 ∨ i = 20 ∨ i = 21) with rfl | rfl | rfl | rfl | rfl | rfl | rfl | rfl | rfl | rfl | rfl | rfl | rfl | rfl | rfl | rfl | rfl | rfl | rfl | rfl | rfl | rfl
            · clear h2c h3 hM
              simp only [pick, List.map_cons, List.map_nil, List.getD_cons_zero, List.getD_cons_succ]
              go_wp2
              exact ⟨_, _, _, _, _, _, _, _, _, _, _, _, _, _, _, _, _, _, _, _, _, _, rfl, hV.set (i := 0) (v := .pointer (some ⟨gm, 2, none⟩)) (by simp) rfl (fun k u _ _ _ h => h), HC.out, fun h => HMM.out (markL_false h)⟩
            · have e0 : u33 = .pointer (some ⟨gm, 2, none⟩) := hV 0 _ (h3 0 (mem_of (by kernel_rfl))) rfl (fun h => by omega)
              subst e0
              clear h2c h3 hM
              simp only [pick, List.map_cons, List.map_nil, List.getD_cons_zero, List.getD_cons_succ]
              go_wp2
              exact ⟨_, _, _, _, _, _, _, _, _, _, _, _, _, _, _, _, _, _, _, _, _, _, rfl, hV.set (i := 1) (v := .slice (some ⟨g6, 0, none⟩) 3 3) (by simp) rfl (fun k u _ _ _ h => h), HC.out, fun h => HMM.out (markL_false h)⟩
            · clear h2c h3 hM
              simp only [pick, List.map_cons, List.map_nil, List.getD_cons_zero, List.getD_cons_succ]
              go_wp2
              exact ⟨_, _, _, _, _, _, _, _, _, _, _, _, _, _, _, _, _, _, _, _, _, _, rfl, hV.set (i := 2) (v := .int .i64 j) (by simp) rfl (fun k u _ _ _ h => h), HC.out, fun h => HMM.out (markL_false h)⟩
            · have e2 : u35 = .int .i64 j := hV 2 _ (h3 2 (mem_of (by kernel_rfl))) rfl (fun h => by omega)
              subst e2
              clear h2c h3 hM
              simp only [pick, List.map_cons, List.map_nil, List.getD_cons_zero, List.getD_cons_succ]
              go_wp2
              exact ⟨_, _, _, _, _, _, _, _, _, _, _, _, _, _, _, _, _, _, _, _, _, _, rfl, hV.set (i := 3) (v := .int .i64 q) (by simp) rfl (fun k u _ _ _ h => h), HC.out, fun h => HMM.out (markL_false h)⟩
            · clear h2c h3 hM
              simp only [pick, List.map_cons, List.map_nil, List.getD_cons_zero, List.getD_cons_succ]
              go_wp2
              exact ⟨_, _, _, _, _, _, _, _, _, _, _, _, _, _, _, _, _, _, _, _, _, _, rfl, hV.set (i := 4) (v := .pointer (some ⟨gm, 2, none⟩)) (by simp) rfl (fun k u _ _ _ h => h), HC.out, fun h => HMM.out (markL_false h)⟩
            · have e4 : u37 = .pointer (some ⟨gm, 2, none⟩) := hV 4 _ (h3 4 (mem_of (by kernel_rfl))) rfl (fun h => by omega)
              subst e4
              clear h2c h3 hM
              simp only [pick, List.map_cons, List.map_nil, List.getD_cons_zero, List.getD_cons_succ]
              go_wp2
              exact ⟨_, _, _, _, _, _, _, _, _, _, _, _, _, _, _, _, _, _, _, _, _, _, rfl, hV.set (i := 5) (v := .slice (some ⟨g6, 0, none⟩) 3 3) (by simp) rfl (fun k u _ _ _ h => h), HC.out, fun h => HMM.out (markL_false h)⟩
            · clear h2c h3 hM
              simp only [pick, List.map_cons, List.map_nil, List.getD_cons_zero, List.getD_cons_succ]
              go_wp2
              exact ⟨_, _, _, _, _, _, _, _, _, _, _, _, _, _, _, _, _, _, _, _, _, _, rfl, hV.set (i := 6) (v := .int .i64 j) (by simp) rfl (fun k u _ _ _ h => h), HC.out, fun h => HMM.out (markL_false h)⟩
            · have e6 : u39 = .int .i64 j := hV 6 _ (h3 6 (mem_of (by kernel_rfl))) rfl (fun h => by omega)
              subst e6
              clear h2c h3 hM
              simp only [pick, List.map_cons, List.map_nil, List.getD_cons_zero, List.getD_cons_succ]
              go_wp2
              exact ⟨_, _, _, _, _, _, _, _, _, _, _, _, _, _, _, _, _, _, _, _, _, _, rfl, hV.set (i := 7) (v := .int .i64 q) (by simp) rfl (fun k u _ _ _ h => h), HC.out, fun h => HMM.out (markL_false h)⟩
            · have e5 : u38 = .slice (some ⟨g6, 0, none⟩) 3 3 := hV 5 _ (h3 5 (mem_of (by kernel_rfl))) rfl (fun h => by omega)
              subst e5
              have e7 : u40 = .int .i64 q := hV 7 _ (h3 7 (mem_of (by kernel_rfl))) rfl (fun h => by omega)
              subst e7
              clear h2c h3 hM
              simp only [pick, List.map_cons, List.map_nil, List.getD_cons_zero, List.getD_cons_succ]
              go_wp2
              exact ⟨_, _, _, _, _, _, _, _, _, _, _, _, _, _, _, _, _, _, _, _, _, _, rfl, hV.set (i := 8) (v := .pointer (some ⟨g6, q, none⟩)) (by simp) rfl (fun k u _ _ _ h => h), HC.out, fun h => HMM.out (markL_false h)⟩
            · have e8 : u41 = .pointer (some ⟨g6, q, none⟩) := hV 8 _ (h3 8 (mem_of (by kernel_rfl))) rfl (fun h => by omega)
              subst e8
              clear h2c h3 hM
              simp only [pick, List.map_cons, List.map_nil, List.getD_cons_zero, List.getD_cons_succ]
              go_wp2
              exact ⟨_, _, _, _, _, _, _, _, _, _, _, _, _, _, _, _, _, _, _, _, _, _, rfl, hV.set (i := 9) (v := .slice Aq nq cq) (by simp) rfl (fun k u _ _ _ h => h), HC.out, fun h => HMM.out (markL_false h)⟩
            · clear h2c h3 hM
              simp only [pick, List.map_cons, List.map_nil, List.getD_cons_zero, List.getD_cons_succ]
              go_wp2
              exact ⟨_, _, _, _, _, _, _, _, _, _, _, _, _, _, _, _, _, _, _, _, _, _, rfl, hV.set (i := 10) (v := .int .i64 y) (by simp) rfl (fun k u _ _ _ h => h), HC.out, fun h => HMM.out (markL_false h)⟩
            · clear h2c h3 hM
              simp only [pick, List.map_cons, List.map_nil, List.getD_cons_zero, List.getD_cons_succ]
              go_wp2
              exact ⟨_, _, _, _, _, _, _, _, _, _, _, _, _, _, _, _, _, _, _, _, _, _, rfl, hV.set (i := 11) (v := .slice (some ⟨b, o, none⟩) n2 c2) (by simp) rfl (fun k u _ _ _ h => h), HC.out, fun h => HMM.out (markL_false h)⟩
            · clear h2c h3 hM
              simp only [pick, List.map_cons, List.map_nil, List.getD_cons_zero, List.getD_cons_succ]
              go_wp2
              exact ⟨_, _, _, _, _, _, _, _, _, _, _, _, _, _, _, _, _, _, _, _, _, _, rfl, hV.set (i := 12) (v := .int .i64 j) (by simp) rfl (fun k u _ _ _ h => h), HC.out, fun h => HMM.out (markL_false h)⟩
            · have e11 : u44 = .slice (some ⟨b, o, none⟩) n2 c2 := hV 11 _ (h3 11 (mem_of (by kernel_rfl))) rfl (fun h => by omega)
              subst e11
              have e12 : u45 = .int .i64 j := hV 12 _ (h3 12 (mem_of (by kernel_rfl))) rfl (fun h => by omega)
              subst e12
              clear h2c h3 hM
              simp only [pick, List.map_cons, List.map_nil, List.getD_cons_zero, List.getD_cons_succ]
              go_wp2
              exact ⟨_, _, _, _, _, _, _, _, _, _, _, _, _, _, _, _, _, _, _, _, _, _, rfl, hV.set (i := 13) (v := .pointer (some ⟨b, o + j, none⟩)) (by simp) rfl (fun k u _ _ _ h => h), HC.out, fun h => HMM.out (markL_false h)⟩
            · have e13 : u46 = .pointer (some ⟨b, o + j, none⟩) := hV 13 _ (h3 13 (mem_of (by kernel_rfl))) rfl (fun h => by omega)
              subst e13
              clear h2c h3 hM
              simp only [pick, List.map_cons, List.map_nil, List.getD_cons_zero, List.getD_cons_succ]
              go_wp2
              exact ⟨_, _, _, _, _, _, _, _, _, _, _, _, _, _, _, _, _, _, _, _, _, _, rfl, hV.set (i := 14) (v := .int .i64 x) (by simp) rfl (fun k u _ _ _ h => h), HC.out, fun h => HMM.out (markL_false h)⟩
            · have e14 : u47 = .int .i64 x := hV 14 _ (h3 14 (mem_of (by kernel_rfl))) rfl (fun h => by omega)
              subst e14
              clear h2c h3 hM
              simp only [pick, List.map_cons, List.map_nil, List.getD_cons_zero, List.getD_cons_succ]
              go_wp2_with fail
              refine (keep_Picked x 7 _ (by omega) (by omega)).mono ?_
              rintro e w' ⟨rfl, rfl⟩
              rw [← HZ.out]
              go_wp2
              exact ⟨_, _, _, _, _, _, _, _, _, _, _, _, _, _, _, _, _, _, _, _, _, _, rfl, hV.set (i := 15) (v := .int .i64 z) (by simp) rfl (fun k u _ _ _ h => h), HC.out, fun h => HMM.out (markL_false h)⟩
            · clear h2c h3 hM
              simp only [pick, List.map_cons, List.map_nil, List.getD_cons_zero, List.getD_cons_succ]
              go_wp2
              exact ⟨_, _, _, _, _, _, _, _, _, _, _, _, _, _, _, _, _, _, _, _, _, _, rfl, hV.set (i := 16) (v := .int .i64 j) (by simp) rfl (fun k u _ _ _ h => h), HC.out, fun h => HMM.out (markL_false h)⟩
            · have e15 : u48 = .int .i64 z := hV 15 _ (h3 15 (mem_of (by kernel_rfl))) rfl (fun h => by omega)
              subst e15
              have e16 : u49 = .int .i64 j := hV 16 _ (h3 16 (mem_of (by kernel_rfl))) rfl (fun h => by omega)
              subst e16
              have hL20 : L 20 = false := by
                cases h : L 20 with
                | false => rfl
                | true =>
                  have := h2c 18 (h2c 19 (h2c 20 h 19 (mem_of (by kernel_rfl))) 18 (mem_of (by kernel_rfl))) 17 (mem_of (by kernel_rfl))
                  rw [h1] at this
                  cases this
              have HX : Hid (Ext wq (wq.alloc (Obj.cells #[.int .i64 z, .int .i64 j] 3))) := fun k hk => Below.heap_alloc wq _ k hk
              have bN := Box.newAt wq 3 [.int .i64 z, .int .i64 j] wq.heap.size rfl
              have HC2 : Hid ((fun wr => Box wr gm 45 [.slice (some ⟨g0, 0, none⟩) 8 8, .slice (some ⟨gc, 0, none⟩) 2 2, .slice (some ⟨g6, 0, none⟩) 3 3] ∧ Box wr w.heap.size 45 [.slice none 0 0, .slice none 0 0, .slice none 0 0] ∧ Box wr g6 58 [ts 0, ts 1, ts 2] ∧ Below w.heap.size w wr) (wq.alloc (Obj.cells #[.int .i64 z, .int .i64 j] 3))) := ⟨bM.alloc _, bR.alloc _, b6.alloc _, hbq.alloc hszq _⟩
              have HM2 : Hid ((fun wr => Mo tg wr (w.heap.size + 1) g0 gc g6 v0 v1 ts (kN 12 x0) (kN 12 x1) (fun i => thJ x2 i j)) (wq.alloc (Obj.cells #[.int .i64 z, .int .i64 j] 3))) := (hM hL20).un (X := fun _ => False) ((Un.refl _ _).alloc _) (fun _ _ h => h.elim)
              have HL := Lib.hid hL20
              clear h2c h3 hM hL20
              simp only [pick, List.map_cons, List.map_nil, List.getD_cons_zero, List.getD_cons_succ]
              go_wp2
              exact ⟨_, _, _, _, _, _, _, _, _, _, _, _, _, _, _, _, _, _, _, _, _, _, rfl, hV.set (i := 17) (v := .slice (some ⟨wq.heap.size, 0, none⟩) 2 2) (by simp) ⟨_, rfl, bN⟩ (fun k u hk _ _ h => h.ext (fun he => by subst he; rw [HL.out] at hk; cases hk) HX.out), HC2.out, fun _ => HM2.out⟩
            · have e10 : u43 = .int .i64 y := hV 10 _ (h3 10 (mem_of (by kernel_rfl))) rfl (fun h => by omega)
              subst e10
              obtain ⟨ga, e17, bA⟩ : Vk gm g6 q j b o n2 c2 nq cq Aq x y z _ 17 _ _ := hV 17 _ (h3 17 (mem_of (by kernel_rfl))) rfl (fun _ => by
                cases h : L 20 with
                | false => rfl
                | true =>
                  have := h2c 19 (h2c 20 h 19 (mem_of (by kernel_rfl))) 18 (mem_of (by kernel_rfl))
                  rw [h1] at this
                  cases this)
              subst e17
              clear h2c h3 hM
              simp only [pick, List.map_cons, List.map_nil, List.getD_cons_zero, List.getD_cons_succ]
              go_wp2
              exact ⟨_, _, _, _, _, _, _, _, _, _, _, _, _, _, _, _, _, _, _, _, _, _, rfl, hV.set (i := 18) (v := .agg #[.int .i64 y, .slice (some ⟨ga, 0, none⟩) 2 2]) (by simp) ⟨_, rfl, bA⟩ (fun k u _ _ _ h => h), HC.out, fun h => HMM.out (markL_false h)⟩
            · have hL20 : L 20 = false := by
                cases h : L 20 with
                | false => rfl
                | true =>
                  have := h2c 20 h 19 (mem_of (by kernel_rfl))
                  rw [h1] at this
                  cases this
              obtain ⟨ga, e18, bA⟩ : Vk gm g6 q j b o n2 c2 nq cq Aq x y z _ 18 _ _ := hV 18 _ (h3 18 (mem_of (by kernel_rfl))) rfl (fun _ => hL20)
              subst e18
              have HX : Hid (Ext wq (wq.alloc (Obj.cells #[.int .i64 y, .slice (some ⟨ga, 0, none⟩) 2 2] 60))) := fun k hk => Below.heap_alloc wq _ k hk
              have bN := Box.newAt wq 60 [.int .i64 y, .slice (some ⟨ga, 0, none⟩) 2 2] wq.heap.size rfl
              have HC2 : Hid ((fun wr => Box wr gm 45 [.slice (some ⟨g0, 0, none⟩) 8 8, .slice (some ⟨gc, 0, none⟩) 2 2, .slice (some ⟨g6, 0, none⟩) 3 3] ∧ Box wr w.heap.size 45 [.slice none 0 0, .slice none 0 0, .slice none 0 0] ∧ Box wr g6 58 [ts 0, ts 1, ts 2] ∧ Below w.heap.size w wr) (wq.alloc (Obj.cells #[.int .i64 y, .slice (some ⟨ga, 0, none⟩) 2 2] 60))) := ⟨bM.alloc _, bR.alloc _, b6.alloc _, hbq.alloc hszq _⟩
              have HM2 : Hid ((fun wr => Mo tg wr (w.heap.size + 1) g0 gc g6 v0 v1 ts (kN 12 x0) (kN 12 x1) (fun i => thJ x2 i j)) (wq.alloc (Obj.cells #[.int .i64 y, .slice (some ⟨ga, 0, none⟩) 2 2] 60))) := (hM hL20).un (X := fun _ => False) ((Un.refl _ _).alloc _) (fun _ _ h => h.elim)
              have HL := Lib.hid hL20
              have HBA := Lib.hid (bA.ext HX.out)
              clear h2c h3 hM hL20 bA
              simp only [pick, List.map_cons, List.map_nil, List.getD_cons_zero, List.getD_cons_succ]
              go_wp2
              exact ⟨_, _, _, _, _, _, _, _, _, _, _, _, _, _, _, _, _, _, _, _, _, _, rfl, hV.set (i := 19) (v := .slice (some ⟨wq.heap.size, 0, none⟩) 1 1) (by simp) ⟨ga, _, rfl, bN, HBA.out⟩ (fun k u hk _ _ h => h.ext (fun he => by subst he; rw [HL.out] at hk; cases hk) HX.out), HC2.out, fun _ => HM2.out⟩
            · have e9 : u42 = .slice Aq nq cq := hV 9 _ (h3 9 (mem_of (by kernel_rfl))) rfl (fun h => by omega)
              subst e9
              obtain ⟨ga, gl, e19, bL, bA⟩ : Vk gm g6 q j b o n2 c2 nq cq Aq x y z _ 19 _ _ := hV 19 _ (h3 19 (mem_of (by kernel_rfl))) rfl (fun _ => h1)
              subst e19
              have hMq := hM h1
              obtain ⟨rows, r1, r2, r3, r4⟩ := hMq.row q hq3
              have r3' : wq.ownsRow (w.heap.size + 1) 60 2 (.slice Aq nq cq) nq rows.flatten := by rw [HNQ.out, ← HTS.out]; exact r3
              have R1 := Lib.hid r1
              have R2 := Lib.hid r2
              have R3 := Lib.hid r3
              have R4 := Lib.hid r4
              have R3' := Lib.hid r3'
              have HMq := Lib.hid hMq
              have hB6q := hMq.B6
              have hB : w.heap.size + 1 ≤ wq.heap.size := by omega
              have HBL := Lib.hid bL
              have HBA := Lib.hid bA
              clear h2c h3 hM hMq r1 r2 r3 r4 r3' bL bA
              simp only [pick, List.map_cons, List.map_nil, List.getD_cons_zero, List.getD_cons_succ]
              go_wp2_with (at_builtin; go_must (refine app_srcB eltCall _ rfl _ _ rfl (w.heap.size + 1) (.slice Aq nq cq) nq rows.flatten rfl R3'.out _ 1 1 [.int .i64 y, .slice (some ⟨ga, 0, none⟩) 2 2] rfl _ (Rd.box HBL.out rfl) (one2V _ _ _ _) (by omega) (by omega) hB ?_); intro v5 w5 hv5 hg5 _ _ hb5)
              have hob : (Value.slice Aq nq cq).ownBlock = (ts q).ownBlock := by rw [HTS.out, HNQ.out]
              have hun5 : Un (fun k => some k = (ts q).ownBlock) wq w5 := un_grown (Un.refl _ _) hg5 (fun k hk => by rw [← hob, hk])
              have hX5 : ∀ k t, some k = (ts q).ownBlock → Ty wq k t → t = 60 := fun k t hk ht => ht.one (own_ty R3.out hk.symm)
              have hpush := HMq.out.push (v' := v5) (c := ⟨x % 2, [x % 7, j]⟩) hq3 R1.out R2.out R4.out R3.out hv5 (by rw [HNQ.out]) hun5 (hb5.elim (fun h => .inl (h.trans hob)) (fun h => .inr ⟨_, h, Nat.le_refl _⟩)) ⟨_, 2, 2, by rw [HY.out], Nat.le_refl _, by rw [← HZ.out]; exact Rd.box HBA.out rfl, fun _ b o hA => by injection hA with hA; injection hA with hA; subst hA; exact HBA.out.ty⟩
              rw [thJ_next x2 HQ.out HX.out] at hpush
              obtain ⟨A5, c5, e5, _⟩ := own_form hv5
              have bM5 := bM.un hun5 (fun hx => absurd (hX5 _ _ hx bM.ty) (by decide))
              have bR5 := bR.un hun5 (fun hx => absurd (hX5 _ _ hx bR.ty) (by decide))
              have b65 := b6.un hun5 (fun hx => absurd (hX5 _ _ hx b6.ty) (by decide))
              have hbel5 := hbq.trans (hun5.below (B := w.heap.size) (by omega) (fun k hk h => by have := (R3.out.lt k h.symm).1; omega))
              exact ⟨_, _, _, _, _, _, _, _, _, _, _, _, _, _, _, _, _, _, _, _, _, _, rfl, hV.set (i := 20) (v := v5) (by simp) ⟨_, _, A5, _, c5, e5, hpush⟩ (fun k u _ hne h17 h => h.any ⟨(h17 rfl).1, (h17 rfl).2.1, (h17 rfl).2.2, hne⟩), ⟨bM5, bR5, b65, hbel5⟩, fun h => by rw [markL_self] at h; cases h⟩
            · have e1 : u34 = .slice (some ⟨g6, 0, none⟩) 3 3 := hV 1 _ (h3 1 (mem_of (by kernel_rfl))) rfl (fun h => by omega)
              subst e1
              have e3 : u36 = .int .i64 q := hV 3 _ (h3 3 (mem_of (by kernel_rfl))) rfl (fun h => by omega)
              subst e3
              clear h2c h3 hM
              simp only [pick, List.map_cons, List.map_nil, List.getD_cons_zero, List.getD_cons_succ]
              go_wp2
              exact ⟨_, _, _, _, _, _, _, _, _, _, _, _, _, _, _, _, _, _, _, _, _, _, rfl, hV.set (i := 21) (v := .pointer (some ⟨g6, q, none⟩)) (by simp) rfl (fun k u _ _ _ h => h), HC.out, fun h => HMM.out (markL_false h)⟩
          · intro L a wq hL hG
            clear HMo bM bR hC0 z0 z1 z2 y6 hcell lM lR l6
            obtain ⟨u33, u34, u35, u36, u37, u38, u39, u40, u41, u42, u43, u44, u45, u46, u47, u48, u49, u50, u51, u52, u53, u54, rfl, hV, hC, hM⟩ := hG
            obtain ⟨bM, bR, b6, hbq⟩ := hC
            have e21 : u54 = .pointer (some ⟨g6, q, none⟩) := hV 21 _ (hL 21 (by omega)) rfl (fun h => by omega)
            obtain ⟨tg', ts', A5, n5, c5, e5, hpush⟩ : Vk gm g6 q j b o n2 c2 nq cq Aq x y z _ 20 _ _ := hV 20 _ (hL 20 (by omega)) rfl (fun h => by omega)
            subst e21 e5
            have y65 : wq.cell? ⟨g6, q, none⟩ = some (.slice Aq nq cq) := by
              have := b6.cell q
              rw [three_at ts hq3, HTS.out, ← HNQ.out] at this
              exact this
            have f65 := b6.frozen q
            have l65 := b6.lt
            have hun6 : Un (fun k => k = g6) wq (wq.setCell ⟨g6, q, none⟩ (.slice A5 n5 c5)) := un_at (X := fun k => k = g6) (Un.refl _ _) rfl _ _
            have HPu := Lib.hid hpush
            have hne1 : gm ≠ g6 := fun h => by have := bM.ty; rw [h] at this; exact absurd (this.one b6.ty) (by decide)
            have hne2 : w.heap.size ≠ g6 := by omega
            have bM6 := bM.un hun6 hne1
            have bR6 := bR.un hun6 hne2
            have hbel6 := hbq.trans (hun6.below (B := w.heap.size) (by have := hbq.size; omega) (fun k hk h => by omega))
            clear hV hM hL hpush hun6
            simp only [List.cons_append, List.nil_append]
            simp only [pick, List.map_cons, List.map_nil, List.getD_cons_zero, List.getD_cons_succ]
            go_wp2
            go_roundw
            case rel => exact ⟨j + 1, tg', ts', by omega, by omega, by go_num, HPu.out, bM6, bR6, hbel6⟩
          
            case measure => simp [intOf]; omega
        · skip
          have HE := Lib.hid (HFin.out (.inr (by omega)))
          have r0 : wr.cell? ⟨w.heap.size, 0, none⟩ = _ := bR.cell 0
          have r1 : wr.cell? ⟨w.heap.size, 1, none⟩ = _ := bR.cell 1
          have r2 : wr.cell? ⟨w.heap.size, 2, none⟩ = _ := bR.cell 2
          simp only [List.getElem?_cons_zero, List.getElem?_cons_succ] at r0 r1 r2
          have f0 := bR.frozen 0
          have f1 := bR.frozen 1
          have f2 := bR.frozen 2
          have bR2 := bR.three (.slice (some ⟨g0, 0, none⟩) 8 8) (.slice (some ⟨gc, 0, none⟩) 2 2) (.slice (some ⟨g6, 0, none⟩) 3 3)
          have hun : Un (fun k => k = w.heap.size) wr (((wr.setCell ⟨w.heap.size, 0, none⟩ (.slice (some ⟨g0, 0, none⟩) 8 8)).setCell ⟨w.heap.size, 1, none⟩ (.slice (some ⟨gc, 0, none⟩) 2 2)).setCell ⟨w.heap.size, 2, none⟩ (.slice (some ⟨g6, 0, none⟩) 3 3)) :=
            un_at (X := fun k => k = w.heap.size) (un_at (X := fun k => k = w.heap.size) (un_at (X := fun k => k = w.heap.size) (Un.refl _ _) rfl _ _) rfl _ _) rfl _ _
          have HM2 := Lib.hid ((HMo.out.un hun (fun k t hk ht => by subst hk; rw [ht.one bR.ty]; decide)).less (show w.heap.size ≤ w.heap.size + 1 by omega))
          have hbf := hbel.trans (hun.below (by omega) (fun k hk h => by omega))
          clear hun HMo
          go_wp2
          refine bodyPost_ret (results_cell_row rfl _ _ w.heap.size _ _ _ _ rfl (by exact bR2) Tryd.underlying45 rfl (by kernel_rfl)) rfl ?_
          refine ⟨tg, g0, gc, g6, v0, v1, ts, rfl, ?_, hbf⟩
          have := HM2.out
          rw [HE.out] at this
          exact this
      · skip
        have HE := Lib.hid (HFin.out (.inl (by omega)))
        have r0 : wr.cell? ⟨w.heap.size, 0, none⟩ = _ := bR.cell 0
        have r1 : wr.cell? ⟨w.heap.size, 1, none⟩ = _ := bR.cell 1
        have r2 : wr.cell? ⟨w.heap.size, 2, none⟩ = _ := bR.cell 2
        simp only [List.getElem?_cons_zero, List.getElem?_cons_succ] at r0 r1 r2
        have f0 := bR.frozen 0
        have f1 := bR.frozen 1
        have f2 := bR.frozen 2
        have bR2 := bR.three (.slice (some ⟨g0, 0, none⟩) 8 8) (.slice (some ⟨gc, 0, none⟩) 2 2) (.slice (some ⟨g6, 0, none⟩) 3 3)
        have hun : Un (fun k => k = w.heap.size) wr (((wr.setCell ⟨w.heap.size, 0, none⟩ (.slice (some ⟨g0, 0, none⟩) 8 8)).setCell ⟨w.heap.size, 1, none⟩ (.slice (some ⟨gc, 0, none⟩) 2 2)).setCell ⟨w.heap.size, 2, none⟩ (.slice (some ⟨g6, 0, none⟩) 3 3)) :=
          un_at (X := fun k => k = w.heap.size) (un_at (X := fun k => k = w.heap.size) (un_at (X := fun k => k = w.heap.size) (Un.refl _ _) rfl _ _) rfl _ _) rfl _ _
        have HM2 := Lib.hid ((HMo.out.un hun (fun k t hk ht => by subst hk; rw [ht.one bR.ty]; decide)).less (show w.heap.size ≤ w.heap.size + 1 by omega))
        have hbf := hbel.trans (hun.below (by omega) (fun k hk h => by omega))
        clear hun HMo
        go_wp2
        refine bodyPost_ret (results_cell_row rfl _ _ w.heap.size _ _ _ _ rfl (by exact bR2) Tryd.underlying45 rfl (by kernel_rfl)) rfl ?_
        refine ⟨tg, g0, gc, g6, v0, v1, ts, rfl, ?_, hbf⟩
        have := HM2.out
        rw [HE.out] at this
        exact this
end Go.Proofs.YtjihopbapnfppaaDoor
