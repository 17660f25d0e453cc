/- What an object of the document tells, and has then. No statement of the seat is proved here; no condition. -/
import Derived.Test.YtdoniefhmmodbaaRefLin1
import Derived.Test.YtdoniefhmmodbaaLibB
import Derived.Test.YtdoniefhmmodbaaOrd5
set_option linter.unusedSimpArgs false
set_option linter.unusedVariables false
namespace Go.Proofs.Ytdoniefhmmodbaa
open Go.RowKit Go.Ord Go.Baro

theorem eltIntL : Elt Try.prog 51 3 (.int .i64 0) 1 8 := Elt.mk' Try.underlying51 (by kernel_rfl) rfl (by decide)
theorem RI_litL (w : World) (e : TypeId) (k : IntKind) (xs : List Int) (n g : Nat) (hg : g = w.heap.size) (hn : xs.length = n) :
    RI (w.alloc (.cells (xs.map (Value.int k)).toArray e)) (g + 1) k (some ⟨g, 0, none⟩) n xs := by
  subst hg
  have h := Rd.lit w e (cs := xs.map (Value.int k)) (s := 1) (n := n) (by simp [hn])
  rw [show (w.alloc (.cells (xs.map (Value.int k)).toArray e)).heap.size = w.heap.size + 1 by simp] at h
  exact h
theorem RI.winL {w : World} {B n : Nat} {k : IntKind} {b o : Nat} {xs : List Int} (h : RI w B k (some ⟨b, o, none⟩) n xs) {i m : Nat} (hi : i + m ≤ n) : RI w B k (some ⟨b, o + i, none⟩) m ((xs.drop i).take m) := by
  have h1 : RI w B k (some ⟨b, o + i, none⟩) (n - i) (xs.drop i) := by
    have := Rd.drop h (k := i) (by omega)
    rw [Nat.mul_one, ← List.map_drop] at this
    exact this
  exact h1.take (by omega)
/-- What the operations of the put have left, of a list. -/
structure GtV (L : Nat → Bool) (bx B hn hc : Nat) (hA : Option Addr) (has : List Int) (av : Int) (w0 : World) (u6 u36 u37 u38 u39 u40 u41 u42 u43 : Value) (w : World) : Prop where
  bel : Below B w0 w
  f0 : L 0 = true → u36 = .pointer (some ⟨bx, 3, none⟩)
  f1 : L 1 = true → u37 = .int .i64 av
  f2 : L 2 = true → u38 = .slice hA hn hc
  f3 : L 3 = true → ∃ A c, u39 = .slice A hn c ∧ (L 7 = false → w.ownsRow B 3 1 u39 hn (has.map (Value.int .i64)))
  f4 : L 4 = true → u40 = .pointer (some ⟨bx, 3, none⟩)
  f5 : L 5 = true → u41 = .int .i64 av
  f6 : L 6 = true → ∃ g, u42 = .slice (some ⟨g, 0, none⟩) 1 1 ∧ (L 7 = false → RI w w.heap.size .i64 (some ⟨g, 0, none⟩) 1 [av])
  f7 : L 7 = true → ∃ A c, u43 = .slice A (hn + 1) c ∧ w.ownsRow B 3 1 u43 (hn + 1) ((has ++ [av]).map (Value.int .i64))
  f8 : L 8 = true → u6 = .int .i64 av
/-- The frame of the put. -/
def Gt (k : Int) (hA : Option Addr) (hn hc : Nat) (ab ae av aa : Int) (bx B : Nat) (has : List Int) (w0 : World) (L : Nat → Bool) (a : Act) (w : World) : Prop :=
  ∃ u6 u36 u37 u38 u39 u40 u41 u42 u43, a = ⟨#[.int .i64 k, .slice hA hn hc, .agg #[.int .i64 ab, .int .i64 ae, .bool true, .int .i64 av, .int .i64 aa], undef, undef, .pointer (some ⟨bx, 0, none⟩), u6, .slice none 0 0, .int .i64 k, .bool false, .bool false, undef, undef, undef, undef, undef, undef, undef, undef, undef, undef, undef, .bool false, .bool false, undef, undef, undef, undef, undef, undef, undef, undef, undef, undef, .pointer (some ⟨bx, 2, none⟩), .bool true, u36, u37, u38, u39, u40, u41, u42, u43, undef, undef, undef, undef, undef, undef, undef, undef, undef, undef, undef, undef, undef, undef, undef, undef, undef, undef, undef, undef, undef, undef], []⟩ ∧ GtV L bx B hn hc hA has av w0 u6 u36 u37 u38 u39 u40 u41 u42 u43 w
theorem mem_ofL {l : List Nat} {a : Nat} (h : l.contains a = true) : a ∈ l := by simpa using h
/-- What it leaves: what is told, and a slice of what it has then. -/
def TlPost (v : Int) (nx : List Int) (w : World) (e : Ending) (w' : World) : Prop := ∃ A n c, e = .returned (.tuple #[.int .i64 v, .slice A n c]) ∧ RI w' w'.heap.size .i64 A n nx ∧ n ≤ c ∧ Below w.heap.size w w'

set_option maxRecDepth 100000 in
set_option maxHeartbeats 2000000 in
theorem ref_tells (w : World) (k : Int) (hA : Option Addr) (hn hc : Nat) (has : List Int) (a : Ac) (h : RI w w.heap.size .i64 hA hn has) (hk : 1 ≤ k ∧ k ≤ 4) (h1 : k < 3 → hn = 1) (hb : hn ≤ 100) (hnc : hn ≤ hc) :
    Calls Try.prog 31 #[.int .i64 k, .slice hA hn hc, .agg #[.int .i64 a.b, .int .i64 a.e, .bool a.put, .int .i64 a.v, .int .i64 a.add]] w (TlPost (tel k has a).1 (tel k has a).2 w) := by
  obtain ⟨ab, ae, ap, av, aa⟩ := a
  dsimp only
  have HL := Lib.hid h.len
  have h0 := Below.refl w.heap.size w
  have hba := h0.alloc (Nat.le_refl _) (Obj.cells #[.int .i64 ab, .int .i64 ae, .bool ap, .int .i64 av, .int .i64 aa] 34)
  have hra := Lib.hid ((h.below hba).more (B' := w.heap.size + 1) (by omega))
  by_cases hput : 3 ≤ k ∧ ap = true
  · obtain ⟨hk3, rfl⟩ := hput
    have e1 : (k == 1) = false := by simp; omega
    have e2 : (k == 2) = false := by simp; omega
    obtain ⟨v, nx, hv⟩ : ∃ v nx, tel k has ⟨ab, ae, true, av, aa⟩ = (v, nx) := ⟨_, _, rfl⟩
    have hv2 : v = av ∧ nx = has ++ [av] := by
      unfold tel at hv
      rw [if_neg (by omega), if_neg (by omega)] at hv
      simp at hv
      exact ⟨hv.1.symm, hv.2.symm⟩
    rw [hv]
    obtain ⟨rfl, rfl⟩ := hv2
    clear hv
    obtain ⟨av, hav⟩ : ∃ av, av = v := ⟨_, rfl⟩
    rw [← hav] at hba hra ⊢
    clear hav
    obtain ⟨wb, hwb⟩ : ∃ wb, wb = w.alloc (Obj.cells #[.int .i64 ab, .int .i64 ae, .bool true, .int .i64 av, .int .i64 aa] 34) := ⟨_, rfl⟩
    have HBX := Lib.hid (show Box wb w.heap.size 34 [.int .i64 ab, .int .i64 ae, .bool true, .int .i64 av, .int .i64 aa] by rw [hwb]; exact Box.newAt w _ _ _ rfl)
    have HWB := Lib.hid hwb
    have hra' := Lib.hid (show RI wb (w.heap.size + 1) .i64 hA hn has by rw [hwb]; exact hra.out)
    have hbw : Below w.heap.size w wb := by rw [hwb]; exact hba
    have hswb : w.heap.size + 1 ≤ wb.heap.size := by rw [hwb]; simp
    clear hwb
    go_enter Try.func31, Try.ntmps31
    go_wp2
    rw [← HWB.out]
    refine region_manyL (G := Gt k hA hn hc ab ae av aa w.heap.size (w.heap.size + 1) has wb) 9 (by kernel_rfl) (by kernel_rfl) ⟨_, _, _, _, _, _, _, _, _, rfl, ⟨(Below.refl _ _).drew, fun h => (by cases h), fun h => (by cases h), fun h => (by cases h), fun h => (by cases h), fun h => (by cases h), fun h => (by cases h), fun h => (by cases h), fun h => (by cases h), fun h => (by cases h)⟩⟩ ?_ ?_
    · intro i hi L a wq h1 h2c h3 hG
      obtain ⟨u6, u36, u37, u38, u39, u40, u41, u42, u43, rfl, hV⟩ := hG
      have hszq : w.heap.size + 1 ≤ wq.heap.size := Nat.le_trans hswb hV.bel.size
      have bq := HBX.out.below hV.bel (by omega)
      have q3 : wq.cell? ⟨w.heap.size, 3, none⟩ = some (.int .i64 av) := bq.cell 3
      have hlq : w.heap.size < wq.heap.size := by omega
      have hrq := Lib.hid (hra'.out.below hV.bel)
      rcases (by omega : i = 0 ∨ i = 1 ∨ i = 2 ∨ i = 3 ∨ i = 4 ∨ i = 5 ∨ i = 6 ∨ i = 7 ∨ i = 8) with rfl | rfl | rfl | rfl | rfl | rfl | rfl | rfl | rfl
      · simp only [pick, List.map_cons, List.map_nil, List.getD_cons_zero, List.getD_cons_succ]
        go_wp2
        exact ⟨_, _, _, _, _, _, _, _, _, rfl, ⟨hV.bel, fun _ => rfl, fun h => hV.f1 (by rwa [markL_ne _ (show 1 ≠ 0 by decide)] at h), fun h => hV.f2 (by rwa [markL_ne _ (show 2 ≠ 0 by decide)] at h), fun h => (hV.f3 (by rwa [markL_ne _ (show 3 ≠ 0 by decide)] at h)).imp fun A => fun ⟨c, e, ho⟩ => ⟨c, e, fun h7 => ho (by rwa [markL_ne _ (show 7 ≠ 0 by decide)] at h7)⟩, fun h => hV.f4 (by rwa [markL_ne _ (show 4 ≠ 0 by decide)] at h), fun h => hV.f5 (by rwa [markL_ne _ (show 5 ≠ 0 by decide)] at h), fun h => (hV.f6 (by rwa [markL_ne _ (show 6 ≠ 0 by decide)] at h)).imp fun g => fun ⟨e, ho⟩ => ⟨e, fun h7 => ho (by rwa [markL_ne _ (show 7 ≠ 0 by decide)] at h7)⟩, fun h => hV.f7 (by rwa [markL_ne _ (show 7 ≠ 0 by decide)] at h), fun h => hV.f8 (by rwa [markL_ne _ (show 8 ≠ 0 by decide)] at h)⟩⟩
      · have e0 := hV.f0 (h3 0 (mem_ofL (by kernel_rfl)))
        subst e0
        simp only [pick, List.map_cons, List.map_nil, List.getD_cons_zero, List.getD_cons_succ]
        go_wp2
        exact ⟨_, _, _, _, _, _, _, _, _, rfl, ⟨hV.bel, fun h => hV.f0 (by rwa [markL_ne _ (show 0 ≠ 1 by decide)] at h), fun _ => rfl, fun h => hV.f2 (by rwa [markL_ne _ (show 2 ≠ 1 by decide)] at h), fun h => (hV.f3 (by rwa [markL_ne _ (show 3 ≠ 1 by decide)] at h)).imp fun A => fun ⟨c, e, ho⟩ => ⟨c, e, fun h7 => ho (by rwa [markL_ne _ (show 7 ≠ 1 by decide)] at h7)⟩, fun h => hV.f4 (by rwa [markL_ne _ (show 4 ≠ 1 by decide)] at h), fun h => hV.f5 (by rwa [markL_ne _ (show 5 ≠ 1 by decide)] at h), fun h => (hV.f6 (by rwa [markL_ne _ (show 6 ≠ 1 by decide)] at h)).imp fun g => fun ⟨e, ho⟩ => ⟨e, fun h7 => ho (by rwa [markL_ne _ (show 7 ≠ 1 by decide)] at h7)⟩, fun h => hV.f7 (by rwa [markL_ne _ (show 7 ≠ 1 by decide)] at h), fun h => hV.f8 (by rwa [markL_ne _ (show 8 ≠ 1 by decide)] at h)⟩⟩
      · simp only [pick, List.map_cons, List.map_nil, List.getD_cons_zero, List.getD_cons_succ]
        go_wp2
        exact ⟨_, _, _, _, _, _, _, _, _, rfl, ⟨hV.bel, fun h => hV.f0 (by rwa [markL_ne _ (show 0 ≠ 2 by decide)] at h), fun h => hV.f1 (by rwa [markL_ne _ (show 1 ≠ 2 by decide)] at h), fun _ => rfl, fun h => (hV.f3 (by rwa [markL_ne _ (show 3 ≠ 2 by decide)] at h)).imp fun A => fun ⟨c, e, ho⟩ => ⟨c, e, fun h7 => ho (by rwa [markL_ne _ (show 7 ≠ 2 by decide)] at h7)⟩, fun h => hV.f4 (by rwa [markL_ne _ (show 4 ≠ 2 by decide)] at h), fun h => hV.f5 (by rwa [markL_ne _ (show 5 ≠ 2 by decide)] at h), fun h => (hV.f6 (by rwa [markL_ne _ (show 6 ≠ 2 by decide)] at h)).imp fun g => fun ⟨e, ho⟩ => ⟨e, fun h7 => ho (by rwa [markL_ne _ (show 7 ≠ 2 by decide)] at h7)⟩, fun h => hV.f7 (by rwa [markL_ne _ (show 7 ≠ 2 by decide)] at h), fun h => hV.f8 (by rwa [markL_ne _ (show 8 ≠ 2 by decide)] at h)⟩⟩
      · have e2 := hV.f2 (h3 2 (mem_ofL (by kernel_rfl)))
        subst e2
        have hno7 : L 7 = true → False := fun h => by have := h2c 7 h 3 (mem_ofL (by kernel_rfl)); rw [h1] at this; cases this
        simp only [pick, List.map_cons, List.map_nil, List.getD_cons_zero, List.getD_cons_succ]
        go_wp2_with (at_builtin; go_must (refine app_src eltIntL wq rfl (.const (.slice none 0 0)) (.tmp 38) rfl (w.heap.size + 1) (.slice none 0 0) 0 [] rfl (World.ownsRow_nil _ _ _ _) _ _ _ (has.map (Value.int .i64)) rfl _ (by exact hrq.out) (one_ints _ _) (by omega) (by omega) hszq ?_); intro u3 w3 hu3 hgr3 hbel3 hsz3; rw [List.nil_append, Nat.zero_add] at hu3; obtain ⟨A3, c3, rfl, _⟩ := own_form hu3)
        have hb3 := hbel3 _ (Below.refl _ _)
        have hgE : Below wq.heap.size wq w3 := ⟨hgr3.os, hgr3.tape, hgr3.output, hgr3.size, fun k hk => hgr3.block k hk (by simp [Value.ownBlock])⟩
        exact ⟨_, _, _, _, _, _, _, _, _, rfl, ⟨hV.bel.trans hb3, fun h => hV.f0 (by rwa [markL_ne _ (show 0 ≠ 3 by decide)] at h), fun h => hV.f1 (by rwa [markL_ne _ (show 1 ≠ 3 by decide)] at h), fun h => hV.f2 (by rwa [markL_ne _ (show 2 ≠ 3 by decide)] at h), fun _ => ⟨A3, c3, rfl, fun _ => hu3⟩, fun h => hV.f4 (by rwa [markL_ne _ (show 4 ≠ 3 by decide)] at h), fun h => hV.f5 (by rwa [markL_ne _ (show 5 ≠ 3 by decide)] at h), fun h => (hV.f6 (by rwa [markL_ne _ (show 6 ≠ 3 by decide)] at h)).imp fun g => fun ⟨e, ho⟩ => ⟨e, fun h7 => RI.more (RI.below (ho (by rwa [markL_ne _ (show 7 ≠ 3 by decide)] at h7)) hgE) hgE.size⟩, fun h => absurd (hno7 (by rwa [markL_ne _ (show 7 ≠ 3 by decide)] at h)) id, fun h => hV.f8 (by rwa [markL_ne _ (show 8 ≠ 3 by decide)] at h)⟩⟩
      · simp only [pick, List.map_cons, List.map_nil, List.getD_cons_zero, List.getD_cons_succ]
        go_wp2
        exact ⟨_, _, _, _, _, _, _, _, _, rfl, ⟨hV.bel, fun h => hV.f0 (by rwa [markL_ne _ (show 0 ≠ 4 by decide)] at h), fun h => hV.f1 (by rwa [markL_ne _ (show 1 ≠ 4 by decide)] at h), fun h => hV.f2 (by rwa [markL_ne _ (show 2 ≠ 4 by decide)] at h), fun h => (hV.f3 (by rwa [markL_ne _ (show 3 ≠ 4 by decide)] at h)).imp fun A => fun ⟨c, e, ho⟩ => ⟨c, e, fun h7 => ho (by rwa [markL_ne _ (show 7 ≠ 4 by decide)] at h7)⟩, fun _ => rfl, fun h => hV.f5 (by rwa [markL_ne _ (show 5 ≠ 4 by decide)] at h), fun h => (hV.f6 (by rwa [markL_ne _ (show 6 ≠ 4 by decide)] at h)).imp fun g => fun ⟨e, ho⟩ => ⟨e, fun h7 => ho (by rwa [markL_ne _ (show 7 ≠ 4 by decide)] at h7)⟩, fun h => hV.f7 (by rwa [markL_ne _ (show 7 ≠ 4 by decide)] at h), fun h => hV.f8 (by rwa [markL_ne _ (show 8 ≠ 4 by decide)] at h)⟩⟩
      · have e4 := hV.f4 (h3 4 (mem_ofL (by kernel_rfl)))
        subst e4
        simp only [pick, List.map_cons, List.map_nil, List.getD_cons_zero, List.getD_cons_succ]
        go_wp2
        exact ⟨_, _, _, _, _, _, _, _, _, rfl, ⟨hV.bel, fun h => hV.f0 (by rwa [markL_ne _ (show 0 ≠ 5 by decide)] at h), fun h => hV.f1 (by rwa [markL_ne _ (show 1 ≠ 5 by decide)] at h), fun h => hV.f2 (by rwa [markL_ne _ (show 2 ≠ 5 by decide)] at h), fun h => (hV.f3 (by rwa [markL_ne _ (show 3 ≠ 5 by decide)] at h)).imp fun A => fun ⟨c, e, ho⟩ => ⟨c, e, fun h7 => ho (by rwa [markL_ne _ (show 7 ≠ 5 by decide)] at h7)⟩, fun h => hV.f4 (by rwa [markL_ne _ (show 4 ≠ 5 by decide)] at h), fun _ => rfl, fun h => (hV.f6 (by rwa [markL_ne _ (show 6 ≠ 5 by decide)] at h)).imp fun g => fun ⟨e, ho⟩ => ⟨e, fun h7 => ho (by rwa [markL_ne _ (show 7 ≠ 5 by decide)] at h7)⟩, fun h => hV.f7 (by rwa [markL_ne _ (show 7 ≠ 5 by decide)] at h), fun h => hV.f8 (by rwa [markL_ne _ (show 8 ≠ 5 by decide)] at h)⟩⟩
      · have e5 := hV.f5 (h3 5 (mem_ofL (by kernel_rfl)))
        subst e5
        have hno7 : L 7 = true → False := fun h => by have := h2c 7 h 6 (mem_ofL (by kernel_rfl)); rw [h1] at this; cases this
        have hlq : RI (wq.alloc (.cells #[.int .i64 av] 3)) (wq.alloc (.cells #[.int .i64 av] 3)).heap.size .i64 (some ⟨wq.heap.size, 0, none⟩) 1 [av] := RI.more (RI_litL wq 3 .i64 [av] 1 wq.heap.size rfl rfl) (by simp)
        simp only [pick, List.map_cons, List.map_nil, List.getD_cons_zero, List.getD_cons_succ]
        go_wp2
        exact ⟨_, _, _, _, _, _, _, _, _, rfl, ⟨hV.bel.alloc hszq _, fun h => hV.f0 (by rwa [markL_ne _ (show 0 ≠ 6 by decide)] at h), fun h => hV.f1 (by rwa [markL_ne _ (show 1 ≠ 6 by decide)] at h), fun h => hV.f2 (by rwa [markL_ne _ (show 2 ≠ 6 by decide)] at h), fun h => (hV.f3 (by rwa [markL_ne _ (show 3 ≠ 6 by decide)] at h)).imp fun A => fun ⟨c, e, ho⟩ => ⟨c, e, fun h7 => (ho (by rwa [markL_ne _ (show 7 ≠ 6 by decide)] at h7)).alloc _⟩, fun h => hV.f4 (by rwa [markL_ne _ (show 4 ≠ 6 by decide)] at h), fun h => hV.f5 (by rwa [markL_ne _ (show 5 ≠ 6 by decide)] at h), fun _ => ⟨_, rfl, fun _ => hlq⟩, fun h => absurd (hno7 (by rwa [markL_ne _ (show 7 ≠ 6 by decide)] at h)) id, fun h => hV.f8 (by rwa [markL_ne _ (show 8 ≠ 6 by decide)] at h)⟩⟩
      · obtain ⟨A3, c3, e3, ho3⟩ := hV.f3 (h3 3 (mem_ofL (by kernel_rfl)))
        obtain ⟨g6, e6, ho6⟩ := hV.f6 (h3 6 (mem_ofL (by kernel_rfl)))
        subst e3 e6
        have hu3 := Lib.hid (ho3 h1)
        have hu6 := Lib.hid (ho6 h1)
        clear ho3 ho6
        simp only [pick, List.map_cons, List.map_nil, List.getD_cons_zero, List.getD_cons_succ]
        go_wp2_with (at_builtin; go_must (refine app_src eltIntL wq rfl (.tmp 39) (.tmp 42) rfl (w.heap.size + 1) (.slice A3 hn c3) hn (has.map (Value.int .i64)) rfl (by exact hu3.out) _ 1 1 [.int .i64 av] rfl _ (by exact hu6.out) (by simp [Value.oneCell']) (by omega) (by omega) hszq ?_); intro u4 w4 hu4 hgr4 hbel4 hsz4; obtain ⟨A4, c4, rfl, hlc4⟩ := own_form hu4)
        have hb4 := hbel4 _ (Below.refl _ _)
        exact ⟨_, _, _, _, _, _, _, _, _, rfl, ⟨hV.bel.trans hb4, fun h => hV.f0 (by rwa [markL_ne _ (show 0 ≠ 7 by decide)] at h), fun h => hV.f1 (by rwa [markL_ne _ (show 1 ≠ 7 by decide)] at h), fun h => hV.f2 (by rwa [markL_ne _ (show 2 ≠ 7 by decide)] at h), fun h => (hV.f3 (by rwa [markL_ne _ (show 3 ≠ 7 by decide)] at h)).imp fun A => fun ⟨c, e, ho⟩ => ⟨c, e, fun h7 => by rw [markL_self] at h7; cases h7⟩, fun h => hV.f4 (by rwa [markL_ne _ (show 4 ≠ 7 by decide)] at h), fun h => hV.f5 (by rwa [markL_ne _ (show 5 ≠ 7 by decide)] at h), fun h => (hV.f6 (by rwa [markL_ne _ (show 6 ≠ 7 by decide)] at h)).imp fun g => fun ⟨e, ho⟩ => ⟨e, fun h7 => by rw [markL_self] at h7; cases h7⟩, fun _ => ⟨A4, c4, rfl, by rw [List.map_append]; exact hu4⟩, fun h => hV.f8 (by rwa [markL_ne _ (show 8 ≠ 7 by decide)] at h)⟩⟩
      · have e1 := hV.f1 (h3 1 (mem_ofL (by kernel_rfl)))
        subst e1
        simp only [pick, List.map_cons, List.map_nil, List.getD_cons_zero, List.getD_cons_succ]
        go_wp2
        exact ⟨_, _, _, _, _, _, _, _, _, rfl, ⟨hV.bel, fun h => hV.f0 (by rwa [markL_ne _ (show 0 ≠ 8 by decide)] at h), fun h => hV.f1 (by rwa [markL_ne _ (show 1 ≠ 8 by decide)] at h), fun h => hV.f2 (by rwa [markL_ne _ (show 2 ≠ 8 by decide)] at h), fun h => (hV.f3 (by rwa [markL_ne _ (show 3 ≠ 8 by decide)] at h)).imp fun A => fun ⟨c, e, ho⟩ => ⟨c, e, fun h7 => ho (by rwa [markL_ne _ (show 7 ≠ 8 by decide)] at h7)⟩, fun h => hV.f4 (by rwa [markL_ne _ (show 4 ≠ 8 by decide)] at h), fun h => hV.f5 (by rwa [markL_ne _ (show 5 ≠ 8 by decide)] at h), fun h => (hV.f6 (by rwa [markL_ne _ (show 6 ≠ 8 by decide)] at h)).imp fun g => fun ⟨e, ho⟩ => ⟨e, fun h7 => ho (by rwa [markL_ne _ (show 7 ≠ 8 by decide)] at h7)⟩, fun h => hV.f7 (by rwa [markL_ne _ (show 7 ≠ 8 by decide)] at h), fun _ => rfl⟩⟩
    · intro L a wq hall hG
      obtain ⟨u6, u36, u37, u38, u39, u40, u41, u42, u43, rfl, hV⟩ := hG
      obtain ⟨A4, c4, e7, hu4⟩ := hV.f7 (hall 7 (by omega))
      have e8 := hV.f8 (hall 8 (by omega))
      subst e7 e8
      simp only [pick, List.map_cons, List.map_nil, List.getD_cons_zero, List.getD_cons_succ]
      go_wp2
      go_ret2
      obtain ⟨A5, c5, e5, hlc5⟩ := own_form hu4
      injection e5 with _ e5 e6
      subst e6
      exact ⟨_, _, _, rfl, Rd.of_own hu4, hlc5, hbw.trans (hV.bel.mono (by omega))⟩
  rcases (by omega : k = 1 ∨ k = 2 ∨ k = 3 ∨ k = 4) with rfl | rfl | rfl | rfl
  · have hn1 := h1 (by omega)
    subst hn1
    cases ap with
    | true =>
      obtain ⟨v, nx, hv⟩ : ∃ v nx, tel 1 has ⟨ab, ae, true, av, aa⟩ = (v, nx) := ⟨_, _, rfl⟩
      have hv2 : v = av ∧ nx = [av] := by simp [tel] at hv; exact ⟨hv.1.symm, hv.2.symm⟩
      rw [hv]
      obtain ⟨rfl, rfl⟩ := hv2
      clear hv
      go_enter Try.func31, Try.ntmps31
      go_wp2
      refine region_first [0, 1, 2, 3, 5] (.cons 4 (seq [6] .nil)) (by kernel_rfl) (by kernel_rfl) ?_
      simp only [pick, List.map_cons, List.map_nil, List.getD_cons_zero, List.getD_cons_succ]
      go_wp2
      refine ord_call (by kernel_rfl) ?_
      simp only [pick, List.map_cons, List.map_nil, List.getD_cons_zero, List.getD_cons_succ]
      go_wp2
      refine ⟨ext_below ((Below.refl _ _).alloc (Nat.le_refl _) _), ?_⟩
      refine ord_more [6] .nil (by kernel_rfl) ?_
      simp only [pick, List.map_cons, List.map_nil, List.getD_cons_zero, List.getD_cons_succ]
      go_wp2
      refine ord_done ?_
      go_wp2
      go_ret2
      refine ⟨_, _, _, rfl, ?_, Nat.le_refl _, ?_⟩
      · exact Rd.more (Rd.heap (RI_litL (w.alloc (.cells #[.int .i64 ab, .int .i64 ae, .bool true, .int .i64 v, .int .i64 aa] 34)) 3 .i64 [v] 1 (w.heap.size + 1) (by simp) rfl) rfl) (by simp)
      · exact hba.drew.alloc (by simp) _
    | false =>
      obtain ⟨b, o, x, rfl, hbB, c0, HX, _⟩ := h.val (i := 0) (by omega)
      rw [Nat.add_zero] at c0
      have hh : has = [x] := by
        match has, HL.out, HX.out with
        | [y], _, hx => simp at hx; rw [hx]
      subst hh
      obtain ⟨v, nx, hv⟩ : ∃ v nx, tel 1 [x] ⟨ab, ae, false, av, aa⟩ = (v, nx) := ⟨_, _, rfl⟩
      have hv2 : v = x ∧ nx = [x] := by simp [tel] at hv; exact ⟨hv.1.symm, hv.2.symm⟩
      rw [hv]
      obtain ⟨rfl, rfl⟩ := hv2
      clear hv HX
      go_enter Try.func31, Try.ntmps31
      go_wp2
      go_ret2
      exact ⟨_, _, _, rfl, hra.out.more (by simp), hnc, hba⟩
  · have hn1 := h1 (by omega)
    subst hn1
    obtain ⟨b, o, x, rfl, hbB, c0, HX, _⟩ := h.val (i := 0) (by omega)
    rw [Nat.add_zero] at c0
    have hh : has = [x] := by
      match has, HL.out, HX.out with
      | [y], _, hx => simp at hx; rw [hx]
    subst hh
    obtain ⟨v, nx, hv⟩ : ∃ v nx, tel 2 [x] ⟨ab, ae, ap, av, aa⟩ = (v, nx) := ⟨_, _, rfl⟩
    have hv2 : v = x ∧ nx = [wrap64 (x + aa)] := by simp [tel] at hv; exact ⟨hv.1.symm, hv.2.symm⟩
    rw [hv]
    obtain ⟨rfl, rfl⟩ := hv2
    clear hv HX
    go_enter Try.func31, Try.ntmps31
    go_wp2
    refine region_first [0, 1, 2, 3, 4, 5, 6, 7, 8, 10] (.cons 9 (seq [11] .nil)) (by kernel_rfl) (by kernel_rfl) ?_
    simp only [pick, List.map_cons, List.map_nil, List.getD_cons_zero, List.getD_cons_succ]
    go_wp2
    refine ord_call (by kernel_rfl) ?_
    simp only [pick, List.map_cons, List.map_nil, List.getD_cons_zero, List.getD_cons_succ]
    go_wp2
    refine ⟨ext_below ((Below.refl _ _).alloc (Nat.le_refl _) _), ?_⟩
    refine ord_more [11] .nil (by kernel_rfl) ?_
    simp only [pick, List.map_cons, List.map_nil, List.getD_cons_zero, List.getD_cons_succ]
    go_wp2
    refine ord_done ?_
    go_wp2
    go_ret2
    refine ⟨_, _, _, rfl, ?_, Nat.le_refl _, ?_⟩
    · exact Rd.more (Rd.heap (RI_litL (w.alloc (.cells #[.int .i64 ab, .int .i64 ae, .bool ap, .int .i64 av, .int .i64 aa] 34)) 3 .i64 [wrap64 (v + aa)] 1 (w.heap.size + 1) (by simp) rfl) rfl) (by simp)
    · exact hba.drew.alloc (by simp) _
  -- a list
  · cases ap with
    | true => exact absurd ⟨by omega, rfl⟩ hput
    | false =>
      by_cases hz : hn = 0
      · subst hz
        have hh : has = [] := List.eq_nil_of_length_eq_zero HL.out
        subst hh
        go_enter Try.func31, Try.ntmps31
        go_wp2
        go_ret2
        exact ⟨_, _, _, rfl, hra.out.more (by simp), hnc, hba⟩
      · have hne : has ≠ [] := fun e => by rw [e] at HL; exact hz HL.out.symm
        have hz2 : ((hn : Int) == 0) = false := by simp; omega
        obtain ⟨b, o, x, rfl, hbB, c0, HX, _⟩ := h.val (i := 0) (by omega)
        rw [Nat.add_zero] at c0
        obtain ⟨v, nx, hv⟩ : ∃ v nx, tel 3 has ⟨ab, ae, false, av, aa⟩ = (v, nx) := ⟨_, _, rfl⟩
        have hv2 : v = x ∧ nx = (has.drop 1).take (hn - 1) := by
          have hx := HX.out
          cases has with
          | nil => exact absurd rfl hne
          | cons y t =>
            simp at hx
            simp [tel, hx] at hv
            have hl := HL.out
            simp at hl
            exact ⟨hv.1.symm, by rw [← hv.2, List.drop_one, List.tail_cons, List.take_of_length_le (by omega)]⟩
        rw [hv]
        obtain ⟨rfl, hnx⟩ := hv2
        have HNX := Lib.hid hnx
        clear hv HX hnx hne
        go_enter Try.func31, Try.ntmps31
        go_wp2
        refine region_two [0, 1, 2, 3, 4, 5, 6] [] (by kernel_rfl) (by kernel_rfl) ?_
        simp only [pick, List.map_cons, List.map_nil, List.getD_cons_zero, List.getD_cons_succ]
        go_wp2
        all_goals (
          go_ret2
          refine ⟨_, _, _, rfl, ?_, by omega, hba.drew⟩
          rw [HNX.out]
          first
            | exact Rd.more (Rd.heap (RI.winL hra.out (i := 1) (m := hn - 1) (by omega)) rfl) (by simp)
            | (have h9 : hn - 1 = 0 := by omega
               rw [h9]; exact ⟨by simp, fun h => absurd h (by omega)⟩))
  · cases ap with
    | true => exact absurd ⟨by omega, rfl⟩ hput
    | false =>
      by_cases hz : hn = 0
      · subst hz
        have hh : has = [] := List.eq_nil_of_length_eq_zero HL.out
        subst hh
        go_enter Try.func31, Try.ntmps31
        go_wp2
        go_ret2
        exact ⟨_, _, _, rfl, hra.out.more (by simp), hnc, hba⟩
      · have hne : has ≠ [] := fun e => by rw [e] at HL; exact hz HL.out.symm
        have hz2 : ((hn : Int) == 0) = false := by simp; omega
        obtain ⟨b, o, x, rfl, hbB, c0, HX, _⟩ := h.val (i := hn - 1) (by omega)
        obtain ⟨v, nx, hv⟩ : ∃ v nx, tel 4 has ⟨ab, ae, false, av, aa⟩ = (v, nx) := ⟨_, _, rfl⟩
        have hv2 : v = x ∧ nx = (has.drop 0).take (hn - 1) := by
          have hx := HX.out
          simp [tel, hne] at hv
          refine ⟨?_, ?_⟩
          · rw [← hv.1, List.getLast?_eq_getElem?, HL.out, hx]; rfl
          · rw [← hv.2, List.drop_zero, List.dropLast_eq_take, HL.out]
        rw [hv]
        obtain ⟨rfl, hnx⟩ := hv2
        have HNX := Lib.hid hnx
        obtain ⟨q, hq⟩ : ∃ q, hn = q + 1 := ⟨hn - 1, by omega⟩
        subst hq
        rw [Nat.add_sub_cancel] at c0 HNX
        clear hv HX hnx hne
        go_enter Try.func31, Try.ntmps31
        go_wp2
        refine region_two [0, 1, 2, 3, 4, 5, 6, 7, 8, 9, 10, 11, 12] [] (by kernel_rfl) (by kernel_rfl) ?_
        simp only [pick, List.map_cons, List.map_nil, List.getD_cons_zero, List.getD_cons_succ]
        go_wp2
        go_ret2
        refine ⟨_, _, _, rfl, ?_, by omega, hba.drew⟩
        rw [HNX.out]
        exact Rd.more (Rd.heap (RI.winL hra.out (i := 0) (m := q) (by omega)) rfl) (by simp)
end Go.Proofs.Ytdoniefhmmodbaa
