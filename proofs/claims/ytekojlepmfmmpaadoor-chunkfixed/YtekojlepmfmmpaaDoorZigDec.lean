/- What the reading functions of package zig do. No statement of the seat is proved here; no condition. -/
import Derived.Test.YtekojlepmfmmpaaDoorZig2
import Derived.Test.YtekojlepmfmmpaaDoorBits
import Derived.Test.YtekojlepmfmmpaaDoorZigDecPure
set_option linter.unusedSimpArgs false
set_option linter.unusedVariables false
namespace Go.Proofs.YtekojlepmfmmpaaDoor
open Go.RowKit Go.Ord Go.Baro

theorem ri_two (w : World) (x y : Int) : RI (w.alloc (.cells #[.int .i64 x, .int .i64 y] 3)) (w.alloc (.cells #[.int .i64 x, .int .i64 y] 3)).heap.size .i64 (some ⟨w.heap.size, 0, none⟩) 2 [x, y] :=
  Rd.lit (cs := [.int .i64 x, .int .i64 y]) w 3 rfl
theorem ri_drop {w : World} {B : Nat} {k : IntKind} {b o n : Nat} {xs : List Int} (h : RI w B k (some ⟨b, o, none⟩) n xs) {q : Nat} (hq : q ≤ n) : RI w B k (some ⟨b, o + q, none⟩) (n - q) (xs.drop q) := by
  have := Rd.drop h hq
  rw [Nat.mul_one, ← List.map_drop] at this
  exact this

set_option maxHeartbeats 1000000 in
theorem zig_readOk (l : List Int) (A : Option Addr) (n c a k : Nat) (w : World) (hb : RI w w.heap.size .u8 A n l) (hr : ∀ x ∈ l, 0 ≤ x ∧ x < 256) (hn : n ≤ 140737488355328) (hnc : n ≤ c)
    (hk : k ≤ 60) (hs : a + k ≤ 8 * n) :
    Calls Tryd.prog 55 #[.slice A n c, .int .i64 a, .int .i64 k] w fun e w' => e = .returned (.tuple #[.int .i64 (fldOf l a k), .int .i64 0]) ∧ Below w.heap.size w w' := by
  have HL := Lib.hid hb.len
  obtain ⟨hc0, x, hv⟩ := rd2_ok l n a k HL.out hk hs
  have HC := Lib.hid hc0
  have HV := Lib.hid hv
  have key : ∀ (w1 : World) (v : Value) (B : Nat), w1.ownsRow B 3 1 v (rdVals (l.drop (a / 8)) [(a : Int) % 8, (k : Int)]).length ((rdVals (l.drop (a / 8)) [(a : Int) % 8, (k : Int)]).map (Value.int .i64)) →
      ∃ g c, v = .slice (some ⟨g, 0, none⟩) 2 c ∧ w1.cell? ⟨g, 1, none⟩ = some (.int .i64 (fldOf l a k)) := by
    intro w1 v B h
    rw [HV.out] at h
    obtain ⟨g, c', rfl, _, _, _⟩ := own_some h (by simp)
    exact ⟨g, c', rfl, h.cellAt 1 (by simp)⟩
  have KEY := Lib.hid key
  clear key hc0 hv
  have HR := Lib.hid hr
  clear hr
  rcases Nat.eq_zero_or_pos n with h0 | h0
  · subst h0
    obtain rfl : a = 0 := by omega
    obtain rfl : l = [] := List.eq_nil_of_length_eq_zero HL.out
    go_enter Tryd.func55, Tryd.ntmps55
    go_wp2_with fail
    refine (bits_Read [] [0, (k : Int)] _ _ _ _ _ _ _ (RI.more (RI.below (RI.nil _ _ _ _) ((Below.refl _ _).alloc (Nat.le_refl _) _)) (by simp)) (ri_two w _ _) (fun x hx => HR.out x hx) (by omega) (by omega)).mono ?_
    rintro e w1 ⟨v, rfl, hown, hbel⟩
    obtain ⟨g, c', rfl, hcell⟩ := KEY.out w1 v _ (by exact hown)
    rw [show rdCode ([] : List Int).length [0, (k : Int)] = 0 from HC.out]
    go_wp2
    go_ret2
    exact ⟨rfl, ((Below.refl _ _).alloc (Nat.le_refl _) _).trans (hbel.mono (by simp))⟩
  · obtain ⟨b, o, rfl, hbb, hcell⟩ := Rd.at_ hb h0
    clear hcell
    rcases Nat.lt_or_ge (a / 8) c with hc | hc
    · have hcn : (c - a / 8 == 0) = false := by simp; omega
      go_enter Tryd.func55, Tryd.ntmps55
      go_wp2_with fail
      refine (bits_Read (l.drop (a / 8)) [(a : Int) % 8, (k : Int)] _ _ _ _ _ _ _ (RI.more (RI.below (ri_drop hb (by omega)) ((Below.refl _ _).alloc (Nat.le_refl _) _)) (by simp)) (ri_two w _ _) (fun x hx => HR.out x (List.mem_of_mem_drop hx)) (by omega) (by omega)).mono ?_
      rintro e w1 ⟨v, rfl, hown, hbel⟩
      obtain ⟨g, c', rfl, hcell⟩ := KEY.out w1 v _ hown
      rw [HC.out]
      go_wp2
      go_ret2
      exact ⟨rfl, ((Below.refl _ _).alloc (Nat.le_refl _) _).trans (hbel.mono (by simp))⟩
    · have hca : c = a / 8 := by omega
      subst hca
      go_enter Tryd.func55, Tryd.ntmps55
      go_wp2_with fail
      refine (bits_Read (l.drop (a / 8)) [(a : Int) % 8, (k : Int)] _ _ _ _ _ _ _ (RI.more (RI.below (by rw [List.drop_eq_nil_of_le (by rw [HL.out]; omega)]; exact RI.nil _ _ _ _) ((Below.refl _ _).alloc (Nat.le_refl _) _)) (by simp)) (ri_two w _ _) (fun x hx => HR.out x (List.mem_of_mem_drop hx)) (by omega) (by omega)).mono ?_
      rintro e w1 ⟨v, rfl, hown, hbel⟩
      obtain ⟨g, c', rfl, hcell⟩ := KEY.out w1 v _ hown
      rw [HC.out]
      go_wp2
      go_ret2
      exact ⟨rfl, ((Below.refl _ _).alloc (Nat.le_refl _) _).trans (hbel.mono (by simp))⟩

set_option maxHeartbeats 1000000 in
theorem zig_readShort (l : List Int) (A : Option Addr) (n c a k : Nat) (w : World) (hb : RI w w.heap.size .u8 A n l) (hr : ∀ x ∈ l, 0 ≤ x ∧ x < 256) (hn : n ≤ 140737488355328) (hnc : n ≤ c)
    (ha : a ≤ 8 * n) (hk : k ≤ 60) (hs : ¬ a + k ≤ 8 * n) :
    Calls Tryd.prog 55 #[.slice A n c, .int .i64 a, .int .i64 k] w fun e w' => e = .returned (.tuple #[.int .i64 0, .int .i64 5]) ∧ Below w.heap.size w w' := by
  have HL := Lib.hid hb.len
  have HC := Lib.hid (rd2_short l n a k HL.out ha hk hs)
  have HR := Lib.hid hr
  clear hr
  rcases Nat.eq_zero_or_pos n with h0 | h0
  · subst h0
    obtain rfl : a = 0 := by omega
    obtain rfl : l = [] := List.eq_nil_of_length_eq_zero HL.out
    go_enter Tryd.func55, Tryd.ntmps55
    go_wp2_with fail
    refine (bits_Read [] [0, (k : Int)] _ _ _ _ _ _ _ (RI.more (RI.below (RI.nil _ _ _ _) ((Below.refl _ _).alloc (Nat.le_refl _) _)) (by simp)) (ri_two w _ _) (fun x hx => HR.out x hx) (by omega) (by omega)).mono ?_
    rintro e w1 ⟨v, rfl, hown, hbel⟩
    rw [show rdCode ([] : List Int).length [0, (k : Int)] = 5 from HC.out]
    go_wp2
    go_ret2
    exact ⟨rfl, ((Below.refl _ _).alloc (Nat.le_refl _) _).trans (hbel.mono (by simp))⟩
  · obtain ⟨b, o, rfl, hbb, hcell⟩ := Rd.at_ hb h0
    clear hcell
    rcases Nat.lt_or_ge (a / 8) c with hc | hc
    · have hcn : (c - a / 8 == 0) = false := by simp; omega
      go_enter Tryd.func55, Tryd.ntmps55
      go_wp2_with fail
      refine (bits_Read (l.drop (a / 8)) [(a : Int) % 8, (k : Int)] _ _ _ _ _ _ _ (RI.more (RI.below (ri_drop hb (by omega)) ((Below.refl _ _).alloc (Nat.le_refl _) _)) (by simp)) (ri_two w _ _) (fun x hx => HR.out x (List.mem_of_mem_drop hx)) (by omega) (by omega)).mono ?_
      rintro e w1 ⟨v, rfl, hown, hbel⟩
      rw [HC.out]
      go_wp2
      go_ret2
      exact ⟨rfl, ((Below.refl _ _).alloc (Nat.le_refl _) _).trans (hbel.mono (by simp))⟩
    · have hca : c = a / 8 := by omega
      subst hca
      go_enter Tryd.func55, Tryd.ntmps55
      go_wp2_with fail
      refine (bits_Read (l.drop (a / 8)) [(a : Int) % 8, (k : Int)] _ _ _ _ _ _ _ (RI.more (RI.below (by rw [List.drop_eq_nil_of_le (by rw [HL.out]; omega)]; exact RI.nil _ _ _ _) ((Below.refl _ _).alloc (Nat.le_refl _) _)) (by simp)) (ri_two w _ _) (fun x hx => HR.out x (List.mem_of_mem_drop hx)) (by omega) (by omega)).mono ?_
      rintro e w1 ⟨v, rfl, hown, hbel⟩
      rw [HC.out]
      go_wp2
      go_ret2
      exact ⟨rfl, ((Below.refl _ _).alloc (Nat.le_refl _) _).trans (hbel.mono (by simp))⟩
end Go.Proofs.YtekojlepmfmmpaaDoor
