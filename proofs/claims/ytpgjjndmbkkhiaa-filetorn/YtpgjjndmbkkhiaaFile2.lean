/- What package file does to read a record. No statement of the seat is proved here; no condition. -/
import Derived.Test.YtpgjjndmbkkhiaaFile1
set_option linter.unusedSimpArgs false
set_option linter.unusedVariables false
namespace Go.Proofs.Ytpgjjndmbkkhiaa
open Go.RowKit Go.Ord Go.Baro

theorem RI.part {w : World} {B n : Nat} {k : IntKind} {b o : Nat} {xs : List Int} (h : RI w B k (some ⟨b, o, none⟩) n xs) {i m : Nat} (hi : i + m ≤ n) : RI w B k (some ⟨b, o + i, none⟩) m ((xs.drop i).take m) := by
  have hl := h.len
  refine ⟨by simp; omega, fun h0 => ?_⟩
  obtain ⟨b', o', hA, hb, hc⟩ := Rd.at_ h (by omega)
  injection hA with hA
  injection hA with hA1 hA2
  subst hA1 hA2
  refine ⟨b, o + i, rfl, hb, fun j hj => ?_⟩
  rw [Nat.add_assoc, hc (i + j) (by omega), List.getElem?_map, List.getElem?_map, List.getElem?_take, if_pos (by omega), List.getElem?_drop]

def FbPost (f : List Int) (B : Nat) (v : Value) (x : Int) (w' : World) : Prop := x = fc f ∧ (fc f = 0 → ∃ A n c, v = .slice A n c ∧ RI w' B .u8 A n (bd f) ∧ n = ln f ∧ n ≤ c)

set_option maxHeartbeats 1000000 in
theorem file_firstBody (f : List Int) (A : Option Addr) (n k : Nat) (w : World) (hb : RI w w.heap.size .u8 A n f) (hr : ∀ x ∈ f, 0 ≤ x ∧ x < 256) (hn : n ≤ 140737488355328) (hnk : n ≤ k) :
    Calls Try.prog 21 #[.slice A n k] w fun e w' => ∃ v x, e = .returned (.tuple #[v, .int .i64 x]) ∧ FbPost f w.heap.size v x w' ∧ Below w.heap.size w w' := by
  have HL := Lib.hid hb.len
  by_cases h6 : n < 6
  · have hc := Lib.hid (fc_short (f := f) (by rw [HL.out]; exact h6))
    go_enter Try.func21, Try.ntmps21
    go_wp2
    go_ret2
    exact ⟨_, 5, rfl, ⟨hc.out.symm, fun h => by rw [hc.out] at h; cases h⟩, Below.refl _ _⟩
  obtain ⟨a, b, c, d, e, g, t, rfl⟩ := six (f := f) (by rw [HL.out]; omega)
  obtain ⟨gb, o, rfl, hgb, _⟩ := Rd.at_ hb (by omega)
  have ha := hr a (by simp)
  have hb' := hr b (by simp)
  have hc' := hr c (by simp)
  have hd' := hr d (by simp)
  have he' := hr e (by simp)
  have hg' := hr g (by simp)
  have HT : Hid (∀ x ∈ t, 0 ≤ x ∧ x < 256) := Lib.hid (fun x hx => hr x (by simp [hx]))
  clear hr
  obtain ⟨M, hM⟩ : ∃ M : Nat, (M : Int) = 256 * a + b := ⟨(256 * a + b).toNat, by omega⟩
  obtain ⟨S, hS⟩ : ∃ S : Int, S = ((c * 256 + d) * 256 + e) * 256 + g := ⟨_, rfl⟩
  have HM : Hid (nmL [a, b] = M) := Lib.hid (by rw [hM]; simp [nmL]; omega)
  have HS : Hid (nmL [c, d, e, g] = S) := Lib.hid (by rw [hS]; simp [nmL])
  have HF := Lib.hid (show fc (a :: b :: c :: d :: e :: g :: t) = if (M : Int) > 4000 then 1 else if (t.length : Int) < M then 5 else if adO (t.take M) = S then 0 else 10 by rw [show M = (256 * a + b).toNat by omega, hS]; simp only [fc]; rw [show (((256 * a + b).toNat : Nat) : Int) = 256 * a + b by omega])
  have HLn : Hid (ln (a :: b :: c :: d :: e :: g :: t) = M) := Lib.hid (by simp only [ln]; omega)
  have HBd : Hid (bd (a :: b :: c :: d :: e :: g :: t) = t.take M) := Lib.hid (by unfold bd; rw [HLn.out]; rfl)
  have hM1 : M < 65536 := by omega
  have hS0 : 0 ≤ S := by omega
  clear hM hS
  have hb1 : RI w w.heap.size .u8 (some ⟨gb, o, none⟩) 2 [a, b] := hb.take (m := 2) (by omega)
  have hb2 : RI w w.heap.size .u8 (some ⟨gb, o + 2, none⟩) 4 [c, d, e, g] := RI.part hb (i := 2) (m := 4) (by omega)
  have hlt : t.length = n - 6 := by have := HL.out; simp at this; omega
  have HLT := Lib.hid hlt
  have hb3 : RI w w.heap.size .u8 (some ⟨gb, o + 6, none⟩) (n - 6) t := by
    have := RI.part hb (i := 6) (m := n - 6) (by omega)
    rw [show ((a :: b :: c :: d :: e :: g :: t).drop 6).take (n - 6) = t from List.take_of_length_le (by simp; omega)] at this
    exact this
  clear hb hlt
  by_cases hk : k = 6
  · have hn6 : n = 6 := by omega
    subst hk
    subst hn6
    have ht0 : t = [] := List.eq_nil_of_length_eq_zero HLT.out
    subst ht0
    have hB3 : RI w w.heap.size .u8 (some ⟨gb, o, none⟩) 0 [] := RI.nil _ _ _ _
    clear hb3
    go_enter Try.func21, Try.ntmps21
    go_wp2
    refine region_first [0, 1, 3, 4, 6, 7] (.cons 2 (.cons 5 (seq [8, 9, 10] .nil))) (by kernel_rfl) (by kernel_rfl) ?_
    simp only [pick, List.map_cons, List.map_nil, List.getD_cons_zero, List.getD_cons_succ]
    go_wp2
    refine ord_call (by kernel_rfl) ?_
    simp only [pick, List.map_cons, List.map_nil, List.getD_cons_zero, List.getD_cons_succ]
    go_wp2_with fail
    refine (file_number [a, b] _ _ _ _ _ (by exact hb1.heap rfl) (by simp; omega) (by omega)).mono ?_
    rintro e' w1 ⟨rfl, rfl⟩
    rw [HM.out]
    go_wp2
    refine ord_call (by kernel_rfl) ?_
    simp only [pick, List.map_cons, List.map_nil, List.getD_cons_zero, List.getD_cons_succ]
    go_wp2_with fail
    refine (file_number [c, d, e, g] _ _ _ _ _ (by exact hb2.heap rfl) (by simp; omega) (by omega)).mono ?_
    rintro e' w1 ⟨rfl, rfl⟩
    rw [HS.out]
    go_wp2
    refine ord_last [8, 9, 10] (by kernel_rfl) ?_
    simp only [pick, List.map_cons, List.map_nil, List.getD_cons_zero, List.getD_cons_succ]
    by_cases m1 : 4000 < M
    · go_wp2
      go_ret2
      have hF := HF.out
      rw [if_pos (by omega)] at hF
      exact ⟨_, 1, rfl, ⟨hF.symm, fun h => by rw [hF] at h; cases h⟩, (Below.refl _ _).drew⟩
    by_cases m2 : 0 < M
    · go_wp2
      go_ret2
      have hF := HF.out
      rw [if_neg (by omega), if_pos (by rw [HLT.out]; omega)] at hF
      exact ⟨_, 5, rfl, ⟨hF.symm, fun h => by rw [hF] at h; cases h⟩, (Below.refl _ _).drew⟩
    have hF := HF.out
    rw [if_neg (by omega), if_neg (by rw [HLT.out]; omega)] at hF
    have HF2 := Lib.hid hF
    clear hF
    have hB4 := (hB3.take (m := M) (by omega))
    go_wp2_with fail
    refine (adler_Of ([].take M) _ _ _ _ (by exact hB4.heap rfl) (fun x hx => HT.out x (List.mem_of_mem_take hx)) (by omega)).mono ?_
    rintro e' w2 ⟨rfl, hw2⟩
    have hB5 : RI w2 w.heap.size .u8 _ M ([].take M) := (hB4.heap (w' := w.drew) rfl).below hw2
    have hw3 : Below w.heap.size w w2 := (Below.refl _ _).drew.trans hw2
    clear hB4 hB3 hw2 HF
    obtain ⟨Q, HQ⟩ : ∃ Q, Hid (adO ([].take M) = Q) := ⟨_, rfl⟩
    rw [HQ.out]
    by_cases hq : Q = S
    · subst hq
      go_wp2
      go_ret2
      have hF := HF2.out
      rw [if_pos HQ.out] at hF
      refine ⟨_, 0, rfl, ⟨hF.symm, fun h => ⟨_, M, _, rfl, ?_, HLn.out.symm, by omega⟩⟩, hw3⟩
      rw [HBd.out]
      exact hB5
    · have hqb : (Q != S) = true := by simp [hq]
      go_wp2
      go_ret2
      have hF := HF2.out
      rw [if_neg (by rw [HQ.out]; exact hq)] at hF
      exact ⟨_, 10, rfl, ⟨hF.symm, fun h => by rw [hF] at h; cases h⟩, hw3⟩
  · have hB3 := hb3
    clear hb3
    obtain ⟨n3, hn3⟩ : ∃ n3, n = n3 + 6 := ⟨n - 6, by omega⟩
    obtain ⟨k3, hk3⟩ : ∃ k3, k = k3 + 6 := ⟨k - 6, by omega⟩
    subst hn3 hk3
    simp only [Nat.add_sub_cancel] at hB3 HLT
    go_enter Try.func21, Try.ntmps21
    go_wp2
    refine region_first [0, 1, 3, 4, 6, 7] (.cons 2 (.cons 5 (seq [8, 9, 10] .nil))) (by kernel_rfl) (by kernel_rfl) ?_
    simp only [pick, List.map_cons, List.map_nil, List.getD_cons_zero, List.getD_cons_succ]
    go_wp2
    refine ord_call (by kernel_rfl) ?_
    simp only [pick, List.map_cons, List.map_nil, List.getD_cons_zero, List.getD_cons_succ]
    go_wp2_with fail
    refine (file_number [a, b] _ _ _ _ _ (by exact hb1.heap rfl) (by simp; omega) (by omega)).mono ?_
    rintro e' w1 ⟨rfl, rfl⟩
    rw [HM.out]
    go_wp2
    refine ord_call (by kernel_rfl) ?_
    simp only [pick, List.map_cons, List.map_nil, List.getD_cons_zero, List.getD_cons_succ]
    go_wp2_with fail
    refine (file_number [c, d, e, g] _ _ _ _ _ (by exact hb2.heap rfl) (by simp; omega) (by omega)).mono ?_
    rintro e' w1 ⟨rfl, rfl⟩
    rw [HS.out]
    go_wp2
    refine ord_last [8, 9, 10] (by kernel_rfl) ?_
    simp only [pick, List.map_cons, List.map_nil, List.getD_cons_zero, List.getD_cons_succ]
    by_cases m1 : 4000 < M
    · go_wp2
      go_ret2
      have hF := HF.out
      rw [if_pos (by omega)] at hF
      exact ⟨_, 1, rfl, ⟨hF.symm, fun h => by rw [hF] at h; cases h⟩, (Below.refl _ _).drew⟩
    by_cases m2 : n3 < M
    · go_wp2
      go_ret2
      have hF := HF.out
      rw [if_neg (by omega), if_pos (by rw [HLT.out]; omega)] at hF
      exact ⟨_, 5, rfl, ⟨hF.symm, fun h => by rw [hF] at h; cases h⟩, (Below.refl _ _).drew⟩
    have hF := HF.out
    rw [if_neg (by omega), if_neg (by rw [HLT.out]; omega)] at hF
    have HF2 := Lib.hid hF
    clear hF
    have hB4 := (hB3.take (m := M) (by omega))
    go_wp2_with fail
    refine (adler_Of (t.take M) _ _ _ _ (by exact hB4.heap rfl) (fun x hx => HT.out x (List.mem_of_mem_take hx)) (by omega)).mono ?_
    rintro e' w2 ⟨rfl, hw2⟩
    have hB5 : RI w2 w.heap.size .u8 _ M (t.take M) := (hB4.heap (w' := w.drew) rfl).below hw2
    have hw3 : Below w.heap.size w w2 := (Below.refl _ _).drew.trans hw2
    clear hB4 hB3 hw2 HF
    obtain ⟨Q, HQ⟩ : ∃ Q, Hid (adO (t.take M) = Q) := ⟨_, rfl⟩
    rw [HQ.out]
    by_cases hq : Q = S
    · subst hq
      go_wp2
      go_ret2
      have hF := HF2.out
      rw [if_pos HQ.out] at hF
      refine ⟨_, 0, rfl, ⟨hF.symm, fun h => ⟨_, M, _, rfl, ?_, HLn.out.symm, by omega⟩⟩, hw3⟩
      rw [HBd.out]
      exact hB5
    · have hqb : (Q != S) = true := by simp [hq]
      go_wp2
      go_ret2
      have hF := HF2.out
      rw [if_neg (by rw [HQ.out]; exact hq)] at hF
      exact ⟨_, 10, rfl, ⟨hF.symm, fun h => by rw [hF] at h; cases h⟩, hw3⟩
end Go.Proofs.Ytpgjjndmbkkhiaa
