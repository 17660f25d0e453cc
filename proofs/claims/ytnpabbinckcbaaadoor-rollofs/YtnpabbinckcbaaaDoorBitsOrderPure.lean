/- Bytes stand in the order of the values, in plain numbers. No statement of the seat is proved here; no condition. -/
import Derived.Test.YtnpabbinckcbaaaDoorBitsBackPure
set_option linter.unusedSimpArgs false
set_option linter.unusedVariables false
namespace Go.Baro

def sgn (a b : Int) : Int := if a = b then 0 else if a < b then -1 else 1
/-- The order of two lists, the first difference first. -/
def cmpL : List Int → List Int → Int
  | a :: l, b :: m => if a = b then cmpL l m else sgn a b
  | _, _ => 0

theorem cmpL_append : ∀ (a c b d : List Int), a.length = c.length → cmpL (a ++ b) (c ++ d) = if cmpL a c = 0 then cmpL b d else cmpL a c
  | [], [], b, d, _ => by simp [cmpL]
  | x :: a, y :: c, b, d, h => by
    have ih := cmpL_append a c b d (by simpa using h)
    by_cases hxy : x = y
    · subst hxy
      have e1 : cmpL (x :: a) (x :: c) = cmpL a c := by simp [cmpL]
      have e2 : cmpL (x :: a ++ b) (x :: c ++ d) = cmpL (a ++ b) (c ++ d) := by simp [cmpL]
      rw [e1, e2, ih]
    · have e1 : cmpL (x :: a) (y :: c) = sgn x y := by simp [cmpL, hxy]
      have e2 : cmpL (x :: a ++ b) (y :: c ++ d) = sgn x y := by simp [cmpL, hxy]
      have e3 : sgn x y ≠ 0 := by unfold sgn; rw [if_neg hxy]; split <;> decide
      rw [e1, e2, if_neg e3]
  | [], _ :: _, _, _, h => by simp at h
  | _ :: _, [], _, _, h => by simp at h
theorem cmpL_self : ∀ a : List Int, cmpL a a = 0
  | [] => rfl
  | x :: a => by simp only [cmpL, if_pos]; exact cmpL_self a

theorem bitsV_cons (w : Nat) (v : Int) : bitsV (w + 1) v = v / 2 ^ w % 2 :: bitsV w v := by
  unfold bitsV
  rw [List.range_succ_eq_map, List.map_cons, List.map_map]
  congr 1
  apply List.map_congr_left
  intro i _
  simp only [Function.comp]
  congr 3
  omega
theorem bitsV_mod (w : Nat) (v : Int) : bitsV w (v % 2 ^ w) = bitsV w v := by
  unfold bitsV
  apply List.map_congr_left
  intro i hi
  have hi' := List.mem_range.1 hi
  obtain ⟨k, hk⟩ : ∃ k, w = (w - 1 - i) + (1 + k) := ⟨i, by omega⟩
  have hp : (0 : Int) < 2 ^ (w - 1 - i) := Int.pow_pos (by decide)
  have e : (2 : Int) ^ w = 2 ^ (w - 1 - i) * (2 * 2 ^ k) := by
    conv => lhs; rw [hk]
    rw [Int.pow_add, Int.pow_add]; rfl
  have h1 : v % 2 ^ w = v - 2 ^ w * (v / 2 ^ w) := by have := Int.emod_add_mul_ediv v (2 ^ w); omega
  rw [h1, e]
  rw [show v - 2 ^ (w - 1 - i) * (2 * 2 ^ k) * (v / (2 ^ (w - 1 - i) * (2 * 2 ^ k))) = v + 2 ^ (w - 1 - i) * (-(2 * (2 ^ k * (v / (2 ^ (w - 1 - i) * (2 * 2 ^ k)))))) by
    rw [Int.mul_neg, ← Int.mul_assoc, ← Int.mul_assoc, ← Int.mul_assoc, Int.sub_eq_add_neg]]
  rw [Int.add_mul_ediv_left _ _ (by omega)]
  omega

theorem cmp_bits : ∀ (w : Nat) (u v : Int), 0 ≤ u → u < 2 ^ w → 0 ≤ v → v < 2 ^ w → cmpL (bitsV w u) (bitsV w v) = sgn u v
  | 0, u, v, h1, h2, h3, h4 => by
    have : u = v := by simp at h2 h4; omega
    subst this
    simp [bitsV, cmpL, sgn]
  | w + 1, u, v, h1, h2, h3, h4 => by
    have hp : (0 : Int) < 2 ^ w := Int.pow_pos (by decide)
    have hpw : (2 : Int) ^ (w + 1) = 2 * 2 ^ w := by rw [Int.pow_succ]; omega
    rw [hpw] at h2 h4
    have hu := Int.emod_add_mul_ediv u (2 ^ w)
    have hv := Int.emod_add_mul_ediv v (2 ^ w)
    have hu0 := Int.emod_nonneg u (show (2 : Int) ^ w ≠ 0 by omega)
    have hv0 := Int.emod_nonneg v (show (2 : Int) ^ w ≠ 0 by omega)
    have hu1 := Int.emod_lt_of_pos u hp
    have hv1 := Int.emod_lt_of_pos v hp
    have hqu0 : 0 ≤ u / 2 ^ w := Int.ediv_nonneg h1 (by omega)
    have hqv0 : 0 ≤ v / 2 ^ w := Int.ediv_nonneg h3 (by omega)
    have hqu : u / 2 ^ w < 2 := Int.ediv_lt_of_lt_mul hp (by omega)
    have hqv : v / 2 ^ w < 2 := Int.ediv_lt_of_lt_mul hp (by omega)
    rw [bitsV_cons, bitsV_cons]
    simp only [cmpL]
    have e1 : u / 2 ^ w % 2 = u / 2 ^ w := Int.emod_eq_of_lt hqu0 hqu
    have e2 : v / 2 ^ w % 2 = v / 2 ^ w := Int.emod_eq_of_lt hqv0 hqv
    rw [e1, e2, ← bitsV_mod w u, ← bitsV_mod w v, cmp_bits w _ _ hu0 hu1 hv0 hv1]
    generalize u / 2 ^ w = qu at *
    generalize v / 2 ^ w = qv at *
    generalize u % 2 ^ w = ru at *
    generalize v % 2 ^ w = rv at *
    generalize (2 : Int) ^ w = p at *
    unfold sgn
    rcases (by omega : qu = 0 ∨ qu = 1) with rfl | rfl <;> rcases (by omega : qv = 0 ∨ qv = 1) with rfl | rfl <;> simp only [Int.mul_zero, Int.mul_one, Int.add_zero] at hu hv <;> subst hu <;> subst hv
    · rfl
    · rw [if_neg (by decide), if_neg (by decide), if_pos (by decide), if_neg (by omega), if_pos (by omega)]
    · rw [if_neg (by decide), if_neg (by decide), if_neg (by decide), if_neg (by omega), if_neg (by omega)]
    · rw [if_pos rfl]
      by_cases h : ru = rv
      · rw [if_pos h, if_pos (show ru + p = rv + p by omega)]
      · have hn : ¬ ru + p = rv + p := by omega
        rw [if_neg h, if_neg hn]
        by_cases h' : ru < rv
        · rw [if_pos h', if_pos (show ru + p < rv + p by omega)]
        · rw [if_neg h', if_neg (show ¬ ru + p < rv + p by omega)]

theorem cmp_fields : ∀ (fs gs : List (Int × Int)), fs.map (·.1) = gs.map (·.1) → (∀ f ∈ fs, okF f) → (∀ g ∈ gs, okF g) → cmpL (bitsF fs) (bitsF gs) = cmpL (fs.map (·.2)) (gs.map (·.2))
  | [], [], _, _, _ => rfl
  | f :: fs, g :: gs, h, hf, hg => by
    simp only [List.map_cons, List.cons.injEq] at h
    have h1 := hf f (by simp)
    have h2 := hg g (by simp)
    have e1 : bitsF (f :: fs) = bitsV f.1.toNat f.2 ++ bitsF fs := rfl
    have e2 : bitsF (g :: gs) = bitsV f.1.toNat g.2 ++ bitsF gs := by rw [h.1]; rfl
    rw [e1, e2, cmpL_append _ _ _ _ (by rw [bitsV_length, bitsV_length]), cmp_bits _ _ _ h1.2.1 h1.2.2 h2.2.1 (by rw [h.1]; exact h2.2.2), cmp_fields fs gs h.2 (fun x hx => hf x (by simp [hx])) (fun x hx => hg x (by simp [hx]))]
    simp only [List.map_cons, cmpL]
    by_cases hv : f.2 = g.2
    · rw [if_pos hv, if_pos (by simp [sgn, hv])]
    · rw [if_neg hv, if_neg]
      unfold sgn
      rw [if_neg hv]
      split <;> decide
  | [], _ :: _, h, _, _ => by simp at h
  | _ :: _, [], h, _, _ => by simp at h

theorem packB_cons (bs : List Int) (h : bs ≠ []) : packB bs = num8 (fun r => bs[r]?.getD 0) :: packB (bs.drop 8) := by
  have hl : 0 < bs.length := List.length_pos_iff.2 h
  unfold packB
  obtain ⟨n, hn⟩ : ∃ n, (bs.length + 7) / 8 = n + 1 := ⟨(bs.length + 7) / 8 - 1, by omega⟩
  have hn' : ((bs.drop 8).length + 7) / 8 = n := by rw [List.length_drop]; omega
  rw [hn, hn', List.range_succ_eq_map, List.map_cons, List.map_map]
  have e : ∀ q, (fun r => bs[8 * (q + 1) + r]?.getD 0) = fun r => (bs.drop 8)[8 * q + r]?.getD 0 := by
    intro q; funext r
    rw [List.getElem?_drop, show 8 * (q + 1) + r = 8 + (8 * q + r) by omega]
  refine congr (congrArg List.cons ?_) (List.map_congr_left fun q _ => ?_)
  · simp
  · show num8 (fun r => bs[8 * (q + 1) + r]?.getD 0) = _
    rw [e q]

theorem num8_cmp (f g : Nat → Int) (hf : ∀ r, 0 ≤ f r ∧ f r ≤ 1) (hg : ∀ r, 0 ≤ g r ∧ g r ≤ 1) :
    sgn (num8 f) (num8 g) = cmpL [f 0, f 1, f 2, f 3, f 4, f 5, f 6, f 7] [g 0, g 1, g 2, g 3, g 4, g 5, g 6, g 7] := by
  have a0 := hf 0; have a1 := hf 1; have a2 := hf 2; have a3 := hf 3; have a4 := hf 4; have a5 := hf 5; have a6 := hf 6; have a7 := hf 7
  have b0 := hg 0; have b1 := hg 1; have b2 := hg 2; have b3 := hg 3; have b4 := hg 4; have b5 := hg 5; have b6 := hg 6; have b7 := hg 7
  clear hf hg
  simp only [cmpL, num8]
  generalize f 0 = x0 at *; generalize f 1 = x1 at *; generalize f 2 = x2 at *; generalize f 3 = x3 at *; generalize f 4 = x4 at *; generalize f 5 = x5 at *; generalize f 6 = x6 at *; generalize f 7 = x7 at *
  generalize g 0 = y0 at *; generalize g 1 = y1 at *; generalize g 2 = y2 at *; generalize g 3 = y3 at *; generalize g 4 = y4 at *; generalize g 5 = y5 at *; generalize g 6 = y6 at *; generalize g 7 = y7 at *
  unfold sgn
  by_cases h0 : x0 = y0
  · subst h0
    rw [if_pos rfl]
    by_cases h1 : x1 = y1
    · subst h1
      rw [if_pos rfl]
      by_cases h2 : x2 = y2
      · subst h2
        rw [if_pos rfl]
        by_cases h3 : x3 = y3
        · subst h3
          rw [if_pos rfl]
          by_cases h4 : x4 = y4
          · subst h4
            rw [if_pos rfl]
            by_cases h5 : x5 = y5
            · subst h5
              rw [if_pos rfl]
              by_cases h6 : x6 = y6
              · subst h6
                rw [if_pos rfl]
                by_cases h7 : x7 = y7
                · subst h7; rw [if_pos rfl, if_pos rfl]
                · rw [if_neg h7, if_neg h7, if_neg (by omega)]; congr 1; exact propext ⟨fun h => by omega, fun h => by omega⟩
              · rw [if_neg h6, if_neg h6, if_neg (by omega)]; congr 1; exact propext ⟨fun h => by omega, fun h => by omega⟩
            · rw [if_neg h5, if_neg h5, if_neg (by omega)]; congr 1; exact propext ⟨fun h => by omega, fun h => by omega⟩
          · rw [if_neg h4, if_neg h4, if_neg (by omega)]; congr 1; exact propext ⟨fun h => by omega, fun h => by omega⟩
        · rw [if_neg h3, if_neg h3, if_neg (by omega)]; congr 1; exact propext ⟨fun h => by omega, fun h => by omega⟩
      · rw [if_neg h2, if_neg h2, if_neg (by omega)]; congr 1; exact propext ⟨fun h => by omega, fun h => by omega⟩
    · rw [if_neg h1, if_neg h1, if_neg (by omega)]; congr 1; exact propext ⟨fun h => by omega, fun h => by omega⟩
  · rw [if_neg h0, if_neg h0, if_neg (by omega)]; congr 1; exact propext ⟨fun h => by omega, fun h => by omega⟩

theorem take8 (bs : List Int) (n : Nat) : ∃ pad : List Int, [bs[0]?.getD 0, bs[1]?.getD 0, bs[2]?.getD 0, bs[3]?.getD 0, bs[4]?.getD 0, bs[5]?.getD 0, bs[6]?.getD 0, bs[7]?.getD 0] = bs.take 8 ++ List.replicate (8 - bs.length) 0 := ⟨[], by
  match bs with
  | [] => rfl
  | [_] => rfl
  | [_, _] => rfl
  | [_, _, _] => rfl
  | [_, _, _, _] => rfl
  | [_, _, _, _, _] => rfl
  | [_, _, _, _, _, _] => rfl
  | [_, _, _, _, _, _, _] => rfl
  | _ :: _ :: _ :: _ :: _ :: _ :: _ :: _ :: rest => simp⟩

theorem cmp_pack : ∀ (n : Nat) (bs cs : List Int), bs.length = cs.length → bs.length ≤ n → (∀ b ∈ bs, b = 0 ∨ b = 1) → (∀ c ∈ cs, c = 0 ∨ c = 1) → cmpL (packB bs) (packB cs) = cmpL bs cs
  | 0, bs, cs, h, hn, _, _ => by
    have h1 : bs = [] := List.eq_nil_of_length_eq_zero (by omega)
    have h2 : cs = [] := List.eq_nil_of_length_eq_zero (by omega)
    subst h1 h2
    rfl
  | n + 1, bs, cs, h, hn, hb, hc => by
    by_cases h1 : bs = []
    · have h2 : cs = [] := List.eq_nil_of_length_eq_zero (by rw [← h, h1]; rfl)
      subst h1 h2; rfl
    · have hl : 0 < bs.length := List.length_pos_iff.2 h1
      have h2 : cs ≠ [] := List.length_pos_iff.1 (by omega)
      rw [packB_cons bs h1, packB_cons cs h2]
      have ih := cmp_pack n (bs.drop 8) (cs.drop 8) (by simp [h]) (by rw [List.length_drop]; omega) (fun b hm => hb b (List.mem_of_mem_drop hm)) (fun c hm => hc c (List.mem_of_mem_drop hm))
      have hs := num8_cmp (fun r => bs[r]?.getD 0) (fun r => cs[r]?.getD 0) (fun r => get01 bs hb r) (fun r => get01 cs hc r)
      obtain ⟨_, e1⟩ := take8 bs 0
      obtain ⟨_, e2⟩ := take8 cs 0
      rw [e1, e2, h, cmpL_append _ _ _ _ (by simp [h]), cmpL_self] at hs
      have e3 : cmpL bs cs = if cmpL (bs.take 8) (cs.take 8) = 0 then cmpL (bs.drop 8) (cs.drop 8) else cmpL (bs.take 8) (cs.take 8) := by
        have := cmpL_append (bs.take 8) (cs.take 8) (bs.drop 8) (cs.drop 8) (by simp [h])
        rwa [List.take_append_drop, List.take_append_drop] at this
      have e4 : sgn (num8 fun r => bs[r]?.getD 0) (num8 fun r => cs[r]?.getD 0) = cmpL (bs.take 8) (cs.take 8) := by
        rw [hs]; split
        · rename_i hz; exact hz.symm
        · rfl
      rw [e3, ← e4]
      generalize (num8 fun r => bs[r]?.getD 0) = p
      generalize (num8 fun r => cs[r]?.getD 0) = q
      by_cases hpq : p = q
      · subst hpq
        have e5 : sgn p p = 0 := by simp [sgn]
        have e6 : cmpL (p :: packB (bs.drop 8)) (p :: packB (cs.drop 8)) = cmpL (packB (bs.drop 8)) (packB (cs.drop 8)) := by simp [cmpL]
        rw [e5, if_pos rfl, e6, ih]
      · have e5 : sgn p q ≠ 0 := by unfold sgn; rw [if_neg hpq]; split <;> decide
        have e6 : cmpL (p :: packB (bs.drop 8)) (q :: packB (cs.drop 8)) = sgn p q := by simp [cmpL, hpq]
        rw [if_neg e5, e6]

/-- Bytes stand in the order of the values. -/
theorem order_written (fs gs : List (Int × Int)) (h : fs.map (·.1) = gs.map (·.1)) (hf : ∀ f ∈ fs, okF f) (hg : ∀ g ∈ gs, okF g) : cmpL (packB (bitsF fs)) (packB (bitsF gs)) = cmpL (fs.map (·.2)) (gs.map (·.2)) := by
  have hl : (bitsF fs).length = (bitsF gs).length := by rw [bitsF_length, bitsF_length, h]
  rw [cmp_pack _ _ _ hl (Nat.le_refl _) (bits01F fs) (bits01F gs), cmp_fields fs gs h hf hg]
theorem cmp_step {l m l' m' : List Int} {a b c : Int} (h : l = a :: l') (h' : m = b :: m') (hc : c = cmpL l' m') : cmpL l m = if a = b then c else if a < b then -1 else 1 := by
  subst h h' hc
  simp only [cmpL, sgn]
  by_cases h : a = b
  · simp only [if_pos h]
  · simp only [if_neg h]
end Go.Baro
