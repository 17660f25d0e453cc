/- One instruction of the document's worker. No statement of the seat is proved here; no condition. -/
import Derived.Test.YtjihopbapnfppaaDoorRefOneA
import Derived.Test.YtjihopbapnfppaaDoorRefOneB
import Derived.Test.YtjihopbapnfppaaDoorRefOneC
import Derived.Test.YtjihopbapnfppaaDoorRefOneD
set_option linter.unusedSimpArgs false
set_option linter.unusedVariables false
namespace Go.Proofs.YtjihopbapnfppaaDoor
open Go.RowKit Go.Ord Go.Baro Go.Maps

theorem ref_One (w : World) (B Bc b mb N n cc wn wc : Nat) (cA wA : Option Addr) (tv : Value) (l : List Ins) (s s' : Vs) (o : Ins) (E : Int) (h : Wk w B b mb (.slice cA n cc) tv (.slice wA wn wc) s.p s.w s.t 0 false) (hm : MI w mb N s.r) (hN : N < 100000) (hB : B ≤ b) (hBm : B ≤ mb)
    (hc : RO w Bc cA n l) (hBc : Bc ≤ B) (hp : s.p < n) (hn : n ≤ 200) (hok : Ok n s) (hx : l[s.p.toNat]? = some o) (ho : okI n o) (hi : inI o) (hs : stp n o s = (s', E)) :
    Calls Tryd.prog 42 #[.pointer (some ⟨b, 0, none⟩), .slice wA wn wc] w (OnPost B b mb N n (.slice cA n cc) tv (.slice wA wn wc) s' E w) := by
  obtain ⟨p', r, ws, t⟩ := s
  obtain ⟨q1, q2, q3, q4, q5, q6, q7⟩ := hok
  dsimp only at q1 q2 q3 q4 q5 q6 q7 hp hx h hm
  obtain ⟨p, rfl⟩ : ∃ p : Nat, p' = p := ⟨p'.toNat, by omega⟩
  rw [Int.toNat_natCast] at hx
  obtain ⟨k, a, b', c, d⟩ := o
  have hk : 1 ≤ k ∧ k ≤ 17 := by unfold okI at ho; dsimp only at ho; omega
  rcases (by omega : k = 1 ∨ k = 2 ∨ k = 3 ∨ k = 4 ∨ k = 5 ∨ k = 6 ∨ k = 7 ∨ k = 8 ∨ k = 9 ∨ k = 10 ∨ k = 11 ∨ k = 12 ∨ k = 13 ∨ k = 14 ∨ k = 15 ∨ k = 16 ∨ k = 17) with rfl | rfl | rfl | rfl | rfl | rfl | rfl | rfl | rfl | rfl | rfl | rfl | rfl | rfl | rfl | rfl | rfl
  · exact ref_one1 w B Bc b mb N n cc wn wc cA wA tv l p r ws t s' a b' c d E h hm hN hB hBm hc hBc (by omega) hn q5 q7 q3 q4 hx ho hi hs
  · exact ref_one2 w B Bc b mb N n cc wn wc cA wA tv l p r ws t s' a b' c d E h hm hN hB hBm hc hBc (by omega) hn q5 q7 q3 q4 hx ho hi hs
  · exact ref_one3 w B Bc b mb N n cc wn wc cA wA tv l p r ws t s' a b' c d E h hm hN hB hBm hc hBc (by omega) hn q5 q7 q3 q4 hx ho hi hs
  · exact ref_one4 w B Bc b mb N n cc wn wc cA wA tv l p r ws t s' a b' c d E h hm hN hB hBm hc hBc (by omega) hn q5 q7 q3 q4 hx ho hi hs
  · exact ref_one5 w B Bc b mb N n cc wn wc cA wA tv l p r ws t s' a b' c d E h hm hN hB hBm hc hBc (by omega) hn q5 q7 q3 q4 hx ho hi hs
  · exact ref_one6 w B Bc b mb N n cc wn wc cA wA tv l p r ws t s' a b' c d E h hm hN hB hBm hc hBc (by omega) hn q5 q7 q3 q4 hx ho hi hs
  · exact ref_one7 w B Bc b mb N n cc wn wc cA wA tv l p r ws t s' a b' c d E h hm hN hB hBm hc hBc (by omega) hn q5 q7 q3 q4 hx ho hi hs
  · exact ref_one8 w B Bc b mb N n cc wn wc cA wA tv l p r ws t s' a b' c d E h hm hN hB hBm hc hBc (by omega) hn q5 q7 q3 q4 hx ho hi hs
  · exact ref_one9 w B Bc b mb N n cc wn wc cA wA tv l p r ws t s' a b' c d E h hm hN hB hBm hc hBc (by omega) hn q5 q7 q3 q4 hx ho hi hs
  · exact ref_one10 w B Bc b mb N n cc wn wc cA wA tv l p r ws t s' a b' c d E h hm hN hB hBm hc hBc (by omega) hn q5 q7 q3 q4 hx ho hi hs
  · exact ref_one11 w B Bc b mb N n cc wn wc cA wA tv l p r ws t s' a b' c d E h hm hN hB hBm hc hBc (by omega) hn q5 q7 q3 q4 hx ho hi hs
  · exact ref_one12 w B Bc b mb N n cc wn wc cA wA tv l p r ws t s' a b' c d E h hm hN hB hBm hc hBc (by omega) hn q5 q7 q3 q4 hx ho hi hs
  · exact ref_one13 w B Bc b mb N n cc wn wc cA wA tv l p r ws t s' a b' c d E h hm hN hB hBm hc hBc (by omega) hn q5 q7 q3 q4 hx ho hi hs
  · exact ref_one14 w B Bc b mb N n cc wn wc cA wA tv l p r ws t s' a b' c d E h hm hN hB hBm hc hBc (by omega) hn q5 q7 q3 q4 hx ho hi hs
  · exact ref_one15 w B Bc b mb N n cc wn wc cA wA tv l p r ws t s' a b' c d E h hm hN hB hBm hc hBc (by omega) hn q5 q7 q3 q4 hx ho hi hs
  · exact ref_one16 w B Bc b mb N n cc wn wc cA wA tv l p r ws t s' a b' c d E h hm hN hB hBm hc hBc (by omega) hn q5 q7 q3 q4 hx ho hi hs
  · exact ref_one17 w B Bc b mb N n cc wn wc cA wA tv l p r ws t s' a b' c d E h hm hN hB hBm hc hBc (by omega) hn q5 q7 q3 q4 hx ho hi hs
end Go.Proofs.YtjihopbapnfppaaDoor
