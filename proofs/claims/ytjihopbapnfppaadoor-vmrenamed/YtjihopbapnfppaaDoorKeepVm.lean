/- What the statements on vm have in common: a run that is known, the words as they are drawn. No statement of the seat is proved here; no condition. -/
import Derived.Test.YtjihopbapnfppaaDoorVm7
import Derived.Test.YtjihopbapnfppaaDoorKeepCode
import Derived.Test.YtjihopbapnfppaaDoorSameIntsK
import Derived.Test.YtjihopbapnfppaaDoorLibL
import Derived.Test.YtjihopbapnfppaaDoorOpen
set_option linter.unusedSimpArgs false
set_option linter.unusedVariables false
namespace Go.Proofs.YtjihopbapnfppaaDoor
open Go.RowKit Go.Ord Go.Baro

theorem sure_run : ([9], [1, 8, 9], 3, 0) = vmR [⟨13, 1, 0, 1, 0⟩, ⟨16, 1, 0, 0, 0⟩, ⟨14, 0, 2, 0, 0⟩] [1] [7, 8, 9] 9 := by decide +kernel

/-- The words when j of them are drawn. -/
def wsJ (f : Int → Int) (x : List Int) (j : Nat) : List Int := (x.take j).map f ++ List.replicate (6 - j) 0
def wsL (f : Int → Int) (x : List Int) : List Int := wsJ f x (min 6 x.length)
theorem wsJ_len {f : Int → Int} {x : List Int} {j : Nat} (h : j ≤ x.length) (h6 : j ≤ 6) : (wsJ f x j).length = 6 := by simp [wsJ]; omega
theorem wsL_len (f : Int → Int) (x : List Int) : (wsL f x).length = 6 := wsJ_len (by omega) (by omega)
theorem wsJ_step {f : Int → Int} {x : List Int} {j : Nat} {v : Int} (h : x[j]? = some v) (h6 : j < 6) : (wsJ f x j).set j (f v) = wsJ f x (j + 1) := by
  have hl : j < x.length := (List.getElem?_eq_some_iff.1 h).1
  unfold wsJ
  rw [List.set_append_right _ _ (by simp; omega), at_take h, List.map_append, List.append_assoc]
  congr 1
  rw [show j - ((x.take j).map f).length = 0 by simp; omega, show 6 - j = (6 - (j + 1)) + 1 by omega, List.replicate_succ]
  rfl
theorem wsL_in {f : Int → Int} {x : List Int} (h : ∀ y ∈ x, inW (f y)) : ∀ y ∈ wsL f x, inW y := by
  intro y hy
  unfold wsL wsJ at hy
  rcases List.mem_append.1 hy with hy | hy
  · obtain ⟨z, hz, rfl⟩ := List.mem_map.1 hy
    exact h z (List.mem_of_mem_take hz)
  · rw [(List.mem_replicate.1 hy).2]; unfold inW; omega
theorem inW_small {x : Int} (h : 0 ≤ x ∧ x < 1000) : inW x := by unfold inW; omega
/-- A run that is checked and found right. -/
theorem vmR_ok {c : List Ins} {ar ws : List Int} {L : Nat} (hc : okC c) (ha : ar.length ≤ 8) (hw : ws.length ≤ 200) (hL : L ≤ 6000) : vmR c ar ws L = ((rn c L (st0 ar ws)).1.t, (rn c L (st0 ar ws)).1.w, (rn c L (st0 ar ws)).2.1, (rn c L (st0 ar ws)).2.2) := by
  have hx : vmX c ar ws L = 0 := by
    unfold vmX
    rw [if_neg (by simpa using hc), if_neg (by omega), if_neg (by omega)]
  unfold vmR
  rw [if_pos hx, Int.toNat_natCast]

theorem RI_lit3 (w : World) (e : TypeId) (xs : List Int) (n g : Nat) (hg : g = w.heap.size) (hn : xs.length = n) :
    RI (w.alloc (.cells (xs.map (Value.int .i64)).toArray e)) (g + 1) .i64 (some ⟨g, 0, none⟩) n xs := by
  subst hg
  have h := Rd.lit w e (cs := xs.map (Value.int .i64)) (s := 1) (n := n) (by simp [hn])
  rw [show (w.alloc (.cells (xs.map (Value.int .i64)).toArray e)).heap.size = w.heap.size + 1 by simp] at h
  exact h
set_option maxHeartbeats 2000000 in
theorem keep_vmSure (w : World) (hT : Tab w) : Calls Tryd.prog 22 #[] w fun e w' => e = .returned (.bool true) ∧ Below w.heap.size w w' := by
  have h0 : Below w.heap.size w w := Below.refl _ _
  have HR := Lib.hid sure_run
  have hlt := hT.lt
  go_enter Tryd.func22, Tryd.ntmps22
  go_wp2_with fail
  have hA1 := h0.alloc (Nat.le_refl _) (.cells (cellsO [⟨13, 1, 0, 1, 0⟩, ⟨16, 1, 0, 0, 0⟩, ⟨14, 0, 2, 0, 0⟩]).toArray 37)
  have hA2 := hA1.alloc (by simp) (.cells ([1].map (Value.int .i64)).toArray 3)
  have hA3 := hA2.alloc (by simp; omega) (.cells ([7, 8, 9].map (Value.int .i64)).toArray 3)
  have q1 : RO (w.alloc (.cells (cellsO [⟨13, 1, 0, 1, 0⟩, ⟨16, 1, 0, 0, 0⟩, ⟨14, 0, 2, 0, 0⟩]).toArray 37)) (w.heap.size + 1) (some ⟨w.heap.size, 0, none⟩) 3 [⟨13, 1, 0, 1, 0⟩, ⟨16, 1, 0, 0, 0⟩, ⟨14, 0, 2, 0, 0⟩] := by
    have := Rd.lit w 37 (cs := cellsO [⟨13, 1, 0, 1, 0⟩, ⟨16, 1, 0, 0, 0⟩, ⟨14, 0, 2, 0, 0⟩]) (s := 5) (n := 3) rfl
    rw [World.size_alloc] at this
    exact this
  have q2 := ((q1.below ((Below.refl _ _).alloc (by simp) (.cells ([1].map (Value.int .i64)).toArray 3))).below ((Below.refl _ _).alloc (by simp) (.cells ([7, 8, 9].map (Value.int .i64)).toArray 3)))
  refine (vm_Run [⟨13, 1, 0, 1, 0⟩, ⟨16, 1, 0, 0, 0⟩, ⟨14, 0, 2, 0, 0⟩] [1] [7, 8, 9] 9 _ _ _ 3 3 1 1 3 3 _ (hT.below hA3 hlt) (q2.more (by simp)) (by omega) ?_ ?_ (by omega) ?_ ?_ (by omega) ?_ [9] [1, 8, 9] 3 0 HR.out).mono ?_
  · intro o ho
    simp only [List.mem_cons, List.not_mem_nil, or_false] at ho
    rcases ho with rfl | rfl | rfl <;> (unfold inI inW; dsimp only; omega)
  · exact ((RI_lit3 (w.alloc _) 3 [1] 1 (w.heap.size + 1) (by simp) rfl).below ((Below.refl _ _).alloc (by simp) _)).more (by simp)
  · intro x hx; simp at hx; subst hx; unfold inW; omega
  · exact (RI_lit3 ((w.alloc _).alloc _) 3 [7, 8, 9] 3 (w.heap.size + 1 + 1) (by simp) rfl).more (by simp)
  · intro x hx; simp at hx; rcases hx with rfl | rfl | rfl <;> (unfold inW; omega)
  rintro e w1 ⟨B1, m1, d1, B2, m2, d2, rfl, hr1, hr2, hl1, hl2, hm1, hm2, hb1⟩
  have hs1 := hb1.size
  have hb01 : Below w.heap.size w w1 := hA3.trans (hb1.mono (by simp; omega))
  go_wp2_with fail
  refine (keep_sameInts [9] [9] B1 _ m1 d1 1 1 _ w1.heap.size (w1.heap.size + 1) true (hr1.below ((Below.refl _ _).alloc (Nat.le_refl _) _)) (RI_lit3 w1 3 [9] 1 w1.heap.size rfl rfl) (by simp) (by omega) (by omega)).mono ?_
  rintro e w2 ⟨rfl, k2, rfl⟩
  go_wp2_with fail
  have hb3 : Below w1.heap.size w1 (((w1.alloc (.cells ([9].map (Value.int .i64)).toArray 3)).drewN k2).alloc (.cells ([1, 8, 9].map (Value.int .i64)).toArray 3)) := (((Below.refl _ _).alloc (Nat.le_refl _) _).drewN k2).alloc (by simp) _
  refine (keep_sameInts [1, 8, 9] [1, 8, 9] B2 _ m2 d2 3 3 _ w1.heap.size (w1.heap.size + 1 + 1) true (hr2.below hb3) (RI_lit3 ((w1.alloc _).drewN k2) 3 [1, 8, 9] 3 (w1.heap.size + 1) (by simp) rfl) (by simp) (by omega) (by omega)).mono ?_
  rintro e w4 ⟨rfl, k4, rfl⟩
  go_wp2
  go_ret
  exact ⟨by simp, (hb01.trans (hb3.mono hb01.size)).drewN _⟩
end Go.Proofs.YtjihopbapnfppaaDoor
