/- What one instruction of the document's worker leaves. No statement of the seat is proved here; no condition. -/
import Derived.Test.YtjihopbapnfppaaDoorRefVmMem
import Derived.Test.YtjihopbapnfppaaDoorLibU
set_option linter.unusedSimpArgs false
set_option linter.unusedVariables false
namespace Go.Proofs.YtjihopbapnfppaaDoor
open Go.RowKit Go.Ord Go.Baro Go.Maps

/-- What one instruction leaves. -/
def OnPost (B b mb N n : Nat) (cv tv wv : Value) (s' : Vs) (E : Int) (w : World) (e : Ending) (w' : World) : Prop :=
  e = .returned (.tuple #[]) ∧ (∃ tv' p' ov, Wk w' B b mb cv tv' wv p' s'.w s'.t E ov ∧ (E = 0 → p' = s'.p ∧ (ov = true ↔ s'.p = n)) ∧ (E ≠ 0 → ov = true) ∧ (tv'.ownBlock = tv.ownBlock ∨ ∃ k, tv'.ownBlock = some k ∧ w.heap.size ≤ k)) ∧ MI w' mb (N + 2) s'.r ∧ Un (touch b mb tv wv) w w'
theorem results_noneV {P : Program} {fn : Func} (h : fn.results = #[]) (tmps : Array Value) (w : World) : (results fn tmps).run P w = .ok (.tuple #[]) w := by
  unfold results
  simp [h]
theorem upd_upd (r : Int → Int) (a v x : Int) : upd (upd r a v) a x = upd r a x := by
  funext i; unfold upd; split <;> rfl
theorem eltIntR : Elt Tryd.prog 24 3 (.int .i64 0) 1 8 := Elt.mk' Tryd.underlying24 (by kernel_rfl) rfl (by decide)
theorem RI_litV (w : World) (e : TypeId) (k : IntKind) (xs : List Int) (n g : Nat) (hg : g = w.heap.size) (hn : xs.length = n) :
    RI (w.alloc (.cells (xs.map (Value.int k)).toArray e)) (g + 1) k (some ⟨g, 0, none⟩) n xs := by
  subst hg
  have h := Rd.lit w e (cs := xs.map (Value.int k)) (s := 1) (n := n) (by simp [hn])
  rw [show (w.alloc (.cells (xs.map (Value.int k)).toArray e)).heap.size = w.heap.size + 1 by simp] at h
  exact h
theorem ref_bit (b : Bool) (w : World) : Calls Tryd.prog 52 #[.bool b] w fun e w' => e = .returned (.int .i64 (if b then 1 else 0)) ∧ w = w' := by
  cases b with
  | false =>
    go_enter Tryd.func52, Tryd.ntmps52
    go_wp2
    go_ret
    exact ⟨rfl, rfl⟩
  | true =>
    go_enter Tryd.func52, Tryd.ntmps52
    go_wp2
    go_ret
    exact ⟨rfl, rfl⟩
end Go.Proofs.YtjihopbapnfppaaDoor
