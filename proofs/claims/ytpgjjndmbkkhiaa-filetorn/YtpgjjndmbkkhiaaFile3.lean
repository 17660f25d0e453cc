/- What package file does to open a file. No statement of the seat is proved here; no condition. -/
import Derived.Test.YtpgjjndmbkkhiaaFile2
set_option linter.unusedSimpArgs false
set_option linter.unusedVariables false
namespace Go.Proofs.Ytpgjjndmbkkhiaa
open Go.RowKit Go.Ord Go.Baro

theorem eltLst : Elt Try.prog 28 22 (.slice none 0 0) 1 24 := Elt.mk' Try.underlying28 (by kernel_rfl) rfl (by decide)

/-- What Open and the document's answer to it return: the bodies in rows of the call's own. -/
def OpPost (f : List Int) (B : Nat) (w : World) (e : Ending) (w' : World) : Prop := ∃ A N c cs ls p x, e = .returned (.tuple #[.slice A N c, .int .i64 (p : Nat), .int .i64 x]) ∧
  w'.ownsRow B 22 1 (.slice A N c) N cs ∧ OBs 5 w' B none cs ls ∧ Hid (opn 200 f = (ls, p, x)) ∧ Below B w w'

set_option maxHeartbeats 1000000 in
theorem file_Open (f : List Int) (A : Option Addr) (n k : Nat) (w : World) (hb : RI w w.heap.size .u8 A n f) (hr : ∀ x ∈ f, 0 ≤ x ∧ x < 256) (hn : n ≤ 140737488355328) (hnk : n ≤ k) :
    Calls Try.prog 12 #[.slice A n k] w (OpPost f w.heap.size w) := by
  have HL := Lib.hid hb.len
  have HR := Lib.hid hr
  clear hr
  go_enter Try.func12, Try.ntmps12
  go_wp2
  go_loopw [5, 6] (fun b s wr => ∃ A' N c cs done p, b = .slice A' N c ∧ s = .int .i64 (p : Nat) ∧ wr.ownsRow w.heap.size 22 1 (.slice A' N c) N cs ∧ OBs 5 wr w.heap.size none cs done ∧ Hid (Mid f N p done) ∧ N ≤ 200 ∧ p ≤ n ∧ Below w.heap.size w wr) (fun _ s _ => n - (intOf s).toNat)
  case atStart => exact ⟨none, 0, 0, [], [], 0, rfl, rfl, World.ownsRow_nil _ _ _ _, OBs.nil _ _ _ _, Mid.start f, by omega, by omega, Below.refl _ _⟩
  case round =>
    obtain ⟨A', N, c, cs, done, p, rfl, rfl, hown, hobs, HM, hN, hp, hbel⟩ := hrel
    by_cases hlt : p < n
    · by_cases hN2 : N = 200
      · subst hN2
        go_wp2
        go_ret3
        exact ⟨_, 200, _, cs, done, p, 8, rfl, hown, hobs, HM.out.full (by rw [HL.out]; exact hlt), hbel⟩
      · obtain ⟨gb, o, rfl, hgb, _⟩ := Rd.at_ hb (by omega)
        have hpart : RI wr wr.heap.size .u8 (some ⟨gb, o + p, none⟩) (n - p) (f.drop p) := by
          have := RI.part hb (i := p) (m := n - p) (by omega)
          rw [List.take_of_length_le (by rw [List.length_drop, HL.out]; omega)] at this
          exact (this.below hbel).more hbel.size
        have hNb : ((N : Int) == 200) = false := by simp; omega
        go_wp2_with fail
        refine (file_firstBody (f.drop p) _ _ _ _ hpart (fun x hx => HR.out x (List.mem_of_mem_drop hx)) (by omega) (by omega)).mono ?_
        rintro e w1 ⟨v, x, rfl, ⟨hx, hok⟩, hb1⟩
        have hown1 := own_below hown hb1
        have hobs1 := hobs.below hb1
        have hbel1 : Below w.heap.size w w1 := hbel.trans (hb1.mono hbel.size)
        have hpl : p < f.length := by rw [HL.out]; exact hlt
        by_cases hx0 : x = 0
        · obtain ⟨A2, n2, c2, rfl, hR, hn2, hnc⟩ := hok (by rw [← hx]; exact hx0)
          have HC : Hid (fc (f.drop p) = 0) := Lib.hid (by rw [← hx]; exact hx0)
          have HN2 := Lib.hid hn2
          have hn2' : n2 ≤ 4000 := by have := fc_ok HC.out; omega
          have hpn : p + (6 + n2) ≤ n := by have := fc_ok HC.out; rw [List.length_drop, HL.out] at this; omega
          clear hx hok hn2 hpart hobs hown hb1 hbel hpl
          subst hx0
          go_wp2_with (first
            | (at_builtin; refine app_src eltOct w1 rfl (.const (.slice none 0 0)) (.tmp 31) rfl w1.heap.size _ 0 [] rfl (World.ownsRow_nil _ _ _ _) _ _ _ ((bd (f.drop p)).map (Value.int .u8)) (by rfl) _ (by exact hR) (one_ints _ _) (by omega) (by omega) (Nat.le_refl _) ?_; intro v3 w3 hv3 _ hbel3 hsz3; rw [List.nil_append, Nat.zero_add] at hv3; obtain ⟨A3, k3, rfl, _⟩ := own_form hv3; have hb3 : Below w1.heap.size w1 w3 := hbel3 w1 (Below.refl _ _); have hown3 := own_below hown1 hb3; have hobs3 := hobs1.below hb3; have hbelA : Below w.heap.size w w3 := hbel1.trans (hb3.mono hbel1.size))
            | (at_builtin; refine app_lit eltLst w3 rfl (.tmp 30) (.tmp 33) rfl w.heap.size _ _ _ rfl (by exact hown3) 1 [_] _ rfl rfl rfl (oneS _ _ _) (by omega) (by omega) hbelA.size ?_; intro v4 w4 hv4 hgr4 hbel4 hsz4; obtain ⟨A4, k4, rfl, _⟩ := own_form hv4))
          refine ⟨⟨A4, N + 1, k4, _, done ++ [bd (f.drop p)], p + (6 + n2), rfl, by go_num, hv4, ?_, ?_, by omega, hpn, hbel4 w hbelA⟩, by simp [intOf]; omega⟩
          · refine OBs.snoc ((hobs3.below (below_alloc _)).other (hown3.alloc _) (by decide) hgr4) ?_
            exact ((OB.mk0 (own_more hv3 hbel1.size)).below (below_alloc _)).other (hown3.alloc _) (by decide) hgr4
          · show Mid _ _ _ _
            rw [HN2.out]
            exact HM.out.next (by omega) HC.out
        · have hxb : (x != 0) = true := by simp [hx0]
          have HX := Lib.hid hx
          clear hok hx
          go_wp2
          go_ret3
          exact ⟨_, N, _, cs, done, p, x, rfl, hown1, hobs1, by show _ = _; rw [HX.out]; exact HM.out.fault (by omega) hpl (by rw [← HX.out]; exact hx0), hbel1⟩
    · go_wp2
      go_ret3
      exact ⟨_, N, _, cs, done, p, 0, rfl, hown, hobs, HM.out.ended (by rw [HL.out]; omega), hbel⟩
end Go.Proofs.Ytpgjjndmbkkhiaa
