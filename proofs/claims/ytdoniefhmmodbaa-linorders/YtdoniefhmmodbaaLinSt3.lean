/- The states of lin behind their interface. No statement of the seat is proved here; no condition. -/
import Derived.Test.YtdoniefhmmodbaaLinSt2
import Derived.Test.YtdoniefhmmodbaaRefLin3
set_option linter.unusedSimpArgs false
set_option linter.unusedVariables false
namespace Go.Proofs.Ytdoniefhmmodbaa
open Go.RowKit Go.Ord Go.Baro

/-- The state v of an object of kind k has these numbers. -/
def StV (w : World) (k : Int) (v : Value) (has : List Int) : Prop :=
  (k = 1 ∧ ∃ x, v = .iface 65 (.int .i64 x) ∧ has = [x] ∧ inW x) ∨ (k = 2 ∧ ∃ x, v = .iface 66 (.int .i64 x) ∧ has = [x] ∧ inW x) ∨
  (k = 3 ∧ ∃ A n c, v = .iface 67 (.slice A n c) ∧ n ≤ c ∧ n ≤ 20 ∧ (A = none → c = 0) ∧ QR w A n has) ∨ (k = 4 ∧ ∃ A n c, v = .iface 68 (.slice A n c) ∧ n ≤ c ∧ n ≤ 20 ∧ (A = none → c = 0) ∧ QR w A n has)
theorem StV.kp {w w' : World} {k : Int} {v : Value} {has : List Int} (h : StV w k v has) (hk : Kp w w') : StV w' k v has := by
  rcases h with h | h | ⟨h0, A, n, c, h1, h2, h3, h4, h5⟩ | ⟨h0, A, n, c, h1, h2, h3, h4, h5⟩
  · exact .inl h
  · exact .inr (.inl h)
  · exact .inr (.inr (.inl ⟨h0, A, n, c, h1, h2, h3, h4, h5.kp hk⟩))
  · exact .inr (.inr (.inr ⟨h0, A, n, c, h1, h2, h3, h4, h5.kp hk⟩))
theorem StV.one {w : World} {k : Int} {v : Value} {has : List Int} (h : StV w k v has) : v.oneCell' = true := by
  rcases h with ⟨_, x, rfl, _⟩ | ⟨_, x, rfl, _⟩ | ⟨_, A, n, c, rfl, _⟩ | ⟨_, A, n, c, rfl, _⟩ <;> rfl
/-- The method of this name of a value of type T is the function F. -/
def Meth (name : String) (T : TypeId) (u : Value) (F : FuncId) : Prop := (∀ (n : Nat) (w : World), (method (n + 1) T u name).run Try.prog w = .ok (F, u) w) ∧ ∀ (args : Array Value) (w : World), (callFunc F args).run Try.prog w = .ok (.enter F args) w
theorem st_digest {w : World} {k : Int} {v : Value} {has : List Int} (h : StV w k v has) : ∃ T u F, v = .iface T u ∧ Meth "barograph/lin.digest" T u F ∧ Calls Try.prog F #[u] w fun e w' => (∃ g, e = .returned (.int .u64 g)) ∧ Below w.heap.size w w' := by
  rcases h with ⟨_, x, rfl, _⟩ | ⟨_, x, rfl, _⟩ | ⟨_, A, n, c, rfl, h2, h3, h4, h5⟩ | ⟨_, A, n, c, rfl, h2, h3, h4, h5⟩
  · exact ⟨_, _, 49, rfl, ⟨fun n w => by kernel_rfl, fun n w => by kernel_rfl⟩, reg_digest w x⟩
  · exact ⟨_, _, 52, rfl, ⟨fun n w => by kernel_rfl, fun n w => by kernel_rfl⟩, cnt_digest w x⟩
  · exact ⟨_, _, 55, rfl, ⟨fun n w => by kernel_rfl, fun n w => by kernel_rfl⟩, q_digest w A n c has h5 h3⟩
  · exact ⟨_, _, 62, rfl, ⟨fun n w => by kernel_rfl, fun n w => by kernel_rfl⟩, s_digest w A n c has h5 h3⟩
theorem st_same {w : World} {k : Int} {v : Value} {has : List Int} (h : StV w k v has) : ∃ T u F, v = .iface T u ∧ Meth "barograph/lin.same" T u F ∧
    ∀ w' v' ys r, StV w' k v has → StV w' k v' ys → (r = true ↔ ys = has) → Calls Try.prog F #[u, v'] w' fun e w'' => e = .returned (.bool r) ∧ Below w'.heap.size w' w'' := by
  rcases h with ⟨h0, x, rfl, hx, hx2⟩ | ⟨h0, x, rfl, hx, hx2⟩ | ⟨h0, A, n, c, rfl, h2, h3, h4, h5⟩ | ⟨h0, A, n, c, rfl, h2, h3, h4, h5⟩
  · subst h0 hx
    refine ⟨_, _, 51, rfl, ⟨fun n w => by kernel_rfl, fun n w => by kernel_rfl⟩, fun w' v' ys r h1 h2 hr => ?_⟩
    rcases h2 with ⟨_, y, rfl, hy, _⟩ | ⟨h0, _⟩ | ⟨h0, _⟩ | ⟨h0, _⟩
    · subst hy
      exact reg_same w' x y r (by rw [hr]; simp)
    all_goals omega
  · subst h0 hx
    refine ⟨_, _, 54, rfl, ⟨fun n w => by kernel_rfl, fun n w => by kernel_rfl⟩, fun w' v' ys r h1 h2 hr => ?_⟩
    rcases h2 with ⟨h0, _⟩ | ⟨_, y, rfl, hy, _⟩ | ⟨h0, _⟩ | ⟨h0, _⟩
    · omega
    · subst hy
      exact cnt_same w' x y r (by rw [hr]; simp)
    all_goals omega
  · subst h0
    refine ⟨_, _, 57, rfl, ⟨fun n w => by kernel_rfl, fun n w => by kernel_rfl⟩, fun w' v' ys r h1 h2 hr => ?_⟩
    have h5' : QR w' A n has := by
      rcases h1 with ⟨h0, _⟩ | ⟨h0, _⟩ | ⟨_, A', n', c', he, _, _, _, hq⟩ | ⟨h0, _⟩
      · omega
      · omega
      · simp only [Value.iface.injEq, Value.slice.injEq, true_and] at he
        obtain ⟨rfl, rfl, rfl⟩ := he
        exact hq
      · omega
    rcases h2 with ⟨h0, _⟩ | ⟨h0, _⟩ | ⟨_, A', n', c', rfl, _, g3, _, g5⟩ | ⟨h0, _⟩
    · omega
    · omega
    · exact q_same w' A A' n c n' c' has ys r h5' g5 h3 g3 hr
    · omega
  · subst h0
    refine ⟨_, _, 64, rfl, ⟨fun n w => by kernel_rfl, fun n w => by kernel_rfl⟩, fun w' v' ys r h1 h2 hr => ?_⟩
    have h5' : QR w' A n has := by
      rcases h1 with ⟨h0, _⟩ | ⟨h0, _⟩ | ⟨h0, _⟩ | ⟨_, A', n', c', he, _, _, _, hq⟩
      · omega
      · omega
      · omega
      · simp only [Value.iface.injEq, Value.slice.injEq, true_and] at he
        obtain ⟨rfl, rfl, rfl⟩ := he
        exact hq
    rcases h2 with ⟨h0, _⟩ | ⟨h0, _⟩ | ⟨h0, _⟩ | ⟨_, A', n', c', rfl, _, g3, _, g5⟩
    · omega
    · omega
    · omega
    · exact s_same w' A A' n c n' c' has ys r h5' g5 h3 g3 hr
/-- What next leaves. -/
def StPost (k : Int) (v : Int) (nx : List Int) (w : World) (e : Ending) (w' : World) : Prop := (∃ v', e = .returned (.tuple #[v', .int .i64 v]) ∧ StV w' k v' nx) ∧ Below w.heap.size w w'
theorem st_next {w : World} {k : Int} {v : Value} {has : List Int} {a : Ac} (h : StV w k v has) (ha : okA k a) (hi : inA a) (hl : has.length ≤ 15) : ∃ T u F, v = .iface T u ∧ Meth "barograph/lin.next" T u F ∧ Calls Try.prog F #[u, acA a] w (StPost k (tel k has a).1 (tel k has a).2 w) := by
  rcases h with ⟨h0, x, rfl, hx, hx2⟩ | ⟨h0, x, rfl, hx, hx2⟩ | ⟨h0, A, n, c, rfl, h2, h3, h4, h5⟩ | ⟨h0, A, n, c, rfl, h2, h3, h4, h5⟩
  · subst h0 hx
    refine ⟨_, _, 50, rfl, ⟨fun n w => by kernel_rfl, fun n w => by kernel_rfl⟩, (reg_next w x a).mono ?_⟩
    rintro e w' ⟨rfl, hb⟩
    unfold tel
    rw [if_pos rfl]
    by_cases hp : a.put = true
    · rw [if_pos hp, if_pos hp]
      exact ⟨⟨_, rfl, .inl ⟨rfl, _, rfl, rfl, hi.2.2.1⟩⟩, hb⟩
    · rw [if_neg hp, if_neg hp]
      exact ⟨⟨_, rfl, .inl ⟨rfl, _, rfl, rfl, hx2⟩⟩, hb⟩
  · subst h0 hx
    refine ⟨_, _, 53, rfl, ⟨fun n w => by kernel_rfl, fun n w => by kernel_rfl⟩, (cnt_next w x a hx2 (fun hp => ?_)).mono ?_⟩
    · rcases ha.2.2.2.1 with h | h
      · exact h
      · rw [hp] at h; exact absurd h.2 (by simp)
    · rintro e w' ⟨rfl, hb⟩
      unfold tel
      rw [if_neg (by decide), if_pos rfl]
      exact ⟨⟨_, rfl, .inr (.inl ⟨rfl, _, rfl, rfl, inW_wrap _⟩)⟩, hb⟩
  · subst h0
    have hn : n ≤ 15 := by rw [← h5.1]; exact hl
    refine ⟨_, _, 56, rfl, ⟨fun n w => by kernel_rfl, fun n w => by kernel_rfl⟩, (q_next w A n c has a h5 (by omega) h2 h4).mono ?_⟩
    rintro e w' ⟨⟨A', n', c', rfl, g1, g2, g3⟩, hb⟩
    have hn' : n' ≤ 20 := by
      have h1 := (tel_len 3 has a).1
      rw [g3.1, h5.1] at h1
      omega
    exact ⟨⟨_, rfl, .inr (.inr (.inl ⟨rfl, A', n', c', rfl, g1, hn', g2, g3⟩))⟩, hb⟩
  · subst h0
    have hn : n ≤ 15 := by rw [← h5.1]; exact hl
    refine ⟨_, _, 63, rfl, ⟨fun n w => by kernel_rfl, fun n w => by kernel_rfl⟩, (s_next w A n c has a h5 (by omega) h2 h4).mono ?_⟩
    rintro e w' ⟨⟨A', n', c', rfl, g1, g2, g3⟩, hb⟩
    have hn' : n' ≤ 20 := by
      have h1 := (tel_len 4 has a).1
      rw [g3.1, h5.1] at h1
      omega
    exact ⟨⟨_, rfl, .inr (.inr (.inr ⟨rfl, A', n', c', rfl, g1, hn', g2, g3⟩))⟩, hb⟩

set_option maxHeartbeats 2000000 in
/-- slices.IndexFunc over visited states. -/
theorem lin_IndexSame (w : World) (A : Option Addr) (n c : Nat) (k : Int) (v : Value) (has : List Int) (xs : List Value) (S : List Int → Prop) (h : Rd w w.heap.size 1 A n xs) (hv : StV w k v has) (hx : ∀ x ∈ xs, ∃ s, StV w k x s ∧ S s) (hn : n ≤ 1000000000000) :
    Calls Try.prog 33 #[.slice A n c, .func (.method "barograph/lin.same") #[v] #[]] w fun e w' => (∃ i : Int, e = .returned (.int .i64 i) ∧ -1 ≤ i ∧ i ≤ 1000000000000 ∧ (0 ≤ i → S has)) ∧ Below w.heap.size w w' := by
  obtain ⟨T, u, F, rfl, hm, hsame⟩ := st_same hv
  have h0 := Below.refl w.heap.size w
  have HS := Lib.hid hsame
  have HV := Lib.hid hv
  have HX := Lib.hid hx
  have HL := Lib.hid h.len
  clear hsame hv hx
  go_enter Try.func33, Try.ntmps33
  go_wp2
  go_loopw [8] (fun i wr => ∃ j : Nat, j ≤ n ∧ i = .int .i64 j ∧ Below w.heap.size w wr) (fun i _ => n - (intOf i).toNat)
  case atStart => exact ⟨0, Nat.zero_le _, rfl, h0⟩
  case round =>
    obtain ⟨j, hj, rfl, hbel⟩ := hrel
    have hsz := hbel.size
    have hkp := Kp.below hbel
    by_cases hjm : j < n
    · obtain ⟨b, o, rfl, hb, hcs⟩ := (h.below hbel).at_ (by omega)
      have hjl : j < xs.length := by rw [HL.out]; omega
      have hcell := hcs j (by omega)
      rw [List.getElem?_eq_getElem hjl] at hcell
      obtain ⟨s, hs1, hs2⟩ := HX.out xs[j] (List.getElem_mem hjl)
      obtain ⟨y, hy⟩ : ∃ y, xs[j] = y := ⟨_, rfl⟩
      rw [hy] at hcell hs1
      obtain ⟨r, hr⟩ := bool_of (s = has)
      have HR := Lib.hid hr
      have HS1 := Lib.hid (hs1.kp hkp)
      have HS2 := Lib.hid hs2
      have hm1 := hm.1 204 wr
      have hm2 := hm.2 #[u, y] wr
      have hy1 := hs1.one
      clear hr hs1 hs2 hy hcs hjl
      go_wp2_with fail
      refine (HS.out wr y s r (HV.out.kp hkp) HS1.out HR.out).mono ?_
      rintro e w1 ⟨rfl, hb1⟩
      have hb2 := hbel.trans (hb1.mono hsz)
      cases r with
      | true =>
        go_wp2
        go_ret
        refine ⟨⟨j, rfl, by omega, by omega, fun _ => ?_⟩, hb2⟩
        have := HR.out.1 (by first | rfl | trivial)
        subst this
        exact HS2.out
      | false =>
        go_wp2
        go_roundw
        case rel => exact ⟨j + 1, by omega, by go_num, hb2⟩
        case measure => simp [intOf]; omega
    · go_wp2
      go_ret
      exact ⟨⟨-1, rfl, by omega, by omega, fun h => by omega⟩, hbel⟩

set_option maxHeartbeats 1000000 in
theorem lin_ContainsSame (w : World) (A : Option Addr) (n c : Nat) (k : Int) (v : Value) (has : List Int) (xs : List Value) (S : List Int → Prop) (h : Rd w w.heap.size 1 A n xs) (hv : StV w k v has) (hx : ∀ x ∈ xs, ∃ s, StV w k x s ∧ S s) (hn : n ≤ 1000000000000) :
    Calls Try.prog 32 #[.slice A n c, .func (.method "barograph/lin.same") #[v] #[]] w fun e w' => (∃ r : Bool, e = .returned (.bool r) ∧ (r = true → S has)) ∧ Below w.heap.size w w' := by
  have HC := Lib.hid (lin_IndexSame w A n c k v has xs S h hv hx hn)
  clear h hv hx
  go_enter Try.func32, Try.ntmps32
  go_wp2_with fail
  refine HC.out.mono ?_
  rintro e w1 ⟨⟨i, rfl, h1, h2, h3⟩, hb1⟩
  have H3 := Lib.hid h3
  clear h3
  go_wp2
  go_ret
  exact ⟨⟨_, rfl, fun hh => H3.out (by simpa using hh)⟩, hb1⟩
end Go.Proofs.Ytdoniefhmmodbaa
