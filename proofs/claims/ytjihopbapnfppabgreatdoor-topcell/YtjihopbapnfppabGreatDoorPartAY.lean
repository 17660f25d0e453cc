/- Of this claim's own texts these, one behind the other: LinSt3, LinMap, LinSet, LinLim. No statement of the seat is proved here; no condition but those that stand at the theorems. -/
import Derived.Test.YtjihopbapnfppabGreatDoorPartAX
import Derived.Test.YtjihopbapnfppabGreatDoorPartAW
set_option linter.unusedSimpArgs false
set_option linter.unusedVariables false
namespace Go.Proofs.YtjihopbapnfppabGreatDoor
open Go.RowKit Go.Ord Go.Baro

/-- The state v of an object of kind k has these numbers. -/
def StV (w : World) (k : Int) (v : Value) (has : List Int) : Prop :=
  (k = 1 ∧ ∃ x, v = .iface 112 (.int .i64 x) ∧ has = [x] ∧ inW x) ∨ (k = 2 ∧ ∃ x, v = .iface 113 (.int .i64 x) ∧ has = [x] ∧ inW x) ∨
  (k = 3 ∧ ∃ A n c, v = .iface 114 (.slice A n c) ∧ n ≤ c ∧ n ≤ 20 ∧ (A = none → c = 0) ∧ QR w A n has) ∨ (k = 4 ∧ ∃ A n c, v = .iface 115 (.slice A n c) ∧ n ≤ c ∧ n ≤ 20 ∧ (A = none → c = 0) ∧ QR w A n has)
theorem StV.kp {w w' : World} {k : Int} {v : Value} {has : List Int} (h : StV w k v has) (hk : Kp w w') : StV w' k v has := by
  rcases h with h | h | ⟨h0, A, n, c, h1, h2, h3, h4, h5⟩ | ⟨h0, A, n, c, h1, h2, h3, h4, h5⟩
  · exact .inl h
  · exact .inr (.inl h)
  · exact .inr (.inr (.inl ⟨h0, A, n, c, h1, h2, h3, h4, h5.kp hk⟩))
  · exact .inr (.inr (.inr ⟨h0, A, n, c, h1, h2, h3, h4, h5.kp hk⟩))
theorem StV.one {w : World} {k : Int} {v : Value} {has : List Int} (h : StV w k v has) : v.oneCell' = true := by
  rcases h with ⟨_, x, rfl, _⟩ | ⟨_, x, rfl, _⟩ | ⟨_, A, n, c, rfl, _⟩ | ⟨_, A, n, c, rfl, _⟩ <;> rfl
/-- The method of this name of a value of type T is the function F. -/
def Meth (name : String) (T : TypeId) (u : Value) (F : FuncId) : Prop := (∀ (n : Nat) (w : World), (method (n + 1) T u name).run Tryz.prog w = .ok (F, u) w) ∧ ∀ (args : Array Value) (w : World), (callFunc F args).run Tryz.prog w = .ok (.enter F args) w
theorem st_digest {w : World} {k : Int} {v : Value} {has : List Int} (h : StV w k v has) : ∃ T u F, v = .iface T u ∧ Meth "barograph/lin.digest" T u F ∧ Calls Tryz.prog F #[u] w fun e w' => (∃ g, e = .returned (.int .u64 g)) ∧ Below w.heap.size w w' := by
  rcases h with ⟨_, x, rfl, _⟩ | ⟨_, x, rfl, _⟩ | ⟨_, A, n, c, rfl, h2, h3, h4, h5⟩ | ⟨_, A, n, c, rfl, h2, h3, h4, h5⟩
  · exact ⟨_, _, 104, rfl, ⟨fun n w => by kernel_rfl, fun n w => by kernel_rfl⟩, reg_digest w x⟩
  · exact ⟨_, _, 107, rfl, ⟨fun n w => by kernel_rfl, fun n w => by kernel_rfl⟩, cnt_digest w x⟩
  · exact ⟨_, _, 110, rfl, ⟨fun n w => by kernel_rfl, fun n w => by kernel_rfl⟩, q_digest w A n c has h5 h3⟩
  · exact ⟨_, _, 116, rfl, ⟨fun n w => by kernel_rfl, fun n w => by kernel_rfl⟩, s_digest w A n c has h5 h3⟩
theorem st_same {w : World} {k : Int} {v : Value} {has : List Int} (h : StV w k v has) : ∃ T u F, v = .iface T u ∧ Meth "barograph/lin.same" T u F ∧
    ∀ w' v' ys r, StV w' k v has → StV w' k v' ys → (r = true ↔ ys = has) → Calls Tryz.prog F #[u, v'] w' fun e w'' => e = .returned (.bool r) ∧ Below w'.heap.size w' w'' := by
  rcases h with ⟨h0, x, rfl, hx, hx2⟩ | ⟨h0, x, rfl, hx, hx2⟩ | ⟨h0, A, n, c, rfl, h2, h3, h4, h5⟩ | ⟨h0, A, n, c, rfl, h2, h3, h4, h5⟩
  · subst h0 hx
    refine ⟨_, _, 106, rfl, ⟨fun n w => by kernel_rfl, fun n w => by kernel_rfl⟩, fun w' v' ys r h1 h2 hr => ?_⟩
    rcases h2 with ⟨_, y, rfl, hy, _⟩ | ⟨h0, _⟩ | ⟨h0, _⟩ | ⟨h0, _⟩
    · subst hy
      exact reg_same w' x y r (by rw [hr]; simp)
    all_goals omega
  · subst h0 hx
    refine ⟨_, _, 109, rfl, ⟨fun n w => by kernel_rfl, fun n w => by kernel_rfl⟩, fun w' v' ys r h1 h2 hr => ?_⟩
    rcases h2 with ⟨h0, _⟩ | ⟨_, y, rfl, hy, _⟩ | ⟨h0, _⟩ | ⟨h0, _⟩
    · omega
    · subst hy
      exact cnt_same w' x y r (by rw [hr]; simp)
    all_goals omega
  · subst h0
    refine ⟨_, _, 112, rfl, ⟨fun n w => by kernel_rfl, fun n w => by kernel_rfl⟩, fun w' v' ys r h1 h2 hr => ?_⟩
    have h5' : QR w' A n has := by
      rcases h1 with ⟨h0, _⟩ | ⟨h0, _⟩ | ⟨_, A', n', c', he, _, _, _, hq⟩ | ⟨h0, _⟩
      · omega
      · omega
      · simp only [Value.iface.injEq, Value.slice.injEq, true_and] at he
        obtain ⟨rfl, rfl, rfl⟩ := he
        exact hq
      · omega
    rcases h2 with ⟨h0, _⟩ | ⟨h0, _⟩ | ⟨_, A', n', c', rfl, _, g3, _, g5⟩ | ⟨h0, _⟩
    · omega
    · omega
    · exact q_same w' A A' n c n' c' has ys r h5' g5 h3 g3 hr
    · omega
  · subst h0
    refine ⟨_, _, 118, rfl, ⟨fun n w => by kernel_rfl, fun n w => by kernel_rfl⟩, fun w' v' ys r h1 h2 hr => ?_⟩
    have h5' : QR w' A n has := by
      rcases h1 with ⟨h0, _⟩ | ⟨h0, _⟩ | ⟨h0, _⟩ | ⟨_, A', n', c', he, _, _, _, hq⟩
      · omega
      · omega
      · omega
      · simp only [Value.iface.injEq, Value.slice.injEq, true_and] at he
        obtain ⟨rfl, rfl, rfl⟩ := he
        exact hq
    rcases h2 with ⟨h0, _⟩ | ⟨h0, _⟩ | ⟨h0, _⟩ | ⟨_, A', n', c', rfl, _, g3, _, g5⟩
    · omega
    · omega
    · omega
    · exact s_same w' A A' n c n' c' has ys r h5' g5 h3 g3 hr
/-- What next leaves. -/
def StPost (k : Int) (v : Int) (nx : List Int) (w : World) (e : Ending) (w' : World) : Prop := (∃ v', e = .returned (.tuple #[v', .int .i64 v]) ∧ StV w' k v' nx) ∧ Below w.heap.size w w'
theorem st_next {w : World} {k : Int} {v : Value} {has : List Int} {a : Ac} (h : StV w k v has) (ha : okA k a) (hi : inA a) (hl : has.length ≤ 15) : ∃ T u F, v = .iface T u ∧ Meth "barograph/lin.next" T u F ∧ Calls Tryz.prog F #[u, acA a] w (StPost k (tel k has a).1 (tel k has a).2 w) := by
  rcases h with ⟨h0, x, rfl, hx, hx2⟩ | ⟨h0, x, rfl, hx, hx2⟩ | ⟨h0, A, n, c, rfl, h2, h3, h4, h5⟩ | ⟨h0, A, n, c, rfl, h2, h3, h4, h5⟩
  · subst h0 hx
    refine ⟨_, _, 105, rfl, ⟨fun n w => by kernel_rfl, fun n w => by kernel_rfl⟩, (reg_next w x a).mono ?_⟩
    rintro e w' ⟨rfl, hb⟩
    unfold tel
    rw [if_pos rfl]
    by_cases hp : a.put = true
    · rw [if_pos hp, if_pos hp]
      exact ⟨⟨_, rfl, .inl ⟨rfl, _, rfl, rfl, hi.2.2.1⟩⟩, hb⟩
    · rw [if_neg hp, if_neg hp]
      exact ⟨⟨_, rfl, .inl ⟨rfl, _, rfl, rfl, hx2⟩⟩, hb⟩
  · subst h0 hx
    refine ⟨_, _, 108, rfl, ⟨fun n w => by kernel_rfl, fun n w => by kernel_rfl⟩, (cnt_next w x a hx2 (fun hp => ?_)).mono ?_⟩
    · rcases ha.2.2.2.1 with h | h
      · exact h
      · rw [hp] at h; exact absurd h.2 (by simp)
    · rintro e w' ⟨rfl, hb⟩
      unfold tel
      rw [if_neg (by decide), if_pos rfl]
      exact ⟨⟨_, rfl, .inr (.inl ⟨rfl, _, rfl, rfl, inW_wrap _⟩)⟩, hb⟩
  · subst h0
    have hn : n ≤ 15 := by rw [← h5.1]; exact hl
    refine ⟨_, _, 111, rfl, ⟨fun n w => by kernel_rfl, fun n w => by kernel_rfl⟩, (q_next w A n c has a h5 (by omega) h2 h4).mono ?_⟩
    rintro e w' ⟨⟨A', n', c', rfl, g1, g2, g3⟩, hb⟩
    have hn' : n' ≤ 20 := by
      have h1 := (tel_len 3 has a).1
      rw [g3.1, h5.1] at h1
      omega
    exact ⟨⟨_, rfl, .inr (.inr (.inl ⟨rfl, A', n', c', rfl, g1, hn', g2, g3⟩))⟩, hb⟩
  · subst h0
    have hn : n ≤ 15 := by rw [← h5.1]; exact hl
    refine ⟨_, _, 117, rfl, ⟨fun n w => by kernel_rfl, fun n w => by kernel_rfl⟩, (s_next w A n c has a h5 (by omega) h2 h4).mono ?_⟩
    rintro e w' ⟨⟨A', n', c', rfl, g1, g2, g3⟩, hb⟩
    have hn' : n' ≤ 20 := by
      have h1 := (tel_len 4 has a).1
      rw [g3.1, h5.1] at h1
      omega
    exact ⟨⟨_, rfl, .inr (.inr (.inr ⟨rfl, A', n', c', rfl, g1, hn', g2, g3⟩))⟩, hb⟩

set_option maxHeartbeats 2000000 in
/-- slices.IndexFunc over visited states. -/
theorem lin_IndexSame (w : World) (A : Option Addr) (n c : Nat) (k : Int) (v : Value) (has : List Int) (xs : List Value) (S : List Int → Prop) (h : Rd w w.heap.size 1 A n xs) (hv : StV w k v has) (hx : ∀ x ∈ xs, ∃ s, StV w k x s ∧ S s) (hn : n ≤ 1000000000000) :
    Calls Tryz.prog 71 #[.slice A n c, .func (.method "barograph/lin.same") #[v] #[]] w fun e w' => (∃ i : Int, e = .returned (.int .i64 i) ∧ -1 ≤ i ∧ i ≤ 1000000000000 ∧ (0 ≤ i → S has)) ∧ Below w.heap.size w w' := by
  obtain ⟨T, u, F, rfl, hm, hsame⟩ := st_same hv
  have h0 := Below.refl w.heap.size w
  have HS := Lib.hid hsame
  have HV := Lib.hid hv
  have HX := Lib.hid hx
  have HL := Lib.hid h.len
  clear hsame hv hx
  go_enter Tryz.func71, Tryz.ntmps71
  go_wp2
  go_loopw [8] (fun i wr => ∃ j : Nat, j ≤ n ∧ i = .int .i64 j ∧ Below w.heap.size w wr) (fun i _ => n - (intOf i).toNat)
  case atStart => exact ⟨0, Nat.zero_le _, rfl, h0⟩
  case round =>
    obtain ⟨j, hj, rfl, hbel⟩ := hrel
    have hsz := hbel.size
    have hkp := Kp.below hbel
    by_cases hjm : j < n
    · obtain ⟨b, o, rfl, hb, hcs⟩ := (h.below hbel).at_ (by omega)
      have hjl : j < xs.length := by rw [HL.out]; omega
      have hcell := hcs j (by omega)
      rw [List.getElem?_eq_getElem hjl] at hcell
      obtain ⟨s, hs1, hs2⟩ := HX.out xs[j] (List.getElem_mem hjl)
      obtain ⟨y, hy⟩ : ∃ y, xs[j] = y := ⟨_, rfl⟩
      rw [hy] at hcell hs1
      obtain ⟨r, hr⟩ := bool_of (s = has)
      have HR := Lib.hid hr
      have HS1 := Lib.hid (hs1.kp hkp)
      have HS2 := Lib.hid hs2
      have hm1 := hm.1 283 wr
      have hm2 := hm.2 #[u, y] wr
      have hy1 := hs1.one
      clear hr hs1 hs2 hy hcs hjl
      go_wp2_with fail
      refine (HS.out wr y s r (HV.out.kp hkp) HS1.out HR.out).mono ?_
      rintro e w1 ⟨rfl, hb1⟩
      have hb2 := hbel.trans (hb1.mono hsz)
      cases r with
      | true =>
        go_wp2
        go_ret
        refine ⟨⟨j, rfl, by omega, by omega, fun _ => ?_⟩, hb2⟩
        have := HR.out.1 (by first | rfl | trivial)
        subst this
        exact HS2.out
      | false =>
        go_wp2
        go_roundw
        case rel => exact ⟨j + 1, by omega, by go_num, hb2⟩
        case measure => simp [intOf]; omega
    · go_wp2
      go_ret
      exact ⟨⟨-1, rfl, by omega, by omega, fun h => by omega⟩, hbel⟩

set_option maxHeartbeats 1000000 in
theorem lin_ContainsSame (w : World) (A : Option Addr) (n c : Nat) (k : Int) (v : Value) (has : List Int) (xs : List Value) (S : List Int → Prop) (h : Rd w w.heap.size 1 A n xs) (hv : StV w k v has) (hx : ∀ x ∈ xs, ∃ s, StV w k x s ∧ S s) (hn : n ≤ 1000000000000) :
    Calls Tryz.prog 63 #[.slice A n c, .func (.method "barograph/lin.same") #[v] #[]] w fun e w' => (∃ r : Bool, e = .returned (.bool r) ∧ (r = true → S has)) ∧ Below w.heap.size w w' := by
  have HC := Lib.hid (lin_IndexSame w A n c k v has xs S h hv hx hn)
  clear h hv hx
  go_enter Tryz.func63, Tryz.ntmps63
  go_wp2_with fail
  refine HC.out.mono ?_
  rintro e w1 ⟨⟨i, rfl, h1, h2, h3⟩, hb1⟩
  have H3 := Lib.hid h3
  clear h3
  go_wp2
  go_ret
  exact ⟨⟨_, rfl, fun hh => H3.out (by simpa using hh)⟩, hb1⟩
end Go.Proofs.YtjihopbapnfppabGreatDoor

set_option linter.unusedSimpArgs false
set_option linter.unusedVariables false
namespace Go.Proofs.YtjihopbapnfppabGreatDoor
open Go.RowKit Go.Ord Go.Baro Go.MapKept

theorem key_asking (d g : Int) (w : World) : ∀ (es : List MapEntry) (i : Nat), (∀ e ∈ es, ∃ d' g', e.key = KV d' g') →
    (Instr.findAsking 127 (KV d g) es i).run Tryz.prog w = .ok none w ∨ ∃ j e, (Instr.findAsking 127 (KV d g) es i).run Tryz.prog w = .ok (some (i + j, e.val)) w ∧ es[j]? = some e ∧ e.key = KV d g
  | [], i, _ => .inl rfl
  | e :: es, i, h => by
    obtain ⟨d', g', hk⟩ := h e (by simp)
    have he := key_eq d g d' g' w
    rw [← hk] at he
    by_cases hdg : d = d' ∧ g = g'
    · obtain ⟨rfl, rfl⟩ := hdg
      refine .inr ⟨0, e, ?_, rfl, hk⟩
      simp [Instr.findAsking, Sem.run_bind, he, Result.andThen]
    · have hf : (d == d' && g == g') = false := by
        rw [Bool.and_eq_false_iff]
        by_cases h1 : d = d'
        · exact .inr (by simpa using fun h2 => hdg ⟨h1, h2⟩)
        · exact .inl (by simpa using h1)
      rw [hf] at he
      have hrun : (Instr.findAsking 127 (KV d g) (e :: es) i).run Tryz.prog w = (Instr.findAsking 127 (KV d g) es (i + 1)).run Tryz.prog w := by
        simp [Instr.findAsking, Sem.run_bind, he, Result.andThen]
      rw [hrun]
      rcases key_asking d g w es (i + 1) (fun e he => h e (by simp [he])) with h1 | ⟨j, e', h1, h2, h3⟩
      · exact .inl h1
      · exact .inr ⟨j + 1, e', by rw [h1, show i + 1 + j = i + (j + 1) by omega], by simpa using h2, h3⟩
theorem key_find (d g : Int) (w : World) (es : List MapEntry) (h : ∀ e ∈ es, ∃ d' g', e.key = KV d' g') :
    (Instr.findKey 127 (KV d g) es).run Tryz.prog w = .ok none w ∨ ∃ j e, (Instr.findKey 127 (KV d g) es).run Tryz.prog w = .ok (some (j, e.val)) w ∧ es[j]? = some e ∧ e.key = KV d g := by
  have hu : ∃ fs, Tryz.prog.underlying 127 = some (.struct fs) := ⟨_, Tryz.underlying127⟩
  obtain ⟨fs, hu⟩ := hu
  cases es with
  | nil =>
    left
    simp [Instr.findKey, Sem.run_bind, run_underlying hu, Instr.findNow, Result.andThen]
  | cons e es =>
    have hn : Instr.findNow (.struct fs) (KV d g) (e :: es) 0 = none := by simp [Instr.findNow, Instr.sameNow]
    have hrun : (Instr.findKey 127 (KV d g) (e :: es)).run Tryz.prog w = (Instr.findAsking 127 (KV d g) (e :: es) 0).run Tryz.prog w := by
      simp only [Instr.findKey, Sem.run_bind, run_underlying hu, Result.andThen_ok, hn]
    rw [hrun]
    rcases key_asking d g w (e :: es) 0 h with h1 | ⟨j, e', h1, h2, h3⟩
    · exact .inl h1
    · exact .inr ⟨j, e', by rw [h1, Nat.zero_add], h2, h3⟩
theorem key_stays (d g : Int) (w : World) : (Instr.keyThatStays (KV d g) (KV d g)).run Tryz.prog w = .ok (KV d g) w := by
  have : Instr.sameBits 10000 (KV d g) (KV d g) = true := by simp [KV, Instr.sameBits]
  simp [Instr.keyThatStays, this]
/-- The entries of the map: the states of each are in M; no two have a block in common. -/
def Ents (w : World) (B N : Nat) (k : Int) (M : Nat → List Int → Prop) (es : Array MapEntry) (tag : Nat → Nat) : Prop :=
  ∀ (i : Nat) (e : MapEntry), es[i]? = some e → e.born = i ∧ ∃ (d : Nat) (g : Int) (n : Nat) (xs : List Value), e.key = KV d g ∧ w.ownsRow B 74 1 e.val n xs ∧ n ≤ N ∧ (∀ x ∈ xs, ∃ s, StV w k x s ∧ M d s) ∧ ∀ b, e.val.ownBlock = some b → tag b = i
/-- The visited states in block mb. -/
def VM (w : World) (B mb N : Nat) (k : Int) (M : Nat → List Int → Prop) : Prop := B ≤ mb ∧ ∃ es tag, w.heap[mb]? = some (.map es es.size) ∧ Ents w B N k M es tag
section
variable {w w' : World} {B mb N : Nat} {k : Int} {M : Nat → List Int → Prop} {es : Array MapEntry} {tag : Nat → Nat}
theorem VM.lt (h : VM w B mb N k M) : mb < w.heap.size := by obtain ⟨_, es, tag, h1, _⟩ := h; exact heap_lt h1
theorem Ents.below (h : Ents w B N k M es tag) (hb : Below w.heap.size w w') : Ents w' B N k M es tag := by
  intro i e he
  obtain ⟨h1, d, g, n, xs, h2, h3, h4, h5, h6⟩ := h i e he
  exact ⟨h1, d, g, n, xs, h2, own_below h3 hb, h4, fun x hx => by obtain ⟨s, hs, hm⟩ := h5 x hx; exact ⟨s, hs.kp (Kp.below hb), hm⟩, h6⟩
theorem VM.below (h : VM w B mb N k M) (hb : Below w.heap.size w w') : VM w' B mb N k M := by
  obtain ⟨h0, es, tag, h1, h2⟩ := h
  exact ⟨h0, es, tag, (hb.block mb (heap_lt h1)).trans h1, h2.below hb⟩
theorem VM.mono (h : VM w B mb N k M) {N' : Nat} {M' : Nat → List Int → Prop} (hN : N ≤ N') (hM : ∀ d s, M d s → M' d s) : VM w B mb N' k M' := by
  obtain ⟨h0, es, tag, h1, h2⟩ := h
  refine ⟨h0, es, tag, h1, fun i e he => ?_⟩
  obtain ⟨h1, d, g, n, xs, h2, h3, h4, h5, h6⟩ := h2 i e he
  exact ⟨h1, d, g, n, xs, h2, h3, by omega, fun x hx => by obtain ⟨s, hs, hm⟩ := h5 x hx; exact ⟨s, hs, hM d s hm⟩, h6⟩
theorem VM.made (w : World) {B : Nat} (hB : B ≤ w.heap.size) (k : Int) (M : Nat → List Int → Prop) : VM (w.alloc (.map #[] 0)) B w.heap.size 0 k M := ⟨hB, #[], fun _ => 0, heap_alloc_new w _, fun i e he => by simp at he⟩
theorem Ents.keys (h : Ents w B N k M es tag) : ∀ e ∈ es.toList, ∃ d' g', e.key = KV d' g' := by
  intro e he
  obtain ⟨i, hi⟩ := List.mem_iff_getElem?.1 he
  obtain ⟨_, d, g, _, _, hk, _⟩ := h i e (by simpa using hi)
  exact ⟨d, g, hk⟩
theorem zeroStates (w : World) : (zeroValue 129).run Tryz.prog w = .ok (.slice none 0 0) w := by kernel_rfl
/-- What is looked for. -/
theorem VM.look (h : VM w B mb N k M) (d : Nat) (g : Int) : ∃ v n xs, (Instr.lookup 67 (.map (some mb)) (KV d g) false).run Tryz.prog w = .ok v w ∧ w.ownsRow B 74 1 v n xs ∧ n ≤ N ∧ ∀ x ∈ xs, ∃ s, StV w k x s ∧ M d s := by
  obtain ⟨h0, es, tag, h1, h2⟩ := h
  rcases key_find d g w es.toList h2.keys with hf | ⟨j, e, hf, hj, hk⟩
  · refine ⟨.slice none 0 0, 0, [], ?_, World.ownsRow_nil _ _ _ _, Nat.zero_le _, by simp⟩
    simp [Instr.lookup, run_underlying Tryz.underlying67, MapKept.run_getObj_map h1, key_check, hf, zeroStates, Result.andThen]
  · obtain ⟨_, d', g', n, xs, hk2, h3, h4, h5, _⟩ := h2 j e (by simpa using hj)
    rw [hk] at hk2
    have hd : (d : Int) = d' := by simp [KV] at hk2; exact_mod_cast hk2.1
    obtain rfl : d = d' := by omega
    refine ⟨e.val, n, xs, ?_, h3, h4, h5⟩
    simp [Instr.lookup, run_underlying Tryz.underlying67, MapKept.run_getObj_map h1, key_check, hf, Result.andThen]
theorem modify_same {es : Array MapEntry} {i : Nat} {f : MapEntry → MapEntry} (h : ∀ e, es[i]? = some e → f e = e) : es.modify i f = es := by
  apply Array.ext_getElem?
  intro j
  rw [Array.getElem?_modify]
  by_cases hij : i = j
  · subst hij
    rw [if_pos rfl]
    cases he : es[i]? with
    | none => rfl
    | some e => simp [h e he]
  · rw [if_neg hij]
/-- The heap with another object. -/
def stM (w : World) (b : Nat) (o : Obj) : World := { w with heap := w.heap.setIfInBounds b o }
theorem stM_grown (w : World) (b : Nat) (o : Obj) : w.grownBy (stM w b o) (some b) :=
  ⟨rfl, rfl, rfl, by simp [stM], fun k hk hne => by
    show (w.heap.setIfInBounds b o)[k]? = _
    rw [Array.getElem?_setIfInBounds_ne (fun e => hne (by rw [e]))]⟩
theorem stM_at {w : World} {b : Nat} {o o' : Obj} (h : w.heap[b]? = some o') : (stM w b o).heap[b]? = some o := by
  show (w.heap.setIfInBounds b o)[b]? = _
  rw [Array.getElem?_setIfInBounds_self_of_lt (heap_lt h)]
/-- What is done to the map leaves the rows and the states. -/
theorem map_ne {w : World} {b : Nat} {es : Array MapEntry} {c : Nat} (h : w.heap[b]? = some (.map es c)) {B n s : Nat} {e : TypeId} {v : Value} {xs : List Value} (ho : w.ownsRow B e s v n xs) : v.ownBlock = none ∨ v.ownBlock ≠ some b := by
  rcases ho.2 with ⟨rfl, _⟩ | ⟨g, cap, cur, rfl, _, hg, _⟩
  · exact .inl rfl
  · refine .inr fun he => ?_
    simp only [Value.ownBlock, Option.some.injEq] at he
    subst he
    rw [h] at hg
    cases hg
theorem map_kp {w w' : World} {b : Nat} {es : Array MapEntry} {c : Nat} (h : w.heap[b]? = some (.map es c)) (hg : w.grownBy w' (some b)) : Kp w w' :=
  Kp.grown hg fun b' cs t fr he hh => by injection he with he; subst he; rw [h] at hh; cases hh
theorem Ents.map {c : Nat} (h : Ents w B N k M es tag) (hh : w.heap[mb]? = some (.map es c)) (hg : w.grownBy w' (some mb)) : Ents w' B N k M es tag := by
  intro i e he
  obtain ⟨h1, d, g, n, xs, h2, h3, h4, h5, h6⟩ := h i e he
  exact ⟨h1, d, g, n, xs, h2, h3.kept hg (map_ne hh h3), h4, fun x hx => by obtain ⟨s, hs, hm⟩ := h5 x hx; exact ⟨s, hs.kp (map_kp hh hg), hm⟩, h6⟩
set_option maxRecDepth 100000 in
/-- The entry of a place, made if there is none. -/
theorem VM.entry (h : VM w B mb N k M) (d : Nat) (g : Int) : ∃ w1 es tag i e, (Instr.mapEntry 67 (.map (some mb)) (KV d g)).run Tryz.prog w = .ok (.tuple #[e.val, .int .i64 (i : Nat)]) w1 ∧ w.grownBy w1 (some mb) ∧ Kp w w1 ∧
    w1.heap[mb]? = some (.map es es.size) ∧ Ents w1 B N k M es tag ∧ es[i]? = some e ∧ e.key = KV d g := by
  obtain ⟨h0, es, tag, h1, h2⟩ := h
  rcases key_find d g w es.toList h2.keys with hf | ⟨j, e, hf, hj, hk⟩
  · have hg := stM_grown w mb (.map (es.push { key := KV d g, val := .slice none 0 0, born := es.size }) (es.size + 1))
    refine ⟨stM w mb (.map (es.push { key := KV d g, val := .slice none 0 0, born := es.size }) (es.size + 1)), es.push { key := KV d g, val := .slice none 0 0, born := es.size }, tag, es.size, { key := KV d g, val := .slice none 0 0, born := es.size }, ?_, hg, map_kp h1 hg, ?_, ?_, ?_, rfl⟩
    · simp [Instr.mapEntry, run_underlying Tryz.underlying67, MapKept.run_getObj_map h1, key_check, hf, zeroStates, MapKept.run_setObj_map _ h1, Result.andThen, goInt, stM]
    · rw [stM_at h1, Array.size_push]
    · intro i e he
      rw [Array.getElem?_push] at he
      by_cases hi : i = es.size
      · rw [if_pos hi] at he
        injection he with he
        subst he hi
        exact ⟨rfl, d, g, 0, [], rfl, World.ownsRow_nil _ _ _ _, Nat.zero_le _, by simp, fun b hb => by simp [Value.ownBlock] at hb⟩
      · rw [if_neg hi] at he
        exact h2.map h1 hg i e he
    · simp
  · have hje : es[j]? = some e := by simpa using hj
    have hm : es.modify j (fun e => { e with key := KV d g }) = es := modify_same fun e' he' => by
      rw [hje] at he'
      injection he' with he'
      subst he'
      rw [← hk]
    have hg := stM_grown w mb (.map es es.size)
    refine ⟨stM w mb (.map es es.size), es, tag, j, e, ?_, hg, map_kp h1 hg, stM_at h1, h2.map h1 hg, hje, hk⟩
    have hborn := (h2 j e hje).1
    simp [Instr.mapEntry, run_underlying Tryz.underlying67, MapKept.run_getObj_map h1, key_check, hf, hje, hk, key_stays, hm, MapKept.run_setObj_map _ h1, Result.andThen, goInt, stM, hborn]
/-- The row of the entry is another then. -/
theorem Ents.store {w1 w2 : World} (hB : B ≤ mb) {i : Nat} {e : MapEntry} {d : Nat} {g : Int} {n : Nat} {xs : List Value} {x v' : Value} {has : List Int} (h : Ents w1 B N k M es tag) (h1 : w1.heap[mb]? = some (.map es es.size)) (hi : es[i]? = some e) (hk : e.key = KV d g)
    (ho : w1.ownsRow B 74 1 e.val n xs) (hn : n ≤ N) (hx : ∀ x ∈ xs, ∃ s, StV w1 k x s ∧ M d s) (hg : w1.grownBy w2 e.val.ownBlock) (ho2 : w2.ownsRow B 74 1 v' (n + 1) (xs ++ [x])) (hv : v'.ownBlock = e.val.ownBlock ∨ v'.ownBlock = some w1.heap.size) (hs : StV w2 k x has) :
    ∃ w3, (Instr.entryStore 67 (.map (some mb)) (.int .i64 (i : Nat)) v').run Tryz.prog w2 = .ok () w3 ∧ w2.grownBy w3 (some mb) ∧ Kp w1 w3 ∧ VM w3 B mb (N + 1) k (fun d' s => M d' s ∨ (d' = d ∧ s = has)) := by
  have h2 : w2.heap[mb]? = some (.map es es.size) := by
    rw [hg.block mb (heap_lt h1) (fun he => ?_)]
    · exact h1
    · rcases map_ne h1 ho with h | h
      · rw [h] at he; cases he
      · exact h he.symm
  have hk12 : Kp w1 w2 := Kp.grown hg fun b cs t fr he hh => by
    rcases ho.2 with ⟨hv, _⟩ | ⟨g', cap, cur, hv, _, hg', _⟩
    · rw [hv] at he; simp [Value.ownBlock] at he
    · rw [hv] at he
      simp only [Value.ownBlock, Option.some.injEq] at he
      subst he
      rw [hg'] at hh
      injection hh with hh
      injection hh with _ hh
      exact hh.symm
  have hg3 := stM_grown w2 mb (.map (es.modify i fun e => { e with val := v' }) es.size)
  have hfind : es.findIdx? (fun e => ((e.born : Int) == (i : Int))) = some i := by
    rw [Array.findIdx?_eq_some_iff_getElem]
    have hlt : i < es.size := (Array.getElem?_eq_some_iff.1 hi).1
    refine ⟨hlt, ?_, fun j hj => ?_⟩
    · have := (h i es[i] (Array.getElem?_eq_getElem hlt)).1
      simp [this]
    · have := (h j es[j] (Array.getElem?_eq_getElem (by omega))).1
      simp [this]; omega
  refine ⟨stM w2 mb (.map (es.modify i fun e => { e with val := v' }) es.size), ?_, hg3, hk12.trans (map_kp h2 hg3), hB, es.modify i (fun e => { e with val := v' }), fun b => if v'.ownBlock = some b then i else tag b, ?_, ?_⟩
  · simp [Instr.entryStore, MapKept.run_getObj_map h2, asInt, asIntOf, hfind, MapKept.run_setObj_map _ h2, Result.andThen, stM]
  · rw [stM_at h2, Array.size_modify]
  · intro j e' he'
    rw [Array.getElem?_modify] at he'
    by_cases hij : i = j
    · subst hij
      rw [if_pos rfl, hi] at he'
      simp only [Option.map_some, Option.some.injEq] at he'
      subst he'
      refine ⟨(h i e hi).1, d, g, n + 1, xs ++ [x], hk, ho2.kept hg3 (map_ne h2 ho2), by omega, fun y hy => ?_, fun b hb => if_pos hb⟩
      rcases List.mem_append.1 hy with hy | hy
      · obtain ⟨s, hs, hm⟩ := hx y hy
        exact ⟨s, (hs.kp hk12).kp (map_kp h2 hg3), .inl hm⟩
      · rw [List.mem_singleton.1 hy]
        exact ⟨has, hs.kp (map_kp h2 hg3), .inr ⟨rfl, rfl⟩⟩
    · rw [if_neg hij] at he'
      obtain ⟨q1, d', g', n', xs', q2, q3, q4, q5, q6⟩ := h j e' he'
      have hne : e'.val.ownBlock = none ∨ e'.val.ownBlock ≠ e.val.ownBlock := by
        cases hb : e'.val.ownBlock with
        | none => exact .inl rfl
        | some b =>
          refine .inr fun he => hij ?_
          obtain ⟨_, _, _, _, _, _, _, _, _, q6'⟩ := h i e hi
          rw [← q6 b hb, ← q6' b he.symm]
      have q3' := q3.kept hg hne
      refine ⟨q1, d', g', n', xs', q2, q3'.kept hg3 (map_ne h2 q3'), by omega, fun y hy => ?_, fun b hb => ?_⟩
      · obtain ⟨s, hs, hm⟩ := q5 y hy
        exact ⟨s, (hs.kp hk12).kp (map_kp h2 hg3), .inl hm⟩
      · refine (if_neg ?_).trans (q6 b hb)
        · intro hv'
          rcases hv with hv | hv
          · rcases hne with hne | hne
            · rw [hb] at hne; cases hne
            · exact hne (by rw [hb, ← hv, hv'])
          · rw [hv'] at hv
            injection hv with hv
            have := (q3.lt b hb).2
            omega
end
end Go.Proofs.YtjihopbapnfppabGreatDoor

set_option linter.unusedSimpArgs false
set_option linter.unusedVariables false
namespace Go.Proofs.YtjihopbapnfppabGreatDoor
open Go.RowKit Go.Ord Go.Baro

theorem nat64 (a : Nat) (h : a < 18446744073709551616) : (BitVec.ofInt 64 (a : Int)).toNat = a := by
  rw [BitVec.ofInt_natCast, BitVec.toNat_ofNat]; exact Nat.mod_eq_of_lt (by omega)
theorem wrap64u (a : Nat) (h : a < 18446744073709551616) : IntKind.u64.wrap (a : Int) = a := by
  simp [IntKind.wrap, IntKind.bits, IntKind.signed]
  omega
theorem or_u64 (a b : Nat) (ha : a < 512) (hb : b < 512) : bits .or .u64 (a : Int) (b : Int) = ((a ||| b : Nat) : Int) := by
  have hx : a ||| b < 2 ^ 9 := Nat.or_lt_two_pow (by omega) (by omega)
  show IntKind.u64.wrap ((BitVec.ofInt 64 (a : Int) ||| BitVec.ofInt 64 (b : Int)).toNat : Int) = _
  rw [BitVec.toNat_or, nat64 a (by omega), nat64 b (by omega)]
  exact wrap64u _ (by omega)
theorem and_u64 (a : Nat) (ha : a < 512) : bits .and .u64 (a : Int) 1 = ((a % 2 : Nat) : Int) := by
  show IntKind.u64.wrap ((BitVec.ofInt 64 (a : Int) &&& BitVec.ofInt 64 ((1 : Nat) : Int)).toNat : Int) = _
  rw [BitVec.toNat_and, nat64 a (by omega), nat64 1 (by omega), Nat.and_one_is_mod]
  exact wrap64u _ (by omega)
theorem pow_cast (i : Nat) : (2 : Int) ^ i = ((2 ^ i : Nat) : Int) := by simp
theorem pow9 {i : Nat} (hi : i < 9) : 2 ^ i < 512 := by
  have : 2 ^ i ≤ 2 ^ 8 := Nat.pow_le_pow_right (by omega) (by omega)
  omega
set_option maxHeartbeats 1000000 in
theorem set_has (w : World) (d i : Nat) (hd : d < 512) (hi : i < 9) : Calls Tryz.prog 50 #[.int .u64 d, .int .i64 i] w fun e w' => e = .returned (.bool (d.testBit i)) ∧ Below w.heap.size w w' := by
  have h0 := Below.refl w.heap.size w
  have he : (bits .and .u64 ((d : Int) / 2 ^ i) 1 == 1) = d.testBit i := by
    have hle : d / 2 ^ i ≤ d := Nat.div_le_self _ _
    rw [pow_cast, ← Int.natCast_ediv, and_u64 _ (by omega), Nat.testBit_eq_decide_div_mod_eq]
    by_cases h : d / 2 ^ i % 2 = 1
    · rw [h]; simp
    · have : d / 2 ^ i % 2 = 0 := by omega
      rw [this]; simp
  have HE := Lib.hid he
  clear he
  go_enter Tryz.func50, Tryz.ntmps50
  go_wp2
  go_ret
  exact ⟨ret_bool HE.out, h0⟩
set_option maxHeartbeats 1000000 in
theorem set_with (w : World) (d i : Nat) (hd : d < 512) (hi : i < 9) : Calls Tryz.prog 52 #[.int .u64 d, .int .i64 i] w fun e w' => e = .returned (.int .u64 ((d ||| 2 ^ i : Nat) : Int)) ∧ Below w.heap.size w w' := by
  have h0 := Below.refl w.heap.size w
  have he : bits .or .u64 (d : Int) (IntKind.u64.wrap (2 ^ i)) = ((d ||| 2 ^ i : Nat) : Int) := by
    have := pow9 hi
    rw [pow_cast, wrap64u _ (by omega), or_u64 _ _ hd (by omega)]
  have HE := Lib.hid he
  clear he
  go_enter Tryz.func52, Tryz.ntmps52
  go_wp2
  go_ret
  exact ⟨by rw [HE.out]; rfl, h0⟩
theorem bit_lt {d i : Nat} (hd : d < 512) (hi : i < 9) : d ||| 2 ^ i < 512 := by
  have := pow9 hi
  have : d ||| 2 ^ i < 2 ^ 9 := Nat.or_lt_two_pow (by omega) (by omega)
  omega
end Go.Proofs.YtjihopbapnfppabGreatDoor

set_option linter.unusedSimpArgs false
set_option linter.unusedVariables false
namespace Go.Proofs.YtjihopbapnfppabGreatDoor
open Go.RowKit Go.Ord Go.Baro

/-- The first End of the operations that have ended and are not in d, of the first j. -/
def LimI (l : List Ac) (d j : Nat) (f : Int) (b : Bool) : Prop := (b = true → ∃ i a, i < j ∧ l[i]? = some a ∧ a.e ≠ -1 ∧ d.testBit i = false ∧ a.e = f) ∧ ∀ i a, i < j → l[i]? = some a → a.e ≠ -1 → d.testBit i = false → b = true ∧ f ≤ a.e
theorem limI_zero (l : List Ac) (d : Nat) (f : Int) : LimI l d 0 f false := ⟨fun h => by simp at h, fun i a h => by omega⟩
theorem limI_skip {l : List Ac} {d j : Nat} {f : Int} {b : Bool} {a : Ac} (h : LimI l d j f b) (ha : l[j]? = some a) (hn : a.e = -1 ∨ d.testBit j = true ∨ (b = true ∧ f ≤ a.e)) : LimI l d (j + 1) f b := by
  refine ⟨fun hb => ?_, fun i a' hi h1 h2 h3 => ?_⟩
  · obtain ⟨i, a', hi, h1⟩ := h.1 hb
    exact ⟨i, a', by omega, h1⟩
  · by_cases hij : i = j
    · subst hij
      rw [ha] at h1
      injection h1 with h1
      subst h1
      rcases hn with hn | hn | hn
      · exact absurd hn h2
      · rw [hn] at h3; simp at h3
      · exact hn
    · exact h.2 i a' (by omega) h1 h2 h3
theorem limI_take {l : List Ac} {d j : Nat} {f : Int} {b : Bool} {a : Ac} (h : LimI l d j f b) (ha : l[j]? = some a) (he : a.e ≠ -1) (hd : d.testBit j = false) (hn : b = false ∨ a.e < f) : LimI l d (j + 1) a.e true := by
  refine ⟨fun _ => ⟨j, a, by omega, ha, he, hd, rfl⟩, fun i a' hi h1 h2 h3 => ⟨rfl, ?_⟩⟩
  by_cases hij : i = j
  · subst hij
    rw [ha] at h1
    injection h1 with h1
    subst h1
    exact Int.le_refl _
  · obtain ⟨h4, h5⟩ := h.2 i a' (by omega) h1 h2 h3
    rcases hn with hn | hn
    · rw [hn] at h4; simp at h4
    · omega

set_option maxRecDepth 100000 in
set_option maxHeartbeats 2000000 in
theorem lin_limit (w : World) (s : Nat) (v : Value) (A : Option Addr) (n c B d : Nat) (l : List Ac) (hs : Box w s 69 [.slice A n c, v]) (hl : RA w B A n l) (hB : B ≤ w.heap.size) (hn : n ≤ 9) (hd : d < 512) :
    Calls Tryz.prog 48 #[.pointer (some ⟨s, 0, none⟩), .int .u64 d] w fun e w' => (∃ f b, e = .returned (.tuple #[.int .i64 f, .bool b]) ∧ LimI l d n f b) ∧ Below w.heap.size w w' := by
  have h0 := Below.refl w.heap.size w
  have s0 : w.cell? ⟨s, 0, none⟩ = _ := hs.cell 0
  simp only [List.getElem?_cons_zero] at s0
  have LT := Lib.hid hl.len
  clear hs
  go_enter Tryz.func48, Tryz.ntmps48
  go_wp2
  go_loopw [4, 5, 13] (fun f b i wr => ∃ (j : Nat) (x : Int) (y : Bool), j ≤ n ∧ i = .int .i64 j ∧ f = .int .i64 x ∧ b = .bool y ∧ Hid (LimI l d j x y) ∧ Below w.heap.size w wr) (fun _ _ i _ => n - (intOf i).toNat)
  case atStart => exact ⟨0, _, _, Nat.zero_le _, rfl, rfl, rfl, limI_zero l d 0, h0⟩
  case round =>
    obtain ⟨j, x, y, hj, rfl, rfl, rfl, HI, hbel⟩ := hrel
    have hsz := hbel.size
    by_cases hjm : j < n
    · obtain ⟨b, o, a, rfl, hbB, d0, d1, d2, d3, d4, HX, hmem⟩ := hl.val hjm
      have e0 := (hbel.cell (p := ⟨b, o + j * 5, none⟩) (by show b < _; omega)).trans d0
      have e1 := (hbel.cell (p := ⟨b, o + j * 5 + 1, none⟩) (by show b < _; omega)).trans d1
      have e2 := (hbel.cell (p := ⟨b, o + j * 5 + 2, none⟩) (by show b < _; omega)).trans d2
      have e3 := (hbel.cell (p := ⟨b, o + j * 5 + 3, none⟩) (by show b < _; omega)).trans d3
      have e4 := (hbel.cell (p := ⟨b, o + j * 5 + 4, none⟩) (by show b < _; omega)).trans d4
      obtain ⟨r', hr'⟩ := bool_of (a.e ≠ -1)
      have HE := Lib.hid (fun w => lin_ended w a r' hr')
      have HR' := Lib.hid hr'
      have HH := Lib.hid (fun w => set_has w d j hd (by omega))
      obtain ⟨t, ht⟩ : ∃ t, t = d.testBit j := ⟨_, rfl⟩
      rw [← ht] at HH
      have HT := Lib.hid ht
      clear hr' hmem d0 d1 d2 d3 d4 ht
      obtain ⟨xb, xe, xp, xv, xa⟩ := a
      unfold acA at HE
      dsimp only at HE HR' e0 e1 e2 e3 e4
      have bX := Box.newAt wr 64 [.int .i64 xb, .int .i64 xe, .bool xp, .int .i64 xv, .int .i64 xa] wr.heap.size rfl
      have lX := bX.lt
      have h2 := hbel.alloc hsz (Obj.cells #[.int .i64 xb, .int .i64 xe, .bool xp, .int .i64 xv, .int .i64 xa] 64)
      go_wp2_with fail
      refine (HE.out _).mono ?_
      rintro e w1 ⟨rfl, hb1⟩
      have h3 := h2.trans (hb1.mono (by omega))
      have bX1 := bX.below hb1 lX
      have lX1 := bX1.lt
      have x1 : w1.cell? ⟨wr.heap.size, 1, none⟩ = _ := bX1.cell 1
      simp only [List.getElem?_cons_zero, List.getElem?_cons_succ] at x1
      clear bX lX h2 hb1
      cases r' with
      | false =>
        have HN : Hid (xe = -1) := by
          show xe = -1
          by_cases h : xe = -1
          · exact h
          · exact absurd (HR'.out.2 h) (by simp)
        go_wp2
        go_roundw
        case rel => exact ⟨j + 1, x, y, by omega, by go_num, rfl, rfl, limI_skip HI.out HX.out (.inl HN.out), h3⟩
        case measure => simp [intOf]; omega
      | true =>
        have HN : Hid (xe ≠ -1) := HR'.out.1 rfl
        go_wp2_with fail
        refine (HH.out _).mono ?_
        rintro e w2 ⟨rfl, hb2⟩
        have h4 := h3.trans (hb2.mono h3.size)
        have bX2 := bX1.below hb2 lX1
        have x2 : w2.cell? ⟨wr.heap.size, 1, none⟩ = _ := bX2.cell 1
        simp only [List.getElem?_cons_zero, List.getElem?_cons_succ] at x2
        clear bX1 x1 hb2
        cases t with
        | true =>
          go_wp2
          go_roundw
          case rel => exact ⟨j + 1, x, y, by omega, by go_num, rfl, rfl, limI_skip HI.out HX.out (.inr (.inl HT.out.symm)), h4⟩
          case measure => simp [intOf]; omega
        | false =>
          cases y with
          | false =>
            go_wp2
            go_roundw
            case rel => exact ⟨j + 1, xe, true, by omega, by go_num, rfl, rfl, limI_take HI.out HX.out HN.out HT.out.symm (.inl rfl), h4⟩
            case measure => simp [intOf]; omega
          | true =>
            by_cases hlt : xe < x
            · go_wp2
              go_roundw
              case rel => exact ⟨j + 1, xe, true, by omega, by go_num, rfl, rfl, limI_take HI.out HX.out HN.out HT.out.symm (.inr hlt), h4⟩
              case measure => simp [intOf]; omega
            · go_wp2
              go_roundw
              case rel => exact ⟨j + 1, x, true, by omega, by go_num, rfl, rfl, limI_skip HI.out HX.out (.inr (.inr ⟨rfl, by omega⟩)), h4⟩
              case measure => simp [intOf]; omega
    · obtain rfl : n = j := by omega
      go_wp2
      go_ret2
      exact ⟨⟨x, y, rfl, HI.out⟩, hbel⟩
end Go.Proofs.YtjihopbapnfppabGreatDoor
