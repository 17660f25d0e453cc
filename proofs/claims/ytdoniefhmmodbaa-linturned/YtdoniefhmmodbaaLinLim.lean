/- What limit of lin does. No statement of the seat is proved here; no condition. -/
import Derived.Test.YtdoniefhmmodbaaLinSet
set_option linter.unusedSimpArgs false
set_option linter.unusedVariables false
namespace Go.Proofs.Ytdoniefhmmodbaa
open Go.RowKit Go.Ord Go.Baro

/-- The first End of the operations that have ended and are not in d, of the first j. -/
def LimI (l : List Ac) (d j : Nat) (f : Int) (b : Bool) : Prop := (b = true → ∃ i a, i < j ∧ l[i]? = some a ∧ a.e ≠ -1 ∧ d.testBit i = false ∧ a.e = f) ∧ ∀ i a, i < j → l[i]? = some a → a.e ≠ -1 → d.testBit i = false → b = true ∧ f ≤ a.e
theorem limI_zero (l : List Ac) (d : Nat) (f : Int) : LimI l d 0 f false := ⟨fun h => by simp at h, fun i a h => by omega⟩
theorem limI_skip {l : List Ac} {d j : Nat} {f : Int} {b : Bool} {a : Ac} (h : LimI l d j f b) (ha : l[j]? = some a) (hn : a.e = -1 ∨ d.testBit j = true ∨ (b = true ∧ f ≤ a.e)) : LimI l d (j + 1) f b := by
  refine ⟨fun hb => ?_, fun i a' hi h1 h2 h3 => ?_⟩
  · obtain ⟨i, a', hi, h1⟩ := h.1 hb
    exact ⟨i, a', by omega, h1⟩
  · by_cases hij : i = j
    · subst hij
      rw [ha] at h1
      injection h1 with h1
      subst h1
      rcases hn with hn | hn | hn
      · exact absurd hn h2
      · rw [hn] at h3; simp at h3
      · exact hn
    · exact h.2 i a' (by omega) h1 h2 h3
theorem limI_take {l : List Ac} {d j : Nat} {f : Int} {b : Bool} {a : Ac} (h : LimI l d j f b) (ha : l[j]? = some a) (he : a.e ≠ -1) (hd : d.testBit j = false) (hn : b = false ∨ a.e < f) : LimI l d (j + 1) a.e true := by
  refine ⟨fun _ => ⟨j, a, by omega, ha, he, hd, rfl⟩, fun i a' hi h1 h2 h3 => ⟨rfl, ?_⟩⟩
  by_cases hij : i = j
  · subst hij
    rw [ha] at h1
    injection h1 with h1
    subst h1
    exact Int.le_refl _
  · obtain ⟨h4, h5⟩ := h.2 i a' (by omega) h1 h2 h3
    rcases hn with hn | hn
    · rw [hn] at h4; simp at h4
    · omega

set_option maxRecDepth 100000 in
set_option maxHeartbeats 2000000 in
theorem lin_limit (w : World) (s : Nat) (v : Value) (A : Option Addr) (n c B d : Nat) (l : List Ac) (hs : Box w s 44 [.slice A n c, v]) (hl : RA w B A n l) (hB : B ≤ w.heap.size) (hn : n ≤ 9) (hd : d < 512) :
    Calls Try.prog 27 #[.pointer (some ⟨s, 0, none⟩), .int .u64 d] w fun e w' => (∃ f b, e = .returned (.tuple #[.int .i64 f, .bool b]) ∧ LimI l d n f b) ∧ Below w.heap.size w w' := by
  have h0 := Below.refl w.heap.size w
  have s0 : w.cell? ⟨s, 0, none⟩ = _ := hs.cell 0
  simp only [List.getElem?_cons_zero] at s0
  have LT := Lib.hid hl.len
  clear hs
  go_enter Try.func27, Try.ntmps27
  go_wp2
  go_loopw [4, 5, 13] (fun f b i wr => ∃ (j : Nat) (x : Int) (y : Bool), j ≤ n ∧ i = .int .i64 j ∧ f = .int .i64 x ∧ b = .bool y ∧ Hid (LimI l d j x y) ∧ Below w.heap.size w wr) (fun _ _ i _ => n - (intOf i).toNat)
  case atStart => exact ⟨0, _, _, Nat.zero_le _, rfl, rfl, rfl, limI_zero l d 0, h0⟩
  case round =>
    obtain ⟨j, x, y, hj, rfl, rfl, rfl, HI, hbel⟩ := hrel
    have hsz := hbel.size
    by_cases hjm : j < n
    · obtain ⟨b, o, a, rfl, hbB, d0, d1, d2, d3, d4, HX, hmem⟩ := hl.val hjm
      have e0 := (hbel.cell (p := ⟨b, o + j * 5, none⟩) (by show b < _; omega)).trans d0
      have e1 := (hbel.cell (p := ⟨b, o + j * 5 + 1, none⟩) (by show b < _; omega)).trans d1
      have e2 := (hbel.cell (p := ⟨b, o + j * 5 + 2, none⟩) (by show b < _; omega)).trans d2
      have e3 := (hbel.cell (p := ⟨b, o + j * 5 + 3, none⟩) (by show b < _; omega)).trans d3
      have e4 := (hbel.cell (p := ⟨b, o + j * 5 + 4, none⟩) (by show b < _; omega)).trans d4
      obtain ⟨r', hr'⟩ := bool_of (a.e ≠ -1)
      have HE := Lib.hid (fun w => lin_ended w a r' hr')
      have HR' := Lib.hid hr'
      have HH := Lib.hid (fun w => set_has w d j hd (by omega))
      obtain ⟨t, ht⟩ : ∃ t, t = d.testBit j := ⟨_, rfl⟩
      rw [← ht] at HH
      have HT := Lib.hid ht
      clear hr' hmem d0 d1 d2 d3 d4 ht
      obtain ⟨xb, xe, xp, xv, xa⟩ := a
      unfold acA at HE
      dsimp only at HE HR' e0 e1 e2 e3 e4
      have bX := Box.newAt wr 34 [.int .i64 xb, .int .i64 xe, .bool xp, .int .i64 xv, .int .i64 xa] wr.heap.size rfl
      have lX := bX.lt
      have h2 := hbel.alloc hsz (Obj.cells #[.int .i64 xb, .int .i64 xe, .bool xp, .int .i64 xv, .int .i64 xa] 34)
      go_wp2_with fail
      refine (HE.out _).mono ?_
      rintro e w1 ⟨rfl, hb1⟩
      have h3 := h2.trans (hb1.mono (by omega))
      have bX1 := bX.below hb1 lX
      have lX1 := bX1.lt
      have x1 : w1.cell? ⟨wr.heap.size, 1, none⟩ = _ := bX1.cell 1
      simp only [List.getElem?_cons_zero, List.getElem?_cons_succ] at x1
      clear bX lX h2 hb1
      cases r' with
      | false =>
        have HN : Hid (xe = -1) := by
          show xe = -1
          by_cases h : xe = -1
          · exact h
          · exact absurd (HR'.out.2 h) (by simp)
        go_wp2
        go_roundw
        case rel => exact ⟨j + 1, x, y, by omega, by go_num, rfl, rfl, limI_skip HI.out HX.out (.inl HN.out), h3⟩
        case measure => simp [intOf]; omega
      | true =>
        have HN : Hid (xe ≠ -1) := HR'.out.1 rfl
        go_wp2_with fail
        refine (HH.out _).mono ?_
        rintro e w2 ⟨rfl, hb2⟩
        have h4 := h3.trans (hb2.mono h3.size)
        have bX2 := bX1.below hb2 lX1
        have x2 : w2.cell? ⟨wr.heap.size, 1, none⟩ = _ := bX2.cell 1
        simp only [List.getElem?_cons_zero, List.getElem?_cons_succ] at x2
        clear bX1 x1 hb2
        cases t with
        | true =>
          go_wp2
          go_roundw
          case rel => exact ⟨j + 1, x, y, by omega, by go_num, rfl, rfl, limI_skip HI.out HX.out (.inr (.inl HT.out.symm)), h4⟩
          case measure => simp [intOf]; omega
        | false =>
          cases y with
          | false =>
            go_wp2
            go_roundw
            case rel => exact ⟨j + 1, xe, true, by omega, by go_num, rfl, rfl, limI_take HI.out HX.out HN.out HT.out.symm (.inl rfl), h4⟩
            case measure => simp [intOf]; omega
          | true =>
            by_cases hlt : xe < x
            · go_wp2
              go_roundw
              case rel => exact ⟨j + 1, xe, true, by omega, by go_num, rfl, rfl, limI_take HI.out HX.out HN.out HT.out.symm (.inr hlt), h4⟩
              case measure => simp [intOf]; omega
            · go_wp2
              go_roundw
              case rel => exact ⟨j + 1, x, true, by omega, by go_num, rfl, rfl, limI_skip HI.out HX.out (.inr (.inr ⟨rfl, by omega⟩)), h4⟩
              case measure => simp [intOf]; omega
    · obtain rfl : n = j := by omega
      go_wp2
      go_ret2
      exact ⟨⟨x, y, rfl, HI.out⟩, hbel⟩
end Go.Proofs.Ytdoniefhmmodbaa
