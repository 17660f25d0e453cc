/- Fields to bits and bits to bytes, in the document's answer. No statement of the seat is proved here; no condition. -/
import Derived.Test.YtekojlepmfmmpaaDoorBitsW
set_option linter.unusedSimpArgs false
set_option linter.unusedVariables false
namespace Go.Proofs.YtekojlepmfmmpaaDoor
open Go.RowKit Go.Ord Go.Baro

theorem bitsV_snoc (wd k : Nat) (v : Int) (h : k < wd) : (bitsV wd v).take (k + 1) = (bitsV wd v).take k ++ [v / 2 ^ (wd - 1 - k) % 2] := at_take (bitsV_at wd v k h)

set_option maxHeartbeats 2000000 in
theorem ref_bitList (fs : List (Int × Int)) (A : Option Addr) (n c : Nat) (w : World) (hb : RF w w.heap.size A n fs) (hn : n ≤ 400) (hok : ∀ f ∈ fs, okF f) :
    Calls Tryd.prog 24 #[.slice A n c] w fun e w' => ∃ v, e = .returned v ∧ w'.ownsRow w.heap.size 3 1 v (bitsF fs).length ((bitsF fs).map (Value.int .i64)) ∧ Below w.heap.size w w' := by
  have H := Lib.hid hb.len
  have HO := Lib.hid hok
  clear hok
  go_enter Tryd.func24, Tryd.ntmps24
  go_wp2
  go_loopw [3, 9] (fun v i wr => ∃ j : Nat, j ≤ n ∧ i = .int .i64 j ∧ (bitsF (fs.take j)).length ≤ 60 * j ∧ wr.ownsRow w.heap.size 3 1 v (bitsF (fs.take j)).length ((bitsF (fs.take j)).map (Value.int .i64)) ∧ Below w.heap.size w wr) (fun _ i _ => n - (intOf i).toNat)
  case atStart => exact ⟨0, Nat.zero_le _, rfl, by simp [bitsF], World.ownsRow_nil _ _ _ _, Below.refl _ _⟩
  case round =>
    obtain ⟨j, hj, rfl, hs, hown, hbel⟩ := hrel
    by_cases hlt : j < n
    · obtain ⟨b, o, x, y, rfl, hbb, hcx, hcy, HX, hmem⟩ := (hb.below hbel).val hlt
      have hsz := hbel.size
      obtain ⟨⟨hx0, hx1⟩, hy0, hy1⟩ := HO.out _ hmem
      dsimp only at hx0 hx1 hy0 hy1
      obtain ⟨wd, rfl⟩ := Int.eq_ofNat_of_zero_le hx0
      simp only [Int.toNat_natCast] at hy1
      have hp := pow_le (j := wd) (k := 60) (by omega)
      go_wp2
      go_loopw [3, 6] (fun v i wq => ∃ k : Nat, k ≤ wd ∧ i = .int .i64 ↑(k + 1) ∧ wq.ownsRow w.heap.size 3 1 v ((bitsF (fs.take j)).length + k) ((bitsF (fs.take j) ++ (bitsV wd y).take k).map (Value.int .i64)) ∧ Below w.heap.size w wq ∧
          Box wq wr.heap.size 53 [.int .i64 wd, .int .i64 y]) (fun _ i _ => wd + 1 - (intOf i).toNat)
      case atStart =>
        exact ⟨0, Nat.zero_le _, rfl, by simpa using hown.alloc _, hbel.alloc hsz _, Box.new wr _ _⟩
      case round =>
        obtain ⟨k, hk, rfl, hown1, hbel1, hbox⟩ := hrel
        have hc0 := hbox.cell 0
        have hc1 := hbox.cell 1
        by_cases hlk : k < wd
        · have hpk := pow_le (j := wd - (k + 1)) (k := 59) (by omega)
          have hpk0 : (0 : Int) < 2 ^ (wd - (k + 1)) := Int.pow_pos (by decide)
          have hdv : 0 ≤ y / 2 ^ (wd - (k + 1)) := Int.ediv_nonneg hy0 (by omega)
          go_wp2
          refine region_two [0, 1, 2, 3, 4, 5, 6, 7, 8, 9] [10, 11, 12] (by kernel_rfl) (by kernel_rfl) ?_
          simp only [pick, List.map_cons, List.map_nil, List.getD_cons_zero, List.getD_cons_succ]
          go_wp2_with (at_builtin; refine app_litd eltInt _ rfl _ _ rfl w.heap.size _ _ _ rfl (by exact hown1) 1 [_] _ rfl rfl rfl (one1 _ _) (by omega) (by omega) (by exact hbel1.size) ?_; intro v' w1 hown2 hgr2 hbel2 _)
          go_roundw
          case rel =>
            refine ⟨k + 1, by omega, by go_num, ?_, hbel2 _ hbel1, (hbox.alloc _).grown hgr2 (hbox.ne hown1 (by decide))⟩
            rw [bitsV_snoc wd k y hlk, ← List.append_assoc, List.map_append]
            rw [show wd - 1 - k = wd - (k + 1) by omega]
            exact hown2
          case measure => simp [intOf]; omega
        · obtain rfl : k = wd := by omega
          go_wp2
          go_roundw
          case rel =>
            have ht := at_take HX.out
            refine ⟨j + 1, by omega, by go_num, ?_, ?_, hbel1⟩
            · rw [ht, bitsF_append, List.length_append, bitsF_one, bitsV_length]; simp; omega
            · rw [ht, bitsF_append, bitsF_one, List.length_append, bitsV_length]
              have htk : (bitsV k y).take k = bitsV k y := List.take_of_length_le (by rw [bitsV_length]; omega)
              rw [htk] at hown1
              exact hown1
          case measure => simp [intOf]; omega
    · obtain rfl : j = n := by omega
      go_wp2
      go_ret
      rw [List.take_of_length_le (by rw [H.out]; omega)] at hown
      exact ⟨_, rfl, hown, hbel⟩

/-- One more bit. -/
theorem holds_bit (l bs : List Int) (i : Nat) (b : Int) (h : HoldsB l bs) (hi : bs.length = i) (hl : i / 8 < l.length) (hb : b = 1) :
    HoldsB (l.set (i / 8) (l[i / 8]?.getD 0 + 2 ^ (7 - i % 8))) (bs ++ [b]) := by
  have hz : bitOf l i = 0 := by rw [h.2, List.getElem?_eq_none (by omega)]; rfl
  refine ⟨set_range l i hl h.1 hz, fun j => ?_⟩
  rw [bitOf_set l i hl h.1 hz]
  by_cases hj : j = i
  · subst hj; rw [if_pos rfl, List.getElem?_append_right (by omega)]; simp [hi, hb]
  · rw [if_neg hj, h.2]
    by_cases hlt : j < bs.length
    · rw [List.getElem?_append_left hlt]
    · rw [List.getElem?_eq_none (by omega), List.getElem?_eq_none (by simp; omega)]
theorem holds_nobit (l bs : List Int) (b : Int) (h : HoldsB l bs) (hb : b = 0) : HoldsB l (bs ++ [b]) := by
  refine ⟨h.1, fun j => ?_⟩
  rw [h.2]
  by_cases hlt : j < bs.length
  · rw [List.getElem?_append_left hlt]
  · rw [List.getElem?_eq_none (by omega), List.getElem?_append_right (by omega)]
    rcases Nat.eq_zero_or_pos (j - bs.length) with h0 | h0
    · rw [h0, hb]; rfl
    · rw [List.getElem?_eq_none (by simp; omega)]
theorem holds_more (l bs : List Int) (h : HoldsB l bs) : HoldsB (l ++ [0]) bs := by
  refine ⟨fun x hx => ?_, fun j => ?_⟩
  · rcases List.mem_append.1 hx with hx | hx
    · exact h.1 x hx
    · simp at hx; omega
  · rw [← h.2]
    unfold bitOf
    by_cases hlt : j / 8 < l.length
    · rw [List.getElem?_append_left hlt]
    · have e1 : l[j / 8]?.getD 0 = 0 := by rw [List.getElem?_eq_none (by omega)]; rfl
      have e2 : (l ++ [0])[j / 8]?.getD 0 = 0 := by
        rw [List.getElem?_append_right (by omega)]
        rcases Nat.eq_zero_or_pos (j / 8 - l.length) with h0 | h0
        · rw [h0]; rfl
        · rw [List.getElem?_eq_none (by simp; omega)]; rfl
      rw [e1, e2]

theorem byte_facts {w : World} {base : Nat} {v : Value} {l bs : List Int} {j : Nat} (hown : w.ownsRow base 5 1 v l.length (l.map (Value.int .u8))) (hh : HoldsB l (bs.take j)) (hj : j < bs.length) (hl : j / 8 < l.length) :
    ∃ g cp y, v = .slice (some ⟨g, 0, none⟩) l.length cp ∧ base ≤ g ∧ w.cell? ⟨g, j / 8, none⟩ = some (.int .u8 y) ∧ w.frozen? ⟨g, j / 8, none⟩ = false ∧ 0 ≤ y ∧ (0 : Int) < 128 / 2 ^ (j % 8) ∧ y + 128 / 2 ^ (j % 8) < 256 ∧
      (∀ x, x = 1 → Hid (HoldsB (l.set (j / 8) (y + 128 / 2 ^ (j % 8))) (bs.take j ++ [x])) ∧ (w.setCell ⟨g, j / 8, none⟩ (.int .u8 (y + 128 / 2 ^ (j % 8)))).ownsRow base 5 1 (.slice (some ⟨g, 0, none⟩) l.length cp) l.length ((l.set (j / 8) (y + 128 / 2 ^ (j % 8))).map (Value.int .u8))) := by
  have h128 : ∀ k < 8, (128 : Int) / 2 ^ k = 2 ^ (7 - k) := by decide
  have h1 := h128 (j % 8) (Nat.mod_lt _ (by decide))
  obtain ⟨g, cp, rfl, hbg, _, _⟩ := own_some hown (by omega)
  obtain ⟨y, hcy, HY, hym⟩ := own_val hown hl
  have hyr := hh.1 _ hym
  have hY : l[j / 8]?.getD 0 = y := by rw [HY.out]; rfl
  have hyz : y / 2 ^ (7 - j % 8) % 2 = 0 := by
    have h2 := hh.2 j
    rw [List.getElem?_eq_none (by simp; omega)] at h2
    unfold bitOf at h2
    rw [hY] at h2
    exact h2
  have hadd := bit_add y (7 - j % 8) hyr.1 hyr.2 (by omega) hyz
  rw [h1]
  refine ⟨g, cp, y, rfl, hbg, hcy, World.ownsRow.frozenAt hown _, hyr.1, Int.pow_pos (by decide), hadd.2.1, fun x hx => ⟨?_, ?_⟩⟩
  · have h2 := holds_bit l (bs.take j) j x hh (by simp; omega) hl hx
    rw [hY] at h2
    exact h2
  · rw [List.map_set]; exact (World.ownsRow.stored hown (j / 8) _).1

set_option maxHeartbeats 2000000 in
theorem ref_byteList (bs : List Int) (A : Option Addr) (n c : Nat) (w : World) (hb : RI w w.heap.size .i64 A n bs) (hn : n ≤ 24000) (h01 : ∀ b ∈ bs, b = 0 ∨ b = 1) :
    Calls Tryd.prog 28 #[.slice A n c] w fun e w' => ∃ v, e = .returned v ∧ w'.ownsRow w.heap.size 5 1 v (packB bs).length ((packB bs).map (Value.int .u8)) ∧ Below w.heap.size w w' := by
  have H := Lib.hid hb.len
  have HO := Lib.hid h01
  clear h01
  go_enter Tryd.func28, Tryd.ntmps28
  go_wp2
  go_loopw [3, 8] (fun v i wr => ∃ (j : Nat) (l : List Int), j ≤ n ∧ i = .int .i64 j ∧ Hid (HoldsB l (bs.take j)) ∧ Hid (l.length = (j + 7) / 8) ∧ wr.ownsRow w.heap.size 5 1 v l.length (l.map (Value.int .u8)) ∧ Below w.heap.size w wr) (fun _ i _ => n - (intOf i).toNat)
  case atStart => exact ⟨0, [], Nat.zero_le _, rfl, ⟨by simp, fun i => by simp [bitOf]⟩, rfl, World.ownsRow_nil _ _ _ _, Below.refl _ _⟩
  case round =>
    obtain ⟨j, l, hj, rfl, HH, HL, hown, hbel⟩ := hrel
    by_cases hlt : j < n
    · obtain ⟨b, o, x, rfl, hbb, hcx, HX, hmem⟩ := (hb.below hbel).val hlt
      have hsz := hbel.size
      have HJ := Lib.hid (show j < bs.length by rw [H.out]; exact hlt)
      have hll : l.length ≤ 3000 := by have := HL.out; omega
      by_cases h8 : j % 8 = 0
      · have h8b : (((j : Int) % 8) == 0) = true := by simp; omega
        have HL2 := Lib.hid (show (l ++ [0]).length = (j + 1 + 7) / 8 by rw [List.length_append, HL.out]; simp; omega)
        have HI := Lib.hid (show j / 8 < (l ++ [0]).length by rw [HL2.out]; omega)
        have hji : j / 8 < l.length + 1 := by have := HI.out; simpa using this
        have HH2 := Lib.hid (holds_more l _ HH.out)
        have H8 := Lib.hid h8
        clear h8
        by_cases hx1 : x = 1
        · have hx1b : (x == 1) = true := by simp [hx1]
          go_wp2_with (at_builtin; refine app_lit eltByte _ rfl _ _ rfl w.heap.size _ _ _ rfl (by exact hown) 1 [_] _ rfl rfl rfl (one1 _ _) (by omega) (by omega) (by exact hbel.size) ?_; intro v' w1 hown2 hgr2 hbel2 hsz2; obtain ⟨g, cp, y, rfl, hbg, hcy, hfz, hy0, hpw, hsum, hnew⟩ := byte_facts (l := l ++ [0]) (by simpa using hown2) HH2.out HJ.out HI.out; have HN := Lib.hid (hnew x hx1); clear hnew; simp only [List.length_append, List.length_cons, List.length_nil, Nat.zero_add])
          refine region_two [0, 1, 2, 3, 4, 5, 6, 7, 8, 9] [10] (by kernel_rfl) (by kernel_rfl) ?_
          simp only [pick, List.map_cons, List.map_nil, List.getD_cons_zero, List.getD_cons_succ]
          go_wp2
          go_roundw
          case rel =>
            refine ⟨j + 1, _, by omega, by go_num, by rw [at_take HX.out]; exact HN.out.1, by show _ = _; rw [List.length_set]; exact HL2.out, ?_, ?_⟩
            · rw [List.length_set]
              have := HN.out.2
              simp only [List.length_append, List.length_cons, List.length_nil, Nat.zero_add] at this ⊢
              exact this
            · exact Below.drew (Below.setCell (p := ⟨g, _, none⟩) (hbel2 _ hbel) hbg _)
          case measure => simp [intOf]; omega
        · have hx1b : (x == 1) = false := by simp [hx1]
          have HX0 := Lib.hid ((HO.out x hmem).resolve_right hx1)
          go_wp2_with (at_builtin; refine app_lit eltByte _ rfl _ _ rfl w.heap.size _ _ _ rfl (by exact hown) 1 [_] _ rfl rfl rfl (one1 _ _) (by omega) (by omega) (by exact hbel.size) ?_; intro v' w1 hown2 hgr2 hbel2 hsz2)
          go_roundw
          case rel =>
            refine ⟨j + 1, l ++ [0], by omega, by go_num, ?_, HL2.out, by simpa using hown2, hbel2 _ hbel⟩
            rw [at_take HX.out]
            exact holds_nobit _ _ x HH2.out HX0.out
          case measure => simp [intOf]; omega
      · have h8b : (((j : Int) % 8) == 0) = false := by simp; omega
        have HL2 := Lib.hid (show l.length = (j + 1 + 7) / 8 by rw [HL.out]; omega)
        have hji : j / 8 < l.length := by rw [HL2.out]; omega
        by_cases hx1 : x = 1
        · have hx1b : (x == 1) = true := by simp [hx1]
          obtain ⟨g, cp, y, rfl, hbg, hcy, hfz, hy0, hpw, hsum, hnew⟩ := byte_facts hown HH.out HJ.out hji
          have HN := Lib.hid (hnew x hx1)
          clear hnew
          go_wp2
          refine region_two [0, 1, 2, 3, 4, 5, 6, 7, 8, 9] [10] (by kernel_rfl) (by kernel_rfl) ?_
          simp only [pick, List.map_cons, List.map_nil, List.getD_cons_zero, List.getD_cons_succ]
          go_wp2
          go_roundw
          case rel =>
            refine ⟨j + 1, _, by omega, by go_num, by rw [at_take HX.out]; exact HN.out.1, by show _ = _; rw [List.length_set]; exact HL2.out, ?_, ?_⟩
            · rw [List.length_set]
              exact HN.out.2
            · exact Below.drew (Below.setCell (p := ⟨g, _, none⟩) hbel hbg _)
          case measure => simp [intOf]; omega
        · have hx1b : (x == 1) = false := by simp [hx1]
          have HX0 := Lib.hid ((HO.out x hmem).resolve_right hx1)
          go_wp2
          go_roundw
          case rel =>
            refine ⟨j + 1, l, by omega, by go_num, ?_, HL2.out, hown, hbel⟩
            rw [at_take HX.out]
            exact holds_nobit _ _ x HH.out HX0.out
          case measure => simp [intOf]; omega
    · obtain rfl : j = n := by omega
      go_wp2
      go_ret
      have hall : bs.take j = bs := List.take_of_length_le (by rw [H.out]; omega)
      have hH := HH.out
      rw [hall] at hH
      have hpk : l = packB bs := pack_of l _ (by rw [HL.out, H.out]) hH.1 (fun i _ => hH.2 i)
      refine ⟨_, rfl, ?_, hbel⟩
      rw [← hpk]
      exact hown
end Go.Proofs.YtekojlepmfmmpaaDoor
