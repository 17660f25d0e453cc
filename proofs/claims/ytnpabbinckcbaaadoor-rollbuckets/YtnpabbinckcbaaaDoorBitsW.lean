/- What the writing functions of package bits do. No statement of the seat is proved here; no condition. -/
import Derived.Test.YtnpabbinckcbaaaDoorBits
set_option linter.unusedSimpArgs false
set_option linter.unusedVariables false
namespace Go.Proofs.YtnpabbinckcbaaaDoor
open Go.RowKit Go.Ord Go.Baro

theorem shr_zero (b : Int) (k : Nat) (h0 : 0 ≤ b) : (b / 2 ^ k == 0) = decide (b < 2 ^ k) := by
  have hp : (0 : Int) < 2 ^ k := Int.pow_pos (by decide)
  by_cases h : b < 2 ^ k
  · rw [Int.ediv_eq_zero_of_lt h0 h]; simp [h]
  · have h1 : 1 ≤ b / 2 ^ k := (Int.le_ediv_iff_mul_le hp).2 (by omega)
    simp [h]; omega

theorem bits_fits (a b : Int) (r : Bool) (w : World) (h0 : 0 ≤ a) (h1 : a ≤ 60) (hr : r = true ↔ 0 ≤ b ∧ b < 2 ^ a.toNat) :
    Calls Tryd.prog 39 #[.agg #[.int .i64 a, .int .i64 b]] w fun e w' => e = .returned (.bool r) ∧ Below w.heap.size w w' := by
  have H := Lib.hid hr
  clear hr
  by_cases hb : 0 ≤ b
  · have HS := Lib.hid (shr_zero b a.toNat hb)
    go_enter Tryd.func39, Tryd.ntmps39
    go_wp2
    go_ret
    refine ⟨ret_bool ?_, (Below.refl _ _).alloc (Nat.le_refl _) _⟩
    show (b / 2 ^ a.toNat == 0) = r
    rw [HS.out]
    have := H.out
    cases r <;> simp at this ⊢ <;> omega
  · go_enter Tryd.func39, Tryd.ntmps39
    go_wp2
    go_ret
    refine ⟨ret_bool ?_, (Below.refl _ _).alloc (Nat.le_refl _) _⟩
    have := H.out
    cases r <;> simp at this ⊢ <;> omega

set_option maxHeartbeats 1000000 in
theorem bits_checkFields (fs : List (Int × Int)) (A : Option Addr) (n c : Nat) (w : World) (hb : RF w w.heap.size A n fs) (hn : n ≤ 140737488355328) :
    Calls Tryd.prog 35 #[.slice A n c] w fun e w' => e = .returned (.int .i64 (wrCode fs)) ∧ Below w.heap.size w w' := by
  have H := Lib.hid hb.len
  by_cases hbig : 400 < n
  · go_enter Tryd.func35, Tryd.ntmps35
    go_wp2
    go_ret
    exact ⟨ret_int (wrCode_big (by rw [H.out]; exact hbig)).symm, Below.refl _ _⟩
  · go_enter Tryd.func35, Tryd.ntmps35
    go_wp2
    go_loopw [10] (fun i wr => ∃ j : Nat, j ≤ n ∧ i = .int .i64 j ∧ Hid (ckF fs = ckF (fs.drop j)) ∧ Below w.heap.size w wr) (fun i _ => n - (intOf i).toNat)
    case atStart => exact ⟨0, Nat.zero_le _, rfl, by simp [Hid], Below.refl _ _⟩
    case round =>
      obtain ⟨j, hj, rfl, HC, hbel⟩ := hrel
      by_cases hlt : j < n
      · obtain ⟨b, o, x, y, rfl, hbb, hcx, hcy, HX, _⟩ := (hb.below hbel).val hlt
        have hsz := hbel.size
        by_cases hx : 0 ≤ x ∧ x ≤ 60
        · by_cases hy : 0 ≤ y ∧ y < 2 ^ x.toNat
          · go_wp2_with (first
              | (go_at_call 38; refine (bits_isWidth _ true _ (by simp; omega)).mono ?_; rintro e w' ⟨rfl, rfl⟩)
              | (go_at_call 39; refine (bits_fits _ _ true _ (by omega) (by omega) (by simp; exact hy)).mono ?_; rintro e w1 ⟨rfl, hbel1⟩))
            go_roundw
            case rel => exact ⟨j + 1, by omega, by go_num, by show _ = _; rw [HC.out, at_drop HX.out, ckF_step ⟨hx, hy⟩], (hbel.alloc hsz _).trans (hbel1.mono (by simp; omega))⟩
            case measure => simp [intOf]; omega
          · go_wp2_with (first
              | (go_at_call 38; refine (bits_isWidth _ true _ (by simp; omega)).mono ?_; rintro e w' ⟨rfl, rfl⟩)
              | (go_at_call 39; refine (bits_fits _ _ false _ (by omega) (by omega) (by simp; intro h; exact Int.not_lt.1 fun h' => hy ⟨h, h'⟩)).mono ?_; rintro e w1 ⟨rfl, hbel1⟩))
            go_ret
            refine ⟨ret_int ?_, (hbel.alloc hsz _).trans (hbel1.mono (by simp; omega))⟩
            rw [wrCode_not (by rw [H.out]; omega), HC.out, at_drop HX.out]
            simp only [ckF]
            rw [if_pos hx, if_neg hy]
        · go_wp2_with (go_at_call 38; refine (bits_isWidth _ false _ (by simp; omega)).mono ?_; rintro e w' ⟨rfl, rfl⟩)
          go_ret
          refine ⟨ret_int ?_, hbel.alloc hsz _⟩
          rw [wrCode_not (by rw [H.out]; omega), HC.out, at_drop HX.out]
          simp only [ckF]
          rw [if_neg hx]
      · go_wp2
        go_ret
        refine ⟨ret_int ?_, hbel⟩
        rw [wrCode_not (by rw [H.out]; omega), HC.out, List.drop_eq_nil_of_le (by rw [H.out]; omega)]
        rfl

theorem sumF_snoc (fs : List (Int × Int)) (j : Nat) (f : Int × Int) (h : fs.take (j + 1) = fs.take j ++ [f]) (h0 : 0 ≤ f.1) : ((bitsF (fs.take (j + 1))).length : Int) = (bitsF (fs.take j)).length + f.1 := by
  rw [h, bitsF_append, List.length_append, bitsF_one, bitsV_length]; omega
theorem lenF_le (fs : List (Int × Int)) (h : ∀ f ∈ fs, okF f) : (bitsF fs).length ≤ 60 * fs.length := by
  induction fs with
  | nil => simp [bitsF]
  | cons f fs ih =>
    have h1 := h f (by simp)
    have h2 := ih fun g hg => h g (by simp [hg])
    have h3 : bitsF (f :: fs) = bitsV f.1.toNat f.2 ++ bitsF fs := rfl
    rw [h3, List.length_append, bitsV_length, List.length_cons]
    have := h1.1
    omega

set_option maxHeartbeats 1000000 in
theorem bits_sumOfWidths (fs : List (Int × Int)) (A : Option Addr) (n c : Nat) (w : World) (hb : RF w w.heap.size A n fs) (hn : n ≤ 400) (hok : ∀ f ∈ fs, okF f) :
    Calls Tryd.prog 36 #[.slice A n c] w fun e w' => e = .returned (.int .i64 (bitsF fs).length) ∧ Below w.heap.size w w' := by
  have H := Lib.hid hb.len
  have HO := Lib.hid hok
  clear hok
  go_enter Tryd.func36, Tryd.ntmps36
  go_wp2
  go_loopw [3, 8] (fun s i wr => ∃ j : Nat, j ≤ n ∧ i = .int .i64 j ∧ s = .int .i64 (bitsF (fs.take j)).length ∧ (bitsF (fs.take j)).length ≤ 60 * j ∧ Below w.heap.size w wr) (fun _ i _ => n - (intOf i).toNat)
  case atStart => exact ⟨0, Nat.zero_le _, rfl, rfl, by simp [bitsF], Below.refl _ _⟩
  case round =>
    obtain ⟨j, hj, rfl, rfl, hs, hbel⟩ := hrel
    by_cases hlt : j < n
    · obtain ⟨b, o, x, y, rfl, hbb, hcx, hcy, HX, hmem⟩ := (hb.below hbel).val hlt
      have hsz := hbel.size
      have hx := (HO.out _ hmem).1
      dsimp only at hx
      go_wp2
      go_roundw
      case rel =>
        have ht := sumF_snoc fs j (x, y) (at_take HX.out) hx.1
        dsimp only at ht
        exact ⟨j + 1, by omega, by go_num, val_int ht.symm, by omega, hbel.alloc hsz _⟩
      case measure => simp [intOf]; omega
    · go_wp2
      go_ret
      obtain rfl : j = n := by omega
      rw [List.take_of_length_le (by rw [H.out]; omega)]
      exact ⟨rfl, hbel⟩

/-- What putField leaves of the bytes l. -/
def Put (l : List Int) (a wd : Nat) (v : Int) (l' : List Int) : Prop :=
  l'.length = l.length ∧ (∀ x ∈ l', 0 ≤ x ∧ x < 256) ∧ ∀ i, bitOf l' i = if a ≤ i ∧ i < a + wd then v / 2 ^ (wd - 1 - (i - a)) % 2 else bitOf l i

theorem put_one (l l1 : List Int) (a wd j : Nat) (v : Int) (hl : a + wd ≤ 8 * l.length) (hj : j < wd) (h : Put l a j (v / 2 ^ (wd - j)) l1) (h0 : ∀ i, a ≤ i → bitOf l i = 0) :
    (a + j) / 8 < l1.length ∧ bitOf l1 (a + j) = 0 := by
  obtain ⟨h1, h2, h3⟩ := h
  exact ⟨by omega, by rw [h3, if_neg (by omega)]; exact h0 _ (by omega)⟩

theorem div_pow (v : Int) (i k : Nat) : v / 2 ^ i / 2 ^ k = v / 2 ^ (i + k) := by
  rw [Int.ediv_ediv_of_nonneg (Int.le_of_lt (Int.pow_pos (by decide))), ← Int.pow_add]

theorem put_next (l l1 : List Int) (a wd j : Nat) (v : Int) (hl : a + wd ≤ 8 * l.length) (hj : j < wd) (h : Put l a j (v / 2 ^ (wd - j)) l1) (h0 : ∀ i, a ≤ i → bitOf l i = 0)
    (b : Int) (hb : b = v / 2 ^ (wd - 1 - j) % 2) (l2 : List Int) (h2 : l2 = l1.set ((a + j) / 8) (l1[(a + j) / 8]?.getD 0 + b * 2 ^ (7 - (a + j) % 8))) :
    Put l a (j + 1) (v / 2 ^ (wd - (j + 1))) l2 := by
  obtain ⟨hi, hz⟩ := put_one l l1 a wd j v hl hj h h0
  obtain ⟨h1, hr, h3⟩ := h
  have hb01 : b = 0 ∨ b = 1 := by omega
  have key : ∀ i, (v / 2 ^ (wd - j)) / 2 ^ (j - 1 - (i - a)) % 2 = v / 2 ^ (wd - (j + 1)) / 2 ^ (j + 1 - 1 - (i - a)) % 2 ∨ ¬ (a ≤ i ∧ i < a + j) := by
    intro i
    by_cases hc : a ≤ i ∧ i < a + j
    · left
      rw [div_pow, div_pow]
      congr 3; omega
    · exact .inr hc
  have hnew : b = v / 2 ^ (wd - (j + 1)) / 2 ^ (j + 1 - 1 - (a + j - a)) % 2 := by
    rw [hb, div_pow]; congr 3; omega
  rcases hb01 with rfl | rfl
  · have : l2 = l1 := by
      rw [h2]
      simp only [Int.zero_mul, Int.add_zero]
      rw [List.getElem?_eq_getElem hi]
      exact List.set_getElem_self hi
    subst this
    refine ⟨h1, hr, fun i => ?_⟩
    rw [h3]
    by_cases hc : a ≤ i ∧ i < a + j
    · rw [if_pos hc, if_pos (by omega)]; exact (key i).resolve_right (by omega)
    · rw [if_neg hc]
      by_cases hij : i = a + j
      · subst hij
        rw [if_pos (by omega), ← hnew, h0 _ (by omega)]
      · rw [if_neg (by omega)]
  · simp only [Int.one_mul] at h2
    subst h2
    refine ⟨by simp [h1], set_range l1 (a + j) hi hr hz, fun i => ?_⟩
    rw [bitOf_set l1 (a + j) hi hr hz, h3]
    by_cases hij : i = a + j
    · subst hij
      rw [if_pos rfl, if_pos (by omega), ← hnew]
    · rw [if_neg hij]
      by_cases hc : a ≤ i ∧ i < a + j
      · rw [if_pos hc, if_pos (by omega)]; exact (key i).resolve_right (by omega)
      · rw [if_neg hc, if_neg (by omega)]

theorem put_val (x v : Int) (s k : Nat) (h0 : 0 ≤ x) (h1 : x < 256) (hv0 : 0 ≤ v) (hv1 : v < 2 ^ 60) (hs : s < 8) (hb : x / 2 ^ s % 2 = 0) :
    bits .or .u8 x (wrap64 (bits .and .i64 (v / 2 ^ k) 1 * 2 ^ s) % 256) = x + v / 2 ^ k % 2 * 2 ^ s := by
  have hd0 : 0 ≤ v / 2 ^ k := Int.ediv_nonneg hv0 (Int.le_of_lt (Int.pow_pos (by decide)))
  have hd1 := Int.ediv_le_self (2 ^ k) hv0
  rw [i64_and1 _ hd0 (by omega)]
  have hp := pow_le (j := s) (k := 7) (by omega)
  have hp0 : (0 : Int) < 2 ^ s := Int.pow_pos (by decide)
  rcases (by omega : v / 2 ^ k % 2 = 0 ∨ v / 2 ^ k % 2 = 1) with hz | hz
  · rw [hz, Int.zero_mul, IntWalk.wrap64_in _ ⟨by omega, by omega⟩]
    simpa using or_zero x h0 h1
  · rw [hz, Int.one_mul, IntWalk.wrap64_in _ ⟨by omega, by omega⟩, Int.emod_eq_of_lt (by omega) (by omega)]
    exact or_bit x s h0 h1 hs hb

def PutPost (l : List Int) (g n a wd : Nat) (v : Int) (base : Nat) (w : World) (e : Ending) (w' : World) : Prop :=
  e = .returned (.tuple #[]) ∧ ∃ l', Put l a wd v l' ∧ w'.ownsRow base 5 1 (.slice (some ⟨g, 0, none⟩) n n) n (l'.map (Value.int .u8)) ∧ w.grownBy w' (some g)

set_option maxHeartbeats 2000000 in
theorem bits_putField (l : List Int) (g n : Nat) (a' wd' v : Int) (w : World) (base : Nat) (hown : w.ownsRow base 5 1 (.slice (some ⟨g, 0, none⟩) n n) n (l.map (Value.int .u8)))
    (hr : ∀ x ∈ l, 0 ≤ x ∧ x < 256) (hn : n ≤ 140737488355328) (ha : 0 ≤ a') (hok : okF (wd', v)) (haw : a' + wd' ≤ 8 * n) (h0 : ∀ i, a'.toNat ≤ i → bitOf l i = 0) :
    Calls Tryd.prog 37 #[.slice (some ⟨g, 0, none⟩) n n, .int .i64 a', .agg #[.int .i64 wd', .int .i64 v]] w (PutPost l g n a'.toNat wd'.toNat v base w) := by
  obtain ⟨⟨hw0, hw1⟩, hv0, hv1⟩ := hok
  dsimp only at hw0 hw1 hv0 hv1
  obtain ⟨a, rfl⟩ := Int.eq_ofNat_of_zero_le ha
  obtain ⟨wd, rfl⟩ := Int.eq_ofNat_of_zero_le hw0
  simp only [Int.toNat_natCast] at h0 hv1 ⊢
  have HL := Lib.hid (show l.length = n by have := hown.1; simpa using this)
  have H0 := Lib.hid h0
  have HR := Lib.hid hr
  clear h0 hr ha hw0
  have hvb := pow_le (j := wd) (k := 60) (by omega)
  have hglt : g < w.heap.size := (hown.lt g rfl).2
  go_enter Tryd.func37, Tryd.ntmps37
  go_wp2
  go_loopw [10] (fun i wr => ∃ (j : Nat) (l1 : List Int), j ≤ wd ∧ i = .int .i64 j ∧ Hid (Put l a j (v / 2 ^ (wd - j)) l1) ∧ wr.ownsRow base 5 1 (.slice (some ⟨g, 0, none⟩) n n) n (l1.map (Value.int .u8)) ∧ w.grownBy wr (some g) ∧
      wr.cell? ⟨w.heap.size, 0, none⟩ = some (.int .i64 wd) ∧ wr.cell? ⟨w.heap.size, 1, none⟩ = some (.int .i64 v)) (fun i _ => wd - (intOf i).toNat)
  case atStart =>
    refine ⟨0, l, Nat.zero_le _, rfl, ⟨rfl, HR.out, fun i => by rw [if_neg (by omega)]⟩, hown.alloc _, World.grownBy_alloc _ _ _, ?_, ?_⟩ <;> simp [cell_of_row _ _ _ _ _ _ (heap_alloc_new w _)]
  case round =>
    obtain ⟨j, l1, hj, rfl, HP, hown1, hgr, hcw, hcv⟩ := hrel
    by_cases hlt : j < wd
    · have hpo := put_one l l1 a wd j v (by rw [HL.out]; omega) hlt HP.out H0.out
      have hix : (a + j) / 8 < n := by have := hpo.1; have h2 := HP.out.1; rw [HL.out] at h2; omega
      obtain ⟨x, hcb, HX, hxm⟩ := own_val hown1 hix
      have hxr := HP.out.2.1 _ hxm
      have hfz := hown1.frozenAt ((a + j) / 8)
      have HO := Lib.hid hpo
      clear hpo
      go_wp2
      refine region_first [0, 1, 2, 3, 4, 5, 6, 7, 8, 9, 10] (.cons 11 (seq [12, 13, 14, 15] (seq [16] .nil))) (by kernel_rfl) (by kernel_rfl) ?_
      simp only [pick, List.map_cons, List.map_nil, List.getD_cons_zero, List.getD_cons_succ]
      go_wp2
      refine ord_call (by kernel_rfl) ?_
      simp only [pick, List.map_cons, List.map_nil, List.getD_cons_zero, List.getD_cons_succ]
      go_wp2_with (go_at_call 40; refine (bits_shiftOf _ _ (by omega)).mono ?_; rintro e w' ⟨rfl, rfl⟩)
      refine ord_more [12, 13, 14, 15] (seq [16] .nil) (by kernel_rfl) ?_
      simp only [pick, List.map_cons, List.map_nil, List.getD_cons_zero, List.getD_cons_succ]
      go_wp2
      refine ord_last [16] (by kernel_rfl) ?_
      simp only [pick, List.map_cons, List.map_nil, List.getD_cons_zero, List.getD_cons_succ]
      go_wp2
      go_roundw
      case rel =>
        have hX : l1[(a + j) / 8]?.getD 0 = x := by rw [HX.out]; rfl
        have hz : x / 2 ^ (7 - (a + j) % 8) % 2 = 0 := by have := HO.out.2; unfold bitOf at this; rw [hX] at this; exact this
        rw [put_val x v _ _ hxr.1 hxr.2 hv0 (by omega) (by omega) hz]
        refine ⟨j + 1, l1.set ((a + j) / 8) (x + v / 2 ^ (wd - 1 - j) % 2 * 2 ^ (7 - (a + j) % 8)), by omega, by go_num, ?_, ?_, ?_, ?_, ?_⟩
        · exact put_next l l1 a wd j v (by rw [HL.out]; omega) hlt HP.out H0.out _ rfl _ (by rw [hX])
        · have := (World.ownsRow.stored hown1 ((a + j) / 8) (Value.int .u8 (x + v / 2 ^ (wd - 1 - j) % 2 * 2 ^ (7 - (a + j) % 8)))).1
          rw [← List.map_set] at this
          exact this
        · exact grown_drewN (grown_trans hgr (World.ownsRow.stored hown1 ((a + j) / 8) _).2) 1
        · have := grown_cell (o := 0) (World.ownsRow.stored hown1 ((a + j) / 8) (Value.int .u8 (x + v / 2 ^ (wd - 1 - j) % 2 * 2 ^ (7 - (a + j) % 8)))).2 (b := w.heap.size) (block_lt' hcw) (by omega)
          exact this.trans hcw
        · have := grown_cell (o := 1) (World.ownsRow.stored hown1 ((a + j) / 8) (Value.int .u8 (x + v / 2 ^ (wd - 1 - j) % 2 * 2 ^ (7 - (a + j) % 8)))).2 (b := w.heap.size) (block_lt' hcw) (by omega)
          exact this.trans hcv
      case measure => simp [intOf]; omega
    · obtain rfl : j = wd := by omega
      go_wp2
      go_end0
      refine ⟨rfl, l1, ?_, hown1, hgr⟩
      have := HP.out
      simpa using this

/-- What Write leaves. -/
def WritePost (fs : List (Int × Int)) (w : World) (e : Ending) (w' : World) : Prop :=
  ∃ v, e = .returned (.tuple #[v, .int .i64 (wrCode fs)]) ∧
    w'.ownsRow w.heap.size 5 1 v (wrBytes fs).length ((wrBytes fs).map (Value.int .u8)) ∧ Below w.heap.size w w'

theorem made_bytes (n : Nat) : (madeCells (Value.int .u8 0).cells (n * 1)).toList = (List.replicate n (0 : Int)).map (Value.int .u8) := by
  rw [madeCells_one _ rfl]; simp

theorem bitOf_zeros (n i : Nat) : bitOf (List.replicate n 0) i = 0 := by
  unfold bitOf
  have : (List.replicate n (0 : Int))[i / 8]?.getD 0 = 0 := by
    rw [List.getElem?_replicate]; split <;> rfl
  rw [this]; simp

/-- The bytes l hold the bits bs, and nothing behind them. -/
def HoldsB (l bs : List Int) : Prop := (∀ x ∈ l, 0 ≤ x ∧ x < 256) ∧ ∀ i, bitOf l i = bs[i]?.getD 0

theorem holds_put (l l' bs : List Int) (wd : Nat) (v : Int) (h : HoldsB l bs) (hp : Put l bs.length wd v l') : HoldsB l' (bs ++ bitsV wd v) := by
  obtain ⟨_, h2, h3⟩ := hp
  refine ⟨h2, fun i => ?_⟩
  rw [h3, h.2]
  by_cases hc : bs.length ≤ i ∧ i < bs.length + wd
  · rw [if_pos hc, List.getElem?_append_right hc.1, bitsV_at _ _ _ (by omega)]; rfl
  · rw [if_neg hc]
    by_cases hlt : i < bs.length
    · rw [List.getElem?_append_left hlt]
    · rw [List.getElem?_eq_none (by omega), List.getElem?_eq_none (by simp [bitsV_length]; omega)]

set_option maxHeartbeats 2000000 in
theorem bits_Write (fs : List (Int × Int)) (A : Option Addr) (n c : Nat) (w : World) (hb : RF w w.heap.size A n fs) (hn : n ≤ 140737488355328) :
    Calls Tryd.prog 34 #[.slice A n c] w (WritePost fs w) := by
  have H := Lib.hid hb.len
  by_cases hc : wrCode fs = 0
  · have hsm : n ≤ 400 := by
      rcases Nat.lt_or_ge 400 n with h | h
      · rw [wrCode_big (by rw [H.out]; exact h)] at hc; omega
      · exact h
    have hok : ∀ f ∈ fs, okF f := ckF_zero (by rw [wrCode_not (by rw [H.out]; omega)] at hc; exact hc)
    have hle := lenF_le fs hok
    rw [H.out] at hle
    have HO := Lib.hid hok
    have HC := Lib.hid hc
    have hcn : (wrCode fs != 0) = false := by simp [hc]
    clear hc hok
    go_enter Tryd.func34, Tryd.ntmps34
    go_wp2_with (go_at_call 35; refine (bits_checkFields fs _ _ _ _ hb hn).mono ?_; rintro e w1 ⟨rfl, hbel1⟩)
    refine (bits_sumOfWidths fs _ _ _ _ ((hb.below hbel1).more hbel1.size) hsm HO.out).mono ?_
    rintro e w2 ⟨rfl, hbel2⟩
    have hbelA : Below w.heap.size w w2 := hbel1.trans (hbel2.mono hbel1.size)
    have hszA := hbelA.size
    clear hbel1 hbel2
    obtain ⟨nb, hnb⟩ : ∃ nb, nb = ((bitsF fs).length + 7) / 8 := ⟨_, rfl⟩
    have HNB := Lib.hid hnb
    have hnb1 : 8 * nb ≤ (bitsF fs).length + 7 := by omega
    have hnb2 : (bitsF fs).length ≤ 8 * nb := by omega
    clear hnb
    go_wp2_with (at_make; refine make_all eltByte _ rfl _ _ rfl w.heap.size _ _ _ _ nb rfl rfl (by omega) (by omega) (by omega) (by omega) hszA ?_; intro w3 hown hbel3 hsz3 hgr3)
    rw [made_bytes] at hown
    have hbelB := hbel3 w hbelA
    have hg3 : w2.heap.size < w3.heap.size := (hown.lt _ rfl).2
    clear hbel3 hgr3
    go_wp2
    go_loopw [6, 22] (fun s i wr => ∃ (j : Nat) (l1 : List Int), j ≤ n ∧ i = .int .i64 j ∧ s = .int .i64 (bitsF (fs.take j)).length ∧ Hid (HoldsB l1 (bitsF (fs.take j))) ∧
        wr.ownsRow w.heap.size 5 1 (.slice (some ⟨w2.heap.size, 0, none⟩) nb nb) nb (l1.map (Value.int .u8)) ∧ Below w.heap.size w wr) (fun _ i _ => n - (intOf i).toNat)
    case atStart =>
      refine ⟨0, List.replicate nb 0, Nat.zero_le _, rfl, rfl, ⟨?_, ?_⟩, hown, hbelB⟩
      · intro x hx; rw [List.eq_of_mem_replicate hx]; omega
      · intro i; rw [bitOf_zeros]; rfl
    case round =>
      obtain ⟨j, l1, hj, rfl, rfl, HH, hown1, hbel⟩ := hrel
      clear hown hbelB
      by_cases hlt : j < n
      · obtain ⟨b, o, x, y, rfl, hbb, hcx, hcy, HX, hmem⟩ := (hb.below hbel).val hlt
        have hsz := hbel.size
        have hg : w2.heap.size < wr.heap.size := (hown1.lt _ rfl).2
        have hxy := HO.out _ hmem
        have hx := hxy.1
        dsimp only at hx
        have hsn := sumF_snoc fs j (x, y) (at_take HX.out) hx.1
        dsimp only at hsn
        have hle2 : (bitsF (fs.take (j + 1))).length ≤ (bitsF fs).length := by
          have := congrArg List.length (bitsF_append (fs.take (j + 1)) (fs.drop (j + 1)))
          rw [List.take_append_drop, List.length_append] at this
          omega
        have HSN := Lib.hid hsn
        have hfit : ((bitsF (fs.take j)).length : Int) + x ≤ 8 * nb := by omega
        clear hsn
        have hz : ∀ i, (bitsF (fs.take j)).length ≤ i → bitOf l1 i = 0 := by
          intro i hi
          rw [HH.out.2, List.getElem?_eq_none hi]; rfl
        have HZ := Lib.hid hz
        clear hz hxy
        go_wp2_with (go_at_call 37; refine (bits_putField l1 w2.heap.size nb _ _ _ _ w.heap.size (hown1.alloc _) HH.out.1 (by omega) (by omega) (HO.out _ hmem) (by omega) (by simpa using HZ.out)).mono ?_; rintro e w4 ⟨rfl, l2, HP, hown2, hgr4⟩; have hcf := (grown_cell (o := 0) hgr4 (b := wr.heap.size) (by simp) (by omega)))
        go_roundw
        case rel =>
          refine ⟨j + 1, l2, by omega, by go_num, val_int HSN.out.symm, ?_, hown2, below_set (hbel.alloc hsz _) hgr4 (by omega) (by simp; omega)⟩
          show HoldsB l2 _
          rw [at_take HX.out, bitsF_append, bitsF_one]
          exact holds_put l1 l2 _ _ _ HH.out (by simpa using HP)
        case measure => simp [intOf]; omega
      · obtain rfl : j = n := by omega
        go_wp2
        go_ret2
        have hall : fs.take j = fs := List.take_of_length_le (by rw [H.out]; omega)
        have hH := HH.out
        rw [hall] at hH
        have hl : l1.length = nb := by have := hown1.1; simpa using this
        have hpk : l1 = packB (bitsF fs) := pack_of l1 _ (by rw [hl, HNB.out]) hH.1 (fun i _ => hH.2 i)
        refine ⟨_, ret_two rfl (val_int HC.out.symm), ?_, hbel⟩
        rw [wrBytes, if_pos HC.out, ← hpk, hl]
        exact hown1
  · have HC := Lib.hid hc
    have hcn : (wrCode fs != 0) = true := by simp [hc]
    clear hc
    go_enter Tryd.func34, Tryd.ntmps34
    go_wp2_with (go_at_call 35; refine (bits_checkFields fs _ _ _ _ hb hn).mono ?_; rintro e w1 ⟨rfl, hbel1⟩)
    go_ret2
    refine ⟨_, ret_two rfl rfl, ?_, hbel1⟩
    rw [wrBytes, if_neg HC.out]
    exact World.ownsRow_nil _ _ _ _
end Go.Proofs.YtnpabbinckcbaaaDoor
