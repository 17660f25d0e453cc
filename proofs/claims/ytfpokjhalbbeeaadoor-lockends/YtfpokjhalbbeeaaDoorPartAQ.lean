/- Of this claim's own texts these, one behind the other: KeepLockEndsP, KeepLockAloneP, LockAlg6, AsmPure. No statement of the seat is proved here; no condition but those that stand at the theorems. -/
import Derived.Test.YtfpokjhalbbeeaaDoorPartAN
import Derived.Test.YtfpokjhalbbeeaaDoorPartAP
import Derived.Test.YtfpokjhalbbeeaaDoorPartAD
set_option linter.unusedSimpArgs false
set_option linter.unusedVariables false
namespace Go.Proofs.YtfpokjhalbbeeaaDoor
open Go.RowKit Go.Ord Go.OrdG Go.Baro

/-- How often each comes in. -/
def fK (x : List Int) (u : Nat) : Nat := ((x[u]?.getD 0) % 2).toNat
theorem fK_le (x : List Int) (u : Nat) : fK x u ≤ 1 := by unfold fK; omega
theorem fK_int (x : List Int) (u : Nat) : ((fK x u : Nat) : Int) = (x[u]?.getD 0) % 2 := by unfold fK; omega
theorem fK_out {x : List Int} {u : Nat} (h : x.length ≤ u) : fK x u = 0 := by unfold fK; rw [List.getElem?_eq_none h]; rfl
def totK (f : Nat → Nat) (t : Nat) : Nat := 1 + ((List.range t).map f).sum
theorem totK_succ (f : Nat → Nat) (t : Nat) : totK f (t + 1) = totK f t + f t := by simp [totK, List.range_succ]; omega
theorem totK_le {f : Nat → Nat} (h : ∀ u, f u ≤ 1) (t : Nat) : totK f t ≤ 1 + t := by
  induction t with
  | zero => simp [totK]
  | succ t ih => rw [totK_succ]; have := h t; omega
theorem totK_pos (f : Nat → Nat) (t : Nat) : 1 ≤ totK f t := by unfold totK; omega
/-- The numbers that are drawn, up to t. -/
def kC (f : Nat → Nat) (t : Nat) : List Value := (List.range 4).map fun u => Value.int .i64 ((if u < t then f u else 0 : Nat) : Int)
theorem kC_set {f : Nat → Nat} {t : Nat} (h : t < 4) : (kC f t).set t (.int .i64 (f t : Nat)) = kC f (t + 1) := by
  apply List.ext_getElem
  · simp [kC]
  · intro i h1 h2
    simp only [kC, List.length_set, List.length_map, List.length_range] at h1
    rw [List.getElem_set]
    simp only [kC, List.getElem_map, List.getElem_range]
    by_cases e : t = i
    · subst e; simp
    · rw [if_neg e]
      by_cases h3 : i < t
      · rw [if_pos h3, if_pos (by omega)]
      · rw [if_neg h3, if_neg (by omega)]
theorem kC_same {f : Nat → Nat} {t : Nat} (h : f t = 0) : kC f t = kC f (t + 1) := by
  unfold kC
  refine List.map_congr_left fun u _ => ?_
  by_cases h3 : u < t
  · rw [if_pos h3, if_pos (by omega)]
  · rw [if_neg h3]
    by_cases e : u = t
    · subst e; simp [h]
    · rw [if_neg (by omega)]
theorem kC_at {f : Nat → Nat} {t u : Nat} (h : u < 4) : (kC f t)[u]? = some (.int .i64 ((if u < t then f u else 0 : Nat) : Int)) := by simp [kC, h]
theorem rr_len (n k : Nat) : (rr n k).length = n * k := by
  induction k with
  | zero => simp [rr]
  | succ k ih => rw [rr_add, List.length_append, ih]; simp [rr, List.range_succ, Nat.mul_succ]
theorem rr_one (n : Nat) : rr n 1 = List.range n := by simp [rr]
/-- What is asked of the runs. -/
def LockEndsD (ws : Nat → List Int) (ce cl : Nat → List Ins) : Prop := ∀ (n : Nat) (f : Nat → Nat), 1 ≤ n → n ≤ 4 → (∀ u, f u ≤ 1) →
  noErr (plyG (mLock ws ce cl n f 0) 0 (rr n (300 * totK f n)) (g0 (mLock ws ce cl n f 0))) ∧
  (dgs (plyG (mLock ws ce cl n f 0) 0 (rr n (300 * totK f n)) (g0 (mLock ws ce cl n f 0))).out).length = 2 * (totK f n - 1) ∧
  ∀ x ∈ dgs (plyG (mLock ws ce cl n f 0) 0 (rr n (300 * totK f n)) (g0 (mLock ws ce cl n f 0))).out, x.e ≠ -1

set_option maxRecDepth 100000 in
set_option maxHeartbeats 1000000 in
theorem keep_LockEndsP (ws : Nat → List Int) (ce cl : Nat → List Ins) (hws : WordsOk 4 ws) (hce : CodesOk 4 ce) (hcl : CodesOk 4 cl) (hgood : LockEndsD ws ce cl) (hM : MaySpec) (hPl : PlaySpec) (hW : WSpec 8 4 ws) (hE : CSpec 9 4 ce) (hL : CSpec 10 4 cl)
    (w : World) (hT : Tab w) (x0 : Int) (r0 : -9223372036854775808 ≤ x0 ∧ x0 ≤ 9223372036854775807)
    (A1 : Option Addr) (n1 c1 : Nat) (x1 : List Int) (h1 : RI w w.heap.size .i64 A1 n1 x1) (b1 : n1 ≤ 17592186044416) (r1 : ∀ x ∈ x1, -9223372036854775808 ≤ x ∧ x ≤ 9223372036854775807) (_ : n1 ≤ c1) :
    Calls Tryd.prog 5 #[.int .i64 x0, .slice A1 n1 c1] w fun e w' => e = .returned (.bool true) ∧ Below w.heap.size w w' := by
  have HPl := Lib.hid hPl
  have HT := Lib.hid hT
  have HR1 := Lib.hid r1
  have HLM := Lib.hid (keep_lockMachine ws ce cl hws hce hcl hM hW hE hL)
  have HOk := Lib.hid (fun n (f : Nat → Nat) (hf : ∀ t, t < n → f t ≤ 6) h1 h4 => lock_ok (n := n) (wk := 0) (f := f) hws hce hcl h1 h4 (by omega) hf)
  have HGood := Lib.hid hgood
  have HX1 := Lib.hid h1
  have HXL := Lib.hid (show x1.length = n1 from h1.len)
  clear hPl hT r1 hM hW hE hL hgood hws hce hcl h1
  obtain ⟨n, hn⟩ : ∃ n : Nat, (n : Int) = 1 + x0 % 4 := ⟨(1 + x0 % 4).toNat, by omega⟩
  have hn1 : 1 ≤ n := by omega
  have hn4 : n ≤ 4 := by omega
  go_enter Tryd.func5, Tryd.ntmps5
  go_wp2_with fail
  refine (keep_Picked x0 4 _ (by omega) (by omega)).mono ?_
  rintro e w' ⟨rfl, rfl⟩
  obtain ⟨y0, hy0⟩ : ∃ y0, y0 = x0 % 4 := ⟨_, rfl⟩
  rw [← hy0] at hn ⊢
  have hyd : y0 = (n : Int) - 1 := by omega
  clear hy0 hn
  subst hyd
  have hnn : (1 + ((n : Int) - 1)) = (n : Int) := by omega
  go_wp2_with (refine make_all eltIntS w rfl _ _ rfl w.heap.size .i64 .i64 _ _ 4 rfl rfl rfl rfl (by omega) (by omega) (Nat.le_refl _) ?_; intro w1 hown1 hb1 hs1 hg1)
  obtain ⟨bx1, _⟩ := own_boxS hown1
  rw [madeCells_one _ rfl] at bx1
  have HF1 := Lib.hid (fun u => fK_le x1 u)
  have hK0 : List.replicate (4 * 1) (Value.int .i64 0) = kC (fK x1) 0 := by simp [kC, List.range_succ, List.replicate]
  have bx1' : Box w1 w.heap.size 3 (kC (fK x1) 0) := by rw [← hK0]; simpa using bx1
  have hb1' := hb1 w (Below.refl _ _)
  clear hown1 bx1 hK0 hb1 hg1
  have HX1' := Lib.hid (HX1.out.below hb1')
  go_wp2
  go_loopw [7, 8] (fun tt i wr => ∃ t : Nat, t ≤ n ∧ i = .int .i64 t ∧ tt = .int .i64 ((totK (fK x1) t : Nat) : Int) ∧ Box wr w.heap.size 3 (kC (fK x1) t) ∧ Below w.heap.size w wr) (fun _ i _ => n - (intOf i).toNat)
  case atStart => exact ⟨0, Nat.zero_le _, rfl, rfl, bx1', hb1'⟩
  case round =>
    clear bx1' hb1' hs1
    obtain ⟨t, ht, rfl, rfl, bx, hbel⟩ := hrel
    have hsz := hbel.size
    obtain ⟨q, hq⟩ : ∃ q, q = totK (fK x1) t := ⟨_, rfl⟩
    have hq5 : q ≤ 5 := by have := totK_le HF1.out t; omega
    rw [← hq]
    by_cases htn : t < n
    · have ht4 : t < 4 := by omega
      by_cases htl : t < n1
      · obtain ⟨b, o, x, rfl, hbB, hcell, HX, hmem⟩ := (HX1.out.below hbel).val htl
        have hfx : ((fK x1 t : Nat) : Int) = x % 2 := by rw [fK_int, HX.out]; rfl
        have HQ := Lib.hid hq
        obtain ⟨v, hv⟩ : ∃ v, v = fK x1 t := ⟨_, rfl⟩
        have hv1 : v ≤ 1 := by rw [hv]; exact HF1.out t
        have HV := Lib.hid hv
        rw [← hv] at hfx
        have bxs := bx.set t (.int .i64 (v : Int))
        rw [hv, kC_set ht4] at bxs
        have fz := bx.frozen t
        have cl := (bx.cell t).trans (kC_at ht4)
        have HBX := Lib.hid bxs
        have cl2 : (wr.setCell ⟨w.heap.size, t, none⟩ (.int .i64 (v : Int))).cell? ⟨w.heap.size, t, none⟩ = some (.int .i64 (v : Int)) := by
          have := (HBX.out.cell t).trans (kC_at ht4)
          rw [if_pos (by omega), ← HV.out] at this
          rw [HV.out] at this ⊢
          exact this
        clear hq hv hmem bxs bx
        go_wp2_with fail
        refine (keep_Picked x 2 _ (by omega) (by omega)).mono ?_
        rintro e w' ⟨rfl, rfl⟩
        rw [← hfx]
        have HFX := Lib.hid hfx
        clear hfx hcell
        go_wp2
        go_roundw
        case rel =>
          refine ⟨t + 1, by omega, by go_num, ?_, ?_, hbel.setCell (Nat.le_refl _) _⟩
          · rw [totK_succ, ← HQ.out, ← HV.out]; go_num
          · have := HBX.out
            rw [← HV.out] at this
            exact this
        case measure => simp [intOf]; omega
      · have hf0 : fK x1 t = 0 := fK_out (by rw [HXL.out]; omega)
        have cl := (bx.cell t).trans (kC_at ht4)
        rw [if_neg (by omega)] at cl
        have HBX := Lib.hid bx
        have HQ := Lib.hid hq
        have HF0 := Lib.hid hf0
        clear bx hq hf0
        go_wp2
        go_roundw
        case rel =>
          refine ⟨t + 1, by omega, by go_num, ?_, ?_, hbel⟩
          · rw [totK_succ, ← HQ.out, HF0.out]; go_num
          · rw [← kC_same HF0.out]; exact HBX.out
        case measure => simp [intOf]; omega
    · obtain rfl : t = n := by omega
      have hq1 : 1 ≤ q := by rw [hq]; exact totK_pos _ _
      obtain ⟨f, hf⟩ : ∃ f : Nat → Nat, f = fun u => if u < t then fK x1 u else 0 := ⟨_, rfl⟩
      have HQ := Lib.hid (show q = totK f t by
        rw [hq, hf]
        unfold totK
        congr 2
        refine List.map_congr_left fun u hu => ?_
        rw [if_pos (by simpa using hu)])
      have HFL := Lib.hid (show ∀ u, f u ≤ 1 from fun u => by rw [hf]; dsimp only; split; exact HF1.out u; omega)
      have hri : RI wr wr.heap.size .i64 (some ⟨w.heap.size, 0, none⟩) 4 ((List.range 4).map fun t => ((f t : Nat) : Int)) := by
        have := (QT.box (s := 1) (n := 4) bx rfl).rd
        have e : (kC (fK x1) t) = ((List.range 4).map fun t => ((f t : Nat) : Int)).map (Value.int .i64) := by rw [hf, List.map_map]; rfl
        rw [e] at this
        exact this
      have HRI := Lib.hid hri
      clear hq hf bx hri
      go_wp2_with fail
      refine (HLM.out _ (HT.out.below hbel HT.out.lt) t 0 hn1 hn4 (by omega) w.heap.size 0 4 4 f (fun u _ => by have := HFL.out u; omega) (by omega) (by exact HRI.out)).mono ?_
      rintro e w1 ⟨Aw, nw, cw, Ac, nc, cc, At, nt, ct, rfl, hin1, hb1⟩
      have hb1' := hbel.trans (hb1.mono hbel.size)
      clear hb1 HRI HLM
      have hs1 := hb1'.size
      have hA2 := (Below.refl w1.heap.size w1).alloc (Nat.le_refl _) (Obj.cells #[.slice Aw nw cw, .slice Ac nc cc, .slice At nt ct] 36)
      have bX := Box.newAt w1 36 [.slice Aw nw cw, .slice Ac nc cc, .slice At nt ct] w1.heap.size rfl
      have hb2 := hb1'.trans (hA2.mono hs1)
      have HIN2 := Lib.hid (hin1.below hA2)
      have lX := bX.lt
      obtain ⟨w2, hw2⟩ : ∃ w2, w2 = w1.alloc (Obj.cells #[.slice Aw nw cw, .slice Ac nc cc, .slice At nt ct] 36) := ⟨_, rfl⟩
      clear hin1
      have HW2 := Lib.hid hw2
      rw [← hw2] at hA2 bX hb2 HIN2 lX
      clear hw2
      have HBX := Lib.hid bX
      have hs2 := hb2.size
      go_wp2
      rw [← HW2.out]
      go_loopw [11, 12] (fun sv i wr => ∃ j m : Nat, j ≤ 300 * q ∧ Hid (m = t * j) ∧ i = .int .i64 j ∧ wr.ownsRow w2.heap.size 3 1 sv m (((rr t j).map (fun (x : Nat) => (x : Int))).map (Value.int .i64)) ∧ Below w2.heap.size w2 wr) (fun _ i _ => 300 * q - (intOf i).toNat)
      case atStart => exact ⟨0, 0, Nat.zero_le _, by first | rfl | exact ⟨rfl⟩, rfl, World.ownsRow_nil _ _ _ _, Below.refl _ _⟩
      case round =>
        obtain ⟨j, m, hj, HM, rfl, hown, hbel2⟩ := hrel
        have hsz2 := hbel2.size
        by_cases hjn : j < 300 * q
        · have hm6 : m + 4 ≤ 6004 := by
            have := HM.out
            have h3 : t * j ≤ 4 * 1500 := Nat.mul_le_mul hn4 (by omega)
            omega
          have e1 : decide ((j : Int) < 300 * (q : Int)) = true := by simp; omega
          go_wp2
          go_loopw [11, 13] (fun sv i wr => ∃ k mk : Nat, k ≤ t ∧ mk = m + k ∧ i = .int .i64 k ∧ wr.ownsRow w2.heap.size 3 1 sv mk (((rr t j ++ List.range k).map (fun (x : Nat) => (x : Int))).map (Value.int .i64)) ∧ Below w2.heap.size w2 wr) (fun _ i _ => t - (intOf i).toNat)
          case atStart => exact ⟨0, m, Nat.zero_le _, rfl, rfl, by simpa using hown, hbel2⟩
          case round =>
            clear hown hbel2 hsz2
            obtain ⟨k, mk, hk, hmk, rfl, hown, hbel2⟩ := hrel
            have hsz2 := hbel2.size
            by_cases hkn : k < t
            · go_wp2_with (at_builtin; go_must (refine app_lit eltIntS wr rfl _ _ rfl w2.heap.size _ mk _ rfl (by exact hown) 1 [.int .i64 k] wr.heap.size rfl rfl rfl (one_ints _ [(k : Int)]) (by omega) (by omega) hsz2 ?_); intro v3 w3 hown3 hgr3 hbel3 _)
              go_roundw
              case rel =>
                refine ⟨k + 1, mk + 1, by omega, by omega, by go_num, ?_, hbel3 _ hbel2⟩
                rw [List.range_succ, ← List.append_assoc, List.map_append, List.map_append]
                exact hown3
              case measure => simp [intOf]; omega
            · obtain rfl : t = k := by omega
              have HOWN := Lib.hid hown
              clear hown
              go_wp2
              go_roundw
              case rel =>
                refine ⟨j + 1, mk, by omega, ?_, by go_num, ?_, hbel2⟩
                · have h5 : mk = t * (j + 1) := by have := HM.out; rw [Nat.mul_succ]; omega
                  first | exact h5 | exact ⟨h5⟩
                · rw [rr_add, rr_one]
                  exact HOWN.out
              case measure => simp [intOf]; omega
        · obtain rfl : j = 300 * q := by omega
          obtain ⟨As, cs, rfl, hls⟩ := own_form hown
          have hm6 : m ≤ 6000 := by
            have := HM.out
            have h3 : t * (300 * q) ≤ 4 * 1500 := Nat.mul_le_mul hn4 (by omega)
            omega
          have HRS := Lib.hid (show RI wr wr.heap.size .i64 As m ((rr t (300 * q)).map (fun (x : Nat) => (x : Int))) from Rd.of_own hown)
          obtain ⟨S, hS⟩ : ∃ S, S = (rr t (300 * q)).map (fun (x : Nat) => (x : Int)) := ⟨_, rfl⟩
          have hbel8 := hb2.trans (hbel2.mono hs2)
          have HIM8 := Lib.hid (HIN2.out.below hbel2)
          have bX8 := HBX.out.below hbel2 lX
          have z0 : wr.cell? ⟨w1.heap.size, 0, none⟩ = _ := bX8.cell 0
          have z1 : wr.cell? ⟨w1.heap.size, 1, none⟩ = _ := bX8.cell 1
          have z2 : wr.cell? ⟨w1.heap.size, 2, none⟩ = _ := bX8.cell 2
          simp only [List.getElem?_cons_zero, List.getElem?_cons_succ] at z0 z1 z2
          have hSl : S.length ≤ 6000 := by rw [hS, List.length_map, rr_len, ← HM.out]; exact hm6
          have hSi : ∀ x ∈ S, 0 ≤ x ∧ x < t := fun x hx => by
            rw [hS] at hx
            obtain ⟨y, hy, rfl⟩ := List.mem_map.1 hx
            have := rr_lt hy
            omega
          have hSn : S.map Int.toNat = rr t (300 * q) := by rw [hS, List.map_map]; simp [Function.comp_def]
          rw [← hS] at HRS
          have hR := plR_fineL (HOk.out t f (fun u _ => by have := HFL.out u; omega) hn1 hn4) (S := S) hSl (fun x hx => by have := hSi x hx; simpa [mLock] using this)
          obtain ⟨hne, hcl, hone⟩ := HGood.out t f hn1 hn4 HFL.out
          rw [← HQ.out, ← hSn] at hne hcl hone
          have hrn := rn_ply _ hne
          obtain ⟨T, hTT⟩ : ∃ T, T = (plyG (mLock ws ce cl t f 0) 0 (S.map Int.toNat) (g0 (mLock ws ce cl t f 0))).out := ⟨_, rfl⟩
          obtain ⟨W, hWW⟩ : ∃ W, W = (plyG (mLock ws ce cl t f 0) 0 (S.map Int.toNat) (g0 (mLock ws ce cl t f 0))).w := ⟨_, rfl⟩
          rw [← hTT, ← hWW] at hR
          rw [← hTT] at hcl hone hrn
          have HR := Lib.hid hR
          have HCL := Lib.hid hcl
          have HONE := Lib.hid hone
          have HRN := Lib.hid hrn
          clear hR hcl hone hrn hne hTT hWW hSl hSi hSn hS hown HGood HOk bX8 HBX HIN2
          go_wp2_with fail
          refine (keep_ran HPl.out wr (HT.out.below hbel8 HT.out.lt) Aw nw cw Ac nc cc At nt ct (mLock ws ce cl t f 0) As m cs S T W HIM8.out HRS.out (by omega) HR.out HRN.out).mono ?_
          rintro e w4 ⟨A4, n4, c4, L, rfl, hlc4, hn4', HL, hD, hb5⟩
          have hb6 := hbel8.trans (hb5.mono hbel8.size)
          have LD := Lib.hid (show (dgs T).length = n4 by rw [← HL.out, List.length_map]; exact hD.len)
          have HDM := Lib.hid hD
          have HBW := Lib.hid hb6
          have hn42 : n4 = 2 * (q - 1) := by rw [← LD.out]; exact HCL.out
          clear HRS HIM8 HR HRN HPl hb5 hb2 hA2 hbel8 hD hb6 z0 z1 z2 hbel2 hsz2
          go_wp2
          go_loopw [16, 17] (fun ee i wr => ∃ j : Nat, j ≤ n4 ∧ i = .int .i64 j ∧ ee = .int .i64 j ∧ Below w4.heap.size w4 wr) (fun _ i _ => n4 - (intOf i).toNat)
          case atStart => exact ⟨0, Nat.zero_le _, rfl, rfl, Below.refl _ _⟩
          case round =>
            obtain ⟨j, hj2, rfl, rfl, hbel⟩ := hrel
            have hszz := hbel.size
            by_cases hjn2 : j < n4
            · obtain ⟨b, o, x, A', n'', k', rfl, hbB, d0, d1, d2, d3, d4, hlk, hn5, hri, HXL, HX⟩ := (HDM.out.below hbel).val hjn2
              have hxm : x ∈ dgs T := by rw [← HL.out]; exact List.mem_of_getElem? HX.out
              have hxe := HONE.out x hxm
              have e2 : (x.e != -1) = true := by simp [hxe]
              clear hxm
              go_wp2
              go_roundw
              case rel => exact ⟨j + 1, by omega, by go_num, by go_num, hbel⟩
              case measure => simp [intOf]; omega
            · obtain rfl : n4 = j := by omega
              have e3 : (((n4 : Nat) : Int) == 2 * ((q : Int) - 1)) = true := by simp; omega
              go_wp2
              go_ret
              exact ⟨rfl, HBW.out.trans (hbel.mono HBW.out.size)⟩
end Go.Proofs.YtfpokjhalbbeeaaDoor

set_option linter.unusedSimpArgs false
set_option linter.unusedVariables false
namespace Go.Proofs.YtfpokjhalbbeeaaDoor
open Go.RowKit Go.Ord Go.OrdG Go.Baro

/-- What is asked of the runs. -/
def LockAloneD (ws : Nat → List Int) (ce cl : Nat → List Ins) : Prop := ∀ (n w : Nat), 1 ≤ n → n ≤ 4 → w < n →
  noErr (plyG (mLock ws ce cl n (aloneF w) 0) 0 (List.replicate 1500 w) (g0 (mLock ws ce cl n (aloneF w) 0))) ∧
  (dgs (plyG (mLock ws ce cl n (aloneF w) 0) 0 (List.replicate 1500 w) (g0 (mLock ws ce cl n (aloneF w) 0))).out).length = 8 ∧
  ∀ x ∈ dgs (plyG (mLock ws ce cl n (aloneF w) 0) 0 (List.replicate 1500 w) (g0 (mLock ws ce cl n (aloneF w) 0))).out, x.e ≠ -1 ∧ x.th = w
theorem alone_cells {w : Nat} (h : w < 4) : (List.replicate 4 (Value.int .i64 0)).set w (.int .i64 4) = ((List.range 4).map fun t => ((aloneF w t : Nat) : Int)).map (Value.int .i64) := by
  rcases (by omega : w = 0 ∨ w = 1 ∨ w = 2 ∨ w = 3) with rfl | rfl | rfl | rfl <;> rfl

set_option maxRecDepth 100000 in
set_option maxHeartbeats 1000000 in
theorem keep_LockAloneP (ws : Nat → List Int) (ce cl : Nat → List Ins) (hws : WordsOk 4 ws) (hce : CodesOk 4 ce) (hcl : CodesOk 4 cl) (hgood : LockAloneD ws ce cl) (hM : MaySpec) (hPl : PlaySpec) (hW : WSpec 8 4 ws) (hE : CSpec 9 4 ce) (hL : CSpec 10 4 cl)
    (w : World) (hT : Tab w) (x0 : Int) (r0 : -9223372036854775808 ≤ x0 ∧ x0 ≤ 9223372036854775807) (x1 : Int) (r1 : -9223372036854775808 ≤ x1 ∧ x1 ≤ 9223372036854775807) :
    Calls Tryd.prog 6 #[.int .i64 x0, .int .i64 x1] w fun e w' => e = .returned (.bool true) ∧ Below w.heap.size w w' := by
  have HPl := Lib.hid hPl
  have HT := Lib.hid hT
  have HLM := Lib.hid (keep_lockMachine ws ce cl hws hce hcl hM hW hE hL)
  have HOk := Lib.hid (fun n (f : Nat → Nat) (hf : ∀ t, t < n → f t ≤ 6) h1 h4 => lock_ok (n := n) (wk := 0) (f := f) hws hce hcl h1 h4 (by omega) hf)
  have HGood := Lib.hid hgood
  clear hPl hT hM hW hE hL hgood hws hce hcl
  obtain ⟨n, hn⟩ : ∃ n : Nat, (n : Int) = 1 + x0 % 4 := ⟨(1 + x0 % 4).toNat, by omega⟩
  have hn1 : 1 ≤ n := by omega
  have hn4 : n ≤ 4 := by omega
  go_enter Tryd.func6, Tryd.ntmps6
  go_wp2_with fail
  refine (keep_Picked x0 4 _ (by omega) (by omega)).mono ?_
  rintro e w' ⟨rfl, rfl⟩
  obtain ⟨y0, hy0⟩ : ∃ y0, y0 = x0 % 4 := ⟨_, rfl⟩
  rw [← hy0] at hn ⊢
  have hyd : y0 = (n : Int) - 1 := by omega
  clear hy0 hn
  subst hyd
  have hnn : (1 + ((n : Int) - 1)) = (n : Int) := by omega
  go_wp2_with fail
  refine (keep_Picked x1 n _ (by omega) (by omega)).mono ?_
  rintro e w' ⟨rfl, rfl⟩
  obtain ⟨k, hk⟩ : ∃ k : Nat, (k : Int) = x1 % (n : Int) := ⟨(x1 % (n : Int)).toNat, by have := Int.emod_nonneg x1 (show (n : Int) ≠ 0 by omega); omega⟩
  have hkn : k < n := by have := Int.emod_lt_of_pos x1 (show 0 < (n : Int) by omega); omega
  rw [← hk]
  clear hk
  go_wp2_with (refine make_all eltIntS w rfl _ _ rfl w.heap.size .i64 .i64 _ _ 4 rfl rfl rfl rfl (by omega) (by omega) (Nat.le_refl _) ?_; intro w1 hown1 hb1 hs1 hg1; obtain ⟨bx1, _⟩ := own_boxS hown1; rw [madeCells_one _ rfl] at bx1; have bx1' : Box w1 w.heap.size 3 (List.replicate 4 (.int .i64 0)) := (by simpa using bx1); have fz := bx1'.frozen k; have cl : w1.cell? ⟨w.heap.size, k, none⟩ = some (.int .i64 0) := (bx1'.cell k).trans (by rw [List.getElem?_replicate, if_pos (by omega)]))
  have hb1' := hb1 w (Below.refl _ _)
  have bxs := bx1'.set k (.int .i64 4)
  rw [alone_cells (by omega)] at bxs
  have cl0 : w1.cell? ⟨w.heap.size, k, none⟩ = some (.int .i64 0) := (bx1'.cell k).trans (by rw [List.getElem?_replicate, if_pos (by omega)])
  have hbel : Below w.heap.size w (w1.setCell ⟨w.heap.size, k, none⟩ (.int .i64 4)) := hb1'.setCell (Nat.le_refl _) _
  have HRI := Lib.hid (show RI (w1.setCell ⟨w.heap.size, k, none⟩ (.int .i64 4)) (w1.setCell ⟨w.heap.size, k, none⟩ (.int .i64 4)).heap.size .i64 (some ⟨w.heap.size, 0, none⟩) 4 ((List.range 4).map fun t => ((aloneF k t : Nat) : Int)) from (QT.box (s := 1) (n := 4) bxs rfl).rd)
  have HF := Lib.hid (show ∀ u, aloneF k u ≤ 6 from fun u => by unfold aloneF; split <;> omega)
  clear hown1 bx1 hb1 hg1 bx1' bxs hb1' cl0 cl fz
  go_wp2_with fail
  refine (HLM.out _ (HT.out.below hbel HT.out.lt) n 0 hn1 hn4 (by omega) w.heap.size 0 4 4 (aloneF k) (fun u _ => HF.out u) (by omega) (by exact HRI.out)).mono ?_
  rintro e w2 ⟨Aw, nw, cw, Ac, nc, cc, At, nt, ct, rfl, hin1, hb1⟩
  have hb1' := hbel.trans (hb1.mono hbel.size)
  clear hb1 HRI HLM hbel
  have hs2 := hb1'.size
  have hA2 := (Below.refl w2.heap.size w2).alloc (Nat.le_refl _) (Obj.cells #[.slice Aw nw cw, .slice Ac nc cc, .slice At nt ct] 36)
  have bX := Box.newAt w2 36 [.slice Aw nw cw, .slice Ac nc cc, .slice At nt ct] w2.heap.size rfl
  have hb2 := hb1'.trans (hA2.mono hs2)
  have HIN2 := Lib.hid (hin1.below hA2)
  have lX := bX.lt
  obtain ⟨w3, hw3⟩ : ∃ w3, w3 = w2.alloc (Obj.cells #[.slice Aw nw cw, .slice Ac nc cc, .slice At nt ct] 36) := ⟨_, rfl⟩
  clear hin1
  have HW3 := Lib.hid hw3
  rw [← hw3] at hA2 bX hb2 HIN2 lX
  clear hw3
  have HBX := Lib.hid bX
  have hs3 := hb2.size
  go_wp2
  rw [← HW3.out]
  go_loopw [10, 11] (fun sv i wr => ∃ j : Nat, j ≤ 1500 ∧ i = .int .i64 j ∧ wr.ownsRow w3.heap.size 3 1 sv j ((List.replicate j (k : Int)).map (Value.int .i64)) ∧ Below w3.heap.size w3 wr) (fun _ i _ => 1500 - (intOf i).toNat)
  case atStart => exact ⟨0, Nat.zero_le _, rfl, World.ownsRow_nil _ _ _ _, Below.refl _ _⟩
  case round =>
    obtain ⟨j, hj, rfl, hown, hbel2⟩ := hrel
    have hsz2 := hbel2.size
    by_cases hjn : j < 1500
    · have e1 : decide ((j : Int) < 1500) = true := by simp; omega
      go_wp2
      go_loopw [10, 12] (fun sv i wr => ∃ t mk : Nat, t ≤ n ∧ mk = (if k < t then j + 1 else j) ∧ i = .int .i64 t ∧ wr.ownsRow w3.heap.size 3 1 sv mk ((List.replicate mk (k : Int)).map (Value.int .i64)) ∧ Below w3.heap.size w3 wr) (fun _ i _ => n - (intOf i).toNat)
      case atStart => exact ⟨0, j, Nat.zero_le _, by simp, rfl, hown, hbel2⟩
      case round =>
        clear hown hbel2 hsz2
        obtain ⟨t, mk, ht, hmk, rfl, hown, hbel2⟩ := hrel
        have hsz2 := hbel2.size
        have hmk2 : mk ≤ 1501 := by rw [hmk]; split <;> omega
        have HMK := Lib.hid hmk
        clear hmk
        by_cases htn : t < n
        · by_cases htk : t = k
          · subst htk
            go_wp2_with (at_builtin; go_must (refine app_lit eltIntS wr rfl _ _ rfl w3.heap.size _ mk _ rfl (by exact hown) 1 [.int .i64 t] wr.heap.size rfl rfl rfl (one_ints _ [(t : Int)]) (by omega) (by omega) hsz2 ?_); intro v3 w4 hown3 hgr3 hbel3 _)
            go_roundw
            case rel =>
              refine ⟨t + 1, mk + 1, by omega, ?_, by go_num, ?_, hbel3 _ hbel2⟩
              · have := HMK.out
                rw [if_neg (by omega)] at this
                rw [if_pos (by omega), this]
              · rw [List.replicate_succ', List.map_append]
                exact hown3
            case measure => simp [intOf]; omega
          · have HOWN := Lib.hid hown
            have e4 : ((t : Int) == (k : Int)) = false := by simp; omega
            clear hown
            go_wp2
            go_roundw
            case rel =>
              refine ⟨t + 1, mk, by omega, ?_, by go_num, HOWN.out, hbel2⟩
              rw [HMK.out]
              by_cases h : k < t
              · rw [if_pos h, if_pos (by omega)]
              · rw [if_neg h, if_neg (by omega)]
            case measure => simp [intOf]; omega
        · obtain rfl : n = t := by omega
          have HOWN := Lib.hid hown
          clear hown
          have hmj : mk = j + 1 := by rw [HMK.out, if_pos hkn]
          go_wp2
          go_roundw
          case rel =>
            refine ⟨j + 1, by omega, by go_num, ?_, hbel2⟩
            have := HOWN.out
            rw [hmj] at this
            exact this
          case measure => simp [intOf]; omega
    · obtain rfl : j = 1500 := by omega
      obtain ⟨As, cs, rfl, hls⟩ := own_form hown
      have HRS := Lib.hid (show RI wr wr.heap.size .i64 As 1500 (List.replicate 1500 (k : Int)) from Rd.of_own hown)
      obtain ⟨S, hS⟩ : ∃ S, S = List.replicate 1500 (k : Int) := ⟨_, rfl⟩
      have hbel8 := hb2.trans (hbel2.mono hs3)
      have HIM8 := Lib.hid (HIN2.out.below hbel2)
      have bX8 := HBX.out.below hbel2 lX
      have z0 : wr.cell? ⟨w2.heap.size, 0, none⟩ = _ := bX8.cell 0
      have z1 : wr.cell? ⟨w2.heap.size, 1, none⟩ = _ := bX8.cell 1
      have z2 : wr.cell? ⟨w2.heap.size, 2, none⟩ = _ := bX8.cell 2
      simp only [List.getElem?_cons_zero, List.getElem?_cons_succ] at z0 z1 z2
      have hSl : S.length ≤ 6000 := by rw [hS, List.length_replicate]; omega
      have hSi : ∀ x ∈ S, 0 ≤ x ∧ x < n := fun x hx => by
        rw [hS] at hx
        rw [List.eq_of_mem_replicate hx]; omega
      have hSn : S.map Int.toNat = List.replicate 1500 k := by rw [hS, List.map_replicate]; simp
      rw [← hS] at HRS
      have hR := plR_fineL (HOk.out n (aloneF k) (fun u _ => HF.out u) hn1 hn4) (S := S) hSl (fun x hx => by have := hSi x hx; simpa [mLock] using this)
      obtain ⟨hne, hcl, hone⟩ := HGood.out n k hn1 hn4 hkn
      rw [← hSn] at hne hcl hone
      have hrn := rn_ply _ hne
      obtain ⟨T, hTT⟩ : ∃ T, T = (plyG (mLock ws ce cl n (aloneF k) 0) 0 (S.map Int.toNat) (g0 (mLock ws ce cl n (aloneF k) 0))).out := ⟨_, rfl⟩
      obtain ⟨W, hWW⟩ : ∃ W, W = (plyG (mLock ws ce cl n (aloneF k) 0) 0 (S.map Int.toNat) (g0 (mLock ws ce cl n (aloneF k) 0))).w := ⟨_, rfl⟩
      rw [← hTT, ← hWW] at hR
      rw [← hTT] at hcl hone hrn
      have HR := Lib.hid hR
      have HCL := Lib.hid hcl
      have HONE := Lib.hid hone
      have HRN := Lib.hid hrn
      clear hR hcl hone hrn hne hTT hWW hSl hSi hSn hS hown HGood HOk bX8 HBX HIN2
      go_wp2_with fail
      refine (keep_ran HPl.out wr (HT.out.below hbel8 HT.out.lt) Aw nw cw Ac nc cc At nt ct (mLock ws ce cl n (aloneF k) 0) As 1500 cs S T W HIM8.out HRS.out (by omega) HR.out HRN.out).mono ?_
      rintro e w4 ⟨A4, n4, c4, L, rfl, hlc4, hn4', HL, hD, hb5⟩
      have hb6 := hbel8.trans (hb5.mono hbel8.size)
      have hn42 : n4 = 8 := by
        have : (dgs T).length = n4 := by rw [← HL.out, List.length_map]; exact hD.len
        rw [← this]; exact HCL.out
      subst hn42
      have HDM := Lib.hid hD
      have HBW := Lib.hid hb6
      clear HRS HIM8 HR HRN HPl hb5 hb2 hA2 hbel8 hD hb6 z0 z1 z2 hbel2 hsz2
      go_wp2
      go_loopw [15] (fun i wr => ∃ j : Nat, j ≤ 8 ∧ i = .int .i64 j ∧ Below w4.heap.size w4 wr) (fun i _ => 8 - (intOf i).toNat)
      case atStart => exact ⟨0, Nat.zero_le _, rfl, Below.refl _ _⟩
      case round =>
        obtain ⟨j, hj2, rfl, hbel⟩ := hrel
        have hszz := hbel.size
        by_cases hjn2 : j < 8
        · obtain ⟨b, o, x, A', n'', k', rfl, hbB, d0, d1, d2, d3, d4, hlk, hn5, hri, HXL, HX⟩ := (HDM.out.below hbel).val hjn2
          have hxm : x ∈ dgs T := by rw [← HL.out]; exact List.mem_of_getElem? HX.out
          obtain ⟨hxe, hxt⟩ := HONE.out x hxm
          have e2 : (x.e == -1) = false := by simp [hxe]
          have e3 : ((x.th : Int) != (k : Int)) = false := by simp [hxt]
          clear hxm hxe hxt
          go_wp2
          go_roundw
          case rel => exact ⟨j + 1, by omega, by go_num, hbel⟩
          case measure => simp [intOf]; omega
        · obtain rfl : j = 8 := by omega
          go_wp2
          go_ret
          exact ⟨rfl, HBW.out.trans (hbel.mono HBW.out.size)⟩
end Go.Proofs.YtfpokjhalbbeeaaDoor

set_option linter.unusedSimpArgs false
set_option linter.unusedVariables false
namespace Go.Proofs.YtfpokjhalbbeeaaDoor
open Go.Baro Go.Baro.Lok
theorem lock_ends : LockEndsD wsL (fun n => entC (lv n)) (fun n => leaC (lv n)) := by
  intro n f h1 h4 hf
  have hk := ends_all h1 h4 hf
  unfold endK at hk
  rw [mEnds_same] at hk
  have hp := totK_pos f n
  have e : 300 * totK f n = 160 + (300 * totK f n - 160) := by omega
  rw [e, rr_add]
  have hlen : (mEnds n f).ts.length = n := by simp [mLock]
  obtain ⟨_, k1, k2, k3⟩ := run_done (mEnds_codes h1 h4 f) (mEnds_calls n f) (S := rr n 160) (T := rr n (300 * totK f n - 160)) (fun x hx => by rw [hlen]; exact rr_lt hx) (fun x hx => by rw [hlen]; exact rr_lt hx) hk
  refine ⟨k1, ?_, k3⟩
  rw [k2]
  unfold totK; omega
set_option maxRecDepth 100000 in
theorem lock_alone : LockAloneD wsL (fun n => entC (lv n)) (fun n => leaC (lv n)) := by
  intro n w h1 h4 hw
  have hk := alone_all h1 h4 hw
  have hlen : (mEnds n (aloneF w)).ts.length = n := by simp [mLock]
  have hr : ∀ k, ∀ x ∈ List.replicate k w, x < (mEnds n (aloneF w)).ts.length := fun k x hx => by rw [hlen, List.eq_of_mem_replicate hx]; exact hw
  rw [show (1500 : Nat) = 250 + 1250 from rfl, ← List.replicate_append_replicate]
  exact alone_run (mEnds_codes h1 h4 (aloneF w)) (mEnds_calls n (aloneF w)) (hr 250) (hr 1250) hk
end Go.Proofs.YtfpokjhalbbeeaaDoor

set_option linter.unusedSimpArgs false
set_option linter.unusedVariables false
namespace Go.Baro

/-- A name. -/
abbrev Nm := List UInt8
/-- A builder: the code, the registers and the labels in the order of their names' first use, the jumps, whether a name was given twice. -/
structure Bs where
  code : List Ins
  regs : List (Nm × Int)
  labs : List (Nm × Int)
  jmps : List (Int × Nm)
  twice : Bool
def nmAsk : List (Nm × Int) → Nm → Option Int
  | [], _ => none
  | p :: ks, s => if p.1 = s then some p.2 else nmAsk ks s
theorem nmAsk_append (a b : List (Nm × Int)) (s : Nm) : nmAsk (a ++ b) s = (nmAsk a s).or (nmAsk b s) := by
  induction a with
  | nil => simp [nmAsk]
  | cons p a ih =>
    rw [List.cons_append, nmAsk, nmAsk]
    split
    · rfl
    · exact ih
/-- The number of a register; a new one is the next. -/
def Bs.rg (b : Bs) (s : Nm) : Bs × Int := match nmAsk b.regs s with
  | some v => (b, v)
  | none => ({ b with regs := b.regs ++ [(s, (b.regs.length : Int))] }, (b.regs.length : Int))
def Bs.put (b : Bs) (o : Ins) : Bs := { b with code := b.code ++ [o] }
def Bs.jmp (b : Bs) (l : Nm) : Bs := { b with jmps := b.jmps ++ [((b.code.length : Int), l)] }
def Bs.lab (b : Bs) (l : Nm) : Bs := { b with labs := b.labs ++ [(l, (b.code.length : Int))] }
def Bs.set (b : Bs) (to : Nm) (n : Int) : Bs := (b.rg to).1.put ⟨1, (b.rg to).2, n, 0, 0⟩
def Bs.two (b : Bs) (x y : Nm) : Bs × Int × Int := (((b.rg x).1.rg y).1, (b.rg x).2, ((b.rg x).1.rg y).2)
def Bs.three (b : Bs) (x y z : Nm) : Bs × Int × Int × Int := (((b.two x y).1.rg z).1, (b.two x y).2.1, (b.two x y).2.2, ((b.two x y).1.rg z).2)
def Bs.copy (b : Bs) (x y : Nm) : Bs := (b.two x y).1.put ⟨2, (b.two x y).2.1, (b.two x y).2.2, 0, 0⟩
def Bs.op3 (b : Bs) (k : Int) (x y z : Nm) : Bs := (b.three x y z).1.put ⟨k, (b.three x y z).2.1, (b.three x y z).2.2.1, (b.three x y z).2.2.2, 0⟩
def Bs.jump (b : Bs) (l : Nm) : Bs := (b.jmp l).put ⟨10, 0, 0, 0, 0⟩
def Bs.when (b : Bs) (r l : Nm) : Bs := ((b.jmp l).rg r).1.put ⟨11, ((b.jmp l).rg r).2, 0, 0, 0⟩
def Bs.unless (b : Bs) (r l : Nm) : Bs := ((b.jmp l).rg r).1.put ⟨12, ((b.jmp l).rg r).2, 0, 0, 0⟩
def Bs.load (b : Bs) (x y : Nm) (o : Int) : Bs := (b.two x y).1.put ⟨13, (b.two x y).2.1, (b.two x y).2.2, o, 0⟩
def Bs.store (b : Bs) (x y : Nm) (o : Int) : Bs := (b.two x y).1.put ⟨14, (b.two x y).2.1, (b.two x y).2.2, o, 0⟩
def Bs.cas (b : Bs) (x y : Nm) (o : Int) (z : Nm) : Bs := (b.three x y z).1.put ⟨15, (b.three x y z).2.1, (b.three x y z).2.2.1, o, (b.three x y z).2.2.2⟩
def Bs.emit1 (b : Bs) (x : Nm) : Bs := (b.rg x).1.put ⟨16, (b.rg x).2, 0, 0, 0⟩
def Bs.emit (b : Bs) (xs : List Nm) : Bs := xs.foldl Bs.emit1 b
def Bs.new (xs : List Nm) : Bs := xs.foldl (fun b x => (b.rg x).1) ⟨[], [], [], [], false⟩
/-- An instruction whose target is known. -/
def tgt (o : Ins) (v : Int) : Ins := if o.k = 10 then { o with a := v } else { o with b := v }
/-- The targets of the jumps are put in. -/
def rslv (labs : List (Nm × Int)) : List (Int × Nm) → List Ins → Option (List Ins)
  | [], c => some c
  | j :: js, c => match nmAsk labs j.2, c[j.1.toNat]? with
    | some v, some o => rslv labs js (c.set j.1.toNat (tgt o v))
    | _, _ => none
/-- The code, where nothing is wrong with it. -/
def Bs.fin (b : Bs) : Option (List Ins) := if b.twice = true then none else
  match rslv b.labs b.jmps b.code with
  | none => none
  | some c => if okC c then some c else none
theorem Bs.fin_some {b : Bs} {c : List Ins} (h : b.fin = some c) : b.twice = false ∧ rslv b.labs b.jmps b.code = some c ∧ okC c := by
  unfold Bs.fin at h
  by_cases ht : b.twice = true
  · rw [if_pos ht] at h; cases h
  · rw [if_neg ht] at h
    cases hr : rslv b.labs b.jmps b.code with
    | none => rw [hr] at h; cases h
    | some c' =>
      rw [hr] at h
      dsimp only at h
      split at h
      · cases h; exact ⟨by simpa using ht, rfl, by assumption⟩
      · cases h
theorem rslv_len (labs : List (Nm × Int)) : ∀ (js : List (Int × Nm)) (c c' : List Ins), rslv labs js c = some c' → c'.length = c.length
  | [], c, c', h => by cases h; rfl
  | j :: js, c, c', h => by
    unfold rslv at h
    split at h
    · rw [rslv_len labs js _ c' h]; simp
    · cases h
/-- A jump that is resolved. -/
theorem rslv_at (labs : List (Nm × Int)) {c' : List Ins} : ∀ (js : List (Int × Nm)) (c : List Ins), rslv labs js c = some c' → ∀ (i : Nat) (j : Int × Nm), js[i]? = some j → ∃ v o ci, nmAsk labs j.2 = some v ∧ rslv labs (js.drop i) ci = some c' ∧ rslv labs (js.take i) c = some ci ∧ ci[j.1.toNat]? = some o ∧ rslv labs (js.take (i + 1)) c = some (ci.set j.1.toNat (tgt o v)) ∧ rslv labs (js.drop (i + 1)) (ci.set j.1.toNat (tgt o v)) = some c'
  | [], c, h, i, j, hj => by simp at hj
  | k :: js, c, h, 0, j, hj => by
    simp at hj
    subst hj
    have h' := h
    unfold rslv at h
    cases ha : nmAsk labs k.2 with
    | none => simp [ha] at h
    | some v =>
      cases hc : c[k.1.toNat]? with
      | none => simp [ha, hc] at h
      | some o =>
        simp only [ha, hc] at h
        exact ⟨v, o, c, rfl, h', rfl, hc, by simp [rslv, ha, hc], by simpa using h⟩
  | k :: js, c, h, i + 1, j, hj => by
    unfold rslv at h
    cases ha : nmAsk labs k.2 with
    | none => simp [ha] at h
    | some v =>
      cases hc : c[k.1.toNat]? with
      | none => simp [ha, hc] at h
      | some o =>
        simp only [ha, hc] at h
        obtain ⟨v', o', ci, q1, q2, q3, q4, q5, q6⟩ := rslv_at labs js _ h i j (by simpa using hj)
        refine ⟨v', o', ci, q1, by simpa using q2, ?_, q4, ?_, by simpa using q6⟩
        · rw [List.take_succ_cons, rslv]
          simp only [ha, hc]
          exact q3
        · rw [List.take_succ_cons, rslv]
          simp only [ha, hc]
          exact q5
section
variable (b : Bs) (x y z l : Nm) (n k : Int)
theorem labs_rg : (b.rg x).1.labs = b.labs := by unfold Bs.rg; split <;> rfl
theorem labs_set : (b.set x n).labs = b.labs := labs_rg b x
theorem labs_two : (b.two x y).1.labs = b.labs := by unfold Bs.two; rw [labs_rg, labs_rg]
theorem labs_three : (b.three x y z).1.labs = b.labs := by unfold Bs.three; rw [labs_rg, labs_two]
theorem labs_copy : (b.copy x y).labs = b.labs := labs_two b x y
theorem labs_op3 : (b.op3 k x y z).labs = b.labs := labs_three b x y z
theorem labs_jump : (b.jump l).labs = b.labs := rfl
theorem labs_when : (b.when x l).labs = b.labs := labs_rg (b.jmp l) x
theorem labs_unless : (b.unless x l).labs = b.labs := labs_rg (b.jmp l) x
theorem labs_load : (b.load x y n).labs = b.labs := labs_two b x y
theorem labs_store : (b.store x y n).labs = b.labs := labs_two b x y
theorem labs_cas : (b.cas x y n z).labs = b.labs := labs_three b x y z
theorem nmAsk_lab {b : Bs} {l l' : Nm} (h : nmAsk b.labs l = none) (hne : l' ≠ l) : nmAsk (b.lab l').labs l = none := by
  unfold Bs.lab
  dsimp only
  rw [nmAsk_append, h]
  simp [nmAsk, hne]
theorem labs_fold {α : Type} {f : Bs → α → Bs} (h : ∀ b a, (f b a).labs = b.labs) : ∀ (l : List α) (b : Bs), (l.foldl f b).labs = b.labs
  | [], b => rfl
  | a :: l, b => by rw [List.foldl_cons, labs_fold h l, h]
theorem labs_new (xs : List Nm) : (Bs.new xs).labs = [] := labs_fold (f := fun b x => (b.rg x).1) (fun b a => labs_rg b a) xs _
end
end Go.Baro
