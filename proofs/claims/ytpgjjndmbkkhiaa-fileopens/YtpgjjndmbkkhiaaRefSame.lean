/- Two lists of bytes are compared as texts, in the document's answer. No statement of the seat is proved here; no condition. -/
import Derived.Test.YtpgjjndmbkkhiaaRows
import Derived.Test.YtpgjjndmbkkhiaaLib
import Derived.Laws.BytesArg
set_option linter.unusedSimpArgs false
set_option linter.unusedVariables false
namespace Go.Proofs.Ytpgjjndmbkkhiaa
open Go.RowKit Go.Ord Go.Baro

theorem str_inj : ∀ {xs ys : List Int}, (∀ x ∈ xs, 0 ≤ x ∧ x < 256) → (∀ x ∈ ys, 0 ≤ x ∧ x < 256) → xs.map (fun n => UInt8.ofNat n.toNat) = ys.map (fun n => UInt8.ofNat n.toNat) → xs = ys
  | [], [], _, _, _ => rfl
  | [], _ :: _, _, _, h => by simp at h
  | _ :: _, [], _, _, h => by simp at h
  | x :: xs, y :: ys, hx, hy, h => by
    simp only [List.map_cons, List.cons.injEq] at h
    have h1 := hx x (by simp)
    have h2 := hy y (by simp)
    have h3 := congrArg UInt8.toNat h.1
    rw [UInt8.toNat_ofNat', UInt8.toNat_ofNat'] at h3
    have : x = y := by omega
    rw [this, str_inj (fun x hx' => hx x (by simp [hx'])) (fun x hx' => hy x (by simp [hx'])) h.2]
theorem conv_str {xs : List Int} {A : Option Addr} {n : Nat} (c : Nat) {w : World} {B : Nat} (h : RI w B .u8 A n xs) : (convert 22 9 (.slice A n c)).run Try.prog w = .ok (.string (strOfNums xs)) w := by
  have hl := h.len
  rcases Nat.eq_zero_or_pos n with h0 | h0
  · subst h0
    have hx : xs = [] := List.eq_nil_of_length_eq_zero hl
    subst hx
    cases A with
    | none => exact run_convert_bytes_nil w _ _ Try.underlying22 Try.underlying5 0 c _ Try.underlying9
    | some ad =>
      rw [run_convert_bytes_string w _ _ _ _ 0 c Try.underlying22 Try.underlying5 Try.underlying9, run_bytesToString w _ 0 c [] (by simp [loadCells, loadCellsFrom])]
      rfl
  · obtain ⟨b, o, rfl, _, hc⟩ := Rd.at_ h h0
    refine run_convert_bytes_arg w _ _ Try.underlying22 Try.underlying5 b o n c xs hl (fun i hi => ?_) _ Try.underlying9
    rw [hc i (by omega), List.getElem?_map, List.getElem?_eq_getElem (by omega)]
    simp [List.getD, List.getElem?_eq_getElem (show i < xs.length by omega)]

set_option maxHeartbeats 1000000 in
theorem ref_sameBytes (xs ys : List Int) (A A' : Option Addr) (n c n' c' : Nat) (w : World) (B B' : Nat) (r : Bool) (h : RI w B .u8 A n xs) (h' : RI w B' .u8 A' n' ys) (hx : ∀ x ∈ xs, 0 ≤ x ∧ x < 256) (hy : ∀ x ∈ ys, 0 ≤ x ∧ x < 256) (hr : r = true ↔ xs = ys) :
    Calls Try.prog 22 #[.slice A n c, .slice A' n' c'] w fun e w' => e = .returned (.bool r) ∧ w = w' := by
  have hc1 := conv_str c h
  have hc2 := conv_str c' h'
  have HI := Lib.hid (show (strOfNums xs).toList = (strOfNums ys).toList ↔ r = true from ⟨fun he => hr.2 (str_inj hx hy (by rw [ByteArray.toList_eq, ByteArray.toList_eq] at he; exact he)), fun he => by rw [hr.1 he]⟩)
  clear hr hx hy
  generalize strOfNums xs = s1 at *
  generalize strOfNums ys = s2 at *
  go_enter Try.func22, Try.ntmps22
  go_wp2
  go_ret
  refine ⟨ret_bool ?_, rfl⟩
  have h1 := HI.out
  cases r with
  | true => simpa using h1.2 rfl
  | false =>
    simp only [Bool.false_eq_true, iff_false] at h1
    simpa using h1
end Go.Proofs.Ytpgjjndmbkkhiaa
