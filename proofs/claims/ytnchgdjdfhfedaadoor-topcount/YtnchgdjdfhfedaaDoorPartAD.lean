/- Of this claim's own texts these, one behind the other: VmPure, LibO, LibB, LibL, OpenL. No statement of the seat is proved here; no condition but those that stand at the theorems. -/
import Derived.RowKit
import Derived.IntWalk
import Derived.Test.YtnchgdjdfhfedaaDoorPartAC
import Derived.OpenShut
set_option linter.unusedSimpArgs false
set_option linter.unusedVariables false
namespace Go.Baro
open Go.RowKit (wrap64)

/-- An instruction. -/
structure Ins where
  k : Int
  a : Int
  b : Int
  c : Int
  d : Int

def isR (n : Int) : Prop := 0 ≤ n ∧ n < 24
def isT (n : Nat) (x : Int) : Prop := 0 ≤ x ∧ x ≤ n
instance (n : Int) : Decidable (isR n) := by unfold isR; infer_instance
instance (n : Nat) (x : Int) : Decidable (isT n x) := by unfold isT; infer_instance

/-- An instruction that is valid in a code of n. -/
def okI (n : Nat) (o : Ins) : Prop :=
  (o.k = 1 ∧ isR o.a ∧ o.c = 0 ∧ o.d = 0) ∨ (o.k = 2 ∧ isR o.a ∧ isR o.b ∧ o.c = 0 ∧ o.d = 0) ∨ ((3 ≤ o.k ∧ o.k ≤ 9) ∧ isR o.a ∧ isR o.b ∧ isR o.c ∧ o.d = 0) ∨
  (o.k = 10 ∧ isT n o.a ∧ o.b = 0 ∧ o.c = 0 ∧ o.d = 0) ∨ ((o.k = 11 ∨ o.k = 12) ∧ isR o.a ∧ isT n o.b ∧ o.c = 0 ∧ o.d = 0) ∨ ((o.k = 13 ∨ o.k = 14) ∧ isR o.a ∧ isR o.b ∧ o.d = 0) ∨
  (o.k = 15 ∧ isR o.a ∧ isR o.b ∧ isR o.d) ∨ (o.k = 16 ∧ isR o.a ∧ o.b = 0 ∧ o.c = 0 ∧ o.d = 0) ∨ (o.k = 17 ∧ o.a = 0 ∧ o.b = 0 ∧ o.c = 0 ∧ o.d = 0)
instance (n : Nat) (o : Ins) : Decidable (okI n o) := by unfold okI; infer_instance
/-- A valid code. -/
def okC (c : List Ins) : Prop := c.length ≤ 200 ∧ ∀ o ∈ c, okI c.length o
instance (c : List Ins) : Decidable (okC c) := by unfold okC; infer_instance

def inW (x : Int) : Prop := -9223372036854775808 ≤ x ∧ x ≤ 9223372036854775807
/-- The fields of an instruction are numbers of 64 bits. -/
def inI (o : Ins) : Prop := inW o.k ∧ inW o.a ∧ inW o.b ∧ inW o.c ∧ inW o.d
theorem inW_wrap (x : Int) : inW (wrap64 x) := by unfold inW wrap64; omega

/-- A thread's state: the next instruction, the registers, the shared words, the numbers emitted. -/
structure Vs where
  p : Int
  r : Int → Int
  w : List Int
  t : List Int

def upd (r : Int → Int) (a v : Int) : Int → Int := fun i => if i = a then v else r i
theorem upd_same (r : Int → Int) (a v : Int) : upd r a v a = v := by simp [upd]
theorem upd_other (r : Int → Int) {a i : Int} (v : Int) (h : i ≠ a) : upd r a v i = r i := by simp [upd, h]

def cmpV (k b c : Int) : Int :=
  if k = 3 then wrap64 (b + c) else if k = 4 then wrap64 (b - c) else if k = 5 then wrap64 (b * c) else if k = 6 then (if c = 0 then 0 else wrap64 (b.tdiv c)) else if k = 7 then (if c = 0 then 0 else b.tmod c)
  else if k = 8 then (if b = c then 1 else 0) else if k = 9 then (if b < c then 1 else 0) else 0

/-- One instruction, in a code of n. -/
def stp (n : Nat) (o : Ins) (s : Vs) : Vs × Int :=
  if o.k = 1 then ({ s with p := s.p + 1, r := upd s.r o.a o.b }, 0)
  else if o.k = 2 then ({ s with p := s.p + 1, r := upd s.r o.a (s.r o.b) }, 0)
  else if o.k = 10 then ({ s with p := o.a }, 0)
  else if o.k = 11 then ({ s with p := if s.r o.a = 0 then s.p + 1 else o.b }, 0)
  else if o.k = 12 then ({ s with p := if s.r o.a = 0 then o.b else s.p + 1 }, 0)
  else if o.k = 13 then (if wrap64 (s.r o.b + o.c) < 0 ∨ (s.w.length : Int) ≤ wrap64 (s.r o.b + o.c) then ({ s with p := s.p + 1 }, 2) else ({ s with p := s.p + 1, r := upd s.r o.a (s.w[(wrap64 (s.r o.b + o.c)).toNat]?.getD 0) }, 0))
  else if o.k = 14 then (if wrap64 (s.r o.b + o.c) < 0 ∨ (s.w.length : Int) ≤ wrap64 (s.r o.b + o.c) then ({ s with p := s.p + 1 }, 2) else ({ s with p := s.p + 1, w := s.w.set (wrap64 (s.r o.b + o.c)).toNat (s.r o.a) }, 0))
  else if o.k = 15 then (if wrap64 (s.r o.b + o.c) < 0 ∨ (s.w.length : Int) ≤ wrap64 (s.r o.b + o.c) then ({ s with p := s.p + 1 }, 2)
    else if s.w[(wrap64 (s.r o.b + o.c)).toNat]?.getD 0 = s.r o.d then ({ s with p := s.p + 1, w := s.w.set (wrap64 (s.r o.b + o.c)).toNat (s.r o.a), r := upd s.r o.a 1 }, 0) else ({ s with p := s.p + 1, r := upd s.r o.a 0 }, 0))
  else if o.k = 16 then (if s.t.length = 200 then ({ s with p := s.p + 1 }, 8) else ({ s with p := s.p + 1, t := s.t ++ [s.r o.a] }, 0))
  else if o.k = 17 then ({ s with p := n }, 0)
  else ({ s with p := s.p + 1, r := upd s.r o.a (cmpV o.k (s.r o.b) (s.r o.c)) }, 0)

/-- At most f instructions: the state, how many, and the error. -/
def rn (c : List Ins) : Nat → Vs → Vs × Nat × Int
  | 0, s => if s.p = c.length then (s, 0, 0) else (s, 0, 11)
  | f + 1, s => if s.p = c.length then (s, 0, 0) else
      if (stp c.length (c[s.p.toNat]?.getD ⟨17, 0, 0, 0, 0⟩) s).2 ≠ 0 then ((stp c.length (c[s.p.toNat]?.getD ⟨17, 0, 0, 0, 0⟩) s).1, 1, (stp c.length (c[s.p.toNat]?.getD ⟨17, 0, 0, 0, 0⟩) s).2)
      else ((rn c f (stp c.length (c[s.p.toNat]?.getD ⟨17, 0, 0, 0, 0⟩) s).1).1, (rn c f (stp c.length (c[s.p.toNat]?.getD ⟨17, 0, 0, 0, 0⟩) s).1).2.1 + 1, (rn c f (stp c.length (c[s.p.toNat]?.getD ⟨17, 0, 0, 0, 0⟩) s).1).2.2)

theorem rn_end {c : List Ins} {s : Vs} (h : s.p = c.length) (f : Nat) : rn c f s = (s, 0, 0) := by cases f <;> simp [rn, h]
theorem rn_over {c : List Ins} {s : Vs} (h : s.p ≠ c.length) : rn c 0 s = (s, 0, 11) := by simp [rn, h]
theorem rn_err {c : List Ins} {s s' : Vs} {o : Ins} {e : Int} {f : Nat} (h : s.p ≠ c.length) (ho : c[s.p.toNat]? = some o) (hs : stp c.length o s = (s', e)) (he : e ≠ 0) : rn c (f + 1) s = (s', 1, e) := by
  simp [rn, h, ho, hs, he]
theorem rn_step {c : List Ins} {s s' : Vs} {o : Ins} {f : Nat} (h : s.p ≠ c.length) (ho : c[s.p.toNat]? = some o) (hs : stp c.length o s = (s', 0)) : rn c (f + 1) s = ((rn c f s').1, (rn c f s').2.1 + 1, (rn c f s').2.2) := by
  simp [rn, h, ho, hs]

/-- What a state keeps to. -/
structure Ok (n : Nat) (s : Vs) : Prop where
  lo : 0 ≤ s.p
  hi : s.p ≤ n
  r : ∀ i, inW (s.r i)
  w : ∀ x ∈ s.w, inW x
  wl : s.w.length ≤ 200
  t : ∀ x ∈ s.t, inW x
  tl : s.t.length ≤ 200

theorem tmod_in {b c : Int} (hc : c ≠ 0) (h : inW c) : inW (b.tmod c) := by
  unfold inW at *
  have h1 := Int.natAbs_tmod b c
  have h2 := Nat.mod_lt b.natAbs (show 0 < c.natAbs by omega)
  omega
theorem cmpV_in (k b c : Int) (hc : inW c) : inW (cmpV k b c) := by
  have h0 : inW 0 := by unfold inW; omega
  have h1 : inW 1 := by unfold inW; omega
  unfold cmpV
  split; · exact inW_wrap _
  split; · exact inW_wrap _
  split; · exact inW_wrap _
  split
  · split
    · exact h0
    · exact inW_wrap _
  split
  · split
    · exact h0
    · exact tmod_in (by assumption) hc
  split
  · split <;> assumption
  split
  · split <;> assumption
  exact h0
theorem upd_in {r : Int → Int} (h : ∀ i, inW (r i)) {a v : Int} (hv : inW v) (i : Int) : inW (upd r a v i) := by
  unfold upd; split
  · exact hv
  · exact h i
theorem at_in {l : List Int} (h : ∀ x ∈ l, inW x) (i : Nat) : inW (l[i]?.getD 0) := by
  cases hi : l[i]? with
  | none => simp [inW]
  | some x => exact h x (List.mem_of_getElem? hi)
theorem set_in {l : List Int} (h : ∀ x ∈ l, inW x) (i : Nat) {v : Int} (hv : inW v) : ∀ x ∈ l.set i v, inW x := by
  intro x hx
  rcases List.mem_or_eq_of_mem_set hx with h1 | h1
  · exact h x h1
  · rw [h1]; exact hv

/-- The remainder as the document's answer reckons it. -/
theorem rem_wrap (b c : Int) (hc : c ≠ 0) (h : inW c) : wrap64 (b - wrap64 (wrap64 (b.tdiv c) * c)) = b.tmod c := by
  have h1 := tmod_in (b := b) hc h
  have h2 := Int.tdiv_mul_add_tmod b c
  have e1 : ∀ x, ∃ j : Int, wrap64 x = x + 18446744073709551616 * j := by
    intro x
    refine ⟨-((x + 9223372036854775808) / 18446744073709551616), ?_⟩
    unfold wrap64; omega
  obtain ⟨j1, e1'⟩ := e1 (b.tdiv c)
  obtain ⟨j2, e2'⟩ := e1 (wrap64 (b.tdiv c) * c)
  have e3 : b - wrap64 (wrap64 (b.tdiv c) * c) = b.tmod c + 18446744073709551616 * (-(j1 * c) - j2) := by
    rw [e2', e1', Int.add_mul, Int.mul_assoc, Int.mul_sub, Int.mul_neg]; omega
  rw [e3]
  generalize -(j1 * c) - j2 = j
  generalize b.tmod c = m at *
  unfold inW at h1
  unfold wrap64
  omega

theorem stp_ok {n : Nat} {o : Ins} {s : Vs} (ho : okI n o) (hi : inI o) (hs : Ok n s) (hp : s.p < n) : Ok n (stp n o s).1 := by
  obtain ⟨h1, h2, h3, h4, h5, h6, h7⟩ := hs
  have i0 : inW 0 := by unfold inW; omega
  have i1 : inW 1 := by unfold inW; omega
  obtain ⟨ik, ia, ib, ic, id'⟩ := hi
  unfold okI isR isT at ho
  have hR : ∀ {r : Int → Int} {q : Int} {l t : List Int}, 0 ≤ q → q ≤ n → (∀ i, inW (r i)) → (∀ x ∈ l, inW x) → l.length ≤ 200 → (∀ x ∈ t, inW x) → t.length ≤ 200 → Ok n ⟨q, r, l, t⟩ := fun a b c d e f g => ⟨a, b, c, d, e, f, g⟩
  have hq : ∀ {b : Prop} [Decidable b] {x y : Vs × Int}, (b → Ok n x.1) → (¬ b → Ok n y.1) → Ok n (if b then x else y).1 := by
    intro b _ x y hx hy
    by_cases hb : b
    · rw [if_pos hb]; exact hx hb
    · rw [if_neg hb]; exact hy hb
  have hw : ∀ (i : Nat) (v : Int), (s.w.set i v).length ≤ 200 := fun i v => by rw [List.length_set]; exact h5
  have ht : ∀ v, inW v → ∀ x ∈ s.t ++ [v], inW x := by
    intro v hv x hx
    rcases List.mem_append.1 hx with hx | hx
    · exact h6 x hx
    · rw [List.mem_singleton.1 hx]; exact hv
  unfold stp
  refine hq (fun e => hR (by omega) (by omega) (upd_in h3 ib) h4 h5 h6 h7) fun e1 => ?_
  refine hq (fun e => hR (by omega) (by omega) (upd_in h3 (h3 _)) h4 h5 h6 h7) fun e2 => ?_
  refine hq (fun e => hR (by omega) (by omega) h3 h4 h5 h6 h7) fun e10 => ?_
  refine hq (fun e => hR (by split <;> omega) (by split <;> omega) h3 h4 h5 h6 h7) fun e11 => ?_
  refine hq (fun e => hR (by split <;> omega) (by split <;> omega) h3 h4 h5 h6 h7) fun e12 => ?_
  refine hq (fun e => hq (fun _ => hR (by omega) (by omega) h3 h4 h5 h6 h7) fun _ => hR (by omega) (by omega) (upd_in h3 (at_in h4 _)) h4 h5 h6 h7) fun e13 => ?_
  refine hq (fun e => hq (fun _ => hR (by omega) (by omega) h3 h4 h5 h6 h7) fun _ => hR (by omega) (by omega) h3 (set_in h4 _ (h3 _)) (hw _ _) h6 h7) fun e14 => ?_
  refine hq (fun e => hq (fun _ => hR (by omega) (by omega) h3 h4 h5 h6 h7) fun _ => hq (fun _ => hR (by omega) (by omega) (upd_in h3 i1) (set_in h4 _ (h3 _)) (hw _ _) h6 h7) fun _ => hR (by omega) (by omega) (upd_in h3 i0) h4 h5 h6 h7) fun e15 => ?_
  refine hq (fun e => hq (fun _ => hR (by omega) (by omega) h3 h4 h5 h6 h7) fun _ => hR (by omega) (by omega) h3 h4 h5 (ht _ (h3 _)) (by rw [List.length_append, List.length_singleton]; omega)) fun e16 => ?_
  refine hq (fun e => hR (by omega) (by omega) h3 h4 h5 h6 h7) fun e17 => ?_
  exact hR (by omega) (by omega) (upd_in h3 (cmpV_in _ _ _ (h3 _))) h4 h5 h6 h7

section
variable {n : Nat} {a b c d : Int} {s : Vs}
theorem stp_1 : stp n ⟨1, a, b, c, d⟩ s = ({ s with p := s.p + 1, r := upd s.r a b }, 0) := by simp only [stp, Int.reduceEq, if_false, if_true]
theorem stp_2 : stp n ⟨2, a, b, c, d⟩ s = ({ s with p := s.p + 1, r := upd s.r a (s.r b) }, 0) := by simp only [stp, Int.reduceEq, if_false, if_true]
theorem stp_10 : stp n ⟨10, a, b, c, d⟩ s = ({ s with p := a }, 0) := by simp only [stp, Int.reduceEq, if_false, if_true]
theorem stp_11 : stp n ⟨11, a, b, c, d⟩ s = ({ s with p := if s.r a = 0 then s.p + 1 else b }, 0) := by simp only [stp, Int.reduceEq, if_false, if_true]
theorem stp_12 : stp n ⟨12, a, b, c, d⟩ s = ({ s with p := if s.r a = 0 then b else s.p + 1 }, 0) := by simp only [stp, Int.reduceEq, if_false, if_true]
theorem stp_16 : stp n ⟨16, a, b, c, d⟩ s = if s.t.length = 200 then ({ s with p := s.p + 1 }, 8) else ({ s with p := s.p + 1, t := s.t ++ [s.r a] }, 0) := by simp only [stp, Int.reduceEq, if_false, if_true]
theorem stp_17 : stp n ⟨17, a, b, c, d⟩ s = ({ s with p := n }, 0) := by simp only [stp, Int.reduceEq, if_false, if_true]
theorem stp_cmp {k : Int} (h : 3 ≤ k ∧ k ≤ 9) : stp n ⟨k, a, b, c, d⟩ s = ({ s with p := s.p + 1, r := upd s.r a (cmpV k (s.r b) (s.r c)) }, 0) := by
  simp only [stp]
  rw [if_neg (by omega), if_neg (by omega), if_neg (by omega), if_neg (by omega), if_neg (by omega), if_neg (by omega), if_neg (by omega), if_neg (by omega), if_neg (by omega), if_neg (by omega)]
theorem stp_out {k q : Int} (hk : k = 13 ∨ k = 14 ∨ k = 15) (hq : wrap64 (s.r b + c) = q) (h : q < 0 ∨ (s.w.length : Int) ≤ q) : stp n ⟨k, a, b, c, d⟩ s = ({ s with p := s.p + 1 }, 2) := by
  rcases hk with rfl | rfl | rfl <;> (simp only [stp, Int.reduceEq, if_false, if_true]; rw [hq, if_pos h])
theorem stp_13 {q : Nat} {x : Int} (hq : wrap64 (s.r b + c) = q) (h : s.w[q]? = some x) : stp n ⟨13, a, b, c, d⟩ s = ({ s with p := s.p + 1, r := upd s.r a x }, 0) := by
  have := (List.getElem?_eq_some_iff.1 h).1
  simp only [stp, Int.reduceEq, if_false, if_true]
  rw [hq, if_neg (by omega), Int.toNat_natCast, h]
  rfl
theorem stp_14 {q : Nat} (hq : wrap64 (s.r b + c) = q) (h : q < s.w.length) : stp n ⟨14, a, b, c, d⟩ s = ({ s with p := s.p + 1, w := s.w.set q (s.r a) }, 0) := by
  simp only [stp, Int.reduceEq, if_false, if_true]
  rw [hq, if_neg (by omega), Int.toNat_natCast]
theorem stp_15t {q : Nat} {x : Int} (hq : wrap64 (s.r b + c) = q) (h : s.w[q]? = some x) (hx : x = s.r d) : stp n ⟨15, a, b, c, d⟩ s = ({ s with p := s.p + 1, w := s.w.set q (s.r a), r := upd s.r a 1 }, 0) := by
  have := (List.getElem?_eq_some_iff.1 h).1
  simp only [stp, Int.reduceEq, if_false, if_true]
  rw [hq, if_neg (by omega), Int.toNat_natCast, h, Option.getD_some, if_pos hx]
theorem stp_15f {q : Nat} {x : Int} (hq : wrap64 (s.r b + c) = q) (h : s.w[q]? = some x) (hx : x ≠ s.r d) : stp n ⟨15, a, b, c, d⟩ s = ({ s with p := s.p + 1, r := upd s.r a 0 }, 0) := by
  have := (List.getElem?_eq_some_iff.1 h).1
  simp only [stp, Int.reduceEq, if_false, if_true]
  rw [hq, if_neg (by omega), Int.toNat_natCast, h, Option.getD_some, if_neg hx]
end

/-- The state when a call begins. -/
def st0 (args words : List Int) : Vs := ⟨0, fun i => if 0 ≤ i then args[i.toNat]?.getD 0 else 0, words, []⟩
theorem st0_ok {n : Nat} {args words : List Int} (ha : ∀ x ∈ args, inW x) (hw : ∀ x ∈ words, inW x) (hl : words.length ≤ 200) : Ok n (st0 args words) := by
  refine ⟨by simp [st0], by simp [st0], fun i => ?_, hw, hl, by simp [st0], by simp [st0]⟩
  simp only [st0]
  split
  · exact at_in ha _
  · simp [inW]

/-- What is wrong before the execution. -/
def vmX (c : List Ins) (args words : List Int) (limit : Int) : Int :=
  if ¬ okC c then 4 else if 8 < args.length ∨ 200 < words.length then 1 else if limit < 0 ∨ 6000 < limit then 2 else 0
def vmR (c : List Ins) (args words : List Int) (limit : Int) : List Int × List Int × Nat × Int :=
  if vmX c args words limit = 0 then ((rn c limit.toNat (st0 args words)).1.t, (rn c limit.toNat (st0 args words)).1.w, (rn c limit.toNat (st0 args words)).2.1, (rn c limit.toNat (st0 args words)).2.2)
  else ([], [], 0, vmX c args words limit)
end Go.Baro

set_option linter.unusedSimpArgs false
set_option linter.unusedVariables false
namespace Go.Baro
open Go.RowKit

def insV (o : Ins) : List Value := [.int .i64 o.k, .int .i64 o.a, .int .i64 o.b, .int .i64 o.c, .int .i64 o.d]
/-- The cells of instructions. -/
def cellsO (l : List Ins) : List Value := l.flatMap insV
/-- A slice of instructions. -/
def RO (w : World) (B : Nat) (A : Option Addr) (n : Nat) (l : List Ins) : Prop := Rd w B 5 A n (cellsO l)
theorem cellsO_length (l : List Ins) : (cellsO l).length = l.length * 5 := by
  induction l with
  | nil => rfl
  | cons f l ih => simp only [cellsO, insV, List.flatMap_cons, List.length_append, List.length_cons, List.length_nil] at ih ⊢; omega
theorem cellsO_append (a b : List Ins) : cellsO (a ++ b) = cellsO a ++ cellsO b := by simp [cellsO]
theorem cellsO_at (l : List Ins) : ∀ (i j : Nat) (o : Ins), l[i]? = some o → j < 5 → (cellsO l)[i * 5 + j]? = (insV o)[j]? := by
  induction l with
  | nil => intro i j o h; simp at h
  | cons g l ih =>
    intro i j o h hj
    have hc : cellsO (g :: l) = insV g ++ cellsO l := rfl
    rw [hc]
    cases i with
    | zero => simp at h; subst h; rw [List.getElem?_append_left (by simp [insV]; omega)]; simp
    | succ i =>
      have := ih i j o (by simpa using h) hj
      rw [List.getElem?_append_right (by simp [insV]; omega), ← this]
      simp [insV, show (i + 1) * 5 + j - 5 = i * 5 + j by omega]
section
variable {w w' : World} {B B' n : Nat} {A : Option Addr} {l : List Ins}
theorem RO.len (h : RO w B A n l) : l.length = n := by have := Rd.len h; rw [cellsO_length] at this; omega
theorem RO.val (h : RO w B A n l) {i : Nat} (hi : i < n) : ∃ b o k x y z u, A = some ⟨b, o, none⟩ ∧ b < B ∧ w.cell? ⟨b, o + i * 5, none⟩ = some (.int .i64 k) ∧ w.cell? ⟨b, o + i * 5 + 1, none⟩ = some (.int .i64 x) ∧ w.cell? ⟨b, o + i * 5 + 2, none⟩ = some (.int .i64 y) ∧
    w.cell? ⟨b, o + i * 5 + 3, none⟩ = some (.int .i64 z) ∧ w.cell? ⟨b, o + i * 5 + 4, none⟩ = some (.int .i64 u) ∧ Hid (l[i]? = some ⟨k, x, y, z, u⟩) ∧ Ins.mk k x y z u ∈ l := by
  obtain ⟨b, o, hA, hb, hc⟩ := Rd.at_ h (by omega)
  have hl : i < l.length := by rw [h.len]; exact hi
  have hf : l[i]? = some l[i] := List.getElem?_eq_getElem hl
  refine ⟨b, o, l[i].k, l[i].a, l[i].b, l[i].c, l[i].d, hA, hb, ?_, ?_, ?_, ?_, ?_, hf, List.getElem_mem hl⟩
  · rw [hc (i * 5) (by omega)]; exact cellsO_at l i 0 _ hf (by omega)
  · rw [Nat.add_assoc, hc (i * 5 + 1) (by omega)]; exact cellsO_at l i 1 _ hf (by omega)
  · rw [Nat.add_assoc, hc (i * 5 + 2) (by omega)]; exact cellsO_at l i 2 _ hf (by omega)
  · rw [Nat.add_assoc, hc (i * 5 + 3) (by omega)]; exact cellsO_at l i 3 _ hf (by omega)
  · rw [Nat.add_assoc, hc (i * 5 + 4) (by omega)]; exact cellsO_at l i 4 _ hf (by omega)
theorem RO.below (h : RO w B A n l) (hb : Below B w w') : RO w' B A n l := Rd.below h hb
theorem RO.heap (h : RO w B A n l) (hh : w'.heap = w.heap) : RO w' B A n l := Rd.heap h hh
theorem RO.more (h : RO w B A n l) (hB : B ≤ B') : RO w B' A n l := Rd.more h hB
theorem RO.size (h : RO w B A n l) : RO w w.heap.size A n l := Rd.size h (by decide)
theorem RO.nil (w : World) (B : Nat) (A : Option Addr) : RO w B A 0 [] := Rd.nil w B 5 A
end
section
variable {H : Type} {enc : TypeId × Value → H} {P : Program} {W : World}
/-- A slice of instructions that came in. -/
theorem open_RO {t e i : TypeId} {f0 f1 f2 f3 f4 : Field} {a : Option Addr} {len cap : Nat} {d : DataW H} {p : List MemPlace} (ht : P.underlying t = some (.slice e)) (he : P.underlying e = some (.struct #[f0, f1, f2, f3, f4])) (hc : P.cellsOf e = 5)
    (hi : P.underlying i = some (.int .i64)) (hci : P.cellsOf i = 1) (hf : [f0, f1, f2, f3, f4].map (fun f => (f.type, f.offset)) = [(i, 0), (i, 1), (i, 2), (i, 3), (i, 4)])
    (h : DataW.Trod enc P W 0 (fun _ => true) true t (.slice a len cap) d p) :
    ∃ fs : List Ins, RO W W.heap.size a len fs ∧ (∀ f ∈ fs, inI f) ∧ len ≤ cap ∧ ((len = 0 ∧ d = .nil) ∨ ∃ el sp, d = .slice el sp ∧ el.length = len) := by
  obtain ⟨rows, hr, hl, hrow, hlc, hd⟩ := open_rows ht hc (by decide) h
  simp only [List.map_cons, List.map_nil, List.cons.injEq, Prod.mk.injEq, and_true] at hf
  obtain ⟨⟨e0, o0⟩, ⟨e1, o1⟩, ⟨e2, o2⟩, ⟨e3, o3⟩, e4, o4⟩ := hf
  obtain ⟨fs, rfl, hp⟩ := map_of (f := insV) (p := inI) rows (by
      intro r hr
      obtain ⟨hlr, y, n, hy⟩ := hrow r hr
      obtain ⟨xs, m, _, _, hlen, hlx, hfx⟩ := DataW.trod_struct he hy
      have g : ∀ (j : Nat) (f : Field), #[f0, f1, f2, f3, f4][j]? = some f → f.type = i → ∃ v, (r.drop f.offset).take 1 = [.int .i64 v] ∧ inW v := by
        intro j f hj hfi
        have h0 := hfx j f hj
        have hjl : j < xs.length := by
          have := (Array.getElem?_eq_some_iff.1 hj).1
          simp at this hlx; omega
        rw [List.getElem?_eq_getElem hjl, hfi, hci] at h0
        obtain ⟨u, hu, _, wu⟩ := DataW.trod_int hi h0
        exact ⟨u, hu, bounds_i64 wu⟩
      obtain ⟨v0, h0, w0⟩ := g 0 f0 rfl e0
      obtain ⟨v1, h1, w1⟩ := g 1 f1 rfl e1
      obtain ⟨v2, h2, w2⟩ := g 2 f2 rfl e2
      obtain ⟨v3, h3, w3⟩ := g 3 f3 rfl e3
      obtain ⟨v4, h4, w4⟩ := g 4 f4 rfl e4
      rw [o0] at h0; rw [o1] at h1; rw [o2] at h2; rw [o3] at h3; rw [o4] at h4
      match r, hlr with
      | [c0, c1, c2, c3, c4], _ =>
        simp at h0 h1 h2 h3 h4
        exact ⟨⟨v0, v1, v2, v3, v4⟩, by simp [insV, h0, h1, h2, h3, h4], w0, w1, w2, w3, w4⟩)
  refine ⟨fs, ?_, hp, hlc, hd⟩
  have : cellsO fs = (fs.map insV).flatten := by simp [cellsO, List.flatMap]
  unfold RO
  rw [this]
  exact hr
end
end Go.Baro

set_option linter.unusedSimpArgs false
set_option linter.unusedVariables false
namespace Go.Baro
open Go.RowKit
section
variable {P : Program} {t e : TypeId} {z : Value} {s by' : Nat} {ops : Array Oper} {rest : List Oper} {o : Oper} {a : Act} {Q : Exit → Act → World → Prop}

/-- It is the same block as before, or a new one. -/
theorem append_block (E : Elt P t e z s by') (ty : TypeId) {w w' : World} {base n m c : Nat} {v v' : Value} {xs news : List Value} {ad : Addr} (hown : w.ownsRow base e s v n xs) (hl : news.length = m * s)
    (hnews : ∀ j u, news[j]? = some u → w.cell? (ad.add j) = some u) (h1 : ∀ u ∈ news, u.oneCell' = true) (hn : (n + m) * by' ≤ 140737488355328) (hn' : n + m ≤ 140737488355328)
    (hr : (Builtin.append_ #[t, t] ty #[v, .slice (some ad) m c]).run P w = .ok v' w') : v'.ownBlock = v.ownBlock ∨ v'.ownBlock = some w.heap.size := by
  obtain ⟨hu, ⟨i, hi, h5, h6, h7⟩, h3, h4⟩ := E
  subst h6 h7
  rcases hown.2 with ⟨rfl, rfl⟩ | ⟨g, cap, cur, rfl, hbg, hg, hnc, hcm, hcs, htake⟩
  · have hx : xs = [] := List.eq_nil_of_length_eq_zero (by simpa using hown.1)
    subst hx
    by_cases hm : m = 0
    · subst hm
      have hn : news = [] := List.eq_nil_of_length_eq_zero (by simpa using hl)
      subst hn
      simp [Builtin.append_, run_underlying hu, sizeOf, typeInfo, hi, Builtin.lenOf, Builtin.firstCells, loadCells, loadCellsFrom] at hr
      exact .inl (by rw [← hr.1])
    · rw [_root_.Go.run_append_nil (P := P) w t ty e i z hu hi h5 ad m c news hl hnews (by omega) (by omega) (by simp only [Nat.zero_add] at hn; omega)] at hr
      injection hr with hr _
      exact .inr (by rw [← hr]; rfl)
  · by_cases hroom : n + m ≤ cap
    · have hfit : n * i.size + news.length ≤ cur.size := by rw [hl, hcs, ← Nat.add_mul]; exact Nat.mul_le_mul_right _ hroom
      rw [run_append_room (P := P) w t ty e i hu hi g n cap cur hg ad m c news hl hnews h1 hroom hfit] at hr
      injection hr with hr _
      exact .inl (by rw [← hr]; rfl)
    · have holds : ∀ j u, xs[j]? = some u → w.cell? ((⟨g, 0, none⟩ : Addr).add j) = some u := hown.cells (g := g) rfl
      rw [run_append_grow (P := P) w t ty e i z hu hi h5 ⟨g, 0, none⟩ n cap xs hown.1 holds ad m c news hl hnews (by omega) (by omega) (growslice_fits (by omega) hn)] at hr
      injection hr with hr _
      exact .inr (by rw [← hr]; rfl)

/-- append(v, x...) from whatever slice x, and where its row lies. -/
theorem app_srcB (E : Elt P t e z s by') (w : World) (hgd : o.guard = none) (l x : Operand) (ho : o.op = .call { callee := .builtin .append, args := #[l, x], argTypes := #[t, t] })
    (base : Nat) (v : Value) (n : Nat) (xs : List Value) (hs : a.eval l = v) (hown : w.ownsRow base e s v n xs) (A : Option Addr) (m c : Nat) (cs : List Value) (hx : a.eval x = .slice A m c) (B : Nat) (hr : Rd w B s A m cs)
    (h1 : ∀ u ∈ cs, u.oneCell' = true) (hn : (n + m) * by' ≤ 140737488355328) (hn' : n + m ≤ 140737488355328) (hb : base ≤ w.heap.size)
    (h : ∀ v' w', w'.ownsRow base e s v' (n + m) (xs ++ cs) → w.grownBy w' v.ownBlock → (∀ w0, Below base w0 w → Below base w0 w') → base ≤ w'.heap.size → (v'.ownBlock = v.ownBlock ∨ v'.ownBlock = some w.heap.size) → wpList P ops Q rest (a.put o.dst v') w') :
    wpList P ops Q (o :: rest) a w := by
  cases A with
  | none =>
    have hm : m = 0 := by
      rcases Nat.eq_zero_or_pos m with h0 | h0
      · exact h0
      · obtain ⟨b, q, hA, _⟩ := hr.at_ h0; cases hA
    subst hm
    have hc : cs = [] := List.eq_nil_of_length_eq_zero (by simpa using hr.len)
    subst hc
    refine wpList_plain hgd fun K hK => ?_
    unfold Oper.wp
    simp [execOp, ho, resolve, invoke, builtin, hs, hx, run_append_nil E o.type hown c, Result.andThen]
    exact hK _ _ (h v w (by simpa using hown) (World.grownBy.refl w _) (fun _ hb0 => hb0) hb (.inl rfl))
  | some ad =>
    have hnews : ∀ j u, cs[j]? = some u → w.cell? (ad.add j) = some u := by
      intro j u hj
      have hjl : j < m * s := by rw [← hr.len]; exact (List.getElem?_eq_some_iff.1 hj).1
      obtain ⟨b, q, hA, _, hc⟩ := hr.at_ (by rcases Nat.eq_zero_or_pos m with h0 | h0; simp [h0] at hjl; exact h0)
      injection hA with hA
      subst hA
      rw [Addr.add_lit, hc j hjl, hj]
    have E' := E
    obtain ⟨hu, ⟨i, hi, h5, h6, h7⟩, h3, h4⟩ := E
    obtain ⟨v', w', hrun, ho2, hg2, _⟩ := run_append_own (P := P) w base t o.type e i z s by' hu hi h5 h6 h7 h3 h4 v n xs hown ad m c cs hr.len hnews h1 (by unfold maxLen; omega) hn hb
    have hblk := append_block E' o.type hown hr.len hnews h1 hn hn' hrun
    refine wpList_plain hgd fun K hK => ?_
    unfold Oper.wp
    simp [execOp, ho, resolve, invoke, builtin, hs, hx, hrun, Result.andThen]
    refine hK _ _ (h v' w' ho2 hg2 (fun w0 hb0 => hb0.grown hg2 hb (fun k hk => (hown.lt k hk).1)) ?_ hblk)
    have := hg2.size; omega

/-- Two rows of the call's own in two blocks: what is done to the one leaves the other. -/
theorem own_apart {w w' : World} {b1 : Nat} {e1 : TypeId} {s1 n1 : Nat} {v1 v2 : Value} {xs1 : List Value} (h1 : w.ownsRow b1 e1 s1 v1 n1 xs1) (hne : v1.ownBlock = none ∨ v1.ownBlock ≠ v2.ownBlock)
    (hg : w.grownBy w' v2.ownBlock) : w'.ownsRow b1 e1 s1 v1 n1 xs1 := h1.kept hg hne
/-- They stay in two blocks. -/
theorem apart_next {w : World} {b1 : Nat} {e1 : TypeId} {s1 n1 : Nat} {v1 v2 v2' : Value} {xs1 : List Value} (h1 : w.ownsRow b1 e1 s1 v1 n1 xs1) (hne : v1.ownBlock = none ∨ v1.ownBlock ≠ v2.ownBlock)
    (hb : v2'.ownBlock = v2.ownBlock ∨ v2'.ownBlock = some w.heap.size) : v1.ownBlock = none ∨ v1.ownBlock ≠ v2'.ownBlock := by
  rcases hb with hb | hb
  · rw [hb]; exact hne
  · rw [hb]
    refine .inr fun he => ?_
    have := (h1.lt _ he).2
    omega
end
end Go.Baro

set_option linter.unusedSimpArgs false
set_option linter.unusedVariables false
namespace Go.Baro
open Go.RowKit

/-- A value that is a slice of these bytes. -/
def SL (w : World) (B : Nat) (v : Value) (l : List Int) : Prop := ∃ A n c, v = .slice A n c ∧ n ≤ c ∧ RI w B .u8 A n l
/-- A slice of slices of bytes. -/
def RL (w : World) (B : Nat) (A : Option Addr) (n : Nat) (ls : List (List Int)) : Prop :=
  ∃ cs : List Value, Rd w B 1 A n cs ∧ cs.length = ls.length ∧ ∀ (i : Nat) v l, cs[i]? = some v → ls[i]? = some l → SL w B v l

section
variable {w w' : World} {B B' n : Nat} {A : Option Addr} {ls : List (List Int)}
theorem SL.below {v : Value} {l : List Int} (h : SL w B v l) (hb : Below B w w') : SL w' B v l := by
  obtain ⟨A, n, c, e, hc, hr⟩ := h
  exact ⟨A, n, c, e, hc, hr.below hb⟩
theorem SL.heap {v : Value} {l : List Int} (h : SL w B v l) (hh : w'.heap = w.heap) : SL w' B v l := by
  obtain ⟨A, n, c, e, hc, hr⟩ := h
  exact ⟨A, n, c, e, hc, hr.heap hh⟩
theorem SL.more {v : Value} {l : List Int} (h : SL w B v l) (hB : B ≤ B') : SL w B' v l := by
  obtain ⟨A, n, c, e, hc, hr⟩ := h
  exact ⟨A, n, c, e, hc, hr.more hB⟩
theorem RL.len (h : RL w B A n ls) : ls.length = n := by
  obtain ⟨cs, hr, hl, _⟩ := h
  have := hr.len
  omega
theorem RL.below (h : RL w B A n ls) (hb : Below B w w') : RL w' B A n ls := by
  obtain ⟨cs, hr, hl, hs⟩ := h
  exact ⟨cs, hr.below hb, hl, fun i v l h1 h2 => (hs i v l h1 h2).below hb⟩
theorem RL.heap (h : RL w B A n ls) (hh : w'.heap = w.heap) : RL w' B A n ls := by
  obtain ⟨cs, hr, hl, hs⟩ := h
  exact ⟨cs, hr.heap hh, hl, fun i v l h1 h2 => (hs i v l h1 h2).heap hh⟩
theorem RL.more (h : RL w B A n ls) (hB : B ≤ B') : RL w B' A n ls := by
  obtain ⟨cs, hr, hl, hs⟩ := h
  exact ⟨cs, hr.more hB, hl, fun i v l h1 h2 => (hs i v l h1 h2).more hB⟩
theorem RL.val (h : RL w B A n ls) {i : Nat} (hi : i < n) : ∃ b o A' n' c' l, A = some ⟨b, o, none⟩ ∧ b < B ∧ w.cell? ⟨b, o + i, none⟩ = some (.slice A' n' c') ∧ n' ≤ c' ∧ RI w B .u8 A' n' l ∧ Hid (ls[i]? = some l) ∧ l ∈ ls := by
  obtain ⟨cs, hr, hl, hs⟩ := h
  obtain ⟨b, o, hA, hb, hc⟩ := hr.at_ (by omega)
  have h1 := hr.len
  have hi1 : i < cs.length := by omega
  have hi2 : i < ls.length := by omega
  obtain ⟨A', n', c', e, hc', hr'⟩ := hs i cs[i] ls[i] (List.getElem?_eq_getElem hi1) (List.getElem?_eq_getElem hi2)
  refine ⟨b, o, A', n', c', ls[i], hA, hb, ?_, hc', hr', List.getElem?_eq_getElem hi2, List.getElem_mem hi2⟩
  rw [hc i (by omega), List.getElem?_eq_getElem hi1, e]
theorem RL.nil (w : World) (B : Nat) (A : Option Addr) : RL w B A 0 [] := ⟨[], Rd.nil w B 1 A, rfl, fun i v l h => by simp at h⟩
theorem RL.take (h : RL w B A n ls) {m : Nat} (hm : m ≤ n) : RL w B A m (ls.take m) := by
  obtain ⟨cs, hr, hl, hs⟩ := h
  have h1 := hr.len
  refine ⟨cs.take (m * 1), hr.take hm, by simp; omega, fun i v l h2 h3 => hs i v l ?_ ?_⟩
  · rw [List.getElem?_take] at h2; split at h2; exact h2; cases h2
  · rw [List.getElem?_take] at h3; split at h3; exact h3; cases h3
end

/-- A list of bytes of the call's own, not in block x. -/
def OB (T : TypeId) (w : World) (base : Nat) (x : Option Nat) (v : Value) (l : List Int) : Prop :=
  ∃ n, w.ownsRow base T 1 v n (l.map (Value.int .u8)) ∧ (v.ownBlock = none ∨ v.ownBlock ≠ x)
def OBs (T : TypeId) (w : World) (base : Nat) (x : Option Nat) (cs : List Value) (ls : List (List Int)) : Prop :=
  cs.length = ls.length ∧ ∀ (i : Nat) v l, cs[i]? = some v → ls[i]? = some l → OB T w base x v l
section
variable {T U : TypeId} {w w' : World} {base base' : Nat} {x x' : Option Nat} {v : Value} {l : List Int} {cs : List Value} {ls : List (List Int)}
theorem OB.mk {n : Nat} (h : w.ownsRow base T 1 v n (l.map (Value.int .u8))) (hx : v.ownBlock = none ∨ v.ownBlock ≠ x) : OB T w base x v l := ⟨n, h, hx⟩
theorem OB.mk0 {n : Nat} (h : w.ownsRow base T 1 v n (l.map (Value.int .u8))) : OB T w base none v l := ⟨n, h, by cases v.ownBlock <;> simp⟩
theorem OB.below (h : OB T w base x v l) (hb : Below w.heap.size w w') : OB T w' base x v l := by
  obtain ⟨n, h1, h2⟩ := h
  exact ⟨n, own_below h1 hb, h2⟩
theorem OB.low (h : OB T w base x v l) (hb : base' ≤ base) : OB T w base' x v l := by
  obtain ⟨n, h1, h2⟩ := h
  exact ⟨n, own_more h1 hb, h2⟩
theorem OB.other {s n : Nat} {v2 : Value} {xs : List Value} (h : OB T w base x v l) (h2 : w.ownsRow base' U s v2 n xs) (hne : T ≠ U) (hg : w.grownBy w' v2.ownBlock) : OB T w' base x v l := by
  obtain ⟨n, h1, hx⟩ := h
  exact ⟨n, own_keep h1 h2 hne hg, hx⟩
theorem OB.kept (h : OB T w base x v l) (hg : w.grownBy w' x) : OB T w' base x v l := by
  obtain ⟨n, h1, hx⟩ := h
  exact ⟨n, h1.kept hg hx, hx⟩
theorem OB.block (h : OB T w base x v l) (hb : x' = x ∨ x' = some w.heap.size) : OB T w base x' v l := by
  obtain ⟨n, h1, hx⟩ := h
  refine ⟨n, h1, ?_⟩
  rcases hb with rfl | rfl
  · exact hx
  · refine .inr fun he => ?_
    have := (h1.lt _ he).2
    omega
theorem OB.sl (h : OB T w base x v l) : SL w w.heap.size v l := by
  obtain ⟨n, h1, hx⟩ := h
  obtain ⟨A, c, rfl, hc⟩ := own_form h1
  exact ⟨A, n, c, rfl, hc, Rd.of_own h1⟩
theorem OBs.nil (T : TypeId) (w : World) (base : Nat) (x : Option Nat) : OBs T w base x [] [] := ⟨rfl, fun i v l h => by simp at h⟩
theorem OBs.snoc (h : OBs T w base x cs ls) (h1 : OB T w base x v l) : OBs T w base x (cs ++ [v]) (ls ++ [l]) := by
  refine ⟨by simp [h.1], fun i v' l' hv hl => ?_⟩
  rw [List.getElem?_append] at hv hl
  split at hv
  · rename_i hi
    rw [if_pos (by rw [← h.1]; exact hi)] at hl
    exact h.2 i v' l' hv hl
  · rename_i hi
    rw [if_neg (by rw [← h.1]; exact hi), ← h.1] at hl
    rcases Nat.eq_zero_or_pos (i - cs.length) with h0 | h0
    · rw [h0] at hv hl
      simp at hv hl
      rw [← hv, ← hl]; exact h1
    · rw [List.getElem?_eq_none (by simp; omega)] at hv; cases hv
theorem OBs.below (h : OBs T w base x cs ls) (hb : Below w.heap.size w w') : OBs T w' base x cs ls := ⟨h.1, fun i v l h1 h2 => (h.2 i v l h1 h2).below hb⟩
theorem OBs.low (h : OBs T w base x cs ls) (hb : base' ≤ base) : OBs T w base' x cs ls := ⟨h.1, fun i v l h1 h2 => (h.2 i v l h1 h2).low hb⟩
theorem OBs.other {s n : Nat} {v2 : Value} {xs : List Value} (h : OBs T w base x cs ls) (h2 : w.ownsRow base' U s v2 n xs) (hne : T ≠ U) (hg : w.grownBy w' v2.ownBlock) : OBs T w' base x cs ls :=
  ⟨h.1, fun i v l h1 h3 => (h.2 i v l h1 h3).other h2 hne hg⟩
theorem OBs.kept (h : OBs T w base x cs ls) (hg : w.grownBy w' x) : OBs T w' base x cs ls := ⟨h.1, fun i v l h1 h2 => (h.2 i v l h1 h2).kept hg⟩
theorem OBs.block (h : OBs T w base x cs ls) (hb : x' = x ∨ x' = some w.heap.size) : OBs T w base x' cs ls := ⟨h.1, fun i v l h1 h2 => (h.2 i v l h1 h2).block hb⟩
theorem OB.grow (h : OB T w base x v l) (hg : w.grownBy w' x) (hb : x' = x ∨ x' = some w.heap.size) : OB T w' base x' v l := by
  obtain ⟨n, h1, hx⟩ := h
  obtain ⟨_, _, hx'⟩ := OB.block ⟨n, h1, hx⟩ hb
  exact ⟨n, h1.kept hg hx, hx'⟩
theorem OBs.grow (h : OBs T w base x cs ls) (hg : w.grownBy w' x) (hb : x' = x ∨ x' = some w.heap.size) : OBs T w' base x' cs ls := ⟨h.1, fun i v l h1 h2 => (h.2 i v l h1 h2).grow hg hb⟩
theorem OBs.rl {n : Nat} {A : Option Addr} {c : Nat} (h : OBs T w base x cs ls) (ho : w.ownsRow base' U 1 (.slice A n c) n cs) : RL w w.heap.size A n ls :=
  ⟨cs, Rd.of_own ho, h.1, fun i v l h1 h2 => (h.2 i v l h1 h2).sl⟩
end
section
variable {P : Program} {t e : TypeId} {z : Value} {s by' : Nat} {ops : Array Oper} {rest : List Oper} {o : Oper} {a : Act} {Q : Exit → Act → World → Prop}
/-- make([]T, 0, n) -/
theorem make_room (E : Elt P t e z s by') (w : World) (hgd : o.guard = none) (l c : Operand) (ho : o.op = Op.makeSlice t l c) (base : Nat) (kl kc : IntKind) (C : Int) (n : Nat)
    (hl : a.eval l = .int kl 0) (hc : a.eval c = .int kc C) (hC : C = n) (hn : by' * n ≤ 140737488355328) (hn' : n ≤ 140737488355328) (hb : base ≤ w.heap.size)
    (h : ∀ w', w'.ownsRow base e s (.slice (some ⟨w.heap.size, 0, none⟩) 0 n) 0 [] → (∀ w0, Below base w0 w → Below base w0 w') → base ≤ w'.heap.size → w.grownBy w' none →
      wpList P ops Q rest (a.put o.dst (.slice (some ⟨w.heap.size, 0, none⟩) 0 n)) w') : wpList P ops Q (o :: rest) a w := by
  obtain ⟨hu, ⟨i, hi, h5, h6, h7⟩, h3, h4⟩ := E
  refine wpList_make_own w hgd l c t ho base e i z s hu hi h5 h6 kl kc C n hl hc hC (by rw [h7]; omega) (by unfold maxLen; omega) hb ?_
  intro w' ho hg
  refine h w' ho (fun w0 hb0 => hb0.grown hg hb (fun k hk => by cases hk)) ?_ hg
  have := hg.size; omega
end
/-- A row that was written out just now. -/
theorem own_new {w : World} {base : Nat} {e : TypeId} {s m : Nat} (cs : List Value) (g : Nat) (hg : g = w.heap.size) (hl : cs.length = m * s) (hb : base ≤ w.heap.size) (hm : m ≤ 140737488355328) :
    (w.alloc (.cells cs.toArray e)).ownsRow base e s (.slice (some ⟨g, 0, none⟩) m m) m cs := by
  subst hg
  refine ⟨hl, .inr ⟨w.heap.size, m, cs.toArray, rfl, hb, heap_alloc_new w _, Nat.le_refl _, by unfold maxLen; omega, by simpa using hl, ?_⟩⟩
  rw [List.take_of_length_le (by simp; omega)]
/-- A row made later lies in another block. -/
theorem own_later {w w0 : World} {b b0 : Nat} {e e0 : TypeId} {s s0 n n0 : Nat} {v v0 : Value} {xs xs0 : List Value} (h : w.ownsRow b e s v n xs) (h0 : w0.ownsRow b0 e0 s0 v0 n0 xs0) (hb : w0.heap.size ≤ b) : v.ownBlock = none ∨ v.ownBlock ≠ v0.ownBlock := by
  cases hv : v.ownBlock with
  | none => exact .inl rfl
  | some k =>
    refine .inr fun he => ?_
    have h1 := (h.lt k hv).1
    have h2 := (h0.lt k he.symm).2
    omega
theorem oneS (A : Option Addr) (n c : Nat) : ∀ u ∈ [Value.slice A n c], u.oneCell' = true := by
  intro u hu; simp only [List.mem_singleton] at hu; subst hu; rfl
theorem below_alloc {w : World} (o : Obj) : Below w.heap.size w (w.alloc o) := (Below.refl _ _).alloc (Nat.le_refl _) _
end Go.Baro

set_option linter.unusedSimpArgs false
set_option linter.unusedVariables false
namespace Go.Baro
open Go.ChangeShapes Go.WideShapes Go.ChangeAt Go.RowKit
section
variable {H : Type} {enc : TypeId × Value → H} {P : Program} {W : World}
/-- What one cell of it is. -/
def Inner (W : World) (v : Value) (l : List Int) : Prop := SL W W.heap.size v l ∧ l.length ≤ 9223372036854775807 ∧ ∀ y ∈ l, 0 ≤ y ∧ y < 256
theorem open_inner {e b : TypeId} {n : Nat} {r : List Value} {y : DataW H × List MemPlace} (he : P.underlying e = some (.slice b)) (hb : P.underlying b = some (.int .u8)) (hcb : P.cellsOf b = 1)
    (h : DataW.trod enc P W 0 (fun _ => true) true n e r = some y) : ∃ v l, r = [v] ∧ Inner W v l := by
  obtain ⟨d, p⟩ := y
  have hm : ∃ A len cap, r = [.slice A len cap] ∧ cap ≤ maxLen := by
    rcases DataW.trod_slice he h with ⟨hcs, _⟩ | ⟨x, l, c, _, _, _, _, hcs, _, _, _, hm, _⟩
    · exact ⟨none, 0, 0, hcs, by unfold maxLen; omega⟩
    · exact ⟨some x, l, c, hcs, hm⟩
  obtain ⟨A, len, cap, rfl, hm⟩ := hm
  obtain ⟨xs, hx, hw, hlc, _⟩ := open_RI (t := e) (e := b) (k := .u8) (a := A) (len := len) (cap := cap) (d := d) (p := p) he hb hcb ⟨n, by simpa [Value.cells] using h⟩
  refine ⟨_, xs, rfl, ⟨A, len, cap, rfl, hlc, hx⟩, ?_, fun y hy => ?_⟩
  · rw [hx.len]; unfold maxLen at hm; omega
  · have := bounds_u8 (hw y hy); omega
/-- A list of rows that each have a shape, beside what they are. -/
theorem zip_of {α β γ : Type} {f : α → β} {R : α → γ → Prop} : ∀ (l : List β), (∀ b ∈ l, ∃ a c, b = f a ∧ R a c) → ∃ (us : List α) (cs : List γ), l = us.map f ∧ us.length = cs.length ∧ (∀ (i : Nat) a c, us[i]? = some a → cs[i]? = some c → R a c) ∧ ∀ c ∈ cs, ∃ a, R a c
  | [], _ => ⟨[], [], rfl, rfl, by simp, by simp⟩
  | b :: l, h => by
    obtain ⟨a, c, rfl, hr⟩ := h b (by simp)
    obtain ⟨us, cs, rfl, hl, hp, hq⟩ := zip_of (f := f) (R := R) l fun b hb => h b (by simp [hb])
    refine ⟨a :: us, c :: cs, rfl, by simp [hl], fun i a' c' h1 h2 => ?_, fun x hx => ?_⟩
    · cases i with
      | zero => simp at h1 h2; rw [← h1, ← h2]; exact hr
      | succ i => exact hp i a' c' (by simpa using h1) (by simpa using h2)
    · rcases List.mem_cons.1 hx with rfl | hx
      · exact ⟨a, hr⟩
      · exact hq x hx
theorem open_RL {t e b : TypeId} {a : Option Addr} {len cap : Nat} {d : DataW H} {p : List MemPlace} (ht : P.underlying t = some (.slice e)) (he : P.underlying e = some (.slice b)) (hb : P.underlying b = some (.int .u8)) (hc : P.cellsOf e = 1) (hcb : P.cellsOf b = 1)
    (h : DataW.Trod enc P W 0 (fun _ => true) true t (.slice a len cap) d p) :
    ∃ ls : List (List Int), RL W W.heap.size a len ls ∧ (∀ l ∈ ls, l.length ≤ 9223372036854775807 ∧ ∀ y ∈ l, 0 ≤ y ∧ y < 256) ∧ len ≤ cap ∧ ((len = 0 ∧ d = .nil) ∨ ∃ el sp, d = .slice el sp ∧ el.length = len) := by
  obtain ⟨rows, hr, hl, hrow, hlc, hd⟩ := open_rows ht hc (by decide) h
  obtain ⟨vs, ls, rfl, hvl, hp, hq⟩ := zip_of (f := fun v : Value => [v]) (R := Inner W) rows (by
    intro r hr
    obtain ⟨_, y, n, hy⟩ := hrow r hr
    exact open_inner he hb hcb hy)
  have hf : (vs.map fun v : Value => [v]).flatten = vs := by
    clear hr hl hrow hvl hp hq
    induction vs with
    | nil => rfl
    | cons v vs ih => simp [ih]
  rw [hf] at hr
  refine ⟨ls, ⟨vs, hr, hvl, fun i v l h1 h2 => (hp i v l h1 h2).1⟩, fun l hl => ?_, hlc, hd⟩
  obtain ⟨v, hv⟩ := hq l hl
  exact hv.2
end
end Go.Baro
