/- Of this claim's own texts these, one behind the other: VmPure, LibO, LinPure, LinPure2. No statement of the seat is proved here; no condition but those that stand at the theorems. -/
import Derived.RowKit
import Derived.IntWalk
import Derived.Test.YtjihopbapnfppabGreatDoorPartAC
import Derived.OpenShut
set_option linter.unusedSimpArgs false
set_option linter.unusedVariables false
namespace Go.Baro
open Go.RowKit (wrap64)

/-- An instruction. -/
structure Ins where
  k : Int
  a : Int
  b : Int
  c : Int
  d : Int

def isR (n : Int) : Prop := 0 ≤ n ∧ n < 24
def isT (n : Nat) (x : Int) : Prop := 0 ≤ x ∧ x ≤ n
instance (n : Int) : Decidable (isR n) := by unfold isR; infer_instance
instance (n : Nat) (x : Int) : Decidable (isT n x) := by unfold isT; infer_instance

/-- An instruction that is valid in a code of n. -/
def okI (n : Nat) (o : Ins) : Prop :=
  (o.k = 1 ∧ isR o.a ∧ o.c = 0 ∧ o.d = 0) ∨ (o.k = 2 ∧ isR o.a ∧ isR o.b ∧ o.c = 0 ∧ o.d = 0) ∨ ((3 ≤ o.k ∧ o.k ≤ 9) ∧ isR o.a ∧ isR o.b ∧ isR o.c ∧ o.d = 0) ∨
  (o.k = 10 ∧ isT n o.a ∧ o.b = 0 ∧ o.c = 0 ∧ o.d = 0) ∨ ((o.k = 11 ∨ o.k = 12) ∧ isR o.a ∧ isT n o.b ∧ o.c = 0 ∧ o.d = 0) ∨ ((o.k = 13 ∨ o.k = 14) ∧ isR o.a ∧ isR o.b ∧ o.d = 0) ∨
  (o.k = 15 ∧ isR o.a ∧ isR o.b ∧ isR o.d) ∨ (o.k = 16 ∧ isR o.a ∧ o.b = 0 ∧ o.c = 0 ∧ o.d = 0) ∨ (o.k = 17 ∧ o.a = 0 ∧ o.b = 0 ∧ o.c = 0 ∧ o.d = 0)
instance (n : Nat) (o : Ins) : Decidable (okI n o) := by unfold okI; infer_instance
/-- A valid code. -/
def okC (c : List Ins) : Prop := c.length ≤ 200 ∧ ∀ o ∈ c, okI c.length o
instance (c : List Ins) : Decidable (okC c) := by unfold okC; infer_instance

def inW (x : Int) : Prop := -9223372036854775808 ≤ x ∧ x ≤ 9223372036854775807
/-- The fields of an instruction are numbers of 64 bits. -/
def inI (o : Ins) : Prop := inW o.k ∧ inW o.a ∧ inW o.b ∧ inW o.c ∧ inW o.d
theorem inW_wrap (x : Int) : inW (wrap64 x) := by unfold inW wrap64; omega

/-- A thread's state: the next instruction, the registers, the shared words, the numbers emitted. -/
structure Vs where
  p : Int
  r : Int → Int
  w : List Int
  t : List Int

def upd (r : Int → Int) (a v : Int) : Int → Int := fun i => if i = a then v else r i
theorem upd_same (r : Int → Int) (a v : Int) : upd r a v a = v := by simp [upd]
theorem upd_other (r : Int → Int) {a i : Int} (v : Int) (h : i ≠ a) : upd r a v i = r i := by simp [upd, h]

def cmpV (k b c : Int) : Int :=
  if k = 3 then wrap64 (b + c) else if k = 4 then wrap64 (b - c) else if k = 5 then wrap64 (b * c) else if k = 6 then (if c = 0 then 0 else wrap64 (b.tdiv c)) else if k = 7 then (if c = 0 then 0 else b.tmod c)
  else if k = 8 then (if b = c then 1 else 0) else if k = 9 then (if b < c then 1 else 0) else 0

/-- One instruction, in a code of n. -/
def stp (n : Nat) (o : Ins) (s : Vs) : Vs × Int :=
  if o.k = 1 then ({ s with p := s.p + 1, r := upd s.r o.a o.b }, 0)
  else if o.k = 2 then ({ s with p := s.p + 1, r := upd s.r o.a (s.r o.b) }, 0)
  else if o.k = 10 then ({ s with p := o.a }, 0)
  else if o.k = 11 then ({ s with p := if s.r o.a = 0 then s.p + 1 else o.b }, 0)
  else if o.k = 12 then ({ s with p := if s.r o.a = 0 then o.b else s.p + 1 }, 0)
  else if o.k = 13 then (if wrap64 (s.r o.b + o.c) < 0 ∨ (s.w.length : Int) ≤ wrap64 (s.r o.b + o.c) then ({ s with p := s.p + 1 }, 2) else ({ s with p := s.p + 1, r := upd s.r o.a (s.w[(wrap64 (s.r o.b + o.c)).toNat]?.getD 0) }, 0))
  else if o.k = 14 then (if wrap64 (s.r o.b + o.c) < 0 ∨ (s.w.length : Int) ≤ wrap64 (s.r o.b + o.c) then ({ s with p := s.p + 1 }, 2) else ({ s with p := s.p + 1, w := s.w.set (wrap64 (s.r o.b + o.c)).toNat (s.r o.a) }, 0))
  else if o.k = 15 then (if wrap64 (s.r o.b + o.c) < 0 ∨ (s.w.length : Int) ≤ wrap64 (s.r o.b + o.c) then ({ s with p := s.p + 1 }, 2)
    else if s.w[(wrap64 (s.r o.b + o.c)).toNat]?.getD 0 = s.r o.d then ({ s with p := s.p + 1, w := s.w.set (wrap64 (s.r o.b + o.c)).toNat (s.r o.a), r := upd s.r o.a 1 }, 0) else ({ s with p := s.p + 1, r := upd s.r o.a 0 }, 0))
  else if o.k = 16 then (if s.t.length = 200 then ({ s with p := s.p + 1 }, 8) else ({ s with p := s.p + 1, t := s.t ++ [s.r o.a] }, 0))
  else if o.k = 17 then ({ s with p := n }, 0)
  else ({ s with p := s.p + 1, r := upd s.r o.a (cmpV o.k (s.r o.b) (s.r o.c)) }, 0)

/-- At most f instructions: the state, how many, and the error. -/
def rn (c : List Ins) : Nat → Vs → Vs × Nat × Int
  | 0, s => if s.p = c.length then (s, 0, 0) else (s, 0, 11)
  | f + 1, s => if s.p = c.length then (s, 0, 0) else
      if (stp c.length (c[s.p.toNat]?.getD ⟨17, 0, 0, 0, 0⟩) s).2 ≠ 0 then ((stp c.length (c[s.p.toNat]?.getD ⟨17, 0, 0, 0, 0⟩) s).1, 1, (stp c.length (c[s.p.toNat]?.getD ⟨17, 0, 0, 0, 0⟩) s).2)
      else ((rn c f (stp c.length (c[s.p.toNat]?.getD ⟨17, 0, 0, 0, 0⟩) s).1).1, (rn c f (stp c.length (c[s.p.toNat]?.getD ⟨17, 0, 0, 0, 0⟩) s).1).2.1 + 1, (rn c f (stp c.length (c[s.p.toNat]?.getD ⟨17, 0, 0, 0, 0⟩) s).1).2.2)

theorem rn_end {c : List Ins} {s : Vs} (h : s.p = c.length) (f : Nat) : rn c f s = (s, 0, 0) := by cases f <;> simp [rn, h]
theorem rn_over {c : List Ins} {s : Vs} (h : s.p ≠ c.length) : rn c 0 s = (s, 0, 11) := by simp [rn, h]
theorem rn_err {c : List Ins} {s s' : Vs} {o : Ins} {e : Int} {f : Nat} (h : s.p ≠ c.length) (ho : c[s.p.toNat]? = some o) (hs : stp c.length o s = (s', e)) (he : e ≠ 0) : rn c (f + 1) s = (s', 1, e) := by
  simp [rn, h, ho, hs, he]
theorem rn_step {c : List Ins} {s s' : Vs} {o : Ins} {f : Nat} (h : s.p ≠ c.length) (ho : c[s.p.toNat]? = some o) (hs : stp c.length o s = (s', 0)) : rn c (f + 1) s = ((rn c f s').1, (rn c f s').2.1 + 1, (rn c f s').2.2) := by
  simp [rn, h, ho, hs]

/-- What a state keeps to. -/
structure Ok (n : Nat) (s : Vs) : Prop where
  lo : 0 ≤ s.p
  hi : s.p ≤ n
  r : ∀ i, inW (s.r i)
  w : ∀ x ∈ s.w, inW x
  wl : s.w.length ≤ 200
  t : ∀ x ∈ s.t, inW x
  tl : s.t.length ≤ 200

theorem tmod_in {b c : Int} (hc : c ≠ 0) (h : inW c) : inW (b.tmod c) := by
  unfold inW at *
  have h1 := Int.natAbs_tmod b c
  have h2 := Nat.mod_lt b.natAbs (show 0 < c.natAbs by omega)
  omega
theorem cmpV_in (k b c : Int) (hc : inW c) : inW (cmpV k b c) := by
  have h0 : inW 0 := by unfold inW; omega
  have h1 : inW 1 := by unfold inW; omega
  unfold cmpV
  split; · exact inW_wrap _
  split; · exact inW_wrap _
  split; · exact inW_wrap _
  split
  · split
    · exact h0
    · exact inW_wrap _
  split
  · split
    · exact h0
    · exact tmod_in (by assumption) hc
  split
  · split <;> assumption
  split
  · split <;> assumption
  exact h0
theorem upd_in {r : Int → Int} (h : ∀ i, inW (r i)) {a v : Int} (hv : inW v) (i : Int) : inW (upd r a v i) := by
  unfold upd; split
  · exact hv
  · exact h i
theorem at_in {l : List Int} (h : ∀ x ∈ l, inW x) (i : Nat) : inW (l[i]?.getD 0) := by
  cases hi : l[i]? with
  | none => simp [inW]
  | some x => exact h x (List.mem_of_getElem? hi)
theorem set_in {l : List Int} (h : ∀ x ∈ l, inW x) (i : Nat) {v : Int} (hv : inW v) : ∀ x ∈ l.set i v, inW x := by
  intro x hx
  rcases List.mem_or_eq_of_mem_set hx with h1 | h1
  · exact h x h1
  · rw [h1]; exact hv

/-- The remainder as the document's answer reckons it. -/
theorem rem_wrap (b c : Int) (hc : c ≠ 0) (h : inW c) : wrap64 (b - wrap64 (wrap64 (b.tdiv c) * c)) = b.tmod c := by
  have h1 := tmod_in (b := b) hc h
  have h2 := Int.tdiv_mul_add_tmod b c
  have e1 : ∀ x, ∃ j : Int, wrap64 x = x + 18446744073709551616 * j := by
    intro x
    refine ⟨-((x + 9223372036854775808) / 18446744073709551616), ?_⟩
    unfold wrap64; omega
  obtain ⟨j1, e1'⟩ := e1 (b.tdiv c)
  obtain ⟨j2, e2'⟩ := e1 (wrap64 (b.tdiv c) * c)
  have e3 : b - wrap64 (wrap64 (b.tdiv c) * c) = b.tmod c + 18446744073709551616 * (-(j1 * c) - j2) := by
    rw [e2', e1', Int.add_mul, Int.mul_assoc, Int.mul_sub, Int.mul_neg]; omega
  rw [e3]
  generalize -(j1 * c) - j2 = j
  generalize b.tmod c = m at *
  unfold inW at h1
  unfold wrap64
  omega

theorem stp_ok {n : Nat} {o : Ins} {s : Vs} (ho : okI n o) (hi : inI o) (hs : Ok n s) (hp : s.p < n) : Ok n (stp n o s).1 := by
  obtain ⟨h1, h2, h3, h4, h5, h6, h7⟩ := hs
  have i0 : inW 0 := by unfold inW; omega
  have i1 : inW 1 := by unfold inW; omega
  obtain ⟨ik, ia, ib, ic, id'⟩ := hi
  unfold okI isR isT at ho
  have hR : ∀ {r : Int → Int} {q : Int} {l t : List Int}, 0 ≤ q → q ≤ n → (∀ i, inW (r i)) → (∀ x ∈ l, inW x) → l.length ≤ 200 → (∀ x ∈ t, inW x) → t.length ≤ 200 → Ok n ⟨q, r, l, t⟩ := fun a b c d e f g => ⟨a, b, c, d, e, f, g⟩
  have hq : ∀ {b : Prop} [Decidable b] {x y : Vs × Int}, (b → Ok n x.1) → (¬ b → Ok n y.1) → Ok n (if b then x else y).1 := by
    intro b _ x y hx hy
    by_cases hb : b
    · rw [if_pos hb]; exact hx hb
    · rw [if_neg hb]; exact hy hb
  have hw : ∀ (i : Nat) (v : Int), (s.w.set i v).length ≤ 200 := fun i v => by rw [List.length_set]; exact h5
  have ht : ∀ v, inW v → ∀ x ∈ s.t ++ [v], inW x := by
    intro v hv x hx
    rcases List.mem_append.1 hx with hx | hx
    · exact h6 x hx
    · rw [List.mem_singleton.1 hx]; exact hv
  unfold stp
  refine hq (fun e => hR (by omega) (by omega) (upd_in h3 ib) h4 h5 h6 h7) fun e1 => ?_
  refine hq (fun e => hR (by omega) (by omega) (upd_in h3 (h3 _)) h4 h5 h6 h7) fun e2 => ?_
  refine hq (fun e => hR (by omega) (by omega) h3 h4 h5 h6 h7) fun e10 => ?_
  refine hq (fun e => hR (by split <;> omega) (by split <;> omega) h3 h4 h5 h6 h7) fun e11 => ?_
  refine hq (fun e => hR (by split <;> omega) (by split <;> omega) h3 h4 h5 h6 h7) fun e12 => ?_
  refine hq (fun e => hq (fun _ => hR (by omega) (by omega) h3 h4 h5 h6 h7) fun _ => hR (by omega) (by omega) (upd_in h3 (at_in h4 _)) h4 h5 h6 h7) fun e13 => ?_
  refine hq (fun e => hq (fun _ => hR (by omega) (by omega) h3 h4 h5 h6 h7) fun _ => hR (by omega) (by omega) h3 (set_in h4 _ (h3 _)) (hw _ _) h6 h7) fun e14 => ?_
  refine hq (fun e => hq (fun _ => hR (by omega) (by omega) h3 h4 h5 h6 h7) fun _ => hq (fun _ => hR (by omega) (by omega) (upd_in h3 i1) (set_in h4 _ (h3 _)) (hw _ _) h6 h7) fun _ => hR (by omega) (by omega) (upd_in h3 i0) h4 h5 h6 h7) fun e15 => ?_
  refine hq (fun e => hq (fun _ => hR (by omega) (by omega) h3 h4 h5 h6 h7) fun _ => hR (by omega) (by omega) h3 h4 h5 (ht _ (h3 _)) (by rw [List.length_append, List.length_singleton]; omega)) fun e16 => ?_
  refine hq (fun e => hR (by omega) (by omega) h3 h4 h5 h6 h7) fun e17 => ?_
  exact hR (by omega) (by omega) (upd_in h3 (cmpV_in _ _ _ (h3 _))) h4 h5 h6 h7

section
variable {n : Nat} {a b c d : Int} {s : Vs}
theorem stp_1 : stp n ⟨1, a, b, c, d⟩ s = ({ s with p := s.p + 1, r := upd s.r a b }, 0) := by simp only [stp, Int.reduceEq, if_false, if_true]
theorem stp_2 : stp n ⟨2, a, b, c, d⟩ s = ({ s with p := s.p + 1, r := upd s.r a (s.r b) }, 0) := by simp only [stp, Int.reduceEq, if_false, if_true]
theorem stp_10 : stp n ⟨10, a, b, c, d⟩ s = ({ s with p := a }, 0) := by simp only [stp, Int.reduceEq, if_false, if_true]
theorem stp_11 : stp n ⟨11, a, b, c, d⟩ s = ({ s with p := if s.r a = 0 then s.p + 1 else b }, 0) := by simp only [stp, Int.reduceEq, if_false, if_true]
theorem stp_12 : stp n ⟨12, a, b, c, d⟩ s = ({ s with p := if s.r a = 0 then b else s.p + 1 }, 0) := by simp only [stp, Int.reduceEq, if_false, if_true]
theorem stp_16 : stp n ⟨16, a, b, c, d⟩ s = if s.t.length = 200 then ({ s with p := s.p + 1 }, 8) else ({ s with p := s.p + 1, t := s.t ++ [s.r a] }, 0) := by simp only [stp, Int.reduceEq, if_false, if_true]
theorem stp_17 : stp n ⟨17, a, b, c, d⟩ s = ({ s with p := n }, 0) := by simp only [stp, Int.reduceEq, if_false, if_true]
theorem stp_cmp {k : Int} (h : 3 ≤ k ∧ k ≤ 9) : stp n ⟨k, a, b, c, d⟩ s = ({ s with p := s.p + 1, r := upd s.r a (cmpV k (s.r b) (s.r c)) }, 0) := by
  simp only [stp]
  rw [if_neg (by omega), if_neg (by omega), if_neg (by omega), if_neg (by omega), if_neg (by omega), if_neg (by omega), if_neg (by omega), if_neg (by omega), if_neg (by omega), if_neg (by omega)]
theorem stp_out {k q : Int} (hk : k = 13 ∨ k = 14 ∨ k = 15) (hq : wrap64 (s.r b + c) = q) (h : q < 0 ∨ (s.w.length : Int) ≤ q) : stp n ⟨k, a, b, c, d⟩ s = ({ s with p := s.p + 1 }, 2) := by
  rcases hk with rfl | rfl | rfl <;> (simp only [stp, Int.reduceEq, if_false, if_true]; rw [hq, if_pos h])
theorem stp_13 {q : Nat} {x : Int} (hq : wrap64 (s.r b + c) = q) (h : s.w[q]? = some x) : stp n ⟨13, a, b, c, d⟩ s = ({ s with p := s.p + 1, r := upd s.r a x }, 0) := by
  have := (List.getElem?_eq_some_iff.1 h).1
  simp only [stp, Int.reduceEq, if_false, if_true]
  rw [hq, if_neg (by omega), Int.toNat_natCast, h]
  rfl
theorem stp_14 {q : Nat} (hq : wrap64 (s.r b + c) = q) (h : q < s.w.length) : stp n ⟨14, a, b, c, d⟩ s = ({ s with p := s.p + 1, w := s.w.set q (s.r a) }, 0) := by
  simp only [stp, Int.reduceEq, if_false, if_true]
  rw [hq, if_neg (by omega), Int.toNat_natCast]
theorem stp_15t {q : Nat} {x : Int} (hq : wrap64 (s.r b + c) = q) (h : s.w[q]? = some x) (hx : x = s.r d) : stp n ⟨15, a, b, c, d⟩ s = ({ s with p := s.p + 1, w := s.w.set q (s.r a), r := upd s.r a 1 }, 0) := by
  have := (List.getElem?_eq_some_iff.1 h).1
  simp only [stp, Int.reduceEq, if_false, if_true]
  rw [hq, if_neg (by omega), Int.toNat_natCast, h, Option.getD_some, if_pos hx]
theorem stp_15f {q : Nat} {x : Int} (hq : wrap64 (s.r b + c) = q) (h : s.w[q]? = some x) (hx : x ≠ s.r d) : stp n ⟨15, a, b, c, d⟩ s = ({ s with p := s.p + 1, r := upd s.r a 0 }, 0) := by
  have := (List.getElem?_eq_some_iff.1 h).1
  simp only [stp, Int.reduceEq, if_false, if_true]
  rw [hq, if_neg (by omega), Int.toNat_natCast, h, Option.getD_some, if_neg hx]
end

/-- The state when a call begins. -/
def st0 (args words : List Int) : Vs := ⟨0, fun i => if 0 ≤ i then args[i.toNat]?.getD 0 else 0, words, []⟩
theorem st0_ok {n : Nat} {args words : List Int} (ha : ∀ x ∈ args, inW x) (hw : ∀ x ∈ words, inW x) (hl : words.length ≤ 200) : Ok n (st0 args words) := by
  refine ⟨by simp [st0], by simp [st0], fun i => ?_, hw, hl, by simp [st0], by simp [st0]⟩
  simp only [st0]
  split
  · exact at_in ha _
  · simp [inW]

/-- What is wrong before the execution. -/
def vmX (c : List Ins) (args words : List Int) (limit : Int) : Int :=
  if ¬ okC c then 4 else if 8 < args.length ∨ 200 < words.length then 1 else if limit < 0 ∨ 6000 < limit then 2 else 0
def vmR (c : List Ins) (args words : List Int) (limit : Int) : List Int × List Int × Nat × Int :=
  if vmX c args words limit = 0 then ((rn c limit.toNat (st0 args words)).1.t, (rn c limit.toNat (st0 args words)).1.w, (rn c limit.toNat (st0 args words)).2.1, (rn c limit.toNat (st0 args words)).2.2)
  else ([], [], 0, vmX c args words limit)
end Go.Baro

set_option linter.unusedSimpArgs false
set_option linter.unusedVariables false
namespace Go.Baro
open Go.RowKit

def insV (o : Ins) : List Value := [.int .i64 o.k, .int .i64 o.a, .int .i64 o.b, .int .i64 o.c, .int .i64 o.d]
/-- The cells of instructions. -/
def cellsO (l : List Ins) : List Value := l.flatMap insV
/-- A slice of instructions. -/
def RO (w : World) (B : Nat) (A : Option Addr) (n : Nat) (l : List Ins) : Prop := Rd w B 5 A n (cellsO l)
theorem cellsO_length (l : List Ins) : (cellsO l).length = l.length * 5 := by
  induction l with
  | nil => rfl
  | cons f l ih => simp only [cellsO, insV, List.flatMap_cons, List.length_append, List.length_cons, List.length_nil] at ih ⊢; omega
theorem cellsO_append (a b : List Ins) : cellsO (a ++ b) = cellsO a ++ cellsO b := by simp [cellsO]
theorem cellsO_at (l : List Ins) : ∀ (i j : Nat) (o : Ins), l[i]? = some o → j < 5 → (cellsO l)[i * 5 + j]? = (insV o)[j]? := by
  induction l with
  | nil => intro i j o h; simp at h
  | cons g l ih =>
    intro i j o h hj
    have hc : cellsO (g :: l) = insV g ++ cellsO l := rfl
    rw [hc]
    cases i with
    | zero => simp at h; subst h; rw [List.getElem?_append_left (by simp [insV]; omega)]; simp
    | succ i =>
      have := ih i j o (by simpa using h) hj
      rw [List.getElem?_append_right (by simp [insV]; omega), ← this]
      simp [insV, show (i + 1) * 5 + j - 5 = i * 5 + j by omega]
section
variable {w w' : World} {B B' n : Nat} {A : Option Addr} {l : List Ins}
theorem RO.len (h : RO w B A n l) : l.length = n := by have := Rd.len h; rw [cellsO_length] at this; omega
theorem RO.val (h : RO w B A n l) {i : Nat} (hi : i < n) : ∃ b o k x y z u, A = some ⟨b, o, none⟩ ∧ b < B ∧ w.cell? ⟨b, o + i * 5, none⟩ = some (.int .i64 k) ∧ w.cell? ⟨b, o + i * 5 + 1, none⟩ = some (.int .i64 x) ∧ w.cell? ⟨b, o + i * 5 + 2, none⟩ = some (.int .i64 y) ∧
    w.cell? ⟨b, o + i * 5 + 3, none⟩ = some (.int .i64 z) ∧ w.cell? ⟨b, o + i * 5 + 4, none⟩ = some (.int .i64 u) ∧ Hid (l[i]? = some ⟨k, x, y, z, u⟩) ∧ Ins.mk k x y z u ∈ l := by
  obtain ⟨b, o, hA, hb, hc⟩ := Rd.at_ h (by omega)
  have hl : i < l.length := by rw [h.len]; exact hi
  have hf : l[i]? = some l[i] := List.getElem?_eq_getElem hl
  refine ⟨b, o, l[i].k, l[i].a, l[i].b, l[i].c, l[i].d, hA, hb, ?_, ?_, ?_, ?_, ?_, hf, List.getElem_mem hl⟩
  · rw [hc (i * 5) (by omega)]; exact cellsO_at l i 0 _ hf (by omega)
  · rw [Nat.add_assoc, hc (i * 5 + 1) (by omega)]; exact cellsO_at l i 1 _ hf (by omega)
  · rw [Nat.add_assoc, hc (i * 5 + 2) (by omega)]; exact cellsO_at l i 2 _ hf (by omega)
  · rw [Nat.add_assoc, hc (i * 5 + 3) (by omega)]; exact cellsO_at l i 3 _ hf (by omega)
  · rw [Nat.add_assoc, hc (i * 5 + 4) (by omega)]; exact cellsO_at l i 4 _ hf (by omega)
theorem RO.below (h : RO w B A n l) (hb : Below B w w') : RO w' B A n l := Rd.below h hb
theorem RO.heap (h : RO w B A n l) (hh : w'.heap = w.heap) : RO w' B A n l := Rd.heap h hh
theorem RO.more (h : RO w B A n l) (hB : B ≤ B') : RO w B' A n l := Rd.more h hB
theorem RO.size (h : RO w B A n l) : RO w w.heap.size A n l := Rd.size h (by decide)
theorem RO.nil (w : World) (B : Nat) (A : Option Addr) : RO w B A 0 [] := Rd.nil w B 5 A
end
section
variable {H : Type} {enc : TypeId × Value → H} {P : Program} {W : World}
/-- A slice of instructions that came in. -/
theorem open_RO {t e i : TypeId} {f0 f1 f2 f3 f4 : Field} {a : Option Addr} {len cap : Nat} {d : DataW H} {p : List MemPlace} (ht : P.underlying t = some (.slice e)) (he : P.underlying e = some (.struct #[f0, f1, f2, f3, f4])) (hc : P.cellsOf e = 5)
    (hi : P.underlying i = some (.int .i64)) (hci : P.cellsOf i = 1) (hf : [f0, f1, f2, f3, f4].map (fun f => (f.type, f.offset)) = [(i, 0), (i, 1), (i, 2), (i, 3), (i, 4)])
    (h : DataW.Trod enc P W 0 (fun _ => true) true t (.slice a len cap) d p) :
    ∃ fs : List Ins, RO W W.heap.size a len fs ∧ (∀ f ∈ fs, inI f) ∧ len ≤ cap ∧ ((len = 0 ∧ d = .nil) ∨ ∃ el sp, d = .slice el sp ∧ el.length = len) := by
  obtain ⟨rows, hr, hl, hrow, hlc, hd⟩ := open_rows ht hc (by decide) h
  simp only [List.map_cons, List.map_nil, List.cons.injEq, Prod.mk.injEq, and_true] at hf
  obtain ⟨⟨e0, o0⟩, ⟨e1, o1⟩, ⟨e2, o2⟩, ⟨e3, o3⟩, e4, o4⟩ := hf
  obtain ⟨fs, rfl, hp⟩ := map_of (f := insV) (p := inI) rows (by
      intro r hr
      obtain ⟨hlr, y, n, hy⟩ := hrow r hr
      obtain ⟨xs, m, _, _, hlen, hlx, hfx⟩ := DataW.trod_struct he hy
      have g : ∀ (j : Nat) (f : Field), #[f0, f1, f2, f3, f4][j]? = some f → f.type = i → ∃ v, (r.drop f.offset).take 1 = [.int .i64 v] ∧ inW v := by
        intro j f hj hfi
        have h0 := hfx j f hj
        have hjl : j < xs.length := by
          have := (Array.getElem?_eq_some_iff.1 hj).1
          simp at this hlx; omega
        rw [List.getElem?_eq_getElem hjl, hfi, hci] at h0
        obtain ⟨u, hu, _, wu⟩ := DataW.trod_int hi h0
        exact ⟨u, hu, bounds_i64 wu⟩
      obtain ⟨v0, h0, w0⟩ := g 0 f0 rfl e0
      obtain ⟨v1, h1, w1⟩ := g 1 f1 rfl e1
      obtain ⟨v2, h2, w2⟩ := g 2 f2 rfl e2
      obtain ⟨v3, h3, w3⟩ := g 3 f3 rfl e3
      obtain ⟨v4, h4, w4⟩ := g 4 f4 rfl e4
      rw [o0] at h0; rw [o1] at h1; rw [o2] at h2; rw [o3] at h3; rw [o4] at h4
      match r, hlr with
      | [c0, c1, c2, c3, c4], _ =>
        simp at h0 h1 h2 h3 h4
        exact ⟨⟨v0, v1, v2, v3, v4⟩, by simp [insV, h0, h1, h2, h3, h4], w0, w1, w2, w3, w4⟩)
  refine ⟨fs, ?_, hp, hlc, hd⟩
  have : cellsO fs = (fs.map insV).flatten := by simp [cellsO, List.flatMap]
  unfold RO
  rw [this]
  exact hr
end
end Go.Baro

set_option linter.unusedSimpArgs false
set_option linter.unusedVariables false
namespace Go.Baro
open Go.RowKit (wrap64)

/-- An operation: when it began and ended (-1: it has not), whether it puts, its value, what it adds. -/
structure Ac where
  b : Int
  e : Int
  put : Bool
  v : Int
  add : Int
/-- What an object of kind k that has these numbers tells, and has then. -/
def tel (k : Int) (has : List Int) (a : Ac) : Int × List Int :=
  if k = 1 then (if a.put = true then (a.v, [a.v]) else (has.headD 0, has))
  else if k = 2 then (has.headD 0, [wrap64 (has.headD 0 + a.add)])
  else if a.put = true then (a.v, has ++ [a.v])
  else if has = [] then (-1, has)
  else if k = 3 then (has.headD 0, has.tail)
  else (has.getLastD 0, has.dropLast)
/-- The operations that are left can be put behind one another; those that have not ended may be left out. -/
inductive Lin (k : Int) : List Int → List Ac → Prop
  | done {has : List Int} {left : List Ac} (h : ∀ a ∈ left, a.e = -1) : Lin k has left
  | step {has : List Int} {left : List Ac} (a : Ac) (rest : List Ac) (hp : left.Perm (a :: rest)) (hf : ∀ b ∈ left, b.e ≠ -1 → a.b ≤ b.e) (ht : a.e ≠ -1 → (tel k has a).1 = a.v) (h : Lin k (tel k has a).2 rest) : Lin k has left
section
variable {k : Int} {has : List Int} {left left' : List Ac}
/-- How they are listed does not matter. -/
theorem Lin.perm (h : Lin k has left) (hp : left.Perm left') : Lin k has left' := by
  cases h with
  | done h => exact .done fun a ha => h a (hp.mem_iff.2 ha)
  | step a rest hq hf ht h => exact .step a rest (hp.symm.trans hq) (fun b hb => hf b (hp.mem_iff.2 hb)) ht h
/-- One that has not ended harms nothing. -/
theorem Lin.more (h : Lin k has left) {x : Ac} (hx : x.e = -1) : Lin k has (x :: left) := by
  induction h with
  | done h => exact .done fun a ha => by rcases List.mem_cons.1 ha with rfl | ha; exact hx; exact h a ha
  | @step has left a rest hq hf ht h ih =>
    refine .step a (x :: rest) ((List.Perm.cons x hq).trans (List.Perm.swap a x rest)) (fun b hb hb1 => ?_) ht ih
    rcases List.mem_cons.1 hb with rfl | hb
    · exact absurd hx hb1
    · exact hf b hb hb1
/-- Other times: what has ended then had ended, and whoever could come first still can. -/
theorem Lin.map {f : Ac → Ac} (h : Lin k has left) (h1 : ∀ a ∈ left, (f a).e ≠ -1 → a.e ≠ -1) (h2 : ∀ a ∈ left, (f a).put = a.put ∧ (f a).v = a.v ∧ (f a).add = a.add) (h3 : ∀ a ∈ left, ∀ b ∈ left, (f b).e ≠ -1 → a.b ≤ b.e → (f a).b ≤ (f b).e) : Lin k has (left.map f) := by
  have htel : ∀ (has : List Int) (a : Ac), (f a).put = a.put ∧ (f a).v = a.v ∧ (f a).add = a.add → tel k has (f a) = tel k has a := fun has a hh => by
    unfold tel
    rw [hh.1, hh.2.1, hh.2.2]
  induction h with
  | @done has left h =>
    refine .done fun a ha => ?_
    obtain ⟨c, hc, rfl⟩ := List.mem_map.1 ha
    by_cases he : (f c).e = -1
    · exact he
    · exact absurd (h c hc) (h1 c hc he)
  | @step has left a rest hq hf ht h ih =>
    have ha : a ∈ left := hq.mem_iff.2 (by simp)
    have hr : ∀ c, c ∈ rest → c ∈ left := fun c hc => hq.mem_iff.2 (by simp [hc])
    refine .step (f a) (rest.map f) (hq.map f) (fun b hb hb1 => ?_) (fun h5 => ?_) ?_
    · obtain ⟨c, hc, rfl⟩ := List.mem_map.1 hb
      exact h3 a ha c hc hb1 (hf c hc (h1 c hc hb1))
    · rw [htel has a (h2 a ha), (h2 a ha).2.1]
      exact ht (h1 a ha h5)
    · rw [htel has a (h2 a ha)]
      exact ih (fun c hc => h1 c (hr c hc)) (fun c hc => h2 c (hr c hc)) (fun c hc d hd => h3 c (hr c hc) d (hr d hd))
/-- All of them as much later. -/
def shA (d : Int) (a : Ac) : Ac := { a with b := a.b + d, e := if a.e = -1 then -1 else a.e + d }
theorem lin_later {d : Int} (hd : 0 ≤ d) (he : ∀ a ∈ left, -1 ≤ a.e) : Lin k has (left.map (shA d)) ↔ Lin k has left := by
  refine ⟨fun h => ?_, fun h => ?_⟩
  · have hm : (left.map (shA d)).map (fun a => { a with b := a.b - d, e := if a.e = -1 then -1 else a.e - d }) = left := by
      rw [List.map_map]
      conv => rhs; rw [← List.map_id left]
      refine List.map_congr_left fun a ha => ?_
      have := he a ha
      obtain ⟨b, e, put, v, add⟩ := a
      dsimp only at this
      simp only [Function.comp, shA, id]
      by_cases h1 : e = -1
      · subst h1; simp
      · rw [if_neg h1, if_neg (by omega)]; simp
    rw [← hm]
    refine h.map (fun a ha => ?_) (fun a ha => ⟨rfl, rfl, rfl⟩) (fun a ha b hb => ?_)
    · dsimp only
      split
      · intro hh; exact absurd rfl hh
      · intro _; assumption
    · dsimp only
      split
      · intro hh; exact absurd rfl hh
      · intro _ _; omega
  · refine h.map (fun a ha => ?_) (fun a ha => ⟨rfl, rfl, rfl⟩) (fun a ha b hb => ?_)
    · unfold shA
      dsimp only
      split
      · intro hh; exact absurd rfl hh
      · intro _; assumption
    · unfold shA
      dsimp only
      split
      · intro hh; exact absurd rfl hh
      · intro _ _; omega
end
/-- One behind the other, each tells its value. -/
def runs (k : Int) : List Int → List Ac → Prop
  | _, [] => True
  | has, a :: l => (tel k has a).1 = a.v ∧ runs k (tel k has a).2 l
/-- In this order they can come; those behind them that have not ended are left out. -/
theorem lin_part {k : Int} {l2 : List Ac} (h2 : ∀ a ∈ l2, a.e = -1) : ∀ (l1 : List Ac) (has : List Int), runs k has l1 → l1.Pairwise (fun a b => b.e ≠ -1 → a.b ≤ b.e) → (∀ a ∈ l1, a.e ≠ -1 → a.b ≤ a.e) → Lin k has (l1 ++ l2)
  | [], has, _, _, _ => .done h2
  | a :: l1, has, hr, hp, hs => by
    rw [List.pairwise_cons] at hp
    refine .step a (l1 ++ l2) (List.Perm.refl _) (fun b hb hb1 => ?_) (fun _ => hr.1) (lin_part h2 l1 _ hr.2 hp.2 (fun b hb => hs b (by simp [hb])))
    rw [List.cons_append] at hb
    rcases List.mem_cons.1 hb with rfl | hb
    · exact hs _ (by simp) hb1
    · rcases List.mem_append.1 hb with hb | hb
      · exact hp.1 b hb hb1
      · exact absurd (h2 b hb) hb1
theorem lin_seq {k : Int} {l : List Ac} {has : List Int} (hr : runs k has l) (hp : l.Pairwise (fun a b => b.e ≠ -1 → a.b ≤ b.e)) (hs : ∀ a ∈ l, a.e ≠ -1 → a.b ≤ a.e) : Lin k has l := by
  have := lin_part (l2 := []) (by simp) l has hr hp hs
  rwa [List.append_nil] at this
/-- Where each has ended before the next began there is one order alone. -/
theorem lin_only {k : Int} : ∀ (l : List Ac) (has : List Int), Lin k has l → l.Pairwise (fun a b => a.e < b.b) → (∀ a ∈ l, a.e ≠ -1) → runs k has l
  | [], has, _, _, _ => trivial
  | a :: l, has, h, hp, he => by
    rw [List.pairwise_cons] at hp
    cases h with
    | done h => exact absurd (h a (by simp)) (he a (by simp))
    | step c rest hq hf ht h =>
      have hc : c ∈ a :: l := hq.mem_iff.2 (by simp)
      have hca : c = a := by
        rcases List.mem_cons.1 hc with rfl | hc
        · rfl
        · have h1 := hp.1 c hc
          have h2 := hf a (by simp) (he a (by simp))
          omega
      subst hca
      have hpr : l.Perm rest := List.Perm.cons_inv hq
      exact ⟨ht (he c (by simp)), lin_only l _ (h.perm hpr.symm) hp.2 (fun b hb => he b (by simp [hb]))⟩
end Go.Baro

set_option linter.unusedSimpArgs false
set_option linter.unusedVariables false
namespace Go.Baro
open Go.RowKit (wrap64)

theorem perm_erase {α : Type} {l : List α} {i : Nat} {a : α} (h : l[i]? = some a) : l.Perm (a :: l.eraseIdx i) := by
  obtain ⟨hi, rfl⟩ := List.getElem?_eq_some_iff.1 h
  rw [List.eraseIdx_eq_take_drop_succ]
  conv => lhs; rw [← List.take_append_drop i l, List.drop_eq_getElem_cons hi]
  exact List.perm_middle
/-- Who comes first. -/
theorem lin_iff {k : Int} {has : List Int} {left : List Ac} : Lin k has left ↔ (∀ a ∈ left, a.e = -1) ∨ ∃ i a, left[i]? = some a ∧ (∀ b ∈ left, b.e ≠ -1 → a.b ≤ b.e) ∧ (a.e ≠ -1 → (tel k has a).1 = a.v) ∧ Lin k (tel k has a).2 (left.eraseIdx i) := by
  refine ⟨fun h => ?_, fun h => ?_⟩
  · cases h with
    | done h => exact .inl h
    | step a rest hp hf ht h =>
      obtain ⟨i, hi, he⟩ := List.getElem_of_mem (hp.mem_iff.2 (List.mem_cons_self (a := a) (l := rest)))
      have hi2 : left[i]? = some a := by rw [List.getElem?_eq_getElem hi, he]
      exact .inr ⟨i, a, hi2, hf, ht, h.perm (List.Perm.cons_inv (hp.symm.trans (perm_erase hi2)))⟩
  · rcases h with h | ⟨i, a, hi, hf, ht, h⟩
    · exact .done h
    · exact .step a _ (perm_erase hi) hf ht h
/-- Of another value that is read, taken or was there the run does not tell. -/
theorem tel_v {k : Int} {has : List Int} {a : Ac} (h : k = 2 ∨ a.put = false) (v : Int) : tel k has { a with v := v } = tel k has a := by
  unfold tel
  rcases h with h | h
  · subst h; simp
  · simp [h]
theorem runs_not {k : Int} {v : Int} : ∀ (l : List Ac) (has : List Int) (i : Nat) (a : Ac), runs k has l → l[i]? = some a → (k = 2 ∨ a.put = false) → v ≠ a.v → ¬ runs k has (l.set i { a with v := v })
  | [], has, i, a, _, h, _, _ => by simp at h
  | c :: l, has, 0, a, hr, h, hk, hv => by
    simp only [List.getElem?_cons_zero, Option.some.injEq] at h
    subst h
    intro hn
    have h1 := hn.1
    rw [tel_v hk] at h1
    exact hv (h1.symm.trans hr.1)
  | c :: l, has, i + 1, a, hr, h, hk, hv => fun hn => runs_not l _ i a hr.2 (by simpa using h) hk hv hn.2
theorem runs_map {k : Int} {f : Ac → Ac} (hf : ∀ a, (f a).put = a.put ∧ (f a).v = a.v ∧ (f a).add = a.add) : ∀ (l : List Ac) (has : List Int), runs k has l → runs k has (l.map f)
  | [], _, _ => trivial
  | a :: l, has, h => by
    have e : tel k has (f a) = tel k has a := by unfold tel; rw [(hf a).1, (hf a).2.1, (hf a).2.2]
    exact ⟨by rw [e, (hf a).2.1]; exact h.1, by rw [e]; exact runs_map hf l _ h.2⟩
/-- A deal: put, a value, how much earlier, how much later, not ended. -/
structure Dl where
  put : Bool
  v : Int
  early : Int
  late : Int
  opn : Bool
/-- What the object tells, what is added, what it has then. -/
def tl (k : Int) (has : List Int) (put : Bool) (v : Int) : Int × Int × List Int :=
  if k = 1 then (if put = true then (v, 0, [v]) else (has.headD 0, 0, has))
  else if k = 2 then (if put = true then (has.headD 0, v, [wrap64 (has.headD 0 + v)]) else (has.headD 0, 0, has))
  else if put = true then (v, 0, has ++ [v])
  else if has = [] then (-1, 0, has)
  else if k = 3 then (has.headD 0, 0, has.tail)
  else (has.getLastD 0, 0, has.dropLast)
def acT (i : Nat) (d : Dl) (wide : Bool) (v add : Int) : Ac :=
  ⟨100 + 10 * i - (if wide = true then d.early % 40 else 0), if wide = true then (if d.opn = true then -1 else 105 + 10 * i + d.late % 40) else 105 + 10 * i, d.put, v, add⟩
def sqA (k : Int) (wide : Bool) : Nat → List Int → List Dl → List Ac
  | _, _, [] => []
  | i, has, d :: l => acT i d wide (tl k has d.put (d.v % 4)).1 (tl k has d.put (d.v % 4)).2.1 :: sqA k wide (i + 1) (tl k has d.put (d.v % 4)).2.2 l
/-- Of a register and a counter one number is there. -/
def okH (k : Int) (has : List Int) : Prop := k = 2 → ∃ x, has = [x] ∧ wrap64 x = x
theorem wrap_twice (x : Int) : wrap64 (wrap64 x) = wrap64 x := by unfold wrap64; omega
theorem tl_ok {k : Int} {has : List Int} (h : okH k has) (put : Bool) (v : Int) : okH k (tl k has put v).2.2 := by
  intro hk
  obtain ⟨x, rfl, hx⟩ := h hk
  subst hk
  unfold tl
  rw [if_neg (by decide), if_pos rfl]
  cases put with
  | true => exact ⟨_, rfl, wrap_twice _⟩
  | false => exact ⟨x, rfl, hx⟩
theorem tel_tl {k : Int} {has : List Int} (h : okH k has) (i : Nat) (d : Dl) (wide : Bool) : tel k has (acT i d wide (tl k has d.put (d.v % 4)).1 (tl k has d.put (d.v % 4)).2.1) = ((tl k has d.put (d.v % 4)).1, (tl k has d.put (d.v % 4)).2.2) := by
  unfold tel tl acT
  dsimp only
  by_cases h1 : k = 1
  · rw [if_pos h1, if_pos h1]; cases d.put <;> rfl
  · rw [if_neg h1, if_neg h1]
    by_cases h2 : k = 2
    · rw [if_pos h2, if_pos h2]
      obtain ⟨x, rfl, hx⟩ := h h2
      cases d.put with
      | true => rfl
      | false => simp [hx]
    · rw [if_neg h2, if_neg h2]
      cases d.put with
      | true => rfl
      | false =>
        simp only [Bool.false_eq_true, if_false]
        split
        · rfl
        · split <;> rfl
theorem sq_runs (k : Int) (wide : Bool) : ∀ (l : List Dl) (i : Nat) (has : List Int), okH k has → runs k has (sqA k wide i has l)
  | [], _, _, _ => trivial
  | d :: l, i, has, h => by
    have e := tel_tl h i d wide
    refine ⟨by rw [e]; rfl, ?_⟩
    rw [e]
    exact sq_runs k wide l (i + 1) _ (tl_ok h _ _)
/-- When they begin and end. -/
theorem sq_at (k : Int) (wide : Bool) : ∀ (l : List Dl) (i : Nat) (has : List Int) (a : Ac), a ∈ sqA k wide i has l → ∃ j : Nat, i ≤ j ∧ 100 + 10 * (j : Int) - 40 < a.b ∧ a.b ≤ 100 + 10 * (j : Int) ∧ (a.e = -1 ∨ 105 + 10 * (j : Int) ≤ a.e)
  | [], _, _, a, h => by simp [sqA] at h
  | d :: l, i, has, a, h => by
    rcases List.mem_cons.1 h with h | h
    · refine ⟨i, Nat.le_refl _, ?_⟩
      subst h
      unfold acT
      dsimp only
      cases wide with
      | false => simp; omega
      | true =>
        simp only [if_true]
        cases d.opn with
        | true => simp; omega
        | false => simp; omega
    · obtain ⟨j, h1, h2⟩ := sq_at k wide l (i + 1) _ a h
      exact ⟨j, by omega, h2⟩
theorem sq_self (k : Int) (wide : Bool) (l : List Dl) (i : Nat) (has : List Int) : ∀ a ∈ sqA k wide i has l, a.e ≠ -1 → a.b ≤ a.e := by
  intro a ha he
  obtain ⟨j, _, _, h1, h2⟩ := sq_at k wide l i has a ha
  omega
theorem sq_pair (k : Int) (wide : Bool) : ∀ (l : List Dl) (i : Nat) (has : List Int), (sqA k wide i has l).Pairwise (fun a b => b.e ≠ -1 → a.b ≤ b.e)
  | [], _, _ => List.Pairwise.nil
  | d :: l, i, has => by
    unfold sqA
    rw [List.pairwise_cons]
    refine ⟨fun b hb he => ?_, sq_pair k wide l (i + 1) _⟩
    obtain ⟨j, h0, _, _, h2⟩ := sq_at k wide l (i + 1) _ b hb
    have : (acT i d wide (tl k has d.put (d.v % 4)).1 (tl k has d.put (d.v % 4)).2.1).b ≤ 100 + 10 * (i : Int) := by
      unfold acT
      dsimp only
      cases wide <;> simp <;> omega
    omega
/-- A history that went one behind the other, also with other times, can be put in order. -/
theorem sq_lin {k : Int} {has : List Int} (h : okH k has) (wide : Bool) (l : List Dl) (i : Nat) : Lin k has (sqA k wide i has l) := lin_seq (sq_runs k wide l i has h) (sq_pair k wide l i has) (sq_self k wide l i has)
theorem sq_strict (k : Int) : ∀ (l : List Dl) (i : Nat) (has : List Int), (sqA k false i has l).Pairwise (fun a b => a.e < b.b) ∧ ∀ a ∈ sqA k false i has l, a.e ≠ -1 ∧ 100 + 10 * (i : Int) ≤ a.b
  | [], _, _ => ⟨List.Pairwise.nil, by simp [sqA]⟩
  | d :: l, i, has => by
    obtain ⟨h1, h2⟩ := sq_strict k l (i + 1) (tl k has d.put (d.v % 4)).2.2
    unfold sqA
    refine ⟨List.pairwise_cons.2 ⟨fun b hb => ?_, h1⟩, fun a ha => ?_⟩
    · have := (h2 b hb).2
      unfold acT
      simp
      omega
    · rcases List.mem_cons.1 ha with rfl | ha
      · unfold acT; simp; omega
      · have := h2 a ha; omega
/-- With another value it cannot. -/
theorem sq_tells {k : Int} {has : List Int} (h : okH k has) (l : List Dl) (i j : Nat) {a : Ac} {v : Int} (ha : (sqA k false i has l)[j]? = some a) (hk : k = 2 ∨ a.put = false) (hv : v ≠ a.v) : ¬ Lin k has ((sqA k false i has l).set j { a with v := v }) := by
  intro hl
  obtain ⟨h1, h2⟩ := sq_strict k l i has
  refine runs_not _ has j a (sq_runs k false l i has h) ha hk hv (lin_only _ has hl ?_ ?_)
  · rw [List.pairwise_iff_getElem] at h1 ⊢
    intro p q hp hq hpq
    simp only [List.length_set] at hp hq
    have hh := h1 p q hp hq hpq
    have hx : ∀ (p : Nat) (hp : p < (sqA k false i has l).length), ((sqA k false i has l).set j { a with v := v })[p]'(by simpa using hp) = (sqA k false i has l)[p] ∨ (((sqA k false i has l).set j { a with v := v })[p]'(by simpa using hp) = { a with v := v } ∧ (sqA k false i has l)[p] = a) := by
      intro p hp
      rw [List.getElem_set]
      by_cases hjp : j = p
      · subst hjp
        rw [if_pos rfl]
        rw [List.getElem?_eq_getElem hp] at ha
        exact .inr ⟨rfl, Option.some.inj ha⟩
      · rw [if_neg hjp]; exact .inl rfl
    rcases hx p hp with e1 | ⟨e1, e1'⟩ <;> rcases hx q hq with e2 | ⟨e2, e2'⟩
    · rw [e1, e2]; exact hh
    · rw [e1, e2]; rw [e2'] at hh; exact hh
    · rw [e1, e2]; rw [e1'] at hh; exact hh
    · rw [e1, e2]; rw [e1', e2'] at hh; exact hh
  · intro c hc
    rcases List.mem_or_eq_of_mem_set hc with hc | rfl
    · exact (h2 c hc).1
    · exact (h2 a (List.mem_of_getElem? ha)).1
/-- The beginning of a history, up to time t. -/
def cutA (t : Int) (a : Ac) : Ac := { a with e := if t < a.e then -1 else a.e }
def partA (t : Int) (l : List Ac) : List Ac := (l.filter fun a => decide (a.b ≤ t)).map (cutA t)
theorem sq_part {k : Int} {wide : Bool} {t : Int} : ∀ (l : List Dl) (i : Nat) (has : List Int), okH k has → Lin k has (partA t (sqA k wide i has l)) := by
  have key : ∀ (l : List Dl) (i : Nat) (has : List Int), okH k has → ∃ l1 l2, partA t (sqA k wide i has l) = l1 ++ l2 ∧ runs k has l1 ∧ l1.Pairwise (fun a b => b.e ≠ -1 → a.b ≤ b.e) ∧ (∀ a ∈ l1, a.e ≠ -1 → a.b ≤ a.e) ∧ (∀ a ∈ l2, a.e = -1) ∧ ∀ a ∈ l1, a.e = -1 ∨ 105 + 10 * (i : Int) ≤ a.e := by
    intro l
    induction l with
    | nil => intro i has h; exact ⟨[], [], rfl, trivial, List.Pairwise.nil, by simp, by simp, by simp⟩
    | cons d l ih =>
      intro i has h
      have hb : (acT i d wide (tl k has d.put (d.v % 4)).1 (tl k has d.put (d.v % 4)).2.1).b ≤ 100 + 10 * (i : Int) := by
        unfold acT
        dsimp only
        cases wide <;> simp <;> omega
      have hself := sq_self k wide (d :: l) i has _ (List.mem_cons_self)
      have hself2 := sq_at k wide (d :: l) i has _ (List.mem_cons_self)
      obtain ⟨l1, l2, e1, e2, e3, e4, e5, e6⟩ := ih (i + 1) _ (tl_ok h d.put (d.v % 4))
      have htel := tel_tl h i d wide
      unfold sqA
      generalize hA : acT i d wide (tl k has d.put (d.v % 4)).1 (tl k has d.put (d.v % 4)).2.1 = A at hb hself hself2 htel ⊢
      by_cases hAt : A.b ≤ t
      · refine ⟨cutA t A :: l1, l2, ?_, ?_, ?_, ?_, e5, ?_⟩
        · unfold partA at e1 ⊢
          rw [List.filter_cons_of_pos (by simpa using hAt), List.map_cons, e1, List.cons_append]
        · have e : tel k has (cutA t A) = tel k has A := rfl
          refine ⟨by rw [e, htel, ← hA]; rfl, by rw [e, htel]; exact e2⟩
        · rw [List.pairwise_cons]
          refine ⟨fun b hb2 hb3 => ?_, e3⟩
          rcases e6 b hb2 with h1 | h1
          · exact absurd h1 hb3
          · show A.b ≤ b.e
            omega
        · intro a ha ha2
          rcases List.mem_cons.1 ha with rfl | ha
          · unfold cutA at ha2 ⊢
            dsimp only at ha2 ⊢
            split at ha2
            · exact absurd rfl ha2
            · rename_i hh
              rw [if_neg hh]
              exact hself ha2
          · exact e4 a ha ha2
        · intro a ha
          rcases List.mem_cons.1 ha with rfl | ha
          · unfold cutA
            dsimp only
            split
            · exact .inl rfl
            · rw [← hA]
              unfold acT
              dsimp only
              cases wide with
              | false => simp
              | true => cases d.opn <;> simp <;> omega
          · rcases e6 a ha with h1 | h1
            · exact .inl h1
            · right; omega
      · refine ⟨[], l1 ++ l2, ?_, trivial, List.Pairwise.nil, by simp, ?_, by simp⟩
        · unfold partA at e1 ⊢
          rw [List.filter_cons_of_neg (by simpa using hAt), e1, List.nil_append]
        · intro a ha
          rcases List.mem_append.1 ha with ha1 | ha
          · rcases e6 a ha1 with h1 | h1
            · exact h1
            · have hm : a ∈ partA t (sqA k wide (i + 1) (tl k has d.put (d.v % 4)).2.2 l) := by rw [e1]; exact ha
              unfold partA at hm
              obtain ⟨c, hc, rfl⟩ := List.mem_map.1 hm
              unfold cutA at h1 ⊢
              dsimp only at h1 ⊢
              split at h1
              · rename_i hh; rw [if_pos hh]
              · rename_i hh; omega
          · exact e5 a ha
  intro l i has h
  obtain ⟨l1, l2, e1, e2, e3, e4, e5, _⟩ := key l i has h
  rw [e1]
  exact lin_part e5 l1 has e2 e3 e4
end Go.Baro
