/- Of this claim's own texts these, one behind the other: VmPure, RunPure, RunPure4, Ord. No statement of the seat is proved here; no condition but those that stand at the theorems. -/
import Derived.RowKit
import Derived.IntWalk
import Derived.Still
import Derived.Tactics
import Derived.Tactics2
import Derived.WalkKit
set_option linter.unusedSimpArgs false
set_option linter.unusedVariables false
namespace Go.Baro
open Go.RowKit (wrap64)

/-- An instruction. -/
structure Ins where
  k : Int
  a : Int
  b : Int
  c : Int
  d : Int

def isR (n : Int) : Prop := 0 ≤ n ∧ n < 24
def isT (n : Nat) (x : Int) : Prop := 0 ≤ x ∧ x ≤ n
instance (n : Int) : Decidable (isR n) := by unfold isR; infer_instance
instance (n : Nat) (x : Int) : Decidable (isT n x) := by unfold isT; infer_instance

/-- An instruction that is valid in a code of n. -/
def okI (n : Nat) (o : Ins) : Prop :=
  (o.k = 1 ∧ isR o.a ∧ o.c = 0 ∧ o.d = 0) ∨ (o.k = 2 ∧ isR o.a ∧ isR o.b ∧ o.c = 0 ∧ o.d = 0) ∨ ((3 ≤ o.k ∧ o.k ≤ 9) ∧ isR o.a ∧ isR o.b ∧ isR o.c ∧ o.d = 0) ∨
  (o.k = 10 ∧ isT n o.a ∧ o.b = 0 ∧ o.c = 0 ∧ o.d = 0) ∨ ((o.k = 11 ∨ o.k = 12) ∧ isR o.a ∧ isT n o.b ∧ o.c = 0 ∧ o.d = 0) ∨ ((o.k = 13 ∨ o.k = 14) ∧ isR o.a ∧ isR o.b ∧ o.d = 0) ∨
  (o.k = 15 ∧ isR o.a ∧ isR o.b ∧ isR o.d) ∨ (o.k = 16 ∧ isR o.a ∧ o.b = 0 ∧ o.c = 0 ∧ o.d = 0) ∨ (o.k = 17 ∧ o.a = 0 ∧ o.b = 0 ∧ o.c = 0 ∧ o.d = 0)
instance (n : Nat) (o : Ins) : Decidable (okI n o) := by unfold okI; infer_instance
/-- A valid code. -/
def okC (c : List Ins) : Prop := c.length ≤ 200 ∧ ∀ o ∈ c, okI c.length o
instance (c : List Ins) : Decidable (okC c) := by unfold okC; infer_instance

def inW (x : Int) : Prop := -9223372036854775808 ≤ x ∧ x ≤ 9223372036854775807
/-- The fields of an instruction are numbers of 64 bits. -/
def inI (o : Ins) : Prop := inW o.k ∧ inW o.a ∧ inW o.b ∧ inW o.c ∧ inW o.d
theorem inW_wrap (x : Int) : inW (wrap64 x) := by unfold inW wrap64; omega

/-- A thread's state: the next instruction, the registers, the shared words, the numbers emitted. -/
structure Vs where
  p : Int
  r : Int → Int
  w : List Int
  t : List Int

def upd (r : Int → Int) (a v : Int) : Int → Int := fun i => if i = a then v else r i
theorem upd_same (r : Int → Int) (a v : Int) : upd r a v a = v := by simp [upd]
theorem upd_other (r : Int → Int) {a i : Int} (v : Int) (h : i ≠ a) : upd r a v i = r i := by simp [upd, h]

def cmpV (k b c : Int) : Int :=
  if k = 3 then wrap64 (b + c) else if k = 4 then wrap64 (b - c) else if k = 5 then wrap64 (b * c) else if k = 6 then (if c = 0 then 0 else wrap64 (b.tdiv c)) else if k = 7 then (if c = 0 then 0 else b.tmod c)
  else if k = 8 then (if b = c then 1 else 0) else if k = 9 then (if b < c then 1 else 0) else 0

/-- One instruction, in a code of n. -/
def stp (n : Nat) (o : Ins) (s : Vs) : Vs × Int :=
  if o.k = 1 then ({ s with p := s.p + 1, r := upd s.r o.a o.b }, 0)
  else if o.k = 2 then ({ s with p := s.p + 1, r := upd s.r o.a (s.r o.b) }, 0)
  else if o.k = 10 then ({ s with p := o.a }, 0)
  else if o.k = 11 then ({ s with p := if s.r o.a = 0 then s.p + 1 else o.b }, 0)
  else if o.k = 12 then ({ s with p := if s.r o.a = 0 then o.b else s.p + 1 }, 0)
  else if o.k = 13 then (if wrap64 (s.r o.b + o.c) < 0 ∨ (s.w.length : Int) ≤ wrap64 (s.r o.b + o.c) then ({ s with p := s.p + 1 }, 2) else ({ s with p := s.p + 1, r := upd s.r o.a (s.w[(wrap64 (s.r o.b + o.c)).toNat]?.getD 0) }, 0))
  else if o.k = 14 then (if wrap64 (s.r o.b + o.c) < 0 ∨ (s.w.length : Int) ≤ wrap64 (s.r o.b + o.c) then ({ s with p := s.p + 1 }, 2) else ({ s with p := s.p + 1, w := s.w.set (wrap64 (s.r o.b + o.c)).toNat (s.r o.a) }, 0))
  else if o.k = 15 then (if wrap64 (s.r o.b + o.c) < 0 ∨ (s.w.length : Int) ≤ wrap64 (s.r o.b + o.c) then ({ s with p := s.p + 1 }, 2)
    else if s.w[(wrap64 (s.r o.b + o.c)).toNat]?.getD 0 = s.r o.d then ({ s with p := s.p + 1, w := s.w.set (wrap64 (s.r o.b + o.c)).toNat (s.r o.a), r := upd s.r o.a 1 }, 0) else ({ s with p := s.p + 1, r := upd s.r o.a 0 }, 0))
  else if o.k = 16 then (if s.t.length = 200 then ({ s with p := s.p + 1 }, 8) else ({ s with p := s.p + 1, t := s.t ++ [s.r o.a] }, 0))
  else if o.k = 17 then ({ s with p := n }, 0)
  else ({ s with p := s.p + 1, r := upd s.r o.a (cmpV o.k (s.r o.b) (s.r o.c)) }, 0)

/-- At most f instructions: the state, how many, and the error. -/
def rn (c : List Ins) : Nat → Vs → Vs × Nat × Int
  | 0, s => if s.p = c.length then (s, 0, 0) else (s, 0, 11)
  | f + 1, s => if s.p = c.length then (s, 0, 0) else
      if (stp c.length (c[s.p.toNat]?.getD ⟨17, 0, 0, 0, 0⟩) s).2 ≠ 0 then ((stp c.length (c[s.p.toNat]?.getD ⟨17, 0, 0, 0, 0⟩) s).1, 1, (stp c.length (c[s.p.toNat]?.getD ⟨17, 0, 0, 0, 0⟩) s).2)
      else ((rn c f (stp c.length (c[s.p.toNat]?.getD ⟨17, 0, 0, 0, 0⟩) s).1).1, (rn c f (stp c.length (c[s.p.toNat]?.getD ⟨17, 0, 0, 0, 0⟩) s).1).2.1 + 1, (rn c f (stp c.length (c[s.p.toNat]?.getD ⟨17, 0, 0, 0, 0⟩) s).1).2.2)

theorem rn_end {c : List Ins} {s : Vs} (h : s.p = c.length) (f : Nat) : rn c f s = (s, 0, 0) := by cases f <;> simp [rn, h]
theorem rn_over {c : List Ins} {s : Vs} (h : s.p ≠ c.length) : rn c 0 s = (s, 0, 11) := by simp [rn, h]
theorem rn_err {c : List Ins} {s s' : Vs} {o : Ins} {e : Int} {f : Nat} (h : s.p ≠ c.length) (ho : c[s.p.toNat]? = some o) (hs : stp c.length o s = (s', e)) (he : e ≠ 0) : rn c (f + 1) s = (s', 1, e) := by
  simp [rn, h, ho, hs, he]
theorem rn_step {c : List Ins} {s s' : Vs} {o : Ins} {f : Nat} (h : s.p ≠ c.length) (ho : c[s.p.toNat]? = some o) (hs : stp c.length o s = (s', 0)) : rn c (f + 1) s = ((rn c f s').1, (rn c f s').2.1 + 1, (rn c f s').2.2) := by
  simp [rn, h, ho, hs]

/-- What a state keeps to. -/
structure Ok (n : Nat) (s : Vs) : Prop where
  lo : 0 ≤ s.p
  hi : s.p ≤ n
  r : ∀ i, inW (s.r i)
  w : ∀ x ∈ s.w, inW x
  wl : s.w.length ≤ 200
  t : ∀ x ∈ s.t, inW x
  tl : s.t.length ≤ 200

theorem tmod_in {b c : Int} (hc : c ≠ 0) (h : inW c) : inW (b.tmod c) := by
  unfold inW at *
  have h1 := Int.natAbs_tmod b c
  have h2 := Nat.mod_lt b.natAbs (show 0 < c.natAbs by omega)
  omega
theorem cmpV_in (k b c : Int) (hc : inW c) : inW (cmpV k b c) := by
  have h0 : inW 0 := by unfold inW; omega
  have h1 : inW 1 := by unfold inW; omega
  unfold cmpV
  split; · exact inW_wrap _
  split; · exact inW_wrap _
  split; · exact inW_wrap _
  split
  · split
    · exact h0
    · exact inW_wrap _
  split
  · split
    · exact h0
    · exact tmod_in (by assumption) hc
  split
  · split <;> assumption
  split
  · split <;> assumption
  exact h0
theorem upd_in {r : Int → Int} (h : ∀ i, inW (r i)) {a v : Int} (hv : inW v) (i : Int) : inW (upd r a v i) := by
  unfold upd; split
  · exact hv
  · exact h i
theorem at_in {l : List Int} (h : ∀ x ∈ l, inW x) (i : Nat) : inW (l[i]?.getD 0) := by
  cases hi : l[i]? with
  | none => simp [inW]
  | some x => exact h x (List.mem_of_getElem? hi)
theorem set_in {l : List Int} (h : ∀ x ∈ l, inW x) (i : Nat) {v : Int} (hv : inW v) : ∀ x ∈ l.set i v, inW x := by
  intro x hx
  rcases List.mem_or_eq_of_mem_set hx with h1 | h1
  · exact h x h1
  · rw [h1]; exact hv

/-- The remainder as the document's answer reckons it. -/
theorem rem_wrap (b c : Int) (hc : c ≠ 0) (h : inW c) : wrap64 (b - wrap64 (wrap64 (b.tdiv c) * c)) = b.tmod c := by
  have h1 := tmod_in (b := b) hc h
  have h2 := Int.tdiv_mul_add_tmod b c
  have e1 : ∀ x, ∃ j : Int, wrap64 x = x + 18446744073709551616 * j := by
    intro x
    refine ⟨-((x + 9223372036854775808) / 18446744073709551616), ?_⟩
    unfold wrap64; omega
  obtain ⟨j1, e1'⟩ := e1 (b.tdiv c)
  obtain ⟨j2, e2'⟩ := e1 (wrap64 (b.tdiv c) * c)
  have e3 : b - wrap64 (wrap64 (b.tdiv c) * c) = b.tmod c + 18446744073709551616 * (-(j1 * c) - j2) := by
    rw [e2', e1', Int.add_mul, Int.mul_assoc, Int.mul_sub, Int.mul_neg]; omega
  rw [e3]
  generalize -(j1 * c) - j2 = j
  generalize b.tmod c = m at *
  unfold inW at h1
  unfold wrap64
  omega

theorem stp_ok {n : Nat} {o : Ins} {s : Vs} (ho : okI n o) (hi : inI o) (hs : Ok n s) (hp : s.p < n) : Ok n (stp n o s).1 := by
  obtain ⟨h1, h2, h3, h4, h5, h6, h7⟩ := hs
  have i0 : inW 0 := by unfold inW; omega
  have i1 : inW 1 := by unfold inW; omega
  obtain ⟨ik, ia, ib, ic, id'⟩ := hi
  unfold okI isR isT at ho
  have hR : ∀ {r : Int → Int} {q : Int} {l t : List Int}, 0 ≤ q → q ≤ n → (∀ i, inW (r i)) → (∀ x ∈ l, inW x) → l.length ≤ 200 → (∀ x ∈ t, inW x) → t.length ≤ 200 → Ok n ⟨q, r, l, t⟩ := fun a b c d e f g => ⟨a, b, c, d, e, f, g⟩
  have hq : ∀ {b : Prop} [Decidable b] {x y : Vs × Int}, (b → Ok n x.1) → (¬ b → Ok n y.1) → Ok n (if b then x else y).1 := by
    intro b _ x y hx hy
    by_cases hb : b
    · rw [if_pos hb]; exact hx hb
    · rw [if_neg hb]; exact hy hb
  have hw : ∀ (i : Nat) (v : Int), (s.w.set i v).length ≤ 200 := fun i v => by rw [List.length_set]; exact h5
  have ht : ∀ v, inW v → ∀ x ∈ s.t ++ [v], inW x := by
    intro v hv x hx
    rcases List.mem_append.1 hx with hx | hx
    · exact h6 x hx
    · rw [List.mem_singleton.1 hx]; exact hv
  unfold stp
  refine hq (fun e => hR (by omega) (by omega) (upd_in h3 ib) h4 h5 h6 h7) fun e1 => ?_
  refine hq (fun e => hR (by omega) (by omega) (upd_in h3 (h3 _)) h4 h5 h6 h7) fun e2 => ?_
  refine hq (fun e => hR (by omega) (by omega) h3 h4 h5 h6 h7) fun e10 => ?_
  refine hq (fun e => hR (by split <;> omega) (by split <;> omega) h3 h4 h5 h6 h7) fun e11 => ?_
  refine hq (fun e => hR (by split <;> omega) (by split <;> omega) h3 h4 h5 h6 h7) fun e12 => ?_
  refine hq (fun e => hq (fun _ => hR (by omega) (by omega) h3 h4 h5 h6 h7) fun _ => hR (by omega) (by omega) (upd_in h3 (at_in h4 _)) h4 h5 h6 h7) fun e13 => ?_
  refine hq (fun e => hq (fun _ => hR (by omega) (by omega) h3 h4 h5 h6 h7) fun _ => hR (by omega) (by omega) h3 (set_in h4 _ (h3 _)) (hw _ _) h6 h7) fun e14 => ?_
  refine hq (fun e => hq (fun _ => hR (by omega) (by omega) h3 h4 h5 h6 h7) fun _ => hq (fun _ => hR (by omega) (by omega) (upd_in h3 i1) (set_in h4 _ (h3 _)) (hw _ _) h6 h7) fun _ => hR (by omega) (by omega) (upd_in h3 i0) h4 h5 h6 h7) fun e15 => ?_
  refine hq (fun e => hq (fun _ => hR (by omega) (by omega) h3 h4 h5 h6 h7) fun _ => hR (by omega) (by omega) h3 h4 h5 (ht _ (h3 _)) (by rw [List.length_append, List.length_singleton]; omega)) fun e16 => ?_
  refine hq (fun e => hR (by omega) (by omega) h3 h4 h5 h6 h7) fun e17 => ?_
  exact hR (by omega) (by omega) (upd_in h3 (cmpV_in _ _ _ (h3 _))) h4 h5 h6 h7

section
variable {n : Nat} {a b c d : Int} {s : Vs}
theorem stp_1 : stp n ⟨1, a, b, c, d⟩ s = ({ s with p := s.p + 1, r := upd s.r a b }, 0) := by simp only [stp, Int.reduceEq, if_false, if_true]
theorem stp_2 : stp n ⟨2, a, b, c, d⟩ s = ({ s with p := s.p + 1, r := upd s.r a (s.r b) }, 0) := by simp only [stp, Int.reduceEq, if_false, if_true]
theorem stp_10 : stp n ⟨10, a, b, c, d⟩ s = ({ s with p := a }, 0) := by simp only [stp, Int.reduceEq, if_false, if_true]
theorem stp_11 : stp n ⟨11, a, b, c, d⟩ s = ({ s with p := if s.r a = 0 then s.p + 1 else b }, 0) := by simp only [stp, Int.reduceEq, if_false, if_true]
theorem stp_12 : stp n ⟨12, a, b, c, d⟩ s = ({ s with p := if s.r a = 0 then b else s.p + 1 }, 0) := by simp only [stp, Int.reduceEq, if_false, if_true]
theorem stp_16 : stp n ⟨16, a, b, c, d⟩ s = if s.t.length = 200 then ({ s with p := s.p + 1 }, 8) else ({ s with p := s.p + 1, t := s.t ++ [s.r a] }, 0) := by simp only [stp, Int.reduceEq, if_false, if_true]
theorem stp_17 : stp n ⟨17, a, b, c, d⟩ s = ({ s with p := n }, 0) := by simp only [stp, Int.reduceEq, if_false, if_true]
theorem stp_cmp {k : Int} (h : 3 ≤ k ∧ k ≤ 9) : stp n ⟨k, a, b, c, d⟩ s = ({ s with p := s.p + 1, r := upd s.r a (cmpV k (s.r b) (s.r c)) }, 0) := by
  simp only [stp]
  rw [if_neg (by omega), if_neg (by omega), if_neg (by omega), if_neg (by omega), if_neg (by omega), if_neg (by omega), if_neg (by omega), if_neg (by omega), if_neg (by omega), if_neg (by omega)]
theorem stp_out {k q : Int} (hk : k = 13 ∨ k = 14 ∨ k = 15) (hq : wrap64 (s.r b + c) = q) (h : q < 0 ∨ (s.w.length : Int) ≤ q) : stp n ⟨k, a, b, c, d⟩ s = ({ s with p := s.p + 1 }, 2) := by
  rcases hk with rfl | rfl | rfl <;> (simp only [stp, Int.reduceEq, if_false, if_true]; rw [hq, if_pos h])
theorem stp_13 {q : Nat} {x : Int} (hq : wrap64 (s.r b + c) = q) (h : s.w[q]? = some x) : stp n ⟨13, a, b, c, d⟩ s = ({ s with p := s.p + 1, r := upd s.r a x }, 0) := by
  have := (List.getElem?_eq_some_iff.1 h).1
  simp only [stp, Int.reduceEq, if_false, if_true]
  rw [hq, if_neg (by omega), Int.toNat_natCast, h]
  rfl
theorem stp_14 {q : Nat} (hq : wrap64 (s.r b + c) = q) (h : q < s.w.length) : stp n ⟨14, a, b, c, d⟩ s = ({ s with p := s.p + 1, w := s.w.set q (s.r a) }, 0) := by
  simp only [stp, Int.reduceEq, if_false, if_true]
  rw [hq, if_neg (by omega), Int.toNat_natCast]
theorem stp_15t {q : Nat} {x : Int} (hq : wrap64 (s.r b + c) = q) (h : s.w[q]? = some x) (hx : x = s.r d) : stp n ⟨15, a, b, c, d⟩ s = ({ s with p := s.p + 1, w := s.w.set q (s.r a), r := upd s.r a 1 }, 0) := by
  have := (List.getElem?_eq_some_iff.1 h).1
  simp only [stp, Int.reduceEq, if_false, if_true]
  rw [hq, if_neg (by omega), Int.toNat_natCast, h, Option.getD_some, if_pos hx]
theorem stp_15f {q : Nat} {x : Int} (hq : wrap64 (s.r b + c) = q) (h : s.w[q]? = some x) (hx : x ≠ s.r d) : stp n ⟨15, a, b, c, d⟩ s = ({ s with p := s.p + 1, r := upd s.r a 0 }, 0) := by
  have := (List.getElem?_eq_some_iff.1 h).1
  simp only [stp, Int.reduceEq, if_false, if_true]
  rw [hq, if_neg (by omega), Int.toNat_natCast, h, Option.getD_some, if_neg hx]
end

/-- The state when a call begins. -/
def st0 (args words : List Int) : Vs := ⟨0, fun i => if 0 ≤ i then args[i.toNat]?.getD 0 else 0, words, []⟩
theorem st0_ok {n : Nat} {args words : List Int} (ha : ∀ x ∈ args, inW x) (hw : ∀ x ∈ words, inW x) (hl : words.length ≤ 200) : Ok n (st0 args words) := by
  refine ⟨by simp [st0], by simp [st0], fun i => ?_, hw, hl, by simp [st0], by simp [st0]⟩
  simp only [st0]
  split
  · exact at_in ha _
  · simp [inW]

/-- What is wrong before the execution. -/
def vmX (c : List Ins) (args words : List Int) (limit : Int) : Int :=
  if ¬ okC c then 4 else if 8 < args.length ∨ 200 < words.length then 1 else if limit < 0 ∨ 6000 < limit then 2 else 0
def vmR (c : List Ins) (args words : List Int) (limit : Int) : List Int × List Int × Nat × Int :=
  if vmX c args words limit = 0 then ((rn c limit.toNat (st0 args words)).1.t, (rn c limit.toNat (st0 args words)).1.w, (rn c limit.toNat (st0 args words)).2.1, (rn c limit.toNat (st0 args words)).2.2)
  else ([], [], 0, vmX c args words limit)
end Go.Baro

set_option linter.unusedSimpArgs false
set_option linter.unusedVariables false
namespace Go.Baro

/-- A call: the number of its code, its arguments. -/
structure Cl where
  k : Int
  ar : List Int
/-- A machine: the words, the codes, the calls of each thread. -/
structure Mc where
  ws : List Int
  cs : List (List Ins)
  ts : List (List Cl)
/-- An event. -/
structure Ev where
  st : Nat
  th : Nat
  cl : Nat
  en : Bool
  er : Int
  to : List Int

def okCl (m : Mc) (c : Cl) : Prop := (0 ≤ c.k ∧ c.k < m.cs.length) ∧ c.ar.length ≤ 8
/-- A valid machine. -/
def okMc (m : Mc) : Prop := m.ws.length ≤ 200 ∧ m.cs.length ≤ 8 ∧ m.ts.length ≤ 4 ∧ (∀ c ∈ m.cs, okC c) ∧ ∀ t ∈ m.ts, t.length ≤ 20 ∧ ∀ c ∈ t, okCl m c

/-- A thread within a call: the code, the next instruction, the registers, what it has told. -/
structure Lv where
  c : List Ins
  p : Int
  r : Int → Int
  t : List Int
/-- A thread: its call, if it is within one, and how many it has begun. -/
structure Td where
  now : Option Lv
  bg : Nat
/-- Where a run is. -/
structure Gs where
  w : List Int
  th : Nat → Td
  out : List Ev

def putT (f : Nat → Td) (n : Nat) (t : Td) : Nat → Td := fun i => if i = n then t else f i
def live (c : List Ins) (ar : List Int) : Lv := ⟨c, 0, (st0 ar []).r, []⟩
/-- An instruction of a thread: its call, the words, the error, and whether the call has ended. -/
def exc (l : Lv) (w : List Int) : Lv × List Int × Int × Bool :=
  if l.p = l.c.length then (l, w, 0, true)
  else
    let q := stp l.c.length (l.c[l.p.toNat]?.getD ⟨17, 0, 0, 0, 0⟩) ⟨l.p, l.r, w, l.t⟩
    (⟨l.c, q.1.p, q.1.r, q.1.t⟩, q.1.w, q.2, decide (q.2 ≠ 0 ∨ q.1.p = l.c.length))
/-- What a thread within a call does. -/
def actL (g : Gs) (st n : Nat) (bg : Nat) (l : Lv) (out : List Ev) : Gs :=
  let q := exc l g.w
  if q.2.2.2 then ⟨q.2.1, putT g.th n ⟨none, bg⟩, out ++ [⟨st, n, bg - 1, true, q.2.2.1, q.1.t⟩]⟩
  else ⟨q.2.1, putT g.th n ⟨some q.1, bg⟩, out⟩
/-- A step of thread n. -/
def actG (m : Mc) (g : Gs) (st n : Nat) : Gs :=
  match (g.th n).now with
  | some l => actL g st n (g.th n).bg l g.out
  | none =>
    match (m.ts[n]?.getD [])[(g.th n).bg]? with
    | none => g
    | some c => actL g st n ((g.th n).bg + 1) (live (m.cs[c.k.toNat]?.getD []) c.ar) (g.out ++ [⟨st, n, (g.th n).bg, false, 0, []⟩])
/-- A schedule from step st on. -/
def plyG (m : Mc) : Nat → List Nat → Gs → Gs
  | _, [], g => g
  | st, n :: l, g => plyG m (st + 1) l (actG m g st n)
def g0 (m : Mc) : Gs := ⟨m.ws, fun _ => ⟨none, 0⟩, []⟩

theorem plyG_append (m : Mc) : ∀ (a b : List Nat) (st : Nat) (g : Gs), plyG m st (a ++ b) g = plyG m (st + a.length) b (plyG m st a g)
  | [], b, st, g => rfl
  | n :: a, b, st, g => by
    show plyG m (st + 1) (a ++ b) _ = plyG m (st + (a.length + 1)) b (plyG m (st + 1) a _)
    rw [plyG_append m a b (st + 1), show st + 1 + a.length = st + (a.length + 1) by omega]

/-- A step adds events of this step alone. -/
theorem actL_out (g : Gs) (st n bg : Nat) (l : Lv) (out : List Ev) : ∃ es, (actL g st n bg l out).out = out ++ es ∧ ∀ e ∈ es, e.st = st := by
  unfold actL
  dsimp only
  by_cases h : (exc l g.w).2.2.2 = true
  · rw [if_pos h]; exact ⟨_, rfl, fun e he => by rw [List.mem_singleton.1 he]⟩
  · rw [if_neg h]; exact ⟨[], by simp, by simp⟩
theorem actG_out (m : Mc) (g : Gs) (st n : Nat) : ∃ es, (actG m g st n).out = g.out ++ es ∧ ∀ e ∈ es, e.st = st := by
  unfold actG
  cases (g.th n).now with
  | some l => exact actL_out _ _ _ _ _ _
  | none =>
    dsimp only
    cases (m.ts[n]?.getD [])[(g.th n).bg]? with
    | none => exact ⟨[], by simp, by simp⟩
    | some c =>
      obtain ⟨es, h1, h2⟩ := actL_out g st n ((g.th n).bg + 1) (live (m.cs[c.k.toNat]?.getD []) c.ar) (g.out ++ [⟨st, n, (g.th n).bg, false, 0, []⟩])
      refine ⟨[⟨st, n, (g.th n).bg, false, 0, []⟩] ++ es, by dsimp only; rw [h1, List.append_assoc], fun e he => ?_⟩
      rcases List.mem_append.1 he with he | he
      · rw [List.mem_singleton.1 he]
      · exact h2 e he
theorem plyG_out (m : Mc) : ∀ (l : List Nat) (st : Nat) (g : Gs), ∃ es, (plyG m st l g).out = g.out ++ es ∧ ∀ e ∈ es, st ≤ e.st ∧ e.st < st + l.length
  | [], st, g => ⟨[], by simp [plyG], by simp⟩
  | n :: l, st, g => by
    obtain ⟨e1, h1, h2⟩ := actG_out m g st n
    obtain ⟨e2, h3, h4⟩ := plyG_out m l (st + 1) (actG m g st n)
    refine ⟨e1 ++ e2, by show (plyG m (st + 1) l _).out = _; rw [h3, h1, List.append_assoc], fun e he => ?_⟩
    rw [List.length_cons]
    rcases List.mem_append.1 he with he | he
    · have := h2 e he; omega
    · have := h4 e he; omega
/-- A run under more of a schedule begins as the one under less. -/
theorem run_parts (m : Mc) (a b : List Nat) : ∃ es, (plyG m 0 (a ++ b) (g0 m)).out = (plyG m 0 a (g0 m)).out ++ es ∧ ∀ e ∈ es, a.length ≤ e.st := by
  rw [plyG_append]
  obtain ⟨es, h1, h2⟩ := plyG_out m b (0 + a.length) (plyG m 0 a (g0 m))
  exact ⟨es, h1, fun e he => by have := h2 e he; omega⟩

/-- Who has nothing to do: its step changes nothing. -/
theorem actG_idle {m : Mc} {g : Gs} {st n : Nat} (h : m.ts[n]?.getD [] = []) (hn : (g.th n).now = none) : actG m g st n = g := by
  unfold actG
  rw [hn, h]
  rfl
/-- Other threads are as they were. -/
theorem actL_th {g : Gs} {st n bg i : Nat} {l : Lv} {out : List Ev} (h : i ≠ n) : (actL g st n bg l out).th i = g.th i := by
  unfold actL putT
  dsimp only
  by_cases hq : (exc l g.w).2.2.2 = true
  · rw [if_pos hq]; dsimp only; rw [if_neg h]
  · rw [if_neg hq]; dsimp only; rw [if_neg h]
theorem actG_th {m : Mc} {g : Gs} {st n i : Nat} (h : i ≠ n) : (actG m g st n).th i = g.th i := by
  unfold actG
  cases (g.th n).now with
  | some l => exact actL_th h
  | none =>
    dsimp only
    cases (m.ts[n]?.getD [])[(g.th n).bg]? with
    | none => rfl
    | some c => exact actL_th h
end Go.Baro

set_option linter.unusedSimpArgs false
set_option linter.unusedVariables false
namespace Go.Baro

def WOk (w : List Int) : Prop := w.length ≤ 200 ∧ ∀ x ∈ w, inW x
def LOk (l : Lv) : Prop := 0 ≤ l.p ∧ l.p ≤ l.c.length ∧ (∀ i, inW (l.r i)) ∧ (∀ x ∈ l.t, inW x) ∧ l.t.length ≤ 200
theorem ok_of {l : Lv} {w : List Int} (hl : LOk l) (hw : WOk w) : Ok l.c.length ⟨l.p, l.r, w, l.t⟩ := ⟨hl.1, hl.2.1, hl.2.2.1, hw.2, hw.1, hl.2.2.2.1, hl.2.2.2.2⟩
theorem live_ok {c : List Ins} {ar : List Int} (h : ∀ x ∈ ar, inW x) : LOk (live c ar) := by
  have := st0_ok (n := c.length) (args := ar) (words := []) h (by simp) (by simp)
  exact ⟨this.lo, this.hi, this.r, this.t, this.tl⟩
/-- An instruction of a thread within its call. -/
theorem exc_ok {l : Lv} {w : List Int} (hc : okC l.c) (hi : ∀ o ∈ l.c, inI o) (hl : LOk l) (hw : WOk w) :
    WOk (exc l w).2.1 ∧ LOk (exc l w).1 ∧ (exc l w).1.c = l.c ∧ ((exc l w).2.2.2 = false → (exc l w).1.p < l.c.length) := by
  unfold exc
  by_cases hp : l.p = l.c.length
  · rw [if_pos hp]; exact ⟨hw, hl, rfl, fun h => by cases h⟩
  · rw [if_neg hp]
    have hlt : l.p < l.c.length := by have := hl.2.1; omega
    have hlo := hl.1
    have hn : l.p.toNat < l.c.length := by omega
    rw [List.getElem?_eq_getElem hn, Option.getD_some]
    have hm := List.getElem_mem hn
    have hk := stp_ok (hc.2 _ hm) (hi _ hm) (ok_of hl hw) hlt
    refine ⟨⟨hk.wl, hk.w⟩, ⟨hk.lo, hk.hi, hk.r, hk.t, hk.tl⟩, rfl, fun h => ?_⟩
    have := hk.hi
    simp only [decide_eq_false_iff_not, not_or, Decidable.not_not] at h
    dsimp only
    omega
/-- A thread within a call that has not ended, and what its next instruction gives. -/
theorem exc_stp {l : Lv} {w : List Int} {o : Ins} {s' : Vs} {E : Int} (hp : l.p < l.c.length) (ho : l.c[l.p.toNat]? = some o) (hs : stp l.c.length o ⟨l.p, l.r, w, l.t⟩ = (s', E)) :
    exc l w = (⟨l.c, s'.p, s'.r, s'.t⟩, s'.w, E, decide (E ≠ 0 ∨ s'.p = l.c.length)) := by
  unfold exc
  rw [if_neg (by omega), ho, Option.getD_some, hs]
theorem exc_none {l : Lv} {w : List Int} (hp : l.p = l.c.length) : exc l w = (l, w, 0, true) := by unfold exc; rw [if_pos hp]
/-- What holds of a run at step st. -/
structure GOk (m : Mc) (st : Nat) (g : Gs) : Prop where
  w : WOk g.w
  th : ∀ i l, (g.th i).now = some l → l.c ∈ m.cs ∧ LOk l ∧ l.p < l.c.length
  bg : ∀ i, (g.th i).bg ≤ (m.ts[i]?.getD []).length
  ps : ∀ i l, (g.th i).now = some l → 1 ≤ (g.th i).bg
  out : g.out.length ≤ 2 * st
theorem actL_ok {m : Mc} {g : Gs} {st n bg : Nat} {l : Lv} {o : List Ev} (hcs : ∀ c ∈ m.cs, okC c ∧ ∀ o ∈ c, inI o) (h : GOk m st g) (hl : LOk l) (hc : l.c ∈ m.cs) (h1 : 1 ≤ bg) (h2 : bg ≤ (m.ts[n]?.getD []).length) (ho : o.length ≤ 2 * st + 1) : GOk m (st + 1) (actL g st n bg l o) := by
  obtain ⟨e1, e2, e3, e4⟩ := exc_ok (hcs _ hc).1 (hcs _ hc).2 hl h.w
  unfold actL
  dsimp only
  by_cases hq : (exc l g.w).2.2.2 = true
  · rw [if_pos hq]
    refine ⟨e1, fun i k hk => ?_, fun i => ?_, fun i k hk => ?_, by simp; omega⟩
    · by_cases hi : i = n
      · simp [putT, hi] at hk
      · simp only [putT, if_neg hi] at hk; exact h.th i k hk
    · by_cases hi : i = n
      · subst hi; simp [putT]; exact h2
      · simp only [putT, if_neg hi]; exact h.bg i
    · by_cases hi : i = n
      · simp [putT, hi] at hk
      · simp only [putT, if_neg hi] at hk ⊢; exact h.ps i k hk
  · rw [if_neg hq]
    refine ⟨e1, fun i k hk => ?_, fun i => ?_, fun i k hk => ?_, by dsimp only; omega⟩
    · by_cases hi : i = n
      · simp [putT, hi] at hk
        subst hk
        rw [e3]
        exact ⟨hc, e2, e4 (by simpa using hq)⟩
      · simp only [putT, if_neg hi] at hk; exact h.th i k hk
    · by_cases hi : i = n
      · subst hi; simp [putT]; exact h2
      · simp only [putT, if_neg hi]; exact h.bg i
    · by_cases hi : i = n
      · simp [putT, hi]; exact h1
      · simp only [putT, if_neg hi] at hk ⊢; exact h.ps i k hk
/-- The call that a thread begins. -/
theorem call_at {m : Mc} (hm : okMc m) {n i : Nat} {c : Cl} (hc : (m.ts[n]?.getD [])[i]? = some c) : okCl m c ∧ m.cs[c.k.toNat]?.getD [] ∈ m.cs := by
  cases ht : m.ts[n]? with
  | none => rw [ht] at hc; simp at hc
  | some t =>
    rw [ht] at hc
    have hk := (hm.2.2.2.2 t (List.mem_of_getElem? ht)).2 c (List.mem_of_getElem? hc)
    refine ⟨hk, ?_⟩
    have hlt : c.k.toNat < m.cs.length := by have := hk.1; omega
    rw [List.getElem?_eq_getElem hlt]
    exact List.getElem_mem hlt
theorem actG_ok {m : Mc} {g : Gs} {st n : Nat} (hm : okMc m) (hcs : ∀ c ∈ m.cs, okC c ∧ ∀ o ∈ c, inI o) (hts : ∀ t ∈ m.ts, ∀ c ∈ t, ∀ x ∈ c.ar, inW x) (h : GOk m st g) : GOk m (st + 1) (actG m g st n) := by
  unfold actG
  cases hn : (g.th n).now with
  | some l =>
    obtain ⟨h1, h2, h3⟩ := h.th n l hn
    exact actL_ok hcs h h2 h1 (h.ps n l hn) (h.bg n) (by have := h.out; omega)
  | none =>
    dsimp only
    cases hc : (m.ts[n]?.getD [])[(g.th n).bg]? with
    | none => exact ⟨h.w, h.th, h.bg, h.ps, by have := h.out; show g.out.length ≤ _; omega⟩
    | some c =>
      have hlt : (g.th n).bg < (m.ts[n]?.getD []).length := (List.getElem?_eq_some_iff.1 hc).1
      have har : ∀ x ∈ c.ar, inW x := by
        cases ht : m.ts[n]? with
        | none => rw [ht] at hc; simp at hc
        | some t => rw [ht] at hc; exact hts t (List.mem_of_getElem? ht) c (List.mem_of_getElem? hc)
      exact actL_ok hcs h (live_ok har) (call_at hm hc).2 (by omega) (by omega) (by have := h.out; simp; omega)
theorem g0_ok {m : Mc} (hm : okMc m) (hw : ∀ x ∈ m.ws, inW x) : GOk m 0 (g0 m) :=
  ⟨⟨hm.1, hw⟩, fun _ _ h => (by cases h), fun _ => Nat.zero_le _, fun _ _ h => (by cases h), Nat.le_refl _⟩
theorem plyG_snoc (m : Mc) (l : List Nat) (n : Nat) (g : Gs) : plyG m 0 (l ++ [n]) g = actG m (plyG m 0 l g) l.length n := by
  rw [plyG_append]
  show actG m _ (0 + l.length) n = _
  rw [Nat.zero_add]
theorem plyG_ok {m : Mc} (hm : okMc m) (hcs : ∀ c ∈ m.cs, okC c ∧ ∀ o ∈ c, inI o) (hts : ∀ t ∈ m.ts, ∀ c ∈ t, ∀ x ∈ c.ar, inW x) (hw : ∀ x ∈ m.ws, inW x) : ∀ (k : Nat) (l : List Nat), l.length = k → GOk m k (plyG m 0 l (g0 m))
  | 0, l, hl => by rw [List.eq_nil_of_length_eq_zero hl]; exact g0_ok hm hw
  | k + 1, l, hl => by
    have hne : l ≠ [] := fun h => by rw [h] at hl; cases hl
    rw [← List.dropLast_concat_getLast hne, plyG_snoc]
    have h1 : l.dropLast.length = k := by simp [hl]
    rw [h1]
    exact actG_ok hm hcs hts (plyG_ok hm hcs hts hw k _ h1)

/-- What run.Play answers: events, words, an error. -/
def PlR (m : Mc) (s : List Int) (T : List Ev) (W : List Int) (E : Int) : Prop :=
  (¬ okMc m ∧ T = [] ∧ W = [] ∧ E = 4) ∨ (okMc m ∧ 6000 < s.length ∧ T = [] ∧ W = [] ∧ E = 1) ∨ (okMc m ∧ s.length ≤ 6000 ∧ (∃ x ∈ s, x < 0 ∨ (m.ts.length : Int) ≤ x) ∧ T = [] ∧ W = [] ∧ E = 2) ∨
  (okMc m ∧ s.length ≤ 6000 ∧ (∀ x ∈ s, 0 ≤ x ∧ x < m.ts.length) ∧ T = (plyG m 0 (s.map Int.toNat) (g0 m)).out ∧ W = (plyG m 0 (s.map Int.toNat) (g0 m)).w ∧ E = 0)
theorem plR_some (m : Mc) (s : List Int) : ∃ T W E, PlR m s T W E := by
  by_cases h1 : okMc m
  · by_cases h2 : 6000 < s.length
    · exact ⟨[], [], 1, .inr (.inl ⟨h1, h2, rfl, rfl, rfl⟩)⟩
    · by_cases h3 : ∃ x ∈ s, x < 0 ∨ (m.ts.length : Int) ≤ x
      · exact ⟨[], [], 2, .inr (.inr (.inl ⟨h1, by omega, h3, rfl, rfl, rfl⟩))⟩
      · refine ⟨_, _, 0, .inr (.inr (.inr ⟨h1, by omega, fun x hx => ?_, rfl, rfl, rfl⟩))⟩
        by_cases h4 : 0 ≤ x ∧ x < m.ts.length
        · exact h4
        · exact absurd ⟨x, hx, by omega⟩ h3
  · exact ⟨[], [], 4, .inl ⟨h1, rfl, rfl, rfl⟩⟩
end Go.Baro

set_option linter.unusedSimpArgs false
set_option linter.unusedVariables false
namespace Go.Ord

/-- s writes nothing: it may look (at blocks that are there), ask, make new blocks, halt. -/
def NoWr (P : Program) {α : Type} : Sem α → Prop
  | .pure _ => True
  | .load _ _ k => ∀ v, NoWr P (k v)
  | .store _ _ _ _ => False
  | .new _ k => ∀ r, NoWr P (k r)
  | .shape r k => (∀ s, NoWr P (k s)) ∧ ∀ w a u, w.heap.size ≤ r → (k none).run P w ≠ .ok a u
  | .freeze _ _ _ => False
  | .frozen _ _ => False
  | .getObj _ k => ∀ o, NoWr P (k o)
  | .setObj _ _ _ => False
  | .choose _ k => ∀ n, NoWr P (k n)
  | .sys _ _ => False
  | .program k => NoWr P (k P)
  | .mark _ k => NoWr P k
  | .halt _ => True

section
variable {P : Program} {α β : Type}

theorem NoWr.bnd {s : Sem α} {f : α → Sem β} (hs : NoWr P s) (hf : ∀ a, NoWr P (f a)) : NoWr P (s.bind f) := by
  induction s with
  | pure a => exact hf a
  | load m a k ih => exact fun v => ih v (hs v)
  | store m a v k ih => exact hs.elim
  | new o k ih => exact fun v => ih v (hs v)
  | shape r k ih =>
    refine ⟨fun v => ih v (hs.1 v), fun w a u hw hr => ?_⟩
    have hr' : ((k none).bind f).run P w = .ok a u := hr
    have hb : ((k none).bind f).run P w = ((k none).run P w).andThen fun x w' => (f x).run P w' := Sem.run_bind ..
    rw [hb] at hr'
    cases hk : (k none).run P w with
    | ok x w' => exact hs.2 w x w' hw hk
    | halt h w' => rw [hk] at hr'; cases hr'
  | freeze a n k ih => exact hs.elim
  | frozen a k ih => exact hs.elim
  | getObj r k ih => exact fun v => ih v (hs v)
  | setObj r o k ih => exact hs.elim
  | choose q k ih => exact fun v => ih v (hs v)
  | sys c k ih => exact hs.elim
  | program k ih => exact ih P hs
  | mark m k ih => exact ih hs
  | halt h => trivial

theorem NoWr.bd {s : Sem α} {f : α → Sem β} (hs : NoWr P s) (hf : ∀ a, NoWr P (f a)) : NoWr P (s >>= f) := NoWr.bnd hs hf
theorem NoWr.pr (a : α) : NoWr P (pure a : Sem α) := trivial
theorem NoWr.mp {s : Sem α} {f : α → β} (hs : NoWr P s) : NoWr P (f <$> s) := NoWr.bnd hs (fun _ => trivial)

/-- A run that writes nothing only goes up: in blocks and in draws; and where neither has gone up, the world is the very same. -/
theorem NoWr.up {s : Sem α} (hs : NoWr P s) : ∀ {w u : World} {a : α}, s.run P w = .ok a u →
    w.heap.size ≤ u.heap.size ∧ w.drawn ≤ u.drawn ∧ (u.heap.size ≤ w.heap.size → u.drawn ≤ w.drawn → u = w) := by
  induction s with
  | pure a => intro w u b h; simp only [Sem.run, Result.ok.injEq] at h; obtain ⟨_, rfl⟩ := h; exact ⟨Nat.le_refl _, Nat.le_refl _, fun _ _ => rfl⟩
  | load m a k ih =>
    intro w u b h
    simp only [Sem.run] at h
    split at h
    · exact ih _ (hs _) h
    · split at h
      · exact ih _ (hs _) h
      · cases h
  | store m a v k ih => exact hs.elim
  | new o k ih =>
    intro w u b h
    simp only [Sem.run] at h
    have := ih _ (hs _) h
    simp only [Array.size_push] at this
    exact ⟨by omega, by omega, fun h1 _ => by omega⟩
  | shape r k ih => intro w u b h; exact ih _ (hs.1 _) h
  | freeze a n k ih => exact hs.elim
  | frozen a k ih => exact hs.elim
  | getObj r k ih =>
    intro w u b h
    simp only [Sem.run] at h
    split at h
    · cases h
    · exact ih _ (hs _) h
    · cases h
  | setObj r o k ih => exact hs.elim
  | choose q k ih =>
    intro w u b h
    simp only [Sem.run] at h
    split at h
    · exact ih _ (hs _) h
    · have := ih _ (hs _) h
      simp only at this
      exact ⟨by omega, by omega, fun h1 _ => by omega⟩
  | sys c k ih => exact hs.elim
  | program k ih => intro w u b h; exact ih P hs h
  | mark m k ih => intro w u b h; exact ih hs h
  | halt x => intro w u b h; simp only [Sem.run] at h; cases h

/-- Every block that w has is there in w', as it was. -/
def Ext (w w' : World) : Prop := ∀ b, b < w.heap.size → w'.heap[b]? = w.heap[b]?
theorem Ext.refl (w : World) : Ext w w := fun _ _ => rfl
theorem Ext.size {w w' : World} (h : Ext w w') : w.heap.size ≤ w'.heap.size := by
  cases hn : w.heap.size with
  | zero => exact Nat.zero_le _
  | succ n =>
    have h1 := h n (by omega)
    have hlt : n < w.heap.size := by omega
    have h3 : w.heap[n]? = some w.heap[n] := Array.getElem?_eq_getElem hlt
    rw [h3] at h1
    obtain ⟨h2, _⟩ := Array.getElem?_eq_some_iff.1 h1
    omega
theorem Ext.trans {a b c : World} (h : Ext a b) (h' : Ext b c) : Ext a c := fun k hk => (h' k (by have := h.size; omega)).trans (h k hk)
theorem Ext.of_heap {w w' : World} (h : w'.heap = w.heap) : Ext w w' := fun b _ => by rw [h]
theorem Ext.kept {w w' : World} (h : Ext w w') {b : Nat} {o : Obj} (ho : w.heap[b]? = some o) : w'.heap[b]? = some o := by
  obtain ⟨h1, _⟩ := Array.getElem?_eq_some_iff.1 ho
  rw [h b h1, ho]

theorem seen_ext {w w' : World} (h : Ext w w') {p : Program} {at_ : Addr} {u : TypeId} {k : Addr} {b : Bool} {r : Array Value × TypeId × (Nat × Nat) × Nat × Value × List (Nat × Nat × List UInt8)} (hr : w.seen p at_ u k b = .ok r) : w'.seen p at_ u k b = .ok r := by
  cases hb : w.heap[at_.block]? with
  | some o =>
    have hb' := h.kept hb
    unfold World.seen at hr ⊢
    rw [hb'] 
    rw [hb] at hr
    exact hr
  | none =>
    exfalso
    unfold World.seen at hr
    simp only [hb] at hr
    simp only [bind, Except.bind, throw, throwThe, MonadExceptOf.throw, pure, Except.pure] at hr
    repeat' (split at hr)
    all_goals (first | cases hr | contradiction | skip)

theorem farLoad_ext {w w' : World} (h : Ext w w') {p : Program} {a : Addr} {b : Bool} {r : Value × List Addr} (hr : w.farLoad p a b = .ok r) : w'.farLoad p a b = .ok r := by
  unfold World.farLoad at hr ⊢
  split at hr
  · rename_i at_ u hb
    rw [h.kept hb]
    dsimp only
    cases hv : w.viewLoad p at_ u a b with
    | error e => rw [hv] at hr; cases hr
    | ok x =>
      rw [hv] at hr
      have : w'.viewLoad p at_ u a b = .ok x := by
        unfold World.viewLoad at hv ⊢
        cases hs : w.seen p at_ u a b with
        | error e => rw [hs] at hv; cases hv
        | ok y => rw [hs] at hv; rw [seen_ext h hs]; exact hv
      rw [this]; exact hr
  · cases hr

/-- A run that writes nothing and leaves the very world goes the same way in every world that has the same blocks, and perhaps more. -/
theorem NoWr.same {s : Sem α} (hs : NoWr P s) : ∀ {w w' : World} {a : α}, s.run P w = .ok a w → Ext w w' → s.run P w' = .ok a w' := by
  induction s with
  | pure a => intro w w' b h hh; simp only [Sem.run, Result.ok.injEq] at h ⊢; exact ⟨h.1, trivial⟩
  | load m a k ih =>
    intro w w' b h hh
    simp only [Sem.run] at h ⊢
    cases hb : w.heap[a.block]? with
    | some o =>
      have hc : w'.cell? a = w.cell? a := by simp only [World.cell?, hb, hh.kept hb]
      rw [hc]
      split at h
      · exact ih _ (hs _) h hh
      · cases hf : w.farLoad P a (m == .atomic) with
        | ok x => rw [hf] at h; rw [farLoad_ext hh hf]; exact ih _ (hs _) h hh
        | error e => rw [hf] at h; cases h
    | none =>
      have hc : w.cell? a = none := by simp only [World.cell?, hb]
      obtain ⟨e, hf⟩ : ∃ e, w.farLoad P a (m == .atomic) = .error e := by
        unfold World.farLoad
        rw [hb]
        exact ⟨_, rfl⟩
      simp only [hc, hf] at h
      cases h
  | store m a v k ih => exact hs.elim
  | new o k ih =>
    intro w w' b h hh
    simp only [Sem.run] at h
    have := (NoWr.up (hs _) h).1
    simp only [Array.size_push] at this
    omega
  | shape r k ih =>
    intro w w' b h hh
    simp only [Sem.run] at h ⊢
    by_cases hr : r < w.heap.size
    · have hc : w'.shape? r = w.shape? r := by simp only [World.shape?, hh r hr]
      rw [hc]; exact ih _ (hs.1 _) h hh
    · have hc : w.shape? r = none := by simp only [World.shape?, Array.getElem?_eq_none (Nat.le_of_not_lt hr)]
      rw [hc] at h
      exact (hs.2 w b w (Nat.le_of_not_lt hr) h).elim
  | freeze a n k ih => exact hs.elim
  | frozen a k ih => exact hs.elim
  | getObj r k ih =>
    intro w w' b h hh
    simp only [Sem.run] at h ⊢
    cases hb : w.heap[r]? with
    | none => rw [hb] at h; cases h
    | some o =>
      rw [hh.kept hb]
      rw [hb] at h
      cases o <;> first | (cases h; done) | exact ih _ (hs _) h hh
  | setObj r o k ih => exact hs.elim
  | choose q k ih =>
    intro w w' b h hh
    simp only [Sem.run] at h ⊢
    split at h
    · rename_i hq; rw [if_pos hq]; exact ih _ (hs _) h hh
    · have := (NoWr.up (hs _) h).2.1
      simp only at this
      omega
  | sys c k ih => exact hs.elim
  | program k ih => intro w w' b h hh; exact ih P hs h hh
  | mark m k ih => intro w w' b h hh; exact ih hs h hh
  | halt x => intro w w' b h hh; simp only [Sem.run] at h; cases h
end

end Go.Ord
