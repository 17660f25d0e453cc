/- Of this claim's own texts these, one behind the other: CellSpec, LibSp, CellPure, CellAlg7, BesPure2, LinSpec, LinPure3, LinPure4, TopSure. No statement of the seat is proved here; no condition but those that stand at the theorems. -/
import Derived.Test.YtnchgdjdfhfedaaGreatDoorPartAG
import Derived.Test.YtnchgdjdfhfedaaGreatDoorPartAE
import Derived.Test.YtnchgdjdfhfedaaGreatDoorPartAC
import Derived.Test.YtnchgdjdfhfedaaGreatDoorPartAM
import Derived.Test.YtnchgdjdfhfedaaGreatDoorPartAH
import Derived.Test.YtnchgdjdfhfedaaGreatDoorPartAI
import Derived.Test.YtnchgdjdfhfedaaGreatDoorPartAL
import Derived.Test.YtnchgdjdfhfedaaGreatDoorPartAJ
set_option linter.unusedSimpArgs false
set_option linter.unusedVariables false
namespace Go.Baro
open Go.RowKit
/-- What the functions of cell return: the words, the code of a Put, that of a Get. -/
structure Cc where
  ws : Nat → List Int
  cp : Nat → List Ins
  cg : Nat → List Ins
/-- They may be. -/
structure Cc.Ok (c : Cc) : Prop where
  ws : ∀ d, 1 ≤ d → d ≤ 6 → 0 < (c.ws d).length ∧ (c.ws d).length ≤ 64 ∧ ∀ x ∈ c.ws d, inW x
  cp : ∀ d, 1 ≤ d → d ≤ 6 → 0 < (c.cp d).length ∧ okC (c.cp d) ∧ ∀ o ∈ c.cp d, inI o
  cg : ∀ d, 1 ≤ d → d ≤ 6 → 0 < (c.cg d).length ∧ okC (c.cg d) ∧ ∀ o ∈ c.cg d, inI o
/-- The calls of the thread that puts, of one that gets. -/
def putA (d i : Nat) : List Int := (List.range d).map fun k => ((10 * (i + 1) + k : Nat) : Int)
def putJ (d : Nat) (j : Nat) : List Cl := (List.range j).map fun i => ⟨0, putA d i⟩
def getJ (j : Nat) : List Cl := List.replicate j ⟨1, []⟩
def mCell (c : Cc) (d puts gets : Nat) : Mc := ⟨c.ws d, [c.cp d, c.cg d], (List.range 4).map fun t => if t = 0 then putJ d puts else getJ gets⟩
theorem putJ_succ (d j : Nat) : putJ d (j + 1) = putJ d j ++ [⟨0, putA d j⟩] := by simp [putJ, List.range_succ]
theorem getJ_succ (j : Nat) : getJ (j + 1) = getJ j ++ [⟨1, []⟩] := by simp [getJ, List.replicate_succ']
theorem putJ_len (d j : Nat) : (putJ d j).length = j := by simp [putJ]
theorem getJ_len (j : Nat) : (getJ j).length = j := by simp [getJ]
theorem mCell_ok {c : Cc} (hc : c.Ok) {d puts gets : Nat} (h1 : 1 ≤ d) (h6 : d ≤ 6) (hp : puts ≤ 20) (hg : gets ≤ 20) : okMc (mCell c d puts gets) := by
  refine ⟨?_, by simp [mCell], by simp [mCell], fun x hx => ?_, fun t ht => ?_⟩
  · have := (hc.ws d h1 h6).2.1
    show (c.ws d).length ≤ 200
    omega
  · simp only [mCell, List.mem_cons, List.not_mem_nil, or_false] at hx
    rcases hx with rfl | rfl
    · exact (hc.cp d h1 h6).2.1
    · exact (hc.cg d h1 h6).2.1
  · simp only [mCell, List.mem_map, List.mem_range] at ht
    obtain ⟨i, hi, rfl⟩ := ht
    have key : ∀ x : Cl, (x.k = 0 ∨ x.k = 1) → x.ar.length ≤ 8 → okCl (mCell c d puts gets) x := fun x h h' => ⟨by show 0 ≤ x.k ∧ x.k < ((2 : Nat) : Int); omega, h'⟩
    split
    · refine ⟨by rw [putJ_len]; exact hp, fun x hx => ?_⟩
      simp only [putJ, List.mem_map, List.mem_range] at hx
      obtain ⟨k, _, rfl⟩ := hx
      exact key _ (.inl rfl) (by simp [putA]; omega)
    · refine ⟨by rw [getJ_len]; exact hg, fun x hx => ?_⟩
      rw [List.eq_of_mem_replicate hx]
      exact key _ (.inr rfl) (by simp)
end Go.Baro
namespace Go.Proofs.YtnchgdjdfhfedaaGreatDoor
open Go.RowKit Go.Ord Go.Baro
/-- cell.Words. -/
def CellWordsSpec (c : Cc) : Prop := ∀ (w : World) (d : Int) (hd : inW d), Calls Tryz.prog 5 #[.int .i64 d] w fun e w' => ((1 ≤ d ∧ d ≤ 6) → ∃ A n k, e = .returned (.tuple #[.slice A n k, .int .i64 0]) ∧ n ≤ k ∧ k ≤ 9223372036854775807 ∧ QT w' 3 1 A n ((c.ws d.toNat).map (Value.int .i64))) ∧
  (¬ (1 ≤ d ∧ d ≤ 6) → ∃ A k, e = .returned (.tuple #[.slice A 0 k, .int .i64 2])) ∧ Below w.heap.size w w'
def CellCodeSpec (F : FuncId) (c : Nat → List Ins) : Prop := ∀ (w : World) (hT : Tab w) (d : Int) (hd : inW d), Calls Tryz.prog F #[.int .i64 d] w fun e w' => ((1 ≤ d ∧ d ≤ 6) → ∃ A n k, e = .returned (.tuple #[.slice A n k, .int .i64 0]) ∧ n ≤ k ∧ k ≤ 9223372036854775807 ∧ QT w' 67 5 A n (cellsO (c d.toNat))) ∧
  (¬ (1 ≤ d ∧ d ≤ 6) → ∃ A k, e = .returned (.tuple #[.slice A 0 k, .int .i64 2])) ∧ Below w.heap.size w w'
end Go.Proofs.YtnchgdjdfhfedaaGreatDoor

set_option linter.unusedSimpArgs false
set_option linter.unusedVariables false
namespace Go.Baro
/-- Where the steps of a call end, in a schedule. -/
def spHi (s : List Int) (d : Dg) : Nat := if d.e = -1 then s.length else min s.length (d.e + 1).toNat
/-- How many steps a thread does in a call. -/
def spn (s : List Int) (d : Dg) : Nat := ((s.take (spHi s d)).drop d.b).count (d.th : Int)
theorem spn_step {s : List Int} {b j : Nat} {x : Int} (h : s[j]? = some x) (hb : b ≤ j) (t : Int) : ((s.take (j + 1)).drop b).count t = ((s.take j).drop b).count t + if x = t then 1 else 0 := by
  have hj := (List.getElem?_eq_some_iff.1 h).1
  rw [at_take h, List.drop_append_of_le_length (by simp; omega), List.count_append]
  simp [List.count_cons]

theorem sp_exit {s : List Int} {b j hi : Nat} {t : Int} {m : Nat} (hj : j ≤ hi ∨ j = b) (h : hi ≤ j) (hm : m = ((s.take j).drop b).count t) : m = ((s.take hi).drop b).count t := by
  rcases hj with hj | hj
  · obtain rfl : j = hi := by omega
    exact hm
  · subst hj
    rw [hm, List.drop_eq_nil_of_le (by simp; omega), List.drop_eq_nil_of_le (by simp; omega)]
end Go.Baro

set_option linter.unusedSimpArgs false
set_option linter.unusedVariables false
namespace Go.Baro
/-- The record of the p-th Put; 0: the initial one. -/
def recd (d p : Nat) : List Int := (List.range d).map fun k => if p = 0 then 0 else ((10 * p + k : Nat) : Int)
theorem recd_len (d p : Nat) : (recd d p).length = d := by simp [recd]
theorem recd_at {d p k : Nat} (h : k < d) : (recd d p)[k]? = some (if p = 0 then 0 else ((10 * p + k : Nat) : Int)) := by simp [recd, h]
/-- Every Get tells of the tl-th Put, and all could be one behind the other. -/
structure CellW (d : Nat) (D : List Dg) (tl : Nat → Nat) : Prop where
  zero : ∀ (i : Nat) (x : Dg), D[i]? = some x → (x.th = 0 ∨ x.e = -1) → tl i = 0
  le : ∀ (i : Nat) (x : Dg), D[i]? = some x → tl i ≤ 12
  told : ∀ (i : Nat) (x : Dg), D[i]? = some x → x.th ≠ 0 → x.e ≠ -1 → x.to = recd d (tl i)
  has : ∀ (i : Nat) (x : Dg), D[i]? = some x → x.th ≠ 0 → x.e ≠ -1 → tl i ≠ 0 → ∃ (k : Nat) (y : Dg), D[k]? = some y ∧ y.th = 0 ∧ y.cl + 1 = tl i
  early : ∀ (i : Nat) (x : Dg), D[i]? = some x → x.th ≠ 0 → x.e ≠ -1 → ∀ (k : Nat) (y : Dg), D[k]? = some y → y.th = 0 → y.cl + 1 = tl i → (y.b : Int) ≤ x.e
  puts : ∀ (i : Nat) (x : Dg), D[i]? = some x → x.th ≠ 0 → x.e ≠ -1 → ∀ (k : Nat) (y : Dg), D[k]? = some y → y.th = 0 → y.e ≠ -1 → y.e < x.b → y.cl + 1 ≤ tl i
  gets : ∀ (i : Nat) (x : Dg), D[i]? = some x → x.th ≠ 0 → x.e ≠ -1 → ∀ (k : Nat) (y : Dg), D[k]? = some y → y.th ≠ 0 → y.e ≠ -1 → y.e < x.b → tl k ≤ tl i
/-- Under every schedule. -/
def CellWhole (c : Cc) : Prop := ∀ (d : Nat) (S : List Nat), 1 ≤ d → d ≤ 6 → S.length ≤ 1200 → (∀ x ∈ S, x < 4) → noErr (plyG (mCell c d 12 8) 0 S (g0 (mCell c d 12 8))) ∧ ∃ tl, CellW d (dgs (plyG (mCell c d 12 8) 0 S (g0 (mCell c d 12 8))).out) tl
/-- The schedule of CellEnds. -/
def endS (S : List Int) : List Int := S ++ List.replicate 80 0 ++ List.replicate 80 1
/-- A Put ends within its steps, and a Get that no Put is beside. -/
structure CellE (S : List Int) (D : List Dg) : Prop where
  put : ∀ x ∈ D, x.th = 0 → spn (endS S) x ≤ 80
  get : (∀ x ∈ D, x.th = 0 → x.e ≠ -1) → (∀ x ∈ D, x.th = 1 → x.e = -1 → S.length + 80 < x.b) ∧ ((∃ x ∈ D, x.th = 1 ∧ ((S.length + 80 : Nat) : Int) ≤ x.e) ∨ ∃ x ∈ D, x.th = 1 ∧ x.cl = 7 ∧ x.e ≠ -1 ∧ x.e < ((S.length + 80 : Nat) : Int))
/-- Under every schedule. -/
def CellEnds (c : Cc) : Prop := ∀ (d : Nat) (S : List Int), 1 ≤ d → d ≤ 6 → S.length ≤ 1000 → (∀ x ∈ S, 0 ≤ x ∧ x < 4) → noErr (plyG (mCell c d 12 8) 0 ((endS S).map Int.toNat) (g0 (mCell c d 12 8))) ∧ CellE S (dgs (plyG (mCell c d 12 8) 0 ((endS S).map Int.toNat) (g0 (mCell c d 12 8))).out)
/-- The arguments of CellTells, its machine, its schedule. -/
def tellA (d : Nat) (l : List Int) : List Int := (List.range d).map fun k => l[k]?.getD 7
def mTell (c : Cc) (d : Nat) (ar : List Int) : Mc := ⟨c.ws d, [c.cp d, c.cg d], (List.range 4).map fun t => if t = 0 then [⟨0, putA d 0⟩, ⟨0, ar⟩] else getJ 1⟩
def tV (q : Nat) : Int := if q = 0 then 1 else if q = 1 then 0 else 2
def tQ : Nat → List Int
  | 0 => []
  | q + 1 => tQ q ++ List.replicate 160 (tV q)
theorem tQ_len : ∀ q, (tQ q).length = 160 * q
  | 0 => rfl
  | q + 1 => by simp [tQ, tQ_len q]; omega
theorem tQ_in : ∀ q, ∀ x ∈ tQ q, 0 ≤ x ∧ x < 4
  | 0, x, h => by cases h
  | q + 1, x, h => by
    rcases List.mem_append.1 h with h | h
    · exact tQ_in q x h
    · rw [List.eq_of_mem_replicate h]; unfold tV; split <;> (try split) <;> omega
/-- One behind the other. -/
def CellTells (c : Cc) : Prop := ∀ (d : Nat) (ar : List Int), 1 ≤ d → d ≤ 6 → ar.length = d → (∀ x ∈ ar, inW x) → noErr (plyG (mTell c d ar) 0 ((tQ 3).map Int.toNat) (g0 (mTell c d ar))) ∧
  ∃ d0 d1 d2 d3, dgs (plyG (mTell c d ar) 0 ((tQ 3).map Int.toNat) (g0 (mTell c d ar))).out = [d0, d1, d2, d3] ∧ d0.e ≠ -1 ∧ d2.e ≠ -1 ∧ d3.e ≠ -1 ∧ d0.to = List.replicate d 0 ∧ d3.to = ar
theorem mTell_ok {c : Cc} (hc : c.Ok) {d : Nat} {ar : List Int} (h1 : 1 ≤ d) (h6 : d ≤ 6) (ha : ar.length = d) : okMc (mTell c d ar) := by
  refine ⟨?_, by simp [mTell], by simp [mTell], fun x hx => ?_, fun t ht => ?_⟩
  · have := (hc.ws d h1 h6).2.1
    show (c.ws d).length ≤ 200
    omega
  · simp only [mTell, List.mem_cons, List.not_mem_nil, or_false] at hx
    rcases hx with rfl | rfl
    · exact (hc.cp d h1 h6).2.1
    · exact (hc.cg d h1 h6).2.1
  · simp only [mTell, List.mem_map, List.mem_range] at ht
    obtain ⟨i, hi, rfl⟩ := ht
    have key : ∀ x : Cl, (x.k = 0 ∨ x.k = 1) → x.ar.length ≤ 8 → okCl (mTell c d ar) x := fun x h h' => ⟨by show 0 ≤ x.k ∧ x.k < ((2 : Nat) : Int); omega, h'⟩
    split
    · refine ⟨by simp, fun x hx => ?_⟩
      simp only [List.mem_cons, List.not_mem_nil, or_false] at hx
      rcases hx with rfl | rfl
      · exact key _ (.inl rfl) (by simp [putA]; omega)
      · exact key _ (.inl rfl) (by show ar.length ≤ 8; omega)
    · refine ⟨by rw [getJ_len]; omega, fun x hx => ?_⟩
      rw [List.eq_of_mem_replicate hx]
      exact key _ (.inr rfl) (by simp)
end Go.Baro

set_option linter.unusedSimpArgs false
set_option linter.unusedVariables false
namespace Go.Baro.Cel
/-- The words and codes of cell. -/
def cc : Cc := ⟨wsC, putC, getC⟩
theorem rd_zero (d n : Nat) : rd (wsC d) n = 0 := by
  unfold rd wsC
  rw [List.getElem?_replicate]
  split <;> rfl
theorem j_zero {m : Mc} {d : Nat} {val : Nat → Nat → Int} (hm : Mok m d val) : ∃ h, J m d val [] 0 (g0 m) h := by
  refine ⟨⟨0, 0, 0, fun _ => 0, 5, 4, fun _ => 0, fun _ => 0, fun _ => 0, fun _ => 0, fun _ _ => 0⟩, ?_, ?_, .inl ⟨rfl, rfl, rfl, rfl⟩, fun t h1 h3 => .inl ⟨rfl, rfl, fun s => by dsimp only; omega⟩, cnt_zero m _ _, hs_zero m, ?_, fun x hx => by simp [g0] at hx⟩
  · simp only [g0, hm.ws]
    refine ⟨by simp [wsC], by dsimp only; omega, by rw [rd_zero]; simp [ad], rfl, by dsimp only; omega, fun j hj ht k hk => by rw [rd_zero]; exact (hm.v0 k hk).symm, fun h => by dsimp only at h; omega, fun s _ => .inl (rd_zero _ _), rd_zero _ _⟩
  · simp only [g0, hm.ws]
    refine ⟨fun s _ => by rw [rd_zero]; exact ⟨fun _ => rfl, fun _ => rfl⟩, fun _ => by dsimp only; omega, fun _ _ h => absurd rfl h, by dsimp only; omega, by dsimp only; omega, by dsimp only; omega, fun _ => Nat.le_refl _, fun _ _ => rfl⟩
  · refine ⟨?_, ?_, ?_, ?_, ?_, ?_, ?_⟩ <;> simp [g0, dgs]
theorem j_run {m : Mc} {d : Nat} {val : Nat → Nat → Int} (h1 : 1 ≤ d) (h6 : d ≤ 6) (hm : Mok m d val) (S : List Nat) (hS : ∀ n ∈ S, n < 4) : ∃ h, J m d val S S.length (plyG m 0 S (g0 m)) h := by
  refine plyG_indS (I := fun S g => ∃ h, J m d val S S.length g h) (A := fun n => n < 4) (j_zero hm) (fun S g n hn ⟨h, H⟩ => ?_) S hS
  rw [actG_eq]
  obtain ⟨h', H'⟩ := j_begin hm hn H
  obtain ⟨h2, H2⟩ := j_exec h1 h6 hn H'
  refine ⟨h2, ?_⟩
  rw [List.length_append, List.length_singleton]
  exact H2
theorem PA.bV {d : Nat} {val : Nat → Nat → Int} {w : List Int} {g : Gh} {b k p : Nat} {r : Int → Int} (h : PA d val w g b k p r) : g.V ≤ b := by
  cases h <;> first | (have := ‹PR d val g b r›.b; omega) | omega
theorem J.Vbg {m : Mc} {d : Nat} {val : Nat → Nat → Int} {S : List Nat} {sb : Nat} {g : Gs} {h : Gh} (H : J m d val S sb g h) : h.V ≤ (g.th 0).bg := by
  rcases H.t0 with ⟨_, _, _, q⟩ | ⟨p, r, _, _, q⟩
  · omega
  · exact q.bV
/-- No call takes more steps. -/
theorem J.few {m : Mc} {d : Nat} {val : Nat → Nat → Int} {S : List Nat} {g : Gs} {h : Gh} (h6 : d ≤ 6) (H : J m d val S S.length g h) {x : Dg} (hx : x ∈ dgs g.out) : (x.e = -1 → (S.drop x.b).count x.th ≤ if x.th = 0 then 51 else 36) ∧ (x.e ≠ -1 → ((S.take (x.e + 1).toNat).drop x.b).count x.th ≤ if x.th = 0 then 51 else 36) := by
  obtain ⟨c1, c2, c3⟩ := H.cnt x hx
  have h4 := H.hist.th x hx
  refine ⟨fun he => ?_, fun he => ?_⟩
  · rw [c2 he]
    have hn := ((H.hs.opn x hx).1 he).1
    by_cases h0 : x.th = 0
    · rw [if_pos h0, h0]
      rw [h0] at hn
      rcases H.t0 with ⟨q, _⟩ | ⟨p, r, _, _, q⟩
      · exact absurd q hn
      · have := q.steps; omega
    · rw [if_neg h0]
      rcases H.tr x.th (by omega) (by omega) with ⟨q, _⟩ | ⟨p, r, l, _, _, q⟩
      · exact absurd q hn
      · have := q.steps; omega
  · have := (c3 he).2
    dsimp only at this
    split at this <;> (split <;> omega)
/-- The record of a Put of the statements. -/
def valR (p k : Nat) : Int := if p = 0 then 0 else ((10 * p + k : Nat) : Int)
theorem rcd_recd (d p : Nat) : rcd valR d p = recd d p := rfl
theorem mok_cell (d puts gets : Nat) : Mok (mCell cc d puts gets) d valR := by
  refine ⟨rfl, rfl, fun i c hc => ?_, fun t h1 h4 i c hc => ?_, fun q _ => rfl⟩
  · have h0 : (mCell cc d puts gets).ts[0]?.getD [] = putJ d puts := by simp [mCell]
    rw [h0] at hc
    have hi := (List.getElem?_eq_some_iff.1 hc).1
    rw [putJ_len] at hi
    have : c = ⟨0, putA d i⟩ := by
      have : (putJ d puts)[i]? = some ⟨0, putA d i⟩ := by simp [putJ, hi]
      rw [this] at hc
      injection hc with hc
      exact hc.symm
    subst this
    refine ⟨rfl, by simp [putA], fun q hq => ?_⟩
    simp [putA, hq, valR]
  · have h0 : (mCell cc d puts gets).ts[t]?.getD [] = getJ gets := by
      simp [mCell, h4]
      omega
    rw [h0] at hc
    have := List.eq_of_mem_replicate (List.mem_of_getElem? hc)
    subst this
    exact ⟨rfl, rfl⟩
theorem cell_whole : CellWhole cc := by
  intro d S h1 h6 hl hS
  obtain ⟨h, H⟩ := j_run h1 h6 (mok_cell d 12 8) S hS
  have hbg := bg_le (mCell cc d 12 8) S 0
  generalize plyG (mCell cc d 12 8) 0 S (g0 (mCell cc d 12 8)) = g at H hbg
  have hV : h.V ≤ 12 := by
    have h0 : (mCell cc d 12 8).ts[0]?.getD [] = putJ d 12 := by simp [mCell]
    rw [h0, putJ_len] at hbg
    have := H.Vbg; omega
  refine ⟨H.err, fun i => match (dgs g.out)[i]? with | none => 0 | some x => if x.th ≠ 0 ∧ x.e ≠ -1 then h.tl x.th x.cl else 0, ?_⟩
  have hI := H.hist
  have hmem : ∀ {i : Nat} {x : Dg}, (dgs g.out)[i]? = some x → x ∈ dgs g.out := fun hx => List.mem_of_getElem? hx
  refine ⟨fun i x hx hh => ?_, fun i x hx => ?_, fun i x hx q1 q2 => ?_, fun i x hx q1 q2 hn => ?_, fun i x hx q1 q2 k y hy y1 y2 => ?_, fun i x hx q1 q2 k y hy y1 y2 y3 => ?_, fun i x hx q1 q2 k y hy y1 y2 y3 => ?_⟩
  · simp only [hx]
    rw [if_neg]
    rintro ⟨a, b⟩
    rcases hh with hh | hh
    · exact a hh
    · exact b hh
  · simp only [hx]
    split
    · rename_i hh
      exact Nat.le_trans (hI.gV x (hmem hx) hh.1 hh.2) hV
    · omega
  · simp only [hx]
    rw [if_pos ⟨q1, q2⟩]
    exact hI.told x (hmem hx) q1 q2
  · simp only [hx] at hn ⊢
    rw [if_pos ⟨q1, q2⟩] at hn ⊢
    have h2 := hI.gV x (hmem hx) q1 q2
    have h3 := H.Vbg
    obtain ⟨y, hy, e1, e2⟩ := H.hs.all 0 (h.tl x.th x.cl - 1) (by omega)
    obtain ⟨k, hk⟩ := List.mem_iff_getElem?.1 hy
    exact ⟨k, y, hk, e1, by omega⟩
  · simp only [hx] at y2
    rw [if_pos ⟨q1, q2⟩] at y2
    exact hI.early x (hmem hx) q1 q2 y (hmem hy) y1 y2
  · simp only [hx]
    rw [if_pos ⟨q1, q2⟩]
    exact (hI.ord x (hmem hx) q1 q2 y (hmem hy) y2 y3).1 y1
  · simp only [hx, hy]
    rw [if_pos ⟨y1, y2⟩, if_pos ⟨q1, q2⟩]
    exact (hI.ord x (hmem hx) q1 q2 y (hmem hy) y2 y3).2 y1
theorem count_nat {l : List Int} (h : ∀ x ∈ l, 0 ≤ x) (n : Nat) : l.count (n : Int) = (l.map Int.toNat).count n := by
  induction l with
  | nil => rfl
  | cons a l ih =>
    have ha := h a (by simp)
    rw [List.map_cons, List.count_cons, List.count_cons, ih (fun x hx => h x (by simp [hx]))]
    congr 1
    by_cases he : a = n
    · subst he; simp
    · have : ¬ a.toNat = n := by omega
      simp [he, this]
theorem cell_ends : CellEnds cc := by
  intro d S h1 h6 hl hS
  have hT4 : ∀ x ∈ endS S, 0 ≤ x ∧ x < 4 := by
    intro x hx
    unfold endS at hx
    rcases List.mem_append.1 hx with hx | hx
    · rcases List.mem_append.1 hx with hx | hx
      · exact hS x hx
      · rw [List.eq_of_mem_replicate hx]; omega
    · rw [List.eq_of_mem_replicate hx]; omega
  have hN4 : ∀ n ∈ (endS S).map Int.toNat, n < 4 := by
    intro n hn
    obtain ⟨x, hx, rfl⟩ := List.mem_map.1 hn
    have := hT4 x hx; omega
  obtain ⟨A, hA, hAl⟩ : ∃ A : List Nat, (endS S).map Int.toNat = A ++ List.replicate 80 1 ∧ A.length = S.length + 80 := ⟨(S ++ List.replicate 80 0).map Int.toNat, by simp [endS], by simp⟩
  have hTl : (endS S).length = ((endS S).map Int.toNat).length := by simp
  obtain ⟨h, H⟩ := j_run h1 h6 (mok_cell d 12 8) _ hN4
  have hA4 : ∀ n ∈ A, n < 4 := fun n hn => hN4 n (by rw [hA]; simp [hn])
  obtain ⟨hA', HA⟩ := j_run h1 h6 (mok_cell d 12 8) A hA4
  have hlt := fun (x : Dg) hx => @ply_later (mCell cc d 12 8) A (List.replicate 80 1) x hx
  rw [← hA] at hlt
  have hop : ∀ x ∈ dgs (plyG (mCell cc d 12 8) 0 ((endS S).map Int.toNat) (g0 (mCell cc d 12 8))).out, x.th = 1 → x.e = -1 → S.length + 80 < x.b := by
    intro x hx hx1 hxe
    rcases Nat.lt_or_ge (S.length + 80) x.b with hlt | hge
    · exact hlt
    · exfalso
      have := (H.few h6 hx).1 hxe
      rw [hx1, if_neg (by omega), hA, List.drop_append_of_le_length (by omega), List.count_append] at this
      simp at this
  refine ⟨H.err, ⟨fun x hx hx0 => ?_, fun _ => ⟨hop, ?_⟩⟩⟩
  · have hf := H.few h6 hx
    rw [hx0, if_pos rfl] at hf
    obtain ⟨c1, c2, c3⟩ := H.cnt x hx
    unfold spn
    rw [hx0, count_nat (fun y hy => (hT4 y (List.mem_of_mem_take (List.mem_of_mem_drop hy))).1), List.map_drop, List.map_take]
    unfold spHi
    by_cases he : x.e = -1
    · rw [if_pos he, hTl, List.take_length]
      have := hf.1 he; omega
    · rw [if_neg he, Nat.min_eq_right (by have := (c3 he).1; rw [hTl]; omega)]
      have := hf.2 he; omega
  · -- what thread 1 does at the first of the last eighty steps
    have hst : ∃ gA, gA = plyG (mCell cc d 12 8) 0 A (g0 (mCell cc d 12 8)) := ⟨_, rfl⟩
    obtain ⟨gA, hgA⟩ := hst
    rw [← hgA] at HA hlt
    have h8 : (mCell cc d 12 8).ts[1]?.getD [] = getJ 8 := by simp [mCell]
    rcases bgG_cases (mCell cc d 12 8) gA A.length 1 with ⟨_, hb | ⟨hb1, hb2⟩⟩ | ⟨c, hb1, hb2, hb3⟩
    · obtain ⟨x, hx, x1, x2, x3, x4⟩ := HA.hs.live hb
      obtain ⟨x', hx', y1, y2, y3, y4, y5⟩ := hlt x hx
      refine .inl ⟨x', hx', by rw [y1, x1], ?_⟩
      rcases y5 x3 with y5 | y5
      · have := hop x' hx' (by rw [y1, x1]) y5
        have := (HA.hs.bnd x hx).1
        omega
      · omega
    · rw [h8, getJ_len] at hb2
      obtain ⟨x, hx, x1, x2⟩ := HA.hs.all 1 7 (by omega)
      have hxe : x.e ≠ -1 := fun he => by
        have := ((HA.hs.opn x hx).1 he).1
        rw [x1] at this; exact this hb1
      obtain ⟨x', hx', y1, y2, y3, y4, y5⟩ := hlt x hx
      obtain rfl := y4 hxe
      refine .inr ⟨x', hx', x1, x2, hxe, ?_⟩
      have := ((HA.hs.bnd x' hx).2 hxe).2
      omega
    · -- a call begins at this step
      have hA1 : ∃ x ∈ dgs (plyG (mCell cc d 12 8) 0 (A ++ [1]) (g0 (mCell cc d 12 8))).out, x.th = 1 ∧ x.b = A.length ∧ (x.e = -1 ∨ x.e = A.length) := by
        rw [ply_snoc, ← hgA, actG_eq, hb3]
        obtain ⟨es, q1, q2⟩ : ∃ es, (exG ⟨gA.w, putT gA.th 1 ⟨some (live ((mCell cc d 12 8).cs[c.k.toNat]?.getD []) c.ar), (gA.th 1).bg + 1⟩, gA.out ++ [⟨A.length, 1, (gA.th 1).bg, false, 0, []⟩]⟩ A.length 1).out = (gA.out ++ [⟨A.length, 1, (gA.th 1).bg, false, 0, []⟩]) ++ es ∧ ∀ e ∈ es, e.st = A.length := by
          unfold exG
          dsimp only
          rw [putT_same]
          exact actL_out _ _ _ _ _ _
        rw [q1]
        have : dgs ((gA.out ++ [⟨A.length, 1, (gA.th 1).bg, false, 0, []⟩]) ++ es) = es.foldl dg1 (dgs gA.out ++ [⟨A.length, -1, 1, (gA.th 1).bg, []⟩]) := by
          rw [← dgs_begin]; simp [dgs, List.foldl_append]
        rw [this]
        have hup : ∀ (es : List Ev) (l : List Dg) (d : Dg), (∀ e ∈ es, e.st = A.length) → d ∈ l → (d.e = -1 ∨ d.e = A.length) → ∃ d' ∈ es.foldl dg1 l, d'.th = d.th ∧ d'.b = d.b ∧ (d'.e = -1 ∨ d'.e = A.length) := by
          intro es
          induction es with
          | nil => intro l d _ hd he; exact ⟨d, hd, rfl, rfl, he⟩
          | cons x es ih =>
            intro l d hes hd he
            rw [List.foldl_cons]
            by_cases hen : x.en = true
            · rw [dg1_end _ _ hen]
              have hfe : (d.fin x).e = -1 ∨ (d.fin x).e = A.length := by
                unfold Dg.fin
                split
                · exact .inr (by dsimp only; rw [hes x (by simp)])
                · exact he
              obtain ⟨d', k1, k2, k3, k4⟩ := ih (l.map (fun d => d.fin x)) (d.fin x) (fun e he => hes e (by simp [he])) (List.mem_map.2 ⟨d, hd, rfl⟩) hfe
              refine ⟨d', k1, ?_, ?_, k4⟩
              · rw [k2]; unfold Dg.fin; split <;> rfl
              · rw [k3]; unfold Dg.fin; split <;> rfl
            · rw [dg1_begin _ _ (by simpa using hen)]
              exact ih _ d (fun e he => hes e (List.mem_cons_of_mem _ he)) (List.mem_append_left _ hd) he
        obtain ⟨d', k1, k2, k3, k4⟩ := hup es (dgs gA.out ++ [⟨A.length, -1, 1, (gA.th 1).bg, []⟩]) ⟨A.length, -1, 1, (gA.th 1).bg, []⟩ q2 (by simp) (.inl rfl)
        exact ⟨d', k1, k2, k3, k4⟩
      obtain ⟨x, hx, x1, x2, x3⟩ := hA1
      have hlt2 := ply_later (mCell cc d 12 8) (A ++ [1]) (List.replicate 79 1) hx
      rw [List.append_assoc, show [1] ++ List.replicate 79 1 = List.replicate 80 1 from rfl, ← hA] at hlt2
      obtain ⟨x', hx', y1, y2, y3, y4, y5⟩ := hlt2
      refine .inl ⟨x', hx', by rw [y1, x1], ?_⟩
      rcases x3 with x3 | x3
      · rcases y5 x3 with y5 | y5
        · have := hop x' hx' (by rw [y1, x1]) y5
          omega
        · simp at y5; omega
      · rw [y4 (by omega)]; omega
end Go.Baro.Cel

set_option linter.unusedSimpArgs false
set_option linter.unusedVariables false
namespace Go.Baro.Bsd
open Go.RowKit (wrap64)

def bsN (by_ : List Int) (i : Nat) : Int := if i < by_.length then (by_[i]?.getD 0) % 9 else 1
/-- The calls of thread q while i rounds are done. -/
def bsJ (by_ : List Int) (d i q : Nat) : List Cl :=
  if q = 2 then List.replicate i ⟨1, List.replicate d 0⟩ else if q = 3 then List.replicate i ⟨2, []⟩
  else ((List.range i).filter fun j => decide (j % 2 = q)).map fun j => ⟨0, [bsN by_ j]⟩
def mB (by_ : List Int) (d : Nat) : Mc := ⟨[0] ++ Cel.wsC d, [Cnt.addC, (Cel.putC d).map (mvB 1), (Cel.getC d).map (mvB 1)], (List.range 4).map (bsJ by_ d 6)⟩
def mBN (by_ : List Int) (d : Nat) : Mc := ⟨[0], [Cnt.addC, Cnt.getC], [bsJ by_ d 6 0, bsJ by_ d 6 1]⟩
def mBC (d : Nat) : Mc := ⟨Cel.wsC d, [Cel.putC d, Cel.getC d], [List.replicate 6 ⟨0, List.replicate d 0⟩, List.replicate 6 ⟨1, []⟩]⟩
theorem bsJ_succ (by_ : List Int) (d i q : Nat) : bsJ by_ d (i + 1) q = if q = 2 then bsJ by_ d i q ++ [⟨1, List.replicate d 0⟩] else if q = 3 then bsJ by_ d i q ++ [⟨2, []⟩] else if i % 2 = q then bsJ by_ d i q ++ [⟨0, [bsN by_ i]⟩] else bsJ by_ d i q := by
  unfold bsJ
  by_cases h2 : q = 2
  · simp only [if_pos h2, List.replicate_succ']
  · simp only [if_neg h2]
    by_cases h3 : q = 3
    · simp only [if_pos h3, List.replicate_succ']
    · simp only [if_neg h3]
      rw [List.range_succ, List.filter_append, List.map_append]
      by_cases h : i % 2 = q <;> simp [h]
theorem bsJ_len {by_ : List Int} {d i q : Nat} : (bsJ by_ d i q).length ≤ i := by
  unfold bsJ
  split
  · simp
  · split
    · simp
    · rw [List.length_map]
      exact Nat.le_trans (List.length_filter_le _ _) (by simp)
theorem bsJ_low {by_ : List Int} {d q i : Nat} {c : Cl} (hq : q < 2) (h : (bsJ by_ d 6 q)[i]? = some c) : c.k = 0 ∧ ∃ a, c.ar = [a] := by
  have hm := List.mem_of_getElem? h
  unfold bsJ at hm
  rw [if_neg (by omega), if_neg (by omega)] at hm
  obtain ⟨j, _, rfl⟩ := List.mem_map.1 hm
  exact ⟨rfl, _, rfl⟩
theorem mok_N (by_ : List Int) (d : Nat) : Cnt.Mok (mBN by_ d) := Cnt.mok_of fun t i c h => by
  match t, h with
  | 0, h => exact .inl (bsJ_low (by omega) h)
  | 1, h => exact .inl (bsJ_low (by omega) h)
  | t + 2, h => simp at h
theorem mok_C (d : Nat) : Cel.Mok (mBC d) d (fun _ _ => 0) := by
  refine ⟨rfl, rfl, fun i c hc => ?_, fun t h1 h4 i c hc => ?_, fun q _ => rfl⟩
  · have hc' : (List.replicate 6 (⟨0, List.replicate d 0⟩ : Cl))[i]? = some c := hc
    have := List.eq_of_mem_replicate (List.mem_of_getElem? hc')
    subst this
    exact ⟨rfl, by simp, fun q hq => by simp [hq]⟩
  · match t, h1, hc with
    | 1, _, hc =>
      have hc' : (List.replicate 6 (⟨1, []⟩ : Cl))[i]? = some c := hc
      have := List.eq_of_mem_replicate (List.mem_of_getElem? hc')
      subst this
      exact ⟨rfl, rfl⟩
    | t + 2, _, hc => simp [mBC] at hc
theorem bes (by_ : List Int) (d : Nat) : Bes (mB by_ d) (mBN by_ d) (mBC d) := by
  refine ⟨rfl, fun t ht i => ?_, fun t ht i c hc => ?_, fun t i => ?_⟩
  · rcases (by omega : t = 0 ∨ t = 1) with rfl | rfl <;> rfl
  · have hk : c.k = 0 := by
      rcases (by omega : t = 0 ∨ t = 1) with rfl | rfl
      · exact (bsJ_low (by omega) hc).1
      · exact (bsJ_low (by omega) hc).1
    rw [hk]; rfl
  · match t with
    | 0 =>
      show match (List.replicate 6 (⟨0, List.replicate d 0⟩ : Cl))[i]? with | none => _ | some c => _
      by_cases hi : i < 6
      · rw [List.getElem?_replicate, if_pos hi]
        refine ⟨⟨1, List.replicate d 0⟩, ?_, rfl, rfl⟩
        show (List.replicate 6 (⟨1, List.replicate d 0⟩ : Cl))[i]? = _
        rw [List.getElem?_replicate, if_pos hi]
      · rw [List.getElem?_replicate, if_neg hi]
        show (List.replicate 6 (⟨1, List.replicate d 0⟩ : Cl))[i]? = _
        rw [List.getElem?_replicate, if_neg hi]
    | 1 =>
      show match (List.replicate 6 (⟨1, []⟩ : Cl))[i]? with | none => _ | some c => _
      by_cases hi : i < 6
      · rw [List.getElem?_replicate, if_pos hi]
        refine ⟨⟨2, []⟩, ?_, rfl, rfl⟩
        show (List.replicate 6 (⟨2, []⟩ : Cl))[i]? = _
        rw [List.getElem?_replicate, if_pos hi]
      · rw [List.getElem?_replicate, if_neg hi]
        show (List.replicate 6 (⟨2, []⟩ : Cl))[i]? = _
        rw [List.getElem?_replicate, if_neg hi]
    | t + 2 => simp [mBC, mB]
theorem bes_run (by_ : List Int) {d : Nat} (h1 : 1 ≤ d) (h6 : d ≤ 6) (S : List Nat) (hS : ∀ x ∈ S, x < 4) :
    BR 1 (plyG (mB by_ d) 0 S (g0 (mB by_ d))) (plyG (mBN by_ d) 0 (lowS S) (g0 (mBN by_ d))) (plyG (mBC d) 0 (highS S) (g0 (mBC d))) := by
  refine beside (bes by_ d) (by show 1 ≤ 1000; omega) (by simp [mBC, Cel.wsC]; omega) (fun n => n < 4) (fun n h => h) (fun S _ => (Cnt.cnt_lin (mok_N by_ d) S).1) (fun S hS => ?_) S hS
  obtain ⟨h, H⟩ := Cel.j_run h1 h6 (mok_C d) S (fun n hn => by have := hS n hn; omega)
  exact H.err
def lo (x : Ev) : Bool := decide (x.th < 2)
theorem filter_at {α : Type} {p : α → Bool} {a : List α} {q : Nat} {e : α} (h : a[q]? = some e) (hp : p e = true) : (a.filter p)[((a.take q).filter p).length]? = some e := by
  have h1 : a = a.take q ++ e :: a.drop (q + 1) := by
    obtain ⟨hq, rfl⟩ := List.getElem?_eq_some_iff.1 h
    rw [← List.drop_eq_getElem_cons hq, List.take_append_drop]
  have h2 : a.filter p = (a.take q).filter p ++ (e :: a.drop (q + 1)).filter p := by
    conv => lhs; rw [h1]
    exact List.filter_append ..
  rw [h2, List.getElem?_append_right (Nat.le_refl _), Nat.sub_self, List.filter_cons_of_pos hp]
  rfl
theorem filter_len {α : Type} (p : α → Bool) : ∀ a : List α, (a.filter p).length + (a.filter fun x => !p x).length = a.length
  | [] => rfl
  | x :: a => by
    have ih := filter_len p a
    by_cases h : p x = true
    · rw [List.filter_cons_of_pos h, List.filter_cons_of_neg (by simp [h])]
      simp only [List.length_cons]; omega
    · rw [List.filter_cons_of_neg h, List.filter_cons_of_pos (by simpa using h)]
      simp only [List.length_cons]; omega
theorem filter_all {α : Type} {p : α → Bool} {a : List α} (h : (a.filter fun x => !p x) = []) : a.filter p = a := by
  rw [List.filter_eq_self]
  intro x hx
  have := List.filter_eq_nil_iff.1 h x hx
  simpa using this
/-- What is asked of the three runs. -/
theorem bes_cmp (by_ : List Int) {d : Nat} (h1 : 1 ≤ d) (h6 : d ≤ 6) (S : List Nat) (hS : ∀ x ∈ S, x < 4) :
    ((plyG (mB by_ d) 0 S (g0 (mB by_ d))).out.filter lo).map (strip 0) = (plyG (mB by_ d) 0 (S.filter fun x => decide (x < 2)) (g0 (mB by_ d))).out.map (strip 0) ∧
    ((plyG (mB by_ d) 0 S (g0 (mB by_ d))).out.filter fun x => !lo x).map (strip 0) = (plyG (mB by_ d) 0 (S.filter fun x => !decide (x < 2)) (g0 (mB by_ d))).out.map (strip 0) := by
  have H := bes_run by_ h1 h6 S hS
  have H1 := bes_run by_ h1 h6 (S.filter fun x => decide (x < 2)) (fun x hx => hS x (List.mem_filter.1 hx).1)
  have H2 := bes_run by_ h1 h6 (S.filter fun x => !decide (x < 2)) (fun x hx => hS x (List.mem_filter.1 hx).1)
  have e1 : lowS (S.filter fun x => decide (x < 2)) = lowS S := by unfold lowS; rw [List.filter_filter]; simp
  have e2 : highS (S.filter fun x => decide (x < 2)) = [] := by
    unfold highS
    rw [List.filter_filter]
    simp
  have e3 : lowS (S.filter fun x => !decide (x < 2)) = [] := by
    unfold lowS
    rw [List.filter_filter]
    simp
  have e4 : highS (S.filter fun x => !decide (x < 2)) = highS S := by unfold highS; rw [List.filter_filter]; simp
  rw [e1, e2] at H1
  rw [e3, e4] at H2
  constructor
  · have h0 := H1.oC
    have h0' : ((plyG (mB by_ d) 0 (S.filter fun x => decide (x < 2)) (g0 (mB by_ d))).out.filter fun x => !lo x) = [] := List.map_eq_nil_iff.1 h0
    have h2 := H1.oN
    rw [show (fun x : Ev => decide (x.th < 2)) = lo from rfl, filter_all h0'] at h2
    rw [h2]
    exact H.oN
  · have h0 := H2.oN
    have h0' : ((plyG (mB by_ d) 0 (S.filter fun x => !decide (x < 2)) (g0 (mB by_ d))).out.filter lo) = [] := List.map_eq_nil_iff.1 h0
    have h2 := H2.oC
    have h3 : ((plyG (mB by_ d) 0 (S.filter fun x => !decide (x < 2)) (g0 (mB by_ d))).out.filter fun x => !lo x) = (plyG (mB by_ d) 0 (S.filter fun x => !decide (x < 2)) (g0 (mB by_ d))).out := by
      rw [List.filter_eq_self]
      intro x hx
      have := List.filter_eq_nil_iff.1 h0' x hx
      simpa using this
    rw [show (fun x : Ev => !decide (x.th < 2)) = (fun x => !lo x) from rfl, h3] at h2
    rw [h2]
    exact H.oC
end Go.Baro.Bsd

set_option linter.unusedSimpArgs false
set_option linter.unusedVariables false
namespace Go.Baro
/-- A valid operation of an object of kind k. -/
def okA (k : Int) (a : Ac) : Prop := (0 ≤ a.b ∧ a.b ≤ 1048576) ∧ a.e ≤ 1048576 ∧ (a.b ≤ a.e ∨ a.e = -1) ∧ (a.add = 0 ∨ (k = 2 ∧ a.put = true)) ∧ (k < 3 ∨ (-1 ≤ a.v ∧ (a.v = -1 → a.put = false)))
/-- A valid history. -/
def okL (k : Int) (l : List Ac) : Prop := (1 ≤ k ∧ k ≤ 4) ∧ l.length ≤ 9 ∧ ∀ a ∈ l, okA k a
/-- What an object has at first. -/
def has0 (k first : Int) : List Int := if k < 3 then [first] else []
/-- What lin.Check answers. -/
def LcR (k first : Int) (l : List Ac) (r : Bool) (E : Int) : Prop := (¬ okL k l ∧ r = false ∧ E = 4) ∨ (okL k l ∧ (r = true ↔ Lin k (has0 k first) l) ∧ E = 0)
theorem lcR_some (k first : Int) (l : List Ac) : ∃ r E, LcR k first l r E := by
  by_cases h : okL k l
  · exact ⟨@decide (Lin k (has0 k first) l) (Classical.propDecidable _), 0, .inr ⟨h, by simp, rfl⟩⟩
  · exact ⟨false, 4, .inl ⟨h, rfl, rfl⟩⟩
end Go.Baro
namespace Go.Proofs.YtnchgdjdfhfedaaGreatDoor
open Go.RowKit Go.Ord Go.Baro
/-- lin.May, of a history in memory. -/
def LinMaySpec : Prop := ∀ (w : World) (A : Option Addr) (n c : Nat) (l : List Ac) (k : Int) (r : Bool) (h : RA w w.heap.size A n l) (hn : n ≤ 9223372036854775807) (hlc : n ≤ c) (hi : ∀ a ∈ l, inA a) (hr : r = true ↔ okL k l),
    Calls Tryz.prog 52 #[.int .i64 k, .slice A n c] w fun e w' => e = .returned (.bool r) ∧ Below w.heap.size w w'
/-- lin.Check, of a history in memory. -/
def LinCheckSpec : Prop := ∀ (w : World) (A : Option Addr) (n c : Nat) (l : List Ac) (k first : Int) (r : Bool) (E : Int) (h : RA w w.heap.size A n l) (hn : n ≤ 9223372036854775807) (hlc : n ≤ c) (hi : ∀ a ∈ l, inA a) (hf : inW first) (hr : LcR k first l r E),
    Calls Tryz.prog 36 #[.int .i64 k, .int .i64 first, .slice A n c] w fun e w' => e = .returned (.tuple #[.bool r, .int .i64 E]) ∧ Below w.heap.size w w'
end Go.Proofs.YtnchgdjdfhfedaaGreatDoor

set_option linter.unusedSimpArgs false
set_option linter.unusedVariables false
namespace Go.Baro
open Go.RowKit (wrap64)
/-- What the object has behind these deals. -/
def sqH (k : Int) : List Int → List Dl → List Int
  | has, [] => has
  | has, d :: l => sqH k (tl k has d.put (d.v % 4)).2.2 l
theorem sqH_snoc (k : Int) : ∀ (l : List Dl) (has : List Int) (d : Dl), sqH k has (l ++ [d]) = (tl k (sqH k has l) d.put (d.v % 4)).2.2
  | [], has, d => rfl
  | c :: l, has, d => sqH_snoc k l _ d
theorem sqA_snoc (k : Int) (wide : Bool) : ∀ (l : List Dl) (i : Nat) (has : List Int) (d : Dl), sqA k wide i has (l ++ [d]) = sqA k wide i has l ++ [acT (i + l.length) d wide (tl k (sqH k has l) d.put (d.v % 4)).1 (tl k (sqH k has l) d.put (d.v % 4)).2.1]
  | [], i, has, d => rfl
  | c :: l, i, has, d => by
    show _ :: sqA k wide (i + 1) _ (l ++ [d]) = _
    rw [sqA_snoc k wide l (i + 1) _ d]
    show _ = _ :: (sqA k wide (i + 1) _ l ++ _)
    rw [show i + (c :: l).length = i + 1 + l.length by simp; omega]
    rfl
theorem sqA_len (k : Int) (wide : Bool) : ∀ (l : List Dl) (i : Nat) (has : List Int), (sqA k wide i has l).length = l.length
  | [], _, _ => rfl
  | d :: l, i, has => by show (sqA k wide (i + 1) _ l).length + 1 = _; rw [sqA_len k wide l]; rfl
/-- What the object tells is small. -/
theorem tl_small {k : Int} {has : List Int} {put : Bool} {v : Int} {m : Int} (hv : 0 ≤ v ∧ v ≤ 3) (hm : 4 ≤ m ∧ m ≤ 1000) (h : ∀ x ∈ has, 0 ≤ x ∧ x ≤ m) :
    (-1 ≤ (tl k has put v).1 ∧ (tl k has put v).1 ≤ m) ∧ (0 ≤ (tl k has put v).2.1 ∧ (tl k has put v).2.1 ≤ 3) ∧ (∀ x ∈ (tl k has put v).2.2, 0 ≤ x ∧ x ≤ m + 3) := by
  have hd : 0 ≤ has.headD 0 ∧ has.headD 0 ≤ m := by
    cases has with
    | nil => exact ⟨Int.le_refl _, by simp; omega⟩
    | cons y t => exact h y (by simp)
  have hg : 0 ≤ has.getLastD 0 ∧ has.getLastD 0 ≤ m := by
    cases has with
    | nil => exact ⟨Int.le_refl _, by simp; omega⟩
    | cons y t =>
      rw [List.getLastD_cons]
      rcases t.eq_nil_or_concat with rfl | ⟨s, z, rfl⟩
      · exact h y (by simp)
      · simp; exact h z (by simp)
  have hmore : ∀ x ∈ has, 0 ≤ x ∧ x ≤ m + 3 := fun x hx => by have := h x hx; omega
  have hw : wrap64 (has.headD 0 + v) = has.headD 0 + v := by unfold wrap64; omega
  unfold tl
  split
  · split
    · exact ⟨⟨by dsimp only; omega, by dsimp only; omega⟩, ⟨by dsimp only; omega, by dsimp only; omega⟩, fun x hx => by rw [List.mem_singleton.1 hx]; omega⟩
    · exact ⟨⟨by dsimp only; omega, by dsimp only; omega⟩, ⟨by dsimp only; omega, by dsimp only; omega⟩, hmore⟩
  · split
    · split
      · exact ⟨⟨by dsimp only; omega, by dsimp only; omega⟩, ⟨by dsimp only; omega, by dsimp only; omega⟩, fun x hx => by rw [List.mem_singleton.1 hx, hw]; omega⟩
      · exact ⟨⟨by dsimp only; omega, by dsimp only; omega⟩, ⟨by dsimp only; omega, by dsimp only; omega⟩, hmore⟩
    · split
      · refine ⟨⟨by dsimp only; omega, by dsimp only; omega⟩, ⟨by dsimp only; omega, by dsimp only; omega⟩, fun x hx => ?_⟩
        rcases List.mem_append.1 hx with hx | hx
        · exact hmore x hx
        · rw [List.mem_singleton.1 hx]; omega
      · split
        · exact ⟨⟨by dsimp only; omega, by dsimp only; omega⟩, ⟨by dsimp only; omega, by dsimp only; omega⟩, hmore⟩
        · split
          · exact ⟨⟨by dsimp only; omega, by dsimp only; omega⟩, ⟨by dsimp only; omega, by dsimp only; omega⟩, fun x hx => hmore x (List.mem_of_mem_tail hx)⟩
          · exact ⟨⟨by dsimp only; omega, by dsimp only; omega⟩, ⟨by dsimp only; omega, by dsimp only; omega⟩, fun x hx => hmore x (List.dropLast_subset _ hx)⟩
theorem tl_len (k : Int) (has : List Int) (put : Bool) (v : Int) : (tl k has put v).2.2.length ≤ has.length + 1 ∧ (k < 3 → 1 ≤ k → has.length = 1 → (tl k has put v).2.2.length = 1) := by
  unfold tl
  split
  · split
    · exact ⟨by simp, fun _ _ _ => rfl⟩
    · exact ⟨by simp, fun _ _ h => h⟩
  · split
    · split
      · exact ⟨by simp, fun _ _ _ => rfl⟩
      · exact ⟨by simp, fun _ _ h => h⟩
    · refine ⟨?_, fun h3 h4 => by omega⟩
      split
      · simp
      · split
        · simp
        · split
          · simp; omega
          · simp; omega
/-- All that is told is small. -/
theorem sqH_small {k : Int} : ∀ (l : List Dl) (has : List Int) (m : Int), 4 ≤ m → m + 3 * l.length ≤ 1000 → (∀ x ∈ has, 0 ≤ x ∧ x ≤ m) → ∀ x ∈ sqH k has l, 0 ≤ x ∧ x ≤ m + 3 * l.length
  | [], has, m, _, _, h => by simpa [sqH] using h
  | d :: l, has, m, h4, hb, h => by
    simp only [List.length_cons] at hb ⊢
    have := (tl_small (k := k) (has := has) (put := d.put) (v := d.v % 4) (m := m) (by omega) (by omega) h).2.2
    have h2 := sqH_small (k := k) l _ (m + 3) (by omega) (by omega) this
    intro x hx
    have := h2 x hx
    omega
end Go.Baro

set_option linter.unusedSimpArgs false
set_option linter.unusedVariables false
namespace Go.Baro
open Go.RowKit (wrap64)
theorem tl_valid {k : Int} {has : List Int} {put : Bool} {v : Int} (hv : 0 ≤ v) (h : ∀ x ∈ has, 0 ≤ x) : ((tl k has put v).2.1 = 0 ∨ (k = 2 ∧ put = true)) ∧ (put = true → k ≠ 2 → 0 ≤ (tl k has put v).1) := by
  unfold tl
  split
  · cases put <;> simp; omega
  · split
    · rename_i h2
      cases put <;> simp [h2]
    · cases put with
      | true => simp; omega
      | false =>
        simp only [Bool.false_eq_true, if_false]
        refine ⟨?_, fun h => by cases h⟩
        left
        split
        · rfl
        · split <;> rfl
/-- Each is valid, and its numbers are small. -/
theorem sq_each (k : Int) (wide : Bool) : ∀ (l : List Dl) (i : Nat) (has : List Int) (m : Int), i + l.length ≤ 9 → 4 ≤ m → m + 3 * l.length ≤ 200 → (∀ x ∈ has, 0 ≤ x ∧ x ≤ m) → ∀ a ∈ sqA k wide i has l, okA k a ∧ inA a ∧ -1 ≤ a.v ∧ a.v ≤ 200 ∧ a.b ≤ 300 ∧ a.e ≤ 300
  | [], _, _, _, _, _, _, _, a, ha => by simp [sqA] at ha
  | d :: l, i, has, m, hi, h4, hm, hh, a, ha => by
    simp only [List.length_cons] at hi hm
    obtain ⟨⟨s1, s2⟩, ⟨s3, s4⟩, s5⟩ := tl_small (k := k) (has := has) (put := d.put) (v := d.v % 4) (m := m) (by omega) (by omega) hh
    obtain ⟨v1, v2⟩ := tl_valid (k := k) (has := has) (put := d.put) (v := d.v % 4) (by omega) (fun x hx => (hh x hx).1)
    rcases List.mem_cons.1 ha with rfl | ha
    · have hb : 0 ≤ (if wide = true then d.early % 40 else 0) ∧ (if wide = true then d.early % 40 else 0) < 40 := by split <;> omega
      have he : (acT i d wide (tl k has d.put (d.v % 4)).1 (tl k has d.put (d.v % 4)).2.1).e = -1 ∨ (105 + 10 * (i : Int) ≤ (acT i d wide (tl k has d.put (d.v % 4)).1 (tl k has d.put (d.v % 4)).2.1).e ∧ (acT i d wide (tl k has d.put (d.v % 4)).1 (tl k has d.put (d.v % 4)).2.1).e ≤ 300) := by
        unfold acT
        dsimp only
        cases wide with
        | false => right; simp; omega
        | true =>
          simp only [if_true]
          cases d.opn with
          | true => left; simp
          | false => right; simp; omega
      have hbb : (acT i d wide (tl k has d.put (d.v % 4)).1 (tl k has d.put (d.v % 4)).2.1).b = 100 + 10 * (i : Int) - (if wide = true then d.early % 40 else 0) := rfl
      have hp : (acT i d wide (tl k has d.put (d.v % 4)).1 (tl k has d.put (d.v % 4)).2.1).put = d.put := rfl
      have hvv : (acT i d wide (tl k has d.put (d.v % 4)).1 (tl k has d.put (d.v % 4)).2.1).v = (tl k has d.put (d.v % 4)).1 := rfl
      have haa : (acT i d wide (tl k has d.put (d.v % 4)).1 (tl k has d.put (d.v % 4)).2.1).add = (tl k has d.put (d.v % 4)).2.1 := rfl
      generalize acT i d wide (tl k has d.put (d.v % 4)).1 (tl k has d.put (d.v % 4)).2.1 = a at *
      refine ⟨⟨by omega, by omega, by omega, by rw [haa, hp]; exact v1, ?_⟩, ⟨⟨by omega, by omega⟩, ⟨by omega, by omega⟩, ⟨by omega, by omega⟩, ⟨by omega, by omega⟩⟩, by omega, by omega, by omega, by omega⟩
      by_cases hk : k < 3
      · exact .inl hk
      · refine .inr ⟨by omega, fun h => ?_⟩
        rw [hp]
        cases hput : d.put with
        | false => rfl
        | true => have := v2 hput (by omega); omega
    · exact sq_each k wide l (i + 1) _ (m + 3) (by omega) (by omega) (by omega) s5 a ha
theorem sq_okL {k first : Int} {wide : Bool} {l : List Dl} (hk : 1 ≤ k ∧ k ≤ 4) (hf : 0 ≤ first ∧ first ≤ 4) : okL k (sqA k wide 0 (has0 k first) (l.take 9)) ∧ ∀ a ∈ sqA k wide 0 (has0 k first) (l.take 9), okA k a ∧ inA a ∧ -1 ≤ a.v ∧ a.v ≤ 200 ∧ a.b ≤ 300 ∧ a.e ≤ 300 := by
  have h9 : (l.take 9).length ≤ 9 := by simp; omega
  have hs : ∀ x ∈ has0 k first, 0 ≤ x ∧ x ≤ 4 := by
    intro x hx
    unfold has0 at hx
    split at hx
    · rw [List.mem_singleton.1 hx]; omega
    · simp at hx
  have := sq_each k wide (l.take 9) 0 (has0 k first) 4 (by omega) (by omega) (by omega) hs
  exact ⟨⟨hk, by rw [sqA_len]; exact h9, fun a ha => (this a ha).1⟩, this⟩
theorem has0_ok {k first : Int} (hf : 0 ≤ first ∧ first ≤ 4) : okH k (has0 k first) := by
  intro hk
  unfold has0
  rw [if_pos (by omega)]
  exact ⟨first, rfl, by unfold wrap64; omega⟩
/-- A drawn history is right. -/
theorem sq_right {k first : Int} {wide : Bool} {l : List Dl} (hk : 1 ≤ k ∧ k ≤ 4) (hf : 0 ≤ first ∧ first ≤ 4) : LcR k first (sqA k wide 0 (has0 k first) (l.take 9)) true 0 :=
  .inr ⟨(sq_okL hk hf).1, by simp only [true_iff]; exact sq_lin (has0_ok hf) wide _ 0, rfl⟩
/-- The two small histories. -/
theorem sure1 : LcR 1 0 [⟨1, 2, false, 0, 0⟩] true 0 := by
  refine .inr ⟨⟨by omega, by simp, fun a ha => ?_⟩, ?_, rfl⟩
  · rw [List.mem_singleton.1 ha]; unfold okA; simp
  · simp only [true_iff]
    refine lin_seq ⟨?_, trivial⟩ (List.pairwise_singleton _ _) (fun a ha _ => ?_)
    · simp [tel, has0]
    · rw [List.mem_singleton.1 ha]; simp
theorem sure2 : LcR 1 0 [⟨1, 2, false, 1, 0⟩] false 0 := by
  refine .inr ⟨⟨by omega, by simp, fun a ha => ?_⟩, ?_, rfl⟩
  · rw [List.mem_singleton.1 ha]; unfold okA; simp
  · simp only [Bool.false_eq_true, false_iff]
    intro h
    have := lin_only _ _ h (List.pairwise_singleton _ _) (fun a ha => by rw [List.mem_singleton.1 ha]; simp)
    have := this.1
    simp [tel, has0] at this
end Go.Baro

set_option linter.unusedSimpArgs false
set_option linter.unusedVariables false
namespace Go.Proofs.YtnchgdjdfhfedaaGreatDoor
open Go.RowKit Go.Ord Go.Baro

theorem RA_litT (w : World) (e : TypeId) (a : Ac) : RA (w.alloc (.cells #[.int .i64 a.b, .int .i64 a.e, .bool a.put, .int .i64 a.v, .int .i64 a.add] e)) (w.alloc (.cells #[.int .i64 a.b, .int .i64 a.e, .bool a.put, .int .i64 a.v, .int .i64 a.add] e)).heap.size (some ⟨w.heap.size, 0, none⟩) 1 [a] := by
  have h := Rd.lit w e (cs := acV a) (s := 5) (n := 1) rfl
  unfold RA
  simp only [List.flatMap_cons, List.flatMap_nil, List.append_nil]
  exact h
set_option maxRecDepth 100000 in
set_option maxHeartbeats 1000000 in
theorem top_sure (hP : LinCheckSpec) (w : World) : Calls Tryz.prog 13 #[] w fun e w' => e = .returned (.bool true) ∧ Below w.heap.size w w' := by
  have HP := Lib.hid hP
  have h0 := Below.refl w.heap.size w
  have r1 := Lib.hid (RA_litT w 80 ⟨1, 2, false, 0, 0⟩)
  have hb1 := h0.alloc (Nat.le_refl _) (Obj.cells #[.int .i64 1, .int .i64 2, .bool false, .int .i64 0, .int .i64 0] 80)
  clear hP
  go_enter Tryz.func13, Tryz.ntmps13
  go_wp2_with fail
  refine (HP.out _ _ 1 1 [⟨1, 2, false, 0, 0⟩] 1 0 true 0 r1.out (by omega) (Nat.le_refl _) (fun a ha => by rw [List.mem_singleton.1 ha]; unfold inA inW; simp) (by unfold inW; simp) sure1).mono ?_
  rintro e w1 ⟨rfl, hb2⟩
  have hb3 := hb1.trans (hb2.mono hb1.size)
  have hs3 := hb3.size
  have r2 := Lib.hid (RA_litT w1 80 ⟨1, 2, false, 1, 0⟩)
  have hb4 := hb3.alloc hs3 (Obj.cells #[.int .i64 1, .int .i64 2, .bool false, .int .i64 1, .int .i64 0] 80)
  go_wp2_with fail
  refine (HP.out _ _ 1 1 [⟨1, 2, false, 1, 0⟩] 1 0 false 0 r2.out (by omega) (Nat.le_refl _) (fun a ha => by rw [List.mem_singleton.1 ha]; unfold inA inW; simp) (by unfold inW; simp) sure2).mono ?_
  rintro e w2 ⟨rfl, hb5⟩
  have hb6 := hb4.trans (hb5.mono hb4.size)
  go_wp2
  go_ret
  exact ⟨rfl, hb6⟩
end Go.Proofs.YtnchgdjdfhfedaaGreatDoor
