/- Of this claim's own texts these, one behind the other: KeepSched, CountSpec, CuSpec, HistPure, TopHist. No statement of the seat is proved here; no condition but those that stand at the theorems. -/
import Derived.Test.YtnchgdjdfhfedaaDoorPartAH
import Derived.Test.YtnchgdjdfhfedaaDoorPartAI
import Derived.Test.YtnchgdjdfhfedaaDoorPartAF
import Derived.Test.YtnchgdjdfhfedaaDoorPartAE
import Derived.Test.YtnchgdjdfhfedaaDoorPartAJ
set_option linter.unusedSimpArgs false
set_option linter.unusedVariables false
namespace Go.Proofs.YtnchgdjdfhfedaaDoor
open Go.RowKit Go.Ord Go.Baro

/-- The schedule that is drawn. -/
def schG (k most : Nat) (l : List Int) : List Int := (l.take most).map (· % (k : Int))
theorem schG_len (k most : Nat) (l : List Int) : (schG k most l).length = min most l.length := by simp [schG]
theorem schG_in {k most : Nat} (hk : 0 < k) {l : List Int} {x : Int} (h : x ∈ schG k most l) : 0 ≤ x ∧ x < k := by
  obtain ⟨y, _, rfl⟩ := List.mem_map.1 h
  exact ⟨Int.emod_nonneg _ (by omega), Int.emod_lt_of_pos _ (by omega)⟩

set_option maxRecDepth 100000 in
set_option maxHeartbeats 2000000 in
theorem keep_ScheduleG (l : List Int) (A : Option Addr) (n c : Nat) (w : World) (k most : Nat) (hk : 0 < k) (hk2 : k ≤ 100) (hmost : most ≤ 6000) (hb : RI w w.heap.size .u8 A n l) (hn : n ≤ 140737488355328) (hr : ∀ x ∈ l, 0 ≤ x ∧ x < 256) :
    Calls Tryd.prog 14 #[.slice A n c, .int .i64 k, .int .i64 most] w fun e w' => ∃ v n', e = .returned v ∧ w'.ownsRow w.heap.size 3 1 v n' ((schG k most l).map (Value.int .i64)) ∧ n' ≤ most ∧ Below w.heap.size w w' := by
  have HL := Lib.hid hb.len
  have HR := Lib.hid hr
  have hk0 : ((k : Int) == 0) = false := by simp; omega
  have hkn : (k : Int) ≠ 0 := by omega
  clear hr
  go_enter Tryd.func14, Tryd.ntmps14
  go_wp2
  go_loopw [7, 8] (fun v i wr => ∃ j : Nat, j ≤ n ∧ j ≤ most ∧ i = .int .i64 j ∧ wr.ownsRow w.heap.size 3 1 v j (((l.take j).map (· % (k : Int))).map (Value.int .i64)) ∧ Below w.heap.size w wr) (fun _ i _ => most - (intOf i).toNat)
  case atStart => exact ⟨0, Nat.zero_le _, by omega, rfl, World.ownsRow_nil _ _ _ _, Below.refl _ _⟩
  case round =>
    obtain ⟨j, hj, hj4, rfl, hown, hbel⟩ := hrel
    have hsz := hbel.size
    have fin : j = n ∨ j = most → wr.ownsRow w.heap.size 3 1 u7 j ((schG k most l).map (Value.int .i64)) := by
      intro h
      have e : schG k most l = (l.take j).map (· % (k : Int)) := by
        unfold schG
        rcases h with h | h
        · rw [List.take_of_length_le (l := l) (i := j) (by rw [HL.out]; omega), List.take_of_length_le (l := l) (i := most) (by rw [HL.out]; omega)]
        · rw [h]
      rw [e]
      exact hown
    by_cases h1 : j < n
    · by_cases h2 : j < most
      · clear fin
        obtain ⟨b, o, x, rfl, hbB, hcell, HX, hmem⟩ := (hb.below hbel).val h1
        obtain ⟨hx0, hx1⟩ := HR.out x hmem
        have ht : x.tmod k = x % k := Int.tmod_eq_emod_of_nonneg hx0
        obtain ⟨y, hy⟩ : ∃ y, y = x % (k : Int) := ⟨_, rfl⟩
        have hy0 : 0 ≤ y := by rw [hy]; exact Int.emod_nonneg _ hkn
        have hy1 : y < k := by rw [hy]; exact Int.emod_lt_of_pos _ (by omega)
        rw [← hy] at ht
        have HY := Lib.hid hy
        clear hmem hy
        go_wp2_with (at_builtin; go_must (refine app_lit eltIntS wr rfl _ _ rfl w.heap.size _ j _ rfl (by exact hown) 1 [.int .i64 y] wr.heap.size rfl rfl rfl (one_ints _ [y]) (by omega) (by omega) hsz ?_); intro v3 w3 hown3 hgr3 hbel3 _)
        go_roundw
        case rel =>
          refine ⟨j + 1, by omega, by omega, by go_num, ?_, hbel3 _ hbel⟩
          rw [at_take HX.out, List.map_append, List.map_append, List.map_singleton, List.map_singleton, ← HY.out]
          exact hown3
        case measure => simp [intOf]; omega
      · have HF := Lib.hid (fin (.inr (by omega)))
        clear fin hown
        go_wp2
        go_ret
        exact ⟨_, j, rfl, HF.out, by omega, hbel⟩
    · obtain rfl : n = j := by omega
      have HF := Lib.hid (fin (.inl rfl))
      clear fin hown
      go_wp2
      go_ret
      exact ⟨_, n, rfl, HF.out, by omega, hbel⟩
end Go.Proofs.YtnchgdjdfhfedaaDoor

set_option linter.unusedSimpArgs false
set_option linter.unusedVariables false
namespace Go.Baro
open Go.RowKit (wrap64)
/-- The i-th call of count's machine. -/
def cntN (by_ : List Int) (i : Nat) : Int := (by_[i]?.getD 0) % 6
def cntC (by_ : List Int) (i : Nat) : Cl := if 0 < cntN by_ i then ⟨0, [cntN by_ i]⟩ else ⟨1, []⟩
def cntT (by_ : List Int) (t : Nat) : List Cl := [cntC by_ t, cntC by_ (t + 3), cntC by_ (t + 6)]
/-- Count: the words and the two codes. -/
structure Cu where
  ws : List Int
  ca : List Ins
  cg : List Ins
def mCount (c : Cu) (by_ : List Int) : Mc := ⟨c.ws, [c.ca, c.cg], [cntT by_ 0, cntT by_ 1, cntT by_ 2]⟩
def mCount4 (c : Cu) (by_ : List Int) : Mc := ⟨c.ws, [c.ca, c.cg], [cntT by_ 0, cntT by_ 1, cntT by_ 2, [⟨1, []⟩]]⟩
/-- The calls of a thread that adds and gets in turn. -/
def tlsN (by_ : List Int) (i : Nat) : Int := if i < by_.length then by_[i]?.getD 0 else 1
def tlsT (by_ : List Int) (j : Nat) : List Cl := (List.range j).flatMap fun i => [⟨0, [tlsN by_ i]⟩, ⟨1, []⟩]
def mTells (c : Cu) (by_ : List Int) : Mc := ⟨c.ws, [c.ca, c.cg], [tlsT by_ 9]⟩
/-- A call of a run as an operation on a number. -/
def cntA (m : Mc) (d : Dg) : Ac :=
  match (m.ts[d.th]?.getD [])[d.cl]? with
  | some c => ⟨d.b, d.e, decide (c.k = 0), if d.e = -1 then 0 else d.to.headD 0, if c.k = 0 then c.ar.headD 0 else 0⟩
  | none => ⟨d.b, d.e, false, 0, 0⟩
def CountLinD (c : Cu) : Prop := ∀ (by_ : List Int) (S : List Nat), S.length ≤ 400 → (∀ x ∈ S, x < 3) →
  noErr (plyG (mCount c by_) 0 S (g0 (mCount c by_))) ∧ (∀ d ∈ dgs (plyG (mCount c by_) 0 S (g0 (mCount c by_))).out, (d.e ≠ -1 → d.to.length = 1) ∧ d.th < 3 ∧ d.cl < 3) ∧ (dgs (plyG (mCount c by_) 0 S (g0 (mCount c by_))).out).length ≤ 9 ∧
  Lin 2 [0] ((dgs (plyG (mCount c by_) 0 S (g0 (mCount c by_))).out).map (cntA (mCount c by_)))
/-- The schedule of CountAll. -/
def allS (S : List Nat) : List Nat := S ++ List.replicate 200 0 ++ List.replicate 200 1 ++ List.replicate 200 2 ++ List.replicate 60 3
def CountAllD (c : Cu) : Prop := ∀ (by_ : List Int) (S : List Nat), S.length ≤ 300 → (∀ x ∈ S, x < 3) →
  noErr (plyG (mCount4 c by_) 0 (allS S) (g0 (mCount4 c by_))) ∧ (dgs (plyG (mCount4 c by_) 0 (allS S) (g0 (mCount4 c by_))).out).length = 10 ∧
  (∀ d ∈ dgs (plyG (mCount4 c by_) 0 (allS S) (g0 (mCount4 c by_))).out, d.e ≠ -1 ∧ d.to.length = 1) ∧
  (dgs (plyG (mCount4 c by_) 0 (allS S) (g0 (mCount4 c by_))).out).Pairwise (fun a b => (cntA (mCount4 c by_) a).put = true → (cntA (mCount4 c by_) b).put = true → a.to.headD 0 ≠ b.to.headD 0) ∧
  (∃ d ∈ dgs (plyG (mCount4 c by_) 0 (allS S) (g0 (mCount4 c by_))).out, d.th = 3) ∧
  ∀ d ∈ dgs (plyG (mCount4 c by_) 0 (allS S) (g0 (mCount4 c by_))).out, d.th = 3 → d.to.headD 0 = ((dgs (plyG (mCount4 c by_) 0 (allS S) (g0 (mCount4 c by_))).out).map fun d => (cntA (mCount4 c by_) d).add).sum
/-- The sums that a thread is told. -/
def wantN (by_ : List Int) (i : Nat) : Int := (List.range i).foldl (fun s j => wrap64 (s + tlsN by_ j)) 0
def CountTellsD (c : Cu) : Prop := ∀ (by_ : List Int), (∀ x ∈ by_, wrap64 x = x) →
  noErr (plyG (mTells c by_) 0 (List.replicate 1080 0) (g0 (mTells c by_))) ∧ (dgs (plyG (mTells c by_) 0 (List.replicate 1080 0) (g0 (mTells c by_))).out).length = 18 ∧
  ∀ (i : Nat) d, (dgs (plyG (mTells c by_) 0 (List.replicate 1080 0) (g0 (mTells c by_))).out)[i]? = some d → d.e ≠ -1 ∧ d.to = [wantN by_ ((i + 1) / 2)]
end Go.Baro

set_option linter.unusedSimpArgs false
set_option linter.unusedVariables false
namespace Go.Proofs.YtnchgdjdfhfedaaDoor
open Go.RowKit Go.Ord Go.Baro

/-- A function without an argument that gives words, or a code. -/
def W0Spec (F : FuncId) (ws : List Int) : Prop := ∀ (w : World) (hT : Tab w), Calls Tryd.prog F #[] w fun e w' => (∃ A n k, e = .returned (.slice A n k) ∧ n ≤ k ∧ k ≤ 9223372036854775807 ∧ QT w' 3 1 A n (ws.map (Value.int .i64))) ∧ Below w.heap.size w w'
def C0Spec (F : FuncId) (c : List Ins) : Prop := ∀ (w : World) (hT : Tab w), Calls Tryd.prog F #[] w fun e w' => (∃ A n k, e = .returned (.slice A n k) ∧ n ≤ k ∧ k ≤ 9223372036854775807 ∧ QT w' 73 5 A n (cellsO c)) ∧ Below w.heap.size w w'
structure CuOk (c : Cu) : Prop where
  w0 : 0 < c.ws.length
  w1 : c.ws.length ≤ 64
  wi : ∀ x ∈ c.ws, inW x
  a0 : 0 < c.ca.length
  ac : okC c.ca
  ai : ∀ o ∈ c.ca, inI o
  g0 : 0 < c.cg.length
  gc : okC c.cg
  gi : ∀ o ∈ c.cg, inI o
end Go.Proofs.YtnchgdjdfhfedaaDoor

set_option linter.unusedSimpArgs false
set_option linter.unusedVariables false
namespace Go.Baro
open Go.RowKit

/-- The call of a thread. -/
def clOf (m : Mc) (th cl : Nat) : Cl := ((m.ts[th]?.getD [])[cl]?).getD ⟨0, []⟩
/-- The key of a call. -/
def hK (d : Dg) : Int := 100 * d.th + d.cl
/-- A call as an operation: pf tells whether it puts, what, and whether it is told as it must be. -/
def hA1 (m : Mc) (pf : Cl → List Int → Bool → Bool × Int × Bool) (d : Dg) : Ac := if d.e = -1 then ⟨d.b, -1, false, 0, 0⟩ else ⟨d.b, d.e, (pf (clOf m d.th d.cl) d.to true).1, (pf (clOf m d.th d.cl) d.to true).2.1, 0⟩
def hA (m : Mc) (pf : Cl → List Int → Bool → Bool × Int × Bool) (d : Dg) : Ac := if d.e = -1 then ⟨d.b, -1, (pf (clOf m d.th d.cl) [] false).1, (pf (clOf m d.th d.cl) [] false).2.1, 0⟩ else hA1 m pf d
/-- What is asked of the events. -/
structure HistOk (m : Mc) (pf : Cl → List Int → Bool → Bool × Int × Bool) (G : Cl → Prop) (T : List Ev) : Prop where
  rng : ∀ x ∈ T, x.th < m.ts.length ∧ x.cl < (m.ts[x.th]?.getD []).length
  drng : ∀ j, ∀ d ∈ dgs (T.take j), d.th < m.ts.length ∧ d.cl < (m.ts[d.th]?.getD []).length
  uq : ∀ (j : Nat) (x : Ev), T[j]? = some x → x.en = true → ∀ d ∈ dgs (T.take j), d.th = x.th → d.cl = x.cl → d.e = -1
  okE : ∀ x ∈ T, x.en = true → (pf (clOf m x.th x.cl) x.to true).2.2 = true
  okO : ∀ d ∈ dgs T, d.e = -1 → (pf (clOf m d.th d.cl) [] false).2.2 = true
  good : ∀ t ∈ m.ts, ∀ c ∈ t, G c
theorem clOf_at {m : Mc} {t c : Nat} {l : List Cl} {x : Cl} (h1 : m.ts[t]? = some l) (h2 : l[c]? = some x) : clOf m t c = x := by simp [clOf, h1, h2]
/-- The calls of which the first k are ended by an event. -/
def finD (x : Ev) (k : Nat) (D : List Dg) : List Dg := (D.take k).map (fun d => d.fin x) ++ D.drop k
theorem finD_zero (x : Ev) (D : List Dg) : finD x 0 D = D := by simp [finD]
theorem finD_len (x : Ev) (k : Nat) (D : List Dg) : (finD x k D).length = D.length := by simp [finD]; omega
theorem finD_all {x : Ev} {k : Nat} {D : List Dg} (h : D.length ≤ k) : finD x k D = D.map (fun d => d.fin x) := by
  unfold finD
  rw [List.take_of_length_le h, List.drop_eq_nil_of_le h, List.append_nil]
theorem finD_at {x : Ev} {k : Nat} {D : List Dg} : (finD x k D)[k]? = D[k]? := by
  unfold finD
  by_cases h : k ≤ D.length
  · rw [List.getElem?_append_right (by simp; omega)]
    simp
    rw [show k - min k D.length = 0 by omega, Nat.add_zero]
  · rw [List.getElem?_eq_none (by simp; omega), List.getElem?_eq_none (by omega)]
theorem finD_succ {x : Ev} {k : Nat} {D : List Dg} {d : Dg} (hp : D[k]? = some d) : finD x (k + 1) D = (finD x k D).set k (d.fin x) := by
  have hk := (List.getElem?_eq_some_iff.1 hp).1
  unfold finD
  rw [List.take_add_one, hp, Option.toList_some, List.map_append, List.map_singleton, List.append_assoc, List.drop_eq_getElem_cons hk, List.set_append_right _ _ (by simp; omega), show k - ((D.take k).map (fun d => d.fin x)).length = 0 by simp; omega]
  rfl
theorem finD_skip {x : Ev} {k : Nat} {D : List Dg} {d : Dg} (hp : D[k]? = some d) (h : ¬ d.is x) : finD x (k + 1) D = finD x k D := by
  rw [finD_succ hp]
  unfold Dg.fin
  rw [if_neg h]
  have hk := (List.getElem?_eq_some_iff.1 hp).1
  apply List.ext_getElem?
  intro j
  by_cases hj : k = j
  · subst hj
    rw [List.getElem?_set_self (by rw [finD_len]; exact hk), finD_at, hp]
  · rw [List.getElem?_set_ne hj]
theorem flat_ac : ∀ (L : List Ac) (k : Nat) (a : Ac) (e v : Int) (p : Bool), L[k]? = some a → (((L.flatMap acV).set (k * 5 + 1) (.int .i64 e)).set (k * 5 + 2) (.bool p)).set (k * 5 + 3) (.int .i64 v) = (L.set k ⟨a.b, e, p, v, a.add⟩).flatMap acV
  | [], k, a, e, v, p, h => by simp at h
  | b :: L, 0, a, e, v, p, h => by
    simp only [List.getElem?_cons_zero, Option.some.injEq] at h
    subst h
    simp [acV]
  | b :: L, k + 1, a, e, v, p, h => by
    have ih := flat_ac L k a e v p (by simpa using h)
    rw [List.flatMap_cons, List.set_cons_succ, List.flatMap_cons, ← ih, show (k + 1) * 5 + 1 = k * 5 + 1 + 5 by omega, show (k + 1) * 5 + 2 = k * 5 + 2 + 5 by omega, show (k + 1) * 5 + 3 = k * 5 + 3 + 5 by omega]
    simp [acV]
/-- Operations of the call's own. -/
def OwnA (w : World) (B : Nat) (e : TypeId) (v : Value) (n : Nat) (L : List Ac) : Prop := w.ownsRow B e 5 v n (L.flatMap acV)
section
variable {w : World} {B n : Nat} {e : TypeId} {L : List Ac}
theorem OwnA.len {v : Value} (h : OwnA w B e v n L) : L.length = n := by have := h.1; rw [flatMap_len acV_len] at this; omega
theorem OwnA.val {g c : Nat} (h : OwnA w B e (.slice (some ⟨g, 0, none⟩) n c) n L) {i : Nat} (hi : i < n) {a : Ac} (ha : L[i]? = some a) : w.cell? ⟨g, i * 5, none⟩ = some (.int .i64 a.b) ∧ w.cell? ⟨g, i * 5 + 1, none⟩ = some (.int .i64 a.e) ∧ w.cell? ⟨g, i * 5 + 2, none⟩ = some (.bool a.put) ∧ w.cell? ⟨g, i * 5 + 3, none⟩ = some (.int .i64 a.v) ∧
    ∀ j, w.frozen? ⟨g, j, none⟩ = false := by
  have key : ∀ j, j < 5 → w.cell? ⟨g, i * 5 + j, none⟩ = (acV a)[j]? := fun j hj => by
    rw [World.ownsRow.cellAt h _ (by omega), flatMap_at acV_len L i j _ ha hj]
  exact ⟨key 0 (by omega), key 1 (by omega), key 2 (by omega), key 3 (by omega), fun j => World.ownsRow.frozenAt h j⟩
theorem OwnA.put {g c : Nat} (h : OwnA w B e (.slice (some ⟨g, 0, none⟩) n c) n L) (i : Nat) (u : Value) : (w.setCell ⟨g, i, none⟩ u).ownsRow B e 5 (.slice (some ⟨g, 0, none⟩) n c) n ((L.flatMap acV).set i u) := (World.ownsRow.stored h i u).1
end
end Go.Baro

set_option linter.unusedSimpArgs false
set_option linter.unusedVariables false
namespace Go.Proofs.YtnchgdjdfhfedaaDoor
open Go.RowKit Go.Ord Go.Baro

theorem eltActT : Elt Tryd.prog 39 46 (.agg #[.int .i64 0, .int .i64 0, .bool false, .int .i64 0, .int .i64 0]) 5 40 := Elt.mk' Tryd.underlying39 (by kernel_rfl) rfl (by decide)
theorem acV_oneT (a : Ac) : ∀ u ∈ acV a, u.oneCell' = true := by
  intro u hu
  simp only [acV, List.mem_cons, List.not_mem_nil, or_false] at hu
  rcases hu with rfl | rfl | rfl | rfl | rfl <;> rfl
/-- A closure that tells of a call what it is: function F, which catches nothing. -/
def PfSpec (F : FuncId) (pf : Cl → List Int → Bool → Bool × Int × Bool) (G : Cl → Prop) : Prop := ∀ (w : World) (x : Cl) (A A' : Option Addr) (n c n' c' : Nat) (to : List Int) (b : Bool) (h : RI w w.heap.size .i64 A n x.ar) (h' : RI w w.heap.size .i64 A' n' to) (hG : G x) (hn : n ≤ 1000) (hn' : n' ≤ 200),
    Calls Tryd.prog F #[.agg #[.int .i64 x.k, .slice A n c], .slice A' n' c', .bool b] w fun e w' => e = .returned (.tuple #[.bool (pf x to b).1, .int .i64 (pf x to b).2.1, .bool (pf x to b).2.2]) ∧ Below w.heap.size w w'
/-- What history leaves. -/
def HistPost (m : Mc) (pf : Cl → List Int → Bool → Bool × Int × Bool) (T : List Ev) (w : World) (e : Ending) (w' : World) : Prop := ∃ A n c, e = .returned (.tuple #[.slice A n c, .bool true]) ∧ n ≤ c ∧ n ≤ 12000 ∧ RA w' w'.heap.size A n ((dgs T).map (hA m pf)) ∧ Below w.heap.size w w'

theorem own_lowW {w : World} {B B' : Nat} {e : TypeId} {s n : Nat} {v : Value} {xs : List Value} (h : w.ownsRow B e s v n xs) (hB : B' ≤ B) : w.ownsRow B' e s v n xs := by
  refine ⟨h.1, ?_⟩
  rcases h.2 with h2 | ⟨g, cap, cur, h1, h2, h3⟩
  · exact .inl h2
  · exact .inr ⟨g, cap, cur, h1, Nat.le_trans hB h2, h3⟩
/-- What history leaves, the row being its own. -/
def HistPostW (m : Mc) (pf : Cl → List Int → Bool → Bool × Int × Bool) (T : List Ev) (w : World) (e : Ending) (w' : World) : Prop := ∃ A n c, e = .returned (.tuple #[.slice A n c, .bool true]) ∧ n ≤ c ∧ n ≤ 12000 ∧ OwnA w' w.heap.size 46 (.slice A n c) n ((dgs T).map (hA m pf)) ∧ Below w.heap.size w w'

set_option maxRecDepth 100000 in
set_option maxHeartbeats 2000000 in
theorem top_historyW (hP : PlaySpec) {F : FuncId} {pf : Cl → List Int → Bool → Bool × Int × Bool} {G : Cl → Prop} (hF : PfSpec F pf G) (hF2 : ∀ (args : Array Value) (w : World), (callFunc F args).run Tryd.prog w = .ok (.enter F args) w) (w : World) (hT : Tab w) (Aw : Option Addr) (nw cw : Nat) (Ac : Option Addr) (nc cc : Nat) (At : Option Addr) (nt ct : Nat) (m : Mc) (As : Option Addr) (ns cs : Nat) (s : List Int) (T : List Ev) (W : List Int) (hm : InM w Aw nw cw Ac nc cc At nt ct m)
    (hmc : okMc m) (hs : RI w w.heap.size .i64 As ns s) (hn : ns ≤ 6000) (hR : PlR m s T W 0) (hok : HistOk m pf G T) : Calls Tryd.prog 19 #[.agg #[.slice Aw nw cw, .slice Ac nc cc, .slice At nt ct], .slice As ns cs, .func (.func F) #[] #[]] w (HistPostW m pf T w) := by
  have HP := Lib.hid hP
  have HT := Lib.hid hT
  have HR := Lib.hid hR
  have HOK := Lib.hid hok
  have HF := Lib.hid hF
  have HF2 := Lib.hid hF2
  have HMC := Lib.hid hmc
  have hA := (Below.refl w.heap.size w).alloc (Nat.le_refl _) (Obj.cells #[.slice Aw nw cw, .slice Ac nc cc, .slice At nt ct] 32)
  have HM := Lib.hid (hm.below hA)
  have hs2 := (hs.below hA).more hA.size
  have bX := Box.newAt w 32 [.slice Aw nw cw, .slice Ac nc cc, .slice At nt ct] w.heap.size rfl
  have BX0 := Lib.hid bX
  clear hP hT hR hok hm hs hF hF2 hmc
  go_enter Tryd.func19, Tryd.ntmps19
  have x0 := bX.cell 0
  have x1 := bX.cell 1
  have x2 := bX.cell 2
  simp only [List.getElem?_cons_zero, List.getElem?_cons_succ] at x0 x1 x2
  obtain ⟨wA, hwA⟩ : ∃ wA, wA = w.alloc (Obj.cells #[.slice Aw nw cw, .slice Ac nc cc, .slice At nt ct] 32) := ⟨_, rfl⟩
  rw [← hwA] at hA hs2 x0 x1 x2
  have HWA := Lib.hid hwA
  go_wp2
  rw [← HWA.out]
  clear bX hwA
  refine region_first [0, 1] (.cons 2 (seq [3, 4, 5, 6, 7, 8, 9, 10] .nil)) (by kernel_rfl) (by kernel_rfl) ?_
  simp only [pick, List.map_cons, List.map_nil, List.getD_cons_zero, List.getD_cons_succ]
  go_wp2
  refine ord_call (by kernel_rfl) ?_
  simp only [pick, List.map_cons, List.map_nil, List.getD_cons_zero, List.getD_cons_succ]
  go_wp2_with (at_builtin; go_must (refine app_src eltIntS wA.drew rfl _ _ rfl wA.heap.size _ 0 [] rfl (World.ownsRow_nil _ _ _ _) As ns _ (s.map (Value.int .i64)) rfl wA.heap.size (by exact Rd.heap hs2 rfl) (one_ints _ _) (by omega) (by omega) (Nat.le_refl _) ?_); intro v3 w3 hv3 hg3 hbel3 hsz3)
  have hb3 : Below wA.heap.size wA w3 := hbel3 wA (Below.refl _ _).drew
  rw [List.nil_append, Nat.zero_add] at hv3
  obtain ⟨A4, c4, rfl, hlc4⟩ := own_form hv3
  refine ⟨fun k hk => hb3.block k hk, ?_⟩
  have hr4 : RI w3 w3.heap.size .i64 A4 ns s := Rd.of_own hv3
  have hbC := hA.trans (hb3.mono hA.size)
  have HM3 : Hid (InM w3 Aw nw cw Ac nc cc At nt ct m) := by
    have := HM.out
    rw [← HWA.out] at this
    exact this.below hb3
  clear hv3 hg3 hbel3 x0 x1 x2 hs2
  refine ord_last [3, 4, 5, 6, 7, 8, 9, 10] (by kernel_rfl) ?_
  simp only [pick, List.map_cons, List.map_nil, List.getD_cons_zero, List.getD_cons_succ]
  go_wp2_with fail
  refine (HP.out w3 (HT.out.below hbC HT.out.lt) Aw nw cw Ac nc cc At nt ct m A4 ns c4 s T W 0 HM3.out hr4 (by omega) HR.out).mono ?_
  rintro e w4 ⟨B1, m1, d1, B2, m2, d2, rfl, hr1, hr2, hl1, hl2, hm1, hm2, hb4⟩
  have hbD := hbC.trans (hb4.mono hbC.size)
  have hT4 := Lib.hid (HT.out.below hbD HT.out.lt)
  have LT := Lib.hid hr1.len
  have HM4 := Lib.hid (HM3.out.below hb4)
  have lX0 := BX0.out.lt
  have BX4 : Hid (Box w4 w.heap.size 32 [.slice Aw nw cw, .slice Ac nc cc, .slice At nt ct]) := by
    have h1 := BX0.out
    rw [← HWA.out] at h1
    exact h1.below (hb3.trans (hb4.mono hb3.size)) h1.lt
  clear hr2 hr4 HM3 HM HR hb4 hbC hb3 hA BX0
  have hI0 : OwnA w4 w4.heap.size 46 (.slice none 0 0) 0 ((dgs (T.take 0)).map (hA1 m pf)) := World.ownsRow_nil _ _ _ _
  have hJ0 : w4.ownsRow w4.heap.size 3 1 (.slice none 0 0) 0 (((dgs (T.take 0)).map hK).map (Value.int .i64)) := World.ownsRow_nil _ _ _ _
  have lW : w.heap.size < w4.heap.size := BX4.out.lt
  go_wp2
  go_loopw [11, 12, 13] (fun v u i wr => ∃ (j n : Nat), j ≤ m1 ∧ n ≤ j ∧ i = .int .i64 j ∧ OwnA wr w4.heap.size 46 v n ((dgs (T.take j)).map (hA1 m pf)) ∧ wr.ownsRow w4.heap.size 3 1 u n (((dgs (T.take j)).map hK).map (Value.int .i64)) ∧ Below w4.heap.size w4 wr) (fun _ _ i _ => m1 - (intOf i).toNat)
  case atStart => exact ⟨0, 0, Nat.zero_le _, Nat.le_refl _, rfl, hI0, hJ0, Below.refl _ _⟩
  case round =>
    obtain ⟨j, n, hj, hnj, rfl, hown, hwho, hbel⟩ := hrel
    have hsz := hbel.size
    by_cases hjm : j < m1
    · obtain ⟨b, o, A5, n5, k5, x, rfl, hbB, d0, d1', d2, d3, d4, d5, hlk, hn5, hri0, HX, hmem⟩ := hr1.val hjm
      have q0 := (hbel.cell (p := ⟨b, o + j * 6, none⟩) hbB).trans d0
      have q1 := (hbel.cell (p := ⟨b, o + j * 6 + 1, none⟩) hbB).trans d1'
      have q2 := (hbel.cell (p := ⟨b, o + j * 6 + 2, none⟩) hbB).trans d2
      have q3 := (hbel.cell (p := ⟨b, o + j * 6 + 3, none⟩) hbB).trans d3
      have q4 := (hbel.cell (p := ⟨b, o + j * 6 + 4, none⟩) hbB).trans d4
      have q5 := (hbel.cell (p := ⟨b, o + j * 6 + 5, none⟩) hbB).trans d5
      obtain ⟨hx1, hx2⟩ := HOK.out.rng x hmem
      have hnt : m.ts.length = nt := HM4.out.ts.len
      rw [hnt] at hx1
      obtain ⟨bt, ot, At', nt', kt, tl, hAt, hbt, ct0, hlkt, hrl, HTL, htm⟩ := HM4.out.ts.val hx1
      have htl : tl.length = nt' := hrl.len
      have hx2' : x.cl < nt' := by rw [HTL.out] at hx2; simpa [htl] using hx2
      have nt4 : nt ≤ 4 := by rw [← hnt]; exact HMC.out.2.2.1
      have nt20 : nt' ≤ 20 := by rw [← htl]; exact (HMC.out.2.2.2.2 tl htm).1
      subst hAt
      have bM := BX4.out.below hbel lW
      have z2 : wr.cell? ⟨w.heap.size, 2, none⟩ = _ := bM.cell 2
      simp only [List.getElem?_cons_zero, List.getElem?_cons_succ] at z2
      have y0 := (hbel.cell (p := ⟨bt, ot + x.th, none⟩) hbt).trans ct0
      have lM := bM.lt
      have lb : b < wr.heap.size := by omega
      have lbt : bt < wr.heap.size := by omega
      have HTK : Hid (T.take (j + 1) = T.take j ++ [x]) := at_take HX.out
      have HXM := Lib.hid hmem
      clear hmem hx2 hnt
      cases hen : x.en with
      | false =>
        rw [hen] at q3
        have HD : Hid (dgs (T.take (j + 1)) = dgs (T.take j) ++ [⟨x.st, -1, x.th, x.cl, []⟩]) := by
          show _ = _
          rw [HTK.out, dgs_snoc, dg1_begin _ _ hen]
        have bE := Lib.hid hbel
        have hown1 := World.ownsRow.alloc hown (Obj.cells #[.int .i64 x.st, .int .i64 x.th, .int .i64 x.cl, .bool false, .int .i64 x.er, .slice A5 n5 k5] 60)
        clear hri0 d0 d1' d2 d3 d4 d5 hen
        go_wp2
        refine region_two [0, 1, 2, 3, 4, 5, 6, 7, 8, 9, 10, 11, 12, 13, 14, 15, 16, 17, 18, 19, 20, 21, 22, 23, 24, 25, 26, 27] [] (by kernel_rfl) (by kernel_rfl) ?_
        simp only [pick, List.map_cons, List.map_nil, List.getD_cons_zero, List.getD_cons_succ]
        go_wp2_with (first
          | (at_builtin; refine app_litd eltActT (wr.alloc (Obj.cells #[.int .i64 x.st, .int .i64 x.th, .int .i64 x.cl, .bool false, .int .i64 x.er, .slice A5 n5 k5] 60)) rfl (.tmp 81) (.tmp 85) rfl w4.heap.size _ n _ rfl (by exact hown1) 1 [.int .i64 x.st, .int .i64 (-1), .bool false, .int .i64 0, .int .i64 0] _ (by first | rfl | simp) rfl rfl (by exact acV_oneT ⟨x.st, -1, false, 0, 0⟩) (by omega) (by omega) (by simp; omega) ?_; intro v3 w5 hown3 hgr3 hbel3 hsz3; have hwho5 := own_kc (T := fun t => t = 46) (World.ownsRow.alloc (World.ownsRow.alloc hwho _) _) (Kc.grown hgr3 (fun b cs t fr he hh => own_same (World.ownsRow.alloc hown1 _) he hh)) (by decide))
          | (at_builtin; go_must (refine app_lit eltIntS w5 rfl (.tmp 87) (.tmp 89) rfl w4.heap.size _ n _ rfl (by exact hwho5) 1 [.int .i64 (100 * x.th + x.cl)] w5.heap.size rfl rfl rfl (one_ints .i64 [100 * (x.th : Int) + x.cl]) (by omega) (by omega) hsz3 ?_); intro v6 w6 hown6 hgr6 hbel6 hsz6))
        have hb5 : Below w4.heap.size w4 w5 := hbel3 _ (bE.out.alloc hsz _)
        have hb6 : Below w4.heap.size w4 w6 := hbel6 _ hb5
        have hown7 := own_kc (T := fun t => t = 3) (World.ownsRow.alloc hown3 _) (Kc.grown hgr6 (fun b cs t fr he hh => own_same (World.ownsRow.alloc hwho5 _) he hh)) (by decide)
        refine ⟨⟨j + 1, n + 1, by omega, by omega, by go_num, ?_, ?_, hb6⟩, by simp [intOf]; omega⟩
        · unfold OwnA
          rw [HD.out, List.map_append, List.flatMap_append]
          exact hown7
        · rw [HD.out, List.map_append, List.map_append]
          exact hown6
      | true =>
        rw [hen] at q3
        have HD : Hid (dgs (T.take (j + 1)) = (dgs (T.take j)).map (fun d => d.fin x)) := by
          show _ = _
          rw [HTK.out, dgs_snoc, dg1_end _ _ hen]
        have HOKE := Lib.hid (HOK.out.okE x HXM.out hen)
        have HUQ := Lib.hid (HOK.out.uq j x HX.out hen)
        have HDR := Lib.hid (HOK.out.drng j)
        obtain ⟨bl, ol, qx, A7, n7, k7, ar, hAl, hbl, l0, l1, hlk7, hri7, HL7, hl7m⟩ := hrl.val hx2'
        subst hAl
        have hcl : clOf m x.th x.cl = ⟨qx, ar⟩ := clOf_at HTL.out HL7.out
        have HCL := Lib.hid hcl
        have hn7 : n7 ≤ 1000 := by have h1 := (HMC.out.2.2.2.2 tl htm).2 _ hl7m; have h2 := hri7.len; have h3 : ar.length ≤ 8 := h1.2; omega
        have HG := Lib.hid (HOK.out.good tl htm _ hl7m)
        have x20 : x.cl < 20 := by omega
        obtain ⟨A9, c9, rfl, hc9⟩ := own_form hown
        obtain ⟨A8, c8, rfl, hc8⟩ := own_form hwho
        have HLD : Hid ((dgs (T.take j)).length = n) := by have := OwnA.len hown; rw [List.length_map] at this; exact this
        obtain ⟨wo, rfl⟩ : ∃ wo, wo = wr := ⟨wr, rfl⟩
        have bO : Below w4.heap.size w4 (wo.alloc (Obj.cells #[.int .i64 x.st, .int .i64 x.th, .int .i64 x.cl, .bool true, .int .i64 x.er, .slice A5 n5 k5] 60)) := hbel.alloc hsz _
        have hI1 : OwnA (wo.alloc (Obj.cells #[.int .i64 x.st, .int .i64 x.th, .int .i64 x.cl, .bool true, .int .i64 x.er, .slice A5 n5 k5] 60)) w4.heap.size 46 (.slice A9 n c9) n ((finD x 0 (dgs (T.take j))).map (hA1 m pf)) := by rw [finD_zero]; exact World.ownsRow.alloc hown _
        have hJ1 := World.ownsRow.alloc hwho (Obj.cells #[.int .i64 x.st, .int .i64 x.th, .int .i64 x.cl, .bool true, .int .i64 x.er, .slice A5 n5 k5] 60)
        have bE1 := Box.newAt wo 60 [.int .i64 x.st, .int .i64 x.th, .int .i64 x.cl, .bool true, .int .i64 x.er, .slice A5 n5 k5] wo.heap.size rfl
        have HbEl := Lib.hid (show wo.heap.size < (wo.alloc (Obj.cells #[.int .i64 x.st, .int .i64 x.th, .int .i64 x.cl, .bool true, .int .i64 x.er, .slice A5 n5 k5] 60)).heap.size by simp)
        have HI1 := Lib.hid hI1
        have HJ1 := Lib.hid hJ1
        have HE1 := Lib.hid bE1
        have HbO := Lib.hid bO
        clear hown hwho hen HTK HXM hcl hI1 hJ1 bE1 bO
        have en1 : decide (nt ≤ x.th) = false := by simp; omega
        have en2 : decide (nt' ≤ x.cl) = false := by simp; omega
        go_wp2
        refine region_two [0, 1, 2, 3, 4, 5, 6, 7, 8, 9, 10, 11, 12, 13, 14, 15, 16, 17, 18, 19, 20, 21, 22, 23, 24, 25, 26, 27] [] (by kernel_rfl) (by kernel_rfl) ?_
        simp only [pick, List.map_cons, List.map_nil, List.getD_cons_zero, List.getD_cons_succ]
        go_wp2
        go_loopw [16] (fun i wr => ∃ k : Nat, k ≤ n ∧ i = .int .i64 k ∧ OwnA wr w4.heap.size 46 (.slice A9 n c9) n ((finD x k (dgs (T.take j))).map (hA1 m pf)) ∧ wr.ownsRow w4.heap.size 3 1 (.slice A8 n c8) n (((dgs (T.take j)).map hK).map (Value.int .i64)) ∧ Hid (Box wr wo.heap.size 60 [.int .i64 x.st, .int .i64 x.th, .int .i64 x.cl, .bool true, .int .i64 x.er, .slice A5 n5 k5]) ∧ Below w4.heap.size w4 wr) (fun i _ => n - (intOf i).toNat)
        case atStart => exact ⟨0, Nat.zero_le _, rfl, HI1.out, HJ1.out, HE1.out, HbO.out.drew⟩
        case round =>
          obtain ⟨k, hk, rfl, hown, hwho, hBE, hbel2⟩ := hrel
          by_cases hkn : k < n
          · obtain ⟨g, cq9, h9, hBg, _, hgl⟩ := own_pos hown (by omega)
            obtain ⟨g8, cq8, h8, hBg8, _, hgl8⟩ := own_pos hwho (by omega)
            injection h9 with h9 _ h9c
            injection h8 with h8 _ h8c
            subst h9 h8 h9c h8c
            have hk0 : k < (dgs (T.take j)).length := by rw [HLD.out]; exact hkn
            obtain ⟨d, hd⟩ : ∃ d, (dgs (T.take j))[k]? = some d := ⟨_, List.getElem?_eq_getElem hk0⟩
            have HDK := Lib.hid hd
            have HDM := Lib.hid (List.mem_of_getElem? hd)
            have hdm : d ∈ dgs (T.take j) := List.mem_of_getElem? hd
            obtain ⟨hd1, hd2⟩ := HDR.out d hdm
            have hd20 : d.cl < 20 := by
              obtain ⟨l, hl⟩ : ∃ l, m.ts[d.th]? = some l := ⟨_, List.getElem?_eq_getElem hd1⟩
              rw [hl] at hd2
              exact Nat.lt_of_lt_of_le hd2 (HMC.out.2.2.2.2 l (List.mem_of_getElem? hl)).1
            have hd4 : d.th < 4 := Nat.lt_of_lt_of_le hd1 HMC.out.2.2.1
            have hw0 : wr.cell? ⟨g8, k, none⟩ = some (.int .i64 (100 * d.th + d.cl)) := by
              have := World.ownsRow.cellAt hwho k (by omega)
              rw [this, List.getElem?_map, List.getElem?_map, hd]; rfl
            have HOW := Lib.hid hown
            have HWH := Lib.hid hwho
            have e0 := hBE.out.cell 0
            simp only [List.getElem?_cons_zero] at e0
            clear hown hwho hd hdm hd1 hd2
            by_cases hkey : d.th = x.th ∧ d.cl = x.cl
            · have HKEY := Lib.hid hkey
              have heq : ((100 * (d.th : Int) + d.cl) == (100 * (x.th : Int) + x.cl)) = true := by simp; omega
              clear hkey
              have ff := World.ownsRow.frozenAt HOW.out (k * 5 + 1)
              obtain ⟨_, c1, _, _, _⟩ := OwnA.val HOW.out hkn (a := hA1 m pf d) (by rw [List.getElem?_map, finD_at, HDK.out]; rfl)
              have hgE : wo.heap.size ≠ g := fun h => Box.ne hBE.out HOW.out (by decide) (by rw [h]; rfl)
              obtain ⟨w5, hw5⟩ : ∃ w5, w5 = wr.setCell ⟨g, k * 5 + 1, none⟩ (.int .i64 x.st) := ⟨_, rfl⟩
              have hO5 := (World.ownsRow.stored HOW.out (k * 5 + 1) (.int .i64 x.st)).1
              have hW5 := own_kc (T := fun t => t = 46) HWH.out (Kc.grown (grown_setCell wr ⟨g, k * 5 + 1, none⟩ (.int .i64 x.st)) (fun b cs t fr he hh => own_same HOW.out he hh)) (by decide)
              have hE5 := Box.other hBE.out (k * 5 + 1) (.int .i64 x.st) hgE
              have hb5 : Below w4.heap.size w4 (wr.setCell ⟨g, k * 5 + 1, none⟩ (.int .i64 x.st)) := below_at hbel2 hBg _ _
              rw [← hw5] at hO5 hW5 hE5 hb5
              have HO5 := Lib.hid hO5
              have HW5 := Lib.hid hW5
              have HE5 := Lib.hid hE5
              have hs5 := hb5.size
              have z2 : w5.cell? ⟨w.heap.size, 2, none⟩ = _ := (BX4.out.below hb5 lW).cell 2
              have z0 := (hb5.cell (p := ⟨bt, ot + x.th, none⟩) hbt).trans ct0
              have z3 := (hb5.cell (p := ⟨bl, ol + x.cl * 2, none⟩) hbl).trans l0
              have z4 := (hb5.cell (p := ⟨bl, ol + x.cl * 2 + 1, none⟩) hbl).trans l1
              have e1 := hE5.cell 1
              have e2 := hE5.cell 2
              have e5 := hE5.cell 5
              simp only [List.getElem?_cons_zero, List.getElem?_cons_succ] at z2 e1 e2 e5
              have HHW := Lib.hid hw5
              clear hw5 hO5 hW5 hE5
              go_wp2
              rw [← HHW.out]
              clear e0 ff hw0 heq c1
              have hF2 := HF2.out
              refine region_two [0, 1, 2, 3, 4, 5, 6, 7, 8, 9, 10, 11, 12] [13, 14, 15, 16, 17, 18, 19, 20] (by kernel_rfl) (by kernel_rfl) ?_
              simp only [pick, List.map_cons, List.map_nil, List.getD_cons_zero, List.getD_cons_succ]
              go_wp2_with fail
              obtain ⟨p, v, hpp⟩ : ∃ p v, pf ⟨qx, ar⟩ x.to true = (p, v, true) := ⟨_, _, Prod.ext rfl (Prod.ext rfl (by rw [← HCL.out]; exact HOKE.out))⟩
              have HPP := Lib.hid hpp
              clear hpp hF2
              refine (HF.out w5.drew ⟨qx, ar⟩ A7 A5 n7 k7 n5 k5 x.to true (RI.more (RI.below hri7 hb5.drew) hb5.drew.size) (RI.more (RI.below hri0 hb5.drew) hb5.drew.size) HG.out hn7 hn5).mono ?_
              rintro e w6 ⟨he, hb6⟩
              rw [HPP.out] at he
              dsimp only at he
              subst he
              have hO6 := own_kc (w := w5.drew) (T := fun _ => False) HO5.out (Kc.below hb6) id
              have hW6 := own_kc (w := w5.drew) (T := fun _ => False) HW5.out (Kc.below hb6) id
              have hE6 := Box.below (w := w5.drew) HE5.out hb6 (Box.lt HE5.out)
              have hO7 := (World.ownsRow.stored hO6 (k * 5 + 2) (.bool p)).1
              have hW7 := own_kc (T := fun t => t = 46) hW6 (Kc.grown (grown_setCell w6 ⟨g, k * 5 + 2, none⟩ (.bool p)) (fun b cs t fr he hh => own_same hO6 he hh)) (by decide)
              have hE7 := Box.other hE6 (k * 5 + 2) (.bool p) hgE
              have hO8 := (World.ownsRow.stored hO7 (k * 5 + 3) (.int .i64 v)).1
              have hW8 := own_kc (T := fun t => t = 46) hW7 (Kc.grown (grown_setCell (w6.setCell ⟨g, k * 5 + 2, none⟩ (.bool p)) ⟨g, k * 5 + 3, none⟩ (.int .i64 v)) (fun b cs t fr he hh => own_same hO7 he hh)) (by decide)
              have hE8 := Box.other hE7 (k * 5 + 3) (.int .i64 v) hgE
              obtain ⟨y2, c2⟩ : ∃ u, w6.cell? ⟨g, k * 5 + 2, none⟩ = some u := ⟨_, (World.ownsRow.cellAt hO6 _ (by omega)).trans (List.getElem?_eq_getElem (by have := hO6.1; omega))⟩
              obtain ⟨y3, c3⟩ : ∃ u, w6.cell? ⟨g, k * 5 + 3, none⟩ = some u := ⟨_, (World.ownsRow.cellAt hO6 _ (by omega)).trans (List.getElem?_eq_getElem (by have := hO6.1; omega))⟩
              have f1 := World.ownsRow.frozenAt hO6 (k * 5 + 2)
              have f2 := World.ownsRow.frozenAt hO6 (k * 5 + 3)
              have hb8 := below_at (below_at (hb5.drew.trans (hb6.mono hb5.drew.size)) hBg (k * 5 + 2) (.bool p)) hBg (k * 5 + 3) (.int .i64 v)
              have HO8 := Lib.hid hO8
              have HW8 := Lib.hid hW8
              have HE8 := Lib.hid hE8
              clear hO6 hW6 hE6 hO7 hW7 hE7 hO8 hW8 hE8
              go_wp2
              go_roundw
              case rel =>
                refine ⟨k + 1, by omega, by go_num, ?_, HW8.out, HE8, hb8⟩
                have hde : d.e = -1 := HUQ.out d HDM.out HKEY.out.1 HKEY.out.2
                have hfn : hA1 m pf (d.fin x) = ⟨(hA1 m pf d).b, x.st, p, v, (hA1 m pf d).add⟩ := by
                  unfold Dg.fin
                  rw [if_pos ⟨HKEY.out.1, HKEY.out.2, hde⟩]
                  unfold hA1
                  rw [if_neg (by dsimp only; omega), if_pos hde]
                  dsimp only
                  rw [HKEY.out.1, HKEY.out.2, HCL.out, HPP.out]
                rw [finD_succ HDK.out, List.map_set, hfn]
                unfold OwnA
                rw [← flat_ac ((finD x k (dgs (T.take j))).map (hA1 m pf)) k (hA1 m pf d) x.st v p (by rw [List.getElem?_map, finD_at, HDK.out]; rfl)]
                exact HO8.out
              case measure => simp [intOf]; omega
            · have HKEY := Lib.hid hkey
              have heq : ((100 * (d.th : Int) + d.cl) == (100 * (x.th : Int) + x.cl)) = false := by simp; omega
              have HNO : Hid (¬ d.is x) := fun h => HKEY.out ⟨h.1, h.2.1⟩
              clear hkey
              go_wp2
              go_roundw
              case rel => exact ⟨k + 1, by omega, by go_num, by rw [finD_skip HDK.out HNO.out]; exact HOW.out, HWH.out, hBE, hbel2⟩
              case measure => simp [intOf]; omega
          · obtain rfl : n = k := by omega
            have HOW := Lib.hid hown
            have HWH := Lib.hid hwho
            clear hown hwho
            go_wp2
            go_roundw
            case rel =>
              refine ⟨j + 1, n, by omega, by omega, by go_num, ?_, ?_, hbel2⟩
              · rw [HD.out, ← finD_all (by rw [HLD.out]; omega)]
                exact HOW.out
              · have hkk : ((dgs (T.take j)).map (fun d => d.fin x)).map hK = (dgs (T.take j)).map hK := by
                  rw [List.map_map]
                  apply List.map_congr_left
                  intro d _
                  simp only [Function.comp, Dg.fin]
                  split <;> rfl
                rw [HD.out, hkk]
                exact HWH.out
            case measure => simp [intOf]; omega
    · obtain rfl : m1 = j := by omega
      have HTT : Hid (T.take m1 = T) := List.take_of_length_le (by rw [LT.out]; omega)
      rw [HTT.out] at hown hwho
      have HDR : Hid (∀ d ∈ dgs T, d.th < m.ts.length ∧ d.cl < (m.ts[d.th]?.getD []).length) := by
        have := HOK.out.drng m1
        rwa [HTT.out] at this
      obtain ⟨A9, c9, rfl, hc9⟩ := own_form hown
      obtain ⟨A8, c8, rfl, hc8⟩ := own_form hwho
      have HLD : Hid ((dgs T).length = n) := by have := OwnA.len hown; rw [List.length_map] at this; exact this
      have hI1 : OwnA wr w4.heap.size 46 (.slice A9 n c9) n (((dgs T).take 0).map (hA m pf) ++ ((dgs T).drop 0).map (hA1 m pf)) := hown
      obtain ⟨wo, rfl⟩ : ∃ wo, wo = wr := ⟨wr, rfl⟩
      clear hown
      go_wp2
      go_loopw [20] (fun i wr => ∃ k : Nat, k ≤ n ∧ i = .int .i64 k ∧ OwnA wr w4.heap.size 46 (.slice A9 n c9) n (((dgs T).take k).map (hA m pf) ++ ((dgs T).drop k).map (hA1 m pf)) ∧ wr.ownsRow w4.heap.size 3 1 (.slice A8 n c8) n (((dgs T).map hK).map (Value.int .i64)) ∧ Below w4.heap.size w4 wr) (fun i _ => n - (intOf i).toNat)
      case atStart => exact ⟨0, Nat.zero_le _, rfl, hI1, hwho, hbel⟩
      case round =>
        obtain ⟨k, hk, rfl, hown, hwho, hbel2⟩ := hrel
        have hs2 := hbel2.size
        by_cases hkn : k < n
        · obtain ⟨g, cq9, h9, hBg, _, hgl⟩ := own_pos hown (by omega)
          obtain ⟨g8, cq8, h8, hBg8, _, hgl8⟩ := own_pos hwho (by omega)
          injection h9 with h9 _ h9c
          injection h8 with h8 _ h8c
          subst h9 h8 h9c h8c
          have hk0 : k < (dgs T).length := by rw [HLD.out]; exact hkn
          obtain ⟨d, hd⟩ : ∃ d, (dgs T)[k]? = some d := ⟨_, List.getElem?_eq_getElem hk0⟩
          have HDK := Lib.hid hd
          have HDM := Lib.hid (List.mem_of_getElem? hd)
          obtain ⟨hd1, hd2⟩ := HDR.out d HDM.out
          have HDD : Hid ((dgs T).drop k = d :: (dgs T).drop (k + 1)) := at_drop hd
          have HDT : Hid ((dgs T).take (k + 1) = (dgs T).take k ++ [d]) := at_take hd
          have hat : (((dgs T).take k).map (hA m pf) ++ ((dgs T).drop k).map (hA1 m pf))[k]? = some (hA1 m pf d) := by
            rw [List.getElem?_append_right (by simp; omega)]
            simp only [List.length_map, List.length_take]
            rw [show k - min k (dgs T).length = 0 by omega, HDD.out]
            rfl
          have HAT := Lib.hid hat
          obtain ⟨c0, c1, _, _, ff⟩ := OwnA.val hown hkn hat
          have hw0 : wr.cell? ⟨g8, k, none⟩ = some (.int .i64 (100 * d.th + d.cl)) := by
            have := World.ownsRow.cellAt hwho k (by omega)
            rw [this, List.getElem?_map, List.getElem?_map, hd]; rfl
          have HOW := Lib.hid hown
          have HWH := Lib.hid hwho
          clear hown hwho hd hat
          by_cases he : d.e = -1
          · have HE := Lib.hid he
            have c1' : wr.cell? ⟨g, k * 5 + 1, none⟩ = some (.int .i64 (-1)) := by rw [c1]; unfold hA1; rw [if_pos he]
            have hnt : m.ts.length = nt := HM4.out.ts.len
            rw [hnt] at hd1
            obtain ⟨bt, ot, At', nt', kt, tl, hAt, hbt, ct0, hlkt, hrl, HTL, htm⟩ := HM4.out.ts.val hd1
            have htl : tl.length = nt' := hrl.len
            have hd2' : d.cl < nt' := by rw [HTL.out] at hd2; simpa [htl] using hd2
            have nt4 : nt ≤ 4 := by rw [← hnt]; exact HMC.out.2.2.1
            have nt20 : nt' ≤ 20 := by rw [← htl]; exact (HMC.out.2.2.2.2 tl htm).1
            subst hAt
            obtain ⟨bl, ol, qx, A7, n7, k7, ar, hAl, hbl, l0, l1, hlk7, hri7, HL7, hl7m⟩ := hrl.val hd2'
            subst hAl
            have HCL := Lib.hid (clOf_at HTL.out HL7.out)
            have hn7 : n7 ≤ 1000 := by have h1 := (HMC.out.2.2.2.2 tl htm).2 _ hl7m; have h2 := hri7.len; have h3 : ar.length ≤ 8 := h1.2; omega
            have HG := Lib.hid (HOK.out.good tl htm _ hl7m)
            have HOKE := Lib.hid (HOK.out.okO d HDM.out he)
            have z2 : wr.cell? ⟨w.heap.size, 2, none⟩ = _ := (BX4.out.below hbel2 lW).cell 2
            have z0 := (hbel2.cell (p := ⟨bt, ot + d.th, none⟩) hbt).trans ct0
            have z3 := (hbel2.cell (p := ⟨bl, ol + d.cl * 2, none⟩) hbl).trans l0
            have z4 := (hbel2.cell (p := ⟨bl, ol + d.cl * 2 + 1, none⟩) hbl).trans l1
            simp only [List.getElem?_cons_zero, List.getElem?_cons_succ] at z2
            have hq1 : (100 * (d.th : Int) + d.cl).tdiv 100 = d.th := by rw [Int.tdiv_eq_ediv_of_nonneg (by omega)]; omega
            have hq2 : (100 * (d.th : Int) + d.cl).tmod 100 = d.cl := by rw [Int.tmod_eq_emod_of_nonneg (by omega)]; omega
            clear c1 he hnt hd2 c0
            have hF2 := HF2.out
            go_wp2
            refine region_two [0, 1, 2, 3, 4, 5, 6, 7, 8, 9, 10, 11, 12, 13, 14, 15, 16] [17, 18, 19, 20, 21, 22, 23, 24] (by kernel_rfl) (by kernel_rfl) ?_
            simp only [pick, List.map_cons, List.map_nil, List.getD_cons_zero, List.getD_cons_succ]
            go_wp2_with fail
            obtain ⟨p, v, hpp⟩ : ∃ p v, pf ⟨qx, ar⟩ [] false = (p, v, true) := ⟨_, _, Prod.ext rfl (Prod.ext rfl (by rw [← HCL.out]; exact HOKE.out))⟩
            have HPP := Lib.hid hpp
            clear hpp hF2
            refine (HF.out wr.drew ⟨qx, ar⟩ A7 none n7 k7 0 0 [] false (RI.more (RI.below hri7 hbel2.drew) hbel2.drew.size) (RI.nil _ _ _ _) HG.out hn7 (by omega)).mono ?_
            rintro e w6 ⟨he, hb6⟩
            rw [HPP.out] at he
            dsimp only at he
            subst he
            have hO6 := own_kc (w := wr.drew) (T := fun _ => False) HOW.out (Kc.below hb6) id
            have hW6 := own_kc (w := wr.drew) (T := fun _ => False) HWH.out (Kc.below hb6) id
            have hO7 := (World.ownsRow.stored hO6 (k * 5 + 2) (.bool p)).1
            have hW7 := own_kc (T := fun t => t = 46) hW6 (Kc.grown (grown_setCell w6 ⟨g, k * 5 + 2, none⟩ (.bool p)) (fun b cs t fr he hh => own_same hO6 he hh)) (by decide)
            have hO8 := (World.ownsRow.stored hO7 (k * 5 + 3) (.int .i64 v)).1
            have hW8 := own_kc (T := fun t => t = 46) hW7 (Kc.grown (grown_setCell (w6.setCell ⟨g, k * 5 + 2, none⟩ (.bool p)) ⟨g, k * 5 + 3, none⟩ (.int .i64 v)) (fun b cs t fr he hh => own_same hO7 he hh)) (by decide)
            obtain ⟨y2, c2⟩ : ∃ u, w6.cell? ⟨g, k * 5 + 2, none⟩ = some u := ⟨_, (World.ownsRow.cellAt hO6 _ (by omega)).trans (List.getElem?_eq_getElem (by have := hO6.1; omega))⟩
            obtain ⟨y3, c3⟩ : ∃ u, w6.cell? ⟨g, k * 5 + 3, none⟩ = some u := ⟨_, (World.ownsRow.cellAt hO6 _ (by omega)).trans (List.getElem?_eq_getElem (by have := hO6.1; omega))⟩
            have f1 := World.ownsRow.frozenAt hO6 (k * 5 + 2)
            have f2 := World.ownsRow.frozenAt hO6 (k * 5 + 3)
            have f3 := World.ownsRow.frozenAt hO6 (k * 5 + 1)
            have hb8 := below_at (below_at (hbel2.drew.trans (hb6.mono hbel2.drew.size)) hBg (k * 5 + 2) (.bool p)) hBg (k * 5 + 3) (.int .i64 v)
            have HO8 := Lib.hid hO8
            have HW8 := Lib.hid hW8
            clear hO6 hW6 hO7 hW7 hO8 hW8 c1'
            go_wp2
            go_roundw
            case rel =>
              refine ⟨k + 1, by omega, by go_num, ?_, HW8.out, hb8⟩
              have ha1 : hA1 m pf d = ⟨d.b, -1, false, 0, 0⟩ := by unfold hA1; rw [if_pos HE.out]
              have ha : hA m pf d = ⟨d.b, -1, p, v, 0⟩ := by unfold hA; rw [if_pos HE.out, HCL.out, HPP.out]
              have hset : ((dgs T).take (k + 1)).map (hA m pf) ++ ((dgs T).drop (k + 1)).map (hA1 m pf) = (((dgs T).take k).map (hA m pf) ++ ((dgs T).drop k).map (hA1 m pf)).set k ⟨d.b, -1, p, v, 0⟩ := by
                rw [HDT.out, HDD.out, List.map_append, List.append_assoc, List.map_singleton, List.singleton_append, List.map_cons, List.set_append_right _ _ (by simp; omega)]
                simp only [List.length_map, List.length_take]
                rw [show k - min k (dgs T).length = 0 by omega, List.set_cons_zero, ← ha]
                try rfl
              rw [hset]
              unfold OwnA
              have hfl := flat_ac (((dgs T).take k).map (hA m pf) ++ ((dgs T).drop k).map (hA1 m pf)) k (hA1 m pf d) (-1) v p HAT.out
              have hfa := flatMap_at acV_len (((dgs T).take k).map (hA m pf) ++ ((dgs T).drop k).map (hA1 m pf)) k 1 _ HAT.out (by omega)
              rw [ha1] at hfl hfa
              dsimp only at hfl
              have hsm : ((((dgs T).take k).map (hA m pf) ++ ((dgs T).drop k).map (hA1 m pf)).flatMap acV).set (k * 5 + 1) (.int .i64 (-1)) = (((dgs T).take k).map (hA m pf) ++ ((dgs T).drop k).map (hA1 m pf)).flatMap acV := by
                apply List.ext_getElem?
                intro i
                by_cases hi : k * 5 + 1 = i
                · subst hi
                  rw [List.getElem?_set_self (List.getElem?_eq_some_iff.1 (hfa.trans rfl)).1, hfa]
                  rfl
                · rw [List.getElem?_set_ne hi]
              rw [hsm] at hfl
              rw [← hfl]
              exact HO8.out
            case measure => simp [intOf]; omega
          · have HE := Lib.hid he
            have c1' : wr.cell? ⟨g, k * 5 + 1, none⟩ = some (.int .i64 d.e) := by rw [c1]; unfold hA1; rw [if_neg he]
            have he1 : (d.e == (-1 : Int)) = false := by simpa using he
            clear c1 he
            go_wp2
            go_roundw
            case rel =>
              refine ⟨k + 1, by omega, by go_num, ?_, HWH.out, hbel2⟩
              have hh : hA m pf d = hA1 m pf d := by unfold hA; rw [if_neg HE.out]
              rw [HDT.out, List.map_append, List.append_assoc, List.map_singleton, List.singleton_append, hh, ← List.map_cons, ← HDD.out]
              exact HOW.out
            case measure => simp [intOf]; omega
        · obtain rfl : n = k := by omega
          have HOW := Lib.hid hown
          clear hown hwho
          go_wp2
          go_ret2
          refine ⟨A9, n, c9, rfl, hc9, by omega, ?_, hbD.trans (hbel2.mono hbD.size)⟩
          have h1 := HOW.out
          rw [List.take_of_length_le (by rw [HLD.out]; omega), List.drop_eq_nil_of_le (by rw [HLD.out]; omega), List.map_nil, List.append_nil] at h1
          exact own_lowW h1 hbD.size
theorem top_history (hP : PlaySpec) {F : FuncId} {pf : Cl → List Int → Bool → Bool × Int × Bool} {G : Cl → Prop} (hF : PfSpec F pf G) (hF2 : ∀ (args : Array Value) (w : World), (callFunc F args).run Tryd.prog w = .ok (.enter F args) w) (w : World) (hT : Tab w) (Aw : Option Addr) (nw cw : Nat) (Ac : Option Addr) (nc cc : Nat) (At : Option Addr) (nt ct : Nat) (m : Mc) (As : Option Addr) (ns cs : Nat) (s : List Int) (T : List Ev) (W : List Int) (hm : InM w Aw nw cw Ac nc cc At nt ct m)
    (hmc : okMc m) (hs : RI w w.heap.size .i64 As ns s) (hn : ns ≤ 6000) (hR : PlR m s T W 0) (hok : HistOk m pf G T) : Calls Tryd.prog 19 #[.agg #[.slice Aw nw cw, .slice Ac nc cc, .slice At nt ct], .slice As ns cs, .func (.func F) #[] #[]] w (HistPost m pf T w) :=
  (top_historyW hP hF hF2 w hT Aw nw cw Ac nc cc At nt ct m As ns cs s T W hm hmc hs hn hR hok).mono fun _ _ ⟨A, n, c, h1, h2, h3, h4, h5⟩ => ⟨A, n, c, h1, h2, h3, Rd.of_own h4, h5⟩
end Go.Proofs.YtnchgdjdfhfedaaDoor
