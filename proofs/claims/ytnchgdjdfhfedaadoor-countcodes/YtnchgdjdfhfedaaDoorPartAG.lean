/- Of this claim's own texts these, one behind the other: AsmPure, LibB, LibL. No statement of the seat is proved here; no condition but those that stand at the theorems. -/
import Derived.Test.YtnchgdjdfhfedaaDoorPartAE
import Derived.Test.YtnchgdjdfhfedaaDoorPartAC
set_option linter.unusedSimpArgs false
set_option linter.unusedVariables false
namespace Go.Baro

/-- A name. -/
abbrev Nm := List UInt8
/-- A builder: the code, the registers and the labels in the order of their names' first use, the jumps, whether a name was given twice. -/
structure Bs where
  code : List Ins
  regs : List (Nm × Int)
  labs : List (Nm × Int)
  jmps : List (Int × Nm)
  twice : Bool
def nmAsk : List (Nm × Int) → Nm → Option Int
  | [], _ => none
  | p :: ks, s => if p.1 = s then some p.2 else nmAsk ks s
theorem nmAsk_append (a b : List (Nm × Int)) (s : Nm) : nmAsk (a ++ b) s = (nmAsk a s).or (nmAsk b s) := by
  induction a with
  | nil => simp [nmAsk]
  | cons p a ih =>
    rw [List.cons_append, nmAsk, nmAsk]
    split
    · rfl
    · exact ih
/-- The number of a register; a new one is the next. -/
def Bs.rg (b : Bs) (s : Nm) : Bs × Int := match nmAsk b.regs s with
  | some v => (b, v)
  | none => ({ b with regs := b.regs ++ [(s, (b.regs.length : Int))] }, (b.regs.length : Int))
def Bs.put (b : Bs) (o : Ins) : Bs := { b with code := b.code ++ [o] }
def Bs.jmp (b : Bs) (l : Nm) : Bs := { b with jmps := b.jmps ++ [((b.code.length : Int), l)] }
def Bs.lab (b : Bs) (l : Nm) : Bs := { b with labs := b.labs ++ [(l, (b.code.length : Int))] }
def Bs.set (b : Bs) (to : Nm) (n : Int) : Bs := (b.rg to).1.put ⟨1, (b.rg to).2, n, 0, 0⟩
def Bs.two (b : Bs) (x y : Nm) : Bs × Int × Int := (((b.rg x).1.rg y).1, (b.rg x).2, ((b.rg x).1.rg y).2)
def Bs.three (b : Bs) (x y z : Nm) : Bs × Int × Int × Int := (((b.two x y).1.rg z).1, (b.two x y).2.1, (b.two x y).2.2, ((b.two x y).1.rg z).2)
def Bs.copy (b : Bs) (x y : Nm) : Bs := (b.two x y).1.put ⟨2, (b.two x y).2.1, (b.two x y).2.2, 0, 0⟩
def Bs.op3 (b : Bs) (k : Int) (x y z : Nm) : Bs := (b.three x y z).1.put ⟨k, (b.three x y z).2.1, (b.three x y z).2.2.1, (b.three x y z).2.2.2, 0⟩
def Bs.jump (b : Bs) (l : Nm) : Bs := (b.jmp l).put ⟨10, 0, 0, 0, 0⟩
def Bs.when (b : Bs) (r l : Nm) : Bs := ((b.jmp l).rg r).1.put ⟨11, ((b.jmp l).rg r).2, 0, 0, 0⟩
def Bs.unless (b : Bs) (r l : Nm) : Bs := ((b.jmp l).rg r).1.put ⟨12, ((b.jmp l).rg r).2, 0, 0, 0⟩
def Bs.load (b : Bs) (x y : Nm) (o : Int) : Bs := (b.two x y).1.put ⟨13, (b.two x y).2.1, (b.two x y).2.2, o, 0⟩
def Bs.store (b : Bs) (x y : Nm) (o : Int) : Bs := (b.two x y).1.put ⟨14, (b.two x y).2.1, (b.two x y).2.2, o, 0⟩
def Bs.cas (b : Bs) (x y : Nm) (o : Int) (z : Nm) : Bs := (b.three x y z).1.put ⟨15, (b.three x y z).2.1, (b.three x y z).2.2.1, o, (b.three x y z).2.2.2⟩
def Bs.emit1 (b : Bs) (x : Nm) : Bs := (b.rg x).1.put ⟨16, (b.rg x).2, 0, 0, 0⟩
def Bs.emit (b : Bs) (xs : List Nm) : Bs := xs.foldl Bs.emit1 b
def Bs.new (xs : List Nm) : Bs := xs.foldl (fun b x => (b.rg x).1) ⟨[], [], [], [], false⟩
/-- An instruction whose target is known. -/
def tgt (o : Ins) (v : Int) : Ins := if o.k = 10 then { o with a := v } else { o with b := v }
/-- The targets of the jumps are put in. -/
def rslv (labs : List (Nm × Int)) : List (Int × Nm) → List Ins → Option (List Ins)
  | [], c => some c
  | j :: js, c => match nmAsk labs j.2, c[j.1.toNat]? with
    | some v, some o => rslv labs js (c.set j.1.toNat (tgt o v))
    | _, _ => none
/-- The code, where nothing is wrong with it. -/
def Bs.fin (b : Bs) : Option (List Ins) := if b.twice = true then none else
  match rslv b.labs b.jmps b.code with
  | none => none
  | some c => if okC c then some c else none
theorem Bs.fin_some {b : Bs} {c : List Ins} (h : b.fin = some c) : b.twice = false ∧ rslv b.labs b.jmps b.code = some c ∧ okC c := by
  unfold Bs.fin at h
  by_cases ht : b.twice = true
  · rw [if_pos ht] at h; cases h
  · rw [if_neg ht] at h
    cases hr : rslv b.labs b.jmps b.code with
    | none => rw [hr] at h; cases h
    | some c' =>
      rw [hr] at h
      dsimp only at h
      split at h
      · cases h; exact ⟨by simpa using ht, rfl, by assumption⟩
      · cases h
theorem rslv_len (labs : List (Nm × Int)) : ∀ (js : List (Int × Nm)) (c c' : List Ins), rslv labs js c = some c' → c'.length = c.length
  | [], c, c', h => by cases h; rfl
  | j :: js, c, c', h => by
    unfold rslv at h
    split at h
    · rw [rslv_len labs js _ c' h]; simp
    · cases h
/-- A jump that is resolved. -/
theorem rslv_at (labs : List (Nm × Int)) {c' : List Ins} : ∀ (js : List (Int × Nm)) (c : List Ins), rslv labs js c = some c' → ∀ (i : Nat) (j : Int × Nm), js[i]? = some j → ∃ v o ci, nmAsk labs j.2 = some v ∧ rslv labs (js.drop i) ci = some c' ∧ rslv labs (js.take i) c = some ci ∧ ci[j.1.toNat]? = some o ∧ rslv labs (js.take (i + 1)) c = some (ci.set j.1.toNat (tgt o v)) ∧ rslv labs (js.drop (i + 1)) (ci.set j.1.toNat (tgt o v)) = some c'
  | [], c, h, i, j, hj => by simp at hj
  | k :: js, c, h, 0, j, hj => by
    simp at hj
    subst hj
    have h' := h
    unfold rslv at h
    cases ha : nmAsk labs k.2 with
    | none => simp [ha] at h
    | some v =>
      cases hc : c[k.1.toNat]? with
      | none => simp [ha, hc] at h
      | some o =>
        simp only [ha, hc] at h
        exact ⟨v, o, c, rfl, h', rfl, hc, by simp [rslv, ha, hc], by simpa using h⟩
  | k :: js, c, h, i + 1, j, hj => by
    unfold rslv at h
    cases ha : nmAsk labs k.2 with
    | none => simp [ha] at h
    | some v =>
      cases hc : c[k.1.toNat]? with
      | none => simp [ha, hc] at h
      | some o =>
        simp only [ha, hc] at h
        obtain ⟨v', o', ci, q1, q2, q3, q4, q5, q6⟩ := rslv_at labs js _ h i j (by simpa using hj)
        refine ⟨v', o', ci, q1, by simpa using q2, ?_, q4, ?_, by simpa using q6⟩
        · rw [List.take_succ_cons, rslv]
          simp only [ha, hc]
          exact q3
        · rw [List.take_succ_cons, rslv]
          simp only [ha, hc]
          exact q5
section
variable (b : Bs) (x y z l : Nm) (n k : Int)
theorem labs_rg : (b.rg x).1.labs = b.labs := by unfold Bs.rg; split <;> rfl
theorem labs_set : (b.set x n).labs = b.labs := labs_rg b x
theorem labs_two : (b.two x y).1.labs = b.labs := by unfold Bs.two; rw [labs_rg, labs_rg]
theorem labs_three : (b.three x y z).1.labs = b.labs := by unfold Bs.three; rw [labs_rg, labs_two]
theorem labs_copy : (b.copy x y).labs = b.labs := labs_two b x y
theorem labs_op3 : (b.op3 k x y z).labs = b.labs := labs_three b x y z
theorem labs_jump : (b.jump l).labs = b.labs := rfl
theorem labs_when : (b.when x l).labs = b.labs := labs_rg (b.jmp l) x
theorem labs_unless : (b.unless x l).labs = b.labs := labs_rg (b.jmp l) x
theorem labs_load : (b.load x y n).labs = b.labs := labs_two b x y
theorem labs_store : (b.store x y n).labs = b.labs := labs_two b x y
theorem labs_cas : (b.cas x y n z).labs = b.labs := labs_three b x y z
theorem nmAsk_lab {b : Bs} {l l' : Nm} (h : nmAsk b.labs l = none) (hne : l' ≠ l) : nmAsk (b.lab l').labs l = none := by
  unfold Bs.lab
  dsimp only
  rw [nmAsk_append, h]
  simp [nmAsk, hne]
theorem labs_fold {α : Type} {f : Bs → α → Bs} (h : ∀ b a, (f b a).labs = b.labs) : ∀ (l : List α) (b : Bs), (l.foldl f b).labs = b.labs
  | [], b => rfl
  | a :: l, b => by rw [List.foldl_cons, labs_fold h l, h]
theorem labs_new (xs : List Nm) : (Bs.new xs).labs = [] := labs_fold (f := fun b x => (b.rg x).1) (fun b a => labs_rg b a) xs _
end
end Go.Baro

set_option linter.unusedSimpArgs false
set_option linter.unusedVariables false
namespace Go.Baro
open Go.RowKit
section
variable {P : Program} {t e : TypeId} {z : Value} {s by' : Nat} {ops : Array Oper} {rest : List Oper} {o : Oper} {a : Act} {Q : Exit → Act → World → Prop}

/-- It is the same block as before, or a new one. -/
theorem append_block (E : Elt P t e z s by') (ty : TypeId) {w w' : World} {base n m c : Nat} {v v' : Value} {xs news : List Value} {ad : Addr} (hown : w.ownsRow base e s v n xs) (hl : news.length = m * s)
    (hnews : ∀ j u, news[j]? = some u → w.cell? (ad.add j) = some u) (h1 : ∀ u ∈ news, u.oneCell' = true) (hn : (n + m) * by' ≤ 140737488355328) (hn' : n + m ≤ 140737488355328)
    (hr : (Builtin.append_ #[t, t] ty #[v, .slice (some ad) m c]).run P w = .ok v' w') : v'.ownBlock = v.ownBlock ∨ v'.ownBlock = some w.heap.size := by
  obtain ⟨hu, ⟨i, hi, h5, h6, h7⟩, h3, h4⟩ := E
  subst h6 h7
  rcases hown.2 with ⟨rfl, rfl⟩ | ⟨g, cap, cur, rfl, hbg, hg, hnc, hcm, hcs, htake⟩
  · have hx : xs = [] := List.eq_nil_of_length_eq_zero (by simpa using hown.1)
    subst hx
    by_cases hm : m = 0
    · subst hm
      have hn : news = [] := List.eq_nil_of_length_eq_zero (by simpa using hl)
      subst hn
      simp [Builtin.append_, run_underlying hu, sizeOf, typeInfo, hi, Builtin.lenOf, Builtin.firstCells, loadCells, loadCellsFrom] at hr
      exact .inl (by rw [← hr.1])
    · rw [_root_.Go.run_append_nil (P := P) w t ty e i z hu hi h5 ad m c news hl hnews (by omega) (by omega) (by simp only [Nat.zero_add] at hn; omega)] at hr
      injection hr with hr _
      exact .inr (by rw [← hr]; rfl)
  · by_cases hroom : n + m ≤ cap
    · have hfit : n * i.size + news.length ≤ cur.size := by rw [hl, hcs, ← Nat.add_mul]; exact Nat.mul_le_mul_right _ hroom
      rw [run_append_room (P := P) w t ty e i hu hi g n cap cur hg ad m c news hl hnews h1 hroom hfit] at hr
      injection hr with hr _
      exact .inl (by rw [← hr]; rfl)
    · have holds : ∀ j u, xs[j]? = some u → w.cell? ((⟨g, 0, none⟩ : Addr).add j) = some u := hown.cells (g := g) rfl
      rw [run_append_grow (P := P) w t ty e i z hu hi h5 ⟨g, 0, none⟩ n cap xs hown.1 holds ad m c news hl hnews (by omega) (by omega) (growslice_fits (by omega) hn)] at hr
      injection hr with hr _
      exact .inr (by rw [← hr]; rfl)

/-- append(v, x...) from whatever slice x, and where its row lies. -/
theorem app_srcB (E : Elt P t e z s by') (w : World) (hgd : o.guard = none) (l x : Operand) (ho : o.op = .call { callee := .builtin .append, args := #[l, x], argTypes := #[t, t] })
    (base : Nat) (v : Value) (n : Nat) (xs : List Value) (hs : a.eval l = v) (hown : w.ownsRow base e s v n xs) (A : Option Addr) (m c : Nat) (cs : List Value) (hx : a.eval x = .slice A m c) (B : Nat) (hr : Rd w B s A m cs)
    (h1 : ∀ u ∈ cs, u.oneCell' = true) (hn : (n + m) * by' ≤ 140737488355328) (hn' : n + m ≤ 140737488355328) (hb : base ≤ w.heap.size)
    (h : ∀ v' w', w'.ownsRow base e s v' (n + m) (xs ++ cs) → w.grownBy w' v.ownBlock → (∀ w0, Below base w0 w → Below base w0 w') → base ≤ w'.heap.size → (v'.ownBlock = v.ownBlock ∨ v'.ownBlock = some w.heap.size) → wpList P ops Q rest (a.put o.dst v') w') :
    wpList P ops Q (o :: rest) a w := by
  cases A with
  | none =>
    have hm : m = 0 := by
      rcases Nat.eq_zero_or_pos m with h0 | h0
      · exact h0
      · obtain ⟨b, q, hA, _⟩ := hr.at_ h0; cases hA
    subst hm
    have hc : cs = [] := List.eq_nil_of_length_eq_zero (by simpa using hr.len)
    subst hc
    refine wpList_plain hgd fun K hK => ?_
    unfold Oper.wp
    simp [execOp, ho, resolve, invoke, builtin, hs, hx, run_append_nil E o.type hown c, Result.andThen]
    exact hK _ _ (h v w (by simpa using hown) (World.grownBy.refl w _) (fun _ hb0 => hb0) hb (.inl rfl))
  | some ad =>
    have hnews : ∀ j u, cs[j]? = some u → w.cell? (ad.add j) = some u := by
      intro j u hj
      have hjl : j < m * s := by rw [← hr.len]; exact (List.getElem?_eq_some_iff.1 hj).1
      obtain ⟨b, q, hA, _, hc⟩ := hr.at_ (by rcases Nat.eq_zero_or_pos m with h0 | h0; simp [h0] at hjl; exact h0)
      injection hA with hA
      subst hA
      rw [Addr.add_lit, hc j hjl, hj]
    have E' := E
    obtain ⟨hu, ⟨i, hi, h5, h6, h7⟩, h3, h4⟩ := E
    obtain ⟨v', w', hrun, ho2, hg2, _⟩ := run_append_own (P := P) w base t o.type e i z s by' hu hi h5 h6 h7 h3 h4 v n xs hown ad m c cs hr.len hnews h1 (by unfold maxLen; omega) hn hb
    have hblk := append_block E' o.type hown hr.len hnews h1 hn hn' hrun
    refine wpList_plain hgd fun K hK => ?_
    unfold Oper.wp
    simp [execOp, ho, resolve, invoke, builtin, hs, hx, hrun, Result.andThen]
    refine hK _ _ (h v' w' ho2 hg2 (fun w0 hb0 => hb0.grown hg2 hb (fun k hk => (hown.lt k hk).1)) ?_ hblk)
    have := hg2.size; omega

/-- Two rows of the call's own in two blocks: what is done to the one leaves the other. -/
theorem own_apart {w w' : World} {b1 : Nat} {e1 : TypeId} {s1 n1 : Nat} {v1 v2 : Value} {xs1 : List Value} (h1 : w.ownsRow b1 e1 s1 v1 n1 xs1) (hne : v1.ownBlock = none ∨ v1.ownBlock ≠ v2.ownBlock)
    (hg : w.grownBy w' v2.ownBlock) : w'.ownsRow b1 e1 s1 v1 n1 xs1 := h1.kept hg hne
/-- They stay in two blocks. -/
theorem apart_next {w : World} {b1 : Nat} {e1 : TypeId} {s1 n1 : Nat} {v1 v2 v2' : Value} {xs1 : List Value} (h1 : w.ownsRow b1 e1 s1 v1 n1 xs1) (hne : v1.ownBlock = none ∨ v1.ownBlock ≠ v2.ownBlock)
    (hb : v2'.ownBlock = v2.ownBlock ∨ v2'.ownBlock = some w.heap.size) : v1.ownBlock = none ∨ v1.ownBlock ≠ v2'.ownBlock := by
  rcases hb with hb | hb
  · rw [hb]; exact hne
  · rw [hb]
    refine .inr fun he => ?_
    have := (h1.lt _ he).2
    omega
end
end Go.Baro

set_option linter.unusedSimpArgs false
set_option linter.unusedVariables false
namespace Go.Baro
open Go.RowKit

/-- A value that is a slice of these bytes. -/
def SL (w : World) (B : Nat) (v : Value) (l : List Int) : Prop := ∃ A n c, v = .slice A n c ∧ n ≤ c ∧ RI w B .u8 A n l
/-- A slice of slices of bytes. -/
def RL (w : World) (B : Nat) (A : Option Addr) (n : Nat) (ls : List (List Int)) : Prop :=
  ∃ cs : List Value, Rd w B 1 A n cs ∧ cs.length = ls.length ∧ ∀ (i : Nat) v l, cs[i]? = some v → ls[i]? = some l → SL w B v l

section
variable {w w' : World} {B B' n : Nat} {A : Option Addr} {ls : List (List Int)}
theorem SL.below {v : Value} {l : List Int} (h : SL w B v l) (hb : Below B w w') : SL w' B v l := by
  obtain ⟨A, n, c, e, hc, hr⟩ := h
  exact ⟨A, n, c, e, hc, hr.below hb⟩
theorem SL.heap {v : Value} {l : List Int} (h : SL w B v l) (hh : w'.heap = w.heap) : SL w' B v l := by
  obtain ⟨A, n, c, e, hc, hr⟩ := h
  exact ⟨A, n, c, e, hc, hr.heap hh⟩
theorem SL.more {v : Value} {l : List Int} (h : SL w B v l) (hB : B ≤ B') : SL w B' v l := by
  obtain ⟨A, n, c, e, hc, hr⟩ := h
  exact ⟨A, n, c, e, hc, hr.more hB⟩
theorem RL.len (h : RL w B A n ls) : ls.length = n := by
  obtain ⟨cs, hr, hl, _⟩ := h
  have := hr.len
  omega
theorem RL.below (h : RL w B A n ls) (hb : Below B w w') : RL w' B A n ls := by
  obtain ⟨cs, hr, hl, hs⟩ := h
  exact ⟨cs, hr.below hb, hl, fun i v l h1 h2 => (hs i v l h1 h2).below hb⟩
theorem RL.heap (h : RL w B A n ls) (hh : w'.heap = w.heap) : RL w' B A n ls := by
  obtain ⟨cs, hr, hl, hs⟩ := h
  exact ⟨cs, hr.heap hh, hl, fun i v l h1 h2 => (hs i v l h1 h2).heap hh⟩
theorem RL.more (h : RL w B A n ls) (hB : B ≤ B') : RL w B' A n ls := by
  obtain ⟨cs, hr, hl, hs⟩ := h
  exact ⟨cs, hr.more hB, hl, fun i v l h1 h2 => (hs i v l h1 h2).more hB⟩
theorem RL.val (h : RL w B A n ls) {i : Nat} (hi : i < n) : ∃ b o A' n' c' l, A = some ⟨b, o, none⟩ ∧ b < B ∧ w.cell? ⟨b, o + i, none⟩ = some (.slice A' n' c') ∧ n' ≤ c' ∧ RI w B .u8 A' n' l ∧ Hid (ls[i]? = some l) ∧ l ∈ ls := by
  obtain ⟨cs, hr, hl, hs⟩ := h
  obtain ⟨b, o, hA, hb, hc⟩ := hr.at_ (by omega)
  have h1 := hr.len
  have hi1 : i < cs.length := by omega
  have hi2 : i < ls.length := by omega
  obtain ⟨A', n', c', e, hc', hr'⟩ := hs i cs[i] ls[i] (List.getElem?_eq_getElem hi1) (List.getElem?_eq_getElem hi2)
  refine ⟨b, o, A', n', c', ls[i], hA, hb, ?_, hc', hr', List.getElem?_eq_getElem hi2, List.getElem_mem hi2⟩
  rw [hc i (by omega), List.getElem?_eq_getElem hi1, e]
theorem RL.nil (w : World) (B : Nat) (A : Option Addr) : RL w B A 0 [] := ⟨[], Rd.nil w B 1 A, rfl, fun i v l h => by simp at h⟩
theorem RL.take (h : RL w B A n ls) {m : Nat} (hm : m ≤ n) : RL w B A m (ls.take m) := by
  obtain ⟨cs, hr, hl, hs⟩ := h
  have h1 := hr.len
  refine ⟨cs.take (m * 1), hr.take hm, by simp; omega, fun i v l h2 h3 => hs i v l ?_ ?_⟩
  · rw [List.getElem?_take] at h2; split at h2; exact h2; cases h2
  · rw [List.getElem?_take] at h3; split at h3; exact h3; cases h3
end

/-- A list of bytes of the call's own, not in block x. -/
def OB (T : TypeId) (w : World) (base : Nat) (x : Option Nat) (v : Value) (l : List Int) : Prop :=
  ∃ n, w.ownsRow base T 1 v n (l.map (Value.int .u8)) ∧ (v.ownBlock = none ∨ v.ownBlock ≠ x)
def OBs (T : TypeId) (w : World) (base : Nat) (x : Option Nat) (cs : List Value) (ls : List (List Int)) : Prop :=
  cs.length = ls.length ∧ ∀ (i : Nat) v l, cs[i]? = some v → ls[i]? = some l → OB T w base x v l
section
variable {T U : TypeId} {w w' : World} {base base' : Nat} {x x' : Option Nat} {v : Value} {l : List Int} {cs : List Value} {ls : List (List Int)}
theorem OB.mk {n : Nat} (h : w.ownsRow base T 1 v n (l.map (Value.int .u8))) (hx : v.ownBlock = none ∨ v.ownBlock ≠ x) : OB T w base x v l := ⟨n, h, hx⟩
theorem OB.mk0 {n : Nat} (h : w.ownsRow base T 1 v n (l.map (Value.int .u8))) : OB T w base none v l := ⟨n, h, by cases v.ownBlock <;> simp⟩
theorem OB.below (h : OB T w base x v l) (hb : Below w.heap.size w w') : OB T w' base x v l := by
  obtain ⟨n, h1, h2⟩ := h
  exact ⟨n, own_below h1 hb, h2⟩
theorem OB.low (h : OB T w base x v l) (hb : base' ≤ base) : OB T w base' x v l := by
  obtain ⟨n, h1, h2⟩ := h
  exact ⟨n, own_more h1 hb, h2⟩
theorem OB.other {s n : Nat} {v2 : Value} {xs : List Value} (h : OB T w base x v l) (h2 : w.ownsRow base' U s v2 n xs) (hne : T ≠ U) (hg : w.grownBy w' v2.ownBlock) : OB T w' base x v l := by
  obtain ⟨n, h1, hx⟩ := h
  exact ⟨n, own_keep h1 h2 hne hg, hx⟩
theorem OB.kept (h : OB T w base x v l) (hg : w.grownBy w' x) : OB T w' base x v l := by
  obtain ⟨n, h1, hx⟩ := h
  exact ⟨n, h1.kept hg hx, hx⟩
theorem OB.block (h : OB T w base x v l) (hb : x' = x ∨ x' = some w.heap.size) : OB T w base x' v l := by
  obtain ⟨n, h1, hx⟩ := h
  refine ⟨n, h1, ?_⟩
  rcases hb with rfl | rfl
  · exact hx
  · refine .inr fun he => ?_
    have := (h1.lt _ he).2
    omega
theorem OB.sl (h : OB T w base x v l) : SL w w.heap.size v l := by
  obtain ⟨n, h1, hx⟩ := h
  obtain ⟨A, c, rfl, hc⟩ := own_form h1
  exact ⟨A, n, c, rfl, hc, Rd.of_own h1⟩
theorem OBs.nil (T : TypeId) (w : World) (base : Nat) (x : Option Nat) : OBs T w base x [] [] := ⟨rfl, fun i v l h => by simp at h⟩
theorem OBs.snoc (h : OBs T w base x cs ls) (h1 : OB T w base x v l) : OBs T w base x (cs ++ [v]) (ls ++ [l]) := by
  refine ⟨by simp [h.1], fun i v' l' hv hl => ?_⟩
  rw [List.getElem?_append] at hv hl
  split at hv
  · rename_i hi
    rw [if_pos (by rw [← h.1]; exact hi)] at hl
    exact h.2 i v' l' hv hl
  · rename_i hi
    rw [if_neg (by rw [← h.1]; exact hi), ← h.1] at hl
    rcases Nat.eq_zero_or_pos (i - cs.length) with h0 | h0
    · rw [h0] at hv hl
      simp at hv hl
      rw [← hv, ← hl]; exact h1
    · rw [List.getElem?_eq_none (by simp; omega)] at hv; cases hv
theorem OBs.below (h : OBs T w base x cs ls) (hb : Below w.heap.size w w') : OBs T w' base x cs ls := ⟨h.1, fun i v l h1 h2 => (h.2 i v l h1 h2).below hb⟩
theorem OBs.low (h : OBs T w base x cs ls) (hb : base' ≤ base) : OBs T w base' x cs ls := ⟨h.1, fun i v l h1 h2 => (h.2 i v l h1 h2).low hb⟩
theorem OBs.other {s n : Nat} {v2 : Value} {xs : List Value} (h : OBs T w base x cs ls) (h2 : w.ownsRow base' U s v2 n xs) (hne : T ≠ U) (hg : w.grownBy w' v2.ownBlock) : OBs T w' base x cs ls :=
  ⟨h.1, fun i v l h1 h3 => (h.2 i v l h1 h3).other h2 hne hg⟩
theorem OBs.kept (h : OBs T w base x cs ls) (hg : w.grownBy w' x) : OBs T w' base x cs ls := ⟨h.1, fun i v l h1 h2 => (h.2 i v l h1 h2).kept hg⟩
theorem OBs.block (h : OBs T w base x cs ls) (hb : x' = x ∨ x' = some w.heap.size) : OBs T w base x' cs ls := ⟨h.1, fun i v l h1 h2 => (h.2 i v l h1 h2).block hb⟩
theorem OB.grow (h : OB T w base x v l) (hg : w.grownBy w' x) (hb : x' = x ∨ x' = some w.heap.size) : OB T w' base x' v l := by
  obtain ⟨n, h1, hx⟩ := h
  obtain ⟨_, _, hx'⟩ := OB.block ⟨n, h1, hx⟩ hb
  exact ⟨n, h1.kept hg hx, hx'⟩
theorem OBs.grow (h : OBs T w base x cs ls) (hg : w.grownBy w' x) (hb : x' = x ∨ x' = some w.heap.size) : OBs T w' base x' cs ls := ⟨h.1, fun i v l h1 h2 => (h.2 i v l h1 h2).grow hg hb⟩
theorem OBs.rl {n : Nat} {A : Option Addr} {c : Nat} (h : OBs T w base x cs ls) (ho : w.ownsRow base' U 1 (.slice A n c) n cs) : RL w w.heap.size A n ls :=
  ⟨cs, Rd.of_own ho, h.1, fun i v l h1 h2 => (h.2 i v l h1 h2).sl⟩
end
section
variable {P : Program} {t e : TypeId} {z : Value} {s by' : Nat} {ops : Array Oper} {rest : List Oper} {o : Oper} {a : Act} {Q : Exit → Act → World → Prop}
/-- make([]T, 0, n) -/
theorem make_room (E : Elt P t e z s by') (w : World) (hgd : o.guard = none) (l c : Operand) (ho : o.op = Op.makeSlice t l c) (base : Nat) (kl kc : IntKind) (C : Int) (n : Nat)
    (hl : a.eval l = .int kl 0) (hc : a.eval c = .int kc C) (hC : C = n) (hn : by' * n ≤ 140737488355328) (hn' : n ≤ 140737488355328) (hb : base ≤ w.heap.size)
    (h : ∀ w', w'.ownsRow base e s (.slice (some ⟨w.heap.size, 0, none⟩) 0 n) 0 [] → (∀ w0, Below base w0 w → Below base w0 w') → base ≤ w'.heap.size → w.grownBy w' none →
      wpList P ops Q rest (a.put o.dst (.slice (some ⟨w.heap.size, 0, none⟩) 0 n)) w') : wpList P ops Q (o :: rest) a w := by
  obtain ⟨hu, ⟨i, hi, h5, h6, h7⟩, h3, h4⟩ := E
  refine wpList_make_own w hgd l c t ho base e i z s hu hi h5 h6 kl kc C n hl hc hC (by rw [h7]; omega) (by unfold maxLen; omega) hb ?_
  intro w' ho hg
  refine h w' ho (fun w0 hb0 => hb0.grown hg hb (fun k hk => by cases hk)) ?_ hg
  have := hg.size; omega
end
/-- A row that was written out just now. -/
theorem own_new {w : World} {base : Nat} {e : TypeId} {s m : Nat} (cs : List Value) (g : Nat) (hg : g = w.heap.size) (hl : cs.length = m * s) (hb : base ≤ w.heap.size) (hm : m ≤ 140737488355328) :
    (w.alloc (.cells cs.toArray e)).ownsRow base e s (.slice (some ⟨g, 0, none⟩) m m) m cs := by
  subst hg
  refine ⟨hl, .inr ⟨w.heap.size, m, cs.toArray, rfl, hb, heap_alloc_new w _, Nat.le_refl _, by unfold maxLen; omega, by simpa using hl, ?_⟩⟩
  rw [List.take_of_length_le (by simp; omega)]
/-- A row made later lies in another block. -/
theorem own_later {w w0 : World} {b b0 : Nat} {e e0 : TypeId} {s s0 n n0 : Nat} {v v0 : Value} {xs xs0 : List Value} (h : w.ownsRow b e s v n xs) (h0 : w0.ownsRow b0 e0 s0 v0 n0 xs0) (hb : w0.heap.size ≤ b) : v.ownBlock = none ∨ v.ownBlock ≠ v0.ownBlock := by
  cases hv : v.ownBlock with
  | none => exact .inl rfl
  | some k =>
    refine .inr fun he => ?_
    have h1 := (h.lt k hv).1
    have h2 := (h0.lt k he.symm).2
    omega
theorem oneS (A : Option Addr) (n c : Nat) : ∀ u ∈ [Value.slice A n c], u.oneCell' = true := by
  intro u hu; simp only [List.mem_singleton] at hu; subst hu; rfl
theorem below_alloc {w : World} (o : Obj) : Below w.heap.size w (w.alloc o) := (Below.refl _ _).alloc (Nat.le_refl _) _
end Go.Baro
