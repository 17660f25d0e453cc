/- The document's workers of all threads in memory. No statement of the seat is proved here; no condition. -/
import Derived.Test.YtjihopbapnfppaaDoorRefOneP
import Derived.Test.YtjihopbapnfppaaDoorLibE
import Derived.Test.YtjihopbapnfppaaDoorRunPure4
set_option linter.unusedSimpArgs false
set_option linter.unusedVariables false
namespace Go.Proofs.YtjihopbapnfppaaDoor
open Go.RowKit Go.Ord Go.Baro Go.Maps

def pV : Option Nat → Value
  | none => .pointer none
  | some b => .pointer (some ⟨b, 0, none⟩)
def putP (f : Nat → Option Nat) (n : Nat) (v : Option Nat) : Nat → Option Nat := fun i => if i = n then v else f i
theorem four_at {α : Type} (f : Nat → α) {n : Nat} (hn : n < 4) : [f 0, f 1, f 2, f 3][n]? = some (f n) := by
  rcases (by omega : n = 0 ∨ n = 1 ∨ n = 2 ∨ n = 3) with rfl | rfl | rfl | rfl <;> rfl
theorem four_set {α : Type} (f f' : Nat → α) {n : Nat} {v : α} (hn : n < 4) (h1 : f' n = v) (h2 : ∀ i, i ≠ n → f' i = f i) : [f 0, f 1, f 2, f 3].set n v = [f' 0, f' 1, f' 2, f' 3] := by
  rcases (by omega : n = 0 ∨ n = 1 ∨ n = 2 ∨ n = 3) with rfl | rfl | rfl | rfl <;> simp [h1, h2]

/-- Worker i, in block b: own tells of each block whose it is (10 + 3 i the worker, 11 + 3 i its registers, 12 + 3 i what it has told). -/
def Wt (own : Nat → Nat) (w : World) (B i b N : Nat) (l : Lv) : Prop := ∃ mb cA cc tv ov, Box w b 78 [.slice cA l.c.length cc, .map (some mb), .int .i64 l.p, tv, .int .i64 0, .bool ov] ∧ (ov = true ↔ l.c.length = 0) ∧ MI w mb N l.r ∧
  w.ownsRow B 3 1 tv l.t.length (l.t.map (Value.int .i64)) ∧ RO w B cA l.c.length l.c ∧ own b = 10 + 3 * i ∧ own mb = 11 + 3 * i ∧ (∀ k, tv.ownBlock = some k → own k = 12 + 3 * i) ∧ B ≤ b ∧ B ≤ mb
def Wn (own : Nat → Nat) (w : World) (B i N : Nat) : Option Lv → Option Nat → Prop
  | none, none => True
  | some l, some b => Wt own w B i b N l
  | _, _ => False
/-- All of it: the words (1), the array of workers (2), the counts (3), the events (4; 5: what they tell); of worker x nothing is said. -/
structure Pl (own : Nat → Nat) (w : World) (B nb gb : Nat) (wv ov : Value) (ps : Nat → Option Nat) (N x : Nat) (g : Gs) : Prop where
  words : w.ownsRow B 3 1 wv g.w.length (g.w.map (Value.int .i64))
  tw : ∀ k, wv.ownBlock = some k → own k = 1
  now : Box w nb 89 [pV (ps 0), pV (ps 1), pV (ps 2), pV (ps 3)]
  tn : own nb = 2
  begun : Box w gb 90 [.int .i64 (g.th 0).bg, .int .i64 (g.th 1).bg, .int .i64 (g.th 2).bg, .int .i64 (g.th 3).bg]
  tg : own gb = 3
  evs : Er (fun b => own b = 5) w B 51 ov g.out
  to : ∀ k, ov.ownBlock = some k → own k = 4
  th : ∀ i, i < 4 → i ≠ x → Wn own w B i N (g.th i).now (ps i)
  Bn : B ≤ nb
  Bg : B ≤ gb
section
variable {own own' : Nat → Nat} {w w' : World} {B nb gb i b N N' x n : Nat} {wv ov : Value} {ps : Nat → Option Nat} {g : Gs} {l : Lv} {X : Nat → Prop} {p : Option Nat} {t : Option Lv}
theorem MI.un {mb : Nat} {r : Int → Int} (h : MI w mb N r) (hu : Un X w w') (hX : ¬ X mb) : MI w' mb N r := by
  have hlt := h.lt
  obtain ⟨D, ⟨es, ck, hh, h1⟩, h2⟩ := h
  exact ⟨D, ⟨es, ck, (hu.block mb hlt hX).trans hh, h1⟩, h2⟩
theorem own_lt {e : TypeId} {s m k : Nat} {v : Value} {xs : List Value} (h : w.ownsRow B e s v m xs) (hk : v.ownBlock = some k) : k < w.heap.size := (h.lt k hk).2
theorem Wt.un (h : Wt own w B i b N l) (hu : Un X w w') (hX : ∀ k, k < w.heap.size → X k → own k ≠ 10 + 3 * i ∧ own k ≠ 11 + 3 * i ∧ own k ≠ 12 + 3 * i ∧ B ≤ k) (hB : B ≤ w.heap.size) (hN : N ≤ N') : Wt own w' B i b N' l := by
  obtain ⟨mb, cA, cc, tv, ov, h1, h2, h3, h4, h5, h6, h7, h8, h9, h10⟩ := h
  refine ⟨mb, cA, cc, tv, ov, h1.un hu fun hx => (hX b h1.lt hx).1 h6, h2, (h3.un hu fun hx => (hX mb h3.lt hx).2.1 h7).mono hN, own_un h4 hu fun k hk hx => (hX k (own_lt h4 hk) hx).2.2.1 (h8 k hk), h5.below (hu.below hB fun k hk hx => ?_), h6, h7, h8, h9, h10⟩
  have := (hX k (by omega) hx).2.2.2
  omega
theorem Wn.un (h : Wn own w B i N t p) (hu : Un X w w') (hX : ∀ k, k < w.heap.size → X k → own k ≠ 10 + 3 * i ∧ own k ≠ 11 + 3 * i ∧ own k ≠ 12 + 3 * i ∧ B ≤ k) (hB : B ≤ w.heap.size) (hN : N ≤ N') : Wn own w' B i N' t p := by
  match t, p, h with
  | none, none, _ => trivial
  | some l, some b, h => exact Wt.un h hu hX hB hN
theorem Wt.retag (h : Wt own w B i b N l) (he : ∀ k, k < w.heap.size → (own k = 10 + 3 * i ∨ own k = 11 + 3 * i ∨ own k = 12 + 3 * i) → own' k = own k) : Wt own' w B i b N l := by
  obtain ⟨mb, cA, cc, tv, ov, h1, h2, h3, h4, h5, h6, h7, h8, h9, h10⟩ := h
  exact ⟨mb, cA, cc, tv, ov, h1, h2, h3, h4, h5, (he b h1.lt (.inl h6)).trans h6, (he mb h3.lt (.inr (.inl h7))).trans h7, fun k hk => (he k (own_lt h4 hk) (.inr (.inr (h8 k hk)))).trans (h8 k hk), h9, h10⟩
theorem Wn.retag (h : Wn own w B i N t p) (he : ∀ k, k < w.heap.size → (own k = 10 + 3 * i ∨ own k = 11 + 3 * i ∨ own k = 12 + 3 * i) → own' k = own k) : Wn own' w B i N t p := by
  match t, p, h with
  | none, none, _ => trivial
  | some l, some b, h => exact Wt.retag h he
theorem Pl.lt (h : Pl own w B nb gb wv ov ps N x g) : nb < w.heap.size ∧ gb < w.heap.size := ⟨h.now.lt, h.begun.lt⟩
theorem Pl.hB (h : Pl own w B nb gb wv ov ps N x g) : B ≤ w.heap.size := by have := h.lt; have := h.Bn; omega
/-- Nothing of it has turned. -/
theorem Pl.un (h : Pl own w B nb gb wv ov ps N x g) (hu : Un X w w') (hX : ∀ k, k < w.heap.size → X k → own k = 0 ∧ B ≤ k) : Pl own w' B nb gb wv ov ps N x g := by
  have hB := h.hB
  refine ⟨own_un h.words hu fun k hk hx => ?_, h.tw, h.now.un hu fun hx => ?_, h.tn, h.begun.un hu fun hx => ?_, h.tg, ?_, h.to, fun i hi hx => (h.th i hi hx).un hu (fun k hk hx => ?_) hB (Nat.le_refl _), h.Bn, h.Bg⟩
  · have := (hX k (own_lt h.words hk) hx).1; have := h.tw k hk; omega
  · have := (hX nb h.lt.1 hx).1; have := h.tn; omega
  · have := (hX gb h.lt.2 hx).1; have := h.tg; omega
  · obtain ⟨rows, h1, h2, h3, h4⟩ := h.evs
    refine Er.un (X := fun k => X k ∧ k < w.heap.size) ⟨rows, h1, h2, h3, h4⟩ ⟨hu.os, hu.tape, hu.output, hu.size, fun k hk hx => hu.block k hk fun h => hx ⟨h, hk⟩⟩ (fun k hk hx => ?_) (fun k hk hx => ?_)
    · have := (hX k hx.2 hx.1).1; have := h.to k hk; omega
    · have := (hX k hx.2 hx.1).1; omega
  · have := hX k hk hx; omega
theorem Pl.below (h : Pl own w B nb gb wv ov ps N x g) (hb : Below w.heap.size w w') : Pl own w' B nb gb wv ov ps N x g := h.un (X := fun _ => False) (un_below hb) (fun _ _ h => h.elim)
theorem Pl.drew (h : Pl own w B nb gb wv ov ps N x g) : Pl own w.drew B nb gb wv ov ps N x g := h.below (Below.refl _ _).drew
theorem Pl.alloc (h : Pl own w B nb gb wv ov ps N x g) (o : Obj) : Pl own (w.alloc o) B nb gb wv ov ps N x g := h.un (X := fun _ => False) ((Un.refl _ _).alloc o) (fun _ _ h => h.elim)
theorem Pl.retag (h : Pl own w B nb gb wv ov ps N x g) (he : ∀ k, k < w.heap.size → own' k = own k) : Pl own' w B nb gb wv ov ps N x g :=
  ⟨h.words, fun k hk => (he k (own_lt h.words hk)).trans (h.tw k hk), h.now, (he nb h.lt.1).trans h.tn, h.begun, (he gb h.lt.2).trans h.tg, h.evs.mono (fun b hb h5 => (he b hb).trans h5), fun k hk => by
    obtain ⟨rows, h1, h2, h3, h4⟩ := h.evs
    exact (he k (own_lt h3 hk)).trans (h.to k hk), fun i hi hx => (h.th i hi hx).retag fun k hk _ => he k hk, h.Bn, h.Bg⟩
/-- The words of an ended call are an event's. -/
theorem Pl.retag5 (h : Pl own w B nb gb wv ov ps N n g) (hn : n < 4) : Pl (fun k => if own k = 12 + 3 * n then 5 else own k) w B nb gb wv ov ps N n g := by
  refine ⟨h.words, fun k hk => ?_, h.now, ?_, h.begun, ?_, h.evs.mono fun b hb h5 => ?_, fun k hk => ?_, fun i hi hx => (h.th i hi hx).retag fun k hk hq => ?_, h.Bn, h.Bg⟩
  · have := h.tw k hk; rw [if_neg (by omega)]; exact this
  · have := h.tn; rw [if_neg (by omega)]; exact this
  · have := h.tg; rw [if_neg (by omega)]; exact this
  · rw [if_neg (by omega)]; exact h5
  · have := h.to k hk; rw [if_neg (by omega)]; exact this
  · rw [if_neg (by omega)]
/-- What a worker's instruction leaves of all the others. -/
theorem Pl.one (h : Pl own w B nb gb wv ov ps N x g) (hn : n < 4) {mb : Nat} {tv : Value} {W : List Int} (hu : Un (touch b mb tv wv) w w') (hb : own b = 10 + 3 * n) (hm : own mb = 11 + 3 * n) (ht : ∀ k, tv.ownBlock = some k → own k = 12 + 3 * n) (hBb : B ≤ b) (hBm : B ≤ mb)
    (htB : ∀ k, tv.ownBlock = some k → B ≤ k) (hw : w'.ownsRow B 3 1 wv W.length (W.map (Value.int .i64))) (hN : N ≤ N') (hx : ∀ i, i < 4 → i ≠ n → i ≠ x) : Pl own w' B nb gb wv ov ps N' n { g with w := W } := by
  have hB := h.hB
  have hT : ∀ k, touch b mb tv wv k → (own k = 10 + 3 * n ∨ own k = 11 + 3 * n ∨ own k = 12 + 3 * n ∨ own k = 1) ∧ B ≤ k := by
    intro k hk
    rcases hk with rfl | rfl | hk | hk
    · exact ⟨.inl hb, hBb⟩
    · exact ⟨.inr (.inl hm), hBm⟩
    · exact ⟨.inr (.inr (.inl (ht k hk.symm))), htB k hk.symm⟩
    · exact ⟨.inr (.inr (.inr (h.tw k hk.symm))), (h.words.lt k hk.symm).1⟩
  refine ⟨hw, h.tw, h.now.un hu fun hx => ?_, h.tn, h.begun.un hu fun hx => ?_, h.tg, h.evs.un hu (fun k hk hx => ?_) (fun k hk hx => ?_), h.to, fun i hi hin => (h.th i hi (hx i hi hin)).un hu (fun k hk hx => ?_) hB hN, h.Bn, h.Bg⟩
  · have := (hT nb hx).1; have := h.tn; omega
  · have := (hT gb hx).1; have := h.tg; omega
  · have := (hT k hx).1; have := h.to k hk; omega
  · have := (hT k hx).1; omega
  · have := hT k hx; omega
/-- The array of workers is written. -/
theorem Pl.setNow (h : Pl own w B nb gb wv ov ps N n g) (hn : n < 4) (v : Option Nat) : Pl own (w.setCell ⟨nb, n, none⟩ (pV v)) B nb gb wv ov (putP ps n v) N n g := by
  have hB := h.hB
  have hu : Un (fun k => k = nb) w (w.setCell ⟨nb, n, none⟩ (pV v)) := un_at (X := fun k => k = nb) (Un.refl _ _) rfl _ _
  have e : ∀ k, k = nb → own k = 2 ∧ B ≤ k := fun k hk => by subst hk; exact ⟨h.tn, h.Bn⟩
  refine ⟨own_un h.words hu fun k hk hx => ?_, h.tw, ?_, h.tn, h.begun.un hu fun hx => ?_, h.tg, h.evs.un hu (fun k hk hx => ?_) (fun k hk hx => ?_), h.to, fun i hi hin => ?_, h.Bn, h.Bg⟩
  · have := (e k hx).1; have := h.tw k hk; omega
  · have := h.now.set n (pV v)
    rw [four_set (fun i => pV (ps i)) (fun i => pV (putP ps n v i)) hn (by simp [putP]) (fun i hi => by simp [putP, hi])] at this
    exact this
  · have := (e gb hx).1; have := h.tg; omega
  · have := (e k hx).1; have := h.to k hk; omega
  · have := (e k hx).1; omega
  · have := (h.th i hi hin).un hu (fun k hk hx => by have := e k hx; omega) hB (Nat.le_refl _)
    rw [show putP ps n v i = ps i by simp [putP, hin]]
    exact this
/-- A count is written. -/
theorem Pl.setBegun (h : Pl own w B nb gb wv ov ps N x g) (hn : n < 4) (k : Nat) {q : Int} (hq : q = k) : Pl own (w.setCell ⟨gb, n, none⟩ (.int .i64 q)) B nb gb wv ov ps N x { g with th := putT g.th n ⟨(g.th n).now, k⟩ } := by
  subst hq
  have hB := h.hB
  have hu : Un (fun k => k = gb) w (w.setCell ⟨gb, n, none⟩ (.int .i64 k)) := un_at (X := fun k => k = gb) (Un.refl _ _) rfl _ _
  have e : ∀ k, k = gb → own k = 3 ∧ B ≤ k := fun k hk => by subst hk; exact ⟨h.tg, h.Bg⟩
  refine ⟨own_un h.words hu fun k hk hx => ?_, h.tw, h.now.un hu fun hx => ?_, h.tn, ?_, h.tg, h.evs.un hu (fun k hk hx => ?_) (fun k hk hx => ?_), h.to, fun i hi hin => ?_, h.Bn, h.Bg⟩
  · have := (e k hx).1; have := h.tw k hk; omega
  · have := (e nb hx).1; have := h.tn; omega
  · have := h.begun.set n (.int .i64 k)
    rw [four_set (fun i => Value.int .i64 (g.th i).bg) (fun i => Value.int .i64 ((putT g.th n ⟨(g.th n).now, k⟩ i).bg : Int)) hn (by simp [putT]) (fun i hi => by simp [putT, hi])] at this
    exact this
  · have := (e k hx).1; have := h.to k hk; omega
  · have := (e k hx).1; omega
  · have := (h.th i hi hin).un hu (fun k hk hx => by have := e k hx; omega) hB (Nat.le_refl _)
    rw [show (putT g.th n ⟨(g.th n).now, k⟩ i).now = (g.th i).now by by_cases hi : i = n <;> simp [putT, hi]]
    exact this
/-- An event is added. -/
theorem Pl.event (h : Pl own w B nb gb wv ov ps N x g) {rows : List (List Value)} {r : List Value} {y : Ev} {v' : Value} {o : Obj} {k : Nat} (h1 : rows.length = g.out.length) (h2 : ∀ r ∈ rows, r.length = 6) (h3 : w.ownsRow B 51 6 ov g.out.length rows.flatten)
    (h4 : ∀ (i : Nat) r x, rows[i]? = some r → g.out[i]? = some x → eP (fun b => own b = 5) w r x) (ho : w'.ownsRow B 51 6 v' k (rows.flatten ++ r)) (hk : k = g.out.length + 1) (hg : (w.alloc o).grownBy w' ov.ownBlock) (hb : v'.ownBlock = ov.ownBlock ∨ v'.ownBlock = some (w.heap.size + 1)) (hr : eP (fun b => own b = 5) w r y) :
    Pl (fun k => if k < w.heap.size then own k else 4) w' B nb gb wv v' ps N x { g with out := g.out ++ [y] } := by
  have hB := h.hB
  have hre : ∀ k, k < w.heap.size → (fun k => if k < w.heap.size then own k else 4) k = own k := fun k hk => by show (if k < w.heap.size then own k else 4) = own k; rw [if_pos hk]
  have hu : Un (fun k => some k = ov.ownBlock) w w' := un_grown ((Un.refl _ w).alloc o) hg (fun k hk => hk.symm)
  have e : ∀ k, some k = ov.ownBlock → own k = 4 ∧ B ≤ k := fun k hk => ⟨h.to k hk.symm, (h3.lt k hk.symm).1⟩
  have h' := h.retag hre
  have e' : ∀ k, k < w.heap.size → some k = ov.ownBlock → (if k < w.heap.size then own k else 4) = 4 ∧ B ≤ k := fun k hk hx => ⟨(hre k hk).trans (e k hx).1, (e k hx).2⟩
  refine ⟨own_un h'.words hu fun k hk hx => ?_, h'.tw, h'.now.un hu fun hx => ?_, h'.tn, h'.begun.un hu fun hx => ?_, h'.tg, ?_, fun k hk => ?_, fun i hi hin => (h'.th i hi hin).un hu (fun k hk hx => ?_) hB (Nat.le_refl _), h.Bn, h.Bg⟩
  · have := (e k hx).1; have := h.tw k hk; omega
  · have := (e nb hx).1; have := h.tn; omega
  · have := (e gb hx).1; have := h.tg; omega
  · have hE : Er (fun b => own b = 5 ∧ b < w.heap.size) w' B 51 v' (g.out ++ [y]) := by
      have hm : ∀ (r : List Value) (x : Ev), eP (fun b => own b = 5) w r x → eP (fun b => own b = 5 ∧ b < w.heap.size) w r x := by
        rintro r x ⟨A, n, k, q1, q2, q3, q4, q5⟩
        refine ⟨A, n, k, q1, q2, q3, q4, fun h0 b o hA => ⟨q5 h0 b o hA, ?_⟩⟩
        obtain ⟨b', o', hA', hb', _⟩ := Rd.at_ q4 h0
        rw [hA] at hA'
        injection hA' with hA'
        injection hA' with hA' _
        omega
      exact er_snoc h1 h2 (fun i r x hr hx => hm r x (h4 i r x hr hx)) ho hk hu (fun b hb hx => by have := (e b hx).1; omega) (hm _ _ hr)
    exact hE.mono fun b _ hb5 => by rw [if_pos hb5.2]; exact hb5.1
  · rcases hb with hb | hb
    · exact h'.to k (hb ▸ hk)
    · rw [hb] at hk
      injection hk with hk
      rw [if_neg (by omega)]
  · have := e' k hk hx; omega
/-- A worker is there again. -/
theorem Pl.back (h : Pl own w B nb gb wv ov ps N n g) (hp : ps n = p) (hw : Wn own w B n N t p) : Pl own w B nb gb wv ov ps N 4 { g with th := putT g.th n ⟨t, (g.th n).bg⟩ } := by
  have e : ∀ i, (putT g.th n ⟨t, (g.th n).bg⟩ i).bg = (g.th i).bg := fun i => by by_cases hi : i = n <;> simp [putT, hi]
  refine ⟨h.words, h.tw, h.now, h.tn, ?_, h.tg, h.evs, h.to, fun i hi hx => ?_, h.Bn, h.Bg⟩
  · rw [e, e, e, e]; exact h.begun
  · by_cases hin : i = n
    · subst hin
      rw [hp, show (putT g.th i ⟨t, (g.th i).bg⟩ i).now = t by simp [putT]]
      exact hw
    · rw [show (putT g.th n ⟨t, (g.th n).bg⟩ i).now = (g.th i).now by simp [putT, hin]]
      exact h.th i hi hin
theorem Pl.out_ (h : Pl own w B nb gb wv ov ps N 4 g) (n : Nat) : Pl own w B nb gb wv ov ps N n g := ⟨h.words, h.tw, h.now, h.tn, h.begun, h.tg, h.evs, h.to, fun i hi hx => h.th i hi (by omega), h.Bn, h.Bg⟩
theorem Pl.nowAt (h : Pl own w B nb gb wv ov ps N x g) (hn : n < 4) : w.cell? ⟨nb, n, none⟩ = some (pV (ps n)) := by
  have := h.now.cell n
  rw [four_at (fun i => pV (ps i)) hn] at this
  exact this
theorem Pl.begunAt (h : Pl own w B nb gb wv ov ps N x g) (hn : n < 4) : w.cell? ⟨gb, n, none⟩ = some (.int .i64 (g.th n).bg) := by
  have := h.begun.cell n
  rw [four_at (fun i => Value.int .i64 (g.th i).bg) hn] at this
  exact this
theorem Wt.mono (h : Wt own w B i b N l) (hN : N ≤ N') : Wt own w B i b N' l := by
  obtain ⟨mb, cA, cc, tv, ov, h1, h2, h3, h4⟩ := h
  exact ⟨mb, cA, cc, tv, ov, h1, h2, h3.mono hN, h4⟩
theorem Pl.mono (h : Pl own w B nb gb wv ov ps N x g) (hN : N ≤ N') : Pl own w B nb gb wv ov ps N' x g :=
  ⟨h.words, h.tw, h.now, h.tn, h.begun, h.tg, h.evs, h.to, fun i hi hx => by
    have := h.th i hi hx
    match hl : (g.th i).now, hp : ps i, this with
    | none, none, _ => trivial
    | some l, some b, h => exact Wt.mono h hN, h.Bn, h.Bg⟩
/-- As the run begins. -/
theorem Pl.init {m : Mc} (h : w.ownsRow B 3 1 wv m.ws.length (m.ws.map (Value.int .i64))) (hB : B ≤ w.heap.size) :
    Pl (fun k => if k = w.heap.size then 2 else if k = w.heap.size + 1 then 3 else 1) ((w.alloc (.cells #[.pointer none, .pointer none, .pointer none, .pointer none] 89)).alloc (.cells #[.int .i64 0, .int .i64 0, .int .i64 0, .int .i64 0] 90)) B w.heap.size (w.heap.size + 1) wv (.slice none 0 0) (fun _ => none) 8 4 (g0 m) := by
  refine ⟨(h.alloc _).alloc _, fun k hk => ?_, (Box.newAt w _ _ w.heap.size rfl).alloc _, by simp, Box.newAt _ _ _ (w.heap.size + 1) (by simp), ?_, Er.nil _ _ _ _, fun k hk => (by cases hk), fun i hi hx => trivial, hB, by omega⟩
  · have := own_lt h hk
    rw [if_neg (by omega), if_neg (by omega)]
  · rw [if_neg (by omega), if_pos rfl]
theorem Pl.nil (h : Pl own w B nb gb wv ov ps N x g) (hn : n < 4) (hx : n ≠ x) (hw : (g.th n).now = none) : ps n = none := by
  have := h.th n hn hx
  rw [hw] at this
  match hp : ps n, this with
  | none, _ => rfl
theorem Pl.live (h : Pl own w B nb gb wv ov ps N x g) (hn : n < 4) (hx : n ≠ x) (hw : (g.th n).now = some l) : ∃ b, ps n = some b ∧ Wt own w B n b N l := by
  have := h.th n hn hx
  rw [hw] at this
  match hp : ps n, this with
  | some b, h => exact ⟨b, rfl, h⟩
/-- The schedule's next step. -/
theorem ply_next {m : Mc} {s : List Int} {j : Nat} {g : Gs} (hg : g = plyG m 0 ((s.take j).map Int.toNat) (g0 m)) (hx : s[j]? = some (n : Int)) : actG m g j n = plyG m 0 ((s.take (j + 1)).map Int.toNat) (g0 m) := by
  have hj : j < s.length := (List.getElem?_eq_some_iff.1 hx).1
  rw [at_take hx, List.map_append, List.map_singleton, plyG_snoc, ← hg, Int.toNat_natCast]
  congr 1
  simp; omega
end
end Go.Proofs.YtjihopbapnfppaaDoor
