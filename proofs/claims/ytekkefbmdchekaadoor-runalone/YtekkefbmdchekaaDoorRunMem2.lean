/- All threads of package run in memory, the words and the events, told apart by a tag for each block. No statement of the seat is proved here; no condition. -/
import Derived.Test.YtekkefbmdchekaaDoorRunPerf
set_option linter.unusedSimpArgs false
set_option linter.unusedVariables false
namespace Go.Baro
open Go.RowKit
theorem rows_of (s : Nat) : ∀ (n : Nat) (cs : List Value), cs.length = n * s → ∃ rows : List (List Value), rows.flatten = cs ∧ rows.length = n ∧ ∀ r ∈ rows, r.length = s
  | 0, cs, h => ⟨[], by rw [Nat.zero_mul] at h; rw [List.eq_nil_of_length_eq_zero h]; rfl, rfl, by simp⟩
  | n + 1, cs, h => by
    rw [Nat.succ_mul] at h
    obtain ⟨rows, h1, h2, h3⟩ := rows_of s n (cs.drop s) (by rw [List.length_drop]; omega)
    refine ⟨cs.take s :: rows, by rw [List.flatten_cons, h1, List.take_append_drop], by rw [List.length_cons, h2], fun r hr => ?_⟩
    rcases List.mem_cons.1 hr with rfl | hr
    · rw [List.length_take]; omega
    · exact h3 r hr
theorem flat_mid {rows : List (List Value)} {i : Nat} {r : List Value} (h : rows[i]? = some r) : rows.flatten = (rows.take i).flatten ++ (r ++ (rows.drop (i + 1)).flatten) := by
  have hi := (List.getElem?_eq_some_iff.1 h).1
  have he := (List.getElem?_eq_some_iff.1 h).2
  conv => lhs; rw [← List.take_append_drop i rows, List.flatten_append, List.drop_eq_getElem_cons hi, List.flatten_cons, he]
theorem flat_set {rows : List (List Value)} {i : Nat} (hi : i < rows.length) (r : List Value) : (rows.set i r).flatten = (rows.take i).flatten ++ (r ++ (rows.drop (i + 1)).flatten) := by
  have := flat_mid (rows := rows.set i r) (i := i) (r := r) (by rw [List.getElem?_set_self hi])
  rw [this, List.take_set_of_le (Nat.le_refl i), List.drop_set_of_lt (by omega)]
theorem rtake_len {rows : List (List Value)} {s : Nat} (h : ∀ r ∈ rows, r.length = s) {i : Nat} (hi : i ≤ rows.length) : (rows.take i).flatten.length = i * s := by
  rw [flat_len (fun r hr => h r (List.mem_of_mem_take hr)), List.length_take, Nat.min_eq_left hi]
theorem box_own {w : World} {base g n s : Nat} {e : TypeId} {xs : List Value} (h : w.ownsRow base e s (.slice (some ⟨g, 0, none⟩) n n) n xs) : Box w g e xs := by
  rcases h.2 with ⟨h1, _⟩ | ⟨g', cap, cur, h1, _, h3, _, _, h6, h7⟩
  · cases h1
  · injection h1 with h1 _ h8
    injection h1 with h1
    injection h1 with h1 _
    subst h1 h8
    have : xs = cur.toList := by rw [← h7, List.take_of_length_le (by rw [Array.length_toList]; omega)]
    rw [this]
    exact h3
end Go.Baro
namespace Go.Proofs.YtekkefbmdchekaaDoor
open Go.RowKit Go.Ord Go.Baro

/-- Thread i in its row of cells: own tells of each block whose it is (10 + 2 i what the thread has told, 11 + 2 i its code). -/
def Tc (own : Nat → Nat) (w : World) (B i : Nat) (row : List Value) (t : Td) (cs : Value) : Prop :=
  ∃ (cA : Option Addr) (cn cc : Nat) (p : Int) (r : Int → Int) (tv : Value) (l : List Ins) (tl : List Int), row = thC (.slice cA cn cc) p r tv ++ [.int .i64 i, cs, .int .i64 t.bg] ∧ RO w w.heap.size cA cn l ∧ (0 < cn → ∀ g q, cA = some ⟨g, q, none⟩ → own g = 11 + 2 * i) ∧
    w.ownsRow B 3 1 tv tl.length (tl.map (Value.int .i64)) ∧ (∀ k, tv.ownBlock = some k → own k = 10 + 2 * i) ∧ ((t.now = none ∧ p = cn) ∨ t.now = some ⟨l, p, r, tl⟩)
/-- All of it: the words (1), the threads (2), the events (4; 5: what they tell). -/
structure Pm (own : Nat → Nat) (w : World) (B tb nt : Nat) (wv ov : Value) (cls : Nat → Value) (rows : List (List Value)) (g : Gs) : Prop where
  words : w.ownsRow B 3 1 wv g.w.length (g.w.map (Value.int .i64))
  tw : ∀ k, wv.ownBlock = some k → own k = 1
  box : Box w tb 86 rows.flatten
  tt : own tb = 2
  len : rows.length = nt
  r30 : ∀ r ∈ rows, r.length = 30
  evs : Er (fun b => own b = 5) w B 51 ov g.out
  to : ∀ k, ov.ownBlock = some k → own k = 4
  th : ∀ i r, rows[i]? = some r → Tc own w B i r (g.th i) (cls i)
  Bt : B ≤ tb
section
variable {own own' : Nat → Nat} {w w' : World} {B tb nt i : Nat} {wv ov cs : Value} {cls : Nat → Value} {rows : List (List Value)} {row : List Value} {g : Gs} {t : Td} {X : Nat → Prop}
theorem own_ltR {e : TypeId} {s m k : Nat} {v : Value} {xs : List Value} (h : w.ownsRow B e s v m xs) (hk : v.ownBlock = some k) : k < w.heap.size := (h.lt k hk).2
theorem ro_lt {cA : Option Addr} {cn : Nat} {l : List Ins} {C : Nat} (h : RO w C cA cn l) (h0 : 0 < cn) {g q : Nat} (hg : cA = some ⟨g, q, none⟩) : g < C := by
  obtain ⟨bb, oo, hA', hlt, _⟩ := Rd.at_ h h0
  rw [hg] at hA'
  injection hA' with hA'
  injection hA' with hA' _
  omega
theorem Tc.un (h : Tc own w B i row t cs) (hu : Un X w w') (hX : ∀ k, k < w.heap.size → X k → own k ≠ 10 + 2 * i ∧ own k ≠ 11 + 2 * i) : Tc own w' B i row t cs := by
  obtain ⟨cA, cn, cc, p, r, tv, l, tl, h1, h2, h3, h4, h5, h6⟩ := h
  refine ⟨cA, cn, cc, p, r, tv, l, tl, h1, Rd.more (Rd.un h2 hu (Nat.le_refl _) (fun h0 g q hg hx => (hX g (ro_lt h2 h0 hg) hx).2 (h3 h0 g q hg))) hu.size, h3, own_un h4 hu (fun k hk hx => (hX k (own_ltR h4 hk) hx).1 (h5 k hk)), h5, h6⟩
theorem Tc.retag (h : Tc own w B i row t cs) (he : ∀ k, k < w.heap.size → own' k = own k) : Tc own' w B i row t cs := by
  obtain ⟨cA, cn, cc, p, r, tv, l, tl, h1, h2, h3, h4, h5, h6⟩ := h
  exact ⟨cA, cn, cc, p, r, tv, l, tl, h1, h2, fun h0 g q hg => (he g (ro_lt h2 h0 hg)).trans (h3 h0 g q hg), h4, fun k hk => (he k (own_ltR h4 hk)).trans (h5 k hk), h6⟩
theorem Pm.lt (h : Pm own w B tb nt wv ov cls rows g) : tb < w.heap.size := h.box.lt
theorem Pm.hB (h : Pm own w B tb nt wv ov cls rows g) : B ≤ w.heap.size := by have := h.lt; have := h.Bt; omega
/-- Nothing of it has turned. -/
theorem Pm.un (h : Pm own w B tb nt wv ov cls rows g) (hu : Un X w w') (hX : ∀ k, k < w.heap.size → X k → own k = 0) : Pm own w' B tb nt wv ov cls rows g := by
  refine ⟨own_un h.words hu fun k hk hx => ?_, h.tw, h.box.un hu fun hx => ?_, h.tt, h.len, h.r30, ?_, h.to, fun i r hr => (h.th i r hr).un hu (fun k hk hx => ?_), h.Bt⟩
  · have := hX k (own_ltR h.words hk) hx; have := h.tw k hk; omega
  · have := hX tb h.lt hx; have := h.tt; omega
  · obtain ⟨rws, h1, h2, h3, h4⟩ := h.evs
    refine Er.un (X := fun k => X k ∧ k < w.heap.size) ⟨rws, h1, h2, h3, h4⟩ ⟨hu.os, hu.tape, hu.output, hu.size, fun k hk hx => hu.block k hk fun h => hx ⟨h, hk⟩⟩ (fun k hk hx => ?_) (fun k hk hx => ?_)
    · have := hX k hx.2 hx.1; have := h.to k hk; omega
    · have := hX k hx.2 hx.1; omega
  · have := hX k hk hx; omega
theorem Pm.below (h : Pm own w B tb nt wv ov cls rows g) (hb : Below w.heap.size w w') : Pm own w' B tb nt wv ov cls rows g := h.un (X := fun _ => False) (un_below hb) (fun _ _ h => h.elim)
theorem Pm.drew (h : Pm own w B tb nt wv ov cls rows g) : Pm own w.drew B tb nt wv ov cls rows g := h.below (Below.refl _ _).drew
theorem Pm.alloc (h : Pm own w B tb nt wv ov cls rows g) (o : Obj) : Pm own (w.alloc o) B tb nt wv ov cls rows g := h.un (X := fun _ => False) ((Un.refl _ _).alloc o) (fun _ _ h => h.elim)
theorem Pm.retag (h : Pm own w B tb nt wv ov cls rows g) (he : ∀ k, k < w.heap.size → own' k = own k) : Pm own' w B tb nt wv ov cls rows g :=
  ⟨h.words, fun k hk => (he k (own_ltR h.words hk)).trans (h.tw k hk), h.box, (he tb h.lt).trans h.tt, h.len, h.r30, h.evs.mono (fun b hb h5 => (he b hb).trans h5), fun k hk => by
    obtain ⟨rws, h1, h2, h3, h4⟩ := h.evs
    exact (he k (own_ltR h3 hk)).trans (h.to k hk), fun i r hr => (h.th i r hr).retag he, h.Bt⟩
/-- A thread, taken out of it. -/
theorem Pm.at_ (h : Pm own w B tb nt wv ov cls rows g) {n : Nat} (hn : n < nt) : ∃ row cA cn tv, rows[n]? = some row ∧ Tl w B tb (n * 30) (rows.take n).flatten (rows.drop (n + 1)).flatten n (cls n) wv g.w (g.th n) cA cn tv ∧ (∀ k, tv.ownBlock = some k → own k = 10 + 2 * n ∧ B ≤ k ∧ k < w.heap.size) ∧ (0 < cn → ∀ g q, cA = some ⟨g, q, none⟩ → own g = 11 + 2 * n ∧ g < w.heap.size) := by
  have hlt : n < rows.length := by rw [h.len]; exact hn
  have hr : rows[n]? = some rows[n] := List.getElem?_eq_getElem hlt
  obtain ⟨cA, cn, cc, p, r, tv, l, tl, h1, h2, h3, h4, h5, h6⟩ := h.th n _ hr
  refine ⟨rows[n], cA, cn, tv, hr, ⟨cc, p, r, l, tl, ⟨?_, rtake_len h.r30 (by omega), h4, h.words, ?_, by decide⟩, h2, fun h0 gg q hg => ?_, h6⟩, fun k hk => ⟨h5 k hk, h4.lt k hk⟩, fun h0 gg q hg => ⟨h3 h0 gg q hg, ro_lt h2 h0 hg⟩⟩
  · have := h.box
    rw [flat_mid hr, h1, List.append_assoc] at this
    exact this
  · cases hq : wv.ownBlock with
    | none => exact .inl rfl
    | some k =>
      refine .inr fun he => ?_
      have := h5 k he.symm
      have := h.tw k hq
      omega
  · have := h3 h0 gg q hg
    refine ⟨fun he => ?_, fun he => ?_, fun he => ?_⟩
    · have h2 := h.tt; rw [← he] at h2; omega
    · have := h5 gg he; omega
    · have := h.tw gg he; omega
/-- What a thread's step leaves of it. -/
theorem Pm.one (h : Pm own w B tb nt wv ov cls rows g) {n M : Nat} (hn : n < nt) {cA cA' : Option Addr} {cn cn' : Nat} {tv tv' : Value} {W : List Int} {t' : Td} (htv : ∀ k, tv.ownBlock = some k → own k = 10 + 2 * n ∧ B ≤ k ∧ k < w.heap.size) (hcA : 0 < cn → ∀ g q, cA = some ⟨g, q, none⟩ → own g = 11 + 2 * n ∧ g < w.heap.size)
    (hl : Tl w' B tb (n * 30) (rows.take n).flatten (rows.drop (n + 1)).flatten n (cls n) wv W t' cA' cn' tv') (hM : w.heap.size ≤ M) (hcA' : 0 < cn' → ∀ g q, cA' = some ⟨g, q, none⟩ → (cA' = cA ∧ cn' = cn) ∨ (w.heap.size ≤ g ∧ g < M)) (htv' : ∀ g, tv'.ownBlock = some g → tv.ownBlock = some g ∨ (w.heap.size ≤ g ∧ g < M)) (hu : Un (touch tb tb tv wv) w w') :
    ∃ own' rows', Pm own' w' B tb nt wv ov cls rows' ⟨W, putT g.th n t', g.out⟩ ∧ (∀ k, M ≤ k → own' k = 5) ∧ (∀ k, w.heap.size ≤ k → own' k ≠ 4) := by
  obtain ⟨cc, p, r, l, tl, hto, hro, hcb, hnow⟩ := hl
  have hlt : n < rows.length := by rw [h.len]; exact hn
  refine ⟨fun k => if k < w.heap.size then own k else if M ≤ k then 5 else if tv'.ownBlock = some k then 10 + 2 * n else 11 + 2 * n, rows.set n (thC (.slice cA' cn' cc) p r tv' ++ [.int .i64 n, cls n, .int .i64 t'.bg]), ?_, fun k hk => ?_, fun k hk => ?_⟩
  · have hre : ∀ k, k < w.heap.size → (fun k => if k < w.heap.size then own k else if M ≤ k then 5 else if tv'.ownBlock = some k then 10 + 2 * n else 11 + 2 * n) k = own k := fun k hk => by
      show (if k < w.heap.size then own k else if M ≤ k then 5 else if tv'.ownBlock = some k then 10 + 2 * n else 11 + 2 * n) = own k
      rw [if_pos hk]
    have hT : ∀ k, touch tb tb tv wv k → own k = 2 ∨ own k = 10 + 2 * n ∨ own k = 1 := by
      intro k hk
      rcases hk with rfl | rfl | hk | hk
      · exact .inl h.tt
      · exact .inl h.tt
      · exact .inr (.inl (htv k hk.symm).1)
      · exact .inr (.inr (h.tw k hk.symm))
    refine ⟨hto.words, fun k hk => (hre k (own_ltR h.words hk)).trans (h.tw k hk), ?_, (hre tb h.lt).trans h.tt, by rw [List.length_set]; exact h.len, fun q hq => ?_, ?_, fun k hk => ?_, fun i q hq => ?_, h.Bt⟩
    · have := hto.box
      rw [flat_set hlt, List.append_assoc]
      exact this
    · rcases List.mem_or_eq_of_mem_set hq with hq | hq
      · exact h.r30 q hq
      · rw [hq, List.length_append, thC_len]; rfl
    · have h1 : Er (fun b => own b = 5 ∧ b < w.heap.size) w B 51 ov g.out := h.evs.mono fun b hb h5 => ⟨h5, hb⟩
      refine (h1.un hu (fun k hk hx => ?_) (fun b hb hx => ?_)).mono fun b _ hb => (hre b hb.2).trans hb.1
      · have := hT k hx; have := h.to k hk; omega
      · have := hT b hx; omega
    · obtain ⟨rws, h1, h2, h3, h4⟩ := h.evs
      exact (hre k (own_ltR h3 hk)).trans (h.to k hk)
    · by_cases hin : i = n
      · subst hin
        rw [List.getElem?_set_self hlt] at hq
        injection hq with hq
        subst hq
        refine ⟨cA', cn', cc, p, r, tv', l, tl, by simp [putT], hro, fun h0 gg q hg => ?_, hto.told, fun k hk => ?_, by simpa [putT] using hnow⟩
        · rcases hcA' h0 gg q hg with ⟨h1, h2⟩ | ⟨h1, h2⟩
          · rw [h2] at h0
            rw [h1] at hg
            have := hcA h0 gg q hg
            exact (hre gg this.2).trans this.1
          · have hne := (hcb h0 gg q hg).2.1
            show (if gg < w.heap.size then own gg else if M ≤ gg then 5 else if tv'.ownBlock = some gg then 10 + 2 * i else 11 + 2 * i) = _
            rw [if_neg (by omega), if_neg (by omega), if_neg hne]
        · rcases htv' k hk with h1 | ⟨h1, h2⟩
          · have := htv k h1
            exact (hre k this.2.2).trans this.1
          · show (if k < w.heap.size then own k else if M ≤ k then 5 else if tv'.ownBlock = some k then 10 + 2 * i else 11 + 2 * i) = _
            rw [if_neg (by omega), if_neg (by omega), if_pos hk]
      · rw [List.getElem?_set_ne (by omega)] at hq
        have := ((h.th i q hq).retag (own' := fun k => if k < w.heap.size then own k else if M ≤ k then 5 else if tv'.ownBlock = some k then 10 + 2 * n else 11 + 2 * n) hre).un hu (fun k hk hx => by rw [if_pos hk]; have := hT k hx; omega)
        show Tc _ w' B i q (putT g.th n t' i) (cls i)
        rw [show (putT g.th n t' i) = g.th i by simp [putT, hin]]
        exact this
  · show (if k < w.heap.size then own k else if M ≤ k then 5 else if tv'.ownBlock = some k then 10 + 2 * n else 11 + 2 * n) = 5
    rw [if_neg (by omega), if_pos hk]
  · show (if k < w.heap.size then own k else if M ≤ k then 5 else if tv'.ownBlock = some k then 10 + 2 * n else 11 + 2 * n) ≠ 4
    rw [if_neg (by omega)]
    split
    · omega
    · split <;> omega
/-- An event is added. -/
theorem Pm.event (h : Pm own w B tb nt wv ov cls rows g) {rws : List (List Value)} {r : List Value} {y : Ev} {v' : Value} {o : Obj} {k : Nat} (h1 : rws.length = g.out.length) (h2 : ∀ r ∈ rws, r.length = 6) (h3 : w.ownsRow B 51 6 ov g.out.length rws.flatten)
    (h4 : ∀ (i : Nat) r x, rws[i]? = some r → g.out[i]? = some x → eP (fun b => own b = 5) w r x) (ho : w'.ownsRow B 51 6 v' k (rws.flatten ++ r)) (hk : k = g.out.length + 1) (hg : (w.alloc o).grownBy w' ov.ownBlock) (hb : v'.ownBlock = ov.ownBlock ∨ v'.ownBlock = some (w.heap.size + 1)) (hr : eP (fun b => own b = 5) w r y) :
    Pm (fun k => if k < w.heap.size then own k else 4) w' B tb nt wv v' cls rows { g with out := g.out ++ [y] } := by
  have hre : ∀ k, k < w.heap.size → (fun k => if k < w.heap.size then own k else 4) k = own k := fun k hk => by show (if k < w.heap.size then own k else 4) = own k; rw [if_pos hk]
  have hu : Un (fun k => some k = ov.ownBlock) w w' := un_grown ((Un.refl _ w).alloc o) hg (fun k hk => hk.symm)
  have e : ∀ k, some k = ov.ownBlock → own k = 4 := fun k hk => h.to k hk.symm
  have h' := h.retag hre
  have e' : ∀ k, k < w.heap.size → some k = ov.ownBlock → (if k < w.heap.size then own k else 4) = 4 := fun k hk hx => (hre k hk).trans (e k hx)
  refine ⟨own_un h'.words hu fun k hk hx => ?_, h'.tw, h'.box.un hu fun hx => ?_, h'.tt, h.len, h.r30, ?_, fun k hk => ?_, fun i q hq => (h'.th i q hq).un hu (fun k hk hx => ?_), h.Bt⟩
  · have := e k hx; have := h.tw k hk; omega
  · have := e tb hx; have := h.tt; omega
  · have hE : Er (fun b => own b = 5 ∧ b < w.heap.size) w' B 51 v' (g.out ++ [y]) := by
      have hm : ∀ (r : List Value) (x : Ev), eP (fun b => own b = 5) w r x → eP (fun b => own b = 5 ∧ b < w.heap.size) w r x := by
        rintro r x ⟨A, n, k, q1, q2, q3, q4, q5⟩
        refine ⟨A, n, k, q1, q2, q3, q4, fun h0 b o hA => ⟨q5 h0 b o hA, ?_⟩⟩
        obtain ⟨b', o', hA', hb', _⟩ := Rd.at_ q4 h0
        rw [hA] at hA'
        injection hA' with hA'
        injection hA' with hA' _
        omega
      exact er_snoc h1 h2 (fun i r x hr hx => hm r x (h4 i r x hr hx)) ho hk hu (fun b hb hx => by have := e b hx; omega) (hm _ _ hr)
    exact hE.mono fun b _ hb5 => by rw [if_pos hb5.2]; exact hb5.1
  · rcases hb with hb | hb
    · exact h'.to k (hb ▸ hk)
    · rw [hb] at hk
      injection hk with hk
      rw [if_neg (by omega)]
  · have := e' k hk hx; omega
/-- As the run begins. -/
theorem Pm.init {m : Mc} (hw : w.ownsRow B 3 1 wv m.ws.length (m.ws.map (Value.int .i64))) (hb : Box w tb 86 rows.flatten) (hne : wv.ownBlock ≠ some tb) (hl : rows.length = nt) (hr : ∀ (i : Nat) (r : List Value), rows[i]? = some r → r = thZ ++ [.int .i64 i, cls i, .int .i64 0]) (hB : B ≤ tb) :
    Pm (fun k => if k = tb then 2 else 1) w B tb nt wv (.slice none 0 0) cls rows (g0 m) := by
  refine ⟨hw, fun k hk => ?_, hb, by simp, hl, fun r hrm => ?_, Er.nil _ _ _ _, fun k hk => (by cases hk), fun i r hri => ?_, hB⟩
  · have : k ≠ tb := fun e => hne (e ▸ hk)
    rw [if_neg this]
  · obtain ⟨i, hi⟩ := List.mem_iff_getElem?.1 hrm
    rw [hr i r hi, List.length_append, show thZ.length = 27 from thC_len]; rfl
  · rw [hr i r hri]
    exact ⟨none, 0, 0, 0, fun _ => 0, .slice none 0 0, [], [], rfl, ⟨rfl, fun h => absurd h (by omega)⟩, fun h => absurd h (by omega), World.ownsRow_nil _ _ _ _, fun k hk => (by cases hk), .inl ⟨rfl, rfl⟩⟩
end
end Go.Proofs.YtekkefbmdchekaaDoor
