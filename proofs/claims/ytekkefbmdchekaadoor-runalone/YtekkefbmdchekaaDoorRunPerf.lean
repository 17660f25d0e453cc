/- What a thread of package run does in one step. No statement of the seat is proved here; no condition. -/
import Derived.Test.YtekkefbmdchekaaDoorRunThr
import Derived.Test.YtekkefbmdchekaaDoorVmClone
set_option linter.unusedSimpArgs false
set_option linter.unusedVariables false
namespace Go.Proofs.YtekkefbmdchekaaDoor
open Go.RowKit Go.Ord Go.Baro

theorem eltEvR : Elt Tryd.prog 47 51 (.agg #[.int .i64 0, .int .i64 0, .int .i64 0, .bool false, .int .i64 0, .slice none 0 0]) 6 64 := Elt.mk' Tryd.underlying47 (by kernel_rfl) rfl (by decide)
theorem one6R (a b c e : Int) (d : Bool) (A : Option Addr) (n k : Nat) : ∀ u ∈ [Value.int .i64 a, .int .i64 b, .int .i64 c, .bool d, .int .i64 e, .slice A n k], u.oneCell' = true := by simp [Value.oneCell']
theorem vm_endedB (T : TypeId) (pre post : List Value) (o : Nat) (w : World) (B b n c : Nat) (A : Option Addr) (tv wv : Value) (s : Vs) (r : Bool) (h : ToV T pre post w B b o (.slice A n c) tv wv s) (hr : r = true ↔ s.p = n) :
    Calls Tryd.prog 39 #[.pointer (some ⟨b, o, none⟩)] w fun e w' => e = .returned (.bool r) ∧ Below w.heap.size w w' ∧ w'.heap.size ≤ w.heap.size := by
  refine (vm_endedo T pre post o w B b n c A tv wv s r h hr).mono ?_
  rintro e w' ⟨rfl, rfl⟩
  exact ⟨rfl, (Below.refl _ _).drewN 1, Nat.le_refl _⟩
theorem un_sub {b mb : Nat} {tv tv2 wv : Value} {w w2 w3 : World} (h : Un (touch b mb tv wv) w w2) (k : Un (touch b mb tv2 wv) w2 w3) (hb : ∀ k, tv2.ownBlock = some k → tv.ownBlock = some k ∨ w.heap.size ≤ k) : Un (touch b mb tv wv) w w3 := by
  refine ⟨k.os.trans h.os, k.tape.trans h.tape, k.output.trans h.output, Nat.le_trans h.size k.size, fun i hi hx => (k.block i (Nat.lt_of_lt_of_le hi h.size) fun ht => hx ?_).trans (h.block i hi hx)⟩
  rcases ht with ht | ht | ht | ht
  · exact .inl ht
  · exact .inr (.inl ht)
  · rcases hb i ht.symm with hb | hb
    · exact .inr (.inr (.inl hb.symm))
    · omega
  · exact .inr (.inr (.inr ht))
theorem un_new {X : Nat → Prop} {Y : Nat → Prop} {w w2 w3 : World} (h : Un X w w2) (k : Un Y w2 w3) (hY : ∀ i, Y i → w.heap.size ≤ i) : Un X w w3 :=
  ⟨k.os.trans h.os, k.tape.trans h.tape, k.output.trans h.output, Nat.le_trans h.size k.size, fun i hi hx => (k.block i (Nat.lt_of_lt_of_le hi h.size) fun hy => by have := hY i hy; omega).trans (h.block i hi hx)⟩
/-- Where the events so far lie: in a row of the step's own, apart from all of the thread. -/
def EvAt (w : World) (b : Nat) (cA : Option Addr) (cn : Nat) (tv wv ev : Value) (wt : World) : Prop := ∀ k, ev.ownBlock = some k → w.heap.size ≤ k ∧ k < wt.heap.size ∧ k ≠ b ∧ tv.ownBlock ≠ some k ∧ wv.ownBlock ≠ some k ∧ (0 < cn → ∀ g q, cA = some ⟨g, q, none⟩ → g ≠ k)
theorem ev_keep {w b cA cn tv wv ev wt} {w5 : World} {Be k : Nat} {xs : List Value} {e : TypeId} (h : wt.ownsRow Be e 6 ev k xs) (hA : EvAt w b cA cn tv wv ev wt) (hu : Un (touch b b tv wv) wt w5) : w5.ownsRow Be e 6 ev k xs := by
  refine own_un h hu fun g hg ht => ?_
  obtain ⟨h1, h2, h3, h4, h5, h6⟩ := hA g hg
  rcases ht with ht | ht | ht | ht
  · exact h3 ht
  · exact h3 ht
  · exact h4 ht.symm
  · exact h5 ht.symm
theorem ev_at {w : World} {Be k n c : Nat} {xs : List Value} {e : TypeId} {A : Option Addr} (h : w.ownsRow Be e 6 (.slice A n c) k xs) {g q : Nat} (hg : A = some ⟨g, q, none⟩) : Be ≤ g := (h.lt g (by rw [hg]; rfl)).1
theorem own_low {w : World} {B B' k s : Nat} {xs : List Value} {e : TypeId} {v : Value} (h : w.ownsRow B e s v k xs) (hB : B' ≤ B) : w.ownsRow B' e s v k xs := by
  refine ⟨h.1, ?_⟩
  rcases h.2 with h | ⟨g, cap, cur, h1, h2, h3⟩
  · exact .inl h
  · exact .inr ⟨g, cap, cur, h1, by omega, h3⟩
theorem snoc_at {P : Nat → Prop} {w : World} {rows : List (List Value)} {es : List Ev} {r : List Value} {x : Ev} {k : Nat} (h1 : rows.length = k) (h2 : k = es.length) (h : ∀ (i : Nat) r x, rows[i]? = some r → es[i]? = some x → eP P w r x) (hx : eP P w r x) : ∀ (i : Nat) r' x', (rows ++ [r])[i]? = some r' → (es ++ [x])[i]? = some x' → eP P w r' x' := by
  intro i r' x' hr hy
  rcases Nat.lt_trichotomy i rows.length with hi | hi | hi
  · rw [List.getElem?_append_left hi] at hr
    rw [List.getElem?_append_left (by omega)] at hy
    exact h i r' x' hr hy
  · rw [List.getElem?_append_right (by omega), show i - rows.length = 0 by omega] at hr
    rw [List.getElem?_append_right (by omega), show i - es.length = 0 by omega] at hy
    injection hr with hr
    injection hy with hy
    subst hr hy
    exact hx
  · rw [List.getElem?_eq_none (by simp; omega)] at hr; cases hr
/-- The end of a step whose call goes on or has ended. -/
theorem perf_end {m : Mc} {n B b o : Nat} {pre post : List Value} {cs : Value} {wA : Option Addr} {wn wc : Nat} {ws : List Int} {t : Td} {cA cA2 : Option Addr} {cn cn2 cc2 : Nat} {tv tv2 tv5 ev : Value} {w wt w5 w9 : World} {L L' : Lv} {W' : List Int} {bg2 : Nat} {q : Int} {A : Option Addr} {k c M : Nat} {rows : List (List Value)} {es : List Ev} {t' : Td}
    (hact : actT m n t ws = ⟨W', putT (fun _ => t) n t', es⟩) (ht' : t'.bg = bg2) (hnow : (t'.now = none ∧ q = cn2) ∨ (t'.now = some L' ∧ q = L'.p ∧ L'.c = L.c))
    (hut : Un (touch b b tv (.slice wA wn wc)) w wt) (ho5 : To 86 3 pre (.int .i64 n :: cs :: .int .i64 bg2 :: post) w5 B b o (.slice cA2 cn2 cc2) tv5 (.slice wA wn wc) ⟨q, L'.r, W', L'.t⟩)
    (hb5 : tv5.ownBlock = tv2.ownBlock ∨ ∃ k, tv5.ownBlock = some k ∧ wt.heap.size ≤ k) (hu5 : Un (touch b b tv2 (.slice wA wn wc)) wt w5) (hro : RO wt wt.heap.size cA2 cn2 L.c) (hcb : CB b cA2 cn2 tv2 (.slice wA wn wc)) (hev : EvAt w b cA2 cn2 tv2 (.slice wA wn wc) ev wt)
    (htv2 : ∀ k, tv2.ownBlock = some k → tv.ownBlock = some k ∨ (w.heap.size ≤ k ∧ k < wt.heap.size)) (hcA2 : 0 < cn2 → ∀ g q, cA2 = some ⟨g, q, none⟩ → (cA2 = cA ∧ cn2 = cn) ∨ (w.heap.size ≤ g ∧ g < wt.heap.size))
    (hu9 : Un (fun k => some k = ev.ownBlock) w5 w9) (hM : w5.heap.size ≤ M) (hk : k = es.length) (hk2 : k ≤ 2) (hr1 : rows.length = k) (hr2 : ∀ r ∈ rows, r.length = 6) (hr3 : Rd w9 w9.heap.size 6 A k rows.flatten) (hr4 : ∀ (i : Nat) r x, rows[i]? = some r → es[i]? = some x → eP (fun g => M ≤ g) w9 r x)
    (hA : 0 < k → ∀ g q, A = some ⟨g, q, none⟩ → w.heap.size ≤ g) : PfPost m n B b o pre post cs (.slice wA wn wc) ws t cA cn tv w (.returned (.slice A k c)) w9 := by
  have hsz := hut.size
  have hsz5 := hu5.size
  have hX : ∀ k, some k = ev.ownBlock → k ≠ b ∧ tv5.ownBlock ≠ some k ∧ (Value.slice wA wn wc).ownBlock ≠ some k ∧ w.heap.size ≤ k := by
    intro k hk
    obtain ⟨h1, h2, h3, h4, h5, h6⟩ := hev k hk.symm
    refine ⟨h3, fun h => ?_, h5, h1⟩
    rcases hb5 with hb | ⟨k', hb, hge⟩
    · rw [hb] at h; exact h4 h
    · rw [hb] at h; injection h with h; omega
  have hro5 : RO w5 w5.heap.size cA2 cn2 L.c := by
    refine Rd.more (Rd.un hro hu5 (Nat.le_refl _) (fun h0 g q hg ht => ?_)) hu5.size
    obtain ⟨c1, c2, c3⟩ := hcb h0 g q hg
    rcases ht with ht | ht | ht | ht
    · exact c1 ht
    · exact c1 ht
    · exact c2 ht.symm
    · exact c3 ht.symm
  have hro9 : RO w9 w9.heap.size cA2 cn2 L.c := Rd.more (Rd.un hro5 hu9 (Nat.le_refl _) (fun h0 g q hg ht => (hev g ht.symm).2.2.2.2.2 h0 g q hg rfl)) hu9.size
  have ho9 := ho5.un hu9 (fun h => (hX b h).1 rfl) (fun k hk h => (hX k h).2.1 hk) (fun k hk h => (hX k h).2.2.1 hk)
  have hth : putT (fun _ => t) n t' n = t' := by simp [putT]
  refine ⟨A, k, c, M, cA2, cn2, tv5, rows, rfl, ?_, by rw [hact]; exact hk, hk2, hr1, hr2, hr3, by rw [hact]; exact hr4, by omega, fun h0 g q hg => ?_, fun g hg => ?_, hA, ?_⟩
  · rw [hact]
    show Tl w9 B b o pre post n cs _ W' (putT (fun _ => t) n t' n) cA2 cn2 tv5
    rw [hth]
    refine ⟨cc2, q, L'.r, L.c, L'.t, by rw [ht']; exact ho9, hro9, fun h0 g q' hg => ?_, ?_⟩
    · obtain ⟨c1, c2, c3⟩ := hcb h0 g q' hg
      refine ⟨c1, fun h => ?_, c3⟩
      rcases hb5 with hb | ⟨k', hb, hge⟩
      · rw [hb] at h; exact c2 h
      · rw [hb] at h
        injection h with h
        obtain ⟨bb, oo, hA', hlt, _⟩ := Rd.at_ hro h0
        rw [hg] at hA'
        injection hA' with hA'
        injection hA' with hA' _
        omega
    · rcases hnow with ⟨h1, h2⟩ | ⟨h1, h2, h3⟩
      · exact .inl ⟨h1, h2⟩
      · refine .inr ?_
        rw [h1, h2, ← h3]
  · rcases hcA2 h0 g q hg with h | h
    · exact .inl h
    · exact .inr ⟨h.1, by omega⟩
  · rcases hb5 with hb | ⟨k', hb, hge⟩
    · rw [hb] at hg
      rcases htv2 g hg with h | h
      · exact .inl h
      · exact .inr ⟨h.1, by omega⟩
    · have := (ho5.told.lt g hg).2
      rw [hb] at hg
      injection hg with hg
      exact .inr ⟨by omega, by omega⟩
  · refine un_new (un_sub hut hu5 fun k hk => ?_) hu9 (fun k hk => (hX k hk).2.2.2)
    rcases htv2 k hk with h | h
    · exact .inl h
    · exact .inr h.1

set_option maxRecDepth 100000 in
set_option maxHeartbeats 4000000 in
theorem run_perform (w : World) (hT : Tab w) (m : Mc) (B b o n : Nat) (pre post : List Value) (A1 : Option Addr) (n1 k1 Bc : Nat) (t : List Cl) (Ac : Option Addr) (nc cc : Nat) (wA : Option Addr) (wn wc : Nat) (ws : List Int) (td : Td) (cA : Option Addr) (cn : Nat) (tv : Value)
    (h : Tl w B b o pre post n (.slice A1 n1 k1) (.slice wA wn wc) ws td cA cn tv) (hBs : B ≤ w.heap.size) (hBc : Bc ≤ w.heap.size) (hm : okMc m) (hcs : RCs w Bc Ac nc m.cs) (hl : RLs w Bc A1 n1 t) (ht : m.ts[n]? = some t) (hcok : ∀ c ∈ m.cs, ∀ o ∈ c, inI o) (htok : ∀ c ∈ t, ∀ x ∈ c.ar, inW x) (hw : WOk ws) (hbg : td.bg ≤ n1)
    (hlive : ∀ l, td.now = some l → l.c ∈ m.cs ∧ LOk l ∧ l.p < l.c.length ∧ 1 ≤ td.bg) :
    Calls Tryd.prog 47 #[.pointer (some ⟨b, o, none⟩), .slice Ac nc cc, .slice wA wn wc] w (PfPost m n B b o pre post (.slice A1 n1 k1) (.slice wA wn wc) ws td cA cn tv w) := by
  obtain ⟨cc0, p, r, l, tl, hto, hro, hcb, hnow⟩ := h
  have hn1 : n1 ≤ 20 := by have := (hm.2.2.2.2 t (List.mem_of_getElem? ht)).1; rw [hl.len] at this; exact this
  have hlt := hto.lt
  obtain ⟨now, bg⟩ := td
  dsimp only at hbg hnow hlive hto
  have h0 : Un (touch b b tv (.slice wA wn wc)) w w := Un.refl _ _
  have HTH := Lib.hid hto
  have HT := Lib.hid hT
  have HM := Lib.hid hm
  have HTS := Lib.hid ht
  have HCS := Lib.hid hcs
  have HLS := Lib.hid hl
  have HCOK := Lib.hid hcok
  have HTOK := Lib.hid htok
  have HW := Lib.hid hw
  have HRO := Lib.hid hro
  have HCB := Lib.hid hcb
  clear hto hT hm ht hcs hl hcok htok hw hro hcb
  cases now with
  | none =>
    have hp : p = cn := by
      rcases hnow with h | h
      · exact h.2
      · cases h
    clear hlive hnow
    subst hp
    by_cases hend : bg = n1
    · subst hend
      have HLV := HLS.out.len
      go_enter Tryd.func47, Tryd.ntmps47
      go_wp2_with fail
      refine (vm_endedB 86 _ _ o w B b cn cc0 cA tv _ _ true HTH.out (by simp)).mono ?_
      rintro e w1 ⟨rfl, hb1, hs1⟩
      have HT1 := Lib.hid (HTH.out.below hb1)
      have hs1' := hb1.size
      have d1 : w1.cell? ⟨b, o + 28, none⟩ = some (.slice A1 bg k1) := HT1.out.tail 1
      have d2 : w1.cell? ⟨b, o + 29, none⟩ = some (.int .i64 bg) := HT1.out.tail 2
      have hlt1 : b < w1.heap.size := by omega
      have hHid := Lib.hid HLV
      clear HLV
      go_wp2
      refine region_two [0, 1, 2, 3, 4, 5, 6, 7, 8, 9] [] (by kernel_rfl) (by kernel_rfl) ?_
      simp only [pick, List.map_cons, List.map_nil, List.getD_cons_zero, List.getD_cons_succ]
      go_wp2
      go_ret
      have hid : actT m n ⟨none, bg⟩ ws = ⟨ws, fun _ => ⟨none, bg⟩, []⟩ := actT_idle rfl (by rw [HTS.out, Option.getD_some]; exact List.getElem?_eq_none (by rw [hHid.out]; exact Nat.le_refl _))
      have hun : Un (touch b b tv (.slice wA wn wc)) w w1.drew := (un_below hb1).drew
      refine ⟨none, 0, 0, w.heap.size + w1.heap.size, cA, cn, tv, [], rfl, ?_, by rw [hid]; rfl, by omega, rfl, by simp, ⟨rfl, fun h => absurd h (by omega)⟩, by intro i r x h; simp at h, by omega, fun _ g q hg => .inl ⟨rfl, rfl⟩, fun g hg => .inl hg, fun h => absurd h (by omega), hun⟩
      rw [hid]
      exact ⟨cc0, cn, r, l, tl, HT1.out.drew, (Rd.heap (Rd.more (Rd.below HRO.out hb1) hs1') rfl), HCB.out, .inl ⟨rfl, rfl⟩⟩
    · have hlt1 : bg < n1 := by omega
      have hbne : ((bg : Int) == (n1 : Int)) = false := by simp; omega
      have hlt1' : bg < t.length := by rw [HLS.out.len]; exact hlt1
      obtain ⟨c0, hc0⟩ : ∃ c0, t[bg]? = some c0 := ⟨_, List.getElem?_eq_getElem hlt1'⟩
      have hcm : c0 ∈ t := List.mem_of_getElem? hc0
      obtain ⟨q0, ar⟩ := c0
      have hokc : okCl m ⟨q0, ar⟩ := (HM.out.2.2.2.2 t (List.mem_of_getElem? HTS.out)).2 _ hcm
      obtain ⟨⟨hq1, hq2⟩, har⟩ := hokc
      dsimp only at hq1 hq2 har
      obtain ⟨qn, rfl⟩ : ∃ qn : Nat, q0 = qn := ⟨q0.toNat, by omega⟩
      obtain ⟨cl, hcl⟩ : ∃ cl, m.cs[qn]? = some cl := ⟨_, List.getElem?_eq_getElem (by omega)⟩
      have hLm0 : cl ∈ m.cs := List.mem_of_getElem? hcl
      obtain ⟨cn2, hcn2⟩ : ∃ x, cl.length = x := ⟨_, rfl⟩
      have HACT0 := Lib.hid (show actT m n ⟨none, bg⟩ ws = actL ⟨ws, fun _ => ⟨none, bg⟩, []⟩ 0 n (bg + 1) (live cl ar) [⟨0, n, bg, false, 0, []⟩] by
        have := actT_call (m := m) (n := n) (t := ⟨none, bg⟩) (w := ws) (c := ⟨qn, ar⟩) rfl (by rw [HTS.out, Option.getD_some]; exact hc0)
        rw [this]
        dsimp only
        rw [Int.toNat_natCast, hcl, Option.getD_some])
      have HC0 := Lib.hid hc0
      have HCL := Lib.hid hcl
      have HCN2 := Lib.hid hcn2
      have HARW := Lib.hid (HTOK.out _ hcm)
      have HOKC := Lib.hid (HM.out.2.2.2.1 cl hLm0)
      clear hc0 hcl hcm hq1 hq2 hcn2 hlt1'
      go_enter Tryd.func47, Tryd.ntmps47
      go_wp2_with fail
      refine (vm_endedB 86 _ _ o w B b cn cc0 cA tv _ _ true HTH.out (by simp)).mono ?_
      rintro e w1 ⟨rfl, hb1, hs1⟩
      have HT1 := Lib.hid (HTH.out.below hb1)
      have hs1' := hb1.size
      have d1 : w1.cell? ⟨b, o + 28, none⟩ = some (.slice A1 n1 k1) := HT1.out.tail 1
      have d2 : w1.cell? ⟨b, o + 29, none⟩ = some (.int .i64 bg) := HT1.out.tail 2
      have hlt2 : b < w1.heap.size := by omega
      go_wp2
      refine region_two [0, 1, 2, 3, 4, 5, 6, 7, 8, 9] [] (by kernel_rfl) (by kernel_rfl) ?_
      simp only [pick, List.map_cons, List.map_nil, List.getD_cons_zero, List.getD_cons_succ]
      go_wp2_with fail
      refine (run_begin w1.drew (HT.out.below hb1.drew HT.out.lt) B b o n bg pre post _ tv _ _ A1 n1 k1 Bc t Ac nc cc cn2 m.cs qn ar cl HT1.out.drew (by show Bc ≤ w1.heap.size; omega) (RLs.below HLS.out (hb1.drew.mono hBc)) hlt1 hn1 (RCs.below HCS.out (hb1.drew.mono hBc)) HC0.out HCL.out HOKC.out har HCN2.out).mono ?_
      rintro e w2 ⟨rfl, cA2, cc2, hto2, hro2, hfr2, hu2⟩
      have hs2 : w1.heap.size ≤ w2.heap.size := hu2.size
      have HT2 := Lib.hid hto2
      have HRO2 := Lib.hid hro2
      obtain ⟨bg2, hbg2⟩ : ∃ x, x = bg + 1 := ⟨_, rfl⟩
      rw [← hbg2] at HT2 HACT0
      have hbgi : ((bg2 : Nat) : Int) - 1 = bg := by omega
      have HBGI := Lib.hid hbgi
      have hbg1' : 1 ≤ bg2 := by omega
      have hb20 : bg2 ≤ 20 := by omega
      clear hto2 hro2 hbgi hbg2
      go_wp2_with fail
      refine (run_event w2 B b o n bg2 pre post _ _ (.slice none 0 0) _ _ HT2.out (by omega) (by omega)).mono ?_
      rintro e w3 ⟨rfl, hb3⟩
      have hs3 := hb3.size
      go_wp2_with (at_builtin; go_must (refine app_litB eltEvR w3 rfl _ _ rfl w3.heap.size (.slice none 0 0) 0 [] rfl (World.ownsRow_nil _ _ _ _) 1 [.int .i64 0, .int .i64 n, .int .i64 ((bg2 : Int) - 1), .bool false, .int .i64 0, .slice none 0 0] _ rfl rfl rfl (one6R _ _ _ _ _ _ _ _) (by omega) (by omega) (Nat.le_refl _) ?_); intro v4 wt hown4 hg4 hblk4; rw [Nat.zero_add, List.nil_append] at hown4; obtain ⟨Ae, ce, rfl, hlc4⟩ := own_form hown4)
      all_goals (first | done | skip)
      have hb34 : Below w3.heap.size w3 wt := ⟨hg4.os, hg4.tape, hg4.output, by have := hg4.size; simp at this; omega, fun k hk => (hg4.block k (by simp; omega) (by simp [Value.ownBlock])).trans (Below.heap_alloc w3 _ k hk)⟩
      have hst := hb34.size
      have hb24 : Below w2.heap.size w2 wt := hb3.trans (hb34.mono hs3)
      obtain ⟨L, hL⟩ : ∃ L, L = live cl ar := ⟨_, rfl⟩
      have hLm : L.c ∈ m.cs := by rw [hL]; exact hLm0
      have hLO : LOk L := by rw [hL]; exact live_ok HARW.out
      obtain ⟨rows0, hrows0⟩ : ∃ r : List (List Value), r = [[.int .i64 0, .int .i64 n, .int .i64 ((bg2 : Int) - 1), .bool false, .int .i64 0, .slice none 0 0]] := ⟨_, rfl⟩
      obtain ⟨es0, hes0⟩ : ∃ e : List Ev, e = [⟨0, n, bg, false, 0, []⟩] := ⟨_, rfl⟩
      have HACT := Lib.hid (show actT m n ⟨none, bg⟩ ws = actL ⟨ws, fun _ => ⟨none, bg⟩, []⟩ 0 n bg2 L es0 by rw [hL, hes0]; exact HACT0.out)
      have HTo : Hid (To 86 3 pre (.int .i64 n :: .slice A1 n1 k1 :: .int .i64 bg2 :: post) wt B b o (.slice cA2 cn2 cc2) (.slice none 0 0) (.slice wA wn wc) ⟨L.p, L.r, ws, L.t⟩) := by
        rw [hL]; exact HT2.out.below hb24
      have HROt : Hid (RO wt wt.heap.size cA2 cn2 L.c) := by
        rw [hL]; exact Rd.more (Rd.below HRO2.out hb24) hb24.size
      have hfr : 0 < cn2 → ∀ g q, cA2 = some ⟨g, q, none⟩ → w.heap.size ≤ g ∧ g < w2.heap.size := by
        intro h0 g q hg
        have h1 : w1.heap.size ≤ g := hfr2 h0 g q hg
        obtain ⟨bb, oo, hA', hlt', _⟩ := Rd.at_ HRO2.out h0
        rw [hg] at hA'
        injection hA' with hA'
        injection hA' with hA' _
        omega
      have hwlt : ∀ k, (Value.slice wA wn wc).ownBlock = some k → k < w.heap.size := fun k hk => (HTH.out.words.lt k hk).2
      have HCBt : Hid (CB b cA2 cn2 (.slice none 0 0) (.slice wA wn wc)) := by
        intro h0 g q hg
        have := hfr h0 g q hg
        exact ⟨by omega, by simp [Value.ownBlock], fun hk => by have := hwlt g hk; omega⟩
      have HEVo : Hid (wt.ownsRow w.heap.size 51 6 (.slice Ae 1 ce) 1 rows0.flatten) := by
        rw [hrows0]
        exact own_low hown4 (by omega)
      have HEA : Hid (EvAt w b cA2 cn2 (.slice none 0 0) (.slice wA wn wc) (.slice Ae 1 ce) wt) := by
        intro k hk
        have := hown4.lt k hk
        refine ⟨by omega, by omega, by omega, by simp [Value.ownBlock], fun h => by have := hwlt k h; omega, fun h0 g q hg => by have := hfr h0 g q hg; omega⟩
      have HUT : Hid (Un (touch b b tv (.slice wA wn wc)) w wt) := by
        refine un_new (Y := fun _ => False) (w2 := w2) ?_ (un_below hb24) (fun _ h => h.elim)
        exact (un_below (X := touch b b tv (.slice wA wn wc)) hb1.drew).trans (hu2.wider (fun k _ hk => .inl hk))
      have hBt : B ≤ wt.heap.size := by omega
      have HTV2 : Hid (∀ k, (Value.slice none 0 0).ownBlock = some k → tv.ownBlock = some k ∨ (w.heap.size ≤ k ∧ k < wt.heap.size)) := fun k hk => by cases hk
      have HCA2 : Hid (0 < cn2 → ∀ g q, cA2 = some ⟨g, q, none⟩ → (cA2 = cA ∧ cn2 = cn) ∨ (w.heap.size ≤ g ∧ g < wt.heap.size)) := fun h0 g q hg => .inr (by have := hfr h0 g q hg; omega)
      have HR4 : Hid (∀ (M : Nat) (w' : World) (i : Nat) r x, rows0[i]? = some r → es0[i]? = some x → eP (fun g => M ≤ g) w' r x) := by
        intro M w' i r x hr hx
        rw [hrows0] at hr
        rw [hes0] at hx
        match i with
        | 0 =>
          simp at hr hx
          subst hr hx
          exact ⟨none, 0, 0, by simp only [evC]; rw [HBGI.out]; rfl, Nat.le_refl _, by omega, RI.nil _ _ _ _, fun h => absurd h (by omega)⟩
        | i + 1 => simp at hr
      have HK0 := Lib.hid (show 1 = es0.length by rw [hes0]; rfl)
      have HR1 := Lib.hid (show rows0.length = 1 by rw [hrows0]; rfl)
      have HR2 := Lib.hid (show ∀ r ∈ rows0, r.length = 6 by rw [hrows0]; intro r hr; rw [List.mem_singleton.1 hr]; rfl)
      obtain ⟨tv2, htv2⟩ : ∃ x : Value, x = .slice none 0 0 := ⟨_, rfl⟩
      rw [← htv2] at HTo HCBt HEA HTV2
      clear hL hrows0 hes0 htv2 hown4 hg4 hblk4 hfr hwlt

      obtain ⟨L', W', E, en, HX⟩ : ∃ L' W' E en, Hid (exc L ws = (L', W', E, en)) := ⟨_, _, _, _, rfl⟩
      have HXO := Lib.hid (exc_ok (HM.out.2.2.2.1 _ hLm) (HCOK.out _ hLm) hLO HW.out)
      go_wp2_with fail
      refine (vm_Stepx 86 _ _ o wt B wt.heap.size b cn2 cc2 wn wc cA2 wA tv2 L L' ws W' E en HTo.out hBt HROt.out (Nat.le_refl _) (HM.out.2.2.2.1 _ hLm) hLO HW.out HX.out).mono ?_
      rintro e w5 ⟨q, ⟨rfl, ⟨tv5, ho5, hb5⟩, hu5⟩, hen1, hen2⟩
      have HO5 := Lib.hid ho5
      have HEN1 := Lib.hid hen1
      have HEN2 := Lib.hid hen2
      have HU5 := Lib.hid hu5
      have HB5 := Lib.hid hb5
      have hl5 := ho5.lt
      have hst5 := hu5.size
      have HEV5 : Hid (w5.ownsRow w.heap.size 51 6 (Value.slice Ae 1 ce) 1 rows0.flatten) := ev_keep HEVo.out HEA.out hu5
      clear ho5 hen1 hen2 hu5 hb5
      go_wp2_with fail
      refine (vm_endedB 86 _ _ o w5 B b cn2 cc2 cA2 tv5 _ _ en HO5.out (by exact HEN1.out)).mono ?_
      rintro e w6 ⟨rfl, hb6, hs6⟩
      have hs6' := hb6.size
      have HO6 := Lib.hid (HO5.out.below hb6)
      have hl6 := HO6.out.lt
      cases en with
      | false =>
        go_wp2
        go_ret
        exact perf_end (m := m) (L := L) (L' := L') (rows := rows0) (es := es0) (M := w6.heap.size) (t' := ⟨some L', bg2⟩) (ev := (Value.slice Ae 1 ce)) (tv2 := tv2) (by rw [HACT.out, actL_on HX.out]) rfl (.inr ⟨rfl, HEN2.out (by first | rfl | trivial)⟩) HUT.out HO5.out HB5.out HU5.out HROt.out HCBt.out HEA.out HTV2.out HCA2.out (un_below hb6) hs6' HK0.out (by omega) HR1.out HR2.out (Rd.of_own (own_below HEV5.out hb6)) (HR4.out _ _) (fun h0 g q hg => ev_at HEVo.out hg)
      | true =>
        have HQ := Lib.hid (show q = cn2 from HEN1.out.1 (by first | rfl | trivial))
        have hlt200 : L'.t.length ≤ 200 := by have := HXO.out.2.1.2.2.2.2; rw [HX.out] at this; exact this
        go_wp2_with fail
        refine (run_event w6 B b o n bg2 pre post _ _ tv5 _ _ HO6.out (by omega) (by omega)).mono ?_
        rintro e w7 ⟨rfl, hb7⟩
        have hs7 := hb7.size
        have HO7 := Lib.hid (HO6.out.below hb7)
        have bx7 := Lib.hid (Box.newAt w7 51 [.int .i64 0, .int .i64 n, .int .i64 ((bg2 : Int) - 1), .bool false, .int .i64 0, .slice none 0 0] w7.heap.size rfl)
        have hb57 : Below w5.heap.size w5 w7 := hb6.trans (hb7.mono hs6')
        have hb57a := hb57.alloc (by omega) (Obj.cells #[.int .i64 0, .int .i64 n, .int .i64 ((bg2 : Int) - 1), .bool false, .int .i64 0, .slice none 0 0] 51)
        go_wp2_with fail
        refine (vm_Toldo 86 _ _ o _ B b _ tv5 _ _ (HO7.out.alloc _) hlt200).mono ?_
        rintro e w8 ⟨v8, rfl, hown8, hb8⟩
        obtain ⟨A8, c8, rfl, hlc8⟩ := own_form hown8
        have HOWN8 := Lib.hid hown8
        have hs8 : w7.heap.size + 1 ≤ w8.heap.size := by have := hb8.size; simp at this; exact this
        have HB8 := Lib.hid (bx7.out.below hb8 (by simp))
        have hb58 : Below w5.heap.size w5 w8 := hb57a.trans (hb8.mono (by simp; omega))
        have k0 : w8.cell? ⟨w7.heap.size, 0, none⟩ = _ := HB8.out.cell 0
        have k1' : w8.cell? ⟨w7.heap.size, 1, none⟩ = _ := HB8.out.cell 1
        have k2 : w8.cell? ⟨w7.heap.size, 2, none⟩ = _ := HB8.out.cell 2
        have k3 : w8.cell? ⟨w7.heap.size, 3, none⟩ = _ := HB8.out.cell 3
        have k4 : w8.cell? ⟨w7.heap.size, 4, none⟩ = _ := HB8.out.cell 4
        have k5 : w8.cell? ⟨w7.heap.size, 5, none⟩ = _ := HB8.out.cell 5
        simp only [List.getElem?_cons_zero, List.getElem?_cons_succ] at k0 k1' k2 k3 k4 k5
        have f3 := HB8.out.frozen 3
        have f4 := HB8.out.frozen 4
        have f5 := HB8.out.frozen 5
        have hl7 : w7.heap.size < w8.heap.size := by omega
        obtain ⟨n8, hn8⟩ : ∃ n8, n8 = L'.t.length := ⟨_, rfl⟩
        rw [← hn8] at HOWN8 hlc8 hlt200 ⊢
        have HN8 := Lib.hid hn8
        have HHB8 := Lib.hid hb8
        clear hown8 hn8 hb8
        obtain ⟨w9, hw9⟩ : ∃ w9, w9 = ((w8.setCell ⟨w7.heap.size, 3, none⟩ (.bool true)).setCell ⟨w7.heap.size, 4, none⟩ (.int .i64 E)).setCell ⟨w7.heap.size, 5, none⟩ (.slice A8 n8 c8) := ⟨_, rfl⟩
        have HW9 := Lib.hid hw9
        have hu89 : Un (fun k => k = w7.heap.size) w8 w9 := by
          rw [hw9]
          exact un_at (X := fun k => k = w7.heap.size) (un_at (X := fun k => k = w7.heap.size) (un_at (X := fun k => k = w7.heap.size) (Un.refl _ _) rfl _ _) rfl _ _) rfl _ _
        have hb59 : Below w5.heap.size w5 w9 := by
          rw [hw9]
          exact below_at (below_at (below_at hb58 (by omega) _ _) (by omega) _ _) (by omega) _ _
        have HEV9 := Lib.hid (own_below HEV5.out hb59)
        have hs9 : w8.heap.size ≤ w9.heap.size := hu89.size
        clear hw9
        go_wp2_with (at_builtin; go_must (refine app_litB eltEvR _ rfl _ _ rfl w.heap.size _ 1 rows0.flatten rfl (by rw [← HW9.out]; exact HEV9.out) 1 [.int .i64 0, .int .i64 n, .int .i64 ((bg2 : Int) - 1), .bool true, .int .i64 E, .slice A8 n8 c8] _ (by simp) rfl rfl (one6R _ _ _ _ _ _ _ _) (by omega) (by omega) (by rw [← HW9.out]; omega) ?_); rw [← HW9.out]; intro v10 w10 hown10 hg10 hblk10; obtain ⟨A10, c10, rfl, hlc10⟩ := own_form hown10)
        go_ret
        have hu59 : Un (fun k => some k = ((Value.slice Ae 1 ce) : Value).ownBlock) w5 w10 := un_grown ((un_below hb59).alloc _) hg10 (fun k hk => hk.symm)
        have hu910 : Un (fun k => some k = ((Value.slice Ae 1 ce) : Value).ownBlock) w9 w10 := un_grown ((Un.refl _ _).alloc _) hg10 (fun k hk => hk.symm)
        have hri8 : RI w8 w8.heap.size .i64 A8 n8 L'.t := Rd.of_own HOWN8.out
        have hge8 : ∀ g q, A8 = some ⟨g, q, none⟩ → w7.heap.size + 1 ≤ g := fun g q hg => by have := (HOWN8.out.lt g (by rw [hg]; rfl)).1; simp at this; exact this
        have hri10 : RI w10 w10.heap.size .i64 A8 n8 L'.t := by
          refine Rd.more (Rd.un (Rd.more (Rd.un hri8 hu89 (Nat.le_refl _) (fun _ g q hg he => by have := hge8 g q hg; omega)) hs9) hu910 (Nat.le_refl _) (fun _ g q hg he => ?_)) hu910.size
          have := (HEA.out g he.symm).2.1
          have := hge8 g q hg
          omega
        exact perf_end (m := m) (L := L) (L' := L') (rows := rows0 ++ [[.int .i64 0, .int .i64 n, .int .i64 ((bg2 : Int) - 1), .bool true, .int .i64 E, .slice A8 n8 c8]]) (es := es0 ++ [⟨0, n, bg2 - 1, true, E, L'.t⟩]) (M := w7.heap.size + 1) (t' := ⟨none, bg2⟩) (ev := (Value.slice Ae 1 ce)) (tv2 := tv2) (by rw [HACT.out, actL_end HX.out]) rfl (.inl ⟨rfl, HQ.out⟩) HUT.out HO5.out HB5.out HU5.out HROt.out HCBt.out HEA.out HTV2.out HCA2.out hu59 (by omega) (by rw [List.length_append, ← HK0.out]; rfl) (by omega) (by rw [List.length_append, HR1.out]; rfl)
          (fun r hr => by rcases List.mem_append.1 hr with hr | hr
                          · exact HR2.out r hr
                          · rw [List.mem_singleton.1 hr]; rfl)
          (by rw [List.flatten_append]; exact Rd.of_own hown10)
          (snoc_at HR1.out HK0.out (HR4.out _ _) ⟨A8, n8, c8, by simp only [evC]; rw [show ((bg2 - 1 : Nat) : Int) = (bg2 : Int) - 1 by omega]; rfl, hlc8, hlt200, hri10, fun _ g q hg => hge8 g q hg⟩)
          (fun h0 g q hg => ev_at hown10 hg)
  | some L =>
    obtain ⟨hLm, hLO, hLp, hbg1⟩ := hlive L rfl
    have hnow' : L = ⟨l, p, r, tl⟩ := by
      rcases hnow with h | h
      · cases h.1
      · injection h
    have ec : L.c = l := by rw [hnow']
    have ep : L.p = p := by rw [hnow']
    have er : L.r = r := by rw [hnow']
    have et : L.t = tl := by rw [hnow']
    rw [← ep, ← er, ← et] at HTH
    rw [← ec] at HRO
    clear hnow' hnow ec ep er et
    obtain ⟨bg2, hbg2⟩ : ∃ x, x = bg := ⟨_, rfl⟩
    rw [← hbg2] at HTH
    have hbg1' : 1 ≤ bg2 := by omega
    have HACT0 := Lib.hid (show actT m n ⟨some L, bg⟩ ws = actL ⟨ws, fun _ => ⟨some L, bg⟩, []⟩ 0 n bg2 L [] by rw [hbg2]; exact actT_live rfl)
    have hb20 : bg2 ≤ 20 := by omega
    clear hbg2
    have hLn : L.p ≠ cn := by have := HRO.out.len; omega
    obtain ⟨es0, hes0⟩ : ∃ e : List Ev, e = [] := ⟨_, rfl⟩
    obtain ⟨rows0, hrows0⟩ : ∃ e : List (List Value), e = [] := ⟨_, rfl⟩
    have HACT := Lib.hid (show actT m n ⟨some L, bg⟩ ws = actL ⟨ws, fun _ => ⟨some L, bg⟩, []⟩ 0 n bg2 L es0 by rw [hes0]; exact HACT0.out)
    have HLN := Lib.hid hLn
    clear hLn
    go_enter Tryd.func47, Tryd.ntmps47
    go_wp2_with fail
    refine (vm_endedB 86 _ _ o w B b cn cc0 cA tv _ _ false HTH.out (by simp; exact HLN.out)).mono ?_
    rintro e wt ⟨rfl, hb1, hs1⟩
    have hst := hb1.size
    have HTo := Lib.hid (HTH.out.below hb1)
    have HROt : Hid (RO wt wt.heap.size cA cn L.c) := Rd.more (Rd.below HRO.out hb1) hst
    obtain ⟨tv2, htv2⟩ : ∃ x, x = tv := ⟨_, rfl⟩
    obtain ⟨cA2, hcA2⟩ : ∃ x, x = cA := ⟨_, rfl⟩
    obtain ⟨cn2, hcn2⟩ : ∃ x, x = cn := ⟨_, rfl⟩
    obtain ⟨cc2, hcc2⟩ : ∃ x, x = cc0 := ⟨_, rfl⟩
    have HCBt : Hid (CB b cA2 cn2 tv2 (.slice wA wn wc)) := by rw [hcA2, hcn2, htv2]; exact HCB.out
    have HTV2 : Hid (∀ k, tv2.ownBlock = some k → tv.ownBlock = some k ∨ (w.heap.size ≤ k ∧ k < wt.heap.size)) := fun k hk => .inl (by rw [← htv2]; exact hk)
    have HCA2 : Hid (0 < cn2 → ∀ g q, cA2 = some ⟨g, q, none⟩ → (cA2 = cA ∧ cn2 = cn) ∨ (w.heap.size ≤ g ∧ g < wt.heap.size)) := fun h0 g q hg => .inl ⟨hcA2, hcn2⟩
    rw [← htv2, ← hcA2, ← hcn2, ← hcc2] at HTo
    rw [← hcA2, ← hcn2] at HROt
    have HEVo : Hid (wt.ownsRow w.heap.size 51 6 (Value.slice none 0 0) 0 rows0.flatten) := by rw [hrows0]; exact World.ownsRow_nil _ _ _ _
    have HEA : Hid (EvAt w b cA2 cn2 tv2 (.slice wA wn wc) (.slice none 0 0) wt) := fun k hk => by cases hk
    have HUT : Hid (Un (touch b b tv (.slice wA wn wc)) w wt) := un_below hb1
    have hBt : B ≤ wt.heap.size := by omega
    have HR4 : Hid (∀ (M : Nat) (w' : World) (i : Nat) r x, rows0[i]? = some r → es0[i]? = some x → eP (fun g => M ≤ g) w' r x) := by
      intro M w' i r x hr hx
      rw [hrows0] at hr
      simp at hr
    have HK0 := Lib.hid (show 0 = es0.length by rw [hes0]; rfl)
    have HR1 := Lib.hid (show rows0.length = 0 by rw [hrows0]; rfl)
    have HR2 := Lib.hid (show ∀ r ∈ rows0, r.length = 6 by rw [hrows0]; intro r hr; simp at hr)
    clear htv2 hcA2 hcn2 hcc2 hes0 hrows0

    obtain ⟨L', W', E, en, HX⟩ : ∃ L' W' E en, Hid (exc L ws = (L', W', E, en)) := ⟨_, _, _, _, rfl⟩
    have HXO := Lib.hid (exc_ok (HM.out.2.2.2.1 _ hLm) (HCOK.out _ hLm) hLO HW.out)
    go_wp2_with fail
    refine (vm_Stepx 86 _ _ o wt B wt.heap.size b cn2 cc2 wn wc cA2 wA tv2 L L' ws W' E en HTo.out hBt HROt.out (Nat.le_refl _) (HM.out.2.2.2.1 _ hLm) hLO HW.out HX.out).mono ?_
    rintro e w5 ⟨q, ⟨rfl, ⟨tv5, ho5, hb5⟩, hu5⟩, hen1, hen2⟩
    have HO5 := Lib.hid ho5
    have HEN1 := Lib.hid hen1
    have HEN2 := Lib.hid hen2
    have HU5 := Lib.hid hu5
    have HB5 := Lib.hid hb5
    have hl5 := ho5.lt
    have hst5 := hu5.size
    have HEV5 : Hid (w5.ownsRow w.heap.size 51 6 (Value.slice none 0 0) 0 rows0.flatten) := ev_keep HEVo.out HEA.out hu5
    clear ho5 hen1 hen2 hu5 hb5
    go_wp2_with fail
    refine (vm_endedB 86 _ _ o w5 B b cn2 cc2 cA2 tv5 _ _ en HO5.out (by exact HEN1.out)).mono ?_
    rintro e w6 ⟨rfl, hb6, hs6⟩
    have hs6' := hb6.size
    have HO6 := Lib.hid (HO5.out.below hb6)
    have hl6 := HO6.out.lt
    cases en with
    | false =>
      go_wp2
      go_ret
      exact perf_end (m := m) (L := L) (L' := L') (rows := rows0) (es := es0) (M := w6.heap.size) (t' := ⟨some L', bg2⟩) (ev := (Value.slice none 0 0)) (tv2 := tv2) (by rw [HACT.out, actL_on HX.out]) rfl (.inr ⟨rfl, HEN2.out (by first | rfl | trivial)⟩) HUT.out HO5.out HB5.out HU5.out HROt.out HCBt.out HEA.out HTV2.out HCA2.out (un_below hb6) hs6' HK0.out (by omega) HR1.out HR2.out (Rd.of_own (own_below HEV5.out hb6)) (HR4.out _ _) (fun h0 g q hg => ev_at HEVo.out hg)
    | true =>
      have HQ := Lib.hid (show q = cn2 from HEN1.out.1 (by first | rfl | trivial))
      have hlt200 : L'.t.length ≤ 200 := by have := HXO.out.2.1.2.2.2.2; rw [HX.out] at this; exact this
      go_wp2_with fail
      refine (run_event w6 B b o n bg2 pre post _ _ tv5 _ _ HO6.out (by omega) (by omega)).mono ?_
      rintro e w7 ⟨rfl, hb7⟩
      have hs7 := hb7.size
      have HO7 := Lib.hid (HO6.out.below hb7)
      have bx7 := Lib.hid (Box.newAt w7 51 [.int .i64 0, .int .i64 n, .int .i64 ((bg2 : Int) - 1), .bool false, .int .i64 0, .slice none 0 0] w7.heap.size rfl)
      have hb57 : Below w5.heap.size w5 w7 := hb6.trans (hb7.mono hs6')
      have hb57a := hb57.alloc (by omega) (Obj.cells #[.int .i64 0, .int .i64 n, .int .i64 ((bg2 : Int) - 1), .bool false, .int .i64 0, .slice none 0 0] 51)
      go_wp2_with fail
      refine (vm_Toldo 86 _ _ o _ B b _ tv5 _ _ (HO7.out.alloc _) hlt200).mono ?_
      rintro e w8 ⟨v8, rfl, hown8, hb8⟩
      obtain ⟨A8, c8, rfl, hlc8⟩ := own_form hown8
      have HOWN8 := Lib.hid hown8
      have hs8 : w7.heap.size + 1 ≤ w8.heap.size := by have := hb8.size; simp at this; exact this
      have HB8 := Lib.hid (bx7.out.below hb8 (by simp))
      have hb58 : Below w5.heap.size w5 w8 := hb57a.trans (hb8.mono (by simp; omega))
      have k0 : w8.cell? ⟨w7.heap.size, 0, none⟩ = _ := HB8.out.cell 0
      have k1' : w8.cell? ⟨w7.heap.size, 1, none⟩ = _ := HB8.out.cell 1
      have k2 : w8.cell? ⟨w7.heap.size, 2, none⟩ = _ := HB8.out.cell 2
      have k3 : w8.cell? ⟨w7.heap.size, 3, none⟩ = _ := HB8.out.cell 3
      have k4 : w8.cell? ⟨w7.heap.size, 4, none⟩ = _ := HB8.out.cell 4
      have k5 : w8.cell? ⟨w7.heap.size, 5, none⟩ = _ := HB8.out.cell 5
      simp only [List.getElem?_cons_zero, List.getElem?_cons_succ] at k0 k1' k2 k3 k4 k5
      have f3 := HB8.out.frozen 3
      have f4 := HB8.out.frozen 4
      have f5 := HB8.out.frozen 5
      have hl7 : w7.heap.size < w8.heap.size := by omega
      obtain ⟨n8, hn8⟩ : ∃ n8, n8 = L'.t.length := ⟨_, rfl⟩
      rw [← hn8] at HOWN8 hlc8 hlt200 ⊢
      have HN8 := Lib.hid hn8
      have HHB8 := Lib.hid hb8
      clear hown8 hn8 hb8
      obtain ⟨w9, hw9⟩ : ∃ w9, w9 = ((w8.setCell ⟨w7.heap.size, 3, none⟩ (.bool true)).setCell ⟨w7.heap.size, 4, none⟩ (.int .i64 E)).setCell ⟨w7.heap.size, 5, none⟩ (.slice A8 n8 c8) := ⟨_, rfl⟩
      have HW9 := Lib.hid hw9
      have hu89 : Un (fun k => k = w7.heap.size) w8 w9 := by
        rw [hw9]
        exact un_at (X := fun k => k = w7.heap.size) (un_at (X := fun k => k = w7.heap.size) (un_at (X := fun k => k = w7.heap.size) (Un.refl _ _) rfl _ _) rfl _ _) rfl _ _
      have hb59 : Below w5.heap.size w5 w9 := by
        rw [hw9]
        exact below_at (below_at (below_at hb58 (by omega) _ _) (by omega) _ _) (by omega) _ _
      have HEV9 := Lib.hid (own_below HEV5.out hb59)
      have hs9 : w8.heap.size ≤ w9.heap.size := hu89.size
      clear hw9
      go_wp2_with (at_builtin; go_must (refine app_litB eltEvR _ rfl _ _ rfl w.heap.size _ 0 rows0.flatten rfl (by rw [← HW9.out]; exact HEV9.out) 1 [.int .i64 0, .int .i64 n, .int .i64 ((bg2 : Int) - 1), .bool true, .int .i64 E, .slice A8 n8 c8] _ (by simp) rfl rfl (one6R _ _ _ _ _ _ _ _) (by omega) (by omega) (by rw [← HW9.out]; omega) ?_); rw [← HW9.out]; intro v10 w10 hown10 hg10 hblk10; obtain ⟨A10, c10, rfl, hlc10⟩ := own_form hown10)
      go_ret
      have hu59 : Un (fun k => some k = ((Value.slice none 0 0) : Value).ownBlock) w5 w10 := un_grown ((un_below hb59).alloc _) hg10 (fun k hk => hk.symm)
      have hu910 : Un (fun k => some k = ((Value.slice none 0 0) : Value).ownBlock) w9 w10 := un_grown ((Un.refl _ _).alloc _) hg10 (fun k hk => hk.symm)
      have hri8 : RI w8 w8.heap.size .i64 A8 n8 L'.t := Rd.of_own HOWN8.out
      have hge8 : ∀ g q, A8 = some ⟨g, q, none⟩ → w7.heap.size + 1 ≤ g := fun g q hg => by have := (HOWN8.out.lt g (by rw [hg]; rfl)).1; simp at this; exact this
      have hri10 : RI w10 w10.heap.size .i64 A8 n8 L'.t := by
        refine Rd.more (Rd.un (Rd.more (Rd.un hri8 hu89 (Nat.le_refl _) (fun _ g q hg he => by have := hge8 g q hg; omega)) hs9) hu910 (Nat.le_refl _) (fun _ g q hg he => ?_)) hu910.size
        have := (HEA.out g he.symm).2.1
        have := hge8 g q hg
        omega
      exact perf_end (m := m) (L := L) (L' := L') (rows := rows0 ++ [[.int .i64 0, .int .i64 n, .int .i64 ((bg2 : Int) - 1), .bool true, .int .i64 E, .slice A8 n8 c8]]) (es := es0 ++ [⟨0, n, bg2 - 1, true, E, L'.t⟩]) (M := w7.heap.size + 1) (t' := ⟨none, bg2⟩) (ev := (Value.slice none 0 0)) (tv2 := tv2) (by rw [HACT.out, actL_end HX.out]) rfl (.inl ⟨rfl, HQ.out⟩) HUT.out HO5.out HB5.out HU5.out HROt.out HCBt.out HEA.out HTV2.out HCA2.out hu59 (by omega) (by rw [List.length_append, ← HK0.out]; rfl) (by omega) (by rw [List.length_append, HR1.out]; rfl)
        (fun r hr => by rcases List.mem_append.1 hr with hr | hr
                        · exact HR2.out r hr
                        · rw [List.mem_singleton.1 hr]; rfl)
        (by rw [List.flatten_append]; exact Rd.of_own hown10)
        (snoc_at HR1.out HK0.out (HR4.out _ _) ⟨A8, n8, c8, by simp only [evC]; rw [show ((bg2 - 1 : Nat) : Int) = (bg2 : Int) - 1 by omega]; rfl, hlc8, hlt200, hri10, fun _ g q hg => hge8 g q hg⟩)
        (fun h0 g q hg => ev_at hown10 hg)
end Go.Proofs.YtekkefbmdchekaaDoor
