/- Of this claim's own texts these, one behind the other: LogPure, ObjPure, CountAlg, ObjPure2. No statement of the seat is proved here; no condition but those that stand at the theorems. -/
import Derived.Test.YtnchgdjdfhfedaaGreatDoorPartAJ
import Derived.Test.YtnchgdjdfhfedaaGreatDoorPartAI
import Derived.Test.YtnchgdjdfhfedaaGreatDoorPartAH
set_option linter.unusedSimpArgs false
set_option linter.unusedVariables false
namespace Go.Baro

abbrev Key := Nat × Nat
/-- A log of a run's calls; Q: who has ended and told so is not in it. -/
structure Log (Q : Key → List Int → Prop) (D : List Dg) (L : List Key) : Prop where
  nd : L.Nodup
  mem : ∀ k ∈ L, ∃ d ∈ D, dKey d = k
  all : ∀ d ∈ D, d.e ≠ -1 → dKey d ∈ L ∨ Q (dKey d) d.to
  ord : L.Pairwise (fun a b => ∀ x ∈ D, ∀ y ∈ D, dKey x = a → dKey y = b → y.e ≠ -1 → (x.b : Int) ≤ y.e)
theorem Log.nil (Q : Key → List Int → Prop) : Log Q [] [] := ⟨by simp, by simp, by simp, by simp⟩
/-- A call begins. -/
theorem Log.begin {Q : Key → List Int → Prop} {D : List Dg} {L : List Key} (h : Log Q D L) {st n c : Nat} (hn : (n, c) ∉ L) : Log Q (D ++ [⟨st, -1, n, c, []⟩]) L := by
  refine ⟨h.nd, fun k hk => ?_, fun d hd he => ?_, ?_⟩
  · obtain ⟨d, hd, e⟩ := h.mem k hk
    exact ⟨d, by simp [hd], e⟩
  · rcases List.mem_append.1 hd with hd | hd
    · exact h.all d hd he
    · rw [List.mem_singleton.1 hd] at he; exact absurd rfl he
  · refine h.ord.imp_of_mem fun {a b} ha hb hab x hx y hy hxa hyb hye => ?_
    rcases List.mem_append.1 hx with hx | hx
    · rcases List.mem_append.1 hy with hy | hy
      · exact hab x hx y hy hxa hyb hye
      · rw [List.mem_singleton.1 hy] at hye; exact absurd rfl hye
    · rw [List.mem_singleton.1 hx] at hxa
      rw [← hxa] at ha; exact absurd ha hn
/-- A call takes effect. -/
theorem Log.push {Q : Key → List Int → Prop} {D : List Dg} {L : List Key} (h : Log Q D L) {o : Dg} (ho : o ∈ D) (he : o.e = -1) (hu : ∀ y ∈ D, dKey y = dKey o → y = o) (hn : dKey o ∉ L) : Log Q D (L ++ [dKey o]) := by
  refine ⟨?_, fun k hk => ?_, fun d hd hde => (h.all d hd hde).imp (fun h => by simp [h]) id, ?_⟩
  · rw [List.nodup_append]
    refine ⟨h.nd, by simp, fun a ha b hb => ?_⟩
    rw [List.mem_singleton.1 hb]
    rintro rfl; exact hn ha
  · rcases List.mem_append.1 hk with hk | hk
    · exact h.mem k hk
    · exact ⟨o, ho, (List.mem_singleton.1 hk).symm⟩
  · rw [List.pairwise_append]
    refine ⟨h.ord, by simp, fun a ha b hb x hx y hy hxa hyb hye => ?_⟩
    rw [List.mem_singleton.1 hb] at hyb
    rw [hu y hy hyb] at hye
    exact absurd he hye
/-- A call ends. -/
theorem Log.end {Q : Key → List Int → Prop} {D D' : List Dg} {L : List Key} (h : Log Q D L) {o o' : Dg} {st : Nat} (ho : o ∈ D) (hk : dKey o' = dKey o) (hb : o'.b = o.b) (he : o'.e = st) (hl : dKey o ∈ L ∨ Q (dKey o) o'.to) (hu : ∀ y ∈ D, dKey y = dKey o → y = o) (hbd : ∀ y ∈ D, y.b ≤ st)
    (hD : ∀ y ∈ D', (y ∈ D ∧ y ≠ o) ∨ y = o') (hD2 : ∀ y ∈ D, y ≠ o → y ∈ D') (ho' : o' ∈ D') : Log Q D' L := by
  have hb' : ∀ y ∈ D', y.b ≤ st := fun y hy => by
    rcases hD y hy with ⟨h1, _⟩ | rfl
    · exact hbd y h1
    · rw [hb]; exact hbd o ho
  refine ⟨h.nd, fun k hkl => ?_, fun d hd hde => ?_, ?_⟩
  · obtain ⟨d, hd, e⟩ := h.mem k hkl
    by_cases hdo : d = o
    · subst hdo; exact ⟨o', ho', hk.trans e⟩
    · exact ⟨d, hD2 d hd hdo, e⟩
  · rcases hD d hd with ⟨h1, _⟩ | rfl
    · exact h.all d h1 hde
    · rw [hk]; exact hl
  · refine h.ord.imp_of_mem fun {a b} ha hbm hab x hx y hy hxa hyb hye => ?_
    rcases hD y hy with ⟨hy1, hy2⟩ | rfl
    · rcases hD x hx with ⟨hx1, _⟩ | rfl
      · exact hab x hx1 y hy1 hxa hyb hye
      · rw [hb]; exact hab o ho y hy1 (hk.symm.trans hxa) hyb hye
    · rw [he]
      have := hb' x hx
      omega
/-- Those that are not in it may be left out. -/
theorem Log.sub {Q : Key → List Int → Prop} {D D1 : List Dg} {L : List Key} (h : Log Q D L) (h1 : ∀ d ∈ D1, d ∈ D) (h2 : ∀ d ∈ D, dKey d ∈ L → d ∈ D1) (h3 : ∀ d ∈ D1, d.e ≠ -1 → dKey d ∈ L) : Log (fun _ _ => False) D1 L := by
  refine ⟨h.nd, fun k hk => ?_, fun d hd he => .inl (h3 d hd he), h.ord.imp fun hab x hx y hy => hab x (h1 x hx) y (h1 y hy)⟩
  obtain ⟨d, hd, e⟩ := h.mem k hk
  exact ⟨d, h2 d hd (by rw [e]; exact hk), e⟩
/-- One behind the other, those that have ended tell their values. -/
def runsE (k : Int) : List Int → List Ac → Prop
  | _, [] => True
  | has, a :: l => (a.e ≠ -1 → (tel k has a).1 = a.v) ∧ runsE k (tel k has a).2 l
theorem lin_partE {k : Int} {l2 : List Ac} (h2 : ∀ a ∈ l2, a.e = -1) : ∀ (l1 : List Ac) (has : List Int), runsE k has l1 → l1.Pairwise (fun a b => b.e ≠ -1 → a.b ≤ b.e) → (∀ a ∈ l1, a.e ≠ -1 → a.b ≤ a.e) → Lin k has (l1 ++ l2)
  | [], has, _, _, _ => .done h2
  | a :: l1, has, hr, hp, hs => by
    rw [List.pairwise_cons] at hp
    refine .step a (l1 ++ l2) (List.Perm.refl _) (fun b hb hb1 => ?_) hr.1 (lin_partE h2 l1 _ hr.2 hp.2 (fun b hb => hs b (by simp [hb])))
    rw [List.cons_append] at hb
    rcases List.mem_cons.1 hb with rfl | hb
    · exact hs _ (by simp) hb1
    · rcases List.mem_append.1 hb with hb | hb
      · exact hp.1 b hb hb1
      · exact absurd (h2 b hb) hb1
/-- What the log makes of an object: g tells what a call does, rs what it is told. -/
inductive LogR (k : Int) (g : Key → Ac) (rs : Key → Int) : List Int → List Key → List Int → Prop
  | nil (has : List Int) : LogR k g rs has [] has
  | snoc {has h : List Int} {L : List Key} (key : Key) (hl : LogR k g rs has L h) (hr : (tel k h (g key)).1 = rs key) : LogR k g rs has (L ++ [key]) (tel k h (g key)).2
theorem LogR.frame {k : Int} {g g' : Key → Ac} {rs rs' : Key → Int} {has h : List Int} {L : List Key} (hl : LogR k g rs has L h) (hf : ∀ x ∈ L, g' x = g x ∧ rs' x = rs x) : LogR k g' rs' has L h := by
  induction hl with
  | nil => exact .nil _
  | @snoc h L key hl hr ih =>
    have h1 := hf key (by simp)
    have := LogR.snoc (k := k) (g := g') (rs := rs') key (ih fun x hx => hf x (by simp [hx])) (by rw [h1.1, h1.2]; exact hr)
    rwa [h1.1] at this
theorem tel_same {k : Int} {has : List Int} {a b : Ac} (h1 : a.put = b.put) (h2 : a.add = b.add) (h3 : a.put = true → k ≠ 2 → a.v = b.v) : tel k has a = tel k has b := by
  unfold tel
  rw [← h1, ← h2]
  by_cases hp : a.put = true
  · by_cases hk : k = 2
    · subst hk; simp
    · rw [← h3 hp hk]
  · simp [hp]
theorem runsE_snoc {k : Int} : ∀ (l : List Ac) (has h : List Int) (a : Ac), runsE k has l → l.foldl (fun h a => (tel k h a).2) has = h → (a.e ≠ -1 → (tel k h a).1 = a.v) → runsE k has (l ++ [a])
  | [], has, h, a, _, hf, ha => ⟨by subst hf; exact ha, trivial⟩
  | b :: l, has, h, a, hr, hf, ha => ⟨hr.1, runsE_snoc l _ h a hr.2 hf ha⟩
/-- The calls of the log, in its order. -/
theorem LogR.runs {k : Int} {g : Key → Ac} {rs : Key → Int} {has h : List Int} {L : List Key} (hl : LogR k g rs has L h) (F : Key → Ac) (hF : ∀ x ∈ L, (F x).put = (g x).put ∧ (F x).add = (g x).add ∧ ((g x).put = true → k ≠ 2 → (F x).v = (g x).v) ∧ ((F x).e ≠ -1 → (F x).v = rs x)) :
    runsE k has (L.map F) ∧ (L.map F).foldl (fun h a => (tel k h a).2) has = h := by
  induction hl with
  | nil => exact ⟨trivial, rfl⟩
  | @snoc h L key hl hr ih =>
    obtain ⟨i1, i2⟩ := ih fun x hx => hF x (by simp [hx])
    obtain ⟨f1, f2, f3, f4⟩ := hF key (by simp)
    have ht : tel k h (F key) = tel k h (g key) := tel_same f1 f2 (fun hp hk => f3 (by rw [← f1]; exact hp) hk)
    rw [List.map_append, List.map_singleton]
    refine ⟨runsE_snoc _ _ h _ i1 i2 (fun he => by rw [ht, hr, f4 he]), ?_⟩
    rw [List.foldl_append, i2]
    show (tel k h (F key)).2 = _
    rw [ht]
/-- The calls can be put behind one another. -/
theorem Log.lin {D : List Dg} {L : List Key} (h : Log (fun _ _ => False) D L) (hnd : (D.map dKey).Nodup) {k : Int} {g : Key → Ac} {rs : Key → Int} {has hs : List Int} (hl : LogR k g rs has L hs) (f : Dg → Ac)
    (hf : ∀ d ∈ D, (f d).b = d.b ∧ (f d).e = d.e ∧ (d.e ≠ -1 → (d.b : Int) ≤ d.e) ∧ (f d).put = (g (dKey d)).put ∧ (f d).add = (g (dKey d)).add ∧ ((g (dKey d)).put = true → k ≠ 2 → (f d).v = (g (dKey d)).v) ∧ (d.e ≠ -1 → (f d).v = rs (dKey d))) : Lin k has (D.map f) := by
  have hone : ∀ {a b : Dg}, a ∈ D → b ∈ D → dKey a = dKey b → a = b := fun ha hb he => nodup_one hnd ha hb he
  -- the call of a key
  let F : Key → Option Dg := fun x => D.find? fun d => decide (dKey d = x)
  have hFs : ∀ x ∈ L, ∃ d ∈ D, F x = some d ∧ dKey d = x := fun x hx => by
    obtain ⟨d, hd, e⟩ := h.mem x hx
    cases hF : F x with
    | none =>
      have := List.find?_eq_none.1 hF d hd
      simp [e] at this
    | some d' =>
      have h1 := List.find?_some hF
      exact ⟨d', List.mem_of_find?_eq_some hF, rfl, by simpa using h1⟩
  let C : Key → Dg := fun x => (F x).getD ⟨0, -1, x.1, x.2, []⟩
  have hC : ∀ x ∈ L, C x ∈ D ∧ dKey (C x) = x := fun x hx => by
    obtain ⟨d, hd, e1, e2⟩ := hFs x hx
    have : C x = d := by show (F x).getD _ = d; rw [e1]; rfl
    rw [this]; exact ⟨hd, e2⟩
  have hDn : D.Nodup := (List.pairwise_map.1 hnd).imp fun h e => h (congrArg _ e)
  have hperm : D.Perm (L.map C ++ D.filter fun d => !decide (dKey d ∈ L)) := by
    rw [List.perm_ext_iff_of_nodup hDn]
    · intro d
      rw [List.mem_append]
      constructor
      · intro hd
        by_cases hdl : dKey d ∈ L
        · left
          obtain ⟨h1, h2⟩ := hC _ hdl
          rw [← hone h1 hd h2]
          exact List.mem_map_of_mem hdl
        · right
          simp [hd, hdl]
      · rintro (hd | hd)
        · obtain ⟨x, hx, rfl⟩ := List.mem_map.1 hd
          exact (hC x hx).1
        · exact (List.mem_filter.1 hd).1
    · rw [List.nodup_append]
      refine ⟨?_, hDn.filter _, fun a ha b hb => ?_⟩
      · refine List.Pairwise.map _ (R := fun a b => a ≠ b ∧ a ∈ L ∧ b ∈ L) (fun a b hab e => ?_) ?_
        · have := congrArg dKey e
          rw [(hC a hab.2.1).2, (hC b hab.2.2).2] at this
          exact hab.1 this
        · exact h.nd.imp_of_mem fun ha hb hab => ⟨hab, ha, hb⟩
      · obtain ⟨x, hx, rfl⟩ := List.mem_map.1 ha
        have hb2 := (List.mem_filter.1 hb).2
        rintro rfl
        rw [(hC x hx).2] at hb2
        simp [hx] at hb2
  refine (?_ : Lin k has ((L.map C ++ D.filter fun d => !decide (dKey d ∈ L)).map f)).perm (hperm.map f).symm
  rw [List.map_append, List.map_map]
  obtain ⟨r1, r2⟩ := hl.runs (f ∘ C) (fun x hx => by
    obtain ⟨h1, h2⟩ := hC x hx
    obtain ⟨q1, q2, q3, q4, q5, q6, q7⟩ := hf _ h1
    rw [h2] at q4 q5 q6 q7
    exact ⟨q4, q5, q6, fun he => q7 (by rw [← q2]; exact he)⟩)
  refine lin_partE (fun a ha => ?_) _ _ r1 ?_ (fun a ha he => ?_)
  · obtain ⟨d, hd, rfl⟩ := List.mem_map.1 ha
    obtain ⟨hd1, hd2⟩ := List.mem_filter.1 hd
    rw [(hf d hd1).2.1]
    refine Classical.byContradiction fun he => ?_
    have := (h.all d hd1 he).elim id (fun h => h.elim)
    simp [this] at hd2
  · refine List.Pairwise.map _ (R := fun a b => (∀ x ∈ D, ∀ y ∈ D, dKey x = a → dKey y = b → y.e ≠ -1 → (x.b : Int) ≤ y.e) ∧ a ∈ L ∧ b ∈ L) (fun a b hab he => ?_) (h.ord.imp_of_mem fun ha hb hab => ⟨hab, ha, hb⟩)
    obtain ⟨a1, a2⟩ := hC a hab.2.1
    obtain ⟨b1, b2⟩ := hC b hab.2.2
    show (f (C a)).b ≤ (f (C b)).e
    rw [(hf _ a1).1, (hf _ b1).2.1]
    have he' : (f (C b)).e ≠ -1 := he
    rw [(hf _ b1).2.1] at he'
    exact hab.1 _ a1 _ b1 a2 b2 he'
  · obtain ⟨x, hx, rfl⟩ := List.mem_map.1 ha
    obtain ⟨h1, h2⟩ := hC x hx
    have he' : (f (C x)).e ≠ -1 := he
    show (f (C x)).b ≤ (f (C x)).e
    rw [(hf _ h1).1, (hf _ h1).2.1] at *
    exact (hf _ h1).2.2.1 he'
end Go.Baro

set_option linter.unusedSimpArgs false
set_option linter.unusedVariables false
namespace Go.Baro
open Go.RowKit (wrap64)

/-- Where a thread is within its call: the call's number, its code, place, registers, what it has told, whether it has taken effect, and of what it is told. -/
structure Lc where
  i : Nat
  c : List Ins
  p : Nat
  r : Int → Int
  l : List Int
  b : Bool
  v : Int
def putL (f : Nat → Option Lc) (n : Nat) (x : Option Lc) : Nat → Option Lc := fun i => if i = n then x else f i
theorem putL_same (f : Nat → Option Lc) (n : Nat) (x : Option Lc) : putL f n x n = x := by simp [putL]
theorem putL_other (f : Nat → Option Lc) {n i : Nat} (x : Option Lc) (h : i ≠ n) : putL f n x i = f i := by simp [putL, h]
/-- What is to be shown of an algorithm: A: the threads; k: the object; gK: what a call does; has0: what there is first; Fin: how a call ends (its key, what it told, whether it has taken effect, of what it was told). -/
structure ObjOk (Gh : Type) (m : Mc) (A : Nat → Prop) (k : Int) (gK : Key → Ac) (has0 : List Int) (Fin : Key → List Int → Bool → Int → Prop) (Inv : List Int → List Int → Gh → (Nat → Option Lc) → Prop) : Prop where
  zero : ∃ gh, Inv m.ws has0 gh (fun _ => none)
  start : ∀ w has gh loc t (i : Nat) c, A t → Inv w has gh loc → loc t = none → (m.ts[t]?.getD [])[i]? = some c → (m.cs[c.k.toNat]?.getD []) ≠ [] ∧ ∃ gh', Inv w has gh' (putL loc t (some ⟨i, m.cs[c.k.toNat]?.getD [], 0, (st0 c.ar []).r, [], false, 0⟩))
  step : ∀ w has gh loc t i c p r l b v, A t → Inv w has gh loc → loc t = some ⟨i, c, p, r, l, b, v⟩ → p ≠ c.length → ∃ p' r' l' w' b' v' has' gh', Nx c p r l w p' r' l' w' ∧ ((b' = b ∧ v' = v ∧ has' = has) ∨ (b = false ∧ b' = true ∧ tel k has (gK (t, i)) = (v', has'))) ∧
    (p' ≠ c.length → Inv w' has' gh' (putL loc t (some ⟨i, c, p', r', l', b', v'⟩))) ∧ (p' = c.length → Fin (t, i) l' b' v' ∧ Inv w' has' gh' (putL loc t none))
structure ObjJ {Gh : Type} (A : Nat → Prop) (k : Int) (gK : Key → Ac) (has0 : List Int) (Fin : Key → List Int → Bool → Int → Prop) (Inv : List Int → List Int → Gh → (Nat → Option Lc) → Prop) (S : List Nat) (sb : Nat) (g : Gs) (L : List Key) (rs : Key → Int) (has : List Int) (gh : Gh) (loc : Nat → Option Lc) : Prop where
  log : Log (fun x to => ∃ v, Fin x to false v) (dgs g.out) L
  run : LogR k gK rs has0 L has
  inv : Inv g.w has gh loc
  new : ∀ t c, (g.th t).bg ≤ c → (t, c) ∉ L
  out : ∀ t, (g.th t).now = none ↔ loc t = none
  at_ : ∀ t i c p r l b v, loc t = some ⟨i, c, p, r, l, b, v⟩ → (g.th t).now = some ⟨c, (p : Nat), r, l⟩ ∧ p ≠ c.length ∧ i + 1 = (g.th t).bg ∧ ((t, i) ∈ L ↔ b = true) ∧ (b = true → rs (t, i) = v)
  told : ∀ d ∈ dgs g.out, d.e ≠ -1 → Fin (dKey d) d.to (decide (dKey d ∈ L)) (if dKey d ∈ L then rs (dKey d) else 0) ∨ ∃ v, dKey d ∉ L ∧ Fin (dKey d) d.to false v
  th : ∀ d ∈ dgs g.out, A d.th
  hs : Hs sb S.length g
  err : noErr g
section
variable {Gh : Type} {m : Mc} {A : Nat → Prop} {k : Int} {gK : Key → Ac} {has0 : List Int} {Fin : Key → List Int → Bool → Int → Prop} {Inv : List Int → List Int → Gh → (Nat → Option Lc) → Prop}
variable {S : List Nat} {sb : Nat} {g : Gs} {L : List Key} {rs : Key → Int} {has : List Int} {gh : Gh} {loc : Nat → Option Lc} {n : Nat}
theorem obj_zero (ho : ObjOk Gh m A k gK has0 Fin Inv) : ∃ gh, ObjJ A k gK has0 Fin Inv [] 0 (g0 m) [] (fun _ => 0) has0 gh (fun _ => none) := by
  obtain ⟨gh, h⟩ := ho.zero
  refine ⟨gh, Log.nil _, .nil _, h, fun _ _ _ => ?_, fun t => ?_, fun t i c p r l b v h => ?_, fun d hd => ?_, fun d hd => ?_, hs_zero m, fun x hx => ?_⟩
  · simp
  · simp [g0]
  · cases h
  · simp [g0, dgs] at hd
  · simp [g0, dgs] at hd
  · simp [g0] at hx
theorem obj_begin (ho : ObjOk Gh m A k gK has0 Fin Inv) (hn : A n) (H : ObjJ A k gK has0 Fin Inv S S.length g L rs has gh loc) : ∃ gh' loc', ObjJ A k gK has0 Fin Inv S (S.length + 1) (bgG m g S.length n) L rs has gh' loc' := by
  have hhs := hs_begin (m := m) (n := n) H.hs
  rcases bgG_cases m g S.length n with ⟨h1, _⟩ | ⟨c, h1, h2, h3⟩
  · rw [h1] at hhs ⊢; exact ⟨gh, loc, H.log, H.run, H.inv, H.new, H.out, H.at_, H.told, H.th, hhs, H.err⟩
  · rw [h3] at hhs ⊢
    obtain ⟨hne, gh', hI⟩ := ho.start _ _ _ _ n _ c hn H.inv ((H.out n).1 h1) h2
    refine ⟨gh', _, ?_, H.run, hI, fun t c' hc => ?_, fun t => ?_, fun t i c' p r l b v hl => ?_, fun d hd he => ?_, fun d hd => ?_, hhs, fun x hx hen => ?_⟩
    · dsimp only
      rw [dgs_begin]
      exact H.log.begin (H.new n _ (Nat.le_refl _))
    · dsimp only at hc
      by_cases ht : t = n
      · subst ht
        rw [putT_same] at hc
        exact H.new t c' (by dsimp only at hc; omega)
      · rw [putT_other _ _ ht] at hc; exact H.new t c' hc
    · dsimp only
      by_cases ht : t = n
      · subst ht; rw [putT_same, putL_same]; simp
      · rw [putT_other _ _ ht, putL_other _ _ ht]; exact H.out t
    · dsimp only
      by_cases ht : t = n
      · subst ht
        rw [putL_same] at hl
        injection hl with hl
        injection hl with e1 e2 e3 e4 e5 e6 e7
        subst e1 e2 e3 e4 e5 e6 e7
        rw [putT_same]
        refine ⟨rfl, ?_, rfl, ?_, fun h => by cases h⟩
        · intro e
          exact hne (List.eq_nil_of_length_eq_zero e.symm)
        · simp [H.new t _ (Nat.le_refl _)]
      · rw [putL_other _ _ ht] at hl
        rw [putT_other _ _ ht]
        exact H.at_ t i c' p r l b v hl
    · dsimp only at hd
      rw [dgs_begin] at hd
      rcases List.mem_append.1 hd with hd | hd
      · exact H.told d hd he
      · rw [List.mem_singleton.1 hd] at he; exact absurd rfl he
    · dsimp only at hd
      rw [dgs_begin] at hd
      rcases List.mem_append.1 hd with hd | hd
      · exact H.th d hd
      · rw [List.mem_singleton.1 hd]; exact hn
    · rcases List.mem_append.1 hx with hx | hx
      · exact H.err x hx hen
      · rw [List.mem_singleton.1 hx] at hen; cases hen
theorem obj_exec (ho : ObjOk Gh m A k gK has0 Fin Inv) (hn : A n) (H : ObjJ A k gK has0 Fin Inv S (S.length + 1) g L rs has gh loc) : ∃ L' rs' has' gh' loc', ObjJ A k gK has0 Fin Inv (S ++ [n]) (S.length + 1) (exG g S.length n) L' rs' has' gh' loc' := by
  have hhs := hs_exec (n := n) H.hs
  have hlen : (S ++ [n]).length = S.length + 1 := by simp
  cases hloc : loc n with
  | none =>
    have hnow := (H.out n).2 hloc
    rw [exG_none hnow] at hhs ⊢
    exact ⟨L, rs, has, gh, loc, H.log, H.run, H.inv, H.new, H.out, H.at_, H.told, H.th, by rw [hlen]; exact hhs, H.err⟩
  | some q =>
    obtain ⟨i, c, p, r, l, b, v⟩ := q
    obtain ⟨a1, a2, a3, a4, a5⟩ := H.at_ n i c p r l b v hloc
    obtain ⟨p', r', l', w', b', v', has', gh', k1, k2, k3, k4⟩ := ho.step _ _ _ _ n i c p r l b v hn H.inv hloc a2
    have hstep := exG_nx (st := S.length) a1 k1
    have hnone : (g.th n).now ≠ none := by rw [a1]; simp
    obtain ⟨o, ho1, ho2, ho3, ho4, ho5⟩ := H.hs.live hnone
    have hko : dKey o = (n, i) := by unfold dKey; rw [ho2]; congr 1; omega
    have huo : ∀ y ∈ dgs g.out, dKey y = dKey o → y = o := fun y hy e => by
      have e1 := congrArg Prod.fst e
      have e2 := congrArg Prod.snd e
      exact H.hs.one y hy o ho1 e1 e2
    -- the log behind the step
    obtain ⟨L', rs', q1, q2, q3, q4, q5, q6, q7⟩ : ∃ L' rs', Log (fun x to => ∃ v, Fin x to false v) (dgs g.out) L' ∧ LogR k gK rs' has0 L' has' ∧ (∀ t c, (g.th t).bg ≤ c → (t, c) ∉ L') ∧ ((n, i) ∈ L' ↔ b' = true) ∧ (b' = true → rs' (n, i) = v') ∧ (∀ x, x ≠ (n, i) → (x ∈ L' ↔ x ∈ L)) ∧ (∀ x, x ≠ (n, i) → rs' x = rs x) := by
      rcases k2 with ⟨e1, e2, e3⟩ | ⟨e1, e2, e3⟩
      · subst e1 e2 e3
        exact ⟨L, rs, H.log, H.run, H.new, a4, a5, fun _ _ => Iff.rfl, fun _ _ => rfl⟩
      · have hni : (n, i) ∉ L := fun h => by have := a4.1 h; rw [e1] at this; cases this
        have hp := H.log.push ho1 ho4 huo (by rw [hko]; exact hni)
        rw [hko] at hp
        have hr := LogR.snoc (n, i) (H.run.frame (g' := gK) (rs' := fun x => if x = (n, i) then v' else rs x) (fun x hx => ⟨rfl, if_neg (by rintro rfl; exact hni hx)⟩)) (by rw [e3]; simp)
        rw [e3] at hr
        refine ⟨_, _, hp, hr, fun t c hc hm => ?_, by simp [e2], fun _ => by simp, fun x hx => by simp [hx], fun x hx => by simp [hx]⟩
        rcases List.mem_append.1 hm with hm | hm
        · exact H.new t c hc hm
        · have := List.mem_singleton.1 hm
          injection this with t1 t2
          subst t1 t2
          omega
    by_cases hp : p' = c.length
    · rw [if_pos hp] at hstep
      rw [hstep] at hhs ⊢
      obtain ⟨hF, hI⟩ := k4 hp
      obtain ⟨o', ho1', o1, o2, o3, o4, o5, o6, o7⟩ := dgs_end (x := ⟨S.length, n, (g.th n).bg - 1, true, 0, l'⟩) H.hs (n := n) hnone rfl rfl rfl
      obtain rfl : o' = o := huo o' ho1' (by unfold dKey; rw [o1, o2, ho2, ho3])
      have hk' : dKey ⟨o'.b, S.length, n, (g.th n).bg - 1, l'⟩ = dKey o' := by unfold dKey; rw [ho2, ho3]
      have hmem : ∀ y ∈ dgs (g.out ++ [⟨S.length, n, (g.th n).bg - 1, true, 0, l'⟩]), (y ∈ dgs g.out ∧ y ≠ o') ∨ y = ⟨o'.b, S.length, n, (g.th n).bg - 1, l'⟩ := fun y hy => (o5 y hy).imp (fun h => ⟨h.1, h.2.1⟩) id
      refine ⟨L', rs', has', gh', putL loc n none, q1.end (st := S.length) ho1 hk' rfl rfl ?_ huo (fun y hy => by have := (H.hs.bnd y hy).1; omega) hmem o6 o7, q2, hI, fun t c' hc => ?_, fun t => ?_, fun t i' c' p'' r'' l'' b'' v'' hl => ?_, fun d hd he => ?_, fun d hd => ?_, by rw [hlen]; exact hhs, ?_⟩
      · rw [hko]
        by_cases hb : b' = true
        · exact .inl (q4.2 hb)
        · refine .inr ⟨v', ?_⟩
          have : b' = false := by simpa using hb
          rw [← this]; exact hF
      · dsimp only at hc
        by_cases ht : t = n
        · subst ht; rw [putT_same] at hc; exact q3 t c' hc
        · rw [putT_other _ _ ht] at hc; exact q3 t c' hc
      · dsimp only
        by_cases ht : t = n
        · subst ht; rw [putT_same, putL_same]; simp
        · rw [putT_other _ _ ht, putL_other _ _ ht]; exact H.out t
      · dsimp only
        have ht : t ≠ n := by rintro rfl; rw [putL_same] at hl; cases hl
        rw [putL_other _ _ ht] at hl
        rw [putT_other _ _ ht]
        have hx : (t, i') ≠ (n, i) := fun e => ht (congrArg Prod.fst e)
        rw [q6 _ hx, q7 _ hx]
        exact H.at_ t i' c' p'' r'' l'' b'' v'' hl
      · rcases hmem d hd with ⟨h1, h2⟩ | rfl
        · have hx : dKey d ≠ (n, i) := fun e => h2 (huo d h1 (by rw [hko]; exact e))
          have := H.told d h1 he
          simp only [q6 _ hx, q7 _ hx]
          exact this
        · rw [hk', hko]
          by_cases hb : b' = true
          · left
            have hm := q4.2 hb
            simp only [hm, decide_true, if_true, q5 hb]
            rw [hb] at hF; exact hF
          · right
            have hbf : b' = false := by simpa using hb
            refine ⟨v', fun h => hb (q4.1 h), ?_⟩
            rw [hbf] at hF; exact hF
      · rcases hmem d hd with ⟨h1, _⟩ | rfl
        · exact H.th d h1
        · exact hn
      · intro x hx he
        rcases List.mem_append.1 hx with hx | hx
        · exact H.err x hx he
        · rw [List.mem_singleton.1 hx]
    · rw [if_neg hp] at hstep
      rw [hstep] at hhs ⊢
      refine ⟨L', rs', has', gh', putL loc n (some ⟨i, c, p', r', l', b', v'⟩), q1, q2, k3 hp, fun t c' hc => ?_, fun t => ?_, fun t i' c' p'' r'' l'' b'' v'' hl => ?_, fun d hd he => ?_, H.th, by rw [hlen]; exact hhs, H.err⟩
      · dsimp only at hc
        by_cases ht : t = n
        · subst ht; rw [putT_same] at hc; exact q3 t c' hc
        · rw [putT_other _ _ ht] at hc; exact q3 t c' hc
      · dsimp only
        by_cases ht : t = n
        · subst ht; rw [putT_same, putL_same]; simp
        · rw [putT_other _ _ ht, putL_other _ _ ht]; exact H.out t
      · dsimp only
        by_cases ht : t = n
        · subst ht
          rw [putL_same] at hl
          injection hl with hl
          injection hl with e1 e2 e3 e4 e5 e6 e7
          subst e1 e2 e3 e4 e5 e6 e7
          rw [putT_same]
          exact ⟨rfl, hp, a3, q4, q5⟩
        · rw [putL_other _ _ ht] at hl
          rw [putT_other _ _ ht]
          have hx : (t, i') ≠ (n, i) := fun e => ht (congrArg Prod.fst e)
          rw [q6 _ hx, q7 _ hx]
          exact H.at_ t i' c' p'' r'' l'' b'' v'' hl
      · have hx : dKey d ≠ (n, i) := fun e => he (by rw [huo d hd (by rw [hko]; exact e)]; exact ho4)
        have := H.told d hd he
        simp only [q6 _ hx, q7 _ hx]
        exact this
/-- What holds of each run. -/
theorem obj_run (ho : ObjOk Gh m A k gK has0 Fin Inv) (S : List Nat) (hS : ∀ n ∈ S, A n) : ∃ L rs has gh loc, ObjJ A k gK has0 Fin Inv S S.length (plyG m 0 S (g0 m)) L rs has gh loc := by
  refine plyG_indS (I := fun S g => ∃ L rs has gh loc, ObjJ A k gK has0 Fin Inv S S.length g L rs has gh loc) (A := A) ?_ (fun S g n hn ⟨L, rs, has, gh, loc, H⟩ => ?_) S hS
  · obtain ⟨gh, h⟩ := obj_zero ho
    exact ⟨_, _, _, gh, _, h⟩
  · rw [actG_eq]
    obtain ⟨gh1, loc1, H1⟩ := obj_begin ho hn H
    obtain ⟨L', rs', has', gh', loc', H2⟩ := obj_exec ho hn H1
    refine ⟨L', rs', has', gh', loc', ?_⟩
    rw [List.length_append, List.length_singleton]
    exact H2
end
end Go.Baro

set_option linter.unusedSimpArgs false
set_option linter.unusedVariables false
namespace Go.Baro.Cnt
open Go.RowKit (wrap64)

def addC : List Ins := [⟨13, 1, 2, 0, 0⟩, ⟨3, 3, 1, 0, 0⟩, ⟨15, 3, 2, 0, 1⟩, ⟨12, 3, 0, 0, 0⟩, ⟨16, 1, 0, 0, 0⟩]
def getC : List Ins := [⟨13, 0, 1, 0, 0⟩, ⟨16, 0, 0, 0, 0⟩]
/-- What a call adds. -/
def byK (m : Mc) (x : Key) : Option Int := match (m.ts[x.1]?.getD [])[x.2]? with | some c => if c.k = 0 then some (c.ar.headD 0) else none | none => none
/-- What a call does. -/
def gK (m : Mc) (x : Key) : Ac := ⟨0, 0, (byK m x).isSome, 0, (byK m x).getD 0⟩
/-- A machine of count. -/
structure Mok (m : Mc) : Prop where
  ws : m.ws.length = 1
  in_ : ∀ x ∈ m.ws, wrap64 x = x
  cs : m.cs = [addC, getC]
  calls : ∀ (t i : Nat) (c : Cl), (m.ts[t]?.getD [])[i]? = some c → (c.k = 0 ∧ ∃ a, c.ar = [a]) ∨ (c.k = 1 ∧ c.ar = [])
/-- An Add of a: pc, registers, told so far, whether it is in the log. -/
inductive AA (a v : Int) : Nat → (Int → Int) → List Int → Bool → Prop
  | a0 (r : Int → Int) (A : r 0 = a) (Z : r 2 = 0) : AA a v 0 r [] false
  | a1 (r : Int → Int) (A : r 0 = a) (Z : r 2 = 0) : AA a v 1 r [] false
  | a2 (r : Int → Int) (A : r 0 = a) (Z : r 2 = 0) (N : r 3 = wrap64 (r 1 + a)) : AA a v 2 r [] false
  | no (r : Int → Int) (A : r 0 = a) (Z : r 2 = 0) (N : r 3 = 0) : AA a v 3 r [] false
  | yes (r : Int → Int) (N : r 3 = 1) (V : r 1 = v) : AA a v 3 r [] true
  | a4 (r : Int → Int) (V : r 1 = v) : AA a v 4 r [] true
  | fin (r : Int → Int) : AA a v 5 r [v] true
inductive GA (v : Int) : Nat → (Int → Int) → List Int → Bool → Prop
  | g0 (r : Int → Int) (Z : r 1 = 0) : GA v 0 r [] false
  | g1 (r : Int → Int) (V : r 0 = v) : GA v 1 r [] true
  | fin (r : Int → Int) : GA v 2 r [v] true
variable {m : Mc}
/-- What a step of a call leaves: the words, and whether it has taken effect, and of what it tells. -/
def Eff (m : Mc) (x : Key) (w : List Int) (b : Bool) (w' : List Int) (b' : Bool) (v v' : Int) : Prop :=
  (w' = w ∧ b' = b ∧ v' = v) ∨ (b = false ∧ b' = true ∧ w' = (tel 2 w (gK m x)).2 ∧ v' = (tel 2 w (gK m x)).1)
theorem one_word {w : List Int} (h : w.length = 1) : w = [rd w 0] := by
  match w, h with
  | [x], _ => rfl
theorem add_step {x : Key} {a v : Int} {p : Nat} {r : Int → Int} {l : List Int} {b : Bool} {w : List Int} (hl : w.length = 1) (hx : byK m x = some a) (h : AA a v p r l b) (hp : p ≠ 5) :
    ∃ p' r' l' w' b' v', Nx addC p r l w p' r' l' w' ∧ AA a v' p' r' l' b' ∧ Eff m x w b w' b' v v' ∧ p' ≤ 5 := by
  have hq0 : ∀ y : Int, y = 0 → wrap64 (y + 0) = (0 : Nat) := fun y hy => by rw [hy]; exact wrap_id (by omega)
  cases h with
  | a0 r A Z => exact ⟨1, _, _, _, _, v, nx_load (q := 0) (by rfl) (hq0 _ Z) (by omega), .a1 _ (by rw [upd_other _ _ (by decide)]; exact A) (by rw [upd_other _ _ (by decide)]; exact Z), .inl ⟨rfl, rfl, rfl⟩, by omega⟩
  | a1 r A Z => exact ⟨2, _, _, _, _, v, nx_add (by rfl) (by rw [A]), .a2 _ (by rw [upd_other _ _ (by decide)]; exact A) (by rw [upd_other _ _ (by decide)]; exact Z) (by rw [upd_same, upd_other _ _ (by decide)]), .inl ⟨rfl, rfl, rfl⟩, by omega⟩
  | a2 r A Z N =>
    by_cases hc : rd w 0 = r 1
    · refine ⟨3, _, _, _, true, r 1, nx_casT (q := 0) (by rfl) (hq0 _ Z) (by omega) hc, .yes _ (upd_same _ _ _) (by rw [upd_other _ _ (by decide)]), .inr ⟨rfl, rfl, ?_, ?_⟩, by omega⟩
      · rw [one_word hl]
        simp [tel, gK, hx, N, hc]
      · rw [one_word hl]
        simp [tel, gK, hx, hc]
    · exact ⟨3, _, _, _, _, v, nx_casF (q := 0) (by rfl) (hq0 _ Z) (by omega) hc, .no _ (by rw [upd_other _ _ (by decide)]; exact A) (by rw [upd_other _ _ (by decide)]; exact Z) (upd_same _ _ _), .inl ⟨rfl, rfl, rfl⟩, by omega⟩
  | no r A Z N => exact ⟨0, _, _, _, _, v, nx_unlZ (by rfl) N, .a0 _ A Z, .inl ⟨rfl, rfl, rfl⟩, by omega⟩
  | yes r N V => exact ⟨4, _, _, _, _, v, nx_unlN (by rfl) (by rw [N]; decide), .a4 _ V, .inl ⟨rfl, rfl, rfl⟩, by omega⟩
  | a4 r V =>
    refine ⟨5, _, _, _, _, v, nx_emit (by rfl) (by decide), ?_, .inl ⟨rfl, rfl, rfl⟩, by omega⟩
    rw [V]; exact .fin _
  | fin r => exact absurd rfl hp
theorem get_step {x : Key} {v : Int} {p : Nat} {r : Int → Int} {l : List Int} {b : Bool} {w : List Int} (hl : w.length = 1) (hw : wrap64 (rd w 0) = rd w 0) (hx : byK m x = none) (h : GA v p r l b) (hp : p ≠ 2) :
    ∃ p' r' l' w' b' v', Nx getC p r l w p' r' l' w' ∧ GA v' p' r' l' b' ∧ Eff m x w b w' b' v v' ∧ p' ≤ 2 := by
  cases h with
  | g0 r Z =>
    refine ⟨1, _, _, _, true, rd w 0, nx_load (q := 0) (by rfl) (by rw [Z]; exact wrap_id (by omega)) (by omega), .g1 _ (upd_same _ _ _), .inr ⟨rfl, rfl, ?_, ?_⟩, by omega⟩
    · rw [one_word hl]
      simp [tel, gK, hx, rd] at hw ⊢
      exact hw.symm
    · rw [one_word hl]
      simp [tel, gK, hx, rd]
  | g1 r V =>
    refine ⟨2, _, _, _, _, v, nx_emit (by rfl) (by decide), ?_, .inl ⟨rfl, rfl, rfl⟩, by omega⟩
    rw [V]; exact .fin _
  | fin r => exact absurd rfl hp
def Fin (_ : Key) (l : List Int) (b : Bool) (v : Int) : Prop := b = true ∧ l = [v]
def Inv (m : Mc) (w has : List Int) (_ : Unit) (loc : Nat → Option Lc) : Prop :=
  w = has ∧ w.length = 1 ∧ wrap64 (rd w 0) = rd w 0 ∧ ∀ t i c p r l b v, loc t = some ⟨i, c, p, r, l, b, v⟩ → (c = addC ∧ ∃ a, byK m (t, i) = some a ∧ AA a v p r l b) ∨ (c = getC ∧ byK m (t, i) = none ∧ GA v p r l b)
theorem wrap_wrap (x : Int) : wrap64 (wrap64 x) = wrap64 x := by unfold wrap64; omega
theorem tel_num (w : List Int) (hl : w.length = 1) (hw : wrap64 (rd w 0) = rd w 0) (a : Ac) : (tel 2 w a).2.length = 1 ∧ wrap64 (rd (tel 2 w a).2 0) = rd (tel 2 w a).2 0 := by
  simp [tel, rd, wrap_wrap]
theorem cnt_ok {m : Mc} (hm : Mok m) : ObjOk Unit m (fun _ => True) 2 (gK m) m.ws Fin (Inv m) := by
  refine ⟨⟨(), rfl, hm.ws, ?_, fun t i c p r l b v h => by cases h⟩, fun w has gh loc t i c _ hI hl hc => ?_, fun w has gh loc t i c p r l b v _ hI hl hp => ?_⟩
  · rw [one_word hm.ws]
    exact hm.in_ _ (by have := one_word hm.ws; rw [this]; simp [rd])
  · obtain ⟨h1, h2, h3, h4⟩ := hI
    rcases hm.calls t i c hc with ⟨k1, a, k2⟩ | ⟨k1, k2⟩
    · have hcode : m.cs[c.k.toNat]?.getD [] = addC := by rw [k1, hm.cs]; rfl
      rw [hcode]
      refine ⟨by decide, (), h1, h2, h3, fun t' i' c' p' r' l' b' v' hl' => ?_⟩
      by_cases ht : t' = t
      · subst ht
        rw [putL_same] at hl'
        injection hl' with hl'
        injection hl' with e1 e2 e3 e4 e5 e6 e7
        subst e1 e2 e3 e4 e5 e6 e7
        refine .inl ⟨rfl, a, by simp [byK, hc, k1, k2], ?_⟩
        rw [k2]
        exact .a0 _ (by simp [st0]) (by simp [st0])
      · rw [putL_other _ _ ht] at hl'; exact h4 t' i' c' p' r' l' b' v' hl'
    · have hcode : m.cs[c.k.toNat]?.getD [] = getC := by rw [k1, hm.cs]; rfl
      rw [hcode]
      refine ⟨by decide, (), h1, h2, h3, fun t' i' c' p' r' l' b' v' hl' => ?_⟩
      by_cases ht : t' = t
      · subst ht
        rw [putL_same] at hl'
        injection hl' with hl'
        injection hl' with e1 e2 e3 e4 e5 e6 e7
        subst e1 e2 e3 e4 e5 e6 e7
        refine .inr ⟨rfl, by simp [byK, hc, k1], ?_⟩
        rw [k2]
        exact .g0 _ (by simp [st0])
      · rw [putL_other _ _ ht] at hl'; exact h4 t' i' c' p' r' l' b' v' hl'
  · obtain ⟨rfl, h2, h3, h4⟩ := hI
    have hkeep : ∀ (w' : List Int) (x : Option Lc), (w' = w ∨ w' = (tel 2 w (gK m (t, i))).2) → (∀ i' c' p' r' l' b' v', x = some ⟨i', c', p', r', l', b', v'⟩ → (c' = addC ∧ ∃ a, byK m (t, i') = some a ∧ AA a v' p' r' l' b') ∨ (c' = getC ∧ byK m (t, i') = none ∧ GA v' p' r' l' b')) → Inv m w' w' () (putL loc t x) := by
      intro w' x hw hx
      have h23 : w'.length = 1 ∧ wrap64 (rd w' 0) = rd w' 0 := by
        rcases hw with rfl | rfl
        · exact ⟨h2, h3⟩
        · exact tel_num w h2 h3 _
      refine ⟨rfl, h23.1, h23.2, fun t' i' c' p' r' l' b' v' hl' => ?_⟩
      by_cases ht : t' = t
      · subst ht
        rw [putL_same] at hl'
        exact hx i' c' p' r' l' b' v' hl'
      · rw [putL_other _ _ ht] at hl'; exact h4 t' i' c' p' r' l' b' v' hl'
    rcases h4 t i c p r l b v hl with ⟨rfl, a, hx, hA⟩ | ⟨rfl, hx, hG⟩
    · obtain ⟨p', r', l', w', b', v', k1, k2, k3, k4⟩ := add_step h2 hx hA hp
      have hw : w' = w ∨ w' = (tel 2 w (gK m (t, i))).2 := by rcases k3 with ⟨e, _⟩ | ⟨_, _, e, _⟩ <;> simp [e]
      refine ⟨p', r', l', w', b', v', w', (), k1, ?_, fun _ => hkeep w' _ hw ?_, fun hp' => ⟨?_, hkeep w' none hw (fun _ _ _ _ _ _ _ h => by cases h)⟩⟩
      · rcases k3 with ⟨e1, e2, e3⟩ | ⟨e1, e2, e3, e4⟩
        · exact .inl ⟨e2, e3, e1⟩
        · exact .inr ⟨e1, e2, by rw [e3, e4]⟩
      · intro i' c' p'' r'' l'' b'' v'' h
        injection h with h
        injection h with e1 e2 e3 e4 e5 e6 e7
        subst e1 e2 e3 e4 e5 e6 e7
        exact .inl ⟨rfl, a, hx, k2⟩
      · have hp5 : p' = 5 := hp'
        subst hp5
        cases k2 with
        | fin r => exact ⟨rfl, rfl⟩
    · obtain ⟨p', r', l', w', b', v', k1, k2, k3, k4⟩ := get_step h2 h3 hx hG hp
      have hw : w' = w ∨ w' = (tel 2 w (gK m (t, i))).2 := by rcases k3 with ⟨e, _⟩ | ⟨_, _, e, _⟩ <;> simp [e]
      refine ⟨p', r', l', w', b', v', w', (), k1, ?_, fun _ => hkeep w' _ hw ?_, fun hp' => ⟨?_, hkeep w' none hw (fun _ _ _ _ _ _ _ h => by cases h)⟩⟩
      · rcases k3 with ⟨e1, e2, e3⟩ | ⟨e1, e2, e3, e4⟩
        · exact .inl ⟨e2, e3, e1⟩
        · exact .inr ⟨e1, e2, by rw [e3, e4]⟩
      · intro i' c' p'' r'' l'' b'' v'' h
        injection h with h
        injection h with e1 e2 e3 e4 e5 e6 e7
        subst e1 e2 e3 e4 e5 e6 e7
        exact .inr ⟨rfl, hx, k2⟩
      · have hp5 : p' = 2 := hp'
        subst hp5
        cases k2 with
        | fin r => exact ⟨rfl, rfl⟩
end Go.Baro.Cnt

set_option linter.unusedSimpArgs false
set_option linter.unusedVariables false
namespace Go.Baro
open Go.RowKit (wrap64)
section
variable {Gh : Type} {m : Mc} {A : Nat → Prop} {k : Int} {gK : Key → Ac} {has0 : List Int} {Fin : Key → List Int → Bool → Int → Prop} {Inv : List Int → List Int → Gh → (Nat → Option Lc) → Prop}
/-- A step of who is alone brings its call nearer to its end. -/
structure Prog (m : Mc) (A : Nat → Prop) (Inv : List Int → List Int → Gh → (Nat → Option Lc) → Prop) (B : Nat) (F : List Int → List Ins → Nat → (Int → Int) → Nat) : Prop where
  pos : ∀ w has gh loc t i c p r l b v, A t → Inv w has gh loc → loc t = some ⟨i, c, p, r, l, b, v⟩ → p ≠ c.length → 1 ≤ F w c p r ∧ F w c p r ≤ B
  dec : ∀ w has gh loc t i c p r l b v p' r' l' w', A t → Inv w has gh loc → loc t = some ⟨i, c, p, r, l, b, v⟩ → p ≠ c.length → Nx c p r l w p' r' l' w' → p' ≠ c.length → F w' c p' r' < F w c p r
/-- How many steps a thread has yet to do, at most, if it is alone. -/
def todo (m : Mc) (B : Nat) (F : List Int → List Ins → Nat → (Int → Int) → Nat) (g : Gs) (t : Nat) : Nat :=
  (match (g.th t).now with | some l => F g.w l.c l.p.toNat l.r | none => 0) + B * ((m.ts[t]?.getD []).length - (g.th t).bg)
theorem nx_det {c : List Ins} {p : Nat} {r : Int → Int} {l w : List Int} {p1 p2 : Nat} {r1 r2 : Int → Int} {l1 l2 w1 w2 : List Int} (h1 : Nx c p r l w p1 r1 l1 w1) (h2 : Nx c p r l w p2 r2 l2 w2) : p1 = p2 ∧ r1 = r2 ∧ l1 = l2 ∧ w1 = w2 := by
  unfold Nx at h1 h2
  rw [h1] at h2
  injection h2 with e1 e2
  injection e1 with _ e3 e4 e5
  injection e2 with e6 _
  exact ⟨by omega, e4, e5, e6⟩
theorem todo_step (ho : ObjOk Gh m A k gK has0 Fin Inv) {B : Nat} {F : List Int → List Ins → Nat → (Int → Int) → Nat} (hB : 1 ≤ B) (hp : Prog m A Inv B F) {t : Nat} (ht : A t) {S : List Nat} (hS : ∀ n ∈ S, A n) :
    todo m B F (plyG m 0 (S ++ [t]) (g0 m)) t ≤ todo m B F (plyG m 0 S (g0 m)) t - 1 := by
  obtain ⟨L, rs, has, gh, loc, H⟩ := obj_run ho S hS
  rw [ply_snoc, actG_eq]
  generalize plyG m 0 S (g0 m) = g at *
  -- an instruction of a call that is open
  have hexec : ∀ (gb : Gs) (sb : Nat) (gh : Gh) (loc : Nat → Option Lc), ObjJ A k gK has0 Fin Inv S sb gb L rs has gh loc → ∀ l, (gb.th t).now = some l → ∃ X, todo m B F gb t = X + B * ((m.ts[t]?.getD []).length - (gb.th t).bg) ∧ 1 ≤ X ∧ X ≤ B ∧ todo m B F (exG gb S.length t) t + 1 ≤ X + B * ((m.ts[t]?.getD []).length - (gb.th t).bg) := by
    intro gb sb gh loc H l hl
    cases hloc : loc t with
    | none => rw [(H.out t).2 hloc] at hl; cases hl
    | some q =>
      obtain ⟨i, c, p, r, lt, b, v⟩ := q
      obtain ⟨a1, a2, a3, a4, a5⟩ := H.at_ t i c p r lt b v hloc
      obtain ⟨f1, f2⟩ := hp.pos _ _ _ _ _ _ _ _ _ _ _ _ ht H.inv hloc a2
      obtain ⟨p', r', l', w', b', v', has', gh', k1, k2, k3, k4⟩ := ho.step _ _ _ _ t i c p r lt b v ht H.inv hloc a2
      have hstep := exG_nx (st := S.length) a1 k1
      refine ⟨F gb.w c p r, ?_, f1, f2, ?_⟩
      · unfold todo; rw [a1]; simp
      · rw [hstep]
        by_cases hpc : p' = c.length
        · rw [if_pos hpc]
          unfold todo
          dsimp only
          rw [putT_same]
          dsimp only
          omega
        · rw [if_neg hpc]
          have hd := hp.dec _ _ _ _ _ _ _ _ _ _ _ _ _ _ _ _ ht H.inv hloc a2 k1 hpc
          unfold todo
          dsimp only
          rw [putT_same]
          dsimp only
          rw [Int.toNat_natCast]
          omega
  rcases bgG_cases m g S.length t with ⟨h1, h2⟩ | ⟨c, h1, h2, h3⟩
  · rw [h1]
    rcases h2 with h2 | ⟨h2, h4⟩
    · cases hl : (g.th t).now with
      | none => exact absurd hl h2
      | some l =>
        obtain ⟨X, x1, x2, x3, x4⟩ := hexec g _ _ _ H l hl
        omega
    · rw [exG_none h2]
      have : todo m B F g t = 0 := by
        unfold todo
        rw [h2, Nat.sub_eq_zero_of_le h4]
        simp
      omega
  · obtain ⟨gh', loc', Hb⟩ := obj_begin ho ht H
    have hbg := (List.getElem?_eq_some_iff.1 h2).1
    have hnow : ((bgG m g S.length t).th t).now = some (live (m.cs[c.k.toNat]?.getD []) c.ar) ∧ ((bgG m g S.length t).th t).bg = (g.th t).bg + 1 := by rw [h3]; dsimp only; rw [putT_same]; exact ⟨rfl, rfl⟩
    obtain ⟨X, x1, x2, x3, x4⟩ := hexec _ _ _ _ Hb _ hnow.1
    rw [hnow.2] at x4
    have : todo m B F g t = B * ((m.ts[t]?.getD []).length - (g.th t).bg) := by unfold todo; rw [h1]; simp
    rw [this]
    have hB1 : B * ((m.ts[t]?.getD []).length - (g.th t).bg) = B * ((m.ts[t]?.getD []).length - ((g.th t).bg + 1)) + B := by
      rw [← Nat.mul_succ]; congr 1; omega
    omega
theorem todo_alone (ho : ObjOk Gh m A k gK has0 Fin Inv) {B : Nat} {F : List Int → List Ins → Nat → (Int → Int) → Nat} (hB : 1 ≤ B) (hp : Prog m A Inv B F) {t : Nat} (ht : A t) {S : List Nat} (hS : ∀ n ∈ S, A n) : ∀ j, todo m B F (plyG m 0 (S ++ List.replicate j t) (g0 m)) t ≤ todo m B F (plyG m 0 S (g0 m)) t - j
  | 0 => by simp
  | j + 1 => by
    rw [List.replicate_succ', ← List.append_assoc]
    have h1 := todo_step ho hB hp ht (S := S ++ List.replicate j t) (fun n hn => by
      rcases List.mem_append.1 hn with hn | hn
      · exact hS n hn
      · rw [List.eq_of_mem_replicate hn]; exact ht)
    have h2 := todo_alone ho hB hp ht hS j
    omega
theorem todo_le (ho : ObjOk Gh m A k gK has0 Fin Inv) {B : Nat} {F : List Int → List Ins → Nat → (Int → Int) → Nat} (hB : 1 ≤ B) (hp : Prog m A Inv B F) {t : Nat} (ht : A t) {S : List Nat} (hS : ∀ n ∈ S, A n) : todo m B F (plyG m 0 S (g0 m)) t ≤ B * (m.ts[t]?.getD []).length := by
  obtain ⟨L, rs, has, gh, loc, H⟩ := obj_run ho S hS
  have hle := bg_le m S t
  generalize plyG m 0 S (g0 m) = g at *
  unfold todo
  cases hl : (g.th t).now with
  | none =>
    have := Nat.mul_le_mul_left B (Nat.sub_le (m.ts[t]?.getD []).length (g.th t).bg)
    simpa using this
  | some l =>
    cases hloc : loc t with
    | none => rw [(H.out t).2 hloc] at hl; cases hl
    | some q =>
      obtain ⟨i, c, p, r, lt, b, v⟩ := q
      obtain ⟨a1, a2, a3, a4, a5⟩ := H.at_ t i c p r lt b v hloc
      obtain ⟨f1, f2⟩ := hp.pos _ _ _ _ _ _ _ _ _ _ _ _ ht H.inv hloc a2
      rw [hl] at a1
      injection a1 with a1
      subst a1
      dsimp only
      rw [Int.toNat_natCast]
      have h1 : B * ((m.ts[t]?.getD []).length - (g.th t).bg) + B ≤ B * (m.ts[t]?.getD []).length := by
        rw [← Nat.mul_succ]
        exact Nat.mul_le_mul_left B (by omega)
      omega
/-- Who has nothing left to do has done all its calls. -/
theorem todo_zero (ho : ObjOk Gh m A k gK has0 Fin Inv) {B : Nat} {F : List Int → List Ins → Nat → (Int → Int) → Nat} (hB : 1 ≤ B) (hp : Prog m A Inv B F) {t : Nat} (ht : A t) {S : List Nat} (hS : ∀ n ∈ S, A n) (h0 : todo m B F (plyG m 0 S (g0 m)) t = 0) : ((plyG m 0 S (g0 m)).th t).now = none ∧ (m.ts[t]?.getD []).length ≤ ((plyG m 0 S (g0 m)).th t).bg := by
  obtain ⟨L, rs, has, gh, loc, H⟩ := obj_run ho S hS
  generalize plyG m 0 S (g0 m) = g at *
  unfold todo at h0
  cases hl : (g.th t).now with
  | none =>
    rw [hl] at h0
    refine ⟨rfl, ?_⟩
    have : B * ((m.ts[t]?.getD []).length - (g.th t).bg) = 0 := by simpa using h0
    rcases Nat.mul_eq_zero.1 this with h | h <;> omega
  | some l =>
    cases hloc : loc t with
    | none => rw [(H.out t).2 hloc] at hl; cases hl
    | some q =>
      obtain ⟨i, c, p, r, lt, b, v⟩ := q
      obtain ⟨a1, a2, a3, a4, a5⟩ := H.at_ t i c p r lt b v hloc
      obtain ⟨f1, f2⟩ := hp.pos _ _ _ _ _ _ _ _ _ _ _ _ ht H.inv hloc a2
      rw [a1] at h0
      dsimp only at h0
      rw [Int.toNat_natCast] at h0
      omega
/-- A thread that is alone for long enough has done all its calls. -/
theorem alone_done (ho : ObjOk Gh m A k gK has0 Fin Inv) {B : Nat} {F : List Int → List Ins → Nat → (Int → Int) → Nat} (hB : 1 ≤ B) (hp : Prog m A Inv B F) {t : Nat} (ht : A t) {S : List Nat} (hS : ∀ n ∈ S, A n) {j : Nat} (hj : B * (m.ts[t]?.getD []).length ≤ j) :
    ((plyG m 0 (S ++ List.replicate j t) (g0 m)).th t).now = none ∧ (m.ts[t]?.getD []).length ≤ ((plyG m 0 (S ++ List.replicate j t) (g0 m)).th t).bg := by
  refine todo_zero ho hB hp ht (fun n hn => ?_) ?_
  · rcases List.mem_append.1 hn with hn | hn
    · exact hS n hn
    · rw [List.eq_of_mem_replicate hn]; exact ht
  · have h1 := todo_alone ho hB hp ht hS j
    have h2 := todo_le ho hB hp ht hS
    omega
end
/-- Who has done all its calls has one for each, and all have ended. -/
theorem all_ended {m : Mc} {sb se : Nat} {g : Gs} (h : Hs sb se g) {t : Nat} (hn : (g.th t).now = none) : ∀ d ∈ dgs g.out, d.th = t → d.e ≠ -1 := by
  intro d hd ht he
  have := ((h.opn d hd).1 he).1
  rw [ht] at this
  exact this hn
end Go.Baro
