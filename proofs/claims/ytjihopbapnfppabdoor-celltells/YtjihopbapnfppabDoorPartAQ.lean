/- Of this claim's own texts these, one behind the other: CellAlg5, CellAlg6, AlgPure2. No statement of the seat is proved here; no condition but those that stand at the theorems. -/
import Derived.Test.YtjihopbapnfppabDoorPartAP
import Derived.Test.YtjihopbapnfppabDoorPartAN
set_option linter.unusedSimpArgs false
set_option linter.unusedVariables false
namespace Go.Baro.Cel
open Go.RowKit (wrap64)

/-- A machine of cell: thread 0 puts, the others get. -/
structure Mok (m : Mc) (d : Nat) (val : Nat → Nat → Int) : Prop where
  ws : m.ws = wsC d
  cs : m.cs = [putC d, getC d]
  puts : ∀ (i : Nat) c, (m.ts[0]?.getD [])[i]? = some c → c.k = 0 ∧ c.ar.length = d ∧ ∀ q, q < d → c.ar[q]?.getD 0 = val (i + 1) q
  gets : ∀ t, 1 ≤ t → t < 4 → ∀ (i : Nat) c, (m.ts[t]?.getD [])[i]? = some c → c.k = 1 ∧ c.ar = []
  v0 : ∀ q, q < d → val 0 q = 0
/-- The calls of a run. -/
structure HI (d : Nat) (val : Nat → Nat → Int) (D : List Dg) (h : Gh) : Prop where
  th : ∀ x ∈ D, x.th < 4
  p0 : ∀ y ∈ D, y.th = 0 → y.e ≠ -1 → y.cl + 1 ≤ h.V
  gV : ∀ y ∈ D, y.th ≠ 0 → y.e ≠ -1 → h.tl y.th y.cl ≤ h.V
  opn : ∀ x ∈ D, x.th ≠ 0 → x.e = -1 → ∀ y ∈ D, y.e ≠ -1 → y.e < x.b → (y.th = 0 → y.cl + 1 ≤ h.lo x.th) ∧ (y.th ≠ 0 → h.tl y.th y.cl ≤ h.lo x.th)
  told : ∀ x ∈ D, x.th ≠ 0 → x.e ≠ -1 → x.to = rcd val d (h.tl x.th x.cl)
  early : ∀ x ∈ D, x.th ≠ 0 → x.e ≠ -1 → ∀ y ∈ D, y.th = 0 → y.cl + 1 = h.tl x.th x.cl → (y.b : Int) ≤ x.e
  ord : ∀ x ∈ D, x.th ≠ 0 → x.e ≠ -1 → ∀ y ∈ D, y.e ≠ -1 → y.e < x.b → (y.th = 0 → y.cl + 1 ≤ h.tl x.th x.cl) ∧ (y.th ≠ 0 → h.tl y.th y.cl ≤ h.tl x.th x.cl)
/-- Thread 0. -/
def T0 (d : Nat) (val : Nat → Nat → Int) (w : List Int) (h : Gh) (td : Td) : Prop := (td.now = none ∧ h.gp = 4 ∧ h.tg = 5 ∧ td.bg = h.V) ∨ ∃ p r, td.now = some ⟨putC d, (p : Nat), r, []⟩ ∧ p ≠ 33 + d ∧ PA d val w h td.bg (h.k 0) p r
/-- Another thread. -/
def T1 (d : Nat) (val : Nat → Nat → Int) (w : List Int) (h : Gh) (t : Nat) (td : Td) : Prop := (td.now = none ∧ h.pos t = 0 ∧ No h t) ∨ ∃ p r l, td.now = some ⟨getC d, (p : Nat), r, l⟩ ∧ p ≠ 15 + 2 * d ∧ RA d val w h t (h.k t) p r l
/-- What a run keeps to. -/
structure J (m : Mc) (d : Nat) (val : Nat → Nat → Int) (S : List Nat) (sb : Nat) (g : Gs) (h : Gh) : Prop where
  si : SI d val g.w h
  gi : GI g.w h
  t0 : T0 d val g.w h (g.th 0)
  tr : ∀ t, 1 ≤ t → t ≤ 3 → T1 d val g.w h t (g.th t)
  cnt : Cnt S g h.k (fun t => if t = 0 then 45 + d else 24 + 2 * d)
  hs : Hs sb S.length g
  hist : HI d val (dgs g.out) h
  err : noErr g
variable {m : Mc} {d : Nat} {val : Nat → Nat → Int} {S : List Nat} {g : Gs} {h h' : Gh} {w : List Int} {t : Nat} {td : Td}
/-- Who is within no call, or as far as it was. -/
theorem T0.get {w' : List Int} (H : T0 d val w h td) (hI : SI d val w h) (hr : RG d t w h w' h') (hk : h'.k 0 = h.k 0) : T0 d val w' h' td := by
  obtain ⟨e1, e2, e3, e4, e5, e6⟩ := hr.same
  rcases H with ⟨q1, q2, q3, q4⟩ | ⟨p, r, q1, q2, q3⟩
  · exact .inl ⟨q1, by rw [e6]; exact q2, by rw [e5]; exact q3, by rw [e1]; exact q4⟩
  · exact .inr ⟨p, r, q1, q2, by rw [hk]; exact pa_stable hI q3 hr⟩
theorem T1.get {w' : List Int} {u : Nat} (H : T1 d val w h u td) (hu : u ≠ 0) (hut : u ≠ t) (hr : RG d t w h w' h') (hk : h'.k u = h.k u) : T1 d val w' h' u td := by
  rcases H with ⟨q1, q2, q3⟩ | ⟨p, r, l, q1, q2, q3⟩
  · exact .inl ⟨q1, by rw [(hr.pos u hut).1]; exact q2, fun s => by rcases hr.own s with h | h | h <;> rw [h]; exact q3 s; exact fun e => hu e.symm; exact fun e => hut e.symm⟩
  · exact .inr ⟨p, r, l, q1, q2, by rw [hk]; exact ra_get q3 hu hut hr⟩
theorem T1.put {w' : List Int} {u : Nat} (H : T1 d val w h u td) (hG : GI w h) (hr : PG d w h w' h') (hk : h'.k u = h.k u) : T1 d val w' h' u td := by
  obtain ⟨e1, e2, e3⟩ := hr.same
  rcases H with ⟨q1, q2, q3⟩ | ⟨p, r, l, q1, q2, q3⟩
  · exact .inl ⟨q1, by rw [e2]; exact q2, fun s => by rw [e1]; exact q3 s⟩
  · exact .inr ⟨p, r, l, q1, q2, by rw [hk]; exact ra_put hG q3 hr⟩
/-- Nothing but the counts and what was told of. -/
theorem rg_kt (a : Nat → Nat) (b : Nat → Nat → Nat) : RG d t w h w { h with k := a, tl := b } := ⟨rfl, ⟨rfl, rfl, rfl, rfl, rfl, rfl⟩, fun _ _ => rfl, fun _ _ => .inl rfl, fun _ _ _ _ => ⟨rfl, rfl⟩, fun _ => .inl rfl, fun _ _ => ⟨rfl, rfl⟩⟩
theorem RG.kt {w' : List Int} (H : RG d t w h w' h') (a : Nat → Nat) (b : Nat → Nat → Nat) : RG d t w h w' { h' with k := a, tl := b } := ⟨H.len, H.same, H.mem, H.st, H.oth, H.own, H.pos⟩
theorem PG.kt {w' : List Int} (H : PG d w h w' h') (a : Nat → Nat) (b : Nat → Nat → Nat) : PG d w h w' { h' with k := a, tl := b } := ⟨H.V, H.same, H.seat, H.one, H.hold⟩
theorem SI.kt (H : SI d val w h) (a : Nat → Nat) (b : Nat → Nat → Nat) : SI d val w { h with k := a, tl := b } := ⟨H.len, H.cu, H.cw, H.con, H.tc, H.num, H.pv, H.st, H.s3⟩
theorem GI.kt (H : GI w h) (a : Nat → Nat) (b : Nat → Nat → Nat) : GI w { h with k := a, tl := b } := ⟨H.own0, H.rng, H.posn, H.le2, H.all, H.two, H.lov, H.out⟩
theorem PA.kt {b k p : Nat} {r : Int → Int} (H : PA d val w h b k p r) (hI : SI d val w h) (x : Nat → Nat) (y : Nat → Nat → Nat) : PA d val w { h with k := x, tl := y } b k p r := pa_stable hI H (rg_kt (t := 0) x y)
theorem RA.kt {k p : Nat} {r : Int → Int} {l : List Int} (H : RA d val w h t k p r l) (ht : t ≠ 0) (x : Nat → Nat) (y : Nat → Nat → Nat) : RA d val w { h with k := x, tl := y } t k p r l := ra_get (t := t + 1) H ht (by omega) (rg_kt x y)
theorem HI.k {D : List Dg} (H : HI d val D h) (a : Nat → Nat) : HI d val D { h with k := a } := ⟨H.th, H.p0, H.gV, H.opn, H.told, H.early, H.ord⟩

theorem j_begin (hm : Mok m d val) {n : Nat} (hn : n < 4) (H : J m d val S S.length g h) : ∃ h', J m d val S (S.length + 1) (bgG m g S.length n) h' := by
  unfold bgG
  cases hnow : (g.th n).now with
  | some l => exact ⟨h, H.si, H.gi, H.t0, H.tr, H.cnt, H.hs.mono (Nat.le_succ _) (Nat.le_refl _), H.hist, H.err⟩
  | none =>
    dsimp only
    cases hc : (m.ts[n]?.getD [])[(g.th n).bg]? with
    | none => exact ⟨h, H.si, H.gi, H.t0, H.tr, H.cnt, H.hs.mono (Nat.le_succ _) (Nat.le_refl _), H.hist, H.err⟩
    | some c =>
      dsimp only
      have hhs := hs_begin (m := m) (n := n) H.hs
      unfold bgG at hhs
      rw [hnow] at hhs
      dsimp only at hhs
      rw [hc] at hhs
      dsimp only at hhs
      have herr : noErr ⟨g.w, putT g.th n ⟨some (live (m.cs[c.k.toNat]?.getD []) c.ar), (g.th n).bg + 1⟩, g.out ++ [⟨S.length, n, (g.th n).bg, false, 0, []⟩]⟩ := by
        intro x hx hen
        rcases List.mem_append.1 hx with hx | hx
        · exact H.err x hx hen
        · rw [List.mem_singleton.1 hx] at hen; cases hen
      have hcnt := cnt_begin (c := c) H.cnt H.hs hnow (T := putT g.th n ⟨some (live (m.cs[c.k.toNat]?.getD []) c.ar), (g.th n).bg + 1⟩) (w := g.w) (m := m)
      have hopn : ∀ x ∈ dgs g.out, x.e = -1 → x.th ≠ n := fun x hx he e => by
        have := ((H.hs.opn x hx).1 he).1
        rw [e] at this; exact this hnow
      have hHI := H.hist
      by_cases hn0 : n = 0
      · subst hn0
        obtain ⟨k0, ka, kv⟩ := hm.puts _ c hc
        obtain ⟨t1, t2, t3, t4⟩ : (g.th 0).now = none ∧ h.gp = 4 ∧ h.tg = 5 ∧ (g.th 0).bg = h.V := by
          rcases H.t0 with q | ⟨p, r, q, _⟩
          · exact q
          · rw [hnow] at q; cases q
        refine ⟨{ h with k := upN h.k 0 0 }, H.si.kt _ h.tl, H.gi.kt _ h.tl, ?_, fun t h1 h3 => ?_, hcnt, hhs, ?_, herr⟩
        · dsimp only
          rw [putT_same, k0, hm.cs]
          refine .inr ⟨0, _, rfl, by omega, ?_⟩
          dsimp only
          rw [upN_same]
          refine .clear 0 _ (by omega) (by omega) ⟨?_, fun q hq => ?_, t2, by dsimp only; omega⟩ t3 (fun j hj => by omega)
          · simp [st0, ka]
          · have := kv q hq
            rw [t4] at this
            simp [st0, this]
        · dsimp only
          rw [putT_other _ _ (by omega)]
          exact (H.tr t h1 h3).get (by omega) (t := t + 1) (by omega) (rg_kt _ h.tl) (upN_other _ _ (by omega))
        · dsimp only
          rw [dgs_begin]
          have hold : ∀ {P : Dg → Prop}, (∀ x ∈ dgs g.out, P x) → P ⟨S.length, -1, 0, (g.th 0).bg, []⟩ → ∀ x ∈ dgs g.out ++ [⟨S.length, -1, 0, (g.th 0).bg, []⟩], P x := fun h1 h2 x hx => by
            rcases List.mem_append.1 hx with hx | hx
            · exact h1 x hx
            · rw [List.mem_singleton.1 hx]; exact h2
          refine ⟨hold hHI.th (by dsimp only; omega), hold hHI.p0 (fun _ h => absurd rfl h), hold hHI.gV (fun _ h => absurd rfl h), hold (fun x hx hx0 hxe => hold (hHI.opn x hx hx0 hxe) (fun h => absurd rfl h)) (fun h => absurd rfl h), hold hHI.told (fun h => absurd rfl h), hold (fun x hx hx0 hxe => hold (hHI.early x hx hx0 hxe) (fun _ hcl => ?_)) (fun h => absurd rfl h), hold (fun x hx hx0 hxe => hold (hHI.ord x hx hx0 hxe) (fun h => absurd rfl h)) (fun h => absurd rfl h)⟩
          have := hHI.gV x hx hx0 hxe
          dsimp only at hcl
          omega
      · obtain ⟨k1, ka⟩ := hm.gets n (by omega) hn _ c hc
        obtain ⟨t1, t2, t3⟩ : (g.th n).now = none ∧ h.pos n = 0 ∧ No h n := by
          rcases H.tr n (by omega) (by omega) with q | ⟨p, r, l, q, _⟩
          · exact q
          · rw [hnow] at q; cases q
        have hRG : RG d n g.w h g.w { h with k := upN h.k n 0, lo := upN h.lo n h.V } := ⟨rfl, ⟨rfl, rfl, rfl, rfl, rfl, rfl⟩, fun _ _ => rfl, fun _ _ => .inl rfl, fun _ _ _ _ => ⟨rfl, rfl⟩, fun _ => .inl rfl, fun u hu => ⟨rfl, upN_other _ _ hu⟩⟩
        refine ⟨{ h with k := upN h.k n 0, lo := upN h.lo n h.V }, ⟨H.si.len, H.si.cu, H.si.cw, H.si.con, H.si.tc, H.si.num, H.si.pv, H.si.st, H.si.s3⟩, ⟨H.gi.own0, H.gi.rng, H.gi.posn, H.gi.le2, H.gi.all, H.gi.two, fun u => ?_, H.gi.out⟩, ?_, fun t h1 h3 => ?_, hcnt, hhs, ?_, herr⟩
        · dsimp only
          by_cases hu : u = n
          · rw [hu, upN_same]; exact Nat.le_refl _
          · rw [upN_other _ _ hu]; exact H.gi.lov u
        · dsimp only
          rw [putT_other _ _ (by omega)]
          exact H.t0.get H.si hRG (upN_other _ _ (by omega))
        · dsimp only
          by_cases htn : t = n
          · subst htn
            rw [putT_same, k1, ka, hm.cs]
            refine .inr ⟨0, _, _, rfl, by omega, ?_⟩
            dsimp only
            rw [upN_same]
            exact .start _ rfl (fun i => by simp [st0]) t2 t3
          · rw [putT_other _ _ htn]
            exact (H.tr t h1 h3).get (by omega) htn hRG (upN_other _ _ htn)
        · dsimp only
          rw [dgs_begin]
          have hold : ∀ {P : Dg → Prop}, (∀ x ∈ dgs g.out, P x) → P ⟨S.length, -1, n, (g.th n).bg, []⟩ → ∀ x ∈ dgs g.out ++ [⟨S.length, -1, n, (g.th n).bg, []⟩], P x := fun h1 h2 x hx => by
            rcases List.mem_append.1 hx with hx | hx
            · exact h1 x hx
            · rw [List.mem_singleton.1 hx]; exact h2
          refine ⟨hold hHI.th hn, hold hHI.p0 (fun _ h => absurd rfl h), hold hHI.gV (fun _ h => absurd rfl h), hold (fun x hx hx0 hxe => hold (fun y hy hye hyb => ?_) (fun h => absurd rfl h)) (fun _ _ => hold (fun y hy hye hyb => ?_) (fun h => absurd rfl h)), hold hHI.told (fun _ h => absurd rfl h), hold (fun x hx hx0 hxe => hold (hHI.early x hx hx0 hxe) (fun h => absurd h hn0)) (fun _ h => absurd rfl h), hold (fun x hx hx0 hxe => hold (hHI.ord x hx hx0 hxe) (fun h => absurd rfl h)) (fun _ h => absurd rfl h)⟩
          · dsimp only
            rw [upN_other _ _ (hopn x hx hxe)]
            exact hHI.opn x hx hx0 hxe y hy hye hyb
          · dsimp only
            rw [upN_same]
            exact ⟨fun h0 => hHI.p0 y hy h0 hye, fun h0 => hHI.gV y hy h0 hye⟩
end Go.Baro.Cel

set_option linter.unusedSimpArgs false
set_option linter.unusedVariables false
namespace Go.Baro.Cel
variable {m : Mc} {d : Nat} {val : Nat → Nat → Int} {S : List Nat} {g : Gs} {h h' : Gh} {w : List Int} {t : Nat} {td : Td}

theorem HI.up {D : List Dg} (H : HI d val D h) (hV : h.V ≤ h'.V) (hl : h'.lo = h.lo) (ht : h'.tl = h.tl) : HI d val D h' :=
  ⟨H.th, fun y hy h0 he => Nat.le_trans (H.p0 y hy h0 he) hV, fun y hy h0 he => by rw [ht]; exact Nat.le_trans (H.gV y hy h0 he) hV, by rw [hl, ht]; exact H.opn, by rw [ht]; exact H.told, by rw [ht]; exact H.early, by rw [ht]; exact H.ord⟩
theorem hi_end {D D' : List Dg} {o : Dg} {st n c : Nat} {to : List Int} (H : HI d val D h) (hV : h.V ≤ h'.V) (hlo : ∀ u, u ≠ n → h'.lo u = h.lo u) (hD : ∀ y ∈ D', (y ∈ D ∧ y ≠ o ∧ ¬ (y.th = n ∧ y.cl = c)) ∨ y = ⟨o.b, st, n, c, to⟩) (ho : o ∈ D) (hoe : o.e = -1) (hon : o.th = n) (hoc : o.cl = c)
    (hu : ∀ y ∈ D, y.e = -1 → y.th = n → y = o) (hb : ∀ y ∈ D, y.b ≤ st) (hn : n < 4) (htl : ∀ t c', ¬ (t = n ∧ c' = c) → h'.tl t c' = h.tl t c') (hput : n = 0 → c + 1 ≤ h'.V) (hget : n ≠ 0 → h.lo n ≤ h'.tl n c ∧ h'.tl n c ≤ h'.V ∧ to = rcd val d (h'.tl n c)) : HI d val D' h' := by
  refine ⟨fun x hx => ?_, fun y hy h0 he => ?_, fun y hy h0 he => ?_, fun x hx hx0 hxe y hy hye hyb => ?_, fun x hx hx0 hxe => ?_, fun x hx hx0 hxe y hy hy0 hyc => ?_, fun x hx hx0 hxe y hy hye hyb => ?_⟩
  · rcases hD x hx with ⟨h1, _, _⟩ | rfl
    · exact H.th x h1
    · exact hn
  · rcases hD y hy with ⟨h1, _, _⟩ | rfl
    · exact Nat.le_trans (H.p0 y h1 h0 he) hV
    · exact hput h0
  · rcases hD y hy with ⟨h1, _, h3⟩ | rfl
    · rw [htl _ _ h3]; exact Nat.le_trans (H.gV y h1 h0 he) hV
    · exact (hget h0).2.1
  · rcases hD x hx with ⟨h1, h2, h3⟩ | rfl
    · rw [hlo x.th (fun e => h2 (hu x h1 hxe e))]
      rcases hD y hy with ⟨k1, k2, k3⟩ | rfl
      · rw [htl _ _ k3]; exact H.opn x h1 hx0 hxe y k1 hye hyb
      · have := hb x h1; dsimp only at hyb; omega
    · dsimp only at hxe; omega
  · rcases hD x hx with ⟨h1, h2, h3⟩ | rfl
    · rw [htl _ _ h3]; exact H.told x h1 hx0 hxe
    · exact (hget hx0).2.2
  · rcases hD x hx with ⟨h1, h2, h3⟩ | rfl
    · rw [htl _ _ h3] at hyc
      rcases hD y hy with ⟨k1, k2, k3⟩ | rfl
      · exact H.early x h1 hx0 hxe y k1 hy0 hyc
      · exact H.early x h1 hx0 hxe o ho (by rw [hon]; exact hy0) (by rw [hoc]; exact hyc)
    · rcases hD y hy with ⟨k1, k2, k3⟩ | rfl
      · have := hb y k1; dsimp only; omega
      · have := hb o ho; dsimp only; omega
  · rcases hD x hx with ⟨h1, h2, h3⟩ | rfl
    · rcases hD y hy with ⟨k1, k2, k3⟩ | rfl
      · rw [htl _ _ h3, htl _ _ k3]; exact H.ord x h1 hx0 hxe y k1 hye hyb
      · have := hb x h1; dsimp only at hyb; omega
    · obtain ⟨g1, g2, g3⟩ := hget hx0
      rcases hD y hy with ⟨k1, k2, k3⟩ | rfl
      · rw [htl _ _ k3]
        have := H.opn o ho (by rw [hon]; exact hx0) hoe y k1 hye hyb
        rw [hon] at this
        exact ⟨fun h0 => Nat.le_trans (this.1 h0) g1, fun h0 => Nat.le_trans (this.2 h0) g1⟩
      · have := hb o ho; dsimp only at hyb; omega
theorem noErr_end {g : Gs} (h : noErr g) {w : List Int} {T : Nat → Td} {st n c : Nat} {to : List Int} : noErr ⟨w, T, g.out ++ [⟨st, n, c, true, 0, to⟩]⟩ := by
  intro x hx he
  rcases List.mem_append.1 hx with hx | hx
  · exact h x hx he
  · rw [List.mem_singleton.1 hx]

theorem j_exec (h1 : 1 ≤ d) (h6 : d ≤ 6) {n : Nat} (hn : n < 4) (H : J m d val S (S.length + 1) g h) : ∃ h', J m d val (S ++ [n]) (S.length + 1) (exG g S.length n) h' := by
  have hhs := hs_exec (n := n) H.hs
  have hlen : (S ++ [n]).length = S.length + 1 := by simp
  have hopn : ∀ x : Ev, x.th = n → x.cl = (g.th n).bg - 1 → ∀ d ∈ dgs g.out, d.e = -1 → d.th = n → d.is x := fun x hx hc d hd he hdn => ⟨by rw [hdn, hx], by
    have := ((H.hs.opn d hd).1 he).2
    rw [hdn] at this; rw [hc]; omega, he⟩
  cases hnow : (g.th n).now with
  | none =>
    rw [exG_none hnow] at hhs ⊢
    refine ⟨{ h with k := upN h.k n (h.k n + 1) }, H.si.kt _ h.tl, H.gi.kt _ h.tl, ?_, fun t q1 q3 => ?_, cnt_go H.cnt rfl, by rw [hlen]; exact hhs, H.hist.k _, H.err⟩
    · by_cases hn0 : n = 0
      · subst hn0
        rcases H.t0 with ⟨q1, q2, q3, q4⟩ | ⟨p, r, q, _⟩
        · exact .inl ⟨q1, q2, q3, q4⟩
        · rw [hnow] at q; cases q
      · exact H.t0.get (t := 0) H.si (rg_kt _ h.tl) (upN_other _ _ (by omega))
    · by_cases hnt : t = n
      · subst hnt
        rcases H.tr t q1 q3 with ⟨q1, q2, q3⟩ | ⟨p, r, l, q, _⟩
        · exact .inl ⟨q1, q2, q3⟩
        · rw [hnow] at q; cases q
      · exact (H.tr t q1 q3).get (by omega) (t := t + 1) (by omega) (rg_kt _ h.tl) (upN_other _ _ hnt)
  | some l =>
    by_cases hn0 : n = 0
    · subst hn0
      obtain ⟨p, r, q1, q2, q3⟩ : ∃ p r, (g.th 0).now = some ⟨putC d, (p : Nat), r, []⟩ ∧ p ≠ 33 + d ∧ PA d val g.w h (g.th 0).bg (h.k 0) p r := by
        rcases H.t0 with ⟨q, _⟩ | q
        · rw [hnow] at q; cases q
        · exact q
      obtain ⟨p', r', w', g', hx, hI', hP', hG'⟩ := put_step h1 h6 H.si q3 q2
      have hstep := exG_nx (st := S.length) q1 hx
      have hGI := gi_put H.gi hG'
      obtain ⟨e1, e2, e3⟩ := hG'.same
      by_cases hp : p' = 33 + d
      · rw [if_pos (by rw [putC_len]; exact hp)] at hstep
        rw [hstep] at hhs ⊢
        obtain ⟨f1, f2, f3⟩ := hP'.fin hp
        have hk := hP'.steps
        obtain ⟨o, ho, o1, o2, o3, o4, o5, _, _⟩ := dgs_end (x := ⟨S.length, 0, (g.th 0).bg - 1, true, 0, []⟩) H.hs (n := 0) (by rw [hnow]; simp) rfl rfl rfl
        have hbg : 1 ≤ (g.th 0).bg := H.hs.ps 0 (by rw [hnow]; simp)
        refine ⟨{ g' with k := upN h.k 0 (h.k 0 + 1), tl := h.tl }, hI'.kt _ _, hGI.kt _ _, .inl ⟨by dsimp only; rw [putT_same], f1, f2, by dsimp only; rw [putT_same]; exact f3⟩, fun t k1 k3 => ?_, cnt_end H.cnt rfl rfl rfl rfl (by simpa using hk) (hopn _ rfl rfl), by rw [hlen]; exact hhs, ?_, noErr_end H.err⟩
        · dsimp only
          rw [putT_other _ _ (by omega)]
          exact (H.tr t k1 k3).put H.gi (hG'.kt _ _) (upN_other _ _ (by omega))
        · refine hi_end H.hist hG'.V (fun u _ => by dsimp only; rw [e3]) o5 ho o3 o1 o2 (fun y hy he hyn => (o4 y hy he hyn).1) (fun y hy => by have := (H.hs.bnd y hy).1; dsimp only; omega) (by omega) (fun _ _ _ => rfl) (fun _ => ?_) (fun h => absurd rfl h)
          dsimp only; omega
      · rw [if_neg (by rw [putC_len]; exact hp)] at hstep
        rw [hstep] at hhs ⊢
        refine ⟨{ g' with k := upN h.k 0 (h.k 0 + 1), tl := h.tl }, hI'.kt _ _, hGI.kt _ _, .inr ⟨p', r', by dsimp only; rw [putT_same], hp, ?_⟩, fun t k1 k3 => ?_, cnt_go H.cnt rfl, by rw [hlen]; exact hhs, H.hist.up hG'.V e3 rfl, H.err⟩
        · dsimp only
          rw [putT_same, upN_same]
          exact hP'.kt hI' _ _
        · dsimp only
          rw [putT_other _ _ (by omega)]
          exact (H.tr t k1 k3).put H.gi (hG'.kt _ _) (upN_other _ _ (by omega))
    · obtain ⟨p, r, l', q1, q2, q3⟩ : ∃ p r l', (g.th n).now = some ⟨getC d, (p : Nat), r, l'⟩ ∧ p ≠ 15 + 2 * d ∧ RA d val g.w h n (h.k n) p r l' := by
        rcases H.tr n (by omega) (by omega) with ⟨q, _⟩ | q
        · rw [hnow] at q; cases q
        · exact q
      obtain ⟨p', r', l2, w', g', hx, hI', hGI, hP', hlo, hG'⟩ := get_step h1 h6 ⟨by omega, by omega⟩ H.si H.gi q3 q2
      have hstep := exG_nx (st := S.length) q1 hx
      obtain ⟨e1, e2, e3, e4, e5, e6⟩ := hG'.same
      by_cases hp : p' = 15 + 2 * d
      · rw [if_pos (by rw [getC_len]; exact hp)] at hstep
        rw [hstep] at hhs ⊢
        obtain ⟨f1, f2, v, f3, f4, f5⟩ := hP'.fin h1 hp
        have hk := hP'.steps
        obtain ⟨o, ho, o1, o2, o3, o4, o5, _, _⟩ := dgs_end (x := ⟨S.length, n, (g.th n).bg - 1, true, 0, l2⟩) H.hs (n := n) (by rw [hnow]; simp) rfl rfl rfl
        refine ⟨{ g' with k := upN h.k n (h.k n + 1), tl := fun a b => if a = n ∧ b = (g.th n).bg - 1 then v else h.tl a b }, hI'.kt _ _, hGI.kt _ _, ?_, fun t k1 k3 => ?_, cnt_end H.cnt rfl rfl rfl rfl (by simp [hn0]; omega) (hopn _ rfl rfl), by rw [hlen]; exact hhs, ?_, noErr_end H.err⟩
        · dsimp only
          rw [putT_other _ _ (by omega)]
          exact H.t0.get H.si (hG'.kt _ _) (upN_other _ _ (by omega))
        · dsimp only
          by_cases htn : t = n
          · subst htn
            rw [putT_same]
            exact .inl ⟨rfl, f1, f2⟩
          · rw [putT_other _ _ htn]
            exact (H.tr t k1 k3).get (by omega) htn (hG'.kt _ _) (upN_other _ _ htn)
        · refine hi_end H.hist (Nat.le_of_eq e1.symm) (fun u hu => (hG'.pos u hu).2) o5 ho o3 o1 o2 (fun y hy he hyn => (o4 y hy he hyn).1) (fun y hy => by have := (H.hs.bnd y hy).1; dsimp only; omega) hn (fun _ _ hh => by dsimp only; rw [if_neg hh]) (fun h => absurd h hn0) (fun _ => ?_)
          dsimp only
          rw [if_pos ⟨rfl, rfl⟩]
          exact ⟨by rw [← hlo]; exact f3, f4, f5⟩
      · rw [if_neg (by rw [getC_len]; exact hp)] at hstep
        rw [hstep] at hhs ⊢
        refine ⟨{ g' with k := upN h.k n (h.k n + 1), tl := h.tl }, hI'.kt _ _, hGI.kt _ _, ?_, fun t k1 k3 => ?_, cnt_go H.cnt rfl, by rw [hlen]; exact hhs, ?_, H.err⟩
        · dsimp only
          rw [putT_other _ _ (by omega)]
          exact H.t0.get H.si (hG'.kt _ _) (upN_other _ _ (by omega))
        · dsimp only
          by_cases htn : t = n
          · subst htn
            rw [putT_same]
            refine .inr ⟨p', r', l2, rfl, hp, ?_⟩
            dsimp only
            rw [upN_same]
            exact hP'.kt (by omega) _ _
          · rw [putT_other _ _ htn]
            exact (H.tr t k1 k3).get (by omega) htn (hG'.kt _ _) (upN_other _ _ htn)
        · exact H.hist.up (Nat.le_of_eq e1.symm) hlo rfl
end Go.Baro.Cel

set_option linter.unusedSimpArgs false
set_option linter.unusedVariables false
namespace Go.Baro

theorem exG_bg (g : Gs) (st n i : Nat) : ((exG g st n).th i).bg = (g.th i).bg := by
  cases hn : (g.th n).now with
  | none => rw [exG_none hn]
  | some l =>
    by_cases he : (exc l g.w).2.2.2 = true
    · rw [exG_end hn he]
      dsimp only
      by_cases hi : i = n
      · subst hi; rw [putT_same]
      · rw [putT_other _ _ hi]
    · rw [exG_go hn (by simpa using he)]
      dsimp only
      by_cases hi : i = n
      · subst hi; rw [putT_same]
      · rw [putT_other _ _ hi]
theorem exG_th {g : Gs} {st n i : Nat} (h : i ≠ n) : (exG g st n).th i = g.th i := by
  cases hn : (g.th n).now with
  | none => rw [exG_none hn]
  | some l =>
    by_cases he : (exc l g.w).2.2.2 = true
    · rw [exG_end hn he]; exact putT_other _ _ h
    · rw [exG_go hn (by simpa using he)]; exact putT_other _ _ h
/-- A step's beginning: nothing, or a call begins. -/
theorem bgG_cases (m : Mc) (g : Gs) (st n : Nat) : (bgG m g st n = g ∧ ((g.th n).now ≠ none ∨ ((g.th n).now = none ∧ (m.ts[n]?.getD []).length ≤ (g.th n).bg))) ∨
    ∃ c, (g.th n).now = none ∧ (m.ts[n]?.getD [])[(g.th n).bg]? = some c ∧ bgG m g st n = ⟨g.w, putT g.th n ⟨some (live (m.cs[c.k.toNat]?.getD []) c.ar), (g.th n).bg + 1⟩, g.out ++ [⟨st, n, (g.th n).bg, false, 0, []⟩]⟩ := by
  unfold bgG
  cases hn : (g.th n).now with
  | some l => exact .inl ⟨rfl, .inl (by simp)⟩
  | none =>
    dsimp only
    cases hc : (m.ts[n]?.getD [])[(g.th n).bg]? with
    | none => exact .inl ⟨rfl, .inr ⟨rfl, by simpa using hc⟩⟩
    | some c => exact .inr ⟨c, rfl, rfl, rfl⟩
/-- No more calls begin than there are. -/
theorem bg_le (m : Mc) (S : List Nat) (i : Nat) : ((plyG m 0 S (g0 m)).th i).bg ≤ (m.ts[i]?.getD []).length := by
  refine plyG_indS (I := fun _ g => (g.th i).bg ≤ (m.ts[i]?.getD []).length) (A := fun _ => True) (by simp [g0]) (fun S g n _ h => ?_) S (fun _ _ => trivial)
  rw [actG_eq, exG_bg]
  rcases bgG_cases m g S.length n with ⟨h1, _⟩ | ⟨c, h1, h2, h3⟩
  · rw [h1]; exact h
  · rw [h3]
    dsimp only
    by_cases hi : i = n
    · subst hi
      rw [putT_same]
      exact (List.getElem?_eq_some_iff.1 h2).1
    · rw [putT_other _ _ hi]; exact h
/-- What becomes of a call. -/
theorem dgs_later {es : List Ev} {st : Nat} (hes : ∀ x ∈ es, st ≤ x.st) : ∀ (l : List Dg) (d : Dg), d ∈ l → ∃ d' ∈ es.foldl dg1 l, d'.th = d.th ∧ d'.cl = d.cl ∧ d'.b = d.b ∧ (d.e ≠ -1 → d' = d) ∧ (d.e = -1 → d'.e = -1 ∨ (st : Int) ≤ d'.e) := by
  induction es with
  | nil => intro l d hd; exact ⟨d, hd, rfl, rfl, rfl, fun _ => rfl, fun h => .inl h⟩
  | cons x es ih =>
    intro l d hd
    rw [List.foldl_cons]
    have ih := ih (fun y hy => hes y (by simp [hy]))
    have hx := hes x (by simp)
    by_cases he : x.en = true
    · rw [dg1_end _ _ he]
      obtain ⟨d', h1, h2, h3, h4, h5, h6⟩ := ih (l.map (fun d => d.fin x)) (d.fin x) (List.mem_map.2 ⟨d, hd, rfl⟩)
      unfold Dg.fin at h2 h3 h4 h5 h6
      by_cases hi : d.is x
      · simp only [if_pos hi] at h2 h3 h4 h5 h6
        refine ⟨d', h1, h2, h3, h4, fun h => absurd hi.2.2 h, fun _ => .inr ?_⟩
        have := h5 (by omega)
        rw [this]
        dsimp only
        omega
      · simp only [if_neg hi] at h2 h3 h4 h5 h6
        exact ⟨d', h1, h2, h3, h4, h5, h6⟩
    · rw [dg1_begin _ _ (by simpa using he)]
      exact ih _ d (by simp [hd])
theorem ply_later (m : Mc) (S T : List Nat) {d : Dg} (hd : d ∈ dgs (plyG m 0 S (g0 m)).out) : ∃ d' ∈ dgs (plyG m 0 (S ++ T) (g0 m)).out, d'.th = d.th ∧ d'.cl = d.cl ∧ d'.b = d.b ∧ (d.e ≠ -1 → d' = d) ∧ (d.e = -1 → d'.e = -1 ∨ (S.length : Int) ≤ d'.e) := by
  obtain ⟨es, h1, h2⟩ := run_parts m S T
  rw [h1]
  have : dgs ((plyG m 0 S (g0 m)).out ++ es) = es.foldl dg1 (dgs (plyG m 0 S (g0 m)).out) := by simp [dgs, List.foldl_append]
  rw [this]
  exact dgs_later h2 _ d hd
/-- Where all calls have ended, those that follow come behind them. -/
theorem dgs_behind {es : List Ev} {st : Nat} (hes : ∀ x ∈ es, st ≤ x.st) : ∀ (l r : List Dg), (∀ d ∈ l, d.e ≠ -1) → (∀ d ∈ r, st ≤ d.b) → ∃ r', es.foldl dg1 (l ++ r) = l ++ r' ∧ ∀ d ∈ r', st ≤ d.b := by
  induction es with
  | nil => intro l r _ hr; exact ⟨r, rfl, hr⟩
  | cons x es ih =>
    intro l r hl hr
    rw [List.foldl_cons]
    have ih := ih (fun y hy => hes y (by simp [hy]))
    by_cases he : x.en = true
    · rw [dg1_end _ _ he, List.map_append]
      have : l.map (fun d => d.fin x) = l := by
        conv => rhs; rw [← List.map_id l]
        refine List.map_congr_left fun d hd => ?_
        unfold Dg.fin
        rw [if_neg (fun hi => hl d hd hi.2.2)]
        rfl
      rw [this]
      refine ih l _ hl fun d hd => ?_
      obtain ⟨q, hq, rfl⟩ := List.mem_map.1 hd
      have := hr q hq
      unfold Dg.fin
      split <;> exact this
    · rw [dg1_begin _ _ (by simpa using he), List.append_assoc]
      refine ih l _ hl fun d hd => ?_
      rcases List.mem_append.1 hd with hd | hd
      · exact hr d hd
      · rw [List.mem_singleton.1 hd]; exact hes x (by simp)
theorem ply_behind (m : Mc) (S T : List Nat) (hd : ∀ d ∈ dgs (plyG m 0 S (g0 m)).out, d.e ≠ -1) : ∃ r, dgs (plyG m 0 (S ++ T) (g0 m)).out = dgs (plyG m 0 S (g0 m)).out ++ r ∧ ∀ d ∈ r, S.length ≤ d.b := by
  obtain ⟨es, h1, h2⟩ := run_parts m S T
  rw [h1]
  have : dgs ((plyG m 0 S (g0 m)).out ++ es) = es.foldl dg1 (dgs (plyG m 0 S (g0 m)).out ++ []) := by simp [dgs, List.foldl_append]
  rw [this]
  exact dgs_behind h2 _ [] hd (by simp)
/-- How many calls a run tells of. -/
theorem dgs_count {m : Mc} {S : List Nat} (hS : ∀ n ∈ S, n < 4) : (dgs (plyG m 0 S (g0 m)).out).length = ((plyG m 0 S (g0 m)).th 0).bg + ((plyG m 0 S (g0 m)).th 1).bg + ((plyG m 0 S (g0 m)).th 2).bg + ((plyG m 0 S (g0 m)).th 3).bg := by
  refine plyG_indS (I := fun _ g => (dgs g.out).length = (g.th 0).bg + (g.th 1).bg + (g.th 2).bg + (g.th 3).bg) (A := fun n => n < 4) (by simp [g0, dgs]) (fun S g n hn h => ?_) S hS
  have hex : ∀ g : Gs, (dgs (exG g S.length n).out).length = (dgs g.out).length := by
    intro g
    cases hn : (g.th n).now with
    | none => rw [exG_none hn]
    | some l =>
      by_cases he : (exc l g.w).2.2.2 = true
      · rw [exG_end hn he]; dsimp only; rw [dgs_snoc, dg1_end _ _ rfl]; simp
      · rw [exG_go hn (by simpa using he)]
  rw [actG_eq, hex, exG_bg, exG_bg, exG_bg, exG_bg]
  rcases bgG_cases m g S.length n with ⟨h1, _⟩ | ⟨c, h1, h2, h3⟩
  · rw [h1]; exact h
  · rw [h3]
    dsimp only
    rw [dgs_begin, List.length_append, List.length_singleton, h]
    unfold putT
    rcases (by omega : n = 0 ∨ n = 1 ∨ n = 2 ∨ n = 3) with rfl | rfl | rfl | rfl <;> simp <;> omega
/-- Threads that do no step have begun nothing. -/
theorem th_idle {m : Mc} {S : List Nat} {i : Nat} (hS : ∀ n ∈ S, n ≠ i) : (plyG m 0 S (g0 m)).th i = ⟨none, 0⟩ := by
  refine plyG_indS (I := fun _ g => g.th i = ⟨none, 0⟩) (A := fun n => n ≠ i) rfl (fun S g n hn h => ?_) S hS
  rw [actG_th (fun e => hn e.symm)]; exact h
theorem th_later {m : Mc} {S T : List Nat} {i : Nat} (hT : ∀ n ∈ T, n ≠ i) : (plyG m 0 (S ++ T) (g0 m)).th i = (plyG m 0 S (g0 m)).th i := by
  rw [plyG_append]
  generalize plyG m 0 S (g0 m) = g
  generalize 0 + S.length = st
  induction T generalizing g st with
  | nil => rfl
  | cons n T ih =>
    show (plyG m (st + 1) T (actG m g st n)).th i = _
    rw [ih (fun k hk => hT k (by simp [hk])), actG_th (fun e => hT n (by simp) e.symm)]
/-- Where no call of a thread takes more than B steps, a thread that has done more steps than all its calls may take has done them all. -/
theorem busy {m : Mc} {n B : Nat} (hB : ∀ S : List Nat, (∀ x ∈ S, x < 4) → ∀ x ∈ dgs (plyG m 0 S (g0 m)).out, x.th = n → x.e ≠ -1 → ((S.take (x.e + 1).toNat).drop x.b).count n ≤ B) (S : List Nat) (hS : ∀ x ∈ S, x < 4) :
    (((plyG m 0 S (g0 m)).th n).now = none ∧ (m.ts[n]?.getD []).length ≤ ((plyG m 0 S (g0 m)).th n).bg) ∨ (((plyG m 0 S (g0 m)).th n).now = none ∧ S.count n ≤ B * ((plyG m 0 S (g0 m)).th n).bg) ∨
      ∃ x ∈ dgs (plyG m 0 S (g0 m)).out, x.th = n ∧ x.e = -1 ∧ S.count n ≤ B * (((plyG m 0 S (g0 m)).th n).bg - 1) + (S.drop x.b).count n := by
  suffices h : Hs S.length S.length (plyG m 0 S (g0 m)) ∧ plyG m 0 S (g0 m) = plyG m 0 S (g0 m) ∧ ((((plyG m 0 S (g0 m)).th n).now = none ∧ (m.ts[n]?.getD []).length ≤ ((plyG m 0 S (g0 m)).th n).bg) ∨ (((plyG m 0 S (g0 m)).th n).now = none ∧ S.count n ≤ B * ((plyG m 0 S (g0 m)).th n).bg) ∨
      ∃ x ∈ dgs (plyG m 0 S (g0 m)).out, x.th = n ∧ x.e = -1 ∧ S.count n ≤ B * (((plyG m 0 S (g0 m)).th n).bg - 1) + (S.drop x.b).count n) from h.2.2
  refine plyG_indS (m := m) (I := fun S g => Hs S.length S.length g ∧ ((∀ x ∈ S, x < 4) ∧ g = plyG m 0 S (g0 m)) ∧ (((g.th n).now = none ∧ (m.ts[n]?.getD []).length ≤ (g.th n).bg) ∨ ((g.th n).now = none ∧ S.count n ≤ B * (g.th n).bg) ∨
      ∃ x ∈ dgs g.out, x.th = n ∧ x.e = -1 ∧ S.count n ≤ B * ((g.th n).bg - 1) + (S.drop x.b).count n)) (A := fun n => n < 4) ⟨hs_zero m, ⟨by simp, rfl⟩, .inr (.inl ⟨rfl, by simp⟩)⟩ (fun S g k hk h => ?_) S hS |> fun h => ⟨h.1, rfl, h.2.2⟩
  obtain ⟨hs, ⟨hS4, hg⟩, hI⟩ := h
  have hsn : Hs (S ++ [k]).length (S ++ [k]).length (actG m g S.length k) := by rw [List.length_append, List.length_singleton]; exact hs_act hs
  have hgn : (∀ x ∈ S ++ [k], x < 4) ∧ actG m g S.length k = plyG m 0 (S ++ [k]) (g0 m) := ⟨fun x hx => by rcases List.mem_append.1 hx with hx | hx; exact hS4 x hx; rw [List.mem_singleton.1 hx]; exact hk, by rw [ply_snoc, hg]⟩
  refine ⟨hsn, hgn, ?_⟩
  have hBn := hB (S ++ [k]) hgn.1
  rw [← hgn.2] at hBn
  by_cases hkn : k = n
  · subst hkn
    have hcnt : (S ++ [k]).count k = S.count k + 1 := by simp
    rw [hcnt]
    -- the state behind the beginning
    have hmid : ((g.th k).now = none ∧ (m.ts[k]?.getD []).length ≤ (g.th k).bg ∧ bgG m g S.length k = g) ∨ (((bgG m g S.length k).th k).now ≠ none ∧ ∃ x ∈ dgs (bgG m g S.length k).out, x.th = k ∧ x.e = -1 ∧ S.count k ≤ B * (((bgG m g S.length k).th k).bg - 1) + (S.drop x.b).count k) := by
      rcases bgG_cases m g S.length k with ⟨h1, h2⟩ | ⟨c, h1, h2, h3⟩
      · rw [h1]
        rcases h2 with h2 | ⟨h2, h4⟩
        · rcases hI with ⟨q, _⟩ | ⟨q, _⟩ | q
          · exact absurd q h2
          · exact absurd q h2
          · exact .inr ⟨h2, q⟩
        · exact .inl ⟨h2, h4, rfl⟩
      · refine .inr ?_
        rw [h3]
        dsimp only
        rw [putT_same, dgs_begin]
        refine ⟨by simp, ⟨S.length, -1, k, (g.th k).bg, []⟩, by simp, rfl, rfl, ?_⟩
        dsimp only
        rcases hI with ⟨_, q⟩ | ⟨_, q⟩ | ⟨x, q1, q2, q3, _⟩
        · have := (List.getElem?_eq_some_iff.1 h2).1; omega
        · rw [List.drop_eq_nil_of_le (Nat.le_refl _)]; simpa using q
        · have := ((hs.opn x q1).1 q3).1; rw [q2] at this; exact absurd h1 this
    rw [actG_eq] at hBn ⊢
    have hsm := hs_begin (m := m) (n := k) hs
    generalize bgG m g S.length k = gm at hmid hBn hsm
    rcases hmid with ⟨h1, h2, rfl⟩ | ⟨h1, x, h2, h3, h4, h5⟩
    · rw [exG_none h1]; exact .inl ⟨h1, h2⟩
    · cases hl : (gm.th k).now with
      | none => exact absurd hl h1
      | some l =>
        have hxb := (hsm.bnd x h2).1
        by_cases he : (exc l gm.w).2.2.2 = true
        · rw [exG_end hl he] at hBn ⊢
          dsimp only at hBn ⊢
          refine .inr (.inl ⟨by rw [putT_same], ?_⟩)
          rw [putT_same]
          dsimp only
          obtain ⟨o, ho, o1, o2, o3, o4, o5, o6, o7⟩ := dgs_end (x := ⟨S.length, k, (gm.th k).bg - 1, true, (exc l gm.w).2.2.1, (exc l gm.w).1.t⟩) hsm (by rw [hl]; simp) rfl rfl rfl
          obtain rfl := (o4 x h2 h4 h3).1
          have := hBn _ o7 rfl (by dsimp only; omega)
          dsimp only at this
          rw [show ((S.length : Int) + 1).toNat = (S ++ [k]).length by simp, List.take_length, List.drop_append_of_le_length (by omega), List.count_append] at this
          have h1b := hsm.ps k (by rw [hl]; simp)
          have hB1 : B * (gm.th k).bg = B * ((gm.th k).bg - 1) + B := by
            rw [← Nat.mul_succ]; congr 1; omega
          simp at this
          omega
        · rw [exG_go hl (by simpa using he)]
          dsimp only
          rw [putT_same]
          refine .inr (.inr ⟨x, h2, h3, h4, ?_⟩)
          dsimp only
          rw [List.drop_append_of_le_length (by omega), List.count_append]
          simp
          omega
  · have hcnt : (S ++ [k]).count n = S.count n := by simp [hkn]
    rw [hcnt, actG_th (fun e => hkn e.symm)]
    rcases hI with q | q | ⟨x, q1, q2, q3, q4⟩
    · exact .inl q
    · exact .inr (.inl q)
    · have hxb := (hs.bnd x q1).1
      refine .inr (.inr ⟨x, ?_, q2, q3, by rw [List.drop_append_of_le_length (by omega), List.count_append]; omega⟩)
      have hmem : x ∈ dgs (bgG m g S.length k).out := by
        rcases bgG_cases m g S.length k with ⟨h1, h2⟩ | ⟨c, h1, h2, h3⟩
        · rw [h1]; exact q1
        · rw [h3]; dsimp only; rw [dgs_begin]; simp [q1]
      have hsm := hs_begin (m := m) (n := k) hs
      rw [actG_eq]
      generalize bgG m g S.length k = gm at hmem hsm
      cases hl : (gm.th k).now with
      | none => rw [exG_none hl]; exact hmem
      | some l =>
        by_cases he : (exc l gm.w).2.2.2 = true
        · rw [exG_end hl he]
          obtain ⟨o, ho, o1, o2, o3, o4, o5, o6, o7⟩ := dgs_end (x := ⟨S.length, k, (gm.th k).bg - 1, true, (exc l gm.w).2.2.1, (exc l gm.w).1.t⟩) hsm (by rw [hl]; simp) rfl rfl rfl
          exact o6 x hmem (by rintro rfl; exact hkn (o1.symm.trans q2))
        · rw [exG_go hl (by simpa using he)]; exact hmem
end Go.Baro
