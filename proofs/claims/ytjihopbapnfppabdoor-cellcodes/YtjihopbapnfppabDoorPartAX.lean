/- Of this claim's own texts these, one behind the other: CellAlg4, CellAlg5. No statement of the seat is proved here; no condition but those that stand at the theorems. -/
import Derived.Test.YtjihopbapnfppabDoorPartAW
set_option linter.unusedSimpArgs false
set_option linter.unusedVariables false
namespace Go.Baro.Cel
open Go.RowKit (wrap64)
variable {d : Nat} {val : Nat → Nat → Int} {w w' : List Int} {g g' : Gh} {b k t u p : Nat} {r : Int → Int} {l : List Int}

theorem RG.mark (h : RG d t w g w' g') (j k : Nat) : rd w' (ad d j + k) = rd w (ad d j + k) := h.mem _ (.inr (by have := ad_low d j; omega))
theorem RG.mark0 (h : RG d t w g w' g') (j : Nat) : rd w' (ad d j) = rd w (ad d j) := h.mark j 0
/-- A seat that holds a copy now held it before, or the copy is the current one. -/
theorem RG.was (h : RG d t w g w' g') (h4 : g.gp = 4) {s j : Nat} (hs : s < 4) (hv : rd w' (2 + s) = (ad d j : Int)) : rd w (2 + s) = (ad d j : Int) ∨ j = g.cu := by
  have hl := ad_low d j
  rcases h.st s hs with e | e | e | ⟨_, q, ⟨_, hq⟩, e⟩
  · rw [← e]; exact .inl hv
  · omega
  · omega
  · have hjq : j = q := ad_inj (d := d) (by omega)
    subst hjq
    exact .inr (by omega)
theorem Sc.stable (sc : Sc d w g p) (h : RG d t w g w' g') (h4 : g.gp = 4) : Sc d w' g' p := by
  obtain ⟨e1, e2, e3, e4, e5, e6⟩ := h.same
  refine ⟨fun s h1 h2 j hj hv => ?_, ?_, ?_⟩
  · rw [h.mark0]
    rcases h.was h4 h2 hv with hw | rfl
    · exact sc.seat s h1 h2 j hj hw
    · exact sc.cur
  · rw [e2, h.mark0]; exact sc.cur
  · obtain ⟨x, y, z, hf⟩ := sc.few
    exact ⟨x, y, z, fun j hj hn => by rw [h.mark0] at hn; rw [e2]; exact hf j hj hn⟩
theorem pa_stable (hI : SI d val w g) (h : PA d val w g b k p r) (hr : RG d t w g w' g') : PA d val w' g' b k p r := by
  obtain ⟨e1, e2, e3, e4, e5, e6⟩ := hr.same
  have hR : PR d val g b r → PR d val g' b r := fun R => ⟨R.z, fun q hq => by rw [e1]; exact R.ar q hq, by rw [e6]; exact R.gp, by rw [e1]; exact R.b⟩
  cases h with
  | clear _ r hi K R T m => exact .clear p r hi K (hR R) (by rw [e5]; exact T) fun j hj => by rw [hr.mark0]; exact m j hj
  | got0 r K R T m M => exact .got0 r K (hR R) (by rw [e5]; exact T) (fun j hj => by rw [hr.mark0]; exact m j hj) M
  | got1 r K R T m M C => exact .got1 r K (hR R) (by rw [e5]; exact T) (fun j hj => by rw [hr.mark0]; exact m j hj) M (by rw [e2]; exact C)
  | scan i r hi K R T M sc => exact .scan i r hi K (hR R) (by rw [e5]; exact T) M (sc.stable hr R.gp)
  | hit i r hi K R T M sc A A3 B =>
    refine .hit i r hi K (hR R) (by rw [e5]; exact T) M (sc.stable hr R.gp) A A3 fun j hj hv => ?_
    rw [e2]
    rcases hr.was R.gp hi hv with h | h
    · exact B j hj h
    · exact .inr h
  | size r K R T sc S => exact .size r K (hR R) (by rw [e5]; exact T) (sc.stable hr R.gp) S
  | loop n r hn K R T sc S C m => exact .loop n r hn K (hR R) (by rw [e5]; exact T) (sc.stable hr R.gp) S C fun j hj => by rw [hr.mark0]; exact m j hj
  | look n r hn K R T sc S C m => exact .look n r hn K (hR R) (by rw [e5]; exact T) (sc.stable hr R.gp) S C fun j hj => by rw [hr.mark0]; exact m j hj
  | test n r hn K R T sc S C m M => exact .test n r hn K (hR R) (by rw [e5]; exact T) (sc.stable hr R.gp) S C (fun j hj => by rw [hr.mark0]; exact m j hj) (by rw [hr.mark0]; exact M)
  | copy i c r hi hc K R T C cp fr =>
    refine .copy i c r hi hc K (hR R) (by rw [e5]; exact T) C (fun q hq => by rw [hr.mark, e1]; exact cp q hq) fun s hs hv => ?_
    rcases hr.was R.gp hs hv with h | h
    · exact fr s hs h
    · have := hI.tc; rw [T] at this; exact this h
  | pub r K B Z G T C => exact .pub r K (by rw [e1]; exact B) Z (by rw [e6]; exact G) (by rw [e5]; exact T) (by rw [e2]; exact C)
  | pubF r K B Z G T C F => exact .pubF r K (by rw [e1]; exact B) Z (by rw [e6]; exact G) (by rw [e5]; exact T) (by rw [e2]; exact C) F
  | pubA r K B Z G T A => exact .pubA r K (by rw [e1]; exact B) Z (by rw [e6]; exact G) (by rw [e5]; exact T) (by rw [e2]; exact A)
  | give i r hi K B Z G T A L => exact .give i r hi K (by rw [e1]; exact B) Z (by rw [e6]; exact G) (by rw [e5]; exact T) (by rw [e2]; exact A) L
  | givG i r hi K B Z G T A L H => exact .givG i r hi K (by rw [e1]; exact B) Z (by rw [e6]; exact G) (by rw [e5]; exact T) (by rw [e2]; exact A) L (by rw [e2]; exact H)
theorem gi_put (hG : GI w g) (hp : PG d w g w' g') : GI w' g' := by
  obtain ⟨e1, e2, e3⟩ := hp.same
  refine ⟨fun s h4 => ?_, by rw [e1]; exact hG.rng, by rw [e1, e2]; exact hG.posn, by rw [e2]; exact hG.le2, by rw [e2]; exact hG.all, by rw [e2]; exact hG.two, fun t => by rw [e3]; exact Nat.le_trans (hG.lov t) hp.V, by rw [e1]; exact hG.out⟩
  rw [e1]
  by_cases h1 : rd w (2 + s) = 1
  · have h0 : g.own s ≠ 0 := fun e => by have := (hG.own0 s h4).2 e; omega
    have hn : rd w' (2 + s) ≠ 0 := by
      rcases hp.one s h4 h1 with ⟨h, _⟩ | ⟨j, _, _, h, _⟩
      · omega
      · have := ad_low d j; omega
    exact ⟨fun h => absurd h hn, fun h => absurd h h0⟩
  · rw [hp.seat s h4 h1]; exact hG.own0 s h4
theorem Giv.put {s lo : Nat} (h : Giv d w g s lo) (hs : s < 4) (hp : PG d w g w' g') : Giv d w' g' s lo := by
  obtain ⟨j, h1, h2, h3, h4, h5⟩ := h
  have hl := ad_low d j
  obtain ⟨q1, q2⟩ := hp.hold s j hs h1 h2 h3
  exact ⟨j, h1, q1, by rw [hp.seat s hs (by omega)]; exact h3, by rw [q2]; exact h4, by rw [q2]; exact Nat.le_trans h5 hp.V⟩
theorem Hl.put {s lo : Nat} (h : Hl d w g s lo) (hs : s < 4) (hlo : lo ≤ g.V) (hp : PG d w g w' g') : Hl d w' g' s lo := by
  rcases h with h | h
  · rcases hp.one s hs h with ⟨h, _⟩ | ⟨j, h1, h2, h3, h4, h5⟩
    · exact .inl h
    · exact .inr ⟨j, h1, h2, h3, by omega, h5⟩
  · exact .inr (h.put hs hp)
theorem Saw.put {s j lo : Nat} (h : Saw d w g s j lo) (hs : s < 4) (hlo : lo ≤ g.V) (hp : PG d w g w' g') : Saw d w' g' s j lo := by
  rcases h with ⟨h, hk, hl⟩ | h
  · rcases hp.one s hs h with ⟨h, hj⟩ | ⟨j, h1, h2, h3, h4, h5⟩
    · exact .inl ⟨h, (hj j hk).1, by rw [(hj j hk).2]; exact hl⟩
    · exact .inr ⟨j, h1, h2, h3, by omega, h5⟩
  · exact .inr (h.put hs hp)
theorem ra_put (hG : GI w g) (h : RA d val w g t k p r l) (hp : PG d w g w' g') : RA d val w' g' t k p r l := by
  obtain ⟨e1, e2, e3⟩ := hp.same
  have hN : No g t → No g' t := fun N s => by rw [e1]; exact N s
  have hV := hp.V
  have hlo := hG.lov t
  have el : g'.lo t = g.lo t := by rw [e3]
  have hO : ∀ {s}, g.own s = t → g'.own s = t := fun {s} O => by rw [e1]; exact O
  have hP : ∀ {s}, g.pos t = s → g'.pos t = s := fun {s} O => by rw [e2]; exact O
  cases h with
  | start r K z P N => exact .start r K z (hP P) (hN N)
  | go s r hs K r0 r5 r2 P N => exact .go s r hs K r0 r5 r2 (hP P) (hN N)
  | «try» s r hs K r0 r5 r2 P N r1 => exact .try s r hs K r0 r5 r2 (hP P) (hN N) r1
  | won s r hs K r5 r2 O r1 H => exact .won s r hs K r5 r2 (hO O) r1 (by rw [el]; exact H.put (by omega) hlo hp)
  | lost s r hs K r0 r5 r2 r1 P N => exact .lost s r hs K r0 r5 r2 r1 (hP P) (hN N)
  | los1 s r hs K r0 r5 r2 P N => exact .los1 s r hs K r0 r5 r2 (hP P) (hN N)
  | los2 s r hs K r0 r5 r2 r3 P N => exact .los2 s r hs K r0 r5 r2 r3 (hP P) (hN N)
  | los3 s r hs K r0 r5 r2 P N => exact .los3 s r hs K r0 r5 r2 (hP P) (hN N)
  | sat s r hs K r5 r2 O H => exact .sat s r hs K r5 r2 (hO O) (by rw [el]; exact H.put (by omega) hlo hp)
  | saw s j r hs K r2 O hj C W => exact .saw s j r hs K r2 (hO O) hj C (by rw [el]; exact W.put (by omega) hlo hp)
  | sawF s j r hs K r2 O hj C F W => exact .sawF s j r hs K r2 (hO O) hj C F (by rw [el]; exact W.put (by omega) hlo hp)
  | sawA s j r hs K r2 O hj C W => exact .sawA s j r hs K r2 (hO O) hj C (by rw [el]; exact W.put (by omega) hlo hp)
  | sawK s j r hs K r2 O hj C L W => exact .sawK s j r hs K r2 (hO O) hj C L (by rw [el]; exact W.put (by omega) hlo hp)
  | got s r hs K r2 O W => exact .got s r hs K r2 (hO O) (by rw [el]; exact W.put (by omega) hp)
  | read i s j r hi hs K r2 O hj ht sv lo u C rv =>
    have hl := ad_low d j
    obtain ⟨q1, q2⟩ := hp.hold s j (by omega) hj ht sv
    exact .read i s j r hi hs K r2 (hO O) hj q1 (by rw [hp.seat s (by omega) (by omega)]; exact sv) (by rw [el, q2]; exact lo) (by rw [q2]; omega) C (by rw [q2]; exact rv)
  | free s v r hs K r0 r2 O lo u rv => exact .free s v r hs K r0 r2 (hO O) (by rw [el]; exact lo) (by omega) rv
  | emit i v r hi K P N lo u rv => exact .emit i v r hi K (hP P) (hN N) (by rw [el]; exact lo) (by omega) rv
theorem ra_get (h : RA d val w g u k p r l) (hu : u ≠ 0) (hut : u ≠ t) (hr : RG d t w g w' g') : RA d val w' g' u k p r l := by
  obtain ⟨e1, e2, e3, e4, e5, e6⟩ := hr.same
  have hN : No g u → No g' u := fun N s => by rcases hr.own s with h | h | h <;> rw [h]; exact N s; exact fun e => hu e.symm; exact fun e => hut e.symm
  have el := (hr.pos u hut).2
  have hO : ∀ {s}, s < 4 → g.own s = u → g'.own s = u ∧ rd w' (2 + s) = rd w (2 + s) := fun {s} hs O => by
    obtain ⟨q1, q2⟩ := hr.oth s hs (by omega) (by omega)
    exact ⟨by rw [q2]; exact O, q1⟩
  have hP : ∀ {s}, g.pos u = s → g'.pos u = s := fun {s} O => by rw [(hr.pos u hut).1]; exact O
  have hV : ∀ {s lo}, s < 4 → g.own s = u → Giv d w g s lo → Giv d w' g' s lo := fun hs O ⟨j, h1, h2, h3, h4, h5⟩ => ⟨j, h1, by rw [e5]; exact h2, by rw [(hO hs O).2]; exact h3, by rw [e4]; exact h4, by rw [e4, e1]; exact h5⟩
  have hH : ∀ {s lo}, s < 4 → g.own s = u → Hl d w g s lo → Hl d w' g' s lo := fun hs O H => by
    rcases H with h | h
    · exact .inl (by rw [(hO hs O).2]; exact h)
    · exact .inr (hV hs O h)
  have hW : ∀ {s j lo}, s < 4 → g.own s = u → Saw d w g s j lo → Saw d w' g' s j lo := fun {s j lo} hs O H => by
    rcases H with ⟨h, ⟨h5, hk⟩, hl⟩ | h
    · exact .inl ⟨by rw [(hO hs O).2]; exact h, ⟨h5, by rw [e2, e6, e3]; exact hk⟩, by rw [e4]; exact hl⟩
    · exact .inr (hV hs O h)
  cases h with
  | start r K z P N => exact .start r K z (hP P) (hN N)
  | go s r hs K r0 r5 r2 P N => exact .go s r hs K r0 r5 r2 (hP P) (hN N)
  | «try» s r hs K r0 r5 r2 P N r1 => exact .try s r hs K r0 r5 r2 (hP P) (hN N) r1
  | won s r hs K r5 r2 O r1 H => exact .won s r hs K r5 r2 (hO (by omega) O).1 r1 (by rw [el]; exact hH (by omega) O H)
  | lost s r hs K r0 r5 r2 r1 P N => exact .lost s r hs K r0 r5 r2 r1 (hP P) (hN N)
  | los1 s r hs K r0 r5 r2 P N => exact .los1 s r hs K r0 r5 r2 (hP P) (hN N)
  | los2 s r hs K r0 r5 r2 r3 P N => exact .los2 s r hs K r0 r5 r2 r3 (hP P) (hN N)
  | los3 s r hs K r0 r5 r2 P N => exact .los3 s r hs K r0 r5 r2 (hP P) (hN N)
  | sat s r hs K r5 r2 O H => exact .sat s r hs K r5 r2 (hO (by omega) O).1 (by rw [el]; exact hH (by omega) O H)
  | saw s j r hs K r2 O hj C W => exact .saw s j r hs K r2 (hO (by omega) O).1 hj C (by rw [el]; exact hW (by omega) O W)
  | sawF s j r hs K r2 O hj C F W => exact .sawF s j r hs K r2 (hO (by omega) O).1 hj C F (by rw [el]; exact hW (by omega) O W)
  | sawA s j r hs K r2 O hj C W => exact .sawA s j r hs K r2 (hO (by omega) O).1 hj C (by rw [el]; exact hW (by omega) O W)
  | sawK s j r hs K r2 O hj C L W => exact .sawK s j r hs K r2 (hO (by omega) O).1 hj C L (by rw [el]; exact hW (by omega) O W)
  | got s r hs K r2 O W => exact .got s r hs K r2 (hO (by omega) O).1 (by rw [el]; exact hV (by omega) O W)
  | read i s j r hi hs K r2 O hj ht sv lo u C rv =>
    exact .read i s j r hi hs K r2 (hO (by omega) O).1 hj (by rw [e5]; exact ht) (by rw [(hO (by omega) O).2]; exact sv) (by rw [el, e4]; exact lo) (by rw [e4, e1]; exact u) C (by rw [e4]; exact rv)
  | free s v r hs K r0 r2 O lo u rv => exact .free s v r hs K r0 r2 (hO (by omega) O).1 (by rw [el]; exact lo) (by rw [e1]; exact u) rv
  | emit i v r hi K P N lo u rv => exact .emit i v r hi K (hP P) (hN N) (by rw [el]; exact lo) (by rw [e1]; exact u) rv
/-- Where a Put has ended. -/
theorem PA.fin (h : PA d val w g b k p r) (hp : p = 33 + d) : g.gp = 4 ∧ g.tg = 5 ∧ b = g.V := by
  cases h with
  | give i r hi K B Z G T A L => exact ⟨by omega, T, B⟩
  | copy i c r hi hc K R T C cp fr => omega
  | _ => omega
theorem PA.steps (h : PA d val w g b k p r) : k ≤ 45 + d := by
  cases h <;> omega
theorem PA.place (h : PA d val w g b k p r) : p ≤ 33 + d := by
  cases h <;> omega
/-- The record of the v-th Put. -/
def rcd (val : Nat → Nat → Int) (d v : Nat) : List Int := (List.range d).map fun q => val v q
theorem RA.fin (h1 : 1 ≤ d) (h : RA d val w g t k p r l) (hp : p = 15 + 2 * d) : g.pos t = 0 ∧ No g t ∧ ∃ v, g.lo t ≤ v ∧ v ≤ g.V ∧ l = rcd val d v := by
  cases h with
  | emit i v r hi K P N lo u rv =>
    obtain rfl : i = d := by omega
    exact ⟨P, N, v, lo, u, rfl⟩
  | read i s j r hi hs K r2 O hj ht sv lo u C rv => omega
  | _ => omega
theorem RA.steps (h : RA d val w g t k p r l) : k ≤ 24 + 2 * d := by
  cases h <;> omega
end Go.Baro.Cel

set_option linter.unusedSimpArgs false
set_option linter.unusedVariables false
namespace Go.Baro.Cel
open Go.RowKit (wrap64)

/-- A machine of cell: thread 0 puts, the others get. -/
structure Mok (m : Mc) (d : Nat) (val : Nat → Nat → Int) : Prop where
  ws : m.ws = wsC d
  cs : m.cs = [putC d, getC d]
  puts : ∀ (i : Nat) c, (m.ts[0]?.getD [])[i]? = some c → c.k = 0 ∧ c.ar.length = d ∧ ∀ q, q < d → c.ar[q]?.getD 0 = val (i + 1) q
  gets : ∀ t, 1 ≤ t → t < 4 → ∀ (i : Nat) c, (m.ts[t]?.getD [])[i]? = some c → c.k = 1 ∧ c.ar = []
  v0 : ∀ q, q < d → val 0 q = 0
/-- The calls of a run. -/
structure HI (d : Nat) (val : Nat → Nat → Int) (D : List Dg) (h : Gh) : Prop where
  th : ∀ x ∈ D, x.th < 4
  p0 : ∀ y ∈ D, y.th = 0 → y.e ≠ -1 → y.cl + 1 ≤ h.V
  gV : ∀ y ∈ D, y.th ≠ 0 → y.e ≠ -1 → h.tl y.th y.cl ≤ h.V
  opn : ∀ x ∈ D, x.th ≠ 0 → x.e = -1 → ∀ y ∈ D, y.e ≠ -1 → y.e < x.b → (y.th = 0 → y.cl + 1 ≤ h.lo x.th) ∧ (y.th ≠ 0 → h.tl y.th y.cl ≤ h.lo x.th)
  told : ∀ x ∈ D, x.th ≠ 0 → x.e ≠ -1 → x.to = rcd val d (h.tl x.th x.cl)
  early : ∀ x ∈ D, x.th ≠ 0 → x.e ≠ -1 → ∀ y ∈ D, y.th = 0 → y.cl + 1 = h.tl x.th x.cl → (y.b : Int) ≤ x.e
  ord : ∀ x ∈ D, x.th ≠ 0 → x.e ≠ -1 → ∀ y ∈ D, y.e ≠ -1 → y.e < x.b → (y.th = 0 → y.cl + 1 ≤ h.tl x.th x.cl) ∧ (y.th ≠ 0 → h.tl y.th y.cl ≤ h.tl x.th x.cl)
/-- Thread 0. -/
def T0 (d : Nat) (val : Nat → Nat → Int) (w : List Int) (h : Gh) (td : Td) : Prop := (td.now = none ∧ h.gp = 4 ∧ h.tg = 5 ∧ td.bg = h.V) ∨ ∃ p r, td.now = some ⟨putC d, (p : Nat), r, []⟩ ∧ p ≠ 33 + d ∧ PA d val w h td.bg (h.k 0) p r
/-- Another thread. -/
def T1 (d : Nat) (val : Nat → Nat → Int) (w : List Int) (h : Gh) (t : Nat) (td : Td) : Prop := (td.now = none ∧ h.pos t = 0 ∧ No h t) ∨ ∃ p r l, td.now = some ⟨getC d, (p : Nat), r, l⟩ ∧ p ≠ 15 + 2 * d ∧ RA d val w h t (h.k t) p r l
/-- What a run keeps to. -/
structure J (m : Mc) (d : Nat) (val : Nat → Nat → Int) (S : List Nat) (sb : Nat) (g : Gs) (h : Gh) : Prop where
  si : SI d val g.w h
  gi : GI g.w h
  t0 : T0 d val g.w h (g.th 0)
  tr : ∀ t, 1 ≤ t → t ≤ 3 → T1 d val g.w h t (g.th t)
  cnt : Cnt S g h.k (fun t => if t = 0 then 45 + d else 24 + 2 * d)
  hs : Hs sb S.length g
  hist : HI d val (dgs g.out) h
  err : noErr g
variable {m : Mc} {d : Nat} {val : Nat → Nat → Int} {S : List Nat} {g : Gs} {h h' : Gh} {w : List Int} {t : Nat} {td : Td}
/-- Who is within no call, or as far as it was. -/
theorem T0.get {w' : List Int} (H : T0 d val w h td) (hI : SI d val w h) (hr : RG d t w h w' h') (hk : h'.k 0 = h.k 0) : T0 d val w' h' td := by
  obtain ⟨e1, e2, e3, e4, e5, e6⟩ := hr.same
  rcases H with ⟨q1, q2, q3, q4⟩ | ⟨p, r, q1, q2, q3⟩
  · exact .inl ⟨q1, by rw [e6]; exact q2, by rw [e5]; exact q3, by rw [e1]; exact q4⟩
  · exact .inr ⟨p, r, q1, q2, by rw [hk]; exact pa_stable hI q3 hr⟩
theorem T1.get {w' : List Int} {u : Nat} (H : T1 d val w h u td) (hu : u ≠ 0) (hut : u ≠ t) (hr : RG d t w h w' h') (hk : h'.k u = h.k u) : T1 d val w' h' u td := by
  rcases H with ⟨q1, q2, q3⟩ | ⟨p, r, l, q1, q2, q3⟩
  · exact .inl ⟨q1, by rw [(hr.pos u hut).1]; exact q2, fun s => by rcases hr.own s with h | h | h <;> rw [h]; exact q3 s; exact fun e => hu e.symm; exact fun e => hut e.symm⟩
  · exact .inr ⟨p, r, l, q1, q2, by rw [hk]; exact ra_get q3 hu hut hr⟩
theorem T1.put {w' : List Int} {u : Nat} (H : T1 d val w h u td) (hG : GI w h) (hr : PG d w h w' h') (hk : h'.k u = h.k u) : T1 d val w' h' u td := by
  obtain ⟨e1, e2, e3⟩ := hr.same
  rcases H with ⟨q1, q2, q3⟩ | ⟨p, r, l, q1, q2, q3⟩
  · exact .inl ⟨q1, by rw [e2]; exact q2, fun s => by rw [e1]; exact q3 s⟩
  · exact .inr ⟨p, r, l, q1, q2, by rw [hk]; exact ra_put hG q3 hr⟩
/-- Nothing but the counts and what was told of. -/
theorem rg_kt (a : Nat → Nat) (b : Nat → Nat → Nat) : RG d t w h w { h with k := a, tl := b } := ⟨rfl, ⟨rfl, rfl, rfl, rfl, rfl, rfl⟩, fun _ _ => rfl, fun _ _ => .inl rfl, fun _ _ _ _ => ⟨rfl, rfl⟩, fun _ => .inl rfl, fun _ _ => ⟨rfl, rfl⟩⟩
theorem RG.kt {w' : List Int} (H : RG d t w h w' h') (a : Nat → Nat) (b : Nat → Nat → Nat) : RG d t w h w' { h' with k := a, tl := b } := ⟨H.len, H.same, H.mem, H.st, H.oth, H.own, H.pos⟩
theorem PG.kt {w' : List Int} (H : PG d w h w' h') (a : Nat → Nat) (b : Nat → Nat → Nat) : PG d w h w' { h' with k := a, tl := b } := ⟨H.V, H.same, H.seat, H.one, H.hold⟩
theorem SI.kt (H : SI d val w h) (a : Nat → Nat) (b : Nat → Nat → Nat) : SI d val w { h with k := a, tl := b } := ⟨H.len, H.cu, H.cw, H.con, H.tc, H.num, H.pv, H.st, H.s3⟩
theorem GI.kt (H : GI w h) (a : Nat → Nat) (b : Nat → Nat → Nat) : GI w { h with k := a, tl := b } := ⟨H.own0, H.rng, H.posn, H.le2, H.all, H.two, H.lov, H.out⟩
theorem PA.kt {b k p : Nat} {r : Int → Int} (H : PA d val w h b k p r) (hI : SI d val w h) (x : Nat → Nat) (y : Nat → Nat → Nat) : PA d val w { h with k := x, tl := y } b k p r := pa_stable hI H (rg_kt (t := 0) x y)
theorem RA.kt {k p : Nat} {r : Int → Int} {l : List Int} (H : RA d val w h t k p r l) (ht : t ≠ 0) (x : Nat → Nat) (y : Nat → Nat → Nat) : RA d val w { h with k := x, tl := y } t k p r l := ra_get (t := t + 1) H ht (by omega) (rg_kt x y)
theorem HI.k {D : List Dg} (H : HI d val D h) (a : Nat → Nat) : HI d val D { h with k := a } := ⟨H.th, H.p0, H.gV, H.opn, H.told, H.early, H.ord⟩

theorem j_begin (hm : Mok m d val) {n : Nat} (hn : n < 4) (H : J m d val S S.length g h) : ∃ h', J m d val S (S.length + 1) (bgG m g S.length n) h' := by
  unfold bgG
  cases hnow : (g.th n).now with
  | some l => exact ⟨h, H.si, H.gi, H.t0, H.tr, H.cnt, H.hs.mono (Nat.le_succ _) (Nat.le_refl _), H.hist, H.err⟩
  | none =>
    dsimp only
    cases hc : (m.ts[n]?.getD [])[(g.th n).bg]? with
    | none => exact ⟨h, H.si, H.gi, H.t0, H.tr, H.cnt, H.hs.mono (Nat.le_succ _) (Nat.le_refl _), H.hist, H.err⟩
    | some c =>
      dsimp only
      have hhs := hs_begin (m := m) (n := n) H.hs
      unfold bgG at hhs
      rw [hnow] at hhs
      dsimp only at hhs
      rw [hc] at hhs
      dsimp only at hhs
      have herr : noErr ⟨g.w, putT g.th n ⟨some (live (m.cs[c.k.toNat]?.getD []) c.ar), (g.th n).bg + 1⟩, g.out ++ [⟨S.length, n, (g.th n).bg, false, 0, []⟩]⟩ := by
        intro x hx hen
        rcases List.mem_append.1 hx with hx | hx
        · exact H.err x hx hen
        · rw [List.mem_singleton.1 hx] at hen; cases hen
      have hcnt := cnt_begin (c := c) H.cnt H.hs hnow (T := putT g.th n ⟨some (live (m.cs[c.k.toNat]?.getD []) c.ar), (g.th n).bg + 1⟩) (w := g.w) (m := m)
      have hopn : ∀ x ∈ dgs g.out, x.e = -1 → x.th ≠ n := fun x hx he e => by
        have := ((H.hs.opn x hx).1 he).1
        rw [e] at this; exact this hnow
      have hHI := H.hist
      by_cases hn0 : n = 0
      · subst hn0
        obtain ⟨k0, ka, kv⟩ := hm.puts _ c hc
        obtain ⟨t1, t2, t3, t4⟩ : (g.th 0).now = none ∧ h.gp = 4 ∧ h.tg = 5 ∧ (g.th 0).bg = h.V := by
          rcases H.t0 with q | ⟨p, r, q, _⟩
          · exact q
          · rw [hnow] at q; cases q
        refine ⟨{ h with k := upN h.k 0 0 }, H.si.kt _ h.tl, H.gi.kt _ h.tl, ?_, fun t h1 h3 => ?_, hcnt, hhs, ?_, herr⟩
        · dsimp only
          rw [putT_same, k0, hm.cs]
          refine .inr ⟨0, _, rfl, by omega, ?_⟩
          dsimp only
          rw [upN_same]
          refine .clear 0 _ (by omega) (by omega) ⟨?_, fun q hq => ?_, t2, by dsimp only; omega⟩ t3 (fun j hj => by omega)
          · simp [st0, ka]
          · have := kv q hq
            rw [t4] at this
            simp [st0, this]
        · dsimp only
          rw [putT_other _ _ (by omega)]
          exact (H.tr t h1 h3).get (by omega) (t := t + 1) (by omega) (rg_kt _ h.tl) (upN_other _ _ (by omega))
        · dsimp only
          rw [dgs_begin]
          have hold : ∀ {P : Dg → Prop}, (∀ x ∈ dgs g.out, P x) → P ⟨S.length, -1, 0, (g.th 0).bg, []⟩ → ∀ x ∈ dgs g.out ++ [⟨S.length, -1, 0, (g.th 0).bg, []⟩], P x := fun h1 h2 x hx => by
            rcases List.mem_append.1 hx with hx | hx
            · exact h1 x hx
            · rw [List.mem_singleton.1 hx]; exact h2
          refine ⟨hold hHI.th (by dsimp only; omega), hold hHI.p0 (fun _ h => absurd rfl h), hold hHI.gV (fun _ h => absurd rfl h), hold (fun x hx hx0 hxe => hold (hHI.opn x hx hx0 hxe) (fun h => absurd rfl h)) (fun h => absurd rfl h), hold hHI.told (fun h => absurd rfl h), hold (fun x hx hx0 hxe => hold (hHI.early x hx hx0 hxe) (fun _ hcl => ?_)) (fun h => absurd rfl h), hold (fun x hx hx0 hxe => hold (hHI.ord x hx hx0 hxe) (fun h => absurd rfl h)) (fun h => absurd rfl h)⟩
          have := hHI.gV x hx hx0 hxe
          dsimp only at hcl
          omega
      · obtain ⟨k1, ka⟩ := hm.gets n (by omega) hn _ c hc
        obtain ⟨t1, t2, t3⟩ : (g.th n).now = none ∧ h.pos n = 0 ∧ No h n := by
          rcases H.tr n (by omega) (by omega) with q | ⟨p, r, l, q, _⟩
          · exact q
          · rw [hnow] at q; cases q
        have hRG : RG d n g.w h g.w { h with k := upN h.k n 0, lo := upN h.lo n h.V } := ⟨rfl, ⟨rfl, rfl, rfl, rfl, rfl, rfl⟩, fun _ _ => rfl, fun _ _ => .inl rfl, fun _ _ _ _ => ⟨rfl, rfl⟩, fun _ => .inl rfl, fun u hu => ⟨rfl, upN_other _ _ hu⟩⟩
        refine ⟨{ h with k := upN h.k n 0, lo := upN h.lo n h.V }, ⟨H.si.len, H.si.cu, H.si.cw, H.si.con, H.si.tc, H.si.num, H.si.pv, H.si.st, H.si.s3⟩, ⟨H.gi.own0, H.gi.rng, H.gi.posn, H.gi.le2, H.gi.all, H.gi.two, fun u => ?_, H.gi.out⟩, ?_, fun t h1 h3 => ?_, hcnt, hhs, ?_, herr⟩
        · dsimp only
          by_cases hu : u = n
          · rw [hu, upN_same]; exact Nat.le_refl _
          · rw [upN_other _ _ hu]; exact H.gi.lov u
        · dsimp only
          rw [putT_other _ _ (by omega)]
          exact H.t0.get H.si hRG (upN_other _ _ (by omega))
        · dsimp only
          by_cases htn : t = n
          · subst htn
            rw [putT_same, k1, ka, hm.cs]
            refine .inr ⟨0, _, _, rfl, by omega, ?_⟩
            dsimp only
            rw [upN_same]
            exact .start _ rfl (fun i => by simp [st0]) t2 t3
          · rw [putT_other _ _ htn]
            exact (H.tr t h1 h3).get (by omega) htn hRG (upN_other _ _ htn)
        · dsimp only
          rw [dgs_begin]
          have hold : ∀ {P : Dg → Prop}, (∀ x ∈ dgs g.out, P x) → P ⟨S.length, -1, n, (g.th n).bg, []⟩ → ∀ x ∈ dgs g.out ++ [⟨S.length, -1, n, (g.th n).bg, []⟩], P x := fun h1 h2 x hx => by
            rcases List.mem_append.1 hx with hx | hx
            · exact h1 x hx
            · rw [List.mem_singleton.1 hx]; exact h2
          refine ⟨hold hHI.th hn, hold hHI.p0 (fun _ h => absurd rfl h), hold hHI.gV (fun _ h => absurd rfl h), hold (fun x hx hx0 hxe => hold (fun y hy hye hyb => ?_) (fun h => absurd rfl h)) (fun _ _ => hold (fun y hy hye hyb => ?_) (fun h => absurd rfl h)), hold hHI.told (fun _ h => absurd rfl h), hold (fun x hx hx0 hxe => hold (hHI.early x hx hx0 hxe) (fun h => absurd h hn0)) (fun _ h => absurd rfl h), hold (fun x hx hx0 hxe => hold (hHI.ord x hx hx0 hxe) (fun h => absurd rfl h)) (fun _ h => absurd rfl h)⟩
          · dsimp only
            rw [upN_other _ _ (hopn x hx hxe)]
            exact hHI.opn x hx hx0 hxe y hy hye hyb
          · dsimp only
            rw [upN_same]
            exact ⟨fun h0 => hHI.p0 y hy h0 hye, fun h0 => hHI.gV y hy h0 hye⟩
end Go.Baro.Cel
