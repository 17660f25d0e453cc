/- How far a run has come, and what it leaves. No statement of the seat is proved here; no condition. -/
import Derived.Test.YtjihopbapnfppaaDoorLibO
set_option linter.unusedSimpArgs false
set_option linter.unusedVariables false
namespace Go.Proofs.YtjihopbapnfppaaDoor
open Go.RowKit Go.Ord Go.Baro

/-- What a run leaves. -/
def RnPost (T W : List Int) (N : Nat) (E : Int) (w : World) (e : Ending) (w' : World) : Prop := ∃ A1 n1 c1 A2 n2 c2, e = .returned (.tuple #[.slice A1 n1 c1, .slice A2 n2 c2, .int .i64 N, .int .i64 E]) ∧ RI w' w'.heap.size .i64 A1 n1 T ∧ RI w' w'.heap.size .i64 A2 n2 W ∧
  n1 ≤ c1 ∧ n2 ≤ c2 ∧ n1 ≤ 200 ∧ n2 ≤ 200 ∧ Below w.heap.size w w'

/-- How far a run has come. -/
def Prog (l : List Ins) (L j : Nat) (s0 s : Vs) (E : Int) : Prop := (E = 0 ∧ Ok l.length s ∧ rn l L s0 = ((rn l (L - j) s).1, (rn l (L - j) s).2.1 + j, (rn l (L - j) s).2.2)) ∨ (E ≠ 0 ∧ s.t.length ≤ 200 ∧ s.w.length ≤ 200 ∧ rn l L s0 = (s, j, E))
theorem prog_end {l : List Ins} {L j : Nat} {s0 s : Vs} (h : Prog l L j s0 s 0) (hp : s.p = l.length) : rn l L s0 = (s, j, 0) := by
  rcases h with ⟨_, _, h⟩ | ⟨h, _⟩
  · rw [h, rn_end hp]; simp
  · exact absurd rfl h
theorem prog_over {l : List Ins} {j : Nat} {s0 s : Vs} (h : Prog l j j s0 s 0) (hp : s.p ≠ l.length) : rn l j s0 = (s, j, 11) := by
  rcases h with ⟨_, _, h⟩ | ⟨h, _⟩
  · rw [h, Nat.sub_self, rn_over hp]; simp
  · exact absurd rfl h
theorem prog_step {l : List Ins} {L j : Nat} {s0 s s' : Vs} {o : Ins} {E : Int} (h : Prog l L j s0 s 0) (hj : j < L) (hp : s.p ≠ l.length) (ho : l[s.p.toNat]? = some o) (hs : stp l.length o s = (s', E)) (hok : okI l.length o) (hi : inI o) : Prog l L (j + 1) s0 s' E := by
  rcases h with ⟨_, hk, h⟩ | ⟨h, _⟩
  · have hk' := stp_ok hok hi hk (by have := hk.hi; omega)
    rw [hs] at hk'
    rw [show L - j = (L - (j + 1)) + 1 by omega] at h
    by_cases hE : E = 0
    · subst hE
      rw [rn_step hp ho hs] at h
      exact .inl ⟨rfl, hk', by rw [h]; simp only [Prod.mk.injEq, and_true, true_and]; omega⟩
    · rw [rn_err hp ho hs hE] at h
      exact .inr ⟨hE, hk'.tl, hk'.wl, by rw [h]; simp only [Prod.mk.injEq, and_true, true_and]; omega⟩
  · exact absurd rfl h
theorem prog_err {l : List Ins} {L j : Nat} {s0 s : Vs} {E : Int} (h : Prog l L j s0 s E) (hE : E ≠ 0) : rn l L s0 = (s, j, E) ∧ s.t.length ≤ 200 ∧ s.w.length ≤ 200 := by
  rcases h with ⟨h, _⟩ | ⟨_, h1, h2, h⟩
  · exact absurd h hE
  · exact ⟨h, h1, h2⟩
theorem prog_ok {l : List Ins} {L j : Nat} {s0 s : Vs} (h : Prog l L j s0 s 0) : Ok l.length s := by
  rcases h with ⟨_, h, _⟩ | ⟨h, _⟩
  · exact h
  · exact absurd rfl h

/-- How far a run has come: an error has ended the call. -/
def ProgC (l : List Ins) (L j : Nat) (s0 s : Vs) (E : Int) : Prop := (E = 0 ∧ Ok l.length s ∧ rn l L s0 = ((rn l (L - j) s).1, (rn l (L - j) s).2.1 + j, (rn l (L - j) s).2.2)) ∨ (E ≠ 0 ∧ s.p = l.length ∧ s.t.length ≤ 200 ∧ s.w.length ≤ 200 ∧ ∃ p, rn l L s0 = ({ s with p := p }, j, E))
/-- The state behind an instruction: an error ends the call. -/
def aft (n : Nat) (E : Int) (s : Vs) : Vs := { s with p := if E = 0 then s.p else n }
theorem aft_ok (n : Nat) (s : Vs) : aft n 0 s = s := rfl
theorem aft_err {n : Nat} {E : Int} (h : E ≠ 0) (s : Vs) : aft n E s = { s with p := n } := by unfold aft; rw [if_neg h]
theorem progc_end {l : List Ins} {L j : Nat} {s0 s : Vs} {E : Int} (h : ProgC l L j s0 s E) (hp : s.p = l.length) : ∃ p, rn l L s0 = ({ s with p := p }, j, E) := by
  rcases h with ⟨h0, _, h⟩ | ⟨_, _, _, _, h⟩
  · rw [h, rn_end hp, h0]; exact ⟨s.p, by simp⟩
  · exact h
theorem progc_zero {l : List Ins} {L j : Nat} {s0 s : Vs} {E : Int} (h : ProgC l L j s0 s E) (hp : s.p ≠ l.length) : E = 0 := by
  rcases h with ⟨h, _⟩ | ⟨_, h, _⟩
  · exact h
  · exact absurd h hp
theorem progc_over {l : List Ins} {j : Nat} {s0 s : Vs} (h : ProgC l j j s0 s 0) (hp : s.p ≠ l.length) : rn l j s0 = (s, j, 11) := by
  rcases h with ⟨_, _, h⟩ | ⟨h, _⟩
  · rw [h, Nat.sub_self, rn_over hp]; simp
  · exact absurd rfl h
theorem progc_step {l : List Ins} {L j : Nat} {s0 s s' : Vs} {o : Ins} {E : Int} (h : ProgC l L j s0 s 0) (hj : j < L) (hp : s.p ≠ l.length) (ho : l[s.p.toNat]? = some o) (hs : stp l.length o s = (s', E)) (hok : okI l.length o) (hi : inI o) : ProgC l L (j + 1) s0 (aft l.length E s') E := by
  rcases h with ⟨_, hk, h⟩ | ⟨h, _⟩
  · have hk' := stp_ok hok hi hk (by have := hk.hi; omega)
    rw [hs] at hk'
    rw [show L - j = (L - (j + 1)) + 1 by omega] at h
    by_cases hE : E = 0
    · subst hE
      rw [rn_step hp ho hs] at h
      exact .inl ⟨rfl, hk', by rw [h, aft_ok]; simp only [Prod.mk.injEq, and_true, true_and]; omega⟩
    · rw [rn_err hp ho hs hE] at h
      rw [aft_err hE]
      exact .inr ⟨hE, rfl, hk'.tl, hk'.wl, s'.p, by rw [h]; simp only [Prod.mk.injEq, and_true, true_and]; omega⟩
  · exact absurd rfl h
theorem progc_len {l : List Ins} {L j : Nat} {s0 s : Vs} {E : Int} (h : ProgC l L j s0 s E) : s.t.length ≤ 200 ∧ s.w.length ≤ 200 := by
  rcases h with ⟨_, h, _⟩ | ⟨_, _, h1, h2, _⟩
  · exact ⟨h.tl, h.wl⟩
  · exact ⟨h1, h2⟩
theorem progc_ok {l : List Ins} {L j : Nat} {s0 s : Vs} (h : ProgC l L j s0 s 0) : Ok l.length s := by
  rcases h with ⟨_, h, _⟩ | ⟨h, _⟩
  · exact h
  · exact absurd rfl h

end Go.Proofs.YtjihopbapnfppaaDoor
