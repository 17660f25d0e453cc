/- Regions that draw their order: one walk, in an order of our choice, serves every order. No statement of the seat is proved here; no condition. -/
import Derived.Still
import Derived.Tactics
import Derived.Tactics2
import Derived.WalkKit
set_option linter.unusedSimpArgs false
set_option linter.unusedVariables false
namespace Go.Ord

/-- s writes nothing: it may look, ask, make new blocks, halt. -/
def NoWr (P : Program) {α : Type} : Sem α → Prop
  | .pure _ => True
  | .load _ _ k => ∀ v, NoWr P (k v)
  | .store _ _ _ _ => False
  | .new _ k => ∀ r, NoWr P (k r)
  | .shape _ k => ∀ s, NoWr P (k s)
  | .freeze _ _ _ => False
  | .frozen _ k => ∀ b, NoWr P (k b)
  | .getObj _ k => ∀ o, NoWr P (k o)
  | .setObj _ _ _ => False
  | .choose _ k => ∀ n, NoWr P (k n)
  | .sys _ _ => False
  | .program k => NoWr P (k P)
  | .mark _ k => NoWr P k
  | .halt _ => True

section
variable {P : Program} {α β : Type}

theorem NoWr.bnd {s : Sem α} {f : α → Sem β} (hs : NoWr P s) (hf : ∀ a, NoWr P (f a)) : NoWr P (s.bind f) := by
  induction s with
  | pure a => exact hf a
  | load m a k ih => exact fun v => ih v (hs v)
  | store m a v k ih => exact hs.elim
  | new o k ih => exact fun v => ih v (hs v)
  | shape r k ih => exact fun v => ih v (hs v)
  | freeze a n k ih => exact hs.elim
  | frozen a k ih => exact fun v => ih v (hs v)
  | getObj r k ih => exact fun v => ih v (hs v)
  | setObj r o k ih => exact hs.elim
  | choose q k ih => exact fun v => ih v (hs v)
  | sys c k ih => exact hs.elim
  | program k ih => exact ih P hs
  | mark m k ih => exact ih hs
  | halt h => trivial

theorem NoWr.bd {s : Sem α} {f : α → Sem β} (hs : NoWr P s) (hf : ∀ a, NoWr P (f a)) : NoWr P (s >>= f) := NoWr.bnd hs hf
theorem NoWr.pr (a : α) : NoWr P (pure a : Sem α) := trivial
theorem NoWr.mp {s : Sem α} {f : α → β} (hs : NoWr P s) : NoWr P (f <$> s) := NoWr.bnd hs (fun _ => trivial)

/-- A run that writes nothing only goes up: in blocks and in draws; and where neither has gone up, the world is the very same. -/
theorem NoWr.up {s : Sem α} (hs : NoWr P s) : ∀ {w u : World} {a : α}, s.run P w = .ok a u →
    w.heap.size ≤ u.heap.size ∧ w.drawn ≤ u.drawn ∧ (u.heap.size ≤ w.heap.size → u.drawn ≤ w.drawn → u = w) := by
  induction s with
  | pure a => intro w u b h; simp only [Sem.run, Result.ok.injEq] at h; obtain ⟨_, rfl⟩ := h; exact ⟨Nat.le_refl _, Nat.le_refl _, fun _ _ => rfl⟩
  | load m a k ih =>
    intro w u b h
    simp only [Sem.run] at h
    split at h
    · exact ih _ (hs _) h
    · split at h
      · exact ih _ (hs _) h
      · cases h
  | store m a v k ih => exact hs.elim
  | new o k ih =>
    intro w u b h
    simp only [Sem.run] at h
    have := ih _ (hs _) h
    simp only [Array.size_push] at this
    exact ⟨by omega, by omega, fun h1 _ => by omega⟩
  | shape r k ih => intro w u b h; exact ih _ (hs _) h
  | freeze a n k ih => exact hs.elim
  | frozen a k ih => intro w u b h; exact ih _ (hs _) h
  | getObj r k ih =>
    intro w u b h
    simp only [Sem.run] at h
    split at h
    · cases h
    · exact ih _ (hs _) h
    · cases h
  | setObj r o k ih => exact hs.elim
  | choose q k ih =>
    intro w u b h
    simp only [Sem.run] at h
    split at h
    · exact ih _ (hs _) h
    · have := ih _ (hs _) h
      simp only at this
      exact ⟨by omega, by omega, fun h1 _ => by omega⟩
  | sys c k ih => exact hs.elim
  | program k ih => intro w u b h; exact ih P hs h
  | mark m k ih => intro w u b h; exact ih hs h
  | halt x => intro w u b h; simp only [Sem.run] at h; cases h

theorem farLoad_heap {w w' : World} (h : w'.heap = w.heap) (p : Program) (a : Addr) (b : Bool) : w'.farLoad p a b = w.farLoad p a b := by
  simp only [World.farLoad, World.noCell, World.viewLoad, World.seen, h]

/-- A run that writes nothing and leaves the very world goes the same way in every world with the same blocks. -/
theorem NoWr.same {s : Sem α} (hs : NoWr P s) : ∀ {w w' : World} {a : α}, s.run P w = .ok a w → w'.heap = w.heap → s.run P w' = .ok a w' := by
  induction s with
  | pure a => intro w w' b h hh; simp only [Sem.run, Result.ok.injEq] at h ⊢; exact ⟨h.1, trivial⟩
  | load m a k ih =>
    intro w w' b h hh
    simp only [Sem.run] at h ⊢
    have hc : w'.cell? a = w.cell? a := by simp only [World.cell?, hh]
    rw [hc, farLoad_heap hh]
    split at h
    · exact ih _ (hs _) h hh
    · split at h
      · exact ih _ (hs _) h hh
      · cases h
  | store m a v k ih => exact hs.elim
  | new o k ih =>
    intro w w' b h hh
    simp only [Sem.run] at h
    have := (NoWr.up (hs _) h).1
    simp only [Array.size_push] at this
    omega
  | shape r k ih =>
    intro w w' b h hh
    simp only [Sem.run] at h ⊢
    have hc : w'.shape? r = w.shape? r := by simp only [World.shape?, hh]
    rw [hc]; exact ih _ (hs _) h hh
  | freeze a n k ih => exact hs.elim
  | frozen a k ih =>
    intro w w' b h hh
    simp only [Sem.run] at h ⊢
    have hc : w'.frozen? a = w.frozen? a := by simp only [World.frozen?, hh]
    rw [hc]; exact ih _ (hs _) h hh
  | getObj r k ih =>
    intro w w' b h hh
    simp only [Sem.run] at h ⊢
    rw [hh]
    split at h
    · cases h
    · exact ih _ (hs _) h hh
    · cases h
  | setObj r o k ih => exact hs.elim
  | choose q k ih =>
    intro w w' b h hh
    simp only [Sem.run] at h ⊢
    split at h
    · rename_i hq; rw [if_pos hq]; exact ih _ (hs _) h hh
    · have := (NoWr.up (hs _) h).2.1
      simp only at this
      omega
  | sys c k ih => exact hs.elim
  | program k ih => intro w w' b h hh; exact ih P hs h hh
  | mark m k ih => intro w w' b h hh; exact ih hs h hh
  | halt x => intro w w' b h hh; simp only [Sem.run] at h; cases h
end

end Go.Ord
