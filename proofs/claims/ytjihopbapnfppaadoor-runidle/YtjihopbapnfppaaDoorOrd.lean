/- Regions that draw their order: one walk, in an order of our choice, serves every order. No statement of the seat is proved here; no condition. -/
import Derived.Still
import Derived.Tactics
import Derived.Tactics2
import Derived.WalkKit
set_option linter.unusedSimpArgs false
set_option linter.unusedVariables false
namespace Go.Ord

/-- s writes nothing: it may look (at blocks that are there), ask, make new blocks, halt. -/
def NoWr (P : Program) {α : Type} : Sem α → Prop
  | .pure _ => True
  | .load _ _ k => ∀ v, NoWr P (k v)
  | .store _ _ _ _ => False
  | .new _ k => ∀ r, NoWr P (k r)
  | .shape r k => (∀ s, NoWr P (k s)) ∧ ∀ w a u, w.heap.size ≤ r → (k none).run P w ≠ .ok a u
  | .freeze _ _ _ => False
  | .frozen _ _ => False
  | .getObj _ k => ∀ o, NoWr P (k o)
  | .setObj _ _ _ => False
  | .choose _ k => ∀ n, NoWr P (k n)
  | .sys _ _ => False
  | .program k => NoWr P (k P)
  | .mark _ k => NoWr P k
  | .halt _ => True

section
variable {P : Program} {α β : Type}

theorem NoWr.bnd {s : Sem α} {f : α → Sem β} (hs : NoWr P s) (hf : ∀ a, NoWr P (f a)) : NoWr P (s.bind f) := by
  induction s with
  | pure a => exact hf a
  | load m a k ih => exact fun v => ih v (hs v)
  | store m a v k ih => exact hs.elim
  | new o k ih => exact fun v => ih v (hs v)
  | shape r k ih =>
    refine ⟨fun v => ih v (hs.1 v), fun w a u hw hr => ?_⟩
    have hr' : ((k none).bind f).run P w = .ok a u := hr
    have hb : ((k none).bind f).run P w = ((k none).run P w).andThen fun x w' => (f x).run P w' := Sem.run_bind ..
    rw [hb] at hr'
    cases hk : (k none).run P w with
    | ok x w' => exact hs.2 w x w' hw hk
    | halt h w' => rw [hk] at hr'; cases hr'
  | freeze a n k ih => exact hs.elim
  | frozen a k ih => exact hs.elim
  | getObj r k ih => exact fun v => ih v (hs v)
  | setObj r o k ih => exact hs.elim
  | choose q k ih => exact fun v => ih v (hs v)
  | sys c k ih => exact hs.elim
  | program k ih => exact ih P hs
  | mark m k ih => exact ih hs
  | halt h => trivial

theorem NoWr.bd {s : Sem α} {f : α → Sem β} (hs : NoWr P s) (hf : ∀ a, NoWr P (f a)) : NoWr P (s >>= f) := NoWr.bnd hs hf
theorem NoWr.pr (a : α) : NoWr P (pure a : Sem α) := trivial
theorem NoWr.mp {s : Sem α} {f : α → β} (hs : NoWr P s) : NoWr P (f <$> s) := NoWr.bnd hs (fun _ => trivial)

/-- A run that writes nothing only goes up: in blocks and in draws; and where neither has gone up, the world is the very same. -/
theorem NoWr.up {s : Sem α} (hs : NoWr P s) : ∀ {w u : World} {a : α}, s.run P w = .ok a u →
    w.heap.size ≤ u.heap.size ∧ w.drawn ≤ u.drawn ∧ (u.heap.size ≤ w.heap.size → u.drawn ≤ w.drawn → u = w) := by
  induction s with
  | pure a => intro w u b h; simp only [Sem.run, Result.ok.injEq] at h; obtain ⟨_, rfl⟩ := h; exact ⟨Nat.le_refl _, Nat.le_refl _, fun _ _ => rfl⟩
  | load m a k ih =>
    intro w u b h
    simp only [Sem.run] at h
    split at h
    · exact ih _ (hs _) h
    · split at h
      · exact ih _ (hs _) h
      · cases h
  | store m a v k ih => exact hs.elim
  | new o k ih =>
    intro w u b h
    simp only [Sem.run] at h
    have := ih _ (hs _) h
    simp only [Array.size_push] at this
    exact ⟨by omega, by omega, fun h1 _ => by omega⟩
  | shape r k ih => intro w u b h; exact ih _ (hs.1 _) h
  | freeze a n k ih => exact hs.elim
  | frozen a k ih => exact hs.elim
  | getObj r k ih =>
    intro w u b h
    simp only [Sem.run] at h
    split at h
    · cases h
    · exact ih _ (hs _) h
    · cases h
  | setObj r o k ih => exact hs.elim
  | choose q k ih =>
    intro w u b h
    simp only [Sem.run] at h
    split at h
    · exact ih _ (hs _) h
    · have := ih _ (hs _) h
      simp only at this
      exact ⟨by omega, by omega, fun h1 _ => by omega⟩
  | sys c k ih => exact hs.elim
  | program k ih => intro w u b h; exact ih P hs h
  | mark m k ih => intro w u b h; exact ih hs h
  | halt x => intro w u b h; simp only [Sem.run] at h; cases h

/-- Every block that w has is there in w', as it was. -/
def Ext (w w' : World) : Prop := ∀ b, b < w.heap.size → w'.heap[b]? = w.heap[b]?
theorem Ext.refl (w : World) : Ext w w := fun _ _ => rfl
theorem Ext.size {w w' : World} (h : Ext w w') : w.heap.size ≤ w'.heap.size := by
  cases hn : w.heap.size with
  | zero => exact Nat.zero_le _
  | succ n =>
    have h1 := h n (by omega)
    have hlt : n < w.heap.size := by omega
    have h3 : w.heap[n]? = some w.heap[n] := Array.getElem?_eq_getElem hlt
    rw [h3] at h1
    obtain ⟨h2, _⟩ := Array.getElem?_eq_some_iff.1 h1
    omega
theorem Ext.trans {a b c : World} (h : Ext a b) (h' : Ext b c) : Ext a c := fun k hk => (h' k (by have := h.size; omega)).trans (h k hk)
theorem Ext.of_heap {w w' : World} (h : w'.heap = w.heap) : Ext w w' := fun b _ => by rw [h]
theorem Ext.kept {w w' : World} (h : Ext w w') {b : Nat} {o : Obj} (ho : w.heap[b]? = some o) : w'.heap[b]? = some o := by
  obtain ⟨h1, _⟩ := Array.getElem?_eq_some_iff.1 ho
  rw [h b h1, ho]

theorem seen_ext {w w' : World} (h : Ext w w') {p : Program} {at_ : Addr} {u : TypeId} {k : Addr} {b : Bool} {r : Array Value × TypeId × (Nat × Nat) × Nat × Value × List (Nat × Nat × List UInt8)} (hr : w.seen p at_ u k b = .ok r) : w'.seen p at_ u k b = .ok r := by
  cases hb : w.heap[at_.block]? with
  | some o =>
    have hb' := h.kept hb
    unfold World.seen at hr ⊢
    rw [hb'] 
    rw [hb] at hr
    exact hr
  | none =>
    exfalso
    unfold World.seen at hr
    simp only [hb] at hr
    simp only [bind, Except.bind, throw, throwThe, MonadExceptOf.throw, pure, Except.pure] at hr
    repeat' (split at hr)
    all_goals (first | cases hr | contradiction | skip)

theorem farLoad_ext {w w' : World} (h : Ext w w') {p : Program} {a : Addr} {b : Bool} {r : Value × List Addr} (hr : w.farLoad p a b = .ok r) : w'.farLoad p a b = .ok r := by
  unfold World.farLoad at hr ⊢
  split at hr
  · rename_i at_ u hb
    rw [h.kept hb]
    dsimp only
    cases hv : w.viewLoad p at_ u a b with
    | error e => rw [hv] at hr; cases hr
    | ok x =>
      rw [hv] at hr
      have : w'.viewLoad p at_ u a b = .ok x := by
        unfold World.viewLoad at hv ⊢
        cases hs : w.seen p at_ u a b with
        | error e => rw [hs] at hv; cases hv
        | ok y => rw [hs] at hv; rw [seen_ext h hs]; exact hv
      rw [this]; exact hr
  · cases hr

/-- A run that writes nothing and leaves the very world goes the same way in every world that has the same blocks, and perhaps more. -/
theorem NoWr.same {s : Sem α} (hs : NoWr P s) : ∀ {w w' : World} {a : α}, s.run P w = .ok a w → Ext w w' → s.run P w' = .ok a w' := by
  induction s with
  | pure a => intro w w' b h hh; simp only [Sem.run, Result.ok.injEq] at h ⊢; exact ⟨h.1, trivial⟩
  | load m a k ih =>
    intro w w' b h hh
    simp only [Sem.run] at h ⊢
    cases hb : w.heap[a.block]? with
    | some o =>
      have hc : w'.cell? a = w.cell? a := by simp only [World.cell?, hb, hh.kept hb]
      rw [hc]
      split at h
      · exact ih _ (hs _) h hh
      · cases hf : w.farLoad P a (m == .atomic) with
        | ok x => rw [hf] at h; rw [farLoad_ext hh hf]; exact ih _ (hs _) h hh
        | error e => rw [hf] at h; cases h
    | none =>
      have hc : w.cell? a = none := by simp only [World.cell?, hb]
      obtain ⟨e, hf⟩ : ∃ e, w.farLoad P a (m == .atomic) = .error e := by
        unfold World.farLoad
        rw [hb]
        exact ⟨_, rfl⟩
      simp only [hc, hf] at h
      cases h
  | store m a v k ih => exact hs.elim
  | new o k ih =>
    intro w w' b h hh
    simp only [Sem.run] at h
    have := (NoWr.up (hs _) h).1
    simp only [Array.size_push] at this
    omega
  | shape r k ih =>
    intro w w' b h hh
    simp only [Sem.run] at h ⊢
    by_cases hr : r < w.heap.size
    · have hc : w'.shape? r = w.shape? r := by simp only [World.shape?, hh r hr]
      rw [hc]; exact ih _ (hs.1 _) h hh
    · have hc : w.shape? r = none := by simp only [World.shape?, Array.getElem?_eq_none (Nat.le_of_not_lt hr)]
      rw [hc] at h
      exact (hs.2 w b w (Nat.le_of_not_lt hr) h).elim
  | freeze a n k ih => exact hs.elim
  | frozen a k ih => exact hs.elim
  | getObj r k ih =>
    intro w w' b h hh
    simp only [Sem.run] at h ⊢
    cases hb : w.heap[r]? with
    | none => rw [hb] at h; cases h
    | some o =>
      rw [hh.kept hb]
      rw [hb] at h
      cases o <;> first | (cases h; done) | exact ih _ (hs _) h hh
  | setObj r o k ih => exact hs.elim
  | choose q k ih =>
    intro w w' b h hh
    simp only [Sem.run] at h ⊢
    split at h
    · rename_i hq; rw [if_pos hq]; exact ih _ (hs _) h hh
    · have := (NoWr.up (hs _) h).2.1
      simp only at this
      omega
  | sys c k ih => exact hs.elim
  | program k ih => intro w w' b h hh; exact ih P hs h hh
  | mark m k ih => intro w w' b h hh; exact ih hs h hh
  | halt x => intro w w' b h hh; simp only [Sem.run] at h; cases h
end

end Go.Ord
