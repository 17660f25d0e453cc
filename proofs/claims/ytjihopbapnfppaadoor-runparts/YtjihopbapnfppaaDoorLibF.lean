/- append to a slice that has no room. No statement of the seat is proved here; no condition. -/
import Derived.Test.YtjihopbapnfppaaDoorLibU
import Derived.Test.YtjihopbapnfppaaDoorLibB
set_option linter.unusedSimpArgs false
set_option linter.unusedVariables false
namespace Go.Proofs.YtjihopbapnfppaaDoor
open Go.RowKit Go.Ord Go.Baro

section
variable {P : Program} {t e : TypeId} {z : Value} {s by' : Nat} {ops : Array Oper} {rest : List Oper} {o : Oper} {a : Act} {Q : Exit → Act → World → Prop}
/-- append to a slice without room: into a new block. -/
theorem app_full (E : Elt P t e z s by') (w : World) (hgd : o.guard = none) (l x : Operand) (ho : o.op = .call { callee := .builtin .append, args := #[l, x], argTypes := #[t, t] })
    (A : Option Addr) (n : Nat) (xs : List Value) (hs : a.eval l = .slice A n n) (B : Nat) (hr : Rd w B s A n xs) (hA : A = none → n = 0) (hB : B ≤ w.heap.size) (m : Nat) (hm : 0 < m) (cs : List Value)
    (g : Nat) (hg : g = w.heap.size) (hx : a.eval x = .slice (some ⟨g, 0, none⟩) m m) (hl : cs.length = m * s) (hn : (n + m) * by' ≤ 140737488355328) (hn' : n + m ≤ 140737488355328)
    (h : ∀ v' w', w'.ownsRow w.heap.size e s v' (n + m) (xs ++ cs) → Below w.heap.size w w' → wpList P ops Q rest (a.put o.dst v') w') :
    wpList P ops Q (o :: rest) a (w.alloc (.cells cs.toArray e)) := by
  have E' := E
  obtain ⟨hu, ⟨i, hi, h5, h6, h7⟩, h3, h4⟩ := E
  subst hg
  have hnews : ∀ j u, cs[j]? = some u → (w.alloc (.cells cs.toArray e)).cell? ((⟨w.heap.size, 0, none⟩ : Addr).add j) = some u := by
    intro j u hj
    have hr : (w.alloc (.cells cs.toArray e)).heap[w.heap.size]? = some (.cells cs.toArray e (0, 0)) := heap_alloc_new w _
    rw [Addr.add_lit, Nat.zero_add, cell_of_row _ _ _ _ _ _ hr]
    simpa using hj
  have hgr : ∀ (cap : Nat) (zs : Array Value), n + m ≤ cap → cap ≤ maxLen → zs.size = (cap - (n + m)) * s →
      ((w.alloc (.cells cs.toArray e)).drew.alloc (.cells ((xs ++ cs).toArray ++ zs) e)).ownsRow w.heap.size e s (.slice (some ⟨(w.alloc (.cells cs.toArray e)).heap.size, 0, none⟩) (n + m) cap) (n + m) (xs ++ cs) := by
    intro cap zs h1 h2 h3
    have hlen : (xs ++ cs).length = (n + m) * s := by rw [List.length_append, hr.len, hl, Nat.add_mul]
    refine ⟨hlen, .inr ⟨_, cap, _, rfl, by simp, heap_alloc_new (w.alloc (.cells cs.toArray e)).drew _, h1, h2, ?_, ?_⟩⟩
    · rw [Array.size_append, List.size_toArray, hlen, h3, ← Nat.add_mul]
      congr 1
      omega
    · rw [Array.toList_append, ← hlen]
      exact List.take_left
  have hbl : ∀ o2, Below w.heap.size w ((w.alloc (.cells cs.toArray e)).drew.alloc o2) := fun o2 => (((Below.refl w.heap.size w).alloc (Nat.le_refl _) _).drew).alloc (by simp) o2
  have hcm : ∀ old, grownCap (w.alloc (.cells cs.toArray e)) (n + m) old e ≤ maxLen := fun old => grownCap_le_maxLen _ (n + m) old e (by unfold maxLen; omega)
  have hge : ∀ old, n + m ≤ grownCap (w.alloc (.cells cs.toArray e)) (n + m) old e := fun old => grownCap_ge _ (n + m) old e
  refine wpList_plain hgd fun K hK => ?_
  cases A with
  | none =>
    obtain rfl := hA rfl
    have hx0 : xs = [] := List.eq_nil_of_length_eq_zero (by simpa using hr.len)
    subst hx0
    have hrun := _root_.Go.run_append_nil (P := P) (w.alloc (.cells cs.toArray e)) t o.type e i z hu hi h5 ⟨w.heap.size, 0, none⟩ m m cs (by rw [h6]; exact hl) hnews hm (by omega) (by rw [h7]; rw [Nat.zero_add] at hn; omega)
    unfold Oper.wp
    simp [execOp, ho, resolve, invoke, builtin, hs, hx, hrun, Result.andThen]
    have h1 := hgr (grownCap (w.alloc (.cells cs.toArray e)) m 0 e) (Builtin.zeroCells z.cells (grownCap (w.alloc (.cells cs.toArray e)) m 0 e - m)) (by have := hge 0; rwa [Nat.zero_add] at this ⊢) (by have := hcm 0; rwa [Nat.zero_add] at this) (by rw [size_zeroCells, h3, Nat.zero_add])
    rw [List.nil_append, Nat.zero_add] at h1
    exact hK _ _ (h _ _ (by rw [Nat.zero_add]; simpa using h1) (hbl _))
  | some ad =>
    have holds : ∀ j u, xs[j]? = some u → (w.alloc (.cells cs.toArray e)).cell? (ad.add j) = some u := by
      intro j u hj
      have hjl : j < n * s := by rw [← hr.len]; exact (List.getElem?_eq_some_iff.1 hj).1
      obtain ⟨b, q, hA, hb, hc⟩ := hr.at_ (by rcases Nat.eq_zero_or_pos n with h0 | h0; simp [h0] at hjl; exact h0)
      injection hA with hA
      subst hA
      rw [Addr.add_lit]
      refine (World.cell?_of_block (w := w) (a := ⟨b, q + j, none⟩) (Below.heap_alloc w _ b (by omega))).trans ?_
      rw [hc j hjl, hj]
    have hrun := run_append_grow (P := P) (w.alloc (.cells cs.toArray e)) t o.type e i z hu hi h5 ad n n xs (by rw [h6]; exact hr.len) holds ⟨w.heap.size, 0, none⟩ m m cs (by rw [h6]; exact hl) hnews (by omega) (by omega) (growslice_fits (by omega) (by rw [h7]; exact hn))
    unfold Oper.wp
    simp [execOp, ho, resolve, invoke, builtin, hs, hx, hrun, Result.andThen]
    have h1 := hgr (grownCap (w.alloc (.cells cs.toArray e)) (n + m) n e) (Builtin.zeroCells z.cells (grownCap (w.alloc (.cells cs.toArray e)) (n + m) n e - (n + m))) (hge n) (hcm n) (by rw [size_zeroCells, h3])
    exact hK _ _ (h _ _ (by simpa using h1) (hbl _))
end
end Go.Proofs.YtjihopbapnfppaaDoor
