/- The states and the visited ones in memory. No statement of the seat is proved here; no condition. -/
import Derived.Test.YtdoniefhmmodbaaLin1
import Derived.Test.YtdoniefhmmodbaaLinPure5
import Derived.Test.YtdoniefhmmodbaaLibU
import Derived.Maps.OwnOps
import Derived.Laws.StructEq
set_option linter.unusedSimpArgs false
set_option linter.unusedVariables false
namespace Go.Proofs.Ytdoniefhmmodbaa
open Go.RowKit Go.Ord Go.Baro Go.MapKept

/-- A place. -/
def KV (d g : Int) : Value := .agg #[.int .u64 d, .int .u64 g]
theorem key_check (d g : Int) (em : Bool) (w : World) : (Instr.checkKey em 10000 74 (KV d g)).run Try.prog w = .ok () w := by
  cases em <;> kernel_rfl
theorem key_fields : (Try.prog.fieldsOf 74).toList.map (fun f => (f.name == "_", f.type, f.offset)) = [(false, 47, 0), (false, 71, 1)] := by kernel_rfl
theorem key_part0 (d g : Int) (w : World) : (part 47 #[.int .u64 d, .int .u64 g] 0).run Try.prog w = .ok (.int .u64 d) w := by kernel_rfl
theorem key_part1 (d g : Int) (w : World) : (part 71 #[.int .u64 d, .int .u64 g] 1).run Try.prog w = .ok (.int .u64 g) w := by kernel_rfl
theorem key_eq (d g d' g' : Int) (w : World) : (Op.equal 74 (KV d g) (KV d' g')).run Try.prog w = .ok (d == d' && g == g') w := by
  unfold Op.equal KV
  rw [show Op.maxDepth = 9998 + 1 + 1 from rfl, run_equalIn_agg w (9998 + 1) _ _ _ (by kernel_rfl) (by kernel_rfl)]
  have hf := key_fields
  match hm : (Try.prog.fieldsOf 74).toList with
  | [] => rw [hm] at hf; simp at hf
  | [_] => rw [hm] at hf; simp at hf
  | _ :: _ :: _ :: _ => rw [hm] at hf; simp at hf
  | [f0, f1] =>
    rw [hm] at hf
    simp only [List.map_cons, List.map_nil, List.cons.injEq, Prod.mk.injEq, and_true] at hf
    obtain ⟨⟨n0, t0, o0⟩, n1, t1, o1⟩ := hf
    have h0 : f0.name ≠ "_" := by simpa using n0
    have h1 : f1.name ≠ "_" := by simpa using n1
    have e0 := run_equalIn_int (P := Try.prog) w 9998 47 .u64 .u64 d d' (by kernel_rfl)
    have e1 := run_equalIn_int (P := Try.prog) w 9998 71 .u64 .u64 g g' (by kernel_rfl)
    simp only [Op.eqFields, if_pos h0, if_pos h1, t0, t1, o0, o1, Sem.run_bind, key_part0, key_part1, Result.andThen_ok, e0, e1]
    cases h2 : (d == d')
    · simp
    · simp only [Bool.not_true, Bool.false_eq_true, if_false, if_pos h1, Sem.run_bind, t1, o1, key_part1, Result.andThen_ok, e1]
      cases h3 : (g == g') <;> simp [Op.eqFields]

/-- Numbers that lie in a block of numbers. -/
def QR (w : World) (A : Option Addr) (n : Nat) (xs : List Int) : Prop := xs.length = n ∧ (0 < n → ∃ b o cs fr, A = some ⟨b, o, none⟩ ∧ w.heap[b]? = some (.cells cs 3 fr) ∧ ∀ j, j < n → w.cell? ⟨b, o + j, none⟩ = (xs.map (Value.int .i64))[j]?)
theorem heap_lt {w : World} {b : Nat} {o : Obj} (h : w.heap[b]? = some o) : b < w.heap.size := (Array.getElem?_eq_some_iff.1 h).1
theorem QR.ri {w : World} {A : Option Addr} {n : Nat} {xs : List Int} (h : QR w A n xs) : RI w w.heap.size .i64 A n xs := by
  refine ⟨by rw [List.length_map, h.1, Nat.mul_one], fun h0 => ?_⟩
  obtain ⟨b, o, cs, fr, hA, hb, hc⟩ := h.2 h0
  exact ⟨b, o, hA, heap_lt hb, fun j hj => hc j (by rw [Nat.mul_one] at hj; exact hj)⟩
/-- What a search keeps: all blocks of cells but those of states. -/
structure Kp (w w' : World) : Prop where
  size : w.heap.size ≤ w'.heap.size
  block : ∀ (b : Nat) (cs : Array Value) (t : TypeId) (fr : Nat × Nat), w.heap[b]? = some (.cells cs t fr) → t ≠ 49 → w'.heap[b]? = some (.cells cs t fr)
theorem Kp.refl (w : World) : Kp w w := ⟨Nat.le_refl _, fun _ _ _ _ h _ => h⟩
theorem Kp.trans {a b c : World} (h : Kp a b) (k : Kp b c) : Kp a c := ⟨Nat.le_trans h.size k.size, fun i cs t fr h1 h2 => k.block i cs t fr (h.block i cs t fr h1 h2) h2⟩
theorem Kp.below {w w' : World} (h : Below w.heap.size w w') : Kp w w' := ⟨h.size, fun b cs t fr h1 _ => (h.block b (heap_lt h1)).trans h1⟩
theorem Kp.heap {a w w' : World} (h : Kp a w) (hh : w'.heap = w.heap) : Kp a w' := ⟨by rw [hh]; exact h.size, fun b cs t fr h1 h2 => by rw [hh]; exact h.block b cs t fr h1 h2⟩
theorem Kp.grown {w w' : World} {row : Option Nat} (hg : w.grownBy w' row) (hr : ∀ (b : Nat) (cs : Array Value) (t : TypeId) (fr : Nat × Nat), row = some b → w.heap[b]? = some (.cells cs t fr) → t = 49) : Kp w w' :=
  ⟨hg.size, fun b cs t fr h1 h2 => (hg.block b (heap_lt h1) (fun e => h2 (hr b cs t fr e.symm h1))).trans h1⟩
theorem QR.kp {w w' : World} {A : Option Addr} {n : Nat} {xs : List Int} (h : QR w A n xs) (hk : Kp w w') : QR w' A n xs := by
  refine ⟨h.1, fun h0 => ?_⟩
  obtain ⟨b, o, cs, fr, hA, hb, hc⟩ := h.2 h0
  have hb' := hk.block b cs _ fr hb (by decide)
  refine ⟨b, o, cs, fr, hA, hb', fun j hj => ?_⟩
  rw [← hc j hj]
  exact World.cell?_of_block (w := w) (a := ⟨b, o + j, none⟩) (hb'.trans hb.symm)
theorem QR.nil (w : World) (A : Option Addr) : QR w A 0 [] := ⟨rfl, fun h => absurd h (by omega)⟩
theorem QR.own {w : World} {B : Nat} {v : Value} {n : Nat} {xs : List Int} (h : w.ownsRow B 3 1 v n (xs.map (Value.int .i64))) : ∃ A c, v = .slice A n c ∧ n ≤ c ∧ (A = none → c = 0) ∧ QR w A n xs := by
  have hl : xs.length = n := by have := h.1; rw [List.length_map, Nat.mul_one] at this; exact this
  rcases h.2 with ⟨rfl, rfl⟩ | ⟨g, cap, cur, rfl, hb, hg, hnc, hcm, hcs, ht⟩
  · exact ⟨none, 0, rfl, Nat.le_refl _, fun _ => rfl, hl, fun h => absurd h (by omega)⟩
  · refine ⟨some ⟨g, 0, none⟩, cap, rfl, hnc, (fun h => by cases h), hl, fun h0 => ⟨g, 0, cur, (0, 0), rfl, hg, fun j hj => ?_⟩⟩
    have hcell := h.cells (g := g) rfl
    have hj2 : j < (xs.map (Value.int .i64)).length := by rw [List.length_map]; omega
    rw [List.getElem?_eq_getElem hj2]
    have := hcell j _ (List.getElem?_eq_getElem hj2)
    rw [Addr.add_lit] at this
    exact this
theorem QR.win {w : World} {b o n i m : Nat} {xs : List Int} (h : QR w (some ⟨b, o, none⟩) n xs) (hm : i + m ≤ n) : QR w (some ⟨b, o + i, none⟩) m ((xs.drop i).take m) := by
  refine ⟨by rw [List.length_take, List.length_drop, h.1]; omega, fun h0 => ?_⟩
  obtain ⟨b', o', cs, fr, hA, hb, hc⟩ := h.2 (by omega)
  injection hA with hA
  injection hA with hA1 hA2
  subst hA1 hA2
  refine ⟨b, o + i, cs, fr, rfl, hb, fun j hj => ?_⟩
  rw [Nat.add_assoc, hc (i + j) (by omega)]
  simp [List.getElem?_take_of_lt hj, List.getElem?_drop]
section
variable {P : Program} {t e : TypeId} {z : Value} {s by' : Nat} {ops : Array Oper} {rest : List Oper} {o : Oper} {a : Act} {Q : Exit → Act → World → Prop}
/-- append to a slice without room: into a new block. -/
theorem app_full (E : Elt P t e z s by') (w : World) (hgd : o.guard = none) (l x : Operand) (ho : o.op = .call { callee := .builtin .append, args := #[l, x], argTypes := #[t, t] })
    (A : Option Addr) (n : Nat) (xs : List Value) (hs : a.eval l = .slice A n n) (B : Nat) (hr : Rd w B s A n xs) (hA : A = none → n = 0) (hB : B ≤ w.heap.size) (m : Nat) (hm : 0 < m) (cs : List Value)
    (g : Nat) (hg : g = w.heap.size) (hx : a.eval x = .slice (some ⟨g, 0, none⟩) m m) (hl : cs.length = m * s) (hn : (n + m) * by' ≤ 140737488355328) (hn' : n + m ≤ 140737488355328)
    (h : ∀ v' w', w'.ownsRow w.heap.size e s v' (n + m) (xs ++ cs) → Below w.heap.size w w' → wpList P ops Q rest (a.put o.dst v') w') :
    wpList P ops Q (o :: rest) a (w.alloc (.cells cs.toArray e)) := by
  have E' := E
  obtain ⟨hu, ⟨i, hi, h5, h6, h7⟩, h3, h4⟩ := E
  subst hg
  have hnews : ∀ j u, cs[j]? = some u → (w.alloc (.cells cs.toArray e)).cell? ((⟨w.heap.size, 0, none⟩ : Addr).add j) = some u := by
    intro j u hj
    have hr : (w.alloc (.cells cs.toArray e)).heap[w.heap.size]? = some (.cells cs.toArray e (0, 0)) := heap_alloc_new w _
    rw [Addr.add_lit, Nat.zero_add, cell_of_row _ _ _ _ _ _ hr]
    simpa using hj
  have hgr : ∀ (cap : Nat) (zs : Array Value), n + m ≤ cap → cap ≤ maxLen → zs.size = (cap - (n + m)) * s →
      ((w.alloc (.cells cs.toArray e)).drew.alloc (.cells ((xs ++ cs).toArray ++ zs) e)).ownsRow w.heap.size e s (.slice (some ⟨(w.alloc (.cells cs.toArray e)).heap.size, 0, none⟩) (n + m) cap) (n + m) (xs ++ cs) := by
    intro cap zs h1 h2 h3
    have hlen : (xs ++ cs).length = (n + m) * s := by rw [List.length_append, hr.len, hl, Nat.add_mul]
    refine ⟨hlen, .inr ⟨_, cap, _, rfl, by simp, heap_alloc_new (w.alloc (.cells cs.toArray e)).drew _, h1, h2, ?_, ?_⟩⟩
    · rw [Array.size_append, List.size_toArray, hlen, h3, ← Nat.add_mul]
      congr 1
      omega
    · rw [Array.toList_append, ← hlen]
      exact List.take_left
  have hbl : ∀ o2, Below w.heap.size w ((w.alloc (.cells cs.toArray e)).drew.alloc o2) := fun o2 => (((Below.refl w.heap.size w).alloc (Nat.le_refl _) _).drew).alloc (by simp) o2
  have hcm : ∀ old, grownCap (w.alloc (.cells cs.toArray e)) (n + m) old e ≤ maxLen := fun old => grownCap_le_maxLen _ (n + m) old e (by unfold maxLen; omega)
  have hge : ∀ old, n + m ≤ grownCap (w.alloc (.cells cs.toArray e)) (n + m) old e := fun old => grownCap_ge _ (n + m) old e
  refine wpList_plain hgd fun K hK => ?_
  cases A with
  | none =>
    obtain rfl := hA rfl
    have hx0 : xs = [] := List.eq_nil_of_length_eq_zero (by simpa using hr.len)
    subst hx0
    have hrun := _root_.Go.run_append_nil (P := P) (w.alloc (.cells cs.toArray e)) t o.type e i z hu hi h5 ⟨w.heap.size, 0, none⟩ m m cs (by rw [h6]; exact hl) hnews hm (by omega) (by rw [h7]; rw [Nat.zero_add] at hn; omega)
    unfold Oper.wp
    simp [execOp, ho, resolve, invoke, builtin, hs, hx, hrun, Result.andThen]
    have h1 := hgr (grownCap (w.alloc (.cells cs.toArray e)) m 0 e) (Builtin.zeroCells z.cells (grownCap (w.alloc (.cells cs.toArray e)) m 0 e - m)) (by have := hge 0; rwa [Nat.zero_add] at this ⊢) (by have := hcm 0; rwa [Nat.zero_add] at this) (by rw [size_zeroCells, h3, Nat.zero_add])
    rw [List.nil_append, Nat.zero_add] at h1
    exact hK _ _ (h _ _ (by rw [Nat.zero_add]; simpa using h1) (hbl _))
  | some ad =>
    have holds : ∀ j u, xs[j]? = some u → (w.alloc (.cells cs.toArray e)).cell? (ad.add j) = some u := by
      intro j u hj
      have hjl : j < n * s := by rw [← hr.len]; exact (List.getElem?_eq_some_iff.1 hj).1
      obtain ⟨b, q, hA, hb, hc⟩ := hr.at_ (by rcases Nat.eq_zero_or_pos n with h0 | h0; simp [h0] at hjl; exact h0)
      injection hA with hA
      subst hA
      rw [Addr.add_lit]
      refine (World.cell?_of_block (w := w) (a := ⟨b, q + j, none⟩) (Below.heap_alloc w _ b (by omega))).trans ?_
      rw [hc j hjl, hj]
    have hrun := run_append_grow (P := P) (w.alloc (.cells cs.toArray e)) t o.type e i z hu hi h5 ad n n xs (by rw [h6]; exact hr.len) holds ⟨w.heap.size, 0, none⟩ m m cs (by rw [h6]; exact hl) hnews (by omega) (by omega) (growslice_fits (by omega) (by rw [h7]; exact hn))
    unfold Oper.wp
    simp [execOp, ho, resolve, invoke, builtin, hs, hx, hrun, Result.andThen]
    have h1 := hgr (grownCap (w.alloc (.cells cs.toArray e)) (n + m) n e) (Builtin.zeroCells z.cells (grownCap (w.alloc (.cells cs.toArray e)) (n + m) n e - (n + m))) (hge n) (hcm n) (by rw [size_zeroCells, h3])
    exact hK _ _ (h _ _ (by simpa using h1) (hbl _))
end
end Go.Proofs.Ytdoniefhmmodbaa
