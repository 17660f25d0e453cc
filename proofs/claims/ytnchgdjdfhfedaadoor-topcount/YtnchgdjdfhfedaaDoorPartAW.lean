/- Of this claim's own texts these, one behind the other: LinMap, LinSet, LinLim, LinVis. No statement of the seat is proved here; no condition but those that stand at the theorems. -/
import Derived.Test.YtnchgdjdfhfedaaDoorPartAV
import Derived.Test.YtnchgdjdfhfedaaDoorPartAU
set_option linter.unusedSimpArgs false
set_option linter.unusedVariables false
namespace Go.Proofs.YtnchgdjdfhfedaaDoor
open Go.RowKit Go.Ord Go.Baro Go.MapKept

theorem key_asking (d g : Int) (w : World) : ∀ (es : List MapEntry) (i : Nat), (∀ e ∈ es, ∃ d' g', e.key = KV d' g') →
    (Instr.findAsking 144 (KV d g) es i).run Tryd.prog w = .ok none w ∨ ∃ j e, (Instr.findAsking 144 (KV d g) es i).run Tryd.prog w = .ok (some (i + j, e.val)) w ∧ es[j]? = some e ∧ e.key = KV d g
  | [], i, _ => .inl rfl
  | e :: es, i, h => by
    obtain ⟨d', g', hk⟩ := h e (by simp)
    have he := key_eq d g d' g' w
    rw [← hk] at he
    by_cases hdg : d = d' ∧ g = g'
    · obtain ⟨rfl, rfl⟩ := hdg
      refine .inr ⟨0, e, ?_, rfl, hk⟩
      simp [Instr.findAsking, Sem.run_bind, he, Result.andThen]
    · have hf : (d == d' && g == g') = false := by
        rw [Bool.and_eq_false_iff]
        by_cases h1 : d = d'
        · exact .inr (by simpa using fun h2 => hdg ⟨h1, h2⟩)
        · exact .inl (by simpa using h1)
      rw [hf] at he
      have hrun : (Instr.findAsking 144 (KV d g) (e :: es) i).run Tryd.prog w = (Instr.findAsking 144 (KV d g) es (i + 1)).run Tryd.prog w := by
        simp [Instr.findAsking, Sem.run_bind, he, Result.andThen]
      rw [hrun]
      rcases key_asking d g w es (i + 1) (fun e he => h e (by simp [he])) with h1 | ⟨j, e', h1, h2, h3⟩
      · exact .inl h1
      · exact .inr ⟨j + 1, e', by rw [h1, show i + 1 + j = i + (j + 1) by omega], by simpa using h2, h3⟩
theorem key_find (d g : Int) (w : World) (es : List MapEntry) (h : ∀ e ∈ es, ∃ d' g', e.key = KV d' g') :
    (Instr.findKey 144 (KV d g) es).run Tryd.prog w = .ok none w ∨ ∃ j e, (Instr.findKey 144 (KV d g) es).run Tryd.prog w = .ok (some (j, e.val)) w ∧ es[j]? = some e ∧ e.key = KV d g := by
  have hu : ∃ fs, Tryd.prog.underlying 144 = some (.struct fs) := ⟨_, Tryd.underlying144⟩
  obtain ⟨fs, hu⟩ := hu
  cases es with
  | nil =>
    left
    simp [Instr.findKey, Sem.run_bind, run_underlying hu, Instr.findNow, Result.andThen]
  | cons e es =>
    have hn : Instr.findNow (.struct fs) (KV d g) (e :: es) 0 = none := by simp [Instr.findNow, Instr.sameNow]
    have hrun : (Instr.findKey 144 (KV d g) (e :: es)).run Tryd.prog w = (Instr.findAsking 144 (KV d g) (e :: es) 0).run Tryd.prog w := by
      simp only [Instr.findKey, Sem.run_bind, run_underlying hu, Result.andThen_ok, hn]
    rw [hrun]
    rcases key_asking d g w (e :: es) 0 h with h1 | ⟨j, e', h1, h2, h3⟩
    · exact .inl h1
    · exact .inr ⟨j, e', by rw [h1, Nat.zero_add], h2, h3⟩
theorem key_stays (d g : Int) (w : World) : (Instr.keyThatStays (KV d g) (KV d g)).run Tryd.prog w = .ok (KV d g) w := by
  have : Instr.sameBits 10000 (KV d g) (KV d g) = true := by simp [KV, Instr.sameBits]
  simp [Instr.keyThatStays, this]
/-- The entries of the map: the states of each are in M; no two have a block in common. -/
def Ents (w : World) (B N : Nat) (k : Int) (M : Nat → List Int → Prop) (es : Array MapEntry) (tag : Nat → Nat) : Prop :=
  ∀ (i : Nat) (e : MapEntry), es[i]? = some e → e.born = i ∧ ∃ (d : Nat) (g : Int) (n : Nat) (xs : List Value), e.key = KV d g ∧ w.ownsRow B 97 1 e.val n xs ∧ n ≤ N ∧ (∀ x ∈ xs, ∃ s, StV w k x s ∧ M d s) ∧ ∀ b, e.val.ownBlock = some b → tag b = i
/-- The visited states in block mb. -/
def VM (w : World) (B mb N : Nat) (k : Int) (M : Nat → List Int → Prop) : Prop := B ≤ mb ∧ ∃ es tag, w.heap[mb]? = some (.map es es.size) ∧ Ents w B N k M es tag
section
variable {w w' : World} {B mb N : Nat} {k : Int} {M : Nat → List Int → Prop} {es : Array MapEntry} {tag : Nat → Nat}
theorem VM.lt (h : VM w B mb N k M) : mb < w.heap.size := by obtain ⟨_, es, tag, h1, _⟩ := h; exact heap_lt h1
theorem Ents.below (h : Ents w B N k M es tag) (hb : Below w.heap.size w w') : Ents w' B N k M es tag := by
  intro i e he
  obtain ⟨h1, d, g, n, xs, h2, h3, h4, h5, h6⟩ := h i e he
  exact ⟨h1, d, g, n, xs, h2, own_below h3 hb, h4, fun x hx => by obtain ⟨s, hs, hm⟩ := h5 x hx; exact ⟨s, hs.kp (Kp.below hb), hm⟩, h6⟩
theorem VM.below (h : VM w B mb N k M) (hb : Below w.heap.size w w') : VM w' B mb N k M := by
  obtain ⟨h0, es, tag, h1, h2⟩ := h
  exact ⟨h0, es, tag, (hb.block mb (heap_lt h1)).trans h1, h2.below hb⟩
theorem VM.mono (h : VM w B mb N k M) {N' : Nat} {M' : Nat → List Int → Prop} (hN : N ≤ N') (hM : ∀ d s, M d s → M' d s) : VM w B mb N' k M' := by
  obtain ⟨h0, es, tag, h1, h2⟩ := h
  refine ⟨h0, es, tag, h1, fun i e he => ?_⟩
  obtain ⟨h1, d, g, n, xs, h2, h3, h4, h5, h6⟩ := h2 i e he
  exact ⟨h1, d, g, n, xs, h2, h3, by omega, fun x hx => by obtain ⟨s, hs, hm⟩ := h5 x hx; exact ⟨s, hs, hM d s hm⟩, h6⟩
theorem VM.made (w : World) {B : Nat} (hB : B ≤ w.heap.size) (k : Int) (M : Nat → List Int → Prop) : VM (w.alloc (.map #[] 0)) B w.heap.size 0 k M := ⟨hB, #[], fun _ => 0, heap_alloc_new w _, fun i e he => by simp at he⟩
theorem Ents.keys (h : Ents w B N k M es tag) : ∀ e ∈ es.toList, ∃ d' g', e.key = KV d' g' := by
  intro e he
  obtain ⟨i, hi⟩ := List.mem_iff_getElem?.1 he
  obtain ⟨_, d, g, _, _, hk, _⟩ := h i e (by simpa using hi)
  exact ⟨d, g, hk⟩
theorem zeroStates (w : World) : (zeroValue 146).run Tryd.prog w = .ok (.slice none 0 0) w := by kernel_rfl
/-- What is looked for. -/
theorem VM.look (h : VM w B mb N k M) (d : Nat) (g : Int) : ∃ v n xs, (Instr.lookup 90 (.map (some mb)) (KV d g) false).run Tryd.prog w = .ok v w ∧ w.ownsRow B 97 1 v n xs ∧ n ≤ N ∧ ∀ x ∈ xs, ∃ s, StV w k x s ∧ M d s := by
  obtain ⟨h0, es, tag, h1, h2⟩ := h
  rcases key_find d g w es.toList h2.keys with hf | ⟨j, e, hf, hj, hk⟩
  · refine ⟨.slice none 0 0, 0, [], ?_, World.ownsRow_nil _ _ _ _, Nat.zero_le _, by simp⟩
    simp [Instr.lookup, run_underlying Tryd.underlying90, MapKept.run_getObj_map h1, key_check, hf, zeroStates, Result.andThen]
  · obtain ⟨_, d', g', n, xs, hk2, h3, h4, h5, _⟩ := h2 j e (by simpa using hj)
    rw [hk] at hk2
    have hd : (d : Int) = d' := by simp [KV] at hk2; exact_mod_cast hk2.1
    obtain rfl : d = d' := by omega
    refine ⟨e.val, n, xs, ?_, h3, h4, h5⟩
    simp [Instr.lookup, run_underlying Tryd.underlying90, MapKept.run_getObj_map h1, key_check, hf, Result.andThen]
theorem modify_same {es : Array MapEntry} {i : Nat} {f : MapEntry → MapEntry} (h : ∀ e, es[i]? = some e → f e = e) : es.modify i f = es := by
  apply Array.ext_getElem?
  intro j
  rw [Array.getElem?_modify]
  by_cases hij : i = j
  · subst hij
    rw [if_pos rfl]
    cases he : es[i]? with
    | none => rfl
    | some e => simp [h e he]
  · rw [if_neg hij]
/-- The heap with another object. -/
def stM (w : World) (b : Nat) (o : Obj) : World := { w with heap := w.heap.setIfInBounds b o }
theorem stM_grown (w : World) (b : Nat) (o : Obj) : w.grownBy (stM w b o) (some b) :=
  ⟨rfl, rfl, rfl, by simp [stM], fun k hk hne => by
    show (w.heap.setIfInBounds b o)[k]? = _
    rw [Array.getElem?_setIfInBounds_ne (fun e => hne (by rw [e]))]⟩
theorem stM_at {w : World} {b : Nat} {o o' : Obj} (h : w.heap[b]? = some o') : (stM w b o).heap[b]? = some o := by
  show (w.heap.setIfInBounds b o)[b]? = _
  rw [Array.getElem?_setIfInBounds_self_of_lt (heap_lt h)]
/-- What is done to the map leaves the rows and the states. -/
theorem map_ne {w : World} {b : Nat} {es : Array MapEntry} {c : Nat} (h : w.heap[b]? = some (.map es c)) {B n s : Nat} {e : TypeId} {v : Value} {xs : List Value} (ho : w.ownsRow B e s v n xs) : v.ownBlock = none ∨ v.ownBlock ≠ some b := by
  rcases ho.2 with ⟨rfl, _⟩ | ⟨g, cap, cur, rfl, _, hg, _⟩
  · exact .inl rfl
  · refine .inr fun he => ?_
    simp only [Value.ownBlock, Option.some.injEq] at he
    subst he
    rw [h] at hg
    cases hg
theorem map_kp {w w' : World} {b : Nat} {es : Array MapEntry} {c : Nat} (h : w.heap[b]? = some (.map es c)) (hg : w.grownBy w' (some b)) : Kp w w' :=
  Kp.grown hg fun b' cs t fr he hh => by injection he with he; subst he; rw [h] at hh; cases hh
theorem Ents.map {c : Nat} (h : Ents w B N k M es tag) (hh : w.heap[mb]? = some (.map es c)) (hg : w.grownBy w' (some mb)) : Ents w' B N k M es tag := by
  intro i e he
  obtain ⟨h1, d, g, n, xs, h2, h3, h4, h5, h6⟩ := h i e he
  exact ⟨h1, d, g, n, xs, h2, h3.kept hg (map_ne hh h3), h4, fun x hx => by obtain ⟨s, hs, hm⟩ := h5 x hx; exact ⟨s, hs.kp (map_kp hh hg), hm⟩, h6⟩
set_option maxRecDepth 100000 in
/-- The entry of a place, made if there is none. -/
theorem VM.entry (h : VM w B mb N k M) (d : Nat) (g : Int) : ∃ w1 es tag i e, (Instr.mapEntry 90 (.map (some mb)) (KV d g)).run Tryd.prog w = .ok (.tuple #[e.val, .int .i64 (i : Nat)]) w1 ∧ w.grownBy w1 (some mb) ∧ Kp w w1 ∧
    w1.heap[mb]? = some (.map es es.size) ∧ Ents w1 B N k M es tag ∧ es[i]? = some e ∧ e.key = KV d g := by
  obtain ⟨h0, es, tag, h1, h2⟩ := h
  rcases key_find d g w es.toList h2.keys with hf | ⟨j, e, hf, hj, hk⟩
  · have hg := stM_grown w mb (.map (es.push { key := KV d g, val := .slice none 0 0, born := es.size }) (es.size + 1))
    refine ⟨stM w mb (.map (es.push { key := KV d g, val := .slice none 0 0, born := es.size }) (es.size + 1)), es.push { key := KV d g, val := .slice none 0 0, born := es.size }, tag, es.size, { key := KV d g, val := .slice none 0 0, born := es.size }, ?_, hg, map_kp h1 hg, ?_, ?_, ?_, rfl⟩
    · simp [Instr.mapEntry, run_underlying Tryd.underlying90, MapKept.run_getObj_map h1, key_check, hf, zeroStates, MapKept.run_setObj_map _ h1, Result.andThen, goInt, stM]
    · rw [stM_at h1, Array.size_push]
    · intro i e he
      rw [Array.getElem?_push] at he
      by_cases hi : i = es.size
      · rw [if_pos hi] at he
        injection he with he
        subst he hi
        exact ⟨rfl, d, g, 0, [], rfl, World.ownsRow_nil _ _ _ _, Nat.zero_le _, by simp, fun b hb => by simp [Value.ownBlock] at hb⟩
      · rw [if_neg hi] at he
        exact h2.map h1 hg i e he
    · simp
  · have hje : es[j]? = some e := by simpa using hj
    have hm : es.modify j (fun e => { e with key := KV d g }) = es := modify_same fun e' he' => by
      rw [hje] at he'
      injection he' with he'
      subst he'
      rw [← hk]
    have hg := stM_grown w mb (.map es es.size)
    refine ⟨stM w mb (.map es es.size), es, tag, j, e, ?_, hg, map_kp h1 hg, stM_at h1, h2.map h1 hg, hje, hk⟩
    have hborn := (h2 j e hje).1
    simp [Instr.mapEntry, run_underlying Tryd.underlying90, MapKept.run_getObj_map h1, key_check, hf, hje, hk, key_stays, hm, MapKept.run_setObj_map _ h1, Result.andThen, goInt, stM, hborn]
/-- The row of the entry is another then. -/
theorem Ents.store {w1 w2 : World} (hB : B ≤ mb) {i : Nat} {e : MapEntry} {d : Nat} {g : Int} {n : Nat} {xs : List Value} {x v' : Value} {has : List Int} (h : Ents w1 B N k M es tag) (h1 : w1.heap[mb]? = some (.map es es.size)) (hi : es[i]? = some e) (hk : e.key = KV d g)
    (ho : w1.ownsRow B 97 1 e.val n xs) (hn : n ≤ N) (hx : ∀ x ∈ xs, ∃ s, StV w1 k x s ∧ M d s) (hg : w1.grownBy w2 e.val.ownBlock) (ho2 : w2.ownsRow B 97 1 v' (n + 1) (xs ++ [x])) (hv : v'.ownBlock = e.val.ownBlock ∨ v'.ownBlock = some w1.heap.size) (hs : StV w2 k x has) :
    ∃ w3, (Instr.entryStore 90 (.map (some mb)) (.int .i64 (i : Nat)) v').run Tryd.prog w2 = .ok () w3 ∧ w2.grownBy w3 (some mb) ∧ Kp w1 w3 ∧ VM w3 B mb (N + 1) k (fun d' s => M d' s ∨ (d' = d ∧ s = has)) := by
  have h2 : w2.heap[mb]? = some (.map es es.size) := by
    rw [hg.block mb (heap_lt h1) (fun he => ?_)]
    · exact h1
    · rcases map_ne h1 ho with h | h
      · rw [h] at he; cases he
      · exact h he.symm
  have hk12 : Kp w1 w2 := Kp.grown hg fun b cs t fr he hh => by
    rcases ho.2 with ⟨hv, _⟩ | ⟨g', cap, cur, hv, _, hg', _⟩
    · rw [hv] at he; simp [Value.ownBlock] at he
    · rw [hv] at he
      simp only [Value.ownBlock, Option.some.injEq] at he
      subst he
      rw [hg'] at hh
      injection hh with hh
      injection hh with _ hh
      exact hh.symm
  have hg3 := stM_grown w2 mb (.map (es.modify i fun e => { e with val := v' }) es.size)
  have hfind : es.findIdx? (fun e => ((e.born : Int) == (i : Int))) = some i := by
    rw [Array.findIdx?_eq_some_iff_getElem]
    have hlt : i < es.size := (Array.getElem?_eq_some_iff.1 hi).1
    refine ⟨hlt, ?_, fun j hj => ?_⟩
    · have := (h i es[i] (Array.getElem?_eq_getElem hlt)).1
      simp [this]
    · have := (h j es[j] (Array.getElem?_eq_getElem (by omega))).1
      simp [this]; omega
  refine ⟨stM w2 mb (.map (es.modify i fun e => { e with val := v' }) es.size), ?_, hg3, hk12.trans (map_kp h2 hg3), hB, es.modify i (fun e => { e with val := v' }), fun b => if v'.ownBlock = some b then i else tag b, ?_, ?_⟩
  · simp [Instr.entryStore, MapKept.run_getObj_map h2, asInt, asIntOf, hfind, MapKept.run_setObj_map _ h2, Result.andThen, stM]
  · rw [stM_at h2, Array.size_modify]
  · intro j e' he'
    rw [Array.getElem?_modify] at he'
    by_cases hij : i = j
    · subst hij
      rw [if_pos rfl, hi] at he'
      simp only [Option.map_some, Option.some.injEq] at he'
      subst he'
      refine ⟨(h i e hi).1, d, g, n + 1, xs ++ [x], hk, ho2.kept hg3 (map_ne h2 ho2), by omega, fun y hy => ?_, fun b hb => if_pos hb⟩
      rcases List.mem_append.1 hy with hy | hy
      · obtain ⟨s, hs, hm⟩ := hx y hy
        exact ⟨s, (hs.kp hk12).kp (map_kp h2 hg3), .inl hm⟩
      · rw [List.mem_singleton.1 hy]
        exact ⟨has, hs.kp (map_kp h2 hg3), .inr ⟨rfl, rfl⟩⟩
    · rw [if_neg hij] at he'
      obtain ⟨q1, d', g', n', xs', q2, q3, q4, q5, q6⟩ := h j e' he'
      have hne : e'.val.ownBlock = none ∨ e'.val.ownBlock ≠ e.val.ownBlock := by
        cases hb : e'.val.ownBlock with
        | none => exact .inl rfl
        | some b =>
          refine .inr fun he => hij ?_
          obtain ⟨_, _, _, _, _, _, _, _, _, q6'⟩ := h i e hi
          rw [← q6 b hb, ← q6' b he.symm]
      have q3' := q3.kept hg hne
      refine ⟨q1, d', g', n', xs', q2, q3'.kept hg3 (map_ne h2 q3'), by omega, fun y hy => ?_, fun b hb => ?_⟩
      · obtain ⟨s, hs, hm⟩ := q5 y hy
        exact ⟨s, (hs.kp hk12).kp (map_kp h2 hg3), .inl hm⟩
      · refine (if_neg ?_).trans (q6 b hb)
        · intro hv'
          rcases hv with hv | hv
          · rcases hne with hne | hne
            · rw [hb] at hne; cases hne
            · exact hne (by rw [hb, ← hv, hv'])
          · rw [hv'] at hv
            injection hv with hv
            have := (q3.lt b hb).2
            omega
end
end Go.Proofs.YtnchgdjdfhfedaaDoor

set_option linter.unusedSimpArgs false
set_option linter.unusedVariables false
namespace Go.Proofs.YtnchgdjdfhfedaaDoor
open Go.RowKit Go.Ord Go.Baro

theorem nat64 (a : Nat) (h : a < 18446744073709551616) : (BitVec.ofInt 64 (a : Int)).toNat = a := by
  rw [BitVec.ofInt_natCast, BitVec.toNat_ofNat]; exact Nat.mod_eq_of_lt (by omega)
theorem wrap64u (a : Nat) (h : a < 18446744073709551616) : IntKind.u64.wrap (a : Int) = a := by
  simp [IntKind.wrap, IntKind.bits, IntKind.signed]
  omega
theorem or_u64 (a b : Nat) (ha : a < 512) (hb : b < 512) : bits .or .u64 (a : Int) (b : Int) = ((a ||| b : Nat) : Int) := by
  have hx : a ||| b < 2 ^ 9 := Nat.or_lt_two_pow (by omega) (by omega)
  show IntKind.u64.wrap ((BitVec.ofInt 64 (a : Int) ||| BitVec.ofInt 64 (b : Int)).toNat : Int) = _
  rw [BitVec.toNat_or, nat64 a (by omega), nat64 b (by omega)]
  exact wrap64u _ (by omega)
theorem and_u64 (a : Nat) (ha : a < 512) : bits .and .u64 (a : Int) 1 = ((a % 2 : Nat) : Int) := by
  show IntKind.u64.wrap ((BitVec.ofInt 64 (a : Int) &&& BitVec.ofInt 64 ((1 : Nat) : Int)).toNat : Int) = _
  rw [BitVec.toNat_and, nat64 a (by omega), nat64 1 (by omega), Nat.and_one_is_mod]
  exact wrap64u _ (by omega)
theorem pow_cast (i : Nat) : (2 : Int) ^ i = ((2 ^ i : Nat) : Int) := by simp
theorem pow9 {i : Nat} (hi : i < 9) : 2 ^ i < 512 := by
  have : 2 ^ i ≤ 2 ^ 8 := Nat.pow_le_pow_right (by omega) (by omega)
  omega
set_option maxHeartbeats 1000000 in
theorem set_has (w : World) (d i : Nat) (hd : d < 512) (hi : i < 9) : Calls Tryd.prog 62 #[.int .u64 d, .int .i64 i] w fun e w' => e = .returned (.bool (d.testBit i)) ∧ Below w.heap.size w w' := by
  have h0 := Below.refl w.heap.size w
  have he : (bits .and .u64 ((d : Int) / 2 ^ i) 1 == 1) = d.testBit i := by
    have hle : d / 2 ^ i ≤ d := Nat.div_le_self _ _
    rw [pow_cast, ← Int.natCast_ediv, and_u64 _ (by omega), Nat.testBit_eq_decide_div_mod_eq]
    by_cases h : d / 2 ^ i % 2 = 1
    · rw [h]; simp
    · have : d / 2 ^ i % 2 = 0 := by omega
      rw [this]; simp
  have HE := Lib.hid he
  clear he
  go_enter Tryd.func62, Tryd.ntmps62
  go_wp2
  go_ret
  exact ⟨ret_bool HE.out, h0⟩
set_option maxHeartbeats 1000000 in
theorem set_with (w : World) (d i : Nat) (hd : d < 512) (hi : i < 9) : Calls Tryd.prog 64 #[.int .u64 d, .int .i64 i] w fun e w' => e = .returned (.int .u64 ((d ||| 2 ^ i : Nat) : Int)) ∧ Below w.heap.size w w' := by
  have h0 := Below.refl w.heap.size w
  have he : bits .or .u64 (d : Int) (IntKind.u64.wrap (2 ^ i)) = ((d ||| 2 ^ i : Nat) : Int) := by
    have := pow9 hi
    rw [pow_cast, wrap64u _ (by omega), or_u64 _ _ hd (by omega)]
  have HE := Lib.hid he
  clear he
  go_enter Tryd.func64, Tryd.ntmps64
  go_wp2
  go_ret
  exact ⟨by rw [HE.out]; rfl, h0⟩
theorem bit_lt {d i : Nat} (hd : d < 512) (hi : i < 9) : d ||| 2 ^ i < 512 := by
  have := pow9 hi
  have : d ||| 2 ^ i < 2 ^ 9 := Nat.or_lt_two_pow (by omega) (by omega)
  omega
end Go.Proofs.YtnchgdjdfhfedaaDoor

set_option linter.unusedSimpArgs false
set_option linter.unusedVariables false
namespace Go.Proofs.YtnchgdjdfhfedaaDoor
open Go.RowKit Go.Ord Go.Baro

/-- The first End of the operations that have ended and are not in d, of the first j. -/
def LimI (l : List Ac) (d j : Nat) (f : Int) (b : Bool) : Prop := (b = true → ∃ i a, i < j ∧ l[i]? = some a ∧ a.e ≠ -1 ∧ d.testBit i = false ∧ a.e = f) ∧ ∀ i a, i < j → l[i]? = some a → a.e ≠ -1 → d.testBit i = false → b = true ∧ f ≤ a.e
theorem limI_zero (l : List Ac) (d : Nat) (f : Int) : LimI l d 0 f false := ⟨fun h => by simp at h, fun i a h => by omega⟩
theorem limI_skip {l : List Ac} {d j : Nat} {f : Int} {b : Bool} {a : Ac} (h : LimI l d j f b) (ha : l[j]? = some a) (hn : a.e = -1 ∨ d.testBit j = true ∨ (b = true ∧ f ≤ a.e)) : LimI l d (j + 1) f b := by
  refine ⟨fun hb => ?_, fun i a' hi h1 h2 h3 => ?_⟩
  · obtain ⟨i, a', hi, h1⟩ := h.1 hb
    exact ⟨i, a', by omega, h1⟩
  · by_cases hij : i = j
    · subst hij
      rw [ha] at h1
      injection h1 with h1
      subst h1
      rcases hn with hn | hn | hn
      · exact absurd hn h2
      · rw [hn] at h3; simp at h3
      · exact hn
    · exact h.2 i a' (by omega) h1 h2 h3
theorem limI_take {l : List Ac} {d j : Nat} {f : Int} {b : Bool} {a : Ac} (h : LimI l d j f b) (ha : l[j]? = some a) (he : a.e ≠ -1) (hd : d.testBit j = false) (hn : b = false ∨ a.e < f) : LimI l d (j + 1) a.e true := by
  refine ⟨fun _ => ⟨j, a, by omega, ha, he, hd, rfl⟩, fun i a' hi h1 h2 h3 => ⟨rfl, ?_⟩⟩
  by_cases hij : i = j
  · subst hij
    rw [ha] at h1
    injection h1 with h1
    subst h1
    exact Int.le_refl _
  · obtain ⟨h4, h5⟩ := h.2 i a' (by omega) h1 h2 h3
    rcases hn with hn | hn
    · rw [hn] at h4; simp at h4
    · omega

set_option maxRecDepth 100000 in
set_option maxHeartbeats 2000000 in
theorem lin_limit (w : World) (s : Nat) (v : Value) (A : Option Addr) (n c B d : Nat) (l : List Ac) (hs : Box w s 92 [.slice A n c, v]) (hl : RA w B A n l) (hB : B ≤ w.heap.size) (hn : n ≤ 9) (hd : d < 512) :
    Calls Tryd.prog 60 #[.pointer (some ⟨s, 0, none⟩), .int .u64 d] w fun e w' => (∃ f b, e = .returned (.tuple #[.int .i64 f, .bool b]) ∧ LimI l d n f b) ∧ Below w.heap.size w w' := by
  have h0 := Below.refl w.heap.size w
  have s0 : w.cell? ⟨s, 0, none⟩ = _ := hs.cell 0
  simp only [List.getElem?_cons_zero] at s0
  have LT := Lib.hid hl.len
  clear hs
  go_enter Tryd.func60, Tryd.ntmps60
  go_wp2
  go_loopw [4, 5, 13] (fun f b i wr => ∃ (j : Nat) (x : Int) (y : Bool), j ≤ n ∧ i = .int .i64 j ∧ f = .int .i64 x ∧ b = .bool y ∧ Hid (LimI l d j x y) ∧ Below w.heap.size w wr) (fun _ _ i _ => n - (intOf i).toNat)
  case atStart => exact ⟨0, _, _, Nat.zero_le _, rfl, rfl, rfl, limI_zero l d 0, h0⟩
  case round =>
    obtain ⟨j, x, y, hj, rfl, rfl, rfl, HI, hbel⟩ := hrel
    have hsz := hbel.size
    by_cases hjm : j < n
    · obtain ⟨b, o, a, rfl, hbB, d0, d1, d2, d3, d4, HX, hmem⟩ := hl.val hjm
      have e0 := (hbel.cell (p := ⟨b, o + j * 5, none⟩) (by show b < _; omega)).trans d0
      have e1 := (hbel.cell (p := ⟨b, o + j * 5 + 1, none⟩) (by show b < _; omega)).trans d1
      have e2 := (hbel.cell (p := ⟨b, o + j * 5 + 2, none⟩) (by show b < _; omega)).trans d2
      have e3 := (hbel.cell (p := ⟨b, o + j * 5 + 3, none⟩) (by show b < _; omega)).trans d3
      have e4 := (hbel.cell (p := ⟨b, o + j * 5 + 4, none⟩) (by show b < _; omega)).trans d4
      obtain ⟨r', hr'⟩ := bool_of (a.e ≠ -1)
      have HE := Lib.hid (fun w => lin_ended w a r' hr')
      have HR' := Lib.hid hr'
      have HH := Lib.hid (fun w => set_has w d j hd (by omega))
      obtain ⟨t, ht⟩ : ∃ t, t = d.testBit j := ⟨_, rfl⟩
      rw [← ht] at HH
      have HT := Lib.hid ht
      clear hr' hmem d0 d1 d2 d3 d4 ht
      obtain ⟨xb, xe, xp, xv, xa⟩ := a
      unfold acA at HE
      dsimp only at HE HR' e0 e1 e2 e3 e4
      have bX := Box.newAt wr 46 [.int .i64 xb, .int .i64 xe, .bool xp, .int .i64 xv, .int .i64 xa] wr.heap.size rfl
      have lX := bX.lt
      have h2 := hbel.alloc hsz (Obj.cells #[.int .i64 xb, .int .i64 xe, .bool xp, .int .i64 xv, .int .i64 xa] 46)
      go_wp2_with fail
      refine (HE.out _).mono ?_
      rintro e w1 ⟨rfl, hb1⟩
      have h3 := h2.trans (hb1.mono (by omega))
      have bX1 := bX.below hb1 lX
      have lX1 := bX1.lt
      have x1 : w1.cell? ⟨wr.heap.size, 1, none⟩ = _ := bX1.cell 1
      simp only [List.getElem?_cons_zero, List.getElem?_cons_succ] at x1
      clear bX lX h2 hb1
      cases r' with
      | false =>
        have HN : Hid (xe = -1) := by
          show xe = -1
          by_cases h : xe = -1
          · exact h
          · exact absurd (HR'.out.2 h) (by simp)
        go_wp2
        go_roundw
        case rel => exact ⟨j + 1, x, y, by omega, by go_num, rfl, rfl, limI_skip HI.out HX.out (.inl HN.out), h3⟩
        case measure => simp [intOf]; omega
      | true =>
        have HN : Hid (xe ≠ -1) := HR'.out.1 rfl
        go_wp2_with fail
        refine (HH.out _).mono ?_
        rintro e w2 ⟨rfl, hb2⟩
        have h4 := h3.trans (hb2.mono h3.size)
        have bX2 := bX1.below hb2 lX1
        have x2 : w2.cell? ⟨wr.heap.size, 1, none⟩ = _ := bX2.cell 1
        simp only [List.getElem?_cons_zero, List.getElem?_cons_succ] at x2
        clear bX1 x1 hb2
        cases t with
        | true =>
          go_wp2
          go_roundw
          case rel => exact ⟨j + 1, x, y, by omega, by go_num, rfl, rfl, limI_skip HI.out HX.out (.inr (.inl HT.out.symm)), h4⟩
          case measure => simp [intOf]; omega
        | false =>
          cases y with
          | false =>
            go_wp2
            go_roundw
            case rel => exact ⟨j + 1, xe, true, by omega, by go_num, rfl, rfl, limI_take HI.out HX.out HN.out HT.out.symm (.inl rfl), h4⟩
            case measure => simp [intOf]; omega
          | true =>
            by_cases hlt : xe < x
            · go_wp2
              go_roundw
              case rel => exact ⟨j + 1, xe, true, by omega, by go_num, rfl, rfl, limI_take HI.out HX.out HN.out HT.out.symm (.inr hlt), h4⟩
              case measure => simp [intOf]; omega
            · go_wp2
              go_roundw
              case rel => exact ⟨j + 1, x, true, by omega, by go_num, rfl, rfl, limI_skip HI.out HX.out (.inr (.inr ⟨rfl, by omega⟩)), h4⟩
              case measure => simp [intOf]; omega
    · obtain rfl : n = j := by omega
      go_wp2
      go_ret2
      exact ⟨⟨x, y, rfl, HI.out⟩, hbel⟩
end Go.Proofs.YtnchgdjdfhfedaaDoor

set_option linter.unusedSimpArgs false
set_option linter.unusedVariables false
namespace Go.Proofs.YtnchgdjdfhfedaaDoor
open Go.RowKit Go.Ord Go.Baro Go.MapKept

theorem eltState : Elt Tryd.prog 146 97 .nilIface 1 16 := Elt.mk' Tryd.underlying146 (by kernel_rfl) rfl (by decide)
section
variable {w : World} {ops : Array Oper} {rest : List Oper} {o : Oper} {a : Act} {Q : Exit → Act → World → Prop} {B mb N : Nat} {k : Int} {M : Nat → List Int → Prop}
theorem wp_lookS (hg : o.guard = none) (m x : Operand) (hop : o.op = Op.lookup 90 m x false) (hm : a.eval m = .map (some mb)) (h : VM w B mb N k M) (d : Nat) (g : Int) (hx : a.eval x = KV d g)
    (hK : ∀ A n c xs, Rd w w.heap.size 1 A n xs → n ≤ N → (∀ x ∈ xs, ∃ s, StV w k x s ∧ M d s) → wpList Tryd.prog ops Q rest (a.put o.dst (.slice A n c)) w) : wpList Tryd.prog ops Q (o :: rest) a w := by
  refine wpList_plain hg fun K' hK' => ?_
  obtain ⟨v, n, xs, hrun, ho, hn, hxs⟩ := h.look d g
  unfold Oper.wp
  simp [execOp, hop, hm, hx, hrun, Result.andThen]
  refine hK' _ _ ?_
  rcases ho.2 with ⟨rfl, rfl⟩ | ⟨b, cap, cur, rfl, _⟩
  · have : xs = [] := List.eq_nil_of_length_eq_zero (by simpa using ho.1)
    subst this
    exact hK none 0 0 [] (Rd.nil _ _ _ _) (Nat.zero_le _) hxs
  · exact hK _ n cap xs (Rd.of_own ho) hn hxs
theorem wp_entry (hg : o.guard = none) (m x : Operand) (hop : o.op = Op.mapEntry 90 m x) (hm : a.eval m = .map (some mb)) (h : VM w B mb N k M) (d : Nat) (g : Int) (hx : a.eval x = KV d g)
    (hK : ∀ w1 es tag i e v n xs, w.grownBy w1 (some mb) → Hid (Kp w w1) → Hid (w1.heap[mb]? = some (.map es es.size)) → Hid (Ents w1 B N k M es tag) → Hid (es[i]? = some e) → Hid (e.key = KV d g) → Hid (e.val = v) → w1.ownsRow B 97 1 v n xs → n ≤ N → Hid (∀ x ∈ xs, ∃ s, StV w1 k x s ∧ M d s) → v.ownBlock ≠ some mb →
      wpList Tryd.prog ops Q rest (a.put o.dst (.tuple #[v, .int .i64 (i : Nat)])) w1) : wpList Tryd.prog ops Q (o :: rest) a w := by
  refine wpList_plain hg fun K' hK' => ?_
  obtain ⟨w1, es, tag, i, e, hrun, h1, h2, h3, h4, h5, h6⟩ := h.entry d g
  unfold Oper.wp
  simp [execOp, hop, hm, hx, hrun, Result.andThen]
  obtain ⟨_, d', g', n, xs, q2, q3, q4, q5, _⟩ := h4 i e h5
  rw [h6] at q2
  have hd : (d : Int) = d' := by simp [KV] at q2; exact_mod_cast q2.1
  obtain rfl : d = d' := by omega
  refine hK' _ _ (hK w1 es tag i e e.val n xs h1 h2 h3 h4 h5 h6 rfl q3 q4 q5 ?_)
  rcases map_ne h3 q3 with h | h
  · rw [h]; simp
  · exact h
theorem own_kp {w w' : World} {B n : Nat} {v : Value} {xs : List Value} (ho : w.ownsRow B 97 1 v n xs) (hg : w.grownBy w' v.ownBlock) : Kp w w' :=
  Kp.grown hg fun b cs t fr he hh => by
    rcases ho.2 with ⟨hv, _⟩ | ⟨g', cap, cur, hv, _, hg', _⟩
    · rw [hv] at he; simp [Value.ownBlock] at he
    · rw [hv] at he
      simp only [Value.ownBlock, Option.some.injEq] at he
      subst he
      rw [hg'] at hh
      injection hh with hh
      injection hh with _ hh
      exact hh.symm
theorem lit_kept {w w' : World} {mb : Nat} {x : Value} {e : TypeId} (hg : (w.alloc (.cells #[x] e)).grownBy w' (some mb)) (hm : mb < w.heap.size) : Rd w' w'.heap.size 1 (some ⟨w.heap.size, 0, none⟩) 1 [x] := by
  have h1 := hg.block w.heap.size (by simp) (by simp; omega)
  rw [heap_alloc_new] at h1
  refine ⟨rfl, fun _ => ⟨w.heap.size, 0, rfl, heap_lt h1, fun j hj => ?_⟩⟩
  rw [cell_of_row _ _ _ _ _ _ h1]
  obtain rfl : j = 0 := by omega
  rfl
theorem wp_put (hg : o.guard = none) (hd : o.dst = none) (m x y : Operand) (hop : o.op = Op.entryStore 90 m x y) (hm : a.eval m = .map (some mb)) (i : Nat) (hx : a.eval x = .int .i64 i) (v' : Value) (hy : a.eval y = v')
    (w3 : World) (hrun : (Instr.entryStore 90 (.map (some mb)) (.int .i64 (i : Nat)) v').run Tryd.prog w = .ok () w3) (hK : wpList Tryd.prog ops Q rest a w3) : wpList Tryd.prog ops Q (o :: rest) a w := by
  refine wpList_plain hg fun K' hK' => ?_
  unfold Oper.wp
  simp [execOp, hop, hm, hx, hy, hrun, Result.andThen]
  exact hK' _ _ (by rw [hd]; exact hK)
end
/-- What visit leaves. -/
def VsPost (B mb N : Nat) (k : Int) (M : Nat → List Int → Prop) (d : Nat) (has : List Int) (w : World) (e : Ending) (w' : World) : Prop :=
  (∃ r, e = .returned (.bool r) ∧ (r = false → M d has)) ∧ VM w' B mb (N + 1) k (fun d' s => M d' s ∨ (d' = d ∧ s = has)) ∧ Kp w w' ∧ Below B w w'
set_option maxRecDepth 100000 in
set_option maxHeartbeats 1000000 in
theorem lin_visit (w : World) (s mb B N d : Nat) (k : Int) (v u : Value) (has : List Int) (M : Nat → List Int → Prop) (hs : Box w s 92 [u, .map (some mb)]) (hv : StV w k v has) (hm : VM w B mb N k M) (hN : N ≤ 1000000000000 - 1) :
    Calls Tryd.prog 61 #[.pointer (some ⟨s, 0, none⟩), .int .u64 d, v] w (VsPost B mb N k M d has w) := by
  have h0 := Below.refl w.heap.size w
  have s1 : w.cell? ⟨s, 1, none⟩ = _ := hs.cell 1
  simp only [List.getElem?_cons_zero, List.getElem?_cons_succ] at s1
  have hBw : B ≤ w.heap.size := Nat.le_trans hm.1 (Nat.le_of_lt hm.lt)
  have ls := hs.lt
  have lm := hm.lt
  obtain ⟨T, y, F, rfl, hmt, hdig⟩ := st_digest hv
  have hm1 := hmt.1 276 w
  have hm2 := hmt.2 #[y] w
  have HD := Lib.hid hdig
  have HV := Lib.hid hv
  have HM := Lib.hid hm
  have HS := Lib.hid hs
  clear hdig hv hm hs
  go_enter Tryd.func61, Tryd.ntmps61
  go_wp2_with fail
  refine HD.out.mono ?_
  rintro e w1 ⟨⟨g, rfl⟩, hb1⟩
  have HK1 := Lib.hid (Kp.below hb1)
  have bS1 := HS.out.below hb1 ls
  have HM1 := Lib.hid (HM.out.below hb1)
  have HV1 := Lib.hid (HV.out.kp HK1.out)
  have hB1 := hb1.mono hBw
  have hsz := hb1.size
  clear s1
  -- the place
  have h2 := (Below.refl w1.heap.size w1).alloc (Nat.le_refl _) (Obj.cells #[.int .u64 d, .int .u64 g] 144)
  have bP := Box.newAt w1 144 [.int .u64 d, .int .u64 g] w1.heap.size rfl
  have lP := bP.lt
  have HM2 := Lib.hid (HM1.out.below h2)
  have HV2 := Lib.hid (HV1.out.kp (Kp.below h2))
  have bS2 := bS1.alloc (Obj.cells #[.int .u64 d, .int .u64 g] 144)
  have s1 : (w1.alloc (Obj.cells #[.int .u64 d, .int .u64 g] 144)).cell? ⟨s, 1, none⟩ = _ := bS2.cell 1
  simp only [List.getElem?_cons_zero, List.getElem?_cons_succ] at s1
  go_wp2
  refine region_first [0, 1, 2, 3, 4, 6, 7] (.fork 5 (.cons 8 (seq [9] .nil)) 8 (.cons 5 (seq [9] .nil))) (by kernel_rfl) (by kernel_rfl) ?_
  simp only [pick, List.map_cons, List.map_nil, List.getD_cons_zero, List.getD_cons_succ]
  go_wp2
  have hdr : Below (w1.alloc (Obj.cells #[.int .u64 d, .int .u64 g] 144)).heap.size (w1.alloc (Obj.cells #[.int .u64 d, .int .u64 g] 144)) (w1.alloc (Obj.cells #[.int .u64 d, .int .u64 g] 144)).drew := (Below.refl _ _).drew
  have HM3 := Lib.hid (HM2.out.below hdr)
  have HV3 := Lib.hid (HV2.out.kp (Kp.below hdr))
  refine ord_fork (by kernel_rfl) ?_ ?_
  · simp only [pick, List.map_cons, List.map_nil, List.getD_cons_zero, List.getD_cons_succ]
    go_wp2_with (refine wp_lookS rfl (.tmp 15) (.tmp 16) rfl rfl HM3.out d g rfl ?_; intro A n c xs hr hn hx)
    have HX := Lib.hid hx
    have HR := Lib.hid hr
    clear hx hr
    refine ord_call (by kernel_rfl) ?_
    simp only [pick, List.map_cons, List.map_nil, List.getD_cons_zero, List.getD_cons_succ]
    go_wp2
    refine ord_last [9] (by kernel_rfl) ?_
    simp only [pick, List.map_cons, List.map_nil, List.getD_cons_zero, List.getD_cons_succ]
    go_wp2_with fail
    refine (lin_ContainsSame _ A n c k (.iface T y) has xs (M d) HR.out HV3.out HX.out (by omega)).mono ?_
    rintro e w2 ⟨⟨r, rfl, hr⟩, hb2⟩
    have HRR := Lib.hid hr
    clear hr
    have hb3 := ((h2.trans (hdr.mono h2.size)).trans (hb2.mono h2.size))
    have HM4 := Lib.hid (HM3.out.below hb2)
    have HV4 := Lib.hid (HV3.out.kp (Kp.below hb2))
    have bS4 := bS2.below (hdr.trans hb2) bS2.lt
    have bP4 := bP.below (hdr.trans hb2) lP
    have HK4 := Lib.hid (HK1.out.trans (Kp.below hb3))
    have hB4 := hB1.trans (hb3.mono (Nat.le_trans hBw hsz))
    have hsz4 := hb3.size
    clear s1
    have s1 : w2.cell? ⟨s, 1, none⟩ = _ := bS4.cell 1
    have p0 : w2.cell? ⟨w1.heap.size, 0, none⟩ = _ := bP4.cell 0
    have p1 : w2.cell? ⟨w1.heap.size, 1, none⟩ = _ := bP4.cell 1
    simp only [List.getElem?_cons_zero, List.getElem?_cons_succ] at s1 p0 p1
    clear HR HX HM3 HV3 bP bP4 h2 hb2 hb3 HM1 HM2 HV1 HV2 bS2 bS1 HD hdr
    cases r with
    | true =>
      go_wp2
      go_ret
      refine ⟨⟨false, rfl, fun _ => HRR.out trivial⟩, HM4.out.mono (Nat.le_succ _) (fun _ _ h => .inl h), HK4.out, hB4⟩
    | false =>
      go_wp2
      refine region_first [0, 1, 2, 3, 4, 5] (.cons 6 (seq [7, 8, 10, 9, 11] .nil)) (by kernel_rfl) (by kernel_rfl) ?_
      simp only [pick, List.map_cons, List.map_nil, List.getD_cons_zero, List.getD_cons_succ]
      go_wp2
      have lm4 : mb < w2.drew.heap.size := HM4.out.lt
      have hL := (Below.refl w2.heap.size w2).drew.alloc (Nat.le_refl _) (Obj.cells #[.iface T y] 97)
      have HM5 := Lib.hid (HM4.out.below hL)
      have HV5 := Lib.hid (HV4.out.kp (Kp.below hL))
      have HK5 := Lib.hid (HK4.out.trans (Kp.below hL))
      have hB5 := hB4.trans (hL.mono (Nat.le_trans hBw (Nat.le_trans hsz (Nat.le_trans (by simp) hsz4))))
      refine ord_call (by kernel_rfl) ?_
      simp only [pick, List.map_cons, List.map_nil, List.getD_cons_zero, List.getD_cons_succ]
      go_wp2
      refine ⟨ext_below ((Below.refl _ _).alloc (Nat.le_refl _) _), ?_⟩
      refine ord_last [7, 8, 10, 9, 11] (by kernel_rfl) ?_
      simp only [pick, List.map_cons, List.map_nil, List.getD_cons_zero, List.getD_cons_succ]
      go_wp2_with (first
        | (refine wp_entry rfl (.tmp 25) (.tmp 26) rfl rfl HM5.out d g rfl ?_; intro w4 es tag i e v n4 xs4 g4 K4 E1 E2 E3 E4 E5 own4 hn4 E6 hne4; have RD4 := lit_kept (w := w2.drew) (x := Value.iface T y) (e := 97) (by exact g4) lm4; have hB6 := below_set (by exact hB5) g4 HM5.out.1 (by exact Nat.le_trans hBw hB5.size))
        | (at_builtin; refine app_srcB eltState w4 rfl (.tmp 27) (.tmp 29) rfl B _ n4 xs4 rfl own4 _ 1 1 [.iface T y] rfl _ (by exact RD4) (by intro u hu; rw [List.mem_singleton.1 hu]; rfl) (by omega) (by omega) (by have := hB6.size; omega) ?_; intro v' w5 own5 g5 hb5 hsz5 hv5; have K5 := own_kp own4 g5; obtain ⟨w6, hrun6, g6, K6, vm6⟩ := Ents.store (x := Value.iface T y) (has := has) (v' := v') HM5.out.1 E2.out E1.out E3.out E4.out (by rw [E5.out]; exact own4) hn4 E6.out (by rw [E5.out]; exact g5) own5 (by rw [E5.out]; exact hv5) ((HV5.out.kp K4.out).kp K5))
        | (refine wp_put rfl rfl (.tmp 25) (.tmp 32) (.tmp 31) rfl rfl i rfl v' rfl w6 hrun6 ?_))
      go_ret
      have hB7 := below_set (hb5 _ hB6) g6 HM5.out.1 hsz5
      exact ⟨⟨true, rfl, fun h => by cases h⟩, vm6, (HK5.out.trans K4.out).trans K6, hB7⟩
  · simp only [pick, List.map_cons, List.map_nil, List.getD_cons_zero, List.getD_cons_succ]
    go_wp2
    refine ord_call (by kernel_rfl) ?_
    simp only [pick, List.map_cons, List.map_nil, List.getD_cons_zero, List.getD_cons_succ]
    go_wp2_with (refine wp_lookS rfl (.tmp 15) (.tmp 16) rfl rfl HM3.out d g rfl ?_; intro A n c xs hr hn hx)
    have HX := Lib.hid hx
    have HR := Lib.hid hr
    clear hx hr
    refine ord_last [9] (by kernel_rfl) ?_
    simp only [pick, List.map_cons, List.map_nil, List.getD_cons_zero, List.getD_cons_succ]
    go_wp2_with fail
    refine (lin_ContainsSame _ A n c k (.iface T y) has xs (M d) HR.out HV3.out HX.out (by omega)).mono ?_
    rintro e w2 ⟨⟨r, rfl, hr⟩, hb2⟩
    have HRR := Lib.hid hr
    clear hr
    have hb3 := ((h2.trans (hdr.mono h2.size)).trans (hb2.mono h2.size))
    have HM4 := Lib.hid (HM3.out.below hb2)
    have HV4 := Lib.hid (HV3.out.kp (Kp.below hb2))
    have bS4 := bS2.below (hdr.trans hb2) bS2.lt
    have bP4 := bP.below (hdr.trans hb2) lP
    have HK4 := Lib.hid (HK1.out.trans (Kp.below hb3))
    have hB4 := hB1.trans (hb3.mono (Nat.le_trans hBw hsz))
    have hsz4 := hb3.size
    clear s1
    have s1 : w2.cell? ⟨s, 1, none⟩ = _ := bS4.cell 1
    have p0 : w2.cell? ⟨w1.heap.size, 0, none⟩ = _ := bP4.cell 0
    have p1 : w2.cell? ⟨w1.heap.size, 1, none⟩ = _ := bP4.cell 1
    simp only [List.getElem?_cons_zero, List.getElem?_cons_succ] at s1 p0 p1
    clear HR HX HM3 HV3 bP bP4 h2 hb2 hb3 HM1 HM2 HV1 HV2 bS2 bS1 HD hdr
    cases r with
    | true =>
      go_wp2
      go_ret
      refine ⟨⟨false, rfl, fun _ => HRR.out trivial⟩, HM4.out.mono (Nat.le_succ _) (fun _ _ h => .inl h), HK4.out, hB4⟩
    | false =>
      go_wp2
      refine region_first [0, 1, 2, 3, 4, 5] (.cons 6 (seq [7, 8, 10, 9, 11] .nil)) (by kernel_rfl) (by kernel_rfl) ?_
      simp only [pick, List.map_cons, List.map_nil, List.getD_cons_zero, List.getD_cons_succ]
      go_wp2
      have lm4 : mb < w2.drew.heap.size := HM4.out.lt
      have hL := (Below.refl w2.heap.size w2).drew.alloc (Nat.le_refl _) (Obj.cells #[.iface T y] 97)
      have HM5 := Lib.hid (HM4.out.below hL)
      have HV5 := Lib.hid (HV4.out.kp (Kp.below hL))
      have HK5 := Lib.hid (HK4.out.trans (Kp.below hL))
      have hB5 := hB4.trans (hL.mono (Nat.le_trans hBw (Nat.le_trans hsz (Nat.le_trans (by simp) hsz4))))
      refine ord_call (by kernel_rfl) ?_
      simp only [pick, List.map_cons, List.map_nil, List.getD_cons_zero, List.getD_cons_succ]
      go_wp2
      refine ⟨ext_below ((Below.refl _ _).alloc (Nat.le_refl _) _), ?_⟩
      refine ord_last [7, 8, 10, 9, 11] (by kernel_rfl) ?_
      simp only [pick, List.map_cons, List.map_nil, List.getD_cons_zero, List.getD_cons_succ]
      go_wp2_with (first
        | (refine wp_entry rfl (.tmp 25) (.tmp 26) rfl rfl HM5.out d g rfl ?_; intro w4 es tag i e v n4 xs4 g4 K4 E1 E2 E3 E4 E5 own4 hn4 E6 hne4; have RD4 := lit_kept (w := w2.drew) (x := Value.iface T y) (e := 97) (by exact g4) lm4; have hB6 := below_set (by exact hB5) g4 HM5.out.1 (by exact Nat.le_trans hBw hB5.size))
        | (at_builtin; refine app_srcB eltState w4 rfl (.tmp 27) (.tmp 29) rfl B _ n4 xs4 rfl own4 _ 1 1 [.iface T y] rfl _ (by exact RD4) (by intro u hu; rw [List.mem_singleton.1 hu]; rfl) (by omega) (by omega) (by have := hB6.size; omega) ?_; intro v' w5 own5 g5 hb5 hsz5 hv5; have K5 := own_kp own4 g5; obtain ⟨w6, hrun6, g6, K6, vm6⟩ := Ents.store (x := Value.iface T y) (has := has) (v' := v') HM5.out.1 E2.out E1.out E3.out E4.out (by rw [E5.out]; exact own4) hn4 E6.out (by rw [E5.out]; exact g5) own5 (by rw [E5.out]; exact hv5) ((HV5.out.kp K4.out).kp K5))
        | (refine wp_put rfl rfl (.tmp 25) (.tmp 32) (.tmp 31) rfl rfl i rfl v' rfl w6 hrun6 ?_))
      go_ret
      have hB7 := below_set (hb5 _ hB6) g6 HM5.out.1 hsz5
      exact ⟨⟨true, rfl, fun h => by cases h⟩, vm6, (HK5.out.trans K4.out).trans K6, hB7⟩
end Go.Proofs.YtnchgdjdfhfedaaDoor
