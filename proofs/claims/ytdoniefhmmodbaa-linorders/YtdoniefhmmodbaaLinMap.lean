/- The map of visited states. No statement of the seat is proved here; no condition. -/
import Derived.Test.YtdoniefhmmodbaaLinSt3
set_option linter.unusedSimpArgs false
set_option linter.unusedVariables false
namespace Go.Proofs.Ytdoniefhmmodbaa
open Go.RowKit Go.Ord Go.Baro Go.MapKept

theorem key_asking (d g : Int) (w : World) : ∀ (es : List MapEntry) (i : Nat), (∀ e ∈ es, ∃ d' g', e.key = KV d' g') →
    (Instr.findAsking 74 (KV d g) es i).run Try.prog w = .ok none w ∨ ∃ j e, (Instr.findAsking 74 (KV d g) es i).run Try.prog w = .ok (some (i + j, e.val)) w ∧ es[j]? = some e ∧ e.key = KV d g
  | [], i, _ => .inl rfl
  | e :: es, i, h => by
    obtain ⟨d', g', hk⟩ := h e (by simp)
    have he := key_eq d g d' g' w
    rw [← hk] at he
    by_cases hdg : d = d' ∧ g = g'
    · obtain ⟨rfl, rfl⟩ := hdg
      refine .inr ⟨0, e, ?_, rfl, hk⟩
      simp [Instr.findAsking, Sem.run_bind, he, Result.andThen]
    · have hf : (d == d' && g == g') = false := by
        rw [Bool.and_eq_false_iff]
        by_cases h1 : d = d'
        · exact .inr (by simpa using fun h2 => hdg ⟨h1, h2⟩)
        · exact .inl (by simpa using h1)
      rw [hf] at he
      have hrun : (Instr.findAsking 74 (KV d g) (e :: es) i).run Try.prog w = (Instr.findAsking 74 (KV d g) es (i + 1)).run Try.prog w := by
        simp [Instr.findAsking, Sem.run_bind, he, Result.andThen]
      rw [hrun]
      rcases key_asking d g w es (i + 1) (fun e he => h e (by simp [he])) with h1 | ⟨j, e', h1, h2, h3⟩
      · exact .inl h1
      · exact .inr ⟨j + 1, e', by rw [h1, show i + 1 + j = i + (j + 1) by omega], by simpa using h2, h3⟩
theorem key_find (d g : Int) (w : World) (es : List MapEntry) (h : ∀ e ∈ es, ∃ d' g', e.key = KV d' g') :
    (Instr.findKey 74 (KV d g) es).run Try.prog w = .ok none w ∨ ∃ j e, (Instr.findKey 74 (KV d g) es).run Try.prog w = .ok (some (j, e.val)) w ∧ es[j]? = some e ∧ e.key = KV d g := by
  have hu : ∃ fs, Try.prog.underlying 74 = some (.struct fs) := ⟨_, Try.underlying74⟩
  obtain ⟨fs, hu⟩ := hu
  cases es with
  | nil =>
    left
    simp [Instr.findKey, Sem.run_bind, run_underlying hu, Instr.findNow, Result.andThen]
  | cons e es =>
    have hn : Instr.findNow (.struct fs) (KV d g) (e :: es) 0 = none := by simp [Instr.findNow, Instr.sameNow]
    have hrun : (Instr.findKey 74 (KV d g) (e :: es)).run Try.prog w = (Instr.findAsking 74 (KV d g) (e :: es) 0).run Try.prog w := by
      simp only [Instr.findKey, Sem.run_bind, run_underlying hu, Result.andThen_ok, hn]
    rw [hrun]
    rcases key_asking d g w (e :: es) 0 h with h1 | ⟨j, e', h1, h2, h3⟩
    · exact .inl h1
    · exact .inr ⟨j, e', by rw [h1, Nat.zero_add], h2, h3⟩
theorem key_stays (d g : Int) (w : World) : (Instr.keyThatStays (KV d g) (KV d g)).run Try.prog w = .ok (KV d g) w := by
  have : Instr.sameBits 10000 (KV d g) (KV d g) = true := by simp [KV, Instr.sameBits]
  simp [Instr.keyThatStays, this]
/-- The entries of the map: the states of each are in M; no two have a block in common. -/
def Ents (w : World) (B N : Nat) (k : Int) (M : Nat → List Int → Prop) (es : Array MapEntry) (tag : Nat → Nat) : Prop :=
  ∀ (i : Nat) (e : MapEntry), es[i]? = some e → e.born = i ∧ ∃ (d : Nat) (g : Int) (n : Nat) (xs : List Value), e.key = KV d g ∧ w.ownsRow B 49 1 e.val n xs ∧ n ≤ N ∧ (∀ x ∈ xs, ∃ s, StV w k x s ∧ M d s) ∧ ∀ b, e.val.ownBlock = some b → tag b = i
/-- The visited states in block mb. -/
def VM (w : World) (B mb N : Nat) (k : Int) (M : Nat → List Int → Prop) : Prop := B ≤ mb ∧ ∃ es tag, w.heap[mb]? = some (.map es es.size) ∧ Ents w B N k M es tag
section
variable {w w' : World} {B mb N : Nat} {k : Int} {M : Nat → List Int → Prop} {es : Array MapEntry} {tag : Nat → Nat}
theorem VM.lt (h : VM w B mb N k M) : mb < w.heap.size := by obtain ⟨_, es, tag, h1, _⟩ := h; exact heap_lt h1
theorem Ents.below (h : Ents w B N k M es tag) (hb : Below w.heap.size w w') : Ents w' B N k M es tag := by
  intro i e he
  obtain ⟨h1, d, g, n, xs, h2, h3, h4, h5, h6⟩ := h i e he
  exact ⟨h1, d, g, n, xs, h2, own_below h3 hb, h4, fun x hx => by obtain ⟨s, hs, hm⟩ := h5 x hx; exact ⟨s, hs.kp (Kp.below hb), hm⟩, h6⟩
theorem VM.below (h : VM w B mb N k M) (hb : Below w.heap.size w w') : VM w' B mb N k M := by
  obtain ⟨h0, es, tag, h1, h2⟩ := h
  exact ⟨h0, es, tag, (hb.block mb (heap_lt h1)).trans h1, h2.below hb⟩
theorem VM.mono (h : VM w B mb N k M) {N' : Nat} {M' : Nat → List Int → Prop} (hN : N ≤ N') (hM : ∀ d s, M d s → M' d s) : VM w B mb N' k M' := by
  obtain ⟨h0, es, tag, h1, h2⟩ := h
  refine ⟨h0, es, tag, h1, fun i e he => ?_⟩
  obtain ⟨h1, d, g, n, xs, h2, h3, h4, h5, h6⟩ := h2 i e he
  exact ⟨h1, d, g, n, xs, h2, h3, by omega, fun x hx => by obtain ⟨s, hs, hm⟩ := h5 x hx; exact ⟨s, hs, hM d s hm⟩, h6⟩
theorem VM.made (w : World) {B : Nat} (hB : B ≤ w.heap.size) (k : Int) (M : Nat → List Int → Prop) : VM (w.alloc (.map #[] 0)) B w.heap.size 0 k M := ⟨hB, #[], fun _ => 0, heap_alloc_new w _, fun i e he => by simp at he⟩
theorem Ents.keys (h : Ents w B N k M es tag) : ∀ e ∈ es.toList, ∃ d' g', e.key = KV d' g' := by
  intro e he
  obtain ⟨i, hi⟩ := List.mem_iff_getElem?.1 he
  obtain ⟨_, d, g, _, _, hk, _⟩ := h i e (by simpa using hi)
  exact ⟨d, g, hk⟩
theorem zeroStates (w : World) : (zeroValue 76).run Try.prog w = .ok (.slice none 0 0) w := by kernel_rfl
/-- What is looked for. -/
theorem VM.look (h : VM w B mb N k M) (d : Nat) (g : Int) : ∃ v n xs, (Instr.lookup 42 (.map (some mb)) (KV d g) false).run Try.prog w = .ok v w ∧ w.ownsRow B 49 1 v n xs ∧ n ≤ N ∧ ∀ x ∈ xs, ∃ s, StV w k x s ∧ M d s := by
  obtain ⟨h0, es, tag, h1, h2⟩ := h
  rcases key_find d g w es.toList h2.keys with hf | ⟨j, e, hf, hj, hk⟩
  · refine ⟨.slice none 0 0, 0, [], ?_, World.ownsRow_nil _ _ _ _, Nat.zero_le _, by simp⟩
    simp [Instr.lookup, run_underlying Try.underlying42, MapKept.run_getObj_map h1, key_check, hf, zeroStates, Result.andThen]
  · obtain ⟨_, d', g', n, xs, hk2, h3, h4, h5, _⟩ := h2 j e (by simpa using hj)
    rw [hk] at hk2
    have hd : (d : Int) = d' := by simp [KV] at hk2; exact_mod_cast hk2.1
    obtain rfl : d = d' := by omega
    refine ⟨e.val, n, xs, ?_, h3, h4, h5⟩
    simp [Instr.lookup, run_underlying Try.underlying42, MapKept.run_getObj_map h1, key_check, hf, Result.andThen]
theorem modify_same {es : Array MapEntry} {i : Nat} {f : MapEntry → MapEntry} (h : ∀ e, es[i]? = some e → f e = e) : es.modify i f = es := by
  apply Array.ext_getElem?
  intro j
  rw [Array.getElem?_modify]
  by_cases hij : i = j
  · subst hij
    rw [if_pos rfl]
    cases he : es[i]? with
    | none => rfl
    | some e => simp [h e he]
  · rw [if_neg hij]
/-- The heap with another object. -/
def stM (w : World) (b : Nat) (o : Obj) : World := { w with heap := w.heap.setIfInBounds b o }
theorem stM_grown (w : World) (b : Nat) (o : Obj) : w.grownBy (stM w b o) (some b) :=
  ⟨rfl, rfl, rfl, by simp [stM], fun k hk hne => by
    show (w.heap.setIfInBounds b o)[k]? = _
    rw [Array.getElem?_setIfInBounds_ne (fun e => hne (by rw [e]))]⟩
theorem stM_at {w : World} {b : Nat} {o o' : Obj} (h : w.heap[b]? = some o') : (stM w b o).heap[b]? = some o := by
  show (w.heap.setIfInBounds b o)[b]? = _
  rw [Array.getElem?_setIfInBounds_self_of_lt (heap_lt h)]
/-- What is done to the map leaves the rows and the states. -/
theorem map_ne {w : World} {b : Nat} {es : Array MapEntry} {c : Nat} (h : w.heap[b]? = some (.map es c)) {B n s : Nat} {e : TypeId} {v : Value} {xs : List Value} (ho : w.ownsRow B e s v n xs) : v.ownBlock = none ∨ v.ownBlock ≠ some b := by
  rcases ho.2 with ⟨rfl, _⟩ | ⟨g, cap, cur, rfl, _, hg, _⟩
  · exact .inl rfl
  · refine .inr fun he => ?_
    simp only [Value.ownBlock, Option.some.injEq] at he
    subst he
    rw [h] at hg
    cases hg
theorem map_kp {w w' : World} {b : Nat} {es : Array MapEntry} {c : Nat} (h : w.heap[b]? = some (.map es c)) (hg : w.grownBy w' (some b)) : Kp w w' :=
  Kp.grown hg fun b' cs t fr he hh => by injection he with he; subst he; rw [h] at hh; cases hh
theorem Ents.map {c : Nat} (h : Ents w B N k M es tag) (hh : w.heap[mb]? = some (.map es c)) (hg : w.grownBy w' (some mb)) : Ents w' B N k M es tag := by
  intro i e he
  obtain ⟨h1, d, g, n, xs, h2, h3, h4, h5, h6⟩ := h i e he
  exact ⟨h1, d, g, n, xs, h2, h3.kept hg (map_ne hh h3), h4, fun x hx => by obtain ⟨s, hs, hm⟩ := h5 x hx; exact ⟨s, hs.kp (map_kp hh hg), hm⟩, h6⟩
/-- The entry of a place, made if there is none. -/
theorem VM.entry (h : VM w B mb N k M) (d : Nat) (g : Int) : ∃ w1 es tag i e, (Instr.mapEntry 42 (.map (some mb)) (KV d g)).run Try.prog w = .ok (.tuple #[e.val, .int .i64 (i : Nat)]) w1 ∧ w.grownBy w1 (some mb) ∧ Kp w w1 ∧
    w1.heap[mb]? = some (.map es es.size) ∧ Ents w1 B N k M es tag ∧ es[i]? = some e ∧ e.key = KV d g := by
  obtain ⟨h0, es, tag, h1, h2⟩ := h
  rcases key_find d g w es.toList h2.keys with hf | ⟨j, e, hf, hj, hk⟩
  · have hg := stM_grown w mb (.map (es.push { key := KV d g, val := .slice none 0 0, born := es.size }) (es.size + 1))
    refine ⟨stM w mb (.map (es.push { key := KV d g, val := .slice none 0 0, born := es.size }) (es.size + 1)), es.push { key := KV d g, val := .slice none 0 0, born := es.size }, tag, es.size, { key := KV d g, val := .slice none 0 0, born := es.size }, ?_, hg, map_kp h1 hg, ?_, ?_, ?_, rfl⟩
    · simp [Instr.mapEntry, run_underlying Try.underlying42, MapKept.run_getObj_map h1, key_check, hf, zeroStates, MapKept.run_setObj_map _ h1, Result.andThen, goInt, stM]
    · rw [stM_at h1, Array.size_push]
    · intro i e he
      rw [Array.getElem?_push] at he
      by_cases hi : i = es.size
      · rw [if_pos hi] at he
        injection he with he
        subst he hi
        exact ⟨rfl, d, g, 0, [], rfl, World.ownsRow_nil _ _ _ _, Nat.zero_le _, by simp, fun b hb => by simp [Value.ownBlock] at hb⟩
      · rw [if_neg hi] at he
        exact h2.map h1 hg i e he
    · simp
  · have hje : es[j]? = some e := by simpa using hj
    have hm : es.modify j (fun e => { e with key := KV d g }) = es := modify_same fun e' he' => by
      rw [hje] at he'
      injection he' with he'
      subst he'
      rw [← hk]
    have hg := stM_grown w mb (.map es es.size)
    refine ⟨stM w mb (.map es es.size), es, tag, j, e, ?_, hg, map_kp h1 hg, stM_at h1, h2.map h1 hg, hje, hk⟩
    have hborn := (h2 j e hje).1
    simp [Instr.mapEntry, run_underlying Try.underlying42, MapKept.run_getObj_map h1, key_check, hf, hje, hk, key_stays, hm, MapKept.run_setObj_map _ h1, Result.andThen, goInt, stM, hborn]
/-- The row of the entry is another then. -/
theorem Ents.store {w1 w2 : World} (hB : B ≤ mb) {i : Nat} {e : MapEntry} {d : Nat} {g : Int} {n : Nat} {xs : List Value} {x v' : Value} {has : List Int} (h : Ents w1 B N k M es tag) (h1 : w1.heap[mb]? = some (.map es es.size)) (hi : es[i]? = some e) (hk : e.key = KV d g)
    (ho : w1.ownsRow B 49 1 e.val n xs) (hn : n ≤ N) (hx : ∀ x ∈ xs, ∃ s, StV w1 k x s ∧ M d s) (hg : w1.grownBy w2 e.val.ownBlock) (ho2 : w2.ownsRow B 49 1 v' (n + 1) (xs ++ [x])) (hv : v'.ownBlock = e.val.ownBlock ∨ v'.ownBlock = some w1.heap.size) (hs : StV w2 k x has) :
    ∃ w3, (Instr.entryStore 42 (.map (some mb)) (.int .i64 (i : Nat)) v').run Try.prog w2 = .ok () w3 ∧ w2.grownBy w3 (some mb) ∧ Kp w1 w3 ∧ VM w3 B mb (N + 1) k (fun d' s => M d' s ∨ (d' = d ∧ s = has)) := by
  have h2 : w2.heap[mb]? = some (.map es es.size) := by
    rw [hg.block mb (heap_lt h1) (fun he => ?_)]
    · exact h1
    · rcases map_ne h1 ho with h | h
      · rw [h] at he; cases he
      · exact h he.symm
  have hk12 : Kp w1 w2 := Kp.grown hg fun b cs t fr he hh => by
    rcases ho.2 with ⟨hv, _⟩ | ⟨g', cap, cur, hv, _, hg', _⟩
    · rw [hv] at he; simp [Value.ownBlock] at he
    · rw [hv] at he
      simp only [Value.ownBlock, Option.some.injEq] at he
      subst he
      rw [hg'] at hh
      injection hh with hh
      injection hh with _ hh
      exact hh.symm
  have hg3 := stM_grown w2 mb (.map (es.modify i fun e => { e with val := v' }) es.size)
  have hfind : es.findIdx? (fun e => ((e.born : Int) == (i : Int))) = some i := by
    rw [Array.findIdx?_eq_some_iff_getElem]
    have hlt : i < es.size := (Array.getElem?_eq_some_iff.1 hi).1
    refine ⟨hlt, ?_, fun j hj => ?_⟩
    · have := (h i es[i] (Array.getElem?_eq_getElem hlt)).1
      simp [this]
    · have := (h j es[j] (Array.getElem?_eq_getElem (by omega))).1
      simp [this]; omega
  refine ⟨stM w2 mb (.map (es.modify i fun e => { e with val := v' }) es.size), ?_, hg3, hk12.trans (map_kp h2 hg3), hB, es.modify i (fun e => { e with val := v' }), fun b => if v'.ownBlock = some b then i else tag b, ?_, ?_⟩
  · simp [Instr.entryStore, MapKept.run_getObj_map h2, asInt, asIntOf, hfind, MapKept.run_setObj_map _ h2, Result.andThen, stM]
  · rw [stM_at h2, Array.size_modify]
  · intro j e' he'
    rw [Array.getElem?_modify] at he'
    by_cases hij : i = j
    · subst hij
      rw [if_pos rfl, hi] at he'
      simp only [Option.map_some, Option.some.injEq] at he'
      subst he'
      refine ⟨(h i e hi).1, d, g, n + 1, xs ++ [x], hk, ho2.kept hg3 (map_ne h2 ho2), by omega, fun y hy => ?_, fun b hb => if_pos hb⟩
      rcases List.mem_append.1 hy with hy | hy
      · obtain ⟨s, hs, hm⟩ := hx y hy
        exact ⟨s, (hs.kp hk12).kp (map_kp h2 hg3), .inl hm⟩
      · rw [List.mem_singleton.1 hy]
        exact ⟨has, hs.kp (map_kp h2 hg3), .inr ⟨rfl, rfl⟩⟩
    · rw [if_neg hij] at he'
      obtain ⟨q1, d', g', n', xs', q2, q3, q4, q5, q6⟩ := h j e' he'
      have hne : e'.val.ownBlock = none ∨ e'.val.ownBlock ≠ e.val.ownBlock := by
        cases hb : e'.val.ownBlock with
        | none => exact .inl rfl
        | some b =>
          refine .inr fun he => hij ?_
          obtain ⟨_, _, _, _, _, _, _, _, _, q6'⟩ := h i e hi
          rw [← q6 b hb, ← q6' b he.symm]
      have q3' := q3.kept hg hne
      refine ⟨q1, d', g', n', xs', q2, q3'.kept hg3 (map_ne h2 q3'), by omega, fun y hy => ?_, fun b hb => ?_⟩
      · obtain ⟨s, hs, hm⟩ := q5 y hy
        exact ⟨s, (hs.kp hk12).kp (map_kp h2 hg3), .inl hm⟩
      · refine (if_neg ?_).trans (q6 b hb)
        · intro hv'
          rcases hv with hv | hv
          · rcases hne with hne | hne
            · rw [hb] at hne; cases hne
            · exact hne (by rw [hb, ← hv, hv'])
          · rw [hv'] at hv
            injection hv with hv
            have := (q3.lt b hb).2
            omega
end
end Go.Proofs.Ytdoniefhmmodbaa
