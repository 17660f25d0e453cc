/- What the document's answer to chunk.Decode does. No statement of the seat is proved here; no condition. -/
import Derived.Test.YtekojlepmfmmpaaDoorRefChunkEnc
import Derived.Test.YtekojlepmfmmpaaDoorRefZigAt
import Derived.Test.YtekojlepmfmmpaaDoorRefSame
import Derived.Test.YtekojlepmfmmpaaDoorChunk4
set_option linter.unusedSimpArgs false
set_option linter.unusedVariables false
namespace Go.Proofs.YtekojlepmfmmpaaDoor
open Go.RowKit Go.Ord Go.Baro

theorem ckL_snoc : ∀ (l : List (Int × Int)) (q : St) (x : Int × Int), ckL q l = 0 → ckL q (l ++ [x]) = ck1 (l.foldl adv q) x
  | [], q, x, _ => by
    show ckL q [x] = ck1 q x
    by_cases h : ck1 q x = 0
    · rw [ckL_cons h, h]; rfl
    · rw [ckL_bad h]
  | y :: l, q, x, h => by
    obtain ⟨h1, h2⟩ := ckL_split h
    rw [List.cons_append, ckL_cons h1, ckL_snoc l (adv q y) x h2]
    rfl

section
variable {P : Program} {t e : TypeId} {z : Value} {s by' : Nat} {ops : Array Oper} {rest : List Oper} {o : Oper} {a : Act} {Q : Exit → Act → World → Prop}
/-- An append behind two draws. -/
theorem app_lit2 (E : Elt P t e z s by') (w : World) (hgd : o.guard = none) (l x : Operand) (ho : o.op = .call { callee := .builtin .append, args := #[l, x], argTypes := #[t, t] })
    (base : Nat) (v : Value) (n : Nat) (xs : List Value) (hs : a.eval l = v) (hown : w.ownsRow base e s v n xs) (m : Nat) (cs : List Value)
    (g : Nat) (hg : g = w.heap.size) (hx : a.eval x = .slice (some ⟨g, 0, none⟩) m m) (hl : cs.length = m * s) (h1 : ∀ u ∈ cs, u.oneCell' = true) (hn : (n + m) * by' ≤ 140737488355328) (hn' : n + m ≤ 140737488355328) (hb : base ≤ w.heap.size)
    (h : ∀ v' w', w'.ownsRow base e s v' (n + m) (xs ++ cs) → (w.alloc (.cells cs.toArray e)).grownBy w' v.ownBlock → (∀ w0, Below base w0 w → Below base w0 w') → base ≤ w'.heap.size → wpList P ops Q rest (a.put o.dst v') w') :
    wpList P ops Q (o :: rest) a (w.alloc (.cells cs.toArray e)).drew.drew :=
  app_lit E w.drew.drew hgd l x ho base v n xs hs hown m cs g hg hx hl h1 hn hn' hb fun v' w' h1 h2 h3 h4 => h v' w' h1 ⟨h2.os, h2.tape, h2.output, h2.size, h2.block⟩ (fun w0 hb0 => h3 w0 hb0.drew.drew) h4
end
theorem ref_zigAtZ (l : List Int) (A : Option Addr) (n c a : Nat) (X K : Int) (E : Nat) (w : World) (hZ : (X, E, K) = zAt l a) (hb : RI w w.heap.size .u8 A n l) (hr : ∀ x ∈ l, 0 ≤ x ∧ x < 256) (hn : n ≤ 140737488351232) (ha : a ≤ 8 * n) :
    Calls Tryd.prog 33 #[.slice A n c, .int .i64 a] w fun e w' => e = .returned (.tuple #[.int .i64 X, .int .i64 E, .int .i64 K]) ∧ Below w.heap.size w w' := by
  have := ref_zigAt l A n c a w hb hr hn ha
  unfold AtPost at this
  rw [← hZ] at this
  exact this

set_option maxRecDepth 100000 in
set_option maxHeartbeats 4000000 in
theorem ref_ChunkDecoded (l : List Int) (A : Option Addr) (n c : Nat) (w : World) (hb : RI w w.heap.size .u8 A n l) (hr : ∀ x ∈ l, 0 ≤ x ∧ x < 256) (hn : n ≤ 140737488351232) :
    Calls Tryd.prog 13 #[.slice A n c] w (DsPost l w) := by
  have HL := Lib.hid hb.len
  have HR := Lib.hid hr
  clear hr
  rcases Nat.eq_zero_or_pos n with h0 | h0
  · subst h0
    have hl : l = [] := List.eq_nil_of_length_eq_zero HL.out
    subst hl
    go_enter Tryd.func13, Tryd.ntmps13
    go_wp2
    go_ret2
    exact ds_bad rfl (Below.refl _ _)
  obtain ⟨b, o, x, rfl, hbb, hcell, HX, hmem⟩ := hb.val h0
  have hx := HR.out x hmem
  rw [Nat.add_zero] at hcell
  have hn0 : ((n : Int) == 0) = false := by simp; omega
  by_cases hbig : 120 < x
  · have HE := Lib.hid (chD_over HX.out hbig)
    go_enter Tryd.func13, Tryd.ntmps13
    go_wp2
    go_ret2
    exact ds_bad HE.out (Below.refl _ _)
  have HE := Lib.hid (chD_of HX.out hbig)
  obtain ⟨m, rfl⟩ := Int.eq_ofNat_of_zero_le hx.1
  have HRE := Lib.hid (fun (xs : List (Int × Int)) h1 h2 h3 => read_end HR.out HX.out hbig (xs := xs) h1 h2 h3)
  rw [Int.toNat_natCast] at HE HRE
  have hm : m ≤ 120 := by omega
  clear hbig hx hmem HX
  go_enter Tryd.func13, Tryd.ntmps13
  go_wp2
  go_loopw [5, 6, 7] (fun s v i wr => ∃ (j a : Nat) (q : St) (out : List (Int × Int)), j ≤ m ∧ i = .int .i64 j ∧ s = .int .i64 a ∧ a ≤ 8 * n ∧ okSt q ∧ Hid (out.length = j) ∧ Hid (StIs out j q) ∧ Hid (q = out.foldl adv st0) ∧ Hid (ckL st0 out = 0) ∧ Hid (decA l (m - j) a q out = decA l m 8 st0 []) ∧
      wr.ownsRow w.heap.size 39 2 v j (cellsF out) ∧ Below w.heap.size w wr) (fun _ _ i _ => m - (intOf i).toNat)
  case atStart => exact ⟨0, 8, st0, [], Nat.zero_le _, rfl, rfl, by omega, st0_ok, rfl, StIs.nil _, rfl, rfl, rfl, World.ownsRow_nil _ _ _ _, Below.refl _ _⟩
  case round =>
    obtain ⟨j, a, q, out, hj, rfl, rfl, ha, hq, HO, HS, HQ, HCK, HD, hown, hbel⟩ := hrel
    have hsz := hbel.size
    by_cases hlt2 : j < m
    · obtain ⟨⟨X, e1, k1⟩, hZ1⟩ : ∃ Z, Z = zAt l a := ⟨_, rfl⟩
      have HZ1 := Lib.hid hZ1
      clear hZ1
      go_wp2_with fail
      refine (ref_zigAtZ l _ n c a X k1 e1 _ HZ1.out ((hb.below hbel).more hsz) HR.out hn ha).mono ?_
      rintro e w1 ⟨rfl, hb1⟩
      have hown1 := own_below hown hb1
      have hbel1 : Below w.heap.size w w1 := hbel.trans (hb1.mono hsz)
      clear hb1
      by_cases hz1 : k1 = 0
      · subst hz1
        have hl1 := zAt_lt (l := l) (a := a) (by rw [← HZ1.out])
        rw [← HZ1.out, HL.out] at hl1
        dsimp only at hl1
        obtain ⟨_, h8, _, hsX⟩ := hl1
        unfold Small at hsX
        obtain ⟨⟨Y, e2, k2⟩, hZ2⟩ : ∃ Z, Z = zAt l e1 := ⟨_, rfl⟩
        have HZ2 := Lib.hid hZ2
        clear hZ2
        go_wp2_with fail
        refine (ref_zigAtZ l _ n c e1 Y k2 e2 _ HZ2.out ((hb.below hbel1).more hbel1.size) HR.out hn h8).mono ?_
        rintro e w2 ⟨rfl, hb2⟩
        have hown2 := own_below hown1 hb2
        have hbel2 : Below w.heap.size w w2 := hbel1.trans (hb2.mono hbel1.size)
        have hsz2 := hbel2.size
        clear hb2 hown hown1
        have HT := Lib.hid (show (zAt l a).2.2 = 0 ∧ zAt l (zAt l a).2.1 = (Y, e2, k2) by rw [← HZ1.out]; exact ⟨rfl, HZ2.out.symm⟩)
        by_cases hz2 : k2 = 0
        · subst hz2
          have hl2 := zAt_lt (l := l) (a := e1) (by rw [← HZ2.out])
          rw [← HZ2.out, HL.out] at hl2
          dsimp only at hl2
          obtain ⟨_, h9, _, hsY⟩ := hl2
          unfold Small at hsY
          have HZT := Lib.hid (show zTwo l a = (X, Y, e2, 0) by rw [zTwo_ok HT.out.1 (by rw [HT.out.2]), HT.out.2, ← HZ1.out])
          have HN := Lib.hid (show nxt l a q = (q.t + q.s + X, q.v + Y) by unfold nxt smp; rw [HZT.out])
          rcases (show j = 0 ∨ j = 1 ∨ ∃ k, j = k + 2 from by rcases (by omega : j = 0 ∨ j = 1 ∨ 2 ≤ j) with h | h | h; exact .inl h; exact .inr (.inl h); exact .inr (.inr ⟨j - 2, by omega⟩)) with rfl | rfl | ⟨k, rfl⟩
          · have eT : q.t + q.s + X = X := by rw [HS.out.zero rfl]; simp [st0]
            have eV : q.v + Y = Y := by rw [HS.out.zero rfl]; simp [st0]
            go_wp2_with (at_builtin; go_must (refine app_lit eltSample _ rfl _ _ rfl w.heap.size _ _ _ rfl (by exact hown2.alloc _) 1 [_, _] (w2.heap.size + 1) (by simp) rfl rfl (one2 _ _ _ _) (by omega) (by omega) (by simp; omega) ?_); intro v3 w3 hown3 hgr3 hbel3 _)
            have hown4 : w3.ownsRow w.heap.size 39 2 v3 (0 + 1) (cellsF (out ++ [(q.t + q.s + X, q.v + Y)])) := by
              rw [cellsF_append, eT, eV]
              exact hown3
            have hbel4 : Below w.heap.size w w3 := hbel3 _ (hbel2.alloc hsz2 _)
            have HLO := Lib.hid (show (out ++ [(q.t + q.s + X, q.v + Y)]).length = 0 + 1 by rw [List.length_append, HO.out]; rfl)
            have HCC := Lib.hid (show chC (out ++ [(q.t + q.s + X, q.v + Y)]) = ck1 q (q.t + q.s + X, q.v + Y) by rw [chC_of (by rw [HLO.out]; omega), ckL_snoc _ _ _ HCK.out, ← HQ.out])
            clear hown3 hbel3 eT eV
            obtain ⟨B4, c4, rfl, hc4⟩ := own_form hown4
            have hrf : RF w3 w3.heap.size B4 (0 + 1) (out ++ [(q.t + q.s + X, q.v + Y)]) := Rd.of_own hown4
            go_wp2_with fail
            refine (ref_SamplesFault (out ++ [(q.t + q.s + X, q.v + Y)]) B4 (0 + 1) c4 w3 hrf (by omega)).mono ?_
            rintro e w5 ⟨rfl, hb5⟩
            have hown5 := own_below hown4 hb5
            have hbel5 : Below w.heap.size w w5 := hbel4.trans (hb5.mono hbel4.size)
            by_cases hck : ck1 q (q.t + q.s + X, q.v + Y) = 0
            · have HK := Lib.hid hck
              rw [HCC.out, hck]
              clear hck
              go_wp2
              go_roundw
              case rel =>
                refine ⟨0 + 1, e2, adv q (q.t + q.s + X, q.v + Y), out ++ [(q.t + q.s + X, q.v + Y)], by omega, by go_num, rfl, h9, adv_ok hq HK.out, HLO.out, ?_, ?_, ?_, ?_, hown5, hbel5⟩
                · exact StIs.step (HS.out.ext (fun i hi => by rw [List.getElem?_append_left (by rw [HO.out]; exact hi)])) (by rw [List.getElem?_append_right (by rw [HO.out]; exact Nat.le_refl _), HO.out, Nat.sub_self]; rfl)
                · show _ = _
                  rw [List.foldl_append, ← HQ.out]
                  rfl
                · show _ = _
                  rw [ckL_snoc _ _ _ HCK.out, ← HQ.out]
                  exact HK.out
                · show _ = _
                  have hd := HD.out
                  rw [show m - 0 = (m - (0 + 1)) + 1 by omega, decA_step (by rw [HZT.out]) (by rw [HN.out]; exact HK.out), HN.out, HZT.out] at hd
                  exact hd
              case measure => simp [intOf]; omega
            · obtain ⟨kk, hkk⟩ : ∃ kk, kk = chC (out ++ [(q.t + q.s + X, q.v + Y)]) := ⟨_, rfl⟩
              have HK := Lib.hid hck
              have hkb : (kk != 0) = true := by rw [hkk, HCC.out]; simp [hck]
              rw [← hkk]
              clear hck hkk
              go_wp2
              go_ret2
              refine ds_bad ?_ hbel5
              have hd := HD.out
              rw [show m - 0 = (m - (0 + 1)) + 1 by omega, decA_form (by rw [HZT.out]) (by rw [HN.out]; exact HK.out)] at hd
              rw [HE.out, ← hd]
              exact fin_err (by decide)
          · obtain ⟨⟨t1, v1⟩, h1⟩ : ∃ p, out[0]? = some p := ⟨_, List.getElem?_eq_getElem (by rw [HO.out]; omega)⟩
            have H1 := Lib.hid h1
            obtain ⟨⟨r1, r2⟩, r3, r4⟩ := ckL_range HCK.out _ (List.mem_of_getElem? h1)
            dsimp only at r1 r2 r3 r4
            clear h1
            obtain ⟨g, cp, rfl, hg1, hg2, _⟩ := own_some hown2 (by omega)
            have hct := hown2.cellAt (0 * 2) (by omega)
            have hcv := hown2.cellAt (0 * 2 + 1) (by omega)
            rw [(cellsF_at out _ _ H1.out).1] at hct
            rw [(cellsF_at out _ _ H1.out).2] at hcv
            dsimp only at hct hcv
            have hl1 := HS.out.last _ (by decide) H1.out
            dsimp only at hl1
            have eT : q.t + q.s + X = X + t1 := by rw [hl1.1, HS.out.one rfl]; omega
            have eV : q.v + Y = Y + v1 := by rw [hl1.2.1]; omega
            clear hl1
            go_wp2
            refine region_two [0, 1, 2, 3, 4, 5, 6, 7, 8, 9] [10] (by kernel_rfl) (by kernel_rfl) ?_
            simp only [pick, List.map_cons, List.map_nil, List.getD_cons_zero, List.getD_cons_succ]
            go_wp2
            refine region_two [0, 1, 2, 3, 4, 5, 6, 7, 8, 9] [10] (by kernel_rfl) (by kernel_rfl) ?_
            simp only [pick, List.map_cons, List.map_nil, List.getD_cons_zero, List.getD_cons_succ]
            go_wp2_with (at_builtin; go_must (refine app_lit2 eltSample _ rfl _ _ rfl w.heap.size _ _ _ rfl (by exact hown2.alloc _) 1 [_, _] (w2.heap.size + 1) (by simp) rfl rfl (one2 _ _ _ _) (by omega) (by omega) (by simp; omega) ?_); intro v3 w3 hown3 hgr3 hbel3 _)
            have hown4 : w3.ownsRow w.heap.size 39 2 v3 (1 + 1) (cellsF (out ++ [(q.t + q.s + X, q.v + Y)])) := by
              rw [cellsF_append, eT, eV]
              exact hown3
            have hbel4 : Below w.heap.size w w3 := hbel3 _ (hbel2.alloc hsz2 _)
            have HLO := Lib.hid (show (out ++ [(q.t + q.s + X, q.v + Y)]).length = 1 + 1 by rw [List.length_append, HO.out]; rfl)
            have HCC := Lib.hid (show chC (out ++ [(q.t + q.s + X, q.v + Y)]) = ck1 q (q.t + q.s + X, q.v + Y) by rw [chC_of (by rw [HLO.out]; omega), ckL_snoc _ _ _ HCK.out, ← HQ.out])
            clear hown3 hbel3 eT eV
            obtain ⟨B4, c4, rfl, hc4⟩ := own_form hown4
            have hrf : RF w3 w3.heap.size B4 (1 + 1) (out ++ [(q.t + q.s + X, q.v + Y)]) := Rd.of_own hown4
            go_wp2_with fail
            refine (ref_SamplesFault (out ++ [(q.t + q.s + X, q.v + Y)]) B4 (1 + 1) c4 w3 hrf (by omega)).mono ?_
            rintro e w5 ⟨rfl, hb5⟩
            have hown5 := own_below hown4 hb5
            have hbel5 : Below w.heap.size w w5 := hbel4.trans (hb5.mono hbel4.size)
            by_cases hck : ck1 q (q.t + q.s + X, q.v + Y) = 0
            · have HK := Lib.hid hck
              rw [HCC.out, hck]
              clear hck
              go_wp2
              go_roundw
              case rel =>
                refine ⟨1 + 1, e2, adv q (q.t + q.s + X, q.v + Y), out ++ [(q.t + q.s + X, q.v + Y)], by omega, by go_num, rfl, h9, adv_ok hq HK.out, HLO.out, ?_, ?_, ?_, ?_, hown5, hbel5⟩
                · exact StIs.step (HS.out.ext (fun i hi => by rw [List.getElem?_append_left (by rw [HO.out]; exact hi)])) (by rw [List.getElem?_append_right (by rw [HO.out]; exact Nat.le_refl _), HO.out, Nat.sub_self]; rfl)
                · show _ = _
                  rw [List.foldl_append, ← HQ.out]
                  rfl
                · show _ = _
                  rw [ckL_snoc _ _ _ HCK.out, ← HQ.out]
                  exact HK.out
                · show _ = _
                  have hd := HD.out
                  rw [show m - 1 = (m - (1 + 1)) + 1 by omega, decA_step (by rw [HZT.out]) (by rw [HN.out]; exact HK.out), HN.out, HZT.out] at hd
                  exact hd
              case measure => simp [intOf]; omega
            · obtain ⟨kk, hkk⟩ : ∃ kk, kk = chC (out ++ [(q.t + q.s + X, q.v + Y)]) := ⟨_, rfl⟩
              have HK := Lib.hid hck
              have hkb : (kk != 0) = true := by rw [hkk, HCC.out]; simp [hck]
              rw [← hkk]
              clear hck hkk
              go_wp2
              go_ret2
              refine ds_bad ?_ hbel5
              have hd := HD.out
              rw [show m - 1 = (m - (1 + 1)) + 1 by omega, decA_form (by rw [HZT.out]) (by rw [HN.out]; exact HK.out)] at hd
              rw [HE.out, ← hd]
              exact fin_err (by decide)
          · obtain ⟨⟨t1, v1⟩, h1⟩ : ∃ p, out[(k + 1)]? = some p := ⟨_, List.getElem?_eq_getElem (by rw [HO.out]; omega)⟩
            have H1 := Lib.hid h1
            obtain ⟨⟨r1, r2⟩, r3, r4⟩ := ckL_range HCK.out _ (List.mem_of_getElem? h1)
            dsimp only at r1 r2 r3 r4
            clear h1
            obtain ⟨g, cp, rfl, hg1, hg2, _⟩ := own_some hown2 (by omega)
            have hct := hown2.cellAt ((k + 1) * 2) (by omega)
            have hcv := hown2.cellAt ((k + 1) * 2 + 1) (by omega)
            rw [(cellsF_at out _ _ H1.out).1] at hct
            rw [(cellsF_at out _ _ H1.out).2] at hcv
            dsimp only at hct hcv
            obtain ⟨⟨t2, v2⟩, h2⟩ : ∃ p, out[k]? = some p := ⟨_, List.getElem?_eq_getElem (by rw [HO.out]; omega)⟩
            have H2 := Lib.hid h2
            obtain ⟨⟨r5, r6⟩, _⟩ := ckL_range HCK.out _ (List.mem_of_getElem? h2)
            dsimp only at r5 r6
            clear h2
            have hct2 := hown2.cellAt (k * 2) (by omega)
            rw [(cellsF_at out _ _ H2.out).1] at hct2
            dsimp only at hct2
            have hl1 := HS.out.last _ (by omega) H1.out
            have hl2 := HS.out.two _ _ (by omega) H1.out H2.out
            dsimp only at hl1 hl2
            have eT : q.t + q.s + X = X + t1 + (t1 - t2) := by rw [hl1.1, hl2]; omega
            have eV : q.v + Y = Y + v1 := by rw [hl1.2.1]; omega
            clear hl1 hl2
            have e1' : ((k + 2 : Nat) : Int) - 1 = ((k + 1 : Nat) : Int) := by omega
            have e2' : ((k + 2 : Nat) : Int) - 2 = (k : Int) := by omega
            go_wp2
            refine region_two [0, 1, 2, 3, 4, 5, 6, 7, 8, 9] [10] (by kernel_rfl) (by kernel_rfl) ?_
            simp only [pick, List.map_cons, List.map_nil, List.getD_cons_zero, List.getD_cons_succ]
            go_wp2
            refine region_two [0, 1, 2, 3, 4, 5, 6, 7, 8, 9] [10] (by kernel_rfl) (by kernel_rfl) ?_
            simp only [pick, List.map_cons, List.map_nil, List.getD_cons_zero, List.getD_cons_succ]
            go_wp2
            refine region_two [0, 1, 2, 3, 4, 5, 6, 7, 8, 9, 10, 11, 12, 13, 14, 15, 16] [17] (by kernel_rfl) (by kernel_rfl) ?_
            simp only [pick, List.map_cons, List.map_nil, List.getD_cons_zero, List.getD_cons_succ]
            go_wp2_with (at_builtin; go_must (refine app_lit3 eltSample _ rfl _ _ rfl w.heap.size _ _ _ rfl (by exact hown2.alloc _) 1 [_, _] (w2.heap.size + 1) (by simp) rfl rfl (one2 _ _ _ _) (by omega) (by omega) (by simp; omega) ?_); intro v3 w3 hown3 hgr3 hbel3 _)
            have hown4 : w3.ownsRow w.heap.size 39 2 v3 ((k + 2) + 1) (cellsF (out ++ [(q.t + q.s + X, q.v + Y)])) := by
              rw [cellsF_append, eT, eV]
              exact hown3
            have hbel4 : Below w.heap.size w w3 := hbel3 _ (hbel2.alloc hsz2 _)
            have HLO := Lib.hid (show (out ++ [(q.t + q.s + X, q.v + Y)]).length = (k + 2) + 1 by rw [List.length_append, HO.out]; rfl)
            have HCC := Lib.hid (show chC (out ++ [(q.t + q.s + X, q.v + Y)]) = ck1 q (q.t + q.s + X, q.v + Y) by rw [chC_of (by rw [HLO.out]; omega), ckL_snoc _ _ _ HCK.out, ← HQ.out])
            clear hown3 hbel3 eT eV
            obtain ⟨B4, c4, rfl, hc4⟩ := own_form hown4
            have hrf : RF w3 w3.heap.size B4 ((k + 2) + 1) (out ++ [(q.t + q.s + X, q.v + Y)]) := Rd.of_own hown4
            go_wp2_with fail
            refine (ref_SamplesFault (out ++ [(q.t + q.s + X, q.v + Y)]) B4 ((k + 2) + 1) c4 w3 hrf (by omega)).mono ?_
            rintro e w5 ⟨rfl, hb5⟩
            have hown5 := own_below hown4 hb5
            have hbel5 : Below w.heap.size w w5 := hbel4.trans (hb5.mono hbel4.size)
            by_cases hck : ck1 q (q.t + q.s + X, q.v + Y) = 0
            · have HK := Lib.hid hck
              rw [HCC.out, hck]
              clear hck
              go_wp2
              go_roundw
              case rel =>
                refine ⟨(k + 2) + 1, e2, adv q (q.t + q.s + X, q.v + Y), out ++ [(q.t + q.s + X, q.v + Y)], by omega, by go_num, rfl, h9, adv_ok hq HK.out, HLO.out, ?_, ?_, ?_, ?_, hown5, hbel5⟩
                · exact StIs.step (HS.out.ext (fun i hi => by rw [List.getElem?_append_left (by rw [HO.out]; exact hi)])) (by rw [List.getElem?_append_right (by rw [HO.out]; exact Nat.le_refl _), HO.out, Nat.sub_self]; rfl)
                · show _ = _
                  rw [List.foldl_append, ← HQ.out]
                  rfl
                · show _ = _
                  rw [ckL_snoc _ _ _ HCK.out, ← HQ.out]
                  exact HK.out
                · show _ = _
                  have hd := HD.out
                  rw [show m - (k + 2) = (m - ((k + 2) + 1)) + 1 by omega, decA_step (by rw [HZT.out]) (by rw [HN.out]; exact HK.out), HN.out, HZT.out] at hd
                  exact hd
              case measure => simp [intOf]; omega
            · obtain ⟨kk, hkk⟩ : ∃ kk, kk = chC (out ++ [(q.t + q.s + X, q.v + Y)]) := ⟨_, rfl⟩
              have HK := Lib.hid hck
              have hkb : (kk != 0) = true := by rw [hkk, HCC.out]; simp [hck]
              rw [← hkk]
              clear hck hkk
              go_wp2
              go_ret2
              refine ds_bad ?_ hbel5
              have hd := HD.out
              rw [show m - (k + 2) = (m - ((k + 2) + 1)) + 1 by omega, decA_form (by rw [HZT.out]) (by rw [HN.out]; exact HK.out)] at hd
              rw [HE.out, ← hd]
              exact fin_err (by decide)
        · have hkb : (k2 != 0) = true := by simp [hz2]
          have HK := Lib.hid hz2
          have HZB := Lib.hid (show zTwo l a = (0, 0, 0, k2) by rw [zTwo_bad2 HT.out.1 (by rw [HT.out.2]; exact hz2), HT.out.2])
          clear hz2
          go_wp2
          go_ret2
          refine ds_bad ?_ hbel2
          have hd := HD.out
          rw [show m - j = (m - (j + 1)) + 1 by omega, decA_err (by rw [HZB.out]; exact HK.out), HZB.out] at hd
          rw [HE.out, ← hd]
          exact fin_err HK.out
      · have hkb : (k1 != 0) = true := by simp [hz1]
        have HK := Lib.hid hz1
        have HZB := Lib.hid (show zTwo l a = (0, 0, 0, k1) by rw [zTwo_bad1 (by rw [← HZ1.out]; exact hz1), ← HZ1.out])
        clear hz1
        go_wp2
        go_ret2
        refine ds_bad ?_ hbel1
        have hd := HD.out
        rw [show m - j = (m - (j + 1)) + 1 by omega, decA_err (by rw [HZB.out]; exact HK.out), HZB.out] at hd
        rw [HE.out, ← hd]
        exact fin_err HK.out
    · obtain rfl : j = m := by omega
      have hd := HD.out
      rw [Nat.sub_self] at hd
      have HDD := Lib.hid (show decA l j 8 st0 [] = (out, a, 0) from hd.symm)
      clear hd
      have hie := decA_inv l j 8 st0 [] st0_ok (by rw [HL.out]; omega) (by rw [HDD.out])
      have HF := Lib.hid (show chC out = 0 ∧ (EndB l a ↔ chY out = l) by
        obtain ⟨xs, g1, g2, g3, g4, g5⟩ := hie
        rw [HDD.out] at g3
        simp only [List.nil_append, Prod.mk.injEq] at g3
        obtain ⟨rfl, rfl, _⟩ := g3
        exact HRE.out out g1 g2 g5)
      clear hie
      obtain ⟨B6, c6, rfl, hc6⟩ := own_form hown
      have hrf : RF wr wr.heap.size B6 j out := Rd.of_own hown
      go_wp2_with fail
      refine (ref_ChunkEncoded out B6 j c6 wr hrf (by omega)).mono ?_
      rintro e w3 ⟨v3, rfl, hown3, hb3⟩
      obtain ⟨B3, c3, rfl, hc3⟩ := own_form hown3
      have hri : RI w3 w3.heap.size .u8 B3 _ (chY out) := Rd.of_own hown3
      have hownO := own_below hown hb3
      have hbel3 : Below w.heap.size w w3 := hbel.trans (hb3.mono hsz)
      by_cases he : EndB l a
      · go_wp2_with fail
        refine (ref_sameBytes (chY out) l _ _ _ _ _ _ _ _ _ true hri (hb.below hbel3) (chY_range out) HR.out (by simp [HF.out.2.1 he])).mono ?_
        rintro e w' ⟨rfl, rfl⟩
        have HFF := Lib.hid (show chD l = (out, 0) by rw [HE.out, HDD.out]; exact fin_ok rfl he)
        go_wp2
        go_ret2
        refine ⟨_, ret_two rfl (val_int (by rw [HFF.out])), ?_, hbel3⟩
        rw [HFF.out]
        dsimp only
        rw [HO.out]
        exact hownO
      · go_wp2_with fail
        refine (ref_sameBytes (chY out) l _ _ _ _ _ _ _ _ _ false hri (hb.below hbel3) (chY_range out) HR.out (by simp; exact fun h => he (HF.out.2.2 h))).mono ?_
        rintro e w' ⟨rfl, rfl⟩
        have HFF := Lib.hid (show chD l = ([], 4) by rw [HE.out, HDD.out]; exact fin_form rfl he)
        go_wp2
        go_ret2
        exact ds_bad HFF.out hbel3
end Go.Proofs.YtekojlepmfmmpaaDoor
