/- What chunk.Decode does. No statement of the seat is proved here; no condition. -/
import Derived.Test.YtekojlepmfmmpaaDoorChunk3
import Derived.Test.YtekojlepmfmmpaaDoorZig3
set_option linter.unusedSimpArgs false
set_option linter.unusedVariables false
namespace Go.Proofs.YtekojlepmfmmpaaDoor
open Go.RowKit Go.Ord Go.Baro

theorem eltSample : Elt Tryd.prog 22 39 (.agg #[.int .i64 0, .int .i64 0]) 2 16 := Elt.mk' Tryd.underlying22 (by kernel_rfl) rfl (by decide)

/-- What Decode leaves. -/
def DsPost (l : List Int) (w : World) (e : Ending) (w' : World) : Prop :=
  ∃ v, e = .returned (.tuple #[v, .int .i64 (chD l).2]) ∧ w'.ownsRow w.heap.size 39 2 v (chD l).1.length (cellsF (chD l).1) ∧ Below w.heap.size w w'
theorem ds_bad {l : List Int} {w w' : World} {k : Int} (h : chD l = ([], k)) (hb : Below w.heap.size w w') : DsPost l w (.returned (.tuple #[.slice none 0 0, .int .i64 k])) w' := by
  refine ⟨_, by rw [h], ?_, hb⟩
  rw [h]
  exact World.ownsRow_nil _ _ _ _

theorem chunk_readPairI (l : List Int) (A : Option Addr) (n c a : Nat) (X Y K : Int) (E : Nat) (w : World) (hZ : (X, Y, E, K) = zTwo l a) (hT : Tab w) (hb : RI w w.heap.size .u8 A n l) (hr : ∀ x ∈ l, 0 ≤ x ∧ x < 256) (hn : n ≤ 140737488355328) (hnc : n ≤ c) (h0 : 0 < n)
    (ha : a ≤ 8 * n) :
    Calls Tryd.prog 29 #[.slice A n c, .int .i64 a] w fun e w' => e = .returned (.tuple #[.int .i64 X, .int .i64 Y, .int .i64 K]) ∧ Below w.heap.size w w' := by
  have := chunk_readPair l A n c a w hT hb hr hn hnc h0 ha
  rw [← hZ] at this
  exact this

def fillS (v : List (Int × Int)) (n : Nat) : List (Int × Int) := v ++ List.replicate (n - v.length) (0, 0)
theorem fillS_len {v : List (Int × Int)} {n : Nat} (h : v.length ≤ n) : (fillS v n).length = n := by simp [fillS]; omega
theorem fillS_full {v : List (Int × Int)} {n : Nat} (h : v.length = n) : fillS v n = v := by simp [fillS, h]
theorem made_samples (m : Nat) : (madeCells (Value.cells (.agg #[.int .i64 0, .int .i64 0])) (m * 2)).toList = cellsF (List.replicate m (0, 0)) := by
  apply List.ext_getElem
  · rw [cellsF_length]; simp [madeCells]
  · intro i h1 h2
    have hi : i < m * 2 := by rw [cellsF_length] at h2; simpa using h2
    have hc := cellsF_at (List.replicate m ((0 : Int), (0 : Int))) (i / 2) (0, 0) (by rw [List.getElem?_replicate, if_pos (by omega)])
    have hg : (cellsF (List.replicate m ((0 : Int), (0 : Int))))[i]? = some (.int .i64 0) := by
      rcases (by omega : i = i / 2 * 2 ∨ i = i / 2 * 2 + 1) with h | h
      · rw [h]; exact hc.1
      · rw [h]; exact hc.2
    rw [List.getElem?_eq_getElem h2] at hg
    rw [Option.some.inj hg]
    simp only [madeCells, Value.cells]
    rcases (by omega : i % 2 = 0 ∨ i % 2 = 1) with h | h <;> simp [h]
theorem fillS_set (v : List (Int × Int)) (n : Nat) (x y : Int) (j : Nat) (hj : v.length = j) (h : j < n) :
    ((cellsF (fillS v n)).set (j * 2) (.int .i64 x)).set (j * 2 + 1) (.int .i64 y) = cellsF (fillS (v ++ [(x, y)]) n) := by
  subst hj
  obtain ⟨k, hk⟩ : ∃ k, n - v.length = k + 1 := ⟨n - v.length - 1, by omega⟩
  have hk' : n - (v ++ [(x, y)]).length = k := by simp; omega
  unfold fillS
  rw [hk, hk', List.replicate_succ, cellsF_append, cellsF_append, cellsF_append]
  have h2 := cellsF_length v
  rw [List.set_append_right _ _ (by omega), h2, Nat.sub_self, List.set_append_right _ _ (by omega), h2, show v.length * 2 + 1 - v.length * 2 = 1 by omega, List.append_assoc]
  rfl

theorem fillS_at (v : List (Int × Int)) (n : Nat) (x : Int × Int) (j : Nat) (hj : v.length = j) : (fillS (v ++ [x]) n)[j]? = some x := by
  unfold fillS
  rw [List.append_assoc, List.getElem?_append_right (by omega), hj, Nat.sub_self]
  rfl


set_option maxHeartbeats 2000000 in
theorem chunk_Decode (l : List Int) (A : Option Addr) (n c : Nat) (w : World) (hT : Tab w) (hb : RI w w.heap.size .u8 A n l) (hr : ∀ x ∈ l, 0 ≤ x ∧ x < 256) (hn : n ≤ 140737488355328) (hnc : n ≤ c) :
    Calls Tryd.prog 12 #[.slice A n c] w (DsPost l w) := by
  have HL := Lib.hid hb.len
  have hlt := hT.lt
  have HR := Lib.hid hr
  clear hr
  rcases Nat.eq_zero_or_pos n with h0 | h0
  · subst h0
    have hl : l = [] := List.eq_nil_of_length_eq_zero HL.out
    subst hl
    go_enter Tryd.func12, Tryd.ntmps12
    go_wp2
    go_ret2
    exact ds_bad rfl (Below.refl _ _)
  obtain ⟨b, o, x, rfl, hbb, hcell, HX, hmem⟩ := hb.val h0
  have hx := HR.out x hmem
  rw [Nat.add_zero] at hcell
  have hn0 : ((n : Int) == 0) = false := by simp; omega
  by_cases hbig : 120 < x
  · have HE := Lib.hid (chD_over HX.out hbig)
    go_enter Tryd.func12, Tryd.ntmps12
    go_wp2
    go_ret2
    exact ds_bad HE.out (Below.refl _ _)
  have HE := Lib.hid (chD_of HX.out hbig)
  obtain ⟨m, rfl⟩ := Int.eq_ofNat_of_zero_le hx.1
  rw [Int.toNat_natCast] at HE
  have hm : m ≤ 120 := by omega
  clear hbig hx hmem HX
  go_enter Tryd.func12, Tryd.ntmps12
  go_wp2_with (at_make; refine make_all eltSample _ rfl _ _ rfl w.heap.size _ _ _ _ m rfl rfl rfl rfl (by omega) (by omega) (by simp) ?_; intro w1 hown hbel1 _ hgr1)
  rw [made_samples] at hown
  have hbel0 : Below w.heap.size w w1 := hbel1 w ((Below.refl _ _).alloc (Nat.le_refl _) _)
  have hbox0 : Box w1 w.heap.size 43 (stC st0) := (Box.new w 43 (stC st0)).grown hgr1 (by simp)
  clear hbel1 hgr1
  have hown0 : w1.ownsRow w.heap.size 39 2 (.slice (some ⟨w.heap.size + 1, 0, none⟩) m m) m (cellsF (fillS [] m)) := by
    simpa [fillS] using hown
  clear hown
  go_wp2
  go_loopw [7, 25] (fun s i wr => ∃ (j a : Nat) (q : St) (out : List (Int × Int)), j ≤ m ∧ i = .int .i64 j ∧ s = .int .i64 a ∧ a ≤ 8 * n ∧ okSt q ∧ Hid (out.length = j) ∧ Hid (decA l (m - j) a q out = decA l m 8 st0 []) ∧
      wr.ownsRow w.heap.size 39 2 (.slice (some ⟨w.heap.size + 1, 0, none⟩) m m) m (cellsF (fillS out m)) ∧ Box wr w.heap.size 43 (stC q) ∧ Below w.heap.size w wr) (fun _ i _ => m - (intOf i).toNat)
  case atStart => exact ⟨0, 8, st0, [], Nat.zero_le _, rfl, rfl, by omega, st0_ok, rfl, rfl, hown0, hbox0, hbel0⟩
  case round =>
    obtain ⟨j, a, q, out, hj, rfl, rfl, ha, hq, HO, HD, hown, hbox, hbel⟩ := hrel
    clear hown0 hbox0 hbel0
    have hsz := hbel.size
    have hsb := hbox.lt
    have hgl : w.heap.size + 1 < wr.heap.size := (hown.lt _ rfl).2
    by_cases hlt2 : j < m
    · obtain ⟨⟨X, Y, E, K⟩, hZ⟩ : ∃ Z, Z = zTwo l a := ⟨_, rfl⟩
      have HZ := Lib.hid hZ
      clear hZ
      go_wp2_with fail
      refine (chunk_readPairI l _ n c a X Y K E _ HZ.out (hT.below hbel hlt) ((hb.below hbel).more hsz) HR.out hn hnc h0 ha).mono ?_
      rintro e w1 ⟨rfl, hb1⟩
      have hown1 := own_below hown hb1
      have hbox1 := hbox.below hb1 hbox.lt
      have hbel1 : Below w.heap.size w w1 := hbel.trans (hb1.mono hsz)
      have hsz1 := hb1.size
      clear hb1
      by_cases hK : K = 0
      · subst hK
        obtain ⟨X', Y', hsX, hsY, hzt, hzl, hze, _⟩ := zTwo_codes (l := l) (a := a) (by rw [← HZ.out])
        rw [hze, HL.out] at hzl
        have hz2 := HZ.out
        rw [hzt] at hz2
        simp only [Prod.mk.injEq] at hz2
        obtain ⟨rfl, rfl, rfl, _⟩ := hz2
        have HN := Lib.hid (show nxt l a q = (q.t + q.s + X, q.v + Y) by unfold nxt smp; rw [← HZ.out])
        have HSX := Lib.hid hsX
        have HSY := Lib.hid hsY
        have hzx := zsize_le (zfold X)
        have hzy := zsize_le (zfold Y)
        clear hzt hze hsX hsY
        go_wp2_with fail
        refine (chunk_sum q X Y w.heap.size _ hbox1 hq HSX.out HSY.out).mono ?_
        rintro e w2 ⟨rfl, hb2⟩
        have hown2 := own_below hown1 hb2
        have hbox2 := hbox1.below hb2 hbox1.lt
        have hbel2 : Below w.heap.size w w2 := hbel1.trans (hb2.mono hbel1.size)
        clear hb2
        have hfl := fillS_len (v := out) (n := m) (by rw [HO.out]; omega)
        have hcl := cellsF_length (fillS out m)
        have hc0 := hown2.cellAt (j * 2) (by omega)
        have hc1 := hown2.cellAt (j * 2 + 1) (by omega)
        rw [List.getElem?_eq_getElem (by omega)] at hc0 hc1
        have hf0 := hown2.frozenAt (j * 2)
        have hf1 := hown2.frozenAt (j * 2 + 1)
        have hst := own_two hown2 (j * 2) (j * 2 + 1) (.int .i64 (q.t + q.s + X)) (.int .i64 (q.v + Y))
        rw [fillS_set out m _ _ j HO.out hlt2] at hst
        have hbox3 := hbox2.grown hst.2 (by simp)
        have hbel3 : Below w.heap.size w ((w2.setCell ⟨w.heap.size + 1, j * 2, none⟩ (.int .i64 (q.t + q.s + X))).setCell ⟨w.heap.size + 1, j * 2 + 1, none⟩ (.int .i64 (q.v + Y))) := below_set hbel2 hst.2 (by omega) hbel2.size
        go_wp2_with fail
        refine (chunk_check q (q.t + q.s + X) (q.v + Y) w.heap.size _ hbox3).mono ?_
        rintro e w4 ⟨rfl, hb4⟩
        have hown4 := own_below hst.1 hb4
        have hbox4 := hbox3.below hb4 hbox3.lt
        have hbel4 : Below w.heap.size w w4 := hbel3.trans (hb4.mono hbel3.size)
        clear hb4 hst hbel3 hbox3 hc0 hc1 hf0 hf1
        by_cases hck : ck1 q (q.t + q.s + X, q.v + Y) = 0
        · rw [hck]
          have HCK := Lib.hid hck
          have hin := ck1_zero hck
          have hat := cellsF_at (fillS (out ++ [(q.t + q.s + X, q.v + Y)]) m) j _ (fillS_at out m _ j HO.out)
          have hc0 := hown4.cellAt (j * 2) (by omega)
          have hc1 := hown4.cellAt (j * 2 + 1) (by omega)
          rw [hat.1] at hc0
          rw [hat.2] at hc1
          dsimp only at hc0 hc1
          clear hck hat
          go_wp2_with fail
          refine (chunk_advance q (q.t + q.s + X) (q.v + Y) w.heap.size _ hbox4 hq hin.1 hin.2.1).mono ?_
          rintro e w5 ⟨rfl, hbox5, hgr5⟩
          have hown5 := own_box hown4 hbox4 (by decide) hgr5
          have hbel5 : Below w.heap.size w w5 := below_set hbel4 hgr5 (Nat.le_refl _) hbel4.size
          clear hc0 hc1
          go_wp2_with fail
          refine (chunk_sizeOf X _ (hT.below hbel5 hlt) HSX.out).mono ?_
          rintro e w6 ⟨rfl, hb6⟩
          have hown6 := own_below hown5 hb6
          have hbox6 := hbox5.below hb6 hbox5.lt
          have hbel6 : Below w.heap.size w w6 := hbel5.trans (hb6.mono hbel5.size)
          go_wp2_with fail
          refine (chunk_sizeOf Y _ (hT.below hbel6 hlt) HSY.out).mono ?_
          rintro e w7 ⟨rfl, hb7⟩
          have hown7 := own_below hown6 hb7
          have hbox7 := hbox6.below hb7 hbox6.lt
          have hbel7 : Below w.heap.size w w7 := hbel6.trans (hb7.mono hbel6.size)
          go_wp2
          go_roundw
          case rel =>
            refine ⟨j + 1, a + zsize (zfold X) + zsize (zfold Y), adv q (q.t + q.s + X, q.v + Y), out ++ [(q.t + q.s + X, q.v + Y)], by omega, by go_num, val_int (by omega), by omega, adv_ok hq HCK.out, ?_, ?_, hown7, hbox7, hbel7⟩
            · show _ = _
              rw [List.length_append, HO.out]; rfl
            · show _ = _
              have hd := HD.out
              rw [show m - j = (m - (j + 1)) + 1 by omega, decA_step (by rw [← HZ.out]) (by rw [HN.out]; exact HCK.out), HN.out, ← HZ.out] at hd
              exact hd
          case measure => simp [intOf]; omega
        · obtain ⟨k, hkk⟩ : ∃ k, k = ck1 q (q.t + q.s + X, q.v + Y) := ⟨_, rfl⟩
          have hkb : (k != 0) = true := by rw [hkk]; simp [hck]
          have HCK := Lib.hid hck
          rw [← hkk]
          clear hck hkk
          go_wp2
          go_ret2
          refine ds_bad ?_ hbel4
          have hd := HD.out
          rw [show m - j = (m - (j + 1)) + 1 by omega, decA_form (by rw [← HZ.out]) (by rw [HN.out]; exact HCK.out)] at hd
          rw [HE.out, ← hd]
          exact fin_err (by decide)
      · have hkb : (K != 0) = true := by simp [hK]
        have HK := Lib.hid hK
        clear hK
        go_wp2
        go_ret2
        refine ds_bad ?_ hbel1
        have hd := HD.out
        rw [show m - j = (m - (j + 1)) + 1 by omega, decA_err (by rw [← HZ.out]; exact HK.out), ← HZ.out] at hd
        rw [HE.out, ← hd, fin_err HK.out]
    · obtain rfl : j = m := by omega
      have hd := HD.out
      rw [Nat.sub_self] at hd
      have HDD := Lib.hid (show decA l j 8 st0 [] = (out, a, 0) from hd.symm)
      clear hd
      by_cases he : EndB l a
      · go_wp2_with fail
        refine (chunk_endsAt l _ n c a true _ _ (hb.below hbel) HR.out hn ha (by simp [he])).mono ?_
        rintro e w' ⟨rfl, rfl⟩
        have HF := Lib.hid (show chD l = (out, 0) by rw [HE.out, HDD.out]; exact fin_ok rfl he)
        go_wp2
        go_ret2
        refine ⟨_, ret_two rfl (val_int (by rw [HF.out])), ?_, hbel⟩
        rw [HF.out]
        rw [fillS_full HO.out] at hown
        dsimp only
        rw [HO.out]
        exact hown
      · go_wp2_with fail
        refine (chunk_endsAt l _ n c a false _ _ (hb.below hbel) HR.out hn ha (by simp [he])).mono ?_
        rintro e w' ⟨rfl, rfl⟩
        have HF := Lib.hid (show chD l = ([], 4) by rw [HE.out, HDD.out]; exact fin_form rfl he)
        go_wp2
        go_ret2
        exact ds_bad HF.out hbel
end Go.Proofs.YtekojlepmfmmpaaDoor
