/- A file of at most so many records. No statement of the seat is proved here; no condition. -/
import Derived.Test.YtpgjjndmbkkhiaaFile3
import Derived.Test.YtpgjjndmbkkhiaaOpenL
set_option linter.unusedSimpArgs false
set_option linter.unusedVariables false
namespace Go.Proofs.Ytpgjjndmbkkhiaa
open Go.RowKit Go.Ord Go.Baro

/-- At most so many lists, of at most a hundred bytes each. -/
def trim (ls : List (List Int)) (k : Nat) : List (List Int) := (ls.take k).map fun l => l.take 100
theorem trim_next {ls : List (List Int)} {j : Nat} {l : List Int} (h : ls[j]? = some l) : trim ls (j + 1) = trim ls j ++ [l.take 100] := by
  unfold trim; rw [at_take h]; simp
theorem trim_all {ls : List (List Int)} (k : Nat) (h : ∀ l ∈ ls, ∀ y ∈ l, 0 ≤ y ∧ y < 256) : ∀ l ∈ trim ls k, l.length ≤ 100 ∧ ∀ y ∈ l, 0 ≤ y ∧ y < 256 := by
  intro l hl
  obtain ⟨l', hl', rfl⟩ := List.mem_map.1 hl
  exact ⟨by simp; omega, fun y hy => h l' (List.mem_of_mem_take hl') y (List.mem_of_mem_take hy)⟩
theorem trim_length (ls : List (List Int)) (k : Nat) : (trim ls k).length = min k ls.length := by simp [trim]
theorem trim_full {ls : List (List Int)} {j k : Nat} (h : ls.length ≤ j) (hk : j ≤ k) : trim ls j = trim ls k := by
  unfold trim; rw [List.take_of_length_le h, List.take_of_length_le (by omega)]
theorem flL_snoc (rs : List (List Int)) (l : List Int) : flL (rs ++ [l]) = flL rs ++ rcL l := by rw [flL_append]; simp [flL]

/-- What FileOf returns. -/
def FoPost (rs : List (List Int)) (B : Nat) (w : World) (e : Ending) (w' : World) : Prop := ∃ V M k1 A N k2 cs, e = .returned (.tuple #[.slice V M k1, .slice A N k2, .bool true]) ∧
  w'.ownsRow B 5 1 (.slice V M k1) M ((flL rs).map (Value.int .u8)) ∧ w'.ownsRow B 22 1 (.slice A N k2) N cs ∧ OBs 5 w' B (Value.slice V M k1).ownBlock cs rs ∧ Below B w w'

set_option maxRecDepth 100000 in
set_option maxHeartbeats 1000000 in
theorem keep_FileOf (ls : List (List Int)) (A : Option Addr) (n c lim : Nat) (w : World) (hb : RL w w.heap.size A n ls) (hr : ∀ l ∈ ls, l.length ≤ 9223372036854775807 ∧ ∀ y ∈ l, 0 ≤ y ∧ y < 256) (hn : n ≤ 140737488355328) (hlim : lim ≤ 100) :
    Calls Try.prog 15 #[.slice A n c, .int .i64 lim] w (FoPost (trim ls lim) w.heap.size w) := by
  have HL := Lib.hid hb.len
  have HR := Lib.hid hr
  clear hr
  go_enter Try.func15, Try.ntmps15
  go_wp2
  go_loopw [7, 8, 9] (fun a b i wr => ∃ V M k1 A2 k2 cs, ∃ j : Nat, a = .slice V M k1 ∧ b = .slice A2 j k2 ∧ i = .int .i64 j ∧ j ≤ n ∧ j ≤ lim ∧ M ≤ j * 106 ∧
      wr.ownsRow w.heap.size 5 1 (.slice V M k1) M ((flL (trim ls j)).map (Value.int .u8)) ∧ wr.ownsRow w.heap.size 22 1 (.slice A2 j k2) j cs ∧ OBs 5 wr w.heap.size (Value.slice V M k1).ownBlock cs (trim ls j) ∧ Below w.heap.size w wr) (fun _ _ i _ => n - (intOf i).toNat)
  case atStart => exact ⟨none, 0, 0, none, 0, [], 0, rfl, rfl, rfl, by omega, by omega, by omega, World.ownsRow_nil _ _ _ _, World.ownsRow_nil _ _ _ _, OBs.nil _ _ _ _, Below.refl _ _⟩
  case round =>
    obtain ⟨V, M, k1, A2, k2, cs, j, rfl, rfl, rfl, hj, hjl, hM, hown, hrow, hobs, hbel⟩ := hrel
    by_cases hlt : j < n
    · by_cases hlt2 : j < lim
      · obtain ⟨b, o, A', n', c', l, rfl, _, hcell, hc', hr', HX, hmem⟩ := (hb.below hbel).val hlt
        have hrl := HR.out l hmem
        rw [hr'.len] at hrl
        obtain ⟨hn', hrb⟩ := hrl
        have HRB : Hid (∀ y ∈ l.take 100, 0 ≤ y ∧ y < 256) := Lib.hid (fun y hy => hrb y (List.mem_of_mem_take hy))
        have HN := Lib.hid (trim_next HX.out)
        clear hrb
        go_wp2_with fail
        refine (keep_OctetsW l A' n' c' 100 _ (hr'.more hbel.size) hn' hc' (by omega)).mono ?_
        rintro e w1 ⟨v1, N1, rfl, hv1, hN1, hb1⟩
        have hN1' : N1 ≤ 100 := by omega
        have HN1 : Hid ((l.take 100).length = N1) := Lib.hid (own_len hv1).symm
        clear hN1 hr'
        obtain ⟨B1, c1, rfl, hc1⟩ := own_form hv1
        go_wp2_with fail
        refine (file_Record (l.take 100) _ _ _ _ (Rd.of_own hv1) HRB.out (by omega)).mono ?_
        rintro e w2 ⟨v2, N2, rfl, hv2, hb2⟩
        have HC := rc_in (l := l.take 100) (by rw [HN1.out]; omega)
        rw [HC.1] at hv2
        rw [HC.2]
        clear HC
        obtain rfl : N2 = 6 + N1 := by rw [own_len hv2, rcL_length, HN1.out]
        obtain ⟨B2, c2, rfl, _⟩ := own_form hv2
        have hb12 : Below wr.heap.size wr w2 := hb1.trans (hb2.mono hb1.size)
        have hown2 := own_below hown hb12
        have hrow2 := own_below hrow hb12
        have hobs2 := hobs.below hb12
        have hv1b := own_below hv1 hb2
        have hap := own_later hv1b hown (Nat.le_refl _)
        have hbel2 : Below w.heap.size w w2 := hbel.trans (hb12.mono hbel.size)
        have hsz := hbel.size
        have hob2 : OB 5 w2 w.heap.size (Value.slice V M k1).ownBlock (.slice B1 N1 c1) (l.take 100) := ⟨N1, own_more hv1b hsz, hap⟩
        clear hown hrow hobs hbel hb1 hb2 hv1 hap hv1b
        go_wp2_with (first
          | (at_builtin; refine app_srcB eltOct w2 rfl (.tmp 44) (.tmp 45) rfl w.heap.size _ _ _ rfl (by exact hown2) _ _ _ ((rcL (l.take 100)).map (Value.int .u8)) (by rfl) _ (by exact Rd.of_own hv2) (one_ints _ _) (by omega) (by omega) hbel2.size ?_; intro v3 w3 hv3' hgr3 hbel3 hsz3 hblk3; obtain ⟨M3, hv3, hM3⟩ := own_count hv3'; clear hv3'; obtain ⟨V3, k3, rfl, _⟩ := own_form hv3; have hrow3 := own_keep hrow2 hown2 (by decide) hgr3; have hobs3 := hobs2.grow hgr3 hblk3; have hob3 := hob2.grow hgr3 hblk3; have hbelB := hbel3 w hbel2)
          | (at_builtin; refine app_lit eltLst w3 rfl (.tmp 47) (.tmp 49) rfl w.heap.size _ _ _ rfl (by exact hrow3) 1 [_] _ rfl rfl rfl (oneS _ _ _) (by omega) (by omega) hsz3 ?_; intro v4 w4 hv4 hgr4 hbel4 hsz4; obtain ⟨A4, k4, rfl, _⟩ := own_form hv4))
        subst hM3
        have hg4 := own_keep (hv3.alloc _) (hrow3.alloc _) (by decide) hgr4
        refine ⟨⟨V3, M + (6 + N1), k3, A4, k4, _, j + 1, rfl, rfl, by go_num, by omega, by omega, by omega, ?_, hv4, ?_, hbel4 w hbelB⟩, by simp [intOf]; omega⟩
        · rw [HN.out, flL_snoc, List.map_append]
          exact hg4
        · rw [HN.out]
          exact OBs.snoc ((hobs3.below (below_alloc _)).other (hrow3.alloc _) (by decide) hgr4) ((hob3.below (below_alloc _)).other (hrow3.alloc _) (by decide) hgr4)
      · obtain rfl : j = lim := by omega
        go_wp2
        go_ret3
        exact ⟨V, M, k1, A2, j, k2, cs, rfl, hown, hrow, hobs, hbel⟩
    · have HF : Hid (trim ls j = trim ls lim) := Lib.hid (trim_full (by rw [HL.out]; omega) hjl)
      go_wp2
      go_ret3
      refine ⟨V, M, k1, A2, j, k2, cs, rfl, ?_, hrow, ?_, hbel⟩
      · rw [← HF.out]; exact hown
      · rw [← HF.out]; exact hobs
theorem trim_ok {ls : List (List Int)} (k : Nat) (h : ∀ l ∈ ls, l.length ≤ 9223372036854775807 ∧ ∀ y ∈ l, 0 ≤ y ∧ y < 256) :
    (∀ l ∈ trim ls k, l.length ≤ 100) ∧ (∀ l ∈ trim ls k, l.length ≤ 4000) ∧ (∀ x ∈ flL (trim ls k), 0 ≤ x ∧ x < 256) ∧ (trim ls k).length ≤ k ∧ (flL (trim ls k)).length ≤ (trim ls k).length * 106 := by
  have h1 := trim_all k (fun l hl => (h l hl).2)
  exact ⟨fun l hl => (h1 l hl).1, fun l hl => by have := (h1 l hl).1; omega, flL_range fun l hl => (h1 l hl).2, by rw [trim_length]; omega, flL_length_le fun l hl => (h1 l hl).1⟩
theorem row_len {w : World} {base : Nat} {e T : TypeId} {v : Value} {n b' : Nat} {x : Option Nat} {cs : List Value} {ls : List (List Int)} (h : w.ownsRow base e 1 v n cs) (ho : OBs T w b' x cs ls) : ls.length = n := by
  have h1 := h.1; have h2 := ho.1; omega
end Go.Proofs.Ytpgjjndmbkkhiaa
