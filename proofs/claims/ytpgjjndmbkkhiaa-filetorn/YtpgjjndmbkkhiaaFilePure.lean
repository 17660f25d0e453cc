/- What a record file is, in lists of numbers. No statement of the seat is proved here; no condition. -/
import Derived.Test.YtpgjjndmbkkhiaaAdlerPure
set_option linter.unusedSimpArgs false
set_option linter.unusedVariables false
namespace Go.Proofs.Ytpgjjndmbkkhiaa
open Go.Baro

/-- A number in so many bytes, the great ones first. -/
def beL : Nat → Int → List Int
  | 0, _ => []
  | k + 1, n => (n / 2 ^ (8 * k) % 256) :: beL k n
theorem beL_length (k : Nat) (n : Int) : (beL k n).length = k := by
  induction k with
  | zero => rfl
  | succ k ih => simp [beL, ih]
def nmL (l : List Int) : Int := l.foldl (fun n c => n * 256 + c) 0
theorem nmL_take {l : List Int} {i : Nat} {x : Int} (h : l[i]? = some x) : nmL (l.take (i + 1)) = nmL (l.take i) * 256 + x := by
  rw [at_take h]; unfold nmL; rw [List.foldl_append]; rfl
theorem nmL_range (l : List Int) (h : ∀ x ∈ l, 0 ≤ x ∧ x < 256) : 0 ≤ nmL l ∧ nmL l < 256 ^ l.length := by
  have key : ∀ (l : List Int) (a : Int) (m : Nat), (∀ x ∈ l, 0 ≤ x ∧ x < 256) → 0 ≤ a → a < 256 ^ m → 0 ≤ l.foldl (fun n c => n * 256 + c) a ∧ l.foldl (fun n c => n * 256 + c) a < 256 ^ (m + l.length) := by
    intro l
    induction l with
    | nil => intro a m _ h0 h1; exact ⟨h0, by simpa using h1⟩
    | cons c l ih =>
      intro a m hx h0 h1
      have hc := hx c (by simp)
      have h2 := ih (a * 256 + c) (m + 1) (fun x hx' => hx x (by simp [hx'])) (by omega) (by rw [Int.pow_succ]; omega)
      rw [List.foldl_cons, List.length_cons, show m + (l.length + 1) = m + 1 + l.length by omega]
      exact h2
  have := key l 0 0 h (Int.le_refl _) (by decide)
  rw [Nat.zero_add] at this
  exact this

/-- What stands ahead of a body, and a record. -/
def hdL (n s : Int) : List Int := [n / 256 % 256, n % 256, s / 16777216 % 256, s / 65536 % 256, s / 256 % 256, s % 256]
def rcL (l : List Int) : List Int := hdL l.length (adO l) ++ l
def rcR (l : List Int) : List Int := if l.length ≤ 4000 then rcL l else []
def rcC (l : List Int) : Int := if l.length ≤ 4000 then 0 else 1
theorem hdL_be (n s : Int) : beL 2 n ++ beL 4 s = hdL n s := by
  simp [beL, hdL]
theorem hdL_range (n s : Int) : ∀ x ∈ hdL n s, 0 ≤ x ∧ x < 256 := by
  intro x hx
  simp only [hdL, List.mem_cons, List.not_mem_nil, or_false] at hx
  omega
theorem rcL_length (l : List Int) : (rcL l).length = 6 + l.length := by simp [rcL, hdL]; omega
theorem rcL_range {l : List Int} (h : ∀ x ∈ l, 0 ≤ x ∧ x < 256) : ∀ x ∈ rcL l, 0 ≤ x ∧ x < 256 := by
  intro x hx
  rcases List.mem_append.1 hx with hx | hx
  · exact hdL_range _ _ x hx
  · exact h x hx

/-- What a file begins with: 0 a record, else what is wrong; the length of its body; its body. -/
def fc : List Int → Int
  | a :: b :: c :: d :: e :: g :: t => if 256 * a + b > 4000 then 1 else if (t.length : Int) < 256 * a + b then 5 else if adO (t.take (256 * a + b).toNat) = ((c * 256 + d) * 256 + e) * 256 + g then 0 else 10
  | _ => 5
def ln : List Int → Nat
  | a :: b :: _ => (256 * a + b).toNat
  | _ => 0
def bd (f : List Int) : List Int := (f.drop 6).take (ln f)
def opn : Nat → List Int → List (List Int) × Nat × Int
  | 0, f => ([], 0, if f = [] then 0 else 8)
  | k + 1, f => if f = [] then ([], 0, 0) else if fc f = 0 then (bd f :: (opn k (f.drop (6 + ln f))).1, 6 + ln f + (opn k (f.drop (6 + ln f))).2.1, (opn k (f.drop (6 + ln f))).2.2) else ([], 0, fc f)

theorem fc_short {f : List Int} (h : f.length < 6) : fc f = 5 := by
  match f, h with
  | [], _ => rfl
  | [_], _ => rfl
  | [_, _], _ => rfl
  | [_, _, _], _ => rfl
  | [_, _, _, _], _ => rfl
  | [_, _, _, _, _], _ => rfl
  | _ :: _ :: _ :: _ :: _ :: _ :: t, h => simp at h; omega
theorem six {f : List Int} (h : 6 ≤ f.length) : ∃ a b c d e g t, f = a :: b :: c :: d :: e :: g :: t := by
  match f, h with
  | a :: b :: c :: d :: e :: g :: t, _ => exact ⟨a, b, c, d, e, g, t, rfl⟩
theorem fc_ok {f : List Int} (h : fc f = 0) : 6 + ln f ≤ f.length ∧ ln f ≤ 4000 ∧ (bd f).length = ln f := by
  by_cases h6 : f.length < 6
  · rw [fc_short h6] at h; cases h
  · obtain ⟨a, b, c, d, e, g, t, rfl⟩ := six (f := f) (by omega)
    simp only [fc] at h
    split at h
    · cases h
    · split at h
      · cases h
      · simp only [ln, bd, List.length_cons, List.drop_succ_cons, List.drop_zero, List.length_take]
        omega
theorem opn_nil (k : Nat) : opn k [] = ([], 0, 0) := by cases k <;> rfl
theorem opn_full {f : List Int} (h : f ≠ []) : opn 0 f = ([], 0, 8) := by simp [opn, h]
theorem opn_bad {f : List Int} (k : Nat) (h : f ≠ []) (hc : fc f ≠ 0) : opn (k + 1) f = ([], 0, fc f) := by simp [opn, h, hc]
theorem opn_next {f : List Int} (k : Nat) (hc : fc f = 0) : opn (k + 1) f = (bd f :: (opn k (f.drop (6 + ln f))).1, 6 + ln f + (opn k (f.drop (6 + ln f))).2.1, (opn k (f.drop (6 + ln f))).2.2) := by
  have h : f ≠ [] := by rintro rfl; cases hc
  simp [opn, h, hc]
theorem opn_all (k : Nat) : ∀ (f : List Int), ∀ l ∈ (opn k f).1, l.length ≤ 4000 := by
  induction k with
  | zero => intro f l hl; simp [opn] at hl
  | succ k ih =>
    intro f l hl
    unfold opn at hl
    split at hl
    · simp at hl
    · split at hl
      · rename_i hc
        rcases List.mem_cons.1 hl with rfl | hl
        · have := fc_ok hc; omega
        · exact ih _ l hl
      · simp at hl
theorem opn_few (k : Nat) : ∀ (f : List Int), (opn k f).1.length ≤ k ∧ (opn k f).2.1 ≤ f.length := by
  induction k with
  | zero => intro f; simp [opn]
  | succ k ih =>
    intro f
    unfold opn
    split
    · simp
    · split
      · rename_i hc
        have := ih (f.drop (6 + ln f))
        have h2 := fc_ok hc
        simp only [List.length_cons, List.length_drop] at *
        omega
      · simp

/-- So far so many records have been read. -/
def Mid (f : List Int) (i p : Nat) (done : List (List Int)) : Prop := done.length = i ∧ i ≤ 200 ∧ p ≤ f.length ∧
  opn 200 f = (done ++ (opn (200 - i) (f.drop p)).1, p + (opn (200 - i) (f.drop p)).2.1, (opn (200 - i) (f.drop p)).2.2)
theorem Mid.start (f : List Int) : Mid f 0 0 [] := ⟨rfl, by omega, by omega, by simp⟩
theorem Mid.next {f : List Int} {i p : Nat} {done : List (List Int)} (h : Mid f i p done) (hi : i < 200) (hc : fc (f.drop p) = 0) : Mid f (i + 1) (p + (6 + ln (f.drop p))) (done ++ [bd (f.drop p)]) := by
  obtain ⟨h1, h2, h3, h4⟩ := h
  have h5 := fc_ok hc
  simp only [List.length_drop] at h5
  refine ⟨by simp [h1], by omega, by omega, ?_⟩
  rw [show 200 - i = (200 - (i + 1)) + 1 by omega, opn_next _ hc, List.drop_drop] at h4
  rw [h4]
  simp only [List.append_assoc, List.singleton_append, Prod.mk.injEq, true_and, and_true]
  omega
theorem Mid.ended {f : List Int} {i p : Nat} {done : List (List Int)} (h : Mid f i p done) (hp : p = f.length) : opn 200 f = (done, p, 0) := by
  have h4 := h.2.2.2
  rw [hp, List.drop_length, opn_nil] at h4
  rw [h4, hp]; simp
theorem Mid.full {f : List Int} {p : Nat} {done : List (List Int)} (h : Mid f 200 p done) (hp : p < f.length) : opn 200 f = (done, p, 8) := by
  have h4 := h.2.2.2
  have hne : f.drop p ≠ [] := by intro he; have := congrArg List.length he; simp at this; omega
  rw [Nat.sub_self, opn_full hne] at h4
  rw [h4]; simp
theorem Mid.fault {f : List Int} {i p : Nat} {done : List (List Int)} (h : Mid f i p done) (hi : i < 200) (hp : p < f.length) (hc : fc (f.drop p) ≠ 0) : opn 200 f = (done, p, fc (f.drop p)) := by
  have h4 := h.2.2.2
  have hne : f.drop p ≠ [] := by intro he; have := congrArg List.length he; simp at this; omega
  rw [show 200 - i = (200 - (i + 1)) + 1 by omega, opn_bad _ hne hc] at h4
  rw [h4]; simp

/-- The four bytes of a sum. -/
theorem sum4 {s c d e g : Int} (hs : 0 ≤ s ∧ s < 4294967296) (hc : 0 ≤ c ∧ c < 256) (hd : 0 ≤ d ∧ d < 256) (he : 0 ≤ e ∧ e < 256) (hg : 0 ≤ g ∧ g < 256) :
    s = ((c * 256 + d) * 256 + e) * 256 + g ↔ s / 16777216 % 256 = c ∧ s / 65536 % 256 = d ∧ s / 256 % 256 = e ∧ s % 256 = g := by omega
/-- A record, held against what it would be. -/
theorem rc_is {a b c d e g : Int} {t : List Int} {n : Nat} (ha : 0 ≤ a ∧ a < 256) (hb : 0 ≤ b ∧ b < 256) (hc : 0 ≤ c ∧ c < 256) (hd : 0 ≤ d ∧ d < 256) (he : 0 ≤ e ∧ e < 256) (hg : 0 ≤ g ∧ g < 256)
    (hn : (n : Int) = 256 * a + b) (ht : n ≤ t.length) : rcL (t.take n) = a :: b :: c :: d :: e :: g :: t.take n ↔ adO (t.take n) = ((c * 256 + d) * 256 + e) * 256 + g := by
  have hs := adO_range (t.take n)
  rw [sum4 hs hc hd he hg]
  simp only [rcL, hdL, List.length_take, Nat.min_eq_left ht, List.cons_append, List.nil_append, List.cons.injEq, and_true]
  constructor
  · rintro ⟨_, _, h⟩; exact h
  · intro h; exact ⟨by omega, by omega, h⟩
theorem fc_rec (l g : List Int) (hl : l.length ≤ 4000) : fc (rcL l ++ g) = 0 ∧ ln (rcL l ++ g) = l.length ∧ bd (rcL l ++ g) = l ∧ (rcL l ++ g).drop (6 + l.length) = g := by
  have hs := adO_range l
  have e1 : rcL l ++ g = ((l.length : Int) / 256 % 256) :: ((l.length : Int) % 256) :: (adO l / 16777216 % 256) :: (adO l / 65536 % 256) :: (adO l / 256 % 256) :: (adO l % 256) :: (l ++ g) := by simp [rcL, hdL]
  have e2 : (256 * ((l.length : Int) / 256 % 256) + (l.length : Int) % 256) = l.length := by omega
  have e3 : (l ++ g).take l.length = l := by simp
  rw [e1]
  refine ⟨?_, ?_, ?_, ?_⟩
  · simp only [fc]
    rw [e2, Int.toNat_natCast, e3, if_neg (by omega), if_neg (by simp; omega), if_pos]
    omega
  · simp only [ln]; rw [e2, Int.toNat_natCast]
  · simp only [bd, ln]; rw [e2, Int.toNat_natCast]; simp
  · rw [Nat.add_comm]; simp [← List.drop_drop]

/-- The records of a file. -/
def flL (rs : List (List Int)) : List Int := rs.flatMap rcL
theorem flL_nil : flL [] = [] := rfl
theorem flL_cons (l : List Int) (rs : List (List Int)) : flL (l :: rs) = rcL l ++ flL rs := rfl
theorem flL_append (a b : List (List Int)) : flL (a ++ b) = flL a ++ flL b := by simp [flL]
theorem flL_range {rs : List (List Int)} (h : ∀ l ∈ rs, ∀ x ∈ l, 0 ≤ x ∧ x < 256) : ∀ x ∈ flL rs, 0 ≤ x ∧ x < 256 := by
  intro x hx
  obtain ⟨l, hl, hx⟩ := List.mem_flatMap.1 hx
  exact rcL_range (h l hl) x hx
theorem flL_length_le {rs : List (List Int)} {m : Nat} (h : ∀ l ∈ rs, l.length ≤ m) : (flL rs).length ≤ rs.length * (6 + m) := by
  induction rs with
  | nil => simp [flL]
  | cons l rs ih =>
    have h1 := ih fun l' hl => h l' (by simp [hl])
    have h2 := h l (by simp)
    rw [flL_cons, List.length_append, rcL_length, List.length_cons, Nat.add_mul]
    omega
theorem opn_pre (rs : List (List Int)) (h : ∀ l ∈ rs, l.length ≤ 4000) : ∀ (k : Nat) (q : List Int), rs.length ≤ k →
    opn k (flL rs ++ q) = (rs ++ (opn (k - rs.length) q).1, (flL rs).length + (opn (k - rs.length) q).2.1, (opn (k - rs.length) q).2.2) := by
  induction rs with
  | nil => intro k q _; simp [flL]
  | cons l rs ih =>
    intro k q hk
    simp only [List.length_cons] at hk
    obtain ⟨k, rfl⟩ : ∃ j, k = j + 1 := ⟨k - 1, by omega⟩
    have h1 := ih (fun l' hl => h l' (by simp [hl])) k q (by omega)
    obtain ⟨f1, f2, f3, f4⟩ := fc_rec l (flL rs ++ q) (h l (by simp))
    rw [flL_cons, List.append_assoc, opn_next _ f1, f2, f3, f4, h1, List.length_cons, show k + 1 - (rs.length + 1) = k - rs.length by omega, List.length_append, rcL_length]
    simp only [List.cons_append, Prod.mk.injEq, true_and, and_true]
    omega
theorem opn_fl (rs : List (List Int)) (h : ∀ l ∈ rs, l.length ≤ 4000) (hk : rs.length ≤ 200) : opn 200 (flL rs) = (rs, (flL rs).length, 0) := by
  have := opn_pre rs h 200 [] hk
  rw [List.append_nil, opn_nil] at this
  rw [this]; simp

/-- How many records are whole within the first n bytes, and how long they are together. -/
def whl : List (List Int) → Nat → Nat × Nat
  | [], _ => (0, 0)
  | l :: rs, n => if 6 + l.length ≤ n then ((whl rs (n - (6 + l.length))).1 + 1, (whl rs (n - (6 + l.length))).2 + (6 + l.length)) else (0, 0)
theorem whl_le (rs : List (List Int)) : ∀ (n : Nat), (whl rs n).2 ≤ n ∧ (whl rs n).1 ≤ rs.length := by
  induction rs with
  | nil => intro n; simp [whl]
  | cons l rs ih =>
    intro n
    simp only [whl]
    have := ih (n - (6 + l.length))
    split <;> simp <;> omega
theorem fc_torn (l : List Int) (q : List Int) (n : Nat) (hl : l.length ≤ 4000) (h0 : 0 < n) (hn : n < 6 + l.length) : fc ((rcL l ++ q).take n) = 5 := by
  by_cases h6 : n < 6
  · exact fc_short (by simp; omega)
  · have e1 : (rcL l ++ q).take n = ((l.length : Int) / 256 % 256) :: ((l.length : Int) % 256) :: (adO l / 16777216 % 256) :: (adO l / 65536 % 256) :: (adO l / 256 % 256) :: (adO l % 256) :: ((l ++ q).take (n - 6)) := by
      obtain ⟨m, rfl⟩ : ∃ m, n = m + 6 := ⟨n - 6, by omega⟩
      simp [rcL, hdL]
    have e2 : (256 * ((l.length : Int) / 256 % 256) + (l.length : Int) % 256) = l.length := by omega
    rw [e1]
    simp only [fc]
    rw [e2, if_neg (by omega), if_pos]
    simp only [List.length_take, List.length_append]
    omega
def trC (p n : Nat) : Int := if p = n then 0 else 5
theorem whl_in {l : List Int} {n : Nat} (rs : List (List Int)) (h : 6 + l.length ≤ n) : whl (l :: rs) n = ((whl rs (n - (6 + l.length))).1 + 1, (whl rs (n - (6 + l.length))).2 + (6 + l.length)) := by simp [whl, h]
theorem whl_out {l : List Int} {n : Nat} (rs : List (List Int)) (h : ¬ 6 + l.length ≤ n) : whl (l :: rs) n = (0, 0) := by simp [whl, h]
theorem opn_torn (rs : List (List Int)) (h : ∀ l ∈ rs, l.length ≤ 4000) : ∀ (k n : Nat), rs.length ≤ k → n ≤ (flL rs).length →
    opn k ((flL rs).take n) = (rs.take (whl rs n).1, (whl rs n).2, trC (whl rs n).2 n) := by
  induction rs with
  | nil => intro k n hk hn; simp [flL] at hn; subst hn; simp [flL, whl, opn_nil, trC]
  | cons l rs ih =>
    intro k n hk hn
    simp only [List.length_cons] at hk
    obtain ⟨k, rfl⟩ : ∃ j, k = j + 1 := ⟨k - 1, by omega⟩
    rw [flL_cons, List.length_append, rcL_length] at hn
    rw [flL_cons]
    by_cases hw : 6 + l.length ≤ n
    · have h1 := ih (fun l' hl => h l' (by simp [hl])) k (n - (6 + l.length)) (by omega) (by omega)
      rw [List.take_append, List.take_of_length_le (by rw [rcL_length]; exact hw), rcL_length]
      obtain ⟨f1, f2, f3, f4⟩ := fc_rec l ((flL rs).take (n - (6 + l.length))) (h l (by simp))
      rw [opn_next _ f1, f2, f3, f4, h1, whl_in rs hw]
      have := whl_le rs (n - (6 + l.length))
      simp only [List.take_succ_cons, Prod.mk.injEq, true_and]
      refine ⟨by omega, ?_⟩
      unfold trC
      split <;> split <;> first | rfl | omega
    · rw [whl_out rs hw]
      rcases Nat.eq_zero_or_pos n with h0 | h0
      · subst h0; simp [opn_nil, trC]
      · have hc := fc_torn l (flL rs) n (h l (by simp)) h0 (by omega)
        have hne : (rcL l ++ flL rs).take n ≠ [] := by
          intro he
          have := congrArg List.length he
          rw [List.length_take, List.length_append, rcL_length] at this
          simp at this
          omega
        rw [opn_bad k hne (by rw [hc]; decide), hc]
        simp [trC]
        omega
/-- Whole so far. -/
def Whl (rs : List (List Int)) (n i p : Nat) : Prop := p ≤ n ∧ i ≤ rs.length ∧ whl rs n = (i + (whl (rs.drop i) (n - p)).1, p + (whl (rs.drop i) (n - p)).2)
theorem Whl.start (rs : List (List Int)) (n : Nat) : Whl rs n 0 0 := ⟨by omega, by omega, by simp⟩
theorem Whl.next {rs : List (List Int)} {n i p : Nat} {l : List Int} (h : Whl rs n i p) (hl : rs[i]? = some l) (hw : p + (6 + l.length) ≤ n) : Whl rs n (i + 1) (p + (6 + l.length)) := by
  obtain ⟨h1, h2, h3⟩ := h
  have hi := (List.getElem?_eq_some_iff.1 hl).1
  refine ⟨hw, by omega, ?_⟩
  rw [at_drop hl] at h3
  simp only [whl] at h3
  rw [if_pos (by omega)] at h3
  rw [h3, show n - p - (6 + l.length) = n - (p + (6 + l.length)) by omega]
  simp only [Prod.mk.injEq]
  omega
theorem Whl.stop {rs : List (List Int)} {n i p : Nat} {l : List Int} (h : Whl rs n i p) (hl : rs[i]? = some l) (hw : n < p + (6 + l.length)) : whl rs n = (i, p) := by
  obtain ⟨h1, h2, h3⟩ := h
  rw [at_drop hl] at h3
  simp only [whl] at h3
  rw [if_neg (by omega)] at h3
  rw [h3]; rfl
theorem Whl.ended {rs : List (List Int)} {n i p : Nat} (h : Whl rs n i p) (hi : i = rs.length) : whl rs n = (i, p) := by
  obtain ⟨h1, h2, h3⟩ := h
  rw [hi, List.drop_length] at h3
  rw [h3, hi]; rfl
/-- A body that is not the one that was summed. -/
theorem fc_sees (l l' q : List Int) (hl : l.length ≤ 4000) (he : l'.length = l.length) (hs : adO l' ≠ adO l) : fc (hdL l.length (adO l) ++ l' ++ q) = 10 := by
  have hr := adO_range l
  have e1 : hdL l.length (adO l) ++ l' ++ q = ((l.length : Int) / 256 % 256) :: ((l.length : Int) % 256) :: (adO l / 16777216 % 256) :: (adO l / 65536 % 256) :: (adO l / 256 % 256) :: (adO l % 256) :: (l' ++ q) := by simp [hdL]
  have e2 : (256 * ((l.length : Int) / 256 % 256) + (l.length : Int) % 256) = l.length := by omega
  have e3 : (l' ++ q).take l.length = l' := by rw [← he]; simp
  rw [e1]
  simp only [fc]
  rw [e2, Int.toNat_natCast, e3, if_neg (by omega), if_neg (by simp; omega), if_neg]
  intro h
  apply hs
  omega
theorem opn_sees (rs : List (List Int)) (h : ∀ l ∈ rs, l.length ≤ 4000) (hk : rs.length < 200) (l l' q : List Int) (hl : l.length ≤ 4000) (he : l'.length = l.length) (hs : adO l' ≠ adO l) :
    opn 200 (flL rs ++ (hdL l.length (adO l) ++ l' ++ q)) = (rs, (flL rs).length, 10) := by
  have hc := fc_sees l l' q hl he hs
  have hne : hdL l.length (adO l) ++ l' ++ q ≠ [] := by simp [hdL]
  rw [opn_pre rs h 200 _ (by omega), show 200 - rs.length = (200 - rs.length - 1) + 1 by omega, opn_bad _ hne (by rw [hc]; decide), hc]
  simp
end Go.Proofs.Ytpgjjndmbkkhiaa
