/- DERIVED. The plain mathematics of layer 1, second part: there and back; numbers in the order of their digits. -/
import Derived.Test.YtdegkfnlafgheaaDoorNumMath
import GoSem.Op.String
namespace Go.Proofs.YtdegkfnlafgheaaDoor.NumM
set_option linter.unusedVariables false

theorem digs_cons (b : Nat) (hb : 2 ≤ b) (hb' : b ≤ 16) (n : Nat) (hn : n < 2 ^ 64) : ∃ i t, i < b ∧ digs b n = sig i :: t := by
  have h := digs_all b hb hb' n hn
  have hne := digs_ne b n
  cases e : digs b n with
  | nil => exact absurd e hne
  | cons c t =>
    obtain ⟨i, hi, rfl⟩ := h c (by rw [e]; simp)
    exact ⟨i, t, hi, rfl⟩
theorem sig_no : ∀ i, i < 16 → sig i ≠ 45 ∧ sig i ≠ 43 ∧ sig i ≠ 120 ∧ sig i ≠ 88 := by decide
theorem sig_nought : ∀ i, i < 16 → 0 < i → sig i ≠ 48 := by decide
theorem hd_digs (b : Nat) (hb : 2 ≤ b) (hb' : b ≤ 16) (n : Nat) (hn : n < 2 ^ 64) : hd 45 (digs b n) = false ∧ hd 43 (digs b n) = false ∧ hd 120 (digs b n) = false ∧ hd 88 (digs b n) = false := by
  obtain ⟨i, t, hi, e⟩ := digs_cons b hb hb' n hn
  obtain ⟨h1, h2, h3, h4⟩ := sig_no i (by omega)
  rw [e]
  unfold hd
  simp [h1, h2, h3, h4]

theorem dec_text (n : Int) (h0 : -9223372036854775808 ≤ n) (h1 : n ≤ 9223372036854775807) : decN (textL n) = n ∧ decE (textL n) = 0 := by
  have hn : n.natAbs < 2 ^ 64 := by omega
  by_cases h : n < 0
  · have e : textL n = 45 :: digs 10 n.natAbs := by unfold textL; rw [if_pos h]
    obtain ⟨r1, r2⟩ := read_digs 10 (by omega) (by omega) P63 n.natAbs hn (by unfold P63; omega)
    unfold decN decE
    rw [e]
    have hh : hd 45 (45 :: digs 10 n.natAbs) = true := rfl
    rw [if_pos hh, if_pos hh, List.tail_cons, r1, r2]
    exact ⟨by omega, rfl⟩
  · have e : textL n = digs 10 n.natAbs := by unfold textL; rw [if_neg h]
    obtain ⟨r1, r2⟩ := read_digs 10 (by omega) (by omega) M63 n.natAbs hn (by unfold M63; omega)
    obtain ⟨h2, h3, _, _⟩ := hd_digs 10 (by omega) (by omega) n.natAbs hn
    unfold decN decE
    rw [e, h2, h3]
    simp only [Bool.false_eq_true, if_false]
    rw [r1, r2]
    exact ⟨by omega, rfl⟩
theorem con_text (n : Int) (h0 : 0 ≤ n) (h1 : n ≤ 9223372036854775807) : (conN (textL n) : Int) = n ∧ conE (textL n) = 0 := by
  have hn : n.natAbs < 2 ^ 64 := by omega
  have e : textL n = digs 10 n.natAbs := by unfold textL; rw [if_neg (by omega)]
  obtain ⟨r1, r2⟩ := read_digs 10 (by omega) (by omega) M63 n.natAbs hn (by unfold M63; omega)
  have hc : (hd 48 (digs 10 n.natAbs) && !(digs 10 n.natAbs).tail.isEmpty) = false := by
    rcases Nat.eq_zero_or_pos n.natAbs with hz | hz
    · rw [hz]; decide
    · obtain ⟨i, t, h2, h3, e2⟩ := digs_head 10 (by omega) (by omega) n.natAbs hz hn
      have := sig_nought i (by omega) h2
      rw [e2]; unfold hd; simp [this]
  unfold conN conE
  rw [e, hc]
  simp only [Bool.false_eq_true, if_false]
  rw [r1, r2]
  exact ⟨by omega, rfl⟩
theorem con_oct (n : Nat) (h1 : n ≤ M63) : conN (48 :: digs 8 n) = n ∧ conE (48 :: digs 8 n) = 0 := by
  have hn : n < 2 ^ 64 := by unfold M63 at h1; omega
  obtain ⟨r1, r2⟩ := read_digs 8 (by omega) (by omega) M63 n hn h1
  obtain ⟨_, _, h2, h3⟩ := hd_digs 8 (by omega) (by omega) n hn
  have hne : (digs 8 n).isEmpty = false := by
    cases e : digs 8 n with
    | nil => exact absurd e (digs_ne 8 n)
    | cons _ _ => rfl
  have hh : hd 48 (48 :: digs 8 n) = true := rfl
  unfold conN conE
  rw [List.tail_cons, hh, hne, h2, h3]
  exact ⟨r1, r2⟩
theorem con_hex (n : Nat) (h1 : n ≤ M63) : conN (48 :: 120 :: digs 16 n) = n ∧ conE (48 :: 120 :: digs 16 n) = 0 := by
  have hn : n < 2 ^ 64 := by unfold M63 at h1; omega
  obtain ⟨r1, r2⟩ := read_digs 16 (by omega) (by omega) M63 n hn h1
  exact ⟨r1, r2⟩

/-! ### Numbers in the order of their digits -/
theorem digs_low (b : Nat) (hb : 2 ≤ b) (hb' : b ≤ 16) (n : Nat) (h0 : 0 < n) (hn : n < 2 ^ 64) : b ^ ((digs b n).length - 1) ≤ n := by
  obtain ⟨i, t, hi, hib, e⟩ := digs_head b hb hb' n h0 hn
  have hv := digs_val b hb hb' n hn
  rw [e, valB_cons, digV_sig i (by omega)] at hv
  rw [e, List.length_cons, Nat.add_sub_cancel]
  have h2 : 1 * b ^ t.length ≤ i * b ^ t.length := Nat.mul_le_mul_right _ hi
  omega
theorem digs_high (b : Nat) (hb : 2 ≤ b) (hb' : b ≤ 16) (n : Nat) (hn : n < 2 ^ 64) : n < b ^ (digs b n).length := by
  have hv := digs_val b hb hb' n hn
  have hl := valB_lt b (digs b n) (fun c hc => by
    obtain ⟨i, hi, rfl⟩ := digs_all b hb hb' n hn c hc
    rw [digV_sig i (by omega)]; exact hi)
  omega
theorem digs_len_mono (b : Nat) (hb : 2 ≤ b) (hb' : b ≤ 16) (a c : Nat) (ha : a < 2 ^ 64) (hc : c < 2 ^ 64) (h : a ≤ c) : (digs b a).length ≤ (digs b c).length := by
  rcases Nat.lt_or_ge (digs b c).length (digs b a).length with hlt | hge
  · exfalso
    rcases Nat.eq_zero_or_pos a with hz | hz
    · subst hz
      have e : digs b 0 = [sig 0] := digs_lt b 0 (by omega)
      have h1 : (digs b 0).length = 1 := by rw [e]; rfl
      have := List.length_pos_iff.2 (digs_ne b c)
      omega
    · have h1 := digs_low b hb hb' a hz ha
      have h2 := digs_high b hb hb' c hc
      have h3 : b ^ (digs b c).length ≤ b ^ ((digs b a).length - 1) := Nat.pow_le_pow_right (by omega) (by omega)
      omega
  · exact hge
theorem digs_len_lt (b : Nat) (hb : 2 ≤ b) (hb' : b ≤ 16) (a c : Nat) (ha : a < 2 ^ 64) (hc : c < 2 ^ 64) (hne : (digs b a).length ≠ (digs b c).length) : a < c ↔ (digs b a).length < (digs b c).length := by
  constructor
  · intro h
    have := digs_len_mono b hb hb' a c ha hc (by omega)
    omega
  · intro h
    rcases Nat.lt_or_ge a c with h1 | h1
    · exact h1
    · have := digs_len_mono b hb hb' c a hc ha h1
      omega
theorem digs_inj (b : Nat) (hb : 2 ≤ b) (hb' : b ≤ 16) (a c : Nat) (ha : a < 2 ^ 64) (hc : c < 2 ^ 64) : a = c ↔ digs b a = digs b c := by
  constructor
  · intro h; rw [h]
  · intro h
    have h1 := digs_val b hb hb' a ha
    have h2 := digs_val b hb hb' c hc
    rw [h, h2] at h1
    exact h1.symm
theorem sig_lt : ∀ i, i < 16 → ∀ j, j < 16 → (sig i < sig j ↔ i < j) := by decide
theorem sig_eq : ∀ i, i < 16 → ∀ j, j < 16 → (sig i = sig j ↔ i = j) := by decide
theorem less_val (b : Nat) (hb' : b ≤ 16) : ∀ (x y : List UInt8), x.length = y.length → (∀ c ∈ x, ∃ i, i < b ∧ c = sig i) → (∀ c ∈ y, ∃ i, i < b ∧ c = sig i) → (Op.bytesLess x y = true ↔ valB b x < valB b y) := by
  intro x
  induction x with
  | nil =>
    intro y hl _ _
    cases y with
    | nil => simp [Op.bytesLess]
    | cons _ _ => simp at hl
  | cons c x ih =>
    intro y hl hx hy
    cases y with
    | nil => simp at hl
    | cons d y =>
      have hl' : x.length = y.length := by simpa using hl
      have ih' := ih y hl' (fun e he => hx e (by simp [he])) (fun e he => hy e (by simp [he]))
      have hvx := valB_lt b x (fun e he => by
        obtain ⟨k, hk, rfl⟩ := hx e (by simp [he])
        rw [digV_sig k (by omega)]; exact hk)
      have hvy := valB_lt b y (fun e he => by
        obtain ⟨k, hk, rfl⟩ := hy e (by simp [he])
        rw [digV_sig k (by omega)]; exact hk)
      obtain ⟨i, hi, rfl⟩ := hx c (by simp)
      obtain ⟨j, hj, rfl⟩ := hy d (by simp)
      rw [valB_cons, valB_cons, digV_sig i (by omega), digV_sig j (by omega), hl']
      rw [hl'] at hvx
      have h1 := sig_lt i (by omega) j (by omega)
      have h2 := sig_eq i (by omega) j (by omega)
      rw [Op.bytesLess, Bool.or_eq_true, Bool.and_eq_true, decide_eq_true_iff, beq_iff_eq, h1, h2, ih']
      generalize b ^ y.length = p at *
      rcases Nat.lt_trichotomy i j with h | h | h
      · have : (i + 1) * p ≤ j * p := Nat.mul_le_mul_right _ h
        rw [Nat.add_mul, Nat.one_mul] at this
        constructor
        · intro _; omega
        · intro _; exact .inl h
      · subst h
        constructor
        · rintro (h3 | ⟨_, h3⟩)
          · omega
          · omega
        · intro h3; exact .inr ⟨rfl, by omega⟩
      · have : (j + 1) * p ≤ i * p := Nat.mul_le_mul_right _ h
        rw [Nat.add_mul, Nat.one_mul] at this
        constructor
        · rintro (h3 | ⟨h3, _⟩) <;> omega
        · intro h3; omega
theorem digs_less (b : Nat) (hb : 2 ≤ b) (hb' : b ≤ 16) (a c : Nat) (ha : a < 2 ^ 64) (hc : c < 2 ^ 64) (hl : (digs b a).length = (digs b c).length) : a < c ↔ Op.bytesLess (digs b a) (digs b c) = true := by
  rw [less_val b hb' _ _ hl (digs_all b hb hb' a ha) (digs_all b hb hb' c hc), digs_val b hb hb' a ha, digs_val b hb hb' c hc]

end Go.Proofs.YtdegkfnlafgheaaDoor.NumM
