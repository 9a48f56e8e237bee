/- DERIVED. Texts of this claim, joined: NumMath2, ArLawA. -/
import Derived.Test.YtcadnkanjlmfhaaGreatDoorAzQ02
import GoSem.Op.String
namespace Go.Proofs.YtcadnkanjlmfhaaGreatDoor.NumM
set_option linter.unusedVariables false

theorem digs_cons (b : Nat) (hb : 2 ≤ b) (hb' : b ≤ 16) (n : Nat) (hn : n < 2 ^ 64) : ∃ i t, i < b ∧ digs b n = sig i :: t := by
  have h := digs_all b hb hb' n hn
  have hne := digs_ne b n
  cases e : digs b n with
  | nil => exact absurd e hne
  | cons c t =>
    obtain ⟨i, hi, rfl⟩ := h c (by rw [e]; simp)
    exact ⟨i, t, hi, rfl⟩
theorem sig_no : ∀ i, i < 16 → sig i ≠ 45 ∧ sig i ≠ 43 ∧ sig i ≠ 120 ∧ sig i ≠ 88 := by decide
theorem sig_nought : ∀ i, i < 16 → 0 < i → sig i ≠ 48 := by decide
theorem hd_digs (b : Nat) (hb : 2 ≤ b) (hb' : b ≤ 16) (n : Nat) (hn : n < 2 ^ 64) : hd 45 (digs b n) = false ∧ hd 43 (digs b n) = false ∧ hd 120 (digs b n) = false ∧ hd 88 (digs b n) = false := by
  obtain ⟨i, t, hi, e⟩ := digs_cons b hb hb' n hn
  obtain ⟨h1, h2, h3, h4⟩ := sig_no i (by omega)
  rw [e]
  unfold hd
  simp [h1, h2, h3, h4]

theorem dec_text (n : Int) (h0 : -9223372036854775808 ≤ n) (h1 : n ≤ 9223372036854775807) : decN (textL n) = n ∧ decE (textL n) = 0 := by
  have hn : n.natAbs < 2 ^ 64 := by omega
  by_cases h : n < 0
  · have e : textL n = 45 :: digs 10 n.natAbs := by unfold textL; rw [if_pos h]
    obtain ⟨r1, r2⟩ := read_digs 10 (by omega) (by omega) P63 n.natAbs hn (by unfold P63; omega)
    unfold decN decE
    rw [e]
    have hh : hd 45 (45 :: digs 10 n.natAbs) = true := rfl
    rw [if_pos hh, if_pos hh, List.tail_cons, r1, r2]
    exact ⟨by omega, rfl⟩
  · have e : textL n = digs 10 n.natAbs := by unfold textL; rw [if_neg h]
    obtain ⟨r1, r2⟩ := read_digs 10 (by omega) (by omega) M63 n.natAbs hn (by unfold M63; omega)
    obtain ⟨h2, h3, _, _⟩ := hd_digs 10 (by omega) (by omega) n.natAbs hn
    unfold decN decE
    rw [e, h2, h3]
    simp only [Bool.false_eq_true, if_false]
    rw [r1, r2]
    exact ⟨by omega, rfl⟩
theorem con_text (n : Int) (h0 : 0 ≤ n) (h1 : n ≤ 9223372036854775807) : (conN (textL n) : Int) = n ∧ conE (textL n) = 0 := by
  have hn : n.natAbs < 2 ^ 64 := by omega
  have e : textL n = digs 10 n.natAbs := by unfold textL; rw [if_neg (by omega)]
  obtain ⟨r1, r2⟩ := read_digs 10 (by omega) (by omega) M63 n.natAbs hn (by unfold M63; omega)
  have hc : (hd 48 (digs 10 n.natAbs) && !(digs 10 n.natAbs).tail.isEmpty) = false := by
    rcases Nat.eq_zero_or_pos n.natAbs with hz | hz
    · rw [hz]; decide
    · obtain ⟨i, t, h2, h3, e2⟩ := digs_head 10 (by omega) (by omega) n.natAbs hz hn
      have := sig_nought i (by omega) h2
      rw [e2]; unfold hd; simp [this]
  unfold conN conE
  rw [e, hc]
  simp only [Bool.false_eq_true, if_false]
  rw [r1, r2]
  exact ⟨by omega, rfl⟩
theorem con_oct (n : Nat) (h1 : n ≤ M63) : conN (48 :: digs 8 n) = n ∧ conE (48 :: digs 8 n) = 0 := by
  have hn : n < 2 ^ 64 := by unfold M63 at h1; omega
  obtain ⟨r1, r2⟩ := read_digs 8 (by omega) (by omega) M63 n hn h1
  obtain ⟨_, _, h2, h3⟩ := hd_digs 8 (by omega) (by omega) n hn
  have hne : (digs 8 n).isEmpty = false := by
    cases e : digs 8 n with
    | nil => exact absurd e (digs_ne 8 n)
    | cons _ _ => rfl
  have hh : hd 48 (48 :: digs 8 n) = true := rfl
  unfold conN conE
  rw [List.tail_cons, hh, hne, h2, h3]
  exact ⟨r1, r2⟩
theorem con_hex (n : Nat) (h1 : n ≤ M63) : conN (48 :: 120 :: digs 16 n) = n ∧ conE (48 :: 120 :: digs 16 n) = 0 := by
  have hn : n < 2 ^ 64 := by unfold M63 at h1; omega
  obtain ⟨r1, r2⟩ := read_digs 16 (by omega) (by omega) M63 n hn h1
  exact ⟨r1, r2⟩

/-! ### Numbers in the order of their digits -/
theorem digs_low (b : Nat) (hb : 2 ≤ b) (hb' : b ≤ 16) (n : Nat) (h0 : 0 < n) (hn : n < 2 ^ 64) : b ^ ((digs b n).length - 1) ≤ n := by
  obtain ⟨i, t, hi, hib, e⟩ := digs_head b hb hb' n h0 hn
  have hv := digs_val b hb hb' n hn
  rw [e, valB_cons, digV_sig i (by omega)] at hv
  rw [e, List.length_cons, Nat.add_sub_cancel]
  have h2 : 1 * b ^ t.length ≤ i * b ^ t.length := Nat.mul_le_mul_right _ hi
  omega
theorem digs_high (b : Nat) (hb : 2 ≤ b) (hb' : b ≤ 16) (n : Nat) (hn : n < 2 ^ 64) : n < b ^ (digs b n).length := by
  have hv := digs_val b hb hb' n hn
  have hl := valB_lt b (digs b n) (fun c hc => by
    obtain ⟨i, hi, rfl⟩ := digs_all b hb hb' n hn c hc
    rw [digV_sig i (by omega)]; exact hi)
  omega
theorem digs_len_mono (b : Nat) (hb : 2 ≤ b) (hb' : b ≤ 16) (a c : Nat) (ha : a < 2 ^ 64) (hc : c < 2 ^ 64) (h : a ≤ c) : (digs b a).length ≤ (digs b c).length := by
  rcases Nat.lt_or_ge (digs b c).length (digs b a).length with hlt | hge
  · exfalso
    rcases Nat.eq_zero_or_pos a with hz | hz
    · subst hz
      have e : digs b 0 = [sig 0] := digs_lt b 0 (by omega)
      have h1 : (digs b 0).length = 1 := by rw [e]; rfl
      have := List.length_pos_iff.2 (digs_ne b c)
      omega
    · have h1 := digs_low b hb hb' a hz ha
      have h2 := digs_high b hb hb' c hc
      have h3 : b ^ (digs b c).length ≤ b ^ ((digs b a).length - 1) := Nat.pow_le_pow_right (by omega) (by omega)
      omega
  · exact hge
theorem digs_len_lt (b : Nat) (hb : 2 ≤ b) (hb' : b ≤ 16) (a c : Nat) (ha : a < 2 ^ 64) (hc : c < 2 ^ 64) (hne : (digs b a).length ≠ (digs b c).length) : a < c ↔ (digs b a).length < (digs b c).length := by
  constructor
  · intro h
    have := digs_len_mono b hb hb' a c ha hc (by omega)
    omega
  · intro h
    rcases Nat.lt_or_ge a c with h1 | h1
    · exact h1
    · have := digs_len_mono b hb hb' c a hc ha h1
      omega
theorem digs_inj (b : Nat) (hb : 2 ≤ b) (hb' : b ≤ 16) (a c : Nat) (ha : a < 2 ^ 64) (hc : c < 2 ^ 64) : a = c ↔ digs b a = digs b c := by
  constructor
  · intro h; rw [h]
  · intro h
    have h1 := digs_val b hb hb' a ha
    have h2 := digs_val b hb hb' c hc
    rw [h, h2] at h1
    exact h1.symm
theorem sig_lt : ∀ i, i < 16 → ∀ j, j < 16 → (sig i < sig j ↔ i < j) := by decide
theorem sig_eq : ∀ i, i < 16 → ∀ j, j < 16 → (sig i = sig j ↔ i = j) := by decide
theorem less_val (b : Nat) (hb' : b ≤ 16) : ∀ (x y : List UInt8), x.length = y.length → (∀ c ∈ x, ∃ i, i < b ∧ c = sig i) → (∀ c ∈ y, ∃ i, i < b ∧ c = sig i) → (Op.bytesLess x y = true ↔ valB b x < valB b y) := by
  intro x
  induction x with
  | nil =>
    intro y hl _ _
    cases y with
    | nil => simp [Op.bytesLess]
    | cons _ _ => simp at hl
  | cons c x ih =>
    intro y hl hx hy
    cases y with
    | nil => simp at hl
    | cons d y =>
      have hl' : x.length = y.length := by simpa using hl
      have ih' := ih y hl' (fun e he => hx e (by simp [he])) (fun e he => hy e (by simp [he]))
      have hvx := valB_lt b x (fun e he => by
        obtain ⟨k, hk, rfl⟩ := hx e (by simp [he])
        rw [digV_sig k (by omega)]; exact hk)
      have hvy := valB_lt b y (fun e he => by
        obtain ⟨k, hk, rfl⟩ := hy e (by simp [he])
        rw [digV_sig k (by omega)]; exact hk)
      obtain ⟨i, hi, rfl⟩ := hx c (by simp)
      obtain ⟨j, hj, rfl⟩ := hy d (by simp)
      rw [valB_cons, valB_cons, digV_sig i (by omega), digV_sig j (by omega), hl']
      rw [hl'] at hvx
      have h1 := sig_lt i (by omega) j (by omega)
      have h2 := sig_eq i (by omega) j (by omega)
      rw [Op.bytesLess, Bool.or_eq_true, Bool.and_eq_true, decide_eq_true_iff, beq_iff_eq, h1, h2, ih']
      generalize b ^ y.length = p at *
      rcases Nat.lt_trichotomy i j with h | h | h
      · have : (i + 1) * p ≤ j * p := Nat.mul_le_mul_right _ h
        rw [Nat.add_mul, Nat.one_mul] at this
        constructor
        · intro _; omega
        · intro _; exact .inl h
      · subst h
        constructor
        · rintro (h3 | ⟨_, h3⟩)
          · omega
          · omega
        · intro h3; exact .inr ⟨rfl, by omega⟩
      · have : (j + 1) * p ≤ i * p := Nat.mul_le_mul_right _ h
        rw [Nat.add_mul, Nat.one_mul] at this
        constructor
        · rintro (h3 | ⟨h3, _⟩) <;> omega
        · intro h3; omega
theorem digs_less (b : Nat) (hb : 2 ≤ b) (hb' : b ≤ 16) (a c : Nat) (ha : a < 2 ^ 64) (hc : c < 2 ^ 64) (hl : (digs b a).length = (digs b c).length) : a < c ↔ Op.bytesLess (digs b a) (digs b c) = true := by
  rw [less_val b hb' _ _ hl (digs_all b hb hb' a ha) (digs_all b hb hb' c hc), digs_val b hb hb' a ha, digs_val b hb hb' c hc]

end Go.Proofs.YtcadnkanjlmfhaaGreatDoor.NumM
namespace ArM
open PathM WdM
open Go.Proofs.YtcadnkanjlmfhaaGreatDoor.NumM
set_option linter.unusedVariables false

theorem wrapL_eq (n : Int) : ∃ k : Int, wrapL n = n + k * 18446744073709551616 := by
  refine ⟨-((n + 9223372036854775808) / 18446744073709551616), ?_⟩
  unfold wrapL
  rw [Go.IntKind.wrap_i64]
  omega
theorem wrapL_add (n k : Int) : wrapL (n + k * 18446744073709551616) = wrapL n := by
  unfold wrapL
  rw [Go.IntKind.wrap_i64, Go.IntKind.wrap_i64]
  omega
theorem wrapL_in (n : Int) (h0 : -9223372036854775808 ≤ n) (h1 : n ≤ 9223372036854775807) : wrapL n = n := by
  unfold wrapL
  rw [Go.IntKind.wrap_i64]
  omega
theorem wrapL_bd (n : Int) : -9223372036854775808 ≤ wrapL n ∧ wrapL n ≤ 9223372036854775807 := by
  unfold wrapL
  rw [Go.IntKind.wrap_i64]
  omega
theorem wrap_addl (a b : Int) : wrapL (wrapL a + b) = wrapL (a + b) := by
  obtain ⟨k, hk⟩ := wrapL_eq a
  rw [hk, show a + k * 18446744073709551616 + b = a + b + k * 18446744073709551616 by omega, wrapL_add]
theorem wrap_addr (a b : Int) : wrapL (a + wrapL b) = wrapL (a + b) := by rw [Int.add_comm, wrap_addl, Int.add_comm]
theorem wrap_subl (a b : Int) : wrapL (wrapL a - b) = wrapL (a - b) := by rw [Int.sub_eq_add_neg, wrap_addl, ← Int.sub_eq_add_neg]
theorem wrap_subr (a b : Int) : wrapL (a - wrapL b) = wrapL (a - b) := by
  obtain ⟨k, hk⟩ := wrapL_eq b
  rw [hk, show a - (b + k * 18446744073709551616) = a - b + (-k) * 18446744073709551616 by omega, wrapL_add]
theorem wrap_mull (a b : Int) : wrapL (wrapL a * b) = wrapL (a * b) := by
  obtain ⟨k, hk⟩ := wrapL_eq a
  rw [hk, Int.add_mul, Int.mul_assoc, Int.mul_comm 18446744073709551616 b, ← Int.mul_assoc, wrapL_add]
theorem wrap_mulr (a b : Int) : wrapL (a * wrapL b) = wrapL (a * b) := by rw [Int.mul_comm, wrap_mull, Int.mul_comm]
/-- All the ones but for those of a number. -/
theorem not_is (a : Int) (h0 : -9223372036854775808 ≤ a) (h1 : a ≤ 9223372036854775807) : bvL (· ^^^ ·) (-1) a = -a - 1 := by
  unfold bvL
  have e : (BitVec.ofInt 64 (-1) ^^^ BitVec.ofInt 64 a) = ~~~ (BitVec.ofInt 64 a) := by
    rw [show BitVec.ofInt 64 (-1) = BitVec.allOnes 64 from rfl, BitVec.allOnes_xor]
  show wrapL ((BitVec.ofInt 64 (-1) ^^^ BitVec.ofInt 64 a).toNat) = _
  rw [e, BitVec.toNat_not]
  have hn : ((BitVec.ofInt 64 a).toNat : Int) = a % 18446744073709551616 := by
    rw [BitVec.toNat_ofInt]
    have := Int.emod_nonneg a (show (18446744073709551616 : Int) ≠ 0 by omega)
    show ((a % (18446744073709551616 : Int)).toNat : Int) = _
    omega
  have hlt := (BitVec.ofInt 64 a).isLt
  generalize (BitVec.ofInt 64 a).toNat = t at *
  unfold wrapL
  rw [Go.IntKind.wrap_i64]
  omega
theorem eval_of {s : Bs} {v : Vs} {l : List Tok} {t : Tm} (hs : s.length ≤ 8192) (hv : v.length ≤ 64) (hc : cutL s = .ok l) (hl : l ≠ []) (ht : readL l = .ok t) : evalL s v = reckonL t v := by
  unfold evalL
  rw [if_neg (by omega), hc]
  dsimp only
  rw [if_neg (by simpa using hl), ht]
theorem text_ne (a : Int) : textL a ≠ [] := by
  unfold textL
  split
  · simp
  · exact digs_ne _ _
/-- A variable that has a number. -/
theorem number_text {v : Vs} {n : Bs} {a : Int} (h : findV v n = some (textL a)) (h0 : -9223372036854775808 ≤ a) (h1 : a ≤ 9223372036854775807) : numberL v n = .ok a := by
  unfold numberL
  rw [h]
  dsimp only
  rw [if_neg (text_ne a), if_pos (dec_text a h0 h1).2, (dec_text a h0 h1).1]
def v3 (a b c : Int) : Vs := [([97], textL a), ([98], textL b), ([99], textL c)]
theorem v3_a (a b c : Int) (h : -9223372036854775808 ≤ a ∧ a ≤ 9223372036854775807) : numberL (v3 a b c) [97] = .ok a := number_text rfl h.1 h.2
theorem v3_b (a b c : Int) (h : -9223372036854775808 ≤ b ∧ b ≤ 9223372036854775807) : numberL (v3 a b c) [98] = .ok b := number_text rfl h.1 h.2
theorem v3_c (a b c : Int) (h : -9223372036854775808 ≤ c ∧ c ≤ 9223372036854775807) : numberL (v3 a b c) [99] = .ok c := number_text rfl h.1 h.2
def tN (c : UInt8) : Tm := .named [c]
def tP (s : Bs) (l r : Tm) : Tm := .pair s l r
/-- The texts of the law, and what is read of them. -/
def grpS : List Bs := [[40, 97, 43, 98, 41, 43, 99], [97, 43, 40, 99, 43, 98, 41], [97, 42, 98, 42, 99], [99, 42, 40, 97, 42, 98, 41], [97, 42, 40, 98, 43, 99, 41], [97, 42, 98, 43, 97, 42, 99], [97, 45, 40, 98, 45, 99, 41], [97, 45, 98, 43, 99], [45, 97], [126, 97, 43, 49]]
def grpT : List Tm := [.pair [43] (.pair [43] (tN 97) (tN 98)) (tN 99), .pair [43] (tN 97) (.pair [43] (tN 99) (tN 98)), .pair [42] (.pair [42] (tN 97) (tN 98)) (tN 99), .pair [42] (tN 99) (.pair [42] (tN 97) (tN 98)),
  .pair [42] (tN 97) (.pair [43] (tN 98) (tN 99)), .pair [43] (.pair [42] (tN 97) (tN 98)) (.pair [42] (tN 97) (tN 99)), .pair [45] (tN 97) (.pair [45] (tN 98) (tN 99)), .pair [43] (.pair [45] (tN 97) (tN 98)) (tN 99), .led [45] (tN 97), .pair [43] (.led [126] (tN 97)) (.const 1)]
theorem grp_read : ∀ i, i < 10 → ∃ l, cutL (grpS.getD i []) = .ok l ∧ l ≠ [] ∧ readL l = .ok (grpT.getD i (.const 0)) ∧ (grpS.getD i []).length ≤ 8192
  | 0, _ => ⟨_, rfl, by simp, rfl, by decide⟩
  | 1, _ => ⟨_, rfl, by simp, rfl, by decide⟩
  | 2, _ => ⟨_, rfl, by simp, rfl, by decide⟩
  | 3, _ => ⟨_, rfl, by simp, rfl, by decide⟩
  | 4, _ => ⟨_, rfl, by simp, rfl, by decide⟩
  | 5, _ => ⟨_, rfl, by simp, rfl, by decide⟩
  | 6, _ => ⟨_, rfl, by simp, rfl, by decide⟩
  | 7, _ => ⟨_, rfl, by simp, rfl, by decide⟩
  | 8, _ => ⟨_, rfl, by simp, rfl, by decide⟩
  | 9, _ => ⟨_, rfl, by simp, rfl, by decide⟩
  | n + 10, h => absurd h (by omega)
theorem grp_eval (a b c : Int) (i : Nat) (h : i < 10) : evalL (grpS.getD i []) (v3 a b c) = reckonL (grpT.getD i (.const 0)) (v3 a b c) := by
  obtain ⟨l, h1, h2, h3, h4⟩ := grp_read i h
  exact eval_of h4 (by simp [v3]) h1 h2 h3
theorem rk_n {v : Vs} {c : UInt8} {a : Int} (h : numberL v [c] = .ok a) : reckonL (tN c) v = .ok (a, v) := by
  show (match numberL v [c] with | .error e => _ | .ok n => _) = _
  rw [h]
theorem rk_p {v v2 v3 : Vs} {s : Bs} {l r : Tm} {a b n : Int} (hl : reckonL l v = .ok (a, v2)) (hr : reckonL r v2 = .ok (b, v3)) (hs : settledL s a = false) (hb : betweenL s a b = .ok n) : reckonL (.pair s l r) v = .ok (n, v3) := by
  rw [reckonL, hl]
  dsimp only
  rw [if_neg (by rw [hs]; simp), hr]
  dsimp only
  rw [hb]
theorem rk_l {v v2 : Vs} {s : Bs} {t : Tm} {a : Int} (h : reckonL t v = .ok (a, v2)) : reckonL (.led s t) v = .ok (ofL s a, v2) := by
  rw [reckonL, h]
/-- What each comes to. -/
def grpN (a b c : Int) : List Int := [wrapL (wrapL (a + b) + c), wrapL (a + wrapL (c + b)), wrapL (wrapL (a * b) * c), wrapL (c * wrapL (a * b)), wrapL (a * wrapL (b + c)), wrapL (wrapL (a * b) + wrapL (a * c)), wrapL (a - wrapL (b - c)), wrapL (wrapL (a - b) + c), wrapL (-a), wrapL (bvL (· ^^^ ·) (-1) a + 1)]
theorem grp_rk (a b c : Int) (ha : -9223372036854775808 ≤ a ∧ a ≤ 9223372036854775807) (hb : -9223372036854775808 ≤ b ∧ b ≤ 9223372036854775807) (hc : -9223372036854775808 ≤ c ∧ c ≤ 9223372036854775807) :
    ∀ i, i < 10 → reckonL (grpT.getD i (.const 0)) (v3 a b c) = .ok ((grpN a b c).getD i 0, v3 a b c) := by
  have A := rk_n (v3_a a b c ha)
  have B := rk_n (v3_b a b c hb)
  have C := rk_n (v3_c a b c hc)
  intro i hi
  match i, hi with
  | 0, _ => exact rk_p (rk_p A B rfl rfl) C rfl rfl
  | 1, _ => exact rk_p A (rk_p C B rfl rfl) rfl rfl
  | 2, _ => exact rk_p (rk_p A B rfl rfl) C rfl rfl
  | 3, _ => exact rk_p C (rk_p A B rfl rfl) rfl rfl
  | 4, _ => exact rk_p A (rk_p B C rfl rfl) rfl rfl
  | 5, _ => exact rk_p (rk_p A B rfl rfl) (rk_p A C rfl rfl) rfl rfl
  | 6, _ => exact rk_p A (rk_p B C rfl rfl) rfl rfl
  | 7, _ => exact rk_p (rk_p A B rfl rfl) C rfl rfl
  | 8, _ => exact rk_l A
  | 9, _ => exact rk_p (rk_l A) rfl rfl rfl
  | n + 10, h => exact absurd h (by omega)
theorem grp_same (a b c : Int) (ha : -9223372036854775808 ≤ a ∧ a ≤ 9223372036854775807) : ∀ j, j < 5 → (grpN a b c).getD (2 * j) 0 = (grpN a b c).getD (2 * j + 1) 0 := by
  intro j hj
  match j, hj with
  | 0, _ =>
    show wrapL (wrapL (a + b) + c) = wrapL (a + wrapL (c + b))
    rw [wrap_addl, wrap_addr]; congr 1; omega
  | 1, _ =>
    show wrapL (wrapL (a * b) * c) = wrapL (c * wrapL (a * b))
    rw [Int.mul_comm]
  | 2, _ =>
    show wrapL (a * wrapL (b + c)) = wrapL (wrapL (a * b) + wrapL (a * c))
    rw [wrap_mulr, wrap_addl, wrap_addr, Int.mul_add]
  | 3, _ =>
    show wrapL (a - wrapL (b - c)) = wrapL (wrapL (a - b) + c)
    rw [wrap_subr, wrap_addl]; congr 1; omega
  | 4, _ =>
    show wrapL (-a) = wrapL (bvL (· ^^^ ·) (-1) a + 1)
    rw [not_is a ha.1 ha.2]; congr 1; omega
  | n + 5, h => exact absurd h (by omega)
/-- All of ArithGroups. -/
theorem groups_all (a b c : Int) (ha : -9223372036854775808 ≤ a ∧ a ≤ 9223372036854775807) (hb : -9223372036854775808 ≤ b ∧ b ≤ 9223372036854775807) (hc : -9223372036854775808 ≤ c ∧ c ≤ 9223372036854775807) (i : Nat) (hi : i < 10) :
    evalL (grpS.getD i []) (v3 a b c) = .ok ((grpN a b c).getD i 0, v3 a b c) := (grp_eval a b c i hi).trans (grp_rk a b c ha hb hc i hi)
/-- The chapter's examples. -/
theorem ex_1 : evalL [49, 43, 50, 42, 51] [] = .ok (7, []) := rfl
theorem ex_2 : evalL [120, 61, 53] [] = .ok (5, [([120], [53])]) := rfl
theorem ex_3 : evalL [49, 124, 124, 40, 121, 61, 50, 41] [] = .ok (1, []) := rfl
theorem ex_4 : evalL [55, 47, 45, 50] [] = .ok (-3, []) := rfl
theorem ex_5 : evalL [48, 49, 48, 43, 48, 120, 49, 48] [] = .ok (24, []) := rfl
end ArM
