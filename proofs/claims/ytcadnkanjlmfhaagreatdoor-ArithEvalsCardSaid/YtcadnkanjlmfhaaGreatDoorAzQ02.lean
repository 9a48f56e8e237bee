/- DERIVED. Texts of this claim, joined: NumMath, ArMath. -/
import Derived.WalkArith
import Derived.Test.YtcadnkanjlmfhaaGreatDoorAzQ01
namespace Go.Proofs.YtcadnkanjlmfhaaGreatDoor.NumM

/-- What a byte stands for as a digit; 16: none. -/
def digV (c : UInt8) : Nat :=
  if 48 ≤ c.toNat ∧ c.toNat ≤ 57 then c.toNat - 48 else if 97 ≤ c.toNat ∧ c.toNat ≤ 102 then c.toNat - 87 else if 65 ≤ c.toNat ∧ c.toNat ≤ 70 then c.toNat - 55 else 16

theorem digV_le (c : UInt8) : digV c ≤ 16 := by unfold digV; (repeat' split) <;> omega

def sigs : List UInt8 := [48, 49, 50, 51, 52, 53, 54, 55, 56, 57, 97, 98, 99, 100, 101, 102]
def sig (i : Nat) : UInt8 := sigs.getD i 0

/-- The number of the digits, in a base. -/
def valB (b : Nat) (l : List UInt8) : Nat := l.foldl (fun n c => n * b + digV c) 0

theorem foldl_val (b : Nat) (l : List UInt8) (n : Nat) : l.foldl (fun n c => n * b + digV c) n = n * b ^ l.length + valB b l := by
  unfold valB
  induction l generalizing n with
  | nil => simp
  | cons c l ih =>
    simp only [List.foldl_cons, List.length_cons]
    rw [ih, ih (0 * b + digV c)]
    rw [Nat.pow_succ]
    simp only [Nat.zero_mul, Nat.zero_add, Nat.add_mul, Nat.mul_assoc, Nat.mul_comm b, Nat.add_assoc]

theorem valB_nil (b : Nat) : valB b [] = 0 := rfl
theorem valB_snoc (b : Nat) (l : List UInt8) (c : UInt8) : valB b (l ++ [c]) = valB b l * b + digV c := by
  unfold valB; rw [List.foldl_append]; rfl
theorem valB_cons (b : Nat) (c : UInt8) (l : List UInt8) : valB b (c :: l) = digV c * b ^ l.length + valB b l := by
  show l.foldl _ (0 * b + digV c) = _
  rw [foldl_val]; simp

/-- Is there a byte that is no digit of the base, or none at all? -/
def bad (b : Nat) (l : List UInt8) : Bool := l.isEmpty || l.any fun c => decide (b ≤ digV c)

def readN (b m : Nat) (l : List UInt8) : Nat := if bad b l = true then 0 else if m < valB b l then 0 else valB b l
def readE (b m : Nat) (l : List UInt8) : Nat := if bad b l = true then 40 else if m < valB b l then 41 else 0

theorem readN_le (b m : Nat) (l : List UInt8) : readN b m l ≤ m := by
  unfold readN; (repeat' split) <;> omega

theorem valB_lt (b : Nat) (l : List UInt8) (h : ∀ c ∈ l, digV c < b) : valB b l < b ^ l.length := by
  induction l with
  | nil => simp [valB]
  | cons c l ih =>
    rw [valB_cons, List.length_cons, Nat.pow_succ]
    have h1 := h c (by simp)
    have h2 := ih (fun d hd => h d (by simp [hd]))
    have h3 : (digV c + 1) * b ^ l.length ≤ b * b ^ l.length := Nat.mul_le_mul_right _ h1
    rw [Nat.add_mul, Nat.one_mul] at h3
    rw [Nat.mul_comm (b ^ l.length) b]
    omega

theorem one_le_pow_of {b : Nat} (h : 1 ≤ b) (n : Nat) : 1 ≤ b ^ n := by
  induction n with
  | zero => simp
  | succ n ih => rw [Nat.pow_succ]; exact Nat.le_trans (by omega) (Nat.mul_le_mul ih h)
theorem valB_take_le (b : Nat) (hb : 1 ≤ b) (l : List UInt8) (k : Nat) : valB b (l.take k) ≤ valB b l := by
  have h := foldl_val b (l.drop k) (valB b (l.take k))
  have e : (l.drop k).foldl (fun n c => n * b + digV c) (valB b (l.take k)) = valB b l := by
    unfold valB
    rw [← List.foldl_append, List.take_append_drop]
  rw [e] at h
  rw [h]
  have h1 := one_le_pow_of hb (l.drop k).length
  have := Nat.le_mul_of_pos_right (valB b (l.take k)) h1
  omega

/-- Digits, the greatest first. -/
def digsF : Nat → Nat → Nat → List UInt8
  | 0, _, n => [sig n]
  | f + 1, b, n => if n < b then [sig n] else digsF f b (n / b) ++ [sig (n % b)]
def digs (b n : Nat) : List UInt8 := digsF 64 b n

theorem digsF_more (b : Nat) (hb : 2 ≤ b) : ∀ (f n : Nat), n < 2 ^ (f + 1) → digsF (f + 1) b n = digsF f b n := by
  intro f
  induction f with
  | zero =>
    intro n hn
    have : n < 2 := by simpa using hn
    show (if n < b then [sig n] else digsF 0 b (n / b) ++ [sig (n % b)]) = [sig n]
    rw [if_pos (by omega)]
  | succ f ih =>
    intro n hn
    rw [digsF]
    conv => rhs; rw [digsF]
    by_cases h : n < b
    · rw [if_pos h, if_pos h]
    · rw [if_neg h, if_neg h, ih]
      have h2 : n / b ≤ n / 2 := Nat.div_le_div_left hb (by omega)
      rw [Nat.pow_succ] at hn
      omega
theorem digsF_any (b : Nat) (hb : 2 ≤ b) (f g n : Nat) (hf : n < 2 ^ (f + 1)) (hg : f ≤ g) : digsF g b n = digsF f b n := by
  obtain ⟨k, rfl⟩ := Nat.exists_eq_add_of_le hg
  clear hg
  induction k with
  | zero => rfl
  | succ k ih =>
    rw [← Nat.add_assoc, digsF_more b hb _ _ (Nat.lt_of_lt_of_le hf (Nat.pow_le_pow_right (by omega) (by omega))), ih]

theorem digs_lt (b n : Nat) (h : n < b) : digs b n = [sig n] := by
  unfold digs; rw [digsF, if_pos h]
theorem digs_ge (b n : Nat) (hb : 2 ≤ b) (hn : n < 2 ^ 64) (h : b ≤ n) : digs b n = digs b (n / b) ++ [sig (n % b)] := by
  unfold digs
  rw [digsF, if_neg (by omega)]
  have h2 : n / b ≤ n / 2 := Nat.div_le_div_left hb (by omega)
  have e := digsF_any b hb 63 64 (n / b) (by omega) (by omega)
  rw [e]

theorem digV_sig (i : Nat) (h : i < 16) : digV (sig i) = i := by
  have : ∀ i, i < 16 → digV (sig i) = i := by decide
  exact this i h

/-- A strong induction over what is divided. -/
theorem digs_ind {P : Nat → Prop} (b : Nat) (hb : 2 ≤ b) (h0 : ∀ n, n < b → P n) (h1 : ∀ n, b ≤ n → P (n / b) → P n) (n : Nat) : P n := by
  induction n using Nat.strongRecOn with
  | ind n ih =>
    by_cases h : n < b
    · exact h0 n h
    · exact h1 n (by omega) (ih _ (Nat.div_lt_self (by omega) (by omega)))

theorem digs_all (b : Nat) (hb : 2 ≤ b) (hb' : b ≤ 16) (n : Nat) : n < 2 ^ 64 → ∀ c ∈ digs b n, ∃ i, i < b ∧ c = sig i := by
  induction n using digs_ind b hb with
  | h0 n h =>
    intro _ c hc
    rw [digs_lt b n h] at hc
    exact ⟨n, h, by simpa using hc⟩
  | h1 n h ih =>
    intro hn c hc
    rw [digs_ge b n hb hn h] at hc
    rcases List.mem_append.1 hc with hc | hc
    · exact ih (Nat.lt_of_le_of_lt (Nat.div_le_self _ _) hn) c hc
    · exact ⟨n % b, Nat.mod_lt _ (by omega), by simpa using hc⟩

theorem digs_val (b : Nat) (hb : 2 ≤ b) (hb' : b ≤ 16) (n : Nat) : n < 2 ^ 64 → valB b (digs b n) = n := by
  induction n using digs_ind b hb with
  | h0 n h =>
    intro _
    rw [digs_lt b n h]
    show 0 * b + digV (sig n) = n
    rw [digV_sig n (by omega)]; omega
  | h1 n h ih =>
    intro hn
    rw [digs_ge b n hb hn h, valB_snoc, ih (Nat.lt_of_le_of_lt (Nat.div_le_self _ _) hn), digV_sig _ (Nat.lt_of_lt_of_le (Nat.mod_lt _ (by omega)) hb')]
    rw [Nat.mul_comm]; exact Nat.div_add_mod n b

theorem digs_ne (b n : Nat) : digs b n ≠ [] := by
  unfold digs; rw [digsF]; split <;> simp
theorem digs_ok (b : Nat) (hb : 2 ≤ b) (hb' : b ≤ 16) (n : Nat) (hn : n < 2 ^ 64) : bad b (digs b n) = false := by
  unfold bad
  rw [Bool.or_eq_false_iff]
  refine ⟨by simpa using digs_ne b n, ?_⟩
  rw [List.any_eq_false]
  intro c hc
  obtain ⟨i, hi, rfl⟩ := digs_all b hb hb' n hn c hc
  rw [digV_sig i (by omega)]
  simp; omega
theorem read_digs (b : Nat) (hb : 2 ≤ b) (hb' : b ≤ 16) (m n : Nat) (hn : n < 2 ^ 64) (hm : n ≤ m) : readN b m (digs b n) = n ∧ readE b m (digs b n) = 0 := by
  unfold readN readE
  rw [digs_ok b hb hb' n hn, digs_val b hb hb' n hn]
  simp; omega

/-- The first digit of a number above nought is no nought. -/
theorem digs_head (b : Nat) (hb : 2 ≤ b) (hb' : b ≤ 16) (n : Nat) : 0 < n → n < 2 ^ 64 → ∃ i t, 0 < i ∧ i < b ∧ digs b n = sig i :: t := by
  induction n using digs_ind b hb with
  | h0 n h => intro h0 _; exact ⟨n, [], h0, h, digs_lt b n h⟩
  | h1 n h ih =>
    intro _ hn
    obtain ⟨i, t, h1, h2, h3⟩ := ih (Nat.div_pos h (by omega)) (Nat.lt_of_le_of_lt (Nat.div_le_self _ _) hn)
    exact ⟨i, t ++ [sig (n % b)], h1, h2, by rw [digs_ge b n hb hn h, h3]; rfl⟩

theorem digs_length_le (b : Nat) (hb : 2 ≤ b) (n : Nat) (hn : n < 2 ^ 64) : (digs b n).length ≤ 64 := by
  have : ∀ f n, n < 2 ^ (f + 1) → (digsF f b n).length ≤ f + 1 := by
    intro f
    induction f with
    | zero => intro n _; simp [digsF]
    | succ f ih =>
      intro n hn
      rw [digsF]
      split
      · simp
      · have h2 : n / b ≤ n / 2 := Nat.div_le_div_left hb (by omega)
        have := ih (n / b) (by rw [Nat.pow_succ] at hn; omega)
        simp; omega
  unfold digs
  rw [digsF_any b hb 63 64 n (by omega) (by omega)]
  exact this 63 n (by omega)

/-! ### Reading, byte by byte -/
theorem take_snoc {l : List UInt8} {k : Nat} (h : k < l.length) : l.take (k + 1) = l.take k ++ [l[k]] := by
  rw [List.take_succ_eq_append_getElem h]
theorem valB_take_succ (b : Nat) {l : List UInt8} {k : Nat} (h : k < l.length) : valB b (l.take (k + 1)) = valB b (l.take k) * b + digV l[k] := by
  rw [take_snoc h, valB_snoc]
theorem over_iff (v b m d : Nat) (hb : 1 ≤ b) (hd : d ≤ m) : (m - d) / b < v ↔ m < v * b + d := by
  rw [Nat.div_lt_iff_lt_mul (by omega)]; omega
theorem over_more (v b m d : Nat) (hb : 1 ≤ b) (h : m < v) : m < v * b + d := by
  have := Nat.le_mul_of_pos_right v hb; omega
/-- The first k bytes are digits of the base. -/
def okTo (b : Nat) (l : List UInt8) (k : Nat) : Prop := ∀ i (h : i < l.length), i < k → digV l[i] < b
theorem okTo_zero (b : Nat) (l : List UInt8) : okTo b l 0 := fun _ _ h => absurd h (by omega)
theorem okTo_succ {b : Nat} {l : List UInt8} {k : Nat} (h : okTo b l k) (hk : k < l.length) (hd : digV l[k] < b) : okTo b l (k + 1) := by
  intro i hi hik
  by_cases e : i = k
  · subst e; exact hd
  · exact h i hi (by omega)
theorem bad_of (b : Nat) (l : List UInt8) (k : Nat) (hk : k < l.length) (hd : b ≤ digV l[k]) : bad b l = true := by
  unfold bad
  rw [Bool.or_eq_true]
  right
  rw [List.any_eq_true]
  exact ⟨l[k], List.getElem_mem hk, by simpa using hd⟩
theorem ok_of (b : Nat) (l : List UInt8) (h0 : 0 < l.length) (h : okTo b l l.length) : bad b l = false := by
  unfold bad
  rw [Bool.or_eq_false_iff]
  constructor
  · cases l with
    | nil => simp at h0
    | cons c l => rfl
  · rw [List.any_eq_false]
    intro c hc
    obtain ⟨i, hi, rfl⟩ := List.mem_iff_getElem.1 hc
    have := h i hi hi
    simp; omega
theorem read_bad {b m : Nat} {l : List UInt8} (h : bad b l = true) : readN b m l = 0 ∧ readE b m l = 40 := by
  unfold readN readE; rw [h]; simp
theorem read_over {b m : Nat} {l : List UInt8} (h : bad b l = false) (hv : m < valB b l) : readN b m l = 0 ∧ readE b m l = 41 := by
  unfold readN readE; rw [h]; simp [hv]
theorem read_fits {b m : Nat} {l : List UInt8} (h : bad b l = false) (hv : valB b l ≤ m) : readN b m l = valB b l ∧ readE b m l = 0 := by
  unfold readN readE; rw [h]; simp; omega

/-- The text of a number. -/
def textL (n : Int) : List UInt8 := if n < 0 then 45 :: digs 10 n.natAbs else digs 10 n.natAbs

/-! ### Decimal, Constant, Mode -/
def P63 : Nat := 9223372036854775808
def M63 : Nat := 9223372036854775807
def hd (c : UInt8) (l : List UInt8) : Bool := l.head? == some c
def decN (l : List UInt8) : Int := if hd 45 l then -(readN 10 P63 l.tail : Int) else if hd 43 l then (readN 10 M63 l.tail : Int) else (readN 10 M63 l : Int)
def decE (l : List UInt8) : Nat := if hd 45 l then readE 10 P63 l.tail else if hd 43 l then readE 10 M63 l.tail else readE 10 M63 l
def conN (l : List UInt8) : Nat := if hd 48 l && !l.tail.isEmpty then (if hd 120 l.tail || hd 88 l.tail then readN 16 M63 l.tail.tail else readN 8 M63 l.tail) else readN 10 M63 l
def conE (l : List UInt8) : Nat := if hd 48 l && !l.tail.isEmpty then (if hd 120 l.tail || hd 88 l.tail then readE 16 M63 l.tail.tail else readE 8 M63 l.tail) else readE 10 M63 l
def modN (l : List UInt8) : Nat := if 4 < l.length then 0 else readN 8 511 l
def modE (l : List UInt8) : Nat := if 4 < l.length then 40 else readE 8 511 l

end Go.Proofs.YtcadnkanjlmfhaaGreatDoor.NumM
namespace ArM
open PathM WdM
open Go.Proofs.YtcadnkanjlmfhaaGreatDoor.NumM (decN decE conN conE textL)
set_option linter.unusedVariables false

/-- What a text is cut into. -/
inductive Tok where
  | sg (s : Bs)
  | num (t : Bs) (n : Int)
  | nam (t : Bs)
def Tok.text : Tok → Bs | .sg s => s | .num t _ => t | .nam t => t
def signsA : List Bs := [[60, 60, 61], [62, 62, 61], [60, 60], [62, 62], [60, 61], [62, 61], [61, 61], [33, 61], [38, 38], [124, 124], [43, 61], [45, 61], [42, 61], [47, 61], [37, 61], [38, 61], [94, 61], [124, 61],
  [43], [45], [42], [47], [37], [60], [62], [33], [126], [38], [94], [124], [63], [58], [61], [40], [41]]
def blankA (c : UInt8) : Bool := c == 32 || c == 9 || c == 10
/-- What a text that isn't empty begins with. -/
def firstL (s : Bs) : Except Int Tok := match signsA.find? (fun o => stands o s) with
  | some x => .ok (.sg x)
  | none => match s.take (leading named s) with
    | [] => .error 61
    | c :: t => if digit c then (if conE (c :: t) = 0 then .ok (.num (c :: t) (conN (c :: t) : Nat)) else .error (conE (c :: t) : Nat))
      else if isName (c :: t) then .ok (.nam (c :: t)) else .error 61
/-- Behind a $ that is passed over. -/
def dollarL : Bs → Bs
  | c :: d :: r => if c = 36 ∧ letter d = true then d :: r else c :: d :: r
  | l => l
def cutN : Nat → List Tok → Bs → Except Int (List Tok)
  | 0, acc, _ => .ok acc
  | n + 1, acc, s => match s.dropWhile blankA with
    | [] => .ok acc
    | c :: r => match firstL (dollarL (c :: r)) with
      | .error e => .error e
      | .ok t => cutN n (acc ++ [t]) ((dollarL (c :: r)).drop t.text.length)
def cutL (s : Bs) : Except Int (List Tok) := cutN (s.length + 1) [] s
/-- Something that is reckoned. -/
inductive Tm where
  | const (n : Int)
  | named (t : Bs)
  | led (s : Bs) (t : Tm)
  | pair (s : Bs) (l r : Tm)
  | gift (by_ name : Bs) (t : Tm)
  | choice (a b c : Tm)
def tightOf (s : Bs) : Nat :=
  if s = [124, 124] then 1 else if s = [38, 38] then 2 else if s = [124] then 3 else if s = [94] then 4 else if s = [38] then 5
  else if s = [61, 61] ∨ s = [33, 61] then 6 else if s = [60] ∨ s = [60, 61] ∨ s = [62] ∨ s = [62, 61] then 7 else if s = [60, 60] ∨ s = [62, 62] then 8
  else if s = [43] ∨ s = [45] then 9 else if s = [42] ∨ s = [47] ∨ s = [37] then 10 else 0
/-- The sign ahead of the =, if a sign gives a name a number. -/
def givesOf (s : Bs) : Option Bs :=
  if s = [61, 61] ∨ s = [33, 61] ∨ s = [60, 61] ∨ s = [62, 61] then none else if s.getLast? = some 61 then some s.dropLast else none
def leadsOf (s : Bs) : Bool := s == [43] || s == [45] || s == [33] || s == [126]
abbrev Rr := Except Int (Tm × List Tok)
/-- What binds as tight, from the left. -/
def pairLoop (sub : List Tok → Rr) (tight : Nat) : Nat → Tm → List Tok → Rr
  | 0, t, l => .ok (t, l)
  | n + 1, t, l => match l with
    | .sg s :: r => if tightOf s = tight then match sub r with
        | .error e => .error e
        | .ok (u, r2) => pairLoop sub tight n (.pair s t u) r2
      else .ok (t, l)
    | _ => .ok (t, l)
/-- k: how many levels are left; the level is 11 less that. -/
def pairsK (lead : List Tok → Rr) : Nat → List Tok → Rr
  | 0, l => lead l
  | k + 1, l => match pairsK lead k l with
    | .error e => .error e
    | .ok (t, r) => pairLoop (pairsK lead k) (10 - k) (r.length + 1) t r
structure Rd where
  all : Nat → List Tok → Rr
  cond : Nat → List Tok → Rr
  lead : Nat → List Tok → Rr
def leadF (d : Rd) (dp : Nat) (l : List Tok) : Rr := match l with
  | [] => .error 61
  | .num _ n :: r => .ok (.const n, r)
  | .nam t :: r => .ok (.named t, r)
  | .sg s :: r =>
    if leadsOf s = true then (if dp = 64 then .error 63 else match d.lead (dp + 1) r with
      | .error e => .error e
      | .ok (t, r2) => .ok (.led s t, r2))
    else if s = [40] then (if dp = 64 then .error 63 else match d.all (dp + 1) r with
      | .error e => .error e
      | .ok (t, r2) => match r2 with
        | .sg s2 :: r3 => if s2 = [41] then .ok (t, r3) else .error 61
        | _ => .error 61)
    else .error 61
def condF (d : Rd) (dp : Nat) (l : List Tok) : Rr := match pairsK (leadF d dp) 10 l with
  | .error e => .error e
  | .ok (t, r) => match r with
    | .sg s :: r2 => if s = [63] then (match d.all dp r2 with
        | .error e => .error e
        | .ok (y, r3) => match r3 with
          | .sg s2 :: r4 => if s2 = [58] then (match d.cond dp r4 with
              | .error e => .error e
              | .ok (z, r5) => .ok (.choice t y z, r5))
            else .error 61
          | _ => .error 61)
      else .ok (t, r)
    | _ => .ok (t, r)
def allF (d : Rd) (dp : Nat) (l : List Tok) : Rr := match l with
  | .nam t :: .sg s :: r => match givesOf s with
    | some b => (match d.all dp r with
      | .error e => .error e
      | .ok (x, r2) => .ok (.gift b t x, r2))
    | none => condF d dp l
  | _ => condF d dp l
def rd : Nat → Rd
  | 0 => ⟨fun _ _ => .error 61, fun _ _ => .error 61, fun _ _ => .error 61⟩
  | n + 1 => ⟨allF (rd n), condF (rd n), leadF (rd n)⟩
def readL (l : List Tok) : Except Int Tm := match (rd (l.length + 1)).all 0 l with
  | .error e => .error e
  | .ok (t, r) => if r.isEmpty then .ok t else .error 61
/-- Variables. -/
abbrev Vs := List (Bs × Bs)
def findV (v : Vs) (n : Bs) : Option Bs := (v.find? fun x => x.1 == n).map Prod.snd
def numberL (v : Vs) (n : Bs) : Except Int Int := match findV v n with
  | none => .ok 0
  | some t => if t = [] then .ok 0 else if decE t = 0 then .ok (decN t) else if conE t = 0 then .ok (conN t : Nat) else .error (conE t : Nat)
def setV (v : Vs) (n t : Bs) : Vs := match v with
  | [] => [(n, t)]
  | x :: r => if x.1 = n then (x.1, t) :: r else x :: setV r n t
def giveL (v : Vs) (n : Bs) (k : Int) : Except Int Vs := if (findV v n).isNone ∧ 64 ≤ v.length then .error 2 else .ok (setV v n (textL k))
def wrapL (n : Int) : Int := Go.IntKind.wrap .i64 n
def truthL (b : Bool) : Int := if b then 1 else 0
def bvL (f : BitVec 64 → BitVec 64 → BitVec 64) (a b : Int) : Int := wrapL (f (BitVec.ofInt 64 a) (BitVec.ofInt 64 b)).toNat
def ofL (s : Bs) (n : Int) : Int := if s = [45] then wrapL (-n) else if s = [33] then truthL (n == 0) else if s = [126] then bvL (· ^^^ ·) (-1) n else n
def settledL (s : Bs) (a : Int) : Bool := (s == [38, 38] && a == 0) || (s == [124, 124] && a != 0)
def holdsL (s : Bs) (a b : Int) : Bool :=
  if s = [61, 61] then a == b else if s = [33, 61] then a != b else if s = [60] then decide (a < b) else if s = [60, 61] then decide (a ≤ b) else if s = [62] then decide (b < a) else if s = [62, 61] then decide (b ≤ a)
  else if s = [38, 38] then a != 0 && b != 0 else a != 0 || b != 0
def betweenL (s : Bs) (a b : Int) : Except Int Int :=
  if s = [47] then (if b = 0 then .error 42 else .ok (wrapL (a.tdiv b))) else if s = [37] then (if b = 0 then .error 42 else .ok (a.tmod b))
  else if s = [60, 60] then (if b < 0 ∨ 63 < b then .error 41 else .ok (wrapL (a * 2 ^ b.toNat))) else if s = [62, 62] then (if b < 0 ∨ 63 < b then .error 41 else .ok (a.fdiv (2 ^ b.toNat)))
  else if s = [43] then .ok (wrapL (a + b)) else if s = [45] then .ok (wrapL (a - b)) else if s = [42] then .ok (wrapL (a * b))
  else if s = [38] then .ok (bvL (· &&& ·) a b) else if s = [94] then .ok (bvL (· ^^^ ·) a b) else if s = [124] then .ok (bvL (· ||| ·) a b)
  else .ok (truthL (holdsL s a b))
def reckonL : Tm → Vs → Except Int (Int × Vs)
  | .const n, v => .ok (n, v)
  | .named t, v => match numberL v t with
    | .error e => .error e
    | .ok n => .ok (n, v)
  | .led s t, v => match reckonL t v with
    | .error e => .error e
    | .ok (n, v2) => .ok (ofL s n, v2)
  | .pair s l r, v => match reckonL l v with
    | .error e => .error e
    | .ok (a, v2) => if settledL s a then .ok (truthL (a != 0), v2) else match reckonL r v2 with
      | .error e => .error e
      | .ok (b, v3) => match betweenL s a b with
        | .error e => .error e
        | .ok n => .ok (n, v3)
  | .gift b nm t, v => match reckonL t v with
    | .error e => .error e
    | .ok (n, v2) =>
      let m : Except Int Int := if b = [] then .ok n else match numberL v2 nm with
        | .error e => .error e
        | .ok old => betweenL b old n
      match m with
      | .error e => .error e
      | .ok k => match giveL v2 nm k with
        | .error e => .error e
        | .ok v3 => .ok (k, v3)
  | .choice a b c, v => match reckonL a v with
    | .error e => .error e
    | .ok (n, v2) => if n != 0 then reckonL b v2 else reckonL c v2
/-- What Eval tells. -/
def evalL (s : Bs) (v : Vs) : Except Int (Int × Vs) :=
  if 8192 < s.length ∨ 64 < v.length then .error 2 else match cutL s with
    | .error e => .error e
    | .ok l => if l.isEmpty then .ok (0, v) else match readL l with
      | .error e => .error e
      | .ok t => reckonL t v
end ArM
