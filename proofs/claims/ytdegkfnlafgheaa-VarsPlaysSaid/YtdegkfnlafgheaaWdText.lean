/- DERIVED. Walks over the calls that look at a text: leading, quoted, Inside, Name, the program's and the document's. -/
import Derived.Test.YtdegkfnlafgheaaWdByte
import Derived.LoopTactic
import Derived.Shelf.Abstract
namespace Go.Proofs.Ytdegkfnlafgheaa.Wd
open Go.RowKit
open PathM WdM
set_option linter.unusedVariables false

/-- What asks of a byte. -/
structure Asks (F : Nat) (k : UInt8 → Bool) : Prop where
  enters : ∀ (args : Array Value) (w : World), (callFunc F args).run Try.prog w = .ok (.enter F args) w
  calls : ∀ (c : UInt8) (w : World), Calls Try.prog F #[.int .u8 c.toNat] w fun e w' => e = .returned (.bool (k c)) ∧ w = w'
theorem asks_named : Asks 62 named := ⟨enters_of Try.func62 (by kernel_rfl) rfl, named_any⟩
theorem asks_digit : Asks 34 digit := ⟨enters_of Try.func34 (by kernel_rfl) rfl, digit_any⟩
theorem bt (c : UInt8) (n : Nat) (hn : n < 256) : ((c.toNat : Int) == (n : Int)) = decide (c = n.toUInt8) := by
  rw [byte_eq c n hn, Bool.eq_iff_iff]; simp
theorem bt2 (c d : UInt8) : ((c.toNat : Int) == (d.toNat : Int)) = decide (c = d) := by
  rw [Bool.eq_iff_iff]
  simp only [beq_iff_eq, decide_eq_true_eq]
  constructor
  · intro h; exact UInt8.toNat_inj.1 (by omega)
  · rintro rfl; rfl
theorem bn (c : UInt8) (n : Nat) (hn : n < 256) : ((c.toNat : Int) != (n : Int)) = !decide (c = n.toUInt8) := by
  rw [← bt c n hn]; rfl

set_option maxHeartbeats 400000 in
theorem leading_any {F : Nat} {k : UInt8 → Bool} (hF : Asks F k) (s : ByteArray) (w : World) (hs : s.size ≤ 4611686018427387904) :
    Calls Try.prog 61 #[.string s, .func (.func F) #[] #[]] w fun e w' => e = .returned (.int .i64 (leading k s.data.toList : Nat)) ∧ w = w' := by
  have e1 := hF.enters
  have HK := Lib.hid hF.calls
  clear hF
  have HL : Hid (leading k s.data.toList = leading k (s.data.toList.drop 0) + 0) := Lib.hid rfl
  go_enter Try.func61, Try.ntmps61
  go_wp2
  go_loop [5] (fun n => ∃ i : Nat, n = .int .i64 i ∧ i ≤ s.size ∧ Hid (leading k s.data.toList = leading k (s.data.toList.drop i) + i)) (fun n => s.size - (intOf n).toNat)
  case atStart => exact ⟨0, rfl, by omega, HL⟩
  case round =>
    obtain ⟨i, rfl, hi, HI⟩ := hrel
    by_cases hlt : i < s.size
    · have hd := get_at s i hlt
      have HD := Lib.hid hd
      clear hd
      cases hk : k s[i] with
      | true =>
        have HKK : Hid (leading k s.data.toList = leading k (s.data.toList.drop (i + 1)) + (i + 1)) := Lib.hid (by rw [HI.out, HD.out, leading, if_pos hk]; omega)
        go_wp2_with (go_at_fn F; refine (HK.out _ _).mono ?_; rintro e w' ⟨rfl, rfl⟩)
        go_wp2
        go_round
        case rel => exact ⟨i + 1, by go_num, by omega, HKK⟩
        case measure => simp [intOf]; omega
      | false =>
        have HKK : Hid (leading k s.data.toList = i) := Lib.hid (by rw [HI.out, HD.out, leading, if_neg (by rw [hk]; decide)]; omega)
        go_wp2_with (go_at_fn F; refine (HK.out _ _).mono ?_; rintro e w' ⟨rfl, rfl⟩)
        go_wp2
        go_ret
        exact ⟨ret_int (by rw [HKK.out]), rfl⟩
    · obtain rfl : i = s.size := by omega
      have HKK : Hid (leading k s.data.toList = s.size) := Lib.hid (by rw [HI.out, List.drop_of_length_le (by rw [sizeD]; exact Nat.le_refl _), leading]; omega)
      go_wp2
      go_ret
      exact ⟨ret_int (by rw [HKK.out]), rfl⟩

/-- An answer that counts from a place on. -/
def resI (i : Nat) : Option Nat → Int
  | none => -1
  | some n => ((n + i : Nat) : Int)
theorem resI_map (i : Nat) (o : Option Nat) : resI i (o.map (· + 1)) = resI (i + 1) o := by cases o <;> simp [resI]; omega
theorem quoted_skip (q : UInt8) (i : Nat) (l : Bs) : resI i (quotedS q true l) = resI (i + 1) (quotedS q false (l.drop 1)) := by
  cases l with
  | nil => rfl
  | cons c t => rw [quotedS, resI_map]; rfl
theorem inside_skip (q : UInt8) (dp i : Nat) (l : Bs) : resI i (insideS q true dp l) = resI (i + 1) (insideS q false dp (l.drop 1)) := by
  cases l with
  | nil => rfl
  | cons c t => rw [insideS, if_pos rfl, resI_map]; rfl
theorem inside_quote (q : UInt8) (hq : q = 39 ∨ q = 34) (dp : Nat) : ∀ (l : Bs) (sk : Bool), insideS q sk dp l = match quotedS q sk l with
    | none => none
    | some n => (insideS 0 false dp (l.drop (n + 1))).map (· + (n + 1)) := by
  have hq0 : ¬ q = 0 := by rcases hq with rfl | rfl <;> decide
  intro l
  induction l with
  | nil => intro sk; cases sk <;> rfl
  | cons c t ih =>
    intro sk
    have key : ∀ sk', (insideS q sk' dp t).map (· + 1) = match (quotedS q sk' t).map (· + 1) with
        | none => none
        | some n => (insideS 0 false dp ((c :: t).drop (n + 1))).map (· + (n + 1)) := fun sk' => by
      rw [ih sk']
      cases quotedS q sk' t with
      | none => rfl
      | some n =>
        simp only [Option.map_some, List.drop_succ_cons, Option.map_map]
        congr 1
    cases sk with
    | true => rw [insideS, if_pos rfl, quotedS]; exact key false
    | false =>
      rw [insideS, if_neg (by decide), if_neg hq0, quotedS]
      by_cases h1 : c = q
      · have h2 : ¬ (c = 92 ∧ q = 34) := by rintro ⟨rfl, h⟩; rw [h] at h1; exact absurd h1 (by decide)
        rw [if_neg h2, if_pos h1, if_pos h1]
        rfl
      · rw [if_neg h1, if_neg h1]
        by_cases h2 : c = 92 ∧ q = 34
        · rw [if_pos h2, if_pos h2]; exact key true
        · rw [if_neg h2, if_neg h2]; exact key false

theorem drop_len (s : ByteArray) (i : Nat) (h : i ≤ s.size) : (nm (s.data.toList.drop i)).size = s.size - i := by rw [nm_size, List.length_drop, sizeD]
theorem quote_of {q : UInt8} (hq : q = 39 ∨ q = 34) (dp i : Nat) (l : Bs) (r : Int) (h : resI (i + 1) (insideS q false dp l) = r) :
    (quotedS q false l = none ∧ r = -1) ∨ ∃ n, quotedS q false l = some n ∧ resI (i + n + 2) (insideS 0 false dp (l.drop (n + 1))) = r := by
  rw [inside_quote q hq] at h
  cases hk : quotedS q false l with
  | none => rw [hk] at h; exact .inl ⟨rfl, h.symm⟩
  | some n =>
    rw [hk] at h
    dsimp only at h
    refine .inr ⟨n, rfl, ?_⟩
    rw [← h]
    cases insideS 0 false dp (l.drop (n + 1)) with
    | none => rfl
    | some m => simp only [resI, Option.map_some]; omega
theorem quoted_lt (q : UInt8) : ∀ (l : Bs) (sk : Bool) (n : Nat), quotedS q sk l = some n → n < l.length := by
  intro l
  induction l with
  | nil => intro sk n h; cases sk <;> cases h
  | cons c t ih =>
    intro sk n h
    have key : ∀ sk', (quotedS q sk' t).map (· + 1) = some n → n < (c :: t).length := fun sk' h => by
      cases hk : quotedS q sk' t with
      | none => rw [hk] at h; cases h
      | some m => rw [hk] at h; have := ih _ _ hk; simp at h ⊢; omega
    cases sk with
    | true => exact key false h
    | false =>
      rw [quotedS] at h
      split at h
      · injection h with h; subst h; simp
      · split at h
        · exact key true h
        · exact key false h

end Go.Proofs.Ytdegkfnlafgheaa.Wd
