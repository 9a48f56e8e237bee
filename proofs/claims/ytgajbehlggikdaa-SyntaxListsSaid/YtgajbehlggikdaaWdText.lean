/- DERIVED. Walks over the calls that look at a text: leading, quoted, Inside, Name, the program's and the document's. -/
import Derived.Test.YtgajbehlggikdaaWdByte
import Derived.LoopTactic
import Derived.Shelf.Abstract
namespace Go.Proofs.Ytgajbehlggikdaa.Wd
open Go.RowKit
open PathM WdM
set_option linter.unusedVariables false

/-- What asks of a byte. -/
structure Asks (F : Nat) (k : UInt8 → Bool) : Prop where
  enters : ∀ (args : Array Value) (w : World), (callFunc F args).run Try.prog w = .ok (.enter F args) w
  calls : ∀ (c : UInt8) (w : World), Calls Try.prog F #[.int .u8 c.toNat] w fun e w' => e = .returned (.bool (k c)) ∧ w = w'
theorem asks_named : Asks 59 named := ⟨enters_of Try.func59 (by kernel_rfl) rfl, named_any⟩
theorem asks_digit : Asks 74 digit := ⟨enters_of Try.func74 (by kernel_rfl) rfl, digit_any⟩
theorem asks_meta : Asks 36 meta_ := ⟨enters_of Try.func36 (by kernel_rfl) rfl, meta_any⟩
theorem asks_escD : Asks 69 escD := ⟨enters_of Try.func69 (by kernel_rfl) rfl, escD_any⟩
theorem asks_escA : Asks 48 (fun _ => true) := ⟨enters_of Try.func48 (by kernel_rfl) rfl, escA_any⟩
theorem asks_endB : Asks 87 (· == 125) := ⟨enters_of Try.func87 (by kernel_rfl) rfl, endB_any⟩

theorem bt (c : UInt8) (n : Nat) (hn : n < 256) : ((c.toNat : Int) == (n : Int)) = decide (c = n.toUInt8) := by
  rw [byte_eq c n hn, Bool.eq_iff_iff]; simp
theorem bt2 (c d : UInt8) : ((c.toNat : Int) == (d.toNat : Int)) = decide (c = d) := by
  rw [Bool.eq_iff_iff]
  simp only [beq_iff_eq, decide_eq_true_eq]
  constructor
  · intro h; exact UInt8.toNat_inj.1 (by omega)
  · rintro rfl; rfl
theorem bn (c : UInt8) (n : Nat) (hn : n < 256) : ((c.toNat : Int) != (n : Int)) = !decide (c = n.toUInt8) := by
  rw [← bt c n hn]; rfl

set_option maxHeartbeats 400000 in
theorem leading_any {F : Nat} {k : UInt8 → Bool} (hF : Asks F k) (s : ByteArray) (w : World) (hs : s.size ≤ 4611686018427387904) :
    Calls Try.prog 58 #[.string s, .func (.func F) #[] #[]] w fun e w' => e = .returned (.int .i64 (leading k s.data.toList : Nat)) ∧ w = w' := by
  have e1 := hF.enters
  have HK := Lib.hid hF.calls
  clear hF
  have HL : Hid (leading k s.data.toList = leading k (s.data.toList.drop 0) + 0) := Lib.hid rfl
  go_enter Try.func58, Try.ntmps58
  go_wp2
  go_loop [5] (fun n => ∃ i : Nat, n = .int .i64 i ∧ i ≤ s.size ∧ Hid (leading k s.data.toList = leading k (s.data.toList.drop i) + i)) (fun n => s.size - (intOf n).toNat)
  case atStart => exact ⟨0, rfl, by omega, HL⟩
  case round =>
    obtain ⟨i, rfl, hi, HI⟩ := hrel
    by_cases hlt : i < s.size
    · have hd := get_at s i hlt
      have HD := Lib.hid hd
      clear hd
      cases hk : k s[i] with
      | true =>
        have HKK : Hid (leading k s.data.toList = leading k (s.data.toList.drop (i + 1)) + (i + 1)) := Lib.hid (by rw [HI.out, HD.out, leading, if_pos hk]; omega)
        go_wp2_with (go_at_fn F; refine (HK.out _ _).mono ?_; rintro e w' ⟨rfl, rfl⟩)
        go_wp2
        go_round
        case rel => exact ⟨i + 1, by go_num, by omega, HKK⟩
        case measure => simp [intOf]; omega
      | false =>
        have HKK : Hid (leading k s.data.toList = i) := Lib.hid (by rw [HI.out, HD.out, leading, if_neg (by rw [hk]; decide)]; omega)
        go_wp2_with (go_at_fn F; refine (HK.out _ _).mono ?_; rintro e w' ⟨rfl, rfl⟩)
        go_wp2
        go_ret
        exact ⟨ret_int (by rw [HKK.out]), rfl⟩
    · obtain rfl : i = s.size := by omega
      have HKK : Hid (leading k s.data.toList = s.size) := Lib.hid (by rw [HI.out, List.drop_of_length_le (by rw [sizeD]; exact Nat.le_refl _), leading]; omega)
      go_wp2
      go_ret
      exact ⟨ret_int (by rw [HKK.out]), rfl⟩

/-- An answer that counts from a place on. -/
def resI (i : Nat) : Option Nat → Int
  | none => -1
  | some n => ((n + i : Nat) : Int)
theorem resI_map (i : Nat) (o : Option Nat) : resI i (o.map (· + 1)) = resI (i + 1) o := by cases o <;> simp [resI]; omega
theorem quoted_skip (q : UInt8) (i : Nat) (l : Bs) : resI i (quotedS q true l) = resI (i + 1) (quotedS q false (l.drop 1)) := by
  cases l with
  | nil => rfl
  | cons c t => rw [quotedS, resI_map]; rfl
theorem inside_skip (q : UInt8) (dp i : Nat) (l : Bs) : resI i (insideS q true dp l) = resI (i + 1) (insideS q false dp (l.drop 1)) := by
  cases l with
  | nil => rfl
  | cons c t => rw [insideS, if_pos rfl, resI_map]; rfl
theorem inside_quote (q : UInt8) (hq : q = 39 ∨ q = 34) (dp : Nat) : ∀ (l : Bs) (sk : Bool), insideS q sk dp l = match quotedS q sk l with
    | none => none
    | some n => (insideS 0 false dp (l.drop (n + 1))).map (· + (n + 1)) := by
  have hq0 : ¬ q = 0 := by rcases hq with rfl | rfl <;> decide
  intro l
  induction l with
  | nil => intro sk; cases sk <;> rfl
  | cons c t ih =>
    intro sk
    have key : ∀ sk', (insideS q sk' dp t).map (· + 1) = match (quotedS q sk' t).map (· + 1) with
        | none => none
        | some n => (insideS 0 false dp ((c :: t).drop (n + 1))).map (· + (n + 1)) := fun sk' => by
      rw [ih sk']
      cases quotedS q sk' t with
      | none => rfl
      | some n =>
        simp only [Option.map_some, List.drop_succ_cons, Option.map_map]
        congr 1
    cases sk with
    | true => rw [insideS, if_pos rfl, quotedS]; exact key false
    | false =>
      rw [insideS, if_neg (by decide), if_neg hq0, quotedS]
      by_cases h1 : c = q
      · have h2 : ¬ (c = 92 ∧ q = 34) := by rintro ⟨rfl, h⟩; rw [h] at h1; exact absurd h1 (by decide)
        rw [if_neg h2, if_pos h1, if_pos h1]
        rfl
      · rw [if_neg h1, if_neg h1]
        by_cases h2 : c = 92 ∧ q = 34
        · rw [if_pos h2, if_pos h2]; exact key true
        · rw [if_neg h2, if_neg h2]; exact key false

set_option maxHeartbeats 400000 in
theorem quoted_any (s : ByteArray) (h0 : 0 < s.size) (w : World) (hs : s.size ≤ 4611686018427387904) :
    Calls Try.prog 90 #[.string s] w fun e w' => e = .returned (.int .i64 (resI 1 (quotedS s[0] false (s.data.toList.drop 1)))) ∧ ∃ k, w' = w.drewN k := by
  obtain ⟨r, hr⟩ : ∃ r, resI 1 (quotedS s[0] false (s.data.toList.drop 1)) = r := ⟨_, rfl⟩
  rw [hr]
  have HR := Lib.hid hr
  clear hr
  go_enter Try.func90, Try.ntmps90
  go_wp2
  go_loopw [3] (fun n wr => ∃ i k : Nat, n = .int .i64 i ∧ wr = w.drewN k ∧ i ≤ s.size + 1 ∧ Hid (resI i (quotedS s[0] false (s.data.toList.drop i)) = r)) (fun n _ => s.size + 1 - (intOf n).toNat)
  case atStart => exact ⟨1, 0, rfl, rfl, by omega, HR⟩
  case round =>
    obtain ⟨i, k, rfl, rfl, hi, HI⟩ := hrel
    by_cases hlt : i < s.size
    · have hd := get_at s i hlt
      have HD := Lib.hid hd
      clear hd
      have b1 := bt2 s[i] s[0]
      have b2 : ((s[i].toNat : Int) == 92) = decide (s[i] = 92) := bt s[i] 92 (by decide)
      have b3 : ((s[0].toNat : Int) == 34) = decide (s[0] = 34) := bt s[0] 34 (by decide)
      by_cases h1 : s[i] = s[0]
      · have HKK : Hid (r = i) := Lib.hid (by rw [← HI.out, HD.out, quotedS, if_pos h1]; simp [resI])
        rw [decide_eq_true h1] at b1
        clear b2 b3 h1
        go_wp2_with fail
        go_quiet (fail)
        go_wp2
        go_ret
        exact ⟨ret_int (by rw [HKK.out]), _, World.drewN_drewN _ _ _⟩
      · rw [decide_eq_false h1] at b1
        by_cases h2 : s[i] = 92 ∧ s[0] = 34
        · have HKK : Hid (resI (i + 2) (quotedS s[0] false (s.data.toList.drop (i + 2))) = r) := Lib.hid (by rw [← HI.out, HD.out, quotedS, if_neg h1, if_pos h2, resI_map, quoted_skip, List.drop_drop])
          rw [decide_eq_true h2.1] at b2
          rw [decide_eq_true h2.2] at b3
          clear h1 h2
          go_wp2_with fail
          go_quiet (fail)
          go_wp2
          go_roundw
          case rel => exact ⟨i + 2, _, by go_num, rfl, by omega, HKK⟩
          case measure => simp [intOf]; omega
        · have HKK : Hid (resI (i + 1) (quotedS s[0] false (s.data.toList.drop (i + 1))) = r) := Lib.hid (by rw [← HI.out, HD.out, quotedS, if_neg h1, if_neg h2, resI_map])
          by_cases h3 : s[i] = 92
          · rw [decide_eq_true h3] at b2
            rw [decide_eq_false (fun h => h2 ⟨h3, h⟩)] at b3
            clear h1 h2 h3
            go_wp2_with fail
            go_quiet (fail)
            go_wp2
            go_roundw
            case rel => exact ⟨i + 1, _, by go_num, rfl, by omega, HKK⟩
            case measure => simp [intOf]; omega
          · rw [decide_eq_false h3] at b2
            clear h1 h2 h3 b3
            go_wp2_with fail
            go_quiet (fail)
            go_wp2
            go_roundw
            case rel => exact ⟨i + 1, _, by go_num, rfl, by omega, HKK⟩
            case measure => simp [intOf]; omega
    · have HKK : Hid (r = -1) := Lib.hid (by rw [← HI.out, List.drop_of_length_le (by rw [← sizeD]; omega)]; rfl)
      go_wp2
      go_ret
      exact ⟨ret_int (by rw [HKK.out]), _, rfl⟩


theorem drop_len (s : ByteArray) (i : Nat) (h : i ≤ s.size) : (nm (s.data.toList.drop i)).size = s.size - i := by rw [nm_size, List.length_drop, sizeD]
theorem quote_of {q : UInt8} (hq : q = 39 ∨ q = 34) (dp i : Nat) (l : Bs) (r : Int) (h : resI (i + 1) (insideS q false dp l) = r) :
    (quotedS q false l = none ∧ r = -1) ∨ ∃ n, quotedS q false l = some n ∧ resI (i + n + 2) (insideS 0 false dp (l.drop (n + 1))) = r := by
  rw [inside_quote q hq] at h
  cases hk : quotedS q false l with
  | none => rw [hk] at h; exact .inl ⟨rfl, h.symm⟩
  | some n =>
    rw [hk] at h
    dsimp only at h
    refine .inr ⟨n, rfl, ?_⟩
    rw [← h]
    cases insideS 0 false dp (l.drop (n + 1)) with
    | none => rfl
    | some m => simp only [resI, Option.map_some]; omega
theorem quoted_lt (q : UInt8) : ∀ (l : Bs) (sk : Bool) (n : Nat), quotedS q sk l = some n → n < l.length := by
  intro l
  induction l with
  | nil => intro sk n h; cases sk <;> cases h
  | cons c t ih =>
    intro sk n h
    have key : ∀ sk', (quotedS q sk' t).map (· + 1) = some n → n < (c :: t).length := fun sk' h => by
      cases hk : quotedS q sk' t with
      | none => rw [hk] at h; cases h
      | some m => rw [hk] at h; have := ih _ _ hk; simp at h ⊢; omega
    cases sk with
    | true => exact key false h
    | false =>
      rw [quotedS] at h
      split at h
      · injection h with h; subst h; simp
      · split at h
        · exact key true h
        · exact key false h

set_option maxRecDepth 100000 in
set_option maxHeartbeats 1600000 in
theorem inside_any (s : ByteArray) (w : World) (hs : s.size ≤ 4611686018427387904) :
    Calls Try.prog 88 #[.string s] w fun e w' => e = .returned (.int .i64 (resI 0 (inside s.data.toList))) ∧ ∃ k, w' = w.drewN k := by
  obtain ⟨r, hr⟩ : ∃ r, resI 0 (inside s.data.toList) = r := ⟨_, rfl⟩
  rw [hr]
  unfold inside at hr
  have HR := Lib.hid hr
  clear hr
  go_enter Try.func88, Try.ntmps88
  go_wp2
  go_loopw [3, 4] (fun o n wr => ∃ i d k : Nat, n = .int .i64 i ∧ o = .int .i64 d ∧ wr = w.drewN k ∧ i ≤ s.size + 1 ∧ d ≤ i ∧ Hid (resI i (insideS 0 false d (s.data.toList.drop i)) = r)) (fun _ n _ => s.size + 1 - (intOf n).toNat)
  case atStart => exact ⟨0, 0, 0, rfl, rfl, rfl, by omega, by omega, HR⟩
  case round =>
    obtain ⟨i, d, k, rfl, rfl, rfl, hi, hdi, HI⟩ := hrel
    by_cases hlt : i < s.size
    · have HD := Lib.hid (get_at s i hlt)
      have b1 : ((s[i].toNat : Int) == 92) = decide (s[i] = 92) := bt s[i] 92 (by decide)
      have b2 : ((s[i].toNat : Int) == 39) = decide (s[i] = 39) := bt s[i] 39 (by decide)
      have b3 : ((s[i].toNat : Int) == 34) = decide (s[i] = 34) := bt s[i] 34 (by decide)
      have b4 : ((s[i].toNat : Int) == 40) = decide (s[i] = 40) := bt s[i] 40 (by decide)
      have b5 : ((s[i].toNat : Int) == 41) = decide (s[i] = 41) := bt s[i] 41 (by decide)
      have HS : Hid (resI i (if s[i] = 92 then (insideS 0 true d (s.data.toList.drop (i + 1))).map (· + 1) else if s[i] = 39 ∨ s[i] = 34 then (insideS s[i] false d (s.data.toList.drop (i + 1))).map (· + 1) else if s[i] = 40 then (insideS 0 false (d + 1) (s.data.toList.drop (i + 1))).map (· + 1) else if s[i] = 41 then (if d = 0 then some 0 else (insideS 0 false (d - 1) (s.data.toList.drop (i + 1))).map (· + 1)) else (insideS 0 false d (s.data.toList.drop (i + 1))).map (· + 1)) = r) := Lib.hid (by have := HI.out; rw [HD.out, insideS, if_neg (by decide), if_pos rfl] at this; exact this)
      clear HI
      by_cases h1 : s[i] = 92
      · have HKK : Hid (resI (i + 2) (insideS 0 false d (s.data.toList.drop (i + 2))) = r) := Lib.hid (by have := HS.out; rw [if_pos h1, resI_map, inside_skip, List.drop_drop] at this; exact this)
        rw [decide_eq_true h1] at b1
        clear b2 b3 b4 b5 h1 HS
        go_wp2
        go_roundw
        case rel => exact ⟨i + 2, d, k, by go_num, rfl, rfl, by omega, by omega, HKK⟩
        case measure => simp [intOf]; omega
      · rw [decide_eq_false h1] at b1
        by_cases h2 : s[i] = 39 ∨ s[i] = 34
        · have hq := quote_of h2 d i (s.data.toList.drop (i + 1)) r (by have := HS.out; rw [if_neg h1, if_pos h2, resI_map] at this; exact this)
          have hsz := drop_len s i (by omega)
          have hext := ext_from s i
          have hg0 : (nm (s.data.toList.drop i))[0]'(by rw [hsz]; omega) = s[i] := by
            have := get_at (nm (s.data.toList.drop i)) 0 (by rw [hsz]; omega)
            exact (List.cons.inj (HD.out.symm.trans this)).1.symm
          have hcall := fun w => quoted_any (nm (s.data.toList.drop i)) (by rw [hsz]; omega) w (by rw [hsz]; omega)
          rw [hg0, nm_data, List.drop_drop] at hcall
          have HC := Lib.hid hcall
          have HX := Lib.hid hext
          have hor : (((s[i].toNat : Int) == 39) = true) ∨ (((s[i].toNat : Int) == 39) = false ∧ ((s[i].toNat : Int) == 34) = true) := by
            rw [b2, b3]
            rcases h2 with h2 | h2
            · exact .inl (by simpa using h2)
            · exact .inr ⟨by rw [h2]; decide, by simpa using h2⟩
          clear b2 b3 b4 b5 h1 h2 HS hsz hcall hext hg0
          rcases hq with ⟨hn, rfl⟩ | ⟨n, hn, hr⟩
          · rw [hn] at HC
            clear hn
            rcases hor with b2 | ⟨b2, b3⟩
            all_goals
              go_wp2_with (go_at_call 90; rw [HX.out]; refine (HC.out _).mono ?_; rintro e w' ⟨rfl, kq, rfl⟩)
              go_wp2
              go_ret
              exact ⟨rfl, _, rfl⟩
          · have hl := quoted_lt _ _ _ _ hn
            rw [List.length_drop, ← sizeD] at hl
            rw [hn] at HC
            have HKK : Hid (resI (i + n + 2) (insideS 0 false d (s.data.toList.drop (i + n + 2))) = r) := Lib.hid (by rw [← hr, List.drop_drop]; congr 3; omega)
            clear hn hr
            have hres : resI 1 (some n) = ((n + 1 : Nat) : Int) := rfl
            rw [hres] at HC
            clear hres
            rcases hor with b2 | ⟨b2, b3⟩
            all_goals
              go_wp2_with (go_at_call 90; rw [HX.out]; refine (HC.out _).mono ?_; rintro e w' ⟨rfl, kq, rfl⟩)
              go_wp2
              go_roundw
              case rel => exact ⟨i + n + 2, d, _, by go_num, rfl, rfl, by omega, by omega, HKK⟩
              case measure => simp [intOf]; omega
        · rw [decide_eq_false (fun h => h2 (.inl h))] at b2
          rw [decide_eq_false (fun h => h2 (.inr h))] at b3
          by_cases h3 : s[i] = 40
          · have HKK : Hid (resI (i + 1) (insideS 0 false (d + 1) (s.data.toList.drop (i + 1))) = r) := Lib.hid (by have := HS.out; rw [if_neg h1, if_neg h2, if_pos h3, resI_map] at this; exact this)
            rw [decide_eq_true h3] at b4
            clear b5 h1 h2 h3 HS
            go_wp2
            go_roundw
            case rel => exact ⟨i + 1, d + 1, k, by go_num, by go_num, rfl, by omega, by omega, HKK⟩
            case measure => simp [intOf]; omega
          · rw [decide_eq_false h3] at b4
            by_cases h4 : s[i] = 41
            · rw [decide_eq_true h4] at b5
              by_cases h5 : d = 0
              · subst h5
                have HKK : Hid (r = i) := Lib.hid (by have := HS.out; rw [if_neg h1, if_neg h2, if_neg h3, if_pos h4, if_pos rfl] at this; rw [← this]; simp [resI])
                clear h1 h2 h3 h4 HS
                go_wp2
                go_ret
                exact ⟨ret_int HKK.out.symm, _, rfl⟩
              · have HKK : Hid (resI (i + 1) (insideS 0 false (d - 1) (s.data.toList.drop (i + 1))) = r) := Lib.hid (by have := HS.out; rw [if_neg h1, if_neg h2, if_neg h3, if_pos h4, if_neg h5, resI_map] at this; exact this)
                clear h1 h2 h3 h4 HS
                have b6 : ((d : Int) == 0) = false := by simpa using h5
                have b7 : 1 ≤ d := by omega
                clear h5
                go_wp2
                go_roundw
                case rel => exact ⟨i + 1, d - 1, k, by go_num, by go_num, rfl, by omega, by omega, HKK⟩
                case measure => simp [intOf]; omega
            · have HKK : Hid (resI (i + 1) (insideS 0 false d (s.data.toList.drop (i + 1))) = r) := Lib.hid (by have := HS.out; rw [if_neg h1, if_neg h2, if_neg h3, if_neg h4, resI_map] at this; exact this)
              rw [decide_eq_false h4] at b5
              clear h1 h2 h3 h4 HS
              go_wp2
              go_roundw
              case rel => exact ⟨i + 1, d, k, by go_num, rfl, rfl, by omega, by omega, HKK⟩
              case measure => simp [intOf]; omega
    · have HKK : Hid (r = -1) := Lib.hid (by rw [← HI.out, List.drop_of_length_le (by rw [← sizeD]; omega)]; rfl)
      go_wp2
      go_ret
      exact ⟨ret_int HKK.out.symm, _, rfl⟩

end Go.Proofs.Ytgajbehlggikdaa.Wd
