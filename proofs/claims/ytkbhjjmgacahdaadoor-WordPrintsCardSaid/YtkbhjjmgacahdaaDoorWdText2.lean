/- DERIVED. Walks over word.Name and over what the document says of bytes, names and parentheses. -/
import Derived.Test.YtkbhjjmgacahdaaDoorWdText
namespace Go.Proofs.YtkbhjjmgacahdaaDoor.Wd
open Go.RowKit
open PathM WdM
set_option linter.unusedVariables false

theorem leading_le (k : UInt8 → Bool) : ∀ l : Bs, leading k l ≤ l.length := by
  intro l
  induction l with
  | nil => exact Nat.le_refl _
  | cons c t ih => rw [leading]; split <;> simp <;> omega
theorem isName_eq (s : ByteArray) (h0 : 0 < s.size) : isName s.data.toList = (decide (s.size ≤ 64) && letter s[0] && decide (leading named s.data.toList = s.size)) := by
  have hd := get_at s 0 h0
  rw [List.drop_zero] at hd
  unfold isName
  rw [← sizeD, hd]
  simp
theorem isName_nil : isName [] = false := rfl

theorem has_any (s : ByteArray) (c : UInt8) (w : World) (hs : s.size ≤ 4611686018427387904) :
    Calls Tryd.prog 47 #[.string s, .int .u8 c.toNat] w fun e w' => e = .returned (.bool (s.data.toList.contains c)) ∧ w = w' := by
  obtain ⟨r, hr⟩ : ∃ r, s.data.toList.contains c = r := ⟨_, rfl⟩
  rw [hr]
  have HR := Lib.hid hr
  clear hr
  go_enter Tryd.func47, Tryd.ntmps47
  go_wp2
  go_loop [5] (fun n => ∃ i : Nat, n = .int .i64 i ∧ i ≤ s.size ∧ Hid ((s.data.toList.drop i).contains c = r)) (fun n => s.size - (intOf n).toNat)
  case atStart => exact ⟨0, rfl, by omega, HR⟩
  case round =>
    obtain ⟨i, rfl, hi, HI⟩ := hrel
    by_cases hlt : i < s.size
    · have HD := Lib.hid (get_at s i hlt)
      have b1 := bt2 s[i] c
      by_cases h1 : s[i] = c
      · have HK : Hid (r = true) := Lib.hid (by rw [← HI.out, HD.out, h1]; simp)
        rw [decide_eq_true h1] at b1
        clear h1
        go_wp2
        go_ret
        exact ⟨ret_bool HK.out.symm, rfl⟩
      · have HK : Hid ((s.data.toList.drop (i + 1)).contains c = r) := Lib.hid (by rw [← HI.out, HD.out, List.contains_cons, beq_eq_false_iff_ne.2 (fun h => h1 h.symm), Bool.false_or])
        rw [decide_eq_false h1] at b1
        clear h1
        go_wp2
        go_round
        case rel => exact ⟨i + 1, by go_num, by omega, HK⟩
        case measure => simp [intOf]; omega
    · have HK : Hid (r = false) := Lib.hid (by rw [← HI.out, List.drop_of_length_le (by rw [← sizeD]; omega)]; rfl)
      go_wp2
      go_ret
      exact ⟨ret_bool HK.out.symm, rfl⟩

theorem rmeta_any (c : UInt8) (w : World) :
    Calls Tryd.prog 35 #[.int .u8 c.toNat] w fun e w' => e = .returned (.bool (meta_ c)) ∧ w = w' := by
  have h1 := fun w => has_any (nm metas) c w (by decide)
  unfold meta_
  rw [nm_data] at h1
  generalize metas.contains c = x at *
  have H := Lib.hid h1
  clear h1
  go_enter Tryd.func35, Tryd.ntmps35
  go_wp2_with (go_at_call 47; refine (H.out _).mono ?_; rintro e w' ⟨rfl, rfl⟩)
  go_ret
  exact ⟨rfl, rfl⟩

/-- How long the name that a text begins with is. -/
def nameLen (l : Bs) : Nat := match l with
  | [] => 0
  | c :: _ => if letter c then leading named l else 0
/-- .. from a place in it on. -/
def nameFrom (n : Nat) (l : Bs) : Nat := if n = 0 then nameLen l else leading named l
set_option maxRecDepth 100000 in
set_option maxHeartbeats 800000 in
theorem nameAt_any (s : ByteArray) (i : Nat) (hi : i ≤ s.size) (w : World) (hs : s.size ≤ 4611686018427387904) :
    Calls Tryd.prog 62 #[.string s, .int .i64 i] w fun e w' => e = .returned (.int .i64 (nameLen (s.data.toList.drop i) : Nat)) ∧ w = w' := by
  have HL := Lib.hid rletter_any
  have HG := Lib.hid rdigit_any
  obtain ⟨r, hr⟩ : ∃ r, nameLen (s.data.toList.drop i) = r := ⟨_, rfl⟩
  rw [hr]
  have HR : Hid (nameFrom 0 (s.data.toList.drop (i + 0)) + 0 = r) := Lib.hid hr
  clear hr
  go_enter Tryd.func62, Tryd.ntmps62
  go_wp2
  go_loop [5] (fun x => ∃ n : Nat, x = .int .i64 n ∧ i + n ≤ s.size ∧ Hid (nameFrom n (s.data.toList.drop (i + n)) + n = r)) (fun x => s.size - (intOf x).toNat)
  case atStart => exact ⟨0, rfl, by omega, HR⟩
  case round =>
    obtain ⟨n, rfl, hn, HI⟩ := hrel
    by_cases hlt : i + n < s.size
    · have HD := Lib.hid (get_at s (i + n) hlt)
      have c0 : (i : Int) + (n : Int) = ((i + n : Nat) : Int) := by omega
      cases h1 : letter s[i + n] with
      | true =>
        have HK : Hid (nameFrom (n + 1) (s.data.toList.drop (i + (n + 1))) + (n + 1) = r) := Lib.hid (by
          have := HI.out
          rw [HD.out] at this
          rw [← this]
          unfold nameFrom nameLen
          have hnm : named s[i + n] = true := by unfold named; rw [h1]; rfl
          rw [if_neg (by omega)]
          dsimp only
          rw [if_pos h1, leading, if_pos hnm]
          rw [show i + (n + 1) = i + n + 1 from rfl]
          split <;> omega)
        have HLX := Lib.hid (HL.out s[i + n])
        rw [h1] at HLX
        clear h1 c0
        go_wp2_with (go_at_call 79; refine (HLX.out _).mono ?_; rintro e w' ⟨rfl, rfl⟩)
        go_wp2
        go_round
        case rel => exact ⟨n + 1, by go_num, by omega, HK⟩
        case measure => simp [intOf]; omega
      | false =>
        have HLX := Lib.hid (HL.out s[i + n])
        rw [h1] at HLX
        have HGX := Lib.hid (HG.out s[i + n])
        by_cases hn0 : n = 0
        · subst hn0
          have HK : Hid (r = 0) := Lib.hid (by
            have := HI.out
            rw [HD.out] at this
            rw [← this]
            unfold nameFrom nameLen
            rw [if_pos rfl]
            dsimp only
            rw [h1]; rfl)
          clear h1 c0
          go_wp2_with (go_at_call 79; refine (HLX.out _).mono ?_; rintro e w' ⟨rfl, rfl⟩)
          go_wp2
          go_ret
          exact ⟨ret_int (by rw [HK.out]; rfl), rfl⟩
        · cases h2 : digit s[i + n] with
          | true =>
            rw [h2] at HGX
            have HK : Hid (nameFrom (n + 1) (s.data.toList.drop (i + (n + 1))) + (n + 1) = r) := Lib.hid (by
              have := HI.out
              rw [HD.out] at this
              rw [← this]
              unfold nameFrom
              have hnm : named s[i + n] = true := by unfold named; rw [h2]; simp
              rw [if_neg (by omega), if_neg hn0, leading, if_pos hnm, show i + (n + 1) = i + n + 1 from rfl]
              omega)
            have hp : 0 < n := by omega
            clear h1 h2 hn0 c0
            go_wp2_with (first | (go_at_call 79; refine (HLX.out _).mono ?_; rintro e w' ⟨rfl, rfl⟩) | (go_at_call 63; refine (HGX.out _).mono ?_; rintro e w' ⟨rfl, rfl⟩))
            go_wp2
            go_round
            case rel => exact ⟨n + 1, by go_num, by omega, HK⟩
            case measure => simp [intOf]; omega
          | false =>
            rw [h2] at HGX
            have HK : Hid (r = n) := Lib.hid (by
              have := HI.out
              rw [HD.out] at this
              rw [← this]
              unfold nameFrom
              have hnm : named s[i + n] = false := by unfold named; rw [h1, h2]; rfl
              rw [if_neg hn0, leading, if_neg (by rw [hnm]; decide)]
              omega)
            have hp : 0 < n := by omega
            clear h1 h2 hn0 c0
            go_wp2_with (first | (go_at_call 79; refine (HLX.out _).mono ?_; rintro e w' ⟨rfl, rfl⟩) | (go_at_call 63; refine (HGX.out _).mono ?_; rintro e w' ⟨rfl, rfl⟩))
            go_wp2
            go_ret
            exact ⟨ret_int (by rw [HK.out]), rfl⟩
    · have HK : Hid (r = n) := Lib.hid (by
        rw [← HI.out, List.drop_of_length_le (by rw [← sizeD]; omega)]
        unfold nameFrom nameLen
        split <;> (dsimp only [leading]; omega))
      go_wp2
      go_ret
      exact ⟨ret_int (by rw [HK.out]), rfl⟩

theorem isName_len (l : Bs) : isName l = (decide (0 < l.length) && decide (l.length ≤ 64) && decide (nameLen l = l.length)) := by
  unfold isName nameLen
  cases l with
  | nil => rfl
  | cons c t =>
    cases h : letter c with
    | true => simp [h]
    | false => simp [h]
set_option maxRecDepth 100000 in
set_option maxHeartbeats 1600000 in
theorem rinside_any (s : ByteArray) (w : World) (hs : s.size ≤ 4611686018427387904) :
    Calls Tryd.prog 66 #[.string s] w fun e w' => e = .returned (.int .i64 (resI 0 (inside s.data.toList))) ∧ w = w' := by
  obtain ⟨r, hr⟩ : ∃ r, resI 0 (inside s.data.toList) = r := ⟨_, rfl⟩
  rw [hr]
  unfold inside at hr
  have HR := Lib.hid hr
  clear hr
  go_enter Tryd.func66, Tryd.ntmps66
  go_wp2
  go_loop [3, 4, 5] (fun o x n => ∃ (i d : Nat) (q : UInt8), n = .int .i64 i ∧ o = .int .i64 d ∧ x = .int .u8 q.toNat ∧ i ≤ s.size + 1 ∧ d ≤ i ∧ Hid (q = 0 ∨ q = 39 ∨ q = 34) ∧ Hid (resI i (insideS q false d (s.data.toList.drop i)) = r)) (fun _ _ n => s.size + 1 - (intOf n).toNat)
  case atStart => exact ⟨0, 0, 0, rfl, rfl, rfl, by omega, by omega, Lib.hid (.inl rfl), HR⟩
  case round =>
    obtain ⟨i, d, q, rfl, rfl, rfl, hi, hdi, HQ, HI⟩ := hrel
    by_cases hlt : i < s.size
    · have HD := Lib.hid (get_at s i hlt)
      have q0 : ((q.toNat : Int) != 0) = !decide (q = 0) := bn q 0 (by decide)
      have b1 : ((s[i].toNat : Int) == 92) = decide (s[i] = 92) := bt s[i] 92 (by decide)
      by_cases hq : q = 0
      · rw [decide_eq_true hq] at q0
        have b2 : ((s[i].toNat : Int) == 39) = decide (s[i] = 39) := bt s[i] 39 (by decide)
        have b3 : ((s[i].toNat : Int) == 34) = decide (s[i] = 34) := bt s[i] 34 (by decide)
        have b4 : ((s[i].toNat : Int) == 40) = decide (s[i] = 40) := bt s[i] 40 (by decide)
        have b5 : ((s[i].toNat : Int) == 41) = decide (s[i] = 41) := bt s[i] 41 (by decide)
        have HS : Hid (resI i (if s[i] = 92 then (insideS 0 true d (s.data.toList.drop (i + 1))).map (· + 1) else if s[i] = 39 ∨ s[i] = 34 then (insideS s[i] false d (s.data.toList.drop (i + 1))).map (· + 1) else if s[i] = 40 then (insideS 0 false (d + 1) (s.data.toList.drop (i + 1))).map (· + 1) else if s[i] = 41 then (if d = 0 then some 0 else (insideS 0 false (d - 1) (s.data.toList.drop (i + 1))).map (· + 1)) else (insideS 0 false d (s.data.toList.drop (i + 1))).map (· + 1)) = r) := Lib.hid (by have := HI.out; rw [hq, HD.out, insideS, if_neg (by decide), if_pos rfl] at this; exact this)
        have HQ0 := Lib.hid hq
        clear hq
        by_cases h1 : s[i] = 92
        · have HK : Hid (resI (i + 2) (insideS q false d (s.data.toList.drop (i + 2))) = r) := Lib.hid (by have := HS.out; rw [if_pos h1, resI_map, inside_skip, List.drop_drop] at this; rw [HQ0.out]; exact this)
          rw [decide_eq_true h1] at b1
          clear b2 b3 b4 b5 h1 HS
          go_wp2
          go_round
          case rel => exact ⟨i + 2, d, q, by go_num, rfl, rfl, by omega, by omega, HQ, HK⟩
          case measure => simp [intOf]; omega
        · rw [decide_eq_false h1] at b1
          by_cases h2 : s[i] = 39 ∨ s[i] = 34
          · have HK : Hid (resI (i + 1) (insideS s[i] false d (s.data.toList.drop (i + 1))) = r) := Lib.hid (by have := HS.out; rw [if_neg h1, if_pos h2, resI_map] at this; exact this)
            have HQ2 : Hid (s[i] = 0 ∨ s[i] = 39 ∨ s[i] = 34) := Lib.hid (.inr h2)
            have hor : (((s[i].toNat : Int) == 39) = true) ∨ (((s[i].toNat : Int) == 39) = false ∧ ((s[i].toNat : Int) == 34) = true) := by
              rw [b2, b3]
              rcases h2 with h2 | h2
              · exact .inl (by simpa using h2)
              · exact .inr ⟨by rw [h2]; decide, by simpa using h2⟩
            clear b2 b3 b4 b5 h1 h2 HS
            rcases hor with b2 | ⟨b2, b3⟩
            all_goals
              go_wp2
              go_round
              case rel => exact ⟨i + 1, d, s[i], by go_num, rfl, rfl, by omega, by omega, HQ2, HK⟩
              case measure => simp [intOf]; omega
          · rw [decide_eq_false (fun h => h2 (.inl h))] at b2
            rw [decide_eq_false (fun h => h2 (.inr h))] at b3
            by_cases h3 : s[i] = 40
            · have HK : Hid (resI (i + 1) (insideS q false (d + 1) (s.data.toList.drop (i + 1))) = r) := Lib.hid (by have := HS.out; rw [if_neg h1, if_neg h2, if_pos h3, resI_map] at this; rw [HQ0.out]; exact this)
              rw [decide_eq_true h3] at b4
              clear b5 h1 h2 h3 HS
              go_wp2
              go_round
              case rel => exact ⟨i + 1, d + 1, q, by go_num, by go_num, rfl, by omega, by omega, HQ, HK⟩
              case measure => simp [intOf]; omega
            · rw [decide_eq_false h3] at b4
              by_cases h4 : s[i] = 41
              · rw [decide_eq_true h4] at b5
                by_cases h5 : d = 0
                · subst h5
                  have HK : Hid (r = i) := Lib.hid (by have := HS.out; rw [if_neg h1, if_neg h2, if_neg h3, if_pos h4, if_pos rfl] at this; rw [← this]; simp [resI])
                  clear h1 h2 h3 h4 HS
                  go_wp2
                  go_ret
                  exact ⟨ret_int HK.out.symm, rfl⟩
                · have HK : Hid (resI (i + 1) (insideS q false (d - 1) (s.data.toList.drop (i + 1))) = r) := Lib.hid (by have := HS.out; rw [if_neg h1, if_neg h2, if_neg h3, if_pos h4, if_neg h5, resI_map] at this; rw [HQ0.out]; exact this)
                  clear h1 h2 h3 h4 HS
                  have b6 : ((d : Int) == 0) = false := by simpa using h5
                  have b7 : 1 ≤ d := by omega
                  clear h5
                  go_wp2
                  go_round
                  case rel => exact ⟨i + 1, d - 1, q, by go_num, by go_num, rfl, by omega, by omega, HQ, HK⟩
                  case measure => simp [intOf]; omega
              · have HK : Hid (resI (i + 1) (insideS q false d (s.data.toList.drop (i + 1))) = r) := Lib.hid (by have := HS.out; rw [if_neg h1, if_neg h2, if_neg h3, if_neg h4, resI_map] at this; rw [HQ0.out]; exact this)
                rw [decide_eq_false h4] at b5
                clear h1 h2 h3 h4 HS
                go_wp2
                go_round
                case rel => exact ⟨i + 1, d, q, by go_num, rfl, rfl, by omega, by omega, HQ, HK⟩
                case measure => simp [intOf]; omega
      · rw [decide_eq_false hq] at q0
        have b3 : ((q.toNat : Int) == 34) = decide (q = 34) := bt q 34 (by decide)
        have b2 := bt2 s[i] q
        have HS : Hid (resI i (if s[i] = 92 ∧ q = 34 then (insideS q true d (s.data.toList.drop (i + 1))).map (· + 1) else if s[i] = q then (insideS 0 false d (s.data.toList.drop (i + 1))).map (· + 1) else (insideS q false d (s.data.toList.drop (i + 1))).map (· + 1)) = r) := Lib.hid (by have := HI.out; rw [HD.out, insideS, if_neg (by decide), if_neg hq] at this; exact this)
        by_cases h1 : s[i] = 92 ∧ q = 34
        · have HK : Hid (resI (i + 2) (insideS q false d (s.data.toList.drop (i + 2))) = r) := Lib.hid (by have := HS.out; rw [if_pos h1, resI_map, inside_skip, List.drop_drop] at this; exact this)
          rw [decide_eq_true h1.1] at b1
          rw [decide_eq_true h1.2] at b3
          clear b2 h1 hq HS
          go_wp2
          go_round
          case rel => exact ⟨i + 2, d, q, by go_num, rfl, rfl, by omega, by omega, HQ, HK⟩
          case measure => simp [intOf]; omega
        · have hor : (((s[i].toNat : Int) == 92) = false) ∨ (((s[i].toNat : Int) == 92) = true ∧ ((q.toNat : Int) == 34) = false) := by
            rw [b1, b3]
            by_cases h : s[i] = 92
            · exact .inr ⟨by simpa using h, by simpa using fun h' => h1 ⟨h, h'⟩⟩
            · exact .inl (by simpa using h)
          by_cases h2 : s[i] = q
          · have HK : Hid (resI (i + 1) (insideS 0 false d (s.data.toList.drop (i + 1))) = r) := Lib.hid (by have := HS.out; rw [if_neg h1, if_pos h2, resI_map] at this; exact this)
            have HQ2 : Hid ((0 : UInt8) = 0 ∨ (0 : UInt8) = 39 ∨ (0 : UInt8) = 34) := Lib.hid (.inl rfl)
            rw [decide_eq_true h2] at b2
            clear b1 b3 h1 h2 hq HS
            rcases hor with b1 | ⟨b1, b3⟩
            all_goals
              go_wp2
              go_round
              case rel => exact ⟨i + 1, d, 0, by go_num, rfl, rfl, by omega, by omega, HQ2, HK⟩
              case measure => simp [intOf]; omega
          · have HK : Hid (resI (i + 1) (insideS q false d (s.data.toList.drop (i + 1))) = r) := Lib.hid (by have := HS.out; rw [if_neg h1, if_neg h2, resI_map] at this; exact this)
            rw [decide_eq_false h2] at b2
            clear b1 b3 h1 h2 hq HS
            rcases hor with b1 | ⟨b1, b3⟩
            all_goals
              go_wp2
              go_round
              case rel => exact ⟨i + 1, d, q, by go_num, rfl, rfl, by omega, by omega, HQ, HK⟩
              case measure => simp [intOf]; omega
    · have HK : Hid (r = -1) := Lib.hid (by rw [← HI.out, List.drop_of_length_le (by rw [← sizeD]; omega)]; rfl)
      clear HQ
      go_wp2
      go_ret
      exact ⟨ret_int HK.out.symm, rfl⟩

end Go.Proofs.YtkbhjjmgacahdaaDoor.Wd
