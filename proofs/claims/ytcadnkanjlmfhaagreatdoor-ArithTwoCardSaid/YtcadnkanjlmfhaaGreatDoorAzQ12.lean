/- DERIVED. Texts of this claim, joined: ArFirst. -/
import Derived.Test.YtcadnkanjlmfhaaGreatDoorAzQ09
import Derived.Test.YtcadnkanjlmfhaaGreatDoorAzQ11
import Derived.Recover
namespace Go.Proofs.YtcadnkanjlmfhaaGreatDoor.Ar
open Go.RowKit
open PathM WdM ArM
open Go.Proofs.YtcadnkanjlmfhaaGreatDoor.Wd
open Go.Proofs.YtcadnkanjlmfhaaGreatDoor.NumM (conE conN)
set_option linter.unusedVariables false

def sigC : Array Value := #[.string (nm [60, 60, 61]), .string (nm [62, 62, 61]), .string (nm [60, 60]), .string (nm [62, 62]), .string (nm [60, 61]), .string (nm [62, 61]), .string (nm [61, 61]), .string (nm [33, 61]), .string (nm [38, 38]), .string (nm [124, 124]), .string (nm [43, 61]), .string (nm [45, 61]), .string (nm [42, 61]), .string (nm [47, 61]), .string (nm [37, 61]), .string (nm [38, 61]), .string (nm [94, 61]), .string (nm [124, 61]),
  .string (nm [43]), .string (nm [45]), .string (nm [42]), .string (nm [47]), .string (nm [37]), .string (nm [60]), .string (nm [62]), .string (nm [33]), .string (nm [126]), .string (nm [38]), .string (nm [94]), .string (nm [124]), .string (nm [63]), .string (nm [58]), .string (nm [61]), .string (nm [40]), .string (nm [41])]
/-- The array of signs, where the program's text lays it. -/
def SigIn (w : World) : Prop := ∃ T fr, w.heap[0]? = some (.cells sigC T fr)
theorem SigIn.lt {w : World} (h : SigIn w) : 0 < w.heap.size := by
  obtain ⟨T, fr, h⟩ := h
  exact fin_at h
theorem SigIn.block {w w' : World} (h : SigIn w) (hb : w'.heap[0]? = w.heap[0]?) : SigIn w' := by
  obtain ⟨T, fr, h⟩ := h
  exact ⟨T, fr, hb.trans h⟩
theorem SigIn.below {w w' : World} (h : SigIn w) (hb : Below w.heap.size w w') : SigIn w' := h.block (hb.block _ h.lt)
theorem load_signs (w : World) (h : SigIn w) : (loadVar 94 ⟨0, 0, none⟩).run Tryz.prog w = .ok (.agg sigC) w := by
  obtain ⟨T, fr, h⟩ := h
  exact run_loadVar_row w _ T _ sigC fr _ h Tryz.underlying94 rfl (by kernel_rfl)
theorem idx_sig : ∀ (k : Nat) (h : k < 35) (w : World), (Instr.index 94 (.agg sigC) (.int .i64 (k : Nat))).run Tryz.prog w = .ok (.string (nm (signsA.getD k []))) w := by
  intro k h w
  have : ∀ k, k < 35 → ∀ w : World, (Instr.index 94 (.agg sigC) (.int .i64 (k : Nat))).run Tryz.prog w = .ok (.string (nm (signsA.getD k []))) w := fun
  | 0, _ => fun _ => by kernel_rfl
  | 1, _ => fun _ => by kernel_rfl
  | 2, _ => fun _ => by kernel_rfl
  | 3, _ => fun _ => by kernel_rfl
  | 4, _ => fun _ => by kernel_rfl
  | 5, _ => fun _ => by kernel_rfl
  | 6, _ => fun _ => by kernel_rfl
  | 7, _ => fun _ => by kernel_rfl
  | 8, _ => fun _ => by kernel_rfl
  | 9, _ => fun _ => by kernel_rfl
  | 10, _ => fun _ => by kernel_rfl
  | 11, _ => fun _ => by kernel_rfl
  | 12, _ => fun _ => by kernel_rfl
  | 13, _ => fun _ => by kernel_rfl
  | 14, _ => fun _ => by kernel_rfl
  | 15, _ => fun _ => by kernel_rfl
  | 16, _ => fun _ => by kernel_rfl
  | 17, _ => fun _ => by kernel_rfl
  | 18, _ => fun _ => by kernel_rfl
  | 19, _ => fun _ => by kernel_rfl
  | 20, _ => fun _ => by kernel_rfl
  | 21, _ => fun _ => by kernel_rfl
  | 22, _ => fun _ => by kernel_rfl
  | 23, _ => fun _ => by kernel_rfl
  | 24, _ => fun _ => by kernel_rfl
  | 25, _ => fun _ => by kernel_rfl
  | 26, _ => fun _ => by kernel_rfl
  | 27, _ => fun _ => by kernel_rfl
  | 28, _ => fun _ => by kernel_rfl
  | 29, _ => fun _ => by kernel_rfl
  | 30, _ => fun _ => by kernel_rfl
  | 31, _ => fun _ => by kernel_rfl
  | 32, _ => fun _ => by kernel_rfl
  | 33, _ => fun _ => by kernel_rfl
  | 34, _ => fun _ => by kernel_rfl
  | n + 35, h => absurd h (by omega)
  exact this k h w
/-- Where the first sign that stands there is. -/
theorem find_at (s : Bs) : ∀ (l : List Bs), (∃ k, ∃ o, l.find? (fun o => stands o s) = some o ∧ k < l.length ∧ l.getD k [] = o ∧ stands o s = true ∧ ∀ j, j < k → stands (l.getD j []) s = false) ∨ (l.find? (fun o => stands o s) = none ∧ ∀ j, j < l.length → stands (l.getD j []) s = false)
  | [] => .inr ⟨rfl, fun j h => absurd h (by simp)⟩
  | a :: l => by
    rw [List.find?_cons]
    cases ha : stands a s with
    | true => exact .inl ⟨0, a, rfl, by simp, rfl, ha, fun j h => absurd h (by omega)⟩
    | false =>
      rcases find_at s l with ⟨k, o, h1, h2, h3, h4, h5⟩ | ⟨h1, h2⟩
      · refine .inl ⟨k + 1, o, h1, by simpa using h2, h3, h4, fun j hj => ?_⟩
        cases j with
        | zero => exact ha
        | succ j => exact h5 j (by omega)
      · refine .inr ⟨h1, fun j hj => ?_⟩
        cases j with
        | zero => exact ha
        | succ j => exact h2 j (by simpa using hj)
theorem prefix_any (s o : Bs) (w : World) : Calls Tryz.prog 38 #[.string (nm s), .string (nm o)] w fun e w' => e = .returned (.bool (stands o s)) ∧ w' = w := by
  refine (Tryz.strings_HasPrefix (nm s) (nm o) w).mono ?_
  rintro e w' ⟨rfl, rfl⟩
  exact ⟨rfl, rfl⟩
theorem results_cell2 {P : Program} {fn : Func} {p u : Tmp} {ty : TypeId} (h : fn.results = #[.cell p ty, .tmp u]) (tmps : Array Value) (w : World) (g : Nat) (t : TypeId) (cs : Array Value) (fr : Nat × Nat) (d : TypeDesc)
    (hp : tmps.getD p undef = .pointer (some ⟨g, 0, none⟩)) (hg : w.heap[g]? = some (.cells cs t fr))
    (hu : P.underlying ty = some d) (hd : (match d with | .struct _ | .array _ _ => true | _ => false) = true) (hi : (P.info? ty).map (·.size) = some cs.size) :
    (results fn tmps).run P w = .ok (.tuple #[.agg cs, tmps.getD u undef]) w := by
  rw [results_cell_tmp h, hp]
  simp [asAddr, Result.andThen, run_loadVar_row w g t ty cs fr d hg hu hd hi]
/-- How first ends. -/
def FirstPost (m : Except Int Tok) (w : World) (e : Ending) (w' : World) : Prop := Below w.heap.size w w' ∧ match m with
  | .ok t => e = .returned (.tuple #[tokV t, .int .i64 0])
  | .error er => er ≠ 0 ∧ ∃ a b k, e = .returned (.tuple #[.agg #[.string a, .string b, .int .i64 k], .int .i64 er])
theorem FirstPost.yes {m : Except Int Tok} {w w' : World} {t : Tok} {v : Value} (hm : m = .ok t) (hv : v = tokV t) (h : Below w.heap.size w w') : FirstPost m w (.returned (.tuple #[v, .int .i64 0])) w' := by subst hm; subst hv; exact ⟨h, rfl⟩
theorem FirstPost.no {m : Except Int Tok} {w w' : World} {er k : Int} {a b : ByteArray} (hm : m = .error er) (hn : er ≠ 0) (h : Below w.heap.size w w') : FirstPost m w (.returned (.tuple #[.agg #[.string a, .string b, .int .i64 k], .int .i64 er])) w' := by subst hm; exact ⟨h, hn, a, b, k, rfl⟩
theorem tok_set {W : World} {b : Nat} {t : TypeId} {x0 x1 x2 : Value} (h : W.heap[b]? = some (.cells #[x0, x1, x2] t (0, 0))) (y0 y1 y2 : Value) :
    (((W.setCell ⟨b, 0, none⟩ y0).setCell ⟨b, 1, none⟩ y1).setCell ⟨b, 2, none⟩ y2).heap[b]? = some (.cells #[y0, y1, y2] t (0, 0)) :=
  set_blk (j := 2) (set_blk (j := 1) (set_blk (j := 0) h y0) y1) y2
def zTok : Obj := .cells #[.string ⟨#[]⟩, .string ⟨#[]⟩, .int .i64 0] 72
set_option maxRecDepth 100000 in
set_option maxHeartbeats 3200000 in
theorem first_sign (s o : Bs) (k0 : Nat) (w : World) (hs : SigIn w) (hk : k0 < 35) (ho : signsA.getD k0 [] = o) (h1 : stands o s = true) (h2 : ∀ j, j < k0 → stands (signsA.getD j []) s = false) (hm : firstL s = .ok (.sg o)) :
    Calls Tryz.prog 21 #[.string (nm s)] w (FirstPost (firstL s) w) := by
  have hb : Below w.heap.size w (w.alloc (.cells #[.string ⟨#[]⟩, .string ⟨#[]⟩, .int .i64 0] 72)) := (Below.refl _ _).alloc (Nat.le_refl _) _
  obtain ⟨T, fr, hg⟩ := hs.below hb
  have HG := Lib.hid hg
  have HB := Lib.hid hb
  have HI := Lib.hid idx_sig
  have HP := Lib.hid (prefix_any s)
  have H1 := Lib.hid h1
  have H2 := Lib.hid h2
  have HO := Lib.hid ho
  have HF := Lib.hid (FirstPost.yes (m := firstL s) hm (v := .agg #[.string (nm o), .string (nm o), .int .i64 0]) rfl ((Below.refl w.heap.size w).alloc (Nat.le_refl _) (.cells #[.string (nm o), .string (nm o), .int .i64 0] 72)))
  clear hb h1 h2 ho hm hs hg
  generalize hS : nm s = S at *
  clear hS
  generalize firstL s = M at *
  go_enter Tryz.func21, Tryz.ntmps21
  go_wp2_with (refine wpList_load_row rfl 94 _ rfl 0 rfl T sigC fr _ HG.out Tryz.underlying94 rfl (by kernel_rfl) ?_)
  go_loop [10] (fun x => ∃ k : Nat, x = .int .i64 k ∧ k ≤ k0) (fun x => 35 - (intOf x).toNat)
  case atStart => exact ⟨0, rfl, by omega⟩
  case round =>
    obtain ⟨k, rfl, hkk⟩ := hrel
    have hx := HI.out k (by omega)
    have h35 : (k : Int) < 35 := by omega
    have HPK := Lib.hid (HP.out (signsA.getD k []))
    by_cases hlt : k < k0
    · have HN := Lib.hid (H2.out k hlt)
      rw [HN.out] at HPK
      generalize nm (signsA.getD k []) = O at *
      go_wp2_with (go_at_call 38; refine (HPK.out _).mono ?_; rintro e w' ⟨rfl, rfl⟩)
      go_round
      case rel => exact ⟨k + 1, by go_num, by omega⟩
      case measure => simp [intOf]; omega
    · obtain rfl : k = k0 := by omega
      rw [HO.out] at hx HPK
      rw [H1.out] at HPK
      generalize nm o = O at *
      go_wp2_with (go_at_call 38; refine (HPK.out _).mono ?_; rintro e w' ⟨rfl, rfl⟩)
      refine bodyPost_ret (results_cell2 rfl _ _ _ 72 _ (0, 0) _ rfl (heap_alloc_new _ _) Tryz.underlying72 rfl (by kernel_rfl)) rfl ?_
      exact HF.out

set_option maxRecDepth 100000 in
set_option maxHeartbeats 3200000 in
theorem first_none (s : Bs) (L : Nat) (X : ByteArray) (w : World) (hs : SigIn w) (hn : ∀ j, j < 35 → stands (signsA.getD j []) s = false) (hlen : s.length ≤ 8192) (hL : leading named s = L) (hX : nm (s.take L) = X) (h0 : X = ⟨#[]⟩) (m : Except Int Tok) (hm : m = .error 61) :
    Calls Tryz.prog 21 #[.string (nm s)] w (FirstPost m w) := by
  have hb : Below w.heap.size w (w.alloc (.cells #[.string ⟨#[]⟩, .string ⟨#[]⟩, .int .i64 0] 72)) := (Below.refl _ _).alloc (Nat.le_refl _) _
  obtain ⟨T, fr, hg⟩ := hs.below hb
  have HG := Lib.hid hg
  have HI := Lib.hid idx_sig
  have HP := Lib.hid (prefix_any s)
  have H2 := Lib.hid hn
  have hle := ArM.leading_le named s
  rw [hL] at hle
  have hsz : (nm s).size = s.length := nm_size s
  have hXX : (nm s).extract 0 L = X := by rw [ext_to, nm_data]; exact hX
  have HXX := Lib.hid hXX
  have HL0 : Hid (L = leading named ((nm s).data.toList.drop 0) + 0) := Lib.hid (by rw [nm_data, List.drop_zero, hL]; rfl)
  have HN := Lib.hid (fun W => name_any ⟨#[]⟩ W (by show (0 : Nat) ≤ _; omega))
  have HF := Lib.hid (FirstPost.no (m := m) hm (by decide) (a := ⟨#[]⟩) (b := ⟨#[]⟩) (k := 0) hb)
  subst h0
  clear hb hs hg hn hL hX hXX
  rw [← hsz] at hle hlen
  clear hsz
  generalize nm s = S at *
  clear hm
  generalize m = M at *
  go_enter Tryz.func21, Tryz.ntmps21
  go_wp2_with (refine wpList_load_row rfl 94 _ rfl 0 rfl T sigC fr _ HG.out Tryz.underlying94 rfl (by kernel_rfl) ?_)
  go_loop [10] (fun x => ∃ k : Nat, x = .int .i64 k ∧ k ≤ 35) (fun x => 35 - (intOf x).toNat)
  case atStart => exact ⟨0, rfl, by omega⟩
  case round =>
    obtain ⟨k, rfl, hkk⟩ := hrel
    by_cases hlt : k < 35
    · have hx := HI.out k hlt
      have h35 : (k : Int) < 35 := by omega
      have HPK := Lib.hid (HP.out (signsA.getD k []))
      rw [H2.out k hlt] at HPK
      generalize nm (signsA.getD k []) = O at *
      go_wp2_with (go_at_call 38; refine (HPK.out _).mono ?_; rintro e w' ⟨rfl, rfl⟩)
      go_round
      case rel => exact ⟨k + 1, by go_num, by omega⟩
      case measure => simp [intOf]; omega
    · obtain rfl : k = 35 := by omega
      clear HI HP H2 HG hkk hlt
      go_wp2_with fail
      go_loop [6] (fun n => ∃ i : Nat, n = .int .i64 i ∧ i ≤ S.size ∧ Hid (L = leading named (S.data.toList.drop i) + i)) (fun n => S.size - (intOf n).toNat)
      case atStart => exact ⟨0, rfl, by omega, HL0⟩
      case round =>
        obtain ⟨i, rfl, hi, HIL⟩ := hrel
        by_cases hlt : i < S.size
        · have hd := Wd.get_at S i hlt
          have HD := Lib.hid hd
          clear hd
          have HLE := Lib.hid (letter_any S[i])
          have HDI := Lib.hid (Wd.digit_any S[i])
          cases h1 : letter S[i] with
          | true =>
            have HKK : Hid (L = leading named (S.data.toList.drop (i + 1)) + (i + 1)) := Lib.hid (by rw [HIL.out, HD.out, leading, if_pos (by unfold named; rw [h1]; rfl)]; omega)
            rw [h1] at HLE
            clear h1
            go_wp2_with (go_at_call 20; refine (HLE.out _).mono ?_; rintro e w' ⟨rfl, rfl⟩)
            go_round
            case rel => exact ⟨i + 1, by go_num, by omega, HKK⟩
            case measure => simp [intOf]; omega
          | false =>
            rw [h1] at HLE
            cases h2 : digit S[i] with
            | true =>
              have HKK : Hid (L = leading named (S.data.toList.drop (i + 1)) + (i + 1)) := Lib.hid (by rw [HIL.out, HD.out, leading, if_pos (by unfold named; rw [h2]; simp)]; omega)
              rw [h2] at HDI
              clear h1 h2
              go_wp2_with (first | (go_at_call 20; refine (HLE.out _).mono ?_; rintro e w' ⟨rfl, rfl⟩) | (go_at_call 39; refine (HDI.out _).mono ?_; rintro e w' ⟨rfl, rfl⟩))
              go_round
              case rel => exact ⟨i + 1, by go_num, by omega, HKK⟩
              case measure => simp [intOf]; omega
            | false =>
              have hK : L = i := by rw [HIL.out, HD.out, leading, if_neg (by unfold named; rw [h1, h2]; decide)]; omega
              obtain rfl : L = i := hK
              rw [h2] at HDI
              clear h1 h2 HIL HL0
              have hXX := HXX.out
              go_wp2_with (first | (go_at_call 20; refine (HLE.out _).mono ?_; rintro e w' ⟨rfl, rfl⟩) | (go_at_call 41; refine (HN.out _).mono ?_; rintro e w' ⟨rfl, rfl⟩) | (go_at_call 39; refine (HDI.out _).mono ?_; rintro e w' ⟨rfl, rfl⟩))
              refine bodyPost_ret (results_cell2 rfl _ _ _ 72 _ (0, 0) _ rfl (heap_alloc_new _ _) Tryz.underlying72 rfl (by kernel_rfl)) rfl ?_
              exact HF.out
        · have hK : L = i := by rw [HIL.out, List.drop_of_length_le (by rw [← sizeD]; omega), leading]; omega
          obtain rfl : L = i := hK
          clear HIL HL0
          have hXX := HXX.out
          go_wp2_with (first | (go_at_call 41; refine (HN.out _).mono ?_; rintro e w' ⟨rfl, rfl⟩) | fail)
          refine bodyPost_ret (results_cell2 rfl _ _ _ 72 _ (0, 0) _ rfl (heap_alloc_new _ _) Tryz.underlying72 rfl (by kernel_rfl)) rfl ?_
          exact HF.out

set_option maxRecDepth 100000 in
set_option maxHeartbeats 3200000 in
theorem first_bad (s : Bs) (L : Nat) (X : ByteArray) (w : World) (hs : SigIn w) (hn : ∀ j, j < 35 → stands (signsA.getD j []) s = false) (hlen : s.length ≤ 8192) (hL : leading named s = L) (hX : nm (s.take L) = X) (hp : 0 < X.size) (hdg : digit X[0] = false) (hnm : isName X.data.toList = false) (m : Except Int Tok) (hm : m = .error 61) :
    Calls Tryz.prog 21 #[.string (nm s)] w (FirstPost m w) := by
  have hb : Below w.heap.size w (w.alloc (.cells #[.string ⟨#[]⟩, .string ⟨#[]⟩, .int .i64 0] 72)) := (Below.refl _ _).alloc (Nat.le_refl _) _
  obtain ⟨T, fr, hg⟩ := hs.below hb
  have HG := Lib.hid hg
  have HI := Lib.hid idx_sig
  have HP := Lib.hid (prefix_any s)
  have H2 := Lib.hid hn
  have hle := ArM.leading_le named s
  rw [hL] at hle
  have hsz : (nm s).size = s.length := nm_size s
  have hXX : (nm s).extract 0 L = X := by rw [ext_to, nm_data]; exact hX
  have HXX := Lib.hid hXX
  have HL0 : Hid (L = leading named ((nm s).data.toList.drop 0) + 0) := Lib.hid (by rw [nm_data, List.drop_zero, hL]; rfl)
  have HN := Lib.hid (fun W => name_any X W (by rw [← hX, nm_size, List.length_take]; omega))
  rw [hnm] at HN
  have HX0 := Lib.hid (Wd.digit_any X[0])
  rw [hdg] at HX0
  obtain ⟨e1, e2⟩ := emp_no (b := X) (by intro h; rw [sizeD, h] at hp; simp at hp)
  have HF := Lib.hid (FirstPost.no (m := m) hm (by decide) (a := ⟨#[]⟩) (b := ⟨#[]⟩) (k := 0) hb)
  clear hb hs hg hn hL hX hXX
  rw [← hsz] at hle hlen
  clear hsz
  generalize nm s = S at *
  clear hm hdg hnm
  generalize m = M at *
  go_enter Tryz.func21, Tryz.ntmps21
  go_wp2_with (refine wpList_load_row rfl 94 _ rfl 0 rfl T sigC fr _ HG.out Tryz.underlying94 rfl (by kernel_rfl) ?_)
  go_loop [10] (fun x => ∃ k : Nat, x = .int .i64 k ∧ k ≤ 35) (fun x => 35 - (intOf x).toNat)
  case atStart => exact ⟨0, rfl, by omega⟩
  case round =>
    obtain ⟨k, rfl, hkk⟩ := hrel
    by_cases hlt : k < 35
    · have hx := HI.out k hlt
      have h35 : (k : Int) < 35 := by omega
      have HPK := Lib.hid (HP.out (signsA.getD k []))
      rw [H2.out k hlt] at HPK
      generalize nm (signsA.getD k []) = O at *
      go_wp2_with (go_at_call 38; refine (HPK.out _).mono ?_; rintro e w' ⟨rfl, rfl⟩)
      go_round
      case rel => exact ⟨k + 1, by go_num, by omega⟩
      case measure => simp [intOf]; omega
    · obtain rfl : k = 35 := by omega
      clear HI HP H2 HG hkk hlt
      go_wp2_with fail
      go_loop [6] (fun n => ∃ i : Nat, n = .int .i64 i ∧ i ≤ S.size ∧ Hid (L = leading named (S.data.toList.drop i) + i)) (fun n => S.size - (intOf n).toNat)
      case atStart => exact ⟨0, rfl, by omega, HL0⟩
      case round =>
        obtain ⟨i, rfl, hi, HIL⟩ := hrel
        by_cases hlt : i < S.size
        · have hd := Wd.get_at S i hlt
          have HD := Lib.hid hd
          clear hd
          have HLE := Lib.hid (letter_any S[i])
          have HDI := Lib.hid (Wd.digit_any S[i])
          cases h1 : letter S[i] with
          | true =>
            have HKK : Hid (L = leading named (S.data.toList.drop (i + 1)) + (i + 1)) := Lib.hid (by rw [HIL.out, HD.out, leading, if_pos (by unfold named; rw [h1]; rfl)]; omega)
            rw [h1] at HLE
            clear h1
            go_wp2_with (go_at_call 20; refine (HLE.out _).mono ?_; rintro e w' ⟨rfl, rfl⟩)
            go_round
            case rel => exact ⟨i + 1, by go_num, by omega, HKK⟩
            case measure => simp [intOf]; omega
          | false =>
            rw [h1] at HLE
            cases h2 : digit S[i] with
            | true =>
              have HKK : Hid (L = leading named (S.data.toList.drop (i + 1)) + (i + 1)) := Lib.hid (by rw [HIL.out, HD.out, leading, if_pos (by unfold named; rw [h2]; simp)]; omega)
              rw [h2] at HDI
              clear h1 h2
              go_wp2_with (first | (go_at_call 20; refine (HLE.out _).mono ?_; rintro e w' ⟨rfl, rfl⟩) | (go_at_call 39; refine (HDI.out _).mono ?_; rintro e w' ⟨rfl, rfl⟩))
              go_round
              case rel => exact ⟨i + 1, by go_num, by omega, HKK⟩
              case measure => simp [intOf]; omega
            | false =>
              have hK : L = i := by rw [HIL.out, HD.out, leading, if_neg (by unfold named; rw [h1, h2]; decide)]; omega
              obtain rfl : L = i := hK
              rw [h2] at HDI
              clear h1 h2 HIL HL0
              have hXX := HXX.out
              go_wp2_with (first | (go_at_call 20; refine (HLE.out _).mono ?_; rintro e w' ⟨rfl, rfl⟩) | (go_at_call 39; refine (HX0.out _).mono ?_; rintro e w' ⟨rfl, rfl⟩) | (go_at_call 41; refine (HN.out _).mono ?_; rintro e w' ⟨rfl, rfl⟩) | (go_at_call 39; refine (HDI.out _).mono ?_; rintro e w' ⟨rfl, rfl⟩))
              refine bodyPost_ret (results_cell2 rfl _ _ _ 72 _ (0, 0) _ rfl (heap_alloc_new _ _) Tryz.underlying72 rfl (by kernel_rfl)) rfl ?_
              exact HF.out
        · have hK : L = i := by rw [HIL.out, List.drop_of_length_le (by rw [← sizeD]; omega), leading]; omega
          obtain rfl : L = i := hK
          clear HIL HL0
          have hXX := HXX.out
          go_wp2_with (first | (go_at_call 39; refine (HX0.out _).mono ?_; rintro e w' ⟨rfl, rfl⟩) | (go_at_call 41; refine (HN.out _).mono ?_; rintro e w' ⟨rfl, rfl⟩) | fail)
          refine bodyPost_ret (results_cell2 rfl _ _ _ 72 _ (0, 0) _ rfl (heap_alloc_new _ _) Tryz.underlying72 rfl (by kernel_rfl)) rfl ?_
          exact HF.out

set_option maxRecDepth 100000 in
set_option maxHeartbeats 3200000 in
theorem first_name (s : Bs) (L : Nat) (X : ByteArray) (w : World) (hs : SigIn w) (hn : ∀ j, j < 35 → stands (signsA.getD j []) s = false) (hlen : s.length ≤ 8192) (hL : leading named s = L) (hX : nm (s.take L) = X) (hp : 0 < X.size) (hdg : digit X[0] = false) (hnm : isName X.data.toList = true) (m : Except Int Tok) (hm : m = .ok (.nam (s.take L))) :
    Calls Tryz.prog 21 #[.string (nm s)] w (FirstPost m w) := by
  have hb : Below w.heap.size w (w.alloc (.cells #[.string ⟨#[]⟩, .string ⟨#[]⟩, .int .i64 0] 72)) := (Below.refl _ _).alloc (Nat.le_refl _) _
  obtain ⟨T, fr, hg⟩ := hs.below hb
  have HG := Lib.hid hg
  have HI := Lib.hid idx_sig
  have HP := Lib.hid (prefix_any s)
  have H2 := Lib.hid hn
  have hle := ArM.leading_le named s
  rw [hL] at hle
  have hsz : (nm s).size = s.length := nm_size s
  have hXX : (nm s).extract 0 L = X := by rw [ext_to, nm_data]; exact hX
  have HXX := Lib.hid hXX
  have HL0 : Hid (L = leading named ((nm s).data.toList.drop 0) + 0) := Lib.hid (by rw [nm_data, List.drop_zero, hL]; rfl)
  have HN := Lib.hid (fun W => name_any X W (by rw [← hX, nm_size, List.length_take]; omega))
  rw [hnm] at HN
  have HX0 := Lib.hid (Wd.digit_any X[0])
  rw [hdg] at HX0
  obtain ⟨e1, e2⟩ := emp_no (b := X) (by intro h; rw [sizeD, h] at hp; simp at hp)
  have HF := Lib.hid (FirstPost.yes (m := m) hm (v := .agg #[.string ⟨#[110, 97, 109, 101]⟩, .string X, .int .i64 0]) (by rw [← hX]; rfl) ((Below.refl w.heap.size w).alloc (Nat.le_refl _) (.cells #[.string ⟨#[110, 97, 109, 101]⟩, .string X, .int .i64 0] 72)))
  clear hb hs hg hn hL hX hXX
  rw [← hsz] at hle hlen
  clear hsz
  generalize nm s = S at *
  clear hm hdg hnm
  generalize m = M at *
  go_enter Tryz.func21, Tryz.ntmps21
  go_wp2_with (refine wpList_load_row rfl 94 _ rfl 0 rfl T sigC fr _ HG.out Tryz.underlying94 rfl (by kernel_rfl) ?_)
  go_loop [10] (fun x => ∃ k : Nat, x = .int .i64 k ∧ k ≤ 35) (fun x => 35 - (intOf x).toNat)
  case atStart => exact ⟨0, rfl, by omega⟩
  case round =>
    obtain ⟨k, rfl, hkk⟩ := hrel
    by_cases hlt : k < 35
    · have hx := HI.out k hlt
      have h35 : (k : Int) < 35 := by omega
      have HPK := Lib.hid (HP.out (signsA.getD k []))
      rw [H2.out k hlt] at HPK
      generalize nm (signsA.getD k []) = O at *
      go_wp2_with (go_at_call 38; refine (HPK.out _).mono ?_; rintro e w' ⟨rfl, rfl⟩)
      go_round
      case rel => exact ⟨k + 1, by go_num, by omega⟩
      case measure => simp [intOf]; omega
    · obtain rfl : k = 35 := by omega
      clear HI HP H2 HG hkk hlt
      go_wp2_with fail
      go_loop [6] (fun n => ∃ i : Nat, n = .int .i64 i ∧ i ≤ S.size ∧ Hid (L = leading named (S.data.toList.drop i) + i)) (fun n => S.size - (intOf n).toNat)
      case atStart => exact ⟨0, rfl, by omega, HL0⟩
      case round =>
        obtain ⟨i, rfl, hi, HIL⟩ := hrel
        by_cases hlt : i < S.size
        · have hd := Wd.get_at S i hlt
          have HD := Lib.hid hd
          clear hd
          have HLE := Lib.hid (letter_any S[i])
          have HDI := Lib.hid (Wd.digit_any S[i])
          cases h1 : letter S[i] with
          | true =>
            have HKK : Hid (L = leading named (S.data.toList.drop (i + 1)) + (i + 1)) := Lib.hid (by rw [HIL.out, HD.out, leading, if_pos (by unfold named; rw [h1]; rfl)]; omega)
            rw [h1] at HLE
            clear h1
            go_wp2_with (go_at_call 20; refine (HLE.out _).mono ?_; rintro e w' ⟨rfl, rfl⟩)
            go_round
            case rel => exact ⟨i + 1, by go_num, by omega, HKK⟩
            case measure => simp [intOf]; omega
          | false =>
            rw [h1] at HLE
            cases h2 : digit S[i] with
            | true =>
              have HKK : Hid (L = leading named (S.data.toList.drop (i + 1)) + (i + 1)) := Lib.hid (by rw [HIL.out, HD.out, leading, if_pos (by unfold named; rw [h2]; simp)]; omega)
              rw [h2] at HDI
              clear h1 h2
              go_wp2_with (first | (go_at_call 20; refine (HLE.out _).mono ?_; rintro e w' ⟨rfl, rfl⟩) | (go_at_call 39; refine (HDI.out _).mono ?_; rintro e w' ⟨rfl, rfl⟩))
              go_round
              case rel => exact ⟨i + 1, by go_num, by omega, HKK⟩
              case measure => simp [intOf]; omega
            | false =>
              have hK : L = i := by rw [HIL.out, HD.out, leading, if_neg (by unfold named; rw [h1, h2]; decide)]; omega
              obtain rfl : L = i := hK
              rw [h2] at HDI
              clear h1 h2 HIL HL0
              have hXX := HXX.out
              go_wp2_with (first | (go_at_call 20; refine (HLE.out _).mono ?_; rintro e w' ⟨rfl, rfl⟩) | (go_at_call 39; refine (HX0.out _).mono ?_; rintro e w' ⟨rfl, rfl⟩) | (go_at_call 41; refine (HN.out _).mono ?_; rintro e w' ⟨rfl, rfl⟩) | (go_at_call 39; refine (HDI.out _).mono ?_; rintro e w' ⟨rfl, rfl⟩))
              refine bodyPost_ret (results_cell2 rfl _ _ _ 72 _ (0, 0) _ rfl (heap_alloc_new _ _) Tryz.underlying72 rfl (by kernel_rfl)) rfl ?_
              exact HF.out
        · have hK : L = i := by rw [HIL.out, List.drop_of_length_le (by rw [← sizeD]; omega), leading]; omega
          obtain rfl : L = i := hK
          clear HIL HL0
          have hXX := HXX.out
          go_wp2_with (first | (go_at_call 39; refine (HX0.out _).mono ?_; rintro e w' ⟨rfl, rfl⟩) | (go_at_call 41; refine (HN.out _).mono ?_; rintro e w' ⟨rfl, rfl⟩) | fail)
          refine bodyPost_ret (results_cell2 rfl _ _ _ 72 _ (0, 0) _ rfl (heap_alloc_new _ _) Tryz.underlying72 rfl (by kernel_rfl)) rfl ?_
          exact HF.out

set_option maxRecDepth 100000 in
set_option maxHeartbeats 3200000 in
theorem first_num (s : Bs) (L : Nat) (X : ByteArray) (w : World) (hs : SigIn w) (hn : ∀ j, j < 35 → stands (signsA.getD j []) s = false) (hlen : s.length ≤ 8192) (hL : leading named s = L) (hX : nm (s.take L) = X) (hp : 0 < X.size) (hdg : digit X[0] = true) (m : Except Int Tok) (hm : m = if conE X.data.toList = 0 then .ok (.num (s.take L) (conN X.data.toList : Nat)) else .error (conE X.data.toList : Nat)) :
    Calls Tryz.prog 21 #[.string (nm s)] w (FirstPost m w) := by
  have hb : Below w.heap.size w (w.alloc (.cells #[.string ⟨#[]⟩, .string ⟨#[]⟩, .int .i64 0] 72)) := (Below.refl _ _).alloc (Nat.le_refl _) _
  obtain ⟨T, fr, hg⟩ := hs.below hb
  have HG := Lib.hid hg
  have HI := Lib.hid idx_sig
  have HP := Lib.hid (prefix_any s)
  have H2 := Lib.hid hn
  have hle := ArM.leading_le named s
  rw [hL] at hle
  have hsz : (nm s).size = s.length := nm_size s
  have hXX : (nm s).extract 0 L = X := by rw [ext_to, nm_data]; exact hX
  have HXX := Lib.hid hXX
  have HL0 : Hid (L = leading named ((nm s).data.toList.drop 0) + 0) := Lib.hid (by rw [nm_data, List.drop_zero, hL]; rfl)
  have HN := Lib.hid (fun W => constant_any X W (by rw [← hX, nm_size, List.length_take]; unfold maxLen; omega))
  have HX0 := Lib.hid (Wd.digit_any X[0])
  rw [hdg] at HX0
  obtain ⟨e1, e2⟩ := emp_no (b := X) (by intro h; rw [sizeD, h] at hp; simp at hp)
  have HF : Hid (FirstPost m w (.returned (.tuple #[.agg #[.string ⟨#[110, 117, 109, 98, 101, 114]⟩, .string X, .int .i64 (conN X.data.toList : Nat)], .int .i64 (conE X.data.toList : Nat)])) (w.alloc (.cells #[.string ⟨#[110, 117, 109, 98, 101, 114]⟩, .string X, .int .i64 (conN X.data.toList : Nat)] 72))) := Lib.hid (by
    have hb2 : Below w.heap.size w (w.alloc (.cells #[.string ⟨#[110, 117, 109, 98, 101, 114]⟩, .string X, .int .i64 (conN X.data.toList : Nat)] 72)) := (Below.refl _ _).alloc (Nat.le_refl _) _
    by_cases h0 : conE X.data.toList = 0
    · rw [if_pos h0] at hm
      rw [h0]
      exact FirstPost.yes hm (by rw [← hX]; rfl) hb2
    · rw [if_neg h0] at hm
      exact FirstPost.no hm (by omega) hb2)
  generalize ((conN X.data.toList : Nat) : Int) = cn at HN HF
  generalize ((conE X.data.toList : Nat) : Int) = ce at HN HF
  clear hb hs hg hn hL hX hXX
  rw [← hsz] at hle hlen
  clear hsz
  generalize nm s = S at *
  clear hm hdg
  generalize m = M at *
  go_enter Tryz.func21, Tryz.ntmps21
  go_wp2_with (refine wpList_load_row rfl 94 _ rfl 0 rfl T sigC fr _ HG.out Tryz.underlying94 rfl (by kernel_rfl) ?_)
  go_loop [10] (fun x => ∃ k : Nat, x = .int .i64 k ∧ k ≤ 35) (fun x => 35 - (intOf x).toNat)
  case atStart => exact ⟨0, rfl, by omega⟩
  case round =>
    obtain ⟨k, rfl, hkk⟩ := hrel
    by_cases hlt : k < 35
    · have hx := HI.out k hlt
      have h35 : (k : Int) < 35 := by omega
      have HPK := Lib.hid (HP.out (signsA.getD k []))
      rw [H2.out k hlt] at HPK
      generalize nm (signsA.getD k []) = O at *
      go_wp2_with (go_at_call 38; refine (HPK.out _).mono ?_; rintro e w' ⟨rfl, rfl⟩)
      go_round
      case rel => exact ⟨k + 1, by go_num, by omega⟩
      case measure => simp [intOf]; omega
    · obtain rfl : k = 35 := by omega
      clear HI HP H2 HG hkk hlt
      go_wp2_with fail
      go_loop [6] (fun n => ∃ i : Nat, n = .int .i64 i ∧ i ≤ S.size ∧ Hid (L = leading named (S.data.toList.drop i) + i)) (fun n => S.size - (intOf n).toNat)
      case atStart => exact ⟨0, rfl, by omega, HL0⟩
      case round =>
        obtain ⟨i, rfl, hi, HIL⟩ := hrel
        by_cases hlt : i < S.size
        · have hd := Wd.get_at S i hlt
          have HD := Lib.hid hd
          clear hd
          have HLE := Lib.hid (letter_any S[i])
          have HDI := Lib.hid (Wd.digit_any S[i])
          cases h1 : letter S[i] with
          | true =>
            have HKK : Hid (L = leading named (S.data.toList.drop (i + 1)) + (i + 1)) := Lib.hid (by rw [HIL.out, HD.out, leading, if_pos (by unfold named; rw [h1]; rfl)]; omega)
            rw [h1] at HLE
            clear h1
            go_wp2_with (go_at_call 20; refine (HLE.out _).mono ?_; rintro e w' ⟨rfl, rfl⟩)
            go_round
            case rel => exact ⟨i + 1, by go_num, by omega, HKK⟩
            case measure => simp [intOf]; omega
          | false =>
            rw [h1] at HLE
            cases h2 : digit S[i] with
            | true =>
              have HKK : Hid (L = leading named (S.data.toList.drop (i + 1)) + (i + 1)) := Lib.hid (by rw [HIL.out, HD.out, leading, if_pos (by unfold named; rw [h2]; simp)]; omega)
              rw [h2] at HDI
              clear h1 h2
              go_wp2_with (first | (go_at_call 20; refine (HLE.out _).mono ?_; rintro e w' ⟨rfl, rfl⟩) | (go_at_call 39; refine (HDI.out _).mono ?_; rintro e w' ⟨rfl, rfl⟩))
              go_round
              case rel => exact ⟨i + 1, by go_num, by omega, HKK⟩
              case measure => simp [intOf]; omega
            | false =>
              have hK : L = i := by rw [HIL.out, HD.out, leading, if_neg (by unfold named; rw [h1, h2]; decide)]; omega
              obtain rfl : L = i := hK
              rw [h2] at HDI
              clear h1 h2 HIL HL0
              have hXX := HXX.out
              go_wp2_with (first | (go_at_call 20; refine (HLE.out _).mono ?_; rintro e w' ⟨rfl, rfl⟩) | (go_at_call 39; refine (HX0.out _).mono ?_; rintro e w' ⟨rfl, rfl⟩) | (go_at_call 40; refine (HN.out _).mono ?_; rintro e w' ⟨rfl, rfl⟩) | (go_at_call 39; refine (HDI.out _).mono ?_; rintro e w' ⟨rfl, rfl⟩))
              refine bodyPost_ret (results_cell2 rfl _ _ _ 72 _ (0, 0) _ rfl (heap_alloc_new _ _) Tryz.underlying72 rfl (by kernel_rfl)) rfl ?_
              exact HF.out
        · have hK : L = i := by rw [HIL.out, List.drop_of_length_le (by rw [← sizeD]; omega), leading]; omega
          obtain rfl : L = i := hK
          clear HIL HL0
          have hXX := HXX.out
          go_wp2_with (first | (go_at_call 39; refine (HX0.out _).mono ?_; rintro e w' ⟨rfl, rfl⟩) | (go_at_call 40; refine (HN.out _).mono ?_; rintro e w' ⟨rfl, rfl⟩) | fail)
          refine bodyPost_ret (results_cell2 rfl _ _ _ 72 _ (0, 0) _ rfl (heap_alloc_new _ _) Tryz.underlying72 rfl (by kernel_rfl)) rfl ?_
          exact HF.out

theorem first_any (s : Bs) (w : World) (hs : SigIn w) (h0 : s ≠ []) (hl : s.length ≤ 8192) : Calls Tryz.prog 21 #[.string (nm s)] w (FirstPost (firstL s) w) := by
  rcases find_at s signsA with ⟨k, o, h1, h2, h3, h4, h5⟩ | ⟨h1, h2⟩
  · exact first_sign s o k w hs h2 h3 h4 h5 (by unfold firstL; rw [h1])
  · cases hx : s.take (leading named s) with
    | nil => exact first_none s _ _ w hs h2 hl rfl rfl (by rw [hx]; rfl) _ (by unfold firstL; rw [h1, hx])
    | cons c t =>
      have hp : 0 < (nm (s.take (leading named s))).size := by rw [nm_size, hx]; simp
      have hc : (nm (s.take (leading named s)))[0] = c := by
        have := Wd.get_at (nm (s.take (leading named s))) 0 hp
        rw [List.drop_zero, nm_data] at this
        exact (List.cons.inj (hx.symm.trans this)).1.symm
      have hm : firstL s = if digit c then (if conE (c :: t) = 0 then .ok (.num (c :: t) (conN (c :: t) : Nat)) else .error (conE (c :: t) : Nat))
        else if isName (c :: t) then .ok (.nam (c :: t)) else .error 61 := by unfold firstL; rw [h1, hx]
      cases hd : digit c with
      | true =>
        refine first_num s _ _ w hs h2 hl rfl rfl hp (by rw [hc]; exact hd) _ ?_
        rw [hm, nm_data, hx, hd]; rfl
      | false =>
        cases hn : isName (c :: t) with
        | true =>
          refine first_name s _ _ w hs h2 hl rfl rfl hp (by rw [hc]; exact hd) (by rw [nm_data, hx]; exact hn) _ ?_
          rw [hm, hx, hd, hn]; rfl
        | false =>
          refine first_bad s _ _ w hs h2 hl rfl rfl hp (by rw [hc]; exact hd) (by rw [nm_data, hx]; exact hn) _ ?_
          rw [hm, hd, hn]; rfl
end Go.Proofs.YtcadnkanjlmfhaaGreatDoor.Ar
