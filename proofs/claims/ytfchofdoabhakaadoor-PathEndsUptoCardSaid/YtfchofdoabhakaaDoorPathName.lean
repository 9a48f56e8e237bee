/- DERIVED. Walks beneath path.Name: strings.IndexRune and its callers at the bytes / and 0. -/
import Derived.Test.YtfchofdoabhakaaDoorPathRClean
import Derived.Laws.RangeAny
import Derived.Lib.DecodeN
import Derived.WalkMore
import Derived.Deep.LoopGhost
namespace Go.Proofs.YtfchofdoabhakaaDoor
open Go.RowKit
open PathM
set_option linter.unusedVariables false

theorem quiet_add_same {P : Program} {f : FuncId} {args : Array Value} {w : World} {a n : Nat} {v : Value}
    (h : Calls P f args (w.drewN (a + n)) fun e w' => e = .returned v ∧ w' = w.drewN (a + n)) :
    Calls P f args (w.drewN (a + n)) fun e w'' => e = .returned v ∧ ∃ m, w'' = w.drewN (a + m) :=
  h.mono fun _ _ ⟨he, hm⟩ => ⟨he, n, hm⟩

theorem two_lt (b1 b2 : UInt8) : 1 < (⟨#[b1, b2]⟩ : ByteArray).size := Nat.lt_succ_self 1
theorem enc_two (r : Int) (h0 : 128 ≤ r) (h1 : r < 2048) : ∃ b1 b2 : UInt8, Utf8.encode r = ⟨#[b1, b2]⟩ ∧ 128 ≤ b2.toNat := by
  have hv : Utf8.valid r = true := by simp [Utf8.valid]; omega
  refine ⟨UInt8.ofNat (0xC0 + r.toNat / 64), UInt8.ofNat (0x80 + r.toNat % 64), ?_, ?_⟩
  · unfold Utf8.encode
    simp only [hv, if_true]
    rw [if_neg (by omega), if_pos (by omega)]
  · have : r.toNat % 64 < 64 := Nat.mod_lt _ (by omega)
    simp [UInt8.toNat_ofNat']
    omega
theorem enc_more (r : Int) (h0 : 2048 ≤ r) : ∃ n, (Utf8.encode r).size = n + 3 ∧ n ≤ 1 := by
  unfold Utf8.encode
  by_cases hv : Utf8.valid r = true
  · simp only [hv, if_true]
    rw [if_neg (by omega), if_neg (by omega)]
    split
    · exact ⟨0, rfl, by omega⟩
    · exact ⟨1, rfl, by omega⟩
  · simp only [Bool.not_eq_true] at hv
    simp only [hv, Bool.false_eq_true, if_false]
    exact ⟨0, rfl, by omega⟩

set_option maxHeartbeats 2000000 in
set_option maxRecDepth 1000000 in
theorem irune_bad (r : Int) (w : World) (h0 : 128 ≤ r) (h1 : r ≠ 65533) (hv : Lib.validRune r = false) :
    Calls Tryd.prog 45 #[.string ⟨#[47, 0]⟩, .int .i32 r] w fun e w' => e = .returned (.int .i64 (-1)) ∧ w = w' := by
  have hV := fun w => Tryd.utf8_ValidRune r w
  rw [hv] at hV
  have q1 : (r == 65533) = false := beq_eq_false_iff_ne.2 h1
  have q2 : ¬ r < 128 := by omega
  have q3 : (0 : Int) ≤ r := by omega
  have HV := Lib.hid hV; clear hV hv h1
  go_enter Tryd.func45, Tryd.ntmps45
  go_wp2_with (go_at_call 56; refine (HV.out _).mono ?_; rintro e w' ⟨rfl, rfl⟩)
  go_ret
  exact ⟨rfl, rfl⟩

set_option maxHeartbeats 2000000 in
set_option maxRecDepth 1000000 in
theorem irune_long (r : Int) (w : World) (h0 : 2048 ≤ r) (hr : r ≤ 2147483647) (h1 : r ≠ 65533) (hv : Lib.validRune r = true) :
    Calls Tryd.prog 45 #[.string ⟨#[47, 0]⟩, .int .i32 r] w fun e w' => e = .returned (.int .i64 (-1)) ∧ w = w' := by
  have hV := fun w => Tryd.utf8_ValidRune r w
  rw [hv] at hV
  obtain ⟨n, hn, hn1⟩ := enc_more r h0
  obtain ⟨E, hE⟩ : ∃ E, Utf8.encode r = E := ⟨_, rfl⟩
  rw [hE] at hn
  have q1 : (r == 65533) = false := beq_eq_false_iff_ne.2 h1
  have q2 : ¬ r < 128 := by omega
  have q3 : (0 : Int) ≤ r := by omega
  have HV := Lib.hid hV; clear hV hv h1
  go_enter Tryd.func45, Tryd.ntmps45
  go_wp2_with (go_at_call 56; refine (HV.out _).mono ?_; rintro e w' ⟨rfl, rfl⟩)
  go_step3
  go_wp2
  clear hE
  go_loop [9] (fun i => i = .int .i64 ((n : Int) + 2)) (fun i => 0)
  case atStart => exact congrArg (Value.int .i64) (by omega)
  case round =>
    subst hrel
    go_wp2
    go_ret
    exact ⟨rfl, rfl⟩

set_option maxHeartbeats 2000000 in
set_option maxRecDepth 1000000 in
theorem irune_two (r : Int) (w : World) (h0 : 128 ≤ r) (hr : r < 2048) (h1 : r ≠ 65533) (hv : Lib.validRune r = true) :
    Calls Tryd.prog 45 #[.string ⟨#[47, 0]⟩, .int .i32 r] w fun e w' => e = .returned (.int .i64 (-1)) ∧ ∃ k, w' = w.drewN k := by
  have hV := fun w => Tryd.utf8_ValidRune r w
  rw [hv] at hV
  obtain ⟨b1, b2, hE, hb⟩ := enc_two r h0 hr
  have q1 : (r == 65533) = false := beq_eq_false_iff_ne.2 h1
  have q2 : ¬ r < 128 := by omega
  have q3 : (0 : Int) ≤ r := by omega
  have q4 : ((((⟨#[47, 0]⟩ : ByteArray)[1]'(by decide)).toNat : Int) != (((⟨#[b1, b2]⟩ : ByteArray)[1]'(two_lt b1 b2)).toNat : Int)) = true := by
    show ((0 : Int) != (b2.toNat : Int)) = true
    rw [bne, beq_eq_false_iff_ne.2 (by omega)]; rfl
  have hI := fun w => Tryd.strings_IndexByte ⟨#[]⟩ (b2.toNat : Int) w
  rw [show Lib.indexByte (⟨#[]⟩ : ByteArray).data.toList ((b2.toNat : Int)).toNat.toUInt8 = -1 from rfl] at hI
  have HV := Lib.hid hV; have HI := Lib.hid hI; clear hV hI hv h1
  go_enter Tryd.func45, Tryd.ntmps45
  go_wp2_with (go_at_call 56; refine (HV.out _).mono ?_; rintro e w' ⟨rfl, rfl⟩)
  go_step3
  go_wp2
  clear hE
  go_loop [9] (fun i => i = .int .i64 1) (fun i => 0)
  case atStart => first | rfl | trace_state
  case round =>
    subst hrel
    go_wp2
    go_step3
    go_wp2
    go_quiet (fail)
    go_wp2
    go_quiet ((go_at_call 36; exact quiet_add_same (HI.out _)))
    go_wp2
    rw [Exit.noGoto_ret]
    go_wp2
    try rw [Exit.noGoto_ret]
    go_ret
    exact ⟨rfl, _, rfl⟩

set_option maxHeartbeats 4000000 in
set_option maxRecDepth 1000000 in
theorem irune_err (w : World) :
    Calls Tryd.prog 45 #[.string ⟨#[47, 0]⟩, .int .i32 65533] w fun e w' => e = .returned (.int .i64 (-1)) ∧ Below w.heap.size w w' := by
  go_enter Tryd.func45, Tryd.ntmps45
  go_wp2
  go_loopg [5, 6] 2 (fun g _ _ wx => ∃ i : Nat, i + g = 2 ∧ wx = w.iter ⟨#[47, 0]⟩ i)
  case atStart => exact ⟨0, by omega, rfl⟩
  case round =>
    obtain ⟨i, hig, rfl⟩ := hrel
    cases gk with
    | zero =>
      obtain rfl : i = 2 := by omega
      have hnx := run_next_end (P := Tryd.prog) w ⟨#[47, 0]⟩ 2
      go_wp2
      go_ret
      exact ⟨rfl, (Below.refl _ w).alloc (Nat.le_refl _) _⟩
    | succ g =>
      have hi : i < 2 := by omega
      rcases (show i = 0 ∨ i = 1 by omega) with rfl | rfl
      · have hnx := fun ty => run_next_ascii (P := Tryd.prog) w ⟨#[47, 0]⟩ 0 ty (by decide) (by decide)
        go_wp2
        go_roundg g
        case measure => omega
        case rel => exact ⟨1, by omega, rfl⟩
      · have hnx := fun ty => run_next_ascii (P := Tryd.prog) w ⟨#[47, 0]⟩ 1 ty (by decide) (by decide)
        go_wp2
        go_roundg g
        case measure => omega
        case rel => exact ⟨2, by omega, rfl⟩

theorem irune_high (r : Int) (w : World) (h0 : 128 ≤ r) (hr : r ≤ 2147483647) :
    Calls Tryd.prog 45 #[.string ⟨#[47, 0]⟩, .int .i32 r] w fun e w' => e = .returned (.int .i64 (-1)) ∧ Below w.heap.size w w' := by
  by_cases h1 : r = 65533
  · subst h1; exact irune_err w
  · cases hv : Lib.validRune r with
    | false => exact (irune_bad r w h0 h1 hv).mono fun e w' ⟨he, hw⟩ => ⟨he, hw ▸ Below.refl _ _⟩
    | true =>
      by_cases h2 : r < 2048
      · exact (irune_two r w h0 h2 h1 hv).mono fun e w' ⟨he, k, hw⟩ => ⟨he, hw ▸ below_drewN' (Below.refl _ _) k⟩
      · exact (irune_long r w (by omega) hr h1 hv).mono fun e w' ⟨he, hw⟩ => ⟨he, hw ▸ Below.refl _ _⟩

end Go.Proofs.YtfchofdoabhakaaDoor
