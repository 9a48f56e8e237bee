/- DERIVED. Walks beneath path.Name, as far as layer 4 calls them. -/
import Derived.Test.YtkmnbbocahjmaaaGreatDoorTPath
import Derived.Laws.RangeAny
import Derived.Lib.DecodeN
import Derived.WalkMore
import Derived.Deep.LoopGhost
import Derived.Lib.IndexAny
import Derived.Lib.OthersKept
namespace Go.Proofs.YtkmnbbocahjmaaaGreatDoor
open Go.RowKit
open PathM
set_option linter.unusedVariables false


theorem quiet_add_same {P : Program} {f : FuncId} {args : Array Value} {w : World} {a n : Nat} {v : Value}
    (h : Calls P f args (w.drewN (a + n)) fun e w' => e = .returned v ∧ w' = w.drewN (a + n)) :
    Calls P f args (w.drewN (a + n)) fun e w'' => e = .returned v ∧ ∃ m, w'' = w.drewN (a + m) :=
  h.mono fun _ _ ⟨he, hm⟩ => ⟨he, n, hm⟩

theorem two_lt (b1 b2 : UInt8) : 1 < (⟨#[b1, b2]⟩ : ByteArray).size := Nat.lt_succ_self 1

theorem enc_two (r : Int) (h0 : 128 ≤ r) (h1 : r < 2048) : ∃ b1 b2 : UInt8, Utf8.encode r = ⟨#[b1, b2]⟩ ∧ 128 ≤ b2.toNat := by
  have hv : Utf8.valid r = true := by simp [Utf8.valid]; omega
  refine ⟨UInt8.ofNat (0xC0 + r.toNat / 64), UInt8.ofNat (0x80 + r.toNat % 64), ?_, ?_⟩
  · unfold Utf8.encode
    simp only [hv, if_true]
    rw [if_neg (by omega), if_pos (by omega)]
  · have : r.toNat % 64 < 64 := Nat.mod_lt _ (by omega)
    simp [UInt8.toNat_ofNat']
    omega

theorem enc_more (r : Int) (h0 : 2048 ≤ r) : ∃ n, (Utf8.encode r).size = n + 3 ∧ n ≤ 1 := by
  unfold Utf8.encode
  by_cases hv : Utf8.valid r = true
  · simp only [hv, if_true]
    rw [if_neg (by omega), if_neg (by omega)]
    split
    · exact ⟨0, rfl, by omega⟩
    · exact ⟨1, rfl, by omega⟩
  · simp only [Bool.not_eq_true] at hv
    simp only [hv, Bool.false_eq_true, if_false]
    exact ⟨0, rfl, by omega⟩

set_option maxHeartbeats 2000000 in
set_option maxRecDepth 1000000 in
theorem irune_bad (r : Int) (w : World) (h0 : 128 ≤ r) (h1 : r ≠ 65533) (hv : Lib.validRune r = false) :
    Calls Tryz.prog 174 #[.string ⟨#[47, 0]⟩, .int .i32 r] w fun e w' => e = .returned (.int .i64 (-1)) ∧ w = w' := by
  have hV := fun w => Tryz.utf8_ValidRune r w
  rw [hv] at hV
  have q1 : (r == 65533) = false := beq_eq_false_iff_ne.2 h1
  have q2 : ¬ r < 128 := by omega
  have q3 : (0 : Int) ≤ r := by omega
  have HV := Lib.hid hV; clear hV hv h1
  go_enter Tryz.func174, Tryz.ntmps174
  go_wp2_with (go_at_call 178; refine (HV.out _).mono ?_; rintro e w' ⟨rfl, rfl⟩)
  go_ret
  exact ⟨rfl, rfl⟩

set_option maxHeartbeats 2000000 in
set_option maxRecDepth 1000000 in
theorem irune_long (r : Int) (w : World) (h0 : 2048 ≤ r) (hr : r ≤ 2147483647) (h1 : r ≠ 65533) (hv : Lib.validRune r = true) :
    Calls Tryz.prog 174 #[.string ⟨#[47, 0]⟩, .int .i32 r] w fun e w' => e = .returned (.int .i64 (-1)) ∧ w = w' := by
  have hV := fun w => Tryz.utf8_ValidRune r w
  rw [hv] at hV
  obtain ⟨n, hn, hn1⟩ := enc_more r h0
  obtain ⟨E, hE⟩ : ∃ E, Utf8.encode r = E := ⟨_, rfl⟩
  rw [hE] at hn
  have q1 : (r == 65533) = false := beq_eq_false_iff_ne.2 h1
  have q2 : ¬ r < 128 := by omega
  have q3 : (0 : Int) ≤ r := by omega
  have HV := Lib.hid hV; clear hV hv h1
  go_enter Tryz.func174, Tryz.ntmps174
  go_wp2_with (go_at_call 178; refine (HV.out _).mono ?_; rintro e w' ⟨rfl, rfl⟩)
  go_step3
  go_wp2
  clear hE
  go_loop [9] (fun i => i = .int .i64 ((n : Int) + 2)) (fun i => 0)
  case atStart => exact congrArg (Value.int .i64) (by omega)
  case round =>
    subst hrel
    go_wp2
    go_ret
    exact ⟨rfl, rfl⟩

set_option maxHeartbeats 2000000 in
set_option maxRecDepth 1000000 in
theorem irune_two (r : Int) (w : World) (h0 : 128 ≤ r) (hr : r < 2048) (h1 : r ≠ 65533) (hv : Lib.validRune r = true) :
    Calls Tryz.prog 174 #[.string ⟨#[47, 0]⟩, .int .i32 r] w fun e w' => e = .returned (.int .i64 (-1)) ∧ ∃ k, w' = w.drewN k := by
  have hV := fun w => Tryz.utf8_ValidRune r w
  rw [hv] at hV
  obtain ⟨b1, b2, hE, hb⟩ := enc_two r h0 hr
  have q1 : (r == 65533) = false := beq_eq_false_iff_ne.2 h1
  have q2 : ¬ r < 128 := by omega
  have q3 : (0 : Int) ≤ r := by omega
  have q4 : ((((⟨#[47, 0]⟩ : ByteArray)[1]'(by decide)).toNat : Int) != (((⟨#[b1, b2]⟩ : ByteArray)[1]'(two_lt b1 b2)).toNat : Int)) = true := by
    show ((0 : Int) != (b2.toNat : Int)) = true
    rw [bne, beq_eq_false_iff_ne.2 (by omega)]; rfl
  have hI := fun w => Tryz.strings_IndexByte ⟨#[]⟩ (b2.toNat : Int) w
  rw [show Lib.indexByte (⟨#[]⟩ : ByteArray).data.toList ((b2.toNat : Int)).toNat.toUInt8 = -1 from rfl] at hI
  have HV := Lib.hid hV; have HI := Lib.hid hI; clear hV hI hv h1
  go_enter Tryz.func174, Tryz.ntmps174
  go_wp2_with (go_at_call 178; refine (HV.out _).mono ?_; rintro e w' ⟨rfl, rfl⟩)
  go_step3
  go_wp2
  clear hE
  go_loop [9] (fun i => i = .int .i64 1) (fun i => 0)
  case atStart => first | rfl | trace_state
  case round =>
    subst hrel
    go_wp2
    go_step3
    go_wp2
    go_quiet (fail)
    go_wp2
    go_quiet ((go_at_call 48; exact quiet_add_same (HI.out _)))
    go_wp2
    rw [Exit.noGoto_ret]
    go_wp2
    try rw [Exit.noGoto_ret]
    go_ret
    exact ⟨rfl, _, rfl⟩

set_option maxHeartbeats 4000000 in
set_option maxRecDepth 1000000 in
theorem irune_err (w : World) :
    Calls Tryz.prog 174 #[.string ⟨#[47, 0]⟩, .int .i32 65533] w fun e w' => e = .returned (.int .i64 (-1)) ∧ Below w.heap.size w w' := by
  go_enter Tryz.func174, Tryz.ntmps174
  go_wp2
  go_loopg [5, 6] 2 (fun g _ _ wx => ∃ i : Nat, i + g = 2 ∧ wx = w.iter ⟨#[47, 0]⟩ i)
  case atStart => exact ⟨0, by omega, rfl⟩
  case round =>
    obtain ⟨i, hig, rfl⟩ := hrel
    cases gk with
    | zero =>
      obtain rfl : i = 2 := by omega
      have hnx := run_next_end (P := Tryz.prog) w ⟨#[47, 0]⟩ 2
      go_wp2
      go_ret
      exact ⟨rfl, (Below.refl _ w).alloc (Nat.le_refl _) _⟩
    | succ g =>
      have hi : i < 2 := by omega
      rcases (show i = 0 ∨ i = 1 by omega) with rfl | rfl
      · have hnx := fun ty => run_next_ascii (P := Tryz.prog) w ⟨#[47, 0]⟩ 0 ty (by decide) (by decide)
        go_wp2
        go_roundg g
        case measure => omega
        case rel => exact ⟨1, by omega, rfl⟩
      · have hnx := fun ty => run_next_ascii (P := Tryz.prog) w ⟨#[47, 0]⟩ 1 ty (by decide) (by decide)
        go_wp2
        go_roundg g
        case measure => omega
        case rel => exact ⟨2, by omega, rfl⟩

theorem irune_high (r : Int) (w : World) (h0 : 128 ≤ r) (hr : r ≤ 2147483647) :
    Calls Tryz.prog 174 #[.string ⟨#[47, 0]⟩, .int .i32 r] w fun e w' => e = .returned (.int .i64 (-1)) ∧ Below w.heap.size w w' := by
  by_cases h1 : r = 65533
  · subst h1; exact irune_err w
  · cases hv : Lib.validRune r with
    | false => exact (irune_bad r w h0 h1 hv).mono fun e w' ⟨he, hw⟩ => ⟨he, hw ▸ Below.refl _ _⟩
    | true =>
      by_cases h2 : r < 2048
      · exact (irune_two r w h0 h2 h1 hv).mono fun e w' ⟨he, k, hw⟩ => ⟨he, hw ▸ below_drewN' (Below.refl _ _) k⟩
      · exact (irune_long r w (by omega) hr h1 hv).mono fun e w' ⟨he, hw⟩ => ⟨he, hw ▸ Below.refl _ _⟩


theorem ret_int {k : IntKind} {a b : Int} (h : a = b) : Ending.returned (.int k a) = .returned (.int k b) := by rw [h]

theorem getD! (s : ByteArray) (i : Nat) (h : i < s.size) : s.get! i = s[i] := by
  have := get_at s i h; simpa using this

/-- What a rune beyond ASCII takes up: bytes beyond ASCII. -/
theorem dec_high (s : ByteArray) (i : Nat) (h : i < s.size) (ha : 128 ≤ (s[i]).toNat) :
    1 ≤ (Utf8.decode s i).2 ∧ i + (Utf8.decode s i).2 ≤ s.size ∧ ∀ (j : Nat) b, i ≤ j → j < i + (Utf8.decode s i).2 → s.data.toList[j]? = some b → 128 ≤ b.toNat := by
  have hg := getD! s i h
  have hd := Lib.decode_at s i
  have hb : ∀ (j : Nat) b, s.data.toList[j]? = some b → (s.get! j).toNat = b.toNat := fun j b hj => by
    have hlt : j < s.size := by rw [sizeD]; exact (List.getElem?_eq_some_iff.1 hj).1
    rw [getD! s j hlt]
    have := getD? s j hlt
    rw [hj] at this; cases this; rfl
  have key : ∀ k, (Utf8.decode s i).2 = k → 1 ≤ k ∧ i + k ≤ s.size ∧ ∀ d, 1 ≤ d → d < k → 128 ≤ (s.get! (i + d)).toNat := by
    intro k hk
    rw [hd] at hk
    unfold Lib.decodeN at hk
    rw [hg, if_neg (by omega)] at hk
    have hs : ∀ d, 1 ≤ d → d < 4 → d = 1 ∨ d = 2 ∨ d = 3 := fun d h1 h2 => by omega
    have h1 : ∀ {a b : Nat}, (a, b).2 = k → b = k := fun h => h
    split at hk
    · rename_i hc
      split at hk
      · obtain rfl := h1 hk
        refine ⟨by omega, by omega, fun d h1 h2 => ?_⟩
        obtain rfl : d = 1 := by omega
        omega
      · obtain rfl := h1 hk
        exact ⟨by omega, by omega, fun d h1 h2 => by omega⟩
    · split at hk
      · rename_i hc
        split at hk
        · obtain rfl := h1 hk
          refine ⟨by omega, by omega, fun d h1 h2 => ?_⟩
          rcases (show d = 1 ∨ d = 2 by omega) with rfl | rfl <;> omega
        · obtain rfl := h1 hk
          exact ⟨by omega, by omega, fun d h1 h2 => by omega⟩
      · split at hk
        · rename_i hc
          split at hk
          · obtain rfl := h1 hk
            refine ⟨by omega, by omega, fun d h1 h2 => ?_⟩
            rcases (show d = 1 ∨ d = 2 ∨ d = 3 by omega) with rfl | rfl | rfl <;> omega
          · obtain rfl := h1 hk
            exact ⟨by omega, by omega, fun d h1 h2 => by omega⟩
        · obtain rfl := h1 hk
          exact ⟨by omega, by omega, fun d h1 h2 => by omega⟩
  obtain ⟨k1, k2, k3⟩ := key _ rfl
  refine ⟨k1, k2, fun j b hij hj hjb => ?_⟩
  by_cases e : j = i
  · subst e
    have := getD? s j h
    rw [hjb] at this; cases this; exact ha
  · rw [← hb j b hjb, show j = i + (j - i) by omega]
    exact k3 (j - i) (by omega) (by omega)

set_option maxHeartbeats 400000 in
theorem sets_any (n : Int) (w : World) :
    Calls Tryz.prog 175 #[.int .i64 n] w fun e w' => e = .returned (.bool (decide (8 < n))) ∧ w = w' := by
  go_enter Tryz.func175, Tryz.ntmps175
  go_wp2
  go_ret
  exact ⟨rfl, rfl⟩

/-- What the loop of a short IndexAny holds. -/
def IaRel (s : ByteArray) (w : World) (g : Nat) (wx : World) : Prop :=
  ∃ i : Nat, i ≤ s.size ∧ s.size - i ≤ g ∧ wx.heap[w.heap.size]? = some (.stringIter s i) ∧ Below w.heap.size w wx ∧ Lib.NoAny s.data.toList [47, 0] i

set_option maxHeartbeats 4000000 in
set_option maxRecDepth 1000000 in
theorem iany_short (s : ByteArray) (w : World) (h8 : s.size ≤ 8) :
    Calls Tryz.prog 173 #[.string s, .string ⟨#[47, 0]⟩] w fun e w' => e = .returned (.int .i64 (Lib.indexAny s.data.toList [47, 0])) ∧ Below w.heap.size w w' := by
  have hA := fun w => sets_any (s.size : Int) w
  rw [show decide ((8 : Int) < (s.size : Int)) = false from decide_eq_false (by omega)] at hA
  obtain ⟨R, hR⟩ : ∃ R, Lib.indexAny s.data.toList [47, 0] = R := ⟨_, rfl⟩
  rw [hR]
  have hst : IaRel s w s.size (w.iter s 0) := ⟨0, by omega, by omega, World.iter_heap w s 0, (Below.refl _ w).alloc (Nat.le_refl _) _, Lib.NoAny.zero _ _⟩
  have HA := Lib.hid hA; have HR := Lib.hid hR; clear hA hR
  go_enter Tryz.func173, Tryz.ntmps173
  go_wp2_with (go_at_call 175; refine (HA.out _).mono ?_; rintro e w' ⟨rfl, rfl⟩)
  go_loopg [9, 10] s.size (fun g _ _ wx => IaRel s w g wx)
  case atStart => exact hst
  case round =>
    clear hst
    obtain ⟨i, hi1, hig, hit, hB, hno⟩ := hrel
    have HN := Lib.hid hno; clear hno
    have hBs := hB.size
    have hlt2 : w.heap.size < wr.heap.size := (Array.getElem?_eq_some_iff.1 hit).1
    by_cases hi : i < s.size
    · obtain ⟨g, rfl⟩ : ∃ g, gk = g + 1 := ⟨gk - 1, by omega⟩
      by_cases hx : (s[i]).toNat < 128
      · have hxl := getD? s i hi
        have hnx := fun ty => Lib.run_next_ascii_at (P := Tryz.prog) wr w.heap.size s i ty hit hi hx
        have hh := Lib.iterAt_heap wr w.heap.size s i (i + 1) hit
        have hb2 := Lib.below_iterAt hB (Nat.le_refl _) s (i + 1)
        generalize s[i] = x at *
        generalize wr.iterAt w.heap.size s (i + 1) = W2 at *
        have hcon := Lib.contains_iff_indexByte [47, 0] x
        have hback : ((x.toNat : Int)).toNat.toUInt8 = x := by simp
        have hI := fun w => Tryz.strings_IndexRune_ascii ⟨#[47, 0]⟩ (x.toNat : Int) w (by omega) (by omega)
        rw [hback, show (⟨#[47, 0]⟩ : ByteArray).data.toList = [47, 0] from rfl] at hI
        have HX := Lib.hid hxl; have HI := Lib.hid hI; clear hxl hI hback hit
        generalize Lib.indexByte [47, 0] x = J at *
        cases hin : ([47, 0] : List UInt8).contains x
        · rw [hin] at hcon
          have hlt : ¬ ((0 : Int) ≤ J) := of_decide_eq_false hcon.symm
          have hn2 := HN.out.succ HX.out hin
          have HN2 := Lib.hid hn2
          clear hcon hin hn2
          go_wp2_with (go_at_call 174; refine (HI.out _).mono ?_; rintro e w' ⟨rfl, hw⟩; rw [hw])
          go_roundg g
          case measure => omega
          case rel => exact ⟨i + 1, by omega, by omega, hh, hb2, HN2.out⟩
        · rw [hin] at hcon
          have hge : (0 : Int) ≤ J := of_decide_eq_true hcon.symm
          have hr := Lib.indexAny_hit HN.out HX.out hin
          have HR2 := Lib.hid hr
          clear hcon hin hr
          go_wp2_with (go_at_call 174; refine (HI.out _).mono ?_; rintro e w' ⟨rfl, hw⟩; rw [hw])
          go_ret
          exact ⟨ret_int (HR2.out.symm.trans HR.out), hb2⟩
      · have hx2 : 128 ≤ (s[i]).toNat := by omega
        obtain ⟨d1, d2, d3⟩ := dec_high s i hi hx2
        obtain ⟨r1, r2⟩ := decode_high s i hi hx2
        have r3 := decode_le s i
        have hnx := fun ty => Lib.run_next_any_at (P := Tryz.prog) wr w.heap.size s i ty hit hi
        have hh := Lib.iterAt_heap wr w.heap.size s i (i + (Utf8.decode s i).2) hit
        have hb2 := Lib.below_iterAt hB (Nat.le_refl _) s (i + (Utf8.decode s i).2)
        have hn2 : Lib.NoAny s.data.toList [47, 0] (i + (Utf8.decode s i).2) := fun j b hj hb => by
          by_cases hji : j < i
          · exact HN.out j b hji hb
          · have := d3 j b (by omega) hj hb
            simp
            constructor
            · intro e; subst e; exact absurd this (by decide)
            · intro e; subst e; exact absurd this (by decide)
        have HN2 := Lib.hid hn2
        generalize (Utf8.decode s i).1 = r at *
        generalize (Utf8.decode s i).2 = k at *
        have hsz2 : (wr.iterAt w.heap.size s (i + k)).heap.size = wr.heap.size := Lib.iterAt_size _ _ _ _
        generalize wr.iterAt w.heap.size s (i + k) = W2 at *
        have hI := fun w => irune_high (r : Int) w (by omega) (by omega)
        have HI := Lib.hid hI; clear hI hn2 d3 hit hx hx2
        go_wp2_with (go_at_call 174; refine (HI.out _).mono ?_; rintro e w3 ⟨rfl, hb3⟩)
        have hh3 : w3.heap[w.heap.size]? = some (.stringIter s (i + k)) := (hb3.block _ (by omega)).trans hh
        go_roundg g
        case measure => omega
        case rel => exact ⟨i + k, by omega, by omega, hh3, hb2.trans (hb3.mono (by omega)), HN2.out⟩
    · have hnx := fun ty => Lib.run_next_end_at (P := Tryz.prog) wr w.heap.size s i ty hit hi
      have hie : i = s.data.toList.length := by rw [← sizeD]; omega
      have hr := Lib.indexAny_none (s := s.data.toList) (chars := [47, 0]) (by rw [← hie]; exact HN.out)
      have HR2 := Lib.hid hr
      clear hr hit hie
      go_wp2
      go_ret
      exact ⟨ret_int (HR2.out.symm.trans HR.out), hB⟩

theorem zero256 (w : World) : (zeroValue 221).run Tryz.prog w = .ok (.agg (Array.replicate 256 (.bool false))) w := by kernel_rfl

theorem iany_any (s : ByteArray) (w : World) (hs : s.size ≤ 64) :
    Calls Tryz.prog 173 #[.string s, .string ⟨#[47, 0]⟩] w fun e w' => e = .returned (.int .i64 (Lib.indexAny s.data.toList [47, 0])) ∧ Below w.heap.size w w' := by
  by_cases h8 : s.size ≤ 8
  · exact iany_short s w h8
  · refine (Tryz.strings_IndexAny_long zero256 s ⟨#[47, 0]⟩ w (by decide) (by omega) (by omega) (by decide) ?_).mono ?_
    · intro j b hj
      have h2 : ([47, 0] : List UInt8)[j]? = some b := hj
      match j, h2 with
      | 0, h => simp at h; subst h; decide
      | 1, h => simp at h; subst h; decide
      | (n + 2), h => simp at h
    · rintro e w' ⟨he, rfl⟩
      exact ⟨he, ((Below.refl _ w).alloc (Nat.le_refl _) _).alloc (by simp) _⟩

theorem any_bad (l : Bs) : decide (0 ≤ Lib.indexAny l [47, 0]) = (l.contains 47 || l.contains 0) := by
  induction l with
  | nil => rfl
  | cons c l ih =>
    have hge := Lib.indexAny_ge [47, 0] l
    have g1 : (c :: l).contains 47 = (((47 : UInt8) == c) || l.contains 47) := List.contains_cons
    have g2 : (c :: l).contains 0 = (((0 : UInt8) == c) || l.contains 0) := List.contains_cons
    rw [Lib.indexAny, g1, g2]
    by_cases h1 : c = 47
    · subst h1; simp
    · by_cases h2 : c = 0
      · subst h2; simp
      · have hc : ([47, 0] : List UInt8).contains c = false := by simp [h1, h2]
        have e1 : ((47 : UInt8) == c) = false := beq_eq_false_iff_ne.2 (fun e => h1 e.symm)
        have e2 : ((0 : UInt8) == c) = false := beq_eq_false_iff_ne.2 (fun e => h2 e.symm)
        rw [hc, e1, e2, Bool.false_or, Bool.false_or, ← ih]
        simp only [Bool.false_eq_true, if_false]
        by_cases hm : Lib.indexAny l [47, 0] = -1
        · rw [hm]; rfl
        · rw [if_neg (by simpa using hm)]
          exact decide_eq_decide.2 (by omega)

set_option maxHeartbeats 400000 in
theorem contains_any (s : ByteArray) (w : World) (hs : s.size ≤ 64) :
    Calls Tryz.prog 170 #[.string s, .string ⟨#[47, 0]⟩] w fun e w' => e = .returned (.bool (s.data.toList.contains 47 || s.data.toList.contains 0)) ∧ Below w.heap.size w w' := by
  have hI := fun w => iany_any s w hs
  have hb := any_bad s.data.toList
  generalize Lib.indexAny s.data.toList [47, 0] = J at *
  generalize (s.data.toList.contains 47 || s.data.toList.contains 0) = R at *
  have HI := Lib.hid hI; have HB := Lib.hid hb; clear hI hb
  go_enter Tryz.func170, Tryz.ntmps170
  go_wp2_with (go_at_call 173; refine (HI.out _).mono ?_; rintro e w1 ⟨rfl, hb1⟩)
  go_ret
  exact ⟨ret_bool HB.out, hb1⟩

set_option maxHeartbeats 1000000 in
theorem name_any (s : ByteArray) (w : World) (hs : s.size ≤ maxLen) :
    Calls Tryz.prog 163 #[.string s] w fun e w' => e = .returned (.bool (nameB s.data.toList)) ∧ Below w.heap.size w w' := by
  have hsz := sizeD s
  have b1 : (s.toList == [46]) = (s.data.toList == [46]) := by rw [listD]
  have b2 : (s.toList == [46, 46]) = (s.data.toList == [46, 46]) := by rw [listD]
  have hN : nameB s.data.toList = (!s.data.toList.isEmpty && decide (s.size ≤ 64) && !s.data.toList.contains 47 && !s.data.toList.contains 0 && !(s.data.toList == [46]) && !(s.data.toList == [46, 46])) := by
    unfold nameB
    rw [← hsz]; rfl
  have hC := fun (h : s.size ≤ 64) w => contains_any s w h
  have he : s.toList.isEmpty = s.data.toList.isEmpty := by rw [listD]
  unfold maxLen at hs
  generalize nameB s.data.toList = N at *
  generalize s.data.toList.contains 47 = p1 at *
  generalize s.data.toList.contains 0 = p2 at *
  generalize (s.data.toList == [46]) = p3 at *
  generalize (s.data.toList == [46, 46]) = p4 at *
  generalize s.data.toList.isEmpty = p5 at *
  have HN := Lib.hid hN; have HC := Lib.hid hC; clear hN hsz hC
  by_cases h2 : s.size ≤ 64
  · have d2 : decide (s.size ≤ 64) = true := decide_eq_true h2
    rw [d2] at HN
    obtain ⟨p6, hq⟩ : ∃ p6, (p1 || p2) = p6 := ⟨_, rfl⟩
    have hc2 := HC.out h2
    rw [hq] at hc2
    have HC2 := Lib.hid hc2
    clear d2 HC hc2
    cases p5 <;> cases p3 <;> cases p4 <;> cases p1 <;> cases p2
    all_goals
      simp at hq
      subst hq
      go_enter Tryz.func163, Tryz.ntmps163
      first
        | (go_wp2_with fail
           go_ret
           exact ⟨ret_bool (by rw [HN.out]; rfl), Below.refl _ _⟩)
        | (go_wp2_with fail
           refine (HC2.out _).mono ?_
           rintro e w1 ⟨rfl, hb1⟩
           go_wp2_with fail
           go_ret
           exact ⟨ret_bool (by rw [HN.out]; rfl), hb1⟩)
  · have d2 : decide (s.size ≤ 64) = false := decide_eq_false h2
    rw [d2] at HN
    clear d2 HC
    cases p5 <;> cases p3 <;> cases p4 <;> cases p1 <;> cases p2
    all_goals
      go_enter Tryz.func163, Tryz.ntmps163
      go_wp2_with fail
      go_ret
      exact ⟨ret_bool (by rw [HN.out]; rfl), Below.refl _ _⟩

end Go.Proofs.YtkmnbbocahjmaaaGreatDoor
