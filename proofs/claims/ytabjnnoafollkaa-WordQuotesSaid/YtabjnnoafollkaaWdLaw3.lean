/- DERIVED. The law WordQuotes, walked. -/
import Derived.Test.YtabjnnoafollkaaWdAwake
import Derived.Test.YtabjnnoafollkaaWdBad
namespace Go.Proofs.Ytabjnnoafollkaa.Wd
open Go.RowKit
open PathM WdM
set_option linter.unusedVariables false

set_option maxRecDepth 100000 in
set_option maxHeartbeats 1600000 in
theorem quotes_long (s name : ByteArray) (w : World) (hm : s.size ≤ maxLen) (hl : 1000 < s.size) :
    Calls Try.prog 5 #[.string s, .string name] w fun e w' => e = .returned (.bool true) ∧ Below w.heap.size w w' := by
  go_enter Try.func5, Try.ntmps5
  go_wp2_with (go_at_call 16; refine (awake_any _).mono ?_; rintro e w' ⟨rfl, hb⟩)
  go_ret
  exact ⟨rfl, hb⟩
/-- What the loop asks. -/
def singleB (l : Bs) : Bool := l.all fun x => x != 39
def plainB (l : Bs) : Bool := l.all fun x => x != 34 && x != 36 && x != 92 && x != 96
theorem singleB_all {l : Bs} (h : singleB l = true) : ∀ x ∈ l, x ≠ 39 := fun x hx => by
  have := List.all_eq_true.1 h x hx
  simpa using this
theorem plainB_all {l : Bs} (h : plainB l = true) : ∀ x ∈ l, plainD x := fun x hx => by
  have := List.all_eq_true.1 h x hx
  simp at this
  exact ⟨this.1.1.1, this.1.1.2, this.1.2, this.2⟩
/-- The worlds behind the loop: what is wanted stands in its block. -/
structure QSt (s : ByteArray) (w W : World) : Prop where
  below : Below w.heap.size w W
  bk : W.heap[w.heap.size]? = some (.cells #[.int .i64 1, .bool true, .string s, .string ⟨#[]⟩, .slice none 0 0] 35 (0, 0))
theorem QSt.step {s : ByteArray} {w W W' : World} (h : QSt s w W) (hb : Below W.heap.size W W') : QSt s w W' :=
  ⟨h.below.trans (hb.mono h.below.size), (hb.block _ (fin_at h.bk)).trans h.bk⟩
theorem QSt.lit {s : ByteArray} {w W : World} (h : QSt s w W) : PIn 1 W (fun _ => True) (.slice (some ⟨w.heap.size, 0, none⟩) 1 1) [litP true s.data.toList] := by
  refine lit_pin (d := 0) [(litP true s.data.toList, .slice none 0 0)] [litP true s.data.toList] h.bk ?_ rfl trivial (by simp) (fun p hp => ?_)
  · show #[Value.int .i64 1, .bool true, .string s, .string ⟨#[]⟩, .slice none 0 0] = #[Value.int .i64 1, .bool true, .string (nm s.data.toList), .string (nm []), .slice none 0 0]
    rw [nm_of]
    rfl
  · rw [List.mem_singleton] at hp
    subst hp
    exact PIn.nil _ _ _ _ _
theorem rsame_eq {D D' : Nat} {v u : Value} {l : List PT} {w : World} {S T : Nat → Prop} (h1 : PIn D w S v l) (h2 : PIn D' w T u l) : Calls Try.prog 18 #[v, u] w fun e w' => e = .returned (.bool true) ∧ ∃ k, w' = w.drewN k := by
  have := rsame_any D D' v u l l w S T h1 h2
  rw [sameL_refl] at this
  exact this
theorem scan_to {t : ByteArray} {W : World} {l : List PT} (hs : t.size ≤ 8192) (h : scan t.data.toList = .ok l []) : Calls Try.prog 17 #[.string t, .int .i64 0] W fun e w' =>
    Below W.heap.size W w' ∧ ∃ A c, e = .returned (.tuple #[.slice A l.length c, .int .i64 (t.size : Nat), .int .i64 0]) ∧ PIn 17 w' (fun _ => True) (.slice A l.length c) l := by
  refine (scan_any t 0 W (Nat.zero_le _) hs).mono ?_
  rintro e w' ⟨hb, v, l2, n, er, rfl, hv, _, hn, hh⟩
  rw [List.drop_zero, h] at hh
  rcases hh with ⟨rfl, h1, _⟩ | ⟨h1, _⟩
  · injection h1 with h2 h3
    subst h2
    have h4 := congrArg List.length h3
    rw [bad_len] at h4
    obtain rfl : n = t.size := by simp at h4; omega
    obtain ⟨A, c, rfl, _⟩ := PIn.shape hv
    exact ⟨hb, A, c, rfl, hv.any⟩
  · cases h1
theorem scan_sgl {s : ByteArray} {W : World} (hl : s.size ≤ 1000) (h : singleB s.data.toList = true) : Calls Try.prog 17 #[.string (⟨#[39]⟩ ++ s ++ ⟨#[39]⟩), .int .i64 0] W fun e w' =>
    Below W.heap.size W w' ∧ ∃ A c, e = .returned (.tuple #[.slice A 1 c, .int .i64 ((s.size : Int) + 2), .int .i64 0]) ∧ PIn 17 w' (fun _ => True) (.slice A 1 c) [litP true s.data.toList] := by
  have hd : (⟨#[39]⟩ ++ s ++ ⟨#[39]⟩ : ByteArray).data.toList = 39 :: (s.data.toList ++ [39]) := by simp
  have hz : (⟨#[39]⟩ ++ s ++ ⟨#[39]⟩ : ByteArray).size = s.size + 2 := by rw [sizeD, hd, sizeD s]; simp
  refine (scan_to (by rw [hz]; omega) (by rw [hd]; exact scan_single _ (singleB_all h))).mono ?_
  rintro e w' ⟨hb, A, c, rfl, hv⟩
  exact ⟨hb, A, c, by rw [hz]; rfl, hv⟩
theorem scan_dbl {s : ByteArray} {W : World} (hl : s.size ≤ 1000) (h : plainB s.data.toList = true) : Calls Try.prog 17 #[.string (⟨#[34]⟩ ++ s ++ ⟨#[34]⟩), .int .i64 0] W fun e w' =>
    Below W.heap.size W w' ∧ ∃ A c, e = .returned (.tuple #[.slice A 1 c, .int .i64 ((s.size : Int) + 2), .int .i64 0]) ∧ PIn 17 w' (fun _ => True) (.slice A 1 c) [litP true s.data.toList] := by
  have hd : (⟨#[34]⟩ ++ s ++ ⟨#[34]⟩ : ByteArray).data.toList = 34 :: (s.data.toList ++ [34]) := by simp
  have hz : (⟨#[34]⟩ ++ s ++ ⟨#[34]⟩ : ByteArray).size = s.size + 2 := by rw [sizeD, hd, sizeD s]; simp
  refine (scan_to (by rw [hz]; omega) (by rw [hd]; exact scan_double _ (plainB_all h))).mono ?_
  rintro e w' ⟨hb, A, c, rfl, hv⟩
  exact ⟨hb, A, c, by rw [hz]; rfl, hv⟩
theorem scan_nam {s : ByteArray} {W : World} (h : isName s.data.toList = true) : Calls Try.prog 17 #[.string (⟨#[36]⟩ ++ s), .int .i64 0] W fun e w' =>
    Below W.heap.size W w' ∧ ∃ A c n, e = .returned (.tuple #[.slice A 1 c, .int .i64 n, .int .i64 0]) ∧ PIn 17 w' (fun _ => True) (.slice A 1 c) [.mk 2 false s.data.toList [] []] := by
  have hd : (⟨#[36]⟩ ++ s : ByteArray).data.toList = 36 :: s.data.toList := by simp
  have hl : s.data.toList.length ≤ 64 := by
    have h2 := h
    unfold isName at h2
    simp only [Bool.and_eq_true, decide_eq_true_eq] at h2
    exact h2.1.1.2
  have hz : (⟨#[36]⟩ ++ s : ByteArray).size ≤ 8192 := by rw [sizeD, hd]; simp only [List.length_cons]; omega
  refine (scan_to hz (by rw [hd]; exact scan_name _ h)).mono ?_
  rintro e w' ⟨hb, A, c, rfl, hv⟩
  exact ⟨hb, A, c, _, rfl, hv⟩
theorem cat_run (a b : ByteArray) (h : a.size + b.size ≤ 9223372036854775807) (W : World) : (Op.stringOp .add a b).run Try.prog W = .ok (.string (a ++ b)) W := run_string_add_sum W _ _ (by simpa using h)
theorem cat_max {name : ByteArray} {B : Nat} (h : name.size + 1 ≤ B) : (⟨#[36]⟩ ++ name : ByteArray).size ≤ B := by
  have e : (⟨#[36]⟩ ++ name : ByteArray).size = name.size + 1 := by
    rw [sizeD, sizeD name]
    simp
  rw [e]; exact h
theorem scan_all (t : ByteArray) (W : World) (hm : t.size ≤ maxLen) : Calls Try.prog 17 #[.string t, .int .i64 0] W fun e w' =>
    Below W.heap.size W w' ∧ ∃ A k c n er, e = .returned (.tuple #[.slice A k c, .int .i64 n, .int .i64 er]) := by
  by_cases hs : t.size ≤ 8192
  · refine (scan_any t 0 W (Nat.zero_le _) hs).mono ?_
    rintro e w' ⟨hb, v, l, n, er, rfl, hv, _⟩
    obtain ⟨A, c, rfl, _⟩ := PIn.shape hv
    exact ⟨hb, A, _, c, n, er, rfl⟩
  · refine (scan_long t 0 W (Nat.zero_le _) (by omega) hm).mono ?_
    rintro e w' ⟨rfl, hb⟩
    exact ⟨hb, none, 0, 0, 0, 1, rfl⟩
theorem take_end (s : ByteArray) (i : Nat) (h : i < s.size) : s.data.toList.take (i + 1) = s.data.toList.take i ++ [s[i]] := by
  have := take_snoc s 0 i (Nat.zero_le _) h
  simpa using this
theorem single_end (s : ByteArray) (i : Nat) (h : i < s.size) : singleB (s.data.toList.take (i + 1)) = (singleB (s.data.toList.take i) && !decide (s[i] = 39)) := by
  rw [take_end s i h]; unfold singleB; rw [List.all_append]; simp [bne, BEq.beq]
theorem plain_end (s : ByteArray) (i : Nat) (h : i < s.size) : plainB (s.data.toList.take (i + 1)) = (plainB (s.data.toList.take i) && (!decide (s[i] = 34) && !decide (s[i] = 36) && !decide (s[i] = 92) && !decide (s[i] = 96))) := by
  rw [take_end s i h]; unfold plainB; rw [List.all_append]; simp [bne, BEq.beq]
theorem and3 (b d : Bool) : (b = false ∧ (b && !d) = false) ∨ (b = true ∧ d = true ∧ (b && !d) = false) ∨ (b = true ∧ d = false ∧ (b && !d) = true) := by cases b <;> cases d <;> simp
theorem and6 (b d1 d2 d3 d4 : Bool) : (b = false ∧ (b && (!d1 && !d2 && !d3 && !d4)) = false) ∨ (b = true ∧ d1 = true ∧ (b && (!d1 && !d2 && !d3 && !d4)) = false) ∨ (b = true ∧ d1 = false ∧ d2 = true ∧ (b && (!d1 && !d2 && !d3 && !d4)) = false) ∨
    (b = true ∧ d1 = false ∧ d2 = false ∧ d3 = true ∧ (b && (!d1 && !d2 && !d3 && !d4)) = false) ∨ (b = true ∧ d1 = false ∧ d2 = false ∧ d3 = false ∧ d4 = true ∧ (b && (!d1 && !d2 && !d3 && !d4)) = false) ∨
    (b = true ∧ d1 = false ∧ d2 = false ∧ d3 = false ∧ d4 = false ∧ (b && (!d1 && !d2 && !d3 && !d4)) = true) := by cases b <;> cases d1 <;> cases d2 <;> cases d3 <;> cases d4 <;> simp
set_option maxRecDepth 100000 in
set_option maxHeartbeats 3200000 in
theorem quotes_short (s name : ByteArray) (w : World) (hm : name.size ≤ maxLen) (hr : name.data.toList.length ≤ reachBytes) (hl : s.size ≤ 1000) :
    Calls Try.prog 5 #[.string s, .string name] w fun e w' => e = .returned (.bool true) ∧ Below w.heap.size w w' := by
  go_enter Try.func5, Try.ntmps5
  go_wp2_with fail
  go_loopg [5, 6, 7] s.size (fun g x5 x6 x7 wr => ∃ i : Nat, ∃ b5 b6 : Bool, g = s.size - i ∧ x5 = .bool b5 ∧ x6 = .bool b6 ∧ x7 = .int .i64 i ∧ wr = w ∧ i ≤ s.size ∧ Hid (singleB (s.data.toList.take i) = b5) ∧ Hid (plainB (s.data.toList.take i) = b6))
  case atStart => exact ⟨0, true, true, by omega, rfl, rfl, rfl, rfl, by omega, Lib.hid rfl, Lib.hid rfl⟩
  case round =>
    obtain ⟨i, b5, b6, rfl, rfl, rfl, rfl, rfl, hi, H5, H6⟩ := hrel
    by_cases hlt : i < s.size
    · have HN5 := Lib.hid (single_end s i hlt)
      have HN6 := Lib.hid (plain_end s i hlt)
      have q39 : ((s[i].toNat : Int) != 39) = !decide (s[i] = 39) := bn s[i] 39 (by decide)
      have q34 : ((s[i].toNat : Int) != 34) = !decide (s[i] = 34) := bn s[i] 34 (by decide)
      have q36 : ((s[i].toNat : Int) != 36) = !decide (s[i] = 36) := bn s[i] 36 (by decide)
      have q92 : ((s[i].toNat : Int) != 92) = !decide (s[i] = 92) := bn s[i] 92 (by decide)
      have q96 : ((s[i].toNat : Int) != 96) = !decide (s[i] = 96) := bn s[i] 96 (by decide)
      rw [H5.out] at HN5
      rw [H6.out] at HN6
      clear H5 H6
      generalize decide (s[i] = 39) = d39 at *
      generalize decide (s[i] = 34) = d34 at *
      generalize decide (s[i] = 36) = d36 at *
      generalize decide (s[i] = 92) = d92 at *
      generalize decide (s[i] = 96) = d96 at *
      have A3 := and3 b5 d39
      have A6 := and6 b6 d34 d36 d92 d96
      generalize (b5 && !d39) = n5 at *
      generalize (b6 && (!d34 && !d36 && !d92 && !d96)) = n6 at *
      rcases A3 with ⟨rfl, rfl⟩ | ⟨rfl, rfl, rfl⟩ | ⟨rfl, rfl, rfl⟩ <;>
      rcases A6 with ⟨rfl, rfl⟩ | ⟨rfl, rfl, rfl⟩ | ⟨rfl, rfl, rfl, rfl⟩ | ⟨rfl, rfl, rfl, rfl, rfl⟩ | ⟨rfl, rfl, rfl, rfl, rfl, rfl⟩ | ⟨rfl, rfl, rfl, rfl, rfl, rfl⟩ <;>
      (go_wp2_with fail
       go_roundg (s.size - (i + 1))
       case rel => exact ⟨i + 1, _, _, rfl, rfl, rfl, by go_num, rfl, by omega, HN5, HN6⟩
       case measure => omega)
    · obtain rfl : i = s.size := by omega
      have hts : s.data.toList.take s.size = s.data.toList := List.take_of_length_le (by rw [← sizeD]; exact Nat.le_refl _)
      rw [hts] at H5 H6
      clear hts hi hlt
      have hn1 : name.size + 1 ≤ 9223372036854775807 := by rw [sizeD]; unfold reachBytes at hr; omega
      have hcat := cat_run ⟨#[36]⟩ name (show (1 : Nat) + name.size ≤ 9223372036854775807 by omega)
      have hnm := Lib.hid hn1
      clear hn1
      have hnz : name.size ≤ 4611686018427387904 := by rw [sizeD]; unfold reachBytes at hr; omega
      have HN := Lib.hid (fun w => name_any name w hnz)
      clear hm hr
      cases b5 with
      | true =>
        cases b6 with
        | true =>
          go_wp2_with fail
          refine calls_gen (QSt s wr ·) ⟨(Below.refl _ _).alloc (Nat.le_refl _) _, heap_alloc_new _ _⟩ ?_
          intro W0 hW0
          have HQ := Lib.hid hW0
          clear hW0
          have hsa := fun W => scan_sgl (W := W) hl H5.out
          refine (hsa _).mono ?_
          clear hsa
          rintro e W1 ⟨hb, A, c, rfl, hv⟩
          have HV := Lib.hid hv
          have HQ2 := Lib.hid (HQ.out.step hb)
          clear hb hv HQ
          have HQ := HQ2
          clear HQ2
          have q2 : IntKind.i64.wrap ((s.size : Int) + 2) = (s.size : Int) + 2 := IntWalk.i64_in _ (by omega)
          go_wp2_with fail
          have hsm := rsame_eq HV.out HQ.out.lit
          refine hsm.mono ?_
          clear hsm
          rintro e W2 ⟨rfl, ks, rfl⟩
          have HQ2 := Lib.hid (HQ.out.step (below_drewN' (Below.refl _ _) ks))
          clear HV HQ
          have HQ := HQ2
          clear HQ2
          go_wp2_with fail
          have hsa := fun W => scan_dbl (W := W) hl H6.out
          refine (hsa _).mono ?_
          clear hsa
          rintro e W3 ⟨hb, A, c, rfl, hv⟩
          have HV := Lib.hid hv
          have HQ2 := Lib.hid (HQ.out.step hb)
          clear hb hv HQ
          have HQ := HQ2
          clear HQ2
          have q2 : IntKind.i64.wrap ((s.size : Int) + 2) = (s.size : Int) + 2 := IntWalk.i64_in _ (by omega)
          go_wp2_with fail
          have hsm := rsame_eq HV.out HQ.out.lit
          refine hsm.mono ?_
          clear hsm
          rintro e W4 ⟨rfl, ks, rfl⟩
          have HQ2 := Lib.hid (HQ.out.step (below_drewN' (Below.refl _ _) ks))
          clear HV HQ
          have HQ := HQ2
          clear HQ2
          go_wp2_with fail
          cases hin : isName name.data.toList with
          | false =>
            rw [hin] at HN
            clear hin
            have hsa := fun W => scan_all _ W (maxLen_ok (cat_max hnm.out))
            clear hnm hcat
            refine (hsa _).mono ?_
            clear hsa
            rintro e W5 ⟨hb5, A5, k5, c5, n5, er5, rfl⟩
            have HQ5 := Lib.hid (HQ.out.step hb5)
            clear hb5
            go_wp2_with (first | (go_at_call 12; refine (HN.out _).mono ?_; rintro e w' ⟨rfl, rfl⟩) | (go_at_call 16; refine (awake_any _).mono ?_; rintro e w' ⟨rfl, hb⟩))
            go_ret
            exact ⟨rfl, HQ5.out.below.trans (hb.mono HQ5.out.below.size)⟩
          | true =>
            rw [hin] at HN
            have hsa := fun W => scan_nam (W := W) hin
            clear hnm hcat
            refine (hsa _).mono ?_
            clear hsa
            rintro e W5 ⟨hb5, A5, c5, n5, rfl, hv5⟩
            have HQ5 := Lib.hid (HQ.out.step hb5)
            have HV5 := Lib.hid hv5
            clear hb5 hv5 hin
            go_wp2_with (go_at_call 12; refine (HN.out _).mono ?_; rintro e w' ⟨rfl, rfl⟩)
            refine calls_gen (fun W => PIn 17 W (fun _ => True) (.slice A5 1 c5) [.mk 2 false name.data.toList [] []] ∧ PIn 1 W (fun _ => True) (.slice (some ⟨W5.heap.size, 0, none⟩) 1 1) [.mk 2 false name.data.toList [] []] ∧ QSt s wr W) ?_ ?_
            · have hn := heap_alloc_new W5 (.cells #[.int .i64 2, .bool false, .string name, .string ⟨#[]⟩, .slice none 0 0] 35)
              refine ⟨HV5.out.alloc2, ?_, HQ5.out.step ((Below.refl _ _).alloc (Nat.le_refl _) _)⟩
              refine lit_pin (d := 0) [(.mk 2 false name.data.toList [] [], .slice none 0 0)] [.mk 2 false name.data.toList [] []] hn ?_ rfl trivial (by simp) (fun p hp => ?_)
              · show #[Value.int .i64 2, .bool false, .string name, .string ⟨#[]⟩, .slice none 0 0] = #[Value.int .i64 2, .bool false, .string (nm name.data.toList), .string (nm []), .slice none 0 0]
                rw [nm_of]
                rfl
              · rw [List.mem_singleton] at hp
                subst hp
                exact PIn.nil _ _ _ _ _
            intro W6 hW6
            have hsm := rsame_eq hW6.1 hW6.2.1
            refine hsm.mono ?_
            clear hsm
            rintro e W7 ⟨rfl, k7, rfl⟩
            have HQ7 := Lib.hid (hW6.2.2.step (below_drewN' (Below.refl _ _) k7))
            clear hW6
            go_wp2_with (go_at_call 16; refine (awake_any _).mono ?_; rintro e w' ⟨rfl, hb⟩)
            go_ret
            exact ⟨rfl, HQ7.out.below.trans (hb.mono HQ7.out.below.size)⟩
        | false =>
          go_wp2_with fail
          refine calls_gen (QSt s wr ·) ⟨(Below.refl _ _).alloc (Nat.le_refl _) _, heap_alloc_new _ _⟩ ?_
          intro W0 hW0
          have HQ := Lib.hid hW0
          clear hW0
          have hsa := fun W => scan_sgl (W := W) hl H5.out
          refine (hsa _).mono ?_
          clear hsa
          rintro e W1 ⟨hb, A, c, rfl, hv⟩
          have HV := Lib.hid hv
          have HQ2 := Lib.hid (HQ.out.step hb)
          clear hb hv HQ
          have HQ := HQ2
          clear HQ2
          have q2 : IntKind.i64.wrap ((s.size : Int) + 2) = (s.size : Int) + 2 := IntWalk.i64_in _ (by omega)
          go_wp2_with fail
          have hsm := rsame_eq HV.out HQ.out.lit
          refine hsm.mono ?_
          clear hsm
          rintro e W2 ⟨rfl, ks, rfl⟩
          have HQ2 := Lib.hid (HQ.out.step (below_drewN' (Below.refl _ _) ks))
          clear HV HQ
          have HQ := HQ2
          clear HQ2
          go_wp2_with fail
          cases hin : isName name.data.toList with
          | false =>
            rw [hin] at HN
            clear hin
            have hsa := fun W => scan_all _ W (maxLen_ok (cat_max hnm.out))
            clear hnm hcat
            refine (hsa _).mono ?_
            clear hsa
            rintro e W5 ⟨hb5, A5, k5, c5, n5, er5, rfl⟩
            have HQ5 := Lib.hid (HQ.out.step hb5)
            clear hb5
            go_wp2_with (first | (go_at_call 12; refine (HN.out _).mono ?_; rintro e w' ⟨rfl, rfl⟩) | (go_at_call 16; refine (awake_any _).mono ?_; rintro e w' ⟨rfl, hb⟩))
            go_ret
            exact ⟨rfl, HQ5.out.below.trans (hb.mono HQ5.out.below.size)⟩
          | true =>
            rw [hin] at HN
            have hsa := fun W => scan_nam (W := W) hin
            clear hnm hcat
            refine (hsa _).mono ?_
            clear hsa
            rintro e W5 ⟨hb5, A5, c5, n5, rfl, hv5⟩
            have HQ5 := Lib.hid (HQ.out.step hb5)
            have HV5 := Lib.hid hv5
            clear hb5 hv5 hin
            go_wp2_with (go_at_call 12; refine (HN.out _).mono ?_; rintro e w' ⟨rfl, rfl⟩)
            refine calls_gen (fun W => PIn 17 W (fun _ => True) (.slice A5 1 c5) [.mk 2 false name.data.toList [] []] ∧ PIn 1 W (fun _ => True) (.slice (some ⟨W5.heap.size, 0, none⟩) 1 1) [.mk 2 false name.data.toList [] []] ∧ QSt s wr W) ?_ ?_
            · have hn := heap_alloc_new W5 (.cells #[.int .i64 2, .bool false, .string name, .string ⟨#[]⟩, .slice none 0 0] 35)
              refine ⟨HV5.out.alloc2, ?_, HQ5.out.step ((Below.refl _ _).alloc (Nat.le_refl _) _)⟩
              refine lit_pin (d := 0) [(.mk 2 false name.data.toList [] [], .slice none 0 0)] [.mk 2 false name.data.toList [] []] hn ?_ rfl trivial (by simp) (fun p hp => ?_)
              · show #[Value.int .i64 2, .bool false, .string name, .string ⟨#[]⟩, .slice none 0 0] = #[Value.int .i64 2, .bool false, .string (nm name.data.toList), .string (nm []), .slice none 0 0]
                rw [nm_of]
                rfl
              · rw [List.mem_singleton] at hp
                subst hp
                exact PIn.nil _ _ _ _ _
            intro W6 hW6
            have hsm := rsame_eq hW6.1 hW6.2.1
            refine hsm.mono ?_
            clear hsm
            rintro e W7 ⟨rfl, k7, rfl⟩
            have HQ7 := Lib.hid (hW6.2.2.step (below_drewN' (Below.refl _ _) k7))
            clear hW6
            go_wp2_with (go_at_call 16; refine (awake_any _).mono ?_; rintro e w' ⟨rfl, hb⟩)
            go_ret
            exact ⟨rfl, HQ7.out.below.trans (hb.mono HQ7.out.below.size)⟩
      | false =>
        cases b6 with
        | true =>
          go_wp2_with fail
          refine calls_gen (QSt s wr ·) ⟨(Below.refl _ _).alloc (Nat.le_refl _) _, heap_alloc_new _ _⟩ ?_
          intro W0 hW0
          have HQ := Lib.hid hW0
          clear hW0
          have hsa := fun W => scan_dbl (W := W) hl H6.out
          refine (hsa _).mono ?_
          clear hsa
          rintro e W3 ⟨hb, A, c, rfl, hv⟩
          have HV := Lib.hid hv
          have HQ2 := Lib.hid (HQ.out.step hb)
          clear hb hv HQ
          have HQ := HQ2
          clear HQ2
          have q2 : IntKind.i64.wrap ((s.size : Int) + 2) = (s.size : Int) + 2 := IntWalk.i64_in _ (by omega)
          go_wp2_with fail
          have hsm := rsame_eq HV.out HQ.out.lit
          refine hsm.mono ?_
          clear hsm
          rintro e W4 ⟨rfl, ks, rfl⟩
          have HQ2 := Lib.hid (HQ.out.step (below_drewN' (Below.refl _ _) ks))
          clear HV HQ
          have HQ := HQ2
          clear HQ2
          go_wp2_with fail
          cases hin : isName name.data.toList with
          | false =>
            rw [hin] at HN
            clear hin
            have hsa := fun W => scan_all _ W (maxLen_ok (cat_max hnm.out))
            clear hnm hcat
            refine (hsa _).mono ?_
            clear hsa
            rintro e W5 ⟨hb5, A5, k5, c5, n5, er5, rfl⟩
            have HQ5 := Lib.hid (HQ.out.step hb5)
            clear hb5
            go_wp2_with (first | (go_at_call 12; refine (HN.out _).mono ?_; rintro e w' ⟨rfl, rfl⟩) | (go_at_call 16; refine (awake_any _).mono ?_; rintro e w' ⟨rfl, hb⟩))
            go_ret
            exact ⟨rfl, HQ5.out.below.trans (hb.mono HQ5.out.below.size)⟩
          | true =>
            rw [hin] at HN
            have hsa := fun W => scan_nam (W := W) hin
            clear hnm hcat
            refine (hsa _).mono ?_
            clear hsa
            rintro e W5 ⟨hb5, A5, c5, n5, rfl, hv5⟩
            have HQ5 := Lib.hid (HQ.out.step hb5)
            have HV5 := Lib.hid hv5
            clear hb5 hv5 hin
            go_wp2_with (go_at_call 12; refine (HN.out _).mono ?_; rintro e w' ⟨rfl, rfl⟩)
            refine calls_gen (fun W => PIn 17 W (fun _ => True) (.slice A5 1 c5) [.mk 2 false name.data.toList [] []] ∧ PIn 1 W (fun _ => True) (.slice (some ⟨W5.heap.size, 0, none⟩) 1 1) [.mk 2 false name.data.toList [] []] ∧ QSt s wr W) ?_ ?_
            · have hn := heap_alloc_new W5 (.cells #[.int .i64 2, .bool false, .string name, .string ⟨#[]⟩, .slice none 0 0] 35)
              refine ⟨HV5.out.alloc2, ?_, HQ5.out.step ((Below.refl _ _).alloc (Nat.le_refl _) _)⟩
              refine lit_pin (d := 0) [(.mk 2 false name.data.toList [] [], .slice none 0 0)] [.mk 2 false name.data.toList [] []] hn ?_ rfl trivial (by simp) (fun p hp => ?_)
              · show #[Value.int .i64 2, .bool false, .string name, .string ⟨#[]⟩, .slice none 0 0] = #[Value.int .i64 2, .bool false, .string (nm name.data.toList), .string (nm []), .slice none 0 0]
                rw [nm_of]
                rfl
              · rw [List.mem_singleton] at hp
                subst hp
                exact PIn.nil _ _ _ _ _
            intro W6 hW6
            have hsm := rsame_eq hW6.1 hW6.2.1
            refine hsm.mono ?_
            clear hsm
            rintro e W7 ⟨rfl, k7, rfl⟩
            have HQ7 := Lib.hid (hW6.2.2.step (below_drewN' (Below.refl _ _) k7))
            clear hW6
            go_wp2_with (go_at_call 16; refine (awake_any _).mono ?_; rintro e w' ⟨rfl, hb⟩)
            go_ret
            exact ⟨rfl, HQ7.out.below.trans (hb.mono HQ7.out.below.size)⟩
        | false =>
          go_wp2_with fail
          refine calls_gen (QSt s wr ·) ⟨(Below.refl _ _).alloc (Nat.le_refl _) _, heap_alloc_new _ _⟩ ?_
          intro W0 hW0
          have HQ := Lib.hid hW0
          clear hW0
          cases hin : isName name.data.toList with
          | false =>
            rw [hin] at HN
            clear hin
            have hsa := fun W => scan_all _ W (maxLen_ok (cat_max hnm.out))
            clear hnm hcat
            refine (hsa _).mono ?_
            clear hsa
            rintro e W5 ⟨hb5, A5, k5, c5, n5, er5, rfl⟩
            have HQ5 := Lib.hid (HQ.out.step hb5)
            clear hb5
            go_wp2_with (first | (go_at_call 12; refine (HN.out _).mono ?_; rintro e w' ⟨rfl, rfl⟩) | (go_at_call 16; refine (awake_any _).mono ?_; rintro e w' ⟨rfl, hb⟩))
            go_ret
            exact ⟨rfl, HQ5.out.below.trans (hb.mono HQ5.out.below.size)⟩
          | true =>
            rw [hin] at HN
            have hsa := fun W => scan_nam (W := W) hin
            clear hnm hcat
            refine (hsa _).mono ?_
            clear hsa
            rintro e W5 ⟨hb5, A5, c5, n5, rfl, hv5⟩
            have HQ5 := Lib.hid (HQ.out.step hb5)
            have HV5 := Lib.hid hv5
            clear hb5 hv5 hin
            go_wp2_with (go_at_call 12; refine (HN.out _).mono ?_; rintro e w' ⟨rfl, rfl⟩)
            refine calls_gen (fun W => PIn 17 W (fun _ => True) (.slice A5 1 c5) [.mk 2 false name.data.toList [] []] ∧ PIn 1 W (fun _ => True) (.slice (some ⟨W5.heap.size, 0, none⟩) 1 1) [.mk 2 false name.data.toList [] []] ∧ QSt s wr W) ?_ ?_
            · have hn := heap_alloc_new W5 (.cells #[.int .i64 2, .bool false, .string name, .string ⟨#[]⟩, .slice none 0 0] 35)
              refine ⟨HV5.out.alloc2, ?_, HQ5.out.step ((Below.refl _ _).alloc (Nat.le_refl _) _)⟩
              refine lit_pin (d := 0) [(.mk 2 false name.data.toList [] [], .slice none 0 0)] [.mk 2 false name.data.toList [] []] hn ?_ rfl trivial (by simp) (fun p hp => ?_)
              · show #[Value.int .i64 2, .bool false, .string name, .string ⟨#[]⟩, .slice none 0 0] = #[Value.int .i64 2, .bool false, .string (nm name.data.toList), .string (nm []), .slice none 0 0]
                rw [nm_of]
                rfl
              · rw [List.mem_singleton] at hp
                subst hp
                exact PIn.nil _ _ _ _ _
            intro W6 hW6
            have hsm := rsame_eq hW6.1 hW6.2.1
            refine hsm.mono ?_
            clear hsm
            rintro e W7 ⟨rfl, k7, rfl⟩
            have HQ7 := Lib.hid (hW6.2.2.step (below_drewN' (Below.refl _ _) k7))
            clear hW6
            go_wp2_with (go_at_call 16; refine (awake_any _).mono ?_; rintro e w' ⟨rfl, hb⟩)
            go_ret
            exact ⟨rfl, HQ7.out.below.trans (hb.mono HQ7.out.below.size)⟩
theorem quotes_law (s name : ByteArray) (w : World) (hm : s.size ≤ maxLen) (hr : s.data.toList.length ≤ reachBytes) (hm2 : name.size ≤ maxLen) (hr2 : name.data.toList.length ≤ reachBytes) :
    Calls Try.prog 5 #[.string s, .string name] w fun e w' => e = .returned (.bool true) ∧ Below w.heap.size w w' := by
  by_cases hl : s.size ≤ 1000
  · exact quotes_short s name w hm2 hr2 hl
  · exact quotes_long s name w hm (by omega)

end Go.Proofs.Ytabjnnoafollkaa.Wd
