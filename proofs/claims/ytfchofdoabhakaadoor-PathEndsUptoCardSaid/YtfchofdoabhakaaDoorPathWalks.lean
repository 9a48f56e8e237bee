/- DERIVED. Walks over package path of layer 3: what each call answers. -/
import Derived.Test.YtfchofdoabhakaaDoorRows
import Derived.Test.YtfchofdoabhakaaDoorShelf
import Derived.Test.YtfchofdoabhakaaDoorPathMath
import Derived.WalkKit
import Derived.WalkSpells
import Derived.WalkLawsBesides
import Derived.Lib.Hide
import Derived.Lib.Strings
import Derived.BigQuiet
import Derived.Deep.QuietTactic
import Derived.RegionTactic
namespace Go.Proofs.YtfchofdoabhakaaDoor
open Go.RowKit
open PathM
set_option linter.unusedVariables false

theorem ret_str {a b : ByteArray} (h : a = b) : Ending.returned (.string a) = .returned (.string b) := by rw [h]
theorem ret_bool {a b : Bool} (h : a = b) : Ending.returned (.bool a) = .returned (.bool b) := by rw [h]

set_option maxHeartbeats 400000 in
theorem bare_any (s : ByteArray) (w : World) (hs : s.size ≤ maxLen) :
    Calls Tryd.prog 31 #[.string s] w fun e w' => e = .returned (.string (nm (bare s.data.toList))) ∧ w = w' := by
  unfold maxLen at hs
  go_enter Tryd.func31, Tryd.ntmps31
  go_wp2_with (go_at_call 40; refine (Tryd.strings_TrimRight_one s 47 (by decide) _ hs).mono ?_; rintro e w' ⟨rfl, rfl⟩)
  go_ret
  exact ⟨rfl, rfl⟩

theorem sizeD (s : ByteArray) : s.size = s.data.toList.length := Array.length_toList.symm
theorem listD (s : ByteArray) : s.toList = s.data.toList := Lib.toList_data s

set_option maxHeartbeats 400000 in
theorem index_any (s : ByteArray) (w : World) :
    Calls Tryd.prog 60 #[.string s, .string ⟨#[47]⟩] w fun e w' => e = .returned (.int .i64 (Lib.indexByte s.data.toList 47)) ∧ w = w' := by
  by_cases hs : s = ⟨#[47]⟩
  · have hb : ([47] == s.toList) = true := by rw [listD, hs]; rfl
    have hz : Lib.indexByte s.data.toList 47 = 0 := by rw [hs]; rfl
    have HZ := Lib.hid hz; clear hz hs
    go_enter Tryd.func60, Tryd.ntmps60
    go_wp2
    go_ret
    exact ⟨by rw [HZ.out]; rfl, rfl⟩
  · have hb : ([47] == s.toList) = false := by
      rw [listD]
      refine beq_eq_false_iff_ne.2 (fun e => hs ?_)
      exact (nm_of s).symm.trans (by rw [← e]; rfl)
    clear hs
    go_enter Tryd.func60, Tryd.ntmps60
    go_wp2_with (go_at_call 49; refine (Tryd.stringslite_IndexByte s 47 _).mono ?_; rintro e w' ⟨rfl, rfl⟩)
    go_ret
    exact ⟨rfl, rfl⟩

theorem ret_cut {a b c d : ByteArray} {x y : Bool} (h1 : a = b) (h2 : c = d) (h3 : x = y) : Ending.returned (.tuple #[.string a, .string c, .bool x]) = .returned (.tuple #[.string b, .string d, .bool y]) := by rw [h1, h2, h3]
theorem ext_to (s : ByteArray) (i : Nat) : s.extract 0 i = nm (s.data.toList.take i) := Lib.extract_upto s i
theorem ext_from (s : ByteArray) (i : Nat) : s.extract i s.size = nm (s.data.toList.drop i) := Lib.extract_from s i

/-- What strings.Cut answers at a slash. -/
def CutPost (s : ByteArray) (w : World) (e : Ending) (w' : World) : Prop := ∃ (x : Bool) (n : Nat), e = .returned (.tuple #[.string (nm (bef s.data.toList)), .string (nm (aft s.data.toList)), .bool x]) ∧ w' = w.drewN n

set_option maxHeartbeats 400000 in
theorem cut_lite (s : ByteArray) (w : World) (hs : s.size ≤ maxLen) :
    Calls Tryd.prog 50 #[.string s, .string ⟨#[47]⟩] w (CutPost s w) := by
  unfold maxLen at hs
  have hge := Lib.indexByte_ge s.data.toList 47
  have hc := fun w => index_any s w
  by_cases hi : Lib.indexByte s.data.toList 47 = -1
  · obtain ⟨b1, b2⟩ := bef_none _ (index_none _ hi)
    rw [hi] at hc
    have HC := Lib.hid hc; have H1 := Lib.hid b1; have H2 := Lib.hid b2; clear hc b1 b2 hi hge
    go_enter Tryd.func50, Tryd.ntmps50
    go_wp2_with (go_at_call 60; refine (HC.out _).mono ?_; rintro e w' ⟨rfl, rfl⟩)
    go_ret3
    exact ⟨false, 0, ret_cut (by rw [H1.out]; exact (nm_of s).symm) (by rw [H2.out]; rfl) rfl, rfl⟩
  · obtain ⟨i, he⟩ : ∃ i : Nat, Lib.indexByte s.data.toList 47 = i := ⟨(Lib.indexByte s.data.toList 47).toNat, by omega⟩
    obtain ⟨b1, b2, b3⟩ := index_some _ i he
    rw [← sizeD] at b3
    rw [he] at hc
    have HC := Lib.hid hc; have H1 := Lib.hid b1; have H2 := Lib.hid b2; clear hc b1 b2 hi hge he
    have c1 : (0 : Int) ≤ ↑i := by omega
    have c2 : (↑i : Int) ≤ ↑s.size := by omega
    have c3 : (0 : Int) ≤ ↑i + 1 := by omega
    have c4 : (↑i + 1 : Int) ≤ ↑s.size := by omega
    go_enter Tryd.func50, Tryd.ntmps50
    go_wp2_with (go_at_call 60; refine (HC.out _).mono ?_; rintro e w' ⟨rfl, rfl⟩)
    go_region
    all_goals go_wp2
    all_goals go_ret3
    all_goals exact ⟨true, 1, ret_cut (by rw [H1.out]; exact ext_to s i) (by rw [H2.out]; exact ext_from s (i + 1)) rfl, rfl⟩

theorem cut_any (s : ByteArray) (w : World) (hs : s.size ≤ maxLen) :
    Calls Tryd.prog 38 #[.string s, .string ⟨#[47]⟩] w (CutPost s w) := by
  go_enter Tryd.func38, Tryd.ntmps38
  go_wp2_with fail
  refine (cut_lite s _ hs).mono ?_
  rintro e w' ⟨x, n, rfl, rfl⟩
  go_wp2_with fail
  go_ret3
  exact ⟨x, n, rfl, rfl⟩

end Go.Proofs.YtfchofdoabhakaaDoor
