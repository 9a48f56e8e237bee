/- DERIVED. The law WordBytes, walked. -/
import Derived.Test.YtabjnnoafollkaaWdAwake
namespace Go.Proofs.Ytabjnnoafollkaa.Wd
open Go.RowKit
open PathM WdM
set_option linter.unusedVariables false

set_option maxRecDepth 100000 in
set_option maxHeartbeats 1600000 in
theorem bytes_law (c : Int) (s : ByteArray) (w : World) (h0 : 0 ≤ c) (h1 : c ≤ 255) (hm : s.size ≤ maxLen) (hr : s.data.toList.length ≤ reachBytes) :
    Calls Try.prog 3 #[.int .u8 c, .string s] w fun e w' => e = .returned (.bool true) ∧ Below w.heap.size w w' := by
  obtain ⟨u, rfl⟩ : ∃ u : UInt8, c = (u.toNat : Int) := ⟨c.toNat.toUInt8, by
    have : c.toNat < 256 := by omega
    simp [Nat.toUInt8, UInt8.toNat_ofNat']; omega⟩
  have hs : s.size ≤ 4611686018427387904 := by rw [sizeD]; unfold reachBytes at hr; omega
  have H1 := Lib.hid (letter_any u)
  have H2 := Lib.hid (rletter_any u)
  have H3 := Lib.hid (digit_any u)
  have H4 := Lib.hid (rdigit_any u)
  have H5 := Lib.hid (meta_any u)
  have H6 := Lib.hid (rmeta_any u)
  have H7 := Lib.hid (fun w => name_any s w hs)
  have H8 := Lib.hid (fun w => rname_any s w hs)
  have H9 := Lib.hid (fun w => inside_any s w hs)
  have H10 := Lib.hid (fun w => rinside_any s w hs)
  generalize letter u = b1 at *
  generalize digit u = b2 at *
  generalize meta_ u = b3 at *
  generalize isName s.data.toList = b4 at *
  generalize resI 0 (inside s.data.toList) = b5 at *
  clear h0 h1 hm hr hs
  go_enter Try.func3, Try.ntmps3
  go_wp2_with (first | (go_at_call 6; refine (H1.out _).mono ?_; rintro e w' ⟨rfl, rfl⟩) | (go_at_call 7; refine (H2.out _).mono ?_; rintro e w' ⟨rfl, rfl⟩) | (go_at_call 8; refine (H3.out _).mono ?_; rintro e w' ⟨rfl, rfl⟩) | (go_at_call 9; refine (H4.out _).mono ?_; rintro e w' ⟨rfl, rfl⟩) | (go_at_call 10; refine (H5.out _).mono ?_; rintro e w' ⟨rfl, rfl⟩) | (go_at_call 11; refine (H6.out _).mono ?_; rintro e w' ⟨rfl, rfl⟩) | (go_at_call 12; refine (H7.out _).mono ?_; rintro e w' ⟨rfl, rfl⟩) | (go_at_call 13; refine (H8.out _).mono ?_; rintro e w' ⟨rfl, rfl⟩) | (go_at_call 14; refine (H9.out _).mono ?_; rintro e w' ⟨rfl, k1, rfl⟩) | (go_at_call 15; refine (H10.out _).mono ?_; rintro e w' ⟨rfl, rfl⟩) | (go_at_call 16; refine (awake_any _).mono ?_; rintro e w' ⟨rfl, hb⟩))
  go_ret
  exact ⟨rfl, (below_drewN' (Below.refl _ w) k1).trans hb⟩

end Go.Proofs.Ytabjnnoafollkaa.Wd
