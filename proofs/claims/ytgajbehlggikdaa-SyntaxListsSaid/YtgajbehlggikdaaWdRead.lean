/- DERIVED. Walks over the reader's calls that only look, or pass over bytes. -/
import Derived.Test.YtgajbehlggikdaaWdText2
import Derived.StillTailTactics
import Derived.Deep.CutRange
namespace Go.Proofs.Ytgajbehlggikdaa.Wd
open Go.RowKit
open PathM WdM
set_option linter.unusedVariables false

section
variable {P : Program} {f : FuncId} {args : Array Value} {w : World} {n : Nat} {v : Value}
theorem qs (h : ∀ W, Calls P f args W fun e w' => e = .returned v ∧ W = w') : Calls P f args (w.drewN n) fun e w'' => e = .returned v ∧ ∃ m, w'' = w.drewN m :=
  (h _).mono fun _ _ ⟨he, hm⟩ => ⟨he, n, hm.symm⟩
theorem qd (h : ∀ k, Calls P f args (w.drewN k) fun e w' => e = .returned v ∧ ∃ m, w' = (w.drewN k).drewN m) : Calls P f args (w.drewN n) fun e w'' => e = .returned v ∧ ∃ m, w'' = w.drewN m :=
  (h n).mono fun _ _ ⟨he, m, hm⟩ => ⟨he, n + m, by rw [hm, World.drewN_drewN]⟩
end
theorem rd_drewN {w : World} {rb : Nat} {s : ByteArray} {i d : Nat} (h : RdIn w rb s i d) (k : Nat) : RdIn (w.drewN k) rb s i d := h
theorem eqn (a b : Nat) : ((a : Int) == (b : Int)) = decide (a = b) := by rw [Bool.eq_iff_iff]; simp; omega

theorem over_any (rb : Nat) (s : ByteArray) (i d : Nat) (w : World) (h : RdIn w rb s i d) :
    Calls Try.prog 44 #[.pointer (some ⟨rb, 0, none⟩)] w fun e w' => e = .returned (.bool (decide (i = s.size))) ∧ ∃ k, w' = w.drewN k := by
  have HE := Lib.hid (eqn i s.size)
  have HRD := Lib.hid h
  unfold RdIn at h
  have r0 := cell_blk h 0
  have r1 := cell_blk h 1
  have r2 := cell_blk h 2
  simp at r0 r1 r2
  have hz := fin_at h
  have f0 := froz_blk h 0
  have f1 := froz_blk h 1
  have f2 := froz_blk h 2
  clear h
  go_enter Try.func44, Try.ntmps44
  go_wp2_with fail
  go_quiet (fail)
  go_wp2
  go_ret
  exact ⟨ret_bool HE.out, _, rfl⟩
theorem over_q (rb : Nat) (s : ByteArray) (i d : Nat) (w : World) (h : RdIn w rb s i d) (n : Nat) :
    Calls Try.prog 44 #[.pointer (some ⟨rb, 0, none⟩)] (w.drewN n) fun e w' => e = .returned (.bool (decide (i = s.size))) ∧ ∃ m, w' = w.drewN m := qd fun k => over_any rb s i d _ (rd_drewN h k)
theorem hasPrefix_eq (a b : Bs) : Lib.hasPrefix a b = stands b a := rfl
theorem stands_any (rb : Nat) (s : ByteArray) (i d : Nat) (sign : ByteArray) (w : World) (h : RdIn w rb s i d) (hi : i ≤ s.size) :
    Calls Try.prog 68 #[.pointer (some ⟨rb, 0, none⟩), .string sign] w fun e w' => e = .returned (.bool (stands sign.data.toList (s.data.toList.drop i))) ∧ ∃ k, w' = w.drewN k := by
  have HX := Lib.hid (ext_from s i)
  have HC : Hid (∀ W, Calls Try.prog 27 #[.string (s.extract i s.size), .string sign] W fun e w' => e = .returned (.bool (stands sign.data.toList (s.data.toList.drop i))) ∧ W = w') := Lib.hid fun W => by
    rw [HX.out]
    refine (Try.strings_HasPrefix (nm (s.data.toList.drop i)) sign W).mono ?_
    rintro e w' ⟨rfl, rfl⟩
    exact ⟨rfl, rfl⟩
  generalize stands sign.data.toList (s.data.toList.drop i) = x at *
  have HRD := Lib.hid h
  unfold RdIn at h
  have r0 := cell_blk h 0
  have r1 := cell_blk h 1
  have r2 := cell_blk h 2
  simp at r0 r1 r2
  have hz := fin_at h
  have f0 := froz_blk h 0
  have f1 := froz_blk h 1
  have f2 := froz_blk h 2
  clear h
  go_enter Try.func68, Try.ntmps68
  go_wp2_with fail
  go_quiet ((go_at_call 27; exact qs HC.out))
  go_wp2
  go_ret
  exact ⟨rfl, _, rfl⟩

theorem stands_len {a l : Bs} (h : stands a l = true) : a.length ≤ l.length := (List.isPrefixOf_iff_prefix.1 h).length_le
/-- A call answered, and the reader stands at a place. -/
def Red (rb : Nat) (s : ByteArray) (i d : Nat) (v : Value) (w : World) (e : Ending) (w' : World) : Prop := e = .returned v ∧ Kept (· = rb) w w' ∧ RdIn w' rb s i d
theorem Red.lift {rb : Nat} {s : ByteArray} {i d : Nat} {v : Value} {w : World} {e : Ending} {w' w0 : World} (h : Red rb s i d v w e w') (hk : Kept (· = rb) w0 w) : Red rb s i d v w0 e w' := ⟨h.1, hk.trans h.2.1, h.2.2⟩
theorem at_set {w : World} {rb : Nat} {s : ByteArray} {i d : Nat} (h : RdIn w rb s i d) (n : Nat) : RdIn (w.setCell ⟨rb, 1, none⟩ (.int .i64 n)) rb s n d := by
  unfold RdIn at *
  simpa using set_blk (j := 1) h (.int .i64 (n : Int))
theorem at_red {rb : Nat} {s : ByteArray} {i d : Nat} {w W : World} (h : RdIn w rb s i d) (hk : Kept (· = rb) W w) (n : Nat) (v : Value) : Red rb s n d v W (.returned v) (w.setCell ⟨rb, 1, none⟩ (.int .i64 n)) :=
  ⟨rfl, hk.trans (Kept.setCell _ _ rfl), at_set h n⟩
theorem pass_any (rb : Nat) (s : ByteArray) (i d : Nat) (sign : ByteArray) (w : World) (h : RdIn w rb s i d) (hi : i ≤ s.size) (hs : s.size ≤ 8192) :
    Calls Try.prog 77 #[.pointer (some ⟨rb, 0, none⟩), .string sign] w
      (Red rb s (if stands sign.data.toList (s.data.toList.drop i) then i + sign.size else i) d (.bool (stands sign.data.toList (s.data.toList.drop i))) w) := by
  have HS := Lib.hid (fun W (hW : RdIn W rb s i d) => stands_any rb s i d sign W hW hi)
  have hl : stands sign.data.toList (s.data.toList.drop i) = true → i + sign.size ≤ s.size := fun h => by
    have := stands_len h
    rw [List.length_drop, ← sizeD, ← sizeD] at this
    omega
  generalize stands sign.data.toList (s.data.toList.drop i) = x at *
  cases x with
  | true =>
    have hl2 := hl rfl
    clear hl
    rw [if_pos rfl]
    have HRD := Lib.hid h
    unfold RdIn at h
    have r0 := cell_blk h 0
    have r1 := cell_blk h 1
    have r2 := cell_blk h 2
    simp at r0 r1 r2
    have hz := fin_at h
    have f0 := froz_blk h 0
    have f1 := froz_blk h 1
    have f2 := froz_blk h 2
    clear h
    go_enter Try.func77, Try.ntmps77
    go_wp2_with (go_at_call 68; refine (HS.out _ HRD.out).mono ?_; rintro e w' ⟨rfl, k, rfl⟩)
    go_ret
    have := at_red (rd_drewN HRD.out k) (Kept.drewN k) (i + sign.size) (.bool true)
    rw [Int.natCast_add] at this
    exact this
  | false =>
    rw [if_neg (by decide)]
    clear hl
    go_enter Try.func77, Try.ntmps77
    go_wp2_with (go_at_call 68; refine (HS.out _ h).mono ?_; rintro e w' ⟨rfl, k, rfl⟩)
    go_ret
    exact ⟨rfl, Kept.drewN k, h⟩
theorem take_any (rb : Nat) (s : ByteArray) (i d n : Nat) (w : World) (h : RdIn w rb s i d) (hi : i + n ≤ s.size) (hs : s.size ≤ 8192) :
    Calls Try.prog 67 #[.pointer (some ⟨rb, 0, none⟩), .int .i64 n] w (Red rb s (i + n) d (.string (nm ((s.data.toList.drop i).take n))) w) := by
  have he : s.extract i (i + n) = nm ((s.data.toList.drop i).take n) := by rw [ext_mid]; congr 2; omega
  have HE := Lib.hid he
  clear he
  have HRD := Lib.hid h
  unfold RdIn at h
  have r0 := cell_blk h 0
  have r1 := cell_blk h 1
  have r2 := cell_blk h 2
  simp at r0 r1 r2
  have hz := fin_at h
  have f0 := froz_blk h 0
  have f1 := froz_blk h 1
  have f2 := froz_blk h 2
  clear h
  go_enter Try.func67, Try.ntmps67
  go_wp2_with fail
  go_quiet (fail)
  go_wp2
  go_ret
  have := at_red (rd_drewN HRD.out nq) (Kept.drewN nq) (i + n) (.string (nm ((s.data.toList.drop i).take n)))
  rw [Int.natCast_add, ← HE.out] at this
  rw [← HE.out]
  exact this

end Go.Proofs.Ytgajbehlggikdaa.Wd
