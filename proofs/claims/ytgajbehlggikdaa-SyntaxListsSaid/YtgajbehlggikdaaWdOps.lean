/- DERIVED. Walks over the reader's operation, command and arith. -/
import Derived.Test.YtgajbehlggikdaaWdParam
namespace Go.Proofs.Ytgajbehlggikdaa.Wd
open Go.RowKit
open PathM WdM
set_option linter.unusedVariables false
def opAt (k : Nat) : Bs := ops.getD k []
def opV : Value := .agg #[.string ⟨#[58, 45]⟩, .string ⟨#[58, 61]⟩, .string ⟨#[58, 63]⟩, .string ⟨#[58, 43]⟩, .string ⟨#[37, 37]⟩, .string ⟨#[35, 35]⟩, .string ⟨#[45]⟩, .string ⟨#[61]⟩, .string ⟨#[63]⟩, .string ⟨#[43]⟩, .string ⟨#[37]⟩, .string ⟨#[35]⟩]
theorem op_index (k : Nat) (hk : k < 12) (W : World) : (Instr.index 117 (.agg #[.string ⟨#[58, 45]⟩, .string ⟨#[58, 61]⟩, .string ⟨#[58, 63]⟩, .string ⟨#[58, 43]⟩, .string ⟨#[37, 37]⟩, .string ⟨#[35, 35]⟩, .string ⟨#[45]⟩, .string ⟨#[61]⟩, .string ⟨#[63]⟩, .string ⟨#[43]⟩, .string ⟨#[37]⟩, .string ⟨#[35]⟩]) (.int .i64 (k : Int))).run Try.prog W = .ok (.string (nm (opAt k))) W := by
  rcases k with _ | _ | _ | _ | _ | _ | _ | _ | _ | _ | _ | _ | k
  all_goals first | omega | kernel_rfl
theorem op_drop (k : Nat) (hk : k < 12) : ops.drop k = opAt k :: ops.drop (k + 1) := by
  rcases k with _ | _ | _ | _ | _ | _ | _ | _ | _ | _ | _ | _ | k
  all_goals first | omega | rfl
theorem opOf_find (l : Bs) (o : Option Bs) (h : (ops.find? fun o => stands o l) = o) : opOf l = o.getD [] := by unfold opOf; rw [h]
set_option maxRecDepth 100000 in
set_option maxHeartbeats 1600000 in
theorem operation_any (rb : Nat) (s : ByteArray) (i d : Nat) (w : World) (h : RdIn w rb s i d) (hi : i ≤ s.size) (hs : s.size ≤ 8192) :
    Calls Try.prog 86 #[.pointer (some ⟨rb, 0, none⟩)] w
      (Red rb s (i + (opOf (s.data.toList.drop i)).length) d (.string (nm (opOf (s.data.toList.drop i)))) w) := by
  have HP := Lib.hid (fun sign W (hW : RdIn W rb s i d) => pass_any rb s i d sign W hW hi hs)
  have HRD := Lib.hid h
  clear h
  obtain ⟨o, ho⟩ : ∃ o, (ops.find? fun o => stands o (s.data.toList.drop i)) = o := ⟨_, rfl⟩
  rw [opOf_find _ _ ho]
  have HO := Lib.hid ho
  clear ho
  go_enter Try.func86, Try.ntmps86
  go_wp2
  go_loopw [6] (fun n wr => ∃ k : Nat, n = .int .i64 k ∧ k ≤ 12 ∧ Hid (Kept (· = rb) w wr ∧ RdIn wr rb s i d) ∧ Hid (((ops.drop k).find? fun o => stands o (s.data.toList.drop i)) = o)) (fun n _ => 12 - (intOf n).toNat)
  case atStart => exact ⟨0, rfl, by omega, Lib.hid ⟨Kept.refl _ _, HRD.out⟩, HO⟩
  case round =>
    obtain ⟨k, rfl, hk, HW, HF⟩ := hrel
    by_cases hlt : k < 12
    · have hki : (k : Int) < 12 := by omega
      have HPK := Lib.hid (HP.out (nm (opAt k)) wr HW.out.2)
      have e1 : (nm (opAt k)).data.toList = opAt k := rfl
      rw [e1, nm_size] at HPK
      have hf := HF.out
      rw [op_drop k hlt, List.find?_cons] at hf
      have hix := op_index k hlt
      have HIX := Lib.hid hix
      cases hst : stands (opAt k) (s.data.toList.drop i) with
      | true =>
        rw [hst] at hf HPK
        rw [if_pos rfl] at HPK
        dsimp only at hf
        have HFF := Lib.hid hf
        generalize opAt k = x at *
        clear hf hst e1 HF HIX
        go_wp2_with (go_at_call 77; refine HPK.out.mono ?_; rintro e w' h9; obtain ⟨rfl, h9⟩ := h9; have H9 := Lib.hid h9; clear h9)
        go_ret
        rw [← HFF.out]
        exact ⟨rfl, HW.out.1.trans H9.out.1, H9.out.2⟩
      | false =>
        rw [hst] at hf HPK
        rw [if_neg (by decide)] at HPK
        dsimp only at hf
        have HFF := Lib.hid hf
        generalize opAt k = x at *
        clear hf hst e1 HF HIX
        go_wp2_with (go_at_call 77; refine HPK.out.mono ?_; rintro e w' h9; obtain ⟨rfl, h9⟩ := h9; have H9 := Lib.hid h9; clear h9)
        go_wp2
        go_roundw
        case rel => exact ⟨k + 1, by go_num, by omega, Lib.hid ⟨HW.out.1.trans H9.out.1, H9.out.2⟩, HFF⟩
        case measure => simp [intOf]; omega
    · obtain rfl : k = 12 := by omega
      have HFF : Hid (o = none) := Lib.hid HF.out.symm
      clear HF hk hlt
      go_wp2
      go_ret
      rw [HFF.out]
      exact ⟨rfl, HW.out.1, HW.out.2⟩

end Go.Proofs.Ytgajbehlggikdaa.Wd
