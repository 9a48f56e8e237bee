/- DERIVED. The walk over the reader's single. -/
import Derived.Test.YtgajbehlggikdaaWdEsc
import Derived.Test.YtgajbehlggikdaaWdQuote
namespace Go.Proofs.Ytgajbehlggikdaa.Wd
open Go.RowKit
open PathM WdM
set_option linter.unusedVariables false

theorem ix_lt (l : Bs) (c : UInt8) : Lib.indexByte l c < (l.length : Int) ∧ -1 ≤ Lib.indexByte l c := by
  refine ⟨?_, Lib.indexByte_ge l c⟩
  induction l with
  | nil => simp [Lib.indexByte]
  | cons b l ih =>
    rw [Lib.indexByte]
    split
    · simp only [List.length_cons]; omega
    · split
      · simp only [List.length_cons]; omega
      · simp only [List.length_cons]; omega
set_option maxRecDepth 100000 in
set_option maxHeartbeats 3200000 in
theorem single_any (D rb gb : Nat) (s : ByteArray) (i d : Nat) (g : Ga) (w : World) (h : St D w rb gb s i d g) (hlt : i < s.size) (hs : s.size ≤ 8192) (hok : Gok g i) :
    Calls Try.prog 45 #[.pointer (some ⟨rb, 0, none⟩), .pointer (some ⟨gb, 0, none⟩)] w (GPost D rb gb s i d w (single g (s.data.toList.drop (i + 1)))) := by
  obtain ⟨m, hm⟩ : ∃ m, single g (s.data.toList.drop (i + 1)) = m := ⟨_, rfl⟩
  rw [hm]
  have HS := Lib.hid h
  have HOK := Lib.hid hok
  have hgs : g.ps.length ≤ 50000 ∧ g.tx.length ≤ 50000 := by unfold Gok at hok; omega
  obtain ⟨x, hx⟩ : ∃ x, Lib.indexByte (s.data.toList.drop (i + 1)) 39 = x := ⟨_, rfl⟩
  have hb := ix_lt (s.data.toList.drop (i + 1)) 39
  rw [hx, bad_len] at hb
  have HX : Hid (∀ W, Calls Try.prog 28 #[.string (s.extract (i + 1) s.size), .int .u8 39] W fun e w' => e = .returned (.int .i64 x) ∧ W = w') := Lib.hid fun W => by
    rw [ext_from, ← hx]
    exact index_any (s.data.toList.drop (i + 1)) 39 W
  have h1w : IntKind.i64.wrap ((i : Int) + 1) = (i : Int) + 1 := IntWalk.i64_in _ (by omega)
  have h1p : (0 : Int) ≤ (i : Int) + 1 := by omega
  have h1n : ((i : Int) + 1).toNat = i + 1 := by omega
  have h1j : (i : Int) + 1 ≤ (s.size : Int) := by omega
  unfold single at hm
  rw [hx] at hm
  clear hx h hok
  have r0 := rd_s HS.out.rd
  have r1 := rd_at HS.out.rd
  have f1 := rd_fz HS.out.rd 1
  have hz := rd_lt HS.out.rd
  by_cases hneg : x < 0
  · have HM : Hid (m = .bad (s.size - i) 60) := Lib.hid (by rw [← hm, if_pos hneg, bad_len]; congr 1; omega)
    have hi : i ≤ s.size := by omega
    clear hm
    go_enter Try.func45, Try.ntmps45
    go_wp2_with fail
    go_quiet ((go_at_call 28; exact qs HX.out))
    go_wp2
    exact ⟨rfl, GPost.bad HM.out (Nat.le_refl _) hi (kept_dr _)⟩
  · obtain ⟨k, rfl⟩ : ∃ k : Nat, x = (k : Int) := ⟨x.toNat, by omega⟩
    have hk : i + 1 + k < s.size := by omega
    have HM : Hid (m = .ok (g.add ((s.data.toList.drop (i + 1)).take k) true) (s.data.toList.drop (i + 1 + k + 1))) := Lib.hid (by rw [← hm, if_neg hneg, Int.toNat_natCast, List.drop_drop]; rfl)
    have HTL : Hid (((s.data.toList.drop (i + 1)).take k).length ≤ k) := Lib.hid (List.length_take_le _ _)
    have h2w : IntKind.i64.wrap (((i + 1 + k : Nat) : Int) + 1) = ((i + 1 + k : Nat) : Int) + 1 := IntWalk.i64_in _ (by omega)
    have HTK : Hid (∀ W, RdIn W rb s (i + 1) d → Calls Try.prog 67 #[.pointer (some ⟨rb, 0, none⟩), .int .i64 k] W (Red rb s (i + 1 + k) d (.string (nm ((s.data.toList.drop (i + 1)).take k))) W)) := Lib.hid fun W hW => take_any rb s (i + 1) d k W hW (by omega) hs
    obtain ⟨t, ht⟩ : ∃ t, (s.data.toList.drop (i + 1)).take k = t := ⟨_, rfl⟩
    rw [ht] at HM HTL HTK
    clear hm hb ht
    go_enter Try.func45, Try.ntmps45
    go_wp2_with fail
    go_quiet ((go_at_call 28; exact qs HX.out))
    have HS3 := Lib.hid (HS.out.drewN nq)
    have HKW3 := Lib.hid (kept_dr (rb := rb) (gb := gb) (w := w) nq)
    clear r0 r1 f1 hz
    generalize w.drewN nq = w3 at *
    have r1 := rd_at HS3.out.rd
    have f1 := rd_fz HS3.out.rd 1
    have hz := rd_lt HS3.out.rd
    have HK4 := Lib.hid (Kept.setCell (S := (· = rb)) (w := w3) ⟨rb, 1, none⟩ (.int .i64 ((i : Int) + 1)) rfl)
    have HS4 : Hid (St D (w3.setCell ⟨rb, 1, none⟩ (.int .i64 ((i : Int) + 1))) rb gb s (i + 1) d g) := Lib.hid (HS3.out.read HK4.out (at_set HS3.out.rd (i + 1)))
    have HKW4 := Lib.hid (HKW3.out.trans (kept_rb HK4.out))
    go_wp2_with fail
    generalize w3.setCell ⟨rb, 1, none⟩ (.int .i64 ((i : Int) + 1)) = w4 at *
    refine (HTK.out w4 HS4.out.rd).mono ?_
    rintro e w5 h9
    obtain ⟨rfl, hk5, hr5⟩ := h9
    have HS5 := Lib.hid (HS4.out.read hk5 hr5)
    have HKW5 := Lib.hid (HKW4.out.trans (kept_rb hk5))
    clear hk5 hr5
    go_wp2_with fail
    refine (add_any D gb g t true w5 HS5.out.ga hgs.1 hgs.2 (by have := HTL.out; omega)).mono ?_
    rintro e w6 h9
    obtain ⟨rfl, hg6, hk6⟩ := h9
    have HS6 := Lib.hid (HS5.out.gath hg6 hk6)
    have HKW6 := Lib.hid (HKW5.out.trans (kept_gb hk6))
    clear hg6 hk6 r1 f1 hz
    have r1 := rd_at HS6.out.rd
    have f1 := rd_fz HS6.out.rd 1
    have hz := rd_lt HS6.out.rd
    have HK7 := Lib.hid (Kept.setCell (S := (· = rb)) (w := w6) ⟨rb, 1, none⟩ (.int .i64 (((i + 1 + k : Nat) : Int) + 1)) rfl)
    have HS7 : Hid (St D (w6.setCell ⟨rb, 1, none⟩ (.int .i64 (((i + 1 + k : Nat) : Int) + 1))) rb gb s (i + 1 + k + 1) d (g.add t true)) := Lib.hid (HS6.out.read HK7.out (at_set HS6.out.rd (i + 1 + k + 1)))
    have HKW7 := Lib.hid (HKW6.out.trans (kept_rb HK7.out))
    go_wp2
    refine bodyPost_ret (results_none rfl _ _ _) rfl ?_
    exact GPost.ok HM.out (by omega) (by omega) HS7.out (HOK.out.add _ _ (by omega) (by have := HTL.out; omega)) HKW7.out

end Go.Proofs.Ytgajbehlggikdaa.Wd
