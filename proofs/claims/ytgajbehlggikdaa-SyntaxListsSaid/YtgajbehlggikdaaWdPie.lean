/- DERIVED. The walks over the reader's piece and double. -/
import Derived.Test.YtgajbehlggikdaaWdDol
namespace Go.Proofs.Ytgajbehlggikdaa.Wd
open Go.RowKit
open PathM WdM
set_option linter.unusedVariables false

def DollarOk (n : Nat) : Prop := ∀ (rb gb : Nat) (s : ByteArray) (i d : Nat) (g : Ga) (qd : Bool) (w : World), St n w rb gb s i d g → i < s.size → s.size ≤ 8192 → d + n = 16 → Gok g i →
  Calls Try.prog 71 #[.pointer (some ⟨rb, 0, none⟩), .pointer (some ⟨gb, 0, none⟩), .bool qd] w (GPost n rb gb s i d w (dollar (recN n) g qd (s.data.toList.drop (i + 1))))
theorem dollarOk (n : Nat) (IH : ∀ m, n = m + 1 → PartsOk m) : DollarOk n := fun rb gb s i d g qd w h hi hs hd hok => dollar_any n (bracesOk n IH) rb gb s i d g qd w h hi hs hd hok
section
variable {rec : Rec} {esc : UInt8 → Bool} {g : Ga} {q : Bool} {c : UInt8} {t : Bs}
theorem pie_esc (h : c = 92) : piece rec esc g q (c :: t) = escape esc g t := by unfold piece; simp only [h, if_true]
theorem pie_dol (h : c = 36) : piece rec esc g q (c :: t) = dollar rec g q t := by subst h; rfl
theorem pie_bad (h : c = 96) : piece rec esc g q (c :: t) = .bad (t.length + 1) 61 := by subst h; rfl
theorem pie_add (h1 : ¬ c = 92) (h2 : ¬ c = 36) (h3 : ¬ c = 96) : piece rec esc g q (c :: t) = .ok (g.add [c] q) t := by unfold piece; simp only [h1, h2, h3, if_false]
end
theorem GPost.from {D rb gb : Nat} {s : ByteArray} {i d : Nat} {w w0 : World} {m : Rs Ga} {e : Ending} {w' : World} (h : GPost D rb gb s i d w m e w') (hk : Kept (Both rb gb) w0 w) : GPost D rb gb s i d w0 m e w' := h.later (Nat.le_refl _) hk
set_option maxRecDepth 100000 in
set_option maxHeartbeats 3200000 in
theorem piece_any {F : Nat} {esc : UInt8 → Bool} (hF : Asks F esc) (n : Nat) (HDl : DollarOk n) (rb gb : Nat) (s : ByteArray) (i d : Nat) (g : Ga) (qd : Bool) (w : World) (h : St n w rb gb s i d g) (hi : i < s.size) (hs : s.size ≤ 8192) (hd : d + n = 16) (hok : Gok g i) :
    Calls Try.prog 47 #[.pointer (some ⟨rb, 0, none⟩), .pointer (some ⟨gb, 0, none⟩), .bool qd, .func (.func F) #[] #[]] w (GPost n rb gb s i d w (piece (recN n) esc g qd (s.data.toList.drop i))) := by
  obtain ⟨r, hr⟩ : ∃ r, piece (recN n) esc g qd (s.data.toList.drop i) = r := ⟨_, rfl⟩
  rw [hr]
  have hdr := get_at s i hi
  rw [hdr] at hr
  have HR := Lib.hid hr
  have HS := Lib.hid h
  have HOK := Lib.hid hok
  have HDL := Lib.hid HDl
  have HHD := Lib.hid hd
  have HF := Lib.hid hF
  have hbl := bad_len s (i + 1)
  have HT : Hid ((s.data.toList.drop (i + 1)).length + 1 = s.size - i) := Lib.hid (by omega)
  have b1 : ((s[i].toNat : Int) == 92) = decide (s[i] = 92) := bt s[i] 92 (by decide)
  have b2 : ((s[i].toNat : Int) == 36) = decide (s[i] = 36) := bt s[i] 36 (by decide)
  have b3 : ((s[i].toNat : Int) == 96) = decide (s[i] = 96) := bt s[i] 96 (by decide)
  have r0 := rd_s HS.out.rd
  have r1 := rd_at HS.out.rd
  have f1 := rd_fz HS.out.rd 1
  have hz := rd_lt HS.out.rd
  clear hbl HDl hF h hok hd hr hdr
  by_cases c1 : s[i] = 92
  · rw [decide_eq_true c1] at b1
    have HC := Lib.hid c1
    rw [pie_esc c1] at HR
    clear b2 b3 c1
    go_enter Try.func47, Try.ntmps47
    go_wp2_with fail
    go_quiet (fail)
    have HS2 := Lib.hid (HS.out.drewN nq)
    have HKW := Lib.hid (kept_dr (rb := rb) (gb := gb) (w := w) nq)
    clear r0 r1 f1 hz
    generalize w.drewN nq = w2 at *
    have r0 := rd_s HS2.out.rd
    have r1 := rd_at HS2.out.rd
    have hz := rd_lt HS2.out.rd
    go_wp2_with fail
    have := escape_any HF.out n rb gb s i d g w2 HS2.out hi hs HC.out HOK.out
    rw [HR.out] at this
    refine this.mono ?_
    clear this
    rintro e w9 h9
    have h8 := h9.from HKW.out
    clear h9
    rcases h8 with ⟨g', k, h1, h2, h3, h4, rfl, h6, h7, h8⟩ | ⟨k, er, h1, h2, h3, rfl, h5⟩
    · have HF := Lib.hid (GPost.ok h1 h4 h3 h6 h7 h8)
      clear h1 h2 h3 h4 h6 h7 h8
      go_wp2
      refine bodyPost_ret (results_none rfl _ _ _) rfl ?_
      exact HF.out
    · have HF := Lib.hid (GPost.bad (d := d) (D := n) h1 h2 h3 h5)
      clear h1 h2 h3 h5
      simp only [flt]
      go_wp2
      exact ⟨rfl, HF.out⟩
  · rw [decide_eq_false c1] at b1
    by_cases c2 : s[i] = 36
    · rw [decide_eq_true c2] at b2
      rw [pie_dol c2] at HR
      clear b3 c1 c2
      go_enter Try.func47, Try.ntmps47
      go_wp2_with fail
      go_quiet (fail)
      have HS2 := Lib.hid (HS.out.drewN nq)
      have HKW := Lib.hid (kept_dr (rb := rb) (gb := gb) (w := w) nq)
      clear r0 r1 f1 hz
      generalize w.drewN nq = w2 at *
      have r0 := rd_s HS2.out.rd
      have r1 := rd_at HS2.out.rd
      have hz := rd_lt HS2.out.rd
      go_wp2_with fail
      have := HDL.out rb gb s i d g qd w2 HS2.out hi hs HHD.out HOK.out
      rw [HR.out] at this
      refine this.mono ?_
      clear this
      rintro e w9 h9
      have h8 := h9.from HKW.out
      clear h9
      rcases h8 with ⟨g', k, h1, h2, h3, h4, rfl, h6, h7, h8⟩ | ⟨k, er, h1, h2, h3, rfl, h5⟩
      · have HF := Lib.hid (GPost.ok h1 h4 h3 h6 h7 h8)
        clear h1 h2 h3 h4 h6 h7 h8
        go_wp2
        refine bodyPost_ret (results_none rfl _ _ _) rfl ?_
        exact HF.out
      · have HF := Lib.hid (GPost.bad (d := d) (D := n) h1 h2 h3 h5)
        clear h1 h2 h3 h5
        simp only [flt]
        go_wp2
        exact ⟨rfl, HF.out⟩
    · rw [decide_eq_false c2] at b2
      by_cases c3 : s[i] = 96
      · rw [decide_eq_true c3] at b3
        rw [pie_bad c3, HT.out] at HR
        clear c1 c2 c3
        go_enter Try.func47, Try.ntmps47
        go_wp2_with fail
        go_quiet (fail)
        have HS2 := Lib.hid (HS.out.drewN nq)
        have HKW := Lib.hid (kept_dr (rb := rb) (gb := gb) (w := w) nq)
        clear r0 r1 f1 hz
        generalize w.drewN nq = w2 at *
        have r0 := rd_s HS2.out.rd
        have r1 := rd_at HS2.out.rd
        have hz := rd_lt HS2.out.rd
        go_wp2_with fail
        exact ⟨rfl, GPost.bad HR.out.symm (Nat.le_refl _) (by omega) HKW.out⟩
      · rw [decide_eq_false c3] at b3
        rw [pie_add c1 c2 c3] at HR
        have HT1 := Lib.hid (take_one s i hi)
        have hgs : g.ps.length ≤ 50000 ∧ g.tx.length ≤ 50000 := by have := HOK.out; unfold Gok at this; omega
        clear c1 c2 c3
        go_enter Try.func47, Try.ntmps47
        go_wp2_with fail
        go_quiet (fail)
        have HS2 := Lib.hid (HS.out.drewN nq)
        have HKW := Lib.hid (kept_dr (rb := rb) (gb := gb) (w := w) nq)
        clear r0 r1 f1 hz
        generalize w.drewN nq = w2 at *
        have r0 := rd_s HS2.out.rd
        have r1 := rd_at HS2.out.rd
        have hz := rd_lt HS2.out.rd
        go_wp2_with fail
        refine (take_any rb s i d 1 w2 HS2.out.rd (by omega) hs).mono ?_
        rintro e w5 h9
        obtain ⟨rfl, hk5, hr5⟩ := h9
        have HS5 := Lib.hid (HS2.out.read hk5 hr5)
        have HKW5 := Lib.hid (HKW.out.trans (kept_rb hk5))
        rw [HT1.out]
        clear hk5 hr5
        go_wp2_with fail
        refine (add_any n gb g [s[i]] qd w5 HS5.out.ga hgs.1 hgs.2 (by simp)).mono ?_
        rintro e w6 ⟨rfl, hg6, hk6⟩
        have HF := Lib.hid (GPost.ok (i := i) (n := i + 1) (d := d) HR.out.symm (by omega) (by omega) (HS5.out.gath hg6 hk6) (HOK.out.add _ _ (by omega) (by simp)) (HKW5.out.trans (kept_gb hk6)))
        clear hg6 hk6
        go_wp2
        refine bodyPost_ret (results_none rfl _ _ _) rfl ?_
        exact HF.out

end Go.Proofs.Ytgajbehlggikdaa.Wd
