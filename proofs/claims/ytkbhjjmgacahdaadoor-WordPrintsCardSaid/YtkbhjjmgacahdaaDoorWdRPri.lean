/- DERIVED. The walk over the document's Print, over what its Scan answers. -/
import Derived.Test.YtkbhjjmgacahdaaDoorWdRBnd
namespace Go.Proofs.YtkbhjjmgacahdaaDoor.Wd
open Go.RowKit
open PathM WdM
set_option linter.unusedVariables false

/-- What is asked of the document's Scan of a whole text. -/
def RScanAt (D : Nat) (s : ByteArray) (w : World) : Prop :=
  Calls Tryd.prog 14 #[.string s, .int .i64 0] w fun e w' => Below w.heap.size w w' ∧ ∃ (v : Value) (n er : Int), e = .returned (.agg #[v, .int .i64 n, .int .i64 er]) ∧
    ((er = 0 ∧ ∃ (k : Nat) (L : List PT), n = (k : Int) ∧ rScan s.data.toList = some (L, s.data.toList.drop k) ∧ k ≤ s.size ∧ PF D w.heap.size w' v L) ∨ (er ≠ 0 ∧ rScan s.data.toList = none ∧ v = .slice none 0 0))
/-- The document's Print. -/
def rPrint (l : List PT) : Option Bs :=
  if 8192 < (rText l).length then none else match rScan (rText l) with
    | none => none
    | some (L, r) => if r = [] ∧ sameL L l = true then some (rText l) else none
def prV : Option Bs → Value
  | none => .tuple #[.string ⟨#[]⟩, .int .i64 1]
  | some s => .tuple #[.string (nm s), .int .i64 0]
theorem below_dn {B : Nat} {a w : World} (h : Below B a w) (n : Nat) : Below B a (w.drewN n) := ⟨h.os, h.tape, h.output, h.size, h.block⟩
set_option maxRecDepth 100000 in
set_option maxHeartbeats 3200000 in
theorem rprint_any (D : Nat) (hsc : ∀ (s : ByteArray) (W : World), s.size ≤ 8192 → RScanAt D s W) (d : Nat) (v : Value) (l : List PT) (w : World) (hv : PA d w v l) (hl : (rText l).length ≤ 100000) :
    Calls Tryd.prog 7 #[v] w fun e w' => e = .returned (prV (rPrint l)) ∧ Below w.heap.size w w' := by
  have HT := Lib.hid (rtext_any d v l w hv hl)
  have HV := Lib.hid hv
  obtain ⟨A, c, rfl, hll⟩ := PIn.shape hv
  obtain ⟨m, hm⟩ : ∃ m, rPrint l = m := ⟨_, rfl⟩
  rw [hm]
  unfold rPrint at hm
  obtain ⟨s, hs⟩ : ∃ s : ByteArray, nm (rText l) = s := ⟨_, rfl⟩
  have es : rText l = s.data.toList := by rw [← hs, nm_data]
  rw [hs] at HT
  rw [es, ← sizeD] at hm
  rw [es, ← sizeD] at hl
  clear hv hs
  by_cases h8 : 8192 < s.size
  · rw [if_pos h8] at hm
    subst hm
    have h8' : (8192 : Int) < (s.size : Int) := by omega
    clear es HV hsc h8
    generalize l.length = n at *
    go_enter Tryd.func7, Tryd.ntmps7
    go_wp2_with fail
    refine HT.out.mono ?_
    rintro e w1 ⟨rfl, hb1⟩
    have HB1 := Lib.hid hb1
    clear hb1
    go_wp2_with fail
    go_ret2
    exact ⟨rfl, HB1.out⟩
  · rw [if_neg h8] at hm
    have h8' : ¬ (8192 : Int) < (s.size : Int) := by omega
    have HSC := Lib.hid (fun W => hsc s W (by omega))
    unfold RScanAt at HSC
    have HM := Lib.hid hm
    clear es hsc h8 hm
    generalize hln : l.length = n at *
    go_enter Tryd.func7, Tryd.ntmps7
    go_wp2_with fail
    refine HT.out.mono ?_
    rintro e w1 ⟨rfl, hb1⟩
    have HB1 := Lib.hid hb1
    have HV1 := Lib.hid (PIn.below hb1 HV.out)
    clear hb1 HV HT
    go_wp2_with fail
    refine (HSC.out w1).mono ?_
    rintro e w2 ⟨hb2, v2, n2, er, rfl, hc⟩
    have HB2 := Lib.hid (HB1.out.trans (hb2.mono HB1.out.size))
    have HV2 := Lib.hid (PIn.below hb2 HV1.out)
    rcases hc with ⟨rfl, k, L, rfl, hr, hk, hp⟩ | ⟨her, hr, rfl⟩
    · obtain ⟨A3, c3, rfl, hL⟩ := PIn.shape hp
      have HB3 := Lib.hid (HB2.out.alloc HB2.out.size (.cells #[.slice A3 L.length c3, .int .i64 k, .int .i64 0] 43))
      have HP := Lib.hid hp
      by_cases hks : k = s.size
      · subst hks
        obtain ⟨b, hb⟩ : ∃ b, sameL L l = b := ⟨_, rfl⟩
        have HSM : Hid (Calls Tryd.prog 9 #[.slice A3 L.length c3, .slice A n c] (w2.alloc (.cells #[.slice A3 L.length c3, .int .i64 s.size, .int .i64 0] 43)) fun e w' => e = .returned (.bool b) ∧ ∃ k, w' = (w2.alloc (.cells #[.slice A3 L.length c3, .int .i64 s.size, .int .i64 0] 43)).drewN k) := Lib.hid (by
          have := rsame_any _ _ _ _ L l _ _ _ (PIn.alloc2 (o := (.cells #[.slice A3 L.length c3, .int .i64 s.size, .int .i64 0] 43)) HP.out) (PIn.alloc2 (o := (.cells #[.slice A3 L.length c3, .int .i64 s.size, .int .i64 0] 43)) HV2.out)
          rw [hb] at this
          exact this)
        have hdr : s.data.toList.drop s.size = [] := List.drop_of_length_le (by rw [← sizeD]; omega)
        rw [hr, hdr] at HM
        have HME : Hid ((if b = true then some s.data.toList else none) = m) := Lib.hid (by rw [← HM.out]; simp only [hb]; simp)
        clear hb hr hdr HM hp hb2 HV1 HB1 HSC
        generalize L.length = n3 at *
        cases b with
        | true =>
          have HF : Hid (some s.data.toList = m) := Lib.hid (by rw [← HME.out]; rfl)
          clear HME
          go_wp2_with fail
          refine HSM.out.mono ?_
          rintro e w9 ⟨rfl, k9, rfl⟩
          go_wp2
          go_ret2
          rw [← HF.out]
          exact ⟨rfl, below_dn HB3.out k9⟩
        | false =>
          have HF : Hid (none = m) := Lib.hid (by rw [← HME.out]; rfl)
          clear HME
          go_wp2_with fail
          refine HSM.out.mono ?_
          rintro e w9 ⟨rfl, k9, rfl⟩
          go_wp2
          go_ret2
          rw [← HF.out]
          exact ⟨rfl, below_dn HB3.out k9⟩
      · have HF : Hid (none = m) := Lib.hid (by
          rw [← HM.out, hr]
          have hne : ¬ s.data.toList.drop k = [] := fun e => by
            have := congrArg List.length e
            rw [List.length_drop, ← sizeD] at this
            simp at this
            omega
          simp [hne])
        have q1 : ((k : Int) != (s.size : Int)) = true := by simp; omega
        clear hr HM hp hb2 HV1 HB1 HSC hks
        generalize L.length = n3 at *
        go_wp2_with fail
        go_ret2
        rw [← HF.out]
        exact ⟨rfl, HB3.out⟩
    · have HF : Hid (none = m) := Lib.hid (by rw [← HM.out, hr])
      have HB3 := Lib.hid (HB2.out.alloc HB2.out.size (.cells #[.slice none 0 0, .int .i64 n2, .int .i64 er] 43))
      have q1 : (er != 0) = true := by simpa using her
      clear hr HM hb2 HV1 HB1 HSC her
      go_wp2_with fail
      go_ret2
      rw [← HF.out]
      exact ⟨rfl, HB3.out⟩

end Go.Proofs.YtkbhjjmgacahdaaDoor.Wd
