/- DERIVED. Variables in memory; the walk over find. -/
import Derived.Test.YtdegkfnlafgheaaVrMath
import Derived.Test.YtdegkfnlafgheaaVrGet
import Derived.Deep.LoopGhost
namespace Go.Proofs.Ytdegkfnlafgheaa.Vr
open Go.RowKit
open PathM WdM VrM
open Go.Proofs.Ytdegkfnlafgheaa.Wd
set_option linter.unusedVariables false
/-- Variables, from wherever. -/
def VsIn (w : World) (v : Value) (vs : Vs) : Prop := ∃ (A : Option Addr) (c : Nat), v = .slice A vs.length c ∧ vs.length ≤ c ∧ (vs ≠ [] → ∃ b off, A = some ⟨b, off, none⟩ ∧ b < w.heap.size ∧ ∀ i (h : i < vs.length), w.cell? ⟨b, off + i * 2, none⟩ = some (.string (nm vs[i].1)) ∧ w.cell? ⟨b, off + i * 2 + 1, none⟩ = some (.string (nm vs[i].2)))
theorem VsIn.below {w w' : World} {v : Value} {vs : Vs} (h : VsIn w v vs) (hb : Below w.heap.size w w') : VsIn w' v vs := by
  obtain ⟨A, c, hv, hl, h⟩ := h
  refine ⟨A, c, hv, hl, fun hne => ?_⟩
  obtain ⟨b, off, hA, hlt, hc⟩ := h hne
  exact ⟨b, off, hA, Nat.lt_of_lt_of_le hlt hb.size, fun i hi => ⟨(World.cell?_of_block (hb.block b hlt)).trans (hc i hi).1, (World.cell?_of_block (hb.block b hlt)).trans (hc i hi).2⟩⟩
theorem VsIn.form {w : World} {v : Value} {vs : Vs} (h : VsIn w v vs) : ∃ A c, v = .slice A vs.length c ∧ vs.length ≤ c := by obtain ⟨A, c, hv, hl, _⟩ := h; exact ⟨A, c, hv, hl⟩
theorem VsIn.nil (w : World) (A : Option Addr) (c : Nat) : VsIn w (.slice A 0 c) [] := ⟨A, c, rfl, Nat.zero_le _, fun h => absurd rfl h⟩
set_option maxHeartbeats 800000 in
theorem cmp_any (x y name : Bs) (w : World) :
    Calls Try.prog 56 #[.agg #[.string (nm x), .string (nm y)], .string (nm name)] w fun e w' => e = .returned (.int .i64 (Lib.compareBytes x name)) ∧ Below w.heap.size w w' := by
  have h := fun w => Try.strings_Compare (nm x) (nm name) w
  rw [nm_data, nm_data] at h
  have H := Lib.hid h
  clear h
  generalize Lib.compareBytes x name = r at *
  generalize nm x = X at *
  generalize nm y = Y at *
  generalize nm name = N at *
  go_enter Try.func56, Try.ntmps56
  go_wp2_with (go_at_call 57; refine (H.out _).mono ?_; rintro e W ⟨rfl, rfl⟩)
  go_ret
  exact ⟨rfl, (Below.refl _ _).alloc (Nat.le_refl _) _⟩
def BinInv (vs : Vs) (name : Bs) (lo hi : Nat) : Prop := (∀ t (h : t < vs.length), t < lo → vs[t].1 < name) ∧ (∀ t (h : t < vs.length), hi ≤ t → ¬ vs[t].1 < name)
set_option maxRecDepth 100000 in
set_option maxHeartbeats 1600000 in
theorem bin_any (vs : Vs) (name : Bs) (v : Value) (w : World) (h : VsIn w v vs) (hs : Srt vs) (hl : vs.length ≤ 1000000) :
    Calls Try.prog 55 #[v, .string (nm name), .func (.func 56) #[] #[]] w fun e w' => e = .returned (.tuple #[.int .i64 (posV vs name : Nat), .bool (hasV vs name)]) ∧ Below w.heap.size w w' := by
  obtain ⟨A, c, rfl, hlc, hcell⟩ := h
  have HCE := Lib.hid hcell
  have HS := Lib.hid hs
  obtain ⟨n, hn⟩ : ∃ n, vs.length = n := ⟨_, rfl⟩
  have HN := Lib.hid hn
  rw [hn] at hl hlc ⊢
  have hnc : (n : Int) ≤ (c : Int) := by omega
  have HCM := Lib.hid (fun x y w => cmp_any x y name w)
  clear hcell hn hs
  obtain ⟨pos, hpos⟩ : ∃ p, posV vs name = p := ⟨_, rfl⟩
  obtain ⟨fnd, hfnd⟩ : ∃ p, hasV vs name = p := ⟨_, rfl⟩
  rw [hpos, hfnd]
  have HP := Lib.hid hpos
  have HF := Lib.hid hfnd
  clear hpos hfnd
  generalize hNm : nm name = N at *
  clear hNm
  go_enter Try.func55, Try.ntmps55
  go_wp2_with fail
  go_loopg [9, 10] n (fun g x9 x10 wr => ∃ lo hi : Nat, x9 = .int .i64 lo ∧ x10 = .int .i64 hi ∧ lo ≤ hi ∧ hi ≤ n ∧ hi - lo ≤ g ∧ Below w.heap.size w wr ∧ Hid (BinInv vs name lo hi))
  case atStart => exact ⟨0, n, rfl, rfl, Nat.zero_le _, Nat.le_refl _, by omega, Below.refl _ _, ⟨fun t h ht => by omega, fun t h ht => by have := HN.out; omega⟩⟩
  case round =>
    obtain ⟨lo, hi, rfl, rfl, hlh, hin, hg, hbe, HI⟩ := hrel
    have HBE := Lib.hid hbe
    by_cases hlt : lo < hi
    · have hml : (lo + hi) / 2 < vs.length := by have := HN.out; omega
      have hmn : (lo + hi) / 2 < n := by omega
      obtain ⟨b, off, hA, hb, hcs⟩ := HCE.out (fun e => by rw [e] at hml; simp at hml)
      subst hA
      obtain ⟨a0, a1⟩ := hcs _ hml
      replace a0 := (World.cell?_of_block (hbe.block b hb)).trans a0
      replace a1 := (World.cell?_of_block (hbe.block b hb)).trans a1
      have hc := HCM.out vs[(lo + hi) / 2].1 vs[(lo + hi) / 2].2 wr
      have hcl := cmp_lt vs[(lo + hi) / 2].1 name
      have HMX : Hid ((vs[(lo + hi) / 2].1 < name → BinInv vs name ((lo + hi) / 2 + 1) hi) ∧ (¬ vs[(lo + hi) / 2].1 < name → BinInv vs name lo ((lo + hi) / 2))) := Lib.hid ⟨fun hx => ⟨fun t ht h2 => by
          by_cases h3 : t = (lo + hi) / 2
          · subst h3; exact hx
          · have h4 := (List.pairwise_iff_getElem.1 HS.out) t ((lo + hi) / 2) ht hml (by omega)
            exact lt_tr h4 hx, HI.out.2⟩, fun hx => ⟨HI.out.1, fun t ht h2 h3 => by
          by_cases h4 : t = (lo + hi) / 2
          · subst h4; exact hx h3
          · have h5 := (List.pairwise_iff_getElem.1 HS.out) ((lo + hi) / 2) t hml ht (by omega)
            exact hx (lt_tr h5 h3)⟩⟩
      generalize vs[(lo + hi) / 2] = x at *
      obtain ⟨x1, x2⟩ := x
      dsimp only at a0 a1 hc hcl HMX
      generalize Lib.compareBytes x1 name = r at *
      have HC := Lib.hid hc
      have hwr := hbe.size
      have hbw : b < wr.heap.size := by omega
      clear hcs hbe hc HI
      generalize nm x1 = X1 at *
      generalize nm x2 = X2 at *
      by_cases hx : x1 < name
      · have hr : r < 0 := by rw [decide_eq_true hx] at hcl; exact of_decide_eq_true hcl
        have HI2 := Lib.hid (HMX.out.1 hx)
        clear HMX hx hcl
        go_wp2_with fail
        refine HC.out.mono ?_
        rintro e W2 ⟨rfl, hb2⟩
        have HB2 := Lib.hid (HBE.out.trans (hb2.mono hwr))
        clear hb2
        go_wp2_with fail
        go_roundg (hi - ((lo + hi) / 2 + 1))
        case measure => omega
        case rel => exact ⟨(lo + hi) / 2 + 1, hi, by rw [show ((lo : Int) + (hi : Int)) / 2 + 1 = (((lo + hi) / 2 + 1 : Nat) : Int) by omega], rfl, by omega, hin, Nat.le_refl _, HB2.out, HI2⟩
      · have hr : ¬ r < 0 := by rw [decide_eq_false hx] at hcl; exact of_decide_eq_false hcl
        have HI2 := Lib.hid (HMX.out.2 hx)
        clear HMX hx hcl
        go_wp2_with fail
        refine HC.out.mono ?_
        rintro e W2 ⟨rfl, hb2⟩
        have HB2 := Lib.hid (HBE.out.trans (hb2.mono hwr))
        clear hb2
        go_wp2_with fail
        go_roundg ((lo + hi) / 2 - lo)
        case measure => omega
        case rel => exact ⟨lo, (lo + hi) / 2, rfl, by rw [show ((lo : Int) + (hi : Int)) / 2 = (((lo + hi) / 2 : Nat) : Int) by omega], by omega, by omega, Nat.le_refl _, HB2.out, HI2⟩
    · obtain rfl : hi = lo := by omega
      have hp : pos = hi := by
        rw [← HP.out]
        exact pos_of vs hi (by rw [HN.out]; exact hin) HI.out.1 HI.out.2
      have hf := has_at (name := name) HS.out
      rw [HP.out, HF.out, HN.out, hp] at hf
      subst hp
      by_cases hn : pos < n
      · have hml : pos < vs.length := by have := HN.out; omega
        obtain ⟨b, off, hA, hb, hcs⟩ := HCE.out (fun e => by rw [e] at hml; simp at hml)
        subst hA
        obtain ⟨a0, a1⟩ := hcs _ hml
        replace a0 := (World.cell?_of_block (hbe.block b hb)).trans a0
        replace a1 := (World.cell?_of_block (hbe.block b hb)).trans a1
        have hc := HCM.out vs[pos].1 vs[pos].2 wr
        have hcl := cmp_eq vs[pos].1 name
        rw [List.getElem?_eq_getElem hml, decide_eq_true hn, Bool.true_and] at hf
        have hf2 : fnd = decide (vs[pos].1 = name) := by rw [hf]; simp
        rw [← hf2] at hcl
        clear hf hf2
        generalize vs[pos] = x at *
        obtain ⟨x1, x2⟩ := x
        dsimp only at a0 a1 hc
        generalize Lib.compareBytes x1 name = r at *
        have HC := Lib.hid hc
        have hwr := hbe.size
        have hbw : b < wr.heap.size := by omega
        have HCL := Lib.hid hcl
        clear hcs hbe hc HI hcl
        generalize nm x1 = X1 at *
        generalize nm x2 = X2 at *
        go_wp2_with fail
        refine HC.out.mono ?_
        rintro e W2 ⟨rfl, hb2⟩
        have HB2 := Lib.hid (HBE.out.trans (hb2.mono hwr))
        clear hb2
        go_wp2_with fail
        go_ret2
        refine ⟨?_, HB2.out⟩
        rw [← HCL.out]
        rfl
      · rw [decide_eq_false hn, Bool.false_and] at hf
        subst hf
        clear hbe
        go_wp2_with fail
        go_ret2
        exact ⟨rfl, HBE.out⟩
end Go.Proofs.Ytdegkfnlafgheaa.Vr
