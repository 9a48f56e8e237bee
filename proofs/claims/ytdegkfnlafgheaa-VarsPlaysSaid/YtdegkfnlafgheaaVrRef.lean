/- DERIVED. The document's own table: Place, Set. -/
import Derived.Test.YtdegkfnlafgheaaVrRefM
import Derived.Test.YtdegkfnlafgheaaVrSet2
import Derived.Deep.LoopGhost
import Derived.Sort.Walk0
import Derived.Recover
namespace Go.Proofs.Ytdegkfnlafgheaa.Vr
open Go.RowKit
open PathM WdM VrM
open Go.Proofs.Ytdegkfnlafgheaa.Wd
set_option linter.unusedVariables false
theorem eq_str (a b : Bs) : ((nm a).toList == (nm b).toList) = decide (a = b) := by
  rw [listD, listD, nm_data, nm_data]
  rw [Bool.eq_iff_iff]; simp
theorem lt_str (a b : Bs) : Op.bytesLess (nm a).toList (nm b).toList = decide (a < b) := by
  rw [Go.Proofs.bytesLess_eq, listD, listD, nm_data, nm_data]
theorem ge_str (a b : Bs) : (Op.bytesLess (nm b).toList (nm a).toList || (nm b).toList == (nm a).toList) = !decide (a < b) := by
  rw [eq_str, Go.Proofs.bytesLess_eq, listD, listD, nm_data, nm_data]
  rcases lt_tri a b with h | h | h
  · have h1 : ¬ b < a := fun h2 => lt_irr _ (lt_tr h h2)
    have h2 : ¬ b = a := by rintro rfl; exact lt_irr _ h
    simp [h, h1, h2]
  · subst h; simp [lt_irr]
  · have h1 : ¬ a < b := fun h2 => lt_irr _ (lt_tr h h2)
    simp [h, h1]
set_option maxRecDepth 100000 in
set_option maxHeartbeats 1600000 in
theorem rplace_any (vs : Vs) (name : Bs) (vv : Value) (A2 : Option Addr) (n2 c2 : Nat) (st : Int) (w : World) (h : VsIn w vv vs) (hs : Srt vs) (hl : vs.length ≤ 1000) :
    Calls Try.prog 41 #[.agg #[vv, .slice A2 n2 c2, .int .i64 st], .string (nm name)] w fun e w' => e = .returned (.int .i64 (plV vs name)) ∧ Below w.heap.size w w' := by
  obtain ⟨A, c, rfl, hlc, hcell⟩ := h
  obtain ⟨m, hm⟩ : ∃ m, plV vs name = m := ⟨_, rfl⟩
  rw [hm]
  have HF : Hid (∀ i (h : i < vs.length), vs[i].1 = name → m = (i : Int)) := Lib.hid (fun i hi h => by rw [← hm]; exact pl_found hs i hi h)
  have HN : Hid ((∀ t (h : t < vs.length), vs[t].1 ≠ name) → m = -1) := Lib.hid (fun h => by rw [← hm]; exact pl_none h)
  have HCE : Hid (∀ i (h : i < vs.length), ∃ b off, A = some ⟨b, off, none⟩ ∧ b < w.heap.size ∧ ∀ W, Below w.heap.size w W → W.cell? ⟨b, off + i * 2, none⟩ = some (.string (nm vs[i].1))) := Lib.hid (fun i h => by
    obtain ⟨b, off, h1, h2, h3⟩ := hcell (fun e => by rw [e] at h; simp at h)
    exact ⟨b, off, h1, h2, fun W hb => (World.cell?_of_block (hb.block b h2)).trans (h3 i h).1⟩)
  have HES := Lib.hid (fun a => eq_str a name)
  obtain ⟨n, hn⟩ : ∃ n, vs.length = n := ⟨_, rfl⟩
  have HL := Lib.hid hn
  rw [hn] at hlc hl ⊢
  have hnc : (n : Int) ≤ (c : Int) := by omega
  clear hcell hs hn hm
  generalize nm name = N at *
  go_enter Try.func41, Try.ntmps41
  go_wp2_with fail
  go_loopg [5] n (fun g x wr => ∃ i : Nat, x = .int .i64 i ∧ i ≤ n ∧ g = n - i ∧ wr = w.alloc (.cells #[.slice A n c, .slice A2 n2 c2, .int .i64 st] 36) ∧ Hid (∀ t (h : t < vs.length), t < i → vs[t].1 ≠ name))
  case atStart => exact ⟨0, rfl, Nat.zero_le _, rfl, rfl, fun t h ht => by omega⟩
  case round =>
    obtain ⟨i, rfl, hi, rfl, rfl, HI⟩ := hrel
    have hbe : Below w.heap.size w (w.alloc (.cells #[.slice A n c, .slice A2 n2 c2, .int .i64 st] 36)) := (Below.refl _ _).alloc (Nat.le_refl _) _
    have HBE := Lib.hid hbe
    by_cases hil : i < n
    · have hil2 : i < vs.length := by have := HL.out; omega
      obtain ⟨b, off, rfl, hb, hcs⟩ := HCE.out i hil2
      have a0 := hcs _ hbe
      have hbw : b < (w.alloc (.cells #[.slice (some ⟨b, off, none⟩) n c, .slice A2 n2 c2, .int .i64 st] 36)).heap.size := Nat.lt_of_lt_of_le hb hbe.size
      have q := HES.out vs[i].1
      by_cases hx : vs[i].1 = name
      · have hmm := HF.out i hil2 hx
        rw [decide_eq_true hx] at q
        generalize nm vs[i].1 = X at *
        clear hcs hbe HCE HF HN HES HI hx
        go_wp2_with fail
        go_ret
        exact ⟨ret_int hmm.symm, HBE.out⟩
      · rw [decide_eq_false hx] at q
        have HI2 : Hid (∀ t (h : t < vs.length), t < i + 1 → vs[t].1 ≠ name) := Lib.hid (fun t ht h1 => by
          by_cases e : t = i
          · subst e; exact hx
          · exact HI.out t ht (by omega))
        generalize nm vs[i].1 = X at *
        clear hcs hbe HCE HF HN HES HI hx
        go_wp2_with fail
        go_roundg (n - (i + 1))
        case measure => omega
        case rel => exact ⟨i + 1, rfl, by omega, rfl, rfl, HI2⟩
    · have hmm := HN.out (fun t ht => HI.out t ht (by have := HL.out; omega))
      clear hbe HCE HF HN HES HI
      go_wp2_with fail
      go_ret
      exact ⟨ret_int hmm.symm, HBE.out⟩
end Go.Proofs.Ytdegkfnlafgheaa.Vr
