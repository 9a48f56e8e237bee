/- DERIVED. Walks over the document's own answers for layer 1 (package rehearsalref01). -/
import Derived.Test.YtdegkfnlafgheaaDoorNumBase
namespace Go.Proofs.YtdegkfnlafgheaaDoor
open Go.RowKit
open NumM
set_option linter.unusedVariables false

/-- The test of the document's digit at sign k. -/
def hit (c k : Nat) : Bool := decide ((sig k).toNat = c) || (decide (10 ≤ k) && decide ((sig k).toNat = (c + 32) % 256) && decide (c < 97))
theorem hit_yes : ∀ c, c < 256 → ∀ k, k < 16 → hit c k = true → digV (UInt8.ofNat c) = k := by decide +kernel
theorem hit_no : ∀ c, c < 256 → (∀ k, k < 16 → hit c k = false) → digV (UInt8.ofNat c) = 16 := by decide +kernel
theorem hit_at (c : UInt8) (k : Nat) (hk : k < 16) (h : hit c.toNat k = true) : digV c = k := by
  have := hit_yes c.toNat c.toNat_lt k hk h
  rwa [UInt8.ofNat_toNat] at this
theorem hit_none (c : UInt8) (h : ∀ k, k < 16 → hit c.toNat k = false) : digV c = 16 := by
  have := hit_no c.toNat c.toNat_lt h
  rwa [UInt8.ofNat_toNat] at this
theorem idx_sigI (i : Nat) (h : i < 16) (W : World) :
    (Instr.index 9 (.string ⟨#[48, 49, 50, 51, 52, 53, 54, 55, 56, 57, 97, 98, 99, 100, 101, 102]⟩) (.int .i64 (i : Int))).run Tryd.prog W = .ok (.int .u8 ((sig i).toNat : Int)) W := by
  rw [run_index_string W _ _ _ _ Tryd.underlying9, dif_pos (show 0 ≤ (i : Int) ∧ (i : Int) < _ from ⟨by omega, by show (i : Int) < ((16 : Nat) : Int); omega⟩)]
  rw [← sig_at i h]; rfl

theorem over_div (v b m : Nat) (hb : 1 ≤ b) : m / b < v ↔ m < v * b := Nat.div_lt_iff_lt_mul (by omega)

end Go.Proofs.YtdegkfnlafgheaaDoor
