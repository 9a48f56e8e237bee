/- DERIVED. The document's own table: SetArgs, Shift, Joined. -/
import Derived.Test.YtdegkfnlafgheaaVrRSet
namespace Go.Proofs.Ytdegkfnlafgheaa.Vr
open Go.RowKit
open PathM WdM VrM
open Go.Proofs.Ytdegkfnlafgheaa.Wd
set_option linter.unusedVariables false
def RArgPost (vv av : Value) (st : Int) (v : Value) (b : Bool) (w : World) (e : Ending) (w' : World) : Prop := Below w.heap.size w w' ∧ match b with
  | true => e = .returned (.tuple #[tblV vv v st, .int .i64 0])
  | false => e = .returned (.tuple #[tblV vv av st, .int .i64 2])
theorem ra_no {vv av v : Value} {st : Int} {b : Bool} {w w' : World} (hb : b = false) (h : Below w.heap.size w w') : RArgPost vv av st v b w (.returned (.tuple #[tblV vv av st, .int .i64 2])) w' := by subst hb; exact ⟨h, rfl⟩
theorem ra_yes {vv av v : Value} {st : Int} {b : Bool} {w w' : World} (hb : b = true) (h : Below w.heap.size w w') : RArgPost vv av st v b w (.returned (.tuple #[tblV vv v st, .int .i64 0])) w' := by subst hb; exact ⟨h, rfl⟩
theorem big_at {qs : List Bs} {i : Nat} (h : i < qs.length) (hx : 4096 < qs[i].length) : tooBig qs = true := by
  unfold tooBig
  rw [List.any_eq_true]
  exact ⟨qs[i], List.getElem_mem h, by simpa using hx⟩
theorem big_none {qs : List Bs} (h : ∀ i (h : i < qs.length), ¬ 4096 < qs[i].length) : tooBig qs = false := by
  unfold tooBig
  rw [List.any_eq_false]
  intro x hx
  obtain ⟨t, ht, rfl⟩ := List.getElem_of_mem hx
  simpa using h t ht
set_option maxRecDepth 100000 in
set_option maxHeartbeats 1600000 in
theorem rargs_any (A1 A2 : Option Addr) (n1 c1 n2 c2 : Nat) (st : Int) (qs : List Bs) (v : Value) (w : World) (h : ArX w v qs) :
    Calls Try.prog 28 #[tblV (.slice A1 n1 c1) (.slice A2 n2 c2) st, v] w (RArgPost (.slice A1 n1 c1) (.slice A2 n2 c2) st v (argsOk qs) w) := by
  obtain ⟨hv, hl1, hl2⟩ := h
  obtain ⟨A, c, rfl, hlc, hcell⟩ := hv
  have HCE : Hid (∀ i (h : i < qs.length), ∃ b off, A = some ⟨b, off, none⟩ ∧ b < w.heap.size ∧ ∀ W, Below w.heap.size w W → W.cell? ⟨b, off + i, none⟩ = some (.string (nm qs[i]))) := Lib.hid (fun i h => by
    obtain ⟨b, off, h1, h2, h3⟩ := hcell (fun e => by rw [e] at h; simp at h)
    exact ⟨b, off, h1, h2, fun W hb => (World.cell?_of_block (hb.block b h2)).trans (h3 i h)⟩)
  have HS : Hid (∀ i (h : i < qs.length), (nm qs[i]).size = qs[i].length ∧ qs[i].length ≤ 140737488351232) := Lib.hid (fun i h => ⟨nm_size _, hl2 _ (List.getElem_mem h)⟩)
  obtain ⟨n, hn⟩ : ∃ n, qs.length = n := ⟨_, rfl⟩
  have HL := Lib.hid hn
  obtain ⟨b, hb⟩ : ∃ b, argsOk qs = b := ⟨_, rfl⟩
  have HMANY : Hid (256 < n → b = false) := Lib.hid (fun h => by rw [← hb]; unfold argsOk; rw [decide_eq_false (by omega)]; rfl)
  have HBIG : Hid (tooBig qs = true → b = false) := Lib.hid (fun h => by rw [← hb]; unfold argsOk; rw [h]; simp)
  have HOK : Hid (n ≤ 256 → tooBig qs = false → b = true) := Lib.hid (fun h h2 => by rw [← hb]; unfold argsOk; rw [h2, decide_eq_true (by omega)]; rfl)
  have HNO := Lib.hid (fun W (h : b = false) hb => ra_no (vv := .slice A1 n1 c1) (av := .slice A2 n2 c2) (v := .slice A n c) (st := st) (w := w) (w' := W) h hb)
  have HYES := Lib.hid (fun W (h : b = true) hb => ra_yes (vv := .slice A1 n1 c1) (av := .slice A2 n2 c2) (v := .slice A n c) (st := st) (w := w) (w' := W) h hb)
  rw [hb, hn]
  rw [hn] at hlc hl1
  have hnc : (n : Int) ≤ (c : Int) := by omega
  have hn2 : (n : Int) ≤ 140737488351232 := by omega
  clear hcell hl2 hn hb
  generalize RArgPost (.slice A1 n1 c1) (.slice A2 n2 c2) st (.slice A n c) b w = Q at *
  unfold tblV at *
  by_cases hbig : 256 < n
  · have hb := HMANY.out hbig
    have HB := Lib.hid hb
    have hbig2 : (256 : Int) < (n : Int) := by omega
    clear HCE HS HMANY HBIG HOK hb
    go_enter Try.func28, Try.ntmps28
    go_wp2_with fail
    refine bodyPost_ret (results_cell2 rfl _ _ _ 36 _ (0, 0) _ rfl (two_new _ _ _) Try.underlying36 rfl (by kernel_rfl)) rfl ?_
    exact HNO.out _ HB.out (two_below _ _ _)
  · have hsm : (n : Int) ≤ 256 := by omega
    go_enter Try.func28, Try.ntmps28
    go_wp2_with fail
    go_loopg [6] n (fun g x wr => ∃ i : Nat, x = .int .i64 i ∧ i ≤ n ∧ g = n - i ∧ wr = ((w.alloc (.cells #[.slice A1 n1 c1, .slice A2 n2 c2, .int .i64 st] 36)).alloc (.cells #[.slice none 0 0, .slice none 0 0, .int .i64 0] 36)) ∧ Hid (∀ j (h : j < qs.length), j < i → ¬ 4096 < qs[j].length))
    case atStart => exact ⟨0, rfl, Nat.zero_le _, rfl, rfl, fun t h ht => by omega⟩
    case round =>
      obtain ⟨i, rfl, hi, rfl, rfl, HI⟩ := hrel
      have hbe := two_below w (.cells #[.slice A1 n1 c1, .slice A2 n2 c2, .int .i64 st] 36) (.cells #[.slice none 0 0, .slice none 0 0, .int .i64 0] 36)
      by_cases hil : i < n
      · have hil2 : i < qs.length := by have := HL.out; omega
        obtain ⟨b1, off, rfl, hb1, hcs⟩ := HCE.out i hil2
        obtain ⟨hs1, hs2⟩ := HS.out i hil2
        have a0 := hcs _ hbe
        have hbw := Nat.lt_of_lt_of_le hb1 hbe.size
        by_cases hx : 4096 < qs[i].length
        · have HB := Lib.hid (HBIG.out (big_at hil2 hx))
          have hx2 : (4096 : Int) < ((nm qs[i]).size : Int) := by omega
          have hx3 : ((nm qs[i]).size : Int) ≤ 140737488351232 := by omega
          clear hs1 hs2 hx HI hcs
          generalize nm qs[i] = X at *
          clear HCE HS HBIG HOK HMANY hbe
          go_wp2_with fail
          refine bodyPost_ret (results_cell2 rfl _ _ _ 36 _ (0, 0) _ rfl (two_new _ _ _) Try.underlying36 rfl (by kernel_rfl)) rfl ?_
          exact HNO.out _ HB.out (two_below _ _ _)
        · have HI2 : Hid (∀ j (h : j < qs.length), j < i + 1 → ¬ 4096 < qs[j].length) := Lib.hid (fun t ht h1 => by
            by_cases e : t = i
            · subst e; exact hx
            · exact HI.out t ht (by omega))
          have hx2 : ((nm qs[i]).size : Int) ≤ 4096 := by omega
          clear hs1 hs2 hx HI hcs
          generalize nm qs[i] = X at *
          clear HCE HS HBIG HOK HMANY hbe
          go_wp2_with fail
          go_roundg (n - (i + 1))
          case measure => omega
          case rel => exact ⟨i + 1, rfl, by omega, rfl, rfl, HI2⟩
      · have HB := Lib.hid (HOK.out (by omega) (big_none (fun j hj => HI.out j hj (by have := HL.out; omega))))
        clear HCE HS HBIG HOK HMANY hbe HI
        go_wp2_with fail
        refine bodyPost_ret (results_cell2 rfl _ _ _ 36 _ (0, 0) _ rfl (two_new _ _ _) Try.underlying36 rfl (by kernel_rfl)) rfl ?_
        exact HYES.out _ HB.out (two_below _ _ _)
end Go.Proofs.Ytdegkfnlafgheaa.Vr
