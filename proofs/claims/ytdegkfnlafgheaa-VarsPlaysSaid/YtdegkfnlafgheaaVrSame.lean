/- DERIVED. The document's Same, of tables that are the same. -/
import Derived.Test.YtdegkfnlafgheaaVrHold
import Derived.BigQuiet
namespace Go.Proofs.Ytdegkfnlafgheaa.Vr
open Go.RowKit
open PathM WdM VrM
open Go.Proofs.Ytdegkfnlafgheaa.Wd
set_option linter.unusedVariables false
set_option maxRecDepth 100000 in
set_option maxHeartbeats 1600000 in
theorem rsame_any (vs : Vs) (ps : List Bs) (va aa vb ab : Value) (st : Int) (w : World) (h1 : VsIn w va vs) (h2 : ArIn w aa ps) (h3 : VsIn w vb vs) (h4 : ArIn w ab ps) (hl : vs.length ≤ 1000) (hn : ps.length ≤ 1000) :
    Calls Try.prog 13 #[tblV va aa st, tblV vb ab st] w fun e w' => e = .returned (.bool true) ∧ Below w.heap.size w w' := by
  obtain ⟨A1, c1, rfl, hc1, k1⟩ := h1
  obtain ⟨A2, c2, rfl, hc2, k2⟩ := h2
  obtain ⟨A3, c3, rfl, hc3, k3⟩ := h3
  obtain ⟨A4, c4, rfl, hc4, k4⟩ := h4
  have HV : Hid (∀ i (h : i < vs.length), ∃ b off b' off' X Y, A1 = some ⟨b, off, none⟩ ∧ A3 = some ⟨b', off', none⟩ ∧ ∀ W, Below w.heap.size w W → (W.cell? ⟨b, off + i * 2, none⟩ = some (.string X) ∧ W.cell? ⟨b, off + i * 2 + 1, none⟩ = some (.string Y) ∧ b < W.heap.size) ∧ (W.cell? ⟨b', off' + i * 2, none⟩ = some (.string X) ∧ W.cell? ⟨b', off' + i * 2 + 1, none⟩ = some (.string Y) ∧ b' < W.heap.size)) := Lib.hid (fun i h => by
    obtain ⟨b, off, e1, l1, f1⟩ := k1 (fun e => by rw [e] at h; simp at h)
    obtain ⟨b', off', e3, l3, f3⟩ := k3 (fun e => by rw [e] at h; simp at h)
    exact ⟨b, off, b', off', _, _, e1, e3, fun W hb => ⟨⟨(World.cell?_of_block (hb.block b l1)).trans (f1 i h).1, (World.cell?_of_block (hb.block b l1)).trans (f1 i h).2, Nat.lt_of_lt_of_le l1 hb.size⟩, (World.cell?_of_block (hb.block b' l3)).trans (f3 i h).1, (World.cell?_of_block (hb.block b' l3)).trans (f3 i h).2, Nat.lt_of_lt_of_le l3 hb.size⟩⟩)
  have HA : Hid (∀ i (h : i < ps.length), ∃ b off b' off' X, A2 = some ⟨b, off, none⟩ ∧ A4 = some ⟨b', off', none⟩ ∧ ∀ W, Below w.heap.size w W → (W.cell? ⟨b, off + i, none⟩ = some (.string X) ∧ b < W.heap.size) ∧ (W.cell? ⟨b', off' + i, none⟩ = some (.string X) ∧ b' < W.heap.size)) := Lib.hid (fun i h => by
    obtain ⟨b, off, e1, l1, f1⟩ := k2 (fun e => by rw [e] at h; simp at h)
    obtain ⟨b', off', e3, l3, f3⟩ := k4 (fun e => by rw [e] at h; simp at h)
    exact ⟨b, off, b', off', _, e1, e3, fun W hb => ⟨⟨(World.cell?_of_block (hb.block b l1)).trans (f1 i h), Nat.lt_of_lt_of_le l1 hb.size⟩, (World.cell?_of_block (hb.block b' l3)).trans (f3 i h), Nat.lt_of_lt_of_le l3 hb.size⟩⟩)
  obtain ⟨n, hnn⟩ : ∃ n, vs.length = n := ⟨_, rfl⟩
  obtain ⟨m, hmm⟩ : ∃ m, ps.length = m := ⟨_, rfl⟩
  rw [hnn] at hc1 hc3 hl ⊢
  rw [hmm] at hc2 hc4 hn ⊢
  have i1 : (n : Int) ≤ (c1 : Int) := by omega
  have i2 : (m : Int) ≤ (c2 : Int) := by omega
  have i3 : (n : Int) ≤ (c3 : Int) := by omega
  have i4 : (m : Int) ≤ (c4 : Int) := by omega
  have i5 : (n : Int) ≤ 1000 := by omega
  have i6 : (m : Int) ≤ 1000 := by omega
  have HN := Lib.hid hnn
  have HM := Lib.hid hmm
  unfold tblV
  clear k1 k2 k3 k4 hnn hmm
  go_enter Try.func13, Try.ntmps13
  go_wp2_with fail
  have HB := Lib.hid (two_below w (.cells #[.slice A1 n c1, .slice A2 m c2, .int .i64 st] 36) (.cells #[.slice A3 n c3, .slice A4 m c4, .int .i64 st] 36))
  obtain ⟨W0, hW0⟩ : ∃ W0, W0 = ((w.alloc (.cells #[.slice A1 n c1, .slice A2 m c2, .int .i64 st] 36)).alloc (.cells #[.slice A3 n c3, .slice A4 m c4, .int .i64 st] 36)) := ⟨_, rfl⟩
  have hx2 : W0.heap[w.heap.size]? = some (.cells #[.slice A1 n c1, .slice A2 m c2, .int .i64 st] 36 (0, 0)) := by rw [hW0]; exact two_old _ _ _
  have hx3 : W0.heap[w.heap.size + 1]? = some (.cells #[.slice A3 n c3, .slice A4 m c4, .int .i64 st] 36 (0, 0)) := by rw [hW0]; exact two_new _ _ _
  rw [← hW0] at HB ⊢
  clear hW0
  have HX2 := Lib.hid hx2
  have HX3 := Lib.hid hx3
  clear hx2 hx3
  go_loopg [5] n (fun g x wr => ∃ i : Nat, x = .int .i64 i ∧ i ≤ n ∧ g = n - i ∧ ∃ q, wr = W0.drewN q)
  case atStart => exact ⟨0, rfl, Nat.zero_le _, rfl, 0, rfl⟩
  case round =>
    obtain ⟨i, rfl, hi, rfl, q, rfl⟩ := hrel
    have HBQ := Lib.hid (below_drewN' HB.out q)
    have z2 := fin_at HX2.out
    have z3 := fin_at HX3.out
    by_cases hil : i < n
    · have c20 : (W0.drewN q).cell? ⟨w.heap.size, 0, none⟩ = some (.slice A1 n c1) := by simpa using cell_blk HX2.out 0
      have c30 : (W0.drewN q).cell? ⟨w.heap.size + 1, 0, none⟩ = some (.slice A3 n c3) := by simpa using cell_blk HX3.out 0
      obtain ⟨b, off, b', off', X, Y, rfl, rfl, hW⟩ := HV.out i (by have := HN.out; omega)
      obtain ⟨⟨a1, a2, a3⟩, a4, a5, a6⟩ := hW W0 HB.out
      have c20 : W0.cell? ⟨w.heap.size, 0, none⟩ = some (.slice (some ⟨b, off, none⟩) n c1) := by simpa using cell_blk HX2.out 0
      have c30 : W0.cell? ⟨w.heap.size + 1, 0, none⟩ = some (.slice (some ⟨b', off', none⟩) n c3) := by simpa using cell_blk HX3.out 0
      clear hW HV HA
      go_wp2_with fail
      go_quiet (fail)
      go_wp2_with fail
      go_roundg (n - (i + 1))
      case measure => omega
      case rel => exact ⟨i + 1, rfl, by omega, rfl, _, rfl⟩
    · have c20 : (W0.drewN q).cell? ⟨w.heap.size, 0, none⟩ = some (.slice A1 n c1) := by simpa using cell_blk HX2.out 0
      clear HV
      go_wp2_with fail
      go_loopg [6] m (fun g x wr => ∃ i : Nat, x = .int .i64 i ∧ i ≤ m ∧ g = m - i ∧ ∃ q, wr = W0.drewN q)
      case atStart => exact ⟨0, rfl, Nat.zero_le _, rfl, q, rfl⟩
      case round =>
        clear HBQ
        clear c20
        obtain ⟨i, rfl, hi, rfl, q2, rfl⟩ := hrel
        have HBQ := Lib.hid (below_drewN' HB.out q2)
        have c21 : (W0.drewN q2).cell? ⟨w.heap.size, 1, none⟩ = some (.slice A2 m c2) := by simpa using cell_blk HX2.out 1
        have c31 : (W0.drewN q2).cell? ⟨w.heap.size + 1, 1, none⟩ = some (.slice A4 m c4) := by simpa using cell_blk HX3.out 1
        by_cases hil : i < m
        · obtain ⟨b, off, b', off', X, rfl, rfl, hW⟩ := HA.out i (by have := HM.out; omega)
          obtain ⟨⟨a1, a3⟩, a4, a6⟩ := hW W0 HB.out
          have c21 : W0.cell? ⟨w.heap.size, 1, none⟩ = some (.slice (some ⟨b, off, none⟩) m c2) := by simpa using cell_blk HX2.out 1
          have c31 : W0.cell? ⟨w.heap.size + 1, 1, none⟩ = some (.slice (some ⟨b', off', none⟩) m c4) := by simpa using cell_blk HX3.out 1
          clear hW HA
          go_wp2_with fail
          go_quiet (fail)
          go_wp2_with fail
          go_roundg (m - (i + 1))
          case measure => omega
          case rel => exact ⟨i + 1, rfl, by omega, rfl, _, rfl⟩
        · clear HA
          go_wp2_with fail
          go_ret
          exact ⟨rfl, HBQ.out⟩
end Go.Proofs.Ytdegkfnlafgheaa.Vr
