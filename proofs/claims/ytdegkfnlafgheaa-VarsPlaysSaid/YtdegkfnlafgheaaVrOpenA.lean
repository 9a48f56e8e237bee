/- DERIVED. Calls as an argument. -/
import Derived.Test.YtdegkfnlafgheaaVrOpenV
namespace Go.Proofs.Ytdegkfnlafgheaa.Vr
open Go.RowKit Go.WideShapes Go.ChangeShapes
open PathM WdM VrM
open Go.Proofs.Ytdegkfnlafgheaa.Wd
set_option linter.unusedVariables false
set_option maxRecDepth 100000
/-- The five cells of a call. -/
def ActAt (w : World) (b off : Nat) (x : ActB × Value) : Prop := w.cell? ⟨b, off, none⟩ = some (.int .i64 x.1.kind) ∧ w.cell? ⟨b, off + 1, none⟩ = some (.string (nm x.1.name)) ∧ w.cell? ⟨b, off + 2, none⟩ = some (.string (nm x.1.val)) ∧ w.cell? ⟨b, off + 3, none⟩ = some x.2 ∧ w.cell? ⟨b, off + 4, none⟩ = some (.int .i64 x.1.n)
/-- Calls as they come in. -/
def ActsX (w : World) (v : Value) (l : List (ActB × Value)) : Prop := ∃ (A : Option Addr) (c : Nat), v = .slice A l.length c ∧ l.length ≤ c ∧ l.length ≤ 140737488351232 ∧ (l ≠ [] → ∃ b off, A = some ⟨b, off, none⟩ ∧ b < w.heap.size ∧ ∀ i (h : i < l.length), ActAt w b (off + i * 5) l[i] ∧ ActOk w l[i].1 l[i].2)
section
variable {H : Type} {enc : TypeId × Value → H} {W : World}
theorem acts_open {fuel : Nat} {v : Value} {x : DataW H × List MemPlace} (h : DataW.trod enc Try.prog W 0 (fun _ => true) true fuel 24 [v] = some x) (hw : ∀ n ∈ x.1.weights Try.prog 24, n ≤ reachBytes) :
    ∃ l, ActsX W v l := by
  have z30 : Try.prog.cellsOf 30 = 5 := by kernel_rfl
  have y30 : Try.prog.bytesOf 30 = 72 := by kernel_rfl
  rcases Go.Deep.open_slice Try.underlying24 h with ⟨h0, _⟩ | ⟨a, len, cap, m, n, D, Pl, hv2, hb, hl, hm, hmm, rfl, hi⟩
  · obtain rfl := (List.cons.inj h0).1
    exact ⟨[], none, 0, rfl, by simp, by simp, fun h => absurd rfl h⟩
  · obtain rfl := (List.cons.inj hv2).1
    have hm2 : m = cap := by simpa using hmm
    simp only [DataW.weights, Try.underlying24, y30, List.mem_cons, List.mem_append, List.length_map, List.length_range] at hw
    have hsz := hw _ (.inl rfl)
    have hev : ∀ i, i < len → ∃ e : ActB × Value, (W.cell? (a.add (i * 5)) = some (.int .i64 e.1.kind) ∧ W.cell? (a.add (i * 5 + 1)) = some (.string (nm e.1.name)) ∧ W.cell? (a.add (i * 5 + 2)) = some (.string (nm e.1.val)) ∧ W.cell? (a.add (i * 5 + 3)) = some e.2 ∧ W.cell? (a.add (i * 5 + 4)) = some (.int .i64 e.1.n)) ∧ ActOk W e.1 e.2 := by
      intro i hil
      obtain ⟨cs', hc, ht⟩ := hi i (by omega)
      obtain ⟨e, av, rfl, hok⟩ := act_cells ht (fun n hn => hw n (.inr (.inl (weights_all (List.mem_map.2 ⟨i, by simpa using hil, rfl⟩) hn))))
      rw [z30] at hc
      obtain ⟨_, _, hat⟩ := World.cells?_some hc
      have g0 := hat 0 (by omega)
      have g1 := hat 1 (by omega)
      have g2 := hat 2 (by omega)
      have g3 := hat 3 (by omega)
      have g4 := hat 4 (by omega)
      rw [Go.Deep.add_add] at g0 g1 g2 g3 g4
      rw [Nat.add_zero] at g0
      exact ⟨(e, av), ⟨g0.trans rfl, g1.trans rfl, g2.trans rfl, g3.trans rfl, g4.trans rfl⟩, hok⟩
    obtain ⟨E, hE⟩ : ∃ E : Nat → ActB × Value, ∀ i, i < len → (W.cell? (a.add (i * 5)) = some (.int .i64 (E i).1.kind) ∧ W.cell? (a.add (i * 5 + 1)) = some (.string (nm (E i).1.name)) ∧ W.cell? (a.add (i * 5 + 2)) = some (.string (nm (E i).1.val)) ∧ W.cell? (a.add (i * 5 + 3)) = some (E i).2 ∧ W.cell? (a.add (i * 5 + 4)) = some (.int .i64 (E i).1.n)) ∧ ActOk W (E i).1 (E i).2 := by
      classical
      exact ⟨fun i => if h : i < len then (hev i h).choose else (⟨0, [], [], [], 0⟩, .slice none 0 0), fun i hi => by simp only [hi, dif_pos]; exact (hev i hi).choose_spec⟩
    have hlen : ((List.range len).map E).length = len := by simp
    refine ⟨(List.range len).map E, some a, cap, by rw [hlen], by rw [hlen]; omega, by rw [hlen]; unfold reachBytes at hsz; omega, fun hne => ?_⟩
    have hpos : 0 < len := by
      rcases Nat.eq_zero_or_pos len with h0 | h0
      · exact absurd (by simp [h0]) hne
      · exact h0
    have g0 := (hE 0 hpos).1.1
    have hsp : a.spot = none := by
      have := World.cell?_spot g0
      simpa [Addr.add] using this
    obtain ⟨blk, off, spot⟩ := a
    simp only at hsp
    subst hsp
    have hadd : ∀ j, (⟨blk, off, none⟩ : Addr).add j = ⟨blk, off + j, none⟩ := fun j => by
      cases j with
      | zero => simp [Addr.add]
      | succ j => simp [Addr.add]
    simp only [hadd] at hE
    have hblk : blk < W.heap.size := by
      have h1 := (hE 0 hpos).1.1
      unfold World.cell? at h1
      cases hq : W.heap[blk]? with
      | none => simp [hq] at h1
      | some o => exact fin_at hq
    refine ⟨blk, off, rfl, hblk, fun i hil => ?_⟩
    have h2 := hE i (by rw [hlen] at hil; exact hil)
    rw [List.getElem_map, List.getElem_range]
    obtain ⟨⟨k0, k1, k2, k3, k4⟩, hok⟩ := h2
    rw [← Nat.add_assoc] at k1 k2 k3 k4
    exact ⟨⟨k0, k1, k2, k3, k4⟩, hok⟩
theorem acts11_arg {v : Value} {d : DataW H} {p : List MemPlace} {b0 : Nat} (hv : Value.okWide Try.prog W .any b0 24 v) (h : DataW.Trod enc Try.prog W 0 (fun _ => true) true 24 v d p) (hw : ∀ n ∈ d.weights Try.prog 24, n ≤ reachBytes) : ∃ l, ActsX W v l := by
  obtain ⟨a, len, cap, rfl⟩ := okWide_slice Try.underlying24 hv
  obtain ⟨fuel, hf⟩ := h
  exact acts_open hf hw
end
end Go.Proofs.Ytdegkfnlafgheaa.Vr
