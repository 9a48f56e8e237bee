/- DERIVED. Variables as an argument. -/
import Derived.Test.YtdegkfnlafgheaaVrOpen
import Derived.Test.YtdegkfnlafgheaaVrNew
namespace Go.Proofs.Ytdegkfnlafgheaa.Vr
open Go.RowKit Go.WideShapes Go.ChangeShapes
open PathM WdM VrM
open Go.Proofs.Ytdegkfnlafgheaa.Wd
set_option linter.unusedVariables false
set_option maxRecDepth 100000

section
variable {H : Type} {enc : TypeId × Value → H} {W : World}
theorem two_of {α : Type} {l : List α} (h : l.length = 2) : ∃ a b, l = [a, b] := by
  match l, h with
  | [a, b], _ => exact ⟨a, b, rfl⟩
theorem var_open {fuel : Nat} {cs : List Value} {x : DataW H × List MemPlace} (h : DataW.trod enc Try.prog W 0 (fun _ => true) true fuel 26 cs = some x) (hw : ∀ n ∈ x.1.weights Try.prog 26, n ≤ reachBytes) :
    ∃ e : Bs × Bs, cs = [.string (nm e.1), .string (nm e.2)] ∧ e.1.length ≤ 140737488351232 ∧ e.2.length ≤ 140737488351232 := by
  obtain ⟨xs, n, _, rfl, hlen, hxl, hg⟩ := DataW.trod_struct Try.underlying26 h
  obtain ⟨c1, c2, rfl⟩ := two_of (hlen.trans (by kernel_rfl))
  obtain ⟨y1, y2, rfl⟩ := two_of hxl
  have z9 : Try.prog.cellsOf 9 = 1 := by kernel_rfl
  have i1 : DataW.trod enc Try.prog W 0 (fun _ => true) true n 9 (([c1, c2].drop 0).take (Try.prog.cellsOf 9)) = some y1 := hg 0 _ rfl
  have i2 : DataW.trod enc Try.prog W 0 (fun _ => true) true n 9 (([c1, c2].drop 1).take (Try.prog.cellsOf 9)) = some y2 := hg 1 _ rfl
  rw [z9] at i1 i2
  simp only [DataW.weights, Try.underlying26, List.map_cons, List.map_nil, DataW.weightsEach, List.mem_append] at hw
  obtain ⟨s1, e1, l1⟩ := one_open i1 (fun n hn => hw n (.inl hn))
  obtain ⟨s2, e2, l2⟩ := one_open i2 (fun n hn => hw n (.inr (.inl hn)))
  obtain rfl : c1 = .string (nm s1) := (List.cons.inj e1).1
  obtain rfl : c2 = .string (nm s2) := (List.cons.inj e2).1
  exact ⟨(s1, s2), rfl, l1, l2⟩
theorem vars_open {fuel : Nat} {v : Value} {x : DataW H × List MemPlace} (h : DataW.trod enc Try.prog W 0 (fun _ => true) true fuel 22 [v] = some x) (hw : ∀ n ∈ x.1.weights Try.prog 22, n ≤ reachBytes) :
    ∃ l, VsX W v l := by
  have z26 : Try.prog.cellsOf 26 = 2 := by kernel_rfl
  have y26 : Try.prog.bytesOf 26 = 32 := by kernel_rfl
  rcases Go.Deep.open_slice Try.underlying22 h with ⟨h0, _⟩ | ⟨a, len, cap, m, n, D, Pl, hv2, hb, hl, hm, hmm, rfl, hi⟩
  · obtain rfl := (List.cons.inj h0).1
    exact ⟨[], VsIn.nil _ _ _, by simp, by simp⟩
  · obtain rfl := (List.cons.inj hv2).1
    have hm2 : m = cap := by simpa using hmm
    simp only [DataW.weights, Try.underlying22, y26, List.mem_cons, List.mem_append, List.length_map, List.length_range] at hw
    have hsz := hw _ (.inl rfl)
    have hev : ∀ i, i < len → ∃ e : Bs × Bs, (W.cell? (a.add (i * 2)) = some (.string (nm e.1)) ∧ W.cell? (a.add (i * 2 + 1)) = some (.string (nm e.2))) ∧ e.1.length ≤ 140737488351232 ∧ e.2.length ≤ 140737488351232 := by
      intro i hil
      obtain ⟨cs', hc, ht⟩ := hi i (by omega)
      obtain ⟨e, rfl, hb1, hb2⟩ := var_open ht (fun n hn => hw n (.inr (.inl (weights_all (List.mem_map.2 ⟨i, by simpa using hil, rfl⟩) hn))))
      rw [z26] at hc
      obtain ⟨_, _, hat⟩ := World.cells?_some hc
      have g0 := hat 0 (by omega)
      have g1 := hat 1 (by omega)
      rw [Go.Deep.add_add, Nat.add_zero] at g0
      rw [Go.Deep.add_add] at g1
      exact ⟨e, ⟨g0.trans rfl, g1.trans rfl⟩, hb1, hb2⟩
    obtain ⟨E, hE⟩ := Go.Deep.choose_lt (p := fun i (e : Bs × Bs) => (W.cell? (a.add (i * 2)) = some (.string (nm e.1)) ∧ W.cell? (a.add (i * 2 + 1)) = some (.string (nm e.2))) ∧ e.1.length ≤ 140737488351232 ∧ e.2.length ≤ 140737488351232) hev
    have hlen : ((List.range len).map E).length = len := by simp
    refine ⟨(List.range len).map E, ⟨some a, cap, by rw [hlen], by rw [hlen]; omega, fun hne => ?_⟩, by rw [hlen]; unfold reachBytes at hsz; omega, fun x hx => ?_⟩
    · have hpos : 0 < len := by
        rcases Nat.eq_zero_or_pos len with h0 | h0
        · exact absurd (by simp [h0]) hne
        · exact h0
      have g0 := (hE 0 hpos).1.1
      have hsp : a.spot = none := by
        have := World.cell?_spot g0
        simpa [Addr.add] using this
      obtain ⟨blk, off, spot⟩ := a
      simp only at hsp
      subst hsp
      have hadd : ∀ j, (⟨blk, off, none⟩ : Addr).add j = ⟨blk, off + j, none⟩ := fun j => by
        cases j with
        | zero => simp [Addr.add]
        | succ j => simp [Addr.add]
      simp only [hadd] at hE
      have hblk : blk < W.heap.size := by
        have h1 := (hE 0 hpos).1.1
        unfold World.cell? at h1
        cases hq : W.heap[blk]? with
        | none => simp [hq] at h1
        | some o => exact fin_at hq
      refine ⟨blk, off, rfl, hblk, fun i hil => ?_⟩
      have h2 := (hE i (by rw [hlen] at hil; exact hil)).1
      rw [List.getElem_map, List.getElem_range]
      exact ⟨h2.1, by have := h2.2; rw [← Nat.add_assoc] at this; exact this⟩
    · obtain ⟨i, hi2, rfl⟩ := List.mem_map.1 hx
      exact (hE i (by simpa using hi2)).2
theorem vars_arg {v : Value} {d : DataW H} {p : List MemPlace} {b0 : Nat} (hv : Value.okWide Try.prog W .any b0 22 v) (h : DataW.Trod enc Try.prog W 0 (fun _ => true) true 22 v d p) (hw : ∀ n ∈ d.weights Try.prog 22, n ≤ reachBytes) : ∃ l, VsX W v l := by
  obtain ⟨a, len, cap, rfl⟩ := okWide_slice Try.underlying22 hv
  obtain ⟨fuel, hf⟩ := h
  exact vars_open hf hw
end
end Go.Proofs.Ytdegkfnlafgheaa.Vr
