/- DERIVED. Variables as an argument: from their reading to how they lie in memory. -/
import Derived.Test.YtcadnkanjlmfhaaGreatDoorAzQ19
import Derived.Deep.Slices
import Derived.SizedLaws
import Derived.OpenShut
import Derived.ChangeArms
import Derived.WideShapes
namespace Go.Proofs.YtcadnkanjlmfhaaGreatDoor.Ar
open Go.RowKit Go.WideShapes Go.ChangeShapes
open PathM WdM ArM
open Go.Proofs.YtcadnkanjlmfhaaGreatDoor.Wd
set_option linter.unusedVariables false
set_option maxRecDepth 100000

section
variable {H : Type} {enc : TypeId × Value → H} {W : World}
theorem weights_all {P : Program} {e : TypeId} : ∀ {l : List (DataW H)} {d : DataW H} {n : Nat}, d ∈ l → n ∈ d.weights P e → n ∈ DataW.weightsAll P e l := by
  intro l
  induction l with
  | nil => intro d n h; simp at h
  | cons a l ih =>
    intro d n hd hn
    rw [DataW.weightsAll, List.mem_append]
    rcases List.mem_cons.1 hd with rfl | hd
    · exact .inl hn
    · exact .inr (ih hd hn)
theorem two_of {α : Type} {l : List α} (h : l.length = 2) : ∃ a b, l = [a, b] := by
  match l, h with
  | [a, b], _ => exact ⟨a, b, rfl⟩
/-- A variable's two cells. -/
theorem var_open {fuel : Nat} {cs : List Value} {x : DataW H × List MemPlace} (h : DataW.trod enc Tryz.prog W 0 (fun _ => true) true fuel 35 cs = some x) (hw : ∀ n ∈ x.1.weights Tryz.prog 35, n ≤ reachBytes) :
    ∃ e : Bs × Bs, cs = [.string (nm e.1), .string (nm e.2)] ∧ e.1.length ≤ 140737488351232 ∧ e.2.length ≤ 140737488351232 := by
  obtain ⟨xs, n, _, rfl, hlen, hxl, hf⟩ := DataW.trod_struct Tryz.underlying35 h
  obtain ⟨ca, cb, rfl⟩ := two_of (hlen.trans (by kernel_rfl))
  obtain ⟨xa, xb, rfl⟩ := two_of hxl
  have z9 : Tryz.prog.cellsOf 9 = 1 := by kernel_rfl
  have h0 : DataW.trod enc Tryz.prog W 0 (fun _ => true) true n 9 (([ca, cb].drop 0).take (Tryz.prog.cellsOf 9)) = some xa := hf 0 _ rfl
  have h1 : DataW.trod enc Tryz.prog W 0 (fun _ => true) true n 9 (([ca, cb].drop 1).take (Tryz.prog.cellsOf 9)) = some xb := hf 1 _ rfl
  rw [z9] at h0 h1
  obtain ⟨s, e1, rfl, _⟩ := DataW.trod_string Tryz.underlying9 h0
  obtain ⟨s2, e3, rfl, _⟩ := DataW.trod_string Tryz.underlying9 h1
  obtain rfl : ca = .string s := (List.cons.inj e1).1
  obtain rfl : cb = .string s2 := (List.cons.inj e3).1
  simp only [DataW.weights, Tryz.underlying35, List.map_cons, List.map_nil, DataW.weightsEach, List.mem_append, List.mem_cons, List.not_mem_nil, or_false] at hw
  exact ⟨(s.data.toList, s2.data.toList), by rw [nm_of, nm_of], hw _ (.inl rfl), hw _ (.inr rfl)⟩
theorem vars_open {fuel : Nat} {v : Value} {x : DataW H × List MemPlace} (h : DataW.trod enc Tryz.prog W 0 (fun _ => true) true fuel 22 [v] = some x) (hw : ∀ n ∈ x.1.weights Tryz.prog 22, n ≤ reachBytes) :
    ∃ vs, VaX W v vs := by
  have z59 : Tryz.prog.cellsOf 35 = 2 := by kernel_rfl
  have y59 : Tryz.prog.bytesOf 35 = 32 := by kernel_rfl
  rcases Go.Deep.open_slice Tryz.underlying22 h with ⟨h0, _⟩ | ⟨a, len, cap, m, n, D, Pl, hv, hb, hl, hm, hmm, rfl, hi⟩
  · obtain rfl := (List.cons.inj h0).1
    exact ⟨[], none, 0, rfl, ⟨by simp, fun x hx => by simp at hx⟩, fun h => absurd rfl h⟩
  · obtain rfl := (List.cons.inj hv).1
    have hm2 : m = cap := by simpa using hmm
    simp only [DataW.weights, Tryz.underlying22, y59, List.mem_cons, List.mem_append, List.length_map, List.length_range] at hw
    have hsz := hw _ (.inl rfl)
    have hev : ∀ i, i < len → ∃ e : Bs × Bs, W.cell? (a.add (i * 2)) = some (.string (nm e.1)) ∧ W.cell? (a.add (i * 2 + 1)) = some (.string (nm e.2)) ∧ e.1.length ≤ 140737488351232 ∧ e.2.length ≤ 140737488351232 := by
      intro i hil
      obtain ⟨cs', hc, ht⟩ := hi i (by omega)
      obtain ⟨e, rfl, hb1, hb2⟩ := var_open ht (fun n hn => hw n (.inr (.inl (weights_all (List.mem_map.2 ⟨i, by simpa using hil, rfl⟩) hn))))
      rw [z59] at hc
      obtain ⟨_, _, hat⟩ := World.cells?_some hc
      have g0 := hat 0 (by omega)
      have g1 := hat 1 (by omega)
      rw [Go.Deep.add_add] at g0 g1
      exact ⟨e, g0.trans rfl, g1.trans rfl, hb1, hb2⟩
    obtain ⟨E, hE⟩ := Go.Deep.choose_lt (p := fun i (e : Bs × Bs) => W.cell? (a.add (i * 2)) = some (.string (nm e.1)) ∧ W.cell? (a.add (i * 2 + 1)) = some (.string (nm e.2)) ∧ e.1.length ≤ 140737488351232 ∧ e.2.length ≤ 140737488351232) hev
    have hlen : ((List.range len).map E).length = len := by simp
    refine ⟨(List.range len).map E, some a, cap, by rw [hlen], ⟨by rw [hlen]; unfold reachBytes at hsz; omega, fun x hx => ?_⟩, fun hne => ?_⟩
    · obtain ⟨i, hi2, rfl⟩ := List.mem_map.1 hx
      have := (hE i (by simpa using hi2)).2.2
      omega
    · have hpos : 0 < len := by
        rcases Nat.eq_zero_or_pos len with h0 | h0
        · exact absurd (by simp [h0]) hne
        · exact h0
      have g0 := (hE 0 hpos).1
      have hsp : a.spot = none := by
        have := World.cell?_spot g0
        simpa [Addr.add] using this
      obtain ⟨blk, off, spot⟩ := a
      simp only at hsp
      subst hsp
      have hadd : ∀ j, (⟨blk, off, none⟩ : Addr).add j = ⟨blk, off + j, none⟩ := fun j => by
        cases j with
        | zero => simp [Addr.add]
        | succ j => simp [Addr.add]
      simp only [hadd] at hE
      have hblk : blk < W.heap.size := by
        have h1 := (hE 0 hpos).1
        unfold World.cell? at h1
        cases hq : W.heap[blk]? with
        | none => simp [hq] at h1
        | some o => exact fin_at hq
      refine ⟨blk, off, rfl, hblk, fun i hil => ?_⟩
      have h2 := hE i (by rw [hlen] at hil; exact hil)
      rw [List.getElem_map, List.getElem_range]
      exact ⟨h2.1, by rw [Nat.add_assoc]; exact h2.2.1⟩
theorem vars_arg {v : Value} {d : DataW H} {p : List MemPlace} {b0 : Nat} (hv : Value.okWide Tryz.prog W .any b0 22 v) (h : DataW.Trod enc Tryz.prog W 0 (fun _ => true) true 22 v d p) (hw : ∀ n ∈ d.weights Tryz.prog 22, n ≤ reachBytes) : ∃ vs, VaX W v vs := by
  obtain ⟨a, len, cap, rfl⟩ := okWide_slice Tryz.underlying22 hv
  obtain ⟨fuel, hf⟩ := h
  exact vars_open hf hw
end
end Go.Proofs.YtcadnkanjlmfhaaGreatDoor.Ar
