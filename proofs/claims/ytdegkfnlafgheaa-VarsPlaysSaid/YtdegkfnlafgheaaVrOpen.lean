/- DERIVED. Texts and calls as arguments: from their reading to how they lie in memory. -/
import Derived.Test.YtdegkfnlafgheaaVrMem
import Derived.Deep.Slices
import Derived.SizedLaws
import Derived.OpenShut
import Derived.ChangeArms
import Derived.WideShapes
namespace Go.Proofs.Ytdegkfnlafgheaa.Vr
open Go.RowKit Go.WideShapes Go.ChangeShapes
open PathM WdM
open Go.Proofs.Ytdegkfnlafgheaa.Wd
set_option linter.unusedVariables false
set_option maxRecDepth 100000

section
variable {H : Type} {enc : TypeId × Value → H} {W : World}
theorem weights_all {P : Program} {e : TypeId} : ∀ {l : List (DataW H)} {d : DataW H} {n : Nat}, d ∈ l → n ∈ d.weights P e → n ∈ DataW.weightsAll P e l := by
  intro l
  induction l with
  | nil => intro d n h; simp at h
  | cons a l ih =>
    intro d n hd hn
    rw [DataW.weightsAll, List.mem_append]
    rcases List.mem_cons.1 hd with rfl | hd
    · exact .inl hn
    · exact .inr (ih hd hn)
/-- Texts as they come in. -/
def ArX (w : World) (v : Value) (ps : List Bs) : Prop := ArIn w v ps ∧ ps.length ≤ 140737488351232 ∧ ∀ x ∈ ps, x.length ≤ 140737488351232
theorem one_open {fuel : Nat} {cs : List Value} {x : DataW H × List MemPlace} (h : DataW.trod enc Try.prog W 0 (fun _ => true) true fuel 9 cs = some x) (hw : ∀ n ∈ x.1.weights Try.prog 9, n ≤ reachBytes) :
    ∃ e : Bs, cs = [.string (nm e)] ∧ e.length ≤ 140737488351232 := by
  obtain ⟨s, e1, rfl, _⟩ := DataW.trod_string Try.underlying9 h
  simp only [DataW.weights, List.mem_cons, List.not_mem_nil, or_false] at hw
  exact ⟨s.data.toList, by rw [nm_of]; exact e1, hw _ rfl⟩
theorem strs_open {fuel : Nat} {v : Value} {x : DataW H × List MemPlace} (h : DataW.trod enc Try.prog W 0 (fun _ => true) true fuel 23 [v] = some x) (hw : ∀ n ∈ x.1.weights Try.prog 23, n ≤ reachBytes) :
    ∃ ps, ArX W v ps := by
  have z59 : Try.prog.cellsOf 9 = 1 := by kernel_rfl
  have y59 : Try.prog.bytesOf 9 = 16 := by kernel_rfl
  rcases Go.Deep.open_slice Try.underlying23 h with ⟨h0, _⟩ | ⟨a, len, cap, m, n, D, Pl, hv, hb, hl, hm, hmm, rfl, hi⟩
  · obtain rfl := (List.cons.inj h0).1
    exact ⟨[], ArIn.nil _ _ _, by simp, by simp⟩
  · obtain rfl := (List.cons.inj hv).1
    have hm2 : m = cap := by simpa using hmm
    simp only [DataW.weights, Try.underlying23, y59, List.mem_cons, List.mem_append, List.length_map, List.length_range] at hw
    have hsz := hw _ (.inl rfl)
    have hev : ∀ i, i < len → ∃ e : Bs, W.cell? (a.add i) = some (.string (nm e)) ∧ e.length ≤ 140737488351232 := by
      intro i hil
      obtain ⟨cs', hc, ht⟩ := hi i (by omega)
      obtain ⟨e, rfl, hb1⟩ := one_open ht (fun n hn => hw n (.inr (.inl (weights_all (List.mem_map.2 ⟨i, by simpa using hil, rfl⟩) hn))))
      rw [z59] at hc
      obtain ⟨_, _, hat⟩ := World.cells?_some hc
      have g0 := hat 0 (by omega)
      rw [Go.Deep.add_add, Nat.mul_one, Nat.add_zero] at g0
      exact ⟨e, g0.trans rfl, hb1⟩
    obtain ⟨E, hE⟩ := Go.Deep.choose_lt (p := fun i (e : Bs) => W.cell? (a.add i) = some (.string (nm e)) ∧ e.length ≤ 140737488351232) hev
    have hlen : ((List.range len).map E).length = len := by simp
    refine ⟨(List.range len).map E, ⟨some a, cap, by rw [hlen], by rw [hlen]; omega, fun hne => ?_⟩, by rw [hlen]; unfold reachBytes at hsz; omega, fun x hx => ?_⟩
    · have hpos : 0 < len := by
        rcases Nat.eq_zero_or_pos len with h0 | h0
        · exact absurd (by simp [h0]) hne
        · exact h0
      have g0 := (hE 0 hpos).1
      have hsp : a.spot = none := by
        have := World.cell?_spot g0
        simpa [Addr.add] using this
      obtain ⟨blk, off, spot⟩ := a
      simp only at hsp
      subst hsp
      have hadd : ∀ j, (⟨blk, off, none⟩ : Addr).add j = ⟨blk, off + j, none⟩ := fun j => by
        cases j with
        | zero => simp [Addr.add]
        | succ j => simp [Addr.add]
      simp only [hadd] at hE
      have hblk : blk < W.heap.size := by
        have h1 := (hE 0 hpos).1
        unfold World.cell? at h1
        cases hq : W.heap[blk]? with
        | none => simp [hq] at h1
        | some o => exact fin_at hq
      refine ⟨blk, off, rfl, hblk, fun i hil => ?_⟩
      have h2 := hE i (by rw [hlen] at hil; exact hil)
      rw [List.getElem_map, List.getElem_range]
      exact h2.1
    · obtain ⟨i, hi2, rfl⟩ := List.mem_map.1 hx
      exact (hE i (by simpa using hi2)).2
theorem strs_arg {v : Value} {d : DataW H} {p : List MemPlace} {b0 : Nat} (hv : Value.okWide Try.prog W .any b0 23 v) (h : DataW.Trod enc Try.prog W 0 (fun _ => true) true 23 v d p) (hw : ∀ n ∈ d.weights Try.prog 23, n ≤ reachBytes) : ∃ ps, ArX W v ps := by
  obtain ⟨a, len, cap, rfl⟩ := okWide_slice Try.underlying23 hv
  obtain ⟨fuel, hf⟩ := h
  exact strs_open hf hw
theorem five_of {α : Type} {l : List α} (h : l.length = 5) : ∃ a b c d e, l = [a, b, c, d, e] := by
  match l, h with
  | [a, b, c, d, e], _ => exact ⟨a, b, c, d, e, rfl⟩
/-- A call, as it is told. -/
structure ActB where
  kind : Int
  name : Bs
  val : Bs
  args : List Bs
  n : Int
def actV (a : ActB) (av : Value) : List Value := [.int .i64 a.kind, .string (nm a.name), .string (nm a.val), av, .int .i64 a.n]
/-- A call that comes in. -/
def ActOk (w : World) (a : ActB) (av : Value) : Prop := ArX w av a.args ∧ a.name.length ≤ 140737488351232 ∧ a.val.length ≤ 140737488351232 ∧ (-9223372036854775808 ≤ a.kind ∧ a.kind ≤ 9223372036854775807) ∧ (-9223372036854775808 ≤ a.n ∧ a.n ≤ 9223372036854775807)
theorem act_cells {fuel : Nat} {cs : List Value} {x : DataW H × List MemPlace} (h : DataW.trod enc Try.prog W 0 (fun _ => true) true fuel 30 cs = some x) (hw : ∀ n ∈ x.1.weights Try.prog 30, n ≤ reachBytes) :
    ∃ (a : ActB) (av : Value), cs = actV a av ∧ ActOk W a av := by
  obtain ⟨xs, n, _, rfl, hlen, hxl, hg⟩ := DataW.trod_struct Try.underlying30 h
  obtain ⟨c0, c1, c2, c3, c4, rfl⟩ := five_of (hlen.trans (by kernel_rfl))
  obtain ⟨y0, y1, y2, y3, y4, rfl⟩ := five_of hxl
  have z3 : Try.prog.cellsOf 3 = 1 := by kernel_rfl
  have z9 : Try.prog.cellsOf 9 = 1 := by kernel_rfl
  have z23 : Try.prog.cellsOf 23 = 1 := by kernel_rfl
  have i0 : DataW.trod enc Try.prog W 0 (fun _ => true) true n 3 (([c0, c1, c2, c3, c4].drop 0).take (Try.prog.cellsOf 3)) = some y0 := hg 0 _ rfl
  have i1 : DataW.trod enc Try.prog W 0 (fun _ => true) true n 9 (([c0, c1, c2, c3, c4].drop 1).take (Try.prog.cellsOf 9)) = some y1 := hg 1 _ rfl
  have i2 : DataW.trod enc Try.prog W 0 (fun _ => true) true n 9 (([c0, c1, c2, c3, c4].drop 2).take (Try.prog.cellsOf 9)) = some y2 := hg 2 _ rfl
  have i3 : DataW.trod enc Try.prog W 0 (fun _ => true) true n 23 (([c0, c1, c2, c3, c4].drop 3).take (Try.prog.cellsOf 23)) = some y3 := hg 3 _ rfl
  have i4 : DataW.trod enc Try.prog W 0 (fun _ => true) true n 3 (([c0, c1, c2, c3, c4].drop 4).take (Try.prog.cellsOf 3)) = some y4 := hg 4 _ rfl
  rw [z3] at i0 i4
  rw [z9] at i1 i2
  rw [z23] at i3
  obtain ⟨k0, e0, _, b0⟩ := DataW.trod_int Try.underlying3 i0
  obtain ⟨k4, e4, _, b4⟩ := DataW.trod_int Try.underlying3 i4
  simp only [DataW.weights, Try.underlying30, List.map_cons, List.map_nil, DataW.weightsEach, List.mem_append] at hw
  obtain ⟨s1, e1, l1⟩ := one_open i1 (fun n hn => hw n (.inr (.inl hn)))
  obtain ⟨s2, e2, l2⟩ := one_open i2 (fun n hn => hw n (.inr (.inr (.inl hn))))
  obtain ⟨ps, hps⟩ := strs_open (v := c3) i3 (fun n hn => hw n (.inr (.inr (.inr (.inl hn)))))
  obtain rfl : c0 = .int .i64 k0 := (List.cons.inj e0).1
  obtain rfl : c4 = .int .i64 k4 := (List.cons.inj e4).1
  obtain rfl : c1 = .string (nm s1) := (List.cons.inj e1).1
  obtain rfl : c2 = .string (nm s2) := (List.cons.inj e2).1
  exact ⟨⟨k0, s1, s2, ps, k4⟩, c3, rfl, hps, l1, l2, bounds_i64 b0, bounds_i64 b4⟩
theorem act_arg {v : Value} {d : DataW H} {p : List MemPlace} {b0 : Nat} (hv : Value.okWide Try.prog W .any b0 30 v) (h : DataW.Trod enc Try.prog W 0 (fun _ => true) true 30 v d p) (hw : ∀ n ∈ d.weights Try.prog 30, n ≤ reachBytes) :
    ∃ (a : ActB) (av : Value), v = .agg (actV a av).toArray ∧ ActOk W a av := by
  obtain ⟨cs, rfl, hsz⟩ := okWide_struct Try.underlying30 hv
  obtain ⟨fuel, hf⟩ := h
  obtain ⟨a, av, e, hok⟩ := act_cells (cs := cs.toList) hf hw
  refine ⟨a, av, ?_, hok⟩
  rw [← e]
end
end Go.Proofs.Ytdegkfnlafgheaa.Vr
