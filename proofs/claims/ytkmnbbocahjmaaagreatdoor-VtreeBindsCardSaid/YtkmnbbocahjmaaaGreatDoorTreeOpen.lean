/- DERIVED. A tree as an argument: from its reading to how it lies in memory. -/
import Derived.Test.YtkmnbbocahjmaaaGreatDoorTreeMem
import Derived.Deep.Slices
import Derived.SizedLaws
import Derived.OpenShut
import Derived.ChangeArms
import Derived.WideShapes
namespace Go.Proofs.YtkmnbbocahjmaaaGreatDoor
open Go.RowKit Go.WideShapes Go.ChangeShapes
open PathM TreeM
set_option linter.unusedVariables false
set_option maxRecDepth 100000

section
variable {H : Type} {enc : TypeId × Value → H} {W : World}

theorem weights_all {P : Program} {e : TypeId} : ∀ {l : List (DataW H)} {d : DataW H} {n : Nat}, d ∈ l → n ∈ d.weights P e → n ∈ DataW.weightsAll P e l := by
  intro l
  induction l with
  | nil => intro d n h; simp at h
  | cons a l ih =>
    intro d n hd hn
    rw [DataW.weightsAll, List.mem_append]
    rcases List.mem_cons.1 hd with rfl | hd
    · exact .inl hn
    · exact .inr (ih hd hn)

theorem nm_list (s : ByteArray) : nm s.data.toList = s := by simp [nm]
theorem take1 {l : List Value} {i : Nat} (h : i < l.length) : (l.drop i).take 1 = [l[i]] := by
  rw [List.drop_eq_getElem_cons h]; rfl

theorem two_of {α : Type} {l : List α} (h : l.length = 2) : ∃ a b, l = [a, b] := by
  match l, h with
  | [a, b], _ => exact ⟨a, b, rfl⟩
theorem three_of {α : Type} {l : List α} (h : l.length = 3) : ∃ a b c, l = [a, b, c] := by
  match l, h with
  | [a, b, c], _ => exact ⟨a, b, c, rfl⟩
theorem four_of {α : Type} {l : List α} (h : l.length = 4) : ∃ a b c d, l = [a, b, c, d] := by
  match l, h with
  | [a, b, c, d], _ => exact ⟨a, b, c, d, rfl⟩
theorem seven_of {α : Type} {l : List α} (h : l.length = 7) : ∃ a b c d e f g, l = [a, b, c, d, e, f, g] := by
  match l, h with
  | [a, b, c, d, e, f, g], _ => exact ⟨a, b, c, d, e, f, g, rfl⟩

/-- An entry's two cells. -/
theorem ent_open {fuel : Nat} {cs : List Value} {x : DataW H × List MemPlace} (h : DataW.trod enc Tryz.prog W 0 (fun _ => true) true fuel 75 cs = some x) (hw : ∀ n ∈ x.1.weights Tryz.prog 75, n ≤ reachBytes) :
    ∃ e : Ent, cs = [.string (nm e.key), .int .i64 e.to] ∧ e.key.length ≤ 140737488351232 ∧ -9223372036854775808 ≤ e.to ∧ e.to ≤ 9223372036854775807 := by
  obtain ⟨xs, n, _, rfl, hlen, hxl, hf⟩ := DataW.trod_struct Tryz.underlying75 h
  obtain ⟨ca, cb, rfl⟩ := two_of (hlen.trans (by kernel_rfl))
  obtain ⟨xa, xb, rfl⟩ := two_of hxl
  have z9 : Tryz.prog.cellsOf 9 = 1 := by kernel_rfl
  have z3 : Tryz.prog.cellsOf 3 = 1 := by kernel_rfl
  have h0 : DataW.trod enc Tryz.prog W 0 (fun _ => true) true n 9 (([ca, cb].drop 0).take (Tryz.prog.cellsOf 9)) = some xa := hf 0 _ rfl
  have h1 : DataW.trod enc Tryz.prog W 0 (fun _ => true) true n 3 (([ca, cb].drop 1).take (Tryz.prog.cellsOf 3)) = some xb := hf 1 _ rfl
  rw [z9] at h0
  rw [z3] at h1
  obtain ⟨s, e1, rfl, _⟩ := DataW.trod_string Tryz.underlying9 h0
  obtain ⟨k, e3, rfl, hk⟩ := DataW.trod_int Tryz.underlying3 h1
  obtain rfl : ca = .string s := (List.cons.inj e1).1
  obtain rfl : cb = .int .i64 k := (List.cons.inj e3).1
  have hb := bounds_i64 hk
  refine ⟨⟨s.data.toList, k⟩, by rw [nm_list], ?_, hb.1, hb.2⟩
  have := hw s.data.toList.length (by
    simp only [DataW.weights, Tryz.underlying75, List.map_cons, DataW.weightsEach, List.mem_append, List.mem_cons]
    exact .inl (.inl trivial))
  exact this

theorem ents_open {fuel : Nat} {v : Value} {x : DataW H × List MemPlace} (h : DataW.trod enc Tryz.prog W 0 (fun _ => true) true fuel 62 [v] = some x) (hw : ∀ n ∈ x.1.weights Tryz.prog 62, n ≤ reachBytes) :
    ∃ es, EntsIn W W.heap.size v es := by
  have z59 : Tryz.prog.cellsOf 75 = 2 := by kernel_rfl
  have y59 : Tryz.prog.bytesOf 75 = 24 := by kernel_rfl
  rcases Go.Deep.open_slice Tryz.underlying62 h with ⟨h0, _⟩ | ⟨a, len, cap, m, n, D, Pl, hv, hb, hl, hm, hmm, rfl, hi⟩
  · obtain rfl := (List.cons.inj h0).1
    exact ⟨[], none, 0, rfl, by simp, by simp, by simp, fun h => absurd rfl h⟩
  · obtain rfl := (List.cons.inj hv).1
    have hm2 : m = cap := by simpa using hmm
    simp only [DataW.weights, Tryz.underlying62, y59, List.mem_cons, List.mem_append, List.length_map, List.length_range] at hw
    have hsz := hw _ (.inl rfl)
    have hev : ∀ i, i < len → ∃ e : Ent, W.cell? (a.add (i * 2)) = some (.string (nm e.key)) ∧ W.cell? (a.add (i * 2 + 1)) = some (.int .i64 e.to) ∧ e.key.length ≤ 140737488351232 ∧ -9223372036854775808 ≤ e.to ∧ e.to ≤ 9223372036854775807 := by
      intro i hil
      obtain ⟨cs', hc, ht⟩ := hi i (by omega)
      obtain ⟨e, rfl, hb1, hb2, hb3⟩ := ent_open ht (fun n hn => hw n (.inr (.inl (weights_all (List.mem_map.2 ⟨i, by simpa using hil, rfl⟩) hn))))
      rw [z59] at hc
      obtain ⟨_, _, hat⟩ := World.cells?_some hc
      have g0 := hat 0 (by omega)
      have g1 := hat 1 (by omega)
      rw [Go.Deep.add_add] at g0 g1
      exact ⟨e, g0.trans rfl, g1.trans rfl, hb1, hb2, hb3⟩
    obtain ⟨E, hE⟩ := Go.Deep.choose_lt (p := fun i (e : Ent) => W.cell? (a.add (i * 2)) = some (.string (nm e.key)) ∧ W.cell? (a.add (i * 2 + 1)) = some (.int .i64 e.to) ∧ e.key.length ≤ 140737488351232 ∧ -9223372036854775808 ≤ e.to ∧ e.to ≤ 9223372036854775807) hev
    have hlen : ((List.range len).map E).length = len := by simp
    have hat : ∀ k, k < len → entAt ((List.range len).map E) k = E k := fun k hk => by simp [entAt, hk]
    refine ⟨(List.range len).map E, some a, cap, by rw [hlen], by rw [hlen]; omega, by rw [hlen]; unfold reachBytes at hsz; omega, fun x hx => ?_, fun hne => ?_⟩
    · obtain ⟨i, hi2, rfl⟩ := List.mem_map.1 hx
      exact (hE i (by simpa using hi2)).2.2
    · have hpos : 0 < len := by
        rcases Nat.eq_zero_or_pos len with h0 | h0
        · exact absurd (by simp [h0]) hne
        · exact h0
      have g0 := (hE 0 hpos).1
      have hsp : a.spot = none := by
        have := World.cell?_spot g0
        simpa [Addr.add] using this
      obtain ⟨blk, off, spot⟩ := a
      simp only at hsp
      subst hsp
      have hadd : ∀ j, (⟨blk, off, none⟩ : Addr).add j = ⟨blk, off + j, none⟩ := fun j => by
        cases j with
        | zero => simp [Addr.add]
        | succ j => simp [Addr.add]
      simp only [hadd] at hE
      refine ⟨blk, off, rfl, ?_, fun k hk => ?_⟩
      · have := block_lt_of_cell (hE 0 hpos).1; simpa using this
      · rw [hlen] at hk
        rw [hat k hk]
        exact ⟨(hE k hk).1, (hE k hk).2.1⟩

/-- A node's seven cells. -/
theorem node_open {fuel : Nat} {cs : List Value} {x : DataW H × List MemPlace} (h : DataW.trod enc Tryz.prog W 0 (fun _ => true) true fuel 64 cs = some x) (hw : ∀ n ∈ x.1.weights Tryz.prog 64, n ≤ reachBytes) :
    ∃ (e : Nd) (ev : Value), cs = [.int .i64 e.id, .int .i64 e.kind, .int .i64 e.mode, .int .i64 e.owner, .int .i64 e.time, .string (nm e.data), ev] ∧ e.data.length ≤ 140737488351232 ∧ EntsIn W W.heap.size ev e.es := by
  obtain ⟨xs, n, _, rfl, hlen, hxl, hf⟩ := DataW.trod_struct Tryz.underlying64 h
  obtain ⟨c0, c1, c2, c3, c4, c5, c6, rfl⟩ := seven_of (hlen.trans (by kernel_rfl))
  obtain ⟨x0, x1, x2, x3, x4, x5, x6, rfl⟩ := seven_of hxl
  have z9 : Tryz.prog.cellsOf 9 = 1 := by kernel_rfl
  have z3 : Tryz.prog.cellsOf 3 = 1 := by kernel_rfl
  have z35 : Tryz.prog.cellsOf 62 = 1 := by kernel_rfl
  have h0 : DataW.trod enc Tryz.prog W 0 (fun _ => true) true n 3 (([c0, c1, c2, c3, c4, c5, c6].drop 0).take (Tryz.prog.cellsOf 3)) = some x0 := hf 0 _ rfl
  have h1 : DataW.trod enc Tryz.prog W 0 (fun _ => true) true n 3 (([c0, c1, c2, c3, c4, c5, c6].drop 1).take (Tryz.prog.cellsOf 3)) = some x1 := hf 1 _ rfl
  have h2 : DataW.trod enc Tryz.prog W 0 (fun _ => true) true n 3 (([c0, c1, c2, c3, c4, c5, c6].drop 2).take (Tryz.prog.cellsOf 3)) = some x2 := hf 2 _ rfl
  have h3 : DataW.trod enc Tryz.prog W 0 (fun _ => true) true n 3 (([c0, c1, c2, c3, c4, c5, c6].drop 3).take (Tryz.prog.cellsOf 3)) = some x3 := hf 3 _ rfl
  have h4 : DataW.trod enc Tryz.prog W 0 (fun _ => true) true n 3 (([c0, c1, c2, c3, c4, c5, c6].drop 4).take (Tryz.prog.cellsOf 3)) = some x4 := hf 4 _ rfl
  have h5 : DataW.trod enc Tryz.prog W 0 (fun _ => true) true n 9 (([c0, c1, c2, c3, c4, c5, c6].drop 5).take (Tryz.prog.cellsOf 9)) = some x5 := hf 5 _ rfl
  have h6 : DataW.trod enc Tryz.prog W 0 (fun _ => true) true n 62 (([c0, c1, c2, c3, c4, c5, c6].drop 6).take (Tryz.prog.cellsOf 62)) = some x6 := hf 6 _ rfl
  rw [z3] at h0 h1 h2 h3 h4
  rw [z9] at h5
  rw [z35] at h6
  obtain ⟨k0, e0, rfl, _⟩ := DataW.trod_int Tryz.underlying3 h0
  obtain ⟨k1, e1, rfl, _⟩ := DataW.trod_int Tryz.underlying3 h1
  obtain ⟨k2, e2, rfl, _⟩ := DataW.trod_int Tryz.underlying3 h2
  obtain ⟨k3, e3, rfl, _⟩ := DataW.trod_int Tryz.underlying3 h3
  obtain ⟨k4, e4, rfl, _⟩ := DataW.trod_int Tryz.underlying3 h4
  obtain ⟨s, e5, rfl, _⟩ := DataW.trod_string Tryz.underlying9 h5
  obtain rfl : c0 = .int .i64 k0 := (List.cons.inj e0).1
  obtain rfl : c1 = .int .i64 k1 := (List.cons.inj e1).1
  obtain rfl : c2 = .int .i64 k2 := (List.cons.inj e2).1
  obtain rfl : c3 = .int .i64 k3 := (List.cons.inj e3).1
  obtain rfl : c4 = .int .i64 k4 := (List.cons.inj e4).1
  obtain rfl : c5 = .string s := (List.cons.inj e5).1
  simp only [DataW.weights, Tryz.underlying64, List.map_cons, List.map_nil, DataW.weightsEach, List.mem_append, List.mem_cons, List.not_mem_nil, false_or, or_false] at hw
  obtain ⟨es, hE⟩ := ents_open (v := c6) h6 (fun n hn => hw n (.inr hn))
  exact ⟨⟨k0, k1, k2, k3, k4, s.data.toList, es⟩, c6, by rw [nm_list], hw _ (.inl rfl), hE⟩

theorem nodes_open {fuel : Nat} {v : Value} {x : DataW H × List MemPlace} (h : DataW.trod enc Tryz.prog W 0 (fun _ => true) true fuel 22 [v] = some x) (hw : ∀ n ∈ x.1.weights Tryz.prog 22, n ≤ reachBytes) :
    ∃ l, NodesIn W W.heap.size v l := by
  have z37 : Tryz.prog.cellsOf 64 = 7 := by kernel_rfl
  have y37 : Tryz.prog.bytesOf 64 = 80 := by kernel_rfl
  rcases Go.Deep.open_slice Tryz.underlying22 h with ⟨h0, _⟩ | ⟨a, len, cap, m, n, D, Pl, hv, hb, hl, hm, hmm, rfl, hi⟩
  · obtain rfl := (List.cons.inj h0).1
    exact ⟨[], none, 0, rfl, by simp, by simp, fun h => absurd rfl h⟩
  · obtain rfl := (List.cons.inj hv).1
    have hm2 : m = cap := by simpa using hmm
    simp only [DataW.weights, Tryz.underlying22, y37, List.mem_cons, List.mem_append, List.length_map, List.length_range] at hw
    have hsz := hw _ (.inl rfl)
    have hev : ∀ i, i < len → ∃ e : Nd, ∃ ev : Value, (W.cell? (a.add (i * 7)) = some (.int .i64 e.id) ∧ W.cell? (a.add (i * 7 + 1)) = some (.int .i64 e.kind) ∧ W.cell? (a.add (i * 7 + 2)) = some (.int .i64 e.mode) ∧ W.cell? (a.add (i * 7 + 3)) = some (.int .i64 e.owner) ∧
        W.cell? (a.add (i * 7 + 4)) = some (.int .i64 e.time) ∧ W.cell? (a.add (i * 7 + 5)) = some (.string (nm e.data)) ∧ W.cell? (a.add (i * 7 + 6)) = some ev) ∧ e.data.length ≤ 140737488351232 ∧ EntsIn W W.heap.size ev e.es := by
      intro i hil
      obtain ⟨cs', hc, ht⟩ := hi i (by omega)
      obtain ⟨e, ev, rfl, hb1, hb2⟩ := node_open ht (fun n hn => hw n (.inr (.inl (weights_all (List.mem_map.2 ⟨i, by simpa using hil, rfl⟩) hn))))
      rw [z37] at hc
      obtain ⟨_, _, hat⟩ := World.cells?_some hc
      have g0 := hat 0 (by omega)
      have g1 := hat 1 (by omega)
      have g2 := hat 2 (by omega)
      have g3 := hat 3 (by omega)
      have g4 := hat 4 (by omega)
      have g5 := hat 5 (by omega)
      have g6 := hat 6 (by omega)
      rw [Go.Deep.add_add] at g0 g1 g2 g3 g4 g5 g6
      exact ⟨e, ev, ⟨g0.trans rfl, g1.trans rfl, g2.trans rfl, g3.trans rfl, g4.trans rfl, g5.trans rfl, g6.trans rfl⟩, hb1, hb2⟩
    obtain ⟨E, hE⟩ := Go.Deep.choose_lt hev
    have hlen : ((List.range len).map E).length = len := by simp
    have hat : ∀ k, k < len → ndAt ((List.range len).map E) k = E k := fun k hk => by simp [ndAt, hk]
    refine ⟨(List.range len).map E, some a, cap, by rw [hlen], by rw [hlen]; omega, by rw [hlen]; unfold reachBytes at hsz; omega, fun hne => ?_⟩
    have hpos : 0 < len := by
      rcases Nat.eq_zero_or_pos len with h0 | h0
      · exact absurd (by simp [h0]) hne
      · exact h0
    have g0 := (hE 0 hpos)
    have hsp : a.spot = none := by
      obtain ⟨ev, ⟨g, _⟩, _⟩ := g0
      have := World.cell?_spot g
      simpa [Addr.add] using this
    obtain ⟨blk, off, spot⟩ := a
    simp only at hsp
    subst hsp
    have hadd : ∀ j, (⟨blk, off, none⟩ : Addr).add j = ⟨blk, off + j, none⟩ := fun j => by
      cases j with
      | zero => simp [Addr.add]
      | succ j => simp [Addr.add]
    simp only [hadd] at hE
    refine ⟨blk, off, rfl, ?_, fun k hk => ?_⟩
    · obtain ⟨ev, ⟨g, _⟩, _⟩ := hE 0 hpos
      have := block_lt_of_cell g; simpa using this
    · rw [hlen] at hk
      rw [hat k hk]
      obtain ⟨ev, ⟨g0, g1, g2, g3, g4, g5, g6⟩, hd, hes⟩ := hE k hk
      exact ⟨g0, g1, g2, g3, g4, g5, hd, ev, g6, hes⟩

/-- A tree that is an argument. -/
theorem tree_open {b0 : Nat} {v : Value} {d : DataW H} {p : List MemPlace} (hv : Value.okWide Tryz.prog W .any b0 26 v) (h : DataW.Trod enc Tryz.prog W 0 (fun _ => true) true 26 v d p) (hw : ∀ n ∈ d.weights Tryz.prog 26, n ≤ reachBytes) :
    ∃ (nv : Value) (t : Tr), v = trV nv t ∧ NodesIn W W.heap.size nv t.nodes := by
  obtain ⟨cs, rfl, hsz⟩ := okWide_struct Tryz.underlying26 hv
  obtain ⟨l⟩ := cs
  have z26 : Tryz.prog.cellsOf 26 = 4 := by kernel_rfl
  rw [z26] at hsz
  have hsz : l.length = 4 := by simpa using hsz
  obtain ⟨c0, c1, c2, c3, rfl⟩ := four_of hsz
  obtain ⟨fuel, hf⟩ := h
  obtain ⟨xs, n, _, hx, hlen, hxl, hf⟩ := DataW.trod_struct Tryz.underlying26 hf
  obtain ⟨x0, x1, x2, rfl⟩ := three_of hxl
  have z3 : Tryz.prog.cellsOf 3 = 1 := by kernel_rfl
  have z22 : Tryz.prog.cellsOf 22 = 1 := by kernel_rfl
  have z24 : Tryz.prog.cellsOf 24 = 2 := by kernel_rfl
  have h0 : DataW.trod enc Tryz.prog W 0 (fun _ => true) true n 22 (([c0, c1, c2, c3].drop 0).take (Tryz.prog.cellsOf 22)) = some x0 := hf 0 _ rfl
  have h1 : DataW.trod enc Tryz.prog W 0 (fun _ => true) true n 3 (([c0, c1, c2, c3].drop 1).take (Tryz.prog.cellsOf 3)) = some x1 := hf 1 _ rfl
  have h2 : DataW.trod enc Tryz.prog W 0 (fun _ => true) true n 24 (([c0, c1, c2, c3].drop 2).take (Tryz.prog.cellsOf 24)) = some x2 := hf 2 _ rfl
  rw [z22] at h0
  rw [z3] at h1
  rw [z24] at h2
  obtain ⟨k1, e1, _, _⟩ := DataW.trod_int Tryz.underlying3 h1
  obtain rfl : c1 = .int .i64 k1 := (List.cons.inj e1).1
  obtain ⟨ys, n', _, _, _, hyl, hg⟩ := DataW.trod_struct Tryz.underlying24 h2
  obtain ⟨y0, y1, rfl⟩ := two_of hyl
  have i0 : DataW.trod enc Tryz.prog W 0 (fun _ => true) true n' 3 (([c2, c3].drop 0).take (Tryz.prog.cellsOf 3)) = some y0 := hg 0 _ rfl
  have i1 : DataW.trod enc Tryz.prog W 0 (fun _ => true) true n' 3 (([c2, c3].drop 1).take (Tryz.prog.cellsOf 3)) = some y1 := hg 1 _ rfl
  rw [z3] at i0 i1
  obtain ⟨k2, e2, _, _⟩ := DataW.trod_int Tryz.underlying3 i0
  obtain ⟨k3, e3, _, _⟩ := DataW.trod_int Tryz.underlying3 i1
  obtain rfl : c2 = .int .i64 k2 := (List.cons.inj e2).1
  obtain rfl : c3 = .int .i64 k3 := (List.cons.inj e3).1
  have hd : d = .agg ([x0, x1, x2].map (·.1)) := congrArg Prod.fst hx
  subst hd
  simp only [DataW.weights, Tryz.underlying26, List.map_cons, List.map_nil, DataW.weightsEach, List.mem_append] at hw
  obtain ⟨l, hN⟩ := nodes_open (v := c0) h0 (fun n hn => hw n (.inl hn))
  exact ⟨c0, ⟨l, k1, k2, k3⟩, rfl, hN⟩
/-- A room that is an argument. -/
theorem room_open {b0 : Nat} {v : Value} {d : DataW H} {p : List MemPlace} (hv : Value.okWide Tryz.prog W .any b0 24 v) (h : DataW.Trod enc Tryz.prog W 0 (fun _ => true) true 24 v d p) :
    ∃ rn rb : Int, v = .agg #[.int .i64 rn, .int .i64 rb] := by
  obtain ⟨cs, rfl, hsz⟩ := okWide_struct Tryz.underlying24 hv
  obtain ⟨l⟩ := cs
  have z24 : Tryz.prog.cellsOf 24 = 2 := by kernel_rfl
  rw [z24] at hsz
  have hsz : l.length = 2 := by simpa using hsz
  obtain ⟨c2, c3, rfl⟩ := two_of hsz
  obtain ⟨fuel, hf⟩ := h
  obtain ⟨ys, n', _, _, _, hyl, hg⟩ := DataW.trod_struct Tryz.underlying24 hf
  obtain ⟨y0, y1, rfl⟩ := two_of hyl
  have z3 : Tryz.prog.cellsOf 3 = 1 := by kernel_rfl
  have i0 : DataW.trod enc Tryz.prog W 0 (fun _ => true) true n' 3 (([c2, c3].drop 0).take (Tryz.prog.cellsOf 3)) = some y0 := hg 0 _ rfl
  have i1 : DataW.trod enc Tryz.prog W 0 (fun _ => true) true n' 3 (([c2, c3].drop 1).take (Tryz.prog.cellsOf 3)) = some y1 := hg 1 _ rfl
  rw [z3] at i0 i1
  obtain ⟨k2, e2, _, _⟩ := DataW.trod_int Tryz.underlying3 i0
  obtain ⟨k3, e3, _, _⟩ := DataW.trod_int Tryz.underlying3 i1
  obtain rfl : c2 = .int .i64 k2 := (List.cons.inj e2).1
  obtain rfl : c3 = .int .i64 k3 := (List.cons.inj e3).1
  exact ⟨k2, k3, rfl⟩
/-- Entries that are an argument. -/
theorem entries_open {v : Value} {d : DataW H} {p : List MemPlace} {b0 : Nat} (hv : Value.okWide Tryz.prog W .any b0 62 v) (h : DataW.Trod enc Tryz.prog W 0 (fun _ => true) true 62 v d p) (hw : ∀ n ∈ d.weights Tryz.prog 62, n ≤ reachBytes) (hc : v.cells.toList = [v]) :
    ∃ es, EntsIn W W.heap.size v es := by
  obtain ⟨fuel, hf⟩ := h
  rw [hc] at hf
  exact ents_open hf hw
theorem entries_arg {v : Value} {d : DataW H} {p : List MemPlace} {b0 : Nat} (hv : Value.okWide Tryz.prog W .any b0 62 v) (h : DataW.Trod enc Tryz.prog W 0 (fun _ => true) true 62 v d p) (hw : ∀ n ∈ d.weights Tryz.prog 62, n ≤ reachBytes) :
    ∃ es, EntsIn W W.heap.size v es := by
  obtain ⟨a, len, cap, rfl⟩ := okWide_slice Tryz.underlying62 hv
  exact entries_open hv h hw rfl

end
end Go.Proofs.YtkmnbbocahjmaaaGreatDoor
