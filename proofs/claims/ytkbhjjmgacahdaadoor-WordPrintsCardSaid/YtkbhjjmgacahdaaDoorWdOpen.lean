/- DERIVED. Parts that are an argument: from their reading to how they lie in memory. -/
import Derived.Test.YtkbhjjmgacahdaaDoorWdRSize
import Derived.Deep.Slices
import Derived.SizedLaws
import Derived.OpenShut
import Derived.ChangeArms
import Derived.WideShapes
namespace Go.Proofs.YtkbhjjmgacahdaaDoor.Wd
open Go.RowKit Go.WideShapes Go.ChangeShapes
open PathM WdM
set_option linter.unusedVariables false
set_option maxRecDepth 100000

section
variable {H : Type} {enc : TypeId × Value → H} {W : World}
theorem weights_all {P : Program} {e : TypeId} : ∀ {l : List (DataW H)} {d : DataW H} {n : Nat}, d ∈ l → n ∈ d.weights P e → n ∈ DataW.weightsAll P e l := by
  intro l
  induction l with
  | nil => intro d n h; simp at h
  | cons a l ih =>
    intro d n hd hn
    rw [DataW.weightsAll, List.mem_append]
    rcases List.mem_cons.1 hd with rfl | hd
    · exact .inl hn
    · exact .inr (ih hd hn)
theorem five_of {α : Type} {l : List α} (h : l.length = 5) : ∃ a b c d e, l = [a, b, c, d, e] := by
  match l, h with
  | [a, b, c, d, e], _ => exact ⟨a, b, c, d, e, rfl⟩
theorem PIn.up {S : Nat → Prop} : ∀ (d : Nat) (v : Value) (l : List PT), PIn d W S v l → PIn (d + 1) W S v l
  | 0, v, l, h => by
    obtain ⟨rfl, A, c, rfl⟩ := h
    exact PIn.nil _ _ _ _ _
  | d + 1, v, l, ⟨A, c, ps, h1, h2, h3, h4⟩ => ⟨A, c, ps, h1, h2, h3, fun hne => by
      obtain ⟨b, off, h5, h6, h7⟩ := h4 hne
      refine ⟨b, off, h5, h6, fun i hi => ?_⟩
      obtain ⟨a0, a1, a2, a3, a4, a5⟩ := h7 i hi
      exact ⟨a0, a1, a2, a3, a4, PIn.up d _ _ a5⟩⟩
theorem PBd.of : ∀ (l : List PT), (∀ p ∈ l, p.text.length ≤ 281474976710656 ∧ p.op.length ≤ 281474976710656 ∧ PBd p.word) → PBd l
  | [], _ => by rw [PBd]; trivial
  | .mk k q t o w :: r, h => by
    rw [PBd]
    have h1 := h (.mk k q t o w) (List.mem_cons_self ..)
    exact ⟨h1.1, h1.2.1, h1.2.2, PBd.of r (fun p hp => h p (List.mem_cons_of_mem _ hp))⟩
/-- A part's five cells. -/
theorem part_open {fuel : Nat} {cs : List Value} {x : DataW H × List MemPlace} (h : DataW.trod enc Tryd.prog W 0 (fun _ => true) true fuel 32 cs = some x) (hw : ∀ n ∈ x.1.weights Tryd.prog 32, n ≤ reachBytes) :
    ∃ (n' : Nat) (k : Int) (q : Bool) (t o : Bs) (wv : Value) (y : DataW H × List MemPlace), fuel = n' + 1 ∧ cs = [.int .i64 k, .bool q, .string (nm t), .string (nm o), wv] ∧ t.length ≤ 140737488351232 ∧ o.length ≤ 140737488351232 ∧
      DataW.trod enc Tryd.prog W 0 (fun _ => true) true n' 22 [wv] = some y ∧ (∀ n ∈ y.1.weights Tryd.prog 22, n ≤ reachBytes) := by
  obtain ⟨xs, n, hn, rfl, hlen, hxl, hf⟩ := DataW.trod_struct Tryd.underlying32 h
  obtain ⟨c0, c1, c2, c3, c4, rfl⟩ := five_of (hlen.trans (by kernel_rfl))
  obtain ⟨x0, x1, x2, x3, x4, rfl⟩ := five_of hxl
  have z9 : Tryd.prog.cellsOf 9 = 1 := by kernel_rfl
  have z3 : Tryd.prog.cellsOf 3 = 1 := by kernel_rfl
  have z4 : Tryd.prog.cellsOf 4 = 1 := by kernel_rfl
  have z22 : Tryd.prog.cellsOf 22 = 1 := by kernel_rfl
  have h0 : DataW.trod enc Tryd.prog W 0 (fun _ => true) true n 3 (([c0, c1, c2, c3, c4].drop 0).take (Tryd.prog.cellsOf 3)) = some x0 := hf 0 _ rfl
  have h1 : DataW.trod enc Tryd.prog W 0 (fun _ => true) true n 4 (([c0, c1, c2, c3, c4].drop 1).take (Tryd.prog.cellsOf 4)) = some x1 := hf 1 _ rfl
  have h2 : DataW.trod enc Tryd.prog W 0 (fun _ => true) true n 9 (([c0, c1, c2, c3, c4].drop 2).take (Tryd.prog.cellsOf 9)) = some x2 := hf 2 _ rfl
  have h3 : DataW.trod enc Tryd.prog W 0 (fun _ => true) true n 9 (([c0, c1, c2, c3, c4].drop 3).take (Tryd.prog.cellsOf 9)) = some x3 := hf 3 _ rfl
  have h4 : DataW.trod enc Tryd.prog W 0 (fun _ => true) true n 22 (([c0, c1, c2, c3, c4].drop 4).take (Tryd.prog.cellsOf 22)) = some x4 := hf 4 _ rfl
  rw [z3] at h0
  rw [z4] at h1
  rw [z9] at h2 h3
  rw [z22] at h4
  obtain ⟨k0, e0, rfl, _⟩ := DataW.trod_int Tryd.underlying3 h0
  obtain ⟨q1, e1, rfl⟩ := DataW.trod_bool Tryd.underlying4 h1
  obtain ⟨s, e2, rfl, _⟩ := DataW.trod_string Tryd.underlying9 h2
  obtain ⟨s3, e3, rfl, _⟩ := DataW.trod_string Tryd.underlying9 h3
  obtain rfl : c0 = .int .i64 k0 := (List.cons.inj e0).1
  obtain rfl : c1 = .bool q1 := (List.cons.inj e1).1
  obtain rfl : c2 = .string s := (List.cons.inj e2).1
  obtain rfl : c3 = .string s3 := (List.cons.inj e3).1
  simp only [DataW.weights, Tryd.underlying32, List.map_cons, List.map_nil, DataW.weightsEach, List.mem_append, List.mem_cons, List.not_mem_nil, false_or, or_false] at hw
  refine ⟨n, k0, q1, s.data.toList, s3.data.toList, c4, x4, hn, by rw [nm_of, nm_of], hw _ (.inl rfl), hw _ (.inr (.inl rfl)), h4, fun m hm => hw m (.inr (.inr hm))⟩
theorem parts_open : ∀ (F fuel : Nat), fuel ≤ F → ∀ (v : Value) (x : DataW H × List MemPlace), DataW.trod enc Tryd.prog W 0 (fun _ => true) true fuel 22 [v] = some x → (∀ n ∈ x.1.weights Tryd.prog 22, n ≤ reachBytes) →
    ∃ l, PIn fuel W (fun _ => True) v l ∧ PBd l := by
  intro F
  induction F with
  | zero =>
    intro fuel hF v x h hw
    obtain rfl : fuel = 0 := by omega
    simp [DataW.trod] at h
  | succ F ih =>
    intro fuel hF v x h hw
    have z32 : Tryd.prog.cellsOf 32 = 5 := by kernel_rfl
    have y32 : Tryd.prog.bytesOf 32 = 72 := by kernel_rfl
    rcases DataW.trod_slice Tryd.underlying22 h with ⟨h0, _⟩ | ⟨a, len, cap, elems, rest, n, hn, hv, rfl, hb, hl, hm, hlen, hel, hsp, hns⟩
    · obtain rfl := (List.cons.inj h0).1
      exact ⟨[], PIn.nil _ _ _ _ _, by rw [PBd]; trivial⟩
    · obtain rfl := (List.cons.inj hv).1
      subst hn
      simp only [DataW.weights, Tryd.underlying22, y32, List.mem_cons, List.mem_append, List.length_map] at hw
      have hsz := hw _ (.inl rfl)
      haveI : Inhabited (PT × Value) := ⟨(zeroPT, .slice none 0 0)⟩
      have hev : ∀ i, i < len → ∃ e : PT × Value, W.cell? (a.add (i * 5)) = some (.int .i64 e.1.kind) ∧ W.cell? (a.add (i * 5 + 1)) = some (.bool e.1.quoted) ∧ W.cell? (a.add (i * 5 + 2)) = some (.string (nm e.1.text)) ∧ W.cell? (a.add (i * 5 + 3)) = some (.string (nm e.1.op)) ∧ W.cell? (a.add (i * 5 + 4)) = some e.2 ∧ PIn n W (fun _ => True) e.2 e.1.word ∧
          (e.1.text.length ≤ 281474976710656 ∧ e.1.op.length ≤ 281474976710656 ∧ PBd e.1.word) := by
        intro i hil
        have hi := hel i hil
        have hie : i < elems.length := by omega
        rw [List.getElem?_eq_getElem hie, z32] at hi
        obtain ⟨cs', hc, ht⟩ := Option.bind_eq_some_iff.1 hi
        obtain ⟨n', k, q, t, o, wv, y, hn', rfl, hb1, hb2, hy, hyw⟩ := part_open ht (fun m hm => hw m (.inr (.inl (weights_all (List.mem_map.2 ⟨elems[i], List.getElem_mem hie, rfl⟩) hm))))
        subst hn'
        obtain ⟨l, hpl, hpb⟩ := ih n' (by omega) wv y hy hyw
        obtain ⟨_, _, hat⟩ := World.cells?_some hc
        have g0 := hat 0 (by omega)
        have g1 := hat 1 (by omega)
        have g2 := hat 2 (by omega)
        have g3 := hat 3 (by omega)
        have g4 := hat 4 (by omega)
        rw [Go.Deep.add_add] at g0 g1 g2 g3 g4
        exact ⟨(.mk k q t o l, wv), g0.trans rfl, g1.trans rfl, g2.trans rfl, g3.trans rfl, g4.trans rfl, PIn.up _ _ _ hpl, (by show t.length ≤ _; omega), (by show o.length ≤ _; omega), hpb⟩
      obtain ⟨E, hE⟩ := Go.Deep.choose_lt hev
      have hlen2 : ((List.range len).map E).length = len := by simp
      have hat : ∀ k, k < len → ptAt ((List.range len).map E) k = E k := fun k hk => by simp [ptAt, hk]
      refine ⟨((List.range len).map E).map Prod.fst, ⟨some a, cap, (List.range len).map E, by rw [List.length_map, hlen2], rfl, by rw [List.length_map, hlen2]; unfold reachBytes at hsz; omega, fun hne => ?_⟩, PBd.of _ (fun p hp => ?_)⟩
      · have hpos : 0 < len := by
          rcases Nat.eq_zero_or_pos len with h0 | h0
          · exact absurd (by simp [h0]) hne
          · exact h0
        have g0 := (hE 0 hpos).1
        have hsp2 : a.spot = none := by
          have := World.cell?_spot g0
          simpa [Addr.add] using this
        obtain ⟨blk, off, spot⟩ := a
        simp only at hsp2
        subst hsp2
        have hadd : ∀ j, (⟨blk, off, none⟩ : Addr).add j = ⟨blk, off + j, none⟩ := fun j => by
          cases j with
          | zero => simp [Addr.add]
          | succ j => simp [Addr.add]
        simp only [hadd] at hE
        refine ⟨blk, off, rfl, trivial, fun k hk => ?_⟩
        rw [hlen2] at hk
        rw [hat k hk]
        obtain ⟨a0, a1, a2, a3, a4, a5, _⟩ := hE k hk
        exact ⟨a0, a1, a2, a3, a4, a5⟩
      · obtain ⟨e, he, rfl⟩ := List.mem_map.1 hp
        obtain ⟨i, hi, rfl⟩ := List.mem_map.1 he
        exact (hE i (by simpa using hi)).2.2.2.2.2.2
theorem parts_arg {v : Value} {d : DataW H} {p : List MemPlace} {b0 : Nat} (hv : Value.okWide Tryd.prog W .any b0 22 v) (h : DataW.Trod enc Tryd.prog W 0 (fun _ => true) true 22 v d p) (hw : ∀ n ∈ d.weights Tryd.prog 22, n ≤ reachBytes) :
    ∃ dp l, PIn dp W (fun _ => True) v l ∧ PBd l := by
  obtain ⟨a, len, cap, rfl⟩ := okWide_slice Tryd.underlying22 hv
  obtain ⟨fuel, hf⟩ := h
  obtain ⟨l, h1, h2⟩ := parts_open fuel fuel (Nat.le_refl _) _ _ hf hw
  exact ⟨fuel, l, h1, h2⟩
end
end Go.Proofs.YtkbhjjmgacahdaaDoor.Wd
