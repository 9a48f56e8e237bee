/- DERIVED. How variables lie in memory; the walks over find and number. -/
import Derived.Test.YtdegkfnlafgheaaDoorArGives
import Derived.Test.YtdegkfnlafgheaaDoorNumWalks2
import Derived.Deep.LoopGhost
namespace Go.Proofs.YtdegkfnlafgheaaDoor.Ar
open Go.RowKit
open PathM WdM ArM
open Go.Proofs.YtdegkfnlafgheaaDoor.Wd
set_option linter.unusedVariables false

/-- Variables, from wherever. -/
def VaIn (w : World) (v : Value) (vs : Vs) : Prop := ∃ (A : Option Addr) (c : Nat), v = .slice A vs.length c ∧ (vs.length ≤ 1000000 ∧ ∀ x ∈ vs, x.1.length ≤ 4611686018427387904 ∧ x.2.length ≤ 4611686018427387904) ∧ (vs ≠ [] → ∃ b off, A = some ⟨b, off, none⟩ ∧ b < w.heap.size ∧ ∀ i (h : i < vs.length), w.cell? ⟨b, off + i * 2, none⟩ = some (.string (nm vs[i].1)) ∧ w.cell? ⟨b, off + i * 2 + 1, none⟩ = some (.string (nm vs[i].2)))
theorem VaIn.below {w w' : World} {v : Value} {vs : Vs} (h : VaIn w v vs) (hb : Below w.heap.size w w') : VaIn w' v vs := by
  obtain ⟨A, c, hv, hl, h⟩ := h
  refine ⟨A, c, hv, hl, fun hne => ?_⟩
  obtain ⟨b, off, hA, hlt, hc⟩ := h hne
  exact ⟨b, off, hA, Nat.lt_of_lt_of_le hlt hb.size, fun i hi => ⟨(World.cell?_of_block (hb.block b hlt)).trans (hc i hi).1, (World.cell?_of_block (hb.block b hlt)).trans (hc i hi).2⟩⟩
/-- Where the variable of a name is, from the n-th on. -/
def idxV (name : Bs) : Nat → Vs → Int
  | _, [] => -1
  | n, x :: r => if x.1 = name then (n : Int) else idxV name (n + 1) r
theorem nm_inj2 {a b : Bs} (h : nm a = nm b) : a = b := nm_inj h
theorem str_same (a b : Bs) : ((nm a).toList == (nm b).toList) = decide (a = b) := by
  rw [listD, listD, nm_data, nm_data]
  rw [Bool.eq_iff_iff]; simp
set_option maxHeartbeats 800000 in
theorem is_any (x y name : Bs) (cb : Nat) (w : World) (hc : w.cell? ⟨cb, 0, none⟩ = some (.string (nm name))) (hlt : cb < w.heap.size) :
    Calls Tryd.prog 86 #[.agg #[.string (nm x), .string (nm y)], .pointer (some ⟨cb, 0, none⟩)] w fun e w' => e = .returned (.bool (decide (x = name))) ∧ Below w.heap.size w w' := by
  have q := str_same x name
  generalize decide (x = name) = b at *
  generalize nm x = X at *
  generalize nm y = Y at *
  generalize nm name = N at *
  go_enter Tryd.func86, Tryd.ntmps86
  go_wp2
  go_ret
  exact ⟨rfl, (Below.refl _ _).alloc (Nat.le_refl _) _⟩
set_option maxHeartbeats 1600000 in
theorem indexf_any (vs : Vs) (name : Bs) (v : Value) (cb : Nat) (w : World) (h : VaIn w v vs) (hc : w.cell? ⟨cb, 0, none⟩ = some (.string (nm name))) (hlt : cb < w.heap.size) :
    Calls Tryd.prog 85 #[v, .func (.func 86) #[] #[.pointer (some ⟨cb, 0, none⟩)]] w fun e w' => e = .returned (.int .i64 (idxV name 0 vs)) ∧ Below w.heap.size w w' := by
  obtain ⟨A, c, rfl, ⟨hl, _⟩, hcell⟩ := h
  have HCE := Lib.hid hcell
  obtain ⟨r, hr⟩ : ∃ r, idxV name 0 vs = r := ⟨_, rfl⟩
  rw [hr]
  have HR : Hid (idxV name 0 (vs.drop 0) = r) := Lib.hid (by rw [List.drop_zero]; exact hr)
  obtain ⟨n, hn⟩ : ∃ n, vs.length = n := ⟨_, rfl⟩
  have HN := Lib.hid hn
  rw [hn] at hl ⊢
  clear hcell hr hn
  go_enter Tryd.func85, Tryd.ntmps85
  go_wp2_with fail
  go_loopg [8] n (fun g x wr => ∃ i : Nat, g = n - i ∧ x = .int .i64 i ∧ i ≤ n ∧ Below w.heap.size w wr ∧ Hid (idxV name i (vs.drop i) = r))
  case atStart => exact ⟨0, by omega, rfl, by omega, Below.refl _ _, HR⟩
  case round =>
    obtain ⟨i, rfl, rfl, hi, hbe, HI⟩ := hrel
    have HBE := Lib.hid hbe
    have hwr := hbe.size
    by_cases hil : i < n
    · have hil2 : i < vs.length := by have := HN.out; omega
      obtain ⟨b, off, hA, hb, hcs⟩ := HCE.out (fun e => by rw [e] at hil2; cases hil2)
      subst hA
      obtain ⟨a0, a1⟩ := hcs i hil2
      have hd : vs.drop i = vs[i] :: vs.drop (i + 1) := List.drop_eq_getElem_cons hil2
      have hI := HI.out
      rw [hd, idxV] at hI
      generalize vs[i] = x at *
      obtain ⟨x1, x2⟩ := x
      replace hI : (if x1 = name then (i : Int) else idxV name (i + 1) (vs.drop (i + 1))) = r := hI
      replace a0 := (World.cell?_of_block (hbe.block b hb)).trans a0
      replace a1 := (World.cell?_of_block (hbe.block b hb)).trans a1
      have c0 := (World.cell?_of_block (hbe.block cb hlt)).trans hc
      have hz1 : b < wr.heap.size := by omega
      have hz2 : cb < wr.heap.size := by omega
      have HIS := Lib.hid (is_any x1 x2 name cb wr c0 hz2)
      have hII := Lib.hid hI
      clear hcs hd hI hbe HI c0
      generalize hbd : decide (x1 = name) = bb at *
      have HBD := Lib.hid hbd
      clear hbd
      dsimp only at a0 a1
      generalize nm x1 = X1 at *
      generalize nm x2 = X2 at *
      go_wp2_with fail
      refine HIS.out.mono ?_
      rintro e W2 ⟨rfl, hb2⟩
      have HB2 := Lib.hid (HBE.out.trans (hb2.mono HBE.out.size))
      clear hb2
      cases bb with
      | true =>
        have hx : x1 = name := of_decide_eq_true HBD.out
        have hr : (i : Int) = r := by have := hII.out; rwa [if_pos hx] at this
        clear hx
        go_wp2_with fail
        go_ret
        exact ⟨by first | rfl | exact ret_int hr, HB2.out⟩
      | false =>
        have hx : ¬ x1 = name := of_decide_eq_false HBD.out
        have HNX : Hid (idxV name (i + 1) (vs.drop (i + 1)) = r) := Lib.hid (by have := hII.out; rwa [if_neg hx] at this)
        clear hx
        go_wp2_with fail
        go_roundg (n - (i + 1))
        case measure => omega
        case rel => exact ⟨i + 1, rfl, by go_num, by omega, HB2.out, HNX⟩
    · have hr : (-1 : Int) = r := by
        have := HI.out
        rw [List.drop_of_length_le (by have := HN.out; omega), idxV] at this
        exact this
      clear hbe HI
      go_wp2_with fail
      go_ret
      exact ⟨ret_int hr, HBE.out⟩
theorem VaIn.form {w : World} {v : Value} {vs : Vs} (h : VaIn w v vs) : ∃ A c, v = .slice A vs.length c := by obtain ⟨A, c, hv, _⟩ := h; exact ⟨A, c, hv⟩
set_option maxHeartbeats 1600000 in
theorem find_any (vs : Vs) (name : Bs) (v : Value) (vb : Nat) (w : World) (hv : w.cell? ⟨vb, 0, none⟩ = some v) (hlt : vb < w.heap.size) (h : VaIn w v vs) :
    Calls Tryd.prog 79 #[.pointer (some ⟨vb, 0, none⟩), .string (nm name)] w fun e w' => e = .returned (.int .i64 (idxV name 0 vs)) ∧ Below w.heap.size w w' := by
  have hmf : ∀ (fn : Fn) (first cap : Array Value) (w : World), (Instr.makeFunc fn first cap).run Tryd.prog w = .ok (.func fn first cap) w := fun _ _ _ _ => rfl
  have hb : Below w.heap.size w (w.alloc (.cells #[.string (nm name)] 9)) := (Below.refl _ _).alloc (Nat.le_refl _) _
  have hi := indexf_any vs name v w.heap.size (w.alloc (.cells #[.string (nm name)] 9)) (h.below hb) (cell_blk (heap_alloc_new w _) 0) (by simp)
  obtain ⟨A, c, rfl⟩ := h.form
  have HI := Lib.hid hi
  have HB := Lib.hid hb
  generalize idxV name 0 vs = r at *
  generalize nm name = N at *
  clear hi hb h
  go_enter Tryd.func79, Tryd.ntmps79
  go_wp2_with fail
  refine HI.out.mono ?_
  rintro e W ⟨rfl, hb2⟩
  have HB2 := Lib.hid (HB.out.trans (hb2.mono HB.out.size))
  clear hb2
  go_wp2_with fail
  go_ret
  exact ⟨rfl, HB2.out⟩
/-- Where a variable is, and what it has. -/
theorem idx_find (name : Bs) : ∀ (vs : Vs) (n : Nat), (idxV name n vs = -1 ∧ findV vs name = none) ∨ ∃ i, ∃ (h : i < vs.length), idxV name n vs = ((n + i : Nat) : Int) ∧ findV vs name = some vs[i].2 ∧ vs[i].1 = name
  | [], n => .inl ⟨rfl, rfl⟩
  | x :: r, n => by
    by_cases hx : x.1 = name
    · refine .inr ⟨0, by simp, ?_, ?_, hx⟩
      · rw [idxV, if_pos hx]; simp
      · unfold findV; simp [hx]
    · have hf : findV (x :: r) name = findV r name := by unfold findV; simp [hx]
      rw [idxV, if_neg hx, hf]
      rcases idx_find name r (n + 1) with h | ⟨i, hi, h1, h2, h3⟩
      · exact .inl h
      · exact .inr ⟨i + 1, by simpa using hi, by rw [h1]; congr 1; omega, by simpa using h2, by simpa using h3⟩

end Go.Proofs.YtdegkfnlafgheaaDoor.Ar
