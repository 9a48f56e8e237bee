/- DERIVED. The walk over number: what a name stands for. -/
import Derived.Test.YtdegkfnlafgheaaDoorArVals
namespace Go.Proofs.YtdegkfnlafgheaaDoor.Ar
open Go.RowKit
open PathM WdM ArM
open Go.Proofs.YtdegkfnlafgheaaDoor.Wd
open Go.Proofs.YtdegkfnlafgheaaDoor.NumM
set_option linter.unusedVariables false

theorem emp_no {b : ByteArray} (h : b.data.toList ≠ []) : b.toList.isEmpty = false ∧ ¬ b.toList = [] := by
  rw [listD]
  exact ⟨List.isEmpty_eq_false_iff.2 h, h⟩
theorem emp_yes {b : ByteArray} (h : b.data.toList = []) : b.toList = [] := by rw [listD]; exact h
theorem read_zero (b m : Nat) (l : List UInt8) (h : readE b m l ≠ 0) : readN b m l = 0 := by
  unfold readE at h
  unfold readN
  split
  · rfl
  · rename_i h1
    rw [if_neg h1] at h
    split
    · rfl
    · rename_i h2
      rw [if_neg h2] at h
      exact absurd rfl h
theorem con_zero (l : List UInt8) (h : conE l ≠ 0) : conN l = 0 := by
  unfold conE at h
  unfold conN
  split
  · rename_i h1
    rw [if_pos h1] at h
    split
    · rename_i h2
      rw [if_pos h2] at h
      exact read_zero _ _ _ h
    · rename_i h2
      rw [if_neg h2] at h
      exact read_zero _ _ _ h
  · rename_i h1
    rw [if_neg h1] at h
    exact read_zero _ _ _ h
set_option maxHeartbeats 3200000 in
theorem number_any (vs : Vs) (name : Bs) (v : Value) (vb : Nat) (w : World) (hv : w.cell? ⟨vb, 0, none⟩ = some v) (hlt : vb < w.heap.size) (h : VaIn w v vs) :
    Calls Tryd.prog 81 #[.pointer (some ⟨vb, 0, none⟩), .string (nm name)] w fun e w' => e = .returned (pairE (numberL vs name)) ∧ Below w.heap.size w w' := by
  have hf := find_any vs name v vb w hv hlt h
  obtain ⟨A, c, rfl, ⟨hl, hsz⟩, hcell⟩ := h
  rcases idx_find name vs 0 with ⟨h1, h2⟩ | ⟨i, hi, h1, h2, h3⟩
  · rw [h1] at hf
    have hr : numberL vs name = .ok 0 := by unfold numberL; rw [h2]
    rw [hr]
    have HF := Lib.hid hf
    generalize nm name = N at *
    clear hf hr h1 h2 hcell hsz
    go_enter Tryd.func81, Tryd.ntmps81
    go_wp2_with (go_at_call 79; refine HF.out.mono ?_; rintro e W ⟨rfl, hb⟩; have HB := Lib.hid hb; clear hb)
    go_ret2
    exact ⟨rfl, HB.out⟩
  · rw [h1] at hf
    simp only [Nat.zero_add] at hf
    obtain ⟨b, off, hA, hb, hcs⟩ := hcell (fun e => by rw [e] at hi; cases hi)
    subst hA
    have a1 := (hcs i hi).2
    have hs2 := (hsz _ (List.getElem_mem hi)).2
    have hil : (i : Int) < (vs.length : Int) := by omega
    generalize vs[i].2 = val at a1 hs2 h2
    generalize vs[i].1 = nam at a1
    have HF := Lib.hid hf
    by_cases hv0 : val = []
    · have hr : numberL vs name = .ok 0 := by unfold numberL; rw [h2]; simp only; rw [if_pos hv0]
      rw [hr]
      have e1 := emp_yes (b := nm val) (by rw [nm_data]; exact hv0)
      generalize nm val = V at *
      generalize nm name = N at *
      clear hf hr h1 h2 h3 hcs hcell hsz hi hv0 hs2
      generalize vs.length = n at *
      go_enter Tryd.func81, Tryd.ntmps81
      go_wp2_with (go_at_call 79; refine HF.out.mono ?_; rintro e W ⟨rfl, hb2⟩; have HB := Lib.hid hb2; replace a1 := (World.cell?_of_block (hb2.block b hb)).trans a1; replace hv := (World.cell?_of_block (hb2.block vb hlt)).trans hv; replace hlt := Nat.lt_of_lt_of_le hlt hb2.size; replace hb := Nat.lt_of_lt_of_le hb hb2.size; clear hb2)
      go_ret2
      exact ⟨rfl, HB.out⟩
    · obtain ⟨e1, e2⟩ := emp_no (b := nm val) (by rw [nm_data]; exact hv0)
      have hm : (nm val).size ≤ maxLen := by rw [nm_size]; unfold maxLen; omega
      have hd := fun W => decimal_any (nm val) W hm
      have hc := fun W => constant_any (nm val) W hm
      rw [nm_data] at hd hc
      by_cases hde : decE val = 0
      · have hr : numberL vs name = .ok (decN val) := by unfold numberL; rw [h2]; simp only; rw [if_neg hv0, if_pos hde]
        rw [hr]
        rw [hde] at hd
        have HD := Lib.hid hd
        generalize decN val = dn at *
        generalize nm val = V at *
        generalize nm name = N at *
        clear hf hr h1 h2 h3 hcs hcell hsz hi hv0 hs2 hd hc hde hm
        generalize vs.length = n at *
        go_enter Tryd.func81, Tryd.ntmps81
        go_wp2_with (first | (go_at_call 79; refine HF.out.mono ?_; rintro e W ⟨rfl, hb2⟩; have HB := Lib.hid hb2; replace a1 := (World.cell?_of_block (hb2.block b hb)).trans a1; replace hv := (World.cell?_of_block (hb2.block vb hlt)).trans hv; replace hlt := Nat.lt_of_lt_of_le hlt hb2.size; replace hb := Nat.lt_of_lt_of_le hb hb2.size; clear hb2) | (go_at_call 84; refine (HD.out _).mono ?_; rintro e W2 ⟨rfl, rfl⟩))
        go_ret2
        exact ⟨rfl, HB.out⟩
      · have hr : pairE (numberL vs name) = .tuple #[.int .i64 (conN val : Int), .int .i64 (conE val : Int)] := by
          unfold numberL
          rw [h2]
          simp only
          rw [if_neg hv0, if_neg hde]
          by_cases hce : conE val = 0
          · rw [if_pos hce, hce]; rfl
          · rw [if_neg hce, con_zero _ hce]; rfl
        rw [hr]
        have hq : ((decE val : Int) != 0) = true := by simpa using by omega
        have HD := Lib.hid hd
        have HC := Lib.hid hc
        generalize decN val = dn at *
        generalize hdz : (decE val : Int) = dz at *
        generalize (conN val : Int) = cn at *
        generalize (conE val : Int) = ce at *
        generalize nm val = V at *
        generalize nm name = N at *
        clear hf hr h1 h2 h3 hcs hcell hsz hi hv0 hs2 hd hc hde hm hdz
        generalize vs.length = n at *
        go_enter Tryd.func81, Tryd.ntmps81
        go_wp2_with (first | (go_at_call 79; refine HF.out.mono ?_; rintro e W ⟨rfl, hb2⟩; have HB := Lib.hid hb2; replace a1 := (World.cell?_of_block (hb2.block b hb)).trans a1; replace hv := (World.cell?_of_block (hb2.block vb hlt)).trans hv; replace hlt := Nat.lt_of_lt_of_le hlt hb2.size; replace hb := Nat.lt_of_lt_of_le hb hb2.size; clear hb2) | (go_at_call 84; refine (HD.out _).mono ?_; rintro e W2 ⟨rfl, rfl⟩) | (go_at_call 30; refine (HC.out _).mono ?_; rintro e W3 ⟨rfl, rfl⟩))
        go_ret2
        exact ⟨rfl, HB.out⟩

end Go.Proofs.YtdegkfnlafgheaaDoor.Ar
