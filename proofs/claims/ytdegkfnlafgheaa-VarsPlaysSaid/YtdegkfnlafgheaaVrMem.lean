/- DERIVED. Parameters and variables in memory; the walks over none, long, copied of texts. -/
import Derived.Test.YtdegkfnlafgheaaNumBase
import Derived.Test.YtdegkfnlafgheaaWdText2
import Derived.Test.YtdegkfnlafgheaaShelf
import Derived.Laws.CopyOwn
import Derived.Laws.OwnMore
import Derived.OwnWalk
import Derived.OneCell
namespace Go.Proofs.Ytdegkfnlafgheaa.Vr
open Go.RowKit
open PathM WdM
open Go.Proofs.Ytdegkfnlafgheaa.Wd
set_option linter.unusedVariables false

theorem row_below {W W' : World} {base : Nat} {e : TypeId} {size : Nat} {v : Value} {k : Nat} {xs : List Value} (h : W.ownsRow base e size v k xs) (hb : Below W.heap.size W W') : W'.ownsRow base e size v k xs := by
  obtain ⟨g1, g2⟩ := h
  refine ⟨g1, g2.imp id ?_⟩
  rintro ⟨g, cap, cur, hv, hg, hh, hr⟩
  exact ⟨g, cap, cur, hv, hg, (hb.block g (Array.getElem?_eq_some_iff.1 hh).1).trans hh, hr⟩
theorem row_cells {W : World} {base : Nat} {e : TypeId} {size g n cap : Nat} {xs : List Value} (h : W.ownsRow base e size (.slice (some ⟨g, 0, none⟩) n cap) n xs) (j : Nat) (u : Value) (hj : xs[j]? = some u) : W.cell? ⟨g, j, none⟩ = some u := by
  rcases h.2 with ⟨h0, _⟩ | ⟨g', cap', cur, hv, _, hh, _, _, _, hx⟩
  · cases h0
  · cases hv
    have hc : cur[j]? = some u := by
      rw [← hx] at hj
      rw [List.getElem?_take] at hj
      split at hj
      · simpa using hj
      · cases hj
    simp [World.cell?, hh, hc]
theorem row_two {W : World} {base : Nat} {e : TypeId} {size : Nat} {v : Value} {k : Nat} {xs : List Value} (h : W.ownsRow base e size v k xs) : (v = .slice none 0 0 ∧ k = 0) ∨ ∃ g cap, v = .slice (some ⟨g, 0, none⟩) k cap ∧ k ≤ cap ∧ g < W.heap.size ∧ base ≤ g := by
  rcases h.2 with h0 | ⟨g, cap, cur, rfl, hg, hh, h1, h2, h3, _⟩
  · exact .inl h0
  · exact .inr ⟨g, cap, rfl, h1, fin_at hh, hg⟩
def strC (x : Bs) : Value := .string (nm x)
/-- Texts, from wherever. -/
def ArIn (w : World) (v : Value) (ps : List Bs) : Prop := ∃ (A : Option Addr) (c : Nat), v = .slice A ps.length c ∧ ps.length ≤ c ∧ (ps ≠ [] → ∃ b off, A = some ⟨b, off, none⟩ ∧ b < w.heap.size ∧ ∀ i (h : i < ps.length), w.cell? ⟨b, off + i, none⟩ = some (.string (nm ps[i])))
theorem ArIn.below {w w' : World} {v : Value} {ps : List Bs} (h : ArIn w v ps) (hb : Below w.heap.size w w') : ArIn w' v ps := by
  obtain ⟨A, c, hv, hl, h⟩ := h
  refine ⟨A, c, hv, hl, fun hne => ?_⟩
  obtain ⟨b, off, hA, hlt, hc⟩ := h hne
  exact ⟨b, off, hA, Nat.lt_of_lt_of_le hlt hb.size, fun i hi => (World.cell?_of_block (hb.block b hlt)).trans (hc i hi)⟩
theorem ArIn.form {w : World} {v : Value} {ps : List Bs} (h : ArIn w v ps) : ∃ A c, v = .slice A ps.length c ∧ ps.length ≤ c := by obtain ⟨A, c, hv, hl, _⟩ := h; exact ⟨A, c, hv, hl⟩
theorem ArIn.nil (w : World) (A : Option Addr) (c : Nat) : ArIn w (.slice A 0 c) [] := ⟨A, c, rfl, Nat.zero_le _, fun h => absurd rfl h⟩
theorem ar_row {W : World} {base : Nat} {v : Value} {ps : List Bs} (h : W.ownsRow base 9 1 v ps.length (ps.map strC)) : ArIn W v ps := by
  rcases row_two h with ⟨rfl, h0⟩ | ⟨g, cap, rfl, h1, h2, _⟩
  · have : ps = [] := List.length_eq_zero_iff.1 h0
    subst this
    exact ArIn.nil _ _ _
  · refine ⟨_, _, rfl, h1, fun _ => ⟨g, 0, rfl, h2, fun i hi => ?_⟩⟩
    rw [Nat.zero_add]
    exact row_cells h _ _ (by simp [strC, hi])
theorem infoS : (Try.prog.info? 9).map (fun i => (i.zero, i.size, i.bytes)) = some (some (.string ByteArray.empty), 1, 16) := by kernel_rfl
theorem make_s (n : Nat) (hn : n ≤ 1000000) : ∀ w, (Instr.makeSlice 23 (.int .i64 (n : Int)) (.int .i64 (n : Int))).run Try.prog w = .ok (.slice (some ⟨w.heap.size, 0, none⟩) n n) (w.alloc (.cells (Array.replicate n (.string ByteArray.empty)) 9)) := by
  intro w
  obtain ⟨i0, hi, hz0, hz1, hz2⟩ := info_parts infoS
  have h := run_make (P := Try.prog) w 23 9 i0 _ Try.underlying23 hi hz0 .i64 .i64 n n (by omega) (Int.le_refl _) (by rw [hz2]; omega) (by omega)
  rw [h, hz1]
  simp only [Int.toNat_natCast, Nat.mul_one]
  have e : madeCells (Value.string ByteArray.empty).cells n = Array.replicate n (Value.string ByteArray.empty) := by
    apply Array.toList_inj.1
    rw [Array.toList_replicate]
    exact toList_madeCells_one _ _
  rw [e]
theorem strC_one (ps : List Bs) : ∀ u ∈ ps.map strC, u.oneCell' = true := by
  intro u hu
  obtain ⟨x, _, rfl⟩ := List.mem_map.1 hu
  rfl
theorem splice_all {α : Type} (L cs : List α) (h : L.length = cs.length) : splice L 0 cs = cs := by
  unfold splice
  rw [List.take_zero, List.nil_append, Nat.zero_add, List.drop_of_length_le (by omega), List.append_nil]
set_option maxHeartbeats 800000 in
theorem none_nil (w : World) : Calls Try.prog 31 #[.pointer none] w fun e w' => e = .returned (.bool true) ∧ w = w' := by
  go_enter Try.func31, Try.ntmps31
  go_wp2
  go_ret
  exact ⟨rfl, rfl⟩
set_option maxHeartbeats 800000 in
theorem none_any (tb : Nat) (w : World) (h : w.cell? ⟨tb, 1, none⟩ = some (.bool true)) : Calls Try.prog 31 #[.pointer (some ⟨tb, 0, none⟩)] w fun e w' => e = .returned (.bool false) ∧ w = w' := by
  go_enter Try.func31, Try.ntmps31
  go_wp2
  go_ret
  exact ⟨rfl, rfl⟩
set_option maxHeartbeats 800000 in
theorem long_any (s : Bs) (w : World) (hl : s.length ≤ 4611686018427387904) : Calls Try.prog 43 #[.string (nm s)] w fun e w' => e = .returned (.bool (decide (4096 < s.length))) ∧ w = w' := by
  have q : decide (4096 < s.length) = decide (((nm s).size : Int) > 4096) := by rw [nm_size]; exact decide_eq_decide.2 (by omega)
  rw [q]
  have h1 : (nm s).size ≤ 4611686018427387904 := by rw [nm_size]; exact hl
  generalize nm s = S at *
  clear q hl
  go_enter Try.func43, Try.ntmps43
  go_wp2
  go_ret
  exact ⟨rfl, rfl⟩
set_option maxRecDepth 100000 in
set_option maxHeartbeats 1600000 in
/-- A list of one's own. -/
theorem copied_any (ps : List Bs) (v : Value) (w : World) (h : ArIn w v ps) (hl : ps.length ≤ 256) :
    Calls Try.prog 48 #[v] w fun e w' => ∃ v', e = .returned v' ∧ w'.ownsRow w.heap.size 9 1 v' ps.length (ps.map strC) ∧ Below w.heap.size w w' := by
  obtain ⟨A, c, rfl, hlc, hc⟩ := h
  have hmk := make_s ps.length (by omega)
  have HIN : Hid (0 < (ps.map strC).length → ∃ ad, A = some ad ∧ ∀ (W : World), Below w.heap.size w W → ∀ j u, (ps.map strC)[j]? = some u → W.cell? (ad.add j) = some u) := Lib.hid (by
    intro h0
    obtain ⟨b, off, hA, hlt, hcs⟩ := hc (by rintro rfl; simp at h0)
    refine ⟨_, hA, fun W hb j u hj => ?_⟩
    obtain ⟨hj1, hj2⟩ := List.getElem?_eq_some_iff.1 hj
    rw [List.length_map] at hj1
    have := (World.cell?_of_block (hb.block b hlt)).trans (hcs j hj1)
    rw [← hj2, List.getElem_map]
    cases j with
    | zero => simpa [Addr.add, strC] using this
    | succ j => simpa [Addr.add, strC] using this)
  have H1 := Lib.hid (strC_one ps)
  have HL := Lib.hid (show (ps.map strC).length = ps.length by simp)
  have HFIN : Hid (∀ W' : World, W'.heap[w.heap.size]? = some (.cells (ps.map strC).toArray 9 (0, 0)) → W'.ownsRow w.heap.size 9 1 (.slice (some ⟨w.heap.size, 0, none⟩) ps.length ps.length) ps.length (ps.map strC)) := Lib.hid (by
    intro W' hh
    refine ⟨by simp, .inr ⟨w.heap.size, ps.length, _, rfl, Nat.le_refl _, hh, Nat.le_refl _, by unfold maxLen; omega, by simp, ?_⟩⟩
    show List.take (ps.length * 1) (List.map strC ps) = _
    exact List.take_of_length_le (by simp))
  clear hc
  generalize ps.map strC = cs at *
  generalize ps.length = n at *
  go_enter Try.func48, Try.ntmps48
  go_wp2_with (with_reducible refine wpList_copy_splice (o := ⟨some 9, _, _, _, _, _⟩) rfl (.tmp 7) (.tmp 8) _ _ rfl 9 Try.underlying23 rfl _ _ _ _ _ _ rfl rfl w.heap.size 0 (List.replicate n (.string ByteArray.empty)) 9 (by rw [List.toArray_replicate]; exact heap_alloc_new w _) cs (by rw [HL.out]; simp) (fun h0 => ⟨rfl, by obtain ⟨ad, rfl, hc⟩ := HIN.out h0; exact ⟨_, rfl, hc _ ((Below.refl _ _).alloc (Nat.le_refl _) _)⟩⟩) (by rw [HL.out]; simp) H1.out w.heap.size w ((Below.refl _ _).alloc (Nat.le_refl _) _) (Nat.le_refl _) ?_; intro w2 hg2 hb2; have HB2 := Lib.hid hb2; clear hb2)
  go_ret
  refine ⟨_, rfl, HFIN.out _ ?_, HB2.out⟩
  have := hg2.out
  rw [splice_all _ _ (by rw [HL.out]; simp)] at this
  exact this
end Go.Proofs.Ytdegkfnlafgheaa.Vr
