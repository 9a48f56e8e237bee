/- DERIVED. The walk of names and of Path of package tree. -/
import Derived.Test.YtkmnbbocahjmaaaGreatDoorTreeRWay
import Derived.Test.YtkmnbbocahjmaaaGreatDoorShelf2
namespace Go.Proofs.YtkmnbbocahjmaaaGreatDoor
open Go.RowKit Go.Sort
open PathM TreeM
set_option linter.unusedVariables false

theorem pathOf_rootJ (ns : List Bs) : pathOf ns = rootJ ns := by
  unfold pathOf rootJ flatS; rfl
theorem join_pathOf (ns : List Bs) : joinL [47] (Lib.join ns [47]) = pathOf ns := by
  rw [pathOf_rootJ, ← rootJ_join]; simp [joinL, bare, Go.Lib.trimRightB]
theorem info9 : (Tryz.prog.info? 9).map (fun i => (i.zero, i.size, i.bytes)) = some (some (.string ByteArray.empty), 1, 16) := by kernel_rfl
def enc (x : Bs) : Value := .string (nm x)
theorem enc_snoc (l : List Bs) (x : Bs) : (l ++ [x]).map enc = l.map enc ++ [.string (nm x)] := by simp [enc]
theorem back_step {l : List TreeM.Item} (h : ∀ j, 0 < j → j < l.length → (itAt l j).fr < j) {q : Nat} (h0 : 0 < q) (hq : q < l.length) : back l l.length q = (itAt l q).name :: back l l.length (itAt l q).fr := by
  have hf := h q h0 hq
  obtain ⟨n, hn⟩ : ∃ n, l.length = n + 1 := ⟨l.length - 1, by omega⟩
  have := back_any h n (n + 1) (itAt l q).fr (by omega) (by omega) (by omega)
  rw [hn, back, if_neg (by omega), this]
theorem it_cells (l : List TreeM.Item) : ∀ k, k < l.length → (l.flatMap itCells)[k * 3]? = some (.int .i64 (itAt l k).node) ∧ (l.flatMap itCells)[k * 3 + 1]? = some (.int .i64 (itAt l k).fr) ∧ (l.flatMap itCells)[k * 3 + 2]? = some (.string (nm (itAt l k).name)) := by
  induction l with
  | nil => intro k h; simp at h
  | cons a l ih =>
    intro k h
    rw [List.flatMap_cons]
    cases k with
    | zero => simp [itCells, itAt]
    | succ k =>
      have := ih k (by simpa using h)
      rw [show (k + 1) * 3 = k * 3 + 3 from by omega]
      simp only [itCells, itAt] at this ⊢
      simpa using this
/-- Names in a row of their own. -/
def NamesIn (w : World) (B : Nat) (v : Value) (ns : List Bs) : Prop :=
  (v = .slice none 0 0 ∧ ns = []) ∨ ∃ g cap, v = .slice (some ⟨g, 0, none⟩) ns.length cap ∧ ns.length ≤ cap ∧ g < w.heap.size ∧ B ≤ g ∧ ∀ j x, (ns.map nm)[j]? = some x → w.cell? ⟨g, 0 + j, none⟩ = some (.string x)
theorem reversed {w wr : World} {acc : List Bs} {g cap n : Nat} (hrow : wr.ownsRow w.heap.size 9 1 (.slice (some ⟨g, 0, none⟩) acc.length cap) acc.length (acc.map enc)) (hb : Below w.heap.size w wr) :
    NamesIn (putRow encStr (Sort.ahead wr n) g 0 acc.reverse.toArray) w.heap.size (.slice (some ⟨g, 0, none⟩) acc.length cap) acc.reverse ∧ Below w.heap.size w (putRow encStr (Sort.ahead wr n) g 0 acc.reverse.toArray) := by
  rcases hrow.2 with ⟨h, _⟩ | ⟨g', cap', cur, hv, hg, hh, hk, hm, hs, hx⟩
  · cases h
  · cases hv
    have hlt := (Array.getElem?_eq_some_iff.1 hh).1
    refine ⟨.inr ⟨g, cap, by simp, by simpa using hk, by simpa using hlt, hg, fun j x hj => ?_⟩, ?_⟩
    · have hjl : j < acc.reverse.length := by have := lt_of_get hj; simpa using this
      have hcl : acc.length ≤ cur.size := by omega
      have hj2 : j < acc.length := by simpa using hjl
      have hxe : x = nm (acc.reverse[j]) := by rw [List.getElem?_map, List.getElem?_eq_getElem hjl] at hj; simpa using hj.symm
      have hc : (putCells encStr 0 acc.reverse.toArray cur)[j]? = some (encStr acc.reverse.toArray[j]!) := by
        simp only [putCells, Array.getElem?_mapIdx]
        rw [Array.getElem?_eq_getElem (by omega)]
        simp [hj2]
      have hblk : (putRow encStr (Sort.ahead wr n) g 0 acc.reverse.toArray).heap[g]? = some (.cells (putCells encStr 0 acc.reverse.toArray cur) 9 (0, 0)) := by
        simp only [putRow, mapBlock, Array.getElem?_modify, heap_ahead, if_true, hh, Option.map_some, onCells]
      rw [Nat.zero_add]
      simp only [World.cell?, hblk, hc]
      rw [hxe, getElem!_pos _ j (by simpa using hj2)]
      simp [nm]
    · have h1 : Below w.heap.size wr (putRow encStr (Sort.ahead wr n) g 0 acc.reverse.toArray) :=
        ⟨rfl, rfl, rfl, by simp, fun k hk => by
          simp only [putRow, mapBlock, Array.getElem?_modify, heap_ahead]
          rw [if_neg (by omega)]⟩
      exact hb.trans h1
theorem holdsRow {wr : World} {base : Nat} {acc : List Bs} {g cap : Nat} (hrow : wr.ownsRow base 9 1 (.slice (some ⟨g, 0, none⟩) acc.length cap) acc.length (acc.map enc)) : Holds encStr wr g 0 acc.toArray := by
  intro j hj
  have hj2 : j < acc.length := by simpa using hj
  have h1 := row_cells hrow j (enc acc[j]) (by rw [List.getElem?_map, List.getElem?_eq_getElem hj2]; rfl)
  rcases hrow.2 with ⟨h, _⟩ | ⟨g', cap', cur, hv, hg, hh, hk, hm, hs, hx⟩
  · cases h
  · cases hv
    rw [Nat.zero_add]
    refine ⟨?_, ?_⟩
    · rw [h1, getElem!_pos _ j hj]; simp [enc, nm]
    · simp [World.frozen?, hh]

/-- What names answers. -/
def NamesPost (ns : List Bs) (w : World) (e : Ending) (w' : World) : Prop := ∃ v', e = .returned v' ∧ NamesIn w' w.heap.size v' ns ∧ Below w.heap.size w w'

end Go.Proofs.YtkmnbbocahjmaaaGreatDoor
