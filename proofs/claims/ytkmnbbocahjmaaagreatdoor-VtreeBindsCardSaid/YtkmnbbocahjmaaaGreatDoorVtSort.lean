/- DERIVED. A row of nodes of the call's own, sorted by number. -/
import Derived.Test.YtkmnbbocahjmaaaGreatDoorVtLinks
import Derived.Test.YtkmnbbocahjmaaaGreatDoorShelf2
import Derived.Test.YtkmnbbocahjmaaaGreatDoorShelf3
namespace Go.Proofs.YtkmnbbocahjmaaaGreatDoor
open Go.RowKit Go.Sort Go.Lib
open PathM TreeM VtM
set_option linter.unusedVariables false

def pickP (ps : List (Nd × Value)) (x : Int) : Nd × Value := (ps.find? fun p => p.1.id == x).getD (zeroN, .slice none 0 0)
def encP (ps : List (Nd × Value)) (x : Int) : List Value := ndC ({ (pickP ps x).1 with id := x }, (pickP ps x).2)
theorem pick_mem {ps : List (Nd × Value)} (hn : (ps.map fun p => p.1.id).Nodup) {p : Nd × Value} (hp : p ∈ ps) : pickP ps p.1.id = p := by
  have : ps.find? (fun q => q.1.id == p.1.id) = some p := by
    induction ps with
    | nil => cases hp
    | cons a l ih =>
      rw [List.map_cons, List.nodup_cons] at hn
      rw [List.find?_cons]
      rcases List.mem_cons.1 hp with e | e
      · rw [← e]; simp
      · have hne : a.1.id ≠ p.1.id := fun h => hn.1 (h ▸ List.mem_map_of_mem (f := fun p : Nd × Value => p.1.id) e)
        rw [show (a.1.id == p.1.id) = false from by simpa using hne]
        exact ih hn.2 e
  unfold pickP; rw [this]; rfl
theorem enc_mem {ps : List (Nd × Value)} (hn : (ps.map fun p => p.1.id).Nodup) {p : Nd × Value} (hp : p ∈ ps) : encP ps p.1.id = ndC p := by
  unfold encP; rw [pick_mem hn hp]
theorem ltI (x y : Int) : ltOf (fun x y : Int => Lib.compareInt x y) x y = decide (x < y) := by
  unfold ltOf Lib.compareInt
  by_cases h1 : x < y
  · simp [h1]
  · by_cases h2 : y < x <;> simp [h1, h2]
theorem swoI : SWO (ltOf fun x y : Int => Lib.compareInt x y) where
  irrefl x := by rw [ltI]; simp
  trans x y z h1 h2 := by rw [ltI] at *; simp at *; omega
  ntrans x y z h1 h2 := by rw [ltI] at *; simp at *; omega
theorem grownBy_sortedK {α : Type} [Inhabited α] {w : World} {g n : Nat} {os : Array Obj} (enc : α → List Value) (k : Nat) (d : Array α) : w.grownBy (sortWorldK enc k w g 0 n d os) (some g) := by
  unfold sortWorldK putRowK
  refine ⟨rfl, rfl, rfl, by simp, fun k hk hne => ?_⟩
  rw [heap_grow_old _ _ (by simpa using hk)]
  have : g ≠ k := fun e => hne (by rw [e])
  simp [putRow, mapBlock, Sort.ahead, Array.getElem?_modify, this]

set_option maxRecDepth 100000 in
set_option maxHeartbeats 1000000 in
theorem closure59 (a0 b0 : Int) (a1 a2 a3 a4 b1 b2 b3 b4 : Int) (sa sb : ByteArray) (Aa Ab : Option Addr) (na ca nb cb : Nat) (W : World) :
    Calls Tryz.prog 59 #[.agg #[.int .i64 a0, .int .i64 a1, .int .i64 a2, .int .i64 a3, .int .i64 a4, .string sa, .slice Aa na ca], .agg #[.int .i64 b0, .int .i64 b1, .int .i64 b2, .int .i64 b3, .int .i64 b4, .string sb, .slice Ab nb cb]] W
      fun e w' => e = .returned (.int .i64 (Lib.compareInt a0 b0)) ∧ ∃ q os', w' = grow (W.drewN q) os' := by
  have hcon := fun W' => Tryz.cmp_Compare_int a0 b0 W'
  generalize Lib.compareInt a0 b0 = r at hcon ⊢
  go_enter Tryz.func59, Tryz.ntmps59
  go_wp2_with (go_at_call 60; refine (hcon _).mono ?_; rintro e w' ⟨rfl, rfl⟩)
  go_ret
  exact ⟨rfl, 0, _, by rw [alloc_eq_grow, alloc_eq_grow, grow_grow]; rfl⟩

theorem sorted_ids {l seen : List Nd} (hr : Rise l) (hp : seen.Perm l) : ((seen.map Nd.id).mergeSort fun x y => !(ltOf fun x y : Int => Lib.compareInt x y) y x) = l.map Nd.id := by
  have hle : (fun x y : Int => !(ltOf fun x y : Int => Lib.compareInt x y) y x) = fun x y => decide (x ≤ y) := by
    funext x y; rw [ltI]
    by_cases h : x ≤ y
    · simp [h]
    · have h2 : y < x := by omega
      simp [h, h2]
  rw [hle]
  have h1 : ((seen.map Nd.id).mergeSort fun x y => decide (x ≤ y)).Perm (l.map Nd.id) := (List.mergeSort_perm _ _).trans (hp.map _)
  have h2 : ((seen.map Nd.id).mergeSort fun x y => decide (x ≤ y)).Pairwise (fun x y => decide (x ≤ y) = true) := List.pairwise_mergeSort (by intro a b c; simp; omega) (by intro a b; simp; omega) _
  refine h1.eq_of_pairwise (le := fun x y : Int => x ≤ y) (fun a b _ _ h3 h4 => by omega) (h2.imp (by intro a b h; simpa using h)) ?_
  exact List.pairwise_map.2 (hr.imp (fun h => by omega))

theorem sort_nodes {W : World} {base g cap : Nat} {l seen : List Nd} (hr : Rise l) (hp : seen.Perm l) (hw : Rowed W base (.slice (some ⟨g, 0, none⟩) seen.length cap) seen) (hl : l.length ≤ 1000000)
    (hd : ∀ n ∈ l, n.data.length ≤ 140737488351232 ∧ n.es.length * 24 ≤ 140737488351232 ∧ ∀ x ∈ n.es, x.key.length ≤ 140737488351232 ∧ -9223372036854775808 ≤ x.to ∧ x.to ≤ 9223372036854775807) :
    Calls Tryz.prog 58 #[.slice (some ⟨g, 0, none⟩) seen.length cap, .func (.func 59) #[] #[]] W
      fun e w' => e = .returned (.tuple #[]) ∧ NodesIn w' w'.heap.size (.slice (some ⟨g, 0, none⟩) seen.length cap) l ∧ W.grownBy w' (some g) := by
  obtain ⟨ps, hps, h1, h2⟩ := hw
  have hids : ps.map (fun p => p.1.id) = seen.map Nd.id := by rw [← hps, List.map_map]; rfl
  have hnd : (ps.map fun p => p.1.id).Nodup := by
    rw [hids]
    exact ((hp.map Nd.id).nodup_iff).2 (List.Pairwise.imp (fun h => by omega) (List.pairwise_map.2 hr))
  have hlen : ps.length = seen.length := by rw [← hps]; simp
  have hgb : W.heap[g]? ≠ none := by
    rcases h1.2 with ⟨e, _⟩ | ⟨g', cap', cur, e, _, hb, _⟩
    · cases e
    · cases e; rw [hb]; simp
  have hg : g < W.heap.size := by
    by_cases h : g < W.heap.size
    · exact h
    · exact absurd (Array.getElem?_eq_none (by omega)) hgb
  let d : Array Int := (seen.map Nd.id).toArray
  have hds : d.size = seen.length := by simp [d]
  have hget : ∀ i (h : i < ps.length), d[i]! = ps[i].1.id := by
    intro i h
    have e : (seen.map Nd.id)[i]? = some ps[i].1.id := by rw [← hids]; simp [h]
    simp [d, e]
  have hH : HoldsK (encP ps) 7 W g 0 d := by
    intro j hj
    rw [size_flatK, hds] at hj
    have hi : j / 7 < ps.length := by omega
    have hm : ps[j / 7] ∈ ps := List.getElem_mem hi
    rw [get_flatK _ _ _ j (by rw [hds]; exact hj), hget _ hi, enc_mem hnd hm]
    have hc := nd_cells ps (j / 7) hi (j % 7) (by omega)
    have hjj : j / 7 * 7 + j % 7 = j := by omega
    rw [hjj] at hc
    have hl7 : (ndC ps[j / 7]).length = 7 := rfl
    have hx : (ndC ps[j / 7])[j % 7]? = some ((ndC ps[j / 7])[j % 7]!) := by
      rw [List.getElem?_eq_getElem (by omega), getElem!_pos _ _ (by omega)]
    rw [Nat.zero_add]
    exact ⟨row_cells h1 _ _ (hc.trans hx), h1.frozenAt _⟩
  have hshape : ∀ x, ∃ A n c, (pickP ps x).2 = .slice A n c := by
    intro x
    unfold pickP
    cases hf : ps.find? (fun p => p.1.id == x) with
    | none => exact ⟨none, 0, 0, rfl⟩
    | some p =>
      obtain ⟨A, c, h⟩ := ownsRow_len3 (h2 p (List.mem_of_find?_eq_some hf))
      exact ⟨A, _, c, h⟩
  have hS := Tryz.slices_SortFunc (α := Int) 7 Tryz.isAgg64 Tryz.sizeOf64 (encP ps) (fun _ => rfl) (fun x v hv => by
      obtain ⟨A, n, c, he⟩ := hshape x
      unfold encP ndC at hv
      simp only [he] at hv
      exact one7 _ _ _ _ _ _ _ _ _ v hv) (fun x y => Lib.compareInt x y) swoI 59 #[] g 0 cap d W (enters_of Tryz.func59 (by kernel_rfl) rfl) (fun m os dk _ x y => by
      obtain ⟨A, n, c, he⟩ := hshape x
      obtain ⟨A2, n2, c2, he2⟩ := hshape y
      have := closure59 x y (pickP ps x).1.kind (pickP ps x).1.mode (pickP ps x).1.owner (pickP ps x).1.time (pickP ps y).1.kind (pickP ps y).1.mode (pickP ps y).1.owner (pickP ps y).1.time (nm (pickP ps x).1.data) (nm (pickP ps y).1.data) A A2 n c n2 c2 (sortWorldK (encP ps) 7 W g 0 m dk os)
      unfold encP ndC at this ⊢
      simp only [he, he2] at this ⊢
      exact this) hH hg (by rw [hds, hp.length_eq]; omega) (fun x y h1 h2 => by rw [ltI] at h1 h2; simp at h1 h2; omega)
  rw [hds] at hS
  refine hS.mono ?_
  rintro e w' ⟨rfl, n, os, rfl⟩
  have hgr := grownBy_sortedK (w := W) (g := g) (n := n) (os := os) (encP ps) 7 (d.toList.mergeSort fun x y => !(ltOf fun x y : Int => Lib.compareInt x y) y x).toArray
  have hsd : (d.toList.mergeSort fun x y => !(ltOf fun x y : Int => Lib.compareInt x y) y x) = l.map Nd.id := sorted_ids hr hp
  rw [hsd] at hgr ⊢
  have hHK : HoldsK (encP ps) 7 (sortWorldK (encP ps) 7 W g 0 n (l.map Nd.id).toArray os) g 0 (l.map Nd.id).toArray := by
    unfold sortWorldK
    refine holdsK_grow _ _ _ _ _ _ _ (by unfold putRowK; simpa using hg) ?_
    exact holdsK_putRowK _ _ (Sort.ahead W n) g 0 d _ hH (by simp [hds, hp.length_eq])
  generalize sortWorldK (encP ps) 7 W g 0 n (l.map Nd.id).toArray os = W' at hgr hHK ⊢
  refine ⟨rfl, ⟨_, cap, by rw [hp.length_eq], ?_, by omega, fun _ => ⟨g, 0, rfl, Nat.lt_of_lt_of_le hg hgr.size, fun i hi => ?_⟩⟩, hgr⟩
  · rcases h1.2 with ⟨e, _⟩ | ⟨g', cap', cur, e, _, _, hc, _⟩
    · cases e
    · injection e with _ _ e3; rw [e3, ← hp.length_eq]; exact hc
  · have hnm : ndAt l i ∈ l := ndAt_mem hi
    have hns := hp.mem_iff.2 hnm
    rw [← hps] at hns
    obtain ⟨p, hpm, hpe⟩ := List.mem_map.1 hns
    have hdi : (l.map Nd.id).toArray[i]! = (ndAt l i).id := by
      have e : (l.map Nd.id)[i]? = some (ndAt l i).id := by rw [List.getElem?_map, ndAt_get hi]; rfl
      simp [e]
    have hcell : ∀ c, c < 7 → W'.cell? ⟨g, 0 + i * 7 + c, none⟩ = some (ndC p)[c]! := by
      intro c hc
      have := (hHK.cell (i := i) (c := c) (by simpa using hi) hc).1
      rw [hdi, ← hpe, enc_mem hnd hpm] at this
      exact this
    have hEr := h2 p hpm
    obtain ⟨A, c, hv⟩ := ownsRow_len3 hEr
    have hap := rows_apart (by decide : 75 ≠ 64) hEr h1
    have hE' := hEr.kept hgr (hap.imp id (fun h => by simpa [Value.ownBlock] using h))
    obtain ⟨d1, d2, d3⟩ := hd _ hnm
    rw [← hpe] at d1 d2 d3 ⊢
    exact ⟨hcell 0 (by decide), hcell 1 (by decide), hcell 2 (by decide), hcell 3 (by decide), hcell 4 (by decide), hcell 5 (by decide), d1, p.2, hcell 6 (by decide), ents_of_row hE' d2 d3⟩
end Go.Proofs.YtkmnbbocahjmaaaGreatDoor
