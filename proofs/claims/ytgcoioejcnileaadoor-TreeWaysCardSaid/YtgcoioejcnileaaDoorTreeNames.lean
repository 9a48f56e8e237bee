/- DERIVED. The walk of names and of Path of package tree. -/
import Derived.Test.YtgcoioejcnileaaDoorTreeRWay
import Derived.Test.YtgcoioejcnileaaDoorShelf2
namespace Go.Proofs.YtgcoioejcnileaaDoor
open Go.RowKit Go.Sort
open PathM TreeM
set_option linter.unusedVariables false

theorem pathOf_rootJ (ns : List Bs) : pathOf ns = rootJ ns := by
  unfold pathOf rootJ flatS; rfl
theorem join_pathOf (ns : List Bs) : joinL [47] (Lib.join ns [47]) = pathOf ns := by
  rw [pathOf_rootJ, ← rootJ_join]; simp [joinL, bare, Go.Lib.trimRightB]
theorem info9 : (Tryd.prog.info? 9).map (fun i => (i.zero, i.size, i.bytes)) = some (some (.string ByteArray.empty), 1, 16) := by kernel_rfl
def enc (x : Bs) : Value := .string (nm x)
theorem enc_snoc (l : List Bs) (x : Bs) : (l ++ [x]).map enc = l.map enc ++ [.string (nm x)] := by simp [enc]
theorem back_step {l : List TreeM.Item} (h : ∀ j, 0 < j → j < l.length → (itAt l j).fr < j) {q : Nat} (h0 : 0 < q) (hq : q < l.length) : back l l.length q = (itAt l q).name :: back l l.length (itAt l q).fr := by
  have hf := h q h0 hq
  obtain ⟨n, hn⟩ : ∃ n, l.length = n + 1 := ⟨l.length - 1, by omega⟩
  have := back_any h n (n + 1) (itAt l q).fr (by omega) (by omega) (by omega)
  rw [hn, back, if_neg (by omega), this]
theorem it_cells (l : List TreeM.Item) : ∀ k, k < l.length → (l.flatMap itCells)[k * 3]? = some (.int .i64 (itAt l k).node) ∧ (l.flatMap itCells)[k * 3 + 1]? = some (.int .i64 (itAt l k).fr) ∧ (l.flatMap itCells)[k * 3 + 2]? = some (.string (nm (itAt l k).name)) := by
  induction l with
  | nil => intro k h; simp at h
  | cons a l ih =>
    intro k h
    rw [List.flatMap_cons]
    cases k with
    | zero => simp [itCells, itAt]
    | succ k =>
      have := ih k (by simpa using h)
      rw [show (k + 1) * 3 = k * 3 + 3 from by omega]
      simp only [itCells, itAt] at this ⊢
      simpa using this
/-- Names in a row of their own. -/
def NamesIn (w : World) (B : Nat) (v : Value) (ns : List Bs) : Prop :=
  (v = .slice none 0 0 ∧ ns = []) ∨ ∃ g cap, v = .slice (some ⟨g, 0, none⟩) ns.length cap ∧ ns.length ≤ cap ∧ g < w.heap.size ∧ B ≤ g ∧ ∀ j x, (ns.map nm)[j]? = some x → w.cell? ⟨g, 0 + j, none⟩ = some (.string x)
theorem reversed {w wr : World} {acc : List Bs} {g cap n : Nat} (hrow : wr.ownsRow w.heap.size 9 1 (.slice (some ⟨g, 0, none⟩) acc.length cap) acc.length (acc.map enc)) (hb : Below w.heap.size w wr) :
    NamesIn (putRow encStr (Sort.ahead wr n) g 0 acc.reverse.toArray) w.heap.size (.slice (some ⟨g, 0, none⟩) acc.length cap) acc.reverse ∧ Below w.heap.size w (putRow encStr (Sort.ahead wr n) g 0 acc.reverse.toArray) := by
  rcases hrow.2 with ⟨h, _⟩ | ⟨g', cap', cur, hv, hg, hh, hk, hm, hs, hx⟩
  · cases h
  · cases hv
    have hlt := (Array.getElem?_eq_some_iff.1 hh).1
    refine ⟨.inr ⟨g, cap, by simp, by simpa using hk, by simpa using hlt, hg, fun j x hj => ?_⟩, ?_⟩
    · have hjl : j < acc.reverse.length := by have := lt_of_get hj; simpa using this
      have hcl : acc.length ≤ cur.size := by omega
      have hj2 : j < acc.length := by simpa using hjl
      have hxe : x = nm (acc.reverse[j]) := by rw [List.getElem?_map, List.getElem?_eq_getElem hjl] at hj; simpa using hj.symm
      have hc : (putCells encStr 0 acc.reverse.toArray cur)[j]? = some (encStr acc.reverse.toArray[j]!) := by
        simp only [putCells, Array.getElem?_mapIdx]
        rw [Array.getElem?_eq_getElem (by omega)]
        simp [hj2]
      have hblk : (putRow encStr (Sort.ahead wr n) g 0 acc.reverse.toArray).heap[g]? = some (.cells (putCells encStr 0 acc.reverse.toArray cur) 9 (0, 0)) := by
        simp only [putRow, mapBlock, Array.getElem?_modify, heap_ahead, if_true, hh, Option.map_some, onCells]
      rw [Nat.zero_add]
      simp only [World.cell?, hblk, hc]
      rw [hxe, getElem!_pos _ j (by simpa using hj2)]
      simp [nm]
    · have h1 : Below w.heap.size wr (putRow encStr (Sort.ahead wr n) g 0 acc.reverse.toArray) :=
        ⟨rfl, rfl, rfl, by simp, fun k hk => by
          simp only [putRow, mapBlock, Array.getElem?_modify, heap_ahead]
          rw [if_neg (by omega)]⟩
      exact hb.trans h1
theorem holdsRow {wr : World} {base : Nat} {acc : List Bs} {g cap : Nat} (hrow : wr.ownsRow base 9 1 (.slice (some ⟨g, 0, none⟩) acc.length cap) acc.length (acc.map enc)) : Holds encStr wr g 0 acc.toArray := by
  intro j hj
  have hj2 : j < acc.length := by simpa using hj
  have h1 := row_cells hrow j (enc acc[j]) (by rw [List.getElem?_map, List.getElem?_eq_getElem hj2]; rfl)
  rcases hrow.2 with ⟨h, _⟩ | ⟨g', cap', cur, hv, hg, hh, hk, hm, hs, hx⟩
  · cases h
  · cases hv
    rw [Nat.zero_add]
    refine ⟨?_, ?_⟩
    · rw [h1, getElem!_pos _ j hj]; simp [enc, nm]
    · simp [World.frozen?, hh]

/-- What names answers. -/
def NamesPost (ns : List Bs) (w : World) (e : Ending) (w' : World) : Prop := ∃ v', e = .returned v' ∧ NamesIn w' w.heap.size v' ns ∧ Below w.heap.size w w'

set_option maxRecDepth 100000 in
set_option maxHeartbeats 4000000 in
theorem names_any (v : Value) (l : List TreeM.Item) (base k : Nat) (w : World) (hrow : w.ownsRow base 83 3 v l.length (l.flatMap itCells)) (hk : k < l.length) (hl : l.length ≤ 512) (hfr : ∀ j, 0 < j → j < l.length → (itAt l j).fr < j) :
    Calls Tryd.prog 50 #[v, .int .i64 k] w (NamesPost (back l l.length k).reverse w) := by
  have hstep := fun q h0 h1 => back_step hfr (q := q) h0 h1
  have hcl := it_cells l
  have hc : ∀ q, q < l.length → ∀ g c, v = .slice (some ⟨g, 0, none⟩) l.length c → w.cell? ⟨g, q * 3 + 1, none⟩ = some (.int .i64 (itAt l q).fr) ∧ w.cell? ⟨g, q * 3 + 2, none⟩ = some (.string (nm (itAt l q).name)) := by
    rintro q hq g c rfl
    exact ⟨row_cells hrow _ _ (hcl q hq).2.1, row_cells hrow _ _ (hcl q hq).2.2⟩
  obtain ⟨g, c, rfl, hglt⟩ : ∃ g c, v = .slice (some ⟨g, 0, none⟩) l.length c ∧ g < w.heap.size := by
    rcases hrow.2 with ⟨_, h⟩ | ⟨g, cap, cur, hv, _, hh, _⟩
    · omega
    · exact ⟨g, cap, hv, (Array.getElem?_eq_some_iff.1 hh).1⟩
  have hc2 := fun q hq => hc q hq g c rfl
  obtain ⟨i0, hi, hz0, hz1, hz2⟩ := info_parts info9
  have HI := Lib.hid hi; have HZ0 := Lib.hid hz0; have HZ1 := Lib.hid hz1; have HZ2 := Lib.hid hz2; clear hi hz0 hz1 hz2
  have HF := Lib.hid hfr; have HS := Lib.hid hstep; have HC := Lib.hid hc2
  clear hfr hstep hcl hc hc2 hrow
  unfold NamesPost
  obtain ⟨ns, hns⟩ : ∃ ns, ns = back l l.length k := ⟨_, rfl⟩
  have HNS := Lib.hid hns
  rw [← hns]
  clear hns
  go_enter Tryd.func50, Tryd.ntmps50
  go_wp2
  go_loopw [1, 5] (fun s1 v5 wr => ∃ (q : Nat) (acc : List Bs), s1 = .int .i64 q ∧ q < l.length ∧ acc ++ back l l.length q = ns ∧ acc.length + q ≤ k ∧ wr.ownsRow w.heap.size 9 1 v5 acc.length (acc.map enc) ∧ Below w.heap.size w wr) (fun s1 _ _ => (intOf s1).toNat)
  case atStart => exact ⟨k, [], rfl, hk, by rw [HNS.out]; rfl, by simp, World.ownsRow_nil _ _ _ _, Below.refl _ _⟩
  case round =>
    obtain ⟨q, acc, rfl, hq, hb, hal, hrow, hbel⟩ := hrel
    obtain ⟨va, vc, rfl⟩ := ownsRow_len3 hrow
    have HR5 := Lib.hid hrow; have HB5 := Lib.hid hbel; have HACC := Lib.hid hb
    clear hrow hbel hb
    by_cases hq0 : 0 < q
    · have hqi : (0 : Int) < (q : Int) := by omega
      obtain ⟨c1, c2⟩ := HC.out q hq
      have d1 : wr.cell? ⟨g, q * 3 + 1, none⟩ = _ := (HB5.out.cell (p := ⟨g, q * 3 + 1, none⟩) hglt).trans c1
      have d2 : wr.cell? ⟨g, q * 3 + 2, none⟩ = _ := (HB5.out.cell (p := ⟨g, q * 3 + 2, none⟩) hglt).trans c2
      have HS1 := Lib.hid (HS.out q hq0 hq)
      have HF1 := Lib.hid (HF.out q hq0 hq)
      have hql : (q : Int) < (l.length : Int) := by omega
      have hgw : g < wr.heap.size := Nat.lt_of_lt_of_le hglt HB5.out.size
      have HC1 := Lib.hid c1
      clear c1 c2
      generalize (itAt l q).name = nme at *
      generalize (itAt l q).fr = fr at *
      go_wp2_with (at_builtin; refine wpList_append_own _ rfl _ _ 78 rfl w.heap.size 9 i0 (.string ByteArray.empty) 1 16 Tryd.underlying78 HI.out HZ0.out HZ1.out HZ2.out rfl (by decide) _ _ _ rfl (HR5.out.alloc _) ⟨wr.heap.size, 0, none⟩ 1 1 [.string (nm nme)] rfl rfl (cell_one_new _ _ _) (by simp [Value.oneCell']) (maxLen_ok (by omega)) (by omega) (Nat.le_trans HB5.out.size (Nat.le_of_lt (alloc_lt _ _))) ?_; intro v' w3 hown' hgrow _; obtain ⟨g', cap', rfl⟩ := ownsRow_succ hown'; have hB3 := (HB5.out.alloc HB5.out.size _).grown hgrow (by simp; have := HB5.out.size; omega) (fun j e => (HR5.out.lt j e).1); have y1 := (hB3.cell (p := ⟨g, q * 3 + 1, none⟩) hglt).trans HC1.out; have HB6 := Lib.hid hB3; have HR6 := Lib.hid hown'; clear hB3 hown')
      go_roundw
      case rel => exact ⟨fr, acc ++ [nme], rfl, Nat.lt_trans HF1.out hq, by rw [← HACC.out, HS1.out]; simp, by have := HF1.out; simp; omega, by rw [enc_snoc, List.length_append]; exact HR6.out, HB6.out⟩
      case measure => have := HF1.out; simp [intOf]; omega
    · obtain rfl : q = 0 := by omega
      have hacc : acc = ns := by have := HACC.out; rwa [back_zero, List.append_nil] at this
      have hal2 : acc.length ≤ 9223372036854775807 := by omega
      subst hacc
      clear HACC HNS
      cases va with
      | none =>
        have hnil : acc = [] := by
          rcases HR5.out.2 with ⟨_, h⟩ | ⟨g', cap', cur, hv, _⟩
          · exact List.length_eq_zero_iff.1 h
          · cases hv
        subst hnil
        have hvc : vc = 0 := by
          rcases HR5.out.2 with ⟨h, _⟩ | ⟨g', cap', cur, hv, _⟩
          · cases h; rfl
          · cases hv
        subst hvc
        have HE := Lib.hid (fun W => Tryd.slices_Reverse_string_empty none 0 W)
        go_wp2_with (go_at_call 64; refine (HE.out _).mono ?_; rintro e w5 ⟨rfl, rfl⟩)
        go_ret
        exact ⟨_, rfl, .inl ⟨rfl, rfl⟩, HB5.out⟩
      | some a =>
        obtain ⟨g', rfl⟩ : ∃ g', a = ⟨g', 0, none⟩ := by
          rcases HR5.out.2 with ⟨h, _⟩ | ⟨g', cap', cur, hv, _⟩
          · cases h
          · cases hv; exact ⟨g', rfl⟩
        have HE := Lib.hid (Tryd.slices_Reverse_string g' 0 vc acc wr (holdsRow HR5.out) hal2)
        go_wp2_with (go_at_call 64; refine HE.out.mono ?_; rintro e w5 ⟨rfl, n, rfl⟩)
        go_ret
        obtain ⟨r1, r2⟩ := reversed (n := n) HR5.out HB5.out
        exact ⟨_, by simp, r1, r2⟩
end Go.Proofs.YtgcoioejcnileaaDoor
