/- DERIVED. Stage 5, several texts in one: VtLinks VtSort VtTree VtOpen VtWalk VtWalk2 VtWalk3 VtOps. -/
import Derived.Test.YtpicgkoclbpjpaaGreatDoorVnG7
import Derived.Test.YtpicgkoclbpjpaaGreatDoorShelf2
import Derived.Test.YtpicgkoclbpjpaaGreatDoorShelf3
import Derived.BigRegion
import Derived.Test.YtpicgkoclbpjpaaGreatDoorVnG3
import Derived.Lib.QuietBelow
import Derived.Deep.RegionLawGrows
import Derived.StillTailTactics
import Derived.Deep.RegionHeld3
section
namespace Go.Proofs.YtpicgkoclbpjpaaGreatDoor
open Go.RowKit Go.Sort Go.Lib
open PathM TreeM VtM
set_option linter.unusedVariables false

def toC (es : List Ent) (id : Int) : Nat := es.countP fun x => x.to == id
theorem links_app (a b : List Nd) (id : Int) : links (a ++ b) id = links a id + links b id := by simp [links, flat, List.countP_append]
theorem links_one (nd : Nd) (id : Int) : links [nd] id = toC nd.es id := by simp [links, flat, toC]
theorem links_perm {a b : List Nd} (h : a.Perm b) (id : Int) : links a id = links b id := (h.flatMap_right _).countP_eq _
theorem toC_le (es : List Ent) (id : Int) : toC es id ≤ es.length := List.countP_le_length
theorem toC_succ (es : List Ent) (id : Int) (q : Nat) (h : q < es.length) : toC (es.take (q + 1)) id = toC (es.take q) id + (if (entAt es q).to = id then 1 else 0) := by
  have e : es.take (q + 1) = es.take q ++ [entAt es q] := by
    rw [List.take_add_one, entAt_get h]; rfl
  rw [e]; simp only [toC, List.countP_append, List.countP_cons, List.countP_nil]
  simp
theorem links_le {l : List Nd} {k : Nat} (h : ∀ nd ∈ l, nd.es.length ≤ k) (id : Int) : links l id ≤ l.length * k := by
  induction l with
  | nil => simp [links, flat]
  | cons a l ih =>
    have h1 := h a (by simp)
    have h2 := ih fun nd hnd => h nd (by simp [hnd])
    have e : links (a :: l) id = links [a] id + links l id := links_app [a] l id
    have h3 := toC_le a.es id
    rw [e, links_one, List.length_cons, Nat.succ_mul]; omega
theorem RangeN.linksB {w : World} {mb r : Nat} {l : List Nd} {ev : Int → Value} {seen : List Nd} {cnt : Nat} (h : RangeN w mb r l ev seen cnt) (hr : Rise l) {k : Nat} (hk : ∀ nd ∈ l, nd.es.length ≤ k) (id : Int) : links seen id ≤ l.length * k :=
  Nat.le_trans (links_le (fun nd hnd => hk nd ((h.sub hr).mem_iff.1 hnd |> List.mem_filter.1).1) id) (Nat.mul_le_mul_right _ (h.len hr))

set_option maxRecDepth 100000 in
set_option maxHeartbeats 8000000 in
theorem links5_any (db mb : Nat) (t : Tr) (ev : Int → Value) (id : Int) (w : World) (h : DiskIn w db mb t ev) (hr : Rise t.nodes) (hlen : t.nodes.length ≤ 1000000) (hd : ∀ nd ∈ t.nodes, nd.es.length ≤ 1000000) :
    Calls Tryz.prog 201 #[.pointer (some ⟨db, 0, none⟩), .int .i64 id] w (IntPost (links t.nodes id) w) := by
  unfold IntPost
  have c0 := h.c0
  have HD := Lib.hid h; have HR := Lib.hid hr
  have hdl := blk_lt h.disk
  have hml := h.map.lt
  have HLE : Hid (t.nodes.length * 1000000 ≤ 1000000000000) := Lib.hid (by omega)
  clear h
  go_enter Tryz.func201, Tryz.ntmps201
  go_wp2_with (first | (go_at_call 56; refine (dnone_any db mb _ c0).mono ?_; rintro e w' ⟨rfl, rfl⟩) | (at_range; refine wpList_range_nodes rfl _ rfl mb t.nodes ev hr rfl HD.out.map ?_; intro w0 hrg0 hg0 hs0) | go_in)
  go_frame
  go_loopw [5] (fun v wr => ∃ (seen : List Nd) (cnt : Nat), v = .int .i64 (links seen id : Int) ∧ RangeN wr mb w.heap.size t.nodes ev seen cnt ∧ Below w.heap.size w wr) (fun _ wr => wr.rangeLeft mb w.heap.size)
  case atStart => exact ⟨[], _, rfl, hrg0, ⟨hg0.os, hg0.tape, hg0.output, hg0.size, fun k hk => hg0.block k hk (by simp)⟩⟩
  case round =>
    obtain ⟨seen, cnt, rfl, hrg, hb⟩ := hrel
    have HRG := Lib.hid hrg; have HB := Lib.hid hb
    clear hrg hb
    go_wp2_with (first | (at_next; refine wpList_next_nodes rfl _ rfl mb w.heap.size t.nodes ev HR.out seen cnt rfl HRG.out ?_ ?_) | go_in)
    · intro hp
      have e1 := links_perm hp id
      rw [e1]
      clear e1 hp
      go_wp2
      go_ret
      exact ⟨rfl, HB.out⟩
    · intro nd w1 cnt1 hnd hns hrg1 hlt hg1 hs1 hen
      have hE := HD.out.ents nd hnd
      have hm6 := hd nd hnd
      obtain ⟨Ae, ce, hev, _⟩ := ents_len hE
      rw [hev] at hen hE ⊢
      unfold ndV at hen ⊢
      have h1 := Nat.le_trans (HRG.out.linksB HR.out hd id) HLE.out
      have e1 : links (seen ++ [nd]) id = links seen id + toC nd.es id := by rw [links_app, links_one]
      have hb1 : Below w.heap.size w w1 := HB.out.grown hg1 HB.out.size (fun j hj => by cases hj; exact Nat.le_refl _)
      have HRG1 := Lib.hid hrg1; have HB1 := Lib.hid hb1; have HLT := Lib.hid hlt; have HE1 := Lib.hid e1
      have hE1 := hE.below hb1
      have HEN := Lib.hid hE1
      have hbb := (Below.refl w1.heap.size w1).alloc (Nat.le_refl _) (.cells #[.int .i64 nd.id, .int .i64 nd.kind, .int .i64 nd.mode, .int .i64 nd.owner, .int .i64 nd.time, .string (nm nd.data), .slice Ae nd.es.length ce] 64)
      have hrg2 := HRG1.out.below hbb
      have hb2 := HB1.out.trans (hbb.mono HB1.out.size)
      have HRG2 := Lib.hid hrg2; have HB2 := Lib.hid hb2; have HWO := Lib.hid hbb; have HBW : Hid (w.heap.size ≤ w1.heap.size) := Lib.hid HB1.out.size; have HBW2 := Lib.hid hb2.size
      obtain ⟨sz, hsz⟩ : ∃ sz, links seen id = sz := ⟨_, rfl⟩
      rw [hsz] at h1 e1 HE1 ⊢
      clear hrg1 hb1 hlt e1 hg1 hs1 hnd hns hev hE hE1 hbb hrg2 hb2
      go_wp2
      generalize hWb : w1.alloc (.cells #[.int .i64 nd.id, .int .i64 nd.kind, .int .i64 nd.mode, .int .i64 nd.owner, .int .i64 nd.time, .string (nm nd.data), .slice Ae nd.es.length ce] 64) = wo at *
      clear hWb hen
      have HTK : Hid (toC nd.es id = toC (nd.es.take nd.es.length) id) := Lib.hid (by rw [List.take_length])
      go_loopw [5, 25] (fun s j w2 => ∃ q : Nat, q ≤ nd.es.length ∧ j = .int .i64 q ∧ s = .int .i64 ((sz : Int) + (toC (nd.es.take q) id : Int)) ∧ Below wo.heap.size wo w2) (fun _ j _ => nd.es.length - (intOf j).toNat)
      case atStart => exact ⟨0, by omega, rfl, by simp [toC], Below.refl _ _⟩
      case round =>
        obtain ⟨q, hq, rfl, rfl, hbe⟩ := hrel
        have hcq := toC_le (nd.es.take q) id
        rw [List.length_take] at hcq
        have hws2 : wo.heap.size ≤ wr.heap.size := hbe.size
        have HBE := Lib.hid hbe
        clear hbe
        by_cases hqt : q < nd.es.length
        · obtain ⟨b, off, c, hv, hcap, hbl, _, hcells⟩ : ∃ b off c, Value.slice Ae nd.es.length ce = .slice (some ⟨b, off, none⟩) nd.es.length c ∧ nd.es.length ≤ c ∧ b < w.heap.size ∧ 0 < nd.es.length ∧ ∀ k, k < nd.es.length → w1.cell? ⟨b, off + k * 2, none⟩ = some (.string (nm (entAt nd.es k).key)) ∧ w1.cell? ⟨b, off + k * 2 + 1, none⟩ = some (.int .i64 (entAt nd.es k).to) := by
            rcases HEN.out.cases.2.2 with ⟨A, c, hv, he⟩ | h
            · rw [he] at hqt; simp at hqt
            · exact h
          injection hv with hA _ hc
          subst hA
          obtain ⟨ec0, ec1⟩ := hcells q hqt
          have hbw := HBW.out
          have hwo1 := HWO.out.size
          have d0 : wr.cell? ⟨b, off + q * 2, none⟩ = some (.string (nm (entAt nd.es q).key)) := (HBE.out.cell (p := ⟨b, off + q * 2, none⟩) (by simp; omega)).trans ((HWO.out.cell (p := ⟨b, off + q * 2, none⟩) (by simp; omega)).trans ec0)
          have d1 : wr.cell? ⟨b, off + q * 2 + 1, none⟩ = some (.int .i64 (entAt nd.es q).to) := (HBE.out.cell (p := ⟨b, off + q * 2 + 1, none⟩) (by simp; omega)).trans ((HWO.out.cell (p := ⟨b, off + q * 2 + 1, none⟩) (by simp; omega)).trans ec1)
          have hqq : (q : Int) < (nd.es.length : Int) := by omega
          have hst1 := toC_succ nd.es id q hqt
          have hfit : (sz : Int) + (toC (nd.es.take q) id : Int) + 1 ≤ 9223372036854775807 := by omega
          by_cases he : (entAt nd.es q).to = id
          · have q1 : ((entAt nd.es q).to == id) = true := by simpa using he
            rw [if_pos he] at hst1
            have HS1 := Lib.hid hst1
            clear hst1 he ec0 ec1 hcells hc hcq
            generalize toC (nd.es.take q) id = s at *
            generalize (entAt nd.es q).to = y at *
            generalize nm (entAt nd.es q).key = x at *
            go_wp2
            go_roundw
            case rel => exact ⟨q + 1, by omega, by go_num, by rw [HS1.out]; go_num, HBE.out.alloc hws2 _⟩
            case measure => simp [intOf]; omega
          · have q1 : ((entAt nd.es q).to == id) = false := by simpa using he
            rw [if_neg he] at hst1
            have HS1 := Lib.hid hst1
            clear hst1 he ec0 ec1 hcells hc hcq
            generalize toC (nd.es.take q) id = s at *
            generalize (entAt nd.es q).to = y at *
            generalize nm (entAt nd.es q).key = x at *
            go_wp2
            go_roundw
            case rel => exact ⟨q + 1, by omega, by go_num, by rw [HS1.out]; rfl, HBE.out.alloc hws2 _⟩
            case measure => simp [intOf]; omega
        · have hqm : q = nd.es.length := by omega
          have HQ : Hid (toC (nd.es.take q) id = toC nd.es id) := Lib.hid (by rw [hqm]; exact HTK.out.symm)
          have hqd : ¬ (q : Int) < (nd.es.length : Int) := by omega
          clear hqm hqt hq hcq
          go_wp2
          go_roundw
          case rel => exact ⟨seen ++ [nd], cnt1, by rw [HE1.out, HQ.out]; go_num, HRG2.out.below HBE.out, HB2.out.trans (HBE.out.mono HBW2.out)⟩
          case measure => rw [(HRG2.out.below HBE.out).left, HRG.out.left]; exact HLT.out
end Go.Proofs.YtpicgkoclbpjpaaGreatDoor
end

section
namespace Go.Proofs.YtpicgkoclbpjpaaGreatDoor
open Go.RowKit Go.Sort Go.Lib
open PathM TreeM VtM
set_option linter.unusedVariables false

def pickP (ps : List (Nd × Value)) (x : Int) : Nd × Value := (ps.find? fun p => p.1.id == x).getD (zeroN, .slice none 0 0)
def encP (ps : List (Nd × Value)) (x : Int) : List Value := ndC ({ (pickP ps x).1 with id := x }, (pickP ps x).2)
theorem pick_mem {ps : List (Nd × Value)} (hn : (ps.map fun p => p.1.id).Nodup) {p : Nd × Value} (hp : p ∈ ps) : pickP ps p.1.id = p := by
  have : ps.find? (fun q => q.1.id == p.1.id) = some p := by
    induction ps with
    | nil => cases hp
    | cons a l ih =>
      rw [List.map_cons, List.nodup_cons] at hn
      rw [List.find?_cons]
      rcases List.mem_cons.1 hp with e | e
      · rw [← e]; simp
      · have hne : a.1.id ≠ p.1.id := fun h => hn.1 (h ▸ List.mem_map_of_mem (f := fun p : Nd × Value => p.1.id) e)
        rw [show (a.1.id == p.1.id) = false from by simpa using hne]
        exact ih hn.2 e
  unfold pickP; rw [this]; rfl
theorem enc_mem {ps : List (Nd × Value)} (hn : (ps.map fun p => p.1.id).Nodup) {p : Nd × Value} (hp : p ∈ ps) : encP ps p.1.id = ndC p := by
  unfold encP; rw [pick_mem hn hp]
theorem ltI (x y : Int) : ltOf (fun x y : Int => Lib.compareInt x y) x y = decide (x < y) := by
  unfold ltOf Lib.compareInt
  by_cases h1 : x < y
  · simp [h1]
  · by_cases h2 : y < x <;> simp [h1, h2]
theorem swoI : SWO (ltOf fun x y : Int => Lib.compareInt x y) where
  irrefl x := by rw [ltI]; simp
  trans x y z h1 h2 := by rw [ltI] at *; simp at *; omega
  ntrans x y z h1 h2 := by rw [ltI] at *; simp at *; omega
theorem grownBy_sortedK {α : Type} [Inhabited α] {w : World} {g n : Nat} {os : Array Obj} (enc : α → List Value) (k : Nat) (d : Array α) : w.grownBy (sortWorldK enc k w g 0 n d os) (some g) := by
  unfold sortWorldK putRowK
  refine ⟨rfl, rfl, rfl, by simp, fun k hk hne => ?_⟩
  rw [heap_grow_old _ _ (by simpa using hk)]
  have : g ≠ k := fun e => hne (by rw [e])
  simp [putRow, mapBlock, Sort.ahead, Array.getElem?_modify, this]

set_option maxRecDepth 100000 in
set_option maxHeartbeats 1000000 in
theorem closure59 (a0 b0 : Int) (a1 a2 a3 a4 b1 b2 b3 b4 : Int) (sa sb : ByteArray) (Aa Ab : Option Addr) (na ca nb cb : Nat) (W : World) :
    Calls Tryz.prog 59 #[.agg #[.int .i64 a0, .int .i64 a1, .int .i64 a2, .int .i64 a3, .int .i64 a4, .string sa, .slice Aa na ca], .agg #[.int .i64 b0, .int .i64 b1, .int .i64 b2, .int .i64 b3, .int .i64 b4, .string sb, .slice Ab nb cb]] W
      fun e w' => e = .returned (.int .i64 (Lib.compareInt a0 b0)) ∧ ∃ q os', w' = grow (W.drewN q) os' := by
  have hcon := fun W' => Tryz.cmp_Compare_int a0 b0 W'
  generalize Lib.compareInt a0 b0 = r at hcon ⊢
  go_enter Tryz.func59, Tryz.ntmps59
  go_wp2_with (go_at_call 60; refine (hcon _).mono ?_; rintro e w' ⟨rfl, rfl⟩)
  go_ret
  exact ⟨rfl, 0, _, by rw [alloc_eq_grow, alloc_eq_grow, grow_grow]; rfl⟩

theorem sorted_ids {l seen : List Nd} (hr : Rise l) (hp : seen.Perm l) : ((seen.map Nd.id).mergeSort fun x y => !(ltOf fun x y : Int => Lib.compareInt x y) y x) = l.map Nd.id := by
  have hle : (fun x y : Int => !(ltOf fun x y : Int => Lib.compareInt x y) y x) = fun x y => decide (x ≤ y) := by
    funext x y; rw [ltI]
    by_cases h : x ≤ y
    · simp [h]
    · have h2 : y < x := by omega
      simp [h, h2]
  rw [hle]
  have h1 : ((seen.map Nd.id).mergeSort fun x y => decide (x ≤ y)).Perm (l.map Nd.id) := (List.mergeSort_perm _ _).trans (hp.map _)
  have h2 : ((seen.map Nd.id).mergeSort fun x y => decide (x ≤ y)).Pairwise (fun x y => decide (x ≤ y) = true) := List.pairwise_mergeSort (by intro a b c; simp; omega) (by intro a b; simp; omega) _
  refine h1.eq_of_pairwise (le := fun x y : Int => x ≤ y) (fun a b _ _ h3 h4 => by omega) (h2.imp (by intro a b h; simpa using h)) ?_
  exact List.pairwise_map.2 (hr.imp (fun h => by omega))

theorem sort_nodes {W : World} {base g cap : Nat} {l seen : List Nd} (hr : Rise l) (hp : seen.Perm l) (hw : Rowed W base (.slice (some ⟨g, 0, none⟩) seen.length cap) seen) (hl : l.length ≤ 1000000)
    (hd : ∀ n ∈ l, n.data.length ≤ 140737488351232 ∧ n.es.length * 24 ≤ 140737488351232 ∧ ∀ x ∈ n.es, x.key.length ≤ 140737488351232 ∧ -9223372036854775808 ≤ x.to ∧ x.to ≤ 9223372036854775807) :
    Calls Tryz.prog 58 #[.slice (some ⟨g, 0, none⟩) seen.length cap, .func (.func 59) #[] #[]] W
      fun e w' => e = .returned (.tuple #[]) ∧ NodesIn w' w'.heap.size (.slice (some ⟨g, 0, none⟩) seen.length cap) l ∧ W.grownBy w' (some g) := by
  obtain ⟨ps, hps, h1, h2⟩ := hw
  have hids : ps.map (fun p => p.1.id) = seen.map Nd.id := by rw [← hps, List.map_map]; rfl
  have hnd : (ps.map fun p => p.1.id).Nodup := by
    rw [hids]
    exact ((hp.map Nd.id).nodup_iff).2 (List.Pairwise.imp (fun h => by omega) (List.pairwise_map.2 hr))
  have hlen : ps.length = seen.length := by rw [← hps]; simp
  have hgb : W.heap[g]? ≠ none := by
    rcases h1.2 with ⟨e, _⟩ | ⟨g', cap', cur, e, _, hb, _⟩
    · cases e
    · cases e; rw [hb]; simp
  have hg : g < W.heap.size := by
    by_cases h : g < W.heap.size
    · exact h
    · exact absurd (Array.getElem?_eq_none (by omega)) hgb
  let d : Array Int := (seen.map Nd.id).toArray
  have hds : d.size = seen.length := by simp [d]
  have hget : ∀ i (h : i < ps.length), d[i]! = ps[i].1.id := by
    intro i h
    have e : (seen.map Nd.id)[i]? = some ps[i].1.id := by rw [← hids]; simp [h]
    simp [d, e]
  have hH : HoldsK (encP ps) 7 W g 0 d := by
    intro j hj
    rw [size_flatK, hds] at hj
    have hi : j / 7 < ps.length := by omega
    have hm : ps[j / 7] ∈ ps := List.getElem_mem hi
    rw [get_flatK _ _ _ j (by rw [hds]; exact hj), hget _ hi, enc_mem hnd hm]
    have hc := nd_cells ps (j / 7) hi (j % 7) (by omega)
    have hjj : j / 7 * 7 + j % 7 = j := by omega
    rw [hjj] at hc
    have hl7 : (ndC ps[j / 7]).length = 7 := rfl
    have hx : (ndC ps[j / 7])[j % 7]? = some ((ndC ps[j / 7])[j % 7]!) := by
      rw [List.getElem?_eq_getElem (by omega), getElem!_pos _ _ (by omega)]
    rw [Nat.zero_add]
    exact ⟨row_cells h1 _ _ (hc.trans hx), h1.frozenAt _⟩
  have hshape : ∀ x, ∃ A n c, (pickP ps x).2 = .slice A n c := by
    intro x
    unfold pickP
    cases hf : ps.find? (fun p => p.1.id == x) with
    | none => exact ⟨none, 0, 0, rfl⟩
    | some p =>
      obtain ⟨A, c, h⟩ := ownsRow_len3 (h2 p (List.mem_of_find?_eq_some hf))
      exact ⟨A, _, c, h⟩
  have hS := Tryz.slices_SortFunc (α := Int) 7 Tryz.isAgg64 Tryz.sizeOf64 (encP ps) (fun _ => rfl) (fun x v hv => by
      obtain ⟨A, n, c, he⟩ := hshape x
      unfold encP ndC at hv
      simp only [he] at hv
      exact one7 _ _ _ _ _ _ _ _ _ v hv) (fun x y => Lib.compareInt x y) swoI 59 #[] g 0 cap d W (enters_of Tryz.func59 (by kernel_rfl) rfl) (fun m os dk _ x y => by
      obtain ⟨A, n, c, he⟩ := hshape x
      obtain ⟨A2, n2, c2, he2⟩ := hshape y
      have := closure59 x y (pickP ps x).1.kind (pickP ps x).1.mode (pickP ps x).1.owner (pickP ps x).1.time (pickP ps y).1.kind (pickP ps y).1.mode (pickP ps y).1.owner (pickP ps y).1.time (nm (pickP ps x).1.data) (nm (pickP ps y).1.data) A A2 n c n2 c2 (sortWorldK (encP ps) 7 W g 0 m dk os)
      unfold encP ndC at this ⊢
      simp only [he, he2] at this ⊢
      exact this) hH hg (by rw [hds, hp.length_eq]; omega) (fun x y h1 h2 => by rw [ltI] at h1 h2; simp at h1 h2; omega)
  rw [hds] at hS
  refine hS.mono ?_
  rintro e w' ⟨rfl, n, os, rfl⟩
  have hgr := grownBy_sortedK (w := W) (g := g) (n := n) (os := os) (encP ps) 7 (d.toList.mergeSort fun x y => !(ltOf fun x y : Int => Lib.compareInt x y) y x).toArray
  have hsd : (d.toList.mergeSort fun x y => !(ltOf fun x y : Int => Lib.compareInt x y) y x) = l.map Nd.id := sorted_ids hr hp
  rw [hsd] at hgr ⊢
  have hHK : HoldsK (encP ps) 7 (sortWorldK (encP ps) 7 W g 0 n (l.map Nd.id).toArray os) g 0 (l.map Nd.id).toArray := by
    unfold sortWorldK
    refine holdsK_grow _ _ _ _ _ _ _ (by unfold putRowK; simpa using hg) ?_
    exact holdsK_putRowK _ _ (Sort.ahead W n) g 0 d _ hH (by simp [hds, hp.length_eq])
  generalize sortWorldK (encP ps) 7 W g 0 n (l.map Nd.id).toArray os = W' at hgr hHK ⊢
  refine ⟨rfl, ⟨_, cap, by rw [hp.length_eq], ?_, by omega, fun _ => ⟨g, 0, rfl, Nat.lt_of_lt_of_le hg hgr.size, fun i hi => ?_⟩⟩, hgr⟩
  · rcases h1.2 with ⟨e, _⟩ | ⟨g', cap', cur, e, _, _, hc, _⟩
    · cases e
    · injection e with _ _ e3; rw [e3, ← hp.length_eq]; exact hc
  · have hnm : ndAt l i ∈ l := ndAt_mem hi
    have hns := hp.mem_iff.2 hnm
    rw [← hps] at hns
    obtain ⟨p, hpm, hpe⟩ := List.mem_map.1 hns
    have hdi : (l.map Nd.id).toArray[i]! = (ndAt l i).id := by
      have e : (l.map Nd.id)[i]? = some (ndAt l i).id := by rw [List.getElem?_map, ndAt_get hi]; rfl
      simp [e]
    have hcell : ∀ c, c < 7 → W'.cell? ⟨g, 0 + i * 7 + c, none⟩ = some (ndC p)[c]! := by
      intro c hc
      have := (hHK.cell (i := i) (c := c) (by simpa using hi) hc).1
      rw [hdi, ← hpe, enc_mem hnd hpm] at this
      exact this
    have hEr := h2 p hpm
    obtain ⟨A, c, hv⟩ := ownsRow_len3 hEr
    have hap := rows_apart (by decide : 75 ≠ 64) hEr h1
    have hE' := hEr.kept hgr (hap.imp id (fun h => by simpa [Value.ownBlock] using h))
    obtain ⟨d1, d2, d3⟩ := hd _ hnm
    rw [← hpe] at d1 d2 d3 ⊢
    exact ⟨hcell 0 (by decide), hcell 1 (by decide), hcell 2 (by decide), hcell 3 (by decide), hcell 4 (by decide), hcell 5 (by decide), d1, p.2, hcell 6 (by decide), ents_of_row hE' d2 d3⟩
end Go.Proofs.YtpicgkoclbpjpaaGreatDoor
end

section
namespace Go.Proofs.YtpicgkoclbpjpaaGreatDoor
open Go.RowKit Go.Sort Go.Lib
open PathM TreeM VtM
set_option linter.unusedVariables false

theorem NodesIn.keepBut {w w' : World} {B : Nat} {v : Value} {l : List Nd} (h : NodesIn w B v l) (S : Nat → Prop) (hn : ∀ b, S b → ∀ (i : Nat) (s : ByteArray), w.cell? ⟨b, i, none⟩ ≠ some (Value.string s)) (hk : ∀ b, b < B → ¬ S b → w'.heap[b]? = w.heap[b]?) : NodesIn w' B v l := by
  obtain ⟨A, c, h1, h2, h3, h4⟩ := h
  refine ⟨A, c, h1, h2, h3, fun hne => ?_⟩
  obtain ⟨b, off, h5, h6, h7⟩ := h4 hne
  have hs : ¬ S b := fun hs => hn b hs _ _ (h7 0 (List.length_pos_iff.2 hne)).2.2.2.2.2.1
  have hb := hk b h6 hs
  have hc : ∀ i, w'.cell? ⟨b, i, none⟩ = w.cell? ⟨b, i, none⟩ := fun i => World.cell?_of_block hb
  refine ⟨b, off, h5, h6, fun i hi => ?_⟩
  obtain ⟨g0, g1, g2, g3, g4, g5, g6, ev, g7, g8⟩ := h7 i hi
  exact ⟨(hc _).trans g0, (hc _).trans g1, (hc _).trans g2, (hc _).trans g3, (hc _).trans g4, (hc _).trans g5, g6, ev, (hc _).trans g7, g8.keepBut S hn hk⟩
theorem four_set {W : World} {b : Nat} {a0 a1 a2 a3 : Value} {t : TypeId} (h : W.heap[b]? = some (.cells #[a0, a1, a2, a3] t (0, 0))) (v0 v1 v2 v3 : Value) :
    ((((W.setCell ⟨b, 0, none⟩ v0).setCell ⟨b, 1, none⟩ v1).setCell ⟨b, 2, none⟩ v2).setCell ⟨b, 3, none⟩ v3).heap[b]? = some (.cells #[v0, v1, v2, v3] t (0, 0)) := by
  have h0 := set_blk (j := 0) h v0
  simp only [List.setIfInBounds_toArray, List.set] at h0
  have h1 := set_blk (j := 1) h0 v1
  simp only [List.setIfInBounds_toArray, List.set] at h1
  have h2 := set_blk (j := 2) h1 v2
  simp only [List.setIfInBounds_toArray, List.set] at h2
  have h3 := set_blk (j := 3) h2 v3
  simp only [List.setIfInBounds_toArray, List.set] at h3
  exact h3
theorem four_below {B : Nat} {w W : World} {b : Nat} (h : Below B w W) (hb : B ≤ b) (v0 v1 v2 v3 : Value) :
    Below B w ((((W.setCell ⟨b, 0, none⟩ v0).setCell ⟨b, 1, none⟩ v1).setCell ⟨b, 2, none⟩ v2).setCell ⟨b, 3, none⟩ v3) :=
  (((h.setCell (p := ⟨b, 0, none⟩) hb _).setCell (p := ⟨b, 1, none⟩) hb _).setCell (p := ⟨b, 2, none⟩) hb _).setCell (p := ⟨b, 3, none⟩) hb _
theorem four_other {W : World} {b k : Nat} (h : k ≠ b) (v0 v1 v2 v3 : Value) : ((((W.setCell ⟨b, 0, none⟩ v0).setCell ⟨b, 1, none⟩ v1).setCell ⟨b, 2, none⟩ v2).setCell ⟨b, 3, none⟩ v3).heap[k]? = W.heap[k]? := by
  rw [Below.heap_setCell _ _ _ _ h, Below.heap_setCell _ _ _ _ h, Below.heap_setCell _ _ _ _ h, Below.heap_setCell _ _ _ _ h]
theorem tree_noStr {w : World} {b : Nat} {A : Option Addr} {n c : Nat} {x y z : Int} {t : TypeId} (h : w.heap[b]? = some (.cells #[.slice A n c, .int .i64 x, .int .i64 y, .int .i64 z] t (0, 0))) : ∀ (i : Nat) (s : ByteArray), w.cell? ⟨b, i, none⟩ ≠ some (Value.string s) := by
  refine cells_noStr h fun i s e => ?_
  match i, e with
  | 0, e => simp at e
  | 1, e => simp at e
  | 2, e => simp at e
  | 3, e => simp at e
  | n + 4, e => simp at e

theorem cellsL2 (W : World) (n : Nat) (cs : List Value) (t : TypeId) (hn : n = W.heap.size) : ∀ (j : Nat) (u : Value), cs[j]? = some u → (W.alloc (.cells cs.toArray t)).cell? ((⟨n, 0, none⟩ : Addr).add j) = some u := by subst hn; exact cellsL W cs t
set_option maxRecDepth 100000 in
set_option maxHeartbeats 8000000 in
theorem tree5_any (db mb : Nat) (t : Tr) (ev : Int → Value) (w : World) (h : DiskIn w db mb t ev) (hr : Rise t.nodes) (hlen : t.nodes.length ≤ 1000000) (hpos : 0 < t.nodes.length) (hd : ∀ nd ∈ t.nodes, nd.data.length ≤ 4096) :
    Calls Tryz.prog 23 #[.pointer (some ⟨db, 0, none⟩)] w (TreePost t w) := by
  unfold TreePost
  obtain ⟨i0, hi, hz0, hz1, hz2⟩ := info_parts info37
  have HI := Lib.hid hi; have HZ0 := Lib.hid hz0; have HZ1 := Lib.hid hz1; have HZ2 := Lib.hid hz2
  have hb1 := (Below.refl w.heap.size w).alloc (Nat.le_refl _) (.cells #[.slice none 0 0, .int .i64 0, .int .i64 0, .int .i64 0] 26)
  have c0 := (h.below hb1).c0
  have c1 := (h.below hb1).c1
  have c2 := (h.below hb1).c2
  have c3 := (h.below hb1).c3
  have HD := Lib.hid h; have HR := Lib.hid hr; have HDA := Lib.hid hd; have HB1 := Lib.hid hb1
  have RB := heap_alloc_new w (.cells #[.slice none 0 0, .int .i64 0, .int .i64 0, .int .i64 0] 26)
  have hdl := blk_lt h.disk
  have hdl1 := blk_lt (h.below hb1).disk
  have hml := h.map.lt
  clear h hb1 hi hz0 hz1 hz2
  go_enter Tryz.func23, Tryz.ntmps23
  go_wp2_with (go_at_call 56; refine (dnone_any db mb _ c0).mono ?_; rintro e w' ⟨rfl, rfl⟩)
  generalize w.alloc (.cells #[.slice none 0 0, .int .i64 0, .int .i64 0, .int .i64 0] 26) = W1 at *
  go_region
  have TB : (W1.alloc (.cells #[.slice none 0 0, .int .i64 t.last, .int .i64 t.rn, .int .i64 t.rb] 26)).drew.heap[W1.heap.size]? = _ := heap_alloc_new W1 _
  have RB2 : (W1.alloc (.cells #[.slice none 0 0, .int .i64 t.last, .int .i64 t.rn, .int .i64 t.rb] 26)).drew.heap[w.heap.size]? = _ := (heap_alloc_old W1 _ (blk_lt RB)).trans RB
  have hb2 := (HB1.out.alloc HB1.out.size (.cells #[.slice none 0 0, .int .i64 t.last, .int .i64 t.rn, .int .i64 t.rb] 26)).drew
  have hs2 : (W1.alloc (.cells #[.slice none 0 0, .int .i64 t.last, .int .i64 t.rn, .int .i64 t.rb] 26)).drew.heap.size = W1.heap.size + 1 := by simp
  have htb := blk_lt RB
  generalize (W1.alloc (.cells #[.slice none 0 0, .int .i64 t.last, .int .i64 t.rn, .int .i64 t.rb] 26)).drew = W2 at *
  generalize W1.heap.size = tb at *
  clear RB HB1 c0 c1 c2 c3 hdl1
  have HTB := Lib.hid TB; have HRB := Lib.hid RB2; have HB2 := Lib.hid hb2; have HS2 := Lib.hid hs2
  have c0 := (HD.out.below hb2).c0
  clear TB RB2 hb2 hs2
  go_wp2_with (first | (at_range; refine wpList_range_nodes rfl _ rfl mb t.nodes ev hr rfl (HD.out.below HB2.out).map ?_; intro w0 hrg0 hg0 hs0) | go_in)
  go_frame
  rw [HS2.out] at hrg0 hs0 ⊢
  have HG0 := Lib.hid hg0
  clear hg0
  go_loopw [5] (fun _ wr => ∃ (seen : List Nd) (cnt : Nat) (nv : Value), wr.heap[tb]? = some (.cells #[nv, .int .i64 t.last, .int .i64 t.rn, .int .i64 t.rb] 26 (0, 0)) ∧ wr.heap[w.heap.size]? = some (.cells #[.slice none 0 0, .int .i64 0, .int .i64 0, .int .i64 0] 26 (0, 0)) ∧ Rowed wr (tb + 2) nv seen ∧ RangeN wr mb (tb + 1) t.nodes ev seen cnt ∧ Below w.heap.size w wr ∧ tb + 2 ≤ wr.heap.size) (fun _ wr => wr.rangeLeft mb (tb + 1))
  case atStart =>
    have hbg : Below W2.heap.size W2 w0 := ⟨HG0.out.os, HG0.out.tape, HG0.out.output, HG0.out.size, fun k hk => HG0.out.block k hk (by simp)⟩
    exact ⟨[], _, .slice none 0 0, (hbg.block tb (blk_lt HTB.out)).trans HTB.out, (hbg.block _ (blk_lt HRB.out)).trans HRB.out, Rowed.nil _ _, hrg0, HB2.out.trans (hbg.mono HB2.out.size), by rw [hs0]; exact Nat.le_refl _⟩
  case round =>
    obtain ⟨seen, cnt, nv, htb2, hrb2, hrow, hrg, hb, hsz⟩ := hrel
    have HTB2 := Lib.hid htb2; have HRB2 := Lib.hid hrb2; have HROW := Lib.hid hrow; have HRG := Lib.hid hrg; have HB := Lib.hid hb; have HSZ := Lib.hid hsz
    clear htb2 hrb2 hrow hrg hb hsz
    go_wp2_with (first | (at_next; refine wpList_next_nodes rfl _ rfl mb (tb + 1) t.nodes ev HR.out seen cnt rfl HRG.out ?_ ?_) | go_in)
    · intro hp
      have hsl : 0 < seen.length := by rw [hp.length_eq]; exact hpos
      have hsl2 := hp.length_eq
      obtain ⟨g, cap, hnv, hge⟩ : ∃ g cap, nv = .slice (some ⟨g, 0, none⟩) seen.length cap ∧ tb + 2 ≤ g := by
        obtain ⟨ps, hps, h1, h2⟩ := HROW.out
        rcases h1.2 with ⟨_, h⟩ | ⟨g, cap, cur, hv, hb, _⟩
        · omega
        · exact ⟨g, cap, hv, hb⟩
      subst hnv
      have hbd : ∀ n ∈ t.nodes, n.data.length ≤ 140737488351232 ∧ n.es.length * 24 ≤ 140737488351232 ∧ ∀ x ∈ n.es, x.key.length ≤ 140737488351232 ∧ -9223372036854775808 ≤ x.to ∧ x.to ≤ 9223372036854775807 := fun n hn => ⟨Nat.le_trans (HDA.out n hn) (by omega), (HD.out.ents n hn).bounds.1, (HD.out.ents n hn).bounds.2⟩
      have HSF := Lib.hid (sort_nodes HR.out hp HROW.out hlen hbd)
      have y0 := cell_blk HTB2.out 0
      simp at y0
      clear hp hbd hsl2
      go_wp2_with (go_at_call 58; refine HSF.out.mono ?_; rintro e w3 ⟨rfl, hN3, hg3⟩; have TB3 := (hg3.block tb (blk_lt HTB2.out) (by simp; omega)).trans HTB2.out; have RB3 := (hg3.block w.heap.size (blk_lt HRB2.out) (by simp; omega)).trans HRB2.out; have hb3 : Below w.heap.size w w3 := HB.out.grown hg3 HB.out.size (fun j hj => by cases hj; omega); have a0 := cell_blk TB3 0; have a1 := cell_blk TB3 1; have a2 := cell_blk TB3 2; have a3 := cell_blk TB3 3; simp at a0 a1 a2 a3; have q0 := cell_blk RB3 0; have q1 := cell_blk RB3 1; have q2 := cell_blk RB3 2; have q3 := cell_blk RB3 3; simp at q0 q1 q2 q3; have e0 := froz_blk RB3 0; have e1 := froz_blk RB3 1; have e2 := froz_blk RB3 2; have e3 := froz_blk RB3 3; have HRB3 := Lib.hid RB3; have HN3 := Lib.hid hN3; have HB3 := Lib.hid hb3; clear RB3 TB3 hg3 hN3 hb3)
      refine bodyPost_ret (results_cell_row rfl _ _ _ 26 _ (0, 0) _ rfl (four_set HRB3.out _ _ _ _) Tryz.underlying26 rfl (by kernel_rfl)) rfl ?_
      refine ⟨_, rfl, ?_, four_below HB3.out (Nat.le_refl _) _ _ _ _⟩
      exact (HN3.out.keepBut (fun k => k = w.heap.size) (fun b hb => by rw [hb]; exact tree_noStr HRB3.out) (fun b hb hs => four_other hs _ _ _ _)).more (by simp)
    · intro nd w1 cnt1 hnd hns hrg1 hlt hg1 hs1 hen
      have hE := HD.out.ents nd hnd
      have hm6 := HDA.out nd hnd
      have hseen := HRG.out.len HR.out
      obtain ⟨Ae, ce, hev, _⟩ := ents_len hE
      rw [hev] at hen hE ⊢
      unfold ndV at hen ⊢
      have hb1 : Below w.heap.size w w1 := HB.out.grown hg1 HB.out.size (fun j hj => by cases hj; omega)
      have TB1 := (hg1.block tb (blk_lt HTB2.out) (by simp)).trans HTB2.out
      have RB1 := (hg1.block w.heap.size (blk_lt HRB2.out) (by simp; omega)).trans HRB2.out
      obtain ⟨ps, hps, hr1, hr2⟩ := HROW.out
      have hit : ∀ {e : TypeId} {size k : Nat} {u : Value} {xs : List Value}, wr.ownsRow (tb + 2) e size u k xs → w1.ownsRow (tb + 2) e size u k xs := fun hu => row_grown hu hg1 (fun j hj he => by cases hj; have := (hu.lt _ he).1; omega)
      have HR1 := Lib.hid (hit hr1)
      have HR2 : Hid (∀ p ∈ ps, w1.ownsRow (tb + 2) 75 2 p.2 p.1.es.length (p.1.es.flatMap entC)) := Lib.hid fun p hp => hit (hr2 p hp)
      have HPS := Lib.hid hps
      have HPL : Hid (ps.length = seen.length) := Lib.hid (by rw [← hps]; simp)
      obtain ⟨An, cn, rfl⟩ := ownsRow_len3 hr1
      obtain ⟨i, hi⟩ : ∃ i, seen.length = i := ⟨_, rfl⟩
      rw [hi] at HR1 HPL TB1 hseen
      have hsz1 : tb + 2 ≤ w1.heap.size := by have := HSZ.out; omega
      have hbn := heap_alloc_new w1 (.cells #[.int .i64 nd.id, .int .i64 nd.kind, .int .i64 nd.mode, .int .i64 nd.owner, .int .i64 nd.time, .string (nm nd.data), .slice Ae nd.es.length ce] 64)
      have hbb := (Below.refl w1.heap.size w1).alloc (Nat.le_refl _) (.cells #[.int .i64 nd.id, .int .i64 nd.kind, .int .i64 nd.mode, .int .i64 nd.owner, .int .i64 nd.time, .string (nm nd.data), .slice Ae nd.es.length ce] 64)
      have HEN := Lib.hid ((hE.below (hb1.trans (hbb.mono hb1.size))).more (Nat.le_trans hb1.size hbb.size))
      have HRG1 := Lib.hid hrg1; have HBW := Lib.hid hb1; have HLT := Lib.hid hlt; have HTB1 := Lib.hid TB1; have HRB1 := Lib.hid RB1; have HBN := Lib.hid hbn; have HBB := Lib.hid hbb; have HSI := Lib.hid hi
      have hti := HSZ.out
      clear hrg1 hb1 hlt hg1 hs1 hnd hns hev hE hr1 hr2 hit hps TB1 RB1 hbn hbb hi hm6
      have htn : ¬ tb = w1.heap.size := by omega
      go_wp2_with (first | (go_at_call 57; go_loud (refine (clone_any _ _ _ HEN.out).mono ?_; rintro e w4 ⟨v4, rfl, hown4, hb4⟩; have RB4 := (hb4.block w1.heap.size (by simp)).trans HBN.out; have f6 := froz_blk RB4 6; have x6 := cell_blk RB4 6; simp at x6; have HB4 := Lib.hid (HBB.out.trans (hb4.mono (by simp))); have HO4 := Lib.hid (ownsRow_base (b' := w1.heap.size) hown4 (by simp)); obtain ⟨ve, vce, rfl⟩ := ownsRow_len3 hown4; have HO4n := Lib.hid (ownsRow_base (b' := w1.heap.size + 1) hown4 (by simp)); have HRB4 := Lib.hid RB4; have s0 := cell_blk RB4 0; have s1 := cell_blk RB4 1; have s2 := cell_blk RB4 2; have s3 := cell_blk RB4 3; have s4 := cell_blk RB4 4; have s5 := cell_blk RB4 5; simp at s0 s1 s2 s3 s4 s5; have TB4 := (HB4.out.block tb (by omega)).trans HTB1.out; have y0 := cell_blk TB4 0; have y9 := froz_blk TB4 0; simp at y0; have HTB4 := Lib.hid TB4; have HBM := Lib.hid (HB4.out.setCell (p := ⟨w1.heap.size, 6, none⟩) (Nat.le_refl _) (.slice ve nd.es.length vce)); have HOM := Lib.hid (row_grown HO4n.out (grownBy_set w4 ⟨w1.heap.size, 6, none⟩ (.slice ve nd.es.length vce)) (fun j hj he => by cases hj; exact absurd (HO4n.out.lt _ he).1 (by simp))); have hl4 : w1.heap.size < w4.heap.size := blk_lt RB4; clear RB4 hown4 hb4 TB4)) | (at_builtin; go_loud (refine wpList_append_own _ rfl _ _ 22 rfl (tb + 2) 64 i0 (.agg #[.int .i64 0, .int .i64 0, .int .i64 0, .int .i64 0, .int .i64 0, .string ByteArray.empty, .slice none 0 0]) 7 80 Tryz.underlying22 HI.out HZ0.out HZ1.out HZ2.out rfl (by decide) _ _ _ rfl ((row_below HR1.out HBM.out).alloc _) ⟨w4.heap.size, 0, none⟩ 1 1 [.int .i64 nd.id, .int .i64 nd.kind, .int .i64 nd.mode, .int .i64 nd.owner, .int .i64 nd.time, .string (nm nd.data), .slice ve nd.es.length vce] rfl rfl (cellsL2 _ _ _ _ (by simp)) (one7 _ _ _ _ _ _ _ _ _) (maxLen_ok (by omega)) (by omega) (by simp; omega) ?_; intro v7 w7 hown7 hg7 _; obtain ⟨g7, c7, rfl⟩ := ownsRow_succ hown7; have TB7 := (hg7.block tb (by simp; omega) (fun e => by have := (HR1.out.lt _ e.symm).1; omega)).trans ((heap_alloc_old _ _ (by simp; omega)).trans ((Below.heap_setCell _ _ _ _ (by simp; omega)).trans HTB4.out)); have z0 := cell_blk TB7 0; have z9 := froz_blk TB7 0; simp at z0; have HTB7 := Lib.hid TB7; have HO7 := Lib.hid hown7; have HG7 := Lib.hid hg7; clear hown7 hg7 TB7)))
      have hown : ∀ j, (Value.slice An i cn).ownBlock = some j → tb + 2 ≤ j := own_base HR1.out
      have hmt : mb < tb + 2 := by have := hml; omega
      have HRX : Hid (RangeN (w7.setCell ⟨tb, 0, none⟩ (.slice (some ⟨g7, 0, none⟩) (i + 1) c7)) mb (tb + 1) t.nodes ev (seen ++ [nd]) cnt1) := by
        have r1 := (HRG1.out.below HBM.out).below ((Below.refl _ _).alloc (Nat.le_refl _) (.cells #[.int .i64 nd.id, .int .i64 nd.kind, .int .i64 nd.mode, .int .i64 nd.owner, .int .i64 nd.time, .string (nm nd.data), .slice ve nd.es.length vce] 64))
        have r2 := r1.kept HG7.out (fun e => by have := hown _ e.symm; omega) (fun e => by have := hown _ e.symm; omega)
        exact r2.kept (grownBy_set w7 ⟨tb, 0, none⟩ _) (fun e => by have := Option.some.inj e; simp at this; omega) (fun e => by have := Option.some.inj e; simp at this)
      have HBX : Hid (Below w.heap.size w (w7.setCell ⟨tb, 0, none⟩ (.slice (some ⟨g7, 0, none⟩) (i + 1) c7))) := by
        have b1 := (HBW.out.trans (HBM.out.mono HBW.out.size)).alloc (HBW.out.trans (HBM.out.mono HBW.out.size)).size (.cells #[.int .i64 nd.id, .int .i64 nd.kind, .int .i64 nd.mode, .int .i64 nd.owner, .int .i64 nd.time, .string (nm nd.data), .slice ve nd.es.length vce] 64)
        exact (b1.grown HG7.out b1.size (fun j hj => by have := hown j hj; omega)).setCell (by simp; omega) _
      go_roundw
      case rel =>
        refine ⟨seen ++ [nd], cnt1, _, by simpa using set_blk (j := 0) HTB7.out (.slice (some ⟨g7, 0, none⟩) (i + 1) c7), ?_, ?_, HRX.out, HBX.out, ?_⟩
        · refine (Below.heap_setCell _ _ _ _ (by simp; omega)).trans ((HG7.out.block w.heap.size (by simp; omega) (fun e => by have := hown _ e.symm; omega)).trans ((heap_alloc_old _ _ (by simp; omega)).trans ((Below.heap_setCell _ _ _ _ (by simp; omega)).trans ((HB4.out.block w.heap.size (by omega)).trans HRB1.out))))
        · rw [← HPS.out]
          exact Rowed.next (v := .slice ve nd.es.length vce) HR1.out HR2.out HPL.out (by omega) hsz1 HBM.out (ownsRow_base HOM.out (by omega)) HG7.out HO7.out
        · have := HG7.out.size; simp at this ⊢; omega
      case measure => rw [HRX.out.left, HRG.out.left]; exact HLT.out
end Go.Proofs.YtpicgkoclbpjpaaGreatDoor
end

section
namespace Go.Proofs.YtpicgkoclbpjpaaGreatDoor
open Go.RowKit Go.Sort Go.Lib
open PathM TreeM VtM
set_option linter.unusedVariables false

theorem fieldT0 (a0 a1 a2 a3 : Value) (W : World) : (Instr.field 26 (.agg #[a0, a1, a2, a3]) 0).run Tryz.prog W = .ok a0 W := by kernel_rfl
theorem method_Tree (a : Addr) (w : World) : (method 345 31 (.pointer (some a)) "Tree").run Tryz.prog w = .ok (23, .pointer (some a)) w := by kernel_rfl
theorem assert_teller (a : Addr) (W : World) : (Instr.typeAssert (.iface 31 (.pointer (some a))) 80 179 true).run Tryz.prog W = .ok (.tuple #[.iface 31 (.pointer (some a)), .bool true]) W := by kernel_rfl
set_option maxRecDepth 100000 in
set_option maxHeartbeats 2000000 in
theorem made_any (db mb : Nat) (t : Tr) (ev : Int → Value) (w : World) (h : DiskIn w db mb t ev) (hr : Rise t.nodes) (hlen : t.nodes.length ≤ 1000000) (hpos : 0 < t.nodes.length) (hd : ∀ nd ∈ t.nodes, nd.data.length ≤ 4096) :
    Calls Tryz.prog 94 #[.iface 31 (.pointer (some ⟨db, 0, none⟩))] w fun e w' => e = .returned (.bool true) ∧ Below w.heap.size w w' := by
  have hT := tree5_any db mb t ev w h hr hlen hpos hd
  unfold TreePost at hT
  have HT := Lib.hid hT
  have hf := fieldT0
  have ha := assert_teller
  have hm := method_Tree
  have hpi : (0 : Int) < (t.nodes.length : Int) := by omega
  clear h hT
  unfold trV at HT
  generalize t.last = la at *
  generalize t.rn = rn at *
  generalize t.rb = rb at *
  go_enter Tryz.func94, Tryz.ntmps94
  go_wp2_with (go_at_call 23; refine HT.out.mono ?_; rintro e w1 ⟨nv, rfl, hN, hb⟩; obtain ⟨A, c, rfl⟩ := nodes_len hN; have HB := Lib.hid hb; clear hN hb)
  go_ret
  exact ⟨rfl, HB.out⟩

/-- The clock, within its bounds. -/
def ckI (c : Int) : Int := min (max c 0) 1099511627776
set_option maxRecDepth 100000 in
set_option maxHeartbeats 2000000 in
theorem new5_any (db mb : Nat) (t : Tr) (ev : Int → Value) (ck : Int) (w : World) (h : DiskIn w db mb t ev) (hr : Rise t.nodes) (hlen : t.nodes.length ≤ 1000000) (hpos : 0 < t.nodes.length) (hd : ∀ nd ∈ t.nodes, nd.data.length ≤ 4096) :
    Calls Tryz.prog 76 #[.iface 31 (.pointer (some ⟨db, 0, none⟩)), .int .i64 ck] w fun e w' => ∃ fb, e = .returned (.pointer (some ⟨fb, 0, none⟩)) ∧ w.heap.size ≤ fb ∧ Live w' fb db mb ⟨t, ckI ck⟩ ∧ Below w.heap.size w w' := by
  have HM := Lib.hid (made_any db mb t ev w h hr hlen hpos hd)
  have HD := Lib.hid h
  clear h
  go_enter Tryz.func76, Tryz.ntmps76
  go_wp2_with (go_at_call 94; refine HM.out.mono ?_; rintro e w1 ⟨rfl, hb⟩; have HB := Lib.hid hb; clear hb)
  go_ret
  have hb := (Below.refl w1.heap.size w1).alloc (Nat.le_refl _) (.cells #[.iface 31 (.pointer (some ⟨db, 0, none⟩)), .int .i64 (ckI ck)] 82)
  exact ⟨_, rfl, HB.out.size, ⟨heap_alloc_new w1 _, ⟨ev, (HD.out.below HB.out).below hb⟩, ⟨by show 0 ≤ ckI ck; unfold ckI; omega, by show ckI ck ≤ _; unfold ckI; omega⟩⟩, HB.out.trans (hb.mono HB.out.size)⟩

theorem putN_last {n : Nd} : ∀ {l : List Nd}, Rise (l ++ [n]) → putN n l = l ++ [n]
  | [], _ => rfl
  | x :: xs, h => by
    obtain ⟨h1, h2⟩ := rise_cons h
    have := h1 n (by simp)
    unfold putN
    rw [if_neg (by omega), if_neg (by omega), putN_last h2]; rfl
theorem take_next {l : List Nd} {k : Nat} (h : k < l.length) : l.take (k + 1) = l.take k ++ [ndAt l k] := by rw [List.take_add_one, ndAt_get h]; rfl
theorem rise_take {l : List Nd} (h : Rise l) (k : Nat) : Rise (l.take k) := List.Pairwise.sublist (List.take_sublist _ _) h
theorem rise_of_rising {l : List Nd} (h : Rising l) : Rise l := List.pairwise_iff_getElem.2 fun i j hi hj hij => by
  have := h i j hij hj
  have e1 : ndAt l i = l[i] := by simp [ndAt, hi]
  have e2 : ndAt l j = l[j] := by simp [ndAt, hj]
  rwa [e1, e2] at this
theorem rising_of_rise {l : List Nd} (h : Rise l) : Rising l := fun i j hij hj => by
  have := List.pairwise_iff_getElem.1 h i j (by omega) hj hij
  have e1 : ndAt l i = l[i] := by simp [ndAt, show i < l.length by omega]
  have e2 : ndAt l j = l[j] := by simp [ndAt, hj]
  rwa [e1, e2]

def NewDiskPost (t : Tr) (w : World) (e : Ending) (w' : World) : Prop := ∃ db mb ev, e = .returned (.tuple #[.pointer (some ⟨db, 0, none⟩), .int .i64 0]) ∧ w.heap.size ≤ db ∧ w.heap.size ≤ mb ∧ DiskIn w' db mb t ev ∧ Below w.heap.size w w'
set_option maxRecDepth 100000 in
set_option maxHeartbeats 8000000 in
theorem newDisk_any (nv : Value) (t : Tr) (w : World) (hN : NodesIn w w.heap.size nv t.nodes) (hc : checkB t = true) (hids : ∀ nd ∈ t.nodes, i64 nd.id) (hel : ∀ nd ∈ t.nodes, nd.es.length ≤ 100000000) :
    Calls Tryz.prog 75 #[trV nv t] w (NewDiskPost t w) := by
  obtain ⟨hri, hn, hpos, -⟩ := check_facts hc
  have hRise := rise_of_rising hri
  have hck : checkI t = 0 := by unfold checkI; rw [hc]; rfl
  have hk := fun W (hW : Below w.heap.size w W) => check_any nv t w.heap.size W (hN.below hW) hW.size
  rw [hck] at hk
  obtain ⟨hlen, ⟨A, c, rfl, h0⟩ | ⟨b, off, c, rfl, hcap, hbw, _, hcells⟩⟩ := hN.cases
  · rw [h0] at hpos; simp at hpos
  have HK := Lib.hid hk; have HR := Lib.hid hRise; have HC := Lib.hid hcells; have HIDS := Lib.hid hids; have HEL := Lib.hid hel
  clear hk hN hcells hc hck hri hids hel
  unfold trV at *
  have hmm := @run_makeMap Tryz.prog
  have hbx := (Below.refl w.heap.size w).alloc (Nat.le_refl _) (.cells #[.slice (some ⟨b, off, none⟩) t.nodes.length c, .int .i64 t.last, .int .i64 t.rn, .int .i64 t.rb] 26)
  have HBX := Lib.hid hbx
  have TB := heap_alloc_new w (.cells #[.slice (some ⟨b, off, none⟩) t.nodes.length c, .int .i64 t.last, .int .i64 t.rn, .int .i64 t.rb] 26)
  have HTB := Lib.hid TB
  have HLEN : Hid (t.nodes.length < 1000000) := Lib.hid (by omega)
  clear hbx TB
  go_enter Tryz.func75, Tryz.ntmps75
  go_wp2_with (go_at_call 93; refine (HK.out _ HBX.out).mono ?_; rintro e w1 ⟨rfl, hb1⟩; have TB1 := (hb1.block w.heap.size (by simp)).trans HTB.out; have a0 := cell_blk TB1 0; have a1 := cell_blk TB1 1; have a2 := cell_blk TB1 2; have a3 := cell_blk TB1 3; simp at a0 a1 a2 a3; have HB1 := Lib.hid (HBX.out.trans (hb1.mono (by simp))); have hlt := blk_lt TB1; clear hb1 TB1)
  have hm0 := (MapN.made w1 (fun _ => .slice none 0 0)).at (heap_alloc_old (w1.alloc (.map #[] 0)) (.cells #[.map (some w1.heap.size), .int .i64 t.last, .int .i64 t.rn, .int .i64 t.rb] 110) (by simp))
  have hd0 := heap_alloc_new (w1.alloc (.map #[] 0)) (.cells #[.map (some w1.heap.size), .int .i64 t.last, .int .i64 t.rn, .int .i64 t.rb] 110)
  have hb0 := (HB1.out.alloc HB1.out.size (.map #[] 0)).alloc (by simp; have := HB1.out.size; omega) (.cells #[.map (some w1.heap.size), .int .i64 t.last, .int .i64 t.rn, .int .i64 t.rb] 110)
  have es1 : (w1.alloc (.map #[] 0)).heap.size = w1.heap.size + 1 := by simp
  rw [es1] at hd0
  have hms := HB1.out.size
  generalize ((w1.alloc (.map #[] 0)).alloc (.cells #[.map (some w1.heap.size), .int .i64 t.last, .int .i64 t.rn, .int .i64 t.rb] 110)) = W0 at *
  generalize w1.heap.size = mb at *
  have HM0 := Lib.hid hm0; have HD0 := Lib.hid hd0; have HB0 := Lib.hid hb0
  clear hm0 hd0 hb0 es1 a0 a1 a2 a3 HB1 hlt
  go_loopw [23] (fun i wr => ∃ (k : Nat) (ev : Int → Value), i = .int .i64 k ∧ k ≤ t.nodes.length ∧ DiskIn wr (mb + 1) mb { t with nodes := t.nodes.take k } ev ∧ Below w.heap.size w wr) (fun i _ => t.nodes.length - (intOf i).toNat)
  case atStart => exact ⟨0, _, rfl, Nat.zero_le _, ⟨HD0.out, HM0.out, fun nd h => by cases h⟩, HB0.out⟩
  case round =>
    obtain ⟨k, ev, rfl, hkl, hdk, hbk⟩ := hrel
    have HDK := Lib.hid hdk; have HBK := Lib.hid hbk
    clear hdk hbk
    by_cases hk : k < t.nodes.length
    · have hki : (k : Int) < (t.nodes.length : Int) := by omega
      obtain ⟨x0, x1, x2, x3, x4, x5, hdl, xv, x6, hE⟩ := HC.out k hk
      obtain ⟨Ae, ce, rfl, _⟩ := ents_len hE
      have y0 := (HBK.out.cell (p := ⟨b, off + k * 7, none⟩) hbw).trans x0
      have y1 := (HBK.out.cell (p := ⟨b, off + k * 7 + 1, none⟩) hbw).trans x1
      have y2 := (HBK.out.cell (p := ⟨b, off + k * 7 + 2, none⟩) hbw).trans x2
      have y3 := (HBK.out.cell (p := ⟨b, off + k * 7 + 3, none⟩) hbw).trans x3
      have y4 := (HBK.out.cell (p := ⟨b, off + k * 7 + 4, none⟩) hbw).trans x4
      have y5 := (HBK.out.cell (p := ⟨b, off + k * 7 + 5, none⟩) hbw).trans x5
      have y6 := (HBK.out.cell (p := ⟨b, off + k * 7 + 6, none⟩) hbw).trans x6
      have hmem := ndAt_mem hk
      have hidn := HIDS.out _ hmem
      have hnel := HEL.out _ hmem
      have HTK := Lib.hid (take_next hk)
      have HRK : Hid (Rise (t.nodes.take k ++ [ndAt t.nodes k])) := Lib.hid (HTK.out ▸ rise_take HR.out (k + 1))
      have HLK : Hid ((t.nodes.take k).length < 1000000) := Lib.hid (by rw [List.length_take]; have := HLEN.out; omega)
      generalize ndAt t.nodes k = nd at *
      have HEN := Lib.hid ((hE.below HBK.out).more HBK.out.size)
      have hbn := heap_alloc_new wr (.cells #[.int .i64 nd.id, .int .i64 nd.kind, .int .i64 nd.mode, .int .i64 nd.owner, .int .i64 nd.time, .string (nm nd.data), .slice Ae nd.es.length ce] 64)
      have hbb := (Below.refl wr.heap.size wr).alloc (Nat.le_refl _) (.cells #[.int .i64 nd.id, .int .i64 nd.kind, .int .i64 nd.mode, .int .i64 nd.owner, .int .i64 nd.time, .string (nm nd.data), .slice Ae nd.es.length ce] 64)
      have HBN := Lib.hid hbn; have HBB := Lib.hid hbb
      have HEN2 := Lib.hid ((HEN.out.below hbb).more hbb.size)
      have HIDN := Lib.hid hidn
      have HNB := Lib.hid hE.bounds.2
      clear hbn hbb x0 x1 x2 x3 x4 x5 x6 hE hmem hidn hdl
      go_wp2_with (go_at_call 57; refine (clone_any _ _ _ HEN2.out).mono ?_; rintro e w4 ⟨v4, rfl, hown4, hb4⟩; have RB4 := (hb4.block wr.heap.size (by simp)).trans HBN.out; have f6 := froz_blk RB4 6; have x6 := cell_blk RB4 6; simp at x6; have HB4 := Lib.hid (HBB.out.trans (hb4.mono (by simp))); have HE4 := Lib.hid (row_ents hown4 (Nat.le_trans hnel (by omega)) HNB.out); obtain ⟨ve, vce, rfl⟩ := ownsRow_len3 hown4; have HRB4 := Lib.hid RB4; clear RB4 hown4 hb4)
      have RBM := set_blk (j := 6) HRB4.out (.slice ve nd.es.length vce)
      have hbM := HB4.out.setCell (p := ⟨wr.heap.size, 6, none⟩) (Nat.le_refl _) (.slice ve nd.es.length vce)
      have hEM : EntsIn (w4.setCell ⟨wr.heap.size, 6, none⟩ (.slice ve nd.es.length vce)) w4.heap.size (.slice ve nd.es.length vce) nd.es := HE4.out.keepBut2 (fun k => k = wr.heap.size) (fun b hb => by rw [hb]; exact box_noEnt HRB4.out (by simp) (by simp) (by simp) (by simp) (by simp)) (fun b hb hs => Below.heap_setCell _ _ _ _ (fun e => hs e))
      simp only [List.setIfInBounds_toArray, List.set] at RBM
      have hszM : w4.heap.size ≤ (w4.setCell ⟨wr.heap.size, 6, none⟩ (.slice ve nd.es.length vce)).heap.size := by simp
      generalize w4.setCell ⟨wr.heap.size, 6, none⟩ (.slice ve nd.es.length vce) = WM at *
      have HBM := Lib.hid hbM
      have HEM := Lib.hid (hEM.more hszM)
      have c0 := (HDK.out.below hbM).c0
      have s0 := cell_blk RBM 0
      have s1 := cell_blk RBM 1
      have s2 := cell_blk RBM 2
      have s3 := cell_blk RBM 3
      have s4 := cell_blk RBM 4
      have s5 := cell_blk RBM 5
      have s6 := cell_blk RBM 6
      simp at s0 s1 s2 s3 s4 s5 s6
      clear hbM hEM hszM f6 x6 RBM y0 y1 y2 y3 y4 y5 y6
      refine wp_region_still_tail 7 (by kernel_rfl) (by kernel_rfl) ?_
      simp only [List.take_succ_cons, List.take_zero, List.drop_succ_cons, List.drop_zero]
      repeat still_step
      refine wpStill_nil ?_
      change wpList _ _ _ _ _ WM.drew
      go_wp2_with (at_mapUpdate; refine wpList_putN rfl _ _ _ rfl mb (t.nodes.take k) ev rfl (HDK.out.below HBM.out.drew).map (rise_take HR.out k) HLK.out nd (.slice ve nd.es.length vce) rfl rfl HIDN.out ?_; intro W3 hm3 ht3)
      have E := DiskIn.bind_end HDK.out (rise_take HR.out k) HBM.out.drew hm3 ht3 HEM.out
      rw [putN_last HRK.out, ← HTK.out] at E
      have HE3 := Lib.hid E
      clear E hm3 ht3
      go_roundw
      case rel => exact ⟨k + 1, _, by go_num, by omega, HE3.out.1, HBK.out.trans (HE3.out.2.below HBK.out.size (fun j hj => by rcases hj with rfl | rfl <;> omega))⟩
      case measure => simp [intOf]; omega
    · have hke : ¬ (k : Int) < (t.nodes.length : Int) := by omega
      have HKE : Hid (t.nodes.take k = t.nodes) := Lib.hid (List.take_of_length_le (by omega))
      go_wp2
      go_ret2
      refine ⟨mb + 1, mb, ev, rfl, by omega, hms, ?_, HBK.out⟩
      have := HDK.out
      rw [HKE.out] at this
      exact this

set_option maxRecDepth 100000 in
set_option maxHeartbeats 2000000 in
theorem newDisk_bad (nv : Value) (t : Tr) (w : World) (hN : NodesIn w w.heap.size nv t.nodes) (hc : checkB t = false) :
    Calls Tryz.prog 75 #[trV nv t] w fun e w' => e = .returned (.tuple #[.pointer none, .int .i64 80]) ∧ Below w.heap.size w w' := by
  have hck : checkI t = 80 := by unfold checkI; rw [hc]; rfl
  have hk := fun W (hW : Below w.heap.size w W) => check_any nv t w.heap.size W (hN.below hW) hW.size
  rw [hck] at hk
  obtain ⟨A, c, rfl⟩ := nodes_len hN
  have HK := Lib.hid hk
  clear hk hN hck hc
  unfold trV at *
  have hbx := (Below.refl w.heap.size w).alloc (Nat.le_refl _) (.cells #[.slice A t.nodes.length c, .int .i64 t.last, .int .i64 t.rn, .int .i64 t.rb] 26)
  have HBX := Lib.hid hbx
  clear hbx
  go_enter Tryz.func75, Tryz.ntmps75
  go_wp2_with (go_at_call 93; refine (HK.out _ HBX.out).mono ?_; rintro e w1 ⟨rfl, hb1⟩; have HB1 := Lib.hid (HBX.out.trans (hb1.mono (by simp))); clear hb1)
  go_ret2
  exact ⟨rfl, HB1.out⟩
def OpenPost (t : Tr) (ck : Int) (w : World) (e : Ending) (w' : World) : Prop := ∃ fb db mb, e = .returned (.tuple #[.pointer (some ⟨fb, 0, none⟩), .pointer (some ⟨db, 0, none⟩), .int .i64 0]) ∧ w.heap.size ≤ fb ∧ w.heap.size ≤ db ∧ w.heap.size ≤ mb ∧ Live w' fb db mb ⟨t, ckI ck⟩ ∧ Below w.heap.size w w'
theorem open_arg {w : World} {nv : Value} {t : Tr} (hN : NodesIn w w.heap.size nv t.nodes) (o : Obj) : NodesIn (w.alloc o) (w.alloc o).heap.size nv t.nodes := (hN.below ((Below.refl _ _).alloc (Nat.le_refl _) o)).more (by simp)
set_option maxRecDepth 100000 in
set_option maxHeartbeats 4000000 in
theorem open5_any (nv : Value) (t : Tr) (ck : Int) (w : World) (hN : NodesIn w w.heap.size nv t.nodes) (hc : checkB t = true) (hids : ∀ nd ∈ t.nodes, i64 nd.id) (hel : ∀ nd ∈ t.nodes, nd.es.length ≤ 100000000) (hd : ∀ nd ∈ t.nodes, nd.data.length ≤ 4096) :
    Calls Tryz.prog 36 #[trV nv t, .int .i64 ck] w (OpenPost t ck w) := by
  obtain ⟨hri, hn, hpos, -⟩ := check_facts hc
  have hRise := rise_of_rising hri
  obtain ⟨A, c, rfl⟩ := nodes_len hN
  have HK := Lib.hid (newDisk_any _ t _ (open_arg hN (.cells #[.slice A t.nodes.length c, .int .i64 t.last, .int .i64 t.rn, .int .i64 t.rb] 26)) hc hids hel)
  have HNW := Lib.hid (fun db mb ev W (h : DiskIn W db mb t ev) => new5_any db mb t ev ck W h hRise (by omega) hpos hd)
  have hbx := (Below.refl w.heap.size w).alloc (Nat.le_refl _) (.cells #[.slice A t.nodes.length c, .int .i64 t.last, .int .i64 t.rn, .int .i64 t.rb] 26)
  have HBX := Lib.hid hbx
  clear hN hc hids hel hd hri hn hpos hRise hbx
  unfold trV at *
  unfold NewDiskPost at HK
  go_enter Tryz.func36, Tryz.ntmps36
  go_wp2_with (first | (go_at_call 75; refine HK.out.mono ?_; rintro e w1 ⟨db, mb, ev, rfl, h1, h2, hD, hb1⟩; have HD := Lib.hid hD; have HB1 := Lib.hid (HBX.out.trans (hb1.mono (by simp))); have HL := Lib.hid (And.intro h1 h2); clear h1 h2 hD hb1) | (go_at_call 76; refine (HNW.out db mb ev _ HD.out).mono ?_; rintro e w2 ⟨fb, rfl, hf, hL, hb2⟩; have HLV := Lib.hid hL; have HB2 := Lib.hid (HB1.out.trans (hb2.mono HB1.out.size)); have HF := Lib.hid hf; clear hf hL hb2))
  go_ret3
  exact ⟨fb, db, mb, rfl, Nat.le_trans HB1.out.size HF.out, Nat.le_trans (by simp) HL.out.1, Nat.le_trans (by simp) HL.out.2, HLV.out, HB2.out⟩
set_option maxRecDepth 100000 in
set_option maxHeartbeats 2000000 in
theorem open5_bad (nv : Value) (t : Tr) (ck : Int) (w : World) (hN : NodesIn w w.heap.size nv t.nodes) (hc : checkB t = false) :
    Calls Tryz.prog 36 #[trV nv t, .int .i64 ck] w fun e w' => e = .returned (.tuple #[.pointer none, .pointer none, .int .i64 80]) ∧ Below w.heap.size w w' := by
  obtain ⟨A, c, rfl⟩ := nodes_len hN
  have HK := Lib.hid (newDisk_bad _ t _ (open_arg hN (.cells #[.slice A t.nodes.length c, .int .i64 t.last, .int .i64 t.rn, .int .i64 t.rb] 26)) hc)
  have HBX := Lib.hid ((Below.refl w.heap.size w).alloc (Nat.le_refl _) (.cells #[.slice A t.nodes.length c, .int .i64 t.last, .int .i64 t.rn, .int .i64 t.rb] 26))
  clear hN hc
  unfold trV at *
  go_enter Tryz.func36, Tryz.ntmps36
  go_wp2_with (go_at_call 75; refine HK.out.mono ?_; rintro e w1 ⟨rfl, hb1⟩; have HB1 := Lib.hid (HBX.out.trans (hb1.mono (by simp))); clear hb1)
  go_ret3
  exact ⟨rfl, HB1.out⟩
end Go.Proofs.YtpicgkoclbpjpaaGreatDoor
end

section
namespace Go.Proofs.YtpicgkoclbpjpaaGreatDoor
open Go.RowKit Go.Sort Go.Lib
open PathM TreeM VtM
set_option linter.unusedVariables false
attribute [local go_sem] cell_rg

theorem method_Kind (a : Addr) (w : World) : (method 345 31 (.pointer (some a)) "Kind").run Tryz.prog w = .ok (200, .pointer (some a)) w := by kernel_rfl
theorem method_Node (a : Addr) (w : World) : (method 345 31 (.pointer (some a)) "Node").run Tryz.prog w = .ok (202, .pointer (some a)) w := by kernel_rfl
theorem method_Entry (a : Addr) (w : World) : (method 345 31 (.pointer (some a)) "Entry").run Tryz.prog w = .ok (198, .pointer (some a)) w := by kernel_rfl
theorem method_Entries (a : Addr) (w : World) : (method 345 31 (.pointer (some a)) "Entries").run Tryz.prog w = .ok (197, .pointer (some a)) w := by kernel_rfl
theorem method_Links (a : Addr) (w : World) : (method 345 31 (.pointer (some a)) "Links").run Tryz.prog w = .ok (201, .pointer (some a)) w := by kernel_rfl
theorem method_Usage (a : Addr) (w : World) : (method 345 31 (.pointer (some a)) "Usage").run Tryz.prog w = .ok (205, .pointer (some a)) w := by kernel_rfl
theorem method_Room (a : Addr) (w : World) : (method 345 31 (.pointer (some a)) "Room").run Tryz.prog w = .ok (204, .pointer (some a)) w := by kernel_rfl
theorem method_Fresh (a : Addr) (w : World) : (method 345 31 (.pointer (some a)) "Fresh").run Tryz.prog w = .ok (199, .pointer (some a)) w := by kernel_rfl
theorem method_Put (a : Addr) (w : World) : (method 345 31 (.pointer (some a)) "Put").run Tryz.prog w = .ok (203, .pointer (some a)) w := by kernel_rfl
theorem method_Bind (a : Addr) (w : World) : (method 345 31 (.pointer (some a)) "Bind").run Tryz.prog w = .ok (195, .pointer (some a)) w := by kernel_rfl
theorem method_Drop (a : Addr) (w : World) : (method 345 31 (.pointer (some a)) "Drop").run Tryz.prog w = .ok (196, .pointer (some a)) w := by kernel_rfl

/-- A place as a value. -/
def plV (dv : Value) (a : At) : Value := .agg #[dv, .string (nm a.name), .int .i64 a.node, .bool a.slash]
theorem lastI_get {l : List Int} (h : l ≠ []) : lastI l = l.getD (l.length - 1) 0 := by
  unfold lastI
  rw [List.getLast?_eq_getElem?, List.getD_eq_getElem?_getD]
set_option maxRecDepth 100000 in
set_option maxHeartbeats 1000000 in
theorem alone_any (dv : Value) (dirs : List Int) (w : World) (h : IntsIn w w.heap.size dv dirs) (hne : dirs ≠ []) (hlen : dirs.length ≤ 1000000) :
    Calls Tryz.prog 78 #[dv] w fun e w' => e = .returned (plV dv ⟨dirs, [], lastI dirs, false⟩) ∧ Below w.heap.size w w' := by
  rw [lastI_get hne]
  unfold plV
  obtain ⟨b, off, c, rfl, hc, hb, _, hcells⟩ := h.cases hne
  have hl := List.length_pos_iff.2 hne
  have x0 := hcells (dirs.length - 1) (by omega)
  generalize dirs.getD (dirs.length - 1) 0 = la at *
  clear h hcells hne
  generalize dirs.length = n at *
  obtain ⟨m, rfl⟩ : ∃ m, n = m + 1 := ⟨n - 1, by omega⟩
  rw [Nat.add_sub_cancel] at x0
  go_enter Tryz.func78, Tryz.ntmps78
  go_wp2
  refine bodyPost_ret (results_cell_row rfl _ _ _ 92 _ (0, 0) _ rfl (heap_alloc_new w _) Tryz.underlying92 rfl (by kernel_rfl)) rfl ?_
  exact ⟨rfl, (Below.refl w.heap.size w).alloc (Nat.le_refl _) _⟩
set_option maxRecDepth 100000 in
set_option maxHeartbeats 1000000 in
theorem dir_any (dv : Value) (a : At) (w : World) (h : IntsIn w w.heap.size dv a.dirs) (hne : a.dirs ≠ []) (hlen : a.dirs.length ≤ 1000000) :
    Calls Tryz.prog 85 #[plV dv a] w (IntPost (lastI a.dirs) w) := by
  rw [lastI_get hne]
  unfold plV IntPost
  obtain ⟨b, off, c, rfl, hc, hb, _, hcells⟩ := h.cases hne
  have hl := List.length_pos_iff.2 hne
  have x0 := hcells (a.dirs.length - 1) (by omega)
  generalize a.dirs.getD (a.dirs.length - 1) 0 = la at *
  clear h hcells hne
  generalize a.dirs.length = n at *
  obtain ⟨m, rfl⟩ : ∃ m, n = m + 1 := ⟨n - 1, by omega⟩
  rw [Nat.add_sub_cancel] at x0
  go_enter Tryz.func85, Tryz.ntmps85
  go_wp2
  go_ret
  exact ⟨rfl, (Below.refl w.heap.size w).alloc (Nat.le_refl _) _⟩

theorem DiskIn.ent_i64 {w : World} {db mb : Nat} {t : Tr} {ev : Int → Value} (h : DiskIn w db mb t ev) (dir : Int) (key : Bs) : i64 (entT t dir key) := by
  unfold entT childO
  cases e : (nod t.nodes dir).es.find? (fun x => x.key == key) with
  | none => simp [i64]
  | some x =>
    have hx := List.mem_of_find?_eq_some e
    unfold nod at hx
    cases e2 : VtM.seek t.nodes dir with
    | none => rw [e2] at hx; simp [zeroN] at hx
    | some nd =>
      rw [e2] at hx
      obtain ⟨hm, rfl⟩ := look_mem e2
      exact ((h.ents nd hm).bounds.2 x hx).2

/-- A path that is being gone, in memory. -/
structure WalkIn (w : World) (wb db : Nat) (s : WS) (fw : Bool) (dv lv : Value) : Prop where
  blk : w.heap[wb]? = some (.cells #[.iface 31 (.pointer (some ⟨db, 0, none⟩)), dv, .string (nm s.name), .int .i64 s.node, .bool false, lv, .bool s.slash, .bool fw, .int .i64 s.hops] 133 (0, 0))
  dirs : IntsIn w w.heap.size dv s.dirs
  left : StrsIn w w.heap.size lv s.left
theorem WalkIn.below {w w' : World} {wb db : Nat} {s : WS} {fw : Bool} {dv lv : Value} (h : WalkIn w wb db s fw dv lv) (hb : Below w.heap.size w w') : WalkIn w' wb db s fw dv lv :=
  ⟨(hb.block _ (blk_lt h.blk)).trans h.blk, (h.dirs.below hb).more hb.size, (h.left.below hb).more hb.size⟩

theorem infoI : (Tryz.prog.info? 3).map (fun i => (i.zero, i.size, i.bytes)) = some (some (.int .i64 0), 1, 8) := by kernel_rfl
theorem ints_of_row {W : World} {base : Nat} {v : Value} {l : List Int} {n : Nat} (hn : n = l.length) (h : W.ownsRow base 3 1 v n (l.map fun x => Value.int .i64 x)) : IntsIn W W.heap.size v l := by
  subst hn
  rcases h.2 with ⟨e1, e2⟩ | ⟨g, cap, cur, e1, e2, e3, e4, _⟩
  · exact ⟨none, 0, by rw [e1, e2], by omega, fun hne => absurd (List.length_eq_zero_iff.1 e2) hne⟩
  · refine ⟨_, _, e1, e4, fun _ => ⟨g, 0, rfl, blk_lt e3, ⟨_, _, e3⟩, fun k hk => ?_⟩⟩
    rw [e1] at h
    rw [Nat.zero_add]
    refine row_cells h _ _ ?_
    rw [List.getElem?_map, List.getElem?_eq_getElem hk, List.getD_eq_getElem?_getD, List.getElem?_eq_getElem hk]; rfl
/-- What enter answers. -/
def EnterPost (r : Except Int (List Int)) (w : World) (e : Ending) (w' : World) : Prop :=
  match r with
  | .error x => e = .returned (.tuple #[.slice none 0 0, .int .i64 x]) ∧ Below w.heap.size w w'
  | .ok l => ∃ v, e = .returned (.tuple #[v, .int .i64 0]) ∧ IntsIn w' w'.heap.size v l ∧ Below w.heap.size w w'
set_option maxRecDepth 100000 in
set_option maxHeartbeats 4000000 in
theorem enter_any (wb db mb : Nat) (t : Tr) (ev : Int → Value) (s : WS) (fw : Bool) (dv lv : Value) (w : World) (hw : WalkIn w wb db s fw dv lv) (h : DiskIn w db mb t ev) (hid : i64 s.node) (hlen : s.dirs.length ≤ 1000000) (hne : s.dirs ≠ []) :
    Calls Tryz.prog 98 #[.pointer (some ⟨wb, 0, none⟩)] w (EnterPost (enterS t s) w) := by
  have HW := Lib.hid hw
  have k0 := cell_blk HW.out.blk 0
  have k1 := cell_blk HW.out.blk 1
  have k2 := cell_blk HW.out.blk 2
  have k3 := cell_blk HW.out.blk 3
  have k4 := cell_blk HW.out.blk 4
  have k5 := cell_blk HW.out.blk 5
  have k6 := cell_blk HW.out.blk 6
  have k7 := cell_blk HW.out.blk 7
  have k8 := cell_blk HW.out.blk 8
  simp at k0 k1 k2 k3 k4 k5 k6 k7 k8
  have hm := method_Kind
  have hlt := blk_lt hw.blk
  have hk := fun W (hW : Below w.heap.size w W) => kind_any db mb t ev s.node W (h.below hW) hid
  unfold IntPost at hk
  have hdl := hw.dirs
  obtain ⟨b, off, c, rfl, hcap, hb, _, hcells⟩ := hdl.cases hne
  have HD := Lib.hid hdl
  unfold EnterPost enterS
  by_cases h0 : s.node = 0
  · rw [if_pos h0]
    have q : (s.node == 0) = true := by simp [h0]
    rw [h0] at k3
    clear hk h hw hdl h0 hcells
    go_enter Tryz.func98, Tryz.ntmps98
    go_wp2
    go_ret2
    exact ⟨rfl, Below.refl _ _⟩
  · rw [if_neg h0]
    have q : (s.node == 0) = false := by simp [h0]
    by_cases h1 : (nod t.nodes s.node).kind = 1
    · rw [if_neg (by simp [h1])]
      rw [h1] at hk
      have HK := Lib.hid hk
      clear hk h hw h0 h1
      by_cases h2 : s.name = []
      · rw [if_pos h2]
        have he := emp_yes (b := nm s.name) (by rw [h2]; rfl)
        generalize nm s.name = nb at *
        generalize s.node = nid at *
        clear hdl hcells
        go_enter Tryz.func98, Tryz.ntmps98
        go_wp2
        refine wp_region_quiet_below (by kernel_rfl) (by kernel_rfl) ?_
        repeat (first | go_big_quiet_step (((go_at_call 200; exact Calls.regrown_of (HK.out _ (below_regrown _ _ _))))) | quiet_step (((go_at_call 200; exact Calls.regrown_of (HK.out _ (below_regrown _ _ _))))))
        refine wpQuiet_nil ?_
        intro _ hw'
        obtain ⟨⟨dq, osq⟩, hw''⟩ := hw'
        subst hw''
        go_wp2
        go_ret2
        have hbg := below_regrown w dq osq
        exact ⟨_, rfl, (HD.out.below hbg).more hbg.size, hbg⟩
      · rw [if_neg h2]
        have he := emp_no (b := nm s.name) (by simpa [nm] using h2)
        obtain ⟨i0, hi, hz0, hz1, hz2⟩ := info_parts infoI
        have HI := Lib.hid hi; have HZ0 := Lib.hid hz0; have HZ1 := Lib.hid hz1; have HZ2 := Lib.hid hz2
        have hlo : (s.dirs.map fun x => Value.int .i64 x).length = s.dirs.length * 1 := by simp
        have holds : ∀ W, Below w.heap.size w W → ∀ j u, (s.dirs.map fun x => Value.int .i64 x)[j]? = some u → W.cell? ((⟨b, off, none⟩ : Addr).add j) = some u := by
          intro W hW j u hj
          rw [List.getElem?_map] at hj
          cases e : s.dirs[j]? with
          | none => rw [e] at hj; cases hj
          | some x =>
            rw [e] at hj
            have hjl := lt_of_get e
            have := hcells j hjl
            rw [List.getD_eq_getElem?_getD, e] at this
            simp at hj
            rw [← hj]
            have hadd : (⟨b, off, none⟩ : Addr).add j = ⟨b, off + j, none⟩ := by simp [Addr.add]
            rw [hadd]
            exact (hW.cell (p := ⟨b, off + j, none⟩) hb).trans this
        have HLO := Lib.hid hlo; have HOL := Lib.hid holds; have HLEN := Lib.hid hlen
        obtain ⟨x, hx⟩ : ∃ x, s.dirs.length = x := ⟨_, rfl⟩
        have HX := Lib.hid hx
        generalize nm s.name = nb at *
        clear hdl hcells hi hz0 hz1 hz2 hlo holds hx
        go_enter Tryz.func98, Tryz.ntmps98
        go_wp2
        refine wp_region_quiet_below (by kernel_rfl) (by kernel_rfl) ?_
        repeat (first | go_big_quiet_step (((go_at_call 200; exact Calls.regrown_of (HK.out _ (below_regrown _ _ _))))) | quiet_step (((go_at_call 200; exact Calls.regrown_of (HK.out _ (below_regrown _ _ _))))))
        refine wpQuiet_nil ?_
        intro _ hw'
        obtain ⟨⟨dq, osq⟩, hw''⟩ := hw'
        subst hw''
        go_wp2
        have hbg := below_regrown w dq osq
        have HBG := Lib.hid hbg
        have HW2 := Lib.hid (HW.out.below hbg)
        clear k0 k1 k2 k3 k4 k5 k6 k7 k8
        generalize grow (redrawn w dq) osq = W1 at *
        have k3 := cell_blk HW2.out.blk 3
        simp at k3
        go_region_law (refine step_append_grows rfl (.tmp 48) (.tmp 54) 55 rfl 3 i0 (.int .i64 0) 1 8 Tryz.underlying55 HI.out HZ0.out HZ1.out HZ2.out rfl (by decide) (some ⟨b, off, none⟩) s.dirs.length s.dirs.length (s.dirs.map fun x => Value.int .i64 x) (by simp [Act.eval]) (fun h => by cases h) HLO.out (fun bb hbb => (by cases hbb; exact HOL.out _ (HBG.out.alloc HBG.out.size _).drew)) ⟨W1.heap.size, 0, none⟩ 1 1 [.int .i64 s.node] (by simp [Act.eval]) rfl (fun j u hj => (cell_one_new W1 _ _) j u hj) (ints_oneCell .i64 [s.node]) (Nat.lt_succ_self _) (maxLen_ok (by have := HLEN.out; omega)) (by have := HLEN.out; omega) ?_; intro v5 w5 hown5 hg5; obtain ⟨A5, c5, hv5⟩ := ownsRow_len3 hown5; have HO5 := Lib.hid hown5; have HG5 := Lib.hid hg5; subst hv5; clear hown5 hg5)
        go_simp
        go_wp2
        go_ret2
        have hb5 := ((HBG.out.alloc HBG.out.size (.cells #[.int .i64 s.node] 3)).drew).grown HG5.out (HBG.out.alloc HBG.out.size (.cells #[.int .i64 s.node] 3)).size (fun j h => by cases h)
        have h6 := HO5.out
        rw [show (s.dirs.map fun x => Value.int .i64 x) ++ [Value.int .i64 s.node] = (s.dirs ++ [s.node]).map (fun x => Value.int .i64 x) from by rw [List.map_append]; rfl] at h6
        exact ⟨_, rfl, ints_of_row (by simp) h6, hb5⟩
    · rw [if_pos (by simpa using h1)]
      have q1 : ((nod t.nodes s.node).kind != 1) = true := by simpa using h1
      generalize (nod t.nodes s.node).kind = kd at *
      have HK := Lib.hid hk
      clear hk h hw h0 h1 hdl hcells
      generalize nm s.name = nb at *
      generalize s.node = nid at *
      go_enter Tryz.func98, Tryz.ntmps98
      go_wp2
      refine wp_region_quiet_below (by kernel_rfl) (by kernel_rfl) ?_
      repeat (first | go_big_quiet_step (((go_at_call 200; exact Calls.regrown_of (HK.out _ (below_regrown _ _ _))))) | quiet_step (((go_at_call 200; exact Calls.regrown_of (HK.out _ (below_regrown _ _ _))))))
      refine wpQuiet_nil ?_
      intro _ hw'
      obtain ⟨⟨dq, osq⟩, hw''⟩ := hw'
      subst hw''
      go_wp2
      go_ret2
      exact ⟨rfl, below_regrown w dq osq⟩

end Go.Proofs.YtpicgkoclbpjpaaGreatDoor
end

section
namespace Go.Proofs.YtpicgkoclbpjpaaGreatDoor
open Go.RowKit Go.Sort Go.Lib
open PathM TreeM VtM
set_option linter.unusedVariables false
attribute [local go_sem] cell_rg

/-- Where a name is looked for: the place's box, the result's. -/
def LK (w : World) (wb db pb : Nat) (dv : Value) (key : ByteArray) (W : World) : Prop :=
  Below w.heap.size w W ∧ W.heap[pb]? = some (.cells #[dv, .string key, .int .i64 0, .bool false] 92 (0, 0)) ∧ W.heap[w.heap.size]? = some (.cells #[.slice none 0 0, .string { data := #[] }, .int .i64 0, .bool false] 92 (0, 0)) ∧ W.cell? ⟨wb, 0, none⟩ = some (.iface 31 (.pointer (some ⟨db, 0, none⟩)))
theorem cell_lt {w : World} {a : Addr} {v : Value} (h : w.cell? a = some v) : a.block < w.heap.size := by
  by_cases hl : a.block < w.heap.size
  · exact hl
  · simp [World.cell?, Array.getElem?_eq_none (show w.heap.size ≤ a.block by omega)] at h
theorem LK.below {w W : World} {wb db pb : Nat} {dv : Value} {key : ByteArray} (h : LK w wb db pb dv key W) : Below w.heap.size w W := h.1
theorem LK.next {w W W' : World} {wb db pb : Nat} {dv : Value} {key : ByteArray} (h : LK w wb db pb dv key W) (hb : Below W.heap.size W W') : LK w wb db pb dv key W' :=
  ⟨h.1.trans (hb.mono h.1.size), (hb.block _ (blk_lt h.2.1)).trans h.2.1, (hb.block _ (blk_lt h.2.2.1)).trans h.2.2.1, (hb.cell (p := ⟨wb, 0, none⟩) (cell_lt h.2.2.2)).trans h.2.2.2⟩
theorem LK.all {w W : World} {wb db pb : Nat} {dv : Value} {key : ByteArray} (h : LK w wb db pb dv key W) : W.cell? ⟨wb, 0, none⟩ = some (.iface 31 (.pointer (some ⟨db, 0, none⟩))) ∧ W.cell? ⟨pb, 0, none⟩ = some dv ∧ W.cell? ⟨pb, 1, none⟩ = some (.string key) ∧ W.cell? ⟨pb, 2, none⟩ = some (.int .i64 0) ∧ W.cell? ⟨pb, 3, none⟩ = some (.bool false) ∧ W.frozen? ⟨pb, 2, none⟩ = false ∧ LK w wb db pb dv key W :=
  ⟨h.2.2.2, (cell_blk h.2.1 0).trans rfl, (cell_blk h.2.1 1).trans rfl, (cell_blk h.2.1 2).trans rfl, (cell_blk h.2.1 3).trans rfl, froz_blk h.2.1 2, h⟩
theorem lastI_mem {l : List Int} (h : l ≠ []) : lastI l ∈ l := by
  unfold lastI
  rw [List.getLast?_eq_some_getLast h]
  exact List.getLast_mem h
/-- What look answers. -/
def PlacePost (a : At) (w : World) (e : Ending) (w' : World) : Prop := ∃ v, e = .returned (plV v a) ∧ IntsIn w' w'.heap.size v a.dirs ∧ Below w.heap.size w w'
theorem str_eq {a b : ByteArray} (h : a.data.toList = b.data.toList) : (a.toList == b.toList) = true := by rw [listD, listD, h]; simp
theorem str_ne {a b : ByteArray} (h : a.data.toList ≠ b.data.toList) : (a.toList == b.toList) = false := by rw [listD, listD]; exact beq_eq_false_iff_ne.2 h
theorem IntsIn.take {w : World} {B c : Nat} {A : Option Addr} {l : List Int} (h : IntsIn w B (.slice A l.length c) l) (k : Nat) (hk : k ≤ l.length) : IntsIn w B (.slice A k k) (l.take k) := by
  obtain ⟨A', c', h1, h2, h3⟩ := h
  injection h1 with a1 a2 a3
  subst a1
  have hl : (l.take k).length = k := by simp; omega
  refine ⟨_, _, by rw [hl], by omega, fun hne => ?_⟩
  have hne' : l ≠ [] := by rintro rfl; simp at hne
  obtain ⟨b, off, h4, h5, h6, h7⟩ := h3 hne'
  refine ⟨b, off, h4, h5, h6, fun i hi => ?_⟩
  have hi' : i < l.length := by omega
  have e3 : (l.take k).getD i 0 = l.getD i 0 := by simp [List.getD, List.getElem?_take]; rw [if_pos (by omega)]
  rw [e3]; exact h7 i hi'
set_option maxRecDepth 100000 in
set_option maxHeartbeats 1000000 in
theorem look_any (wb db mb : Nat) (t : Tr) (ev : Int → Value) (s : WS) (fw : Bool) (dv0 lv dv : Value) (dirs : List Int) (key : ByteArray) (w : World) (hw : WalkIn w wb db s fw dv0 lv) (h : DiskIn w db mb t ev) (hI : IntsIn w w.heap.size dv dirs) (hids : ∀ d ∈ dirs, i64 d) (hne : dirs ≠ []) (hlen : dirs.length ≤ 1000000) (hs : ∀ id, Sorted (nod t.nodes id).es) :
    Calls Tryz.prog 99 #[.pointer (some ⟨wb, 0, none⟩), dv, .string key] w (PlacePost ⟨(lookS t dirs key.data.toList).1, (lookS t dirs key.data.toList).2.1, (lookS t dirs key.data.toList).2.2, false⟩ w) := by
  have HW := Lib.hid hw
  have k0 := cell_blk hw.blk 0
  simp at k0
  have hm := method_Entry
  have hlt := blk_lt hw.blk
  have hbx := (Below.refl w.heap.size w).alloc (Nat.le_refl _) (.cells #[.slice none 0 0, .string { data := #[] }, .int .i64 0, .bool false] 92)
  unfold PlacePost lookS
  obtain ⟨b, off, c, rfl, hcap, hb, _, hcells⟩ := hI.cases hne
  have hpos := List.length_pos_iff.2 hne
  by_cases h1 : key.data.toList = [46]
  · rw [if_pos h1]
    have q : (key.toList == [46]) = true := by rw [listD, h1]; rfl
    have HA := Lib.hid (alone_any _ dirs _ ((hI.below hbx).more hbx.size) hne hlen)
    have HB := Lib.hid hbx
    have HI := Lib.hid hI
    have RB := heap_alloc_new w (.cells #[.slice none 0 0, .string { data := #[] }, .int .i64 0, .bool false] 92)
    have HRB := Lib.hid RB
    clear hI hw h hs hcells hids h1 hbx RB
    unfold plV at HA
    go_enter Tryz.func99, Tryz.ntmps99
    go_wp2_with (go_at_call 78; (with_reducible refine HA.out.mono ?_); rintro e w1 ⟨rfl, hb1⟩; have RB1 := (hb1.block w.heap.size (by simp)).trans HRB.out; have q0 := cell_blk RB1 0; have q1 := cell_blk RB1 1; have q2 := cell_blk RB1 2; have q3 := cell_blk RB1 3; have e0 := froz_blk RB1 0; have e1 := froz_blk RB1 1; have e2 := froz_blk RB1 2; have e3 := froz_blk RB1 3; simp at q0 q1 q2 q3; have HRB1 := Lib.hid RB1; have HB1 := Lib.hid (HB.out.trans (hb1.mono (by simp))); clear hb1 RB1)
    refine bodyPost_ret (results_cell_row rfl _ _ _ 92 _ (0, 0) _ rfl (four_set HRB1.out _ _ _ _) Tryz.underlying92 rfl (by kernel_rfl)) rfl ?_
    refine ⟨_, rfl, ?_, four_below HB1.out (Nat.le_refl _) _ _ _ _⟩
    have h5 := four_below HB1.out (Nat.le_refl _) (.slice (some ⟨b, off, none⟩) dirs.length c) (.string (nm [])) (.int .i64 (lastI dirs)) (.bool false)
    exact (HI.out.below h5).more h5.size
  · rw [if_neg h1]
    have q : (key.toList == [46]) = false := by rw [listD]; exact beq_eq_false_iff_ne.2 h1
    by_cases h2 : key.data.toList = [46, 46]
    · rw [if_pos h2]
      have q2 : (key.toList == [46, 46]) = true := by rw [listD, h2]; rfl
      obtain ⟨m, hm1⟩ : ∃ m, max (dirs.length - 1) 1 = m := ⟨_, rfl⟩
      rw [hm1]
      have hmx : max ((dirs.length : Int) - 1) 1 = (m : Int) := by omega
      have hmle : (m : Int) ≤ (c : Int) := by omega
      have hm0 : 1 ≤ m := by omega
      have hmd : m ≤ dirs.length := by omega
      have hne2 : dirs.take m ≠ [] := by rw [ne_eq, List.take_eq_nil_iff]; rintro (h | h); omega; exact hne h
      have hT := fun W (hW : Below w.heap.size w W) => ((hI.take m hmd).below hW).more hW.size
      have HA := Lib.hid (alone_any _ (dirs.take m) _ (hT _ hbx) hne2 (by rw [List.length_take]; omega))
      have HB := Lib.hid hbx
      have HT := Lib.hid hT
      have RB := heap_alloc_new w (.cells #[.slice none 0 0, .string { data := #[] }, .int .i64 0, .bool false] 92)
      have HRB := Lib.hid RB
      clear hI hw h hs hcells hids h1 h2 hbx RB hm1 hT hne2
      unfold plV at HA
      go_enter Tryz.func99, Tryz.ntmps99
      go_wp2_with (go_at_call 78; go_loud ((with_reducible refine HA.out.mono ?_); rintro e w1 ⟨rfl, hb1⟩; have RB1 := (hb1.block w.heap.size (by simp)).trans HRB.out; have q0 := cell_blk RB1 0; have q1 := cell_blk RB1 1; have q2 := cell_blk RB1 2; have q3 := cell_blk RB1 3; have e0 := froz_blk RB1 0; have e1 := froz_blk RB1 1; have e2 := froz_blk RB1 2; have e3 := froz_blk RB1 3; simp at q0 q1 q2 q3; have HRB1 := Lib.hid RB1; have HB1 := Lib.hid (HB.out.trans (hb1.mono (by simp))); clear hb1 RB1))
      refine bodyPost_ret (results_cell_row rfl _ _ _ 92 _ (0, 0) _ rfl (four_set HRB1.out _ _ _ _) Tryz.underlying92 rfl (by kernel_rfl)) rfl ?_
      refine ⟨_, rfl, ?_, four_below HB1.out (Nat.le_refl _) _ _ _ _⟩
      exact HT.out _ (four_below HB1.out (Nat.le_refl _) _ _ _ _)
    · rw [if_neg h2]
      have q2 : (key.toList == [46, 46]) = false := by rw [listD]; exact beq_eq_false_iff_ne.2 h2
      have HDIR := Lib.hid (fun W (hW : Below w.heap.size w W) => dir_any _ ⟨dirs, key.data.toList, 0, false⟩ W ((hI.below hW).more hW.size) hne hlen)
      have HENT := Lib.hid (fun W (hW : Below w.heap.size w W) => entry_any db mb t ev (lastI dirs) key W (h.below hW) (hids _ (lastI_mem hne)) (hs _))
      have hbp := hbx.alloc hbx.size (.cells #[.slice (some ⟨b, off, none⟩) dirs.length c, .string key, .int .i64 0, .bool false] 92)
      have HBP := Lib.hid hbp
      have PB := heap_alloc_new (w.alloc (.cells #[.slice none 0 0, .string { data := #[] }, .int .i64 0, .bool false] 92)) (.cells #[.slice (some ⟨b, off, none⟩) dirs.length c, .string key, .int .i64 0, .bool false] 92)
      have RB := (heap_alloc_old _ (.cells #[.slice (some ⟨b, off, none⟩) dirs.length c, .string key, .int .i64 0, .bool false] 92) (by simp)).trans (heap_alloc_new w (.cells #[.slice none 0 0, .string { data := #[] }, .int .i64 0, .bool false] 92))
      have es1 : (w.alloc (.cells #[.slice none 0 0, .string { data := #[] }, .int .i64 0, .bool false] 92)).heap.size = w.heap.size + 1 := by simp
      rw [es1] at PB
      have k0' := (hbp.cell (p := ⟨wb, 0, none⟩) hlt).trans k0
      have hkey : nm key.data.toList = key := rfl
      have HI := Lib.hid hI
      have HENTI := Lib.hid (h.ent_i64 (lastI dirs) key.data.toList)
      clear hI hw h hs hcells hids h1 h2 hbx hbp es1 k0
      unfold plV IntPost at HDIR
      simp only [hkey] at HDIR
      unfold IntPost at HENT
      generalize entT t (lastI dirs) key.data.toList = nid at *
      generalize lastI dirs = la at *
      go_enter Tryz.func99, Tryz.ntmps99
      go_wp2
      have K2 : Hid (LK w wb db (w.heap.size + 1) (.slice (some ⟨b, off, none⟩) dirs.length c) key (((w.alloc (.cells #[.slice none 0 0, .string { data := #[] }, .int .i64 0, .bool false] 92)).alloc (.cells #[.slice (some ⟨b, off, none⟩) dirs.length c, .string key, .int .i64 0, .bool false] 92)).drew)) := Lib.hid ⟨⟨HBP.out.os, HBP.out.tape, HBP.out.output, HBP.out.size, HBP.out.block⟩, PB, RB, k0'⟩
      clear PB RB k0'
      generalize ((w.alloc (.cells #[.slice none 0 0, .string { data := #[] }, .int .i64 0, .bool false] 92)).alloc (.cells #[.slice (some ⟨b, off, none⟩) dirs.length c, .string key, .int .i64 0, .bool false] 92)) = W2 at *
      obtain ⟨j0, j1, j2, j3, j4, j5, -⟩ := K2.out.all
      go_region_with (first
          | (go_at_call 85; (with_reducible refine (HDIR.out _ K2.out.below).mono ?_); rintro e w3 ⟨rfl, hb3⟩; have K3 := Lib.hid (K2.out.next hb3); obtain ⟨i0, i1, i2, i3, i4, i5, -⟩ := K3.out.all; clear hb3)
          | (go_at_call 198; (with_reducible refine (HENT.out w3 K3.out.below).mono ?_); rintro e w4 ⟨rfl, hb4⟩; have K4 := Lib.hid (K3.out.next hb4); obtain ⟨l0, l1, l2, l3, l4, l5, -⟩ := K4.out.all; clear hb4))
      all_goals
        have PB4 := set_blk (j := 2) K4.out.2.1 (.int .i64 nid)
        have RB4 := (Below.heap_setCell w4 ⟨w.heap.size + 1, 2, none⟩ (.int .i64 nid) w.heap.size (by simp)).trans K4.out.2.2.1
        have hb4 := K4.out.below.setCell (p := ⟨w.heap.size + 1, 2, none⟩) (by simp) (.int .i64 nid)
        simp only [List.setIfInBounds_toArray, List.set] at PB4
        clear l0 l1 l2 l3 l4 l5
        generalize w4.setCell ⟨w.heap.size + 1, 2, none⟩ (.int .i64 nid) = w5 at *
        have a0 := cell_blk PB4 0
        have a1 := cell_blk PB4 1
        have a2 := cell_blk PB4 2
        have a3 := cell_blk PB4 3
        simp at a0 a1 a2 a3
        have q0 := cell_blk RB4 0
        have q1 := cell_blk RB4 1
        have q2' := cell_blk RB4 2
        have q3 := cell_blk RB4 3
        have e0 := froz_blk RB4 0
        have e1 := froz_blk RB4 1
        have e2 := froz_blk RB4 2
        have e3 := froz_blk RB4 3
        simp at q0 q1 q2' q3
        have HRB4 := Lib.hid RB4; have HB4 := Lib.hid hb4
        clear RB4 hb4 PB4
        go_wp2
        refine bodyPost_ret (results_cell_row rfl _ _ _ 92 _ (0, 0) _ rfl (four_set HRB4.out _ _ _ _) Tryz.underlying92 rfl (by kernel_rfl)) rfl ?_
        refine ⟨_, by rw [← hkey]; rfl, ?_, four_below HB4.out (Nat.le_refl _) _ _ _ _⟩
        have h5 := four_below HB4.out (Nat.le_refl _) (.slice (some ⟨b, off, none⟩) dirs.length c) (.string key) (.int .i64 nid) (.bool false)
        exact (HI.out.below h5).more h5.size
end Go.Proofs.YtpicgkoclbpjpaaGreatDoor
end

section
namespace Go.Proofs.YtpicgkoclbpjpaaGreatDoor
open Go.RowKit Go.Sort Go.Lib
open PathM TreeM VtM
set_option linter.unusedVariables false
attribute [local go_sem] cell_rg

def BoolPost (b : Bool) (w : World) (e : Ending) (w' : World) : Prop := e = .returned (.bool b) ∧ Below w.heap.size w w'
set_option maxRecDepth 100000 in
set_option maxHeartbeats 2000000 in
theorem atLink_any (wb db mb : Nat) (t : Tr) (ev : Int → Value) (s : WS) (fw : Bool) (dv lv : Value) (w : World) (hw : WalkIn w wb db s fw dv lv) (h : DiskIn w db mb t ev) (hid : i64 s.node) :
    Calls Tryz.prog 100 #[.pointer (some ⟨wb, 0, none⟩)] w (BoolPost (atLinkS t fw s.node s.left s.slash) w) := by
  have HW := Lib.hid hw
  have k0 := cell_blk HW.out.blk 0
  have k3 := cell_blk HW.out.blk 3
  have k5 := cell_blk HW.out.blk 5
  have k6 := cell_blk HW.out.blk 6
  have k7 := cell_blk HW.out.blk 7
  simp at k0 k3 k5 k6 k7
  have hm := method_Kind
  have hlt := blk_lt hw.blk
  have hk := fun W (hW : Below w.heap.size w W) => kind_any db mb t ev s.node W (h.below hW) hid
  unfold IntPost at hk
  have HK := Lib.hid hk
  obtain ⟨A, c, rfl⟩ := hw.left.len
  unfold atLinkS BoolPost
  generalize s.slash = sl at *
  generalize s.left.length = n at *
  generalize (nod t.nodes s.node).kind = kd at *
  generalize s.node = nid at *
  clear hk h hw hid
  by_cases hoff : n = 0 ∧ fw = false ∧ sl = false
  · obtain ⟨rfl, rfl, rfl⟩ := hoff
    go_enter Tryz.func100, Tryz.ntmps100
    go_wp2
    refine wp_region_quiet_below (by kernel_rfl) (by kernel_rfl) ?_
    repeat (first | go_big_quiet_step (((fail))) | quiet_step (((fail))))
    refine wpQuiet_nil ?_
    intro _ hw'
    obtain ⟨⟨dq, osq⟩, hw''⟩ := hw'
    subst hw''
    go_wp2
    go_ret
    exact ⟨rfl, below_regrown w dq osq⟩
  · have hon : (decide (0 < n) || fw || sl) = true := by
      by_cases h1 : 0 < n
      · simp [h1]
      · have : n = 0 := by omega
        cases fw
        · cases sl
          · exact absurd ⟨this, rfl, rfl⟩ hoff
          · simp
        · simp
    rw [hon, Bool.true_and]
    have hc3 : (0 : Int) < (n : Int) ∨ (n = 0 ∧ fw = true) ∨ (n = 0 ∧ fw = false ∧ sl = true) := by
      by_cases h1 : 0 < n
      · exact .inl (by omega)
      · refine .inr ?_
        have h0 : n = 0 := by omega
        cases fw
        · cases sl
          · exact absurd ⟨h0, rfl, rfl⟩ hoff
          · exact .inr ⟨h0, rfl, rfl⟩
        · exact .inl ⟨h0, rfl⟩
    clear hon hoff
    by_cases h0 : nid = 0
    · have q : (nid != 0) = false := by simp [h0]
      rw [q, Bool.false_and]
      rcases hc3 with hc3 | ⟨rfl, rfl⟩ | ⟨rfl, rfl, rfl⟩
      all_goals
        go_enter Tryz.func100, Tryz.ntmps100
        go_wp2
        refine wp_region_quiet_below (by kernel_rfl) (by kernel_rfl) ?_
        repeat (first | go_big_quiet_step (((fail))) | quiet_step (((fail))))
        refine wpQuiet_nil ?_
        intro _ hw'
        obtain ⟨⟨dq, osq⟩, hw''⟩ := hw'
        subst hw''
        go_wp2
        go_ret
        exact ⟨rfl, below_regrown w dq osq⟩
    · have q : (nid != 0) = true := by simp [h0]
      rw [q, Bool.true_and]
      rcases hc3 with hc3 | ⟨rfl, rfl⟩ | ⟨rfl, rfl, rfl⟩
      all_goals
        go_enter Tryz.func100, Tryz.ntmps100
        go_wp2
        refine wp_region_quiet_below (by kernel_rfl) (by kernel_rfl) ?_
        repeat (first | go_big_quiet_step (((go_at_call 200; exact Calls.regrown_of (HK.out _ (below_regrown _ _ _))))) | quiet_step (((go_at_call 200; exact Calls.regrown_of (HK.out _ (below_regrown _ _ _))))))
        refine wpQuiet_nil ?_
        intro _ hw'
        obtain ⟨⟨dq, osq⟩, hw''⟩ := hw'
        subst hw''
        go_wp2
        go_ret
        exact ⟨rfl, below_regrown w dq osq⟩

set_option maxRecDepth 100000 in
set_option maxHeartbeats 2000000 in
theorem isDir_any (fb db mb : Nat) (f : Fs) (a : At) (dv : Value) (w : World) (h : Live w fb db mb f) (hid : i64 a.node) (hI : IntsIn w w.heap.size dv a.dirs) :
    Calls Tryz.prog 41 #[.pointer (some ⟨fb, 0, none⟩), plV dv a] w (BoolPost (decide (a.node ≠ 0 ∧ kindF f a.node = 1)) w) := by
  obtain ⟨ev, hD⟩ := h.disk
  have k0 := cell_blk h.files 0
  simp at k0
  have hlt := blk_lt h.files
  have hm := method_Kind
  obtain ⟨Ad, cd, rfl⟩ := hI.len
  have hbx := (Below.refl w.heap.size w).alloc (Nat.le_refl _) (.cells #[.slice Ad a.dirs.length cd, .string (nm a.name), .int .i64 a.node, .bool a.slash] 92)
  have hk := fun W (hW : Below w.heap.size w W) => kind_any db mb f.t ev a.node W (hD.below hW) hid
  unfold IntPost at hk
  have HK := Lib.hid hk
  have HBX := Lib.hid hbx
  unfold BoolPost plV kindF
  have PB := heap_alloc_new w (.cells #[.slice Ad a.dirs.length cd, .string (nm a.name), .int .i64 a.node, .bool a.slash] 92)
  have g0 := (hbx.cell (p := ⟨fb, 0, none⟩) hlt).trans k0
  generalize (nod f.t.nodes a.node).kind = kd at *
  clear hk h hD hid hI hbx k0
  by_cases h0 : a.node = 0
  · have q : (a.node != 0) = false := by simp [h0]
    rw [show decide (a.node ≠ 0 ∧ kd = 1) = false from by simp [h0]]
    clear h0
    go_enter Tryz.func41, Tryz.ntmps41
    go_wp2
    generalize w.alloc (.cells #[.slice Ad a.dirs.length cd, .string (nm a.name), .int .i64 a.node, .bool a.slash] 92) = W1 at *
    have p2 := cell_blk PB 2
    have hl2 := blk_lt PB
    simp at p2
    refine wp_region_quiet_below (by kernel_rfl) (by kernel_rfl) ?_
    repeat (first | go_big_quiet_step (((fail))) | quiet_step (((fail))))
    refine wpQuiet_nil ?_
    intro _ hw'
    obtain ⟨⟨dq, osq⟩, hw''⟩ := hw'
    subst hw''
    go_wp2
    go_ret
    exact ⟨rfl, HBX.out.trans ((below_regrown W1 dq osq).mono HBX.out.size)⟩
  · have q : (a.node != 0) = true := by simp [h0]
    rw [show decide (a.node ≠ 0 ∧ kd = 1) = (kd == 1) from by simp [h0]; rfl]
    go_enter Tryz.func41, Tryz.ntmps41
    go_wp2
    generalize w.alloc (.cells #[.slice Ad a.dirs.length cd, .string (nm a.name), .int .i64 a.node, .bool a.slash] 92) = W1 at *
    have p2 := cell_blk PB 2
    have hl2 := blk_lt PB
    have hl3 := cell_lt g0
    simp at p2
    refine wp_region_quiet_below (by kernel_rfl) (by kernel_rfl) ?_
    repeat (first | go_big_quiet_step (((go_at_call 200; exact Calls.regrown_of (HK.out _ (HBX.out.trans ((below_regrown _ _ _).mono HBX.out.size)))))) | quiet_step (((go_at_call 200; exact Calls.regrown_of (HK.out _ (HBX.out.trans ((below_regrown _ _ _).mono HBX.out.size)))))))
    refine wpQuiet_nil ?_
    intro _ hw'
    obtain ⟨⟨dq, osq⟩, hw''⟩ := hw'
    subst hw''
    go_wp2
    go_ret
    exact ⟨rfl, HBX.out.trans ((below_regrown W1 dq osq).mono HBX.out.size)⟩
end Go.Proofs.YtpicgkoclbpjpaaGreatDoor
end

section
namespace Go.Proofs.YtpicgkoclbpjpaaGreatDoor
open Go.RowKit Go.Sort Go.Lib
open PathM TreeM VtM
set_option linter.unusedVariables false
attribute [local go_sem] cell_rg

theorem Live.apart {w : World} {fb db mb : Nat} {f : Fs} (h : Live w fb db mb f) : fb ≠ db ∧ fb ≠ mb := by
  obtain ⟨ev, hd⟩ := h.disk
  obtain ⟨es, c, hm⟩ := hd.map.block
  exact ⟨blk_ne h.files hd.disk (fun e => by injection e with _ e _; revert e; decide), blk_ne h.files hm (fun e => by cases e)⟩
/-- Behind a call of the store that writes. -/
theorem Live.stored {w w' : World} {fb db mb : Nat} {f : Fs} {t' : Tr} (h : Live w fb db mb f) (hd : ∃ ev', DiskIn w' db mb t' ev') (hk : Kept (Own2 db mb) w w') : Live w' fb db mb { f with t := t' } :=
  ⟨hk.at h.files (fun hs => by rcases hs with e | e; exact h.apart.1 e; exact h.apart.2 e), hd, h.clock⟩
theorem own23 {fb db mb : Nat} : ∀ k, Own2 db mb k → Own3 fb db mb k := fun k h => h.elim (fun e => .inr (.inl e)) (fun e => .inr (.inr e))
theorem files_noStr {w : World} {fb : Nat} {x : Value} {y : Int} {u : TypeId} {t : TypeId} (h : w.heap[fb]? = some (.cells #[.iface u x, .int .i64 y] t (0, 0))) : ∀ (i : Nat) (s : ByteArray), w.cell? ⟨fb, i, none⟩ ≠ some (Value.string s) := by
  refine cells_noStr h fun i s e => ?_
  match i, e with
  | 0, e => simp at e
  | 1, e => simp at e
  | n + 2, e => simp at e
/-- Behind a store of the clock. -/
theorem Live.ticked {w : World} {fb db mb : Nat} {f : Fs} (h : Live w fb db mb f) (c : Int) (hc : 0 ≤ c ∧ c ≤ 1099511627776) : Live (w.setCell ⟨fb, 1, none⟩ (.int .i64 c)) fb db mb { f with ck := c } := by
  obtain ⟨ev, hd⟩ := h.disk
  have hap := h.apart
  refine ⟨?_, ⟨ev, ⟨(Below.heap_setCell _ _ _ _ (fun e => hap.1 e.symm)).trans hd.disk, hd.map.at (Below.heap_setCell _ _ _ _ (fun e => hap.2 e.symm)), fun nd hnd => ?_⟩⟩, hc⟩
  · have := set_blk (j := 1) h.files (.int .i64 c)
    simpa using this
  · exact ((hd.ents nd hnd).keepBut (fun k => k = fb) (fun b hb => by rw [hb]; exact files_noStr h.files) (fun b hb hs => Below.heap_setCell _ _ _ _ (fun e => hs e))).more (by simp)
set_option maxRecDepth 100000 in
set_option maxHeartbeats 1000000 in
theorem tick_any (fb db mb : Nat) (f : Fs) (w : World) (h : Live w fb db mb f) :
    Calls Tryz.prog 54 #[.pointer (some ⟨fb, 0, none⟩)] w fun e w' => e = .returned (.tuple #[]) ∧ Live w' fb db mb (tickF f) ∧ Kept (Own3 fb db mb) w w' := by
  have k1 := cell_blk h.files 1
  have f1 := froz_blk h.files 1
  simp at k1
  have hc := h.clock
  have HL := Lib.hid h
  obtain ⟨c1, c2⟩ := hc
  clear h
  obtain ⟨ck, hck⟩ : ∃ ck, f.ck = ck := ⟨_, rfl⟩
  rw [hck] at k1 c1 c2
  have HCK := Lib.hid hck
  clear hck
  have hmin : min (ck + 1) 1099511627776 ≤ 1099511627776 ∧ 0 ≤ min (ck + 1) 1099511627776 := by omega
  have HM := Lib.hid hmin
  clear hmin
  go_enter Tryz.func54, Tryz.ntmps54
  go_wp2
  go_end0
  have h2 := HL.out.ticked (min (ck + 1) 1099511627776) ⟨HM.out.2, HM.out.1⟩
  refine ⟨rfl, ?_, Kept.setCell _ _ (.inl rfl)⟩
  unfold tickF
  rw [HCK.out]
  exact h2
set_option maxRecDepth 100000 in
set_option maxHeartbeats 1000000 in
theorem fnone_any (fb db mb : Nat) (f : Fs) (w : World) (h : Live w fb db mb f) :
    Calls Tryz.prog 42 #[.pointer (some ⟨fb, 0, none⟩)] w fun e w' => e = .returned (.bool false) ∧ w = w' := by
  have k0 := cell_blk h.files 0
  simp at k0
  clear h
  go_enter Tryz.func42, Tryz.ntmps42
  go_wp2
  go_ret
  exact ⟨rfl, rfl⟩
set_option maxRecDepth 100000 in
set_option maxHeartbeats 2000000 in
theorem forget_any (fb db mb : Nat) (f : Fs) (id : Int) (w : World) (h : Live w fb db mb f) (hr : Rise f.t.nodes) (hid : i64 id) (hlen : f.t.nodes.length ≤ 1000000) (hel : ∀ nd ∈ f.t.nodes, nd.es.length ≤ 1000000) :
    Calls Tryz.prog 63 #[.pointer (some ⟨fb, 0, none⟩), .int .i64 id] w fun e w' => e = .returned (.tuple #[]) ∧ Live w' fb db mb (forgetF f id) ∧ Kept (Own3 fb db mb) w w' := by
  obtain ⟨ev, hd⟩ := h.disk
  have k0 := cell_blk h.files 0
  simp at k0
  have hlt := blk_lt h.files
  have hm := method_Links
  have hm2 := method_Drop
  have HK := Lib.hid (links5_any db mb f.t ev id w hd hr hlen hel)
  have HDR := Lib.hid (fun W (hW : Below w.heap.size w W) => drop_any db mb f.t ev id W (hd.below hW) hr hid)
  have HL := Lib.hid h
  unfold IntPost at HK
  unfold forgetF forgetT
  generalize links f.t.nodes id = n at *
  clear h hd
  by_cases h0 : n = 0
  · rw [if_pos h0]
    have hz : ((n : Int) == 0) = true := by simp [h0]
    clear h0
    go_enter Tryz.func63, Tryz.ntmps63
    go_wp2_with (first | (go_at_call 201; refine HK.out.mono ?_; rintro e w1 ⟨rfl, hb1⟩; have g0 := (hb1.cell (p := ⟨fb, 0, none⟩) hlt).trans k0; have HB1 := Lib.hid hb1; clear hb1) | (go_at_call 196; refine (HDR.out _ HB1.out).mono ?_; rintro e w2 ⟨rfl, hd2, hk2⟩; have HD2 := Lib.hid hd2; have HK2 := Lib.hid hk2; clear hd2 hk2))
    go_end0
    exact ⟨rfl, (HL.out.below HB1.out).stored HD2.out HK2.out, (kept_of_below HB1.out).trans (HK2.out.mono own23)⟩
  · rw [if_neg h0]
    have hz : ((n : Int) == 0) = false := by simp [h0]
    clear h0
    go_enter Tryz.func63, Tryz.ntmps63
    go_wp2_with (go_at_call 201; refine HK.out.mono ?_; rintro e w1 ⟨rfl, hb1⟩; have HB1 := Lib.hid hb1; clear hb1)
    go_end0
    exact ⟨rfl, HL.out.below HB1.out, kept_of_below HB1.out⟩
set_option maxRecDepth 100000 in
set_option maxHeartbeats 2000000 in
theorem stamp_any (fb db mb : Nat) (f : Fs) (id : Int) (w : World) (h : Live w fb db mb f) (hr : Rise f.t.nodes) (hid : i64 id) (hlen : f.t.nodes.length < 1000000) (hin : (nod f.t.nodes id).id = id) :
    Calls Tryz.prog 86 #[.pointer (some ⟨fb, 0, none⟩), .int .i64 id] w fun e w' => e = .returned (.tuple #[]) ∧ Live w' fb db mb { f with t := stampT f.t f.ck id } ∧ Kept (Own3 fb db mb) w w' := by
  obtain ⟨ev, hd⟩ := h.disk
  have k0 := cell_blk h.files 0
  have k1 := cell_blk h.files 1
  simp at k0 k1
  have hlt := blk_lt h.files
  have hm := method_Node
  have hm2 := method_Put
  have HN := Lib.hid (dnode_any db mb f.t ev id w hd hid)
  have HP := Lib.hid (fun nd (hnd : i64 nd.id) W (hW : Below w.heap.size w W) => put_any db mb f.t ev nd none 0 0 W (hd.below hW) hr hnd hlen)
  have HL := Lib.hid h
  have HI : Hid (i64 (nod f.t.nodes id).id) := Lib.hid (by rw [hin]; exact hid)
  unfold stampT
  generalize nod f.t.nodes id = nd at *
  obtain ⟨ck, hck⟩ : ∃ ck, f.ck = ck := ⟨_, rfl⟩
  rw [hck] at k1 ⊢
  unfold ndV at HN HP
  have HCK := Lib.hid hck
  clear h hd hck hin
  go_enter Tryz.func86, Tryz.ntmps86
  go_wp2_with (go_at_call 202; refine HN.out.mono ?_; rintro e w1 ⟨rfl, hb1⟩; have g0 := (hb1.cell (p := ⟨fb, 0, none⟩) hlt).trans k0; have g1 := (hb1.cell (p := ⟨fb, 1, none⟩) hlt).trans k1; have hl1 : fb < w1.heap.size := Nat.lt_of_lt_of_le hlt hb1.size; have HB1 := Lib.hid hb1; clear hb1)
  have PB := heap_alloc_new w1 (.cells #[.int .i64 nd.id, .int .i64 nd.kind, .int .i64 nd.mode, .int .i64 nd.owner, .int .i64 ck, .string (nm nd.data), .slice none 0 0] 64)
  have hbx := HB1.out.alloc HB1.out.size (.cells #[.int .i64 nd.id, .int .i64 nd.kind, .int .i64 nd.mode, .int .i64 nd.owner, .int .i64 ck, .string (nm nd.data), .slice none 0 0] 64)
  have q0 := (hbx.cell (p := ⟨fb, 0, none⟩) hlt).trans k0
  generalize w1.alloc (.cells #[.int .i64 nd.id, .int .i64 nd.kind, .int .i64 nd.mode, .int .i64 nd.owner, .int .i64 ck, .string (nm nd.data), .slice none 0 0] 64) = W1 at *
  have s0 := cell_blk PB 0
  have s1 := cell_blk PB 1
  have s2 := cell_blk PB 2
  have s3 := cell_blk PB 3
  have s4 := cell_blk PB 4
  have s5 := cell_blk PB 5
  have s6 := cell_blk PB 6
  simp at s0 s1 s2 s3 s4 s5 s6
  have HBX := Lib.hid hbx
  clear hbx PB g0 g1
  refine wp_region_still_tail 5 (by kernel_rfl) (by kernel_rfl) ?_
  simp only [List.take_succ_cons, List.take_zero, List.drop_succ_cons, List.drop_zero]
  repeat still_step
  refine wpStill_nil ?_
  change wpList _ _ _ _ _ W1.drew
  go_wp2_with (go_at_call 203; refine (HP.out { nd with time := ck } HI.out _ HBX.out.drew).mono ?_; rintro e w3 ⟨rfl, hd3, hk3⟩; have HD3 := Lib.hid hd3; have HK3 := Lib.hid hk3; clear hd3 hk3)
  go_end0
  have h9 := (HL.out.below HBX.out.drew).stored HD3.out HK3.out
  rw [HCK.out] at h9
  exact ⟨rfl, h9, (kept_of_below HBX.out.drew).trans (HK3.out.mono own23)⟩

theorem fieldR0 (a0 a1 : Value) (W : World) : (Instr.field 24 (.agg #[a0, a1]) 0).run Tryz.prog W = .ok a0 W := by kernel_rfl
theorem fieldR1 (a0 a1 : Value) (W : World) : (Instr.field 24 (.agg #[a0, a1]) 1).run Tryz.prog W = .ok a1 W := by kernel_rfl
set_option maxRecDepth 100000 in
set_option maxHeartbeats 2000000 in
theorem nodeFits_any (fb db mb : Nat) (f : Fs) (w : World) (h : Live w fb db mb f) (hr : Rise f.t.nodes) (hlen : f.t.nodes.length < 1000000) (hd : ∀ nd ∈ f.t.nodes, nd.data.length ≤ 4096) :
    Calls Tryz.prog 81 #[.pointer (some ⟨fb, 0, none⟩)] w (BoolPost (nodeFitsB f) w) := by
  obtain ⟨ev, hD⟩ := h.disk
  have k0 := cell_blk h.files 0
  simp at k0
  have hlt := blk_lt h.files
  have hm := method_Usage
  have hm2 := method_Room
  have hf := fieldR0
  have HU := Lib.hid (usage5_any db mb f.t ev w hD hr hlen hd)
  have HRM := Lib.hid (fun W (hW : Below w.heap.size w W) => room_any db mb f.t ev W (hD.below hW))
  unfold BoolPost nodeFitsB
  generalize f.t.nodes.length = n at *
  generalize f.t.rn = rn at *
  generalize f.t.rb = rb at *
  generalize sizeN f.t.nodes = sz at *
  clear h hD hr hd
  by_cases h1 : (n : Int) < rn
  · have hd1 : decide ((n : Int) < rn) = true := by simp [h1]
    rw [hd1, Bool.true_and]
    go_enter Tryz.func81, Tryz.ntmps81
    go_wp2_with (first | (go_at_call 205; refine HU.out.mono ?_; rintro e w1 ⟨rfl, hb1⟩; have g0 := (hb1.cell (p := ⟨fb, 0, none⟩) hlt).trans k0; have HB1 := Lib.hid hb1; clear hb1) | (go_at_call 204; refine (HRM.out _ HB1.out).mono ?_; rintro e w2 ⟨rfl, hb2⟩; have HB2 := Lib.hid (HB1.out.trans (hb2.mono HB1.out.size)); clear hb2))
    go_ret
    exact ⟨ret_bool (decide_eq_decide.2 (by omega)), HB2.out⟩
  · have hd1 : decide ((n : Int) < rn) = false := by simp [h1]
    rw [hd1, Bool.false_and]
    go_enter Tryz.func81, Tryz.ntmps81
    go_wp2_with (first | (go_at_call 205; refine HU.out.mono ?_; rintro e w1 ⟨rfl, hb1⟩; have g0 := (hb1.cell (p := ⟨fb, 0, none⟩) hlt).trans k0; have HB1 := Lib.hid hb1; clear hb1) | (go_at_call 204; refine (HRM.out _ HB1.out).mono ?_; rintro e w2 ⟨rfl, hb2⟩; have HB2 := Lib.hid (HB1.out.trans (hb2.mono HB1.out.size)); clear hb2))
    go_ret
    exact ⟨rfl, HB2.out⟩
set_option maxRecDepth 100000 in
set_option maxHeartbeats 2000000 in
theorem bytesFit_any (fb db mb : Nat) (f : Fs) (more : Int) (w : World) (h : Live w fb db mb f) (hr : Rise f.t.nodes) (hlen : f.t.nodes.length < 1000000) (hd : ∀ nd ∈ f.t.nodes, nd.data.length ≤ 4096) (hrb : i64 f.t.rb) :
    Calls Tryz.prog 80 #[.pointer (some ⟨fb, 0, none⟩), .int .i64 more] w (BoolPost (bytesFitB f more) w) := by
  obtain ⟨ev, hD⟩ := h.disk
  have k0 := cell_blk h.files 0
  simp at k0
  have hlt := blk_lt h.files
  have hm := method_Usage
  have hm2 := method_Room
  have hf := fieldR1
  have hsz := sizeN_le hd
  have HU := Lib.hid (usage5_any db mb f.t ev w hD hr hlen hd)
  have HRM := Lib.hid (fun W (hW : Below w.heap.size w W) => room_any db mb f.t ev W (hD.below hW))
  obtain ⟨r1, r2⟩ := hrb
  unfold BoolPost bytesFitB
  generalize f.t.nodes.length = n at *
  generalize f.t.rn = rn at *
  generalize f.t.rb = rb at *
  generalize sizeN f.t.nodes = sz at *
  clear h hD hr hd
  by_cases h0 : more ≤ 0
  · rw [if_pos h0]
    clear HU HRM
    go_enter Tryz.func80, Tryz.ntmps80
    go_wp2
    go_ret
    exact ⟨rfl, Below.refl _ _⟩
  · rw [if_neg h0]
    have hd0 : decide (more ≤ 0) = false := by simp; omega
    by_cases h1 : (sz : Int) ≤ rb
    · have hd1 : decide ((sz : Int) ≤ rb) = true := by simp [h1]
      rw [hd1, Bool.true_and]
      have hx1 : 0 ≤ rb - (sz : Int) := by omega
      go_enter Tryz.func80, Tryz.ntmps80
      go_wp2_with (first | (go_at_call 205; refine HU.out.mono ?_; rintro e w1 ⟨rfl, hb1⟩; have g0 := (hb1.cell (p := ⟨fb, 0, none⟩) hlt).trans k0; have HB1 := Lib.hid hb1; clear hb1) | (go_at_call 204; refine (HRM.out _ HB1.out).mono ?_; rintro e w2 ⟨rfl, hb2⟩; have HB2 := Lib.hid (HB1.out.trans (hb2.mono HB1.out.size)); clear hb2))
      go_ret
      exact ⟨rfl, HB2.out⟩
    · have hd1 : decide ((sz : Int) ≤ rb) = false := by simp; omega
      rw [hd1, Bool.false_and]
      go_enter Tryz.func80, Tryz.ntmps80
      go_wp2_with (first | (go_at_call 205; refine HU.out.mono ?_; rintro e w1 ⟨rfl, hb1⟩; have g0 := (hb1.cell (p := ⟨fb, 0, none⟩) hlt).trans k0; have HB1 := Lib.hid hb1; clear hb1) | (go_at_call 204; refine (HRM.out _ HB1.out).mono ?_; rintro e w2 ⟨rfl, hb2⟩; have HB2 := Lib.hid (HB1.out.trans (hb2.mono HB1.out.size)); clear hb2))
      go_ret
      exact ⟨rfl, HB2.out⟩
end Go.Proofs.YtpicgkoclbpjpaaGreatDoor
end
