/- DERIVED. The walk of List. -/
import Derived.Test.YtpicgkoclbpjpaaGreatDoorVtG11
import Derived.Test.YtpicgkoclbpjpaaGreatDoorVmLaw2
import Derived.Test.YtpicgkoclbpjpaaGreatDoorShelf2
import Derived.Test.YtpicgkoclbpjpaaGreatDoorVtG4
import Derived.Deep.CutRange
import Derived.Deep.LoopGhost
namespace Go.Proofs.YtpicgkoclbpjpaaGreatDoor
open Go.RowKit Go.Sort Go.Lib Go.Shelf
open PathM TreeM VtM
set_option linter.unusedVariables false
attribute [local go_sem] cell_rg
attribute [local go_sem] cell_off
attribute [local go_sem] cell_far
def ListP (r : List Bs × Int) (w : World) (e : Ending) (w' : World) : Prop := ∃ v, e = .returned (.tuple #[v, .int .i64 r.2]) ∧ StrsIn w' w'.heap.size v r.1 ∧ Below w.heap.size w w'
theorem strs_nil (w : World) (B : Nat) : StrsIn w B (.slice none 0 0) [] := ⟨none, 0, rfl, by simp, fun h => absurd rfl h⟩
theorem keys_sorted {es : List Ent} (h : Sorted es) : (es.map Ent.key).mergeSort (fun x y => decide (x ≤ y)) = es.map Ent.key := by
  refine List.mergeSort_of_pairwise ?_
  rw [List.pairwise_map, List.pairwise_iff_getElem]
  intro i j hi hj hij
  have h1 := h i j hij hj
  have e1 : entAt es i = es[i] := by simp [entAt, hi]
  have e2 : entAt es j = es[j] := by simp [entAt, hj]
  rw [e1, e2] at h1
  rw [decide_eq_true_eq]
  exact fun h2 => bs_irrefl _ (bs_trans _ _ _ h1 h2)
/-- A row of names behind a sort that left them. -/
theorem put_strs {w wr : World} {acc : List Bs} {g cap n : Nat} (os : Array Obj) (hrow : wr.ownsRow w.heap.size 9 1 (.slice (some ⟨g, 0, none⟩) acc.length cap) acc.length (acc.map encN)) (hb : Below w.heap.size w wr) :
    StrsIn (grow (putRow encStr (Sort.ahead wr n) g 0 acc.toArray) os) (grow (putRow encStr (Sort.ahead wr n) g 0 acc.toArray) os).heap.size (.slice (some ⟨g, 0, none⟩) acc.length cap) acc ∧ Below w.heap.size w (grow (putRow encStr (Sort.ahead wr n) g 0 acc.toArray) os) := by
  rcases hrow.2 with ⟨h, _⟩ | ⟨g', cap', cur, hv, hg, hh, hk, hm, hs, hx⟩
  · cases h
  · cases hv
    have hlt := (Array.getElem?_eq_some_iff.1 hh).1
    have hsz : (putRow encStr (Sort.ahead wr n) g 0 acc.toArray).heap.size = wr.heap.size := by simp
    have hblk : (grow (putRow encStr (Sort.ahead wr n) g 0 acc.toArray) os).heap[g]? = some (.cells (putCells encStr 0 acc.toArray cur) 9 (0, 0)) := by
      rw [heap_grow_old _ _ (by rw [hsz]; exact hlt)]
      simp only [putRow, mapBlock, Array.getElem?_modify, heap_ahead, if_true, hh, Option.map_some, onCells]
    refine ⟨⟨_, _, rfl, by simpa using hk, fun _ => ⟨g, 0, rfl, ?_, ⟨_, _, hblk⟩, fun j hj => ?_⟩⟩, ?_⟩
    · have := blk_lt hblk; exact this
    · have hcl : acc.length ≤ cur.size := by omega
      have hc : (putCells encStr 0 acc.toArray cur)[j]? = some (encStr acc.toArray[j]!) := by
        simp only [putCells, Array.getElem?_mapIdx]
        rw [Array.getElem?_eq_getElem (by omega)]
        simp [hj]
      rw [Nat.zero_add]
      simp only [World.cell?, hblk, hc]
      rw [getElem!_pos _ j (by simpa using hj), List.getD_eq_getElem?_getD, List.getElem?_eq_getElem hj]
      simp [nm]
    · have h1 : Below w.heap.size wr (putRow encStr (Sort.ahead wr n) g 0 acc.toArray) :=
        ⟨rfl, rfl, rfl, by simp, fun k hk => by
          simp only [putRow, mapBlock, Array.getElem?_modify, heap_ahead]
          rw [if_neg (by omega)]⟩
      have h2 : Below w.heap.size (putRow encStr (Sort.ahead wr n) g 0 acc.toArray) (grow (putRow encStr (Sort.ahead wr n) g 0 acc.toArray) os) := ⟨rfl, rfl, rfl, by simp [grow], fun k hk => heap_grow_old _ _ (by rw [hsz]; have := hb.size; omega)⟩
      exact (hb.trans h1).trans h2
set_option maxRecDepth 100000 in
set_option maxHeartbeats 4000000 in
theorem list_any {k : Nat} {f : Fs} (fb db mb : Nat) (p : ByteArray) (w : World) (h : Sys w fb db mb k f) (hp : p.size ≤ maxLen) (hkk : k < 800000) :
    Calls Tryz.prog 20 #[.pointer (some ⟨fb, 0, none⟩), .string p] w (ListP (listF f p.data.toList) w) := by
  have HI := Lib.hid (there_any fb db mb p true w h hp)
  have HS := Lib.hid h
  unfold listF
  cases hr : thereF f p.data.toList true with
  | error x =>
    rw [hr] at HI
    unfold GonePost at HI
    dsimp only at HI ⊢
    clear hr h hp hkk
    go_enter Tryz.func20, Tryz.ntmps20
    go_wp2_with (go_at_call 40; (with_reducible refine HI.out.mono ?_); rintro e w2 ⟨rfl, hx0, hb2⟩; have x1 : (x == 0) = false := beq_eq_false_iff_ne.2 hx0; have x2 : (x != 0) = true := bne_iff_ne.2 hx0; have HBA := Lib.hid (hb2.alloc hb2.size (.cells #[.slice none 0 0, .string { data := #[] }, .int .i64 0, .bool false] 92)); clear hx0 hb2)
    go_ret2
    exact ⟨_, rfl, strs_nil _ _, HBA.out⟩
  | ok a =>
    obtain ⟨ha, hn4, hn2⟩ := there_ok h.ok hr
    rw [hr] at HI
    unfold GonePost at HI
    dsimp only at HI ⊢
    have his := fun W A c (hS : Sys W fb db mb k f) (hI : IntsIn W W.heap.size (.slice A a.dirs.length c) a.dirs) => isD_any fb db mb a ha W A c hS hI
    unfold BoolPost at his
    by_cases h1 : kindF f a.node = 1
    · rw [if_pos h1]
      rw [show decide (a.node ≠ 0 ∧ kindF f a.node = 1) = true from decide_eq_true ⟨hn2, h1⟩] at his
      have HISD := Lib.hid his
      have hm := method_Entries
      obtain ⟨ev, hd⟩ := h.live.disk
      have hen := h.ok.ncnt a.node
      have HEN := Lib.hid (fun W (hW : Below w.heap.size w W) => entries_any db mb f.t ev a.node W (hd.below hW) (ha.node64 h.ok) (by omega))
      unfold EntsPost at HEN
      have HSORT := Lib.hid (keys_sorted (h.ok.nsorted a.node))
      generalize (nod f.t.nodes a.node).es = es at *
      clear hr h hp his h1 hn2 hn4 ha hd
      go_enter Tryz.func20, Tryz.ntmps20
      go_wp2_with (first | (go_at_call 40; (with_reducible refine HI.out.mono ?_); rintro e w2 ⟨v, rfl, hi2, hb2⟩; unfold plV; obtain ⟨A, c, rfl⟩ := hi2.len; have HBA := Lib.hid (hb2.alloc hb2.size (.cells #[.slice A a.dirs.length c, .string (nm a.name), .int .i64 a.node, .bool a.slash] 92)); have HSA := Lib.hid (HS.out.below HBA.out); have HIA := Lib.hid ((hi2.below ((Below.refl _ _).alloc (Nat.le_refl _) (.cells #[.slice A a.dirs.length c, .string (nm a.name), .int .i64 a.node, .bool a.slash] 92))).more (show w2.heap.size ≤ (w2.alloc (.cells #[.slice A a.dirs.length c, .string (nm a.name), .int .i64 a.node, .bool a.slash] 92)).heap.size by simp)); have HBX := Lib.hid (heap_alloc_new w2 (.cells #[.slice A a.dirs.length c, .string (nm a.name), .int .i64 a.node, .bool a.slash] 92)); clear hi2 hb2) | (go_at_call 41; (with_reducible refine (HISD.out _ _ _ HSA.out HIA.out).mono ?_); rintro e w3 ⟨rfl, hb3⟩; have rb3 := (hb3.block _ (blk_lt HBX.out)).trans HBX.out; have HRB3 := Lib.hid rb3; have HB3 := Lib.hid (HBA.out.trans (hb3.mono HBA.out.size)); have HS3 := Lib.hid (HSA.out.below hb3); clear hb3 rb3; have q0 := cell_blk HRB3.out 0; have q1 := cell_blk HRB3.out 1; have q2 := cell_blk HRB3.out 2; have q3 := cell_blk HRB3.out 3; simp at q0 q1 q2 q3))
      have c0 := cell_blk HS3.out.live.files 0
      simp at c0
      have l0 := blk_lt HS3.out.live.files
      have l1 := blk_lt HRB3.out
      have HE3 := Lib.hid HB3.out.drew
      go_cut [32, 33, 34] from 26 to 31 (fun s32 s33 s34 wx => s33 = .int .i64 (es.length : Int) ∧ s34 = .int .i64 0 ∧ (∃ A5 c5, s32 = .slice A5 es.length c5) ∧ EntsIn wx wx.heap.size s32 es ∧ Below w3.heap.size w3 wx)
      case first =>
        go_region_with (go_at_call 197; (with_reducible refine (HEN.out _ HE3.out).mono ?_); rintro e w5 ⟨v5, rfl, hi5, hb5⟩; obtain ⟨A5, c5, rfl, -⟩ := ents_len hi5; have HB5 := Lib.hid ((Below.refl w3.heap.size w3).drew.trans hb5); have HI5 := Lib.hid hi5; clear hi5 hb5)
        all_goals
          go_wp2_with fail
          go_meet
          exact ⟨rfl, rfl, ⟨_, _, rfl⟩, HI5.out, HB5.out⟩
      case rest =>
        obtain ⟨rfl, rfl, ⟨A5, c5, rfl⟩, hE, hbw⟩ := hcut
        have HE := Lib.hid hE
        have HBW := Lib.hid (HB3.out.trans (hbw.mono HB3.out.size))
        clear hE hbw q0 q1 q2 q3 c0 l0 l1
        go_wp2_with fail
        go_loopw [8, 34] (fun s8 s34 wr => ∃ k : Nat, s34 = .int .i64 k ∧ k ≤ es.length ∧ wr.ownsRow wc.heap.size 9 1 s8 k (((es.map Ent.key).take k).map encN) ∧ Below wc.heap.size wc wr) (fun _ s34 _ => es.length - (intOf s34).toNat)
        case atStart => exact ⟨0, rfl, by omega, World.ownsRow_nil _ _ _ _, Below.refl _ _⟩
        case round =>
          obtain ⟨k, rfl, hk, hrow, hbel⟩ := hrel
          obtain ⟨va, vc, rfl⟩ := ownsRow_len3 hrow
          have HR := Lib.hid hrow
          have HB := Lib.hid hbel
          clear hrow hbel
          by_cases hlt : k < es.length
          · obtain ⟨b, off, hA, hbb, x0, x1⟩ := ents_at (HE.out.below HB.out) hlt
            subst hA
            have hli : (k : Int) < (es.length : Int) := by omega
            have HTK := Lib.hid (show (es.map Ent.key).take (k + 1) = (es.map Ent.key).take k ++ [(entAt es k).key] from by
              rw [List.take_add_one, List.getElem?_map, entAt_get hlt]; rfl)
            have HKL : Hid (k = ((es.map Ent.key).take k).length) := Lib.hid (by rw [List.length_take, List.length_map]; omega)
            generalize entAt es k = x at *
            go_upto_region 10 with (fail)
            have HBC := Lib.hid (HB.out.alloc HB.out.size (.cells #[.string (nm x.key), .int .i64 x.to] 75))
            have HRB := Lib.hid (HR.out.alloc (.cells #[.string (nm x.key), .int .i64 x.to] 75))
            have z0 := cell_blk (heap_alloc_new wr (.cells #[.string (nm x.key), .int .i64 x.to] 75)) 0
            generalize wr.alloc (.cells #[.string (nm x.key), .int .i64 x.to] 75) = wb at *
            generalize wr.heap.size = xb at *
            simp at z0
            have HSB : Hid (wc.heap.size ≤ (wb.alloc (.cells #[.string (nm x.key)] 9)).heap.size) := Lib.hid (by have := HBC.out.size; simp; omega)
            have HE1 : Hid (StrsIn (wb.alloc (.cells #[.string (nm x.key)] 9)) (wb.alloc (.cells #[.string (nm x.key)] 9)).heap.size (.slice (some ⟨wb.heap.size, 0, none⟩) 1 1) [x.key]) := Lib.hid ⟨_, _, rfl, by simp, fun _ => ⟨wb.heap.size, 0, rfl, by simp, OfType.of (heap_alloc_new wb (.cells #[.string (nm x.key)] 9)), fun j hj => by
              have hj0 : j = 0 := by simp at hj; exact hj
              subst hj0
              exact (cell_blk (heap_alloc_new wb (.cells #[.string (nm x.key)] 9)) 0).trans rfl⟩⟩
            have HLN : Hid ((((es.map Ent.key).take k).length + [x.key].length) * 16 ≤ 140737488355328) := Lib.hid (by rw [← HKL.out]; simp only [List.length_cons, List.length_nil]; omega)
            go_wp2_with (at_builtin; refine wpList_app_strs rfl _ _ rfl wc.heap.size _ _ [x.key] k HKL.out rfl (HRB.out.alloc (.cells #[.string (nm x.key)] 9)) HSB.out _ _ rfl HE1.out HLN.out ?_; intro v' w7 hown' hgrow; have HR7 := Lib.hid hown'; have HB7 := Lib.hid ((HBC.out.alloc HBC.out.size (.cells #[.string (nm x.key)] 9)).grown hgrow (by simp; have := HBC.out.size; omega) (fun j e => (HRB.out.lt j e).1)); clear hown' hgrow)
            go_roundw
            case rel => exact ⟨k + 1, by go_num, by omega, by have := HR7.out; rw [← HTK.out] at this; rw [show ((es.map Ent.key).take (k + 1)).length = k + 1 from by rw [HTK.out, List.length_append, ← HKL.out]; rfl] at this; exact this, HB7.out⟩
            case measure => simp [intOf]; omega
          · have hli : ¬ (k : Int) < (es.length : Int) := by omega
            obtain rfl : k = es.length := by omega
            have hl : es.length = (es.map Ent.key).length := by simp
            have hR := HR.out
            rw [List.take_of_length_le (by simp)] at hR
            have HPB := Lib.hid (fun W (h : Below wc.heap.size wc W) => HBW.out.trans (h.mono HBW.out.size))
            generalize es.map Ent.key = acc at *
            rw [hl] at hR
            simp only [hl] at hli ⊢
            have hal : acc.length < 4611686018427387904 := by omega
            have HR2 := Lib.hid hR
            clear hR hl HR
            cases va with
            | none =>
              have hnil : acc = [] := by
                rcases HR2.out.2 with ⟨_, h⟩ | ⟨g', cap', cur, hv, _⟩
                · exact List.length_eq_zero_iff.1 h
                · cases hv
              subst hnil
              have hvc : vc = 0 := by
                rcases HR2.out.2 with ⟨h, _⟩ | ⟨g', cap', cur, hv, _⟩
                · cases h; rfl
                · cases hv
              subst hvc
              have HE5 := Lib.hid (fun W => Tryz.slices_Sort_string_none none 0 W)
              go_wp2_with (go_at_call 53; (refine (HE5.out _).mono ?_); rintro e w8 ⟨rfl, rfl⟩)
              go_ret2
              exact ⟨_, rfl, strs_nil _ _, HPB.out _ HB.out⟩
            | some a =>
              obtain ⟨g', rfl⟩ : ∃ g', a = ⟨g', 0, none⟩ := by
                rcases HR2.out.2 with ⟨h, _⟩ | ⟨g', cap', cur, hv, _⟩
                · cases h
                · cases hv; exact ⟨g', rfl⟩
              have hblk : g' < wr.heap.size := by
                rcases HR2.out.2 with ⟨h, _⟩ | ⟨g2, cap', cur, hv, _, hh, _⟩
                · cases h
                · cases hv; exact blk_lt hh
              have hso := Tryz.slices_Sort_string g' 0 vc acc wr (holdsRow HR2.out) hblk hal
              rw [HSORT.out] at hso
              have HE5 := Lib.hid hso
              clear hso
              go_wp2_with (go_at_call 53; (refine HE5.out.mono ?_); rintro e w8 ⟨rfl, n, os, rfl⟩)
              go_ret2
              obtain ⟨r1, r2⟩ := put_strs (w := wc) (n := n) os HR2.out HB.out
              exact ⟨_, rfl, r1, HPB.out _ r2⟩
    · rw [if_neg h1]
      rw [show decide (a.node ≠ 0 ∧ kindF f a.node = 1) = false from decide_eq_false (fun h => h1 h.2)] at his
      have HISD := Lib.hid his
      clear hr h hp hkk his h1 hn2 hn4 ha
      go_enter Tryz.func20, Tryz.ntmps20
      go_wp2_with (first | (go_at_call 40; (with_reducible refine HI.out.mono ?_); rintro e w2 ⟨v, rfl, hi2, hb2⟩; unfold plV; obtain ⟨A, c, rfl⟩ := hi2.len; have HBA := Lib.hid (hb2.alloc hb2.size (.cells #[.slice A a.dirs.length c, .string (nm a.name), .int .i64 a.node, .bool a.slash] 92)); have HSA := Lib.hid (HS.out.below HBA.out); have HIA := Lib.hid ((hi2.below ((Below.refl _ _).alloc (Nat.le_refl _) (.cells #[.slice A a.dirs.length c, .string (nm a.name), .int .i64 a.node, .bool a.slash] 92))).more (show w2.heap.size ≤ (w2.alloc (.cells #[.slice A a.dirs.length c, .string (nm a.name), .int .i64 a.node, .bool a.slash] 92)).heap.size by simp)); have HBX := Lib.hid (heap_alloc_new w2 (.cells #[.slice A a.dirs.length c, .string (nm a.name), .int .i64 a.node, .bool a.slash] 92)); clear hi2 hb2) | (go_at_call 41; (with_reducible refine (HISD.out _ _ _ HSA.out HIA.out).mono ?_); rintro e w3 ⟨rfl, hb3⟩; have rb3 := (hb3.block _ (blk_lt HBX.out)).trans HBX.out; have HRB3 := Lib.hid rb3; have HB3 := Lib.hid (HBA.out.trans (hb3.mono HBA.out.size)); have HS3 := Lib.hid (HSA.out.below hb3); clear hb3 rb3; have q0 := cell_blk HRB3.out 0; have q1 := cell_blk HRB3.out 1; have q2 := cell_blk HRB3.out 2; have q3 := cell_blk HRB3.out 3; simp at q0 q1 q2 q3))
      go_ret2
      exact ⟨_, rfl, strs_nil _ _, HB3.out⟩
end Go.Proofs.YtpicgkoclbpjpaaGreatDoor
