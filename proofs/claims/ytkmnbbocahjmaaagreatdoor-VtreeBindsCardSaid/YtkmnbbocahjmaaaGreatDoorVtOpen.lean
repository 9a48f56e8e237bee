/- DERIVED. The walks of made, New, NewDisk, Open. -/
import Derived.Test.YtkmnbbocahjmaaaGreatDoorVtTree
import Derived.Test.YtkmnbbocahjmaaaGreatDoorTreeWay2
namespace Go.Proofs.YtkmnbbocahjmaaaGreatDoor
open Go.RowKit Go.Sort Go.Lib
open PathM TreeM VtM
set_option linter.unusedVariables false

theorem fieldT0 (a0 a1 a2 a3 : Value) (W : World) : (Instr.field 26 (.agg #[a0, a1, a2, a3]) 0).run Tryz.prog W = .ok a0 W := by kernel_rfl
theorem method_Tree (a : Addr) (w : World) : (method 345 31 (.pointer (some a)) "Tree").run Tryz.prog w = .ok (23, .pointer (some a)) w := by kernel_rfl
theorem assert_teller (a : Addr) (W : World) : (Instr.typeAssert (.iface 31 (.pointer (some a))) 80 179 true).run Tryz.prog W = .ok (.tuple #[.iface 31 (.pointer (some a)), .bool true]) W := by kernel_rfl
set_option maxRecDepth 100000 in
set_option maxHeartbeats 2000000 in
theorem made_any (db mb : Nat) (t : Tr) (ev : Int → Value) (w : World) (h : DiskIn w db mb t ev) (hr : Rise t.nodes) (hlen : t.nodes.length ≤ 1000000) (hpos : 0 < t.nodes.length) (hd : ∀ nd ∈ t.nodes, nd.data.length ≤ 4096) :
    Calls Tryz.prog 94 #[.iface 31 (.pointer (some ⟨db, 0, none⟩))] w fun e w' => e = .returned (.bool true) ∧ Below w.heap.size w w' := by
  have hT := tree5_any db mb t ev w h hr hlen hpos hd
  unfold TreePost at hT
  have HT := Lib.hid hT
  have hf := fieldT0
  have ha := assert_teller
  have hm := method_Tree
  have hpi : (0 : Int) < (t.nodes.length : Int) := by omega
  clear h hT
  unfold trV at HT
  generalize t.last = la at *
  generalize t.rn = rn at *
  generalize t.rb = rb at *
  go_enter Tryz.func94, Tryz.ntmps94
  go_wp2_with (go_at_call 23; refine HT.out.mono ?_; rintro e w1 ⟨nv, rfl, hN, hb⟩; obtain ⟨A, c, rfl⟩ := nodes_len hN; have HB := Lib.hid hb; clear hN hb)
  go_ret
  exact ⟨rfl, HB.out⟩

/-- The clock, within its bounds. -/
def ckI (c : Int) : Int := min (max c 0) 1099511627776
set_option maxRecDepth 100000 in
set_option maxHeartbeats 2000000 in
theorem new5_any (db mb : Nat) (t : Tr) (ev : Int → Value) (ck : Int) (w : World) (h : DiskIn w db mb t ev) (hr : Rise t.nodes) (hlen : t.nodes.length ≤ 1000000) (hpos : 0 < t.nodes.length) (hd : ∀ nd ∈ t.nodes, nd.data.length ≤ 4096) :
    Calls Tryz.prog 76 #[.iface 31 (.pointer (some ⟨db, 0, none⟩)), .int .i64 ck] w fun e w' => ∃ fb, e = .returned (.pointer (some ⟨fb, 0, none⟩)) ∧ w.heap.size ≤ fb ∧ Live w' fb db mb ⟨t, ckI ck⟩ ∧ Below w.heap.size w w' := by
  have HM := Lib.hid (made_any db mb t ev w h hr hlen hpos hd)
  have HD := Lib.hid h
  clear h
  go_enter Tryz.func76, Tryz.ntmps76
  go_wp2_with (go_at_call 94; refine HM.out.mono ?_; rintro e w1 ⟨rfl, hb⟩; have HB := Lib.hid hb; clear hb)
  go_ret
  have hb := (Below.refl w1.heap.size w1).alloc (Nat.le_refl _) (.cells #[.iface 31 (.pointer (some ⟨db, 0, none⟩)), .int .i64 (ckI ck)] 82)
  exact ⟨_, rfl, HB.out.size, ⟨heap_alloc_new w1 _, ⟨ev, (HD.out.below HB.out).below hb⟩, ⟨by show 0 ≤ ckI ck; unfold ckI; omega, by show ckI ck ≤ _; unfold ckI; omega⟩⟩, HB.out.trans (hb.mono HB.out.size)⟩

theorem putN_last {n : Nd} : ∀ {l : List Nd}, Rise (l ++ [n]) → putN n l = l ++ [n]
  | [], _ => rfl
  | x :: xs, h => by
    obtain ⟨h1, h2⟩ := rise_cons h
    have := h1 n (by simp)
    unfold putN
    rw [if_neg (by omega), if_neg (by omega), putN_last h2]; rfl
theorem take_next {l : List Nd} {k : Nat} (h : k < l.length) : l.take (k + 1) = l.take k ++ [ndAt l k] := by rw [List.take_add_one, ndAt_get h]; rfl
theorem rise_take {l : List Nd} (h : Rise l) (k : Nat) : Rise (l.take k) := List.Pairwise.sublist (List.take_sublist _ _) h
theorem rise_of_rising {l : List Nd} (h : Rising l) : Rise l := List.pairwise_iff_getElem.2 fun i j hi hj hij => by
  have := h i j hij hj
  have e1 : ndAt l i = l[i] := by simp [ndAt, hi]
  have e2 : ndAt l j = l[j] := by simp [ndAt, hj]
  rwa [e1, e2] at this
theorem rising_of_rise {l : List Nd} (h : Rise l) : Rising l := fun i j hij hj => by
  have := List.pairwise_iff_getElem.1 h i j (by omega) hj hij
  have e1 : ndAt l i = l[i] := by simp [ndAt, show i < l.length by omega]
  have e2 : ndAt l j = l[j] := by simp [ndAt, hj]
  rwa [e1, e2]

def NewDiskPost (t : Tr) (w : World) (e : Ending) (w' : World) : Prop := ∃ db mb ev, e = .returned (.tuple #[.pointer (some ⟨db, 0, none⟩), .int .i64 0]) ∧ w.heap.size ≤ db ∧ w.heap.size ≤ mb ∧ DiskIn w' db mb t ev ∧ Below w.heap.size w w'
set_option maxRecDepth 100000 in
set_option maxHeartbeats 8000000 in
theorem newDisk_any (nv : Value) (t : Tr) (w : World) (hN : NodesIn w w.heap.size nv t.nodes) (hc : checkB t = true) (hids : ∀ nd ∈ t.nodes, i64 nd.id) (hel : ∀ nd ∈ t.nodes, nd.es.length ≤ 100000000) :
    Calls Tryz.prog 75 #[trV nv t] w (NewDiskPost t w) := by
  obtain ⟨hri, hn, hpos, -⟩ := check_facts hc
  have hRise := rise_of_rising hri
  have hck : checkI t = 0 := by unfold checkI; rw [hc]; rfl
  have hk := fun W (hW : Below w.heap.size w W) => check_any nv t w.heap.size W (hN.below hW) hW.size
  rw [hck] at hk
  obtain ⟨hlen, ⟨A, c, rfl, h0⟩ | ⟨b, off, c, rfl, hcap, hbw, _, hcells⟩⟩ := hN.cases
  · rw [h0] at hpos; simp at hpos
  have HK := Lib.hid hk; have HR := Lib.hid hRise; have HC := Lib.hid hcells; have HIDS := Lib.hid hids; have HEL := Lib.hid hel
  clear hk hN hcells hc hck hri hids hel
  unfold trV at *
  have hmm := @run_makeMap Tryz.prog
  have hbx := (Below.refl w.heap.size w).alloc (Nat.le_refl _) (.cells #[.slice (some ⟨b, off, none⟩) t.nodes.length c, .int .i64 t.last, .int .i64 t.rn, .int .i64 t.rb] 26)
  have HBX := Lib.hid hbx
  have TB := heap_alloc_new w (.cells #[.slice (some ⟨b, off, none⟩) t.nodes.length c, .int .i64 t.last, .int .i64 t.rn, .int .i64 t.rb] 26)
  have HTB := Lib.hid TB
  have HLEN : Hid (t.nodes.length < 1000000) := Lib.hid (by omega)
  clear hbx TB
  go_enter Tryz.func75, Tryz.ntmps75
  go_wp2_with (go_at_call 93; refine (HK.out _ HBX.out).mono ?_; rintro e w1 ⟨rfl, hb1⟩; have TB1 := (hb1.block w.heap.size (by simp)).trans HTB.out; have a0 := cell_blk TB1 0; have a1 := cell_blk TB1 1; have a2 := cell_blk TB1 2; have a3 := cell_blk TB1 3; simp at a0 a1 a2 a3; have HB1 := Lib.hid (HBX.out.trans (hb1.mono (by simp))); have hlt := blk_lt TB1; clear hb1 TB1)
  have hm0 := (MapN.made w1 (fun _ => .slice none 0 0)).at (heap_alloc_old (w1.alloc (.map #[] 0)) (.cells #[.map (some w1.heap.size), .int .i64 t.last, .int .i64 t.rn, .int .i64 t.rb] 110) (by simp))
  have hd0 := heap_alloc_new (w1.alloc (.map #[] 0)) (.cells #[.map (some w1.heap.size), .int .i64 t.last, .int .i64 t.rn, .int .i64 t.rb] 110)
  have hb0 := (HB1.out.alloc HB1.out.size (.map #[] 0)).alloc (by simp; have := HB1.out.size; omega) (.cells #[.map (some w1.heap.size), .int .i64 t.last, .int .i64 t.rn, .int .i64 t.rb] 110)
  have es1 : (w1.alloc (.map #[] 0)).heap.size = w1.heap.size + 1 := by simp
  rw [es1] at hd0
  have hms := HB1.out.size
  generalize ((w1.alloc (.map #[] 0)).alloc (.cells #[.map (some w1.heap.size), .int .i64 t.last, .int .i64 t.rn, .int .i64 t.rb] 110)) = W0 at *
  generalize w1.heap.size = mb at *
  have HM0 := Lib.hid hm0; have HD0 := Lib.hid hd0; have HB0 := Lib.hid hb0
  clear hm0 hd0 hb0 es1 a0 a1 a2 a3 HB1 hlt
  go_loopw [23] (fun i wr => ∃ (k : Nat) (ev : Int → Value), i = .int .i64 k ∧ k ≤ t.nodes.length ∧ DiskIn wr (mb + 1) mb { t with nodes := t.nodes.take k } ev ∧ Below w.heap.size w wr) (fun i _ => t.nodes.length - (intOf i).toNat)
  case atStart => exact ⟨0, _, rfl, Nat.zero_le _, ⟨HD0.out, HM0.out, fun nd h => by cases h⟩, HB0.out⟩
  case round =>
    obtain ⟨k, ev, rfl, hkl, hdk, hbk⟩ := hrel
    have HDK := Lib.hid hdk; have HBK := Lib.hid hbk
    clear hdk hbk
    by_cases hk : k < t.nodes.length
    · have hki : (k : Int) < (t.nodes.length : Int) := by omega
      obtain ⟨x0, x1, x2, x3, x4, x5, hdl, xv, x6, hE⟩ := HC.out k hk
      obtain ⟨Ae, ce, rfl, _⟩ := ents_len hE
      have y0 := (HBK.out.cell (p := ⟨b, off + k * 7, none⟩) hbw).trans x0
      have y1 := (HBK.out.cell (p := ⟨b, off + k * 7 + 1, none⟩) hbw).trans x1
      have y2 := (HBK.out.cell (p := ⟨b, off + k * 7 + 2, none⟩) hbw).trans x2
      have y3 := (HBK.out.cell (p := ⟨b, off + k * 7 + 3, none⟩) hbw).trans x3
      have y4 := (HBK.out.cell (p := ⟨b, off + k * 7 + 4, none⟩) hbw).trans x4
      have y5 := (HBK.out.cell (p := ⟨b, off + k * 7 + 5, none⟩) hbw).trans x5
      have y6 := (HBK.out.cell (p := ⟨b, off + k * 7 + 6, none⟩) hbw).trans x6
      have hmem := ndAt_mem hk
      have hidn := HIDS.out _ hmem
      have hnel := HEL.out _ hmem
      have HTK := Lib.hid (take_next hk)
      have HRK : Hid (Rise (t.nodes.take k ++ [ndAt t.nodes k])) := Lib.hid (HTK.out ▸ rise_take HR.out (k + 1))
      have HLK : Hid ((t.nodes.take k).length < 1000000) := Lib.hid (by rw [List.length_take]; have := HLEN.out; omega)
      generalize ndAt t.nodes k = nd at *
      have HEN := Lib.hid ((hE.below HBK.out).more HBK.out.size)
      have hbn := heap_alloc_new wr (.cells #[.int .i64 nd.id, .int .i64 nd.kind, .int .i64 nd.mode, .int .i64 nd.owner, .int .i64 nd.time, .string (nm nd.data), .slice Ae nd.es.length ce] 64)
      have hbb := (Below.refl wr.heap.size wr).alloc (Nat.le_refl _) (.cells #[.int .i64 nd.id, .int .i64 nd.kind, .int .i64 nd.mode, .int .i64 nd.owner, .int .i64 nd.time, .string (nm nd.data), .slice Ae nd.es.length ce] 64)
      have HBN := Lib.hid hbn; have HBB := Lib.hid hbb
      have HEN2 := Lib.hid ((HEN.out.below hbb).more hbb.size)
      have HIDN := Lib.hid hidn
      have HNB := Lib.hid hE.bounds.2
      clear hbn hbb x0 x1 x2 x3 x4 x5 x6 hE hmem hidn hdl
      go_wp2_with (go_at_call 57; refine (clone_any _ _ _ HEN2.out).mono ?_; rintro e w4 ⟨v4, rfl, hown4, hb4⟩; have RB4 := (hb4.block wr.heap.size (by simp)).trans HBN.out; have f6 := froz_blk RB4 6; have x6 := cell_blk RB4 6; simp at x6; have HB4 := Lib.hid (HBB.out.trans (hb4.mono (by simp))); have HE4 := Lib.hid (row_ents hown4 (Nat.le_trans hnel (by omega)) HNB.out); obtain ⟨ve, vce, rfl⟩ := ownsRow_len3 hown4; have HRB4 := Lib.hid RB4; clear RB4 hown4 hb4)
      have RBM := set_blk (j := 6) HRB4.out (.slice ve nd.es.length vce)
      have hbM := HB4.out.setCell (p := ⟨wr.heap.size, 6, none⟩) (Nat.le_refl _) (.slice ve nd.es.length vce)
      have hEM : EntsIn (w4.setCell ⟨wr.heap.size, 6, none⟩ (.slice ve nd.es.length vce)) w4.heap.size (.slice ve nd.es.length vce) nd.es := HE4.out.keepBut2 (fun k => k = wr.heap.size) (fun b hb => by rw [hb]; exact box_noEnt HRB4.out (by simp) (by simp) (by simp) (by simp) (by simp)) (fun b hb hs => Below.heap_setCell _ _ _ _ (fun e => hs e))
      simp only [List.setIfInBounds_toArray, List.set] at RBM
      have hszM : w4.heap.size ≤ (w4.setCell ⟨wr.heap.size, 6, none⟩ (.slice ve nd.es.length vce)).heap.size := by simp
      generalize w4.setCell ⟨wr.heap.size, 6, none⟩ (.slice ve nd.es.length vce) = WM at *
      have HBM := Lib.hid hbM
      have HEM := Lib.hid (hEM.more hszM)
      have c0 := (HDK.out.below hbM).c0
      have s0 := cell_blk RBM 0
      have s1 := cell_blk RBM 1
      have s2 := cell_blk RBM 2
      have s3 := cell_blk RBM 3
      have s4 := cell_blk RBM 4
      have s5 := cell_blk RBM 5
      have s6 := cell_blk RBM 6
      simp at s0 s1 s2 s3 s4 s5 s6
      clear hbM hEM hszM f6 x6 RBM y0 y1 y2 y3 y4 y5 y6
      refine wp_region_still_tail 7 (by kernel_rfl) (by kernel_rfl) ?_
      simp only [List.take_succ_cons, List.take_zero, List.drop_succ_cons, List.drop_zero]
      repeat still_step
      refine wpStill_nil ?_
      change wpList _ _ _ _ _ WM.drew
      go_wp2_with (at_mapUpdate; refine wpList_putN rfl _ _ _ rfl mb (t.nodes.take k) ev rfl (HDK.out.below HBM.out.drew).map (rise_take HR.out k) HLK.out nd (.slice ve nd.es.length vce) rfl rfl HIDN.out ?_; intro W3 hm3 ht3)
      have E := DiskIn.bind_end HDK.out (rise_take HR.out k) HBM.out.drew hm3 ht3 HEM.out
      rw [putN_last HRK.out, ← HTK.out] at E
      have HE3 := Lib.hid E
      clear E hm3 ht3
      go_roundw
      case rel => exact ⟨k + 1, _, by go_num, by omega, HE3.out.1, HBK.out.trans (HE3.out.2.below HBK.out.size (fun j hj => by rcases hj with rfl | rfl <;> omega))⟩
      case measure => simp [intOf]; omega
    · have hke : ¬ (k : Int) < (t.nodes.length : Int) := by omega
      have HKE : Hid (t.nodes.take k = t.nodes) := Lib.hid (List.take_of_length_le (by omega))
      go_wp2
      go_ret2
      refine ⟨mb + 1, mb, ev, rfl, by omega, hms, ?_, HBK.out⟩
      have := HDK.out
      rw [HKE.out] at this
      exact this

set_option maxRecDepth 100000 in
set_option maxHeartbeats 2000000 in
theorem newDisk_bad (nv : Value) (t : Tr) (w : World) (hN : NodesIn w w.heap.size nv t.nodes) (hc : checkB t = false) :
    Calls Tryz.prog 75 #[trV nv t] w fun e w' => e = .returned (.tuple #[.pointer none, .int .i64 80]) ∧ Below w.heap.size w w' := by
  have hck : checkI t = 80 := by unfold checkI; rw [hc]; rfl
  have hk := fun W (hW : Below w.heap.size w W) => check_any nv t w.heap.size W (hN.below hW) hW.size
  rw [hck] at hk
  obtain ⟨A, c, rfl⟩ := nodes_len hN
  have HK := Lib.hid hk
  clear hk hN hck hc
  unfold trV at *
  have hbx := (Below.refl w.heap.size w).alloc (Nat.le_refl _) (.cells #[.slice A t.nodes.length c, .int .i64 t.last, .int .i64 t.rn, .int .i64 t.rb] 26)
  have HBX := Lib.hid hbx
  clear hbx
  go_enter Tryz.func75, Tryz.ntmps75
  go_wp2_with (go_at_call 93; refine (HK.out _ HBX.out).mono ?_; rintro e w1 ⟨rfl, hb1⟩; have HB1 := Lib.hid (HBX.out.trans (hb1.mono (by simp))); clear hb1)
  go_ret2
  exact ⟨rfl, HB1.out⟩
def OpenPost (t : Tr) (ck : Int) (w : World) (e : Ending) (w' : World) : Prop := ∃ fb db mb, e = .returned (.tuple #[.pointer (some ⟨fb, 0, none⟩), .pointer (some ⟨db, 0, none⟩), .int .i64 0]) ∧ w.heap.size ≤ fb ∧ w.heap.size ≤ db ∧ w.heap.size ≤ mb ∧ Live w' fb db mb ⟨t, ckI ck⟩ ∧ Below w.heap.size w w'
theorem open_arg {w : World} {nv : Value} {t : Tr} (hN : NodesIn w w.heap.size nv t.nodes) (o : Obj) : NodesIn (w.alloc o) (w.alloc o).heap.size nv t.nodes := (hN.below ((Below.refl _ _).alloc (Nat.le_refl _) o)).more (by simp)
set_option maxRecDepth 100000 in
set_option maxHeartbeats 4000000 in
theorem open5_any (nv : Value) (t : Tr) (ck : Int) (w : World) (hN : NodesIn w w.heap.size nv t.nodes) (hc : checkB t = true) (hids : ∀ nd ∈ t.nodes, i64 nd.id) (hel : ∀ nd ∈ t.nodes, nd.es.length ≤ 100000000) (hd : ∀ nd ∈ t.nodes, nd.data.length ≤ 4096) :
    Calls Tryz.prog 36 #[trV nv t, .int .i64 ck] w (OpenPost t ck w) := by
  obtain ⟨hri, hn, hpos, -⟩ := check_facts hc
  have hRise := rise_of_rising hri
  obtain ⟨A, c, rfl⟩ := nodes_len hN
  have HK := Lib.hid (newDisk_any _ t _ (open_arg hN (.cells #[.slice A t.nodes.length c, .int .i64 t.last, .int .i64 t.rn, .int .i64 t.rb] 26)) hc hids hel)
  have HNW := Lib.hid (fun db mb ev W (h : DiskIn W db mb t ev) => new5_any db mb t ev ck W h hRise (by omega) hpos hd)
  have hbx := (Below.refl w.heap.size w).alloc (Nat.le_refl _) (.cells #[.slice A t.nodes.length c, .int .i64 t.last, .int .i64 t.rn, .int .i64 t.rb] 26)
  have HBX := Lib.hid hbx
  clear hN hc hids hel hd hri hn hpos hRise hbx
  unfold trV at *
  unfold NewDiskPost at HK
  go_enter Tryz.func36, Tryz.ntmps36
  go_wp2_with (first | (go_at_call 75; refine HK.out.mono ?_; rintro e w1 ⟨db, mb, ev, rfl, h1, h2, hD, hb1⟩; have HD := Lib.hid hD; have HB1 := Lib.hid (HBX.out.trans (hb1.mono (by simp))); have HL := Lib.hid (And.intro h1 h2); clear h1 h2 hD hb1) | (go_at_call 76; refine (HNW.out db mb ev _ HD.out).mono ?_; rintro e w2 ⟨fb, rfl, hf, hL, hb2⟩; have HLV := Lib.hid hL; have HB2 := Lib.hid (HB1.out.trans (hb2.mono HB1.out.size)); have HF := Lib.hid hf; clear hf hL hb2))
  go_ret3
  exact ⟨fb, db, mb, rfl, Nat.le_trans HB1.out.size HF.out, Nat.le_trans (by simp) HL.out.1, Nat.le_trans (by simp) HL.out.2, HLV.out, HB2.out⟩
set_option maxRecDepth 100000 in
set_option maxHeartbeats 2000000 in
theorem open5_bad (nv : Value) (t : Tr) (ck : Int) (w : World) (hN : NodesIn w w.heap.size nv t.nodes) (hc : checkB t = false) :
    Calls Tryz.prog 36 #[trV nv t, .int .i64 ck] w fun e w' => e = .returned (.tuple #[.pointer none, .pointer none, .int .i64 80]) ∧ Below w.heap.size w w' := by
  obtain ⟨A, c, rfl⟩ := nodes_len hN
  have HK := Lib.hid (newDisk_bad _ t _ (open_arg hN (.cells #[.slice A t.nodes.length c, .int .i64 t.last, .int .i64 t.rn, .int .i64 t.rb] 26)) hc)
  have HBX := Lib.hid ((Below.refl w.heap.size w).alloc (Nat.le_refl _) (.cells #[.slice A t.nodes.length c, .int .i64 t.last, .int .i64 t.rn, .int .i64 t.rb] 26))
  clear hN hc
  unfold trV at *
  go_enter Tryz.func36, Tryz.ntmps36
  go_wp2_with (go_at_call 75; refine HK.out.mono ?_; rintro e w1 ⟨rfl, hb1⟩; have HB1 := Lib.hid (HBX.out.trans (hb1.mono (by simp))); clear hb1)
  go_ret3
  exact ⟨rfl, HB1.out⟩
end Go.Proofs.YtkmnbbocahjmaaaGreatDoor
