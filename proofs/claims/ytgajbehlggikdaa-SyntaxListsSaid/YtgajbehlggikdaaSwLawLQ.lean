/- DERIVED. The law SyntaxLists. -/
import Derived.Test.YtgajbehlggikdaaSwGk
import Derived.Test.YtgajbehlggikdaaSyGa
import Derived.Lib.QuietBelow
namespace Go.Proofs.Ytgajbehlggikdaa.Sw
open Go.RowKit Go.Sort
open PathM WdM SyM
open Go.Proofs.Ytgajbehlggikdaa.Wd
set_option linter.unusedVariables false

theorem opsT_snoc (a : List Nat) (k : Nat) : opsT (a ++ [k]) = opsT a ++ (opT k ++ [97]) := by
  induction a with
  | nil => simp [opsT]
  | cons x a ih => rw [List.cons_append, opsT, ih, opsT]; simp
theorem n2_snoc (a b : List Nat) : n2 (a ++ b) = n2 a + n2 b := by unfold n2; rw [List.filter_append, List.length_append]
theorem n4_snoc (a b : List Nat) : n4 (a ++ b) = n4 a + n4 b := by unfold n4; rw [List.filter_append, List.length_append]
theorem sumP_cons (x : LiT) (r : List LiT) : sumP (x :: r) = (pipesOf x).length + sumP r := by simp [sumP]
theorem sumA_cons (x : LiT) (r : List LiT) : sumA (x :: r) = sumC (pipesOf x) + sumA r := by simp [sumA]
theorem sumC_cons (x : PiT) (r : List PiT) : sumC (x :: r) = cmdsOf x + sumC r := by simp [sumC]
theorem lists_many (A : Option Addr) (n c : Nat) (w : World) (h : 200 < n) (hm : n ≤ 9223372036854775807) : Calls Try.prog 6 #[.slice A n c] w fun e w' => e = .returned (.bool true) ∧ Below w.heap.size w w' := by
  have HAW := Lib.hid awake_any
  go_enter Try.func6, Try.ntmps6
  go_wp2_with (go_at_call 7; refine (HAW.out _).mono ?_; rintro e W ⟨rfl, hb⟩; have HB := Lib.hid hb; clear hb)
  go_ret
  exact ⟨rfl, HB.out⟩
set_option maxRecDepth 100000 in
set_option maxHeartbeats 6400000 in
attribute [local go_sem] cell_rgw in
theorem lists_law (A : Option Addr) (n c : Nat) (os : List Nat) (w : World) (hn : n = os.length) (hm : n ≤ 9223372036854775807) (hb : ∀ x ∈ os, x < 256) (hA : os ≠ [] → ∃ b off, A = some ⟨b, off, none⟩ ∧ b < w.heap.size ∧ ∀ i (h : i < os.length), w.cell? ⟨b, off + i, none⟩ = some (.int .u8 (os[i] : Nat))) :
    Calls Try.prog 6 #[.slice A n c] w fun e w' => e = .returned (.bool true) ∧ Below w.heap.size w w' := by
  by_cases h2 : 200 < n
  · exact lists_many A n c w h2 hm
  have HAW := Lib.hid awake_any
  have hn2 : n ≤ 200 := by omega
  have HA := Lib.hid hA
  have HBY := Lib.hid hb
  have HNL := Lib.hid hn
  clear hA hb hn hm h2
  go_enter Try.func6, Try.ntmps6
  go_wp2_with fail
  go_loopg [3, 4, 5, 6, 7] n (fun g s3 s4 s5 s6 s7 wr => ∃ (i : Nat) (y : ByteArray) (c2 c4 ca : Nat), g = n - i ∧ s7 = .int .i64 i ∧ i ≤ n ∧ s3 = .string y ∧ Hid (y.data.toList = 97 :: opsT ((os.take i).map (· % 5))) ∧ y.size ≤ 1 + 5 * i ∧ s4 = .int .i64 c2 ∧ Hid (c2 = 1 + n2 ((os.take i).map (· % 5))) ∧ c2 ≤ 1 + i ∧ s5 = .int .i64 c4 ∧ Hid (c4 = 1 + n4 ((os.take i).map (· % 5))) ∧ c4 ≤ 1 + i ∧ s6 = .int .i64 ca ∧ Hid (ca = 1 + i) ∧ ca ≤ 201 ∧ Below w.heap.size w wr)
  case atStart => exact ⟨0, _, 1, 1, 1, by omega, rfl, by omega, rfl, Lib.hid (by simp [opsT]), by decide, rfl, Lib.hid (by simp [n2]), by omega, rfl, Lib.hid (by simp [n4]), by omega, rfl, Lib.hid rfl, by omega, Below.refl _ _⟩
  case round =>
    obtain ⟨i, y, c2, c4, ca, rfl, rfl, hi, rfl, HY, hy, rfl, HN2, hc2, rfl, HN4, hc4, rfl, HCA, hca, hbe⟩ := hrel
    have HBE := Lib.hid hbe
    have hwr := hbe.size
    by_cases hil : i < n
    · have hil2 : i < os.length := by have := HNL.out; omega
      obtain ⟨b, off, hA, hbl, hcell⟩ := HA.out (fun e => by rw [e] at hil2; cases hil2)
      subst hA
      have a0 := cell_below hbe hbl (hcell i hil2)
      have hz : b < wr.heap.size := by omega
      have HTK : Hid (os.take (i + 1) = os.take i ++ [os[i]]) := Lib.hid (List.take_succ_eq_append_getElem hil2)
      have hxb := HBY.out _ (List.getElem_mem hil2)
      generalize os[i] = x at *
      obtain ⟨k, hk⟩ : ∃ k, x % 5 = k := ⟨_, rfl⟩
      have hk5 : k < 5 := by omega
      have hkx : (x : Int) % 5 = (k : Int) := by omega
      have HX5 := Lib.hid hk
      clear hbe hcell HBY HA hk
      go_upto_region 9 with (fail)
      clear hkx a0 hz
      generalize (x : Int) % 5 = x5 at *
      rcases (by omega : k = 0 ∨ k = 1 ∨ k = 2 ∨ k = 3 ∨ k = 4) with rfl | rfl | rfl | rfl | rfl
      · have hx5 := HX5.out
        obtain ⟨y1, t1, m1, r1⟩ := cat_any y ⟨#[59]⟩ (1 + 5 * i) 4 hy (by decide) (by omega)
        obtain ⟨y2, t2, m2, r2⟩ := cat_any y1 ⟨#[97]⟩ (1 + 5 * i + 4) 1 m1 (by decide) (by omega)
        have HN : Hid (y2.data.toList = 97 :: opsT ((os.take (i + 1)).map (· % 5))) := Lib.hid (by
          rw [HTK.out, List.map_append, List.map_cons, List.map_nil, hx5, opsT_snoc, t2.out, t1.out, HY.out]
          simp [opT])
        have HC2 : Hid (c2 + 1 = 1 + n2 ((os.take (i + 1)).map (· % 5))) := Lib.hid (by have e := HN2.out; have e2 : n2 [0] = 1 := (by decide); rw [HTK.out, List.map_append, List.map_cons, List.map_nil, hx5, n2_snoc]; omega)
        have HC4 : Hid (c4 + 1 = 1 + n4 ((os.take (i + 1)).map (· % 5))) := Lib.hid (by have e := HN4.out; have e2 : n4 [0] = 1 := (by decide); rw [HTK.out, List.map_append, List.map_cons, List.map_nil, hx5, n4_snoc]; omega)
        have HCB : Hid (ca + 1 = 1 + (i + 1)) := Lib.hid (by have := HCA.out; omega)
        clear hx5 t1 t2 HTK HY HN2 HN4 HX5 hil2
        go_wp2_with fail
        go_roundg (n - (i + 1))
        case measure => omega
        case rel =>
          have hbz : Below w.heap.size w (wr.alloc (.cells #[.string ⟨#[59]⟩, .string ⟨#[10]⟩, .string ⟨#[32, 38, 38, 32]⟩, .string ⟨#[124, 124]⟩, .string ⟨#[124]⟩] 9)) := HBE.out.alloc hwr _
          refine ⟨i + 1, y2, c2 + 1, c4 + 1, ca + 1, rfl, ?_, ?_, rfl, HN, ?_, ?_, HC2, ?_, ?_, HC4, ?_, ?_, HCB, ?_, hbz⟩
          · go_num
          · omega
          · omega
          · go_num
          · omega
          · go_num
          · omega
          · go_num
          · have := HCA.out; omega
      · have hx5 := HX5.out
        obtain ⟨y1, t1, m1, r1⟩ := cat_any y ⟨#[10]⟩ (1 + 5 * i) 4 hy (by decide) (by omega)
        obtain ⟨y2, t2, m2, r2⟩ := cat_any y1 ⟨#[97]⟩ (1 + 5 * i + 4) 1 m1 (by decide) (by omega)
        have HN : Hid (y2.data.toList = 97 :: opsT ((os.take (i + 1)).map (· % 5))) := Lib.hid (by
          rw [HTK.out, List.map_append, List.map_cons, List.map_nil, hx5, opsT_snoc, t2.out, t1.out, HY.out]
          simp [opT])
        have HC2 : Hid (c2 + 1 = 1 + n2 ((os.take (i + 1)).map (· % 5))) := Lib.hid (by have e := HN2.out; have e2 : n2 [1] = 1 := (by decide); rw [HTK.out, List.map_append, List.map_cons, List.map_nil, hx5, n2_snoc]; omega)
        have HC4 : Hid (c4 + 1 = 1 + n4 ((os.take (i + 1)).map (· % 5))) := Lib.hid (by have e := HN4.out; have e2 : n4 [1] = 1 := (by decide); rw [HTK.out, List.map_append, List.map_cons, List.map_nil, hx5, n4_snoc]; omega)
        have HCB : Hid (ca + 1 = 1 + (i + 1)) := Lib.hid (by have := HCA.out; omega)
        clear hx5 t1 t2 HTK HY HN2 HN4 HX5 hil2
        go_wp2_with fail
        go_roundg (n - (i + 1))
        case measure => omega
        case rel =>
          have hbz : Below w.heap.size w (wr.alloc (.cells #[.string ⟨#[59]⟩, .string ⟨#[10]⟩, .string ⟨#[32, 38, 38, 32]⟩, .string ⟨#[124, 124]⟩, .string ⟨#[124]⟩] 9)) := HBE.out.alloc hwr _
          refine ⟨i + 1, y2, c2 + 1, c4 + 1, ca + 1, rfl, ?_, ?_, rfl, HN, ?_, ?_, HC2, ?_, ?_, HC4, ?_, ?_, HCB, ?_, hbz⟩
          · go_num
          · omega
          · omega
          · go_num
          · omega
          · go_num
          · omega
          · go_num
          · have := HCA.out; omega
      · have hx5 := HX5.out
        obtain ⟨y1, t1, m1, r1⟩ := cat_any y ⟨#[32, 38, 38, 32]⟩ (1 + 5 * i) 4 hy (by decide) (by omega)
        obtain ⟨y2, t2, m2, r2⟩ := cat_any y1 ⟨#[97]⟩ (1 + 5 * i + 4) 1 m1 (by decide) (by omega)
        have HN : Hid (y2.data.toList = 97 :: opsT ((os.take (i + 1)).map (· % 5))) := Lib.hid (by
          rw [HTK.out, List.map_append, List.map_cons, List.map_nil, hx5, opsT_snoc, t2.out, t1.out, HY.out]
          simp [opT])
        have HC2 : Hid (c2 = 1 + n2 ((os.take (i + 1)).map (· % 5))) := Lib.hid (by have e := HN2.out; have e2 : n2 [2] = 0 := (by decide); rw [HTK.out, List.map_append, List.map_cons, List.map_nil, hx5, n2_snoc]; omega)
        have HC4 : Hid (c4 + 1 = 1 + n4 ((os.take (i + 1)).map (· % 5))) := Lib.hid (by have e := HN4.out; have e2 : n4 [2] = 1 := (by decide); rw [HTK.out, List.map_append, List.map_cons, List.map_nil, hx5, n4_snoc]; omega)
        have HCB : Hid (ca + 1 = 1 + (i + 1)) := Lib.hid (by have := HCA.out; omega)
        clear hx5 t1 t2 HTK HY HN2 HN4 HX5 hil2
        go_wp2_with fail
        go_roundg (n - (i + 1))
        case measure => omega
        case rel =>
          have hbz : Below w.heap.size w (wr.alloc (.cells #[.string ⟨#[59]⟩, .string ⟨#[10]⟩, .string ⟨#[32, 38, 38, 32]⟩, .string ⟨#[124, 124]⟩, .string ⟨#[124]⟩] 9)) := HBE.out.alloc hwr _
          refine ⟨i + 1, y2, c2, c4 + 1, ca + 1, rfl, ?_, ?_, rfl, HN, ?_, ?_, HC2, ?_, ?_, HC4, ?_, ?_, HCB, ?_, hbz⟩
          · go_num
          · omega
          · omega
          · go_num
          · omega
          · go_num
          · omega
          · go_num
          · have := HCA.out; omega
      · have hx5 := HX5.out
        obtain ⟨y1, t1, m1, r1⟩ := cat_any y ⟨#[124, 124]⟩ (1 + 5 * i) 4 hy (by decide) (by omega)
        obtain ⟨y2, t2, m2, r2⟩ := cat_any y1 ⟨#[97]⟩ (1 + 5 * i + 4) 1 m1 (by decide) (by omega)
        have HN : Hid (y2.data.toList = 97 :: opsT ((os.take (i + 1)).map (· % 5))) := Lib.hid (by
          rw [HTK.out, List.map_append, List.map_cons, List.map_nil, hx5, opsT_snoc, t2.out, t1.out, HY.out]
          simp [opT])
        have HC2 : Hid (c2 = 1 + n2 ((os.take (i + 1)).map (· % 5))) := Lib.hid (by have e := HN2.out; have e2 : n2 [3] = 0 := (by decide); rw [HTK.out, List.map_append, List.map_cons, List.map_nil, hx5, n2_snoc]; omega)
        have HC4 : Hid (c4 + 1 = 1 + n4 ((os.take (i + 1)).map (· % 5))) := Lib.hid (by have e := HN4.out; have e2 : n4 [3] = 1 := (by decide); rw [HTK.out, List.map_append, List.map_cons, List.map_nil, hx5, n4_snoc]; omega)
        have HCB : Hid (ca + 1 = 1 + (i + 1)) := Lib.hid (by have := HCA.out; omega)
        clear hx5 t1 t2 HTK HY HN2 HN4 HX5 hil2
        go_wp2_with fail
        go_roundg (n - (i + 1))
        case measure => omega
        case rel =>
          have hbz : Below w.heap.size w (wr.alloc (.cells #[.string ⟨#[59]⟩, .string ⟨#[10]⟩, .string ⟨#[32, 38, 38, 32]⟩, .string ⟨#[124, 124]⟩, .string ⟨#[124]⟩] 9)) := HBE.out.alloc hwr _
          refine ⟨i + 1, y2, c2, c4 + 1, ca + 1, rfl, ?_, ?_, rfl, HN, ?_, ?_, HC2, ?_, ?_, HC4, ?_, ?_, HCB, ?_, hbz⟩
          · go_num
          · omega
          · omega
          · go_num
          · omega
          · go_num
          · omega
          · go_num
          · have := HCA.out; omega
      · have hx5 := HX5.out
        obtain ⟨y1, t1, m1, r1⟩ := cat_any y ⟨#[124]⟩ (1 + 5 * i) 4 hy (by decide) (by omega)
        obtain ⟨y2, t2, m2, r2⟩ := cat_any y1 ⟨#[97]⟩ (1 + 5 * i + 4) 1 m1 (by decide) (by omega)
        have HN : Hid (y2.data.toList = 97 :: opsT ((os.take (i + 1)).map (· % 5))) := Lib.hid (by
          rw [HTK.out, List.map_append, List.map_cons, List.map_nil, hx5, opsT_snoc, t2.out, t1.out, HY.out]
          simp [opT])
        have HC2 : Hid (c2 = 1 + n2 ((os.take (i + 1)).map (· % 5))) := Lib.hid (by have e := HN2.out; have e2 : n2 [4] = 0 := (by decide); rw [HTK.out, List.map_append, List.map_cons, List.map_nil, hx5, n2_snoc]; omega)
        have HC4 : Hid (c4 = 1 + n4 ((os.take (i + 1)).map (· % 5))) := Lib.hid (by have e := HN4.out; have e2 : n4 [4] = 0 := (by decide); rw [HTK.out, List.map_append, List.map_cons, List.map_nil, hx5, n4_snoc]; omega)
        have HCB : Hid (ca + 1 = 1 + (i + 1)) := Lib.hid (by have := HCA.out; omega)
        clear hx5 t1 t2 HTK HY HN2 HN4 HX5 hil2
        go_wp2_with fail
        go_roundg (n - (i + 1))
        case measure => omega
        case rel =>
          have hbz : Below w.heap.size w (wr.alloc (.cells #[.string ⟨#[59]⟩, .string ⟨#[10]⟩, .string ⟨#[32, 38, 38, 32]⟩, .string ⟨#[124, 124]⟩, .string ⟨#[124]⟩] 9)) := HBE.out.alloc hwr _
          refine ⟨i + 1, y2, c2, c4, ca + 1, rfl, ?_, ?_, rfl, HN, ?_, ?_, HC2, ?_, ?_, HC4, ?_, ?_, HCB, ?_, hbz⟩
          · go_num
          · omega
          · omega
          · go_num
          · omega
          · go_num
          · omega
          · go_num
          · have := HCA.out; omega
    · obtain rfl : i = n := by omega
      obtain ⟨ops, hops⟩ : ∃ ops, (os.take i).map (· % 5) = ops := ⟨_, rfl⟩
      rw [hops] at HY HN2 HN4
      have hol : ops.length = i := by rw [← hops, List.length_map, List.length_take]; have := HNL.out; omega
      obtain ⟨ls, g1, g2, g3, g4, g5⟩ := plain_script 16 ops
      have hpy : parseL y.data.toList = .ok ls [] := by rw [HY.out]; exact g1
      have hps := fun W => Parse_any y W (by omega)
      unfold ParsePost at hps
      rw [hpy] at hps
      have HPS := Lib.hid hps
      have hlc : ls.length = c2 := by rw [g2]; exact HN2.out.symm
      have hsp : sumP ls = c4 := by rw [g4]; exact HN4.out.symm
      have hsa : sumA ls = ca := by rw [g5, hol]; exact HCA.out.symm
      have HG3 := Lib.hid g3
      have HLC := Lib.hid hlc
      have HSP := Lib.hid hsp
      have HSA := Lib.hid hsa
      have hcp : 0 < c2 := by have := HN2.out; omega
      clear hpy hps g1 g2 g3 g4 g5 hol hops HY HN2 HN4 HCA HA HBY HNL hlc hsp hsa hil hbe
      obtain ⟨wO, rfl⟩ : ∃ wO : World, wO = wr := ⟨_, rfl⟩
      go_wp2_with fail
      refine (HPS.out wO).mono ?_
      rintro e W1 ⟨hb1, v1, rfl, hv1⟩
      have hv1 : Sl 2 (RLi (LsIn 17)) W1 (Nw wO.heap.size W1) v1 ls := hv1
      obtain ⟨⟨L1, lc1, rfl⟩, hll⟩ := hv1.len
      rw [HLC.out] at hv1 hll ⊢
      have hne : ls ≠ [] := fun e => by have := HLC.out; rw [e] at this; simp at this; omega
      obtain ⟨lb, lo, hL, _, hlb, hcl⟩ := hv1.at_ hne
      subst hL
      have HB1 := Lib.hid (HBE.out.trans (hb1.mono HBE.out.size))
      have HCL := Lib.hid hcl
      clear hb1 hv1 hcl hne HPS HBE hwr
      go_wp2_with fail
      go_loopg [12, 5, 6] c2 (fun g x12 x5 x6 wk => ∃ (j p q : Nat), g = c2 - j ∧ x12 = .int .i64 j ∧ j ≤ c2 ∧ x5 = .int .i64 p ∧ Hid (p = sumP (ls.drop j)) ∧ p ≤ 300 ∧ x6 = .int .i64 q ∧ Hid (q = sumA (ls.drop j)) ∧ q ≤ 300 ∧ Below W1.heap.size W1 wk)
      case atStart => exact ⟨0, c4, ca, by omega, rfl, by omega, rfl, Lib.hid (by rw [List.drop_zero]; exact HSP.out.symm), by omega, rfl, Lib.hid (by rw [List.drop_zero]; exact HSA.out.symm), by omega, Below.refl _ _⟩
      case round =>
        obtain ⟨j, p, q, rfl, rfl, hj, rfl, HP, hp, rfl, HQ, hq, hbk⟩ := hrel
        have HBK := Lib.hid hbk
        have hsz := hbk.size
        by_cases hjl : j < c2
        · have hjl2 : j < ls.length := by have := HLC.out; omega
          obtain ⟨vs, _, hc1, hx1⟩ := HCL.out j hjl2
          have hd : ls.drop j = ls[j] :: ls.drop (j + 1) := List.drop_eq_getElem_cons hjl2
          have hmem := HG3.out _ (List.getElem_mem hjl2)
          have hP := HP.out
          have hQ := HQ.out
          rw [hd, sumP_cons] at hP
          rw [hd, sumA_cons] at hQ
          generalize ls[j] = x at *
          obtain ⟨ps, ops'⟩ := x
          replace hmem : ps.length = ops'.length + 1 := hmem
          replace hP : p = ps.length + sumP (ls.drop (j + 1)) := hP
          replace hQ : q = sumC ps + sumA (ls.drop (j + 1)) := hQ
          obtain ⟨pv, ov, rfl, hpv, hov⟩ := hx1
          obtain ⟨⟨P1, pc1, rfl⟩, _⟩ := hpv.len
          obtain ⟨⟨O1, oc1, rfl⟩, _⟩ := hov.len
          have a0 := cell_below hbk hlb (hc1 0 _ rfl)
          have a1 := cell_below hbk hlb (hc1 1 _ rfl)
          simp only [Nat.add_zero] at a0
          have hpn : ps ≠ [] := fun e => by rw [e] at hmem; simp at hmem
          obtain ⟨pb, po, hPA, _, hpb, hpc⟩ := hpv.at_ hpn
          subst hPA
          obtain ⟨no, hno⟩ : ∃ no, ops'.length = no := ⟨_, rfl⟩
          obtain ⟨np, hnp⟩ : ∃ np, ps.length = np := ⟨_, rfl⟩
          rw [hno] at a1 hmem
          rw [hnp] at a0 hmem hP
          have HNP := Lib.hid hnp
          obtain ⟨sp, hsp⟩ : ∃ sp, sumP (ls.drop (j + 1)) = sp := ⟨_, rfl⟩
          have HSP2 := Lib.hid hsp
          rw [hsp] at hP
          have hp1 : sp ≤ 300 ∧ np ≤ 300 := by omega
          have HPE := Lib.hid hP
          have HQE := Lib.hid hQ
          have HPC := Lib.hid hpc
          have HME := Lib.hid hmem
          have hw1 : IntKind.i64.wrap ((p : Int) - (np : Int)) = (sp : Int) := by rw [IntWalk.i64_in _ (by omega)]; omega
          have hw2 : IntKind.i64.wrap ((np : Int) - 1) = (no : Int) := by rw [IntWalk.i64_in _ (by omega)]; omega
          have hz1 : lb < wr.heap.size := by omega
          clear hP hQ hpc hmem hnp hsp hno hc1 hpv hov hpn hd HP HQ hbk
          obtain ⟨wP, rfl⟩ : ∃ wP : World, wP = wr := ⟨_, rfl⟩
          go_wp2_with fail
          refine wp_region_quiet_below (by kernel_rfl) (by kernel_rfl) ?_
          repeat (first | go_big_quiet_step ((fail)) | quiet_step ((fail)))
          refine wpQuiet_nil ?_
          intro _ hw'
          obtain ⟨⟨dq, osq⟩, hw''⟩ := hw'
          subst hw''
          have hb2 := below_regrown wP dq osq
          go_wp2_with fail
          generalize grow (redrawn wP dq) osq = w2 at *
          have HB2 := Lib.hid (HBK.out.trans (hb2.mono HBK.out.size))
          have z2 := hb2.size
          clear hb2
          go_loopg [13, 6] np (fun g x13 x6 wk => ∃ (k r : Nat), g = np - k ∧ x13 = .int .i64 k ∧ k ≤ np ∧ x6 = .int .i64 r ∧ Hid (r = sumC (ps.drop k) + sumA (ls.drop (j + 1))) ∧ r ≤ 300 ∧ wk = w2)
          case atStart => exact ⟨0, q, by omega, rfl, by omega, rfl, Lib.hid (by rw [List.drop_zero]; exact HQE.out), hq, rfl⟩
          case round =>
            obtain ⟨k, r, rfl, rfl, hk, rfl, HR, hr, rfl⟩ := hrel
            have b0 := cell_below (HB2.out.mono (Nat.le_refl _)) hlb ((World.cell?_of_block (HBK.out.block lb hlb)).symm.trans a0)
            have hy1 : lb < wr.heap.size := by omega
            by_cases hkl : k < np
            · have hkl2 : k < ps.length := by have := HNP.out; omega
              obtain ⟨us, _, hc2, hx2⟩ := HPC.out k hkl2
              have hd : ps.drop k = ps[k] :: ps.drop (k + 1) := List.drop_eq_getElem_cons hkl2
              have hR := HR.out
              rw [hd, sumC_cons] at hR
              generalize ps[k] = x at *
              obtain ⟨ng, cs⟩ := x
              replace hR : r = cs.length + sumC (ps.drop (k + 1)) + sumA (ls.drop (j + 1)) := hR
              obtain ⟨cv, rfl, hcv⟩ := hx2
              obtain ⟨⟨C1, cc1, rfl⟩, _⟩ := hcv.len
              have k1 := cell_below HB2.out hpb (hc2 1 _ rfl)
              have hy2 : pb < wr.heap.size := by have := HB2.out.size; omega
              obtain ⟨nc, hnc⟩ : ∃ nc, cs.length = nc := ⟨_, rfl⟩
              rw [hnc] at k1 hR
              obtain ⟨sr, hsr⟩ : ∃ sr, sumC (ps.drop (k + 1)) + sumA (ls.drop (j + 1)) = sr := ⟨_, rfl⟩
              have HSR : Hid (sr = sumC (ps.drop (k + 1)) + sumA (ls.drop (j + 1))) := Lib.hid hsr.symm
              have hr1 : sr ≤ 300 := by omega
              have hw3 : IntKind.i64.wrap ((r : Int) - (nc : Int)) = (sr : Int) := by rw [IntWalk.i64_in _ (by omega)]; omega
              clear hR hc2 hcv hd hsr hnc HR
              go_wp2_with fail
              go_roundg (np - (k + 1))
              case measure => omega
              case rel => exact ⟨k + 1, sr, rfl, by go_num, by omega, rfl, HSR, hr1, rfl⟩
            · have hkn : k = np := by omega
              have HRN : Hid (r = sumA (ls.drop (j + 1))) := Lib.hid (by
                have h1 := HR.out
                rw [List.drop_of_length_le (by have := HNP.out; omega)] at h1
                simpa [sumC] using h1)
              clear HR
              go_wp2_with fail
              go_roundg (c2 - (j + 1))
              case measure => omega
              case rel => exact ⟨j + 1, sp, r, rfl, by go_num, by omega, rfl, Lib.hid HSP2.out.symm, by omega, rfl, HRN, hr, HB2.out⟩
        · have hp0 : p = 0 := by
            have h1 := HP.out
            rw [List.drop_of_length_le (by have := HLC.out; omega)] at h1
            simpa [sumP] using h1
          have hq0 : q = 0 := by
            have h1 := HQ.out
            rw [List.drop_of_length_le (by have := HLC.out; omega)] at h1
            simpa [sumA] using h1
          subst hp0
          subst hq0
          have HBB := Lib.hid (HB1.out.trans (hbk.mono HB1.out.size))
          clear hbk HP HQ
          go_wp2_with (go_at_call 7; refine (HAW.out _).mono ?_; rintro e W2 ⟨rfl, hb⟩; have HB9 := Lib.hid (HBB.out.trans (hb.mono HBB.out.size)); clear hb)
          go_ret
          exact ⟨rfl, HB9.out⟩

end Go.Proofs.Ytgajbehlggikdaa.Sw
