/- DERIVED. The law's commands, held against themselves. -/
import Derived.Test.YtgajbehlggikdaaSwGj
import Derived.Deep.Cut
import Derived.Deep.CutRange
namespace Go.Proofs.Ytgajbehlggikdaa.Sw
open Go.RowKit Go.Sort
open PathM WdM SyM
open Go.Proofs.Ytgajbehlggikdaa.Wd
set_option linter.unusedVariables false

theorem dn_below {B : Nat} {a w : World} (h : Below B a w) (n : Nat) : Below B a (w.drewN n) := ⟨h.os, h.tape, h.output, h.size, h.block⟩
/-- Two commands' boxes. -/
structure CB (w : World) (xb yb : Nat) (X Y : Array Value) (W : World) : Prop where
  below : Below w.heap.size w W
  bx : W.heap[xb]? = some (.cells X 42 (0, 0))
  cy : W.heap[yb]? = some (.cells Y 42 (0, 0))
theorem CB.step {w : World} {xb yb : Nat} {X Y : Array Value} {W W' : World} (h : CB w xb yb X Y W) (hb : Below W.heap.size W W') : CB w xb yb X Y W' :=
  ⟨h.below.trans (hb.mono h.below.size), (hb.block xb (fin_at h.bx)).trans h.bx, (hb.block yb (fin_at h.cy)).trans h.cy⟩
theorem CB.dn {w : World} {xb yb : Nat} {X Y : Array Value} {W : World} (h : CB w xb yb X Y W) (k : Nat) : CB w xb yb X Y (W.drewN k) := h.step (dn_below (Below.refl _ _) k)
theorem CB.make {w W : World} {X Y : Array Value} (hb : Below w.heap.size w W) : CB w W.heap.size (W.heap.size + 1) X Y ((W.alloc (.cells X 42)).alloc (.cells Y 42)).drew := by
  have h0 : CB w W.heap.size (W.heap.size + 1) X Y ((W.alloc (.cells X 42)).alloc (.cells Y 42)) := by
    refine ⟨(hb.alloc hb.size _).alloc (by simp only [World.size_alloc]; have := hb.size; omega) _, ?_, ?_⟩
    · exact (Below.heap_alloc _ _ _ (by simp only [World.size_alloc]; omega)).trans (heap_alloc_new W _)
    · have := heap_alloc_new (W.alloc (.cells X 42)) (.cells Y 42)
      simpa only [World.size_alloc] using this
  exact h0.dn 1
theorem CB.swap {w W : World} {xb yb : Nat} {X Y : Array Value} (h : CB w xb yb X Y W) : CB w yb xb Y X W := ⟨h.below, h.cy, h.bx⟩
theorem lists_below {d : Nat} (h : LsSame d) {v u : Value} {l : List LiT} {w W : World} {S T : Nat → Prop} (hb : Below w.heap.size w W) (h1 : LsIn d w S v l) (h2 : LsIn d w T u l) : Calls Try.prog 9 #[v, u] W fun e w' => e = .returned (.bool true) ∧ Below W.heap.size W w' :=
  h l v u W S T (good_below (LsIn.good d) hb h1) (good_below (LsIn.good d) hb h2)
theorem same_below {v u : Value} {l : List PT} {w W : World} {S T : Nat → Prop} (hb : Below w.heap.size w W) (h1 : PIn 17 w S v l) (h2 : PIn 17 w T u l) : Calls Try.prog 15 #[v, u] W fun e w' => e = .returned (.bool true) ∧ Below W.heap.size W w' := by
  have h := rsame_any 17 17 v u l l W S T (good_below (pin_good 17) hb h1) (good_below (pin_good 17) hb h2)
  rw [same_self] at h
  refine h.mono ?_
  rintro e w' ⟨rfl, j, rfl⟩
  exact ⟨rfl, dn_below (Below.refl _ _) j⟩
theorem words_below {v u : Value} {l : List (List PT)} {w W : World} {S T : Nat → Prop} (hb : Below w.heap.size w W) (h1 : Sl 1 RWord w S v l) (h2 : Sl 1 RWord w T u l) : Calls Try.prog 14 #[v, u] W fun e w' => e = .returned (.bool true) ∧ Below W.heap.size W w' := by
  have h := words_any l v u W S T (good_below (Sl.good 1 _ RWord.good) hb h1) (good_below (Sl.good 1 _ RWord.good) hb h2)
  refine h.mono ?_
  rintro e w' ⟨rfl, j, rfl⟩
  exact ⟨rfl, dn_below (Below.refl _ _) j⟩
set_option maxRecDepth 100000 in
set_option maxHeartbeats 1600000 in
theorem cmds_none (A A2 : Option Addr) (c c2 : Nat) (w : World) : SameOk 11 w (.slice A 0 c) (.slice A2 0 c2) := by
  unfold SameOk
  go_enter Try.func11, Try.ntmps11
  go_wp2_with fail
  go_loopg [5] 0 (fun g y wr => y = .int .i64 0 ∧ wr = w)
  case atStart => exact ⟨rfl, rfl⟩
  case round =>
    obtain ⟨rfl, rfl⟩ := hrel
    go_wp2_with fail
    go_ret
    exact ⟨rfl, Below.refl _ _⟩
set_option maxRecDepth 100000 in
set_option maxHeartbeats 3200000 in
attribute [local go_sem] cell_rgw in
theorem cmds_step {d : Nat} (hL : LsSame d) : CsSame d := by
  intro l v u w S T hv hu
  obtain ⟨⟨A, c, rfl⟩, hlen⟩ := Sl.len hv
  obtain ⟨⟨A2, c2, rfl⟩, _⟩ := Sl.len hu
  by_cases h0 : l = []
  · subst h0
    exact cmds_none A A2 c c2 w
  · unfold SameOk
    obtain ⟨b, off, rfl, _, hb, hl⟩ := Sl.at_ hv h0
    obtain ⟨b', off', rfl, _, hb', hm⟩ := Sl.at_ hu h0
    have HL := Lib.hid hl
    have HM := Lib.hid hm
    have HC := Lib.hid hL
    obtain ⟨n, hn⟩ : ∃ n, l.length = n := ⟨_, rfl⟩
    rw [hn] at hlen
    have HN := Lib.hid hn
    rw [hn]
    clear hl hm hv hu hn h0 hL
    go_enter Try.func11, Try.ntmps11
    go_wp2_with fail
    go_loopg [5] n (fun g y wr => ∃ i : Nat, g = n - i ∧ y = .int .i64 i ∧ Below w.heap.size w wr ∧ i ≤ n)
    case atStart => exact ⟨0, by omega, rfl, Below.refl _ _, by omega⟩
    case round =>
      obtain ⟨i, rfl, rfl, hbe, hi⟩ := hrel
      have HBE := Lib.hid hbe
      have hwr := hbe.size
      by_cases hil : i < n
      · obtain ⟨vs, hvl, hvc, hr⟩ := HL.out i (by have := HN.out; omega)
        obtain ⟨us, hul, huc, hs⟩ := HM.out i (by have := HN.out; omega)
        obtain ⟨x, hx⟩ : ∃ x, l[i]'(by have := HN.out; omega) = x := ⟨_, rfl⟩
        rw [hx] at hr hs
        obtain ⟨kk, nn, al, ws, cc, bb, ot, cs, rs⟩ := x
        obtain ⟨av, wv, cv, bv, ov, sv, rv, rfl, r1, r2, r3, r4, r5, r6, r7, _⟩ := hr
        obtain ⟨av', wv', cv', bv', ov', sv', rv', rfl, s1, s2, s3, s4, s5, s6, s7, _⟩ := hs
        obtain ⟨⟨A1, c1, rfl⟩, hal⟩ := r1.len
        obtain ⟨⟨A1', c1', rfl⟩, _⟩ := s1.len
        obtain ⟨⟨A6, c6, rfl⟩, hcl⟩ := r6.len
        obtain ⟨⟨A6', c6', rfl⟩, _⟩ := s6.len
        obtain ⟨⟨A7, c7, rfl⟩, hrl⟩ := r7.len
        obtain ⟨⟨A7', c7', rfl⟩, _⟩ := s7.len
        obtain ⟨A2, n2, c2, rfl⟩ := r2.form
        obtain ⟨A2', n2', c2', rfl⟩ := s2.form
        obtain ⟨A3, n3, c3, rfl⟩ := LsIn.form r3
        obtain ⟨A3', n3', c3', rfl⟩ := LsIn.form s3
        obtain ⟨A4, n4, c4, rfl⟩ := LsIn.form r4
        obtain ⟨A4', n4', c4', rfl⟩ := LsIn.form s4
        obtain ⟨A5, n5, c5, rfl⟩ := LsIn.form r5
        obtain ⟨A5', n5', c5', rfl⟩ := LsIn.form s5
        have a0 := cell_below hbe hb (hvc 0 _ rfl)
        have a1 := cell_below hbe hb (hvc 1 _ rfl)
        have a2 := cell_below hbe hb (hvc 2 _ rfl)
        have a3 := cell_below hbe hb (hvc 3 _ rfl)
        have a4 := cell_below hbe hb (hvc 4 _ rfl)
        have a5 := cell_below hbe hb (hvc 5 _ rfl)
        have a6 := cell_below hbe hb (hvc 6 _ rfl)
        have a7 := cell_below hbe hb (hvc 7 _ rfl)
        have a8 := cell_below hbe hb (hvc 8 _ rfl)
        have e0 := cell_below hbe hb' (huc 0 _ rfl)
        have e1 := cell_below hbe hb' (huc 1 _ rfl)
        have e2 := cell_below hbe hb' (huc 2 _ rfl)
        have e3 := cell_below hbe hb' (huc 3 _ rfl)
        have e4 := cell_below hbe hb' (huc 4 _ rfl)
        have e5 := cell_below hbe hb' (huc 5 _ rfl)
        have e6 := cell_below hbe hb' (huc 6 _ rfl)
        have e7 := cell_below hbe hb' (huc 7 _ rfl)
        have e8 := cell_below hbe hb' (huc 8 _ rfl)
        simp only [Nat.add_zero] at a0 e0
        have hz1 : b < wr.heap.size := by omega
        have hz2 : b' < wr.heap.size := by omega
        generalize nm nn = K at *
        obtain ⟨na, hna⟩ : ∃ na, al.length = na := ⟨_, rfl⟩
        obtain ⟨nc, hnc⟩ : ∃ nc, cs.length = nc := ⟨_, rfl⟩
        obtain ⟨nr, hnr⟩ : ∃ nr, rs.length = nr := ⟨_, rfl⟩
        rw [hna] at r1 s1 a2 e2 hal
        rw [hnc] at r6 s6 a7 e7 hcl
        rw [hnr] at r7 s7 a8 e8 hrl
        have HNA := Lib.hid hna
        have HNC := Lib.hid hnc
        have HNR := Lib.hid hnr
        have H1 := Lib.hid (And.intro r1 s1)
        have H2 := Lib.hid (And.intro r2 s2)
        have H3 := Lib.hid (And.intro r3 s3)
        have H4 := Lib.hid (And.intro r4 s4)
        have H5 := Lib.hid (And.intro r5 s5)
        have H6 := Lib.hid (And.intro r6 s6)
        have H7 := Lib.hid (And.intro r7 s7)
        clear hvl hvc hul huc r1 r2 r3 r4 r5 r6 r7 s1 s2 s3 s4 s5 s6 s7 hna hnc hnr hx
        obtain ⟨wO, rfl⟩ : ∃ wO : World, wO = wr := ⟨_, rfl⟩
        go_upto_region 6 with (fail)
        go_cut [6, 7] from 22 to 222 (fun p q wx => ∃ xb yb : Nat, p = .pointer (some ⟨xb, 0, none⟩) ∧ q = .pointer (some ⟨yb, 0, none⟩) ∧ CB w xb yb #[.int .i64 kk, .string K, .slice A1 na c1, .slice A2 n2 c2, .slice A3 n3 c3, .slice A4 n4 c4, .slice A5 n5 c5, .slice A6 nc c6, .slice A7 nr c7] #[.int .i64 kk, .string K, .slice A1' na c1', .slice A2' n2' c2', .slice A3' n3' c3', .slice A4' n4' c4', .slice A5' n5' c5', .slice A6' nc c6', .slice A7' nr c7'] wx)
        case first =>
          as_aux_lemma =>
            go_region
            all_goals
              go_wp2_with fail
              go_meet
              first
                | exact ⟨_, _, rfl, rfl, CB.make HBE.out⟩
                | exact ⟨_, _, rfl, rfl, (CB.make HBE.out).swap⟩
        case rest =>
          clear a0 a1 a2 a3 a4 a5 a6 a7 a8 e0 e1 e2 e3 e4 e5 e6 e7 e8 hz1 hz2
          obtain ⟨xb, yb, rfl, rfl, hB⟩ := hcut
          have a0 := cell_blk hB.bx 0
          have a1 := cell_blk hB.bx 1
          have a2 := cell_blk hB.bx 2
          have a3 := cell_blk hB.bx 3
          have a7 := cell_blk hB.bx 7
          have a8 := cell_blk hB.bx 8
          have e0 := cell_blk hB.cy 0
          have e1 := cell_blk hB.cy 1
          have e2 := cell_blk hB.cy 2
          have e3 := cell_blk hB.cy 3
          have e7 := cell_blk hB.cy 7
          have e8 := cell_blk hB.cy 8
          simp at a0 a1 a2 a3 a7 a8 e0 e1 e2 e3 e7 e8
          have x1 := fin_at hB.bx
          have y1 := fin_at hB.cy
          have HB := Lib.hid hB
          have HWC := Lib.hid (fun W (hW : Below w.heap.size w W) => words_below hW H2.out.1 H2.out.2)
          go_upto_region 9 with (go_at_call 14; refine (HWC.out _ HB.out.below).mono ?_; rintro e W2 ⟨rfl, hb2⟩; have HB2 := Lib.hid (HB.out.step hb2); replace a2 := (World.cell?_of_block (hb2.block xb x1)).trans a2; replace a7 := (World.cell?_of_block (hb2.block xb x1)).trans a7; replace a8 := (World.cell?_of_block (hb2.block xb x1)).trans a8; replace e2 := (World.cell?_of_block (hb2.block yb y1)).trans e2; replace e7 := (World.cell?_of_block (hb2.block yb y1)).trans e7; replace e8 := (World.cell?_of_block (hb2.block yb y1)).trans e8; replace x1 := Nat.lt_of_lt_of_le x1 hb2.size; replace y1 := Nat.lt_of_lt_of_le y1 hb2.size; clear hb2)
          clear a0 a1 a2 a3 a7 a8 e0 e1 e2 e3 e7 e8 x1 y1 HWC HB
          obtain ⟨P, hP⟩ : ∃ P : World → Prop, P = CB w xb yb #[.int .i64 kk, .string K, .slice A1 na c1, .slice A2 n2 c2, .slice A3 n3 c3, .slice A4 n4 c4, .slice A5 n5 c5, .slice A6 nc c6, .slice A7 nr c7] #[.int .i64 kk, .string K, .slice A1' na c1', .slice A2' n2' c2', .slice A3' n3' c3', .slice A4' n4' c4', .slice A5' n5' c5', .slice A6' nc c6', .slice A7' nr c7'] := ⟨_, rfl⟩
          rw [← hP] at HB2
          have HST : Hid (∀ W W', P W → Below W.heap.size W W' → P W') := Lib.hid (fun W W' h1 h2 => by rw [hP] at h1 ⊢; exact h1.step h2)
          have HF : Hid (∀ W, P W → Below w.heap.size w W ∧ xb < W.heap.size ∧ yb < W.heap.size ∧ (W.cell? ⟨xb, 2, none⟩ = some (.slice A1 na c1) ∧ W.cell? ⟨xb, 4, none⟩ = some (.slice A3 n3 c3) ∧ W.cell? ⟨xb, 5, none⟩ = some (.slice A4 n4 c4) ∧ W.cell? ⟨xb, 6, none⟩ = some (.slice A5 n5 c5) ∧ W.cell? ⟨xb, 7, none⟩ = some (.slice A6 nc c6) ∧ W.cell? ⟨xb, 8, none⟩ = some (.slice A7 nr c7)) ∧
              W.cell? ⟨yb, 2, none⟩ = some (.slice A1' na c1') ∧ W.cell? ⟨yb, 4, none⟩ = some (.slice A3' n3' c3') ∧ W.cell? ⟨yb, 5, none⟩ = some (.slice A4' n4' c4') ∧ W.cell? ⟨yb, 6, none⟩ = some (.slice A5' n5' c5') ∧ W.cell? ⟨yb, 7, none⟩ = some (.slice A6' nc c6') ∧ W.cell? ⟨yb, 8, none⟩ = some (.slice A7' nr c7')) := Lib.hid (fun W h => by
            rw [hP] at h
            exact ⟨h.below, fin_at h.bx, fin_at h.cy, ⟨cell_blk h.bx 2, cell_blk h.bx 4, cell_blk h.bx 5, cell_blk h.bx 6, cell_blk h.bx 7, cell_blk h.bx 8⟩, cell_blk h.cy 2, cell_blk h.cy 4, cell_blk h.cy 5, cell_blk h.cy 6, cell_blk h.cy 7, cell_blk h.cy 8⟩)
          clear hP hB
          go_wp2_with fail
          go_loopg [8] na (fun g y wk => ∃ j : Nat, g = na - j ∧ y = .int .i64 j ∧ P wk ∧ j ≤ na)
          case atStart => exact ⟨0, by omega, rfl, HB2.out, by omega⟩
          case round =>
            obtain ⟨j, rfl, rfl, hpk, hj⟩ := hrel
            have HPK := Lib.hid hpk
            obtain ⟨hbw, x1, y1, ⟨f2, f4, f5, f6, f7, f8⟩, g2, g4, g5, g6, g7, g8⟩ := HF.out wr hpk
            by_cases hjl : j < na
            · as_aux_lemma =>
                have hne : al ≠ [] := fun e => by have := HNA.out; rw [e] at this; simp at this; omega
                obtain ⟨ob, oo, hA, _, hob, hol1⟩ := H1.out.1.at_ hne
                obtain ⟨ob', oo', hA', _, hob', hol2⟩ := H1.out.2.at_ hne
                obtain ⟨vs, _, hc1, v1, rfl, hq1⟩ := hol1 j (by have := HNA.out; omega)
                obtain ⟨us, _, hc2, v2, rfl, hq2⟩ := hol2 j (by have := HNA.out; omega)
                have k1 := cell_below hbw hob (hc1 0 _ rfl)
                have k2 := cell_below hbw hob (hc1 1 _ rfl)
                have k3 := cell_below hbw hob' (hc2 0 _ rfl)
                have k4 := cell_below hbw hob' (hc2 1 _ rfl)
                simp only [Nat.add_zero] at k1 k3
                obtain ⟨B1, m1, d1, rfl⟩ := PIn.form hq1
                obtain ⟨B2, m2, d2, rfl⟩ := PIn.form hq2
                have hy3 : ob < wr.heap.size := by have := hbw.size; omega
                have hy4 : ob' < wr.heap.size := by have := hbw.size; omega
                have HSM := Lib.hid (fun W (hW : Below wr.heap.size wr W) => same_below (hbw.trans (hW.mono hbw.size)) hq1 hq2)
                have q2 : ((nm (al[j]'(by have := HNA.out; omega)).name).toList == (nm (al[j]'(by have := HNA.out; omega)).name).toList) = true := str_eq _
                generalize nm (al[j]'(by have := HNA.out; omega)).name = z1 at *
                subst hA
                subst hA'
                clear hc1 hc2 hol1 hol2 hq1 hq2 hpk hbw
                go_wp2_with fail
                refine wp_region_quiet_below (by kernel_rfl) (by kernel_rfl) ?_
                repeat (first | go_big_quiet_step ((go_at_call 15; exact Calls.regrown_of (HSM.out _ (below_regrown _ _ _)))) | quiet_step ((go_at_call 15; exact Calls.regrown_of (HSM.out _ (below_regrown _ _ _)))))
                refine wpQuiet_nil ?_
                intro _ hw'
                obtain ⟨⟨dq, osq⟩, hw''⟩ := hw'
                subst hw''
                have HB3 := Lib.hid (HST.out _ _ HPK.out (below_regrown wr dq osq))
                go_wp2_with fail
                go_roundg (na - (j + 1))
                case measure => omega
                case rel => exact ⟨j + 1, rfl, by go_num, HB3.out, by omega⟩
            · clear hpk hbw
              go_wp2_with fail
              obtain ⟨wP, rfl⟩ : ∃ wP : World, wP = wr := ⟨_, rfl⟩
              go_loopg [9] nr (fun g y wk => ∃ j : Nat, g = nr - j ∧ y = .int .i64 j ∧ P wk ∧ j ≤ nr)
              case atStart => exact ⟨0, by omega, rfl, HPK.out, by omega⟩
              case round =>
                obtain ⟨k, rfl, rfl, hpk, hk⟩ := hrel
                clear HPK f2 f4 f5 f6 f7 f8 g2 g4 g5 g6 g7 g8 x1 y1
                have HPK := Lib.hid hpk
                obtain ⟨hbw, x1, y1, ⟨f2, f4, f5, f6, f7, f8⟩, g2, g4, g5, g6, g7, g8⟩ := HF.out wr hpk
                by_cases hkl : k < nr
                · as_aux_lemma =>
                    have hne : rs ≠ [] := fun e => by have := HNR.out; rw [e] at this; simp at this; omega
                    obtain ⟨ob, oo, hA, _, hob, hol1⟩ := H7.out.1.at_ hne
                    obtain ⟨ob', oo', hA', _, hob', hol2⟩ := H7.out.2.at_ hne
                    obtain ⟨vs, _, hc1, v1, rfl, hq1⟩ := hol1 k (by have := HNR.out; omega)
                    obtain ⟨us, _, hc2, v2, rfl, hq2⟩ := hol2 k (by have := HNR.out; omega)
                    have k1 := cell_below hbw hob (hc1 0 _ rfl)
                    have k2 := cell_below hbw hob (hc1 1 _ rfl)
                    have k3 := cell_below hbw hob (hc1 2 _ rfl)
                    have k4 := cell_below hbw hob' (hc2 0 _ rfl)
                    have k5 := cell_below hbw hob' (hc2 1 _ rfl)
                    have k6 := cell_below hbw hob' (hc2 2 _ rfl)
                    simp only [Nat.add_zero] at k1 k4
                    obtain ⟨B1, m1, d1, rfl⟩ := PIn.form hq1
                    obtain ⟨B2, m2, d2, rfl⟩ := PIn.form hq2
                    have hy3 : ob < wr.heap.size := by have := hbw.size; omega
                    have hy4 : ob' < wr.heap.size := by have := hbw.size; omega
                    have HSM := Lib.hid (fun W (hW : Below wr.heap.size wr W) => same_below (hbw.trans (hW.mono hbw.size)) hq1 hq2)
                    have q2 : ((nm (rs[k]'(by have := HNR.out; omega)).op).toList == (nm (rs[k]'(by have := HNR.out; omega)).op).toList) = true := str_eq _
                    generalize nm (rs[k]'(by have := HNR.out; omega)).op = z1 at *
                    generalize (rs[k]'(by have := HNR.out; omega)).fd = z2 at *
                    have q3 : (z2 != z2) = false := by simp
                    subst hA
                    subst hA'
                    clear hc1 hc2 hol1 hol2 hq1 hq2 hpk hbw
                    go_wp2_with fail
                    refine wp_region_quiet_below (by kernel_rfl) (by kernel_rfl) ?_
                    repeat (first | go_big_quiet_step ((go_at_call 15; exact Calls.regrown_of (HSM.out _ (below_regrown _ _ _)))) | quiet_step ((go_at_call 15; exact Calls.regrown_of (HSM.out _ (below_regrown _ _ _)))))
                    refine wpQuiet_nil ?_
                    intro _ hw'
                    obtain ⟨⟨dq, osq⟩, hw''⟩ := hw'
                    subst hw''
                    have HB3 := Lib.hid (HST.out _ _ HPK.out (below_regrown wr dq osq))
                    go_wp2_with fail
                    go_roundg (nr - (k + 1))
                    case measure => omega
                    case rel => exact ⟨k + 1, rfl, by go_num, HB3.out, by omega⟩
                · clear hpk hbw
                  go_wp2_with fail
                  obtain ⟨wQ, rfl⟩ : ∃ wQ : World, wQ = wr := ⟨_, rfl⟩
                  go_loopg [10] nc (fun g y wk => ∃ j : Nat, g = nc - j ∧ y = .int .i64 j ∧ P wk ∧ j ≤ nc)
                  case atStart => exact ⟨0, by omega, rfl, HPK.out, by omega⟩
                  case round =>
                    obtain ⟨q, rfl, rfl, hpk, hq⟩ := hrel
                    clear HPK f2 f4 f5 f6 f7 f8 g2 g4 g5 g6 g7 g8 x1 y1
                    have HPK := Lib.hid hpk
                    obtain ⟨hbw, x1, y1, ⟨f2, f4, f5, f6, f7, f8⟩, g2, g4, g5, g6, g7, g8⟩ := HF.out wr hpk
                    by_cases hql : q < nc
                    · as_aux_lemma =>
                        have hne : cs ≠ [] := fun e => by have := HNC.out; rw [e] at this; simp at this; omega
                        obtain ⟨ob, oo, hA, _, hob, hol1⟩ := H6.out.1.at_ hne
                        obtain ⟨ob', oo', hA', _, hob', hol2⟩ := H6.out.2.at_ hne
                        obtain ⟨vs, _, hc1, hx1⟩ := hol1 q (by have := HNC.out; omega)
                        obtain ⟨us, _, hc2, hx2⟩ := hol2 q (by have := HNC.out; omega)
                        obtain ⟨x, hx⟩ : ∃ x, cs[q]'(by have := HNC.out; omega) = x := ⟨_, rfl⟩
                        rw [hx] at hx1 hx2
                        obtain ⟨ps, bd⟩ := x
                        obtain ⟨v1, v2, rfl, hq1, hq2⟩ := hx1
                        obtain ⟨u1, u2, rfl, hq3, hq4⟩ := hx2
                        have k1 := cell_below hbw hob (hc1 0 _ rfl)
                        have k2 := cell_below hbw hob (hc1 1 _ rfl)
                        have k3 := cell_below hbw hob' (hc2 0 _ rfl)
                        have k4 := cell_below hbw hob' (hc2 1 _ rfl)
                        simp only [Nat.add_zero] at k1 k3
                        obtain ⟨B1, m1, d1, rfl⟩ := hq1.form
                        obtain ⟨B2, m2, d2, rfl⟩ := LsIn.form hq2
                        obtain ⟨B3, m3, d3, rfl⟩ := hq3.form
                        obtain ⟨B4, m4, d4, rfl⟩ := LsIn.form hq4
                        have hy3 : ob < wr.heap.size := by have := hbw.size; omega
                        have hy4 : ob' < wr.heap.size := by have := hbw.size; omega
                        have HSM := Lib.hid (fun W (hW : Below wr.heap.size wr W) => words_below (hbw.trans (hW.mono hbw.size)) hq1 hq3)
                        have HSL := Lib.hid (fun W (hW : Below wr.heap.size wr W) => lists_below HC.out (hbw.trans (hW.mono hbw.size)) hq2 hq4)
                        subst hA
                        subst hA'
                        clear hc1 hc2 hol1 hol2 hq1 hq2 hq3 hq4 hpk hbw hx
                        go_wp2_with fail
                        refine wp_region_quiet_below (by kernel_rfl) (by kernel_rfl) ?_
                        repeat (first | go_big_quiet_step ((first | (go_at_call 14; exact Calls.regrown_of (HSM.out _ (below_regrown _ _ _))) | (go_at_call 9; exact Calls.regrown_of (HSL.out _ (below_regrown _ _ _))))) | quiet_step ((first | (go_at_call 14; exact Calls.regrown_of (HSM.out _ (below_regrown _ _ _))) | (go_at_call 9; exact Calls.regrown_of (HSL.out _ (below_regrown _ _ _))))))
                        refine wpQuiet_nil ?_
                        intro _ hw'
                        obtain ⟨⟨dq, osq⟩, hw''⟩ := hw'
                        subst hw''
                        have HB3 := Lib.hid (HST.out _ _ HPK.out (below_regrown wr dq osq))
                        go_wp2_with fail
                        go_roundg (nc - (q + 1))
                        case measure => omega
                        case rel => exact ⟨q + 1, rfl, by go_num, HB3.out, by omega⟩
                    · as_aux_lemma =>
                        have HL3 := Lib.hid (fun W (hW : Below w.heap.size w W) => lists_below HC.out hW H3.out.1 H3.out.2)
                        have HL4 := Lib.hid (fun W (hW : Below w.heap.size w W) => lists_below HC.out hW H4.out.1 H4.out.2)
                        have HL5 := Lib.hid (fun W (hW : Below w.heap.size w W) => lists_below HC.out hW H5.out.1 H5.out.2)
                        have HBW := Lib.hid hbw
                        clear hpk hbw
                        go_wp2_with fail
                        refine (HL3.out wr HBW.out).mono ?_
                        rintro e W3 ⟨rfl, hb3⟩
                        have HP3 := Lib.hid (HST.out _ _ HPK.out hb3)
                        clear hb3 f2 f4 f5 f6 f7 f8 g2 g4 g5 g6 g7 g8 x1 y1 HBW HPK
                        obtain ⟨hbw, x1, y1, ⟨f2, f4, f5, f6, f7, f8⟩, g2, g4, g5, g6, g7, g8⟩ := HF.out W3 HP3.out
                        have HBW := Lib.hid hbw
                        clear hbw
                        go_wp2_with fail
                        refine (HL4.out W3 HBW.out).mono ?_
                        rintro e W4 ⟨rfl, hb3⟩
                        have HP4 := Lib.hid (HST.out _ _ HP3.out hb3)
                        clear hb3 f2 f4 f5 f6 f7 f8 g2 g4 g5 g6 g7 g8 x1 y1 HBW HP3
                        obtain ⟨hbw, x1, y1, ⟨f2, f4, f5, f6, f7, f8⟩, g2, g4, g5, g6, g7, g8⟩ := HF.out W4 HP4.out
                        have HBW := Lib.hid hbw
                        clear hbw
                        go_wp2_with fail
                        refine (HL5.out W4 HBW.out).mono ?_
                        rintro e W5 ⟨rfl, hb3⟩
                        have HP5 := Lib.hid (HST.out _ _ HP4.out hb3)
                        have HB5 := Lib.hid (HF.out W5 HP5.out).1
                        clear hb3 f2 f4 f5 f6 f7 f8 g2 g4 g5 g6 g7 g8 x1 y1 HBW HP4
                        go_wp2_with fail
                        go_roundg (n - (i + 1))
                        case measure => omega
                        case rel => exact ⟨i + 1, rfl, by go_num, HB5.out, by omega⟩
      · go_wp2_with fail
        go_ret
        exact ⟨rfl, HBE.out⟩

end Go.Proofs.Ytgajbehlggikdaa.Sw
