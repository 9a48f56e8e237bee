/- DERIVED. The law's words: words held against themselves. -/
import Derived.Test.YtgajbehlggikdaaSwBaseQ
import Derived.Test.YtgajbehlggikdaaWdRSame
import Derived.Deep.LoopGhost
import Derived.Lib.QuietBelow
namespace Go.Proofs.Ytgajbehlggikdaa.Sw
open Go.RowKit
open PathM WdM SyM
open Go.Proofs.Ytgajbehlggikdaa.Wd
set_option linter.unusedVariables false

theorem same_self : ∀ l : List PT, sameL l l = true
  | [] => by simp [sameL]
  | .mk k q t o w :: r => by rw [sameL_cons, same_self r, show (PT.mk k q t o w).word = w from rfl, same_self w]; simp
/-- An element's cells. -/
theorem Sl.at_ {α : Type} {size : Nat} {R : Rep α} {w : World} {S : Nat → Prop} {A : Option Addr} {n c : Nat} {l : List α} (h : Sl size R w S (.slice A n c) l) (hne : l ≠ []) : ∃ b off, A = some ⟨b, off, none⟩ ∧ n = l.length ∧ b < w.heap.size ∧ ∀ i (hi : i < l.length), ∃ vs, vs.length = size ∧ (∀ j u, vs[j]? = some u → w.cell? ⟨b, off + i * size + j, none⟩ = some u) ∧ R w S vs l[i] := by
  obtain ⟨A', c', hv, hl, h⟩ := h
  obtain ⟨b, off, hA, hb, hlt, hc⟩ := h hne
  injection hv with h1 h2 h3
  exact ⟨b, off, by rw [h1, hA], h2, hlt, fun i hi => hc i _ (List.getElem?_eq_getElem hi)⟩
theorem Sl.len {α : Type} {size : Nat} {R : Rep α} {w : World} {S : Nat → Prop} {v : Value} {l : List α} (h : Sl size R w S v l) : (∃ A c, v = .slice A l.length c) ∧ l.length ≤ 281474976710656 := by
  obtain ⟨A, c, hv, hl, _⟩ := h
  exact ⟨⟨A, c, hv⟩, hl⟩
set_option maxRecDepth 100000 in
set_option maxHeartbeats 1600000 in
theorem words_any (x : List (List PT)) (v u : Value) (w : World) (S T : Nat → Prop) (hv : Sl 1 RWord w S v x) (hu : Sl 1 RWord w T u x) :
    Calls Try.prog 14 #[v, u] w fun e w' => e = .returned (.bool true) ∧ ∃ k, w' = w.drewN k := by
  obtain ⟨⟨A, c, rfl⟩, hlen⟩ := hv.len
  obtain ⟨⟨A2, c2, rfl⟩, _⟩ := hu.len
  by_cases h0 : x = []
  · subst h0
    clear hv hu hlen
    simp only [List.length_nil]
    go_enter Try.func14, Try.ntmps14
    go_wp2_with fail
    go_loopg [5] 0 (fun g y wr => y = .int .i64 0 ∧ wr = w)
    case atStart => exact ⟨rfl, rfl⟩
    case round =>
      obtain ⟨rfl, rfl⟩ := hrel
      go_wp2_with fail
      go_ret
      exact ⟨rfl, 0, rfl⟩
  · obtain ⟨b, off, rfl, _, hb, hl⟩ := hv.at_ h0
    obtain ⟨b', off', rfl, _, hb', hm⟩ := hu.at_ h0
    have HL := Lib.hid hl
    have HM := Lib.hid hm
    obtain ⟨n, hn⟩ : ∃ n, x.length = n := ⟨_, rfl⟩
    rw [hn] at hlen
    have HN := Lib.hid hn
    rw [hn]
    clear hl hm hv hu hn h0
    go_enter Try.func14, Try.ntmps14
    go_wp2_with fail
    go_loopg [5] n (fun g y wr => ∃ i k : Nat, g = n - i ∧ y = .int .i64 i ∧ wr = w.drewN k ∧ i ≤ n)
    case atStart => exact ⟨0, 0, by omega, rfl, rfl, by omega⟩
    case round =>
      obtain ⟨i, k, rfl, rfl, hwr, hi⟩ := hrel
      have HK := Lib.hid hwr
      clear hwr
      by_cases hil : i < n
      · obtain ⟨vs, hvl, hvc, y1, rfl, hp1⟩ := HL.out i (by have := HN.out; omega)
        obtain ⟨us, hul, huc, y2, rfl, hp2⟩ := HM.out i (by have := HN.out; omega)
        have a0 := hvc 0 y1 rfl
        have e0 := huc 0 y2 rfl
        simp only [Nat.mul_one, Nat.add_zero] at a0 e0
        obtain ⟨B1, m1, d1, rfl⟩ := PIn.form hp1
        obtain ⟨B2, m2, d2, rfl⟩ := PIn.form hp2
        have HI : Hid (∀ q, Calls Try.prog 15 #[.slice B1 m1 d1, .slice B2 m2 d2] (wr.drewN q) fun e w' => e = .returned (.bool true) ∧ ∃ j, w' = wr.drewN j) := Lib.hid fun q => by
          have := rsame_any 17 17 (.slice B1 m1 d1) (.slice B2 m2 d2) (x[i]'(by have := HN.out; omega)) (x[i]'(by have := HN.out; omega)) (wr.drewN q) S T (by rw [HK.out]; exact (hp1.drewN k).drewN q) (by rw [HK.out]; exact (hp2.drewN k).drewN q)
          rw [same_self] at this
          refine this.mono ?_
          rintro e w' ⟨rfl, j, rfl⟩
          exact ⟨rfl, q + j, World.drewN_drewN _ _ _⟩
        have hcell : ∀ {a : Addr} {x : Value}, w.cell? a = some x → wr.cell? a = some x := fun h => by rw [HK.out]; exact h
        replace a0 := hcell a0
        replace e0 := hcell e0
        have hz1 : b < wr.heap.size := World.block_lt_of_cell? _ _ a0
        have hz2 : b' < wr.heap.size := World.block_lt_of_cell? _ _ e0
        clear hcell hvl hvc hul huc hp1 hp2 hb hb'
        go_wp2_with fail
        go_quiet ((go_at_call 15; exact HI.out _))
        go_wp2
        go_roundg (n - (i + 1))
        case rel => exact ⟨i + 1, k + nq, rfl, by go_num, by rw [HK.out]; exact World.drewN_drewN _ _ _, by omega⟩
        case measure => omega
      · go_wp2_with fail
        go_ret
        exact ⟨rfl, k, HK.out⟩

end Go.Proofs.Ytgajbehlggikdaa.Sw

/- DERIVED. The law's lists, held against themselves. -/
namespace Go.Proofs.Ytgajbehlggikdaa.Sw
open Go.RowKit Go.Sort
open PathM WdM SyM
open Go.Proofs.Ytgajbehlggikdaa.Wd
set_option linter.unusedVariables false

theorem cell_rgw (w : World) (d : Nat) (os : Array Obj) (a : Addr) (h : a.block < w.heap.size) : (grow (redrawn w d) os).cell? a = w.cell? a := (below_regrown w d os).cell h
/-- The same ones, says the law. -/
def SameOk (f : FuncId) (w : World) (v u : Value) : Prop := Calls Try.prog f #[v, u] w fun e w' => e = .returned (.bool true) ∧ Below w.heap.size w w'
/-- Lists so deep. -/
def LsSame (d : Nat) : Prop := ∀ (l : List LiT) (v u : Value) (w : World) (S T : Nat → Prop), LsIn d w S v l → LsIn d w T u l → SameOk 9 w v u
def CsSame (d : Nat) : Prop := ∀ (l : List CmdT) (v u : Value) (w : World) (S T : Nat → Prop), Sl 9 (RCmd (LsIn d)) w S v l → Sl 9 (RCmd (LsIn d)) w T u l → SameOk 11 w v u
theorem good_below {α : Type} {V : World → (Nat → Prop) → Value → α → Prop} (hV : GoodV V) {S : Nat → Prop} {w w' : World} {v : Value} {x : α} (hb : Below w.heap.size w w') (h : V w S v x) : V w' S v x :=
  hV w w' S S v x (fun k h1 h2 => ⟨h2, hb.block k h1⟩) h
theorem cell_below {w w' : World} {b o : Nat} {x : Value} (hb : Below w.heap.size w w') (hlt : b < w.heap.size) (h : w.cell? ⟨b, o, none⟩ = some x) : w'.cell? ⟨b, o, none⟩ = some x := (World.cell?_of_block (hb.block b hlt)).trans h
theorem none_same : SameOk 9 = fun w v u => Calls Try.prog 9 #[v, u] w fun e w' => e = .returned (.bool true) ∧ Below w.heap.size w w' := rfl
set_option maxRecDepth 100000 in
set_option maxHeartbeats 1600000 in
theorem lists_none (A A2 : Option Addr) (c c2 : Nat) (w : World) : SameOk 9 w (.slice A 0 c) (.slice A2 0 c2) := by
  unfold SameOk
  go_enter Try.func9, Try.ntmps9
  go_wp2_with fail
  go_loopg [5] 0 (fun g y wr => y = .int .i64 0 ∧ wr = w)
  case atStart => exact ⟨rfl, rfl⟩
  case round =>
    obtain ⟨rfl, rfl⟩ := hrel
    go_wp2_with fail
    go_ret
    exact ⟨rfl, Below.refl _ _⟩
set_option maxRecDepth 100000 in
set_option maxHeartbeats 3200000 in
attribute [local go_sem] cell_rgw in
theorem lists_step {d : Nat} (hC : CsSame d) (l : List LiT) (v u : Value) (w : World) (S T : Nat → Prop) (hv : LsIn (d + 1) w S v l) (hu : LsIn (d + 1) w T u l) : SameOk 9 w v u := by
  obtain ⟨⟨A, c, rfl⟩, hlen⟩ := Sl.len hv
  obtain ⟨⟨A2, c2, rfl⟩, _⟩ := Sl.len hu
  by_cases h0 : l = []
  · subst h0
    exact lists_none A A2 c c2 w
  · unfold SameOk
    obtain ⟨b, off, rfl, _, hb, hl⟩ := Sl.at_ hv h0
    obtain ⟨b', off', rfl, _, hb', hm⟩ := Sl.at_ hu h0
    have HL := Lib.hid hl
    have HM := Lib.hid hm
    have HC := Lib.hid hC
    obtain ⟨n, hn⟩ : ∃ n, l.length = n := ⟨_, rfl⟩
    rw [hn] at hlen
    have HN := Lib.hid hn
    rw [hn]
    clear hl hm hv hu hn h0 hC
    go_enter Try.func9, Try.ntmps9
    go_wp2_with fail
    go_loopg [5] n (fun g y wr => ∃ i : Nat, g = n - i ∧ y = .int .i64 i ∧ Below w.heap.size w wr ∧ i ≤ n)
    case atStart => exact ⟨0, by omega, rfl, Below.refl _ _, by omega⟩
    case round =>
      obtain ⟨i, rfl, rfl, hbe, hi⟩ := hrel
      have HBE := Lib.hid hbe
      have hwr := hbe.size
      by_cases hil : i < n
      · obtain ⟨vs, hvl, hvc, hr⟩ := HL.out i (by have := HN.out; omega)
        obtain ⟨us, hul, huc, hs⟩ := HM.out i (by have := HN.out; omega)
        obtain ⟨x, hx⟩ : ∃ x, l[i]'(by have := HN.out; omega) = x := ⟨_, rfl⟩
        rw [hx] at hr hs
        obtain ⟨ps, os⟩ := x
        obtain ⟨pv, ov, rfl, hp, ho⟩ := hr
        obtain ⟨pv', ov', rfl, hp', ho'⟩ := hs
        have a0 := hvc 0 _ rfl
        have a1 := hvc 1 _ rfl
        have e0 := huc 0 _ rfl
        have e1 := huc 1 _ rfl
        simp only [Nat.add_zero] at a0 e0
        replace a0 := cell_below hbe hb a0
        replace a1 := cell_below hbe hb a1
        replace e0 := cell_below hbe hb' e0
        replace e1 := cell_below hbe hb' e1
        have hz1 : b < wr.heap.size := by omega
        have hz2 : b' < wr.heap.size := by omega
        obtain ⟨⟨P1, pc1, rfl⟩, hpl⟩ := hp.len
        obtain ⟨⟨P2, pc2, rfl⟩, _⟩ := hp'.len
        obtain ⟨⟨O1, oc1, rfl⟩, hol⟩ := ho.len
        obtain ⟨⟨O2, oc2, rfl⟩, _⟩ := ho'.len
        have HP := Lib.hid (And.intro hp hp')
        have HO := Lib.hid (And.intro ho ho')
        obtain ⟨np, hnp⟩ : ∃ np, ps.length = np := ⟨_, rfl⟩
        obtain ⟨no, hno⟩ : ∃ no, os.length = no := ⟨_, rfl⟩
        rw [hnp] at a0 e0 hpl HP
        rw [hno] at a1 e1 hol HO
        have HNP := Lib.hid hnp
        have HNO := Lib.hid hno
        clear hvl hvc hul huc hp hp' ho ho' hnp hno hx
        go_wp2_with fail
        refine wp_region_quiet_below (by kernel_rfl) (by kernel_rfl) ?_
        repeat (first | go_big_quiet_step ((fail)) | quiet_step ((fail)))
        refine wpQuiet_nil ?_
        intro _ hw'
        obtain ⟨⟨dq, osq⟩, hw''⟩ := hw'
        subst hw''
        have hb2 := below_regrown wr dq osq
        go_wp2_with fail
        obtain ⟨wO, rfl⟩ : ∃ wO : World, wO = wr := ⟨_, rfl⟩
        generalize grow (redrawn wO dq) osq = w2 at *
        have HB2 := Lib.hid hb2
        clear hb2
        go_loopg [6] no (fun g y wk => ∃ j : Nat, g = no - j ∧ y = .int .i64 j ∧ Below wO.heap.size wO wk ∧ j ≤ no)
        case atStart => exact ⟨0, by omega, rfl, HB2.out, by omega⟩
        case round =>
          obtain ⟨j, rfl, rfl, hbk, hj⟩ := hrel
          have HBK := Lib.hid hbk
          have b1 := cell_below hbk hz1 a1
          have b0 := cell_below hbk hz1 a0
          have f1 := cell_below hbk hz2 e1
          have f0 := cell_below hbk hz2 e0
          have hy1 : b < wr.heap.size := by have := hbk.size; omega
          have hy2 : b' < wr.heap.size := by have := hbk.size; omega
          by_cases hjl : j < no
          · have hne : os ≠ [] := fun e => by have := HNO.out; rw [e] at this; simp at this; omega
            obtain ⟨ob, oo, hA, _, hob, hol1⟩ := HO.out.1.at_ hne
            obtain ⟨ob', oo', hA', _, hob', hol2⟩ := HO.out.2.at_ hne
            obtain ⟨vs, _, hc1, hx1⟩ := hol1 j (by have := HNO.out; omega)
            obtain ⟨us, _, hc2, hx2⟩ := hol2 j (by have := HNO.out; omega)
            obtain rfl := hx1
            obtain rfl := hx2
            have g1 := cell_below (hbe.trans (hbk.mono hwr)) hob (hc1 0 _ rfl)
            have g2 := cell_below (hbe.trans (hbk.mono hwr)) hob' (hc2 0 _ rfl)
            simp only [Nat.mul_one, Nat.add_zero] at g1 g2
            have hy3 : ob < wr.heap.size := by have := hbk.size; omega
            have hy4 : ob' < wr.heap.size := by have := hbk.size; omega
            have q2 : ((nm (os[j]'(by have := HNO.out; omega))).toList == (nm (os[j]'(by have := HNO.out; omega))).toList) = true := str_eq _
            generalize nm (os[j]'(by have := HNO.out; omega)) = x1 at *
            subst hA
            subst hA'
            clear hc1 hc2 hol1 hol2 hbk
            go_wp2_with fail
            refine wp_region_quiet_below (by kernel_rfl) (by kernel_rfl) ?_
            repeat (first | go_big_quiet_step ((fail)) | quiet_step ((fail)))
            refine wpQuiet_nil ?_
            intro _ hw'
            obtain ⟨⟨dq, osq⟩, hw''⟩ := hw'
            subst hw''
            have hb3 := below_regrown wr dq osq
            have HB3 := Lib.hid (HBK.out.trans (hb3.mono HBK.out.size))
            go_wp2_with fail
            go_roundg (no - (j + 1))
            case measure => omega
            case rel => exact ⟨j + 1, rfl, by go_num, HB3.out, by omega⟩
          · go_wp2_with fail
            obtain ⟨wP, rfl⟩ : ∃ wP : World, wP = wr := ⟨_, rfl⟩
            go_loopg [7] np (fun g y wk => ∃ j : Nat, g = np - j ∧ y = .int .i64 j ∧ Below wO.heap.size wO wk ∧ j ≤ np)
            case atStart => exact ⟨0, by omega, rfl, HBK.out, by omega⟩
            case round =>
              obtain ⟨k, rfl, rfl, hbk2, hk⟩ := hrel
              have HBQ := Lib.hid hbk2
              replace b0 := cell_below hbk2 hz1 a0
              replace f0 := cell_below hbk2 hz2 e0
              have hy1 : b < wr.heap.size := by have := hbk2.size; omega
              have hy2 : b' < wr.heap.size := by have := hbk2.size; omega
              clear b1 f1 hbk
              by_cases hkl : k < np
              · have hne : ps ≠ [] := fun e => by have := HNP.out; rw [e] at this; simp at this; omega
                obtain ⟨pb, po, hA, _, hpb, hpl1⟩ := HP.out.1.at_ hne
                obtain ⟨pb', po', hA', _, hpb', hpl2⟩ := HP.out.2.at_ hne
                obtain ⟨vs, _, hc1, hx1⟩ := hpl1 k (by have := HNP.out; omega)
                obtain ⟨us, _, hc2, hx2⟩ := hpl2 k (by have := HNP.out; omega)
                obtain ⟨x, hx⟩ : ∃ x, ps[k]'(by have := HNP.out; omega) = x := ⟨_, rfl⟩
                rw [hx] at hx1 hx2
                obtain ⟨neg, cs⟩ := x
                obtain ⟨cv, rfl, hq1⟩ := hx1
                obtain ⟨cv', rfl, hq2⟩ := hx2
                have hbw := hbe.trans (hbk2.mono hwr)
                have g1 := cell_below hbw hpb (hc1 0 _ rfl)
                have g2 := cell_below hbw hpb' (hc2 0 _ rfl)
                have g3 := cell_below hbw hpb (hc1 1 _ rfl)
                have g4 := cell_below hbw hpb' (hc2 1 _ rfl)
                simp only [Nat.add_zero] at g1 g2
                have hy3 : pb < wr.heap.size := by have := hbw.size; omega
                have hy4 : pb' < wr.heap.size := by have := hbw.size; omega
                obtain ⟨C1, n1, d1, rfl⟩ := hq1.form
                obtain ⟨C2, n2, d2, rfl⟩ := hq2.form
                have HSN := Lib.hid (fun W (hW : Below wr.heap.size wr W) => HC.out cs (.slice C1 n1 d1) (.slice C2 n2 d2) W S T (good_below (Sl.good 9 _ (RCmd.good (LsIn.good d))) (hbw.trans (hW.mono hbw.size)) hq1) (good_below (Sl.good 9 _ (RCmd.good (LsIn.good d))) (hbw.trans (hW.mono hbw.size)) hq2))
                have q2 : (!(neg == neg)) = false := by simp
                subst hA
                subst hA'
                clear hc1 hc2 hpl1 hpl2 hbk2 hq1 hq2 hx hbw
                go_wp2_with fail
                refine wp_region_quiet_below (by kernel_rfl) (by kernel_rfl) ?_
                repeat (first | go_big_quiet_step ((go_at_call 11; exact Calls.regrown_of (HSN.out _ (below_regrown _ _ _)))) | quiet_step ((go_at_call 11; exact Calls.regrown_of (HSN.out _ (below_regrown _ _ _)))))
                refine wpQuiet_nil ?_
                intro _ hw'
                obtain ⟨⟨dq, osq⟩, hw''⟩ := hw'
                subst hw''
                have hb3 := below_regrown wr dq osq
                have HB3 := Lib.hid (HBQ.out.trans (hb3.mono HBQ.out.size))
                go_wp2_with fail
                go_roundg (np - (k + 1))
                case measure => omega
                case rel => exact ⟨k + 1, rfl, by go_num, HB3.out, by omega⟩
              · go_wp2_with fail
                have HB4 := Lib.hid (HBE.out.trans (HBQ.out.mono HBE.out.size))
                go_roundg (n - (i + 1))
                case measure => omega
                case rel => exact ⟨i + 1, rfl, by go_num, HB4.out, by omega⟩
      · go_wp2_with fail
        go_ret
        exact ⟨rfl, HBE.out⟩

end Go.Proofs.Ytgajbehlggikdaa.Sw
