/- DERIVED. The walk over each. -/
import Derived.Test.YtgajbehlggikdaaSwGe
namespace Go.Proofs.Ytgajbehlggikdaa.Sw
open Go.RowKit
open PathM WdM SyM
open Go.Proofs.Ytgajbehlggikdaa.Wd
set_option linter.unusedVariables false

theorem en1 {lists : Bs → Rs (List LiT)} {sc : Bs → Option Int} {l : Bs} {a : Nat} {e : Int} (h : nameL l = .bad a e) : eachL lists sc l = .bad a e := by unfold eachL; rw [h]
theorem en2 {lists : Bs → Rs (List LiT)} {sc : Bs → Option Int} {l r n : Bs} {a : Nat} {e : Int} (h : nameL l = .ok n r) (h2 : inWords sc r = .bad a e) : eachL lists sc l = .bad a e := by unfold eachL; rw [h]; simp only; rw [h2]
theorem en3 {lists : Bs → Rs (List LiT)} {sc : Bs → Option Int} {l r r3 n : Bs} {ws : List (List PT)} {a : Nat} {e : Int} (h : nameL l = .ok n r) (h2 : inWords sc r = .ok ws r3) (h3 : needL doK (newlinesL ((passL [59] r3).getD r3)) = .bad a e) : eachL lists sc l = .bad a e := by unfold eachL; rw [h]; simp only; rw [h2]; simp only; rw [h3]
theorem en4 {lists : Bs → Rs (List LiT)} {sc : Bs → Option Int} {l r r3 r4 n : Bs} {ws : List (List PT)} {a : Nat} {e : Int} (h : nameL l = .ok n r) (h2 : inWords sc r = .ok ws r3) (h3 : needL doK (newlinesL ((passL [59] r3).getD r3)) = .ok () r4) (h4 : listsTo lists doneK r4 = .bad a e) : eachL lists sc l = .bad a e := by unfold eachL; rw [h]; simp only; rw [h2]; simp only; rw [h3]; simp only; rw [h4]
theorem en5 {lists : Bs → Rs (List LiT)} {sc : Bs → Option Int} {l r r3 r4 r5 n : Bs} {ws : List (List PT)} {b : List LiT} (h : nameL l = .ok n r) (h2 : inWords sc r = .ok ws r3) (h3 : needL doK (newlinesL ((passL [59] r3).getD r3)) = .ok () r4) (h4 : listsTo lists doneK r4 = .ok b r5) : eachL lists sc l = .ok (.mk 7 n [] ws [] b [] [] []) r5 := by unfold eachL; rw [h]; simp only; rw [h2]; simp only; rw [h3]; simp only; rw [h4]
theorem in_some {sc : Bs → Option Int} {r r2 : Bs} (h : passL inK (newlinesL r) = some r2) : inWords sc r = wordsN sc (r2.length + 1) [] r2 := by unfold inWords; rw [h]
theorem in_none {sc : Bs → Option Int} {r : Bs} (h : passL inK (newlinesL r) = none) : inWords sc r = .ok [[.mk 2 true [64] [] []]] (newlinesL r) := by unfold inWords; rw [h]
theorem wn_end {sc : Bs → Option Int} {k : Nat} {acc : List (List PT)} {m : Bs} (h : wordStands m = false) : wordsN sc k acc m = .ok acc m := by
  cases k with
  | zero => rfl
  | succ k => rw [wordsN, if_neg (by rw [h]; decide)]
theorem wn_bad {sc : Bs → Option Int} {k : Nat} {acc : List (List PT)} {m : Bs} {a : Nat} {e : Int} (h : wordStands m = true) (h2 : wordL sc m = .bad a e) : wordsN sc (k + 1) acc m = .bad a e := by rw [wordsN, if_pos h, h2]
theorem wn_ok {sc : Bs → Option Int} {k : Nat} {acc : List (List PT)} {m r : Bs} {x : List PT} (h : wordStands m = true) (h2 : wordL sc m = .ok x r) : wordsN sc (k + 1) acc m = wordsN sc k (acc ++ [x]) r := by rw [wordsN, if_pos h, h2]
theorem pin_at1 {d b c : Nat} {W : World} {S : Nat → Prop} (h : W.heap[b]? = some (.cells #[.int .i64 2, .bool true, .string ⟨#[64]⟩, .string ⟨#[]⟩, .slice none 0 0] 64 (0, 0))) (hb : S b) (hc : 1 ≤ c) : PIn (d + 1) W S (.slice (some ⟨b, 0, none⟩) 1 c) [.mk 2 true [64] [] []] := by
  refine ⟨_, c, [(.mk 2 true [64] [] [], .slice none 0 0)], rfl, rfl, ⟨by simp, hc⟩, fun _ => ⟨b, 0, rfl, hb, fun i hi => ?_⟩⟩
  have hi0 : i = 0 := by simp at hi; exact hi
  subst hi0
  exact ⟨cell_blk h 0, cell_blk h 1, cell_blk h 2, cell_blk h 3, cell_blk h 4, PIn.nil _ _ _ _ _⟩
theorem each_lit {rb cb : Nat} {s : ByteArray} {wi : Nat} {w : World} {l1 : Bs} {W4 : World} {x0 x1 x2 x4 x5 x6 x7 x8 : Value} {u : Value} (h : CSg rb s wi w cb l1 [x0, x1, x2, u, x4, x5, x6, x7, x8] (W4.setCell ⟨cb, 3, none⟩ u)) (hz : cb < W4.heap.size) (hu : u = .slice (some ⟨W4.heap.size + 1, 0, none⟩) 1 1) :
    ∃ (A : Option Addr) (n ca : Nat), CSg rb s wi w cb l1 [x0, x1, x2, .slice A n ca, x4, x5, x6, x7, x8] (((W4.setCell ⟨cb, 3, none⟩ u).alloc (.cells #[.int .i64 2, .bool true, .string ⟨#[64]⟩, .string ⟨#[]⟩, .slice none 0 0] 64)).alloc (.cells #[.slice (some ⟨W4.heap.size, 0, none⟩) 1 1] 54)) ∧
      Sl 1 RWord (((W4.setCell ⟨cb, 3, none⟩ u).alloc (.cells #[.int .i64 2, .bool true, .string ⟨#[64]⟩, .string ⟨#[]⟩, .slice none 0 0] 64)).alloc (.cells #[.slice (some ⟨W4.heap.size, 0, none⟩) 1 1] 54)) (Nx (w.heap.size + 1) cb (((W4.setCell ⟨cb, 3, none⟩ u).alloc (.cells #[.int .i64 2, .bool true, .string ⟨#[64]⟩, .string ⟨#[]⟩, .slice none 0 0] 64)).alloc (.cells #[.slice (some ⟨W4.heap.size, 0, none⟩) 1 1] 54))) (.slice A n ca) [[.mk 2 true [64] [] []]] := by
  subst hu
  have hsz : (W4.setCell ⟨cb, 3, none⟩ (.slice (some ⟨W4.heap.size + 1, 0, none⟩) 1 1)).heap.size = W4.heap.size := by simp
  have h2 := h.clt
  generalize (W4.setCell ⟨cb, 3, none⟩ (.slice (some ⟨W4.heap.size + 1, 0, none⟩) 1 1)) = W at *
  rw [← hsz] at hz h ⊢
  have hb : Below W.heap.size W ((W.alloc (.cells #[.int .i64 2, .bool true, .string ⟨#[64]⟩, .string ⟨#[]⟩, .slice none 0 0] 64)).alloc (.cells #[.slice (some ⟨W.heap.size, 0, none⟩) 1 1] 54)) := ((Below.refl _ _).alloc (Nat.le_refl _) _).alloc (by simp) _
  refine ⟨some ⟨W.heap.size + 1, 0, none⟩, 1, 1, h.step (kept_told hb) (h.rd.told hb), ?_⟩
  refine sl_one (vs := [.slice (some ⟨W.heap.size, 0, none⟩) 1 1]) (heap_alloc2_new W _ _) ⟨by omega, by simp, by omega⟩ rfl ⟨_, rfl, ?_⟩
  exact pin_at1 ((Below.heap_alloc _ _ _ (by simp)).trans (heap_alloc_new W _)) ⟨by omega, by simp; omega, by omega⟩ (Nat.le_refl _)
set_option maxRecDepth 100000 in
set_option maxHeartbeats 6400000 in
theorem each_any {lists : Bs → Rs (List LiT)} {sc : Bs → Option Int} {d wi : Nat} (hL : LsOk lists d wi) (hWd : WdOk (wordL sc) wi) (rb : Nat) (s : ByteArray) (l : Bs) (w : World) (h : RdS w rb s l wi) (hs : s.size ≤ 8192) :
    Calls Try.prog 53 #[.pointer (some ⟨rb, 0, none⟩)] w (Reads rb s wi (eachL lists sc l) (VAgg (RCmd (LsIn d))) w) := by
  have HW := Lib.hid h
  have HWA := Lib.hid hWd
  have HL := Lib.hid hL
  have hsl := h.len
  obtain ⟨i0, hi, hz0, hz1, hz2⟩ := info_parts wordInfo
  have HI := Lib.hid hi; have HZ0 := Lib.hid hz0; have HZ1 := Lib.hid hz1; have HZ2 := Lib.hid hz2; clear hi hz0 hz1 hz2
  have hb0 : Below w.heap.size w (w.alloc (.cells #[.int .i64 0, .string ⟨#[]⟩, .slice none 0 0, .slice none 0 0, .slice none 0 0, .slice none 0 0, .slice none 0 0, .slice none 0 0, .slice none 0 0] 42)) := (Below.refl _ _).alloc (Nat.le_refl _) _
  have HB0 := Lib.hid hb0
  have HNA := Lib.hid (nameL_any rb s l wi _ (h.told hb0) hs)
  clear hb0
  cases hm : nameL l with
  | bad a er =>
    rw [en1 hm]
    rw [hm] at HNA
    clear h hm hL hWd
    go_enter Try.func53, Try.ntmps53
    go_wp2_with (go_at_call 60; refine HNA.out.mono ?_; rintro e W ⟨hk, rfl⟩; simp only [sflt])
    exact ⟨rfl, (kept_told HB0.out).trans hk, rfl⟩
  | ok nmx r =>
    rw [hm] at HNA
    have HM := Lib.hid hm
    obtain ⟨l1, hl1⟩ : ∃ x, newlinesL r = x := ⟨_, rfl⟩
    have HNL := Lib.hid (fun W (hW : RdS W rb s r wi) => newlines_any rb s r wi W hW hs)
    rw [hl1] at HNL
    have HPI := Lib.hid (fun W (hW : RdS W rb s l1 wi) => pass_any rb s l1 wi inK W hW hs)
    have HL1 := Lib.hid hl1
    obtain ⟨E, hE⟩ : ∃ E, eachL lists sc l = E := ⟨_, rfl⟩
    rw [hE]
    have HE := Lib.hid hE
    clear h hm hL hWd hl1 hE
    go_enter Try.func53, Try.ntmps53
    go_wp2_with fail
    refine HNA.out.mono ?_
    rintro e W1 ⟨hk, v1, rfl, hr, rfl⟩
    have hst := CSg.start (hk.at (heap_alloc_new w _) (by have := HW.out.lt; omega)) hr ((kept_told (S := (· = rb)) HB0.out).trans hk) HW.out.lt [.int .i64 7, .string (nm nmx), .slice none 0 0, .slice none 0 0, .slice none 0 0, .slice none 0 0, .slice none 0 0, .slice none 0 0, .slice none 0 0]
    clear hk hr
    go_wp2_with fail
    refine calls_gen _ hst ?_
    clear hst
    generalize W1.heap.size = cb at *
    intro W2 hS
    refine (HNL.out W2 hS.rd).mono ?_
    rintro e W3 ⟨rfl, hk, hr⟩
    have HS3 := Lib.hid (hS.step hk hr)
    clear hS hk hr
    go_wp2_with fail
    cases hp : passL inK l1 with
    | none =>
      have hpi := HPI.out W3 HS3.out.rd
      rw [hp] at hpi
      have HPN := Lib.hid hpi
      have HIN : Hid (inWords sc r = .ok [[.mk 2 true [64] [] []]] l1) := Lib.hid (by rw [in_none (by rw [HL1.out]; exact hp), HL1.out])
      clear hpi hp
      go_wp2_with fail
      refine HPN.out.mono ?_
      rintro e W4 ⟨rfl, hk, hr⟩
      have HS4 := Lib.hid (HS3.out.step hk hr)
      have b3 := cell_blk HS4.out.box 3
      have f3 := froz_blk HS4.out.box 3
      have z3 := HS4.out.box.lt
      simp at b3
      clear hk hr HS3
      have HE1 : Hid (CSg rb s wi w cb l1 [.int .i64 7, .string (nm nmx), .slice none 0 0, .slice (some ⟨W4.heap.size + 1, 0, none⟩) 1 1, .slice none 0 0, .slice none 0 0, .slice none 0 0, .slice none 0 0, .slice none 0 0] (W4.setCell ⟨cb, 3, none⟩ (.slice (some ⟨W4.heap.size + 1, 0, none⟩) 1 1))) := Lib.hid (HS4.out.set 3 _)
      go_wp2_with fail
      refine calls_gen (fun wx => ∃ (A : Option Addr) (n ca : Nat), CSg rb s wi w cb l1 [.int .i64 7, .string (nm nmx), .slice none 0 0, .slice A n ca, .slice none 0 0, .slice none 0 0, .slice none 0 0, .slice none 0 0, .slice none 0 0] wx ∧ Sl 1 RWord wx (Nx (w.heap.size + 1) cb wx) (.slice A n ca) [[.mk 2 true [64] [] []]]) (each_lit HE1.out HS4.out.box.lt rfl) ?_
      rintro wc ⟨A, n, ca, hS, hsl⟩
      obtain ⟨ws, hws⟩ : ∃ ws, [[PT.mk 2 true [64] [] []]] = ws := ⟨_, rfl⟩
      obtain ⟨r3, hr3⟩ : ∃ r3, l1 = r3 := ⟨_, rfl⟩
      rw [hws] at HIN hsl
      rw [hr3] at HIN hS
      clear hws hr3 HE1 HS4 b3 f3 z3
      have HSL := Lib.hid hsl
      have HS := Lib.hid hS
      obtain ⟨r4, hr4⟩ : ∃ x, (passL [59] r3).getD r3 = x := ⟨_, rfl⟩
      have hp := pass_any rb s r3 wi [59] wc hS.rd hs
      rw [hr4] at hp
      have HP := Lib.hid hp
      obtain ⟨r5, hr5⟩ : ∃ x, newlinesL r4 = x := ⟨_, rfl⟩
      have HN2 := Lib.hid (fun W (hW : RdS W rb s r4 wi) => newlines_any rb s r4 wi W hW hs)
      rw [hr5] at HN2
      have HND := Lib.hid (fun W (hW : RdS W rb s r5 wi) => need_any rb s r5 wi doK W hW hs)
      have HR45 : Hid (newlinesL ((passL [59] r3).getD r3) = r5) := Lib.hid (by rw [hr4, hr5])
      clear hsl hS hp hr4 hr5
      refine HP.out.mono ?_
      rintro e W4 ⟨rfl, hk, hr⟩
      have HS4 := Lib.hid (HS.out.step hk hr)
      have HSL4 := Lib.hid (HS.out.stepK hk (Sl.good 1 _ RWord.good) HSL.out)
      clear hk hr
      go_wp2_with fail
      refine (HN2.out W4 HS4.out.rd).mono ?_
      rintro e W5 ⟨rfl, hk, hr⟩
      have HS5 := Lib.hid (HS4.out.step hk hr)
      have HSL5 := Lib.hid (HS4.out.stepK hk (Sl.good 1 _ RWord.good) HSL4.out)
      clear hk hr HS4 HSL4 HSL HS
      go_wp2_with fail
      have hnd := HND.out W5 HS5.out.rd
      cases hn : needL doK r5 with
      | bad a er =>
        rw [hn] at hnd
        refine hnd.mono ?_
        rintro e W6 ⟨hk, rfl⟩
        simp only [sflt]
        go_wp2_with fail
        rw [← HE.out, en3 HM.out HIN.out (by rw [HR45.out]; exact hn)]
        exact ⟨rfl, HS5.out.kept.trans hk, rfl⟩
      | ok u r6 =>
        rw [hn] at hnd
        have HLT := Lib.hid (fun W (hW : RdS W rb s r6 wi) => listsTo_any HL.out rb s r6 doneK W hW hs)
        have HNN2 : Hid (needL doK (newlinesL ((passL [59] r3).getD r3)) = .ok () r6) := Lib.hid (by rw [HR45.out]; exact hn)
        refine hnd.mono ?_
        rintro e W6 ⟨hk, u6, rfl, hr, rfl⟩
        have HS6 := Lib.hid (HS5.out.step hk hr)
        have HSL6 := Lib.hid (HS5.out.stepK hk (Sl.good 1 _ RWord.good) HSL5.out)
        clear hk hr HS5 HSL5 hn hnd
        go_wp2_with fail
        have hlt := HLT.out W6 HS6.out.rd
        cases hb : listsTo lists doneK r6 with
        | bad a er =>
          rw [hb] at hlt
          refine hlt.mono ?_
          rintro e W7 ⟨hk, rfl⟩
          simp only [sflt]
          go_wp2_with fail
          rw [← HE.out, en4 HM.out HIN.out HNN2.out hb]
          exact ⟨rfl, HS6.out.kept.trans hk, rfl⟩
        | ok b r7 =>
          rw [hb] at hlt
          refine hlt.mono ?_
          rintro e W7 ⟨hk, v7, rfl, hr, hv⟩
          obtain ⟨B3, m3, d3, rfl⟩ := LsIn.form hv
          have HS7 := Lib.hid (HS6.out.step hk hr)
          have HSL7 := Lib.hid (HS6.out.stepK hk (Sl.good 1 _ RWord.good) HSL6.out)
          have HV7 := Lib.hid (HS6.out.new (LsIn.good d) hv)
          have HFE : Hid (E = _) := Lib.hid (HE.out.symm.trans (en5 HM.out HIN.out HNN2.out hb))
          clear hk hr hv hlt hb HS6 HSL6
          have HS8 := Lib.hid (HS7.out.set 5 (.slice B3 m3 d3))
          obtain ⟨⟨q0, q1, q2, q3, q4, q5, q6, q7, q8⟩, qf⟩ := BoxC.nine HS7.out.box
          have f5 := qf 5
          have hres := HS8.out.res
          obtain ⟨⟨e0, e1, e2, e3, e4, e5, e6, e7, e8⟩, ef⟩ := BoxC.nine HS8.out.box
          obtain ⟨⟨g0, g1, g2, g3, g4, g5, g6, g7, g8⟩, gf⟩ := BoxC.nine hres
          have hne1 := HS7.out.clt
          have hne2 : ¬ cb = w.heap.size := by omega
          have hne3 : ¬ w.heap.size = cb := by omega
          go_wp2_with fail
          refine bodyPost_ret (results_cell_row rfl _ _ _ 42 _ (0, 0) _ rfl (nine_set hres _ _ _ _ _ _ _ _ _) Try.underlying42 rfl (by kernel_rfl)) rfl ?_
          rw [HFE.out]
          exact HS8.out.done (LsIn.good d) ⟨_, _, _, _, _, _, _, rfl, Sl.nil _ _ _ _ _ _, HS7.out.setK 5 _ (Sl.good 1 _ RWord.good) HSL7.out, LsIn.nil _ _ _ _ _, HS7.out.setK 5 _ (LsIn.good d) HV7.out, LsIn.nil _ _ _ _ _, Sl.nil _ _ _ _ _ _, Sl.nil _ _ _ _ _ _, fun _ => rfl⟩
    | some r2 =>
      have hpi := HPI.out W3 HS3.out.rd
      rw [hp] at hpi
      have HPN := Lib.hid hpi
      have hl2 := Sw.pass_less (by decide) hp
      obtain ⟨M, hM⟩ : ∃ M, wordsN sc (r2.length + 1) [] r2 = M := ⟨_, rfl⟩
      have HIN : Hid (inWords sc r = M) := Lib.hid (by rw [in_some (by rw [HL1.out]; exact hp), hM])
      have hr2s : r2.length ≤ s.size := by have := HS3.out.rd.len; omega
      have HM0 : Hid (r2.length < r2.length + 1 ∧ ([] : List (List PT)).length + (r2.length + 1) = r2.length + 1 ∧ wordsN sc (r2.length + 1) [] r2 = M) := Lib.hid ⟨by omega, by simp, hM⟩
      clear hpi hp hM hl2
      go_wp2_with fail
      refine HPN.out.mono ?_
      rintro e W4 ⟨rfl, hk, hr⟩
      have HS4 := Lib.hid (HS3.out.step hk hr)
      clear hk hr HS3
      go_wp2_with fail
      go_loopg [] (r2.length + 1) (fun k wr => ∃ (m : Bs) (acc : List (List PT)) (A : Option Addr) (ca : Nat), Hid (m.length < k ∧ acc.length + k = r2.length + 1 ∧ wordsN sc k acc m = M) ∧ Hid (CSg rb s wi w cb m [.int .i64 7, .string (nm nmx), .slice none 0 0, .slice A acc.length ca, .slice none 0 0, .slice none 0 0, .slice none 0 0, .slice none 0 0, .slice none 0 0] wr ∧ Row 1 RWord 54 (cb + 1) (fun _ => False) wr (.slice A acc.length ca) acc))
      case atStart => exact ⟨r2, [], none, 0, HM0, Lib.hid ⟨HS4.out, Row.nil _ _ _ _ _ _⟩⟩
      case round =>
        obtain ⟨m, acc, A, ca, HMM, HPS⟩ := hrel
        clear HS4 HM0
        have HWS := Lib.hid (wordStands_any rb s m wi wr HPS.out.1.rd hs)
        have hnb : acc.length ≤ 9000 := by have := HMM.out.2.1; omega
        cases hst : wordStands m with
        | false =>
          rw [hst] at HWS
          have HEE : Hid (inWords sc r = .ok acc m) := Lib.hid (by rw [HIN.out, ← HMM.out.2.2]; exact wn_end hst)
          clear hst HMM
          go_wp2_with fail
          refine HWS.out.mono ?_
          rintro e W5 ⟨rfl, n, rfl⟩
          have hS := HPS.out.1.step (Kept.drewN n) (HPS.out.1.rd.drewN n)
          have hrow := HPS.out.2.kept (Q := fun _ => False) RWord.good (Kept.drewN n) (fun _ e => e.elim) (fun _ _ e => e)
          have hgen : (fun wx => CSg rb s wi w cb m [.int .i64 7, .string (nm nmx), .slice none 0 0, .slice A acc.length ca, .slice none 0 0, .slice none 0 0, .slice none 0 0, .slice none 0 0, .slice none 0 0] wx ∧ Sl 1 RWord wx (Nx (w.heap.size + 1) cb wx) (.slice A acc.length ca) acc) (wr.drewN n) := ⟨hS, sl_nx RWord.good (by have := hS.clt; omega) (Nat.lt_succ_self _) (hrow.sl RWord.good (by omega))⟩
          clear hS hrow HPS HIN
          have HIN := HEE
          go_wp2_with fail
          refine calls_gen (fun wx => CSg rb s wi w cb m [.int .i64 7, .string (nm nmx), .slice none 0 0, .slice A acc.length ca, .slice none 0 0, .slice none 0 0, .slice none 0 0, .slice none 0 0, .slice none 0 0] wx ∧ Sl 1 RWord wx (Nx (w.heap.size + 1) cb wx) (.slice A acc.length ca) acc) hgen ?_
          clear hgen
          rintro wc ⟨hS, hsl⟩
          obtain ⟨ws, hws⟩ : ∃ ws, acc = ws := ⟨_, rfl⟩
          obtain ⟨r3, hr3⟩ : ∃ r3, m = r3 := ⟨_, rfl⟩
          obtain ⟨nn, hnn⟩ : ∃ nn, acc.length = nn := ⟨_, rfl⟩
          rw [hnn] at hS hsl
          rw [hws] at HIN hsl
          rw [hr3] at HIN hS
          clear hws hr3 hnn HEE HWS
          have HSL := Lib.hid hsl
          have HS := Lib.hid hS
          obtain ⟨r4, hr4⟩ : ∃ x, (passL [59] r3).getD r3 = x := ⟨_, rfl⟩
          have hp := pass_any rb s r3 wi [59] wc hS.rd hs
          rw [hr4] at hp
          have HP := Lib.hid hp
          obtain ⟨r5, hr5⟩ : ∃ x, newlinesL r4 = x := ⟨_, rfl⟩
          have HN2 := Lib.hid (fun W (hW : RdS W rb s r4 wi) => newlines_any rb s r4 wi W hW hs)
          rw [hr5] at HN2
          have HND := Lib.hid (fun W (hW : RdS W rb s r5 wi) => need_any rb s r5 wi doK W hW hs)
          have HR45 : Hid (newlinesL ((passL [59] r3).getD r3) = r5) := Lib.hid (by rw [hr4, hr5])
          clear hsl hS hp hr4 hr5
          refine HP.out.mono ?_
          rintro e W4 ⟨rfl, hk, hr⟩
          have HS4 := Lib.hid (HS.out.step hk hr)
          have HSL4 := Lib.hid (HS.out.stepK hk (Sl.good 1 _ RWord.good) HSL.out)
          clear hk hr
          go_wp2_with fail
          refine (HN2.out W4 HS4.out.rd).mono ?_
          rintro e W5 ⟨rfl, hk, hr⟩
          have HS5 := Lib.hid (HS4.out.step hk hr)
          have HSL5 := Lib.hid (HS4.out.stepK hk (Sl.good 1 _ RWord.good) HSL4.out)
          clear hk hr HS4 HSL4 HSL HS
          go_wp2_with fail
          have hnd := HND.out W5 HS5.out.rd
          cases hn : needL doK r5 with
          | bad a er =>
            rw [hn] at hnd
            refine hnd.mono ?_
            rintro e W6 ⟨hk, rfl⟩
            simp only [sflt]
            go_wp2_with fail
            rw [← HE.out, en3 HM.out HIN.out (by rw [HR45.out]; exact hn)]
            exact ⟨rfl, HS5.out.kept.trans hk, rfl⟩
          | ok u r6 =>
            rw [hn] at hnd
            have HLT := Lib.hid (fun W (hW : RdS W rb s r6 wi) => listsTo_any HL.out rb s r6 doneK W hW hs)
            have HNN2 : Hid (needL doK (newlinesL ((passL [59] r3).getD r3)) = .ok () r6) := Lib.hid (by rw [HR45.out]; exact hn)
            refine hnd.mono ?_
            rintro e W6 ⟨hk, u6, rfl, hr, rfl⟩
            have HS6 := Lib.hid (HS5.out.step hk hr)
            have HSL6 := Lib.hid (HS5.out.stepK hk (Sl.good 1 _ RWord.good) HSL5.out)
            clear hk hr HS5 HSL5 hn hnd
            go_wp2_with fail
            have hlt := HLT.out W6 HS6.out.rd
            cases hb : listsTo lists doneK r6 with
            | bad a er =>
              rw [hb] at hlt
              refine hlt.mono ?_
              rintro e W7 ⟨hk, rfl⟩
              simp only [sflt]
              go_wp2_with fail
              rw [← HE.out, en4 HM.out HIN.out HNN2.out hb]
              exact ⟨rfl, HS6.out.kept.trans hk, rfl⟩
            | ok b r7 =>
              rw [hb] at hlt
              refine hlt.mono ?_
              rintro e W7 ⟨hk, v7, rfl, hr, hv⟩
              obtain ⟨B3, m3, d3, rfl⟩ := LsIn.form hv
              have HS7 := Lib.hid (HS6.out.step hk hr)
              have HSL7 := Lib.hid (HS6.out.stepK hk (Sl.good 1 _ RWord.good) HSL6.out)
              have HV7 := Lib.hid (HS6.out.new (LsIn.good d) hv)
              have HFE : Hid (E = _) := Lib.hid (HE.out.symm.trans (en5 HM.out HIN.out HNN2.out hb))
              clear hk hr hv hlt hb HS6 HSL6
              have HS8 := Lib.hid (HS7.out.set 5 (.slice B3 m3 d3))
              obtain ⟨⟨q0, q1, q2, q3, q4, q5, q6, q7, q8⟩, qf⟩ := BoxC.nine HS7.out.box
              have f5 := qf 5
              have hres := HS8.out.res
              obtain ⟨⟨e0, e1, e2, e3, e4, e5, e6, e7, e8⟩, ef⟩ := BoxC.nine HS8.out.box
              obtain ⟨⟨g0, g1, g2, g3, g4, g5, g6, g7, g8⟩, gf⟩ := BoxC.nine hres
              have hne1 := HS7.out.clt
              have hne2 : ¬ cb = w.heap.size := by omega
              have hne3 : ¬ w.heap.size = cb := by omega
              go_wp2_with fail
              refine bodyPost_ret (results_cell_row rfl _ _ _ 42 _ (0, 0) _ rfl (nine_set hres _ _ _ _ _ _ _ _ _) Try.underlying42 rfl (by kernel_rfl)) rfl ?_
              rw [HFE.out]
              exact HS8.out.done (LsIn.good d) ⟨_, _, _, _, _, _, _, rfl, Sl.nil _ _ _ _ _ _, HS7.out.setK 5 _ (Sl.good 1 _ RWord.good) HSL7.out, LsIn.nil _ _ _ _ _, HS7.out.setK 5 _ (LsIn.good d) HV7.out, LsIn.nil _ _ _ _ _, Sl.nil _ _ _ _ _ _, Sl.nil _ _ _ _ _ _, fun _ => rfl⟩
        | true =>
          rw [hst] at HWS
          obtain ⟨k, rfl⟩ : ∃ k, gk = k + 1 := ⟨gk - 1, by have := HMM.out.1; omega⟩
          have HWD := Lib.hid (fun W (hW : RdS W rb s m wi) => HWA.out rb s m W hW hs)
          cases hw : wordL sc m with
          | bad a er =>
            rw [hw] at HWD
            have HEE : Hid (E = .bad a er) := Lib.hid (by rw [← HE.out]; exact en2 HM.out (by rw [HIN.out, ← HMM.out.2.2]; exact wn_bad hst hw))
            clear hst hw HMM
            go_wp2_with fail
            refine HWS.out.mono ?_
            rintro e W5 ⟨rfl, n, rfl⟩
            have hS := HPS.out.1.step (Kept.drewN n) (HPS.out.1.rd.drewN n)
            have S0 : Hid ((wr.drewN n).drew.cell? ⟨cb, 3, none⟩ = some (.slice A acc.length ca)) := Lib.hid (cell_blk hS.drew.box 3)
            have HCW := Lib.hid (HWD.out (wr.drewN n).drew hS.drew.rd)
            have hpk := hS.drew.kept
            clear hS
            go_wp2_with fail
            refine wp_region_held_drew (S := fun W => W.cell? ⟨cb, 3, none⟩ = some (.slice A acc.length ca)) (by kernel_rfl) S0.out (fun hHeld => ?_)
            refine wpAnyH_take (i := 0) (v := ?_) rfl (by kernel_rfl) (by kernel_rfl) (by kernel_rfl) (fun _ _ _ h => h) (Or.inl ⟨by rfl, ?_⟩) (by assumption) ?_
            rotate_left
            · (intro w hSw; (try dsimp only at hSw); go_simp; try with_reducible rfl)
            try simp only [List.getElem_toArray, List.getElem_cons_zero, Act.put, List.setIfInBounds_toArray, List.set_cons_zero, List.set_cons_succ]
            refine wpAnyH_take (i := 1) (v := ?_) rfl (by kernel_rfl) (by kernel_rfl) (by kernel_rfl) (fun _ _ _ h => h) (Or.inl ⟨by rfl, ?_⟩) (by assumption) ?_
            rotate_left
            · (intro w hSw; (try dsimp only at hSw); go_simp; try with_reducible rfl)
            try simp only [List.getElem_toArray, List.getElem_cons_zero, List.getElem_cons_succ, Act.put, List.setIfInBounds_toArray, List.set_cons_zero, List.set_cons_succ]
            refine wpAnyH_take (i := 2) (v := ?_) rfl (by kernel_rfl) (by kernel_rfl) (by kernel_rfl) (fun _ _ _ h => h) (Or.inl ⟨by rfl, ?_⟩) (by assumption) ?_
            rotate_left
            · (intro w hSw; (try dsimp only at hSw); go_simp; try with_reducible rfl)
            try simp only [List.getElem_toArray, List.getElem_cons_zero, List.getElem_cons_succ, Act.put, List.setIfInBounds_toArray, List.set_cons_zero, List.set_cons_succ]
            refine wpAnyH_ready (rs := [3]) (by kernel_rfl) (by simp) ?_
            refine AllReadyH.cons rfl (fun K hK => ?_) AllReadyH.nil
            go_simp
            go_wp2_with (go_at_call 65; refine HCW.out.mono ?_; rintro e w3 ⟨hk3, rfl⟩; simp only [sflt])
            rw [HEE.out]
            exact ⟨rfl, hpk.trans hk3, rfl⟩
          | ok x r3 =>
            rw [hw] at HWD
            have hl3 := word_less hw
            have HN : Hid (r3.length < k ∧ (acc ++ [x]).length + k = r2.length + 1 ∧ wordsN sc k (acc ++ [x]) r3 = M) := Lib.hid ⟨by have := HMM.out.1; omega, by have := HMM.out.2.1; simp; omega, by rw [← HMM.out.2.2]; exact (wn_ok hst hw).symm⟩
            clear hst hw HMM hl3
            obtain ⟨n, hn0⟩ : ∃ n : Nat, acc.length = n := ⟨_, rfl⟩
            rw [hn0] at HPS hnb
            have HNN : Hid (acc.length = n) := Lib.hid hn0
            clear hn0
            go_wp2_with fail
            refine HWS.out.mono ?_
            rintro e W5 ⟨rfl, nq, rfl⟩
            have hS := HPS.out.1.step (Kept.drewN nq) (HPS.out.1.rd.drewN nq)
            have hrow := HPS.out.2.kept (Q := fun _ => False) RWord.good (Kept.drewN nq) (fun _ e => e.elim) (fun _ _ e => e)
            clear HPS
            go_wp2_with fail
            generalize wr.drewN nq = W5 at *
            obtain ⟨vss, Sx, hRw⟩ := hrow.drew RWord.good
            have HPD := Lib.hid hS.drew
            have HRW := Lib.hid hRw
            have HCW := Lib.hid (HWD.out W5.drew hS.drew.rd)
            have s1 := cell_blk hS.drew.box 3
            have sz := hS.drew.box.lt
            simp at s1
            clear hS hRw hrow
            go_region_law (first
              | (go_simp; go_at_call 65; refine HCW.out.mono ?_; rintro e w2 ⟨hk2, v2, rfl, hr2, hv2⟩; obtain ⟨A1, n1, c1, rfl⟩ := PIn.form hv2; have HK2 := Lib.hid hk2; have HR2 := Lib.hid hr2; have HREP := Lib.hid hv2; have hbx2 := HPD.out.box.kept hk2 (by have := HPD.out.lt; have := HPD.out.clt; omega); have HBX2 := Lib.hid hbx2; have j1 := cell_blk hbx2 3; have jz := hbx2.lt; simp at j1; have HOW := Lib.hid ((row_kept HRW.out.row hk2 (fun k e1 e2 => by have := (HRW.out.row.lt k e1).1; have := HPD.out.lt; have := HPD.out.clt; omega)).alloc (.cells #[.slice A1 n1 c1] 54)); have HNEW := Lib.hid (new_cells w2 [.slice A1 n1 c1] 54); have HOWN := Lib.hid (HNN.out ▸ HOW.out); have HBS : Hid (cb + 1 ≤ (w2.alloc (.cells #[.slice A1 n1 c1] 54)).heap.size) := Lib.hid (by have := hbx2.lt; simp; omega); clear hk2 hr2 hv2 hbx2)
              | (refine step_append_lies _ rfl (.tmp 14) (.tmp 17) 38 rfl (cb + 1) 54 i0 (.slice none 0 0) 1 24 Try.underlying38 HI.out HZ0.out HZ1.out HZ2.out rfl (by decide) (.slice A n ca) n vss.flatten (by simp [Act.eval]) HOWN.out ⟨w2.heap.size, 0, none⟩ 1 1 [.slice A1 n1 c1] (by simp [Act.eval]) rfl HNEW.out (by intro u hu; rw [List.mem_singleton] at hu; subst hu; rfl) (by decide) (maxLen_ok (by omega)) (by omega) HBS.out (w2.heap.size + 1) (by simp) ?_; intro g cap w3 hown3 hg3 hat3 hlt3; have HO3 := Lib.hid hown3; have HG3 := Lib.hid hg3; have HA3 := Lib.hid hat3; have hb3 := HG3.out.block cb (by have := HBX2.out.lt; simp; omega) (fun e => by have := (HRW.out.row.lt cb e.symm).1; omega); have hbx3 := hb3.trans ((Below.heap_alloc _ _ _ HBX2.out.lt).trans HBX2.out); have k1 := cell_blk hbx3 3; simp at k1; have fz1 := froz_blk hbx3 3; have hz3 := fin_at hbx3; clear hown3 hg3 hat3 hb3 hbx3))
            all_goals
              obtain ⟨p1, p2, p3, p4⟩ := CSg.app RWord.good 3 HPD.out HRW.out HNN.out (fun k e => e.elim) (by have := HPD.out.clt; omega) HPD.out.box.lt (fun e => by have := (HRW.out.row.lt cb e).1; omega) (.inl (Nat.lt_succ_self _)) HK2.out HR2.out ⟨_, rfl, HREP.out⟩ rfl HG3.out HO3.out HA3.out
              have HPN2 : Hid (∃ cv', cv' = Value.slice (some ⟨g, 0, none⟩) (acc ++ [x]).length cap ∧ CSg rb s wi w cb r3 [.int .i64 7, .string (nm nmx), .slice none 0 0, cv', .slice none 0 0, .slice none 0 0, .slice none 0 0, .slice none 0 0, .slice none 0 0] (w3.setCell ⟨cb, 3, none⟩ (.slice (some ⟨g, 0, none⟩) (n + 1) cap)) ∧ Row 1 RWord 54 (cb + 1) (fun _ => False) (w3.setCell ⟨cb, 3, none⟩ (.slice (some ⟨g, 0, none⟩) (n + 1) cap)) cv' (acc ++ [x])) := Lib.hid ⟨_, by rw [show (acc ++ [x]).length = n + 1 from by have := HNN.out; simp; exact this], p1, p2⟩
              clear p1 p2 p3 p4
              go_wp2_with fail
              go_roundg k
              case measure => omega
              case rel =>
                obtain ⟨cv', hcv, hP1, hP2⟩ := HPN2.out
                subst hcv
                exact ⟨r3, acc ++ [x], some ⟨g, 0, none⟩, cap, HN, Lib.hid ⟨hP1, hP2⟩⟩

end Go.Proofs.Ytgajbehlggikdaa.Sw

/- DERIVED. The walk over branch. -/
namespace Go.Proofs.Ytgajbehlggikdaa.Sw
open Go.RowKit
open PathM WdM SyM
open Go.Proofs.Ytgajbehlggikdaa.Wd
set_option linter.unusedVariables false

/-- A branch being read. -/
structure BSt (rb : Nat) (s : ByteArray) (wi : Nat) (w : World) (cb : Nat) (l : Bs) (pv : Value) (ps : List (List PT)) (W : World) : Prop where
  res : W.heap[w.heap.size]? = some (.cells #[.slice none 0 0, .slice none 0 0] 61 (0, 0))
  box : W.heap[cb]? = some (.cells #[pv, .slice none 0 0] 61 (0, 0))
  row : Row 1 RWord 54 (w.heap.size + 1) (fun k => k = cb) W pv ps
  rd : RdS W rb s l wi
  kept : Kept (· = rb) w W
  lt : rb < w.heap.size
  clt : w.heap.size < cb
  pne : pv.ownBlock ≠ some cb
theorem BSt.step {rb : Nat} {s : ByteArray} {wi : Nat} {w : World} {cb : Nat} {l r : Bs} {pv : Value} {ps : List (List PT)} {W W' : World} (h : BSt rb s wi w cb l pv ps W) (hk : Kept (· = rb) W W') (hr : RdS W' rb s r wi) : BSt rb s wi w cb r pv ps W' := by
  have h1 := h.lt
  have h2 := h.clt
  exact ⟨hk.at h.res (by omega), hk.at h.box (by omega), h.row.below RWord.good hk (fun k e => by omega), hr, h.kept.trans hk, h1, h2, h.pne⟩
theorem BSt.drew {rb : Nat} {s : ByteArray} {wi : Nat} {w : World} {cb : Nat} {l : Bs} {pv : Value} {ps : List (List PT)} {W : World} (h : BSt rb s wi w cb l pv ps W) : BSt rb s wi w cb l pv ps W.drew := h.step (Kept.drewN 1) (h.rd.drewN 1)
theorem BSt.start {rb : Nat} {s : ByteArray} {wi : Nat} {w W : World} {l : Bs} {A1 : Option Addr} {n1 c1 : Nat} {p : List PT} (h1 : W.heap[w.heap.size]? = some (.cells #[.slice none 0 0, .slice none 0 0] 61 (0, 0))) (h2 : RdS W rb s l wi) (h3 : Kept (· = rb) w W) (h4 : rb < w.heap.size) (h5 : PIn 17 W (Nw (w.heap.size + 1) W) (.slice A1 n1 c1) p) :
    BSt rb s wi w (W.heap.size + 1) l (.slice (some ⟨W.heap.size, 0, none⟩) 1 1) [p] ((W.alloc (.cells #[.slice A1 n1 c1] 54)).alloc (.cells #[.slice (some ⟨W.heap.size, 0, none⟩) 1 1, .slice none 0 0] 61)) := by
  have hz := fin_at h1
  have hb : Below W.heap.size W ((W.alloc (.cells #[.slice A1 n1 c1] 54)).alloc (.cells #[.slice (some ⟨W.heap.size, 0, none⟩) 1 1, .slice none 0 0] 61)) := ((Below.refl _ _).alloc (Nat.le_refl _) _).alloc (by simp) _
  refine ⟨(hb.block _ hz).trans h1, heap_alloc2_new W _ _, ?_, h2.told hb, h3.trans (kept_told hb), h4, by omega, ?_⟩
  · refine Row.one (vs := [.slice A1 n1 c1]) (S := Nw (w.heap.size + 1) W) ((Below.heap_alloc _ _ _ (by simp)).trans (heap_alloc_new W _)) (by omega) rfl ⟨_, rfl, pin_good 17 _ _ _ _ _ _ (fun k hk hS => ⟨hS, hb.block k hk⟩) h5⟩ (fun k hk => ⟨hk.1, by have := hk.2; have := hb.size; omega, by have := hk.2; omega, fun e => by have := hk.2; omega⟩)
  · intro e; injection e with e; have e : W.heap.size = W.heap.size + 1 := e; omega
theorem BSt.app {rb : Nat} {s : ByteArray} {wi : Nat} {w : World} {cb : Nat} {l r : Bs} {pv : Value} {ps : List (List PT)} {W w2 w3 : World} {vss : List (List Value)} {S : Nat → Prop} {o : Obj} {vs : List Value} {p : List PT} {g cap n : Nat} (h : BSt rb s wi w cb l pv ps W)
    (hR : Rw 1 RWord 54 (w.heap.size + 1) (fun k => k = cb) W pv ps vss S) (hn : ps.length = n) (hk : Kept (· = rb) W w2) (hr : RdS w2 rb s r wi) (hc : RWord w2 (Nw W.heap.size w2) vs p) (hvs : vs.length = 1)
    (hg : (w2.alloc o).grownBy w3 pv.ownBlock) (h3 : w3.ownsRow (w.heap.size + 1) 54 1 (.slice (some ⟨g, 0, none⟩) (n + 1) cap) (n + 1) (vss.flatten ++ vs)) (hat : pv.ownBlock = some g ∨ g = w2.heap.size + 1) :
    BSt rb s wi w cb r (.slice (some ⟨g, 0, none⟩) (n + 1) cap) (ps ++ [p]) (w3.setCell ⟨cb, 0, none⟩ (.slice (some ⟨g, 0, none⟩) (n + 1) cap)) := by
  have h1 := h.lt
  have h2 := h.clt
  have hz := fin_at h.box
  have hz2 := hk.size
  have hlt := hR.row.lt
  have hrow := Rw.app RWord.good hR hn (fun k e => by rw [e]; exact hz) hk (by omega) (by omega) hc hvs hg h3 hat
  have hk3 : Kept (fun k => k = rb ∨ pv.ownBlock = some k) W w3 := ((hk.mono fun k e => .inl e).trans (kept_alloc w2 o)).trans (Kept.grown hg (fun k e => .inr e))
  have hk4 : Kept (fun k => pv.ownBlock = some k) w2 w3 := (kept_alloc w2 o).trans (Kept.grown hg (fun k e => e))
  have hks := Kept.setCell (S := (· = cb)) (w := w3) ⟨cb, 0, none⟩ (.slice (some ⟨g, 0, none⟩) (n + 1) cap) rfl
  have hgcb : g ≠ cb := by
    rcases hat with h4 | h4
    · intro e; exact h.pne (by rw [h4, e])
    · omega
  refine ⟨hks.at (hk3.at h.res (fun e => ?_)) (by omega), ?_, hrow.kept RWord.good hks (fun k e => .inr (.inl e)) (fun k e1 e2 => hgcb (by injection e1 with e1; exact e1.trans e2)), (hr.kept hk4 (fun e => by have := (hlt _ e).1; omega)).kept hks (by omega), ?_, h1, h2, ?_⟩
  · rcases e with e | e
    · omega
    · have := (hlt _ e).1; omega
  · have hb := hk3.at h.box (fun e => by
      rcases e with e | e
      · omega
      · exact h.pne e)
    simpa using set_blk (j := 0) hb (.slice (some ⟨g, 0, none⟩) (n + 1) cap)
  · refine (h.kept.then hk3 (fun k h3 h4 => ?_)).then hks (fun k h3 h4 => by omega)
    rcases h4 with h4 | h4
    · exact h4
    · have := (hlt _ h4).1; omega
  · intro e; injection e with e; exact hgcb e
/-- A branch read, handed back. -/
theorem branch_done {rb : Nat} {s : ByteArray} {wi : Nat} {w : World} {l : Bs} {pv bv : Value} {ps : List (List PT)} {b : List LiT} {d : Nat} {W : World} (hlt : rb < w.heap.size) (hr : RdS W rb s l wi) (hk0 : Kept (· = rb) w W) (hp : Sl 1 RWord W (Nw (w.heap.size + 1) W) pv ps) (hb : LsIn d W (Nw (w.heap.size + 1) W) bv b) :
    Reads rb s wi (.ok (.mk ps b) l) (VAgg (RCs (LsIn d))) w (.returned (.agg #[pv, bv])) ((W.setCell ⟨w.heap.size, 0, none⟩ pv).setCell ⟨w.heap.size, 1, none⟩ bv) := by
  have hk := two_kept (S := (· = w.heap.size)) W rfl pv bv
  refine ⟨hk0.then hk (fun k h1 h2 => by omega), _, rfl, hr.kept hk (by omega), [pv, bv], rfl, _, _, rfl, ?_, ?_⟩
  · exact nw_le (V := Sl 1 RWord) (Sl.good 1 _ RWord.good) (z := w.heap.size) (z' := w.heap.size + 1) (by omega) (nw_kept (V := Sl 1 RWord) (Sl.good 1 _ RWord.good) hk (fun k e => .inl (by omega)) hp)
  · exact nw_le (LsIn.good d) (z := w.heap.size) (z' := w.heap.size + 1) (by omega) (nw_kept (LsIn.good d) hk (fun k e => .inl (by omega)) hb)
section
variable {lists : Bs → Rs (List LiT)} {sc : Bs → Option Int} {l r r2 r3 r4 : Bs} {w0 : List PT} {ps : List (List PT)} {b : List LiT} {a : Nat} {e : Int}
theorem br1 (h : wordL sc ((passL [40] l).getD l) = .bad a e) : branchL lists sc l = .bad a e := by unfold branchL; rw [h]
theorem br2 (h : wordL sc ((passL [40] l).getD l) = .ok w0 r) (h2 : patsN sc (r.length + 1) [w0] r = .bad a e) : branchL lists sc l = .bad a e := by unfold branchL; rw [h]; simp only; rw [h2]
theorem br3 (h : wordL sc ((passL [40] l).getD l) = .ok w0 r) (h2 : patsN sc (r.length + 1) [w0] r = .ok ps r2) (h3 : needL [41] r2 = .bad a e) : branchL lists sc l = .bad a e := by unfold branchL; rw [h]; simp only; rw [h2]; simp only; rw [h3]
theorem br4 (h : wordL sc ((passL [40] l).getD l) = .ok w0 r) (h2 : patsN sc (r.length + 1) [w0] r = .ok ps r2) (h3 : needL [41] r2 = .ok () r3) (h4 : listsEnd (newlinesL r3) = true) : branchL lists sc l = .ok (.mk ps []) (newlinesL r3) := by unfold branchL; rw [h]; simp only; rw [h2]; simp only; rw [h3]; simp only; rw [if_pos h4]
theorem br5 (h : wordL sc ((passL [40] l).getD l) = .ok w0 r) (h2 : patsN sc (r.length + 1) [w0] r = .ok ps r2) (h3 : needL [41] r2 = .ok () r3) (h4 : listsEnd (newlinesL r3) = false) (h5 : lists (newlinesL r3) = .bad a e) : branchL lists sc l = .bad a e := by unfold branchL; rw [h]; simp only; rw [h2]; simp only; rw [h3]; simp only; rw [if_neg (by rw [h4]; decide), h5]
theorem br6 (h : wordL sc ((passL [40] l).getD l) = .ok w0 r) (h2 : patsN sc (r.length + 1) [w0] r = .ok ps r2) (h3 : needL [41] r2 = .ok () r3) (h4 : listsEnd (newlinesL r3) = false) (h5 : lists (newlinesL r3) = .ok b r4) : branchL lists sc l = .ok (.mk ps b) r4 := by unfold branchL; rw [h]; simp only; rw [h2]; simp only; rw [h3]; simp only; rw [if_neg (by rw [h4]; decide), h5]
end
theorem pn_end {sc : Bs → Option Int} {k : Nat} {acc : List (List PT)} {m : Bs} (h : passL [124] m = none) : patsN sc k acc m = .ok acc m := by
  cases k with
  | zero => rfl
  | succ k => rw [patsN, h]
theorem pn_bad {sc : Bs → Option Int} {k : Nat} {acc : List (List PT)} {m r : Bs} {a : Nat} {e : Int} (h : passL [124] m = some r) (h2 : wordL sc r = .bad a e) : patsN sc (k + 1) acc m = .bad a e := by rw [patsN, h]; simp only; rw [h2]
theorem pn_ok {sc : Bs → Option Int} {k : Nat} {acc : List (List PT)} {m r r2 : Bs} {x : List PT} (h : passL [124] m = some r) (h2 : wordL sc r = .ok x r2) : patsN sc (k + 1) acc m = patsN sc k (acc ++ [x]) r2 := by rw [patsN, h]; simp only; rw [h2]
/-- Branches are read, as the model says. -/
def BrOk (branch : Bs → Rs CsT) (d wi : Nat) : Prop := ∀ (rb : Nat) (s : ByteArray) (l : Bs) (w : World), RdS w rb s l wi → s.size ≤ 8192 →
  Calls Try.prog 72 #[.pointer (some ⟨rb, 0, none⟩)] w (Reads rb s wi (branch l) (VAgg (RCs (LsIn d))) w)
set_option maxRecDepth 100000 in
set_option maxHeartbeats 6400000 in
theorem branch_any {lists : Bs → Rs (List LiT)} {sc : Bs → Option Int} {d wi : Nat} (hL : LsOk lists d wi) (hWd : WdOk (wordL sc) wi) : BrOk (branchL lists sc) d wi := by
  intro rb s l w h hs
  have HW := Lib.hid h
  have HWA := Lib.hid hWd
  have HL := Lib.hid hL
  have hsl := h.len
  obtain ⟨i0, hi, hz0, hz1, hz2⟩ := info_parts wordInfo
  have HI := Lib.hid hi; have HZ0 := Lib.hid hz0; have HZ1 := Lib.hid hz1; have HZ2 := Lib.hid hz2; clear hi hz0 hz1 hz2
  have hb0 : Below w.heap.size w (w.alloc (.cells #[.slice none 0 0, .slice none 0 0] 61)) := (Below.refl _ _).alloc (Nat.le_refl _) _
  have HB0 := Lib.hid hb0
  obtain ⟨l1, hl1⟩ : ∃ x, (passL [40] l).getD l = x := ⟨_, rfl⟩
  have hp := pass_any rb s l wi [40] _ (h.told hb0) hs
  rw [hl1] at hp
  have HPA := Lib.hid hp
  have hl1s : l1.length ≤ l.length := by
    rw [← hl1]
    cases hx : passL [40] l with
    | none => exact Nat.le_refl _
    | some r => exact Nat.le_of_lt (Sw.pass_less (by decide) hx)
  have HWD := Lib.hid (fun W (hW : RdS W rb s l1 wi) => hWd rb s l1 W hW hs)
  obtain ⟨E, hE⟩ : ∃ E, branchL lists sc l = E := ⟨_, rfl⟩
  rw [hE]
  have HE := Lib.hid hE
  clear hb0 hp hE
  cases hm : wordL sc l1 with
  | bad a er =>
    rw [hm] at HWD
    have HEE : Hid (E = .bad a er) := Lib.hid (by rw [← HE.out]; exact br1 (by rw [hl1]; exact hm))
    clear h hm hL hWd hl1
    go_enter Try.func72, Try.ntmps72
    go_wp2_with fail
    refine HPA.out.mono ?_
    rintro e W ⟨rfl, hk, hr⟩
    go_wp2_with fail
    refine (HWD.out W hr).mono ?_
    rintro e W2 ⟨hk2, rfl⟩
    simp only [sflt]
    go_wp2_with fail
    rw [HEE.out]
    exact ⟨rfl, ((kept_told (S := (· = rb)) HB0.out).trans hk).trans hk2, rfl⟩
  | ok w0 r =>
    rw [hm] at HWD
    have HM : Hid (wordL sc ((passL [40] l).getD l) = .ok w0 r) := Lib.hid (by rw [hl1]; exact hm)
    have hrl := word_less hm
    obtain ⟨M, hM⟩ : ∃ M, patsN sc (r.length + 1) [w0] r = M := ⟨_, rfl⟩
    have HM0 : Hid (r.length < r.length + 1 ∧ ([w0] : List (List PT)).length + (r.length + 1) = r.length + 2 ∧ patsN sc (r.length + 1) [w0] r = M) := Lib.hid ⟨by omega, by simp; omega, hM⟩
    have HMM0 := Lib.hid hM
    clear h hm hL hWd hl1 hM
    go_enter Try.func72, Try.ntmps72
    go_wp2_with fail
    refine HPA.out.mono ?_
    rintro e W ⟨rfl, hk, hr⟩
    go_wp2_with fail
    refine (HWD.out W hr).mono ?_
    rintro e W2 ⟨hk2, v2, rfl, hr2, hv2⟩
    obtain ⟨A1, n1, c1, rfl⟩ := PIn.form hv2
    have hst := BSt.start (w := w) (W := W2) (A1 := A1) (n1 := n1) (c1 := c1) ((hk.trans hk2).at (heap_alloc_new w _) (by have := HW.out.lt; omega)) hr2 (((kept_told (S := (· = rb)) HB0.out).trans hk).trans hk2) HW.out.lt (nw_le (V := PIn 17) (pin_good 17) (z := w.heap.size + 1) (by have := hk.size; simp at this; omega) hv2)
    clear hk hr hk2 hr2 hv2
    go_wp2_with fail
    refine wp_gen _ hst ?_
    clear hst
    generalize W2.heap.size + 1 = cb at *
    obtain ⟨pa, hpa⟩ : ∃ pa : Option Addr, some ⟨W2.heap.size, 0, none⟩ = pa := ⟨_, rfl⟩
    rw [hpa]
    intro W3 hP
    have HP0 := Lib.hid hP
    clear hP hpa
    go_loopg [] (r.length + 1) (fun k wr => ∃ (m : Bs) (acc : List (List PT)) (A : Option Addr) (ca : Nat), Hid (m.length < k ∧ acc.length + k = r.length + 2 ∧ patsN sc k acc m = M) ∧ Hid (BSt rb s wi w cb m (.slice A acc.length ca) acc wr))
    case atStart => exact ⟨r, [w0], pa, 1, HM0, HP0⟩
    case round =>
      obtain ⟨m, acc, A, ca, HMM, HPS⟩ := hrel
      clear HP0 HM0
      have hpass := pass_any rb s m wi [124] wr HPS.out.rd hs
      have hnb : acc.length ≤ 9000 := by have := HMM.out.2.1; omega
      cases hx : passL [124] m with
      | none =>
        rw [hx] at hpass
        have HPB := Lib.hid hpass
        have HIN : Hid (patsN sc (r.length + 1) [w0] r = .ok acc m) := Lib.hid (by rw [HMM0.out, ← HMM.out.2.2]; exact pn_end hx)
        have HND := Lib.hid (fun W (hW : RdS W rb s m wi) => need_any rb s m wi [41] W hW hs)
        clear hpass hx HMM
        go_wp2_with fail
        refine HPB.out.mono ?_
        rintro e W ⟨rfl, hk, hr⟩
        have HP1 := Lib.hid (HPS.out.step hk hr)
        clear hk hr HPS
        go_wp2_with fail
        have hnd := HND.out W HP1.out.rd
        cases hn : needL [41] m with
        | bad a er =>
          rw [hn] at hnd
          refine hnd.mono ?_
          rintro e W6 ⟨hk, rfl⟩
          simp only [sflt]
          go_wp2_with fail
          rw [← HE.out, br3 HM.out HIN.out hn]
          exact ⟨rfl, HP1.out.kept.trans hk, rfl⟩
        | ok u r3 =>
          rw [hn] at hnd
          obtain ⟨r4, hr4⟩ : ∃ x, newlinesL r3 = x := ⟨_, rfl⟩
          have HNL := Lib.hid (fun W (hW : RdS W rb s r3 wi) => newlines_any rb s r3 wi W hW hs)
          rw [hr4] at HNL
          have HLE := Lib.hid (fun W (hW : RdS W rb s r4 wi) => listsEnd_any rb s r4 wi W hW hs)
          refine hnd.mono ?_
          rintro e W6 ⟨hk, u6, rfl, hr, rfl⟩
          have HP2 := Lib.hid (HP1.out.step hk hr)
          clear hk hr HP1 hnd
          go_wp2_with fail
          refine (HNL.out W6 HP2.out.rd).mono ?_
          rintro e W7 ⟨rfl, hk, hr⟩
          have HP3 := Lib.hid (HP2.out.step hk hr)
          clear hk hr HP2
          cases hle : listsEnd r4 with
          | true =>
            rw [hle] at HLE
            have HEE : Hid (E = .ok (.mk acc []) r4) := Lib.hid (by rw [← HE.out, ← hr4]; exact br4 HM.out HIN.out hn (by rw [hr4]; exact hle))
            go_wp2_with fail
            refine (HLE.out W7 HP3.out.rd).mono ?_
            rintro e W8 ⟨rfl, hb8⟩
            have hP := HP3.out.step (kept_told hb8) (HP3.out.rd.told hb8)
            have b0 := cell_blk hP.box 0
            have b1 := cell_blk hP.box 1
            have a0 := cell_blk hP.res 0
            have a1 := cell_blk hP.res 1
            have f0 := froz_blk hP.res 0
            have f1 := froz_blk hP.res 1
            have z1 := fin_at hP.res
            have z2 := fin_at hP.box
            simp at b0 b1 a0 a1
            have HPE := Lib.hid hP
            clear hP hb8 HP3 hn hle hr4 hsl
            go_wp2_with fail
            refine bodyPost_ret (results_cell_row rfl _ _ _ 61 _ (0, 0) _ rfl (two_set HPE.out.res _ _) Try.underlying61 rfl (by kernel_rfl)) rfl ?_
            rw [HEE.out]
            exact branch_done HPE.out.lt HPE.out.rd HPE.out.kept (HPE.out.row.sl RWord.good (by omega)) (LsIn.nil _ _ _ _ _)
          | false =>
            rw [hle] at HLE
            have HLS := Lib.hid (fun W (hW : RdS W rb s r4 wi) => HL.out rb s r4 W hW hs)
            cases hb : lists r4 with
            | bad a er =>
              rw [hb] at HLS
              have HEE : Hid (E = .bad a er) := Lib.hid (by rw [← HE.out]; exact br5 HM.out HIN.out hn (by rw [hr4]; exact hle) (by rw [hr4]; exact hb))
              go_wp2_with fail
              refine (HLE.out W7 HP3.out.rd).mono ?_
              rintro e W8 ⟨rfl, hb8⟩
              go_wp2_with fail
              refine (HLS.out W8 (HP3.out.rd.told hb8)).mono ?_
              rintro e W9 ⟨hk, rfl⟩
              simp only [sflt]
              go_wp2_with fail
              rw [HEE.out]
              exact ⟨rfl, (HP3.out.kept.trans (kept_told hb8)).trans hk, rfl⟩
            | ok b r5 =>
              rw [hb] at HLS
              have HEE : Hid (E = .ok (.mk acc b) r5) := Lib.hid (by rw [← HE.out]; exact br6 HM.out HIN.out hn (by rw [hr4]; exact hle) (by rw [hr4]; exact hb))
              go_wp2_with fail
              refine (HLE.out W7 HP3.out.rd).mono ?_
              rintro e W8 ⟨rfl, hb8⟩
              have HP4 := Lib.hid (HP3.out.step (kept_told hb8) (HP3.out.rd.told hb8))
              clear hb8 HP3
              go_wp2_with fail
              refine (HLS.out W8 HP4.out.rd).mono ?_
              rintro e W9 ⟨hk, v9, rfl, hr9, hv9⟩
              obtain ⟨B3, m3, d3, rfl⟩ := LsIn.form hv9
              have hP := HP4.out.step hk hr9
              have hks := Kept.setCell (S := (· = cb)) (w := W9) ⟨cb, 1, none⟩ (.slice B3 m3 d3) rfl
              have hcl := hP.clt
              have hlt := hP.lt
              have hz8 := HP4.out.kept.size
              have HRES : Hid ((W9.setCell ⟨cb, 1, none⟩ (.slice B3 m3 d3)).heap[w.heap.size]? = some (.cells #[.slice none 0 0, .slice none 0 0] 61 (0, 0))) := Lib.hid (hks.at hP.res (by omega))
              have HRD := Lib.hid (hP.rd.kept hks (by omega))
              have HKK := Lib.hid (hP.kept.then hks (fun k h1 h2 => by omega))
              have HSL := Lib.hid ((hP.row.kept RWord.good hks (fun k e => .inr (.inl e)) (fun k e1 e2 => hP.pne (by rw [e1, e2]))).sl RWord.good (by omega))
              have HLV : Hid (LsIn d (W9.setCell ⟨cb, 1, none⟩ (.slice B3 m3 d3)) (Nw (w.heap.size + 1) (W9.setCell ⟨cb, 1, none⟩ (.slice B3 m3 d3))) (.slice B3 m3 d3) b) := Lib.hid (nw_le (LsIn.good d) (z' := W8.heap.size) (by have := fin_at HP4.out.box; omega) (nw_kept (LsIn.good d) hks (fun k e => .inl (by have := fin_at HP4.out.box; omega)) hv9))
              have b0 := cell_blk hP.box 0
              have b1 := cell_blk hP.box 1
              have fb := froz_blk hP.box 1
              have a0 := cell_blk hP.res 0
              have a1 := cell_blk hP.res 1
              have f0 := froz_blk hP.res 0
              have f1 := froz_blk hP.res 1
              have z1 := fin_at hP.res
              have z2 := fin_at hP.box
              simp at b0 b1 a0 a1
              have hne2 : ¬ cb = w.heap.size := by omega
              have hne3 : ¬ w.heap.size = cb := by omega
              have HLT := Lib.hid hlt
              clear hP hk hr9 hv9 HP4 hks hn hle hr4 hsl hb
              go_wp2_with fail
              refine bodyPost_ret (results_cell_row rfl _ _ _ 61 _ (0, 0) _ rfl (two_set HRES.out _ _) Try.underlying61 rfl (by kernel_rfl)) rfl ?_
              rw [HEE.out]
              exact branch_done HLT.out HRD.out HKK.out HSL.out HLV.out
      | some r1 =>
        rw [hx] at hpass
        have HPB := Lib.hid hpass
        have hl := Sw.pass_less (by decide) hx
        obtain ⟨k, rfl⟩ : ∃ k, gk = k + 1 := ⟨gk - 1, by have := HMM.out.1; omega⟩
        have HWE := Lib.hid (fun W (hW : RdS W rb s r1 wi) => HWA.out rb s r1 W hW hs)
        cases hw : wordL sc r1 with
        | bad a er =>
          rw [hw] at HWE
          have HEE : Hid (E = .bad a er) := Lib.hid (by rw [← HE.out]; exact br2 HM.out (by rw [HMM0.out, ← HMM.out.2.2]; exact pn_bad hx hw))
          clear hpass hx hw HMM hl
          go_wp2_with fail
          refine HPB.out.mono ?_
          rintro e W ⟨rfl, hk, hr⟩
          have hP := HPS.out.step hk hr
          have S0 : Hid (W.drew.cell? ⟨cb, 0, none⟩ = some (.slice A acc.length ca)) := Lib.hid (cell_blk hP.drew.box 0)
          have HCW := Lib.hid (HWE.out W.drew hP.drew.rd)
          have hpk := hP.drew.kept
          clear hP hk hr HPS
          go_wp2_with fail
          refine wp_region_held_drew (S := fun W => W.cell? ⟨cb, 0, none⟩ = some (.slice A acc.length ca)) (by kernel_rfl) S0.out (fun hHeld => ?_)
          refine wpAnyH_take (i := 0) (v := ?_) rfl (by kernel_rfl) (by kernel_rfl) (by kernel_rfl) (fun _ _ _ h => h) (Or.inl ⟨by rfl, ?_⟩) (by assumption) ?_
          rotate_left
          · (intro w hSw; (try dsimp only at hSw); go_simp; try with_reducible rfl)
          try simp only [List.getElem_toArray, List.getElem_cons_zero, Act.put, List.setIfInBounds_toArray, List.set_cons_zero, List.set_cons_succ]
          refine wpAnyH_take (i := 1) (v := ?_) rfl (by kernel_rfl) (by kernel_rfl) (by kernel_rfl) (fun _ _ _ h => h) (Or.inl ⟨by rfl, ?_⟩) (by assumption) ?_
          rotate_left
          · (intro w hSw; (try dsimp only at hSw); go_simp; try with_reducible rfl)
          try simp only [List.getElem_toArray, List.getElem_cons_zero, List.getElem_cons_succ, Act.put, List.setIfInBounds_toArray, List.set_cons_zero, List.set_cons_succ]
          refine wpAnyH_take (i := 2) (v := ?_) rfl (by kernel_rfl) (by kernel_rfl) (by kernel_rfl) (fun _ _ _ h => h) (Or.inl ⟨by rfl, ?_⟩) (by assumption) ?_
          rotate_left
          · (intro w hSw; (try dsimp only at hSw); go_simp; try with_reducible rfl)
          try simp only [List.getElem_toArray, List.getElem_cons_zero, List.getElem_cons_succ, Act.put, List.setIfInBounds_toArray, List.set_cons_zero, List.set_cons_succ]
          refine wpAnyH_ready (rs := [3]) (by kernel_rfl) (by simp) ?_
          refine AllReadyH.cons rfl (fun K hK => ?_) AllReadyH.nil
          go_simp
          go_wp2_with (go_at_call 65; refine HCW.out.mono ?_; rintro e w3 ⟨hk3, rfl⟩; simp only [sflt])
          rw [HEE.out]
          exact ⟨rfl, hpk.trans hk3, rfl⟩
        | ok x r2 =>
          rw [hw] at HWE
          have hl3 := word_less hw
          have HN : Hid (r2.length < k ∧ (acc ++ [x]).length + k = r.length + 2 ∧ patsN sc k (acc ++ [x]) r2 = M) := Lib.hid ⟨by have := HMM.out.1; omega, by have := HMM.out.2.1; simp; omega, by rw [← HMM.out.2.2]; exact (pn_ok hx hw).symm⟩
          clear hpass hx hw HMM hl hl3
          obtain ⟨n, hn0⟩ : ∃ n : Nat, acc.length = n := ⟨_, rfl⟩
          rw [hn0] at HPS hnb
          have HNN : Hid (acc.length = n) := Lib.hid hn0
          clear hn0
          go_wp2_with fail
          refine HPB.out.mono ?_
          rintro e W5 ⟨rfl, hk, hr⟩
          have hS := HPS.out.step hk hr
          clear hk hr HPS
          go_wp2_with fail
          obtain ⟨vss, Sx, hRw⟩ := hS.drew.row
          have HPD := Lib.hid hS.drew
          have HRW := Lib.hid hRw
          have HCW := Lib.hid (HWE.out W5.drew hS.drew.rd)
          have s1 := cell_blk hS.drew.box 0
          have sz := fin_at hS.drew.box
          simp at s1
          clear hS hRw
          go_region_law (first
            | (go_simp; go_at_call 65; refine HCW.out.mono ?_; rintro e w2 ⟨hk2, v2, rfl, hr2, hv2⟩; obtain ⟨A1, n1, c1, rfl⟩ := PIn.form hv2; have HK2 := Lib.hid hk2; have HR2 := Lib.hid hr2; have HREP := Lib.hid hv2; have hbx2 := hk2.at HPD.out.box (by have := HPD.out.lt; have := HPD.out.clt; omega); have HBX2 := Lib.hid hbx2; have j1 := cell_blk hbx2 0; have jz := fin_at hbx2; simp at j1; have HOW := Lib.hid ((row_kept HRW.out.row hk2 (fun k e1 e2 => by have := (HRW.out.row.lt k e1).1; have := HPD.out.lt; omega)).alloc (.cells #[.slice A1 n1 c1] 54)); have HNEW := Lib.hid (new_cells w2 [.slice A1 n1 c1] 54); have HOWN := Lib.hid (HNN.out ▸ HOW.out); have HBS : Hid (w.heap.size + 1 ≤ (w2.alloc (.cells #[.slice A1 n1 c1] 54)).heap.size) := Lib.hid (by have := fin_at hbx2; have := HPD.out.clt; simp; omega); clear hk2 hr2 hv2 hbx2)
            | (refine step_append_lies _ rfl (.tmp 13) (.tmp 16) 38 rfl (w.heap.size + 1) 54 i0 (.slice none 0 0) 1 24 Try.underlying38 HI.out HZ0.out HZ1.out HZ2.out rfl (by decide) (.slice A n ca) n vss.flatten (by simp [Act.eval]) HOWN.out ⟨w2.heap.size, 0, none⟩ 1 1 [.slice A1 n1 c1] (by simp [Act.eval]) rfl HNEW.out (by intro u hu; rw [List.mem_singleton] at hu; subst hu; rfl) (by decide) (maxLen_ok (by omega)) (by omega) HBS.out (w2.heap.size + 1) (by simp) ?_; intro g cap w3 hown3 hg3 hat3 hlt3; have HO3 := Lib.hid hown3; have HG3 := Lib.hid hg3; have HA3 := Lib.hid hat3; have hb3 := HG3.out.block cb (by have := fin_at HBX2.out; simp; omega) (fun e => HPD.out.pne e.symm); have hbx3 := hb3.trans ((Below.heap_alloc _ _ _ (fin_at HBX2.out)).trans HBX2.out); have k1 := cell_blk hbx3 0; simp at k1; have fz1 := froz_blk hbx3 0; have hz3 := fin_at hbx3; clear hown3 hg3 hat3 hb3 hbx3))
          all_goals
            have hPN := HPD.out.app HRW.out HNN.out HK2.out HR2.out ⟨_, rfl, HREP.out⟩ rfl HG3.out HO3.out HA3.out
            have HPN : Hid (∃ cv', cv' = Value.slice (some ⟨g, 0, none⟩) (acc ++ [x]).length cap ∧ BSt rb s wi w cb r2 cv' (acc ++ [x]) (w3.setCell ⟨cb, 0, none⟩ (.slice (some ⟨g, 0, none⟩) (n + 1) cap))) := Lib.hid ⟨_, by rw [show (acc ++ [x]).length = n + 1 from by have := HNN.out; simp; exact this], hPN⟩
            clear hPN
            go_wp2_with fail
            go_roundg k
            case measure => omega
            case rel =>
              obtain ⟨cv', hcv, hP⟩ := HPN.out
              exact ⟨r2, acc ++ [x], some ⟨g, 0, none⟩, cap, HN, Lib.hid (hcv ▸ hP)⟩

end Go.Proofs.Ytgajbehlggikdaa.Sw

/- DERIVED. The walk over caseOf. -/
namespace Go.Proofs.Ytgajbehlggikdaa.Sw
open Go.RowKit
open PathM WdM SyM
open Go.Proofs.Ytgajbehlggikdaa.Wd
set_option linter.unusedVariables false

theorem caseInfo : (Try.prog.info? 61).map (fun i => (i.zero, i.size, i.bytes)) = some (some (.agg #[.slice none 0 0, .slice none 0 0]), 2, 48) := by kernel_rfl
def Lo (z cb : Nat) (k : Nat) : Prop := z ≤ k ∧ k < cb
theorem lo_kept {α : Type} {V : World → (Nat → Prop) → Value → α → Prop} (hV : GoodV V) {z cb : Nat} {Q : Nat → Prop} {W W' : World} {v : Value} {x : α} (hk : Kept Q W W') (hq : ∀ k, Q k → k < z ∨ cb ≤ k) (h : V W (Lo z cb) v x) : V W' (Lo z cb) v x :=
  hV W W' _ _ _ _ (fun k h1 h2 => ⟨h2, hk.block k h1 (fun e => by exact (hq k e).elim (fun h3 => by have := h2.1; omega) (fun h3 => by have := h2.2; omega))⟩) h
theorem branch_open {d : Nat} {w : World} {S : Nat → Prop} {v : Value} {p : CsT} (h : VAgg (RCs (LsIn d)) w S v p) : ∃ (A1 A2 : Option Addr) (n1 c1 n2 c2 : Nat), v = .agg #[.slice A1 n1 c1, .slice A2 n2 c2] ∧ RCs (LsIn d) w S [.slice A1 n1 c1, .slice A2 n2 c2] p := by
  obtain ⟨vs, rfl, h⟩ := h
  obtain ⟨ps, b⟩ := p
  obtain ⟨pv, bv, rfl, h1, h2⟩ := h
  obtain ⟨A1, n1, c1, rfl⟩ := h1.form
  obtain ⟨A2, n2, c2, rfl⟩ := LsIn.form h2
  exact ⟨A1, A2, n1, c1, n2, c2, rfl, _, _, rfl, h1, h2⟩
theorem lo_nx {α : Type} {size : Nat} {R : Rep α} (hG : Good R) {z cb : Nat} {W : World} {v : Value} {l : List α} (hcb : cb < W.heap.size) (h : Sl size R W (Lo z cb) v l) : Sl size R W (Nx z cb W) v l :=
  Sl.good size R hG _ _ _ _ _ _ (fun k _ hS => ⟨⟨hS.1, by have := hS.2; omega, by have := hS.2; omega⟩, rfl⟩) h
section
variable {lists : Bs → Rs (List LiT)} {sc : Bs → Option Int} {l r r2 r3 : Bs} {w0 : List PT} {cs : List CsT} {a : Nat} {e : Int}
theorem ca1 (h : wordL sc l = .bad a e) : caseL lists sc l = .bad a e := by unfold caseL; rw [h]
theorem ca2 (h : wordL sc l = .ok w0 r) (h2 : needL inK (newlinesL r) = .bad a e) : caseL lists sc l = .bad a e := by unfold caseL; rw [h]; simp only; rw [h2]
theorem ca3 (h : wordL sc l = .ok w0 r) (h2 : needL inK (newlinesL r) = .ok () r2) (h3 : branchesN lists sc (r2.length + 1) [] (newlinesL r2) = .bad a e) : caseL lists sc l = .bad a e := by unfold caseL; rw [h]; simp only; rw [h2]; simp only; rw [h3]
theorem ca4 (h : wordL sc l = .ok w0 r) (h2 : needL inK (newlinesL r) = .ok () r2) (h3 : branchesN lists sc (r2.length + 1) [] (newlinesL r2) = .ok cs r3) : caseL lists sc l = .ok (.mk 8 [] [] [w0] [] [] [] cs []) r3 := by unfold caseL; rw [h]; simp only; rw [h2]; simp only; rw [h3]
end
section
variable {lists : Bs → Rs (List LiT)} {sc : Bs → Option Int} {k : Nat} {acc : List CsT} {m r r2 : Bs} {x : CsT} {a : Nat} {e : Int}
theorem bs_end (h : passL esacK m = some r) : branchesN lists sc (k + 1) acc m = .ok acc r := by rw [branchesN, h]
theorem bs_bad (h : passL esacK m = none) (h2 : branchL lists sc m = .bad a e) : branchesN lists sc (k + 1) acc m = .bad a e := by rw [branchesN, h]; simp only; rw [h2]
theorem bs_next (h : passL esacK m = none) (h2 : branchL lists sc m = .ok x r) (h3 : passL [59, 59] r = some r2) : branchesN lists sc (k + 1) acc m = branchesN lists sc k (acc ++ [x]) (newlinesL r2) := by rw [branchesN, h]; simp only; rw [h2]; simp only; rw [h3]
theorem bs_need (h : passL esacK m = none) (h2 : branchL lists sc m = .ok x r) (h3 : passL [59, 59] r = none) (h4 : needL esacK r = .bad a e) : branchesN lists sc (k + 1) acc m = .bad a e := by rw [branchesN, h]; simp only; rw [h2]; simp only; rw [h3]; simp only; rw [h4]
theorem bs_last (h : passL esacK m = none) (h2 : branchL lists sc m = .ok x r) (h3 : passL [59, 59] r = none) (h4 : needL esacK r = .ok () r2) : branchesN lists sc (k + 1) acc m = .ok (acc ++ [x]) r2 := by rw [branchesN, h]; simp only; rw [h2]; simp only; rw [h3]; simp only; rw [h4]
end
set_option maxRecDepth 100000 in
set_option maxHeartbeats 6400000 in
theorem caseOf_any {lists : Bs → Rs (List LiT)} {sc : Bs → Option Int} {d wi : Nat} (hB : BrOk (branchL lists sc) d wi) (hless : ∀ l x r, branchL lists sc l = .ok x r → r.length < l.length) (hWd : WdOk (wordL sc) wi) (rb : Nat) (s : ByteArray) (l : Bs) (w : World) (h : RdS w rb s l wi) (hs : s.size ≤ 8192) :
    Calls Try.prog 54 #[.pointer (some ⟨rb, 0, none⟩)] w (Reads rb s wi (caseL lists sc l) (VAgg (RCmd (LsIn d))) w) := by
  have HW := Lib.hid h
  have HBR := Lib.hid hB
  have HLS := Lib.hid hless
  have hsl := h.len
  obtain ⟨i0, hi, hz0, hz1, hz2⟩ := info_parts caseInfo
  have HI := Lib.hid hi; have HZ0 := Lib.hid hz0; have HZ1 := Lib.hid hz1; have HZ2 := Lib.hid hz2; clear hi hz0 hz1 hz2
  have hb0 : Below w.heap.size w (w.alloc (.cells #[.int .i64 0, .string ⟨#[]⟩, .slice none 0 0, .slice none 0 0, .slice none 0 0, .slice none 0 0, .slice none 0 0, .slice none 0 0, .slice none 0 0] 42)) := (Below.refl _ _).alloc (Nat.le_refl _) _
  have HB0 := Lib.hid hb0
  have HWD := Lib.hid (hWd rb s l _ (h.told hb0) hs)
  clear hb0
  obtain ⟨E, hE⟩ : ∃ E, caseL lists sc l = E := ⟨_, rfl⟩
  rw [hE]
  have HE := Lib.hid hE
  clear hE
  cases hm : wordL sc l with
  | bad a er =>
    rw [hm] at HWD
    have HEE : Hid (E = .bad a er) := Lib.hid (by rw [← HE.out]; exact ca1 hm)
    clear h hm hB hWd hless
    go_enter Try.func54, Try.ntmps54
    go_wp2_with (go_at_call 65; refine HWD.out.mono ?_; rintro e W ⟨hk, rfl⟩; simp only [sflt])
    rw [HEE.out]
    exact ⟨rfl, (kept_told HB0.out).trans hk, rfl⟩
  | ok w0 r =>
    rw [hm] at HWD
    have HM := Lib.hid hm
    have hrl := word_less hm
    obtain ⟨l1, hl1⟩ : ∃ x, newlinesL r = x := ⟨_, rfl⟩
    have hl1s := newlines_le r
    rw [hl1] at hl1s
    have HNL := Lib.hid (fun W (hW : RdS W rb s r wi) => newlines_any rb s r wi W hW hs)
    rw [hl1] at HNL
    have HND := Lib.hid (fun W (hW : RdS W rb s l1 wi) => need_any rb s l1 wi inK W hW hs)
    have HL1 := Lib.hid hl1
    clear h hm hB hWd hless hl1
    go_enter Try.func54, Try.ntmps54
    go_wp2_with fail
    refine HWD.out.mono ?_
    rintro e W1 ⟨hk, v1, rfl, hr, hv⟩
    obtain ⟨A1, n1, c1, rfl⟩ := PIn.form hv
    have hres := hk.at (heap_alloc_new w _) (by have := HW.out.lt; omega)
    have hzr := fin_at hres
    have ha : Below W1.heap.size W1 (W1.alloc (.cells #[.slice A1 n1 c1] 54)) := (Below.refl _ _).alloc (Nat.le_refl _) _
    have hsz1 : (W1.alloc (.cells #[.slice A1 n1 c1] 54)).heap.size = W1.heap.size + 1 := by simp
    have hsl1 : Sl 1 RWord (W1.alloc (.cells #[.slice A1 n1 c1] 54)) (Lo (w.heap.size + 1) (W1.heap.size + 1)) (.slice (some ⟨W1.heap.size, 0, none⟩) 1 1) [w0] :=
      sl_one (vs := [.slice A1 n1 c1]) (heap_alloc_new W1 _) ⟨by omega, by omega⟩ rfl ⟨_, rfl, pin_good 17 _ _ _ _ _ _ (fun k hk2 hS => ⟨⟨by have := hS.1; simp at this; omega, by have := hS.2; omega⟩, ha.block k hk2⟩) hv⟩
    obtain ⟨wa, hwa⟩ : ∃ wa : Option Addr, some ⟨W1.heap.size, 0, none⟩ = wa := ⟨_, rfl⟩
    have hst := CSg.start (W := W1.alloc (.cells #[.slice A1 n1 c1] 54)) ((ha.block _ hzr).trans hres) (hr.told ha) (((kept_told (S := (· = rb)) HB0.out).trans hk).trans (kept_told ha)) HW.out.lt [.int .i64 8, .string ⟨#[]⟩, .slice none 0 0, .slice (some ⟨W1.heap.size, 0, none⟩) 1 1, .slice none 0 0, .slice none 0 0, .slice none 0 0, .slice none 0 0, .slice none 0 0]
    have hsl2 := lo_kept (V := Sl 1 RWord) (Sl.good 1 _ RWord.good) (Q := fun _ => False) (kept_alloc _ (.cells [.int .i64 8, .string ⟨#[]⟩, .slice none 0 0, .slice (some ⟨W1.heap.size, 0, none⟩) 1 1, .slice none 0 0, .slice none 0 0, .slice none 0 0, .slice none 0 0, .slice none 0 0].toArray 42)) (fun _ e => e.elim) hsl1
    rw [hsz1] at hst
    rw [hwa] at hst hsl2
    clear hk hr hv hres hzr ha hsl1
    go_wp2_with fail
    refine calls_gen (fun W => CSg rb s wi w (W1.heap.size + 1) r [.int .i64 8, .string ⟨#[]⟩, .slice none 0 0, .slice wa 1 1, .slice none 0 0, .slice none 0 0, .slice none 0 0, .slice none 0 0, .slice none 0 0] W ∧ Sl 1 RWord W (Lo (w.heap.size + 1) (W1.heap.size + 1)) (.slice wa 1 1) [w0]) ⟨hst, hsl2⟩ ?_
    clear hst hsl2 hsz1
    clear hwa
    generalize W1.heap.size + 1 = cb at *
    rintro W2 ⟨hS, hsl⟩
    refine (HNL.out W2 hS.rd).mono ?_
    rintro e W3 ⟨rfl, hk, hr⟩
    have HS3 := Lib.hid (hS.step hk hr)
    have HSL3 := Lib.hid (lo_kept (V := Sl 1 RWord) (Sl.good 1 _ RWord.good) hk (fun k e => .inl (by have := HW.out.lt; omega)) hsl)
    clear hS hk hr hsl
    go_wp2_with fail
    have hnd := HND.out W3 HS3.out.rd
    cases hn : needL inK l1 with
    | bad a er =>
      rw [hn] at hnd
      have HEE : Hid (E = .bad a er) := Lib.hid (by rw [← HE.out]; exact ca2 HM.out (by rw [HL1.out]; exact hn))
      refine hnd.mono ?_
      rintro e W4 ⟨hk, rfl⟩
      simp only [sflt]
      go_wp2_with fail
      rw [HEE.out]
      exact ⟨rfl, HS3.out.kept.trans hk, rfl⟩
    | ok u r2 =>
      rw [hn] at hnd
      obtain ⟨l3, hl3⟩ : ∃ x, newlinesL r2 = x := ⟨_, rfl⟩
      have hl3s := newlines_le r2
      rw [hl3] at hl3s
      have HN2 := Lib.hid (fun W (hW : RdS W rb s r2 wi) => newlines_any rb s r2 wi W hW hs)
      rw [hl3] at HN2
      obtain ⟨M, hM⟩ : ∃ M, branchesN lists sc (r2.length + 1) [] l3 = M := ⟨_, rfl⟩
      have HMB : Hid (∀ a er, M = .bad a er → E = .bad a er) := Lib.hid (fun a er hx => by rw [← HE.out]; exact ca3 HM.out (by rw [HL1.out]; exact hn) (by rw [hl3, hM]; exact hx))
      have HMO : Hid (∀ cs r3, M = .ok cs r3 → E = .ok (.mk 8 [] [] [w0] [] [] [] cs []) r3) := Lib.hid (fun cs r3 hx => by rw [← HE.out]; exact ca4 HM.out (by rw [HL1.out]; exact hn) (by rw [hl3, hM]; exact hx))
      have HM0 : Hid (l3.length < r2.length + 1 ∧ ([] : List CsT).length + (r2.length + 1) = r2.length + 1 ∧ branchesN lists sc (r2.length + 1) [] l3 = M) := Lib.hid ⟨by omega, by simp, hM⟩
      refine hnd.mono ?_
      rintro e W4 ⟨hk, u4, rfl, hr, rfl⟩
      have HS4 := Lib.hid (HS3.out.step hk hr)
      have HSL4 := Lib.hid (lo_kept (V := Sl 1 RWord) (Sl.good 1 _ RWord.good) hk (fun k e => .inl (by have := HW.out.lt; omega)) HSL3.out)
      have hr2s := hr.len
      clear hk hr hnd hn hM hl3 HS3 HSL3 HND HNL
      go_wp2_with fail
      refine (HN2.out W4 HS4.out.rd).mono ?_
      rintro e W5 ⟨rfl, hk, hr⟩
      have HS5 := Lib.hid (HS4.out.step hk hr)
      have HSL5 := Lib.hid (lo_kept (V := Sl 1 RWord) (Sl.good 1 _ RWord.good) hk (fun k e => .inl (by have := HW.out.lt; omega)) HSL4.out)
      clear hk hr HS4 HSL4
      go_wp2_with fail
      go_loopg [] (r2.length + 1) (fun k wr => ∃ (m : Bs) (acc : List CsT) (A : Option Addr) (ca : Nat), Hid (m.length < k ∧ acc.length + k = r2.length + 1 ∧ branchesN lists sc k acc m = M) ∧ Hid (CSg rb s wi w cb m [.int .i64 8, .string ⟨#[]⟩, .slice none 0 0, .slice wa 1 1, .slice none 0 0, .slice none 0 0, .slice none 0 0, .slice A acc.length ca, .slice none 0 0] wr ∧ Row 2 (RCs (LsIn d)) 61 (cb + 1) (fun _ => False) wr (.slice A acc.length ca) acc ∧ Sl 1 RWord wr (Lo (w.heap.size + 1) cb) (.slice wa 1 1) [w0]))
      case atStart => exact ⟨l3, [], none, 0, HM0, Lib.hid ⟨HS5.out, Row.nil _ _ _ _ _ _, HSL5.out⟩⟩
      case round =>
        obtain ⟨m, acc, A, ca, HMM, HPS⟩ := hrel
        clear HS5 HSL5 HM0
        have hpass := pass_any rb s m wi esacK wr HPS.out.1.rd hs
        have hnb : acc.length ≤ 9000 := by have := HMM.out.2.1; omega
        obtain ⟨k, rfl⟩ : ∃ k, gk = k + 1 := ⟨gk - 1, by have := HMM.out.1; omega⟩
        cases hx : passL esacK m with
        | some r3 =>
          rw [hx] at hpass
          have HPB := Lib.hid hpass
          have HEE := Lib.hid (HMO.out acc r3 (by rw [← HMM.out.2.2]; exact bs_end hx))
          clear hpass hx HMM
          go_wp2_with fail
          refine HPB.out.mono ?_
          rintro e Wc ⟨rfl, hk, hr⟩
          have HSX := Lib.hid (HPS.out.1.step hk hr)
          have HROWX := Lib.hid (HPS.out.2.1.below (RCs.good (LsIn.good d)) hk (fun k e => by have := HPS.out.1.lt; have := HPS.out.1.clt; omega))
          have HSLX := Lib.hid (lo_kept (V := Sl 1 RWord) (Sl.good 1 _ RWord.good) hk (fun k e => .inl (by have := HW.out.lt; omega)) HPS.out.2.2)
          clear hk hr HPS
          have hres := HSX.out.res
          obtain ⟨⟨e0, e1, e2, e3, e4, e5, e6, e7, e8⟩, ef⟩ := BoxC.nine HSX.out.box
          obtain ⟨⟨g0, g1, g2, g3, g4, g5, g6, g7, g8⟩, gf⟩ := BoxC.nine hres
          have hne1 := HSX.out.clt
          have hne2 : ¬ cb = w.heap.size := by omega
          have hne3 : ¬ w.heap.size = cb := by omega
          go_wp2_with fail
          refine bodyPost_ret (results_cell_row rfl _ _ _ 42 _ (0, 0) _ rfl (nine_set hres _ _ _ _ _ _ _ _ _) Try.underlying42 rfl (by kernel_rfl)) rfl ?_
          rw [HEE.out]
          exact HSX.out.done (LsIn.good d) ⟨_, _, _, _, _, _, _, rfl, Sl.nil _ _ _ _ _ _, lo_nx RWord.good HSX.out.box.lt HSLX.out, LsIn.nil _ _ _ _ _, LsIn.nil _ _ _ _ _, LsIn.nil _ _ _ _ _, sl_nx (RCs.good (LsIn.good d)) (by have := HSX.out.clt; omega) (Nat.lt_succ_self _) (HROWX.out.sl (RCs.good (LsIn.good d)) (by omega)), Sl.nil _ _ _ _ _ _, fun _ => rfl⟩
        | none =>
          rw [hx] at hpass
          have HPB := Lib.hid hpass
          have HB1 := Lib.hid (fun W (hW : RdS W rb s m wi) => HBR.out rb s m W hW hs)
          cases hb : branchL lists sc m with
          | bad a er =>
            rw [hb] at HB1
            have HEE := Lib.hid (HMB.out a er (by rw [← HMM.out.2.2]; exact bs_bad hx hb))
            clear hpass hx hb HMM
            go_wp2_with fail
            refine HPB.out.mono ?_
            rintro e W ⟨rfl, hk, hr⟩
            have hP := HPS.out.1.step hk hr
            have S0 : Hid (W.drew.cell? ⟨cb, 7, none⟩ = some (.slice A acc.length ca)) := Lib.hid (cell_blk hP.drew.box 7)
            have HCW := Lib.hid (HB1.out W.drew hP.drew.rd)
            have hpk := hP.drew.kept
            clear hP hk hr HPS
            go_wp2_with fail
            refine wp_region_held_drew (S := fun W => W.cell? ⟨cb, 7, none⟩ = some (.slice A acc.length ca)) (by kernel_rfl) S0.out (fun hHeld => ?_)
            refine wpAnyH_take (i := 0) (v := ?_) rfl (by kernel_rfl) (by kernel_rfl) (by kernel_rfl) (fun _ _ _ h => h) (Or.inl ⟨by rfl, ?_⟩) (by assumption) ?_
            rotate_left
            · (intro w hSw; (try dsimp only at hSw); go_simp; try with_reducible rfl)
            try simp only [List.getElem_toArray, List.getElem_cons_zero, Act.put, List.setIfInBounds_toArray, List.set_cons_zero, List.set_cons_succ]
            refine wpAnyH_take (i := 1) (v := ?_) rfl (by kernel_rfl) (by kernel_rfl) (by kernel_rfl) (fun _ _ _ h => h) (Or.inl ⟨by rfl, ?_⟩) (by assumption) ?_
            rotate_left
            · (intro w hSw; (try dsimp only at hSw); go_simp; try with_reducible rfl)
            try simp only [List.getElem_toArray, List.getElem_cons_zero, List.getElem_cons_succ, Act.put, List.setIfInBounds_toArray, List.set_cons_zero, List.set_cons_succ]
            refine wpAnyH_take (i := 2) (v := ?_) rfl (by kernel_rfl) (by kernel_rfl) (by kernel_rfl) (fun _ _ _ h => h) (Or.inl ⟨by rfl, ?_⟩) (by assumption) ?_
            rotate_left
            · (intro w hSw; (try dsimp only at hSw); go_simp; try with_reducible rfl)
            try simp only [List.getElem_toArray, List.getElem_cons_zero, List.getElem_cons_succ, Act.put, List.setIfInBounds_toArray, List.set_cons_zero, List.set_cons_succ]
            refine wpAnyH_ready (rs := [3]) (by kernel_rfl) (by simp) ?_
            refine AllReadyH.cons rfl (fun K hK => ?_) AllReadyH.nil
            go_simp
            go_wp2_with (go_at_call 72; refine HCW.out.mono ?_; rintro e w3 ⟨hk3, rfl⟩; simp only [sflt])
            rw [HEE.out]
            exact ⟨rfl, hpk.trans hk3, rfl⟩
          | ok x q =>
            rw [hb] at HB1
            have HBO := HB1
            clear HB1
            have hql := HLS.out _ _ _ hb
            have hxb := Lib.hid (And.intro hx hb)
            obtain ⟨n, hn0⟩ : ∃ n : Nat, acc.length = n := ⟨_, rfl⟩
            rw [hn0] at HPS hnb
            have HNN : Hid (acc.length = n) := Lib.hid hn0
            clear hn0 hpass hx hb
            go_wp2_with fail
            refine HPB.out.mono ?_
            rintro e W5 ⟨rfl, hk, hr⟩
            have hS := HPS.out.1.step hk hr
            have hrow := HPS.out.2.1.below (RCs.good (LsIn.good d)) hk (fun k e => by have := HPS.out.1.lt; have := HPS.out.1.clt; omega)
            have HSLX := Lib.hid (lo_kept (V := Sl 1 RWord) (Sl.good 1 _ RWord.good) hk (fun k e => .inl (by have := HW.out.lt; omega)) HPS.out.2.2)
            clear hk hr HPS
            go_upto_region 8 with (fail)
            go_cut [] from 17 to 23 (fun wx => ∃ (g cap : Nat), CSg rb s wi w cb q [.int .i64 8, .string ⟨#[]⟩, .slice none 0 0, .slice wa 1 1, .slice none 0 0, .slice none 0 0, .slice none 0 0, .slice (some ⟨g, 0, none⟩) (n + 1) cap, .slice none 0 0] wx ∧ Row 2 (RCs (LsIn d)) 61 (cb + 1) (fun _ => False) wx (.slice (some ⟨g, 0, none⟩) (n + 1) cap) (acc ++ [x]) ∧ Sl 1 RWord wx (Lo (w.heap.size + 1) cb) (.slice wa 1 1) [w0])
            case first =>
              obtain ⟨vss, Sx, hRw⟩ := hrow.drew (RCs.good (LsIn.good d))
              have HPD := Lib.hid hS.drew
              have HRW := Lib.hid hRw
              have HCW := Lib.hid (HBO.out W5.drew hS.drew.rd)
              have s1 := cell_blk hS.drew.box 7
              have sz := hS.drew.box.lt
              simp at s1
              clear hS hRw hrow
              go_region_law (first
                | (go_simp; go_at_call 72; refine HCW.out.mono ?_; rintro e w2 ⟨hk2, v2, rfl, hr2, hv2⟩; obtain ⟨B1, B2, m1, d1, m2, d2, rfl, hrep⟩ := branch_open hv2; have HK2 := Lib.hid hk2; have HR2 := Lib.hid hr2; have HREP := Lib.hid hrep; have hbx2 := HPD.out.box.kept hk2 (by have := HPD.out.lt; have := HPD.out.clt; omega); have HBX2 := Lib.hid hbx2; have j1 := cell_blk hbx2 7; have jz := hbx2.lt; simp at j1; have HOW := Lib.hid ((row_kept HRW.out.row hk2 (fun k e1 e2 => by have := (HRW.out.row.lt k e1).1; have := HPD.out.lt; have := HPD.out.clt; omega)).alloc (.cells #[.slice B1 m1 d1, .slice B2 m2 d2] 61)); have HNEW := Lib.hid (new_cells w2 [.slice B1 m1 d1, .slice B2 m2 d2] 61); have HOWN := Lib.hid (HNN.out ▸ HOW.out); have HBS : Hid (cb + 1 ≤ (w2.alloc (.cells #[.slice B1 m1 d1, .slice B2 m2 d2] 61)).heap.size) := Lib.hid (by have := hbx2.lt; simp; omega); clear hk2 hr2 hv2 hbx2 hrep)
                | (refine step_append_lies _ rfl (.tmp 18) (.tmp 21) 39 rfl (cb + 1) 61 i0 (.agg #[.slice none 0 0, .slice none 0 0]) 2 48 Try.underlying39 HI.out HZ0.out HZ1.out HZ2.out rfl (by decide) (.slice A n ca) n vss.flatten (by simp [Act.eval]) HOWN.out ⟨w2.heap.size, 0, none⟩ 1 1 [.slice B1 m1 d1, .slice B2 m2 d2] (by simp [Act.eval]) rfl HNEW.out (by intro u hu; simp only [List.mem_cons, List.not_mem_nil, or_false] at hu; rcases hu with rfl | rfl <;> rfl) (by decide) (maxLen_ok (by omega)) (by omega) HBS.out (w2.heap.size + 1) (by simp) ?_; intro g cap w3 hown3 hg3 hat3 hlt3; have HO3 := Lib.hid hown3; have HG3 := Lib.hid hg3; have HA3 := Lib.hid hat3; have hb3 := HG3.out.block cb (by have := HBX2.out.lt; simp; omega) (fun e => by have := (HRW.out.row.lt cb e.symm).1; omega); have hbx3 := hb3.trans ((Below.heap_alloc _ _ _ HBX2.out.lt).trans HBX2.out); have k1 := cell_blk hbx3 7; simp at k1; have fz1 := froz_blk hbx3 7; have hz3 := fin_at hbx3; clear hown3 hg3 hat3 hb3 hbx3))
              all_goals
                obtain ⟨p1, p2, p3, p4⟩ := CSg.app (RCs.good (LsIn.good d)) 7 HPD.out HRW.out HNN.out (fun k e => e.elim) (by have := HPD.out.clt; omega) HPD.out.box.lt (fun e => by have := (HRW.out.row.lt cb e).1; omega) (.inl (Nat.lt_succ_self _)) HK2.out HR2.out HREP.out rfl HG3.out HO3.out HA3.out
                have hsl := lo_kept (V := Sl 1 RWord) (Sl.good 1 _ RWord.good) ((Kept.drewN (S := fun k => k = rb ∨ k = cb ∨ (Value.slice A n ca).ownBlock = some k) 1).trans p4) (fun k e => by
                  rcases e with e | e | e
                  · exact .inl (by have := HW.out.lt; omega)
                  · exact .inr (by omega)
                  · exact .inr (by have := (HRW.out.row.lt k e).1; omega)) HSLX.out
                have HALL := Lib.hid (And.intro p1 (And.intro p2 hsl))
                clear p1 p2 p3 p4 hsl
                go_wp2_with fail
                go_meet
                exact ⟨g, cap, HALL.out⟩
            case rest =>
              obtain ⟨g, cap, hS, hrow, hsl⟩ := hcut
              have hnb2 : (acc ++ [x]).length ≤ 9001 := by have := HNN.out; simp; omega
              have hp2 := pass_any rb s q wi [59, 59] wc hS.rd hs
              have HS0 := Lib.hid hS
              have HR0 := Lib.hid hrow
              have HL0 := Lib.hid hsl
              clear hS hrow hsl
              cases hx2 : passL [59, 59] q with
              | some q2 =>
                rw [hx2] at hp2
                have HPB2 := Lib.hid hp2
                have hl2 := Sw.pass_less (by decide) hx2
                obtain ⟨q3, hq3⟩ : ∃ y, newlinesL q2 = y := ⟨_, rfl⟩
                have hq3s := newlines_le q2
                rw [hq3] at hq3s
                have HNQ := Lib.hid (fun W (hW : RdS W rb s q2 wi) => newlines_any rb s q2 wi W hW hs)
                rw [hq3] at HNQ
                have HN : Hid (q3.length < k ∧ (acc ++ [x]).length + k = r2.length + 1 ∧ branchesN lists sc k (acc ++ [x]) q3 = M) := Lib.hid ⟨by have := HMM.out.1; omega, by have := HMM.out.2.1; simp; omega, by rw [← HMM.out.2.2, ← hq3]; exact (bs_next hxb.out.1 hxb.out.2 hx2).symm⟩
                clear hp2 hx2 hq3 HMM hl2 hql
                go_wp2_with fail
                refine HPB2.out.mono ?_
                rintro e W6 ⟨rfl, hk, hr⟩
                have HS6 := Lib.hid (HS0.out.step hk hr)
                have HR6 := Lib.hid (HR0.out.below (RCs.good (LsIn.good d)) hk (fun k e => by have := HS0.out.lt; have := HS0.out.clt; omega))
                have HL6 := Lib.hid (lo_kept (V := Sl 1 RWord) (Sl.good 1 _ RWord.good) hk (fun k e => .inl (by have := HW.out.lt; omega)) HL0.out)
                clear hk hr HS0 HR0 HL0
                go_wp2_with fail
                refine (HNQ.out W6 HS6.out.rd).mono ?_
                rintro e W7 ⟨rfl, hk, hr⟩
                have HS7 := Lib.hid (HS6.out.step hk hr)
                have HR7 := Lib.hid (HR6.out.below (RCs.good (LsIn.good d)) hk (fun k e => by have := HS6.out.lt; have := HS6.out.clt; omega))
                have HL7 := Lib.hid (lo_kept (V := Sl 1 RWord) (Sl.good 1 _ RWord.good) hk (fun k e => .inl (by have := HW.out.lt; omega)) HL6.out)
                clear hk hr HS6 HR6 HL6
                have HPN : Hid (∃ cv', cv' = Value.slice (some ⟨g, 0, none⟩) (acc ++ [x]).length cap ∧ CSg rb s wi w cb q3 [.int .i64 8, .string ⟨#[]⟩, .slice none 0 0, .slice wa 1 1, .slice none 0 0, .slice none 0 0, .slice none 0 0, cv', .slice none 0 0] W7 ∧ Row 2 (RCs (LsIn d)) 61 (cb + 1) (fun _ => False) W7 cv' (acc ++ [x]) ∧ Sl 1 RWord W7 (Lo (w.heap.size + 1) cb) (.slice wa 1 1) [w0]) := Lib.hid ⟨_, by rw [show (acc ++ [x]).length = n + 1 from by have := HNN.out; simp; exact this], HS7.out, HR7.out, HL7.out⟩
                clear HS7 HR7 HL7
                go_wp2_with fail
                go_roundg k
                case measure => omega
                case rel =>
                  obtain ⟨cv', hcv, hP1, hP2, hP3⟩ := HPN.out
                  subst hcv
                  exact ⟨q3, acc ++ [x], some ⟨g, 0, none⟩, cap, HN, Lib.hid ⟨hP1, hP2, hP3⟩⟩
              | none =>
                rw [hx2] at hp2
                have HPB2 := Lib.hid hp2
                have HNE := Lib.hid (fun W (hW : RdS W rb s q wi) => need_any rb s q wi esacK W hW hs)
                cases hn2 : needL esacK q with
                | bad a er =>
                  rw [hn2] at HNE
                  have HEE := Lib.hid (HMB.out a er (by rw [← HMM.out.2.2]; exact bs_need hxb.out.1 hxb.out.2 hx2 hn2))
                  clear hp2 hx2 hn2 HMM
                  go_wp2_with fail
                  refine HPB2.out.mono ?_
                  rintro e W6 ⟨rfl, hk, hr⟩
                  have HS6 := Lib.hid (HS0.out.step hk hr)
                  have HR6 := Lib.hid (HR0.out.below (RCs.good (LsIn.good d)) hk (fun k e => by have := HS0.out.lt; have := HS0.out.clt; omega))
                  have HL6 := Lib.hid (lo_kept (V := Sl 1 RWord) (Sl.good 1 _ RWord.good) hk (fun k e => .inl (by have := HW.out.lt; omega)) HL0.out)
                  clear hk hr HS0 HR0 HL0
                  go_wp2_with fail
                  refine (HNE.out W6 HS6.out.rd).mono ?_
                  rintro e W7 ⟨hk, rfl⟩
                  simp only [sflt]
                  go_wp2_with fail
                  rw [HEE.out]
                  exact ⟨rfl, HS6.out.kept.trans hk, rfl⟩
                | ok u2 q4 =>
                  rw [hn2] at HNE
                  have HEE := Lib.hid (HMO.out (acc ++ [x]) q4 (by rw [← HMM.out.2.2]; exact bs_last hxb.out.1 hxb.out.2 hx2 hn2))
                  clear hp2 hx2 hn2 HMM
                  go_wp2_with fail
                  refine HPB2.out.mono ?_
                  rintro e W6 ⟨rfl, hk, hr⟩
                  have HS6 := Lib.hid (HS0.out.step hk hr)
                  have HR6 := Lib.hid (HR0.out.below (RCs.good (LsIn.good d)) hk (fun k e => by have := HS0.out.lt; have := HS0.out.clt; omega))
                  have HL6 := Lib.hid (lo_kept (V := Sl 1 RWord) (Sl.good 1 _ RWord.good) hk (fun k e => .inl (by have := HW.out.lt; omega)) HL0.out)
                  clear hk hr HS0 HR0 HL0
                  go_wp2_with fail
                  refine (HNE.out W6 HS6.out.rd).mono ?_
                  rintro e W7 ⟨hk, u7, rfl, hr, rfl⟩
                  have HSX := Lib.hid (HS6.out.step hk hr)
                  have HROWX := Lib.hid (HR6.out.below (RCs.good (LsIn.good d)) hk (fun k e => by have := HS6.out.lt; have := HS6.out.clt; omega))
                  have HSLX := Lib.hid (lo_kept (V := Sl 1 RWord) (Sl.good 1 _ RWord.good) hk (fun k e => .inl (by have := HW.out.lt; omega)) HL6.out)
                  clear hk hr HS6 HR6 HL6
                  have hres := HSX.out.res
                  obtain ⟨⟨e0, e1, e2, e3, e4, e5, e6, e7, e8⟩, ef⟩ := BoxC.nine HSX.out.box
                  obtain ⟨⟨g0, g1, g2, g3, g4, g5, g6, g7, g8⟩, gf⟩ := BoxC.nine hres
                  have hne1 := HSX.out.clt
                  have hne2 : ¬ cb = w.heap.size := by omega
                  have hne3 : ¬ w.heap.size = cb := by omega
                  go_wp2_with fail
                  refine bodyPost_ret (results_cell_row rfl _ _ _ 42 _ (0, 0) _ rfl (nine_set hres _ _ _ _ _ _ _ _ _) Try.underlying42 rfl (by kernel_rfl)) rfl ?_
                  rw [HEE.out]
                  exact HSX.out.done (LsIn.good d) ⟨_, _, _, _, _, _, _, rfl, Sl.nil _ _ _ _ _ _, lo_nx RWord.good HSX.out.box.lt HSLX.out, LsIn.nil _ _ _ _ _, LsIn.nil _ _ _ _ _, LsIn.nil _ _ _ _ _, sl_nx (RCs.good (LsIn.good d)) (by have := HSX.out.clt; omega) (Nat.lt_succ_self _) (HROWX.out.sl (RCs.good (LsIn.good d)) (by omega)), Sl.nil _ _ _ _ _ _, fun _ => rfl⟩

end Go.Proofs.Ytgajbehlggikdaa.Sw
