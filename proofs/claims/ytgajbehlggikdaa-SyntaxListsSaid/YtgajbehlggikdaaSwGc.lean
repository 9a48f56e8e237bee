/- DERIVED. The walks over script and parse: what reading gives up with is recovered. -/
import Derived.Test.YtgajbehlggikdaaSwGb
import Derived.Test.YtgajbehlggikdaaSyGb
import Derived.Defers
import Derived.Recover
import Derived.Test.YtgajbehlggikdaaWdTszQ
import Derived.Deep.RegionHeld3
import Derived.Deep.LoopGhost
import Derived.Test.YtgajbehlggikdaaShelf2
import Derived.Laws.ResultCell
namespace Go.Proofs.Ytgajbehlggikdaa.Sw
open Go.RowKit
open PathM WdM SyM
open Go.Proofs.Ytgajbehlggikdaa.Wd
set_option linter.unusedVariables false

/-- Lists are read, within so many levels, as the model says. -/
def LsOk (lists : Bs → Rs (List LiT)) (d wi : Nat) : Prop := ∀ (rb : Nat) (s : ByteArray) (l : Bs) (w : World), RdS w rb s l wi → s.size ≤ 8192 →
  Calls Try.prog 18 #[.pointer (some ⟨rb, 0, none⟩)] w (Reads rb s wi (lists l) (LsIn d) w)
/-- How a script's reading ends. -/
def ScriptPost (rb : Nat) (s : ByteArray) (m : Rs (List LiT)) (d : Nat) (w : World) (e : Ending) (w' : World) : Prop :=
  Kept (· = rb) w w' ∧ match m with
    | .ok x _ => ∃ v, e = .returned v ∧ LsIn d w' (Nw w.heap.size w') v x
    | .bad a er => e = sflt (s.size - a) er
theorem script_over {lists : Bs → Rs (List LiT)} {l : Bs} (h : overL (newlinesL l) = true) : scriptL lists l = .ok [] [] := by unfold scriptL; rw [if_pos h]
theorem script_bad {lists : Bs → Rs (List LiT)} {l : Bs} {a : Nat} {e : Int} (h : overL (newlinesL l) = false) (h2 : lists (newlinesL l) = .bad a e) : scriptL lists l = .bad a e := by unfold scriptL; rw [if_neg (by rw [h]; decide), h2]
theorem script_ok {lists : Bs → Rs (List LiT)} {l r : Bs} {x : List LiT} (h : overL (newlinesL l) = false) (h2 : lists (newlinesL l) = .ok x r) (h3 : overL r = true) : scriptL lists l = .ok x [] := by unfold scriptL; rw [if_neg (by rw [h]; decide), h2]; simp only; rw [if_pos h3]
theorem script_more {lists : Bs → Rs (List LiT)} {l r : Bs} {x : List LiT} (h : overL (newlinesL l) = false) (h2 : lists (newlinesL l) = .ok x r) (h3 : overL r = false) : scriptL lists l = refuse r := by unfold scriptL; rw [if_neg (by rw [h]; decide), h2]; simp only; rw [if_neg (by rw [h3]; decide)]
set_option maxHeartbeats 1600000 in
theorem script_any {lists : Bs → Rs (List LiT)} {d wi : Nat} (hL : LsOk lists d wi) (rb : Nat) (s : ByteArray) (l : Bs) (w : World) (h : RdS w rb s l wi) (hs : s.size ≤ 8192) :
    Calls Try.prog 13 #[.pointer (some ⟨rb, 0, none⟩)] w (ScriptPost rb s (scriptL lists l) d w) := by
  have hn := newlines_any rb s l wi w h hs
  have ho := fun W (hW : RdS W rb s (newlinesL l) wi) => over_any rb s (newlinesL l) wi W hW hs
  have hl := fun W (hW : RdS W rb s (newlinesL l) wi) => hL rb s (newlinesL l) W hW hs
  have HNL := Lib.hid hn
  unfold ScriptPost
  cases hov : overL (newlinesL l) with
  | true =>
    rw [script_over hov]
    rw [hov] at ho
    have HO := Lib.hid ho
    clear hn ho hl hov h
    go_enter Try.func13, Try.ntmps13
    go_wp2_with (first | (go_at_call 16; refine HNL.out.mono ?_; rintro e W ⟨rfl, hk, hr⟩; have HK := Lib.hid hk; have HR := Lib.hid hr; clear hk hr) | (go_at_call 17; refine (HO.out _ HR.out).mono ?_; rintro e W2 ⟨rfl, n, rfl⟩))
    go_ret
    exact ⟨HK.out.trans (Kept.drewN n), _, rfl, LsIn.nil _ _ _ _ _⟩
  | false =>
    rw [hov] at ho
    cases hm : lists (newlinesL l) with
    | bad a er =>
      rw [script_bad hov hm]
      rw [hm] at hl
      have HO := Lib.hid ho
      have HLS := Lib.hid hl
      clear hn ho hl hov h hm
      go_enter Try.func13, Try.ntmps13
      go_wp2_with (first | (go_at_call 16; refine HNL.out.mono ?_; rintro e W ⟨rfl, hk, hr⟩; have HK := Lib.hid hk; have HR := Lib.hid hr; clear hk hr) | (go_at_call 17; refine (HO.out _ HR.out).mono ?_; rintro e W2 ⟨rfl, n, rfl⟩; have HR2 := Lib.hid (HR.out.drewN n)) | (go_at_call 18; refine (HLS.out _ HR2.out).mono ?_; rintro e W3 ⟨hk3, rfl⟩; simp only [sflt]))
      exact ⟨rfl, (HK.out.trans (Kept.drewN n)).trans hk3, rfl⟩
    | ok x r =>
      rw [hm] at hl
      have ho2 := fun W (hW : RdS W rb s r wi) => over_any rb s r wi W hW hs
      have HO := Lib.hid ho
      have HLS := Lib.hid hl
      cases hov2 : overL r with
      | true =>
        rw [script_ok hov hm hov2]
        rw [hov2] at ho2
        have HO2 := Lib.hid ho2
        clear hn ho hl hov h hm ho2 hov2
        go_enter Try.func13, Try.ntmps13
        go_wp2_with (first | (go_at_call 16; refine HNL.out.mono ?_; rintro e W ⟨rfl, hk, hr⟩; have HK := Lib.hid hk; have HR := Lib.hid hr; clear hk hr) | (go_at_call 17; first | (refine (HO2.out _ HR3.out).mono ?_; rintro e W4 ⟨rfl, n2, rfl⟩) | (refine (HO.out _ HR.out).mono ?_; rintro e W2 ⟨rfl, n, rfl⟩; have HR2 := Lib.hid (HR.out.drewN n))) | (go_at_call 18; refine (HLS.out _ HR2.out).mono ?_; rintro e W3 ⟨hk3, v, rfl, hr3, hv⟩; have HK3 := Lib.hid hk3; have HR3 := Lib.hid hr3; have HV := Lib.hid hv; clear hk3 hr3 hv))
        go_ret
        exact ⟨((HK.out.trans (Kept.drewN n)).trans HK3.out).trans (Kept.drewN n2), v, rfl, nw_kept (LsIn.good d) (Q := fun _ => False) (Kept.drewN n2) (fun _ e => e.elim) (nw_le (LsIn.good d) (HK.out.size : w.heap.size ≤ (W.drewN n).heap.size) HV.out)⟩
      | false =>
        rw [script_more hov hm hov2]
        rw [hov2] at ho2
        obtain ⟨rn, re, hRF, hr⟩ := refuse_ex rb s r wi hs
        obtain ⟨ra, hra, hrn⟩ := refused_bad (α := List LiT) hRF
        rw [hra]
        have HRN := Lib.hid hrn
        have HO2 := Lib.hid ho2
        have HRC := Lib.hid hr
        have HRF := Lib.hid hRF
        clear hn ho hl hov h hm ho2 hov2 hr hRF hra hrn
        go_enter Try.func13, Try.ntmps13
        go_wp2_with (first | (go_at_call 16; refine HNL.out.mono ?_; rintro e W ⟨rfl, hk, hr⟩; have HK := Lib.hid hk; have HR := Lib.hid hr; clear hk hr) | (go_at_call 17; first | (refine (HO2.out _ HR3.out).mono ?_; rintro e W4 ⟨rfl, n2, rfl⟩; have HR4 := Lib.hid (HR3.out.drewN n2)) | (refine (HO.out _ HR.out).mono ?_; rintro e W2 ⟨rfl, n, rfl⟩; have HR2 := Lib.hid (HR.out.drewN n))) | (go_at_call 18; refine (HLS.out _ HR2.out).mono ?_; rintro e W3 ⟨hk3, v, rfl, hr3, hv⟩; have HK3 := Lib.hid hk3; have HR3 := Lib.hid hr3; have HV := Lib.hid hv; clear hk3 hr3 hv) | (go_at_call 19; refine (HRC.out _ HR4.out).mono ?_; rintro e W5 ⟨rfl, rfl⟩))
        exact ⟨rfl, ((HK.out.trans (Kept.drewN n)).trans HK3.out).trans (Kept.drewN n2), by rw [HRN.out]; rfl⟩

theorem sassert_fault (a : Value) (W : World) : (Instr.typeAssert (.iface 49 a) 20 49 true).run Try.prog W = .ok (.tuple #[a, .bool true]) W := by
  have h := Try.underlying49
  simp [Instr.typeAssert, run_underlying h]
theorem scatch_idle (b : Nat) (w : World) :
    CallsD Try.prog 12 #[.pointer (some ⟨b, 0, none⟩), .pointer (some ⟨b + 1, 0, none⟩), .pointer (some ⟨b + 2, 0, none⟩)] .returning w fun e u' w' => e = .returned (.tuple #[]) ∧ u' = .returning ∧ w' = w := by
  refine callsD_of_wpS Try.func12 rfl fun c₀ cs hu => ?_
  apply wpS_seq
  apply wpS_region
  simp [wpOpsS, go_sem, recoverD, hu, Try.ntmps12, Exit.thenS]
  refine wpS_of_wp ?_
  go_wp2_with fail
  cases c₀
  simp_all [bodyPostS, results, Try.results12]
set_option maxRecDepth 100000 in
set_option maxHeartbeats 3200000 in
theorem scatch_fault (b n : Nat) (er : Int) (older : List PanicEntry) (x4 x5 x6 : Value) (w : World) (h4 : w.cell? ⟨b, 0, none⟩ = some x4) (h5 : w.cell? ⟨b + 1, 0, none⟩ = some x5) (h6 : w.cell? ⟨b + 2, 0, none⟩ = some x6)
    (f4 : w.frozen? ⟨b, 0, none⟩ = false) (f5 : w.frozen? ⟨b + 1, 0, none⟩ = false) (f6 : w.frozen? ⟨b + 2, 0, none⟩ = false) (z6 : b + 2 < w.heap.size) :
    CallsD Try.prog 12 #[.pointer (some ⟨b, 0, none⟩), .pointer (some ⟨b + 1, 0, none⟩), .pointer (some ⟨b + 2, 0, none⟩)] (.panicking ({ v := .iface 49 (.agg #[.int .i64 n, .int .i64 er]), recovered := false } :: older)) w fun e u' w' =>
      e = .returned (.tuple #[]) ∧ u' = .panicking ({ v := .iface 49 (.agg #[.int .i64 n, .int .i64 er]), recovered := true } :: older) ∧ Kept (fun k => k = b ∨ k = b + 1 ∨ k = b + 2) w w' ∧
        w'.cell? ⟨b, 0, none⟩ = some (.slice none 0 0) ∧ w'.cell? ⟨b + 1, 0, none⟩ = some (.int .i64 n) ∧ w'.cell? ⟨b + 2, 0, none⟩ = some (.int .i64 er) := by
  refine callsD_of_wpS Try.func12 rfl fun c₀ cs hu => ?_
  apply wpS_seq
  apply wpS_region
  simp [wpOpsS, go_sem, recoverD, hu, Try.ntmps12, Exit.thenS]
  refine wpS_of_wp ?_
  have e : #[Value.pointer (some ⟨b, 0, none⟩), Value.pointer (some ⟨b + 1, 0, none⟩), Value.pointer (some ⟨b + 2, 0, none⟩)] ++ (Array.replicate 13 undef).setIfInBounds 3 (Value.iface 49 (.agg #[.int .i64 n, .int .i64 er])) =
      #[Value.pointer (some ⟨b, 0, none⟩), Value.pointer (some ⟨b + 1, 0, none⟩), Value.pointer (some ⟨b + 2, 0, none⟩), undef, undef, undef, Value.iface 49 (.agg #[.int .i64 n, .int .i64 er]), undef, undef, undef, undef, undef, undef, undef, undef, undef] := rfl
  rw [e]
  have hta := sassert_fault (.agg #[.int .i64 n, .int .i64 er])
  go_wp2_with fail
  clear e hta
  have HKA := Lib.hid (kept_alloc (S := fun k => k = b ∨ k = b + 1 ∨ k = b + 2) w (.cells #[.int .i64 n, .int .i64 er] 49))
  refine wp_gen (fun W => (W.cell? ⟨w.heap.size, 0, none⟩ = some (.int .i64 n) ∧ W.cell? ⟨w.heap.size, 1, none⟩ = some (.int .i64 er)) ∧ W.cell? ⟨b, 0, none⟩ = some x4 ∧ W.cell? ⟨b + 1, 0, none⟩ = some x5 ∧ W.cell? ⟨b + 2, 0, none⟩ = some x6 ∧ W.frozen? ⟨b, 0, none⟩ = false ∧ W.frozen? ⟨b + 1, 0, none⟩ = false ∧ W.frozen? ⟨b + 2, 0, none⟩ = false ∧ w.heap.size < W.heap.size ∧ Kept (fun k => k = b ∨ k = b + 1 ∨ k = b + 2) w W) ?_ ?_
  · have hn := heap_alloc_new w (.cells #[.int .i64 n, .int .i64 er] 49)
    have hf : ∀ p : Addr, p.block < w.heap.size → (w.alloc (.cells #[.int .i64 n, .int .i64 er] 49)).frozen? p = w.frozen? p := fun p hp => World.frozen?_alloc_old w _ p (by omega)
    have hc : ∀ p : Addr, p.block < w.heap.size → (w.alloc (.cells #[.int .i64 n, .int .i64 er] 49)).cell? p = w.cell? p := fun p hp => World.cell?_of_block (Below.heap_alloc w _ _ hp)
    exact ⟨⟨cell_blk hn 0, cell_blk hn 1⟩, (hc _ (by show b < _; omega)).trans h4, (hc _ (by show b + 1 < _; omega)).trans h5, (hc _ (by show b + 2 < _; omega)).trans h6, (hf _ (by show b < _; omega)).trans f4, (hf _ (by show b + 1 < _; omega)).trans f5, (hf _ (by show b + 2 < _; omega)).trans f6, fin_at hn, HKA.out⟩
  clear h4 h5 h6 f4 f5 f6 HKA
  rintro W ⟨⟨c0, c1⟩, h4, h5, h6, f4, f5, f6, hz, hk⟩
  have HK := Lib.hid hk
  clear hk
  generalize w.heap.size = z at *
  have g1 : ¬ b = z := by omega
  have g2 : ¬ b + 1 = z := by omega
  have g3 : ¬ b + 2 = z := by omega
  have y4 : b < W.heap.size := by omega
  have y5 : b + 1 < W.heap.size := by omega
  have y6 : b + 2 < W.heap.size := by omega
  go_region
  go_wp2
  have hw : ∀ (U : World) (c j : Nat) (x u : Value), U.cell? ⟨c, j, none⟩ = some x → (U.setCell ⟨c, j, none⟩ u).cell? ⟨c, j, none⟩ = some u := fun U c j x u h => World.cell?_setCell_same U _ u h
  refine ⟨rfl, _, rfl, .tuple #[], results_none rfl _ _ _, rfl, rfl, (HK.out.trans ((Kept.setCell ⟨b, 0, none⟩ _ (.inl rfl)).trans ((Kept.setCell ⟨b + 1, 0, none⟩ _ (.inr (.inl rfl))).trans (Kept.setCell ⟨b + 2, 0, none⟩ _ (.inr (.inr rfl)))))).trans ⟨rfl, rfl, rfl, Nat.le_refl _, fun _ _ _ => rfl⟩, ?_, ?_, ?_⟩
  · exact (cell_far _ (b + 2) 0 b 0 _ (by omega)).trans ((cell_far _ (b + 1) 0 b 0 _ (by omega)).trans (hw _ _ _ _ _ h4))
  · exact (cell_far _ (b + 2) 0 (b + 1) 0 _ (by omega)).trans (hw _ _ _ _ _ ((cell_far _ b 0 (b + 1) 0 _ (by omega)).trans h5))
  · exact hw _ _ _ _ _ ((cell_far _ (b + 1) 0 (b + 2) 0 _ (by omega)).trans ((cell_far _ b 0 (b + 2) 0 _ (by omega)).trans h6))


/-- How parse ends. -/
def ParsePost (s : ByteArray) (m : Rs (List LiT)) (d : Nat) (w : World) (e : Ending) (w' : World) : Prop :=
  Below w.heap.size w w' ∧ match m with
    | .ok x _ => ∃ v, e = .returned (.tuple #[v, .int .i64 0, .int .i64 0]) ∧ LsIn d w' (Nw w.heap.size w') v x
    | .bad a er => e = .returned (.tuple #[.slice none 0 0, .int .i64 (s.size - a : Nat), .int .i64 er])
/-- Where parse's results and its reader stand. -/
structure SPt (s : ByteArray) (wi : Nat) (w W : World) : Prop where
  rd : RdS W (w.heap.size + 3) s s.data.toList wi
  b4 : W.heap[w.heap.size]? = some (.cells #[.slice none 0 0] 23 (0, 0))
  b5 : W.heap[w.heap.size + 1]? = some (.cells #[.int .i64 0] 3 (0, 0))
  b6 : W.heap[w.heap.size + 2]? = some (.cells #[.int .i64 0] 24 (0, 0))
  below : Below w.heap.size w W
theorem pl_all (s : ByteArray) : pl s s.data.toList = 0 := by unfold pl; rw [← sizeD]; omega
set_option maxRecDepth 100000 in
set_option maxHeartbeats 3200000 in
theorem parse_any {lists : Bs → Rs (List LiT)} {d wi : Nat} (hL : LsOk lists d wi) (hwi : wi ≤ 100) (s : ByteArray) (w : World) (hs : s.size ≤ 8192) :
    Calls Try.prog 10 #[.string s, .int .i64 wi] w (ParsePost s (scriptL lists s.data.toList) d w) := by
  have hmf : ∀ (fn : Fn) (first cap : Array Value) (w : World), (Instr.makeFunc fn first cap).run Try.prog w = .ok (.func fn first cap) w := fun _ _ _ _ => rfl
  have HSA := Lib.hid (fun W (hW : RdS W (w.heap.size + 3) s s.data.toList wi) => script_any hL (w.heap.size + 3) s s.data.toList W hW hs)
  obtain ⟨m, hm⟩ : ∃ m, scriptL lists s.data.toList = m := ⟨_, rfl⟩
  rw [hm] at HSA ⊢
  clear hm
  go_enter_defers Try.func10, Try.ntmps10
  go_wp2_with fail
  simp only [Nat.add_assoc, Nat.reduceAdd]
  refine calls_gen (SPt s wi w) ?_ ?_
  · have n4 := heap_alloc_new w (.cells #[.slice none 0 0] 23)
    have n5 := heap_alloc_new (w.alloc (.cells #[.slice none 0 0] 23)) (.cells #[.int .i64 0] 3)
    have n6 := heap_alloc_new ((w.alloc (.cells #[.slice none 0 0] 23)).alloc (.cells #[.int .i64 0] 3)) (.cells #[.int .i64 0] 24)
    have n7 := heap_alloc_new (((w.alloc (.cells #[.slice none 0 0] 23)).alloc (.cells #[.int .i64 0] 3)).alloc (.cells #[.int .i64 0] 24)) (.cells #[.string s, .int .i64 0, .int .i64 wi] 51)
    simp only [World.size_alloc, Nat.add_assoc, Nat.reduceAdd] at n5 n6 n7
    refine ⟨⟨?_, List.suffix_refl _⟩, ?_, ?_, ?_, ?_⟩
    · rw [pl_all]; exact n7
    · exact (Below.heap_alloc _ _ _ (by simp only [World.size_alloc]; omega)).trans ((Below.heap_alloc _ _ _ (by simp only [World.size_alloc]; omega)).trans ((Below.heap_alloc _ _ _ (by simp only [World.size_alloc]; omega)).trans n4))
    · exact (Below.heap_alloc _ _ _ (by simp only [World.size_alloc]; omega)).trans ((Below.heap_alloc _ _ _ (by simp only [World.size_alloc]; omega)).trans n5)
    · exact (Below.heap_alloc _ _ _ (by simp only [World.size_alloc]; omega)).trans n6
    · exact ((((Below.refl _ _).alloc (Nat.le_refl _) _).alloc (by simp only [World.size_alloc]; omega) _).alloc (by simp only [World.size_alloc]; omega) _).alloc (by simp only [World.size_alloc]; omega) _
  intro W0 hW
  have HW := Lib.hid hW
  clear hW
  refine (HSA.out W0 HW.out.rd).mono ?_
  rintro e W1 ⟨hk, h9⟩
  cases m with
  | ok x r =>
    obtain ⟨v, rfl, hv⟩ := h9
    obtain ⟨va, vn, vc, rfl⟩ := LsIn.form hv
    have HV := Lib.hid (nw_le (LsIn.good d) (z := w.heap.size + 4) (by have := fin_at HW.out.rd.blk; omega) hv)
    have m4 := hk.at HW.out.b4 (by omega)
    have m5 := hk.at HW.out.b5 (by omega)
    have m6 := hk.at HW.out.b6 (by omega)
    have HBL := Lib.hid (HW.out.below.trans ((hk.below (B := w.heap.size) (by have := fin_at HW.out.rd.blk; omega) (fun k e => by omega))))
    clear hv hk
    have hz1 := fin_at m6
    have c4 := cell_blk m4 0
    have c5 := cell_blk m5 0
    have c6 := cell_blk m6 0
    have g4 := froz_blk m4 0
    have g5 := froz_blk m5 0
    have g6 := froz_blk m6 0
    simp at c4 c5 c6
    have HM4 := Lib.hid m4
    have HM5 := Lib.hid m5
    have HM6 := Lib.hid m6
    clear m4 m5 m6
    go_wp2_with fail
    have d4 : (((W1.setCell ⟨w.heap.size, 0, none⟩ (.slice va vn vc)).setCell ⟨w.heap.size + 1, 0, none⟩ (.int .i64 0)).setCell ⟨w.heap.size + 2, 0, none⟩ (.int .i64 0)).heap[w.heap.size]? = some (.cells #[.slice va vn vc] 23 (0, 0)) :=
      set_far (set_far (set_blk HM4.out (j := 0) (.slice va vn vc)) (by omega) _) (by omega) _
    have d5 : (((W1.setCell ⟨w.heap.size, 0, none⟩ (.slice va vn vc)).setCell ⟨w.heap.size + 1, 0, none⟩ (.int .i64 0)).setCell ⟨w.heap.size + 2, 0, none⟩ (.int .i64 0)).heap[w.heap.size + 1]? = some (.cells #[.int .i64 0] 3 (0, 0)) :=
      set_far (set_blk (set_far HM5.out (by omega) _) (j := 0) (.int .i64 0)) (by omega) _
    have d6 : (((W1.setCell ⟨w.heap.size, 0, none⟩ (.slice va vn vc)).setCell ⟨w.heap.size + 1, 0, none⟩ (.int .i64 0)).setCell ⟨w.heap.size + 2, 0, none⟩ (.int .i64 0)).heap[w.heap.size + 2]? = some (.cells #[.int .i64 0] 24 (0, 0)) :=
      set_blk (set_far (set_far HM6.out (by omega) _) (by omega) _) (j := 0) (.int .i64 0)
    have hk3 : Kept (fun k => w.heap.size ≤ k ∧ k < w.heap.size + 4) W1 (((W1.setCell ⟨w.heap.size, 0, none⟩ (.slice va vn vc)).setCell ⟨w.heap.size + 1, 0, none⟩ (.int .i64 0)).setCell ⟨w.heap.size + 2, 0, none⟩ (.int .i64 0)) :=
      (Kept.setCell ⟨w.heap.size, 0, none⟩ _ (by simp only; omega)).trans ((Kept.setCell ⟨w.heap.size + 1, 0, none⟩ _ (by simp only; omega)).trans (Kept.setCell ⟨w.heap.size + 2, 0, none⟩ _ (by simp only; omega)))
    have HB3 := Lib.hid (HBL.out.trans (hk3.below (B := w.heap.size) (by omega) (fun k e => e.1)))
    have HV3 := Lib.hid (nw_le (LsIn.good d) (z := w.heap.size) (by omega) (nw_kept (LsIn.good d) hk3 (fun k e => .inl e.2) HV.out))
    clear hk3 HV HBL c4 c5 c6 g4 g5 g6 hz1 HM4 HM5 HM6
    generalize ((W1.setCell ⟨w.heap.size, 0, none⟩ (.slice va vn vc)).setCell ⟨w.heap.size + 1, 0, none⟩ (.int .i64 0)).setCell ⟨w.heap.size + 2, 0, none⟩ (.int .i64 0) = W3 at *
    have c4 := cell_blk d4 0
    have c5 := cell_blk d5 0
    have c6 := cell_blk d6 0
    simp at c4 c5 c6
    refine leaves_cons (f := 12) (args := #[.pointer (some ⟨w.heap.size, 0, none⟩), .pointer (some ⟨w.heap.size + 1, 0, none⟩), .pointer (some ⟨w.heap.size + 2, 0, none⟩)]) (by simp) (by simp [go_sem]) ?_
    refine (scatch_idle w.heap.size _).mono ?_
    rintro e u' w'' ⟨rfl, rfl, rfl⟩
    simp [Leaves, settle, results, Try.results10, go_sem, c4, c5, c6]
    exact ⟨HB3.out, _, rfl, HV3.out⟩
  | bad a er =>
    subst h9
    have m4 := hk.at HW.out.b4 (by omega)
    have m5 := hk.at HW.out.b5 (by omega)
    have m6 := hk.at HW.out.b6 (by omega)
    have HBL := Lib.hid (HW.out.below.trans ((hk.below (B := w.heap.size) (by have := fin_at HW.out.rd.blk; omega) (fun k e => by omega))))
    clear hk
    have hz1 := fin_at m6
    have c4 := cell_blk m4 0
    have c5 := cell_blk m5 0
    have c6 := cell_blk m6 0
    have g4 := froz_blk m4 0
    have g5 := froz_blk m5 0
    have g6 := froz_blk m6 0
    simp at c4 c5 c6
    clear m4 m5 m6
    simp only [sflt]
    go_wp2
    refine leaves_cons (f := 12) (args := #[.pointer (some ⟨w.heap.size, 0, none⟩), .pointer (some ⟨w.heap.size + 1, 0, none⟩), .pointer (some ⟨w.heap.size + 2, 0, none⟩)]) (by simp) (by simp [go_sem]) ?_
    refine (scatch_fault w.heap.size (s.size - a) er [] _ _ _ W1 c4 c5 c6 g4 g5 g6 hz1).mono ?_
    rintro e u' w'' ⟨rfl, rfl, hk, d4, d5, d6⟩
    have HB3 := Lib.hid (HBL.out.trans (hk.below (B := w.heap.size) (by omega) (fun k e => by omega)))
    clear hk c4 c5 c6 g4 g5 g6
    simp [Leaves, settle, results, Try.results10, go_sem, d4, d5, d6]
    exact ⟨HB3.out, rfl⟩

end Go.Proofs.Ytgajbehlggikdaa.Sw

/- DERIVED. Walks over the calls of a reader of scripts about redirections: where one stands. -/
namespace Go.Proofs.Ytgajbehlggikdaa.Sw
open Go.RowKit
open PathM WdM SyM
open Go.Proofs.Ytgajbehlggikdaa.Wd
set_option linter.unusedVariables false

def ArrowPost (s : ByteArray) (l : Bs) (e : Ending) : Prop := match arrowL l with
  | none => e = .returned (.tuple #[.int .i64 0, .string ⟨#[]⟩, .int .i64 0])
  | some (fd, op, r) => e = .returned (.tuple #[.int .i64 fd, .string (nm op), .int .i64 (pl s r : Nat)]) ∧ r <:+ s.data.toList ∧ op ≠ [] ∧ r.length < l.length
theorem arrow_nil {l : Bs} (h : aheadL l = []) : arrowL l = none := by unfold arrowL; rw [h]
theorem arrow_dig {l t : Bs} {c : UInt8} (h : aheadL l = c :: t) (hd : digit c = true) : arrowL l = arrowAt (some ((c.toNat : Int) - 48)) t := by unfold arrowL; rw [h]; simp only; rw [if_pos hd]
theorem arrow_not {l t : Bs} {c : UInt8} (h : aheadL l = c :: t) (hd : digit c = false) : arrowL l = arrowAt none (c :: t) := by unfold arrowL; rw [h]; simp only; rw [if_neg (by rw [hd]; decide)]
theorem arrowAt_in (fd : Option Int) {m : Bs} (h : signOf m = [60] ∨ signOf m = [60, 38]) : arrowAt fd m = some (fd.getD 0, signOf m, m.drop (signOf m).length) := by unfold arrowAt; simp only; rw [if_pos h]
theorem arrowAt_out (fd : Option Int) {m : Bs} (h0 : ¬ (signOf m = [60] ∨ signOf m = [60, 38])) (h : signOf m = [62] ∨ signOf m = [62, 62] ∨ signOf m = [62, 38]) : arrowAt fd m = some (fd.getD 1, signOf m, m.drop (signOf m).length) := by unfold arrowAt; simp only; rw [if_neg h0, if_pos h]
theorem arrowAt_no (fd : Option Int) {m : Bs} (h0 : ¬ (signOf m = [60] ∨ signOf m = [60, 38])) (h : ¬ (signOf m = [62] ∨ signOf m = [62, 62] ∨ signOf m = [62, 38])) : arrowAt fd m = none := by unfold arrowAt; simp only; rw [if_neg h0, if_neg h]
theorem dig_val {c : UInt8} (h : digit c = true) : IntKind.u8.wrap ((c.toNat : Int) - 48) = (c.toNat : Int) - 48 ∧ (0 : Int) ≤ (c.toNat : Int) - 48 ∧ (c.toNat : Int) - 48 ≤ 9 := by
  unfold digit at h
  simp [UInt8.le_iff_toNat_le] at h
  have h1 : (0 : Int) ≤ (c.toNat : Int) - 48 := by omega
  have h2 : (c.toNat : Int) - 48 ≤ 9 := by omega
  refine ⟨?_, h1, h2⟩
  generalize (c.toNat : Int) - 48 = n at *
  have : IntKind.u8.wrap n = n % 256 := by
    unfold IntKind.wrap
    simp [IntKind.bits, IntKind.signed]
  rw [this]
  omega
set_option maxRecDepth 100000 in
set_option maxHeartbeats 3200000 in
theorem arrow_any (rb : Nat) (s : ByteArray) (l : Bs) (wi : Nat) (w : World) (h : RdS w rb s l wi) (hs : s.size ≤ 8192) :
    Calls Try.prog 73 #[.pointer (some ⟨rb, 0, none⟩)] w fun e w' => ArrowPost s l e ∧ w = w' := by
  have HA := Lib.hid (ahead_any rb s l wi w h hs)
  have hsf := (ahead_suf l).trans h.suf
  have hal := (ahead_suf l).length_le
  have hsg := fun m hm => signAt_any rb s m l wi w h hm hs
  have r0 := h.c0
  have hz := h.lt
  clear h
  unfold ArrowPost
  cases ha : aheadL l with
  | nil =>
    rw [arrow_nil ha]
    rw [ha, pl_nil] at HA
    have HS := Lib.hid (hsg [] List.nil_suffix)
    rw [pl_nil, sign_nil] at HS
    have e1 := emp_yes (b := nm []) rfl
    have q1 : ((nm []).toList == [60]) = false := by rw [e1]; rfl
    have q2 : ((nm []).toList == [60, 38]) = false := by rw [e1]; rfl
    have q3 : ((nm []).toList == [62]) = false := by rw [e1]; rfl
    have q4 : ((nm []).toList == [62, 62]) = false := by rw [e1]; rfl
    have q5 : ((nm []).toList == [62, 38]) = false := by rw [e1]; rfl
    have hl : ¬ (s.size : Int) < (s.size : Int) := by omega
    generalize nm [] = K at *
    clear ha hsf hsg hal
    go_enter Try.func73, Try.ntmps73
    go_wp2_with (first | (go_at_call 21; refine HA.out.mono ?_; rintro e w' ⟨rfl, rfl⟩) | (go_at_call 31; refine HS.out.mono ?_; rintro e w' ⟨rfl, rfl⟩))
    go_ret3
    exact ⟨rfl, rfl⟩
  | cons c t =>
    rw [ha] at HA hsf hal
    obtain ⟨p, hp⟩ : ∃ p, pl s (c :: t) = p := ⟨_, rfl⟩
    obtain ⟨hlt, hc⟩ := at_pl hsf hp
    have hpt := pl_suf (t := t) (n := 1) hsf hp rfl (by simp)
    rw [hp] at HA
    have hD := fun W => digit_any s[p] W
    have hdc : digit s[p] = digit c := by rw [hc]
    simp only [hdc] at hD
    have HD := Lib.hid hD
    clear hD hdc
    have hli : (p : Int) < (s.size : Int) := by omega
    cases hd : digit c with
    | true =>
      rw [arrow_dig ha hd]
      rw [hd] at HD
      obtain ⟨hv1, hv2, hv3⟩ := dig_val hd
      have hst : t <:+ s.data.toList := (List.suffix_cons _ _).trans hsf
      have HS := Lib.hid (hsg t hst)
      rw [hpt] at HS
      have hlen : t.length < l.length := by rw [List.length_cons] at hal; omega
      have hcn : ((s[p]).toNat : Int) = (c.toNat : Int) := by rw [hc]
      have hgt : ¬ ((p : Int) + 1 ≤ (p : Int)) := by omega
      rw [← hcn] at hv1 hv2 hv3
      have HCN := Lib.hid hcn
      clear hcn
      rw [show ((p + 1 : Nat) : Int) = (p : Int) + 1 from rfl] at HS
      obtain ⟨g, hg⟩ : ∃ g, signOf t = g := ⟨_, rfl⟩
      have hgl : g.length ≤ (t).length := hg ▸ sign_len _
      rw [hg] at HS
      have hpr := pl_suf (t := (t).drop g.length) (n := g.length) hst hpt rfl hgl
      have hgs := nm_size g
      have q1 := str_dec g [60]
      have t1 : (nm [60]).toList = [60] := by rw [listD]; rfl
      rw [t1] at q1
      clear t1
      have q2 := str_dec g [60, 38]
      have t2 : (nm [60, 38]).toList = [60, 38] := by rw [listD]; rfl
      rw [t2] at q2
      clear t2
      have q3 := str_dec g [62]
      have t3 : (nm [62]).toList = [62] := by rw [listD]; rfl
      rw [t3] at q3
      clear t3
      have q4 := str_dec g [62, 62]
      have t4 : (nm [62, 62]).toList = [62, 62] := by rw [listD]; rfl
      rw [t4] at q4
      clear t4
      have q5 := str_dec g [62, 38]
      have t5 : (nm [62, 38]).toList = [62, 38] := by rw [listD]; rfl
      rw [t5] at q5
      clear t5
      by_cases h1 : g = [60]
      · rw [arrowAt_in _ (.inl (hg.trans h1))]
        rw [hg]
        dsimp only [Option.getD]
        rw [hpr]
        have hfin : ((t).drop g.length <:+ s.data.toList) ∧ g ≠ [] ∧ ((t).drop g.length).length < l.length := ⟨(List.drop_suffix _ _).trans hst, by rw [h1]; simp, by rw [List.length_drop]; omega⟩
        have HF := Lib.hid hfin
        rw [decide_eq_true h1] at q1
        rw [decide_eq_false (by rw [h1]; decide)] at q2
        rw [decide_eq_false (by rw [h1]; decide)] at q3
        rw [decide_eq_false (by rw [h1]; decide)] at q4
        rw [decide_eq_false (by rw [h1]; decide)] at q5
        rw [show g.length = 1 from by rw [h1]; rfl] at hgs
        have hgn : g.length = 1 := by rw [h1]; rfl
        generalize nm g = K at *
        clear hg hpr hfin hsg hsf hp hpt hal hgl ha hc
        go_enter Try.func73, Try.ntmps73
        go_wp2_with (first | (go_at_call 21; refine HA.out.mono ?_; rintro e w' ⟨rfl, rfl⟩) | (go_at_call 74; refine (HD.out _).mono ?_; rintro e w' ⟨rfl, rfl⟩) | (go_at_call 31; refine HS.out.mono ?_; rintro e w' ⟨rfl, rfl⟩))
        go_ret3
        refine ⟨⟨?_, HF.out⟩, rfl⟩
        rw [hgn]; rw [← HCN.out]
        rfl
      · skip
        by_cases h2 : g = [60, 38]
        · rw [arrowAt_in _ (.inr (hg.trans h2))]
          rw [hg]
          dsimp only [Option.getD]
          rw [hpr]
          have hfin : ((t).drop g.length <:+ s.data.toList) ∧ g ≠ [] ∧ ((t).drop g.length).length < l.length := ⟨(List.drop_suffix _ _).trans hst, by rw [h2]; simp, by rw [List.length_drop]; omega⟩
          have HF := Lib.hid hfin
          rw [decide_eq_false h1] at q1
          rw [decide_eq_true h2] at q2
          rw [decide_eq_false (by rw [h2]; decide)] at q3
          rw [decide_eq_false (by rw [h2]; decide)] at q4
          rw [decide_eq_false (by rw [h2]; decide)] at q5
          rw [show g.length = 2 from by rw [h2]; rfl] at hgs
          have hgn : g.length = 2 := by rw [h2]; rfl
          generalize nm g = K at *
          clear hg hpr hfin hsg hsf hp hpt hal hgl ha hc
          go_enter Try.func73, Try.ntmps73
          go_wp2_with (first | (go_at_call 21; refine HA.out.mono ?_; rintro e w' ⟨rfl, rfl⟩) | (go_at_call 74; refine (HD.out _).mono ?_; rintro e w' ⟨rfl, rfl⟩) | (go_at_call 31; refine HS.out.mono ?_; rintro e w' ⟨rfl, rfl⟩))
          go_ret3
          refine ⟨⟨?_, HF.out⟩, rfl⟩
          rw [hgn]; rw [← HCN.out]
          rfl
        · skip
          by_cases h3 : g = [62]
          · rw [arrowAt_out _ (by rw [hg]; exact fun e => e.elim h1 h2) (.inl (hg.trans h3))]
            rw [hg]
            dsimp only [Option.getD]
            rw [hpr]
            have hfin : ((t).drop g.length <:+ s.data.toList) ∧ g ≠ [] ∧ ((t).drop g.length).length < l.length := ⟨(List.drop_suffix _ _).trans hst, by rw [h3]; simp, by rw [List.length_drop]; omega⟩
            have HF := Lib.hid hfin
            rw [decide_eq_false h1] at q1
            rw [decide_eq_false h2] at q2
            rw [decide_eq_true h3] at q3
            rw [decide_eq_false (by rw [h3]; decide)] at q4
            rw [decide_eq_false (by rw [h3]; decide)] at q5
            rw [show g.length = 1 from by rw [h3]; rfl] at hgs
            have hgn : g.length = 1 := by rw [h3]; rfl
            generalize nm g = K at *
            clear hg hpr hfin hsg hsf hp hpt hal hgl ha hc
            go_enter Try.func73, Try.ntmps73
            go_wp2_with (first | (go_at_call 21; refine HA.out.mono ?_; rintro e w' ⟨rfl, rfl⟩) | (go_at_call 74; refine (HD.out _).mono ?_; rintro e w' ⟨rfl, rfl⟩) | (go_at_call 31; refine HS.out.mono ?_; rintro e w' ⟨rfl, rfl⟩))
            go_ret3
            refine ⟨⟨?_, HF.out⟩, rfl⟩
            rw [hgn]; rw [← HCN.out]
            rfl
          · skip
            by_cases h4 : g = [62, 62]
            · rw [arrowAt_out _ (by rw [hg]; exact fun e => e.elim h1 h2) (.inr (.inl (hg.trans h4)))]
              rw [hg]
              dsimp only [Option.getD]
              rw [hpr]
              have hfin : ((t).drop g.length <:+ s.data.toList) ∧ g ≠ [] ∧ ((t).drop g.length).length < l.length := ⟨(List.drop_suffix _ _).trans hst, by rw [h4]; simp, by rw [List.length_drop]; omega⟩
              have HF := Lib.hid hfin
              rw [decide_eq_false h1] at q1
              rw [decide_eq_false h2] at q2
              rw [decide_eq_false h3] at q3
              rw [decide_eq_true h4] at q4
              rw [decide_eq_false (by rw [h4]; decide)] at q5
              rw [show g.length = 2 from by rw [h4]; rfl] at hgs
              have hgn : g.length = 2 := by rw [h4]; rfl
              generalize nm g = K at *
              clear hg hpr hfin hsg hsf hp hpt hal hgl ha hc
              go_enter Try.func73, Try.ntmps73
              go_wp2_with (first | (go_at_call 21; refine HA.out.mono ?_; rintro e w' ⟨rfl, rfl⟩) | (go_at_call 74; refine (HD.out _).mono ?_; rintro e w' ⟨rfl, rfl⟩) | (go_at_call 31; refine HS.out.mono ?_; rintro e w' ⟨rfl, rfl⟩))
              go_ret3
              refine ⟨⟨?_, HF.out⟩, rfl⟩
              rw [hgn]; rw [← HCN.out]
              rfl
            · skip
              by_cases h5 : g = [62, 38]
              · rw [arrowAt_out _ (by rw [hg]; exact fun e => e.elim h1 h2) (.inr (.inr (hg.trans h5)))]
                rw [hg]
                dsimp only [Option.getD]
                rw [hpr]
                have hfin : ((t).drop g.length <:+ s.data.toList) ∧ g ≠ [] ∧ ((t).drop g.length).length < l.length := ⟨(List.drop_suffix _ _).trans hst, by rw [h5]; simp, by rw [List.length_drop]; omega⟩
                have HF := Lib.hid hfin
                rw [decide_eq_false h1] at q1
                rw [decide_eq_false h2] at q2
                rw [decide_eq_false h3] at q3
                rw [decide_eq_false h4] at q4
                rw [decide_eq_true h5] at q5
                rw [show g.length = 2 from by rw [h5]; rfl] at hgs
                have hgn : g.length = 2 := by rw [h5]; rfl
                generalize nm g = K at *
                clear hg hpr hfin hsg hsf hp hpt hal hgl ha hc
                go_enter Try.func73, Try.ntmps73
                go_wp2_with (first | (go_at_call 21; refine HA.out.mono ?_; rintro e w' ⟨rfl, rfl⟩) | (go_at_call 74; refine (HD.out _).mono ?_; rintro e w' ⟨rfl, rfl⟩) | (go_at_call 31; refine HS.out.mono ?_; rintro e w' ⟨rfl, rfl⟩))
                go_ret3
                refine ⟨⟨?_, HF.out⟩, rfl⟩
                rw [hgn]; rw [← HCN.out]
                rfl
              · rw [arrowAt_no _ (by rw [hg]; exact fun e => e.elim h1 h2) (by rw [hg]; exact fun e => e.elim h3 (fun e => e.elim h4 h5))]
                rw [decide_eq_false h1] at q1
                rw [decide_eq_false h2] at q2
                rw [decide_eq_false h3] at q3
                rw [decide_eq_false h4] at q4
                rw [decide_eq_false h5] at q5
                generalize nm g = K at *
                clear hg hpr hsg hsf hp hpt hal hgl ha hc
                go_enter Try.func73, Try.ntmps73
                go_wp2_with (first | (go_at_call 21; refine HA.out.mono ?_; rintro e w' ⟨rfl, rfl⟩) | (go_at_call 74; refine (HD.out _).mono ?_; rintro e w' ⟨rfl, rfl⟩) | (go_at_call 31; refine HS.out.mono ?_; rintro e w' ⟨rfl, rfl⟩))
                go_ret3
                exact ⟨rfl, rfl⟩
    | false =>
      rw [arrow_not ha hd]
      rw [hd] at HD
      have HS := Lib.hid (hsg (c :: t) hsf)
      rw [hp] at HS
      have hgt : ¬ ((p : Int) < (p : Int)) := by omega
      obtain ⟨g, hg⟩ : ∃ g, signOf (c :: t) = g := ⟨_, rfl⟩
      have hgl : g.length ≤ ((c :: t)).length := hg ▸ sign_len _
      rw [hg] at HS
      have hpr := pl_suf (t := ((c :: t)).drop g.length) (n := g.length) hsf hp rfl hgl
      have hgs := nm_size g
      have q1 := str_dec g [60]
      have t1 : (nm [60]).toList = [60] := by rw [listD]; rfl
      rw [t1] at q1
      clear t1
      have q2 := str_dec g [60, 38]
      have t2 : (nm [60, 38]).toList = [60, 38] := by rw [listD]; rfl
      rw [t2] at q2
      clear t2
      have q3 := str_dec g [62]
      have t3 : (nm [62]).toList = [62] := by rw [listD]; rfl
      rw [t3] at q3
      clear t3
      have q4 := str_dec g [62, 62]
      have t4 : (nm [62, 62]).toList = [62, 62] := by rw [listD]; rfl
      rw [t4] at q4
      clear t4
      have q5 := str_dec g [62, 38]
      have t5 : (nm [62, 38]).toList = [62, 38] := by rw [listD]; rfl
      rw [t5] at q5
      clear t5
      by_cases h1 : g = [60]
      · rw [arrowAt_in _ (.inl (hg.trans h1))]
        rw [hg]
        dsimp only [Option.getD]
        rw [hpr]
        have hfin : (((c :: t)).drop g.length <:+ s.data.toList) ∧ g ≠ [] ∧ (((c :: t)).drop g.length).length < l.length := ⟨(List.drop_suffix _ _).trans hsf, by rw [h1]; simp, by rw [List.length_drop]; have : 0 < g.length := (by rw [h1]; simp); omega⟩
        have HF := Lib.hid hfin
        rw [decide_eq_true h1] at q1
        rw [decide_eq_false (by rw [h1]; decide)] at q2
        rw [decide_eq_false (by rw [h1]; decide)] at q3
        rw [decide_eq_false (by rw [h1]; decide)] at q4
        rw [decide_eq_false (by rw [h1]; decide)] at q5
        rw [show g.length = 1 from by rw [h1]; rfl] at hgs
        have hgn : g.length = 1 := by rw [h1]; rfl
        generalize nm g = K at *
        clear hg hpr hfin hsg hsf hp hpt hal hgl ha hc
        go_enter Try.func73, Try.ntmps73
        go_wp2_with (first | (go_at_call 21; refine HA.out.mono ?_; rintro e w' ⟨rfl, rfl⟩) | (go_at_call 74; refine (HD.out _).mono ?_; rintro e w' ⟨rfl, rfl⟩) | (go_at_call 31; refine HS.out.mono ?_; rintro e w' ⟨rfl, rfl⟩))
        go_ret3
        refine ⟨⟨?_, HF.out⟩, rfl⟩
        rw [hgn]
        rfl
      · skip
        by_cases h2 : g = [60, 38]
        · rw [arrowAt_in _ (.inr (hg.trans h2))]
          rw [hg]
          dsimp only [Option.getD]
          rw [hpr]
          have hfin : (((c :: t)).drop g.length <:+ s.data.toList) ∧ g ≠ [] ∧ (((c :: t)).drop g.length).length < l.length := ⟨(List.drop_suffix _ _).trans hsf, by rw [h2]; simp, by rw [List.length_drop]; have : 0 < g.length := (by rw [h2]; simp); omega⟩
          have HF := Lib.hid hfin
          rw [decide_eq_false h1] at q1
          rw [decide_eq_true h2] at q2
          rw [decide_eq_false (by rw [h2]; decide)] at q3
          rw [decide_eq_false (by rw [h2]; decide)] at q4
          rw [decide_eq_false (by rw [h2]; decide)] at q5
          rw [show g.length = 2 from by rw [h2]; rfl] at hgs
          have hgn : g.length = 2 := by rw [h2]; rfl
          generalize nm g = K at *
          clear hg hpr hfin hsg hsf hp hpt hal hgl ha hc
          go_enter Try.func73, Try.ntmps73
          go_wp2_with (first | (go_at_call 21; refine HA.out.mono ?_; rintro e w' ⟨rfl, rfl⟩) | (go_at_call 74; refine (HD.out _).mono ?_; rintro e w' ⟨rfl, rfl⟩) | (go_at_call 31; refine HS.out.mono ?_; rintro e w' ⟨rfl, rfl⟩))
          go_ret3
          refine ⟨⟨?_, HF.out⟩, rfl⟩
          rw [hgn]
          rfl
        · skip
          by_cases h3 : g = [62]
          · rw [arrowAt_out _ (by rw [hg]; exact fun e => e.elim h1 h2) (.inl (hg.trans h3))]
            rw [hg]
            dsimp only [Option.getD]
            rw [hpr]
            have hfin : (((c :: t)).drop g.length <:+ s.data.toList) ∧ g ≠ [] ∧ (((c :: t)).drop g.length).length < l.length := ⟨(List.drop_suffix _ _).trans hsf, by rw [h3]; simp, by rw [List.length_drop]; have : 0 < g.length := (by rw [h3]; simp); omega⟩
            have HF := Lib.hid hfin
            rw [decide_eq_false h1] at q1
            rw [decide_eq_false h2] at q2
            rw [decide_eq_true h3] at q3
            rw [decide_eq_false (by rw [h3]; decide)] at q4
            rw [decide_eq_false (by rw [h3]; decide)] at q5
            rw [show g.length = 1 from by rw [h3]; rfl] at hgs
            have hgn : g.length = 1 := by rw [h3]; rfl
            generalize nm g = K at *
            clear hg hpr hfin hsg hsf hp hpt hal hgl ha hc
            go_enter Try.func73, Try.ntmps73
            go_wp2_with (first | (go_at_call 21; refine HA.out.mono ?_; rintro e w' ⟨rfl, rfl⟩) | (go_at_call 74; refine (HD.out _).mono ?_; rintro e w' ⟨rfl, rfl⟩) | (go_at_call 31; refine HS.out.mono ?_; rintro e w' ⟨rfl, rfl⟩))
            go_ret3
            refine ⟨⟨?_, HF.out⟩, rfl⟩
            rw [hgn]
            rfl
          · skip
            by_cases h4 : g = [62, 62]
            · rw [arrowAt_out _ (by rw [hg]; exact fun e => e.elim h1 h2) (.inr (.inl (hg.trans h4)))]
              rw [hg]
              dsimp only [Option.getD]
              rw [hpr]
              have hfin : (((c :: t)).drop g.length <:+ s.data.toList) ∧ g ≠ [] ∧ (((c :: t)).drop g.length).length < l.length := ⟨(List.drop_suffix _ _).trans hsf, by rw [h4]; simp, by rw [List.length_drop]; have : 0 < g.length := (by rw [h4]; simp); omega⟩
              have HF := Lib.hid hfin
              rw [decide_eq_false h1] at q1
              rw [decide_eq_false h2] at q2
              rw [decide_eq_false h3] at q3
              rw [decide_eq_true h4] at q4
              rw [decide_eq_false (by rw [h4]; decide)] at q5
              rw [show g.length = 2 from by rw [h4]; rfl] at hgs
              have hgn : g.length = 2 := by rw [h4]; rfl
              generalize nm g = K at *
              clear hg hpr hfin hsg hsf hp hpt hal hgl ha hc
              go_enter Try.func73, Try.ntmps73
              go_wp2_with (first | (go_at_call 21; refine HA.out.mono ?_; rintro e w' ⟨rfl, rfl⟩) | (go_at_call 74; refine (HD.out _).mono ?_; rintro e w' ⟨rfl, rfl⟩) | (go_at_call 31; refine HS.out.mono ?_; rintro e w' ⟨rfl, rfl⟩))
              go_ret3
              refine ⟨⟨?_, HF.out⟩, rfl⟩
              rw [hgn]
              rfl
            · skip
              by_cases h5 : g = [62, 38]
              · rw [arrowAt_out _ (by rw [hg]; exact fun e => e.elim h1 h2) (.inr (.inr (hg.trans h5)))]
                rw [hg]
                dsimp only [Option.getD]
                rw [hpr]
                have hfin : (((c :: t)).drop g.length <:+ s.data.toList) ∧ g ≠ [] ∧ (((c :: t)).drop g.length).length < l.length := ⟨(List.drop_suffix _ _).trans hsf, by rw [h5]; simp, by rw [List.length_drop]; have : 0 < g.length := (by rw [h5]; simp); omega⟩
                have HF := Lib.hid hfin
                rw [decide_eq_false h1] at q1
                rw [decide_eq_false h2] at q2
                rw [decide_eq_false h3] at q3
                rw [decide_eq_false h4] at q4
                rw [decide_eq_true h5] at q5
                rw [show g.length = 2 from by rw [h5]; rfl] at hgs
                have hgn : g.length = 2 := by rw [h5]; rfl
                generalize nm g = K at *
                clear hg hpr hfin hsg hsf hp hpt hal hgl ha hc
                go_enter Try.func73, Try.ntmps73
                go_wp2_with (first | (go_at_call 21; refine HA.out.mono ?_; rintro e w' ⟨rfl, rfl⟩) | (go_at_call 74; refine (HD.out _).mono ?_; rintro e w' ⟨rfl, rfl⟩) | (go_at_call 31; refine HS.out.mono ?_; rintro e w' ⟨rfl, rfl⟩))
                go_ret3
                refine ⟨⟨?_, HF.out⟩, rfl⟩
                rw [hgn]
                rfl
              · rw [arrowAt_no _ (by rw [hg]; exact fun e => e.elim h1 h2) (by rw [hg]; exact fun e => e.elim h3 (fun e => e.elim h4 h5))]
                rw [decide_eq_false h1] at q1
                rw [decide_eq_false h2] at q2
                rw [decide_eq_false h3] at q3
                rw [decide_eq_false h4] at q4
                rw [decide_eq_false h5] at q5
                generalize nm g = K at *
                clear hg hpr hsg hsf hp hpt hal hgl ha hc
                go_enter Try.func73, Try.ntmps73
                go_wp2_with (first | (go_at_call 21; refine HA.out.mono ?_; rintro e w' ⟨rfl, rfl⟩) | (go_at_call 74; refine (HD.out _).mono ?_; rintro e w' ⟨rfl, rfl⟩) | (go_at_call 31; refine HS.out.mono ?_; rintro e w' ⟨rfl, rfl⟩))
                go_ret3
                exact ⟨rfl, rfl⟩

end Go.Proofs.Ytgajbehlggikdaa.Sw

/- DERIVED. The walks over scripts and word: a word, and the scripts in it. -/
namespace Go.Proofs.Ytgajbehlggikdaa.Sw
open Go.RowKit
open PathM WdM SyM
open Go.Proofs.Ytgajbehlggikdaa.Wd
set_option linter.unusedVariables false

/-- What parse makes of a script in a word, as the model says. -/
structure ScOk (sc : Bs → Option Int) (wi : Nat) : Prop where
  good : ∀ t e, sc t = some e → e ≠ 0
  run : ∀ (t : Bs) (w : World), t.length ≤ 8192 → Calls Try.prog 10 #[.string (nm t), .int .i64 ((wi : Int) + 1)] w fun e w' => Below w.heap.size w w' ∧ ∃ v n, e = .returned (.tuple #[v, .int .i64 n, .int .i64 ((sc t).getD 0)])
def ScrPost (at_ : Nat) (m : Option Int) (w : World) (e : Ending) (w' : World) : Prop :=
  Below w.heap.size w w' ∧ match m with
    | none => e = .returned (.tuple #[])
    | some er => e = sflt at_ er
theorem pin_shape {d : Nat} {w : World} {S : Nat → Prop} {v : Value} {l : List PT} (h : PIn d w S v l) : ∃ A c, v = .slice A l.length c := by
  cases d with
  | zero => obtain ⟨rfl, A, c, rfl⟩ := h; exact ⟨A, c, rfl⟩
  | succ d => obtain ⟨A, c, ps, hv, _⟩ := h; exact ⟨A, c, hv⟩
theorem pin_at {d : Nat} {w : World} {S : Nat → Prop} {A : Option Addr} {n c : Nat} {l : List PT} (h : PIn d w S (.slice A n c) l) (hne : l ≠ []) : ∃ d0 b off, d = d0 + 1 ∧ A = some ⟨b, off, none⟩ ∧ b < w.heap.size ∧ ∀ i (hi : i < l.length),
    ∃ A5 n5 c5, w.cell? ⟨b, off + i * 5, none⟩ = some (.int .i64 l[i].kind) ∧ w.cell? ⟨b, off + i * 5 + 1, none⟩ = some (.bool l[i].quoted) ∧ w.cell? ⟨b, off + i * 5 + 2, none⟩ = some (.string (nm l[i].text)) ∧ w.cell? ⟨b, off + i * 5 + 3, none⟩ = some (.string (nm l[i].op)) ∧
      w.cell? ⟨b, off + i * 5 + 4, none⟩ = some (.slice A5 n5 c5) ∧ PIn d0 w S (.slice A5 n5 c5) l[i].word := by
  cases d with
  | zero => exact absurd h.1 hne
  | succ d =>
    obtain ⟨A', c', ps, hv, hl, _, h⟩ := h
    obtain ⟨b, off, hA, hb, hc⟩ := h hne
    injection hv with hv1 hv2 hv3
    have hlen : ps.length = l.length := by rw [hl, List.length_map]
    have hpos : 0 < ps.length := by rw [hlen]; cases l with | nil => exact absurd rfl hne | cons => simp
    refine ⟨d, b, off, rfl, by rw [hv1, hA], World.block_lt_of_cell? _ _ (hc 0 hpos).1, fun i hi => ?_⟩
    have h0 := hc i (by omega)
    have e0 : (ptAt ps i).1 = l[i] := by
      have hi2 : i < ps.length := by omega
      have : l[i] = (ps.map Prod.fst)[i]'(by simpa using hi2) := by simp only [hl]
      rw [this, List.getElem_map]
      unfold ptAt
      simp [hi2]
    rw [e0] at h0
    obtain ⟨A5, n5, c5, hf⟩ := PIn.form h0.2.2.2.2.2
    rw [hf] at h0
    exact ⟨A5, n5, c5, h0⟩
theorem tsz_at : ∀ {l : List PT} {i : Nat} (hi : i < l.length), l[i].text.length ≤ WdT.tsz l ∧ WdT.tsz l[i].word ≤ WdT.tsz l
  | p :: l, 0, hi => by rw [WdT.tsz_cons]; exact ⟨by show p.text.length ≤ _; omega, by show WdT.tsz p.word ≤ _; omega⟩
  | p :: l, i + 1, hi => by
    have h := tsz_at (l := l) (i := i) (by simpa using hi)
    rw [WdT.tsz_cons]
    exact ⟨by show (l[i]'(by simpa using hi)).text.length ≤ _; omega, by show WdT.tsz (l[i]'(by simpa using hi)).word ≤ _; omega⟩
/-- The first of three faults. -/
def scrNext : Option Int → Option Int → Option Int → Option Int
  | some e, _, _ => some e
  | none, some e, _ => some e
  | none, none, x => x
theorem scr_mk (sc : Bs → Option Int) (k : Int) (q : Bool) (t o : Bs) (w r : List PT) : scriptsF sc (.mk k q t o w :: r) = scrNext (if k = 3 then sc t else none) (scriptsF sc w) (scriptsF sc r) := by
  rw [scriptsF]
  cases (if k = 3 then sc t else none) with
  | some e => rfl
  | none => cases scriptsF sc w <;> rfl
set_option maxRecDepth 100000 in
set_option maxHeartbeats 3200000 in
theorem scripts_any {sc : Bs → Option Int} {wi : Nat} (hsc : ScOk sc wi) (hwi : wi ≤ 100) (rb : Nat) (s : ByteArray) (q : Bs) (hs : s.size ≤ 8192) : ∀ (d : Nat) (v : Value) (l : List PT) (at_ : Nat) (w : World), RdS w rb s q wi → PIn d w (fun _ => True) v l → WdT.tsz l ≤ 8192 →
    Calls Try.prog 76 #[.pointer (some ⟨rb, 0, none⟩), v, .int .i64 at_] w (ScrPost at_ (scriptsF sc l) w) := by
  intro d
  induction d using Nat.strongRecOn with
  | _ d ih =>
    intro v l at_ w h hv ht
    obtain ⟨A, c, rfl⟩ := pin_shape hv
    obtain ⟨m, hm⟩ : ∃ m, scriptsF sc l = m := ⟨_, rfl⟩
    rw [hm]
    have hlm : l.length ≤ 1954687338211 := by
      cases d with
      | zero => rw [hv.1]; simp
      | succ d => obtain ⟨A', c', ps, _, _, h, _⟩ := hv; exact h.1
    have HV := Lib.hid hv
    have HT := Lib.hid ht
    have HI := Lib.hid ih
    have HW := Lib.hid h
    have HM : Hid (scriptsF sc (l.drop 0) = m) := Lib.hid (by rw [List.drop_zero]; exact hm)
    have HSC := Lib.hid hsc
    have hz := h.lt
    clear hv ht ih h hm hsc
    go_enter Try.func76, Try.ntmps76
    go_wp2
    go_loopg [13] (l.length) (fun g x wr => ∃ i : Nat, g = l.length - i ∧ x = .int .i64 i ∧ i ≤ l.length ∧ Hid (scriptsF sc (l.drop i) = m ∧ Below w.heap.size w wr))
    case atStart => exact ⟨0, by omega, rfl, by omega, Lib.hid ⟨HM.out, Below.refl _ _⟩⟩
    case round =>
      obtain ⟨i, rfl, rfl, hi, HR⟩ := hrel
      clear HM
      by_cases hlt : i < l.length
      · have hne : l ≠ [] := fun e => by rw [e] at hlt; simp at hlt
        have hvr : PIn d wr (fun _ => True) (.slice A l.length c) l := pin_good d w wr _ _ _ _ (fun k hk _ => ⟨trivial, HR.out.2.block k hk⟩) HV.out
        obtain ⟨d0, b, off, hd0, rfl, hbl, hcs⟩ := pin_at hvr hne
        obtain ⟨A5, n5, c5, q1, q2, q3, q4, q5, q6⟩ := hcs i hlt
        subst hd0
        have hts := tsz_at hlt
        have hT := HT.out
        have hmm := HR.out.1
        rw [List.drop_eq_getElem_cons hlt] at hmm
        have hrw := (HW.out.told HR.out.2)
        have r2 := hrw.c2
        have hzr := hrw.lt
        have HRW := Lib.hid hrw
        have hw1 : IntKind.i64.wrap ((wi : Int) + 1) = (wi : Int) + 1 := IntWalk.i64_in _ (by omega)
        have HQ6 := Lib.hid q6
        obtain ⟨p, hp⟩ : ∃ p, l[i] = p := ⟨_, rfl⟩
        rw [hp] at hmm q1 q2 q3 q4 HQ6 hts
        obtain ⟨k, qu, tx, op, wd⟩ := p
        dsimp only [PT.kind, PT.quoted, PT.text, PT.op, PT.word] at q1 q2 q3 q4 HQ6 hts
        rw [scr_mk] at hmm
        have HTX : Hid (tx.length ≤ 8192 ∧ WdT.tsz wd ≤ 8192) := Lib.hid ⟨by omega, by omega⟩
        have hli : (i : Int) < (l.length : Int) := by omega
        have hoi : IntKind.i64.wrap ((i : Int) + 1) = (i : Int) + 1 := IntWalk.i64_in _ (by omega)
        clear hvr hcs hts hT hp q6 hrw
        obtain ⟨o, ho⟩ : ∃ o, (if k = 3 then sc tx else none) = o := ⟨_, rfl⟩
        obtain ⟨o2, ho2⟩ : ∃ o2, scriptsF sc wd = o2 := ⟨_, rfl⟩
        rw [ho, ho2] at hmm
        have hrec := fun W (hW : RdS W rb s q wi) (hP : PIn d0 W (fun _ => True) (.slice A5 n5 c5) wd) => HI.out d0 (Nat.lt_succ_self _) (.slice A5 n5 c5) wd at_ W hW hP HTX.out.2
        rw [ho2] at hrec
        have HREC := Lib.hid hrec
        by_cases hk : k = 3
        · subst hk
          rw [if_pos rfl] at ho
          have hpr := fun W => HSC.out.run tx W HTX.out.1
          rw [ho] at hpr
          have HPR := Lib.hid hpr
          cases o with
          | some er =>
            have her := HSC.out.good tx er ho
            have hern : (er == 0) = false := by rw [beq_eq_false_iff_ne]; exact her
            have HMM := Lib.hid hmm
            clear hmm hpr ho hrec HREC ho2
            go_wp2_with fail
            refine wp_gen (fun W => W.heap[wr.heap.size]? = some (.cells #[.int .i64 3, .bool qu, .string (nm tx), .string (nm op), .slice A5 n5 c5] 64 (0, 0)) ∧ RdS W rb s q wi ∧ Below wr.heap.size wr W) ⟨heap_alloc_new wr _, HRW.out.told ((Below.refl _ _).alloc (Nat.le_refl _) _), (Below.refl _ _).alloc (Nat.le_refl _) _⟩ ?_
            rintro W ⟨hbx, hrw, hbw⟩
            have hwb : w.heap.size ≤ wr.heap.size := HR.out.2.size
            have HPW := Lib.hid (pin_good d0 wr W _ (fun _ => True) _ _ (fun k hk _ => ⟨trivial, hbw.block k hk⟩) HQ6.out)
            generalize wr.heap.size = bx at *
            have x0 := cell_blk hbx 0
            have x2 := cell_blk hbx 2
            have x4 := cell_blk hbx 4
            have z2 := hrw.c2
            have hzx := fin_at hbx
            have hzw := hrw.lt
            simp at x0 x2 x4
            have HBX := Lib.hid hbx
            have HBW := Lib.hid (HR.out.2.trans (hbw.mono hwb))
            have HRZ := Lib.hid hrw
            clear hbx hbw hrw q1 q2 q3 q4 q5 r2 hzr
            go_wp2_with fail
            have S0 : Hid (W.drew.cell? ⟨bx, 2, none⟩ = some (.string (nm tx)) ∧ W.drew.cell? ⟨rb, 2, none⟩ = some (.int .i64 wi)) := Lib.hid ⟨x2, z2⟩
            have HPRW := Lib.hid (HPR.out W.drew)
            go_region_held3 (fun W => W.cell? ⟨bx, 2, none⟩ = some (.string (nm tx)) ∧ W.cell? ⟨rb, 2, none⟩ = some (.int .i64 wi))
              (first | (with_reducible exact S0.out) | (with_reducible exact S3.out))
              (first | (go_at_call 10; (refine (HPRW.out).mono ?_); rintro e w3 ⟨hb3, v3, n3, rfl⟩; have S3 : Hid (w3.cell? ⟨bx, 2, none⟩ = some (.string (nm tx)) ∧ w3.cell? ⟨rb, 2, none⟩ = some (.int .i64 wi)) := Lib.hid ⟨(World.cell?_of_block (hb3.block bx hzx)).trans x2, (World.cell?_of_block (hb3.block rb hzw)).trans z2⟩; have HB3 : Hid (Below W.heap.size W w3) := Lib.hid ⟨hb3.os, hb3.tape, hb3.output, hb3.size, hb3.block⟩; clear hb3))
            go_wp2_with fail
            have e := HMM.out
            simp only [scrNext] at e
            subst e
            exact ⟨rfl, HBW.out.trans (HB3.out.mono HBW.out.size), rfl⟩
          | none =>
            clear hpr ho hrec ho2
            go_wp2_with fail
            refine wp_gen (fun W => W.heap[wr.heap.size]? = some (.cells #[.int .i64 3, .bool qu, .string (nm tx), .string (nm op), .slice A5 n5 c5] 64 (0, 0)) ∧ RdS W rb s q wi ∧ Below wr.heap.size wr W) ⟨heap_alloc_new wr _, HRW.out.told ((Below.refl _ _).alloc (Nat.le_refl _) _), (Below.refl _ _).alloc (Nat.le_refl _) _⟩ ?_
            rintro W ⟨hbx, hrw, hbw⟩
            have hwb : w.heap.size ≤ wr.heap.size := HR.out.2.size
            have HPW := Lib.hid (pin_good d0 wr W _ (fun _ => True) _ _ (fun k hk _ => ⟨trivial, hbw.block k hk⟩) HQ6.out)
            generalize wr.heap.size = bx at *
            have x0 := cell_blk hbx 0
            have x2 := cell_blk hbx 2
            have x4 := cell_blk hbx 4
            have z2 := hrw.c2
            have hzx := fin_at hbx
            have hzw := hrw.lt
            simp at x0 x2 x4
            have HBX := Lib.hid hbx
            have HBW := Lib.hid (HR.out.2.trans (hbw.mono hwb))
            have HRZ := Lib.hid hrw
            clear hbx hbw hrw q1 q2 q3 q4 q5 r2 hzr
            go_wp2_with fail
            have S0 : Hid (W.drew.cell? ⟨bx, 2, none⟩ = some (.string (nm tx)) ∧ W.drew.cell? ⟨rb, 2, none⟩ = some (.int .i64 wi)) := Lib.hid ⟨x2, z2⟩
            have HPRW := Lib.hid (HPR.out W.drew)
            go_region_held3 (fun W => W.cell? ⟨bx, 2, none⟩ = some (.string (nm tx)) ∧ W.cell? ⟨rb, 2, none⟩ = some (.int .i64 wi))
              (first | (with_reducible exact S0.out) | (with_reducible exact S3.out))
              (first | (go_at_call 10; (refine (HPRW.out).mono ?_); rintro e w3 ⟨hb3, v3, n3, rfl⟩; have S3 : Hid (w3.cell? ⟨bx, 2, none⟩ = some (.string (nm tx)) ∧ w3.cell? ⟨rb, 2, none⟩ = some (.int .i64 wi)) := Lib.hid ⟨(World.cell?_of_block (hb3.block bx hzx)).trans x2, (World.cell?_of_block (hb3.block rb hzw)).trans z2⟩; have HB3 : Hid (Below W.heap.size W w3) := Lib.hid ⟨hb3.os, hb3.tape, hb3.output, hb3.size, hb3.block⟩; clear hb3))
            have HBY := Lib.hid (HBW.out.trans (HB3.out.mono HBW.out.size))
            have HRY := Lib.hid (HRZ.out.told HB3.out)
            have HPY := Lib.hid (pin_good d0 W w3 _ (fun _ => True) _ _ (fun k hk _ => ⟨trivial, HB3.out.block k hk⟩) HPW.out)
            have y4 := (World.cell?_of_block (HB3.out.block bx hzx)).trans x4
            clear x0 x2 x4 z2
            cases o2 with
            | some e2 =>
              have HMM := Lib.hid hmm
              clear hmm
              go_wp2_with (go_at_call 76; refine (HREC.out _ HRY.out HPY.out).mono ?_; rintro e w4 ⟨hb4, rfl⟩; simp only [sflt])
              have e := HMM.out
              simp only [scrNext] at e
              subst e
              exact ⟨rfl, HBY.out.trans (hb4.mono HBY.out.size), rfl⟩
            | none =>
              have HMM : Hid (scriptsF sc (l.drop (i + 1)) = m) := Lib.hid (by simpa only [scrNext] using hmm)
              clear hmm
              go_wp2_with (go_at_call 76; refine (HREC.out _ HRY.out HPY.out).mono ?_; rintro e w4 ⟨hb4, rfl⟩)
              go_roundg (l.length - (i + 1))
              case measure => omega
              case rel => exact ⟨i + 1, by omega, by go_num, by omega, Lib.hid ⟨HMM.out, HBY.out.trans (hb4.mono HBY.out.size)⟩⟩
        · rw [if_neg hk] at ho
          have hkb : (k == 3) = false := by rw [beq_eq_false_iff_ne]; exact hk
          subst ho
          clear hrec ho2
          go_wp2_with fail
          refine calls_gen (fun W => W.heap[wr.heap.size]? = some (.cells #[.int .i64 k, .bool qu, .string (nm tx), .string (nm op), .slice A5 n5 c5] 64 (0, 0)) ∧ RdS W rb s q wi ∧ Below wr.heap.size wr W) ⟨heap_alloc_new wr _, HRW.out.told ((Below.refl _ _).alloc (Nat.le_refl _) _), (Below.refl _ _).alloc (Nat.le_refl _) _⟩ ?_
          rintro W ⟨hbx, hrw, hbw⟩
          have hwb : w.heap.size ≤ wr.heap.size := HR.out.2.size
          have HPW := Lib.hid (pin_good d0 wr W _ (fun _ => True) _ _ (fun k hk _ => ⟨trivial, hbw.block k hk⟩) HQ6.out)
          generalize wr.heap.size = bx at *
          have x0 := cell_blk hbx 0
          have x2 := cell_blk hbx 2
          have x4 := cell_blk hbx 4
          have z2 := hrw.c2
          have hzx := fin_at hbx
          have hzw := hrw.lt
          simp at x0 x2 x4
          have HBX := Lib.hid hbx
          have HBW := Lib.hid (HR.out.2.trans (hbw.mono hwb))
          have HRZ := Lib.hid hrw
          clear hbx hbw hrw q1 q2 q3 q4 q5 r2 hzr
          have HBY := HBW
          have HRY := HRZ
          have HPY := HPW
          clear x2 z2
          cases o2 with
          | some e2 =>
            have HMM := Lib.hid hmm
            clear hmm
            refine (HREC.out _ HRY.out HPY.out).mono ?_
            rintro e w4 ⟨hb4, rfl⟩
            simp only [sflt]
            go_wp2_with fail
            have e := HMM.out
            simp only [scrNext] at e
            subst e
            exact ⟨rfl, HBY.out.trans (hb4.mono HBY.out.size), rfl⟩
          | none =>
            have HMM : Hid (scriptsF sc (l.drop (i + 1)) = m) := Lib.hid (by simpa only [scrNext] using hmm)
            clear hmm
            refine (HREC.out _ HRY.out HPY.out).mono ?_
            rintro e w4 ⟨hb4, rfl⟩
            go_wp2_with fail
            go_roundg (l.length - (i + 1))
            case measure => omega
            case rel => exact ⟨i + 1, by omega, by go_num, by omega, Lib.hid ⟨HMM.out, HBY.out.trans (hb4.mono HBY.out.size)⟩⟩
      · have HMN : Hid (m = none) := Lib.hid (by have := HR.out.1; rw [List.drop_of_length_le (by omega), scriptsF] at this; exact this.symm)
        have hge : ¬ (i : Int) < (l.length : Int) := by omega
        go_wp2
        refine bodyPost_ret (results_none rfl _ _ _) rfl ?_
        have e := HMN.out
        subst e
        exact ⟨HR.out.2, rfl⟩

end Go.Proofs.Ytgajbehlggikdaa.Sw

/- DERIVED. The walk over word: a word read, and the scripts in it. -/
namespace Go.Proofs.Ytgajbehlggikdaa.Sw
open Go.RowKit
open PathM WdM SyM
open Go.Proofs.Ytgajbehlggikdaa.Wd
set_option linter.unusedVariables false

theorem pin_lit {d b c : Nat} {W : World} {S : Nat → Prop} (h : W.heap[b]? = some (.cells #[.int .i64 1, .bool true, .string ⟨#[]⟩, .string ⟨#[]⟩, .slice none 0 0] 64 (0, 0))) (hb : S b) (hc : 1 ≤ c) : PIn (d + 1) W S (.slice (some ⟨b, 0, none⟩) 1 c) [litP true []] := by
  refine ⟨_, c, [(litP true [], .slice none 0 0)], rfl, rfl, ⟨by simp, hc⟩, fun _ => ⟨b, 0, rfl, hb, fun i hi => ?_⟩⟩
  have hi0 : i = 0 := by simp at hi; exact hi
  subst hi0
  exact ⟨cell_blk h 0, cell_blk h 1, cell_blk h 2, cell_blk h 3, cell_blk h 4, PIn.nil _ _ _ _ _⟩
theorem pin_kept {d z : Nat} {Q : Nat → Prop} {w w' : World} {v : Value} {l : List PT} (hk : Kept Q w w') (hq : ∀ k, Q k → k < z ∨ w.heap.size ≤ k) (h : PIn d w (Nw z w) v l) : PIn d w' (Nw z w') v l := nw_kept (V := PIn d) (pin_good d) hk hq h
theorem pnew_nw {d z : Nat} {w : World} {v : Value} {l : List PT} (h : PNew d z w v l) : PIn d w (Nw z w) v l := PIn.mono (fun k hk hs => ⟨hs.1, hk⟩) d v l h
theorem sflt_at {n m : Nat} {er : Int} (h : n = m) : Ending.panicked [{ v := .iface 49 (.agg #[.int .i64 m, .int .i64 er]), recovered := false }] = sflt n er := by rw [h]; rfl
theorem pnew_any {n z : Nat} {W : World} {v : Value} {l : List PT} (h : PNew n z W v l) : PIn n W (fun _ => True) v l := PIn.mono (fun _ _ _ => trivial) n _ _ h
theorem word_no {sc : Bs → Option Int} {l : Bs} (h : wordStands l = false) : wordL sc l = refuse l := by unfold wordL; rw [if_neg (by rw [h]; decide)]
theorem word_end {sc : Bs → Option Int} {l : Bs} (h : wordStands l = true) (h2 : scan (aheadL l) = .bad 0 61) : wordL sc l = .bad 0 62 := by unfold wordL; rw [if_pos h, h2]; rfl
theorem word_bad {sc : Bs → Option Int} {l : Bs} {a : Nat} {e : Int} (h : wordStands l = true) (h2 : scan (aheadL l) = .bad a e) (h3 : ¬ (e = 61 ∧ a = 0)) : wordL sc l = .bad a e := by unfold wordL; rw [if_pos h, h2]; simp only; rw [if_neg h3]
theorem word_scr {sc : Bs → Option Int} {l r : Bs} {w : List PT} {e : Int} (h : wordStands l = true) (h2 : scan (aheadL l) = .ok w r) (h3 : scriptsF sc w = some e) : wordL sc l = .bad (aheadL l).length e := by unfold wordL; rw [if_pos h, h2]; simp only; rw [h3]
theorem word_ok {sc : Bs → Option Int} {l r : Bs} {w : List PT} (h : wordStands l = true) (h2 : scan (aheadL l) = .ok w r) (h3 : scriptsF sc w = none) : wordL sc l = .ok (if w = [] then [litP true []] else w) r := by unfold wordL; rw [if_pos h, h2]; simp only; rw [h3]
set_option maxRecDepth 100000 in
set_option maxHeartbeats 3200000 in
theorem word_any {sc : Bs → Option Int} {wi : Nat} (hsc : ScOk sc wi) (hwi : wi ≤ 100) (rb : Nat) (s : ByteArray) (l : Bs) (w : World) (h : RdS w rb s l wi) (hs : s.size ≤ 8192) :
    Calls Try.prog 65 #[.pointer (some ⟨rb, 0, none⟩)] w (Reads rb s wi (wordL sc l) (PIn 17) w) := by
  have hws := wordStands_any rb s l wi w h hs
  have hsf := (ahead_suf l).trans h.suf
  have hah := fun W (hW : RdS W rb s l wi) => ahead_any rb s l wi W hW hs
  have HW := Lib.hid h
  have hz := h.lt
  cases hst : wordStands l with
  | false =>
    rw [word_no hst]
    rw [hst] at hws
    obtain ⟨rn, re, hRF, hr⟩ := refuse_ex rb s l wi hs
    obtain ⟨ra, hra, hrn⟩ := refused_bad (α := List PT) hRF
    rw [hra]
    have HRN := Lib.hid hrn
    have HWS := Lib.hid hws
    have HRC := Lib.hid hr
    clear hws hr hRF hra hrn hah h hst
    go_enter Try.func65, Try.ntmps65
    go_wp2_with (first | (go_at_call 63; refine HWS.out.mono ?_; rintro e W ⟨rfl, n, rfl⟩) | (go_at_call 19; refine (HRC.out _ (HW.out.drewN n)).mono ?_; rintro e W2 ⟨rfl, rfl⟩))
    exact ⟨rfl, Kept.drewN n, sflt_at HRN.out.symm⟩
  | true =>
    rw [hst] at hws
    obtain ⟨A, hA⟩ : ∃ A, aheadL l = A := ⟨_, rfl⟩
    obtain ⟨p, hp⟩ : ∃ p, pl s A = p := ⟨_, rfl⟩
    have hps : p ≤ s.size := hp ▸ pl_le s A
    rw [hA] at hah hsf
    rw [hp] at hah
    have hpa : s.data.toList.drop p = A := by rw [← hp]; exact pl_drop hsf
    have HWS := Lib.hid hws
    have HAH := Lib.hid hah
    have hAl := suf_len hsf
    have hpl : s.size - A.length = p := by rw [← hp]; rfl
    cases hsc2 : scan A with
    | bad a er =>
      have HSC := Lib.hid (fun W => scan_bad_call s A p W hpa hps hs hsc2)
      have her := scan_err hsc2
      by_cases hx : er = 61 ∧ a = 0
      · obtain ⟨rfl, rfl⟩ := hx
        rw [word_end hst (by rw [hA]; exact hsc2)]
        have e1 : ((s.size : Int) == (s.size : Int)) = true := by simp
        rw [Nat.sub_zero] at HSC
        clear hws hah h hst hsc hsc2 hA hp hpa hAl hpl hsf her
        go_enter Try.func65, Try.ntmps65
        go_wp2_with (first | (go_at_call 63; refine HWS.out.mono ?_; rintro e W ⟨rfl, n, rfl⟩; have r0 := (HW.out.drewN n).c0) | (go_at_call 21; refine (HAH.out _ (HW.out.drewN n)).mono ?_; rintro e W2 ⟨rfl, rfl⟩) | (go_at_call 32; refine (HSC.out _).mono ?_; rintro e W3 ⟨v, rfl, hb⟩; have HB := Lib.hid hb; have r3 := (((HW.out.drewN n).told hb).c0); have hz3 := ((HW.out.drewN n).told hb).lt; clear hb))
        exact ⟨rfl, (Kept.drewN n).trans (kept_told HB.out), rfl⟩
      · rw [word_bad hst (by rw [hA]; exact hsc2) hx]
        have hal : a ≤ s.size ∨ True := .inr trivial
        have herb : (er == 0) = false := by rw [beq_eq_false_iff_ne]; exact her
        obtain ⟨n0, hn0⟩ : ∃ n0 : Nat, s.size - a = n0 := ⟨_, rfl⟩
        rw [hn0] at HSC
        have HN0 := Lib.hid hn0
        by_cases h61 : er = 61
        · have hna : ¬ n0 = s.size ∨ s.size = 0 := by
            rcases Nat.eq_zero_or_pos s.size with h0 | h0
            · exact .inr h0
            · left; intro e; have : a = 0 := by omega
              exact hx ⟨h61, this⟩
          have hpos : 0 < s.size := by
            rcases Nat.eq_zero_or_pos s.size with h0 | h0
            · exfalso
              have : A = [] := List.length_eq_zero_iff.1 (by omega)
              rw [ws_nil (by rw [hA]; exact this)] at hst
              cases hst
            · exact h0
          have e1 : ((n0 : Int) == (s.size : Int)) = false := by rw [beq_eq_false_iff_ne]; omega
          subst h61
          clear hws hah h hst hsc hsc2 hA hp hpa hAl hpl hsf hx hna hn0 hal
          go_enter Try.func65, Try.ntmps65
          go_wp2_with (first | (go_at_call 63; refine HWS.out.mono ?_; rintro e W ⟨rfl, n, rfl⟩; have r0 := (HW.out.drewN n).c0) | (go_at_call 21; refine (HAH.out _ (HW.out.drewN n)).mono ?_; rintro e W2 ⟨rfl, rfl⟩) | (go_at_call 32; refine (HSC.out _).mono ?_; rintro e W3 ⟨v, rfl, hb⟩; have HB := Lib.hid hb; have r3 := (((HW.out.drewN n).told hb).c0); have hz3 := ((HW.out.drewN n).told hb).lt; clear hb))
          exact ⟨rfl, (Kept.drewN n).trans (kept_told HB.out), sflt_at HN0.out⟩
        · have h61b : (er == 61) = false := by rw [beq_eq_false_iff_ne]; exact h61
          clear hws hah h hst hsc hsc2 hA hp hpa hAl hpl hsf hx hn0 hal
          go_enter Try.func65, Try.ntmps65
          go_wp2_with (first | (go_at_call 63; refine HWS.out.mono ?_; rintro e W ⟨rfl, n, rfl⟩; have r0 := (HW.out.drewN n).c0) | (go_at_call 21; refine (HAH.out _ (HW.out.drewN n)).mono ?_; rintro e W2 ⟨rfl, rfl⟩) | (go_at_call 32; refine (HSC.out _).mono ?_; rintro e W3 ⟨v, rfl, hb⟩; have HB := Lib.hid hb; have r3 := (((HW.out.drewN n).told hb).c0); have hz3 := ((HW.out.drewN n).told hb).lt; clear hb))
          exact ⟨rfl, (Kept.drewN n).trans (kept_told HB.out), sflt_at HN0.out⟩
    | ok ww r =>
      have HSC := Lib.hid (fun W => scan_ok_call s A p W hpa hps hs hsc2)
      have htx := WdT.scan_texts hsc2
      have HSX := Lib.hid (fun W v at_ (hW : RdS W rb s l wi) (hv : PIn 17 W (fun _ => True) v ww) => scripts_any hsc hwi rb s l hs 17 v ww at_ W hW hv (by omega))
      cases hsf2 : scriptsF sc ww with
      | some er =>
        rw [word_scr hst (by rw [hA]; exact hsc2) hsf2, hA]
        rw [hsf2] at HSX
        have HPL := Lib.hid hpl
        clear hws hah h hst hsc hsc2 hA hp hpa hAl hpl hsf htx hsf2
        go_enter Try.func65, Try.ntmps65
        go_wp2_with (first | (go_at_call 63; refine HWS.out.mono ?_; rintro e W ⟨rfl, n, rfl⟩; have r0 := (HW.out.drewN n).c0) | (go_at_call 21; refine (HAH.out _ (HW.out.drewN n)).mono ?_; rintro e W2 ⟨rfl, rfl⟩) | (go_at_call 32; refine (HSC.out _).mono ?_; rintro e W3 ⟨v, rfl, hb, hv, hrs⟩; have HB := Lib.hid hb; have HV := Lib.hid hv; have HR3 := Lib.hid ((HW.out.drewN n).told hb); clear hb hv hrs) | (go_at_call 76; refine (HSX.out _ _ _ HR3.out (pnew_any HV.out)).mono ?_; rintro e W4 ⟨hb4, rfl⟩; simp only [sflt]))
        exact ⟨rfl, ((Kept.drewN n).trans (kept_told HB.out)).trans (kept_told hb4), sflt_at HPL.out⟩
      | none =>
        rw [word_ok hst (by rw [hA]; exact hsc2) hsf2]
        rw [hsf2] at HSX
        obtain ⟨m, hm⟩ : ∃ m, ww.length = m := ⟨_, rfl⟩
        have HMM := Lib.hid hm
        by_cases hnil : ww = []
        · rw [if_pos hnil]
          have hm0 : m = 0 := by rw [← hm, hnil]; rfl
          subst hm0
          clear hws hah h hst hsc hsc2 hA hp hpa hAl hpl hsf htx hsf2 hm hnil
          go_enter Try.func65, Try.ntmps65
          go_wp2_with (first | (go_at_call 63; refine HWS.out.mono ?_; rintro e W ⟨rfl, n, rfl⟩; have r0 := (HW.out.drewN n).c0) | (go_at_call 21; refine (HAH.out _ (HW.out.drewN n)).mono ?_; rintro e W2 ⟨rfl, rfl⟩) | (go_at_call 32; refine (HSC.out _).mono ?_; rintro e W3 ⟨v, rfl, hb, hv, hrs⟩; have HB := Lib.hid hb; have HV := Lib.hid hv; have HRS := Lib.hid hrs; have HR3 := Lib.hid ((HW.out.drewN n).told hb); obtain ⟨vA, vc, rfl⟩ := pnew_len hv; rw [HMM.out] at *; clear hb hv hrs) | (go_at_call 76; refine (HSX.out _ _ _ HR3.out (pnew_any HV.out)).mono ?_; rintro e W4 ⟨hb4, rfl⟩; have HB4 := Lib.hid hb4; have HR4 := Lib.hid (HR3.out.told hb4); have z1 := HR4.out.c1; have f1 := HR4.out.fz 1; have hz4 := HR4.out.lt; clear hb4))
          go_ret
          have hk1 := ((Kept.drewN (S := (· = rb)) n (w := w)).trans (kept_told HB.out)).trans ((kept_told HB4.out).trans (Kept.setCell (w := W4) ⟨rb, 1, none⟩ (.int .i64 (pl s r : Nat)) rfl))
          have hr1 := HR4.out.at_ HRS.out (n := (pl s r : Nat)) rfl
          have hsz : (W4.setCell ⟨rb, 1, none⟩ (.int .i64 (pl s r : Nat))).heap.size = W4.heap.size := by simp
          generalize W4.setCell ⟨rb, 1, none⟩ (.int .i64 (pl s r : Nat)) = W5 at *
          rw [← hsz]
          exact ⟨hk1.trans (kept_alloc _ _), _, rfl, hr1.told ((Below.refl _ _).alloc (Nat.le_refl _) _), pin_lit (heap_alloc_new W5 _) ⟨hk1.size, by simp⟩ (Nat.le_refl _)⟩
        · rw [if_neg hnil]
          have hm0 : ¬ m = 0 := by rw [← hm]; exact fun e => hnil (List.length_eq_zero_iff.1 e)
          have hmb : ((m : Int) == 0) = false := by rw [beq_eq_false_iff_ne]; omega
          clear hws hah h hst hsc hsc2 hA hp hpa hAl hpl hsf htx hsf2 hm hnil
          go_enter Try.func65, Try.ntmps65
          go_wp2_with (first | (go_at_call 63; refine HWS.out.mono ?_; rintro e W ⟨rfl, n, rfl⟩; have r0 := (HW.out.drewN n).c0) | (go_at_call 21; refine (HAH.out _ (HW.out.drewN n)).mono ?_; rintro e W2 ⟨rfl, rfl⟩) | (go_at_call 32; refine (HSC.out _).mono ?_; rintro e W3 ⟨v, rfl, hb, hv, hrs⟩; have HB := Lib.hid hb; have HV := Lib.hid hv; have HRS := Lib.hid hrs; have HR3 := Lib.hid ((HW.out.drewN n).told hb); obtain ⟨vA, vc, rfl⟩ := pnew_len hv; rw [HMM.out] at *; clear hb hv hrs) | (go_at_call 76; refine (HSX.out _ _ _ HR3.out (pnew_any HV.out)).mono ?_; rintro e W4 ⟨hb4, rfl⟩; have HB4 := Lib.hid hb4; have HR4 := Lib.hid (HR3.out.told hb4); have z1 := HR4.out.c1; have f1 := HR4.out.fz 1; have hz4 := HR4.out.lt; clear hb4))
          go_ret
          have hk1 := ((Kept.drewN (S := (· = rb)) n (w := w)).trans (kept_told HB.out)).trans ((kept_told HB4.out).trans (Kept.setCell (w := W4) ⟨rb, 1, none⟩ (.int .i64 (pl s r : Nat)) rfl))
          have hr1 := HR4.out.at_ HRS.out (n := (pl s r : Nat)) rfl
          have hv1 := nw_kept (V := PIn 17) (pin_good 17) ((kept_told (S := (· = rb)) HB4.out).trans (Kept.setCell (w := W4) ⟨rb, 1, none⟩ (.int .i64 (pl s r : Nat)) rfl)) (fun k e => .inl (by have := HW.out.lt; show k < w.heap.size; omega)) (pnew_nw HV.out)
          exact ⟨hk1, _, rfl, hr1, hv1⟩

end Go.Proofs.Ytgajbehlggikdaa.Sw

/- DERIVED. The walks over redirStands and redir. -/
namespace Go.Proofs.Ytgajbehlggikdaa.Sw
open Go.RowKit
open PathM WdM SyM
open Go.Proofs.Ytgajbehlggikdaa.Wd
set_option linter.unusedVariables false

theorem redirStands_any (rb : Nat) (s : ByteArray) (l : Bs) (wi : Nat) (w : World) (h : RdS w rb s l wi) (hs : s.size ≤ 8192) :
    Calls Try.prog 55 #[.pointer (some ⟨rb, 0, none⟩)] w fun e w' => e = .returned (.bool (arrowL l).isSome) ∧ w = w' := by
  have ha := arrow_any rb s l wi w h hs
  unfold ArrowPost at ha
  have hz := h.lt
  cases hx : arrowL l with
  | none =>
    rw [hx] at ha
    have HA := Lib.hid ha
    have e1 := emp_yes (b := nm []) rfl
    clear ha h hx
    go_enter Try.func55, Try.ntmps55
    go_wp2_with (go_at_call 73; refine HA.out.mono ?_; rintro e W ⟨rfl, rfl⟩)
    go_ret
    exact ⟨rfl, rfl⟩
  | some x =>
    obtain ⟨fd, op, r⟩ := x
    rw [hx] at ha
    have HA := Lib.hid ha
    clear ha h hx
    go_enter Try.func55, Try.ntmps55
    go_wp2_with (go_at_call 73; refine HA.out.mono ?_; rintro e W ⟨⟨rfl, h1, h2, h3⟩, rfl⟩; obtain ⟨e1, e2⟩ := emp_no (b := nm op) (by rw [nm_data]; exact h2))
    go_ret
    exact ⟨ret_bool (by simp), rfl⟩
/-- A value of cells. -/
def VAgg {α : Type} (R : Rep α) : World → (Nat → Prop) → Value → α → Prop := fun w S v x => ∃ vs : List Value, v = .agg vs.toArray ∧ R w S vs x
theorem vagg_good {α : Type} {R : Rep α} (hR : Good R) : GoodV (VAgg R) := by
  rintro w w' S S' v x hk ⟨vs, hv, h⟩
  exact ⟨vs, hv, hR w w' S S' vs x hk h⟩
theorem three_set {W : World} {b : Nat} {t : TypeId} {x0 x1 x2 : Value} (h : W.heap[b]? = some (.cells #[x0, x1, x2] t (0, 0))) (y0 y1 y2 : Value) :
    (((W.setCell ⟨b, 0, none⟩ y0).setCell ⟨b, 1, none⟩ y1).setCell ⟨b, 2, none⟩ y2).heap[b]? = some (.cells #[y0, y1, y2] t (0, 0)) :=
  set_blk (j := 2) (set_blk (j := 1) (set_blk (j := 0) h y0) y1) y2
theorem three_kept {S : Nat → Prop} (W : World) {b : Nat} (hb : S b) (y0 y1 y2 : Value) : Kept S W (((W.setCell ⟨b, 0, none⟩ y0).setCell ⟨b, 1, none⟩ y1).setCell ⟨b, 2, none⟩ y2) :=
  ((Kept.setCell ⟨b, 0, none⟩ y0 hb).trans (Kept.setCell ⟨b, 1, none⟩ y1 hb)).trans (Kept.setCell ⟨b, 2, none⟩ y2 hb)
theorem redir_bad {sc : Bs → Option Int} {l op r : Bs} {fd : Int} {a : Nat} {e : Int} (h : arrowL l = some (fd, op, r)) (h2 : wordL sc r = .bad a e) : redirL sc l = .bad a e := by unfold redirL; rw [h]; simp only; rw [h2]
theorem redir_ok {sc : Bs → Option Int} {l op r r2 : Bs} {fd : Int} {w : List PT} (h : arrowL l = some (fd, op, r)) (h2 : wordL sc r = .ok w r2) : redirL sc l = .ok ⟨fd, op, w⟩ r2 := by unfold redirL; rw [h]; simp only; rw [h2]
set_option maxRecDepth 100000 in
set_option maxHeartbeats 1600000 in
theorem redir_any {sc : Bs → Option Int} {wi : Nat} (hsc : ScOk sc wi) (hwi : wi ≤ 100) (rb : Nat) (s : ByteArray) (l : Bs) (w : World) (h : RdS w rb s l wi) (hs : s.size ≤ 8192) (hst : (arrowL l).isSome = true) :
    Calls Try.prog 56 #[.pointer (some ⟨rb, 0, none⟩)] w (Reads rb s wi (redirL sc l) (VAgg RRd) w) := by
  obtain ⟨⟨fd, op, r⟩, hx⟩ := Option.isSome_iff_exists.1 hst
  have ha := fun W (hW : RdS W rb s l wi) => arrow_any rb s l wi W hW hs
  unfold ArrowPost at ha
  rw [hx] at ha
  have hw := fun W (hW : RdS W rb s r wi) => word_any hsc hwi rb s r W hW hs
  have HA := Lib.hid ha
  have HW := Lib.hid h
  have hz := h.lt
  cases hm : wordL sc r with
  | bad a er =>
    rw [redir_bad hx hm]
    rw [hm] at hw
    have HWD := Lib.hid hw
    clear ha hw hx hm h hst hsc
    go_enter Try.func56, Try.ntmps56
    go_wp2_with fail
    refine calls_gen (fun W => W.heap[w.heap.size]? = some (.cells #[.int .i64 0, .string ⟨#[]⟩, .slice none 0 0] 59 (0, 0)) ∧ RdS W rb s l wi ∧ Below w.heap.size w W) ⟨heap_alloc_new w _, HW.out.told ((Below.refl _ _).alloc (Nat.le_refl _) _), (Below.refl _ _).alloc (Nat.le_refl _) _⟩ ?_
    rintro W ⟨hbx, hrw, hbw⟩
    refine (HA.out W hrw).mono ?_
    rintro e W2 ⟨⟨rfl, h1, h2, h3⟩, rfl⟩
    have r1 := hrw.c1
    have f1 := hrw.fz 1
    have hzr := hrw.lt
    have HRW := Lib.hid hrw
    have HBW := Lib.hid hbw
    have HH := Lib.hid h1
    clear hbx hrw hbw h1 h2 h3
    go_wp2_with (go_at_call 65; refine (HWD.out _ (HRW.out.at_ HH.out rfl)).mono ?_; rintro e W3 ⟨hk, rfl⟩; simp only [sflt])
    exact ⟨rfl, ((kept_told (S := (· = rb)) HBW.out).trans (Kept.setCell (S := (· = rb)) _ _ rfl)).trans hk, rfl⟩
  | ok ww r2 =>
    rw [redir_ok hx hm]
    rw [hm] at hw
    have HWD := Lib.hid hw
    clear ha hw hx hm h hst hsc
    go_enter Try.func56, Try.ntmps56
    go_wp2_with fail
    refine calls_gen (fun W => W.heap[w.heap.size]? = some (.cells #[.int .i64 0, .string ⟨#[]⟩, .slice none 0 0] 59 (0, 0)) ∧ RdS W rb s l wi ∧ Below w.heap.size w W) ⟨heap_alloc_new w _, HW.out.told ((Below.refl _ _).alloc (Nat.le_refl _) _), (Below.refl _ _).alloc (Nat.le_refl _) _⟩ ?_
    rintro W ⟨hbx, hrw, hbw⟩
    refine (HA.out W hrw).mono ?_
    rintro e W2 ⟨⟨rfl, h1, h2, h3⟩, rfl⟩
    have r1 := hrw.c1
    have f1 := hrw.fz 1
    have hzr := hrw.lt
    have hzb := fin_at hbx
    have HBX := Lib.hid ((Kept.setCell (S := (· = rb)) (w := W) ⟨rb, 1, none⟩ (.int .i64 (pl s r : Nat)) rfl).at hbx (by omega))
    have HRW := Lib.hid (hrw.at_ h1 (n := (pl s r : Nat)) rfl)
    have HBW := Lib.hid ((kept_told (S := (· = rb)) hbw).trans (Kept.setCell (w := W) ⟨rb, 1, none⟩ (.int .i64 (pl s r : Nat)) rfl))
    clear hbx hrw hbw h1 h2 h3
    go_wp2_with (go_at_call 65; refine (HWD.out _ HRW.out).mono ?_; rintro e W3 ⟨hk, v, rfl, hr3, hv⟩; obtain ⟨A5, n5, c5, rfl⟩ := PIn.form hv; have HBX3 := Lib.hid (hk.at HBX.out (by omega)); have b0 := cell_blk HBX3.out 0; have b1 := cell_blk HBX3.out 1; have b2 := cell_blk HBX3.out 2; have g0 := froz_blk HBX3.out 0; have g1 := froz_blk HBX3.out 1; have g2 := froz_blk HBX3.out 2; simp at b0 b1 b2; have hz3 := fin_at HBX3.out; have HK3 := Lib.hid (HBW.out.trans hk); have HR3 := Lib.hid hr3; have HV3 := Lib.hid (nw_le (V := PIn 17) (pin_good 17) (z := w.heap.size + 1) (by simp; omega) hv); clear hk hr3 hv)
    have hk4 := three_kept (S := (· = w.heap.size)) W3 rfl (.int .i64 fd) (.string (nm op)) (.slice A5 n5 c5)
    refine bodyPost_ret (results_cell_row rfl _ _ _ 59 _ (0, 0) _ rfl (three_set HBX3.out _ _ _) Try.underlying59 rfl (by kernel_rfl)) rfl ?_
    exact ⟨HK3.out.then hk4 (fun k h1 h2 => by omega), _, rfl, HR3.out.kept hk4 (by omega), _, rfl, _, rfl, nw_le (V := PIn 17) (pin_good 17) (z := w.heap.size) (by omega) (nw_kept (V := PIn 17) (pin_good 17) hk4 (fun k e => .inl (by omega)) HV3.out)⟩

end Go.Proofs.Ytgajbehlggikdaa.Sw

/- DERIVED. The walks over strings.Cut at one byte, and over assignment. -/
namespace Go.Proofs.Ytgajbehlggikdaa.Sw
open Go.RowKit
open PathM WdM SyM
open Go.Proofs.Ytgajbehlggikdaa.Wd
set_option linter.unusedVariables false

theorem index1_any (t : Bs) (w : World) :
    Calls Try.prog 91 #[.string (nm t), .string ⟨#[61]⟩] w fun e w' => e = .returned (.int .i64 (Lib.indexByte t 61)) ∧ w = w' := by
  have HI := Lib.hid (fun W => Try.stringslite_IndexByte (nm t) 61 W)
  have e1 : (⟨#[61]⟩ : ByteArray).toList = [61] := listD _
  have q1 : ([61] == (nm t).toList) = decide (t = [61]) := by rw [listD, nm_data, Bool.eq_iff_iff]; simp; exact ⟨fun h => h.symm, fun h => h.symm⟩
  by_cases ht : t = [61]
  · rw [decide_eq_true ht] at q1
    have hx : Lib.indexByte t 61 = 0 := by rw [ht]; rfl
    rw [hx]
    clear HI hx ht
    generalize nm t = T at *
    go_enter Try.func91, Try.ntmps91
    go_wp2
    go_ret
    exact ⟨rfl, rfl⟩
  · rw [decide_eq_false ht] at q1
    rw [nm_data] at HI
    have hv : (61 : Int).toNat.toUInt8 = 61 := rfl
    rw [hv] at HI
    obtain ⟨n, hn⟩ : ∃ n, Lib.indexByte t 61 = n := ⟨_, rfl⟩
    rw [hn] at HI ⊢
    clear hn ht hv
    generalize nm t = T at *
    go_enter Try.func91, Try.ntmps91
    go_wp2_with (go_at_call 34; refine (HI.out _).mono ?_; rintro e W ⟨rfl, rfl⟩)
    go_ret
    exact ⟨rfl, rfl⟩
def cutV (t : Bs) : Value := if Lib.indexByte t 61 < 0 then .tuple #[.string (nm t), .string ⟨#[]⟩, .bool false] else .tuple #[.string (nm (t.take (Lib.indexByte t 61).toNat)), .string (nm (t.drop ((Lib.indexByte t 61).toNat + 1))), .bool true]
theorem cutV_no {t : Bs} (h : Lib.indexByte t 61 < 0) : cutV t = .tuple #[.string (nm t), .string ⟨#[]⟩, .bool false] := by unfold cutV; rw [if_pos h]
theorem cutV_yes {t : Bs} (h : ¬ Lib.indexByte t 61 < 0) : cutV t = .tuple #[.string (nm (t.take (Lib.indexByte t 61).toNat)), .string (nm (t.drop ((Lib.indexByte t 61).toNat + 1))), .bool true] := by unfold cutV; rw [if_neg h]
theorem ix_lt (t : Bs) (c : UInt8) : Lib.indexByte t c < t.length := by
  induction t with
  | nil => simp [Lib.indexByte]
  | cons b t ih =>
    unfold Lib.indexByte
    rw [List.length_cons]
    split
    · omega
    · split
      · omega
      · omega
theorem lcut_any (t : Bs) (w : World) (ht : t.length ≤ 281474976710656) :
    Calls Try.prog 89 #[.string (nm t), .string ⟨#[61]⟩] w fun e w' => e = .returned (cutV t) ∧ ∃ k, w' = w.drewN k := by
  have HI := Lib.hid (index1_any t w)
  have hlt := ix_lt t 61
  by_cases h : Lib.indexByte t 61 < 0
  · rw [cutV_no h]
    generalize Lib.indexByte t 61 = n at *
    have h2 : ¬ (0 : Int) ≤ n := by omega
    clear hlt
    generalize nm t = T at *
    go_enter Try.func89, Try.ntmps89
    go_wp2_with (go_at_call 91; refine (HI.out).mono ?_; rintro e W ⟨rfl, rfl⟩)
    go_ret3
    exact ⟨rfl, 0, rfl⟩
  · rw [cutV_yes h]
    obtain ⟨n, hn⟩ : ∃ n : Nat, Lib.indexByte t 61 = n := ⟨(Lib.indexByte t 61).toNat, by omega⟩
    rw [hn] at HI hlt ⊢
    have hsz : (nm t).size = t.length := nm_size t
    have hl : n < (nm t).size := by omega
    have e1 : (nm t).extract 0 n = nm (t.take n) := by rw [ext_to, nm_data]
    have e2 : (nm t).extract (n + 1) (nm t).size = nm (t.drop (n + 1)) := by rw [ext_from, nm_data]
    have hm : (nm t).size ≤ 281474976710656 := by omega
    have hw1 : IntKind.i64.wrap ((n : Int) + 1) = (n : Int) + 1 := IntWalk.i64_in _ (by omega)
    have hg1 : (0 : Int) ≤ (n : Int) := by omega
    have hg2 : (n : Int) ≤ ((nm t).size : Int) := by omega
    have hg3 : (n : Int) + 1 ≤ ((nm t).size : Int) := by omega
    have hg4 : (0 : Int) ≤ (n : Int) + 1 := by omega
    have hg5 : ((n : Int) + 1).toNat = n + 1 := by omega
    have E1 := Lib.hid e1
    have E2 := Lib.hid e2
    clear e1 e2 hsz hlt h hn ht
    generalize nm t = T at *
    go_enter Try.func89, Try.ntmps89
    go_wp2_with (go_at_call 91; refine (HI.out).mono ?_; rintro e W ⟨rfl, rfl⟩)
    go_quiet (fail)
    go_wp2
    go_ret3
    refine ⟨?_, _, rfl⟩
    rw [Int.toNat_natCast, ← E1.out, ← E2.out]
    rfl
theorem cut_any (t : Bs) (w : World) (ht : t.length ≤ 281474976710656) :
    Calls Try.prog 84 #[.string (nm t), .string ⟨#[61]⟩] w fun e w' => e = .returned (cutV t) ∧ ∃ k, w' = w.drewN k := by
  have hc := lcut_any t w ht
  by_cases h : Lib.indexByte t 61 < 0
  · rw [cutV_no h] at hc ⊢
    have HC := Lib.hid hc
    clear hc h
    generalize nm t = T at *
    go_enter Try.func84, Try.ntmps84
    go_wp2_with (go_at_call 89; refine (HC.out).mono ?_; rintro e W ⟨rfl, n, rfl⟩)
    go_ret3
    exact ⟨rfl, n, rfl⟩
  · rw [cutV_yes h] at hc ⊢
    have HC := Lib.hid hc
    clear hc h
    generalize nm t = T at *
    generalize nm (List.drop _ t) = T2 at *
    generalize nm (List.take _ t) = T1 at *
    go_enter Try.func84, Try.ntmps84
    go_wp2_with (go_at_call 89; refine (HC.out).mono ?_; rintro e W ⟨rfl, n, rfl⟩)
    go_ret3
    exact ⟨rfl, n, rfl⟩

/-- The cells of parts, one by one. -/
theorem flat_cells {w : World} {b : Nat} : ∀ (ps : List (PT × Value)) (off : Nat), (∀ i, i < ps.length → ∀ j u, (ptC (ptAt ps i))[j]? = some u → w.cell? ⟨b, off + i * 5 + j, none⟩ = some u) → ∀ j u, (ps.flatMap ptC)[j]? = some u → w.cell? ⟨b, off + j, none⟩ = some u
  | [], off, _, j, u, hu => by simp at hu
  | p :: ps, off, h, j, u, hu => by
    rw [List.flatMap_cons] at hu
    have hl : (ptC p).length = 5 := rfl
    by_cases hj : j < 5
    · rw [List.getElem?_append_left (by rw [hl]; exact hj)] at hu
      have := h 0 (by simp) j u hu
      simpa using this
    · rw [List.getElem?_append_right (by rw [hl]; omega), hl] at hu
      have := flat_cells ps (off + 5) (fun i hi j u hu => by
        have := h (i + 1) (by simpa using hi) j u (by simpa [ptAt] using hu)
        rw [show off + 5 + i * 5 + j = off + (i + 1) * 5 + j from by omega]
        exact this) (j - 5) u hu
      rw [show off + j = off + 5 + (j - 5) from by omega]
      exact this
/-- Parts as they stand in a row of the call's own. -/
theorem pin_row {d base : Nat} {w : World} {S : Nat → Prop} {v : Value} {ps : List (PT × Value)} (h : w.ownsRow base 64 5 v ps.length (ps.flatMap ptC)) (hl : ps.length ≤ 1954687338211) (hS : ∀ k, v.ownBlock = some k → S k)
    (hp : ∀ p ∈ ps, PIn d w S p.2 p.1.word) : PIn (d + 1) w S v (ps.map Prod.fst) := by
  obtain ⟨a, cap, rfl⟩ := row_len h
  have hcap : ps.length ≤ cap := by
    rcases h.2 with ⟨h1, h0⟩ | ⟨g', cap', cur, h1, _, _, h2, _⟩
    · omega
    · cases h1; exact h2
  refine ⟨a, cap, ps, by rw [List.length_map], rfl, by rw [List.length_map]; exact ⟨hl, hcap⟩, fun hne => ?_⟩
  rcases h.2 with ⟨_, h0⟩ | ⟨g, cap', cur, hv, hb, hg, _⟩
  · exfalso; apply hne; rw [List.length_eq_zero_iff.1 h0]; rfl
  · injection hv with hv1 hv2 hv3
    subst hv1
    refine ⟨g, 0, rfl, hS g rfl, fun i hi => ?_⟩
    have hmem : ptAt ps i ∈ ps := by unfold ptAt; simp [hi]
    have hf : ∀ j u, (ptC (ptAt ps i))[j]? = some u → w.cell? ⟨g, 0 + i * 5 + j, none⟩ = some u := fun j u hu => by
      rw [Nat.zero_add]
      refine (row_cell h _ u ?_).1
      have hj : j < 5 := by
        rcases Nat.lt_or_ge j 5 with h' | h'
        · exact h'
        · rw [List.getElem?_eq_none (by exact h')] at hu; cases hu
      have : ∀ (ps : List (PT × Value)) (i : Nat), i < ps.length → (ptC (ptAt ps i))[j]? = some u → (ps.flatMap ptC)[i * 5 + j]? = some u := by
        intro ps
        induction ps with
        | nil => intro i hi; simp at hi
        | cons p ps ih =>
          intro i hi hu
          rw [List.flatMap_cons]
          have hl : (ptC p).length = 5 := rfl
          cases i with
          | zero => rw [Nat.zero_mul, Nat.zero_add, List.getElem?_append_left (by rw [hl]; exact hj)]; exact hu
          | succ i =>
            rw [List.getElem?_append_right (by rw [hl]; omega), hl, show (i + 1) * 5 + j - 5 = i * 5 + j from by omega]
            exact ih i (by simpa using hi) (by simpa [ptAt] using hu)
      exact this ps i hi hu
    exact ⟨hf 0 _ rfl, hf 1 _ rfl, hf 2 _ rfl, hf 3 _ rfl, hf 4 _ rfl, hp _ hmem⟩

end Go.Proofs.Ytgajbehlggikdaa.Sw
