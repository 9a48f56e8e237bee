/- DERIVED. The walk over Scan: what reading gives up with is recovered. -/
import Derived.Test.YtgajbehlggikdaaWdPar
import Derived.Defers
import Derived.Recover
namespace Go.Proofs.Ytgajbehlggikdaa.Wd
open Go.RowKit
open PathM WdM
set_option linter.unusedVariables false

theorem assert_fault (a : Value) (W : World) : (Instr.typeAssert (.iface 80 a) 20 80 true).run Try.prog W = .ok (.tuple #[a, .bool true]) W := by
  have h := Try.underlying80
  simp [Instr.typeAssert, run_underlying h]
theorem catch_idle (b : Nat) (w : World) :
    CallsD Try.prog 37 #[.pointer (some ⟨b, 0, none⟩), .pointer (some ⟨b + 1, 0, none⟩), .pointer (some ⟨b + 2, 0, none⟩)] .returning w fun e u' w' => e = .returned (.tuple #[]) ∧ u' = .returning ∧ w' = w := by
  refine callsD_of_wpS Try.func37 rfl fun c₀ cs hu => ?_
  apply wpS_seq
  apply wpS_region
  simp [wpOpsS, go_sem, recoverD, hu, Try.ntmps37, Exit.thenS]
  refine wpS_of_wp ?_
  go_wp2_with fail
  cases c₀
  simp_all [bodyPostS, results, Try.results37]
set_option maxRecDepth 100000 in
set_option maxHeartbeats 3200000 in
theorem catch_fault (b n : Nat) (er : Int) (older : List PanicEntry) (x4 x5 x6 : Value) (w : World) (h4 : w.cell? ⟨b, 0, none⟩ = some x4) (h5 : w.cell? ⟨b + 1, 0, none⟩ = some x5) (h6 : w.cell? ⟨b + 2, 0, none⟩ = some x6)
    (f4 : w.frozen? ⟨b, 0, none⟩ = false) (f5 : w.frozen? ⟨b + 1, 0, none⟩ = false) (f6 : w.frozen? ⟨b + 2, 0, none⟩ = false) (z6 : b + 2 < w.heap.size) :
    CallsD Try.prog 37 #[.pointer (some ⟨b, 0, none⟩), .pointer (some ⟨b + 1, 0, none⟩), .pointer (some ⟨b + 2, 0, none⟩)] (.panicking ({ v := .iface 80 (.agg #[.int .i64 n, .int .i64 er]), recovered := false } :: older)) w fun e u' w' =>
      e = .returned (.tuple #[]) ∧ u' = .panicking ({ v := .iface 80 (.agg #[.int .i64 n, .int .i64 er]), recovered := true } :: older) ∧ Kept (fun k => k = b ∨ k = b + 1 ∨ k = b + 2) w w' ∧
        w'.cell? ⟨b, 0, none⟩ = some (.slice none 0 0) ∧ w'.cell? ⟨b + 1, 0, none⟩ = some (.int .i64 n) ∧ w'.cell? ⟨b + 2, 0, none⟩ = some (.int .i64 er) := by
  refine callsD_of_wpS Try.func37 rfl fun c₀ cs hu => ?_
  apply wpS_seq
  apply wpS_region
  simp [wpOpsS, go_sem, recoverD, hu, Try.ntmps37, Exit.thenS]
  refine wpS_of_wp ?_
  have e : #[Value.pointer (some ⟨b, 0, none⟩), Value.pointer (some ⟨b + 1, 0, none⟩), Value.pointer (some ⟨b + 2, 0, none⟩)] ++ (Array.replicate 13 undef).setIfInBounds 3 (Value.iface 80 (.agg #[.int .i64 n, .int .i64 er])) =
      #[Value.pointer (some ⟨b, 0, none⟩), Value.pointer (some ⟨b + 1, 0, none⟩), Value.pointer (some ⟨b + 2, 0, none⟩), undef, undef, undef, Value.iface 80 (.agg #[.int .i64 n, .int .i64 er]), undef, undef, undef, undef, undef, undef, undef, undef, undef] := rfl
  rw [e]
  have hta := assert_fault (.agg #[.int .i64 n, .int .i64 er])
  go_wp2_with fail
  clear e hta
  have HKA := Lib.hid (kept_alloc (S := fun k => k = b ∨ k = b + 1 ∨ k = b + 2) w (.cells #[.int .i64 n, .int .i64 er] 80))
  refine wp_gen (fun W => (W.cell? ⟨w.heap.size, 0, none⟩ = some (.int .i64 n) ∧ W.cell? ⟨w.heap.size, 1, none⟩ = some (.int .i64 er)) ∧ W.cell? ⟨b, 0, none⟩ = some x4 ∧ W.cell? ⟨b + 1, 0, none⟩ = some x5 ∧ W.cell? ⟨b + 2, 0, none⟩ = some x6 ∧ W.frozen? ⟨b, 0, none⟩ = false ∧ W.frozen? ⟨b + 1, 0, none⟩ = false ∧ W.frozen? ⟨b + 2, 0, none⟩ = false ∧ w.heap.size < W.heap.size ∧ Kept (fun k => k = b ∨ k = b + 1 ∨ k = b + 2) w W) ?_ ?_
  · have hn := heap_alloc_new w (.cells #[.int .i64 n, .int .i64 er] 80)
    have hf : ∀ p : Addr, p.block < w.heap.size → (w.alloc (.cells #[.int .i64 n, .int .i64 er] 80)).frozen? p = w.frozen? p := fun p hp => World.frozen?_alloc_old w _ p (by omega)
    have hc : ∀ p : Addr, p.block < w.heap.size → (w.alloc (.cells #[.int .i64 n, .int .i64 er] 80)).cell? p = w.cell? p := fun p hp => World.cell?_of_block (Below.heap_alloc w _ _ hp)
    exact ⟨⟨cell_blk hn 0, cell_blk hn 1⟩, (hc _ (by show b < _; omega)).trans h4, (hc _ (by show b + 1 < _; omega)).trans h5, (hc _ (by show b + 2 < _; omega)).trans h6, (hf _ (by show b < _; omega)).trans f4, (hf _ (by show b + 1 < _; omega)).trans f5, (hf _ (by show b + 2 < _; omega)).trans f6, fin_at hn, HKA.out⟩
  clear h4 h5 h6 f4 f5 f6 HKA
  rintro W ⟨⟨c0, c1⟩, h4, h5, h6, f4, f5, f6, hz, hk⟩
  have HK := Lib.hid hk
  clear hk
  generalize w.heap.size = z at *
  have g1 : ¬ b = z := by omega
  have g2 : ¬ b + 1 = z := by omega
  have g3 : ¬ b + 2 = z := by omega
  have y4 : b < W.heap.size := by omega
  have y5 : b + 1 < W.heap.size := by omega
  have y6 : b + 2 < W.heap.size := by omega
  go_region
  go_wp2
  have hw : ∀ (U : World) (c j : Nat) (x u : Value), U.cell? ⟨c, j, none⟩ = some x → (U.setCell ⟨c, j, none⟩ u).cell? ⟨c, j, none⟩ = some u := fun U c j x u h => World.cell?_setCell_same U _ u h
  refine ⟨rfl, _, rfl, .tuple #[], results_none rfl _ _ _, rfl, rfl, (HK.out.trans ((Kept.setCell ⟨b, 0, none⟩ _ (.inl rfl)).trans ((Kept.setCell ⟨b + 1, 0, none⟩ _ (.inr (.inl rfl))).trans (Kept.setCell ⟨b + 2, 0, none⟩ _ (.inr (.inr rfl)))))).trans ⟨rfl, rfl, rfl, Nat.le_refl _, fun _ _ _ => rfl⟩, ?_, ?_, ?_⟩
  · exact (cell_far _ (b + 2) 0 b 0 _ (by omega)).trans ((cell_far _ (b + 1) 0 b 0 _ (by omega)).trans (hw _ _ _ _ _ h4))
  · exact (cell_far _ (b + 2) 0 (b + 1) 0 _ (by omega)).trans (hw _ _ _ _ _ ((cell_far _ b 0 (b + 1) 0 _ (by omega)).trans h5))
  · exact hw _ _ _ _ _ ((cell_far _ (b + 1) 0 (b + 2) 0 _ (by omega)).trans ((cell_far _ b 0 (b + 2) 0 _ (by omega)).trans h6))

/-- Where Scan's results and its reader stand. -/
structure SSt (s : ByteArray) (w W : World) (at_ : Nat) : Prop where
  rd : RdIn W (w.heap.size + 3) s at_ 0
  b4 : W.heap[w.heap.size]? = some (.cells #[.slice none 0 0] 54 (0, 0))
  b5 : W.heap[w.heap.size + 1]? = some (.cells #[.int .i64 0] 3 (0, 0))
  b6 : W.heap[w.heap.size + 2]? = some (.cells #[.int .i64 0] 24 (0, 0))
  below : Below w.heap.size w W
/-- How Scan ends. -/
def ScanPost (s : ByteArray) (at_ : Nat) (w : World) (e : Ending) (w' : World) : Prop :=
  Below w.heap.size w w' ∧ ∃ v l n er, e = .returned (.tuple #[v, .int .i64 (n : Nat), .int .i64 er]) ∧ PNew 17 w.heap.size w' v l ∧ at_ ≤ n ∧ n ≤ s.size ∧
    ((er = 0 ∧ scan (s.data.toList.drop at_) = .ok l (s.data.toList.drop n) ∧ (n = s.size ∨ ∃ h : n < s.size, meta_ s[n] = true)) ∨ (scan (s.data.toList.drop at_) = .bad (s.size - n) er ∧ l = []))
set_option maxRecDepth 100000 in
set_option maxHeartbeats 3200000 in
theorem scan_any (s : ByteArray) (at_ : Nat) (w : World) (hat : at_ ≤ s.size) (hs : s.size ≤ 8192) : Calls Try.prog 32 #[.string s, .int .i64 at_] w (ScanPost s at_ w) := by
  have hmf : ∀ (fn : Fn) (first cap : Array Value) (w : World), (Instr.makeFunc fn first cap).run Try.prog w = .ok (.func fn first cap) w := fun _ _ _ _ => rfl
  go_enter_defers Try.func32, Try.ntmps32
  go_wp2_with fail
  simp only [Nat.add_assoc, Nat.reduceAdd]
  have hz0 : ∃ z, w.heap.size = z := ⟨_, rfl⟩
  refine calls_gen (SSt s w · at_) ?_ ?_
  · have n4 := heap_alloc_new w (.cells #[.slice none 0 0] 54)
    have n5 := heap_alloc_new (w.alloc (.cells #[.slice none 0 0] 54)) (.cells #[.int .i64 0] 3)
    have n6 := heap_alloc_new ((w.alloc (.cells #[.slice none 0 0] 54)).alloc (.cells #[.int .i64 0] 3)) (.cells #[.int .i64 0] 24)
    have n7 := heap_alloc_new (((w.alloc (.cells #[.slice none 0 0] 54)).alloc (.cells #[.int .i64 0] 3)).alloc (.cells #[.int .i64 0] 24)) (.cells #[.string s, .int .i64 at_, .int .i64 0] 82)
    simp only [World.size_alloc, Nat.add_assoc, Nat.reduceAdd] at n5 n6 n7
    refine ⟨?_, ?_, ?_, ?_, ?_⟩
    · exact n7
    · exact (Below.heap_alloc _ _ _ (by simp only [World.size_alloc]; omega)).trans ((Below.heap_alloc _ _ _ (by simp only [World.size_alloc]; omega)).trans ((Below.heap_alloc _ _ _ (by simp only [World.size_alloc]; omega)).trans n4))
    · exact (Below.heap_alloc _ _ _ (by simp only [World.size_alloc]; omega)).trans ((Below.heap_alloc _ _ _ (by simp only [World.size_alloc]; omega)).trans n5)
    · exact (Below.heap_alloc _ _ _ (by simp only [World.size_alloc]; omega)).trans n6
    · exact ((((Below.refl _ _).alloc (Nat.le_refl _) _).alloc (by simp only [World.size_alloc]; omega) _).alloc (by simp only [World.size_alloc]; omega) _).alloc (by simp only [World.size_alloc]; omega) _
  intro W0 hW
  have HW := Lib.hid hW
  clear hW
  have hz3 := fin_at HW.out.rd
  refine (partsOk 16 _ _ asks_meta (w.heap.size + 3) s at_ 0 false W0 HW.out.rd hat hs rfl).mono ?_
  rintro e W1 h9
  rcases h9 with ⟨l, n, hq, hk1, hk2, hex, v, rfl, hv, hr, hk⟩ | ⟨n, er, hq, hk1, hk2, rfl, hk⟩
  · obtain ⟨va, vn, vc, rfl⟩ := hv.form
    have HSC : Hid (scan (s.data.toList.drop at_) = .ok l (s.data.toList.drop n)) := Lib.hid hq
    have HEX := Lib.hid hex
    have HV := Lib.hid (hv.le (z' := w.heap.size + 4) (by omega))
    have m4 := hk.at HW.out.b4 (by omega)
    have m5 := hk.at HW.out.b5 (by omega)
    have m6 := hk.at HW.out.b6 (by omega)
    have HBL := Lib.hid (HW.out.below.trans ((hk.below (B := w.heap.size) (by omega) (fun k e => by omega))))
    have HRD := Lib.hid hr
    clear hq hex hv hk hr
    have hz1 := fin_at m6
    have c4 := cell_blk m4 0
    have c5 := cell_blk m5 0
    have c6 := cell_blk m6 0
    have g4 := froz_blk m4 0
    have g5 := froz_blk m5 0
    have g6 := froz_blk m6 0
    simp at c4 c5 c6
    have r1 := rd_at HRD.out
    have hz2 := rd_lt HRD.out
    have HM4 := Lib.hid m4
    have HM5 := Lib.hid m5
    have HM6 := Lib.hid m6
    clear m4 m5 m6
    go_wp2_with fail
    have HK2 := Lib.hid (Kept.setCell (S := (· = w.heap.size)) (w := W1) ⟨w.heap.size, 0, none⟩ (.slice va vn vc) rfl)
    have d4 := set_blk HM4.out (j := 0) (.slice va vn vc)
    have d5 := HK2.out.at HM5.out (by omega)
    have d6 := HK2.out.at HM6.out (by omega)
    have d7 := HK2.out.at HRD.out (by omega)
    have HB2 := Lib.hid (HBL.out.trans (HK2.out.below (B := w.heap.size) (by omega) (fun k e => by omega)))
    have HV2 := Lib.hid (HV.out.kept HK2.out (fun k e => by omega))
    simp at d4
    clear c4 c5 c6 g4 g5 g6 hz1 r1 hz2 HBL HV HRD HM4 HM5 HM6 HK2
    generalize W1.setCell ⟨w.heap.size, 0, none⟩ (.slice va vn vc) = W2 at *
    have HM4 := Lib.hid d4
    have HM5 := Lib.hid d5
    have HM6 := Lib.hid d6
    have c4 := cell_blk d4 0
    have c5 := cell_blk d5 0
    have c6 := cell_blk d6 0
    have g4 := froz_blk d4 0
    have g5 := froz_blk d5 0
    have g6 := froz_blk d6 0
    simp at c4 c5 c6
    have r1 := rd_at d7
    have hz1 := fin_at d6
    have hz2 := rd_lt d7
    clear d4 d5 d6 d7
    go_region
    go_wp2
    have d4 : ((((W2.setCell ⟨w.heap.size, 0, none⟩ (.slice va vn vc)).setCell ⟨w.heap.size + 1, 0, none⟩ (.int .i64 n)).setCell ⟨w.heap.size + 2, 0, none⟩ (.int .i64 0)).drew).heap[w.heap.size]? = some (.cells #[.slice va vn vc] 54 (0, 0)) :=
      set_far (set_far (set_blk HM4.out (j := 0) (.slice va vn vc)) (by omega) _) (by omega) _
    have d5 : ((((W2.setCell ⟨w.heap.size, 0, none⟩ (.slice va vn vc)).setCell ⟨w.heap.size + 1, 0, none⟩ (.int .i64 n)).setCell ⟨w.heap.size + 2, 0, none⟩ (.int .i64 0)).drew).heap[w.heap.size + 1]? = some (.cells #[.int .i64 n] 3 (0, 0)) :=
      set_far (set_blk (set_far HM5.out (by omega) _) (j := 0) (.int .i64 n)) (by omega) _
    have d6 : ((((W2.setCell ⟨w.heap.size, 0, none⟩ (.slice va vn vc)).setCell ⟨w.heap.size + 1, 0, none⟩ (.int .i64 n)).setCell ⟨w.heap.size + 2, 0, none⟩ (.int .i64 0)).drew).heap[w.heap.size + 2]? = some (.cells #[.int .i64 0] 24 (0, 0)) :=
      set_blk (set_far (set_far HM6.out (by omega) _) (by omega) _) (j := 0) (.int .i64 0)
    have hk3 : Kept (fun k => w.heap.size ≤ k ∧ k < w.heap.size + 4) W2 (((W2.setCell ⟨w.heap.size, 0, none⟩ (.slice va vn vc)).setCell ⟨w.heap.size + 1, 0, none⟩ (.int .i64 n)).setCell ⟨w.heap.size + 2, 0, none⟩ (.int .i64 0)).drew :=
      (Kept.setCell ⟨w.heap.size, 0, none⟩ _ (by simp only; omega)).trans ((Kept.setCell ⟨w.heap.size + 1, 0, none⟩ _ (by simp only; omega)).trans ((Kept.setCell ⟨w.heap.size + 2, 0, none⟩ _ (by simp only; omega)).trans ⟨rfl, rfl, rfl, Nat.le_refl _, fun _ _ _ => rfl⟩))
    have HB3 := Lib.hid (HB2.out.trans (hk3.below (B := w.heap.size) (by omega) (fun k e => e.1)))
    have HV3 := Lib.hid ((HV2.out.kept hk3 (fun k e => e.2)).le (z' := w.heap.size) (by omega))
    clear hk3 HV2 HB2 c4 c5 c6 g4 g5 g6 r1 hz1 hz2 HM4 HM5 HM6
    generalize (((W2.setCell ⟨w.heap.size, 0, none⟩ (.slice va vn vc)).setCell ⟨w.heap.size + 1, 0, none⟩ (.int .i64 n)).setCell ⟨w.heap.size + 2, 0, none⟩ (.int .i64 0)).drew = W3 at *
    have c4 := cell_blk d4 0
    have c5 := cell_blk d5 0
    have c6 := cell_blk d6 0
    simp at c4 c5 c6
    refine leaves_cons (f := 37) (args := #[.pointer (some ⟨w.heap.size, 0, none⟩), .pointer (some ⟨w.heap.size + 1, 0, none⟩), .pointer (some ⟨w.heap.size + 2, 0, none⟩)]) (by simp) (by simp [go_sem]) ?_
    refine (catch_idle w.heap.size _).mono ?_
    rintro e u' w'' ⟨rfl, rfl, rfl⟩
    simp [Leaves, settle, results, Try.results32, go_sem, c4, c5, c6]
    exact ⟨HB3.out, _, l, n, 0, rfl, HV3.out, hk1, hk2, .inl ⟨rfl, HSC.out, HEX.out⟩⟩
  · have HSC : Hid (scan (s.data.toList.drop at_) = .bad (s.size - n) er) := Lib.hid hq
    have m4 := hk.at HW.out.b4 (by omega)
    have m5 := hk.at HW.out.b5 (by omega)
    have m6 := hk.at HW.out.b6 (by omega)
    have HBL := Lib.hid (HW.out.below.trans ((hk.below (B := w.heap.size) (by omega) (fun k e => by omega))))
    clear hq hk
    have hz1 := fin_at m6
    have c4 := cell_blk m4 0
    have c5 := cell_blk m5 0
    have c6 := cell_blk m6 0
    have g4 := froz_blk m4 0
    have g5 := froz_blk m5 0
    have g6 := froz_blk m6 0
    simp at c4 c5 c6
    clear m4 m5 m6
    simp only [flt]
    go_wp2
    refine leaves_cons (f := 37) (args := #[.pointer (some ⟨w.heap.size, 0, none⟩), .pointer (some ⟨w.heap.size + 1, 0, none⟩), .pointer (some ⟨w.heap.size + 2, 0, none⟩)]) (by simp) (by simp [go_sem]) ?_
    refine (catch_fault w.heap.size n er [] _ _ _ W1 c4 c5 c6 g4 g5 g6 hz1).mono ?_
    rintro e u' w'' ⟨rfl, rfl, hk, d4, d5, d6⟩
    have HB3 := Lib.hid (HBL.out.trans (hk.below (B := w.heap.size) (by omega) (fun k e => by omega)))
    clear hk c4 c5 c6 g4 g5 g6
    simp [Leaves, settle, results, Try.results32, go_sem, d4, d5, d6]
    exact ⟨HB3.out, _, [], n, er, rfl, PNew.nil _ _ _, hk1, hk2, .inr ⟨HSC.out, rfl⟩⟩
set_option maxRecDepth 100000 in
/-- A text that is too long. -/
theorem scan_long (s : ByteArray) (at_ : Nat) (w : World) (hat : at_ ≤ s.size) (hs : 8192 < s.size) (hm : s.size ≤ maxLen) : Calls Try.prog 32 #[.string s, .int .i64 at_] w fun e w' => e = .returned (.tuple #[.slice none 0 0, .int .i64 0, .int .i64 1]) ∧ Below w.heap.size w w' := by
  unfold maxLen at hm
  go_enter_defers Try.func32, Try.ntmps32
  go_wp2_with fail
  have n4 := heap_alloc_new w (.cells #[.slice none 0 0] 54)
  have n5 := heap_alloc_new (w.alloc (.cells #[.slice none 0 0] 54)) (.cells #[.int .i64 0] 3)
  have n6 := heap_alloc_new ((w.alloc (.cells #[.slice none 0 0] 54)).alloc (.cells #[.int .i64 0] 3)) (.cells #[.int .i64 1] 24)
  simp only [World.size_alloc] at n5 n6
  have m4 := (Below.heap_alloc ((w.alloc (.cells #[.slice none 0 0] 54)).alloc (.cells #[.int .i64 0] 3)) (.cells #[.int .i64 1] 24) w.heap.size (by simp only [World.size_alloc]; omega)).trans ((Below.heap_alloc _ (.cells #[.int .i64 0] 3) _ (by simp only [World.size_alloc]; omega)).trans n4)
  have m5 := (Below.heap_alloc ((w.alloc (.cells #[.slice none 0 0] 54)).alloc (.cells #[.int .i64 0] 3)) (.cells #[.int .i64 1] 24) (w.heap.size + 1) (by simp only [World.size_alloc]; omega)).trans n5
  have hb : Below w.heap.size w (((w.alloc (.cells #[.slice none 0 0] 54)).alloc (.cells #[.int .i64 0] 3)).alloc (.cells #[.int .i64 1] 24)) := (((Below.refl _ _).alloc (Nat.le_refl _) _).alloc (by simp only [World.size_alloc]; omega) _).alloc (by simp only [World.size_alloc]; omega) _
  generalize (((w.alloc (.cells #[.slice none 0 0] 54)).alloc (.cells #[.int .i64 0] 3)).alloc (.cells #[.int .i64 1] 24)) = W at *
  have c4 := cell_blk m4 0
  have c5 := cell_blk m5 0
  have c6 := cell_blk n6 0
  simp at c4 c5 c6
  simp [bodyPostD, Leaves, results, Try.results32, go_sem, c4, c5, c6]
  exact hb

end Go.Proofs.Ytgajbehlggikdaa.Wd
