/- DERIVED. Stage 5, several texts in one: VtAwake VtOpenA VtLaw1. -/
import Derived.Test.YtkmnbbocahjmaaaGreatDoorVtC
import Derived.Test.YtkmnbbocahjmaaaGreatDoorTreeLaw2
import Derived.Test.YtkmnbbocahjmaaaGreatDoorTreeOpen
import Derived.Test.YtkmnbbocahjmaaaGreatDoorVtN
import Derived.Deep.LoopGhost
import Derived.Test.YtkmnbbocahjmaaaGreatDoorTreeRSame2
section
namespace Go.Proofs.YtkmnbbocahjmaaaGreatDoor
open Go.RowKit Go.Sort Go.Lib Go.Shelf
open PathM TreeM VtM
set_option linter.unusedVariables false
attribute [local go_sem] cell_rg
attribute [local go_sem] cell_off
attribute [local go_sem] cell_far
theorem ok0 : FsOk 10 newF := by
  refine ⟨by unfold newF Rise; simp, ?_, ?_, ?_, ?_, by unfold newF; simp, by unfold newF; simp, by unfold newF I64; simp, by unfold newF I64; simp, by decide +kernel, ?_, ?_, ?_⟩
  all_goals intro n hn; simp [newF] at hn; subst hn
  · intro i j hij hj; simp at hj
  · simp
  · unfold I64 newF; simp
  · simp
  · intro e he; simp at he
  · simp
  · simp
theorem ok1 : FsOk 12 aw1 := keep_mkdir ok0 (by omega) _ _
theorem ok2 : FsOk 14 aw2 := keep_write ok1 (by omega) _ _ _
theorem ok3 : FsOk 16 aw3 := keep_symlink ok2 (by omega) _ _
theorem ok4 : FsOk 18 aw4 := keep_unlink ok3 _
theorem aw_mkdir (fb db mb : Nat) (W : World) (h : Sys W fb db mb 10 newF) : Calls Tryz.prog 19 #[.pointer (some ⟨fb, 0, none⟩), .string ⟨#[47, 97]⟩, .int .i64 493] W fun e w' => e = .returned (.int .i64 0) ∧ Live w' fb db mb aw1 ∧ Kept (Own3 fb db mb) W w' := by
  have := mkdir_any fb db mb ⟨#[47, 97]⟩ 493 W h (by decide) (by omega)
  unfold WroteP at this
  rw [show (mkdirF newF (⟨#[47, 97]⟩ : ByteArray).data.toList 493) = (aw1, 0) from by decide +kernel] at this
  exact this
theorem aw_write (fb db mb : Nat) (W : World) (h : Sys W fb db mb 12 aw1) : Calls Tryz.prog 13 #[.pointer (some ⟨fb, 0, none⟩), .string ⟨#[47, 97, 47, 102]⟩, .string ⟨#[120]⟩, .int .i64 1] W fun e w' => e = .returned (.int .i64 0) ∧ Live w' fb db mb aw2 ∧ Kept (Own3 fb db mb) W w' := by
  have := write_new fb db mb ⟨#[47, 97, 47, 102]⟩ ⟨#[120]⟩ 1 W h (by decide) (by omega) (by decide) (by decide) (a := ⟨[1, 2], [102], 0, false⟩) (by kernel_rfl) rfl rfl (by decide)
  unfold WroteP at this
  rw [show (writeF aw1 (⟨#[47, 97, 47, 102]⟩ : ByteArray).data.toList (⟨#[120]⟩ : ByteArray).data.toList 1) = (aw2, 0) from by decide +kernel] at this
  exact this
theorem aw_symlink (fb db mb : Nat) (W : World) (h : Sys W fb db mb 14 aw2) : Calls Tryz.prog 17 #[.pointer (some ⟨fb, 0, none⟩), .string ⟨#[97, 47, 102]⟩, .string ⟨#[47, 108]⟩] W fun e w' => e = .returned (.int .i64 0) ∧ Live w' fb db mb aw3 ∧ Kept (Own3 fb db mb) W w' := by
  have := symlink_any fb db mb ⟨#[97, 47, 102]⟩ ⟨#[47, 108]⟩ W h (by decide) (by omega)
  unfold WroteP at this
  rw [show (symlinkF aw2 (⟨#[97, 47, 102]⟩ : ByteArray).data.toList (⟨#[47, 108]⟩ : ByteArray).data.toList) = (aw3, 0) from by decide +kernel] at this
  exact this
theorem aw_read3 (fb db mb : Nat) (W : World) (h : Sys W fb db mb 16 aw3) : Calls Tryz.prog 12 #[.pointer (some ⟨fb, 0, none⟩), .string ⟨#[47, 108]⟩] W fun e w' => e = .returned (.tuple #[.string ⟨#[120]⟩, .int .i64 0]) ∧ Below W.heap.size W w' := by
  have := read_any fb db mb ⟨#[47, 108]⟩ W h (by decide)
  rw [show (readF aw3 (⟨#[47, 108]⟩ : ByteArray).data.toList) = ([120], 0) from by decide +kernel] at this
  exact this
theorem aw_rename (fb db mb : Nat) (W : World) (h : Sys W fb db mb 16 aw3) : Calls Tryz.prog 24 #[.pointer (some ⟨fb, 0, none⟩), .string ⟨#[47, 97]⟩, .string ⟨#[47, 97, 47, 98]⟩] W fun e w' => e = .returned (.int .i64 28) ∧ Below W.heap.size W w' :=
  rename_in fb db mb ⟨#[47, 97]⟩ ⟨#[47, 97, 47, 98]⟩ W h (by decide) (by decide) (a := ⟨[1], [97], 2, false⟩) (b := ⟨[1, 2], [98], 0, false⟩) (by kernel_rfl) (by kernel_rfl) (by decide) (by decide)
theorem aw_rmdir (fb db mb : Nat) (W : World) (h : Sys W fb db mb 16 aw3) : Calls Tryz.prog 21 #[.pointer (some ⟨fb, 0, none⟩), .string ⟨#[47, 97]⟩] W fun e w' => e = .returned (.int .i64 24) ∧ Live w' fb db mb aw3 ∧ Kept (Own3 fb db mb) W w' := by
  have := rmdir_any fb db mb ⟨#[47, 97]⟩ W h (by decide) (by omega)
  unfold WroteP at this
  rw [show (rmdirF aw3 (⟨#[47, 97]⟩ : ByteArray).data.toList) = (aw3, 24) from by decide +kernel] at this
  exact this
theorem aw_unlink (fb db mb : Nat) (W : World) (h : Sys W fb db mb 16 aw3) : Calls Tryz.prog 18 #[.pointer (some ⟨fb, 0, none⟩), .string ⟨#[47, 108]⟩] W fun e w' => e = .returned (.int .i64 0) ∧ Live w' fb db mb aw4 ∧ Kept (Own3 fb db mb) W w' := by
  have := unlink_any fb db mb ⟨#[47, 108]⟩ W h (by decide) (by omega)
  unfold WroteP at this
  rw [show (unlinkF aw3 (⟨#[47, 108]⟩ : ByteArray).data.toList) = (aw4, 0) from by decide +kernel] at this
  exact this
theorem aw_read4 (fb db mb : Nat) (W : World) (h : Sys W fb db mb 18 aw4) : Calls Tryz.prog 12 #[.pointer (some ⟨fb, 0, none⟩), .string ⟨#[47, 108]⟩] W fun e w' => e = .returned (.tuple #[.string { data := #[] }, .int .i64 20]) ∧ Below W.heap.size W w' := by
  have := read_any fb db mb ⟨#[47, 108]⟩ W h (by decide)
  rw [show (readF aw4 (⟨#[47, 108]⟩ : ByteArray).data.toList) = ([], 20) from by decide +kernel] at this
  exact this
theorem aw_clock (fb db mb : Nat) (W : World) (h : Live W fb db mb aw4) : Calls Tryz.prog 15 #[.pointer (some ⟨fb, 0, none⟩)] W fun e w' => e = .returned (.int .i64 9) ∧ W = w' := by
  have := clock_any fb db mb aw4 W h
  rw [show aw4.ck = 9 from by decide +kernel] at this
  exact this
theorem aw_tree (fb db mb : Nat) (W : World) (h : Sys W fb db mb 18 aw4) : Calls Tryz.prog 23 #[.pointer (some ⟨db, 0, none⟩)] W fun e w' => (∃ A c l r b, e = .returned (.agg #[.slice A 3 c, .int .i64 l, .int .i64 r, .int .i64 b])) ∧ Below W.heap.size W w' := by
  obtain ⟨ev, hd⟩ := h.live.disk
  have hl : aw4.t.nodes.length = 3 := by decide +kernel
  refine (tree5_any db mb aw4.t ev W hd ok4.rise (by omega) (by omega) ok4.data).mono ?_
  rintro e w' ⟨nv, rfl, ⟨A, c, rfl, -⟩, hb⟩
  rw [hl]
  exact ⟨⟨_, _, _, _, _, rfl⟩, hb⟩
set_option maxRecDepth 100000 in
theorem room5_any (w : World) : Calls Tryz.prog 38 #[] w fun e w' => e = .returned (.agg #[.int .i64 30, .int .i64 500]) ∧ Below w.heap.size w w' := by
  go_enter Tryz.func38, Tryz.ntmps38
  go_wp2
  refine bodyPost_ret (results_cell_row rfl _ _ _ 24 _ (0, 0) _ rfl (heap_alloc_new w _) Tryz.underlying24 rfl (by kernel_rfl)) rfl ?_
  exact ⟨rfl, (Below.refl _ _).alloc (Nat.le_refl _) _⟩
theorem aw_open (nv : Value) (W : World) (hN : NodesIn W W.heap.size nv (newT 30 500).nodes) : Calls Tryz.prog 36 #[trV nv (newT 30 500), .int .i64 5] W fun e w' => ∃ fb db mb, e = .returned (.tuple #[.pointer (some ⟨fb, 0, none⟩), .pointer (some ⟨db, 0, none⟩), .int .i64 0]) ∧ W.heap.size ≤ fb ∧ W.heap.size ≤ db ∧ W.heap.size ≤ mb ∧ Live w' fb db mb newF ∧ Below W.heap.size W w' := by
  have := open5_any nv (newT 30 500) 5 W hN (by decide +kernel) (by intro n hn; simp [newT] at hn; subst hn; unfold i64; simp) (by intro n hn; simp [newT] at hn; subst hn; simp) (by intro n hn; simp [newT] at hn; subst hn; simp)
  unfold OpenPost at this
  exact this
theorem Kept.below3 {w W W' : World} {fb db mb : Nat} (hb : Below w.heap.size w W) (hf : w.heap.size ≤ fb ∧ w.heap.size ≤ db ∧ w.heap.size ≤ mb) (hk : Kept (Own3 fb db mb) W W') : Below w.heap.size w W' :=
  hb.trans (hk.below hb.size (fun k hs => by rcases hs with e | e | e <;> omega))
theorem field_nodes (a1 a2 a3 : Int) (A : Option Addr) (n c : Nat) (w : World) : Sem.run Tryz.prog (Instr.field 26 (.agg #[.slice A n c, .int .i64 a1, .int .i64 a2, .int .i64 a3]) 0) w = .ok (.slice A n c) w := by kernel_rfl
set_option maxRecDepth 100000 in
set_option maxHeartbeats 4000000 in
theorem awake5_any (w : World) (hM : ∃ m, w.cell? ⟨0, 0, none⟩ = some (.int .i64 m)) : Calls Tryz.prog 10 #[] w fun e w' => e = .returned (.bool true) ∧ Below w.heap.size w w' := by
  have HM := Lib.hid hM
  have hfn := field_nodes
  clear hM
  go_enter Tryz.func10, Tryz.ntmps10
  go_wp2_with (first | (go_at_call 38; (with_reducible refine (room5_any _).mono ?_); rintro e w1 ⟨rfl, hb1⟩; have HB1 := Lib.hid hb1; clear hb1) | (go_at_call 37; (with_reducible refine (rnew_any 30 500 _).mono ?_); rintro e w2 ⟨nv, rfl, hN, hb2⟩; have HB2 := Lib.hid (HB1.out.trans (hb2.mono HB1.out.size)); have HN := Lib.hid hN; clear hb2 hN) | (go_at_call 36; (refine (aw_open _ _ HN.out).mono ?_); rintro e w3 ⟨fb, db, mb, rfl, h1, h2, h3, hl, hb3⟩; have HF := Lib.hid (show w.heap.size ≤ fb ∧ w.heap.size ≤ db ∧ w.heap.size ≤ mb from ⟨Nat.le_trans HB2.out.size h1, Nat.le_trans HB2.out.size h2, Nat.le_trans HB2.out.size h3⟩); have HB3 := Lib.hid (HB2.out.trans (hb3.mono HB2.out.size)); have HS3 : Hid (Sys w3 fb db mb 10 newF) := Lib.hid (by obtain ⟨m, hm⟩ := HM.out; exact ⟨hl, ok0, m, (HB3.out.cell (p := ⟨0, 0, none⟩) (cell_lt hm)).trans hm⟩); clear h1 h2 h3 hl hb3) | (go_at_call 19; (with_reducible refine (aw_mkdir _ _ _ _ HS3.out).mono ?_); rintro e w4 ⟨rfl, hl, hk⟩; have HS4 := Lib.hid (HS3.out.wrote hl hk ok1); have HB4 := Lib.hid (Kept.below3 HB3.out HF.out hk); clear hl hk) | (go_at_call 13; (with_reducible refine (aw_write _ _ _ _ HS4.out).mono ?_); rintro e w5 ⟨rfl, hl, hk⟩; have HS5 := Lib.hid (HS4.out.wrote hl hk ok2); have HB5 := Lib.hid (Kept.below3 HB4.out HF.out hk); clear hl hk) | (go_at_call 17; (with_reducible refine (aw_symlink _ _ _ _ HS5.out).mono ?_); rintro e w6 ⟨rfl, hl, hk⟩; have HS6 := Lib.hid (HS5.out.wrote hl hk ok3); have HB6 := Lib.hid (Kept.below3 HB5.out HF.out hk); clear hl hk) | (go_at_call 12; (with_reducible refine (aw_read3 _ _ _ _ HS6.out).mono ?_); rintro e w7 ⟨rfl, hb⟩; have HS7 := Lib.hid (HS6.out.below hb); have HB7 := Lib.hid (HB6.out.trans (hb.mono HB6.out.size)); clear hb) | (go_at_call 24; (with_reducible refine (aw_rename _ _ _ _ HS7.out).mono ?_); rintro e w8 ⟨rfl, hb⟩; have HS8 := Lib.hid (HS7.out.below hb); have HB8 := Lib.hid (HB7.out.trans (hb.mono HB7.out.size)); clear hb) | (go_at_call 21; (with_reducible refine (aw_rmdir _ _ _ _ HS8.out).mono ?_); rintro e w9 ⟨rfl, hl, hk⟩; have HS9 := Lib.hid (HS8.out.wrote hl hk ok3); have HB9 := Lib.hid (Kept.below3 HB8.out HF.out hk); clear hl hk) | (go_at_call 18; (with_reducible refine (aw_unlink _ _ _ _ HS9.out).mono ?_); rintro e w10 ⟨rfl, hl, hk⟩; have HS10 := Lib.hid (HS9.out.wrote hl hk ok4); have HB10 := Lib.hid (Kept.below3 HB9.out HF.out hk); clear hl hk) | (go_at_call 15; (with_reducible refine (aw_clock _ _ _ _ HS10.out.live).mono ?_); rintro e w11 ⟨rfl, rfl⟩) | (go_at_call 12; (with_reducible refine (aw_read4 _ _ _ _ HS10.out).mono ?_); rintro e w12 ⟨rfl, hb⟩; have HS12 := Lib.hid (HS10.out.below hb); have HB12 := Lib.hid (HB10.out.trans (hb.mono HB10.out.size)); clear hb) | (go_at_call 23; (with_reducible refine (aw_tree _ _ _ _ HS12.out).mono ?_); rintro e w13 ⟨⟨A, c, l, r, b, rfl⟩, hb⟩; have HB13 := Lib.hid (HB12.out.trans (hb.mono HB12.out.size)); clear hb))
  go_ret
  exact ⟨rfl, HB13.out⟩
end Go.Proofs.YtkmnbbocahjmaaaGreatDoor
end

section
namespace Go.Proofs.YtkmnbbocahjmaaaGreatDoor
open Go.RowKit Go.WideShapes Go.ChangeShapes
set_option linter.unusedVariables false
set_option maxRecDepth 100000
variable {H : Type} {enc : TypeId × Value → H} {W : World}
theorem act_open {b0 : Nat} {v : Value} {d : DataW H} {p : List MemPlace} (hv : Value.okWide Tryz.prog W .any b0 78 v) (h : DataW.Trod enc Tryz.prog W 0 (fun _ => true) true 78 v d p) :
    ∃ (kind how : Int) (pa tx : ByteArray), v = .agg #[.int .i64 kind, .string pa, .string tx, .int .i64 how] := by
  obtain ⟨cs, rfl, hsz⟩ := okWide_struct Tryz.underlying78 hv
  obtain ⟨l⟩ := cs
  have z24 : Tryz.prog.cellsOf 78 = 4 := by kernel_rfl
  rw [z24] at hsz
  have hsz : l.length = 4 := by simpa using hsz
  obtain ⟨c0, c1, c2, c3, rfl⟩ := four_of hsz
  obtain ⟨fuel, hf⟩ := h
  obtain ⟨ys, n', _, _, _, hyl, hg⟩ := DataW.trod_struct Tryz.underlying78 hf
  obtain ⟨y0, y1, y2, y3, rfl⟩ := four_of hyl
  have z3 : Tryz.prog.cellsOf 3 = 1 := by kernel_rfl
  have z9 : Tryz.prog.cellsOf 9 = 1 := by kernel_rfl
  have i0 : DataW.trod enc Tryz.prog W 0 (fun _ => true) true n' 3 (([c0, c1, c2, c3].drop 0).take (Tryz.prog.cellsOf 3)) = some y0 := hg 0 _ rfl
  have i1 : DataW.trod enc Tryz.prog W 0 (fun _ => true) true n' 9 (([c0, c1, c2, c3].drop 1).take (Tryz.prog.cellsOf 9)) = some y1 := hg 1 _ rfl
  have i2 : DataW.trod enc Tryz.prog W 0 (fun _ => true) true n' 9 (([c0, c1, c2, c3].drop 2).take (Tryz.prog.cellsOf 9)) = some y2 := hg 2 _ rfl
  have i3 : DataW.trod enc Tryz.prog W 0 (fun _ => true) true n' 3 (([c0, c1, c2, c3].drop 3).take (Tryz.prog.cellsOf 3)) = some y3 := hg 3 _ rfl
  rw [z3] at i0 i3
  rw [z9] at i1 i2
  obtain ⟨k0, e0, _, _⟩ := DataW.trod_int Tryz.underlying3 i0
  obtain ⟨k3, e3, _, _⟩ := DataW.trod_int Tryz.underlying3 i3
  obtain ⟨s1, e1, _, _⟩ := DataW.trod_string Tryz.underlying9 i1
  obtain ⟨s2, e2, _, _⟩ := DataW.trod_string Tryz.underlying9 i2
  obtain rfl : c0 = .int .i64 k0 := (List.cons.inj e0).1
  obtain rfl : c3 = .int .i64 k3 := (List.cons.inj e3).1
  obtain rfl : c1 = .string s1 := (List.cons.inj e1).1
  obtain rfl : c2 = .string s2 := (List.cons.inj e2).1
  exact ⟨k0, k3, s1, s2, rfl⟩
end Go.Proofs.YtkmnbbocahjmaaaGreatDoor
end

section
namespace Go.Proofs.YtkmnbbocahjmaaaGreatDoor
open Go.RowKit Go.Sort Go.Lib Go.Shelf
open PathM TreeM VtM
set_option linter.unusedVariables false
attribute [local go_sem] cell_rg
attribute [local go_sem] cell_off
attribute [local go_sem] cell_far
set_option maxRecDepth 100000 in
set_option maxHeartbeats 2000000 in
theorem does_no (kind how : Int) (pa tx : ByteArray) (w : World) (p : Value) (h : Nobody w p) (hk : 1 ≤ kind ∧ kind ≤ 9) :
    Calls Tryz.prog 35 #[p, .agg #[.int .i64 kind, .string pa, .string tx, .int .i64 how]] w fun e w' => e = .returned (.int .i64 3) ∧ Below w.heap.size w w' := by
  have HN := Lib.hid (fun W (hW : Below w.heap.size w W) => h.below hW)
  clear h
  have hc : kind = 1 ∨ kind = 2 ∨ kind = 3 ∨ kind = 4 ∨ kind = 5 ∨ kind = 6 ∨ kind = 7 ∨ kind = 8 ∨ kind = 9 := by omega
  clear hk
  rcases hc with rfl | rfl | rfl | rfl | rfl | rfl | rfl | rfl | rfl
  all_goals
    have HB : Hid (∀ O, Below w.heap.size w (w.alloc O)) := Lib.hid (fun O => (Below.refl w.heap.size w).alloc (Nat.le_refl _) O)
    go_enter Tryz.func35, Tryz.ntmps35
    go_wp2_with (first | (go_at_call 13; (with_reducible refine (write_no pa tx how _ p (HN.out _ (HB.out _))).mono ?_); rintro e w1 ⟨rfl, hb1⟩; have HB1 := Lib.hid ((HB.out _).trans (hb1.mono (HB.out _).size)); clear hb1) | (go_at_call 19; (with_reducible refine (mkdir_no pa how _ p (HN.out _ (HB.out _))).mono ?_); rintro e w1 ⟨rfl, hb1⟩; have HB1 := Lib.hid ((HB.out _).trans (hb1.mono (HB.out _).size)); clear hb1) | (go_at_call 17; (with_reducible refine (symlink_no tx pa _ p (HN.out _ (HB.out _))).mono ?_); rintro e w1 ⟨rfl, hb1⟩; have HB1 := Lib.hid ((HB.out _).trans (hb1.mono (HB.out _).size)); clear hb1) | (go_at_call 22; (with_reducible refine (link_no pa tx _ p (HN.out _ (HB.out _))).mono ?_); rintro e w1 ⟨rfl, hb1⟩; have HB1 := Lib.hid ((HB.out _).trans (hb1.mono (HB.out _).size)); clear hb1) | (go_at_call 21; (with_reducible refine (rmdir_no pa _ p (HN.out _ (HB.out _))).mono ?_); rintro e w1 ⟨rfl, hb1⟩; have HB1 := Lib.hid ((HB.out _).trans (hb1.mono (HB.out _).size)); clear hb1) | (go_at_call 18; (with_reducible refine (unlink_no pa _ p (HN.out _ (HB.out _))).mono ?_); rintro e w1 ⟨rfl, hb1⟩; have HB1 := Lib.hid ((HB.out _).trans (hb1.mono (HB.out _).size)); clear hb1) | (go_at_call 24; (with_reducible refine (rename_no pa tx _ p (HN.out _ (HB.out _))).mono ?_); rintro e w1 ⟨rfl, hb1⟩; have HB1 := Lib.hid ((HB.out _).trans (hb1.mono (HB.out _).size)); clear hb1) | (go_at_call 73; (with_reducible refine (chmod_no pa how _ p (HN.out _ (HB.out _))).mono ?_); rintro e w1 ⟨rfl, hb1⟩; have HB1 := Lib.hid ((HB.out _).trans (hb1.mono (HB.out _).size)); clear hb1) | (go_at_call 74; (with_reducible refine (touch_no pa _ p (HN.out _ (HB.out _))).mono ?_); rintro e w1 ⟨rfl, hb1⟩; have HB1 := Lib.hid ((HB.out _).trans (hb1.mono (HB.out _).size)); clear hb1))
    go_ret
    exact ⟨rfl, HB1.out⟩
/-- What the law holds between two rounds: the act's box, the list of the two. -/
structure NB (w : World) (kind how : Int) (pa tx : ByteArray) (fz sb : Nat) (W : World) : Prop where
  below : Below w.heap.size w W
  act : W.heap[w.heap.size]? = some (.cells #[.int .i64 kind, .string pa, .string tx, .int .i64 how] 78 (0, 0))
  zero : W.heap[fz]? = some (.cells #[.nilIface, .int .i64 0] 82 (0, 0))
  list : W.heap[sb]? = some (.cells #[.pointer none, .pointer (some ⟨fz, 0, none⟩)] 30 (0, 0))
theorem NB.next {w W W' : World} {kind how : Int} {pa tx : ByteArray} {fz sb : Nat} (h : NB w kind how pa tx fz sb W) (hb : Below W.heap.size W W') : NB w kind how pa tx fz sb W' :=
  ⟨h.below.trans (hb.mono h.below.size), (hb.block _ (blk_lt h.act)).trans h.act, (hb.block _ (blk_lt h.zero)).trans h.zero, (hb.block _ (blk_lt h.list)).trans h.list⟩
theorem NB.nobody {w W : World} {kind how : Int} {pa tx : ByteArray} {fz sb : Nat} (h : NB w kind how pa tx fz sb W) (p : Value) (hp : p = .pointer none ∨ p = .pointer (some ⟨fz, 0, none⟩)) : Nobody W p := by
  rcases hp with e | e
  · exact .inl e
  · exact .inr ⟨fz, blk_lt h.zero, e, (cell_blk h.zero 0).trans rfl⟩
theorem nodes_nil5 (W : World) (B : Nat) : NodesIn W B (.slice none 0 0) [] := ⟨none, 0, rfl, Nat.le_refl _, by simp, fun h => absurd rfl h⟩
theorem exact_nil (W : World) : Calls Tryz.prog 25 #[.agg #[.slice none 0 0, .int .i64 0, .int .i64 0, .int .i64 0], .agg #[.slice none 0 0, .int .i64 0, .int .i64 0, .int .i64 0]] W fun e w' => e = .returned (.bool true) ∧ Below W.heap.size W w' := by
  have := rexact_any (.slice none 0 0) (.slice none 0 0) ⟨[], 0, 0, 0⟩ ⟨[], 0, 0, 0⟩ W.heap.size W (nodes_nil5 _ _) (nodes_nil5 _ _) (Nat.le_refl _)
  unfold BelowB at this
  exact this
set_option maxRecDepth 100000 in
set_option maxHeartbeats 4000000 in
theorem nobody_row (kind how : Int) (pa tx : ByteArray) (follow : Bool) (w : World) (hM : ∃ m, w.cell? ⟨0, 0, none⟩ = some (.int .i64 m)) :
    Calls Tryz.prog 8 #[.agg #[.int .i64 kind, .string pa, .string tx, .int .i64 how], .bool follow] w fun e w' => e = .returned (.bool true) ∧ Below w.heap.size w w' := by
  have HM := Lib.hid hM
  clear hM
  have hb0 := (((Below.refl w.heap.size w).alloc (Nat.le_refl _) (.cells #[.int .i64 kind, .string pa, .string tx, .int .i64 how] 78)).alloc (by simp) (.cells #[.nilIface, .int .i64 0] 82)).alloc (by simp; omega) (.cells #[.pointer none, .pointer (some ⟨w.heap.size + 1, 0, none⟩)] 30)
  have HN0 : Hid (NB w kind how pa tx (w.heap.size + 1) (w.heap.size + 1 + 1) (((w.alloc (.cells #[.int .i64 kind, .string pa, .string tx, .int .i64 how] 78)).alloc (.cells #[.nilIface, .int .i64 0] 82)).alloc (.cells #[.pointer none, .pointer (some ⟨w.heap.size + 1, 0, none⟩)] 30))) := by
    refine Lib.hid ⟨hb0, ?_, ?_, ?_⟩
    · exact (heap_alloc_old _ _ (by simp; omega)).trans ((heap_alloc_old _ _ (by simp)).trans (heap_alloc_new w _))
    · have := heap_alloc_new (w.alloc (.cells #[.int .i64 kind, .string pa, .string tx, .int .i64 how] 78)) (.cells #[.nilIface, .int .i64 0] 82)
      rw [show (w.alloc (.cells #[.int .i64 kind, .string pa, .string tx, .int .i64 how] 78)).heap.size = w.heap.size + 1 from by simp] at this
      exact (heap_alloc_old _ _ (by simp)).trans this
    · have := heap_alloc_new ((w.alloc (.cells #[.int .i64 kind, .string pa, .string tx, .int .i64 how] 78)).alloc (.cells #[.nilIface, .int .i64 0] 82)) (.cells #[.pointer none, .pointer (some ⟨w.heap.size + 1, 0, none⟩)] 30)
      simpa using this
  clear hb0
  go_enter Tryz.func8, Tryz.ntmps8
  go_wp2_with fail
  generalize (((w.alloc (.cells #[.int .i64 kind, .string pa, .string tx, .int .i64 how] 78)).alloc (.cells #[.nilIface, .int .i64 0] 82)).alloc (.cells #[.pointer none, .pointer (some ⟨w.heap.size + 1, 0, none⟩)] 30)) = W0 at *
  go_loopg [20] 2 (fun g s20 wr => ∃ i : Nat, g = 2 - i ∧ i ≤ 2 ∧ s20 = .int .i64 i ∧ NB w kind how pa tx (w.heap.size + 1) (w.heap.size + 1 + 1) wr)
  case atStart => exact ⟨0, rfl, by omega, rfl, HN0.out⟩
  case round =>
    obtain ⟨i, hg, hi, rfl, hnb⟩ := hrel
    have N0 := Lib.hid hnb
    clear hnb
    have hc : i = 0 ∨ i = 1 ∨ i = 2 := by omega
    rcases hc with rfl | rfl | rfl
    · have HPV : Hid (∀ W, NB w kind how pa tx (w.heap.size + 1) (w.heap.size + 1 + 1) W → Nobody W (Value.pointer none)) := Lib.hid (fun W h => h.nobody _ (.inl rfl))
      have s0 := cell_blk N0.out.list 0
      have c1 := cell_blk N0.out.act 1
      simp at s0 c1
      by_cases hk : 1 ≤ kind ∧ kind ≤ 9
      · have k1 : (1 : Int) ≤ kind := hk.1
        have k2 : kind ≤ 9 := hk.2
        have HKD := Lib.hid hk
        clear hk
        go_wp2_with (first | (go_at_call 14; (with_reducible refine (stat_no pa follow _ _ (HPV.out _ N0.out)).mono ?_); rintro e w1 ⟨rfl, hb1⟩; have N1 := Lib.hid (N0.out.next (hb1.alloc hb1.size (.cells #[.int .i64 0, .int .i64 0, .int .i64 0, .int .i64 0, .int .i64 0, .int .i64 0] 39))); have I1 := Lib.hid (heap_alloc_new w1 (.cells #[.int .i64 0, .int .i64 0, .int .i64 0, .int .i64 0, .int .i64 0, .int .i64 0] 39)); clear hb1 c1; have c1 := cell_blk N1.out.act 1; simp at c1) | (go_at_call 12; (with_reducible refine (read_no pa _ _ (HPV.out _ N1.out)).mono ?_); rintro e w2 ⟨rfl, hb1⟩; have N2 := Lib.hid (N1.out.next hb1); have I2 := Lib.hid ((hb1.block _ (blk_lt I1.out)).trans I1.out); clear hb1 c1; have c1 := cell_blk N2.out.act 1; simp at c1) | (go_at_call 34; (with_reducible refine (target_no pa _ _ (HPV.out _ N2.out)).mono ?_); rintro e w3 ⟨rfl, hb1⟩; have N3 := Lib.hid (N2.out.next hb1); have I3 := Lib.hid ((hb1.block _ (blk_lt I2.out)).trans I2.out); clear hb1 c1; have c1 := cell_blk N3.out.act 1; simp at c1) | (go_at_call 20; (with_reducible refine (list_no pa _ _ (HPV.out _ N3.out)).mono ?_); rintro e w4 ⟨rfl, hb1⟩; have N4 := Lib.hid (N3.out.next hb1); have I4 := Lib.hid ((hb1.block _ (blk_lt I3.out)).trans I3.out); clear hb1 c1; have i0 := cell_blk I4.out 0; have i1 := cell_blk I4.out 1; have i2 := cell_blk I4.out 2; have i3 := cell_blk I4.out 3; have i4 := cell_blk I4.out 4; have i5 := cell_blk I4.out 5; simp at i0 i1 i2 i3 i4 i5) | (go_at_call 15; (with_reducible refine (clock_no _ _ (HPV.out _ N4.out)).mono ?_); rintro e w5 ⟨rfl, hb1⟩; have N5 := Lib.hid (N4.out.next hb1); clear hb1 i0 i1 i2 i3 i4 i5; have d0 := cell_blk N5.out.act 0; have d1 := cell_blk N5.out.act 1; have d2 := cell_blk N5.out.act 2; have d3 := cell_blk N5.out.act 3; simp at d0 d1 d2 d3) | (go_at_call 35; (with_reducible refine (does_no kind how pa tx _ _ (HPV.out _ N5.out) HKD.out).mono ?_); rintro e w6 ⟨rfl, hb1⟩; have N6 := Lib.hid (N5.out.next hb1); clear hb1 d0 d1 d2 d3))
        go_roundg 1
        case measure => omega
        case rel => exact ⟨1, rfl, by omega, rfl, N6.out⟩
      · have k1 : kind < 1 ∨ (1 ≤ kind ∧ 9 < kind) := by omega
        clear hk
        rcases k1 with k1 | ⟨k1, k2⟩
        all_goals
          go_wp2_with (first | (go_at_call 14; (with_reducible refine (stat_no pa follow _ _ (HPV.out _ N0.out)).mono ?_); rintro e w1 ⟨rfl, hb1⟩; have N1 := Lib.hid (N0.out.next (hb1.alloc hb1.size (.cells #[.int .i64 0, .int .i64 0, .int .i64 0, .int .i64 0, .int .i64 0, .int .i64 0] 39))); have I1 := Lib.hid (heap_alloc_new w1 (.cells #[.int .i64 0, .int .i64 0, .int .i64 0, .int .i64 0, .int .i64 0, .int .i64 0] 39)); clear hb1 c1; have c1 := cell_blk N1.out.act 1; simp at c1) | (go_at_call 12; (with_reducible refine (read_no pa _ _ (HPV.out _ N1.out)).mono ?_); rintro e w2 ⟨rfl, hb1⟩; have N2 := Lib.hid (N1.out.next hb1); have I2 := Lib.hid ((hb1.block _ (blk_lt I1.out)).trans I1.out); clear hb1 c1; have c1 := cell_blk N2.out.act 1; simp at c1) | (go_at_call 34; (with_reducible refine (target_no pa _ _ (HPV.out _ N2.out)).mono ?_); rintro e w3 ⟨rfl, hb1⟩; have N3 := Lib.hid (N2.out.next hb1); have I3 := Lib.hid ((hb1.block _ (blk_lt I2.out)).trans I2.out); clear hb1 c1; have c1 := cell_blk N3.out.act 1; simp at c1) | (go_at_call 20; (with_reducible refine (list_no pa _ _ (HPV.out _ N3.out)).mono ?_); rintro e w4 ⟨rfl, hb1⟩; have N4 := Lib.hid (N3.out.next hb1); have I4 := Lib.hid ((hb1.block _ (blk_lt I3.out)).trans I3.out); clear hb1 c1; have i0 := cell_blk I4.out 0; have i1 := cell_blk I4.out 1; have i2 := cell_blk I4.out 2; have i3 := cell_blk I4.out 3; have i4 := cell_blk I4.out 4; have i5 := cell_blk I4.out 5; simp at i0 i1 i2 i3 i4 i5) | (go_at_call 15; (with_reducible refine (clock_no _ _ (HPV.out _ N4.out)).mono ?_); rintro e w5 ⟨rfl, hb1⟩; have N5 := Lib.hid (N4.out.next hb1); clear hb1 i0 i1 i2 i3 i4 i5; have d0 := cell_blk N5.out.act 0; have d1 := cell_blk N5.out.act 1; have d2 := cell_blk N5.out.act 2; have d3 := cell_blk N5.out.act 3; simp at d0 d1 d2 d3))
          go_roundg 1
          case measure => omega
          case rel => exact ⟨1, rfl, by omega, rfl, N5.out⟩
    · have HPV : Hid (∀ W, NB w kind how pa tx (w.heap.size + 1) (w.heap.size + 1 + 1) W → Nobody W (Value.pointer (some ⟨w.heap.size + 1, 0, none⟩))) := Lib.hid (fun W h => h.nobody _ (.inr rfl))
      have s0 := cell_blk N0.out.list 1
      have c1 := cell_blk N0.out.act 1
      simp at s0 c1
      by_cases hk : 1 ≤ kind ∧ kind ≤ 9
      · have k1 : (1 : Int) ≤ kind := hk.1
        have k2 : kind ≤ 9 := hk.2
        have HKD := Lib.hid hk
        clear hk
        go_wp2_with (first | (go_at_call 14; (with_reducible refine (stat_no pa follow _ _ (HPV.out _ N0.out)).mono ?_); rintro e w1 ⟨rfl, hb1⟩; have N1 := Lib.hid (N0.out.next (hb1.alloc hb1.size (.cells #[.int .i64 0, .int .i64 0, .int .i64 0, .int .i64 0, .int .i64 0, .int .i64 0] 39))); have I1 := Lib.hid (heap_alloc_new w1 (.cells #[.int .i64 0, .int .i64 0, .int .i64 0, .int .i64 0, .int .i64 0, .int .i64 0] 39)); clear hb1 c1; have c1 := cell_blk N1.out.act 1; simp at c1) | (go_at_call 12; (with_reducible refine (read_no pa _ _ (HPV.out _ N1.out)).mono ?_); rintro e w2 ⟨rfl, hb1⟩; have N2 := Lib.hid (N1.out.next hb1); have I2 := Lib.hid ((hb1.block _ (blk_lt I1.out)).trans I1.out); clear hb1 c1; have c1 := cell_blk N2.out.act 1; simp at c1) | (go_at_call 34; (with_reducible refine (target_no pa _ _ (HPV.out _ N2.out)).mono ?_); rintro e w3 ⟨rfl, hb1⟩; have N3 := Lib.hid (N2.out.next hb1); have I3 := Lib.hid ((hb1.block _ (blk_lt I2.out)).trans I2.out); clear hb1 c1; have c1 := cell_blk N3.out.act 1; simp at c1) | (go_at_call 20; (with_reducible refine (list_no pa _ _ (HPV.out _ N3.out)).mono ?_); rintro e w4 ⟨rfl, hb1⟩; have N4 := Lib.hid (N3.out.next hb1); have I4 := Lib.hid ((hb1.block _ (blk_lt I3.out)).trans I3.out); clear hb1 c1; have i0 := cell_blk I4.out 0; have i1 := cell_blk I4.out 1; have i2 := cell_blk I4.out 2; have i3 := cell_blk I4.out 3; have i4 := cell_blk I4.out 4; have i5 := cell_blk I4.out 5; simp at i0 i1 i2 i3 i4 i5) | (go_at_call 15; (with_reducible refine (clock_no _ _ (HPV.out _ N4.out)).mono ?_); rintro e w5 ⟨rfl, hb1⟩; have N5 := Lib.hid (N4.out.next hb1); clear hb1 i0 i1 i2 i3 i4 i5; have d0 := cell_blk N5.out.act 0; have d1 := cell_blk N5.out.act 1; have d2 := cell_blk N5.out.act 2; have d3 := cell_blk N5.out.act 3; simp at d0 d1 d2 d3) | (go_at_call 35; (with_reducible refine (does_no kind how pa tx _ _ (HPV.out _ N5.out) HKD.out).mono ?_); rintro e w6 ⟨rfl, hb1⟩; have N6 := Lib.hid (N5.out.next hb1); clear hb1 d0 d1 d2 d3))
        go_roundg 0
        case measure => omega
        case rel => exact ⟨2, rfl, by omega, rfl, N6.out⟩
      · have k1 : kind < 1 ∨ (1 ≤ kind ∧ 9 < kind) := by omega
        clear hk
        rcases k1 with k1 | ⟨k1, k2⟩
        all_goals
          go_wp2_with (first | (go_at_call 14; (with_reducible refine (stat_no pa follow _ _ (HPV.out _ N0.out)).mono ?_); rintro e w1 ⟨rfl, hb1⟩; have N1 := Lib.hid (N0.out.next (hb1.alloc hb1.size (.cells #[.int .i64 0, .int .i64 0, .int .i64 0, .int .i64 0, .int .i64 0, .int .i64 0] 39))); have I1 := Lib.hid (heap_alloc_new w1 (.cells #[.int .i64 0, .int .i64 0, .int .i64 0, .int .i64 0, .int .i64 0, .int .i64 0] 39)); clear hb1 c1; have c1 := cell_blk N1.out.act 1; simp at c1) | (go_at_call 12; (with_reducible refine (read_no pa _ _ (HPV.out _ N1.out)).mono ?_); rintro e w2 ⟨rfl, hb1⟩; have N2 := Lib.hid (N1.out.next hb1); have I2 := Lib.hid ((hb1.block _ (blk_lt I1.out)).trans I1.out); clear hb1 c1; have c1 := cell_blk N2.out.act 1; simp at c1) | (go_at_call 34; (with_reducible refine (target_no pa _ _ (HPV.out _ N2.out)).mono ?_); rintro e w3 ⟨rfl, hb1⟩; have N3 := Lib.hid (N2.out.next hb1); have I3 := Lib.hid ((hb1.block _ (blk_lt I2.out)).trans I2.out); clear hb1 c1; have c1 := cell_blk N3.out.act 1; simp at c1) | (go_at_call 20; (with_reducible refine (list_no pa _ _ (HPV.out _ N3.out)).mono ?_); rintro e w4 ⟨rfl, hb1⟩; have N4 := Lib.hid (N3.out.next hb1); have I4 := Lib.hid ((hb1.block _ (blk_lt I3.out)).trans I3.out); clear hb1 c1; have i0 := cell_blk I4.out 0; have i1 := cell_blk I4.out 1; have i2 := cell_blk I4.out 2; have i3 := cell_blk I4.out 3; have i4 := cell_blk I4.out 4; have i5 := cell_blk I4.out 5; simp at i0 i1 i2 i3 i4 i5) | (go_at_call 15; (with_reducible refine (clock_no _ _ (HPV.out _ N4.out)).mono ?_); rintro e w5 ⟨rfl, hb1⟩; have N5 := Lib.hid (N4.out.next hb1); clear hb1 i0 i1 i2 i3 i4 i5; have d0 := cell_blk N5.out.act 0; have d1 := cell_blk N5.out.act 1; have d2 := cell_blk N5.out.act 2; have d3 := cell_blk N5.out.act 3; simp at d0 d1 d2 d3))
          go_roundg 0
          case measure => omega
          case rel => exact ⟨2, rfl, by omega, rfl, N5.out⟩
    · obtain ⟨m, hm⟩ := HM.out
      go_wp2_with (first
        | (go_at_call 23; (with_reducible refine (tree_nil _).mono ?_); rintro e w2 ⟨rfl, hb2⟩; have HB2 := Lib.hid (N0.out.below.trans (hb2.mono N0.out.below.size)); clear hb2)
        | (go_at_call 25; (with_reducible refine (exact_nil _).mono ?_); rintro e w3 ⟨rfl, hb3⟩; have HB3 := Lib.hid (HB2.out.trans (hb3.mono HB2.out.size)); clear hb3)
        | (go_at_call 10; (with_reducible refine (awake5_any _ ⟨m, (HB3.out.cell (p := ⟨0, 0, none⟩) (cell_lt hm)).trans hm⟩).mono ?_); rintro e w4 ⟨rfl, hb4⟩; have HB4 := Lib.hid (HB3.out.trans (hb4.mono HB3.out.size)); clear hb4))
      go_ret
      exact ⟨rfl, HB4.out⟩
end Go.Proofs.YtkmnbbocahjmaaaGreatDoor
end
