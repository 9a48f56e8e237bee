/- DERIVED. The walk over compound. -/
import Derived.Test.YtgajbehlggikdaaSwGg
import Derived.Test.YtgajbehlggikdaaSwGf
import Derived.Test.YtgajbehlggikdaaSwGc
import Derived.Test.YtgajbehlggikdaaSwGd
import Derived.Deep.CutBlock
namespace Go.Proofs.Ytgajbehlggikdaa.Sw
open Go.RowKit
open PathM WdM SyM
open Go.Proofs.Ytgajbehlggikdaa.Wd
set_option linter.unusedVariables false

def mapB (k : Int) (m : Rs (List LiT)) : Rs CmdT := match m with
  | .bad a e => .bad a e
  | .ok b r => .ok (.mk k [] [] [] [] b [] [] []) r
def cpM (lists : Bs → Rs (List LiT)) (choice : Bs → Rs CmdT) (sc : Bs → Option Int) (k r : Bs) : Option (Rs CmdT) :=
  if k = [40] then some (mapB 3 (listsTo lists [41] r))
  else if k = [123] then some (mapB 2 (listsTo lists [125] r))
  else if k = [105, 102] then some (choice r)
  else if k = [119, 104, 105, 108, 101] then some (loopL lists 5 r)
  else if k = [117, 110, 116, 105, 108] then some (loopL lists 6 r)
  else if k = [102, 111, 114] then some (eachL lists sc r)
  else if k = [99, 97, 115, 101] then some (caseL lists sc r)
  else none
def cpE (sc : Bs → Option Int) (l : Bs) (m : Option (Rs CmdT)) : Rs (Option CmdT) := match m with
  | none => .ok none l
  | some (.bad a e) => .bad a e
  | some (.ok c r2) => match redirsN sc (r2.length + 1) [] r2 with
    | .bad a e => .bad a e
    | .ok rs r3 => .ok (some (c.withR rs)) r3
theorem comp_eq (lists : Bs → Rs (List LiT)) (choice : Bs → Rs CmdT) (sc : Bs → Option Int) (l : Bs) : compoundL lists choice sc l = cpE sc l (cpM lists choice sc (nextL l).1 (nextL l).2) := rfl
theorem mapB_bad {k : Int} {m : Rs (List LiT)} {a : Nat} {e : Int} (h : mapB k m = .bad a e) : m = .bad a e := by
  cases m with
  | bad a' e' => cases h; rfl
  | ok b r => cases h
theorem mapB_ok {k : Int} {m : Rs (List LiT)} {c : CmdT} {r : Bs} (h : mapB k m = .ok c r) : ∃ b, m = .ok b r ∧ c = .mk k [] [] [] [] b [] [] [] := by
  cases m with
  | bad a' e' => cases h
  | ok b r => cases h; exact ⟨b, rfl, rfl⟩
section
variable {lists : Bs → Rs (List LiT)} {choice : Bs → Rs CmdT} {sc : Bs → Option Int} {k r : Bs}
theorem cp1 : cpM lists choice sc [40] r = some (mapB 3 (listsTo lists [41] r)) := rfl
theorem cp2 : cpM lists choice sc [123] r = some (mapB 2 (listsTo lists [125] r)) := rfl
theorem cp3 : cpM lists choice sc [105, 102] r = some (choice r) := rfl
theorem cp4 : cpM lists choice sc [119, 104, 105, 108, 101] r = some (loopL lists 5 r) := rfl
theorem cp5 : cpM lists choice sc [117, 110, 116, 105, 108] r = some (loopL lists 6 r) := rfl
theorem cp6 : cpM lists choice sc [102, 111, 114] r = some (eachL lists sc r) := rfl
theorem cp7 : cpM lists choice sc [99, 97, 115, 101] r = some (caseL lists sc r) := rfl
theorem cpM_none (h : cpM lists choice sc k r = none) : k ≠ [40] ∧ k ≠ [123] ∧ k ≠ [105, 102] ∧ k ≠ [119, 104, 105, 108, 101] ∧ k ≠ [117, 110, 116, 105, 108] ∧ k ≠ [102, 111, 114] ∧ k ≠ [99, 97, 115, 101] := by
  unfold cpM at h
  refine ⟨?_, ?_, ?_, ?_, ?_, ?_, ?_⟩ <;> (intro e; subst e; simp at h)
theorem cpM_some {x : Rs CmdT} (h : cpM lists choice sc k r = some x) : (k = [40] ∧ mapB 3 (listsTo lists [41] r) = x) ∨ (k = [123] ∧ mapB 2 (listsTo lists [125] r) = x) ∨ (k = [105, 102] ∧ choice r = x) ∨ (k = [119, 104, 105, 108, 101] ∧ loopL lists 5 r = x) ∨ (k = [117, 110, 116, 105, 108] ∧ loopL lists 6 r = x) ∨ (k = [102, 111, 114] ∧ eachL lists sc r = x) ∨ (k = [99, 97, 115, 101] ∧ caseL lists sc r = x) := by
  unfold cpM at h
  by_cases hk : k = [40]
  · rw [if_pos hk] at h; exact .inl ⟨hk, Option.some.inj h⟩
  rw [if_neg hk] at h; clear hk
  by_cases hk : k = [123]
  · rw [if_pos hk] at h; exact .inr (.inl ⟨hk, Option.some.inj h⟩)
  rw [if_neg hk] at h; clear hk
  by_cases hk : k = [105, 102]
  · rw [if_pos hk] at h; exact .inr (.inr (.inl ⟨hk, Option.some.inj h⟩))
  rw [if_neg hk] at h; clear hk
  by_cases hk : k = [119, 104, 105, 108, 101]
  · rw [if_pos hk] at h; exact .inr (.inr (.inr (.inl ⟨hk, Option.some.inj h⟩)))
  rw [if_neg hk] at h; clear hk
  by_cases hk : k = [117, 110, 116, 105, 108]
  · rw [if_pos hk] at h; exact .inr (.inr (.inr (.inr (.inl ⟨hk, Option.some.inj h⟩))))
  rw [if_neg hk] at h; clear hk
  by_cases hk : k = [102, 111, 114]
  · rw [if_pos hk] at h; exact .inr (.inr (.inr (.inr (.inr (.inl ⟨hk, Option.some.inj h⟩)))))
  rw [if_neg hk] at h; clear hk
  by_cases hk : k = [99, 97, 115, 101]
  · rw [if_pos hk] at h; exact .inr (.inr (.inr (.inr (.inr (.inr (⟨hk, Option.some.inj h⟩))))))
  rw [if_neg hk] at h; clear hk
  cases h
end
/-- The box, all its cells written anew. -/
theorem CSg.put9 {rb cb : Nat} {s : ByteArray} {wi : Nat} {w : World} {l : Bs} {z0 z1 z2 z3 z4 z5 z6 z7 z8 : Value} {W : World} (h : CSg rb s wi w cb l [z0, z1, z2, z3, z4, z5, z6, z7, z8] W) (y0 y1 y2 y3 y4 y5 y6 y7 y8 : Value) :
    CSg rb s wi w cb l [y0, y1, y2, y3, y4, y5, y6, y7, y8] (((((((((W.setCell ⟨cb, 0, none⟩ y0).setCell ⟨cb, 1, none⟩ y1).setCell ⟨cb, 2, none⟩ y2).setCell ⟨cb, 3, none⟩ y3).setCell ⟨cb, 4, none⟩ y4).setCell ⟨cb, 5, none⟩ y5).setCell ⟨cb, 6, none⟩ y6).setCell ⟨cb, 7, none⟩ y7).setCell ⟨cb, 8, none⟩ y8) :=
  ((((((((h.set 0 y0).set 1 y1).set 2 y2).set 3 y3).set 4 y4).set 5 y5).set 6 y6).set 7 y7).set 8 y8
theorem vopt_good {L : RepV (List LiT)} (hL : GoodV L) : GoodV (VOpt L) := by
  rintro w w' S S' v x hk h
  cases x with
  | none => exact h
  | some c =>
    obtain ⟨u, hu, h⟩ := h
    exact ⟨u, hu, vagg_good (RCmd.good hL) w w' S S' _ _ hk h⟩
theorem none_done {rb : Nat} {s : ByteArray} {wi : Nat} {w : World} {l : Bs} {L : RepV (List LiT)} {W : World} (hlt : rb < w.heap.size) (hk0 : Kept (· = rb) w W) (hr : RdS W rb s l wi) (y0 y1 y2 y3 y4 y5 y6 y7 y8 : Value) (hy : [y0, y1, y2, y3, y4, y5, y6, y7, y8] = [.int .i64 0, .string ⟨#[]⟩, .slice none 0 0, .slice none 0 0, .slice none 0 0, .slice none 0 0, .slice none 0 0, .slice none 0 0, .slice none 0 0]) :
    Reads rb s wi (.ok none l) (VOpt L) w (.returned (.tuple #[.agg #[y0, y1, y2, y3, y4, y5, y6, y7, y8], .bool false])) (((((((((W.setCell ⟨w.heap.size, 0, none⟩ y0).setCell ⟨w.heap.size, 1, none⟩ y1).setCell ⟨w.heap.size, 2, none⟩ y2).setCell ⟨w.heap.size, 3, none⟩ y3).setCell ⟨w.heap.size, 4, none⟩ y4).setCell ⟨w.heap.size, 5, none⟩ y5).setCell ⟨w.heap.size, 6, none⟩ y6).setCell ⟨w.heap.size, 7, none⟩ y7).setCell ⟨w.heap.size, 8, none⟩ y8) := by
  have hk := nine_kept (S := (· = w.heap.size)) W rfl y0 y1 y2 y3 y4 y5 y6 y7 y8
  injection hy with e0 hy; injection hy with e1 hy; injection hy with e2 hy; injection hy with e3 hy; injection hy with e4 hy; injection hy with e5 hy; injection hy with e6 hy; injection hy with e7 hy; injection hy with e8 hy
  subst e0; subst e1; subst e2; subst e3; subst e4; subst e5; subst e6; subst e7; subst e8
  exact ⟨hk0.then hk (fun k h1 h2 => by omega), _, rfl, hr.kept hk (by omega), rfl⟩
set_option maxRecDepth 100000 in
set_option maxHeartbeats 6400000 in
/-- .. none stands there. -/
theorem compound_none {lists : Bs → Rs (List LiT)} {choice : Bs → Rs CmdT} {sc : Bs → Option Int} {d wi : Nat} (rb : Nat) (s : ByteArray) (l : Bs) (w : World) (h : RdS w rb s l wi) (hs : s.size ≤ 8192) (hc : cpM lists choice sc (nextL l).1 (nextL l).2 = none) :
    Calls Try.prog 40 #[.pointer (some ⟨rb, 0, none⟩)] w (Reads rb s wi (compoundL lists choice sc l) (VOpt (LsIn d)) w) := by
  have HW := Lib.hid h
  have hb0 : Below w.heap.size w (w.alloc (.cells #[.int .i64 0, .string ⟨#[]⟩, .slice none 0 0, .slice none 0 0, .slice none 0 0, .slice none 0 0, .slice none 0 0, .slice none 0 0, .slice none 0 0] 42)) := (Below.refl _ _).alloc (Nat.le_refl _) _
  have HB0 := Lib.hid hb0
  have hnx := next_any rb s l wi _ (h.told hb0) hs
  have r1c := (h.told hb0).c1
  have hz := h.lt
  unfold NextPost at hnx
  rw [comp_eq, hc]
  obtain ⟨key, hkey⟩ : ∃ x, (nextL l).1 = x := ⟨_, rfl⟩
  obtain ⟨r1, hr1⟩ : ∃ x, (nextL l).2 = x := ⟨_, rfl⟩
  rw [hkey, hr1] at hnx hc
  obtain ⟨n1, n2, n3, n4, n5, n6, n7⟩ := cpM_none hc
  have q1 := str_dec key [40]
  rw [show (nm [40]).toList = [40] from by rw [listD]; rfl] at q1
  have q2 := str_dec key [123]
  rw [show (nm [123]).toList = [123] from by rw [listD]; rfl] at q2
  have q3 := str_dec key [105, 102]
  rw [show (nm [105, 102]).toList = [105, 102] from by rw [listD]; rfl] at q3
  have q4 := str_dec key [119, 104, 105, 108, 101]
  rw [show (nm [119, 104, 105, 108, 101]).toList = [119, 104, 105, 108, 101] from by rw [listD]; rfl] at q4
  have q5 := str_dec key [117, 110, 116, 105, 108]
  rw [show (nm [117, 110, 116, 105, 108]).toList = [117, 110, 116, 105, 108] from by rw [listD]; rfl] at q5
  have q6 := str_dec key [102, 111, 114]
  rw [show (nm [102, 111, 114]).toList = [102, 111, 114] from by rw [listD]; rfl] at q6
  have q7 := str_dec key [99, 97, 115, 101]
  rw [show (nm [99, 97, 115, 101]).toList = [99, 97, 115, 101] from by rw [listD]; rfl] at q7
  rw [decide_eq_false n1] at q1
  rw [decide_eq_false n2] at q2
  rw [decide_eq_false n3] at q3
  rw [decide_eq_false n4] at q4
  rw [decide_eq_false n5] at q5
  rw [decide_eq_false n6] at q6
  rw [decide_eq_false n7] at q7
  have HNX := Lib.hid hnx
  clear hnx hc hkey hr1 h hb0 n1 n2 n3 n4 n5 n6 n7
  go_enter Try.func40, Try.ntmps40
  go_wp2_with fail
  refine HNX.out.mono ?_
  rintro e W ⟨rfl, hb, hr, hkl⟩
  have HRD := Lib.hid ((HW.out.told HB0.out).told hb)
  have HR := Lib.hid hr
  have HK := Lib.hid ((kept_told (S := (· = rb)) HB0.out).trans (kept_told hb))
  have HRES : Hid (BoxC w.heap.size (cmd0 (.int .i64 0) (.string ⟨#[]⟩)) W) := Lib.hid ((hb.block _ (by simp)).trans (heap_alloc_new w _))
  have c1 := HRD.out.c1
  have f1 := HRD.out.fz 1
  have lt1 := HRD.out.lt
  have hzr := fin_at HRES.out
  have hks := (Kept.setCell (S := (· = rb)) (w := W) ⟨rb, 1, none⟩ (.int .i64 (pl s r1)) rfl).trans (Kept.setCell ⟨rb, 1, none⟩ (.int .i64 (pl s l)) rfl)
  have HR2 := Lib.hid (HRES.out.kept hks (by omega))
  have HK2 := Lib.hid (HK.out.trans hks)
  have HRD2 := Lib.hid ((HRD.out.at_ hr rfl).at_ (n := (pl s l : Nat)) HRD.out.suf rfl)
  obtain ⟨⟨g0, g1, g2, g3, g4, g5, g6, g7, g8⟩, gf⟩ := BoxC.nine HRES.out
  clear hb hr hkl hks
  go_wp2_with fail
  refine bodyPost_ret (results_cell2 rfl _ _ _ 42 _ (0, 0) _ rfl ((Below.heap_alloc _ _ _ (by simp; exact hzr)).trans (nine_set HR2.out _ _ _ _ _ _ _ _ _)) Try.underlying42 rfl (by kernel_rfl)) rfl ?_
  exact reads_told (vopt_good (LsIn.good d)) (none_done hz HK2.out HRD2.out _ _ _ _ _ _ _ _ _ rfl) ((Below.refl _ _).alloc (Nat.le_refl _) _)

set_option maxRecDepth 100000 in
set_option maxHeartbeats 6400000 in
/-- .. what stands there is given up. -/
theorem compound_bad {lists : Bs → Rs (List LiT)} {choice : Bs → Rs CmdT} {sc : Bs → Option Int} {d wi : Nat} (hL : LsOk lists d wi) (hCh : ChOk choice d wi) (hWd : WdOk (wordL sc) wi) (hless : ∀ l x r, branchL lists sc l = .ok x r → r.length < l.length) (rb : Nat) (s : ByteArray) (l : Bs) (w : World) (h : RdS w rb s l wi) (hs : s.size ≤ 8192) {a : Nat} {er : Int} (hc : cpM lists choice sc (nextL l).1 (nextL l).2 = some (.bad a er)) :
    Calls Try.prog 40 #[.pointer (some ⟨rb, 0, none⟩)] w (Reads rb s wi (compoundL lists choice sc l) (VOpt (LsIn d)) w) := by
  have HW := Lib.hid h
  have hb0 : Below w.heap.size w (w.alloc (.cells #[.int .i64 0, .string ⟨#[]⟩, .slice none 0 0, .slice none 0 0, .slice none 0 0, .slice none 0 0, .slice none 0 0, .slice none 0 0, .slice none 0 0] 42)) := (Below.refl _ _).alloc (Nat.le_refl _) _
  have HB0 := Lib.hid hb0
  have hnx := next_any rb s l wi _ (h.told hb0) hs
  have r1c := (h.told hb0).c1
  have hz := h.lt
  unfold NextPost at hnx
  rw [comp_eq, hc]
  obtain ⟨key, hkey⟩ : ∃ x, (nextL l).1 = x := ⟨_, rfl⟩
  obtain ⟨r1, hr1⟩ : ∃ x, (nextL l).2 = x := ⟨_, rfl⟩
  rw [hkey, hr1] at hnx hc
  have hways := cpM_some hc
  have q1 := str_dec key [40]
  rw [show (nm [40]).toList = [40] from by rw [listD]; rfl] at q1
  have q2 := str_dec key [123]
  rw [show (nm [123]).toList = [123] from by rw [listD]; rfl] at q2
  have q3 := str_dec key [105, 102]
  rw [show (nm [105, 102]).toList = [105, 102] from by rw [listD]; rfl] at q3
  have q4 := str_dec key [119, 104, 105, 108, 101]
  rw [show (nm [119, 104, 105, 108, 101]).toList = [119, 104, 105, 108, 101] from by rw [listD]; rfl] at q4
  have q5 := str_dec key [117, 110, 116, 105, 108]
  rw [show (nm [117, 110, 116, 105, 108]).toList = [117, 110, 116, 105, 108] from by rw [listD]; rfl] at q5
  have q6 := str_dec key [102, 111, 114]
  rw [show (nm [102, 111, 114]).toList = [102, 111, 114] from by rw [listD]; rfl] at q6
  have q7 := str_dec key [99, 97, 115, 101]
  rw [show (nm [99, 97, 115, 101]).toList = [99, 97, 115, 101] from by rw [listD]; rfl] at q7
  have HNX := Lib.hid hnx
  clear hnx hc hkey hr1 h hb0
  rcases hways with ⟨hk, hx⟩ | ⟨hk, hx⟩ | ⟨hk, hx⟩ | ⟨hk, hx⟩ | ⟨hk, hx⟩ | ⟨hk, hx⟩ | ⟨hk, hx⟩
  · have hd : ∀ K, K ≠ [40] → ¬ key = K := fun K hK e => hK (e.symm.trans hk)
    rw [decide_eq_true hk] at q1
    rw [decide_eq_false (hd _ (by decide))] at q2
    rw [decide_eq_false (hd _ (by decide))] at q3
    rw [decide_eq_false (hd _ (by decide))] at q4
    rw [decide_eq_false (hd _ (by decide))] at q5
    rw [decide_eq_false (hd _ (by decide))] at q6
    rw [decide_eq_false (hd _ (by decide))] at q7
    have HC := Lib.hid (fun W (hW : RdS W rb s r1 wi) => listsTo_any hL rb s r1 [41] W hW hs)
    have hx := mapB_bad hx
    rw [hx] at HC
    clear hx hk hd hL hCh hWd hless
    go_enter Try.func40, Try.ntmps40
    go_wp2_with fail
    refine HNX.out.mono ?_
    rintro e W ⟨rfl, hb, hr, hkl⟩
    have HRD := Lib.hid ((HW.out.told HB0.out).told hb)
    have HK := Lib.hid ((kept_told (S := (· = rb)) HB0.out).trans (kept_told hb))
    have c1 := HRD.out.c1
    have f1 := HRD.out.fz 1
    have lt1 := HRD.out.lt
    have HRES : Hid (BoxC w.heap.size (cmd0 (.int .i64 0) (.string ⟨#[]⟩)) W) := Lib.hid ((hb.block _ (by simp)).trans (heap_alloc_new w _))
    have hks := Kept.setCell (S := (· = rb)) (w := W) ⟨rb, 1, none⟩ (.int .i64 (pl s r1)) rfl
    have HST := Lib.hid (CSg.start (HRES.out.kept hks (by omega)) (HRD.out.at_ hr rfl) (HK.out.trans hks) hz [.int .i64 0, .string ⟨#[]⟩, .slice none 0 0, .slice none 0 0, .slice none 0 0, .slice none 0 0, .slice none 0 0, .slice none 0 0, .slice none 0 0])
    clear hb hr hkl hks
    go_wp2_with fail
    refine (HC.out _ HST.out.rd).mono ?_
    rintro e W5 ⟨hk, rfl⟩
    simp only [sflt]
    go_wp2_with fail
    exact ⟨rfl, HST.out.kept.trans hk, rfl⟩
  · have hd : ∀ K, K ≠ [123] → ¬ key = K := fun K hK e => hK (e.symm.trans hk)
    rw [decide_eq_false (hd _ (by decide))] at q1
    rw [decide_eq_true hk] at q2
    rw [decide_eq_false (hd _ (by decide))] at q3
    rw [decide_eq_false (hd _ (by decide))] at q4
    rw [decide_eq_false (hd _ (by decide))] at q5
    rw [decide_eq_false (hd _ (by decide))] at q6
    rw [decide_eq_false (hd _ (by decide))] at q7
    have HC := Lib.hid (fun W (hW : RdS W rb s r1 wi) => listsTo_any hL rb s r1 [125] W hW hs)
    have hx := mapB_bad hx
    rw [hx] at HC
    clear hx hk hd hL hCh hWd hless
    go_enter Try.func40, Try.ntmps40
    go_wp2_with fail
    refine HNX.out.mono ?_
    rintro e W ⟨rfl, hb, hr, hkl⟩
    have HRD := Lib.hid ((HW.out.told HB0.out).told hb)
    have HK := Lib.hid ((kept_told (S := (· = rb)) HB0.out).trans (kept_told hb))
    have c1 := HRD.out.c1
    have f1 := HRD.out.fz 1
    have lt1 := HRD.out.lt
    have HRES : Hid (BoxC w.heap.size (cmd0 (.int .i64 0) (.string ⟨#[]⟩)) W) := Lib.hid ((hb.block _ (by simp)).trans (heap_alloc_new w _))
    have hks := Kept.setCell (S := (· = rb)) (w := W) ⟨rb, 1, none⟩ (.int .i64 (pl s r1)) rfl
    have HST := Lib.hid (CSg.start (HRES.out.kept hks (by omega)) (HRD.out.at_ hr rfl) (HK.out.trans hks) hz [.int .i64 0, .string ⟨#[]⟩, .slice none 0 0, .slice none 0 0, .slice none 0 0, .slice none 0 0, .slice none 0 0, .slice none 0 0, .slice none 0 0])
    clear hb hr hkl hks
    go_wp2_with fail
    refine (HC.out _ HST.out.rd).mono ?_
    rintro e W5 ⟨hk, rfl⟩
    simp only [sflt]
    go_wp2_with fail
    exact ⟨rfl, HST.out.kept.trans hk, rfl⟩
  · have hd : ∀ K, K ≠ [105, 102] → ¬ key = K := fun K hK e => hK (e.symm.trans hk)
    rw [decide_eq_false (hd _ (by decide))] at q1
    rw [decide_eq_false (hd _ (by decide))] at q2
    rw [decide_eq_true hk] at q3
    rw [decide_eq_false (hd _ (by decide))] at q4
    rw [decide_eq_false (hd _ (by decide))] at q5
    rw [decide_eq_false (hd _ (by decide))] at q6
    rw [decide_eq_false (hd _ (by decide))] at q7
    have HC := Lib.hid (fun W (hW : RdS W rb s r1 wi) => hCh rb s r1 W hW hs)
    rw [hx] at HC
    clear hx hk hd hL hCh hWd hless
    go_enter Try.func40, Try.ntmps40
    go_wp2_with fail
    refine HNX.out.mono ?_
    rintro e W ⟨rfl, hb, hr, hkl⟩
    have HRD := Lib.hid ((HW.out.told HB0.out).told hb)
    have HK := Lib.hid ((kept_told (S := (· = rb)) HB0.out).trans (kept_told hb))
    have c1 := HRD.out.c1
    have f1 := HRD.out.fz 1
    have lt1 := HRD.out.lt
    have HRES : Hid (BoxC w.heap.size (cmd0 (.int .i64 0) (.string ⟨#[]⟩)) W) := Lib.hid ((hb.block _ (by simp)).trans (heap_alloc_new w _))
    have hks := Kept.setCell (S := (· = rb)) (w := W) ⟨rb, 1, none⟩ (.int .i64 (pl s r1)) rfl
    have HST := Lib.hid (CSg.start (HRES.out.kept hks (by omega)) (HRD.out.at_ hr rfl) (HK.out.trans hks) hz [.int .i64 0, .string ⟨#[]⟩, .slice none 0 0, .slice none 0 0, .slice none 0 0, .slice none 0 0, .slice none 0 0, .slice none 0 0, .slice none 0 0])
    clear hb hr hkl hks
    go_wp2_with fail
    refine (HC.out _ HST.out.rd).mono ?_
    rintro e W5 ⟨hk, rfl⟩
    simp only [sflt]
    go_wp2_with fail
    exact ⟨rfl, HST.out.kept.trans hk, rfl⟩
  · have hd : ∀ K, K ≠ [119, 104, 105, 108, 101] → ¬ key = K := fun K hK e => hK (e.symm.trans hk)
    rw [decide_eq_false (hd _ (by decide))] at q1
    rw [decide_eq_false (hd _ (by decide))] at q2
    rw [decide_eq_false (hd _ (by decide))] at q3
    rw [decide_eq_true hk] at q4
    rw [decide_eq_false (hd _ (by decide))] at q5
    rw [decide_eq_false (hd _ (by decide))] at q6
    rw [decide_eq_false (hd _ (by decide))] at q7
    have HC := Lib.hid (fun W (hW : RdS W rb s r1 wi) => loop_any hL 5 rb s r1 W hW hs)
    rw [hx] at HC
    clear hx hk hd hL hCh hWd hless
    go_enter Try.func40, Try.ntmps40
    go_wp2_with fail
    refine HNX.out.mono ?_
    rintro e W ⟨rfl, hb, hr, hkl⟩
    have HRD := Lib.hid ((HW.out.told HB0.out).told hb)
    have HK := Lib.hid ((kept_told (S := (· = rb)) HB0.out).trans (kept_told hb))
    have c1 := HRD.out.c1
    have f1 := HRD.out.fz 1
    have lt1 := HRD.out.lt
    have HRES : Hid (BoxC w.heap.size (cmd0 (.int .i64 0) (.string ⟨#[]⟩)) W) := Lib.hid ((hb.block _ (by simp)).trans (heap_alloc_new w _))
    have hks := Kept.setCell (S := (· = rb)) (w := W) ⟨rb, 1, none⟩ (.int .i64 (pl s r1)) rfl
    have HST := Lib.hid (CSg.start (HRES.out.kept hks (by omega)) (HRD.out.at_ hr rfl) (HK.out.trans hks) hz [.int .i64 0, .string ⟨#[]⟩, .slice none 0 0, .slice none 0 0, .slice none 0 0, .slice none 0 0, .slice none 0 0, .slice none 0 0, .slice none 0 0])
    clear hb hr hkl hks
    go_wp2_with fail
    refine (HC.out _ HST.out.rd).mono ?_
    rintro e W5 ⟨hk, rfl⟩
    simp only [sflt]
    go_wp2_with fail
    exact ⟨rfl, HST.out.kept.trans hk, rfl⟩
  · have hd : ∀ K, K ≠ [117, 110, 116, 105, 108] → ¬ key = K := fun K hK e => hK (e.symm.trans hk)
    rw [decide_eq_false (hd _ (by decide))] at q1
    rw [decide_eq_false (hd _ (by decide))] at q2
    rw [decide_eq_false (hd _ (by decide))] at q3
    rw [decide_eq_false (hd _ (by decide))] at q4
    rw [decide_eq_true hk] at q5
    rw [decide_eq_false (hd _ (by decide))] at q6
    rw [decide_eq_false (hd _ (by decide))] at q7
    have HC := Lib.hid (fun W (hW : RdS W rb s r1 wi) => loop_any hL 6 rb s r1 W hW hs)
    rw [hx] at HC
    clear hx hk hd hL hCh hWd hless
    go_enter Try.func40, Try.ntmps40
    go_wp2_with fail
    refine HNX.out.mono ?_
    rintro e W ⟨rfl, hb, hr, hkl⟩
    have HRD := Lib.hid ((HW.out.told HB0.out).told hb)
    have HK := Lib.hid ((kept_told (S := (· = rb)) HB0.out).trans (kept_told hb))
    have c1 := HRD.out.c1
    have f1 := HRD.out.fz 1
    have lt1 := HRD.out.lt
    have HRES : Hid (BoxC w.heap.size (cmd0 (.int .i64 0) (.string ⟨#[]⟩)) W) := Lib.hid ((hb.block _ (by simp)).trans (heap_alloc_new w _))
    have hks := Kept.setCell (S := (· = rb)) (w := W) ⟨rb, 1, none⟩ (.int .i64 (pl s r1)) rfl
    have HST := Lib.hid (CSg.start (HRES.out.kept hks (by omega)) (HRD.out.at_ hr rfl) (HK.out.trans hks) hz [.int .i64 0, .string ⟨#[]⟩, .slice none 0 0, .slice none 0 0, .slice none 0 0, .slice none 0 0, .slice none 0 0, .slice none 0 0, .slice none 0 0])
    clear hb hr hkl hks
    go_wp2_with fail
    refine (HC.out _ HST.out.rd).mono ?_
    rintro e W5 ⟨hk, rfl⟩
    simp only [sflt]
    go_wp2_with fail
    exact ⟨rfl, HST.out.kept.trans hk, rfl⟩
  · have hd : ∀ K, K ≠ [102, 111, 114] → ¬ key = K := fun K hK e => hK (e.symm.trans hk)
    rw [decide_eq_false (hd _ (by decide))] at q1
    rw [decide_eq_false (hd _ (by decide))] at q2
    rw [decide_eq_false (hd _ (by decide))] at q3
    rw [decide_eq_false (hd _ (by decide))] at q4
    rw [decide_eq_false (hd _ (by decide))] at q5
    rw [decide_eq_true hk] at q6
    rw [decide_eq_false (hd _ (by decide))] at q7
    have HC := Lib.hid (fun W (hW : RdS W rb s r1 wi) => each_any hL hWd rb s r1 W hW hs)
    rw [hx] at HC
    clear hx hk hd hL hCh hWd hless
    go_enter Try.func40, Try.ntmps40
    go_wp2_with fail
    refine HNX.out.mono ?_
    rintro e W ⟨rfl, hb, hr, hkl⟩
    have HRD := Lib.hid ((HW.out.told HB0.out).told hb)
    have HK := Lib.hid ((kept_told (S := (· = rb)) HB0.out).trans (kept_told hb))
    have c1 := HRD.out.c1
    have f1 := HRD.out.fz 1
    have lt1 := HRD.out.lt
    have HRES : Hid (BoxC w.heap.size (cmd0 (.int .i64 0) (.string ⟨#[]⟩)) W) := Lib.hid ((hb.block _ (by simp)).trans (heap_alloc_new w _))
    have hks := Kept.setCell (S := (· = rb)) (w := W) ⟨rb, 1, none⟩ (.int .i64 (pl s r1)) rfl
    have HST := Lib.hid (CSg.start (HRES.out.kept hks (by omega)) (HRD.out.at_ hr rfl) (HK.out.trans hks) hz [.int .i64 0, .string ⟨#[]⟩, .slice none 0 0, .slice none 0 0, .slice none 0 0, .slice none 0 0, .slice none 0 0, .slice none 0 0, .slice none 0 0])
    clear hb hr hkl hks
    go_wp2_with fail
    refine (HC.out _ HST.out.rd).mono ?_
    rintro e W5 ⟨hk, rfl⟩
    simp only [sflt]
    go_wp2_with fail
    exact ⟨rfl, HST.out.kept.trans hk, rfl⟩
  · have hd : ∀ K, K ≠ [99, 97, 115, 101] → ¬ key = K := fun K hK e => hK (e.symm.trans hk)
    rw [decide_eq_false (hd _ (by decide))] at q1
    rw [decide_eq_false (hd _ (by decide))] at q2
    rw [decide_eq_false (hd _ (by decide))] at q3
    rw [decide_eq_false (hd _ (by decide))] at q4
    rw [decide_eq_false (hd _ (by decide))] at q5
    rw [decide_eq_false (hd _ (by decide))] at q6
    rw [decide_eq_true hk] at q7
    have HC := Lib.hid (fun W (hW : RdS W rb s r1 wi) => caseOf_any (branch_any hL hWd) hless hWd rb s r1 W hW hs)
    rw [hx] at HC
    clear hx hk hd hL hCh hWd hless
    go_enter Try.func40, Try.ntmps40
    go_wp2_with fail
    refine HNX.out.mono ?_
    rintro e W ⟨rfl, hb, hr, hkl⟩
    have HRD := Lib.hid ((HW.out.told HB0.out).told hb)
    have HK := Lib.hid ((kept_told (S := (· = rb)) HB0.out).trans (kept_told hb))
    have c1 := HRD.out.c1
    have f1 := HRD.out.fz 1
    have lt1 := HRD.out.lt
    have HRES : Hid (BoxC w.heap.size (cmd0 (.int .i64 0) (.string ⟨#[]⟩)) W) := Lib.hid ((hb.block _ (by simp)).trans (heap_alloc_new w _))
    have hks := Kept.setCell (S := (· = rb)) (w := W) ⟨rb, 1, none⟩ (.int .i64 (pl s r1)) rfl
    have HST := Lib.hid (CSg.start (HRES.out.kept hks (by omega)) (HRD.out.at_ hr rfl) (HK.out.trans hks) hz [.int .i64 0, .string ⟨#[]⟩, .slice none 0 0, .slice none 0 0, .slice none 0 0, .slice none 0 0, .slice none 0 0, .slice none 0 0, .slice none 0 0])
    clear hb hr hkl hks
    go_wp2_with fail
    refine (HC.out _ HST.out.rd).mono ?_
    rintro e W5 ⟨hk, rfl⟩
    simp only [sflt]
    go_wp2_with fail
    exact ⟨rfl, HST.out.kept.trans hk, rfl⟩

end Go.Proofs.Ytgajbehlggikdaa.Sw

/- DERIVED. The walk over compound: what stands there is read. -/
namespace Go.Proofs.Ytgajbehlggikdaa.Sw
open Go.RowKit
open PathM WdM SyM
open Go.Proofs.Ytgajbehlggikdaa.Wd
set_option linter.unusedVariables false

def noR : CmdT → Prop | .mk _ _ _ _ _ _ _ _ rs => rs = []
theorem cmd_open0 {d : Nat} {w : World} {S : Nat → Prop} {v : Value} {c : CmdT} (h : VAgg (RCmd (LsIn d)) w S v c) (hn : noR c) : ∃ (kk : Int) (nn : ByteArray) (A1 A2 A3 A4 A5 A6 : Option Addr) (n1 n2 n3 n4 n5 n6 c1 c2 c3 c4 c5 c6 : Nat), v = .agg #[.int .i64 kk, .string nn, .slice A1 n1 c1, .slice A2 n2 c2, .slice A3 n3 c3, .slice A4 n4 c4, .slice A5 n5 c5, .slice A6 n6 c6, .slice none 0 0] ∧ RCmd (LsIn d) w S [.int .i64 kk, .string nn, .slice A1 n1 c1, .slice A2 n2 c2, .slice A3 n3 c3, .slice A4 n4 c4, .slice A5 n5 c5, .slice A6 n6 c6, .slice none 0 0] c := by
  obtain ⟨vs, rfl, h⟩ := h
  obtain ⟨k, n, xs, ws, cc, b, o, cs, rs⟩ := c
  obtain ⟨av, wv, cv, bv, ov, sv, rv, rfl, h1, h2, h3, h4, h5, h6, h7, h8⟩ := h
  obtain ⟨A1, n1, c1, rfl⟩ := h1.form
  obtain ⟨A2, n2, c2, rfl⟩ := h2.form
  obtain ⟨A3, n3, c3, rfl⟩ := LsIn.form h3
  obtain ⟨A4, n4, c4, rfl⟩ := LsIn.form h4
  obtain ⟨A5, n5, c5, rfl⟩ := LsIn.form h5
  obtain ⟨A6, n6, c6, rfl⟩ := h6.form
  have h9 := h8 hn
  subst h9
  exact ⟨k, nm n, A1, A2, A3, A4, A5, A6, n1, n2, n3, n4, n5, n6, c1, c2, c3, c4, c5, c6, rfl, _, _, _, _, _, _, _, rfl, h1, h2, h3, h4, h5, h6, h7, h8⟩
/-- What the switch leaves in the box. -/
def CpBox (rb : Nat) (s : ByteArray) (wi d : Nat) (w : World) (cb : Nat) (r2 : Bs) (c : CmdT) (W : World) : Prop :=
  ∃ (kk : Int) (nn : ByteArray) (A1 A2 A3 A4 A5 A6 : Option Addr) (n1 n2 n3 n4 n5 n6 c1 c2 c3 c4 c5 c6 : Nat), CSg rb s wi w cb r2 [.int .i64 kk, .string nn, .slice A1 n1 c1, .slice A2 n2 c2, .slice A3 n3 c3, .slice A4 n4 c4, .slice A5 n5 c5, .slice A6 n6 c6, .slice none 0 0] W ∧ RCmd (LsIn d) W (Nx (w.heap.size + 1) cb W) [.int .i64 kk, .string nn, .slice A1 n1 c1, .slice A2 n2 c2, .slice A3 n3 c3, .slice A4 n4 c4, .slice A5 n5 c5, .slice A6 n6 c6, .slice none 0 0] c
theorem CpBox.of {rb : Nat} {s : ByteArray} {wi wj d : Nat} {w : World} {cb : Nat} {l r2 : Bs} {c : CmdT} {W W5 : World} {z0 z1 z2 z3 z4 z5 z6 z7 z8 : Value} (h : CSg rb s wj w cb l [z0, z1, z2, z3, z4, z5, z6, z7, z8] W) (hk : Kept (· = rb) W W5) (hr : RdS W5 rb s r2 wi)
    {kk : Int} {nn : ByteArray} {A1 A2 A3 A4 A5 A6 : Option Addr} {n1 n2 n3 n4 n5 n6 c1 c2 c3 c4 c5 c6 : Nat} (hc : RCmd (LsIn d) W5 (Nw W.heap.size W5) [.int .i64 kk, .string nn, .slice A1 n1 c1, .slice A2 n2 c2, .slice A3 n3 c3, .slice A4 n4 c4, .slice A5 n5 c5, .slice A6 n6 c6, .slice none 0 0] c) :
    CpBox rb s wi d w cb r2 c (((((((((W5.setCell ⟨cb, 0, none⟩ (.int .i64 kk)).setCell ⟨cb, 1, none⟩ (.string nn)).setCell ⟨cb, 2, none⟩ (.slice A1 n1 c1)).setCell ⟨cb, 3, none⟩ (.slice A2 n2 c2)).setCell ⟨cb, 4, none⟩ (.slice A3 n3 c3)).setCell ⟨cb, 5, none⟩ (.slice A4 n4 c4)).setCell ⟨cb, 6, none⟩ (.slice A5 n5 c5)).setCell ⟨cb, 7, none⟩ (.slice A6 n6 c6)).setCell ⟨cb, 8, none⟩ (.slice none 0 0)) := by
  have h5 := (h.step hk hr).put9 (.int .i64 kk) (.string nn) (.slice A1 n1 c1) (.slice A2 n2 c2) (.slice A3 n3 c3) (.slice A4 n4 c4) (.slice A5 n5 c5) (.slice A6 n6 c6) (.slice none 0 0)
  have hv := h.new (V := VAgg (RCmd (LsIn d))) (vagg_good (RCmd.good (LsIn.good d))) (v := .agg #[.int .i64 kk, .string nn, .slice A1 n1 c1, .slice A2 n2 c2, .slice A3 n3 c3, .slice A4 n4 c4, .slice A5 n5 c5, .slice A6 n6 c6, .slice none 0 0]) ⟨_, rfl, hc⟩
  have hk9 := nine_kept (S := (· = cb)) W5 rfl (.int .i64 kk) (.string nn) (.slice A1 n1 c1) (.slice A2 n2 c2) (.slice A3 n3 c3) (.slice A4 n4 c4) (.slice A5 n5 c5) (.slice A6 n6 c6) (.slice none 0 0)
  refine ⟨kk, nn, A1, A2, A3, A4, A5, A6, n1, n2, n3, n4, n5, n6, c1, c2, c3, c4, c5, c6, h5, ?_⟩
  obtain ⟨vs, hvs, h6⟩ := nx_kept (vagg_good (RCmd.good (LsIn.good d))) hk9 (fun k e => .inr e) hv
  have h7 : [.int .i64 kk, .string nn, .slice A1 n1 c1, .slice A2 n2 c2, .slice A3 n3 c3, .slice A4 n4 c4, .slice A5 n5 c5, .slice A6 n6 c6, .slice none 0 0].toArray = vs.toArray := by injection hvs
  have h8 : [.int .i64 kk, .string nn, .slice A1 n1 c1, .slice A2 n2 c2, .slice A3 n3 c3, .slice A4 n4 c4, .slice A5 n5 c5, .slice A6 n6 c6, .slice none 0 0] = vs := by simpa using congrArg Array.toList h7
  rw [h8]
  exact h6
theorem loop_nil {lists : Bs → Rs (List LiT)} {k : Int} {l r : Bs} {c : CmdT} (h : loopL lists k l = .ok c r) : noR c := by
  unfold loopL at h
  split at h
  · cases h
  · split at h
    · cases h
    · cases h; rfl
theorem each_nil {lists : Bs → Rs (List LiT)} {sc : Bs → Option Int} {l r : Bs} {c : CmdT} (h : eachL lists sc l = .ok c r) : noR c := by
  unfold eachL at h
  repeat' (split at h)
  all_goals (first | (cases h; done) | (cases h; rfl))
theorem case_nil {lists : Bs → Rs (List LiT)} {sc : Bs → Option Int} {l r : Bs} {c : CmdT} (h : caseL lists sc l = .ok c r) : noR c := by
  unfold caseL at h
  repeat' (split at h)
  all_goals (first | (cases h; done) | (cases h; rfl))
theorem redirInfo : (Try.prog.info? 59).map (fun i => (i.zero, i.size, i.bytes)) = some (some (.agg #[.int .i64 0, .string ⟨#[]⟩, .slice none 0 0]), 3, 48) := by kernel_rfl
def Lx (z cb z1 : Nat) (k : Nat) : Prop := z ≤ k ∧ k < z1 ∧ k ≠ cb
theorem lx_kept {α : Type} {V : World → (Nat → Prop) → Value → α → Prop} (hV : GoodV V) {z cb z1 : Nat} {Q : Nat → Prop} {W W' : World} {v : Value} {x : α} (hk : Kept Q W W') (hq : ∀ k, Q k → k < z ∨ k = cb ∨ z1 ≤ k) (h : V W (Lx z cb z1) v x) : V W' (Lx z cb z1) v x :=
  hV W W' _ _ _ _ (fun k h1 h2 => ⟨h2, hk.block k h1 (fun e => by obtain ⟨a1, a2, a3⟩ := h2; rcases hq k e with h3 | h3 | h3 <;> omega)⟩) h
theorem redir_open {w : World} {S : Nat → Prop} {v : Value} {p : RdT} (h : VAgg RRd w S v p) : ∃ (fd : Int) (op : ByteArray) (B : Option Addr) (m d : Nat), v = .agg #[.int .i64 fd, .string op, .slice B m d] ∧ RRd w S [.int .i64 fd, .string op, .slice B m d] p := by
  obtain ⟨vs, rfl, v', rfl, h⟩ := h
  obtain ⟨B, m, d, rfl⟩ := PIn.form h
  exact ⟨_, _, B, m, d, rfl, _, rfl, h⟩
theorem rn_end {sc : Bs → Option Int} {k : Nat} {acc : List RdT} {m : Bs} (h : arrowL m = none) : redirsN sc k acc m = .ok acc m := by
  cases k with
  | zero => rfl
  | succ k => rw [redirsN, h]
theorem rn_bad {sc : Bs → Option Int} {k : Nat} {acc : List RdT} {m : Bs} {y : Int × Bs × Bs} {a : Nat} {e : Int} (h : arrowL m = some y) (h2 : redirL sc m = .bad a e) : redirsN sc (k + 1) acc m = .bad a e := by rw [redirsN, h]; simp only; rw [h2]
theorem rn_ok {sc : Bs → Option Int} {k : Nat} {acc : List RdT} {m r : Bs} {x : RdT} {y : Int × Bs × Bs} (h : arrowL m = some y) (h2 : redirL sc m = .ok x r) : redirsN sc (k + 1) acc m = redirsN sc k (acc ++ [x]) r := by rw [redirsN, h]; simp only; rw [h2]
/-- What compound hands back. -/
theorem cp_done {rb cb z1 : Nat} {s : ByteArray} {wi d : Nat} {w : World} {r : Bs} {c : CmdT} {acc : List RdT} {W : World} {T : TypeId} {kk : Int} {nn : ByteArray} {A1 A2 A3 A4 A5 A6 : Option Addr} {n1 n2 n3 n4 n5 n6 c1 c2 c3 c4 c5 c6 : Nat} {rv : Value} (h : CSg rb s wi w cb r [.int .i64 kk, .string nn, .slice A1 n1 c1, .slice A2 n2 c2, .slice A3 n3 c3, .slice A4 n4 c4, .slice A5 n5 c5, .slice A6 n6 c6, rv] W) (hrep : VAgg (RCmd (LsIn d)) W (Lx (w.heap.size + 1) cb z1) (.agg #[.int .i64 kk, .string nn, .slice A1 n1 c1, .slice A2 n2 c2, .slice A3 n3 c3, .slice A4 n4 c4, .slice A5 n5 c5, .slice A6 n6 c6, .slice none 0 0]) c) (hz1 : z1 ≤ W.heap.size) (hcb : cb < z1) (hw1 : w.heap.size + 1 ≤ z1)
    (hrow : Row 3 RRd T z1 (fun _ => False) W rv acc) (hn : acc = [] → rv = .slice none 0 0) (hm : acc.length ≤ 281474976710656) :
    Reads rb s wi (.ok (some (c.withR acc)) r) (VOpt (LsIn d)) w (.returned (.tuple #[.agg #[.int .i64 kk, .string nn, .slice A1 n1 c1, .slice A2 n2 c2, .slice A3 n3 c3, .slice A4 n4 c4, .slice A5 n5 c5, .slice A6 n6 c6, rv], .bool true])) (((((((((W.setCell ⟨w.heap.size, 0, none⟩ (.int .i64 kk)).setCell ⟨w.heap.size, 1, none⟩ (.string nn)).setCell ⟨w.heap.size, 2, none⟩ (.slice A1 n1 c1)).setCell ⟨w.heap.size, 3, none⟩ (.slice A2 n2 c2)).setCell ⟨w.heap.size, 4, none⟩ (.slice A3 n3 c3)).setCell ⟨w.heap.size, 5, none⟩ (.slice A4 n4 c4)).setCell ⟨w.heap.size, 6, none⟩ (.slice A5 n5 c5)).setCell ⟨w.heap.size, 7, none⟩ (.slice A6 n6 c6)).setCell ⟨w.heap.size, 8, none⟩ rv) := by
  have h1 : VAgg (RCmd (LsIn d)) W (Nx (w.heap.size + 1) cb W) (.agg #[.int .i64 kk, .string nn, .slice A1 n1 c1, .slice A2 n2 c2, .slice A3 n3 c3, .slice A4 n4 c4, .slice A5 n5 c5, .slice A6 n6 c6, .slice none 0 0]) c := vagg_good (RCmd.good (LsIn.good d)) _ _ _ _ _ _ (fun k _ hS => ⟨⟨hS.1, by have := hS.2.1; omega, hS.2.2⟩, rfl⟩) hrep
  obtain ⟨vs, hvs, hr⟩ := h1
  have h7 : [.int .i64 kk, .string nn, .slice A1 n1 c1, .slice A2 n2 c2, .slice A3 n3 c3, .slice A4 n4 c4, .slice A5 n5 c5, .slice A6 n6 c6, .slice none 0 0].toArray = vs.toArray := by injection hvs
  have h8 : [.int .i64 kk, .string nn, .slice A1 n1 c1, .slice A2 n2 c2, .slice A3 n3 c3, .slice A4 n4 c4, .slice A5 n5 c5, .slice A6 n6 c6, .slice none 0 0] = vs := by simpa using congrArg Array.toList h7
  have hsl : Sl 3 RRd W (Nx (w.heap.size + 1) cb W) rv acc := sl_nx RRd.good (by omega) hcb (hrow.sl RRd.good hm)
  have hR : RCmd (LsIn d) W (Nx (w.heap.size + 1) cb W) [.int .i64 kk, .string nn, .slice A1 n1 c1, .slice A2 n2 c2, .slice A3 n3 c3, .slice A4 n4 c4, .slice A5 n5 c5, .slice A6 n6 c6, rv] (c.withR acc) := by
    obtain ⟨k, n, xs, ws, cc, b, o, cs, rs⟩ := c
    obtain ⟨av, wv, cv, bv, ov, sv, rv', hl, g1, g2, g3, g4, g5, g6, g7, g8⟩ := hr
    exact ⟨av, wv, cv, bv, ov, sv, rv, congrArg (fun t => List.set t 8 rv) (h8.trans hl), g1, g2, g3, g4, g5, g6, hsl, hn⟩
  obtain ⟨hk, v, hv, hrd, hV⟩ := h.done (LsIn.good d) hR
  injection hv with hv
  subst hv
  exact ⟨hk, _, rfl, hrd, _, rfl, hV⟩
set_option maxRecDepth 100000 in
set_option maxHeartbeats 6400000 in
/-- .. what stands there is read. -/
theorem compound_ok {lists : Bs → Rs (List LiT)} {choice : Bs → Rs CmdT} {sc : Bs → Option Int} {d wi : Nat} (hL : LsOk lists d wi) (hCh : ChOk choice d wi) (hCn : ∀ l c r, choice l = .ok c r → noR c) (hWd : WdOk (wordL sc) wi) (hless : ∀ l x r, branchL lists sc l = .ok x r → r.length < l.length) (hsc : ScOk sc wi) (hwi : wi ≤ 100) (rb : Nat) (s : ByteArray) (l : Bs) (w : World) (h : RdS w rb s l wi) (hs : s.size ≤ 8192) {c : CmdT} {r2 : Bs} (hc : cpM lists choice sc (nextL l).1 (nextL l).2 = some (.ok c r2)) :
    Calls Try.prog 40 #[.pointer (some ⟨rb, 0, none⟩)] w (Reads rb s wi (compoundL lists choice sc l) (VOpt (LsIn d)) w) := by
  have HW := Lib.hid h
  have hb0 : Below w.heap.size w (w.alloc (.cells #[.int .i64 0, .string ⟨#[]⟩, .slice none 0 0, .slice none 0 0, .slice none 0 0, .slice none 0 0, .slice none 0 0, .slice none 0 0, .slice none 0 0] 42)) := (Below.refl _ _).alloc (Nat.le_refl _) _
  have HB0 := Lib.hid hb0
  have hnx := next_any rb s l wi _ (h.told hb0) hs
  have r1c := (h.told hb0).c1
  have hz := h.lt
  unfold NextPost at hnx
  rw [comp_eq, hc]
  obtain ⟨key, hkey⟩ : ∃ x, (nextL l).1 = x := ⟨_, rfl⟩
  obtain ⟨r1, hr1⟩ : ∃ x, (nextL l).2 = x := ⟨_, rfl⟩
  rw [hkey, hr1] at hnx hc
  have hways := cpM_some hc
  have q1 := str_dec key [40]
  rw [show (nm [40]).toList = [40] from by rw [listD]; rfl] at q1
  have q2 := str_dec key [123]
  rw [show (nm [123]).toList = [123] from by rw [listD]; rfl] at q2
  have q3 := str_dec key [105, 102]
  rw [show (nm [105, 102]).toList = [105, 102] from by rw [listD]; rfl] at q3
  have q4 := str_dec key [119, 104, 105, 108, 101]
  rw [show (nm [119, 104, 105, 108, 101]).toList = [119, 104, 105, 108, 101] from by rw [listD]; rfl] at q4
  have q5 := str_dec key [117, 110, 116, 105, 108]
  rw [show (nm [117, 110, 116, 105, 108]).toList = [117, 110, 116, 105, 108] from by rw [listD]; rfl] at q5
  have q6 := str_dec key [102, 111, 114]
  rw [show (nm [102, 111, 114]).toList = [102, 111, 114] from by rw [listD]; rfl] at q6
  have q7 := str_dec key [99, 97, 115, 101]
  rw [show (nm [99, 97, 115, 101]).toList = [99, 97, 115, 101] from by rw [listD]; rfl] at q7
  have HNX := Lib.hid hnx
  obtain ⟨E, hE⟩ : ∃ E, cpE sc l (some (.ok c r2)) = E := ⟨_, rfl⟩
  rw [hE]
  have HE := Lib.hid hE
  have HWY := Lib.hid hways
  clear hnx hc hkey hr1 h hb0 hways hE
  go_enter Try.func40, Try.ntmps40
  go_wp2_with fail
  refine HNX.out.mono ?_
  rintro e W ⟨rfl, hb, hr, hkl⟩
  have HRD := Lib.hid ((HW.out.told HB0.out).told hb)
  have HK := Lib.hid ((kept_told (S := (· = rb)) HB0.out).trans (kept_told hb))
  have c1 := HRD.out.c1
  have f1 := HRD.out.fz 1
  have lt1 := HRD.out.lt
  have HRES : Hid (BoxC w.heap.size (cmd0 (.int .i64 0) (.string ⟨#[]⟩)) W) := Lib.hid ((hb.block _ (by simp)).trans (heap_alloc_new w _))
  have hks := Kept.setCell (S := (· = rb)) (w := W) ⟨rb, 1, none⟩ (.int .i64 (pl s r1)) rfl
  have hst0 := CSg.start (HRES.out.kept hks (by omega)) (HRD.out.at_ hr rfl) (HK.out.trans hks) hz [.int .i64 0, .string ⟨#[]⟩, .slice none 0 0, .slice none 0 0, .slice none 0 0, .slice none 0 0, .slice none 0 0, .slice none 0 0, .slice none 0 0]
  rw [show (W.setCell ⟨rb, 1, none⟩ (.int .i64 (pl s r1))).heap.size = W.heap.size from by simp] at hst0
  have HST := Lib.hid hst0
  clear hst0
  clear hb hr hkl hks
  go_upto_block 0 with (fail)
  go_cut [] from 19 to 54 (fun wx => CpBox rb s wi d w W.heap.size r2 c wx)
  case first =>
    rcases HWY.out with ⟨hk, hx⟩ | ⟨hk, hx⟩ | ⟨hk, hx⟩ | ⟨hk, hx⟩ | ⟨hk, hx⟩ | ⟨hk, hx⟩ | ⟨hk, hx⟩
    · have hd : ∀ K, K ≠ [40] → ¬ key = K := fun K hK e => hK (e.symm.trans hk)
      rw [decide_eq_true hk] at q1
      rw [decide_eq_false (hd _ (by decide))] at q2
      rw [decide_eq_false (hd _ (by decide))] at q3
      rw [decide_eq_false (hd _ (by decide))] at q4
      rw [decide_eq_false (hd _ (by decide))] at q5
      rw [decide_eq_false (hd _ (by decide))] at q6
      rw [decide_eq_false (hd _ (by decide))] at q7
      have HC := Lib.hid (fun W (hW : RdS W rb s r1 wi) => listsTo_any hL rb s r1 [41] W hW hs)
      obtain ⟨b, hy, hcq⟩ := mapB_ok hx
      subst hcq
      clear hx
      have hx := hy
      clear hy
      rw [hx] at HC
      clear hx hk hd HWY
      go_wp2_with fail
      refine (HC.out _ HST.out.rd).mono ?_
      rintro e W5 ⟨hk, v5, rfl, hr, hv⟩
      obtain ⟨B, m5, d5, rfl⟩ := LsIn.form hv
      have HBX := Lib.hid (CpBox.of (c := .mk 3 [] [] [] [] b [] [] []) (kk := 3) (nn := ⟨#[]⟩) (A1 := none) (A2 := none) (A3 := none) (A4 := B) (A5 := none) (A6 := none) (n1 := 0) (n2 := 0) (n3 := 0) (n4 := m5) (n5 := 0) (n6 := 0) (c1 := 0) (c2 := 0) (c3 := 0) (c4 := d5) (c5 := 0) (c6 := 0) HST.out hk hr ⟨_, _, _, _, _, _, _, rfl, Sl.nil _ _ _ _ _ _, Sl.nil _ _ _ _ _ _, LsIn.nil _ _ _ _ _, hv, LsIn.nil _ _ _ _ _, Sl.nil _ _ _ _ _ _, Sl.nil _ _ _ _ _ _, fun _ => rfl⟩)
      have hs5 := HST.out.step hk hr
      obtain ⟨⟨g0, g1, g2, g3, g4, g5, g6, g7, g8⟩, gf⟩ := BoxC.nine hs5.box
      have hz5 := hs5.box.lt
      clear hk hr hv hs5
      go_wp2_with fail
      go_meet
      exact HBX.out
    · have hd : ∀ K, K ≠ [123] → ¬ key = K := fun K hK e => hK (e.symm.trans hk)
      rw [decide_eq_false (hd _ (by decide))] at q1
      rw [decide_eq_true hk] at q2
      rw [decide_eq_false (hd _ (by decide))] at q3
      rw [decide_eq_false (hd _ (by decide))] at q4
      rw [decide_eq_false (hd _ (by decide))] at q5
      rw [decide_eq_false (hd _ (by decide))] at q6
      rw [decide_eq_false (hd _ (by decide))] at q7
      have HC := Lib.hid (fun W (hW : RdS W rb s r1 wi) => listsTo_any hL rb s r1 [125] W hW hs)
      obtain ⟨b, hy, hcq⟩ := mapB_ok hx
      subst hcq
      clear hx
      have hx := hy
      clear hy
      rw [hx] at HC
      clear hx hk hd HWY
      go_wp2_with fail
      refine (HC.out _ HST.out.rd).mono ?_
      rintro e W5 ⟨hk, v5, rfl, hr, hv⟩
      obtain ⟨B, m5, d5, rfl⟩ := LsIn.form hv
      have HBX := Lib.hid (CpBox.of (c := .mk 2 [] [] [] [] b [] [] []) (kk := 2) (nn := ⟨#[]⟩) (A1 := none) (A2 := none) (A3 := none) (A4 := B) (A5 := none) (A6 := none) (n1 := 0) (n2 := 0) (n3 := 0) (n4 := m5) (n5 := 0) (n6 := 0) (c1 := 0) (c2 := 0) (c3 := 0) (c4 := d5) (c5 := 0) (c6 := 0) HST.out hk hr ⟨_, _, _, _, _, _, _, rfl, Sl.nil _ _ _ _ _ _, Sl.nil _ _ _ _ _ _, LsIn.nil _ _ _ _ _, hv, LsIn.nil _ _ _ _ _, Sl.nil _ _ _ _ _ _, Sl.nil _ _ _ _ _ _, fun _ => rfl⟩)
      have hs5 := HST.out.step hk hr
      obtain ⟨⟨g0, g1, g2, g3, g4, g5, g6, g7, g8⟩, gf⟩ := BoxC.nine hs5.box
      have hz5 := hs5.box.lt
      clear hk hr hv hs5
      go_wp2_with fail
      go_meet
      exact HBX.out
    · have hd : ∀ K, K ≠ [105, 102] → ¬ key = K := fun K hK e => hK (e.symm.trans hk)
      rw [decide_eq_false (hd _ (by decide))] at q1
      rw [decide_eq_false (hd _ (by decide))] at q2
      rw [decide_eq_true hk] at q3
      rw [decide_eq_false (hd _ (by decide))] at q4
      rw [decide_eq_false (hd _ (by decide))] at q5
      rw [decide_eq_false (hd _ (by decide))] at q6
      rw [decide_eq_false (hd _ (by decide))] at q7
      have HC := Lib.hid (fun W (hW : RdS W rb s r1 wi) => hCh rb s r1 W hW hs)
      have hno := hCn _ _ _ hx
      rw [hx] at HC
      clear hx hk hd HWY
      go_wp2_with fail
      refine (HC.out _ HST.out.rd).mono ?_
      rintro e W5 ⟨hk, v5, rfl, hr, hv⟩
      obtain ⟨kk, nn, A1, A2, A3, A4, A5, A6, n1, n2, n3, n4, n5, n6, c1, c2, c3, c4, c5, c6, rfl, hrep⟩ := cmd_open0 hv hno
      have HBX := Lib.hid (CpBox.of HST.out hk hr hrep)
      have hs5 := HST.out.step hk hr
      obtain ⟨⟨g0, g1, g2, g3, g4, g5, g6, g7, g8⟩, gf⟩ := BoxC.nine hs5.box
      have hz5 := hs5.box.lt
      clear hk hr hv hs5 hrep hno
      go_wp2_with fail
      go_meet
      exact HBX.out
    · have hd : ∀ K, K ≠ [119, 104, 105, 108, 101] → ¬ key = K := fun K hK e => hK (e.symm.trans hk)
      rw [decide_eq_false (hd _ (by decide))] at q1
      rw [decide_eq_false (hd _ (by decide))] at q2
      rw [decide_eq_false (hd _ (by decide))] at q3
      rw [decide_eq_true hk] at q4
      rw [decide_eq_false (hd _ (by decide))] at q5
      rw [decide_eq_false (hd _ (by decide))] at q6
      rw [decide_eq_false (hd _ (by decide))] at q7
      have HC := Lib.hid (fun W (hW : RdS W rb s r1 wi) => loop_any hL 5 rb s r1 W hW hs)
      have hno := loop_nil hx
      rw [hx] at HC
      clear hx hk hd HWY
      go_wp2_with fail
      refine (HC.out _ HST.out.rd).mono ?_
      rintro e W5 ⟨hk, v5, rfl, hr, hv⟩
      obtain ⟨kk, nn, A1, A2, A3, A4, A5, A6, n1, n2, n3, n4, n5, n6, c1, c2, c3, c4, c5, c6, rfl, hrep⟩ := cmd_open0 hv hno
      have HBX := Lib.hid (CpBox.of HST.out hk hr hrep)
      have hs5 := HST.out.step hk hr
      obtain ⟨⟨g0, g1, g2, g3, g4, g5, g6, g7, g8⟩, gf⟩ := BoxC.nine hs5.box
      have hz5 := hs5.box.lt
      clear hk hr hv hs5 hrep hno
      go_wp2_with fail
      go_meet
      exact HBX.out
    · have hd : ∀ K, K ≠ [117, 110, 116, 105, 108] → ¬ key = K := fun K hK e => hK (e.symm.trans hk)
      rw [decide_eq_false (hd _ (by decide))] at q1
      rw [decide_eq_false (hd _ (by decide))] at q2
      rw [decide_eq_false (hd _ (by decide))] at q3
      rw [decide_eq_false (hd _ (by decide))] at q4
      rw [decide_eq_true hk] at q5
      rw [decide_eq_false (hd _ (by decide))] at q6
      rw [decide_eq_false (hd _ (by decide))] at q7
      have HC := Lib.hid (fun W (hW : RdS W rb s r1 wi) => loop_any hL 6 rb s r1 W hW hs)
      have hno := loop_nil hx
      rw [hx] at HC
      clear hx hk hd HWY
      go_wp2_with fail
      refine (HC.out _ HST.out.rd).mono ?_
      rintro e W5 ⟨hk, v5, rfl, hr, hv⟩
      obtain ⟨kk, nn, A1, A2, A3, A4, A5, A6, n1, n2, n3, n4, n5, n6, c1, c2, c3, c4, c5, c6, rfl, hrep⟩ := cmd_open0 hv hno
      have HBX := Lib.hid (CpBox.of HST.out hk hr hrep)
      have hs5 := HST.out.step hk hr
      obtain ⟨⟨g0, g1, g2, g3, g4, g5, g6, g7, g8⟩, gf⟩ := BoxC.nine hs5.box
      have hz5 := hs5.box.lt
      clear hk hr hv hs5 hrep hno
      go_wp2_with fail
      go_meet
      exact HBX.out
    · have hd : ∀ K, K ≠ [102, 111, 114] → ¬ key = K := fun K hK e => hK (e.symm.trans hk)
      rw [decide_eq_false (hd _ (by decide))] at q1
      rw [decide_eq_false (hd _ (by decide))] at q2
      rw [decide_eq_false (hd _ (by decide))] at q3
      rw [decide_eq_false (hd _ (by decide))] at q4
      rw [decide_eq_false (hd _ (by decide))] at q5
      rw [decide_eq_true hk] at q6
      rw [decide_eq_false (hd _ (by decide))] at q7
      have HC := Lib.hid (fun W (hW : RdS W rb s r1 wi) => each_any hL hWd rb s r1 W hW hs)
      have hno := each_nil hx
      rw [hx] at HC
      clear hx hk hd HWY
      go_wp2_with fail
      refine (HC.out _ HST.out.rd).mono ?_
      rintro e W5 ⟨hk, v5, rfl, hr, hv⟩
      obtain ⟨kk, nn, A1, A2, A3, A4, A5, A6, n1, n2, n3, n4, n5, n6, c1, c2, c3, c4, c5, c6, rfl, hrep⟩ := cmd_open0 hv hno
      have HBX := Lib.hid (CpBox.of HST.out hk hr hrep)
      have hs5 := HST.out.step hk hr
      obtain ⟨⟨g0, g1, g2, g3, g4, g5, g6, g7, g8⟩, gf⟩ := BoxC.nine hs5.box
      have hz5 := hs5.box.lt
      clear hk hr hv hs5 hrep hno
      go_wp2_with fail
      go_meet
      exact HBX.out
    · have hd : ∀ K, K ≠ [99, 97, 115, 101] → ¬ key = K := fun K hK e => hK (e.symm.trans hk)
      rw [decide_eq_false (hd _ (by decide))] at q1
      rw [decide_eq_false (hd _ (by decide))] at q2
      rw [decide_eq_false (hd _ (by decide))] at q3
      rw [decide_eq_false (hd _ (by decide))] at q4
      rw [decide_eq_false (hd _ (by decide))] at q5
      rw [decide_eq_false (hd _ (by decide))] at q6
      rw [decide_eq_true hk] at q7
      have HC := Lib.hid (fun W (hW : RdS W rb s r1 wi) => caseOf_any (branch_any hL hWd) hless hWd rb s r1 W hW hs)
      have hno := case_nil hx
      rw [hx] at HC
      clear hx hk hd HWY
      go_wp2_with fail
      refine (HC.out _ HST.out.rd).mono ?_
      rintro e W5 ⟨hk, v5, rfl, hr, hv⟩
      obtain ⟨kk, nn, A1, A2, A3, A4, A5, A6, n1, n2, n3, n4, n5, n6, c1, c2, c3, c4, c5, c6, rfl, hrep⟩ := cmd_open0 hv hno
      have HBX := Lib.hid (CpBox.of HST.out hk hr hrep)
      have hs5 := HST.out.step hk hr
      obtain ⟨⟨g0, g1, g2, g3, g4, g5, g6, g7, g8⟩, gf⟩ := BoxC.nine hs5.box
      have hz5 := hs5.box.lt
      clear hk hr hv hs5 hrep hno
      go_wp2_with fail
      go_meet
      exact HBX.out
  case rest =>
    clear c1 f1 lt1
    obtain ⟨kk, nn, A1, A2, A3, A4, A5, A6, n1, n2, n3, n4, n5, n6, c1, c2, c3, c4, c5, c6, hS0, hrep0⟩ := hcut
    have hz0 := hS0.box.lt
    have hc0 := hS0.clt
    have hr2s := hS0.rd.len
    have hrep1 : VAgg (RCmd (LsIn d)) wc (Lx (w.heap.size + 1) W.heap.size wc.heap.size) (.agg #[.int .i64 kk, .string nn, .slice A1 n1 c1, .slice A2 n2 c2, .slice A3 n3 c3, .slice A4 n4 c4, .slice A5 n5 c5, .slice A6 n6 c6, .slice none 0 0]) c := ⟨_, rfl, RCmd.good (LsIn.good d) _ _ _ _ _ _ (fun k _ hS => ⟨⟨hS.1, hS.2.1, hS.2.2⟩, rfl⟩) hrep0⟩
    have HP0 := Lib.hid (And.intro hS0 hrep1)
    obtain ⟨M, hM⟩ : ∃ M, redirsN sc (r2.length + 1) [] r2 = M := ⟨_, rfl⟩
    have HMB : Hid (∀ a er, M = .bad a er → E = .bad a er) := Lib.hid (fun a er hx => by rw [← HE.out]; unfold cpE; simp only; rw [hM, hx])
    have HMO : Hid (∀ rs r3, M = .ok rs r3 → E = .ok (some (c.withR rs)) r3) := Lib.hid (fun rs r3 hx => by rw [← HE.out]; unfold cpE; simp only; rw [hM, hx])
    have HM0 : Hid (r2.length < r2.length + 1 ∧ ([] : List RdT).length + (r2.length + 1) = r2.length + 1 ∧ redirsN sc (r2.length + 1) [] r2 = M) := Lib.hid ⟨by omega, by simp, hM⟩
    have HSC := Lib.hid hsc
    have hlw := HST.out.lt
    clear hS0 hrep0 hrep1 hM HST HRES HK HRD HWY HNX hL hCh hCn hWd hless q1 q2 q3 q4 q5 q6 q7 hsc
    obtain ⟨z1, hz1⟩ : ∃ z1, wc.heap.size = z1 := ⟨_, rfl⟩
    rw [hz1] at HP0 hz0
    have HZE := Lib.hid hz1
    clear hz1
    obtain ⟨i0, hi, hy0, hy1, hy2⟩ := info_parts redirInfo
    have HI := Lib.hid hi; have HZ0 := Lib.hid hy0; have HZ1 := Lib.hid hy1; have HZ2 := Lib.hid hy2; clear hi hy0 hy1 hy2
    generalize W.heap.size = cb at *
    go_wp2_with fail
    go_loopg [] (r2.length + 1) (fun k wr => ∃ (m : Bs) (acc : List RdT) (A : Option Addr) (ca : Nat), Hid (m.length < k ∧ acc.length + k = r2.length + 1 ∧ redirsN sc k acc m = M) ∧ Hid (CSg rb s wi w cb m [.int .i64 kk, .string nn, .slice A1 n1 c1, .slice A2 n2 c2, .slice A3 n3 c3, .slice A4 n4 c4, .slice A5 n5 c5, .slice A6 n6 c6, .slice A acc.length ca] wr ∧ Row 3 RRd 59 z1 (fun _ => False) wr (.slice A acc.length ca) acc ∧ VAgg (RCmd (LsIn d)) wr (Lx (w.heap.size + 1) cb z1) (.agg #[.int .i64 kk, .string nn, .slice A1 n1 c1, .slice A2 n2 c2, .slice A3 n3 c3, .slice A4 n4 c4, .slice A5 n5 c5, .slice A6 n6 c6, .slice none 0 0]) c ∧ (acc = [] → Value.slice A acc.length ca = .slice none 0 0) ∧ z1 ≤ wr.heap.size))
    case atStart => exact ⟨r2, [], none, 0, HM0, Lib.hid ⟨HP0.out.1, Row.nil _ _ _ _ _ _, HP0.out.2, fun _ => rfl, Nat.le_of_eq HZE.out.symm⟩⟩
    case round =>
      obtain ⟨m, acc, A, ca, HMM, HPS⟩ := hrel
      clear HP0 HM0
      have hrs := redirStands_any rb s m wi wr HPS.out.1.rd hs
      have hnb : acc.length ≤ 9000 := by have := HMM.out.2.1; omega
      cases hx : arrowL m with
      | none =>
        rw [hx] at hrs
        have HRS := Lib.hid hrs
        have HEE := Lib.hid (HMO.out acc m (by rw [← HMM.out.2.2]; exact rn_end hx))
        clear hrs hx HMM
        go_wp2_with fail
        refine HRS.out.mono ?_
        rintro e W5 ⟨rfl, rfl⟩
        have hres := HPS.out.1.res
        obtain ⟨⟨e0, e1, e2, e3, e4, e5, e6, e7, e8⟩, ef⟩ := BoxC.nine HPS.out.1.box
        obtain ⟨⟨g0, g1, g2, g3, g4, g5, g6, g7, g8⟩, gf⟩ := BoxC.nine hres
        have hne2 : ¬ cb = w.heap.size := by omega
        have hne3 : ¬ w.heap.size = cb := by omega
        go_wp2_with fail
        refine bodyPost_ret (results_cell2 rfl _ _ _ 42 _ (0, 0) _ rfl (nine_set hres _ _ _ _ _ _ _ _ _) Try.underlying42 rfl (by kernel_rfl)) rfl ?_
        rw [HEE.out]
        exact cp_done HPS.out.1 HPS.out.2.2.1 HPS.out.2.2.2.2 hz0 (by omega) HPS.out.2.1 HPS.out.2.2.2.1 (by omega)
      | some y =>
        rw [hx] at hrs
        have HRS := Lib.hid hrs
        obtain ⟨k, rfl⟩ : ∃ k, gk = k + 1 := ⟨gk - 1, by have := HMM.out.1; omega⟩
        have HRDR := Lib.hid (fun W (hW : RdS W rb s m wi) => redir_any HSC.out hwi rb s m W hW hs (by rw [hx]; rfl))
        cases hr : redirL sc m with
        | bad a er =>
          rw [hr] at HRDR
          have HEE := Lib.hid (HMB.out a er (by rw [← HMM.out.2.2]; exact rn_bad hx hr))
          clear hrs hx hr HMM
          go_wp2_with fail
          refine HRS.out.mono ?_
          rintro e W5 ⟨rfl, rfl⟩
          have S0 : Hid (wr.drew.cell? ⟨cb, 8, none⟩ = some (.slice A acc.length ca)) := Lib.hid (cell_blk HPS.out.1.drew.box 8)
          have HCW := Lib.hid (HRDR.out wr.drew HPS.out.1.drew.rd)
          have hpk := HPS.out.1.drew.kept
          clear HPS
          go_wp2_with fail
          refine wp_region_held_drew (S := fun W => W.cell? ⟨cb, 8, none⟩ = some (.slice A acc.length ca)) (by kernel_rfl) S0.out (fun hHeld => ?_)
          refine wpAnyH_take (i := 0) (v := ?_) rfl (by kernel_rfl) (by kernel_rfl) (by kernel_rfl) (fun _ _ _ h => h) (Or.inl ⟨by rfl, ?_⟩) (by assumption) ?_
          rotate_left
          · (intro w hSw; (try dsimp only at hSw); go_simp; try with_reducible rfl)
          try simp only [List.getElem_toArray, List.getElem_cons_zero, Act.put, List.setIfInBounds_toArray, List.set_cons_zero, List.set_cons_succ]
          refine wpAnyH_take (i := 1) (v := ?_) rfl (by kernel_rfl) (by kernel_rfl) (by kernel_rfl) (fun _ _ _ h => h) (Or.inl ⟨by rfl, ?_⟩) (by assumption) ?_
          rotate_left
          · (intro w hSw; (try dsimp only at hSw); go_simp; try with_reducible rfl)
          try simp only [List.getElem_toArray, List.getElem_cons_zero, List.getElem_cons_succ, Act.put, List.setIfInBounds_toArray, List.set_cons_zero, List.set_cons_succ]
          refine wpAnyH_take (i := 2) (v := ?_) rfl (by kernel_rfl) (by kernel_rfl) (by kernel_rfl) (fun _ _ _ h => h) (Or.inl ⟨by rfl, ?_⟩) (by assumption) ?_
          rotate_left
          · (intro w hSw; (try dsimp only at hSw); go_simp; try with_reducible rfl)
          try simp only [List.getElem_toArray, List.getElem_cons_zero, List.getElem_cons_succ, Act.put, List.setIfInBounds_toArray, List.set_cons_zero, List.set_cons_succ]
          refine wpAnyH_ready (rs := [3]) (by kernel_rfl) (by simp) ?_
          refine AllReadyH.cons rfl (fun K hK => ?_) AllReadyH.nil
          go_simp
          go_wp2_with (go_at_call 56; refine HCW.out.mono ?_; rintro e w3 ⟨hk3, rfl⟩; simp only [sflt])
          rw [HEE.out]
          exact ⟨rfl, hpk.trans hk3, rfl⟩
        | ok x q =>
          rw [hr] at HRDR
          have hql := (redir_ext [] hr (by rw [hx]; rfl)).2
          have HN : Hid (q.length < k ∧ (acc ++ [x]).length + k = r2.length + 1 ∧ redirsN sc k (acc ++ [x]) q = M) := Lib.hid ⟨by have := HMM.out.1; omega, by have := HMM.out.2.1; simp; omega, by rw [← HMM.out.2.2]; exact (rn_ok hx hr).symm⟩
          clear hrs hx hr HMM hql
          obtain ⟨n, hn0⟩ : ∃ n : Nat, acc.length = n := ⟨_, rfl⟩
          rw [hn0] at HPS hnb
          have HNN : Hid (acc.length = n) := Lib.hid hn0
          clear hn0
          go_wp2_with fail
          refine HRS.out.mono ?_
          rintro e W5 ⟨rfl, rfl⟩
          go_wp2_with fail
          obtain ⟨vss, Sx, hRw⟩ := HPS.out.2.1.drew RRd.good
          have HPD := Lib.hid HPS.out.1.drew
          have HRW := Lib.hid hRw
          have HCW := Lib.hid (HRDR.out wr.drew HPD.out.rd)
          have hz1w : z1 ≤ wr.heap.size := HPS.out.2.2.2.2
          have s1 := cell_blk HPD.out.box 8
          have sz := HPD.out.box.lt
          simp at s1
          clear hRw
          go_region_law (first
            | (go_simp; go_at_call 56; refine HCW.out.mono ?_; rintro e w2 ⟨hk2, v2, rfl, hr2, hv2⟩; obtain ⟨fd, op, B1, m1, d1, rfl, hrep⟩ := redir_open hv2; have HK2 := Lib.hid hk2; have HR2 := Lib.hid hr2; have HREP := Lib.hid hrep; have hbx2 := HPD.out.box.kept hk2 (by have := HPD.out.lt; have := HPD.out.clt; omega); have HBX2 := Lib.hid hbx2; have j1 := cell_blk hbx2 8; have jz := hbx2.lt; simp at j1; have hks2 := hk2.size; simp at hks2; have HOW := Lib.hid ((row_kept HRW.out.row hk2 (fun k e1 e2 => by have := (HRW.out.row.lt k e1).1; have := HPD.out.lt; have := HPD.out.clt; omega)).alloc (.cells #[.int .i64 fd, .string op, .slice B1 m1 d1] 59)); have HNEW := Lib.hid (new_cells w2 [.int .i64 fd, .string op, .slice B1 m1 d1] 59); have HOWN := Lib.hid (HNN.out ▸ HOW.out); have HBS : Hid (z1 ≤ (w2.alloc (.cells #[.int .i64 fd, .string op, .slice B1 m1 d1] 59)).heap.size) := Lib.hid (by simp; omega); clear hk2 hr2 hv2 hbx2 hrep hks2)
            | (refine step_append_lies _ rfl (.tmp 58) (.tmp 61) 40 rfl z1 59 i0 (.agg #[.int .i64 0, .string ⟨#[]⟩, .slice none 0 0]) 3 48 Try.underlying40 HI.out HZ0.out HZ1.out HZ2.out rfl (by decide) (.slice A n ca) n vss.flatten (by simp [Act.eval]) HOWN.out ⟨w2.heap.size, 0, none⟩ 1 1 [.int .i64 fd, .string op, .slice B1 m1 d1] (by simp [Act.eval]) rfl HNEW.out (by intro u hu; simp only [List.mem_cons, List.not_mem_nil, or_false] at hu; rcases hu with rfl | rfl | rfl <;> rfl) (by decide) (maxLen_ok (by omega)) (by omega) HBS.out (w2.heap.size + 1) (by simp) ?_; intro g cap w3 hown3 hg3 hat3 hlt3; have HO3 := Lib.hid hown3; have HG3 := Lib.hid hg3; have HA3 := Lib.hid hat3; have hb3 := HG3.out.block cb (by have := HBX2.out.lt; simp; omega) (fun e => by have := (HRW.out.row.lt cb e.symm).1; omega); have hbx3 := hb3.trans ((Below.heap_alloc _ _ _ HBX2.out.lt).trans HBX2.out); have k1 := cell_blk hbx3 8; simp at k1; have fz1 := froz_blk hbx3 8; have hz3 := fin_at hbx3; clear hown3 hg3 hat3 hb3 hbx3))
          all_goals
            obtain ⟨p1, p2, p3, p4⟩ := CSg.app RRd.good 8 HPD.out HRW.out HNN.out (fun k e => e.elim) (by omega) (by simp; omega) (fun e => by have := (HRW.out.row.lt cb e).1; omega) (.inl hz0) HK2.out HR2.out HREP.out rfl HG3.out HO3.out HA3.out
            have hp5 := lx_kept (vagg_good (RCmd.good (LsIn.good d))) ((Kept.drewN (S := fun k => k = rb ∨ k = cb ∨ (Value.slice A n ca).ownBlock = some k) 1).trans p4) (fun k e => by
              rcases e with e | e | e
              · exact .inl (by omega)
              · exact .inr (.inl e)
              · exact .inr (.inr (HRW.out.row.lt k e).1)) HPS.out.2.2.1
            have hp6 := p4.size
            have HPN : Hid (∃ cv', cv' = Value.slice (some ⟨g, 0, none⟩) (acc ++ [x]).length cap ∧ CSg rb s wi w cb q [.int .i64 kk, .string nn, .slice A1 n1 c1, .slice A2 n2 c2, .slice A3 n3 c3, .slice A4 n4 c4, .slice A5 n5 c5, .slice A6 n6 c6, cv'] (w3.setCell ⟨cb, 8, none⟩ (.slice (some ⟨g, 0, none⟩) (n + 1) cap)) ∧ Row 3 RRd 59 z1 (fun _ => False) (w3.setCell ⟨cb, 8, none⟩ (.slice (some ⟨g, 0, none⟩) (n + 1) cap)) cv' (acc ++ [x]) ∧ VAgg (RCmd (LsIn d)) (w3.setCell ⟨cb, 8, none⟩ (.slice (some ⟨g, 0, none⟩) (n + 1) cap)) (Lx (w.heap.size + 1) cb z1) (.agg #[.int .i64 kk, .string nn, .slice A1 n1 c1, .slice A2 n2 c2, .slice A3 n3 c3, .slice A4 n4 c4, .slice A5 n5 c5, .slice A6 n6 c6, .slice none 0 0]) c ∧ z1 ≤ (w3.setCell ⟨cb, 8, none⟩ (.slice (some ⟨g, 0, none⟩) (n + 1) cap)).heap.size) := Lib.hid ⟨_, by rw [show (acc ++ [x]).length = n + 1 from by have := HNN.out; simp; exact this], p1, p2, hp5, by simp at hp6 ⊢; omega⟩
            clear p1 p2 p3 p4 hp5 hp6
            go_wp2_with fail
            go_roundg k
            case measure => omega
            case rel =>
              obtain ⟨cv', hcv, hP1, hP2, hP3, hP4⟩ := HPN.out
              subst hcv
              exact ⟨q, acc ++ [x], some ⟨g, 0, none⟩, cap, HN, Lib.hid ⟨hP1, hP2, hP3, fun e => by simp at e, hP4⟩⟩

theorem compound_any {lists : Bs → Rs (List LiT)} {choice : Bs → Rs CmdT} {sc : Bs → Option Int} {d wi : Nat} (hL : LsOk lists d wi) (hCh : ChOk choice d wi) (hCn : ∀ l c r, choice l = .ok c r → noR c) (hWd : WdOk (wordL sc) wi) (hless : ∀ l x r, branchL lists sc l = .ok x r → r.length < l.length) (hsc : ScOk sc wi) (hwi : wi ≤ 100) : CpOk (compoundL lists choice sc) d wi := by
  intro rb s l w h hs
  cases hc : cpM lists choice sc (nextL l).1 (nextL l).2 with
  | none => exact compound_none rb s l w h hs hc
  | some x =>
    cases x with
    | bad a er => exact compound_bad hL hCh hWd hless rb s l w h hs hc
    | ok c r2 => exact compound_ok hL hCh hCn hWd hless hsc hwi rb s l w h hs hc

end Go.Proofs.Ytgajbehlggikdaa.Sw
