/- DERIVED. The walk over gather's add. -/
import Derived.Test.YtgajbehlggikdaaWdPut
namespace Go.Proofs.Ytgajbehlggikdaa.Wd
open Go.RowKit
open PathM WdM
set_option linter.unusedVariables false

theorem row_type {w : World} {base : Nat} {e : TypeId} {size n k : Nat} {v : Value} {xs : List Value} (h : w.ownsRow base e size v n xs) (hk : v.ownBlock = some k) : ∃ cs, w.heap[k]? = some (.cells cs e (0, 0)) := by
  rcases h.2 with ⟨rfl, _⟩ | ⟨b, cap, cur, rfl, hb, hgg, rest⟩
  · cases hk
  · injection hk with hk
    simp only at hk
    subst hk
    exact ⟨cur, hgg⟩
theorem text_done {d gb : Nat} {ps : List PT} {tx t : Bs} {op q : Bool} {pv tv v' : Value} {psl : List (PT × Value)} {w3 w' : World} (h : GIn d w3 gb ⟨ps, tx, op, q⟩ pv tv psl)
    (hown : w'.ownsRow (gb + 1) 5 1 v' (tx.length + (nm t).size) (u8C tx ++ Lib.strCells (nm t))) (hg : w3.grownBy w' tv.ownBlock) :
    GIn d (w'.setCell ⟨gb, 1, none⟩ v') gb ⟨ps, tx ++ t, op, q⟩ pv v' psl ∧ Kept (fun k => gb ≤ k) w3 (w'.setCell ⟨gb, 1, none⟩ v') := by
  have hlt := fin_at h.box
  have hblk : ∀ k, k < w3.heap.size → tv.ownBlock ≠ some k → w'.heap[k]? = w3.heap[k]? := fun k h1 h2 => hg.block k h1 (fun e => h2 e.symm)
  have hbox : w'.heap[gb]? = some (.cells #[pv, tv, .bool op, .bool q] 88 (0, 0)) :=
    (hblk gb hlt (fun e => by have := (h.trow.lt _ e).1; omega)).trans h.box
  have hset : ∀ k, gb < k → (w'.setCell ⟨gb, 1, none⟩ v').heap[k]? = w'.heap[k]? := fun k hk => Below.heap_setCell w' ⟨gb, 1, none⟩ v' k (by simp only; omega)
  have hrow2 : (w'.setCell ⟨gb, 1, none⟩ v').ownsRow (gb + 1) 5 1 v' (tx ++ t).length (u8C (tx ++ t)) := by
    have e1 : (tx ++ t).length = tx.length + (nm t).size := by rw [List.length_append, nm_size]
    have e2 : u8C (tx ++ t) = u8C tx ++ Lib.strCells (nm t) := List.map_append
    rw [e1, e2]
    exact ownsRow_setCell_below hown (a := ⟨gb, 1, none⟩) (Nat.lt_succ_self gb) _
  have hnot : ∀ k, PTy w' k → v'.ownBlock ≠ some k := fun k ⟨cs, fr, hk⟩ e => by
    obtain ⟨cs2, h2⟩ := row_type hown e
    rw [hk] at h2
    injection h2 with h2
    injection h2 with _ h3
    exact absurd h3 (by decide)
  have hprow : w'.ownsRow (gb + 1) 64 5 pv psl.length (psl.flatMap ptC) := by
    refine h.prow.kept hg ?_
    cases hv : pv.ownBlock with
    | none => exact .inl rfl
    | some k => exact .inr fun e => h.apart k hv e.symm
  refine ⟨⟨set_blk (j := 1) hbox v', h.parts, ownsRow_setCell_below hprow (a := ⟨gb, 1, none⟩) (Nat.lt_succ_self gb) _, hrow2, fun k hk => ?_, fun p hp => ?_⟩, ?_⟩
  · obtain ⟨cs, hcs⟩ := row_type hprow hk
    exact hnot k ⟨cs, _, hcs⟩
  · have hb : ∀ k, Sub w3 gb pv tv k → (w'.setCell ⟨gb, 1, none⟩ v').heap[k]? = w3.heap[k]? := fun k hk => (hset k hk.1).trans (hblk k hk.2.1 hk.2.2.2.1)
    refine PIn.mono (fun k _ hk => ?_) d _ _ (PIn.keep hb d _ _ (h.subs p hp))
    exact ⟨hk.1, by have := hk.2.1; have := hg.size; simp; omega, hk.2.2.1, hnot k (hk.2.2.2.2.at (hblk k hk.2.1 hk.2.2.2.1)), hk.2.2.2.2.at (hb k hk)⟩
  · refine (Kept.grown hg fun k e => ?_).trans (Kept.setCell (S := fun k => gb ≤ k) ⟨gb, 1, none⟩ v' (Nat.le_refl gb))
    have := (h.trow.lt k e).1
    omega
set_option maxHeartbeats 3200000 in
/-- From where both ways meet: w2 has what is gathered, h2. -/
theorem add_end {d gb : Nat} {h2 : Ga} {pv2 tv2 : Value} {ps2 : List (PT × Value)} {w2 : World} (h : GIn d w2 gb h2 pv2 tv2 ps2) (q : Bool) : GIn d ((w2.setCell ⟨gb, 2, none⟩ (.bool true)).setCell ⟨gb, 3, none⟩ (.bool q)) gb ⟨h2.ps, h2.tx, true, q⟩ pv2 tv2 ps2 ∧ Kept (fun k => gb ≤ k) w2 ((w2.setCell ⟨gb, 2, none⟩ (.bool true)).setCell ⟨gb, 3, none⟩ (.bool q)) :=
  ⟨h.reset tv2 true q h2.tx rfl h.trow (set_blk (j := 3) (set_blk (j := 2) h.box (.bool true)) (.bool q)) ((Kept.setCell (S := (· = gb)) ⟨gb, 2, none⟩ _ rfl).trans (Kept.setCell ⟨gb, 3, none⟩ _ rfl)),
    (Kept.setCell (S := fun k => gb ≤ k) ⟨gb, 2, none⟩ _ (Nat.le_refl gb)).trans (Kept.setCell ⟨gb, 3, none⟩ _ (Nat.le_refl gb))⟩
set_option maxRecDepth 100000 in
set_option maxHeartbeats 3200000 in
theorem add_same (d gb : Nat) (h2 : Ga) (pv2 tv2 : Value) (ps2 : List (PT × Value)) (t : Bs) (w2 : World) (hg2 : GIn d w2 gb h2 pv2 tv2 ps2) (ht : h2.tx.length + t.length ≤ 100000) :
    Calls Try.prog 66 #[.pointer (some ⟨gb, 0, none⟩), .string (nm t), .bool h2.q] w2 fun e w' => e = .returned (.tuple #[]) ∧ GaIn d w' gb ⟨h2.ps, h2.tx ++ t, true, h2.q⟩ ∧ Kept (fun k => gb ≤ k) w2 w' := by
  obtain ⟨q, hq⟩ : ∃ q, h2.q = q := ⟨_, rfl⟩
  have hf := add_end hg2 q
  have b2 := hg2.box
  rw [hq] at b2 ⊢
  have r2 := cell_blk b2 2
  have r3 := cell_blk b2 3
  have l2 := froz_blk b2 2
  have l3 := froz_blk b2 3
  have l1 := froz_blk b2 1
  have r1 := cell_blk b2 1
  simp at r1 r2 r3
  have hz2 := fin_at b2
  obtain ⟨ta, tc, rfl⟩ := row_len hg2.trow
  obtain ⟨i0, hi, hz0, hz1, hz3⟩ := info_parts u8Info
  have HI := Lib.hid hi; have HZ0 := Lib.hid hz0; have HZ1 := Lib.hid hz1; have HZ2 := Lib.hid hz3
  have hts : (nm t).size = t.length := nm_size t
  have HTS := Lib.hid hts
  have hsz : h2.tx.length + (nm t).size ≤ 100000 := by rw [hts]; exact ht
  have HG3 := Lib.hid hf.1
  have HKF := Lib.hid hf.2
  have HBS : Hid (gb + 1 ≤ ((w2.setCell ⟨gb, 2, none⟩ (.bool true)).setCell ⟨gb, 3, none⟩ (.bool q)).heap.size) := Lib.hid (by simp; omega)
  clear hf hg2 b2 hi hz0 hz1 hz3 hts hq
  go_enter Try.func66, Try.ntmps66
  go_wp2_with (at_builtin; refine Lib.wpList_append_own_string _ rfl (.tmp 25) (.tmp 26) 44 9 rfl (gb + 1) 5 i0 Try.underlying44 Try.underlying9 HI.out HZ0.out HZ1.out HZ2.out (.slice ta h2.tx.length tc) h2.tx.length (u8C h2.tx) rfl HG3.out.trow (nm t) rfl (maxLen_ok (by omega)) (by omega) HBS.out ?_; intro v9 w9 hown9 hg9 _; obtain ⟨va, vc, rfl⟩ := row_len hown9; have HD9 := Lib.hid (text_done HG3.out hown9 hg9); have hb9 := (hg9.block gb (fin_at HG3.out.box) (fun e => by have := (HG3.out.trow.lt gb e.symm).1; omega)).trans HG3.out.box; have q1 := cell_blk hb9 1; have l1 := froz_blk hb9 1; simp at q1; have hz9 := fin_at hb9; clear hown9 hg9 hb9)
  go_end0
  exact ⟨rfl, ⟨_, _, _, HD9.out.1⟩, HKF.out.trans HD9.out.2⟩

set_option maxRecDepth 100000 in
set_option maxHeartbeats 3200000 in
theorem add_diff (d gb : Nat) (g : Ga) (pv tv : Value) (ps : List (PT × Value)) (t : Bs) (q : Bool) (w : World) (hg : GIn d w gb g pv tv ps) (hq : ¬ g.q = q) (hp : g.ps.length ≤ 100000) (hx : g.tx.length ≤ 100000) (ht : t.length ≤ 100000) :
    Calls Try.prog 66 #[.pointer (some ⟨gb, 0, none⟩), .string (nm t), .bool q] w fun e w' => e = .returned (.tuple #[]) ∧ GaIn d w' gb ⟨g.close.ps, g.close.tx ++ t, true, q⟩ ∧ Kept (fun k => gb ≤ k) w w' := by
  have HC := Lib.hid (close_any d gb g pv tv ps w hg hp hx)
  have HPL := Lib.hid hg.prow.lt
  have b0 := hg.box
  have r0 := cell_blk b0 3
  simp at r0
  have hz0 := fin_at b0
  have hne : (g.q == q) = false := by simpa using hq
  obtain ⟨i0, hi, hz0, hz1, hz3⟩ := info_parts u8Info
  have HI := Lib.hid hi; have HZ0 := Lib.hid hz0; have HZ1 := Lib.hid hz1; have HZ2 := Lib.hid hz3
  have hts : (nm t).size = t.length := nm_size t
  have htx : g.close.tx.length ≤ 0 := by rw [(close_len g).2]; exact Nat.le_refl _
  generalize g.close = h2 at *
  clear hi hz0 hz1 hz3 hg b0
  go_enter Try.func66, Try.ntmps66
  go_wp2_with fail
  refine (HC.out).mono ?_
  rintro e w2 h9
  obtain ⟨rfl, h9⟩ := h9
  obtain ⟨pv2, tv2, ps2, hg2, _⟩ := h9.1
  have HK2 := Lib.hid (h9.2.mono (S' := fun k => gb ≤ k) (fun k e => by
    rcases e with e | e
    · omega
    · have := (HPL.out _ e).1; omega))
  have hf := add_end hg2 q
  have b2 := hg2.box
  have r2 := cell_blk b2 2
  have r3 := cell_blk b2 3
  have l2 := froz_blk b2 2
  have l3 := froz_blk b2 3
  have l1 := froz_blk b2 1
  have r1 := cell_blk b2 1
  simp at r1 r2 r3
  have hz2 := fin_at b2
  obtain ⟨ta, tc, rfl⟩ := row_len hg2.trow
  have hsz : h2.tx.length + (nm t).size ≤ 100000 := by rw [hts]; omega
  have HG3 := Lib.hid hf.1
  have HKF := Lib.hid hf.2
  have HBS : Hid (gb + 1 ≤ ((w2.setCell ⟨gb, 2, none⟩ (.bool true)).setCell ⟨gb, 3, none⟩ (.bool q)).heap.size) := Lib.hid (by simp; omega)
  have HTS := Lib.hid hts
  clear hf hg2 b2 h9 r0 hne hq hts
  go_wp2_with (at_builtin; refine Lib.wpList_append_own_string _ rfl (.tmp 25) (.tmp 26) 44 9 rfl (gb + 1) 5 i0 Try.underlying44 Try.underlying9 HI.out HZ0.out HZ1.out HZ2.out (.slice ta h2.tx.length tc) h2.tx.length (u8C h2.tx) rfl HG3.out.trow (nm t) rfl (maxLen_ok (by omega)) (by omega) HBS.out ?_; intro v9 w9 hown9 hg9 _; obtain ⟨va, vc, rfl⟩ := row_len hown9; have HD9 := Lib.hid (text_done HG3.out hown9 hg9); have hb9 := (hg9.block gb (fin_at HG3.out.box) (fun e => by have := (HG3.out.trow.lt gb e.symm).1; omega)).trans HG3.out.box; have q1 := cell_blk hb9 1; have l1 := froz_blk hb9 1; simp at q1; have hz9 := fin_at hb9; clear hown9 hg9 hb9)
  go_end0
  exact ⟨rfl, ⟨_, _, _, HD9.out.1⟩, (HK2.out.trans HKF.out).trans HD9.out.2⟩
theorem add_any (d gb : Nat) (g : Ga) (t : Bs) (q : Bool) (w : World) (h : GaIn d w gb g) (hp : g.ps.length ≤ 50000) (hx : g.tx.length ≤ 50000) (ht : t.length ≤ 50000) :
    Calls Try.prog 66 #[.pointer (some ⟨gb, 0, none⟩), .string (nm t), .bool q] w fun e w' => e = .returned (.tuple #[]) ∧ GaIn d w' gb (g.add t q) ∧ Kept (fun k => gb ≤ k) w w' := by
  obtain ⟨pv, tv, ps, hg⟩ := h
  by_cases hq : g.q = q
  · have e : g.add t q = ⟨g.ps, g.tx ++ t, true, g.q⟩ := by unfold Ga.add; rw [if_pos hq, hq]
    rw [e, ← hq]
    exact add_same d gb g pv tv ps t w hg (by omega)
  · have e : g.add t q = ⟨g.close.ps, g.close.tx ++ t, true, q⟩ := by unfold Ga.add; rw [if_neg hq]
    rw [e]
    exact add_diff d gb g pv tv ps t q w hg hq (by omega) (by omega) (by omega)

end Go.Proofs.Ytgajbehlggikdaa.Wd
