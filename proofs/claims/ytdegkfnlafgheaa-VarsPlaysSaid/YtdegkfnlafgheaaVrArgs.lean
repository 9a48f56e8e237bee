/- DERIVED. A table in memory; the walks over SetArgs, Shift and Args. -/
import Derived.Test.YtdegkfnlafgheaaVrMem
namespace Go.Proofs.Ytdegkfnlafgheaa.Vr
open Go.RowKit
open PathM WdM
open Go.Proofs.Ytdegkfnlafgheaa.Wd
set_option linter.unusedVariables false

theorem row_form {W : World} {base : Nat} {e : TypeId} {size : Nat} {v : Value} {k : Nat} {xs : List Value} (h : W.ownsRow base e size v k xs) : ∃ A c, v = .slice A k c ∧ k ≤ c := by
  rcases row_two h with ⟨rfl, rfl⟩ | ⟨g, cap, rfl, h1, _⟩
  · exact ⟨_, _, rfl, Nat.le_refl _⟩
  · exact ⟨_, _, rfl, h1⟩
abbrev BsI := {x : Bs // x.length ≤ 4611686018427387904}
instance : Inhabited BsI := ⟨⟨[], by simp⟩⟩
theorem pmap_get {ps : List Bs} (h : ∀ x ∈ ps, x.length ≤ 4611686018427387904) (j : Nat) (hj : j < ps.length) : ((ps.pmap (fun x hx => (⟨x, hx⟩ : BsI)) h)[j]!).1 = ps[j] := by
  have : j < (ps.pmap (fun x hx => (⟨x, hx⟩ : BsI)) h).length := by simpa using hj
  rw [getElem!_pos _ j this, List.getElem_pmap]
def tooBig (ps : List Bs) : Bool := ps.any fun x => decide (4096 < x.length)
theorem entLong : ∀ args w, (callFunc 43 args).run Try.prog w = .ok (.enter 43 args) w := enters_of Try.func43 (by kernel_rfl) rfl
theorem contains_any (ps : List Bs) (v : Value) (w : World) (h : ArIn w v ps) (hl : ∀ x ∈ ps, x.length ≤ 4611686018427387904) (hn : ps.length ≤ 256) :
    Calls Try.prog 49 #[v, .func (.func 43) #[] #[]] w fun e w' => e = .returned (.bool (tooBig ps)) ∧ ∃ q, w' = w.drewN q := by
  obtain ⟨A, c, rfl, hlc, hc⟩ := h
  by_cases h0 : ps = []
  · subst h0
    refine (Try.slices_ContainsFunc_empty (α := Bs) A c (.func (.func 43) #[] #[]) w).mono ?_
    rintro e w' ⟨rfl, rfl⟩
    exact ⟨rfl, 0, rfl⟩
  · obtain ⟨b, off, rfl, hb, hcs⟩ := hc h0
    have hp : PredAt Try.prog 43 #[] (fun x : BsI => strC x.1) (fun x => decide (4096 < x.1.length)) w := by
      intro W x _
      refine (long_any x.1 W x.2).mono ?_
      rintro e w' ⟨rfl, rfl⟩
      exact ⟨rfl, 0, rfl⟩
    refine (Try.slices_ContainsFunc (fun x : BsI => strC x.1) _ 43 #[] entLong b off ps.length c (ps.pmap (fun x hx => (⟨x, hx⟩ : BsI)) hl) w hp (by simp) (by omega) ?_).mono ?_
    · intro j hj
      have hj2 : j < ps.length := by simpa using hj
      rw [pmap_get hl j hj2]
      exact hcs j hj2
    · rintro e w' ⟨rfl, hq⟩
      refine ⟨?_, hq⟩
      congr 2
      rw [List.take_of_length_le (by simp)]
      unfold tooBig
      generalize hl = hl'
      clear hcs hc hp hlc h0 hn
      induction ps with
      | nil => rfl
      | cons x r ih =>
        simp only [List.pmap_cons, List.any_cons]
        rw [ih (fun y hy => hl' y (.tail _ hy))]
/-- A table. -/
structure TbIn (w : World) (tb : Nat) (st : Int) (vv : Value) (ps : List Bs) (av : Value) : Prop where
  box : w.heap[tb]? = some (.cells #[.int .i64 st, .bool true, vv, av] 47 (0, 0))
  args : ArIn w av ps
  len : ps.length ≤ 256
  lens : ∀ x ∈ ps, x.length ≤ 4096
theorem TbIn.lt {w : World} {tb : Nat} {st : Int} {vv av : Value} {ps : List Bs} (h : TbIn w tb st vv ps av) : tb < w.heap.size := fin_at h.box
theorem TbIn.c0 {w : World} {tb : Nat} {st : Int} {vv av : Value} {ps : List Bs} (h : TbIn w tb st vv ps av) : w.cell? ⟨tb, 0, none⟩ = some (.int .i64 st) := cell_blk h.box 0
theorem TbIn.c1 {w : World} {tb : Nat} {st : Int} {vv av : Value} {ps : List Bs} (h : TbIn w tb st vv ps av) : w.cell? ⟨tb, 1, none⟩ = some (.bool true) := cell_blk h.box 1
theorem TbIn.c3 {w : World} {tb : Nat} {st : Int} {vv av : Value} {ps : List Bs} (h : TbIn w tb st vv ps av) : w.cell? ⟨tb, 3, none⟩ = some av := cell_blk h.box 3
theorem TbIn.f3 {w : World} {tb : Nat} {st : Int} {vv av : Value} {ps : List Bs} (h : TbIn w tb st vv ps av) : w.frozen? ⟨tb, 3, none⟩ = false := froz_blk h.box 3
theorem TbIn.below {w w' : World} {tb : Nat} {st : Int} {vv av : Value} {ps : List Bs} (h : TbIn w tb st vv ps av) (hb : Below w.heap.size w w') : TbIn w' tb st vv ps av := ⟨(hb.block tb h.lt).trans h.box, h.args.below hb, h.len, h.lens⟩
theorem not_big {ps : List Bs} (h : tooBig ps = false) : ∀ x ∈ ps, x.length ≤ 4096 := by
  intro x hx
  unfold tooBig at h
  have := List.any_eq_false.1 h x hx
  simpa using this
theorem TbIn.put {w W : World} {tb : Nat} {st : Int} {vv av av' : Value} {ps qs : List Bs} (h : TbIn w tb st vv ps av) (hb : Below w.heap.size w W) (ha : ArIn W av' qs) (hr : W.ownsRow w.heap.size 9 1 av' qs.length (qs.map strC)) (hl : qs.length ≤ 256) (hs : ∀ x ∈ qs, x.length ≤ 4096) :
    TbIn (W.setCell ⟨tb, 3, none⟩ av') tb st vv qs av' ∧ (W.setCell ⟨tb, 3, none⟩ av').ownsRow w.heap.size 9 1 av' qs.length (qs.map strC) ∧ Kept (· = tb) w (W.setCell ⟨tb, 3, none⟩ av') := by
  have hbx : W.heap[tb]? = some (.cells #[.int .i64 st, .bool true, vv, av] 47 (0, 0)) := (hb.block tb h.lt).trans h.box
  have hap : av'.ownBlock ≠ some tb := by
    intro e
    rcases row_two hr with ⟨rfl, _⟩ | ⟨g, cap, rfl, _, _, h3⟩
    · cases e
    · obtain rfl : g = tb := by simpa [Value.ownBlock] using e
      have := h.lt; omega
  have hrr := ownsRow_setCell_other hr (a := ⟨tb, 3, none⟩) hap av'
  exact ⟨⟨set_blk (j := 3) hbx av', ar_row hrr, hl, hs⟩, hrr, (kept_of_below hb).trans (Kept.setCell ⟨tb, 3, none⟩ _ rfl)⟩
set_option maxHeartbeats 1600000 in
theorem setArgs_nil (v : Value) (w : World) : Calls Try.prog 25 #[.pointer none, v] w fun e w' => e = .returned (.int .i64 3) ∧ w = w' := by
  go_enter Try.func25, Try.ntmps25
  go_wp2_with (go_at_call 31; refine (none_nil _).mono ?_; rintro e W ⟨rfl, rfl⟩)
  go_ret
  exact ⟨rfl, rfl⟩
set_option maxRecDepth 100000 in
set_option maxHeartbeats 1600000 in
theorem setArgs_ok (tb : Nat) (st : Int) (vv av : Value) (ps qs : List Bs) (v : Value) (w : World) (h : TbIn w tb st vv ps av) (hv : ArIn w v qs) (hn : qs.length ≤ 256) (hl : ∀ x ∈ qs, x.length ≤ 4611686018427387904) (hs : tooBig qs = false) :
    Calls Try.prog 25 #[.pointer (some ⟨tb, 0, none⟩), v] w fun e w' => e = .returned (.int .i64 0) ∧ ∃ av', TbIn w' tb st vv qs av' ∧ w'.ownsRow w.heap.size 9 1 av' qs.length (qs.map strC) ∧ Kept (· = tb) w w' := by
  have hc := contains_any qs v w hv hl hn
  rw [hs] at hc
  have HC := Lib.hid hc
  have HN : Hid (∀ W, Below w.heap.size w W → Calls Try.prog 31 #[.pointer (some ⟨tb, 0, none⟩)] W fun e w' => e = .returned (.bool false) ∧ W = w') := Lib.hid (fun W hb => none_any tb W (cell_blk (h.below hb).box 1))
  have HCP : Hid (∀ q, Calls Try.prog 48 #[v] (w.drewN q) fun e w' => ∃ v', e = .returned v' ∧ w'.ownsRow w.heap.size 9 1 v' qs.length (qs.map strC) ∧ Below w.heap.size w w') := Lib.hid (fun q => (copied_any qs v (w.drewN q) hv hn).mono (by
    rintro e w' ⟨v', rfl, hr, hb⟩
    exact ⟨v', rfl, hr, (below_drewN' (Below.refl w.heap.size w) q).trans hb⟩))
  have HP : Hid (∀ W av', Below w.heap.size w W → W.ownsRow w.heap.size 9 1 av' qs.length (qs.map strC) → TbIn (W.setCell ⟨tb, 3, none⟩ av') tb st vv qs av' ∧ (W.setCell ⟨tb, 3, none⟩ av').ownsRow w.heap.size 9 1 av' qs.length (qs.map strC) ∧ Kept (· = tb) w (W.setCell ⟨tb, 3, none⟩ av')) := Lib.hid (fun W av' hb hr => h.put hb (ar_row hr) hr hn (not_big hs))
  have HT := Lib.hid h
  have hz := h.lt
  obtain ⟨A, c, rfl, _⟩ := hv.form
  have hnn : (qs.length : Int) ≤ 256 := by omega
  clear hc hl hs h hv
  generalize qs.length = n at *
  go_enter Try.func25, Try.ntmps25
  go_wp2_with (first | (go_at_call 31; refine (HN.out _ (Below.refl _ _)).mono ?_; rintro e W ⟨rfl, rfl⟩) | (go_at_call 49; refine HC.out.mono ?_; rintro e W ⟨rfl, q, rfl⟩) | (go_at_call 48; refine (HCP.out _).mono ?_; rintro e W ⟨v2, rfl, hr, hb⟩; obtain ⟨A2, c2, rfl, _⟩ := row_form hr; have HR := Lib.hid hr; have HB := Lib.hid hb; have c3 := (HT.out.below hb).c3; have f3 := (HT.out.below hb).f3; have hz2 := Nat.lt_of_lt_of_le hz hb.size; clear hr hb))
  go_ret
  obtain ⟨h1, h2⟩ := HP.out W _ HB.out HR.out
  exact ⟨rfl, _, h1, h2⟩
set_option maxRecDepth 100000 in
set_option maxHeartbeats 1600000 in
theorem setArgs_many (tb : Nat) (st : Int) (vv av : Value) (ps : List Bs) (A : Option Addr) (n c : Nat) (w : World) (h : TbIn w tb st vv ps av) (hn : 256 < n) (hn2 : n ≤ 4611686018427387904) :
    Calls Try.prog 25 #[.pointer (some ⟨tb, 0, none⟩), .slice A n c] w fun e w' => e = .returned (.int .i64 2) ∧ w = w' := by
  have HN : Hid (∀ W, Below w.heap.size w W → Calls Try.prog 31 #[.pointer (some ⟨tb, 0, none⟩)] W fun e w' => e = .returned (.bool false) ∧ W = w') := Lib.hid (fun W hb => none_any tb W (cell_blk (h.below hb).box 1))
  have hnn : 256 < (n : Int) := by omega
  clear h
  go_enter Try.func25, Try.ntmps25
  go_wp2_with (first | (go_at_call 31; refine (HN.out _ (Below.refl _ _)).mono ?_; rintro e W ⟨rfl, rfl⟩))
  go_ret
  exact ⟨rfl, rfl⟩
set_option maxRecDepth 100000 in
set_option maxHeartbeats 1600000 in
theorem setArgs_long (tb : Nat) (st : Int) (vv av : Value) (ps qs : List Bs) (v : Value) (w : World) (h : TbIn w tb st vv ps av) (hv : ArIn w v qs) (hn : qs.length ≤ 256) (hl : ∀ x ∈ qs, x.length ≤ 4611686018427387904) (hs : tooBig qs = true) :
    Calls Try.prog 25 #[.pointer (some ⟨tb, 0, none⟩), v] w fun e w' => e = .returned (.int .i64 2) ∧ ∃ q, w' = w.drewN q := by
  have hc := contains_any qs v w hv hl hn
  rw [hs] at hc
  have HC := Lib.hid hc
  have HN : Hid (∀ W, Below w.heap.size w W → Calls Try.prog 31 #[.pointer (some ⟨tb, 0, none⟩)] W fun e w' => e = .returned (.bool false) ∧ W = w') := Lib.hid (fun W hb => none_any tb W (cell_blk (h.below hb).box 1))
  obtain ⟨A, c, rfl, _⟩ := hv.form
  have hnn : (qs.length : Int) ≤ 256 := by omega
  clear hc hl hs h hv
  generalize qs.length = n at *
  go_enter Try.func25, Try.ntmps25
  go_wp2_with (first | (go_at_call 31; refine (HN.out _ (Below.refl _ _)).mono ?_; rintro e W ⟨rfl, rfl⟩) | (go_at_call 49; refine HC.out.mono ?_; rintro e W ⟨rfl, q, rfl⟩))
  go_ret
  exact ⟨rfl, _, rfl⟩
end Go.Proofs.Ytdegkfnlafgheaa.Vr
