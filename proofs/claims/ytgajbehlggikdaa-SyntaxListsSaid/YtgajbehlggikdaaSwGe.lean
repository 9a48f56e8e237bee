/- DERIVED. The walk over list. -/
import Derived.Test.YtgajbehlggikdaaSwGd
namespace Go.Proofs.Ytgajbehlggikdaa.Sw
open Go.RowKit
open PathM WdM SyM
open Go.Proofs.Ytgajbehlggikdaa.Wd
set_option linter.unusedVariables false

/-- Pipes are read, as the model says. -/
def PpOk (pipe : Bs → Rs PiT) (d wi : Nat) : Prop := ∀ (rb : Nat) (s : ByteArray) (l : Bs) (w : World), RdS w rb s l wi → s.size ≤ 8192 →
  Calls Try.prog 30 #[.pointer (some ⟨rb, 0, none⟩)] w (Reads rb s wi (pipe l) (VAgg (RPi (LsIn d))) w)
theorem pipe_open {d : Nat} {w : World} {S : Nat → Prop} {v : Value} {p : PiT} (h : VAgg (RPi (LsIn d)) w S v p) : ∃ (n : Bool) (A1 : Option Addr) (n1 c1 : Nat), v = .agg #[.bool n, .slice A1 n1 c1] ∧ RPi (LsIn d) w S [.bool n, .slice A1 n1 c1] p := by
  obtain ⟨vs, rfl, h⟩ := h
  obtain ⟨n, cs⟩ := p
  obtain ⟨cv, rfl, h1⟩ := h
  obtain ⟨A1, n1, c1, rfl⟩ := h1.form
  exact ⟨n, A1, n1, c1, rfl, _, rfl, h1⟩
theorem pipeInfo : (Try.prog.info? 36).map (fun i => (i.zero, i.size, i.bytes)) = some (some (.agg #[.bool false, .slice none 0 0]), 2, 32) := by kernel_rfl
theorem strInfo : (Try.prog.info? 9).map (fun i => (i.zero, i.size, i.bytes)) = some (some (.string ByteArray.empty), 1, 16) := by kernel_rfl
/-- A row of one, in a block just made. -/
theorem Row.one {α : Type} {size : Nat} {R : Rep α} {T : TypeId} {base b : Nat} {X S : Nat → Prop} {W : World} {vs : List Value} {x : α} (h : W.heap[b]? = some (.cells vs.toArray T (0, 0))) (hb : base ≤ b) (hl : vs.length = size) (hx : R W S vs x) (hS : ∀ k, S k → base ≤ k ∧ k < W.heap.size ∧ k ≠ b ∧ ¬ X k) :
    Row size R T base X W (.slice (some ⟨b, 0, none⟩) 1 1) [x] := by
  refine ⟨[vs], S, ⟨by simp [hl], .inr ⟨b, 1, vs.toArray, rfl, hb, h, Nat.le_refl _, maxLen_ok (by omega), by simp [hl], by rw [List.length_singleton, Nat.one_mul, ← hl]; simp⟩⟩, rfl, fun i hi hi' => ?_, fun k hk => ⟨(hS k hk).1, (hS k hk).2.1, fun e => ?_, (hS k hk).2.2.2⟩⟩
  · have : i = 0 := by simp at hi; exact hi
    subst this
    exact ⟨hl, hx⟩
  · injection e with e
    exact (hS k hk).2.2.1 e.symm
/-- A list being read. -/
structure LSt (rb : Nat) (s : ByteArray) (wi d : Nat) (w : World) (lb : Nat) (l : Bs) (pv ov : Value) (ps : List PiT) (os : List Bs) (W : World) : Prop where
  res : W.heap[w.heap.size]? = some (.cells #[.slice none 0 0, .slice none 0 0] 33 (0, 0))
  box : W.heap[lb]? = some (.cells #[pv, ov] 33 (0, 0))
  prow : Row 2 (RPi (LsIn d)) 36 (w.heap.size + 1) (fun k => k = lb ∨ ov.ownBlock = some k) W pv ps
  orow : Row 1 RStr 9 (w.heap.size + 1) (fun k => k = lb) W ov os
  rd : RdS W rb s l wi
  kept : Kept (· = rb) w W
  lt : rb < w.heap.size
  blt : w.heap.size < lb
  pne : pv.ownBlock ≠ some lb
  one : ov.ownBlock ≠ some lb
  apart : ∀ k, pv.ownBlock = some k → ov.ownBlock ≠ some k
theorem LSt.step {rb : Nat} {s : ByteArray} {wi d : Nat} {w : World} {lb : Nat} {l r : Bs} {pv ov : Value} {ps : List PiT} {os : List Bs} {W W' : World} (h : LSt rb s wi d w lb l pv ov ps os W) (hk : Kept (· = rb) W W') (hr : RdS W' rb s r wi) : LSt rb s wi d w lb r pv ov ps os W' := by
  have h1 := h.lt
  have h2 := h.blt
  exact ⟨hk.at h.res (by omega), hk.at h.box (by omega), h.prow.below (RPi.good (LsIn.good d)) hk (fun k e => by omega), h.orow.below RStr.good hk (fun k e => by omega), hr, h.kept.trans hk, h1, h2, h.pne, h.one, h.apart⟩
theorem LSt.drew {rb : Nat} {s : ByteArray} {wi d : Nat} {w : World} {lb : Nat} {l : Bs} {pv ov : Value} {ps : List PiT} {os : List Bs} {W : World} (h : LSt rb s wi d w lb l pv ov ps os W) : LSt rb s wi d w lb l pv ov ps os W.drew := h.step (Kept.drewN 1) (h.rd.drewN 1)
/-- .. behind one sign more. -/
theorem LSt.op {rb : Nat} {s : ByteArray} {wi d : Nat} {w : World} {lb : Nat} {l : Bs} {pv ov : Value} {ps : List PiT} {os : List Bs} {W w3 : World} {vss : List (List Value)} {S : Nat → Prop} {o : Obj} {x : Bs} {g cap n : Nat} (h : LSt rb s wi d w lb l pv ov ps os W)
    (hR : Rw 1 RStr 9 (w.heap.size + 1) (fun k => k = lb) W ov os vss S) (hn : os.length = n) (hg : (W.alloc o).grownBy w3 ov.ownBlock) (h3 : w3.ownsRow (w.heap.size + 1) 9 1 (.slice (some ⟨g, 0, none⟩) (n + 1) cap) (n + 1) (vss.flatten ++ [.string (nm x)])) (hat : ov.ownBlock = some g ∨ g = W.heap.size + 1) :
    LSt rb s wi d w lb l pv (.slice (some ⟨g, 0, none⟩) (n + 1) cap) ps (os ++ [x]) (w3.setCell ⟨lb, 1, none⟩ (.slice (some ⟨g, 0, none⟩) (n + 1) cap)) := by
  have h1 := h.lt
  have h2 := h.blt
  have hz := fin_at h.box
  have hplt := h.prow.lt
  have holt := hR.row.lt
  have hrow := Rw.app RStr.good hR hn (fun k e => by rw [e]; exact hz) (Kept.refl (· = rb) W) (by omega) (by omega) (vs := [.string (nm x)]) (x := x) rfl rfl hg h3 hat
  have hk3 : Kept (fun k => ov.ownBlock = some k) W w3 := (kept_alloc W o).trans (Kept.grown hg (fun k e => e))
  have hks := Kept.setCell (S := (· = lb)) (w := w3) ⟨lb, 1, none⟩ (.slice (some ⟨g, 0, none⟩) (n + 1) cap) rfl
  have hglb : g ≠ lb := by
    rcases hat with h4 | h4
    · intro e; exact h.one (by rw [h4, e])
    · omega
  have hgp : ∀ k, pv.ownBlock = some k → k ≠ g := fun k hp e => by
    rcases hat with h4 | h4
    · exact h.apart k hp (by rw [h4, e])
    · have := (hplt k hp).2; omega
  refine ⟨hks.at (hk3.at h.res (fun e => by have := (holt _ e).1; omega)) (by omega), ?_, ?_, ?_, (h.rd.kept hk3 (fun e => by have := (holt _ e).1; omega)).kept hks (by omega), ?_, h1, h2, h.pne, ?_, ?_⟩
  · have hb := hk3.at h.box h.one
    simpa using set_blk (j := 1) hb (.slice (some ⟨g, 0, none⟩) (n + 1) cap)
  · have hp1 := (h.prow.kept (RPi.good (LsIn.good d)) hk3 (fun k e => .inr (.inl (.inr e))) (fun k e1 e2 => h.apart k e1 e2))
    have hp2 := hp1.kept (RPi.good (LsIn.good d)) hks (fun k e => .inr (.inl (.inl e))) (fun k e1 e2 => h.pne (by rw [e1, e2]))
    have hsz := hk3.size
    have hsz2 := hks.size
    -- what lies behind the pipes is older than a new row
    obtain ⟨vssp, Sp, hp⟩ := h.prow
    have hpa := hp.kept (RPi.good (LsIn.good d)) hk3 (fun k e => .inr (.inl (.inr e))) (fun k e1 e2 => h.apart k e1 e2)
    have hpb := hpa.kept (RPi.good (LsIn.good d)) hks (fun k e => .inr (.inl (.inl e))) (fun k e1 e2 => h.pne (by rw [e1, e2]))
    refine ⟨vssp, Sp, hpb.row, hpb.len, hpb.rep, fun k hk => ⟨(hpb.blk k hk).1, (hpb.blk k hk).2.1, (hpb.blk k hk).2.2.1, fun e => ?_⟩⟩
    rcases e with e | e
    · exact (hp.blk k hk).2.2.2 (.inl e)
    · injection e with e
      have e : g = k := e
      rcases hat with h4 | h4
      · exact (hp.blk k hk).2.2.2 (.inr (by rw [h4, e]))
      · have := (hp.blk k hk).2.1; omega
  · exact hrow.kept RStr.good hks (fun k e => .inr (.inl e)) (fun k e1 e2 => hglb (by injection e1 with e1; exact e1.trans e2))
  · exact (h.kept.then hk3 (fun k h3 h4 => by have := (holt _ h4).1; omega)).then hks (fun k h3 h4 => by omega)
  · intro e; injection e with e; exact hglb e
  · intro k hp e; injection e with e; exact hgp k hp e.symm

/-- .. behind one pipe more. -/
theorem LSt.app {rb : Nat} {s : ByteArray} {wi d : Nat} {w : World} {lb : Nat} {l r : Bs} {pv ov : Value} {ps : List PiT} {os : List Bs} {W w2 w3 : World} {vss : List (List Value)} {S : Nat → Prop} {o : Obj} {vs : List Value} {p : PiT} {g cap n : Nat} (h : LSt rb s wi d w lb l pv ov ps os W)
    (hR : Rw 2 (RPi (LsIn d)) 36 (w.heap.size + 1) (fun k => k = lb ∨ ov.ownBlock = some k) W pv ps vss S) (hn : ps.length = n) (hk : Kept (· = rb) W w2) (hr : RdS w2 rb s r wi) (hc : RPi (LsIn d) w2 (Nw W.heap.size w2) vs p) (hvs : vs.length = 2)
    (hg : (w2.alloc o).grownBy w3 pv.ownBlock) (h3 : w3.ownsRow (w.heap.size + 1) 36 2 (.slice (some ⟨g, 0, none⟩) (n + 1) cap) (n + 1) (vss.flatten ++ vs)) (hat : pv.ownBlock = some g ∨ g = w2.heap.size + 1) :
    LSt rb s wi d w lb r (.slice (some ⟨g, 0, none⟩) (n + 1) cap) ov (ps ++ [p]) os (w3.setCell ⟨lb, 0, none⟩ (.slice (some ⟨g, 0, none⟩) (n + 1) cap)) := by
  have h1 := h.lt
  have h2 := h.blt
  have hz := fin_at h.box
  have hz2 := hk.size
  have holt := h.orow.lt
  have hplt := hR.row.lt
  have hrow := Rw.app (RPi.good (LsIn.good d)) hR hn (fun k e => by
    rcases e with e | e
    · rw [e]; exact hz
    · exact (holt k e).2) hk (by omega) (by omega) hc hvs hg h3 hat
  have hk3 : Kept (fun k => k = rb ∨ pv.ownBlock = some k) W w3 := ((hk.mono fun k e => .inl e).trans (kept_alloc w2 o)).trans (Kept.grown hg (fun k e => .inr e))
  have hk4 : Kept (fun k => pv.ownBlock = some k) w2 w3 := (kept_alloc w2 o).trans (Kept.grown hg (fun k e => e))
  have hks := Kept.setCell (S := (· = lb)) (w := w3) ⟨lb, 0, none⟩ (.slice (some ⟨g, 0, none⟩) (n + 1) cap) rfl
  have hglb : g ≠ lb := by
    rcases hat with h4 | h4
    · intro e; exact h.pne (by rw [h4, e])
    · omega
  have hgo : ∀ k, ov.ownBlock = some k → k ≠ g := fun k ho e => by
    rcases hat with h4 | h4
    · exact h.apart g h4 (by rw [ho, e])
    · have := (holt k ho).2; omega
  refine ⟨hks.at (hk3.at h.res (fun e => ?_)) (by omega), ?_, ?_, ?_, (hr.kept hk4 (fun e => by have := (hplt _ e).1; omega)).kept hks (by omega), ?_, h1, h2, ?_, h.one, ?_⟩
  · rcases e with e | e
    · omega
    · have := (hplt _ e).1; omega
  · have hb := hk3.at h.box (fun e => by
      rcases e with e | e
      · omega
      · exact h.pne e)
    simpa using set_blk (j := 0) hb (.slice (some ⟨g, 0, none⟩) (n + 1) cap)
  · exact hrow.kept (RPi.good (LsIn.good d)) hks (fun k e => .inr (.inl (.inl e))) (fun k e1 e2 => hglb (by injection e1 with e1; exact e1.trans e2))
  · have ho1 : Row 1 RStr 9 (w.heap.size + 1) (fun k => k = lb) w3 ov os := by
      obtain ⟨vo, So, ho⟩ := h.orow
      exact ⟨vo, fun _ => False, row_kept ho.row hk3 (fun k e1 e2 => by
        rcases e2 with e2 | e2
        · have := (holt k e1).1; omega
        · exact h.apart k e2 e1), ho.len, fun i hi hi' => ⟨(ho.rep i hi hi').1, (ho.rep i hi hi').2⟩, fun k e => e.elim⟩
    exact ho1.kept RStr.good hks (fun k e => .inr (.inl e)) (fun k e1 e2 => h.one (by rw [e1, e2]))
  · refine (h.kept.then hk3 (fun k h3 h4 => ?_)).then hks (fun k h3 h4 => by omega)
    rcases h4 with h4 | h4
    · exact h4
    · have := (hplt _ h4).1; omega
  · intro e; injection e with e; exact hglb e
  · intro k hp e; injection hp with hp; exact hgo k e hp.symm
/-- A list read, handed back. -/
theorem LSt.done {rb : Nat} {s : ByteArray} {wi d : Nat} {w : World} {lb : Nat} {l : Bs} {pv ov : Value} {ps : List PiT} {os : List Bs} {W : World} (h : LSt rb s wi d w lb l pv ov ps os W) (hm : ps.length ≤ 281474976710656) (hm2 : os.length ≤ 281474976710656) :
    Reads rb s wi (.ok (.mk ps os) l) (VAgg (RLi (LsIn d))) w (.returned (.agg #[pv, ov])) ((W.setCell ⟨w.heap.size, 0, none⟩ pv).setCell ⟨w.heap.size, 1, none⟩ ov) := by
  have hk := two_kept (S := (· = w.heap.size)) W rfl pv ov
  have h1 := h.lt
  have h2 := h.blt
  refine ⟨h.kept.then hk (fun k h1 h2 => by omega), _, rfl, h.rd.kept hk (by omega), [pv, ov], rfl, _, _, rfl, ?_, ?_⟩
  · exact nw_le (V := Sl 2 (RPi (LsIn d))) (Sl.good 2 _ (RPi.good (LsIn.good d))) (z := w.heap.size) (z' := w.heap.size + 1) (by omega) (nw_kept (V := Sl 2 (RPi (LsIn d))) (Sl.good 2 _ (RPi.good (LsIn.good d))) hk (fun k e => .inl (by omega)) (h.prow.sl (RPi.good (LsIn.good d)) hm))
  · exact nw_le (V := Sl 1 RStr) (Sl.good 1 _ RStr.good) (z := w.heap.size) (z' := w.heap.size + 1) (by omega) (nw_kept (V := Sl 1 RStr) (Sl.good 1 _ RStr.good) hk (fun k e => .inl (by omega)) (h.orow.sl RStr.good hm2))

theorem LSt.start {rb : Nat} {s : ByteArray} {wi d : Nat} {w W : World} {l : Bs} {n : Bool} {A1 : Option Addr} {n1 c1 : Nat} {p : PiT} (h1 : W.heap[w.heap.size]? = some (.cells #[.slice none 0 0, .slice none 0 0] 33 (0, 0))) (h2 : RdS W rb s l wi) (h3 : Kept (· = rb) w W) (h4 : rb < w.heap.size) (h5 : RPi (LsIn d) W (Nw (w.heap.size + 1) W) [.bool n, .slice A1 n1 c1] p) :
    LSt rb s wi d w (W.heap.size + 1) l (.slice (some ⟨W.heap.size, 0, none⟩) 1 1) (.slice none 0 0) [p] [] ((W.alloc (.cells #[.bool n, .slice A1 n1 c1] 36)).alloc (.cells #[.slice (some ⟨W.heap.size, 0, none⟩) 1 1, .slice none 0 0] 33)) := by
  have hz := fin_at h1
  have hb : Below W.heap.size W ((W.alloc (.cells #[.bool n, .slice A1 n1 c1] 36)).alloc (.cells #[.slice (some ⟨W.heap.size, 0, none⟩) 1 1, .slice none 0 0] 33)) := ((Below.refl _ _).alloc (Nat.le_refl _) _).alloc (by simp) _
  refine ⟨(hb.block _ hz).trans h1, heap_alloc2_new W _ _, ?_, Row.nil _ _ _ _ _ _, h2.told hb, h3.trans (kept_told hb), h4, by omega, ?_, ?_, ?_⟩
  · refine Row.one (vs := [.bool n, .slice A1 n1 c1]) (S := Nw (w.heap.size + 1) W) ((Below.heap_alloc _ _ _ (by simp)).trans (heap_alloc_new W _)) (by omega) rfl (RPi.good (LsIn.good d) _ _ _ _ _ _ (fun k hk hS => ⟨hS, hb.block k hk⟩) h5) (fun k hk => ⟨hk.1, by have := hk.2; have := hb.size; omega, by have := hk.2; omega, fun e => ?_⟩)
    rcases e with e | e
    · have := hk.2; omega
    · cases e
  · intro e; injection e with e; have e : W.heap.size = W.heap.size + 1 := e; omega
  · intro e; cases e
  · intro k _ e; cases e
theorem list_bad {v : Lv} {l : Bs} {a : Nat} {e : Int} (h : pipeL v l = .bad a e) : listL v l = .bad a e := by unfold listL; rw [h]
theorem list_go {v : Lv} {l r : Bs} {p : PiT} (h : pipeL v l = .ok p r) : listL v l = pipesN v (r.length + 1) [p] [] r := by unfold listL; rw [h]
theorem pipes_end {v : Lv} {k : Nat} {ps : List PiT} {os : List Bs} {m : Bs} (h : ¬ ((nextL m).1 = [38, 38] ∨ (nextL m).1 = [124, 124])) : pipesN v k ps os m = .ok (.mk ps os) m := by
  cases k with
  | zero => rfl
  | succ k => rw [pipesN, if_neg h]
theorem pipes_bad {v : Lv} {k : Nat} {ps : List PiT} {os : List Bs} {m : Bs} {a : Nat} {e : Int} (h : (nextL m).1 = [38, 38] ∨ (nextL m).1 = [124, 124]) (h2 : pipeL v (newlinesL (nextL m).2) = .bad a e) : pipesN v (k + 1) ps os m = .bad a e := by rw [pipesN, if_pos h, h2]
theorem pipes_ok {v : Lv} {k : Nat} {ps : List PiT} {os : List Bs} {m r : Bs} {p : PiT} (h : (nextL m).1 = [38, 38] ∨ (nextL m).1 = [124, 124]) (h2 : pipeL v (newlinesL (nextL m).2) = .ok p r) : pipesN v (k + 1) ps os m = pipesN v k (ps ++ [p]) (os ++ [(nextL m).1]) r := by rw [pipesN, if_pos h, h2]
set_option maxRecDepth 100000 in
set_option maxHeartbeats 6400000 in
theorem list_any {v : Lv} {d wi : Nat} (hC : PpOk (pipeL v) d wi) (hless : ∀ l c r, pipeL v l = .ok c r → r.length < l.length) (rb : Nat) (s : ByteArray) (l : Bs) (w : World) (h : RdS w rb s l wi) (hs : s.size ≤ 8192) :
    Calls Try.prog 24 #[.pointer (some ⟨rb, 0, none⟩)] w (Reads rb s wi (listL v l) (VAgg (RLi (LsIn d))) w) := by
  have HC := Lib.hid hC
  have hsl := h.len
  obtain ⟨i0, hi, hz0, hz1, hz2⟩ := info_parts pipeInfo
  have HI := Lib.hid hi; have HZ0 := Lib.hid hz0; have HZ1 := Lib.hid hz1; have HZ2 := Lib.hid hz2; clear hi hz0 hz1 hz2
  obtain ⟨j0, hi, hz0, hz1, hz2⟩ := info_parts strInfo
  have GI := Lib.hid hi; have GZ0 := Lib.hid hz0; have GZ1 := Lib.hid hz1; have GZ2 := Lib.hid hz2; clear hi hz0 hz1 hz2
  have HW := Lib.hid h
  have hb0 : Below w.heap.size w (w.alloc (.cells #[.slice none 0 0, .slice none 0 0] 33)) := (Below.refl _ _).alloc (Nat.le_refl _) _
  have HB0 := Lib.hid hb0
  have HPP := Lib.hid (hC rb s l _ (h.told hb0) hs)
  clear hb0
  cases hm : pipeL v l with
  | bad a er =>
    rw [list_bad hm]
    rw [hm] at HPP
    clear hC hm h hless
    go_enter Try.func24, Try.ntmps24
    go_wp2_with (go_at_call 30; refine HPP.out.mono ?_; rintro e W ⟨hk, rfl⟩; simp only [sflt])
    exact ⟨rfl, (kept_told HB0.out).trans hk, rfl⟩
  | ok p r =>
    rw [list_go hm]
    have hrl := hless _ _ _ hm
    rw [hm] at HPP
    obtain ⟨M, hM⟩ : ∃ M, pipesN v (r.length + 1) [p] [] r = M := ⟨_, rfl⟩
    rw [hM]
    have HM0 : Hid (r.length < r.length + 1 ∧ ([p] : List PiT).length + (r.length + 1) = r.length + 2 ∧ ([] : List Bs).length + 1 = ([p] : List PiT).length ∧ pipesN v (r.length + 1) [p] [] r = M) := Lib.hid ⟨by omega, by simp; omega, rfl, hM⟩
    clear hC hm h hM
    go_enter Try.func24, Try.ntmps24
    go_wp2_with fail
    refine HPP.out.mono ?_
    rintro e W ⟨hk, v1, rfl, hr, hv⟩
    obtain ⟨n, A1, n1, c1, rfl, hrep⟩ := pipe_open hv
    have hst := LSt.start (w := w) (W := W) (n := n) (A1 := A1) (n1 := n1) (c1 := c1) (hk.at (heap_alloc_new w _) (by have := HW.out.lt; omega)) hr ((kept_told (S := (· = rb)) HB0.out).trans hk) HW.out.lt (RPi.good (LsIn.good d) _ _ _ _ _ _ (fun k hk hS => ⟨⟨by have := hS.1; simp at this; omega, hS.2⟩, rfl⟩) hrep)
    clear hk hr hv hrep
    go_wp2_with fail
    refine wp_gen _ hst ?_
    clear hst
    generalize W.heap.size + 1 = lb at *
    obtain ⟨pa, hpa⟩ : ∃ pa : Option Addr, some ⟨W.heap.size, 0, none⟩ = pa := ⟨_, rfl⟩
    rw [hpa]
    intro W3 hP
    have HP0 := Lib.hid hP
    clear hP hpa
    go_loopg [] (r.length + 1) (fun k wr => ∃ (m : Bs) (ps : List PiT) (os : List Bs) (A : Option Addr) (ca : Nat) (B : Option Addr) (cb : Nat), Hid (m.length < k ∧ ps.length + k = r.length + 2 ∧ os.length + 1 = ps.length ∧ pipesN v k ps os m = M) ∧ Hid (LSt rb s wi d w lb m (.slice A ps.length ca) (.slice B os.length cb) ps os wr))
    case atStart => exact ⟨r, [p], [], pa, 1, none, 0, HM0, HP0⟩
    case round =>
      obtain ⟨m, ps, os, A, ca, B, cb, HM, HPS⟩ := hrel
      clear HP0 HM0 HPP
      have hnx := next_any rb s m wi wr HPS.out.rd hs
      unfold NextPost at hnx
      obtain ⟨key, hkey⟩ : ∃ x, (nextL m).1 = x := ⟨_, rfl⟩
      obtain ⟨r1, hr1⟩ : ∃ x, (nextL m).2 = x := ⟨_, rfl⟩
      have q1 := str_dec key [38, 38]
      have q2 := str_dec key [124, 124]
      have t1 : (nm [38, 38]).toList = [38, 38] := by rw [listD]; rfl
      have t2 : (nm [124, 124]).toList = [124, 124] := by rw [listD]; rfl
      rw [t1] at q1
      rw [t2] at q2
      clear t1 t2
      rw [hkey, hr1] at hnx
      have HNX := Lib.hid hnx
      have hpb : ps.length ≤ 9000 := by have := HM.out.2.1; omega
      have hob : os.length ≤ 9000 := by have := HM.out.2.2.1; omega
      by_cases hk : (nextL m).1 = [38, 38] ∨ (nextL m).1 = [124, 124]
      · have hk' := hk
        have hl1 := Sw.next_less (l := m) (by rcases hk with e | e <;> (rw [e]; decide))
        rw [hr1] at hl1
        obtain ⟨k, rfl⟩ : ∃ k, gk = k + 1 := ⟨gk - 1, by have := HM.out.1; omega⟩
        obtain ⟨m2, hm2⟩ : ∃ m2, newlinesL r1 = m2 := ⟨_, rfl⟩
        have hl2 := newlines_le r1
        rw [hm2] at hl2
        by_cases ha : key = [38, 38]
        · rw [decide_eq_true ha] at q1
          rw [decide_eq_false (by rw [ha]; decide)] at q2
          clear ha
          have HNL := Lib.hid (fun W (hW : RdS W rb s r1 wi) => newlines_any rb s r1 wi W hW hs)
          rw [hm2] at HNL
          cases hm : pipeL v m2 with
          | bad a er =>
            have HCM := Lib.hid (fun W (hW : RdS W rb s m2 wi) => hm ▸ HC.out rb s m2 W hW hs)
            have HE : Hid (M = .bad a er) := Lib.hid (by rw [← HM.out.2.2.2]; exact pipes_bad hk (by rw [hr1, hm2, hm]))
            clear hnx hk hm HM hm2 hr1 hkey hl1 hl2
            go_wp2_with fail
            refine HNX.out.mono ?_
            rintro e W ⟨rfl, hb, hr1, hkl⟩
            have HP1 := Lib.hid (HPS.out.step (kept_told hb) (HPS.out.rd.told hb))
            have c1 := HP1.out.rd.c1
            have f1 := HP1.out.rd.fz 1
            have z1 := HP1.out.rd.lt
            have HRR := Lib.hid hr1
            clear hb hr1 hkl HPS
            go_wp2_with fail
            refine calls_gen _ (HP1.out.step (Kept.setCell (S := (· = rb)) ⟨rb, 1, none⟩ _ rfl) (HP1.out.rd.at_ HRR.out rfl)) ?_
            intro W2 hP2
            refine (HNL.out W2 hP2.rd).mono ?_
            rintro e W3 ⟨rfl, hk, hr⟩
            have hP3 := hP2.step hk hr
            obtain ⟨vso, So, hRo⟩ := hP3.orow
            have HP3 := Lib.hid hP3
            have HRO := Lib.hid hRo
            have d1 := cell_blk hP3.box 1
            have g1 := froz_blk hP3.box 1
            have z3 := fin_at hP3.box
            simp at d1
            have HOO := Lib.hid (hRo.row.alloc (.cells #[.string (nm key)] 9))
            have HNO := Lib.hid (new_cells W3 [.string (nm key)] 9)
            clear hk hr hP2 hP3 hRo HP1 c1 f1 z1
            go_wp2_with (at_builtin; refine wpList_append_lies _ rfl _ _ 30 rfl (w.heap.size + 1) 9 j0 (.string ByteArray.empty) 1 16 Try.underlying30 GI.out GZ0.out GZ1.out GZ2.out rfl (by decide) _ _ _ rfl HOO.out ⟨W3.heap.size, 0, none⟩ 1 1 [.string (nm key)] rfl rfl HNO.out (by intro u hu; rw [List.mem_singleton] at hu; subst hu; rfl) (by decide) (maxLen_ok (by omega)) (by omega) (by have := HP3.out.blt; simp; omega) (W3.heap.size + 1) (by simp) ?_; intro gO capO w4 hown hgrow hat hlt; have HO4 := Lib.hid hown; have HG4 := Lib.hid hgrow; have HA4 := Lib.hid hat; have hbx4 := (hgrow.block lb (by simp; omega) (fun e => HP3.out.one e.symm)).trans ((Below.heap_alloc _ _ _ z3).trans HP3.out.box); have e1 := cell_blk hbx4 1; have e2 := froz_blk hbx4 1; have e3 := fin_at hbx4; simp at e1; clear hown hgrow hat hbx4)
            refine wp_gen _ (HP3.out.op HRO.out rfl HG4.out HO4.out HA4.out) ?_
            intro W5 hP5
            clear HO4 HG4 HA4 e1 e2 e3 d1 g1 z3 HP3 HRO HOO HNO hlt
            have S0 : Hid (W5.drew.cell? ⟨lb, 0, none⟩ = some (.slice A ps.length ca)) := Lib.hid (cell_blk hP5.drew.box 0)
            have HCW := Lib.hid (HCM.out W5.drew hP5.drew.rd)
            have hpk := hP5.drew.kept
            clear hP5
            refine wp_region_held_drew (S := fun W => W.cell? ⟨lb, 0, none⟩ = some (.slice A ps.length ca)) (by kernel_rfl) S0.out (fun hHeld => ?_)
            refine wpAnyH_take (i := 0) (v := ?_) rfl (by kernel_rfl) (by kernel_rfl) (by kernel_rfl) (fun _ _ _ h => h) (Or.inl ⟨by rfl, ?_⟩) (by assumption) ?_
            rotate_left
            · (intro w hSw; (try dsimp only at hSw); go_simp; try with_reducible rfl)
            try simp only [List.getElem_toArray, List.getElem_cons_zero, Act.put, List.setIfInBounds_toArray, List.set_cons_zero, List.set_cons_succ]
            refine wpAnyH_take (i := 1) (v := ?_) rfl (by kernel_rfl) (by kernel_rfl) (by kernel_rfl) (fun _ _ _ h => h) (Or.inl ⟨by rfl, ?_⟩) (by assumption) ?_
            rotate_left
            · (intro w hSw; (try dsimp only at hSw); go_simp; try with_reducible rfl)
            try simp only [List.getElem_toArray, List.getElem_cons_zero, List.getElem_cons_succ, Act.put, List.setIfInBounds_toArray, List.set_cons_zero, List.set_cons_succ]
            refine wpAnyH_take (i := 2) (v := ?_) rfl (by kernel_rfl) (by kernel_rfl) (by kernel_rfl) (fun _ _ _ h => h) (Or.inl ⟨by rfl, ?_⟩) (by assumption) ?_
            rotate_left
            · (intro w hSw; (try dsimp only at hSw); go_simp; try with_reducible rfl)
            try simp only [List.getElem_toArray, List.getElem_cons_zero, List.getElem_cons_succ, Act.put, List.setIfInBounds_toArray, List.set_cons_zero, List.set_cons_succ]
            refine wpAnyH_ready (rs := [3]) (by kernel_rfl) (by simp) ?_
            refine AllReadyH.cons rfl (fun K hK => ?_) AllReadyH.nil
            go_simp
            go_wp2_with (go_at_call 30; refine HCW.out.mono ?_; rintro e w3 ⟨hk3, rfl⟩; simp only [sflt])
            rw [HE.out]
            exact ⟨rfl, hpk.trans hk3, rfl⟩
          | ok pq r2 =>
            have hl3 := hless _ _ _ hm
            have HCM := Lib.hid (fun W (hW : RdS W rb s m2 wi) => hm ▸ HC.out rb s m2 W hW hs)
            have HN : Hid (r2.length < k ∧ (ps ++ [pq]).length + k = r.length + 2 ∧ (os ++ [key]).length + 1 = (ps ++ [pq]).length ∧ pipesN v k (ps ++ [pq]) (os ++ [key]) r2 = M) := Lib.hid ⟨by have := HM.out.1; omega, by have := HM.out.2.1; simp; omega, by have := HM.out.2.2.1; simp; omega, by rw [← HM.out.2.2.2, ← hkey]; exact (pipes_ok hk' (by rw [hr1, hm2, hm])).symm⟩
            clear hnx hk hm HM hm2 hr1 hkey hl1 hl2 hl3 hk'
            obtain ⟨n, hn0⟩ : ∃ n : Nat, ps.length = n := ⟨_, rfl⟩
            rw [hn0] at HPS hpb
            have HNN : Hid (ps.length = n) := Lib.hid hn0
            clear hn0
            go_wp2_with fail
            refine HNX.out.mono ?_
            rintro e W ⟨rfl, hb, hr1, hkl⟩
            have HP1 := Lib.hid (HPS.out.step (kept_told hb) (HPS.out.rd.told hb))
            have c1 := HP1.out.rd.c1
            have f1 := HP1.out.rd.fz 1
            have z1 := HP1.out.rd.lt
            have HRR := Lib.hid hr1
            clear hb hr1 hkl HPS
            go_wp2_with fail
            refine calls_gen _ (HP1.out.step (Kept.setCell (S := (· = rb)) ⟨rb, 1, none⟩ _ rfl) (HP1.out.rd.at_ HRR.out rfl)) ?_
            intro W2 hP2
            refine (HNL.out W2 hP2.rd).mono ?_
            rintro e W3 ⟨rfl, hk, hr⟩
            have hP3 := hP2.step hk hr
            obtain ⟨vso, So, hRo⟩ := hP3.orow
            have HP3 := Lib.hid hP3
            have HRO := Lib.hid hRo
            have d1 := cell_blk hP3.box 1
            have g1 := froz_blk hP3.box 1
            have z3 := fin_at hP3.box
            simp at d1
            have HOO := Lib.hid (hRo.row.alloc (.cells #[.string (nm key)] 9))
            have HNO := Lib.hid (new_cells W3 [.string (nm key)] 9)
            clear hk hr hP2 hP3 hRo HP1 c1 f1 z1
            go_wp2_with (at_builtin; refine wpList_append_lies _ rfl _ _ 30 rfl (w.heap.size + 1) 9 j0 (.string ByteArray.empty) 1 16 Try.underlying30 GI.out GZ0.out GZ1.out GZ2.out rfl (by decide) _ _ _ rfl HOO.out ⟨W3.heap.size, 0, none⟩ 1 1 [.string (nm key)] rfl rfl HNO.out (by intro u hu; rw [List.mem_singleton] at hu; subst hu; rfl) (by decide) (maxLen_ok (by omega)) (by omega) (by have := HP3.out.blt; simp; omega) (W3.heap.size + 1) (by simp) ?_; intro gO capO w4 hown hgrow hat hlt; have HO4 := Lib.hid hown; have HG4 := Lib.hid hgrow; have HA4 := Lib.hid hat; have hbx4 := (hgrow.block lb (by simp; omega) (fun e => HP3.out.one e.symm)).trans ((Below.heap_alloc _ _ _ z3).trans HP3.out.box); have e1 := cell_blk hbx4 1; have e2 := froz_blk hbx4 1; have e3 := fin_at hbx4; simp at e1; clear hown hgrow hat hbx4)
            refine wp_gen _ (HP3.out.op HRO.out rfl HG4.out HO4.out HA4.out) ?_
            intro W5 hP5
            clear HO4 HG4 HA4 e1 e2 e3 d1 g1 z3 HP3 HRO HOO HNO hlt
            obtain ⟨vss, Sx, hRw⟩ := hP5.drew.prow
            have HPD := Lib.hid hP5.drew
            have HRW := Lib.hid hRw
            have HCW := Lib.hid (HCM.out W5.drew hP5.drew.rd)
            clear hP5 hRw
            have s1 := cell_blk HPD.out.box 0
            have sz := fin_at HPD.out.box
            simp at s1
            go_region_law (first
              | (go_simp; go_at_call 30; refine HCW.out.mono ?_; rintro e w2 ⟨hk2, v2, rfl, hr2, hv2⟩; obtain ⟨nb, A1, n1, c1, rfl, hrep⟩ := pipe_open hv2; have HK2 := Lib.hid hk2; have HR2 := Lib.hid hr2; have HREP := Lib.hid hrep; have hbx2 := hk2.at HPD.out.box (by have := HPD.out.lt; have := HPD.out.blt; omega); have HBX2 := Lib.hid hbx2; have j1 := cell_blk hbx2 0; have jz := fin_at hbx2; simp at j1; have HOW := Lib.hid ((row_kept HRW.out.row hk2 (fun k e1 e2 => by have := (HRW.out.row.lt k e1).1; have := HPD.out.lt; omega)).alloc (.cells #[.bool nb, .slice A1 n1 c1] 36)); have HNEW := Lib.hid (new_cells w2 [.bool nb, .slice A1 n1 c1] 36); have HOWN := Lib.hid (HNN.out ▸ HOW.out); have HONE : Hid (∀ u ∈ [Value.bool nb, .slice A1 n1 c1], u.oneCell' = true) := Lib.hid (by intro u hu; simp only [List.mem_cons, List.not_mem_nil, or_false] at hu; rcases hu with rfl | rfl <;> rfl); have HBS : Hid (w.heap.size + 1 ≤ (w2.alloc (.cells #[.bool nb, .slice A1 n1 c1] 36)).heap.size) := Lib.hid (by have := fin_at hbx2; have := HPD.out.blt; simp; omega); clear hk2 hr2 hrep hv2 hbx2)
              | (refine step_append_lies _ rfl (.tmp 35) (.tmp 38) 31 rfl (w.heap.size + 1) 36 i0 (.agg #[.bool false, .slice none 0 0]) 2 32 Try.underlying31 HI.out HZ0.out HZ1.out HZ2.out rfl (by decide) (.slice A n ca) n vss.flatten (by simp [Act.eval]) HOWN.out ⟨w2.heap.size, 0, none⟩ 1 1 [.bool nb, .slice A1 n1 c1] (by simp [Act.eval]) rfl HNEW.out HONE.out (by decide) (maxLen_ok (by omega)) (by omega) HBS.out (w2.heap.size + 1) (by simp) ?_; intro g cap w3 hown3 hg3 hat3 hlt3; have HO3 := Lib.hid hown3; have HG3 := Lib.hid hg3; have HA3 := Lib.hid hat3; have hb3 := HG3.out.block lb (by have := fin_at HBX2.out; simp; omega) (fun e => HPD.out.pne e.symm); have hbx3 := hb3.trans ((Below.heap_alloc _ _ _ (fin_at HBX2.out)).trans HBX2.out); have k1 := cell_blk hbx3 0; simp at k1; have HBX3 := Lib.hid hbx3; have fz1 := froz_blk hbx3 0; have hz3 := fin_at hbx3; clear hown3 hg3 hat3 hb3 hbx3))
            all_goals
              have hPN := HPD.out.app HRW.out HNN.out HK2.out HR2.out HREP.out rfl HG3.out HO3.out HA3.out
              have HPN : Hid (∃ cv' ov', cv' = Value.slice (some ⟨g, 0, none⟩) (ps ++ [pq]).length cap ∧ ov' = Value.slice (some ⟨gO, 0, none⟩) (os ++ [key]).length capO ∧ LSt rb s wi d w lb r2 cv' ov' (ps ++ [pq]) (os ++ [key]) (w3.setCell ⟨lb, 0, none⟩ (.slice (some ⟨g, 0, none⟩) (n + 1) cap))) := Lib.hid ⟨_, _, by rw [show (ps ++ [pq]).length = n + 1 from by have := HNN.out; simp; exact this], by rw [List.length_append, List.length_singleton], hPN⟩
              clear hPN
              go_wp2_with fail
              go_roundg k
              case measure => omega
              case rel =>
                obtain ⟨cv', ov', hcv, hov, hP⟩ := HPN.out
                exact ⟨r2, ps ++ [pq], os ++ [key], some ⟨g, 0, none⟩, cap, some ⟨gO, 0, none⟩, capO, HN, Lib.hid (hcv ▸ hov ▸ hP)⟩
        · have hb : key = [124, 124] := by rw [hkey] at hk; exact hk.resolve_left ha
          rw [decide_eq_false ha] at q1
          rw [decide_eq_true hb] at q2
          clear ha hb
          have HNL := Lib.hid (fun W (hW : RdS W rb s r1 wi) => newlines_any rb s r1 wi W hW hs)
          rw [hm2] at HNL
          cases hm : pipeL v m2 with
          | bad a er =>
            have HCM := Lib.hid (fun W (hW : RdS W rb s m2 wi) => hm ▸ HC.out rb s m2 W hW hs)
            have HE : Hid (M = .bad a er) := Lib.hid (by rw [← HM.out.2.2.2]; exact pipes_bad hk (by rw [hr1, hm2, hm]))
            clear hnx hk hm HM hm2 hr1 hkey hl1 hl2
            go_wp2_with fail
            refine HNX.out.mono ?_
            rintro e W ⟨rfl, hb, hr1, hkl⟩
            have HP1 := Lib.hid (HPS.out.step (kept_told hb) (HPS.out.rd.told hb))
            have c1 := HP1.out.rd.c1
            have f1 := HP1.out.rd.fz 1
            have z1 := HP1.out.rd.lt
            have HRR := Lib.hid hr1
            clear hb hr1 hkl HPS
            go_wp2_with fail
            refine calls_gen _ (HP1.out.step (Kept.setCell (S := (· = rb)) ⟨rb, 1, none⟩ _ rfl) (HP1.out.rd.at_ HRR.out rfl)) ?_
            intro W2 hP2
            refine (HNL.out W2 hP2.rd).mono ?_
            rintro e W3 ⟨rfl, hk, hr⟩
            have hP3 := hP2.step hk hr
            obtain ⟨vso, So, hRo⟩ := hP3.orow
            have HP3 := Lib.hid hP3
            have HRO := Lib.hid hRo
            have d1 := cell_blk hP3.box 1
            have g1 := froz_blk hP3.box 1
            have z3 := fin_at hP3.box
            simp at d1
            have HOO := Lib.hid (hRo.row.alloc (.cells #[.string (nm key)] 9))
            have HNO := Lib.hid (new_cells W3 [.string (nm key)] 9)
            clear hk hr hP2 hP3 hRo HP1 c1 f1 z1
            go_wp2_with (at_builtin; refine wpList_append_lies _ rfl _ _ 30 rfl (w.heap.size + 1) 9 j0 (.string ByteArray.empty) 1 16 Try.underlying30 GI.out GZ0.out GZ1.out GZ2.out rfl (by decide) _ _ _ rfl HOO.out ⟨W3.heap.size, 0, none⟩ 1 1 [.string (nm key)] rfl rfl HNO.out (by intro u hu; rw [List.mem_singleton] at hu; subst hu; rfl) (by decide) (maxLen_ok (by omega)) (by omega) (by have := HP3.out.blt; simp; omega) (W3.heap.size + 1) (by simp) ?_; intro gO capO w4 hown hgrow hat hlt; have HO4 := Lib.hid hown; have HG4 := Lib.hid hgrow; have HA4 := Lib.hid hat; have hbx4 := (hgrow.block lb (by simp; omega) (fun e => HP3.out.one e.symm)).trans ((Below.heap_alloc _ _ _ z3).trans HP3.out.box); have e1 := cell_blk hbx4 1; have e2 := froz_blk hbx4 1; have e3 := fin_at hbx4; simp at e1; clear hown hgrow hat hbx4)
            refine wp_gen _ (HP3.out.op HRO.out rfl HG4.out HO4.out HA4.out) ?_
            intro W5 hP5
            clear HO4 HG4 HA4 e1 e2 e3 d1 g1 z3 HP3 HRO HOO HNO hlt
            have S0 : Hid (W5.drew.cell? ⟨lb, 0, none⟩ = some (.slice A ps.length ca)) := Lib.hid (cell_blk hP5.drew.box 0)
            have HCW := Lib.hid (HCM.out W5.drew hP5.drew.rd)
            have hpk := hP5.drew.kept
            clear hP5
            refine wp_region_held_drew (S := fun W => W.cell? ⟨lb, 0, none⟩ = some (.slice A ps.length ca)) (by kernel_rfl) S0.out (fun hHeld => ?_)
            refine wpAnyH_take (i := 0) (v := ?_) rfl (by kernel_rfl) (by kernel_rfl) (by kernel_rfl) (fun _ _ _ h => h) (Or.inl ⟨by rfl, ?_⟩) (by assumption) ?_
            rotate_left
            · (intro w hSw; (try dsimp only at hSw); go_simp; try with_reducible rfl)
            try simp only [List.getElem_toArray, List.getElem_cons_zero, Act.put, List.setIfInBounds_toArray, List.set_cons_zero, List.set_cons_succ]
            refine wpAnyH_take (i := 1) (v := ?_) rfl (by kernel_rfl) (by kernel_rfl) (by kernel_rfl) (fun _ _ _ h => h) (Or.inl ⟨by rfl, ?_⟩) (by assumption) ?_
            rotate_left
            · (intro w hSw; (try dsimp only at hSw); go_simp; try with_reducible rfl)
            try simp only [List.getElem_toArray, List.getElem_cons_zero, List.getElem_cons_succ, Act.put, List.setIfInBounds_toArray, List.set_cons_zero, List.set_cons_succ]
            refine wpAnyH_take (i := 2) (v := ?_) rfl (by kernel_rfl) (by kernel_rfl) (by kernel_rfl) (fun _ _ _ h => h) (Or.inl ⟨by rfl, ?_⟩) (by assumption) ?_
            rotate_left
            · (intro w hSw; (try dsimp only at hSw); go_simp; try with_reducible rfl)
            try simp only [List.getElem_toArray, List.getElem_cons_zero, List.getElem_cons_succ, Act.put, List.setIfInBounds_toArray, List.set_cons_zero, List.set_cons_succ]
            refine wpAnyH_ready (rs := [3]) (by kernel_rfl) (by simp) ?_
            refine AllReadyH.cons rfl (fun K hK => ?_) AllReadyH.nil
            go_simp
            go_wp2_with (go_at_call 30; refine HCW.out.mono ?_; rintro e w3 ⟨hk3, rfl⟩; simp only [sflt])
            rw [HE.out]
            exact ⟨rfl, hpk.trans hk3, rfl⟩
          | ok pq r2 =>
            have hl3 := hless _ _ _ hm
            have HCM := Lib.hid (fun W (hW : RdS W rb s m2 wi) => hm ▸ HC.out rb s m2 W hW hs)
            have HN : Hid (r2.length < k ∧ (ps ++ [pq]).length + k = r.length + 2 ∧ (os ++ [key]).length + 1 = (ps ++ [pq]).length ∧ pipesN v k (ps ++ [pq]) (os ++ [key]) r2 = M) := Lib.hid ⟨by have := HM.out.1; omega, by have := HM.out.2.1; simp; omega, by have := HM.out.2.2.1; simp; omega, by rw [← HM.out.2.2.2, ← hkey]; exact (pipes_ok hk' (by rw [hr1, hm2, hm])).symm⟩
            clear hnx hk hm HM hm2 hr1 hkey hl1 hl2 hl3 hk'
            obtain ⟨n, hn0⟩ : ∃ n : Nat, ps.length = n := ⟨_, rfl⟩
            rw [hn0] at HPS hpb
            have HNN : Hid (ps.length = n) := Lib.hid hn0
            clear hn0
            go_wp2_with fail
            refine HNX.out.mono ?_
            rintro e W ⟨rfl, hb, hr1, hkl⟩
            have HP1 := Lib.hid (HPS.out.step (kept_told hb) (HPS.out.rd.told hb))
            have c1 := HP1.out.rd.c1
            have f1 := HP1.out.rd.fz 1
            have z1 := HP1.out.rd.lt
            have HRR := Lib.hid hr1
            clear hb hr1 hkl HPS
            go_wp2_with fail
            refine calls_gen _ (HP1.out.step (Kept.setCell (S := (· = rb)) ⟨rb, 1, none⟩ _ rfl) (HP1.out.rd.at_ HRR.out rfl)) ?_
            intro W2 hP2
            refine (HNL.out W2 hP2.rd).mono ?_
            rintro e W3 ⟨rfl, hk, hr⟩
            have hP3 := hP2.step hk hr
            obtain ⟨vso, So, hRo⟩ := hP3.orow
            have HP3 := Lib.hid hP3
            have HRO := Lib.hid hRo
            have d1 := cell_blk hP3.box 1
            have g1 := froz_blk hP3.box 1
            have z3 := fin_at hP3.box
            simp at d1
            have HOO := Lib.hid (hRo.row.alloc (.cells #[.string (nm key)] 9))
            have HNO := Lib.hid (new_cells W3 [.string (nm key)] 9)
            clear hk hr hP2 hP3 hRo HP1 c1 f1 z1
            go_wp2_with (at_builtin; refine wpList_append_lies _ rfl _ _ 30 rfl (w.heap.size + 1) 9 j0 (.string ByteArray.empty) 1 16 Try.underlying30 GI.out GZ0.out GZ1.out GZ2.out rfl (by decide) _ _ _ rfl HOO.out ⟨W3.heap.size, 0, none⟩ 1 1 [.string (nm key)] rfl rfl HNO.out (by intro u hu; rw [List.mem_singleton] at hu; subst hu; rfl) (by decide) (maxLen_ok (by omega)) (by omega) (by have := HP3.out.blt; simp; omega) (W3.heap.size + 1) (by simp) ?_; intro gO capO w4 hown hgrow hat hlt; have HO4 := Lib.hid hown; have HG4 := Lib.hid hgrow; have HA4 := Lib.hid hat; have hbx4 := (hgrow.block lb (by simp; omega) (fun e => HP3.out.one e.symm)).trans ((Below.heap_alloc _ _ _ z3).trans HP3.out.box); have e1 := cell_blk hbx4 1; have e2 := froz_blk hbx4 1; have e3 := fin_at hbx4; simp at e1; clear hown hgrow hat hbx4)
            refine wp_gen _ (HP3.out.op HRO.out rfl HG4.out HO4.out HA4.out) ?_
            intro W5 hP5
            clear HO4 HG4 HA4 e1 e2 e3 d1 g1 z3 HP3 HRO HOO HNO hlt
            obtain ⟨vss, Sx, hRw⟩ := hP5.drew.prow
            have HPD := Lib.hid hP5.drew
            have HRW := Lib.hid hRw
            have HCW := Lib.hid (HCM.out W5.drew hP5.drew.rd)
            clear hP5 hRw
            have s1 := cell_blk HPD.out.box 0
            have sz := fin_at HPD.out.box
            simp at s1
            go_region_law (first
              | (go_simp; go_at_call 30; refine HCW.out.mono ?_; rintro e w2 ⟨hk2, v2, rfl, hr2, hv2⟩; obtain ⟨nb, A1, n1, c1, rfl, hrep⟩ := pipe_open hv2; have HK2 := Lib.hid hk2; have HR2 := Lib.hid hr2; have HREP := Lib.hid hrep; have hbx2 := hk2.at HPD.out.box (by have := HPD.out.lt; have := HPD.out.blt; omega); have HBX2 := Lib.hid hbx2; have j1 := cell_blk hbx2 0; have jz := fin_at hbx2; simp at j1; have HOW := Lib.hid ((row_kept HRW.out.row hk2 (fun k e1 e2 => by have := (HRW.out.row.lt k e1).1; have := HPD.out.lt; omega)).alloc (.cells #[.bool nb, .slice A1 n1 c1] 36)); have HNEW := Lib.hid (new_cells w2 [.bool nb, .slice A1 n1 c1] 36); have HOWN := Lib.hid (HNN.out ▸ HOW.out); have HONE : Hid (∀ u ∈ [Value.bool nb, .slice A1 n1 c1], u.oneCell' = true) := Lib.hid (by intro u hu; simp only [List.mem_cons, List.not_mem_nil, or_false] at hu; rcases hu with rfl | rfl <;> rfl); have HBS : Hid (w.heap.size + 1 ≤ (w2.alloc (.cells #[.bool nb, .slice A1 n1 c1] 36)).heap.size) := Lib.hid (by have := fin_at hbx2; have := HPD.out.blt; simp; omega); clear hk2 hr2 hrep hv2 hbx2)
              | (refine step_append_lies _ rfl (.tmp 35) (.tmp 38) 31 rfl (w.heap.size + 1) 36 i0 (.agg #[.bool false, .slice none 0 0]) 2 32 Try.underlying31 HI.out HZ0.out HZ1.out HZ2.out rfl (by decide) (.slice A n ca) n vss.flatten (by simp [Act.eval]) HOWN.out ⟨w2.heap.size, 0, none⟩ 1 1 [.bool nb, .slice A1 n1 c1] (by simp [Act.eval]) rfl HNEW.out HONE.out (by decide) (maxLen_ok (by omega)) (by omega) HBS.out (w2.heap.size + 1) (by simp) ?_; intro g cap w3 hown3 hg3 hat3 hlt3; have HO3 := Lib.hid hown3; have HG3 := Lib.hid hg3; have HA3 := Lib.hid hat3; have hb3 := HG3.out.block lb (by have := fin_at HBX2.out; simp; omega) (fun e => HPD.out.pne e.symm); have hbx3 := hb3.trans ((Below.heap_alloc _ _ _ (fin_at HBX2.out)).trans HBX2.out); have k1 := cell_blk hbx3 0; simp at k1; have HBX3 := Lib.hid hbx3; have fz1 := froz_blk hbx3 0; have hz3 := fin_at hbx3; clear hown3 hg3 hat3 hb3 hbx3))
            all_goals
              have hPN := HPD.out.app HRW.out HNN.out HK2.out HR2.out HREP.out rfl HG3.out HO3.out HA3.out
              have HPN : Hid (∃ cv' ov', cv' = Value.slice (some ⟨g, 0, none⟩) (ps ++ [pq]).length cap ∧ ov' = Value.slice (some ⟨gO, 0, none⟩) (os ++ [key]).length capO ∧ LSt rb s wi d w lb r2 cv' ov' (ps ++ [pq]) (os ++ [key]) (w3.setCell ⟨lb, 0, none⟩ (.slice (some ⟨g, 0, none⟩) (n + 1) cap))) := Lib.hid ⟨_, _, by rw [show (ps ++ [pq]).length = n + 1 from by have := HNN.out; simp; exact this], by rw [List.length_append, List.length_singleton], hPN⟩
              clear hPN
              go_wp2_with fail
              go_roundg k
              case measure => omega
              case rel =>
                obtain ⟨cv', ov', hcv, hov, hP⟩ := HPN.out
                exact ⟨r2, ps ++ [pq], os ++ [key], some ⟨g, 0, none⟩, cap, some ⟨gO, 0, none⟩, capO, HN, Lib.hid (hcv ▸ hov ▸ hP)⟩
      · have HE : Hid (M = .ok (.mk ps os) m) := Lib.hid (by rw [← HM.out.2.2.2]; exact pipes_end hk)
        rw [hkey] at hk
        rw [decide_eq_false (fun e => hk (.inl e))] at q1
        rw [decide_eq_false (fun e => hk (.inr e))] at q2
        clear hnx hk HM hr1 hkey
        go_wp2_with fail
        refine HNX.out.mono ?_
        rintro e W ⟨rfl, hb, hr1, hkl⟩
        have hP := HPS.out.step (kept_told hb) (HPS.out.rd.told hb)
        have b0 := cell_blk hP.box 0
        have b1 := cell_blk hP.box 1
        have a0 := cell_blk hP.res 0
        have a1 := cell_blk hP.res 1
        have f0 := froz_blk hP.res 0
        have f1 := froz_blk hP.res 1
        have z1 := fin_at hP.res
        have z2 := fin_at hP.box
        simp at b0 b1 a0 a1
        have HPE := Lib.hid hP
        clear hP hb hr1 hkl HPS
        go_wp2_with fail
        refine bodyPost_ret (results_cell_row rfl _ _ _ 33 _ (0, 0) _ rfl (two_set HPE.out.res _ _) Try.underlying33 rfl (by kernel_rfl)) rfl ?_
        rw [HE.out]
        exact HPE.out.done (by omega) (by omega)

end Go.Proofs.Ytgajbehlggikdaa.Sw

/- DERIVED. The walk over lists. -/
namespace Go.Proofs.Ytgajbehlggikdaa.Sw
open Go.RowKit
open PathM WdM SyM
open Go.Proofs.Ytgajbehlggikdaa.Wd
set_option linter.unusedVariables false

/-- A list is read, as the model says. -/
def LtOk (list : Bs → Rs LiT) (d wi : Nat) : Prop := ∀ (rb : Nat) (s : ByteArray) (l : Bs) (w : World), RdS w rb s l wi → s.size ≤ 8192 →
  Calls Try.prog 24 #[.pointer (some ⟨rb, 0, none⟩)] w (Reads rb s wi (list l) (VAgg (RLi (LsIn d))) w)
theorem list_open {d : Nat} {w : World} {S : Nat → Prop} {v : Value} {p : LiT} (h : VAgg (RLi (LsIn d)) w S v p) : ∃ (A1 A2 : Option Addr) (n1 c1 n2 c2 : Nat), v = .agg #[.slice A1 n1 c1, .slice A2 n2 c2] ∧ RLi (LsIn d) w S [.slice A1 n1 c1, .slice A2 n2 c2] p := by
  obtain ⟨vs, rfl, h⟩ := h
  obtain ⟨ps, os⟩ := p
  obtain ⟨pv, ov, rfl, h1, h2⟩ := h
  obtain ⟨A1, n1, c1, rfl⟩ := h1.form
  obtain ⟨A2, n2, c2, rfl⟩ := h2.form
  exact ⟨A1, A2, n1, c1, n2, c2, rfl, _, _, rfl, h1, h2⟩
theorem listInfo : (Try.prog.info? 33).map (fun i => (i.zero, i.size, i.bytes)) = some (some (.agg #[.slice none 0 0, .slice none 0 0]), 2, 48) := by kernel_rfl
theorem lists_deep (d wi : Nat) (hwi : 16 < wi) : LsOk tooDeep d wi := by
  intro rb s l w h hs
  have HE := Lib.hid (enter_deep rb s l wi (pl s l) w h hwi)
  have r1 := h.c1
  have hz := h.lt
  clear h
  go_enter Try.func18, Try.ntmps18
  go_wp2_with (go_at_call 22; refine HE.out.mono ?_; rintro e W ⟨rfl, rfl⟩; simp only [sflt])
  exact ⟨rfl, Kept.refl _ _, rfl⟩
/-- Lists being read. -/
structure SSt (rb : Nat) (s : ByteArray) (wi d : Nat) (w : World) (l : Bs) (v : Value) (acc : List LiT) (W : World) : Prop where
  row : Row 2 (RLi (LsIn d)) 33 w.heap.size (fun _ => False) W v acc
  rd : RdS W rb s l wi
  kept : Kept (· = rb) w W
  lt : rb < w.heap.size
theorem SSt.step {rb : Nat} {s : ByteArray} {wi wj d : Nat} {w : World} {l r : Bs} {v : Value} {acc : List LiT} {W W' : World} (h : SSt rb s wi d w l v acc W) (hk : Kept (· = rb) W W') (hr : RdS W' rb s r wj) : SSt rb s wj d w r v acc W' := by
  have h1 := h.lt
  exact ⟨h.row.below (RLi.good (LsIn.good d)) hk (fun k e => by omega), hr, h.kept.trans hk, h1⟩
theorem SSt.app {rb : Nat} {s : ByteArray} {wi d : Nat} {w : World} {l r : Bs} {v : Value} {acc : List LiT} {W w2 w3 : World} {vss : List (List Value)} {S : Nat → Prop} {o : Obj} {vs : List Value} {x : LiT} {g cap n : Nat} (h : SSt rb s wi d w l v acc W)
    (hR : Rw 2 (RLi (LsIn d)) 33 w.heap.size (fun _ => False) W v acc vss S) (hn : acc.length = n) (hk : Kept (· = rb) W w2) (hr : RdS w2 rb s r wi) (hc : RLi (LsIn d) w2 (Nw W.heap.size w2) vs x) (hvs : vs.length = 2)
    (hg : (w2.alloc o).grownBy w3 v.ownBlock) (h3 : w3.ownsRow w.heap.size 33 2 (.slice (some ⟨g, 0, none⟩) (n + 1) cap) (n + 1) (vss.flatten ++ vs)) (hat : v.ownBlock = some g ∨ g = w2.heap.size + 1) :
    SSt rb s wi d w r (.slice (some ⟨g, 0, none⟩) (n + 1) cap) (acc ++ [x]) w3 := by
  have h1 := h.lt
  have hlt := hR.row.lt
  have hsz := h.kept.size
  have hk4 : Kept (fun k => v.ownBlock = some k) w2 w3 := (kept_alloc w2 o).trans (Kept.grown hg (fun k e => e))
  refine ⟨Rw.app (RLi.good (LsIn.good d)) hR hn (fun k e => e.elim) hk (by omega) (by omega) hc hvs hg h3 hat, hr.kept hk4 (fun e => by have := (hlt _ e).1; omega), (h.kept.trans hk).then hk4 (fun k h5 h4 => by have := (hlt _ h4).1; omega), h1⟩
theorem SSt.start {rb : Nat} {s : ByteArray} {wi d : Nat} {w W : World} {l : Bs} {vs : List Value} {x : LiT} (h2 : RdS W rb s l wi) (h3 : Kept (· = rb) w W) (h4 : rb < w.heap.size) (hl : vs.length = 2) (h5 : RLi (LsIn d) W (Nw w.heap.size W) vs x) :
    SSt rb s wi d w l (.slice (some ⟨W.heap.size, 0, none⟩) 1 1) [x] (W.alloc (.cells vs.toArray 33)) := by
  have hb : Below W.heap.size W (W.alloc (.cells vs.toArray 33)) := (Below.refl _ _).alloc (Nat.le_refl _) _
  exact ⟨Row.one (S := Nw w.heap.size W) (heap_alloc_new W _) h3.size hl (RLi.good (LsIn.good d) _ _ _ _ _ _ (fun k hk hS => ⟨hS, hb.block k hk⟩) h5) (fun k hk => ⟨hk.1, by have := hk.2; have := hb.size; omega, by have := hk.2; omega, fun e => e⟩), h2.told hb, h3.trans (kept_told hb), h4⟩
def sepL (l : Bs) : Option Bs := match passL [59] l with
  | some r => some r
  | none => passL [10] l
theorem ls_end {v : Lv} {k : Nat} {acc : List LiT} {m : Bs} (h1 : passL [59] m = none) (h2 : passL [10] m = none) : listsN v k acc m = .ok acc m := by
  cases k with
  | zero => rfl
  | succ k => rw [listsN, h1, h2]
theorem ls_step {v : Lv} {k : Nat} {acc : List LiT} {m r : Bs} (h : sepL m = some r) : listsN v (k + 1) acc m = if listsEnd (newlinesL r) then .ok acc (newlinesL r) else match listL v (newlinesL r) with
    | .bad a e => .bad a e
    | .ok x r2 => listsN v k (acc ++ [x]) r2 := by
  unfold sepL at h
  rw [listsN]
  cases hx : passL [59] m with
  | some r' =>
    rw [hx] at h
    injection h with h
    subst h
    rfl
  | none =>
    rw [hx] at h
    have h : passL [10] m = some r := h
    rw [h]
    rfl
theorem ls_break {v : Lv} {k : Nat} {acc : List LiT} {m r : Bs} (h : sepL m = some r) (h2 : listsEnd (newlinesL r) = true) : listsN v (k + 1) acc m = .ok acc (newlinesL r) := by
  rw [ls_step h, if_pos h2]
theorem ls_bad {v : Lv} {k : Nat} {acc : List LiT} {m r : Bs} {a : Nat} {e : Int} (h : sepL m = some r) (h2 : listsEnd (newlinesL r) = false) (h3 : listL v (newlinesL r) = .bad a e) : listsN v (k + 1) acc m = .bad a e := by
  rw [ls_step h, if_neg (by rw [h2]; decide), h3]
theorem ls_ok {v : Lv} {k : Nat} {acc : List LiT} {m r r2 : Bs} {x : LiT} (h : sepL m = some r) (h2 : listsEnd (newlinesL r) = false) (h3 : listL v (newlinesL r) = .ok x r2) : listsN v (k + 1) acc m = listsN v k (acc ++ [x]) r2 := by
  rw [ls_step h, if_neg (by rw [h2]; decide), h3]
theorem lists_refuse {v : Lv} {l : Bs} (h : listsEnd (newlinesL l) = true) : listsL v l = refuse (newlinesL l) := by unfold listsL; rw [if_pos h]
theorem lists_bad {v : Lv} {l : Bs} {a : Nat} {e : Int} (h : listsEnd (newlinesL l) = false) (h2 : listL v (newlinesL l) = .bad a e) : listsL v l = .bad a e := by unfold listsL; rw [if_neg (by rw [h]; decide), h2]
theorem lists_go {v : Lv} {l r : Bs} {x : LiT} (h : listsEnd (newlinesL l) = false) (h2 : listL v (newlinesL l) = .ok x r) : listsL v l = listsN v (r.length + 1) [x] r := by unfold listsL; rw [if_neg (by rw [h]; decide), h2]
set_option maxRecDepth 100000 in
set_option maxHeartbeats 6400000 in
theorem lists_any {v : Lv} {d wi : Nat} (hwi : wi ≤ 16) (hC : LtOk (listL v) d (wi + 1)) (hless : ∀ l c r, listL v l = .ok c r → r.length < l.length) : LsOk (listsL v) (d + 1) wi := by
  intro rb s l w h hs
  have HC := Lib.hid hC
  have hsl := h.len
  obtain ⟨i0, hi, hz0, hz1, hz2⟩ := info_parts listInfo
  have HI := Lib.hid hi; have HZ0 := Lib.hid hz0; have HZ1 := Lib.hid hz1; have HZ2 := Lib.hid hz2; clear hi hz0 hz1 hz2
  have HW := Lib.hid h
  have r1 := h.c1
  have hz := h.lt
  have HEN := Lib.hid (fun n => enter_any rb s l wi n w h hwi)
  obtain ⟨l1, hl1⟩ : ∃ x, newlinesL l = x := ⟨_, rfl⟩
  have hl1s := newlines_le l
  rw [hl1] at hl1s
  have HNL := Lib.hid (fun W (hW : RdS W rb s l (wi + 1)) => newlines_any rb s l (wi + 1) W hW hs)
  rw [hl1] at HNL
  have HLE := Lib.hid (fun W (hW : RdS W rb s l1 (wi + 1)) => listsEnd_any rb s l1 (wi + 1) W hW hs)
  clear h
  cases hle : listsEnd l1 with
  | true =>
    rw [lists_refuse (by rw [hl1]; exact hle), hl1]
    rw [hle] at HLE
    obtain ⟨rn, re, hRF, hr⟩ := refuse_ex rb s l1 (wi + 1) hs
    obtain ⟨ra, hra, hrn⟩ := refused_bad (α := List LiT) hRF
    rw [hra]
    have HRN := Lib.hid hrn
    have HRC := Lib.hid hr
    clear hC hless hRF hra hrn hr hle hl1
    go_enter Try.func18, Try.ntmps18
    go_wp2_with (first | (go_at_call 22; refine (HEN.out _).mono ?_; rintro e W ⟨rfl, hk1, hr1⟩; have HK1 := Lib.hid hk1; have HR1 := Lib.hid hr1; clear hk1 hr1) | (go_at_call 16; refine (HNL.out _ HR1.out).mono ?_; rintro e W2 ⟨rfl, hk2, hr2⟩; have HK2 := Lib.hid hk2; have HR2 := Lib.hid hr2; clear hk2 hr2) | (go_at_call 23; refine (HLE.out _ HR2.out).mono ?_; rintro e W3 ⟨rfl, hb3⟩; have HB3 := Lib.hid hb3; have HR3 := Lib.hid (HR2.out.told hb3); clear hb3) | (go_at_call 19; refine (HRC.out _ HR3.out).mono ?_; rintro e W4 ⟨rfl, rfl⟩))
    exact ⟨rfl, (HK1.out.trans HK2.out).trans (kept_told HB3.out), sflt_at HRN.out.symm⟩
  | false =>
    rw [hle] at HLE
    have HLS := Lib.hid (fun W (hW : RdS W rb s l1 (wi + 1)) => hC rb s l1 W hW hs)
    cases hm : listL v l1 with
    | bad a er =>
      rw [lists_bad (by rw [hl1]; exact hle) (by rw [hl1]; exact hm)]
      rw [hm] at HLS
      clear hC hless hle hl1 hm
      go_enter Try.func18, Try.ntmps18
      go_wp2_with (first | (go_at_call 22; refine (HEN.out _).mono ?_; rintro e W ⟨rfl, hk1, hr1⟩; have HK1 := Lib.hid hk1; have HR1 := Lib.hid hr1; clear hk1 hr1) | (go_at_call 16; refine (HNL.out _ HR1.out).mono ?_; rintro e W2 ⟨rfl, hk2, hr2⟩; have HK2 := Lib.hid hk2; have HR2 := Lib.hid hr2; clear hk2 hr2) | (go_at_call 23; refine (HLE.out _ HR2.out).mono ?_; rintro e W3 ⟨rfl, hb3⟩; have HB3 := Lib.hid hb3; have HR3 := Lib.hid (HR2.out.told hb3); clear hb3) | (go_at_call 24; refine (HLS.out _ HR3.out).mono ?_; rintro e W4 ⟨hk4, rfl⟩; simp only [sflt]))
      exact ⟨rfl, ((HK1.out.trans HK2.out).trans (kept_told HB3.out)).trans hk4, rfl⟩
    | ok x r =>
      rw [lists_go (by rw [hl1]; exact hle) (by rw [hl1]; exact hm)]
      rw [hm] at HLS
      have hrl := hless _ _ _ hm
      obtain ⟨M, hM⟩ : ∃ M, listsN v (r.length + 1) [x] r = M := ⟨_, rfl⟩
      rw [hM]
      have HM0 : Hid (r.length < r.length + 1 ∧ ([x] : List LiT).length + (r.length + 1) = r.length + 2 ∧ listsN v (r.length + 1) [x] r = M) := Lib.hid ⟨by omega, by simp; omega, hM⟩
      clear hC hle hl1 hm hM
      go_enter Try.func18, Try.ntmps18
      go_wp2_with (first | (go_at_call 22; refine (HEN.out _).mono ?_; rintro e W ⟨rfl, hk1, hr1⟩; have HK1 := Lib.hid hk1; have HR1 := Lib.hid hr1; clear hk1 hr1) | (go_at_call 16; refine (HNL.out _ HR1.out).mono ?_; rintro e W2 ⟨rfl, hk2, hr2⟩; have HK2 := Lib.hid hk2; have HR2 := Lib.hid hr2; clear hk2 hr2) | (go_at_call 23; refine (HLE.out _ HR2.out).mono ?_; rintro e W3 ⟨rfl, hb3⟩; have HB3 := Lib.hid hb3; have HR3 := Lib.hid (HR2.out.told hb3); clear hb3) | (go_at_call 24; refine (HLS.out _ HR3.out).mono ?_; rintro e W4 ⟨hk4, v4, rfl, hr4, hv4⟩; obtain ⟨A1, A2, n1, c1, n2, c2, rfl, hrep⟩ := list_open hv4; have HST := Lib.hid (SSt.start (vs := [.slice A1 n1 c1, .slice A2 n2 c2]) hr4 (((HK1.out.trans HK2.out).trans (kept_told HB3.out)).trans hk4) HW.out.lt rfl (RLi.good (LsIn.good d) _ _ _ _ _ _ (fun k h1 h2 => ⟨⟨Nat.le_trans ((HK1.out.trans HK2.out).trans (kept_told (S := (· = rb)) HB3.out)).size h2.1, h2.2⟩, rfl⟩) hrep)); clear hk4 hr4 hv4 hrep))
      obtain ⟨pa, hpa⟩ : ∃ pa : Option Addr, some ⟨W4.heap.size, 0, none⟩ = pa := ⟨_, rfl⟩
      refine wp_gen _ HST.out ?_
      clear HST
      rw [hpa]
      intro W5 hP
      have HP0 := Lib.hid hP
      clear hP hpa
      go_loopg [3] (r.length + 1) (fun k x3 wr => ∃ (m : Bs) (acc : List LiT) (A : Option Addr) (ca : Nat), x3 = .slice A acc.length ca ∧ Hid (m.length < k ∧ acc.length + k = r.length + 2 ∧ listsN v k acc m = M) ∧ Hid (SSt rb s (wi + 1) d w m (.slice A acc.length ca) acc wr))
      case atStart => exact ⟨r, [x], pa, 1, rfl, HM0, HP0⟩
      case round =>
        obtain ⟨m, acc, A, ca, rfl, HM, HPS⟩ := hrel
        clear HP0 HM0
        have hp1 := pass_any rb s m (wi + 1) [59] wr HPS.out.rd hs
        have hnb : acc.length ≤ 9000 := by have := HM.out.2.1; omega
        cases hx : passL [59] m with
        | some r1 =>
          rw [hx] at hp1
          have hsep : sepL m = some r1 := by unfold sepL; rw [hx]
          have hl := Sw.pass_less (by decide) hx
          have HPA := Lib.hid hp1
          clear hp1 hx
          obtain ⟨k, rfl⟩ : ∃ k, gk = k + 1 := ⟨gk - 1, by have := HM.out.1; omega⟩
          obtain ⟨m2, hm2⟩ : ∃ m2, newlinesL r1 = m2 := ⟨_, rfl⟩
          have hl2 := newlines_le r1
          rw [hm2] at hl2
          have HNM := Lib.hid (fun W (hW : RdS W rb s r1 (wi + 1)) => newlines_any rb s r1 (wi + 1) W hW hs)
          rw [hm2] at HNM
          have HLM := Lib.hid (fun W (hW : RdS W rb s m2 (wi + 1)) => listsEnd_any rb s m2 (wi + 1) W hW hs)
          cases hle : listsEnd m2 with
          | true =>
            rw [hle] at HLM
            have HE : Hid (M = .ok acc m2) := Lib.hid (by rw [← HM.out.2.2, ← hm2]; exact ls_break hsep (by rw [hm2]; exact hle))
            have HLV := Lib.hid (fun W (hW : RdS W rb s m2 (wi + 1)) => leave_any rb s m2 wi W hW (by omega))
            clear HM hm2 hle hsep hl hl2
            go_wp2_with fail
            refine HPA.out.mono ?_
            rintro e W ⟨rfl, hk, hr⟩
            have HP1 := Lib.hid (HPS.out.step hk hr)
            clear hk hr HPS
            go_wp2_with fail
            refine (HNM.out W HP1.out.rd).mono ?_
            rintro e W6 ⟨rfl, hk, hr⟩
            have HP3 := Lib.hid (HP1.out.step hk hr)
            clear hk hr HP1
            go_wp2_with fail
            refine (HLM.out W6 HP3.out.rd).mono ?_
            rintro e W7 ⟨rfl, hb7⟩
            have HP4 := Lib.hid (HP3.out.step (kept_told hb7) (HP3.out.rd.told hb7))
            clear hb7 HP3
            go_wp2_with fail
            refine (HLV.out W7 HP4.out.rd).mono ?_
            rintro e W8 ⟨rfl, hk, hr⟩
            have HP5 := Lib.hid (HP4.out.step hk hr)
            clear hk hr HP4
            go_wp2_with fail
            go_ret
            rw [HE.out]
            exact ⟨HP5.out.kept, _, rfl, HP5.out.rd, HP5.out.row.sl (RLi.good (LsIn.good d)) (by omega)⟩
          | false =>
            rw [hle] at HLM
            have HLT := Lib.hid (fun W (hW : RdS W rb s m2 (wi + 1)) => HC.out rb s m2 W hW hs)
            cases hm : listL v m2 with
            | bad a er =>
              rw [hm] at HLT
              have HE : Hid (M = .bad a er) := Lib.hid (by rw [← HM.out.2.2]; exact ls_bad hsep (by rw [hm2]; exact hle) (by rw [hm2]; exact hm))
              clear HM hm2 hle hsep hl hl2 hm
              go_wp2_with fail
              refine HPA.out.mono ?_
              rintro e W ⟨rfl, hk, hr⟩
              have HP1 := Lib.hid (HPS.out.step hk hr)
              clear hk hr HPS
              go_wp2_with fail
              refine (HNM.out W HP1.out.rd).mono ?_
              rintro e W6 ⟨rfl, hk, hr⟩
              have HP3 := Lib.hid (HP1.out.step hk hr)
              clear hk hr HP1
              go_wp2_with fail
              refine (HLM.out W6 HP3.out.rd).mono ?_
              rintro e W7 ⟨rfl, hb7⟩
              have HP4 := Lib.hid (HP3.out.step (kept_told hb7) (HP3.out.rd.told hb7))
              clear hb7 HP3
              go_wp2_with fail
              refine (HLT.out W7 HP4.out.rd).mono ?_
              rintro e W8 ⟨hk, rfl⟩
              simp only [sflt]
              go_wp2_with fail
              rw [HE.out]
              exact ⟨rfl, HP4.out.kept.trans hk, rfl⟩
            | ok x2 r2 =>
              rw [hm] at HLT
              have hl3 := hless _ _ _ hm
              have HN : Hid (r2.length < k ∧ (acc ++ [x2]).length + k = r.length + 2 ∧ listsN v k (acc ++ [x2]) r2 = M) := Lib.hid ⟨by have := HM.out.1; omega, by have := HM.out.2.1; simp; omega, by rw [← HM.out.2.2]; exact (ls_ok hsep (by rw [hm2]; exact hle) (by rw [hm2]; exact hm)).symm⟩
              clear HM hm2 hle hsep hl hl2 hm hl3
              obtain ⟨n, hn0⟩ : ∃ n : Nat, acc.length = n := ⟨_, rfl⟩
              rw [hn0] at HPS hnb
              rw [hn0]
              have HNN : Hid (acc.length = n) := Lib.hid hn0
              clear hn0
              go_wp2_with fail
              refine HPA.out.mono ?_
              rintro e W ⟨rfl, hk, hr⟩
              have HP1 := Lib.hid (HPS.out.step hk hr)
              clear hk hr HPS
              go_wp2_with fail
              refine (HNM.out W HP1.out.rd).mono ?_
              rintro e W6 ⟨rfl, hk, hr⟩
              have HP3 := Lib.hid (HP1.out.step hk hr)
              clear hk hr HP1
              go_wp2_with fail
              refine (HLM.out W6 HP3.out.rd).mono ?_
              rintro e W7 ⟨rfl, hb7⟩
              have HP4 := Lib.hid (HP3.out.step (kept_told hb7) (HP3.out.rd.told hb7))
              clear hb7 HP3
              obtain ⟨vss, Sx, hRw⟩ := HP4.out.row
              have HRW := Lib.hid hRw
              clear hRw
              go_wp2_with (first | (go_at_call 24; refine (HLT.out W7 HP4.out.rd).mono ?_; rintro e w2 ⟨hk2, v2, rfl, hr2, hv2⟩; obtain ⟨B1, B2, m1, d1, m2, d2, rfl, hrep⟩ := list_open hv2; have HK2 := Lib.hid hk2; have HR2 := Lib.hid hr2; have HREP := Lib.hid hrep; have HOW := Lib.hid ((row_kept HRW.out.row hk2 (fun k e1 e2 => by have := (HRW.out.row.lt k e1).1; have := HP4.out.lt; omega)).alloc (.cells #[.slice B1 m1 d1, .slice B2 m2 d2] 33)); have HNEW := Lib.hid (new_cells w2 [.slice B1 m1 d1, .slice B2 m2 d2] 33); have HOWN := Lib.hid (HNN.out ▸ HOW.out); have HBS : Hid (w.heap.size ≤ (w2.alloc (.cells #[.slice B1 m1 d1, .slice B2 m2 d2] 33)).heap.size) := Lib.hid (by have := HP4.out.kept.size; have := hk2.size; simp; omega); clear hk2 hr2 hrep hv2) | (at_builtin; refine wpList_append_lies _ rfl _ _ 23 rfl w.heap.size 33 i0 (.agg #[.slice none 0 0, .slice none 0 0]) 2 48 Try.underlying23 HI.out HZ0.out HZ1.out HZ2.out rfl (by decide) _ _ _ rfl HOWN.out ⟨w2.heap.size, 0, none⟩ 1 1 [.slice B1 m1 d1, .slice B2 m2 d2] rfl rfl HNEW.out (by intro u hu; simp only [List.mem_cons, List.not_mem_nil, or_false] at hu; rcases hu with rfl | rfl <;> rfl) (by decide) (maxLen_ok (by omega)) (by omega) HBS.out (w2.heap.size + 1) (by simp) ?_; intro g cap w4 hown hgrow hat hlt; have HNX := Lib.hid (HP4.out.app HRW.out HNN.out HK2.out HR2.out HREP.out rfl hgrow hown hat); clear hown hgrow hat))
              have HPN : Hid (∃ cv', cv' = Value.slice (some ⟨g, 0, none⟩) (acc ++ [x2]).length cap ∧ Value.slice (some ⟨g, 0, none⟩) (n + 1) cap = cv' ∧ SSt rb s (wi + 1) d w r2 cv' (acc ++ [x2]) w4) := Lib.hid ⟨_, by rw [show (acc ++ [x2]).length = n + 1 from by have := HNN.out; simp; exact this], rfl, HNX.out⟩
              clear HNX
              go_roundg k
              case measure => omega
              case rel =>
                obtain ⟨cv', hcv, hcw, hP⟩ := HPN.out
                exact ⟨r2, acc ++ [x2], some ⟨g, 0, none⟩, cap, hcw.trans hcv, HN, Lib.hid (hcv ▸ hP)⟩
        | none =>
          rw [hx] at hp1
          have HPA := Lib.hid hp1
          have HP2 := Lib.hid (fun W (hW : RdS W rb s m (wi + 1)) => pass_any rb s m (wi + 1) [10] W hW hs)
          cases hx2 : passL [10] m with
          | some r1 =>
            rw [hx2] at HP2
            have hsep : sepL m = some r1 := by unfold sepL; rw [hx]; exact hx2
            have hl := Sw.pass_less (by decide) hx2
            clear hp1 hx hx2
            obtain ⟨k, rfl⟩ : ∃ k, gk = k + 1 := ⟨gk - 1, by have := HM.out.1; omega⟩
            obtain ⟨m2, hm2⟩ : ∃ m2, newlinesL r1 = m2 := ⟨_, rfl⟩
            have hl2 := newlines_le r1
            rw [hm2] at hl2
            have HNM := Lib.hid (fun W (hW : RdS W rb s r1 (wi + 1)) => newlines_any rb s r1 (wi + 1) W hW hs)
            rw [hm2] at HNM
            have HLM := Lib.hid (fun W (hW : RdS W rb s m2 (wi + 1)) => listsEnd_any rb s m2 (wi + 1) W hW hs)
            cases hle : listsEnd m2 with
            | true =>
              rw [hle] at HLM
              have HE : Hid (M = .ok acc m2) := Lib.hid (by rw [← HM.out.2.2, ← hm2]; exact ls_break hsep (by rw [hm2]; exact hle))
              have HLV := Lib.hid (fun W (hW : RdS W rb s m2 (wi + 1)) => leave_any rb s m2 wi W hW (by omega))
              clear HM hm2 hle hsep hl hl2
              go_wp2_with fail
              refine HPA.out.mono ?_
              rintro e W0 ⟨rfl, hk, hr⟩
              have HP00 := Lib.hid (HPS.out.step hk hr)
              clear hk hr HPS
              go_wp2_with fail
              refine (HP2.out W0 HP00.out.rd).mono ?_
              rintro e W ⟨rfl, hk, hr⟩
              have HP1 := Lib.hid (HP00.out.step hk hr)
              clear hk hr HP00
              go_wp2_with fail
              refine (HNM.out W HP1.out.rd).mono ?_
              rintro e W6 ⟨rfl, hk, hr⟩
              have HP3 := Lib.hid (HP1.out.step hk hr)
              clear hk hr HP1
              go_wp2_with fail
              refine (HLM.out W6 HP3.out.rd).mono ?_
              rintro e W7 ⟨rfl, hb7⟩
              have HP4 := Lib.hid (HP3.out.step (kept_told hb7) (HP3.out.rd.told hb7))
              clear hb7 HP3
              go_wp2_with fail
              refine (HLV.out W7 HP4.out.rd).mono ?_
              rintro e W8 ⟨rfl, hk, hr⟩
              have HP5 := Lib.hid (HP4.out.step hk hr)
              clear hk hr HP4
              go_wp2_with fail
              go_ret
              rw [HE.out]
              exact ⟨HP5.out.kept, _, rfl, HP5.out.rd, HP5.out.row.sl (RLi.good (LsIn.good d)) (by omega)⟩
            | false =>
              rw [hle] at HLM
              have HLT := Lib.hid (fun W (hW : RdS W rb s m2 (wi + 1)) => HC.out rb s m2 W hW hs)
              cases hm : listL v m2 with
              | bad a er =>
                rw [hm] at HLT
                have HE : Hid (M = .bad a er) := Lib.hid (by rw [← HM.out.2.2]; exact ls_bad hsep (by rw [hm2]; exact hle) (by rw [hm2]; exact hm))
                clear HM hm2 hle hsep hl hl2 hm
                go_wp2_with fail
                refine HPA.out.mono ?_
                rintro e W0 ⟨rfl, hk, hr⟩
                have HP00 := Lib.hid (HPS.out.step hk hr)
                clear hk hr HPS
                go_wp2_with fail
                refine (HP2.out W0 HP00.out.rd).mono ?_
                rintro e W ⟨rfl, hk, hr⟩
                have HP1 := Lib.hid (HP00.out.step hk hr)
                clear hk hr HP00
                go_wp2_with fail
                refine (HNM.out W HP1.out.rd).mono ?_
                rintro e W6 ⟨rfl, hk, hr⟩
                have HP3 := Lib.hid (HP1.out.step hk hr)
                clear hk hr HP1
                go_wp2_with fail
                refine (HLM.out W6 HP3.out.rd).mono ?_
                rintro e W7 ⟨rfl, hb7⟩
                have HP4 := Lib.hid (HP3.out.step (kept_told hb7) (HP3.out.rd.told hb7))
                clear hb7 HP3
                go_wp2_with fail
                refine (HLT.out W7 HP4.out.rd).mono ?_
                rintro e W8 ⟨hk, rfl⟩
                simp only [sflt]
                go_wp2_with fail
                rw [HE.out]
                exact ⟨rfl, HP4.out.kept.trans hk, rfl⟩
              | ok x2 r2 =>
                rw [hm] at HLT
                have hl3 := hless _ _ _ hm
                have HN : Hid (r2.length < k ∧ (acc ++ [x2]).length + k = r.length + 2 ∧ listsN v k (acc ++ [x2]) r2 = M) := Lib.hid ⟨by have := HM.out.1; omega, by have := HM.out.2.1; simp; omega, by rw [← HM.out.2.2]; exact (ls_ok hsep (by rw [hm2]; exact hle) (by rw [hm2]; exact hm)).symm⟩
                clear HM hm2 hle hsep hl hl2 hm hl3
                obtain ⟨n, hn0⟩ : ∃ n : Nat, acc.length = n := ⟨_, rfl⟩
                rw [hn0] at HPS hnb
                rw [hn0]
                have HNN : Hid (acc.length = n) := Lib.hid hn0
                clear hn0
                go_wp2_with fail
                refine HPA.out.mono ?_
                rintro e W0 ⟨rfl, hk, hr⟩
                have HP00 := Lib.hid (HPS.out.step hk hr)
                clear hk hr HPS
                go_wp2_with fail
                refine (HP2.out W0 HP00.out.rd).mono ?_
                rintro e W ⟨rfl, hk, hr⟩
                have HP1 := Lib.hid (HP00.out.step hk hr)
                clear hk hr HP00
                go_wp2_with fail
                refine (HNM.out W HP1.out.rd).mono ?_
                rintro e W6 ⟨rfl, hk, hr⟩
                have HP3 := Lib.hid (HP1.out.step hk hr)
                clear hk hr HP1
                go_wp2_with fail
                refine (HLM.out W6 HP3.out.rd).mono ?_
                rintro e W7 ⟨rfl, hb7⟩
                have HP4 := Lib.hid (HP3.out.step (kept_told hb7) (HP3.out.rd.told hb7))
                clear hb7 HP3
                obtain ⟨vss, Sx, hRw⟩ := HP4.out.row
                have HRW := Lib.hid hRw
                clear hRw
                go_wp2_with (first | (go_at_call 24; refine (HLT.out W7 HP4.out.rd).mono ?_; rintro e w2 ⟨hk2, v2, rfl, hr2, hv2⟩; obtain ⟨B1, B2, m1, d1, m2, d2, rfl, hrep⟩ := list_open hv2; have HK2 := Lib.hid hk2; have HR2 := Lib.hid hr2; have HREP := Lib.hid hrep; have HOW := Lib.hid ((row_kept HRW.out.row hk2 (fun k e1 e2 => by have := (HRW.out.row.lt k e1).1; have := HP4.out.lt; omega)).alloc (.cells #[.slice B1 m1 d1, .slice B2 m2 d2] 33)); have HNEW := Lib.hid (new_cells w2 [.slice B1 m1 d1, .slice B2 m2 d2] 33); have HOWN := Lib.hid (HNN.out ▸ HOW.out); have HBS : Hid (w.heap.size ≤ (w2.alloc (.cells #[.slice B1 m1 d1, .slice B2 m2 d2] 33)).heap.size) := Lib.hid (by have := HP4.out.kept.size; have := hk2.size; simp; omega); clear hk2 hr2 hrep hv2) | (at_builtin; refine wpList_append_lies _ rfl _ _ 23 rfl w.heap.size 33 i0 (.agg #[.slice none 0 0, .slice none 0 0]) 2 48 Try.underlying23 HI.out HZ0.out HZ1.out HZ2.out rfl (by decide) _ _ _ rfl HOWN.out ⟨w2.heap.size, 0, none⟩ 1 1 [.slice B1 m1 d1, .slice B2 m2 d2] rfl rfl HNEW.out (by intro u hu; simp only [List.mem_cons, List.not_mem_nil, or_false] at hu; rcases hu with rfl | rfl <;> rfl) (by decide) (maxLen_ok (by omega)) (by omega) HBS.out (w2.heap.size + 1) (by simp) ?_; intro g cap w4 hown hgrow hat hlt; have HNX := Lib.hid (HP4.out.app HRW.out HNN.out HK2.out HR2.out HREP.out rfl hgrow hown hat); clear hown hgrow hat))
                have HPN : Hid (∃ cv', cv' = Value.slice (some ⟨g, 0, none⟩) (acc ++ [x2]).length cap ∧ Value.slice (some ⟨g, 0, none⟩) (n + 1) cap = cv' ∧ SSt rb s (wi + 1) d w r2 cv' (acc ++ [x2]) w4) := Lib.hid ⟨_, by rw [show (acc ++ [x2]).length = n + 1 from by have := HNN.out; simp; exact this], rfl, HNX.out⟩
                clear HNX
                go_roundg k
                case measure => omega
                case rel =>
                  obtain ⟨cv', hcv, hcw, hP⟩ := HPN.out
                  exact ⟨r2, acc ++ [x2], some ⟨g, 0, none⟩, cap, hcw.trans hcv, HN, Lib.hid (hcv ▸ hP)⟩
          | none =>
            rw [hx2] at HP2
            have HE : Hid (M = .ok acc m) := Lib.hid (by rw [← HM.out.2.2]; exact ls_end hx hx2)
            have HLV := Lib.hid (fun W (hW : RdS W rb s m (wi + 1)) => leave_any rb s m wi W hW (by omega))
            clear hp1 hx hx2 HM
            go_wp2_with fail
            refine HPA.out.mono ?_
            rintro e W ⟨rfl, hk, hr⟩
            have HP1 := Lib.hid (HPS.out.step hk hr)
            clear hk hr HPS
            go_wp2_with fail
            refine (HP2.out W HP1.out.rd).mono ?_
            rintro e W6 ⟨rfl, hk, hr⟩
            have HP3 := Lib.hid (HP1.out.step hk hr)
            clear hk hr HP1
            go_wp2_with fail
            refine (HLV.out W6 HP3.out.rd).mono ?_
            rintro e W7 ⟨rfl, hk, hr⟩
            have HP4 := Lib.hid (HP3.out.step hk hr)
            clear hk hr HP3
            go_wp2_with fail
            go_ret
            rw [HE.out]
            exact ⟨HP4.out.kept, _, rfl, HP4.out.rd, HP4.out.row.sl (RLi.good (LsIn.good d)) (by omega)⟩

end Go.Proofs.Ytgajbehlggikdaa.Sw

/- DERIVED. The walks over alone and choice. -/
namespace Go.Proofs.Ytgajbehlggikdaa.Sw
open Go.RowKit
open PathM WdM SyM
open Go.Proofs.Ytgajbehlggikdaa.Wd
set_option linter.unusedVariables false

theorem al4 (w : World) (o1 o2 o3 o4 : Obj) : ((((w.alloc o1).alloc o2).alloc o3).alloc o4).heap[w.heap.size + 1]? = some o2 ∧ ((((w.alloc o1).alloc o2).alloc o3).alloc o4).heap[w.heap.size + 1 + 1]? = some o3 ∧ ((((w.alloc o1).alloc o2).alloc o3).alloc o4).heap[w.heap.size + 1 + 1 + 1]? = some o4 ∧ Below w.heap.size w ((((w.alloc o1).alloc o2).alloc o3).alloc o4) := by
  have h2 := heap_alloc_new (w.alloc o1) o2
  have h3 := heap_alloc_new ((w.alloc o1).alloc o2) o3
  have h4 := heap_alloc_new (((w.alloc o1).alloc o2).alloc o3) o4
  simp only [World.size_alloc] at h2 h3 h4
  refine ⟨?_, ?_, h4, ?_⟩
  · exact (Below.heap_alloc _ _ _ (by simp only [World.size_alloc]; omega)).trans ((Below.heap_alloc _ _ _ (by simp only [World.size_alloc]; omega)).trans h2)
  · exact (Below.heap_alloc _ _ _ (by simp only [World.size_alloc]; omega)).trans h3
  · exact ((((Below.refl _ _).alloc (Nat.le_refl _) _).alloc (by simp only [World.size_alloc]; omega) _).alloc (by simp only [World.size_alloc]; omega) _).alloc (by simp only [World.size_alloc]; omega) _
theorem alone_any (d z : Nat) (v : Value) (c : CmdT) (w : World) (h : VAgg (RCmd (LsIn d)) w (Nw z w) v c) (hz : z ≤ w.heap.size) :
    Calls Try.prog 62 #[v] w fun e w' => Below w.heap.size w w' ∧ ∃ u, e = .returned u ∧ LsIn (d + 1) w' (Nw z w') u (alone c) := by
  obtain ⟨k, n, A1, A2, A3, A4, A5, A6, A7, n1, n2, n3, n4, n5, n6, n7, c1, c2, c3, c4, c5, c6, c7, rfl, hrep⟩ := cmd_open h
  obtain ⟨vs, hvs⟩ : ∃ vs : List Value, [Value.int .i64 k, .string n, .slice A1 n1 c1, .slice A2 n2 c2, .slice A3 n3 c3, .slice A4 n4 c4, .slice A5 n5 c5, .slice A6 n6 c6, .slice A7 n7 c7] = vs := ⟨_, rfl⟩
  have hfin : ∀ W0 : World, Below w.heap.size w W0 → ∀ (b1 b2 b3 : Nat), W0.heap[b1]? = some (.cells vs.toArray 42 (0, 0)) → W0.heap[b2]? = some (.cells #[.bool false, .slice (some ⟨b1, 0, none⟩) 1 1] 36 (0, 0)) → W0.heap[b3]? = some (.cells #[.slice (some ⟨b2, 0, none⟩) 1 1, .slice none 0 0] 33 (0, 0)) →
      z ≤ b1 → z ≤ b2 → z ≤ b3 → LsIn (d + 1) W0 (Nw z W0) (.slice (some ⟨b3, 0, none⟩) 1 1) (alone c) := by
    intro W0 hb b1 b2 b3 h1 h2 h3 g1 g2 g3
    have hr : RCmd (LsIn d) W0 (Nw z W0) vs c := RCmd.good (LsIn.good d) _ _ _ _ _ _ (fun k hk hS => ⟨⟨hS.1, Nat.lt_of_lt_of_le hS.2 hb.size⟩, hb.block k hk⟩) (hvs ▸ hrep)
    refine sl_one (vs := [.slice (some ⟨b2, 0, none⟩) 1 1, .slice none 0 0]) h3 ⟨g3, fin_at h3⟩ rfl ⟨_, _, rfl, ?_, Sl.nil _ _ _ _ _ _⟩
    refine sl_one (vs := [.bool false, .slice (some ⟨b1, 0, none⟩) 1 1]) h2 ⟨g2, fin_at h2⟩ rfl ⟨_, rfl, ?_⟩
    exact sl_one h1 ⟨g1, fin_at h1⟩ (by rw [← hvs]; rfl) hr
  have HF := Lib.hid hfin
  have hva : vs.toArray = #[Value.int .i64 k, .string n, .slice A1 n1 c1, .slice A2 n2 c2, .slice A3 n3 c3, .slice A4 n4 c4, .slice A5 n5 c5, .slice A6 n6 c6, .slice A7 n7 c7] := by rw [← hvs]
  rw [hva] at HF
  clear hfin hva hvs hrep h
  go_enter Try.func62, Try.ntmps62
  go_wp2_with fail
  go_ret
  obtain ⟨h1, h2, h3, hb⟩ := al4 w (.cells #[.int .i64 k, .string n, .slice A1 n1 c1, .slice A2 n2 c2, .slice A3 n3 c3, .slice A4 n4 c4, .slice A5 n5 c5, .slice A6 n6 c6, .slice A7 n7 c7] 42) (.cells #[.int .i64 k, .string n, .slice A1 n1 c1, .slice A2 n2 c2, .slice A3 n3 c3, .slice A4 n4 c4, .slice A5 n5 c5, .slice A6 n6 c6, .slice A7 n7 c7] 42) (.cells #[.bool false, .slice (some ⟨w.heap.size + 1, 0, none⟩) 1 1] 36) (.cells #[.slice (some ⟨w.heap.size + 1 + 1, 0, none⟩) 1 1, .slice none 0 0] 33)
  exact ⟨hb, _, rfl, HF.out _ hb _ _ _ h1 h2 h3 (by omega) (by omega) (by omega)⟩
/-- What an if has behind it is read, as the model says. -/
def ChOk (choice : Bs → Rs CmdT) (d wi : Nat) : Prop := ∀ (rb : Nat) (s : ByteArray) (l : Bs) (w : World), RdS w rb s l wi → s.size ≤ 8192 →
  Calls Try.prog 51 #[.pointer (some ⟨rb, 0, none⟩)] w (Reads rb s wi (choice l) (VAgg (RCmd (LsIn d))) w)
theorem ch1 {lists : Bs → Rs (List LiT)} {elif : Bs → Rs CmdT} {l : Bs} {a : Nat} {e : Int} (h : listsTo lists thenK l = .bad a e) : choiceL lists elif l = .bad a e := by unfold choiceL; rw [h]
theorem ch2 {lists : Bs → Rs (List LiT)} {elif : Bs → Rs CmdT} {l r : Bs} {c : List LiT} {a : Nat} {e : Int} (h : listsTo lists thenK l = .ok c r) (h2 : lists r = .bad a e) : choiceL lists elif l = .bad a e := by unfold choiceL; rw [h]; simp only; rw [h2]
theorem ch3 {lists : Bs → Rs (List LiT)} {elif : Bs → Rs CmdT} {l r r2 r3 : Bs} {c b : List LiT} {a : Nat} {e : Int} (h : listsTo lists thenK l = .ok c r) (h2 : lists r = .ok b r2) (h3 : passL elseK r2 = some r3) (h4 : listsTo lists fiK r3 = .bad a e) : choiceL lists elif l = .bad a e := by unfold choiceL; rw [h]; simp only; rw [h2]; simp only; rw [h3]; simp only; rw [h4]
theorem ch4 {lists : Bs → Rs (List LiT)} {elif : Bs → Rs CmdT} {l r r2 r3 r4 : Bs} {c b o : List LiT} (h : listsTo lists thenK l = .ok c r) (h2 : lists r = .ok b r2) (h3 : passL elseK r2 = some r3) (h4 : listsTo lists fiK r3 = .ok o r4) : choiceL lists elif l = .ok (.mk 4 [] [] [] c b o [] []) r4 := by unfold choiceL; rw [h]; simp only; rw [h2]; simp only; rw [h3]; simp only; rw [h4]
theorem ch5 {lists : Bs → Rs (List LiT)} {elif : Bs → Rs CmdT} {l r r2 r3 : Bs} {c b : List LiT} {a : Nat} {e : Int} (h : listsTo lists thenK l = .ok c r) (h2 : lists r = .ok b r2) (h3 : passL elseK r2 = none) (h4 : passL elifK r2 = some r3) (h5 : elif r3 = .bad a e) : choiceL lists elif l = .bad a e := by unfold choiceL; rw [h]; simp only; rw [h2]; simp only; rw [h3]; simp only; rw [h4]; simp only; rw [h5]
theorem ch6 {lists : Bs → Rs (List LiT)} {elif : Bs → Rs CmdT} {l r r2 r3 r4 : Bs} {c b : List LiT} {o : CmdT} (h : listsTo lists thenK l = .ok c r) (h2 : lists r = .ok b r2) (h3 : passL elseK r2 = none) (h4 : passL elifK r2 = some r3) (h5 : elif r3 = .ok o r4) : choiceL lists elif l = .ok (.mk 4 [] [] [] c b (alone o) [] []) r4 := by unfold choiceL; rw [h]; simp only; rw [h2]; simp only; rw [h3]; simp only; rw [h4]; simp only; rw [h5]
theorem ch7 {lists : Bs → Rs (List LiT)} {elif : Bs → Rs CmdT} {l r r2 : Bs} {c b : List LiT} {a : Nat} {e : Int} (h : listsTo lists thenK l = .ok c r) (h2 : lists r = .ok b r2) (h3 : passL elseK r2 = none) (h4 : passL elifK r2 = none) (h5 : needL fiK r2 = .bad a e) : choiceL lists elif l = .bad a e := by unfold choiceL; rw [h]; simp only; rw [h2]; simp only; rw [h3]; simp only; rw [h4]; simp only; rw [h5]
theorem ch8 {lists : Bs → Rs (List LiT)} {elif : Bs → Rs CmdT} {l r r2 r4 : Bs} {c b : List LiT} (h : listsTo lists thenK l = .ok c r) (h2 : lists r = .ok b r2) (h3 : passL elseK r2 = none) (h4 : passL elifK r2 = none) (h5 : needL fiK r2 = .ok () r4) : choiceL lists elif l = .ok (.mk 4 [] [] [] c b [] [] []) r4 := by unfold choiceL; rw [h]; simp only; rw [h2]; simp only; rw [h3]; simp only; rw [h4]; simp only; rw [h5]

end Go.Proofs.Ytgajbehlggikdaa.Sw

/- DERIVED. A command being read whose box is made behind a call; the walks over function and command. -/
namespace Go.Proofs.Ytgajbehlggikdaa.Sw
open Go.RowKit
open PathM WdM SyM
open Go.Proofs.Ytgajbehlggikdaa.Wd
set_option linter.unusedVariables false

/-- Blocks that are new, but for the box. -/
def Nx (z cb : Nat) (W : World) (k : Nat) : Prop := z ≤ k ∧ k < W.heap.size ∧ k ≠ cb
structure CSg (rb : Nat) (s : ByteArray) (wi : Nat) (w : World) (cb : Nat) (l : Bs) (vals : List Value) (W : World) : Prop where
  res : BoxC w.heap.size (cmd0 (.int .i64 0) (.string ⟨#[]⟩)) W
  box : BoxC cb vals W
  rd : RdS W rb s l wi
  kept : Kept (· = rb) w W
  lt : rb < w.heap.size
  clt : w.heap.size < cb
section
variable {rb cb : Nat} {s : ByteArray} {wi wj : Nat} {w : World} {l r : Bs} {vals : List Value} {W W' : World}
theorem CSg.step (h : CSg rb s wi w cb l vals W) (hk : Kept (· = rb) W W') (hr : RdS W' rb s r wj) : CSg rb s wj w cb r vals W' :=
  ⟨h.res.kept hk (by have := h.lt; omega), h.box.kept hk (by have := h.lt; have := h.clt; omega), hr, h.kept.trans hk, h.lt, h.clt⟩
theorem CSg.set (h : CSg rb s wi w cb l vals W) (j : Nat) (u : Value) : CSg rb s wi w cb l (vals.set j u) (W.setCell ⟨cb, j, none⟩ u) := by
  have hk := Kept.setCell (S := (· = cb)) (w := W) ⟨cb, j, none⟩ u rfl
  have h1 := h.lt
  have h2 := h.clt
  exact ⟨h.res.kept hk (by omega), h.box.set j u, h.rd.kept hk (by omega), h.kept.then hk (fun k h1 h2 => by omega), h.lt, h.clt⟩
theorem nx_kept {α : Type} {V : World → (Nat → Prop) → Value → α → Prop} (hV : GoodV V) {z : Nat} {Q : Nat → Prop} {v : Value} {x : α} (hk : Kept Q W W') (hq : ∀ k, Q k → k < z ∨ k = cb) (h : V W (Nx z cb W) v x) : V W' (Nx z cb W') v x := by
  refine hV W W' _ _ _ _ (fun k h1 h2 => ⟨⟨h2.1, Nat.lt_of_lt_of_le h2.2.1 hk.size, h2.2.2⟩, hk.block k h1 (fun e => ?_)⟩) h
  rcases hq k e with h3 | h3
  · have := h2.1; omega
  · exact h2.2.2 h3
theorem CSg.setK (h : CSg rb s wi w cb l vals W) (j : Nat) (u : Value) {α : Type} {V : World → (Nat → Prop) → Value → α → Prop} (hV : GoodV V) {v : Value} {x : α} (hv : V W (Nx (w.heap.size + 1) cb W) v x) :
    V (W.setCell ⟨cb, j, none⟩ u) (Nx (w.heap.size + 1) cb (W.setCell ⟨cb, j, none⟩ u)) v x :=
  nx_kept hV (Kept.setCell (S := (· = cb)) (w := W) ⟨cb, j, none⟩ u rfl) (fun k e => .inr e) hv
theorem CSg.stepK (h : CSg rb s wi w cb l vals W) (hk : Kept (· = rb) W W') {α : Type} {V : World → (Nat → Prop) → Value → α → Prop} (hV : GoodV V) {v : Value} {x : α} (hv : V W (Nx (w.heap.size + 1) cb W) v x) :
    V W' (Nx (w.heap.size + 1) cb W') v x := nx_kept hV hk (fun k e => .inl (by have := h.lt; omega)) hv
theorem CSg.new (h : CSg rb s wi w cb l vals W) {α : Type} {V : World → (Nat → Prop) → Value → α → Prop} (hV : GoodV V) {v : Value} {x : α} (hv : V W' (Nw W.heap.size W') v x) : V W' (Nx (w.heap.size + 1) cb W') v x := by
  have h1 := h.box.lt
  have h2 := h.clt
  exact hV W' W' _ _ _ _ (fun k _ hk => ⟨⟨by have := hk.1; omega, hk.2, by have := hk.1; omega⟩, rfl⟩) hv
theorem CSg.start (h1 : BoxC w.heap.size (cmd0 (.int .i64 0) (.string ⟨#[]⟩)) W) (h2 : RdS W rb s l wi) (h3 : Kept (· = rb) w W) (h4 : rb < w.heap.size) (vals : List Value) :
    CSg rb s wi w W.heap.size l vals (W.alloc (.cells vals.toArray 42)) :=
  ⟨(Below.heap_alloc _ _ _ (fin_at h1)).trans h1, heap_alloc_new W _, h2.told ((Below.refl _ _).alloc (Nat.le_refl _) _), h3.trans (kept_alloc _ _), h4, fin_at h1⟩
end
theorem CSg.done {rb cb : Nat} {s : ByteArray} {wi : Nat} {w : World} {r : Bs} {y0 y1 y2 y3 y4 y5 y6 y7 y8 : Value} {W : World} {L : RepV (List LiT)} {c : CmdT} (h : CSg rb s wi w cb r [y0, y1, y2, y3, y4, y5, y6, y7, y8] W) (hL : GoodV L) (hc : RCmd L W (Nx (w.heap.size + 1) cb W) [y0, y1, y2, y3, y4, y5, y6, y7, y8] c) :
    Reads rb s wi (.ok c r) (VAgg (RCmd L)) w (.returned (.agg #[y0, y1, y2, y3, y4, y5, y6, y7, y8])) (((((((((W.setCell ⟨w.heap.size, 0, none⟩ y0).setCell ⟨w.heap.size, 1, none⟩ y1).setCell ⟨w.heap.size, 2, none⟩ y2).setCell ⟨w.heap.size, 3, none⟩ y3).setCell ⟨w.heap.size, 4, none⟩ y4).setCell ⟨w.heap.size, 5, none⟩ y5).setCell ⟨w.heap.size, 6, none⟩ y6).setCell ⟨w.heap.size, 7, none⟩ y7).setCell ⟨w.heap.size, 8, none⟩ y8) := by
  have hk := nine_kept (S := (· = w.heap.size)) W rfl y0 y1 y2 y3 y4 y5 y6 y7 y8
  refine ⟨h.kept.then hk (fun k h1 h2 => by omega), _, rfl, h.rd.kept hk (by have := h.lt; omega), [y0, y1, y2, y3, y4, y5, y6, y7, y8], rfl, ?_⟩
  refine RCmd.good hL _ _ _ _ _ _ (fun k h1 h2 => ⟨⟨by have := h2.1; omega, Nat.lt_of_lt_of_le h2.2.1 hk.size⟩, hk.block k h1 (fun e => by have := h2.1; omega)⟩) hc
/-- What compound hands back. -/
def VOpt (L : RepV (List LiT)) : World → (Nat → Prop) → Value → Option CmdT → Prop := fun w S v x => match x with
  | some c => ∃ u, v = .tuple #[u, .bool true] ∧ VAgg (RCmd L) w S u c
  | none => v = .tuple #[.agg #[.int .i64 0, .string ⟨#[]⟩, .slice none 0 0, .slice none 0 0, .slice none 0 0, .slice none 0 0, .slice none 0 0, .slice none 0 0, .slice none 0 0], .bool false]
/-- Commands that a sign or a key word begins are read, as the model says. -/
def CpOk (compound : Bs → Rs (Option CmdT)) (d wi : Nat) : Prop := ∀ (rb : Nat) (s : ByteArray) (l : Bs) (w : World), RdS w rb s l wi → s.size ≤ 8192 →
  Calls Try.prog 40 #[.pointer (some ⟨rb, 0, none⟩)] w (Reads rb s wi (compound l) (VOpt (LsIn d)) w)
theorem fn1 {body : Bs → Rs (Option CmdT)} {l : Bs} {a : Nat} {e : Int} (h : nameL l = .bad a e) : functionL body l = .bad a e := by unfold functionL; rw [h]
theorem fn2 {body : Bs → Rs (Option CmdT)} {l r n : Bs} {a : Nat} {e : Int} (h : nameL l = .ok n r) (h2 : needL [40] r = .bad a e) : functionL body l = .bad a e := by unfold functionL; rw [h]; simp only; rw [h2]
theorem fn3 {body : Bs → Rs (Option CmdT)} {l r r2 n : Bs} {a : Nat} {e : Int} (h : nameL l = .ok n r) (h2 : needL [40] r = .ok () r2) (h3 : needL [41] r2 = .bad a e) : functionL body l = .bad a e := by unfold functionL; rw [h]; simp only; rw [h2]; simp only; rw [h3]
theorem fn4 {body : Bs → Rs (Option CmdT)} {l r r2 r3 n : Bs} {a : Nat} {e : Int} (h : nameL l = .ok n r) (h2 : needL [40] r = .ok () r2) (h3 : needL [41] r2 = .ok () r3) (h4 : body (newlinesL r3) = .bad a e) : functionL body l = .bad a e := by unfold functionL; rw [h]; simp only; rw [h2]; simp only; rw [h3]; simp only; rw [h4]
theorem fn5 {body : Bs → Rs (Option CmdT)} {l r r2 r3 r4 n : Bs} (h : nameL l = .ok n r) (h2 : needL [40] r = .ok () r2) (h3 : needL [41] r2 = .ok () r3) (h4 : body (newlinesL r3) = .ok none r4) : functionL body l = refuse r4 := by unfold functionL; rw [h]; simp only; rw [h2]; simp only; rw [h3]; simp only; rw [h4]
theorem fn6 {body : Bs → Rs (Option CmdT)} {l r r2 r3 r4 n : Bs} {c : CmdT} (h : nameL l = .ok n r) (h2 : needL [40] r = .ok () r2) (h3 : needL [41] r2 = .ok () r3) (h4 : body (newlinesL r3) = .ok (some c) r4) : functionL body l = .ok (.mk 9 n [] [] [] (alone c) [] [] []) r4 := by unfold functionL; rw [h]; simp only; rw [h2]; simp only; rw [h3]; simp only; rw [h4]

end Go.Proofs.Ytgajbehlggikdaa.Sw

/- DERIVED. One element more in a row of a command's box; words in rows. -/
namespace Go.Proofs.Ytgajbehlggikdaa.Sw
open Go.RowKit
open PathM WdM SyM
open Go.Proofs.Ytgajbehlggikdaa.Wd
set_option linter.unusedVariables false

theorem wordInfo : (Try.prog.info? 54).map (fun i => (i.zero, i.size, i.bytes)) = some (some (.slice none 0 0), 1, 24) := by kernel_rfl
theorem CSg.app {α : Type} {size : Nat} {R : Rep α} {T : TypeId} {base : Nat} {X : Nat → Prop} (hG : Good R) {rb cb : Nat} {s : ByteArray} {wi : Nat} {w : World} {l r : Bs} {vals : List Value} {v : Value} {acc : List α} {W w2 w3 : World} {vss : List (List Value)} {S : Nat → Prop} {o : Obj} {vs : List Value} {x : α} {g cap n : Nat} (j : Nat)
    (h : CSg rb s wi w cb l vals W) (hR : Rw size R T base X W v acc vss S) (hn : acc.length = n) (hX : ∀ k, X k → k < W.heap.size) (hb1 : w.heap.size < base) (hbW : base ≤ W.heap.size) (hvcb : v.ownBlock ≠ some cb) (hcb : cb < base ∨ X cb)
    (hk : Kept (· = rb) W w2) (hr : RdS w2 rb s r wi) (hc : R w2 (Nw W.heap.size w2) vs x) (hvs : vs.length = size) (hg : (w2.alloc o).grownBy w3 v.ownBlock) (h3 : w3.ownsRow base T size (.slice (some ⟨g, 0, none⟩) (n + 1) cap) (n + 1) (vss.flatten ++ vs)) (hat : v.ownBlock = some g ∨ g = w2.heap.size + 1) :
    CSg rb s wi w cb r (vals.set j (.slice (some ⟨g, 0, none⟩) (n + 1) cap)) (w3.setCell ⟨cb, j, none⟩ (.slice (some ⟨g, 0, none⟩) (n + 1) cap)) ∧ Row size R T base X (w3.setCell ⟨cb, j, none⟩ (.slice (some ⟨g, 0, none⟩) (n + 1) cap)) (.slice (some ⟨g, 0, none⟩) (n + 1) cap) (acc ++ [x]) ∧
      g ≠ cb ∧ Kept (fun k => k = rb ∨ k = cb ∨ v.ownBlock = some k) W (w3.setCell ⟨cb, j, none⟩ (.slice (some ⟨g, 0, none⟩) (n + 1) cap)) := by
  have h1 := h.lt
  have h2 := h.clt
  have hz := h.box.lt
  have hz2 := hk.size
  have hlt := hR.row.lt
  have hrow := Rw.app hG hR hn hX hk (by omega) hbW hc hvs hg h3 hat
  have hk3 : Kept (fun k => k = rb ∨ v.ownBlock = some k) W w3 := ((hk.mono fun k e => .inl e).trans (kept_alloc w2 o)).trans (Kept.grown hg (fun k e => .inr e))
  have hk4 : Kept (fun k => v.ownBlock = some k) w2 w3 := (kept_alloc w2 o).trans (Kept.grown hg (fun k e => e))
  have hks := Kept.setCell (S := (· = cb)) (w := w3) ⟨cb, j, none⟩ (.slice (some ⟨g, 0, none⟩) (n + 1) cap) rfl
  have hgcb : g ≠ cb := by
    rcases hat with h4 | h4
    · intro e; exact hvcb (by rw [h4, e])
    · omega
  refine ⟨⟨?_, ?_, (hr.kept hk4 (fun e => by have := (hlt _ e).1; omega)).kept hks (by omega), ?_, h1, h2⟩, hrow.kept hG hks (fun k e => ?_) (fun k e1 e2 => hgcb (by injection e1 with e1; exact e1.trans e2)), hgcb, (hk3.mono fun k e => ?_).trans (hks.mono fun k e => .inr (.inl e))⟩
  · exact (h.res.kept hk3 (fun e => by
      rcases e with e | e
      · omega
      · have := (hlt _ e).1; omega)).kept hks (by omega)
  · exact (h.box.kept hk3 (fun e => by
      rcases e with e | e
      · omega
      · exact hvcb e)).set j _
  · refine (h.kept.then hk3 (fun k h3 h4 => ?_)).then hks (fun k h3 h4 => by omega)
    rcases h4 with h4 | h4
    · exact h4
    · have := (hlt _ h4).1; omega
  · have e : k = cb := e
    subst e
    rcases hcb with h5 | h5
    · exact .inl h5
    · exact .inr (.inl h5)
  · rcases e with e | e
    · exact .inl e
    · exact .inr (.inr e)
theorem CSg.drew {rb cb : Nat} {s : ByteArray} {wi : Nat} {w : World} {l : Bs} {vals : List Value} {W : World} (h : CSg rb s wi w cb l vals W) : CSg rb s wi w cb l vals W.drew := h.step (Kept.drewN 1) (h.rd.drewN 1)
theorem Row.drew {α : Type} {size : Nat} {R : Rep α} {T : TypeId} {base : Nat} {X : Nat → Prop} {W : World} {v : Value} {l : List α} (hG : Good R) (h : Row size R T base X W v l) : Row size R T base X W.drew v l := h.kept (Q := fun _ => False) hG (Kept.drewN 1) (fun _ e => e.elim) (fun _ _ e => e)
theorem sl_nx {α : Type} {size : Nat} {R : Rep α} (hG : Good R) {z b cb : Nat} {W : World} {v : Value} {l : List α} (hz : z ≤ b) (hb : cb < b) (h : Sl size R W (Nw b W) v l) : Sl size R W (Nx z cb W) v l :=
  Sl.good size R hG _ _ _ _ _ _ (fun k _ hS => ⟨⟨by have := hS.1; omega, hS.2, by have := hS.1; omega⟩, rfl⟩) h
/-- A word is read, as the model says. -/
def WdOk (word : Bs → Rs (List PT)) (wi : Nat) : Prop := ∀ (rb : Nat) (s : ByteArray) (l : Bs) (w : World), RdS w rb s l wi → s.size ≤ 8192 →
  Calls Try.prog 65 #[.pointer (some ⟨rb, 0, none⟩)] w (Reads rb s wi (word l) (PIn 17) w)

end Go.Proofs.Ytgajbehlggikdaa.Sw
