/- DERIVED. A command of words being read: three rows in its box. -/
import Derived.Test.YtgajbehlggikdaaSwGe
import Derived.Deep.AppendLies
import Derived.Deep.RegionHeld3
import Derived.Deep.RegionLaw
import Derived.Deep.LoopGhost
import Derived.Deep.Cut
import Derived.Deep.CutRange
import Derived.Test.YtgajbehlggikdaaSwGf
import Derived.Test.YtgajbehlggikdaaSwGh
import Derived.Test.YtgajbehlggikdaaSyGc
namespace Go.Proofs.Ytgajbehlggikdaa.Sw
open Go.RowKit
open PathM WdM SyM
open Go.Proofs.Ytgajbehlggikdaa.Wd
set_option linter.unusedVariables false

/-- A row, where another one has grown. -/
theorem Row.grown {α : Type} {size : Nat} {R : Rep α} {T : TypeId} {base : Nat} {X X' Q : Nat → Prop} {W W' : World} {v : Value} {l : List α} (hG : Good R) (h : Row size R T base X W v l) (hk : Kept Q W W') (hq : ∀ k, Q k → k < base ∨ X k) (ho : ∀ k, v.ownBlock = some k → ¬ Q k) (hX : ∀ k, X' k → X k ∨ W.heap.size ≤ k) : Row size R T base X' W' v l := by
  have h1 : Row size R T base (fun k => X k ∨ X' k) W v l := h.reX (fun k hk2 e => by
    rcases e with e | e
    · exact e
    · rcases hX k e with e | e
      · exact e
      · omega)
  have h2 := h1.kept hG hk (fun k e => by
    rcases hq k e with e | e
    · exact .inl e
    · exact .inr (.inl (.inl e))) ho
  exact h2.reX (fun k _ e => .inr e)
/-- A command of words, so far. -/
structure MSt (rb : Nat) (s : ByteArray) (wi : Nat) (w : World) (cb : Nat) (l : Bs) (av wv rv : Value) (al : List AsT) (ws : List (List PT)) (rs : List RdT) (W : World) : Prop where
  st : CSg rb s wi w cb l [.int .i64 1, .string ⟨#[]⟩, av, wv, .slice none 0 0, .slice none 0 0, .slice none 0 0, .slice none 0 0, rv] W
  arow : Row 2 RAs 56 (cb + 1) (fun k => wv.ownBlock = some k ∨ rv.ownBlock = some k) W av al
  wrow : Row 1 RWord 54 (cb + 1) (fun k => av.ownBlock = some k ∨ rv.ownBlock = some k) W wv ws
  rrow : Row 3 RRd 59 (cb + 1) (fun k => av.ownBlock = some k ∨ wv.ownBlock = some k) W rv rs
  aw : ∀ k, av.ownBlock = some k → wv.ownBlock ≠ some k
  ar : ∀ k, av.ownBlock = some k → rv.ownBlock ≠ some k
  wr : ∀ k, wv.ownBlock = some k → rv.ownBlock ≠ some k
  rnil : rs = [] → rv = .slice none 0 0
section
variable {rb cb : Nat} {s : ByteArray} {wi : Nat} {w : World} {l r : Bs} {av wv rv : Value} {al : List AsT} {ws : List (List PT)} {rs : List RdT} {W W' : World}
theorem MSt.base (h : MSt rb s wi w cb l av wv rv al ws rs W) : rb < cb + 1 ∧ cb + 1 ≤ W.heap.size := ⟨by have := h.st.lt; have := h.st.clt; omega, h.st.box.lt⟩
theorem MSt.step (h : MSt rb s wi w cb l av wv rv al ws rs W) (hk : Kept (· = rb) W W') (hr : RdS W' rb s r wi) : MSt rb s wi w cb r av wv rv al ws rs W' := by
  have hb := h.base.1
  exact ⟨h.st.step hk hr, h.arow.below RAs.good hk (fun k e => by omega), h.wrow.below RWord.good hk (fun k e => by omega), h.rrow.below RRd.good hk (fun k e => by omega), h.aw, h.ar, h.wr, h.rnil⟩
theorem MSt.drew (h : MSt rb s wi w cb l av wv rv al ws rs W) : MSt rb s wi w cb l av wv rv al ws rs W.drew := h.step (Kept.drewN 1) (h.st.rd.drewN 1)
end
section
variable {rb cb : Nat} {s : ByteArray} {wi : Nat} {w : World} {l r : Bs} {av wv rv : Value} {al : List AsT} {ws : List (List PT)} {rs : List RdT} {W w2 w3 : World} {vss : List (List Value)} {S : Nat → Prop} {o : Obj} {vs : List Value} {g cap n : Nat}
/-- .. behind one word more. -/
theorem MSt.word {x : List PT} (h : MSt rb s wi w cb l av wv rv al ws rs W) (hR : Rw 1 RWord 54 (cb + 1) (fun k => av.ownBlock = some k ∨ rv.ownBlock = some k) W wv ws vss S) (hn : ws.length = n)
    (hk : Kept (· = rb) W w2) (hr : RdS w2 rb s r wi) (hc : RWord w2 (Nw W.heap.size w2) vs x) (hvs : vs.length = 1) (hg : (w2.alloc o).grownBy w3 wv.ownBlock) (h3 : w3.ownsRow (cb + 1) 54 1 (.slice (some ⟨g, 0, none⟩) (n + 1) cap) (n + 1) (vss.flatten ++ vs)) (hat : wv.ownBlock = some g ∨ g = w2.heap.size + 1) :
    MSt rb s wi w cb r av (.slice (some ⟨g, 0, none⟩) (n + 1) cap) rv al (ws ++ [x]) rs (w3.setCell ⟨cb, 3, none⟩ (.slice (some ⟨g, 0, none⟩) (n + 1) cap)) := by
  have hb := h.base
  have hz := hk.size
  obtain ⟨p1, p2, p3, p4⟩ := CSg.app RWord.good 3 h.st hR hn (fun k e => e.elim (fun e => (h.arow.lt k e).2) (fun e => (h.rrow.lt k e).2)) (by have := h.st.clt; omega) hb.2 (fun e => by have := (hR.row.lt cb e).1; omega) (.inl (Nat.lt_succ_self _)) hk hr hc hvs hg h3 hat
  have hlt := hR.row.lt
  have hqa : ∀ {X : Nat → Prop}, (∀ k, wv.ownBlock = some k → X k) → ∀ k, (k = rb ∨ k = cb ∨ wv.ownBlock = some k) → k < cb + 1 ∨ X k := fun hX k e => by
    rcases e with e | e | e
    · exact .inl (by omega)
    · exact .inl (by omega)
    · exact .inr (hX k e)
  refine ⟨p1, h.arow.grown RAs.good p4 (hqa (fun k e => .inl e)) (fun k e1 e2 => ?_) (fun k e => ?_), p2, h.rrow.grown RRd.good p4 (hqa (fun k e => .inr e)) (fun k e1 e2 => ?_) (fun k e => ?_), fun k e1 e2 => ?_, h.ar, fun k e1 e2 => ?_, h.rnil⟩
  · have := (h.arow.lt k e1).1
    rcases e2 with e | e | e
    · omega
    · omega
    · exact h.aw k e1 e
  · rcases e with e | e
    · injection e with e
      have e : g = k := e
      rcases hat with h4 | h4
      · exact .inl (.inl (by rw [h4, e]))
      · exact .inr (by omega)
    · exact .inl (.inr e)
  · have := (h.rrow.lt k e1).1
    rcases e2 with e | e | e
    · omega
    · omega
    · exact h.wr k e e1
  · rcases e with e | e
    · exact .inl (.inl e)
    · injection e with e
      have e : g = k := e
      rcases hat with h4 | h4
      · exact .inl (.inr (by rw [h4, e]))
      · exact .inr (by omega)
  · injection e2 with e2
    have e2 : g = k := e2
    rcases hat with h4 | h4
    · exact h.aw k e1 (by rw [h4, e2])
    · have := (h.arow.lt k e1).2; omega
  · injection e1 with e1
    have e1 : g = k := e1
    rcases hat with h4 | h4
    · exact h.wr k (by rw [h4, e1]) e2
    · have := (h.rrow.lt k e2).2; omega
/-- .. behind one assignment more. -/
theorem MSt.asg {x : AsT} (h : MSt rb s wi w cb l av wv rv al ws rs W) (hR : Rw 2 RAs 56 (cb + 1) (fun k => wv.ownBlock = some k ∨ rv.ownBlock = some k) W av al vss S) (hn : al.length = n)
    (hk : Kept (· = rb) W w2) (hr : RdS w2 rb s r wi) (hc : RAs w2 (Nw W.heap.size w2) vs x) (hvs : vs.length = 2) (hg : (w2.alloc o).grownBy w3 av.ownBlock) (h3 : w3.ownsRow (cb + 1) 56 2 (.slice (some ⟨g, 0, none⟩) (n + 1) cap) (n + 1) (vss.flatten ++ vs)) (hat : av.ownBlock = some g ∨ g = w2.heap.size + 1) :
    MSt rb s wi w cb r (.slice (some ⟨g, 0, none⟩) (n + 1) cap) wv rv (al ++ [x]) ws rs (w3.setCell ⟨cb, 2, none⟩ (.slice (some ⟨g, 0, none⟩) (n + 1) cap)) := by
  have hb := h.base
  have hz := hk.size
  obtain ⟨p1, p2, p3, p4⟩ := CSg.app RAs.good 2 h.st hR hn (fun k e => e.elim (fun e => (h.wrow.lt k e).2) (fun e => (h.rrow.lt k e).2)) (by have := h.st.clt; omega) hb.2 (fun e => by have := (hR.row.lt cb e).1; omega) (.inl (Nat.lt_succ_self _)) hk hr hc hvs hg h3 hat
  have hlt := hR.row.lt
  have hqa : ∀ {X : Nat → Prop}, (∀ k, av.ownBlock = some k → X k) → ∀ k, (k = rb ∨ k = cb ∨ av.ownBlock = some k) → k < cb + 1 ∨ X k := fun hX k e => by
    rcases e with e | e | e
    · exact .inl (by omega)
    · exact .inl (by omega)
    · exact .inr (hX k e)
  refine ⟨p1, p2, h.wrow.grown RWord.good p4 (hqa (fun k e => .inl e)) (fun k e1 e2 => ?_) (fun k e => ?_), h.rrow.grown RRd.good p4 (hqa (fun k e => .inl e)) (fun k e1 e2 => ?_) (fun k e => ?_), fun k e1 e2 => ?_, fun k e1 e2 => ?_, h.wr, h.rnil⟩
  · have := (h.wrow.lt k e1).1
    rcases e2 with e | e | e
    · omega
    · omega
    · exact h.aw k e e1
  · rcases e with e | e
    · injection e with e
      have e : g = k := e
      rcases hat with h4 | h4
      · exact .inl (.inl (by rw [h4, e]))
      · exact .inr (by omega)
    · exact .inl (.inr e)
  · have := (h.rrow.lt k e1).1
    rcases e2 with e | e | e
    · omega
    · omega
    · exact h.ar k e e1
  · rcases e with e | e
    · injection e with e
      have e : g = k := e
      rcases hat with h4 | h4
      · exact .inl (.inl (by rw [h4, e]))
      · exact .inr (by omega)
    · exact .inl (.inr e)
  · injection e1 with e1
    have e1 : g = k := e1
    rcases hat with h4 | h4
    · exact h.aw k (by rw [h4, e1]) e2
    · have := (h.wrow.lt k e2).2; omega
  · injection e1 with e1
    have e1 : g = k := e1
    rcases hat with h4 | h4
    · exact h.ar k (by rw [h4, e1]) e2
    · have := (h.rrow.lt k e2).2; omega
/-- .. behind one redirection more. -/
theorem MSt.red {x : RdT} (h : MSt rb s wi w cb l av wv rv al ws rs W) (hR : Rw 3 RRd 59 (cb + 1) (fun k => av.ownBlock = some k ∨ wv.ownBlock = some k) W rv rs vss S) (hn : rs.length = n)
    (hk : Kept (· = rb) W w2) (hr : RdS w2 rb s r wi) (hc : RRd w2 (Nw W.heap.size w2) vs x) (hvs : vs.length = 3) (hg : (w2.alloc o).grownBy w3 rv.ownBlock) (h3 : w3.ownsRow (cb + 1) 59 3 (.slice (some ⟨g, 0, none⟩) (n + 1) cap) (n + 1) (vss.flatten ++ vs)) (hat : rv.ownBlock = some g ∨ g = w2.heap.size + 1) :
    MSt rb s wi w cb r av wv (.slice (some ⟨g, 0, none⟩) (n + 1) cap) al ws (rs ++ [x]) (w3.setCell ⟨cb, 8, none⟩ (.slice (some ⟨g, 0, none⟩) (n + 1) cap)) := by
  have hb := h.base
  have hz := hk.size
  obtain ⟨p1, p2, p3, p4⟩ := CSg.app RRd.good 8 h.st hR hn (fun k e => e.elim (fun e => (h.arow.lt k e).2) (fun e => (h.wrow.lt k e).2)) (by have := h.st.clt; omega) hb.2 (fun e => by have := (hR.row.lt cb e).1; omega) (.inl (Nat.lt_succ_self _)) hk hr hc hvs hg h3 hat
  have hlt := hR.row.lt
  have hqa : ∀ {X : Nat → Prop}, (∀ k, rv.ownBlock = some k → X k) → ∀ k, (k = rb ∨ k = cb ∨ rv.ownBlock = some k) → k < cb + 1 ∨ X k := fun hX k e => by
    rcases e with e | e | e
    · exact .inl (by omega)
    · exact .inl (by omega)
    · exact .inr (hX k e)
  refine ⟨p1, h.arow.grown RAs.good p4 (hqa (fun k e => .inr e)) (fun k e1 e2 => ?_) (fun k e => ?_), h.wrow.grown RWord.good p4 (hqa (fun k e => .inr e)) (fun k e1 e2 => ?_) (fun k e => ?_), p2, h.aw, fun k e1 e2 => ?_, fun k e1 e2 => ?_, fun e => by simp at e⟩
  · have := (h.arow.lt k e1).1
    rcases e2 with e | e | e
    · omega
    · omega
    · exact h.ar k e1 e
  · rcases e with e | e
    · exact .inl (.inl e)
    · injection e with e
      have e : g = k := e
      rcases hat with h4 | h4
      · exact .inl (.inr (by rw [h4, e]))
      · exact .inr (by omega)
  · have := (h.wrow.lt k e1).1
    rcases e2 with e | e | e
    · omega
    · omega
    · exact h.wr k e1 e
  · rcases e with e | e
    · exact .inl (.inl e)
    · injection e with e
      have e : g = k := e
      rcases hat with h4 | h4
      · exact .inl (.inr (by rw [h4, e]))
      · exact .inr (by omega)
  · injection e2 with e2
    have e2 : g = k := e2
    rcases hat with h4 | h4
    · exact h.ar k e1 (by rw [h4, e2])
    · have := (h.arow.lt k e1).2; omega
  · injection e2 with e2
    have e2 : g = k := e2
    rcases hat with h4 | h4
    · exact h.wr k e1 (by rw [h4, e2])
    · have := (h.wrow.lt k e1).2; omega
end

end Go.Proofs.Ytgajbehlggikdaa.Sw

/- DERIVED. The walk over put. -/
namespace Go.Proofs.Ytgajbehlggikdaa.Sw
open Go.RowKit
open PathM WdM SyM
open Go.Proofs.Ytgajbehlggikdaa.Wd
set_option linter.unusedVariables false

theorem asgInfo : (Try.prog.info? 56).map (fun i => (i.zero, i.size, i.bytes)) = some (some (.agg #[.string ⟨#[]⟩, .slice none 0 0]), 2, 40) := by kernel_rfl
/-- A word put into a command: al an assignment, or a word. -/
def putM (al : List AsT) (ws : List (List PT)) (x : List PT) : List AsT × List (List PT) := match assignL x with
  | some a => if ws = [] then (al ++ [a], ws) else (al, ws ++ [x])
  | none => (al, ws ++ [x])
/-- What put finds, and keeps. -/
structure PtW (rb : Nat) (s : ByteArray) (wi : Nat) (r : Bs) (W0 : World) (v : Value) (x : List PT) (W : World) : Prop where
  kept : Kept (· = rb) W0 W
  rd : RdS W rb s r wi
  val : PIn 17 W (Nw W0.heap.size W) v x
theorem PtW.next {rb : Nat} {s : ByteArray} {wi : Nat} {r : Bs} {W0 : World} {v : Value} {x : List PT} {W W' : World} {Q : Nat → Prop} (h : PtW rb s wi r W0 v x W) (hk : Kept Q W W') (hq : ∀ k, Q k → W.heap.size ≤ k) : PtW rb s wi r W0 v x W' := by
  have h1 := h.rd.lt
  have h2 := h.kept.size
  exact ⟨h.kept.then hk (fun k h1 h2 => by have := hq k h2; omega), h.rd.kept hk (fun e => by have := hq _ e; omega), nw_kept (V := PIn 17) (pin_good 17) hk (fun k e => .inr (hq k e)) h.val⟩
set_option maxRecDepth 100000 in
set_option maxHeartbeats 1600000 in
theorem put_any {rb cb : Nat} {s : ByteArray} {wi : Nat} {w : World} {l r : Bs} {av wv rv : Value} {al : List AsT} {ws : List (List PT)} {rs : List RdT} {W0 : World} (h : MSt rb s wi w cb l av wv rv al ws rs W0) (v : Value) (p : PT) (rest : List PT) (W : World) (hp : PtW rb s wi r W0 v (p :: rest) W) (ht : p.text.length ≤ 8192) (hn1 : al.length ≤ 9000) (hn2 : ws.length ≤ 9000) :
    Calls Try.prog 64 #[.pointer (some ⟨cb, 0, none⟩), v] W fun e W' => e = .returned (.tuple #[]) ∧ ∃ av' wv', MSt rb s wi w cb r av' wv' rv (putM al ws (p :: rest)).1 (putM al ws (p :: rest)).2 rs W' := by
  have ha := assign_any W0.heap.size v p rest W hp.val hp.kept.size ht
  obtain ⟨A1, n1, c1, rfl⟩ := PIn.form hp.val
  obtain ⟨wA, wc, rfl⟩ := h.wrow.form
  obtain ⟨aA, ac, rfl⟩ := h.arow.form
  have HS := Lib.hid h
  have HP := Lib.hid hp
  obtain ⟨j0, gi, gz0, gz1, gz2⟩ := info_parts asgInfo
  have GI := Lib.hid gi; have GZ0 := Lib.hid gz0; have GZ1 := Lib.hid gz1; have GZ2 := Lib.hid gz2; clear gi gz0 gz1 gz2
  obtain ⟨i0, hi, hz0, hz1, hz2⟩ := info_parts wordInfo
  have HI := Lib.hid hi; have HZ0 := Lib.hid hz0; have HZ1 := Lib.hid hz1; have HZ2 := Lib.hid hz2; clear hi hz0 hz1 hz2
  have hcb := h.st.box.lt
  have hrc : rb < cb := by have := h.st.lt; have := h.st.clt; omega
  have hsz := hp.kept.size
  unfold AsgPost at ha
  cases hm : assignL (p :: rest) with
  | none =>
    rw [hm] at ha
    have HA := Lib.hid ha
    have HE : Hid (putM al ws (p :: rest) = (al, ws ++ [p :: rest])) := Lib.hid (by unfold putM; rw [hm])
    obtain ⟨n, hn0⟩ : ∃ n : Nat, ws.length = n := ⟨_, rfl⟩
    have HNN : Hid (ws.length = n) := Lib.hid hn0
    rw [hn0] at HS hn2
    clear ha hm h hp hn0
    go_enter Try.func64, Try.ntmps64
    go_wp2_with fail
    refine HA.out.mono ?_
    rintro e W3 ⟨hb, rfl⟩
    have HP3 := Lib.hid (HP.out.next (kept_told (S := fun _ => False) hb) (fun k e => e.elim))
    clear hb
    go_upto_region 3 with (fail)
    refine wp_gen (fun W => PtW rb s wi r W0 (.slice A1 n1 c1) (p :: rest) W) (HP3.out.next (kept_alloc (S := fun _ => False) _ _) (fun k e => e.elim)) ?_
    intro W4 hP4
    clear HP3
    obtain ⟨vss, Sx, hRw⟩ := HS.out.wrow
    have hbx := HS.out.st.box.kept hP4.kept (by omega)
    have k1 := cell_blk hbx 3
    simp at k1
    have z4 := hbx.lt
    have HP4 := Lib.hid hP4
    have HBX := Lib.hid hbx
    have HRW := Lib.hid hRw
    have HOO := Lib.hid (HNN.out ▸ (row_kept hRw.row hP4.kept (fun k e1 e2 => by have := (hRw.row.lt k e1).1; omega)).alloc (.cells #[.slice A1 n1 c1] 54))
    have HNO := Lib.hid (new_cells W4 [.slice A1 n1 c1] 54)
    have hs4 := hP4.kept.size
    clear hbx hRw hP4
    go_wp2_with (at_builtin; refine wpList_append_lies _ rfl _ _ 38 rfl (cb + 1) 54 i0 (.slice none 0 0) 1 24 Try.underlying38 HI.out HZ0.out HZ1.out HZ2.out rfl (by decide) _ _ _ rfl HOO.out ⟨W4.heap.size, 0, none⟩ 1 1 [.slice A1 n1 c1] rfl rfl HNO.out (by intro u hu; rw [List.mem_singleton] at hu; subst hu; rfl) (by decide) (maxLen_ok (by omega)) (by omega) (by simp; omega) (W4.heap.size + 1) (by simp) ?_; intro g cap w5 hown hg hat hlt; have HO5 := Lib.hid hown; have HG5 := Lib.hid hg; have HA5 := Lib.hid hat; have hbx5 := (hg.block cb (by simp; omega) (fun e => by have := (HRW.out.row.lt cb e.symm).1; omega)).trans ((Below.heap_alloc _ _ _ z4).trans HBX.out); have e1 := cell_blk hbx5 3; have e2 := froz_blk hbx5 3; have e3 := fin_at hbx5; simp at e1; clear hown hg hat hbx5)
    go_end0
    rw [HE.out]
    exact ⟨rfl, _, _, HS.out.word HRW.out HNN.out HP4.out.kept HP4.out.rd ⟨_, rfl, HP4.out.val⟩ rfl HG5.out HO5.out HA5.out⟩
  | some x =>
    rw [hm] at ha
    by_cases hw0 : ws = []
    · have HA := Lib.hid ha
      have HE : Hid (putM al ws (p :: rest) = (al ++ [x], ws)) := Lib.hid (by unfold putM; rw [hm]; simp only; rw [if_pos hw0])
      obtain ⟨n, hn0⟩ : ∃ n : Nat, al.length = n := ⟨_, rfl⟩
      have HNN : Hid (al.length = n) := Lib.hid hn0
      rw [hn0] at HS hn1
      rw [hw0, List.length_nil] at HS
      have HW0 := Lib.hid hw0
      have HBX0 := Lib.hid HS.out.st.box
      clear ha hm h hp hn0 hw0
      go_enter Try.func64, Try.ntmps64
      go_wp2_with fail
      refine HA.out.mono ?_
      rintro e W3 ⟨hb, A2, n2, c2, rfl, hpin⟩
      have HP3 := Lib.hid (HP.out.next (kept_told (S := fun _ => False) hb) (fun k e => e.elim))
      have HPIN := Lib.hid hpin
      clear hb hpin
      have hbx3 := HBX0.out.kept HP3.out.kept (by omega)
      have k0 := cell_blk hbx3 3
      have k2 := hbx3.lt
      simp at k0
      clear hbx3
      go_upto_region 2 with (fail)
      refine wp_gen (fun W => PtW rb s wi r W0 (.slice A1 n1 c1) (p :: rest) W ∧ PIn 17 W (Nw W0.heap.size W) (.slice A2 n2 c2) x.word ∧ W.heap[W3.heap.size]? = some (.cells #[.string (nm x.name), .slice A2 n2 c2] 56 (0, 0))) ⟨HP3.out.next (kept_alloc (S := fun _ => False) _ _) (fun k e => e.elim), nw_kept (V := PIn 17) (pin_good 17) (kept_alloc (S := fun _ => False) _ _) (fun k e => e.elim) HPIN.out, heap_alloc_new _ _⟩ ?_
      rintro W4 ⟨hP4, hpin4, hab⟩
      clear HP3 HPIN k0 k2
      generalize W3.heap.size = ab at *
      have HP5 := Lib.hid (hP4.next (Kept.drewN (S := fun _ => False) 1) (fun k e => e.elim) : PtW rb s wi r W0 (.slice A1 n1 c1) (p :: rest) W4.drew)
      have HPIN5 := Lib.hid (nw_kept (V := PIn 17) (w' := W4.drew) (pin_good 17) (Kept.drewN (S := fun _ => False) 1) (fun k e => e.elim) hpin4)
      obtain ⟨vss, Sx, hRw⟩ := HS.out.arow
      have hbx := HS.out.st.box.kept HP5.out.kept (by omega)
      have k1 := cell_blk hbx 2
      simp at k1
      have z4 := hbx.lt
      simp at z4
      have a0 := cell_blk hab 0
      have a1 := cell_blk hab 1
      have za := fin_at hab
      simp at a0 a1
      have HBX := Lib.hid hbx
      have HRW := Lib.hid hRw
      have HOO := Lib.hid (HNN.out ▸ (row_kept hRw.row HP5.out.kept (fun k e1 e2 => by have := (hRw.row.lt k e1).1; omega)).alloc (.cells #[.string (nm x.name), .slice A2 n2 c2] 56))
      have HNO := Lib.hid (new_cells W4.drew [.string (nm x.name), .slice A2 n2 c2] 56)
      have hs4 := hP4.kept.size
      clear hbx hRw hP4 hpin4 hab
      go_region_law (refine step_append_lies _ rfl (.tmp 24) (.tmp 26) 37 rfl (cb + 1) 56 j0 (.agg #[.string ⟨#[]⟩, .slice none 0 0]) 2 40 Try.underlying37 GI.out GZ0.out GZ1.out GZ2.out rfl (by decide) (.slice aA n ac) n vss.flatten (by simp [Act.eval]) HOO.out ⟨W4.heap.size, 0, none⟩ 1 1 [.string (nm x.name), .slice A2 n2 c2] (by simp [Act.eval]) rfl HNO.out (by intro u hu; simp only [List.mem_cons, List.not_mem_nil, or_false] at hu; rcases hu with rfl | rfl <;> rfl) (by decide) (maxLen_ok (by omega)) (by omega) (by simp; omega) (W4.heap.size + 1) (by simp) ?_; intro g cap w5 hown hg hat hlt; have HO5 := Lib.hid hown; have HG5 := Lib.hid hg; have HA5 := Lib.hid hat; have hbx5 := (hg.block cb (by simp; omega) (fun e => by have := (HRW.out.row.lt cb e.symm).1; omega)).trans ((Below.heap_alloc _ _ _ HBX.out.lt).trans HBX.out); have e1 := cell_blk hbx5 2; have e2 := froz_blk hbx5 2; have e3 := fin_at hbx5; simp at e1; clear hown hg hat hbx5)
      all_goals
        go_wp2_with fail
        refine bodyPost_ret (results_none rfl _ _ _) rfl ?_
        have h9 := HS.out.asg HRW.out HNN.out HP5.out.kept HP5.out.rd ⟨_, rfl, HPIN5.out⟩ rfl HG5.out HO5.out HA5.out
        rw [HE.out]
        refine ⟨rfl, .slice (some ⟨g, 0, none⟩) (n + 1) cap, .slice wA 0 wc, ?_⟩
        rw [HW0.out]
        exact h9
    · have HA := Lib.hid ha
      have HE : Hid (putM al ws (p :: rest) = (al, ws ++ [p :: rest])) := Lib.hid (by unfold putM; rw [hm]; simp only; rw [if_neg hw0])
      obtain ⟨n, hn0⟩ : ∃ n : Nat, ws.length = n := ⟨_, rfl⟩
      have HNN : Hid (ws.length = n) := Lib.hid hn0
      have hnp : 0 < n := by rw [← hn0]; exact List.length_pos_iff.2 hw0
      rw [hn0] at HS hn2
      have HBX0 := Lib.hid HS.out.st.box
      clear ha hm h hp hn0 hw0
      go_enter Try.func64, Try.ntmps64
      go_wp2_with fail
      refine HA.out.mono ?_
      rintro e W3 ⟨hb, A2, n2, c2, rfl, hpin⟩
      have HP3 := Lib.hid (HP.out.next (kept_told (S := fun _ => False) hb) (fun k e => e.elim))
      clear hb hpin
      have hbx3 := HBX0.out.kept HP3.out.kept (by omega)
      have k0 := cell_blk hbx3 3
      have k2 := hbx3.lt
      simp at k0
      clear hbx3
      go_upto_region 3 with (fail)
      refine wp_gen (fun W => PtW rb s wi r W0 (.slice A1 n1 c1) (p :: rest) W) (HP3.out.next (kept_alloc (S := fun _ => False) _ _) (fun k e => e.elim)) ?_
      intro W4 hP4
      clear HP3
      obtain ⟨vss, Sx, hRw⟩ := HS.out.wrow
      have hbx := HS.out.st.box.kept hP4.kept (by omega)
      have k1 := cell_blk hbx 3
      simp at k1
      have z4 := hbx.lt
      have HP4 := Lib.hid hP4
      have HBX := Lib.hid hbx
      have HRW := Lib.hid hRw
      have HOO := Lib.hid (HNN.out ▸ (row_kept hRw.row hP4.kept (fun k e1 e2 => by have := (hRw.row.lt k e1).1; omega)).alloc (.cells #[.slice A1 n1 c1] 54))
      have HNO := Lib.hid (new_cells W4 [.slice A1 n1 c1] 54)
      have hs4 := hP4.kept.size
      clear hbx hRw hP4
      go_wp2_with (at_builtin; refine wpList_append_lies _ rfl _ _ 38 rfl (cb + 1) 54 i0 (.slice none 0 0) 1 24 Try.underlying38 HI.out HZ0.out HZ1.out HZ2.out rfl (by decide) _ _ _ rfl HOO.out ⟨W4.heap.size, 0, none⟩ 1 1 [.slice A1 n1 c1] rfl rfl HNO.out (by intro u hu; rw [List.mem_singleton] at hu; subst hu; rfl) (by decide) (maxLen_ok (by omega)) (by omega) (by simp; omega) (W4.heap.size + 1) (by simp) ?_; intro g cap w5 hown hg hat hlt; have HO5 := Lib.hid hown; have HG5 := Lib.hid hg; have HA5 := Lib.hid hat; have hbx5 := (hg.block cb (by simp; omega) (fun e => by have := (HRW.out.row.lt cb e.symm).1; omega)).trans ((Below.heap_alloc _ _ _ z4).trans HBX.out); have e1 := cell_blk hbx5 3; have e2 := froz_blk hbx5 3; have e3 := fin_at hbx5; simp at e1; clear hown hg hat hbx5)
      go_end0
      rw [HE.out]
      exact ⟨rfl, _, _, HS.out.word HRW.out HNN.out HP4.out.kept HP4.out.rd ⟨_, rfl, HP4.out.val⟩ rfl HG5.out HO5.out HA5.out⟩

end Go.Proofs.Ytgajbehlggikdaa.Sw

/- DERIVED. The walk over simple. -/
namespace Go.Proofs.Ytgajbehlggikdaa.Sw
open Go.RowKit
open PathM WdM SyM
open Go.Proofs.Ytgajbehlggikdaa.Wd
set_option linter.unusedVariables false

theorem ahead_len (l : Bs) : (aheadL l).length ≤ l.length := (ahead_suf l).length_le
theorem word_first {sc : Bs → Option Int} {l r : Bs} {w : List PT} (h : wordL sc l = .ok w r) : ∃ p rest, w = p :: rest ∧ p.text.length ≤ l.length := by
  unfold wordL at h
  split at h
  · split at h
    · split at h <;> cases h
    · rename_i w0 r0 h2
      split at h
      · cases h
      · injection h with h3 h4
        have ht := WdT.scan_texts h2
        have hl := ahead_len l
        by_cases h0 : w0 = []
        · rw [if_pos h0] at h3
          exact ⟨_, _, h3.symm, by show ([] : Bs).length ≤ _; simp⟩
        · rw [if_neg h0] at h3
          subst h3
          cases w0 with
          | nil => exact absurd rfl h0
          | cons p rest =>
            rw [WdT.tsz_cons] at ht
            exact ⟨p, rest, rfl, by omega⟩
  · cases h
section
variable {sc : Bs → Option Int} {k : Nat} {al : List AsT} {ws : List (List PT)} {rs : List RdT} {m r : Bs}
theorem sm_end (h : arrowL m = none) (h2 : wordStands m = false) : simpleN sc k al ws rs m = .ok (.mk 1 [] al ws [] [] [] [] rs) m := by
  cases k with
  | zero => rfl
  | succ k => rw [simpleN, if_neg (by rw [h]; decide), if_neg (by rw [h2]; decide)]
theorem sm_rbad {y : Int × Bs × Bs} {a : Nat} {e : Int} (h : arrowL m = some y) (h2 : redirL sc m = .bad a e) : simpleN sc (k + 1) al ws rs m = .bad a e := by rw [simpleN, if_pos (by rw [h]; rfl), h2]
theorem sm_rok {y : Int × Bs × Bs} {x : RdT} (h : arrowL m = some y) (h2 : redirL sc m = .ok x r) : simpleN sc (k + 1) al ws rs m = simpleN sc k al ws (rs ++ [x]) r := by rw [simpleN, if_pos (by rw [h]; rfl), h2]
theorem sm_wbad {a : Nat} {e : Int} (h : arrowL m = none) (h1 : wordStands m = true) (h2 : wordL sc m = .bad a e) : simpleN sc (k + 1) al ws rs m = .bad a e := by rw [simpleN, if_neg (by rw [h]; decide), if_pos h1, h2]
theorem sm_wok {x : List PT} (h : arrowL m = none) (h1 : wordStands m = true) (h2 : wordL sc m = .ok x r) : simpleN sc (k + 1) al ws rs m = simpleN sc k (putM al ws x).1 (putM al ws x).2 rs r := by
  rw [simpleN, if_neg (by rw [h]; decide), if_pos h1, h2]
  simp only
  unfold putM
  cases assignL x with
  | none => rfl
  | some y => simp only; split <;> rfl
end
theorem putM_len (al : List AsT) (ws : List (List PT)) (x : List PT) : (putM al ws x).1.length + (putM al ws x).2.length = al.length + ws.length + 1 := by
  unfold putM
  split
  · split <;> simp <;> omega
  · simp; omega
/-- What simple refuses. -/
def smBad (l : Bs) : Bool := endingL (nextL l).1 || (!(arrowL l).isSome && !wordStands l)
theorem sm_bad {sc : Bs → Option Int} {l : Bs} (h : smBad l = true) : simpleL sc l = refuse l := by
  unfold simpleL
  rw [if_pos]
  unfold smBad at h
  rcases Bool.or_eq_true_iff.1 h with h | h
  · exact .inl h
  · rw [Bool.and_eq_true] at h
    exact .inr ⟨by cases hx : arrowL l <;> simp_all, by simpa using h.2⟩
theorem sm_good {sc : Bs → Option Int} {l : Bs} (h : smBad l = false) : simpleL sc l = simpleN sc (l.length + 1) [] [] [] l := by
  unfold simpleL
  rw [if_neg]
  unfold smBad at h
  rw [Bool.or_eq_false_iff] at h
  rintro (h1 | ⟨h1, h2⟩)
  · rw [h.1] at h1; cases h1
  · have h3 := h.2
    rw [h2] at h3
    cases hx : arrowL l <;> simp_all
/-- What lies ahead of the loop. -/
structure SmP (rb : Nat) (s : ByteArray) (wi : Nat) (l : Bs) (w W : World) : Prop where
  res : BoxC w.heap.size (cmd0 (.int .i64 0) (.string ⟨#[]⟩)) W
  rd : RdS W rb s l wi
  kept : Kept (· = rb) w W
theorem SmP.dn {rb : Nat} {s : ByteArray} {wi : Nat} {l : Bs} {w W : World} (h : SmP rb s wi l w W) (k : Nat) : SmP rb s wi l w (W.drewN k) := ⟨h.res, h.rd.drewN k, h.kept.trans (Kept.drewN k)⟩
theorem MSt.start {rb : Nat} {s : ByteArray} {wi : Nat} {l : Bs} {w W : World} (h : SmP rb s wi l w W) (hlt : rb < w.heap.size) : MSt rb s wi w W.heap.size l (.slice none 0 0) (.slice none 0 0) (.slice none 0 0) [] [] [] (W.alloc (.cells #[.int .i64 1, .string ⟨#[]⟩, .slice none 0 0, .slice none 0 0, .slice none 0 0, .slice none 0 0, .slice none 0 0, .slice none 0 0, .slice none 0 0] 42)) :=
  ⟨CSg.start h.res h.rd h.kept hlt [.int .i64 1, .string ⟨#[]⟩, .slice none 0 0, .slice none 0 0, .slice none 0 0, .slice none 0 0, .slice none 0 0, .slice none 0 0, .slice none 0 0], Row.nil _ _ _ _ _ _, Row.nil _ _ _ _ _ _, Row.nil _ _ _ _ _ _, (fun k e => by cases e), (fun k e => by cases e), (fun k e => by cases e), fun _ => rfl⟩
set_option maxRecDepth 100000 in
set_option maxHeartbeats 6400000 in
theorem simple_any {sc : Bs → Option Int} {d wi : Nat} (hsc : ScOk sc wi) (hwi : wi ≤ 100) : SmOk (simpleL sc) d wi := by
  intro rb s l w h hs
  have hsl := h.len
  have HW := Lib.hid h
  have hb0 : Below w.heap.size w (w.alloc (.cells #[.int .i64 0, .string ⟨#[]⟩, .slice none 0 0, .slice none 0 0, .slice none 0 0, .slice none 0 0, .slice none 0 0, .slice none 0 0, .slice none 0 0] 42)) := (Below.refl _ _).alloc (Nat.le_refl _) _
  have HB0 := Lib.hid hb0
  have hnx := next_any rb s l wi _ (h.told hb0) hs
  unfold NextPost at hnx
  have HNX := Lib.hid hnx
  have he := fun W => ending_any (nm (nextL l).1) W
  rw [nm_data] at he
  have hrs := fun W (hW : RdS W rb s l wi) => redirStands_any rb s l wi W hW hs
  have hws := fun W (hW : RdS W rb s l wi) => wordStands_any rb s l wi W hW hs
  obtain ⟨rn, re, hRF, hrf⟩ := refuse_ex rb s l wi hs
  have HRF := Lib.hid hRF
  have HRC := Lib.hid hrf
  have HSC := Lib.hid hsc
  obtain ⟨E, hE⟩ : ∃ E, simpleL sc l = E := ⟨_, rfl⟩
  rw [hE]
  have HE := Lib.hid hE
  obtain ⟨bad, hbad⟩ : ∃ bad, smBad l = bad := ⟨_, rfl⟩
  have hbad2 := hbad
  unfold smBad at hbad2
  obtain ⟨i0, hi, hy0, hy1, hy2⟩ := info_parts redirInfo
  have HI := Lib.hid hi; have HZ0 := Lib.hid hy0; have HZ1 := Lib.hid hy1; have HZ2 := Lib.hid hy2; clear hi hy0 hy1 hy2
  have HBAD := Lib.hid hbad
  clear hb0 hnx hRF hrf hsc hE hbad h
  generalize hen : endingL (nextL l).1 = en at *
  generalize har : (arrowL l).isSome = ar at *
  generalize hwd : wordStands l = wd at *
  generalize nm (nextL l).1 = K at *
  have HEN := Lib.hid he
  have HRS := Lib.hid hrs
  have HWS := Lib.hid hws
  have HBB := Lib.hid hbad2
  clear he hrs hws hbad2 hen har hwd
  go_enter Try.func43, Try.ntmps43
  go_upto_region 2 with (go_at_call 26; refine HNX.out.mono ?_; rintro e W ⟨rfl, hb, hr1, hkl⟩; have HP := Lib.hid (⟨(hb.block _ (by simp)).trans (heap_alloc_new w _), HW.out.told (HB0.out.trans (hb.mono (by simp))), kept_told (HB0.out.trans (hb.mono (by simp)))⟩ : SmP rb s wi l w W); clear hb hr1 hkl)
  go_cut [22] from 11 to 22 (fun c wx => c = .bool bad ∧ SmP rb s wi l w wx)
  case first =>
    have hbb := HBB.out
    cases en with
    | true =>
      go_wp2_with (go_at_call 29; refine (HEN.out _).mono ?_; rintro e W2 ⟨rfl, rfl⟩)
      go_meet
      exact ⟨by rw [← hbb]; rfl, HP.out⟩
    | false =>
      cases ar with
      | true =>
        go_wp2_with (first | (go_at_call 29; refine (HEN.out _).mono ?_; rintro e W2 ⟨rfl, rfl⟩) | (go_at_call 55; refine (HRS.out _ HP.out.rd).mono ?_; rintro e W2 ⟨rfl, rfl⟩))
        go_meet
        exact ⟨by rw [← hbb]; rfl, HP.out⟩
      | false =>
        cases wd with
        | true =>
          go_wp2_with (first | (go_at_call 29; refine (HEN.out _).mono ?_; rintro e W2 ⟨rfl, rfl⟩) | (go_at_call 55; refine (HRS.out _ HP.out.rd).mono ?_; rintro e W2 ⟨rfl, rfl⟩) | (go_at_call 63; refine (HWS.out _ HP.out.rd).mono ?_; rintro e W2 ⟨rfl, n, rfl⟩))
          go_meet
          exact ⟨by rw [← hbb]; rfl, HP.out.dn n⟩
        | false =>
          go_wp2_with (first | (go_at_call 29; refine (HEN.out _).mono ?_; rintro e W2 ⟨rfl, rfl⟩) | (go_at_call 55; refine (HRS.out _ HP.out.rd).mono ?_; rintro e W2 ⟨rfl, rfl⟩) | (go_at_call 63; refine (HWS.out _ HP.out.rd).mono ?_; rintro e W2 ⟨rfl, n, rfl⟩))
          go_meet
          exact ⟨by rw [← hbb]; rfl, HP.out.dn n⟩
  case rest =>
    obtain ⟨rfl, hP⟩ := hcut
    clear HP HEN HRS HWS HBB HNX
    cases bad with
    | true =>
      have HPX := Lib.hid hP
      clear hP
      go_wp2_with (go_at_call 19; refine (HRC.out _ HPX.out.rd).mono ?_; rintro e W2 ⟨rfl, rfl⟩)
      rw [← HE.out, sm_bad HBAD.out]
      exact ⟨rfl, reads_refused HRF.out HPX.out.kept⟩
    | false =>
      obtain ⟨M, hM⟩ : ∃ M, simpleN sc (l.length + 1) [] [] [] l = M := ⟨_, rfl⟩
      have hME : M = E := by rw [← hM, ← HE.out, sm_good HBAD.out]
      subst hME
      have HM0 : Hid (l.length < l.length + 1 ∧ ([] : List AsT).length + ([] : List (List PT)).length + ([] : List RdT).length + (l.length + 1) = l.length + 1 ∧ simpleN sc (l.length + 1) [] [] [] l = M) := Lib.hid ⟨by omega, by simp, hM⟩
      have HST := Lib.hid (MSt.start hP HW.out.lt)
      have hlw := HW.out.lt
      have hzc := fin_at hP.res
      clear hM hP HE HBAD HRC HRF HB0
      go_wp2_with fail
      generalize (wc.alloc (.cells #[.int .i64 1, .string ⟨#[]⟩, .slice none 0 0, .slice none 0 0, .slice none 0 0, .slice none 0 0, .slice none 0 0, .slice none 0 0, .slice none 0 0] 42)) = W1 at *
      generalize wc.heap.size = cb at *
      go_loopg [] (l.length + 1) (fun k wr => ∃ (m : Bs) (al : List AsT) (ws : List (List PT)) (rs : List RdT) (av wv : Value) (A : Option Addr) (ca : Nat), Hid (m.length < k ∧ al.length + ws.length + rs.length + k = l.length + 1 ∧ simpleN sc k al ws rs m = M) ∧ Hid (MSt rb s wi w cb m av wv (.slice A rs.length ca) al ws rs wr))
      case atStart => exact ⟨l, [], [], [], _, _, none, 0, HM0, HST⟩
      case round =>
        obtain ⟨m, al, ws, rs, av, wv, A, ca, HMM, HPS⟩ := hrel
        clear HM0 HST
        have hrs := redirStands_any rb s m wi wr HPS.out.st.rd hs
        have hnb : al.length ≤ 9000 ∧ ws.length ≤ 9000 ∧ rs.length ≤ 9000 := by have := HMM.out.2.1; omega
        have hzc2 := HPS.out.st.box.lt
        cases hx : arrowL m with
        | none =>
          rw [hx] at hrs
          have HRS := Lib.hid hrs
          have hws := wordStands_any rb s m wi wr HPS.out.st.rd hs
          cases hst : wordStands m with
          | false =>
            rw [hst] at hws
            have HWS := Lib.hid hws
            have HEE : Hid (M = .ok (.mk 1 [] al ws [] [] [] [] rs) m) := Lib.hid (by rw [← HMM.out.2.2]; exact sm_end hx hst)
            clear hrs hx hst hws HMM
            obtain ⟨aA, ac, rfl⟩ := HPS.out.arow.form
            obtain ⟨wA, wc2, rfl⟩ := HPS.out.wrow.form
            go_wp2_with fail
            refine HRS.out.mono ?_
            rintro e W5 ⟨rfl, rfl⟩
            go_wp2_with fail
            refine HWS.out.mono ?_
            rintro e W5 ⟨rfl, n, rfl⟩
            have HPX := Lib.hid (HPS.out.step (Kept.drewN n) (HPS.out.st.rd.drewN n))
            have hres := HPX.out.st.res
            obtain ⟨⟨e0, e1, e2, e3, e4, e5, e6, e7, e8⟩, ef⟩ := BoxC.nine HPX.out.st.box
            obtain ⟨⟨g0, g1, g2, g3, g4, g5, g6, g7, g8⟩, gf⟩ := BoxC.nine hres
            have hz9 := HPX.out.st.box.lt
            have hne2 : ¬ cb = w.heap.size := by omega
            have hne3 : ¬ w.heap.size = cb := by omega
            generalize wr.drewN n = W6 at *
            go_wp2_with fail
            refine bodyPost_ret (results_cell_row rfl _ _ _ 42 _ (0, 0) _ rfl (nine_set hres _ _ _ _ _ _ _ _ _) Try.underlying42 rfl (by kernel_rfl)) rfl ?_
            rw [HEE.out]
            exact HPX.out.st.done (LsIn.good d) ⟨_, _, _, _, _, _, _, rfl, sl_nx RAs.good (by omega) (Nat.lt_succ_self _) (HPX.out.arow.sl RAs.good (by omega)), sl_nx RWord.good (by omega) (Nat.lt_succ_self _) (HPX.out.wrow.sl RWord.good (by omega)), LsIn.nil _ _ _ _ _, LsIn.nil _ _ _ _ _, LsIn.nil _ _ _ _ _, Sl.nil _ _ _ _ _ _, sl_nx RRd.good (by omega) (Nat.lt_succ_self _) (HPX.out.rrow.sl RRd.good (by omega)), HPX.out.rnil⟩
          | true =>
            rw [hst] at hws
            have HWS := Lib.hid hws
            obtain ⟨k, rfl⟩ : ∃ k, gk = k + 1 := ⟨gk - 1, by have := HMM.out.1; omega⟩
            have HWD := Lib.hid (fun W (hW : RdS W rb s m wi) => word_any HSC.out hwi rb s m W hW hs)
            cases hr : wordL sc m with
            | bad a er =>
              rw [hr] at HWD
              have HEE : Hid (M = .bad a er) := Lib.hid (by rw [← HMM.out.2.2]; exact sm_wbad hx hst hr)
              clear hrs hx hst hws hr HMM
              go_wp2_with fail
              refine HRS.out.mono ?_
              rintro e W5 ⟨rfl, rfl⟩
              go_wp2_with fail
              refine HWS.out.mono ?_
              rintro e W5 ⟨rfl, n, rfl⟩
              have HPX := Lib.hid (HPS.out.step (Kept.drewN n) (HPS.out.st.rd.drewN n))
              go_wp2_with fail
              refine (HWD.out _ HPX.out.st.rd).mono ?_
              rintro e w3 ⟨hk3, rfl⟩
              simp only [sflt]
              go_wp2_with fail
              rw [HEE.out]
              exact ⟨rfl, HPX.out.st.kept.trans hk3, rfl⟩
            | ok x q =>
              rw [hr] at HWD
              have hql := word_less hr
              obtain ⟨p, rest, rfl, hpt⟩ := word_first hr
              have hml := HPS.out.st.rd.len
              have hpl := putM_len al ws (p :: rest)
              have HN : Hid (q.length < k ∧ (putM al ws (p :: rest)).1.length + (putM al ws (p :: rest)).2.length + rs.length + k = l.length + 1 ∧ simpleN sc k (putM al ws (p :: rest)).1 (putM al ws (p :: rest)).2 rs q = M) := Lib.hid ⟨by have := HMM.out.1; omega, by have := HMM.out.2.1; omega, by rw [← HMM.out.2.2]; exact (sm_wok hx hst hr).symm⟩
              have hpt2 : p.text.length ≤ 8192 := by omega
              clear hrs hx hst hws hr HMM hql hml hpl hpt
              go_wp2_with fail
              refine HRS.out.mono ?_
              rintro e W5 ⟨rfl, rfl⟩
              go_wp2_with fail
              refine HWS.out.mono ?_
              rintro e W5 ⟨rfl, n, rfl⟩
              have HPX := Lib.hid (HPS.out.step (Kept.drewN n) (HPS.out.st.rd.drewN n))
              go_wp2_with fail
              refine (HWD.out _ HPX.out.st.rd).mono ?_
              rintro e w3 ⟨hk3, v3, rfl, hr3, hv3⟩
              have HPT := Lib.hid (put_any HPX.out v3 p rest w3 ⟨hk3, hr3, hv3⟩ hpt2 hnb.1 hnb.2.1)
              clear hk3 hr3 hv3
              go_wp2_with fail
              refine HPT.out.mono ?_
              rintro e w4 ⟨rfl, av', wv', h4⟩
              have HP4 := Lib.hid h4
              clear h4 HPT HPX HPS
              go_wp2_with fail
              go_roundg k
              case measure => omega
              case rel => exact ⟨q, _, _, rs, av', wv', A, ca, HN, HP4⟩
        | some y =>
          rw [hx] at hrs
          have HRS := Lib.hid hrs
          obtain ⟨k, rfl⟩ : ∃ k, gk = k + 1 := ⟨gk - 1, by have := HMM.out.1; omega⟩
          have HRDR := Lib.hid (fun W (hW : RdS W rb s m wi) => redir_any HSC.out hwi rb s m W hW hs (by rw [hx]; rfl))
          cases hr : redirL sc m with
          | bad a er =>
            rw [hr] at HRDR
            have HEE : Hid (M = .bad a er) := Lib.hid (by rw [← HMM.out.2.2]; exact sm_rbad hx hr)
            clear hrs hx hr HMM
            go_wp2_with fail
            refine HRS.out.mono ?_
            rintro e W5 ⟨rfl, rfl⟩
            have S0 : Hid (wr.drew.cell? ⟨cb, 8, none⟩ = some (.slice A rs.length ca)) := Lib.hid (cell_blk HPS.out.drew.st.box 8)
            have HCW := Lib.hid (HRDR.out wr.drew HPS.out.drew.st.rd)
            have hpk := HPS.out.drew.st.kept
            clear HPS
            go_wp2_with fail
            refine wp_region_held_drew (S := fun W => W.cell? ⟨cb, 8, none⟩ = some (.slice A rs.length ca)) (by kernel_rfl) S0.out (fun hHeld => ?_)
            refine wpAnyH_take (i := 0) (v := ?_) rfl (by kernel_rfl) (by kernel_rfl) (by kernel_rfl) (fun _ _ _ h => h) (Or.inl ⟨by rfl, ?_⟩) (by assumption) ?_
            rotate_left
            · (intro w hSw; (try dsimp only at hSw); go_simp; try with_reducible rfl)
            try simp only [List.getElem_toArray, List.getElem_cons_zero, Act.put, List.setIfInBounds_toArray, List.set_cons_zero, List.set_cons_succ]
            refine wpAnyH_take (i := 1) (v := ?_) rfl (by kernel_rfl) (by kernel_rfl) (by kernel_rfl) (fun _ _ _ h => h) (Or.inl ⟨by rfl, ?_⟩) (by assumption) ?_
            rotate_left
            · (intro w hSw; (try dsimp only at hSw); go_simp; try with_reducible rfl)
            try simp only [List.getElem_toArray, List.getElem_cons_zero, List.getElem_cons_succ, Act.put, List.setIfInBounds_toArray, List.set_cons_zero, List.set_cons_succ]
            refine wpAnyH_take (i := 2) (v := ?_) rfl (by kernel_rfl) (by kernel_rfl) (by kernel_rfl) (fun _ _ _ h => h) (Or.inl ⟨by rfl, ?_⟩) (by assumption) ?_
            rotate_left
            · (intro w hSw; (try dsimp only at hSw); go_simp; try with_reducible rfl)
            try simp only [List.getElem_toArray, List.getElem_cons_zero, List.getElem_cons_succ, Act.put, List.setIfInBounds_toArray, List.set_cons_zero, List.set_cons_succ]
            refine wpAnyH_ready (rs := [3]) (by kernel_rfl) (by simp) ?_
            refine AllReadyH.cons rfl (fun K hK => ?_) AllReadyH.nil
            go_simp
            go_wp2_with (go_at_call 56; refine HCW.out.mono ?_; rintro e w3 ⟨hk3, rfl⟩; simp only [sflt])
            rw [HEE.out]
            exact ⟨rfl, hpk.trans hk3, rfl⟩
          | ok x q =>
            rw [hr] at HRDR
            have hql := (redir_ext [] hr (by rw [hx]; rfl)).2
            have HN : Hid (q.length < k ∧ al.length + ws.length + (rs ++ [x]).length + k = l.length + 1 ∧ simpleN sc k al ws (rs ++ [x]) q = M) := Lib.hid ⟨by have := HMM.out.1; omega, by have := HMM.out.2.1; simp; omega, by rw [← HMM.out.2.2]; exact (sm_rok hx hr).symm⟩
            clear hrs hx hr HMM hql
            obtain ⟨n, hn0⟩ : ∃ n : Nat, rs.length = n := ⟨_, rfl⟩
            have hnb3 : n ≤ 9000 := by omega
            rw [hn0] at HPS
            have HNN : Hid (rs.length = n) := Lib.hid hn0
            clear hn0
            go_wp2_with fail
            refine HRS.out.mono ?_
            rintro e W5 ⟨rfl, rfl⟩
            go_wp2_with fail
            have HPD := Lib.hid HPS.out.drew
            obtain ⟨vss, Sx, hRw⟩ := HPD.out.rrow
            have HRW := Lib.hid hRw
            have HCW := Lib.hid (HRDR.out wr.drew HPD.out.st.rd)
            have s1 := cell_blk HPD.out.st.box 8
            have sz := HPD.out.st.box.lt
            simp at s1
            clear hRw
            go_region_law (first
              | (go_simp; go_at_call 56; refine HCW.out.mono ?_; rintro e w2 ⟨hk2, v2, rfl, hr2, hv2⟩; obtain ⟨fd, op, B1, m1, d1, rfl, hrep⟩ := redir_open hv2; have HK2 := Lib.hid hk2; have HR2 := Lib.hid hr2; have HREP := Lib.hid hrep; have hbx2 := HPD.out.st.box.kept hk2 (by omega); have HBX2 := Lib.hid hbx2; have j1 := cell_blk hbx2 8; have jz := hbx2.lt; simp at j1; have hks2 := hk2.size; simp at hks2; have HOW := Lib.hid ((row_kept HRW.out.row hk2 (fun k e1 e2 => by have := (HRW.out.row.lt k e1).1; omega)).alloc (.cells #[.int .i64 fd, .string op, .slice B1 m1 d1] 59)); have HNEW := Lib.hid (new_cells w2 [.int .i64 fd, .string op, .slice B1 m1 d1] 59); have HOWN := Lib.hid (HNN.out ▸ HOW.out); have HBS : Hid (cb + 1 ≤ (w2.alloc (.cells #[.int .i64 fd, .string op, .slice B1 m1 d1] 59)).heap.size) := Lib.hid (by simp; omega); clear hk2 hr2 hv2 hbx2 hrep hks2)
              | (refine step_append_lies _ rfl (.tmp 31) (.tmp 34) 40 rfl (cb + 1) 59 i0 (.agg #[.int .i64 0, .string ⟨#[]⟩, .slice none 0 0]) 3 48 Try.underlying40 HI.out HZ0.out HZ1.out HZ2.out rfl (by decide) (.slice A n ca) n vss.flatten (by simp [Act.eval]) HOWN.out ⟨w2.heap.size, 0, none⟩ 1 1 [.int .i64 fd, .string op, .slice B1 m1 d1] (by simp [Act.eval]) rfl HNEW.out (by intro u hu; simp only [List.mem_cons, List.not_mem_nil, or_false] at hu; rcases hu with rfl | rfl | rfl <;> rfl) (by decide) (maxLen_ok (by omega)) (by omega) HBS.out (w2.heap.size + 1) (by simp) ?_; intro g cap w3 hown3 hg3 hat3 hlt3; have HO3 := Lib.hid hown3; have HG3 := Lib.hid hg3; have HA3 := Lib.hid hat3; have hb3 := HG3.out.block cb (by have := HBX2.out.lt; simp; omega) (fun e => by have := (HRW.out.row.lt cb e.symm).1; omega); have hbx3 := hb3.trans ((Below.heap_alloc _ _ _ HBX2.out.lt).trans HBX2.out); have k1 := cell_blk hbx3 8; simp at k1; have fz1 := froz_blk hbx3 8; have hz3 := fin_at hbx3; clear hown3 hg3 hat3 hb3 hbx3))
            all_goals
              have p1 := HPD.out.red HRW.out HNN.out HK2.out HR2.out HREP.out rfl HG3.out HO3.out HA3.out
              have HPN : Hid (∃ n2, n2 = (rs ++ [x]).length ∧ MSt rb s wi w cb q av wv (.slice (some ⟨g, 0, none⟩) n2 cap) al ws (rs ++ [x]) (w3.setCell ⟨cb, 8, none⟩ (.slice (some ⟨g, 0, none⟩) (n + 1) cap))) := Lib.hid ⟨n + 1, by have := HNN.out; simp; omega, p1⟩
              clear p1
              go_wp2_with fail
              go_roundg k
              case measure => omega
              case rel =>
                obtain ⟨n2, rfl, hP1⟩ := HPN.out
                exact ⟨q, al, ws, rs ++ [x], av, wv, some ⟨g, 0, none⟩, cap, HN, Lib.hid hP1⟩

end Go.Proofs.Ytgajbehlggikdaa.Sw

/- DERIVED. Every level is read, as the model says. -/
namespace Go.Proofs.Ytgajbehlggikdaa.Sw
open Go.RowKit
open PathM WdM SyM
open Go.Proofs.Ytgajbehlggikdaa.Wd
set_option linter.unusedVariables false

theorem choice_nil {lists : Bs → Rs (List LiT)} {elif : Bs → Rs CmdT} {l r : Bs} {c : CmdT} (h : choiceL lists elif l = .ok c r) : noR c := by
  unfold choiceL at h
  repeat' (split at h)
  all_goals (first | (cases h; done) | (cases h; rfl))
/-- A level is read, as the model says. -/
structure LvOk (v : Lv) (d wi : Nat) : Prop where
  lists : LsOk v.lists d wi
  choice : ChOk v.choice d wi
  compound : CpOk v.compound d wi
  sc : ScOk v.sc wi
  list : LtOk (listL v) d wi
theorem sc_run {lists : Bs → Rs (List LiT)} {d wi : Nat} (hL : LsOk lists d (wi + 1)) (hg : GoodSc (fun t => errOf (scriptL lists t))) (hwi : wi ≤ 99) : ScOk (fun t => errOf (scriptL lists t)) wi := by
  refine ⟨hg, fun t w ht => ?_⟩
  have h := parse_any hL (by omega) (nm t) w (by rw [nm_size]; exact ht)
  rw [nm_data] at h
  refine (h.mono ?_ : _)
  intro e w' hp
  unfold ParsePost at hp
  obtain ⟨hb, hp⟩ := hp
  refine ⟨hb, ?_⟩
  cases hm : scriptL lists t with
  | ok x r =>
    rw [hm] at hp
    obtain ⟨v, rfl, hv⟩ := hp
    exact ⟨_, _, rfl⟩
  | bad a er =>
    rw [hm] at hp
    have hp : _ = _ := hp
    exact ⟨_, _, hp⟩
theorem level {v : Lv} {d wi : Nat} (hwi : wi ≤ 17) (hx : LOk v) (hL : LsOk v.lists d wi) (hCh : ChOk v.choice d wi) (hCp : CpOk v.compound d wi) (hSc : ScOk v.sc wi) (hnone : ∀ l r, v.compound l = .ok none r → r = l) (hF : FnOk (functionL v.body) d wi) : LvOk v d wi := by
  have hcm := hx.command
  have hC := command_any (v := v) (by omega) hCp hnone hF (simple_any hSc (by omega))
  have hP : PpOk (pipeL v) d wi := fun rb s l w h hs => pipe_any hC (fun l c r e => (hcm l c r [] e).2.1) rb s l w h hs
  have hLt : LtOk (listL v) d wi := fun rb s l w h hs => list_any hP (fun l c r e => (pipe_ext hcm l c r [] e).2.1) rb s l w h hs
  exact ⟨hL, hCh, hCp, hSc, hLt⟩
theorem comp_ok {lists : Bs → Rs (List LiT)} {choice : Bs → Rs CmdT} {sc : Bs → Option Int} {d wi : Nat} (hwi : wi ≤ 17) (hX : XLists lists) (hFr : FLists lists) (hL : LsOk lists d wi) (hCh : ChOk choice d wi) (hCn : ∀ l c r, choice l = .ok c r → noR c) (hSc : ScOk sc wi) : CpOk (compoundL lists choice sc) d wi :=
  compound_any hL hCh hCn (fun rb s l w h hs => word_any hSc (by omega) rb s l w h hs) (fun l x r e => (branch_ext hX hFr [] e).2.1) hSc (by omega)
theorem lv_read : ∀ n, n ≤ 17 → LvOk (lv n) (n + 1) (17 - n)
  | 0, _ => by
    have hL : ∀ d, LsOk tooDeep d 17 := fun d => lists_deep d 17 (by omega)
    have hSc : ScOk (lv 0).sc 17 := sc_run (d := 1) (lists_deep 1 18 (by omega)) (good_errs good_deep) (by omega)
    have hCh : ChOk (choiceL tooDeep tooDeep) 1 17 := choice_any (hL 1) (.inr ⟨by omega, rfl⟩)
    refine level (by omega) (lv_ok 0) (hL 1) hCh (comp_ok (by omega) deep_x deep_f (hL 1) hCh (fun l c r e => choice_nil e) hSc) hSc (fun l r e => (SyM.compound_none deep_x deep_f (choice_ext deep_x deep_c) [] e).1) (fun rb s l w h hs => function_any (by omega) (.inr ⟨by omega, rfl⟩) rb s l w h hs)
  | n + 1, hn => by
    have d := lv_read n (by omega)
    have hk := lv_ok n
    obtain ⟨hx, hf⟩ := lists_ext hk.command
    have e1 : 17 - n = (17 - (n + 1)) + 1 := by omega
    rw [e1] at d
    have hL : LsOk (listsL (lv n)) (n + 1 + 1) (17 - (n + 1)) := lists_any (by omega) d.list (fun l c r e => (list_ext hk.command l c r [] e).2.1)
    have hSc : ScOk (lv (n + 1)).sc (17 - (n + 1)) := sc_run d.lists (good_errs (good_lv n).lists) (by omega)
    have hCh : ChOk (choiceL (listsL (lv n)) (lv n).choice) (n + 1 + 1) (17 - (n + 1)) := choice_any hL (.inl ⟨by omega, d.choice⟩)
    exact level (by omega) (lv_ok (n + 1)) hL hCh (comp_ok (by omega) hx hf hL hCh (fun l c r e => choice_nil e) hSc) hSc (fun l r e => (SyM.compound_none hx hf (choice_ext hx hk.choice) [] e).1) (fun rb s l w h hs => function_any (by omega) (.inl ⟨n + 1, rfl, by omega, d.compound⟩) rb s l w h hs)

end Go.Proofs.Ytgajbehlggikdaa.Sw

/- DERIVED. The walk over Parse. -/
namespace Go.Proofs.Ytgajbehlggikdaa.Sw
open Go.RowKit
open PathM WdM SyM
open Go.Proofs.Ytgajbehlggikdaa.Wd
set_option linter.unusedVariables false

set_option maxRecDepth 100000 in
set_option maxHeartbeats 1600000 in
theorem Parse_any (s : ByteArray) (w : World) (hs : s.size ≤ 8192) :
    Calls Try.prog 8 #[.string s] w (ParsePost s (parseL s.data.toList) 18 w) := by
  have hp := parse_any (lv_read 17 (Nat.le_refl _)).lists (by omega) s w hs
  obtain ⟨m, hm⟩ : ∃ m, parseL s.data.toList = m := ⟨_, rfl⟩
  have hm2 : scriptL (lv 17).lists s.data.toList = m := hm
  rw [hm2] at hp
  rw [hm]
  have HP := Lib.hid hp
  clear hp hm hm2
  unfold ParsePost
  cases m with
  | ok x r =>
    go_enter Try.func8, Try.ntmps8
    go_wp2_with (go_at_call 10; refine HP.out.mono ?_; unfold ParsePost; rintro e W ⟨hb, v, rfl, hv⟩; have HB := Lib.hid hb; have HV := Lib.hid hv; clear hb hv)
    go_ret3
    exact ⟨HB.out, v, rfl, HV.out⟩
  | bad a er =>
    go_enter Try.func8, Try.ntmps8
    go_wp2_with (go_at_call 10; refine HP.out.mono ?_; unfold ParsePost; rintro e W ⟨hb, h9⟩; have h9 : e = _ := h9; subst h9; have HB := Lib.hid hb; clear hb)
    go_ret3
    exact ⟨HB.out, rfl⟩

end Go.Proofs.Ytgajbehlggikdaa.Sw
