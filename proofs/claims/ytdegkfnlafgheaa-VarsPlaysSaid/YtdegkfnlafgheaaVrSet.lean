/- DERIVED. A table whole; the walks over find and Set. -/
import Derived.Test.YtdegkfnlafgheaaVrIns
namespace Go.Proofs.Ytdegkfnlafgheaa.Vr
open Go.RowKit
open PathM WdM VrM
open Go.Proofs.Ytdegkfnlafgheaa.Wd
set_option linter.unusedVariables false
/-- A table: its box, its variables, its parameters. -/
structure TbX (base : Nat) (w : World) (tb : Nat) (st : Int) (vs : Vs) (vv : Value) (ps : List Bs) (av : Value) : Prop where
  box : w.heap[tb]? = some (.cells #[.int .i64 st, .bool true, vv, av] 47 (0, 0))
  row : w.ownsRow base 26 2 vv vs.length (vs.flatMap varC)
  arow : w.ownsRow base 9 1 av ps.length (ps.map strC)
  ap1 : vv.ownBlock ≠ some tb
  ap2 : av.ownBlock ≠ some tb
  ap3 : ∀ k, av.ownBlock = some k → vv.ownBlock ≠ some k
  hb : base ≤ tb
  len : vs.length ≤ 64
  srt : Srt vs
  vlen : ∀ x ∈ vs, x.1.length ≤ 64 ∧ x.2.length ≤ 4096
  plen : ps.length ≤ 256
  plens : ∀ x ∈ ps, x.length ≤ 4096
theorem row_lt {W : World} {base : Nat} {e : TypeId} {size : Nat} {v : Value} {k : Nat} {xs : List Value} (h : W.ownsRow base e size v k xs) {b : Nat} (hb : v.ownBlock = some b) : b < W.heap.size ∧ base ≤ b := by
  rcases h.2 with ⟨rfl, _⟩ | ⟨g, cap, cur, rfl, hg, hh, _⟩
  · cases hb
  · obtain rfl : g = b := by simpa [Value.ownBlock] using hb
    exact ⟨fin_at hh, hg⟩
theorem row_kept {S : Nat → Prop} {W W' : World} {base : Nat} {e : TypeId} {size : Nat} {v : Value} {k : Nat} {xs : List Value} (h : W.ownsRow base e size v k xs) (hk : Kept S W W') (hs : ∀ b, v.ownBlock = some b → ¬ S b) : W'.ownsRow base e size v k xs := by
  obtain ⟨g1, g2⟩ := h
  refine ⟨g1, g2.imp id ?_⟩
  rintro ⟨g, cap, cur, hv, hg, hh, hr⟩
  exact ⟨g, cap, cur, hv, hg, hk.at hh (hs g (by rw [hv]; rfl)), hr⟩
def OwT (tb : Nat) (vv : Value) (k : Nat) : Prop := k = tb ∨ vv.ownBlock = some k
section
variable {base tb : Nat} {st : Int} {vs : Vs} {vv av : Value} {ps : List Bs} {w w' : World}
theorem TbX.t (h : TbX base w tb st vs vv ps av) : TbIn w tb st vv ps av := ⟨h.box, ar_row h.arow, h.plen, h.plens⟩
theorem TbX.lt (h : TbX base w tb st vs vv ps av) : tb < w.heap.size := fin_at h.box
theorem TbX.below (h : TbX base w tb st vs vv ps av) (hb : Below w.heap.size w w') : TbX base w' tb st vs vv ps av := ⟨(hb.block tb h.lt).trans h.box, row_below h.row hb, row_below h.arow hb, h.ap1, h.ap2, h.ap3, h.hb, h.len, h.srt, h.vlen, h.plen, h.plens⟩
theorem TbX.c2 (h : TbX base w tb st vs vv ps av) : w.cell? ⟨tb, 2, none⟩ = some vv := cell_blk h.box 2
theorem TbX.f2 (h : TbX base w tb st vs vv ps av) : w.frozen? ⟨tb, 2, none⟩ = false := froz_blk h.box 2
theorem TbX.c1 (h : TbX base w tb st vs vv ps av) : w.cell? ⟨tb, 1, none⟩ = some (.bool true) := cell_blk h.box 1
theorem TbX.vs_in (h : TbX base w tb st vs vv ps av) : VsIn w vv vs := by
  rcases row_two h.row with ⟨rfl, h0⟩ | ⟨g, cap, rfl, h1, h2, _⟩
  · have : vs = [] := List.length_eq_zero_iff.1 h0
    subst this
    exact VsIn.nil _ _ _
  · refine ⟨_, _, rfl, h1, fun _ => ⟨g, 0, rfl, h2, fun i hi => ?_⟩⟩
    obtain ⟨a, b⟩ := varC_at vs i hi
    rw [Nat.zero_add]
    exact ⟨row_cells h.row _ _ a, row_cells h.row _ _ b⟩
end
/-- A step of the memory: what was written, and where the variables are then. -/
def Stp (tb : Nat) (v v' : Value) (W W' : World) : Prop := Kept (OwT tb v) W W' ∧ (v'.ownBlock = v.ownBlock ∨ ∃ b, v'.ownBlock = some b ∧ W.heap.size ≤ b)
theorem Stp.refl (tb : Nat) (v : Value) (W : World) : Stp tb v v W W := ⟨Kept.refl _ _, .inl rfl⟩
theorem Stp.trans {tb : Nat} {v v' v'' : Value} {W W' W'' : World} (h : Stp tb v v' W W') (k : Stp tb v' v'' W' W'') : Stp tb v v'' W W'' := by
  refine ⟨h.1.then k.1 (fun i hi hs => ?_), ?_⟩
  · rcases hs with rfl | hs
    · exact .inl rfl
    · rcases h.2 with h2 | ⟨b, h2, hb⟩
      · exact .inr (h2 ▸ hs)
      · rw [hs] at h2; cases h2; omega
  · rcases k.2 with k2 | ⟨b, k2, hb⟩
    · rcases h.2 with h2 | ⟨b, h2, hb⟩
      · exact .inl (k2.trans h2)
      · exact .inr ⟨b, k2.trans h2, hb⟩
    · exact .inr ⟨b, k2, Nat.le_trans h.1.size hb⟩
theorem Stp.below {tb : Nat} {v : Value} {W W' : World} (h : Below W.heap.size W W') : Stp tb v v W W' := ⟨kept_of_below h, .inl rfl⟩
set_option maxHeartbeats 800000 in
theorem find_any (vs : Vs) (name : Bs) (vv : Value) (tb : Nat) (w : World) (hc : w.cell? ⟨tb, 2, none⟩ = some vv) (hz : tb < w.heap.size) (h : VsIn w vv vs) (hs : Srt vs) (hl : vs.length ≤ 1000000) :
    Calls Try.prog 36 #[.pointer (some ⟨tb, 0, none⟩), .string (nm name)] w fun e w' => e = .returned (.tuple #[.int .i64 (posV vs name : Nat), .bool (hasV vs name)]) ∧ Below w.heap.size w w' := by
  have HB := Lib.hid (bin_any vs name vv w h hs hl)
  obtain ⟨A, c, rfl, _⟩ := h.form
  clear h hs
  generalize posV vs name = p at *
  generalize hasV vs name = f at *
  generalize vs.length = n at *
  generalize nm name = N at *
  go_enter Try.func36, Try.ntmps36
  go_wp2_with (go_at_call 55; refine HB.out.mono ?_; rintro e W ⟨rfl, hb⟩; have HBB := Lib.hid hb; clear hb)
  go_ret2
  exact ⟨rfl, HBB.out⟩
theorem TbX.find {base tb : Nat} {st : Int} {vs : Vs} {vv av : Value} {ps : List Bs} {w : World} (h : TbX base w tb st vs vv ps av) (name : Bs) : Calls Try.prog 36 #[.pointer (some ⟨tb, 0, none⟩), .string (nm name)] w fun e w' => e = .returned (.tuple #[.int .i64 (posV vs name : Nat), .bool (hasV vs name)]) ∧ Below w.heap.size w w' :=
  find_any vs name vv tb w h.c2 h.lt h.vs_in h.srt (by have := h.len; omega)
theorem flat_set : ∀ (vs : Vs) (i : Nat) (h : i < vs.length) (t : Bs), (vs.flatMap varC).set (i * 2 + 1) (.string (nm t)) = (vs.set i (vs[i].1, t)).flatMap varC
  | [], i, h, _ => absurd h (by simp)
  | x :: vs, 0, _, t => rfl
  | x :: vs, i + 1, h, t => by
    have h1 : i < vs.length := by simpa using h
    show (varC x ++ vs.flatMap varC).set ((i + 1) * 2 + 1) _ = varC x ++ (vs.set i (vs[i].1, t)).flatMap varC
    rw [← flat_set vs i h1 t, show (i + 1) * 2 + 1 = i * 2 + 1 + 2 by omega]
    rfl
/-- What Set makes of variables. -/
def setL (vs : Vs) (name t : Bs) : Except Int Vs := if isName name = false then .error 70 else if 4096 < t.length ∨ (hasV vs name = false ∧ 64 ≤ vs.length) then .error 2 else .ok (putV vs name t)
def SetPost (base tb : Nat) (st : Int) (vv : Value) (ps : List Bs) (av : Value) (m : Except Int Vs) (w : World) (e : Ending) (w' : World) : Prop := match m with
  | .ok vs' => e = .returned (.int .i64 0) ∧ ∃ vv', TbX base w' tb st vs' vv' ps av ∧ Stp tb vv vv' w w'
  | .error er => e = .returned (.int .i64 er) ∧ er ≠ 0 ∧ Below w.heap.size w w'
/-- A variable's value is written. -/
theorem TbX.val {base tb g c i : Nat} {st : Int} {vs : Vs} {av : Value} {ps : List Bs} {w : World} {name t : Bs} (h : TbX base w tb st vs (.slice (some ⟨g, 0, none⟩) vs.length c) ps av) (hi : i < vs.length) (hn : vs[i].1 = name) (ht : t.length ≤ 4096) (hs : Srt (vs.set i (name, t))) :
    TbX base (w.setCell ⟨g, i * 2 + 1, none⟩ (.string (nm t))) tb st (vs.set i (name, t)) (.slice (some ⟨g, 0, none⟩) vs.length c) ps av ∧ Stp tb (.slice (some ⟨g, 0, none⟩) vs.length c) (.slice (some ⟨g, 0, none⟩) vs.length c) w (w.setCell ⟨g, i * 2 + 1, none⟩ (.string (nm t))) := by
  have hst := (h.row.stored (i * 2 + 1) (.string (nm t))).1
  rw [flat_set vs i hi, hn] at hst
  have hk : Kept (· = g) w (w.setCell ⟨g, i * 2 + 1, none⟩ (.string (nm t))) := Kept.setCell ⟨g, i * 2 + 1, none⟩ _ rfl
  refine ⟨⟨hk.at h.box (fun e => h.ap1 (by rw [e]; rfl)), ?_, row_kept h.arow hk (fun b hb e => h.ap3 b hb (by rw [e]; rfl)), h.ap1, h.ap2, h.ap3, h.hb, ?_, hs, ?_, h.plen, h.plens⟩, Kept.setCell ⟨g, i * 2 + 1, none⟩ _ (.inr rfl), .inl rfl⟩
  · simpa using hst
  · rw [List.length_set]; exact h.len
  · intro x hx
    rcases List.mem_or_eq_of_mem_set hx with hx | rfl
    · exact h.vlen x hx
    · exact ⟨by rw [← hn]; exact (h.vlen _ (List.getElem_mem hi)).1, ht⟩
/-- A variable more. -/
theorem TbX.ins {base tb : Nat} {st : Int} {vs : Vs} {vv vv' av : Value} {ps : List Bs} {w W W2 : World} {name : Bs} (h : TbX base w tb st vs vv ps av) (hbW : Below w.heap.size w W) (hno : hasV vs name = false) (hl : vs.length < 64) (hnl : name.length ≤ 64)
    (hr : W2.ownsRow base 26 2 vv' (putV vs name []).length ((putV vs name []).flatMap varC)) (hg : W.grownBy W2 vv.ownBlock) (ho : vv'.ownBlock = vv.ownBlock ∨ ∃ b, vv'.ownBlock = some b ∧ W.heap.size ≤ b) :
    TbX base (W2.setCell ⟨tb, 2, none⟩ vv') tb st (putV vs name []) vv' ps av ∧ Stp tb vv vv' w (W2.setCell ⟨tb, 2, none⟩ vv') := by
  have hW := h.below hbW
  have hbx : W2.heap[tb]? = some (.cells #[.int .i64 st, .bool true, vv, av] 47 (0, 0)) := (hg.block tb hW.lt (fun e => h.ap1 e.symm)).trans hW.box
  have hap : vv'.ownBlock ≠ some tb := by
    intro e
    rcases ho with ho | ⟨b, ho, hb⟩
    · exact h.ap1 (ho ▸ e)
    · rw [e] at ho; cases ho; have := hW.lt; omega
  have hk : Kept (fun k => vv.ownBlock = some k) W W2 := Kept.grown hg (fun k hk => hk)
  have har : W2.ownsRow base 9 1 av ps.length (ps.map strC) := row_kept hW.arow hk (fun b hb e => h.ap3 b hb e)
  refine ⟨⟨set_blk (j := 2) hbx vv', ownsRow_setCell_other hr (a := ⟨tb, 2, none⟩) hap vv', ownsRow_setCell_other har (a := ⟨tb, 2, none⟩) h.ap2 vv', hap, h.ap2, ?_, h.hb, ?_, put_srt h.srt, ?_, h.plen, h.plens⟩, ?_, ?_⟩
  · intro k hk2 e
    rcases ho with ho | ⟨b, ho, hb⟩
    · exact h.ap3 k hk2 (ho ▸ e)
    · rw [e] at ho; cases ho; have := (row_lt hW.arow hk2).1; omega
  · rw [put_len h.srt, hno]; simp; omega
  · intro x hx
    rcases put_mem hx with rfl | hx
    · exact ⟨hnl, by simp⟩
    · exact h.vlen x hx
  · refine (kept_of_below hbW).trans ((hk.mono (fun k hk => .inr hk)).trans (Kept.setCell ⟨tb, 2, none⟩ _ (.inl rfl)))
  · rcases ho with ho | ⟨b, ho, hb⟩
    · exact .inl ho
    · exact .inr ⟨b, ho, Nat.le_trans hbW.size hb⟩
end Go.Proofs.Ytdegkfnlafgheaa.Vr
