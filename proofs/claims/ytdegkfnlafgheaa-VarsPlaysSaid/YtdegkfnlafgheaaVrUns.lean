/- DERIVED. The walk over Unset. -/
import Derived.Test.YtdegkfnlafgheaaVrDel
import Derived.Test.YtdegkfnlafgheaaVrMathL
namespace Go.Proofs.Ytdegkfnlafgheaa.Vr
open Go.RowKit
open PathM WdM VrM
open Go.Proofs.Ytdegkfnlafgheaa.Wd
set_option linter.unusedVariables false
def UnsPost (base tb : Nat) (st : Int) (vs' : Vs) (vv : Value) (ps : List Bs) (av : Value) (w : World) (e : Ending) (w' : World) : Prop := e = .returned (.tuple #[]) ∧ ∃ vv', TbX base w' tb st vs' vv' ps av ∧ Stp tb vv vv' w w'
theorem TbX.del {base tb g c : Nat} {st : Int} {vs : Vs} {av : Value} {ps : List Bs} {w W W2 : World} {name : Bs} (h : TbX base w tb st vs (.slice (some ⟨g, 0, none⟩) vs.length c) ps av) (hbW : Below w.heap.size w W) (hyes : hasV vs name = true)
    (hr : W2.ownsRow base 26 2 (.slice (some ⟨g, 0, none⟩) (vs.length - 1) c) (vs.length - 1) ((delV vs name).flatMap varC)) (hk : Kept (· = g) W W2) :
    UnsPost base tb st (delV vs name) (.slice (some ⟨g, 0, none⟩) vs.length c) ps av w (.returned (.tuple #[])) (W2.setCell ⟨tb, 2, none⟩ (.slice (some ⟨g, 0, none⟩) (vs.length - 1) c)) := by
  have hW := h.below hbW
  have hgt : g ≠ tb := fun e => h.ap1 (by rw [← e]; rfl)
  have hbx := hk.at hW.box (fun e => hgt e.symm)
  have hap : (Value.slice (some ⟨g, 0, none⟩) (vs.length - 1) c).ownBlock ≠ some tb := fun e => h.ap1 e
  have har : W2.ownsRow base 9 1 av ps.length (ps.map strC) := row_kept hW.arow hk (fun b hb e => h.ap3 b hb (by rw [e]; rfl))
  have hdl : (delV vs name).length = vs.length - 1 := by rw [del_length h.srt, hyes]; rfl
  refine ⟨rfl, .slice (some ⟨g, 0, none⟩) (vs.length - 1) c, ⟨set_blk (j := 2) hbx _, ?_, ownsRow_setCell_other har (a := ⟨tb, 2, none⟩) h.ap2 _, hap, h.ap2, h.ap3, h.hb, ?_, del_srt h.srt, fun x hx => h.vlen x (del_mem hx), h.plen, h.plens⟩, ?_, .inl rfl⟩
  · rw [hdl]
    exact ownsRow_setCell_other hr (a := ⟨tb, 2, none⟩) hap _
  · rw [hdl]; have := h.len; omega
  · exact (kept_of_below hbW).trans ((hk.mono (fun k hk => .inr (by rw [hk]; rfl))).trans (Kept.setCell ⟨tb, 2, none⟩ _ (.inl rfl)))
set_option maxRecDepth 100000 in
set_option maxHeartbeats 1600000 in
theorem unset_any (base tb : Nat) (st : Int) (vs : Vs) (vv av : Value) (ps : List Bs) (name : Bs) (w : World) (h : TbX base w tb st vs vv ps av) :
    Calls Try.prog 19 #[.pointer (some ⟨tb, 0, none⟩), .string (nm name)] w (UnsPost base tb st (delV vs name) vv ps av w) := by
  have HN := h.nn
  have HFD := Lib.hid (h.find name)
  have hz := h.lt
  cases hh : hasV vs name with
  | false =>
    rw [hh] at HFD
    have HF : Hid (∀ W, Below w.heap.size w W → UnsPost base tb st (delV vs name) vv ps av w (.returned (.tuple #[])) W) := Lib.hid (fun W hb => ⟨rfl, vv, by rw [del_no hh]; exact h.below hb, Stp.below hb⟩)
    clear h hh
    generalize UnsPost base tb st (delV vs name) vv ps av w = Q at *
    generalize posV vs name = p at *
    generalize nm name = N at *
    go_enter Try.func19, Try.ntmps19
    go_wp2_with (first | (go_at_call 31; refine (HN.out _ (Below.refl _ _)).mono ?_; rintro e W ⟨rfl, rfl⟩) | (go_at_call 36; refine HFD.out.mono ?_; rintro e W ⟨rfl, hb⟩; have HB := Lib.hid hb; clear hb))
    refine bodyPost_ret (results_none rfl _ _ _) rfl ?_
    exact HF.out _ HB.out
  | true =>
    rw [hh] at HFD
    obtain ⟨hpos, hpn, hpv⟩ := val_at h.srt hh
    rcases row_two h.row with ⟨_, h0⟩ | ⟨g, c, rfl, hc, _, _⟩
    · omega
    have HDEL : Hid (∀ W, Below w.heap.size w W → Calls Try.prog 45 #[.slice (some ⟨g, 0, none⟩) vs.length c, .int .i64 (posV vs name : Int), .int .i64 ((posV vs name : Int) + 1)] W (DelPost base (delV vs name) g (vs.length - 1) c W)) := Lib.hid (fun W hb => by
      rw [del_has h.srt hh]
      exact del_any base vs g c (posV vs name) W (h.below hb).row (by have := h.len; omega) hpos)
    have HC : Hid (∀ W, Below w.heap.size w W → W.cell? ⟨tb, 2, none⟩ = some (.slice (some ⟨g, 0, none⟩) vs.length c) ∧ tb < W.heap.size) := Lib.hid (fun W hb => ⟨(h.below hb).c2, (h.below hb).lt⟩)
    have HFIN : Hid (∀ W W2, Below w.heap.size w W → W2.ownsRow base 26 2 (.slice (some ⟨g, 0, none⟩) (vs.length - 1) c) (vs.length - 1) ((delV vs name).flatMap varC) → Kept (· = g) W W2 → ((∃ u, W2.cell? ⟨tb, 2, none⟩ = some u) ∧ W2.frozen? ⟨tb, 2, none⟩ = false ∧ tb < W2.heap.size) ∧ UnsPost base tb st (delV vs name) (.slice (some ⟨g, 0, none⟩) vs.length c) ps av w (.returned (.tuple #[])) (W2.setCell ⟨tb, 2, none⟩ (.slice (some ⟨g, 0, none⟩) (vs.length - 1) c))) := Lib.hid (fun W W2 hb hr hk => by
      have hW := h.below hb
      have hgt : g ≠ tb := fun e => h.ap1 (by rw [← e]; rfl)
      have hbx := hk.at hW.box (fun e => hgt e.symm)
      exact ⟨⟨⟨_, cell_blk hbx 2⟩, froz_blk hbx 2, fin_at hbx⟩, h.del hb hh hr hk⟩)
    have hp2 : (posV vs name : Int) < 64 := by have := h.len; omega
    clear h hh hpn hpv hpos
    generalize UnsPost base tb st (delV vs name) (.slice (some ⟨g, 0, none⟩) vs.length c) ps av w = Q at *
    generalize posV vs name = p at *
    generalize delV vs name = vs2 at *
    generalize nm name = N at *
    generalize vs.length = n at *
    go_enter Try.func19, Try.ntmps19
    go_wp2_with (first | (go_at_call 31; refine (HN.out _ (Below.refl _ _)).mono ?_; rintro e W ⟨rfl, rfl⟩) | (go_at_call 36; refine HFD.out.mono ?_; rintro e W ⟨rfl, hb⟩; obtain ⟨k1, k2⟩ := HC.out W hb; have HB := Lib.hid hb; have HD := Lib.hid (HDEL.out W hb); clear hb))
    refine HD.out.mono ?_
    rintro e W2 ⟨rfl, hr, hk⟩
    obtain ⟨⟨⟨u, x1⟩, x2, x3⟩, hq⟩ := HFIN.out _ W2 HB.out hr hk
    have HQ := Lib.hid hq
    clear hr hk hq HFIN HDEL HD HC k1 k2
    go_wp2_with fail
    refine bodyPost_ret (results_none rfl _ _ _) rfl ?_
    exact HQ.out
end Go.Proofs.Ytdegkfnlafgheaa.Vr
