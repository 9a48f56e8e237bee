/- DERIVED. Both tables side by side: the program's, and the document's in a box; what each step moves. -/
import Derived.Test.YtdegkfnlafgheaaVrShown
import Derived.Test.YtdegkfnlafgheaaVrUns
import Derived.Test.YtdegkfnlafgheaaVrRUns
import Derived.Test.YtdegkfnlafgheaaVrLaw3
import Derived.Deep.RegionLaw
import Derived.Deep.CutRange
import Derived.Deep.Cut
import Derived.Test.YtdegkfnlafgheaaVrOpenA
namespace Go.Proofs.Ytdegkfnlafgheaa.Vr
open Go.RowKit
open PathM WdM VrM
open Go.Proofs.Ytdegkfnlafgheaa.Wd
set_option linter.unusedVariables false
theorem VsIn.own {W : World} {v : Value} {vs : Vs} (h : VsIn W v vs) (hne : vs ≠ []) {b : Nat} (hb : v.ownBlock = some b) : b < W.heap.size := by
  obtain ⟨A, c, rfl, _, h⟩ := h
  obtain ⟨b', off, rfl, hlt, _⟩ := h hne
  obtain rfl : b' = b := by simpa [Value.ownBlock] using hb
  exact hlt
theorem VsIn.kept2 {S : Nat → Prop} {W W' : World} {v : Value} {vs : Vs} (h : VsIn W v vs) (hk : Kept S W W') (hs : vs ≠ [] → ∀ b, v.ownBlock = some b → ¬ S b) : VsIn W' v vs := by
  by_cases hne : vs = []
  · subst hne
    obtain ⟨A, c, rfl, _⟩ := h.form
    exact VsIn.nil _ _ _
  · exact h.kept hk (fun b e _ => hs hne b e)
structure RbX (w : World) (rb : Nat) (sr : Int) (vr : Vs) (v1 : Value) (pr : List Bs) (a1 : Value) : Prop where
  box : w.heap[rb]? = some (.cells #[v1, a1, .int .i64 sr] 36 (0, 0))
  vin : VsIn w v1 vr
  ain : ArIn w a1 pr
  srt : Srt vr
  len : vr.length ≤ 64
  nms : Nms vr
  plen : pr.length ≤ 256
  plens : ∀ x ∈ pr, x.length ≤ 4096
structure Two (base : Nat) (w : World) (tb : Nat) (st : Int) (vs : Vs) (vv : Value) (ps : List Bs) (av : Value) (rb : Nat) (sr : Int) (vr : Vs) (v1 : Value) (pr : List Bs) (a1 : Value) : Prop where
  t : TbX base w tb st vs vv ps av
  r : RbX w rb sr vr v1 pr a1
  hb : base ≤ rb
  s1 : rb ≠ tb
  s2 : vv.ownBlock ≠ some rb
  s3 : av.ownBlock ≠ some rb
  s4 : vr ≠ [] → v1.ownBlock ≠ some tb
  s5 : vr ≠ [] → ∀ k, v1.ownBlock = some k → vv.ownBlock ≠ some k
  s6 : vr ≠ [] → ∀ k, v1.ownBlock = some k → av.ownBlock ≠ some k
  s7 : vr ≠ [] → v1.ownBlock ≠ some rb
  s8 : pr ≠ [] → ∀ k, a1.ownBlock = some k → k < base
/-- Where a value's block is afterwards: where it was, or new. -/
def Fr (w : World) (v v' : Value) : Prop := ∀ k, v'.ownBlock = some k → v.ownBlock = some k ∨ w.heap.size ≤ k
theorem Fr.refl (w : World) (v : Value) : Fr w v v := fun k h => .inl h
theorem Fr.trans {w w' : World} {a b c : Value} (h : Fr w a b) (k : Fr w' b c) (hs : w.heap.size ≤ w'.heap.size) : Fr w a c := fun i hi => by
  rcases k i hi with hk | hk
  · exact h i hk
  · exact .inr (Nat.le_trans hs hk)
theorem Stp.fr {tb : Nat} {v v' : Value} {w w' : World} (h : Stp tb v v' w w') : Fr w v v' := fun k hk => by
  rcases h.2 with h2 | ⟨b, h2, hb⟩
  · exact .inl (h2 ▸ hk)
  · rw [hk] at h2; cases h2; exact .inr hb
theorem row_fr {w w' : World} {e : TypeId} {size : Nat} {v v' : Value} {k : Nat} {xs : List Value} (h : w'.ownsRow w.heap.size e size v' k xs) : Fr w v v' := fun i hi => .inr (row_lt h hi).2
section
variable {base : Nat} {w w' : World} {tb : Nat} {st st' : Int} {vs vs' : Vs} {vv vv' : Value} {ps ps' : List Bs} {av av' : Value} {rb : Nat} {sr sr' : Int} {vr vr' : Vs} {v1 v1' : Value} {pr pr' : List Bs} {a1 a1' : Value}
/-- The program's table moves. -/
theorem Two.tmove (h : Two base w tb st vs vv ps av rb sr vr v1 pr a1) (ht : TbX base w' tb st' vs' vv' ps' av') (hk : Kept (OwT tb vv) w w') (hf : Fr w vv vv') (hg : Fr w av av') : Two base w' tb st' vs' vv' ps' av' rb sr vr v1 pr a1 := by
  have hrl := fin_at h.r.box
  have hrn : ¬ OwT tb vv rb := by rintro (e | e); exact h.s1 e; exact h.s2 e
  refine ⟨ht, ⟨hk.at h.r.box hrn, h.r.vin.kept2 hk (fun hne b e o => ?_), h.r.ain.kept hk (fun hne b e hlt o => ?_), h.r.srt, h.r.len, h.r.nms, h.r.plen, h.r.plens⟩, h.hb, h.s1, ?_, ?_, h.s4, ?_, ?_, h.s7, h.s8⟩
  · rcases o with e2 | e2
    · exact h.s4 hne (e2 ▸ e)
    · exact h.s5 hne b e e2
  · have := h.s8 hne b e
    rcases o with e2 | e2
    · have := h.t.hb; omega
    · have := (row_lt h.t.row e2).2; omega
  · intro e; rcases hf _ e with e | e
    · exact h.s2 e
    · omega
  · intro e; rcases hg _ e with e | e
    · exact h.s3 e
    · omega
  · intro hne k hk2 e; rcases hf _ e with e | e
    · exact h.s5 hne k hk2 e
    · have := h.r.vin.own hne hk2; omega
  · intro hne k hk2 e; rcases hg _ e with e | e
    · exact h.s6 hne k hk2 e
    · have := h.r.vin.own hne hk2; omega
/-- The document's table moves. -/
theorem Two.rmove (h : Two base w tb st vs vv ps av rb sr vr v1 pr a1) (hk : Kept (· = rb) w w') (hr : RbX w' rb sr' vr' v1' pr' a1') (hv : vr' ≠ [] → (vr ≠ [] ∧ v1' = v1) ∨ ∀ k, v1'.ownBlock = some k → w.heap.size ≤ k) (ha : pr' ≠ [] → ∀ k, a1'.ownBlock = some k → k < base) : Two base w' tb st vs vv ps av rb sr' vr' v1' pr' a1' := by
  have hrl := fin_at h.r.box
  have ht := h.t.kept hk (fun e => h.s1 e.symm) (fun b e e2 => h.s2 (by rw [← e2]; exact e)) (fun b e e2 => h.s3 (by rw [← e2]; exact e))
  refine ⟨ht, hr, h.hb, h.s1, h.s2, h.s3, ?_, ?_, ?_, ?_, ha⟩
  · intro hne e
    rcases hv hne with ⟨h1, rfl⟩ | h1
    · exact h.s4 h1 e
    · have := h1 _ e; have := h.t.lt; omega
  · intro hne k hk2 e
    rcases hv hne with ⟨h1, rfl⟩ | h1
    · exact h.s5 h1 k hk2 e
    · have := h1 _ hk2; have := (row_lt h.t.row e).1; omega
  · intro hne k hk2 e
    rcases hv hne with ⟨h1, rfl⟩ | h1
    · exact h.s6 h1 k hk2 e
    · have := h1 _ hk2; have := (row_lt h.t.arow e).1; omega
  · intro hne e
    rcases hv hne with ⟨h1, rfl⟩ | h1
    · exact h.s7 h1 e
    · have := h1 _ e; omega
theorem Two.below (h : Two base w tb st vs vv ps av rb sr vr v1 pr a1) (hb : Below w.heap.size w w') : Two base w' tb st vs vv ps av rb sr vr v1 pr a1 := by
  have hrl := fin_at h.r.box
  refine h.rmove (kept_of_below hb |>.mono (fun k hk => hk)) ⟨(hb.block rb hrl).trans h.r.box, h.r.vin.below hb, h.r.ain.below hb, h.r.srt, h.r.len, h.r.nms, h.r.plen, h.r.plens⟩ (fun hne => .inl ⟨hne, rfl⟩) h.s8
/-- A second box with the same. -/
theorem Two.copy (h : Two base w tb st vs vv ps av rb sr vr v1 pr a1) (hbase : base ≤ w.heap.size) : Two base (w.alloc (.cells #[v1, a1, .int .i64 sr] 36)) tb st vs vv ps av w.heap.size sr vr v1 pr a1 := by
  have hb := one_below w (.cells #[v1, a1, .int .i64 sr] 36)
  have h2 := h.below hb
  have hl := h.t.lt
  refine ⟨h2.t, ⟨heap_alloc_new w _, h2.r.vin, h2.r.ain, h.r.srt, h.r.len, h.r.nms, h.r.plen, h.r.plens⟩, hbase, by omega, fun e => ?_, fun e => ?_, h.s4, h.s5, h.s6, fun hne e => ?_, h.s8⟩
  · have := (row_lt h.t.row e).1; omega
  · have := (row_lt h.t.arow e).1; omega
  · have := h.r.vin.own hne e; omega
end
end Go.Proofs.Ytdegkfnlafgheaa.Vr
namespace Go.Proofs.Ytdegkfnlafgheaa.Vr
open Go.RowKit
open PathM WdM VrM
open Go.Proofs.Ytdegkfnlafgheaa.Wd
set_option linter.unusedVariables false
def OwR (tb rb : Nat) (vv : Value) (k : Nat) : Prop := k = tb ∨ vv.ownBlock = some k ∨ k = rb
structure DI (base : Nat) (w wx : World) (tb rb : Nat) (a : ActB) (aa vv0 av0 : Value) (st : Int) (vs : Vs) (vv : Value) (ps : List Bs) (av : Value) (sr : Int) (vr : Vs) (v1 : Value) (pr : List Bs) (a1 : Value) (sr2 : Int) (vr2 : Vs) (v2 : Value) (pr2 : List Bs) (a2 : Value) : Prop where
  two1 : Two base wx tb st vs vv ps av rb sr vr v1 pr a1
  two2 : Two base wx tb st vs vv ps av (w.heap.size + 1) sr2 vr2 v2 pr2 a2
  act : wx.heap[w.heap.size]? = some (.cells (actV a aa).toArray 30 (0, 0))
  ok : ActOk wx a aa
  asm : a.args ≠ [] → ∀ k, aa.ownBlock = some k → k < base
  kept : Kept (OwR tb rb vv0) w wx
  fr : Fr w vv0 vv
  fra : Fr w av0 av
  rlt : rb < w.heap.size
  blt : base ≤ w.heap.size
  old : vr ≠ [] → ∀ k, v1.ownBlock = some k → k < w.heap.size
  new : vr2 ≠ [] → (vr ≠ [] ∧ v2 = v1) ∨ ∀ k, v2.ownBlock = some k → w.heap.size ≤ k
section
variable {base : Nat} {w wx w3 : World} {tb rb : Nat} {a : ActB} {aa vv0 av0 : Value} {st st' : Int} {vs vs' : Vs} {vv vv' : Value} {ps ps' : List Bs} {av av' : Value} {sr : Int} {vr : Vs} {v1 : Value} {pr : List Bs} {a1 : Value} {sr2 sr3 : Int} {vr2 vr3 : Vs} {v2 v3 : Value} {pr2 pr3 : List Bs} {a2 a3 : Value}
theorem ActOk.below (h : ActOk w a aa) (hb : Below w.heap.size w w3) : ActOk w3 a aa := ⟨⟨h.1.1.below hb, h.1.2⟩, h.2⟩
theorem ActOk.kept {S : Nat → Prop} (h : ActOk w a aa) (hk : Kept S w w3) (hs : a.args ≠ [] → ∀ k, aa.ownBlock = some k → ¬ S k) : ActOk w3 a aa := ⟨⟨h.1.1.kept hk (fun hne b e _ => hs hne b e), h.1.2⟩, h.2⟩
theorem DI.start (h : Two base w tb st vs vv ps av rb sr vr v1 pr a1) (ha : ActOk w a aa) (hsm : a.args ≠ [] → ∀ k, aa.ownBlock = some k → k < base) (hbase : base ≤ w.heap.size) : DI base w ((w.alloc (.cells (actV a aa).toArray 30)).alloc (.cells #[v1, a1, .int .i64 sr] 36)) tb rb a aa vv av st vs vv ps av sr vr v1 pr a1 sr vr v1 pr a1 := by
  have hb1 := one_below w (.cells (actV a aa).toArray 30)
  have hsz : (w.alloc (.cells (actV a aa).toArray 30)).heap.size = w.heap.size + 1 := by simp
  have hb2 := one_below (w.alloc (.cells (actV a aa).toArray 30)) (.cells #[v1, a1, .int .i64 sr] 36)
  have h1 := h.below hb1
  have h2 := h1.copy (by omega)
  rw [hsz] at h2
  refine ⟨h1.below hb2, h2, two_old _ _ _, (ha.below hb1).below hb2, hsm, kept_of_below (hb1.trans (hb2.mono hb1.size)), Fr.refl _ _, Fr.refl _ _, fin_at h.r.box, hbase, fun hne k hk => h.r.vin.own hne hk, fun hne => .inl ⟨hne, rfl⟩⟩
/-- The local copy of the document's table moves. -/
theorem DI.rput (h : DI base w wx tb rb a aa vv0 av0 st vs vv ps av sr vr v1 pr a1 sr2 vr2 v2 pr2 a2) (hb : Below wx.heap.size wx w3) (hv : VsIn w3 v3 vr3) (ha : ArIn w3 a3 pr3) (hs : Srt vr3) (hl : vr3.length ≤ 64) (hn : Nms vr3) (hp : pr3.length ≤ 256) (hps : ∀ x ∈ pr3, x.length ≤ 4096) (hf : vr3 ≠ [] → (vr2 ≠ [] ∧ v3 = v2) ∨ ∀ k, v3.ownBlock = some k → wx.heap.size ≤ k) (hsm : pr3 ≠ [] → ∀ k, a3.ownBlock = some k → k < base) :
    DI base w (put3 w3 (w.heap.size + 1) v3 a3 (.int .i64 sr3)) tb rb a aa vv0 av0 st vs vv ps av sr vr v1 pr a1 sr3 vr3 v3 pr3 a3 := by
  have t1 := h.two1.below hb
  have t2 := h.two2.below hb
  obtain ⟨A, c, e1, _⟩ := h.two2.r.vin.form
  obtain ⟨A', c', e2, _⟩ := h.two2.r.ain.form
  have hT : Tb3 w3 (w.heap.size + 1) A vr2.length c A' pr2.length c' sr2 := by have := t2.r.box; rw [e1, e2] at this; exact this
  have hk : Kept (fun k => k = w.heap.size + 1) w3 (put3 w3 (w.heap.size + 1) v3 a3 (.int .i64 sr3)) := (Kept.setCell (S := fun k => k = w.heap.size + 1) ⟨w.heap.size + 1, 0, none⟩ _ rfl).trans ((Kept.setCell (S := fun k => k = w.heap.size + 1) ⟨w.heap.size + 1, 1, none⟩ _ rfl).trans (Kept.setCell (S := fun k => k = w.heap.size + 1) ⟨w.heap.size + 1, 2, none⟩ _ rfl))
  have hws := h.kept.size
  have ht := t1.t.kept hk (fun e => t2.s1 e.symm) (fun b e e2 => t2.s2 (by rw [← e2]; exact e)) (fun b e e2 => t2.s3 (by rw [← e2]; exact e))
  refine ⟨⟨ht, ⟨hk.at t1.r.box (by have := h.rlt; omega), t1.r.vin.kept2 hk (fun hne b e e2 => by have := h.old hne b e; omega), t1.r.ain.kept hk (fun hne b e _ e2 => by have := t1.s8 hne b e; have := h.blt; omega), t1.r.srt, t1.r.len, t1.r.nms, t1.r.plen, t1.r.plens⟩, t1.hb, t1.s1, t1.s2, t1.s3, t1.s4, t1.s5, t1.s6, t1.s7, t1.s8⟩, ?_, hk.at ((hb.block _ (fin_at h.act)).trans h.act) (by omega), (h.ok.below hb).kept hk (fun hne k e e2 => by have := h.asm hne k e; have := h.blt; omega), h.asm, ?_, h.fr, h.fra, h.rlt, h.blt, h.old, ?_⟩
  · exact h.two2.rmove ((kept_of_below hb).trans hk) ⟨put3_blk hT _ _ _, hv.put3 hT _ _ _, ha.put3 hT _ _ _, hs, hl, hn, hp, hps⟩ hf hsm
  · exact (h.kept.then (kept_of_below hb) (fun i hi hs => hs)).then hk (fun i hi e => by omega)
  · intro hne
    rcases hf hne with ⟨h1, rfl⟩ | hh
    · exact h.new h1
    · exact .inr (fun k hk2 => Nat.le_trans hws (hh k hk2))
/-- The program's table moves. -/
theorem DI.tmove (h : DI base w wx tb rb a aa vv0 av0 st vs vv ps av sr vr v1 pr a1 sr2 vr2 v2 pr2 a2) (ht : TbX base w3 tb st' vs' vv' ps' av') (hk : Kept (OwT tb vv) wx w3) (hf : Fr wx vv vv') (hg : Fr wx av av') : DI base w w3 tb rb a aa vv0 av0 st' vs' vv' ps' av' sr vr v1 pr a1 sr2 vr2 v2 pr2 a2 := by
  have htl := h.two1.t.lt
  refine ⟨h.two1.tmove ht hk hf hg, h.two2.tmove ht hk hf hg, hk.at h.act ?_, h.ok.kept hk ?_, h.asm, h.kept.then hk ?_, h.fr.trans hf h.kept.size, h.fra.trans hg h.kept.size, h.rlt, h.blt, h.old, h.new⟩
  · rintro (e | e)
    · have h1 := h.act
      have h2 := h.two1.t.box
      rw [e] at h1
      rw [h1] at h2
      cases h2
    · have h1 := h.act
      rcases h.two1.t.row.2 with ⟨h0, _⟩ | ⟨g, cap, cur, hv, _, hh, _⟩
      · rw [h0] at e; cases e
      · rw [hv] at e
        obtain rfl : g = w.heap.size := by simpa [Value.ownBlock] using e
        rw [h1] at hh
        cases hh
  · intro hne k e o
    have := h.asm hne k e
    rcases o with e2 | e2
    · have := h.two1.t.hb; omega
    · have := (row_lt h.two1.t.row e2).2; omega
  · intro i hi o
    rcases o with e2 | e2
    · exact .inl e2
    · rcases h.fr i e2 with e3 | e3
      · exact .inr (.inl e3)
      · omega
/-- The document's table gets what the local one has. -/
theorem DI.fin (h : DI base w wx tb rb a aa vv0 av0 st vs vv ps av sr vr v1 pr a1 sr2 vr2 v2 pr2 a2) : Two base (put3 wx rb v2 a2 (.int .i64 sr2)) tb st vs vv ps av rb sr2 vr2 v2 pr2 a2 ∧ Kept (OwR tb rb vv0) w (put3 wx rb v2 a2 (.int .i64 sr2)) ∧ Fr w vv0 vv ∧ Fr w av0 av := by
  obtain ⟨A, c, e1, _⟩ := h.two1.r.vin.form
  obtain ⟨A', c', e2, _⟩ := h.two1.r.ain.form
  have hT : Tb3 wx rb A vr.length c A' pr.length c' sr := by have := h.two1.r.box; rw [e1, e2] at this; exact this
  have hk : Kept (fun k => k = rb) wx (put3 wx rb v2 a2 (.int .i64 sr2)) := (Kept.setCell (S := fun k => k = rb) ⟨rb, 0, none⟩ _ rfl).trans ((Kept.setCell (S := fun k => k = rb) ⟨rb, 1, none⟩ _ rfl).trans (Kept.setCell (S := fun k => k = rb) ⟨rb, 2, none⟩ _ rfl))
  have t1 := h.two1
  have t2 := h.two2
  have ht := t1.t.kept hk (fun e => t1.s1 e.symm) (fun b e e2 => t1.s2 (by rw [← e2]; exact e)) (fun b e e2 => t1.s3 (by rw [← e2]; exact e))
  refine ⟨⟨ht, ⟨put3_blk hT _ _ _, t2.r.vin.put3 hT _ _ _, t2.r.ain.put3 hT _ _ _, t2.r.srt, t2.r.len, t2.r.nms, t2.r.plen, t2.r.plens⟩, t1.hb, t1.s1, t1.s2, t1.s3, t2.s4, t2.s5, t2.s6, ?_, t2.s8⟩, h.kept.then hk (fun i hi e => .inr (.inr e)), h.fr, h.fra⟩
  intro hne e
  rcases h.new hne with ⟨h1, rfl⟩ | hh
  · exact t1.s7 h1 e
  · have := hh _ e; have := h.rlt; omega
end
end Go.Proofs.Ytdegkfnlafgheaa.Vr
namespace Go.Proofs.Ytdegkfnlafgheaa.Vr
open Go.RowKit
open PathM WdM VrM
open Go.Proofs.Ytdegkfnlafgheaa.Wd
set_option linter.unusedVariables false
structure StD where
  vs : Vs
  ps : List Bs
  st : Int
def shOk (ps : List Bs) (n : Int) : Bool := decide (0 ≤ n ∧ n ≤ (ps.length : Int))
/-- What a call makes of a table, and its code. -/
def stD (s : StD) (a : ActB) : StD × Int :=
  if a.kind = 0 then (⟨leftS s.vs (setL s.vs a.name a.val), s.ps, s.st⟩, codeS (setL s.vs a.name a.val))
  else if a.kind = 1 then (⟨delV s.vs a.name, s.ps, s.st⟩, 0)
  else if a.kind = 2 then (⟨s.vs, if argsOk a.args then a.args else s.ps, s.st⟩, if argsOk a.args then 0 else 2)
  else if a.kind = 3 then (⟨s.vs, if shOk s.ps a.n then s.ps.drop a.n.toNat else s.ps, s.st⟩, if shOk s.ps a.n then 1 else 0)
  else (⟨s.vs, s.ps, a.n⟩, 0)
def DoesPost (base tb rb : Nat) (vv av : Value) (s r : StD) (b : Bool) (w : World) (e : Ending) (w' : World) : Prop := e = .returned (.bool b) ∧ ∃ vv' av' v1' a1', Two base w' tb s.st s.vs vv' s.ps av' rb r.st r.vs v1' r.ps a1' ∧ Kept (OwR tb rb vv) w w' ∧ Fr w vv vv' ∧ Fr w av av'
theorem does_p {base tb rb : Nat} {vv av vv0 av0 : Value} {b : Bool} {w wx : World} {a : ActB} {aa : Value} {st : Int} {vs : Vs} {ps : List Bs} {sr : Int} {vr : Vs} {v1 : Value} {pr : List Bs} {a1 : Value} {sr2 : Int} {vr2 : Vs} {v2 : Value} {pr2 : List Bs} {a2 : Value} (h : DI base w wx tb rb a aa vv0 av0 st vs vv ps av sr vr v1 pr a1 sr2 vr2 v2 pr2 a2) :
    DoesPost base tb rb vv0 av0 ⟨vs, ps, st⟩ ⟨vr2, pr2, sr2⟩ b w (.returned (.bool b)) (put3 wx rb v2 a2 (.int .i64 sr2)) := by
  obtain ⟨k1, k2, k3, k4⟩ := h.fin
  exact ⟨rfl, vv, av, v2, a2, k1, k2, k3, k4⟩
theorem DI.facts {base : Nat} {w wx : World} {tb rb : Nat} {kind n : Int} {name val : Bs} {args : List Bs} {aa vv0 av0 : Value} {st : Int} {vs : Vs} {vv : Value} {ps : List Bs} {av : Value} {sr : Int} {vr : Vs} {v1 : Value} {pr : List Bs} {a1 : Value} {sr2 : Int} {vr2 : Vs} {v2 : Value} {pr2 : List Bs} {a2 : Value} (h : DI base w wx tb rb ⟨kind, name, val, args, n⟩ aa vv0 av0 st vs vv ps av sr vr v1 pr a1 sr2 vr2 v2 pr2 a2) :
    (wx.cell? ⟨w.heap.size, 0, none⟩ = some (.int .i64 kind) ∧ wx.cell? ⟨w.heap.size, 1, none⟩ = some (.string (nm name)) ∧ wx.cell? ⟨w.heap.size, 2, none⟩ = some (.string (nm val)) ∧ wx.cell? ⟨w.heap.size, 3, none⟩ = some aa ∧ wx.cell? ⟨w.heap.size, 4, none⟩ = some (.int .i64 n)) ∧
    (wx.cell? ⟨w.heap.size + 1, 0, none⟩ = some v2 ∧ wx.cell? ⟨w.heap.size + 1, 1, none⟩ = some a2 ∧ wx.cell? ⟨w.heap.size + 1, 2, none⟩ = some (.int .i64 sr2)) ∧
    (wx.frozen? ⟨w.heap.size + 1, 0, none⟩ = false ∧ wx.frozen? ⟨w.heap.size + 1, 1, none⟩ = false ∧ wx.frozen? ⟨w.heap.size + 1, 2, none⟩ = false) ∧
    (wx.cell? ⟨rb, 0, none⟩ = some v1 ∧ wx.cell? ⟨rb, 1, none⟩ = some a1 ∧ wx.cell? ⟨rb, 2, none⟩ = some (.int .i64 sr)) ∧
    (wx.frozen? ⟨rb, 0, none⟩ = false ∧ wx.frozen? ⟨rb, 1, none⟩ = false ∧ wx.frozen? ⟨rb, 2, none⟩ = false) ∧
    (w.heap.size < wx.heap.size ∧ w.heap.size + 1 < wx.heap.size ∧ rb < wx.heap.size ∧ tb < wx.heap.size) ∧
    (wx.cell? ⟨tb, 0, none⟩ = some (.int .i64 st) ∧ wx.frozen? ⟨tb, 0, none⟩ = false) :=
  ⟨⟨cell_blk h.act 0, cell_blk h.act 1, cell_blk h.act 2, cell_blk h.act 3, cell_blk h.act 4⟩, ⟨cell_blk h.two2.r.box 0, cell_blk h.two2.r.box 1, cell_blk h.two2.r.box 2⟩, ⟨froz_blk h.two2.r.box 0, froz_blk h.two2.r.box 1, froz_blk h.two2.r.box 2⟩, ⟨cell_blk h.two1.r.box 0, cell_blk h.two1.r.box 1, cell_blk h.two1.r.box 2⟩, ⟨froz_blk h.two1.r.box 0, froz_blk h.two1.r.box 1, froz_blk h.two1.r.box 2⟩, ⟨fin_at h.act, fin_at h.two2.r.box, fin_at h.two1.r.box, h.two1.t.lt⟩, cell_blk h.two1.t.box 0, froz_blk h.two1.t.box 0⟩
set_option maxRecDepth 100000 in
set_option maxHeartbeats 3200000 in
theorem does_1 (base tb rb : Nat) (st : Int) (vs : Vs) (vv av : Value) (ps : List Bs) (sr : Int) (vr : Vs) (v1 : Value) (pr : List Bs) (a1 : Value) (name val : Bs) (args : List Bs) (n : Int) (aa : Value) (w : World) (h : Two base w tb st vs vv ps av rb sr vr v1 pr a1) (ha : ActOk w ⟨1, name, val, args, n⟩ aa) (hsm : args ≠ [] → ∀ k, aa.ownBlock = some k → k < base) (hbase : base ≤ w.heap.size) :
    Calls Try.prog 12 #[.pointer (some ⟨tb, 0, none⟩), .pointer (some ⟨rb, 0, none⟩), .agg #[.int .i64 (1), .string (nm name), .string (nm val), aa, .int .i64 n]] w (DoesPost base tb rb vv av ⟨delV vs name, ps, st⟩ ⟨delV vr name, pr, sr⟩ true w) := by
  obtain ⟨A1, c1, rfl, _⟩ := h.r.vin.form
  obtain ⟨A2, c2, rfl, _⟩ := h.r.ain.form
  obtain ⟨A5, c5, rfl, _⟩ := ha.1.1.form
  obtain ⟨W2, hW2⟩ : ∃ W2, W2 = (w.alloc (.cells #[.int .i64 1, .string (nm name), .string (nm val), .slice A5 args.length c5, .int .i64 n] 30)).alloc (.cells #[.slice A1 vr.length c1, .slice A2 pr.length c2, .int .i64 sr] 36) := ⟨_, rfl⟩
  have HS : Hid (DI base w W2 tb rb ⟨1, name, val, args, n⟩ (.slice A5 args.length c5) vv av st vs vv ps av sr vr (.slice A1 vr.length c1) pr (.slice A2 pr.length c2) sr vr (.slice A1 vr.length c1) pr (.slice A2 pr.length c2)) := Lib.hid (by rw [hW2]; exact DI.start h ha hsm hbase)
  have r0 := cell_blk h.r.box 0
  have r1 := cell_blk h.r.box 1
  have r2 := cell_blk h.r.box 2
  have rz := fin_at h.r.box
  simp at r0 r1 r2
  have HW2 := Lib.hid hW2
  have HBD : Hid (Below W2.heap.size W2 W2.drew) := Lib.hid (Below.refl _ _).drew
  have HR : Hid (Calls Try.prog 29 #[.agg #[.slice A1 vr.length c1, .slice A2 pr.length c2, .int .i64 sr], .string (nm name)] W2.drew fun e w' => ∃ A3 n3 c3, e = .returned (.agg #[.slice A3 n3 c3, .slice A2 pr.length c2, .int .i64 sr]) ∧ DI base w (put3 w' (w.heap.size + 1) (.slice A3 n3 c3) (.slice A2 pr.length c2) (.int .i64 sr)) tb rb ⟨1, name, val, args, n⟩ (.slice A5 args.length c5) vv av st vs vv ps av sr vr (.slice A1 vr.length c1) pr (.slice A2 pr.length c2) sr (delV vr name) (.slice A3 n3 c3) pr (.slice A2 pr.length c2) ∧ Below W2.heap.size W2 w') := Lib.hid ((runset_any vr name _ A2 pr.length c2 sr W2.drew (HS.out.two2.r.vin.below HBD.out) HS.out.two2.r.len).mono (by
    rintro e w' ⟨hb, v3, rfl, hv, hf⟩
    obtain ⟨A3, c3, rfl, _⟩ := hv.form
    have hb2 := HBD.out.trans hb
    exact ⟨A3, _, c3, rfl, HS.out.rput hb2 hv (HS.out.two2.r.ain.below hb2) (del_srt HS.out.two2.r.srt) (by have := HS.out.two2.r.len; have := del_length (name := name) HS.out.two2.r.srt; split at this <;> omega) (nms_del HS.out.two2.r.nms) HS.out.two2.r.plen HS.out.two2.r.plens (fun _ => .inr hf) HS.out.two2.s8, hb2⟩))
  have HT : Hid (∀ W A3 n3 c3, DI base w W tb rb ⟨1, name, val, args, n⟩ (.slice A5 args.length c5) vv av st vs vv ps av sr vr (.slice A1 vr.length c1) pr (.slice A2 pr.length c2) sr (delV vr name) (.slice A3 n3 c3) pr (.slice A2 pr.length c2) → Calls Try.prog 19 #[.pointer (some ⟨tb, 0, none⟩), .string (nm name)] W fun e w' => e = .returned (.tuple #[]) ∧ ∃ vv', DI base w w' tb rb ⟨1, name, val, args, n⟩ (.slice A5 args.length c5) vv av st (delV vs name) vv' ps av sr vr (.slice A1 vr.length c1) pr (.slice A2 pr.length c2) sr (delV vr name) (.slice A3 n3 c3) pr (.slice A2 pr.length c2)) := Lib.hid (fun W A3 n3 c3 hd => (unset_any base tb st vs vv av ps name W hd.two1.t).mono (by
    rintro e w' ⟨rfl, vv', h1, h2⟩
    exact ⟨rfl, vv', hd.tmove h1 h2.1 h2.fr (Fr.refl _ _)⟩))
  have HSF : Hid (∀ w', Below W2.heap.size W2 w' → (w'.cell? ⟨w.heap.size + 1, 0, none⟩ = some (.slice A1 vr.length c1) ∧ w'.cell? ⟨w.heap.size + 1, 1, none⟩ = some (.slice A2 pr.length c2) ∧ w'.cell? ⟨w.heap.size + 1, 2, none⟩ = some (.int .i64 sr)) ∧ (w'.frozen? ⟨w.heap.size + 1, 0, none⟩ = false ∧ w'.frozen? ⟨w.heap.size + 1, 1, none⟩ = false ∧ w'.frozen? ⟨w.heap.size + 1, 2, none⟩ = false) ∧ w.heap.size + 1 < w'.heap.size) := Lib.hid (fun w' hb => by
    have hx := (hb.block _ (fin_at HS.out.two2.r.box)).trans HS.out.two2.r.box
    exact ⟨⟨cell_blk hx 0, cell_blk hx 1, cell_blk hx 2⟩, ⟨froz_blk hx 0, froz_blk hx 1, froz_blk hx 2⟩, fin_at hx⟩)
  clear h ha hsm hW2
  go_enter Try.func12, Try.ntmps12
  go_wp2_with fail
  rw [← HW2.out]
  obtain ⟨⟨xpa, xpb, xpc, xpd, xpe⟩, ⟨xpf, xpg, xph⟩, ⟨xpi, xpj, xpk⟩, ⟨xpl, xpm, xpn⟩, ⟨xpo, xpp, xpq⟩, ⟨xpr, xps, xpt, xpu⟩, xpv, xpw⟩ := HS.out.facts
  go_cut [] from 46 to 51 (fun wx => ∃ A3 n3 c3, Hid (DI base w wx tb rb ⟨1, name, val, args, n⟩ (.slice A5 args.length c5) vv av st vs vv ps av sr vr (.slice A1 vr.length c1) pr (.slice A2 pr.length c2) sr (delV vr name) (.slice A3 n3 c3) pr (.slice A2 pr.length c2)))
  case first =>
    go_region_law (first | (go_simp; go_at_call 29; refine (HR.out).mono ?_; rintro e w3 ⟨A3, n3, c3, rfl, hd, hb⟩; obtain ⟨⟨y1, y2, y3⟩, ⟨y4, y5, y6⟩, y7⟩ := HSF.out w3 hb; have HD3 := Lib.hid hd; clear hd hb))
    all_goals
      go_wp2_with fail
      go_meet
      exact ⟨_, _, _, HD3⟩
  case rest =>
    clear xpa xpb xpc xpd xpe xpf xpg xph xpi xpj xpk xpl xpm xpn xpo xpp xpq xpr xps xpt xpu xpv xpw
    obtain ⟨A3, n3, c3, HD⟩ := hcut
    obtain ⟨⟨xqa, xqb, xqc, xqd, xqe⟩, ⟨xqf, xqg, xqh⟩, ⟨xqi, xqj, xqk⟩, ⟨xql, xqm, xqn⟩, ⟨xqo, xqp, xqq⟩, ⟨xqr, xqs, xqt, xqu⟩, xqv, xqw⟩ := HD.out.facts
    go_wp2_with fail
    refine (HT.out _ _ _ _ HD.out).mono ?_
    rintro e W4 ⟨rfl, vv', hd4⟩
    have HD4 := Lib.hid hd4
    clear hd4 xqa xqb xqc xqd xqe xqf xqg xqh xqi xqj xqk xql xqm xqn xqo xqp xqq xqr xqs xqt xqu xqv xqw
    obtain ⟨⟨xsa, xsb, xsc, xsd, xse⟩, ⟨xsf, xsg, xsh⟩, ⟨xsi, xsj, xsk⟩, ⟨xsl, xsm, xsn⟩, ⟨xso, xsp, xsq⟩, ⟨xsr, xss, xst, xsu⟩, xsv, xsw⟩ := HD4.out.facts
    go_wp2_with fail
    go_ret
    exact does_p HD4.out
end Go.Proofs.Ytdegkfnlafgheaa.Vr
namespace Go.Proofs.Ytdegkfnlafgheaa.Vr
open Go.RowKit
open PathM WdM VrM
open Go.Proofs.Ytdegkfnlafgheaa.Wd
set_option linter.unusedVariables false
set_option maxRecDepth 100000 in
set_option maxHeartbeats 3200000 in
theorem does_0 (base tb rb : Nat) (st : Int) (vs : Vs) (vv av : Value) (ps : List Bs) (sr : Int) (vr : Vs) (v1 : Value) (pr : List Bs) (a1 : Value) (name val : Bs) (args : List Bs) (n : Int) (aa : Value) (w : World) (h : Two base w tb st vs vv ps av rb sr vr v1 pr a1) (ha : ActOk w ⟨0, name, val, args, n⟩ aa) (hsm : args ≠ [] → ∀ k, aa.ownBlock = some k → k < base) (hbase : base ≤ w.heap.size) :
    Calls Try.prog 12 #[.pointer (some ⟨tb, 0, none⟩), .pointer (some ⟨rb, 0, none⟩), .agg #[.int .i64 (0), .string (nm name), .string (nm val), aa, .int .i64 n]] w (DoesPost base tb rb vv av ⟨leftS vs (setL vs name val), ps, st⟩ ⟨leftS vr (setL vr name val), pr, sr⟩ (codeS (setL vs name val) == codeS (setL vr name val)) w) := by
  have HN1 := Lib.hid ha.2.1
  have HN2 := Lib.hid ha.2.2.1
  obtain ⟨A1, c1, rfl, _⟩ := h.r.vin.form
  obtain ⟨A2, c2, rfl, _⟩ := h.r.ain.form
  obtain ⟨A5, c5, rfl, _⟩ := ha.1.1.form
  obtain ⟨W2, hW2⟩ : ∃ W2, W2 = (w.alloc (.cells #[.int .i64 0, .string (nm name), .string (nm val), .slice A5 args.length c5, .int .i64 n] 30)).alloc (.cells #[.slice A1 vr.length c1, .slice A2 pr.length c2, .int .i64 sr] 36) := ⟨_, rfl⟩
  have HS : Hid (DI base w W2 tb rb ⟨0, name, val, args, n⟩ (.slice A5 args.length c5) vv av st vs vv ps av sr vr (.slice A1 vr.length c1) pr (.slice A2 pr.length c2) sr vr (.slice A1 vr.length c1) pr (.slice A2 pr.length c2)) := Lib.hid (by rw [hW2]; exact DI.start h ha hsm hbase)
  have r0 := cell_blk h.r.box 0
  have r1 := cell_blk h.r.box 1
  have r2 := cell_blk h.r.box 2
  have rz := fin_at h.r.box
  simp at r0 r1 r2
  have HW2 := Lib.hid hW2
  have HBD : Hid (Below W2.heap.size W2 W2.drew) := Lib.hid (Below.refl _ _).drew
  have HR : Hid (Calls Try.prog 27 #[.agg #[.slice A1 vr.length c1, .slice A2 pr.length c2, .int .i64 sr], .string (nm name), .string (nm val)] W2.drew fun e w' => ∃ A3 n3 c3, e = .returned (.tuple #[.agg #[.slice A3 n3 c3, .slice A2 pr.length c2, .int .i64 sr], .int .i64 (codeS (setL vr name val))]) ∧ DI base w (put3 w' (w.heap.size + 1) (.slice A3 n3 c3) (.slice A2 pr.length c2) (.int .i64 sr)) tb rb ⟨0, name, val, args, n⟩ (.slice A5 args.length c5) vv av st vs vv ps av sr vr (.slice A1 vr.length c1) pr (.slice A2 pr.length c2) sr (leftS vr (setL vr name val)) (.slice A3 n3 c3) pr (.slice A2 pr.length c2) ∧ Below W2.heap.size W2 w') := Lib.hid ((rset_any vr name val _ A2 pr.length c2 sr W2.drew (HS.out.two2.r.vin.below HBD.out) HS.out.two2.r.srt HS.out.two2.r.len (by have := HN1.out; simp at this; omega) (by have := HN2.out; simp at this; omega)).mono (by
    intro e w' hp
    unfold RSetPost at hp
    obtain ⟨hb, hp⟩ := hp
    have hb2 := HBD.out.trans hb
    cases hm : setL vr name val with
    | ok v =>
      rw [hm] at hp
      obtain ⟨v3, he, hv, hf⟩ := hp
      obtain ⟨A3, c3, rfl, _⟩ := hv.form
      obtain ⟨q1, q2⟩ := setL_ok hm HS.out.two2.r.srt HS.out.two2.r.len
      exact ⟨A3, _, c3, he, HS.out.rput hb2 hv (HS.out.two2.r.ain.below hb2) q1 q2 (setL_nms hm HS.out.two2.r.nms) HS.out.two2.r.plen HS.out.two2.r.plens (fun _ => .inr hf) HS.out.two2.s8, hb2⟩
    | error er =>
      rw [hm] at hp
      obtain ⟨he, _⟩ := hp
      exact ⟨A1, _, c1, he, HS.out.rput hb2 (HS.out.two2.r.vin.below hb2) (HS.out.two2.r.ain.below hb2) HS.out.two2.r.srt HS.out.two2.r.len HS.out.two2.r.nms HS.out.two2.r.plen HS.out.two2.r.plens (fun hne => .inl ⟨hne, rfl⟩) HS.out.two2.s8, hb2⟩))
  have HT : Hid (∀ W A3 n3 c3, DI base w W tb rb ⟨0, name, val, args, n⟩ (.slice A5 args.length c5) vv av st vs vv ps av sr vr (.slice A1 vr.length c1) pr (.slice A2 pr.length c2) sr (leftS vr (setL vr name val)) (.slice A3 n3 c3) pr (.slice A2 pr.length c2) → Calls Try.prog 17 #[.pointer (some ⟨tb, 0, none⟩), .string (nm name), .string (nm val)] W fun e w' => e = .returned (.int .i64 (codeS (setL vs name val))) ∧ ∃ vv', DI base w w' tb rb ⟨0, name, val, args, n⟩ (.slice A5 args.length c5) vv av st (leftS vs (setL vs name val)) vv' ps av sr vr (.slice A1 vr.length c1) pr (.slice A2 pr.length c2) sr (leftS vr (setL vr name val)) (.slice A3 n3 c3) pr (.slice A2 pr.length c2)) := Lib.hid (fun W A3 n3 c3 hd => (set_both base tb st vs vv av ps name val W hd.two1.t (Nat.le_trans hd.blt hd.kept.size) (by have := HN1.out; simp at this; omega) (by have := HN2.out; simp at this; omega)).mono (by
    rintro e w' ⟨rfl, vv', h1, h2⟩
    exact ⟨rfl, vv', hd.tmove h1 h2.1 h2.fr (Fr.refl _ _)⟩))
  have HSF : Hid (∀ w', Below W2.heap.size W2 w' → (w'.cell? ⟨w.heap.size + 1, 0, none⟩ = some (.slice A1 vr.length c1) ∧ w'.cell? ⟨w.heap.size + 1, 1, none⟩ = some (.slice A2 pr.length c2) ∧ w'.cell? ⟨w.heap.size + 1, 2, none⟩ = some (.int .i64 sr)) ∧ (w'.frozen? ⟨w.heap.size + 1, 0, none⟩ = false ∧ w'.frozen? ⟨w.heap.size + 1, 1, none⟩ = false ∧ w'.frozen? ⟨w.heap.size + 1, 2, none⟩ = false) ∧ w.heap.size + 1 < w'.heap.size) := Lib.hid (fun w' hb => by
    have hx := (hb.block _ (fin_at HS.out.two2.r.box)).trans HS.out.two2.r.box
    exact ⟨⟨cell_blk hx 0, cell_blk hx 1, cell_blk hx 2⟩, ⟨froz_blk hx 0, froz_blk hx 1, froz_blk hx 2⟩, fin_at hx⟩)
  clear h ha hsm hW2
  generalize codeS (setL vs name val) = et at *
  generalize codeS (setL vr name val) = er at *
  generalize leftS vs (setL vs name val) = vs2 at *
  generalize leftS vr (setL vr name val) = vr2 at *
  go_enter Try.func12, Try.ntmps12
  go_wp2_with fail
  rw [← HW2.out]
  obtain ⟨⟨xpa, xpb, xpc, xpd, xpe⟩, ⟨xpf, xpg, xph⟩, ⟨xpi, xpj, xpk⟩, ⟨xpl, xpm, xpn⟩, ⟨xpo, xpp, xpq⟩, ⟨xpr, xps, xpt, xpu⟩, xpv, xpw⟩ := HS.out.facts
  go_cut [8] from 27 to 37 (fun x8 wx => x8 = .int .i64 er ∧ ∃ A3 n3 c3, Hid (DI base w wx tb rb ⟨0, name, val, args, n⟩ (.slice A5 args.length c5) vv av st vs vv ps av sr vr (.slice A1 vr.length c1) pr (.slice A2 pr.length c2) sr vr2 (.slice A3 n3 c3) pr (.slice A2 pr.length c2)))
  case first =>
    go_region_law (first | (go_simp; go_at_call 27; refine (HR.out).mono ?_; rintro e w3 ⟨A3, n3, c3, rfl, hd, hb⟩; obtain ⟨⟨y1, y2, y3⟩, ⟨y4, y5, y6⟩, y7⟩ := HSF.out w3 hb; have HD3 := Lib.hid hd; clear hd hb))
    all_goals
      go_wp2_with fail
      go_meet
      exact ⟨rfl, _, _, _, HD3⟩
  case rest =>
    clear xpa xpb xpc xpd xpe xpf xpg xph xpi xpj xpk xpl xpm xpn xpo xpp xpq xpr xps xpt xpu xpv xpw
    obtain ⟨rfl, A3, n3, c3, HD⟩ := hcut
    obtain ⟨⟨xqa, xqb, xqc, xqd, xqe⟩, ⟨xqf, xqg, xqh⟩, ⟨xqi, xqj, xqk⟩, ⟨xql, xqm, xqn⟩, ⟨xqo, xqp, xqq⟩, ⟨xqr, xqs, xqt, xqu⟩, xqv, xqw⟩ := HD.out.facts
    go_wp2_with fail
    refine (HT.out _ _ _ _ HD.out).mono ?_
    rintro e W4 ⟨rfl, vv', hd4⟩
    have HD4 := Lib.hid hd4
    clear hd4 xqa xqb xqc xqd xqe xqf xqg xqh xqi xqj xqk xql xqm xqn xqo xqp xqq xqr xqs xqt xqu xqv xqw
    obtain ⟨⟨xsa, xsb, xsc, xsd, xse⟩, ⟨xsf, xsg, xsh⟩, ⟨xsi, xsj, xsk⟩, ⟨xsl, xsm, xsn⟩, ⟨xso, xsp, xsq⟩, ⟨xsr, xss, xst, xsu⟩, xsv, xsw⟩ := HD4.out.facts
    go_wp2_with fail
    go_ret
    exact does_p HD4.out
end Go.Proofs.Ytdegkfnlafgheaa.Vr
namespace Go.Proofs.Ytdegkfnlafgheaa.Vr
open Go.RowKit
open PathM WdM VrM
open Go.Proofs.Ytdegkfnlafgheaa.Wd
set_option linter.unusedVariables false
def codeA (qs : List Bs) : Int := if argsOk qs then 0 else 2
theorem setArgs_both (base tb : Nat) (st : Int) (vs : Vs) (vv av : Value) (ps qs : List Bs) (v : Value) (w : World) (h : TbX base w tb st vs vv ps av) (hbase : base ≤ w.heap.size) (hv : ArX w v qs) :
    Calls Try.prog 25 #[.pointer (some ⟨tb, 0, none⟩), v] w fun e w' => e = .returned (.int .i64 (codeA qs)) ∧ ∃ av', TbX base w' tb st vs vv (if argsOk qs then qs else ps) av' ∧ Kept (OwT tb vv) w w' ∧ Fr w av av' := by
  have hl : ∀ x ∈ qs, x.length ≤ 4611686018427387904 := fun x hx => Nat.le_trans (hv.2.2 x hx) (by omega)
  unfold codeA argsOk
  by_cases h1 : qs.length ≤ 256
  · cases h2 : tooBig qs with
    | false =>
      rw [decide_eq_true h1]
      refine (setArgs_ok tb st vv av ps qs v w h.t hv.1 h1 hl h2).mono ?_
      rintro e w' ⟨rfl, av', k1, k2, k3⟩
      exact ⟨rfl, av', (h.args hbase k1 k2 k3).1, k3.mono (fun k hk => .inl hk), row_fr k2⟩
    | true =>
      rw [decide_eq_true h1]
      refine (setArgs_long tb st vv av ps qs v w h.t hv.1 h1 hl h2).mono ?_
      rintro e w' ⟨rfl, q, rfl⟩
      exact ⟨rfl, av, h.below (below_drewN' (Below.refl _ _) q), kept_of_below (below_drewN' (Below.refl _ _) q), Fr.refl _ _⟩
  · rw [decide_eq_false h1]
    obtain ⟨A, c, hf, _⟩ := hv.1.form
    rw [hf]
    refine (setArgs_many tb st vv av ps A qs.length c w h.t (by omega) (by have := hv.2.1; omega)).mono ?_
    rintro e w' ⟨rfl, rfl⟩
    exact ⟨rfl, av, h, Kept.refl _ _, Fr.refl _ _⟩
set_option maxRecDepth 100000 in
set_option maxHeartbeats 3200000 in
theorem does_2 (base tb rb : Nat) (st : Int) (vs : Vs) (vv av : Value) (ps : List Bs) (sr : Int) (vr : Vs) (v1 : Value) (pr : List Bs) (a1 : Value) (name val : Bs) (args : List Bs) (n : Int) (aa : Value) (w : World) (h : Two base w tb st vs vv ps av rb sr vr v1 pr a1) (ha : ActOk w ⟨2, name, val, args, n⟩ aa) (hsm : args ≠ [] → ∀ k, aa.ownBlock = some k → k < base) (hbase : base ≤ w.heap.size) :
    Calls Try.prog 12 #[.pointer (some ⟨tb, 0, none⟩), .pointer (some ⟨rb, 0, none⟩), .agg #[.int .i64 (2), .string (nm name), .string (nm val), aa, .int .i64 n]] w (DoesPost base tb rb vv av ⟨vs, (if argsOk args then args else ps), st⟩ ⟨vr, (if argsOk args then args else pr), sr⟩ true w) := by
  obtain ⟨A1, c1, rfl, _⟩ := h.r.vin.form
  obtain ⟨A2, c2, rfl, _⟩ := h.r.ain.form
  obtain ⟨A5, c5, rfl, _⟩ := ha.1.1.form
  obtain ⟨W2, hW2⟩ : ∃ W2, W2 = (w.alloc (.cells #[.int .i64 2, .string (nm name), .string (nm val), .slice A5 args.length c5, .int .i64 n] 30)).alloc (.cells #[.slice A1 vr.length c1, .slice A2 pr.length c2, .int .i64 sr] 36) := ⟨_, rfl⟩
  have HS : Hid (DI base w W2 tb rb ⟨2, name, val, args, n⟩ (.slice A5 args.length c5) vv av st vs vv ps av sr vr (.slice A1 vr.length c1) pr (.slice A2 pr.length c2) sr vr (.slice A1 vr.length c1) pr (.slice A2 pr.length c2)) := Lib.hid (by rw [hW2]; exact DI.start h ha hsm hbase)
  have r0 := cell_blk h.r.box 0
  have r1 := cell_blk h.r.box 1
  have r2 := cell_blk h.r.box 2
  have rz := fin_at h.r.box
  simp at r0 r1 r2
  have HW2 := Lib.hid hW2
  have HBD : Hid (Below W2.heap.size W2 W2.drew) := Lib.hid (Below.refl _ _).drew
  have HR : Hid (Calls Try.prog 28 #[.agg #[.slice A1 vr.length c1, .slice A2 pr.length c2, .int .i64 sr], .slice A5 args.length c5] W2.drew fun e w' => ∃ A3 n3 c3, e = .returned (.tuple #[.agg #[.slice A1 vr.length c1, .slice A3 n3 c3, .int .i64 sr], .int .i64 (codeA args)]) ∧ DI base w (put3 w' (w.heap.size + 1) (.slice A1 vr.length c1) (.slice A3 n3 c3) (.int .i64 sr)) tb rb ⟨2, name, val, args, n⟩ (.slice A5 args.length c5) vv av st vs vv ps av sr vr (.slice A1 vr.length c1) pr (.slice A2 pr.length c2) sr vr (.slice A1 vr.length c1) (if argsOk args then args else pr) (.slice A3 n3 c3) ∧ Below W2.heap.size W2 w') := Lib.hid ((rargs_any A1 A2 vr.length c1 pr.length c2 sr args _ W2.drew ⟨HS.out.ok.1.1.below HBD.out, HS.out.ok.1.2⟩).mono (by
    intro e w' hp
    unfold RArgPost at hp
    obtain ⟨hb, hp⟩ := hp
    have hb2 := HBD.out.trans hb
    unfold codeA
    cases hok : argsOk args with
    | true =>
      rw [hok] at hp
      obtain ⟨q1, q2⟩ := argsOk_len hok
      exact ⟨A5, _, c5, hp, HS.out.rput hb2 (HS.out.two2.r.vin.below hb2) (HS.out.ok.1.1.below hb2) HS.out.two2.r.srt HS.out.two2.r.len HS.out.two2.r.nms q1 q2 (fun hne => .inl ⟨hne, rfl⟩) HS.out.asm, hb2⟩
    | false =>
      rw [hok] at hp
      exact ⟨A2, _, c2, hp, HS.out.rput hb2 (HS.out.two2.r.vin.below hb2) (HS.out.two2.r.ain.below hb2) HS.out.two2.r.srt HS.out.two2.r.len HS.out.two2.r.nms HS.out.two2.r.plen HS.out.two2.r.plens (fun hne => .inl ⟨hne, rfl⟩) HS.out.two2.s8, hb2⟩))
  have HT : Hid (∀ W A3 n3 c3, DI base w W tb rb ⟨2, name, val, args, n⟩ (.slice A5 args.length c5) vv av st vs vv ps av sr vr (.slice A1 vr.length c1) pr (.slice A2 pr.length c2) sr vr (.slice A1 vr.length c1) (if argsOk args then args else pr) (.slice A3 n3 c3) → Calls Try.prog 25 #[.pointer (some ⟨tb, 0, none⟩), .slice A5 args.length c5] W fun e w' => e = .returned (.int .i64 (codeA args)) ∧ ∃ av', DI base w w' tb rb ⟨2, name, val, args, n⟩ (.slice A5 args.length c5) vv av st vs vv (if argsOk args then args else ps) av' sr vr (.slice A1 vr.length c1) pr (.slice A2 pr.length c2) sr vr (.slice A1 vr.length c1) (if argsOk args then args else pr) (.slice A3 n3 c3)) := Lib.hid (fun W A3 n3 c3 hd => (setArgs_both base tb st vs vv av ps args _ W hd.two1.t (Nat.le_trans hd.blt hd.kept.size) hd.ok.1).mono (by
    rintro e w' ⟨rfl, av', h1, h2, h3⟩
    exact ⟨rfl, av', hd.tmove h1 h2 (Fr.refl _ _) h3⟩))
  have HSF : Hid (∀ w', Below W2.heap.size W2 w' → (w'.cell? ⟨w.heap.size + 1, 0, none⟩ = some (.slice A1 vr.length c1) ∧ w'.cell? ⟨w.heap.size + 1, 1, none⟩ = some (.slice A2 pr.length c2) ∧ w'.cell? ⟨w.heap.size + 1, 2, none⟩ = some (.int .i64 sr)) ∧ (w'.frozen? ⟨w.heap.size + 1, 0, none⟩ = false ∧ w'.frozen? ⟨w.heap.size + 1, 1, none⟩ = false ∧ w'.frozen? ⟨w.heap.size + 1, 2, none⟩ = false) ∧ w.heap.size + 1 < w'.heap.size) := Lib.hid (fun w' hb => by
    have hx := (hb.block _ (fin_at HS.out.two2.r.box)).trans HS.out.two2.r.box
    exact ⟨⟨cell_blk hx 0, cell_blk hx 1, cell_blk hx 2⟩, ⟨froz_blk hx 0, froz_blk hx 1, froz_blk hx 2⟩, fin_at hx⟩)
  clear h ha hsm hW2
  generalize codeA args = er at *
  generalize (if argsOk args then args else pr) = pr2 at *
  generalize (if argsOk args then args else ps) = ps2 at *
  go_enter Try.func12, Try.ntmps12
  go_wp2_with fail
  rw [← HW2.out]
  obtain ⟨⟨xpa, xpb, xpc, xpd, xpe⟩, ⟨xpf, xpg, xph⟩, ⟨xpi, xpj, xpk⟩, ⟨xpl, xpm, xpn⟩, ⟨xpo, xpp, xpq⟩, ⟨xpr, xps, xpt, xpu⟩, xpv, xpw⟩ := HS.out.facts
  go_cut [8] from 58 to 66 (fun x8 wx => x8 = .int .i64 er ∧ ∃ A3 n3 c3, Hid (DI base w wx tb rb ⟨2, name, val, args, n⟩ (.slice A5 args.length c5) vv av st vs vv ps av sr vr (.slice A1 vr.length c1) pr (.slice A2 pr.length c2) sr vr (.slice A1 vr.length c1) pr2 (.slice A3 n3 c3)))
  case first =>
    go_region_law (first | (go_simp; go_at_call 28; refine (HR.out).mono ?_; rintro e w3 ⟨A3, n3, c3, rfl, hd, hb⟩; obtain ⟨⟨y1, y2, y3⟩, ⟨y4, y5, y6⟩, y7⟩ := HSF.out w3 hb; have HD3 := Lib.hid hd; clear hd hb))
    all_goals
      go_wp2_with fail
      go_meet
      exact ⟨rfl, _, _, _, HD3⟩
  case rest =>
    clear xpa xpb xpc xpd xpe xpf xpg xph xpi xpj xpk xpl xpm xpn xpo xpp xpq xpr xps xpt xpu xpv xpw
    obtain ⟨rfl, A3, n3, c3, HD⟩ := hcut
    obtain ⟨⟨xqa, xqb, xqc, xqd, xqe⟩, ⟨xqf, xqg, xqh⟩, ⟨xqi, xqj, xqk⟩, ⟨xql, xqm, xqn⟩, ⟨xqo, xqp, xqq⟩, ⟨xqr, xqs, xqt, xqu⟩, xqv, xqw⟩ := HD.out.facts
    go_wp2_with fail
    refine (HT.out _ _ _ _ HD.out).mono ?_
    rintro e W4 ⟨rfl, av', hd4⟩
    have HD4 := Lib.hid hd4
    have hee : (er == er) = true := by simp
    clear hd4 xqa xqb xqc xqd xqe xqf xqg xqh xqi xqj xqk xql xqm xqn xqo xqp xqq xqr xqs xqt xqu xqv xqw
    obtain ⟨⟨xsa, xsb, xsc, xsd, xse⟩, ⟨xsf, xsg, xsh⟩, ⟨xsi, xsj, xsk⟩, ⟨xsl, xsm, xsn⟩, ⟨xso, xsp, xsq⟩, ⟨xsr, xss, xst, xsu⟩, xsv, xsw⟩ := HD4.out.facts
    go_wp2_with fail
    go_ret
    exact does_p HD4.out
end Go.Proofs.Ytdegkfnlafgheaa.Vr
namespace Go.Proofs.Ytdegkfnlafgheaa.Vr
open Go.RowKit
open PathM WdM VrM
open Go.Proofs.Ytdegkfnlafgheaa.Wd
set_option linter.unusedVariables false
theorem own_eq (A : Option Addr) (m c n d : Nat) : ∀ k, (Value.slice A m c).ownBlock = some k → (Value.slice A n d).ownBlock = some k := by
  intro k hk
  cases A <;> exact hk
theorem own_map (A : Option Addr) (m c n : Nat) : ∀ k, (Value.slice (A.map fun x => x.add n) (m - n) (c - n)).ownBlock = some k → (Value.slice A m c).ownBlock = some k := by
  intro k hk
  cases A with
  | none => cases hk
  | some a =>
    cases n with
    | zero => simpa [Value.ownBlock, Addr.add] using hk
    | succ n => simpa [Value.ownBlock, Addr.add] using hk
set_option maxRecDepth 100000 in
set_option maxHeartbeats 1600000 in
theorem rshift_own (A1 A2 : Option Addr) (n1 c1 m c2 : Nat) (st : Int) (ps : List Bs) (n : Nat) (w : World) (ha : ArIn w (.slice A2 m c2) ps) (hm2 : (m : Int) ≤ 4096) (hpm : ps.length = m) (hmc : m ≤ c2) (hn : n ≤ m) :
    Calls Try.prog 30 #[tblV (.slice A1 n1 c1) (.slice A2 m c2) st, .int .i64 (n : Int)] w fun e w' => (∃ A3 c3, e = .returned (.tuple #[tblV (.slice A1 n1 c1) (.slice A3 (m - n) c3) st, .bool true]) ∧ ArIn w' (.slice A3 (m - n) c3) (ps.drop n) ∧ ∀ k, (Value.slice A3 (m - n) c3).ownBlock = some k → (Value.slice A2 m c2).ownBlock = some k) ∧ Below w.heap.size w w' := by
  unfold tblV
  have HB := Lib.hid (two_below w)
  have HA := Lib.hid ha
  have HM := Lib.hid hpm
  have hn1 : (n : Int) ≤ (m : Int) := by omega
  have hmc1 : (m : Int) ≤ (c2 : Int) := by omega
  have hn0 : (0 : Int) ≤ (n : Int) := by omega
  clear ha hpm
  go_enter Try.func30, Try.ntmps30
  go_wp2_with fail
  all_goals
    refine bodyPost_ret (results_cell2 rfl _ _ _ 36 _ (0, 0) _ rfl (two_new _ _ _) Try.underlying36 rfl (by kernel_rfl)) rfl ?_
    refine ⟨⟨_, _, rfl, ?_, ?_⟩, HB.out _ _⟩
    · first | exact (ArIn.cut0 HM.out hn hmc ‹_›).below (HB.out _ _) | exact (ArIn.cut1 HM.out hn HA.out).below (HB.out _ _)
    · first | exact own_eq A2 _ _ _ _ | exact own_map A2 m c2 n
theorem shift_both (base tb : Nat) (st : Int) (vs : Vs) (vv av : Value) (ps : List Bs) (n : Int) (w : World) (h : TbX base w tb st vs vv ps av) (hbase : base ≤ w.heap.size) :
    Calls Try.prog 26 #[.pointer (some ⟨tb, 0, none⟩), .int .i64 n] w fun e w' => e = .returned (.bool (shOk ps n)) ∧ ∃ av', TbX base w' tb st vs vv (if shOk ps n then ps.drop n.toNat else ps) av' ∧ Kept (OwT tb vv) w w' ∧ Fr w av av' := by
  by_cases hn : 0 ≤ n ∧ n ≤ (ps.length : Int)
  · have hs : shOk ps n = true := decide_eq_true hn
    rw [hs]
    obtain ⟨k, rfl⟩ : ∃ k : Nat, n = (k : Int) := ⟨n.toNat, by omega⟩
    refine (shift_ok tb st vv av ps k w h.t (by omega)).mono ?_
    rintro e w' ⟨rfl, av', k1, k2, k3⟩
    exact ⟨rfl, av', (h.args hbase k1 k2 k3).1, k3.mono (fun k hk => .inl hk), row_fr k2⟩
  · have hs : shOk ps n = false := decide_eq_false hn
    rw [hs]
    refine (shift_no tb st vv av ps n w h.t (by omega)).mono ?_
    rintro e w' ⟨rfl, rfl⟩
    exact ⟨rfl, av, h, Kept.refl _ _, Fr.refl _ _⟩
theorem shOk_len {ps : List Bs} {n : Int} (h : ps.length ≤ 256) (hs : ∀ x ∈ ps, x.length ≤ 4096) : (if shOk ps n then ps.drop n.toNat else ps).length ≤ 256 ∧ ∀ x ∈ (if shOk ps n then ps.drop n.toNat else ps), x.length ≤ 4096 := by
  split
  · exact ⟨by rw [List.length_drop]; omega, fun x hx => hs x (List.mem_of_mem_drop hx)⟩
  · exact ⟨h, hs⟩
theorem DI.below {base : Nat} {w wx w3 : World} {tb rb : Nat} {a : ActB} {aa vv0 av0 : Value} {st : Int} {vs : Vs} {vv : Value} {ps : List Bs} {av : Value} {sr : Int} {vr : Vs} {v1 : Value} {pr : List Bs} {a1 : Value} {sr2 : Int} {vr2 : Vs} {v2 : Value} {pr2 : List Bs} {a2 : Value} (h : DI base w wx tb rb a aa vv0 av0 st vs vv ps av sr vr v1 pr a1 sr2 vr2 v2 pr2 a2) (hb : Below wx.heap.size wx w3) : DI base w w3 tb rb a aa vv0 av0 st vs vv ps av sr vr v1 pr a1 sr2 vr2 v2 pr2 a2 :=
  ⟨h.two1.below hb, h.two2.below hb, (hb.block _ (fin_at h.act)).trans h.act, h.ok.below hb, h.asm, h.kept.then (kept_of_below hb) (fun i hi hs => hs), h.fr, h.fra, h.rlt, h.blt, h.old, h.new⟩
theorem DI.shift {base : Nat} {w wx : World} {tb rb : Nat} {a : ActB} {aa vv0 av0 : Value} {st : Int} {vs : Vs} {vv : Value} {ps : List Bs} {av : Value} {sr : Int} {vr : Vs} {v1 : Value} {pr : List Bs} {a1 : Value} {sr2 : Int} {vr2 : Vs} {v2 : Value} {pr2 : List Bs} {a2 : Value} {pr3 : List Bs} {a3 : Value} (h : DI base w wx tb rb a aa vv0 av0 st vs vv ps av sr vr v1 pr a1 sr2 vr2 v2 pr2 a2) (ha : ArIn wx a3 pr3) (hp : pr3.length ≤ 256) (hps : ∀ x ∈ pr3, x.length ≤ 4096) (hsm : pr3 ≠ [] → ∀ k, a3.ownBlock = some k → k < base) :
    Two base (put3 wx rb v1 a3 (.int .i64 sr)) tb st vs vv ps av rb sr vr v1 pr3 a3 ∧ Kept (OwR tb rb vv0) w (put3 wx rb v1 a3 (.int .i64 sr)) := by
  obtain ⟨A, c, e1, _⟩ := h.two1.r.vin.form
  obtain ⟨A', c', e2, _⟩ := h.two1.r.ain.form
  have hT : Tb3 wx rb A vr.length c A' pr.length c' sr := by have := h.two1.r.box; rw [e1, e2] at this; exact this
  have hk : Kept (fun k => k = rb) wx (put3 wx rb v1 a3 (.int .i64 sr)) := (Kept.setCell (S := fun k => k = rb) ⟨rb, 0, none⟩ _ rfl).trans ((Kept.setCell (S := fun k => k = rb) ⟨rb, 1, none⟩ _ rfl).trans (Kept.setCell (S := fun k => k = rb) ⟨rb, 2, none⟩ _ rfl))
  have r := h.two1.r
  exact ⟨h.two1.rmove hk ⟨put3_blk hT _ _ _, r.vin.put3 hT _ _ _, ha.put3 hT _ _ _, r.srt, r.len, r.nms, hp, hps⟩ (fun hne => .inl ⟨hne, rfl⟩) hsm, h.kept.then hk (fun i hi e => .inr (.inr e))⟩
theorem does_q {base tb rb : Nat} {vv av : Value} {b : Bool} {w wx w4 : World} {st : Int} {vs : Vs} {ps ps' : List Bs} {av' : Value} {sr : Int} {vr : Vs} {v1 : Value} {pr : List Bs} {a1 : Value} (h : Two base wx tb st vs vv ps av rb sr vr v1 pr a1) (hk : Kept (OwR tb rb vv) w wx) (ht : TbX base w4 tb st vs vv ps' av') (hk2 : Kept (OwT tb vv) wx w4) (hg : Fr wx av av') : DoesPost base tb rb vv av ⟨vs, ps', st⟩ ⟨vr, pr, sr⟩ b w (.returned (.bool b)) w4 := by
  refine ⟨rfl, vv, av', v1, a1, h.tmove ht hk2 (Fr.refl _ _) hg, hk.then hk2 (fun i hi o => ?_), Fr.refl _ _, (Fr.refl w av).trans hg hk.size⟩
  rcases o with o | o
  · exact .inl o
  · exact .inr (.inl o)
set_option maxRecDepth 100000 in
set_option maxHeartbeats 3200000 in
theorem does_3 (base tb rb : Nat) (st : Int) (vs : Vs) (vv av : Value) (ps : List Bs) (sr : Int) (vr : Vs) (v1 : Value) (pr : List Bs) (a1 : Value) (name val : Bs) (args : List Bs) (n : Int) (aa : Value) (w : World) (h : Two base w tb st vs vv ps av rb sr vr v1 pr a1) (ha : ActOk w ⟨3, name, val, args, n⟩ aa) (hsm : args ≠ [] → ∀ k, aa.ownBlock = some k → k < base) (hbase : base ≤ w.heap.size) :
    Calls Try.prog 12 #[.pointer (some ⟨tb, 0, none⟩), .pointer (some ⟨rb, 0, none⟩), .agg #[.int .i64 (3), .string (nm name), .string (nm val), aa, .int .i64 n]] w (DoesPost base tb rb vv av ⟨vs, (if shOk ps n then ps.drop n.toNat else ps), st⟩ ⟨vr, (if shOk pr n then pr.drop n.toNat else pr), sr⟩ (shOk ps n == shOk pr n) w) := by
  obtain ⟨A1, c1, rfl, _⟩ := h.r.vin.form
  obtain ⟨A2, c2, rfl, _⟩ := h.r.ain.form
  obtain ⟨A5, c5, rfl, _⟩ := ha.1.1.form
  obtain ⟨W2, hW2⟩ : ∃ W2, W2 = (w.alloc (.cells #[.int .i64 3, .string (nm name), .string (nm val), .slice A5 args.length c5, .int .i64 n] 30)).alloc (.cells #[.slice A1 vr.length c1, .slice A2 pr.length c2, .int .i64 sr] 36) := ⟨_, rfl⟩
  have HS : Hid (DI base w W2 tb rb ⟨3, name, val, args, n⟩ (.slice A5 args.length c5) vv av st vs vv ps av sr vr (.slice A1 vr.length c1) pr (.slice A2 pr.length c2) sr vr (.slice A1 vr.length c1) pr (.slice A2 pr.length c2)) := Lib.hid (by rw [hW2]; exact DI.start h ha hsm hbase)
  have r0 := cell_blk h.r.box 0
  have r1 := cell_blk h.r.box 1
  have r2 := cell_blk h.r.box 2
  have rz := fin_at h.r.box
  simp at r0 r1 r2
  have HW2 := Lib.hid hW2
  have HBD : Hid (Below W2.heap.size W2 W2.drew) := Lib.hid (Below.refl _ _).drew
  have HR : Hid (∀ W, Below W2.heap.size W2 W → Calls Try.prog 30 #[.agg #[.slice A1 vr.length c1, .slice A2 pr.length c2, .int .i64 sr], .int .i64 n] W fun e w' => ∃ A3 n3 c3, e = .returned (.tuple #[.agg #[.slice A1 vr.length c1, .slice A3 n3 c3, .int .i64 sr], .bool (shOk pr n)]) ∧ ArIn w' (.slice A3 n3 c3) (if shOk pr n then pr.drop n.toNat else pr) ∧ (∀ k, (Value.slice A3 n3 c3).ownBlock = some k → (Value.slice A2 pr.length c2).ownBlock = some k) ∧ Below W.heap.size W w') := Lib.hid (by
    intro W hBW
    have hpl := HS.out.two2.r.plen
    have hain := HS.out.two2.r.ain.below hBW
    by_cases hn : 0 ≤ n ∧ n ≤ (pr.length : Int)
    · have hs : shOk pr n = true := decide_eq_true hn
      rw [hs]
      obtain ⟨k, rfl⟩ : ∃ k : Nat, n = (k : Int) := ⟨n.toNat, by omega⟩
      refine (rshift_own A1 A2 vr.length c1 pr.length c2 sr pr k W hain (by omega) rfl ?_ (by omega)).mono ?_
      · obtain ⟨_, _, e1, e2⟩ := hain.form
        cases e1; exact e2
      rintro e w' ⟨⟨A3, c3, rfl, h1, h2⟩, hb⟩
      exact ⟨A3, _, c3, rfl, h1, h2, hb⟩
    · have hs : shOk pr n = false := decide_eq_false hn
      rw [hs]
      refine (rshift_no A1 A2 vr.length c1 pr.length c2 sr n W (by omega) (by omega)).mono ?_
      rintro e w' ⟨rfl, hb⟩
      exact ⟨A2, _, c2, rfl, hain.below hb, fun k hk => hk, hb⟩)
  have HOKL := Lib.hid (shOk_len (n := n) h.r.plen h.r.plens)
  have HSMALL := Lib.hid h.s8
  have HNIL : Hid ((if shOk pr n then pr.drop n.toNat else pr) ≠ [] → pr ≠ []) := Lib.hid (by
    intro hne e
    rw [e] at hne
    apply hne
    split <;> simp)
  have HT : Hid (∀ W v1 pr' a1', Two base W tb st vs vv ps av rb sr vr v1 pr' a1' → w.heap.size ≤ W.heap.size → Calls Try.prog 26 #[.pointer (some ⟨tb, 0, none⟩), .int .i64 n] W fun e w' => e = .returned (.bool (shOk ps n)) ∧ ∃ av', TbX base w' tb st vs vv (if shOk ps n then ps.drop n.toNat else ps) av' ∧ Kept (OwT tb vv) W w' ∧ Fr W av av') := Lib.hid (fun W v1 pr' a1' hd hw => shift_both base tb st vs vv av ps n W hd.t (Nat.le_trans hbase hw))
  clear h ha hsm hW2
  generalize (if shOk pr n then pr.drop n.toNat else pr) = pr2 at *
  generalize (if shOk ps n then ps.drop n.toNat else ps) = ps2 at *
  generalize shOk ps n = o1 at *
  generalize shOk pr n = o2 at *
  go_enter Try.func12, Try.ntmps12
  go_wp2_with fail
  rw [← HW2.out]
  obtain ⟨⟨xpa, xpb, xpc, xpd, xpe⟩, ⟨xpf, xpg, xph⟩, ⟨xpi, xpj, xpk⟩, ⟨xpl, xpm, xpn⟩, ⟨xpo, xpp, xpq⟩, ⟨xpr, xps, xpt, xpu⟩, xpv, xpw⟩ := HS.out.facts
  have HBA : Hid (Below W2.heap.size W2 (W2.alloc (.cells #[.slice none 0 0, .slice none 0 0, .int .i64 0] 36)).drew) := Lib.hid (one_below _ _).drew
  have HXA : Hid ((W2.alloc (.cells #[.slice none 0 0, .slice none 0 0, .int .i64 0] 36)).drew.heap[W2.heap.size]? = some (.cells #[.slice none 0 0, .slice none 0 0, .int .i64 0] 36 (0, 0))) := Lib.hid (heap_alloc_new W2 _)
  go_cut [10, 11] from 73 to 81 (fun x10 x11 wx => ∃ mb A3 n3 c3, x10 = .pointer (some ⟨mb, 0, none⟩) ∧ x11 = .bool o2 ∧ Hid (DI base w wx tb rb ⟨3, name, val, args, n⟩ (.slice A5 args.length c5) vv av st vs vv ps av sr vr (.slice A1 vr.length c1) pr (.slice A2 pr.length c2) sr vr (.slice A1 vr.length c1) pr (.slice A2 pr.length c2)) ∧ Hid (wx.heap[mb]? = some (.cells #[.slice A1 vr.length c1, .slice A3 n3 c3, .int .i64 sr] 36 (0, 0))) ∧ Hid (ArIn wx (.slice A3 n3 c3) pr2) ∧ Hid (∀ k, (Value.slice A3 n3 c3).ownBlock = some k → (Value.slice A2 pr.length c2).ownBlock = some k))
  case first =>
    go_region_law (first | (go_simp; go_at_call 30; refine (HR.out W2.drew HBD.out).mono ?_; rintro e w3 ⟨A3, n3, c3, rfl, hai, hown, hb⟩; have HAI := Lib.hid hai; have HOW := Lib.hid hown; have HB3 := Lib.hid (HBD.out.trans hb); clear hai hown hb) | (go_simp; go_at_call 30; refine (HR.out _ HBA.out).mono ?_; rintro e w3 ⟨A3, n3, c3, rfl, hai, hown, hb⟩; have HAI := Lib.hid hai; have HOW := Lib.hid hown; have HB4 := Lib.hid (HBA.out.trans (hb.mono HBA.out.size)); have hx := (hb.block W2.heap.size (by simp)).trans HXA.out; have z0 := cell_blk hx 0; have z1 := cell_blk hx 1; have z2 := cell_blk hx 2; simp at z0 z1 z2; have z3 := froz_blk hx 0; have z4 := froz_blk hx 1; have z5 := froz_blk hx 2; have z6 := fin_at hx; have HX4 := Lib.hid hx; clear hai hown hb hx))
    all_goals
      go_wp2_with fail
      go_meet
      first
        | exact ⟨w3.heap.size, A3, n3, c3, rfl, rfl, Lib.hid ((HS.out.below HB3.out).below (one_below _ _)), Lib.hid (heap_alloc_new w3 _), Lib.hid (HAI.out.below (one_below _ _)), HOW⟩
        | exact ⟨W2.heap.size, A3, n3, c3, rfl, rfl, Lib.hid (HS.out.below (put3_below HB4.out (Nat.le_refl _))), Lib.hid (put3_blk HX4.out _ _ _), Lib.hid (HAI.out.put3 HX4.out _ _ _), HOW⟩
  case rest =>
    clear xpa xpb xpc xpd xpe xpf xpg xph xpi xpj xpk xpl xpm xpn xpo xpp xpq xpr xps xpt xpu xpv xpw
    obtain ⟨mb, A3, n3, c3, rfl, rfl, HD, HM, HAI, HOW⟩ := hcut
    obtain ⟨⟨xqa, xqb, xqc, xqd, xqe⟩, ⟨xqf, xqg, xqh⟩, ⟨xqi, xqj, xqk⟩, ⟨xql, xqm, xqn⟩, ⟨xqo, xqp, xqq⟩, ⟨xqr, xqs, xqt, xqu⟩, xqv, xqw⟩ := HD.out.facts
    have m0 := cell_blk HM.out 0
    have m1 := cell_blk HM.out 1
    have m2 := cell_blk HM.out 2
    simp at m0 m1 m2
    have mz := fin_at HM.out
    obtain ⟨j1, j2⟩ := HD.out.shift HAI.out HOKL.out.1 HOKL.out.2 (fun hne k hk => HSMALL.out (HNIL.out hne) k (HOW.out k hk))
    have J1 := Lib.hid j1
    have J2 := Lib.hid j2
    clear j1 j2
    go_wp2_with fail
    refine (HT.out _ _ _ _ J1.out J2.out.size).mono ?_
    rintro e W4 ⟨rfl, av', k1, k2, k3⟩
    have HQ := Lib.hid (does_q (b := o1 == o2) J1.out J2.out k1 k2 k3)
    clear k1 k2 k3 xqa xqb xqc xqd xqe xqf xqg xqh xqi xqj xqk xql xqm xqn xqo xqp xqq xqr xqs xqt xqu xqv xqw
    go_wp2_with fail
    go_ret
    exact HQ.out
end Go.Proofs.Ytdegkfnlafgheaa.Vr
namespace Go.Proofs.Ytdegkfnlafgheaa.Vr
open Go.RowKit
open PathM WdM VrM
open Go.Proofs.Ytdegkfnlafgheaa.Wd
set_option linter.unusedVariables false
theorem does_stat {base tb rb : Nat} {b : Bool} {w : World} {vv av : Value} {st : Int} {vs : Vs} {ps : List Bs} {sr : Int} {vr : Vs} {v1 : Value} {pr : List Bs} {a1 : Value} (h : Two base w tb st vs vv ps av rb sr vr v1 pr a1) (n : Int) (o1 o2 : Obj) :
    DoesPost base tb rb vv av ⟨vs, ps, n⟩ ⟨vr, pr, n⟩ b w (.returned (.bool b)) (((put3 (w.setCell ⟨tb, 0, none⟩ (.int .i64 n)) rb v1 a1 (.int .i64 n)).alloc o1).alloc o2) := by
  have hk0 : Kept (OwT tb vv) w (w.setCell ⟨tb, 0, none⟩ (.int .i64 n)) := Kept.setCell ⟨tb, 0, none⟩ _ (.inl rfl)
  have h1 := h.tmove (h.t.stat n) hk0 (Fr.refl _ _) (Fr.refl _ _)
  obtain ⟨A, c, e1, _⟩ := h1.r.vin.form
  obtain ⟨A', c', e2, _⟩ := h1.r.ain.form
  have hT : Tb3 (w.setCell ⟨tb, 0, none⟩ (.int .i64 n)) rb A vr.length c A' pr.length c' sr := by have := h1.r.box; rw [e1, e2] at this; exact this
  have hk : Kept (fun k => k = rb) (w.setCell ⟨tb, 0, none⟩ (.int .i64 n)) (put3 (w.setCell ⟨tb, 0, none⟩ (.int .i64 n)) rb v1 a1 (.int .i64 n)) := (Kept.setCell (S := fun k => k = rb) ⟨rb, 0, none⟩ _ rfl).trans ((Kept.setCell (S := fun k => k = rb) ⟨rb, 1, none⟩ _ rfl).trans (Kept.setCell (S := fun k => k = rb) ⟨rb, 2, none⟩ _ rfl))
  have r := h1.r
  have h2 := h1.rmove hk ⟨put3_blk hT _ _ _, r.vin.put3 hT _ _ _, r.ain.put3 hT _ _ _, r.srt, r.len, r.nms, r.plen, r.plens⟩ (fun hne => .inl ⟨hne, rfl⟩) h1.s8
  have hb1 := one_below (put3 (w.setCell ⟨tb, 0, none⟩ (.int .i64 n)) rb v1 a1 (.int .i64 n)) o1
  have hb2 := one_below ((put3 (w.setCell ⟨tb, 0, none⟩ (.int .i64 n)) rb v1 a1 (.int .i64 n)).alloc o1) o2
  refine ⟨rfl, vv, av, v1, a1, (h2.below hb1).below hb2, ?_, Fr.refl _ _, Fr.refl _ _⟩
  have hk1 : Kept (OwR tb rb vv) w (w.setCell ⟨tb, 0, none⟩ (.int .i64 n)) := hk0.mono (fun k hk => by rcases hk with e | e; exact .inl e; exact .inr (.inl e))
  exact ((hk1.then hk (fun i hi e => .inr (.inr e))).then (kept_of_below hb1) (fun i hi e => e)).then (kept_of_below hb2) (fun i hi e => e)
set_option maxRecDepth 100000 in
set_option maxHeartbeats 3200000 in
theorem does_4 (base tb rb : Nat) (st : Int) (vs : Vs) (vv av : Value) (ps : List Bs) (sr : Int) (vr : Vs) (v1 : Value) (pr : List Bs) (a1 : Value) (kind : Int) (name val : Bs) (args : List Bs) (n : Int) (aa : Value) (w : World) (hk : kind ≠ 0 ∧ kind ≠ 1 ∧ kind ≠ 2 ∧ kind ≠ 3) (h : Two base w tb st vs vv ps av rb sr vr v1 pr a1) (ha : ActOk w ⟨kind, name, val, args, n⟩ aa) (hsm : args ≠ [] → ∀ k, aa.ownBlock = some k → k < base) (hbase : base ≤ w.heap.size) :
    Calls Try.prog 12 #[.pointer (some ⟨tb, 0, none⟩), .pointer (some ⟨rb, 0, none⟩), .agg #[.int .i64 kind, .string (nm name), .string (nm val), aa, .int .i64 n]] w (DoesPost base tb rb vv av ⟨vs, ps, n⟩ ⟨vr, pr, n⟩ true w) := by
  obtain ⟨A1, c1, rfl, _⟩ := h.r.vin.form
  obtain ⟨A2, c2, rfl, _⟩ := h.r.ain.form
  obtain ⟨A5, c5, rfl, _⟩ := ha.1.1.form
  have r0 := cell_blk h.r.box 0
  have r1 := cell_blk h.r.box 1
  have r2 := cell_blk h.r.box 2
  have r3 := froz_blk h.r.box 0
  have r4 := froz_blk h.r.box 1
  have r5 := froz_blk h.r.box 2
  have rz := fin_at h.r.box
  have t0 := cell_blk h.t.box 0
  have t1 := froz_blk h.t.box 0
  have tz := h.t.lt
  have hne := h.s1
  have hne2 : ¬ tb = rb := fun e => h.s1 e.symm
  simp at r0 r1 r2 t0
  obtain ⟨k0, k1, k2, k3⟩ := hk
  have q0 : (kind == 0) = false := by simpa using k0
  have q1 : (kind == 1) = false := by simpa using k1
  have q2 : (kind == 2) = false := by simpa using k2
  have q3 : (kind == 3) = false := by simpa using k3
  have HT := Lib.hid h
  clear h ha hsm
  go_enter Try.func12, Try.ntmps12
  go_wp2_with fail
  go_ret
  exact does_stat HT.out n _ _
/-- All of does. -/
theorem does_any (base tb rb : Nat) (st : Int) (vs : Vs) (vv av : Value) (ps : List Bs) (sr : Int) (vr : Vs) (v1 : Value) (pr : List Bs) (a1 : Value) (a : ActB) (aa : Value) (w : World) (h : Two base w tb st vs vv ps av rb sr vr v1 pr a1) (ha : ActOk w a aa) (hsm : a.args ≠ [] → ∀ k, aa.ownBlock = some k → k < base) (hbase : base ≤ w.heap.size) :
    Calls Try.prog 12 #[.pointer (some ⟨tb, 0, none⟩), .pointer (some ⟨rb, 0, none⟩), .agg (actV a aa).toArray] w (DoesPost base tb rb vv av (stD ⟨vs, ps, st⟩ a).1 (stD ⟨vr, pr, sr⟩ a).1 ((stD ⟨vs, ps, st⟩ a).2 == (stD ⟨vr, pr, sr⟩ a).2) w) := by
  obtain ⟨kind, name, val, args, n⟩ := a
  show Calls _ _ #[_, _, .agg #[.int .i64 kind, .string (nm name), .string (nm val), aa, .int .i64 n]] _ _
  unfold stD
  dsimp only
  by_cases h0 : kind = 0
  · subst h0
    rw [if_pos rfl, if_pos rfl]
    exact does_0 base tb rb st vs vv av ps sr vr v1 pr a1 name val args n aa w h ha hsm hbase
  rw [if_neg h0, if_neg h0]
  by_cases h1 : kind = 1
  · subst h1
    rw [if_pos rfl, if_pos rfl]
    exact does_1 base tb rb st vs vv av ps sr vr v1 pr a1 name val args n aa w h ha hsm hbase
  rw [if_neg h1, if_neg h1]
  by_cases h2 : kind = 2
  · subst h2
    rw [if_pos rfl, if_pos rfl]
    have := does_2 base tb rb st vs vv av ps sr vr v1 pr a1 name val args n aa w h ha hsm hbase
    simpa using this
  rw [if_neg h2, if_neg h2]
  by_cases h3 : kind = 3
  · subst h3
    rw [if_pos rfl, if_pos rfl]
    have e : ((if shOk ps n = true then (1 : Int) else 0) == (if shOk pr n = true then (1 : Int) else 0)) = (shOk ps n == shOk pr n) := by
      cases shOk ps n <;> cases shOk pr n <;> rfl
    dsimp only
    rw [e]
    exact does_3 base tb rb st vs vv av ps sr vr v1 pr a1 name val args n aa w h ha hsm hbase
  rw [if_neg h3, if_neg h3]
  exact does_4 base tb rb st vs vv av ps sr vr v1 pr a1 kind name val args n aa w ⟨h0, h1, h2, h3⟩ h ha hsm hbase
end Go.Proofs.Ytdegkfnlafgheaa.Vr
namespace Go.Proofs.Ytdegkfnlafgheaa.Vr
open Go.RowKit
open PathM WdM VrM
open Go.Proofs.Ytdegkfnlafgheaa.Wd
set_option linter.unusedVariables false
theorem ActAt.below {w w' : World} {b off : Nat} {x : ActB × Value} (h : ActAt w b off x) (hlt : b < w.heap.size) (hb : Below w.heap.size w w') : ActAt w' b off x := by
  have e := hb.block b hlt
  exact ⟨(World.cell?_of_block e).trans h.1, (World.cell?_of_block e).trans h.2.1, (World.cell?_of_block e).trans h.2.2.1, (World.cell?_of_block e).trans h.2.2.2.1, (World.cell?_of_block e).trans h.2.2.2.2⟩
theorem Two.start {w W2 W3 : World} {tb : Nat} {vs : Vs} {vv av v1 a : Value} {qs : List Bs} (ht : TbX w.heap.size W2 tb 0 vs vv qs av) (hb2 : Below w.heap.size w W2) (hb3 : Below W2.heap.size W2 W3) (hv : VsIn W3 v1 vs) (hf : ∀ k, v1.ownBlock = some k → W2.heap.size ≤ k) (ha : ArIn w a qs) (hok : Srt vs ∧ vs.length ≤ 64 ∧ Nms vs) (hq : argsOk qs = true) :
    Two w.heap.size (W3.alloc (.cells #[v1, a, .int .i64 0] 36)) tb 0 vs vv qs av W3.heap.size 0 vs v1 qs a := by
  have hb4 := one_below W3 (.cells #[v1, a, .int .i64 0] 36)
  have h23 := hb3.size
  have h12 := hb2.size
  have htl := ht.lt
  have ha3 : ArIn W3 a qs := (ha.below hb2).below hb3
  refine ⟨(ht.below hb3).below hb4, ⟨heap_alloc_new W3 _, hv.below hb4, ha3.below hb4, hok.1, hok.2.1, hok.2.2, (argsOk_len hq).1, (argsOk_len hq).2⟩, by omega, by omega, fun e => ?_, fun e => ?_, fun hne e => ?_, fun hne k hk e => ?_, fun hne k hk e => ?_, fun hne e => ?_, fun hne k hk => ha.own hne hk⟩
  · have := (row_lt ht.row e).1; omega
  · have := (row_lt ht.arow e).1; omega
  · have := hf _ e; omega
  · have := hf _ hk; have := (row_lt ht.row e).1; omega
  · have := hf _ hk; have := (row_lt ht.arow e).1; omega
  · have := hv.own hne e; omega
theorem stD_st {s : StD} {a : ActB} (h1 : -9223372036854775808 ≤ s.st ∧ s.st ≤ 9223372036854775807) (h2 : -9223372036854775808 ≤ a.n ∧ a.n ≤ 9223372036854775807) : -9223372036854775808 ≤ (stD s a).1.st ∧ (stD s a).1.st ≤ 9223372036854775807 := by
  unfold stD
  split
  · exact h1
  · split
    · exact h1
    · split
      · exact h1
      · split
        · exact h1
        · exact h2
theorem Two.low {base : Nat} {w w' : World} {tb : Nat} {st : Int} {vs : Vs} {vv : Value} {ps : List Bs} {av : Value} {rb : Nat} {sr : Int} {vr : Vs} {v1 : Value} {pr : List Bs} {a1 : Value} (h : Two base w tb st vs vv ps av rb sr vr v1 pr a1) (hbase : base ≤ w.heap.size) (hk : Kept (OwR tb rb vv) w w') : Below base w w' := hk.below hbase (fun k hk => by
  rcases hk with rfl | hk | rfl
  · exact h.t.hb
  · exact (row_lt h.t.row hk).2
  · exact h.hb)
section
variable {w0 : World} {tb rb : Nat} {s : StD} {vv av v1 a1 : Value} {W : World}
/-- A state of the play: both tables the same. -/
def Pl (w0 : World) (tb rb : Nat) (s : StD) (vv av v1 a1 : Value) (W : World) : Prop := Two w0.heap.size W tb s.st s.vs vv s.ps av rb s.st s.vs v1 s.ps a1 ∧ (-9223372036854775808 ≤ s.st ∧ s.st ≤ 9223372036854775807) ∧ Below w0.heap.size w0 W
theorem Pl.below {W' : World} (h : Pl w0 tb rb s vv av v1 a1 W) (hb : Below W.heap.size W W') : Pl w0 tb rb s vv av v1 a1 W' := ⟨h.1.below hb, h.2.1, h.2.2.trans (hb.mono h.2.2.size)⟩
/-- A call is played in both. -/
theorem Pl.does (h : Pl w0 tb rb s vv av v1 a1 W) (a : ActB) (aa : Value) (ha : ActOk w0 a aa) :
    Calls Try.prog 12 #[.pointer (some ⟨tb, 0, none⟩), .pointer (some ⟨rb, 0, none⟩), .agg (actV a aa).toArray] W fun e w' => e = .returned (.bool true) ∧ ∃ vv' av' A1 n1 c1 A2 n2 c2, Pl w0 tb rb (stD s a).1 vv' av' (.slice A1 n1 c1) (.slice A2 n2 c2) w' := by
  have hb := h.2.2
  refine (does_any w0.heap.size tb rb s.st s.vs vv av s.ps s.st s.vs v1 s.ps a1 a aa W h.1 (ha.below hb) (fun hne k hk => ha.1.1.own hne hk) hb.size).mono ?_
  rintro e w' ⟨he, vv', av', v1', a1', h2, hk, _, _⟩
  obtain ⟨A1, c1, rfl, _⟩ := h2.r.vin.form
  obtain ⟨A2, c2, rfl, _⟩ := h2.r.ain.form
  refine ⟨by rw [he, beq_self_eq_true], vv', av', A1, _, c1, A2, _, c2, h2, stD_st h.2.1 ha.2.2.2.2, hb.trans (h.1.low hb.size hk)⟩
theorem Pl.get (h : Pl w0 tb rb s vv av v1 a1 W) (x : Bs) (hx : x.length ≤ 140737488351232) :
    Calls Try.prog 15 #[.pointer (some ⟨tb, 0, none⟩), .string (nm x)] W fun e w' => e = .returned (.tuple #[.string (nm ((getL s.ps s.st s.vs x).getD [])), .bool (getL s.ps s.st s.vs x).isSome]) ∧ Pl w0 tb rb s vv av v1 a1 w' := by
  refine (get_any w0.heap.size tb s.st s.vs vv av s.ps x W h.1.t h.2.1.1 h.2.1.2 hx).mono ?_
  rintro e w' ⟨rfl, hb⟩
  exact ⟨rfl, h.below hb⟩
theorem Pl.rget (h : Pl w0 tb rb s vv av v1 a1 W) (x : Bs) (hx : x.length ≤ 140737488351232) :
    Calls Try.prog 16 #[.agg #[v1, a1, .int .i64 s.st], .string (nm x)] W fun e w' => e = .returned (.tuple #[.string (nm ((getL s.ps s.st s.vs x).getD [])), .bool (getL s.ps s.st s.vs x).isSome]) ∧ Pl w0 tb rb s vv av v1 a1 w' := by
  have r := h.1.r
  refine (rget_any s.vs v1 a1 s.ps s.st x W r.vin r.ain r.srt r.len r.plen r.plens (nms_no r.nms) h.2.1.1 h.2.1.2 hx).mono ?_
  rintro e w' ⟨rfl, hb⟩
  exact ⟨rfl, h.below hb⟩
theorem Pl.shown (h : Pl w0 tb rb s vv av v1 a1 W) :
    Calls Try.prog 14 #[.pointer (some ⟨tb, 0, none⟩)] W fun e w' => ∃ A1 n1 c1 A2 n2 c2, e = .returned (.agg #[.slice A1 n1 c1, .slice A2 n2 c2, .int .i64 s.st]) ∧ (VsIn w' (.slice A1 n1 c1) s.vs ∧ ArIn w' (.slice A2 n2 c2) s.ps) ∧ Pl w0 tb rb s vv av v1 a1 w' := by
  refine (shown_any w0.heap.size tb s.st s.vs vv av s.ps W h.1.t).mono ?_
  rintro e w' ⟨v', a', rfl, hr, ha, hb⟩
  obtain ⟨A1, c1, rfl, _⟩ := row_form hr
  obtain ⟨A2, c2, rfl, _⟩ := row_form ha
  exact ⟨A1, _, c1, A2, _, c2, rfl, ⟨vs_row hr, ar_row ha⟩, h.below hb⟩
theorem Pl.same (h : Pl w0 tb rb s vv av v1 a1 W) (v2 a2 : Value) (h2 : VsIn W v2 s.vs ∧ ArIn W a2 s.ps) :
    Calls Try.prog 13 #[.agg #[v2, a2, .int .i64 s.st], .agg #[v1, a1, .int .i64 s.st]] W fun e w' => e = .returned (.bool true) ∧ Pl w0 tb rb s vv av v1 a1 w' := by
  have r := h.1.r
  refine (rsame_any s.vs s.ps v2 a2 v1 a1 s.st W h2.1 h2.2 r.vin r.ain (by have := r.len; omega) (by have := r.plen; omega)).mono ?_
  rintro e w' ⟨rfl, hb⟩
  exact ⟨rfl, h.below hb⟩
theorem Pl.cells (h : Pl w0 tb rb s vv av v1 a1 W) : (W.cell? ⟨rb, 0, none⟩ = some v1 ∧ W.cell? ⟨rb, 1, none⟩ = some a1 ∧ W.cell? ⟨rb, 2, none⟩ = some (.int .i64 s.st)) ∧ rb < W.heap.size :=
  ⟨⟨cell_blk h.1.r.box 0, cell_blk h.1.r.box 1, cell_blk h.1.r.box 2⟩, fin_at h.1.r.box⟩
end
end Go.Proofs.Ytdegkfnlafgheaa.Vr
