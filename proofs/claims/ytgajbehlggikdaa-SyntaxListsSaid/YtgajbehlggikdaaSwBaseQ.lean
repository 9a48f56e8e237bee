/- DERIVED. How a reader of scripts, and scripts, lie in memory. -/
import Derived.Test.YtgajbehlggikdaaWdGa
import Derived.Test.YtgajbehlggikdaaSyGa
namespace Go.Proofs.Ytgajbehlggikdaa.Sw
open Go.RowKit
open PathM WdM SyM
open Go.Proofs.Ytgajbehlggikdaa.Wd
set_option linter.unusedVariables false

/-- Where what is left begins. -/
def pl (s : ByteArray) (l : Bs) : Nat := s.size - l.length
theorem pl_le (s : ByteArray) (l : Bs) : pl s l ≤ s.size := Nat.sub_le _ _
theorem suf_len {s : ByteArray} {l : Bs} (h : l <:+ s.data.toList) : l.length ≤ s.size := by rw [sizeD]; exact h.length_le
theorem pl_drop {s : ByteArray} {l : Bs} (h : l <:+ s.data.toList) : s.data.toList.drop (pl s l) = l := by
  obtain ⟨t, ht⟩ := h
  have : pl s l = t.length := by unfold pl; rw [sizeD, ← ht, List.length_append]; omega
  rw [this, ← ht, List.drop_left]
theorem suf_drop (s : ByteArray) (n : Nat) : s.data.toList.drop n <:+ s.data.toList := List.drop_suffix _ _
theorem pl_of {s : ByteArray} {l : Bs} {n : Nat} (h : l = s.data.toList.drop n) (hn : n ≤ s.size) : pl s l = n := by
  unfold pl; rw [h, List.length_drop, ← sizeD]; omega
theorem pl_nil (s : ByteArray) : pl s [] = s.size := by unfold pl; simp
theorem pl_eq_size {s : ByteArray} {l : Bs} (h : l <:+ s.data.toList) : pl s l = s.size ↔ l = [] := by
  have := suf_len h
  unfold pl
  rw [← List.length_eq_zero_iff]; omega
theorem ext_pl {s : ByteArray} {l : Bs} (h : l <:+ s.data.toList) : s.extract (pl s l) s.size = nm l := by rw [ext_from, pl_drop h]
theorem ext_pl2 {s : ByteArray} {l : Bs} (h : l <:+ s.data.toList) {n : Nat} (hn : n = pl s l) : s.extract n s.size = nm l := by rw [hn, ext_pl h]

/-- A reader of scripts: its text, what is left of it, the levels around. -/
structure RdS (w : World) (rb : Nat) (s : ByteArray) (l : Bs) (wi : Nat) : Prop where
  blk : w.heap[rb]? = some (.cells #[.string s, .int .i64 (pl s l), .int .i64 wi] 51 (0, 0))
  suf : l <:+ s.data.toList
section
variable {w w' : World} {rb : Nat} {s : ByteArray} {l : Bs} {wi : Nat}
theorem RdS.c0 (h : RdS w rb s l wi) : w.cell? ⟨rb, 0, none⟩ = some (.string s) := cell_blk h.blk 0
theorem RdS.c1 (h : RdS w rb s l wi) : w.cell? ⟨rb, 1, none⟩ = some (.int .i64 (pl s l)) := cell_blk h.blk 1
theorem RdS.c2 (h : RdS w rb s l wi) : w.cell? ⟨rb, 2, none⟩ = some (.int .i64 wi) := cell_blk h.blk 2
theorem RdS.fz (h : RdS w rb s l wi) (j : Nat) : w.frozen? ⟨rb, j, none⟩ = false := froz_blk h.blk j
theorem RdS.lt (h : RdS w rb s l wi) : rb < w.heap.size := fin_at h.blk
theorem RdS.drewN (h : RdS w rb s l wi) (k : Nat) : RdS (w.drewN k) rb s l wi := ⟨h.blk, h.suf⟩
theorem RdS.below {B : Nat} (h : RdS w rb s l wi) (hb : Below B w w') (hr : rb < B) : RdS w' rb s l wi := ⟨(hb.block rb hr).trans h.blk, h.suf⟩
theorem RdS.told (h : RdS w rb s l wi) (hb : Below w.heap.size w w') : RdS w' rb s l wi := h.below hb h.lt
theorem RdS.kept {S : Nat → Prop} (h : RdS w rb s l wi) (hk : Kept S w w') (hs : ¬ S rb) : RdS w' rb s l wi := ⟨hk.at h.blk hs, h.suf⟩
theorem RdS.at_ (h : RdS w rb s l wi) {r : Bs} (hr : r <:+ s.data.toList) {n : Int} (hn : n = (pl s r : Nat)) : RdS (w.setCell ⟨rb, 1, none⟩ (.int .i64 n)) rb s r wi := by
  refine ⟨?_, hr⟩
  subst hn
  simpa using set_blk (j := 1) h.blk (.int .i64 (pl s r : Nat))
theorem RdS.lev (h : RdS w rb s l wi) (v : Nat) {n : Int} (hn : n = (v : Nat)) : RdS (w.setCell ⟨rb, 2, none⟩ (.int .i64 n)) rb s l v := by
  refine ⟨?_, h.suf⟩
  subst hn
  simpa using set_blk (j := 2) h.blk (.int .i64 (v : Nat))
theorem RdS.len (h : RdS w rb s l wi) : l.length ≤ s.size := suf_len h.suf
end

/-- What reading is given up with. -/
def sflt (at_ : Nat) (e : Int) : Ending := .panicked [{ v := .iface 49 (.agg #[.int .i64 at_, .int .i64 e]), recovered := false }]
/-- A call that only tells. -/
def Told (w : World) (v : Value) (e : Ending) (w' : World) : Prop := e = .returned v ∧ Below w.heap.size w w'
/-- Blocks that are new. -/
def Nw (z : Nat) (w : World) (k : Nat) : Prop := z ≤ k ∧ k < w.heap.size
/-- A call that reads, as the model says. -/
def Reads {α : Type} (rb : Nat) (s : ByteArray) (wi : Nat) (m : Rs α) (V : World → (Nat → Prop) → Value → α → Prop) (w : World) (e : Ending) (w' : World) : Prop :=
  Kept (· = rb) w w' ∧ match m with
    | .ok x r => ∃ v, e = .returned v ∧ RdS w' rb s r wi ∧ V w' (Nw w.heap.size w') v x
    | .bad a er => e = sflt (s.size - a) er
theorem kept_told {S : Nat → Prop} {w w' : World} (h : Below w.heap.size w w') : Kept S w w' := kept_of_below h
theorem kept_below {w w' : World} {rb B : Nat} (h : Kept (· = rb) w w') (hB : B ≤ w.heap.size) (hr : B ≤ rb) : Below B w w' := h.below hB (fun k e => by omega)

/-- How values lie, by the cells that they take. -/
abbrev Rep (α : Type) := World → (Nat → Prop) → List Value → α → Prop
def Good {α : Type} (R : Rep α) : Prop := ∀ w w' S S' vs x, (∀ k, k < w.heap.size → S k → S' k ∧ w'.heap[k]? = w.heap[k]?) → R w S vs x → R w' S' vs x
def GoodV {α : Type} (R : World → (Nat → Prop) → Value → α → Prop) : Prop := ∀ w w' S S' v x, (∀ k, k < w.heap.size → S k → S' k ∧ w'.heap[k]? = w.heap[k]?) → R w S v x → R w' S' v x
theorem pin_good (d : Nat) : GoodV (PIn d) := by
  intro w w' S S' v l hk h
  have h1 : PIn d w (fun k => S k ∧ k < w.heap.size) v l := PIn.mono (fun k hk hs => ⟨hs, hk⟩) d v l h
  have h2 : PIn d w' (fun k => S k ∧ k < w.heap.size) v l := PIn.keep (fun k hs => (hk k hs.2 hs.1).2) d v l h1
  exact PIn.mono (fun k _ hs => (hk k hs.2 hs.1).1) d v l h2
/-- A slice. -/
def Sl {α : Type} (size : Nat) (R : Rep α) (w : World) (S : Nat → Prop) (v : Value) (l : List α) : Prop :=
  ∃ (A : Option Addr) (c : Nat), v = .slice A l.length c ∧ l.length ≤ 281474976710656 ∧ (l ≠ [] → ∃ b off, A = some ⟨b, off, none⟩ ∧ S b ∧ b < w.heap.size ∧
    ∀ i x, l[i]? = some x → ∃ vs, vs.length = size ∧ (∀ j u, vs[j]? = some u → w.cell? ⟨b, off + i * size + j, none⟩ = some u) ∧ R w S vs x)
theorem Sl.good {α : Type} (size : Nat) (R : Rep α) (hR : Good R) : GoodV (Sl size R) := by
  rintro w w' S S' v l hk ⟨A, c, hv, hl, h⟩
  refine ⟨A, c, hv, hl, fun hne => ?_⟩
  obtain ⟨b, off, hA, hb, hlt, hc⟩ := h hne
  have hz : b < w'.heap.size := by
    have := (hk b hlt hb).2
    rw [Array.getElem?_eq_getElem hlt] at this
    exact fin_at this
  refine ⟨b, off, hA, (hk b hlt hb).1, hz, fun i x hx => ?_⟩
  obtain ⟨vs, h1, h2, h3⟩ := hc i x hx
  exact ⟨vs, h1, fun j u hu => (World.cell?_of_block (hk b hlt hb).2).trans (h2 j u hu), hR w w' S S' vs x hk h3⟩
theorem Sl.nil {α : Type} (size : Nat) (R : Rep α) (w : World) (S : Nat → Prop) (A : Option Addr) (c : Nat) : Sl size R w S (.slice A 0 c) [] := ⟨A, c, rfl, by simp, fun h => absurd rfl h⟩
theorem Sl.form {α : Type} {size : Nat} {R : Rep α} {w : World} {S : Nat → Prop} {v : Value} {l : List α} (h : Sl size R w S v l) : ∃ A n c, v = .slice A n c := by obtain ⟨A, c, hv, _⟩ := h; exact ⟨A, _, c, hv⟩

def RWord : Rep (List PT) := fun w S vs x => ∃ v, vs = [v] ∧ PIn 17 w S v x
def RStr : Rep Bs := fun _ _ vs x => vs = [.string (nm x)]
def RAs : Rep AsT := fun w S vs x => ∃ v, vs = [.string (nm x.name), v] ∧ PIn 17 w S v x.word
def RRd : Rep RdT := fun w S vs x => ∃ v, vs = [.int .i64 x.fd, .string (nm x.op), v] ∧ PIn 17 w S v x.word
abbrev RepV (α : Type) := World → (Nat → Prop) → Value → α → Prop
def RCs (L : RepV (List LiT)) : Rep CsT := fun w S vs x => match x with | .mk ps b => ∃ pv bv, vs = [pv, bv] ∧ Sl 1 RWord w S pv ps ∧ L w S bv b
def RCmd (L : RepV (List LiT)) : Rep CmdT := fun w S vs x => match x with
  | .mk k n xs ws c b o cs rs => ∃ av wv cv bv ov sv rv, vs = [.int .i64 k, .string (nm n), av, wv, cv, bv, ov, sv, rv] ∧
    Sl 2 RAs w S av xs ∧ Sl 1 RWord w S wv ws ∧ L w S cv c ∧ L w S bv b ∧ L w S ov o ∧ Sl 2 (RCs L) w S sv cs ∧ Sl 3 RRd w S rv rs ∧ (rs = [] → rv = .slice none 0 0)
def RPi (L : RepV (List LiT)) : Rep PiT := fun w S vs x => match x with | .mk n cs => ∃ cv, vs = [.bool n, cv] ∧ Sl 9 (RCmd L) w S cv cs
def RLi (L : RepV (List LiT)) : Rep LiT := fun w S vs x => match x with | .mk ps os => ∃ pv ov, vs = [pv, ov] ∧ Sl 2 (RPi L) w S pv ps ∧ Sl 1 RStr w S ov os
/-- Lists, so deep at most. -/
def LsIn : Nat → RepV (List LiT)
  | 0 => fun _ _ v l => l = [] ∧ ∃ A c, v = .slice A 0 c
  | d + 1 => Sl 2 (RLi (LsIn d))
theorem RWord.good : Good RWord := by rintro w w' S S' vs x hk ⟨v, hv, h⟩; exact ⟨v, hv, pin_good 17 w w' S S' v x hk h⟩
theorem RStr.good : Good RStr := fun _ _ _ _ _ _ _ h => h
theorem RAs.good : Good RAs := by rintro w w' S S' vs x hk ⟨v, hv, h⟩; exact ⟨v, hv, pin_good 17 w w' S S' v _ hk h⟩
theorem RRd.good : Good RRd := by rintro w w' S S' vs x hk ⟨v, hv, h⟩; exact ⟨v, hv, pin_good 17 w w' S S' v _ hk h⟩
theorem RCs.good {L : RepV (List LiT)} (hL : GoodV L) : Good (RCs L) := by
  rintro w w' S S' vs ⟨ps, b⟩ hk ⟨pv, bv, hv, h1, h2⟩
  exact ⟨pv, bv, hv, Sl.good 1 RWord RWord.good w w' S S' _ _ hk h1, hL w w' S S' _ _ hk h2⟩
theorem RCmd.good {L : RepV (List LiT)} (hL : GoodV L) : Good (RCmd L) := by
  rintro w w' S S' vs ⟨k, n, xs, ws, c, b, o, cs, rs⟩ hk ⟨av, wv, cv, bv, ov, sv, rv, hv, h1, h2, h3, h4, h5, h6, h7, h8⟩
  exact ⟨av, wv, cv, bv, ov, sv, rv, hv, Sl.good 2 RAs RAs.good w w' S S' _ _ hk h1, Sl.good 1 RWord RWord.good w w' S S' _ _ hk h2, hL w w' S S' _ _ hk h3, hL w w' S S' _ _ hk h4, hL w w' S S' _ _ hk h5,
    Sl.good 2 (RCs L) (RCs.good hL) w w' S S' _ _ hk h6, Sl.good 3 RRd RRd.good w w' S S' _ _ hk h7, h8⟩
theorem RPi.good {L : RepV (List LiT)} (hL : GoodV L) : Good (RPi L) := by
  rintro w w' S S' vs ⟨n, cs⟩ hk ⟨cv, hv, h1⟩
  exact ⟨cv, hv, Sl.good 9 (RCmd L) (RCmd.good hL) w w' S S' _ _ hk h1⟩
theorem RLi.good {L : RepV (List LiT)} (hL : GoodV L) : Good (RLi L) := by
  rintro w w' S S' vs ⟨ps, os⟩ hk ⟨pv, ov, hv, h1, h2⟩
  exact ⟨pv, ov, hv, Sl.good 2 (RPi L) (RPi.good hL) w w' S S' _ _ hk h1, Sl.good 1 RStr RStr.good w w' S S' _ _ hk h2⟩
theorem LsIn.good : ∀ d, GoodV (LsIn d)
  | 0 => fun _ _ _ _ _ _ _ h => h
  | d + 1 => Sl.good 2 (RLi (LsIn d)) (RLi.good (LsIn.good d))
theorem LsIn.nil (d : Nat) (w : World) (S : Nat → Prop) (A : Option Addr) (c : Nat) : LsIn d w S (.slice A 0 c) [] := by
  cases d with
  | zero => exact ⟨rfl, A, c, rfl⟩
  | succ d => exact Sl.nil _ _ _ _ _ _
theorem LsIn.form {d : Nat} {w : World} {S : Nat → Prop} {v : Value} {l : List LiT} (h : LsIn d w S v l) : ∃ A n c, v = .slice A n c := by
  cases d with
  | zero => obtain ⟨_, A, c, hv⟩ := h; exact ⟨A, 0, c, hv⟩
  | succ d => exact Sl.form h

/-- A row of the call's own, and what its cells stand for. -/
structure Own {α : Type} (size : Nat) (R : Rep α) (T : TypeId) (base : Nat) (w : World) (v : Value) (l : List α) : Prop where
  row : ∃ vss : List (List Value), w.ownsRow base T size v l.length vss.flatten ∧ vss.length = l.length ∧ ∀ i (h : i < vss.length) (h' : i < l.length), (vss[i]).length = size ∧ R w (Nw base w) vss[i] l[i]
theorem Own.nil {α : Type} (size : Nat) (R : Rep α) (T : TypeId) (base : Nat) (w : World) : Own size R T base w (.slice none 0 0) [] :=
  ⟨⟨[], World.ownsRow_nil _ _ _ _, rfl, fun i h => by cases h⟩⟩
theorem Own.form {α : Type} {size : Nat} {R : Rep α} {T : TypeId} {base : Nat} {w : World} {v : Value} {l : List α} (h : Own size R T base w v l) : ∃ a cap, v = .slice a l.length cap := by
  obtain ⟨vss, h, _⟩ := h.row; exact row_len h
theorem Own.blk {α : Type} {size : Nat} {R : Rep α} {T : TypeId} {base : Nat} {w : World} {v : Value} {l : List α} (h : Own size R T base w v l) : ∀ k, v.ownBlock = some k → base ≤ k ∧ k < w.heap.size := by
  obtain ⟨vss, h, _⟩ := h.row; exact h.lt
theorem Own.kept {α : Type} {size : Nat} {R : Rep α} (hR : Good R) {T : TypeId} {base : Nat} {w w' : World} {v : Value} {l : List α} {S : Nat → Prop} (h : Own size R T base w v l) (hk : Kept S w w') (hs : ∀ k, S k → k < base) : Own size R T base w' v l := by
  obtain ⟨vss, ⟨hl, h1⟩, h2, h3⟩ := h.row
  refine ⟨⟨vss, ⟨hl, ?_⟩, h2, fun i hi hi' => ⟨(h3 i hi hi').1, hR w w' _ _ _ _ (fun k hk1 hk2 => ⟨⟨hk2.1, Nat.lt_of_lt_of_le hk2.2 hk.size⟩, hk.block k hk1 (fun e => by have := hs k e; have := hk2.1; omega)⟩) (h3 i hi hi').2⟩⟩⟩
  rcases h1 with hn | ⟨g, cap, cur, rfl, hb, hg, rest⟩
  · exact .inl hn
  · exact .inr ⟨g, cap, cur, rfl, hb, (hk.block g (fin_at hg) (fun e => by have := hs g e; omega)).trans hg, rest⟩
theorem flat_get {size : Nat} : ∀ (vss : List (List Value)) (i j : Nat) (u : Value) (hi : i < vss.length), (∀ i (h : i < vss.length), (vss[i]).length = size) → (vss[i])[j]? = some u → vss.flatten[i * size + j]? = some u
  | [], i, j, u, hi, _, _ => by cases hi
  | v :: vss, 0, j, u, hi, hl, h => by
    have hj : j < v.length := by
      rcases Nat.lt_or_ge j v.length with h' | h'
      · exact h'
      · rw [List.getElem_cons_zero, List.getElem?_eq_none h'] at h; cases h
    rw [List.flatten_cons, Nat.zero_mul, Nat.zero_add, List.getElem?_append_left hj]; exact h
  | v :: vss, i + 1, j, u, hi, hl, h => by
    have h0 := hl 0 (by simp)
    rw [List.getElem_cons_zero] at h0
    have := flat_get vss i j u (by simpa using hi) (fun i hi => by have := hl (i + 1) (by simpa using hi); simpa using this) (by simpa using h)
    rw [List.flatten_cons, List.getElem?_append_right (by rw [h0, Nat.succ_mul]; omega), h0]
    rw [show (i + 1) * size + j - size = i * size + j from by rw [Nat.succ_mul]; omega]
    exact this
theorem Own.sl {α : Type} {size : Nat} {R : Rep α} {T : TypeId} {base : Nat} {w : World} {v : Value} {l : List α} (h : Own size R T base w v l) (hm : l.length ≤ 281474976710656) : Sl size R w (Nw base w) v l := by
  obtain ⟨vss, h1, h2, h3⟩ := h.row
  obtain ⟨a, cap, rfl⟩ := row_len h1
  refine ⟨a, cap, rfl, hm, fun hne => ?_⟩
  have hlt := h1.lt
  rcases h1.2 with ⟨_, h0⟩ | ⟨g, cap', cur, hv, hb, hg, _⟩
  · exact absurd (List.length_eq_zero_iff.1 h0) hne
  · injection hv with hv1 hv2 hv3
    subst hv1
    refine ⟨g, 0, rfl, ⟨hb, fin_at hg⟩, fin_at hg, fun i x hx => ?_⟩
    obtain ⟨hi, hx⟩ := List.getElem?_eq_some_iff.1 hx
    have hi2 : i < vss.length := by omega
    refine ⟨vss[i], (h3 i hi2 hi).1, fun j u hu => ?_, hx ▸ (h3 i hi2 hi).2⟩
    rw [Nat.zero_add]
    exact (row_cell h1 _ u (flat_get vss i j u hi2 (fun i h => (h3 i h (by omega)).1) hu)).1
/-- One more behind. -/
theorem Own.snoc {α : Type} {size : Nat} {R : Rep α} (hR : Good R) {T : TypeId} {base : Nat} {w w2 : World} {v v2 : Value} {l : List α} {x : α} {vs : List Value} {vss : List (List Value)}
    (hrow : w2.ownsRow base T size v2 (l.length + 1) (vss.flatten ++ vs)) (hl : vss.length = l.length) (h : ∀ i (h : i < vss.length) (h' : i < l.length), (vss[i]).length = size ∧ R w2 (Nw base w2) vss[i] l[i])
    (hv : vs.length = size) (hx : R w2 (Nw base w2) vs x) : Own size R T base w2 v2 (l ++ [x]) := by
  refine ⟨⟨vss ++ [vs], ?_, by simp [hl], fun i hi hi' => ?_⟩⟩
  · rw [List.length_append, List.flatten_append]; simpa using hrow
  · by_cases e : i < l.length
    · have e2 : i < vss.length := by omega
      rw [List.getElem_append_left e2, List.getElem_append_left e]; exact h i e2 e
    · have e3 : i = l.length := by simp at hi'; omega
      subst e3
      have e2 : (vss ++ [vs])[l.length]'hi = vs := by rw [List.getElem_append_right (by omega)]; simp [hl]
      rw [e2]
      simp only [List.getElem_append_right (Nat.le_refl _), Nat.sub_self, List.getElem_cons_zero]
      exact ⟨hv, hx⟩

end Go.Proofs.Ytgajbehlggikdaa.Sw
