/- DERIVED. How a disk, and calls on it, lie in memory; what keeps them. -/
import Derived.Test.YtkmnbbocahjmaaaGreatDoorTreeFind
import Derived.Test.YtkmnbbocahjmaaaGreatDoorVtMath
import Derived.Maps.OwnSet
import Derived.Maps.RangeWalk
import Derived.Maps.Ext
namespace Go.Proofs.YtkmnbbocahjmaaaGreatDoor
open Go.RowKit Go.Sort
open PathM TreeM VtM
set_option linter.unusedVariables false

/-- Of the blocks of w those outside S are as they were. -/
structure Kept (S : Nat → Prop) (w w' : World) : Prop where
  os : w'.os = w.os
  tape : w'.tape = w.tape
  output : w'.output = w.output
  size : w.heap.size ≤ w'.heap.size
  block : ∀ k, k < w.heap.size → ¬ S k → w'.heap[k]? = w.heap[k]?
theorem Kept.refl (S : Nat → Prop) (w : World) : Kept S w w := ⟨rfl, rfl, rfl, Nat.le_refl _, fun _ _ _ => rfl⟩
theorem Kept.trans {S : Nat → Prop} {a b c : World} (h : Kept S a b) (k : Kept S b c) : Kept S a c :=
  ⟨k.os.trans h.os, k.tape.trans h.tape, k.output.trans h.output, Nat.le_trans h.size k.size, fun i hi hs => (k.block i (Nat.lt_of_lt_of_le hi h.size) hs).trans (h.block i hi hs)⟩
theorem Kept.mono {S S' : Nat → Prop} {a b : World} (h : Kept S a b) (hs : ∀ k, S k → S' k) : Kept S' a b :=
  ⟨h.os, h.tape, h.output, h.size, fun i hi hn => h.block i hi (fun hk => hn (hs i hk))⟩
theorem kept_of_below {S : Nat → Prop} {a b : World} (h : Below a.heap.size a b) : Kept S a b := ⟨h.os, h.tape, h.output, h.size, fun i hi _ => h.block i hi⟩
theorem Kept.below {S : Nat → Prop} {a b : World} {B : Nat} (h : Kept S a b) (hB : B ≤ a.heap.size) (hs : ∀ k, S k → B ≤ k) : Below B a b :=
  ⟨h.os, h.tape, h.output, h.size, fun i hi => h.block i (by omega) (fun hk => by have := hs i hk; omega)⟩
theorem Kept.setCell {S : Nat → Prop} {w : World} (a : Addr) (u : Value) (ha : S a.block) : Kept S w (w.setCell a u) :=
  ⟨rfl, rfl, rfl, by simp, fun i hi hn => Below.heap_setCell _ _ _ _ (fun e => hn (e ▸ ha))⟩
theorem Kept.turned {S : Nat → Prop} {w w' : World} {b : Nat} (h : w.mapTurned w' b) (hb : S b) : Kept S w w' := by
  have g := h.grown
  exact ⟨g.os, g.tape, g.output, g.size, fun i hi hn => g.block i hi (fun e => hn (by injection e with e; exact e ▸ hb))⟩
theorem Kept.cell {S : Nat → Prop} {w w' : World} (h : Kept S w w') {p : Addr} (hp : p.block < w.heap.size) (hs : ¬ S p.block) : w'.cell? p = w.cell? p := World.cell?_of_block (h.block _ hp hs)
theorem Kept.at {S : Nat → Prop} {w w' : World} (h : Kept S w w') {b : Nat} {o : Obj} (hb : w.heap[b]? = some o) (hs : ¬ S b) : w'.heap[b]? = some o := by
  have hlt : b < w.heap.size := by
    have := (Array.getElem?_eq_some_iff.1 hb).1; exact this
  exact (h.block b hlt hs).trans hb
theorem blk_lt {w : World} {b : Nat} {o : Obj} (h : w.heap[b]? = some o) : b < w.heap.size := (Array.getElem?_eq_some_iff.1 h).1
theorem blk_ne {w : World} {a b : Nat} {o p : Obj} (h1 : w.heap[a]? = some o) (h2 : w.heap[b]? = some p) (h : o ≠ p) : a ≠ b := by
  intro e; subst e; rw [h1] at h2; exact h (by injection h2)

/-- A block of a type. -/
def OfType (w : World) (b : Nat) (t : TypeId) : Prop := ∃ cs fr, w.heap[b]? = some (.cells cs t fr)
theorem OfType.of {w : World} {b : Nat} {t : TypeId} {cs : Array Value} {fr : Nat × Nat} (h : w.heap[b]? = some (.cells cs t fr)) : OfType w b t := ⟨cs, fr, h⟩
theorem OfType.lt {w : World} {b : Nat} {t : TypeId} (h : OfType w b t) : b < w.heap.size := by obtain ⟨_, _, h⟩ := h; exact blk_lt h
theorem OfType.at {w w' : World} {b : Nat} {t : TypeId} (h : OfType w b t) (hk : w'.heap[b]? = w.heap[b]?) : OfType w' b t := by obtain ⟨cs, fr, h⟩ := h; exact ⟨cs, fr, hk.trans h⟩
theorem OfType.ne {w : World} {a b : Nat} {t u : TypeId} (h1 : OfType w a t) (h2 : OfType w b u) (h : t ≠ u) : a ≠ b := by
  obtain ⟨_, _, h1⟩ := h1; obtain ⟨_, _, h2⟩ := h2
  exact blk_ne h1 h2 (fun e => h (by injection e))
theorem OfType.ne_map {w : World} {a b : Nat} {t : TypeId} {es : Array MapEntry} {c : Nat} (h1 : OfType w a t) (h2 : w.heap[b]? = some (.map es c)) : a ≠ b := by
  obtain ⟨_, _, h1⟩ := h1
  exact blk_ne h1 h2 (fun e => by cases e)

/-- A slice of numbers. -/
def IntsIn (w : World) (B : Nat) (v : Value) (l : List Int) : Prop :=
  ∃ A c, v = .slice A l.length c ∧ l.length ≤ c ∧ (l ≠ [] → ∃ b off, A = some ⟨b, off, none⟩ ∧ b < B ∧ OfType w b 3 ∧ ∀ k, k < l.length → w.cell? ⟨b, off + k, none⟩ = some (.int .i64 (l.getD k 0)))
/-- A slice of texts. -/
def StrsIn (w : World) (B : Nat) (v : Value) (l : List Bs) : Prop :=
  ∃ A c, v = .slice A l.length c ∧ l.length ≤ c ∧ (l ≠ [] → ∃ b off, A = some ⟨b, off, none⟩ ∧ b < B ∧ OfType w b 9 ∧ ∀ k, k < l.length → w.cell? ⟨b, off + k, none⟩ = some (.string (nm (l.getD k []))))
theorem IntsIn.keep {w w' : World} {B : Nat} {v : Value} {l : List Int} (h : IntsIn w B v l) (hk : ∀ b, b < B → OfType w b 3 → w'.heap[b]? = w.heap[b]?) : IntsIn w' B v l := by
  obtain ⟨A, c, h1, h2, h3⟩ := h
  refine ⟨A, c, h1, h2, fun hne => ?_⟩
  obtain ⟨b, off, h4, h5, h6, h7⟩ := h3 hne
  have := hk b h5 h6
  exact ⟨b, off, h4, h5, h6.at this, fun k hk' => (World.cell?_of_block this).trans (h7 k hk')⟩
theorem StrsIn.keep {w w' : World} {B : Nat} {v : Value} {l : List Bs} (h : StrsIn w B v l) (hk : ∀ b, b < B → OfType w b 9 → w'.heap[b]? = w.heap[b]?) : StrsIn w' B v l := by
  obtain ⟨A, c, h1, h2, h3⟩ := h
  refine ⟨A, c, h1, h2, fun hne => ?_⟩
  obtain ⟨b, off, h4, h5, h6, h7⟩ := h3 hne
  have := hk b h5 h6
  exact ⟨b, off, h4, h5, h6.at this, fun k hk' => (World.cell?_of_block this).trans (h7 k hk')⟩
theorem IntsIn.more {w : World} {B B' : Nat} {v : Value} {l : List Int} (h : IntsIn w B v l) (hB : B ≤ B') : IntsIn w B' v l := by
  obtain ⟨A, c, h1, h2, h3⟩ := h
  refine ⟨A, c, h1, h2, fun hne => ?_⟩
  obtain ⟨b, off, h4, h5, h6⟩ := h3 hne
  exact ⟨b, off, h4, by omega, h6⟩
theorem StrsIn.more {w : World} {B B' : Nat} {v : Value} {l : List Bs} (h : StrsIn w B v l) (hB : B ≤ B') : StrsIn w B' v l := by
  obtain ⟨A, c, h1, h2, h3⟩ := h
  refine ⟨A, c, h1, h2, fun hne => ?_⟩
  obtain ⟨b, off, h4, h5, h6⟩ := h3 hne
  exact ⟨b, off, h4, by omega, h6⟩
theorem IntsIn.below {w w' : World} {B : Nat} {v : Value} {l : List Int} (h : IntsIn w B v l) (hb : Below B w w') : IntsIn w' B v l := h.keep fun b hB _ => hb.block b hB
theorem StrsIn.below {w w' : World} {B : Nat} {v : Value} {l : List Bs} (h : StrsIn w B v l) (hb : Below B w w') : StrsIn w' B v l := h.keep fun b hB _ => hb.block b hB
theorem IntsIn.cases {w : World} {B : Nat} {v : Value} {l : List Int} (h : IntsIn w B v l) (hne : l ≠ []) : ∃ b off c, v = .slice (some ⟨b, off, none⟩) l.length c ∧ l.length ≤ c ∧ b < B ∧ OfType w b 3 ∧ ∀ k, k < l.length → w.cell? ⟨b, off + k, none⟩ = some (.int .i64 (l.getD k 0)) := by
  obtain ⟨A, c, h1, h2, h3⟩ := h
  obtain ⟨b, off, rfl, h5, h6, h7⟩ := h3 hne
  exact ⟨b, off, c, h1, h2, h5, h6, h7⟩
theorem StrsIn.cases {w : World} {B : Nat} {v : Value} {l : List Bs} (h : StrsIn w B v l) (hne : l ≠ []) : ∃ b off c, v = .slice (some ⟨b, off, none⟩) l.length c ∧ l.length ≤ c ∧ b < B ∧ OfType w b 9 ∧ ∀ k, k < l.length → w.cell? ⟨b, off + k, none⟩ = some (.string (nm (l.getD k []))) := by
  obtain ⟨A, c, h1, h2, h3⟩ := h
  obtain ⟨b, off, rfl, h5, h6, h7⟩ := h3 hne
  exact ⟨b, off, c, h1, h2, h5, h6, h7⟩
theorem IntsIn.len {w : World} {B : Nat} {v : Value} {l : List Int} (h : IntsIn w B v l) : ∃ A c, v = .slice A l.length c := by obtain ⟨A, c, h, _⟩ := h; exact ⟨A, c, h⟩
theorem StrsIn.len {w : World} {B : Nat} {v : Value} {l : List Bs} (h : StrsIn w B v l) : ∃ A c, v = .slice A l.length c := by obtain ⟨A, c, h, _⟩ := h; exact ⟨A, c, h⟩

/-- A block that has no text (a number's place, a map's): no entries lie there. -/
theorem EntsIn.keepBut {w w' : World} {B : Nat} {v : Value} {es : List Ent} (h : EntsIn w B v es) (S : Nat → Prop) (hn : ∀ b, S b → ∀ i s, w.cell? ⟨b, i, none⟩ ≠ some (.string s)) (hk : ∀ b, b < B → ¬ S b → w'.heap[b]? = w.heap[b]?) : EntsIn w' B v es := by
  obtain ⟨A, c, h1, h2, h3, h4, h5⟩ := h
  refine ⟨A, c, h1, h2, h3, h4, fun hne => ?_⟩
  obtain ⟨b, off, h6, h7, h8⟩ := h5 hne
  have hs : ¬ S b := fun hs => hn b hs _ _ (h8 0 (List.length_pos_iff.2 hne)).1
  have := hk b h7 hs
  exact ⟨b, off, h6, h7, fun k hk2 => ⟨(World.cell?_of_block this).trans (h8 k hk2).1, (World.cell?_of_block this).trans (h8 k hk2).2⟩⟩

/-- .. where a text is never ahead of a number. -/
theorem EntsIn.keepBut2 {w w' : World} {B : Nat} {v : Value} {es : List Ent} (h : EntsIn w B v es) (S : Nat → Prop) (hn : ∀ b, S b → ∀ (i : Nat) (s : ByteArray) (x : Int), w.cell? ⟨b, i, none⟩ = some (Value.string s) → w.cell? ⟨b, i + 1, none⟩ ≠ some (.int .i64 x)) (hk : ∀ b, b < B → ¬ S b → w'.heap[b]? = w.heap[b]?) : EntsIn w' B v es := by
  obtain ⟨A, c, h1, h2, h3, h4, h5⟩ := h
  refine ⟨A, c, h1, h2, h3, h4, fun hne => ?_⟩
  obtain ⟨b, off, h6, h7, h8⟩ := h5 hne
  have h80 := h8 0 (List.length_pos_iff.2 hne)
  have hs : ¬ S b := fun hs => hn b hs _ _ _ h80.1 h80.2
  have := hk b h7 hs
  exact ⟨b, off, h6, h7, fun k hk2 => ⟨(World.cell?_of_block this).trans (h8 k hk2).1, (World.cell?_of_block this).trans (h8 k hk2).2⟩⟩
/-- A node's box has none. -/
theorem box_noEnt {w : World} {b : Nat} {a0 a1 a2 a3 a4 : Value} {s5 : ByteArray} {A : Option Addr} {n c : Nat} {t : TypeId} (h : w.heap[b]? = some (.cells #[a0, a1, a2, a3, a4, .string s5, .slice A n c] t (0, 0)))
    (h0 : ∀ s, a0 ≠ .string s) (h1 : ∀ s, a1 ≠ .string s) (h2 : ∀ s, a2 ≠ .string s) (h3 : ∀ s, a3 ≠ .string s) (h4 : ∀ s, a4 ≠ .string s) : ∀ (i : Nat) (s : ByteArray) (x : Int), w.cell? ⟨b, i, none⟩ = some (Value.string s) → w.cell? ⟨b, i + 1, none⟩ ≠ some (.int .i64 x) := by
  intro i s x e1 e2
  simp only [World.cell?, h] at e1 e2
  match i, e1, e2 with
  | 0, e1, e2 => simp at e1; exact h0 _ e1
  | 1, e1, e2 => simp at e1; exact h1 _ e1
  | 2, e1, e2 => simp at e1; exact h2 _ e1
  | 3, e1, e2 => simp at e1; exact h3 _ e1
  | 4, e1, e2 => simp at e1; exact h4 _ e1
  | 5, e1, e2 => simp at e2
  | 6, e1, e2 => simp at e1
  | n + 7, e1, e2 => simp at e1

/-! ### the map of nodes -/
/-- How a node reads in the map: as the value that lies there. -/
def nodeR (v : Value) : Option (DataW Value × List MemPlace) := some (.held v, [])
theorem keyN : Maps.Keyed Tryz.prog 3 := Maps.int_keyed Tryz.underlying3
theorem wfN {a : Int} (h : -9223372036854775808 ≤ a ∧ a ≤ 9223372036854775807) : (Lit.int .i64 a).wf = true := WalkArith.wf_i64 (by omega)
theorem zeroNode (w : World) : (zeroValue 64).run Tryz.prog w = .ok (ndV (.slice none 0 0) zeroN) w := by kernel_rfl
theorem held_inj {a b : Value} (h : (DataW.held a : DataW Value) = .held b) : a = b := by injection h

/-- Block mb is a map that holds just these nodes; ev: where each one's entries lie. -/
def MapN (w : World) (mb : Nat) (l : List Nd) (ev : Int → Value) : Prop :=
  ∃ D : DataW Value, w.ownsMap Tryz.prog 3 nodeR mb l.length D ∧ Maps.size D = l.length ∧
    ∀ id : Int, (seek l id = none → Maps.has D (.int .i64 id) = false) ∧ ∀ nd, seek l id = some nd → Maps.has D (.int .i64 id) = true ∧ ∀ z, D.atKey (.int .i64 id) z = .held (ndV (ev id) nd)
theorem ownsMap_tight {w : World} {k : TypeId} {R : Value → Option (DataW Value × List MemPlace)} {b n : Nat} {D : DataW Value} (h : w.ownsMap Tryz.prog k R b n D) : w.ownsMap Tryz.prog k R b (Maps.size D) D := by
  obtain ⟨es, clock, h1, h2, h3, h4⟩ := h
  refine ⟨es, clock, h1, h2, ?_, h4⟩
  rw [h4]
  simp [Maps.size, length_sorted]
theorem MapN.lt {w : World} {mb : Nat} {l : List Nd} {ev : Int → Value} (h : MapN w mb l ev) : mb < w.heap.size := by obtain ⟨D, h, _⟩ := h; exact h.lt
theorem MapN.block {w : World} {mb : Nat} {l : List Nd} {ev : Int → Value} (h : MapN w mb l ev) : ∃ es c, w.heap[mb]? = some (.map es c) := by obtain ⟨D, ⟨es, c, h, _⟩, _⟩ := h; exact ⟨es, c, h⟩
theorem MapN.at {w w' : World} {mb : Nat} {l : List Nd} {ev : Int → Value} (h : MapN w mb l ev) (hk : w'.heap[mb]? = w.heap[mb]?) : MapN w' mb l ev := by
  obtain ⟨D, ⟨es, clock, h1, h2⟩, h3⟩ := h
  exact ⟨D, ⟨es, clock, hk.trans h1, h2⟩, h3⟩
theorem MapN.made (w : World) (ev : Int → Value) : MapN (w.alloc (.map #[] 0)) w.heap.size [] ev :=
  ⟨_, World.ownsMap_made w _ _ _, rfl, fun id => ⟨fun _ => rfl, fun nd h => by cases h⟩⟩
theorem MapN.noStr {w : World} {mb : Nat} {l : List Nd} {ev : Int → Value} (h : MapN w mb l ev) (i : Nat) (v : Value) : w.cell? ⟨mb, i, none⟩ ≠ some v := by
  obtain ⟨es, c, h⟩ := h.block
  simp [World.cell?, h]

/-- 'm[id]'. -/
theorem MapN.seek {w : World} {mb : Nat} {l : List Nd} {ev : Int → Value} (h : MapN w mb l ev) (id : Int) (hid : -9223372036854775808 ≤ id ∧ id ≤ 9223372036854775807) :
    (Instr.lookup 108 (.map (some mb)) (.int .i64 id) false).run Tryz.prog w = .ok (ndV (if (VtM.seek l id).isSome = true then ev id else .slice none 0 0) (nod l id)) w := by
  obtain ⟨D, h1, _, h3⟩ := h
  obtain ⟨v, ps, hrun, hv⟩ := h1.lookup keyN Tryz.underlying108 (zeroNode w) (zd := .held (ndV (.slice none 0 0) zeroN)) (zp := []) rfl (Maps.keyOf_int_mk Tryz.underlying3 (wfN hid))
  rw [hrun]
  obtain ⟨g1, g2⟩ := h3 id
  have hv : (DataW.held v : DataW Value) = D.atKey (.int .i64 id) (.held (ndV (.slice none 0 0) zeroN)) := by
    exact congrArg Prod.fst (Option.some.inj hv)
  cases e : VtM.seek l id with
  | none =>
    rw [Maps.atKey_of_not_has (g1 e)] at hv
    have hv := held_inj hv; subst hv; simp [nod, e]
  | some nd =>
    rw [(g2 nd e).2] at hv
    have hv := held_inj hv; subst hv; simp [nod, e]
/-- 'n, ok := m[id]'. -/
theorem MapN.look_ok {w : World} {mb : Nat} {l : List Nd} {ev : Int → Value} (h : MapN w mb l ev) (id : Int) (hid : -9223372036854775808 ≤ id ∧ id ≤ 9223372036854775807) :
    (Instr.lookup 108 (.map (some mb)) (.int .i64 id) true).run Tryz.prog w = .ok (.tuple #[ndV (if (VtM.seek l id).isSome = true then ev id else .slice none 0 0) (nod l id), .bool (VtM.seek l id).isSome]) w := by
  obtain ⟨D, h1, _, h3⟩ := h
  obtain ⟨v, ps, hrun, hv⟩ := h1.look_ok keyN Tryz.underlying108 (zeroNode w) (zd := .held (ndV (.slice none 0 0) zeroN)) (zp := []) rfl (Maps.keyOf_int_mk Tryz.underlying3 (wfN hid))
  rw [hrun]
  obtain ⟨g1, g2⟩ := h3 id
  have hv : (DataW.held v : DataW Value) = D.atKey (.int .i64 id) (.held (ndV (.slice none 0 0) zeroN)) := by
    exact congrArg Prod.fst (Option.some.inj hv)
  cases e : VtM.seek l id with
  | none =>
    have hh := g1 e
    rw [Maps.atKey_of_not_has hh] at hv
    have hv := held_inj hv; subst hv; rw [hh]; simp [nod, e]
  | some nd =>
    have hh := (g2 nd e).1
    rw [(g2 nd e).2] at hv
    have hv := held_inj hv; subst hv; rw [hh]; simp [nod, e]
theorem litN {a b : Int} (h : a ≠ b) : (Lit.int .i64 a) ≠ .int .i64 b := fun e => h (by injection e)
/-- 'm[n.ID] = n'. -/
theorem MapN.put {w : World} {mb : Nat} {l : List Nd} {ev : Int → Value} (h : MapN w mb l ev) (hr : Rise l) (hlen : l.length < 1000000) (nd : Nd) (e : Value) (hid : -9223372036854775808 ≤ nd.id ∧ nd.id ≤ 9223372036854775807) :
    ∃ w', (Instr.mapUpdate 108 (.map (some mb)) (.int .i64 nd.id) (ndV e nd)).run Tryz.prog w = .ok () w' ∧ MapN w' mb (putN nd l) (fun j => if j = nd.id then e else ev j) ∧ w.mapTurned w' mb := by
  obtain ⟨D, h1, h2, h3⟩ := h
  obtain ⟨w', hrun, hown, hturn⟩ := h1.store keyN Tryz.underlying108 (by unfold maxLen; omega) (Maps.keyOf_int_mk Tryz.underlying3 (wfN hid)) (d := .held (ndV e nd)) (ps := []) (val := ndV e nd) rfl
  have hsz : Maps.size (D.put (.int .i64 nd.id) (.held (ndV e nd))) = (putN nd l).length := by
    rw [Maps.size_put (h1.tidy keyN), put_len nd hr, h2]
    obtain ⟨g1, g2⟩ := h3 nd.id
    cases e : VtM.seek l nd.id with
    | none => rw [g1 e]; rfl
    | some x => rw [(g2 x e).1]; rfl
  refine ⟨w', hrun, ⟨_, hsz ▸ ownsMap_tight hown, hsz, fun id => ?_⟩, hturn⟩
  have hkey : WideAt.IsKeyLit (.int .i64 nd.id) := by trivial
  rw [look_put nd hr]
  by_cases ei : id = nd.id
  · subst ei
    refine ⟨fun h => by simp at h, fun x hx => ?_⟩
    simp at hx
    subst hx
    exact ⟨Maps.has_put_same h1.isMap hkey _, fun z => by rw [Maps.atKey_put_same h1.isMap hkey]; simp⟩
  · rw [if_neg ei]
    obtain ⟨g1, g2⟩ := h3 id
    refine ⟨fun h => by rw [Maps.has_put_other (litN ei)]; exact g1 h, fun x hx => ⟨by rw [Maps.has_put_other (litN ei)]; exact (g2 x hx).1, fun z => ?_⟩⟩
    rw [Maps.atKey_put_other (litN ei), (g2 x hx).2]; simp [ei]
/-- 'delete(m, id)'. -/
theorem MapN.del {w : World} {mb : Nat} {l : List Nd} {ev : Int → Value} (h : MapN w mb l ev) (hr : Rise l) (id : Int) (hid : -9223372036854775808 ≤ id ∧ id ≤ 9223372036854775807) (ty : TypeId) :
    ∃ w', (Builtin.delete_ #[108, 3] ty #[.map (some mb), .int .i64 id]).run Tryz.prog w = .ok (.tuple #[]) w' ∧ MapN w' mb (delN id l) ev ∧ w.mapTurned w' mb := by
  obtain ⟨D, h1, h2, h3⟩ := h
  obtain ⟨w', hrun, hown, hturn⟩ := h1.drop keyN Tryz.underlying108 (Maps.keyOf_int_mk Tryz.underlying3 (wfN hid)) ty
  have hsz : Maps.size (D.del (.int .i64 id)) = (delN id l).length := by
    have a1 := Maps.size_del (k := .int .i64 id) (h1.tidy keyN)
    have a2 := del_len id hr
    obtain ⟨g1, g2⟩ := h3 id
    cases e : VtM.seek l id with
    | none => rw [g1 e] at a1; rw [e] at a2; simp at a1 a2; omega
    | some x => rw [(g2 x e).1] at a1; rw [e] at a2; simp at a1 a2; omega
  refine ⟨w', hrun, ⟨_, hsz ▸ ownsMap_tight hown, hsz, fun j => ?_⟩, hturn⟩
  rw [look_del]
  by_cases ei : j = id
  · subst ei
    exact ⟨fun _ => Maps.has_del_same, fun x hx => by simp at hx⟩
  · rw [if_neg ei]
    obtain ⟨g1, g2⟩ := h3 j
    refine ⟨fun h => by rw [Maps.has_del_other (litN ei)]; exact g1 h, fun x hx => ⟨by rw [Maps.has_del_other (litN ei)]; exact (g2 x hx).1, fun z => ?_⟩⟩
    rw [Maps.atKey_del_other (litN ei), (g2 x hx).2]
/-- 'len(m)'. -/
theorem MapN.len {w : World} {mb : Nat} {l : List Nd} {ev : Int → Value} (h : MapN w mb l ev) (ty : TypeId) : (Builtin.len_ #[108] ty #[.map (some mb)]).run Tryz.prog w = .ok (.int .i64 l.length) w := by
  obtain ⟨D, h1, h2, h3⟩ := h
  rw [h1.len Tryz.underlying108 ty, h2]
theorem MapN.congr {w : World} {mb : Nat} {l : List Nd} {ev ev' : Int → Value} (h : MapN w mb l ev) (he : ∀ nd ∈ l, ev nd.id = ev' nd.id) : MapN w mb l ev' := by
  obtain ⟨D, h1, h2, h3⟩ := h
  refine ⟨D, h1, h2, fun id => ⟨(h3 id).1, fun nd hnd => ?_⟩⟩
  obtain ⟨a, b⟩ := (h3 id).2 nd hnd
  obtain ⟨hm, rfl⟩ := look_mem hnd
  exact ⟨a, fun z => by rw [b, he nd hm]⟩

/-! ### the disk -/
def i64 (a : Int) : Prop := -9223372036854775808 ≤ a ∧ a ≤ 9223372036854775807
/-- What the walks ask of a tree; k: how great it may be. -/
structure TrOk (k : Nat) (t : Tr) : Prop where
  rise : Rise t.nodes
  sorted : ∀ nd ∈ t.nodes, Sorted nd.es
  data : ∀ nd ∈ t.nodes, nd.data.length ≤ 4096
  ids : ∀ nd ∈ t.nodes, i64 nd.id ∧ nd.id ≤ t.last
  ents : ∀ nd ∈ t.nodes, nd.es.length ≤ k
  len : t.nodes.length ≤ k
  last : 0 ≤ t.last ∧ t.last ≤ 1099511627776 + k
  rn : i64 t.rn
  rb : i64 t.rb
/-- A disk: its cells, its map, where its entries lie. -/
structure DiskIn (w : World) (db mb : Nat) (t : Tr) (ev : Int → Value) : Prop where
  disk : w.heap[db]? = some (.cells #[.map (some mb), .int .i64 t.last, .int .i64 t.rn, .int .i64 t.rb] 110 (0, 0))
  map : MapN w mb t.nodes ev
  ents : ∀ nd ∈ t.nodes, EntsIn w w.heap.size (ev nd.id) nd.es
theorem DiskIn.below {w w' : World} {db mb : Nat} {t : Tr} {ev : Int → Value} (h : DiskIn w db mb t ev) (hb : Below w.heap.size w w') : DiskIn w' db mb t ev :=
  ⟨(hb.block _ (blk_lt h.disk)).trans h.disk, h.map.at (hb.block _ h.map.lt), fun nd hnd => ((h.ents nd hnd).below hb).more hb.size⟩
/-- What lies in the map at a number. -/
theorem DiskIn.node {w : World} {db mb : Nat} {t : Tr} {ev : Int → Value} (h : DiskIn w db mb t ev) (id : Int) :
    EntsIn w w.heap.size (if (VtM.seek t.nodes id).isSome = true then ev id else .slice none 0 0) (nod t.nodes id).es := by
  unfold nod
  cases e : VtM.seek t.nodes id with
  | none => exact ⟨none, 0, rfl, by simp [zeroN], by simp [zeroN], by simp [zeroN], fun h => absurd rfl h⟩
  | some nd =>
    obtain ⟨hm, rfl⟩ := look_mem e
    exact h.ents nd hm
/-- A disk, calls on it. -/
structure Live (w : World) (fb db mb : Nat) (f : Fs) : Prop where
  files : w.heap[fb]? = some (.cells #[.iface 31 (.pointer (some ⟨db, 0, none⟩)), .int .i64 f.ck] 82 (0, 0))
  disk : ∃ ev, DiskIn w db mb f.t ev
  clock : 0 ≤ f.ck ∧ f.ck ≤ 1099511627776
theorem Live.below {w w' : World} {fb db mb : Nat} {f : Fs} (h : Live w fb db mb f) (hb : Below w.heap.size w w') : Live w' fb db mb f := by
  obtain ⟨ev, hd⟩ := h.disk
  exact ⟨(hb.block _ (blk_lt h.files)).trans h.files, ⟨ev, hd.below hb⟩, h.clock⟩
/-- The three blocks that calls write. -/
def Own3 (fb db mb : Nat) (k : Nat) : Prop := k = fb ∨ k = db ∨ k = mb
end Go.Proofs.YtkmnbbocahjmaaaGreatDoor
