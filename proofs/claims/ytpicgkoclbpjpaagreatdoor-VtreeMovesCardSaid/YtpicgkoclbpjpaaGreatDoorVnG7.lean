/- DERIVED. Stage 5, several texts in one: VtMem VtDisk VtEnts VtBound VtDisk2 VtRange. -/
import Derived.Test.YtpicgkoclbpjpaaGreatDoorVnG2
import Derived.Test.YtpicgkoclbpjpaaGreatDoorVnG5
import Derived.Maps.OwnSet
import Derived.Maps.RangeWalk
import Derived.Maps.Ext
import Derived.Test.YtpicgkoclbpjpaaGreatDoorShelf3
import Derived.StillTailTactics
section
namespace Go.Proofs.YtpicgkoclbpjpaaGreatDoor
open Go.RowKit Go.Sort
open PathM TreeM VtM
set_option linter.unusedVariables false

/-- Of the blocks of w those outside S are as they were. -/
structure Kept (S : Nat → Prop) (w w' : World) : Prop where
  os : w'.os = w.os
  tape : w'.tape = w.tape
  output : w'.output = w.output
  size : w.heap.size ≤ w'.heap.size
  block : ∀ k, k < w.heap.size → ¬ S k → w'.heap[k]? = w.heap[k]?
theorem Kept.refl (S : Nat → Prop) (w : World) : Kept S w w := ⟨rfl, rfl, rfl, Nat.le_refl _, fun _ _ _ => rfl⟩
theorem Kept.trans {S : Nat → Prop} {a b c : World} (h : Kept S a b) (k : Kept S b c) : Kept S a c :=
  ⟨k.os.trans h.os, k.tape.trans h.tape, k.output.trans h.output, Nat.le_trans h.size k.size, fun i hi hs => (k.block i (Nat.lt_of_lt_of_le hi h.size) hs).trans (h.block i hi hs)⟩
theorem Kept.mono {S S' : Nat → Prop} {a b : World} (h : Kept S a b) (hs : ∀ k, S k → S' k) : Kept S' a b :=
  ⟨h.os, h.tape, h.output, h.size, fun i hi hn => h.block i hi (fun hk => hn (hs i hk))⟩
theorem kept_of_below {S : Nat → Prop} {a b : World} (h : Below a.heap.size a b) : Kept S a b := ⟨h.os, h.tape, h.output, h.size, fun i hi _ => h.block i hi⟩
theorem Kept.below {S : Nat → Prop} {a b : World} {B : Nat} (h : Kept S a b) (hB : B ≤ a.heap.size) (hs : ∀ k, S k → B ≤ k) : Below B a b :=
  ⟨h.os, h.tape, h.output, h.size, fun i hi => h.block i (by omega) (fun hk => by have := hs i hk; omega)⟩
theorem Kept.setCell {S : Nat → Prop} {w : World} (a : Addr) (u : Value) (ha : S a.block) : Kept S w (w.setCell a u) :=
  ⟨rfl, rfl, rfl, by simp, fun i hi hn => Below.heap_setCell _ _ _ _ (fun e => hn (e ▸ ha))⟩
theorem Kept.turned {S : Nat → Prop} {w w' : World} {b : Nat} (h : w.mapTurned w' b) (hb : S b) : Kept S w w' := by
  have g := h.grown
  exact ⟨g.os, g.tape, g.output, g.size, fun i hi hn => g.block i hi (fun e => hn (by injection e with e; exact e ▸ hb))⟩
theorem Kept.cell {S : Nat → Prop} {w w' : World} (h : Kept S w w') {p : Addr} (hp : p.block < w.heap.size) (hs : ¬ S p.block) : w'.cell? p = w.cell? p := World.cell?_of_block (h.block _ hp hs)
theorem Kept.at {S : Nat → Prop} {w w' : World} (h : Kept S w w') {b : Nat} {o : Obj} (hb : w.heap[b]? = some o) (hs : ¬ S b) : w'.heap[b]? = some o := by
  have hlt : b < w.heap.size := by
    have := (Array.getElem?_eq_some_iff.1 hb).1; exact this
  exact (h.block b hlt hs).trans hb
theorem blk_lt {w : World} {b : Nat} {o : Obj} (h : w.heap[b]? = some o) : b < w.heap.size := (Array.getElem?_eq_some_iff.1 h).1
theorem blk_ne {w : World} {a b : Nat} {o p : Obj} (h1 : w.heap[a]? = some o) (h2 : w.heap[b]? = some p) (h : o ≠ p) : a ≠ b := by
  intro e; subst e; rw [h1] at h2; exact h (by injection h2)

/-- A block of a type. -/
def OfType (w : World) (b : Nat) (t : TypeId) : Prop := ∃ cs fr, w.heap[b]? = some (.cells cs t fr)
theorem OfType.of {w : World} {b : Nat} {t : TypeId} {cs : Array Value} {fr : Nat × Nat} (h : w.heap[b]? = some (.cells cs t fr)) : OfType w b t := ⟨cs, fr, h⟩
theorem OfType.lt {w : World} {b : Nat} {t : TypeId} (h : OfType w b t) : b < w.heap.size := by obtain ⟨_, _, h⟩ := h; exact blk_lt h
theorem OfType.at {w w' : World} {b : Nat} {t : TypeId} (h : OfType w b t) (hk : w'.heap[b]? = w.heap[b]?) : OfType w' b t := by obtain ⟨cs, fr, h⟩ := h; exact ⟨cs, fr, hk.trans h⟩
theorem OfType.ne {w : World} {a b : Nat} {t u : TypeId} (h1 : OfType w a t) (h2 : OfType w b u) (h : t ≠ u) : a ≠ b := by
  obtain ⟨_, _, h1⟩ := h1; obtain ⟨_, _, h2⟩ := h2
  exact blk_ne h1 h2 (fun e => h (by injection e))
theorem OfType.ne_map {w : World} {a b : Nat} {t : TypeId} {es : Array MapEntry} {c : Nat} (h1 : OfType w a t) (h2 : w.heap[b]? = some (.map es c)) : a ≠ b := by
  obtain ⟨_, _, h1⟩ := h1
  exact blk_ne h1 h2 (fun e => by cases e)

/-- A slice of numbers. -/
def IntsIn (w : World) (B : Nat) (v : Value) (l : List Int) : Prop :=
  ∃ A c, v = .slice A l.length c ∧ l.length ≤ c ∧ (l ≠ [] → ∃ b off, A = some ⟨b, off, none⟩ ∧ b < B ∧ OfType w b 3 ∧ ∀ k, k < l.length → w.cell? ⟨b, off + k, none⟩ = some (.int .i64 (l.getD k 0)))
/-- A slice of texts. -/
def StrsIn (w : World) (B : Nat) (v : Value) (l : List Bs) : Prop :=
  ∃ A c, v = .slice A l.length c ∧ l.length ≤ c ∧ (l ≠ [] → ∃ b off, A = some ⟨b, off, none⟩ ∧ b < B ∧ OfType w b 9 ∧ ∀ k, k < l.length → w.cell? ⟨b, off + k, none⟩ = some (.string (nm (l.getD k []))))
theorem IntsIn.keep {w w' : World} {B : Nat} {v : Value} {l : List Int} (h : IntsIn w B v l) (hk : ∀ b, b < B → OfType w b 3 → w'.heap[b]? = w.heap[b]?) : IntsIn w' B v l := by
  obtain ⟨A, c, h1, h2, h3⟩ := h
  refine ⟨A, c, h1, h2, fun hne => ?_⟩
  obtain ⟨b, off, h4, h5, h6, h7⟩ := h3 hne
  have := hk b h5 h6
  exact ⟨b, off, h4, h5, h6.at this, fun k hk' => (World.cell?_of_block this).trans (h7 k hk')⟩
theorem StrsIn.keep {w w' : World} {B : Nat} {v : Value} {l : List Bs} (h : StrsIn w B v l) (hk : ∀ b, b < B → OfType w b 9 → w'.heap[b]? = w.heap[b]?) : StrsIn w' B v l := by
  obtain ⟨A, c, h1, h2, h3⟩ := h
  refine ⟨A, c, h1, h2, fun hne => ?_⟩
  obtain ⟨b, off, h4, h5, h6, h7⟩ := h3 hne
  have := hk b h5 h6
  exact ⟨b, off, h4, h5, h6.at this, fun k hk' => (World.cell?_of_block this).trans (h7 k hk')⟩
theorem IntsIn.more {w : World} {B B' : Nat} {v : Value} {l : List Int} (h : IntsIn w B v l) (hB : B ≤ B') : IntsIn w B' v l := by
  obtain ⟨A, c, h1, h2, h3⟩ := h
  refine ⟨A, c, h1, h2, fun hne => ?_⟩
  obtain ⟨b, off, h4, h5, h6⟩ := h3 hne
  exact ⟨b, off, h4, by omega, h6⟩
theorem StrsIn.more {w : World} {B B' : Nat} {v : Value} {l : List Bs} (h : StrsIn w B v l) (hB : B ≤ B') : StrsIn w B' v l := by
  obtain ⟨A, c, h1, h2, h3⟩ := h
  refine ⟨A, c, h1, h2, fun hne => ?_⟩
  obtain ⟨b, off, h4, h5, h6⟩ := h3 hne
  exact ⟨b, off, h4, by omega, h6⟩
theorem IntsIn.below {w w' : World} {B : Nat} {v : Value} {l : List Int} (h : IntsIn w B v l) (hb : Below B w w') : IntsIn w' B v l := h.keep fun b hB _ => hb.block b hB
theorem StrsIn.below {w w' : World} {B : Nat} {v : Value} {l : List Bs} (h : StrsIn w B v l) (hb : Below B w w') : StrsIn w' B v l := h.keep fun b hB _ => hb.block b hB
theorem IntsIn.cases {w : World} {B : Nat} {v : Value} {l : List Int} (h : IntsIn w B v l) (hne : l ≠ []) : ∃ b off c, v = .slice (some ⟨b, off, none⟩) l.length c ∧ l.length ≤ c ∧ b < B ∧ OfType w b 3 ∧ ∀ k, k < l.length → w.cell? ⟨b, off + k, none⟩ = some (.int .i64 (l.getD k 0)) := by
  obtain ⟨A, c, h1, h2, h3⟩ := h
  obtain ⟨b, off, rfl, h5, h6, h7⟩ := h3 hne
  exact ⟨b, off, c, h1, h2, h5, h6, h7⟩
theorem StrsIn.cases {w : World} {B : Nat} {v : Value} {l : List Bs} (h : StrsIn w B v l) (hne : l ≠ []) : ∃ b off c, v = .slice (some ⟨b, off, none⟩) l.length c ∧ l.length ≤ c ∧ b < B ∧ OfType w b 9 ∧ ∀ k, k < l.length → w.cell? ⟨b, off + k, none⟩ = some (.string (nm (l.getD k []))) := by
  obtain ⟨A, c, h1, h2, h3⟩ := h
  obtain ⟨b, off, rfl, h5, h6, h7⟩ := h3 hne
  exact ⟨b, off, c, h1, h2, h5, h6, h7⟩
theorem IntsIn.len {w : World} {B : Nat} {v : Value} {l : List Int} (h : IntsIn w B v l) : ∃ A c, v = .slice A l.length c := by obtain ⟨A, c, h, _⟩ := h; exact ⟨A, c, h⟩
theorem StrsIn.len {w : World} {B : Nat} {v : Value} {l : List Bs} (h : StrsIn w B v l) : ∃ A c, v = .slice A l.length c := by obtain ⟨A, c, h, _⟩ := h; exact ⟨A, c, h⟩

/-- A block that has no text (a number's place, a map's): no entries lie there. -/
theorem EntsIn.keepBut {w w' : World} {B : Nat} {v : Value} {es : List Ent} (h : EntsIn w B v es) (S : Nat → Prop) (hn : ∀ b, S b → ∀ i s, w.cell? ⟨b, i, none⟩ ≠ some (.string s)) (hk : ∀ b, b < B → ¬ S b → w'.heap[b]? = w.heap[b]?) : EntsIn w' B v es := by
  obtain ⟨A, c, h1, h2, h3, h4, h5⟩ := h
  refine ⟨A, c, h1, h2, h3, h4, fun hne => ?_⟩
  obtain ⟨b, off, h6, h7, h8⟩ := h5 hne
  have hs : ¬ S b := fun hs => hn b hs _ _ (h8 0 (List.length_pos_iff.2 hne)).1
  have := hk b h7 hs
  exact ⟨b, off, h6, h7, fun k hk2 => ⟨(World.cell?_of_block this).trans (h8 k hk2).1, (World.cell?_of_block this).trans (h8 k hk2).2⟩⟩

/-- .. where a text is never ahead of a number. -/
theorem EntsIn.keepBut2 {w w' : World} {B : Nat} {v : Value} {es : List Ent} (h : EntsIn w B v es) (S : Nat → Prop) (hn : ∀ b, S b → ∀ (i : Nat) (s : ByteArray) (x : Int), w.cell? ⟨b, i, none⟩ = some (Value.string s) → w.cell? ⟨b, i + 1, none⟩ ≠ some (.int .i64 x)) (hk : ∀ b, b < B → ¬ S b → w'.heap[b]? = w.heap[b]?) : EntsIn w' B v es := by
  obtain ⟨A, c, h1, h2, h3, h4, h5⟩ := h
  refine ⟨A, c, h1, h2, h3, h4, fun hne => ?_⟩
  obtain ⟨b, off, h6, h7, h8⟩ := h5 hne
  have h80 := h8 0 (List.length_pos_iff.2 hne)
  have hs : ¬ S b := fun hs => hn b hs _ _ _ h80.1 h80.2
  have := hk b h7 hs
  exact ⟨b, off, h6, h7, fun k hk2 => ⟨(World.cell?_of_block this).trans (h8 k hk2).1, (World.cell?_of_block this).trans (h8 k hk2).2⟩⟩
/-- A node's box has none. -/
theorem box_noEnt {w : World} {b : Nat} {a0 a1 a2 a3 a4 : Value} {s5 : ByteArray} {A : Option Addr} {n c : Nat} {t : TypeId} (h : w.heap[b]? = some (.cells #[a0, a1, a2, a3, a4, .string s5, .slice A n c] t (0, 0)))
    (h0 : ∀ s, a0 ≠ .string s) (h1 : ∀ s, a1 ≠ .string s) (h2 : ∀ s, a2 ≠ .string s) (h3 : ∀ s, a3 ≠ .string s) (h4 : ∀ s, a4 ≠ .string s) : ∀ (i : Nat) (s : ByteArray) (x : Int), w.cell? ⟨b, i, none⟩ = some (Value.string s) → w.cell? ⟨b, i + 1, none⟩ ≠ some (.int .i64 x) := by
  intro i s x e1 e2
  simp only [World.cell?, h] at e1 e2
  match i, e1, e2 with
  | 0, e1, e2 => simp at e1; exact h0 _ e1
  | 1, e1, e2 => simp at e1; exact h1 _ e1
  | 2, e1, e2 => simp at e1; exact h2 _ e1
  | 3, e1, e2 => simp at e1; exact h3 _ e1
  | 4, e1, e2 => simp at e1; exact h4 _ e1
  | 5, e1, e2 => simp at e2
  | 6, e1, e2 => simp at e1
  | n + 7, e1, e2 => simp at e1

/-! ### the map of nodes -/
/-- How a node reads in the map: as the value that lies there. -/
def nodeR (v : Value) : Option (DataW Value × List MemPlace) := some (.held v, [])
theorem keyN : Maps.Keyed Tryz.prog 3 := Maps.int_keyed Tryz.underlying3
theorem wfN {a : Int} (h : -9223372036854775808 ≤ a ∧ a ≤ 9223372036854775807) : (Lit.int .i64 a).wf = true := WalkArith.wf_i64 (by omega)
theorem zeroNode (w : World) : (zeroValue 64).run Tryz.prog w = .ok (ndV (.slice none 0 0) zeroN) w := by kernel_rfl
theorem held_inj {a b : Value} (h : (DataW.held a : DataW Value) = .held b) : a = b := by injection h

/-- Block mb is a map that holds just these nodes; ev: where each one's entries lie. -/
def MapN (w : World) (mb : Nat) (l : List Nd) (ev : Int → Value) : Prop :=
  ∃ D : DataW Value, w.ownsMap Tryz.prog 3 nodeR mb l.length D ∧ Maps.size D = l.length ∧
    ∀ id : Int, (seek l id = none → Maps.has D (.int .i64 id) = false) ∧ ∀ nd, seek l id = some nd → Maps.has D (.int .i64 id) = true ∧ ∀ z, D.atKey (.int .i64 id) z = .held (ndV (ev id) nd)
theorem ownsMap_tight {w : World} {k : TypeId} {R : Value → Option (DataW Value × List MemPlace)} {b n : Nat} {D : DataW Value} (h : w.ownsMap Tryz.prog k R b n D) : w.ownsMap Tryz.prog k R b (Maps.size D) D := by
  obtain ⟨es, clock, h1, h2, h3, h4⟩ := h
  refine ⟨es, clock, h1, h2, ?_, h4⟩
  rw [h4]
  simp [Maps.size, length_sorted]
theorem MapN.lt {w : World} {mb : Nat} {l : List Nd} {ev : Int → Value} (h : MapN w mb l ev) : mb < w.heap.size := by obtain ⟨D, h, _⟩ := h; exact h.lt
theorem MapN.block {w : World} {mb : Nat} {l : List Nd} {ev : Int → Value} (h : MapN w mb l ev) : ∃ es c, w.heap[mb]? = some (.map es c) := by obtain ⟨D, ⟨es, c, h, _⟩, _⟩ := h; exact ⟨es, c, h⟩
theorem MapN.at {w w' : World} {mb : Nat} {l : List Nd} {ev : Int → Value} (h : MapN w mb l ev) (hk : w'.heap[mb]? = w.heap[mb]?) : MapN w' mb l ev := by
  obtain ⟨D, ⟨es, clock, h1, h2⟩, h3⟩ := h
  exact ⟨D, ⟨es, clock, hk.trans h1, h2⟩, h3⟩
theorem MapN.made (w : World) (ev : Int → Value) : MapN (w.alloc (.map #[] 0)) w.heap.size [] ev :=
  ⟨_, World.ownsMap_made w _ _ _, rfl, fun id => ⟨fun _ => rfl, fun nd h => by cases h⟩⟩
theorem MapN.noStr {w : World} {mb : Nat} {l : List Nd} {ev : Int → Value} (h : MapN w mb l ev) (i : Nat) (v : Value) : w.cell? ⟨mb, i, none⟩ ≠ some v := by
  obtain ⟨es, c, h⟩ := h.block
  simp [World.cell?, h]

/-- 'm[id]'. -/
theorem MapN.seek {w : World} {mb : Nat} {l : List Nd} {ev : Int → Value} (h : MapN w mb l ev) (id : Int) (hid : -9223372036854775808 ≤ id ∧ id ≤ 9223372036854775807) :
    (Instr.lookup 108 (.map (some mb)) (.int .i64 id) false).run Tryz.prog w = .ok (ndV (if (VtM.seek l id).isSome = true then ev id else .slice none 0 0) (nod l id)) w := by
  obtain ⟨D, h1, _, h3⟩ := h
  obtain ⟨v, ps, hrun, hv⟩ := h1.lookup keyN Tryz.underlying108 (zeroNode w) (zd := .held (ndV (.slice none 0 0) zeroN)) (zp := []) rfl (Maps.keyOf_int_mk Tryz.underlying3 (wfN hid))
  rw [hrun]
  obtain ⟨g1, g2⟩ := h3 id
  have hv : (DataW.held v : DataW Value) = D.atKey (.int .i64 id) (.held (ndV (.slice none 0 0) zeroN)) := by
    exact congrArg Prod.fst (Option.some.inj hv)
  cases e : VtM.seek l id with
  | none =>
    rw [Maps.atKey_of_not_has (g1 e)] at hv
    have hv := held_inj hv; subst hv; simp [nod, e]
  | some nd =>
    rw [(g2 nd e).2] at hv
    have hv := held_inj hv; subst hv; simp [nod, e]
/-- 'n, ok := m[id]'. -/
theorem MapN.look_ok {w : World} {mb : Nat} {l : List Nd} {ev : Int → Value} (h : MapN w mb l ev) (id : Int) (hid : -9223372036854775808 ≤ id ∧ id ≤ 9223372036854775807) :
    (Instr.lookup 108 (.map (some mb)) (.int .i64 id) true).run Tryz.prog w = .ok (.tuple #[ndV (if (VtM.seek l id).isSome = true then ev id else .slice none 0 0) (nod l id), .bool (VtM.seek l id).isSome]) w := by
  obtain ⟨D, h1, _, h3⟩ := h
  obtain ⟨v, ps, hrun, hv⟩ := h1.look_ok keyN Tryz.underlying108 (zeroNode w) (zd := .held (ndV (.slice none 0 0) zeroN)) (zp := []) rfl (Maps.keyOf_int_mk Tryz.underlying3 (wfN hid))
  rw [hrun]
  obtain ⟨g1, g2⟩ := h3 id
  have hv : (DataW.held v : DataW Value) = D.atKey (.int .i64 id) (.held (ndV (.slice none 0 0) zeroN)) := by
    exact congrArg Prod.fst (Option.some.inj hv)
  cases e : VtM.seek l id with
  | none =>
    have hh := g1 e
    rw [Maps.atKey_of_not_has hh] at hv
    have hv := held_inj hv; subst hv; rw [hh]; simp [nod, e]
  | some nd =>
    have hh := (g2 nd e).1
    rw [(g2 nd e).2] at hv
    have hv := held_inj hv; subst hv; rw [hh]; simp [nod, e]
theorem litN {a b : Int} (h : a ≠ b) : (Lit.int .i64 a) ≠ .int .i64 b := fun e => h (by injection e)
/-- 'm[n.ID] = n'. -/
theorem MapN.put {w : World} {mb : Nat} {l : List Nd} {ev : Int → Value} (h : MapN w mb l ev) (hr : Rise l) (hlen : l.length < 1000000) (nd : Nd) (e : Value) (hid : -9223372036854775808 ≤ nd.id ∧ nd.id ≤ 9223372036854775807) :
    ∃ w', (Instr.mapUpdate 108 (.map (some mb)) (.int .i64 nd.id) (ndV e nd)).run Tryz.prog w = .ok () w' ∧ MapN w' mb (putN nd l) (fun j => if j = nd.id then e else ev j) ∧ w.mapTurned w' mb := by
  obtain ⟨D, h1, h2, h3⟩ := h
  obtain ⟨w', hrun, hown, hturn⟩ := h1.store keyN Tryz.underlying108 (by unfold maxLen; omega) (Maps.keyOf_int_mk Tryz.underlying3 (wfN hid)) (d := .held (ndV e nd)) (ps := []) (val := ndV e nd) rfl
  have hsz : Maps.size (D.put (.int .i64 nd.id) (.held (ndV e nd))) = (putN nd l).length := by
    rw [Maps.size_put (h1.tidy keyN), put_len nd hr, h2]
    obtain ⟨g1, g2⟩ := h3 nd.id
    cases e : VtM.seek l nd.id with
    | none => rw [g1 e]; rfl
    | some x => rw [(g2 x e).1]; rfl
  refine ⟨w', hrun, ⟨_, hsz ▸ ownsMap_tight hown, hsz, fun id => ?_⟩, hturn⟩
  have hkey : WideAt.IsKeyLit (.int .i64 nd.id) := by trivial
  rw [look_put nd hr]
  by_cases ei : id = nd.id
  · subst ei
    refine ⟨fun h => by simp at h, fun x hx => ?_⟩
    simp at hx
    subst hx
    exact ⟨Maps.has_put_same h1.isMap hkey _, fun z => by rw [Maps.atKey_put_same h1.isMap hkey]; simp⟩
  · rw [if_neg ei]
    obtain ⟨g1, g2⟩ := h3 id
    refine ⟨fun h => by rw [Maps.has_put_other (litN ei)]; exact g1 h, fun x hx => ⟨by rw [Maps.has_put_other (litN ei)]; exact (g2 x hx).1, fun z => ?_⟩⟩
    rw [Maps.atKey_put_other (litN ei), (g2 x hx).2]; simp [ei]
/-- 'delete(m, id)'. -/
theorem MapN.del {w : World} {mb : Nat} {l : List Nd} {ev : Int → Value} (h : MapN w mb l ev) (hr : Rise l) (id : Int) (hid : -9223372036854775808 ≤ id ∧ id ≤ 9223372036854775807) (ty : TypeId) :
    ∃ w', (Builtin.delete_ #[108, 3] ty #[.map (some mb), .int .i64 id]).run Tryz.prog w = .ok (.tuple #[]) w' ∧ MapN w' mb (delN id l) ev ∧ w.mapTurned w' mb := by
  obtain ⟨D, h1, h2, h3⟩ := h
  obtain ⟨w', hrun, hown, hturn⟩ := h1.drop keyN Tryz.underlying108 (Maps.keyOf_int_mk Tryz.underlying3 (wfN hid)) ty
  have hsz : Maps.size (D.del (.int .i64 id)) = (delN id l).length := by
    have a1 := Maps.size_del (k := .int .i64 id) (h1.tidy keyN)
    have a2 := del_len id hr
    obtain ⟨g1, g2⟩ := h3 id
    cases e : VtM.seek l id with
    | none => rw [g1 e] at a1; rw [e] at a2; simp at a1 a2; omega
    | some x => rw [(g2 x e).1] at a1; rw [e] at a2; simp at a1 a2; omega
  refine ⟨w', hrun, ⟨_, hsz ▸ ownsMap_tight hown, hsz, fun j => ?_⟩, hturn⟩
  rw [look_del]
  by_cases ei : j = id
  · subst ei
    exact ⟨fun _ => Maps.has_del_same, fun x hx => by simp at hx⟩
  · rw [if_neg ei]
    obtain ⟨g1, g2⟩ := h3 j
    refine ⟨fun h => by rw [Maps.has_del_other (litN ei)]; exact g1 h, fun x hx => ⟨by rw [Maps.has_del_other (litN ei)]; exact (g2 x hx).1, fun z => ?_⟩⟩
    rw [Maps.atKey_del_other (litN ei), (g2 x hx).2]
/-- 'len(m)'. -/
theorem MapN.len {w : World} {mb : Nat} {l : List Nd} {ev : Int → Value} (h : MapN w mb l ev) (ty : TypeId) : (Builtin.len_ #[108] ty #[.map (some mb)]).run Tryz.prog w = .ok (.int .i64 l.length) w := by
  obtain ⟨D, h1, h2, h3⟩ := h
  rw [h1.len Tryz.underlying108 ty, h2]
theorem MapN.congr {w : World} {mb : Nat} {l : List Nd} {ev ev' : Int → Value} (h : MapN w mb l ev) (he : ∀ nd ∈ l, ev nd.id = ev' nd.id) : MapN w mb l ev' := by
  obtain ⟨D, h1, h2, h3⟩ := h
  refine ⟨D, h1, h2, fun id => ⟨(h3 id).1, fun nd hnd => ?_⟩⟩
  obtain ⟨a, b⟩ := (h3 id).2 nd hnd
  obtain ⟨hm, rfl⟩ := look_mem hnd
  exact ⟨a, fun z => by rw [b, he nd hm]⟩

/-! ### the disk -/
def i64 (a : Int) : Prop := -9223372036854775808 ≤ a ∧ a ≤ 9223372036854775807
/-- What the walks ask of a tree; k: how great it may be. -/
structure TrOk (k : Nat) (t : Tr) : Prop where
  rise : Rise t.nodes
  sorted : ∀ nd ∈ t.nodes, Sorted nd.es
  data : ∀ nd ∈ t.nodes, nd.data.length ≤ 4096
  ids : ∀ nd ∈ t.nodes, i64 nd.id ∧ nd.id ≤ t.last
  ents : ∀ nd ∈ t.nodes, nd.es.length ≤ k
  len : t.nodes.length ≤ k
  last : 0 ≤ t.last ∧ t.last ≤ 1099511627776 + k
  rn : i64 t.rn
  rb : i64 t.rb
/-- A disk: its cells, its map, where its entries lie. -/
structure DiskIn (w : World) (db mb : Nat) (t : Tr) (ev : Int → Value) : Prop where
  disk : w.heap[db]? = some (.cells #[.map (some mb), .int .i64 t.last, .int .i64 t.rn, .int .i64 t.rb] 110 (0, 0))
  map : MapN w mb t.nodes ev
  ents : ∀ nd ∈ t.nodes, EntsIn w w.heap.size (ev nd.id) nd.es
theorem DiskIn.below {w w' : World} {db mb : Nat} {t : Tr} {ev : Int → Value} (h : DiskIn w db mb t ev) (hb : Below w.heap.size w w') : DiskIn w' db mb t ev :=
  ⟨(hb.block _ (blk_lt h.disk)).trans h.disk, h.map.at (hb.block _ h.map.lt), fun nd hnd => ((h.ents nd hnd).below hb).more hb.size⟩
/-- What lies in the map at a number. -/
theorem DiskIn.node {w : World} {db mb : Nat} {t : Tr} {ev : Int → Value} (h : DiskIn w db mb t ev) (id : Int) :
    EntsIn w w.heap.size (if (VtM.seek t.nodes id).isSome = true then ev id else .slice none 0 0) (nod t.nodes id).es := by
  unfold nod
  cases e : VtM.seek t.nodes id with
  | none => exact ⟨none, 0, rfl, by simp [zeroN], by simp [zeroN], by simp [zeroN], fun h => absurd rfl h⟩
  | some nd =>
    obtain ⟨hm, rfl⟩ := look_mem e
    exact h.ents nd hm
/-- A disk, calls on it. -/
structure Live (w : World) (fb db mb : Nat) (f : Fs) : Prop where
  files : w.heap[fb]? = some (.cells #[.iface 31 (.pointer (some ⟨db, 0, none⟩)), .int .i64 f.ck] 82 (0, 0))
  disk : ∃ ev, DiskIn w db mb f.t ev
  clock : 0 ≤ f.ck ∧ f.ck ≤ 1099511627776
theorem Live.below {w w' : World} {fb db mb : Nat} {f : Fs} (h : Live w fb db mb f) (hb : Below w.heap.size w w') : Live w' fb db mb f := by
  obtain ⟨ev, hd⟩ := h.disk
  exact ⟨(hb.block _ (blk_lt h.files)).trans h.files, ⟨ev, hd.below hb⟩, h.clock⟩
/-- The three blocks that calls write. -/
def Own3 (fb db mb : Nat) (k : Nat) : Prop := k = fb ∨ k = db ∨ k = mb
end Go.Proofs.YtpicgkoclbpjpaaGreatDoor
end

section
namespace Go.Proofs.YtpicgkoclbpjpaaGreatDoor
open Go.RowKit Go.Sort
open PathM TreeM VtM
set_option linter.unusedVariables false

theorem dnone_any (db : Nat) (mb : Nat) (w : World) (c0 : w.cell? ⟨db, 0, none⟩ = some (.map (some mb))) :
    Calls Tryz.prog 56 #[.pointer (some ⟨db, 0, none⟩)] w fun e w' => e = .returned (.bool false) ∧ w = w' := by
  have h1 := fun wx => run_eql_map_nil (P := Tryz.prog) wx 108 3 64 (some mb) Tryz.underlying108
  go_enter Tryz.func56, Tryz.ntmps56
  go_wp2
  go_ret
  exact ⟨rfl, rfl⟩
theorem DiskIn.c0 {w : World} {db mb : Nat} {t : Tr} {ev : Int → Value} (h : DiskIn w db mb t ev) : w.cell? ⟨db, 0, none⟩ = some (.map (some mb)) := (cell_blk h.disk 0).trans rfl
theorem DiskIn.c1 {w : World} {db mb : Nat} {t : Tr} {ev : Int → Value} (h : DiskIn w db mb t ev) : w.cell? ⟨db, 1, none⟩ = some (.int .i64 t.last) := (cell_blk h.disk 1).trans rfl
theorem DiskIn.c2 {w : World} {db mb : Nat} {t : Tr} {ev : Int → Value} (h : DiskIn w db mb t ev) : w.cell? ⟨db, 2, none⟩ = some (.int .i64 t.rn) := (cell_blk h.disk 2).trans rfl
theorem DiskIn.c3 {w : World} {db mb : Nat} {t : Tr} {ev : Int → Value} (h : DiskIn w db mb t ev) : w.cell? ⟨db, 3, none⟩ = some (.int .i64 t.rb) := (cell_blk h.disk 3).trans rfl

theorem fieldN1 (a0 a1 a2 a3 a4 a5 a6 : Value) (W : World) : (Instr.field 64 (.agg #[a0, a1, a2, a3, a4, a5, a6]) 1).run Tryz.prog W = .ok a1 W := by kernel_rfl
theorem fieldN5 (a0 a1 a2 a3 a4 a5 a6 : Value) (W : World) : (Instr.field 64 (.agg #[a0, a1, a2, a3, a4, a5, a6]) 5).run Tryz.prog W = .ok a5 W := by kernel_rfl
theorem fieldN6 (a0 a1 a2 a3 a4 a5 a6 : Value) (W : World) : (Instr.field 64 (.agg #[a0, a1, a2, a3, a4, a5, a6]) 6).run Tryz.prog W = .ok a6 W := by kernel_rfl
def NodePost (nd : Nd) (w : World) (e : Ending) (w' : World) : Prop := ∃ xv, e = .returned (ndV xv nd) ∧ EntsIn w' w'.heap.size xv nd.es ∧ Below w.heap.size w w'
set_option maxRecDepth 100000 in
set_option maxHeartbeats 4000000 in
theorem node_any (db mb : Nat) (t : Tr) (ev : Int → Value) (id : Int) (w : World) (h : DiskIn w db mb t ev) (hid : i64 id) :
    Calls Tryz.prog 206 #[.pointer (some ⟨db, 0, none⟩), .int .i64 id] w (NodePost (nod t.nodes id) w) := by
  unfold NodePost
  have hd0 := h.below ((Below.refl _ _).alloc (Nat.le_refl _) (.cells #[.int .i64 0, .int .i64 0, .int .i64 0, .int .i64 0, .int .i64 0, .string { data := #[] }, .slice none 0 0] 64))
  have hl := hd0.map.seek id hid
  have hE := h.node id
  have c0 := hd0.c0
  generalize (if (VtM.seek t.nodes id).isSome = true then ev id else .slice none 0 0 : Value) = xv at hl hE
  generalize nod t.nodes id = nd at hl hE ⊢
  obtain ⟨Ae, ce, rfl, _⟩ := ents_len hE
  have HE := Lib.hid hE
  clear h hd0 hE
  unfold ndV at hl ⊢
  go_enter Tryz.func206, Tryz.ntmps206
  go_wp2_with (go_at_call 56; refine (dnone_any db mb _ c0).mono ?_; rintro e w' ⟨rfl, rfl⟩)
  have hb := (Below.refl w.heap.size w).alloc (Nat.le_refl _) (.cells #[.int .i64 nd.id, .int .i64 nd.kind, .int .i64 nd.mode, .int .i64 nd.owner, .int .i64 nd.time, .string (nm nd.data), .slice Ae nd.es.length ce] 64)
  refine bodyPost_ret (results_cell_row rfl _ _ _ 64 _ (0, 0) _ rfl (heap_alloc_new w _) Tryz.underlying64 rfl (by kernel_rfl)) rfl ?_
  exact ⟨_, rfl, (HE.out.below hb).more hb.size, hb⟩

/-- Behind seven stores into a box of the call's own. -/
theorem seven_below {B : Nat} {w W : World} {b : Nat} (h : Below B w W) (hb : B ≤ b) (v0 v1 v2 v3 v4 v5 v6 : Value) :
    Below B w (((((((W.setCell ⟨b, 0, none⟩ v0).setCell ⟨b, 1, none⟩ v1).setCell ⟨b, 2, none⟩ v2).setCell ⟨b, 3, none⟩ v3).setCell ⟨b, 4, none⟩ v4).setCell ⟨b, 5, none⟩ v5).setCell ⟨b, 6, none⟩ v6) :=
  ((((((h.setCell (p := ⟨b, 0, none⟩) hb _).setCell (p := ⟨b, 1, none⟩) hb _).setCell (p := ⟨b, 2, none⟩) hb _).setCell (p := ⟨b, 3, none⟩) hb _).setCell (p := ⟨b, 4, none⟩) hb _).setCell (p := ⟨b, 5, none⟩) hb _).setCell (p := ⟨b, 6, none⟩) hb _
/-- What a reader of a number answers. -/
def IntPost (a : Int) (w : World) (e : Ending) (w' : World) : Prop := e = .returned (.int .i64 a) ∧ Below w.heap.size w w'
set_option maxRecDepth 100000 in
set_option maxHeartbeats 1000000 in
theorem kind_any (db mb : Nat) (t : Tr) (ev : Int → Value) (id : Int) (w : World) (h : DiskIn w db mb t ev) (hid : i64 id) :
    Calls Tryz.prog 200 #[.pointer (some ⟨db, 0, none⟩), .int .i64 id] w (IntPost (nod t.nodes id).kind w) := by
  have hn := node_any db mb t ev id w h hid
  unfold NodePost at hn
  unfold IntPost
  generalize nod t.nodes id = nd at hn ⊢
  have HN := Lib.hid hn
  clear hn h
  unfold ndV at HN
  have hf := fieldN1
  go_enter Tryz.func200, Tryz.ntmps200
  go_wp2_with (go_at_call 206; refine HN.out.mono ?_; rintro e w1 ⟨xv, rfl, hE, hb⟩; obtain ⟨Ae, ce, rfl, _⟩ := ents_len hE)
  go_ret
  exact ⟨rfl, hb⟩
set_option maxRecDepth 100000 in
set_option maxHeartbeats 4000000 in
theorem dnode_any (db mb : Nat) (t : Tr) (ev : Int → Value) (id : Int) (w : World) (h : DiskIn w db mb t ev) (hid : i64 id) :
    Calls Tryz.prog 202 #[.pointer (some ⟨db, 0, none⟩), .int .i64 id] w fun e w' => e = .returned (ndV (.slice none 0 0) (nod t.nodes id)) ∧ Below w.heap.size w w' := by
  have hd0 := h.below ((Below.refl _ _).alloc (Nat.le_refl _) (.cells #[.int .i64 0, .int .i64 0, .int .i64 0, .int .i64 0, .int .i64 0, .string { data := #[] }, .slice none 0 0] 64))
  have hn := node_any db mb t ev id _ hd0 hid
  unfold NodePost at hn
  generalize nod t.nodes id = nd at hn ⊢
  have HN := Lib.hid hn
  clear hn h hd0
  unfold ndV at HN ⊢
  go_enter Tryz.func202, Tryz.ntmps202
  go_wp2_with (go_at_call 206; refine HN.out.mono ?_; rintro e w1 ⟨xv, rfl, hE, hb⟩; obtain ⟨Ae, ce, rfl, _⟩ := ents_len hE; have RB := (hb.block w.heap.size (by simp)).trans (heap_alloc_new w _); have hlt := blk_lt RB; have f0 := froz_blk RB 0; have f1 := froz_blk RB 1; have f2 := froz_blk RB 2; have f3 := froz_blk RB 3; have f4 := froz_blk RB 4; have f5 := froz_blk RB 5; have f6 := froz_blk RB 6; have s0 := cell_blk RB 0; have s1 := cell_blk RB 1; have s2 := cell_blk RB 2; have s3 := cell_blk RB 3; have s4 := cell_blk RB 4; have s5 := cell_blk RB 5; have s6 := cell_blk RB 6; simp at s0 s1 s2 s3 s4 s5 s6; have HB := Lib.hid hb; have HRB := Lib.hid RB; clear hE hb RB)
  refine bodyPost_ret (results_cell_row rfl _ _ _ 64 _ (0, 0) _ rfl ((heap_alloc_old _ _ (by simp; exact hlt)).trans (seven_set HRB.out _ _ _ _ _ _ _)) Tryz.underlying64 rfl (by kernel_rfl)) rfl ?_
  exact ⟨rfl, (seven_below (((Below.refl _ _).alloc (Nat.le_refl _) _).trans (HB.out.mono (by simp))) (Nat.le_refl _) _ _ _ _ _ _ _).alloc (by simp; omega) _⟩

set_option maxRecDepth 100000 in
set_option maxHeartbeats 1000000 in
theorem entry_any (db mb : Nat) (t : Tr) (ev : Int → Value) (id : Int) (key : ByteArray) (w : World) (h : DiskIn w db mb t ev) (hid : i64 id) (hs : Sorted (nod t.nodes id).es) :
    Calls Tryz.prog 198 #[.pointer (some ⟨db, 0, none⟩), .int .i64 id, .string key] w (IntPost (entT t id key.data.toList) w) := by
  have hn := node_any db mb t ev id w h hid
  unfold NodePost at hn
  have hch := fun ev W hE => child_any ev (nod t.nodes id) key W.heap.size W hE (Nat.le_refl _) hs
  unfold ChildPost at hch
  unfold IntPost entT
  generalize childO (nod t.nodes id).es key.data.toList = o at hch ⊢
  generalize nod t.nodes id = nd at hn hch ⊢
  have HN := Lib.hid hn; have HC := Lib.hid hch
  clear hn h hch hs
  unfold ndV at HN HC
  go_enter Tryz.func198, Tryz.ntmps198
  go_wp2_with (first | (go_at_call 206; refine HN.out.mono ?_; rintro e w1 ⟨xv, rfl, hE, hb⟩; obtain ⟨Ae, ce, rfl, _⟩ := ents_len hE; have HE := Lib.hid hE; have HB := Lib.hid hb; clear hE hb) | (go_at_call 207; refine (HC.out _ _ HE.out).mono ?_; rintro e w2 ⟨rfl, hb2⟩; have HB2 := Lib.hid (HB.out.trans (hb2.mono HB.out.size)); clear hb2))
  go_ret
  exact ⟨rfl, HB2.out⟩
set_option maxRecDepth 100000 in
theorem fresh_any (db mb : Nat) (t : Tr) (ev : Int → Value) (w : World) (h : DiskIn w db mb t ev) (hl : 0 ≤ t.last ∧ t.last < 9223372036854775807) :
    Calls Tryz.prog 199 #[.pointer (some ⟨db, 0, none⟩)] w (IntPost (t.last + 1) w) := by
  have c0 := h.c0
  have c1 := h.c1
  unfold IntPost
  generalize t.last = la at *
  clear h
  obtain ⟨h1, h2⟩ := hl
  go_enter Tryz.func199, Tryz.ntmps199
  go_wp2_with (go_at_call 56; refine (dnone_any db mb _ c0).mono ?_; rintro e w' ⟨rfl, rfl⟩)
  go_ret
  exact ⟨rfl, Below.refl _ _⟩
set_option maxRecDepth 100000 in
set_option maxHeartbeats 1000000 in
theorem room_any (db mb : Nat) (t : Tr) (ev : Int → Value) (w : World) (h : DiskIn w db mb t ev) :
    Calls Tryz.prog 204 #[.pointer (some ⟨db, 0, none⟩)] w fun e w' => e = .returned (.agg #[.int .i64 t.rn, .int .i64 t.rb]) ∧ Below w.heap.size w w' := by
  have hd0 := h.below ((Below.refl _ _).alloc (Nat.le_refl _) (.cells #[.int .i64 0, .int .i64 0] 24))
  have c0 := hd0.c0
  have c2 := hd0.c2
  have c3 := hd0.c3
  generalize t.rn = rn at *
  generalize t.rb = rb at *
  clear h hd0
  go_enter Tryz.func204, Tryz.ntmps204
  go_wp2_with (go_at_call 56; refine (dnone_any db mb _ c0).mono ?_; rintro e w' ⟨rfl, rfl⟩)
  refine bodyPost_ret (results_cell_row rfl _ _ _ 24 _ (0, 0) _ rfl (heap_alloc_new w _) Tryz.underlying24 rfl (by kernel_rfl)) rfl ?_
  exact ⟨rfl, (Below.refl w.heap.size w).alloc (Nat.le_refl _) _⟩
end Go.Proofs.YtpicgkoclbpjpaaGreatDoor
end

section
namespace Go.Proofs.YtpicgkoclbpjpaaGreatDoor
open Go.RowKit Go.Sort Go.Lib
open PathM TreeM VtM
set_option linter.unusedVariables false

theorem run_append_own_empty {P : Program} {w : World} (t ty e : TypeId) (i : TypeInfo) (ht : P.underlying t = some (.slice e)) (hi : P.info? e = some i) (g n cap : Nat) (hn : n ≤ cap) (A : Option Addr) (c : Nat) :
    (Builtin.append_ #[t, t] ty #[.slice (some ⟨g, 0, none⟩) n cap, .slice A 0 c]).run P w = .ok (.slice (some ⟨g, 0, none⟩) n cap) w := by
  cases A with
  | none => simp [Builtin.append_, run_underlying ht, sizeOf, typeInfo, hi, Builtin.lenOf, Builtin.firstCells, storeCells, hn]
  | some ad => simp [Builtin.append_, run_underlying ht, sizeOf, typeInfo, hi, Builtin.lenOf, Builtin.firstCells, loadCells, loadCellsFrom, storeCells, hn]

/-- Entries, from wherever, behind a row of the call's own. -/
theorem wpList_app_ents {w : World} {ops : Array Oper} {rest : List Oper} {o : Oper} {a : Act} {Q : Exit → Act → World → Prop} (hgd : o.guard = none) (s x : Operand)
    (ho : o.op = .call { callee := .builtin .append, args := #[s, x], argTypes := #[62, 62] }) (base : Nat) (v : Value) (es1 es : List Ent) (hs : a.eval s = v) (hown : w.ownsRow base 75 2 v es1.length (es1.flatMap entC)) (hbase : base ≤ w.heap.size)
    (ev : Value) (B : Nat) (hx : a.eval x = ev) (hE : EntsIn w B ev es) (hlen : (es1.length + es.length) * 24 ≤ 140737488355328)
    (h : ∀ v' w', w'.ownsRow base 75 2 v' (es1 ++ es).length ((es1 ++ es).flatMap entC) → w.grownBy w' v.ownBlock → wpList Tryz.prog ops Q rest (a.put o.dst v') w') : wpList Tryz.prog ops Q (o :: rest) a w := by
  obtain ⟨i0, hi, hz0, hz1, hz2⟩ := info_parts info59
  obtain ⟨h1, h2, ⟨A, c, rfl, rfl⟩ | ⟨b, off, c, rfl, h3, h4, h5, h6⟩⟩ := hE.cases
  · refine wpList_plain hgd fun K hK => ?_
    have hrun : (Builtin.append_ #[62, 62] o.type #[v, .slice A 0 c]).run Tryz.prog w = .ok v w := by
      rcases hown.2 with ⟨e1, e2⟩ | ⟨ge, cape, cur, e1, e2, e3, e4, _⟩
      · rw [e1]; exact run_append_nil_empty 62 o.type 75 i0 2 Tryz.underlying62 hi A c
      · rw [e1]; exact run_append_own_empty 62 o.type 75 i0 Tryz.underlying62 hi ge _ _ e4 A c
    unfold Oper.wp
    simp [execOp, ho, resolve, invoke, builtin, hs, hx, hrun, Result.andThen]
    exact hK _ _ (h _ _ (by rw [List.append_nil]; exact hown) ((World.grownBy.refl _ _).but _))
  · refine wpList_append_own _ hgd s x 62 ho base 75 i0 (.agg #[.string ByteArray.empty, .int .i64 0]) 2 24 Tryz.underlying62 hi hz0 hz1 hz2 rfl (by decide) _ _ _ hs hown ⟨b, off, none⟩ es.length c (es.flatMap entC) hx (ent_len es) ?_ ?_ (maxLen_ok (by omega)) hlen hbase ?_
    · intro j u hj
      have hjl : j < es.length * 2 := by have := lt_of_get hj; rwa [ent_len] at this
      obtain ⟨e1, e2⟩ := ent_cells es (j / 2) (by omega)
      obtain ⟨g1, g2⟩ := h6 (j / 2) (by omega)
      have hadd : (⟨b, off, none⟩ : Addr).add j = ⟨b, off + j, none⟩ := by simp [Addr.add]
      rw [hadd]
      rcases Nat.mod_two_eq_zero_or_one j with hm | hm
      · rw [show j / 2 * 2 = j from by omega] at e1 g1
        rw [hj] at e1; cases e1; exact g1
      · rw [show j / 2 * 2 + 1 = j from by omega] at e2
        rw [show off + j / 2 * 2 + 1 = off + j from by omega] at g2
        rw [hj] at e2; cases e2; exact g2
    · intro u hu
      obtain ⟨x, _, hx⟩ := List.mem_flatMap.1 hu
      simp [entC] at hx
      rcases hx with rfl | rfl <;> rfl
    · intro v' w' g1 g2 _
      exact h v' w' (by rw [List.length_append, List.flatMap_append]; exact g1) g2
theorem EntsIn.bounds {w : World} {B : Nat} {v : Value} {es : List Ent} (h : EntsIn w B v es) : es.length * 24 ≤ 140737488351232 ∧ (∀ x ∈ es, x.key.length ≤ 140737488351232 ∧ -9223372036854775808 ≤ x.to ∧ x.to ≤ 9223372036854775807) := by
  obtain ⟨A, c, _, _, h3, h4, _⟩ := h; exact ⟨h3, h4⟩
theorem ownsRow_newE (w : World) : (w.alloc (.cells #[] 75)).ownsRow w.heap.size 75 2 (.slice (some ⟨w.heap.size, 0, none⟩) 0 0) 0 [] :=
  ⟨rfl, .inr ⟨w.heap.size, 0, #[], rfl, Nat.le_refl _, heap_alloc_new w _, Nat.le_refl _, by simp [maxLen], rfl, rfl⟩⟩

theorem own_ge {B g : Nat} (h : B ≤ g) (n c : Nat) : ∀ j, (Value.slice (some ⟨g, 0, none⟩) n c).ownBlock = some j → B ≤ j := fun j hj => by
  simp [Value.ownBlock] at hj; omega
/-- What slices.Clone answers at entries: a row of the call's own (or nil). -/
def ClonePost (es : List Ent) (w : World) (e : Ending) (w' : World) : Prop := ∃ v', e = .returned v' ∧ w'.ownsRow w.heap.size 75 2 v' es.length (es.flatMap entC) ∧ Below w.heap.size w w'
set_option maxRecDepth 100000 in
set_option maxHeartbeats 1000000 in
theorem clone_any (ev : Value) (es : List Ent) (w : World) (hE : EntsIn w w.heap.size ev es) :
    Calls Tryz.prog 57 #[ev] w (ClonePost es w) := by
  unfold ClonePost
  have hB := hE.bounds
  obtain ⟨A, c, rfl, hc, _, _, hne⟩ := id hE
  cases A with
  | none =>
    have hes : es = [] := by
      by_cases e : es = []
      · exact e
      · obtain ⟨_, _, h, _⟩ := hne e; cases h
    subst hes
    have q := fun wx => Lib.run_eql_slice_nil (P := Tryz.prog) wx 62 75 none 0 c 0 0 Tryz.underlying62
    clear hE hne hc hB
    show Calls Tryz.prog 57 #[.slice none 0 c] w _
    go_enter Tryz.func57, Tryz.ntmps57
    go_wp2
    go_ret
    exact ⟨_, rfl, World.ownsRow_nil _ _ _ _, Below.refl _ _⟩
  | some ad =>
    have q := fun wx => Lib.run_eql_slice_nil (P := Tryz.prog) wx 62 75 (some ad) es.length c 0 0 Tryz.underlying62
    have hb := (Below.refl w.heap.size w).alloc (Nat.le_refl _) (.cells #[] 75)
    have HE := Lib.hid (hE.below hb)
    have hb1 : (([] : List Ent).length + es.length) * 24 ≤ 140737488355328 := by have := hB.1; simp; omega
    have HL := Lib.hid hb1
    have HB := Lib.hid hb
    clear hE hne hB hb hb1
    go_enter Tryz.func57, Tryz.ntmps57
    go_wp2_with (at_builtin; go_loud (refine wpList_app_ents rfl _ _ rfl w.heap.size _ [] es rfl (ownsRow_newE w) (Nat.le_of_lt (alloc_lt _ _)) (.slice (some ad) es.length c) w.heap.size rfl HE.out HL.out ?_; intro v4 w4 hown4 hg4; have hb4 := (HB.out.grown hg4 HB.out.size (own_ge (Nat.le_refl _) _ _)); obtain ⟨ve, vce, rfl⟩ := ownsRow_len3 hown4))
    go_ret
    exact ⟨_, rfl, by simpa using hown4, hb4⟩
end Go.Proofs.YtpicgkoclbpjpaaGreatDoor
end

section
namespace Go.Proofs.YtpicgkoclbpjpaaGreatDoor
open Go.RowKit Go.Sort Go.Lib
open PathM TreeM VtM
set_option linter.unusedVariables false

theorem EntsIn.take {w : World} {B c : Nat} {A : Option Addr} {es : List Ent} (h : EntsIn w B (.slice A es.length c) es) (k : Nat) (hk : k ≤ es.length) : EntsIn w B (.slice A k c) (es.take k) := by
  obtain ⟨A', c', h1, h2, h3, h4, h5⟩ := h
  injection h1 with a1 a2 a3
  subst a1; subst a3
  have hl : (es.take k).length = k := by simp; omega
  refine ⟨_, _, by rw [hl], by omega, by omega, fun x hx => h4 x (List.mem_of_mem_take hx), fun hne => ?_⟩
  have hne' : es ≠ [] := by rintro rfl; simp at hne
  obtain ⟨b', off', rfl, h7, h8⟩ := h5 hne'
  refine ⟨b', off', rfl, h7, fun i hi => ?_⟩
  have hi' : i < es.length := by omega
  have e3 : entAt (es.take k) i = entAt es i := by simp [entAt, List.getD, List.getElem?_take]; rw [if_pos (by omega)]
  rw [e3]; exact h8 i hi'
theorem EntsIn.drop {w : World} {B b off c : Nat} {es : List Ent} (h : EntsIn w B (.slice (some ⟨b, off, none⟩) es.length c) es) (k : Nat) (hk : k ≤ es.length) : EntsIn w B (.slice (some ⟨b, off + k * 2, none⟩) (es.length - k) (c - k)) (es.drop k) := by
  obtain ⟨A, c', h1, h2, h3, h4, h5⟩ := h
  injection h1 with a1 a2 a3
  subst a3
  have hl : (es.drop k).length = es.length - k := by simp
  refine ⟨_, _, by rw [hl], by omega, by omega, fun x hx => h4 x (List.mem_of_mem_drop hx), fun hne => ?_⟩
  have hne' : es ≠ [] := by rintro rfl; simp at hne
  obtain ⟨b', off', e, h7, h8⟩ := h5 hne'
  rw [← a1] at e; injection e with e; injection e with e1 e2
  refine ⟨b, off + k * 2, rfl, by omega, fun i hi => ?_⟩
  have hi' : k + i < es.length := by omega
  have e3 : entAt (es.drop k) i = entAt es (k + i) := by simp [entAt, List.getD, List.getElem?_drop]
  have := h8 (k + i) hi'
  rw [e3, e1, e2, show off' + k * 2 + i * 2 = off' + (k + i) * 2 by omega]; exact this
theorem EntsIn.dropAll {w : World} {B : Nat} {A : Option Addr} {es : List Ent} (k c : Nat) (hk : es.length ≤ k) : EntsIn w B (.slice A (es.length - k) c) (es.drop k) := by
  have e : es.drop k = [] := by simp; omega
  rw [e, show es.length - k = 0 by omega]
  exact ⟨A, c, rfl, by simp, by simp, by simp, fun h => absurd rfl h⟩
theorem ents_one (w : World) (key : ByteArray) (id : Int) (hk : key.data.toList.length ≤ 140737488351232) (hi : i64 id) : EntsIn (w.alloc (.cells #[.string key, .int .i64 id] 75)) (w.heap.size + 1) (.slice (some ⟨w.heap.size, 0, none⟩) 1 1) [⟨key.data.toList, id⟩] := by
  refine ⟨_, 1, rfl, by simp, by simp, fun x hx => ?_, fun _ => ⟨w.heap.size, 0, rfl, by omega, fun k hk => ?_⟩⟩
  · simp at hx; subst hx; exact ⟨hk, hi⟩
  · have : k = 0 := by simp at hk; omega
    subst this
    exact ⟨(cell_blk (heap_alloc_new w _) 0).trans (by simp [entAt]; rfl), (cell_blk (heap_alloc_new w _) 1).trans (by simp [entAt])⟩

set_option maxHeartbeats 1000000 in
theorem bound1_any (i n c b off bt bx : Nat) (key : ByteArray) (k2 : Bs) (W : World) (hi : i < n) (hn : n * 24 ≤ 140737488351232)
    (ht : W.cell? ⟨bt, 0, none⟩ = some (.slice (some ⟨b, off, none⟩) n c)) (hx : W.cell? ⟨bx, 0, none⟩ = some (.string key)) (hc : W.cell? ⟨b, off + i * 2, none⟩ = some (.string (nm k2))) :
    Calls Tryz.prog 72 #[.int .i64 i, .pointer (some ⟨bt, 0, none⟩), .pointer (some ⟨bx, 0, none⟩)] W fun e w' => e = .returned (.bool (!decide (k2 < key.data.toList))) ∧ ∃ q, w' = W.drewN q := by
  have hiz : (i : Int) < (n : Int) := by omega
  go_enter Tryz.func72, Tryz.ntmps72
  go_wp2
  go_quiet (fail)
  go_wp2
  go_ret
  exact ⟨by show Ending.returned (.bool !Op.bytesLess (nm k2).toList key.toList) = _; rw [bytesLess_eq, listD, listD]; rfl, _, rfl⟩

/-- What Bound answers. -/
def EntsPost (es : List Ent) (w : World) (e : Ending) (w' : World) : Prop := ∃ v', e = .returned v' ∧ EntsIn w' w'.heap.size v' es ∧ Below w.heap.size w w'
theorem row_ents {W : World} {base : Nat} {v : Value} {es : List Ent} (h : W.ownsRow base 75 2 v es.length (es.flatMap entC)) (d : es.length ≤ 1000000000) (d3 : ∀ x ∈ es, x.key.length ≤ 140737488351232 ∧ -9223372036854775808 ≤ x.to ∧ x.to ≤ 9223372036854775807) : EntsIn W W.heap.size v es := ents_of_row h (by omega) d3
theorem boundE_len (es : List Ent) (key : Bs) (id : Int) : (boundE es key id).length ≤ es.length + 1 := by
  unfold boundE
  have := klow_le es key
  rw [List.length_append, List.length_append, List.length_take, List.length_drop]
  split <;> split <;> simp <;> omega
theorem boundE_mem {es : List Ent} {key : Bs} {id : Int} {x : Ent} (h : x ∈ boundE es key id) : x = ⟨key, id⟩ ∨ x ∈ es := by
  unfold boundE at h
  rcases List.mem_append.1 h with h | h
  · rcases List.mem_append.1 h with h | h
    · exact .inr (List.mem_of_mem_take h)
    · split at h
      · cases h
      · simp at h; exact .inl h
  · exact .inr (List.mem_of_mem_drop h)
theorem search_zero (g : Nat) (cb : Array Value) (W0 : World) (eg : ∀ args w, (callFunc g args).run Tryz.prog w = .ok (.enter g args) w) : Calls Tryz.prog 71 #[.int .i64 (0 : Int), .func (.func g) #[] cb] W0 fun e w' => e = .returned (.int .i64 0) ∧ ∃ q, w' = W0.drewN q :=
  search_any g cb 0 (fun i => false) W0 eg (by omega) (fun m i hi => absurd hi (Nat.not_lt_zero _)) (fun a b _ h => absurd h (Nat.not_lt_zero _))

theorem own_base {W : World} {base : Nat} {e : TypeId} {size : Nat} {v : Value} {k : Nat} {xs : List Value} (h : W.ownsRow base e size v k xs) : ∀ j, v.ownBlock = some j → base ≤ j := by
  rcases h.2 with ⟨rfl, rfl⟩ | ⟨g, cap, cur, rfl, hg, _⟩
  · intro j hj; simp [Value.ownBlock] at hj
  · intro j hj; simp [Value.ownBlock] at hj; omega
set_option maxRecDepth 100000 in
set_option maxHeartbeats 4000000 in
theorem bound_any (ev : Value) (es : List Ent) (key : ByteArray) (id : Int) (w : World) (hE : EntsIn w w.heap.size ev es) (hs : Sorted es) (hk : key.data.toList.length ≤ 140737488351232) (hid : i64 id) (hlen : es.length ≤ 100000000) :
    Calls Tryz.prog 33 #[ev, .string key, .int .i64 id] w (EntsPost (boundE es key.data.toList id) w) := by
  have hpost : ∀ W v, W.ownsRow w.heap.size 75 2 v (boundE es key.data.toList id).length ((boundE es key.data.toList id).flatMap entC) → EntsIn W W.heap.size v (boundE es key.data.toList id) := fun W v h =>
    row_ents h (by have := boundE_len es key.data.toList id; omega) fun x hx => by
      rcases boundE_mem hx with rfl | hx
      · exact ⟨hk, hid⟩
      · exact hE.bounds.2 x hx
  unfold EntsPost
  generalize hes : boundE es key.data.toList id = es' at hpost ⊢
  have HP := Lib.hid hpost
  clear hpost
  unfold boundE at hes
  have hle := klow_le es key.data.toList
  have hlow : ((List.range es.length).countP fun i => !(!decide ((entAt es i).key < key.data.toList))) = klow es key.data.toList := rfl
  have hE0 := hE
  obtain ⟨A, c, rfl, hcap, hlen2, _, hne⟩ := hE0
  have hmono : ∀ a b, a ≤ b → b < es.length → (!decide ((entAt es a).key < key.data.toList)) = true → (!decide ((entAt es b).key < key.data.toList)) = true := by
    intro a b hab hbl h
    have := klow_mono hs key.data.toList a b hab hbl
    cases e : (!decide ((entAt es b).key < key.data.toList)) with
    | true => rfl
    | false => rw [e] at this; have h2 := this rfl; rw [h] at h2; cases h2
  have hS : ∀ W0 : World, w.heap.size ≤ W0.heap.size → Below w.heap.size w W0 → ∀ bt bx, W0.cell? ⟨bt, 0, none⟩ = some (.slice A es.length c) → W0.cell? ⟨bx, 0, none⟩ = some (.string key) →
      Calls Tryz.prog 71 #[.int .i64 es.length, .func (.func 72) #[] #[.pointer (some ⟨bt, 0, none⟩), .pointer (some ⟨bx, 0, none⟩)]] W0 fun e w' => e = .returned (.int .i64 (klow es key.data.toList)) ∧ ∃ q, w' = W0.drewN q := by
    intro W0 _ hb0 bt bx c1 c2
    by_cases he : es = []
    · subst he
      exact search_zero 72 _ W0 (enters_of Tryz.func72 (by kernel_rfl) rfl)
    obtain ⟨b, off, rfl, hb, hcells⟩ := hne he
    rw [← hlow]
    refine search_any 72 _ es.length (fun i => !decide ((entAt es i).key < key.data.toList)) W0 (enters_of Tryz.func72 (by kernel_rfl) rfl) (by omega) ?_ hmono
    intro m i hi
    refine (bound1_any i es.length c b off bt bx key (entAt es i).key (W0.drewN m) hi hlen2 (by simpa using c1) (by simpa using c2) ?_)
    have := (hcells i hi).1
    rw [← hb0.cell (p := ⟨b, off + i * 2, none⟩) (show b < w.heap.size by omega)] at this
    simpa using this
  generalize klow es key.data.toList = k at *
  have HTK : Hid ((es.take k).length = k) := Lib.hid (by simp; omega)
  have HT : Hid (∀ W, Below w.heap.size w W → EntsIn W W.heap.size (.slice A k c) (es.take k)) := Lib.hid fun W h => ((hE.take k hle).below h).more h.size
  have HS := Lib.hid hS; have HLN := Lib.hid hlen; have HK := Lib.hid hk; have HI := Lib.hid hid
  have HL1 : Hid (((es.take k).length + [(⟨key.data.toList, id⟩ : Ent)].length) * 24 ≤ 140737488355328) := Lib.hid (by rw [HTK.out]; simp; omega)
  have HTK1 : Hid ((es.take k ++ [(⟨key.data.toList, id⟩ : Ent)]).length = k + 1) := Lib.hid (by rw [List.length_append, HTK.out]; rfl)
  clear hS hmono hlow hs hlen2
  by_cases hkl : k < es.length
  · have hne' : es ≠ [] := by rintro rfl; simp at hkl
    obtain ⟨b, off, rfl, hb, hcells⟩ := hne hne'
    have hc0 := (hcells k hkl).1
    have hki : (k : Int) < (es.length : Int) := by omega
    by_cases hkey : (entAt es k).key = key.data.toList
    · rw [if_pos (show k < es.length ∧ (entAt es k).key = key.data.toList from ⟨hkl, hkey⟩)] at hes
      have hq : ((nm (entAt es k).key).toList == key.toList) = true := by rw [listD, listD]; simp [hkey]; rfl
      generalize (entAt es k).key = keyk at *
      obtain ⟨rst, hrst⟩ : ∃ rst, es.drop (k + 1) = rst := ⟨_, rfl⟩
      rw [hrst] at hes
      by_cases hcj : c = k + 1
      · have HDD : Hid (∀ W, Below w.heap.size w W → ∀ A' c', EntsIn W W.heap.size (.slice A' 0 c') rst) := Lib.hid fun W h A' c' => hrst ▸ (show es.length - (k + 1) = 0 by omega) ▸ EntsIn.dropAll (k + 1) _ (by omega)
        clear hcells hkey hne hne' hE
        try subst hcj
        have HL2 : Hid (((es.take k).length + rst.length) * 24 ≤ 140737488355328) := Lib.hid (by rw [HTK.out, ← hrst, List.length_drop]; omega)
        have HL3b : Hid (((es.take k ++ [(⟨key.data.toList, id⟩ : Ent)]).length + rst.length) * 24 ≤ 140737488355328) := Lib.hid (by rw [HTK1.out, ← hrst, List.length_drop]; omega)
        obtain ⟨n2, hn2⟩ : ∃ n2, (es.take k ++ rst).length = n2 := ⟨_, rfl⟩
        obtain ⟨n3, hn3⟩ : ∃ n3, (es.take k ++ [(⟨key.data.toList, id⟩ : Ent)] ++ rst).length = n3 := ⟨_, rfl⟩
        have HN2 := Lib.hid hn2; have HN3 := Lib.hid hn3
        clear hn2 hn3 hrst
        by_cases hi0 : id = 0
        · have hd : (id != 0) = false := by simp [hi0]
          rw [if_pos hi0, List.append_nil] at hes
          have HES := Lib.hid hes
          clear hes
          go_enter Tryz.func33, Tryz.ntmps33
          go_wp2_with (go_at_call 71; refine (HS.out _ (by simp; omega) (((Below.refl _ _).alloc (Nat.le_refl _) _).alloc (Nat.le_of_lt (alloc_lt _ _)) _) _ _ (by simp) (by simp)).mono ?_; rintro e w' ⟨rfl, q, rfl⟩)
          go_quiet (fail)
          go_wp2_with (first | (go_at_call 57; refine (clone_any _ (es.take k) _ (HT.out _ (below_drewN' (((Below.refl _ _).alloc (Nat.le_refl _) _).alloc (Nat.le_of_lt (alloc_lt _ _)) _) _))).mono ?_; rintro e w3 ⟨v3, rfl, hown3, hb3⟩; have z0 := hb3.cell (p := ⟨w.heap.size, 0, none⟩) (by simp; omega); have z1 := hb3.cell (p := ⟨w.heap.size + 1, 0, none⟩) (by simp); simp at z0 z1; have hl3 : w.heap.size + 2 ≤ w3.heap.size := Nat.le_trans (by simp) hb3.size; have HL3 := Lib.hid hl3; have HB3 : Hid (Below w.heap.size w w3) := Below.trans (below_drewN' (((Below.refl _ _).alloc (Nat.le_refl _) _).alloc (Nat.le_of_lt (alloc_lt _ _)) _) _) (hb3.mono (by simp; omega)); obtain ⟨A3, c3, hv3⟩ := ownsRow_len3 hown3; rw [HTK.out] at hv3; subst hv3; have HO3 := Lib.hid (ownsRow_base (b' := w.heap.size + 2) hown3 (by simp)); clear hb3 hown3 hl3) | (at_builtin; refine wpList_app_ents rfl _ _ rfl (w.heap.size + 2) _ (es.take k) rst rfl HO3.out HL3.out _ w3.heap.size rfl (HDD.out w3 HB3.out) HL2.out ?_; intro v5 w5 hown5 hg5; have HB5 : Hid (Below w.heap.size w w5) := HB3.out.grown hg5 HB3.out.size (fun j hj => Nat.le_trans (by omega) (own_base HO3.out j hj)); have HO5 := Lib.hid (ownsRow_base (b' := w.heap.size) hown5 (by omega)); obtain ⟨A5, c5, hv5⟩ := ownsRow_len3 hown5; rw [HN2.out] at hv5; subst hv5; clear hown5 hg5) | (at_builtin; refine wpList_app_ents rfl _ _ rfl (w.heap.size + 2) _ (es.take k) rst rfl HO3.out HL3.out _ w3.heap.size rfl (HDD.out w3 HB3.out _ _) HL2.out ?_; intro v5 w5 hown5 hg5; have HB5 : Hid (Below w.heap.size w w5) := HB3.out.grown hg5 HB3.out.size (fun j hj => Nat.le_trans (by omega) (own_base HO3.out j hj)); have HO5 := Lib.hid (ownsRow_base (b' := w.heap.size) hown5 (by omega)); obtain ⟨A5, c5, hv5⟩ := ownsRow_len3 hown5; rw [HN2.out] at hv5; subst hv5; clear hown5 hg5))
          all_goals (go_ret; exact ⟨_, rfl, HP.out _ _ (by rw [← HES.out]; exact HO5.out), HB5.out⟩)
        · have hd : (id != 0) = true := by simp [hi0]
          rw [if_neg hi0] at hes
          have HES := Lib.hid hes
          clear hes
          go_enter Tryz.func33, Tryz.ntmps33
          go_wp2_with (go_at_call 71; refine (HS.out _ (by simp; omega) (((Below.refl _ _).alloc (Nat.le_refl _) _).alloc (Nat.le_of_lt (alloc_lt _ _)) _) _ _ (by simp) (by simp)).mono ?_; rintro e w' ⟨rfl, q, rfl⟩)
          go_quiet (fail)
          go_wp2_with (first | (go_at_call 57; refine (clone_any _ (es.take k) _ (HT.out _ (below_drewN' (((Below.refl _ _).alloc (Nat.le_refl _) _).alloc (Nat.le_of_lt (alloc_lt _ _)) _) _))).mono ?_; rintro e w3 ⟨v3, rfl, hown3, hb3⟩; have z0 := hb3.cell (p := ⟨w.heap.size, 0, none⟩) (by simp; omega); have z1 := hb3.cell (p := ⟨w.heap.size + 1, 0, none⟩) (by simp); simp at z0 z1; have hl3 : w.heap.size + 2 ≤ w3.heap.size := Nat.le_trans (by simp) hb3.size; have HL3 := Lib.hid hl3; have HB3 : Hid (Below w.heap.size w w3) := Below.trans (below_drewN' (((Below.refl _ _).alloc (Nat.le_refl _) _).alloc (Nat.le_of_lt (alloc_lt _ _)) _) _) (hb3.mono (by simp; omega)); obtain ⟨A3, c3, hv3⟩ := ownsRow_len3 hown3; rw [HTK.out] at hv3; subst hv3; have HO3 := Lib.hid (ownsRow_base (b' := w.heap.size + 2) hown3 (by simp)); clear hb3 hown3 hl3) | (at_builtin; refine wpList_app_ents rfl _ _ rfl (w.heap.size + 2) _ (es.take k) [Ent.mk key.data.toList id] rfl (HO3.out.alloc _) (Nat.le_trans HL3.out (Nat.le_of_lt (alloc_lt _ _))) _ (w3.heap.size + 1) rfl (ents_one w3 key id HK.out HI.out) HL1.out ?_; intro v4 w4 hown4 hg4; have hb4 := (Below.refl (w.heap.size + 2) (w3.alloc (.cells #[.string key, .int .i64 id] 75))).grown hg4 (Nat.le_trans HL3.out (Nat.le_of_lt (alloc_lt _ _))) (own_base (HO3.out)); have y0 := (hb4.cell (p := ⟨w.heap.size, 0, none⟩) (by simp)).trans ((World.cell?_alloc_lt w3 _ _ (show w.heap.size < w3.heap.size by have := HL3.out; omega)).trans z0); obtain ⟨A4, c4, hv4⟩ := ownsRow_len3 hown4; rw [HTK1.out] at hv4; subst hv4; have HB4 : Hid (Below w.heap.size w w4) := (HB3.out.alloc (HB3.out.size) _).trans (hb4.mono (by omega)); have HO4 := Lib.hid hown4; have HL4 : Hid (w.heap.size + 2 ≤ w4.heap.size) := Nat.le_trans (Nat.le_trans HL3.out (Nat.le_of_lt (alloc_lt _ _))) hb4.size; clear hown4 hg4 hb4) | (at_builtin; refine wpList_app_ents rfl _ _ rfl (w.heap.size + 2) _ (es.take k ++ [Ent.mk key.data.toList id]) rst rfl HO4.out HL4.out _ w4.heap.size rfl (HDD.out w4 HB4.out) HL3b.out ?_; intro v5 w5 hown5 hg5; have HB5 : Hid (Below w.heap.size w w5) := HB4.out.grown hg5 HB4.out.size (fun j hj => Nat.le_trans (by omega) (own_base HO4.out j hj)); have HO5 := Lib.hid (ownsRow_base (b' := w.heap.size) hown5 (by omega)); obtain ⟨A5, c5, hv5⟩ := ownsRow_len3 hown5; rw [HN3.out] at hv5; subst hv5; clear hown5 hg5) | (at_builtin; refine wpList_app_ents rfl _ _ rfl (w.heap.size + 2) _ (es.take k ++ [Ent.mk key.data.toList id]) rst rfl HO4.out HL4.out _ w4.heap.size rfl (HDD.out w4 HB4.out _ _) HL3b.out ?_; intro v5 w5 hown5 hg5; have HB5 : Hid (Below w.heap.size w w5) := HB4.out.grown hg5 HB4.out.size (fun j hj => Nat.le_trans (by omega) (own_base HO4.out j hj)); have HO5 := Lib.hid (ownsRow_base (b' := w.heap.size) hown5 (by omega)); obtain ⟨A5, c5, hv5⟩ := ownsRow_len3 hown5; rw [HN3.out] at hv5; subst hv5; clear hown5 hg5))
          all_goals (go_ret; exact ⟨_, rfl, HP.out _ _ (by rw [← HES.out]; exact HO5.out), HB5.out⟩)
      · have HDD : Hid (∀ W, Below w.heap.size w W → EntsIn W W.heap.size (.slice (some ⟨b, off + (k + 1) * 2, none⟩) (es.length - (k + 1)) (c - (k + 1))) rst) := Lib.hid fun W h => hrst ▸ ((hE.drop (k + 1) (by omega)).below h).more h.size
        clear hcells hkey hne hne' hE
        try subst hcj
        have HL2 : Hid (((es.take k).length + rst.length) * 24 ≤ 140737488355328) := Lib.hid (by rw [HTK.out, ← hrst, List.length_drop]; omega)
        have HL3b : Hid (((es.take k ++ [(⟨key.data.toList, id⟩ : Ent)]).length + rst.length) * 24 ≤ 140737488355328) := Lib.hid (by rw [HTK1.out, ← hrst, List.length_drop]; omega)
        obtain ⟨n2, hn2⟩ : ∃ n2, (es.take k ++ rst).length = n2 := ⟨_, rfl⟩
        obtain ⟨n3, hn3⟩ : ∃ n3, (es.take k ++ [(⟨key.data.toList, id⟩ : Ent)] ++ rst).length = n3 := ⟨_, rfl⟩
        have HN2 := Lib.hid hn2; have HN3 := Lib.hid hn3
        clear hn2 hn3 hrst
        by_cases hi0 : id = 0
        · have hd : (id != 0) = false := by simp [hi0]
          rw [if_pos hi0, List.append_nil] at hes
          have HES := Lib.hid hes
          clear hes
          go_enter Tryz.func33, Tryz.ntmps33
          go_wp2_with (go_at_call 71; refine (HS.out _ (by simp; omega) (((Below.refl _ _).alloc (Nat.le_refl _) _).alloc (Nat.le_of_lt (alloc_lt _ _)) _) _ _ (by simp) (by simp)).mono ?_; rintro e w' ⟨rfl, q, rfl⟩)
          go_quiet (fail)
          go_wp2_with (first | (go_at_call 57; refine (clone_any _ (es.take k) _ (HT.out _ (below_drewN' (((Below.refl _ _).alloc (Nat.le_refl _) _).alloc (Nat.le_of_lt (alloc_lt _ _)) _) _))).mono ?_; rintro e w3 ⟨v3, rfl, hown3, hb3⟩; have z0 := hb3.cell (p := ⟨w.heap.size, 0, none⟩) (by simp; omega); have z1 := hb3.cell (p := ⟨w.heap.size + 1, 0, none⟩) (by simp); simp at z0 z1; have hl3 : w.heap.size + 2 ≤ w3.heap.size := Nat.le_trans (by simp) hb3.size; have HL3 := Lib.hid hl3; have HB3 : Hid (Below w.heap.size w w3) := Below.trans (below_drewN' (((Below.refl _ _).alloc (Nat.le_refl _) _).alloc (Nat.le_of_lt (alloc_lt _ _)) _) _) (hb3.mono (by simp; omega)); obtain ⟨A3, c3, hv3⟩ := ownsRow_len3 hown3; rw [HTK.out] at hv3; subst hv3; have HO3 := Lib.hid (ownsRow_base (b' := w.heap.size + 2) hown3 (by simp)); clear hb3 hown3 hl3) | (at_builtin; refine wpList_app_ents rfl _ _ rfl (w.heap.size + 2) _ (es.take k) rst rfl HO3.out HL3.out _ w3.heap.size rfl (HDD.out w3 HB3.out) HL2.out ?_; intro v5 w5 hown5 hg5; have HB5 : Hid (Below w.heap.size w w5) := HB3.out.grown hg5 HB3.out.size (fun j hj => Nat.le_trans (by omega) (own_base HO3.out j hj)); have HO5 := Lib.hid (ownsRow_base (b' := w.heap.size) hown5 (by omega)); obtain ⟨A5, c5, hv5⟩ := ownsRow_len3 hown5; rw [HN2.out] at hv5; subst hv5; clear hown5 hg5) | (at_builtin; refine wpList_app_ents rfl _ _ rfl (w.heap.size + 2) _ (es.take k) rst rfl HO3.out HL3.out _ w3.heap.size rfl (HDD.out w3 HB3.out _ _) HL2.out ?_; intro v5 w5 hown5 hg5; have HB5 : Hid (Below w.heap.size w w5) := HB3.out.grown hg5 HB3.out.size (fun j hj => Nat.le_trans (by omega) (own_base HO3.out j hj)); have HO5 := Lib.hid (ownsRow_base (b' := w.heap.size) hown5 (by omega)); obtain ⟨A5, c5, hv5⟩ := ownsRow_len3 hown5; rw [HN2.out] at hv5; subst hv5; clear hown5 hg5))
          all_goals (go_ret; exact ⟨_, rfl, HP.out _ _ (by rw [← HES.out]; exact HO5.out), HB5.out⟩)
        · have hd : (id != 0) = true := by simp [hi0]
          rw [if_neg hi0] at hes
          have HES := Lib.hid hes
          clear hes
          go_enter Tryz.func33, Tryz.ntmps33
          go_wp2_with (go_at_call 71; refine (HS.out _ (by simp; omega) (((Below.refl _ _).alloc (Nat.le_refl _) _).alloc (Nat.le_of_lt (alloc_lt _ _)) _) _ _ (by simp) (by simp)).mono ?_; rintro e w' ⟨rfl, q, rfl⟩)
          go_quiet (fail)
          go_wp2_with (first | (go_at_call 57; refine (clone_any _ (es.take k) _ (HT.out _ (below_drewN' (((Below.refl _ _).alloc (Nat.le_refl _) _).alloc (Nat.le_of_lt (alloc_lt _ _)) _) _))).mono ?_; rintro e w3 ⟨v3, rfl, hown3, hb3⟩; have z0 := hb3.cell (p := ⟨w.heap.size, 0, none⟩) (by simp; omega); have z1 := hb3.cell (p := ⟨w.heap.size + 1, 0, none⟩) (by simp); simp at z0 z1; have hl3 : w.heap.size + 2 ≤ w3.heap.size := Nat.le_trans (by simp) hb3.size; have HL3 := Lib.hid hl3; have HB3 : Hid (Below w.heap.size w w3) := Below.trans (below_drewN' (((Below.refl _ _).alloc (Nat.le_refl _) _).alloc (Nat.le_of_lt (alloc_lt _ _)) _) _) (hb3.mono (by simp; omega)); obtain ⟨A3, c3, hv3⟩ := ownsRow_len3 hown3; rw [HTK.out] at hv3; subst hv3; have HO3 := Lib.hid (ownsRow_base (b' := w.heap.size + 2) hown3 (by simp)); clear hb3 hown3 hl3) | (at_builtin; refine wpList_app_ents rfl _ _ rfl (w.heap.size + 2) _ (es.take k) [Ent.mk key.data.toList id] rfl (HO3.out.alloc _) (Nat.le_trans HL3.out (Nat.le_of_lt (alloc_lt _ _))) _ (w3.heap.size + 1) rfl (ents_one w3 key id HK.out HI.out) HL1.out ?_; intro v4 w4 hown4 hg4; have hb4 := (Below.refl (w.heap.size + 2) (w3.alloc (.cells #[.string key, .int .i64 id] 75))).grown hg4 (Nat.le_trans HL3.out (Nat.le_of_lt (alloc_lt _ _))) (own_base (HO3.out)); have y0 := (hb4.cell (p := ⟨w.heap.size, 0, none⟩) (by simp)).trans ((World.cell?_alloc_lt w3 _ _ (show w.heap.size < w3.heap.size by have := HL3.out; omega)).trans z0); obtain ⟨A4, c4, hv4⟩ := ownsRow_len3 hown4; rw [HTK1.out] at hv4; subst hv4; have HB4 : Hid (Below w.heap.size w w4) := (HB3.out.alloc (HB3.out.size) _).trans (hb4.mono (by omega)); have HO4 := Lib.hid hown4; have HL4 : Hid (w.heap.size + 2 ≤ w4.heap.size) := Nat.le_trans (Nat.le_trans HL3.out (Nat.le_of_lt (alloc_lt _ _))) hb4.size; clear hown4 hg4 hb4) | (at_builtin; refine wpList_app_ents rfl _ _ rfl (w.heap.size + 2) _ (es.take k ++ [Ent.mk key.data.toList id]) rst rfl HO4.out HL4.out _ w4.heap.size rfl (HDD.out w4 HB4.out) HL3b.out ?_; intro v5 w5 hown5 hg5; have HB5 : Hid (Below w.heap.size w w5) := HB4.out.grown hg5 HB4.out.size (fun j hj => Nat.le_trans (by omega) (own_base HO4.out j hj)); have HO5 := Lib.hid (ownsRow_base (b' := w.heap.size) hown5 (by omega)); obtain ⟨A5, c5, hv5⟩ := ownsRow_len3 hown5; rw [HN3.out] at hv5; subst hv5; clear hown5 hg5) | (at_builtin; refine wpList_app_ents rfl _ _ rfl (w.heap.size + 2) _ (es.take k ++ [Ent.mk key.data.toList id]) rst rfl HO4.out HL4.out _ w4.heap.size rfl (HDD.out w4 HB4.out _ _) HL3b.out ?_; intro v5 w5 hown5 hg5; have HB5 : Hid (Below w.heap.size w w5) := HB4.out.grown hg5 HB4.out.size (fun j hj => Nat.le_trans (by omega) (own_base HO4.out j hj)); have HO5 := Lib.hid (ownsRow_base (b' := w.heap.size) hown5 (by omega)); obtain ⟨A5, c5, hv5⟩ := ownsRow_len3 hown5; rw [HN3.out] at hv5; subst hv5; clear hown5 hg5))
          all_goals (go_ret; exact ⟨_, rfl, HP.out _ _ (by rw [← HES.out]; exact HO5.out), HB5.out⟩)
    · rw [if_neg (show ¬ (k < es.length ∧ (entAt es k).key = key.data.toList) from fun h => hkey h.2)] at hes
      have hq : ((nm (entAt es k).key).toList == key.toList) = false := by rw [listD, listD]; exact beq_eq_false_iff_ne.2 hkey
      generalize (entAt es k).key = keyk at *
      obtain ⟨rst, hrst⟩ : ∃ rst, es.drop k = rst := ⟨_, rfl⟩
      rw [hrst] at hes
      have hcj : c ≠ k := by omega
      have HDD : Hid (∀ W, Below w.heap.size w W → EntsIn W W.heap.size (.slice (some ⟨b, off + k * 2, none⟩) (es.length - k) (c - k)) rst) := Lib.hid fun W h => hrst ▸ ((hE.drop k (by omega)).below h).more h.size
      clear hcells hkey hne hne' hE
      have HL2 : Hid (((es.take k).length + rst.length) * 24 ≤ 140737488355328) := Lib.hid (by rw [HTK.out, ← hrst, List.length_drop]; omega)
      have HL3b : Hid (((es.take k ++ [(⟨key.data.toList, id⟩ : Ent)]).length + rst.length) * 24 ≤ 140737488355328) := Lib.hid (by rw [HTK1.out, ← hrst, List.length_drop]; omega)
      obtain ⟨n2, hn2⟩ : ∃ n2, (es.take k ++ rst).length = n2 := ⟨_, rfl⟩
      obtain ⟨n3, hn3⟩ : ∃ n3, (es.take k ++ [(⟨key.data.toList, id⟩ : Ent)] ++ rst).length = n3 := ⟨_, rfl⟩
      have HN2 := Lib.hid hn2; have HN3 := Lib.hid hn3
      clear hn2 hn3 hrst
      by_cases hi0 : id = 0
      · have hd : (id != 0) = false := by simp [hi0]
        rw [if_pos hi0, List.append_nil] at hes
        have HES := Lib.hid hes
        clear hes
        go_enter Tryz.func33, Tryz.ntmps33
        go_wp2_with (go_at_call 71; refine (HS.out _ (by simp; omega) (((Below.refl _ _).alloc (Nat.le_refl _) _).alloc (Nat.le_of_lt (alloc_lt _ _)) _) _ _ (by simp) (by simp)).mono ?_; rintro e w' ⟨rfl, q, rfl⟩)
        go_quiet (fail)
        go_wp2_with (first | (go_at_call 57; refine (clone_any _ (es.take k) _ (HT.out _ (below_drewN' (((Below.refl _ _).alloc (Nat.le_refl _) _).alloc (Nat.le_of_lt (alloc_lt _ _)) _) _))).mono ?_; rintro e w3 ⟨v3, rfl, hown3, hb3⟩; have z0 := hb3.cell (p := ⟨w.heap.size, 0, none⟩) (by simp; omega); have z1 := hb3.cell (p := ⟨w.heap.size + 1, 0, none⟩) (by simp); simp at z0 z1; have hl3 : w.heap.size + 2 ≤ w3.heap.size := Nat.le_trans (by simp) hb3.size; have HL3 := Lib.hid hl3; have HB3 : Hid (Below w.heap.size w w3) := Below.trans (below_drewN' (((Below.refl _ _).alloc (Nat.le_refl _) _).alloc (Nat.le_of_lt (alloc_lt _ _)) _) _) (hb3.mono (by simp; omega)); obtain ⟨A3, c3, hv3⟩ := ownsRow_len3 hown3; rw [HTK.out] at hv3; subst hv3; have HO3 := Lib.hid (ownsRow_base (b' := w.heap.size + 2) hown3 (by simp)); clear hb3 hown3 hl3) | (at_builtin; refine wpList_app_ents rfl _ _ rfl (w.heap.size + 2) _ (es.take k) rst rfl HO3.out HL3.out _ w3.heap.size rfl (HDD.out w3 HB3.out) HL2.out ?_; intro v5 w5 hown5 hg5; have HB5 : Hid (Below w.heap.size w w5) := HB3.out.grown hg5 HB3.out.size (fun j hj => Nat.le_trans (by omega) (own_base HO3.out j hj)); have HO5 := Lib.hid (ownsRow_base (b' := w.heap.size) hown5 (by omega)); obtain ⟨A5, c5, hv5⟩ := ownsRow_len3 hown5; rw [HN2.out] at hv5; subst hv5; clear hown5 hg5) | (at_builtin; refine wpList_app_ents rfl _ _ rfl (w.heap.size + 2) _ (es.take k) rst rfl HO3.out HL3.out _ w3.heap.size rfl (HDD.out w3 HB3.out _ _) HL2.out ?_; intro v5 w5 hown5 hg5; have HB5 : Hid (Below w.heap.size w w5) := HB3.out.grown hg5 HB3.out.size (fun j hj => Nat.le_trans (by omega) (own_base HO3.out j hj)); have HO5 := Lib.hid (ownsRow_base (b' := w.heap.size) hown5 (by omega)); obtain ⟨A5, c5, hv5⟩ := ownsRow_len3 hown5; rw [HN2.out] at hv5; subst hv5; clear hown5 hg5))
        all_goals (go_ret; exact ⟨_, rfl, HP.out _ _ (by rw [← HES.out]; exact HO5.out), HB5.out⟩)
      · have hd : (id != 0) = true := by simp [hi0]
        rw [if_neg hi0] at hes
        have HES := Lib.hid hes
        clear hes
        go_enter Tryz.func33, Tryz.ntmps33
        go_wp2_with (go_at_call 71; refine (HS.out _ (by simp; omega) (((Below.refl _ _).alloc (Nat.le_refl _) _).alloc (Nat.le_of_lt (alloc_lt _ _)) _) _ _ (by simp) (by simp)).mono ?_; rintro e w' ⟨rfl, q, rfl⟩)
        go_quiet (fail)
        go_wp2_with (first | (go_at_call 57; refine (clone_any _ (es.take k) _ (HT.out _ (below_drewN' (((Below.refl _ _).alloc (Nat.le_refl _) _).alloc (Nat.le_of_lt (alloc_lt _ _)) _) _))).mono ?_; rintro e w3 ⟨v3, rfl, hown3, hb3⟩; have z0 := hb3.cell (p := ⟨w.heap.size, 0, none⟩) (by simp; omega); have z1 := hb3.cell (p := ⟨w.heap.size + 1, 0, none⟩) (by simp); simp at z0 z1; have hl3 : w.heap.size + 2 ≤ w3.heap.size := Nat.le_trans (by simp) hb3.size; have HL3 := Lib.hid hl3; have HB3 : Hid (Below w.heap.size w w3) := Below.trans (below_drewN' (((Below.refl _ _).alloc (Nat.le_refl _) _).alloc (Nat.le_of_lt (alloc_lt _ _)) _) _) (hb3.mono (by simp; omega)); obtain ⟨A3, c3, hv3⟩ := ownsRow_len3 hown3; rw [HTK.out] at hv3; subst hv3; have HO3 := Lib.hid (ownsRow_base (b' := w.heap.size + 2) hown3 (by simp)); clear hb3 hown3 hl3) | (at_builtin; refine wpList_app_ents rfl _ _ rfl (w.heap.size + 2) _ (es.take k) [Ent.mk key.data.toList id] rfl (HO3.out.alloc _) (Nat.le_trans HL3.out (Nat.le_of_lt (alloc_lt _ _))) _ (w3.heap.size + 1) rfl (ents_one w3 key id HK.out HI.out) HL1.out ?_; intro v4 w4 hown4 hg4; have hb4 := (Below.refl (w.heap.size + 2) (w3.alloc (.cells #[.string key, .int .i64 id] 75))).grown hg4 (Nat.le_trans HL3.out (Nat.le_of_lt (alloc_lt _ _))) (own_base (HO3.out)); have y0 := (hb4.cell (p := ⟨w.heap.size, 0, none⟩) (by simp)).trans ((World.cell?_alloc_lt w3 _ _ (show w.heap.size < w3.heap.size by have := HL3.out; omega)).trans z0); obtain ⟨A4, c4, hv4⟩ := ownsRow_len3 hown4; rw [HTK1.out] at hv4; subst hv4; have HB4 : Hid (Below w.heap.size w w4) := (HB3.out.alloc (HB3.out.size) _).trans (hb4.mono (by omega)); have HO4 := Lib.hid hown4; have HL4 : Hid (w.heap.size + 2 ≤ w4.heap.size) := Nat.le_trans (Nat.le_trans HL3.out (Nat.le_of_lt (alloc_lt _ _))) hb4.size; clear hown4 hg4 hb4) | (at_builtin; refine wpList_app_ents rfl _ _ rfl (w.heap.size + 2) _ (es.take k ++ [Ent.mk key.data.toList id]) rst rfl HO4.out HL4.out _ w4.heap.size rfl (HDD.out w4 HB4.out) HL3b.out ?_; intro v5 w5 hown5 hg5; have HB5 : Hid (Below w.heap.size w w5) := HB4.out.grown hg5 HB4.out.size (fun j hj => Nat.le_trans (by omega) (own_base HO4.out j hj)); have HO5 := Lib.hid (ownsRow_base (b' := w.heap.size) hown5 (by omega)); obtain ⟨A5, c5, hv5⟩ := ownsRow_len3 hown5; rw [HN3.out] at hv5; subst hv5; clear hown5 hg5) | (at_builtin; refine wpList_app_ents rfl _ _ rfl (w.heap.size + 2) _ (es.take k ++ [Ent.mk key.data.toList id]) rst rfl HO4.out HL4.out _ w4.heap.size rfl (HDD.out w4 HB4.out _ _) HL3b.out ?_; intro v5 w5 hown5 hg5; have HB5 : Hid (Below w.heap.size w w5) := HB4.out.grown hg5 HB4.out.size (fun j hj => Nat.le_trans (by omega) (own_base HO4.out j hj)); have HO5 := Lib.hid (ownsRow_base (b' := w.heap.size) hown5 (by omega)); obtain ⟨A5, c5, hv5⟩ := ownsRow_len3 hown5; rw [HN3.out] at hv5; subst hv5; clear hown5 hg5))
        all_goals (go_ret; exact ⟨_, rfl, HP.out _ _ (by rw [← HES.out]; exact HO5.out), HB5.out⟩)
  · rw [if_neg (show ¬ (k < es.length ∧ (entAt es k).key = key.data.toList) from fun h => hkl h.1)] at hes
    obtain ⟨rst, hrst⟩ : ∃ rst, es.drop k = rst := ⟨_, rfl⟩
    rw [hrst] at hes
    have hke : es.length ≤ k := by omega
    have hki : ¬ (k : Int) < (es.length : Int) := by omega
    have HDD0 : Hid (∀ W, Below w.heap.size w W → ∀ A' c', EntsIn W W.heap.size (.slice A' (es.length - k) c') rst) := Lib.hid fun W h A' c' => hrst ▸ EntsIn.dropAll _ _ (by omega)
    have HDD := HDD0
    clear hne hE HDD0 hke
    have HL2 : Hid (((es.take k).length + rst.length) * 24 ≤ 140737488355328) := Lib.hid (by rw [HTK.out, ← hrst, List.length_drop]; omega)
    have HL3b : Hid (((es.take k ++ [(⟨key.data.toList, id⟩ : Ent)]).length + rst.length) * 24 ≤ 140737488355328) := Lib.hid (by rw [HTK1.out, ← hrst, List.length_drop]; omega)
    obtain ⟨n2, hn2⟩ : ∃ n2, (es.take k ++ rst).length = n2 := ⟨_, rfl⟩
    obtain ⟨n3, hn3⟩ : ∃ n3, (es.take k ++ [(⟨key.data.toList, id⟩ : Ent)] ++ rst).length = n3 := ⟨_, rfl⟩
    have HN2 := Lib.hid hn2; have HN3 := Lib.hid hn3
    clear hn2 hn3 hrst
    by_cases hi0 : id = 0
    · have hd : (id != 0) = false := by simp [hi0]
      rw [if_pos hi0, List.append_nil] at hes
      have HES := Lib.hid hes
      clear hes
      go_enter Tryz.func33, Tryz.ntmps33
      go_wp2_with (go_at_call 71; refine (HS.out _ (by simp; omega) (((Below.refl _ _).alloc (Nat.le_refl _) _).alloc (Nat.le_of_lt (alloc_lt _ _)) _) _ _ (by simp) (by simp)).mono ?_; rintro e w' ⟨rfl, q, rfl⟩)
      go_quiet (fail)
      go_wp2_with (first | (go_at_call 57; refine (clone_any _ (es.take k) _ (HT.out _ (below_drewN' (((Below.refl _ _).alloc (Nat.le_refl _) _).alloc (Nat.le_of_lt (alloc_lt _ _)) _) _))).mono ?_; rintro e w3 ⟨v3, rfl, hown3, hb3⟩; have z0 := hb3.cell (p := ⟨w.heap.size, 0, none⟩) (by simp; omega); have z1 := hb3.cell (p := ⟨w.heap.size + 1, 0, none⟩) (by simp); simp at z0 z1; have hl3 : w.heap.size + 2 ≤ w3.heap.size := Nat.le_trans (by simp) hb3.size; have HL3 := Lib.hid hl3; have HB3 : Hid (Below w.heap.size w w3) := Below.trans (below_drewN' (((Below.refl _ _).alloc (Nat.le_refl _) _).alloc (Nat.le_of_lt (alloc_lt _ _)) _) _) (hb3.mono (by simp; omega)); obtain ⟨A3, c3, hv3⟩ := ownsRow_len3 hown3; rw [HTK.out] at hv3; subst hv3; have HO3 := Lib.hid (ownsRow_base (b' := w.heap.size + 2) hown3 (by simp)); clear hb3 hown3 hl3) | (at_builtin; refine wpList_app_ents rfl _ _ rfl (w.heap.size + 2) _ (es.take k) rst rfl HO3.out HL3.out _ w3.heap.size rfl (HDD.out w3 HB3.out) HL2.out ?_; intro v5 w5 hown5 hg5; have HB5 : Hid (Below w.heap.size w w5) := HB3.out.grown hg5 HB3.out.size (fun j hj => Nat.le_trans (by omega) (own_base HO3.out j hj)); have HO5 := Lib.hid (ownsRow_base (b' := w.heap.size) hown5 (by omega)); obtain ⟨A5, c5, hv5⟩ := ownsRow_len3 hown5; rw [HN2.out] at hv5; subst hv5; clear hown5 hg5) | (at_builtin; refine wpList_app_ents rfl _ _ rfl (w.heap.size + 2) _ (es.take k) rst rfl HO3.out HL3.out _ w3.heap.size rfl (HDD.out w3 HB3.out _ _) HL2.out ?_; intro v5 w5 hown5 hg5; have HB5 : Hid (Below w.heap.size w w5) := HB3.out.grown hg5 HB3.out.size (fun j hj => Nat.le_trans (by omega) (own_base HO3.out j hj)); have HO5 := Lib.hid (ownsRow_base (b' := w.heap.size) hown5 (by omega)); obtain ⟨A5, c5, hv5⟩ := ownsRow_len3 hown5; rw [HN2.out] at hv5; subst hv5; clear hown5 hg5))
      all_goals (go_ret; exact ⟨_, rfl, HP.out _ _ (by rw [← HES.out]; exact HO5.out), HB5.out⟩)
    · have hd : (id != 0) = true := by simp [hi0]
      rw [if_neg hi0] at hes
      have HES := Lib.hid hes
      clear hes
      go_enter Tryz.func33, Tryz.ntmps33
      go_wp2_with (go_at_call 71; refine (HS.out _ (by simp; omega) (((Below.refl _ _).alloc (Nat.le_refl _) _).alloc (Nat.le_of_lt (alloc_lt _ _)) _) _ _ (by simp) (by simp)).mono ?_; rintro e w' ⟨rfl, q, rfl⟩)
      go_quiet (fail)
      go_wp2_with (first | (go_at_call 57; refine (clone_any _ (es.take k) _ (HT.out _ (below_drewN' (((Below.refl _ _).alloc (Nat.le_refl _) _).alloc (Nat.le_of_lt (alloc_lt _ _)) _) _))).mono ?_; rintro e w3 ⟨v3, rfl, hown3, hb3⟩; have z0 := hb3.cell (p := ⟨w.heap.size, 0, none⟩) (by simp; omega); have z1 := hb3.cell (p := ⟨w.heap.size + 1, 0, none⟩) (by simp); simp at z0 z1; have hl3 : w.heap.size + 2 ≤ w3.heap.size := Nat.le_trans (by simp) hb3.size; have HL3 := Lib.hid hl3; have HB3 : Hid (Below w.heap.size w w3) := Below.trans (below_drewN' (((Below.refl _ _).alloc (Nat.le_refl _) _).alloc (Nat.le_of_lt (alloc_lt _ _)) _) _) (hb3.mono (by simp; omega)); obtain ⟨A3, c3, hv3⟩ := ownsRow_len3 hown3; rw [HTK.out] at hv3; subst hv3; have HO3 := Lib.hid (ownsRow_base (b' := w.heap.size + 2) hown3 (by simp)); clear hb3 hown3 hl3) | (at_builtin; refine wpList_app_ents rfl _ _ rfl (w.heap.size + 2) _ (es.take k) [Ent.mk key.data.toList id] rfl (HO3.out.alloc _) (Nat.le_trans HL3.out (Nat.le_of_lt (alloc_lt _ _))) _ (w3.heap.size + 1) rfl (ents_one w3 key id HK.out HI.out) HL1.out ?_; intro v4 w4 hown4 hg4; have hb4 := (Below.refl (w.heap.size + 2) (w3.alloc (.cells #[.string key, .int .i64 id] 75))).grown hg4 (Nat.le_trans HL3.out (Nat.le_of_lt (alloc_lt _ _))) (own_base (HO3.out)); have y0 := (hb4.cell (p := ⟨w.heap.size, 0, none⟩) (by simp)).trans ((World.cell?_alloc_lt w3 _ _ (show w.heap.size < w3.heap.size by have := HL3.out; omega)).trans z0); obtain ⟨A4, c4, hv4⟩ := ownsRow_len3 hown4; rw [HTK1.out] at hv4; subst hv4; have HB4 : Hid (Below w.heap.size w w4) := (HB3.out.alloc (HB3.out.size) _).trans (hb4.mono (by omega)); have HO4 := Lib.hid hown4; have HL4 : Hid (w.heap.size + 2 ≤ w4.heap.size) := Nat.le_trans (Nat.le_trans HL3.out (Nat.le_of_lt (alloc_lt _ _))) hb4.size; clear hown4 hg4 hb4) | (at_builtin; refine wpList_app_ents rfl _ _ rfl (w.heap.size + 2) _ (es.take k ++ [Ent.mk key.data.toList id]) rst rfl HO4.out HL4.out _ w4.heap.size rfl (HDD.out w4 HB4.out) HL3b.out ?_; intro v5 w5 hown5 hg5; have HB5 : Hid (Below w.heap.size w w5) := HB4.out.grown hg5 HB4.out.size (fun j hj => Nat.le_trans (by omega) (own_base HO4.out j hj)); have HO5 := Lib.hid (ownsRow_base (b' := w.heap.size) hown5 (by omega)); obtain ⟨A5, c5, hv5⟩ := ownsRow_len3 hown5; rw [HN3.out] at hv5; subst hv5; clear hown5 hg5) | (at_builtin; refine wpList_app_ents rfl _ _ rfl (w.heap.size + 2) _ (es.take k ++ [Ent.mk key.data.toList id]) rst rfl HO4.out HL4.out _ w4.heap.size rfl (HDD.out w4 HB4.out _ _) HL3b.out ?_; intro v5 w5 hown5 hg5; have HB5 : Hid (Below w.heap.size w w5) := HB4.out.grown hg5 HB4.out.size (fun j hj => Nat.le_trans (by omega) (own_base HO4.out j hj)); have HO5 := Lib.hid (ownsRow_base (b' := w.heap.size) hown5 (by omega)); obtain ⟨A5, c5, hv5⟩ := ownsRow_len3 hown5; rw [HN3.out] at hv5; subst hv5; clear hown5 hg5))
      all_goals (go_ret; exact ⟨_, rfl, HP.out _ _ (by rw [← HES.out]; exact HO5.out), HB5.out⟩)
end Go.Proofs.YtpicgkoclbpjpaaGreatDoor
end

section
namespace Go.Proofs.YtpicgkoclbpjpaaGreatDoor
open Go.RowKit Go.Sort Go.Lib
open PathM TreeM VtM
set_option linter.unusedVariables false

set_option maxRecDepth 100000 in
set_option maxHeartbeats 1000000 in
theorem entries_any (db mb : Nat) (t : Tr) (ev : Int → Value) (id : Int) (w : World) (h : DiskIn w db mb t ev) (hid : i64 id) (hl : (nod t.nodes id).es.length ≤ 100000000) :
    Calls Tryz.prog 197 #[.pointer (some ⟨db, 0, none⟩), .int .i64 id] w (EntsPost (nod t.nodes id).es w) := by
  have hn := node_any db mb t ev id w h hid
  unfold NodePost at hn
  unfold EntsPost
  generalize nod t.nodes id = nd at hn hl ⊢
  have HN := Lib.hid hn
  clear hn h
  unfold ndV at HN
  have hf := fieldN6
  go_enter Tryz.func197, Tryz.ntmps197
  go_wp2_with (first | (go_at_call 206; refine HN.out.mono ?_; rintro e w1 ⟨xv, rfl, hE, hb⟩; have HBD := Lib.hid hE.bounds.2; obtain ⟨Ae, ce, rfl, _⟩ := ents_len hE; have HE := Lib.hid hE; have HB := Lib.hid hb; clear hE hb) | (go_at_call 57; refine (clone_any _ _ _ HE.out).mono ?_; rintro e w2 ⟨v2, rfl, hown, hb2⟩; have HB2 := Lib.hid (HB.out.trans (hb2.mono HB.out.size)); have HE2 := Lib.hid (row_ents hown (Nat.le_trans hl (by omega)) HBD.out); obtain ⟨A2, c2, rfl⟩ := ownsRow_len3 hown; clear hb2 hown))
  go_ret
  exact ⟨_, rfl, HE2.out, HB2.out⟩

theorem cells_noStr {w : World} {b : Nat} {cs : Array Value} {t : TypeId} (h : w.heap[b]? = some (.cells cs t (0, 0))) (hc : ∀ (i : Nat) (s : ByteArray), cs[i]? ≠ some (Value.string s)) : ∀ (i : Nat) (s : ByteArray), w.cell? ⟨b, i, none⟩ ≠ some (Value.string s) := fun i s e => by
  rw [cell_blk h] at e; exact hc i s e
theorem DiskIn.noStr {w : World} {db mb : Nat} {t : Tr} {ev : Int → Value} (h : DiskIn w db mb t ev) : ∀ b, (b = db ∨ b = mb) → ∀ (i : Nat) (s : ByteArray), w.cell? ⟨b, i, none⟩ ≠ some (Value.string s) := by
  intro b hb i s
  rcases hb with rfl | rfl
  · refine cells_noStr h.disk (fun i s e => ?_) i s
    match i, e with
    | 0, e => simp at e
    | 1, e => simp at e
    | 2, e => simp at e
    | 3, e => simp at e
    | n + 4, e => simp at e
  · exact h.map.noStr i _
/-- The disk's two blocks. -/
def Own2 (db mb : Nat) (k : Nat) : Prop := k = db ∨ k = mb
theorem DiskIn.ne {w : World} {db mb : Nat} {t : Tr} {ev : Int → Value} (h : DiskIn w db mb t ev) : db ≠ mb := by
  obtain ⟨es, c, hm⟩ := h.map.block
  exact blk_ne h.disk hm (fun e => by cases e)
/-- A disk behind a store of its map and a change of its last number. -/
theorem DiskIn.turn {w w1 : World} {db mb : Nat} {t : Tr} {ev ev' : Int → Value} {l' : List Nd} (h : DiskIn w db mb t ev) (hm : MapN w1 mb l' ev') (hk : Kept (Own2 db mb) w w1) (hd : w1.heap[db]? = w.heap[db]?)
    (he : ∀ nd ∈ l', EntsIn w w.heap.size (ev' nd.id) nd.es) : DiskIn w1 db mb { t with nodes := l' } ev' :=
  ⟨hd.trans h.disk, hm, fun nd hnd => ((he nd hnd).keepBut (Own2 db mb) (fun b hb => h.noStr b hb) (fun b hb hs => hk.block b hb hs)).more hk.size⟩
theorem putN_ents {w : World} {B : Nat} {l : List Nd} {ev : Int → Value} (h : ∀ nd ∈ l, EntsIn w B (ev nd.id) nd.es) (hr : Rise l) {nd : Nd} {e : Value} (he : EntsIn w B e nd.es) : ∀ m ∈ putN nd l, EntsIn w B (if m.id = nd.id then e else ev m.id) m.es := by
  intro m hm
  have hl := look_of_mem (rise_put nd hr) hm
  rw [look_put nd hr] at hl
  by_cases e1 : m.id = nd.id
  · rw [if_pos e1] at hl ⊢
    injection hl with hl
    rw [← hl]; exact he
  · rw [if_neg e1] at hl ⊢
    exact h m (look_mem hl).1

theorem DiskIn.drew {w : World} {db mb : Nat} {t : Tr} {ev : Int → Value} (h : DiskIn w db mb t ev) : DiskIn w.drew db mb t ev := h.below (Below.refl _ _).drew
theorem Kept.drew {S : Nat → Prop} {a b : World} (h : Kept S a b) : Kept S a b.drew := h.trans (kept_of_below (Below.refl _ _).drew)
/-- 'm[n.ID] = n' at the operation. -/
theorem wpList_putN {w : World} {ops : Array Oper} {rest : List Oper} {o : Oper} {a : Act} {Q : Exit → Act → World → Prop} (hg : o.guard = none) (m x v : Operand) (hop : o.op = Op.mapUpdate 108 m x v) (mb : Nat) (l : List Nd) (ev : Int → Value)
    (hm : a.eval m = .map (some mb)) (h : MapN w mb l ev) (hr : Rise l) (hlen : l.length < 1000000) (nd : Nd) (e : Value) (hx : a.eval x = .int .i64 nd.id) (hv : a.eval v = ndV e nd) (hid : i64 nd.id)
    (hK : ∀ w', MapN w' mb (putN nd l) (fun j => if j = nd.id then e else ev j) → w.mapTurned w' mb → wpList Tryz.prog ops Q rest (a.put o.dst undef) w') : wpList Tryz.prog ops Q (o :: rest) a w := by
  refine wpList_plain hg fun K' hK' => ?_
  obtain ⟨w', hrun, r1, r2⟩ := h.put hr hlen nd e hid
  unfold Oper.wp
  simp [execOp, hop, hm, hx, hv, hrun, Result.andThen]
  exact hK' _ _ (hK w' r1 r2)
/-- 'delete(m, id)' at the operation. -/
theorem wpList_delN {w : World} {ops : Array Oper} {rest : List Oper} {o : Oper} {a : Act} {Q : Exit → Act → World → Prop} (hg : o.guard = none) (m x : Operand) (hop : o.op = Op.call { callee := Callee.builtin Builtin.delete, args := #[m, x], argTypes := #[108, 3] }) (mb : Nat) (l : List Nd) (ev : Int → Value)
    (hm : a.eval m = .map (some mb)) (h : MapN w mb l ev) (hr : Rise l) (id : Int) (hx : a.eval x = .int .i64 id) (hid : i64 id)
    (hK : ∀ w', MapN w' mb (delN id l) ev → w.mapTurned w' mb → wpList Tryz.prog ops Q rest (a.put o.dst (.tuple #[])) w') : wpList Tryz.prog ops Q (o :: rest) a w := by
  refine wpList_plain hg fun K' hK' => ?_
  obtain ⟨w', hrun, r1, r2⟩ := h.del hr id hid o.type
  unfold Oper.wp
  simp [execOp, hop, resolve, invoke, builtin, hm, hx, hrun, Result.andThen]
  exact hK' _ _ (hK w' r1 r2)
/-- Behind a store of its map, and of its last number. -/
theorem DiskIn.put_end {w W3 : World} {db mb : Nat} {t : Tr} {ev : Int → Value} {W2 : World} {nd : Nd} {e : Value} (h : DiskIn w db mb t ev) (hr : Rise t.nodes) (hb : Below w.heap.size w W2) (hm : MapN W3 mb (putN nd t.nodes) (fun j => if j = nd.id then e else ev j)) (ht : W2.mapTurned W3 mb) (he : EntsIn w w.heap.size e nd.es) :
    (∀ u : Int, DiskIn (W3.setCell ⟨db, 1, none⟩ (.int .i64 u)) db mb { t with nodes := putN nd t.nodes, last := u } (fun j => if j = nd.id then e else ev j)) ∧ (∀ u, Kept (Own2 db mb) w (W3.setCell ⟨db, 1, none⟩ u)) ∧ W3.heap[db]? = w.heap[db]? := by
  have hne := h.ne
  have hg := ht.grown
  have k2 : Kept (Own2 db mb) w W2 := kept_of_below hb
  have k3 : Kept (Own2 db mb) W2 W3 := Kept.turned ht (.inr rfl)
  have hdb : W3.heap[db]? = w.heap[db]? := (hg.block db (Nat.lt_of_lt_of_le (blk_lt h.disk) hb.size) (by simp; exact hne)).trans (hb.block db (blk_lt h.disk))
  have hD3 := h.turn hm (k2.trans k3) hdb (putN_ents h.ents hr he)
  refine ⟨fun u => ⟨?_, hD3.map.at (Below.heap_setCell _ _ _ _ (fun e => hne e.symm)), fun m hm' => ?_⟩, fun u => (k2.trans k3).trans (Kept.setCell _ _ (.inl rfl)), hdb⟩
  · have := set_blk (j := 1) hD3.disk (.int .i64 u)
    simpa using this
  · refine ((hD3.ents m hm').keepBut (Own2 db mb) (fun b hb => hD3.noStr b hb) (fun b hb hs => Below.heap_setCell _ _ _ _ (fun e => hs (.inl e)))).more (by simp)
set_option maxRecDepth 100000 in
set_option maxHeartbeats 8000000 in
theorem put_any (db mb : Nat) (t : Tr) (ev : Int → Value) (nd : Nd) (A0 : Option Addr) (n0 c0' : Nat) (w : World) (h : DiskIn w db mb t ev) (hr : Rise t.nodes) (hid : i64 nd.id) (hlen : t.nodes.length < 1000000) :
    Calls Tryz.prog 203 #[.pointer (some ⟨db, 0, none⟩), ndV (.slice A0 n0 c0') nd] w fun e w' => e = .returned (.tuple #[]) ∧ (∃ ev', DiskIn w' db mb (putT t nd) ev') ∧ Kept (Own2 db mb) w w' := by
  have hb1 := (Below.refl w.heap.size w).alloc (Nat.le_refl _) (.cells #[.int .i64 nd.id, .int .i64 nd.kind, .int .i64 nd.mode, .int .i64 nd.owner, .int .i64 nd.time, .string (nm nd.data), .slice A0 n0 c0'] 64)
  have hE := h.node nd.id
  have hl0 := fun W (hW : Below w.heap.size w W) => (h.below hW).map.seek nd.id hid
  generalize (if (VtM.seek t.nodes nd.id).isSome = true then ev nd.id else .slice none 0 0 : Value) = xv at hl0 hE
  obtain ⟨Ae, ce, rfl, _⟩ := ents_len hE
  have HE := Lib.hid hE
  have HD := Lib.hid h
  have HL := Lib.hid hl0
  have HB1 := Lib.hid hb1
  have c0 := (h.below hb1).c0
  have RB := heap_alloc_new w (.cells #[.int .i64 nd.id, .int .i64 nd.kind, .int .i64 nd.mode, .int .i64 nd.owner, .int .i64 nd.time, .string (nm nd.data), .slice A0 n0 c0'] 64)
  have hdl := blk_lt (h.below hb1).disk
  have hbl := blk_lt RB
  have hml : mb < w.heap.size := h.map.lt
  have HR := Lib.hid hr; have HLEN := Lib.hid hlen; have HID := Lib.hid hid
  clear h hE hl0 hb1
  go_enter Tryz.func203, Tryz.ntmps203
  go_wp2_with (go_at_call 56; refine (dnone_any db mb _ c0).mono ?_; rintro e w' ⟨rfl, rfl⟩)
  generalize w.alloc (.cells #[.int .i64 nd.id, .int .i64 nd.kind, .int .i64 nd.mode, .int .i64 nd.owner, .int .i64 nd.time, .string (nm nd.data), .slice A0 n0 c0'] 64) = W1 at *
  have s0 := cell_blk RB 0
  have s6 := cell_blk RB 6
  have f6 := froz_blk RB 6
  simp at s0 s6
  have hl := HL.out W1.drew HB1.out.drew
  unfold ndV at hl
  have hf := fieldN6
  refine wp_region_still_tail 9 (by kernel_rfl) (by kernel_rfl) ?_
  simp only [List.take_succ_cons, List.take_zero, List.drop_succ_cons, List.drop_zero]
  repeat still_step
  refine wpStill_nil ?_
  change wpList _ _ _ _ _ W1.drew
  clear hl
  go_wp2
  have RB2 : ((W1.setCell ⟨w.heap.size, 6, none⟩ (.slice Ae (nod t.nodes nd.id).es.length ce)).drew).heap[w.heap.size]? = _ := set_blk (j := 6) RB (.slice Ae (nod t.nodes nd.id).es.length ce)
  have hb2 := ((HB1.out).setCell (p := ⟨w.heap.size, 6, none⟩) (Nat.le_refl _) (.slice Ae (nod t.nodes nd.id).es.length ce)).drew
  simp only [List.setIfInBounds_toArray, List.set] at RB2
  generalize (W1.setCell ⟨w.heap.size, 6, none⟩ (.slice Ae (nod t.nodes nd.id).es.length ce)).drew = W2 at *
  clear RB s0 s6 f6 c0 hdl
  have HB2 := Lib.hid hb2
  clear hb2
  have c0 := (HD.out.below HB2.out).c0
  have s0 := cell_blk RB2 0
  have s1 := cell_blk RB2 1
  have s2 := cell_blk RB2 2
  have s3 := cell_blk RB2 3
  have s4 := cell_blk RB2 4
  have s5 := cell_blk RB2 5
  have s6 := cell_blk RB2 6
  simp at s0 s1 s2 s3 s4 s5 s6
  refine wp_region_still_tail 7 (by kernel_rfl) (by kernel_rfl) ?_
  simp only [List.take_succ_cons, List.take_zero, List.drop_succ_cons, List.drop_zero]
  repeat still_step
  refine wpStill_nil ?_
  change wpList _ _ _ _ _ W2.drew
  go_wp2_with (at_mapUpdate; refine wpList_putN rfl _ _ _ rfl mb t.nodes ev rfl (HD.out.below HB2.out.drew).map HR.out HLEN.out { nd with es := (nod t.nodes nd.id).es } (.slice Ae (nod t.nodes nd.id).es.length ce) rfl rfl HID.out ?_; intro W3 hm3 ht3)
  have RB3 := (ht3.grown.block w.heap.size (blk_lt (show W2.drew.heap[w.heap.size]? = _ from RB2)) (by simp; omega)).trans (show W2.drew.heap[w.heap.size]? = _ from RB2)
  have E3 := DiskIn.put_end HD.out HR.out HB2.out.drew hm3 ht3 HE.out
  have HE3 := Lib.hid E3
  have c1 := (cell_blk (HE3.out.2.2.trans HD.out.disk) 1)
  have f1 := (froz_blk (HE3.out.2.2.trans HD.out.disk) 1)
  have t0 := cell_blk RB3 0
  simp at c1 t0
  clear hm3 ht3 RB2 RB3 E3 s0 s1 s2 s3 s4 s5 s6 c0
  go_wp2
  refine wp_region_still_tail 10 (by kernel_rfl) (by kernel_rfl) ?_
  simp only [List.take_succ_cons, List.take_zero, List.drop_succ_cons, List.drop_zero]
  repeat still_step
  refine wpStill_nil ?_
  change wpList _ _ _ _ _ W3.drew
  go_wp2
  go_end0
  exact ⟨rfl, ⟨_, (HE3.out.1 _).drew⟩, (HE3.out.2.1 _).drew⟩

/-- Behind a store of its map alone. -/
theorem DiskIn.bind_end {w W2 W3 : World} {db mb : Nat} {t : Tr} {ev : Int → Value} {nd : Nd} {e : Value} (h : DiskIn w db mb t ev) (hr : Rise t.nodes) (hb : Below w.heap.size w W2) (hm : MapN W3 mb (putN nd t.nodes) (fun j => if j = nd.id then e else ev j)) (ht : W2.mapTurned W3 mb) (he : EntsIn W2 W2.heap.size e nd.es) :
    DiskIn W3 db mb { t with nodes := putN nd t.nodes } (fun j => if j = nd.id then e else ev j) ∧ Kept (Own2 db mb) w W3 := by
  have hne := h.ne
  have hg := ht.grown
  have hD2 := h.below hb
  have k2 : Kept (Own2 db mb) w W2 := kept_of_below hb
  have k3 : Kept (Own2 db mb) W2 W3 := Kept.turned ht (.inr rfl)
  exact ⟨hD2.turn hm k3 (hg.block db (blk_lt hD2.disk) (by simp; exact hne)) (putN_ents hD2.ents hr he), k2.trans k3⟩
set_option maxRecDepth 100000 in
set_option maxHeartbeats 8000000 in
theorem bind_any (db mb : Nat) (t : Tr) (ev : Int → Value) (dir : Int) (key : ByteArray) (id : Int) (w : World) (h : DiskIn w db mb t ev) (hr : Rise t.nodes) (hdir : i64 dir) (hid : i64 id) (hk : key.data.toList.length ≤ 140737488351232) (hlen : t.nodes.length < 1000000)
    (hs : Sorted (nod t.nodes dir).es) (hel : (nod t.nodes dir).es.length ≤ 100000000) :
    Calls Tryz.prog 195 #[.pointer (some ⟨db, 0, none⟩), .int .i64 dir, .string key, .int .i64 id] w fun e w' => e = .returned (.tuple #[]) ∧ (∃ ev', DiskIn w' db mb (bindT t dir key.data.toList id) ev') ∧ Kept (Own2 db mb) w w' := by
  have c0 := h.c0
  have hl := h.map.look_ok dir hdir
  have hE := h.node dir
  have HD := Lib.hid h; have HR := Lib.hid hr; have HLEN := Lib.hid hlen; have HDI := Lib.hid hdir
  unfold bindT
  cases hlook : VtM.seek t.nodes dir with
  | none =>
    rw [hlook] at hl
    simp only [Option.isSome_none, Bool.false_eq_true, if_false] at hl
    have hz : nod t.nodes dir = zeroN := by unfold nod; rw [hlook]; rfl
    rw [hz] at hl
    clear h hE hs hel hlook hz
    unfold ndV zeroN at hl
    go_enter Tryz.func195, Tryz.ntmps195
    go_wp2_with (go_at_call 56; refine (dnone_any db mb _ c0).mono ?_; rintro e w' ⟨rfl, rfl⟩)
    go_end0
    have hb := (Below.refl w.heap.size w).alloc (Nat.le_refl _) (.cells #[.int .i64 0, .int .i64 0, .int .i64 0, .int .i64 0, .int .i64 0, .string (nm []), .slice none 0 0] 64)
    exact ⟨rfl, ⟨_, HD.out.below hb⟩, kept_of_below hb⟩
  | some nd =>
    have hnd : nod t.nodes dir = nd := by unfold nod; rw [hlook]; rfl
    obtain ⟨hmem, rfl⟩ := look_mem hlook
    rw [hlook, hnd] at hl
    simp only [Option.isSome_some, if_true] at hl
    rw [hlook, hnd] at hE
    simp only [Option.isSome_some, if_true] at hE
    rw [hnd] at hs hel
    have hbd := fun W (hW : Below w.heap.size w W) => bound_any (ev nd.id) nd.es key id W ((hE.below hW).more hW.size) hs hk hid hel
    unfold EntsPost at hbd
    obtain ⟨Ae, ce, hev, _⟩ := ents_len hE
    rw [hev] at hl hbd
    have HB := Lib.hid hbd
    clear h hE hs hel hlook hnd hmem hbd hev
    unfold ndV at hl
    have RB := heap_alloc_new w (.cells #[.int .i64 nd.id, .int .i64 nd.kind, .int .i64 nd.mode, .int .i64 nd.owner, .int .i64 nd.time, .string (nm nd.data), .slice Ae nd.es.length ce] 64)
    have hb1 := (Below.refl w.heap.size w).alloc (Nat.le_refl _) (.cells #[.int .i64 nd.id, .int .i64 nd.kind, .int .i64 nd.mode, .int .i64 nd.owner, .int .i64 nd.time, .string (nm nd.data), .slice Ae nd.es.length ce] 64)
    have HB1 := Lib.hid hb1
    have HRB := Lib.hid RB
    clear hb1 RB
    go_enter Tryz.func195, Tryz.ntmps195
    go_wp2_with (first | (go_at_call 56; refine (dnone_any db mb _ c0).mono ?_; rintro e w' ⟨rfl, rfl⟩) | (go_at_call 33; refine (HB.out _ HB1.out).mono ?_; rintro e w2 ⟨v2, rfl, hE2, hb2⟩; have HB2 := Lib.hid (HB1.out.trans (hb2.mono (by simp))); have RB2 := (hb2.block w.heap.size (by simp)).trans HRB.out; have f6 := froz_blk RB2 6; have s6 := cell_blk RB2 6; simp at s6; have HRB2 := Lib.hid RB2; have HEK := Lib.hid hE2; obtain ⟨A2, c2, rfl, _⟩ := ents_len hE2; clear hE2 hb2 RB2))
    have RB4 := set_blk (j := 6) HRB2.out (.slice A2 (boundE nd.es key.data.toList id).length c2)
    have hb4 := HB2.out.setCell (p := ⟨w.heap.size, 6, none⟩) (Nat.le_refl _) (.slice A2 (boundE nd.es key.data.toList id).length c2)
    have hE4 : EntsIn (w2.setCell ⟨w.heap.size, 6, none⟩ (.slice A2 (boundE nd.es key.data.toList id).length c2)) w2.heap.size (.slice A2 (boundE nd.es key.data.toList id).length c2) (boundE nd.es key.data.toList id) := HEK.out.keepBut2 (fun k => k = w.heap.size) (fun b hb => by rw [hb]; exact box_noEnt HRB2.out (by simp) (by simp) (by simp) (by simp) (by simp)) (fun b hb hs => Below.heap_setCell _ _ _ _ (fun e => hs e))
    simp only [List.setIfInBounds_toArray, List.set] at RB4
    have hsz : w2.heap.size ≤ (w2.setCell ⟨w.heap.size, 6, none⟩ (.slice A2 (boundE nd.es key.data.toList id).length c2)).heap.size := by simp
    generalize w2.setCell ⟨w.heap.size, 6, none⟩ (.slice A2 (boundE nd.es key.data.toList id).length c2) = W4 at *
    have HB4 := Lib.hid hb4
    have HE4 := Lib.hid (hE4.more hsz)
    clear hb4 hE4 hsz f6 s6 c0
    have c0 := (HD.out.below HB4.out).c0
    have s0 := cell_blk RB4 0
    have s1 := cell_blk RB4 1
    have s2 := cell_blk RB4 2
    have s3 := cell_blk RB4 3
    have s4 := cell_blk RB4 4
    have s5 := cell_blk RB4 5
    have s6 := cell_blk RB4 6
    simp at s0 s1 s2 s3 s4 s5 s6
    refine wp_region_still_tail 6 (by kernel_rfl) (by kernel_rfl) ?_
    simp only [List.take_succ_cons, List.take_zero, List.drop_succ_cons, List.drop_zero]
    repeat still_step
    refine wpStill_nil ?_
    change wpList _ _ _ _ _ W4.drew
    go_wp2_with (at_mapUpdate; refine wpList_putN rfl _ _ _ rfl mb t.nodes ev rfl (HD.out.below HB4.out.drew).map HR.out HLEN.out { nd with es := boundE nd.es key.data.toList id } (.slice A2 (boundE nd.es key.data.toList id).length c2) rfl rfl HDI.out ?_; intro W3 hm3 ht3)
    go_end0
    have E := DiskIn.bind_end HD.out HR.out HB4.out.drew hm3 ht3 (HE4.out)
    exact ⟨rfl, ⟨_, E.1⟩, E.2⟩
set_option maxRecDepth 100000 in
set_option maxHeartbeats 2000000 in
theorem drop_any (db mb : Nat) (t : Tr) (ev : Int → Value) (id : Int) (w : World) (h : DiskIn w db mb t ev) (hr : Rise t.nodes) (hid : i64 id) :
    Calls Tryz.prog 196 #[.pointer (some ⟨db, 0, none⟩), .int .i64 id] w fun e w' => e = .returned (.tuple #[]) ∧ (∃ ev', DiskIn w' db mb (dropT t id) ev') ∧ Kept (Own2 db mb) w w' := by
  have c0 := h.c0
  have hdel := fun ty => h.map.del hr id hid ty
  have HD := Lib.hid h
  have HDEL := Lib.hid hdel
  clear h hdel
  go_enter Tryz.func196, Tryz.ntmps196
  go_wp2_with (first | (go_at_call 56; refine (dnone_any db mb _ c0).mono ?_; rintro e w' ⟨rfl, rfl⟩) | (at_delete; refine wpList_delN rfl _ _ rfl mb t.nodes ev rfl HD.out.map hr id rfl hid ?_; intro W3 hm3 ht3))
  go_end0
  have hne := HD.out.ne
  have hg := ht3.grown
  have k3 : Kept (Own2 db mb) w W3 := Kept.turned ht3 (.inr rfl)
  exact ⟨rfl, ⟨ev, HD.out.turn hm3 k3 (hg.block db (blk_lt HD.out.disk) (by simp; exact hne)) (fun nd hnd => HD.out.ents nd (del_mem.1 hnd).1)⟩, k3⟩
end Go.Proofs.YtpicgkoclbpjpaaGreatDoor
end

section
namespace Go.Proofs.YtpicgkoclbpjpaaGreatDoor
open Go.RowKit Go.Sort Go.Lib
open PathM TreeM VtM
set_option linter.unusedVariables false

/-- A loop over the nodes l is under way; seen: those that came. -/
def RangeN (w : World) (mb r : Nat) (l : List Nd) (ev : Int → Value) (seen : List Nd) (cnt : Nat) : Prop :=
  ∃ (D : DataW Value) (left : Lit → Bool), w.ranges Tryz.prog 3 nodeR mb r l.length D left cnt ∧
    (∀ id : Int, (seek l id = none → Maps.has D (.int .i64 id) = false) ∧ ∀ nd, seek l id = some nd → Maps.has D (.int .i64 id) = true ∧ ∀ z, D.atKey (.int .i64 id) z = .held (ndV (ev id) nd)) ∧
    (∀ k, left k = true → Maps.has D k = true) ∧ (∀ nd ∈ l, (left (.int .i64 nd.id) = false ↔ nd ∈ seen)) ∧ (∀ nd ∈ seen, nd ∈ l) ∧ seen.Nodup
theorem RangeN.kept {w w' : World} {mb r : Nat} {l : List Nd} {ev : Int → Value} {seen : List Nd} {cnt : Nat} {row : Option Nat} (h : RangeN w mb r l ev seen cnt) (hg : w.grownBy w' row) (h1 : some mb ≠ row) (h2 : some r ≠ row) : RangeN w' mb r l ev seen cnt := by
  obtain ⟨D, left, a, b⟩ := h; exact ⟨D, left, a.kept hg h1 h2, b⟩
theorem RangeN.below {w w' : World} {mb r : Nat} {l : List Nd} {ev : Int → Value} {seen : List Nd} {cnt : Nat} (h : RangeN w mb r l ev seen cnt) (hb : Below w.heap.size w w') : RangeN w' mb r l ev seen cnt :=
  h.kept (row := none) ⟨hb.os, hb.tape, hb.output, hb.size, fun k hk _ => hb.block k hk⟩ (by simp) (by simp)
theorem RangeN.lt {w : World} {mb r : Nat} {l : List Nd} {ev : Int → Value} {seen : List Nd} {cnt : Nat} (h : RangeN w mb r l ev seen cnt) : r < w.heap.size := by obtain ⟨D, left, a, _⟩ := h; exact a.lt
theorem RangeN.left {w : World} {mb r : Nat} {l : List Nd} {ev : Int → Value} {seen : List Nd} {cnt : Nat} (h : RangeN w mb r l ev seen cnt) : w.rangeLeft mb r = cnt := by obtain ⟨D, left, a, _⟩ := h; exact a.left_eq
theorem same_self (x : Int) : (Lit.int .i64 x).sameKey (.int .i64 x) = true := decide_eq_true ⟨rfl, rfl⟩
theorem rise_nodup {l : List Nd} (h : Rise l) : l.Nodup := List.Pairwise.imp (fun h e => by subst e; omega) h
theorem wpList_range_nodes {w : World} {ops : Array Oper} {rest : List Oper} {o : Oper} {a : Act} {Q : Exit → Act → World → Prop} (hg : o.guard = none) (m : Operand) (hop : o.op = Op.range 108 m) (mb : Nat) (l : List Nd) (ev : Int → Value) (hr : Rise l)
    (hm : a.eval m = .map (some mb)) (h : MapN w mb l ev) (hK : ∀ w', RangeN w' mb w.heap.size l ev [] l.length → w.grownBy w' none → w'.heap.size = w.heap.size + 1 → wpList Tryz.prog ops Q rest (a.put o.dst (.pointer (some ⟨w.heap.size, 0, none⟩))) w') : wpList Tryz.prog ops Q (o :: rest) a w := by
  obtain ⟨D, h1, h2, h3⟩ := h
  refine wpList_range_own w hg m 108 hop 3 64 keyN Tryz.underlying108 nodeR mb _ D hm h1 (fun w' r1 r2 r3 => hK w' ⟨D, Maps.has D, h2 ▸ r1, h3, fun k hk => hk, fun nd hnd => ?_, by simp, List.nodup_nil⟩ r2 r3)
  have := ((h3 nd.id).2 nd (look_of_mem hr hnd)).1
  simp [this]
theorem wpList_next_nodes {w : World} {ops : Array Oper} {rest : List Oper} {o : Oper} {a : Act} {Q : Exit → Act → World → Prop} (hg : o.guard = none) (it : Operand) (hop : o.op = Op.next it false) (mb r : Nat) (l : List Nd) (ev : Int → Value) (hr : Rise l) (seen : List Nd) (cnt : Nat)
    (hit : a.eval it = .pointer (some ⟨r, 0, none⟩)) (h : RangeN w mb r l ev seen cnt)
    (hDone : seen.Perm l → wpList Tryz.prog ops Q rest (a.put o.dst (.tuple #[.bool false])) w)
    (hMore : ∀ (nd : Nd) (w' : World) (cnt' : Nat), nd ∈ l → nd ∉ seen → RangeN w' mb r l ev (seen ++ [nd]) cnt' → cnt' < cnt → w.grownBy w' (some r) → w'.heap.size = w.heap.size →
      (Instr.entry (.pointer (some ⟨r, 0, none⟩))).run Tryz.prog w' = .ok (.tuple #[.int .i64 nd.id, ndV (ev nd.id) nd]) w' → wpList Tryz.prog ops Q rest (a.put o.dst (.tuple #[.bool true, .int .i64 nd.id, ndV (ev nd.id) nd])) w') :
    wpList Tryz.prog ops Q (o :: rest) a w := by
  obtain ⟨D, left, h1, h3, h4, h5, h6, h7⟩ := h
  refine wpList_next_ranges w hg it hop 3 keyN nodeR (fun x : Int => Value.int .i64 x) (fun v : Value => v) (fun key kl hkey => by obtain ⟨x, rfl, _⟩ := Maps.keyOf_int_inv Tryz.underlying3 hkey; exact ⟨x, rfl⟩) (fun v y hv => ⟨v, rfl⟩)
    mb r l.length D left cnt hit h1 (fun h0 hl => hDone ?_) (fun x c kl y w' cnt' hkey hlk hv hat hrg hlt hgr hsz hen => ?_)
  · refine (List.perm_ext_iff_of_nodup h7 (rise_nodup hr)).2 fun nd => ⟨h6 nd, fun hnd => (h5 nd hnd).1 (hl _)⟩
  · obtain ⟨x', ex, rfl, hwx⟩ := Maps.keyOf_int_inv Tryz.underlying3 hkey
    cases ex
    have hy : y = (.held c, []) := (Option.some.inj hv).symm
    subst hy
    have hhas := h4 _ hlk
    cases hs : seek l x with
    | none => rw [(h3 x).1 hs] at hhas; cases hhas
    | some nd =>
      obtain ⟨hm, rfl⟩ := look_mem hs
      have hc : c = ndV (ev nd.id) nd := by
        have e1 := hat (.held c)
        rw [((h3 nd.id).2 nd hs).2] at e1
        exact (held_inj e1).symm
      subst hc
      have hns : nd ∉ seen := fun hin => by
        have := (h5 nd hm).2 hin
        rw [hlk] at this; cases this
      refine hMore nd w' cnt' hm hns ⟨D, _, hrg, h3, fun k hk => h4 k (by rw [Bool.and_eq_true] at hk; exact hk.1), fun m hm' => ?_, fun m hm' => ?_, ?_⟩ hlt hgr hsz hen
      · by_cases e : m.id = nd.id
        · have : m = nd := by
            have a1 := look_of_mem hr hm'
            rw [e, hs] at a1; exact (Option.some.inj a1).symm
          subst this
          have hk : (Lit.int .i64 m.id).sameKey (.int .i64 m.id) = true := same_self _
          rw [hk]
          simp
        · have hne : (Lit.int .i64 m.id).sameKey (.int .i64 nd.id) = false := Maps.sameKey_ne (litN e)
          simp only [hne, Bool.not_false, Bool.and_true]
          rw [h5 m hm', List.mem_append]
          refine ⟨.inl, fun h => h.elim id fun h => absurd (congrArg Nd.id (List.mem_singleton.1 h)) e⟩
      · rcases List.mem_append.1 hm' with h | h
        · exact h6 m h
        · rw [List.mem_singleton.1 h]; exact hm
      · exact List.nodup_append.2 ⟨h7, by simp, fun a ha b hb => by rw [List.mem_singleton.1 hb]; rintro rfl; exact hns ha⟩

theorem sizeN_app (a b : List Nd) : sizeN (a ++ b) = sizeN a + sizeN b := by simp [sizeN]
theorem sizeN_perm {a b : List Nd} (h : a.Perm b) : sizeN a = sizeN b := List.Perm.sum_nat (h.map _)
theorem sizeN_le {l : List Nd} (h : ∀ nd ∈ l, nd.data.length ≤ 4096) : sizeN l ≤ l.length * 4096 := by
  induction l with
  | nil => simp [sizeN]
  | cons a l ih =>
    have h1 := h a (by simp)
    have h2 := ih fun nd hnd => h nd (by simp [hnd])
    simp only [sizeN, List.map_cons, List.sum_cons, List.length_cons] at h2 ⊢
    omega
theorem sizeN_filter (p : Nd → Bool) (l : List Nd) : sizeN (l.filter p) ≤ sizeN l := by
  induction l with
  | nil => simp [sizeN]
  | cons a l ih =>
    simp only [sizeN] at ih ⊢
    rw [List.filter_cons]
    split
    · simp only [List.map_cons, List.sum_cons]; omega
    · simp only [List.map_cons, List.sum_cons]; omega
theorem RangeN.sub {w : World} {mb r : Nat} {l : List Nd} {ev : Int → Value} {seen : List Nd} {cnt : Nat} (h : RangeN w mb r l ev seen cnt) (hr : Rise l) : seen.Perm (l.filter fun x => decide (x ∈ seen)) := by
  obtain ⟨D, left, _, _, _, _, h6, h7⟩ := h
  refine (List.perm_ext_iff_of_nodup h7 ((rise_nodup hr).filter _)).2 fun x => ?_
  rw [List.mem_filter]
  simp only [decide_eq_true_eq]
  exact ⟨fun hx => ⟨h6 x hx, hx⟩, fun hx => hx.2⟩
theorem RangeN.size {w : World} {mb r : Nat} {l : List Nd} {ev : Int → Value} {seen : List Nd} {cnt : Nat} (h : RangeN w mb r l ev seen cnt) (hr : Rise l) : sizeN seen ≤ sizeN l := by
  rw [sizeN_perm (h.sub hr)]; exact sizeN_filter _ _
theorem RangeN.len {w : World} {mb r : Nat} {l : List Nd} {ev : Int → Value} {seen : List Nd} {cnt : Nat} (h : RangeN w mb r l ev seen cnt) (hr : Rise l) : seen.length ≤ l.length := by
  rw [(h.sub hr).length_eq]; exact List.length_filter_le _ _
set_option maxRecDepth 100000 in
set_option maxHeartbeats 4000000 in
theorem usage5_any (db mb : Nat) (t : Tr) (ev : Int → Value) (w : World) (h : DiskIn w db mb t ev) (hr : Rise t.nodes) (hlen : t.nodes.length < 1000000) (hd : ∀ nd ∈ t.nodes, nd.data.length ≤ 4096) :
    Calls Tryz.prog 205 #[.pointer (some ⟨db, 0, none⟩)] w fun e w' => e = .returned (.tuple #[.int .i64 t.nodes.length, .int .i64 (sizeN t.nodes)]) ∧ Below w.heap.size w w' := by
  have c0 := h.c0
  have HD := Lib.hid h; have HR := Lib.hid hr
  have hdl := blk_lt h.disk
  have hml := h.map.lt
  clear h
  go_enter Tryz.func205, Tryz.ntmps205
  go_wp2_with (first | (go_at_call 56; refine (dnone_any db mb _ c0).mono ?_; rintro e w' ⟨rfl, rfl⟩) | (at_range; refine wpList_range_nodes rfl _ rfl mb t.nodes ev hr rfl HD.out.map ?_; intro w0 hrg0 hg0 hs0) | go_in)
  go_frame
  have hsl := sizeN_le hd
  go_loopw [4] (fun v wr => ∃ (seen : List Nd) (cnt : Nat), v = .int .i64 (sizeN seen : Int) ∧ RangeN wr mb w.heap.size t.nodes ev seen cnt ∧ Below w.heap.size w wr) (fun _ wr => wr.rangeLeft mb w.heap.size)
  case atStart => exact ⟨[], _, rfl, hrg0, ⟨hg0.os, hg0.tape, hg0.output, hg0.size, fun k hk => hg0.block k hk (by simp)⟩⟩
  case round =>
    obtain ⟨seen, cnt, rfl, hrg, hb⟩ := hrel
    have HRG := Lib.hid hrg; have HB := Lib.hid hb
    clear hrg hb
    go_wp2_with (first | (at_next; refine wpList_next_nodes rfl _ rfl mb w.heap.size t.nodes ev HR.out seen cnt rfl HRG.out ?_ ?_) | go_in)
    · intro hp
      have c0' := (HD.out.below HB.out).c0
      have hle := (HD.out.below HB.out).map.len
      have e1 := sizeN_perm hp
      rw [e1]
      clear e1 hp
      go_wp2
      go_ret2
      exact ⟨rfl, HB.out⟩
    · intro nd w1 cnt1 hnd hns hrg1 hlt hg1 hs1 hen
      obtain ⟨Ae, ce, hev, _⟩ := ents_len (HD.out.ents nd hnd)
      rw [hev] at hen ⊢
      unfold ndV at hen ⊢
      have h1 := HRG.out.size HR.out
      have h2 := hd nd hnd
      have hfit : (sizeN seen : Int) + (nd.data.length : Int) ≤ 9223372036854775807 := by omega
      have e1 : (sizeN (seen ++ [nd]) : Int) = (sizeN seen : Int) + (nd.data.length : Int) := by rw [sizeN_app]; simp [sizeN]
      have hb1 : Below w.heap.size w w1 := HB.out.grown hg1 HB.out.size (fun j hj => by cases hj; exact Nat.le_refl _)
      have HRG1 := Lib.hid hrg1; have HB1 := Lib.hid hb1; have HLT := Lib.hid hlt; have HE1 := Lib.hid e1
      have hnm := nm_size nd.data
      clear hrg1 hb1 hlt e1 hg1 hs1 hnd hns h1 h2 hev
      generalize sizeN seen = sz at *
      generalize hdl2 : (nm nd.data) = da at *
      generalize nd.data.length = dl at *
      go_wp2
      go_roundw
      case rel => exact ⟨seen ++ [nd], cnt1, by rw [HE1.out], HRG1.out.below ((Below.refl _ _).alloc (Nat.le_refl _) _), HB1.out.alloc HB1.out.size _⟩
      case measure => rw [(HRG1.out.below ((Below.refl _ _).alloc (Nat.le_refl _) _)).left, HRG.out.left]; exact HLT.out
end Go.Proofs.YtpicgkoclbpjpaaGreatDoor
end
