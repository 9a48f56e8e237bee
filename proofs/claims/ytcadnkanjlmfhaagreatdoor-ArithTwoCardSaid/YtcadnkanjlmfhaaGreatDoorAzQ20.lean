/- DERIVED. Texts of this claim, joined: ArRNode, ArRLev, ArRLvl, ArRUn. -/
import Derived.Test.YtcadnkanjlmfhaaGreatDoorAzQ19
import Derived.BigRegion
namespace Go.Proofs.YtcadnkanjlmfhaaGreatDoor.Ar
open Go.RowKit
open PathM WdM ArM
open Go.Proofs.YtcadnkanjlmfhaaGreatDoor.Wd
set_option linter.unusedVariables false

/-- A node in a row. -/
def KidAt (w : World) (b off : Nat) (P : Bs → Bs → Int → Value → Prop) : Prop := ∃ S N k K, w.cell? ⟨b, off, none⟩ = some (.string (nm S)) ∧ w.cell? ⟨b, off + 1, none⟩ = some (.string (nm N)) ∧ w.cell? ⟨b, off + 2, none⟩ = some (.int .i64 k) ∧ w.cell? ⟨b, off + 3, none⟩ = some K ∧ P S N k K
/-- A term as a node, in blocks of a kind: its sign, its name, its number, its parts. -/
def NdR (D : Nat → Prop) (w : World) : Tm → Bs → Bs → Int → Value → Prop
  | .const n, S, N, k, K => S = [] ∧ N = [] ∧ k = n ∧ (0 ≤ n ∧ n ≤ 9223372036854775807) ∧ ∃ A m c, K = .slice A m c
  | .named t, S, N, k, K => S = [] ∧ N = t ∧ (t ≠ [] ∧ t.length ≤ 8192) ∧ ∃ A m c, K = .slice A m c
  | .led s t, S, N, k, K => S = s ∧ leadsOf s = true ∧ ∃ b, K = .slice (some ⟨b, 0, none⟩) 1 1 ∧ (D b ∧ b < w.heap.size) ∧ KidAt w b 0 (NdR D w t)
  | .pair s l r, S, N, k, K => S = s ∧ 1 ≤ tightOf s ∧ ∃ b, K = .slice (some ⟨b, 0, none⟩) 2 2 ∧ (D b ∧ b < w.heap.size) ∧ KidAt w b 0 (NdR D w l) ∧ KidAt w b 4 (NdR D w r)
  | .gift y n t, S, N, k, K => S = y ++ [61] ∧ (S ∈ gvS ∧ n.length ≤ 8192) ∧ ∃ b, K = .slice (some ⟨b, 0, none⟩) 2 2 ∧ (D b ∧ b < w.heap.size) ∧ KidAt w b 0 (fun S' N' k' K' => N' = n ∧ ∃ A m c, K' = .slice A m c) ∧ KidAt w b 4 (NdR D w t)
  | .choice x y z, S, N, k, K => S = [63] ∧ ∃ b, K = .slice (some ⟨b, 0, none⟩) 3 3 ∧ (D b ∧ b < w.heap.size) ∧ KidAt w b 0 (NdR D w x) ∧ KidAt w b 4 (NdR D w y) ∧ KidAt w b 8 (NdR D w z)
theorem KidAt.keep {w w' : World} {b off : Nat} {P Q : Bs → Bs → Int → Value → Prop} (h : KidAt w b off P) (e : w'.heap[b]? = w.heap[b]?) (hpq : ∀ S N k K, P S N k K → Q S N k K) : KidAt w' b off Q := by
  obtain ⟨S, N, k, K, h0, h1, h2, h3, hp⟩ := h
  exact ⟨S, N, k, K, (World.cell?_of_block e).trans h0, (World.cell?_of_block e).trans h1, (World.cell?_of_block e).trans h2, (World.cell?_of_block e).trans h3, hpq _ _ _ _ hp⟩
/-- What holds is kept, where the blocks are. -/
theorem NdR.keep {D D' : Nat → Prop} {w w' : World} (hb : ∀ b, D b → b < w.heap.size → D' b ∧ b < w'.heap.size ∧ w'.heap[b]? = w.heap[b]?) : ∀ (t : Tm) (S N : Bs) (k : Int) (K : Value), NdR D w t S N k K → NdR D' w' t S N k K
  | .const n, S, N, k, K, h => h
  | .named t, S, N, k, K, h => h
  | .led s t, S, N, k, K, ⟨h0, h1, b, h2, h3, h4⟩ =>
    have hq := hb b h3.1 h3.2
    ⟨h0, h1, b, h2, ⟨hq.1, hq.2.1⟩, h4.keep hq.2.2 (NdR.keep hb t)⟩
  | .pair s l r, S, N, k, K, ⟨h0, h1, b, h2, h3, h4, h5⟩ =>
    have hq := hb b h3.1 h3.2
    ⟨h0, h1, b, h2, ⟨hq.1, hq.2.1⟩, h4.keep hq.2.2 (NdR.keep hb l), h5.keep hq.2.2 (NdR.keep hb r)⟩
  | .gift y n t, S, N, k, K, ⟨h0, h1, b, h2, h3, h4, h5⟩ =>
    have hq := hb b h3.1 h3.2
    ⟨h0, h1, b, h2, ⟨hq.1, hq.2.1⟩, h4.keep hq.2.2 (fun _ _ _ _ h => h), h5.keep hq.2.2 (NdR.keep hb t)⟩
  | .choice x y z, S, N, k, K, ⟨h0, b, h2, h3, h4, h5, h6⟩ =>
    have hq := hb b h3.1 h3.2
    ⟨h0, b, h2, ⟨hq.1, hq.2.1⟩, h4.keep hq.2.2 (NdR.keep hb x), h5.keep hq.2.2 (NdR.keep hb y), h6.keep hq.2.2 (NdR.keep hb z)⟩
theorem NdR.form {D : Nat → Prop} {w : World} : ∀ {t : Tm} {S N : Bs} {k : Int} {K : Value}, NdR D w t S N k K → ∃ A m c, K = .slice A m c
  | .const n, S, N, k, K, h => h.2.2.2.2
  | .named t, S, N, k, K, h => h.2.2.2
  | .led s t, S, N, k, K, ⟨_, _, b, h2, _⟩ => ⟨_, _, _, h2⟩
  | .pair s l r, S, N, k, K, ⟨_, _, b, h2, _⟩ => ⟨_, _, _, h2⟩
  | .gift y n t, S, N, k, K, ⟨_, _, b, h2, _⟩ => ⟨_, _, _, h2⟩
  | .choice x y z, S, N, k, K, ⟨_, b, h2, _⟩ => ⟨_, _, _, h2⟩
def readV (S N : ByteArray) (k : Int) (K : Value) (i x : Int) : Value := .agg #[.string S, .string N, .int .i64 k, K, .int .i64 i, .int .i64 x]
/-- What was read: a node, the place behind it, or an error. -/
def RdP (T : List Tok) (m : Rr) (w : World) (e : Ending) (w' : World) : Prop := Below w.heap.size w w' ∧ match m with
  | .ok (t, r) => ∃ S N k K, ∃ i : Nat, e = .returned (readV (nm S) (nm N) k K (i : Int) 0) ∧ (T.drop i = r ∧ i ≤ T.length) ∧ NdR (fun b => w.heap.size ≤ b) w' t S N k K
  | .error er => ∃ S N k A n c, ∃ i : Int, e = .returned (readV S N k (.slice A n c) i er) ∧ er ≠ 0
/-- A call that reads as a function says, of few tokens. -/
def RO (n : Nat) (B b off c : Nat) (T : List Tok) (m : Nat) (args : Array Value) (f : List Tok → Rr) : Prop := ∀ (i : Nat) (x : Int) w, x = (i : Int) → T.length - i < m → i ≤ T.length → B ≤ w.heap.size → RTk B w b off c T → Calls Tryz.prog n (#[.slice (some ⟨b, off, none⟩) T.length c, .int .i64 x] ++ args) w (RdP T (f (T.drop i)) w)
theorem RdP.back {T : List Tok} {m m' : Rr} {w w1 w2 : World} {e : Ending} (hb : Below w.heap.size w w1) (h : RdP T m w1 e w2) (hm : m = m') : RdP T m' w e w2 := by
  subst hm
  refine ⟨hb.trans (h.1.mono hb.size), ?_⟩
  obtain ⟨_, h⟩ := h
  cases m with
  | error er => exact h
  | ok p =>
    obtain ⟨S, N, k, K, i, h1, h2, h3⟩ := h
    exact ⟨S, N, k, K, i, h1, h2, NdR.keep (fun b hb2 hl => ⟨Nat.le_trans hb.size hb2, hl, rfl⟩) _ _ _ _ _ h3⟩
theorem RdP.bad {T : List Tok} {m : Rr} {w w' : World} {er : Int} {S N : ByteArray} {k i : Int} {A : Option Addr} {n c : Nat} (hm : m = .error er) (h0 : er ≠ 0) (hb : Below w.heap.size w w') : RdP T m w (.returned (readV S N k (.slice A n c) i er)) w' := by
  subst hm
  exact ⟨hb, S, N, k, A, n, c, i, rfl, h0⟩
theorem RdP.yes {T : List Tok} {m : Rr} {w w' : World} {t : Tm} {r : List Tok} {S N : Bs} {k : Int} {K : Value} {i : Nat} {x : Int} {S' N' : ByteArray} (hm : m = .ok (t, r)) (hb : Below w.heap.size w w') (hr : T.drop i = r) (hi : i ≤ T.length) (hn : NdR (fun b => w.heap.size ≤ b) w' t S N k K) (hx : x = (i : Int)) (hS : S' = nm S) (hN : N' = nm N) : RdP T m w (.returned (readV S' N' k K x 0)) w' := by
  subst hm; subst hx; subst hS; subst hN
  exact ⟨hb, S, N, k, K, i, rfl, ⟨hr, hi⟩, hn⟩
/-- A box of what was read. -/
theorem six_set {W : World} {b : Nat} {t : TypeId} {x0 x1 x2 x3 x4 x5 : Value} (h : W.heap[b]? = some (.cells #[x0, x1, x2, x3, x4, x5] t (0, 0))) (y0 y1 y2 y3 y4 y5 : Value) :
    ((((((W.setCell ⟨b, 0, none⟩ y0).setCell ⟨b, 1, none⟩ y1).setCell ⟨b, 2, none⟩ y2).setCell ⟨b, 3, none⟩ y3).setCell ⟨b, 4, none⟩ y4).setCell ⟨b, 5, none⟩ y5).heap[b]? = some (.cells #[y0, y1, y2, y3, y4, y5] t (0, 0)) ∧
    Kept (· = b) W ((((((W.setCell ⟨b, 0, none⟩ y0).setCell ⟨b, 1, none⟩ y1).setCell ⟨b, 2, none⟩ y2).setCell ⟨b, 3, none⟩ y3).setCell ⟨b, 4, none⟩ y4).setCell ⟨b, 5, none⟩ y5) := by
  have h0 := set_blk (j := 0) h y0
  have h1 := set_blk (j := 1) h0 y1
  have h2 := set_blk (j := 2) h1 y2
  have h3 := set_blk (j := 3) h2 y3
  have h4 := set_blk (j := 4) h3 y4
  have h5 := set_blk (j := 5) h4 y5
  refine ⟨by simpa using h5, ?_⟩
  have hk : ∀ (X : World) (j : Nat) (y : Value), Kept (· = b) X (X.setCell ⟨b, j, none⟩ y) := fun X j y => Kept.setCell (S := (· = b)) ⟨b, j, none⟩ y rfl
  exact (((((hk _ 0 y0).trans (hk _ 1 y1)).trans (hk _ 2 y2)).trans (hk _ 3 y3)).trans (hk _ 4 y4)).trans (hk _ 5 y5)

end Go.Proofs.YtcadnkanjlmfhaaGreatDoor.Ar
namespace Go.Proofs.YtcadnkanjlmfhaaGreatDoor.Ar
open Go.RowKit
open PathM WdM ArM
open Go.Proofs.YtcadnkanjlmfhaaGreatDoor.Wd
set_option linter.unusedVariables false

def allocs : World → List Obj → World
  | w, [] => w
  | w, o :: r => allocs (w.alloc o) r
theorem allocs_below : ∀ (os : List Obj) (w : World), Below w.heap.size w (allocs w os)
  | [], w => Below.refl _ _
  | o :: r, w => by
    have h1 : Below w.heap.size w (w.alloc o) := (Below.refl _ _).alloc (Nat.le_refl _) _
    exact h1.trans ((allocs_below r (w.alloc o)).mono h1.size)
theorem allocs_at : ∀ (os : List Obj) (w : World) (j : Nat) (o : Obj), os[j]? = some o → (allocs w os).heap[w.heap.size + j]? = some o
  | [], w, j, o, h => by simp at h
  | p :: r, w, 0, o, h => by
    simp at h
    subst h
    exact ((allocs_below r (w.alloc p)).block w.heap.size (by simp)).trans (heap_alloc_new w p)
  | p :: r, w, j + 1, o, h => by
    have := allocs_at r (w.alloc p) j o (by simpa using h)
    rw [show (w.alloc p).heap.size = w.heap.size + 1 by simp] at this
    rw [show w.heap.size + (j + 1) = w.heap.size + 1 + j by omega]
    exact this
/-- The document's signs between two. -/
structure LvIn (w : World) (b : Nat) : Prop where
  lt : b < w.heap.size
  rows : ∀ k, k < 10 → ∃ bk, w.cell? ⟨b, k, none⟩ = some (.slice (some ⟨bk, 0, none⟩) (lvS k).length (lvS k).length) ∧ StIn w bk (lvS k)
theorem LvIn.below {w w' : World} {b : Nat} (h : LvIn w b) (hb : Below w.heap.size w w') : LvIn w' b := by
  refine ⟨Nat.lt_of_lt_of_le h.lt hb.size, fun k hk => ?_⟩
  obtain ⟨bk, h1, h2⟩ := h.rows k hk
  exact ⟨bk, (World.cell?_of_block (hb.block b h.lt)).trans h1, h2.below hb⟩
def rowO (L : List Bs) : Obj := .cells (L.map fun x => Value.string (nm x)).toArray 9 (0, 0)
def lvObjs (n : Nat) : List Obj := [rowO (lvS 0), rowO (lvS 1), rowO (lvS 2), rowO (lvS 3), rowO (lvS 4), rowO (lvS 5), rowO (lvS 6), rowO (lvS 7), rowO (lvS 8), rowO (lvS 9),
  .cells #[.slice (some ⟨n, 0, none⟩) 1 1, .slice (some ⟨n + 1, 0, none⟩) 1 1, .slice (some ⟨n + 2, 0, none⟩) 1 1, .slice (some ⟨n + 3, 0, none⟩) 1 1, .slice (some ⟨n + 4, 0, none⟩) 1 1, .slice (some ⟨n + 5, 0, none⟩) 2 2, .slice (some ⟨n + 6, 0, none⟩) 4 4, .slice (some ⟨n + 7, 0, none⟩) 2 2, .slice (some ⟨n + 8, 0, none⟩) 2 2, .slice (some ⟨n + 9, 0, none⟩) 3 3] 32 (0, 0)]
theorem lv_ok (w : World) : LvIn (allocs w (lvObjs w.heap.size)) (w.heap.size + 10) := by
  have hat := fun j o h => allocs_at (lvObjs w.heap.size) w j o h
  have h10 := hat 10 _ rfl
  refine ⟨fin_at h10, fun k hk => ⟨w.heap.size + k, ?_, ?_⟩⟩
  · rw [cell_blk h10 k]
    rcases k with _ | _ | _ | _ | _ | _ | _ | _ | _ | _ | k <;> first | rfl | omega
  · have hr : (allocs w (lvObjs w.heap.size)).heap[w.heap.size + k]? = some (rowO (lvS k)) := hat k _ (by rcases k with _ | _ | _ | _ | _ | _ | _ | _ | _ | _ | k <;> first | rfl | omega)
    exact StIn.block hr (by rcases k with _ | _ | _ | _ | _ | _ | _ | _ | _ | _ | k <;> first | decide | omega)
set_option maxRecDepth 100000 in
set_option maxHeartbeats 1600000 in
theorem rlevels_any (w : World) : Calls Tryz.prog 62 #[] w fun e w' => ∃ b, e = .returned (.slice (some ⟨b, 0, none⟩) 10 10) ∧ LvIn w' b ∧ Below w.heap.size w w' := by
  go_enter Tryz.func62, Tryz.ntmps62
  go_wp2
  go_ret
  exact ⟨w.heap.size + 10, rfl, lv_ok w, allocs_below (lvObjs w.heap.size) w⟩

end Go.Proofs.YtcadnkanjlmfhaaGreatDoor.Ar
namespace Go.Proofs.YtcadnkanjlmfhaaGreatDoor.Ar
open Go.RowKit
open PathM WdM ArM
open Go.Proofs.YtcadnkanjlmfhaaGreatDoor.Wd
set_option linter.unusedVariables false

abbrev tR : TypeId := 61
theorem RdP.form {T : List Tok} {m : Rr} {w w' : World} {e : Ending} (h : RdP T m w e w') : ∃ S N k A n c i x, e = .returned (.agg #[.string S, .string N, .int .i64 k, .slice A n c, .int .i64 i, .int .i64 x]) := by
  obtain ⟨_, h⟩ := h
  split at h
  · obtain ⟨S, N, k, K, i, rfl, _, hn⟩ := h
    obtain ⟨A, m, c, rfl⟩ := hn.form
    exact ⟨_, _, _, _, _, _, _, _, rfl⟩
  · obtain ⟨S, N, k, A, n, c, i, rfl, _⟩ := h
    exact ⟨_, _, _, _, _, _, _, _, rfl⟩
theorem RdP.set {T : List Tok} {m : Rr} {w w1 W2 W3 : World} {e : Ending} {box : Nat} (hb : Below w.heap.size w w1) (hbx : w.heap.size ≤ box ∧ box < w1.heap.size) (h : RdP T m w1 e W2) (hk : Kept (· = box) W2 W3) : RdP T m w e W3 := by
  obtain ⟨h1, h2⟩ := h
  refine ⟨(hb.trans (h1.mono hb.size)).trans (hk.below (Nat.le_trans hb.size h1.size) (fun k hk => by omega)), ?_⟩
  cases m with
  | error er => exact h2
  | ok p =>
    obtain ⟨S, N, k, K, i, g1, g2, g3⟩ := h2
    exact ⟨S, N, k, K, i, g1, g2, NdR.keep (fun b hb2 hl => ⟨Nat.le_trans hb.size hb2, Nat.lt_of_lt_of_le hl hk.size, hk.block b hl (by intro e; omega)⟩) _ _ _ _ _ g3⟩
/-- The cells of a box of what was read. -/
theorem box6 {W : World} {b : Nat} {t : TypeId} {x0 x1 x2 x3 x4 x5 : Value} (h : W.heap[b]? = some (.cells #[x0, x1, x2, x3, x4, x5] t (0, 0))) :
    W.cell? ⟨b, 0, none⟩ = some x0 ∧ W.cell? ⟨b, 1, none⟩ = some x1 ∧ W.cell? ⟨b, 2, none⟩ = some x2 ∧ W.cell? ⟨b, 3, none⟩ = some x3 ∧ W.cell? ⟨b, 4, none⟩ = some x4 ∧ W.cell? ⟨b, 5, none⟩ = some x5 ∧
    W.frozen? ⟨b, 0, none⟩ = false ∧ W.frozen? ⟨b, 1, none⟩ = false ∧ W.frozen? ⟨b, 2, none⟩ = false ∧ W.frozen? ⟨b, 3, none⟩ = false ∧ W.frozen? ⟨b, 4, none⟩ = false ∧ W.frozen? ⟨b, 5, none⟩ = false ∧ b < W.heap.size :=
  ⟨cell_blk h 0, cell_blk h 1, cell_blk h 2, cell_blk h 3, cell_blk h 4, cell_blk h 5, froz_blk h 0, froz_blk h 1, froz_blk h 2, froz_blk h 3, froz_blk h 4, froz_blk h 5, fin_at h⟩
def zero6 : Array Value := #[.string ByteArray.empty, .string ByteArray.empty, .int .i64 0, .slice none 0 0, .int .i64 0, .int .i64 0]
set_option maxRecDepth 100000 in
set_option maxHeartbeats 1600000 in
theorem rlev_top (B b off c : Nat) (T : List Tok) (m : Nat) (nest : Int) (lead : List Tok → Rr) (hU : RO 63 B b off c T m #[.int .i64 nest] lead) :
    RO 46 B b off c T m #[.int .i64 10, .int .i64 nest] (pairsK lead 0) := by
  intro i x w hx hm hi hB h
  subst hx
  rw [pairsK]
  show Calls _ _ #[.slice (some ⟨b, off, none⟩) T.length c, .int .i64 (i : Int), .int .i64 10, .int .i64 nest] _ _
  have HU : Hid (∀ W, Below w.heap.size w W → Calls Tryz.prog 63 #[.slice (some ⟨b, off, none⟩) T.length c, .int .i64 (i : Int), .int .i64 nest] W (RdP T (lead (T.drop i)) W)) := Lib.hid (fun W hW => hU i _ W rfl hm hi (Nat.le_trans hB hW.size) (h.below hB hW))
  have HLV := Lib.hid rlevels_any
  have HB0 := Lib.hid (al w (.cells zero6 tR))
  have HX0 := Lib.hid (heap_alloc_new w (.cells zero6 tR))
  unfold zero6 at HB0 HX0
  generalize lead (T.drop i) = M at *
  clear h hU hm hi
  generalize T.length = n at *
  go_enter Tryz.func46, Tryz.ntmps46
  go_wp2_with (first | (go_at_call 62; refine (HLV.out _).mono ?_; rintro e W ⟨bl, rfl, hlv, hb⟩; have HX := Lib.hid ((hb.block w.heap.size (by simp)).trans HX0.out); have HB := Lib.hid (HB0.out.trans (hb.mono HB0.out.size)); have HZ := Lib.hid (Nat.lt_of_lt_of_le (show w.heap.size < _ by simp) hb.size); clear hlv hb) | (go_at_call 63; refine (HU.out _ HB.out).mono ?_; rintro e W2 hq; obtain ⟨S, N, k, A, nn, cc, ii, xx, rfl⟩ := hq.form; have hbx := (hq.1.block w.heap.size HZ.out).trans HX.out; obtain ⟨c0, c1, c2, c3, c4, c5, f0, f1, f2, f3, f4, f5, hz⟩ := box6 hbx; have HQ := Lib.hid hq; have HBX := Lib.hid hbx; clear hq hbx))
  refine bodyPost_ret (results_cell_row rfl _ _ _ tR _ (0, 0) _ rfl (six_set HBX.out _ _ _ _ _ _).1 Tryz.underlying61 rfl (by kernel_rfl)) rfl ?_
  exact HQ.out.set HB.out ⟨Nat.le_refl _, HZ.out⟩ (six_set HBX.out _ _ _ _ _ _).2

/-- What was read, with its place: as the loop holds it. -/
structure LvOk (T : List Tok) (m : Nat) (w W : World) (ab q : Nat) (sub : List Tok → Rr) (res : Rr) (t : Tm) (S N : Bs) (k : Int) (K : Value) (i n : Nat) : Prop where
  nd : NdR (fun b => w.heap.size < b ∧ b ≠ ab) W t S N k K
  le : i ≤ T.length
  few : T.length - i < m
  fuel : T.length - i < n
  loop : pairLoop sub (q + 1) n t (T.drop i) = res
def LvSt (T : List Tok) (m : Nat) (w W : World) (ab q : Nat) (sub : List Tok → Rr) (res : Rr) (g : Nat) : Prop :=
  Below w.heap.size w W ∧ W.heap[w.heap.size]? = some (.cells zero6 tR (0, 0)) ∧ w.heap.size < ab ∧
  ∃ S N k A n c ii ev, W.heap[ab]? = some (.cells #[.string S, .string N, .int .i64 k, .slice A n c, .int .i64 ii, .int .i64 ev] tR (0, 0)) ∧
    ((ev = 0 ∧ ∃ t S' N', ∃ i' n' : Nat, S = nm S' ∧ N = nm N' ∧ ii = (i' : Int) ∧ g = T.length - i' + 1 ∧ LvOk T m w W ab q sub res t S' N' k (.slice A n c) i' n') ∨ (ev ≠ 0 ∧ g = 0 ∧ res = .error ev))
theorem lv_init {T : List Tok} {m : Nat} {w W0 W1 W2 : World} {q i : Nat} {sub : List Tok → Rr} {res : Rr} {S N : ByteArray} {k : Int} {A : Option Addr} {n c : Nat} {ii ev : Int} {o : Obj}
    (hres : (match sub (T.drop i) with | .error e => .error e | .ok (t, r) => pairLoop sub (q + 1) (r.length + 1) t r : Rr) = res) (hs : Lss sub) (hm : T.length - i < m)
    (hB : Below w.heap.size w W0) (hX : W0.heap[w.heap.size]? = some (.cells zero6 tR (0, 0)))
    (hP : RdP T (sub (T.drop i)) W0 (.returned (.agg #[.string S, .string N, .int .i64 k, .slice A n c, .int .i64 ii, .int .i64 ev])) W1)
    (hb : W2.heap[W1.heap.size]? = some (.cells #[.string S, .string N, .int .i64 k, .slice A n c, .int .i64 ii, .int .i64 ev] tR (0, 0))) (hk : Kept (· = W1.heap.size) (W1.alloc o) W2) :
    ∃ g, LvSt T m w W2 W1.heap.size q sub res g := by
  obtain ⟨hP1, hP2⟩ := hP
  have h01 : w.heap.size < W0.heap.size := fin_at hX
  have hB12 : Below W1.heap.size W1 W2 := ((Below.refl _ _).alloc (Nat.le_refl _) o).trans (hk.below (by simp) (fun k hk => by omega))
  have hB02 : Below W0.heap.size W0 W2 := hP1.trans (hB12.mono hP1.size)
  have hd : Below w.heap.size w W2 := hB.trans (hB02.mono hB.size)
  have hz : W2.heap[w.heap.size]? = some (.cells zero6 tR (0, 0)) := (hB02.block _ h01).trans hX
  have hab : w.heap.size < W1.heap.size := Nat.lt_of_lt_of_le h01 hP1.size
  cases hM : sub (T.drop i) with
  | error er =>
    rw [hM] at hP2 hres
    obtain ⟨S2, N2, k2, A2, n2, c2, i2, he, hne⟩ := hP2
    unfold readV at he
    simp only [Ending.returned.injEq, Value.agg.injEq, Array.mk.injEq, List.cons.injEq, Value.int.injEq, Value.string.injEq, and_true, true_and] at he
    obtain ⟨_, _, _, _, _, rfl⟩ := he
    exact ⟨0, hd, hz, hab, _, _, _, _, _, _, _, _, hb, .inr ⟨hne, rfl, hres.symm⟩⟩
  | ok p =>
    obtain ⟨t, r⟩ := p
    rw [hM] at hP2 hres
    obtain ⟨S2, N2, k2, K2, i2, he, ⟨hr, hi2⟩, hn⟩ := hP2
    unfold readV at he
    simp only [Ending.returned.injEq, Value.agg.injEq, Array.mk.injEq, List.cons.injEq, Value.int.injEq, Value.string.injEq, and_true, true_and] at he
    obtain ⟨rfl, rfl, rfl, rfl, rfl, rfl⟩ := he
    have hl := hs _ _ _ hM
    subst hr
    rw [List.length_drop, List.length_drop] at hl
    refine ⟨_, hd, hz, hab, _, _, _, _, _, _, _, _, hb, .inl ⟨rfl, t, S2, N2, i2, (T.drop i2).length + 1, rfl, rfl, rfl, rfl, ?_, hi2, by omega, by rw [List.length_drop]; omega, hres⟩⟩
    exact NdR.keep (fun b h1 h2 => ⟨⟨by omega, by omega⟩, Nat.lt_of_lt_of_le h2 hB12.size, hB12.block b h2⟩) _ _ _ _ _ hn
theorem pair_go {sub : List Tok → Rr} {q n : Nat} {t : Tm} {T : List Tok} {i : Nat} {sg : Bs} {res : Rr} (hi : i < T.length) (hT : T[i] = .sg sg) (ht : tightOf sg = q + 1) (h : pairLoop sub (q + 1) (n + 1) t (T.drop i) = res) :
    (match sub (T.drop (i + 1)) with | .error e => .error e | .ok (u, r2) => pairLoop sub (q + 1) n (.pair sg t u) r2 : Rr) = res := by
  rw [drop_at T i hi, hT] at h
  unfold pairLoop at h
  dsimp only at h
  rw [if_pos ht] at h
  exact h
theorem lv_next {T : List Tok} {m : Nat} {w W W3 W4 W5 W6 : World} {ab q : Nat} {sub : List Tok → Rr} {res : Rr} {t : Tm} {S' N' : Bs} {k : Int} {A : Option Addr} {n c : Nat} {i n' : Nat} {sg : Bs} {kb : Nat}
    {S2 N2 : ByteArray} {k2 : Int} {A2 : Option Addr} {n2 c2 : Nat} {i2 : Int} {nt : TypeId}
    (hB : Below w.heap.size w W) (hX : W.heap[w.heap.size]? = some (.cells zero6 tR (0, 0))) (hab : w.heap.size < ab) (habW : ab < W.heap.size)
    (h : LvOk T m w W ab q sub res t S' N' k (.slice A n c) i n') (hs : Lss sub) (hi : i < T.length) (hT : T[i] = .sg sg) (ht : tightOf sg = q + 1)
    (h3 : Below W.heap.size W W3) (hP : RdP T (sub (T.drop (i + 1))) W3 (.returned (.agg #[.string S2, .string N2, .int .i64 k2, .slice A2 n2 c2, .int .i64 i2, .int .i64 0])) W4)
    (h5 : Below W4.heap.size W4 W5) (h6 : Kept (· = ab) W5 W6) (hkb : W5.heap.size ≤ kb)
    (hrow : W6.heap[kb]? = some (.cells #[.string (nm S'), .string (nm N'), .int .i64 k, .slice A n c, .string S2, .string N2, .int .i64 k2, .slice A2 n2 c2] nt (0, 0)))
    (hbox : W6.heap[ab]? = some (.cells #[.string (nm sg), .string (nm []), .int .i64 0, .slice (some ⟨kb, 0, none⟩) 2 2, .int .i64 i2, .int .i64 0] tR (0, 0))) :
    ∃ g', g' < T.length - i + 1 ∧ LvSt T m w W6 ab q sub res g' := by
  obtain ⟨hP1, hP2⟩ := hP
  have hB4 : Below W.heap.size W W4 := h3.trans (hP1.mono h3.size)
  have hB5 : Below W.heap.size W W5 := hB4.trans (h5.mono hB4.size)
  have hd : Below w.heap.size w W6 := (hB.trans (hB5.mono hB.size)).trans (h6.below (Nat.le_trans hB.size hB5.size) (fun k hk => by omega))
  have hz : W6.heap[w.heap.size]? = some (.cells zero6 tR (0, 0)) := h6.at ((hB5.block _ (fin_at hX)).trans hX) (by omega)
  obtain ⟨n'', rfl⟩ : ∃ n'', n' = n'' + 1 := ⟨n' - 1, by have := h.fuel; omega⟩
  have hres := pair_go hi hT ht h.loop
  cases hM : sub (T.drop (i + 1)) with
  | error er =>
    rw [hM] at hP2
    obtain ⟨_, _, _, _, _, _, _, he, hne⟩ := hP2
    unfold readV at he
    simp only [Ending.returned.injEq, Value.agg.injEq, Array.mk.injEq, List.cons.injEq, Value.int.injEq, Value.string.injEq, and_true, true_and] at he
    exact absurd he.2.2.2.2.2.symm hne
  | ok p =>
    obtain ⟨u, r⟩ := p
    rw [hM] at hP2 hres
    obtain ⟨S3, N3, k3, K3, i3, he, ⟨hr, hi3⟩, hn⟩ := hP2
    unfold readV at he
    simp only [Ending.returned.injEq, Value.agg.injEq, Array.mk.injEq, List.cons.injEq, Value.int.injEq, Value.string.injEq, and_true, true_and] at he
    obtain ⟨rfl, rfl, rfl, rfl, rfl⟩ := he
    have hl := hs _ _ _ hM
    subst hr
    rw [List.length_drop, List.length_drop] at hl
    have hf := h.fuel
    have hfe := h.few
    have hkb6 : kb < W6.heap.size := fin_at hrow
    have hs3 := h3.size
    have hs4 := hP1.size
    have hs5 := h5.size
    refine ⟨T.length - i3 + 1, by omega, hd, hz, hab, _, _, _, _, _, _, _, _, hbox, .inl ⟨rfl, .pair sg t u, sg, [], i3, n'', rfl, rfl, rfl, rfl, ?_, hi3, by omega, by omega, hres⟩⟩
    refine ⟨rfl, by omega, kb, rfl, ⟨⟨by omega, by omega⟩, hkb6⟩, ?_, ?_⟩
    · refine ⟨S', N', k, .slice A n c, cell_blk hrow 0, cell_blk hrow 1, cell_blk hrow 2, cell_blk hrow 3, ?_⟩
      exact NdR.keep (fun b h1 h2 => ⟨h1, Nat.lt_of_lt_of_le (Nat.lt_of_lt_of_le h2 hB5.size) h6.size, (h6.block b (Nat.lt_of_lt_of_le h2 hB5.size) h1.2).trans (hB5.block b h2)⟩) _ _ _ _ _ h.nd
    · refine ⟨S3, N3, k2, _, cell_blk hrow 4, cell_blk hrow 5, cell_blk hrow 6, cell_blk hrow 7, ?_⟩
      exact NdR.keep (fun b h1 h2 => ⟨⟨by omega, by omega⟩, Nat.lt_of_lt_of_le (Nat.lt_of_lt_of_le h2 h5.size) h6.size, (h6.block b (Nat.lt_of_lt_of_le h2 h5.size) (by omega)).trans (h5.block b h2)⟩) _ _ _ _ _ hn

theorem lv_stop {T : List Tok} {m : Nat} {w W : World} {ab q : Nat} {sub : List Tok → Rr} {res : Rr} {t : Tm} {S N : Bs} {k : Int} {K : Value} {i n : Nat} (h : LvOk T m w W ab q sub res t S N k K i n) (ht : tightOf (sgH (T.drop i)) ≠ q + 1) : res = .ok (t, T.drop i) := by
  have hf := h.fuel
  obtain ⟨n', rfl⟩ : ∃ n', n = n' + 1 := ⟨n - 1, by omega⟩
  have hl := h.loop
  rw [← hl]
  unfold pairLoop
  cases hd : T.drop i with
  | nil => rfl
  | cons u r => cases u with
    | num x k => rfl
    | nam x => rfl
    | sg s => rw [hd] at ht; exact if_neg ht
theorem lv_fall {T : List Tok} {W3 W4 : World} {q n i : Nat} {sub : List Tok → Rr} {res : Rr} {t : Tm} {sg : Bs} {S2 N2 : ByteArray} {k2 : Int} {A2 : Option Addr} {n2 c2 : Nat} {i2 x : Int}
    (hP : RdP T (sub (T.drop (i + 1))) W3 (.returned (.agg #[.string S2, .string N2, .int .i64 k2, .slice A2 n2 c2, .int .i64 i2, .int .i64 x])) W4) (hx : x ≠ 0) (hn : T.length - i < n) (hi : i < T.length) (hT : T[i] = .sg sg) (ht : tightOf sg = q + 1) (h : pairLoop sub (q + 1) n t (T.drop i) = res) : res = .error x := by
  obtain ⟨n', rfl⟩ : ∃ n', n = n' + 1 := ⟨n - 1, by omega⟩
  have hr := pair_go hi hT ht h
  obtain ⟨_, hP2⟩ := hP
  cases hM : sub (T.drop (i + 1)) with
  | error er =>
    rw [hM] at hP2 hr
    obtain ⟨_, _, _, _, _, _, _, he, hne⟩ := hP2
    unfold readV at he
    simp only [Ending.returned.injEq, Value.agg.injEq, Array.mk.injEq, List.cons.injEq, Value.int.injEq, Value.string.injEq, and_true, true_and] at he
    rw [he.2.2.2.2.2]
    exact hr.symm
  | ok p =>
    rw [hM] at hP2
    obtain ⟨_, _, _, _, _, he, _⟩ := hP2
    unfold readV at he
    simp only [Ending.returned.injEq, Value.agg.injEq, Array.mk.injEq, List.cons.injEq, Value.int.injEq, Value.string.injEq, and_true, true_and] at he
    exact absurd he.2.2.2.2.2 hx
theorem sg_of_tight {T : List Tok} {i q : Nat} (h : tightOf (sgH (T.drop i)) = q + 1) : ∃ (hi : i < T.length) (sg : Bs), T[i] = .sg sg ∧ tightOf sg = q + 1 ∧ sgH (T.drop i) = sg := by
  have h0 : tightOf [] = 0 := rfl
  by_cases hi : i < T.length
  · rw [drop_at T i hi] at h ⊢
    cases hT : T[i] with
    | sg s => rw [hT] at h; exact ⟨hi, s, hT, h, rfl⟩
    | num x k => rw [hT] at h; exact absurd (h0.symm.trans h) (by omega)
    | nam x => rw [hT] at h; exact absurd (h0.symm.trans h) (by omega)
  · rw [drop_no T i hi] at h
    exact absurd (h0.symm.trans h) (by omega)
theorem kept_box {w W W' : World} {b : Nat} (hB : Below w.heap.size w W) (hb : w.heap.size ≤ b) (hk : Kept (· = b) W W') : Below w.heap.size w W' := hB.trans (hk.below hB.size (fun k e => by omega))

theorem lv_done {T : List Tok} {m : Nat} {w W W2 W3 : World} {ab q : Nat} {sub : List Tok → Rr} {res : Rr} {t : Tm} {S N : Bs} {k : Int} {A : Option Addr} {n c i f : Nat} (hB : Below w.heap.size w W) (h : LvOk T m w W ab q sub res t S N k (.slice A n c) i f) (ht : tightOf (sgH (T.drop i)) ≠ q + 1) (h2 : Below W.heap.size W W2) (hk : Kept (· = w.heap.size) W2 W3) :
    RdP T res w (.returned (.agg #[.string (nm S), .string (nm N), .int .i64 k, .slice A n c, .int .i64 (i : Int), .int .i64 0])) W3 := by
  have hd : Below w.heap.size w W3 := kept_box (hB.trans (h2.mono hB.size)) (Nat.le_refl _) hk
  have hn : NdR (fun b => w.heap.size ≤ b) W3 t S N k (.slice A n c) := NdR.keep (fun b hb hl => ⟨Nat.le_of_lt hb.1, Nat.lt_of_lt_of_le (Nat.lt_of_lt_of_le hl h2.size) hk.size, (hk.block b (Nat.lt_of_lt_of_le hl h2.size) (by intro e; have := hb.1; omega)).trans (h2.block b hl)⟩) t S N k _ h.nd
  rw [lv_stop h ht]
  exact ⟨hd, S, N, k, .slice A n c, i, rfl, ⟨rfl, h.le⟩, hn⟩
theorem gen_at {G : World → Prop} {W : World} (R : World → Prop) (hR : R W) (h : ∀ W', R W' → G W') : G W := h W hR

/-- A box is written, and another is made. -/
theorem six_then {W : World} {b : Nat} {t : TypeId} {x0 x1 x2 x3 x4 x5 : Value} (h : W.heap[b]? = some (.cells #[x0, x1, x2, x3, x4, x5] t (0, 0))) (y0 y1 y2 y3 y4 y5 : Value) (o : Obj) :
    (((((((W.setCell ⟨b, 0, none⟩ y0).setCell ⟨b, 1, none⟩ y1).setCell ⟨b, 2, none⟩ y2).setCell ⟨b, 3, none⟩ y3).setCell ⟨b, 4, none⟩ y4).setCell ⟨b, 5, none⟩ y5).alloc o).heap[b]? = some (.cells #[y0, y1, y2, y3, y4, y5] t (0, 0)) ∧
    Kept (· = b) W (((((((W.setCell ⟨b, 0, none⟩ y0).setCell ⟨b, 1, none⟩ y1).setCell ⟨b, 2, none⟩ y2).setCell ⟨b, 3, none⟩ y3).setCell ⟨b, 4, none⟩ y4).setCell ⟨b, 5, none⟩ y5).alloc o) := by
  obtain ⟨h1, h2⟩ := six_set h y0 y1 y2 y3 y4 y5
  exact ⟨(heap_alloc_old _ _ (fin_at h1)).trans h1, h2.trans (kept_of_below (al _ o))⟩

end Go.Proofs.YtcadnkanjlmfhaaGreatDoor.Ar
namespace Go.Proofs.YtcadnkanjlmfhaaGreatDoor.Ar
open Go.RowKit
open PathM WdM ArM
open Go.Proofs.YtcadnkanjlmfhaaGreatDoor.Wd
set_option linter.unusedVariables false

/-- Only the result's box. -/
theorem box_new (w : World) : (w.alloc (.cells zero6 tR)).heap[w.heap.size]? = some (.cells zero6 tR (0, 0)) := heap_alloc_new w _
theorem RdP.badv {T : List Tok} {m : Rr} {w W W' : World} {er : Int} {S N : ByteArray} {k i : Int} {A : Option Addr} {n c : Nat} (hm : m = .error er) (h0 : er ≠ 0) (hB : Below w.heap.size w W) (hk : Kept (· = w.heap.size) W W') : RdP T m w (.returned (.agg #[.string S, .string N, .int .i64 k, .slice A n c, .int .i64 i, .int .i64 er])) W' :=
  RdP.bad hm h0 (kept_box hB (Nat.le_refl _) hk)
def leadS : List Bs := [[43], [45], [33], [126]]
theorem lead_mem (s : Bs) : decide (s ∈ leadS) = leadsOf s := by
  unfold leadS leadsOf
  rw [Bool.eq_iff_iff]
  simp [or_assoc]
theorem ro_call {F : Nat} {B b off c m : Nat} {T : List Tok} {args : Array Value} {f : List Tok → Rr} {w : World} (h : RTk B w b off c T) (hB : B ≤ w.heap.size) (hR : RO F B b off c T m args f) (i : Nat) (hm : T.length - i < m) (hi : i ≤ T.length) (x : Int) (hx : x = (i : Int)) :
    ∀ W, Below w.heap.size w W → Calls Tryz.prog F (#[.slice (some ⟨b, off, none⟩) T.length c, .int .i64 x] ++ args) W (RdP T (f (T.drop i)) W) :=
  fun W hW => hR i x W hx hm hi (Nat.le_trans hB hW.size) (h.below hB hW)

theorem str_neq (a b : Bs) : ((nm a).toList != b) = !decide (a = b) := by rw [bne, str_is]
theorem bad_new {T : List Tok} {m : Rr} {w : World} {er : Int} (hm : m = .error er) (h0 : er ≠ 0) : ∀ o, RdP T m w (.returned (.agg #[.string ByteArray.empty, .string ByteArray.empty, .int .i64 0, .slice none 0 0, .int .i64 0, .int .i64 er])) (w.alloc o) :=
  fun o => RdP.bad hm h0 (al w o)
set_option maxRecDepth 100000 in
set_option maxHeartbeats 1600000 in
/-- Too deep. -/
theorem un_deep (T : List Tok) (b off n c : Nat) (i : Int) (w : World) (m : Rr) (hm : m = .error 63) :
    Calls Tryz.prog 63 #[.slice (some ⟨b, off, none⟩) n c, .int .i64 i, .int .i64 65] w (RdP T m w) := by
  have HE := Lib.hid (bad_new (T := T) (w := w) hm (by decide))
  clear hm
  generalize RdP T m w = Q at *
  go_enter Tryz.func63, Tryz.ntmps63
  go_wp2_with fail
  refine bodyPost_ret (results_cell_row rfl _ _ _ tR _ (0, 0) _ rfl (heap_alloc_new _ _) Tryz.underlying61 rfl (by kernel_rfl)) rfl ?_
  exact HE.out _
set_option maxRecDepth 100000 in
set_option maxHeartbeats 1600000 in
/-- Nothing there. -/
theorem un_end (T : List Tok) (b off n c i : Nat) (dp : Int) (hd : dp ≤ 64) (hi : ¬ i < n) (w : World) (m : Rr) (hm : m = .error 61) :
    Calls Tryz.prog 63 #[.slice (some ⟨b, off, none⟩) n c, .int .i64 (i : Int), .int .i64 dp] w (RdP T m w) := by
  have HE := Lib.hid (bad_new (T := T) (w := w) hm (by decide))
  have hi2 : (n : Int) ≤ (i : Int) := by omega
  clear hm hi
  generalize RdP T m w = Q at *
  go_enter Tryz.func63, Tryz.ntmps63
  go_wp2_with fail
  refine bodyPost_ret (results_cell_row rfl _ _ _ tR _ (0, 0) _ rfl (heap_alloc_new _ _) Tryz.underlying61 rfl (by kernel_rfl)) rfl ?_
  exact HE.out _
set_option maxRecDepth 100000 in
set_option maxHeartbeats 1600000 in
/-- A number or a name. -/
theorem un_plain (T : List Tok) (B b off c i : Nat) (dp : Int) (hd : dp ≤ 64) (hi : i < T.length) (w : World) (h : RTk B w b off c T) (hB : B ≤ w.heap.size) (hr : rsg T[i] = []) (m : Rr) (t : Tm) (hm : m = .ok (t, T.drop (i + 1))) (ht : ∀ D W, NdR D W t [] (rnm T[i]) (nOf T[i]) (.slice none 0 0)) :
    Calls Tryz.prog 63 #[.slice (some ⟨b, off, none⟩) T.length c, .int .i64 (i : Int), .int .i64 dp] w (RdP T m w) := by
  have HE : Hid (∀ o, RdP T m w (.returned (.agg #[.string (nm []), .string (nm (rnm T[i])), .int .i64 (nOf T[i]), .slice none 0 0, .int .i64 ((i : Int) + 1), .int .i64 0])) (w.alloc o)) := Lib.hid (fun o => RdP.yes (i := i + 1) hm (al w o) rfl (by omega) (ht _ _) (by push_cast; rfl) rfl rfl)
  obtain ⟨a0, a1, a2⟩ := h.cells i hi
  rw [hr] at a0
  have hbw : b < w.heap.size := Nat.lt_of_lt_of_le h.lt hB
  have hlc := h.cap
  have hl8 := h.len
  have hi2 : (i : Int) < (T.length : Int) := by omega
  have e1 := emp_yes (b := nm []) (by rw [nm_data])
  generalize RdP T m w = Q at *
  generalize rnm T[i] = N at *
  generalize nOf T[i] = k at *
  clear hm ht h hr hi
  generalize T.length = n at *
  generalize nm N = N at *
  generalize nm [] = E at *
  go_enter Tryz.func63, Tryz.ntmps63
  go_wp2_with fail
  refine bodyPost_ret (results_cell_row rfl _ _ _ tR _ (0, 0) _ rfl (heap_alloc_new _ _) Tryz.underlying61 rfl (by kernel_rfl)) rfl ?_
  exact HE.out _
theorem two_new (w : World) (a b : Obj) : ((w.alloc a).alloc b).heap[w.heap.size + 1]? = some b := by
  have := heap_alloc_new (w.alloc a) b
  simpa using this
theorem two_old (w : World) (a b : Obj) : ((w.alloc a).alloc b).heap[w.heap.size]? = some a := by
  rw [heap_alloc_old (w.alloc a) b (by simp)]
  exact heap_alloc_new w a
theorem two_below (w : World) (a b : Obj) : Below w.heap.size w ((w.alloc a).alloc b) := ((Below.refl _ _).alloc (Nat.le_refl _) _).alloc (by simp) _
/-- The row of the signs that lead. -/
theorem lead_row (w : World) (o : Obj) : StIn ((w.alloc o).alloc (rowO leadS)) (w.heap.size + 1) leadS := StIn.block (two_new w o _) (by decide)
theorem lead_one (s : Bs) (r : Bool) (hr : leadsOf s = r) (w : World) (o : Obj) : Calls Tryz.prog 45 #[.string (nm s), .slice (some ⟨w.heap.size + 1, 0, none⟩) 4 4] ((w.alloc o).alloc (.cells #[.string ⟨#[43]⟩, .string ⟨#[45]⟩, .string ⟨#[33]⟩, .string ⟨#[126]⟩] 9)) fun e w' => e = .returned (.bool r) ∧ w' = (w.alloc o).alloc (.cells #[.string ⟨#[43]⟩, .string ⟨#[45]⟩, .string ⟨#[33]⟩, .string ⟨#[126]⟩] 9) := by
  have := rone_any leadS s _ _ (lead_row w o)
  rw [lead_mem, hr] at this
  exact this
set_option maxRecDepth 100000 in
set_option maxHeartbeats 1600000 in
/-- A sign that leads nothing, and is no parenthesis. -/
theorem un_bad (T : List Tok) (B b off c i : Nat) (dp : Int) (hd : dp ≤ 64) (hi : i < T.length) (w : World) (h : RTk B w b off c T) (hB : B ≤ w.heap.size) (s : Bs) (hs : rsg T[i] = s) (h0 : s ≠ []) (h1 : leadsOf s = false) (h2 : s ≠ [40]) (m : Rr) (hm : m = .error 61) :
    Calls Tryz.prog 63 #[.slice (some ⟨b, off, none⟩) T.length c, .int .i64 (i : Int), .int .i64 dp] w (RdP T m w) := by
  have HE : Hid (∀ o o2, RdP T m w (.returned (.agg #[.string ByteArray.empty, .string ByteArray.empty, .int .i64 0, .slice none 0 0, .int .i64 0, .int .i64 61])) ((w.alloc o).alloc o2)) := Lib.hid (fun o o2 => RdP.bad hm (by decide) (two_below w o o2))
  obtain ⟨a0, -, -⟩ := h.cells i hi
  rw [hs] at a0
  have hbw : b < w.heap.size := Nat.lt_of_lt_of_le h.lt hB
  have hlc := h.cap
  have hl8 := h.len
  have hi2 : (i : Int) < (T.length : Int) := by omega
  have HO := Lib.hid (lead_one s false h1 w (.cells zero6 tR))
  unfold zero6 at HO
  obtain ⟨e1, e2⟩ := emp_no (b := nm s) (by rw [nm_data]; exact h0)
  have q0 : ((nm s).toList == [40]) = false := by rw [str_is, decide_eq_false h2]
  have q1 : ((nm s).toList != [40]) = true := by rw [str_neq, decide_eq_false h2]; rfl
  have q2 : ¬ (nm s).toList = [40] := by rw [listD, nm_data]; exact h2
  generalize RdP T m w = Q at *
  clear hm h h0 h1 h2 hs hi
  generalize T.length = n at *
  generalize nm s = S at *
  go_enter Tryz.func63, Tryz.ntmps63
  go_wp2_with (go_at_call 45; refine HO.out.mono ?_; rintro e W2 ⟨rfl, rfl⟩)
  refine bodyPost_ret (results_cell_row rfl _ _ _ tR _ (0, 0) _ rfl (two_old _ _ _) Tryz.underlying61 rfl (by kernel_rfl)) rfl ?_
  exact HE.out _ _

end Go.Proofs.YtcadnkanjlmfhaaGreatDoor.Ar
