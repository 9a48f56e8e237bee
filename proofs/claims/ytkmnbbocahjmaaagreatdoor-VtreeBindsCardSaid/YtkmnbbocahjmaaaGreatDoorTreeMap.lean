/- DERIVED. A map from numbers to numbers that the call makes: as a function. -/
import Derived.Test.YtkmnbbocahjmaaaGreatDoorTreeChk3
import Derived.Test.YtkmnbbocahjmaaaGreatDoorTreeLinks
import Derived.Maps.OwnSet
namespace Go.Proofs.YtkmnbbocahjmaaaGreatDoor
open Go.RowKit Go.Sort
open PathM TreeM
set_option linter.unusedVariables false

theorem keyed : Maps.Keyed Tryz.prog 3 := Maps.int_keyed Tryz.underlying3
theorem zero3 (w : World) : (zeroValue 3).run Tryz.prog w = .ok (.int .i64 0) w := by kernel_rfl
theorem wf64 {a : Int} (h : -9223372036854775808 ≤ a ∧ a ≤ 9223372036854775807) : (Lit.int .i64 a).wf = true := WalkArith.wf_i64 (by omega)

def litI : DataW Unit → Int
  | .lit (.int _ a) => a
  | _ => 0
theorem lit_inj {a b : Int} (h : (DataW.lit (.int .i64 a) : DataW Unit) = .lit (.int .i64 b)) : a = b := congrArg litI h

/-- Block mb is a map of at most n entries that holds what f says. -/
def MapI (W : World) (mb n : Nat) (f : Int → Option Int) : Prop :=
  ∃ D : DataW Unit, W.ownsMap Tryz.prog 3 (plainElem Tryz.prog 3) mb n D ∧
    ∀ k : Int, (f k = none → Maps.has D (.int .i64 k) = false) ∧ (∀ x, f k = some x → Maps.has D (.int .i64 k) = true ∧ ∀ z, D.atKey (.int .i64 k) z = .lit (.int .i64 x))
theorem MapI.made (w : World) : MapI (w.alloc (.map #[] 0)) w.heap.size 0 (fun _ => none) :=
  ⟨_, World.ownsMap_made w _ _ _, fun k => ⟨fun _ => rfl, fun x h => by cases h⟩⟩
theorem MapI.kept {W W' : World} {mb n : Nat} {f : Int → Option Int} {row : Option Nat} (h : MapI W mb n f) (hg : W.grownBy W' row) (hne : some mb ≠ row) : MapI W' mb n f := by
  obtain ⟨D, h1, h2⟩ := h; exact ⟨D, h1.kept hg hne, h2⟩
theorem MapI.lt {W : World} {mb n : Nat} {f : Int → Option Int} (h : MapI W mb n f) : mb < W.heap.size := by obtain ⟨D, h1, _⟩ := h; exact h1.lt
theorem MapI.alloc {W : World} {mb n : Nat} {f : Int → Option Int} (h : MapI W mb n f) (o : Obj) : MapI (W.alloc o) mb n f := h.kept (World.grownBy_alloc W o none) (by simp)
theorem MapI.drewN {W : World} {mb n : Nat} {f : Int → Option Int} (h : MapI W mb n f) (q : Nat) : MapI (W.drewN q) mb n f := h
theorem MapI.below {W W' : World} {mb n B : Nat} {f : Int → Option Int} (h : MapI W mb n f) (hb : Below B W W') (hB : mb < B) : MapI W' mb n f := by
  obtain ⟨D, ⟨es, clock, h1, h2, h3, h4⟩, h5⟩ := h
  exact ⟨D, ⟨es, clock, (hb.block mb hB).trans h1, h2, h3, h4⟩, h5⟩
theorem MapI.mono {W : World} {mb n n' : Nat} {f : Int → Option Int} (h : MapI W mb n f) (hn : n ≤ n') : MapI W mb n' f := by
  obtain ⟨D, h1, h2⟩ := h; exact ⟨D, h1.mono hn, h2⟩
theorem MapI.congr {W : World} {mb n : Nat} {f g : Int → Option Int} (h : MapI W mb n f) (hfg : ∀ k, f k = g k) : MapI W mb n g := by
  have : f = g := funext hfg
  rw [← this]; exact h
theorem MapI.setCell {W : World} {mb n : Nat} {f : Int → Option Int} (h : MapI W mb n f) {a : Addr} (ha : mb ≠ a.block) (u : Value) : MapI (W.setCell a u) mb n f := by
  obtain ⟨D, h1, h2⟩ := h; exact ⟨D, h1.setCell ha u, h2⟩

theorem MapI.look {W : World} {mb n : Nat} {f : Int → Option Int} (h : MapI W mb n f) (k : Int) (hk : -9223372036854775808 ≤ k ∧ k ≤ 9223372036854775807) :
    (Instr.lookup 195 (.map (some mb)) (.int .i64 k) false).run Tryz.prog W = .ok (.int .i64 ((f k).getD 0)) W := by
  obtain ⟨D, h1, h2⟩ := h
  obtain ⟨c, hr, ha, _⟩ := h1.lookup_int keyed Tryz.underlying195 Tryz.underlying3 (zero3 W) (Maps.keyOf_int_mk Tryz.underlying3 (wf64 hk))
  rw [hr]
  obtain ⟨g1, g2⟩ := h2 k
  cases e : f k with
  | none =>
    rw [Maps.atKey_of_not_has (g1 e)] at ha
    have ha := lit_inj ha
    subst ha; rfl
  | some x =>
    rw [(g2 x e).2] at ha
    have ha := lit_inj ha
    subst ha; rfl
theorem MapI.look_ok {W : World} {mb n : Nat} {f : Int → Option Int} (h : MapI W mb n f) (k : Int) (hk : -9223372036854775808 ≤ k ∧ k ≤ 9223372036854775807) :
    (Instr.lookup 195 (.map (some mb)) (.int .i64 k) true).run Tryz.prog W = .ok (.tuple #[.int .i64 ((f k).getD 0), .bool (f k).isSome]) W := by
  obtain ⟨D, h1, h2⟩ := h
  obtain ⟨v, ps, hr, hv⟩ := h1.look_ok keyed Tryz.underlying195 (zero3 W) (plainElem_int Tryz.underlying3 (wf64 (by omega))) (Maps.keyOf_int_mk Tryz.underlying3 (wf64 hk))
  rw [hr]
  obtain ⟨c, rfl, hc, _⟩ := plainElem_int_inv Tryz.underlying3 hv
  have ha := congrArg Prod.fst hc
  simp only at ha
  obtain ⟨g1, g2⟩ := h2 k
  cases e : f k with
  | none =>
    rw [Maps.atKey_of_not_has (g1 e)] at ha
    have ha := lit_inj ha
    subst ha; rw [g1 e]; rfl
  | some x =>
    rw [(g2 x e).2] at ha
    have ha := lit_inj ha
    subst ha; rw [(g2 x e).1]; rfl

/-- 'm[k] = v' at the operation. -/
theorem wpList_put (w : World) {ops : Array Oper} {rest : List Oper} {o : Oper} {a : Act} {Q : Exit → Act → World → Prop} (hg : o.guard = none) (m x v : Operand) (hop : o.op = Op.mapUpdate 195 m x v)
    (mb n : Nat) (f : Int → Option Int) (hm : a.eval m = .map (some mb)) (h : MapI w mb n f) (hn : n < maxLen) (k y : Int) (hx : a.eval x = .int .i64 k) (hv : a.eval v = .int .i64 y)
    (hk : -9223372036854775808 ≤ k ∧ k ≤ 9223372036854775807) (hy : -9223372036854775808 ≤ y ∧ y ≤ 9223372036854775807)
    (hK : ∀ w', MapI w' mb (n + 1) (fun j => if j = k then some y else f j) → w.grownBy w' (some mb) → wpList Tryz.prog ops Q rest (a.put o.dst undef) w') : wpList Tryz.prog ops Q (o :: rest) a w := by
  obtain ⟨D, h1, h2⟩ := h
  refine wpList_mapUpdate_own w hg m x v _ hop 3 3 keyed Tryz.underlying195 _ mb n D hm h1 hn _ _ (.int .i64 k) hx hv (Maps.keyOf_int_mk Tryz.underlying3 (wf64 hk)) _ [] (plainElem_int Tryz.underlying3 (wf64 hy)) (fun w' r1 r2 => hK w' ⟨_, r1, fun j => ?_⟩ r2)
  have hkey : WideAt.IsKeyLit (.int .i64 k) := by trivial
  by_cases e : j = k
  · subst e
    refine ⟨fun h => by simp at h, fun x hx => ?_⟩
    simp at hx
    subst hx
    exact ⟨Maps.has_put_same h1.isMap hkey _, fun z => Maps.atKey_put_same h1.isMap hkey _ z⟩
  · have hne : (Lit.int .i64 j) ≠ .int .i64 k := fun h => e (by injection h)
    simp only [if_neg e]
    obtain ⟨g1, g2⟩ := h2 j
    exact ⟨fun h => by rw [Maps.has_put_other hne]; exact g1 h, fun x hx => ⟨by rw [Maps.has_put_other hne]; exact (g2 x hx).1, fun z => by rw [Maps.atKey_put_other hne]; exact (g2 x hx).2 z⟩⟩

theorem find_yes (nv : Value) (t : Tr) (id : Int) (B : Nat) (w : World) (hN : NodesIn w B nv t.nodes) (hB : B ≤ w.heap.size) (hr : Rising t.nodes) (hp : place t.nodes id < t.nodes.length) :
    Calls Tryz.prog 148 #[trV nv t, .int .i64 id] w fun e w' => e = .returned (.tuple #[.int .i64 (place t.nodes id), .bool true]) ∧ Below w.heap.size w w' := by
  refine (find_any nv t id B w hN hB hr (by omega)).mono ?_
  rintro e w' ⟨rfl, h⟩
  have h1 := low_eq hr hp
  have h2 := (low_place hr id).2 hp
  exact ⟨ret_ib (by rw [h1]) (by simpa using h2), h⟩
theorem find_no (nv : Value) (t : Tr) (id : Int) (B : Nat) (w : World) (hN : NodesIn w B nv t.nodes) (hB : B ≤ w.heap.size) (hr : Rising t.nodes) (hne : 0 < t.nodes.length) (hp : ¬ place t.nodes id < t.nodes.length) :
    Calls Tryz.prog 148 #[trV nv t, .int .i64 id] w fun e w' => e = .returned (.tuple #[.int .i64 (low t.nodes id), .bool false]) ∧ Below w.heap.size w w' := by
  refine (find_any nv t id B w hN hB hr hne).mono ?_
  rintro e w' ⟨rfl, h⟩
  have h2 : ¬ (low t.nodes id < t.nodes.length ∧ (ndAt t.nodes (low t.nodes id)).id = id) := fun h => hp ((low_place hr id).1 h)
  exact ⟨ret_ib rfl (by simpa using h2), h⟩

end Go.Proofs.YtkmnbbocahjmaaaGreatDoor
