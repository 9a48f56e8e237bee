/- DERIVED. Stage 5, several texts in one: TreeMem TreeFind TreeChk1 TreeChk2 TreeChk3 TreeRef1 TreeLinks TreeMap TreeSame TreeLed. -/
import Derived.Test.YtpicgkoclbpjpaaGreatDoorVnG1
import Derived.Sort.Walk0
import Derived.Shelf.SlSorted.Search
import Derived.Lib.QuietBelow
import Derived.Maps.OwnSet
import Derived.Laws.StructEq
import Derived.RangeFuncBox
import Derived.RangeFuncNested
section
namespace Go.Proofs.YtpicgkoclbpjpaaGreatDoor
open Go.RowKit
open PathM TreeM
set_option linter.unusedVariables false

/-- A slice of entries. -/
def EntsIn (w : World) (B : Nat) (v : Value) (es : List Ent) : Prop :=
  ∃ A c, v = .slice A es.length c ∧ es.length ≤ c ∧ es.length * 24 ≤ 140737488351232 ∧ (∀ x ∈ es, x.key.length ≤ 140737488351232 ∧ -9223372036854775808 ≤ x.to ∧ x.to ≤ 9223372036854775807) ∧
    (es ≠ [] → ∃ b off, A = some ⟨b, off, none⟩ ∧ b < B ∧ ∀ k, k < es.length →
      w.cell? ⟨b, off + k * 2, none⟩ = some (.string (nm (entAt es k).key)) ∧ w.cell? ⟨b, off + k * 2 + 1, none⟩ = some (.int .i64 (entAt es k).to))
/-- A node at a place. -/
def NodeIn (w : World) (B b o : Nat) (n : Nd) : Prop :=
  w.cell? ⟨b, o, none⟩ = some (.int .i64 n.id) ∧ w.cell? ⟨b, o + 1, none⟩ = some (.int .i64 n.kind) ∧ w.cell? ⟨b, o + 2, none⟩ = some (.int .i64 n.mode) ∧
    w.cell? ⟨b, o + 3, none⟩ = some (.int .i64 n.owner) ∧ w.cell? ⟨b, o + 4, none⟩ = some (.int .i64 n.time) ∧ w.cell? ⟨b, o + 5, none⟩ = some (.string (nm n.data)) ∧
    n.data.length ≤ 140737488351232 ∧ ∃ ev, w.cell? ⟨b, o + 6, none⟩ = some ev ∧ EntsIn w B ev n.es
/-- A slice of nodes. -/
def NodesIn (w : World) (B : Nat) (v : Value) (l : List Nd) : Prop :=
  ∃ A c, v = .slice A l.length c ∧ l.length ≤ c ∧ l.length ≤ 140737488351232 ∧
    (l ≠ [] → ∃ b off, A = some ⟨b, off, none⟩ ∧ b < B ∧ ∀ i, i < l.length → NodeIn w B b (off + i * 7) (ndAt l i))

section
variable {w w' : World} {B B' : Nat} {v : Value}
theorem EntsIn.keep {es : List Ent} (h : EntsIn w B v es) (hk : ∀ p : Addr, p.block < B → w'.cell? p = w.cell? p) : EntsIn w' B v es := by
  obtain ⟨A, c, h1, h2, h3, h4, h5⟩ := h
  refine ⟨A, c, h1, h2, h3, h4, fun hne => ?_⟩
  obtain ⟨b, off, h6, h7, h8⟩ := h5 hne
  exact ⟨b, off, h6, h7, fun k hk2 => ⟨(hk _ h7).trans (h8 k hk2).1, (hk _ h7).trans (h8 k hk2).2⟩⟩
theorem EntsIn.more {es : List Ent} (h : EntsIn w B v es) (hB : B ≤ B') : EntsIn w B' v es := by
  obtain ⟨A, c, h1, h2, h3, h4, h5⟩ := h
  refine ⟨A, c, h1, h2, h3, h4, fun hne => ?_⟩
  obtain ⟨b, off, h6, h7, h8⟩ := h5 hne
  exact ⟨b, off, h6, by omega, h8⟩
theorem NodeIn.keep {b o : Nat} {n : Nd} (h : NodeIn w B b o n) (hb : b < B) (hk : ∀ p : Addr, p.block < B → w'.cell? p = w.cell? p) : NodeIn w' B b o n := by
  obtain ⟨h0, h1, h2, h3, h4, h5, h6, ev, h7, h8⟩ := h
  exact ⟨(hk _ hb).trans h0, (hk _ hb).trans h1, (hk _ hb).trans h2, (hk _ hb).trans h3, (hk _ hb).trans h4, (hk _ hb).trans h5, h6, ev, (hk _ hb).trans h7, h8.keep hk⟩
theorem NodeIn.more {b o : Nat} {n : Nd} (h : NodeIn w B b o n) (hB : B ≤ B') : NodeIn w B' b o n := by
  obtain ⟨h0, h1, h2, h3, h4, h5, h6, ev, h7, h8⟩ := h
  exact ⟨h0, h1, h2, h3, h4, h5, h6, ev, h7, h8.more hB⟩
theorem NodesIn.keep {l : List Nd} (h : NodesIn w B v l) (hk : ∀ p : Addr, p.block < B → w'.cell? p = w.cell? p) : NodesIn w' B v l := by
  obtain ⟨A, c, h1, h2, h3, h4⟩ := h
  refine ⟨A, c, h1, h2, h3, fun hne => ?_⟩
  obtain ⟨b, off, h6, h7, h8⟩ := h4 hne
  exact ⟨b, off, h6, h7, fun i hi => (h8 i hi).keep h7 hk⟩
theorem NodesIn.more {l : List Nd} (h : NodesIn w B v l) (hB : B ≤ B') : NodesIn w B' v l := by
  obtain ⟨A, c, h1, h2, h3, h4⟩ := h
  refine ⟨A, c, h1, h2, h3, fun hne => ?_⟩
  obtain ⟨b, off, h6, h7, h8⟩ := h4 hne
  exact ⟨b, off, h6, by omega, fun i hi => (h8 i hi).more hB⟩
theorem NodesIn.below {l : List Nd} (h : NodesIn w B v l) (hb : Below B w w') : NodesIn w' B v l := h.keep fun _ hp => hb.cell hp
theorem EntsIn.below {es : List Ent} (h : EntsIn w B v es) (hb : Below B w w') : EntsIn w' B v es := h.keep fun _ hp => hb.cell hp
theorem NodeIn.below {b o : Nat} {n : Nd} (h : NodeIn w B b o n) (hlt : b < B) (hb : Below B w w') : NodeIn w' B b o n := h.keep hlt fun _ hp => hb.cell hp
theorem EntsIn.cases {es : List Ent} (h : EntsIn w B v es) : es.length * 24 ≤ 140737488351232 ∧ (∀ x ∈ es, x.key.length ≤ 140737488351232 ∧ -9223372036854775808 ≤ x.to ∧ x.to ≤ 9223372036854775807) ∧
    ((∃ A c, v = .slice A 0 c ∧ es = []) ∨ (∃ b off c, v = .slice (some ⟨b, off, none⟩) es.length c ∧ es.length ≤ c ∧ b < B ∧ 0 < es.length ∧ ∀ k, k < es.length →
      w.cell? ⟨b, off + k * 2, none⟩ = some (.string (nm (entAt es k).key)) ∧ w.cell? ⟨b, off + k * 2 + 1, none⟩ = some (.int .i64 (entAt es k).to))) := by
  obtain ⟨A, c, h1, h2, h3, h4, h5⟩ := h
  refine ⟨h3, h4, ?_⟩
  by_cases hne : es = []
  · subst hne; exact .inl ⟨A, c, h1, rfl⟩
  · obtain ⟨b, off, rfl, h7, h8⟩ := h5 hne
    exact .inr ⟨b, off, c, h1, h2, h7, List.length_pos_iff.2 hne, h8⟩
theorem NodesIn.cases {l : List Nd} (h : NodesIn w B v l) : l.length ≤ 140737488351232 ∧
    ((∃ A c, v = .slice A 0 c ∧ l = []) ∨ (∃ b off c, v = .slice (some ⟨b, off, none⟩) l.length c ∧ l.length ≤ c ∧ b < B ∧ 0 < l.length ∧ ∀ i, i < l.length → NodeIn w B b (off + i * 7) (ndAt l i))) := by
  obtain ⟨A, c, h1, h2, h3, h5⟩ := h
  refine ⟨h3, ?_⟩
  by_cases hne : l = []
  · subst hne; exact .inl ⟨A, c, h1, rfl⟩
  · obtain ⟨b, off, rfl, h7, h8⟩ := h5 hne
    exact .inr ⟨b, off, c, h1, h2, h7, List.length_pos_iff.2 hne, h8⟩
end

/-- A tree as a value: its four cells. -/
def trV (nv : Value) (t : Tr) : Value := .agg #[nv, .int .i64 t.last, .int .i64 t.rn, .int .i64 t.rb]

end Go.Proofs.YtpicgkoclbpjpaaGreatDoor
end

section
namespace Go.Proofs.YtpicgkoclbpjpaaGreatDoor
open Go.RowKit Go.Shelf Go.Lib Go.Sort
open PathM TreeM
set_option linter.unusedVariables false

set_option maxHeartbeats 1000000 in
theorem find1_any (i n c b off bt bx : Nat) (id idi : Int) (W : World) (hi : i < n) (hn : n ≤ 140737488351232)
    (ht : W.cell? ⟨bt, 0, none⟩ = some (.slice (some ⟨b, off, none⟩) n c)) (hx : W.cell? ⟨bx, 0, none⟩ = some (.int .i64 id)) (hc : W.cell? ⟨b, off + i * 7, none⟩ = some (.int .i64 idi)) :
    Calls Tryz.prog 157 #[.int .i64 i, .pointer (some ⟨bt, 0, none⟩), .pointer (some ⟨bx, 0, none⟩)] W fun e w' => e = .returned (.bool (decide (id ≤ idi))) ∧ ∃ q, w' = W.drewN q := by
  have hiz : (i : Int) < (n : Int) := by omega
  go_enter Tryz.func157, Tryz.ntmps157
  go_wp2
  go_quiet (fail)
  go_wp2
  go_ret
  exact ⟨rfl, _, rfl⟩

set_option maxHeartbeats 4000000 in
set_option maxRecDepth 1000000 in
theorem search_any (g : Nat) (cb : Array Value) (n : Nat) (p : Nat → Bool) (w : World) (eg : ∀ args w, (callFunc g args).run Tryz.prog w = .ok (.enter g args) w) (hsz : n < 4611686018427387904)
    (hf : ∀ (m i : Nat), i < n → Calls Tryz.prog g (#[.int .i64 i] ++ cb) (w.drewN m) fun e w' => e = .returned (.bool (p i)) ∧ ∃ q, w' = (w.drewN m).drewN q)
    (hmono : ∀ a b, a ≤ b → b < n → p a = true → p b = true) :
    Calls Tryz.prog 71 #[.int .i64 n, .func (.func g) #[] cb] w fun e w' => e = .returned (.int .i64 ((List.range n).countP (fun i => !p i) : Nat)) ∧ ∃ q, w' = w.drewN q := by
  have HF := Lib.hid hf
  have M := Lib.hid hmono
  clear hf hmono
  generalize hcnt : (List.range n).countP (fun i => !p i) = cnt
  have CN := Lib.hid hcnt
  clear hcnt
  go_enter Tryz.func71, Tryz.ntmps71
  go_wp2
  go_loopg [5, 6] n (fun kx s5 s6 wr => ∃ (lo hi q : Nat), s5 = .int .i64 lo ∧ s6 = .int .i64 hi ∧ lo ≤ hi ∧ hi ≤ n ∧ hi - lo ≤ kx ∧ wr = w.drewN q ∧
    Hid ((∀ t, t < lo → p t = false) ∧ (∀ t, hi ≤ t → t < n → p t = true)))
  case atStart => exact ⟨0, n, 0, rfl, rfl, Nat.zero_le _, Nat.le_refl _, by omega, rfl, (⟨fun t ht => absurd ht (Nat.not_lt_zero _), fun t h1 h2 => by omega⟩ : (∀ t, t < 0 → p t = false) ∧ (∀ t, n ≤ t → t < n → p t = true))⟩
  case round =>
    obtain ⟨lo, hi, q, rfl, rfl, hlh, hin, hg, rfl, I⟩ := hrel
    by_cases hlt : lo < hi
    · have hc := HF.out q ((lo + hi) / 2) (by omega)
      rw [show (((lo + hi) / 2 : Nat) : Int) = ((lo : Int) + (hi : Int)) / 2 by omega] at hc
      cases hp : p ((lo + hi) / 2) <;> rw [hp] at hc
      · have HP := Lib.hid hp
        clear hp
        go_wp2_with (go_at_fn g; refine hc.mono ?_; rintro e w' ⟨rfl, nq, rfl⟩)
        go_roundg (hi - ((lo + hi) / 2 + 1))
        case measure => omega
        case rel =>
          have I2 : Hid ((∀ t, t < (lo + hi) / 2 + 1 → p t = false) ∧ (∀ t, hi ≤ t → t < n → p t = true)) := ⟨fun t ht => (by
            cases h : p t with
            | false => rfl
            | true => have := M.out t ((lo + hi) / 2) (by omega) (by omega) h; rw [HP.out] at this; cases this), I.out.2⟩
          exact ⟨(lo + hi) / 2 + 1, hi, q + nq, by rw [show ((lo : Int) + (hi : Int)) / 2 + 1 = (((lo + hi) / 2 + 1 : Nat) : Int) by omega], rfl, by omega, hin, Nat.le_refl _, rfl, I2⟩
      · have HP := Lib.hid hp
        clear hp
        go_wp2_with (go_at_fn g; refine hc.mono ?_; rintro e w' ⟨rfl, nq, rfl⟩)
        go_roundg ((lo + hi) / 2 - lo)
        case measure => omega
        case rel =>
          have I2 : Hid ((∀ t, t < lo → p t = false) ∧ (∀ t, (lo + hi) / 2 ≤ t → t < n → p t = true)) := ⟨I.out.1, fun t ht htn => M.out ((lo + hi) / 2) t ht htn HP.out⟩
          exact ⟨lo, (lo + hi) / 2, q + nq, rfl, by rw [show ((lo : Int) + (hi : Int)) / 2 = (((lo + hi) / 2 : Nat) : Int) by omega], by omega, by omega, Nat.le_refl _, rfl, I2⟩
    · obtain rfl : hi = lo := by omega
      have ecnt : cnt = hi := by
        rw [← CN.out]
        have hr : ∀ t, t < n → (List.range n)[t]! = t := fun t ht => by rw [getElem!_pos _ t (by simpa using ht)]; simp
        refine Lib.countP_boundary _ (List.range n) hi (by simpa using hin) (fun t ht => ?_) (fun t h3 h4 => ?_)
        · rw [hr t (by omega), I.out.1 t ht]; rfl
        · rw [hr t (by simpa using h4), I.out.2 t h3 (by simpa using h4)]; rfl
      subst ecnt
      go_wp2
      go_ret
      exact ⟨rfl, q, rfl⟩

/-- What find answers. -/
def FindPost (l : List Nd) (id : Int) (w : World) (e : Ending) (w' : World) : Prop :=
  e = .returned (.tuple #[.int .i64 (low l id), .bool (decide (low l id < l.length ∧ (ndAt l (low l id)).id = id))]) ∧ Below w.heap.size w w'
theorem ret_ib {a b : Int} {x y : Bool} (h1 : a = b) (h2 : x = y) : Ending.returned (.tuple #[.int .i64 a, .bool x]) = .returned (.tuple #[.int .i64 b, .bool y]) := by rw [h1, h2]

set_option maxHeartbeats 2000000 in
theorem find_any (nv : Value) (t : Tr) (id : Int) (B : Nat) (w : World) (hN : NodesIn w B nv t.nodes) (hB : B ≤ w.heap.size) (hr : Rising t.nodes) (hne : 0 < t.nodes.length) :
    Calls Tryz.prog 148 #[trV nv t, .int .i64 id] w (FindPost t.nodes id w) := by
  obtain ⟨hlen, ⟨A, c, rfl, h0⟩ | ⟨b, off, c, rfl, hcap, hb, _, hcells⟩⟩ := hN.cases
  · rw [h0] at hne; simp at hne
  unfold FindPost trV
  have hle := low_le t.nodes id
  have hlow : ((List.range t.nodes.length).countP fun i => !decide (id ≤ (ndAt t.nodes i).id)) = low t.nodes id := rfl
  have hmono : ∀ a b, a ≤ b → b < t.nodes.length → decide (id ≤ (ndAt t.nodes a).id) = true → decide (id ≤ (ndAt t.nodes b).id) = true := by
    intro a b hab hbl h
    have := low_mono hr id a b hab hbl
    cases e : decide (id ≤ (ndAt t.nodes b).id) with
    | true => rfl
    | false => rw [e] at this; have h2 := this rfl; rw [h] at h2; cases h2
  have hS : ∀ W0 : World, w.heap.size ≤ W0.heap.size → Below w.heap.size w W0 → ∀ bt bx, W0.cell? ⟨bt, 0, none⟩ = some (.slice (some ⟨b, off, none⟩) t.nodes.length c) → W0.cell? ⟨bx, 0, none⟩ = some (.int .i64 id) →
      Calls Tryz.prog 71 #[.int .i64 t.nodes.length, .func (.func 157) #[] #[.pointer (some ⟨bt, 0, none⟩), .pointer (some ⟨bx, 0, none⟩)]] W0 fun e w' => e = .returned (.int .i64 (low t.nodes id)) ∧ ∃ q, w' = W0.drewN q := by
    intro W0 _ hb0 bt bx c1 c2
    rw [← hlow]
    refine search_any 157 _ t.nodes.length (fun i => decide (id ≤ (ndAt t.nodes i).id)) W0 (enters_of Tryz.func157 (by kernel_rfl) rfl) (by omega) ?_ hmono
    intro m i hi
    refine (find1_any i t.nodes.length c b off bt bx id (ndAt t.nodes i).id (W0.drewN m) hi hlen (by simpa using c1) (by simpa using c2) ?_)
    have := (hcells i hi).1
    rw [← hb0.cell (p := ⟨b, off + i * 7, none⟩) (show b < w.heap.size by omega)] at this
    simpa using this
  generalize low t.nodes id = k at hS hle ⊢
  have hlast : k < t.nodes.length → w.cell? ⟨b, off + k * 7, none⟩ = some (.int .i64 (ndAt t.nodes k).id) := fun h => (hcells k h).1
  generalize (ndAt t.nodes k).id = idk at hlast ⊢
  generalize t.nodes.length = n at *
  generalize t.last = la at *
  generalize t.rn = rn at *
  generalize t.rb = rb at *
  have HS := Lib.hid hS
  clear hS hcells hlow hmono hN hr
  by_cases hk : k < n
  · have hc0 := hlast hk
    have hd : decide ((k : Int) < (n : Int)) = true := by simp; exact hk
    have hbw : b < w.heap.size := by omega
    have hki : (k : Int) < (n : Int) := by omega
    clear hlast
    go_enter Tryz.func148, Tryz.ntmps148
    go_wp2_with (go_at_call 71; refine (HS.out _ (by simp; omega) (((Below.refl _ _).alloc (Nat.le_refl _) _).alloc (by simp) _) _ _ (by simp) (by simp)).mono ?_; rintro e w' ⟨rfl, q, rfl⟩)
    go_quiet (fail)
    go_wp2
    go_ret2
    exact ⟨ret_ib rfl (by rw [Bool.eq_iff_iff]; simp [hk]), below_drewN' (below_drewN' (((Below.refl _ _).alloc (Nat.le_refl _) _).alloc (by simp) _) _) _⟩
  · have hd : decide ((k : Int) < (n : Int)) = false := by simp; omega
    clear hlast
    go_enter Tryz.func148, Tryz.ntmps148
    go_wp2_with (go_at_call 71; refine (HS.out _ (by simp; omega) (((Below.refl _ _).alloc (Nat.le_refl _) _).alloc (by simp) _) _ _ (by simp) (by simp)).mono ?_; rintro e w' ⟨rfl, q, rfl⟩)
    go_quiet (fail)
    go_wp2
    go_ret2
    exact ⟨ret_ib rfl (by rw [Bool.eq_iff_iff]; simp [hk]), below_drewN' (below_drewN' (((Below.refl _ _).alloc (Nat.le_refl _) _).alloc (by simp) _) _) _⟩

/-- A node as a value: its seven cells. -/
def ndV (ev : Value) (n : Nd) : Value := .agg #[.int .i64 n.id, .int .i64 n.kind, .int .i64 n.mode, .int .i64 n.owner, .int .i64 n.time, .string (nm n.data), ev]

set_option maxHeartbeats 1000000 in
theorem child1_any (i n c b off bt bx : Nat) (key : ByteArray) (k2 : Bs) (n0 n1 n2 n3 n4 n5 : Value) (W : World) (hi : i < n) (hn : n * 24 ≤ 140737488351232)
    (ht : W.cell? ⟨bt, 6, none⟩ = some (.slice (some ⟨b, off, none⟩) n c)) (hx : W.cell? ⟨bx, 0, none⟩ = some (.string key)) (hc : W.cell? ⟨b, off + i * 2, none⟩ = some (.string (nm k2))) :
    Calls Tryz.prog 208 #[.int .i64 i, .pointer (some ⟨bt, 0, none⟩), .pointer (some ⟨bx, 0, none⟩)] W fun e w' => e = .returned (.bool (!decide (k2 < key.data.toList))) ∧ ∃ q, w' = W.drewN q := by
  have hiz : (i : Int) < (n : Int) := by omega
  go_enter Tryz.func208, Tryz.ntmps208
  go_wp2
  go_quiet (fail)
  go_wp2
  go_ret
  exact ⟨by show Ending.returned (.bool !Op.bytesLess (nm k2).toList key.toList) = _; rw [bytesLess_eq, listD, listD]; rfl, _, rfl⟩

/-- What Child answers. -/
def ChildPost (o : Option Int) (w : World) (e : Ending) (w' : World) : Prop :=
  e = .returned (.tuple #[.int .i64 (o.getD 0), .bool o.isSome]) ∧ Below w.heap.size w w'

set_option maxHeartbeats 2000000 in
theorem child_any (ev : Value) (nd : Nd) (key : ByteArray) (B : Nat) (w : World) (hE : EntsIn w B ev nd.es) (hB : B ≤ w.heap.size) (hs : Sorted nd.es) :
    Calls Tryz.prog 207 #[ndV ev nd, .string key] w (ChildPost (childO nd.es key.data.toList) w) := by
  rw [klow_child hs]
  unfold ChildPost ndV
  have hle := klow_le nd.es key.data.toList
  have hlow : ((List.range nd.es.length).countP fun i => !(!decide ((entAt nd.es i).key < key.data.toList))) = klow nd.es key.data.toList := rfl
  obtain ⟨hlen, _, ⟨A, c, rfl, h0⟩ | ⟨b, off, c, rfl, hcap, hb, hpos, hcells⟩⟩ := hE.cases
  · rw [h0] at hle hlow ⊢
    have hz : klow [] key.data.toList = 0 := rfl
    rw [hz, if_pos (.inl rfl)]
    have HS : Hid (∀ W0 : World, ∀ bt bx, Calls Tryz.prog 71 #[.int .i64 (0 : Int), .func (.func 208) #[] #[.pointer (some ⟨bt, 0, none⟩), .pointer (some ⟨bx, 0, none⟩)]] W0 fun e w' => e = .returned (.int .i64 0) ∧ ∃ q, w' = W0.drewN q) := by
      intro W0 bt bx
      exact search_any 208 _ 0 (fun i => false) W0 (enters_of Tryz.func208 (by kernel_rfl) rfl) (by omega) (fun m i hi => absurd hi (Nat.not_lt_zero _)) (fun a b _ h => absurd h (Nat.not_lt_zero _))
    clear hle hlow hs hE h0 hz
    generalize nm nd.data = da
    go_enter Tryz.func207, Tryz.ntmps207
    go_wp2_with (go_at_call 71; refine (HS.out _ _ _).mono ?_; rintro e w' ⟨rfl, q, rfl⟩)
    go_quiet (fail)
    go_wp2
    go_ret2
    exact ⟨rfl, by first | exact below_drewN' (((Below.refl _ _).alloc (Nat.le_refl _) _).alloc (by simp) _) _ | exact below_drewN' (below_drewN' (((Below.refl _ _).alloc (Nat.le_refl _) _).alloc (by simp) _) _) _⟩
  have hmono : ∀ a b, a ≤ b → b < nd.es.length → (!decide ((entAt nd.es a).key < key.data.toList)) = true → (!decide ((entAt nd.es b).key < key.data.toList)) = true := by
    intro a b hab hbl h
    have := klow_mono hs key.data.toList a b hab hbl
    cases e : (!decide ((entAt nd.es b).key < key.data.toList)) with
    | true => rfl
    | false => rw [e] at this; have h2 := this rfl; rw [h] at h2; cases h2
  have hS : ∀ W0 : World, w.heap.size ≤ W0.heap.size → Below w.heap.size w W0 → ∀ bt bx, W0.cell? ⟨bt, 6, none⟩ = some (.slice (some ⟨b, off, none⟩) nd.es.length c) → W0.cell? ⟨bx, 0, none⟩ = some (.string key) →
      Calls Tryz.prog 71 #[.int .i64 nd.es.length, .func (.func 208) #[] #[.pointer (some ⟨bt, 0, none⟩), .pointer (some ⟨bx, 0, none⟩)]] W0 fun e w' => e = .returned (.int .i64 (klow nd.es key.data.toList)) ∧ ∃ q, w' = W0.drewN q := by
    intro W0 _ hb0 bt bx c1 c2
    rw [← hlow]
    refine search_any 208 _ nd.es.length (fun i => !decide ((entAt nd.es i).key < key.data.toList)) W0 (enters_of Tryz.func208 (by kernel_rfl) rfl) (by omega) ?_ hmono
    intro m i hi
    refine (child1_any i nd.es.length c b off bt bx key (entAt nd.es i).key (.int .i64 0) (.int .i64 0) (.int .i64 0) (.int .i64 0) (.int .i64 0) (.int .i64 0) (W0.drewN m) hi hlen (by simpa using c1) (by simpa using c2) ?_)
    have := (hcells i hi).1
    rw [← hb0.cell (p := ⟨b, off + i * 2, none⟩) (show b < w.heap.size by omega)] at this
    simpa using this
  generalize klow nd.es key.data.toList = k at hS hle ⊢
  have hlast : k < nd.es.length → w.cell? ⟨b, off + k * 2, none⟩ = some (.string (nm (entAt nd.es k).key)) ∧ w.cell? ⟨b, off + k * 2 + 1, none⟩ = some (.int .i64 (entAt nd.es k).to) := fun h => hcells k h
  generalize (entAt nd.es k).to = tok at hlast ⊢
  generalize (entAt nd.es k).key = keyk at hlast ⊢
  generalize nd.es.length = n at *
  generalize nm nd.data = da
  have HS := Lib.hid hS
  clear hS hcells hlow hmono hE hs
  by_cases hk : k < n
  · obtain ⟨hc0, hc1⟩ := hlast hk
    have hd : ((k : Int) == (n : Int)) = false := by simp; omega
    have hbw : b < w.heap.size := by omega
    have hki : (k : Int) < (n : Int) := by omega
    clear hlast
    by_cases hkey : keyk = key.data.toList
    · have hq : ((nm keyk).toList == key.toList) = true := by rw [listD, listD]; simp [hkey]; rfl
      have hq2 : ((nm keyk).toList != key.toList) = false := by rw [bne, hq]; rfl
      rw [if_neg (by rintro (h | h); omega; exact h hkey)]
      clear hkey
      go_enter Tryz.func207, Tryz.ntmps207
      go_wp2_with (go_at_call 71; refine (HS.out _ (by simp; omega) (((Below.refl _ _).alloc (Nat.le_refl _) _).alloc (by simp) _) _ _ (by simp) (by simp)).mono ?_; rintro e w' ⟨rfl, q, rfl⟩)
      go_quiet (fail)
      go_wp2
      go_ret2
      exact ⟨rfl, by first | exact below_drewN' (((Below.refl _ _).alloc (Nat.le_refl _) _).alloc (by simp) _) _ | exact below_drewN' (below_drewN' (((Below.refl _ _).alloc (Nat.le_refl _) _).alloc (by simp) _) _) _⟩
    · have hq : ((nm keyk).toList == key.toList) = false := by rw [listD, listD]; exact beq_eq_false_iff_ne.2 hkey
      have hq2 : ((nm keyk).toList != key.toList) = true := by rw [bne, hq]; rfl
      rw [if_pos (.inr hkey)]
      clear hkey
      go_enter Tryz.func207, Tryz.ntmps207
      go_wp2_with (go_at_call 71; refine (HS.out _ (by simp; omega) (((Below.refl _ _).alloc (Nat.le_refl _) _).alloc (by simp) _) _ _ (by simp) (by simp)).mono ?_; rintro e w' ⟨rfl, q, rfl⟩)
      go_quiet (fail)
      go_wp2
      go_ret2
      exact ⟨rfl, by first | exact below_drewN' (((Below.refl _ _).alloc (Nat.le_refl _) _).alloc (by simp) _) _ | exact below_drewN' (below_drewN' (((Below.refl _ _).alloc (Nat.le_refl _) _).alloc (by simp) _) _) _⟩
  · have hkn : k = n := by omega
    rw [if_pos (.inl hkn)]
    have hd : ((k : Int) == (n : Int)) = true := by simp; omega
    clear hlast hkn
    go_enter Tryz.func207, Tryz.ntmps207
    go_wp2_with (go_at_call 71; refine (HS.out _ (by simp; omega) (((Below.refl _ _).alloc (Nat.le_refl _) _).alloc (by simp) _) _ _ (by simp) (by simp)).mono ?_; rintro e w' ⟨rfl, q, rfl⟩)
    go_quiet (fail)
    go_wp2
    go_ret2
    exact ⟨rfl, by first | exact below_drewN' (((Below.refl _ _).alloc (Nat.le_refl _) _).alloc (by simp) _) _ | exact below_drewN' (below_drewN' (((Below.refl _ _).alloc (Nat.le_refl _) _).alloc (by simp) _) _) _⟩

end Go.Proofs.YtpicgkoclbpjpaaGreatDoor
end

section
namespace Go.Proofs.YtpicgkoclbpjpaaGreatDoor
open Go.RowKit Go.Sort
open PathM TreeM
set_option linter.unusedVariables false

theorem cell_rg (w : World) (d : Nat) (os : Array Obj) (a : Addr) (h : a.block < w.heap.size) : (grow (redrawn w d) os).cell? a = w.cell? a := (below_regrown w d os).cell h
attribute [local go_sem] cell_rg

theorem le_false {a b : Bs} (h : a < b) : (Op.bytesLess (nm b).toList (nm a).toList || (nm b).toList == (nm a).toList) = false := by
  rw [bytesLess_eq, listD, listD]
  show (decide (b < a) || b == a) = false
  have h1 : ¬ b < a := fun h2 => bs_irrefl _ (bs_trans _ _ _ h h2)
  have h2 : b ≠ a := fun e => by subst e; exact bs_irrefl _ h
  simp [h1, h2]
theorem le_true {a b : Bs} (h : ¬ a < b) : (Op.bytesLess (nm b).toList (nm a).toList || (nm b).toList == (nm a).toList) = true := by
  rw [bytesLess_eq, listD, listD]
  show (decide (b < a) || b == a) = true
  rcases bs_tri a b with h1 | h1 | h1
  · exact absurd h1 h
  · subst h1; simp
  · simp [h1]

set_option maxHeartbeats 2000000 in
theorem ents_any (v : Value) (es : List Ent) (B : Nat) (w : World) (hE : EntsIn w B v es) (hB : B ≤ w.heap.size) :
    Calls Tryz.prog 156 #[v] w fun e w' => e = .returned (.bool (entsB es)) ∧ Below w.heap.size w w' := by
  obtain ⟨hlen, hkeys, ⟨A, c, rfl, h0⟩ | ⟨b, off, c, rfl, hcap, hb, hpos, hcells⟩⟩ := hE.cases
  · subst h0
    go_enter Tryz.func156, Tryz.ntmps156
    go_wp2
    refine wp_loop_rounds 1 ?_
    rw [rounds_succ]
    go_wp2
    go_ret
    exact ⟨rfl, Below.refl _ _⟩
  obtain ⟨r, hr⟩ : ∃ r, entsB es = r := ⟨_, rfl⟩
  rw [hr]
  have hfail : ∀ k, k < es.length → okEnt es k = false → r = false := fun k hk h => by rw [← hr]; exact allTo_not hk h
  have hall : allTo (okEnt es) es.length = true → r = true := fun h => by rw [← hr]; exact h
  have hok : ∀ k, okEnt es k = (nameB (entAt es k).key && (k == 0 || decide ((entAt es (k - 1)).key < (entAt es k).key))) := fun k => rfl
  have hkl : ∀ k, k < es.length → (entAt es k).key.length ≤ 140737488351232 := fun k hk => (hkeys _ (entAt_mem hk)).1
  clear hkeys hE
  generalize hn : es.length = n at *
  have HN := Lib.hid hn; have HR := Lib.hid hr; have HF := Lib.hid hfail; have HA := Lib.hid hall; have HK := Lib.hid hok; have HL := Lib.hid hkl; have HC := Lib.hid hcells
  clear hn hr hfail hall hok hkl hcells
  go_enter Tryz.func156, Tryz.ntmps156
  go_wp2
  go_loopw [7] (fun i wr => ∃ k : Nat, k ≤ n ∧ i = .int .i64 k ∧ allTo (okEnt es) k = true ∧ Below w.heap.size w wr) (fun i _ => n - (intOf i).toNat)
  case atStart => exact ⟨0, by omega, rfl, rfl, Below.refl _ _⟩
  case round =>
    obtain ⟨k, hk, rfl, hto, hbel⟩ := hrel
    have HT := Lib.hid hto; clear hto
    by_cases hlt : k < n
    · obtain ⟨cc0, cc1⟩ := HC.out k hlt
      have c0 : wr.cell? ⟨b, off + k * 2, none⟩ = some (.string (nm (entAt es k).key)) := (hbel.cell (p := ⟨b, off + k * 2, none⟩) (show b < w.heap.size by omega)).trans cc0
      have c1 : wr.cell? ⟨b, off + k * 2 + 1, none⟩ = some (.int .i64 (entAt es k).to) := (hbel.cell (p := ⟨b, off + k * 2 + 1, none⟩) (show b < w.heap.size by omega)).trans cc1
      have hkk : (k : Int) < (n : Int) := by omega
      have hwr : w.heap.size ≤ wr.heap.size := hbel.size
      have hNM := fun W => name_any (nm (entAt es k).key) W (by rw [nm_size]; unfold maxLen; have := HL.out k hlt; omega)
      rw [nm_data] at hNM
      have hok1 := HK.out k
      cases hnb : nameB (entAt es k).key with
      | false =>
        rw [hnb] at hNM hok1
        have HO := Lib.hid (HF.out k hlt (by rw [hok1]; rfl))
        have HNM := Lib.hid hNM
        clear hNM hok1 hnb cc0 cc1
        go_wp2
        refine wp_region_quiet_below (by kernel_rfl) (by kernel_rfl) ?_
        repeat (first | go_big_quiet_step ((go_at_call 163; exact Calls.regrown_of (HNM.out _))) | quiet_step ((go_at_call 163; exact Calls.regrown_of (HNM.out _))))
        refine wpQuiet_nil ?_
        intro _ hw'
        obtain ⟨⟨dq, osq⟩, hw''⟩ := hw'
        subst hw''
        all_goals go_wp2
        all_goals go_ret
        all_goals exact ⟨ret_bool HO.out.symm, (hbel.alloc hwr _).trans ((below_regrown _ dq osq).mono (by simp; omega))⟩
      | true =>
        rw [hnb] at hNM hok1
        have HNM := Lib.hid hNM
        by_cases hk0 : k = 0
        · have HO := Lib.hid (allTo_succ HT.out (by rw [hok1, hk0]; rfl))
          have hd : decide ((0 : Int) < (k : Int)) = false := by simp; omega
          have hd2 : decide (0 < k) = false := by simp; omega
          clear hNM hok1 hnb cc0 cc1 hk0
          go_wp2
          refine wp_region_quiet_below (by kernel_rfl) (by kernel_rfl) ?_
          repeat (first | go_big_quiet_step ((go_at_call 163; exact Calls.regrown_of (HNM.out _))) | quiet_step ((go_at_call 163; exact Calls.regrown_of (HNM.out _))))
          refine wpQuiet_nil ?_
          intro _ hw'
          obtain ⟨⟨dq, osq⟩, hw''⟩ := hw'
          subst hw''
          go_wp2
          go_roundw
          case rel => exact ⟨k + 1, by omega, by go_num, HO.out, (hbel.alloc hwr _).trans ((below_regrown _ dq osq).mono (by simp; omega))⟩
          case measure => simp [intOf]; omega
        · have hd : decide ((0 : Int) < (k : Int)) = true := by simp; omega
          have hd2 : decide (0 < k) = true := by simp; omega
          obtain ⟨pc0, _⟩ := HC.out (k - 1) (by omega)
          have p0 : wr.cell? ⟨b, off + (k - 1) * 2, none⟩ = some (.string (nm (entAt es (k - 1)).key)) := (hbel.cell (p := ⟨b, off + (k - 1) * 2, none⟩) (show b < w.heap.size by omega)).trans pc0
          have hbw : b < wr.heap.size := by omega
          have hbw1 : b < wr.heap.size + 1 := by omega
          have hk1 : (0 : Int) ≤ (k : Int) - 1 := by omega
          have hk2 : (k : Int) - 1 < (n : Int) := by omega
          have hk3 : ((k : Int) - 1).toNat = k - 1 := by omega
          by_cases hord : (entAt es (k - 1)).key < (entAt es k).key
          · have hle := le_false hord
            have HO := Lib.hid (allTo_succ HT.out (by rw [hok1]; simp [hord]))
            clear hNM hok1 hnb cc0 cc1 hk0 hord pc0
            go_wp2
            refine wp_region_quiet_below (by kernel_rfl) (by kernel_rfl) ?_
            repeat (first | go_big_quiet_step ((go_at_call 163; exact Calls.regrown_of (HNM.out _))) | quiet_step ((go_at_call 163; exact Calls.regrown_of (HNM.out _))))
            refine wpQuiet_nil ?_
            intro _ hw'
            obtain ⟨⟨dq, osq⟩, hw''⟩ := hw'
            subst hw''
            go_wp2
            go_roundw
            case rel => exact ⟨k + 1, by omega, by go_num, HO.out, (hbel.alloc hwr _).trans ((below_regrown _ dq osq).mono (by simp; omega))⟩
            case measure => simp [intOf]; omega
          · have hle := le_true hord
            have HO := Lib.hid (HF.out k hlt (by rw [hok1]; simp [hord, hk0]))
            clear hNM hok1 hnb cc0 cc1 hk0 hord pc0
            go_wp2
            refine wp_region_quiet_below (by kernel_rfl) (by kernel_rfl) ?_
            repeat (first | go_big_quiet_step ((go_at_call 163; exact Calls.regrown_of (HNM.out _))) | quiet_step ((go_at_call 163; exact Calls.regrown_of (HNM.out _))))
            refine wpQuiet_nil ?_
            intro _ hw'
            obtain ⟨⟨dq, osq⟩, hw''⟩ := hw'
            subst hw''
            go_wp2
            go_ret
            exact ⟨ret_bool HO.out.symm, (hbel.alloc hwr _).trans ((below_regrown _ dq osq).mono (by simp; omega))⟩
    · have hkn : k = n := by omega
      have HO := Lib.hid (HA.out (by rw [← hkn]; exact HT.out))
      clear hkn
      go_wp2
      go_ret
      exact ⟨ret_bool HO.out.symm, hbel⟩

end Go.Proofs.YtpicgkoclbpjpaaGreatDoor
end

section
namespace Go.Proofs.YtpicgkoclbpjpaaGreatDoor
open Go.RowKit Go.Sort
open PathM TreeM
set_option linter.unusedVariables false

set_option maxHeartbeats 400000 in
theorem within_any (n most : Int) (w : World) :
    Calls Tryz.prog 146 #[.int .i64 n, .int .i64 most] w fun e w' => e = .returned (.bool (decide (0 ≤ n ∧ n ≤ most))) ∧ w = w' := by
  by_cases h0 : 0 ≤ n
  · have e : decide (0 ≤ n ∧ n ≤ most) = decide (n ≤ most) := by simp [h0]
    rw [e]; clear e
    go_enter Tryz.func146, Tryz.ntmps146
    go_wp2
    go_ret
    exact ⟨rfl, rfl⟩
  · have e : decide (0 ≤ n ∧ n ≤ most) = false := by simp [h0]
    have hd : decide (0 ≤ n) = false := by simpa using h0
    rw [e]; clear e
    go_enter Tryz.func146, Tryz.ntmps146
    go_wp2
    go_ret
    exact ⟨rfl, rfl⟩

/-- What a node may hold, by its kind. -/
def holdsB (n : Nd) : Bool :=
  if n.kind = 1 then decide (n.data = []) && entsB n.es
   else if n.kind = 2 then decide (n.data.length ≤ 4096) && decide (n.es = [])
   else if n.kind = 3 then decide (n.data ≠ []) && decide (n.data.length ≤ 256) && !n.data.contains 0 && decide (n.es = [])
   else false
theorem plain_holds (n : Nd) : plainB n = (decide (0 ≤ n.mode ∧ n.mode ≤ 511 ∧ 0 ≤ n.owner ∧ n.owner ≤ 65535 ∧ 0 ≤ n.time ∧ n.time ≤ 1099511627776) && holdsB n) := rfl

theorem ents_len {w : World} {B : Nat} {v : Value} {es : List Ent} (h : EntsIn w B v es) : ∃ A c, v = .slice A es.length c ∧ es.length * 24 ≤ 140737488351232 := by
  obtain ⟨A, c, h1, _, h2, _⟩ := h; exact ⟨A, c, h1, h2⟩
theorem nil_len (es : List Ent) : decide (es = []) = decide (es.length = 0) := by cases es <;> simp

set_option maxHeartbeats 2000000 in
theorem holds_any (ev : Value) (nd : Nd) (B : Nat) (w : World) (hE : EntsIn w B ev nd.es) (hB : B ≤ w.heap.size) (hD : nd.data.length ≤ 140737488351232) :
    Calls Tryz.prog 147 #[ndV ev nd] w fun e w' => e = .returned (.bool (holdsB nd)) ∧ Below w.heap.size w w' := by
  have hsz : (nm nd.data).size = nd.data.length := nm_size _
  have hent : ∀ W, Below w.heap.size w W → Calls Tryz.prog 156 #[ev] W fun e w' => e = .returned (.bool (entsB nd.es)) ∧ Below W.heap.size W w' :=
    fun W hW => ents_any ev nd.es w.heap.size W ((hE.more hB).below hW) hW.size
  obtain ⟨A, c, rfl, hlen⟩ := ents_len hE
  have hI := fun w => Tryz.strings_IndexByte (nm nd.data) 0 w
  rw [show Int.toNat 0 = 0 from rfl, show Nat.toUInt8 0 = 0 from rfl, nm_data] at hI
  have h0 := index0 nd.data
  unfold holdsB ndV
  rw [nil_len]
  obtain ⟨id, kind, mode, owner, time, data, es⟩ := nd
  simp only at *
  generalize es.length = m at *
  generalize entsB es = eb at *
  by_cases k1 : kind = 1
  · rw [if_pos k1]
    have q1 : (kind == 1) = true := by simp [k1]
    have HE := Lib.hid hent; have HS := Lib.hid hsz
    clear hent hI h0 k1 hsz
    by_cases hd : data = []
    · have e1 := emp_yes (b := nm data) (by rw [nm_data]; exact hd)
      have hr : (decide (data = []) && eb) = eb := by simp [hd]
      rw [hr]; clear hr hd
      go_enter Tryz.func147, Tryz.ntmps147
      go_wp2_with (go_at_call 156; refine (HE.out _ ((Below.refl _ _).alloc (Nat.le_refl _) _)).mono ?_; rintro e w' ⟨rfl, hb⟩)
      go_ret
      exact ⟨rfl, ((Below.refl _ _).alloc (Nat.le_refl _) _).trans (hb.mono (by simp))⟩
    · have e1 := emp_no (b := nm data) (by rw [nm_data]; exact hd)
      have hr : (decide (data = []) && eb) = false := by simp [hd]
      rw [hr]; clear hr hd
      go_enter Tryz.func147, Tryz.ntmps147
      go_wp2
      go_ret
      exact ⟨rfl, ((Below.refl _ _).alloc (Nat.le_refl _) _)⟩
  · rw [if_neg k1]
    have q1 : (kind == 1) = false := by simp [k1]
    clear hent k1
    by_cases k2 : kind = 2
    · rw [if_pos k2]
      have q2 : (kind == 2) = true := by simp [k2]
      clear hI h0 k2
      have HS := Lib.hid hsz
      by_cases hd : data.length ≤ 4096
      · have hr : (decide (data.length ≤ 4096) && decide (m = 0)) = ((m : Int) == 0) := by rw [Bool.eq_iff_iff]; simp [hd]
        have hd2 : (nm data).size ≤ 4096 := by omega
        have hd3 : decide (((nm data).size : Int) ≤ 4096) = true := by simp; omega
        have hr2 := hr
        rw [hr]
        have q3 : ((m : Int) == 0) = decide (m = 0) := by rw [Bool.eq_iff_iff]; simp
        clear hr hr2 hd hsz
        go_enter Tryz.func147, Tryz.ntmps147
        go_wp2
        go_ret
        exact ⟨by first | rfl | (rw [q3]; rfl) | simp, ((Below.refl _ _).alloc (Nat.le_refl _) _)⟩
      · have hr : (decide (data.length ≤ 4096) && decide (m = 0)) = false := by simp [hd]
        have hd3 : decide (((nm data).size : Int) ≤ 4096) = false := by simp; omega
        have hd2 : ¬ (nm data).size ≤ 4096 := by omega
        rw [hr]
        clear hr hd hsz
        go_enter Tryz.func147, Tryz.ntmps147
        go_wp2
        go_ret
        exact ⟨by first | rfl | simp, ((Below.refl _ _).alloc (Nat.le_refl _) _)⟩
    · rw [if_neg k2]
      have q2 : (kind == 2) = false := by simp [k2]
      clear k2
      by_cases k3 : kind = 3
      · rw [if_pos k3]
        have q3 : (kind == 3) = true := by simp [k3]
        clear k3
        have HS := Lib.hid hsz
        by_cases hd : data = []
        · have e1 := emp_yes (b := nm data) (by rw [nm_data]; exact hd)
          have hr : (decide (data ≠ []) && decide (data.length ≤ 256) && !data.contains 0 && decide (m = 0)) = false := by simp [hd]
          rw [hr]; clear hr hd hI h0 hsz
          go_enter Tryz.func147, Tryz.ntmps147
          go_wp2
          go_ret
          exact ⟨by first | rfl | simp, ((Below.refl _ _).alloc (Nat.le_refl _) _)⟩
        · have e1 := emp_no (b := nm data) (by rw [nm_data]; exact hd)
          by_cases hl : data.length ≤ 256
          · have hd2 : (nm data).size ≤ 256 := by omega
            have hd3 : decide (((nm data).size : Int) ≤ 256) = true := by simp; omega
            by_cases hz : 0 ≤ Lib.indexByte data 0
            · have hr : (decide (data ≠ []) && decide (data.length ≤ 256) && !data.contains 0 && decide (m = 0)) = false := by rw [h0.1 hz]; simp
              rw [hr]
              have HI := Lib.hid hI
              generalize Lib.indexByte data 0 = x at hz HI
              have hx : decide (x < 0) = false := by simp; omega
              clear hr hd hI h0 hsz hl
              go_enter Tryz.func147, Tryz.ntmps147
              go_wp2_with (go_at_call 48; refine (HI.out _).mono ?_; rintro e w' ⟨rfl, rfl⟩)
              go_ret
              exact ⟨by first | rfl | simp, ((Below.refl _ _).alloc (Nat.le_refl _) _)⟩
            · have hc : data.contains 0 = false := by
                cases e : data.contains 0 with
                | false => rfl
                | true => exact absurd (h0.2 e) hz
              have hr : (decide (data ≠ []) && decide (data.length ≤ 256) && !data.contains 0 && decide (m = 0)) = ((m : Int) == 0) := by rw [hc, Bool.eq_iff_iff]; simp [hd, hl]
              rw [hr]
              have HI := Lib.hid hI
              generalize Lib.indexByte data 0 = x at hz HI
              have hx : decide (x < 0) = true := by simp; omega
              have q5 : ((m : Int) == 0) = decide (m = 0) := by rw [Bool.eq_iff_iff]; simp
              clear hr hd hI h0 hsz hl hc
              go_enter Tryz.func147, Tryz.ntmps147
              go_wp2_with (go_at_call 48; refine (HI.out _).mono ?_; rintro e w' ⟨rfl, rfl⟩)
              go_ret
              exact ⟨by first | rfl | (rw [q5]; rfl) | simp, ((Below.refl _ _).alloc (Nat.le_refl _) _)⟩
          · have hd3 : decide (((nm data).size : Int) ≤ 256) = false := by simp; omega
            have hd2 : ¬ (nm data).size ≤ 256 := by omega
            have hr : (decide (data ≠ []) && decide (data.length ≤ 256) && !data.contains 0 && decide (m = 0)) = false := by simp [hl]
            rw [hr]; clear hr hd hI h0 hsz hl
            go_enter Tryz.func147, Tryz.ntmps147
            go_wp2
            go_ret
            exact ⟨by first | rfl | simp, ((Below.refl _ _).alloc (Nat.le_refl _) _)⟩
      · rw [if_neg k3]
        have q3 : (kind == 3) = false := by simp [k3]
        clear k3 hI h0
        have HS := Lib.hid hsz; clear hsz
        go_enter Tryz.func147, Tryz.ntmps147
        go_wp2
        go_ret
        exact ⟨rfl, ((Below.refl _ _).alloc (Nat.le_refl _) _)⟩

end Go.Proofs.YtpicgkoclbpjpaaGreatDoor
end

section
namespace Go.Proofs.YtpicgkoclbpjpaaGreatDoor
open Go.RowKit Go.Sort
open PathM TreeM
set_option linter.unusedVariables false

theorem plain_cut (n : Nd) : plainB n = (decide (0 ≤ n.mode ∧ n.mode ≤ 511) && decide (0 ≤ n.owner ∧ n.owner ≤ 65535) && decide (0 ≤ n.time ∧ n.time ≤ 1099511627776) && holdsB n) := by
  rw [plain_holds]
  congr 1
  rw [Bool.eq_iff_iff]; simp; omega

set_option maxHeartbeats 2000000 in
theorem nodesMay_any (v : Value) (l : List Nd) (B : Nat) (w : World) (hN : NodesIn w B v l) (hB : B ≤ w.heap.size) :
    Calls Tryz.prog 125 #[v] w fun e w' => e = .returned (.bool (nodesB l)) ∧ Below w.heap.size w w' := by
  obtain ⟨hlen, ⟨A, c, rfl, h0⟩ | ⟨b, off, c, rfl, hcap, hb, hpos, hcells⟩⟩ := hN.cases
  · subst h0
    go_enter Tryz.func125, Tryz.ntmps125
    go_wp2
    refine wp_loop_rounds 1 ?_
    rw [rounds_succ]
    go_wp2
    go_ret
    exact ⟨rfl, Below.refl _ _⟩
  obtain ⟨r, hr⟩ : ∃ r, nodesB l = r := ⟨_, rfl⟩
  rw [hr]
  have hfail : ∀ k, k < l.length → plainB (ndAt l k) = false → r = false := fun k hk h => by rw [← hr]; exact allTo_not hk h
  have hall : allTo (fun i => plainB (ndAt l i)) l.length = true → r = true := fun h => by rw [← hr]; exact h
  have HWi := Lib.hid (fun n most W => within_any n most W)
  generalize hn : l.length = n at *
  have HN := Lib.hid hn; have HR := Lib.hid hr; have HF := Lib.hid hfail; have HA := Lib.hid hall; have HC := Lib.hid hcells
  clear hn hr hfail hall hcells hN
  go_enter Tryz.func125, Tryz.ntmps125
  go_wp2
  go_loopw [7] (fun i wr => ∃ k : Nat, k ≤ n ∧ i = .int .i64 k ∧ allTo (fun i => plainB (ndAt l i)) k = true ∧ Below w.heap.size w wr) (fun i _ => n - (intOf i).toNat)
  case atStart => exact ⟨0, by omega, rfl, rfl, Below.refl _ _⟩
  case round =>
    obtain ⟨k, hk, rfl, hto, hbel⟩ := hrel
    have HT := Lib.hid hto; clear hto
    by_cases hlt : k < n
    · have hwr : w.heap.size ≤ wr.heap.size := hbel.size
      have hNd : NodeIn wr wr.heap.size b (off + k * 7) (ndAt l k) := ((HC.out k hlt).more (B' := w.heap.size) hB |>.below (by omega) hbel).more hwr
      have hkk : (k : Int) < (n : Int) := by omega
      have hF := HF.out k hlt
      have hS : plainB (ndAt l k) = true → allTo (fun i => plainB (ndAt l i)) (k + 1) = true := fun h => allTo_succ HT.out h
      rw [plain_cut] at hF hS
      generalize ndAt l k = nd at hNd hF hS
      obtain ⟨c0, c1, c2, c3, c4, c5, hdl, ev, c6, hE⟩ := hNd
      obtain ⟨Ae, ce, rfl, hml⟩ := ents_len hE
      have HH := Lib.hid (fun W (h : Below wr.heap.size wr W) => holds_any _ nd wr.heap.size W (hE.below h) h.size hdl)
      have HW1 := Lib.hid (fun W => within_any nd.mode 511 W)
      have HW2 := Lib.hid (fun W => within_any nd.owner 65535 W)
      have HW3 := Lib.hid (fun W => within_any nd.time 1099511627776 W)
      clear hdl hE
      generalize hb1 : decide (0 ≤ nd.mode ∧ nd.mode ≤ 511) = b1 at *
      generalize hb2 : decide (0 ≤ nd.owner ∧ nd.owner ≤ 65535) = b2 at *
      generalize hb3 : decide (0 ≤ nd.time ∧ nd.time ≤ 1099511627776) = b3 at *
      generalize hb4 : holdsB nd = b4 at *
      clear hb1 hb2 hb3 hb4
      cases b1
      · have HO := Lib.hid (hF rfl)
        clear hF hS
        go_wp2_with (go_at_call 146; refine (HW1.out _).mono ?_; rintro e w' ⟨rfl, rfl⟩)
        go_ret
        exact ⟨ret_bool HO.out.symm, hbel.alloc hwr _⟩
      cases b2
      · have HO := Lib.hid (hF rfl)
        clear hF hS
        go_wp2_with fail
        refine (HW1.out _).mono ?_
        rintro e w' ⟨rfl, rfl⟩
        go_wp2_with fail
        refine (HW2.out _).mono ?_
        rintro e w' ⟨rfl, rfl⟩
        go_wp2_with fail
        go_ret
        exact ⟨ret_bool HO.out.symm, hbel.alloc hwr _⟩
      cases b3
      · have HO := Lib.hid (hF rfl)
        clear hF hS
        go_wp2_with fail
        refine (HW1.out _).mono ?_
        rintro e w' ⟨rfl, rfl⟩
        go_wp2_with fail
        refine (HW2.out _).mono ?_
        rintro e w' ⟨rfl, rfl⟩
        go_wp2_with fail
        refine (HW3.out _).mono ?_
        rintro e w' ⟨rfl, rfl⟩
        go_wp2_with fail
        go_ret
        exact ⟨ret_bool HO.out.symm, hbel.alloc hwr _⟩
      cases b4
      · have HO := Lib.hid (hF rfl)
        clear hF hS
        go_wp2_with fail
        refine (HW1.out _).mono ?_
        rintro e w' ⟨rfl, rfl⟩
        go_wp2_with fail
        refine (HW2.out _).mono ?_
        rintro e w' ⟨rfl, rfl⟩
        go_wp2_with fail
        refine (HW3.out _).mono ?_
        rintro e w' ⟨rfl, rfl⟩
        go_wp2_with fail
        refine (HH.out _ ((Below.refl _ _).alloc (Nat.le_refl _) _)).mono ?_
        rintro e w' ⟨rfl, hb⟩
        go_wp2_with fail
        go_ret
        exact ⟨ret_bool HO.out.symm, (hbel.alloc hwr _).trans (hb.mono (by simp; omega))⟩
      · have HO := Lib.hid (hS rfl)
        clear hF hS
        go_wp2_with fail
        refine (HW1.out _).mono ?_
        rintro e w' ⟨rfl, rfl⟩
        go_wp2_with fail
        refine (HW2.out _).mono ?_
        rintro e w' ⟨rfl, rfl⟩
        go_wp2_with fail
        refine (HW3.out _).mono ?_
        rintro e w' ⟨rfl, rfl⟩
        go_wp2_with fail
        refine (HH.out _ ((Below.refl _ _).alloc (Nat.le_refl _) _)).mono ?_
        rintro e w' ⟨rfl, hb⟩
        go_wp2_with fail
        go_roundw
        case rel => exact ⟨k + 1, by omega, by go_num, HO.out, (hbel.alloc hwr _).trans (hb.mono (by simp; omega))⟩
        case measure => simp [intOf]; omega
    · have hkn : k = n := by omega
      have HO := Lib.hid (HA.out (by rw [← hkn]; exact HT.out))
      clear hkn
      go_wp2
      go_ret
      exact ⟨ret_bool HO.out.symm, hbel⟩

set_option maxHeartbeats 2000000 in
theorem numbered_any (nv : Value) (t : Tr) (B : Nat) (w : World) (hN : NodesIn w B nv t.nodes) (hB : B ≤ w.heap.size) :
    Calls Tryz.prog 124 #[trV nv t] w fun e w' => e = .returned (.bool (numB t)) ∧ Below w.heap.size w w' := by
  obtain ⟨hlen, ⟨A, c, rfl, h0⟩ | ⟨b, off, c, rfl, hcap, hb, hpos, hcells⟩⟩ := hN.cases
  · have hr : numB t = false := by simp [numB, h0]
    rw [hr]
    unfold trV
    clear hr hN h0
    go_enter Tryz.func124, Tryz.ntmps124
    go_wp2
    go_ret
    exact ⟨rfl, (Below.refl _ _).alloc (Nat.le_refl _) _⟩
  unfold trV
  obtain ⟨r, hr⟩ : ∃ r, numB t = r := ⟨_, rfl⟩
  rw [hr]
  have hnum : numB t = (decide (1 ≤ t.nodes.length ∧ t.nodes.length ≤ 512 ∧ (ndAt t.nodes 0).id = 1 ∧ (ndAt t.nodes 0).kind = 1) && allTo (okNum t.nodes t.last) t.nodes.length) := rfl
  have hbw : b < w.heap.size := by omega
  have hN0 := hcells 0 hpos
  rw [show off + 0 * 7 = off by omega] at hN0
  obtain ⟨d0, d1, _⟩ := hN0
  obtain ⟨l, la, rn, rb⟩ := t
  simp only at *
  generalize hn : l.length = n at *
  by_cases hbig : n ≤ 512
  · by_cases hid : (ndAt l 0).id = 1
    · by_cases hki : (ndAt l 0).kind = 1
      · have hfail : ∀ k, k < n → okNum l la k = false → r = false := fun k hk h => by rw [← hr, hnum, allTo_not hk h]; simp
        have hall : allTo (okNum l la) n = true → r = true := fun h => by rw [← hr, hnum, h]; simp [hid, hki, hbig]; omega
        have HF := Lib.hid hfail; have HA := Lib.hid hall; have HC := Lib.hid hcells; have HR := Lib.hid hr; have HN := Lib.hid hn; have HU := Lib.hid hnum
        clear hfail hall hcells hr hn hnum hN
        rw [hid] at d0
        rw [hki] at d1
        clear hid hki
        go_enter Tryz.func124, Tryz.ntmps124
        go_wp2
        go_loopw [34] (fun i wr => ∃ k : Nat, k ≤ n ∧ i = .int .i64 k ∧ allTo (okNum l la) k = true ∧ Below (w.heap.size + 1) (w.alloc (.cells #[.slice (some ⟨b, off, none⟩) n c, .int .i64 la, .int .i64 rn, .int .i64 rb] 26)) wr) (fun i _ => n - (intOf i).toNat)
        case atStart => exact ⟨0, by omega, rfl, rfl, Below.refl _ _⟩
        case round =>
          obtain ⟨k, hk, rfl, hto, hbel⟩ := hrel
          have hwr : w.heap.size + 1 ≤ wr.heap.size := by have := hbel.size; simpa using this
          have hws : w.heap.size < wr.heap.size := by omega
          have hbw2 : b < wr.heap.size := by omega
          have hbel2 : Below w.heap.size w wr := ((Below.refl _ _).alloc (Nat.le_refl _) _).trans (hbel.mono (by omega))
          have t0 : wr.cell? ⟨w.heap.size, 0, none⟩ = some (.slice (some ⟨b, off, none⟩) n c) := (hbel.cell (p := ⟨w.heap.size, 0, none⟩) (by simp)).trans (by simp)
          have t1 : wr.cell? ⟨w.heap.size, 1, none⟩ = some (.int .i64 la) := (hbel.cell (p := ⟨w.heap.size, 1, none⟩) (by simp)).trans (by simp)
          have HT := Lib.hid hto; have HB := Lib.hid hbel; have HB2 := Lib.hid hbel2
          clear hto hbel hbel2
          by_cases hlt : k < n
          · obtain ⟨c0, c1, c2, c3, c4, c5, hdl, ev, c6, hE⟩ : NodeIn wr wr.heap.size b (off + k * 7) (ndAt l k) := ((HC.out k hlt).more (B' := w.heap.size) hB |>.below (by omega) HB2.out).more (by omega)
            have hkk : (k : Int) < (n : Int) := by omega
            have hok : okNum l la k = (decide ((ndAt l k).id ≤ la) && (k == 0 || decide ((ndAt l (k - 1)).id < (ndAt l k).id))) := rfl
            obtain ⟨Ae, ce, rfl, hml⟩ := ents_len hE
            clear hdl hE
            by_cases hla : (ndAt l k).id ≤ la
            · have g1 : decide (la < (ndAt l k).id) = false := by simp; omega
              by_cases hk0 : k = 0
              · have HO := Lib.hid (allTo_succ HT.out (hok.trans (by rw [decide_eq_true hla, hk0]; rfl)))
                have hd : decide ((0 : Int) < (k : Int)) = false := by simp; omega
                have hd2 : decide (0 < k) = false := by simp; omega
                clear hok hk0 hla
                generalize ndAt l k = nd at *
                go_wp2
                go_quiet (fail)
                go_wp2
                go_roundw
                case rel => exact ⟨k + 1, by omega, by go_num, HO.out, below_drewN' (HB.out.alloc (by omega) _) _⟩
                case measure => simp [intOf]; omega
              · have hd : decide ((0 : Int) < (k : Int)) = true := by simp; omega
                have hd2 : decide (0 < k) = true := by simp; omega
                obtain ⟨p0, _⟩ : NodeIn wr wr.heap.size b (off + (k - 1) * 7) (ndAt l (k - 1)) := ((HC.out (k - 1) (by omega)).more (B' := w.heap.size) hB |>.below (by omega) HB2.out).more (by omega)
                have hk1 : (0 : Int) ≤ (k : Int) - 1 := by omega
                have hk2 : (k : Int) - 1 < (n : Int) := by omega
                have hk3 : ((k : Int) - 1).toNat = k - 1 := by omega
                by_cases hord : (ndAt l (k - 1)).id < (ndAt l k).id
                · have HO := Lib.hid (allTo_succ HT.out (hok.trans (by simp [hla, hord])))
                  have g2 : decide ((ndAt l k).id ≤ (ndAt l (k - 1)).id) = false := by simp; omega
                  clear hok hk0 hla hord
                  generalize ndAt l k = nd at *
                  generalize ndAt l (k - 1) = pd at *
                  go_wp2
                  go_quiet (fail)
                  go_wp2
                  go_roundw
                  case rel => exact ⟨k + 1, by omega, by go_num, HO.out, below_drewN' (HB.out.alloc (by omega) _) _⟩
                  case measure => simp [intOf]; omega
                · have HO := Lib.hid (HF.out k hlt (hok.trans (by simp [hla, hord, hk0])))
                  have g2 : decide ((ndAt l k).id ≤ (ndAt l (k - 1)).id) = true := by simp; omega
                  clear hok hk0 hla hord
                  generalize ndAt l k = nd at *
                  generalize ndAt l (k - 1) = pd at *
                  go_wp2
                  go_quiet (fail)
                  go_wp2
                  go_ret
                  exact ⟨ret_bool HO.out.symm, below_drewN' (HB2.out.alloc (by omega) _) _⟩
            · have g1 : decide (la < (ndAt l k).id) = true := by simp; omega
              have HO := Lib.hid (HF.out k hlt (hok.trans (by simp [hla])))
              clear hok hla
              generalize ndAt l k = nd at *
              go_wp2
              go_quiet (fail)
              go_wp2
              go_ret
              exact ⟨ret_bool HO.out.symm, below_drewN' (HB2.out.alloc (by omega) _) _⟩
          · have hkn : k = n := by omega
            have HO := Lib.hid (HA.out (by rw [← hkn]; exact HT.out))
            clear hkn
            go_wp2
            go_ret
            exact ⟨ret_bool HO.out.symm, HB2.out⟩
      · have hf : r = false := by rw [← hr, hnum]; simp [hki]
        have q1 : ((ndAt l 0).kind != 1) = true := by simpa using hki
        have HF := Lib.hid hf
        rw [hid] at d0
        clear hr hnum hcells hn hf hid hki hN
        generalize (ndAt l 0).kind = kd at *
        go_enter Tryz.func124, Tryz.ntmps124
        go_wp2
        go_ret
        exact ⟨ret_bool HF.out.symm, (Below.refl _ _).alloc (Nat.le_refl _) _⟩
    · have hf : r = false := by rw [← hr, hnum]; simp [hid]
      have q1 : ((ndAt l 0).id != 1) = true := by simpa using hid
      have HF := Lib.hid hf
      clear hr hnum hcells hn hf hid d1 hN
      generalize (ndAt l 0).id = kd at *
      go_enter Tryz.func124, Tryz.ntmps124
      go_wp2
      go_ret
      exact ⟨ret_bool HF.out.symm, (Below.refl _ _).alloc (Nat.le_refl _) _⟩
  · have hf : r = false := by rw [← hr, hnum]; simp [hbig]
    have HF := Lib.hid hf
    clear hr hnum hcells hn hf d0 d1 hN
    go_enter Tryz.func124, Tryz.ntmps124
    go_wp2
    go_ret
    exact ⟨ret_bool HF.out.symm, (Below.refl _ _).alloc (Nat.le_refl _) _⟩

end Go.Proofs.YtpicgkoclbpjpaaGreatDoor
end

section
namespace Go.Proofs.YtpicgkoclbpjpaaGreatDoor
open Go.RowKit Go.Sort
open PathM TreeM
set_option linter.unusedVariables false

/-- The document's Place. -/
def placeI (l : List Nd) (id : Int) : Int := if place l id < l.length then (place l id : Int) else -1
theorem ret_i64 {a b : Int} (h : a = b) : Ending.returned (.int .i64 a) = .returned (.int .i64 b) := by rw [h]

set_option maxHeartbeats 2000000 in
theorem rplace_any (nv : Value) (t : Tr) (id : Int) (B : Nat) (w : World) (hN : NodesIn w B nv t.nodes) (hB : B ≤ w.heap.size) :
    Calls Tryz.prog 68 #[trV nv t, .int .i64 id] w fun e w' => e = .returned (.int .i64 (placeI t.nodes id)) ∧ Below w.heap.size w w' := by
  obtain ⟨hlen, ⟨A, c, rfl, h0⟩ | ⟨b, off, c, rfl, hcap, hb, hpos, hcells⟩⟩ := hN.cases
  · have hr : placeI t.nodes id = -1 := by simp [placeI, h0]
    rw [hr]
    unfold trV
    clear hr hN h0
    go_enter Tryz.func68, Tryz.ntmps68
    go_wp2
    refine wp_loop_rounds 1 ?_
    rw [rounds_succ]
    go_wp2
    go_ret
    exact ⟨rfl, (Below.refl _ _).alloc (Nat.le_refl _) _⟩
  unfold trV
  obtain ⟨r, hr⟩ : ∃ r, placeI t.nodes id = r := ⟨_, rfl⟩
  rw [hr]
  obtain ⟨l, la, rn, rb⟩ := t
  simp only at *
  have hyes : ∀ k, k < l.length → (∀ j, j < k → (ndAt l j).id ≠ id) → (ndAt l k).id = id → (k : Int) = r := by
    intro k hk hb he
    have := place_eq hk he hb
    rw [← hr, placeI, this, if_pos hk]
  have hno : (∀ j, j < l.length → (ndAt l j).id ≠ id) → (-1 : Int) = r := by
    intro h
    rw [← hr, placeI, place_none h, if_neg (by omega)]
  generalize hn : l.length = n at *
  have hbw : b < w.heap.size := by omega
  have HY := Lib.hid hyes; have HNo := Lib.hid hno; have HC := Lib.hid hcells; have HR := Lib.hid hr; have HN := Lib.hid hn
  clear hyes hno hcells hr hn hN
  go_enter Tryz.func68, Tryz.ntmps68
  go_wp2
  go_loop [5] (fun i => ∃ k : Nat, k ≤ n ∧ i = .int .i64 k ∧ Hid (∀ j, j < k → (ndAt l j).id ≠ id)) (fun i => n - (intOf i).toNat)
  case atStart => exact ⟨0, by omega, rfl, Lib.hid (fun j hj => absurd hj (Nat.not_lt_zero _))⟩
  case round =>
    obtain ⟨k, hk, rfl, HT⟩ := hrel
    by_cases hlt : k < n
    · obtain ⟨c0, _⟩ := HC.out k hlt
      have hkk : (k : Int) < (n : Int) := by omega
      by_cases he : (ndAt l k).id = id
      · have HO := Lib.hid (HY.out k hlt HT.out he)
        have q1 : ((ndAt l k).id == id) = true := by simpa using he
        clear he
        generalize (ndAt l k).id = x at *
        go_wp2
        go_ret
        exact ⟨ret_i64 HO.out, (Below.refl _ _).alloc (Nat.le_refl _) _⟩
      · have HO : Hid (∀ j, j < k + 1 → (ndAt l j).id ≠ id) := Lib.hid (fun j hj => by
          by_cases e : j = k
          · subst e; exact he
          · exact HT.out j (by omega))
        have q1 : ((ndAt l k).id == id) = false := by simpa using he
        clear he
        generalize (ndAt l k).id = x at c0 q1
        go_wp2
        go_round
        case rel => exact ⟨k + 1, by omega, by go_num, HO⟩
        case measure => simp [intOf]; omega
    · have HO := Lib.hid (HNo.out (fun j hj => HT.out j (by omega)))
      go_wp2
      go_ret
      exact ⟨ret_i64 HO.out, (Below.refl _ _).alloc (Nat.le_refl _) _⟩

/-- How many bytes nodes have. -/
def bytesN (l : List Nd) : Nat := (l.map fun n => n.data.length).sum
theorem bytes_take (l : List Nd) (k : Nat) (h : k < l.length) : bytesN (l.take (k + 1)) = bytesN (l.take k) + (ndAt l k).data.length := by
  have e : ndAt l k = l[k] := by simp [ndAt, h]
  unfold bytesN
  rw [List.take_succ_eq_append_getElem h, List.map_append, List.sum_append, e]
  rfl
theorem bytes_le (l : List Nd) (k : Nat) : bytesN (l.take k) ≤ bytesN l := by
  have h := List.take_append_drop k l
  have : bytesN l = bytesN (l.take k) + bytesN (l.drop k) := by
    unfold bytesN
    rw [← List.sum_append, ← List.map_append, h]
  omega
theorem ret_2i {a b c d : Int} (h1 : a = c) (h2 : b = d) : Ending.returned (.tuple #[.int .i64 a, .int .i64 b]) = .returned (.tuple #[.int .i64 c, .int .i64 d]) := by rw [h1, h2]

set_option maxHeartbeats 2000000 in
theorem rchild_any (ev : Value) (nd : Nd) (key : ByteArray) (B : Nat) (w : World) (hE : EntsIn w B ev nd.es) (hB : B ≤ w.heap.size) :
    Calls Tryz.prog 30 #[ndV ev nd, .string key] w fun e w' => e = .returned (.int .i64 ((childO nd.es key.data.toList).getD 0)) ∧ Below w.heap.size w w' := by
  obtain ⟨hlen, _, ⟨A, c, rfl, h0⟩ | ⟨b, off, c, rfl, hcap, hb, hpos, hcells⟩⟩ := hE.cases
  · rw [h0]
    unfold ndV
    clear h0 hE
    generalize nm nd.data = D
    go_enter Tryz.func30, Tryz.ntmps30
    go_wp2
    refine wp_loop_rounds 1 ?_
    rw [rounds_succ]
    go_wp2
    go_ret
    exact ⟨rfl, (Below.refl _ _).alloc (Nat.le_refl _) _⟩
  unfold ndV
  obtain ⟨r, hr⟩ : ∃ r, (childO nd.es key.data.toList).getD 0 = r := ⟨_, rfl⟩
  rw [hr]
  have hyes : ∀ k, k < nd.es.length → (∀ j, j < k → (entAt nd.es j).key ≠ key.data.toList) → (entAt nd.es k).key = key.data.toList → (entAt nd.es k).to = r := by
    intro k hk hb he
    have hf : nd.es.find? (fun x => x.key == key.data.toList) = some (entAt nd.es k) := by
      rw [List.find?_eq_some_iff_getElem]
      refine ⟨by simp [he], k, hk, by simp [entAt, hk], fun j hj => ?_⟩
      have := hb j hj
      have hjl : j < nd.es.length := by omega
      simpa [entAt, hjl] using this
    rw [← hr, childO, hf]; rfl
  have hno : (∀ j, j < nd.es.length → (entAt nd.es j).key ≠ key.data.toList) → (0 : Int) = r := by
    intro h
    have hf : nd.es.find? (fun x => x.key == key.data.toList) = none := by
      rw [List.find?_eq_none]
      intro x hx
      obtain ⟨j, hj, rfl⟩ := ent_of_mem hx
      simpa using h j hj
    rw [← hr, childO, hf]; rfl
  obtain ⟨id, kind, mode, owner, time, data, es⟩ := nd
  simp only at *
  generalize hn : es.length = n at *
  have hbw : b < w.heap.size := by omega
  have HY := Lib.hid hyes; have HNo := Lib.hid hno; have HC := Lib.hid hcells; have HR := Lib.hid hr; have HN := Lib.hid hn
  clear hyes hno hcells hr hn hE
  generalize nm data = D at *
  go_enter Tryz.func30, Tryz.ntmps30
  go_wp2
  go_loop [5] (fun i => ∃ k : Nat, k ≤ n ∧ i = .int .i64 k ∧ Hid (∀ j, j < k → (entAt es j).key ≠ key.data.toList)) (fun i => n - (intOf i).toNat)
  case atStart => exact ⟨0, by omega, rfl, Lib.hid (fun j hj => absurd hj (Nat.not_lt_zero _))⟩
  case round =>
    obtain ⟨k, hk, rfl, HT⟩ := hrel
    by_cases hlt : k < n
    · obtain ⟨c0, c1⟩ := HC.out k hlt
      have hkk : (k : Int) < (n : Int) := by omega
      by_cases he : (entAt es k).key = key.data.toList
      · have HO := Lib.hid (HY.out k hlt HT.out he)
        have q1 : ((nm (entAt es k).key).toList == key.toList) = true := by rw [listD, listD]; show ((entAt es k).key == key.data.toList) = true; simp [he]
        clear he
        generalize (entAt es k).to = y at *
        generalize nm (entAt es k).key = x at *
        go_wp2
        go_ret
        exact ⟨ret_i64 HO.out, (Below.refl _ _).alloc (Nat.le_refl _) _⟩
      · have HO : Hid (∀ j, j < k + 1 → (entAt es j).key ≠ key.data.toList) := Lib.hid (fun j hj => by
          by_cases e : j = k
          · subst e; exact he
          · exact HT.out j (by omega))
        have q1 : ((nm (entAt es k).key).toList == key.toList) = false := by rw [listD, listD]; exact beq_eq_false_iff_ne.2 he
        clear he
        generalize nm (entAt es k).key = x at c0 q1
        generalize (entAt es k).to = y at c1
        go_wp2
        go_round
        case rel => exact ⟨k + 1, by omega, by go_num, HO⟩
        case measure => simp [intOf]; omega
    · have HO := Lib.hid (HNo.out (fun j hj => HT.out j (by omega)))
      go_wp2
      go_ret
      exact ⟨ret_i64 HO.out, (Below.refl _ _).alloc (Nat.le_refl _) _⟩

end Go.Proofs.YtpicgkoclbpjpaaGreatDoor
end

section
namespace Go.Proofs.YtpicgkoclbpjpaaGreatDoor
open Go.RowKit Go.Sort
open PathM TreeM
set_option linter.unusedVariables false

/-- How many entries lead to a number: of all nodes below k, and of the next one's entries below j. -/
def cntTo (l : List Nd) (id : Int) (k j : Nat) : Nat := (flat (l.take k) ++ (ndAt l k).es.take j).countP fun x => x.to == id
theorem cnt_zero (l : List Nd) (id : Int) : cntTo l id 0 0 = 0 := rfl
theorem cnt_step {l : List Nd} {id : Int} {k j : Nat} (h : j < (ndAt l k).es.length) : cntTo l id k (j + 1) = cntTo l id k j + (if (entAt (ndAt l k).es j).to = id then 1 else 0) := by
  have e : entAt (ndAt l k).es j = (ndAt l k).es[j] := by simp [entAt, h]
  unfold cntTo
  rw [List.take_succ_eq_append_getElem h, ← List.append_assoc, List.countP_append (l₁ := flat (l.take k) ++ (ndAt l k).es.take j), e]
  congr 1
  simp [List.countP_cons]
theorem cnt_next {l : List Nd} {id : Int} {k : Nat} (h : k < l.length) : cntTo l id (k + 1) 0 = cntTo l id k (ndAt l k).es.length := by
  unfold cntTo
  rw [flat_take_succ l k h]; simp
theorem cnt_end {l : List Nd} {id : Int} : cntTo l id l.length 0 = links l id := by
  unfold cntTo links; rw [List.take_length]; simp
theorem cntTo_le {l : List Nd} {id : Int} {k j : Nat} (hk : k < l.length) : cntTo l id k j ≤ (flat l).length := by
  unfold cntTo
  refine Nat.le_trans List.countP_le_length ?_
  have h1 : flat l = flat (l.take (k + 1)) ++ flat (l.drop (k + 1)) := by unfold flat; rw [← List.flatMap_append, List.take_append_drop]
  rw [h1, flat_take_succ l k hk]
  simp only [List.length_append, List.length_take]
  omega

set_option maxHeartbeats 4000000 in
theorem rlinks_any (nv : Value) (t : Tr) (id : Int) (B : Nat) (w : World) (hN : NodesIn w B nv t.nodes) (hB : B ≤ w.heap.size) (hfl : (flat t.nodes).length ≤ 4611686018427387904) :
    Calls Tryz.prog 31 #[trV nv t, .int .i64 id] w fun e w' => e = .returned (.int .i64 (links t.nodes id)) ∧ Below w.heap.size w w' := by
  obtain ⟨hlen, ⟨A, c, rfl, h0⟩ | ⟨b, off, c, rfl, hcap, hb, hpos, hcells⟩⟩ := hN.cases
  · unfold trV
    rw [h0]
    clear hN h0
    go_enter Tryz.func31, Tryz.ntmps31
    go_wp2
    refine wp_loop_rounds 1 ?_
    rw [rounds_succ]
    go_wp2
    go_ret
    exact ⟨rfl, (Below.refl _ _).alloc (Nat.le_refl _) _⟩
  unfold trV
  obtain ⟨l, la, rn, rb⟩ := t
  simp only at *
  have hend : cntTo l id l.length 0 = links l id := cnt_end
  obtain ⟨tot, ht⟩ : ∃ tot, links l id = tot := ⟨_, rfl⟩
  rw [ht] at hend ⊢
  have hle : ∀ k j, k < l.length → cntTo l id k j ≤ 4611686018427387904 := fun k j hk => Nat.le_trans (cntTo_le hk) hfl
  have hnx : ∀ k, k < l.length → cntTo l id (k + 1) 0 = cntTo l id k (ndAt l k).es.length := fun k hk => cnt_next hk
  have hbw : b < w.heap.size := by omega
  generalize hn : l.length = n at *
  have HL := Lib.hid hle; have HX := Lib.hid hnx; have HE := Lib.hid hend; have HC := Lib.hid hcells; have HN := Lib.hid hn; have HT := Lib.hid ht
  clear hle hend hcells hn hN ht hnx hfl
  go_enter Tryz.func31, Tryz.ntmps31
  go_wp2
  go_loop [5, 6] (fun s i => ∃ k : Nat, k ≤ n ∧ i = .int .i64 k ∧ s = .int .i64 (cntTo l id k 0)) (fun _ i => n - (intOf i).toNat)
  case atStart => exact ⟨0, by omega, rfl, rfl⟩
  case round =>
    obtain ⟨k, hk, rfl, rfl⟩ := hrel
    by_cases hlt : k < n
    · obtain ⟨c0, c1, c2, c3, c4, c5, hdl, ev, c6, hE⟩ := HC.out k hlt
      have hkk : (k : Int) < (n : Int) := by omega
      have hle1 := HL.out k 0 hlt
      have hst : ∀ j, j < (ndAt l k).es.length → cntTo l id k (j + 1) = cntTo l id k j + (if (entAt (ndAt l k).es j).to = id then 1 else 0) := fun j hj => cnt_step hj
      have HST := Lib.hid hst
      have HX1 := Lib.hid (HX.out k hlt)
      clear hst hdl c0 c1 c2 c3 c4 c5
      generalize hnd : ndAt l k = nd at *
      have HND := Lib.hid hnd
      clear hnd
      obtain ⟨hml, _, ⟨Ae, ce, rfl, he0⟩ | ⟨eb, eo, ce, rfl, hecap, heb, hepos, hec⟩⟩ := hE.cases
      · have hm0 : nd.es.length = 0 := by rw [he0]; rfl
        have HM := Lib.hid hm0
        clear hE he0 hm0
        generalize hs : cntTo l id k 0 = s at *
        have HS := Lib.hid hs
        clear hs
        go_wp2
        refine wp_loop_rounds 1 ?_
        rw [rounds_succ]
        go_wp2
        go_round
        case rel => exact ⟨k + 1, by omega, by go_num, by rw [HX1.out, HM.out, HS.out]⟩
        case measure => simp [intOf]; omega
      · generalize hm : nd.es.length = m at *
        have HM := Lib.hid hm
        have HEC := Lib.hid hec
        clear hm hec hE
        have hebw : eb < w.heap.size := by omega
        go_wp2
        go_loop [5, 7] (fun s j => ∃ q : Nat, q ≤ m ∧ j = .int .i64 q ∧ s = .int .i64 (cntTo l id k q)) (fun _ j => m - (intOf j).toNat)
        case atStart => exact ⟨0, by omega, rfl, rfl⟩
        case round =>
          obtain ⟨q, hq, rfl, rfl⟩ := hrel
          have hle2 := HL.out k q hlt
          by_cases hqt : q < m
          · obtain ⟨d0, d1⟩ := HEC.out q hqt
            have hqq : (q : Int) < (m : Int) := by omega
            have hst1 := HST.out q (by omega)
            by_cases he : (entAt nd.es q).to = id
            · have q1 : ((entAt nd.es q).to == id) = true := by simpa using he
              rw [if_pos he] at hst1
              have HS1 := Lib.hid hst1
              clear hst1 he
              generalize cntTo l id k q = s at *
              generalize (entAt nd.es q).to = y at *
              generalize nm (entAt nd.es q).key = x at *
              go_wp2
              go_round
              case rel => exact ⟨q + 1, by omega, by go_num, by rw [HS1.out]; go_num⟩
              case measure => simp [intOf]; omega
            · have q1 : ((entAt nd.es q).to == id) = false := by simpa using he
              rw [if_neg he] at hst1
              have HS1 := Lib.hid hst1
              clear hst1 he
              generalize cntTo l id k q = s at *
              generalize (entAt nd.es q).to = y at *
              generalize nm (entAt nd.es q).key = x at *
              go_wp2
              go_round
              case rel => exact ⟨q + 1, by omega, by go_num, by rw [HS1.out]; rfl⟩
              case measure => simp [intOf]; omega
          · have hqm : q = m := by omega
            have HQ : Hid (cntTo l id (k + 1) 0 = cntTo l id k q) := Lib.hid (by rw [hqm]; exact HX1.out)
            clear hqm
            generalize cntTo l id k q = s at *
            go_wp2
            go_round
            case rel => exact ⟨k + 1, by omega, by go_num, by rw [HQ.out]⟩
            case measure => simp [intOf]; omega
    · have hkn : k = n := by omega
      have HO : Hid (cntTo l id k 0 = tot) := Lib.hid (by rw [hkn]; exact HE.out)
      clear hkn
      generalize cntTo l id k 0 = s at *
      go_wp2
      go_ret
      exact ⟨ret_i64 (by rw [HO.out]), (Below.refl _ _).alloc (Nat.le_refl _) _⟩

end Go.Proofs.YtpicgkoclbpjpaaGreatDoor
end

section
namespace Go.Proofs.YtpicgkoclbpjpaaGreatDoor
open Go.RowKit Go.Sort
open PathM TreeM
set_option linter.unusedVariables false

theorem keyed : Maps.Keyed Tryz.prog 3 := Maps.int_keyed Tryz.underlying3
theorem zero3 (w : World) : (zeroValue 3).run Tryz.prog w = .ok (.int .i64 0) w := by kernel_rfl
theorem wf64 {a : Int} (h : -9223372036854775808 ≤ a ∧ a ≤ 9223372036854775807) : (Lit.int .i64 a).wf = true := WalkArith.wf_i64 (by omega)

def litI : DataW Unit → Int
  | .lit (.int _ a) => a
  | _ => 0
theorem lit_inj {a b : Int} (h : (DataW.lit (.int .i64 a) : DataW Unit) = .lit (.int .i64 b)) : a = b := congrArg litI h

/-- Block mb is a map of at most n entries that holds what f says. -/
def MapI (W : World) (mb n : Nat) (f : Int → Option Int) : Prop :=
  ∃ D : DataW Unit, W.ownsMap Tryz.prog 3 (plainElem Tryz.prog 3) mb n D ∧
    ∀ k : Int, (f k = none → Maps.has D (.int .i64 k) = false) ∧ (∀ x, f k = some x → Maps.has D (.int .i64 k) = true ∧ ∀ z, D.atKey (.int .i64 k) z = .lit (.int .i64 x))
theorem MapI.made (w : World) : MapI (w.alloc (.map #[] 0)) w.heap.size 0 (fun _ => none) :=
  ⟨_, World.ownsMap_made w _ _ _, fun k => ⟨fun _ => rfl, fun x h => by cases h⟩⟩
theorem MapI.kept {W W' : World} {mb n : Nat} {f : Int → Option Int} {row : Option Nat} (h : MapI W mb n f) (hg : W.grownBy W' row) (hne : some mb ≠ row) : MapI W' mb n f := by
  obtain ⟨D, h1, h2⟩ := h; exact ⟨D, h1.kept hg hne, h2⟩
theorem MapI.lt {W : World} {mb n : Nat} {f : Int → Option Int} (h : MapI W mb n f) : mb < W.heap.size := by obtain ⟨D, h1, _⟩ := h; exact h1.lt
theorem MapI.alloc {W : World} {mb n : Nat} {f : Int → Option Int} (h : MapI W mb n f) (o : Obj) : MapI (W.alloc o) mb n f := h.kept (World.grownBy_alloc W o none) (by simp)
theorem MapI.drewN {W : World} {mb n : Nat} {f : Int → Option Int} (h : MapI W mb n f) (q : Nat) : MapI (W.drewN q) mb n f := h
theorem MapI.below {W W' : World} {mb n B : Nat} {f : Int → Option Int} (h : MapI W mb n f) (hb : Below B W W') (hB : mb < B) : MapI W' mb n f := by
  obtain ⟨D, ⟨es, clock, h1, h2, h3, h4⟩, h5⟩ := h
  exact ⟨D, ⟨es, clock, (hb.block mb hB).trans h1, h2, h3, h4⟩, h5⟩
theorem MapI.mono {W : World} {mb n n' : Nat} {f : Int → Option Int} (h : MapI W mb n f) (hn : n ≤ n') : MapI W mb n' f := by
  obtain ⟨D, h1, h2⟩ := h; exact ⟨D, h1.mono hn, h2⟩
theorem MapI.congr {W : World} {mb n : Nat} {f g : Int → Option Int} (h : MapI W mb n f) (hfg : ∀ k, f k = g k) : MapI W mb n g := by
  have : f = g := funext hfg
  rw [← this]; exact h
theorem MapI.setCell {W : World} {mb n : Nat} {f : Int → Option Int} (h : MapI W mb n f) {a : Addr} (ha : mb ≠ a.block) (u : Value) : MapI (W.setCell a u) mb n f := by
  obtain ⟨D, h1, h2⟩ := h; exact ⟨D, h1.setCell ha u, h2⟩

theorem MapI.look {W : World} {mb n : Nat} {f : Int → Option Int} (h : MapI W mb n f) (k : Int) (hk : -9223372036854775808 ≤ k ∧ k ≤ 9223372036854775807) :
    (Instr.lookup 195 (.map (some mb)) (.int .i64 k) false).run Tryz.prog W = .ok (.int .i64 ((f k).getD 0)) W := by
  obtain ⟨D, h1, h2⟩ := h
  obtain ⟨c, hr, ha, _⟩ := h1.lookup_int keyed Tryz.underlying195 Tryz.underlying3 (zero3 W) (Maps.keyOf_int_mk Tryz.underlying3 (wf64 hk))
  rw [hr]
  obtain ⟨g1, g2⟩ := h2 k
  cases e : f k with
  | none =>
    rw [Maps.atKey_of_not_has (g1 e)] at ha
    have ha := lit_inj ha
    subst ha; rfl
  | some x =>
    rw [(g2 x e).2] at ha
    have ha := lit_inj ha
    subst ha; rfl
theorem MapI.look_ok {W : World} {mb n : Nat} {f : Int → Option Int} (h : MapI W mb n f) (k : Int) (hk : -9223372036854775808 ≤ k ∧ k ≤ 9223372036854775807) :
    (Instr.lookup 195 (.map (some mb)) (.int .i64 k) true).run Tryz.prog W = .ok (.tuple #[.int .i64 ((f k).getD 0), .bool (f k).isSome]) W := by
  obtain ⟨D, h1, h2⟩ := h
  obtain ⟨v, ps, hr, hv⟩ := h1.look_ok keyed Tryz.underlying195 (zero3 W) (plainElem_int Tryz.underlying3 (wf64 (by omega))) (Maps.keyOf_int_mk Tryz.underlying3 (wf64 hk))
  rw [hr]
  obtain ⟨c, rfl, hc, _⟩ := plainElem_int_inv Tryz.underlying3 hv
  have ha := congrArg Prod.fst hc
  simp only at ha
  obtain ⟨g1, g2⟩ := h2 k
  cases e : f k with
  | none =>
    rw [Maps.atKey_of_not_has (g1 e)] at ha
    have ha := lit_inj ha
    subst ha; rw [g1 e]; rfl
  | some x =>
    rw [(g2 x e).2] at ha
    have ha := lit_inj ha
    subst ha; rw [(g2 x e).1]; rfl

/-- 'm[k] = v' at the operation. -/
theorem wpList_put (w : World) {ops : Array Oper} {rest : List Oper} {o : Oper} {a : Act} {Q : Exit → Act → World → Prop} (hg : o.guard = none) (m x v : Operand) (hop : o.op = Op.mapUpdate 195 m x v)
    (mb n : Nat) (f : Int → Option Int) (hm : a.eval m = .map (some mb)) (h : MapI w mb n f) (hn : n < maxLen) (k y : Int) (hx : a.eval x = .int .i64 k) (hv : a.eval v = .int .i64 y)
    (hk : -9223372036854775808 ≤ k ∧ k ≤ 9223372036854775807) (hy : -9223372036854775808 ≤ y ∧ y ≤ 9223372036854775807)
    (hK : ∀ w', MapI w' mb (n + 1) (fun j => if j = k then some y else f j) → w.grownBy w' (some mb) → wpList Tryz.prog ops Q rest (a.put o.dst undef) w') : wpList Tryz.prog ops Q (o :: rest) a w := by
  obtain ⟨D, h1, h2⟩ := h
  refine wpList_mapUpdate_own w hg m x v _ hop 3 3 keyed Tryz.underlying195 _ mb n D hm h1 hn _ _ (.int .i64 k) hx hv (Maps.keyOf_int_mk Tryz.underlying3 (wf64 hk)) _ [] (plainElem_int Tryz.underlying3 (wf64 hy)) (fun w' r1 r2 => hK w' ⟨_, r1, fun j => ?_⟩ r2)
  have hkey : WideAt.IsKeyLit (.int .i64 k) := by trivial
  by_cases e : j = k
  · subst e
    refine ⟨fun h => by simp at h, fun x hx => ?_⟩
    simp at hx
    subst hx
    exact ⟨Maps.has_put_same h1.isMap hkey _, fun z => Maps.atKey_put_same h1.isMap hkey _ z⟩
  · have hne : (Lit.int .i64 j) ≠ .int .i64 k := fun h => e (by injection h)
    simp only [if_neg e]
    obtain ⟨g1, g2⟩ := h2 j
    exact ⟨fun h => by rw [Maps.has_put_other hne]; exact g1 h, fun x hx => ⟨by rw [Maps.has_put_other hne]; exact (g2 x hx).1, fun z => by rw [Maps.atKey_put_other hne]; exact (g2 x hx).2 z⟩⟩

theorem find_yes (nv : Value) (t : Tr) (id : Int) (B : Nat) (w : World) (hN : NodesIn w B nv t.nodes) (hB : B ≤ w.heap.size) (hr : Rising t.nodes) (hp : place t.nodes id < t.nodes.length) :
    Calls Tryz.prog 148 #[trV nv t, .int .i64 id] w fun e w' => e = .returned (.tuple #[.int .i64 (place t.nodes id), .bool true]) ∧ Below w.heap.size w w' := by
  refine (find_any nv t id B w hN hB hr (by omega)).mono ?_
  rintro e w' ⟨rfl, h⟩
  have h1 := low_eq hr hp
  have h2 := (low_place hr id).2 hp
  exact ⟨ret_ib (by rw [h1]) (by simpa using h2), h⟩
theorem find_no (nv : Value) (t : Tr) (id : Int) (B : Nat) (w : World) (hN : NodesIn w B nv t.nodes) (hB : B ≤ w.heap.size) (hr : Rising t.nodes) (hne : 0 < t.nodes.length) (hp : ¬ place t.nodes id < t.nodes.length) :
    Calls Tryz.prog 148 #[trV nv t, .int .i64 id] w fun e w' => e = .returned (.tuple #[.int .i64 (low t.nodes id), .bool false]) ∧ Below w.heap.size w w' := by
  refine (find_any nv t id B w hN hB hr hne).mono ?_
  rintro e w' ⟨rfl, h⟩
  have h2 : ¬ (low t.nodes id < t.nodes.length ∧ (ndAt t.nodes (low t.nodes id)).id = id) := fun h => hp ((low_place hr id).1 h)
  exact ⟨ret_ib rfl (by simpa using h2), h⟩

end Go.Proofs.YtpicgkoclbpjpaaGreatDoor
end

section
namespace Go.Proofs.YtpicgkoclbpjpaaGreatDoor
open Go.RowKit Go.Sort
open PathM TreeM
set_option linter.unusedVariables false

theorem eq59 (a b : ByteArray) (x y : Int) (w : World) : (Op.equalIn 10000 75 (.agg #[.string a, .int .i64 x]) (.agg #[.string b, .int .i64 y])).run Tryz.prog w = .ok (a.toList == b.toList && x == y) w := by
  have u3 := Tryz.underlying3
  have a3 := Tryz.isAgg3
  have z3 := Tryz.sizeOf3
  have u9 := Tryz.underlying9
  have a9 := Tryz.isAgg9
  have z9 := Tryz.sizeOf9
  have hS : Tryz.prog.underlying 75 = some (.struct (Tryz.prog.fieldsOf 75)) := by kernel_rfl
  have hp : Tryz.prog.stoodInHeld 75 = false := by kernel_rfl
  rw [show (10000 : Nat) = 9999 + 1 from rfl, run_equalIn_agg w 9999 75 _ _ hS hp]
  simp only [Program.fieldsOf, Tryz.underlying75]
  go_simp
  by_cases h1 : a.toList = b.toList <;> by_cases h2 : x = y <;> simp [h1, h2]

theorem ent_neq (a b : Ent) (w : World) : (binOp .neq 75 (.agg #[.string (nm a.key), .int .i64 a.to]) (.agg #[.string (nm b.key), .int .i64 b.to])).run Tryz.prog w = .ok (.bool (!decide (a = b))) w := by
  rw [run_neq_struct, eq59]
  have h : ((nm a.key).toList == (nm b.key).toList && a.to == b.to) = decide (a = b) := by
    rw [listD, listD]
    show (a.key == b.key && a.to == b.to) = _
    obtain ⟨ak, at_⟩ := a
    obtain ⟨bk, bt⟩ := b
    rw [Bool.eq_iff_iff]; simp
  rw [h]; rfl

theorem ents_eq {a b : List Ent} (hl : a.length = b.length) : allTo (fun i => decide (entAt a i = entAt b i)) a.length = decide (a = b) := by
  rw [Bool.eq_iff_iff, allTo_iff]
  constructor
  · intro h
    simp only [decide_eq_true_eq]
    refine List.ext_getElem hl (fun i h1 h2 => ?_)
    have := h i h1
    simpa [entAt, h1, h2] using this
  · intro h i hi
    simp only [decide_eq_true_eq] at h ⊢
    rw [h]
theorem nds_eq {a b : List Nd} (hl : a.length = b.length) : allTo (fun i => decide (ndAt a i = ndAt b i)) a.length = decide (a = b) := by
  rw [Bool.eq_iff_iff, allTo_iff]
  constructor
  · intro h
    simp only [decide_eq_true_eq]
    refine List.ext_getElem hl (fun i h1 h2 => ?_)
    have := h i h1
    simpa [ndAt, h1, h2] using this
  · intro h i hi
    simp only [decide_eq_true_eq] at h ⊢
    rw [h]

/-- It returns a bool; the world has drawn. -/
def QuietB (b : Bool) (w : World) (e : Ending) (w' : World) : Prop := e = .returned (.bool b) ∧ ∃ q, w' = w.drewN q

/-- It returns a bool; what was there before stays. -/
def BelowB (b : Bool) (w : World) (e : Ending) (w' : World) : Prop := e = .returned (.bool b) ∧ Below w.heap.size w w'

end Go.Proofs.YtpicgkoclbpjpaaGreatDoor
end

section
namespace Go.Proofs.YtpicgkoclbpjpaaGreatDoor
open Go.RowKit Go.Sort
open PathM TreeM
set_option linter.unusedVariables false

/-- The entries of all nodes below k, and of the next one's the first q. -/
def preE (l : List Nd) (k q : Nat) : List Ent := flat (l.take k) ++ (ndAt l k).es.take q
theorem pre_cnt (l : List Nd) (id : Int) (k q : Nat) : (preE l k q).countP (fun x => x.to == id) = cntTo l id k q := rfl
theorem pre_step {l : List Nd} {k q : Nat} (h : q < (ndAt l k).es.length) : preE l k (q + 1) = preE l k q ++ [entAt (ndAt l k).es q] := by
  have e : entAt (ndAt l k).es q = (ndAt l k).es[q] := by simp [entAt, h]
  unfold preE
  rw [List.take_succ_eq_append_getElem h, ← List.append_assoc, e]
theorem pre_next {l : List Nd} {k : Nat} (h : k < l.length) : preE l (k + 1) 0 = preE l k (ndAt l k).es.length := by
  unfold preE; rw [flat_take_succ l k h]; simp
theorem pre_end (l : List Nd) : preE l l.length 0 = flat l := by unfold preE; rw [List.take_length]; simp
theorem pre_len {l : List Nd} {k q : Nat} (hk : k < l.length) : (preE l k q).length ≤ (flat l).length := by
  unfold preE
  have h1 : flat l = flat (l.take (k + 1)) ++ flat (l.drop (k + 1)) := by unfold flat; rw [← List.flatMap_append, List.take_append_drop]
  rw [h1, flat_take_succ l k hk]
  simp only [List.length_append, List.length_take]
  omega
def OkP (l : List Nd) (P : List Ent) : Prop := ∀ y ∈ P, place l y.to < l.length ∧ y.to ≠ 1 ∧ ((ndAt l (place l y.to)).kind = 1 → P.countP (fun z => z.to == y.to) ≤ 1)
theorem OkP.snoc {l : List Nd} {P : List Ent} {x : Ent} (h : OkP l P) (h1 : place l x.to < l.length) (h2 : x.to ≠ 1) (h3 : (ndAt l (place l x.to)).kind = 1 → (P ++ [x]).countP (fun z => z.to == x.to) ≤ 1) : OkP l (P ++ [x]) := by
  intro y hy
  rcases List.mem_append.1 hy with hy | hy
  · obtain ⟨g1, g2, g3⟩ := h y hy
    refine ⟨g1, g2, fun hk => ?_⟩
    by_cases e : y.to = x.to
    · rw [e] at hk ⊢; exact h3 hk
    · have : (x.to == y.to) = false := by simpa using fun h => e h.symm
      rw [List.countP_append]; simp [this]; exact g3 hk
  · obtain rfl := List.mem_singleton.1 hy
    exact ⟨h1, h2, h3⟩
theorem OkP.all {l : List Nd} (h : OkP l (flat l)) : ledB l = true := by
  refine List.all_eq_true.2 (fun x hx => ?_)
  obtain ⟨h1, h2, h3⟩ := h x hx
  simp only [okLed, Bool.and_eq_true, decide_eq_true_eq, bne_iff_ne, Bool.or_eq_true]
  refine ⟨⟨h1, h2⟩, ?_⟩
  by_cases e : (ndAt l (place l x.to)).kind = 1
  · exact .inr (h3 e)
  · exact .inl e
theorem led_fail {l : List Nd} {x : Ent} (hx : x ∈ flat l) (h : ¬ (place l x.to < l.length ∧ x.to ≠ 1 ∧ ((ndAt l (place l x.to)).kind = 1 → links l x.to ≤ 1))) : ledB l = false := by
  cases e : ledB l with
  | false => rfl
  | true => exact absurd (led_mem e hx) h
theorem cnt_links {l : List Nd} {id : Int} {k q : Nat} (hk : k < l.length) : cntTo l id k q ≤ links l id := by
  have h1 : flat l = flat (l.take (k + 1)) ++ flat (l.drop (k + 1)) := by unfold flat; rw [← List.flatMap_append, List.take_append_drop]
  unfold cntTo links
  rw [h1, flat_take_succ l k hk, List.countP_append, List.countP_append, List.countP_append]
  have : ((ndAt l k).es.take q).countP (fun x => x.to == id) ≤ (ndAt l k).es.countP (fun x => x.to == id) := (List.take_sublist _ _).countP_le
  omega

/-- What the map holds: how often each number came. -/
def cntF (l : List Nd) (k q : Nat) (id : Int) : Option Int := if cntTo l id k q = 0 then none else some (cntTo l id k q : Int)
theorem cntF_get (l : List Nd) (k q : Nat) (id : Int) : (cntF l k q id).getD 0 = (cntTo l id k q : Int) := by
  unfold cntF; split
  · rename_i h; rw [h]; rfl
  · rfl
theorem cntF_zero (l : List Nd) (id : Int) : cntF l 0 0 id = none := rfl
theorem cntF_step {l : List Nd} {k q : Nat} (h : q < (ndAt l k).es.length) (id : Int) :
    (if id = (entAt (ndAt l k).es q).to then some ((cntTo l (entAt (ndAt l k).es q).to k q : Int) + 1) else cntF l k q id) = cntF l k (q + 1) id := by
  unfold cntF
  rw [cnt_step h]
  by_cases e : id = (entAt (ndAt l k).es q).to
  · subst e; simp
  · have : ¬ (entAt (ndAt l k).es q).to = id := fun h => e h.symm
    simp [e, this]
theorem cntF_next {l : List Nd} {k : Nat} (h : k < l.length) (id : Int) : cntF l (k + 1) 0 id = cntF l k (ndAt l k).es.length id := by unfold cntF; rw [cnt_next h]

theorem MapI.notCells {W : World} {mb n : Nat} {f : Int → Option Int} (h : MapI W mb n f) : ∀ r, some mb = some r → ∃ o : Obj, W.heap[r]? = some o ∧ o.isCells = false := by
  obtain ⟨D, ⟨es, clock, h1, _⟩, _⟩ := h
  intro r e; cases e; exact ⟨_, h1, rfl⟩


theorem cell_alloc_lt {W : World} {a : Addr} {v : Value} {o : Obj} (h : W.cell? a = some v) : (W.alloc o).cell? a = some v := (World.cell?_alloc_lt W o a (World.block_lt_of_cell? _ _ h)).trans h

set_option maxHeartbeats 8000000 in
theorem led_any (nv : Value) (t : Tr) (B : Nat) (w : World) (hN : NodesIn w B nv t.nodes) (hB : B ≤ w.heap.size) (hri : Rising t.nodes) (hne : 0 < t.nodes.length) (hfl : (flat t.nodes).length ≤ 4611686018427387904) :
    Calls Tryz.prog 126 #[trV nv t] w fun e w' => e = .returned (.bool (ledB t.nodes)) ∧ Below w.heap.size w w' := by
  have hFY := fun (id : Int) W (hW : Below w.heap.size w W) (hp : place t.nodes id < t.nodes.length) => find_yes nv t id w.heap.size W ((hN.more hB).below hW) hW.size hri hp
  have hFN := fun (id : Int) W (hW : Below w.heap.size w W) (hp : ¬ place t.nodes id < t.nodes.length) => find_no nv t id w.heap.size W ((hN.more hB).below hW) hW.size hri hne hp
  obtain ⟨hlen, ⟨A, c, rfl, h0⟩ | ⟨b, off, c, rfl, hcap, hb, hpos, hcells⟩⟩ := hN.cases
  · rw [h0] at hne; simp at hne
  unfold trV at hFY hFN ⊢
  obtain ⟨r, hr⟩ : ∃ r, ledB t.nodes = r := ⟨_, rfl⟩
  rw [hr]
  obtain ⟨l, la, rn, rb⟩ := t
  simp only at *
  have hend : OkP l (preE l l.length 0) → r = true := fun h => by rw [← hr]; rw [pre_end] at h; exact h.all
  have hle : ∀ k q, k < l.length → (preE l k q).length ≤ 4611686018427387904 := fun k q hk => Nat.le_trans (pre_len hk) hfl
  have hnx : ∀ k, k < l.length → preE l (k + 1) 0 = preE l k (ndAt l k).es.length := fun k hk => pre_next hk
  have hnf : ∀ k, k < l.length → ∀ id, cntF l (k + 1) 0 id = cntF l k (ndAt l k).es.length id := fun k hk id => cntF_next hk id
  have hbad : ∀ k, k < l.length → ∀ x ∈ (ndAt l k).es, ¬ (place l x.to < l.length ∧ x.to ≠ 1 ∧ ((ndAt l (place l x.to)).kind = 1 → links l x.to ≤ 1)) → r = false := fun k hk x hx h => by
    rw [← hr]; exact led_fail (flat_mem.2 ⟨k, hk, hx⟩) h
  have hcl : ∀ k q id, k < l.length → cntTo l id k q ≤ links l id := fun k q id hk => cnt_links hk
  have hbw : b < w.heap.size := by omega
  generalize hn : l.length = n at *
  have HL := Lib.hid hle; have HX := Lib.hid hnx; have HE := Lib.hid hend; have HC := Lib.hid hcells; have HN := Lib.hid hn; have HNF := Lib.hid hnf; have HBAD := Lib.hid hbad; have HCL := Lib.hid hcl; have HFY := Lib.hid hFY; have HFN := Lib.hid hFN; have HR := Lib.hid hr; have HRI := Lib.hid hri
  clear hle hend hcells hn hN hnx hfl hnf hbad hcl hFY hFN hr hri
  have hmm := @run_makeMap Tryz.prog
  go_enter Tryz.func126, Tryz.ntmps126
  go_wp2
  go_loopw [14] (fun i wr => ∃ k : Nat, k ≤ n ∧ i = .int .i64 k ∧ Hid (OkP l (preE l k 0)) ∧ MapI wr (w.heap.size + 1) (preE l k 0).length (cntF l k 0) ∧ Below (w.heap.size + 1) (w.alloc (.cells #[.slice (some ⟨b, off, none⟩) n c, .int .i64 la, .int .i64 rn, .int .i64 rb] 26)) wr) (fun i _ => n - (intOf i).toNat)
  case atStart =>
    refine ⟨0, by omega, rfl, Lib.hid (fun y hy => by simp [preE, flat] at hy), ?_, (Below.refl _ _).alloc (by simp) _⟩
    have := MapI.made (w.alloc (.cells #[.slice (some ⟨b, off, none⟩) n c, .int .i64 la, .int .i64 rn, .int .i64 rb] 26))
    have h2 := this.congr (g := cntF l 0 0) (fun id => (cntF_zero l id).symm)
    rw [show (preE l 0 0).length = 0 from rfl]
    simpa using h2
  case round =>
    obtain ⟨k, hk, rfl, HOK, hmap, hbel⟩ := hrel
    have HM0 := Lib.hid hmap; have HB0 := Lib.hid hbel
    have t0 : wr.cell? ⟨w.heap.size, 0, none⟩ = some (.slice (some ⟨b, off, none⟩) n c) := (hbel.cell (p := ⟨w.heap.size, 0, none⟩) (by simp)).trans (by simp)
    have hwr : w.heap.size + 1 ≤ wr.heap.size := by have := hbel.size; simpa using this
    have hws : w.heap.size < wr.heap.size := by omega
    have HB2 := Lib.hid (((Below.refl w.heap.size w).alloc (Nat.le_refl _) (.cells #[.slice (some ⟨b, off, none⟩) n c, .int .i64 la, .int .i64 rn, .int .i64 rb] 26)).trans (hbel.mono (by omega)))
    clear hmap hbel
    by_cases hlt : k < n
    · obtain ⟨c0, c1, c2, c3, c4, c5, hdl, ev, c6, hE⟩ : NodeIn wr w.heap.size b (off + k * 7) (ndAt l k) := ((HC.out k hlt).more (B' := w.heap.size) hB).below (by omega) HB2.out
      have hkk : (k : Int) < (n : Int) := by omega
      have hst : ∀ j, j < (ndAt l k).es.length → preE l k (j + 1) = preE l k j ++ [entAt (ndAt l k).es j] := fun j hj => pre_step hj
      have hfs : ∀ j, j < (ndAt l k).es.length → ∀ id, (if id = (entAt (ndAt l k).es j).to then some ((cntTo l (entAt (ndAt l k).es j).to k j : Int) + 1) else cntF l k j id) = cntF l k (j + 1) id := fun j hj id => cntF_step hj id
      have hcs : ∀ j, j < (ndAt l k).es.length → cntTo l (entAt (ndAt l k).es j).to k (j + 1) = cntTo l (entAt (ndAt l k).es j).to k j + 1 := fun j hj => by rw [cnt_step hj, if_pos rfl]
      have HST := Lib.hid hst; have HFS := Lib.hid hfs; have HCS := Lib.hid hcs
      have HX1 := Lib.hid (HX.out k hlt); have HNF1 := Lib.hid (HNF.out k hlt); have HBAD1 := Lib.hid (HBAD.out k hlt)
      clear hst hfs hcs hdl
      generalize hnd : ndAt l k = nd at *
      have HND := Lib.hid hnd
      clear hnd
      obtain ⟨hml, hxr0, ⟨Ae, ce, rfl, he0⟩ | ⟨eb, eo, ce, rfl, hecap, heb, hepos, hec⟩⟩ := hE.cases
      · have hm0 : nd.es.length = 0 := by rw [he0]; rfl
        have HMM := Lib.hid hm0
        clear hE he0 hm0 hxr0
        go_wp2
        refine wp_loop_rounds 1 ?_
        rw [rounds_succ]
        go_wp2
        go_roundw
        case rel => exact ⟨k + 1, by omega, by go_num, Lib.hid (by rw [HX1.out, HMM.out]; exact HOK.out), by rw [HX1.out, HMM.out]; exact (HM0.out.alloc _).congr (fun id => by rw [HNF1.out id, HMM.out]), HB0.out.alloc (by omega) _⟩
        case measure => simp [intOf]; omega
      · have HXR := Lib.hid hxr0
        generalize hm : nd.es.length = m at *
        have HMM := Lib.hid hm
        have HEC : Hid (∀ q, q < m → w.cell? ⟨eb, eo + q * 2, none⟩ = some (.string (nm (entAt nd.es q).key)) ∧ w.cell? ⟨eb, eo + q * 2 + 1, none⟩ = some (.int .i64 (entAt nd.es q).to)) :=
          Lib.hid (fun q hq => ⟨(HB2.out.cell (p := ⟨eb, eo + q * 2, none⟩) heb).symm.trans (hec q hq).1, (HB2.out.cell (p := ⟨eb, eo + q * 2 + 1, none⟩) heb).symm.trans (hec q hq).2⟩)
        clear hm hec hE hxr0
        go_wp2
        obtain ⟨wo, hwo⟩ : ∃ wo, wo = wr := ⟨_, rfl⟩
        go_loopw [21] (fun j w2 => ∃ q : Nat, q ≤ m ∧ j = .int .i64 q ∧ Hid (OkP l (preE l k q)) ∧ MapI w2 (w.heap.size + 1) (preE l k q).length (cntF l k q) ∧ Below (w.heap.size + 1) (w.alloc (.cells #[.slice (some ⟨b, off, none⟩) n c, .int .i64 la, .int .i64 rn, .int .i64 rb] 26)) w2) (fun j _ => m - (intOf j).toNat)
        case atStart => exact ⟨0, by omega, rfl, HOK, HM0.out.alloc _, HB0.out.alloc (by omega) _⟩
        case round =>
          obtain ⟨q, hq, rfl, HOQ, hmap, hbel⟩ := hrel
          clear t0 hwr hws HB2 c0 c1 c2 c3 c4 c5 c6 HM0 HB0
          clear hwo
          have HM := Lib.hid hmap; have HB := Lib.hid hbel
          have t0 : wr.cell? ⟨w.heap.size, 0, none⟩ = some (.slice (some ⟨b, off, none⟩) n c) := (hbel.cell (p := ⟨w.heap.size, 0, none⟩) (by simp)).trans (by simp)
          have t1 : wr.cell? ⟨w.heap.size, 1, none⟩ = some (.int .i64 la) := (hbel.cell (p := ⟨w.heap.size, 1, none⟩) (by simp)).trans (by simp)
          have t2 : wr.cell? ⟨w.heap.size, 2, none⟩ = some (.int .i64 rn) := (hbel.cell (p := ⟨w.heap.size, 2, none⟩) (by simp)).trans (by simp)
          have t3 : wr.cell? ⟨w.heap.size, 3, none⟩ = some (.int .i64 rb) := (hbel.cell (p := ⟨w.heap.size, 3, none⟩) (by simp)).trans (by simp)
          have hwr : w.heap.size + 1 ≤ wr.heap.size := by have := hbel.size; simpa using this
          have hws : w.heap.size < wr.heap.size := by omega
          have hmlt := hmap.lt
          have HB2 := Lib.hid (((Below.refl w.heap.size w).alloc (Nat.le_refl _) (.cells #[.slice (some ⟨b, off, none⟩) n c, .int .i64 la, .int .i64 rn, .int .i64 rb] 26)).trans (hbel.mono (by omega)))
          clear hmap hbel
          by_cases hqt : q < m
          · obtain ⟨ec0, ec1⟩ := HEC.out q hqt
            have d0 : wr.cell? ⟨eb, eo + q * 2, none⟩ = some (.string (nm (entAt nd.es q).key)) := (HB2.out.cell (p := ⟨eb, eo + q * 2, none⟩) heb).trans ec0
            have d1 : wr.cell? ⟨eb, eo + q * 2 + 1, none⟩ = some (.int .i64 (entAt nd.es q).to) := (HB2.out.cell (p := ⟨eb, eo + q * 2 + 1, none⟩) heb).trans ec1
            have hqq : (q : Int) < (m : Int) := by omega
            have hst1 := HST.out q (by omega)
            have hfs1 := HFS.out q (by omega)
            have hcs1 := HCS.out q (by omega)
            have hxm : entAt nd.es q ∈ nd.es := entAt_mem (by rw [HMM.out]; exact hqt)
            have hbad1 := HBAD1.out _ hxm
            have hxr : -9223372036854775808 ≤ (entAt nd.es q).to ∧ (entAt nd.es q).to ≤ 9223372036854775807 := (HXR.out _ hxm).2
            have hlN := HL.out k q hlt
            have hle1 : cntTo l (entAt nd.es q).to k q ≤ (preE l k q).length := List.countP_le_length
            have hcl := HCL.out k (q + 1) (entAt nd.es q).to hlt
            rw [hcs1] at hcl
            have hcp : (preE l k q ++ [entAt nd.es q]).countP (fun z => z.to == (entAt nd.es q).to) = cntTo l (entAt nd.es q).to k q + 1 := by rw [← hst1]; exact hcs1
            have hok2 : place l (entAt nd.es q).to < n → (entAt nd.es q).to ≠ 1 → ((ndAt l (place l (entAt nd.es q).to)).kind = 1 → cntTo l (entAt nd.es q).to k q + 1 ≤ 1) → OkP l (preE l k (q + 1)) := fun g1 g2 g3 => by
              rw [hst1]; exact HOQ.out.snoc (by rw [HN.out]; exact g1) g2 (fun g => by rw [hcp]; exact g3 g)
            have hlen2 : (preE l k (q + 1)).length = (preE l k q).length + 1 := by rw [hst1]; simp
            have HL2 := Lib.hid hlen2; have HF2 := Lib.hid hfs1
            have hy := HFY.out (entAt nd.es q).to; have hno := HFN.out (entAt nd.es q).to
            clear hst1 hfs1 hcs1 hxm hcp hlen2 ec0 ec1
            generalize hN0 : (preE l k q).length = N0 at *
            generalize hcnt : cntTo l (entAt nd.es q).to k q = cnt at *
            generalize entAt nd.es q = x at *
            have HY := Lib.hid hy; have HNo := Lib.hid hno; have HCN := Lib.hid hcnt; have HN0 := Lib.hid hN0
            clear hN0 hy hno hcnt
            have hAl := Lib.hid (HB2.out.alloc (o := .cells #[.string (nm x.key), .int .i64 x.to] 75) (by omega))
            by_cases hp : place l x.to < n
            · have HYY := Lib.hid (fun W hW => HY.out W hW hp)
              have kc0 := (HC.out _ hp).2.1
              have kc : wr.cell? ⟨b, off + place l x.to * 7 + 1, none⟩ = some (.int .i64 (ndAt l (place l x.to)).kind) := (HB2.out.cell (p := ⟨b, off + place l x.to * 7 + 1, none⟩) (show b < w.heap.size by omega)).trans kc0
              clear kc0
              generalize hkd : (ndAt l (place l x.to)).kind = kd at *
              generalize hpl : place l x.to = p at *
              have hpp : (p : Int) < (n : Int) := by omega
              clear hkd hpl HY HNo
              by_cases h1 : x.to = 1
              · have HO := Lib.hid (hbad1 (fun h => h.2.1 h1))
                have q1 : (x.to == 1) = true := by simpa using h1
                clear hbad1 hok2 h1 hcl
                go_wp2_with fail
                refine (HYY.out _ hAl.out).mono ?_
                rintro e w1 ⟨rfl, hb1⟩; have hm1 := (HM.out.alloc (.cells #[.string (nm x.key), .int .i64 x.to] 75)).below hb1 (by simp; omega); have hlk := hm1.look x.to hxr; rw [cntF_get, HCN.out] at hlk; have x1 : w1.cell? ⟨wr.heap.size, 1, none⟩ = some (.int .i64 x.to) := (hb1.cell (p := ⟨wr.heap.size, 1, none⟩) (by simp)).trans (by simp); have v0 : w1.cell? ⟨w.heap.size, 0, none⟩ = some (.slice (some ⟨b, off, none⟩) n c) := (hb1.cell (p := ⟨w.heap.size, 0, none⟩) (by simp; omega)).trans (cell_alloc_lt t0); have HM1 := Lib.hid hm1; have HB1 := Lib.hid hb1; clear hm1; have kc1 : w1.cell? ⟨b, off + p * 7 + 1, none⟩ = some (.int .i64 kd) := (hb1.cell (p := ⟨b, off + p * 7 + 1, none⟩) (by simp; omega)).trans (cell_alloc_lt kc)
                go_wp2_with (at_mapUpdate; refine wpList_put _ rfl _ _ _ rfl (w.heap.size + 1) N0 (cntF l k q) rfl HM1.out (by unfold maxLen; omega) x.to ((cnt : Int) + 1) rfl rfl hxr (by omega) ?_; intro w2 hm2 hg2; have y1 := cell_kept x1 hg2 HM1.out.notCells; have u0 := cell_kept v0 hg2 HM1.out.notCells; have hlk2 := hm2.look x.to hxr; rw [if_pos rfl, Option.getD_some] at hlk2; have HM2 := Lib.hid hm2; have HG2 := Lib.hid hg2; have HBB := Lib.hid (((HB2.out.alloc (by omega) (.cells #[.string (nm x.key), .int .i64 x.to] 75)).trans (HB1.out.mono (by simp; omega))).grown hg2 (by have := HB1.out.size; simp at this; omega) (fun j hj => by cases hj; omega)); have HBC := Lib.hid (((HB.out.alloc (by omega) (.cells #[.string (nm x.key), .int .i64 x.to] 75)).trans (HB1.out.mono (by simp; omega))).grown hg2 (by have := HB1.out.size; simp at this; omega) (fun j hj => by cases hj; omega)); clear hm2 hg2; have kc2 := cell_kept kc1 HG2.out HM1.out.notCells)
                go_ret
                exact ⟨ret_bool HO.out.symm, HBB.out⟩
              · have q1 : (x.to == 1) = false := by simpa using h1
                by_cases hk1 : kd = 1
                · have q2 : (kd == 1) = true := by simpa using hk1
                  by_cases hc : cnt + 1 ≤ 1
                  · have HO := Lib.hid (hok2 hp h1 (fun _ => hc))
                    have g1 : decide ((1 : Int) < (cnt : Int) + 1) = false := by simp; omega
                    have g2 : decide ((0 : Int) < (cnt : Int)) = false := by simp; omega
                    have g3 : decide (0 < cnt) = false := by simp; omega
                    clear hbad1 hok2 h1 hcl hc hk1
                    go_wp2_with fail
                    refine (HYY.out _ hAl.out).mono ?_
                    rintro e w1 ⟨rfl, hb1⟩; have hm1 := (HM.out.alloc (.cells #[.string (nm x.key), .int .i64 x.to] 75)).below hb1 (by simp; omega); have hlk := hm1.look x.to hxr; rw [cntF_get, HCN.out] at hlk; have x1 : w1.cell? ⟨wr.heap.size, 1, none⟩ = some (.int .i64 x.to) := (hb1.cell (p := ⟨wr.heap.size, 1, none⟩) (by simp)).trans (by simp); have v0 : w1.cell? ⟨w.heap.size, 0, none⟩ = some (.slice (some ⟨b, off, none⟩) n c) := (hb1.cell (p := ⟨w.heap.size, 0, none⟩) (by simp; omega)).trans (cell_alloc_lt t0); have HM1 := Lib.hid hm1; have HB1 := Lib.hid hb1; clear hm1; have kc1 : w1.cell? ⟨b, off + p * 7 + 1, none⟩ = some (.int .i64 kd) := (hb1.cell (p := ⟨b, off + p * 7 + 1, none⟩) (by simp; omega)).trans (cell_alloc_lt kc)
                    go_wp2_with (at_mapUpdate; refine wpList_put _ rfl _ _ _ rfl (w.heap.size + 1) N0 (cntF l k q) rfl HM1.out (by unfold maxLen; omega) x.to ((cnt : Int) + 1) rfl rfl hxr (by omega) ?_; intro w2 hm2 hg2; have y1 := cell_kept x1 hg2 HM1.out.notCells; have u0 := cell_kept v0 hg2 HM1.out.notCells; have hlk2 := hm2.look x.to hxr; rw [if_pos rfl, Option.getD_some] at hlk2; have HM2 := Lib.hid hm2; have HG2 := Lib.hid hg2; have HBB := Lib.hid (((HB2.out.alloc (by omega) (.cells #[.string (nm x.key), .int .i64 x.to] 75)).trans (HB1.out.mono (by simp; omega))).grown hg2 (by have := HB1.out.size; simp at this; omega) (fun j hj => by cases hj; omega)); have HBC := Lib.hid (((HB.out.alloc (by omega) (.cells #[.string (nm x.key), .int .i64 x.to] 75)).trans (HB1.out.mono (by simp; omega))).grown hg2 (by have := HB1.out.size; simp at this; omega) (fun j hj => by cases hj; omega)); clear hm2 hg2; have kc2 := cell_kept kc1 HG2.out HM1.out.notCells)
                    go_roundw
                    case rel => exact ⟨q + 1, by omega, by go_num, HO, by rw [HL2.out]; exact HM2.out.congr HF2.out, HBC.out⟩
                    case measure => simp [intOf]; omega
                  · have HO := Lib.hid (hbad1 (fun h => hc (Nat.le_trans hcl (h.2.2 hk1))))
                    have g1 : decide ((1 : Int) < (cnt : Int) + 1) = true := by simp; omega
                    have g2 : decide ((0 : Int) < (cnt : Int)) = true := by simp; omega
                    have g3 : decide (0 < cnt) = true := by simp; omega
                    clear hbad1 hok2 h1 hcl hc hk1
                    go_wp2_with fail
                    refine (HYY.out _ hAl.out).mono ?_
                    rintro e w1 ⟨rfl, hb1⟩; have hm1 := (HM.out.alloc (.cells #[.string (nm x.key), .int .i64 x.to] 75)).below hb1 (by simp; omega); have hlk := hm1.look x.to hxr; rw [cntF_get, HCN.out] at hlk; have x1 : w1.cell? ⟨wr.heap.size, 1, none⟩ = some (.int .i64 x.to) := (hb1.cell (p := ⟨wr.heap.size, 1, none⟩) (by simp)).trans (by simp); have v0 : w1.cell? ⟨w.heap.size, 0, none⟩ = some (.slice (some ⟨b, off, none⟩) n c) := (hb1.cell (p := ⟨w.heap.size, 0, none⟩) (by simp; omega)).trans (cell_alloc_lt t0); have HM1 := Lib.hid hm1; have HB1 := Lib.hid hb1; clear hm1; have kc1 : w1.cell? ⟨b, off + p * 7 + 1, none⟩ = some (.int .i64 kd) := (hb1.cell (p := ⟨b, off + p * 7 + 1, none⟩) (by simp; omega)).trans (cell_alloc_lt kc)
                    go_wp2_with (at_mapUpdate; refine wpList_put _ rfl _ _ _ rfl (w.heap.size + 1) N0 (cntF l k q) rfl HM1.out (by unfold maxLen; omega) x.to ((cnt : Int) + 1) rfl rfl hxr (by omega) ?_; intro w2 hm2 hg2; have y1 := cell_kept x1 hg2 HM1.out.notCells; have u0 := cell_kept v0 hg2 HM1.out.notCells; have hlk2 := hm2.look x.to hxr; rw [if_pos rfl, Option.getD_some] at hlk2; have HM2 := Lib.hid hm2; have HG2 := Lib.hid hg2; have HBB := Lib.hid (((HB2.out.alloc (by omega) (.cells #[.string (nm x.key), .int .i64 x.to] 75)).trans (HB1.out.mono (by simp; omega))).grown hg2 (by have := HB1.out.size; simp at this; omega) (fun j hj => by cases hj; omega)); have HBC := Lib.hid (((HB.out.alloc (by omega) (.cells #[.string (nm x.key), .int .i64 x.to] 75)).trans (HB1.out.mono (by simp; omega))).grown hg2 (by have := HB1.out.size; simp at this; omega) (fun j hj => by cases hj; omega)); clear hm2 hg2; have kc2 := cell_kept kc1 HG2.out HM1.out.notCells)
                    go_ret
                    exact ⟨ret_bool HO.out.symm, HBB.out⟩
                · have q2 : (kd == 1) = false := by simpa using hk1
                  have HO := Lib.hid (hok2 hp h1 (fun h => absurd h hk1))
                  clear hbad1 hok2 h1 hcl hk1
                  go_wp2_with fail
                  refine (HYY.out _ hAl.out).mono ?_
                  rintro e w1 ⟨rfl, hb1⟩; have hm1 := (HM.out.alloc (.cells #[.string (nm x.key), .int .i64 x.to] 75)).below hb1 (by simp; omega); have hlk := hm1.look x.to hxr; rw [cntF_get, HCN.out] at hlk; have x1 : w1.cell? ⟨wr.heap.size, 1, none⟩ = some (.int .i64 x.to) := (hb1.cell (p := ⟨wr.heap.size, 1, none⟩) (by simp)).trans (by simp); have v0 : w1.cell? ⟨w.heap.size, 0, none⟩ = some (.slice (some ⟨b, off, none⟩) n c) := (hb1.cell (p := ⟨w.heap.size, 0, none⟩) (by simp; omega)).trans (cell_alloc_lt t0); have HM1 := Lib.hid hm1; have HB1 := Lib.hid hb1; clear hm1; have kc1 : w1.cell? ⟨b, off + p * 7 + 1, none⟩ = some (.int .i64 kd) := (hb1.cell (p := ⟨b, off + p * 7 + 1, none⟩) (by simp; omega)).trans (cell_alloc_lt kc)
                  go_wp2_with (at_mapUpdate; refine wpList_put _ rfl _ _ _ rfl (w.heap.size + 1) N0 (cntF l k q) rfl HM1.out (by unfold maxLen; omega) x.to ((cnt : Int) + 1) rfl rfl hxr (by omega) ?_; intro w2 hm2 hg2; have y1 := cell_kept x1 hg2 HM1.out.notCells; have u0 := cell_kept v0 hg2 HM1.out.notCells; have hlk2 := hm2.look x.to hxr; rw [if_pos rfl, Option.getD_some] at hlk2; have HM2 := Lib.hid hm2; have HG2 := Lib.hid hg2; have HBB := Lib.hid (((HB2.out.alloc (by omega) (.cells #[.string (nm x.key), .int .i64 x.to] 75)).trans (HB1.out.mono (by simp; omega))).grown hg2 (by have := HB1.out.size; simp at this; omega) (fun j hj => by cases hj; omega)); have HBC := Lib.hid (((HB.out.alloc (by omega) (.cells #[.string (nm x.key), .int .i64 x.to] 75)).trans (HB1.out.mono (by simp; omega))).grown hg2 (by have := HB1.out.size; simp at this; omega) (fun j hj => by cases hj; omega)); clear hm2 hg2; have kc2 := cell_kept kc1 HG2.out HM1.out.notCells)
                  go_roundw
                  case rel => exact ⟨q + 1, by omega, by go_num, HO, by rw [HL2.out]; exact HM2.out.congr HF2.out, HBC.out⟩
                  case measure => simp [intOf]; omega
            · have HYY := Lib.hid (fun W hW => HNo.out W hW hp)
              have HO := Lib.hid (hbad1 (fun h => hp h.1))
              clear hbad1 hok2 hcl HY HNo hp
              generalize low l x.to = lw at *
              go_wp2_with fail
              refine (HYY.out _ hAl.out).mono ?_
              rintro e w1 ⟨rfl, hb1⟩; have hm1 := (HM.out.alloc (.cells #[.string (nm x.key), .int .i64 x.to] 75)).below hb1 (by simp; omega); have hlk := hm1.look x.to hxr; rw [cntF_get, HCN.out] at hlk; have x1 : w1.cell? ⟨wr.heap.size, 1, none⟩ = some (.int .i64 x.to) := (hb1.cell (p := ⟨wr.heap.size, 1, none⟩) (by simp)).trans (by simp); have v0 : w1.cell? ⟨w.heap.size, 0, none⟩ = some (.slice (some ⟨b, off, none⟩) n c) := (hb1.cell (p := ⟨w.heap.size, 0, none⟩) (by simp; omega)).trans (cell_alloc_lt t0); have HM1 := Lib.hid hm1; have HB1 := Lib.hid hb1; clear hm1
              go_wp2_with (at_mapUpdate; refine wpList_put _ rfl _ _ _ rfl (w.heap.size + 1) N0 (cntF l k q) rfl HM1.out (by unfold maxLen; omega) x.to ((cnt : Int) + 1) rfl rfl hxr (by omega) ?_; intro w2 hm2 hg2; have y1 := cell_kept x1 hg2 HM1.out.notCells; have u0 := cell_kept v0 hg2 HM1.out.notCells; have hlk2 := hm2.look x.to hxr; rw [if_pos rfl, Option.getD_some] at hlk2; have HM2 := Lib.hid hm2; have HG2 := Lib.hid hg2; have HBB := Lib.hid (((HB2.out.alloc (by omega) (.cells #[.string (nm x.key), .int .i64 x.to] 75)).trans (HB1.out.mono (by simp; omega))).grown hg2 (by have := HB1.out.size; simp at this; omega) (fun j hj => by cases hj; omega)); have HBC := Lib.hid (((HB.out.alloc (by omega) (.cells #[.string (nm x.key), .int .i64 x.to] 75)).trans (HB1.out.mono (by simp; omega))).grown hg2 (by have := HB1.out.size; simp at this; omega) (fun j hj => by cases hj; omega)); clear hm2 hg2)
              go_ret
              exact ⟨ret_bool HO.out.symm, HBB.out⟩
          · have hqm : q = m := by omega
            have H1 : Hid (preE l (k + 1) 0 = preE l k q) := Lib.hid (by rw [hqm]; exact HX1.out)
            have H2 : Hid (∀ id, cntF l (k + 1) 0 id = cntF l k q id) := Lib.hid (fun id => by rw [hqm]; exact HNF1.out id)
            clear hqm
            go_wp2
            go_roundw
            case rel => exact ⟨k + 1, by omega, by go_num, Lib.hid (by rw [H1.out]; exact HOQ.out), by rw [H1.out]; exact HM.out.congr (fun id => (H2.out id).symm), HB.out⟩
            case measure => simp [intOf]; omega
    · have hkn : k = n := by omega
      have HO := Lib.hid (HE.out (by rw [← hkn]; exact HOK.out))
      clear hkn
      go_wp2
      go_ret
      exact ⟨ret_bool HO.out.symm, HB2.out⟩

end Go.Proofs.YtpicgkoclbpjpaaGreatDoor
end
