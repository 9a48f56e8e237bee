/- DERIVED. Walks: find and Child of package tree. -/
import Derived.Test.YtkmnbbocahjmaaaGreatDoorTreeMem
import Derived.Shelf.SlSorted.Search
namespace Go.Proofs.YtkmnbbocahjmaaaGreatDoor
open Go.RowKit Go.Shelf Go.Lib Go.Sort
open PathM TreeM
set_option linter.unusedVariables false

set_option maxHeartbeats 1000000 in
theorem find1_any (i n c b off bt bx : Nat) (id idi : Int) (W : World) (hi : i < n) (hn : n ≤ 140737488351232)
    (ht : W.cell? ⟨bt, 0, none⟩ = some (.slice (some ⟨b, off, none⟩) n c)) (hx : W.cell? ⟨bx, 0, none⟩ = some (.int .i64 id)) (hc : W.cell? ⟨b, off + i * 7, none⟩ = some (.int .i64 idi)) :
    Calls Tryz.prog 157 #[.int .i64 i, .pointer (some ⟨bt, 0, none⟩), .pointer (some ⟨bx, 0, none⟩)] W fun e w' => e = .returned (.bool (decide (id ≤ idi))) ∧ ∃ q, w' = W.drewN q := by
  have hiz : (i : Int) < (n : Int) := by omega
  go_enter Tryz.func157, Tryz.ntmps157
  go_wp2
  go_quiet (fail)
  go_wp2
  go_ret
  exact ⟨rfl, _, rfl⟩

set_option maxHeartbeats 4000000 in
set_option maxRecDepth 1000000 in
theorem search_any (g : Nat) (cb : Array Value) (n : Nat) (p : Nat → Bool) (w : World) (eg : ∀ args w, (callFunc g args).run Tryz.prog w = .ok (.enter g args) w) (hsz : n < 4611686018427387904)
    (hf : ∀ (m i : Nat), i < n → Calls Tryz.prog g (#[.int .i64 i] ++ cb) (w.drewN m) fun e w' => e = .returned (.bool (p i)) ∧ ∃ q, w' = (w.drewN m).drewN q)
    (hmono : ∀ a b, a ≤ b → b < n → p a = true → p b = true) :
    Calls Tryz.prog 71 #[.int .i64 n, .func (.func g) #[] cb] w fun e w' => e = .returned (.int .i64 ((List.range n).countP (fun i => !p i) : Nat)) ∧ ∃ q, w' = w.drewN q := by
  have HF := Lib.hid hf
  have M := Lib.hid hmono
  clear hf hmono
  generalize hcnt : (List.range n).countP (fun i => !p i) = cnt
  have CN := Lib.hid hcnt
  clear hcnt
  go_enter Tryz.func71, Tryz.ntmps71
  go_wp2
  go_loopg [5, 6] n (fun kx s5 s6 wr => ∃ (lo hi q : Nat), s5 = .int .i64 lo ∧ s6 = .int .i64 hi ∧ lo ≤ hi ∧ hi ≤ n ∧ hi - lo ≤ kx ∧ wr = w.drewN q ∧
    Hid ((∀ t, t < lo → p t = false) ∧ (∀ t, hi ≤ t → t < n → p t = true)))
  case atStart => exact ⟨0, n, 0, rfl, rfl, Nat.zero_le _, Nat.le_refl _, by omega, rfl, (⟨fun t ht => absurd ht (Nat.not_lt_zero _), fun t h1 h2 => by omega⟩ : (∀ t, t < 0 → p t = false) ∧ (∀ t, n ≤ t → t < n → p t = true))⟩
  case round =>
    obtain ⟨lo, hi, q, rfl, rfl, hlh, hin, hg, rfl, I⟩ := hrel
    by_cases hlt : lo < hi
    · have hc := HF.out q ((lo + hi) / 2) (by omega)
      rw [show (((lo + hi) / 2 : Nat) : Int) = ((lo : Int) + (hi : Int)) / 2 by omega] at hc
      cases hp : p ((lo + hi) / 2) <;> rw [hp] at hc
      · have HP := Lib.hid hp
        clear hp
        go_wp2_with (go_at_fn g; refine hc.mono ?_; rintro e w' ⟨rfl, nq, rfl⟩)
        go_roundg (hi - ((lo + hi) / 2 + 1))
        case measure => omega
        case rel =>
          have I2 : Hid ((∀ t, t < (lo + hi) / 2 + 1 → p t = false) ∧ (∀ t, hi ≤ t → t < n → p t = true)) := ⟨fun t ht => (by
            cases h : p t with
            | false => rfl
            | true => have := M.out t ((lo + hi) / 2) (by omega) (by omega) h; rw [HP.out] at this; cases this), I.out.2⟩
          exact ⟨(lo + hi) / 2 + 1, hi, q + nq, by rw [show ((lo : Int) + (hi : Int)) / 2 + 1 = (((lo + hi) / 2 + 1 : Nat) : Int) by omega], rfl, by omega, hin, Nat.le_refl _, rfl, I2⟩
      · have HP := Lib.hid hp
        clear hp
        go_wp2_with (go_at_fn g; refine hc.mono ?_; rintro e w' ⟨rfl, nq, rfl⟩)
        go_roundg ((lo + hi) / 2 - lo)
        case measure => omega
        case rel =>
          have I2 : Hid ((∀ t, t < lo → p t = false) ∧ (∀ t, (lo + hi) / 2 ≤ t → t < n → p t = true)) := ⟨I.out.1, fun t ht htn => M.out ((lo + hi) / 2) t ht htn HP.out⟩
          exact ⟨lo, (lo + hi) / 2, q + nq, rfl, by rw [show ((lo : Int) + (hi : Int)) / 2 = (((lo + hi) / 2 : Nat) : Int) by omega], by omega, by omega, Nat.le_refl _, rfl, I2⟩
    · obtain rfl : hi = lo := by omega
      have ecnt : cnt = hi := by
        rw [← CN.out]
        have hr : ∀ t, t < n → (List.range n)[t]! = t := fun t ht => by rw [getElem!_pos _ t (by simpa using ht)]; simp
        refine Lib.countP_boundary _ (List.range n) hi (by simpa using hin) (fun t ht => ?_) (fun t h3 h4 => ?_)
        · rw [hr t (by omega), I.out.1 t ht]; rfl
        · rw [hr t (by simpa using h4), I.out.2 t h3 (by simpa using h4)]; rfl
      subst ecnt
      go_wp2
      go_ret
      exact ⟨rfl, q, rfl⟩

/-- What find answers. -/
def FindPost (l : List Nd) (id : Int) (w : World) (e : Ending) (w' : World) : Prop :=
  e = .returned (.tuple #[.int .i64 (low l id), .bool (decide (low l id < l.length ∧ (ndAt l (low l id)).id = id))]) ∧ Below w.heap.size w w'
theorem ret_ib {a b : Int} {x y : Bool} (h1 : a = b) (h2 : x = y) : Ending.returned (.tuple #[.int .i64 a, .bool x]) = .returned (.tuple #[.int .i64 b, .bool y]) := by rw [h1, h2]

set_option maxHeartbeats 2000000 in
theorem find_any (nv : Value) (t : Tr) (id : Int) (B : Nat) (w : World) (hN : NodesIn w B nv t.nodes) (hB : B ≤ w.heap.size) (hr : Rising t.nodes) (hne : 0 < t.nodes.length) :
    Calls Tryz.prog 148 #[trV nv t, .int .i64 id] w (FindPost t.nodes id w) := by
  obtain ⟨hlen, ⟨A, c, rfl, h0⟩ | ⟨b, off, c, rfl, hcap, hb, _, hcells⟩⟩ := hN.cases
  · rw [h0] at hne; simp at hne
  unfold FindPost trV
  have hle := low_le t.nodes id
  have hlow : ((List.range t.nodes.length).countP fun i => !decide (id ≤ (ndAt t.nodes i).id)) = low t.nodes id := rfl
  have hmono : ∀ a b, a ≤ b → b < t.nodes.length → decide (id ≤ (ndAt t.nodes a).id) = true → decide (id ≤ (ndAt t.nodes b).id) = true := by
    intro a b hab hbl h
    have := low_mono hr id a b hab hbl
    cases e : decide (id ≤ (ndAt t.nodes b).id) with
    | true => rfl
    | false => rw [e] at this; have h2 := this rfl; rw [h] at h2; cases h2
  have hS : ∀ W0 : World, w.heap.size ≤ W0.heap.size → Below w.heap.size w W0 → ∀ bt bx, W0.cell? ⟨bt, 0, none⟩ = some (.slice (some ⟨b, off, none⟩) t.nodes.length c) → W0.cell? ⟨bx, 0, none⟩ = some (.int .i64 id) →
      Calls Tryz.prog 71 #[.int .i64 t.nodes.length, .func (.func 157) #[] #[.pointer (some ⟨bt, 0, none⟩), .pointer (some ⟨bx, 0, none⟩)]] W0 fun e w' => e = .returned (.int .i64 (low t.nodes id)) ∧ ∃ q, w' = W0.drewN q := by
    intro W0 _ hb0 bt bx c1 c2
    rw [← hlow]
    refine search_any 157 _ t.nodes.length (fun i => decide (id ≤ (ndAt t.nodes i).id)) W0 (enters_of Tryz.func157 (by kernel_rfl) rfl) (by omega) ?_ hmono
    intro m i hi
    refine (find1_any i t.nodes.length c b off bt bx id (ndAt t.nodes i).id (W0.drewN m) hi hlen (by simpa using c1) (by simpa using c2) ?_)
    have := (hcells i hi).1
    rw [← hb0.cell (p := ⟨b, off + i * 7, none⟩) (show b < w.heap.size by omega)] at this
    simpa using this
  generalize low t.nodes id = k at hS hle ⊢
  have hlast : k < t.nodes.length → w.cell? ⟨b, off + k * 7, none⟩ = some (.int .i64 (ndAt t.nodes k).id) := fun h => (hcells k h).1
  generalize (ndAt t.nodes k).id = idk at hlast ⊢
  generalize t.nodes.length = n at *
  generalize t.last = la at *
  generalize t.rn = rn at *
  generalize t.rb = rb at *
  have HS := Lib.hid hS
  clear hS hcells hlow hmono hN hr
  by_cases hk : k < n
  · have hc0 := hlast hk
    have hd : decide ((k : Int) < (n : Int)) = true := by simp; exact hk
    have hbw : b < w.heap.size := by omega
    have hki : (k : Int) < (n : Int) := by omega
    clear hlast
    go_enter Tryz.func148, Tryz.ntmps148
    go_wp2_with (go_at_call 71; refine (HS.out _ (by simp; omega) (((Below.refl _ _).alloc (Nat.le_refl _) _).alloc (by simp) _) _ _ (by simp) (by simp)).mono ?_; rintro e w' ⟨rfl, q, rfl⟩)
    go_quiet (fail)
    go_wp2
    go_ret2
    exact ⟨ret_ib rfl (by rw [Bool.eq_iff_iff]; simp [hk]), below_drewN' (below_drewN' (((Below.refl _ _).alloc (Nat.le_refl _) _).alloc (by simp) _) _) _⟩
  · have hd : decide ((k : Int) < (n : Int)) = false := by simp; omega
    clear hlast
    go_enter Tryz.func148, Tryz.ntmps148
    go_wp2_with (go_at_call 71; refine (HS.out _ (by simp; omega) (((Below.refl _ _).alloc (Nat.le_refl _) _).alloc (by simp) _) _ _ (by simp) (by simp)).mono ?_; rintro e w' ⟨rfl, q, rfl⟩)
    go_quiet (fail)
    go_wp2
    go_ret2
    exact ⟨ret_ib rfl (by rw [Bool.eq_iff_iff]; simp [hk]), below_drewN' (below_drewN' (((Below.refl _ _).alloc (Nat.le_refl _) _).alloc (by simp) _) _) _⟩

/-- A node as a value: its seven cells. -/
def ndV (ev : Value) (n : Nd) : Value := .agg #[.int .i64 n.id, .int .i64 n.kind, .int .i64 n.mode, .int .i64 n.owner, .int .i64 n.time, .string (nm n.data), ev]

set_option maxHeartbeats 1000000 in
theorem child1_any (i n c b off bt bx : Nat) (key : ByteArray) (k2 : Bs) (n0 n1 n2 n3 n4 n5 : Value) (W : World) (hi : i < n) (hn : n * 24 ≤ 140737488351232)
    (ht : W.cell? ⟨bt, 6, none⟩ = some (.slice (some ⟨b, off, none⟩) n c)) (hx : W.cell? ⟨bx, 0, none⟩ = some (.string key)) (hc : W.cell? ⟨b, off + i * 2, none⟩ = some (.string (nm k2))) :
    Calls Tryz.prog 208 #[.int .i64 i, .pointer (some ⟨bt, 0, none⟩), .pointer (some ⟨bx, 0, none⟩)] W fun e w' => e = .returned (.bool (!decide (k2 < key.data.toList))) ∧ ∃ q, w' = W.drewN q := by
  have hiz : (i : Int) < (n : Int) := by omega
  go_enter Tryz.func208, Tryz.ntmps208
  go_wp2
  go_quiet (fail)
  go_wp2
  go_ret
  exact ⟨by show Ending.returned (.bool !Op.bytesLess (nm k2).toList key.toList) = _; rw [bytesLess_eq, listD, listD]; rfl, _, rfl⟩

/-- What Child answers. -/
def ChildPost (o : Option Int) (w : World) (e : Ending) (w' : World) : Prop :=
  e = .returned (.tuple #[.int .i64 (o.getD 0), .bool o.isSome]) ∧ Below w.heap.size w w'

set_option maxHeartbeats 2000000 in
theorem child_any (ev : Value) (nd : Nd) (key : ByteArray) (B : Nat) (w : World) (hE : EntsIn w B ev nd.es) (hB : B ≤ w.heap.size) (hs : Sorted nd.es) :
    Calls Tryz.prog 207 #[ndV ev nd, .string key] w (ChildPost (childO nd.es key.data.toList) w) := by
  rw [klow_child hs]
  unfold ChildPost ndV
  have hle := klow_le nd.es key.data.toList
  have hlow : ((List.range nd.es.length).countP fun i => !(!decide ((entAt nd.es i).key < key.data.toList))) = klow nd.es key.data.toList := rfl
  obtain ⟨hlen, _, ⟨A, c, rfl, h0⟩ | ⟨b, off, c, rfl, hcap, hb, hpos, hcells⟩⟩ := hE.cases
  · rw [h0] at hle hlow ⊢
    have hz : klow [] key.data.toList = 0 := rfl
    rw [hz, if_pos (.inl rfl)]
    have HS : Hid (∀ W0 : World, ∀ bt bx, Calls Tryz.prog 71 #[.int .i64 (0 : Int), .func (.func 208) #[] #[.pointer (some ⟨bt, 0, none⟩), .pointer (some ⟨bx, 0, none⟩)]] W0 fun e w' => e = .returned (.int .i64 0) ∧ ∃ q, w' = W0.drewN q) := by
      intro W0 bt bx
      exact search_any 208 _ 0 (fun i => false) W0 (enters_of Tryz.func208 (by kernel_rfl) rfl) (by omega) (fun m i hi => absurd hi (Nat.not_lt_zero _)) (fun a b _ h => absurd h (Nat.not_lt_zero _))
    clear hle hlow hs hE h0 hz
    generalize nm nd.data = da
    go_enter Tryz.func207, Tryz.ntmps207
    go_wp2_with (go_at_call 71; refine (HS.out _ _ _).mono ?_; rintro e w' ⟨rfl, q, rfl⟩)
    go_quiet (fail)
    go_wp2
    go_ret2
    exact ⟨rfl, by first | exact below_drewN' (((Below.refl _ _).alloc (Nat.le_refl _) _).alloc (by simp) _) _ | exact below_drewN' (below_drewN' (((Below.refl _ _).alloc (Nat.le_refl _) _).alloc (by simp) _) _) _⟩
  have hmono : ∀ a b, a ≤ b → b < nd.es.length → (!decide ((entAt nd.es a).key < key.data.toList)) = true → (!decide ((entAt nd.es b).key < key.data.toList)) = true := by
    intro a b hab hbl h
    have := klow_mono hs key.data.toList a b hab hbl
    cases e : (!decide ((entAt nd.es b).key < key.data.toList)) with
    | true => rfl
    | false => rw [e] at this; have h2 := this rfl; rw [h] at h2; cases h2
  have hS : ∀ W0 : World, w.heap.size ≤ W0.heap.size → Below w.heap.size w W0 → ∀ bt bx, W0.cell? ⟨bt, 6, none⟩ = some (.slice (some ⟨b, off, none⟩) nd.es.length c) → W0.cell? ⟨bx, 0, none⟩ = some (.string key) →
      Calls Tryz.prog 71 #[.int .i64 nd.es.length, .func (.func 208) #[] #[.pointer (some ⟨bt, 0, none⟩), .pointer (some ⟨bx, 0, none⟩)]] W0 fun e w' => e = .returned (.int .i64 (klow nd.es key.data.toList)) ∧ ∃ q, w' = W0.drewN q := by
    intro W0 _ hb0 bt bx c1 c2
    rw [← hlow]
    refine search_any 208 _ nd.es.length (fun i => !decide ((entAt nd.es i).key < key.data.toList)) W0 (enters_of Tryz.func208 (by kernel_rfl) rfl) (by omega) ?_ hmono
    intro m i hi
    refine (child1_any i nd.es.length c b off bt bx key (entAt nd.es i).key (.int .i64 0) (.int .i64 0) (.int .i64 0) (.int .i64 0) (.int .i64 0) (.int .i64 0) (W0.drewN m) hi hlen (by simpa using c1) (by simpa using c2) ?_)
    have := (hcells i hi).1
    rw [← hb0.cell (p := ⟨b, off + i * 2, none⟩) (show b < w.heap.size by omega)] at this
    simpa using this
  generalize klow nd.es key.data.toList = k at hS hle ⊢
  have hlast : k < nd.es.length → w.cell? ⟨b, off + k * 2, none⟩ = some (.string (nm (entAt nd.es k).key)) ∧ w.cell? ⟨b, off + k * 2 + 1, none⟩ = some (.int .i64 (entAt nd.es k).to) := fun h => hcells k h
  generalize (entAt nd.es k).to = tok at hlast ⊢
  generalize (entAt nd.es k).key = keyk at hlast ⊢
  generalize nd.es.length = n at *
  generalize nm nd.data = da
  have HS := Lib.hid hS
  clear hS hcells hlow hmono hE hs
  by_cases hk : k < n
  · obtain ⟨hc0, hc1⟩ := hlast hk
    have hd : ((k : Int) == (n : Int)) = false := by simp; omega
    have hbw : b < w.heap.size := by omega
    have hki : (k : Int) < (n : Int) := by omega
    clear hlast
    by_cases hkey : keyk = key.data.toList
    · have hq : ((nm keyk).toList == key.toList) = true := by rw [listD, listD]; simp [hkey]; rfl
      have hq2 : ((nm keyk).toList != key.toList) = false := by rw [bne, hq]; rfl
      rw [if_neg (by rintro (h | h); omega; exact h hkey)]
      clear hkey
      go_enter Tryz.func207, Tryz.ntmps207
      go_wp2_with (go_at_call 71; refine (HS.out _ (by simp; omega) (((Below.refl _ _).alloc (Nat.le_refl _) _).alloc (by simp) _) _ _ (by simp) (by simp)).mono ?_; rintro e w' ⟨rfl, q, rfl⟩)
      go_quiet (fail)
      go_wp2
      go_ret2
      exact ⟨rfl, by first | exact below_drewN' (((Below.refl _ _).alloc (Nat.le_refl _) _).alloc (by simp) _) _ | exact below_drewN' (below_drewN' (((Below.refl _ _).alloc (Nat.le_refl _) _).alloc (by simp) _) _) _⟩
    · have hq : ((nm keyk).toList == key.toList) = false := by rw [listD, listD]; exact beq_eq_false_iff_ne.2 hkey
      have hq2 : ((nm keyk).toList != key.toList) = true := by rw [bne, hq]; rfl
      rw [if_pos (.inr hkey)]
      clear hkey
      go_enter Tryz.func207, Tryz.ntmps207
      go_wp2_with (go_at_call 71; refine (HS.out _ (by simp; omega) (((Below.refl _ _).alloc (Nat.le_refl _) _).alloc (by simp) _) _ _ (by simp) (by simp)).mono ?_; rintro e w' ⟨rfl, q, rfl⟩)
      go_quiet (fail)
      go_wp2
      go_ret2
      exact ⟨rfl, by first | exact below_drewN' (((Below.refl _ _).alloc (Nat.le_refl _) _).alloc (by simp) _) _ | exact below_drewN' (below_drewN' (((Below.refl _ _).alloc (Nat.le_refl _) _).alloc (by simp) _) _) _⟩
  · have hkn : k = n := by omega
    rw [if_pos (.inl hkn)]
    have hd : ((k : Int) == (n : Int)) = true := by simp; omega
    clear hlast hkn
    go_enter Tryz.func207, Tryz.ntmps207
    go_wp2_with (go_at_call 71; refine (HS.out _ (by simp; omega) (((Below.refl _ _).alloc (Nat.le_refl _) _).alloc (by simp) _) _ _ (by simp) (by simp)).mono ?_; rintro e w' ⟨rfl, q, rfl⟩)
    go_quiet (fail)
    go_wp2
    go_ret2
    exact ⟨rfl, by first | exact below_drewN' (((Below.refl _ _).alloc (Nat.le_refl _) _).alloc (by simp) _) _ | exact below_drewN' (below_drewN' (((Below.refl _ _).alloc (Nat.le_refl _) _).alloc (by simp) _) _) _⟩

end Go.Proofs.YtkmnbbocahjmaaaGreatDoor
