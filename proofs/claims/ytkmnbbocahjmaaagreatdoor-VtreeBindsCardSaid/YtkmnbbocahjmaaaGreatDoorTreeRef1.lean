/- DERIVED. Walks: Place, Usage, Links, Child of the document's own answer; Usage, Links of package tree. -/
import Derived.Test.YtkmnbbocahjmaaaGreatDoorTreeChk2
namespace Go.Proofs.YtkmnbbocahjmaaaGreatDoor
open Go.RowKit Go.Sort
open PathM TreeM
set_option linter.unusedVariables false

/-- The document's Place. -/
def placeI (l : List Nd) (id : Int) : Int := if place l id < l.length then (place l id : Int) else -1
theorem ret_i64 {a b : Int} (h : a = b) : Ending.returned (.int .i64 a) = .returned (.int .i64 b) := by rw [h]

set_option maxHeartbeats 2000000 in
theorem rplace_any (nv : Value) (t : Tr) (id : Int) (B : Nat) (w : World) (hN : NodesIn w B nv t.nodes) (hB : B ≤ w.heap.size) :
    Calls Tryz.prog 68 #[trV nv t, .int .i64 id] w fun e w' => e = .returned (.int .i64 (placeI t.nodes id)) ∧ Below w.heap.size w w' := by
  obtain ⟨hlen, ⟨A, c, rfl, h0⟩ | ⟨b, off, c, rfl, hcap, hb, hpos, hcells⟩⟩ := hN.cases
  · have hr : placeI t.nodes id = -1 := by simp [placeI, h0]
    rw [hr]
    unfold trV
    clear hr hN h0
    go_enter Tryz.func68, Tryz.ntmps68
    go_wp2
    refine wp_loop_rounds 1 ?_
    rw [rounds_succ]
    go_wp2
    go_ret
    exact ⟨rfl, (Below.refl _ _).alloc (Nat.le_refl _) _⟩
  unfold trV
  obtain ⟨r, hr⟩ : ∃ r, placeI t.nodes id = r := ⟨_, rfl⟩
  rw [hr]
  obtain ⟨l, la, rn, rb⟩ := t
  simp only at *
  have hyes : ∀ k, k < l.length → (∀ j, j < k → (ndAt l j).id ≠ id) → (ndAt l k).id = id → (k : Int) = r := by
    intro k hk hb he
    have := place_eq hk he hb
    rw [← hr, placeI, this, if_pos hk]
  have hno : (∀ j, j < l.length → (ndAt l j).id ≠ id) → (-1 : Int) = r := by
    intro h
    rw [← hr, placeI, place_none h, if_neg (by omega)]
  generalize hn : l.length = n at *
  have hbw : b < w.heap.size := by omega
  have HY := Lib.hid hyes; have HNo := Lib.hid hno; have HC := Lib.hid hcells; have HR := Lib.hid hr; have HN := Lib.hid hn
  clear hyes hno hcells hr hn hN
  go_enter Tryz.func68, Tryz.ntmps68
  go_wp2
  go_loop [5] (fun i => ∃ k : Nat, k ≤ n ∧ i = .int .i64 k ∧ Hid (∀ j, j < k → (ndAt l j).id ≠ id)) (fun i => n - (intOf i).toNat)
  case atStart => exact ⟨0, by omega, rfl, Lib.hid (fun j hj => absurd hj (Nat.not_lt_zero _))⟩
  case round =>
    obtain ⟨k, hk, rfl, HT⟩ := hrel
    by_cases hlt : k < n
    · obtain ⟨c0, _⟩ := HC.out k hlt
      have hkk : (k : Int) < (n : Int) := by omega
      by_cases he : (ndAt l k).id = id
      · have HO := Lib.hid (HY.out k hlt HT.out he)
        have q1 : ((ndAt l k).id == id) = true := by simpa using he
        clear he
        generalize (ndAt l k).id = x at *
        go_wp2
        go_ret
        exact ⟨ret_i64 HO.out, (Below.refl _ _).alloc (Nat.le_refl _) _⟩
      · have HO : Hid (∀ j, j < k + 1 → (ndAt l j).id ≠ id) := Lib.hid (fun j hj => by
          by_cases e : j = k
          · subst e; exact he
          · exact HT.out j (by omega))
        have q1 : ((ndAt l k).id == id) = false := by simpa using he
        clear he
        generalize (ndAt l k).id = x at c0 q1
        go_wp2
        go_round
        case rel => exact ⟨k + 1, by omega, by go_num, HO⟩
        case measure => simp [intOf]; omega
    · have HO := Lib.hid (HNo.out (fun j hj => HT.out j (by omega)))
      go_wp2
      go_ret
      exact ⟨ret_i64 HO.out, (Below.refl _ _).alloc (Nat.le_refl _) _⟩

/-- How many bytes nodes have. -/
def bytesN (l : List Nd) : Nat := (l.map fun n => n.data.length).sum
theorem bytes_take (l : List Nd) (k : Nat) (h : k < l.length) : bytesN (l.take (k + 1)) = bytesN (l.take k) + (ndAt l k).data.length := by
  have e : ndAt l k = l[k] := by simp [ndAt, h]
  unfold bytesN
  rw [List.take_succ_eq_append_getElem h, List.map_append, List.sum_append, e]
  rfl
theorem bytes_le (l : List Nd) (k : Nat) : bytesN (l.take k) ≤ bytesN l := by
  have h := List.take_append_drop k l
  have : bytesN l = bytesN (l.take k) + bytesN (l.drop k) := by
    unfold bytesN
    rw [← List.sum_append, ← List.map_append, h]
  omega
theorem ret_2i {a b c d : Int} (h1 : a = c) (h2 : b = d) : Ending.returned (.tuple #[.int .i64 a, .int .i64 b]) = .returned (.tuple #[.int .i64 c, .int .i64 d]) := by rw [h1, h2]

set_option maxHeartbeats 2000000 in
theorem rchild_any (ev : Value) (nd : Nd) (key : ByteArray) (B : Nat) (w : World) (hE : EntsIn w B ev nd.es) (hB : B ≤ w.heap.size) :
    Calls Tryz.prog 30 #[ndV ev nd, .string key] w fun e w' => e = .returned (.int .i64 ((childO nd.es key.data.toList).getD 0)) ∧ Below w.heap.size w w' := by
  obtain ⟨hlen, _, ⟨A, c, rfl, h0⟩ | ⟨b, off, c, rfl, hcap, hb, hpos, hcells⟩⟩ := hE.cases
  · rw [h0]
    unfold ndV
    clear h0 hE
    generalize nm nd.data = D
    go_enter Tryz.func30, Tryz.ntmps30
    go_wp2
    refine wp_loop_rounds 1 ?_
    rw [rounds_succ]
    go_wp2
    go_ret
    exact ⟨rfl, (Below.refl _ _).alloc (Nat.le_refl _) _⟩
  unfold ndV
  obtain ⟨r, hr⟩ : ∃ r, (childO nd.es key.data.toList).getD 0 = r := ⟨_, rfl⟩
  rw [hr]
  have hyes : ∀ k, k < nd.es.length → (∀ j, j < k → (entAt nd.es j).key ≠ key.data.toList) → (entAt nd.es k).key = key.data.toList → (entAt nd.es k).to = r := by
    intro k hk hb he
    have hf : nd.es.find? (fun x => x.key == key.data.toList) = some (entAt nd.es k) := by
      rw [List.find?_eq_some_iff_getElem]
      refine ⟨by simp [he], k, hk, by simp [entAt, hk], fun j hj => ?_⟩
      have := hb j hj
      have hjl : j < nd.es.length := by omega
      simpa [entAt, hjl] using this
    rw [← hr, childO, hf]; rfl
  have hno : (∀ j, j < nd.es.length → (entAt nd.es j).key ≠ key.data.toList) → (0 : Int) = r := by
    intro h
    have hf : nd.es.find? (fun x => x.key == key.data.toList) = none := by
      rw [List.find?_eq_none]
      intro x hx
      obtain ⟨j, hj, rfl⟩ := ent_of_mem hx
      simpa using h j hj
    rw [← hr, childO, hf]; rfl
  obtain ⟨id, kind, mode, owner, time, data, es⟩ := nd
  simp only at *
  generalize hn : es.length = n at *
  have hbw : b < w.heap.size := by omega
  have HY := Lib.hid hyes; have HNo := Lib.hid hno; have HC := Lib.hid hcells; have HR := Lib.hid hr; have HN := Lib.hid hn
  clear hyes hno hcells hr hn hE
  generalize nm data = D at *
  go_enter Tryz.func30, Tryz.ntmps30
  go_wp2
  go_loop [5] (fun i => ∃ k : Nat, k ≤ n ∧ i = .int .i64 k ∧ Hid (∀ j, j < k → (entAt es j).key ≠ key.data.toList)) (fun i => n - (intOf i).toNat)
  case atStart => exact ⟨0, by omega, rfl, Lib.hid (fun j hj => absurd hj (Nat.not_lt_zero _))⟩
  case round =>
    obtain ⟨k, hk, rfl, HT⟩ := hrel
    by_cases hlt : k < n
    · obtain ⟨c0, c1⟩ := HC.out k hlt
      have hkk : (k : Int) < (n : Int) := by omega
      by_cases he : (entAt es k).key = key.data.toList
      · have HO := Lib.hid (HY.out k hlt HT.out he)
        have q1 : ((nm (entAt es k).key).toList == key.toList) = true := by rw [listD, listD]; show ((entAt es k).key == key.data.toList) = true; simp [he]
        clear he
        generalize (entAt es k).to = y at *
        generalize nm (entAt es k).key = x at *
        go_wp2
        go_ret
        exact ⟨ret_i64 HO.out, (Below.refl _ _).alloc (Nat.le_refl _) _⟩
      · have HO : Hid (∀ j, j < k + 1 → (entAt es j).key ≠ key.data.toList) := Lib.hid (fun j hj => by
          by_cases e : j = k
          · subst e; exact he
          · exact HT.out j (by omega))
        have q1 : ((nm (entAt es k).key).toList == key.toList) = false := by rw [listD, listD]; exact beq_eq_false_iff_ne.2 he
        clear he
        generalize nm (entAt es k).key = x at c0 q1
        generalize (entAt es k).to = y at c1
        go_wp2
        go_round
        case rel => exact ⟨k + 1, by omega, by go_num, HO⟩
        case measure => simp [intOf]; omega
    · have HO := Lib.hid (HNo.out (fun j hj => HT.out j (by omega)))
      go_wp2
      go_ret
      exact ⟨ret_i64 HO.out, (Below.refl _ _).alloc (Nat.le_refl _) _⟩

end Go.Proofs.YtkmnbbocahjmaaaGreatDoor
