/- DERIVED. Walks: Links, of package tree and of the document's own answer. -/
import Derived.Test.YtkmnbbocahjmaaaGreatDoorTreeRef1
namespace Go.Proofs.YtkmnbbocahjmaaaGreatDoor
open Go.RowKit Go.Sort
open PathM TreeM
set_option linter.unusedVariables false

/-- How many entries lead to a number: of all nodes below k, and of the next one's entries below j. -/
def cntTo (l : List Nd) (id : Int) (k j : Nat) : Nat := (flat (l.take k) ++ (ndAt l k).es.take j).countP fun x => x.to == id
theorem cnt_zero (l : List Nd) (id : Int) : cntTo l id 0 0 = 0 := rfl
theorem cnt_step {l : List Nd} {id : Int} {k j : Nat} (h : j < (ndAt l k).es.length) : cntTo l id k (j + 1) = cntTo l id k j + (if (entAt (ndAt l k).es j).to = id then 1 else 0) := by
  have e : entAt (ndAt l k).es j = (ndAt l k).es[j] := by simp [entAt, h]
  unfold cntTo
  rw [List.take_succ_eq_append_getElem h, ← List.append_assoc, List.countP_append (l₁ := flat (l.take k) ++ (ndAt l k).es.take j), e]
  congr 1
  simp [List.countP_cons]
theorem cnt_next {l : List Nd} {id : Int} {k : Nat} (h : k < l.length) : cntTo l id (k + 1) 0 = cntTo l id k (ndAt l k).es.length := by
  unfold cntTo
  rw [flat_take_succ l k h]; simp
theorem cnt_end {l : List Nd} {id : Int} : cntTo l id l.length 0 = links l id := by
  unfold cntTo links; rw [List.take_length]; simp
theorem cntTo_le {l : List Nd} {id : Int} {k j : Nat} (hk : k < l.length) : cntTo l id k j ≤ (flat l).length := by
  unfold cntTo
  refine Nat.le_trans List.countP_le_length ?_
  have h1 : flat l = flat (l.take (k + 1)) ++ flat (l.drop (k + 1)) := by unfold flat; rw [← List.flatMap_append, List.take_append_drop]
  rw [h1, flat_take_succ l k hk]
  simp only [List.length_append, List.length_take]
  omega

set_option maxHeartbeats 4000000 in
theorem rlinks_any (nv : Value) (t : Tr) (id : Int) (B : Nat) (w : World) (hN : NodesIn w B nv t.nodes) (hB : B ≤ w.heap.size) (hfl : (flat t.nodes).length ≤ 4611686018427387904) :
    Calls Tryz.prog 31 #[trV nv t, .int .i64 id] w fun e w' => e = .returned (.int .i64 (links t.nodes id)) ∧ Below w.heap.size w w' := by
  obtain ⟨hlen, ⟨A, c, rfl, h0⟩ | ⟨b, off, c, rfl, hcap, hb, hpos, hcells⟩⟩ := hN.cases
  · unfold trV
    rw [h0]
    clear hN h0
    go_enter Tryz.func31, Tryz.ntmps31
    go_wp2
    refine wp_loop_rounds 1 ?_
    rw [rounds_succ]
    go_wp2
    go_ret
    exact ⟨rfl, (Below.refl _ _).alloc (Nat.le_refl _) _⟩
  unfold trV
  obtain ⟨l, la, rn, rb⟩ := t
  simp only at *
  have hend : cntTo l id l.length 0 = links l id := cnt_end
  obtain ⟨tot, ht⟩ : ∃ tot, links l id = tot := ⟨_, rfl⟩
  rw [ht] at hend ⊢
  have hle : ∀ k j, k < l.length → cntTo l id k j ≤ 4611686018427387904 := fun k j hk => Nat.le_trans (cntTo_le hk) hfl
  have hnx : ∀ k, k < l.length → cntTo l id (k + 1) 0 = cntTo l id k (ndAt l k).es.length := fun k hk => cnt_next hk
  have hbw : b < w.heap.size := by omega
  generalize hn : l.length = n at *
  have HL := Lib.hid hle; have HX := Lib.hid hnx; have HE := Lib.hid hend; have HC := Lib.hid hcells; have HN := Lib.hid hn; have HT := Lib.hid ht
  clear hle hend hcells hn hN ht hnx hfl
  go_enter Tryz.func31, Tryz.ntmps31
  go_wp2
  go_loop [5, 6] (fun s i => ∃ k : Nat, k ≤ n ∧ i = .int .i64 k ∧ s = .int .i64 (cntTo l id k 0)) (fun _ i => n - (intOf i).toNat)
  case atStart => exact ⟨0, by omega, rfl, rfl⟩
  case round =>
    obtain ⟨k, hk, rfl, rfl⟩ := hrel
    by_cases hlt : k < n
    · obtain ⟨c0, c1, c2, c3, c4, c5, hdl, ev, c6, hE⟩ := HC.out k hlt
      have hkk : (k : Int) < (n : Int) := by omega
      have hle1 := HL.out k 0 hlt
      have hst : ∀ j, j < (ndAt l k).es.length → cntTo l id k (j + 1) = cntTo l id k j + (if (entAt (ndAt l k).es j).to = id then 1 else 0) := fun j hj => cnt_step hj
      have HST := Lib.hid hst
      have HX1 := Lib.hid (HX.out k hlt)
      clear hst hdl c0 c1 c2 c3 c4 c5
      generalize hnd : ndAt l k = nd at *
      have HND := Lib.hid hnd
      clear hnd
      obtain ⟨hml, _, ⟨Ae, ce, rfl, he0⟩ | ⟨eb, eo, ce, rfl, hecap, heb, hepos, hec⟩⟩ := hE.cases
      · have hm0 : nd.es.length = 0 := by rw [he0]; rfl
        have HM := Lib.hid hm0
        clear hE he0 hm0
        generalize hs : cntTo l id k 0 = s at *
        have HS := Lib.hid hs
        clear hs
        go_wp2
        refine wp_loop_rounds 1 ?_
        rw [rounds_succ]
        go_wp2
        go_round
        case rel => exact ⟨k + 1, by omega, by go_num, by rw [HX1.out, HM.out, HS.out]⟩
        case measure => simp [intOf]; omega
      · generalize hm : nd.es.length = m at *
        have HM := Lib.hid hm
        have HEC := Lib.hid hec
        clear hm hec hE
        have hebw : eb < w.heap.size := by omega
        go_wp2
        go_loop [5, 7] (fun s j => ∃ q : Nat, q ≤ m ∧ j = .int .i64 q ∧ s = .int .i64 (cntTo l id k q)) (fun _ j => m - (intOf j).toNat)
        case atStart => exact ⟨0, by omega, rfl, rfl⟩
        case round =>
          obtain ⟨q, hq, rfl, rfl⟩ := hrel
          have hle2 := HL.out k q hlt
          by_cases hqt : q < m
          · obtain ⟨d0, d1⟩ := HEC.out q hqt
            have hqq : (q : Int) < (m : Int) := by omega
            have hst1 := HST.out q (by omega)
            by_cases he : (entAt nd.es q).to = id
            · have q1 : ((entAt nd.es q).to == id) = true := by simpa using he
              rw [if_pos he] at hst1
              have HS1 := Lib.hid hst1
              clear hst1 he
              generalize cntTo l id k q = s at *
              generalize (entAt nd.es q).to = y at *
              generalize nm (entAt nd.es q).key = x at *
              go_wp2
              go_round
              case rel => exact ⟨q + 1, by omega, by go_num, by rw [HS1.out]; go_num⟩
              case measure => simp [intOf]; omega
            · have q1 : ((entAt nd.es q).to == id) = false := by simpa using he
              rw [if_neg he] at hst1
              have HS1 := Lib.hid hst1
              clear hst1 he
              generalize cntTo l id k q = s at *
              generalize (entAt nd.es q).to = y at *
              generalize nm (entAt nd.es q).key = x at *
              go_wp2
              go_round
              case rel => exact ⟨q + 1, by omega, by go_num, by rw [HS1.out]; rfl⟩
              case measure => simp [intOf]; omega
          · have hqm : q = m := by omega
            have HQ : Hid (cntTo l id (k + 1) 0 = cntTo l id k q) := Lib.hid (by rw [hqm]; exact HX1.out)
            clear hqm
            generalize cntTo l id k q = s at *
            go_wp2
            go_round
            case rel => exact ⟨k + 1, by omega, by go_num, by rw [HQ.out]⟩
            case measure => simp [intOf]; omega
    · have hkn : k = n := by omega
      have HO : Hid (cntTo l id k 0 = tot) := Lib.hid (by rw [hkn]; exact HE.out)
      clear hkn
      generalize cntTo l id k 0 = s at *
      go_wp2
      go_ret
      exact ⟨ret_i64 (by rw [HO.out]), (Below.refl _ _).alloc (Nat.le_refl _) _⟩

end Go.Proofs.YtkmnbbocahjmaaaGreatDoor
