/- DERIVED. The walk of the document's own Path. -/
import Derived.Test.YtgcoioejcnileaaDoorTreeLaw3
namespace Go.Proofs.YtgcoioejcnileaaDoor
open Go.RowKit Go.Sort
open PathM TreeM
set_option linter.unusedVariables false

theorem check_names {t : Tr} (h : checkB t = true) : ∀ x ∈ flat t.nodes, x.key.length ≤ 64 := by
  intro x hx
  obtain ⟨i, hi, hxi⟩ := flat_mem.1 hx
  exact (nameB_parts (name_of_ents (check_ents h hi) hxi)).2.2
theorem path_yes {t : Tr} (h : checkB t = true) {id : Int} {i : Nat} (hi : i < (way t.nodes).length) (he : (itAt (way t.nodes) i).id = id) : pathI t id = ((itAt (way t.nodes) i).path, true) := by
  subst he
  have hm : met (way t.nodes) (itAt (way t.nodes) i).id = true := met_iff.2 ⟨_, itAt_mem hi, rfl⟩
  unfold pathI
  rw [if_pos h, if_pos hm, (way_wy t.nodes).metAt hi]
theorem path_no {t : Tr} (h : checkB t = true) {id : Int} (hn : ∀ i, i < (way t.nodes).length → (itAt (way t.nodes) i).id ≠ id) : pathI t id = ([], false) := by
  unfold pathI
  rw [if_pos h]
  cases hm : met (way t.nodes) id with
  | false => rfl
  | true => exact absurd (metAt_id hm) (hn _ (metAt_lt hm))
theorem way_row (nv : Value) (t : Tr) (w : World) (hN : NodesIn w w.heap.size nv t.nodes) (h : checkB t = true) : ∀ W, Below w.heap.size w W →
    Calls Tryd.prog 42 #[trV nv t, .int .i64 1, .string ⟨#[47]⟩, .slice none 0 0] W fun e W' => ∃ A c, e = .returned (.slice A t.nodes.length c) ∧ W'.ownsRow w.heap.size 81 2 (.slice A t.nodes.length c) t.nodes.length ((way t.nodes).flatMap metCells) ∧ Below W.heap.size W W' := by
  intro W hW
  obtain ⟨_, hn, _, _, _, hwl, _⟩ := check_facts h
  refine (rway_any nv t w.heap.size w hN hn (check_names h) t.nodes.length [] 1 0 [] [47] (.slice none 0 0) W (by rw [unmet_nil]; exact Nat.le_refl _) (by simp; omega) hW hW.size ⟨by simp, by simp⟩ (World.ownsRow_nil _ _ _ _)).mono ?_
  rintro e W' ⟨v', rfl, hr, hg⟩
  have hdfs : TreeM.dfs t.nodes t.nodes.length 1 0 [] [47] [] = way t.nodes := rfl
  rw [hdfs, hwl] at hr
  obtain ⟨A, c, rfl⟩ := ownsRow_len3 hr
  exact ⟨A, c, rfl, hr, hg.below (Nat.le_refl _) (fun b hb => by simp [Value.ownBlock] at hb)⟩

set_option maxHeartbeats 4000000 in
theorem rpath_any (nv : Value) (t : Tr) (id : Int) (B : Nat) (w : World) (hN : NodesIn w B nv t.nodes) (hB : B ≤ w.heap.size) :
    Calls Tryd.prog 26 #[trV nv t, .int .i64 id] w fun e w' => e = .returned (.tuple #[.string (nm (pathI t id).1), .bool (pathI t id).2]) ∧ Below w.heap.size w w' := by
  have hN0 := hN.more hB
  have hc := fun W (hW : Below w.heap.size w W) => rcheck_any nv t w.heap.size W (hN0.below hW) hW.size
  have hc1 : ∀ tv : Array Value, C1 w tv (w.alloc (.cells tv 26)) := fun tv => ⟨heap_alloc_new w _, (Below.refl _ _).alloc (Nat.le_refl _) _⟩
  cases hb : checkB t with
  | false =>
    have hp : pathI t id = ([], false) := by unfold pathI; rw [hb]; rfl
    have hck : checkI t = 80 := by unfold checkI; rw [hb]; rfl
    rw [hck] at hc
    rw [hp]
    obtain ⟨A, c, rfl⟩ := nodes_len hN
    have HC := Lib.hid hc
    clear hc hp hN hN0 hb hck
    unfold trV at *
    generalize t.nodes.length = n at *
    generalize t.last = la at *
    generalize t.rn = rn at *
    generalize t.rb = rb at *
    have H0 := Lib.hid (hc1 #[.slice A n c, .int .i64 la, .int .i64 rn, .int .i64 rb])
    clear hc1
    go_enter Tryd.func26, Tryd.ntmps26
    go_wp2_with (go_at_call 12; refine (HC.out _ H0.out.2).mono ?_; rintro e w1 ⟨rfl, hb1⟩; have H1 := Lib.hid (H0.out.next hb1); clear hb1)
    go_ret2
    exact ⟨rfl, H1.out.2⟩
  | true =>
    have hck : checkI t = 0 := by unfold checkI; rw [hb]; rfl
    rw [hck] at hc
    have hway := way_row nv t w hN0 hb
    obtain ⟨_, hn, _, _, _, hwl, -⟩ := check_facts hb
    have hyes := fun i hi => path_yes hb (id := id) (i := i) hi
    have hno := path_no hb (id := id)
    have hmc := met_cells (way t.nodes)
    rw [hwl] at hyes hno hmc
    obtain ⟨A, c, rfl⟩ := nodes_len hN
    have HC := Lib.hid hc; have HW := Lib.hid hway; have HY := Lib.hid hyes; have HNO := Lib.hid hno; have HMC := Lib.hid hmc
    clear hc hway hyes hno hmc hN hN0 hb hck hwl
    unfold trV at *
    generalize pathI t id = pp at *
    generalize way t.nodes = L at *
    generalize t.nodes.length = n at *
    generalize t.last = la at *
    generalize t.rn = rn at *
    generalize t.rb = rb at *
    have H0 := Lib.hid (hc1 #[.slice A n c, .int .i64 la, .int .i64 rn, .int .i64 rb])
    clear hc1
    go_enter Tryd.func26, Tryd.ntmps26
    go_wp2_with (go_at_call 12; refine (HC.out _ H0.out.2).mono ?_; rintro e w1 ⟨rfl, hb1⟩; have H1 := Lib.hid (H0.out.next hb1); obtain ⟨d0, d1, d2, d3⟩ := H1.out.cells; clear hb1)
    go_wp2_with (go_at_call 42; refine (HW.out _ H1.out.2).mono ?_; rintro e w2 ⟨A2, c2, rfl, hrow, hb2⟩; have H2 := Lib.hid (H1.out.next hb2); have HR := Lib.hid hrow; clear hb2 hrow)
    go_loopw [7] (fun s7 wr => ∃ i : Nat, s7 = .int .i64 i ∧ i ≤ n ∧ (∀ j, j < i → (itAt L j).id ≠ id) ∧ wr = w2) (fun s7 _ => n - (intOf s7).toNat)
    case atStart => exact ⟨0, rfl, by omega, fun j h => by omega, rfl⟩
    case round =>
      obtain ⟨i, rfl, hi, hall, rfl⟩ := hrel
      have HA := Lib.hid hall
      clear hall
      by_cases hin : i < n
      · obtain ⟨g, rfl⟩ : ∃ g, A2 = some ⟨g, 0, none⟩ := by
          rcases HR.out.2 with ⟨_, h⟩ | ⟨g, cap, cur, hv, _⟩
          · omega
          · cases hv; exact ⟨g, rfl⟩
        obtain ⟨c0, c1⟩ := HMC.out i hin
        have x0 := row_cells HR.out _ _ c0
        have x1 := row_cells HR.out _ _ c1
        have hii : (i : Int) < (n : Int) := by omega
        clear c0 c1
        by_cases he : (itAt L i).id = id
        · have HP := Lib.hid (HY.out i hin he)
          have hq : ((itAt L i).id == id) = true := by simpa using he
          clear he
          generalize itAt L i = it at *
          go_wp2
          go_ret2
          exact ⟨ret_sb (by rw [HP.out]) (by rw [HP.out]), H2.out.2⟩
        · have hq : ((itAt L i).id == id) = false := by simpa using he
          have HA2 : Hid (∀ j, j < i + 1 → (itAt L j).id ≠ id) := Lib.hid (fun j hj => by
            by_cases e : j = i
            · rw [e]; exact he
            · exact HA.out j (by omega))
          clear he
          generalize itAt L i = it at *
          go_wp2
          go_roundw
          case rel => exact ⟨i + 1, by go_num, by omega, HA2.out, trivial⟩
          case measure => simp [intOf]; omega
      · obtain rfl : i = n := by omega
        have HP := Lib.hid (HNO.out HA.out)
        go_wp2
        go_ret2
        exact ⟨ret_sb (by rw [HP.out]; rfl) (by rw [HP.out]), H2.out.2⟩

end Go.Proofs.YtgcoioejcnileaaDoor
