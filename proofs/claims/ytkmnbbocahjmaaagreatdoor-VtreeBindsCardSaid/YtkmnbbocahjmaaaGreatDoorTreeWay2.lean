/- DERIVED. The walks of way, reached and Check of package tree. -/
import Derived.Test.YtkmnbbocahjmaaaGreatDoorTreeWay
import Derived.Test.YtkmnbbocahjmaaaGreatDoorTreeSame
import Derived.Laws.EntriesVeiled
namespace Go.Proofs.YtkmnbbocahjmaaaGreatDoor
open Go.RowKit Go.Sort
open PathM TreeM
set_option linter.unusedVariables false

/-- What way answers: the meetings in a row of its own, the map of where each number was met. -/
def WayPost (l : List TreeM.Item) (w : World) (e : Ending) (w' : World) : Prop :=
  ∃ v mb, e = .returned (.tuple #[v, .map (some mb)]) ∧ w'.ownsRow w.heap.size 207 3 v l.length (l.flatMap itCells) ∧ MapI w' mb l.length (metF l) ∧ w.heap.size ≤ mb ∧ Below w.heap.size w w'

theorem ownsRow_base {W : World} {b b' : Nat} {e : TypeId} {size : Nat} {v : Value} {n : Nat} {xs : List Value} (h : W.ownsRow b e size v n xs) (hb : b' ≤ b) : W.ownsRow b' e size v n xs :=
  ⟨h.1, h.2.imp id fun ⟨g, cap, cur, h1, h2, h3⟩ => ⟨g, cap, cur, h1, by omega, h3⟩⟩

set_option maxHeartbeats 4000000 in
theorem way_any (nv : Value) (t : Tr) (B : Nat) (w : World) (hN : NodesIn w B nv t.nodes) (hB : B ≤ w.heap.size) (hri : Rising t.nodes) (hn : t.nodes.length ≤ 512) (hp1 : place t.nodes 1 < t.nodes.length) (hled : ∀ x ∈ flat t.nodes, place t.nodes x.to < t.nodes.length) :
    Calls Tryz.prog 149 #[trV nv t] w (WayPost (way t.nodes) w) := by
  obtain ⟨A, c, rfl, _⟩ : ∃ A c, nv = .slice A t.nodes.length c ∧ True := by obtain ⟨A, c, h, _⟩ := hN; exact ⟨A, c, h, trivial⟩
  have hmm := @run_makeMap Tryz.prog
  have hmf : ∀ (fn : Fn) (first cap : Array Value) (w : World), (Instr.makeFunc fn first cap).run Tryz.prog w = .ok (.func fn first cap) w := fun _ _ _ _ => rfl
  have hN1 : NodesIn (w.alloc (.cells #[.slice A t.nodes.length c, .int .i64 t.last, .int .i64 t.rn, .int .i64 t.rb] 26)) (w.heap.size + 1) (.slice A t.nodes.length c) t.nodes :=
    (hN.keep (fun p hp => World.cell?_alloc_lt w _ p (by omega))).more (by omega)
  have HME := Lib.hid (fun W hW => meet_any (.slice A t.nodes.length c) t (w.heap.size + 1) w.heap.size (w.heap.size + 1) (w.heap.size + 1 + 1) (w.heap.size + 1 + 1 + 1) (w.heap.size + 1 + 1 + 1 + 1) (w.alloc (.cells #[.slice A t.nodes.length c, .int .i64 t.last, .int .i64 t.rn, .int .i64 t.rb] 26)) hN1 hri hn hled
    (by simp) (by simp) (by simp) (by simp) (by simp) (by omega) (by omega) (by omega) (by omega) (by omega) t.nodes.length [] 1 0 [] [47] W (by rw [unmet_nil]; exact Nat.le_refl _) hp1 (by omega) hW)
  unfold WayPost trV
  clear hN hN1 hled hri
  go_enter Tryz.func149, Tryz.ntmps149
  go_wp2_with fail
  refine (HME.out _ ?wi).mono ?_
  case wi =>
    refine ⟨⟨by simp, by simp⟩, ?_, ⟨_, ?_, World.ownsRow_nil _ _ _ _⟩, ?_, ?_, ?_⟩
    · exact ((((Below.refl _ _).alloc (by simp) _).alloc (by simp) _).alloc (by simp) _).alloc (by simp) _
    · have := (((Boxed.new (w.alloc (.cells #[.slice A t.nodes.length c, .int .i64 t.last, .int .i64 t.rn, .int .i64 t.rb] 26)) 197 (.slice none 0 0)).alloc (.map #[] 0)).alloc (.cells #[.map (some (w.heap.size + 1 + 1))] 195)).alloc (.cells #[.func (.func 158) #[] #[.pointer (some ⟨w.heap.size + 1 + 1 + 1, 0, none⟩), .pointer (some ⟨w.heap.size, 0, none⟩), .pointer (some ⟨w.heap.size + 1, 0, none⟩), .pointer (some ⟨w.heap.size + 1 + 1 + 1 + 1, 0, none⟩)]] 205)
      simpa using this
    · have := (Boxed.new (((w.alloc (.cells #[.slice A t.nodes.length c, .int .i64 t.last, .int .i64 t.rn, .int .i64 t.rb] 26)).alloc (.cells #[.slice none 0 0] 197)).alloc (.map #[] 0)) 195 (.map (some (w.heap.size + 1 + 1)))).alloc (.cells #[.func (.func 158) #[] #[.pointer (some ⟨w.heap.size + 1 + 1 + 1, 0, none⟩), .pointer (some ⟨w.heap.size, 0, none⟩), .pointer (some ⟨w.heap.size + 1, 0, none⟩), .pointer (some ⟨w.heap.size + 1 + 1 + 1 + 1, 0, none⟩)]] 205)
      simpa using this
    · have := Boxed.new ((((w.alloc (.cells #[.slice A t.nodes.length c, .int .i64 t.last, .int .i64 t.rn, .int .i64 t.rb] 26)).alloc (.cells #[.slice none 0 0] 197)).alloc (.map #[] 0)).alloc (.cells #[.map (some (w.heap.size + 1 + 1))] 195)) 205 (.func (.func 158) #[] #[.pointer (some ⟨w.heap.size + 1 + 1 + 1, 0, none⟩), .pointer (some ⟨w.heap.size, 0, none⟩), .pointer (some ⟨w.heap.size + 1, 0, none⟩), .pointer (some ⟨w.heap.size + 1 + 1 + 1 + 1, 0, none⟩)])
      simpa using this
    · have := ((MapI.made ((w.alloc (.cells #[.slice A t.nodes.length c, .int .i64 t.last, .int .i64 t.rn, .int .i64 t.rb] 26)).alloc (.cells #[.slice none 0 0] 197))).alloc (.cells #[.map (some (w.heap.size + 1 + 1))] 195)).alloc (.cells #[.func (.func 158) #[] #[.pointer (some ⟨w.heap.size + 1 + 1 + 1, 0, none⟩), .pointer (some ⟨w.heap.size, 0, none⟩), .pointer (some ⟨w.heap.size + 1, 0, none⟩), .pointer (some ⟨w.heap.size + 1 + 1 + 1 + 1, 0, none⟩)]] 205)
      have h2 := this.congr (g := metF []) (fun _ => rfl)
      simpa using h2
  rintro e w' ⟨rfl, hwi⟩
  obtain ⟨h1, h2, ⟨v, h3, h4⟩, h5, h6, h7⟩ := hwi
  obtain ⟨va, vc, rfl⟩ := ownsRow_len3 h4
  have l1 := h3.cell
  have m1 := h5.cell
  have H2 := Lib.hid h2; have H4 := Lib.hid h4; have H7 := Lib.hid h7
  clear h1 h2 h3 h4 h5 h6 h7
  go_wp2
  go_quiet (fail)
  go_wp2
  go_ret2
  exact ⟨_, _, rfl, ownsRow_drewN (ownsRow_base H4.out (by omega)) _, H7.out.drewN _, by omega, below_drewN' (((Below.refl _ _).alloc (Nat.le_refl _) _).trans (H2.out.mono (by omega))) _⟩

/-- The pointer behind a tree's nodes in their box, and how long they are. -/
theorem nodes_len {w : World} {B : Nat} {v : Value} {l : List Nd} (h : NodesIn w B v l) : ∃ A c, v = .slice A l.length c := by
  obtain ⟨A, c, h, _⟩ := h; exact ⟨A, c, h⟩

set_option maxHeartbeats 2000000 in
theorem reached_any (nv : Value) (t : Tr) (B : Nat) (w : World) (hN : NodesIn w B nv t.nodes) (hB : B ≤ w.heap.size) (hri : Rising t.nodes) (hn : t.nodes.length ≤ 512) (hp1 : place t.nodes 1 < t.nodes.length) (hled : ∀ x ∈ flat t.nodes, place t.nodes x.to < t.nodes.length) :
    Calls Tryz.prog 127 #[trV nv t] w (BelowB (reachedB t.nodes) w) := by
  have hw := fun W (hW : Below w.heap.size w W) => way_any nv t w.heap.size W ((hN.more hB).below hW) hW.size hri hn hp1 hled
  obtain ⟨A, c, rfl⟩ := nodes_len hN
  have hr : reachedB t.nodes = ((way t.nodes).length == t.nodes.length) := rfl
  rw [hr]
  have HW := Lib.hid hw
  clear hw hr hN hled hri
  unfold BelowB
  unfold trV at *
  generalize way t.nodes = l at *
  generalize t.nodes.length = n at *
  go_enter Tryz.func127, Tryz.ntmps127
  go_wp2_with fail
  refine (HW.out _ ((Below.refl _ _).alloc (Nat.le_refl _) _)).mono ?_
  rintro e w' ⟨v, mb, rfl, hrow, hm, hmb, hb⟩
  obtain ⟨va, vc, rfl⟩ := ownsRow_len3 hrow
  have c0 : w'.cell? ⟨w.heap.size, 0, none⟩ = some (.slice A n c) := (hb.cell (p := ⟨w.heap.size, 0, none⟩) (by simp)).trans (by simp)
  have HB := Lib.hid hb
  clear hrow hm hmb hb
  go_wp2
  go_ret
  exact ⟨ret_bool (by rw [Bool.eq_iff_iff]; simp; omega), ((Below.refl _ _).alloc (Nat.le_refl _) _).trans (HB.out.mono (by simp))⟩

theorem flat_len {w : World} {B : Nat} {v : Value} {l : List Nd} (h : NodesIn w B v l) (hn : l.length ≤ 512) : (flat l).length ≤ 4611686018427387904 := by
  obtain ⟨_, ⟨A, c, _, h0⟩ | ⟨b, off, c, _, _, _, _, hc⟩⟩ := h.cases
  · rw [h0]; simp [flat]
  · suffices H : ∀ k, k ≤ l.length → (flat (l.take k)).length ≤ k * 5864062014635 by
      have := H l.length (Nat.le_refl _)
      rw [flat_all l _ (Nat.le_refl _)] at this
      omega
    intro k
    induction k with
    | zero => intro _; simp [flat]
    | succ k ih =>
      intro hk
      obtain ⟨ev, _, hE⟩ := (hc k (by omega)).2.2.2.2.2.2.2
      obtain ⟨_, _, _, hel⟩ := ents_len hE
      rw [flat_take_succ l k (by omega), List.length_append]
      have := ih (by omega)
      omega

/-- What Check answers. -/
def checkI (t : Tr) : Int := if checkB t = true then 0 else 80

set_option maxHeartbeats 4000000 in
theorem check_any (nv : Value) (t : Tr) (B : Nat) (w : World) (hN : NodesIn w B nv t.nodes) (hB : B ≤ w.heap.size) :
    Calls Tryz.prog 93 #[trV nv t] w fun e w' => e = .returned (.int .i64 (checkI t)) ∧ Below w.heap.size w w' := by
  have hN0 := hN.more hB
  have h1 := fun W (hW : Below w.heap.size w W) => numbered_any nv t w.heap.size W (hN0.below hW) hW.size
  have h2 := fun W (hW : Below w.heap.size w W) => nodesMay_any nv t.nodes w.heap.size W (hN0.below hW) hW.size
  obtain ⟨r, hr⟩ : ∃ r, checkI t = r := ⟨_, rfl⟩
  rw [hr]
  have hall : checkB t = (numB t && nodesB t.nodes && ledB t.nodes && reachedB t.nodes) := rfl
  have hfl := fun hn => flat_len hN hn
  have hled := fun (hn : numB t = true) W (hW : Below w.heap.size w W) => led_any nv t w.heap.size W (hN0.below hW) hW.size
  have hrea := fun W (hW : Below w.heap.size w W) => reached_any nv t w.heap.size W (hN0.below hW) hW.size
  have hnum : numB t = true → Rising t.nodes ∧ t.nodes.length ≤ 512 ∧ 0 < t.nodes.length ∧ place t.nodes 1 < t.nodes.length := by
    intro h
    simp only [numB, Bool.and_eq_true] at h
    have hh := h.1
    simp at hh
    have hri := rising_of_ok h.2
    refine ⟨hri, hh.2.1, by omega, ?_⟩
    exact place_lt (i := 0) (by omega) hh.2.2.1
  obtain ⟨A, c, rfl⟩ := nodes_len hN
  have hno : (numB t && nodesB t.nodes && ledB t.nodes && reachedB t.nodes) = false → (80 : Int) = r := fun h => by rw [← hr, checkI, hall, h]; rfl
  have hyes : (numB t && nodesB t.nodes && ledB t.nodes && reachedB t.nodes) = true → (0 : Int) = r := fun h => by rw [← hr, checkI, hall, h]; rfl
  have HNO := Lib.hid hno; have HYES := Lib.hid hyes; have H1 := Lib.hid h1; have H2 := Lib.hid h2
  clear hno hyes hall hr h1 h2 hN hN0
  unfold trV at *
  cases b1 : numB t with
  | false =>
    rw [b1] at HNO H1
    have HO := Lib.hid (HNO.out rfl)
    clear hnum hled hrea hfl b1
    go_enter Tryz.func93, Tryz.ntmps93
    go_wp2_with (go_at_call 124; refine (H1.out _ ((Below.refl _ _).alloc (Nat.le_refl _) _)).mono ?_; rintro e w' ⟨rfl, hb⟩)
    go_ret
    exact ⟨ret_i64 HO.out, ((Below.refl _ _).alloc (Nat.le_refl _) _).trans (hb.mono (by simp))⟩
  | true =>
    rw [b1] at HNO HYES H1
    obtain ⟨hri, hn, hpos, hp1⟩ := hnum b1
    have h3 := fun W hW => hled b1 W hW hri hpos (hfl hn)
    have HREA := Lib.hid (fun hx W hW => hrea W hW hri hn hp1 hx)
    have H3 := Lib.hid h3
    clear hled hrea hnum hfl hp1 h3 hri
    cases b2 : nodesB t.nodes with
    | false =>
      rw [b2] at HNO H2
      have HO := Lib.hid (HNO.out rfl)
      clear b1 b2 HREA H3
      go_enter Tryz.func93, Tryz.ntmps93
      go_wp2_with fail
      refine (H1.out _ ((Below.refl _ _).alloc (Nat.le_refl _) _)).mono ?_
      rintro e w1 ⟨rfl, hb⟩
      have q0 : w1.cell? ⟨w.heap.size, 0, none⟩ = some (.slice A t.nodes.length c) := (hb.cell (p := ⟨w.heap.size, 0, none⟩) (by simp)).trans (by simp)
      have q1 : w1.cell? ⟨w.heap.size, 1, none⟩ = some (.int .i64 t.last) := (hb.cell (p := ⟨w.heap.size, 1, none⟩) (by simp)).trans (by simp)
      have q2 : w1.cell? ⟨w.heap.size, 2, none⟩ = some (.int .i64 t.rn) := (hb.cell (p := ⟨w.heap.size, 2, none⟩) (by simp)).trans (by simp)
      have q3 : w1.cell? ⟨w.heap.size, 3, none⟩ = some (.int .i64 t.rb) := (hb.cell (p := ⟨w.heap.size, 3, none⟩) (by simp)).trans (by simp)
      have hz1 : w.heap.size < w1.heap.size := by have := hb.size; simp at this; omega
      have hb1 := Lib.hid (((Below.refl w.heap.size w).alloc (Nat.le_refl _) (.cells #[.slice A t.nodes.length c, .int .i64 t.last, .int .i64 t.rn, .int .i64 t.rb] 26)).trans (hb.mono (by simp)))
      clear hb
      go_wp2_with fail
      refine (H2.out _ hb1.out).mono ?_
      rintro e w2 ⟨rfl, hb⟩
      go_wp2_with fail
      go_ret
      exact ⟨ret_i64 HO.out, hb1.out.trans (hb.mono hb1.out.size)⟩
    | true =>
      rw [b2] at HNO HYES H2
      cases b3 : ledB t.nodes with
      | false =>
        rw [b3] at HNO H3
        have HO := Lib.hid (HNO.out rfl)
        clear b1 b2 b3 HREA
        go_enter Tryz.func93, Tryz.ntmps93
        go_wp2_with fail
        refine (H1.out _ ((Below.refl _ _).alloc (Nat.le_refl _) _)).mono ?_
        rintro e w1 ⟨rfl, hb⟩
        have q0 : w1.cell? ⟨w.heap.size, 0, none⟩ = some (.slice A t.nodes.length c) := (hb.cell (p := ⟨w.heap.size, 0, none⟩) (by simp)).trans (by simp)
        have q1 : w1.cell? ⟨w.heap.size, 1, none⟩ = some (.int .i64 t.last) := (hb.cell (p := ⟨w.heap.size, 1, none⟩) (by simp)).trans (by simp)
        have q2 : w1.cell? ⟨w.heap.size, 2, none⟩ = some (.int .i64 t.rn) := (hb.cell (p := ⟨w.heap.size, 2, none⟩) (by simp)).trans (by simp)
        have q3 : w1.cell? ⟨w.heap.size, 3, none⟩ = some (.int .i64 t.rb) := (hb.cell (p := ⟨w.heap.size, 3, none⟩) (by simp)).trans (by simp)
        have hz1 : w.heap.size < w1.heap.size := by have := hb.size; simp at this; omega
        have hb1 := Lib.hid (((Below.refl w.heap.size w).alloc (Nat.le_refl _) (.cells #[.slice A t.nodes.length c, .int .i64 t.last, .int .i64 t.rn, .int .i64 t.rb] 26)).trans (hb.mono (by simp)))
        clear hb
        go_wp2_with fail
        refine (H2.out _ hb1.out).mono ?_
        rintro e w2 ⟨rfl, hb⟩
        have r0 := (hb.cell (p := ⟨w.heap.size, 0, none⟩) hz1).trans q0
        have r1 := (hb.cell (p := ⟨w.heap.size, 1, none⟩) hz1).trans q1
        have r2 := (hb.cell (p := ⟨w.heap.size, 2, none⟩) hz1).trans q2
        have r3 := (hb.cell (p := ⟨w.heap.size, 3, none⟩) hz1).trans q3
        have hz2 : w.heap.size < w2.heap.size := by have := hb.size; omega
        have hb2 := Lib.hid (hb1.out.trans (hb.mono hb1.out.size))
        clear hb
        go_wp2_with fail
        refine (H3.out _ hb2.out).mono ?_
        rintro e w3 ⟨rfl, hb⟩
        go_wp2_with fail
        go_ret
        exact ⟨ret_i64 HO.out, hb2.out.trans (hb.mono hb2.out.size)⟩
      | true =>
        rw [b3] at HNO HYES H3
        have H4 := Lib.hid (HREA.out (fun x hx => (led_mem b3 hx).1))
        cases b4 : reachedB t.nodes with
        | false =>
          rw [b4] at HNO H4
          have HO := Lib.hid (HNO.out rfl)
          clear b1 b2 b3 b4 HREA
          go_enter Tryz.func93, Tryz.ntmps93
          go_wp2_with fail
          refine (H1.out _ ((Below.refl _ _).alloc (Nat.le_refl _) _)).mono ?_
          rintro e w1 ⟨rfl, hb⟩
          have q0 : w1.cell? ⟨w.heap.size, 0, none⟩ = some (.slice A t.nodes.length c) := (hb.cell (p := ⟨w.heap.size, 0, none⟩) (by simp)).trans (by simp)
          have q1 : w1.cell? ⟨w.heap.size, 1, none⟩ = some (.int .i64 t.last) := (hb.cell (p := ⟨w.heap.size, 1, none⟩) (by simp)).trans (by simp)
          have q2 : w1.cell? ⟨w.heap.size, 2, none⟩ = some (.int .i64 t.rn) := (hb.cell (p := ⟨w.heap.size, 2, none⟩) (by simp)).trans (by simp)
          have q3 : w1.cell? ⟨w.heap.size, 3, none⟩ = some (.int .i64 t.rb) := (hb.cell (p := ⟨w.heap.size, 3, none⟩) (by simp)).trans (by simp)
          have hz1 : w.heap.size < w1.heap.size := by have := hb.size; simp at this; omega
          have hb1 := Lib.hid (((Below.refl w.heap.size w).alloc (Nat.le_refl _) (.cells #[.slice A t.nodes.length c, .int .i64 t.last, .int .i64 t.rn, .int .i64 t.rb] 26)).trans (hb.mono (by simp)))
          clear hb
          go_wp2_with fail
          refine (H2.out _ hb1.out).mono ?_
          rintro e w2 ⟨rfl, hb⟩
          have r0 := (hb.cell (p := ⟨w.heap.size, 0, none⟩) hz1).trans q0
          have r1 := (hb.cell (p := ⟨w.heap.size, 1, none⟩) hz1).trans q1
          have r2 := (hb.cell (p := ⟨w.heap.size, 2, none⟩) hz1).trans q2
          have r3 := (hb.cell (p := ⟨w.heap.size, 3, none⟩) hz1).trans q3
          have hz2 : w.heap.size < w2.heap.size := by have := hb.size; omega
          have hb2 := Lib.hid (hb1.out.trans (hb.mono hb1.out.size))
          clear hb
          go_wp2_with fail
          refine (H3.out _ hb2.out).mono ?_
          rintro e w3 ⟨rfl, hb⟩
          have s0 := (hb.cell (p := ⟨w.heap.size, 0, none⟩) hz2).trans r0
          have s1 := (hb.cell (p := ⟨w.heap.size, 1, none⟩) hz2).trans r1
          have s2 := (hb.cell (p := ⟨w.heap.size, 2, none⟩) hz2).trans r2
          have s3 := (hb.cell (p := ⟨w.heap.size, 3, none⟩) hz2).trans r3
          have hb3 := Lib.hid (hb2.out.trans (hb.mono hb2.out.size))
          clear hb
          go_wp2_with fail
          refine (H4.out _ hb3.out).mono ?_
          rintro e w4 ⟨rfl, hb⟩
          go_wp2_with fail
          go_ret
          exact ⟨ret_i64 HO.out, hb3.out.trans (hb.mono hb3.out.size)⟩
        | true =>
          rw [b4] at HYES H4
          have HO := Lib.hid (HYES.out rfl)
          clear b1 b2 b3 b4 HREA
          go_enter Tryz.func93, Tryz.ntmps93
          go_wp2_with fail
          refine (H1.out _ ((Below.refl _ _).alloc (Nat.le_refl _) _)).mono ?_
          rintro e w1 ⟨rfl, hb⟩
          have q0 : w1.cell? ⟨w.heap.size, 0, none⟩ = some (.slice A t.nodes.length c) := (hb.cell (p := ⟨w.heap.size, 0, none⟩) (by simp)).trans (by simp)
          have q1 : w1.cell? ⟨w.heap.size, 1, none⟩ = some (.int .i64 t.last) := (hb.cell (p := ⟨w.heap.size, 1, none⟩) (by simp)).trans (by simp)
          have q2 : w1.cell? ⟨w.heap.size, 2, none⟩ = some (.int .i64 t.rn) := (hb.cell (p := ⟨w.heap.size, 2, none⟩) (by simp)).trans (by simp)
          have q3 : w1.cell? ⟨w.heap.size, 3, none⟩ = some (.int .i64 t.rb) := (hb.cell (p := ⟨w.heap.size, 3, none⟩) (by simp)).trans (by simp)
          have hz1 : w.heap.size < w1.heap.size := by have := hb.size; simp at this; omega
          have hb1 := Lib.hid (((Below.refl w.heap.size w).alloc (Nat.le_refl _) (.cells #[.slice A t.nodes.length c, .int .i64 t.last, .int .i64 t.rn, .int .i64 t.rb] 26)).trans (hb.mono (by simp)))
          clear hb
          go_wp2_with fail
          refine (H2.out _ hb1.out).mono ?_
          rintro e w2 ⟨rfl, hb⟩
          have r0 := (hb.cell (p := ⟨w.heap.size, 0, none⟩) hz1).trans q0
          have r1 := (hb.cell (p := ⟨w.heap.size, 1, none⟩) hz1).trans q1
          have r2 := (hb.cell (p := ⟨w.heap.size, 2, none⟩) hz1).trans q2
          have r3 := (hb.cell (p := ⟨w.heap.size, 3, none⟩) hz1).trans q3
          have hz2 : w.heap.size < w2.heap.size := by have := hb.size; omega
          have hb2 := Lib.hid (hb1.out.trans (hb.mono hb1.out.size))
          clear hb
          go_wp2_with fail
          refine (H3.out _ hb2.out).mono ?_
          rintro e w3 ⟨rfl, hb⟩
          have s0 := (hb.cell (p := ⟨w.heap.size, 0, none⟩) hz2).trans r0
          have s1 := (hb.cell (p := ⟨w.heap.size, 1, none⟩) hz2).trans r1
          have s2 := (hb.cell (p := ⟨w.heap.size, 2, none⟩) hz2).trans r2
          have s3 := (hb.cell (p := ⟨w.heap.size, 3, none⟩) hz2).trans r3
          have hb3 := Lib.hid (hb2.out.trans (hb.mono hb2.out.size))
          clear hb
          go_wp2_with fail
          refine (H4.out _ hb3.out).mono ?_
          rintro e w4 ⟨rfl, hb⟩
          go_wp2_with fail
          go_ret
          exact ⟨ret_i64 HO.out, hb3.out.trans (hb.mono hb3.out.size)⟩

end Go.Proofs.YtkmnbbocahjmaaaGreatDoor
