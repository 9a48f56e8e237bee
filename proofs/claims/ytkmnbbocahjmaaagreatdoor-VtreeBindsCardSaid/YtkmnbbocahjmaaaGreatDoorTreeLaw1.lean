/- DERIVED. Walks over the document's own Exact, New, Small. -/
import Derived.Test.YtkmnbbocahjmaaaGreatDoorTreeRSame2
namespace Go.Proofs.YtkmnbbocahjmaaaGreatDoor
open Go.RowKit Go.Sort
open PathM TreeM
set_option linter.unusedVariables false

set_option maxHeartbeats 2000000 in
theorem rexact_any (v u : Value) (a b : Tr) (B : Nat) (w : World) (hN : NodesIn w B v a.nodes) (hM : NodesIn w B u b.nodes) (hB : B ≤ w.heap.size) :
    Calls Tryz.prog 25 #[trV v a, trV u b] w (BelowB (decide (a = b)) w) := by
  unfold BelowB
  have hno := fun W (hW : Below w.heap.size w W) => rnodes_any v u a.nodes b.nodes w.heap.size W ((hN.more hB).below hW) ((hM.more hB).below hW) hW.size
  obtain ⟨A1, c1, rfl⟩ := nodes_len hN
  obtain ⟨A2, c2, rfl⟩ := nodes_len hM
  have HNO := Lib.hid hno
  clear hno hN hM
  unfold trV BelowB at *
  obtain ⟨n1, l1, r1, s1⟩ := a
  obtain ⟨n2, l2, r2, s2⟩ := b
  simp only at *
  have hdec : decide ((⟨n1, l1, r1, s1⟩ : Tr) = ⟨n2, l2, r2, s2⟩) = (decide (l1 = l2) && ((r1 == r2 && s1 == s2) && decide (n1 = n2))) := by
    rw [Bool.eq_iff_iff]; simp; constructor
    · rintro ⟨h1, h2, h3, h4⟩; exact ⟨h2, ⟨h3, h4⟩, h1⟩
    · rintro ⟨h2, ⟨h3, h4⟩, h1⟩; exact ⟨h1, h2, h3, h4⟩
  rw [hdec]
  clear hdec
  have hB1 : Below w.heap.size w ((w.alloc (.cells #[.slice A1 n1.length c1, .int .i64 l1, .int .i64 r1, .int .i64 s1] 26)).alloc (.cells #[.slice A2 n2.length c2, .int .i64 l2, .int .i64 r2, .int .i64 s2] 26)) :=
    ((Below.refl _ _).alloc (Nat.le_refl _) _).alloc (by simp) _
  have HB := Lib.hid hB1
  clear hB1
  have hre := fun W => room_eql r1 s1 r2 s2 W
  by_cases h1 : l1 = l2
  · have q1 : (l1 == l2) = true := by simpa using h1
    rw [decide_eq_true h1]
    clear h1
    cases hrr : (r1 == r2 && s1 == s2) with
    | true =>
      rw [hrr] at hre
      have hc := HNO.out _ HB.out
      generalize decide (n1 = n2) = r at *
      clear HNO
      have HC := Lib.hid hc
      clear hc hrr
      generalize n1.length = m1 at *
      generalize n2.length = m2 at *
      go_enter Tryz.func25, Tryz.ntmps25
      go_wp2_with (go_at_call 64; refine HC.out.mono ?_; rintro e w' ⟨rfl, hb'⟩)
      go_ret
      exact ⟨rfl, HB.out.trans (hb'.mono HB.out.size)⟩
    | false =>
      rw [hrr] at hre
      clear hrr HNO
      generalize n1.length = m1 at *
      generalize n2.length = m2 at *
      go_enter Tryz.func25, Tryz.ntmps25
      go_wp2
      go_ret
      exact ⟨rfl, HB.out⟩
  · have q1 : (l1 == l2) = false := by simpa using h1
    rw [decide_eq_false h1]
    clear h1 HNO hre
    generalize n1.length = m1 at *
    generalize n2.length = m2 at *
    go_enter Tryz.func25, Tryz.ntmps25
    go_wp2
    go_ret
    exact ⟨rfl, HB.out⟩

set_option maxRecDepth 100000 in
theorem rnew_any (rn rb : Int) (w : World) : Calls Tryz.prog 37 #[.agg #[.int .i64 rn, .int .i64 rb]] w (TreePost (newT rn rb) w) := by
  unfold TreePost
  go_enter Tryz.func37, Tryz.ntmps37
  go_wp2
  generalize hA : (.cells #[.int .i64 rn, .int .i64 rb] 24 : Obj) = A
  generalize hB : (.cells #[.slice (some ⟨w.heap.size + 1 + 1, 0, none⟩) 1 1, .int .i64 1, .int .i64 rn, .int .i64 rb] 26 : Obj) = B
  generalize hC : (.cells #[.int .i64 1, .int .i64 1, .int .i64 493, .int .i64 0, .int .i64 0, .string { data := #[] }, .slice none 0 0] 64 : Obj) = C
  have h2 := blk2 w A B C
  have h3 := blk3 w A B C
  have hb := b3 w A B C
  have hs : w.heap.size + 1 + 1 < (((w.alloc A).alloc B).alloc C).heap.size := by simp
  generalize ((w.alloc A).alloc B).alloc C = W at *
  rw [← hB] at h2
  rw [← hC] at h3
  refine bodyPost_ret (results_cell_row rfl _ _ _ 26 _ (0, 0) _ rfl h2 Tryz.underlying26 rfl (by kernel_rfl)) rfl ?_
  refine ⟨_, rfl, ⟨_, 1, rfl, by simp [newT], by simp [newT], fun _ => ⟨_, 0, rfl, hs, fun i hi => ?_⟩⟩, hb⟩
  obtain rfl : i = 0 := by simp [newT] at hi; omega
  exact ⟨(cell_blk h3 _).trans rfl, (cell_blk h3 _).trans rfl, (cell_blk h3 _).trans rfl, (cell_blk h3 _).trans rfl, (cell_blk h3 _).trans rfl, (cell_blk h3 _).trans rfl, by simp [newT, ndAt], _, (cell_blk h3 _).trans rfl, ents_nil _ _⟩

/-- Has a tree not too much for the document's answer? -/
def okSm (l : List Nd) (i : Nat) : Bool := decide ((ndAt l i).es.length ≤ 200) && decide ((ndAt l i).data.length ≤ 20000)
def sumE (l : List Nd) : Nat → Nat
  | 0 => 0
  | k + 1 => sumE l k + (ndAt l k).es.length
def smallB (t : Tr) : Bool := decide (t.last ≤ 1099511627776) && (allTo (okSm t.nodes) (min t.nodes.length 200) && ((decide (t.nodes.length ≤ 60) && decide (sumE t.nodes (min t.nodes.length 200) ≤ 200)) || decide (512 < t.nodes.length)))
theorem sum_le {l : List Nd} : ∀ k, allTo (okSm l) k = true → sumE l k ≤ 200 * k := by
  intro k
  induction k with
  | zero => intro _; simp [sumE]
  | succ k ih =>
    intro h
    rw [allTo, Bool.and_eq_true] at h
    have h1 := ih h.1
    have h2 := h.2
    simp [okSm] at h2
    simp only [sumE]; omega

set_option maxRecDepth 100000 in
set_option maxHeartbeats 4000000 in
theorem small_any (nv : Value) (t : Tr) (B : Nat) (w : World) (hN : NodesIn w B nv t.nodes) (hB : B ≤ w.heap.size) :
    Calls Tryz.prog 9 #[trV nv t] w (BelowB (smallB t) w) := by
  unfold BelowB
  obtain ⟨hlen, hcs⟩ := (hN.more hB).cases
  obtain ⟨A, c, rfl⟩ := nodes_len hN
  obtain ⟨r, hr⟩ : ∃ r, smallB t = r := ⟨_, rfl⟩
  rw [hr]
  unfold smallB at hr
  unfold trV
  by_cases hla : t.last ≤ 1099511627776
  · rw [decide_eq_true hla, Bool.true_and] at hr
    have hfail : ∀ k, k < t.nodes.length → k < 200 → okSm t.nodes k = false → r = false := fun k h1 h2 h => by rw [← hr, allTo_not (i := k) (by omega) h]; rfl
    have hfin : allTo (okSm t.nodes) (min t.nodes.length 200) = true → ((decide (t.nodes.length ≤ 60) && decide (sumE t.nodes (min t.nodes.length 200) ≤ 200)) || decide (512 < t.nodes.length)) = r := fun h => by rw [← hr, h]; rfl
    have HFA := Lib.hid hfail; have HFI := Lib.hid hfin; have HCS := Lib.hid hcs
    clear hfail hfin hcs hN hr
    generalize hn : t.nodes.length = n at *
    have HN := Lib.hid hn
    clear hn
    generalize t.last = la at *
    generalize t.rn = rn at *
    generalize t.rb = rb at *
    go_enter Tryz.func9, Tryz.ntmps9
    go_wp2
    have hB1 : Below w.heap.size w (w.alloc (.cells #[.slice A n c, .int .i64 la, .int .i64 rn, .int .i64 rb] 26)) := (Below.refl _ _).alloc (Nat.le_refl _) _
    have t0 : (w.alloc (.cells #[.slice A n c, .int .i64 la, .int .i64 rn, .int .i64 rb] 26)).cell? ⟨w.heap.size, 0, none⟩ = some (.slice A n c) := by simp
    generalize w.alloc (.cells #[.slice A n c, .int .i64 la, .int .i64 rn, .int .i64 rb] 26) = W0 at *
    have HB := Lib.hid hB1
    clear hB1
    go_loopw [3, 4] (fun s i wr => ∃ k : Nat, k ≤ n ∧ k ≤ 200 ∧ i = .int .i64 k ∧ s = .int .i64 (sumE t.nodes k) ∧ wr = W0 ∧ allTo (okSm t.nodes) k = true) (fun _ i _ => n - (intOf i).toNat)
    case atStart => exact ⟨0, by omega, by omega, rfl, rfl, rfl, rfl⟩
    case round =>
      obtain ⟨k, hk, hk2, rfl, rfl, rfl, hto⟩ := hrel
      have hsl := sum_le k hto
      have HT := Lib.hid hto
      clear hto
      by_cases hlt : k < n
      · have hkk : (k : Int) < (n : Int) := by omega
        by_cases hk3 : k < 200
        · have hkk2 : (k : Int) < 200 := by omega
          obtain ⟨b, off, cc, hA1, hb1, hcells⟩ : ∃ b off cc, Value.slice A n c = .slice (some ⟨b, off, none⟩) n cc ∧ b < w.heap.size ∧ NodeIn w w.heap.size b (off + k * 7) (ndAt t.nodes k) := by
            rcases HCS.out with ⟨_, _, _, h0⟩ | ⟨b, off, cc, h1, _, h3, _, h2⟩
            · rw [← HN.out, h0] at hlt; exact absurd hlt (by simp)
            · exact ⟨b, off, cc, h1, h3, h2 k hlt⟩
          cases hA1
          obtain ⟨_, _, _, _, _, x5, hdl, ev, x6, hE⟩ := hcells.below hb1 HB.out
          obtain ⟨Ae, ce, rfl, hel⟩ := ents_len hE
          have hok : okSm t.nodes k = (decide ((ndAt t.nodes k).es.length ≤ 200) && decide ((ndAt t.nodes k).data.length ≤ 20000)) := rfl
          have hsz : (nm (ndAt t.nodes k).data).size = (ndAt t.nodes k).data.length := nm_size _
          have hsum : sumE t.nodes (k + 1) = sumE t.nodes k + (ndAt t.nodes k).es.length := rfl
          clear hcells hE
          generalize (ndAt t.nodes k).es.length = m at *
          generalize (ndAt t.nodes k).data.length = d at *
          generalize nm (ndAt t.nodes k).data = D at *
          by_cases h1 : m ≤ 200
          · have j1 : decide ((200 : Int) < (m : Int)) = false := by simp; omega
            have j2 : decide (200 < m) = false := by simp; omega
            by_cases h2 : d ≤ 20000
            · have j3 : decide ((20000 : Int) < (D.size : Int)) = false := decide_eq_false (by omega)
              have j4 : decide (20000 < D.size) = false := decide_eq_false (by omega)
              have HO := Lib.hid (allTo_succ HT.out (by rw [hok]; simp [h1, h2]))
              have HS := Lib.hid hsum
              clear hok hsum
              go_wp2
              go_roundw
              case rel => exact ⟨k + 1, by omega, by omega, by go_num, by rw [HS.out]; go_num, trivial, HO.out⟩
              case measure => simp [intOf]; omega
            · have j3 : decide ((20000 : Int) < (D.size : Int)) = true := decide_eq_true (by omega)
              have j4 : decide (20000 < D.size) = true := decide_eq_true (by omega)
              have HO := Lib.hid (HFA.out k hlt hk3 (by rw [hok]; simp [h2]))
              clear hok hsum
              go_wp2
              go_ret
              exact ⟨ret_bool HO.out.symm, HB.out⟩
          · have j1 : decide ((200 : Int) < (m : Int)) = true := by simp; omega
            have j2 : decide (200 < m) = true := by simp; omega
            have HO := Lib.hid (HFA.out k hlt hk3 (by rw [hok]; simp [h1]))
            clear hok hsum
            go_wp2
            go_ret
            exact ⟨ret_bool HO.out.symm, HB.out⟩
        · obtain rfl : k = 200 := by omega
          have hm : min n 200 = 200 := by omega
          have HO := Lib.hid (HFI.out (by rw [hm]; exact HT.out))
          rw [hm] at HO
          clear hm
          have h60 : decide (n ≤ 60) = false := by simp; omega
          have h61 : decide ((n : Int) ≤ 60) = false := by simp; omega
          rw [h60, Bool.false_and, Bool.false_or] at HO
          have hx : decide ((512 : Int) < (n : Int)) = decide (512 < n) := by rw [Bool.eq_iff_iff]; simp; omega
          generalize decide (512 < n) = z at *
          go_wp2
          go_ret
          exact ⟨ret_bool (by rw [← HO.out]), HB.out⟩
      · obtain rfl : k = n := by omega
        have hm : min k 200 = k := by omega
        have HO := Lib.hid (HFI.out (by rw [hm]; exact HT.out))
        rw [hm] at HO
        clear hm
        have h512 : decide (512 < k) = false := by simp; omega
        have h513 : decide ((512 : Int) < (k : Int)) = false := by simp; omega
        rw [h512, Bool.or_false] at HO
        by_cases h60 : k ≤ 60
        · have h61 : decide ((k : Int) ≤ 60) = true := by simp; omega
          have h62 : decide (k ≤ 60) = true := by simp; omega
          rw [h62, Bool.true_and] at HO
          have hx : decide ((sumE t.nodes k : Int) ≤ 200) = decide (sumE t.nodes k ≤ 200) := by rw [Bool.eq_iff_iff]; simp; omega
          cases hz : decide (sumE t.nodes k ≤ 200) with
          | true =>
            rw [hz] at HO hx
            clear hz
            go_wp2
            go_ret
            exact ⟨ret_bool HO.out, HB.out⟩
          | false =>
            rw [hz] at HO hx
            clear hz
            go_wp2
            go_ret
            exact ⟨ret_bool HO.out, HB.out⟩
        · have h61 : decide ((k : Int) ≤ 60) = false := by simp; omega
          have h62 : decide (k ≤ 60) = false := by simp; omega
          rw [h62, Bool.false_and] at HO
          go_wp2
          go_ret
          exact ⟨ret_bool HO.out, HB.out⟩
  · have h1 : decide ((1099511627776 : Int) < t.last) = true := by simp; omega
    rw [decide_eq_false hla, Bool.false_and] at hr
    subst hr
    clear hN hcs
    generalize t.nodes.length = n at *
    generalize t.last = la at *
    generalize t.rn = rn at *
    generalize t.rb = rb at *
    go_enter Tryz.func9, Tryz.ntmps9
    go_wp2
    go_ret
    exact ⟨rfl, (Below.refl _ _).alloc (Nat.le_refl _) _⟩

end Go.Proofs.YtkmnbbocahjmaaaGreatDoor
