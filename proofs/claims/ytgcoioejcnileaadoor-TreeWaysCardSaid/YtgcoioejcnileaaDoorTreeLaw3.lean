/- DERIVED. The walk of the law TreeTells. -/
import Derived.Test.YtgcoioejcnileaaDoorTreeGet
import Derived.Test.YtgcoioejcnileaaDoorTreeLaw2
namespace Go.Proofs.YtgcoioejcnileaaDoor
open Go.RowKit Go.Sort
open PathM TreeM
set_option linter.unusedVariables false

theorem plain_data {n : Nd} (h : plainB n = true) : n.data.length ≤ 4096 := by
  simp only [plainB, Bool.and_eq_true] at h
  have h2 := h.2
  split at h2
  · simp only [Bool.and_eq_true, decide_eq_true_eq] at h2; rw [h2.1]; simp
  · split at h2
    · simp only [Bool.and_eq_true, decide_eq_true_eq] at h2; exact h2.1
    · split at h2
      · simp only [Bool.and_eq_true, decide_eq_true_eq] at h2; have := h2.1.1.2; omega
      · cases h2
theorem bytes_le4 : ∀ (l : List Nd), (∀ n ∈ l, n.data.length ≤ 4096) → bytesN l ≤ l.length * 4096 := by
  intro l
  induction l with
  | nil => intro _; simp [bytesN]
  | cons a l ih =>
    intro h
    have := ih (fun n hn => h n (by simp [hn]))
    have ha := h a (by simp)
    simp only [bytesN, List.map_cons, List.sum_cons, List.length_cons] at this ⊢
    omega
theorem bytes_fit {t : Tr} (h : checkB t = true) : bytesN t.nodes ≤ 4611686018427387904 := by
  have h1 := (check_facts h).2.1
  have h2 := bytes_le4 t.nodes (fun n hn => by
    obtain ⟨i, hi, rfl⟩ := nd_of_mem hn
    exact plain_data (allTo_iff.1 (check_parts h).2.2.1 i hi))
  omega
theorem to_pos {t : Tr} (h : checkB t = true) {x : Ent} (hx : x ∈ flat t.nodes) : 0 < x.to := by
  obtain ⟨hri, _, hpos, _, hled, _⟩ := check_facts h
  obtain ⟨_, _, k3, _⟩ := head_parts (check_parts h).1
  have hp := hled x hx
  have he := place_id hp
  rcases Nat.eq_zero_or_pos (place t.nodes x.to) with h0 | h0
  · rw [h0, k3] at he; omega
  · have := hri 0 _ h0 hp; omega
theorem get_sorted {t : Tr} (h : checkB t = true) (id : Int) : Sorted ((getO t.nodes id).getD zeroNd).es := by
  unfold getO
  split
  · rename_i hp; exact sorted_of_ents (check_ents h hp)
  · intro i j _ hj; simp [zeroNd] at hj
theorem get_child {t : Tr} (h : checkB t = true) (id : Int) (key : Bs) {x : Int} (hc : childO ((getO t.nodes id).getD zeroNd).es key = some x) : 0 < x := by
  unfold getO at hc
  split at hc
  · rename_i hp
    simp only [Option.getD_some] at hc
    unfold childO at hc
    obtain ⟨e, he, rfl⟩ := Option.map_eq_some_iff.1 hc
    exact to_pos h (flat_mem.2 ⟨_, hp, List.mem_of_find?_eq_some he⟩)
  · simp [zeroNd, childO] at hc

/-- Three boxes as they were laid. -/
def CT (w : World) (tv : Array Value) (bA : Nat) (csA : Array Value) (bB : Nat) (csB : Array Value) (W : World) : Prop :=
  W.heap[w.heap.size]? = some (.cells tv 26 (0, 0)) ∧ W.heap[bA]? = some (.cells csA 37 (0, 0)) ∧ W.heap[bB]? = some (.cells csB 37 (0, 0)) ∧ Below w.heap.size w W
theorem CT.next {w W W' : World} {tv csA csB : Array Value} {bA bB : Nat} (h : CT w tv bA csA bB csB W) (hb : Below W.heap.size W W') : CT w tv bA csA bB csB W' := by
  obtain ⟨h1, h2, h3, h4⟩ := h
  exact ⟨(hb.block _ (fin_at h1)).trans h1, (hb.block _ (fin_at h2)).trans h2, (hb.block _ (fin_at h3)).trans h3, h4.trans (hb.mono h4.size)⟩
theorem CT.all {w W : World} {t0 t1 t2 t3 p0 p1 p2 p3 p4 p5 p6 q0 q1 q2 q3 q4 q5 q6 : Value} {bA bB : Nat} (h : CT w #[t0, t1, t2, t3] bA #[p0, p1, p2, p3, p4, p5, p6] bB #[q0, q1, q2, q3, q4, q5, q6] W) :
    W.cell? ⟨w.heap.size, 0, none⟩ = some t0 ∧ W.cell? ⟨w.heap.size, 1, none⟩ = some t1 ∧ W.cell? ⟨w.heap.size, 2, none⟩ = some t2 ∧ W.cell? ⟨w.heap.size, 3, none⟩ = some t3 ∧
    W.cell? ⟨bA, 0, none⟩ = some p0 ∧ W.cell? ⟨bA, 1, none⟩ = some p1 ∧ W.cell? ⟨bA, 2, none⟩ = some p2 ∧ W.cell? ⟨bA, 3, none⟩ = some p3 ∧ W.cell? ⟨bA, 4, none⟩ = some p4 ∧ W.cell? ⟨bA, 5, none⟩ = some p5 ∧ W.cell? ⟨bA, 6, none⟩ = some p6 ∧
    W.cell? ⟨bB, 0, none⟩ = some q0 ∧ W.cell? ⟨bB, 1, none⟩ = some q1 ∧ W.cell? ⟨bB, 2, none⟩ = some q2 ∧ W.cell? ⟨bB, 3, none⟩ = some q3 ∧ W.cell? ⟨bB, 4, none⟩ = some q4 ∧ W.cell? ⟨bB, 5, none⟩ = some q5 ∧ W.cell? ⟨bB, 6, none⟩ = some q6 ∧ CT w #[t0, t1, t2, t3] bA #[p0, p1, p2, p3, p4, p5, p6] bB #[q0, q1, q2, q3, q4, q5, q6] W := by
  have h' := h
  obtain ⟨h1, h2, h3, h4⟩ := h
  refine ⟨?_, ?_, ?_, ?_, ?_, ?_, ?_, ?_, ?_, ?_, ?_, ?_, ?_, ?_, ?_, ?_, ?_, ?_, h'⟩
  all_goals first | (rw [cell_blk h1]; rfl) | (rw [cell_blk h2]; rfl) | (rw [cell_blk h3]; rfl)

/-- The tree's box and what was there before. -/
def C1 (w : World) (tv : Array Value) (W : World) : Prop := W.heap[w.heap.size]? = some (.cells tv 26 (0, 0)) ∧ Below w.heap.size w W
theorem C1.next {w W W' : World} {tv : Array Value} (h : C1 w tv W) (hb : Below W.heap.size W W') : C1 w tv W' := ⟨(hb.block _ (fin_at h.1)).trans h.1, h.2.trans (hb.mono h.2.size)⟩
theorem C1.cells {w W : World} {t0 t1 t2 t3 : Value} (h : C1 w #[t0, t1, t2, t3] W) : W.cell? ⟨w.heap.size, 0, none⟩ = some t0 ∧ W.cell? ⟨w.heap.size, 1, none⟩ = some t1 ∧ W.cell? ⟨w.heap.size, 2, none⟩ = some t2 ∧ W.cell? ⟨w.heap.size, 3, none⟩ = some t3 := by
  refine ⟨?_, ?_, ?_, ?_⟩ <;> (rw [cell_blk h.1]; rfl)

set_option maxHeartbeats 8000000 in
theorem tells_law (nv : Value) (t : Tr) (id : Int) (key : ByteArray) (B : Nat) (w : World) (hN : NodesIn w B nv t.nodes) (hB : B ≤ w.heap.size) :
    Calls Tryd.prog 4 #[trV nv t, .int .i64 id, .string key] w fun e w' => e = .returned (.bool true) ∧ Below w.heap.size w w' := by
  have hN0 := hN.more hB
  have hsm := fun W (hW : Below w.heap.size w W) => small_any nv t w.heap.size W (hN0.below hW) hW.size
  have hrc := fun W (hW : Below w.heap.size w W) => rcheck_any nv t w.heap.size W (hN0.below hW) hW.size
  unfold BelowB at hsm
  cases hs : smallB t with
  | false =>
    obtain ⟨A, c, rfl⟩ := nodes_len hN
    rw [hs] at hsm
    have HSM := Lib.hid hsm
    clear hsm hrc hN hN0 hs
    unfold trV at *
    generalize t.nodes.length = n at *
    generalize t.last = la at *
    generalize t.rn = tn at *
    generalize t.rb = tb at *
    go_enter Tryd.func4, Tryd.ntmps4
    go_wp2_with (go_at_call 9; refine (HSM.out _ ((Below.refl _ _).alloc (Nat.le_refl _) _)).mono ?_; rintro e w1 ⟨rfl, hb1⟩; have H1 := Lib.hid (((Below.refl w.heap.size w).alloc (Nat.le_refl _) _).trans (hb1.mono (Nat.le_of_lt (alloc_lt _ _)))); clear hb1)
    go_wp2_with (go_at_call 10; refine (awake_any _).mono ?_; rintro e w2 ⟨rfl, hb2⟩; have H2 := Lib.hid (H1.out.trans (hb2.mono H1.out.size)); clear hb2)
    go_ret
    exact ⟨rfl, H2.out⟩
  | true =>
    rw [hs] at hsm
    have hc1 : ∀ tv : Array Value, C1 w tv (w.alloc (.cells tv 26)) := fun tv => ⟨heap_alloc_new w _, (Below.refl _ _).alloc (Nat.le_refl _) _⟩
    cases hb : checkB t with
    | false =>
      have hck : checkI t = 80 := by unfold checkI; rw [hb]; rfl
      rw [hck] at hrc
      obtain ⟨A, c, rfl⟩ := nodes_len hN
      have HSM := Lib.hid hsm; have HRC := Lib.hid hrc
      clear hsm hrc hN hN0 hs hb hck
      unfold trV at *
      generalize t.nodes.length = n at *
      generalize t.last = la at *
      generalize t.rn = tn at *
      generalize t.rb = tb at *
      have H0 := Lib.hid (hc1 #[.slice A n c, .int .i64 la, .int .i64 tn, .int .i64 tb])
      clear hc1
      go_enter Tryd.func4, Tryd.ntmps4
      go_wp2_with (go_at_call 9; refine (HSM.out _ H0.out.2).mono ?_; rintro e w1 ⟨rfl, hb1⟩; have H1 := Lib.hid (H0.out.next hb1); obtain ⟨d0, d1, d2, d3⟩ := H1.out.cells; clear hb1)
      go_wp2_with fail
      refine (HRC.out _ H1.out.2).mono ?_
      rintro e w2 ⟨rfl, hb2⟩
      have H2 := Lib.hid (H1.out.next hb2)
      clear hb2
      go_wp2_with (go_at_call 10; refine (awake_any _).mono ?_; rintro e w3 ⟨rfl, hb3⟩; have H3 := Lib.hid (H2.out.next hb3); clear hb3)
      go_ret
      exact ⟨rfl, H3.out.2⟩
    | true =>
      have hck : checkI t = 0 := by unfold checkI; rw [hb]; rfl
      rw [hck] at hrc
      obtain ⟨hri, hn, hpos, -⟩ := check_facts hb
      have hget := fun W (hW : Below w.heap.size w W) => get_any nv t id w.heap.size W (hN0.below hW) hW.size hri hpos
      have hrget := fun W (hW : Below w.heap.size w W) => rget_any nv t id w.heap.size W (hN0.below hW) hW.size
      have hus := fun W (hW : Below w.heap.size w W) => usage_any nv t w.heap.size W (hN0.below hW) hW.size (bytes_fit hb)
      have hrus := fun W (hW : Below w.heap.size w W) => rusage_any nv t w.heap.size W (hN0.below hW) hW.size (bytes_fit hb)
      have hli := fun W (hW : Below w.heap.size w W) => links_any nv t id w.heap.size W (hN0.below hW) hW.size (flat_len hN hn)
      have hrli := fun W (hW : Below w.heap.size w W) => rlinks_any nv t id w.heap.size W (hN0.below hW) hW.size (flat_len hN hn)
      have hsort := get_sorted hb id
      have hto := fun x => get_child hb id key.data.toList (x := x)
      obtain ⟨A, c, rfl⟩ := nodes_len hN
      unfold GetPost at hget hrget
      generalize (getO t.nodes id).getD zeroNd = nd at *
      generalize (getO t.nodes id).isSome = iso at *
      have hch := fun ev W B' hE hB' => child_any ev nd key B' W hE hB' hsort
      have hrch := fun ev W B' hE hB' => rchild_any ev nd key B' W hE hB'
      have hsn := fun ev1 ev2 W B' h1 h2 h3 => rsameNode_any ev1 ev2 nd nd B' W h1 h2 h3
      have hdd : decide (nd = nd) = true := by simp
      rw [hdd] at hsn
      unfold ChildPost at hch
      unfold BelowB at hsn
      obtain ⟨d, hd⟩ : ∃ d, (childO nd.es key.data.toList).getD 0 = d := ⟨_, rfl⟩
      have hgt : (childO nd.es key.data.toList).isSome = decide (0 < d) := by
        cases ho : childO nd.es key.data.toList with
        | none => rw [ho] at hd; simp at hd; rw [← hd]; rfl
        | some x => rw [ho] at hd; simp at hd; rw [← hd]; have := hto x ho; simpa using this
      rw [hd, hgt] at hch
      rw [hd] at hrch
      obtain ⟨gt, hgt2⟩ : ∃ gt, decide (0 < d) = gt := ⟨_, rfl⟩
      rw [hgt2] at hch
      have HSM := Lib.hid hsm; have HRC := Lib.hid hrc; have HG := Lib.hid hget; have HRG := Lib.hid hrget; have HUS := Lib.hid hus; have HRUS := Lib.hid hrus; have HLI := Lib.hid hli; have HRLI := Lib.hid hrli
      have HCH := Lib.hid hch; have HRCH := Lib.hid hrch; have HSN := Lib.hid hsn
      clear hsm hrc hget hrget hus hrus hli hrli hch hrch hsn hN hN0 hs hb hck hri hn hpos hsort hto hdd hd hgt
      unfold trV ndV at *
      generalize bytesN t.nodes = bn at *
      generalize links t.nodes id = lk at *
      generalize t.nodes.length = n at *
      generalize t.last = la at *
      generalize t.rn = tn at *
      generalize t.rb = tb at *
      have H0 := Lib.hid (hc1 #[.slice A n c, .int .i64 la, .int .i64 tn, .int .i64 tb])
      clear hc1
      go_enter Tryd.func4, Tryd.ntmps4
      go_wp2_with (go_at_call 9; refine (HSM.out _ H0.out.2).mono ?_; rintro e w1 ⟨rfl, hb1⟩; have H1 := Lib.hid (H0.out.next hb1); obtain ⟨d0, d1, d2, d3⟩ := H1.out.cells; clear hb1)
      go_wp2_with fail
      refine (HRC.out _ H1.out.2).mono ?_
      rintro e w2 ⟨rfl, hb2⟩
      have H2 := Lib.hid (H1.out.next hb2)
      obtain ⟨e0, e1, e2, e3⟩ := H2.out.cells
      clear hb2
      go_wp2_with fail
      refine (HG.out _ H2.out.2).mono ?_
      rintro e w3 ⟨ev1, rfl, hE1, hb3⟩
      obtain ⟨A1, c1, rfl, _⟩ := ents_len hE1
      have H3 := Lib.hid (H2.out.next hb3)
      obtain ⟨i0, i1, i2, i3⟩ := H3.out.cells
      have hl3 : w.heap.size < w3.heap.size := fin_at H3.out.1
      have HE1 := Lib.hid hE1
      clear hb3 hE1
      go_wp2_with fail
      refine (HRG.out _ (H3.out.next ((Below.refl _ _).alloc (Nat.le_refl _) _)).2).mono ?_
      rintro e w4 ⟨ev2, rfl, hE2, hb4⟩
      obtain ⟨A2, c2, rfl, _⟩ := ents_len hE2
      have hA4 : w4.heap[w3.heap.size]? = some (.cells #[.int .i64 nd.id, .int .i64 nd.kind, .int .i64 nd.mode, .int .i64 nd.owner, .int .i64 nd.time, .string (nm nd.data), .slice A1 nd.es.length c1] 37 (0, 0)) := (hb4.block _ (by simp)).trans (heap_alloc_new w3 _)
      have H4 := Lib.hid ((H3.out.next ((Below.refl _ _).alloc (Nat.le_refl _) _)).next hb4)
      have HE1b := Lib.hid ((HE1.out.below (((Below.refl w3.heap.size w3).alloc (Nat.le_refl _) _).trans (hb4.mono (Nat.le_of_lt (alloc_lt _ _))))))
      have hs34 : w3.heap.size < w4.heap.size := fin_at hA4
      have HE2 := Lib.hid hE2
      have K4 : Hid (CT w #[.slice A n c, .int .i64 la, .int .i64 tn, .int .i64 tb] w3.heap.size #[.int .i64 nd.id, .int .i64 nd.kind, .int .i64 nd.mode, .int .i64 nd.owner, .int .i64 nd.time, .string (nm nd.data), .slice A1 nd.es.length c1] w4.heap.size #[.int .i64 nd.id, .int .i64 nd.kind, .int .i64 nd.mode, .int .i64 nd.owner, .int .i64 nd.time, .string (nm nd.data), .slice A2 nd.es.length c2] (w4.alloc (.cells #[.int .i64 nd.id, .int .i64 nd.kind, .int .i64 nd.mode, .int .i64 nd.owner, .int .i64 nd.time, .string (nm nd.data), .slice A2 nd.es.length c2] 37))) :=
        Lib.hid ⟨(heap_alloc_old w4 _ (fin_at H4.out.1)).trans H4.out.1, (heap_alloc_old w4 _ hs34).trans hA4, heap_alloc_new w4 _, H4.out.2.alloc H4.out.2.size _⟩
      have HF1 := Lib.hid (((HE1b.out.more (Nat.le_of_lt hs34)).below ((Below.refl w4.heap.size w4).alloc (Nat.le_refl _) (.cells #[.int .i64 nd.id, .int .i64 nd.kind, .int .i64 nd.mode, .int .i64 nd.owner, .int .i64 nd.time, .string (nm nd.data), .slice A2 nd.es.length c2] 37))))
      have HF2 := Lib.hid ((HE2.out.below ((Below.refl w4.heap.size w4).alloc (Nat.le_refl _) (.cells #[.int .i64 nd.id, .int .i64 nd.kind, .int .i64 nd.mode, .int .i64 nd.owner, .int .i64 nd.time, .string (nm nd.data), .slice A2 nd.es.length c2] 37))))
      clear hb4 hE2 hA4
      go_wp2_with fail
      refine (HCH.out _ _ w4.heap.size HF2.out (Nat.le_of_lt (alloc_lt _ _))).mono ?_
      rintro e w5 ⟨rfl, hb5⟩
      have K5 := Lib.hid (K4.out.next hb5)
      have HE1c := Lib.hid (HF1.out.below (hb5.mono (Nat.le_of_lt (alloc_lt _ _))))
      have HE2c := Lib.hid (HF2.out.below (hb5.mono (Nat.le_of_lt (alloc_lt _ _))))
      have hs5 : w4.heap.size ≤ w5.heap.size := Nat.le_trans (Nat.le_of_lt (alloc_lt _ _)) hb5.size
      obtain ⟨j0, j1, j2, j3, -, -, -, -, -, -, -, l0, l1, l2, l3, l4, l5, l6, -⟩ := K5.out.all
      clear hb5
      go_wp2_with fail
      refine (HRCH.out _ _ w4.heap.size HE2c.out hs5).mono ?_
      rintro e w6 ⟨rfl, hb6⟩
      have K6 := Lib.hid (K5.out.next hb6)
      have HE1d := Lib.hid (HE1c.out.below (hb6.mono hs5))
      have HE2d := Lib.hid (HE2c.out.below (hb6.mono hs5))
      have hs6 : w4.heap.size ≤ w6.heap.size := Nat.le_trans hs5 hb6.size
      obtain ⟨m0, m1, m2, m3, -⟩ := K6.out.all
      clear hb6
      go_wp2_with fail
      refine (HUS.out _ K6.out.2.2.2).mono ?_
      rintro e w7 ⟨rfl, hb7⟩
      have K7 := Lib.hid (K6.out.next hb7)
      have HE1e := Lib.hid (HE1d.out.below (hb7.mono hs6))
      have HE2e := Lib.hid (HE2d.out.below (hb7.mono hs6))
      have hs7 : w4.heap.size ≤ w7.heap.size := Nat.le_trans hs6 hb7.size
      obtain ⟨o0, o1, o2, o3, -⟩ := K7.out.all
      clear hb7
      go_wp2_with fail
      refine (HRUS.out _ K7.out.2.2.2).mono ?_
      rintro e w8 ⟨rfl, hb8⟩
      have K8 := Lib.hid (K7.out.next hb8)
      have K9 := Lib.hid (K8.out.next ((Below.refl _ _).drew))
      have HE1f := Lib.hid (HE1e.out.below ((hb8.mono hs7).drew))
      have HE2f := Lib.hid (HE2e.out.below ((hb8.mono hs7).drew))
      have hs8 : w4.heap.size ≤ w8.drew.heap.size := Nat.le_trans hs7 hb8.size
      clear hb8
      go_wp2_with fail
      obtain ⟨r0, r1, r2, r3, r4, r5, r6, r7, r8, r9, r10, r11, r12, r13, r14, r15, r16, r17, -⟩ := K9.out.all
      go_region_held3 (fun w' => w'.cell? ⟨w.heap.size, 0, none⟩ = some (.slice A n c) ∧ w'.cell? ⟨w.heap.size, 1, none⟩ = some (.int .i64 la) ∧ w'.cell? ⟨w.heap.size, 2, none⟩ = some (.int .i64 tn) ∧ w'.cell? ⟨w.heap.size, 3, none⟩ = some (.int .i64 tb) ∧ w'.cell? ⟨w3.heap.size, 0, none⟩ = some (.int .i64 nd.id) ∧ w'.cell? ⟨w3.heap.size, 1, none⟩ = some (.int .i64 nd.kind) ∧ w'.cell? ⟨w3.heap.size, 2, none⟩ = some (.int .i64 nd.mode) ∧ w'.cell? ⟨w3.heap.size, 3, none⟩ = some (.int .i64 nd.owner) ∧ w'.cell? ⟨w3.heap.size, 4, none⟩ = some (.int .i64 nd.time) ∧ w'.cell? ⟨w3.heap.size, 5, none⟩ = some (.string (nm nd.data)) ∧ w'.cell? ⟨w3.heap.size, 6, none⟩ = some (.slice A1 nd.es.length c1) ∧ w'.cell? ⟨w4.heap.size, 0, none⟩ = some (.int .i64 nd.id) ∧ w'.cell? ⟨w4.heap.size, 1, none⟩ = some (.int .i64 nd.kind) ∧ w'.cell? ⟨w4.heap.size, 2, none⟩ = some (.int .i64 nd.mode) ∧ w'.cell? ⟨w4.heap.size, 3, none⟩ = some (.int .i64 nd.owner) ∧ w'.cell? ⟨w4.heap.size, 4, none⟩ = some (.int .i64 nd.time) ∧ w'.cell? ⟨w4.heap.size, 5, none⟩ = some (.string (nm nd.data)) ∧ w'.cell? ⟨w4.heap.size, 6, none⟩ = some (.slice A2 nd.es.length c2) ∧ CT w #[.slice A n c, .int .i64 la, .int .i64 tn, .int .i64 tb] w3.heap.size #[.int .i64 nd.id, .int .i64 nd.kind, .int .i64 nd.mode, .int .i64 nd.owner, .int .i64 nd.time, .string (nm nd.data), .slice A1 nd.es.length c1] w4.heap.size #[.int .i64 nd.id, .int .i64 nd.kind, .int .i64 nd.mode, .int .i64 nd.owner, .int .i64 nd.time, .string (nm nd.data), .slice A2 nd.es.length c2] w')
        (first | exact K9.out.all | exact K10.out.all | exact K11.out.all | exact K12.out.all | exact K13.out.all)
        (first
          | (go_at_call 22; refine (HSN.out (.slice A1 nd.es.length c1) (.slice A2 nd.es.length c2) w8.drew w4.heap.size HE1f.out HE2f.out hs8).mono ?_; rintro e w9 ⟨rfl, hb9⟩; have K10 := Lib.hid (K9.out.next hb9); clear hb9)
          | (go_at_call 23; refine (HLI.out w9 K10.out.2.2.2).mono ?_; rintro e w10 ⟨rfl, hb10⟩; have K11 := Lib.hid (K10.out.next hb10); clear hb10)
          | (go_at_call 24; refine (HRLI.out w10 K11.out.2.2.2).mono ?_; rintro e w11 ⟨rfl, hb11⟩; have K12 := Lib.hid (K11.out.next hb11); clear hb11)
          | (go_at_call 10; refine (awake_any w11).mono ?_; rintro e w12 ⟨rfl, hb12⟩; have K13 := Lib.hid (K12.out.next hb12); clear hb12))
      go_wp2
      go_ret
      exact ⟨rfl, K13.out.2.2.2⟩

theorem tells_row (nv : Value) (t : Tr) (id : Int) (key : ByteArray) (w : World) (hN : NodesIn w w.heap.size nv t.nodes) (_ : -9223372036854775808 ≤ id) (_ : id ≤ 9223372036854775807) (_ : key.size ≤ maxLen) :
    Calls Tryd.prog 4 #[trV nv t, .int .i64 id, .string key] w fun e w' => e = .returned (.bool true) ∧ Below w.heap.size w w' :=
  tells_law nv t id key _ w hN (Nat.le_refl _)

end Go.Proofs.YtgcoioejcnileaaDoor
