/- DERIVED. Stage 5, several texts in one: TreeLaw1 TreeLaw2 TreeOpen TreeGet VtMath VtBnd VtScan VtPut VtInv VtKeep. -/
import Derived.Test.YtpicgkoclbpjpaaGreatDoorVnG4
import Derived.Deep.RegionHeld3
import Derived.Test.YtpicgkoclbpjpaaGreatDoorVnG2
import Derived.Deep.Slices
import Derived.SizedLaws
import Derived.OpenShut
import Derived.ChangeArms
import Derived.WideShapes
import Derived.Test.YtpicgkoclbpjpaaGreatDoorVnG1
section
namespace Go.Proofs.YtpicgkoclbpjpaaGreatDoor
open Go.RowKit Go.Sort
open PathM TreeM
set_option linter.unusedVariables false

set_option maxHeartbeats 2000000 in
theorem rexact_any (v u : Value) (a b : Tr) (B : Nat) (w : World) (hN : NodesIn w B v a.nodes) (hM : NodesIn w B u b.nodes) (hB : B ≤ w.heap.size) :
    Calls Tryz.prog 25 #[trV v a, trV u b] w (BelowB (decide (a = b)) w) := by
  unfold BelowB
  have hno := fun W (hW : Below w.heap.size w W) => rnodes_any v u a.nodes b.nodes w.heap.size W ((hN.more hB).below hW) ((hM.more hB).below hW) hW.size
  obtain ⟨A1, c1, rfl⟩ := nodes_len hN
  obtain ⟨A2, c2, rfl⟩ := nodes_len hM
  have HNO := Lib.hid hno
  clear hno hN hM
  unfold trV BelowB at *
  obtain ⟨n1, l1, r1, s1⟩ := a
  obtain ⟨n2, l2, r2, s2⟩ := b
  simp only at *
  have hdec : decide ((⟨n1, l1, r1, s1⟩ : Tr) = ⟨n2, l2, r2, s2⟩) = (decide (l1 = l2) && ((r1 == r2 && s1 == s2) && decide (n1 = n2))) := by
    rw [Bool.eq_iff_iff]; simp; constructor
    · rintro ⟨h1, h2, h3, h4⟩; exact ⟨h2, ⟨h3, h4⟩, h1⟩
    · rintro ⟨h2, ⟨h3, h4⟩, h1⟩; exact ⟨h1, h2, h3, h4⟩
  rw [hdec]
  clear hdec
  have hB1 : Below w.heap.size w ((w.alloc (.cells #[.slice A1 n1.length c1, .int .i64 l1, .int .i64 r1, .int .i64 s1] 26)).alloc (.cells #[.slice A2 n2.length c2, .int .i64 l2, .int .i64 r2, .int .i64 s2] 26)) :=
    ((Below.refl _ _).alloc (Nat.le_refl _) _).alloc (by simp) _
  have HB := Lib.hid hB1
  clear hB1
  have hre := fun W => room_eql r1 s1 r2 s2 W
  by_cases h1 : l1 = l2
  · have q1 : (l1 == l2) = true := by simpa using h1
    rw [decide_eq_true h1]
    clear h1
    cases hrr : (r1 == r2 && s1 == s2) with
    | true =>
      rw [hrr] at hre
      have hc := HNO.out _ HB.out
      generalize decide (n1 = n2) = r at *
      clear HNO
      have HC := Lib.hid hc
      clear hc hrr
      generalize n1.length = m1 at *
      generalize n2.length = m2 at *
      go_enter Tryz.func25, Tryz.ntmps25
      go_wp2_with (go_at_call 64; refine HC.out.mono ?_; rintro e w' ⟨rfl, hb'⟩)
      go_ret
      exact ⟨rfl, HB.out.trans (hb'.mono HB.out.size)⟩
    | false =>
      rw [hrr] at hre
      clear hrr HNO
      generalize n1.length = m1 at *
      generalize n2.length = m2 at *
      go_enter Tryz.func25, Tryz.ntmps25
      go_wp2
      go_ret
      exact ⟨rfl, HB.out⟩
  · have q1 : (l1 == l2) = false := by simpa using h1
    rw [decide_eq_false h1]
    clear h1 HNO hre
    generalize n1.length = m1 at *
    generalize n2.length = m2 at *
    go_enter Tryz.func25, Tryz.ntmps25
    go_wp2
    go_ret
    exact ⟨rfl, HB.out⟩

set_option maxRecDepth 100000 in
theorem rnew_any (rn rb : Int) (w : World) : Calls Tryz.prog 37 #[.agg #[.int .i64 rn, .int .i64 rb]] w (TreePost (newT rn rb) w) := by
  unfold TreePost
  go_enter Tryz.func37, Tryz.ntmps37
  go_wp2
  generalize hA : (.cells #[.int .i64 rn, .int .i64 rb] 24 : Obj) = A
  generalize hB : (.cells #[.slice (some ⟨w.heap.size + 1 + 1, 0, none⟩) 1 1, .int .i64 1, .int .i64 rn, .int .i64 rb] 26 : Obj) = B
  generalize hC : (.cells #[.int .i64 1, .int .i64 1, .int .i64 493, .int .i64 0, .int .i64 0, .string { data := #[] }, .slice none 0 0] 64 : Obj) = C
  have h2 := blk2 w A B C
  have h3 := blk3 w A B C
  have hb := b3 w A B C
  have hs : w.heap.size + 1 + 1 < (((w.alloc A).alloc B).alloc C).heap.size := by simp
  generalize ((w.alloc A).alloc B).alloc C = W at *
  rw [← hB] at h2
  rw [← hC] at h3
  refine bodyPost_ret (results_cell_row rfl _ _ _ 26 _ (0, 0) _ rfl h2 Tryz.underlying26 rfl (by kernel_rfl)) rfl ?_
  refine ⟨_, rfl, ⟨_, 1, rfl, by simp [newT], by simp [newT], fun _ => ⟨_, 0, rfl, hs, fun i hi => ?_⟩⟩, hb⟩
  obtain rfl : i = 0 := by simp [newT] at hi; omega
  exact ⟨(cell_blk h3 _).trans rfl, (cell_blk h3 _).trans rfl, (cell_blk h3 _).trans rfl, (cell_blk h3 _).trans rfl, (cell_blk h3 _).trans rfl, (cell_blk h3 _).trans rfl, by simp [newT, ndAt], _, (cell_blk h3 _).trans rfl, ents_nil _ _⟩

/-- Has a tree not too much for the document's answer? -/
def okSm (l : List Nd) (i : Nat) : Bool := decide ((ndAt l i).es.length ≤ 200) && decide ((ndAt l i).data.length ≤ 20000)
def sumE (l : List Nd) : Nat → Nat
  | 0 => 0
  | k + 1 => sumE l k + (ndAt l k).es.length
def smallB (t : Tr) : Bool := decide (t.last ≤ 1099511627776) && (allTo (okSm t.nodes) (min t.nodes.length 200) && ((decide (t.nodes.length ≤ 60) && decide (sumE t.nodes (min t.nodes.length 200) ≤ 200)) || decide (512 < t.nodes.length)))
theorem sum_le {l : List Nd} : ∀ k, allTo (okSm l) k = true → sumE l k ≤ 200 * k := by
  intro k
  induction k with
  | zero => intro _; simp [sumE]
  | succ k ih =>
    intro h
    rw [allTo, Bool.and_eq_true] at h
    have h1 := ih h.1
    have h2 := h.2
    simp [okSm] at h2
    simp only [sumE]; omega

set_option maxRecDepth 100000 in
set_option maxHeartbeats 4000000 in
theorem small_any (nv : Value) (t : Tr) (B : Nat) (w : World) (hN : NodesIn w B nv t.nodes) (hB : B ≤ w.heap.size) :
    Calls Tryz.prog 9 #[trV nv t] w (BelowB (smallB t) w) := by
  unfold BelowB
  obtain ⟨hlen, hcs⟩ := (hN.more hB).cases
  obtain ⟨A, c, rfl⟩ := nodes_len hN
  obtain ⟨r, hr⟩ : ∃ r, smallB t = r := ⟨_, rfl⟩
  rw [hr]
  unfold smallB at hr
  unfold trV
  by_cases hla : t.last ≤ 1099511627776
  · rw [decide_eq_true hla, Bool.true_and] at hr
    have hfail : ∀ k, k < t.nodes.length → k < 200 → okSm t.nodes k = false → r = false := fun k h1 h2 h => by rw [← hr, allTo_not (i := k) (by omega) h]; rfl
    have hfin : allTo (okSm t.nodes) (min t.nodes.length 200) = true → ((decide (t.nodes.length ≤ 60) && decide (sumE t.nodes (min t.nodes.length 200) ≤ 200)) || decide (512 < t.nodes.length)) = r := fun h => by rw [← hr, h]; rfl
    have HFA := Lib.hid hfail; have HFI := Lib.hid hfin; have HCS := Lib.hid hcs
    clear hfail hfin hcs hN hr
    generalize hn : t.nodes.length = n at *
    have HN := Lib.hid hn
    clear hn
    generalize t.last = la at *
    generalize t.rn = rn at *
    generalize t.rb = rb at *
    go_enter Tryz.func9, Tryz.ntmps9
    go_wp2
    have hB1 : Below w.heap.size w (w.alloc (.cells #[.slice A n c, .int .i64 la, .int .i64 rn, .int .i64 rb] 26)) := (Below.refl _ _).alloc (Nat.le_refl _) _
    have t0 : (w.alloc (.cells #[.slice A n c, .int .i64 la, .int .i64 rn, .int .i64 rb] 26)).cell? ⟨w.heap.size, 0, none⟩ = some (.slice A n c) := by simp
    generalize w.alloc (.cells #[.slice A n c, .int .i64 la, .int .i64 rn, .int .i64 rb] 26) = W0 at *
    have HB := Lib.hid hB1
    clear hB1
    go_loopw [3, 4] (fun s i wr => ∃ k : Nat, k ≤ n ∧ k ≤ 200 ∧ i = .int .i64 k ∧ s = .int .i64 (sumE t.nodes k) ∧ wr = W0 ∧ allTo (okSm t.nodes) k = true) (fun _ i _ => n - (intOf i).toNat)
    case atStart => exact ⟨0, by omega, by omega, rfl, rfl, rfl, rfl⟩
    case round =>
      obtain ⟨k, hk, hk2, rfl, rfl, rfl, hto⟩ := hrel
      have hsl := sum_le k hto
      have HT := Lib.hid hto
      clear hto
      by_cases hlt : k < n
      · have hkk : (k : Int) < (n : Int) := by omega
        by_cases hk3 : k < 200
        · have hkk2 : (k : Int) < 200 := by omega
          obtain ⟨b, off, cc, hA1, hb1, hcells⟩ : ∃ b off cc, Value.slice A n c = .slice (some ⟨b, off, none⟩) n cc ∧ b < w.heap.size ∧ NodeIn w w.heap.size b (off + k * 7) (ndAt t.nodes k) := by
            rcases HCS.out with ⟨_, _, _, h0⟩ | ⟨b, off, cc, h1, _, h3, _, h2⟩
            · rw [← HN.out, h0] at hlt; exact absurd hlt (by simp)
            · exact ⟨b, off, cc, h1, h3, h2 k hlt⟩
          cases hA1
          obtain ⟨_, _, _, _, _, x5, hdl, ev, x6, hE⟩ := hcells.below hb1 HB.out
          obtain ⟨Ae, ce, rfl, hel⟩ := ents_len hE
          have hok : okSm t.nodes k = (decide ((ndAt t.nodes k).es.length ≤ 200) && decide ((ndAt t.nodes k).data.length ≤ 20000)) := rfl
          have hsz : (nm (ndAt t.nodes k).data).size = (ndAt t.nodes k).data.length := nm_size _
          have hsum : sumE t.nodes (k + 1) = sumE t.nodes k + (ndAt t.nodes k).es.length := rfl
          clear hcells hE
          generalize (ndAt t.nodes k).es.length = m at *
          generalize (ndAt t.nodes k).data.length = d at *
          generalize nm (ndAt t.nodes k).data = D at *
          by_cases h1 : m ≤ 200
          · have j1 : decide ((200 : Int) < (m : Int)) = false := by simp; omega
            have j2 : decide (200 < m) = false := by simp; omega
            by_cases h2 : d ≤ 20000
            · have j3 : decide ((20000 : Int) < (D.size : Int)) = false := decide_eq_false (by omega)
              have j4 : decide (20000 < D.size) = false := decide_eq_false (by omega)
              have HO := Lib.hid (allTo_succ HT.out (by rw [hok]; simp [h1, h2]))
              have HS := Lib.hid hsum
              clear hok hsum
              go_wp2
              go_roundw
              case rel => exact ⟨k + 1, by omega, by omega, by go_num, by rw [HS.out]; go_num, trivial, HO.out⟩
              case measure => simp [intOf]; omega
            · have j3 : decide ((20000 : Int) < (D.size : Int)) = true := decide_eq_true (by omega)
              have j4 : decide (20000 < D.size) = true := decide_eq_true (by omega)
              have HO := Lib.hid (HFA.out k hlt hk3 (by rw [hok]; simp [h2]))
              clear hok hsum
              go_wp2
              go_ret
              exact ⟨ret_bool HO.out.symm, HB.out⟩
          · have j1 : decide ((200 : Int) < (m : Int)) = true := by simp; omega
            have j2 : decide (200 < m) = true := by simp; omega
            have HO := Lib.hid (HFA.out k hlt hk3 (by rw [hok]; simp [h1]))
            clear hok hsum
            go_wp2
            go_ret
            exact ⟨ret_bool HO.out.symm, HB.out⟩
        · obtain rfl : k = 200 := by omega
          have hm : min n 200 = 200 := by omega
          have HO := Lib.hid (HFI.out (by rw [hm]; exact HT.out))
          rw [hm] at HO
          clear hm
          have h60 : decide (n ≤ 60) = false := by simp; omega
          have h61 : decide ((n : Int) ≤ 60) = false := by simp; omega
          rw [h60, Bool.false_and, Bool.false_or] at HO
          have hx : decide ((512 : Int) < (n : Int)) = decide (512 < n) := by rw [Bool.eq_iff_iff]; simp; omega
          generalize decide (512 < n) = z at *
          go_wp2
          go_ret
          exact ⟨ret_bool (by rw [← HO.out]), HB.out⟩
      · obtain rfl : k = n := by omega
        have hm : min k 200 = k := by omega
        have HO := Lib.hid (HFI.out (by rw [hm]; exact HT.out))
        rw [hm] at HO
        clear hm
        have h512 : decide (512 < k) = false := by simp; omega
        have h513 : decide ((512 : Int) < (k : Int)) = false := by simp; omega
        rw [h512, Bool.or_false] at HO
        by_cases h60 : k ≤ 60
        · have h61 : decide ((k : Int) ≤ 60) = true := by simp; omega
          have h62 : decide (k ≤ 60) = true := by simp; omega
          rw [h62, Bool.true_and] at HO
          have hx : decide ((sumE t.nodes k : Int) ≤ 200) = decide (sumE t.nodes k ≤ 200) := by rw [Bool.eq_iff_iff]; simp; omega
          cases hz : decide (sumE t.nodes k ≤ 200) with
          | true =>
            rw [hz] at HO hx
            clear hz
            go_wp2
            go_ret
            exact ⟨ret_bool HO.out, HB.out⟩
          | false =>
            rw [hz] at HO hx
            clear hz
            go_wp2
            go_ret
            exact ⟨ret_bool HO.out, HB.out⟩
        · have h61 : decide ((k : Int) ≤ 60) = false := by simp; omega
          have h62 : decide (k ≤ 60) = false := by simp; omega
          rw [h62, Bool.false_and] at HO
          go_wp2
          go_ret
          exact ⟨ret_bool HO.out, HB.out⟩
  · have h1 : decide ((1099511627776 : Int) < t.last) = true := by simp; omega
    rw [decide_eq_false hla, Bool.false_and] at hr
    subst hr
    clear hN hcs
    generalize t.nodes.length = n at *
    generalize t.last = la at *
    generalize t.rn = rn at *
    generalize t.rb = rb at *
    go_enter Tryz.func9, Tryz.ntmps9
    go_wp2
    go_ret
    exact ⟨rfl, (Below.refl _ _).alloc (Nat.le_refl _) _⟩

end Go.Proofs.YtpicgkoclbpjpaaGreatDoor
end

section
namespace Go.Proofs.YtpicgkoclbpjpaaGreatDoor
open Go.RowKit Go.Sort
open PathM TreeM
set_option linter.unusedVariables false

/-- The boxes of a tree and of a room, as they were laid; what was there before stays. -/
def CS (w : World) (a0 a1 a2 a3 r0 r1 : Value) (W : World) : Prop :=
  W.cell? ⟨w.heap.size, 0, none⟩ = some a0 ∧ W.cell? ⟨w.heap.size, 1, none⟩ = some a1 ∧ W.cell? ⟨w.heap.size, 2, none⟩ = some a2 ∧ W.cell? ⟨w.heap.size, 3, none⟩ = some a3 ∧
    W.cell? ⟨w.heap.size + 1, 0, none⟩ = some r0 ∧ W.cell? ⟨w.heap.size + 1, 1, none⟩ = some r1 ∧ Below w.heap.size w W ∧ w.heap.size + 1 < W.heap.size
theorem CS.next {w W W' : World} {a0 a1 a2 a3 r0 r1 : Value} (h : CS w a0 a1 a2 a3 r0 r1 W) (hb : Below W.heap.size W W') : CS w a0 a1 a2 a3 r0 r1 W' := by
  obtain ⟨h0, h1, h2, h3, h4, h5, h6, h7⟩ := h
  have hs := hb.size
  exact ⟨(hb.cell (p := ⟨w.heap.size, 0, none⟩) (by simp; omega)).trans h0, (hb.cell (p := ⟨w.heap.size, 1, none⟩) (by simp; omega)).trans h1, (hb.cell (p := ⟨w.heap.size, 2, none⟩) (by simp; omega)).trans h2, (hb.cell (p := ⟨w.heap.size, 3, none⟩) (by simp; omega)).trans h3,
    (hb.cell (p := ⟨w.heap.size + 1, 0, none⟩) (by simp; omega)).trans h4, (hb.cell (p := ⟨w.heap.size + 1, 1, none⟩) (by simp; omega)).trans h5, h6.trans (hb.mono (by omega)), by omega⟩
theorem CS.bel {w W : World} {a0 a1 a2 a3 r0 r1 : Value} (h : CS w a0 a1 a2 a3 r0 r1 W) : Below w.heap.size w W := h.2.2.2.2.2.2.1
theorem CS.made (w : World) (a0 a1 a2 a3 r0 r1 : Value) (s t : TypeId) : CS w a0 a1 a2 a3 r0 r1 ((w.alloc (.cells #[a0, a1, a2, a3] s)).alloc (.cells #[r0, r1] t)) := by
  have h1 := heap_alloc2_old w (.cells #[a0, a1, a2, a3] s) (.cells #[r0, r1] t)
  have h2 := heap_alloc2_new w (.cells #[a0, a1, a2, a3] s) (.cells #[r0, r1] t)
  exact ⟨(cell_blk h1 _).trans rfl, (cell_blk h1 _).trans rfl, (cell_blk h1 _).trans rfl, (cell_blk h1 _).trans rfl, (cell_blk h2 _).trans rfl, (cell_blk h2 _).trans rfl, ((Below.refl _ _).alloc (Nat.le_refl _) _).alloc (by simp) _, by simp⟩
theorem exact_new (v u : Value) (rn rb : Int) (w : World) (h : NodesIn w w.heap.size v (newT rn rb).nodes) (h' : NodesIn w w.heap.size u (newT rn rb).nodes) :
    Calls Tryz.prog 25 #[trV v (newT rn rb), trV u (newT rn rb)] w fun e w' => e = .returned (.bool true) ∧ Below w.heap.size w w' := by
  refine (rexact_any v u (newT rn rb) (newT rn rb) _ w h h' (Nat.le_refl _)).mono ?_
  rintro e w' ⟨rfl, hb⟩
  exact ⟨ret_bool (by simp), hb⟩

end Go.Proofs.YtpicgkoclbpjpaaGreatDoor
end

section
namespace Go.Proofs.YtpicgkoclbpjpaaGreatDoor
open Go.RowKit Go.WideShapes Go.ChangeShapes
open PathM TreeM
set_option linter.unusedVariables false
set_option maxRecDepth 100000

section
variable {H : Type} {enc : TypeId × Value → H} {W : World}

theorem weights_all {P : Program} {e : TypeId} : ∀ {l : List (DataW H)} {d : DataW H} {n : Nat}, d ∈ l → n ∈ d.weights P e → n ∈ DataW.weightsAll P e l := by
  intro l
  induction l with
  | nil => intro d n h; simp at h
  | cons a l ih =>
    intro d n hd hn
    rw [DataW.weightsAll, List.mem_append]
    rcases List.mem_cons.1 hd with rfl | hd
    · exact .inl hn
    · exact .inr (ih hd hn)

theorem nm_list (s : ByteArray) : nm s.data.toList = s := by simp [nm]
theorem take1 {l : List Value} {i : Nat} (h : i < l.length) : (l.drop i).take 1 = [l[i]] := by
  rw [List.drop_eq_getElem_cons h]; rfl

theorem two_of {α : Type} {l : List α} (h : l.length = 2) : ∃ a b, l = [a, b] := by
  match l, h with
  | [a, b], _ => exact ⟨a, b, rfl⟩
theorem three_of {α : Type} {l : List α} (h : l.length = 3) : ∃ a b c, l = [a, b, c] := by
  match l, h with
  | [a, b, c], _ => exact ⟨a, b, c, rfl⟩
theorem four_of {α : Type} {l : List α} (h : l.length = 4) : ∃ a b c d, l = [a, b, c, d] := by
  match l, h with
  | [a, b, c, d], _ => exact ⟨a, b, c, d, rfl⟩
theorem seven_of {α : Type} {l : List α} (h : l.length = 7) : ∃ a b c d e f g, l = [a, b, c, d, e, f, g] := by
  match l, h with
  | [a, b, c, d, e, f, g], _ => exact ⟨a, b, c, d, e, f, g, rfl⟩

/-- An entry's two cells. -/
theorem ent_open {fuel : Nat} {cs : List Value} {x : DataW H × List MemPlace} (h : DataW.trod enc Tryz.prog W 0 (fun _ => true) true fuel 75 cs = some x) (hw : ∀ n ∈ x.1.weights Tryz.prog 75, n ≤ reachBytes) :
    ∃ e : Ent, cs = [.string (nm e.key), .int .i64 e.to] ∧ e.key.length ≤ 140737488351232 ∧ -9223372036854775808 ≤ e.to ∧ e.to ≤ 9223372036854775807 := by
  obtain ⟨xs, n, _, rfl, hlen, hxl, hf⟩ := DataW.trod_struct Tryz.underlying75 h
  obtain ⟨ca, cb, rfl⟩ := two_of (hlen.trans (by kernel_rfl))
  obtain ⟨xa, xb, rfl⟩ := two_of hxl
  have z9 : Tryz.prog.cellsOf 9 = 1 := by kernel_rfl
  have z3 : Tryz.prog.cellsOf 3 = 1 := by kernel_rfl
  have h0 : DataW.trod enc Tryz.prog W 0 (fun _ => true) true n 9 (([ca, cb].drop 0).take (Tryz.prog.cellsOf 9)) = some xa := hf 0 _ rfl
  have h1 : DataW.trod enc Tryz.prog W 0 (fun _ => true) true n 3 (([ca, cb].drop 1).take (Tryz.prog.cellsOf 3)) = some xb := hf 1 _ rfl
  rw [z9] at h0
  rw [z3] at h1
  obtain ⟨s, e1, rfl, _⟩ := DataW.trod_string Tryz.underlying9 h0
  obtain ⟨k, e3, rfl, hk⟩ := DataW.trod_int Tryz.underlying3 h1
  obtain rfl : ca = .string s := (List.cons.inj e1).1
  obtain rfl : cb = .int .i64 k := (List.cons.inj e3).1
  have hb := bounds_i64 hk
  refine ⟨⟨s.data.toList, k⟩, by rw [nm_list], ?_, hb.1, hb.2⟩
  have := hw s.data.toList.length (by
    simp only [DataW.weights, Tryz.underlying75, List.map_cons, DataW.weightsEach, List.mem_append, List.mem_cons]
    exact .inl (.inl trivial))
  exact this

theorem ents_open {fuel : Nat} {v : Value} {x : DataW H × List MemPlace} (h : DataW.trod enc Tryz.prog W 0 (fun _ => true) true fuel 62 [v] = some x) (hw : ∀ n ∈ x.1.weights Tryz.prog 62, n ≤ reachBytes) :
    ∃ es, EntsIn W W.heap.size v es := by
  have z59 : Tryz.prog.cellsOf 75 = 2 := by kernel_rfl
  have y59 : Tryz.prog.bytesOf 75 = 24 := by kernel_rfl
  rcases Go.Deep.open_slice Tryz.underlying62 h with ⟨h0, _⟩ | ⟨a, len, cap, m, n, D, Pl, hv, hb, hl, hm, hmm, rfl, hi⟩
  · obtain rfl := (List.cons.inj h0).1
    exact ⟨[], none, 0, rfl, by simp, by simp, by simp, fun h => absurd rfl h⟩
  · obtain rfl := (List.cons.inj hv).1
    have hm2 : m = cap := by simpa using hmm
    simp only [DataW.weights, Tryz.underlying62, y59, List.mem_cons, List.mem_append, List.length_map, List.length_range] at hw
    have hsz := hw _ (.inl rfl)
    have hev : ∀ i, i < len → ∃ e : Ent, W.cell? (a.add (i * 2)) = some (.string (nm e.key)) ∧ W.cell? (a.add (i * 2 + 1)) = some (.int .i64 e.to) ∧ e.key.length ≤ 140737488351232 ∧ -9223372036854775808 ≤ e.to ∧ e.to ≤ 9223372036854775807 := by
      intro i hil
      obtain ⟨cs', hc, ht⟩ := hi i (by omega)
      obtain ⟨e, rfl, hb1, hb2, hb3⟩ := ent_open ht (fun n hn => hw n (.inr (.inl (weights_all (List.mem_map.2 ⟨i, by simpa using hil, rfl⟩) hn))))
      rw [z59] at hc
      obtain ⟨_, _, hat⟩ := World.cells?_some hc
      have g0 := hat 0 (by omega)
      have g1 := hat 1 (by omega)
      rw [Go.Deep.add_add] at g0 g1
      exact ⟨e, g0.trans rfl, g1.trans rfl, hb1, hb2, hb3⟩
    obtain ⟨E, hE⟩ := Go.Deep.choose_lt (p := fun i (e : Ent) => W.cell? (a.add (i * 2)) = some (.string (nm e.key)) ∧ W.cell? (a.add (i * 2 + 1)) = some (.int .i64 e.to) ∧ e.key.length ≤ 140737488351232 ∧ -9223372036854775808 ≤ e.to ∧ e.to ≤ 9223372036854775807) hev
    have hlen : ((List.range len).map E).length = len := by simp
    have hat : ∀ k, k < len → entAt ((List.range len).map E) k = E k := fun k hk => by simp [entAt, hk]
    refine ⟨(List.range len).map E, some a, cap, by rw [hlen], by rw [hlen]; omega, by rw [hlen]; unfold reachBytes at hsz; omega, fun x hx => ?_, fun hne => ?_⟩
    · obtain ⟨i, hi2, rfl⟩ := List.mem_map.1 hx
      exact (hE i (by simpa using hi2)).2.2
    · have hpos : 0 < len := by
        rcases Nat.eq_zero_or_pos len with h0 | h0
        · exact absurd (by simp [h0]) hne
        · exact h0
      have g0 := (hE 0 hpos).1
      have hsp : a.spot = none := by
        have := World.cell?_spot g0
        simpa [Addr.add] using this
      obtain ⟨blk, off, spot⟩ := a
      simp only at hsp
      subst hsp
      have hadd : ∀ j, (⟨blk, off, none⟩ : Addr).add j = ⟨blk, off + j, none⟩ := fun j => by
        cases j with
        | zero => simp [Addr.add]
        | succ j => simp [Addr.add]
      simp only [hadd] at hE
      refine ⟨blk, off, rfl, ?_, fun k hk => ?_⟩
      · have := block_lt_of_cell (hE 0 hpos).1; simpa using this
      · rw [hlen] at hk
        rw [hat k hk]
        exact ⟨(hE k hk).1, (hE k hk).2.1⟩

/-- A node's seven cells. -/
theorem node_open {fuel : Nat} {cs : List Value} {x : DataW H × List MemPlace} (h : DataW.trod enc Tryz.prog W 0 (fun _ => true) true fuel 64 cs = some x) (hw : ∀ n ∈ x.1.weights Tryz.prog 64, n ≤ reachBytes) :
    ∃ (e : Nd) (ev : Value), cs = [.int .i64 e.id, .int .i64 e.kind, .int .i64 e.mode, .int .i64 e.owner, .int .i64 e.time, .string (nm e.data), ev] ∧ e.data.length ≤ 140737488351232 ∧ EntsIn W W.heap.size ev e.es := by
  obtain ⟨xs, n, _, rfl, hlen, hxl, hf⟩ := DataW.trod_struct Tryz.underlying64 h
  obtain ⟨c0, c1, c2, c3, c4, c5, c6, rfl⟩ := seven_of (hlen.trans (by kernel_rfl))
  obtain ⟨x0, x1, x2, x3, x4, x5, x6, rfl⟩ := seven_of hxl
  have z9 : Tryz.prog.cellsOf 9 = 1 := by kernel_rfl
  have z3 : Tryz.prog.cellsOf 3 = 1 := by kernel_rfl
  have z35 : Tryz.prog.cellsOf 62 = 1 := by kernel_rfl
  have h0 : DataW.trod enc Tryz.prog W 0 (fun _ => true) true n 3 (([c0, c1, c2, c3, c4, c5, c6].drop 0).take (Tryz.prog.cellsOf 3)) = some x0 := hf 0 _ rfl
  have h1 : DataW.trod enc Tryz.prog W 0 (fun _ => true) true n 3 (([c0, c1, c2, c3, c4, c5, c6].drop 1).take (Tryz.prog.cellsOf 3)) = some x1 := hf 1 _ rfl
  have h2 : DataW.trod enc Tryz.prog W 0 (fun _ => true) true n 3 (([c0, c1, c2, c3, c4, c5, c6].drop 2).take (Tryz.prog.cellsOf 3)) = some x2 := hf 2 _ rfl
  have h3 : DataW.trod enc Tryz.prog W 0 (fun _ => true) true n 3 (([c0, c1, c2, c3, c4, c5, c6].drop 3).take (Tryz.prog.cellsOf 3)) = some x3 := hf 3 _ rfl
  have h4 : DataW.trod enc Tryz.prog W 0 (fun _ => true) true n 3 (([c0, c1, c2, c3, c4, c5, c6].drop 4).take (Tryz.prog.cellsOf 3)) = some x4 := hf 4 _ rfl
  have h5 : DataW.trod enc Tryz.prog W 0 (fun _ => true) true n 9 (([c0, c1, c2, c3, c4, c5, c6].drop 5).take (Tryz.prog.cellsOf 9)) = some x5 := hf 5 _ rfl
  have h6 : DataW.trod enc Tryz.prog W 0 (fun _ => true) true n 62 (([c0, c1, c2, c3, c4, c5, c6].drop 6).take (Tryz.prog.cellsOf 62)) = some x6 := hf 6 _ rfl
  rw [z3] at h0 h1 h2 h3 h4
  rw [z9] at h5
  rw [z35] at h6
  obtain ⟨k0, e0, rfl, _⟩ := DataW.trod_int Tryz.underlying3 h0
  obtain ⟨k1, e1, rfl, _⟩ := DataW.trod_int Tryz.underlying3 h1
  obtain ⟨k2, e2, rfl, _⟩ := DataW.trod_int Tryz.underlying3 h2
  obtain ⟨k3, e3, rfl, _⟩ := DataW.trod_int Tryz.underlying3 h3
  obtain ⟨k4, e4, rfl, _⟩ := DataW.trod_int Tryz.underlying3 h4
  obtain ⟨s, e5, rfl, _⟩ := DataW.trod_string Tryz.underlying9 h5
  obtain rfl : c0 = .int .i64 k0 := (List.cons.inj e0).1
  obtain rfl : c1 = .int .i64 k1 := (List.cons.inj e1).1
  obtain rfl : c2 = .int .i64 k2 := (List.cons.inj e2).1
  obtain rfl : c3 = .int .i64 k3 := (List.cons.inj e3).1
  obtain rfl : c4 = .int .i64 k4 := (List.cons.inj e4).1
  obtain rfl : c5 = .string s := (List.cons.inj e5).1
  simp only [DataW.weights, Tryz.underlying64, List.map_cons, List.map_nil, DataW.weightsEach, List.mem_append, List.mem_cons, List.not_mem_nil, false_or, or_false] at hw
  obtain ⟨es, hE⟩ := ents_open (v := c6) h6 (fun n hn => hw n (.inr hn))
  exact ⟨⟨k0, k1, k2, k3, k4, s.data.toList, es⟩, c6, by rw [nm_list], hw _ (.inl rfl), hE⟩

theorem nodes_open {fuel : Nat} {v : Value} {x : DataW H × List MemPlace} (h : DataW.trod enc Tryz.prog W 0 (fun _ => true) true fuel 22 [v] = some x) (hw : ∀ n ∈ x.1.weights Tryz.prog 22, n ≤ reachBytes) :
    ∃ l, NodesIn W W.heap.size v l := by
  have z37 : Tryz.prog.cellsOf 64 = 7 := by kernel_rfl
  have y37 : Tryz.prog.bytesOf 64 = 80 := by kernel_rfl
  rcases Go.Deep.open_slice Tryz.underlying22 h with ⟨h0, _⟩ | ⟨a, len, cap, m, n, D, Pl, hv, hb, hl, hm, hmm, rfl, hi⟩
  · obtain rfl := (List.cons.inj h0).1
    exact ⟨[], none, 0, rfl, by simp, by simp, fun h => absurd rfl h⟩
  · obtain rfl := (List.cons.inj hv).1
    have hm2 : m = cap := by simpa using hmm
    simp only [DataW.weights, Tryz.underlying22, y37, List.mem_cons, List.mem_append, List.length_map, List.length_range] at hw
    have hsz := hw _ (.inl rfl)
    have hev : ∀ i, i < len → ∃ e : Nd, ∃ ev : Value, (W.cell? (a.add (i * 7)) = some (.int .i64 e.id) ∧ W.cell? (a.add (i * 7 + 1)) = some (.int .i64 e.kind) ∧ W.cell? (a.add (i * 7 + 2)) = some (.int .i64 e.mode) ∧ W.cell? (a.add (i * 7 + 3)) = some (.int .i64 e.owner) ∧
        W.cell? (a.add (i * 7 + 4)) = some (.int .i64 e.time) ∧ W.cell? (a.add (i * 7 + 5)) = some (.string (nm e.data)) ∧ W.cell? (a.add (i * 7 + 6)) = some ev) ∧ e.data.length ≤ 140737488351232 ∧ EntsIn W W.heap.size ev e.es := by
      intro i hil
      obtain ⟨cs', hc, ht⟩ := hi i (by omega)
      obtain ⟨e, ev, rfl, hb1, hb2⟩ := node_open ht (fun n hn => hw n (.inr (.inl (weights_all (List.mem_map.2 ⟨i, by simpa using hil, rfl⟩) hn))))
      rw [z37] at hc
      obtain ⟨_, _, hat⟩ := World.cells?_some hc
      have g0 := hat 0 (by omega)
      have g1 := hat 1 (by omega)
      have g2 := hat 2 (by omega)
      have g3 := hat 3 (by omega)
      have g4 := hat 4 (by omega)
      have g5 := hat 5 (by omega)
      have g6 := hat 6 (by omega)
      rw [Go.Deep.add_add] at g0 g1 g2 g3 g4 g5 g6
      exact ⟨e, ev, ⟨g0.trans rfl, g1.trans rfl, g2.trans rfl, g3.trans rfl, g4.trans rfl, g5.trans rfl, g6.trans rfl⟩, hb1, hb2⟩
    obtain ⟨E, hE⟩ := Go.Deep.choose_lt hev
    have hlen : ((List.range len).map E).length = len := by simp
    have hat : ∀ k, k < len → ndAt ((List.range len).map E) k = E k := fun k hk => by simp [ndAt, hk]
    refine ⟨(List.range len).map E, some a, cap, by rw [hlen], by rw [hlen]; omega, by rw [hlen]; unfold reachBytes at hsz; omega, fun hne => ?_⟩
    have hpos : 0 < len := by
      rcases Nat.eq_zero_or_pos len with h0 | h0
      · exact absurd (by simp [h0]) hne
      · exact h0
    have g0 := (hE 0 hpos)
    have hsp : a.spot = none := by
      obtain ⟨ev, ⟨g, _⟩, _⟩ := g0
      have := World.cell?_spot g
      simpa [Addr.add] using this
    obtain ⟨blk, off, spot⟩ := a
    simp only at hsp
    subst hsp
    have hadd : ∀ j, (⟨blk, off, none⟩ : Addr).add j = ⟨blk, off + j, none⟩ := fun j => by
      cases j with
      | zero => simp [Addr.add]
      | succ j => simp [Addr.add]
    simp only [hadd] at hE
    refine ⟨blk, off, rfl, ?_, fun k hk => ?_⟩
    · obtain ⟨ev, ⟨g, _⟩, _⟩ := hE 0 hpos
      have := block_lt_of_cell g; simpa using this
    · rw [hlen] at hk
      rw [hat k hk]
      obtain ⟨ev, ⟨g0, g1, g2, g3, g4, g5, g6⟩, hd, hes⟩ := hE k hk
      exact ⟨g0, g1, g2, g3, g4, g5, hd, ev, g6, hes⟩

/-- A tree that is an argument. -/
theorem tree_open {b0 : Nat} {v : Value} {d : DataW H} {p : List MemPlace} (hv : Value.okWide Tryz.prog W .any b0 26 v) (h : DataW.Trod enc Tryz.prog W 0 (fun _ => true) true 26 v d p) (hw : ∀ n ∈ d.weights Tryz.prog 26, n ≤ reachBytes) :
    ∃ (nv : Value) (t : Tr), v = trV nv t ∧ NodesIn W W.heap.size nv t.nodes := by
  obtain ⟨cs, rfl, hsz⟩ := okWide_struct Tryz.underlying26 hv
  obtain ⟨l⟩ := cs
  have z26 : Tryz.prog.cellsOf 26 = 4 := by kernel_rfl
  rw [z26] at hsz
  have hsz : l.length = 4 := by simpa using hsz
  obtain ⟨c0, c1, c2, c3, rfl⟩ := four_of hsz
  obtain ⟨fuel, hf⟩ := h
  obtain ⟨xs, n, _, hx, hlen, hxl, hf⟩ := DataW.trod_struct Tryz.underlying26 hf
  obtain ⟨x0, x1, x2, rfl⟩ := three_of hxl
  have z3 : Tryz.prog.cellsOf 3 = 1 := by kernel_rfl
  have z22 : Tryz.prog.cellsOf 22 = 1 := by kernel_rfl
  have z24 : Tryz.prog.cellsOf 24 = 2 := by kernel_rfl
  have h0 : DataW.trod enc Tryz.prog W 0 (fun _ => true) true n 22 (([c0, c1, c2, c3].drop 0).take (Tryz.prog.cellsOf 22)) = some x0 := hf 0 _ rfl
  have h1 : DataW.trod enc Tryz.prog W 0 (fun _ => true) true n 3 (([c0, c1, c2, c3].drop 1).take (Tryz.prog.cellsOf 3)) = some x1 := hf 1 _ rfl
  have h2 : DataW.trod enc Tryz.prog W 0 (fun _ => true) true n 24 (([c0, c1, c2, c3].drop 2).take (Tryz.prog.cellsOf 24)) = some x2 := hf 2 _ rfl
  rw [z22] at h0
  rw [z3] at h1
  rw [z24] at h2
  obtain ⟨k1, e1, _, _⟩ := DataW.trod_int Tryz.underlying3 h1
  obtain rfl : c1 = .int .i64 k1 := (List.cons.inj e1).1
  obtain ⟨ys, n', _, _, _, hyl, hg⟩ := DataW.trod_struct Tryz.underlying24 h2
  obtain ⟨y0, y1, rfl⟩ := two_of hyl
  have i0 : DataW.trod enc Tryz.prog W 0 (fun _ => true) true n' 3 (([c2, c3].drop 0).take (Tryz.prog.cellsOf 3)) = some y0 := hg 0 _ rfl
  have i1 : DataW.trod enc Tryz.prog W 0 (fun _ => true) true n' 3 (([c2, c3].drop 1).take (Tryz.prog.cellsOf 3)) = some y1 := hg 1 _ rfl
  rw [z3] at i0 i1
  obtain ⟨k2, e2, _, _⟩ := DataW.trod_int Tryz.underlying3 i0
  obtain ⟨k3, e3, _, _⟩ := DataW.trod_int Tryz.underlying3 i1
  obtain rfl : c2 = .int .i64 k2 := (List.cons.inj e2).1
  obtain rfl : c3 = .int .i64 k3 := (List.cons.inj e3).1
  have hd : d = .agg ([x0, x1, x2].map (·.1)) := congrArg Prod.fst hx
  subst hd
  simp only [DataW.weights, Tryz.underlying26, List.map_cons, List.map_nil, DataW.weightsEach, List.mem_append] at hw
  obtain ⟨l, hN⟩ := nodes_open (v := c0) h0 (fun n hn => hw n (.inl hn))
  exact ⟨c0, ⟨l, k1, k2, k3⟩, rfl, hN⟩
/-- A room that is an argument. -/
theorem room_open {b0 : Nat} {v : Value} {d : DataW H} {p : List MemPlace} (hv : Value.okWide Tryz.prog W .any b0 24 v) (h : DataW.Trod enc Tryz.prog W 0 (fun _ => true) true 24 v d p) :
    ∃ rn rb : Int, v = .agg #[.int .i64 rn, .int .i64 rb] := by
  obtain ⟨cs, rfl, hsz⟩ := okWide_struct Tryz.underlying24 hv
  obtain ⟨l⟩ := cs
  have z24 : Tryz.prog.cellsOf 24 = 2 := by kernel_rfl
  rw [z24] at hsz
  have hsz : l.length = 2 := by simpa using hsz
  obtain ⟨c2, c3, rfl⟩ := two_of hsz
  obtain ⟨fuel, hf⟩ := h
  obtain ⟨ys, n', _, _, _, hyl, hg⟩ := DataW.trod_struct Tryz.underlying24 hf
  obtain ⟨y0, y1, rfl⟩ := two_of hyl
  have z3 : Tryz.prog.cellsOf 3 = 1 := by kernel_rfl
  have i0 : DataW.trod enc Tryz.prog W 0 (fun _ => true) true n' 3 (([c2, c3].drop 0).take (Tryz.prog.cellsOf 3)) = some y0 := hg 0 _ rfl
  have i1 : DataW.trod enc Tryz.prog W 0 (fun _ => true) true n' 3 (([c2, c3].drop 1).take (Tryz.prog.cellsOf 3)) = some y1 := hg 1 _ rfl
  rw [z3] at i0 i1
  obtain ⟨k2, e2, _, _⟩ := DataW.trod_int Tryz.underlying3 i0
  obtain ⟨k3, e3, _, _⟩ := DataW.trod_int Tryz.underlying3 i1
  obtain rfl : c2 = .int .i64 k2 := (List.cons.inj e2).1
  obtain rfl : c3 = .int .i64 k3 := (List.cons.inj e3).1
  exact ⟨k2, k3, rfl⟩
/-- Entries that are an argument. -/
theorem entries_open {v : Value} {d : DataW H} {p : List MemPlace} {b0 : Nat} (hv : Value.okWide Tryz.prog W .any b0 62 v) (h : DataW.Trod enc Tryz.prog W 0 (fun _ => true) true 62 v d p) (hw : ∀ n ∈ d.weights Tryz.prog 62, n ≤ reachBytes) (hc : v.cells.toList = [v]) :
    ∃ es, EntsIn W W.heap.size v es := by
  obtain ⟨fuel, hf⟩ := h
  rw [hc] at hf
  exact ents_open hf hw
theorem entries_arg {v : Value} {d : DataW H} {p : List MemPlace} {b0 : Nat} (hv : Value.okWide Tryz.prog W .any b0 62 v) (h : DataW.Trod enc Tryz.prog W 0 (fun _ => true) true 62 v d p) (hw : ∀ n ∈ d.weights Tryz.prog 62, n ≤ reachBytes) :
    ∃ es, EntsIn W W.heap.size v es := by
  obtain ⟨a, len, cap, rfl⟩ := okWide_slice Tryz.underlying62 hv
  exact entries_open hv h hw rfl

end
end Go.Proofs.YtpicgkoclbpjpaaGreatDoor
end

section
namespace Go.Proofs.YtpicgkoclbpjpaaGreatDoor
open Go.RowKit Go.Sort
open PathM TreeM
set_option linter.unusedVariables false

/-- The node of a number. -/
def getO (l : List Nd) (id : Int) : Option Nd := if place l id < l.length then some (ndAt l (place l id)) else none
def zeroNd : Nd := ⟨0, 0, 0, 0, 0, [], []⟩
def GetPost (o : Option Nd) (w : World) (e : Ending) (w' : World) : Prop :=
  ∃ ev, e = .returned (.tuple #[ndV ev (o.getD zeroNd), .bool o.isSome]) ∧ EntsIn w' w'.heap.size ev (o.getD zeroNd).es ∧ Below w.heap.size w w'
/-- Behind seven stores into a box. -/
theorem seven_set {W : World} {b : Nat} {a0 a1 a2 a3 a4 a5 a6 : Value} {t : TypeId} (h : W.heap[b]? = some (.cells #[a0, a1, a2, a3, a4, a5, a6] t (0, 0))) (v0 v1 v2 v3 v4 v5 v6 : Value) :
    (((((((W.setCell ⟨b, 0, none⟩ v0).setCell ⟨b, 1, none⟩ v1).setCell ⟨b, 2, none⟩ v2).setCell ⟨b, 3, none⟩ v3).setCell ⟨b, 4, none⟩ v4).setCell ⟨b, 5, none⟩ v5).setCell ⟨b, 6, none⟩ v6).heap[b]? = some (.cells #[v0, v1, v2, v3, v4, v5, v6] t (0, 0)) := by
  have h0 := set_blk (j := 0) h v0
  simp only [List.setIfInBounds_toArray, List.set] at h0
  have h1 := set_blk (j := 1) h0 v1
  simp only [List.setIfInBounds_toArray, List.set] at h1
  have h2 := set_blk (j := 2) h1 v2
  simp only [List.setIfInBounds_toArray, List.set] at h2
  have h3 := set_blk (j := 3) h2 v3
  simp only [List.setIfInBounds_toArray, List.set] at h3
  have h4 := set_blk (j := 4) h3 v4
  simp only [List.setIfInBounds_toArray, List.set] at h4
  have h5 := set_blk (j := 5) h4 v5
  simp only [List.setIfInBounds_toArray, List.set] at h5
  have h6 := set_blk (j := 6) h5 v6
  simp only [List.setIfInBounds_toArray, List.set] at h6
  exact h6
set_option maxRecDepth 100000 in
set_option maxHeartbeats 4000000 in
theorem rget_any (nv : Value) (t : Tr) (id : Int) (B : Nat) (w : World) (hN : NodesIn w B nv t.nodes) (hB : B ≤ w.heap.size) :
    Calls Tryz.prog 27 #[trV nv t, .int .i64 id] w (GetPost (getO t.nodes id) w) := by
  have hN0 := hN.more hB
  have hpl := fun W (hW : Below w.heap.size w W) => rplace_any nv t id w.heap.size W (hN0.below hW) hW.size
  unfold GetPost
  by_cases hp : place t.nodes id < t.nodes.length
  · have ho : getO t.nodes id = some (ndAt t.nodes (place t.nodes id)) := by unfold getO; rw [if_pos hp]
    have hpi : placeI t.nodes id = (place t.nodes id : Int) := by unfold placeI; rw [if_pos hp]
    rw [ho, Option.getD_some, Option.isSome_some]
    rw [hpi] at hpl
    obtain ⟨_, ⟨_, _, _, h0⟩ | ⟨b, off, c, rfl, hcap, hb, _, hcells⟩⟩ := hN0.cases
    · rw [h0] at hp; simp at hp
    obtain ⟨x0, x1, x2, x3, x4, x5, hdl, ev, x6, hE⟩ := hcells _ hp
    obtain ⟨Ae, ce, rfl, _⟩ := ents_len hE
    have HPL := Lib.hid hpl; have HE := Lib.hid hE
    clear hpl hcells hN hN0 ho hpi hE
    unfold trV ndV at *
    generalize ndAt t.nodes (place t.nodes id) = nd at *
    generalize place t.nodes id = p at *
    generalize t.nodes.length = n at *
    generalize t.last = la at *
    generalize t.rn = rn at *
    generalize t.rb = rb at *
    have hpp : (p : Int) < (n : Int) := by omega
    go_enter Tryz.func27, Tryz.ntmps27
    go_wp2_with fail
    refine (HPL.out _ (((Below.refl _ _).alloc (by simp) _).alloc (by simp) _)).mono ?_
    rintro e w1 ⟨rfl, hb1⟩
    have RB : w1.heap[w.heap.size + 1]? = some (.cells #[.int .i64 0, .int .i64 0, .int .i64 0, .int .i64 0, .int .i64 0, .string { data := #[] }, .slice none 0 0] 64 (0, 0)) := (hb1.block (w.heap.size + 1) (by simp)).trans (heap_alloc2_new w _ _)
    have TB : w1.heap[w.heap.size]? = some (.cells #[.slice (some ⟨b, off, none⟩) n c, .int .i64 la, .int .i64 rn, .int .i64 rb] 26 (0, 0)) := (hb1.block w.heap.size (by simp; omega)).trans (heap_alloc2_old w _ _)
    have hb2 : Below w.heap.size w w1 := (((Below.refl w.heap.size w).alloc (by simp) _).alloc (by simp) _).trans (hb1.mono (by simp; omega))
    have y0 := (hb2.cell (p := ⟨b, off + p * 7, none⟩) hb).trans x0
    have y1 := (hb2.cell (p := ⟨b, off + p * 7 + 1, none⟩) hb).trans x1
    have y2 := (hb2.cell (p := ⟨b, off + p * 7 + 2, none⟩) hb).trans x2
    have y3 := (hb2.cell (p := ⟨b, off + p * 7 + 3, none⟩) hb).trans x3
    have y4 := (hb2.cell (p := ⟨b, off + p * 7 + 4, none⟩) hb).trans x4
    have y5 := (hb2.cell (p := ⟨b, off + p * 7 + 5, none⟩) hb).trans x5
    have y6 := (hb2.cell (p := ⟨b, off + p * 7 + 6, none⟩) hb).trans x6
    have u0 := cell_blk TB 0
    simp at u0
    have f0 := froz_blk RB 0
    have f1 := froz_blk RB 1
    have f2 := froz_blk RB 2
    have f3 := froz_blk RB 3
    have f4 := froz_blk RB 4
    have f5 := froz_blk RB 5
    have f6 := froz_blk RB 6
    have s0 := cell_blk RB 0
    have s1 := cell_blk RB 1
    have s2 := cell_blk RB 2
    have s3 := cell_blk RB 3
    have s4 := cell_blk RB 4
    have s5 := cell_blk RB 5
    have s6 := cell_blk RB 6
    simp at s0 s1 s2 s3 s4 s5 s6
    have HB := Lib.hid hb2; have HRB := Lib.hid RB
    clear hb1 hb2 RB TB
    go_wp2
    refine bodyPost_ret (results_cell2 rfl _ _ _ 64 _ (0, 0) _ rfl (seven_set HRB.out _ _ _ _ _ _ _) Tryz.underlying64 rfl (by kernel_rfl)) rfl ?_
    have hbf := ((((((HB.out.setCell (p := ⟨w.heap.size + 1, 0, none⟩) (by simp) (.int .i64 nd.id)).setCell (p := ⟨w.heap.size + 1, 1, none⟩) (by simp) (.int .i64 nd.kind)).setCell (p := ⟨w.heap.size + 1, 2, none⟩) (by simp) (.int .i64 nd.mode)).setCell (p := ⟨w.heap.size + 1, 3, none⟩) (by simp) (.int .i64 nd.owner)).setCell (p := ⟨w.heap.size + 1, 4, none⟩) (by simp) (.int .i64 nd.time)).setCell (p := ⟨w.heap.size + 1, 5, none⟩) (by simp) (.string (nm nd.data))).setCell (p := ⟨w.heap.size + 1, 6, none⟩) (by simp) (.slice Ae nd.es.length ce)
    exact ⟨_, rfl, (HE.out.below hbf).more hbf.size, hbf⟩
  · have ho : getO t.nodes id = none := by unfold getO; rw [if_neg hp]
    have hpi : placeI t.nodes id = -1 := by unfold placeI; rw [if_neg hp]
    rw [ho, Option.getD_none, Option.isSome_none]
    rw [hpi] at hpl
    obtain ⟨A, c, rfl⟩ := nodes_len hN
    have HPL := Lib.hid hpl
    clear hpl hN hN0 ho hpi hp
    unfold trV at *
    generalize t.nodes.length = n at *
    generalize t.last = la at *
    generalize t.rn = rn at *
    generalize t.rb = rb at *
    go_enter Tryz.func27, Tryz.ntmps27
    go_wp2_with fail
    refine (HPL.out _ (((Below.refl _ _).alloc (by simp) _).alloc (by simp) _)).mono ?_
    rintro e w1 ⟨rfl, hb1⟩
    have RB : w1.heap[w.heap.size + 1]? = some (.cells #[.int .i64 0, .int .i64 0, .int .i64 0, .int .i64 0, .int .i64 0, .string { data := #[] }, .slice none 0 0] 64 (0, 0)) := (hb1.block (w.heap.size + 1) (by simp)).trans (heap_alloc2_new w _ _)
    have hb2 : Below w.heap.size w w1 := (((Below.refl w.heap.size w).alloc (by simp) _).alloc (by simp) _).trans (hb1.mono (by simp; omega))
    have f0 := froz_blk RB 0
    have f1 := froz_blk RB 1
    have f2 := froz_blk RB 2
    have f3 := froz_blk RB 3
    have f4 := froz_blk RB 4
    have f5 := froz_blk RB 5
    have f6 := froz_blk RB 6
    have s0 := cell_blk RB 0
    have s1 := cell_blk RB 1
    have s2 := cell_blk RB 2
    have s3 := cell_blk RB 3
    have s4 := cell_blk RB 4
    have s5 := cell_blk RB 5
    have s6 := cell_blk RB 6
    simp at s0 s1 s2 s3 s4 s5 s6
    have HB := Lib.hid hb2; have HRB := Lib.hid RB
    clear hb1 hb2 RB
    go_wp2
    refine bodyPost_ret (results_cell2 rfl _ _ _ 64 _ (0, 0) _ rfl (seven_set HRB.out _ _ _ _ _ _ _) Tryz.underlying64 rfl (by kernel_rfl)) rfl ?_
    exact ⟨_, rfl, ents_nil _ _, ((((((HB.out.setCell (by simp) _).setCell (by simp) _).setCell (by simp) _).setCell (by simp) _).setCell (by simp) _).setCell (by simp) _).setCell (by simp) _⟩

theorem ents_of_row {W : World} {base : Nat} {v : Value} {es : List Ent} (h : W.ownsRow base 75 2 v es.length (es.flatMap entC)) (d2 : es.length * 24 ≤ 140737488351232) (d3 : ∀ x ∈ es, x.key.length ≤ 140737488351232 ∧ -9223372036854775808 ≤ x.to ∧ x.to ≤ 9223372036854775807) : EntsIn W W.heap.size v es := by
  rcases h.2 with ⟨e1, e2⟩ | ⟨ge, cape, cur, e1, e2, e3, e4, _⟩
  · exact ⟨none, 0, by rw [e1, e2], by omega, d2, d3, fun hne => absurd (List.length_eq_zero_iff.1 e2) hne⟩
  · refine ⟨_, _, e1, e4, d2, d3, fun _ => ⟨ge, 0, rfl, (Array.getElem?_eq_some_iff.1 e3).1, fun k hk => ?_⟩⟩
    rw [e1] at h
    obtain ⟨c1, c2⟩ := ent_cells es k hk
    rw [Nat.zero_add]
    exact ⟨row_cells h _ _ c1, row_cells h _ _ c2⟩
end Go.Proofs.YtpicgkoclbpjpaaGreatDoor
end

section
namespace VtM
open PathM TreeM
set_option linter.unusedVariables false

def zeroN : Nd := ⟨0, 0, 0, 0, 0, [], []⟩
/-- The node of a number. -/
def seek (l : List Nd) (id : Int) : Option Nd := l.find? fun n => n.id == id
def nod (l : List Nd) (id : Int) : Nd := (seek l id).getD zeroN
def Rise (l : List Nd) : Prop := l.Pairwise fun a b => a.id < b.id

def sizeN (l : List Nd) : Nat := (l.map fun n => n.data.length).sum
theorem look_nil (id : Int) : seek [] id = none := rfl
theorem look_cons (x : Nd) (l : List Nd) (id : Int) : seek (x :: l) id = if x.id = id then some x else seek l id := by
  unfold seek; rw [List.find?_cons]
  by_cases e : x.id = id
  · simp [e]
  · have : (x.id == id) = false := by simpa using e
    rw [this, if_neg e]
theorem look_mem {l : List Nd} {id : Int} {n : Nd} (h : seek l id = some n) : n ∈ l ∧ n.id = id := by
  unfold seek at h
  exact ⟨List.mem_of_find?_eq_some h, by simpa using List.find?_some h⟩
theorem look_none {l : List Nd} {id : Int} : seek l id = none ↔ ∀ n ∈ l, n.id ≠ id := by
  unfold seek; rw [List.find?_eq_none]; simp
theorem rise_cons {x : Nd} {l : List Nd} (h : Rise (x :: l)) : (∀ n ∈ l, x.id < n.id) ∧ Rise l := by simpa [Rise] using h
theorem look_of_mem : ∀ {l : List Nd}, Rise l → ∀ {n : Nd}, n ∈ l → seek l n.id = some n
  | [], _, _, h => by cases h
  | x :: l, hr, n, h => by
    obtain ⟨h1, h2⟩ := rise_cons hr
    rw [look_cons]
    rcases List.mem_cons.1 h with e | e
    · rw [e, if_pos rfl]
    · rw [if_neg (by have := h1 n e; omega)]; exact look_of_mem h2 e

/-- A node is laid down, in the place of that of its number. -/
def putN (n : Nd) : List Nd → List Nd
  | [] => [n]
  | x :: xs => if n.id < x.id then n :: x :: xs else if n.id = x.id then n :: xs else x :: putN n xs
theorem put_mem {n : Nd} : ∀ {l : List Nd} {m : Nd}, m ∈ putN n l → m = n ∨ m ∈ l
  | [], m, h => by simp [putN] at h; exact .inl h
  | x :: xs, m, h => by
    unfold putN at h
    split at h
    · rcases List.mem_cons.1 h with e | e
      · exact .inl e
      · exact .inr e
    · split at h
      · rcases List.mem_cons.1 h with e | e
        · exact .inl e
        · exact .inr (List.mem_cons_of_mem _ e)
      · rcases List.mem_cons.1 h with e | e
        · exact .inr (e ▸ List.mem_cons_self ..)
        · rcases put_mem e with e | e
          · exact .inl e
          · exact .inr (List.mem_cons_of_mem _ e)
theorem look_put (n : Nd) : ∀ {l : List Nd}, Rise l → ∀ id, seek (putN n l) id = if id = n.id then some n else seek l id
  | [], _, id => by
    unfold putN; rw [look_cons, look_nil]
    by_cases e : n.id = id
    · rw [if_pos e, if_pos e.symm]
    · rw [if_neg e, if_neg (fun h => e h.symm)]
  | x :: xs, hr, id => by
    obtain ⟨h1, h2⟩ := rise_cons hr
    unfold putN
    split
    · rename_i hlt
      rw [look_cons]
      by_cases e : n.id = id
      · rw [if_pos e, if_pos e.symm]
      · rw [if_neg e, if_neg (fun h => e h.symm)]
    · split
      · rename_i hlt he
        rw [look_cons, look_cons, ← he]
        by_cases e : n.id = id
        · rw [if_pos e, if_pos e.symm]
        · rw [if_neg e, if_neg (fun h => e h.symm), if_neg e]
      · rename_i hlt he
        rw [look_cons, look_cons, look_put n h2]
        by_cases e : x.id = id
        · rw [if_pos e, if_pos e, if_neg (by omega)]
        · rw [if_neg e, if_neg e]
theorem rise_put (n : Nd) : ∀ {l : List Nd}, Rise l → Rise (putN n l)
  | [], _ => by simp [putN, Rise]
  | x :: xs, hr => by
    obtain ⟨h1, h2⟩ := rise_cons hr
    unfold putN
    split
    · rename_i hlt
      refine List.pairwise_cons.2 ⟨fun m hm => ?_, hr⟩
      rcases List.mem_cons.1 hm with e | e
      · rw [e]; exact hlt
      · have := h1 m e; omega
    · split
      · rename_i he
        exact List.pairwise_cons.2 ⟨fun m hm => by have := h1 m hm; omega, h2⟩
      · rename_i h3 h4
        refine List.pairwise_cons.2 ⟨fun m hm => ?_, rise_put n h2⟩
        rcases put_mem hm with e | e
        · rw [e]; omega
        · exact h1 m e
theorem mem_look {l : List Nd} (hr : Rise l) {n : Nd} : n ∈ l ↔ seek l n.id = some n := ⟨look_of_mem hr, fun h => (look_mem h).1⟩
theorem put_len (n : Nd) : ∀ {l : List Nd}, Rise l → (putN n l).length = if (seek l n.id).isSome = true then l.length else l.length + 1
  | [], _ => by simp [putN, look_nil]
  | x :: xs, hr => by
    obtain ⟨h1, h2⟩ := rise_cons hr
    unfold putN
    split
    · rename_i hlt
      have : seek (x :: xs) n.id = none := look_none.2 fun m hm => by
        rcases List.mem_cons.1 hm with e | e
        · rw [e]; omega
        · have := h1 m e; omega
      rw [this]; simp
    · split
      · rename_i he
        rw [look_cons, if_pos he.symm]; simp
      · rename_i h3 h4
        have e : seek (x :: xs) n.id = seek xs n.id := by rw [look_cons, if_neg (fun h => h4 h.symm)]
        rw [e, List.length_cons, put_len n h2, List.length_cons]
        cases (seek xs n.id).isSome <;> rfl

/-- A node is there no more. -/
def delN (id : Int) (l : List Nd) : List Nd := l.filter fun n => n.id != id
theorem look_del (i : Int) : ∀ (l : List Nd) (id : Int), seek (delN i l) id = if id = i then none else seek l id
  | [], id => by simp [delN, look_nil]
  | x :: xs, id => by
    have ih := look_del i xs id
    unfold delN at *
    rw [List.filter_cons]
    by_cases e : x.id = i
    · have : (x.id != i) = false := by simpa using e
      rw [this, if_neg (by simp), ih, look_cons]
      by_cases e2 : id = i
      · rw [if_pos e2, if_pos e2]
      · rw [if_neg e2, if_neg e2, if_neg (by omega)]
    · have : (x.id != i) = true := by simpa using e
      rw [this, if_pos rfl, look_cons, look_cons, ih]
      by_cases e2 : x.id = id
      · rw [if_pos e2, if_pos e2, if_neg (by omega)]
      · rw [if_neg e2, if_neg e2]
theorem rise_del (i : Int) {l : List Nd} (h : Rise l) : Rise (delN i l) := List.Pairwise.sublist List.filter_sublist h
theorem del_len (i : Int) : ∀ {l : List Nd}, Rise l → (delN i l).length + (if (seek l i).isSome = true then 1 else 0) = l.length
  | [], _ => by simp [delN, look_nil]
  | x :: xs, hr => by
    obtain ⟨h1, h2⟩ := rise_cons hr
    have ih := del_len i h2
    unfold delN at *
    rw [List.filter_cons]
    by_cases e : x.id = i
    · have hz : (x.id != i) = false := by simpa using e
      have hn : seek xs i = none := look_none.2 fun m hm => by have := h1 m hm; omega
      rw [hn] at ih
      rw [hz, look_cons, if_pos e]; simpa using ih
    · have hz : (x.id != i) = true := by simpa using e
      rw [hz, look_cons, if_neg e, if_pos rfl]
      simp only [List.length_cons]; omega
theorem del_mem {i : Int} {l : List Nd} {m : Nd} : m ∈ delN i l ↔ m ∈ l ∧ m.id ≠ i := by simp [delN]

/-- Two rising lists in which the same is found are one. -/
theorem rise_ext {a b : List Nd} (ha : Rise a) (hb : Rise b) (h : ∀ id, seek a id = seek b id) : a = b := by
  have hm : ∀ n, n ∈ a ↔ n ∈ b := fun n => by rw [mem_look ha, mem_look hb, h]
  have hna : a.Nodup := List.Pairwise.imp (fun h e => by subst e; omega) ha
  have hnb : b.Nodup := List.Pairwise.imp (fun h e => by subst e; omega) hb
  have hp : a.Perm b := (List.perm_ext_iff_of_nodup hna hnb).2 hm
  exact hp.eq_of_pairwise (fun x y _ _ h1 h2 => absurd h1 (by omega)) ha hb

/-! ### entries -/
/-- P5.1: a name leads to another node, or to none. -/
def boundE (es : List Ent) (key : Bs) (id : Int) : List Ent :=
  es.take (klow es key) ++ (if id = 0 then [] else [⟨key, id⟩]) ++ es.drop (if klow es key < es.length ∧ (entAt es (klow es key)).key = key then klow es key + 1 else klow es key)

/-! ### the store's calls -/
def entT (t : Tr) (dir : Int) (key : Bs) : Int := (childO (nod t.nodes dir).es key).getD 0
def putT (t : Tr) (n : Nd) : Tr := { t with nodes := putN { n with es := (nod t.nodes n.id).es } t.nodes, last := max t.last n.id }
def bindT (t : Tr) (dir : Int) (key : Bs) (id : Int) : Tr :=
  match seek t.nodes dir with
  | none => t
  | some n => { t with nodes := putN { n with es := boundE n.es key id } t.nodes }
def dropT (t : Tr) (id : Int) : Tr := { t with nodes := delN id t.nodes }
def stampT (t : Tr) (ck : Int) (id : Int) : Tr := putT t { nod t.nodes id with time := ck }
def forgetT (t : Tr) (id : Int) : Tr := if links t.nodes id = 0 then dropT t id else t

/-! ### a path is gone -/
structure At where
  dirs : List Int
  name : Bs
  node : Int
  slash : Bool
deriving DecidableEq, Inhabited
structure WS where
  dirs : List Int
  name : Bs
  node : Int
  left : List Bs
  slash : Bool
  hops : Nat
deriving DecidableEq, Inhabited
def lastI (l : List Int) : Int := l.getLast?.getD 0

/-- The way back from where a name is to be looked for. -/
def enterS (t : Tr) (s : WS) : Except Int (List Int) :=
  if s.node = 0 then .error 20 else if (nod t.nodes s.node).kind ≠ 1 then .error 22 else if s.name = [] then .ok s.dirs else .ok (s.dirs ++ [s.node])
/-- The place that a name leads to. -/
def lookS (t : Tr) (dirs : List Int) (nm : Bs) : List Int × Bs × Int :=
  if nm = [46] then (dirs, [], lastI dirs)
  else if nm = [46, 46] then (dirs.take (max (dirs.length - 1) 1), [], lastI (dirs.take (max (dirs.length - 1) 1)))
  else (dirs, nm, entT t (lastI dirs) nm)
def atLinkS (t : Tr) (fw : Bool) (node : Int) (left : List Bs) (slash : Bool) : Bool :=
  (decide (0 < left.length) || fw || slash) && (node != 0 && (nod t.nodes node).kind == 3)
def throughS (t : Tr) (dirs : List Int) (node : Int) (left : List Bs) (slash : Bool) (hops : Nat) : Except Int WS :=
  let d := (nod t.nodes node).data
  if 8 < hops + 1 then .error 25
  else if longIn (btw d) = true then .error 26
  else
    let ds := if d.head? = some 47 then dirs.take 1 else dirs
    .ok ⟨ds, [], lastI ds, names d ++ left, slash || (decide (left.length = 0) && d.getLast? == some 47), hops + 1⟩
def stepS (t : Tr) (fw : Bool) (s : WS) : Except Int WS :=
  match enterS t s with
  | .error e => .error e
  | .ok ds =>
    let p := lookS t ds (s.left.headD [])
    if atLinkS t fw p.2.2 s.left.tail s.slash = true then throughS t p.1 p.2.2 s.left.tail s.slash s.hops
    else .ok ⟨p.1, p.2.1, p.2.2, s.left.tail, s.slash, s.hops⟩
def runS (t : Tr) (fw : Bool) : Nat → WS → Except Int WS
  | 0, s => .ok s
  | n + 1, s => if s.left = [] then .ok s else
    match stepS t fw s with
    | .error e => .error e
    | .ok s' => runS t fw n s'
def doneS (t : Tr) (s : WS) : Except Int At :=
  if s.slash = true ∧ s.node ≠ 0 ∧ (nod t.nodes s.node).kind ≠ 1 then .error 22 else .ok ⟨s.dirs, s.name, s.node, s.slash⟩
def findS (t : Tr) (p : Bs) (fw : Bool) : Except Int At :=
  if partsE p ≠ 0 then .error (partsE p) else
    match runS t fw 40000 ⟨[1], [], 1, partsL p, partsB p, 0⟩ with
    | .error e => .error e
    | .ok s => doneS t s

/-! ### the calls with paths -/
structure Fs where
  t : Tr
  ck : Int
deriving DecidableEq, Inhabited
def kindF (f : Fs) (id : Int) : Int := (nod f.t.nodes id).kind
def tickF (f : Fs) : Fs := { f with ck := min (f.ck + 1) 1099511627776 }
/-- A name of a place leads to a node; its directory's time is the clock. -/
def bindF (f : Fs) (at_ : At) (id : Int) : Fs := { f with t := stampT (bindT f.t (lastI at_.dirs) at_.name id) f.ck (lastI at_.dirs) }
def forgetF (f : Fs) (id : Int) : Fs := { f with t := forgetT f.t id }
def nodeFitsB (f : Fs) : Bool := decide ((f.t.nodes.length : Int) < f.t.rn) && decide (f.t.nodes.length < 512)
def bytesFitB (f : Fs) (more : Int) : Bool := if more ≤ 0 then true else decide ((sizeN f.t.nodes : Int) ≤ f.t.rb) && decide (more ≤ f.t.rb - (sizeN f.t.nodes : Int))
def createF (f : Fs) (at_ : At) (kind mode : Int) (data : Bs) : Fs × Int :=
  if nodeFitsB f = false ∨ bytesFitB f data.length = false then (f, 27)
  else
    let f1 := tickF f
    let id := f.t.last + 1
    (bindF { f1 with t := putT f1.t ⟨id, kind, mode, 0, f1.ck, data, []⟩ } at_ id, 0)
/-- Where something is. -/
def thereF (f : Fs) (p : Bs) (fw : Bool) : Except Int At :=
  match findS f.t p fw with
  | .error e => .error e
  | .ok a => if a.node = 0 then .error 20 else .ok a
def readF (f : Fs) (p : Bs) : Bs × Int :=
  match thereF f p true with
  | .error e => ([], e)
  | .ok a => if kindF f a.node = 1 then ([], 23) else ((nod f.t.nodes a.node).data, 0)
structure Inf where
  kind : Int
  mode : Int
  owner : Int
  time : Int
  size : Int
  links : Int
deriving DecidableEq, Inhabited
def statF (f : Fs) (p : Bs) (fw : Bool) : Inf × Int :=
  match thereF f p fw with
  | .error e => (⟨0, 0, 0, 0, 0, 0⟩, e)
  | .ok a => let n := nod f.t.nodes a.node; (⟨n.kind, n.mode, n.owner, n.time, n.data.length, links f.t.nodes a.node⟩, 0)
def listF (f : Fs) (p : Bs) : List Bs × Int :=
  match thereF f p true with
  | .error e => ([], e)
  | .ok a => if kindF f a.node = 1 then (((nod f.t.nodes a.node).es).map Ent.key, 0) else ([], 22)
def rewriteF (f : Fs) (id : Int) (data : Bs) (how : Int) : Fs × Int :=
  let n := nod f.t.nodes id
  let kept := if how = 2 then n.data else []
  if 4096 < kept.length + data.length ∨ bytesFitB f ((kept.length : Int) + data.length - n.data.length) = false then (f, 27)
  else
    let f1 := tickF f
    ({ f1 with t := putT f1.t { n with data := kept ++ data, time := f1.ck } }, 0)
def writeF (f : Fs) (p data : Bs) (how : Int) : Fs × Int :=
  if how < 1 ∨ 3 < how then (f, 1)
  else match findS f.t p (decide (how ≠ 3)) with
  | .error e => (f, e)
  | .ok a =>
    if a.node ≠ 0 ∧ how = 3 then (f, 21)
    else if (a.node = 0 ∧ a.slash = true) ∨ (a.node ≠ 0 ∧ kindF f a.node = 1) then (f, 23)
    else if a.node ≠ 0 then rewriteF f a.node data how
    else if 4096 < data.length then (f, 27)
    else createF f a 2 420 data
def freeF (f : Fs) (p : Bs) : Except Int At :=
  match findS f.t p false with
  | .error e => .error e
  | .ok a => if a.node ≠ 0 then .error 21 else .ok a
def freeNameF (f : Fs) (p : Bs) : Except Int At :=
  match freeF f p with
  | .error e => .error e
  | .ok a => if a.slash = true then .error 20 else .ok a
def mkdirF (f : Fs) (p : Bs) (mode : Int) : Fs × Int :=
  if mode < 0 ∨ 511 < mode then (f, 1) else
  match freeF f p with
  | .error e => (f, e)
  | .ok a => createF f a 1 mode []
def symlinkF (f : Fs) (target p : Bs) : Fs × Int :=
  match freeNameF f p with
  | .error e => (f, e)
  | .ok a => if target = [] ∨ target.contains 0 = true then (f, 28) else if 256 < target.length then (f, 26) else createF f a 3 511 target
def linkF (f : Fs) (p q : Bs) : Fs × Int :=
  match thereF f p false with
  | .error e => (f, e)
  | .ok was => if kindF f was.node = 1 then (f, 28) else
    match freeNameF f q with
    | .error e => (f, e)
    | .ok a => (bindF (tickF f) a was.node, 0)
def namedF (f : Fs) (p : Bs) : Except Int At :=
  match findS f.t p false with
  | .error e => .error e
  | .ok a => if a.name = [] then .error 28 else .ok a
def namedThereF (f : Fs) (p : Bs) : Except Int At :=
  match namedF f p with
  | .error e => .error e
  | .ok a => if a.node = 0 then .error 20 else .ok a
def removeF (f : Fs) (a : At) : Fs := forgetF (bindF (tickF f) a 0) a.node
def rmdirF (f : Fs) (p : Bs) : Fs × Int :=
  match namedThereF f p with
  | .error e => (f, e)
  | .ok a => if kindF f a.node ≠ 1 then (f, 22) else if (nod f.t.nodes a.node).es ≠ [] then (f, 24) else (removeF f a, 0)
def unlinkF (f : Fs) (p : Bs) : Fs × Int :=
  match namedThereF f p with
  | .error e => (f, e)
  | .ok a => if kindF f a.node = 1 then (f, 23) else (removeF f a, 0)
def refuseF (f : Fs) (a b : At) : Int :=
  let dir := decide (a.node ≠ 0 ∧ kindF f a.node = 1)
  let onto := decide (b.node ≠ 0 ∧ kindF f b.node = 1)
  if a.node ∈ b.dirs then 28
  else if (dir = true ∧ b.node ≠ 0 ∧ onto = false) ∨ (dir = false ∧ b.slash = true ∧ onto = false) then 22
  else if onto = true ∧ dir = false then 23
  else if onto = true ∧ (nod f.t.nodes b.node).es ≠ [] then 24
  else 0
def renameF (f : Fs) (p q : Bs) : Fs × Int :=
  match namedThereF f p with
  | .error e => (f, e)
  | .ok a => match namedF f q with
    | .error e => (f, e)
    | .ok b =>
      if a.node = b.node then (f, 0)
      else if refuseF f a b ≠ 0 then (f, refuseF f a b)
      else
        let f1 := bindF (bindF (tickF f) a 0) b a.node
        ((if b.node ≠ 0 then forgetF f1 b.node else f1), 0)
def chmodF (f : Fs) (p : Bs) (mode : Int) : Fs × Int :=
  if mode < 0 ∨ 511 < mode then (f, 1) else
  match thereF f p true with
  | .error e => (f, e)
  | .ok a => let f1 := tickF f; ({ f1 with t := putT f1.t { nod f1.t.nodes a.node with mode := mode } }, 0)
def touchF (f : Fs) (p : Bs) : Fs × Int :=
  match thereF f p true with
  | .error e => (f, e)
  | .ok a => let f1 := tickF f; ({ f1 with t := stampT f1.t f1.ck a.node }, 0)
structure Act where
  kind : Int
  path : Bs
  text : Bs
  how : Int
def doesF (f : Fs) (a : Act) : Fs × Int :=
  if a.kind = 1 then writeF f a.path a.text a.how
  else if a.kind = 2 then mkdirF f a.path a.how
  else if a.kind = 3 then symlinkF f a.text a.path
  else if a.kind = 4 then linkF f a.path a.text
  else if a.kind = 5 then rmdirF f a.path
  else if a.kind = 6 then unlinkF f a.path
  else if a.kind = 7 then renameF f a.path a.text
  else if a.kind = 8 then chmodF f a.path a.how
  else if a.kind = 9 then touchF f a.path
  else (f, 0)

/-! ### the chapter's example -/
def newF : Fs := ⟨⟨[⟨1, 1, 493, 0, 0, [], []⟩], 1, 30, 500⟩, 5⟩
def aw1 : Fs := (mkdirF newF [47, 97] 493).1
def aw2 : Fs := (writeF aw1 [47, 97, 47, 102] [120] 1).1
def aw3 : Fs := (symlinkF aw2 [97, 47, 102] [47, 108]).1
def aw4 : Fs := (unlinkF aw3 [47, 108]).1

end VtM
end

section
namespace VtM
open PathM TreeM
set_option linter.unusedVariables false
theorem sorted_pw {es : List Ent} : Sorted es ↔ es.Pairwise fun a b => a.key < b.key := by
  rw [List.pairwise_iff_getElem]
  unfold Sorted
  constructor
  · intro h i j hi hj hij
    have := h i j hij hj
    simpa [entAt, hi, hj] using this
  · intro h i j hij hj
    have := h i j (by omega) hj hij
    simpa [entAt, show i < es.length by omega, hj] using this
/-- Entries parted at a name. -/
theorem bound_split {es : List Ent} (h : Sorted es) (key : Bs) : ∃ lo mid hi, es = lo ++ mid ++ hi ∧ (∀ x ∈ lo, x.key < key) ∧ (∀ x ∈ hi, key < x.key) ∧ (mid = [] ∨ ∃ v, mid = [⟨key, v⟩]) ∧ ∀ id, boundE es key id = lo ++ (if id = 0 then [] else [⟨key, id⟩]) ++ hi := by
  obtain ⟨h1, h2⟩ := klow_spec h key
  have hle := klow_le es key
  unfold boundE
  generalize klow es key = k at *
  have hlo : ∀ x ∈ es.take k, x.key < key := by
    intro x hx
    obtain ⟨i, hi, rfl⟩ := List.getElem_of_mem hx
    have hik : i < k := by simp at hi; omega
    have := h1 i hik
    rw [List.getElem_take]
    simpa [entAt, show i < es.length by omega] using this
  by_cases he : k < es.length ∧ (entAt es k).key = key
  · refine ⟨es.take k, [entAt es k], es.drop (k + 1), ?_, hlo, ?_, .inr ⟨(entAt es k).to, ?_⟩, fun id => ?_⟩
    · have : es.drop k = entAt es k :: es.drop (k + 1) := by
        rw [List.drop_eq_getElem_cons he.1]; simp [entAt, he.1]
      rw [List.append_assoc, List.singleton_append, ← this, List.take_append_drop]
    · intro x hx
      obtain ⟨i, hi, rfl⟩ := List.getElem_of_mem hx
      simp at hi
      have := h k (k + 1 + i) (by omega) (by omega)
      rw [he.2] at this
      rw [List.getElem_drop]
      simpa [entAt, show k + 1 + i < es.length by omega] using this
    · rw [← he.2]
    · rw [if_pos he]
  · refine ⟨es.take k, [], es.drop k, by simp, hlo, ?_, .inl rfl, fun id => ?_⟩
    · intro x hx
      obtain ⟨i, hi, rfl⟩ := List.getElem_of_mem hx
      simp at hi
      rw [List.getElem_drop]
      have hn := h2 (k + i) (by omega) (by omega)
      have hlt : k < es.length := by omega
      have e : entAt es (k + i) = es[k + i] := by simp [entAt, show k + i < es.length by omega]
      rw [e] at hn
      rcases bs_tri es[k + i].key key with g | g | g
      · exact absurd g hn
      · by_cases e0 : i = 0
        · subst e0
          exact absurd ⟨hlt, (congrArg Ent.key (show entAt es k = es[k + 0] from e)).trans g⟩ he
        · have := h k (k + i) (by omega) (by omega)
          rw [e, g] at this
          exact absurd this (h2 k (Nat.le_refl _) hlt)
      · exact g
    · rw [if_neg he]
theorem bound_sorted {es : List Ent} (h : Sorted es) (key : Bs) (id : Int) : Sorted (boundE es key id) := by
  obtain ⟨lo, mid, hi, e, h1, h2, h3, h4⟩ := bound_split h key
  rw [h4]
  rw [sorted_pw] at h ⊢
  rw [e] at h
  have hlo : lo.Pairwise fun a b => a.key < b.key := by
    rw [List.append_assoc] at h; exact (List.pairwise_append.1 h).1
  have hhi : hi.Pairwise fun a b => a.key < b.key := (List.pairwise_append.1 h).2.1
  split
  · rw [List.append_nil]
    exact List.pairwise_append.2 ⟨hlo, hhi, fun a ha b hb => bs_trans _ _ _ (h1 a ha) (h2 b hb)⟩
  · rw [List.append_assoc]
    refine List.pairwise_append.2 ⟨hlo, List.pairwise_cons.2 ⟨fun b hb => h2 b hb, hhi⟩, fun a ha b hb => ?_⟩
    rcases List.mem_cons.1 hb with rfl | hb
    · exact h1 a ha
    · exact bs_trans _ _ _ (h1 a ha) (h2 b hb)
theorem bound_len {es : List Ent} (h : Sorted es) (key : Bs) (id : Int) : (boundE es key id).length ≤ es.length + 1 := by
  obtain ⟨lo, mid, hi, e, h1, h2, h3, h4⟩ := bound_split h key
  rw [h4, e]
  split <;> simp <;> omega
theorem bound_mem {es : List Ent} (h : Sorted es) (key : Bs) (id : Int) {x : Ent} (hx : x ∈ boundE es key id) : x = ⟨key, id⟩ ∧ id ≠ 0 ∨ x ∈ es := by
  obtain ⟨lo, mid, hi, e, h1, h2, h3, h4⟩ := bound_split h key
  rw [h4] at hx
  rw [e]
  split at hx
  · simp at hx ⊢
    rcases hx with h | h
    · exact .inr (.inl h)
    · exact .inr (.inr (.inr h))
  · simp at hx ⊢
    rcases hx with h | h | h
    · exact .inr (.inl h)
    · exact .inl ⟨h, by assumption⟩
    · exact .inr (.inr (.inr h))
theorem find_lt {l : List Ent} {key : Bs} (h : ∀ x ∈ l, x.key ≠ key) : l.find? (fun x => x.key == key) = none := by
  rw [List.find?_eq_none]; intro x hx; simpa using h x hx
theorem lt_ne {a b : Bs} (h : a < b) : a ≠ b := fun e => bs_irrefl b (e ▸ h)
/-- What a name leads to behind a binding. -/
theorem bound_child {es : List Ent} (h : Sorted es) (key : Bs) (id : Int) (k2 : Bs) : childO (boundE es key id) k2 = if k2 = key then (if id = 0 then none else some id) else childO es k2 := by
  obtain ⟨lo, mid, hi, e, h1, h2, h3, h4⟩ := bound_split h key
  rw [h4, e]
  unfold childO
  by_cases hk : k2 = key
  · subst hk
    rw [if_pos rfl]
    have g1 : lo.find? (fun x => x.key == k2) = none := find_lt fun x hx => lt_ne (h1 x hx)
    have g2 : hi.find? (fun x => x.key == k2) = none := find_lt fun x hx e => lt_ne (h2 x hx) e.symm
    split
    · simp [g1, g2]
    · simp [g1]
  · rw [if_neg hk]
    have g3 : mid.find? (fun x => x.key == k2) = none := find_lt fun x hx e => by
      rcases h3 with rfl | ⟨v, rfl⟩
      · cases hx
      · simp at hx; subst hx; exact hk e.symm
    have g4 : (if id = 0 then [] else [(⟨key, id⟩ : Ent)]).find? (fun x => x.key == k2) = none := find_lt fun x hx e => by
      split at hx
      · cases hx
      · simp at hx; subst hx; exact hk e.symm
    simp only [List.find?_append, g3, g4, Option.or_none]
end VtM
end

section
namespace VtM
open PathM TreeM
set_option linter.unusedVariables false
/-- The entries under other names. -/
def fne (key : Bs) (xs : List Ent) : List Ent := xs.filter fun x => decide (x.key ≠ key)
/-- Is there an entry under the name? -/
def hask (key : Bs) (xs : List Ent) : Bool := xs.any fun x => decide (x.key = key)
theorem entAt_drop {es : List Ent} {k : Nat} (hk : k < es.length) : es.drop k = entAt es k :: es.drop (k + 1) := by
  rw [List.drop_eq_getElem_cons hk]; simp [entAt, hk]
theorem fne_skip {es : List Ent} {k : Nat} {key : Bs} (hk : k < es.length) (h : (entAt es k).key = key) : fne key (es.drop k) = fne key (es.drop (k + 1)) := by
  rw [entAt_drop hk]; simp [fne, h]
theorem fne_take {es : List Ent} {k : Nat} {key : Bs} (hk : k < es.length) (h : (entAt es k).key ≠ key) : fne key (es.drop k) = entAt es k :: fne key (es.drop (k + 1)) := by
  rw [entAt_drop hk]; simp [fne, h]
theorem fne_end {es : List Ent} {k : Nat} {key : Bs} (hk : es.length ≤ k) : fne key (es.drop k) = [] := by
  rw [List.drop_eq_nil_of_le hk]; rfl
theorem hask_next {es : List Ent} {k : Nat} {key : Bs} (hk : k < es.length) : hask key (es.take (k + 1)) = (hask key (es.take k) || decide ((entAt es k).key = key)) := by
  have e : entAt es k = es[k] := by simp [entAt, hk]
  unfold hask
  rw [List.take_add_one, List.any_append, List.getElem?_eq_getElem hk, e]
  simp only [Option.toList_some, List.any_cons, List.any_nil, Bool.or_false]
theorem bound_scan {es : List Ent} (h : Sorted es) (key : Bs) (id : Int) :
    fne key es = fne key (boundE es key id) ∧ (∀ i, i < (boundE es key id).length → (entAt (boundE es key id) i).key = key → (entAt (boundE es key id) i).to = id) ∧
      hask key (boundE es key id) = decide (id ≠ 0) := by
  obtain ⟨lo, mid, hi, e, h1, h2, h3, h4⟩ := bound_split h key
  rw [h4, e]
  have e1 : ∀ x ∈ lo, x.key ≠ key := fun x hx he => bs_irrefl key (he ▸ h1 x hx)
  have e2 : ∀ x ∈ hi, x.key ≠ key := fun x hx he => bs_irrefl key (he ▸ h2 x hx)
  have f1 : fne key lo = lo := List.filter_eq_self.2 fun x hx => by simpa using e1 x hx
  have f2 : fne key hi = hi := List.filter_eq_self.2 fun x hx => by simpa using e2 x hx
  have f3 : fne key mid = [] := by
    rcases h3 with rfl | ⟨v, rfl⟩
    · rfl
    · simp [fne]
  have f4 : fne key (if id = 0 then [] else [(⟨key, id⟩ : Ent)]) = [] := by
    split
    · rfl
    · simp [fne]
  have app : ∀ xs ys : List Ent, fne key (xs ++ ys) = fne key xs ++ fne key ys := fun xs ys => List.filter_append ..
  refine ⟨by rw [app, app, app, app, f3, f4], ?_, ?_⟩
  · intro i hi' hk
    have hm : entAt (lo ++ (if id = 0 then [] else [(⟨key, id⟩ : Ent)]) ++ hi) i ∈ lo ++ (if id = 0 then [] else [(⟨key, id⟩ : Ent)]) ++ hi := by
      unfold entAt
      rw [List.getD_eq_getElem?_getD, List.getElem?_eq_getElem hi']
      exact List.getElem_mem hi'
    generalize entAt (lo ++ (if id = 0 then [] else [(⟨key, id⟩ : Ent)]) ++ hi) i = x at hm hk ⊢
    rcases List.mem_append.1 hm with hm | hm
    · rcases List.mem_append.1 hm with hm | hm
      · exact absurd hk (e1 _ hm)
      · split at hm
        · cases hm
        · rw [List.mem_singleton.1 hm]
    · exact absurd hk (e2 _ hm)
  · have g1 : hask key lo = false := by
      simp only [hask, List.any_eq_false]
      intro x hx; simpa using e1 x hx
    have g2 : hask key hi = false := by
      simp only [hask, List.any_eq_false]
      intro x hx; simpa using e2 x hx
    have ap : ∀ xs ys : List Ent, hask key (xs ++ ys) = (hask key xs || hask key ys) := fun xs ys => List.any_append ..
    rw [ap, ap, g1, g2]
    by_cases h0 : id = 0
    · simp [h0, hask]
    · simp [h0, hask]
end VtM
end

section
namespace VtM
open PathM TreeM
set_option linter.unusedVariables false
theorem nod_eq {l : List Nd} {id : Int} {n : Nd} (h : seek l id = some n) : nod l id = n := by unfold nod; rw [h]; rfl
theorem nod_id {l : List Nd} {id : Int} (h : (nod l id).kind ≠ 0) : (nod l id).id = id := by
  unfold nod at h ⊢
  cases e : seek l id with
  | none => rw [e] at h; exact absurd rfl h
  | some n => exact (look_mem e).2
theorem seek_of_kind {l : List Nd} {id : Int} (h : (nod l id).kind ≠ 0) : seek l id = some (nod l id) := by
  unfold nod at h ⊢
  cases e : seek l id with
  | none => rw [e] at h; exact absurd rfl h
  | some n => rfl
theorem nod_putN (n : Nd) {l : List Nd} (hr : Rise l) (id : Int) : nod (putN n l) id = if id = n.id then n else nod l id := by
  unfold nod; rw [look_put n hr]; split <;> rfl
theorem nod_put {t : Tr} (hr : Rise t.nodes) (n : Nd) (id : Int) : nod (putT t n).nodes id = if id = n.id then { n with es := (nod t.nodes n.id).es } else nod t.nodes id :=
  nod_putN { n with es := (nod t.nodes n.id).es } hr id
theorem seek_put {t : Tr} (hr : Rise t.nodes) (n : Nd) (id : Int) : seek (putT t n).nodes id = if id = n.id then some { n with es := (nod t.nodes n.id).es } else seek t.nodes id :=
  look_put { n with es := (nod t.nodes n.id).es } hr id
theorem nod_bind {t : Tr} (hr : Rise t.nodes) {dir : Int} (hd : (nod t.nodes dir).kind ≠ 0) (key : Bs) (v : Int) (id : Int) : nod (bindT t dir key v).nodes id = if id = dir then { nod t.nodes dir with es := boundE (nod t.nodes dir).es key v } else nod t.nodes id := by
  have h := seek_of_kind hd
  have hi := nod_id hd
  generalize nod t.nodes dir = n at *
  unfold bindT
  rw [h]
  show nod (putN { n with es := boundE n.es key v } t.nodes) id = _
  rw [nod_putN _ hr]
  subst hi
  rfl
theorem nod_drop (t : Tr) (i id : Int) : nod (dropT t i).nodes id = if id = i then zeroN else nod t.nodes id := by
  unfold nod dropT; rw [look_del]; split <;> rfl
theorem ent_put {t : Tr} (hr : Rise t.nodes) (n : Nd) (d : Int) (k : Bs) : entT (putT t n) d k = entT t d k := by
  unfold entT
  rw [nod_put hr]
  split
  · rename_i h; subst h; rfl
  · rfl
theorem ent_bind {t : Tr} (hr : Rise t.nodes) {dir : Int} (hd : (nod t.nodes dir).kind ≠ 0) (hs : Sorted (nod t.nodes dir).es) (key : Bs) (v : Int) (d : Int) (k : Bs) : entT (bindT t dir key v) d k = if d = dir ∧ k = key then v else entT t d k := by
  unfold entT
  rw [nod_bind hr hd]
  by_cases h1 : d = dir
  · subst h1
    rw [if_pos rfl]
    rw [bound_child hs]
    by_cases h2 : k = key
    · subst h2
      by_cases hv : v = 0 <;> simp [hv]
    · simp [h2]
  · rw [if_neg h1, if_neg (fun h => h1 h.1)]
theorem rise_putT {t : Tr} (hr : Rise t.nodes) (n : Nd) : Rise (putT t n).nodes := rise_put _ hr
theorem rise_bind {t : Tr} (hr : Rise t.nodes) (dir : Int) (key : Bs) (v : Int) : Rise (bindT t dir key v).nodes := by
  unfold bindT
  split
  · exact hr
  · exact rise_put _ hr
theorem rise_dropT {t : Tr} (hr : Rise t.nodes) (i : Int) : Rise (dropT t i).nodes := rise_del i hr
/-- Behind a node that is laid down. -/
theorem put_all {t : Tr} {P : Nd → Prop} (h : ∀ m ∈ t.nodes, P m) (n : Nd) (hn : P { n with es := (nod t.nodes n.id).es }) : ∀ m ∈ (putT t n).nodes, P m := fun m hm => by
  rcases put_mem hm with rfl | hm
  · exact hn
  · exact h m hm
theorem bind_all {t : Tr} {P : Nd → Prop} (h : ∀ m ∈ t.nodes, P m) (dir : Int) (key : Bs) (v : Int) (hn : ∀ n ∈ t.nodes, P { n with es := boundE n.es key v }) : ∀ m ∈ (bindT t dir key v).nodes, P m := fun m hm => by
  unfold bindT at hm
  cases e : seek t.nodes dir with
  | none => rw [e] at hm; exact h m hm
  | some n =>
    rw [e] at hm
    rcases put_mem hm with rfl | hm
    · exact hn n (look_mem e).1
    · exact h m hm
theorem bind_len {t : Tr} (hr : Rise t.nodes) (dir : Int) (key : Bs) (v : Int) : (bindT t dir key v).nodes.length = t.nodes.length := by
  unfold bindT
  split
  · rfl
  · rename_i n e
    rw [put_len _ hr]
    have : (seek t.nodes n.id).isSome = true := by rw [(look_mem e).2, e]; rfl
    rw [if_pos this]
theorem put_len_le {t : Tr} (hr : Rise t.nodes) (n : Nd) : (putT t n).nodes.length ≤ t.nodes.length + 1 := by
  show (putN _ t.nodes).length ≤ _
  rw [put_len _ hr]; split <;> omega
theorem put_len_old {t : Tr} (hr : Rise t.nodes) (n : Nd) (h : (nod t.nodes n.id).kind ≠ 0) : (putT t n).nodes.length = t.nodes.length := by
  show (putN _ t.nodes).length = _
  rw [put_len _ hr, if_pos (by show (seek t.nodes n.id).isSome = true; rw [seek_of_kind h]; rfl)]
end VtM
end

section
namespace VtM
open PathM TreeM
set_option linter.unusedVariables false
def I64 (a : Int) : Prop := -9223372036854775808 ≤ a ∧ a ≤ 9223372036854775807
/-- What the walks ask of a file system; k: how great it may be. -/
structure FsOk (k : Nat) (f : Fs) : Prop where
  rise : Rise f.t.nodes
  sorted : ∀ n ∈ f.t.nodes, Sorted n.es
  data : ∀ n ∈ f.t.nodes, n.data.length ≤ 4096
  ids : ∀ n ∈ f.t.nodes, I64 n.id ∧ n.id ≤ f.t.last
  cnt : ∀ n ∈ f.t.nodes, n.es.length ≤ k
  len : f.t.nodes.length ≤ k
  last : 0 ≤ f.t.last ∧ f.t.last ≤ 1099511627776 + k
  rn : I64 f.t.rn
  rb : I64 f.t.rb
  root : (nod f.t.nodes 1).kind = 1
  ents : ∀ n ∈ f.t.nodes, ∀ e ∈ n.es, e.to ≠ 1 ∧ (nod f.t.nodes e.to).kind ≠ 0
  kinds : ∀ n ∈ f.t.nodes, 1 ≤ n.kind ∧ n.kind ≤ 3
  pos : ∀ n ∈ f.t.nodes, 1 ≤ n.id
theorem nod_sorted {l : List Nd} (h : ∀ n ∈ l, Sorted n.es) (id : Int) : Sorted (nod l id).es := by
  unfold nod
  cases e : seek l id with
  | none => intro i j hij hj; simp [zeroN] at hj
  | some n => exact h _ (look_mem e).1
theorem nod_all {l : List Nd} {P : Nd → Prop} (h : ∀ n ∈ l, P n) (hz : P zeroN) (id : Int) : P (nod l id) := by
  unfold nod
  cases e : seek l id with
  | none => exact hz
  | some n => exact h _ (look_mem e).1
theorem nod_mem {l : List Nd} {id : Int} (h : (nod l id).kind ≠ 0) : nod l id ∈ l := (look_mem (seek_of_kind h)).1
variable {k : Nat} {f : Fs}
theorem FsOk.nsorted (h : FsOk k f) (id : Int) : Sorted (nod f.t.nodes id).es := nod_sorted h.sorted id
theorem FsOk.ndata (h : FsOk k f) (id : Int) : (nod f.t.nodes id).data.length ≤ 4096 := nod_all (P := fun n => n.data.length ≤ 4096) h.data (by simp [zeroN]) id
theorem FsOk.ncnt (h : FsOk k f) (id : Int) : (nod f.t.nodes id).es.length ≤ k := nod_all (P := fun n => n.es.length ≤ k) h.cnt (by simp [zeroN]) id
theorem FsOk.nid (h : FsOk k f) {id : Int} (hk : (nod f.t.nodes id).kind ≠ 0) : I64 id ∧ id ≤ f.t.last := by
  have := h.ids _ (nod_mem hk)
  rw [nod_id hk] at this
  exact this
theorem FsOk.nkind (h : FsOk k f) {id : Int} (hk : (nod f.t.nodes id).kind ≠ 0) : 1 ≤ (nod f.t.nodes id).kind ∧ (nod f.t.nodes id).kind ≤ 3 := h.kinds _ (nod_mem hk)
/-- What a name leads to is there; it is not the root. -/
theorem FsOk.ent (h : FsOk k f) (d : Int) (key : Bs) : entT f.t d key = 0 ∨ (entT f.t d key ≠ 1 ∧ (nod f.t.nodes (entT f.t d key)).kind ≠ 0) := by
  unfold entT childO
  cases e : (nod f.t.nodes d).es.find? (fun x => x.key == key) with
  | none => exact .inl rfl
  | some x =>
    have hx := List.mem_of_find?_eq_some e
    have hn : ∀ n : Nd, n = nod f.t.nodes d → x ∈ n.es → x.to ≠ 1 ∧ (nod f.t.nodes x.to).kind ≠ 0 := by
      intro n hn hx
      unfold nod at hn
      cases e2 : seek f.t.nodes d with
      | none => rw [e2] at hn; subst hn; simp [zeroN] at hx
      | some m =>
        rw [e2] at hn
        subst hn
        exact h.ents _ (look_mem e2).1 x hx
    exact .inr (hn _ rfl hx)
theorem i64_0 : I64 0 := by simp [I64]
theorem FsOk.ent64 (h : FsOk k f) (d : Int) (key : Bs) : I64 (entT f.t d key) := by
  rcases h.ent d key with e | ⟨_, e⟩
  · rw [e]; exact i64_0
  · exact (h.nid e).1
theorem FsOk.dir64 (h : FsOk k f) {id : Int} (hk : (nod f.t.nodes id).kind = 1) : I64 id := (h.nid (by rw [hk]; decide)).1
theorem lastI_in {l : List Int} (h : l ≠ []) : lastI l ∈ l := by
  unfold lastI
  rw [List.getLast?_eq_some_getLast h]
  exact List.getLast_mem h
/-- Directories of a way: each leads to the next one. -/
def Chain (t : Tr) : List Int → Prop
  | [] => False
  | [d] => d = 1
  | _ => True
/-- How much is left of a path. -/
def muS (s : WS) : Nat := (8 - s.hops) * 4200 + s.left.length
structure WsOk (t : Tr) (s : WS) : Prop where
  ne : s.dirs ≠ []
  dirs : ∀ d ∈ s.dirs, (nod t.nodes d).kind = 1
  node : s.node = 0 ∨ (nod t.nodes s.node).kind ≠ 0
  hops : s.hops ≤ 8
  len : s.dirs.length + muS s ≤ 50000
  left : ∀ n ∈ s.left, n.length ≤ 64
  name : s.name.length ≤ 64
  leads : s.name ≠ [] → s.node = entT t (lastI s.dirs) s.name
  alone : s.name = [] → s.node = lastI s.dirs
  dots : s.name ≠ [46] ∧ s.name ≠ [46, 46]
theorem lastI_kind {t : Tr} {l : List Int} (h : ∀ d ∈ l, (nod t.nodes d).kind = 1) (hne : l ≠ []) : (nod t.nodes (lastI l)).kind = 1 := h _ (lastI_in hne)
theorem lastI_ne0 {t : Tr} {l : List Int} (h : ∀ d ∈ l, (nod t.nodes d).kind = 1) (hne : l ≠ []) : (nod t.nodes (lastI l)).kind ≠ 0 := by rw [lastI_kind h hne]; decide
theorem enter_ok {t : Tr} {s : WS} (h : WsOk t s) {l : List Int} (he : enterS t s = .ok l) : l ≠ [] ∧ (∀ d ∈ l, (nod t.nodes d).kind = 1) ∧ l.length ≤ s.dirs.length + 1 ∧ lastI l = s.node := by
  unfold enterS at he
  split at he
  · cases he
  · split at he
    · cases he
    · rename_i h1 h2
      split at he
      · rename_i h3
        injection he with he; subst he; exact ⟨h.ne, h.dirs, by omega, (h.alone h3).symm⟩
      · injection he with he; subst he
        refine ⟨by simp, fun d hd => ?_, by simp, by simp [lastI]⟩
        rcases List.mem_append.1 hd with e | e
        · exact h.dirs d e
        · simp at e; subst e; exact Classical.byContradiction fun hh => h2 hh
theorem look_ok (hf : FsOk k f) {l : List Int} (hne : l ≠ []) (hd : ∀ d ∈ l, (nod f.t.nodes d).kind = 1) (nm : Bs) :
    (lookS f.t l nm).1 ≠ [] ∧ (∀ d ∈ (lookS f.t l nm).1, (nod f.t.nodes d).kind = 1) ∧ (lookS f.t l nm).1.length ≤ l.length ∧ ((lookS f.t l nm).2.2 = 0 ∨ (nod f.t.nodes (lookS f.t l nm).2.2).kind ≠ 0) ∧
    ((lookS f.t l nm).2.1 ≠ [] → (lookS f.t l nm).2.2 = entT f.t (lastI (lookS f.t l nm).1) (lookS f.t l nm).2.1) ∧ (nm ≠ [] → (lookS f.t l nm).2.1 = [] → (lookS f.t l nm).2.2 = lastI (lookS f.t l nm).1) := by
  unfold lookS
  split
  · exact ⟨hne, hd, Nat.le_refl _, .inr (lastI_ne0 hd hne), fun h => absurd rfl h, fun _ _ => rfl⟩
  · split
    · have hpos := List.length_pos_iff.2 hne
      have hne2 : l.take (max (l.length - 1) 1) ≠ [] := by
        rw [ne_eq, List.take_eq_nil_iff]; rintro (h | h)
        · omega
        · exact hne h
      have hd2 : ∀ d ∈ l.take (max (l.length - 1) 1), (nod f.t.nodes d).kind = 1 := fun d h => hd d (List.mem_of_mem_take h)
      exact ⟨hne2, hd2, by simp; omega, .inr (lastI_ne0 hd2 hne2), fun h => absurd rfl h, fun _ _ => rfl⟩
    · refine ⟨hne, hd, Nat.le_refl _, ?_, fun _ => rfl, fun h1 h2 => absurd h2 h1⟩
      rcases hf.ent (lastI l) nm with e | ⟨_, e⟩
      · exact .inl e
      · exact .inr e
theorem long_not {L : List Bs} (h : longIn L ≠ true) : ∀ n ∈ L, n.length ≤ 64 := fun n hn => by
  refine Classical.byContradiction fun hh => h ?_
  unfold longIn
  rw [List.any_eq_true]
  exact ⟨n, hn, by simp; omega⟩
theorem look_name {t : Tr} {l : List Int} {nm : Bs} (h : nm.length ≤ 64) : (lookS t l nm).2.1.length ≤ 64 := by
  unfold lookS
  split
  · simp
  · split
    · simp
    · exact h
theorem look_dots {t : Tr} {l : List Int} {nm : Bs} : (lookS t l nm).2.1 ≠ [46] ∧ (lookS t l nm).2.1 ≠ [46, 46] := by
  unfold lookS
  split
  · simp
  · split
    · simp
    · exact ⟨by assumption, by assumption⟩
/-- All names that are left are names. -/
def Full (s : WS) : Prop := ∀ n ∈ s.left, n ≠ []
theorem step_ok (hf : FsOk k f) {fw : Bool} {s s' : WS} (h : WsOk f.t s) (hfl : Full s) (hl : s.left ≠ []) (he : stepS f.t fw s = .ok s') : WsOk f.t s' ∧ Full s' ∧ muS s' < muS s := by
  unfold stepS at he
  have hpos := List.length_pos_iff.2 hl
  cases e : enterS f.t s with
  | error x => rw [e] at he; cases he
  | ok ds =>
    rw [e] at he
    obtain ⟨h1, h2, h3, -⟩ := enter_ok h e
    obtain ⟨g1, g2, g3, g4, g6, g7⟩ := look_ok hf h1 h2 (s.left.headD [])
    have hhd : (s.left.headD []).length ≤ 64 ∧ s.left.headD [] ≠ [] := by
      cases e2 : s.left with
      | nil => exact absurd e2 hl
      | cons x xs => exact ⟨h.left x (by rw [e2]; exact List.mem_cons_self ..), hfl x (by rw [e2]; exact List.mem_cons_self ..)⟩
    have g5 := look_name (t := f.t) (l := ds) hhd.1
    have g8 := look_dots (t := f.t) (l := ds) (nm := s.left.headD [])
    have g7 := g7 hhd.2
    have htl : ∀ n ∈ s.left.tail, n.length ≤ 64 := fun n hn => h.left n (List.mem_of_mem_tail hn)
    have htf : ∀ n ∈ s.left.tail, n ≠ [] := fun n hn => hfl n (List.mem_of_mem_tail hn)
    dsimp only at he
    generalize lookS f.t ds (s.left.headD []) = p at *
    have hlen := h.len
    have hh := h.hops
    split at he
    · unfold throughS at he
      have hd := hf.ndata p.2.2
      generalize (nod f.t.nodes p.2.2).data = d at *
      dsimp only at he
      split at he
      · cases he
      · split at he
        · cases he
        · rename_i hlg
          injection he with he
          subst he
          have hn := names_len d
          have hlf : ∀ n ∈ names d ++ s.left.tail, n.length ≤ 64 := fun n hn => by
            rcases List.mem_append.1 hn with e | e
            · exact long_not hlg n (names_mem e).1
            · exact htl n e
          have hfu : ∀ n ∈ names d ++ s.left.tail, n ≠ [] := fun n hn => by
            rcases List.mem_append.1 hn with e | e
            · exact (names_mem e).2
            · exact htf n e
          have hds : ∀ b : Bool, (if b = true then p.1.take 1 else p.1) ≠ [] ∧ (∀ x ∈ (if b = true then p.1.take 1 else p.1), (nod f.t.nodes x).kind = 1) ∧ (if b = true then p.1.take 1 else p.1).length ≤ p.1.length := by
            intro b
            cases b with
            | false => exact ⟨g1, g2, Nat.le_refl _⟩
            | true => exact ⟨by simp [g1], fun x hx => g2 x (List.mem_of_mem_take hx), by simp; omega⟩
          obtain ⟨k1, k2, k3⟩ := hds (decide (d.head? = some 47))
          simp only [decide_eq_true_eq] at k1 k2 k3
          refine ⟨⟨k1, k2, .inr (lastI_ne0 k2 k1), by dsimp only; omega, ?_, hlf, by simp, fun h => absurd rfl h, fun _ => rfl, by simp⟩, hfu, ?_⟩
          · unfold muS at *
            dsimp only
            rw [List.length_append, List.length_tail]
            omega
          · unfold muS at *
            dsimp only
            rw [List.length_append, List.length_tail]
            omega
    · injection he with he
      subst he
      refine ⟨⟨g1, g2, g4, hh, ?_, htl, g5, g6, g7, g8⟩, htf, ?_⟩
      · unfold muS at *
        dsimp only
        rw [List.length_tail]
        omega
      · unfold muS at *
        dsimp only
        rw [List.length_tail]
        omega
theorem fault_0 {l : Bs} (h : faultN l = 0) : l ≠ [] ∧ l.length ≤ 256 := by
  unfold faultN at h
  split at h
  · omega
  · rename_i h1
    split at h
    · omega
    · exact ⟨h1, by omega⟩
/-- A path's beginning. -/
def startS (p : Bs) : WS := ⟨[1], [], 1, partsL p, partsB p, 0⟩
theorem parts_len (p : Bs) : (partsL p).length ≤ 256 := by
  unfold partsL
  split
  · rename_i h
    have hf : faultN p = 0 := by
      unfold partsE at h
      split at h
      · exact h
      · rename_i h2; exact Classical.byContradiction h2
    exact Nat.le_trans (names_len p) (fault_0 hf).2
  · simp
theorem parts_short (p : Bs) : ∀ n ∈ partsL p, n.length ≤ 64 := by
  unfold partsL
  split
  · rename_i h
    refine long_not fun hl => ?_
    unfold partsE at h
    split at h
    · rename_i h2; exact h2 h
    · omega
  · simp
theorem parts_full (p : Bs) : ∀ n ∈ partsL p, n ≠ [] := by
  unfold partsL
  split
  · intro n hn; exact (names_mem hn).2
  · simp
theorem start_mu (p : Bs) : muS (startS p) ≤ 40000 ∧ (startS p).dirs.length + muS (startS p) ≤ 50000 := by
  have h := parts_len p
  have e1 : muS (startS p) = (8 - 0) * 4200 + (partsL p).length := rfl
  have e2 : (startS p).dirs.length = 1 := rfl
  rw [e2, e1]
  generalize (partsL p).length = x at *
  omega
theorem start_ok (hf : FsOk k f) (p : Bs) : WsOk f.t (startS p) ∧ Full (startS p) ∧ muS (startS p) ≤ 40000 := by
  refine ⟨⟨by simp [startS], fun d hd => ?_, .inr ?_, by simp [startS], (start_mu p).2, parts_short p, by simp [startS], fun h => absurd rfl h, fun _ => rfl, by simp [startS]⟩, parts_full p, (start_mu p).1⟩
  · simp [startS] at hd; subst hd; exact hf.root
  · show (nod f.t.nodes 1).kind ≠ 0
    rw [hf.root]; decide
theorem run_ok (hf : FsOk k f) {fw : Bool} : ∀ (n : Nat) {s s' : WS}, WsOk f.t s → Full s → runS f.t fw n s = .ok s' → WsOk f.t s'
  | 0, s, s', h, _, hr => by simp [runS] at hr; subst hr; exact h
  | n + 1, s, s', h, hu, hr => by
    unfold runS at hr
    split at hr
    · injection hr with hr; subst hr; exact h
    · rename_i hl
      cases e : stepS f.t fw s with
      | error x => rw [e] at hr; cases hr
      | ok s1 =>
        rw [e] at hr
        obtain ⟨a, b, _⟩ := step_ok hf h hu hl e
        exact run_ok hf n a b hr
/-- Where a path leads. -/
structure AtOk (t : Tr) (a : At) : Prop where
  ne : a.dirs ≠ []
  dirs : ∀ d ∈ a.dirs, (nod t.nodes d).kind = 1
  node : a.node = 0 ∨ (nod t.nodes a.node).kind ≠ 0
  len : a.dirs.length ≤ 50000
  name : a.name.length ≤ 64
  leads : a.name ≠ [] → a.node = entT t (lastI a.dirs) a.name
  alone : a.name = [] → a.node = lastI a.dirs
  dots : a.name ≠ [46] ∧ a.name ≠ [46, 46]
theorem find_ok (hf : FsOk k f) {fw : Bool} {p : Bs} {a : At} (h : findS f.t p fw = .ok a) : AtOk f.t a := by
  unfold findS at h
  split at h
  · cases h
  · cases e : runS f.t fw 40000 ⟨[1], [], 1, partsL p, partsB p, 0⟩ with
    | error x => rw [e] at h; cases h
    | ok s =>
      rw [e] at h
      have hs := run_ok hf 40000 (start_ok hf p).1 (start_ok hf p).2.1 e
      unfold doneS at h
      dsimp only at h
      split at h
      · cases h
      · injection h with h
        subst h
        have := hs.len
        exact ⟨hs.ne, hs.dirs, hs.node, by dsimp only; omega, hs.name, hs.leads, hs.alone, hs.dots⟩
theorem AtOk.last {t : Tr} {a : At} (h : AtOk t a) : (nod t.nodes (lastI a.dirs)).kind = 1 := lastI_kind h.dirs h.ne
theorem AtOk.last0 {t : Tr} {a : At} (h : AtOk t a) : (nod t.nodes (lastI a.dirs)).kind ≠ 0 := by rw [h.last]; decide
theorem FsOk.none0 (h : FsOk k f) : (nod f.t.nodes 0).kind = 0 := by
  refine Classical.byContradiction fun hh => ?_
  have := h.pos _ (nod_mem hh)
  rw [nod_id hh] at this
  omega
/-- Where nothing is, there is a name. -/
theorem AtOk.named {a : At} (h : AtOk f.t a) (hf : FsOk k f) (h0 : a.node = 0) : a.name ≠ [] := fun e => by
  have h1 := h.last
  rw [← h.alone e, h0, hf.none0] at h1
  cases h1
theorem AtOk.node64 {a : At} (h : AtOk f.t a) (hf : FsOk k f) : I64 a.node := by
  rcases h.node with e | e
  · rw [e]; exact i64_0
  · exact (hf.nid e).1
end VtM
end

section
namespace VtM
open PathM TreeM
set_option linter.unusedVariables false
variable {k : Nat} {f : Fs}
theorem FsOk.mono (h : FsOk k f) {k' : Nat} (hk : k ≤ k') : FsOk k' f :=
  ⟨h.rise, h.sorted, h.data, h.ids, fun n hn => Nat.le_trans (h.cnt n hn) hk, Nat.le_trans h.len hk, ⟨h.last.1, by have := h.last.2; omega⟩, h.rn, h.rb, h.root, h.ents, h.kinds, h.pos⟩
theorem FsOk.same (h : FsOk k f) (c : Int) : FsOk k { f with ck := c } :=
  ⟨h.rise, h.sorted, h.data, h.ids, h.cnt, h.len, h.last, h.rn, h.rb, h.root, h.ents, h.kinds, h.pos⟩
theorem FsOk.tick (h : FsOk k f) : FsOk k (tickF f) := h.same _
theorem kind_put {t : Tr} (hr : Rise t.nodes) (n : Nd) (id : Int) : (nod (putT t n).nodes id).kind = if id = n.id then n.kind else (nod t.nodes id).kind := by
  rw [nod_put hr]; split <;> rfl
theorem kind_bind {t : Tr} (hr : Rise t.nodes) {dir : Int} (hd : (nod t.nodes dir).kind ≠ 0) (key : Bs) (v id : Int) : (nod (bindT t dir key v).nodes id).kind = (nod t.nodes id).kind := by
  rw [nod_bind hr hd]
  split
  · rename_i e; subst e; rfl
  · rfl
theorem FsOk.put (h : FsOk k f) (n : Nd) (hd : n.data.length ≤ 4096) (hi : I64 n.id) (hl : n.id ≤ f.t.last + 1) (hk : 1 ≤ n.kind ∧ n.kind ≤ 3) (h1 : n.id = 1 → n.kind = 1) (hp : 1 ≤ n.id) : FsOk (k + 1) { f with t := putT f.t n } := by
  have hent : ∀ e : Ent, (e.to ≠ 1 ∧ (nod f.t.nodes e.to).kind ≠ 0) → e.to ≠ 1 ∧ (nod (putT f.t n).nodes e.to).kind ≠ 0 := fun e he => by
    refine ⟨he.1, ?_⟩
    rw [kind_put h.rise]
    split
    · omega
    · exact he.2
  have hen := nod_all (P := fun n => ∀ e ∈ n.es, e.to ≠ 1 ∧ (nod f.t.nodes e.to).kind ≠ 0) h.ents (by simp [zeroN]) n.id
  have hlast := h.last
  have hids := h.ids
  refine ⟨rise_putT h.rise n, put_all h.sorted n (h.nsorted _), put_all h.data n hd, ?_, ?_, ?_, ?_, h.rn, h.rb, ?_, ?_, put_all h.kinds n hk, put_all h.pos n hp⟩
  · exact put_all (P := fun m => I64 m.id ∧ m.id ≤ max f.t.last n.id) (fun m hm => ⟨(hids m hm).1, by have := (hids m hm).2; omega⟩) n ⟨hi, by show n.id ≤ _; omega⟩
  · exact put_all (P := fun m => m.es.length ≤ k + 1) (fun m hm => by have := h.cnt m hm; omega) n (by have := h.ncnt n.id; show (nod f.t.nodes n.id).es.length ≤ _; omega)
  · have := put_len_le h.rise n; have := h.len; show (putT f.t n).nodes.length ≤ _; omega
  · show 0 ≤ max f.t.last n.id ∧ max f.t.last n.id ≤ 1099511627776 + ((k + 1 : Nat) : Int); omega
  · show (nod (putT f.t n).nodes 1).kind = 1
    rw [kind_put h.rise]
    split
    · rename_i e; exact h1 e.symm
    · exact h.root
  · intro m hm e he
    refine hent e ?_
    exact put_all (P := fun m => ∀ e ∈ m.es, e.to ≠ 1 ∧ (nod f.t.nodes e.to).kind ≠ 0) h.ents n hen m hm e he
theorem FsOk.put_old (h : FsOk k f) (n : Nd) (hd : n.data.length ≤ 4096) (ho : (nod f.t.nodes n.id).kind ≠ 0) (hk : 1 ≤ n.kind ∧ n.kind ≤ 3) (h1 : n.id = 1 → n.kind = 1) : FsOk k { f with t := putT f.t n } := by
  have hi := h.nid ho
  have h2 := h.put n hd hi.1 (by omega) hk h1 (by have := h.pos _ (nod_mem ho); rw [nod_id ho] at this; exact this)
  have hlast := h.last
  refine ⟨h2.rise, h2.sorted, h2.data, h2.ids, ?_, ?_, ?_, h2.rn, h2.rb, h2.root, h2.ents, h2.kinds, h2.pos⟩
  · exact put_all (P := fun m => m.es.length ≤ k) h.cnt n (h.ncnt n.id)
  · show (putT f.t n).nodes.length ≤ _
    rw [put_len_old h.rise n ho]; exact h.len
  · show 0 ≤ max f.t.last n.id ∧ max f.t.last n.id ≤ 1099511627776 + (k : Int); omega
theorem FsOk.bind (h : FsOk k f) {dir : Int} (hd : (nod f.t.nodes dir).kind ≠ 0) (key : Bs) (v : Int) (hv : v = 0 ∨ (v ≠ 1 ∧ (nod f.t.nodes v).kind ≠ 0)) : FsOk (k + 1) { f with t := bindT f.t dir key v } := by
  have hlast := h.last
  have e1 : (bindT f.t dir key v).last = f.t.last := by unfold bindT; split <;> rfl
  have e2 : (bindT f.t dir key v).rn = f.t.rn := by unfold bindT; split <;> rfl
  have e3 : (bindT f.t dir key v).rb = f.t.rb := by unfold bindT; split <;> rfl
  refine ⟨rise_bind h.rise dir key v, ?_, ?_, ?_, ?_, ?_, ?_, ?_, ?_, ?_, ?_, ?_, bind_all h.pos dir key v fun n hn => h.pos n hn⟩
  · exact bind_all h.sorted dir key v fun n hn => bound_sorted (h.sorted n hn) key v
  · exact bind_all h.data dir key v fun n hn => h.data n hn
  · show ∀ m ∈ (bindT f.t dir key v).nodes, I64 m.id ∧ m.id ≤ (bindT f.t dir key v).last
    rw [e1]
    exact bind_all h.ids dir key v fun n hn => h.ids n hn
  · exact bind_all (P := fun m => m.es.length ≤ k + 1) (fun m hm => by have := h.cnt m hm; omega) dir key v fun n hn => by
      have a := bound_len (h.sorted n hn) key v; have b := h.cnt n hn; show (boundE n.es key v).length ≤ _; omega
  · show (bindT f.t dir key v).nodes.length ≤ _
    rw [bind_len h.rise]; have := h.len; omega
  · show 0 ≤ (bindT f.t dir key v).last ∧ (bindT f.t dir key v).last ≤ 1099511627776 + ((k + 1 : Nat) : Int)
    rw [e1]; omega
  · show I64 (bindT f.t dir key v).rn
    rw [e2]; exact h.rn
  · show I64 (bindT f.t dir key v).rb
    rw [e3]; exact h.rb
  · show (nod (bindT f.t dir key v).nodes 1).kind = 1
    rw [kind_bind h.rise hd]; exact h.root
  · intro m hm e he
    show e.to ≠ 1 ∧ (nod (bindT f.t dir key v).nodes e.to).kind ≠ 0
    rw [kind_bind h.rise hd]
    refine bind_all (P := fun m => ∀ e ∈ m.es, e.to ≠ 1 ∧ (nod f.t.nodes e.to).kind ≠ 0) h.ents dir key v (fun n hn e he => ?_) m hm e he
    rcases bound_mem (h.sorted n hn) key v he with ⟨rfl, hz⟩ | he
    · rcases hv with rfl | hv
      · exact absurd rfl hz
      · exact hv
    · exact h.ents n hn e he
  · exact bind_all h.kinds dir key v fun n hn => h.kinds n hn
theorem FsOk.drop (h : FsOk k f) (i : Int) (h1 : i ≠ 1) (hl : links f.t.nodes i = 0) : FsOk k { f with t := dropT f.t i } := by
  have hm : ∀ m ∈ (dropT f.t i).nodes, m ∈ f.t.nodes := fun m hm => (del_mem.1 hm).1
  have hk : ∀ id, id ≠ i → (nod (dropT f.t i).nodes id).kind = (nod f.t.nodes id).kind := fun id hid => by rw [nod_drop, if_neg hid]
  refine ⟨rise_dropT h.rise i, fun n hn => h.sorted n (hm n hn), fun n hn => h.data n (hm n hn), fun n hn => h.ids n (hm n hn), fun n hn => h.cnt n (hm n hn), ?_, h.last, h.rn, h.rb, ?_, ?_, fun n hn => h.kinds n (hm n hn), fun n hn => h.pos n (hm n hn)⟩
  · exact Nat.le_trans (List.Sublist.length_le List.filter_sublist) h.len
  · show (nod (dropT f.t i).nodes 1).kind = 1
    rw [hk 1 (fun e => h1 e.symm)]; exact h.root
  · intro n hn e he
    have := h.ents n (hm n hn) e he
    refine ⟨this.1, ?_⟩
    show (nod (dropT f.t i).nodes e.to).kind ≠ 0
    have hne : e.to ≠ i := by
      rintro rfl
      have hf : e ∈ flat f.t.nodes := List.mem_flatMap.2 ⟨n, hm n hn, he⟩
      have := links_pos hf
      omega
    rw [hk _ hne]; exact this.2
theorem FsOk.stamp (h : FsOk k f) (ck : Int) {id : Int} (hk : (nod f.t.nodes id).kind ≠ 0) : FsOk k { f with t := stampT f.t ck id } := by
  unfold stampT
  refine h.put_old _ (h.ndata id) ?_ (h.nkind hk) ?_
  · show (nod f.t.nodes (nod f.t.nodes id).id).kind ≠ 0
    rw [nod_id hk]; exact hk
  · intro e
    have e : (nod f.t.nodes id).id = 1 := e
    rw [nod_id hk] at e; subst e; exact h.root
theorem FsOk.forget (h : FsOk k f) (i : Int) (h1 : i ≠ 1) : FsOk k (forgetF f i) := by
  unfold forgetF forgetT
  split
  · exact h.drop i h1 (by assumption)
  · exact h
theorem FsOk.bindAt (h : FsOk k f) {a : At} (ha : AtOk f.t a) (v : Int) (hv : v = 0 ∨ (v ≠ 1 ∧ (nod f.t.nodes v).kind ≠ 0)) : FsOk (k + 1) (bindF f a v) := by
  have h1 := h.bind ha.last0 a.name v hv
  have := h1.stamp f.ck (id := lastI a.dirs) (by show (nod (bindT f.t _ _ _).nodes _).kind ≠ 0; rw [kind_bind h.rise ha.last0]; exact ha.last0)
  exact this
/-- Where a place is, is in a file system of the same kinds. -/
structure AtIn (t : Tr) (a : At) : Prop where
  ne : a.dirs ≠ []
  dirs : ∀ d ∈ a.dirs, (nod t.nodes d).kind = 1
  len : a.dirs.length ≤ 50000
  name : a.name.length ≤ 64
theorem AtOk.in {t : Tr} {a : At} (h : AtOk t a) : AtIn t a := ⟨h.ne, h.dirs, h.len, h.name⟩
theorem AtIn.last {t : Tr} {a : At} (h : AtIn t a) : (nod t.nodes (lastI a.dirs)).kind = 1 := lastI_kind h.dirs h.ne
theorem AtIn.last0 {t : Tr} {a : At} (h : AtIn t a) : (nod t.nodes (lastI a.dirs)).kind ≠ 0 := by rw [h.last]; decide
theorem AtIn.kinds {t t' : Tr} {a : At} (h : AtIn t a) (hk : ∀ id, (nod t.nodes id).kind = 1 → (nod t'.nodes id).kind = 1) : AtIn t' a := ⟨h.ne, fun d hd => hk d (h.dirs d hd), h.len, h.name⟩
theorem FsOk.bindIn (h : FsOk k f) {a : At} (ha : AtIn f.t a) (v : Int) (hv : v = 0 ∨ (v ≠ 1 ∧ (nod f.t.nodes v).kind ≠ 0)) : FsOk (k + 1) (bindF f a v) := by
  have h1 := h.bind ha.last0 a.name v hv
  have := h1.stamp f.ck (id := lastI a.dirs) (by show (nod (bindT f.t _ _ _).nodes _).kind ≠ 0; rw [kind_bind h.rise ha.last0]; exact ha.last0)
  exact this
theorem kind_stamp {t : Tr} (hr : Rise t.nodes) (ck : Int) {i : Int} (hi : (nod t.nodes i).kind ≠ 0) (id : Int) : (nod (stampT t ck i).nodes id).kind = (nod t.nodes id).kind := by
  unfold stampT
  rw [kind_put hr]
  split
  · rename_i e
    have e : id = (nod t.nodes i).id := e
    rw [nod_id hi] at e; subst e; rfl
  · rfl
theorem kind_bindF (h : FsOk k f) {a : At} (ha : AtIn f.t a) (v id : Int) : (nod (bindF f a v).t.nodes id).kind = (nod f.t.nodes id).kind := by
  show (nod (stampT (bindT f.t _ _ _) _ _).nodes id).kind = _
  rw [kind_stamp (rise_bind h.rise _ _ _) _ (by rw [kind_bind h.rise ha.last0]; exact ha.last0), kind_bind h.rise ha.last0]
theorem FsOk.root_last (h : FsOk k f) : 1 ≤ f.t.last := by
  have := h.nid (id := 1) (by rw [h.root]; decide)
  exact this.2
/-- A new node is laid down. -/
theorem FsOk.fresh (h : FsOk k f) (kind mode ck : Int) (data : Bs) (hk : 1 ≤ kind ∧ kind ≤ 3) (hd : data.length ≤ 4096) (hkk : k ≤ 1000000) : FsOk (k + 1) { f with t := putT f.t ⟨f.t.last + 1, kind, mode, 0, ck, data, []⟩ } := by
  have hl := h.last
  have h1 := h.root_last
  exact h.put _ hd (by show I64 (f.t.last + 1); unfold I64; omega) (Int.le_refl _) hk (fun e => by have e : f.t.last + 1 = 1 := e; omega) (by show 1 ≤ f.t.last + 1; omega)
theorem FsOk.create (h : FsOk k f) {a : At} (ha : AtIn f.t a) (kind mode : Int) (data : Bs) (hk : 1 ≤ kind ∧ kind ≤ 3) (hd : data.length ≤ 4096) (hkk : k ≤ 1000000) : FsOk (k + 2) (createF f a kind mode data).1 := by
  unfold createF
  split
  · exact h.mono (by omega)
  · have h1 := h.tick.fresh kind mode (tickF f).ck data hk hd hkk
    have hin : AtIn (putT f.t ⟨f.t.last + 1, kind, mode, 0, (tickF f).ck, data, []⟩) a := ha.kinds fun id hid => by
      rw [kind_put h.rise]
      split
      · rename_i e
        have e : id = f.t.last + 1 := e
        have := h.nid (id := id) (by rw [hid]; decide)
        omega
      · exact hid
    refine h1.bindIn hin (f.t.last + 1) (.inr ⟨by have := h.root_last; omega, ?_⟩)
    show (nod (putT f.t _).nodes (f.t.last + 1)).kind ≠ 0
    rw [kind_put h.rise]
    show (if f.t.last + 1 = f.t.last + 1 then kind else (nod f.t.nodes (f.t.last + 1)).kind) ≠ 0
    rw [if_pos rfl]
    omega
end VtM
end
