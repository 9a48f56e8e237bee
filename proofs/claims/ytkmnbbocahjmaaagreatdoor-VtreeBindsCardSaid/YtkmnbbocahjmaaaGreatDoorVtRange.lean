/- DERIVED. Ranging over a disk's nodes: laws; the walk of Usage. -/
import Derived.Test.YtkmnbbocahjmaaaGreatDoorVtDisk2
namespace Go.Proofs.YtkmnbbocahjmaaaGreatDoor
open Go.RowKit Go.Sort Go.Lib
open PathM TreeM VtM
set_option linter.unusedVariables false

/-- A loop over the nodes l is under way; seen: those that came. -/
def RangeN (w : World) (mb r : Nat) (l : List Nd) (ev : Int → Value) (seen : List Nd) (cnt : Nat) : Prop :=
  ∃ (D : DataW Value) (left : Lit → Bool), w.ranges Tryz.prog 3 nodeR mb r l.length D left cnt ∧
    (∀ id : Int, (seek l id = none → Maps.has D (.int .i64 id) = false) ∧ ∀ nd, seek l id = some nd → Maps.has D (.int .i64 id) = true ∧ ∀ z, D.atKey (.int .i64 id) z = .held (ndV (ev id) nd)) ∧
    (∀ k, left k = true → Maps.has D k = true) ∧ (∀ nd ∈ l, (left (.int .i64 nd.id) = false ↔ nd ∈ seen)) ∧ (∀ nd ∈ seen, nd ∈ l) ∧ seen.Nodup
theorem RangeN.kept {w w' : World} {mb r : Nat} {l : List Nd} {ev : Int → Value} {seen : List Nd} {cnt : Nat} {row : Option Nat} (h : RangeN w mb r l ev seen cnt) (hg : w.grownBy w' row) (h1 : some mb ≠ row) (h2 : some r ≠ row) : RangeN w' mb r l ev seen cnt := by
  obtain ⟨D, left, a, b⟩ := h; exact ⟨D, left, a.kept hg h1 h2, b⟩
theorem RangeN.below {w w' : World} {mb r : Nat} {l : List Nd} {ev : Int → Value} {seen : List Nd} {cnt : Nat} (h : RangeN w mb r l ev seen cnt) (hb : Below w.heap.size w w') : RangeN w' mb r l ev seen cnt :=
  h.kept (row := none) ⟨hb.os, hb.tape, hb.output, hb.size, fun k hk _ => hb.block k hk⟩ (by simp) (by simp)
theorem RangeN.lt {w : World} {mb r : Nat} {l : List Nd} {ev : Int → Value} {seen : List Nd} {cnt : Nat} (h : RangeN w mb r l ev seen cnt) : r < w.heap.size := by obtain ⟨D, left, a, _⟩ := h; exact a.lt
theorem RangeN.left {w : World} {mb r : Nat} {l : List Nd} {ev : Int → Value} {seen : List Nd} {cnt : Nat} (h : RangeN w mb r l ev seen cnt) : w.rangeLeft mb r = cnt := by obtain ⟨D, left, a, _⟩ := h; exact a.left_eq
theorem same_self (x : Int) : (Lit.int .i64 x).sameKey (.int .i64 x) = true := decide_eq_true ⟨rfl, rfl⟩
theorem rise_nodup {l : List Nd} (h : Rise l) : l.Nodup := List.Pairwise.imp (fun h e => by subst e; omega) h
theorem wpList_range_nodes {w : World} {ops : Array Oper} {rest : List Oper} {o : Oper} {a : Act} {Q : Exit → Act → World → Prop} (hg : o.guard = none) (m : Operand) (hop : o.op = Op.range 108 m) (mb : Nat) (l : List Nd) (ev : Int → Value) (hr : Rise l)
    (hm : a.eval m = .map (some mb)) (h : MapN w mb l ev) (hK : ∀ w', RangeN w' mb w.heap.size l ev [] l.length → w.grownBy w' none → w'.heap.size = w.heap.size + 1 → wpList Tryz.prog ops Q rest (a.put o.dst (.pointer (some ⟨w.heap.size, 0, none⟩))) w') : wpList Tryz.prog ops Q (o :: rest) a w := by
  obtain ⟨D, h1, h2, h3⟩ := h
  refine wpList_range_own w hg m 108 hop 3 64 keyN Tryz.underlying108 nodeR mb _ D hm h1 (fun w' r1 r2 r3 => hK w' ⟨D, Maps.has D, h2 ▸ r1, h3, fun k hk => hk, fun nd hnd => ?_, by simp, List.nodup_nil⟩ r2 r3)
  have := ((h3 nd.id).2 nd (look_of_mem hr hnd)).1
  simp [this]
theorem wpList_next_nodes {w : World} {ops : Array Oper} {rest : List Oper} {o : Oper} {a : Act} {Q : Exit → Act → World → Prop} (hg : o.guard = none) (it : Operand) (hop : o.op = Op.next it false) (mb r : Nat) (l : List Nd) (ev : Int → Value) (hr : Rise l) (seen : List Nd) (cnt : Nat)
    (hit : a.eval it = .pointer (some ⟨r, 0, none⟩)) (h : RangeN w mb r l ev seen cnt)
    (hDone : seen.Perm l → wpList Tryz.prog ops Q rest (a.put o.dst (.tuple #[.bool false])) w)
    (hMore : ∀ (nd : Nd) (w' : World) (cnt' : Nat), nd ∈ l → nd ∉ seen → RangeN w' mb r l ev (seen ++ [nd]) cnt' → cnt' < cnt → w.grownBy w' (some r) → w'.heap.size = w.heap.size →
      (Instr.entry (.pointer (some ⟨r, 0, none⟩))).run Tryz.prog w' = .ok (.tuple #[.int .i64 nd.id, ndV (ev nd.id) nd]) w' → wpList Tryz.prog ops Q rest (a.put o.dst (.tuple #[.bool true, .int .i64 nd.id, ndV (ev nd.id) nd])) w') :
    wpList Tryz.prog ops Q (o :: rest) a w := by
  obtain ⟨D, left, h1, h3, h4, h5, h6, h7⟩ := h
  refine wpList_next_ranges w hg it hop 3 keyN nodeR (fun x : Int => Value.int .i64 x) (fun v : Value => v) (fun key kl hkey => by obtain ⟨x, rfl, _⟩ := Maps.keyOf_int_inv Tryz.underlying3 hkey; exact ⟨x, rfl⟩) (fun v y hv => ⟨v, rfl⟩)
    mb r l.length D left cnt hit h1 (fun h0 hl => hDone ?_) (fun x c kl y w' cnt' hkey hlk hv hat hrg hlt hgr hsz hen => ?_)
  · refine (List.perm_ext_iff_of_nodup h7 (rise_nodup hr)).2 fun nd => ⟨h6 nd, fun hnd => (h5 nd hnd).1 (hl _)⟩
  · obtain ⟨x', ex, rfl, hwx⟩ := Maps.keyOf_int_inv Tryz.underlying3 hkey
    cases ex
    have hy : y = (.held c, []) := (Option.some.inj hv).symm
    subst hy
    have hhas := h4 _ hlk
    cases hs : seek l x with
    | none => rw [(h3 x).1 hs] at hhas; cases hhas
    | some nd =>
      obtain ⟨hm, rfl⟩ := look_mem hs
      have hc : c = ndV (ev nd.id) nd := by
        have e1 := hat (.held c)
        rw [((h3 nd.id).2 nd hs).2] at e1
        exact (held_inj e1).symm
      subst hc
      have hns : nd ∉ seen := fun hin => by
        have := (h5 nd hm).2 hin
        rw [hlk] at this; cases this
      refine hMore nd w' cnt' hm hns ⟨D, _, hrg, h3, fun k hk => h4 k (by rw [Bool.and_eq_true] at hk; exact hk.1), fun m hm' => ?_, fun m hm' => ?_, ?_⟩ hlt hgr hsz hen
      · by_cases e : m.id = nd.id
        · have : m = nd := by
            have a1 := look_of_mem hr hm'
            rw [e, hs] at a1; exact (Option.some.inj a1).symm
          subst this
          have hk : (Lit.int .i64 m.id).sameKey (.int .i64 m.id) = true := same_self _
          rw [hk]
          simp
        · have hne : (Lit.int .i64 m.id).sameKey (.int .i64 nd.id) = false := Maps.sameKey_ne (litN e)
          simp only [hne, Bool.not_false, Bool.and_true]
          rw [h5 m hm', List.mem_append]
          refine ⟨.inl, fun h => h.elim id fun h => absurd (congrArg Nd.id (List.mem_singleton.1 h)) e⟩
      · rcases List.mem_append.1 hm' with h | h
        · exact h6 m h
        · rw [List.mem_singleton.1 h]; exact hm
      · exact List.nodup_append.2 ⟨h7, by simp, fun a ha b hb => by rw [List.mem_singleton.1 hb]; rintro rfl; exact hns ha⟩

theorem sizeN_app (a b : List Nd) : sizeN (a ++ b) = sizeN a + sizeN b := by simp [sizeN]
theorem sizeN_perm {a b : List Nd} (h : a.Perm b) : sizeN a = sizeN b := List.Perm.sum_nat (h.map _)
theorem sizeN_le {l : List Nd} (h : ∀ nd ∈ l, nd.data.length ≤ 4096) : sizeN l ≤ l.length * 4096 := by
  induction l with
  | nil => simp [sizeN]
  | cons a l ih =>
    have h1 := h a (by simp)
    have h2 := ih fun nd hnd => h nd (by simp [hnd])
    simp only [sizeN, List.map_cons, List.sum_cons, List.length_cons] at h2 ⊢
    omega
theorem sizeN_filter (p : Nd → Bool) (l : List Nd) : sizeN (l.filter p) ≤ sizeN l := by
  induction l with
  | nil => simp [sizeN]
  | cons a l ih =>
    simp only [sizeN] at ih ⊢
    rw [List.filter_cons]
    split
    · simp only [List.map_cons, List.sum_cons]; omega
    · simp only [List.map_cons, List.sum_cons]; omega
theorem RangeN.sub {w : World} {mb r : Nat} {l : List Nd} {ev : Int → Value} {seen : List Nd} {cnt : Nat} (h : RangeN w mb r l ev seen cnt) (hr : Rise l) : seen.Perm (l.filter fun x => decide (x ∈ seen)) := by
  obtain ⟨D, left, _, _, _, _, h6, h7⟩ := h
  refine (List.perm_ext_iff_of_nodup h7 ((rise_nodup hr).filter _)).2 fun x => ?_
  rw [List.mem_filter]
  simp only [decide_eq_true_eq]
  exact ⟨fun hx => ⟨h6 x hx, hx⟩, fun hx => hx.2⟩
theorem RangeN.size {w : World} {mb r : Nat} {l : List Nd} {ev : Int → Value} {seen : List Nd} {cnt : Nat} (h : RangeN w mb r l ev seen cnt) (hr : Rise l) : sizeN seen ≤ sizeN l := by
  rw [sizeN_perm (h.sub hr)]; exact sizeN_filter _ _
theorem RangeN.len {w : World} {mb r : Nat} {l : List Nd} {ev : Int → Value} {seen : List Nd} {cnt : Nat} (h : RangeN w mb r l ev seen cnt) (hr : Rise l) : seen.length ≤ l.length := by
  rw [(h.sub hr).length_eq]; exact List.length_filter_le _ _
set_option maxRecDepth 100000 in
set_option maxHeartbeats 4000000 in
theorem usage5_any (db mb : Nat) (t : Tr) (ev : Int → Value) (w : World) (h : DiskIn w db mb t ev) (hr : Rise t.nodes) (hlen : t.nodes.length < 1000000) (hd : ∀ nd ∈ t.nodes, nd.data.length ≤ 4096) :
    Calls Tryz.prog 205 #[.pointer (some ⟨db, 0, none⟩)] w fun e w' => e = .returned (.tuple #[.int .i64 t.nodes.length, .int .i64 (sizeN t.nodes)]) ∧ Below w.heap.size w w' := by
  have c0 := h.c0
  have HD := Lib.hid h; have HR := Lib.hid hr
  have hdl := blk_lt h.disk
  have hml := h.map.lt
  clear h
  go_enter Tryz.func205, Tryz.ntmps205
  go_wp2_with (first | (go_at_call 56; refine (dnone_any db mb _ c0).mono ?_; rintro e w' ⟨rfl, rfl⟩) | (at_range; refine wpList_range_nodes rfl _ rfl mb t.nodes ev hr rfl HD.out.map ?_; intro w0 hrg0 hg0 hs0) | go_in)
  go_frame
  have hsl := sizeN_le hd
  go_loopw [4] (fun v wr => ∃ (seen : List Nd) (cnt : Nat), v = .int .i64 (sizeN seen : Int) ∧ RangeN wr mb w.heap.size t.nodes ev seen cnt ∧ Below w.heap.size w wr) (fun _ wr => wr.rangeLeft mb w.heap.size)
  case atStart => exact ⟨[], _, rfl, hrg0, ⟨hg0.os, hg0.tape, hg0.output, hg0.size, fun k hk => hg0.block k hk (by simp)⟩⟩
  case round =>
    obtain ⟨seen, cnt, rfl, hrg, hb⟩ := hrel
    have HRG := Lib.hid hrg; have HB := Lib.hid hb
    clear hrg hb
    go_wp2_with (first | (at_next; refine wpList_next_nodes rfl _ rfl mb w.heap.size t.nodes ev HR.out seen cnt rfl HRG.out ?_ ?_) | go_in)
    · intro hp
      have c0' := (HD.out.below HB.out).c0
      have hle := (HD.out.below HB.out).map.len
      have e1 := sizeN_perm hp
      rw [e1]
      clear e1 hp
      go_wp2
      go_ret2
      exact ⟨rfl, HB.out⟩
    · intro nd w1 cnt1 hnd hns hrg1 hlt hg1 hs1 hen
      obtain ⟨Ae, ce, hev, _⟩ := ents_len (HD.out.ents nd hnd)
      rw [hev] at hen ⊢
      unfold ndV at hen ⊢
      have h1 := HRG.out.size HR.out
      have h2 := hd nd hnd
      have hfit : (sizeN seen : Int) + (nd.data.length : Int) ≤ 9223372036854775807 := by omega
      have e1 : (sizeN (seen ++ [nd]) : Int) = (sizeN seen : Int) + (nd.data.length : Int) := by rw [sizeN_app]; simp [sizeN]
      have hb1 : Below w.heap.size w w1 := HB.out.grown hg1 HB.out.size (fun j hj => by cases hj; exact Nat.le_refl _)
      have HRG1 := Lib.hid hrg1; have HB1 := Lib.hid hb1; have HLT := Lib.hid hlt; have HE1 := Lib.hid e1
      have hnm := nm_size nd.data
      clear hrg1 hb1 hlt e1 hg1 hs1 hnd hns h1 h2 hev
      generalize sizeN seen = sz at *
      generalize hdl2 : (nm nd.data) = da at *
      generalize nd.data.length = dl at *
      go_wp2
      go_roundw
      case rel => exact ⟨seen ++ [nd], cnt1, by rw [HE1.out], HRG1.out.below ((Below.refl _ _).alloc (Nat.le_refl _) _), HB1.out.alloc HB1.out.size _⟩
      case measure => rw [(HRG1.out.below ((Below.refl _ _).alloc (Nat.le_refl _) _)).left, HRG.out.left]; exact HLT.out
end Go.Proofs.YtkmnbbocahjmaaaGreatDoor
