/- DERIVED. Walks over the document's lit and Join. -/
import Derived.Test.YtkbhjjmgacahdaaDoorWdAwake
import Derived.Test.YtkbhjjmgacahdaaDoorWdForm
namespace Go.Proofs.YtkbhjjmgacahdaaDoor.Wd
open Go.RowKit
open PathM WdM
set_option linter.unusedVariables false

theorem PIn.below {d : Nat} {w w' : World} {S : Nat → Prop} {v : Value} {l : List PT} (hb : Below w.heap.size w w') (h : PIn d w S v l) : PIn d w' S v l := by
  induction d generalizing v l with
  | zero => exact h
  | succ d ih =>
    obtain ⟨A, c, ps, h1, h2, h3, h4⟩ := h
    refine ⟨A, c, ps, h1, h2, h3, fun hne => ?_⟩
    obtain ⟨b, off, h5, h6, h7⟩ := h4 hne
    refine ⟨b, off, h5, h6, fun i hi => ?_⟩
    obtain ⟨a0, a1, a2, a3, a4, a5⟩ := h7 i hi
    have e : ∀ j x, w.cell? ⟨b, j, none⟩ = some x → w'.cell? ⟨b, j, none⟩ = some x := fun j x hx => (World.cell?_of_block (hb.block b (World.block_lt_of_cell? _ _ hx))).trans hx
    exact ⟨e _ _ a0, e _ _ a1, e _ _ a2, e _ _ a3, e _ _ a4, ih a5⟩
/-- Parts, wherever they lie. -/
def PA (d : Nat) (w : World) (v : Value) (l : List PT) : Prop := PIn d w (fun _ => True) v l
theorem PA.below {d : Nat} {w w' : World} {v : Value} {l : List PT} (h : PA d w v l) (hb : Below w.heap.size w w') : PA d w' v l := PIn.below hb h
/-- Parts in blocks from z on. -/
def PF (d z : Nat) (w : World) (v : Value) (l : List PT) : Prop := PIn d w (fun k => z ≤ k) v l
theorem PF.any {d z : Nat} {w : World} {v : Value} {l : List PT} (h : PF d z w v l) : PA d w v l := PIn.mono (fun _ _ _ => trivial) d _ _ h
theorem PF.le {d z z' : Nat} {w : World} {v : Value} {l : List PT} (h : PF d z w v l) (hz : z' ≤ z) : PF d z' w v l := PIn.mono (fun k _ hk => Nat.le_trans hz hk) d _ _ h
theorem PF.below {d z : Nat} {w w' : World} {v : Value} {l : List PT} (h : PF d z w v l) (hb : Below w.heap.size w w') : PF d z w' v l := PIn.below hb h
theorem rlit_any (d : Nat) (t : Bs) (q : Bool) (w : World) : Calls Tryd.prog 49 #[.string (nm t), .bool q] w fun e w' => Below w.heap.size w w' ∧ ∃ v, e = .returned v ∧ PF (d + 1) w.heap.size w' v [litP q t] := by
  obtain ⟨s, hs⟩ : ∃ s, nm t = s := ⟨_, rfl⟩
  have HS := Lib.hid hs
  rw [hs]
  clear hs
  go_enter Tryd.func49, Tryd.ntmps49
  go_wp2
  go_ret
  refine ⟨(Below.refl _ _).alloc (Nat.le_refl _) _, _, rfl, ?_⟩
  have hn := heap_alloc_new w (.cells #[.int .i64 1, .bool q, .string s, .string ⟨#[]⟩, .slice none 0 0] 32)
  refine lit_pin (d := d) [(litP q t, .slice none 0 0)] [litP q t] hn ?_ rfl (Nat.le_refl _) (by simp) (fun p hp => ?_)
  · show #[Value.int .i64 1, .bool q, .string s, .string ⟨#[]⟩, .slice none 0 0] = #[Value.int .i64 1, .bool q, .string (nm t), .string (nm []), .slice none 0 0]
    rw [HS.out]
    rfl
  · rw [List.mem_singleton] at hp
    subst hp
    exact PIn.nil _ _ _ _ _
/-- How many bytes texts have. -/
def tlen : List PT → Nat
  | [] => 0
  | p :: r => p.text.length + tlen r
theorem tlen_app (a b : List PT) : tlen (a ++ b) = tlen a + tlen b := by
  induction a with
  | nil => simp [tlen]
  | cons p a ih => rw [List.cons_append, tlen, tlen, ih]; omega
theorem tlen_add (a : List PT) (p : PT) : tlen (addP a p) = tlen a + p.text.length := by
  rcases WdM.snoc_cases a with rfl | ⟨b, q, rfl⟩
  · simp [addP_nil, tlen]
  · by_cases h : merges q p
    · rw [addP_yes _ _ _ h, tlen_app, tlen_app]
      simp only [tlen, glue, PT.text, List.length_append]
      omega
    · rw [addP_no _ _ _ h, tlen_app]
      simp [tlen]
theorem tlen_join (a b : List PT) : tlen (joinL a b) = tlen a + tlen b := by
  induction b generalizing a with
  | nil => rfl
  | cons p b ih =>
    show tlen (joinL (addP a p) b) = _
    rw [ih, tlen_add, tlen]
    omega
theorem tlen_mem {la lb : List PT} {i : Nat} {k1 : Int} {q1 : Bool} {t1 o1 : Bs} {w1 : List PT} {pv : Value} (ps : List (PT × Value)) {qs : List (PT × Value)} (he : ps.map Prod.fst = joinL la (lb.take i)) (hp : ps = qs ++ [(PT.mk k1 q1 t1 o1 w1, pv)]) : t1.length ≤ tlen la + tlen (lb.take i) := by
  rw [← tlen_join, ← he, hp, List.map_append, tlen_app]
  simp [tlen, PT.text]
theorem tlen_take {lb : List PT} {i : Nat} {k2 : Int} {q2 : Bool} {t2 o2 : Bs} {w2 : List PT} (h : lb.take (i + 1) = lb.take i ++ [PT.mk k2 q2 t2 o2 w2]) : tlen (lb.take i) + t2.length ≤ tlen lb := by
  have h1 : tlen lb = tlen (lb.take (i + 1)) + tlen (lb.drop (i + 1)) := by rw [← tlen_app, List.take_append_drop]
  rw [h1, h, tlen_app]
  simp [tlen, PT.text]
theorem cat_run (a b : ByteArray) (h : a.size + b.size ≤ 9223372036854775807) (W : World) : (Op.stringOp .add a b).run Tryd.prog W = .ok (.string (a ++ b)) W := run_string_add_sum W _ _ (by simpa using h)
/-- Parts in blocks below z. -/
def PB (S : Nat → Prop) (d z : Nat) (w : World) (v : Value) (l : List PT) : Prop := PIn d w (fun k => S k ∧ k < z) v l
theorem PIn.old {S : Nat → Prop} {d : Nat} {w : World} {v : Value} {l : List PT} (h : PIn d w S v l) : PB S d w.heap.size w v l := PIn.mono (fun k hk hs => ⟨hs, hk⟩) d _ _ h
theorem PB.any {S : Nat → Prop} {d z : Nat} {w : World} {v : Value} {l : List PT} (h : PB S d z w v l) : PA d w v l := PIn.mono (fun _ _ _ => trivial) d _ _ h
theorem PB.keep {S : Nat → Prop} {d z : Nat} {w w' : World} {v : Value} {l : List PT} (h : PB S d z w v l) (hk : ∀ k, k < z → w'.heap[k]? = w.heap[k]?) : PB S d z w' v l := PIn.keep (fun k hs => hk k hs.2) d _ _ h
theorem ptC_one {ps : List (PT × Value)} : ∀ u ∈ ps.flatMap ptC, (∀ p ∈ ps, ∃ A n c, p.2 = .slice A n c) → u.oneCell' = true := by
  intro u hu hv
  obtain ⟨p, hp, hx⟩ := List.mem_flatMap.1 hu
  obtain ⟨A, n, c, h2⟩ := hv p hp
  simp [ptC] at hx
  rcases hx with rfl | rfl | rfl | rfl | rfl
  · rfl
  · rfl
  · rfl
  · rfl
  · rw [h2]; rfl
theorem run_append_nil_empty {P : Program} {w : World} (t ty e : TypeId) (i : TypeInfo) (size : Nat) (ht : P.underlying t = some (.slice e)) (hi : P.info? e = some i) (A : Option Addr) (c : Nat) :
    (Builtin.append_ #[t, t] ty #[.slice none 0 0, .slice A 0 c]).run P w = .ok (.slice none 0 0) w := by
  cases A with
  | none => simp [Builtin.append_, run_underlying ht, sizeOf, typeInfo, hi, Builtin.lenOf, Builtin.firstCells]
  | some ad => simp [Builtin.append_, run_underlying ht, sizeOf, typeInfo, hi, Builtin.lenOf, Builtin.firstCells, loadCells, loadCellsFrom]
theorem run_append_own_empty {P : Program} {w : World} (t ty e : TypeId) (i : TypeInfo) (ht : P.underlying t = some (.slice e)) (hi : P.info? e = some i) (g n cap : Nat) (hn : n ≤ cap) (A : Option Addr) (c : Nat) :
    (Builtin.append_ #[t, t] ty #[.slice (some ⟨g, 0, none⟩) n cap, .slice A 0 c]).run P w = .ok (.slice (some ⟨g, 0, none⟩) n cap) w := by
  cases A with
  | none => simp [Builtin.append_, run_underlying ht, sizeOf, typeInfo, hi, Builtin.lenOf, Builtin.firstCells, storeCells, hn]
  | some ad => simp [Builtin.append_, run_underlying ht, sizeOf, typeInfo, hi, Builtin.lenOf, Builtin.firstCells, loadCells, loadCellsFrom, storeCells, hn]
/-- The words of parts. -/
def Words (S : Nat → Prop) (d z : Nat) (w : World) (ps : List (PT × Value)) : Prop := ∀ p ∈ ps, PB S d z w p.2 p.1.word
theorem Words.keep {S : Nat → Prop} {d z : Nat} {w w' : World} {ps : List (PT × Value)} (h : Words S d z w ps) (hk : ∀ k, k < z → w'.heap[k]? = w.heap[k]?) : Words S d z w' ps := fun p hp => (h p hp).keep hk
theorem Words.app {S : Nat → Prop} {d z : Nat} {w : World} {a b : List (PT × Value)} (ha : Words S d z w a) (hb : Words S d z w b) : Words S d z w (a ++ b) := fun p hp => by
  rcases List.mem_append.1 hp with h | h
  · exact ha p h
  · exact hb p h
/-- Parts of a slice, with their words. -/
theorem PB.cases {S : Nat → Prop} {d z : Nat} {w : World} {v : Value} {l : List PT} (h : PB S d z w v l) : (l = [] ∧ ∃ A c, v = .slice A 0 c) ∨ ∃ b off c ps, v = .slice (some ⟨b, off, none⟩) l.length c ∧ l = ps.map Prod.fst ∧ Words S (d - 1) z w ps ∧ (∀ p ∈ ps, ∃ A n c, p.2 = .slice A n c) ∧ ∀ j u, (ps.flatMap ptC)[j]? = some u → w.cell? ⟨b, off + j, none⟩ = some u := by
  cases d with
  | zero => obtain ⟨h1, A, c, h2⟩ := h; exact .inl ⟨h1, A, c, h2⟩
  | succ d =>
    obtain ⟨A, c, ps, h1, h2, h3, h4⟩ := h
    by_cases hl : l = []
    · subst hl; exact .inl ⟨rfl, A, c, h1⟩
    · obtain ⟨b, off, rfl, h6, h7⟩ := h4 hl
      have hat : ∀ i, (hi : i < ps.length) → ptAt ps i = ps[i] := fun i hi => by unfold ptAt; rw [List.getD_eq_getElem?_getD, List.getElem?_eq_getElem hi]; rfl
      have hw : Words S d z w ps := fun p hp => by
        obtain ⟨i, hi, rfl⟩ := List.getElem_of_mem hp
        have := (h7 i hi).2.2.2.2.2
        rw [hat i hi] at this
        exact this
      refine .inr ⟨b, off, c, ps, h1, h2, hw, fun p hp => (hw p hp).form, fun j u hj => ?_⟩
      have hjl : j < (ps.flatMap ptC).length := (List.getElem?_eq_some_iff.1 hj).1
      rw [ptC_len] at hjl
      have hi : j / 5 < ps.length := by omega
      obtain ⟨a0, a1, a2, a3, a4, _⟩ := h7 (j / 5) hi
      have hj2 : j = j / 5 * 5 + j % 5 := by omega
      have h5 : j % 5 < 5 := Nat.mod_lt _ (by decide)
      rw [hj2, five_at ps (j / 5) hi (j % 5) h5] at hj
      have hoff : off + j = off + j / 5 * 5 + j % 5 := by omega
      rw [hoff]
      generalize j % 5 = m at *
      rcases m with _ | _ | _ | _ | _ | m
      · injection hj with hj; rw [← hj]; exact a0
      · injection hj with hj; rw [← hj]; exact a1
      · injection hj with hj; rw [← hj]; exact a2
      · injection hj with hj; rw [← hj]; exact a3
      · injection hj with hj; rw [← hj]; exact a4
      · omega
/-- Parts, from wherever, behind a row of the call's own. -/
theorem wpList_app_parts {S : Nat → Prop} {d z : Nat} {w : World} {ops : Array Oper} {rest : List Oper} {o : Oper} {a : Act} {Q : Exit → Act → World → Prop} (hgd : o.guard = none) (s x : Operand)
    (ho : o.op = .call { callee := .builtin .append, args := #[s, x], argTypes := #[22, 22] }) (base : Nat) (v : Value) (ps1 : List (PT × Value)) (hs : a.eval s = v) (hown : w.ownsRow base 32 5 v ps1.length (ps1.flatMap ptC)) (hbase : base ≤ w.heap.size)
    (ev : Value) (l : List PT) (hx : a.eval x = ev) (hE : PB S d z w ev l) (hlen : (ps1.length + l.length) * 72 ≤ 140737488355328)
    (h : ∀ v' w' ps2, l = ps2.map Prod.fst → Words S (d - 1) z w ps2 → w'.ownsRow base 32 5 v' (ps1 ++ ps2).length ((ps1 ++ ps2).flatMap ptC) → w.grownBy w' v.ownBlock → wpList Tryd.prog ops Q rest (a.put o.dst v') w') : wpList Tryd.prog ops Q (o :: rest) a w := by
  obtain ⟨i0, hi, hz0, hz1, hz2⟩ := info_parts partInfo
  rcases hE.cases with ⟨rfl, A, c, rfl⟩ | ⟨b, off, c, ps, rfl, h2, h3, h4, h5⟩
  · refine wpList_plain hgd fun K hK => ?_
    have hrun : (Builtin.append_ #[22, 22] o.type #[v, .slice A 0 c]).run Tryd.prog w = .ok v w := by
      rcases hown.2 with ⟨e1, e2⟩ | ⟨ge, cape, cur, e1, e2, e3, e4, _⟩
      · rw [e1]; exact run_append_nil_empty 22 o.type 32 i0 5 Tryd.underlying22 hi A c
      · rw [e1]; exact run_append_own_empty 22 o.type 32 i0 Tryd.underlying22 hi ge _ _ e4 A c
    unfold Oper.wp
    simp [execOp, ho, resolve, invoke, builtin, hs, hx, hrun, Result.andThen]
    exact hK _ _ (h _ _ [] rfl (fun p hp => by cases hp) (by rw [List.append_nil]; exact hown) ((World.grownBy.refl _ _).but _))
  · have hll : l.length = ps.length := by rw [h2, List.length_map]
    refine wpList_append_own _ hgd s x 22 ho base 32 i0 (.agg #[.int .i64 0, .bool false, .string ⟨#[]⟩, .string ⟨#[]⟩, .slice none 0 0]) 5 72 Tryd.underlying22 hi hz0 hz1 hz2 rfl (by decide) _ _ _ hs hown ⟨b, off, none⟩ l.length c (ps.flatMap ptC) hx (by rw [ptC_len, hll]) ?_ (fun u hu => ptC_one u hu h4) (maxLen_ok (by omega)) hlen hbase ?_
    · intro j u hj
      have hadd : (⟨b, off, none⟩ : Addr).add j = ⟨b, off + j, none⟩ := by simp [Addr.add]
      rw [hadd]
      exact h5 j u hj
    · intro v' w' g1 g2 _
      exact h v' w' ps h2 h3 (by rw [List.length_append, List.flatMap_append, ← hll]; exact g1) g2

theorem ownsRow_newP (w : World) : (w.alloc (.cells #[] 32)).ownsRow w.heap.size 32 5 (.slice (some ⟨w.heap.size, 0, none⟩) 0 0) 0 [] :=
  ⟨rfl, .inr ⟨w.heap.size, 0, #[], rfl, Nat.le_refl _, heap_alloc_new w _, Nat.le_refl _, by simp [maxLen], rfl, rfl⟩⟩
theorem addP_len (a : List PT) (p : PT) : (addP a p).length ≤ a.length + 1 := by
  rcases WdM.snoc_cases a with rfl | ⟨b, q, rfl⟩
  · simp [addP_nil]
  · by_cases h : merges q p
    · rw [addP_yes _ _ _ h]; simp
    · rw [addP_no _ _ _ h]; simp
theorem join_len (a b : List PT) : (joinL a b).length ≤ a.length + b.length := by
  induction b generalizing a with
  | nil => exact Nat.le_refl _
  | cons p b ih =>
    have h1 := ih (addP a p)
    have h2 := addP_len a p
    show (joinL (addP a p) b).length ≤ _
    rw [List.length_cons]
    omega
theorem snocP (a : List (PT × Value)) : a = [] ∨ ∃ b q, a = b ++ [q] := by
  rcases List.eq_nil_or_concat a with h | ⟨b, q, h⟩
  · exact .inl h
  · exact .inr ⟨b, q, by rw [h, List.concat_eq_append]⟩
/-- What is joined so far. -/
structure JSt (S : Nat → Prop) (d z : Nat) (w wr : World) (la lb : List PT) (i : Nat) (v : Value) (ps : List (PT × Value)) : Prop where
  row : wr.ownsRow z 32 5 v ps.length (ps.flatMap ptC)
  eq : ps.map Prod.fst = joinL la (lb.take i)
  words : Words S (d - 1) z wr ps
  below : Below z w wr
theorem JSt.pa {S : Nat → Prop} {d z : Nat} {w wr : World} {la lb : List PT} {i : Nat} {v : Value} {ps : List (PT × Value)} (h : JSt S d z w wr la lb i v ps) (hi : lb.length ≤ i) (h0 : d = 0 → la = [] ∧ lb = []) (hl : ps.length ≤ 1954687338211) : PIn d wr (fun k => S k ∨ z ≤ k) v (joinL la lb) := by
  have he : ps.map Prod.fst = joinL la lb := by rw [h.eq, List.take_of_length_le hi]
  rw [← he]
  have hr := h.row
  rcases row_form hr with ⟨rfl, h2⟩ | ⟨b, cap, rfl⟩
  · have : ps = [] := List.length_eq_zero_iff.1 h2
    subst this
    exact PIn.nil _ _ _ _ _
  · cases d with
    | zero =>
      obtain ⟨e1, e2⟩ := h0 rfl
      rw [e1, e2] at he
      have : ps = [] := List.map_eq_nil_iff.1 he
      subst this
      exact PIn.nil _ _ _ _ _
    | succ d =>
      refine ⟨some ⟨b, 0, none⟩, cap, ps, by rw [List.length_map], rfl, by rw [List.length_map]; exact hl, fun _ => ⟨b, 0, rfl, .inr ((hr.lt b rfl).1), fun j hj => ?_⟩⟩
      have hc : ∀ k u, k < 5 → (ptC (ptAt ps j))[k]? = some u → wr.cell? ⟨b, 0 + j * 5 + k, none⟩ = some u := fun k u hk hu => by
        rw [Nat.zero_add]
        exact (row_cell hr (j * 5 + k) u ((five_at ps j hj k hk).trans hu)).1
      exact ⟨hc 0 _ (by decide) rfl, hc 1 _ (by decide) rfl, hc 2 _ (by decide) rfl, hc 3 _ (by decide) rfl, hc 4 _ (by decide) rfl, PIn.mono (fun k _ hk => .inl hk.1) _ _ _ (h.words _ (ptAt_mem hj))⟩
theorem JSt.drewN {S : Nat → Prop} {d z : Nat} {w wr : World} {la lb : List PT} {i : Nat} {v : Value} {ps : List (PT × Value)} (h : JSt S d z w wr la lb i v ps) (k : Nat) : JSt S d z w (wr.drewN k) la lb i v ps :=
  ⟨h.row, h.eq, h.words.keep (fun _ _ => rfl), below_drewN' h.below k⟩
theorem grown_old {S : Nat → Prop} {d z : Nat} {w w7 w9 : World} {la lb : List PT} {i : Nat} {v : Value} {ps : List (PT × Value)} {o : Obj} (h : JSt S d z w w7 la lb i v ps) (hz : z ≤ w7.heap.size) (hg : (w7.alloc o).grownBy w9 v.ownBlock) : (∀ k, k < z → w9.heap[k]? = w7.heap[k]?) ∧ Below z w w9 := by
  have hk : ∀ k, k < z → w9.heap[k]? = w7.heap[k]? := fun k hk => (hg.block k (by simp; omega) (fun e => by
    have := (h.row.lt k e.symm).1; omega)).trans (Below.heap_alloc w7 o k (by omega))
  have h0 : Below z w (w7.alloc o) := h.below.alloc hz o
  exact ⟨hk, hg.os.trans h0.os, hg.tape.trans h0.tape, hg.output.trans h0.output, Nat.le_trans h0.size hg.size, fun k hk2 => (hk k hk2).trans (h.below.block k hk2)⟩
theorem app_row {S : Nat → Prop} {d d0 z : Nat} {w w7 w9 : World} {la lb : List PT} {i : Nat} {v v9 : Value} {ps : List (PT × Value)} {o : Obj} (h : JSt S d z w w7 la lb i v ps) (hd : d = d0 + 1) (q : PT) (qv : Value) (hq : PB S d0 z w7 qv q.word) (hz : z ≤ w7.heap.size)
    (ho : w9.ownsRow z 32 5 v9 (ps.length + 1) (ps.flatMap ptC ++ ptC (q, qv))) (hg : (w7.alloc o).grownBy w9 v.ownBlock) (hm : addP (ps.map Prod.fst) q = ps.map Prod.fst ++ [q]) (ht : lb.take (i + 1) = lb.take i ++ [q]) : JSt S d z w w9 la lb (i + 1) v9 (ps ++ [(q, qv)]) := by
  obtain ⟨hk, hb⟩ := grown_old h hz hg
  refine ⟨?_, ?_, ?_, hb⟩
  · rw [List.length_append, List.flatMap_append]
    simpa using ho
  · rw [List.map_append, ht, joinL_snoc, ← h.eq, hm]
    rfl
  · refine (h.words.keep hk).app (fun p hp => ?_)
    rw [List.mem_singleton] at hp
    subst hp
    have : d - 1 = d0 := by omega
    rw [this]
    exact hq.keep hk
theorem one_pt (k : Int) (q : Bool) (t o : Bs) (w : List PT) (A : Option Addr) (n c : Nat) : ∀ u ∈ ptC (.mk k q t o w, .slice A n c), u.oneCell' = true := by
  intro u hu
  simp [ptC] at hu
  rcases hu with rfl | rfl | rfl | rfl | rfl <;> rfl
theorem JSt.alloc {S : Nat → Prop} {d z : Nat} {w wr : World} {la lb : List PT} {i : Nat} {v : Value} {ps : List (PT × Value)} (h : JSt S d z w wr la lb i v ps) (hz : z ≤ wr.heap.size) (o : Obj) : JSt S d z w (wr.alloc o) la lb i v ps :=
  ⟨h.row.alloc o, h.eq, h.words.keep (fun k hk => Below.heap_alloc wr o k (by omega)), h.below.alloc hz o⟩
theorem JSt.stored {S : Nat → Prop} {d z : Nat} {w wr w' : World} {la lb : List PT} {i : Nat} {v : Value} {ps : List (PT × Value)} {bp : Nat} (h : JSt S d z w wr la lb i v ps) (hk : Kept (· = bp) wr w') (hz : z ≤ bp) (hzr : z ≤ wr.heap.size) (hn : ∀ k, v.ownBlock = some k → k ≠ bp) : JSt S d z w w' la lb i v ps := by
  have hb : ∀ k, k < z → w'.heap[k]? = wr.heap[k]? := fun k hk2 => hk.block k (by omega) (by omega)
  refine ⟨?_, h.eq, h.words.keep hb, ?_⟩
  · refine ⟨h.row.1, ?_⟩
    rcases h.row.2 with hn2 | ⟨b, cap, cur, he, hb, hgg, rest⟩
    · exact .inl hn2
    · exact .inr ⟨b, cap, cur, he, hb, hk.at hgg (hn b (by rw [he]; rfl)), rest⟩
  · exact ⟨hk.os.trans h.below.os, hk.tape.trans h.below.tape, hk.output.trans h.below.output, Nat.le_trans h.below.size hk.size, fun k hk2 => (hb k hk2).trans (h.below.block k hk2)⟩
theorem JSt.cap {S : Nat → Prop} {d z : Nat} {w wr : World} {la lb : List PT} {i g n c : Nat} {ps : List (PT × Value)} (h : JSt S d z w wr la lb i (.slice (some ⟨g, 0, none⟩) n c) ps) : n ≤ c := by
  rcases h.row.2 with ⟨h1, _⟩ | ⟨b, cap, cur, he, _, _, hc, _⟩
  · cases h1
  · cases he; exact hc
theorem JSt.drew {S : Nat → Prop} {d z : Nat} {w wr : World} {la lb : List PT} {i : Nat} {v : Value} {ps : List (PT × Value)} (h : JSt S d z w wr la lb i v ps) : JSt S d z w wr.drew la lb i v ps :=
  ⟨h.row, h.eq, h.words.keep (fun _ _ => rfl), h.below.drew⟩
theorem row_cut {W : World} {base g n m cap : Nat} {e : TypeId} {a b : List Value} (h : W.ownsRow base e 5 (.slice (some ⟨g, 0, none⟩) (n + 1) cap) m (a ++ b)) (hm : m = n + 1) (ha : a.length = n * 5) : W.ownsRow base e 5 (.slice (some ⟨g, 0, none⟩) n cap) n a := by
  subst hm
  obtain ⟨h1, h2⟩ := h
  rcases h2 with ⟨h2, _⟩ | ⟨g', cap', cur, h2, h3, h4, h5, h6, h7, h8⟩
  · cases h2
  · cases h2
    refine ⟨ha, .inr ⟨g, cap, cur, rfl, h3, h4, by omega, h6, h7, ?_⟩⟩
    have h9 : (cur.toList.take ((n + 1) * 5)).take (n * 5) = cur.toList.take (n * 5) := by rw [List.take_take]; congr 1; omega
    rw [← h9, h8, ← ha, List.take_left]
theorem JSt.cut {S : Nat → Prop} {d z : Nat} {w wr : World} {la lb : List PT} {i g c : Nat} {ps qs : List (PT × Value)} {x : PT × Value} (h : JSt S d z w wr la lb i (.slice (some ⟨g, 0, none⟩) (qs.length + 1) c) ps) (hp : ps = qs ++ [x]) : wr.ownsRow z 32 5 (.slice (some ⟨g, 0, none⟩) qs.length c) qs.length (qs.flatMap ptC) := by
  have hr := h.row
  rw [hp, List.flatMap_append] at hr
  exact row_cut hr (by simp) (ptC_len qs)
theorem nm_cat (a b : Bs) : nm a ++ nm b = nm (a ++ b) := by
  rw [← nm_of (nm a ++ nm b)]
  congr 1
theorem boxed_on {w10 w9 : World} {bp g n c : Nat} {o : Obj} {x0 x1 x2 x3 x4 : Value} (h : w10.heap[bp]? = some (.cells #[x0, x1, x2, x3, x4] 32 (0, 0))) (hz : bp < w10.heap.size) (hn : bp ≠ g) (hg : (w10.drew.alloc o).grownBy w9 (Value.slice (some ⟨g, 0, none⟩) n c).ownBlock) :
    w9.cell? ⟨bp, 0, none⟩ = some x0 ∧ w9.cell? ⟨bp, 1, none⟩ = some x1 ∧ w9.cell? ⟨bp, 2, none⟩ = some x2 ∧ w9.cell? ⟨bp, 3, none⟩ = some x3 ∧ w9.cell? ⟨bp, 4, none⟩ = some x4 := by
  have h2 : w9.heap[bp]? = some (.cells #[x0, x1, x2, x3, x4] 32 (0, 0)) := (hg.block bp (by simp; omega) (fun e => hn (by injection e with e))).trans ((Below.heap_alloc w10.drew o bp hz).trans h)
  exact ⟨cell_blk h2 0, cell_blk h2 1, cell_blk h2 2, cell_blk h2 3, cell_blk h2 4⟩
theorem boxed_al {w10 : World} {bp : Nat} {o : Obj} {x0 x1 x2 x3 x4 : Value} (h : w10.heap[bp]? = some (.cells #[x0, x1, x2, x3, x4] 32 (0, 0))) (hz : bp < w10.heap.size) :
    (w10.drew.alloc o).cell? ⟨bp, 0, none⟩ = some x0 ∧ (w10.drew.alloc o).cell? ⟨bp, 1, none⟩ = some x1 ∧ (w10.drew.alloc o).cell? ⟨bp, 2, none⟩ = some x2 ∧ (w10.drew.alloc o).cell? ⟨bp, 3, none⟩ = some x3 ∧ (w10.drew.alloc o).cell? ⟨bp, 4, none⟩ = some x4 := by
  have h2 : (w10.drew.alloc o).heap[bp]? = some (.cells #[x0, x1, x2, x3, x4] 32 (0, 0)) := (Below.heap_alloc w10.drew o bp hz).trans h
  exact ⟨cell_blk h2 0, cell_blk h2 1, cell_blk h2 2, cell_blk h2 3, cell_blk h2 4⟩
theorem glue_row {S : Nat → Prop} {d z : Nat} {w w7 w9 : World} {la lb : List PT} {i : Nat} {v v9 : Value} {ps qs : List (PT × Value)} {p q : PT} {pv : Value} {o : Obj} (h : JSt S d z w w7 la lb i v ps) (hp : ps = qs ++ [(p, pv)]) (hz : z ≤ w7.heap.size)
    (ho : w9.ownsRow z 32 5 v9 (qs.length + 1) (qs.flatMap ptC ++ ptC (glue p q, pv))) (hg : (w7.alloc o).grownBy w9 v.ownBlock) (hm : merges p q) (ht : lb.take (i + 1) = lb.take i ++ [q]) : JSt S d z w w9 la lb (i + 1) v9 (qs ++ [(glue p q, pv)]) := by
  obtain ⟨hk, hb⟩ := grown_old h hz hg
  refine ⟨?_, ?_, ?_, hb⟩
  · rw [List.length_append, List.flatMap_append]
    simpa using ho
  · rw [List.map_append, ht, joinL_snoc, ← h.eq, hp, List.map_append]
    exact (addP_yes _ _ _ hm).symm
  · have hw := h.words.keep hk
    rw [hp] at hw
    intro x hx
    rcases List.mem_append.1 hx with h1 | h1
    · exact hw x (List.mem_append_left _ h1)
    · rw [List.mem_singleton] at h1
      subst h1
      exact hw (p, pv) (List.mem_append_right _ (List.mem_singleton.2 rfl))
theorem first_row {S : Nat → Prop} {d : Nat} {w w5 : World} {la lb : List PT} {v5 : Value} {ps5 : List (PT × Value)} (he : la = ps5.map Prod.fst) (hw : Words S (d - 1) w.heap.size (w.alloc (.cells #[] 32)) ps5)
    (ho : w5.ownsRow w.heap.size 32 5 v5 ([] ++ ps5).length (([] ++ ps5).flatMap ptC)) (hg : (w.alloc (.cells #[] 32)).grownBy w5 (Value.slice (some ⟨w.heap.size, 0, none⟩) 0 0).ownBlock) : JSt S d w.heap.size w w5 la lb 0 v5 ps5 := by
  have hk : ∀ k, k < w.heap.size → w5.heap[k]? = (w.alloc (.cells #[] 32)).heap[k]? := fun k hk => hg.block k (by simp; omega) (fun e => by
    injection e with e; simp only at e; omega)
  refine ⟨ho, ?_, hw.keep hk, ?_⟩
  · rw [List.take_zero]; exact he.symm
  · have h0 : Below w.heap.size w (w.alloc (.cells #[] 32)) := (Below.refl _ _).alloc (Nat.le_refl _) _
    exact ⟨hg.os.trans h0.os, hg.tape.trans h0.tape, hg.output.trans h0.output, by have := hg.size; simp at this; omega, fun k hk2 => (hk k hk2).trans (Below.heap_alloc w _ k hk2)⟩
set_option maxRecDepth 100000 in
set_option maxHeartbeats 3200000 in
theorem rjoin_any (S : Nat → Prop) (d : Nat) (va vb : Value) (la lb : List PT) (w : World) (ha : PIn d w S va la) (hb : PIn d w S vb lb) (hl : la.length + lb.length ≤ 100000) (ht : tlen la + tlen lb ≤ 100000) :
    Calls Tryd.prog 37 #[va, vb] w fun e w' => Below w.heap.size w w' ∧ ∃ v, e = .returned v ∧ PIn d w' (fun k => S k ∨ w.heap.size ≤ k) v (joinL la lb) := by
  obtain ⟨Aa, ca, rfl, _⟩ := PIn.shape ha
  obtain ⟨Ab, cb, rfl, _⟩ := PIn.shape hb
  have HA := Lib.hid (PIn.old ha)
  have HB := Lib.hid (PIn.old hb)
  have HT := Lib.hid ht
  clear ha hb ht
  go_enter Tryd.func37, Tryd.ntmps37
  go_wp2_with (at_builtin; refine wpList_app_parts (d := d) (z := w.heap.size) rfl (.tmp 9) (.tmp 10) rfl w.heap.size _ [] rfl (ownsRow_newP w) (by simp) _ la rfl (HA.out.keep (fun k hk => Below.heap_alloc w _ k hk)) (by simp only [List.length_nil]; omega) ?_; intro v5 w5 ps5 he5 hw5 ho5 hg5; have HJ0 := Lib.hid (first_row (lb := lb) he5 hw5 ho5 hg5); obtain ⟨A5, c5, hv5⟩ := row_len ho5; clear he5 hw5 ho5 hg5)
  subst hv5
  rw [List.nil_append] at HJ0
  go_loopg [5, 6] lb.length (fun g x5 x6 wr => ∃ (i : Nat) (A : Option Addr) (c : Nat) (ps : List (PT × Value)), g = lb.length - i ∧ x5 = .slice A ps.length c ∧ x6 = .int .i64 i ∧ i ≤ lb.length ∧ Hid (JSt S d w.heap.size w wr la lb i (.slice A ps.length c) ps))
  case atStart => exact ⟨0, A5, c5, ps5, by omega, rfl, rfl, by omega, HJ0⟩
  case round =>
    obtain ⟨i, A, c, ps, rfl, rfl, rfl, hi, HJ⟩ := hrel
    clear HJ0
    by_cases hil : i < lb.length
    · have hbv := HB.out.keep HJ.out.below.block
      obtain ⟨d0, b, off, c', hd, hvb, hbz, _, hat⟩ := PIn.opened hbv (fun e => by rw [e] at hil; simp at hil)
      obtain ⟨wv, a0, a1, a2, a3, a4, ap⟩ := hat i hil
      have HLI : Hid (lb.take (i + 1) = lb.take i ++ [lb[i]]) := Lib.hid (List.take_succ_eq_append_getElem hil)
      generalize lb[i] = q at *
      obtain ⟨k2, q2, t2, o2, w2⟩ := q
      simp only [PT.kind, PT.quoted, PT.text, PT.op, PT.word] at a0 a1 a2 a3 ap
      obtain ⟨A2, c2, rfl, _⟩ := PIn.shape ap
      have HAP := Lib.hid ap
      obtain ⟨i0, hI, hz0, hz1, hz3⟩ := info_parts partInfo
      have HI := Lib.hid hI; have HZ0 := Lib.hid hz0; have HZ1 := Lib.hid hz1; have HZ2 := Lib.hid hz3
      cases hvb
      have hlen : ps.length ≤ 100000 := by
        have h1 := congrArg List.length HJ.out.eq
        rw [List.length_map] at h1
        have h2 := join_len la (lb.take i)
        have h3 := List.length_take_le i lb
        omega
      have hbw : b < wr.heap.size := World.block_lt_of_cell? _ _ a0
      have hbz2 : w.heap.size ≤ wr.heap.size := HJ.out.below.size
      have HD := Lib.hid hd
      have HLN := Lib.hid hlen
      clear ap hat hbv hI hz0 hz1 hz3 hd hlen
      rcases snocP ps with rfl | ⟨qs, ⟨p, pv⟩, rfl⟩
      · have HNM : Hid (addP (([] : List (PT × Value)).map Prod.fst) (.mk k2 q2 t2 o2 w2) = [.mk k2 q2 t2 o2 w2]) := Lib.hid rfl
        go_wp2_with fail
        go_quiet (fail)
        have HJ2 := Lib.hid (HJ.out.drewN nq)
        replace a0 := (show (wr.drewN nq).cell? _ = _ from a0)
        replace a1 := (show (wr.drewN nq).cell? _ = _ from a1)
        replace a2 := (show (wr.drewN nq).cell? _ = _ from a2)
        replace a3 := (show (wr.drewN nq).cell? _ = _ from a3)
        replace a4 := (show (wr.drewN nq).cell? _ = _ from a4)
        replace hbw : b < (wr.drewN nq).heap.size := hbw
        replace hbz2 : w.heap.size ≤ (wr.drewN nq).heap.size := hbz2
        replace HAP : Hid (PB S d0 w.heap.size (wr.drewN nq) (.slice A2 w2.length c2) w2) := Lib.hid (PIn.drewN HAP.out nq)
        generalize wr.drewN nq = w7 at *
        go_wp2_with (at_builtin; refine wpList_append_own _ rfl (.tmp 74) (.tmp 79) 22 rfl w.heap.size 32 i0 (.agg #[.int .i64 0, .bool false, .string ⟨#[]⟩, .string ⟨#[]⟩, .slice none 0 0]) 5 72 Tryd.underlying22 HI.out HZ0.out HZ1.out HZ2.out rfl (by decide) _ _ _ rfl (HJ2.out.row.alloc _) ⟨w7.heap.size, 0, none⟩ 1 1 (ptC (.mk k2 q2 t2 o2 w2, .slice A2 w2.length c2)) rfl rfl (cellsL w7 _ _) (one_pt _ _ _ _ _ _ _ _) (maxLen_ok (by have := HLN.out; omega)) (by have := HLN.out; omega) (by simp; omega) ?_; intro v9 w9 hown9 hg9 _; have HJ9 := Lib.hid (app_row HJ2.out HD.out (.mk k2 q2 t2 o2 w2) (.slice A2 w2.length c2) HAP.out hbz2 hown9 hg9 HNM.out HLI.out); obtain ⟨A9, c9, hv9⟩ := row_len hown9; clear hown9 hg9)
        subst hv9
        have HJ10 : Hid (JSt S d w.heap.size w w9 la lb (i + 1) (.slice A9 ([] ++ [(PT.mk k2 q2 t2 o2 w2, Value.slice A2 w2.length c2)]).length c9) ([] ++ [(PT.mk k2 q2 t2 o2 w2, Value.slice A2 w2.length c2)])) := HJ9
        go_roundg (lb.length - (i + 1))
        case rel => exact ⟨i + 1, A9, c9, _, rfl, rfl, by go_num, by omega, HJ10⟩
        case measure => omega
      · have hrow := HJ.out.row
        obtain ⟨g, cap, hv⟩ : ∃ g cap, Value.slice A (qs ++ [(p, pv)]).length c = .slice (some ⟨g, 0, none⟩) (qs ++ [(p, pv)]).length cap := by
          rcases row_form hrow with ⟨_, h2⟩ | h2
          · simp at h2
          · exact h2
        cases hv
        obtain ⟨k1, q1, t1, o1, w1⟩ := p
        obtain ⟨A1, n1', c1, rfl⟩ : ∃ A n c, pv = .slice A n c := (HJ.out.words _ (List.mem_append_right _ (List.mem_singleton.2 rfl))).form
        have hcell : ∀ j u, (ptC (PT.mk k1 q1 t1 o1 w1, Value.slice A1 n1' c1))[j]? = some u → wr.cell? ⟨g, qs.length * 5 + j, none⟩ = some u ∧ wr.frozen? ⟨g, qs.length * 5 + j, none⟩ = false := fun j u hj => by
          refine row_cell hrow (qs.length * 5 + j) u ?_
          rw [List.flatMap_append, List.getElem?_append_right (by rw [ptC_len]; omega), ptC_len]
          rw [show qs.length * 5 + j - qs.length * 5 = j from by omega]
          simpa using hj
        have e0 := (hcell 0 _ rfl).1
        have e1 := (hcell 1 _ rfl).1
        have e2 := (hcell 2 _ rfl).1
        have e3 := (hcell 3 _ rfl).1
        have e4 := (hcell 4 _ rfl).1
        have hgw : g < wr.heap.size := World.block_lt_of_cell? _ _ e0
        have hps : (qs ++ [(PT.mk k1 q1 t1 o1 w1, Value.slice A1 n1' c1)]).length = qs.length + 1 := by simp
        have hnm0 : ¬ merges (PT.mk k1 q1 t1 o1 w1) (PT.mk k2 q2 t2 o2 w2) → addP ((qs ++ [(PT.mk k1 q1 t1 o1 w1, Value.slice A1 n1' c1)]).map Prod.fst) (PT.mk k2 q2 t2 o2 w2) = (qs ++ [(PT.mk k1 q1 t1 o1 w1, Value.slice A1 n1' c1)]).map Prod.fst ++ [PT.mk k2 q2 t2 o2 w2] := fun h => by
          rw [List.map_append]; exact addP_no _ _ _ h
        have HQS := Lib.hid (show qs ++ [(PT.mk k1 q1 t1 o1 w1, Value.slice A1 n1' c1)] = qs ++ [(PT.mk k1 q1 t1 o1 w1, Value.slice A1 n1' c1)] from rfl)
        obtain ⟨ps, hpp⟩ : ∃ ps, ps = qs ++ [(PT.mk k1 q1 t1 o1 w1, Value.slice A1 n1' c1)] := ⟨_, rfl⟩
        rw [← hpp] at hnm0 HJ HLN hps ⊢
        have HPP := Lib.hid hpp
        have HNM0 := Lib.hid hnm0
        have HPS := Lib.hid hps
        rw [hps] at HJ ⊢
        have hql : qs.length ≤ 100000 := by have := HLN.out; omega
        have hw1 : wrap64 (qs.length : Int) = (qs.length : Int) := by unfold wrap64; omega
        simp only [PT.kind, PT.quoted, PT.text, PT.op, Nat.add_zero] at e0 e1 e2 e3 e4
        clear hcell hrow hpp hnm0 hps HQS
        by_cases m1 : k2 = 1
        · have b1 : (k2 == 1) = true := by simpa using m1
          by_cases m2 : k1 = 1
          · have b2 : (k1 == 1) = true := by simpa using m2
            by_cases m3 : q1 = q2
            · have b3 : (q1 == q2) = true := by simpa using m3
              have HMG := Lib.hid (show merges (PT.mk k1 q1 t1 o1 w1) (PT.mk k2 q2 t2 o2 w2) from ⟨m1, m2, m3⟩)
              have hcat := cat_run (nm t1) (nm t2) (by have h1 := tlen_mem ps HJ.out.eq HPP.out; have h2 := tlen_take HLI.out; have h3 := HT.out; rw [nm_size, nm_size]; omega)
              clear m1 m2 m3 HNM0
              go_wp2_with fail
              go_quiet (fail)
              have HJ2 := Lib.hid (HJ.out.drewN nq)
              replace a0 := (show (wr.drewN nq).cell? _ = _ from a0)
              replace a1 := (show (wr.drewN nq).cell? _ = _ from a1)
              replace a2 := (show (wr.drewN nq).cell? _ = _ from a2)
              replace a3 := (show (wr.drewN nq).cell? _ = _ from a3)
              replace a4 := (show (wr.drewN nq).cell? _ = _ from a4)
              replace e0 := (show (wr.drewN nq).cell? _ = _ from e0)
              replace e1 := (show (wr.drewN nq).cell? _ = _ from e1)
              replace e2 := (show (wr.drewN nq).cell? _ = _ from e2)
              replace e3 := (show (wr.drewN nq).cell? _ = _ from e3)
              replace e4 := (show (wr.drewN nq).cell? _ = _ from e4)
              replace hbw : b < (wr.drewN nq).heap.size := hbw
              replace hgw : g < (wr.drewN nq).heap.size := hgw
              replace hbz2 : w.heap.size ≤ (wr.drewN nq).heap.size := hbz2
              replace HAP : Hid (PB S d0 w.heap.size (wr.drewN nq) (.slice A2 w2.length c2) w2) := Lib.hid (PIn.drewN HAP.out nq)
              generalize wr.drewN nq = w7 at *
              go_wp2_with fail
              refine wp_gen (fun W => JSt S d w.heap.size w W la lb i (.slice (some ⟨g, 0, none⟩) (qs.length + 1) c) ps ∧ W.heap[w7.heap.size]? = some (.cells #[.int .i64 k1, .bool q1, .string (nm t1), .string (nm o1), .slice A1 n1' c1] 32 (0, 0)) ∧ W.cell? ⟨b, off + i * 5 + 2, none⟩ = some (.string (nm t2))) ⟨HJ2.out.alloc hbz2 _, heap_alloc_new w7 _, (World.cell?_of_block (Below.heap_alloc w7 _ b hbw)).trans a2⟩ ?_
              intro w8 hW8
              have HJ8 := Lib.hid hW8.1
              have HB8 := Lib.hid hW8.2.1
              replace a2 := hW8.2.2
              have hgz : w.heap.size ≤ g := (hW8.1.row.lt g rfl).1
              have hg7 : g < w7.heap.size := hgw
              clear hW8 e0 e1 e2 e3 e4 a0 a1 a3 a4
              generalize hbp : w7.heap.size = bp at *
              have hbb : b < bp := hbw
              clear hbp hgw hbw HJ2 HJ
              have p0 := cell_blk HB8.out 0
              have p1 := cell_blk HB8.out 1
              have p2 := cell_blk HB8.out 2
              have p3 := cell_blk HB8.out 3
              have p4 := cell_blk HB8.out 4
              have f2 := froz_blk HB8.out 2
              simp at p0 p1 p2 p3 p4
              have hz8 := fin_at HB8.out
              have hbne : ¬ b = bp := by omega
              go_region
              have HK9 := Lib.hid (Kept.setCell (S := (· = bp)) (w := w8) ⟨bp, 2, none⟩ (.string (nm t1 ++ nm t2)) rfl)
              have HJ9 := Lib.hid (HJ8.out.stored HK9.out (by omega) (by omega) (fun k hk => by injection hk with hk; simp only at hk; omega))
              have hb9 := set_blk HB8.out (j := 2) (.string (nm t1 ++ nm t2))
              simp at hb9
              have hdr : ((w8.setCell ⟨bp, 2, none⟩ (.string (nm t1 ++ nm t2))).drew).heap = (w8.setCell ⟨bp, 2, none⟩ (.string (nm t1 ++ nm t2))).heap := rfl
              have HJA := Lib.hid (HJ9.out.drew)
              have HBA : Hid (((w8.setCell ⟨bp, 2, none⟩ (.string (nm t1 ++ nm t2))).drew).heap[bp]? = some (.cells #[.int .i64 k1, .bool q1, .string (nm t1 ++ nm t2), .string (nm o1), .slice A1 n1' c1] 32 (0, 0))) := Lib.hid hb9
              clear hb9 hdr HJ9 HK9 p0 p1 p2 p3 p4 f2 hz8 a2 HJ8 HB8
              generalize (w8.setCell ⟨bp, 2, none⟩ (.string (nm t1 ++ nm t2))).drew = w10 at *
              have p0 := cell_blk HBA.out 0
              have p1 := cell_blk HBA.out 1
              have p2 := cell_blk HBA.out 2
              have p3 := cell_blk HBA.out 3
              have p4 := cell_blk HBA.out 4
              simp at p0 p1 p2 p3 p4
              have hz8 := fin_at HBA.out
              obtain ⟨tt, htt⟩ : ∃ tt, nm t1 ++ nm t2 = tt := ⟨_, rfl⟩
              rw [htt] at HBA p2 hcat
              go_wp2_with fail
              have hcap := HJA.out.cap
              have hcap2 : qs.length ≤ c := by omega
              have hc0 : ¬ c = 0 := by omega
              have hw3 : IntKind.i64.wrap ((qs.length : Nat) : Int) = (qs.length : Int) := IntWalk.i64_in _ (by omega)
              have hs1 : (qs.length : Int) ≤ (c : Int) := by omega
              have hs2 : ¬ ((c : Int) < (qs.length : Int)) := by omega
              have hs3 : (0 : Int) ≤ (qs.length : Int) := by omega
              have hw2 : IntKind.i64.wrap ((qs.length : Int) + 1 - 1) = (qs.length : Int) := by rw [IntWalk.i64_in _ (by omega)]; omega
              have HROW := Lib.hid (HJA.out.cut HPP.out)
              have HONE : Hid (∀ u ∈ [Value.int .i64 k1, .bool q1, .string tt, .string (nm o1), .slice A1 n1' c1], u.oneCell' = true) := Lib.hid (by intro u hu; simp at hu; rcases hu with rfl | rfl | rfl | rfl | rfl <;> rfl)
              have HTT := Lib.hid htt
              have hbg : bp ≠ g := by omega
              have HOW := Lib.hid (World.ownsRow.alloc (w := w10.drew) HROW.out (.cells #[.int .i64 k1, .bool q1, .string tt, .string (nm o1), .slice A1 n1' c1] 32))
              have HNEW := Lib.hid (cellsL w10.drew [.int .i64 k1, .bool q1, .string tt, .string (nm o1), .slice A1 n1' c1] 32)
              have HBS : Hid (w.heap.size ≤ (w10.drew.alloc (.cells #[.int .i64 k1, .bool q1, .string tt, .string (nm o1), .slice A1 n1' c1] 32)).heap.size) := Lib.hid (by simp; omega)
              have SB2 := Lib.hid (boxed_al HBA.out hz8 (o := (.cells #[.int .i64 k1, .bool q1, .string tt, .string (nm o1), .slice A1 n1' c1] 32)))
              clear htt
              refine wp_region_noPanic ?_
              refine wp_region_held_drew (S := fun W => W.cell? ⟨bp, 0, none⟩ = some (.int .i64 k1) ∧ W.cell? ⟨bp, 1, none⟩ = some (.bool q1) ∧ W.cell? ⟨bp, 2, none⟩ = some (.string tt) ∧ W.cell? ⟨bp, 3, none⟩ = some (.string (nm o1)) ∧ W.cell? ⟨bp, 4, none⟩ = some (.slice A1 n1' c1)) (by kernel_rfl) ⟨p0, p1, p2, p3, p4⟩ (fun hHeld => ?_)
              refine wpAnyH_take (i := 0) (v := ?_) rfl (by kernel_rfl) (by kernel_rfl) (by kernel_rfl) (fun _ _ _ h => h) (Or.inl ⟨by rfl, ?_⟩) (by assumption) ?_
              rotate_left
              · (intro w hSw; (try dsimp only at hSw); go_simp; try with_reducible rfl)
              try simp only [List.getElem_toArray, List.getElem_cons_zero, Act.put, List.setIfInBounds_toArray, List.set_cons_zero, List.set_cons_succ]
              refine wpAnyH_take (i := 1) (v := ?_) rfl (by kernel_rfl) (by kernel_rfl) (by kernel_rfl) (fun _ _ _ h => h) (Or.inl ⟨by rfl, ?_⟩) (by assumption) ?_
              rotate_left
              · (intro w hSw; (try dsimp only at hSw); go_simp; try with_reducible rfl)
              try simp only [List.getElem_toArray, List.getElem_cons_zero, List.getElem_cons_succ, Act.put, List.setIfInBounds_toArray, List.set_cons_zero, List.set_cons_succ]
              refine wpAnyH_take (i := 2) (v := ?_) rfl (by kernel_rfl) (by kernel_rfl) (by kernel_rfl) (fun _ _ _ h => h) (Or.inl ⟨by rfl, ?_⟩) (by assumption) ?_
              rotate_left
              · (intro w hSw; (try dsimp only at hSw); go_simp; try with_reducible rfl)
              try simp only [List.getElem_toArray, List.getElem_cons_zero, List.getElem_cons_succ, Act.put, List.setIfInBounds_toArray, List.set_cons_zero, List.set_cons_succ]
              refine wpAnyH_take (i := 3) (v := ?_) rfl (by kernel_rfl) (by kernel_rfl) (by kernel_rfl) (fun _ _ _ h => h) (Or.inl ⟨by rfl, ?_⟩) (by assumption) ?_
              rotate_left
              · (intro w hSw; (try dsimp only at hSw); go_simp; try with_reducible rfl)
              try simp only [List.getElem_toArray, List.getElem_cons_zero, List.getElem_cons_succ, Act.put, List.setIfInBounds_toArray, List.set_cons_zero, List.set_cons_succ]
              refine wpAnyH_take (i := 4) (v := ?_) rfl (by kernel_rfl) (by kernel_rfl) (by kernel_rfl) (fun _ _ _ h => h) (Or.inl ⟨by rfl, ?_⟩) (by assumption) ?_
              rotate_left
              · (intro w hSw; (try dsimp only at hSw); go_simp; try with_reducible rfl)
              try simp only [List.getElem_toArray, List.getElem_cons_zero, List.getElem_cons_succ, Act.put, List.setIfInBounds_toArray, List.set_cons_zero, List.set_cons_succ]
              refine wpAnyH_ready (rs := [5]) (by kernel_rfl) (by simp) ?_
              refine AllReadyH.cons rfl (fun K hK => ?_) AllReadyH.nil
              go_simp
              refine hK.out _ _ (SB2.out) (fun hHeld => ?_)
              clear hK K
              try simp only [List.getElem_toArray, List.getElem_cons_zero, List.getElem_cons_succ, Act.put, List.setIfInBounds_toArray, List.set_cons_zero, List.set_cons_succ]
              refine wpAnyH_ready (rs := [6]) (by kernel_rfl) (by simp) ?_
              refine AllReadyH.cons rfl (fun K hK => ?_) AllReadyH.nil
              refine step_append_own rfl (.tmp 70) (.tmp 72) 22 rfl w.heap.size 32 i0 (.agg #[.int .i64 0, .bool false, .string ⟨#[]⟩, .string ⟨#[]⟩, .slice none 0 0]) 5 72 Tryd.underlying22 HI.out HZ0.out HZ1.out HZ2.out rfl (by decide) (.slice (some ⟨g, 0, none⟩) qs.length c) qs.length (qs.flatMap ptC) (by simp [Act.eval]) HOW.out ⟨w10.heap.size, 0, none⟩ 1 1 [.int .i64 k1, .bool q1, .string tt, .string (nm o1), .slice A1 n1' c1] (by simp [Act.eval]) rfl HNEW.out HONE.out (maxLen_ok (by omega)) (by omega) HBS.out ?_; intro v9 w9 hown9 hg9; have HO9 := Lib.hid hown9; have HG9 := Lib.hid hg9; have SB3 := Lib.hid (boxed_on HBA.out hz8 hbg hg9); obtain ⟨A9, c9, hv9⟩ := row_len hown9; clear hown9 hg9
              refine hK.out _ _ (SB3.out) (fun hHeld => ?_)
              clear hK K
              try simp only [List.getElem_toArray, List.getElem_cons_zero, List.getElem_cons_succ, Act.put, List.setIfInBounds_toArray, List.set_cons_zero, List.set_cons_succ]
              refine wpAnyH_take (i := 7) (v := ?_) rfl (by kernel_rfl) (by kernel_rfl) (by kernel_rfl) (fun _ _ _ h => h) (Or.inl ⟨by rfl, ?_⟩) (by assumption) ?_
              rotate_left
              · (intro w hSw; (try dsimp only at hSw); go_simp; try with_reducible rfl)
              try simp only [List.getElem_toArray, List.getElem_cons_zero, List.getElem_cons_succ, Act.put, List.setIfInBounds_toArray, List.set_cons_zero, List.set_cons_succ]
              refine wpAnyH_done (by kernel_rfl) ?_ _
              refine NoPanic.normal ?_
              subst hv9
              have hnews : ptC (glue (PT.mk k1 q1 t1 o1 w1) (PT.mk k2 q2 t2 o2 w2), Value.slice A1 n1' c1) = [.int .i64 k1, .bool q1, .string tt, .string (nm o1), .slice A1 n1' c1] := by
                show [Value.int .i64 k1, .bool q1, .string (nm (t1 ++ t2)), .string (nm o1), .slice A1 n1' c1] = _
                rw [← nm_cat, HTT.out]
              have HJ10 := Lib.hid (glue_row (w7 := w10.drew) HJA.out.drew HPP.out (show w.heap.size ≤ w10.heap.size by omega) (by rw [hnews]; exact HO9.out) HG9.out HMG.out HLI.out)
              have hl10 : (qs ++ [(glue (PT.mk k1 q1 t1 o1 w1) (PT.mk k2 q2 t2 o2 w2), Value.slice A1 n1' c1)]).length = qs.length + 1 := by simp
              rw [← hl10] at HJ10
              clear hnews
              go_wp2
              go_roundg (lb.length - (i + 1))
              case rel => exact ⟨i + 1, A9, c9, _, rfl, by rw [hl10], by go_num, by omega, HJ10⟩
              case measure => omega
            · have b3 : (q1 == q2) = false := by simpa using m3
              have HNM := Lib.hid (HNM0.out (fun e => m3 e.2.2))
              clear m1 m2 m3
              go_wp2_with fail
              go_quiet (fail)
              have HJ2 := Lib.hid (HJ.out.drewN nq)
              replace a0 := (show (wr.drewN nq).cell? _ = _ from a0)
              replace a1 := (show (wr.drewN nq).cell? _ = _ from a1)
              replace a2 := (show (wr.drewN nq).cell? _ = _ from a2)
              replace a3 := (show (wr.drewN nq).cell? _ = _ from a3)
              replace a4 := (show (wr.drewN nq).cell? _ = _ from a4)
              replace hbw : b < (wr.drewN nq).heap.size := hbw
              replace hbz2 : w.heap.size ≤ (wr.drewN nq).heap.size := hbz2
              replace HAP : Hid (PB S d0 w.heap.size (wr.drewN nq) (.slice A2 w2.length c2) w2) := Lib.hid (PIn.drewN HAP.out nq)
              generalize wr.drewN nq = w7 at *
              go_wp2_with (at_builtin; refine wpList_append_own _ rfl (.tmp 74) (.tmp 79) 22 rfl w.heap.size 32 i0 (.agg #[.int .i64 0, .bool false, .string ⟨#[]⟩, .string ⟨#[]⟩, .slice none 0 0]) 5 72 Tryd.underlying22 HI.out HZ0.out HZ1.out HZ2.out rfl (by decide) _ _ _ rfl (HJ2.out.row.alloc _) ⟨w7.heap.size, 0, none⟩ 1 1 (ptC (.mk k2 q2 t2 o2 w2, .slice A2 w2.length c2)) rfl rfl (cellsL w7 _ _) (one_pt _ _ _ _ _ _ _ _) (maxLen_ok (by have := HLN.out; omega)) (by have := HLN.out; omega) (by simp; omega) ?_; intro v9 w9 hown9 hg9 _; have HJ9 := Lib.hid (app_row HJ2.out HD.out (.mk k2 q2 t2 o2 w2) (.slice A2 w2.length c2) HAP.out hbz2 hown9 hg9 HNM.out HLI.out); obtain ⟨A9, c9, hv9⟩ := row_len hown9; clear hown9 hg9)
              subst hv9
              have HJ10 : Hid (JSt S d w.heap.size w w9 la lb (i + 1) (.slice A9 (ps ++ [(PT.mk k2 q2 t2 o2 w2, Value.slice A2 w2.length c2)]).length c9) (ps ++ [(PT.mk k2 q2 t2 o2 w2, Value.slice A2 w2.length c2)])) := Lib.hid (by rw [List.length_append]; exact HJ9.out)
              have hl10 : (ps ++ [(PT.mk k2 q2 t2 o2 w2, Value.slice A2 w2.length c2)]).length = ps.length + 1 := by simp
              go_roundg (lb.length - (i + 1))
              case rel => exact ⟨i + 1, A9, c9, _, rfl, by rw [hl10], by go_num, by omega, HJ10⟩
              case measure => omega
          · have b2 : (k1 == 1) = false := by simpa using m2
            have HNM := Lib.hid (HNM0.out (fun e => m2 e.2.1))
            clear m1 m2
            go_wp2_with fail
            go_quiet (fail)
            have HJ2 := Lib.hid (HJ.out.drewN nq)
            replace a0 := (show (wr.drewN nq).cell? _ = _ from a0)
            replace a1 := (show (wr.drewN nq).cell? _ = _ from a1)
            replace a2 := (show (wr.drewN nq).cell? _ = _ from a2)
            replace a3 := (show (wr.drewN nq).cell? _ = _ from a3)
            replace a4 := (show (wr.drewN nq).cell? _ = _ from a4)
            replace hbw : b < (wr.drewN nq).heap.size := hbw
            replace hbz2 : w.heap.size ≤ (wr.drewN nq).heap.size := hbz2
            replace HAP : Hid (PB S d0 w.heap.size (wr.drewN nq) (.slice A2 w2.length c2) w2) := Lib.hid (PIn.drewN HAP.out nq)
            generalize wr.drewN nq = w7 at *
            go_wp2_with (at_builtin; refine wpList_append_own _ rfl (.tmp 74) (.tmp 79) 22 rfl w.heap.size 32 i0 (.agg #[.int .i64 0, .bool false, .string ⟨#[]⟩, .string ⟨#[]⟩, .slice none 0 0]) 5 72 Tryd.underlying22 HI.out HZ0.out HZ1.out HZ2.out rfl (by decide) _ _ _ rfl (HJ2.out.row.alloc _) ⟨w7.heap.size, 0, none⟩ 1 1 (ptC (.mk k2 q2 t2 o2 w2, .slice A2 w2.length c2)) rfl rfl (cellsL w7 _ _) (one_pt _ _ _ _ _ _ _ _) (maxLen_ok (by have := HLN.out; omega)) (by have := HLN.out; omega) (by simp; omega) ?_; intro v9 w9 hown9 hg9 _; have HJ9 := Lib.hid (app_row HJ2.out HD.out (.mk k2 q2 t2 o2 w2) (.slice A2 w2.length c2) HAP.out hbz2 hown9 hg9 HNM.out HLI.out); obtain ⟨A9, c9, hv9⟩ := row_len hown9; clear hown9 hg9)
            subst hv9
            have HJ10 : Hid (JSt S d w.heap.size w w9 la lb (i + 1) (.slice A9 (ps ++ [(PT.mk k2 q2 t2 o2 w2, Value.slice A2 w2.length c2)]).length c9) (ps ++ [(PT.mk k2 q2 t2 o2 w2, Value.slice A2 w2.length c2)])) := Lib.hid (by rw [List.length_append]; exact HJ9.out)
            have hl10 : (ps ++ [(PT.mk k2 q2 t2 o2 w2, Value.slice A2 w2.length c2)]).length = ps.length + 1 := by simp
            go_roundg (lb.length - (i + 1))
            case rel => exact ⟨i + 1, A9, c9, _, rfl, by rw [hl10], by go_num, by omega, HJ10⟩
            case measure => omega
        · have b1 : (k2 == 1) = false := by simpa using m1
          have HNM := Lib.hid (HNM0.out (fun e => m1 e.1))
          clear m1
          go_wp2_with fail
          go_quiet (fail)
          have HJ2 := Lib.hid (HJ.out.drewN nq)
          replace a0 := (show (wr.drewN nq).cell? _ = _ from a0)
          replace a1 := (show (wr.drewN nq).cell? _ = _ from a1)
          replace a2 := (show (wr.drewN nq).cell? _ = _ from a2)
          replace a3 := (show (wr.drewN nq).cell? _ = _ from a3)
          replace a4 := (show (wr.drewN nq).cell? _ = _ from a4)
          replace hbw : b < (wr.drewN nq).heap.size := hbw
          replace hbz2 : w.heap.size ≤ (wr.drewN nq).heap.size := hbz2
          replace HAP : Hid (PB S d0 w.heap.size (wr.drewN nq) (.slice A2 w2.length c2) w2) := Lib.hid (PIn.drewN HAP.out nq)
          generalize wr.drewN nq = w7 at *
          go_wp2_with (at_builtin; refine wpList_append_own _ rfl (.tmp 74) (.tmp 79) 22 rfl w.heap.size 32 i0 (.agg #[.int .i64 0, .bool false, .string ⟨#[]⟩, .string ⟨#[]⟩, .slice none 0 0]) 5 72 Tryd.underlying22 HI.out HZ0.out HZ1.out HZ2.out rfl (by decide) _ _ _ rfl (HJ2.out.row.alloc _) ⟨w7.heap.size, 0, none⟩ 1 1 (ptC (.mk k2 q2 t2 o2 w2, .slice A2 w2.length c2)) rfl rfl (cellsL w7 _ _) (one_pt _ _ _ _ _ _ _ _) (maxLen_ok (by have := HLN.out; omega)) (by have := HLN.out; omega) (by simp; omega) ?_; intro v9 w9 hown9 hg9 _; have HJ9 := Lib.hid (app_row HJ2.out HD.out (.mk k2 q2 t2 o2 w2) (.slice A2 w2.length c2) HAP.out hbz2 hown9 hg9 HNM.out HLI.out); obtain ⟨A9, c9, hv9⟩ := row_len hown9; clear hown9 hg9)
          subst hv9
          have HJ10 : Hid (JSt S d w.heap.size w w9 la lb (i + 1) (.slice A9 (ps ++ [(PT.mk k2 q2 t2 o2 w2, Value.slice A2 w2.length c2)]).length c9) (ps ++ [(PT.mk k2 q2 t2 o2 w2, Value.slice A2 w2.length c2)])) := Lib.hid (by rw [List.length_append]; exact HJ9.out)
          have hl10 : (ps ++ [(PT.mk k2 q2 t2 o2 w2, Value.slice A2 w2.length c2)]).length = ps.length + 1 := by simp
          go_roundg (lb.length - (i + 1))
          case rel => exact ⟨i + 1, A9, c9, _, rfl, by rw [hl10], by go_num, by omega, HJ10⟩
          case measure => omega
    · have hin : lb.length ≤ i := by omega
      go_wp2_with fail
      go_ret
      refine ⟨HJ.out.below, _, rfl, HJ.out.pa hin (fun e => ?_) ?_⟩
      · subst e
        exact ⟨HA.out.1, HB.out.1⟩
      · have h1 := congrArg List.length HJ.out.eq
        rw [List.length_map] at h1
        have h2 := join_len la (lb.take i)
        have h3 := List.length_take_le i lb
        omega

end Go.Proofs.YtkbhjjmgacahdaaDoor.Wd
