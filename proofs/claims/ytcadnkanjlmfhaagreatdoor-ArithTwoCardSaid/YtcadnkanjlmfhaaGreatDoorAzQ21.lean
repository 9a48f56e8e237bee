/- DERIVED. Texts of this claim, joined: ArRPut. -/
import Derived.Test.YtcadnkanjlmfhaaGreatDoorAzQ19
import Derived.Test.YtcadnkanjlmfhaaGreatDoorAzQ20
namespace Go.Proofs.YtcadnkanjlmfhaaGreatDoor.Ar
open Go.RowKit
open PathM WdM ArM
open Go.Proofs.YtcadnkanjlmfhaaGreatDoor.Wd
open Go.Proofs.YtcadnkanjlmfhaaGreatDoor.NumM (textL)
set_option linter.unusedVariables false

abbrev tG : TypeId := 64
abbrev z3 : Array Value := #[.int .i64 0, .slice none 0 0, .int .i64 0]
/-- Where variables come from: they are new, or those that came in. -/
def Src (v : Value) (vs : Vs) (w : World) (A : Option Addr) (k c : Nat) (vs' : Vs) : Prop := (∀ a, A = some a → w.heap.size ≤ a.block) ∨ (Value.slice A k c = v ∧ vs' = vs)
/-- What was reckoned: a number and the variables, or an error. -/
def GoP (v : Value) (vs : Vs) (m : Except Int (Int × Vs)) (w : World) (e : Ending) (w' : World) : Prop := Below w.heap.size w w' ∧ match m with
  | .ok (n, vs') => ∃ A k c, e = .returned (.agg #[.int .i64 n, .slice A k c, .int .i64 0]) ∧ VaIn w' (.slice A k c) vs' ∧ vs'.length ≤ 64 ∧ Src v vs w A k c vs'
  | .error er => ∃ n A k c, e = .returned (.agg #[.int .i64 n, .slice A k c, .int .i64 er]) ∧ er ≠ 0
theorem GoP.yes {v : Value} {vs0 : Vs} {m : Except Int (Int × Vs)} {w w' : World} {n : Int} {vs : Vs} {A : Option Addr} {k c : Nat} (hm : m = .ok (n, vs)) (hb : Below w.heap.size w w') (hv : VaIn w' (.slice A k c) vs) (hl : vs.length ≤ 64) (hs : Src v vs0 w A k c vs) : GoP v vs0 m w (.returned (.agg #[.int .i64 n, .slice A k c, .int .i64 0])) w' := by subst hm; exact ⟨hb, A, k, c, rfl, hv, hl, hs⟩
theorem GoP.no {v : Value} {vs0 : Vs} {m : Except Int (Int × Vs)} {w w' : World} {er n : Int} {A : Option Addr} {k c : Nat} (hm : m = .error er) (h0 : er ≠ 0) (hb : Below w.heap.size w w') : GoP v vs0 m w (.returned (.agg #[.int .i64 n, .slice A k c, .int .i64 er])) w' := by subst hm; exact ⟨hb, n, A, k, c, rfl, h0⟩
theorem box3 {W : World} {b : Nat} {t : TypeId} {x0 x1 x2 : Value} (h : W.heap[b]? = some (.cells #[x0, x1, x2] t (0, 0))) :
    W.cell? ⟨b, 0, none⟩ = some x0 ∧ W.cell? ⟨b, 1, none⟩ = some x1 ∧ W.cell? ⟨b, 2, none⟩ = some x2 ∧ W.frozen? ⟨b, 0, none⟩ = false ∧ W.frozen? ⟨b, 1, none⟩ = false ∧ W.frozen? ⟨b, 2, none⟩ = false ∧ b < W.heap.size :=
  ⟨cell_blk h 0, cell_blk h 1, cell_blk h 2, froz_blk h 0, froz_blk h 1, froz_blk h 2, fin_at h⟩
theorem three_set {W : World} {b : Nat} {t : TypeId} {x0 x1 x2 : Value} (h : W.heap[b]? = some (.cells #[x0, x1, x2] t (0, 0))) (y0 y1 y2 : Value) :
    (((W.setCell ⟨b, 0, none⟩ y0).setCell ⟨b, 1, none⟩ y1).setCell ⟨b, 2, none⟩ y2).heap[b]? = some (.cells #[y0, y1, y2] t (0, 0)) ∧ Kept (· = b) W (((W.setCell ⟨b, 0, none⟩ y0).setCell ⟨b, 1, none⟩ y1).setCell ⟨b, 2, none⟩ y2) := by
  have h0 := set_blk (j := 0) h y0
  have h1 := set_blk (j := 1) h0 y1
  have h2 := set_blk (j := 2) h1 y2
  have hk : ∀ (X : World) (j : Nat) (y : Value), Kept (· = b) X (X.setCell ⟨b, j, none⟩ y) := fun X j y => Kept.setCell (S := (· = b)) ⟨b, j, none⟩ y rfl
  exact ⟨by simpa using h2, ((hk _ 0 y0).trans (hk _ 1 y1)).trans (hk _ 2 y2)⟩
theorem three_then {W : World} {b : Nat} {t : TypeId} {x0 x1 x2 : Value} (h : W.heap[b]? = some (.cells #[x0, x1, x2] t (0, 0))) (y0 y1 y2 : Value) (o : Obj) :
    ((((W.setCell ⟨b, 0, none⟩ y0).setCell ⟨b, 1, none⟩ y1).setCell ⟨b, 2, none⟩ y2).alloc o).heap[b]? = some (.cells #[y0, y1, y2] t (0, 0)) ∧ Kept (· = b) W ((((W.setCell ⟨b, 0, none⟩ y0).setCell ⟨b, 1, none⟩ y1).setCell ⟨b, 2, none⟩ y2).alloc o) := by
  obtain ⟨h1, h2⟩ := three_set h y0 y1 y2
  exact ⟨(heap_alloc_old _ _ (fin_at h1)).trans h1, h2.trans (kept_of_below (al _ o))⟩
theorem va_row {W : World} {base : Nat} {v : Value} {vs : Vs} (h : W.ownsRow base 35 2 v vs.length (vs.flatMap varC)) (hs : SizesV vs) (hl : vs.length ≤ 1000) : VaIn W v vs := by
  rcases row_two h with ⟨rfl, h0⟩ | ⟨g, cap, rfl, h1, h2, _⟩
  · have : vs = [] := List.length_eq_zero_iff.1 h0
    subst this
    exact ⟨none, 0, rfl, ⟨by simp, by simp⟩, fun h => absurd rfl h⟩
  · refine ⟨_, _, rfl, ⟨by omega, hs⟩, fun _ => ⟨g, 0, rfl, h2, fun i hi => ?_⟩⟩
    obtain ⟨a, b⟩ := varC_at vs i hi
    rw [Nat.zero_add]
    exact ⟨row_cells h _ _ a, row_cells h _ _ b⟩
theorem row_form2 {W : World} {base n : Nat} {v : Value} {cs : List Value} (h : W.ownsRow base 35 2 v n cs) : ∃ A c, v = .slice A n c ∧ True := by
  rcases row_two h with ⟨rfl, h0⟩ | ⟨g, cap, rfl, _⟩
  · exact ⟨none, 0, by rw [h0], trivial⟩
  · exact ⟨_, _, rfl, trivial⟩
theorem run_append_empty {P : Program} {w : World} (t ty e : TypeId) (i : TypeInfo) (size : Nat) (ht : P.underlying t = some (.slice e)) (hi : P.info? e = some i) (g : Nat) (A : Option Addr) (c : Nat) :
    (Builtin.append_ #[t, t] ty #[.slice (some ⟨g, 0, none⟩) 0 0, .slice A 0 c]).run P w = .ok (.slice (some ⟨g, 0, none⟩) 0 0) w := by
  cases A with
  | none => simp [Builtin.append_, run_underlying ht, sizeOf, typeInfo, hi, Builtin.lenOf, Builtin.firstCells, storeCells]
  | some ad => simp [Builtin.append_, run_underlying ht, sizeOf, typeInfo, hi, Builtin.lenOf, Builtin.firstCells, loadCells, loadCellsFrom, storeCells]
/-- Variables copied behind an empty row. -/
theorem wpList_copy_vars {w : World} {ops : Array Oper} {rest : List Oper} {o : Oper} {a : Act} {Q : Exit → Act → World → Prop} (hgd : o.guard = none) (s x : Operand)
    (ho : o.op = .call { callee := .builtin .append, args := #[s, x], argTypes := #[22, 22] }) (g base : Nat) (hs : a.eval s = .slice (some ⟨g, 0, none⟩) 0 0) (hg : base ≤ g) (hbase : base ≤ w.heap.size) (hblk : w.heap[g]? = some (.cells #[] 35 (0, 0))) (ev : Value) (vs : Vs) (hx : a.eval x = ev) (hE : VaIn w ev vs) (hl : vs.length ≤ 64)
    (h : ∀ A c w', w'.ownsRow base 35 2 (.slice A vs.length c) vs.length (vs.flatMap varC) → Below base w w' → wpList Tryz.prog ops Q rest (a.put o.dst (.slice A vs.length c)) w') : wpList Tryz.prog ops Q (o :: rest) a w := by
  obtain ⟨i0, hi, hz0, hz1, hz2⟩ := info_parts infoV
  have hown : w.ownsRow base 35 2 (.slice (some ⟨g, 0, none⟩) 0 0) 0 [] := ⟨rfl, .inr ⟨g, 0, #[], rfl, hg, hblk, Nat.le_refl _, by simp [maxLen], rfl, rfl⟩⟩
  obtain ⟨A, c, rfl, _, hcell⟩ := hE
  by_cases hne : vs = []
  · subst hne
    refine wpList_plain hgd fun K hK => ?_
    have hrun := run_append_empty (P := Tryz.prog) (w := w) 22 o.type 35 i0 2 Tryz.underlying22 hi g A c
    unfold Oper.wp
    simp only [List.length_nil] at hx h
    simp [execOp, ho, resolve, invoke, builtin, hs, hx, hrun, Result.andThen]
    exact hK _ _ (h _ _ _ hown (Below.refl _ _))
  · obtain ⟨b, off, rfl, hb, hcs⟩ := hcell hne
    refine wpList_append_own _ hgd s x 22 ho base 35 i0 (.agg #[.string ByteArray.empty, .string ByteArray.empty]) 2 32 Tryz.underlying22 hi hz0 hz1 hz2 rfl (by decide) _ 0 [] hs hown ⟨b, off, none⟩ vs.length c (vs.flatMap varC) hx (flat_len vs) ?_ (flat_one vs) (maxLen_ok (by omega)) (by omega) hbase ?_
    · intro j u hj
      have hadd : (⟨b, off, none⟩ : Addr).add j = ⟨b, off + j, none⟩ := by simp [Addr.add]
      rw [hadd]
      exact flat_cell hcs j u hj
    · intro v' w' g1 g2 _
      rw [Nat.zero_add, List.nil_append] at g1
      obtain ⟨A5, c5, rfl, _⟩ := row_form2 g1
      exact h A5 c5 w' g1 ⟨g2.os, g2.tape, g2.output, g2.size, fun k hk => g2.block k (by omega) (fun e => by
        have : k = g := by simpa [Value.ownBlock] using e
        omega)⟩
/-- One variable is appended. -/
theorem rapp_one {ops : Array Oper} {rest : List Oper} {o : Oper} {a : Act} {Q : Exit → Act → World → Prop} {w : World} (hgd : o.guard = none) (s x : Operand) (ho : o.op = .call { callee := .builtin .append, args := #[s, x], argTypes := #[22, 22] })
    (base eb : Nat) (acc : Vs) (v : Value) (X Y : Bs) (XB YB : ByteArray) (hX : XB = nm X) (hY : YB = nm Y) (k : Nat) (hk : acc.length = k) (hs : a.eval s = v) (hx : a.eval x = .slice (some ⟨eb, 0, none⟩) 1 1) (hrow : w.ownsRow base 35 2 v acc.length (acc.flatMap varC)) (he : w.heap[eb]? = some (.cells #[.string XB, .string YB] 35 (0, 0))) (hl : acc.length ≤ 1000) (hbase : base ≤ w.heap.size)
    (h : ∀ A c w', w'.ownsRow base 35 2 (.slice A (k + 1) c) (acc ++ [(X, Y)]).length ((acc ++ [(X, Y)]).flatMap varC) → Below base w w' → wpList Tryz.prog ops Q rest (a.put o.dst (.slice A (k + 1) c)) w') : wpList Tryz.prog ops Q (o :: rest) a w := by
  subst hX; subst hY; subst hk
  obtain ⟨i0, hi0, hz0, hz1, hz2⟩ := info_parts infoV
  refine wpList_append_own_at _ hgd s x 22 ho base 35 i0 (.agg #[.string ByteArray.empty, .string ByteArray.empty]) 2 32 Tryz.underlying22 hi0 hz0 hz1 hz2 rfl (by decide) _ _ _ hs hrow ⟨eb, 0, none⟩ 1 1 [.string (nm X), .string (nm Y)] hx rfl (fun j u hj => by
    have hadd : (⟨eb, 0, none⟩ : Addr).add j = ⟨eb, j, none⟩ := by unfold Addr.add; split <;> simp_all
    rw [hadd, cell_blk he j]
    simpa using hj) (oneV _ _) (maxLen_ok (by omega)) (by omega) hbase ?_
  intro v5 w5 hown5 hg5 _ ho5
  obtain ⟨A5, c5, rfl, _⟩ := row_form2 hown5
  refine h A5 c5 w5 ?_ ⟨hg5.os, hg5.tape, hg5.output, hg5.size, fun k hk => hg5.block k (by omega) (fun e => ?_)⟩
  · rw [List.flatMap_append, List.length_append]
    exact hown5
  · have := (row_lt hrow e.symm).2; omega
def putM (vs : Vs) (name : Bs) (n : Int) : Except Int (Int × Vs) := match giveL vs name n with
  | .error e => .error e
  | .ok vs' => .ok (n, vs')

theorem give_full_m {vs : Vs} {name : Bs} {n : Int} (h1 : idxV name 0 vs = -1) (h2 : 64 ≤ vs.length) : putM vs name n = .error 2 := by
  have hf : findV vs name = none := by
    rcases idx_find name vs 0 with ⟨_, h⟩ | ⟨i, hi, h, _⟩
    · exact h
    · rw [h1] at h; omega
  unfold putM giveL
  rw [if_pos ⟨by rw [hf]; rfl, h2⟩]
theorem give_found_m {vs : Vs} {name : Bs} {n : Int} {i : Nat} (h1 : idxV name 0 vs = (i : Int)) : putM vs name n = .ok (n, setV vs name (textL n)) := by
  have hf : findV vs name ≠ none := by
    rcases idx_find name vs 0 with ⟨h, _⟩ | ⟨i, hi, _, h, _⟩
    · rw [h1] at h; omega
    · rw [h]; simp
  unfold putM giveL
  rw [if_neg (fun h => hf (Option.isNone_iff_eq_none.1 h.1))]
theorem give_new_m {vs : Vs} {name : Bs} {n : Int} (h2 : vs.length < 64) : putM vs name n = .ok (n, setV vs name (textL n)) := by
  unfold putM giveL
  rw [if_neg (fun h => by omega)]
theorem VaIn.kept {W W' : World} {b g n c : Nat} {vs : Vs} (h : VaIn W (.slice (some ⟨g, 0, none⟩) n c) vs) (hk : Kept (· = b) W W') (hne : g ≠ b) : VaIn W' (.slice (some ⟨g, 0, none⟩) n c) vs := by
  obtain ⟨A, c', hv, hl, hc⟩ := h
  refine ⟨A, c', hv, hl, fun hn => ?_⟩
  obtain ⟨b2, off, rfl, hb, hcs⟩ := hc hn
  simp only [Value.slice.injEq, Option.some.injEq, Addr.mk.injEq] at hv
  obtain ⟨⟨rfl, rfl, _⟩, _, _⟩ := hv
  have e := hk.block g hb hne
  exact ⟨_, _, rfl, Nat.lt_of_lt_of_le hb hk.size, fun i hi => ⟨(World.cell?_of_block e).trans (hcs i hi).1, (World.cell?_of_block e).trans (hcs i hi).2⟩⟩
theorem put_done {v : Value} {vs0 : Vs} {base b : Nat} {vs : Vs} {m : Except Int (Int × Vs)} {n : Int} {w W W' : World} {A : Option Addr} {k c : Nat} (hm : m = .ok (n, vs)) (hB : Below w.heap.size w W) (hrow : W.ownsRow base 35 2 (.slice A k c) vs.length (vs.flatMap varC)) (hb : b < base) (hbw : w.heap.size ≤ b) (hs : SizesV vs) (hl : vs.length ≤ 64) (hk : Kept (· = b) W W') : GoP v vs0 m w (.returned (.agg #[.int .i64 n, .slice A k c, .int .i64 0])) W' := by
  refine GoP.yes hm (kept_box hB hbw hk) ?_ hl (.inl (fun a ha => by
    rcases row_two hrow with ⟨e, _⟩ | ⟨g, cap, e, h1, h2, h3⟩
    · simp only [Value.slice.injEq] at e
      rw [e.1] at ha; cases ha
    · simp only [Value.slice.injEq] at e
      rw [e.1] at ha; cases ha
      show w.heap.size ≤ g
      omega))
  have hv := va_row hrow hs (by omega)
  rcases row_two hrow with ⟨e, h0⟩ | ⟨g, cap, e, h1, h2, _⟩
  · simp only [Value.slice.injEq] at e
    obtain ⟨rfl, rfl, rfl⟩ := e
    obtain ⟨A, c', hv, hl, hc⟩ := hv
    have : vs = [] := List.length_eq_zero_iff.1 h0
    subst this
    exact ⟨A, c', hv, hl, fun h => absurd rfl h⟩
  · simp only [Value.slice.injEq] at e
    obtain ⟨rfl, rfl, rfl⟩ := e
    exact hv.kept hk (by omega)
theorem put_box (w : World) (o : Obj) : ((w.alloc (.cells z3 tG)).alloc o).heap[w.heap.size]? = some (.cells z3 tG (0, 0)) := two_old w _ o
set_option maxRecDepth 100000 in
set_option maxHeartbeats 3200000 in
theorem rput_any (vs : Vs) (name : Bs) (n : Int) (v : Value) (w : World) (h : VaIn w v vs) (hl : vs.length ≤ 64) (hnl : name.length ≤ 4611686018427387904) (hn0 : -9223372036854775808 ≤ n) (hn1 : n ≤ 9223372036854775807) :
    Calls Tryz.prog 32 #[v, .string (nm name), .int .i64 n] w (GoP v vs (putM vs name n) w) := by
  have HTX : Hid (∀ W, Calls Tryz.prog 10 #[.int .i64 n] W fun e w' => e = .returned (.string (nm (textL n))) ∧ Below W.heap.size W w') := Lib.hid (fun W => (rtext_any n W hn0 hn1).mono (by
    rintro e w' ⟨rfl, k, rfl⟩
    exact ⟨rfl, bel_drewN (Below.refl _ _) k⟩))
  have HPL : Hid (∀ W, Below w.heap.size w W → Calls Tryz.prog 48 #[v, .string (nm name)] W fun e w' => e = .returned (.int .i64 (idxV name 0 vs)) ∧ w' = W) := Lib.hid (fun W hW => rplace_any vs name v W (h.below hW))
  have HV : Hid (∀ W, Below w.heap.size w W → VaIn W v vs) := Lib.hid (fun W hW => h.below hW)
  have hsz : SizesV vs := h.choose_spec.choose_spec.2.1.2
  have HB2 := Lib.hid (fun o2 => two_below w (.cells z3 tG) o2)
  have HX2 := Lib.hid (put_box w)
  have HN2 := Lib.hid (two_new w (.cells z3 tG) (.cells #[] 35))
  obtain ⟨A, c, rfl, _⟩ := h
  have HLV := Lib.hid hl
  have HSZ := Lib.hid hsz
  have htl := text_len n hn0 hn1
  go_enter Tryz.func32, Tryz.ntmps32
  go_wp2_with (at_builtin; refine wpList_copy_vars rfl (.tmp 9) (.tmp 10) rfl (w.heap.size + 1) (w.heap.size + 1) rfl (Nat.le_refl _) (by simp) HN2.out _ vs rfl (HV.out _ (HB2.out _)) HLV.out ?_; intro A5 c5 W1 hown hb; have HO := Lib.hid hown; have HB := Lib.hid hb)
  have HW1 := Lib.hid ((HB2.out (.cells #[] 35)).trans (hb.mono (Nat.le_succ _)))
  have hx1 := (hb.block w.heap.size (Nat.lt_succ_self _)).trans (HX2.out (.cells #[] 35))
  have HX1 := Lib.hid hx1
  clear hb HB HN2 HB2 HX2 hx1
  refine (HPL.out _ HW1.out).mono ?_
  rintro e W ⟨rfl, rfl⟩
  clear HPL
  rcases idx_find name vs 0 with ⟨hi, -⟩ | ⟨i, hil, hi, -, -⟩
  · rw [hi]
    have hset := set_new name (textL n) vs 0 hi
    by_cases h64 : 64 ≤ vs.length
    · have HF : Hid (∀ W', Kept (· = w.heap.size) W W' → GoP (.slice A vs.length c) vs (putM vs name n) w (.returned (.agg #[.int .i64 0, .slice none 0 0, .int .i64 2])) W') := Lib.hid (fun W' hk => GoP.no (give_full_m hi h64) (by decide) (kept_box HW1.out (Nat.le_refl _) hk))
      obtain ⟨d0, d1, d2, p0, p1, p2, hz⟩ := box3 HX1.out
      have hl3 : (64 : Int) ≤ (vs.length : Int) := by omega
      generalize GoP (.slice A vs.length c) vs (putM vs name n) w = Q at *
      clear hset hi HSZ hsz HV HLV hown HO
      go_wp2_with fail
      refine bodyPost_ret (results_cell_row rfl _ _ _ tG _ (0, 0) _ rfl (three_set HX1.out _ _ _).1 Tryz.underlying64 rfl (by kernel_rfl)) rfl ?_
      exact HF.out _ (three_set HX1.out _ _ _).2
    · have HF : Hid (∀ W6 W' A7 k c7, Below w.heap.size w W6 → W6.ownsRow (w.heap.size + 1) 35 2 (.slice A7 k c7) (vs ++ [(name, textL n)]).length ((vs ++ [(name, textL n)]).flatMap varC) → Kept (· = w.heap.size) W6 W' → GoP (.slice A vs.length c) vs (putM vs name n) w (.returned (.agg #[.int .i64 n, .slice A7 k c7, .int .i64 0])) W') := Lib.hid (fun W6 W' A7 k c7 hB hr hk => put_done (by rw [give_new_m (by omega), hset]) hB hr (Nat.lt_succ_self _) (Nat.le_refl _) (fun x hx => by
        rcases List.mem_append.1 hx with h | h
        · exact hsz x h
        · simp at h; subst h; exact ⟨hnl, htl⟩) (by simp; omega) hk)
      obtain ⟨d0, d1, d2, p0, p1, p2, hz⟩ := box3 HX1.out
      have hl3 : ¬ (64 : Int) ≤ (vs.length : Int) := by omega
      generalize GoP (.slice A vs.length c) vs (putM vs name n) w = Q at *
      obtain ⟨TB, hTB⟩ : ∃ T, nm (textL n) = T := ⟨_, rfl⟩
      obtain ⟨NB, hNB⟩ : ∃ T, nm name = T := ⟨_, rfl⟩
      have HTE := Lib.hid hTB
      have HNE := Lib.hid hNB
      rw [hTB] at HTX
      rw [hNB]
      clear hset hi HSZ hsz HV hown hTB hNB
      go_wp2_with (first | (go_at_call 10; refine (HTX.out _).mono ?_; rintro e W3 ⟨rfl, hb3⟩; have HB3 := Lib.hid hb3; have HO3 := Lib.hid (row_below HO.out hb3); have HX3 := Lib.hid ((hb3.block w.heap.size hz).trans HX1.out); have HW3 := Lib.hid (HW1.out.trans (hb3.mono HW1.out.size)); clear hb3) | (at_builtin; refine rapp_one rfl (.tmp 31) (.tmp 36) rfl (w.heap.size + 1) W3.heap.size vs _ name (textL n) NB TB HNE.out.symm HTE.out.symm _ rfl rfl rfl (row_below HO3.out (al W3 _)) (heap_alloc_new W3 _) (by have := HLV.out; omega) (by have := fin_at HX3.out; simp; omega) ?_; intro A6 c6 W6 hr6 hb6; have HR6 := Lib.hid hr6; have HX6 := Lib.hid ((hb6.block w.heap.size (Nat.lt_succ_self _)).trans ((heap_alloc_old W3 _ (fin_at HX3.out)).trans HX3.out)); have HW6 := Lib.hid ((HW3.out.alloc HW3.out.size _).trans (hb6.mono (Nat.le_succ _))); obtain ⟨d0, d1, d2, p0, p1, p2, hz6⟩ := box3 HX6.out; clear hr6 hb6))
      refine bodyPost_ret (results_cell_row rfl _ _ _ tG _ (0, 0) _ rfl (three_set HX6.out _ _ _).1 Tryz.underlying64 rfl (by kernel_rfl)) rfl ?_
      exact HF.out _ _ _ _ _ HW6.out HR6.out (three_set HX6.out _ _ _).2
  · simp only [Nat.zero_add] at hi
    rw [hi]
    obtain ⟨hil', hset⟩ := set_found name (textL n) vs 0 i (by simpa using hi)
    rcases row_two hown with ⟨_, h0⟩ | ⟨g, cap, hv, hg1, hg2, _⟩
    · omega
    simp only [Value.slice.injEq] at hv
    obtain ⟨rfl, _, rfl⟩ := hv
    have HF : Hid (∀ W3 W', Below W.heap.size W W3 → Kept (· = w.heap.size) (W3.setCell ⟨g, i * 2 + 1, none⟩ (.string (nm (textL n)))) W' → GoP (.slice A vs.length c) vs (putM vs name n) w (.returned (.agg #[.int .i64 n, .slice (some ⟨g, 0, none⟩) vs.length c5, .int .i64 0])) W') := Lib.hid (fun W3 W' h3 hk => by
      have hW3 := HW1.out.trans (h3.mono HW1.out.size)
      have hr3 := row_below HO.out h3
      have hst := (hr3.stored (i * 2 + 1) (.string (nm (textL n)))).1
      rw [flat_set vs i hil] at hst
      refine put_done (base := w.heap.size + 1) (b := w.heap.size) (W := W3.setCell ⟨g, i * 2 + 1, none⟩ (.string (nm (textL n)))) (vs := vs.set i (vs[i].1, textL n)) (by rw [give_found_m hi, hset]) (kept_box (b := g) hW3 (by omega) (Kept.setCell (S := (· = g)) ⟨g, i * 2 + 1, none⟩ _ rfl)) (by simpa using hst) (Nat.lt_succ_self _) (Nat.le_refl _) (fun x hx => ?_) (by rw [List.length_set]; exact hl) hk
      rcases List.mem_or_eq_of_mem_set hx with hx | rfl
      · exact hsz x hx
      · exact ⟨(hsz _ (List.getElem_mem hil)).1, htl⟩)
    have HR3 : Hid (∀ W3, Below W.heap.size W W3 → W3.frozen? ⟨g, i * 2 + 1, none⟩ = false ∧ g < W3.heap.size ∧ ∃ u, W3.cell? ⟨g, i * 2 + 1, none⟩ = some u) := Lib.hid (fun W3 h3 => by
      have hr3 := row_below HO.out h3
      obtain ⟨_, a1⟩ := varC_at vs i hil
      exact ⟨hr3.frozenAt _, Nat.lt_of_lt_of_le hg2 h3.size, _, row_cells hr3 _ _ a1⟩)
    have hi2 : (i : Int) < (vs.length : Int) := by omega
    have hgne : ¬ g = w.heap.size := by omega
    have hlc5 : vs.length ≤ 64 := hl
    generalize GoP (.slice A vs.length c) vs (putM vs name n) w = Q at *
    generalize nm (textL n) = TB at *
    generalize nm name = NB at *
    obtain ⟨len, hlen⟩ : ∃ len, vs.length = len := ⟨_, rfl⟩
    rw [hlen] at HF hi2 hlc5 ⊢
    clear hset hi HSZ hsz HV hown HO hil hil' HLV hl hlen
    go_wp2_with (go_at_call 10; refine (HTX.out _).mono ?_; rintro e W3 ⟨rfl, hb3⟩; have HB3 := Lib.hid hb3; obtain ⟨k1, k2, u, k3⟩ := HR3.out W3 hb3; have HX3 := Lib.hid ((hb3.block w.heap.size (fin_at HX1.out)).trans HX1.out); obtain ⟨d0, d1, d2, p0, p1, p2, hz⟩ := box3 HX3.out; clear hb3)
    have hx4 : (W3.setCell ⟨g, i * 2 + 1, none⟩ (.string TB)).heap[w.heap.size]? = some (.cells z3 tG (0, 0)) := (Below.heap_setCell _ _ _ _ (fun e => hgne (Eq.symm e))).trans HX3.out
    refine bodyPost_ret (results_cell_row rfl _ _ _ tG _ (0, 0) _ rfl (three_set hx4 _ _ _).1 Tryz.underlying64 rfl (by kernel_rfl)) rfl ?_
    exact HF.out _ _ HB3.out (three_set hx4 _ _ _).2

end Go.Proofs.YtcadnkanjlmfhaaGreatDoor.Ar
