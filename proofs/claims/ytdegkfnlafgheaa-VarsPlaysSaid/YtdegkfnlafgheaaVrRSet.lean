/- DERIVED. The document's own table: Set. -/
import Derived.Test.YtdegkfnlafgheaaVrRef
import Derived.Test.YtdegkfnlafgheaaVrGetV
namespace Go.Proofs.Ytdegkfnlafgheaa.Vr
open Go.RowKit
open PathM WdM VrM
open Go.Proofs.Ytdegkfnlafgheaa.Wd
set_option linter.unusedVariables false
/-- One variable is appended. -/
theorem app_one {ops : Array Oper} {rest : List Oper} {o : Oper} {a : Act} {Q : Exit → Act → World → Prop} {w : World} (hgd : o.guard = none) (s x : Operand) (ho : o.op = .call { callee := .builtin .append, args := #[s, x], argTypes := #[22, 22] })
    (base eb : Nat) (acc : Vs) (v : Value) (X Y : Bs) (hs : a.eval s = v) (hx : a.eval x = .slice (some ⟨eb, 0, none⟩) 1 1) (hrow : w.ownsRow base 26 2 v acc.length (acc.flatMap varC)) (he : w.heap[eb]? = some (.cells #[.string (nm X), .string (nm Y)] 26 (0, 0))) (hl : acc.length ≤ 1000) (hbase : base ≤ w.heap.size)
    (h : ∀ A c w', w'.ownsRow base 26 2 (.slice A (acc.length + 1) c) (acc ++ [(X, Y)]).length ((acc ++ [(X, Y)]).flatMap varC) → Below base w w' → wpList Try.prog ops Q rest (a.put o.dst (.slice A (acc.length + 1) c)) w') : wpList Try.prog ops Q (o :: rest) a w := by
  obtain ⟨i0, hi0, hz0, hz1, hz2⟩ := info_parts infoV
  refine wpList_append_own_at _ hgd s x 22 ho base 26 i0 (.agg #[.string ByteArray.empty, .string ByteArray.empty]) 2 32 Try.underlying22 hi0 hz0 hz1 hz2 rfl (by decide) _ _ _ hs hrow ⟨eb, 0, none⟩ 1 1 [.string (nm X), .string (nm Y)] hx rfl (cell_two he) (oneV _ _) (maxLen_ok (by omega)) (by omega) hbase ?_
  intro v5 w5 hown5 hg5 _ ho5
  obtain ⟨A5, c5, rfl, _⟩ := row_form hown5
  refine h A5 c5 w5 ?_ ⟨hg5.os, hg5.tape, hg5.output, hg5.size, fun k hk => hg5.block k (by omega) (fun e => ?_)⟩
  · rw [List.flatMap_append, List.length_append]
    exact hown5
  · have := (row_lt hrow e.symm).2; omega
theorem set1_below {B b j : Nat} {w W : World} {x : Value} (h : Below B w W) (hb : B ≤ b) : Below B w (W.setCell ⟨b, j, none⟩ x) := ⟨h.os, h.tape, h.output, by have := h.size; simpa using this, fun k hk => (Below.heap_setCell _ _ _ _ (by show k ≠ b; omega)).trans (h.block k hk)⟩
theorem set3_below {B b : Nat} {w W : World} {x y z : Value} (h : Below B w W) (hb : B ≤ b) : Below B w (((W.setCell ⟨b, 0, none⟩ x).setCell ⟨b, 1, none⟩ y).setCell ⟨b, 2, none⟩ z) := set1_below (set1_below (set1_below h hb) hb) hb
def tblV (vv av : Value) (st : Int) : Value := .agg #[vv, av, .int .i64 st]
def RSetPost (vv av : Value) (st : Int) (m : Except Int Vs) (w : World) (e : Ending) (w' : World) : Prop := Below w.heap.size w w' ∧ match m with
  | .ok vs' => ∃ vv', e = .returned (.tuple #[tblV vv' av st, .int .i64 0]) ∧ VsIn w' vv' vs' ∧ ∀ k, vv'.ownBlock = some k → w.heap.size ≤ k
  | .error er => e = .returned (.tuple #[tblV vv av st, .int .i64 er]) ∧ er ≠ 0
theorem rs_no {vv av : Value} {st : Int} {m : Except Int Vs} {w w' : World} {er : Int} (hm : m = .error er) (h0 : er ≠ 0) (hb : Below w.heap.size w w') : RSetPost vv av st m w (.returned (.tuple #[tblV vv av st, .int .i64 er])) w' := by subst hm; exact ⟨hb, rfl, h0⟩
theorem vs_row {W : World} {base : Nat} {v : Value} {vs : Vs} (h : W.ownsRow base 26 2 v vs.length (vs.flatMap varC)) : VsIn W v vs := by
  rcases row_two h with ⟨rfl, h0⟩ | ⟨g, cap, rfl, h1, h2, _⟩
  · have : vs = [] := List.length_eq_zero_iff.1 h0
    subst this
    exact VsIn.nil _ _ _
  · refine ⟨_, _, rfl, h1, fun _ => ⟨g, 0, rfl, h2, fun i hi => ?_⟩⟩
    obtain ⟨a, b⟩ := varC_at vs i hi
    rw [Nat.zero_add]
    exact ⟨row_cells h _ _ a, row_cells h _ _ b⟩
theorem rs_yes {vv vv' av : Value} {st : Int} {m : Except Int Vs} {vs' : Vs} {w w' : World} (hm : m = .ok vs') (h : VsIn w' vv' vs') (hf : ∀ k, vv'.ownBlock = some k → w.heap.size ≤ k) (hb : Below w.heap.size w w') : RSetPost vv av st m w (.returned (.tuple #[tblV vv' av st, .int .i64 0])) w' := by subst hm; exact ⟨hb, vv', rfl, h, hf⟩
theorem results_cell2 {P : Program} {fn : Func} {p u : Tmp} {ty : TypeId} (h : fn.results = #[.cell p ty, .tmp u]) (tmps : Array Value) (w : World) (g : Nat) (t : TypeId) (cs : Array Value) (fr : Nat × Nat) (d : TypeDesc)
    (hp : tmps.getD p undef = .pointer (some ⟨g, 0, none⟩)) (hg : w.heap[g]? = some (.cells cs t fr))
    (hu : P.underlying ty = some d) (hd : (match d with | .struct _ | .array _ _ => true | _ => false) = true) (hi : (P.info? ty).map (·.size) = some cs.size) :
    (results fn tmps).run P w = .ok (.tuple #[.agg cs, tmps.getD u undef]) w := by
  rw [results_cell_tmp h, hp]
  simp [asAddr, Result.andThen, run_loadVar_row w g t ty cs fr d hg hu hd hi]
theorem two_new (w : World) (a b : Obj) : ((w.alloc a).alloc b).heap[w.heap.size + 1]? = some b := by
  have := heap_alloc_new (w.alloc a) b
  simpa using this
theorem two_old (w : World) (a b : Obj) : ((w.alloc a).alloc b).heap[w.heap.size]? = some a := by
  rw [heap_alloc_old (w.alloc a) b (by simp)]
  exact heap_alloc_new w a
theorem two_below (w : World) (a b : Obj) : Below w.heap.size w ((w.alloc a).alloc b) := ((Below.refl _ _).alloc (Nat.le_refl _) _).alloc (by simp) _
set_option maxRecDepth 100000 in
set_option maxHeartbeats 1600000 in
theorem rset_no (vs : Vs) (name t : Bs) (vv : Value) (A2 : Option Addr) (n2 c2 : Nat) (st : Int) (w : World) (h : VsIn w vv vs) (hs : Srt vs) (hl : vs.length ≤ 1000) (hn : name.length ≤ 4611686018427387904) (ht : t.length ≤ 4611686018427387904) (er : Int) (hm : setL vs name t = .error er) :
    Calls Try.prog 27 #[tblV vv (.slice A2 n2 c2) st, .string (nm name), .string (nm t)] w (RSetPost vv (.slice A2 n2 c2) st (setL vs name t) w) := by
  have h00 : er = 70 ∧ isName name = false ∨ er = 2 ∧ isName name = true := by
    unfold setL at hm
    split at hm
    · cases hm; exact .inl ⟨rfl, ‹_›⟩
    · split at hm
      · cases hm; exact .inr ⟨rfl, by simpa using ‹¬ isName name = false›⟩
      · cases hm
  have HNM := Lib.hid (fun W => Wd.rname_any (nm name) W (by rw [nm_size]; exact hn))
  rw [nm_data] at HNM
  have HF := Lib.hid (fun W (h0 : er ≠ 0) hb => rs_no (vv := vv) (av := .slice A2 n2 c2) (st := st) (w := w) (w' := W) hm h0 hb)
  rcases h00 with ⟨rfl, hno⟩ | ⟨rfl, hyes⟩
  · rw [hno] at HNM
    obtain ⟨A, c, rfl, _⟩ := h.form
    unfold tblV at *
    clear h hs hn ht hm hno
    generalize RSetPost (.slice A vs.length c) (.slice A2 n2 c2) st (setL vs name t) w = Q at *
    generalize nm name = N at *
    generalize nm t = T at *
    generalize vs.length = n at *
    go_enter Try.func27, Try.ntmps27
    go_wp2_with (go_at_call 20; refine (HNM.out _).mono ?_; rintro e W ⟨rfl, rfl⟩)
    refine bodyPost_ret (results_cell2 rfl _ _ _ 36 _ (0, 0) _ rfl (two_new _ _ _) Try.underlying36 rfl (by kernel_rfl)) rfl ?_
    exact HF.out _ (by decide) (two_below _ _ _)
  · rw [hyes] at HNM
    have hor : 4096 < t.length ∨ (hasV vs name = false ∧ 64 ≤ vs.length) := by
      unfold setL at hm
      rw [if_neg (by rw [hyes]; simp)] at hm
      split at hm
      · assumption
      · cases hm
    have HPL : Hid (∀ W, Below w.heap.size w W → Calls Try.prog 41 #[.agg #[vv, .slice A2 n2 c2, .int .i64 st], .string (nm name)] W fun e w' => e = .returned (.int .i64 (plV vs name)) ∧ Below W.heap.size W w') := Lib.hid (fun W hb => rplace_any vs name vv A2 n2 c2 st W (h.below hb) hs hl)
    have HTB := Lib.hid (two_below w (.cells #[vv, .slice A2 n2 c2, .int .i64 st] 36) (.cells #[.slice none 0 0, .slice none 0 0, .int .i64 0] 36))
    have H3 := Lib.hid (two_old w (.cells #[vv, .slice A2 n2 c2, .int .i64 st] 36) (.cells #[.slice none 0 0, .slice none 0 0, .int .i64 0] 36))
    have H6 := Lib.hid (two_new w (.cells #[vv, .slice A2 n2 c2, .int .i64 st] 36) (.cells #[.slice none 0 0, .slice none 0 0, .int .i64 0] 36))
    obtain ⟨A, c, rfl, hlc⟩ := h.form
    have hsz : (nm t).size = t.length := nm_size t
    have hpl : plV vs name = -1 ∨ t.length ≤ 4096 ∨ True := .inr (.inr trivial)
    have hl2 : (vs.length : Int) ≤ 1000 := by omega
    have hor2 : (4096 : Int) < ((nm t).size : Int) ∨ (((nm t).size : Int) ≤ 4096 ∧ plV vs name = -1 ∧ (64 : Int) ≤ (vs.length : Int)) := by
      rw [hsz]
      by_cases h1 : 4096 < t.length
      · exact .inl (by omega)
      · rcases hor with h | ⟨h, h2⟩
        · omega
        · exact .inr ⟨by omega, by unfold plV; rw [h]; rfl, by omega⟩
    have hst : ((nm t).size : Int) ≤ 4611686018427387904 := by rw [hsz]; omega
    unfold tblV at *
    clear h hs hn hm hyes hor hpl hsz
    generalize RSetPost (.slice A vs.length c) (.slice A2 n2 c2) st (setL vs name t) w = Q at *
    generalize plV vs name = pl at *
    generalize nm name = N at *
    generalize nm t = T at *
    generalize vs.length = n at *
    rcases hor2 with h1 | ⟨h1, rfl, h2⟩
    all_goals
      go_enter Try.func27, Try.ntmps27
      go_wp2_with (first | (go_at_call 20; refine (HNM.out _).mono ?_; rintro e W ⟨rfl, rfl⟩) | (go_at_call 41; refine (HPL.out _ HTB.out).mono ?_; rintro e W ⟨rfl, hb⟩; have hh3 := (hb.block w.heap.size (by simp; omega)).trans H3.out; have hh6 := (hb.block (w.heap.size + 1) (by simp)).trans H6.out; have c30 := cell_blk hh3 0; have c31 := cell_blk hh3 1; have c32 := cell_blk hh3 2; have c60 := cell_blk hh6 0; have c61 := cell_blk hh6 1; have c62 := cell_blk hh6 2; have f60 := froz_blk hh6 0; have f61 := froz_blk hh6 1; have f62 := froz_blk hh6 2; simp at c30 c31 c32 c60 c61 c62; have hz6 := fin_at hh6; have HH6 := Lib.hid hh6; have HB := Lib.hid (HTB.out.trans (hb.mono HTB.out.size)); clear hh3 hh6 hb))
      refine bodyPost_ret (results_cell2 rfl _ _ _ 36 _ (0, 0) _ rfl (set_blk (set_blk (set_blk HH6.out _) _) _) Try.underlying36 rfl (by kernel_rfl)) rfl ?_
      exact HF.out _ (by decide) (set3_below HB.out (by omega))
/-- What holds while variables are put one behind another. -/
structure RSI (w : World) (C3 C6 : Array Value) (acc : Vs) (v : Value) (wr : World) : Prop where
  b3 : wr.heap[w.heap.size]? = some (.cells C3 36 (0, 0))
  b6 : wr.heap[w.heap.size + 1]? = some (.cells C6 36 (0, 0))
  row : wr.ownsRow (w.heap.size + 2) 26 2 v acc.length (acc.flatMap varC)
  bel : Below w.heap.size w wr
theorem RSI.app {ops : Array Oper} {rest : List Oper} {o : Oper} {a : Act} {Q : Exit → Act → World → Prop} {w wr : World} {C3 C6 : Array Value} {acc : Vs} {v : Value} (H : Hid (RSI w C3 C6 acc v wr)) (hgd : o.guard = none) (s x : Operand) (ho : o.op = .call { callee := .builtin .append, args := #[s, x], argTypes := #[22, 22] })
    (X Y : Bs) (N T : ByteArray) (hN : Hid (nm X = N)) (hT : Hid (nm Y = T)) (hs : a.eval s = v) (hx : a.eval x = .slice (some ⟨wr.heap.size, 0, none⟩) 1 1) (hl : acc.length ≤ 1000) (k : Nat) (hk : acc.length = k)
    (h : ∀ A c w', RSI w C3 C6 (acc ++ [(X, Y)]) (.slice A (k + 1) c) w' → wr.heap.size ≤ w'.heap.size → wpList Try.prog ops Q rest (a.put o.dst (.slice A (k + 1) c)) w') : wpList Try.prog ops Q (o :: rest) a (wr.alloc (.cells #[.string N, .string T] 26)) := by
  subst hk
  have hb6 := fin_at H.out.b6
  have hba : Below wr.heap.size wr (wr.alloc (.cells #[.string N, .string T] 26)) := (Below.refl _ _).alloc (Nat.le_refl _) _
  have hn := heap_alloc_new wr (.cells #[.string N, .string T] 26)
  refine app_one hgd s x ho (w.heap.size + 2) wr.heap.size acc v X Y hs hx (row_below H.out.row hba) (by rw [hN.out, hT.out]; exact hn) hl (by have := hba.size; omega) ?_
  intro A c w' hr hb
  refine h A c w' ⟨?_, ?_, ?_, ?_⟩ (Nat.le_trans hba.size hb.size)
  · exact (hb.block _ (by omega)).trans ((hba.block _ (by omega)).trans H.out.b3)
  · exact (hb.block _ (by omega)).trans ((hba.block _ (by omega)).trans H.out.b6)
  · have : (acc ++ [(X, Y)]).length = acc.length + 1 := by simp
    rw [this] at hr ⊢
    exact hr
  · exact (H.out.bel.trans (hba.mono (by omega))).trans (hb.mono (by omega))
theorem RSI.fresh {w wr : World} {C3 C6 : Array Value} {acc : Vs} {v : Value} (h : RSI w C3 C6 acc v wr) : ∀ k, v.ownBlock = some k → w.heap.size ≤ k := fun k hk => by have := (row_lt h.row hk).2; omega
theorem RSI.fin {w wr : World} {C3 C6 : Array Value} {acc : Vs} {v : Value} (h : RSI w C3 C6 acc v wr) (y x0 x1 x2 : Value) :
    VsIn ((((wr.setCell ⟨w.heap.size, 0, none⟩ y).setCell ⟨w.heap.size + 1, 0, none⟩ x0).setCell ⟨w.heap.size + 1, 1, none⟩ x1).setCell ⟨w.heap.size + 1, 2, none⟩ x2) v acc ∧ Below w.heap.size w ((((wr.setCell ⟨w.heap.size, 0, none⟩ y).setCell ⟨w.heap.size + 1, 0, none⟩ x0).setCell ⟨w.heap.size + 1, 1, none⟩ x1).setCell ⟨w.heap.size + 1, 2, none⟩ x2) ∧
      (wr.setCell ⟨w.heap.size, 0, none⟩ y).heap[w.heap.size + 1]? = some (.cells C6 36 (0, 0)) := by
  have h0 : v.ownBlock ≠ some w.heap.size := by intro e; have := (row_lt h.row e).2; omega
  have h1 : v.ownBlock ≠ some (w.heap.size + 1) := by intro e; have := (row_lt h.row e).2; omega
  refine ⟨vs_row (ownsRow_setCell_other (ownsRow_setCell_other (ownsRow_setCell_other (ownsRow_setCell_other h.row (a := ⟨w.heap.size, 0, none⟩) h0 _) (a := ⟨w.heap.size + 1, 0, none⟩) h1 _) (a := ⟨w.heap.size + 1, 1, none⟩) h1 _) (a := ⟨w.heap.size + 1, 2, none⟩) h1 _), set3_below (set1_below h.bel (Nat.le_refl _)) (by omega), ?_⟩
  exact (Below.heap_setCell _ _ _ _ (by show w.heap.size + 1 ≠ w.heap.size; omega)).trans h.b6
set_option maxRecDepth 100000 in
set_option maxHeartbeats 3200000 in
theorem rset_yes (vs : Vs) (name t : Bs) (vv : Value) (A2 : Option Addr) (n2 c2 : Nat) (st : Int) (w : World) (h : VsIn w vv vs) (hs : Srt vs) (hl : vs.length ≤ 64) (hn : name.length ≤ 4611686018427387904) (ht : t.length ≤ 4611686018427387904) (hm : setL vs name t = .ok (putV vs name t)) :
    Calls Try.prog 27 #[tblV vv (.slice A2 n2 c2) st, .string (nm name), .string (nm t)] w (RSetPost vv (.slice A2 n2 c2) st (setL vs name t) w) := by
  have h00 : isName name = true ∧ ¬ (4096 < t.length ∨ (hasV vs name = false ∧ 64 ≤ vs.length)) := by
    unfold setL at hm
    split at hm
    · cases hm
    · split at hm
      · cases hm
      · exact ⟨by simpa using ‹¬ isName name = false›, ‹_›⟩
  obtain ⟨hyes, hor⟩ := h00
  have HNM := Lib.hid (fun W => Wd.rname_any (nm name) W (by rw [nm_size]; exact hn))
  rw [nm_data, hyes] at HNM
  have HPL : Hid (∀ W, Below w.heap.size w W → Calls Try.prog 41 #[.agg #[vv, .slice A2 n2 c2, .int .i64 st], .string (nm name)] W fun e w' => e = .returned (.int .i64 (plV vs name)) ∧ Below W.heap.size W w') := Lib.hid (fun W hb => rplace_any vs name vv A2 n2 c2 st W (h.below hb) hs (by omega))
  have HTB := Lib.hid (two_below w (.cells #[vv, .slice A2 n2 c2, .int .i64 st] 36) (.cells #[.slice none 0 0, .slice none 0 0, .int .i64 0] 36))
  have H3 := Lib.hid (two_old w (.cells #[vv, .slice A2 n2 c2, .int .i64 st] 36) (.cells #[.slice none 0 0, .slice none 0 0, .int .i64 0] 36))
  have H6 := Lib.hid (two_new w (.cells #[vv, .slice A2 n2 c2, .int .i64 st] 36) (.cells #[.slice none 0 0, .slice none 0 0, .int .i64 0] 36))
  have HGO : Hid ([] ++ goL name t false (vs.drop 0) = putV vs name t) := Lib.hid (go_put name t vs hs)
  have HPLEN : Hid ((putV vs name t).length ≤ 65) := Lib.hid (by rw [put_len hs]; split <;> omega)
  have HF : Hid (∀ W v', VsIn W v' (putV vs name t) → (∀ k, v'.ownBlock = some k → w.heap.size ≤ k) → Below w.heap.size w W → RSetPost vv (.slice A2 n2 c2) st (setL vs name t) w (.returned (.tuple #[tblV v' (.slice A2 n2 c2) st, .int .i64 0])) W) := Lib.hid (fun W v' h hf hb => rs_yes hm h hf hb)
  obtain ⟨A, c, hvf, hlc, hcell⟩ := h
  have HCE : Hid (∀ i (h : i < vs.length), ∃ b off, A = some ⟨b, off, none⟩ ∧ b < w.heap.size ∧ ∀ W, Below w.heap.size w W → W.cell? ⟨b, off + i * 2, none⟩ = some (.string (nm vs[i].1)) ∧ W.cell? ⟨b, off + i * 2 + 1, none⟩ = some (.string (nm vs[i].2))) := Lib.hid (fun i h => by
    obtain ⟨b, off, h1, h2, h3⟩ := hcell (fun e => by rw [e] at h; simp at h)
    exact ⟨b, off, h1, h2, fun W hb => ⟨(World.cell?_of_block (hb.block b h2)).trans (h3 i h).1, (World.cell?_of_block (hb.block b h2)).trans (h3 i h).2⟩⟩)
  have hsz : (nm t).size = t.length := nm_size t
  have ht2 : ((nm t).size : Int) ≤ 4096 := by rw [hsz]; omega
  have hpl : (0 : Int) ≤ plV vs name ∨ (plV vs name = -1 ∧ (vs.length : Int) < 64) := by
    unfold plV
    cases hh : hasV vs name with
    | true => exact .inl (by simp)
    | false => exact .inr ⟨rfl, by have : ¬ 64 ≤ vs.length := fun h => hor (.inr ⟨hh, h⟩); omega⟩
  have HGE := Lib.hid (fun a => lt_str a name)
  have HEQ := Lib.hid (fun a => eq_str a name)
  obtain ⟨n, hnn⟩ : ∃ n, vs.length = n := ⟨_, rfl⟩
  have HL := Lib.hid hnn
  rw [hnn] at hlc hl hvf hpl
  have hl2 : (n : Int) ≤ 64 := by omega
  have hnc : (n : Int) ≤ (c : Int) := by omega
  subst hvf
  unfold tblV at *
  clear hcell hs hn ht hm hyes hor hsz hnn
  generalize RSetPost (.slice A n c) (.slice A2 n2 c2) st (setL vs name t) w = Q at *
  generalize plV vs name = pl at *
  generalize putV vs name t = M at *
  obtain ⟨N, hN⟩ : ∃ N, nm name = N := ⟨_, rfl⟩
  obtain ⟨T, hT⟩ : ∃ T, nm t = T := ⟨_, rfl⟩
  have HNE := Lib.hid hN
  have HTE := Lib.hid hT
  rw [hN] at HNM HPL HGE HEQ ⊢
  rw [hT] at ht2 ⊢
  clear hN hT
  rcases hpl with hpl | ⟨rfl, hpl⟩
  all_goals
    go_enter Try.func27, Try.ntmps27
    go_wp2_with (first | (go_at_call 20; refine (HNM.out _).mono ?_; rintro e W ⟨rfl, rfl⟩) | (go_at_call 41; refine (HPL.out _ HTB.out).mono ?_; rintro e W ⟨rfl, hb⟩; have hh3 := (hb.block w.heap.size (by simp; omega)).trans H3.out; have hh6 := (hb.block (w.heap.size + 1) (by simp)).trans H6.out; have c30 := cell_blk hh3 0; have c31 := cell_blk hh3 1; have c32 := cell_blk hh3 2; simp at c30 c31 c32; have hz6 := fin_at hh6; have HH3 := Lib.hid hh3; have HH6 := Lib.hid hh6; have HB := Lib.hid (HTB.out.trans (hb.mono HTB.out.size)); clear hh3 hh6 hb))
  all_goals
    have HI0 : Hid (RSI w #[.slice A n c, .slice A2 n2 c2, .int .i64 st] #[.slice none 0 0, .slice none 0 0, .int .i64 0] [] (.slice none 0 0) W) := Lib.hid ⟨HH3.out, HH6.out, World.ownsRow_nil _ _ _ _, HB.out⟩
    clear c30 c31 c32 hz6 HH3 HH6 HB HPL HNM HTB H3 H6
    go_loopg [9, 10, 11] n (fun g x9 x10 x11 wr => ∃ (i : Nat) (acc : Vs) (d : Bool) (v : Value), x9 = v ∧ x10 = .bool d ∧ x11 = .int .i64 i ∧ i ≤ n ∧ g = n - i ∧ acc.length ≤ i + d.toNat ∧ Hid (RSI w #[.slice A n c, .slice A2 n2 c2, .int .i64 st] #[.slice none 0 0, .slice none 0 0, .int .i64 0] acc v wr) ∧ Hid (acc ++ goL name t d (vs.drop i) = M))
    case atStart => exact ⟨0, [], false, _, rfl, rfl, rfl, Nat.zero_le _, rfl, by simp, HI0, HGO⟩
    case round =>
      clear HI0 HGO
      obtain ⟨i, acc, d, v, rfl, rfl, rfl, hi, rfl, hal, HI, HG⟩ := hrel
      have c30 := cell_blk HI.out.b3 0
      simp at c30
      have hz3 := fin_at HI.out.b3
      obtain ⟨A9, c9, rfl, _⟩ := row_form HI.out.row
      have hal1 : acc.length ≤ i + 1 := by cases d <;> simp at hal <;> omega
      by_cases hil : i < n
      · have hil2 : i < vs.length := by have := HL.out; omega
        obtain ⟨b, off, rfl, hb, hcs⟩ := HCE.out i hil2
        obtain ⟨a0, a1⟩ := hcs wr HI.out.bel
        have hbw : b < wr.heap.size := by have := HI.out.bel.size; omega
        have hd : vs.drop i = vs[i] :: vs.drop (i + 1) := List.drop_eq_getElem_cons hil2
        have hG := HG.out
        rw [hd] at hG
        have q1 := HGE.out vs[i].1
        have q2 := HEQ.out vs[i].1
        generalize vs[i] = x at *
        obtain ⟨x1, x2⟩ := x
        dsimp only at a0 a1 hcs q1 q2
        rw [go_cons] at hG
        obtain ⟨X1, hX1⟩ : ∃ X, nm x1 = X := ⟨_, rfl⟩
        obtain ⟨X2, hX2⟩ : ∃ X, nm x2 = X := ⟨_, rfl⟩
        have HX1 := Lib.hid hX1
        have HX2 := Lib.hid hX2
        rw [hX1] at a0 q1 q2
        rw [hX2] at a1
        simp only [hX1, hX2] at hcs
        clear hX1 hX2 hd HCE HGE HEQ HG HPLEN HF HL
        dsimp only at hG
        cases d with
        | true =>
          clear hal
          by_cases he : x1 = name
          · rw [decide_eq_true he] at q2 hG
            have HG2 : Hid (acc ++ goL name t true (vs.drop (i + 1)) = M) := Lib.hid (by rw [← hG]; simp)
            clear hG
            go_wp2_with fail
            go_roundg (n - (i + 1))
            case measure => omega
            case rel => exact ⟨i + 1, acc, true, _, rfl, rfl, rfl, by omega, rfl, by simp; omega, HI, HG2⟩
          · rw [decide_eq_false he] at q2 hG
            have HG2 : Hid (acc ++ [(x1, x2)] ++ goL name t true (vs.drop (i + 1)) = M) := Lib.hid (by rw [← hG]; simp)
            clear hG
            go_wp2_with (first | (at_builtin; refine RSI.app HI (by rfl) _ _ (by rfl) x1 x2 X1 X2 HX1 HX2 (by rfl) (by rfl) (by omega) acc.length rfl ?_; intro A5 c5 w5 h5 hs5; have HI5 := Lib.hid h5; have c35 := cell_blk h5.b3 0; simp at c35; have hz5 := fin_at h5.b3; obtain ⟨a05, a15⟩ := hcs w5 h5.bel; have hbw5 : b < w5.heap.size := (by omega); clear h5))
            go_roundg (n - (i + 1))
            case measure => omega
            case rel => exact ⟨i + 1, acc ++ [(x1, x2)], true, _, rfl, rfl, rfl, by omega, rfl, by simp; omega, HI5, HG2⟩
        | false =>
          simp at hal
          by_cases hl : x1 < name
          · have he : ¬ x1 = name := by rintro rfl; exact lt_irr _ hl
            rw [decide_eq_false he] at q2 hG
            rw [decide_eq_true hl] at q1 hG
            have HG2 : Hid (acc ++ [(x1, x2)] ++ goL name t false (vs.drop (i + 1)) = M) := Lib.hid (by rw [← hG]; simp)
            clear hG
            go_wp2_with (first | (at_builtin; refine RSI.app HI (by rfl) _ _ (by rfl) x1 x2 X1 X2 HX1 HX2 (by rfl) (by rfl) (by omega) acc.length rfl ?_; intro A5 c5 w5 h5 hs5; have HI5 := Lib.hid h5; have c35 := cell_blk h5.b3 0; simp at c35; have hz5 := fin_at h5.b3; obtain ⟨a05, a15⟩ := hcs w5 h5.bel; have hbw5 : b < w5.heap.size := (by omega); clear h5))
            go_roundg (n - (i + 1))
            case measure => omega
            case rel => exact ⟨i + 1, acc ++ [(x1, x2)], false, _, rfl, rfl, rfl, by omega, rfl, by simp; omega, HI5, HG2⟩
          · by_cases he : x1 = name
            · rw [decide_eq_true he] at q2 hG
              rw [decide_eq_false hl] at q1 hG
              have HG2 : Hid (acc ++ [(name, t)] ++ goL name t true (vs.drop (i + 1)) = M) := Lib.hid (by rw [← hG]; simp)
              clear hG
              go_wp2_with (first | (at_builtin; refine RSI.app HI (by rfl) _ _ (by rfl) name t N T HNE HTE (by rfl) (by rfl) (by omega) acc.length rfl ?_; intro A5 c5 w5 h5 hs5; have HI5 := Lib.hid h5; have c35 := cell_blk h5.b3 0; simp at c35; have hz5 := fin_at h5.b3; obtain ⟨a05, a15⟩ := hcs w5 h5.bel; have hbw5 : b < w5.heap.size := (by omega); clear h5))
              go_roundg (n - (i + 1))
              case measure => omega
              case rel => exact ⟨i + 1, acc ++ [(name, t)], true, _, rfl, rfl, rfl, by omega, rfl, by simp; omega, HI5, HG2⟩
            · rw [decide_eq_false he] at q2 hG
              rw [decide_eq_false hl] at q1 hG
              have HG2 : Hid (acc ++ [(name, t)] ++ [(x1, x2)] ++ goL name t true (vs.drop (i + 1)) = M) := Lib.hid (by rw [← hG]; simp)
              clear hG
              go_wp2_with (first | (at_builtin; refine RSI.app HI (by rfl) _ _ (by rfl) name t N T HNE HTE (by rfl) (by rfl) (by omega) acc.length rfl ?_; intro A5 c5 w5 h5 hs5; have HI5 := Lib.hid h5; have c35 := cell_blk h5.b3 0; simp at c35; have hz5 := fin_at h5.b3; obtain ⟨a05, a15⟩ := hcs w5 h5.bel; have hbw5 : b < w5.heap.size := (by omega); clear h5) | (at_builtin; refine RSI.app HI5 (by rfl) _ _ (by rfl) x1 x2 X1 X2 HX1 HX2 (by rfl) (by rfl) (by simp; omega) (acc.length + 1) (by simp) ?_; intro A6 c6 w6 h6 hs6; have HI6 := Lib.hid h6; have c36 := cell_blk h6.b3 0; simp at c36; have hz6 := fin_at h6.b3; obtain ⟨a06, a16⟩ := hcs w6 h6.bel; have hbw6 : b < w6.heap.size := (by omega); clear h6))
              go_roundg (n - (i + 1))
              case measure => omega
              case rel => exact ⟨i + 1, acc ++ [(name, t)] ++ [(x1, x2)], true, _, rfl, rfl, rfl, by omega, rfl, by simp; omega, HI6, HG2⟩
      · have hd : vs.drop i = [] := List.drop_of_length_le (by have := HL.out; omega)
        have hG := HG.out
        rw [hd] at hG
        clear hd HCE HGE HEQ HG HPLEN HL
        cases d with
        | true =>
          have hG2 : M = acc := by rw [← hG]; simp [goL]
          have HFN := Lib.hid hG2
          clear hG hG2
          have c31 := cell_blk HI.out.b3 1
          have c32 := cell_blk HI.out.b3 2
          have c60 := cell_blk HI.out.b6 0
          have c61 := cell_blk HI.out.b6 1
          have c62 := cell_blk HI.out.b6 2
          simp at c31 c32 c60 c61 c62
          have f30 := froz_blk HI.out.b3 0
          have f60 := froz_blk HI.out.b6 0
          have f61 := froz_blk HI.out.b6 1
          have f62 := froz_blk HI.out.b6 2
          have hz6 := fin_at HI.out.b6
          go_wp2_with fail
          have kf := HI.out.fresh
          obtain ⟨k1, k2, k3⟩ := HI.out.fin (.slice A9 acc.length c9) (.slice A9 acc.length c9) (.slice A2 n2 c2) (.int .i64 st)
          refine bodyPost_ret (results_cell2 rfl _ _ _ 36 _ (0, 0) _ rfl (set_blk (set_blk (set_blk k3 _) _) _) Try.underlying36 rfl (by kernel_rfl)) rfl ?_
          exact HF.out _ _ (HFN.out ▸ k1) kf k2
        | false =>
          have hG2 : M = acc ++ [(name, t)] := by rw [← hG]; rfl
          have HFN := Lib.hid hG2
          clear hG hG2
          simp at hal
          go_wp2_with (first | (at_builtin; refine RSI.app HI (by rfl) _ _ (by rfl) name t N T HNE HTE (by rfl) (by rfl) (by omega) acc.length rfl ?_; intro A5 c5 w5 h5 hs5; have HI5 := Lib.hid h5; have c30 := cell_blk h5.b3 0; have c31 := cell_blk h5.b3 1; have c32 := cell_blk h5.b3 2; have c60 := cell_blk h5.b6 0; have c61 := cell_blk h5.b6 1; have c62 := cell_blk h5.b6 2; simp at c30 c31 c32 c60 c61 c62; have f30 := froz_blk h5.b3 0; have f60 := froz_blk h5.b6 0; have f61 := froz_blk h5.b6 1; have f62 := froz_blk h5.b6 2; have hz3 := fin_at h5.b3; have hz6 := fin_at h5.b6; clear h5))
          have kf := HI5.out.fresh
          obtain ⟨k1, k2, k3⟩ := HI5.out.fin (.slice A5 (acc.length + 1) c5) (.slice A5 (acc.length + 1) c5) (.slice A2 n2 c2) (.int .i64 st)
          refine bodyPost_ret (results_cell2 rfl _ _ _ 36 _ (0, 0) _ rfl (set_blk (set_blk (set_blk k3 _) _) _) Try.underlying36 rfl (by kernel_rfl)) rfl ?_
          exact HF.out _ _ (HFN.out ▸ k1) kf k2
theorem rset_any (vs : Vs) (name t : Bs) (vv : Value) (A2 : Option Addr) (n2 c2 : Nat) (st : Int) (w : World) (h : VsIn w vv vs) (hs : Srt vs) (hl : vs.length ≤ 64) (hn : name.length ≤ 4611686018427387904) (ht : t.length ≤ 4611686018427387904) :
    Calls Try.prog 27 #[tblV vv (.slice A2 n2 c2) st, .string (nm name), .string (nm t)] w (RSetPost vv (.slice A2 n2 c2) st (setL vs name t) w) := by
  cases hm : setL vs name t with
  | error er =>
    rw [← hm]
    exact rset_no vs name t vv A2 n2 c2 st w h hs (by omega) hn ht er hm
  | ok vs' =>
    have e : vs' = putV vs name t := by
      unfold setL at hm
      split at hm
      · cases hm
      · split at hm
        · cases hm
        · cases hm; rfl
    rw [← hm]
    subst e
    exact rset_yes vs name t vv A2 n2 c2 st w h hs hl hn ht hm
end Go.Proofs.Ytdegkfnlafgheaa.Vr
