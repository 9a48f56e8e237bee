/- DERIVED. The walk over assignment. -/
import Derived.Test.YtgajbehlggikdaaSwGc
import Derived.Deep.AppendLies
import Derived.Deep.RegionHeld3
import Derived.Deep.RegionLaw
import Derived.Deep.LoopGhost
import Derived.Deep.Cut
import Derived.Deep.CutRange
namespace Go.Proofs.Ytgajbehlggikdaa.Sw
open Go.RowKit
open PathM WdM SyM
open Go.Proofs.Ytgajbehlggikdaa.Wd
set_option linter.unusedVariables false

theorem results_cell2 {P : Program} {fn : Func} {p u : Tmp} {ty : TypeId} (h : fn.results = #[.cell p ty, .tmp u]) (tmps : Array Value) (w : World) (g : Nat) (t : TypeId) (cs : Array Value) (fr : Nat × Nat) (d : TypeDesc)
    (hp : tmps.getD p undef = .pointer (some ⟨g, 0, none⟩)) (hg : w.heap[g]? = some (.cells cs t fr))
    (hu : P.underlying ty = some d) (hd : (match d with | .struct _ | .array _ _ => true | _ => false) = true) (hi : (P.info? ty).map (·.size) = some cs.size) :
    (results fn tmps).run P w = .ok (.tuple #[.agg cs, tmps.getD u undef]) w := by
  rw [results_cell_tmp h, hp]
  simp [asAddr, Result.andThen, run_loadVar_row w g t ty cs fr d hg hu hd hi]
theorem two_set {W : World} {b : Nat} {t : TypeId} {x0 x1 : Value} (h : W.heap[b]? = some (.cells #[x0, x1] t (0, 0))) (y0 y1 : Value) :
    ((W.setCell ⟨b, 0, none⟩ y0).setCell ⟨b, 1, none⟩ y1).heap[b]? = some (.cells #[y0, y1] t (0, 0)) :=
  set_blk (j := 1) (set_blk (j := 0) h y0) y1
theorem two_kept {S : Nat → Prop} (W : World) {b : Nat} (hb : S b) (y0 y1 : Value) : Kept S W ((W.setCell ⟨b, 0, none⟩ y0).setCell ⟨b, 1, none⟩ y1) :=
  (Kept.setCell ⟨b, 0, none⟩ y0 hb).trans (Kept.setCell ⟨b, 1, none⟩ y1 hb)
/-- What assignment tells. -/
def AsgPost (z : Nat) (m : Option AsT) (w : World) (e : Ending) (w' : World) : Prop :=
  Below w.heap.size w w' ∧ match m with
    | none => e = .returned (.tuple #[.agg #[.string ⟨#[]⟩, .slice none 0 0], .bool false])
    | some x => ∃ A n c, e = .returned (.tuple #[.agg #[.string (nm x.name), .slice A n c], .bool true]) ∧ PIn 17 w' (Nw z w') (.slice A n c) x.word
theorem as_kind {k : Int} {q : Bool} {t o : Bs} {wd rest : List PT} (h : ¬ (k = 1 ∧ q = false)) : assignL (.mk k q t o wd :: rest) = none := by unfold assignL; simp only; rw [if_neg h]
theorem as_no {t o : Bs} {wd rest : List PT} (h : Lib.indexByte t 61 < 0) : assignL (.mk 1 false t o wd :: rest) = none := by unfold assignL; simp only; rw [if_pos (by simp), if_pos h]
theorem as_bad {t o : Bs} {wd rest : List PT} (h : ¬ Lib.indexByte t 61 < 0) (h2 : isName (t.take (Lib.indexByte t 61).toNat) = false) : assignL (.mk 1 false t o wd :: rest) = none := by unfold assignL; simp only; rw [if_pos (by simp), if_neg h, if_neg (by rw [h2]; decide)]
theorem as_ok {t o : Bs} {wd rest : List PT} (h : ¬ Lib.indexByte t 61 < 0) (h2 : isName (t.take (Lib.indexByte t 61).toNat) = true) : assignL (.mk 1 false t o wd :: rest) = some ⟨t.take (Lib.indexByte t 61).toNat, (if t.drop ((Lib.indexByte t 61).toNat + 1) = [] then [] else [litP false (t.drop ((Lib.indexByte t 61).toNat + 1))]) ++ rest⟩ := by unfold assignL; simp only; rw [if_pos (by simp), if_neg h, if_pos h2]
/-- A slice of parts behind its first one. -/
theorem pin_rest {d : Nat} {w : World} {S : Nat → Prop} {v : Value} {p : PT} {rest : List PT} (h : PIn (d + 1) w S v (p :: rest)) : ∃ (b off c : Nat) (ps : List (PT × Value)), v = .slice (some ⟨b, off, none⟩) (rest.length + 1) c ∧ (rest.length + 1 ≤ 1954687338211 ∧ rest.length + 1 ≤ c) ∧ rest = ps.map Prod.fst ∧ S b ∧ b < w.heap.size ∧
    (∃ v5, w.cell? ⟨b, off, none⟩ = some (.int .i64 p.kind) ∧ w.cell? ⟨b, off + 1, none⟩ = some (.bool p.quoted) ∧ w.cell? ⟨b, off + 2, none⟩ = some (.string (nm p.text)) ∧ w.cell? ⟨b, off + 3, none⟩ = some (.string (nm p.op)) ∧ w.cell? ⟨b, off + 4, none⟩ = some v5) ∧
    (∀ j u, (ps.flatMap ptC)[j]? = some u → w.cell? ⟨b, off + 5 + j, none⟩ = some u) ∧ ∀ q ∈ ps, PIn d w S q.2 q.1.word := by
  obtain ⟨A, c, ps, hv, hl, hm, h⟩ := h
  obtain ⟨b, off, hA, hb, hc⟩ := h (by simp)
  cases ps with
  | nil => simp at hl
  | cons x ps =>
    rw [List.map_cons] at hl
    obtain ⟨e1, e2⟩ := List.cons.inj hl
    subst hA
    have h0 := hc 0 (by simp)
    have ex : (ptAt (x :: ps) 0) = x := rfl
    rw [ex, ← e1] at h0
    simp only [Nat.zero_mul, Nat.add_zero] at h0
    refine ⟨b, off, c, ps, by rw [hv]; rfl, by simpa using hm, e2, hb, World.block_lt_of_cell? _ _ h0.1, ⟨_, h0.1, h0.2.1, h0.2.2.1, h0.2.2.2.1, h0.2.2.2.2.1⟩, fun j u hu => ?_, fun q hq => ?_⟩
    · refine flat_cells ps (off + 5) (fun i hi j u hu => ?_) j u hu
      have h1 := hc (i + 1) (by simpa using hi)
      have e : ptAt (x :: ps) (i + 1) = ptAt ps i := by unfold ptAt; simp
      rw [e] at h1
      rw [show off + 5 + i * 5 + j = off + (i + 1) * 5 + j from by omega]
      obtain ⟨a0, a1, a2, a3, a4, _⟩ := h1
      have hj : j < 5 := by
        rcases Nat.lt_or_ge j 5 with h' | h'
        · exact h'
        · rw [List.getElem?_eq_none (by exact h')] at hu; cases hu
      rcases j with _ | _ | _ | _ | _ | j
      · cases hu; exact a0
      · cases hu; exact a1
      · cases hu; exact a2
      · cases hu; exact a3
      · cases hu; exact a4
      · omega
    · obtain ⟨i, hi, rfl⟩ := List.mem_iff_getElem.1 hq
      have h1 := hc (i + 1) (by simpa using hi)
      have e : ptAt (x :: ps) (i + 1) = ps[i] := by unfold ptAt; simp [hi]
      rw [e] at h1
      exact h1.2.2.2.2.2
theorem pt_one {d : Nat} {w : World} {S : Nat → Prop} {ps : List (PT × Value)} (h : ∀ q ∈ ps, PIn d w S q.2 q.1.word) : ∀ u ∈ ps.flatMap ptC, u.oneCell' = true := by
  intro u hu
  obtain ⟨q, hq, hu⟩ := List.mem_flatMap.1 hu
  obtain ⟨A, n, c, hf⟩ := PIn.form (h q hq)
  unfold ptC at hu
  rw [hf] at hu
  simp at hu
  rcases hu with rfl | rfl | rfl | rfl | rfl <;> rfl
set_option maxRecDepth 100000 in
set_option maxHeartbeats 3200000 in
theorem assign_any (z : Nat) (v : Value) (p : PT) (rest : List PT) (w : World) (hv : PIn 17 w (Nw z w) v (p :: rest)) (hz : z ≤ w.heap.size) (ht : p.text.length ≤ 8192) :
    Calls Try.prog 75 #[v] w (AsgPost z (assignL (p :: rest)) w) := by
  obtain ⟨b, off, c, ps, rfl, hlen, hrest, hSb, hbl, ⟨v5, c0, c1, c2, c3, c4⟩, hcells, hps⟩ := pin_rest hv
  obtain ⟨k, q, t, o, wd⟩ := p
  dsimp only [PT.kind, PT.quoted, PT.text, PT.op] at c0 c1 c2 c3 ht
  clear hv
  by_cases hk : k = 1 ∧ q = false
  · obtain ⟨rfl, rfl⟩ := hk
    have hcut := fun W => cut_any t W (by omega)
    have hnm := fun W => name_any (nm (t.take (Lib.indexByte t 61).toNat)) W (by rw [nm_size, List.length_take]; omega)
    rw [nm_data] at hnm
    by_cases hi : Lib.indexByte t 61 < 0
    · rw [as_no hi]
      rw [cutV_no hi] at hcut
      have HC := Lib.hid hcut
      clear hcut hnm hcells hps hrest hi ht
      generalize nm t = T at *
      go_enter Try.func75, Try.ntmps75
      go_wp2_with (go_at_call 84; refine (HC.out _).mono ?_; rintro e W ⟨rfl, n, rfl⟩)
      refine bodyPost_ret (results_cell2 rfl _ _ _ 56 _ (0, 0) _ rfl (two_set (show ((w.alloc (.cells #[.string ⟨#[]⟩, .slice none 0 0] 56)).drewN n).heap[w.heap.size]? = some _ from heap_alloc_new w _) _ _) Try.underlying56 rfl (by kernel_rfl)) rfl ?_
      exact ⟨(below_dn ((Below.refl _ _).alloc (Nat.le_refl _) _) n).trans ((two_kept (S := (· = w.heap.size)) _ rfl _ _).below (by simp) (fun k e => by omega)), rfl⟩
    · cases hin : isName (t.take (Lib.indexByte t 61).toNat) with
      | false =>
        rw [as_bad hi hin]
        rw [cutV_yes hi] at hcut
        rw [hin] at hnm
        have HC := Lib.hid hcut
        have HNM := Lib.hid hnm
        clear hcut hnm hcells hps hrest hi ht hin
        generalize nm (List.drop _ t) = T2 at *
        generalize nm (List.take _ t) = T1 at *
        generalize nm t = T at *
        go_enter Try.func75, Try.ntmps75
        go_wp2_with (first | (go_at_call 84; refine (HC.out _).mono ?_; rintro e W ⟨rfl, n, rfl⟩) | (go_at_call 41; refine (HNM.out _).mono ?_; rintro e W2 ⟨rfl, rfl⟩))
        refine bodyPost_ret (results_cell2 rfl _ _ _ 56 _ (0, 0) _ rfl (two_set (show ((w.alloc (.cells #[.string ⟨#[]⟩, .slice none 0 0] 56)).drewN n).heap[w.heap.size]? = some _ from heap_alloc_new w _) _ _) Try.underlying56 rfl (by kernel_rfl)) rfl ?_
        exact ⟨(below_dn ((Below.refl _ _).alloc (Nat.le_refl _) _) n).trans ((two_kept (S := (· = w.heap.size)) _ rfl _ _).below (by simp) (fun k e => by omega)), rfl⟩
      | true =>
        rw [as_ok hi hin]
        rw [cutV_yes hi] at hcut
        rw [hin] at hnm
        have HC := Lib.hid hcut
        have HNM := Lib.hid hnm
        have hvl : (t.drop ((Lib.indexByte t 61).toNat + 1)).length ≤ 8192 := by rw [List.length_drop]; omega
        clear hcut hnm hi hin
        subst hrest
        rw [List.length_map] at hlen ⊢
        generalize List.drop _ t = val at *
        generalize List.take _ t = nam at *
        obtain ⟨i0, hi, hz0, hz1, hz2⟩ := info_parts partInfo
        have HI := Lib.hid hi; have HZ0 := Lib.hid hz0; have HZ1 := Lib.hid hz1; have HZ2 := Lib.hid hz2; clear hi hz0 hz1 hz2
        have HONE := Lib.hid (pt_one hps)
        have HPS := Lib.hid hps
        have HFL := Lib.hid (ptC_len ps)
        have HBX : Hid (∀ n, ((w.alloc (.cells #[.string ⟨#[]⟩, .slice none 0 0] 56)).drewN n).heap[w.heap.size]? = some (.cells #[.string ⟨#[]⟩, .slice none 0 0] 56 (0, 0))) := Lib.hid (fun n => heap_alloc_new w _)
        have HB0 : Hid (∀ n, Below w.heap.size w ((w.alloc (.cells #[.string ⟨#[]⟩, .slice none 0 0] 56)).drewN n)) := Lib.hid (fun n => below_dn ((Below.refl _ _).alloc (Nat.le_refl _) _) n)
        have hadd : ∀ j, (⟨b, off + 5, none⟩ : Addr).add j = ⟨b, off + 5 + j, none⟩ := fun j => by unfold Addr.add; split <;> simp_all
        have HCE : Hid (∀ W, Below w.heap.size w W → ∀ j u, (ps.flatMap ptC)[j]? = some u → W.cell? ((⟨b, off + 5, none⟩ : Addr).add j) = some u) := Lib.hid (fun W hW j u hu => by rw [hadd]; exact (World.cell?_of_block (hW.block b hbl)).trans (hcells j u hu))
        have HEND : Hid (∀ (w1 : World) (v' : Value) (pre : List (PT × Value)) (ws : List PT), Below w.heap.size w w1 → w1.heap[w.heap.size]? = some (.cells #[.string ⟨#[]⟩, .slice none 0 0] 56 (0, 0)) → w1.ownsRow (w.heap.size + 1) 64 5 v' (pre ++ ps).length ((pre ++ ps).flatMap ptC) → (pre ++ ps).length ≤ 1954687338211 → (∀ q ∈ pre, q.2 = .slice none 0 0 ∧ q.1.word = []) → ws = (pre ++ ps).map Prod.fst → ∃ A m cc, v' = .slice A m cc ∧
            AsgPost z (some ⟨nam, ws⟩) w (.returned (.tuple #[.agg #[.string (nm nam), v'], .bool true])) ((w1.setCell ⟨w.heap.size, 0, none⟩ (.string (nm nam))).setCell ⟨w.heap.size, 1, none⟩ v')) := Lib.hid (fun w1 v' pre ws hb hx hown hlm hpre hws => by
          obtain ⟨A, cc, rfl⟩ := row_len hown
          have hk := two_kept (S := (· = w.heap.size)) w1 rfl (.string (nm nam)) (.slice A (pre ++ ps).length cc)
          have hb2 := hb.trans (hk.below (B := w.heap.size) (by have := hb.size; omega) (fun k e => by omega))
          have hown2 := row_kept hown hk (fun k e1 e2 => by have := (hown.lt k e1).1; omega)
          have hlt := hown2.lt
          refine ⟨A, _, cc, rfl, hb2, A, _, cc, rfl, ?_⟩
          rw [hws]
          refine pin_row (d := 16) hown2 hlm (fun k e => ⟨by have := (hlt k e).1; omega, (hlt k e).2⟩) (fun q hq => ?_)
          rcases List.mem_append.1 hq with h1 | h1
          · rw [(hpre q h1).1, (hpre q h1).2]; exact PIn.nil _ _ _ _ _
          · exact nw_kept (V := PIn 16) (pin_good 16) (Q := fun _ => False) (kept_told hb2) (fun k e => e.elim) (HPS.out q h1))
        clear hcells hps hadd ht
        have hlen0 : ps.length ≤ 1954687338211 := by omega
        by_cases hc1 : c = 1
        · have hps0 : ps = [] := List.length_eq_zero_iff.1 (by omega)
          subst hps0
          subst hc1
          rw [List.map_nil, List.append_nil]
          by_cases hv0 : val = []
          · rw [if_pos hv0]
            have e1 := emp_yes (b := nm val) (by rw [nm_data]; exact hv0)
            generalize nm val = T2 at *
            clear hv0 hvl
            generalize nm t = T at *
            go_enter Try.func75, Try.ntmps75
            go_wp2_with (first | (go_at_call 84; refine (HC.out _).mono ?_; rintro e W ⟨rfl, n, rfl⟩) | (go_at_call 41; refine (HNM.out _).mono ?_; rintro e W2 ⟨rfl, rfl⟩) | (at_builtin; refine wpList_append_own _ rfl _ _ 54 rfl (w.heap.size + 1) 64 i0 (.agg #[.int .i64 0, .bool false, .string ⟨#[]⟩, .string ⟨#[]⟩, .slice none 0 0]) 5 72 Try.underlying54 HI.out HZ0.out HZ1.out HZ2.out rfl (by decide) _ _ _ rfl (World.ownsRow_nil _ _ _ _) ⟨b, off, none⟩ 0 0 [] (by simp [Act.eval]) rfl (fun j u hu => by simp at hu) (by simp) (maxLen_ok (by omega)) (by omega) (by simp) ?_; intro v' w1 hown' hgrow hnil; obtain ⟨va, vc, rfl⟩ := row_len hown'; have hb1 := (HB0.out n).grown hgrow (by simp) (fun j e => by have := ((World.ownsRow_nil w (w.heap.size + 1) 64 5).lt j e).1; omega); have hx1 := (hgrow.block w.heap.size (by simp) (fun e => by have := ((World.ownsRow_nil w (w.heap.size + 1) 64 5).lt _ e.symm).1; omega)).trans (HBX.out n); have k0 := cell_blk hx1 0; have k1 := cell_blk hx1 1; have g0 := froz_blk hx1 0; have g1 := froz_blk hx1 1; simp at k0 k1; have hz1 := fin_at hx1; have HX1 := Lib.hid hx1; have HBB := Lib.hid hb1; have HOW := Lib.hid hown'; clear hx1 hb1 hown' hgrow hnil))
            obtain ⟨A2, m2, cc2, hform, hpost⟩ := HEND.out w1 _ [] [] HBB.out HX1.out (by simpa using HOW.out) (by simp) (fun q hq => by simp at hq) (by simp)
            refine bodyPost_ret (results_cell2 rfl _ _ _ 56 _ (0, 0) _ rfl (two_set HX1.out _ _) Try.underlying56 rfl (by kernel_rfl)) rfl ?_
            exact hpost
          · rw [if_neg hv0]
            obtain ⟨e1, e2⟩ := emp_no (b := nm val) (by rw [nm_data]; exact hv0)
            obtain ⟨T2, hT2⟩ : ∃ T2, nm val = T2 := ⟨_, rfl⟩
            have HT2 := Lib.hid hT2
            rw [hT2] at HC e1 e2
            have hcv : ptC (litP false val, .slice none 0 0) = [.int .i64 1, .bool false, .string T2, .string ⟨#[]⟩, .slice none 0 0] := by rw [← hT2]; rfl
            have HCV := Lib.hid hcv
            clear hcv
            clear hv0 hvl hT2
            generalize nm t = T at *
            go_enter Try.func75, Try.ntmps75
            go_wp2_with (first | (go_at_call 84; refine (HC.out _).mono ?_; rintro e W ⟨rfl, n, rfl⟩) | (go_at_call 41; refine (HNM.out _).mono ?_; rintro e W2 ⟨rfl, rfl⟩) | (at_builtin; refine wpList_append_own _ rfl _ _ 54 rfl (w.heap.size + 1) 64 i0 (.agg #[.int .i64 0, .bool false, .string ⟨#[]⟩, .string ⟨#[]⟩, .slice none 0 0]) 5 72 Try.underlying54 HI.out HZ0.out HZ1.out HZ2.out rfl (by decide) _ _ _ rfl (World.ownsRow_nil _ _ _ _) ⟨((w.alloc (.cells #[.string ⟨#[]⟩, .slice none 0 0] 56)).drewN n).heap.size, 0, none⟩ 1 1 [.int .i64 1, .bool false, .string T2, .string ⟨#[]⟩, .slice none 0 0] (by simp [Act.eval]) rfl (new_cells ((w.alloc (.cells #[.string ⟨#[]⟩, .slice none 0 0] 56)).drewN n) [.int .i64 1, .bool false, .string T2, .string ⟨#[]⟩, .slice none 0 0] 64) (by intro u hu; simp at hu; rcases hu with rfl | rfl | rfl | rfl | rfl <;> rfl) (maxLen_ok (by omega)) (by omega) (by simp) ?_; intro v1 w0 hown0 hgrow0 hnil0; obtain ⟨va0, vc0, rfl⟩ := row_len hown0; have HG0 := Lib.hid ((((HB0.out n).alloc (by simp) _).grown hgrow0 (by simp <;> omega) (fun j e => by cases e) : Below w.heap.size w w0)); have HX0 := Lib.hid ((hgrow0.block w.heap.size (by simp <;> omega) (fun e => by cases e)).trans ((Below.heap_alloc _ _ _ (by simp)).trans (HBX.out n))); have HOW0 := Lib.hid hown0; clear hown0 hgrow0 hnil0) | (at_builtin; refine wpList_append_own _ rfl _ _ 54 rfl (w.heap.size + 1) 64 i0 (.agg #[.int .i64 0, .bool false, .string ⟨#[]⟩, .string ⟨#[]⟩, .slice none 0 0]) 5 72 Try.underlying54 HI.out HZ0.out HZ1.out HZ2.out rfl (by decide) _ _ _ rfl HOW0.out ⟨b, off, none⟩ 0 0 [] (by simp [Act.eval]) rfl (fun j u hu => by simp at hu) (by simp) (maxLen_ok (by omega)) (by omega) (by have := HG0.out.size; have := fin_at HX0.out; omega) ?_; intro v' w1 hown' hgrow hnil; obtain ⟨va, vc, rfl⟩ := row_len hown'; have hb1 := (HG0.out).grown hgrow (by have := HG0.out.size; have := fin_at HX0.out; omega) (fun j e => by have := (HOW0.out.lt j e).1; omega); have hx1 := (hgrow.block w.heap.size (fin_at HX0.out) (fun e => by have := (HOW0.out.lt _ e.symm).1; omega)).trans (HX0.out); have k0 := cell_blk hx1 0; have k1 := cell_blk hx1 1; have g0 := froz_blk hx1 0; have g1 := froz_blk hx1 1; simp at k0 k1; have hz1 := fin_at hx1; have HX1 := Lib.hid hx1; have HBB := Lib.hid hb1; have HOW := Lib.hid hown'; clear hx1 hb1 hown' hgrow hnil))
            obtain ⟨A2, m2, cc2, hform, hpost⟩ := HEND.out w1 _ [(litP false val, .slice none 0 0)] [litP false val] HBB.out HX1.out (by simpa [HCV.out, Nat.add_comm] using HOW.out) (by simp <;> omega) (fun q hq => by rw [List.mem_singleton] at hq; subst hq; exact ⟨rfl, rfl⟩) (by simp)
            refine bodyPost_ret (results_cell2 rfl _ _ _ 56 _ (0, 0) _ rfl (two_set HX1.out _ _) Try.underlying56 rfl (by kernel_rfl)) rfl ?_
            exact hpost
        · by_cases hv0 : val = []
          · rw [if_pos hv0, List.nil_append]
            have e1 := emp_yes (b := nm val) (by rw [nm_data]; exact hv0)
            generalize nm val = T2 at *
            clear hv0 hvl
            generalize nm t = T at *
            go_enter Try.func75, Try.ntmps75
            go_wp2_with (first | (go_at_call 84; refine (HC.out _).mono ?_; rintro e W ⟨rfl, n, rfl⟩) | (go_at_call 41; refine (HNM.out _).mono ?_; rintro e W2 ⟨rfl, rfl⟩) | (at_builtin; refine wpList_append_own _ rfl _ _ 54 rfl (w.heap.size + 1) 64 i0 (.agg #[.int .i64 0, .bool false, .string ⟨#[]⟩, .string ⟨#[]⟩, .slice none 0 0]) 5 72 Try.underlying54 HI.out HZ0.out HZ1.out HZ2.out rfl (by decide) _ _ _ rfl (World.ownsRow_nil _ _ _ _) ⟨b, off + 5, none⟩ ps.length (c - 1) (ps.flatMap ptC) (by simp [Act.eval]) HFL.out (HCE.out _ (HB0.out n)) HONE.out (maxLen_ok (by omega)) (by omega) (by simp) ?_; intro v' w1 hown' hgrow hnil; obtain ⟨va, vc, rfl⟩ := row_len hown'; have hb1 := (HB0.out n).grown hgrow (by simp) (fun j e => by have := ((World.ownsRow_nil w (w.heap.size + 1) 64 5).lt j e).1; omega); have hx1 := (hgrow.block w.heap.size (by simp) (fun e => by have := ((World.ownsRow_nil w (w.heap.size + 1) 64 5).lt _ e.symm).1; omega)).trans (HBX.out n); have k0 := cell_blk hx1 0; have k1 := cell_blk hx1 1; have g0 := froz_blk hx1 0; have g1 := froz_blk hx1 1; simp at k0 k1; have hz1 := fin_at hx1; have HX1 := Lib.hid hx1; have HBB := Lib.hid hb1; have HOW := Lib.hid hown'; clear hx1 hb1 hown' hgrow hnil))
            obtain ⟨A2, m2, cc2, hform, hpost⟩ := HEND.out w1 _ [] (ps.map Prod.fst) HBB.out HX1.out (by simpa using HOW.out) (by simpa using hlen0) (fun q hq => by simp at hq) (by simp)
            refine bodyPost_ret (results_cell2 rfl _ _ _ 56 _ (0, 0) _ rfl (two_set HX1.out _ _) Try.underlying56 rfl (by kernel_rfl)) rfl ?_
            exact hpost
          · rw [if_neg hv0]
            obtain ⟨e1, e2⟩ := emp_no (b := nm val) (by rw [nm_data]; exact hv0)
            obtain ⟨T2, hT2⟩ : ∃ T2, nm val = T2 := ⟨_, rfl⟩
            have HT2 := Lib.hid hT2
            rw [hT2] at HC e1 e2
            have hcv : ptC (litP false val, .slice none 0 0) = [.int .i64 1, .bool false, .string T2, .string ⟨#[]⟩, .slice none 0 0] := by rw [← hT2]; rfl
            have HCV := Lib.hid hcv
            clear hcv
            clear hv0 hvl hT2
            generalize nm t = T at *
            go_enter Try.func75, Try.ntmps75
            go_wp2_with (first | (go_at_call 84; refine (HC.out _).mono ?_; rintro e W ⟨rfl, n, rfl⟩) | (go_at_call 41; refine (HNM.out _).mono ?_; rintro e W2 ⟨rfl, rfl⟩) | (at_builtin; refine wpList_append_own _ rfl _ _ 54 rfl (w.heap.size + 1) 64 i0 (.agg #[.int .i64 0, .bool false, .string ⟨#[]⟩, .string ⟨#[]⟩, .slice none 0 0]) 5 72 Try.underlying54 HI.out HZ0.out HZ1.out HZ2.out rfl (by decide) _ _ _ rfl (World.ownsRow_nil _ _ _ _) ⟨((w.alloc (.cells #[.string ⟨#[]⟩, .slice none 0 0] 56)).drewN n).heap.size, 0, none⟩ 1 1 [.int .i64 1, .bool false, .string T2, .string ⟨#[]⟩, .slice none 0 0] (by simp [Act.eval]) rfl (new_cells ((w.alloc (.cells #[.string ⟨#[]⟩, .slice none 0 0] 56)).drewN n) [.int .i64 1, .bool false, .string T2, .string ⟨#[]⟩, .slice none 0 0] 64) (by intro u hu; simp at hu; rcases hu with rfl | rfl | rfl | rfl | rfl <;> rfl) (maxLen_ok (by omega)) (by omega) (by simp) ?_; intro v1 w0 hown0 hgrow0 hnil0; obtain ⟨va0, vc0, rfl⟩ := row_len hown0; have HG0 := Lib.hid ((((HB0.out n).alloc (by simp) _).grown hgrow0 (by simp <;> omega) (fun j e => by cases e) : Below w.heap.size w w0)); have HX0 := Lib.hid ((hgrow0.block w.heap.size (by simp <;> omega) (fun e => by cases e)).trans ((Below.heap_alloc _ _ _ (by simp)).trans (HBX.out n))); have HOW0 := Lib.hid hown0; clear hown0 hgrow0 hnil0) | (at_builtin; refine wpList_append_own _ rfl _ _ 54 rfl (w.heap.size + 1) 64 i0 (.agg #[.int .i64 0, .bool false, .string ⟨#[]⟩, .string ⟨#[]⟩, .slice none 0 0]) 5 72 Try.underlying54 HI.out HZ0.out HZ1.out HZ2.out rfl (by decide) _ _ _ rfl HOW0.out ⟨b, off + 5, none⟩ ps.length (c - 1) (ps.flatMap ptC) (by simp [Act.eval]) HFL.out (HCE.out _ HG0.out) HONE.out (maxLen_ok (by omega)) (by omega) (by have := HG0.out.size; have := fin_at HX0.out; omega) ?_; intro v' w1 hown' hgrow hnil; obtain ⟨va, vc, rfl⟩ := row_len hown'; have hb1 := (HG0.out).grown hgrow (by have := HG0.out.size; have := fin_at HX0.out; omega) (fun j e => by have := (HOW0.out.lt j e).1; omega); have hx1 := (hgrow.block w.heap.size (fin_at HX0.out) (fun e => by have := (HOW0.out.lt _ e.symm).1; omega)).trans (HX0.out); have k0 := cell_blk hx1 0; have k1 := cell_blk hx1 1; have g0 := froz_blk hx1 0; have g1 := froz_blk hx1 1; simp at k0 k1; have hz1 := fin_at hx1; have HX1 := Lib.hid hx1; have HBB := Lib.hid hb1; have HOW := Lib.hid hown'; clear hx1 hb1 hown' hgrow hnil))
            obtain ⟨A2, m2, cc2, hform, hpost⟩ := HEND.out w1 (.slice va (1 + ps.length) vc) [(litP false val, .slice none 0 0)] (litP false val :: ps.map Prod.fst) HBB.out HX1.out (by simpa [HCV.out, Nat.add_comm] using HOW.out) (by simp <;> omega) (fun q hq => by rw [List.mem_singleton] at hq; subst hq; exact ⟨rfl, rfl⟩) (by simp)
            refine bodyPost_ret (results_cell2 rfl _ _ _ 56 _ (0, 0) _ rfl (two_set HX1.out _ _) Try.underlying56 rfl (by kernel_rfl)) rfl ?_
            exact hpost
  · rw [as_kind hk]
    by_cases hk1 : k = 1
    · have hq : q = true := by cases q with | true => rfl | false => exact absurd ⟨hk1, rfl⟩ hk
      subst hk1
      subst hq
      clear hcells hps hrest ht
      go_enter Try.func75, Try.ntmps75
      go_wp2_with fail
      refine bodyPost_ret (results_cell2 rfl _ _ _ 56 _ (0, 0) _ rfl (heap_alloc_new w _) Try.underlying56 rfl (by kernel_rfl)) rfl ?_
      exact ⟨(Below.refl _ _).alloc (Nat.le_refl _) _, rfl⟩
    · have hkb : (k == 1) = false := by rw [beq_eq_false_iff_ne]; exact hk1
      clear hcells hps hrest ht
      go_enter Try.func75, Try.ntmps75
      go_wp2_with fail
      refine bodyPost_ret (results_cell2 rfl _ _ _ 56 _ (0, 0) _ rfl (heap_alloc_new w _) Try.underlying56 rfl (by kernel_rfl)) rfl ?_
      exact ⟨(Below.refl _ _).alloc (Nat.le_refl _) _, rfl⟩

end Go.Proofs.Ytgajbehlggikdaa.Sw

/- DERIVED. The walks over listsTo, alone and loop; a command in a box. -/
namespace Go.Proofs.Ytgajbehlggikdaa.Sw
open Go.RowKit
open PathM WdM SyM
open Go.Proofs.Ytgajbehlggikdaa.Wd
set_option linter.unusedVariables false

theorem to_bad {lists : Bs → Rs (List LiT)} {what l : Bs} {a : Nat} {e : Int} (h : lists l = .bad a e) : listsTo lists what l = .bad a e := by unfold listsTo; rw [h]
theorem to_need {lists : Bs → Rs (List LiT)} {what l r : Bs} {x : List LiT} {a : Nat} {e : Int} (h : lists l = .ok x r) (h2 : needL what r = .bad a e) : listsTo lists what l = .bad a e := by unfold listsTo; rw [h]; simp only; rw [h2]
theorem to_ok {lists : Bs → Rs (List LiT)} {what l r r2 : Bs} {x : List LiT} (h : lists l = .ok x r) (h2 : needL what r = .ok () r2) : listsTo lists what l = .ok x r2 := by unfold listsTo; rw [h]; simp only; rw [h2]
set_option maxHeartbeats 1600000 in
theorem listsTo_any {lists : Bs → Rs (List LiT)} {d wi : Nat} (hL : LsOk lists d wi) (rb : Nat) (s : ByteArray) (l what : Bs) (w : World) (h : RdS w rb s l wi) (hs : s.size ≤ 8192) :
    Calls Try.prog 50 #[.pointer (some ⟨rb, 0, none⟩), .string (nm what)] w (Reads rb s wi (listsTo lists what l) (LsIn d) w) := by
  have hl := hL rb s l w h hs
  cases hm : lists l with
  | bad a er =>
    rw [to_bad hm]
    rw [hm] at hl
    have HLS := Lib.hid hl
    clear hl h hm
    generalize nm what = wb at *
    go_enter Try.func50, Try.ntmps50
    go_wp2_with (go_at_call 18; refine HLS.out.mono ?_; rintro e W ⟨hk, rfl⟩; simp only [sflt])
    exact ⟨rfl, hk, rfl⟩
  | ok x r =>
    rw [hm] at hl
    have hn := fun W (hW : RdS W rb s r wi) => need_any rb s r wi what W hW hs
    have HLS := Lib.hid hl
    cases hn2 : needL what r with
    | bad a er =>
      rw [to_need hm hn2]
      rw [hn2] at hn
      have HN := Lib.hid hn
      clear hl h hm hn hn2
      generalize nm what = wb at *
      go_enter Try.func50, Try.ntmps50
      go_wp2_with (first | (go_at_call 18; refine HLS.out.mono ?_; rintro e W ⟨hk, v, rfl, hr, hv⟩) | (go_at_call 61; refine (HN.out _ hr).mono ?_; rintro e W2 ⟨hk2, rfl⟩; simp only [sflt]))
      exact ⟨rfl, hk.trans hk2, rfl⟩
    | ok u r2 =>
      rw [to_ok hm hn2]
      rw [hn2] at hn
      have HN := Lib.hid hn
      have hz := h.lt
      clear hl h hm hn hn2
      generalize nm what = wb at *
      go_enter Try.func50, Try.ntmps50
      go_wp2_with (first | (go_at_call 18; refine HLS.out.mono ?_; rintro e W ⟨hk, v, rfl, hr, hv⟩) | (go_at_call 61; refine (HN.out _ hr).mono ?_; rintro e W2 ⟨hk2, u2, rfl, hr2, rfl⟩))
      go_ret
      exact ⟨hk.trans hk2, _, rfl, hr2, nw_kept (LsIn.good d) hk2 (fun k e => .inl (by omega)) hv⟩

/-- A command in a box: its nine cells. -/
def BoxC (b : Nat) (vs : List Value) (W : World) : Prop := W.heap[b]? = some (.cells vs.toArray 42 (0, 0))
theorem BoxC.kept {S : Nat → Prop} {b : Nat} {vs : List Value} {W W' : World} (h : BoxC b vs W) (hk : Kept S W W') (hs : ¬ S b) : BoxC b vs W' := hk.at h hs
theorem BoxC.set {b : Nat} {vs : List Value} {W : World} (h : BoxC b vs W) (j : Nat) (u : Value) : BoxC b (vs.set j u) (W.setCell ⟨b, j, none⟩ u) := by
  unfold BoxC
  have := set_blk (j := j) h u
  simpa using this
theorem BoxC.lt {b : Nat} {vs : List Value} {W : World} (h : BoxC b vs W) : b < W.heap.size := fin_at h
def cmd0 (k : Value) (nm_ : Value) : List Value := [k, nm_, .slice none 0 0, .slice none 0 0, .slice none 0 0, .slice none 0 0, .slice none 0 0, .slice none 0 0, .slice none 0 0]
/-- All nine cells of a box. -/
theorem BoxC.nine {b : Nat} {x0 x1 x2 x3 x4 x5 x6 x7 x8 : Value} {W : World} (h : BoxC b [x0, x1, x2, x3, x4, x5, x6, x7, x8] W) :
    (W.cell? ⟨b, 0, none⟩ = some x0 ∧ W.cell? ⟨b, 1, none⟩ = some x1 ∧ W.cell? ⟨b, 2, none⟩ = some x2 ∧ W.cell? ⟨b, 3, none⟩ = some x3 ∧ W.cell? ⟨b, 4, none⟩ = some x4 ∧ W.cell? ⟨b, 5, none⟩ = some x5 ∧ W.cell? ⟨b, 6, none⟩ = some x6 ∧ W.cell? ⟨b, 7, none⟩ = some x7 ∧ W.cell? ⟨b, 8, none⟩ = some x8) ∧ ∀ j, W.frozen? ⟨b, j, none⟩ = false :=
  ⟨⟨cell_blk h 0, cell_blk h 1, cell_blk h 2, cell_blk h 3, cell_blk h 4, cell_blk h 5, cell_blk h 6, cell_blk h 7, cell_blk h 8⟩, fun j => froz_blk h j⟩
theorem nine_set {W : World} {b : Nat} {x0 x1 x2 x3 x4 x5 x6 x7 x8 : Value} (h : BoxC b [x0, x1, x2, x3, x4, x5, x6, x7, x8] W) (y0 y1 y2 y3 y4 y5 y6 y7 y8 : Value) :
    (((((((((W.setCell ⟨b, 0, none⟩ y0).setCell ⟨b, 1, none⟩ y1).setCell ⟨b, 2, none⟩ y2).setCell ⟨b, 3, none⟩ y3).setCell ⟨b, 4, none⟩ y4).setCell ⟨b, 5, none⟩ y5).setCell ⟨b, 6, none⟩ y6).setCell ⟨b, 7, none⟩ y7).setCell ⟨b, 8, none⟩ y8).heap[b]? = some (.cells #[y0, y1, y2, y3, y4, y5, y6, y7, y8] 42 (0, 0)) := by
  have h0 : BoxC b [y0, x1, x2, x3, x4, x5, x6, x7, x8] _ := h.set 0 y0
  have h1 : BoxC b [y0, y1, x2, x3, x4, x5, x6, x7, x8] _ := h0.set 1 y1
  have h2 : BoxC b [y0, y1, y2, x3, x4, x5, x6, x7, x8] _ := h1.set 2 y2
  have h3 : BoxC b [y0, y1, y2, y3, x4, x5, x6, x7, x8] _ := h2.set 3 y3
  have h4 : BoxC b [y0, y1, y2, y3, y4, x5, x6, x7, x8] _ := h3.set 4 y4
  have h5 : BoxC b [y0, y1, y2, y3, y4, y5, x6, x7, x8] _ := h4.set 5 y5
  have h6 : BoxC b [y0, y1, y2, y3, y4, y5, y6, x7, x8] _ := h5.set 6 y6
  have h7 : BoxC b [y0, y1, y2, y3, y4, y5, y6, y7, x8] _ := h6.set 7 y7
  exact h7.set 8 y8
theorem nine_kept {S : Nat → Prop} (W : World) {b : Nat} (hb : S b) (y0 y1 y2 y3 y4 y5 y6 y7 y8 : Value) :
    Kept S W (((((((((W.setCell ⟨b, 0, none⟩ y0).setCell ⟨b, 1, none⟩ y1).setCell ⟨b, 2, none⟩ y2).setCell ⟨b, 3, none⟩ y3).setCell ⟨b, 4, none⟩ y4).setCell ⟨b, 5, none⟩ y5).setCell ⟨b, 6, none⟩ y6).setCell ⟨b, 7, none⟩ y7).setCell ⟨b, 8, none⟩ y8) :=
  ((((((((Kept.setCell _ y0 hb).trans (Kept.setCell _ y1 hb)).trans (Kept.setCell _ y2 hb)).trans (Kept.setCell _ y3 hb)).trans (Kept.setCell _ y4 hb)).trans (Kept.setCell _ y5 hb)).trans (Kept.setCell _ y6 hb)).trans (Kept.setCell _ y7 hb)).trans (Kept.setCell _ y8 hb)

/-- A slice of one. -/
theorem sl_one {α : Type} {size : Nat} {R : Rep α} {w : World} {S : Nat → Prop} {b c : Nat} {t : TypeId} {vs : List Value} {x : α} (h : w.heap[b]? = some (.cells vs.toArray t (0, 0))) (hb : S b) (hl : vs.length = size) (hx : R w S vs x) : Sl size R w S (.slice (some ⟨b, 0, none⟩) 1 c) [x] := by
  refine ⟨_, c, rfl, by simp, fun _ => ⟨b, 0, rfl, hb, fin_at h, fun i y hy => ?_⟩⟩
  have hi : i = 0 := by
    rcases i with _ | i
    · rfl
    · simp at hy
  subst hi
  simp at hy
  subst hy
  refine ⟨vs, hl, fun j u hu => ?_, hx⟩
  rw [Nat.zero_add, Nat.zero_mul, Nat.zero_add, cell_blk h]
  simpa using hu
/-- A command being read: the result's box, its own box, the reader. -/
structure CSt (rb : Nat) (s : ByteArray) (wi : Nat) (w : World) (l : Bs) (vals : List Value) (W : World) : Prop where
  res : BoxC w.heap.size (cmd0 (.int .i64 0) (.string ⟨#[]⟩)) W
  box : BoxC (w.heap.size + 1) vals W
  rd : RdS W rb s l wi
  kept : Kept (· = rb) w W
  lt : rb < w.heap.size
theorem CSt.size {rb : Nat} {s : ByteArray} {wi : Nat} {w : World} {l : Bs} {vals : List Value} {W : World} (h : CSt rb s wi w l vals W) : w.heap.size + 2 ≤ W.heap.size := by
  have := h.box.lt
  omega
theorem CSt.step {rb : Nat} {s : ByteArray} {wi wj : Nat} {w : World} {l r : Bs} {vals : List Value} {W W' : World} (h : CSt rb s wi w l vals W) (hk : Kept (· = rb) W W') (hr : RdS W' rb s r wj) : CSt rb s wj w r vals W' :=
  ⟨h.res.kept hk (by have := h.lt; omega), h.box.kept hk (by have := h.lt; omega), hr, h.kept.trans hk, h.lt⟩
theorem CSt.set {rb : Nat} {s : ByteArray} {wi : Nat} {w : World} {l : Bs} {vals : List Value} {W : World} (h : CSt rb s wi w l vals W) (j : Nat) (u : Value) : CSt rb s wi w l (vals.set j u) (W.setCell ⟨w.heap.size + 1, j, none⟩ u) := by
  have hk := Kept.setCell (S := (· = w.heap.size + 1)) (w := W) ⟨w.heap.size + 1, j, none⟩ u rfl
  exact ⟨h.res.kept hk (by omega), h.box.set j u, h.rd.kept hk (by have := h.lt; omega), h.kept.then hk (fun k h1 h2 => by omega), h.lt⟩
theorem CSt.setK {rb : Nat} {s : ByteArray} {wi : Nat} {w : World} {l : Bs} {vals : List Value} {W : World} (h : CSt rb s wi w l vals W) (j : Nat) (u : Value) {α : Type} {V : World → (Nat → Prop) → Value → α → Prop} (hV : GoodV V) {v : Value} {x : α} (hv : V W (Nw (w.heap.size + 2) W) v x) :
    V (W.setCell ⟨w.heap.size + 1, j, none⟩ u) (Nw (w.heap.size + 2) (W.setCell ⟨w.heap.size + 1, j, none⟩ u)) v x :=
  nw_kept hV (Kept.setCell (S := (· = w.heap.size + 1)) (w := W) ⟨w.heap.size + 1, j, none⟩ u rfl) (fun k e => .inl (by omega)) hv
theorem CSt.stepK {rb : Nat} {s : ByteArray} {wi : Nat} {w : World} {l : Bs} {vals : List Value} {W W' : World} (h : CSt rb s wi w l vals W) (hk : Kept (· = rb) W W') {α : Type} {V : World → (Nat → Prop) → Value → α → Prop} (hV : GoodV V) {v : Value} {x : α} (hv : V W (Nw (w.heap.size + 2) W) v x) :
    V W' (Nw (w.heap.size + 2) W') v x := nw_kept hV hk (fun k e => .inl (by have := h.lt; omega)) hv
theorem CSt.start {rb : Nat} {s : ByteArray} {wi : Nat} {w : World} {l : Bs} (h : RdS w rb s l wi) (k n : Value) :
    CSt rb s wi w l (cmd0 k n) ((w.alloc (.cells (cmd0 (.int .i64 0) (.string ⟨#[]⟩)).toArray 42)).alloc (.cells (cmd0 k n).toArray 42)) := by
  have hb : Below w.heap.size w ((w.alloc (.cells (cmd0 (.int .i64 0) (.string ⟨#[]⟩)).toArray 42)).alloc (.cells (cmd0 k n).toArray 42)) := ((Below.refl _ _).alloc (Nat.le_refl _) _).alloc (by simp) _
  refine ⟨(Below.heap_alloc _ _ _ (by simp)).trans (heap_alloc_new w _), heap_alloc2_new w _ _, h.told hb, kept_told hb, h.lt⟩
/-- A command read, handed back. -/
theorem CSt.done {rb : Nat} {s : ByteArray} {wi : Nat} {w : World} {r : Bs} {y0 y1 y2 y3 y4 y5 y6 y7 y8 : Value} {W : World} {L : RepV (List LiT)} {c : CmdT} (h : CSt rb s wi w r [y0, y1, y2, y3, y4, y5, y6, y7, y8] W) (hL : GoodV L) (hc : RCmd L W (Nw (w.heap.size + 2) W) [y0, y1, y2, y3, y4, y5, y6, y7, y8] c) :
    Reads rb s wi (.ok c r) (VAgg (RCmd L)) w (.returned (.agg #[y0, y1, y2, y3, y4, y5, y6, y7, y8])) (((((((((W.setCell ⟨w.heap.size, 0, none⟩ y0).setCell ⟨w.heap.size, 1, none⟩ y1).setCell ⟨w.heap.size, 2, none⟩ y2).setCell ⟨w.heap.size, 3, none⟩ y3).setCell ⟨w.heap.size, 4, none⟩ y4).setCell ⟨w.heap.size, 5, none⟩ y5).setCell ⟨w.heap.size, 6, none⟩ y6).setCell ⟨w.heap.size, 7, none⟩ y7).setCell ⟨w.heap.size, 8, none⟩ y8) := by
  have hk := nine_kept (S := (· = w.heap.size)) W rfl y0 y1 y2 y3 y4 y5 y6 y7 y8
  refine ⟨h.kept.then hk (fun k h1 h2 => by omega), _, rfl, h.rd.kept hk (by have := h.lt; omega), [y0, y1, y2, y3, y4, y5, y6, y7, y8], rfl, ?_⟩
  refine RCmd.good hL _ _ _ _ _ _ (fun k h1 h2 => ⟨⟨by have := h2.1; omega, Nat.lt_of_lt_of_le h2.2 hk.size⟩, hk.block k h1 (fun e => by have := h2.1; omega)⟩) hc
theorem loop_bad1 {lists : Bs → Rs (List LiT)} {k : Int} {l : Bs} {a : Nat} {e : Int} (h : listsTo lists doK l = .bad a e) : loopL lists k l = .bad a e := by unfold loopL; rw [h]
theorem loop_bad2 {lists : Bs → Rs (List LiT)} {k : Int} {l r : Bs} {c : List LiT} {a : Nat} {e : Int} (h : listsTo lists doK l = .ok c r) (h2 : listsTo lists doneK r = .bad a e) : loopL lists k l = .bad a e := by unfold loopL; rw [h]; simp only; rw [h2]
theorem loop_ok {lists : Bs → Rs (List LiT)} {k : Int} {l r r2 : Bs} {c b : List LiT} (h : listsTo lists doK l = .ok c r) (h2 : listsTo lists doneK r = .ok b r2) : loopL lists k l = .ok (.mk k [] [] [] c b [] [] []) r2 := by unfold loopL; rw [h]; simp only; rw [h2]
set_option maxRecDepth 100000 in
set_option maxHeartbeats 3200000 in
theorem loop_any {lists : Bs → Rs (List LiT)} {d wi : Nat} (hL : LsOk lists d wi) (k : Int) (rb : Nat) (s : ByteArray) (l : Bs) (w : World) (h : RdS w rb s l wi) (hs : s.size ≤ 8192) :
    Calls Try.prog 52 #[.pointer (some ⟨rb, 0, none⟩), .int .i64 k] w (Reads rb s wi (loopL lists k l) (VAgg (RCmd (LsIn d))) w) := by
  have HT := Lib.hid (fun W (hW : RdS W rb s l wi) => listsTo_any hL rb s l doK W hW hs)
  have HST := Lib.hid (CSt.start h (.int .i64 k) (.string ⟨#[]⟩))
  cases hm : listsTo lists doK l with
  | bad a er =>
    rw [loop_bad1 hm]
    rw [hm] at HT
    clear h hm hL
    go_enter Try.func52, Try.ntmps52
    go_wp2_with fail
    refine calls_gen _ HST.out ?_
    intro W hS
    refine (HT.out W hS.rd).mono ?_
    rintro e W1 ⟨hk, rfl⟩
    simp only [sflt]
    go_wp2_with fail
    exact ⟨rfl, hS.kept.trans hk, rfl⟩
  | ok c r =>
    rw [hm] at HT
    have HT2 := Lib.hid (fun W (hW : RdS W rb s r wi) => listsTo_any hL rb s r doneK W hW hs)
    cases hm2 : listsTo lists doneK r with
    | bad a er =>
      rw [loop_bad2 hm hm2]
      rw [hm2] at HT2
      clear h hm hm2 hL
      go_enter Try.func52, Try.ntmps52
      go_wp2_with fail
      refine calls_gen _ HST.out ?_
      intro W hS
      refine (HT.out W hS.rd).mono ?_
      rintro e W1 ⟨hk, v, rfl, hr, hv⟩
      obtain ⟨A1, n1, c1, rfl⟩ := LsIn.form hv
      have HS := Lib.hid (hS.step hk hr)
      obtain ⟨⟨b0, b1, b2, b3, b4, b5, b6, b7, b8⟩, bf⟩ := BoxC.nine HS.out.box
      have f4 := bf 4
      clear hS hk hr hv b0 b1 b2 b3 b5 b6 b7 b8 bf
      go_wp2_with fail
      refine (HT2.out _ (HS.out.set 4 _).rd).mono ?_
      rintro e W2 ⟨hk, rfl⟩
      simp only [sflt]
      go_wp2_with fail
      exact ⟨rfl, (HS.out.set 4 _).kept.trans hk, rfl⟩
    | ok b r2 =>
      rw [loop_ok hm hm2]
      rw [hm2] at HT2
      clear h hm hm2 hL
      go_enter Try.func52, Try.ntmps52
      go_wp2_with fail
      refine calls_gen _ HST.out ?_
      intro W hS
      refine (HT.out W hS.rd).mono ?_
      rintro e W1 ⟨hk, v, rfl, hr, hv⟩
      obtain ⟨A1, n1, c1, rfl⟩ := LsIn.form hv
      have HS := Lib.hid (hS.step hk hr)
      have HV := Lib.hid (nw_le (LsIn.good d) hS.size hv)
      obtain ⟨⟨b0, b1, b2, b3, b4, b5, b6, b7, b8⟩, bf⟩ := BoxC.nine HS.out.box
      have f4 := bf 4
      clear hS hk hr hv b0 b1 b2 b3 b5 b6 b7 b8 bf
      go_wp2_with fail
      refine calls_gen (fun W => CSt rb s wi w r [.int .i64 k, .string ⟨#[]⟩, .slice none 0 0, .slice none 0 0, .slice A1 n1 c1, .slice none 0 0, .slice none 0 0, .slice none 0 0, .slice none 0 0] W ∧ LsIn d W (Nw (w.heap.size + 2) W) (.slice A1 n1 c1) c) ⟨HS.out.set 4 _, HS.out.setK 4 _ (LsIn.good d) HV.out⟩ ?_
      rintro W2 ⟨hS, hv⟩
      refine (HT2.out W2 hS.rd).mono ?_
      rintro e W3 ⟨hk, v2, rfl, hr, hv2⟩
      obtain ⟨A2, n2, c2, rfl⟩ := LsIn.form hv2
      have HS3 := Lib.hid (hS.step hk hr)
      have HV1 := Lib.hid (hS.stepK hk (LsIn.good d) hv)
      have HV2 := Lib.hid (nw_le (LsIn.good d) hS.size hv2)
      have HS4 := Lib.hid (HS3.out.set 5 (.slice A2 n2 c2))
      have hres := HS4.out.res
      obtain ⟨⟨d0, d1, d2, d3, d4, d5, d6, d7, d8⟩, df⟩ := BoxC.nine HS3.out.box
      have f5 := df 5
      obtain ⟨⟨e0, e1, e2, e3, e4, e5, e6, e7, e8⟩, ef⟩ := BoxC.nine HS4.out.box
      obtain ⟨⟨g0, g1, g2, g3, g4, g5, g6, g7, g8⟩, gf⟩ := BoxC.nine hres
      clear hS hk hr hv hv2 HS HV b4 f4
      go_wp2_with fail
      refine bodyPost_ret (results_cell_row rfl _ _ _ 42 _ (0, 0) _ rfl (nine_set hres _ _ _ _ _ _ _ _ _) Try.underlying42 rfl (by kernel_rfl)) rfl ?_
      exact HS4.out.done (LsIn.good d) ⟨_, _, _, _, _, _, _, rfl, Sl.nil _ _ _ _ _ _, Sl.nil _ _ _ _ _ _, HS3.out.setK 5 _ (LsIn.good d) HV1.out, HS3.out.setK 5 _ (LsIn.good d) HV2.out, LsIn.nil _ _ _ _ _, Sl.nil _ _ _ _ _ _, Sl.nil _ _ _ _ _ _, fun _ => rfl⟩

end Go.Proofs.Ytgajbehlggikdaa.Sw

/- DERIVED. The walk over pipe. -/
namespace Go.Proofs.Ytgajbehlggikdaa.Sw
open Go.RowKit
open PathM WdM SyM
open Go.Proofs.Ytgajbehlggikdaa.Wd
set_option linter.unusedVariables false

/-- Commands are read, as the model says. -/
def CdOk (cmd : Bs → Rs CmdT) (d wi : Nat) : Prop := ∀ (rb : Nat) (s : ByteArray) (l : Bs) (w : World), RdS w rb s l wi → s.size ≤ 8192 →
  Calls Try.prog 35 #[.pointer (some ⟨rb, 0, none⟩)] w (Reads rb s wi (cmd l) (VAgg (RCmd (LsIn d))) w)
theorem cmd_open {d : Nat} {w : World} {S : Nat → Prop} {v : Value} {c : CmdT} (h : VAgg (RCmd (LsIn d)) w S v c) : ∃ (k : Int) (n : ByteArray) (A1 A2 A3 A4 A5 A6 A7 : Option Addr) (n1 n2 n3 n4 n5 n6 n7 c1 c2 c3 c4 c5 c6 c7 : Nat),
    v = .agg #[.int .i64 k, .string n, .slice A1 n1 c1, .slice A2 n2 c2, .slice A3 n3 c3, .slice A4 n4 c4, .slice A5 n5 c5, .slice A6 n6 c6, .slice A7 n7 c7] ∧
      RCmd (LsIn d) w S [.int .i64 k, .string n, .slice A1 n1 c1, .slice A2 n2 c2, .slice A3 n3 c3, .slice A4 n4 c4, .slice A5 n5 c5, .slice A6 n6 c6, .slice A7 n7 c7] c := by
  obtain ⟨vs, rfl, h⟩ := h
  obtain ⟨k, n, xs, ws, cc, b, o, cs, rs⟩ := c
  obtain ⟨av, wv, cv, bv, ov, sv, rv, rfl, h1, h2, h3, h4, h5, h6, h7, h8⟩ := h
  obtain ⟨A1, n1, c1, rfl⟩ := h1.form
  obtain ⟨A2, n2, c2, rfl⟩ := h2.form
  obtain ⟨A3, n3, c3, rfl⟩ := LsIn.form h3
  obtain ⟨A4, n4, c4, rfl⟩ := LsIn.form h4
  obtain ⟨A5, n5, c5, rfl⟩ := LsIn.form h5
  obtain ⟨A6, n6, c6, rfl⟩ := h6.form
  obtain ⟨A7, n7, c7, rfl⟩ := h7.form
  exact ⟨k, nm n, A1, A2, A3, A4, A5, A6, A7, n1, n2, n3, n4, n5, n6, n7, c1, c2, c3, c4, c5, c6, c7, rfl, _, _, _, _, _, _, _, rfl, h1, h2, h3, h4, h5, h6, h7, h8⟩
theorem nine_one (k : Int) (n : ByteArray) (A1 A2 A3 A4 A5 A6 A7 : Option Addr) (n1 n2 n3 n4 n5 n6 n7 c1 c2 c3 c4 c5 c6 c7 : Nat) : ∀ u ∈ [Value.int .i64 k, .string n, .slice A1 n1 c1, .slice A2 n2 c2, .slice A3 n3 c3, .slice A4 n4 c4, .slice A5 n5 c5, .slice A6 n6 c6, .slice A7 n7 c7], u.oneCell' = true := by
  intro u hu
  simp only [List.mem_cons, List.not_mem_nil, or_false] at hu
  rcases hu with rfl | rfl | rfl | rfl | rfl | rfl | rfl | rfl | rfl <;> rfl
theorem cmdInfo : (Try.prog.info? 42).map (fun i => (i.zero, i.size, i.bytes)) = some (some (.agg #[.int .i64 0, .string ⟨#[]⟩, .slice none 0 0, .slice none 0 0, .slice none 0 0, .slice none 0 0, .slice none 0 0, .slice none 0 0, .slice none 0 0]), 9, 192) := by kernel_rfl
theorem cells_drew {W : World} {cs : List Value} {t : TypeId} : ∀ (j : Nat) (u : Value), cs[j]? = some u → ((W.alloc (.cells cs.toArray t))).cell? ((⟨W.heap.size, 0, none⟩ : Addr).add j) = some u := cellsL W cs t
/-- A pipe being read. -/
structure PSt (rb : Nat) (s : ByteArray) (wi d : Nat) (w : World) (pb : Nat) (l : Bs) (neg : Bool) (cv : Value) (acc : List CmdT) (W : World) : Prop where
  res : W.heap[w.heap.size]? = some (.cells #[.bool false, .slice none 0 0] 36 (0, 0))
  box : W.heap[pb]? = some (.cells #[.bool neg, cv] 36 (0, 0))
  row : Row 9 (RCmd (LsIn d)) 42 (pb + 1) (fun _ => False) W cv acc
  rd : RdS W rb s l wi
  kept : Kept (· = rb) w W
  lt : rb < w.heap.size
  pb : w.heap.size < pb
theorem PSt.step {rb : Nat} {s : ByteArray} {wi d : Nat} {w : World} {pb : Nat} {l r : Bs} {neg : Bool} {cv : Value} {acc : List CmdT} {W W' : World} (h : PSt rb s wi d w pb l neg cv acc W) (hk : Kept (· = rb) W W') (hr : RdS W' rb s r wi) : PSt rb s wi d w pb r neg cv acc W' := by
  have h1 := h.lt
  have h2 := h.pb
  exact ⟨hk.at h.res (by omega), hk.at h.box (by omega), h.row.below (RCmd.good (LsIn.good d)) hk (fun k e => by omega), hr, h.kept.trans hk, h1, h2⟩
theorem PSt.drew {rb : Nat} {s : ByteArray} {wi d : Nat} {w : World} {pb : Nat} {l : Bs} {neg : Bool} {cv : Value} {acc : List CmdT} {W : World} (h : PSt rb s wi d w pb l neg cv acc W) : PSt rb s wi d w pb l neg cv acc W.drew := h.step (Kept.drewN 1) (h.rd.drewN 1)
/-- .. behind one command more. -/
theorem PSt.app {rb : Nat} {s : ByteArray} {wi d : Nat} {w : World} {pb : Nat} {l r : Bs} {neg : Bool} {cv : Value} {acc : List CmdT} {W w2 w3 : World} {vss : List (List Value)} {S : Nat → Prop} {o : Obj} {vs : List Value} {c : CmdT} {g cap n : Nat} (h : PSt rb s wi d w pb l neg cv acc W)
    (hR : Rw 9 (RCmd (LsIn d)) 42 (pb + 1) (fun _ => False) W cv acc vss S) (hn : acc.length = n) (hk : Kept (· = rb) W w2) (hr : RdS w2 rb s r wi) (hc : RCmd (LsIn d) w2 (Nw W.heap.size w2) vs c) (hvs : vs.length = 9)
    (hg : (w2.alloc o).grownBy w3 cv.ownBlock) (h3 : w3.ownsRow (pb + 1) 42 9 (.slice (some ⟨g, 0, none⟩) (n + 1) cap) (n + 1) (vss.flatten ++ vs)) (hat : cv.ownBlock = some g ∨ g = w2.heap.size + 1) :
    PSt rb s wi d w pb r neg (.slice (some ⟨g, 0, none⟩) (n + 1) cap) (acc ++ [c]) (w3.setCell ⟨pb, 1, none⟩ (.slice (some ⟨g, 0, none⟩) (n + 1) cap)) := by
  have h1 := h.lt
  have h2 := h.pb
  have hz := fin_at h.box
  have hz2 := hk.size
  have hrow := Rw.app (RCmd.good (LsIn.good d)) hR hn (fun k e => e.elim) hk (by omega) (by omega) hc hvs hg h3 hat
  have hlt := hR.row.lt
  have hk3 : Kept (fun k => k = rb ∨ cv.ownBlock = some k) W w3 := by
    have ha := kept_alloc (S := fun k => k = rb ∨ cv.ownBlock = some k) w2 o
    exact ((hk.mono fun k e => .inl e).trans ha).trans (Kept.grown hg (fun k e => .inr e))
  have hks := Kept.setCell (S := (· = pb)) (w := w3) ⟨pb, 1, none⟩ (.slice (some ⟨g, 0, none⟩) (n + 1) cap) rfl
  refine ⟨hks.at (hk3.at h.res (fun e => ?_)) (by omega), ?_, hrow.below (RCmd.good (LsIn.good d)) hks (fun k e => by omega), (RdS.kept ?_ hks (by omega)), ?_, h1, h2⟩
  · rcases e with e | e
    · omega
    · have := (hlt _ e).1; omega
  · have hb := hk3.at h.box (fun e => by
      rcases e with e | e
      · omega
      · have := (hlt _ e).1; omega)
    simpa using set_blk (j := 1) hb (.slice (some ⟨g, 0, none⟩) (n + 1) cap)
  · have hk4 : Kept (fun k => cv.ownBlock = some k) w2 w3 := (kept_alloc w2 o).trans (Kept.grown hg (fun k e => e))
    exact hr.kept hk4 (fun e => by have := (hlt _ e).1; omega)
  · refine (h.kept.then hk3 (fun k h3 h4 => ?_)).then hks (fun k h3 h4 => by omega)
    rcases h4 with h4 | h4
    · exact h4
    · have := (hlt _ h4).1; omega
/-- A pipe read, handed back. -/
theorem PSt.done {rb : Nat} {s : ByteArray} {wi d : Nat} {w : World} {pb : Nat} {l : Bs} {neg : Bool} {g cap : Nat} {acc : List CmdT} {W : World} (h : PSt rb s wi d w pb l neg (.slice (some ⟨g, 0, none⟩) acc.length cap) acc W) (hm : acc.length ≤ 281474976710656) :
    Reads rb s wi (.ok (.mk neg acc) l) (VAgg (RPi (LsIn d))) w (.returned (.agg #[.bool neg, .slice (some ⟨g, 0, none⟩) acc.length cap])) ((W.setCell ⟨w.heap.size, 0, none⟩ (.bool neg)).setCell ⟨w.heap.size, 1, none⟩ (.slice (some ⟨g, 0, none⟩) acc.length cap)) := by
  have hk := two_kept (S := (· = w.heap.size)) W rfl (.bool neg) (.slice (some ⟨g, 0, none⟩) acc.length cap)
  have h1 := h.lt
  have h2 := h.pb
  refine ⟨h.kept.then hk (fun k h1 h2 => by omega), _, rfl, h.rd.kept hk (by omega), [.bool neg, .slice (some ⟨g, 0, none⟩) acc.length cap], rfl, _, rfl, ?_⟩
  have hs := h.row.sl (RCmd.good (LsIn.good d)) hm
  exact nw_le (V := Sl 9 (RCmd (LsIn d))) (Sl.good 9 _ (RCmd.good (LsIn.good d))) (z := w.heap.size) (z' := pb + 1) (by omega) (nw_kept (V := Sl 9 (RCmd (LsIn d))) (Sl.good 9 _ (RCmd.good (LsIn.good d))) hk (fun k e => .inl (by omega)) hs)
theorem pipe_bad {v : Lv} {l : Bs} {a : Nat} {e : Int} (h : commandL v ((passL [33] l).getD l) = .bad a e) : pipeL v l = .bad a e := by unfold pipeL; rw [h]
/-- What the loop of pipe comes to. -/
def pipeEnd (neg : Bool) (m : Rs (List CmdT)) : Rs PiT := match m with
  | .bad a e => .bad a e
  | .ok cs r2 => .ok (.mk neg cs) r2
theorem pipe_go {v : Lv} {l r : Bs} {c : CmdT} (h : commandL v ((passL [33] l).getD l) = .ok c r) : pipeL v l = pipeEnd (passL [33] l).isSome (commandsN v (r.length + 1) [c] r) := by
  unfold pipeL pipeEnd
  rw [h]
  simp only
  cases commandsN v (r.length + 1) [c] r <;> rfl
theorem PSt.start {rb : Nat} {s : ByteArray} {wi d : Nat} {w W : World} {l : Bs} (neg : Bool) (h1 : W.heap[w.heap.size]? = some (.cells #[.bool false, .slice none 0 0] 36 (0, 0))) (h2 : RdS W rb s l wi) (h3 : Kept (· = rb) w W) (h4 : rb < w.heap.size) :
    PSt rb s wi d w W.heap.size l neg (.slice none 0 0) [] (W.alloc (.cells #[.bool neg, .slice none 0 0] 36)) :=
  ⟨(Below.heap_alloc _ _ _ (fin_at h1)).trans h1, heap_alloc_new W _, Row.nil _ _ _ _ _ _, h2.told ((Below.refl _ _).alloc (Nat.le_refl _) _), h3.trans (kept_alloc _ _), h4, fin_at h1⟩
set_option maxRecDepth 100000 in
set_option maxHeartbeats 6400000 in
theorem pipe_any {v : Lv} {d wi : Nat} (hC : CdOk (commandL v) d wi) (hless : ∀ l c r, commandL v l = .ok c r → r.length < l.length) (rb : Nat) (s : ByteArray) (l : Bs) (w : World) (h : RdS w rb s l wi) (hs : s.size ≤ 8192) :
    Calls Try.prog 30 #[.pointer (some ⟨rb, 0, none⟩)] w (Reads rb s wi (pipeL v l) (VAgg (RPi (LsIn d))) w) := by
  have hp := fun W (hW : RdS W rb s l wi) => pass_any rb s l wi [33] W hW hs
  have HP := Lib.hid hp
  have HC := Lib.hid hC
  have hsl := h.len
  obtain ⟨neg, hneg⟩ : ∃ b, (passL [33] l).isSome = b := ⟨_, rfl⟩
  obtain ⟨l1, hl1⟩ : ∃ x, (passL [33] l).getD l = x := ⟨_, rfl⟩
  rw [hneg, hl1] at HP
  have hl1s : l1.length ≤ l.length := by
    rw [← hl1]
    cases hx : passL [33] l with
    | none => exact Nat.le_refl _
    | some r => exact Nat.le_of_lt (Sw.pass_less (by decide) hx)
  obtain ⟨i0, hi, hz0, hz1, hz2⟩ := info_parts cmdInfo
  have HI := Lib.hid hi; have HZ0 := Lib.hid hz0; have HZ1 := Lib.hid hz1; have HZ2 := Lib.hid hz2; clear hi hz0 hz1 hz2
  have HW := Lib.hid h
  cases hm : commandL v l1 with
  | bad a er =>
    rw [pipe_bad (by rw [hl1]; exact hm)]
    have HCM := Lib.hid (fun W (hW : RdS W rb s l1 wi) => hm ▸ hC rb s l1 W hW hs)
    clear hp hC hneg hl1 hm h hless
    go_enter Try.func30, Try.ntmps30
    go_wp2_with fail
    refine calls_gen (fun W => W.heap[w.heap.size]? = some (.cells #[.bool false, .slice none 0 0] 36 (0, 0)) ∧ RdS W rb s l wi ∧ Below w.heap.size w W) ⟨heap_alloc_new w _, HW.out.told ((Below.refl _ _).alloc (Nat.le_refl _) _), (Below.refl _ _).alloc (Nat.le_refl _) _⟩ ?_
    rintro W ⟨hbx, hrw, hbw⟩
    refine (HP.out W hrw).mono ?_
    rintro e W2 ⟨rfl, hk, hr⟩
    have hst := PSt.start (d := d) neg (hk.at hbx (by have := HW.out.lt; omega)) hr ((kept_told (S := (· = rb)) hbw).trans hk) HW.out.lt
    clear hbx hrw hbw hk hr
    go_wp2_with fail
    refine wp_gen _ hst ?_
    clear hst
    generalize W2.heap.size = pb at *
    intro W3 hP
    have S0 : Hid (W3.drew.cell? ⟨pb, 1, none⟩ = some (.slice none 0 0)) := Lib.hid (cell_blk hP.drew.box 1)
    have HCW := Lib.hid (HCM.out W3.drew hP.drew.rd)
    have hpk := hP.drew.kept
    clear hP
    refine wp_region_held_drew (S := fun W => W.cell? ⟨pb, 1, none⟩ = some (.slice none 0 0)) (by kernel_rfl) S0.out (fun hHeld => ?_)
    refine wpAnyH_take (i := 0) (v := ?_) rfl (by kernel_rfl) (by kernel_rfl) (by kernel_rfl) (fun _ _ _ h => h) (Or.inl ⟨by rfl, ?_⟩) (by assumption) ?_
    rotate_left
    · (intro w hSw; (try dsimp only at hSw); go_simp; try with_reducible rfl)
    try simp only [List.getElem_toArray, List.getElem_cons_zero, Act.put, List.setIfInBounds_toArray, List.set_cons_zero, List.set_cons_succ]
    refine wpAnyH_take (i := 1) (v := ?_) rfl (by kernel_rfl) (by kernel_rfl) (by kernel_rfl) (fun _ _ _ h => h) (Or.inl ⟨by rfl, ?_⟩) (by assumption) ?_
    rotate_left
    · (intro w hSw; (try dsimp only at hSw); go_simp; try with_reducible rfl)
    try simp only [List.getElem_toArray, List.getElem_cons_zero, List.getElem_cons_succ, Act.put, List.setIfInBounds_toArray, List.set_cons_zero, List.set_cons_succ]
    refine wpAnyH_take (i := 2) (v := ?_) rfl (by kernel_rfl) (by kernel_rfl) (by kernel_rfl) (fun _ _ _ h => h) (Or.inl ⟨by rfl, ?_⟩) (by assumption) ?_
    rotate_left
    · (intro w hSw; (try dsimp only at hSw); go_simp; try with_reducible rfl)
    try simp only [List.getElem_toArray, List.getElem_cons_zero, List.getElem_cons_succ, Act.put, List.setIfInBounds_toArray, List.set_cons_zero, List.set_cons_succ]
    refine wpAnyH_ready (rs := [3]) (by kernel_rfl) (by simp) ?_
    refine AllReadyH.cons rfl (fun K hK => ?_) AllReadyH.nil
    go_simp
    go_wp2_with (go_at_call 35; refine HCW.out.mono ?_; rintro e w3 ⟨hk3, rfl⟩; simp only [sflt])
    exact ⟨rfl, hpk.trans hk3, rfl⟩
  | ok c r =>
    rw [pipe_go (by rw [hl1]; exact hm), hneg]
    have hrl := hless _ _ _ hm
    have HCM := Lib.hid (fun W (hW : RdS W rb s l1 wi) => hm ▸ hC rb s l1 W hW hs)
    obtain ⟨M, hM⟩ : ∃ M, commandsN v (r.length + 1) [c] r = M := ⟨_, rfl⟩
    rw [hM]
    have HM0 := Lib.hid hM
    clear hp hC hneg hl1 hm h hM
    go_enter Try.func30, Try.ntmps30
    go_wp2_with fail
    refine calls_gen (fun W => W.heap[w.heap.size]? = some (.cells #[.bool false, .slice none 0 0] 36 (0, 0)) ∧ RdS W rb s l wi ∧ Below w.heap.size w W) ⟨heap_alloc_new w _, HW.out.told ((Below.refl _ _).alloc (Nat.le_refl _) _), (Below.refl _ _).alloc (Nat.le_refl _) _⟩ ?_
    rintro W ⟨hbx, hrw, hbw⟩
    refine (HP.out W hrw).mono ?_
    rintro e W2 ⟨rfl, hk, hr⟩
    have hst := PSt.start (d := d) neg (hk.at hbx (by have := HW.out.lt; omega)) hr ((kept_told (S := (· = rb)) hbw).trans hk) HW.out.lt
    clear hbx hrw hbw hk hr
    go_wp2_with fail
    refine wp_gen _ hst ?_
    clear hst
    generalize W2.heap.size = pb at *
    intro W3 hP
    obtain ⟨ca, hca⟩ : ∃ ca : Option Addr, none = ca := ⟨_, rfl⟩
    obtain ⟨n, hn0⟩ : ∃ n : Nat, 0 = n := ⟨_, rfl⟩
    obtain ⟨cc, hcc⟩ : ∃ cc : Nat, 0 = cc := ⟨_, rfl⟩
    have hP2 : PSt rb s wi d w pb l1 neg (.slice ca n cc) [] W3 := by rw [← hca, ← hn0, ← hcc]; exact hP
    have HNN : Hid (([] : List CmdT).length = n) := Lib.hid hn0
    clear hP hca hcc hn0
    have hP := hP2
    clear hP2
    go_cut [] from 7 to 13 (fun wx => ∃ g cap, PSt rb s wi d w pb r neg (.slice (some ⟨g, 0, none⟩) (n + 1) cap) [c] wx)
    case first =>
      obtain ⟨vss, Sx, hRw⟩ := hP.drew.row
      have S0 : Hid (W3.drew.cell? ⟨pb, 1, none⟩ = some (.slice ca n cc)) := Lib.hid (cell_blk hP.drew.box 1)
      have HPD := Lib.hid hP.drew
      have HRW := Lib.hid hRw
      have HCW := Lib.hid (HCM.out W3.drew hP.drew.rd)
      clear hP hRw
      have s1 := cell_blk HPD.out.box 1
      have sz := fin_at HPD.out.box
      simp at s1
      have hnb : n ≤ 9000 := by rw [← HNN.out]; simp
      go_region_law (first
          | (go_simp; go_at_call 35; refine HCW.out.mono ?_; rintro e w2 ⟨hk2, v2, rfl, hr2, hv2⟩; obtain ⟨kk, nn, A1, A2, A3, A4, A5, A6, A7, n1, n2, n3, n4, n5, n6, n7, c1, c2, c3, c4, c5, c6, c7, rfl, hrep⟩ := cmd_open hv2; have HK2 := Lib.hid hk2; have HR2 := Lib.hid hr2; have HREP := Lib.hid hrep; have hbx2 := hk2.at HPD.out.box (by have := HPD.out.lt; have := HPD.out.pb; omega); have HBX2 := Lib.hid hbx2; have j1 := cell_blk hbx2 1; have jz := fin_at hbx2; simp at j1; have HOW := Lib.hid ((row_kept HRW.out.row hk2 (fun k e1 e2 => by have := (HRW.out.row.lt k e1).1; have := HPD.out.lt; have := HPD.out.pb; omega)).alloc (.cells #[.int .i64 kk, .string nn, .slice A1 n1 c1, .slice A2 n2 c2, .slice A3 n3 c3, .slice A4 n4 c4, .slice A5 n5 c5, .slice A6 n6 c6, .slice A7 n7 c7] 42)); have HNEW := Lib.hid (new_cells w2 [.int .i64 kk, .string nn, .slice A1 n1 c1, .slice A2 n2 c2, .slice A3 n3 c3, .slice A4 n4 c4, .slice A5 n5 c5, .slice A6 n6 c6, .slice A7 n7 c7] 42); have HOWN := Lib.hid (HNN.out ▸ HOW.out); have HONE : Hid (∀ u ∈ [Value.int .i64 kk, .string nn, .slice A1 n1 c1, .slice A2 n2 c2, .slice A3 n3 c3, .slice A4 n4 c4, .slice A5 n5 c5, .slice A6 n6 c6, .slice A7 n7 c7], u.oneCell' = true) := Lib.hid (nine_one _ _ _ _ _ _ _ _ _ _ _ _ _ _ _ _ _ _ _ _ _ _ _); have HBS : Hid (pb + 1 ≤ (w2.alloc (.cells #[.int .i64 kk, .string nn, .slice A1 n1 c1, .slice A2 n2 c2, .slice A3 n3 c3, .slice A4 n4 c4, .slice A5 n5 c5, .slice A6 n6 c6, .slice A7 n7 c7] 42)).heap.size) := Lib.hid (by have := fin_at hbx2; simp; omega); clear hk2 hr2 hrep hv2 hbx2)
          | (refine step_append_lies _ rfl (.tmp 8) (.tmp 11) 34 rfl (pb + 1) 42 i0 (.agg #[.int .i64 0, .string ⟨#[]⟩, .slice none 0 0, .slice none 0 0, .slice none 0 0, .slice none 0 0, .slice none 0 0, .slice none 0 0, .slice none 0 0]) 9 192 Try.underlying34 HI.out HZ0.out HZ1.out HZ2.out rfl (by decide) (.slice ca n cc) n vss.flatten (by simp [Act.eval]) HOWN.out ⟨w2.heap.size, 0, none⟩ 1 1 [.int .i64 kk, .string nn, .slice A1 n1 c1, .slice A2 n2 c2, .slice A3 n3 c3, .slice A4 n4 c4, .slice A5 n5 c5, .slice A6 n6 c6, .slice A7 n7 c7] (by simp [Act.eval]) rfl HNEW.out HONE.out (by decide) (maxLen_ok (by omega)) (by omega) HBS.out (w2.heap.size + 1) (by simp) ?_; intro g cap w3 hown3 hg3 hat3 hlt3; have HO3 := Lib.hid hown3; have HG3 := Lib.hid hg3; have HA3 := Lib.hid hat3; have hb3 := HG3.out.block pb (by have := fin_at HBX2.out; simp; omega) (fun e => by have := (HRW.out.row.lt pb e.symm).1; omega); have hbx3 := hb3.trans ((Below.heap_alloc _ _ _ (fin_at HBX2.out)).trans HBX2.out); have k1 := cell_blk hbx3 1; simp at k1; have HBX3 := Lib.hid hbx3; have fz1 := froz_blk hbx3 1; have hz3 := fin_at hbx3; clear hown3 hg3 hat3 hb3 hbx3))
      all_goals
        go_wp2_with fail
        go_meet
        exact ⟨g, cap, HPD.out.app HRW.out HNN.out HK2.out HR2.out HREP.out rfl HG3.out HO3.out HA3.out⟩
    case rest =>
      obtain ⟨g0, cap0, hP⟩ := hcut
      have HP0 := Lib.hid hP
      have HL0 : Hid (r.length < r.length + 1 ∧ ([c] : List CmdT).length + (r.length + 1) = r.length + 2 ∧ commandsN v (r.length + 1) [c] r = M) := Lib.hid ⟨by omega, by simp; omega, HM0.out⟩
      have HNN1 : Hid (n + 1 = ([c] : List CmdT).length) := Lib.hid (by have := HNN.out; simp at this ⊢; omega)
      clear hP HNN HCM HP HM0
      go_wp2_with fail
      go_loopg [] (r.length + 1) (fun k wr => ∃ (m : Bs) (acc : List CmdT) (g cap : Nat), Hid (m.length < k ∧ acc.length + k = r.length + 2 ∧ commandsN v k acc m = M) ∧ Hid (PSt rb s wi d w pb m neg (.slice (some ⟨g, 0, none⟩) acc.length cap) acc wr))
      case atStart => exact ⟨r, [c], g0, cap0, HL0, Lib.hid (by rw [← HNN1.out]; exact HP0.out)⟩
      case round =>
        obtain ⟨m, acc, g1, cap1, HM, HPS⟩ := hrel
        clear HP0 HL0 HNN1
        have hpass := pass_any rb s m wi [124] wr HPS.out.rd hs
        cases hx : passL [124] m with
        | none =>
          rw [hx] at hpass
          have HPA := Lib.hid hpass
          have HE : Hid (M = .ok acc m) := Lib.hid (by
            rw [← HM.out.2.2]
            cases gk with
            | zero => rfl
            | succ k => rw [commandsN, hx])
          have hnb : acc.length ≤ 9000 := by have := HM.out.2.1; omega
          clear hpass hx HM
          go_wp2_with fail
          refine HPA.out.mono ?_
          rintro e W ⟨rfl, hk, hr⟩
          have hP := HPS.out.step hk hr
          have b0 := cell_blk hP.box 0
          have b1 := cell_blk hP.box 1
          have a0 := cell_blk hP.res 0
          have a1 := cell_blk hP.res 1
          have f0 := froz_blk hP.res 0
          have f1 := froz_blk hP.res 1
          have z1 := fin_at hP.res
          have z2 := fin_at hP.box
          simp at b0 b1 a0 a1
          have HPE := Lib.hid hP
          clear hP hk hr HPS
          go_wp2_with fail
          refine bodyPost_ret (results_cell_row rfl _ _ _ 36 _ (0, 0) _ rfl (two_set HPE.out.res _ _) Try.underlying36 rfl (by kernel_rfl)) rfl ?_
          rw [HE.out]
          exact HPE.out.done (by omega)
        | some r1 =>
          rw [hx] at hpass
          have HPA := Lib.hid hpass
          have hl := Sw.pass_less (by decide) hx
          have hnl := newlines_le r1
          have HNL := Lib.hid (fun W (hW : RdS W rb s r1 wi) => newlines_any rb s r1 wi W hW hs)
          obtain ⟨k, rfl⟩ : ∃ k, gk = k + 1 := ⟨gk - 1, by have := HM.out.1; omega⟩
          obtain ⟨m2, hm2⟩ : ∃ m2, newlinesL r1 = m2 := ⟨_, rfl⟩
          rw [hm2] at hnl HNL
          cases hm : commandL v m2 with
          | bad a er =>
            have HCM := Lib.hid (fun W (hW : RdS W rb s m2 wi) => hm ▸ HC.out rb s m2 W hW hs)
            have HE : Hid (M = .bad a er) := Lib.hid (by rw [← HM.out.2.2, commandsN, hx]; simp only; rw [hm2, hm])
            clear hpass hx HM hm hm2 hl hnl
            go_wp2_with fail
            refine HPA.out.mono ?_
            rintro e W ⟨rfl, hk, hr⟩
            have HP1 := Lib.hid (HPS.out.step hk hr)
            clear hk hr HPS
            go_wp2_with fail
            refine (HNL.out W HP1.out.rd).mono ?_
            rintro e W3 ⟨rfl, hk, hr⟩
            have hP := HP1.out.step hk hr
            have S0 : Hid (W3.drew.cell? ⟨pb, 1, none⟩ = some (.slice (some ⟨g1, 0, none⟩) acc.length cap1)) := Lib.hid (cell_blk hP.drew.box 1)
            have HCW := Lib.hid (HCM.out W3.drew hP.drew.rd)
            have hpk := hP.drew.kept
            clear hP hk hr HP1
            go_wp2_with fail
            refine wp_region_held_drew (S := fun W => W.cell? ⟨pb, 1, none⟩ = some (.slice (some ⟨g1, 0, none⟩) acc.length cap1)) (by kernel_rfl) S0.out (fun hHeld => ?_)
            refine wpAnyH_take (i := 0) (v := ?_) rfl (by kernel_rfl) (by kernel_rfl) (by kernel_rfl) (fun _ _ _ h => h) (Or.inl ⟨by rfl, ?_⟩) (by assumption) ?_
            rotate_left
            · (intro w hSw; (try dsimp only at hSw); go_simp; try with_reducible rfl)
            try simp only [List.getElem_toArray, List.getElem_cons_zero, Act.put, List.setIfInBounds_toArray, List.set_cons_zero, List.set_cons_succ]
            refine wpAnyH_take (i := 1) (v := ?_) rfl (by kernel_rfl) (by kernel_rfl) (by kernel_rfl) (fun _ _ _ h => h) (Or.inl ⟨by rfl, ?_⟩) (by assumption) ?_
            rotate_left
            · (intro w hSw; (try dsimp only at hSw); go_simp; try with_reducible rfl)
            try simp only [List.getElem_toArray, List.getElem_cons_zero, List.getElem_cons_succ, Act.put, List.setIfInBounds_toArray, List.set_cons_zero, List.set_cons_succ]
            refine wpAnyH_take (i := 2) (v := ?_) rfl (by kernel_rfl) (by kernel_rfl) (by kernel_rfl) (fun _ _ _ h => h) (Or.inl ⟨by rfl, ?_⟩) (by assumption) ?_
            rotate_left
            · (intro w hSw; (try dsimp only at hSw); go_simp; try with_reducible rfl)
            try simp only [List.getElem_toArray, List.getElem_cons_zero, List.getElem_cons_succ, Act.put, List.setIfInBounds_toArray, List.set_cons_zero, List.set_cons_succ]
            refine wpAnyH_ready (rs := [3]) (by kernel_rfl) (by simp) ?_
            refine AllReadyH.cons rfl (fun K hK => ?_) AllReadyH.nil
            go_simp
            go_wp2_with (go_at_call 35; refine HCW.out.mono ?_; rintro e w3 ⟨hk3, rfl⟩; simp only [sflt])
            rw [HE.out]
            exact ⟨rfl, hpk.trans hk3, rfl⟩
          | ok cm2 r2 =>
            have hl2 := hless _ _ _ hm
            have HCM2 := Lib.hid (fun W (hW : RdS W rb s m2 wi) => hm ▸ HC.out rb s m2 W hW hs)
            have HN : Hid (r2.length < k ∧ (acc ++ [cm2]).length + k = r.length + 2 ∧ commandsN v k (acc ++ [cm2]) r2 = M) := Lib.hid ⟨by have := HM.out.1; omega, by have := HM.out.2.1; simp; omega, by rw [← HM.out.2.2, commandsN, hx]; simp only; rw [hm2, hm]⟩
            have hnb : acc.length ≤ 9000 := by have := HM.out.2.1; omega
            clear hpass hx HM hm hm2 hl hnl hl2
            go_wp2_with fail
            refine HPA.out.mono ?_
            rintro e W ⟨rfl, hk, hr⟩
            have HP1 := Lib.hid (HPS.out.step hk hr)
            clear hk hr HPS
            go_wp2_with fail
            refine (HNL.out W HP1.out.rd).mono ?_
            rintro e W3 ⟨rfl, hk, hr⟩
            have hP0 := HP1.out.step hk hr
            obtain ⟨ca, hca⟩ : ∃ ca : Option Addr, some ⟨g1, 0, none⟩ = ca := ⟨_, rfl⟩
            obtain ⟨n, hn0⟩ : ∃ n : Nat, acc.length = n := ⟨_, rfl⟩
            have hP : PSt rb s wi d w pb m2 neg (.slice ca n cap1) acc W3 := by rw [← hca, ← hn0]; exact hP0
            have HNN : Hid (acc.length = n) := Lib.hid hn0
            have hnb2 : n ≤ 9000 := by rw [← hn0]; exact hnb
            clear hP0 hca hn0 hk hr HP1 hnb HNL HPA
            go_wp2_with fail
            obtain ⟨vss, Sx, hRw⟩ := hP.drew.row
            have S0 : Hid (W3.drew.cell? ⟨pb, 1, none⟩ = some (.slice ca n cap1)) := Lib.hid (cell_blk hP.drew.box 1)
            have HPD := Lib.hid hP.drew
            have HRW := Lib.hid hRw
            have HCW := Lib.hid (HCM2.out W3.drew hP.drew.rd)
            clear hP hRw
            have s1 := cell_blk HPD.out.box 1
            have sz := fin_at HPD.out.box
            simp at s1
            go_region_law (first
                | (go_simp; go_at_call 35; refine HCW.out.mono ?_; rintro e w2 ⟨hk2, v2, rfl, hr2, hv2⟩; obtain ⟨kk, nn, A1, A2, A3, A4, A5, A6, A7, n1, n2, n3, n4, n5, n6, n7, c1, c2, c3, c4, c5, c6, c7, rfl, hrep⟩ := cmd_open hv2; have HK2 := Lib.hid hk2; have HR2 := Lib.hid hr2; have HREP := Lib.hid hrep; have hbx2 := hk2.at HPD.out.box (by have := HPD.out.lt; have := HPD.out.pb; omega); have HBX2 := Lib.hid hbx2; have j1 := cell_blk hbx2 1; have jz := fin_at hbx2; simp at j1; have HOW := Lib.hid ((row_kept HRW.out.row hk2 (fun k e1 e2 => by have := (HRW.out.row.lt k e1).1; have := HPD.out.lt; have := HPD.out.pb; omega)).alloc (.cells #[.int .i64 kk, .string nn, .slice A1 n1 c1, .slice A2 n2 c2, .slice A3 n3 c3, .slice A4 n4 c4, .slice A5 n5 c5, .slice A6 n6 c6, .slice A7 n7 c7] 42)); have HNEW := Lib.hid (new_cells w2 [.int .i64 kk, .string nn, .slice A1 n1 c1, .slice A2 n2 c2, .slice A3 n3 c3, .slice A4 n4 c4, .slice A5 n5 c5, .slice A6 n6 c6, .slice A7 n7 c7] 42); have HOWN := Lib.hid (HNN.out ▸ HOW.out); have HONE : Hid (∀ u ∈ [Value.int .i64 kk, .string nn, .slice A1 n1 c1, .slice A2 n2 c2, .slice A3 n3 c3, .slice A4 n4 c4, .slice A5 n5 c5, .slice A6 n6 c6, .slice A7 n7 c7], u.oneCell' = true) := Lib.hid (nine_one _ _ _ _ _ _ _ _ _ _ _ _ _ _ _ _ _ _ _ _ _ _ _); have HBS : Hid (pb + 1 ≤ (w2.alloc (.cells #[.int .i64 kk, .string nn, .slice A1 n1 c1, .slice A2 n2 c2, .slice A3 n3 c3, .slice A4 n4 c4, .slice A5 n5 c5, .slice A6 n6 c6, .slice A7 n7 c7] 42)).heap.size) := Lib.hid (by have := fin_at hbx2; simp; omega); clear hk2 hr2 hrep hv2 hbx2)
                | (refine step_append_lies _ rfl (.tmp 19) (.tmp 22) 34 rfl (pb + 1) 42 i0 (.agg #[.int .i64 0, .string ⟨#[]⟩, .slice none 0 0, .slice none 0 0, .slice none 0 0, .slice none 0 0, .slice none 0 0, .slice none 0 0, .slice none 0 0]) 9 192 Try.underlying34 HI.out HZ0.out HZ1.out HZ2.out rfl (by decide) (.slice ca n cap1) n vss.flatten (by simp [Act.eval]) HOWN.out ⟨w2.heap.size, 0, none⟩ 1 1 [.int .i64 kk, .string nn, .slice A1 n1 c1, .slice A2 n2 c2, .slice A3 n3 c3, .slice A4 n4 c4, .slice A5 n5 c5, .slice A6 n6 c6, .slice A7 n7 c7] (by simp [Act.eval]) rfl HNEW.out HONE.out (by decide) (maxLen_ok (by omega)) (by omega) HBS.out (w2.heap.size + 1) (by simp) ?_; intro g cap w3 hown3 hg3 hat3 hlt3; have HO3 := Lib.hid hown3; have HG3 := Lib.hid hg3; have HA3 := Lib.hid hat3; have hb3 := HG3.out.block pb (by have := fin_at HBX2.out; simp; omega) (fun e => by have := (HRW.out.row.lt pb e.symm).1; omega); have hbx3 := hb3.trans ((Below.heap_alloc _ _ _ (fin_at HBX2.out)).trans HBX2.out); have k1 := cell_blk hbx3 1; simp at k1; have HBX3 := Lib.hid hbx3; have fz1 := froz_blk hbx3 1; have hz3 := fin_at hbx3; clear hown3 hg3 hat3 hb3 hbx3))
            all_goals
              have hPN := HPD.out.app HRW.out HNN.out HK2.out HR2.out HREP.out rfl HG3.out HO3.out HA3.out
              have HPN : Hid (∃ cv', cv' = Value.slice (some ⟨g, 0, none⟩) (acc ++ [cm2]).length cap ∧ PSt rb s wi d w pb r2 neg cv' (acc ++ [cm2]) (w3.setCell ⟨pb, 1, none⟩ (.slice (some ⟨g, 0, none⟩) (n + 1) cap))) := Lib.hid ⟨_, by rw [show (acc ++ [cm2]).length = n + 1 from by have := HNN.out; simp; exact this], hPN⟩
              clear hPN
              go_wp2_with fail
              go_roundg k
              case measure => omega
              case rel =>
                obtain ⟨cv', hcv, hP⟩ := HPN.out
                exact ⟨r2, acc ++ [cm2], g, cap, HN, Lib.hid (hcv ▸ hP)⟩

end Go.Proofs.Ytgajbehlggikdaa.Sw
