/- DERIVED. The walk over the document's quoted. -/
import Derived.Test.YtkbhjjmgacahdaaDoorWdRJoin
namespace Go.Proofs.YtkbhjjmgacahdaaDoor.Wd
open Go.RowKit
open PathM WdM
set_option linter.unusedVariables false

theorem PIn.keep2 {d : Nat} {w w' : World} {S T : Nat → Prop} {v : Value} {l : List PT} (hk : Kept T w w') (hs : ∀ k, S k → ¬ T k) (h : PIn d w S v l) : PIn d w' S v l := by
  induction d generalizing v l with
  | zero => exact h
  | succ d ih =>
    obtain ⟨A, c, ps, h1, h2, h3, h4⟩ := h
    refine ⟨A, c, ps, h1, h2, h3, fun hne => ?_⟩
    obtain ⟨b, off, h5, h6, h7⟩ := h4 hne
    refine ⟨b, off, h5, h6, fun i hi => ?_⟩
    obtain ⟨a0, a1, a2, a3, a4, a5⟩ := h7 i hi
    have e : ∀ j x, w.cell? ⟨b, j, none⟩ = some x → w'.cell? ⟨b, j, none⟩ = some x := fun j x hx => (World.cell?_of_block (hk.block b (World.block_lt_of_cell? _ _ hx) (hs b h6))).trans hx
    exact ⟨e _ _ a0, e _ _ a1, e _ _ a2, e _ _ a3, e _ _ a4, ih a5⟩
/-- How many parts and bytes. -/
def psize : List PT → Nat
  | [] => 0
  | .mk _ _ t _ w :: r => 1 + t.length + psize w + psize r
theorem psize_cons (p : PT) (r : List PT) : psize (p :: r) = 1 + p.text.length + psize p.word + psize r := by
  obtain ⟨k, q, t, o, w⟩ := p
  rw [psize]; rfl
theorem psize_len (l : List PT) : l.length + tlen l ≤ psize l := by
  induction l with
  | nil => simp [tlen]
  | cons p l ih => rw [psize_cons, tlen, List.length_cons]; omega
theorem psize_at {l : List PT} {i : Nat} (h : i < l.length) : psize l[i].word ≤ psize l := by
  induction l generalizing i with
  | nil => simp at h
  | cons p l ih =>
    rw [psize_cons]
    cases i with
    | zero => show psize p.word ≤ _; omega
    | succ i => have := ih (i := i) (by simpa using h); show psize (l[i]'(by simpa using h)).word ≤ _; omega
theorem qmap_len (l : List PT) : (qmap l).length = l.length := by
  induction l with
  | nil => rw [qmap_nil]
  | cons p l ih => rw [qmap_cons, List.length_cons, List.length_cons, ih]
theorem qmap_tlen (l : List PT) : tlen (qmap l) = tlen l := by
  induction l with
  | nil => rw [qmap_nil]
  | cons p l ih => rw [qmap_cons, tlen, tlen, ih]; rfl
theorem part_len (l : List PT) (i : Nat) : (l.take i).length ≤ l.length ∧ tlen (l.take i) ≤ tlen l := by
  refine ⟨List.length_take_le' i l, ?_⟩
  have h : tlen l = tlen (l.take i) + tlen (l.drop i) := by rw [← tlen_app, List.take_append_drop]
  omega
theorem at_len {l : List PT} {i : Nat} (h : i < l.length) : l[i].text.length ≤ tlen l := by
  have h1 : tlen l = tlen (l.take i) + tlen (l.drop i) := by rw [← tlen_app, List.take_append_drop]
  rw [List.drop_eq_getElem_cons h, tlen] at h1
  omega
/-- A part by itself, in a block of its own. -/
theorem PA.one {d b cap : Nat} {w : World} {p : PT} {wv : Value} {x : Value} (h : w.heap[b]? = some (.cells #[.int .i64 p.kind, .bool p.quoted, .string (nm p.text), .string (nm p.op), wv] 32 (0, 0))) (hw : PA d w wv p.word) : PA (d + 1) w (.slice (some ⟨b, 0, none⟩) 1 cap) [p] := by
  refine lit_pin (d := d) [(p, wv)] [p] h rfl rfl trivial (by simp) (fun x hx => ?_)
  rw [List.mem_singleton] at hx
  subst hx
  exact hw
set_option maxRecDepth 100000 in
set_option maxHeartbeats 3200000 in
theorem rquoted_any : ∀ (d : Nat) (v : Value) (l : List PT) (w : World), PA d w v l → psize l ≤ 40000 →
    Calls Tryd.prog 50 #[v] w fun e w' => Below w.heap.size w w' ∧ ∃ v', e = .returned v' ∧ PF d w.heap.size w' v' (quotedL l) := by
  intro d
  induction d with
  | zero =>
    intro v l w hv hs
    obtain ⟨rfl, A, c, rfl⟩ := hv
    rw [quoted_nil]
    go_enter Tryd.func50, Tryd.ntmps50
    go_wp2_with fail
    go_loopg [3, 4] 0 (fun g x3 x4 wr => x3 = .slice none 0 0 ∧ x4 = .int .i64 0 ∧ wr = w)
    case atStart => exact ⟨rfl, rfl, rfl⟩
    case round =>
      obtain ⟨rfl, rfl, rfl⟩ := hrel
      go_wp2_with fail
      go_ret
      exact ⟨Below.refl _ _, _, rfl, PIn.nil _ _ _ _ _⟩
  | succ d ih =>
    intro v l w hv hs
    obtain ⟨A, c, rfl, hll⟩ := PIn.shape hv
    have HV := Lib.hid hv
    have HIH := Lib.hid ih
    have hpl := psize_len l
    have HPL := Lib.hid hpl
    have HPS := Lib.hid hs
    clear hv ih hpl hs
    go_enter Tryd.func50, Tryd.ntmps50
    go_wp2_with fail
    go_loopg [3, 4] l.length (fun g x3 x4 wr => ∃ (i : Nat), g = l.length - i ∧ x4 = .int .i64 i ∧ i ≤ l.length ∧ Hid (Below w.heap.size w wr) ∧ Hid (PF (d + 1) w.heap.size wr x3 (joinL [] (qmap (l.take i)))))
    case atStart => exact ⟨0, by omega, rfl, by omega, Lib.hid (Below.refl _ _), Lib.hid (by rw [List.take_zero, qmap_nil]; exact PIn.nil _ _ _ _ _)⟩
    case round =>
      obtain ⟨i, rfl, rfl, hi, HB, HO⟩ := hrel
      by_cases hil : i < l.length
      · have hv2 := HV.out.below (HB.out)
        obtain ⟨d0, b, off, c', hd, hvb, _, _, hat⟩ := PIn.opened hv2 (fun e => by rw [e] at hil; simp at hil)
        obtain rfl : d = d0 := by omega
        obtain ⟨wv, a0, a1, a2, a3, a4, ap⟩ := hat i hil
        have HTK : Hid (qmap (l.take (i + 1)) = qmap (l.take i) ++ [q1 l[i]]) := Lib.hid (by rw [List.take_succ_eq_append_getElem hil, qmap_app, qmap_cons, qmap_nil])
        have HSW := Lib.hid (psize_at hil)
        have HTX := Lib.hid (at_len hil)
        generalize l[i] = p at *
        obtain ⟨k2, q2, t2, o2, w2⟩ := p
        simp only [PT.kind, PT.quoted, PT.text, PT.op, PT.word] at a0 a1 a2 a3 ap HSW HTX
        obtain ⟨A2, c2, rfl, _⟩ := PIn.shape ap
        have HAP := Lib.hid ap
        cases hvb
        have hbw : b < wr.heap.size := World.block_lt_of_cell? _ _ a0
        clear hat hv2 ap
        go_wp2_with fail
        have HO1 := Lib.hid (PIn.alloc2 (o := (.cells #[.int .i64 k2, .bool true, .string (nm t2), .string (nm o2), .slice A2 w2.length c2] 32)) (PIn.old HO.out))
        have HAP1 := Lib.hid (PIn.alloc2 (o := (.cells #[.int .i64 k2, .bool true, .string (nm t2), .string (nm o2), .slice A2 w2.length c2] 32)) HAP.out)
        have HB1 := Lib.hid ((HB.out.alloc HB.out.size (.cells #[.int .i64 k2, .bool true, .string (nm t2), .string (nm o2), .slice A2 w2.length c2] 32)))
        have HX1 := Lib.hid (heap_alloc_new wr (.cells #[.int .i64 k2, .bool true, .string (nm t2), .string (nm o2), .slice A2 w2.length c2] 32))
        have hwz : w.heap.size ≤ wr.heap.size := HB.out.size
        refine calls_gen (fun W => PIn (d + 1) W (fun k => w.heap.size ≤ k ∧ k < wr.heap.size) u3 (joinL [] (qmap (l.take i))) ∧ PA d W (.slice A2 w2.length c2) w2 ∧ Below w.heap.size w W ∧ W.heap[wr.heap.size]? = some (.cells #[.int .i64 k2, .bool true, .string (nm t2), .string (nm o2), .slice A2 w2.length c2] 32 (0, 0))) ⟨HO1.out, HAP1.out, HB1.out, HX1.out⟩ ?_
        clear HO1 HAP1 HB1 HX1 HO HAP HB a0 a1 a2 a3 a4
        generalize hbx : wr.heap.size = bx at *
        clear hbx
        rintro W1 ⟨h1, h2, h3, h4⟩
        have HO := Lib.hid h1
        have HB := Lib.hid h3
        have HX := Lib.hid h4
        have hq := HIH.out _ w2 W1 h2 (by have := HSW.out; have := HPS.out; omega)
        have hx1 := fin_at h4
        clear h1 h2 h3 h4
        refine hq.mono ?_
        clear hq
        rintro e w4 ⟨hb4, v4, rfl, hv4⟩
        obtain ⟨A4, c4, rfl, _⟩ := PIn.shape hv4
        have HO4 := Lib.hid (PIn.below hb4 HO.out)
        have HB4 := Lib.hid (HB.out.trans (hb4.mono HB.out.size))
        have HX4 := Lib.hid ((hb4.block bx (fin_at HX.out)).trans HX.out)
        have HV4 : Hid (PIn d w4 (fun k => bx < k) (.slice A4 (quotedL w2).length c4) (quotedL w2)) := Lib.hid (PIn.mono (fun k _ hk => Nat.lt_of_lt_of_le hx1 hk) _ _ _ hv4)
        clear hb4 hv4 HO HB HX hx1
        have p0 := cell_blk HX4.out 0
        have p1 := cell_blk HX4.out 1
        have p2 := cell_blk HX4.out 2
        have p3 := cell_blk HX4.out 3
        have p4 := cell_blk HX4.out 4
        have f4 := froz_blk HX4.out 4
        simp at p0 p1 p2 p3 p4
        have hz := fin_at HX4.out
        go_wp2_with fail
        have HK5 := Lib.hid (Kept.setCell (S := (· = bx)) (w := w4) ⟨bx, 4, none⟩ (.slice A4 (quotedL w2).length c4) rfl)
        have hO5 := PIn.keep2 HK5.out (fun k hk => by omega) HO4.out
        have hV5 := PIn.keep2 HK5.out (fun k hk => by omega) HV4.out
        have hB5 := HB4.out.trans (HK5.out.below (B := w.heap.size) HB4.out.size (fun k e => by omega))
        have hs5 : (w4.setCell ⟨bx, 4, none⟩ (.slice A4 (quotedL w2).length c4)).heap.size = w4.heap.size := by simp
        rw [← hs5]
        generalize w4.setCell ⟨bx, 4, none⟩ (.slice A4 (quotedL w2).length c4) = w5 at *
        have HO5 := Lib.hid (PIn.alloc2 (o := (.cells #[.int .i64 k2, .bool true, .string (nm t2), .string (nm o2), .slice A4 (quotedL w2).length c4] 32)) hO5)
        have HV5 := Lib.hid (PIn.alloc2 (o := (.cells #[.int .i64 k2, .bool true, .string (nm t2), .string (nm o2), .slice A4 (quotedL w2).length c4] 32)) hV5)
        have HB5 := Lib.hid (hB5.alloc hB5.size (.cells #[.int .i64 k2, .bool true, .string (nm t2), .string (nm o2), .slice A4 (quotedL w2).length c4] 32))
        have HX5 := Lib.hid (heap_alloc_new w5 (.cells #[.int .i64 k2, .bool true, .string (nm t2), .string (nm o2), .slice A4 (quotedL w2).length c4] 32))
        have hz5 : w.heap.size ≤ w5.heap.size := hB5.size
        refine calls_gen (fun W => PIn (d + 1) W (fun k => w.heap.size ≤ k) u3 (joinL [] (qmap (l.take i))) ∧ PIn (d + 1) W (fun k => w.heap.size ≤ k) (.slice (some ⟨w5.heap.size, 0, none⟩) 1 1) [q1 (.mk k2 q2 t2 o2 w2)] ∧ Below w.heap.size w W) ⟨PIn.mono (fun k _ hk => hk.1) _ _ _ HO5.out, ?_, HB5.out⟩ ?_
        · refine lit_pin (d := d) [(q1 (.mk k2 q2 t2 o2 w2), .slice A4 (quotedL w2).length c4)] [q1 (.mk k2 q2 t2 o2 w2)] HX5.out rfl rfl hz5 (by simp) (fun x hx => ?_)
          rw [List.mem_singleton] at hx
          subst hx
          exact PIn.mono (fun k _ hk => by omega) _ _ _ HV5.out
        clear hO5 hV5 hB5 HO5 HV5 HB5 HX5 HO4 HV4 HB4 HX4 HK5 p0 p1 p2 p3 p4 f4
        rintro W6 ⟨h1, h2, h3⟩
        have hj := rjoin_any (fun k => w.heap.size ≤ k) (d + 1) _ _ _ _ W6 h1 h2 (by
          have := join_len [] (qmap (l.take i)); have := qmap_len (l.take i); have := (part_len l i).1; have := HPL.out; have := HPS.out; simp at *; omega) (by
          have e1 := tlen_join [] (qmap (l.take i)); have e2 := qmap_tlen (l.take i); have e3 := (part_len l i).2; have := HPL.out; have := HPS.out; have := HTX.out
          rw [e1, e2]; simp only [tlen, q1, PT.text]; omega)
        have HB6 := Lib.hid h3
        clear h1 h2 h3
        refine hj.mono ?_
        clear hj
        rintro e w7 ⟨hb7, v7, rfl, hv7⟩
        have HB7 := Lib.hid (HB6.out.trans (hb7.mono HB6.out.size))
        have HO7 : Hid (PF (d + 1) w.heap.size w7 v7 (joinL [] (qmap (l.take (i + 1))))) := Lib.hid (by
          rw [HTK.out, joinL_snoc]
          exact PIn.mono (fun k _ hk => by have := HB6.out.size; omega) _ _ _ hv7)
        clear hb7 hv7
        go_wp2
        go_roundg (l.length - (i + 1))
        case rel => exact ⟨i + 1, rfl, by go_num, by omega, HB7, HO7⟩
        case measure => omega
      · have hin : l.length ≤ i := by omega
        go_wp2_with fail
        go_ret
        refine ⟨HB.out, _, rfl, ?_⟩
        have := HO.out
        rw [List.take_of_length_le hin] at this
        exact this

end Go.Proofs.YtkbhjjmgacahdaaDoor.Wd
