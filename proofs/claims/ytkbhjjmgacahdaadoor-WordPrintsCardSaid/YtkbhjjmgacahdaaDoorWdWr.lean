/- DERIVED. Walks over the program's literal, writeParam, writePart, write: what it writes is pText. -/
import Derived.Test.YtkbhjjmgacahdaaDoorWdRBnd
import Derived.Test.YtkbhjjmgacahdaaDoorWdBld
import Derived.Test.YtkbhjjmgacahdaaDoorShelf2
import Derived.Lib.ReplaceLaws
import Derived.Test.YtkbhjjmgacahdaaDoorWdScan
import Derived.Test.YtkbhjjmgacahdaaDoorWdSame
import Derived.Test.YtkbhjjmgacahdaaDoorWdRPri
namespace Go.Proofs.YtkbhjjmgacahdaaDoor.Wd
open Go.RowKit
open PathM WdM
set_option linter.unusedVariables false

/-- A builder of the call's own that holds so much. -/
def BW (B b : Nat) (l : Bs) (w : World) : Prop := Lib.IsBuilderF 38 5 B b (Lib.byteCells l) w
/-- What a call that writes keeps. -/
structure Wr (B b : Nat) (w w' : World) : Prop where
  below : Below B w w'
  others : Lib.OthersKept 5 (some b) w w'
theorem Wr.refl (B b : Nat) (w : World) : Wr B b w w := ⟨Below.refl _ _, Lib.OthersKept.refl _ _ _⟩
theorem Wr.trans {B b : Nat} {w w1 w2 : World} (h : Wr B b w w1) (k : Wr B b w1 w2) : Wr B b w w2 := ⟨h.below.trans k.below, h.others.trans k.others⟩
theorem Wr.alloc {B b : Nat} {w w1 : World} (h : Wr B b w w1) (hB : B ≤ w1.heap.size) (o : Obj) : Wr B b w (w1.alloc o) := ⟨h.below.alloc hB o, h.others.alloc o⟩
theorem wr_below {B b : Nat} {w w1 : World} (hB : B ≤ w.heap.size) (h : Below w.heap.size w w1) : Wr B b w w1 := ⟨h.mono hB, fun k o hk _ _ => (h.block k (fin_at hk)).trans hk⟩
theorem Wr.part {B b k : Nat} {w w' : World} {cs : Array Value} (h : Wr B b w w') (hk : w.heap[k]? = some (.cells cs 32 (0, 0))) (hb : k ≠ b) : w'.heap[k]? = some (.cells cs 32 (0, 0)) :=
  h.others k _ hk (fun e => hb (by injection e)) (fun c fz e => by injection e with _ e _; exact absurd e (by decide))
theorem bw_keep {B b : Nat} {l : Bs} {w w' : World} (h : BW B b l w) (hk : ∀ k, k < w.heap.size → w'.heap[k]? = w.heap[k]?) : BW B b l w' := by
  have aux : ∀ p, Lib.BuilderAtF 38 5 B b p (Lib.byteCells l) w → Lib.BuilderAtF 38 5 B b p (Lib.byteCells l) w' := by
    rintro p ⟨h1, v, h2, ⟨h3, h4⟩, h5⟩
    refine ⟨h1, v, (hk b (fin_at h2)).trans h2, ⟨h3, ?_⟩, h5⟩
    rcases h4 with h4 | ⟨g, cap, cur, fz, e1, e2, e3, e4⟩
    · exact .inl h4
    · exact .inr ⟨g, cap, cur, fz, e1, e2, (hk g (fin_at e3)).trans e3, e4⟩
  rcases h with h | h
  · exact .inl (aux _ h)
  · exact .inr (aux _ h)
theorem BW.lt {B b : Nat} {l : Bs} {w : World} (h : BW B b l w) : B ≤ b ∧ b < w.heap.size := by
  rcases h with h | h
  · exact ⟨h.1, h.lt⟩
  · exact ⟨h.1, h.lt⟩
theorem bw_more (l : Bs) (s : ByteArray) : Lib.byteCells l ++ Lib.strCells s = Lib.byteCells (l ++ s.data.toList) := by
  unfold Lib.byteCells Lib.strCells
  rw [List.map_append]
theorem bw_write {B b : Nat} {l : Bs} (s : ByteArray) {w : World} (h : BW B b l w) (hl : l.length + s.size ≤ 1000000) :
    Calls Tryd.prog 21 #[.pointer (some ⟨b, 0, none⟩), .string s] w fun e w' => e = .returned (.tuple #[.int .i64 s.size, .nilIface]) ∧ BW B b (l ++ s.data.toList) w' ∧ Wr B b w w' := by
  have hlt := h.lt
  refine (bwrite_any B b (Lib.byteCells l) s w h (by rw [Lib.byteCells_length]; omega) (by omega)).mono ?_
  rintro e w' ⟨rfl, h2, h3, h4⟩
  exact ⟨rfl, .inr (by rw [bw_more] at h2; exact h2), ⟨h3, h4⟩⟩
/-- How writing ends: all of it written, or left off with no more than N bytes. -/
def WPost (B b : Nat) (l : Bs) (N : Nat) (w : World) (o : Option Bs) (e : Ending) (w' : World) : Prop :=
  Wr B b w w' ∧ ((∃ z, o = some z ∧ e = .returned (.bool true) ∧ BW B b (l ++ z) w') ∨ (o = none ∧ e = .returned (.bool false) ∧ ∃ l2, BW B b l2 w' ∧ l2.length ≤ N))
def pPar (n : Nat) (t o : Bs) (w : List PT) : Option Bs := if o = lenT then some ([36, 123, 35] ++ t ++ [125]) else (pText (n + (2 + t.length + o.length)) w).map fun z => [36, 123] ++ t ++ o ++ z ++ [125]
def pPart (n : Nat) (k : Int) (q : Bool) (t o : Bs) (w : List PT) : Option Bs := if k = 1 then some (literalT q t) else if k = 2 then pPar n t o w
  else if k = 3 then some ([36, 40] ++ t ++ [41]) else if k = 4 then some ([36, 40, 40] ++ t ++ [41, 41]) else none
theorem pText_cons (b : Nat) (k : Int) (q : Bool) (t o : Bs) (w r : List PT) : pText b (.mk k q t o w :: r) = if 8192 < b + t.length + o.length then none else match pPart (b + (markT q k).length) k q t o w with
    | none => none
    | some x => (pText (b + (markT q k ++ x ++ markT q k).length) r).map fun z => markT q k ++ x ++ markT q k ++ z := by
  rw [pText]; rfl
/-- The written part of what the document writes. -/
theorem pPart_len {n : Nat} {k : Int} {q : Bool} {t o : Bs} {w : List PT} {x : Bs} (h : pPart n k q t o w = some x) : (rText [.mk k q t o w]).length = (markT q k ++ x ++ markT q k).length := by
  rw [rText_one]
  congr 2
  unfold pPart at h
  by_cases h1 : k = 1
  · rw [if_pos h1] at h ⊢; injection h with h; rw [h]
  rw [if_neg h1] at h ⊢
  by_cases h2 : k = 2
  · rw [if_pos h2] at h ⊢
    unfold pPar at h
    by_cases ho : o = lenT
    · rw [if_pos ho] at h ⊢; injection h with h; rw [h]
    · rw [if_neg ho] at h ⊢
      cases hp : pText (n + (2 + t.length + o.length)) w with
      | none => rw [hp] at h; cases h
      | some z =>
        rw [hp] at h
        rw [← pText_text w _ z hp]
        injection h with h
        rw [← h]
  rw [if_neg h2] at h ⊢
  by_cases h3 : k = 3
  · rw [if_pos h3] at h ⊢; injection h with h; rw [h]
  rw [if_neg h3] at h ⊢
  by_cases h4 : k = 4
  · rw [if_pos h4] at h; injection h with h; rw [h]
  · rw [if_neg h4] at h; cases h
theorem rText_par (q : Bool) (t o : Bs) (w : List PT) (ho : ¬ o = lenT) : (markT q 2).length + 3 + t.length + o.length + (rText w).length ≤ (rText [.mk 2 q t o w]).length := by
  rw [rText_one, if_neg (by decide), if_pos rfl, if_neg ho]
  simp only [List.length_append, List.length_cons, List.length_nil]
  omega
theorem rText_mark (k : Int) (q : Bool) (t o : Bs) (w : List PT) : (markT q k).length ≤ (rText [.mk k q t o w]).length := by
  rw [rText_one]
  simp only [List.length_append]
  omega
theorem mark_len (q : Bool) (k : Int) : (markT q k).length ≤ 1 := by unfold markT; split <;> simp
/-- Block 0's first cell: what strings.Index asks for. -/
def Z0 (w : World) : Prop := ∃ m, w.cell? ⟨0, 0, none⟩ = some (.int .i64 m)
theorem Z0.below {B : Nat} {w w' : World} (h : Z0 w) (hb : Below B w w') (hB : 0 < B) : Z0 w' := by
  obtain ⟨m, h⟩ := h
  exact ⟨m, (World.cell?_of_block (hb.block 0 hB)).trans h⟩
theorem lit_txt (t : Bs) (ht : t.length ≤ 8192) : (nm (quoteT t)).size ≤ 40000 := by
  rw [nm_size]; have := (quoteT_len t).2; omega
set_option maxRecDepth 100000 in
theorem literal_any (k : Int) (q : Bool) (t : Bs) (ob : ByteArray) (A : Option Addr) (n c : Nat) (w : World) (ht : t.length ≤ 8192) (hz : Z0 w) (h0 : 0 < w.heap.size) :
    Calls Tryd.prog 33 #[.agg #[.int .i64 k, .bool q, .string (nm t), .string ob, .slice A n c]] w fun e w' => e = .returned (.string (nm (literalT q t))) ∧ Below w.heap.size w w' := by
  cases q with
  | false =>
    have e1 : literalT false t = t := rfl
    rw [e1]
    clear e1 hz
    generalize nm t = tb
    go_enter Tryd.func33, Tryd.ntmps33
    go_wp2_with fail
    go_ret
    exact ⟨rfl, (Below.refl _ _).alloc (Nat.le_refl _) _⟩
  | true =>
    obtain ⟨m, hm⟩ := hz
    have hm2 : (w.alloc (.cells #[.int .i64 k, .bool true, .string (nm t), .string ob, .slice A n c] 32)).cell? ⟨0, 0, none⟩ = some (.int .i64 m) := (World.cell?_of_block (Below.heap_alloc w _ 0 h0)).trans hm
    have hR := Tryd.strings_ReplaceAll (nm t) (nm [39]) (nm [39, 92, 39, 39]) m _ (by rw [nm_size]; omega) hm2 (by decide) (by
      have h1 := Lib.countB_le (nm [39]) (by decide) _ (nm t) (Nat.le_refl _)
      rw [nm_size] at h1 ⊢
      have h2 : (nm [39, 92, 39, 39]).size = 4 := rfl
      rw [h2]
      omega)
    rw [nm_data, nm_data, nm_data, replace_quote] at hR
    have HR := Lib.hid hR
    obtain ⟨y1, e1, n1, c1⟩ := cat_ex (⟨#[39]⟩ : ByteArray) (nm (quoteT t)) 1 40000 (by decide) (lit_txt t ht) (by decide)
    obtain ⟨y2, e2, n2, c2⟩ := cat_ex y1 (⟨#[39]⟩ : ByteArray) (1 + 40000) 1 n1 (by decide) (by decide)
    have HY : Hid (y2 = nm (literalT true t)) := Lib.hid (by
      rw [← nm_of y2, e2.out, e1.out, nm_data]
      congr 1)
    have hq : (⟨(quoteT t).toArray⟩ : ByteArray) = nm (quoteT t) := rfl
    rw [hq] at HR
    clear hR hm hm2 e1 e2 n1 n2 hq
    generalize nm (quoteT t) = qb at *
    generalize nm t = tb at *
    go_enter Tryd.func33, Tryd.ntmps33
    go_wp2_with fail
    refine HR.out.mono ?_
    rintro e w1 ⟨rfl, hb⟩
    have HB := Lib.hid (((Below.refl w.heap.size w).alloc (Nat.le_refl _) (.cells #[.int .i64 k, .bool true, .string tb, .string ob, .slice A n c] 32)).trans (hb.mono (by simp)))
    clear hb
    go_wp2_with fail
    go_ret
    exact ⟨ret_str (by rw [HY.out]), HB.out⟩
end Go.Proofs.YtkbhjjmgacahdaaDoor.Wd

/- DERIVED. Walks over the program's writeParam and writePart. -/
namespace Go.Proofs.YtkbhjjmgacahdaaDoor.Wd
open Go.RowKit
open PathM WdM
set_option linter.unusedVariables false

/-- What is asked of write, of words so deep. -/
def WAt (d : Nat) : Prop := ∀ (B b : Nat) (l : Bs) (v : Value) (ws : List PT) (w : World), BW B b l w → PIn d w (fun k => k < B) v ws → Z0 w → 0 < B → PBd ws → l.length + (rText ws).length ≤ 200000 →
  Calls Tryd.prog 11 #[.pointer (some ⟨b, 0, none⟩), v] w (WPost B b l (l.length + (rText ws).length) w (pText l.length ws))
theorem BW.alloc' {B b : Nat} {l : Bs} {w : World} (h : BW B b l w) (o : Obj) : BW B b l (w.alloc o) := bw_keep h (fun k hk => Below.heap_alloc w o k hk)
theorem str_not {o : Bs} {ob : ByteArray} (hob : nm o = ob) {x : Bs} (h : ¬ o = x) : (ob.toList == x) = false := by
  rw [← hob, listD, nm_data]
  simpa using h
theorem PIn.wr {d B b : Nat} {w w' : World} {v : Value} {l : List PT} (h : PIn d w (fun k => k < B) v l) (hk : Wr B b w w') : PIn d w' (fun k => k < B) v l := PIn.keep (fun k hb => hk.below.block k hb) _ _ _ h
set_option maxRecDepth 100000 in
set_option maxHeartbeats 3200000 in
theorem wpar_any (d : Nat) (H : WAt d) (B b : Nat) (l : Bs) (k : Int) (q : Bool) (t o : Bs) (wv : Value) (pw : List PT) (w : World) (N : Nat) (hb : BW B b l w) (hp : PIn d w (fun k => k < B) wv pw) (hz : Z0 w) (h0 : 0 < B) (ht : t.length ≤ 8192) (ho : o.length ≤ 8192)
    (hpb : PBd pw) (hl : l.length ≤ 200000) (hn : ¬ o = lenT → l.length + (3 + t.length + o.length + (rText pw).length) ≤ N) (hN : N ≤ 200000) :
    Calls Tryd.prog 34 #[.pointer (some ⟨b, 0, none⟩), .agg #[.int .i64 k, .bool q, .string (nm t), .string (nm o), wv]] w (WPost B b l N w (pPar l.length t o pw)) := by
  obtain ⟨A, m, c, rfl⟩ := PIn.form hp
  have HB := Lib.hid hb
  obtain ⟨hBb, hbw⟩ := hb.lt
  have hne : w.heap.size ≠ b := by omega
  by_cases hol : o = lenT
  · have HO : Hid (pPar l.length t o pw = some ([36, 123, 35] ++ t ++ [125])) := Lib.hid (by unfold pPar; rw [if_pos hol])
    obtain ⟨y1, f1, n1, c1⟩ := cat_ex (⟨#[36, 123, 35]⟩ : ByteArray) (nm t) 3 8192 (by decide) (by rw [nm_size]; omega) (by decide)
    obtain ⟨y2, f2, n2, c2⟩ := cat_ex y1 (⟨#[125]⟩ : ByteArray) (3 + 8192) 1 n1 (by decide) (by decide)
    have HY : Hid (y2.data.toList = [36, 123, 35] ++ t ++ [125]) := Lib.hid (by rw [f2.out, f1.out, nm_data])
    have HW := Lib.hid (bw_write y2 (hb.alloc' (.cells #[.int .i64 k, .bool q, .string (nm t), .string ⟨#[108, 101, 110]⟩, .slice A m c] 32)) (by omega))
    have hob : nm o = (⟨#[108, 101, 110]⟩ : ByteArray) := by rw [hol]; rfl
    rw [hob]
    have HWR := Lib.hid ((Wr.refl B b w).alloc (by omega) (.cells #[.int .i64 k, .bool q, .string (nm t), .string ⟨#[108, 101, 110]⟩, .slice A m c] 32))
    generalize pPar l.length t o pw = r at *
    clear hb hp hz hn hol f1 f2 n1 n2 hob H hpb
    generalize nm t = tb at *
    go_enter Tryd.func34, Tryd.ntmps34
    go_wp2_with fail
    refine HW.out.mono ?_
    rintro e w2 ⟨rfl, hb2, hw2⟩
    have HB2 := Lib.hid hb2
    have HW2 := Lib.hid (HWR.out.trans hw2)
    clear hb2 hw2
    go_wp2_with fail
    go_ret
    exact ⟨HW2.out, .inl ⟨_, HO.out, rfl, by rw [← HY.out]; exact HB2.out⟩⟩
  · obtain ⟨ob, hob⟩ : ∃ ob, nm o = ob := ⟨_, rfl⟩
    have hobs : ob.size ≤ 8192 := by rw [← hob, nm_size]; exact ho
    have hcmp : (ob.toList == [108, 101, 110]) = false := str_not hob hol
    have hbound := hn hol
    obtain ⟨y1, f1, n1, c1⟩ := cat_ex (⟨#[36, 123]⟩ : ByteArray) (nm t) 2 8192 (by decide) (by rw [nm_size]; omega) (by decide)
    obtain ⟨y2, f2, n2, c2⟩ := cat_ex y1 ob (2 + 8192) 8192 n1 hobs (by decide)
    have HY : Hid (y2.data.toList = [36, 123] ++ t ++ o) := Lib.hid (by rw [f2.out, f1.out, nm_data, ← hob, nm_data])
    have hy2 : y2.size = 2 + t.length + o.length := by rw [sizeD, HY.out]; simp; omega
    have HO : Hid (pPar l.length t o pw = (pText (l ++ y2.data.toList).length pw).map fun z => [36, 123] ++ t ++ o ++ z ++ [125]) := Lib.hid (by
      unfold pPar
      rw [if_neg hol, List.length_append, ← sizeD, hy2])
    rw [hob]
    have HW := Lib.hid (bw_write y2 (hb.alloc' (.cells #[.int .i64 k, .bool q, .string (nm t), .string ob, .slice A m c] 32)) (by omega))
    have HWR := Lib.hid ((Wr.refl B b w).alloc (by omega) (.cells #[.int .i64 k, .bool q, .string (nm t), .string ob, .slice A m c] 32))
    have HP := Lib.hid hp
    have HPB := Lib.hid hpb
    have HX := Lib.hid (heap_alloc_new w (.cells #[.int .i64 k, .bool q, .string (nm t), .string ob, .slice A m c] 32))
    have HZ0 := Lib.hid hz
    have HH := Lib.hid (H B b (l ++ y2.data.toList) (.slice A m c) pw)
    have HLB : Hid ((l ++ y2.data.toList).length + (rText pw).length + 1 ≤ N) := Lib.hid (by rw [List.length_append, ← sizeD, hy2]; omega)
    have HNN := Lib.hid hN
    generalize pPar l.length t o pw = r at *
    clear hb hp hz hn hol f1 f2 n1 n2 hob H hbound hy2 hobs hN hpb
    generalize nm t = tb at *
    go_enter Tryd.func34, Tryd.ntmps34
    go_wp2_with fail
    refine HW.out.mono ?_
    rintro e w2 ⟨rfl, hb2, hw2⟩
    have hx2 := hw2.part HX.out hne
    have HB2 := Lib.hid hb2
    have HW2 := Lib.hid (HWR.out.trans hw2)
    have x4 := cell_blk hx2 4
    simp at x4
    have hzx := fin_at hx2
    clear hb2 hw2 hx2 HW HWR HX
    go_wp2_with fail
    refine (HH.out w2 HB2.out (HP.out.wr HW2.out) (HZ0.out.below HW2.out.below h0) h0 HPB.out (by have := HLB.out; have := HNN.out; omega)).mono ?_
    rintro e w3 ⟨hw3, hc⟩
    have HW3 := Lib.hid (HW2.out.trans hw3)
    clear hw3 HH HB2 HP HZ0 x4 hzx
    rcases hc with ⟨z, hz1, rfl, hb3⟩ | ⟨hz1, rfl, l2, hb3, hl2⟩
    · have HR : Hid (r = some ([36, 123] ++ t ++ o ++ z ++ [125])) := Lib.hid (by rw [HO.out, hz1]; rfl)
      have hzt := pText_text _ _ _ hz1
      have HW4 := Lib.hid (bw_write (⟨#[125]⟩ : ByteArray) hb3 (by have := HLB.out; have := HNN.out; rw [List.length_append, hzt]; have e : (⟨#[125]⟩ : ByteArray).size = 1 := rfl; rw [e]; omega))
      clear hz1 hzt hb3
      go_wp2_with fail
      refine HW4.out.mono ?_
      rintro e w4 ⟨rfl, hb4, hw4⟩
      have HB4 := Lib.hid hb4
      have HW5 := Lib.hid (HW3.out.trans hw4)
      clear hb4 hw4
      go_wp2_with fail
      go_ret
      refine ⟨HW5.out, .inl ⟨_, HR.out, rfl, ?_⟩⟩
      have h4 := HB4.out
      rw [HY.out] at h4
      have e : l ++ ([36, 123] ++ t ++ o ++ z ++ [125]) = l ++ ([36, 123] ++ t ++ o) ++ z ++ (⟨#[125]⟩ : ByteArray).data.toList := by simp
      rw [e]
      exact h4
    · have HR : Hid (r = none) := Lib.hid (by rw [HO.out, hz1]; rfl)
      have HW4 := Lib.hid (bw_write (⟨#[125]⟩ : ByteArray) hb3 (by have := HLB.out; have := HNN.out; have e : (⟨#[125]⟩ : ByteArray).size = 1 := rfl; rw [e]; omega))
      have HL2 := Lib.hid hl2
      clear hz1 hb3 hl2
      go_wp2_with fail
      refine HW4.out.mono ?_
      rintro e w4 ⟨rfl, hb4, hw4⟩
      have HB4 := Lib.hid hb4
      have HW5 := Lib.hid (HW3.out.trans hw4)
      clear hb4 hw4
      go_wp2_with fail
      go_ret
      refine ⟨HW5.out, .inr ⟨HR.out, rfl, _, HB4.out, ?_⟩⟩
      have := HL2.out
      have := HLB.out
      rw [List.length_append]
      have e : (⟨#[125]⟩ : ByteArray).data.toList.length = 1 := rfl
      rw [e]
      omega
end Go.Proofs.YtkbhjjmgacahdaaDoor.Wd

/- DERIVED. Walks over the program's writePart and write. -/
namespace Go.Proofs.YtkbhjjmgacahdaaDoor.Wd
open Go.RowKit
open PathM WdM
set_option linter.unusedVariables false

theorem lit_len (q : Bool) (t : Bs) (ht : t.length ≤ 8192) : (literalT q t).length ≤ 40000 := by
  unfold literalT
  have := (quoteT_len t).2
  split
  · simp only [List.length_append, List.length_cons, List.length_nil]; omega
  · omega
set_option maxRecDepth 100000 in
set_option maxHeartbeats 3200000 in
theorem wpart_any (d : Nat) (H : WAt d) (B b : Nat) (l : Bs) (k : Int) (q : Bool) (t o : Bs) (wv : Value) (pw : List PT) (w : World) (N : Nat) (hb : BW B b l w) (hp : PIn d w (fun k => k < B) wv pw) (hz : Z0 w) (h0 : 0 < B) (ht : t.length ≤ 8192) (ho : o.length ≤ 8192)
    (hpb : PBd pw) (hl : l.length ≤ N) (hn : k = 2 → ¬ o = lenT → l.length + (3 + t.length + o.length + (rText pw).length) ≤ N) (hN : N ≤ 200000) :
    Calls Tryd.prog 22 #[.pointer (some ⟨b, 0, none⟩), .agg #[.int .i64 k, .bool q, .string (nm t), .string (nm o), wv]] w (WPost B b l N w (pPart l.length k q t o pw)) := by
  obtain ⟨A, m, c, rfl⟩ := PIn.form hp
  obtain ⟨hBb, hbw⟩ := hb.lt
  have HWR := Lib.hid ((Wr.refl B b w).alloc (by omega) (.cells #[.int .i64 k, .bool q, .string (nm t), .string (nm o), .slice A m c] 32))
  have HB1 := Lib.hid (hb.alloc' (.cells #[.int .i64 k, .bool q, .string (nm t), .string (nm o), .slice A m c] 32))
  by_cases k1 : k = 1
  · subst k1
    have HO : Hid (pPart l.length 1 q t o pw = some (literalT q t)) := Lib.hid rfl
    have HLT := Lib.hid (literal_any 1 q t (nm o) A m c (w.alloc (.cells #[.int .i64 1, .bool q, .string (nm t), .string (nm o), .slice A m c] 32)) ht (hz.below HWR.out.below h0) (by simp))
    have hll := lit_len q t ht
    generalize pPart l.length 1 q t o pw = r at *
    generalize literalT q t = x at *
    generalize nm t = tb at *
    generalize nm o = ob at *
    have HL := Lib.hid (show l.length + x.length ≤ 1000000 by omega)
    clear hb hp hz hn hl hN hll H hpb ht ho
    go_enter Tryd.func22, Tryd.ntmps22
    go_wp2_with fail
    refine HLT.out.mono ?_
    rintro e w1 ⟨rfl, hb1⟩
    have HB3 := Lib.hid (bw_keep HB1.out (fun k hk => hb1.block k hk))
    have HW3 := Lib.hid (HWR.out.trans (wr_below (by simp; omega) hb1))
    have HW := Lib.hid (bw_write (nm x) HB3.out (by rw [nm_size]; exact HL.out))
    have HY : Hid ((nm x).data.toList = x) := Lib.hid (nm_data x)
    clear hb1 HB1 HB3 HLT HL HWR
    have HWR := HW3
    clear HW3
    generalize nm x = xb at *
    go_wp2_with fail
    refine HW.out.mono ?_
    rintro e w2 ⟨rfl, hb2, hw2⟩
    have HB2 := Lib.hid hb2
    have HW2 := Lib.hid (HWR.out.trans hw2)
    clear hb2 hw2
    go_wp2_with fail
    go_ret
    exact ⟨HW2.out, .inl ⟨_, HO.out, rfl, by rw [← HY.out]; exact HB2.out⟩⟩
  by_cases k2 : k = 2
  · subst k2
    have HO : Hid (pPart l.length 2 q t o pw = pPar l.length t o pw) := Lib.hid rfl
    have HP := Lib.hid (wpar_any d H B b l 2 q t o (.slice A m c) pw (w.alloc (.cells #[.int .i64 2, .bool q, .string (nm t), .string (nm o), .slice A m c] 32)) N HB1.out (hp.wr HWR.out) (hz.below HWR.out.below h0) h0 ht ho hpb (by omega) (hn rfl) hN)
    rw [HO.out]
    generalize pPar l.length t o pw = r at *
    generalize nm t = tb at *
    generalize nm o = ob at *
    clear hb hp hz hn hl hN H hpb ht ho HB1 HO
    go_enter Tryd.func22, Tryd.ntmps22
    go_wp2_with fail
    refine HP.out.mono ?_
    rintro e w2 ⟨hw2, hc⟩
    have HW2 := Lib.hid (HWR.out.trans hw2)
    clear hw2 HP HWR
    rcases hc with ⟨z, hz1, rfl, hb3⟩ | ⟨hz1, rfl, l2, hb3, hl2⟩
    · have HZ := Lib.hid hz1
      have HB3 := Lib.hid hb3
      clear hz1 hb3
      go_wp2_with fail
      go_ret
      exact ⟨HW2.out, .inl ⟨z, HZ.out, rfl, HB3.out⟩⟩
    · have HZ := Lib.hid hz1
      have HB3 := Lib.hid hb3
      have HL2 := Lib.hid hl2
      clear hz1 hb3 hl2
      go_wp2_with fail
      go_ret
      exact ⟨HW2.out, .inr ⟨HZ.out, rfl, l2, HB3.out, HL2.out⟩⟩
  by_cases k3 : k = 3
  · subst k3
    have HO : Hid (pPart l.length 3 q t o pw = some ([36, 40] ++ t ++ [41])) := Lib.hid rfl
    obtain ⟨y1, f1, n1, c1⟩ := cat_ex (⟨#[36, 40]⟩ : ByteArray) (nm t) 3 8192 (by decide) (by rw [nm_size]; omega) (by decide)
    obtain ⟨y2, f2, n2, c2⟩ := cat_ex y1 (⟨#[41]⟩ : ByteArray) (3 + 8192) 2 n1 (by decide) (by decide)
    have HY : Hid (y2.data.toList = [36, 40] ++ t ++ [41]) := Lib.hid (by rw [f2.out, f1.out, nm_data])
    have HW := Lib.hid (bw_write y2 HB1.out (by omega))
    generalize pPart l.length 3 q t o pw = r at *
    generalize nm t = tb at *
    generalize nm o = ob at *
    clear hb hp hz hn hl hN H hpb ht ho HB1 f1 f2 n1 n2
    go_enter Tryd.func22, Tryd.ntmps22
    go_wp2_with fail
    refine HW.out.mono ?_
    rintro e w2 ⟨rfl, hb2, hw2⟩
    have HB2 := Lib.hid hb2
    have HW2 := Lib.hid (HWR.out.trans hw2)
    clear hb2 hw2
    go_wp2_with fail
    go_ret
    exact ⟨HW2.out, .inl ⟨_, HO.out, rfl, by rw [← HY.out]; exact HB2.out⟩⟩
  by_cases k4 : k = 4
  · subst k4
    have HO : Hid (pPart l.length 4 q t o pw = some ([36, 40, 40] ++ t ++ [41, 41])) := Lib.hid rfl
    obtain ⟨y1, f1, n1, c1⟩ := cat_ex (⟨#[36, 40, 40]⟩ : ByteArray) (nm t) 3 8192 (by decide) (by rw [nm_size]; omega) (by decide)
    obtain ⟨y2, f2, n2, c2⟩ := cat_ex y1 (⟨#[41, 41]⟩ : ByteArray) (3 + 8192) 2 n1 (by decide) (by decide)
    have HY : Hid (y2.data.toList = [36, 40, 40] ++ t ++ [41, 41]) := Lib.hid (by rw [f2.out, f1.out, nm_data])
    have HW := Lib.hid (bw_write y2 HB1.out (by omega))
    generalize pPart l.length 4 q t o pw = r at *
    generalize nm t = tb at *
    generalize nm o = ob at *
    clear hb hp hz hn hl hN H hpb ht ho HB1 f1 f2 n1 n2
    go_enter Tryd.func22, Tryd.ntmps22
    go_wp2_with fail
    refine HW.out.mono ?_
    rintro e w2 ⟨rfl, hb2, hw2⟩
    have HB2 := Lib.hid hb2
    have HW2 := Lib.hid (HWR.out.trans hw2)
    clear hb2 hw2
    go_wp2_with fail
    go_ret
    exact ⟨HW2.out, .inl ⟨_, HO.out, rfl, by rw [← HY.out]; exact HB2.out⟩⟩
  have HO : Hid (pPart l.length k q t o pw = none) := Lib.hid (by unfold pPart; rw [if_neg k1, if_neg k2, if_neg k3, if_neg k4])
  have b1 : (k == 1) = false := by simpa using k1
  have b2 : (k == 2) = false := by simpa using k2
  have b3 : (k == 3) = false := by simpa using k3
  have b4 : (k == 4) = false := by simpa using k4
  have HL := Lib.hid hl
  generalize pPart l.length k q t o pw = r at *
  generalize nm t = tb at *
  generalize nm o = ob at *
  clear hb hp hz hn hl hN H hpb ht ho k1 k2 k3 k4
  go_enter Tryd.func22, Tryd.ntmps22
  go_wp2_with fail
  go_ret
  exact ⟨HWR.out, .inr ⟨HO.out, rfl, _, HB1.out, HL.out⟩⟩
end Go.Proofs.YtkbhjjmgacahdaaDoor.Wd

/- DERIVED. The walk over the program's write. -/
namespace Go.Proofs.YtkbhjjmgacahdaaDoor.Wd
open Go.RowKit
open PathM WdM
set_option linter.unusedVariables false

/-- What is written so far. -/
def Sofar (l : Bs) (ws : List PT) (li : Bs) (i : Nat) : Prop := (∃ zi, li = l ++ zi ∧ pText l.length ws = (pText li.length (ws.drop i)).map (fun z => zi ++ z)) ∧ li.length + (rText (ws.drop i)).length ≤ l.length + (rText ws).length
theorem Sofar.start (l : Bs) (ws : List PT) : Sofar l ws l 0 := ⟨⟨[], by simp, by rw [List.drop_zero]; cases pText l.length ws <;> rfl⟩, Nat.le_refl _⟩
theorem Sofar.end {l : Bs} {ws : List PT} {li : Bs} {i : Nat} (h : Sofar l ws li i) (hi : ws.length ≤ i) : ∃ z, pText l.length ws = some z ∧ li = l ++ z := by
  obtain ⟨⟨zi, h1, h2⟩, _⟩ := h
  rw [List.drop_of_length_le hi, pText] at h2
  exact ⟨zi, by rw [h2]; simp, h1⟩
section
variable {l : Bs} {ws : List PT} {li : Bs} {i : Nat} {k : Int} {q : Bool} {t o : Bs} {w2 : List PT}
theorem Sofar.big (h : Sofar l ws li i) (hd : ws.drop i = .mk k q t o w2 :: ws.drop (i + 1)) (hb : 8192 < li.length + t.length + o.length) : pText l.length ws = none := by
  obtain ⟨⟨zi, h1, h2⟩, _⟩ := h
  rw [hd, pText_cons, if_pos hb] at h2
  exact h2
theorem Sofar.bad (h : Sofar l ws li i) (hd : ws.drop i = .mk k q t o w2 :: ws.drop (i + 1)) (hr : pPart (li ++ markT q k).length k q t o w2 = none) : pText l.length ws = none := by
  obtain ⟨⟨zi, h1, h2⟩, _⟩ := h
  rw [List.length_append] at hr
  rw [hd, pText_cons] at h2
  split at h2
  · exact h2
  · rw [hr] at h2; exact h2
theorem Sofar.len (h : Sofar l ws li i) (hd : ws.drop i = .mk k q t o w2 :: ws.drop (i + 1)) : li.length + (rText [.mk k q t o w2]).length + (rText (ws.drop (i + 1))).length ≤ l.length + (rText ws).length := by
  have h2 := h.2
  have e : rText (.mk k q t o w2 :: ws.drop (i + 1)) = rText [.mk k q t o w2] ++ rText (ws.drop (i + 1)) := rText_app [.mk k q t o w2] _
  rw [hd, e, List.length_append] at h2
  omega
theorem Sofar.step (h : Sofar l ws li i) (hd : ws.drop i = .mk k q t o w2 :: ws.drop (i + 1)) (hb : ¬ 8192 < li.length + t.length + o.length) {x : Bs} (hr : pPart (li ++ markT q k).length k q t o w2 = some x) : Sofar l ws (li ++ markT q k ++ x ++ markT q k) (i + 1) := by
  have hl := h.len hd
  obtain ⟨⟨zi, h1, h2⟩, _⟩ := h
  rw [List.length_append] at hr
  have e : (li ++ markT q k ++ x ++ markT q k).length = li.length + (markT q k ++ x ++ markT q k).length := by simp only [List.length_append]; omega
  refine ⟨⟨zi ++ (markT q k ++ x ++ markT q k), by rw [h1]; simp [List.append_assoc], ?_⟩, ?_⟩
  · rw [hd, pText_cons, if_neg hb, hr] at h2
    simp only [Option.map_map] at h2
    rw [h2, e]
    congr 1
    funext z
    simp [Function.comp, List.append_assoc]
  · rw [e, ← pPart_len hr]
    omega
end
set_option maxRecDepth 100000 in
set_option maxHeartbeats 6400000 in
theorem write_any : ∀ d, WAt d := by
  intro d
  induction d with
  | zero =>
    intro B b l v ws w hb hp hz h0 hpb hl
    obtain ⟨rfl, A, c, rfl⟩ := hp
    have HB := Lib.hid hb
    have HO : Hid (pText l.length [] = some []) := Lib.hid (by rw [pText])
    generalize pText l.length [] = r at *
    clear hb hz hpb hl
    go_enter Tryd.func11, Tryd.ntmps11
    go_wp2_with fail
    go_loopg [10] 0 (fun g x10 wr => x10 = .int .i64 0 ∧ wr = w)
    case atStart => exact ⟨rfl, rfl⟩
    case round =>
      obtain ⟨rfl, rfl⟩ := hrel
      go_wp2_with fail
      go_ret
      exact ⟨Wr.refl _ _ _, .inl ⟨[], HO.out, rfl, by rw [List.append_nil]; exact HB.out⟩⟩
  | succ d ih =>
    intro B b l v ws w hb hp hz h0 hpb hl
    obtain ⟨A, c, rfl, hll⟩ := PIn.shape hp
    obtain ⟨r, hr⟩ : ∃ r, pText l.length ws = r := ⟨_, rfl⟩
    rw [hr]
    have HRR := Lib.hid hr
    have HB := Lib.hid hb
    have HP := Lib.hid hp
    have HZ0 := Lib.hid hz
    have HPB := Lib.hid hpb
    have HNN := Lib.hid hl
    have HIH := Lib.hid ih
    obtain ⟨hBb, hbw⟩ := hb.lt
    clear hr hb hp hz hpb hl ih
    go_enter Tryd.func11, Tryd.ntmps11
    go_wp2_with fail
    go_loopg [10] ws.length (fun g x10 wr => ∃ (i : Nat) (li : Bs), g = ws.length - i ∧ x10 = .int .i64 i ∧ i ≤ ws.length ∧ Hid (BW B b li wr) ∧ Hid (Wr B b w wr) ∧ Hid (Sofar l ws li i))
    case atStart => exact ⟨0, l, rfl, rfl, Nat.zero_le _, HB, Lib.hid (Wr.refl _ _ _), Lib.hid (Sofar.start _ _)⟩
    case round =>
      obtain ⟨i, li, rfl, rfl, hi, HBI, HWI, HS⟩ := hrel
      clear HB
      by_cases hil : i < ws.length
      · have hv2 := HP.out.wr HWI.out
        obtain ⟨d0, b', off, c', hd, hvb, _, _, hat⟩ := PIn.opened hv2 (fun e => by rw [e] at hil; simp at hil)
        obtain rfl : d = d0 := by omega
        obtain ⟨wv, a0, a1, a2, a3, a4, ap⟩ := hat i hil
        have HD0 : Hid (ws.drop i = ws[i] :: ws.drop (i + 1)) := Lib.hid (List.drop_eq_getElem_cons hil)
        have HPBI := Lib.hid (PBd.at hil HPB.out)
        generalize ws[i] = p at *
        obtain ⟨k2, q2, t2, o2, w2⟩ := p
        have HD := HD0
        simp only [PT.kind, PT.quoted, PT.text, PT.op, PT.word] at a0 a1 a2 a3 ap HPBI
        obtain ⟨A2, n2, c2, rfl⟩ := PIn.form ap
        obtain ⟨ht48, ho48, HPW⟩ := HPBI.out
        have HPBW := Lib.hid HPW
        cases hvb
        have hbwr := HBI.out.lt.2
        have hbw' : b' < wr.heap.size := World.block_lt_of_cell? _ _ a0
        have HAP := Lib.hid ap
        have hlen := HS.out.len HD.out
        have HLEN0 := Lib.hid hlen
        clear hat hv2 ap HD0 HPBI HPW hd hlen
        go_wp2_with fail
        have hB0 : B ≤ wr.heap.size := by have := HBI.out.lt; omega
        refine wp_gen (fun W => BW B b li W ∧ Wr B b w W ∧ W.heap[wr.heap.size]? = some (.cells #[.int .i64 k2, .bool q2, .string (nm t2), .string (nm o2), .slice A2 n2 c2] 32 (0, 0)) ∧ PIn d W (fun k => k < B) (.slice A2 n2 c2) w2) ⟨HBI.out.alloc' _, HWI.out.alloc hB0 _, heap_alloc_new _ _, PIn.alloc2 HAP.out⟩ ?_
        clear HBI HWI HAP a0 a1 a2 a3 a4 hbw'
        generalize hbx : wr.heap.size = bx at *
        clear hbx
        rintro W ⟨g1, g2, g3, g4⟩
        have HBW := Lib.hid g1
        have HWR := Lib.hid g2
        have HX := Lib.hid g3
        have HAP := Lib.hid g4
        have hbxb : bx ≠ b := by omega
        have HLN : Hid (∀ k, Calls Tryd.prog 20 #[.pointer (some ⟨b, 0, none⟩)] (W.drewN k) fun e w' => e = .returned (.int .i64 (li.length : Nat)) ∧ ∃ m, w' = (W.drewN k).drewN m) := Lib.hid (fun k => by
          refine (blen_any B b (Lib.byteCells li) (W.drewN k) (bw_keep g1 (fun _ _ => rfl))).mono ?_
          rintro e w' ⟨rfl, rfl⟩
          exact ⟨ret_int (by rw [Lib.byteCells_length]), 0, rfl⟩)
        have x0 := cell_blk g3 0
        have x1 := cell_blk g3 1
        have x2 := cell_blk g3 2
        have x3 := cell_blk g3 3
        simp at x0 x1 x2 x3
        have hzx := fin_at g3
        have hln := HS.out.2
        have HSZ0 := Lib.hid (show li.length ≤ 200000 by have := HNN.out; omega)
        have hli := HSZ0.out
        clear g1 g2 g3 g4 hln
        obtain ⟨ts, hts⟩ : ∃ ts : Nat, ts = t2.length := ⟨_, rfl⟩
        obtain ⟨os, hos⟩ : ∃ os : Nat, os = o2.length := ⟨_, rfl⟩
        have f1 : (nm t2).size = ts := by rw [nm_size, hts]
        have f2 : (nm o2).size = os := by rw [nm_size, hos]
        obtain ⟨n, hn⟩ : ∃ n, n = li.length := ⟨_, rfl⟩
        rw [← hn] at HLN hli
        have hw1 : IntKind.i64.wrap ((n : Int) + (ts : Int)) = (n : Int) + (ts : Int) := IntWalk.i64_in _ (by omega)
        have hw2 : IntKind.i64.wrap ((n : Int) + (ts : Int) + (os : Int)) = (n : Int) + (ts : Int) + (os : Int) := IntWalk.i64_in _ (by omega)
        by_cases hbig : 8192 < li.length + t2.length + o2.length
        · have hbi : decide ((8192 : Int) < (n : Int) + (ts : Int) + (os : Int)) = true := decide_eq_true (by omega)
          have hbi' : (8192 : Int) < (n : Int) + (ts : Int) + (os : Int) := by omega
          have HR : Hid (r = none) := Lib.hid (by rw [← HRR.out]; exact HS.out.big HD.out hbig)
          have HLE : Hid (li.length ≤ l.length + (rText ws).length) := Lib.hid (by have := HLEN0.out; omega)
          clear hbig hts hos hn ht48 ho48
          go_quiet ((go_at_call 20; exact qd HLN.out))
          have HWR2 : Hid (Wr B b w (W.drewN nq)) := Lib.hid (HWR.out.trans ⟨below_drewN' (Below.refl _ _) nq, fun _ _ h _ _ => h⟩)
          have HBW2 : Hid (BW B b li (W.drewN nq)) := Lib.hid (bw_keep HBW.out (fun _ _ => rfl))
          generalize W.drewN nq = W2 at *
          go_wp2_with fail
          go_ret
          exact ⟨HWR2.out, .inr ⟨HR.out, rfl, _, HBW2.out, HLE.out⟩⟩
        · have HBG := Lib.hid hbig
          have hbi : decide ((8192 : Int) < (n : Int) + (ts : Int) + (os : Int)) = false := decide_eq_false (by omega)
          have hbi' : ¬ (8192 : Int) < (n : Int) + (ts : Int) + (os : Int) := by omega
          have HSZ := Lib.hid (show li.length ≤ 8192 by omega)
          have HPT : Hid (∀ w3, BW B b (li ++ markT q2 k2) w3 → PIn d w3 (fun k => k < B) (.slice A2 n2 c2) w2 → Z0 w3 → Calls Tryd.prog 22 #[.pointer (some ⟨b, 0, none⟩), .agg #[.int .i64 k2, .bool q2, .string (nm t2), .string (nm o2), .slice A2 n2 c2]] w3 (WPost B b (li ++ markT q2 k2) (l.length + (rText ws).length) w3 (pPart (li ++ markT q2 k2).length k2 q2 t2 o2 w2))) := Lib.hid (fun w3 h1 h2 h3 => wpart_any d HIH.out B b _ k2 q2 t2 o2 _ w2 w3 _ h1 h2 h3 h0 (by omega) (by omega) HPBW.out (by
            have := HLEN0.out; have := rText_mark k2 q2 t2 o2 w2; rw [List.length_append]; omega) (fun e ho => by
            subst e; have := HLEN0.out; have := rText_par q2 t2 o2 w2 ho; rw [List.length_append]; omega) HNN.out)
          clear hbig hts hos hn ht48 ho48
          go_quiet ((go_at_call 20; exact qd HLN.out))
          replace HWR : Hid (Wr B b w (W.drewN nq)) := Lib.hid (HWR.out.trans ⟨below_drewN' (Below.refl _ _) nq, fun _ _ h _ _ => h⟩)
          replace HBW : Hid (BW B b li (W.drewN nq)) := Lib.hid (bw_keep HBW.out (fun _ _ => rfl))
          replace HX : Hid ((W.drewN nq).heap[bx]? = _) := Lib.hid HX.out
          replace HAP : Hid (PIn d (W.drewN nq) (fun k => k < B) (.slice A2 n2 c2) w2) := Lib.hid (PIn.drewN HAP.out nq)
          clear x0 x1 x2 x3 hzx hw1 hw2 HLN
          generalize W.drewN nq = W2 at *
          have x0 := cell_blk HX.out 0
          have x1 := cell_blk HX.out 1
          simp at x0 x1
          have hzx := fin_at HX.out
          clear f1 f2
          cases q2 with
          | false =>
            have HMB : Hid ((⟨#[]⟩ : ByteArray).data.toList = markT false k2) := Lib.hid rfl
            have HMS : Hid ((⟨#[]⟩ : ByteArray).size ≤ 1) := Lib.hid (by decide)
            have HW := Lib.hid (bw_write (⟨#[]⟩ : ByteArray) HBW.out (by have := HSZ.out; have := HMS.out; omega))
            go_wp2_with fail
            refine HW.out.mono ?_
            rintro e w3 ⟨rfl, hb3, hw3⟩
            have hx3 := hw3.part HX.out hbxb
            have HX3 := Lib.hid hx3
            rw [HMB.out] at hb3
            have HB3 := Lib.hid hb3
            have HWR3 := Lib.hid (HWR.out.trans hw3)
            have HP3 := Lib.hid (HAP.out.wr hw3)
            have x0 := cell_blk hx3 0
            have x1 := cell_blk hx3 1
            have x2 := cell_blk hx3 2
            have x3 := cell_blk hx3 3
            have x4 := cell_blk hx3 4
            simp at x0 x1 x2 x3 x4
            have hzx3 := fin_at hx3
            clear hb3 hw3 hx3 HW HX HAP HWR HBW
            go_wp2_with fail
            refine (HPT.out w3 HB3.out HP3.out (HZ0.out.below HWR3.out.below h0)).mono ?_
            rintro e w4 ⟨hw4, hc⟩
            have HWR4 := Lib.hid (HWR3.out.trans hw4)
            clear hw4 HPT HB3 HP3 HWR3 HX3 x0 x1 x2 x3 x4 hzx3
            rcases hc with ⟨x, hx, rfl, hb4⟩ | ⟨hx, rfl, l2, hb4, hl2⟩
            · have hstep := HS.out.step HD.out HBG.out hx
              have HLX := Lib.hid (pPart_len hx)
              have hle := HS.out.len HD.out
              have HST := Lib.hid hstep
              have HW5 := Lib.hid (bw_write (⟨#[]⟩ : ByteArray) hb4 (by
                have h1 := HLX.out
                have h2 := HMS.out
                have h3 := HNN.out
                simp only [List.length_append] at h1 ⊢
                omega))
              clear hstep hx hb4 hle
              go_wp2_with fail
              refine HW5.out.mono ?_
              rintro e w5 ⟨rfl, hb5, hw5⟩
              rw [HMB.out] at hb5
              have HB5 := Lib.hid hb5
              have HW6 := Lib.hid (HWR4.out.trans hw5)
              clear hb5 hw5 HW5 HWR4
              go_wp2_with fail
              go_roundg (ws.length - (i + 1))
              case rel => exact ⟨i + 1, _, rfl, by go_num, by omega, HB5, HW6, HST⟩
              case measure => omega
            · have HR : Hid (r = none) := Lib.hid (by rw [← HRR.out]; exact HS.out.bad HD.out hx)
              have HB4 := Lib.hid hb4
              have HL4 := Lib.hid hl2
              clear hx hb4 hl2
              go_wp2_with fail
              go_ret
              exact ⟨HWR4.out, .inr ⟨HR.out, rfl, l2, HB4.out, HL4.out⟩⟩
          | true =>
            by_cases k1 : k2 = 1
            · subst k1
              have HMB : Hid ((⟨#[]⟩ : ByteArray).data.toList = markT true 1) := Lib.hid rfl
              have HMS : Hid ((⟨#[]⟩ : ByteArray).size ≤ 1) := Lib.hid (by decide)
              have HW := Lib.hid (bw_write (⟨#[]⟩ : ByteArray) HBW.out (by have := HSZ.out; have := HMS.out; omega))
              go_wp2_with fail
              refine HW.out.mono ?_
              rintro e w3 ⟨rfl, hb3, hw3⟩
              have hx3 := hw3.part HX.out hbxb
              have HX3 := Lib.hid hx3
              rw [HMB.out] at hb3
              have HB3 := Lib.hid hb3
              have HWR3 := Lib.hid (HWR.out.trans hw3)
              have HP3 := Lib.hid (HAP.out.wr hw3)
              have x0 := cell_blk hx3 0
              have x1 := cell_blk hx3 1
              have x2 := cell_blk hx3 2
              have x3 := cell_blk hx3 3
              have x4 := cell_blk hx3 4
              simp at x0 x1 x2 x3 x4
              have hzx3 := fin_at hx3
              clear hb3 hw3 hx3 HW HX HAP HWR HBW
              go_wp2_with fail
              refine (HPT.out w3 HB3.out HP3.out (HZ0.out.below HWR3.out.below h0)).mono ?_
              rintro e w4 ⟨hw4, hc⟩
              have HWR4 := Lib.hid (HWR3.out.trans hw4)
              clear hw4 HPT HB3 HP3 HWR3 HX3 x0 x1 x2 x3 x4 hzx3
              rcases hc with ⟨x, hx, rfl, hb4⟩ | ⟨hx, rfl, l2, hb4, hl2⟩
              · have hstep := HS.out.step HD.out HBG.out hx
                have HLX := Lib.hid (pPart_len hx)
                have hle := HS.out.len HD.out
                have HST := Lib.hid hstep
                have HW5 := Lib.hid (bw_write (⟨#[]⟩ : ByteArray) hb4 (by
                  have h1 := HLX.out
                  have h2 := HMS.out
                  have h3 := HNN.out
                  simp only [List.length_append] at h1 ⊢
                  omega))
                clear hstep hx hb4 hle
                go_wp2_with fail
                refine HW5.out.mono ?_
                rintro e w5 ⟨rfl, hb5, hw5⟩
                rw [HMB.out] at hb5
                have HB5 := Lib.hid hb5
                have HW6 := Lib.hid (HWR4.out.trans hw5)
                clear hb5 hw5 HW5 HWR4
                go_wp2_with fail
                go_roundg (ws.length - (i + 1))
                case rel => exact ⟨i + 1, _, rfl, by go_num, by omega, HB5, HW6, HST⟩
                case measure => omega
              · have HR : Hid (r = none) := Lib.hid (by rw [← HRR.out]; exact HS.out.bad HD.out hx)
                have HB4 := Lib.hid hb4
                have HL4 := Lib.hid hl2
                clear hx hb4 hl2
                go_wp2_with fail
                go_ret
                exact ⟨HWR4.out, .inr ⟨HR.out, rfl, l2, HB4.out, HL4.out⟩⟩
            · have HMB : Hid ((⟨#[34]⟩ : ByteArray).data.toList = markT true k2) := Lib.hid (by unfold markT; simp [k1])
              have HMS : Hid ((⟨#[34]⟩ : ByteArray).size ≤ 1) := Lib.hid (by decide)
              have b1 : (k2 != 1) = true := by simpa using k1
              clear k1
              have HW := Lib.hid (bw_write (⟨#[34]⟩ : ByteArray) HBW.out (by have := HSZ.out; have := HMS.out; omega))
              go_wp2_with fail
              refine HW.out.mono ?_
              rintro e w3 ⟨rfl, hb3, hw3⟩
              have hx3 := hw3.part HX.out hbxb
              have HX3 := Lib.hid hx3
              rw [HMB.out] at hb3
              have HB3 := Lib.hid hb3
              have HWR3 := Lib.hid (HWR.out.trans hw3)
              have HP3 := Lib.hid (HAP.out.wr hw3)
              have x0 := cell_blk hx3 0
              have x1 := cell_blk hx3 1
              have x2 := cell_blk hx3 2
              have x3 := cell_blk hx3 3
              have x4 := cell_blk hx3 4
              simp at x0 x1 x2 x3 x4
              have hzx3 := fin_at hx3
              clear hb3 hw3 hx3 HW HX HAP HWR HBW
              go_wp2_with fail
              refine (HPT.out w3 HB3.out HP3.out (HZ0.out.below HWR3.out.below h0)).mono ?_
              rintro e w4 ⟨hw4, hc⟩
              have HWR4 := Lib.hid (HWR3.out.trans hw4)
              clear hw4 HPT HB3 HP3 HWR3 HX3 x0 x1 x2 x3 x4 hzx3
              rcases hc with ⟨x, hx, rfl, hb4⟩ | ⟨hx, rfl, l2, hb4, hl2⟩
              · have hstep := HS.out.step HD.out HBG.out hx
                have HLX := Lib.hid (pPart_len hx)
                have hle := HS.out.len HD.out
                have HST := Lib.hid hstep
                have HW5 := Lib.hid (bw_write (⟨#[34]⟩ : ByteArray) hb4 (by
                  have h1 := HLX.out
                  have h2 := HMS.out
                  have h3 := HNN.out
                  simp only [List.length_append] at h1 ⊢
                  omega))
                clear hstep hx hb4 hle
                go_wp2_with fail
                refine HW5.out.mono ?_
                rintro e w5 ⟨rfl, hb5, hw5⟩
                rw [HMB.out] at hb5
                have HB5 := Lib.hid hb5
                have HW6 := Lib.hid (HWR4.out.trans hw5)
                clear hb5 hw5 HW5 HWR4
                go_wp2_with fail
                go_roundg (ws.length - (i + 1))
                case rel => exact ⟨i + 1, _, rfl, by go_num, by omega, HB5, HW6, HST⟩
                case measure => omega
              · have HR : Hid (r = none) := Lib.hid (by rw [← HRR.out]; exact HS.out.bad HD.out hx)
                have HB4 := Lib.hid hb4
                have HL4 := Lib.hid hl2
                clear hx hb4 hl2
                go_wp2_with fail
                go_ret
                exact ⟨HWR4.out, .inr ⟨HR.out, rfl, l2, HB4.out, HL4.out⟩⟩
      · have hin : ws.length ≤ i := by omega
        obtain ⟨z, hz1, hz2⟩ := HS.out.end hin
        have HO : Hid (r = some z) := Lib.hid (by rw [← HRR.out]; exact hz1)
        have HBE : Hid (BW B b (l ++ z) wr) := Lib.hid (by rw [← hz2]; exact HBI.out)
        clear hz1 hz2
        go_wp2_with fail
        go_ret
        exact ⟨HWI.out, .inl ⟨z, HO.out, rfl, HBE.out⟩⟩
end Go.Proofs.YtkbhjjmgacahdaaDoor.Wd

/- DERIVED. The walk over the program's Print; it is the document's. -/
namespace Go.Proofs.YtkbhjjmgacahdaaDoor.Wd
open Go.RowKit
open PathM WdM
set_option linter.unusedVariables false

/-- The program's Print. -/
def pPrint (l : List PT) : Option Bs := match pText 0 l with
  | none => none
  | some s => if 8192 < s.length then none else match scan s with
    | .bad _ _ => none
    | .ok L r => if r = [] ∧ sameL L l = true then some s else none
theorem print_eq (l : List PT) : pPrint l = rPrint l := by
  unfold pPrint rPrint
  cases hp : pText 0 l with
  | none =>
    have hw := leaves_off hp
    by_cases h8 : 8192 < (rText l).length
    · rw [if_pos h8]
    · rw [if_neg h8]
      have hs := scan_same (rText l)
      cases hr : rScan (rText l) with
      | none => rfl
      | some x =>
        obtain ⟨L, r⟩ := x
        rw [hr] at hs
        have hs : scan (rText l) = .ok L r := hs
        show none = if r = [] ∧ sameL L l = true then some (rText l) else none
        by_cases hc : r = [] ∧ sameL L l = true
        · exfalso
          have e := sameL_eq _ _ hc.2
          rw [e, hc.1] at hs
          exact hw ⟨by omega, hs⟩
        · rw [if_neg hc]
  | some s =>
    have e := pText_text _ _ _ hp
    subst e
    show (if 8192 < (rText l).length then none else _) = _
    by_cases h8 : 8192 < (rText l).length
    · rw [if_pos h8, if_pos h8]
    · rw [if_neg h8, if_neg h8]
      have hs := scan_same (rText l)
      cases hr : rScan (rText l) with
      | none =>
        rw [hr] at hs
        obtain ⟨a, e, hs⟩ := hs
        rw [hs]
      | some x =>
        obtain ⟨L, r⟩ := x
        rw [hr] at hs
        have hs : scan (rText l) = .ok L r := hs
        rw [hs]
set_option maxRecDepth 100000 in
set_option maxHeartbeats 3200000 in
theorem pprint_any (d : Nat) (v : Value) (l : List PT) (w : World) (hv : PA d w v l) (hz : Z0 w) (h0 : 0 < w.heap.size) (hpb : PBd l) (hl : (rText l).length ≤ 100000) :
    Calls Tryd.prog 6 #[v] w fun e w' => e = .returned (prV (pPrint l)) ∧ Below w.heap.size w w' := by
  obtain ⟨A, c, rfl, _⟩ := PIn.shape hv
  obtain ⟨m, hm⟩ : ∃ m, pPrint l = m := ⟨_, rfl⟩
  rw [hm]
  unfold pPrint at hm
  have hb1 : Below w.heap.size w (w.alloc (.cells #[.pointer none, .slice none 0 0] 38)) := (Below.refl _ _).alloc (Nat.le_refl _) _
  have hbw : BW w.heap.size w.heap.size [] (w.alloc (.cells #[.pointer none, .slice none 0 0] 38)) := Lib.IsBuilderF.of (Lib.fresh_isBuilder _ _ w)
  have hp1 : PIn d (w.alloc (.cells #[.pointer none, .slice none 0 0] 38)) (fun k => k < w.heap.size) (.slice A l.length c) l := PIn.alloc2 (PIn.mono (fun k hk _ => hk) _ _ _ hv)
  have HWT := Lib.hid (write_any d w.heap.size w.heap.size [] (.slice A l.length c) l _ hbw hp1 (hz.below hb1 h0) h0 hpb (by simp; omega))
  have HV := Lib.hid (PIn.mono (fun k hk _ => hk) _ _ _ hv : PIn d w (fun k => k < w.heap.size) (.slice A l.length c) l)
  have HB1 := Lib.hid hb1
  have e0 : ([] : Bs).length = 0 := rfl
  rw [e0] at HWT
  obtain ⟨p, hpt⟩ : ∃ p, pText 0 l = p := ⟨_, rfl⟩
  rw [hpt] at hm HWT
  have HM := Lib.hid hm
  have HLN : Hid (∀ z, p = some z → z.length ≤ 100000) := Lib.hid (fun z hz => by
    rw [hz] at hpt
    rw [pText_text _ _ _ hpt]
    exact hl)
  clear hv hz hpb hl hbw hp1 hb1 e0 hm hpt
  generalize hln : l.length = n at *
  clear hln
  go_enter Tryd.func6, Tryd.ntmps6
  go_wp2_with fail
  refine HWT.out.mono ?_
  rintro e w2 ⟨hw2, hc⟩
  have HB2 := Lib.hid (HB1.out.trans hw2.below)
  clear hw2 HWT HB1
  rcases hc with ⟨z, hz1, rfl, hb3⟩ | ⟨hz1, rfl, l2, hb3, hl2⟩
  · have hz8 := HLN.out z hz1
    have HM2 : Hid ((if 8192 < z.length then none else match scan z with
      | .bad _ _ => none
      | .ok L r => if r = [] ∧ sameL L l = true then some z else none) = m) := Lib.hid (by rw [← HM.out, hz1])
    have HST := Lib.hid (bstring_any w.heap.size w.heap.size z w2 (by rw [List.nil_append] at hb3; exact hb3) HB2.out.size)
    have e1 : (⟨z.toArray⟩ : ByteArray) = nm z := rfl
    rw [e1] at HST
    obtain ⟨s, hs⟩ : ∃ s, nm z = s := ⟨_, rfl⟩
    rw [hs] at HST
    have hzs : z = s.data.toList := by rw [← hs, nm_data]
    have hsz : s.size = z.length := by rw [← hs, nm_size]
    rw [hzs, ← sizeD] at HM2
    have hs8 : s.size ≤ 100000 := by omega
    clear hz1 hb3 hz8 HM HLN e1 hs hzs hsz
    go_wp2_with fail
    refine HST.out.mono ?_
    rintro e w3 ⟨rfl, _, hb3, _⟩
    have HB3 := Lib.hid (HB2.out.trans hb3)
    clear hb3 HST HB2
    by_cases h8 : 8192 < s.size
    · have HN : Hid (m = none) := Lib.hid (by rw [← HM2.out, if_pos h8])
      have HSC := Lib.hid (scan_long s 0 w3 (Nat.zero_le _) h8 (by unfold maxLen; omega))
      clear h8 HM2 hs8
      go_wp2_with fail
      refine HSC.out.mono ?_
      rintro e w4 ⟨rfl, hb4⟩
      have HB4 := Lib.hid (HB3.out.trans (hb4.mono HB3.out.size))
      clear hb4 HSC HB3
      go_wp2_with fail
      go_ret2
      rw [HN.out]
      exact ⟨rfl, HB4.out⟩
    · have HSC := Lib.hid (scan_any s 0 w3 (Nat.zero_le _) (by omega))
      have HM3 : Hid ((match scan s.data.toList with
        | .bad _ _ => none
        | .ok L r => if r = [] ∧ sameL L l = true then some s.data.toList else none) = m) := Lib.hid (by rw [← HM2.out, if_neg h8])
      clear h8 HM2
      go_wp2_with fail
      refine HSC.out.mono ?_
      rintro e w4 ⟨hb4, v4, l4, n4, er, rfl, hv4, _, hn4, hh⟩
      obtain ⟨A4, c4, rfl, _⟩ := PIn.shape hv4
      have HB4 := Lib.hid (HB3.out.trans (hb4.mono HB3.out.size))
      have HV4 := Lib.hid hv4
      clear hb4 hv4 HSC HB3
      rcases hh with ⟨rfl, hsc, _⟩ | ⟨hsc, _⟩
      · have hsc : scan s.data.toList = .ok l4 (s.data.toList.drop n4) := hsc
        by_cases hn : n4 = s.size
        · subst hn
          have hdr : s.data.toList.drop s.size = [] := List.drop_of_length_le (by rw [← sizeD]; omega)
          obtain ⟨b, hb⟩ : ∃ b, sameL l4 l = b := ⟨_, rfl⟩
          have hsm := same_any 17 d _ _ l4 l w4 _ _ HV4.out (PIn.keep (fun k hk => HB4.out.block k hk) _ _ _ HV.out)
          rw [hb] at hsm
          have HSM : Hid (Calls Tryd.prog 8 #[.slice A4 l4.length c4, .slice A n c] w4 fun e w' => e = .returned (.bool b) ∧ Below w4.heap.size w4 w') := Lib.hid hsm
          have HME : Hid ((if b = true then some s.data.toList else none) = m) := Lib.hid (by rw [← HM3.out, hsc, hdr]; simp [hb])
          have HSS : Hid (nm s.data.toList = s) := Lib.hid (nm_of s)
          clear hb hsm hsc hdr HM3 HV4
          generalize l4.length = n3 at *
          cases b with
          | true =>
            have HF : Hid (some s.data.toList = m) := Lib.hid (by rw [← HME.out]; rfl)
            clear HME
            go_wp2_with fail
            refine HSM.out.mono ?_
            rintro e w9 ⟨rfl, hb9⟩
            have HB9 := Lib.hid (HB4.out.trans (hb9.mono HB4.out.size))
            clear hb9
            go_wp2
            go_ret2
            rw [← HF.out]
            refine ⟨?_, HB9.out⟩
            show _ = Ending.returned (.tuple #[.string (nm s.data.toList), .int .i64 0])
            rw [HSS.out]
            rfl
          | false =>
            have HF : Hid (none = m) := Lib.hid (by rw [← HME.out]; rfl)
            clear HME
            go_wp2_with fail
            refine HSM.out.mono ?_
            rintro e w9 ⟨rfl, hb9⟩
            have HB9 := Lib.hid (HB4.out.trans (hb9.mono HB4.out.size))
            clear hb9
            go_wp2
            go_ret2
            rw [← HF.out]
            exact ⟨rfl, HB9.out⟩
        · have HF : Hid (none = m) := Lib.hid (by
            rw [← HM3.out, hsc]
            have hne : ¬ s.data.toList.drop n4 = [] := fun e => by
              have := congrArg List.length e
              rw [List.length_drop, ← sizeD] at this
              simp at this
              omega
            simp [hne])
          have q1 : ((n4 : Int) != (s.size : Int)) = true := by simp; omega
          clear hsc HM3 hn HV4
          generalize l4.length = n3 at *
          go_wp2_with fail
          go_ret2
          rw [← HF.out]
          exact ⟨rfl, HB4.out⟩
      · have hsc : scan s.data.toList = .bad (s.size - n4) er := hsc
        have her := (scan_err hsc)
        have HF : Hid (none = m) := Lib.hid (by rw [← HM3.out, hsc])
        have q1 : (er != 0) = true := by
          simp
          omega
        clear hsc HM3 her HV4
        generalize l4.length = n3 at *
        go_wp2_with fail
        go_ret2
        rw [← HF.out]
        exact ⟨rfl, HB4.out⟩
  · have HF : Hid (none = m) := Lib.hid (by rw [← HM.out, hz1])
    clear hz1 hb3 hl2 HM HLN
    go_wp2_with fail
    go_ret2
    rw [← HF.out]
    exact ⟨rfl, HB2.out⟩
end Go.Proofs.YtkbhjjmgacahdaaDoor.Wd
