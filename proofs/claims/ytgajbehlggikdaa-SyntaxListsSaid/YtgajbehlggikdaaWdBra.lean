/- DERIVED. The walk over the reader's braces, where parts are walked at what is left of depth. -/
import Derived.Test.YtgajbehlggikdaaWdSing
namespace Go.Proofs.Ytgajbehlggikdaa.Wd
open Go.RowKit
open PathM WdM
set_option linter.unusedVariables false

/-- Parts in blocks from z on. -/
def PNew (n z : Nat) (W : World) (v : Value) (l : List PT) : Prop := PIn n W (fun b => z ≤ b ∧ PTy W b) v l
theorem PNew.kept {n z : Nat} {W W' : World} {v : Value} {l : List PT} {S : Nat → Prop} (h : PNew n z W v l) (hk : Kept S W W') (hs : ∀ k, S k → k < z) : PNew n z W' v l := by
  have hb : ∀ k, (z ≤ k ∧ PTy W k) → W'.heap[k]? = W.heap[k]? := fun k hk2 => by
    obtain ⟨cs, fr, h2⟩ := hk2.2
    exact hk.block k (fin_at h2) (fun e => by have := hs k e; omega)
  exact PIn.mono (fun k _ hk2 => ⟨hk2.1, hk2.2.at (hb k hk2)⟩) n _ _ (PIn.keep hb n _ _ h)
theorem PNew.le {n z z' : Nat} {W : World} {v : Value} {l : List PT} (h : PNew n z W v l) (hz : z' ≤ z) : PNew n z' W v l :=
  PIn.mono (fun k _ hk => ⟨Nat.le_trans hz hk.1, hk.2⟩) n _ _ h
theorem PNew.nil (n z : Nat) (W : World) : PNew n z W (.slice none 0 0) [] := PIn.nil _ _ _ _ _
theorem PNew.form {n z : Nat} {W : World} {v : Value} {l : List PT} (h : PNew n z W v l) : ∃ A k c, v = .slice A k c := PIn.form h
/-- How reading parts ends. -/
def PartsPost (n rb : Nat) (s : ByteArray) (i d : Nat) (ends : UInt8 → Bool) (w : World) (r : Rs (List PT)) (e : Ending) (w' : World) : Prop :=
  Ends s i r (fun l k e w' => (k = s.size ∨ ∃ h : k < s.size, ends s[k] = true) ∧ ∃ v, e = .returned v ∧ PNew (n + 1) w.heap.size w' v l ∧ RdIn w' rb s k d ∧ Kept (· = rb) w w') (fun w' => Kept (· = rb) w w') e w'
def PartsOk (n : Nat) : Prop := ∀ (F : Nat) (ends : UInt8 → Bool), Asks F ends → ∀ (rb : Nat) (s : ByteArray) (i d : Nat) (qd : Bool) (w : World), RdIn w rb s i d → i ≤ s.size → s.size ≤ 8192 → d + n = 16 →
  Calls Try.prog 38 #[.pointer (some ⟨rb, 0, none⟩), .bool qd, .func (.func F) #[] #[]] w (PartsPost n rb s i d ends w (partsR (recN n) ends qd (s.data.toList.drop i)))
/-- How reading braces ends. -/
def BPost (n rb : Nat) (s : ByteArray) (i f d : Nat) (w : World) (r : Rs PT) (e : Ending) (w' : World) : Prop :=
  Ends s f r (fun p k e w' => i ≤ k ∧ ∃ v, e = .returned (ptV p v) ∧ PNew n w.heap.size w' v p.word ∧ RdIn w' rb s k d ∧ Kept (· = rb) w w') (fun w' => Kept (· = rb) w w') e w'
theorem calls_gen {P : Program} {f : FuncId} {args : Array Value} {W : World} {R : Ending → World → Prop} (Q : World → Prop) (hQ : Q W) (h : ∀ W', Q W' → Calls P f args W' R) : Calls P f args W R := h W hQ
theorem rd_open {w : World} {rb : Nat} {s : ByteArray} {i d : Nat} (h : RdIn w rb s i d) : (w.cell? ⟨rb, 0, none⟩ = some (.string s) ∧ w.cell? ⟨rb, 1, none⟩ = some (.int .i64 i) ∧ w.cell? ⟨rb, 2, none⟩ = some (.int .i64 d)) ∧ (w.frozen? ⟨rb, 1, none⟩ = false ∧ w.frozen? ⟨rb, 2, none⟩ = false) ∧ rb < w.heap.size :=
  ⟨⟨rd_s h, rd_at h, rd_d h⟩, ⟨rd_fz h 1, rd_fz h 2⟩, rd_lt h⟩

theorem braces_zero (rb : Nat) (s : ByteArray) (i f d : Nat) (qd : Bool) (w : World) (h : RdIn w rb s i d) (hf : f ≤ i) (hi : i ≤ s.size) (hd : d = 16) :
    Calls Try.prog 78 #[.pointer (some ⟨rb, 0, none⟩), .int .i64 f, .bool qd] w (BPost 0 rb s i f d w (braces (recN 0) (s.size - f) qd (s.data.toList.drop i))) := by
  obtain ⟨⟨r0, r1, r2⟩, ⟨f1, f2⟩, hz⟩ := rd_open h
  have hm : braces (recN 0) (s.size - f) qd (s.data.toList.drop i) = .bad (s.size - f) 63 := rfl
  rw [hm]
  subst hd
  clear hm h
  go_enter Try.func78, Try.ntmps78
  go_wp2_with fail
  exact ⟨rfl, .inr ⟨f, 63, rfl, Nat.le_refl _, by omega, rfl, kept_alloc _ _⟩⟩
/-- The braces' reader and boxes. -/
structure BSt (rb : Nat) (s : ByteArray) (w W : World) (k d : Nat) (tx op : ByteArray) (v : Value) : Prop where
  rd : RdIn W rb s k d
  b6 : W.heap[w.heap.size]? = some (.cells #[.int .i64 0, .bool false, .string ⟨#[]⟩, .string ⟨#[]⟩, .slice none 0 0] 64 (0, 0))
  b7 : W.heap[w.heap.size + 1]? = some (.cells #[.int .i64 2, .bool false, .string tx, .string op, v] 64 (0, 0))
  kept : Kept (· = rb) w W
section
variable {rb : Nat} {s : ByteArray} {w W W' : World} {k k' d d' : Nat} {tx op : ByteArray} {v : Value}
theorem BSt.step (h : BSt rb s w W k d tx op v) (hlt : rb < w.heap.size) (hk : Kept (· = rb) W W') (hr : RdIn W' rb s k' d') : BSt rb s w W' k' d' tx op v :=
  ⟨hr, hk.at h.b6 (by omega), hk.at h.b7 (by omega), h.kept.trans hk⟩
theorem BSt.drewN (h : BSt rb s w W k d tx op v) (hlt : rb < w.heap.size) (n : Nat) : BSt rb s w (W.drewN n) k d tx op v := h.step hlt (Kept.drewN n) (rd_drewN h.rd n)
theorem BSt.setAt (h : BSt rb s w W k d tx op v) (hlt : rb < w.heap.size) (n : Nat) : BSt rb s w (W.setCell ⟨rb, 1, none⟩ (.int .i64 n)) n d tx op v := h.step hlt (Kept.setCell _ _ rfl) (at_set h.rd n)
theorem BSt.setDeep (h : BSt rb s w W k d tx op v) (hlt : rb < w.heap.size) (n : Nat) : BSt rb s w (W.setCell ⟨rb, 2, none⟩ (.int .i64 n)) k n tx op v := by
  refine h.step hlt (Kept.setCell _ _ rfl) ?_
  have := h.rd
  unfold RdIn at this ⊢
  simpa using set_blk (j := 2) this (.int .i64 (n : Int))
theorem BSt.set7 (h : BSt rb s w W k d tx op v) (hlt : rb < w.heap.size) (j : Nat) (u : Value) : RdIn (W.setCell ⟨w.heap.size + 1, j, none⟩ u) rb s k d ∧ (W.setCell ⟨w.heap.size + 1, j, none⟩ u).heap[w.heap.size]? = some (.cells #[.int .i64 0, .bool false, .string ⟨#[]⟩, .string ⟨#[]⟩, .slice none 0 0] 64 (0, 0)) ∧ Kept (· = rb) w (W.setCell ⟨w.heap.size + 1, j, none⟩ u) :=
  ⟨set_far h.rd (by omega) u, set_far h.b6 (by omega) u, h.kept.then (Kept.setCell (S := (· = w.heap.size + 1)) ⟨w.heap.size + 1, j, none⟩ u rfl) (fun i hi e => by omega)⟩
theorem BSt.setTx (h : BSt rb s w W k d tx op v) (hlt : rb < w.heap.size) (tx' : ByteArray) : BSt rb s w (W.setCell ⟨w.heap.size + 1, 2, none⟩ (.string tx')) k d tx' op v := by
  obtain ⟨h1, h2, h3⟩ := h.set7 hlt 2 (.string tx')
  exact ⟨h1, h2, by simpa using set_blk (j := 2) h.b7 (.string tx'), h3⟩
theorem BSt.setOp (h : BSt rb s w W k d tx op v) (hlt : rb < w.heap.size) (op' : ByteArray) : BSt rb s w (W.setCell ⟨w.heap.size + 1, 3, none⟩ (.string op')) k d tx op' v := by
  obtain ⟨h1, h2, h3⟩ := h.set7 hlt 3 (.string op')
  exact ⟨h1, h2, by simpa using set_blk (j := 3) h.b7 (.string op'), h3⟩
theorem BSt.setV (h : BSt rb s w W k d tx op v) (hlt : rb < w.heap.size) (v' : Value) : BSt rb s w (W.setCell ⟨w.heap.size + 1, 4, none⟩ v') k d tx op v' := by
  obtain ⟨h1, h2, h3⟩ := h.set7 hlt 4 v'
  exact ⟨h1, h2, by simpa using set_blk (j := 4) h.b7 v', h3⟩
theorem BSt.all (h : BSt rb s w W k d tx op v) : ((W.cell? ⟨rb, 0, none⟩ = some (.string s) ∧ W.cell? ⟨rb, 1, none⟩ = some (.int .i64 k) ∧ W.cell? ⟨rb, 2, none⟩ = some (.int .i64 d)) ∧ (W.frozen? ⟨rb, 1, none⟩ = false ∧ W.frozen? ⟨rb, 2, none⟩ = false) ∧ rb < W.heap.size) ∧
    (W.cell? ⟨w.heap.size + 1, 0, none⟩ = some (.int .i64 2) ∧ W.cell? ⟨w.heap.size + 1, 1, none⟩ = some (.bool false) ∧ W.cell? ⟨w.heap.size + 1, 2, none⟩ = some (.string tx) ∧ W.cell? ⟨w.heap.size + 1, 3, none⟩ = some (.string op) ∧ W.cell? ⟨w.heap.size + 1, 4, none⟩ = some v) ∧
    (W.frozen? ⟨w.heap.size + 1, 2, none⟩ = false ∧ W.frozen? ⟨w.heap.size + 1, 3, none⟩ = false ∧ W.frozen? ⟨w.heap.size + 1, 4, none⟩ = false) ∧ w.heap.size + 1 < W.heap.size :=
  ⟨rd_open h.rd, ⟨cell_blk h.b7 0, cell_blk h.b7 1, cell_blk h.b7 2, cell_blk h.b7 3, cell_blk h.b7 4⟩, ⟨froz_blk h.b7 2, froz_blk h.b7 3, froz_blk h.b7 4⟩, fin_at h.b7⟩
theorem BSt.six (h : BSt rb s w W k d tx op v) : (W.cell? ⟨w.heap.size, 0, none⟩ = some (.int .i64 0) ∧ W.cell? ⟨w.heap.size, 1, none⟩ = some (.bool false) ∧ W.cell? ⟨w.heap.size, 2, none⟩ = some (.string ⟨#[]⟩) ∧ W.cell? ⟨w.heap.size, 3, none⟩ = some (.string ⟨#[]⟩) ∧ W.cell? ⟨w.heap.size, 4, none⟩ = some (.slice none 0 0)) ∧
    (W.frozen? ⟨w.heap.size, 0, none⟩ = false ∧ W.frozen? ⟨w.heap.size, 1, none⟩ = false ∧ W.frozen? ⟨w.heap.size, 2, none⟩ = false ∧ W.frozen? ⟨w.heap.size, 3, none⟩ = false ∧ W.frozen? ⟨w.heap.size, 4, none⟩ = false) :=
  ⟨⟨cell_blk h.b6 0, cell_blk h.b6 1, cell_blk h.b6 2, cell_blk h.b6 3, cell_blk h.b6 4⟩, froz_blk h.b6 0, froz_blk h.b6 1, froz_blk h.b6 2, froz_blk h.b6 3, froz_blk h.b6 4⟩
end
theorem opOf_le (l : Bs) : (opOf l).length ≤ l.length := by
  unfold opOf
  cases h : ops.find? fun o => stands o l with
  | none => simp
  | some o => exact stands_len (by have := List.find?_some h; simpa using this)
theorem fin_nil (fl : Nat) (p : PT) : finish fl p [] = .bad fl 60 := rfl
theorem fin_yes (fl : Nat) (p : PT) (l : Bs) (h : stands [125] l = true) : finish fl p l = .ok p (l.drop 1) := by
  obtain ⟨t, rfl⟩ := stands_head h
  rfl
theorem fin_no (fl : Nat) (p : PT) (l : Bs) (h : stands [125] l = false) (hne : 0 < l.length) : finish fl p l = .bad l.length 61 := by
  cases l with
  | nil => simp at hne
  | cons c t =>
    have : c ≠ 125 := fun e => by rw [e] at h; simp [stands] at h
    unfold finish
    simp only [if_neg this, List.length_cons]
section
variable {parts : Bool → Bs → Rs (List PT)} {fl : Nat} {qd : Bool} {l : Bs}
theorem bra_len_bad {a : Nat} {e : Int} (hL : lengthStands l = true) (hp : param (l.drop 1) = .bad a e) : braces (some parts) fl qd l = .bad a e := by
  unfold braces; simp only [hL, if_true, hp]
theorem bra_len_ok {tx t : Bs} (hL : lengthStands l = true) (hp : param (l.drop 1) = .ok tx t) : braces (some parts) fl qd l = finish fl (.mk 2 false tx [108, 101, 110] []) t := by
  unfold braces; simp only [hL, if_true, hp]
theorem bra_bad {a : Nat} {e : Int} (hL : lengthStands l = false) (hp : param l = .bad a e) : braces (some parts) fl qd l = .bad a e := by
  unfold braces; simp only [hL, Bool.false_eq_true, if_false, hp]
theorem bra_plain {tx t : Bs} (hL : lengthStands l = false) (hp : param l = .ok tx t) (ho : opOf t = []) : braces (some parts) fl qd l = finish fl (.mk 2 false tx [] []) t := by
  unfold braces; simp only [hL, Bool.false_eq_true, if_false, hp, ho, if_true]
theorem bra_op_bad {tx t : Bs} {a : Nat} {e : Int} (hL : lengthStands l = false) (hp : param l = .ok tx t) (ho : ¬ opOf t = []) (hq : parts qd (t.drop (opOf t).length) = .bad a e) : braces (some parts) fl qd l = .bad a e := by
  unfold braces; simp only [hL, Bool.false_eq_true, if_false, hp, ho, hq]
theorem bra_op {tx t t2 : Bs} {wd : List PT} (hL : lengthStands l = false) (hp : param l = .ok tx t) (ho : ¬ opOf t = []) (hq : parts qd (t.drop (opOf t).length) = .ok wd t2) : braces (some parts) fl qd l = finish fl (.mk 2 false tx (opOf t) wd) t2 := by
  unfold braces; simp only [hL, Bool.false_eq_true, if_false, hp, ho, hq]
end
set_option maxRecDepth 100000 in
set_option maxHeartbeats 3200000 in
theorem braces_succ (m : Nat) (IH : PartsOk m) (rb : Nat) (s : ByteArray) (i f d : Nat) (qd : Bool) (w : World) (h : RdIn w rb s i d) (hf : f ≤ i) (hi : i ≤ s.size) (hs : s.size ≤ 8192) (hd : d + (m + 1) = 16) :
    Calls Try.prog 78 #[.pointer (some ⟨rb, 0, none⟩), .int .i64 f, .bool qd] w (BPost (m + 1) rb s i f d w (braces (recN (m + 1)) (s.size - f) qd (s.data.toList.drop i))) := by
  obtain ⟨r, hr⟩ : ∃ r, braces (recN (m + 1)) (s.size - f) qd (s.data.toList.drop i) = r := ⟨_, rfl⟩
  rw [hr]
  have hlt := rd_lt h
  have HRD := Lib.hid h
  have HIH := Lib.hid IH
  have HHD := Lib.hid hd
  obtain ⟨⟨r0, r1, r2⟩, ⟨f1, f2⟩, hz⟩ := rd_open h
  have b16 : ((d : Int) == 16) = false := by simp; omega
  have hdw : IntKind.i64.wrap ((d : Int) + 1) = (d : Int) + 1 := IntWalk.i64_in _ (by omega)
  have hdb : wrap64 (d : Int) = (d : Int) := by unfold wrap64; omega
  clear IH hd h
  go_enter Try.func78, Try.ntmps78
  go_wp2_with fail
  refine calls_gen (BSt rb s w · i (d + 1) ⟨#[]⟩ ⟨#[]⟩ (.slice none 0 0)) ?_ ?_
  · have hd2 := HRD.out
    refine ⟨?_, ?_, ?_, ?_⟩
    · refine rd_alloc (rd_alloc ?_ _) _
      unfold RdIn at hd2 ⊢
      simpa using set_blk (j := 2) hd2 (.int .i64 ((d : Int) + 1))
    · refine (Below.heap_alloc _ _ _ (by simp)).trans ?_
      have := heap_alloc_new (w.setCell ⟨rb, 2, none⟩ (.int .i64 (↑d + 1))) (.cells #[.int .i64 0, .bool false, .string ⟨#[]⟩, .string ⟨#[]⟩, .slice none 0 0] 64)
      simpa using this
    · have := heap_alloc_new ((w.setCell ⟨rb, 2, none⟩ (.int .i64 (↑d + 1))).alloc (.cells #[.int .i64 0, .bool false, .string ⟨#[]⟩, .string ⟨#[]⟩, .slice none 0 0] 64)) (.cells #[.int .i64 2, .bool false, .string ⟨#[]⟩, .string ⟨#[]⟩, .slice none 0 0] 64)
      simpa using this
    · exact (Kept.setCell (S := (· = rb)) ⟨rb, 2, none⟩ _ rfl).trans ((kept_alloc _ _).trans (kept_alloc _ _))
  intro W0 hW0
  have HB0 := Lib.hid hW0
  clear r0 r1 r2 f1 f2 hz hW0
  cases hL : lengthStands (s.data.toList.drop i) with
  | true =>
    have hl2 : i + 1 < s.size := by
      have := bad_len s i
      generalize s.data.toList.drop i = l at *
      unfold lengthStands at hL
      split at hL
      · simp at this; omega
      · cases hL
    have h1w : IntKind.i64.wrap ((i : Int) + 1) = (i : Int) + 1 := IntWalk.i64_in _ (by omega)
    refine (lens_any rb s i (d + 1) W0 HB0.out.rd hi hs).mono ?_
    rintro e w9 ⟨rfl, no, rfl⟩
    rw [hL]
    have HB1 := Lib.hid (HB0.out.drewN hlt no)
    have HR := Lib.hid hr
    clear hr
    generalize W0.drewN no = W1 at *
    obtain ⟨⟨⟨r0, r1, r2⟩, ⟨f1, f2⟩, hz⟩, ⟨p0, p1, p2, p3, p4⟩, ⟨q2, q3, q4⟩, hz7⟩ := HB1.out.all
    go_wp2_with fail
    refine calls_gen (BSt rb s w · (i + 1) (d + 1) ⟨#[]⟩ ⟨#[108, 101, 110]⟩ (.slice none 0 0)) ((HB1.out.setAt hlt (i + 1)).setOp hlt ⟨#[108, 101, 110]⟩) ?_
    intro W2 hW2
    have HB2 := Lib.hid hW2
    clear r0 r1 r2 f1 f2 hz p0 p1 p2 p3 p4 q2 q3 q4 hz7
    clear hW2
    refine (param_any rb s (i + 1) (d + 1) W2 HB2.out.rd (by omega) hs).mono ?_
    rintro e W3 h9
    rcases h9 with ⟨txl, k, hpar, hk1, hk, rfl, hk3, hr3⟩ | ⟨k, er, hpar, hk1, hk, rfl, hk3⟩
    · have HM : Hid (r = finish (s.size - f) (.mk 2 false txl [108, 101, 110] []) (s.data.toList.drop k)) := Lib.hid (by rw [← HR.out]; exact bra_len_ok hL (by rw [List.drop_drop]; exact hpar))
      have HB3 := Lib.hid (HB2.out.step hlt hk3 hr3)
      clear hpar hk3 hr3 hL
      obtain ⟨⟨⟨r0, r1, r2⟩, ⟨f1, f2⟩, hz⟩, ⟨p0, p1, p2, p3, p4⟩, ⟨q2, q3, q4⟩, hz7⟩ := HB3.out.all
      go_wp2_with fail
      refine calls_gen (BSt rb s w · k (d + 1) (nm txl) ⟨#[108, 101, 110]⟩ (.slice none 0 0)) (HB3.out.setTx hlt (nm txl)) ?_
      intro W hW
      have HB := Lib.hid hW
      have HV := Lib.hid (PNew.nil (m + 1) (w.heap.size + 2) W)
      obtain ⟨ob, hob⟩ : ∃ ob : ByteArray, ob = ⟨#[108, 101, 110]⟩ := ⟨_, rfl⟩
      have HOB : Hid (ob = nm [108, 101, 110]) := Lib.hid (by rw [hob]; rfl)
      clear hW
      clear r0 r1 r2 f1 f2 hz p0 p1 p2 p3 p4 q2 q3 q4 hz7
      obtain ⟨wd, hwd⟩ : ∃ wd : List PT, wd = [] := ⟨_, rfl⟩
      obtain ⟨opl, hopl⟩ : ∃ opl : Bs, opl = [108, 101, 110] := ⟨_, rfl⟩
      have hik : i ≤ k := by omega
      rw [← hwd] at HV HM
      rw [← hopl] at HM HOB
      clear HR HB0 HB1 HB2 HB3
      obtain ⟨va, vn, vc, hvv⟩ : ∃ va vn vc, Value.slice va vn vc = Value.slice none 0 0 := ⟨_, _, _, rfl⟩
      rw [← hob, ← hvv] at HB
      rw [← hvv] at HV
      clear hob hvv hopl hwd
      by_cases hend : k = s.size
      · have HE : Hid (r = .bad (s.size - f) 60) := Lib.hid (by rw [HM.out, drop_nil s k (by omega), fin_nil])
        refine (over_lit rb s k (d + 1) W HB.out.rd true (decide_eq_true hend) 0).mono ?_
        rintro e w9 ⟨rfl, no, rfl⟩
        go_wp2_with fail
        refine ⟨rfl, ?_⟩
        rw [HE.out]
        exact .inr ⟨f, 60, rfl, Nat.le_refl _, by omega, rfl, HB.out.kept.trans (Kept.drewN no)⟩
      · refine (over_lit rb s k (d + 1) W HB.out.rd false (decide_eq_false hend) 0).mono ?_
        rintro e w9 ⟨rfl, no, rfl⟩
        go_wp2_with fail
        have hlen := bad_len s k
        cases hst : stands [125] (s.data.toList.drop k) with
        | false =>
          have HE : Hid (r = .bad (s.size - k) 61) := Lib.hid (by rw [HM.out, fin_no _ _ _ hst (by omega), hlen])
          have hps := pass_any rb s k (d + 1) ⟨#[125]⟩ _ (rd_drewN HB.out.rd no) hk hs
          have e125 : (⟨#[125]⟩ : ByteArray).data.toList = [125] := rfl
          rw [e125, hst, if_neg (by decide)] at hps
          refine hps.mono ?_
          rintro e w8 h9
          obtain ⟨rfl, hk8, hr8⟩ := h9
          have HB8 := Lib.hid ((HB.out.drewN hlt no).step hlt hk8 hr8)
          clear hps hk8 hr8
          obtain ⟨⟨⟨r0, r1, r2⟩, ⟨f1, f2⟩, hz⟩, _⟩ := HB8.out.all
          go_wp2_with fail
          refine ⟨rfl, ?_⟩
          rw [HE.out]
          exact .inr ⟨k, 61, rfl, by omega, hk, rfl, HB8.out.kept⟩
        | true =>
          have HE : Hid (r = .ok (.mk 2 false txl opl wd) (s.data.toList.drop (k + 1))) := Lib.hid (by rw [HM.out, fin_yes _ _ _ hst, List.drop_drop])
          have hps := pass_any rb s k (d + 1) ⟨#[125]⟩ _ (rd_drewN HB.out.rd no) hk hs
          have e125 : (⟨#[125]⟩ : ByteArray).data.toList = [125] := rfl
          rw [e125, hst, if_pos rfl] at hps
          refine hps.mono ?_
          rintro e w8 h9
          obtain ⟨rfl, hk8, hr8⟩ := h9
          have hr8 : RdIn w8 rb s (k + 1) (d + 1) := hr8
          have HB8 := Lib.hid ((HB.out.drewN hlt no).step hlt hk8 hr8)
          have HV8 := Lib.hid (HV.out.kept ((Kept.drewN (S := (· = rb)) no).trans hk8) (fun k e => by omega))
          clear hps hk8 hr8
          obtain ⟨⟨⟨r0, r1, r2⟩, ⟨f1, f2⟩, hz⟩, ⟨p0, p1, p2, p3, p4⟩, ⟨q2, q3, q4⟩, hz7⟩ := HB8.out.all
          obtain ⟨⟨x0, x1, x2, x3, x4⟩, y0, y1, y2, y3, y4⟩ := HB8.out.six
          go_wp2_with fail
          have HC := Lib.hid (HB8.out.setDeep hlt d)
          have HKD := Lib.hid (Kept.setCell (S := (· = rb)) (w := w8) ⟨rb, 2, none⟩ (.int .i64 (d : Int)) rfl)
          generalize w8.setCell ⟨rb, 2, none⟩ (.int .i64 (d : Int)) = w10 at *
          have HK5 := Lib.hid (five_kept (S := (· = w.heap.size)) w10 rfl (.int .i64 2) (.bool false) (.string (nm txl)) (.string ob) (.slice va vn vc))
          refine bodyPost_ret (results_cell_row rfl _ _ _ 64 _ (0, 0) _ rfl (five_set HC.out.b6 _ _ _ _ _) Try.underlying64 rfl (by kernel_rfl)) rfl ?_
          rw [HE.out]
          refine .inl ⟨_, k + 1, rfl, by omega, by omega, by omega, (.slice va vn vc), ?_, ((HV8.out.kept HKD.out (fun k e => by omega)).kept HK5.out (fun k e => by omega)).le (by omega), rd_kept HC.out.rd HK5.out (by show ¬ rb = w.heap.size; omega), HC.out.kept.then HK5.out (fun k hk e => absurd e (by omega))⟩
          show Ending.returned (.agg #[.int .i64 2, .bool false, .string (nm txl), .string ob, (.slice va vn vc)]) = .returned (.agg #[.int .i64 2, .bool false, .string (nm txl), .string (nm opl), (.slice va vn vc)])
          rw [HOB.out]
    · have HE : Hid (r = .bad (s.size - k) er) := Lib.hid (by rw [← HR.out]; exact bra_len_bad hL (by rw [List.drop_drop]; exact hpar))
      clear hpar
      simp only [flt]
      go_wp2
      refine ⟨rfl, ?_⟩
      rw [HE.out]
      exact .inr ⟨k, er, rfl, by omega, hk, rfl, HB2.out.kept.trans hk3⟩
  | false =>
    refine (lens_any rb s i (d + 1) W0 HB0.out.rd hi hs).mono ?_
    rintro e w9 ⟨rfl, no, rfl⟩
    rw [hL]
    have HB1 := Lib.hid (HB0.out.drewN hlt no)
    have HR := Lib.hid hr
    have HL := Lib.hid hL
    clear hr hL
    generalize W0.drewN no = W2 at *
    go_wp2_with fail
    refine (param_any rb s i (d + 1) W2 HB1.out.rd (by omega) hs).mono ?_
    rintro e W3 h9
    rcases h9 with ⟨txl, k, hpar, hk1, hk, rfl, hk3, hr3⟩ | ⟨k, er, hpar, hk1, hk, rfl, hk3⟩
    · have HPA := Lib.hid hpar
      have HB3 := Lib.hid (HB1.out.step hlt hk3 hr3)
      clear hpar hk3 hr3
      obtain ⟨⟨⟨r0, r1, r2⟩, ⟨f1, f2⟩, hz⟩, ⟨p0, p1, p2, p3, p4⟩, ⟨q2, q3, q4⟩, hz7⟩ := HB3.out.all
      go_wp2_with fail
      refine calls_gen (BSt rb s w · k (d + 1) (nm txl) ⟨#[]⟩ (.slice none 0 0)) (HB3.out.setTx hlt (nm txl)) ?_
      intro W4 hW
      have HB4 := Lib.hid hW
      clear hW
      clear r0 r1 r2 f1 f2 hz p0 p1 p2 p3 p4 q2 q3 q4 hz7
      refine (operation_any rb s k (d + 1) W4 HB4.out.rd hk hs).mono ?_
      rintro e W5 h9
      obtain ⟨rfl, hk5, hr5⟩ := h9
      have HB5 := Lib.hid (HB4.out.step hlt hk5 hr5)
      clear hk5 hr5
      obtain ⟨opl, hopl⟩ : ∃ opl, opOf (s.data.toList.drop k) = opl := ⟨_, rfl⟩
      rw [hopl] at HB5 ⊢
      obtain ⟨ob, hob⟩ : ∃ ob, ob = nm opl := ⟨_, rfl⟩
      have HOB := Lib.hid hob
      rw [← hob] at ⊢
      obtain ⟨⟨⟨r0, r1, r2⟩, ⟨f1, f2⟩, hz⟩, ⟨p0, p1, p2, p3, p4⟩, ⟨q2, q3, q4⟩, hz7⟩ := HB5.out.all
      have HX6 := Lib.hid (HB5.out.setOp hlt ob)
      have x3 := cell_blk HX6.out.b7 3
      simp at x3
      by_cases hne : opl = []
      · subst hne
        have c1 : (ob.toList == []) = true := by rw [hob, listD, nm_data]; rfl
        have HPN : Hid (r = finish (s.size - f) (.mk 2 false txl [] []) (s.data.toList.drop k)) := Lib.hid (by rw [← HR.out]; exact bra_plain HL.out HPA.out hopl)
        clear hob hopl
        go_wp2_with fail
        refine calls_gen (BSt rb s w · k (d + 1) (nm txl) ob (.slice none 0 0)) HX6.out ?_
        intro W hW
        have HB := Lib.hid hW
        have HV := Lib.hid (PNew.nil (m + 1) (w.heap.size + 2) W)
        clear hW c1 x3
        clear r0 r1 r2 f1 f2 hz p0 p1 p2 p3 p4 q2 q3 q4 hz7
        obtain ⟨wd, hwd⟩ : ∃ wd : List PT, wd = [] := ⟨_, rfl⟩
        obtain ⟨opl, hopl⟩ : ∃ opl : Bs, opl = [] := ⟨_, rfl⟩
        obtain ⟨va, vn, vc, hvv⟩ : ∃ va vn vc, Value.slice va vn vc = Value.slice none 0 0 := ⟨_, _, _, rfl⟩
        have hik : i ≤ k := by omega
        have HM : Hid (r = finish (s.size - f) (.mk 2 false txl opl wd) (s.data.toList.drop k)) := Lib.hid (by rw [hopl, hwd]; exact HPN.out)
        rw [← hwd] at HV
        rw [← hopl] at HOB
        rw [← hvv] at HB HV
        clear hvv hopl hwd HR HL HPA HB0 HB1 HB3 HB4 HB5 HX6 HPN
        by_cases hend : k = s.size
        · have HE : Hid (r = .bad (s.size - f) 60) := Lib.hid (by rw [HM.out, drop_nil s k (by omega), fin_nil])
          refine (over_lit rb s k (d + 1) W HB.out.rd true (decide_eq_true hend) 0).mono ?_
          rintro e w9 ⟨rfl, no, rfl⟩
          go_wp2_with fail
          refine ⟨rfl, ?_⟩
          rw [HE.out]
          exact .inr ⟨f, 60, rfl, Nat.le_refl _, by omega, rfl, HB.out.kept.trans (Kept.drewN no)⟩
        · refine (over_lit rb s k (d + 1) W HB.out.rd false (decide_eq_false hend) 0).mono ?_
          rintro e w9 ⟨rfl, no, rfl⟩
          go_wp2_with fail
          have hlen := bad_len s k
          cases hst : stands [125] (s.data.toList.drop k) with
          | false =>
            have HE : Hid (r = .bad (s.size - k) 61) := Lib.hid (by rw [HM.out, fin_no _ _ _ hst (by omega), hlen])
            have hps := pass_any rb s k (d + 1) ⟨#[125]⟩ _ (rd_drewN HB.out.rd no) hk hs
            have e125 : (⟨#[125]⟩ : ByteArray).data.toList = [125] := rfl
            rw [e125, hst, if_neg (by decide)] at hps
            refine hps.mono ?_
            rintro e w8 h9
            obtain ⟨rfl, hk8, hr8⟩ := h9
            have HB8 := Lib.hid ((HB.out.drewN hlt no).step hlt hk8 hr8)
            clear hps hk8 hr8
            obtain ⟨⟨⟨r0, r1, r2⟩, ⟨f1, f2⟩, hz⟩, _⟩ := HB8.out.all
            go_wp2_with fail
            refine ⟨rfl, ?_⟩
            rw [HE.out]
            exact .inr ⟨k, 61, rfl, by omega, hk, rfl, HB8.out.kept⟩
          | true =>
            have HE : Hid (r = .ok (.mk 2 false txl opl wd) (s.data.toList.drop (k + 1))) := Lib.hid (by rw [HM.out, fin_yes _ _ _ hst, List.drop_drop])
            have hps := pass_any rb s k (d + 1) ⟨#[125]⟩ _ (rd_drewN HB.out.rd no) hk hs
            have e125 : (⟨#[125]⟩ : ByteArray).data.toList = [125] := rfl
            rw [e125, hst, if_pos rfl] at hps
            refine hps.mono ?_
            rintro e w8 h9
            obtain ⟨rfl, hk8, hr8⟩ := h9
            have hr8 : RdIn w8 rb s (k + 1) (d + 1) := hr8
            have HB8 := Lib.hid ((HB.out.drewN hlt no).step hlt hk8 hr8)
            have HV8 := Lib.hid (HV.out.kept ((Kept.drewN (S := (· = rb)) no).trans hk8) (fun k e => by omega))
            clear hps hk8 hr8
            obtain ⟨⟨⟨r0, r1, r2⟩, ⟨f1, f2⟩, hz⟩, ⟨p0, p1, p2, p3, p4⟩, ⟨q2, q3, q4⟩, hz7⟩ := HB8.out.all
            obtain ⟨⟨x0, x1, x2, x3, x4⟩, y0, y1, y2, y3, y4⟩ := HB8.out.six
            go_wp2_with fail
            have HC := Lib.hid (HB8.out.setDeep hlt d)
            have HKD := Lib.hid (Kept.setCell (S := (· = rb)) (w := w8) ⟨rb, 2, none⟩ (.int .i64 (d : Int)) rfl)
            generalize w8.setCell ⟨rb, 2, none⟩ (.int .i64 (d : Int)) = w10 at *
            have HK5 := Lib.hid (five_kept (S := (· = w.heap.size)) w10 rfl (.int .i64 2) (.bool false) (.string (nm txl)) (.string ob) (.slice va vn vc))
            refine bodyPost_ret (results_cell_row rfl _ _ _ 64 _ (0, 0) _ rfl (five_set HC.out.b6 _ _ _ _ _) Try.underlying64 rfl (by kernel_rfl)) rfl ?_
            rw [HE.out]
            refine .inl ⟨_, k + 1, rfl, by omega, by omega, by omega, (.slice va vn vc), ?_, ((HV8.out.kept HKD.out (fun k e => by omega)).kept HK5.out (fun k e => by omega)).le (by omega), rd_kept HC.out.rd HK5.out (by show ¬ rb = w.heap.size; omega), HC.out.kept.then HK5.out (fun k hk e => absurd e (by omega))⟩
            show Ending.returned (.agg #[.int .i64 2, .bool false, .string (nm txl), .string ob, (.slice va vn vc)]) = .returned (.agg #[.int .i64 2, .bool false, .string (nm txl), .string (nm opl), (.slice va vn vc)])
            rw [HOB.out]
      · have hol := opOf_le (s.data.toList.drop k)
        rw [hopl, bad_len] at hol
        have c1 : (ob.toList == []) = false := by rw [hob, listD, nm_data]; simpa using hne
        have HNE := Lib.hid hne
        have HOP := Lib.hid hopl
        clear hob hopl hne
        go_wp2_with fail
        refine calls_gen (BSt rb s w · (k + opl.length) (d + 1) (nm txl) ob (.slice none 0 0)) HX6.out ?_
        intro W6 hW
        have HB6 := Lib.hid hW
        clear hW c1 x3
        clear r0 r1 r2 f1 f2 hz p0 p1 p2 p3 p4 q2 q3 q4 hz7
        have hz6 := fin_at HB6.out.b7
        refine (HIH.out 87 (· == 125) asks_endB rb s (k + opl.length) (d + 1) qd W6 HB6.out.rd (by omega) hs (by have := HHD.out; omega)).mono ?_
        rintro e W7 h9
        rcases h9 with ⟨wd, k, hq, hk7, hk8, _, v, rfl, hv7, hr7, hkk7⟩ | ⟨k2, er, hq, hk7, hk8, rfl, hkk7⟩
        · obtain ⟨va, vn, vc, rfl⟩ := hv7.form
          have HM : Hid (r = finish (s.size - f) (.mk 2 false txl opl wd) (s.data.toList.drop k)) := Lib.hid (by
            rw [← HR.out, ← HOP.out]
            exact bra_op HL.out HPA.out (by rw [HOP.out]; exact HNE.out) (by rw [HOP.out, List.drop_drop]; exact hq))
          have HB7 := Lib.hid (HB6.out.step hlt hkk7 hr7)
          have HV7 := Lib.hid (hv7.le (z' := w.heap.size + 2) (by omega))
          clear hq hv7 hr7 hkk7
          obtain ⟨⟨⟨r0, r1, r2⟩, ⟨f1, f2⟩, hz⟩, ⟨p0, p1, p2, p3, p4⟩, ⟨q2, q3, q4⟩, hz7⟩ := HB7.out.all
          have HKV := Lib.hid (Kept.setCell (S := (· = w.heap.size + 1)) (w := W7) ⟨w.heap.size + 1, 4, none⟩ (.slice va vn vc) rfl)
          have hik : i ≤ k := by omega
          have hk : k ≤ s.size := hk8
          clear HR HL HPA HB0 HB1 HB3 HB4 HB5 HX6 HOP HNE
          go_wp2_with fail
          refine calls_gen (fun W => BSt rb s w W k (d + 1) (nm txl) ob (.slice va vn vc) ∧ PNew (m + 1) (w.heap.size + 2) W (.slice va vn vc) wd) ⟨HB7.out.setV hlt (.slice va vn vc), HV7.out.kept HKV.out (fun k e => by omega)⟩ ?_
          intro W hW
          have HB := Lib.hid hW.1
          have HV := Lib.hid hW.2
          clear hW hk1 hk7 hol
          clear r0 r1 r2 f1 f2 hz p0 p1 p2 p3 p4 q2 q3 q4 hz7
          clear hk8
          by_cases hend : k = s.size
          · have HE : Hid (r = .bad (s.size - f) 60) := Lib.hid (by rw [HM.out, drop_nil s k (by omega), fin_nil])
            refine (over_lit rb s k (d + 1) W HB.out.rd true (decide_eq_true hend) 0).mono ?_
            rintro e w9 ⟨rfl, no, rfl⟩
            go_wp2_with fail
            refine ⟨rfl, ?_⟩
            rw [HE.out]
            exact .inr ⟨f, 60, rfl, Nat.le_refl _, by omega, rfl, HB.out.kept.trans (Kept.drewN no)⟩
          · refine (over_lit rb s k (d + 1) W HB.out.rd false (decide_eq_false hend) 0).mono ?_
            rintro e w9 ⟨rfl, no, rfl⟩
            go_wp2_with fail
            have hlen := bad_len s k
            cases hst : stands [125] (s.data.toList.drop k) with
            | false =>
              have HE : Hid (r = .bad (s.size - k) 61) := Lib.hid (by rw [HM.out, fin_no _ _ _ hst (by omega), hlen])
              have hps := pass_any rb s k (d + 1) ⟨#[125]⟩ _ (rd_drewN HB.out.rd no) hk hs
              have e125 : (⟨#[125]⟩ : ByteArray).data.toList = [125] := rfl
              rw [e125, hst, if_neg (by decide)] at hps
              refine hps.mono ?_
              rintro e w8 h9
              obtain ⟨rfl, hk8, hr8⟩ := h9
              have HB8 := Lib.hid ((HB.out.drewN hlt no).step hlt hk8 hr8)
              clear hps hk8 hr8
              obtain ⟨⟨⟨r0, r1, r2⟩, ⟨f1, f2⟩, hz⟩, _⟩ := HB8.out.all
              go_wp2_with fail
              refine ⟨rfl, ?_⟩
              rw [HE.out]
              exact .inr ⟨k, 61, rfl, by omega, hk, rfl, HB8.out.kept⟩
            | true =>
              have HE : Hid (r = .ok (.mk 2 false txl opl wd) (s.data.toList.drop (k + 1))) := Lib.hid (by rw [HM.out, fin_yes _ _ _ hst, List.drop_drop])
              have hps := pass_any rb s k (d + 1) ⟨#[125]⟩ _ (rd_drewN HB.out.rd no) hk hs
              have e125 : (⟨#[125]⟩ : ByteArray).data.toList = [125] := rfl
              rw [e125, hst, if_pos rfl] at hps
              refine hps.mono ?_
              rintro e w8 h9
              obtain ⟨rfl, hk8, hr8⟩ := h9
              have hr8 : RdIn w8 rb s (k + 1) (d + 1) := hr8
              have HB8 := Lib.hid ((HB.out.drewN hlt no).step hlt hk8 hr8)
              have HV8 := Lib.hid (HV.out.kept ((Kept.drewN (S := (· = rb)) no).trans hk8) (fun k e => by omega))
              clear hps hk8 hr8
              obtain ⟨⟨⟨r0, r1, r2⟩, ⟨f1, f2⟩, hz⟩, ⟨p0, p1, p2, p3, p4⟩, ⟨q2, q3, q4⟩, hz7⟩ := HB8.out.all
              obtain ⟨⟨x0, x1, x2, x3, x4⟩, y0, y1, y2, y3, y4⟩ := HB8.out.six
              go_wp2_with fail
              have HC := Lib.hid (HB8.out.setDeep hlt d)
              have HKD := Lib.hid (Kept.setCell (S := (· = rb)) (w := w8) ⟨rb, 2, none⟩ (.int .i64 (d : Int)) rfl)
              generalize w8.setCell ⟨rb, 2, none⟩ (.int .i64 (d : Int)) = w10 at *
              have HK5 := Lib.hid (five_kept (S := (· = w.heap.size)) w10 rfl (.int .i64 2) (.bool false) (.string (nm txl)) (.string ob) (.slice va vn vc))
              refine bodyPost_ret (results_cell_row rfl _ _ _ 64 _ (0, 0) _ rfl (five_set HC.out.b6 _ _ _ _ _) Try.underlying64 rfl (by kernel_rfl)) rfl ?_
              rw [HE.out]
              refine .inl ⟨_, k + 1, rfl, by omega, by omega, by omega, (.slice va vn vc), ?_, ((HV8.out.kept HKD.out (fun k e => by omega)).kept HK5.out (fun k e => by omega)).le (by omega), rd_kept HC.out.rd HK5.out (by show ¬ rb = w.heap.size; omega), HC.out.kept.then HK5.out (fun k hk e => absurd e (by omega))⟩
              show Ending.returned (.agg #[.int .i64 2, .bool false, .string (nm txl), .string ob, (.slice va vn vc)]) = .returned (.agg #[.int .i64 2, .bool false, .string (nm txl), .string (nm opl), (.slice va vn vc)])
              rw [HOB.out]
        · have HE : Hid (r = .bad (s.size - k2) er) := Lib.hid (by
            rw [← HR.out]
            exact bra_op_bad HL.out HPA.out (by rw [HOP.out]; exact HNE.out) (by rw [HOP.out, List.drop_drop]; exact hq))
          clear hq
          simp only [flt]
          go_wp2
          refine ⟨rfl, ?_⟩
          rw [HE.out]
          exact .inr ⟨k2, er, rfl, by omega, hk8, rfl, HB6.out.kept.trans hkk7⟩
    · have HE : Hid (r = .bad (s.size - k) er) := Lib.hid (by rw [← HR.out]; exact bra_bad HL.out hpar)
      clear hpar
      simp only [flt]
      go_wp2
      refine ⟨rfl, ?_⟩
      rw [HE.out]
      exact .inr ⟨k, er, rfl, by omega, hk, rfl, HB1.out.kept.trans hk3⟩

end Go.Proofs.Ytgajbehlggikdaa.Wd
