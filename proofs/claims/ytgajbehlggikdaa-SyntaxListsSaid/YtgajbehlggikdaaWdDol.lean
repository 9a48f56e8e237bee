/- DERIVED. The walk over the reader's dollar. -/
import Derived.Test.YtgajbehlggikdaaWdBra
namespace Go.Proofs.Ytgajbehlggikdaa.Wd
open Go.RowKit
open PathM WdM
set_option linter.unusedVariables false

def BracesOk (n : Nat) : Prop := ∀ (rb : Nat) (s : ByteArray) (i f d : Nat) (qd : Bool) (w : World), RdIn w rb s i d → f ≤ i → i ≤ s.size → s.size ≤ 8192 → d + n = 16 →
  Calls Try.prog 78 #[.pointer (some ⟨rb, 0, none⟩), .int .i64 f, .bool qd] w (BPost n rb s i f d w (braces (recN n) (s.size - f) qd (s.data.toList.drop i)))
theorem bracesOk (n : Nat) (IH : ∀ m, n = m + 1 → PartsOk m) : BracesOk n := by
  intro rb s i f d qd w h hf hi hs hd
  cases n with
  | zero => exact braces_zero rb s i f d qd w h hf hi (by omega)
  | succ m => exact braces_succ m (IH m rfl) rb s i f d qd w h hf hi hs hd
theorem put_at {D rb gb i k d : Nat} {s : ByteArray} {g : Ga} {w W : World} (h : St D w rb gb s i d g) (hok : Gok g i) (hs : s.size ≤ 8192) (hi : i ≤ s.size) (hk : Kept (· = rb) w W) (hr : RdIn W rb s k d) (p : PT) (v : Value) (hv : PNew D (w.heap.size + 1) W v p.word) (hik : i < k) :
    Calls Try.prog 83 #[.pointer (some ⟨gb, 0, none⟩), ptV p v] W fun e w' => e = .returned (.tuple #[]) ∧ St D w' rb gb s k d (g.put p) ∧ Gok (g.put p) k ∧ Kept (Both rb gb) w w' := by
  obtain ⟨pv, tv, ps, hg⟩ := h.ga
  have hlt := h.lt
  have hgb := fin_at hg.box
  have hg2 := hg.kept hk (fun k e => .inl (by omega))
  have hgs : g.ps.length ≤ 50000 ∧ g.tx.length ≤ 50000 := by unfold Gok at hok; omega
  have hsub : ∀ b, b < W.heap.size → (w.heap.size + 1 ≤ b ∧ PTy W b) → Sub W gb pv tv b := fun b hb hn =>
    ⟨by have := hn.1; omega, hb, fun e => by have := (hg.prow.lt b e).2; have := hn.1; omega, fun e => by have := (hg.trow.lt b e).2; have := hn.1; omega, hn.2⟩
  refine (put_any D gb g pv tv ps p v W hg2 (PIn.mono hsub D _ _ hv) hgs.1 hgs.2).mono ?_
  rintro e w' ⟨rfl, h2, h3⟩
  exact ⟨rfl, ⟨h3.at hr (by omega), h2, hlt⟩, hok.put p hik, (kept_rb hk).trans (kept_gb h3)⟩
/-- The dollar's reader and box. -/
structure DSt (rb : Nat) (s : ByteArray) (w W : World) (k d : Nat) : Prop where
  rd : RdIn W rb s k d
  b7 : W.heap[w.heap.size]? = some (.cells #[.int .i64 0, .bool false, .string ⟨#[]⟩, .string ⟨#[]⟩, .slice none 0 0] 64 (0, 0))
  kept : Kept (· = rb) w W
theorem DSt.step {rb k k' d : Nat} {s : ByteArray} {w W W' : World} (h : DSt rb s w W k d) (hlt : rb < w.heap.size) (hk : Kept (· = rb) W W') (hr : RdIn W' rb s k' d) : DSt rb s w W' k' d :=
  ⟨hr, hk.at h.b7 (by omega), h.kept.trans hk⟩
theorem DSt.all {rb k d : Nat} {s : ByteArray} {w W : World} (h : DSt rb s w W k d) : ((W.cell? ⟨rb, 0, none⟩ = some (.string s) ∧ W.cell? ⟨rb, 1, none⟩ = some (.int .i64 k)) ∧ rb < W.heap.size) ∧
    (W.cell? ⟨w.heap.size, 0, none⟩ = some (.int .i64 0) ∧ W.cell? ⟨w.heap.size, 1, none⟩ = some (.bool false) ∧ W.cell? ⟨w.heap.size, 2, none⟩ = some (.string ⟨#[]⟩) ∧ W.cell? ⟨w.heap.size, 3, none⟩ = some (.string ⟨#[]⟩) ∧ W.cell? ⟨w.heap.size, 4, none⟩ = some (.slice none 0 0)) ∧
    (W.frozen? ⟨w.heap.size, 0, none⟩ = false ∧ W.frozen? ⟨w.heap.size, 1, none⟩ = false ∧ W.frozen? ⟨w.heap.size, 2, none⟩ = false ∧ W.frozen? ⟨w.heap.size, 3, none⟩ = false ∧ W.frozen? ⟨w.heap.size, 4, none⟩ = false) ∧ w.heap.size < W.heap.size :=
  ⟨⟨⟨rd_s h.rd, rd_at h.rd⟩, rd_lt h.rd⟩, ⟨cell_blk h.b7 0, cell_blk h.b7 1, cell_blk h.b7 2, cell_blk h.b7 3, cell_blk h.b7 4⟩, ⟨froz_blk h.b7 0, froz_blk h.b7 1, froz_blk h.b7 2, froz_blk h.b7 3, froz_blk h.b7 4⟩, fin_at h.b7⟩
/-- .. and the box holds a part. -/
structure ESt (rb : Nat) (s : ByteArray) (w W : World) (k d : Nat) (pk : Int) (pq : Bool) (tb ob : ByteArray) (v : Value) : Prop where
  rd : RdIn W rb s k d
  b7 : W.heap[w.heap.size]? = some (.cells #[.int .i64 pk, .bool pq, .string tb, .string ob, v] 64 (0, 0))
  kept : Kept (· = rb) w W
theorem DSt.set {rb k d : Nat} {s : ByteArray} {w W : World} (h : DSt rb s w W k d) (hlt : rb < w.heap.size) (pk : Int) (pq : Bool) (tb ob : ByteArray) (v : Value) :
    ESt rb s w (((((W.setCell ⟨w.heap.size, 0, none⟩ (.int .i64 pk)).setCell ⟨w.heap.size, 1, none⟩ (.bool pq)).setCell ⟨w.heap.size, 2, none⟩ (.string tb)).setCell ⟨w.heap.size, 3, none⟩ (.string ob)).setCell ⟨w.heap.size, 4, none⟩ v) k d pk pq tb ob v := by
  have hk := five_kept (S := (· = w.heap.size)) W rfl (.int .i64 pk) (.bool pq) (.string tb) (.string ob) v
  exact ⟨rd_kept h.rd hk (by show ¬ rb = w.heap.size; omega), five_set h.b7 _ _ _ _ _, h.kept.then hk (fun i hi e => absurd e (by omega))⟩
theorem ESt.setQ {rb k d : Nat} {s : ByteArray} {w W : World} {pk : Int} {pq : Bool} {tb ob : ByteArray} {v : Value} (h : ESt rb s w W k d pk pq tb ob v) (hlt : rb < w.heap.size) (q : Bool) : RdIn (W.setCell ⟨w.heap.size, 1, none⟩ (.bool q)) rb s k d ∧ Kept (· = rb) w (W.setCell ⟨w.heap.size, 1, none⟩ (.bool q)) ∧ Kept (· = w.heap.size) W (W.setCell ⟨w.heap.size, 1, none⟩ (.bool q)) := by
  have hk := Kept.setCell (S := (· = w.heap.size)) (w := W) ⟨w.heap.size, 1, none⟩ (.bool q) rfl
  exact ⟨rd_kept h.rd hk (by show ¬ rb = w.heap.size; omega), h.kept.then hk (fun i hi e => absurd e (by omega)), hk⟩
theorem wp_gen {P : Program} {c : Code} {Q : Exit → Act → World → Prop} {a : Act} {W : World} (R : World → Prop) (hR : R W) (h : ∀ W', R W' → Code.wp P c Q a W') : Code.wp P c Q a W := h W hR
section
variable {rec : Rec} {g : Ga} {qd : Bool} {l t r : Bs} {p : PT} {a : Nat} {e : Int}
theorem dol_ok (h : dollarP rec qd l = some (.ok p r)) : dollar rec g qd l = .ok (g.put (p.withQ qd)) r := by unfold dollar; simp only [h]
theorem dol_bad (h : dollarP rec qd l = some (.bad a e)) : dollar rec g qd l = .bad a e := by unfold dollar; simp only [h]
theorem dol_none (h : dollarP rec qd l = none) : dollar rec g qd l = .ok (g.add [36] qd) l := by unfold dollar; simp only [h]
theorem dp_brace (h1 : stands [123] l = true) : dollarP rec qd l = some (braces rec (l.length + 1) qd (l.drop 1)) := by unfold dollarP; rw [if_pos h1]
theorem dp_ar_ok (h1 : stands [123] l = false) (h2 : stands [40, 40] l = true) (hx : arithS (l.length + 1) 0 [] (l.drop 2) = .ok t r) : dollarP rec qd l = some (.ok (.mk 4 false t [] []) r) := by
  unfold dollarP; simp only [h1, h2, hx, Bool.false_eq_true, if_false, if_true]
theorem dp_ar_bad (h1 : stands [123] l = false) (h2 : stands [40, 40] l = true) (hx : arithS (l.length + 1) 0 [] (l.drop 2) = .bad a e) : dollarP rec qd l = some (.bad a e) := by
  unfold dollarP; simp only [h1, h2, hx, Bool.false_eq_true, if_false, if_true]
theorem dp_cmd_ok (h1 : stands [123] l = false) (h2 : stands [40, 40] l = false) (h3 : stands [40] l = true) (hx : cmdS (l.length + 1) (l.drop 1) = .ok t r) : dollarP rec qd l = some (.ok (.mk 3 false t [] []) r) := by
  unfold dollarP; simp only [h1, h2, h3, hx, Bool.false_eq_true, if_false, if_true]
theorem dp_cmd_bad (h1 : stands [123] l = false) (h2 : stands [40, 40] l = false) (h3 : stands [40] l = true) (hx : cmdS (l.length + 1) (l.drop 1) = .bad a e) : dollarP rec qd l = some (.bad a e) := by
  unfold dollarP; simp only [h1, h2, h3, hx, Bool.false_eq_true, if_false, if_true]
theorem dp_dig {c : UInt8} (h1 : stands [123] (c :: t) = false) (h2 : stands [40, 40] (c :: t) = false) (h3 : stands [40] (c :: t) = false) (h4 : digit c = true) : dollarP rec qd (c :: t) = some (.ok (.mk 2 false [c] [] []) t) := by
  unfold dollarP; simp only [h1, h2, h3, h4, Bool.false_eq_true, if_false, if_true]; rfl
theorem dp_par_ok (h1 : stands [123] l = false) (h2 : stands [40, 40] l = false) (h3 : stands [40] l = false) (h4 : ∀ c t, l = c :: t → digit c = false) (h5 : paramStands l = true) (hx : param l = .ok t r) : dollarP rec qd l = some (.ok (.mk 2 false t [] []) r) := by
  unfold dollarP; simp only [h1, h2, h3, h5, hx, Bool.false_eq_true, if_false, if_true]
  cases l with
  | nil => cases h5
  | cons c t => simp only [h4 c t rfl, Bool.false_eq_true, if_false]
theorem dp_par_bad (h1 : stands [123] l = false) (h2 : stands [40, 40] l = false) (h3 : stands [40] l = false) (h4 : ∀ c t, l = c :: t → digit c = false) (h5 : paramStands l = true) (hx : param l = .bad a e) : dollarP rec qd l = some (.bad a e) := by
  unfold dollarP; simp only [h1, h2, h3, h5, hx, Bool.false_eq_true, if_false, if_true]
  cases l with
  | nil => cases h5
  | cons c t => simp only [h4 c t rfl, Bool.false_eq_true, if_false]
theorem dp_none (h1 : stands [123] l = false) (h2 : stands [40, 40] l = false) (h3 : stands [40] l = false) (h4 : ∀ c t, l = c :: t → digit c = false) (h5 : paramStands l = false) : dollarP rec qd l = none := by
  unfold dollarP; simp only [h1, h2, h3, h5, Bool.false_eq_true, if_false]
  cases l with
  | nil => rfl
  | cons c t => simp only [h4 c t rfl, Bool.false_eq_true, if_false]
end
/-- A pass over a sign, either way. -/
theorem pass_yes {rb : Nat} {s : ByteArray} {i d : Nat} {w W : World} (sign : ByteArray) (l : Bs) (hl : sign.data.toList = l) (h : DSt rb s w W i d) (hlt : rb < w.heap.size) (hi : i ≤ s.size) (hs : s.size ≤ 8192) (hst : stands l (s.data.toList.drop i) = true) :
    Calls Try.prog 77 #[.pointer (some ⟨rb, 0, none⟩), .string sign] W fun e W' => e = .returned (.bool true) ∧ DSt rb s w W' (i + l.length) d ∧ i + l.length ≤ s.size := by
  have h1 := pass_any rb s i d sign W h.rd hi hs
  rw [hl, hst, if_pos rfl] at h1
  refine h1.mono ?_
  rintro e W' ⟨rfl, h2, h3⟩
  have hz : sign.size = l.length := by rw [sizeD, hl]
  rw [hz] at h3
  exact ⟨rfl, h.step hlt h2 h3, by have := stands_len hst; rw [bad_len] at this; omega⟩
theorem pass_no {rb : Nat} {s : ByteArray} {i d : Nat} {w W : World} (sign : ByteArray) (l : Bs) (hl : sign.data.toList = l) (h : DSt rb s w W i d) (hlt : rb < w.heap.size) (hi : i ≤ s.size) (hs : s.size ≤ 8192) (hst : stands l (s.data.toList.drop i) = false) :
    Calls Try.prog 77 #[.pointer (some ⟨rb, 0, none⟩), .string sign] W fun e W' => e = .returned (.bool false) ∧ DSt rb s w W' i d := by
  have h1 := pass_any rb s i d sign W h.rd hi hs
  rw [hl, hst, if_neg (by decide)] at h1
  refine h1.mono ?_
  rintro e W' ⟨rfl, h2, h3⟩
  exact ⟨rfl, h.step hlt h2 h3⟩
set_option maxRecDepth 100000 in
set_option maxHeartbeats 3200000 in
theorem dollar_any (n : Nat) (IH : BracesOk n) (rb gb : Nat) (s : ByteArray) (i d : Nat) (g : Ga) (qd : Bool) (w : World) (h : St n w rb gb s i d g) (hi : i < s.size) (hs : s.size ≤ 8192) (hd : d + n = 16) (hok : Gok g i) :
    Calls Try.prog 71 #[.pointer (some ⟨rb, 0, none⟩), .pointer (some ⟨gb, 0, none⟩), .bool qd] w (GPost n rb gb s i d w (dollar (recN n) g qd (s.data.toList.drop (i + 1)))) := by
  obtain ⟨r, hr⟩ : ∃ r, dollar (recN n) g qd (s.data.toList.drop (i + 1)) = r := ⟨_, rfl⟩
  rw [hr]
  have hlt := rd_lt h.rd
  have HS := Lib.hid h
  have HOK := Lib.hid hok
  have HIH := Lib.hid IH
  have HHD := Lib.hid hd
  have HR := Lib.hid hr
  obtain ⟨⟨r0, r1, r2⟩, ⟨f1, f2⟩, hz⟩ := rd_open h.rd
  have h1w : IntKind.i64.wrap ((i : Int) + 1) = (i : Int) + 1 := IntWalk.i64_in _ (by omega)
  clear IH hd h hok hr
  go_enter Try.func71, Try.ntmps71
  go_wp2_with fail
  refine calls_gen (DSt rb s w · (i + 1) d) ?_ ?_
  · have h2 := HS.out.rd
    refine ⟨rd_alloc (at_set h2 (i + 1)) _, ?_, (Kept.setCell (S := (· = rb)) ⟨rb, 1, none⟩ _ rfl).trans (kept_alloc _ _)⟩
    have := heap_alloc_new (w.setCell ⟨rb, 1, none⟩ (.int .i64 (↑i + 1))) (.cells #[.int .i64 0, .bool false, .string ⟨#[]⟩, .string ⟨#[]⟩, .slice none 0 0] 64)
    simpa using this
  intro W0 hW0
  have HD0 := Lib.hid hW0
  clear r0 r1 r2 f1 f2 hz hW0
  have hfl := bad_len s (i + 1)
  have HFL : Hid ((s.data.toList.drop (i + 1)).length + 1 = s.size - i) := Lib.hid (by omega)
  clear hfl
  cases b1 : stands [123] (s.data.toList.drop (i + 1)) with
  | true =>
    refine (pass_yes ⟨#[123]⟩ [123] rfl HD0.out hlt (by omega) hs b1).mono ?_
    rintro e W1 ⟨rfl, hd1, hi2⟩
    have HD := Lib.hid hd1
    have HDP : Hid (dollarP (recN n) qd (s.data.toList.drop (i + 1)) = some (braces (recN n) (s.size - i) qd (s.data.toList.drop (i + 2)))) := Lib.hid (by rw [dp_brace b1, HFL.out, List.drop_drop])
    clear hd1 b1
    have hz1 := fin_at HD.out.b7
    go_wp2_with fail
    refine (HIH.out rb s (i + 2) i d qd W1 HD.out.rd (by omega) hi2 hs HHD.out).mono ?_
    rintro e W2 h9
    rcases h9 with ⟨p, k, hq, hk7, hk8, hk9, v, rfl, hv7, hr7, hkk7⟩ | ⟨k2, er, hq, hk7, hk8, rfl, hkk7⟩
    · obtain ⟨va, vn, vc, rfl⟩ := hv7.form
      have HM : Hid (r = .ok (g.put (p.withQ qd)) (s.data.toList.drop k)) := Lib.hid (by rw [← HR.out]; exact dol_ok (HDP.out.trans (by rw [hq])))
      have HD2 := Lib.hid (HD.out.step hlt hkk7 hr7)
      have HV := Lib.hid (hv7.le (z' := w.heap.size + 1) (by omega))
      clear hq hv7 hr7 hkk7
      clear HD
      have HD := HD2
      clear HD2
      obtain ⟨⟨⟨r0, r1⟩, hz⟩, ⟨p0, p1, p2, p3, p4⟩, ⟨q0, q1, q2, q3, q4⟩, hz7⟩ := HD.out.all
      obtain ⟨pk, pq, ptx, pop, pw⟩ := p
      simp only [ptV, PT.kind, PT.quoted, PT.text, PT.op]
      obtain ⟨tb, htb⟩ : ∃ tb, nm ptx = tb := ⟨_, rfl⟩
      obtain ⟨ob, hob⟩ : ∃ ob, nm pop = ob := ⟨_, rfl⟩
      rw [htb, hob]
      have HTB := Lib.hid htb
      have HOB := Lib.hid hob
      have hik : i < k := by omega
      clear htb hob
      go_upto_region 14 with fail
      refine wp_gen (fun W => ESt rb s w W k d pk pq tb ob (.slice va vn vc) ∧ PNew n (w.heap.size + 1) W (.slice va vn vc) pw) ⟨HD.out.set hlt pk pq tb ob (.slice va vn vc), HV.out.kept (five_kept (S := (· = w.heap.size)) _ rfl _ _ _ _ _) (fun k e => by omega)⟩ ?_
      intro W hW
      have HE := Lib.hid hW.1
      have HV := Lib.hid hW.2
      clear hW
      clear r0 r1 hz p0 p1 p2 p3 p4 q0 q1 q2 q3 q4 hz7
      have p0 := cell_blk HE.out.b7 0
      have p1 := cell_blk HE.out.b7 1
      have p2 := cell_blk HE.out.b7 2
      have p3 := cell_blk HE.out.b7 3
      have p4 := cell_blk HE.out.b7 4
      have q1 := froz_blk HE.out.b7 1
      simp at p0 p1 p2 p3 p4
      have hz7 := fin_at HE.out.b7
      go_wp2_with fail
      rw [← HTB.out, ← HOB.out]
      have h3 := HE.out.setQ hlt qd
      refine (put_at HS.out HOK.out hs (by omega) h3.2.1 h3.1 (.mk pk qd ptx pop pw) (.slice va vn vc) (HV.out.kept h3.2.2 (fun k e => by omega)) hik).mono ?_
      rintro e w9 ⟨rfl, hs9, ho9, hk9⟩
      have HF := Lib.hid (GPost.ok (d := d) HM.out hik hk8 hs9 ho9 hk9)
      clear h3 hs9 ho9 hk9
      go_wp2
      refine bodyPost_ret (results_none rfl _ _ _) rfl ?_
      exact HF.out
    · have HE : Hid (r = .bad (s.size - k2) er) := Lib.hid (by rw [← HR.out]; exact dol_bad (HDP.out.trans (by rw [hq])))
      clear hq
      simp only [flt]
      go_wp2
      exact ⟨rfl, GPost.bad HE.out hk7 hk8 (kept_rb (HD.out.kept.trans hkk7))⟩
  | false =>
    refine (pass_no ⟨#[123]⟩ [123] rfl HD0.out hlt (by omega) hs b1).mono ?_
    rintro e W1 ⟨rfl, hd1⟩
    have HD1 := Lib.hid hd1
    have HB1 := Lib.hid b1
    clear hd1 b1
    go_wp2_with fail
    cases b2 : stands [40, 40] (s.data.toList.drop (i + 1)) with
    | true =>
      refine (pass_yes ⟨#[40, 40]⟩ [40, 40] rfl HD1.out hlt (by omega) hs b2).mono ?_
      rintro e W2 ⟨rfl, hd2, hi3⟩
      have HD := Lib.hid hd2
      have HB2 := Lib.hid b2
      have hi3 : i + 3 ≤ s.size := hi3
      clear hd2 b2
      go_wp2_with fail
      refine (arith_any rb s (i + 3) i d W2 HD.out.rd (by omega) hi3 hs).mono ?_
      rintro e W3 h9
      rcases h9 with ⟨ptx, k, hq, hk7, hk8, hk9, rfl, hkk7, hr7⟩ | ⟨k2, er, hq, hk7, hk8, rfl, hkk7⟩
      · have HM : Hid (r = .ok (g.put (.mk 4 qd ptx [] [])) (s.data.toList.drop k)) := Lib.hid (by
          rw [← HR.out]; exact dol_ok (dp_ar_ok HB1.out HB2.out (by rw [HFL.out, List.drop_drop]; exact hq)))
        have HD3 := Lib.hid (HD.out.step hlt hkk7 hr7)
        clear hq hkk7 hr7 HD
        have HD := HD3
        clear HD3
        obtain ⟨⟨⟨r0, r1⟩, hz⟩, ⟨p0, p1, p2, p3, p4⟩, ⟨q0, q1, q2, q3, q4⟩, hz7⟩ := HD.out.all
        have HV0 := Lib.hid (PNew.nil n (w.heap.size + 1) W3)
        obtain ⟨pk, hpk⟩ : ∃ pk : Int, pk = 4 := ⟨_, rfl⟩
        simp only [ptV, PT.kind, PT.quoted, PT.text, PT.op]
        have hnil : nm [] = ⟨#[]⟩ := rfl
        rw [← hpk]
        rw [← hpk] at HM
        obtain ⟨tb, htb⟩ : ∃ tb, nm ptx = tb := ⟨_, rfl⟩
        obtain ⟨pop, hpop⟩ : ∃ pop : Bs, pop = [] := ⟨_, rfl⟩
        obtain ⟨pw, hpw⟩ : ∃ pw : List PT, pw = [] := ⟨_, rfl⟩
        obtain ⟨ob, hob⟩ : ∃ ob, nm pop = ob := ⟨_, rfl⟩
        obtain ⟨pq, hpq⟩ : ∃ pq, pq = false := ⟨_, rfl⟩
        obtain ⟨va, vn, vc, hvv⟩ : ∃ va vn vc, Value.slice va vn vc = .slice none 0 0 := ⟨_, _, _, rfl⟩
        have HV := HV0
        rw [← hvv, ← hpw] at HV
        rw [← hpop, ← hpw] at HM
        rw [htb, ← hpop, hob, ← hpq, ← hvv]
        have HTB := Lib.hid htb
        have HOB := Lib.hid hob
        have hik : i < k := by omega
        clear htb hob hpop hpw hpq hvv hpk hnil HV0
        go_upto_region 14 with fail
        refine wp_gen (fun W => ESt rb s w W k d pk pq tb ob (.slice va vn vc) ∧ PNew n (w.heap.size + 1) W (.slice va vn vc) pw) ⟨HD.out.set hlt pk pq tb ob (.slice va vn vc), HV.out.kept (five_kept (S := (· = w.heap.size)) _ rfl _ _ _ _ _) (fun k e => by omega)⟩ ?_
        intro W hW
        have HE := Lib.hid hW.1
        have HV := Lib.hid hW.2
        clear hW
        clear r0 r1 hz p0 p1 p2 p3 p4 q0 q1 q2 q3 q4 hz7
        have p0 := cell_blk HE.out.b7 0
        have p1 := cell_blk HE.out.b7 1
        have p2 := cell_blk HE.out.b7 2
        have p3 := cell_blk HE.out.b7 3
        have p4 := cell_blk HE.out.b7 4
        have q1 := froz_blk HE.out.b7 1
        simp at p0 p1 p2 p3 p4
        have hz7 := fin_at HE.out.b7
        go_wp2_with fail
        rw [← HTB.out, ← HOB.out]
        have h3 := HE.out.setQ hlt qd
        refine (put_at HS.out HOK.out hs (by omega) h3.2.1 h3.1 (.mk pk qd ptx pop pw) (.slice va vn vc) (HV.out.kept h3.2.2 (fun k e => by omega)) hik).mono ?_
        rintro e w9 ⟨rfl, hs9, ho9, hk9⟩
        have HF := Lib.hid (GPost.ok (d := d) HM.out hik hk8 hs9 ho9 hk9)
        clear h3 hs9 ho9 hk9
        go_wp2
        refine bodyPost_ret (results_none rfl _ _ _) rfl ?_
        exact HF.out
      · have HE : Hid (r = .bad (s.size - k2) er) := Lib.hid (by
          rw [← HR.out]; exact dol_bad (dp_ar_bad HB1.out HB2.out (by rw [HFL.out, List.drop_drop]; exact hq)))
        clear hq
        simp only [flt]
        go_wp2
        exact ⟨rfl, GPost.bad HE.out hk7 hk8 (kept_rb (HD.out.kept.trans hkk7))⟩
    | false =>
      refine (pass_no ⟨#[40, 40]⟩ [40, 40] rfl HD1.out hlt (by omega) hs b2).mono ?_
      rintro e W2 ⟨rfl, hd2⟩
      have HD2 := Lib.hid hd2
      have HB2 := Lib.hid b2
      clear hd2 b2 HD1
      go_wp2_with fail
      cases b3 : stands [40] (s.data.toList.drop (i + 1)) with
      | true =>
        refine (pass_yes ⟨#[40]⟩ [40] rfl HD2.out hlt (by omega) hs b3).mono ?_
        rintro e W3 ⟨rfl, hd3, hi3⟩
        have HD := Lib.hid hd3
        have HB3 := Lib.hid b3
        have hi3 : i + 2 ≤ s.size := hi3
        clear hd3 b3
        go_wp2_with fail
        refine (command_any rb s (i + 2) i d W3 HD.out.rd (by omega) hi3 hs).mono ?_
        rintro e W4 h9
        rcases h9 with ⟨ptx, k, hq, hk7, hk8, hk9, rfl, hkk7, hr7⟩ | ⟨k2, er, hq, hk7, hk8, rfl, hkk7⟩
        · have HM : Hid (r = .ok (g.put (.mk 3 qd ptx [] [])) (s.data.toList.drop k)) := Lib.hid (by
            rw [← HR.out]; exact dol_ok (dp_cmd_ok HB1.out HB2.out HB3.out (by rw [HFL.out, List.drop_drop]; exact hq)))
          have HD3 := Lib.hid (HD.out.step hlt hkk7 hr7)
          clear hq hkk7 hr7 HD
          have HD := HD3
          clear HD3
          obtain ⟨⟨⟨r0, r1⟩, hz⟩, ⟨p0, p1, p2, p3, p4⟩, ⟨q0, q1, q2, q3, q4⟩, hz7⟩ := HD.out.all
          have HV0 := Lib.hid (PNew.nil n (w.heap.size + 1) W4)
          obtain ⟨pk, hpk⟩ : ∃ pk : Int, pk = 3 := ⟨_, rfl⟩
          simp only [ptV, PT.kind, PT.quoted, PT.text, PT.op]
          have hnil : nm [] = ⟨#[]⟩ := rfl
          rw [← hpk]
          rw [← hpk] at HM
          obtain ⟨tb, htb⟩ : ∃ tb, nm ptx = tb := ⟨_, rfl⟩
          obtain ⟨pop, hpop⟩ : ∃ pop : Bs, pop = [] := ⟨_, rfl⟩
          obtain ⟨pw, hpw⟩ : ∃ pw : List PT, pw = [] := ⟨_, rfl⟩
          obtain ⟨ob, hob⟩ : ∃ ob, nm pop = ob := ⟨_, rfl⟩
          obtain ⟨pq, hpq⟩ : ∃ pq, pq = false := ⟨_, rfl⟩
          obtain ⟨va, vn, vc, hvv⟩ : ∃ va vn vc, Value.slice va vn vc = .slice none 0 0 := ⟨_, _, _, rfl⟩
          have HV := HV0
          rw [← hvv, ← hpw] at HV
          rw [← hpop, ← hpw] at HM
          rw [htb, ← hpop, hob, ← hpq, ← hvv]
          have HTB := Lib.hid htb
          have HOB := Lib.hid hob
          have hik : i < k := by omega
          clear htb hob hpop hpw hpq hvv hpk hnil HV0
          go_upto_region 14 with fail
          refine wp_gen (fun W => ESt rb s w W k d pk pq tb ob (.slice va vn vc) ∧ PNew n (w.heap.size + 1) W (.slice va vn vc) pw) ⟨HD.out.set hlt pk pq tb ob (.slice va vn vc), HV.out.kept (five_kept (S := (· = w.heap.size)) _ rfl _ _ _ _ _) (fun k e => by omega)⟩ ?_
          intro W hW
          have HE := Lib.hid hW.1
          have HV := Lib.hid hW.2
          clear hW
          clear r0 r1 hz p0 p1 p2 p3 p4 q0 q1 q2 q3 q4 hz7
          have p0 := cell_blk HE.out.b7 0
          have p1 := cell_blk HE.out.b7 1
          have p2 := cell_blk HE.out.b7 2
          have p3 := cell_blk HE.out.b7 3
          have p4 := cell_blk HE.out.b7 4
          have q1 := froz_blk HE.out.b7 1
          simp at p0 p1 p2 p3 p4
          have hz7 := fin_at HE.out.b7
          go_wp2_with fail
          rw [← HTB.out, ← HOB.out]
          have h3 := HE.out.setQ hlt qd
          refine (put_at HS.out HOK.out hs (by omega) h3.2.1 h3.1 (.mk pk qd ptx pop pw) (.slice va vn vc) (HV.out.kept h3.2.2 (fun k e => by omega)) hik).mono ?_
          rintro e w9 ⟨rfl, hs9, ho9, hk9⟩
          have HF := Lib.hid (GPost.ok (d := d) HM.out hik hk8 hs9 ho9 hk9)
          clear h3 hs9 ho9 hk9
          go_wp2
          refine bodyPost_ret (results_none rfl _ _ _) rfl ?_
          exact HF.out
        · have HE : Hid (r = .bad (s.size - k2) er) := Lib.hid (by
            rw [← HR.out]; exact dol_bad (dp_cmd_bad HB1.out HB2.out HB3.out (by rw [HFL.out, List.drop_drop]; exact hq)))
          clear hq
          simp only [flt]
          go_wp2
          exact ⟨rfl, GPost.bad HE.out hk7 hk8 (kept_rb (HD.out.kept.trans hkk7))⟩
      | false =>
        refine (pass_no ⟨#[40]⟩ [40] rfl HD2.out hlt (by omega) hs b3).mono ?_
        rintro e W3 ⟨rfl, hd3⟩
        have HD := Lib.hid hd3
        have HB3 := Lib.hid b3
        clear hd3 b3 HD2
        obtain ⟨j, hj⟩ : ∃ j, j = i + 1 := ⟨_, rfl⟩
        rw [← hj] at HD HB1 HB2 HB3 HFL HR
        have HJ := Lib.hid hj
        have hjp : i < j := by omega
        have hj2 : j ≤ s.size := by omega
        clear HIH HD0 hj
        by_cases hjs : j < s.size
        · have HO := Lib.hid (over_lit rb s j d W3 HD.out.rd false (decide_eq_false (by omega)))
          have HDR := Lib.hid (get_at s j hjs)
          have HG := Lib.hid (digit_any s[j])
          cases hdg : digit s[j] with
          | true =>
            rw [hdg] at HG
            have HM : Hid (r = .ok (g.put (.mk 2 qd [s[j]] [] [])) (s.data.toList.drop (j + 1))) := Lib.hid (by
              rw [← HR.out, HDR.out]; exact dol_ok (dp_dig (by rw [← HDR.out]; exact HB1.out) (by rw [← HDR.out]; exact HB2.out) (by rw [← HDR.out]; exact HB3.out) hdg))
            have HT := Lib.hid (take_one s j hjs)
            clear hdg
            obtain ⟨⟨⟨r0, r1⟩, hz⟩, ⟨p0, p1, p2, p3, p4⟩, ⟨q0, q1, q2, q3, q4⟩, hz7⟩ := HD.out.all
            go_wp2_with fail
            go_quiet ((first | (go_at_call 44; exact HO.out _) | (go_at_call 74; exact qs HG.out)))
            clear r0 r1 hz p0 p1 p2 p3 p4 q0 q1 q2 q3 q4 hz7
            have HD4 := Lib.hid (HD.out.step hlt (Kept.drewN nq) (rd_drewN HD.out.rd nq))
            clear HO HG
            generalize W3.drewN nq = W4 at *
            go_wp2_with fail
            refine (take_any rb s j d 1 W4 HD4.out.rd (by omega) hs).mono ?_
            rintro e W5 h9
            obtain ⟨rfl, hk5, hr5⟩ := h9
            clear HD
            have HD := Lib.hid (HD4.out.step hlt hk5 hr5)
            clear hk5 hr5 HD4
            rw [HT.out]
            have HV := Lib.hid (PNew.nil n (w.heap.size + 1) W5)
            obtain ⟨ptx, hptx⟩ : ∃ ptx : Bs, ptx = [s[j]] := ⟨_, rfl⟩
            rw [← hptx] at HM ⊢
            obtain ⟨k, hk⟩ : ∃ k, k = j + 1 := ⟨_, rfl⟩
            rw [← hk] at HD HM
            have hk8 : k ≤ s.size := by omega
            have hik0 : i < k := by omega
            clear hk hptx
            obtain ⟨⟨⟨r0, r1⟩, hz⟩, ⟨p0, p1, p2, p3, p4⟩, ⟨q0, q1, q2, q3, q4⟩, hz7⟩ := HD.out.all
            obtain ⟨tb, htb⟩ : ∃ tb, nm ptx = tb := ⟨_, rfl⟩
            rw [htb]
            have HTB := Lib.hid htb
            have hik : i < k := by omega
            clear htb
            go_upto_region 14 with fail
            refine wp_gen (fun W => ESt rb s w W k d 2 false tb ⟨#[]⟩ (.slice none 0 0) ∧ PNew n (w.heap.size + 1) W (.slice none 0 0) []) ⟨HD.out.set hlt 2 false tb ⟨#[]⟩ (.slice none 0 0), HV.out.kept (five_kept (S := (· = w.heap.size)) _ rfl _ _ _ _ _) (fun k e => by omega)⟩ ?_
            intro W hW
            have HE := Lib.hid hW.1
            have HV := Lib.hid hW.2
            clear hW
            clear r0 r1 hz p0 p1 p2 p3 p4 q0 q1 q2 q3 q4 hz7
            have p0 := cell_blk HE.out.b7 0
            have p1 := cell_blk HE.out.b7 1
            have p2 := cell_blk HE.out.b7 2
            have p3 := cell_blk HE.out.b7 3
            have p4 := cell_blk HE.out.b7 4
            have q1 := froz_blk HE.out.b7 1
            simp at p0 p1 p2 p3 p4
            have hz7 := fin_at HE.out.b7
            go_wp2_with fail
            rw [← HTB.out]
            have h3 := HE.out.setQ hlt qd
            refine (put_at HS.out HOK.out hs (by omega) h3.2.1 h3.1 (.mk 2 qd ptx [] []) (.slice none 0 0) (HV.out.kept h3.2.2 (fun k e => by omega)) hik).mono ?_
            rintro e w9 ⟨rfl, hs9, ho9, hk9⟩
            have HF := Lib.hid (GPost.ok (d := d) HM.out hik hk8 hs9 ho9 hk9)
            clear h3 hs9 ho9 hk9
            go_wp2
            refine bodyPost_ret (results_none rfl _ _ _) rfl ?_
            exact HF.out
          | false =>
            rw [hdg] at HG
            have HND : Hid (∀ c t, s.data.toList.drop j = c :: t → digit c = false) := Lib.hid fun c t h => by rw [HDR.out] at h; injection h with h1 h2; rw [← h1]; exact hdg
            clear hdg
            obtain ⟨⟨⟨r0, r1⟩, hz⟩, ⟨p0, p1, p2, p3, p4⟩, ⟨q0, q1, q2, q3, q4⟩, hz7⟩ := HD.out.all
            go_wp2_with fail
            go_quiet ((first | (go_at_call 44; exact HO.out _) | (go_at_call 74; exact qs HG.out)))
            clear r0 r1 hz p0 p1 p2 p3 p4 q0 q1 q2 q3 q4 hz7
            have HD4 := Lib.hid (HD.out.step hlt (Kept.drewN nq) (rd_drewN HD.out.rd nq))
            clear HO
            generalize W3.drewN nq = W4 at *
            go_wp2_with fail
            cases hps : paramStands (s.data.toList.drop j) with
            | true =>
              refine (pstands_any rb s j d W4 HD4.out.rd hj2 hs).mono ?_
              rw [hps]
              rintro e W5 ⟨rfl, np, rfl⟩
              have HPS := Lib.hid hps
              clear hps
              have HD5 := Lib.hid (HD4.out.step hlt (Kept.drewN np) (rd_drewN HD4.out.rd np))
              generalize W4.drewN np = W5 at *
              go_wp2_with fail
              refine (param_any rb s j d W5 HD5.out.rd hj2 hs).mono ?_
              rintro e W6 h9
              rcases h9 with ⟨ptx, k, hq, hk7, hk8, rfl, hkk7, hr7⟩ | ⟨k2, er, hq, hk7, hk8, rfl, hkk7⟩
              · have HM : Hid (r = .ok (g.put (.mk 2 qd ptx [] [])) (s.data.toList.drop k)) := Lib.hid (by
                  rw [← HR.out]; exact dol_ok (dp_par_ok HB1.out HB2.out HB3.out HND.out HPS.out hq))
                clear HD HD4
                have HD := Lib.hid (HD5.out.step hlt hkk7 hr7)
                have HV := Lib.hid (PNew.nil n (w.heap.size + 1) W6)
                clear hq hkk7 hr7 HD5
                obtain ⟨⟨⟨r0, r1⟩, hz⟩, ⟨p0, p1, p2, p3, p4⟩, ⟨q0, q1, q2, q3, q4⟩, hz7⟩ := HD.out.all
                obtain ⟨tb, htb⟩ : ∃ tb, nm ptx = tb := ⟨_, rfl⟩
                rw [htb]
                have HTB := Lib.hid htb
                have hik : i < k := by omega
                clear htb
                go_upto_region 14 with fail
                refine wp_gen (fun W => ESt rb s w W k d 2 false tb ⟨#[]⟩ (.slice none 0 0) ∧ PNew n (w.heap.size + 1) W (.slice none 0 0) []) ⟨HD.out.set hlt 2 false tb ⟨#[]⟩ (.slice none 0 0), HV.out.kept (five_kept (S := (· = w.heap.size)) _ rfl _ _ _ _ _) (fun k e => by omega)⟩ ?_
                intro W hW
                have HE := Lib.hid hW.1
                have HV := Lib.hid hW.2
                clear hW
                clear r0 r1 hz p0 p1 p2 p3 p4 q0 q1 q2 q3 q4 hz7
                have p0 := cell_blk HE.out.b7 0
                have p1 := cell_blk HE.out.b7 1
                have p2 := cell_blk HE.out.b7 2
                have p3 := cell_blk HE.out.b7 3
                have p4 := cell_blk HE.out.b7 4
                have q1 := froz_blk HE.out.b7 1
                simp at p0 p1 p2 p3 p4
                have hz7 := fin_at HE.out.b7
                go_wp2_with fail
                rw [← HTB.out]
                have h3 := HE.out.setQ hlt qd
                refine (put_at HS.out HOK.out hs (by omega) h3.2.1 h3.1 (.mk 2 qd ptx [] []) (.slice none 0 0) (HV.out.kept h3.2.2 (fun k e => by omega)) hik).mono ?_
                rintro e w9 ⟨rfl, hs9, ho9, hk9⟩
                have HF := Lib.hid (GPost.ok (d := d) HM.out hik hk8 hs9 ho9 hk9)
                clear h3 hs9 ho9 hk9
                go_wp2
                refine bodyPost_ret (results_none rfl _ _ _) rfl ?_
                exact HF.out
              · have HE : Hid (r = .bad (s.size - k2) er) := Lib.hid (by
                  rw [← HR.out]; exact dol_bad (dp_par_bad HB1.out HB2.out HB3.out HND.out HPS.out hq))
                clear hq
                simp only [flt]
                go_wp2
                exact ⟨rfl, GPost.bad HE.out (by omega) hk8 (kept_rb (HD5.out.kept.trans hkk7))⟩
            | false =>
              refine (pstands_any rb s j d W4 HD4.out.rd hj2 hs).mono ?_
              rw [hps]
              rintro e W5 ⟨rfl, np, rfl⟩
              have HM : Hid (r = .ok (g.add [36] qd) (s.data.toList.drop j)) := Lib.hid (by
                rw [← HR.out]; exact dol_none (dp_none HB1.out HB2.out HB3.out HND.out hps))
              clear hps
              have HD5 := Lib.hid (HD4.out.step hlt (Kept.drewN np) (rd_drewN HD4.out.rd np))
              generalize W4.drewN np = W5 at *
              have hok := HOK.out
              have hgs : g.ps.length ≤ 50000 ∧ g.tx.length ≤ 50000 := by unfold Gok at hok; omega
              have HS5 := Lib.hid (HS.out.read HD5.out.kept HD5.out.rd)
              clear hok
              go_wp2_with fail
              refine (add_any n gb g [36] qd W5 HS5.out.ga hgs.1 hgs.2 (by simp)).mono ?_
              rintro e W6 ⟨rfl, hg6, hk6⟩
              have HF := Lib.hid (GPost.ok (d := d) HM.out hjp hj2 (HS5.out.gath hg6 hk6) (HOK.out.add _ _ hjp (by have := HJ.out; simp; omega)) ((kept_rb HD5.out.kept).trans (kept_gb hk6)))
              clear hg6 hk6
              go_wp2
              refine bodyPost_ret (results_none rfl _ _ _) rfl ?_
              exact HF.out
        · have HO := Lib.hid (over_lit rb s j d W3 HD.out.rd true (decide_eq_true (by omega)))
          have HND : Hid (∀ c t, s.data.toList.drop j = c :: t → digit c = false) := Lib.hid fun c t h => by rw [drop_nil s j (by omega)] at h; cases h
          obtain ⟨⟨⟨r0, r1⟩, hz⟩, ⟨p0, p1, p2, p3, p4⟩, ⟨q0, q1, q2, q3, q4⟩, hz7⟩ := HD.out.all
          go_wp2_with fail
          go_quiet ((first | (go_at_call 44; exact HO.out _)))
          clear r0 r1 hz p0 p1 p2 p3 p4 q0 q1 q2 q3 q4 hz7
          have HD4 := Lib.hid (HD.out.step hlt (Kept.drewN nq) (rd_drewN HD.out.rd nq))
          clear HO
          generalize W3.drewN nq = W4 at *
          go_wp2_with fail
          cases hps : paramStands (s.data.toList.drop j) with
          | true =>
            refine (pstands_any rb s j d W4 HD4.out.rd hj2 hs).mono ?_
            rw [hps]
            rintro e W5 ⟨rfl, np, rfl⟩
            have HPS := Lib.hid hps
            clear hps
            have HD5 := Lib.hid (HD4.out.step hlt (Kept.drewN np) (rd_drewN HD4.out.rd np))
            generalize W4.drewN np = W5 at *
            go_wp2_with fail
            refine (param_any rb s j d W5 HD5.out.rd hj2 hs).mono ?_
            rintro e W6 h9
            rcases h9 with ⟨ptx, k, hq, hk7, hk8, rfl, hkk7, hr7⟩ | ⟨k2, er, hq, hk7, hk8, rfl, hkk7⟩
            · have HM : Hid (r = .ok (g.put (.mk 2 qd ptx [] [])) (s.data.toList.drop k)) := Lib.hid (by
                rw [← HR.out]; exact dol_ok (dp_par_ok HB1.out HB2.out HB3.out HND.out HPS.out hq))
              clear HD HD4
              have HD := Lib.hid (HD5.out.step hlt hkk7 hr7)
              have HV := Lib.hid (PNew.nil n (w.heap.size + 1) W6)
              clear hq hkk7 hr7 HD5
              obtain ⟨⟨⟨r0, r1⟩, hz⟩, ⟨p0, p1, p2, p3, p4⟩, ⟨q0, q1, q2, q3, q4⟩, hz7⟩ := HD.out.all
              obtain ⟨tb, htb⟩ : ∃ tb, nm ptx = tb := ⟨_, rfl⟩
              rw [htb]
              have HTB := Lib.hid htb
              have hik : i < k := by omega
              clear htb
              go_upto_region 14 with fail
              refine wp_gen (fun W => ESt rb s w W k d 2 false tb ⟨#[]⟩ (.slice none 0 0) ∧ PNew n (w.heap.size + 1) W (.slice none 0 0) []) ⟨HD.out.set hlt 2 false tb ⟨#[]⟩ (.slice none 0 0), HV.out.kept (five_kept (S := (· = w.heap.size)) _ rfl _ _ _ _ _) (fun k e => by omega)⟩ ?_
              intro W hW
              have HE := Lib.hid hW.1
              have HV := Lib.hid hW.2
              clear hW
              clear r0 r1 hz p0 p1 p2 p3 p4 q0 q1 q2 q3 q4 hz7
              have p0 := cell_blk HE.out.b7 0
              have p1 := cell_blk HE.out.b7 1
              have p2 := cell_blk HE.out.b7 2
              have p3 := cell_blk HE.out.b7 3
              have p4 := cell_blk HE.out.b7 4
              have q1 := froz_blk HE.out.b7 1
              simp at p0 p1 p2 p3 p4
              have hz7 := fin_at HE.out.b7
              go_wp2_with fail
              rw [← HTB.out]
              have h3 := HE.out.setQ hlt qd
              refine (put_at HS.out HOK.out hs (by omega) h3.2.1 h3.1 (.mk 2 qd ptx [] []) (.slice none 0 0) (HV.out.kept h3.2.2 (fun k e => by omega)) hik).mono ?_
              rintro e w9 ⟨rfl, hs9, ho9, hk9⟩
              have HF := Lib.hid (GPost.ok (d := d) HM.out hik hk8 hs9 ho9 hk9)
              clear h3 hs9 ho9 hk9
              go_wp2
              refine bodyPost_ret (results_none rfl _ _ _) rfl ?_
              exact HF.out
            · have HE : Hid (r = .bad (s.size - k2) er) := Lib.hid (by
                rw [← HR.out]; exact dol_bad (dp_par_bad HB1.out HB2.out HB3.out HND.out HPS.out hq))
              clear hq
              simp only [flt]
              go_wp2
              exact ⟨rfl, GPost.bad HE.out (by omega) hk8 (kept_rb (HD5.out.kept.trans hkk7))⟩
          | false =>
            refine (pstands_any rb s j d W4 HD4.out.rd hj2 hs).mono ?_
            rw [hps]
            rintro e W5 ⟨rfl, np, rfl⟩
            have HM : Hid (r = .ok (g.add [36] qd) (s.data.toList.drop j)) := Lib.hid (by
              rw [← HR.out]; exact dol_none (dp_none HB1.out HB2.out HB3.out HND.out hps))
            clear hps
            have HD5 := Lib.hid (HD4.out.step hlt (Kept.drewN np) (rd_drewN HD4.out.rd np))
            generalize W4.drewN np = W5 at *
            have hok := HOK.out
            have hgs : g.ps.length ≤ 50000 ∧ g.tx.length ≤ 50000 := by unfold Gok at hok; omega
            have HS5 := Lib.hid (HS.out.read HD5.out.kept HD5.out.rd)
            clear hok
            go_wp2_with fail
            refine (add_any n gb g [36] qd W5 HS5.out.ga hgs.1 hgs.2 (by simp)).mono ?_
            rintro e W6 ⟨rfl, hg6, hk6⟩
            have HF := Lib.hid (GPost.ok (d := d) HM.out hjp hj2 (HS5.out.gath hg6 hk6) (HOK.out.add _ _ hjp (by have := HJ.out; simp; omega)) ((kept_rb HD5.out.kept).trans (kept_gb hk6)))
            clear hg6 hk6
            go_wp2
            refine bodyPost_ret (results_none rfl _ _ _) rfl ?_
            exact HF.out

end Go.Proofs.Ytgajbehlggikdaa.Wd
