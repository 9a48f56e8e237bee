/- DERIVED. The walk over the document's Text. -/
import Derived.Test.YtkbhjjmgacahdaaDoorWdRSize
namespace Go.Proofs.YtkbhjjmgacahdaaDoor.Wd
open Go.RowKit
open PathM WdM
set_option linter.unusedVariables false

theorem cat_ex (a b : ByteArray) (na nb : Nat) (ha : a.size ≤ na) (hb : b.size ≤ nb) (h : na + nb ≤ 1000000000) : ∃ y : ByteArray, Hid (y.data.toList = a.data.toList ++ b.data.toList) ∧ y.size ≤ na + nb ∧
    ∀ W, (Op.stringOp .add a b).run Tryd.prog W = .ok (.string y) W :=
  ⟨a ++ b, Lib.hid (by simp), by simp; omega, fun W => cat_run a b (by omega) W⟩
theorem rText_app (a b : List PT) : rText (a ++ b) = rText a ++ rText b := by
  induction a with
  | nil => rw [rText]; rfl
  | cons p a ih => obtain ⟨k, q, t, o, w⟩ := p; rw [List.cons_append, rText, ih, rText]; simp [List.append_assoc]
theorem quoteT_app (a b : Bs) : quoteT (a ++ b) = quoteT a ++ quoteT b := by
  induction a with
  | nil => rfl
  | cons c a ih =>
    rw [List.cons_append, quoteT, quoteT, ih]
    split <;> simp
theorem quoteT_len (a : Bs) : a.length ≤ (quoteT a).length ∧ (quoteT a).length ≤ 4 * a.length := by
  induction a with
  | nil => exact ⟨Nat.le_refl _, Nat.le_refl _⟩
  | cons c a ih => rw [quoteT]; split <;> simp <;> omega
theorem rText_nil : rText [] = [] := by rw [rText]
/-- What a part adds is no shorter than its text, and than its word. -/
theorem rText_one (k : Int) (q : Bool) (t o : Bs) (w : List PT) : rText [.mk k q t o w] = markT q k ++ (if k = 1 then literalT q t else if k = 2 then (if o = lenT then [36, 123, 35] ++ t ++ [125] else [36, 123] ++ t ++ o ++ rText w ++ [125]) else if k = 3 then [36, 40] ++ t ++ [41] else [36, 40, 40] ++ t ++ [41, 41]) ++ markT q k := by
  rw [rText, rText_nil, List.append_nil]
theorem rText_len1 (k : Int) (q : Bool) (t o : Bs) (w : List PT) : t.length ≤ (rText [.mk k q t o w]).length := by
  rw [rText_one]
  have := (quoteT_len t).1
  split
  · unfold literalT; split <;> simp <;> omega
  · split
    · split <;> simp <;> omega
    · split <;> simp <;> omega
set_option maxRecDepth 100000 in
set_option maxHeartbeats 6400000 in
theorem rtext_any : ∀ (d : Nat) (v : Value) (l : List PT) (w : World), PA d w v l → (rText l).length ≤ 100000 →
    Calls Tryd.prog 13 #[v] w fun e w' => e = .returned (.string (nm (rText l))) ∧ Below w.heap.size w w' := by
  intro d
  induction d with
  | zero =>
    intro v l w hv hs
    obtain ⟨rfl, A, c, rfl⟩ := hv
    rw [rText_nil]
    clear hs
    go_enter Tryd.func13, Tryd.ntmps13
    go_wp2_with fail
    go_loopg [3, 4] 0 (fun g x3 x4 wr => x3 = .string (nm []) ∧ x4 = .int .i64 0 ∧ wr = w)
    case atStart => exact ⟨rfl, rfl, rfl⟩
    case round =>
      obtain ⟨rfl, rfl, rfl⟩ := hrel
      go_wp2_with fail
      go_ret
      exact ⟨rfl, Below.refl _ _⟩
  | succ d ih =>
    intro v l w hv hs
    obtain ⟨A, c, rfl, hll⟩ := PIn.shape hv
    have HV := Lib.hid hv
    have HIH := Lib.hid ih
    have HS := Lib.hid hs
    clear hv ih hs
    go_enter Tryd.func13, Tryd.ntmps13
    go_wp2_with fail
    go_loopg [3, 4] l.length (fun g x3 x4 wr => ∃ (i : Nat) (o1 : Bs), g = l.length - i ∧ x3 = .string (nm o1) ∧ x4 = .int .i64 i ∧ i ≤ l.length ∧ Hid (Below w.heap.size w wr) ∧ Hid (o1 = rText (l.take i)))
    case atStart => exact ⟨0, [], by omega, rfl, rfl, by omega, Lib.hid (Below.refl _ _), Lib.hid (by rw [List.take_zero, rText_nil])⟩
    case round =>
      obtain ⟨i, o1, rfl, rfl, rfl, hi, HB, HO⟩ := hrel
      by_cases hil : i < l.length
      · have hv2 := HV.out.below (HB.out)
        obtain ⟨d0, b, off, c', hd, hvb, _, _, hat⟩ := PIn.opened hv2 (fun e => by rw [e] at hil; simp at hil)
        obtain rfl : d = d0 := by omega
        obtain ⟨wv, a0, a1, a2, a3, a4, ap⟩ := hat i hil
        have htk : rText (l.take (i + 1)) = o1 ++ rText [l[i]] := by rw [HO.out, List.take_succ_eq_append_getElem hil, rText_app]
        have hln : o1.length + (rText [l[i]]).length ≤ 100000 := by
          have e := htk
          have e2 : rText l = rText (l.take (i + 1)) ++ rText (l.drop (i + 1)) := by rw [← rText_app, List.take_append_drop]
          have h := HS.out
          rw [e2, e] at h
          simp at h
          omega
        generalize l[i] = p at *
        obtain ⟨k2, q2, t2, o2, w2⟩ := p
        simp only [PT.kind, PT.quoted, PT.text, PT.op, PT.word] at a0 a1 a2 a3 ap
        obtain ⟨A2, c2, rfl, _⟩ := PIn.shape ap
        have HAP := Lib.hid ap
        have ht := rText_len1 k2 q2 t2 o2 w2
        have ho1 : o1.length ≤ 100000 := by omega
        have ht2 : t2.length ≤ 100000 := by omega
        cases hvb
        have hbw : b < wr.heap.size := World.block_lt_of_cell? _ _ a0
        rw [rText_one] at htk hln
        have HL := Lib.hid hln
        clear hat hv2 ap ht hln HO
        generalize hso0 : nm o1 = so at *
        have eso : so.data.toList = o1 := by rw [← hso0, nm_data]
        have hso : so.size ≤ 100000 := by rw [← hso0, nm_size]; exact ho1
        generalize hs0 : nm t2 = s at *
        have es : s.data.toList = t2 := by rw [← hs0, nm_data]
        have hs : s.size ≤ 100000 := by rw [← hs0, nm_size]; exact ht2
        obtain ⟨y1, e1, n1, c1⟩ := cat_ex ⟨#[36, 40, 40]⟩ s 3 100000 (by decide) hs (by decide)
        obtain ⟨y2, e2, n2, c3⟩ := cat_ex y1 ⟨#[41, 41]⟩ (3 + 100000) 2 n1 (by decide) (by decide)
        rw [← eso, ← es] at htk
        have HN1 : Hid (Below w.heap.size w (wr.alloc (.cells #[.int .i64 k2, .bool q2, .string s, .string (nm o2), .slice A2 w2.length c2] 32))) := Lib.hid (HB.out.alloc HB.out.size _)
        clear hso0 hs0 eso es ho1 ht2 n1
        by_cases k1 : k2 = 1
        · subst k1
          rw [if_pos rfl] at htk
          have hmf : markT false 1 = [] := rfl
          have hmt : markT true 1 = [] := rfl
          generalize hn2 : w2.length = n2w at *
          generalize nm o2 = ob at *
          cases q2 with
          | false =>
            obtain ⟨yF, eF, _, cF⟩ := cat_ex so s 100000 100000 hso hs (by decide)
            have HTK : Hid (yF.data.toList = rText (l.take (i + 1))) := Lib.hid (by rw [eF.out, htk, hmf]; simp [literalT])
            clear htk hmf hmt hn2
            go_wp2_with fail
            go_roundg (l.length - (i + 1))
            case rel => exact ⟨i + 1, yF.data.toList, rfl, by rw [nm_of], by go_num, by omega, HN1, HTK⟩
            case measure => omega
          | true =>
            have HTK0 : Hid (rText (l.take (i + 1)) = so.data.toList ++ ([39] ++ quoteT s.data.toList ++ [39])) := Lib.hid (by rw [htk, hmt]; simp [literalT])
            have HX0 := Lib.hid (heap_alloc_new wr (.cells #[.int .i64 1, .bool true, .string s, .string ob, .slice A2 n2w c2] 32))
            clear htk hmf hmt hn2
            go_wp2_with fail
            refine wp_gen (fun W => W.heap[wr.heap.size]? = some (.cells #[.int .i64 1, .bool true, .string s, .string ob, .slice A2 n2w c2] 32 (0, 0)) ∧ Below w.heap.size w W) ⟨HX0.out, HN1.out⟩ ?_
            clear HX0 HN1 HB HAP a0 a1 a2 a3 a4 hbw
            generalize wr.heap.size = bx at *
            rintro W1 ⟨h1, h3⟩
            have hx := fin_at h1
            have HN1 := Lib.hid h3
            have z0 := cell_blk h1 0
            have z1 := cell_blk h1 1
            have z2 := cell_blk h1 2
            have z3 := cell_blk h1 3
            have z4 := cell_blk h1 4
            simp at z0 z1 z2 z3 z4
            clear h1 h3
            go_loopg [6, 7] s.size (fun g x6 x7 wq => ∃ (j : Nat) (y : ByteArray), g = s.size - j ∧ x6 = .string y ∧ x7 = .int .i64 j ∧ wq = W1 ∧ j ≤ s.size ∧ Hid (y.data.toList = [39] ++ quoteT (s.data.toList.take j)) ∧ y.size ≤ 1 + 4 * j)
            case atStart => exact ⟨0, ⟨#[39]⟩, by omega, rfl, rfl, rfl, by omega, Lib.hid rfl, by decide⟩
            case round =>
              obtain ⟨j, y, rfl, rfl, rfl, rfl, hj, HY, hy⟩ := hrel
              by_cases hlt : j < s.size
              · have htk2 := take_snoc s 0 j (by omega) hlt
                rw [List.drop_zero, Nat.sub_zero, Nat.sub_zero] at htk2
                have HQT : Hid (quoteT (s.data.toList.take (j + 1)) = quoteT (s.data.toList.take j) ++ quoteT [s[j]]) := Lib.hid (by rw [htk2, quoteT_app])
                have hex : s.extract j (j + 1) = nm [s[j]] := by rw [ext_mid, get_at s j hlt, show j + 1 - j = 1 by omega]; rfl
                have h4 : ((s[j].toNat : Int) == 39) = decide (s[j] = 39) := bt s[j] 39 (by decide)
                clear htk2
                by_cases h39 : s[j] = 39
                · rw [decide_eq_true h39] at h4
                  obtain ⟨y7, e7, n7, c7⟩ := cat_ex y ⟨#[39, 92, 39, 39]⟩ (1 + 4 * j) 4 hy (by decide) (by omega)
                  have HY7 : Hid (y7.data.toList = [39] ++ quoteT (s.data.toList.take (j + 1))) := Lib.hid (by rw [e7.out, HY.out, HQT.out, h39]; simp [quoteT])
                  clear h39 hex HQT hy
                  go_wp2_with fail
                  go_roundg (s.size - (j + 1))
                  case rel => exact ⟨j + 1, y7, rfl, rfl, by go_num, rfl, by omega, HY7, by omega⟩
                  case measure => omega
                · rw [decide_eq_false h39] at h4
                  obtain ⟨e, he⟩ : ∃ e, nm [s[j]] = e := ⟨_, rfl⟩
                  have hes : e.size ≤ 4 := by rw [← he, nm_size]; simp
                  rw [he] at hex
                  obtain ⟨y7, e7, n7, c7⟩ := cat_ex y e (1 + 4 * j) 4 hy hes (by omega)
                  have HY7 : Hid (y7.data.toList = [39] ++ quoteT (s.data.toList.take (j + 1))) := Lib.hid (by rw [e7.out, HY.out, HQT.out, ← he, nm_data]; simp [quoteT, h39])
                  clear h39 HQT hy hes he
                  go_wp2_with fail
                  go_roundg (s.size - (j + 1))
                  case rel => exact ⟨j + 1, y7, rfl, rfl, by go_num, rfl, by omega, HY7, by omega⟩
                  case measure => omega
              · obtain rfl : j = s.size := by omega
                obtain ⟨y7, e7, n7, c7⟩ := cat_ex y ⟨#[39]⟩ (1 + 4 * s.size) 1 hy (by decide) (by omega)
                obtain ⟨yF, eF, _, cF⟩ := cat_ex so y7 100000 (1 + 4 * s.size + 1) hso n7 (by omega)
                have HTK : Hid (yF.data.toList = rText (l.take (i + 1))) := Lib.hid (by rw [eF.out, e7.out, HY.out, HTK0.out, List.take_of_length_le (by rw [← sizeD]; omega)])
                clear hy n7
                go_wp2_with fail
                go_roundg (l.length - (i + 1))
                case rel => exact ⟨i + 1, yF.data.toList, rfl, by rw [nm_of], by go_num, by omega, HN1, HTK⟩
                case measure => omega
        have f1 : (k2 == 1) = false := by simpa using k1
        have f3 : (k2 != 1) = true := by simpa using k1
        by_cases k22 : k2 = 2
        · subst k22
          clear k1 f1 f3
          by_cases hlen : o2 = lenT
          · have f4 : ((nm o2).toList == [108, 101, 110]) = true := by rw [hlen, listD, nm_data]; rfl
            obtain ⟨y3, e3, n3, c5⟩ := cat_ex ⟨#[36, 123, 35]⟩ s 3 100000 (by decide) hs (by decide)
            obtain ⟨y4, e4, n4, c6⟩ := cat_ex y3 ⟨#[125]⟩ (3 + 100000) 1 n3 (by decide) (by decide)
            rw [if_neg (by decide), if_pos rfl, if_pos hlen] at htk
            clear n3 hlen
            generalize hn2 : w2.length = n2w at *
            generalize nm o2 = ob at *
            clear hn2
            cases q2 with
            | false =>
              obtain ⟨yF, eF, _, cF⟩ := cat_ex so y4 100000 (3 + 100000 + 1) hso n4 (by decide)
              have HTK : Hid (yF.data.toList = rText (l.take (i + 1))) := Lib.hid (by rw [eF.out, e4.out, e3.out, htk]; simp [markT])
              clear htk
              go_wp2_with fail
              go_roundg (l.length - (i + 1))
              case rel => exact ⟨i + 1, yF.data.toList, rfl, by rw [nm_of], by go_num, by omega, HN1, HTK⟩
              case measure => omega
            | true =>
              obtain ⟨ya, ea, na, ca⟩ := cat_ex ⟨#[34]⟩ y4 1 (3 + 100000 + 1) (by decide) n4 (by decide)
              obtain ⟨yb, eb, nb, cb⟩ := cat_ex ya ⟨#[34]⟩ (1 + (3 + 100000 + 1)) 1 na (by decide) (by decide)
              obtain ⟨yF, eF, _, cF⟩ := cat_ex so yb 100000 (1 + (3 + 100000 + 1) + 1) hso nb (by decide)
              have HTK : Hid (yF.data.toList = rText (l.take (i + 1))) := Lib.hid (by rw [eF.out, eb.out, ea.out, e4.out, e3.out, htk]; simp [markT])
              clear htk
              go_wp2_with fail
              go_roundg (l.length - (i + 1))
              case rel => exact ⟨i + 1, yF.data.toList, rfl, by rw [nm_of], by go_num, by omega, HN1, HTK⟩
              case measure => omega
          · have f4 : ((nm o2).toList == [108, 101, 110]) = false := by rw [listD, nm_data]; simpa [lenT] using hlen
            rw [if_neg (by decide), if_pos rfl, if_neg hlen] at htk
            have hln := HL.out
            rw [if_neg (by decide), if_pos rfl, if_neg hlen] at hln
            simp only [List.length_append] at hln
            have ho2 : (nm o2).size ≤ 100000 := by rw [nm_size]; omega
            have hw2 : (rText w2).length ≤ 100000 := by omega
            generalize hob : nm o2 = ob at *
            have eob : ob.data.toList = o2 := by rw [← hob, nm_data]
            rw [← eob] at htk
            obtain ⟨y3, e3, n3, c5⟩ := cat_ex ⟨#[36, 123]⟩ s 2 100000 (by decide) hs (by decide)
            obtain ⟨y4, e4, n4, c6⟩ := cat_ex y3 ob (2 + 100000) 100000 n3 ho2 (by decide)
            have HQ0 : Hid ((wr.alloc (.cells #[.int .i64 2, .bool q2, .string s, .string ob, .slice A2 w2.length c2] 32)).heap[wr.heap.size]? = some (.cells #[.int .i64 2, .bool q2, .string s, .string ob, .slice A2 w2.length c2] 32 (0, 0)) ∧ PA d (wr.alloc (.cells #[.int .i64 2, .bool q2, .string s, .string ob, .slice A2 w2.length c2] 32)) (.slice A2 w2.length c2) w2) := Lib.hid ⟨heap_alloc_new wr _, PIn.alloc2 HAP.out⟩
            have HW2 := Lib.hid hw2
            obtain ⟨rw2, hrw⟩ : ∃ y : ByteArray, nm (rText w2) = y := ⟨_, rfl⟩
            have erw : rText w2 = rw2.data.toList := by rw [← hrw, nm_data]
            have hrs : rw2.size ≤ 100000 := by rw [← hrw, nm_size]; exact hw2
            rw [erw] at htk
            obtain ⟨y5, e5, n5, c7⟩ := cat_ex y4 rw2 (2 + 100000 + 100000) 100000 n4 hrs (by decide)
            obtain ⟨y6, e6, n6, c8⟩ := cat_ex y5 ⟨#[125]⟩ (2 + 100000 + 100000 + 100000) 1 n5 (by decide) (by decide)
            have HCALL : Hid (∀ W, PA d W (.slice A2 w2.length c2) w2 → Calls Tryd.prog 13 #[.slice A2 w2.length c2] W fun e w' => e = .returned (.string rw2) ∧ Below W.heap.size W w') := Lib.hid fun W hW => by
              have := HIH.out _ _ W hW HW2.out
              rw [hrw] at this
              exact this
            clear hln ho2 hw2 hob eob n3 n4 n5 hrw erw hrs hlen HL
            cases q2 with
            | false =>
              obtain ⟨yF, eF, _, cF⟩ := cat_ex so y6 100000 (2 + 100000 + 100000 + 100000 + 1) hso n6 (by decide)
              have HTK : Hid (yF.data.toList = rText (l.take (i + 1))) := Lib.hid (by rw [eF.out, e6.out, e5.out, e4.out, e3.out, htk]; simp [markT])
              clear htk n6
              have HN1b := Lib.hid HN1.out
              generalize hn2 : w2.length = n2w at *
              clear hn2
              go_wp2_with fail
              refine wp_gen (fun W => W.heap[wr.heap.size]? = some (.cells #[.int .i64 2, .bool false, .string s, .string ob, .slice A2 n2w c2] 32 (0, 0)) ∧ PA d W (.slice A2 n2w c2) w2 ∧ Below w.heap.size w W) ⟨HQ0.out.1, HQ0.out.2, HN1.out⟩ ?_
              have hwz : w.heap.size ≤ wr.heap.size := HB.out.size
              clear HQ0 HN1 HN1b HB HAP a0 a1 a2 a3 a4 hbw
              generalize wr.heap.size = bx at *
              rintro W1 ⟨h1, h2, h3⟩
              have HX := Lib.hid h1
              have hx := fin_at h1
              have HD1 := Lib.hid h3
              have HPD : Hid (PA d W1.drew (.slice A2 n2w c2) w2) := Lib.hid (h2.drewN 1)
              have HC : Hid (∀ W, Below W1.heap.size W1 W → W.cell? ⟨bx, 0, none⟩ = some (.int .i64 2) ∧ W.cell? ⟨bx, 1, none⟩ = some (.bool false) ∧ W.cell? ⟨bx, 2, none⟩ = some (.string s) ∧ W.cell? ⟨bx, 3, none⟩ = some (.string ob) ∧ W.cell? ⟨bx, 4, none⟩ = some (.slice A2 n2w c2)) := Lib.hid (fun W hW => by
                have hb := (hW.block bx hx).trans h1
                have p0 := cell_blk hb 0
                have p1 := cell_blk hb 1
                have p2 := cell_blk hb 2
                have p3 := cell_blk hb 3
                have p4 := cell_blk hb 4
                exact ⟨p0, p1, p2, p3, p4⟩)
              have S0 := Lib.hid (HC.out W1.drew (Below.refl _ _).drew)
              obtain ⟨z0, z1, z2, z3, z4⟩ := HC.out W1 (Below.refl _ _)
              clear h1 h2 h3
              go_region_held3 (fun W => W.cell? ⟨bx, 0, none⟩ = some (.int .i64 2) ∧ W.cell? ⟨bx, 1, none⟩ = some (.bool false) ∧ W.cell? ⟨bx, 2, none⟩ = some (.string s) ∧ W.cell? ⟨bx, 3, none⟩ = some (.string ob) ∧ W.cell? ⟨bx, 4, none⟩ = some (.slice A2 n2w c2))
                (first | (with_reducible exact S0.out) | (with_reducible exact S4.out))
                (first | (go_at_call 13; (with_reducible refine (HCALL.out _ HPD.out).mono ?_); rintro e w4 ⟨rfl, hb4⟩; have HB4 := Lib.hid (HD1.out.trans (((Below.refl _ _).drew.trans hb4).mono HD1.out.size)); have S4 := Lib.hid (HC.out w4 ((Below.refl _ _).drew.trans hb4)); clear hb4))
              obtain ⟨x0, x1, x2, x3, x4⟩ := S4.out
              have hx4 := World.block_lt_of_cell? _ _ x0
              go_wp2_with fail
              have HN1 := HB4
              go_roundg (l.length - (i + 1))
              case rel => exact ⟨i + 1, yF.data.toList, rfl, by rw [nm_of], by go_num, by omega, HN1, HTK⟩
              case measure => omega
            | true =>
              obtain ⟨ya, ea, na, ca⟩ := cat_ex ⟨#[34]⟩ y6 1 (2 + 100000 + 100000 + 100000 + 1) (by decide) n6 (by decide)
              obtain ⟨yb, eb, nb, cb⟩ := cat_ex ya ⟨#[34]⟩ (1 + (2 + 100000 + 100000 + 100000 + 1)) 1 na (by decide) (by decide)
              obtain ⟨yF, eF, _, cF⟩ := cat_ex so yb 100000 (1 + (2 + 100000 + 100000 + 100000 + 1) + 1) hso nb (by decide)
              have HTK : Hid (yF.data.toList = rText (l.take (i + 1))) := Lib.hid (by rw [eF.out, eb.out, ea.out, e6.out, e5.out, e4.out, e3.out, htk]; simp [markT])
              clear htk n6 na nb
              have HN1b := Lib.hid HN1.out
              generalize hn2 : w2.length = n2w at *
              clear hn2
              go_wp2_with fail
              refine wp_gen (fun W => W.heap[wr.heap.size]? = some (.cells #[.int .i64 2, .bool true, .string s, .string ob, .slice A2 n2w c2] 32 (0, 0)) ∧ PA d W (.slice A2 n2w c2) w2 ∧ Below w.heap.size w W) ⟨HQ0.out.1, HQ0.out.2, HN1.out⟩ ?_
              have hwz : w.heap.size ≤ wr.heap.size := HB.out.size
              clear HQ0 HN1 HN1b HB HAP a0 a1 a2 a3 a4 hbw
              generalize wr.heap.size = bx at *
              rintro W1 ⟨h1, h2, h3⟩
              have HX := Lib.hid h1
              have hx := fin_at h1
              have HD1 := Lib.hid h3
              have HPD : Hid (PA d W1.drew (.slice A2 n2w c2) w2) := Lib.hid (h2.drewN 1)
              have HC : Hid (∀ W, Below W1.heap.size W1 W → W.cell? ⟨bx, 0, none⟩ = some (.int .i64 2) ∧ W.cell? ⟨bx, 1, none⟩ = some (.bool true) ∧ W.cell? ⟨bx, 2, none⟩ = some (.string s) ∧ W.cell? ⟨bx, 3, none⟩ = some (.string ob) ∧ W.cell? ⟨bx, 4, none⟩ = some (.slice A2 n2w c2)) := Lib.hid (fun W hW => by
                have hb := (hW.block bx hx).trans h1
                have p0 := cell_blk hb 0
                have p1 := cell_blk hb 1
                have p2 := cell_blk hb 2
                have p3 := cell_blk hb 3
                have p4 := cell_blk hb 4
                exact ⟨p0, p1, p2, p3, p4⟩)
              have S0 := Lib.hid (HC.out W1.drew (Below.refl _ _).drew)
              obtain ⟨z0, z1, z2, z3, z4⟩ := HC.out W1 (Below.refl _ _)
              clear h1 h2 h3
              go_region_held3 (fun W => W.cell? ⟨bx, 0, none⟩ = some (.int .i64 2) ∧ W.cell? ⟨bx, 1, none⟩ = some (.bool true) ∧ W.cell? ⟨bx, 2, none⟩ = some (.string s) ∧ W.cell? ⟨bx, 3, none⟩ = some (.string ob) ∧ W.cell? ⟨bx, 4, none⟩ = some (.slice A2 n2w c2))
                (first | (with_reducible exact S0.out) | (with_reducible exact S4.out))
                (first | (go_at_call 13; (with_reducible refine (HCALL.out _ HPD.out).mono ?_); rintro e w4 ⟨rfl, hb4⟩; have HB4 := Lib.hid (HD1.out.trans (((Below.refl _ _).drew.trans hb4).mono HD1.out.size)); have S4 := Lib.hid (HC.out w4 ((Below.refl _ _).drew.trans hb4)); clear hb4))
              obtain ⟨x0, x1, x2, x3, x4⟩ := S4.out
              have hx4 := World.block_lt_of_cell? _ _ x0
              go_wp2_with fail
              have HN1 := HB4
              go_roundg (l.length - (i + 1))
              case rel => exact ⟨i + 1, yF.data.toList, rfl, by rw [nm_of], by go_num, by omega, HN1, HTK⟩
              case measure => omega
        rw [if_neg k1, if_neg k22] at htk
        have f2 : (k2 == 2) = false := by simpa using k22
        generalize hn2 : w2.length = n2w at *
        generalize nm o2 = ob at *
        clear hn2
        by_cases k3 : k2 = 3
        · subst k3
          rw [if_pos rfl] at htk
          clear k1 k22 f1 f2 f3
          obtain ⟨y3, e3, n3, c5⟩ := cat_ex ⟨#[36, 40]⟩ s 2 100000 (by decide) hs (by decide)
          obtain ⟨y4, e4, n4, c6⟩ := cat_ex y3 ⟨#[41]⟩ (2 + 100000) 1 n3 (by decide) (by decide)
          clear n3
          cases q2 with
          | false =>
            obtain ⟨yF, eF, _, cF⟩ := cat_ex so y4 100000 (2 + 100000 + 1) hso n4 (by decide)
            have HTK : Hid (yF.data.toList = rText (l.take (i + 1))) := Lib.hid (by rw [eF.out, e4.out, e3.out, htk]; simp [markT])
            clear htk
            go_wp2_with fail
            go_roundg (l.length - (i + 1))
            case rel => exact ⟨i + 1, yF.data.toList, rfl, by rw [nm_of], by go_num, by omega, HN1, HTK⟩
            case measure => omega
          | true =>
            obtain ⟨ya, ea, na, ca⟩ := cat_ex ⟨#[34]⟩ y4 1 (2 + 100000 + 1) (by decide) n4 (by decide)
            obtain ⟨yb, eb, nb, cb⟩ := cat_ex ya ⟨#[34]⟩ (1 + (2 + 100000 + 1)) 1 na (by decide) (by decide)
            obtain ⟨yF, eF, _, cF⟩ := cat_ex so yb 100000 (1 + (2 + 100000 + 1) + 1) hso nb (by decide)
            have HTK : Hid (yF.data.toList = rText (l.take (i + 1))) := Lib.hid (by rw [eF.out, eb.out, ea.out, e4.out, e3.out, htk]; simp [markT])
            clear htk
            go_wp2_with fail
            go_roundg (l.length - (i + 1))
            case rel => exact ⟨i + 1, yF.data.toList, rfl, by rw [nm_of], by go_num, by omega, HN1, HTK⟩
            case measure => omega
        · have f5 : (k2 == 3) = false := by simpa using k3
          rw [if_neg k3] at htk
          have hmf : markT false k2 = [] := rfl
          have hmt : markT true k2 = [34] := by simp [markT, k1]
          cases q2 with
          | false =>
            obtain ⟨yF, eF, _, cF⟩ := cat_ex so y2 100000 (3 + 100000 + 2) hso n2 (by decide)
            have HTK : Hid (yF.data.toList = rText (l.take (i + 1))) := Lib.hid (by rw [eF.out, e2.out, e1.out, htk]; simp [hmf])
            clear htk hmf hmt k1 k22 k3
            go_wp2_with fail
            go_roundg (l.length - (i + 1))
            case rel => exact ⟨i + 1, yF.data.toList, rfl, by rw [nm_of], by go_num, by omega, HN1, HTK⟩
            case measure => omega
          | true =>
            obtain ⟨ya, ea, na, ca⟩ := cat_ex ⟨#[34]⟩ y2 1 (3 + 100000 + 2) (by decide) n2 (by decide)
            obtain ⟨yb, eb, nb, cb⟩ := cat_ex ya ⟨#[34]⟩ (1 + (3 + 100000 + 2)) 1 na (by decide) (by decide)
            obtain ⟨yF, eF, _, cF⟩ := cat_ex so yb 100000 (1 + (3 + 100000 + 2) + 1) hso nb (by decide)
            have HTK : Hid (yF.data.toList = rText (l.take (i + 1))) := Lib.hid (by rw [eF.out, eb.out, ea.out, e2.out, e1.out, htk]; simp [hmt])
            clear htk hmf hmt k1 k22 k3
            go_wp2_with fail
            go_roundg (l.length - (i + 1))
            case rel => exact ⟨i + 1, yF.data.toList, rfl, by rw [nm_of], by go_num, by omega, HN1, HTK⟩
            case measure => omega
      · have hin : l.length ≤ i := by omega
        have HF : Hid (o1 = rText l) := Lib.hid (by rw [HO.out, List.take_of_length_le hin])
        go_wp2_with fail
        go_ret
        rw [HF.out]
        exact ⟨rfl, HB.out⟩

end Go.Proofs.YtkbhjjmgacahdaaDoor.Wd
