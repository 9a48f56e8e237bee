/- DERIVED. The walk over the reader's parts, at every depth. -/
import Derived.Test.YtgajbehlggikdaaWdDbl
namespace Go.Proofs.Ytgajbehlggikdaa.Wd
open Go.RowKit
open PathM WdM
set_option linter.unusedVariables false

theorem five_at : ∀ (ps : List (PT × Value)) (i : Nat), i < ps.length → ∀ k, k < 5 → (ps.flatMap ptC)[i * 5 + k]? = (ptC (ptAt ps i))[k]? := by
  intro ps
  induction ps with
  | nil => intro i hi; simp at hi
  | cons p ps ih =>
    intro i hi k hk
    have h5 : (ptC p).length = 5 := rfl
    rw [List.flatMap_cons]
    cases i with
    | zero => rw [Nat.zero_mul, Nat.zero_add, List.getElem?_append_left (by omega)]; rfl
    | succ i =>
      rw [List.getElem?_append_right (by omega), h5, show (i + 1) * 5 + k - 5 = i * 5 + k from by omega, ih i (by simpa using hi) k hk]
      rfl
theorem ptAt_mem {ps : List (PT × Value)} {i : Nat} (h : i < ps.length) : ptAt ps i ∈ ps := by
  unfold ptAt
  rw [List.getD_eq_getElem?_getD, List.getElem?_eq_getElem h]
  exact List.getElem_mem h
theorem GIn.pnew {d z : Nat} {w : World} {gb : Nat} {g : Ga} {pv tv : Value} {ps : List (PT × Value)} (h : GIn d w gb g pv tv ps) (hz : z ≤ gb) (hl : g.ps.length ≤ 1954687338211) : PNew (d + 1) z w pv g.ps := by
  have hpl : g.ps.length = ps.length := by rw [h.parts, List.length_map]
  rcases row_form h.prow with ⟨rfl, h0⟩ | ⟨b, cap, rfl⟩
  · have : g.ps = [] := List.length_eq_zero_iff.1 (by omega)
    rw [this]
    exact PNew.nil _ _ _
  · have hcap : ps.length ≤ cap := by
      rcases h.prow.2 with ⟨h1, _⟩ | ⟨g', cap', cur, h1, _, _, h2, _⟩
      · cases h1
      · cases h1; exact h2
    refine ⟨some ⟨b, 0, none⟩, cap, ps, by rw [hpl], h.parts, ⟨hl, by rw [hpl]; exact hcap⟩, fun _ => ⟨b, 0, rfl, ?_, fun i hi => ?_⟩⟩
    · obtain ⟨cs, hcs⟩ := row_type h.prow rfl
      exact ⟨by have := (h.prow.lt b rfl).1; omega, cs, _, hcs⟩
    · have hc : ∀ k u, k < 5 → (ptC (ptAt ps i))[k]? = some u → w.cell? ⟨b, 0 + i * 5 + k, none⟩ = some u := fun k u hk hu => by
        rw [Nat.zero_add]
        exact (row_cell h.prow (i * 5 + k) u ((five_at ps i hi k hk).trans hu)).1
      exact ⟨hc 0 _ (by decide) rfl, hc 1 _ (by decide) rfl, hc 2 _ (by decide) rfl, hc 3 _ (by decide) rfl, hc 4 _ (by decide) rfl,
        PIn.mono (fun k _ hk => ⟨by have := hk.1; omega, hk.2.2.2.2⟩) d _ _ (h.subs _ (ptAt_mem hi))⟩
theorem ga_new (d : Nat) (w : World) : GaIn d (w.alloc (.cells #[.slice none 0 0, .slice none 0 0, .bool false, .bool false] 88)) w.heap.size .empty := by
  have hb := heap_alloc_new w (.cells #[.slice none 0 0, .slice none 0 0, .bool false, .bool false] 88)
  refine ⟨.slice none 0 0, .slice none 0 0, [], hb, rfl, ⟨rfl, .inl ⟨rfl, rfl⟩⟩, ⟨rfl, .inl ⟨rfl, rfl⟩⟩, fun k hk => (by cases hk), fun p hp => (by cases hp)⟩
section
variable {rec : Rec} {ends : UInt8 → Bool} {q : Bool} {N : Nat} {g g' : Ga} {c : UInt8} {t l' : Bs} {a : Nat} {e : Int}
theorem pl_nil : ploop rec ends q N g [] = .ok g [] := by cases N <;> rfl
theorem pl_end (h : ends c = true) : ploop rec ends q (N + 1) g (c :: t) = .ok g (c :: t) := by unfold ploop; simp only [h, if_true]
theorem pl_bad (h : ends c = false) (hs : WdM.step rec g q (c :: t) = .bad a e) : ploop rec ends q (N + 1) g (c :: t) = .bad a e := by unfold ploop; simp only [h, hs, Bool.false_eq_true, if_false]
theorem pl_go (h : ends c = false) (hs : WdM.step rec g q (c :: t) = .ok g' l') : ploop rec ends q (N + 1) g (c :: t) = ploop rec ends q N g' l' := by
  rw [ploop]; simp only [h, hs, Bool.false_eq_true, if_false]
theorem st_sgl (h : c = 39) : WdM.step rec g q (c :: t) = single g t := by subst h; rfl
theorem st_dbl (h : c = 34) : WdM.step rec g q (c :: t) = double rec g t := by subst h; rfl
theorem st_pie (h1 : ¬ c = 39) (h2 : ¬ c = 34) : WdM.step rec g q (c :: t) = piece rec (fun _ => true) g q (c :: t) := by unfold WdM.step; simp only [h1, h2, if_false]
end
/-- What the loop comes to, as parts. -/
def shut (m : Rs Ga) : Rs (List PT) := match m with
  | .bad a e => .bad a e
  | .ok g r => .ok g.close.ps r
/-- In the loop. -/
structure Pl (n rb : Nat) (s : ByteArray) (i d : Nat) (ends : UInt8 → Bool) (qd : Bool) (r : Rs (List PT)) (w : World) (k : Nat) (wr : World) (j : Nat) (g : Ga) : Prop where
  st : St n wr rb w.heap.size s j d g
  ok : Gok g j
  kept : Kept (· = rb) w wr
  le : i ≤ j
  le2 : j ≤ s.size
  num : k = s.size - j
  eq : ∃ N, s.size - j + 1 ≤ N ∧ shut (ploop (recN n) ends qd N g (s.data.toList.drop j)) = r
theorem kept_both {w a b : World} {rb : Nat} (h : Kept (· = rb) w a) (k : Kept (Both rb w.heap.size) a b) : Kept (· = rb) w b := h.then k fun i hi e => by
  rcases e with e | e
  · exact e
  · omega
def DoubleOk (n : Nat) : Prop := ∀ (rb gb : Nat) (s : ByteArray) (i d : Nat) (g : Ga) (w : World), St n w rb gb s i d g → i < s.size → s.size ≤ 8192 → d + n = 16 → Gok g i →
  Calls Try.prog 46 #[.pointer (some ⟨rb, 0, none⟩), .pointer (some ⟨gb, 0, none⟩)] w (GPost n rb gb s i d w (double (recN n) g (s.data.toList.drop (i + 1))))
theorem doubleOk (n : Nat) (IH : ∀ m, n = m + 1 → PartsOk m) : DoubleOk n := fun rb gb s i d g w h hi hs hd hok => double_any n (pieceOk n IH) rb gb s i d g w h hi hs hd hok
set_option maxRecDepth 100000 in
set_option maxHeartbeats 3200000 in
theorem parts_any (n : Nat) (IH : ∀ m, n = m + 1 → PartsOk m) : PartsOk n := by
  intro F ends hF rb s i d qd w h hi hs hd
  obtain ⟨r, hr⟩ : ∃ r, partsR (recN n) ends qd (s.data.toList.drop i) = r := ⟨_, rfl⟩
  rw [hr]
  have HPI := Lib.hid (pieceOk n IH)
  have HDB := Lib.hid (doubleOk n IH)
  have HHD := Lib.hid hd
  have hbl0 := bad_len s i
  have HR : Hid (shut (ploop (recN n) ends qd (s.size - i + 1) .empty (s.data.toList.drop i)) = r) := Lib.hid (by rw [← hr, ← hbl0]; rfl)
  have e1 := hF.enters
  have HK := Lib.hid hF.calls
  have hlt := rd_lt h
  have HRD := Lib.hid h
  clear IH hd hbl0 hr h hF
  go_enter Try.func38, Try.ntmps38
  go_wp2_with fail
  go_loopg [] (s.size - i) (fun k wr => ∃ j g, Hid (Pl n rb s i d ends qd r w k wr j g))
  case atStart => exact ⟨i, .empty, Lib.hid ⟨⟨rd_alloc HRD.out _, ga_new n w, hlt⟩, ⟨Nat.zero_le _, Nat.zero_le _⟩, kept_alloc _ _, Nat.le_refl _, hi, rfl, _, Nat.le_refl _, HR.out⟩⟩
  case round =>
    obtain ⟨j, g, HJ⟩ := hrel
    clear HR HRD
    obtain ⟨N, hN, he⟩ := HJ.out.eq
    have hij := HJ.out.le
    have hjs := HJ.out.le2
    have hnum := HJ.out.num
    have HE := Lib.hid he
    clear he
    obtain ⟨M, rfl⟩ : ∃ M, N = M + 1 := ⟨N - 1, by omega⟩
    have r0 := rd_s HJ.out.st.rd
    have r1 := rd_at HJ.out.st.rd
    have hz := rd_lt HJ.out.st.rd
    by_cases hend : j = s.size
    · have HO := Lib.hid (over_lit rb s j d wr HJ.out.st.rd true (decide_eq_true hend))
      have HEND : Hid (ploop (recN n) ends qd (M + 1) g (s.data.toList.drop j) = .ok g (s.data.toList.drop j)) := Lib.hid (by rw [drop_nil s j (by omega), pl_nil])
      have HEX : Hid (j = s.size ∨ ∃ h : j < s.size, ends s[j] = true) := Lib.hid (.inl hend)
      clear hend
      go_wp2_with fail
      go_quiet ((first | (go_at_call 44; exact HO.out _)))
      have HS5 := Lib.hid (And.intro (HJ.out.st.drewN nq) HJ.out.ok)
      have HK5 := Lib.hid (HJ.out.kept.trans (Kept.drewN nq))
      clear r0 r1 hz HO
      generalize wr.drewN nq = w5 at *
      have HRES : Hid (r = .ok g.close.ps (s.data.toList.drop j)) := Lib.hid (by rw [← HE.out, HEND.out]; rfl)
      have hpl : g.ps.length ≤ 100000 ∧ g.tx.length ≤ 100000 := by have := HS5.out.2; unfold Gok at this; omega
      obtain ⟨pv, tv, ps, hg⟩ := HS5.out.1.ga
      have HPL := Lib.hid hg.prow.lt
      go_wp2_with fail
      refine (close_any n w.heap.size g pv tv ps w5 hg hpl.1 hpl.2).mono ?_
      rintro e w6 ⟨rfl, hf6, hk6⟩
      obtain ⟨pv2, tv2, ps2, hg2, _⟩ := hf6
      have HK6 := Lib.hid (hk6.mono (S' := Both rb w.heap.size) (fun k e => by
        rcases e with e | e
        · exact .inr (by omega)
        · exact .inr (by have := (HPL.out _ e).1; omega)))
      have hcl := close_len g
      have HN := Lib.hid (hg2.pnew (Nat.le_refl _) (by omega))
      have HR6 := Lib.hid (hk6.at HS5.out.1.rd (fun e => by
        rcases e with e | e
        · have := HS5.out.1.lt; omega
        · have := (HPL.out _ e).1; have := HS5.out.1.lt; omega))
      obtain ⟨pa, pn, pc, hpv⟩ := HN.out.form
      subst hpv
      have b0 := cell_blk hg2.box 0
      simp at b0
      have hz := fin_at hg2.box
      have HK7 := Lib.hid (kept_both HK5.out HK6.out)
      clear hg2 hk6 hg hpl hcl
      go_wp2
      go_ret
      rw [HRES.out]
      exact .inl ⟨_, j, rfl, HJ.out.le, HJ.out.le2, HEX.out, _, rfl, HN.out, HR6.out, HK7.out⟩
    · have hjl : j < s.size := by omega
      have HO := Lib.hid (over_lit rb s j d wr HJ.out.st.rd false (decide_eq_false hend))
      have HDR := Lib.hid (get_at s j hjl)
      have HKJ := Lib.hid (HK.out s[j])
      clear hend
      cases hc : ends s[j] with
      | true =>
        rw [hc] at HKJ
        have HEND : Hid (ploop (recN n) ends qd (M + 1) g (s.data.toList.drop j) = .ok g (s.data.toList.drop j)) := Lib.hid (by rw [HDR.out, pl_end hc])
        have HEX : Hid (j = s.size ∨ ∃ h : j < s.size, ends s[j] = true) := Lib.hid (.inr ⟨hjl, hc⟩)
        clear hc
        go_wp2_with fail
        go_quiet ((first | (go_at_call 44; exact HO.out _) | (go_at_fn F; exact qs HKJ.out)))
        have HS5 := Lib.hid (And.intro (HJ.out.st.drewN nq) HJ.out.ok)
        have HK5 := Lib.hid (HJ.out.kept.trans (Kept.drewN nq))
        clear r0 r1 hz HO
        generalize wr.drewN nq = w5 at *
        have HRES : Hid (r = .ok g.close.ps (s.data.toList.drop j)) := Lib.hid (by rw [← HE.out, HEND.out]; rfl)
        have hpl : g.ps.length ≤ 100000 ∧ g.tx.length ≤ 100000 := by have := HS5.out.2; unfold Gok at this; omega
        obtain ⟨pv, tv, ps, hg⟩ := HS5.out.1.ga
        have HPL := Lib.hid hg.prow.lt
        go_wp2_with fail
        refine (close_any n w.heap.size g pv tv ps w5 hg hpl.1 hpl.2).mono ?_
        rintro e w6 ⟨rfl, hf6, hk6⟩
        obtain ⟨pv2, tv2, ps2, hg2, _⟩ := hf6
        have HK6 := Lib.hid (hk6.mono (S' := Both rb w.heap.size) (fun k e => by
          rcases e with e | e
          · exact .inr (by omega)
          · exact .inr (by have := (HPL.out _ e).1; omega)))
        have hcl := close_len g
        have HN := Lib.hid (hg2.pnew (Nat.le_refl _) (by omega))
        have HR6 := Lib.hid (hk6.at HS5.out.1.rd (fun e => by
          rcases e with e | e
          · have := HS5.out.1.lt; omega
          · have := (HPL.out _ e).1; have := HS5.out.1.lt; omega))
        obtain ⟨pa, pn, pc, hpv⟩ := HN.out.form
        subst hpv
        have b0 := cell_blk hg2.box 0
        simp at b0
        have hz := fin_at hg2.box
        have HK7 := Lib.hid (kept_both HK5.out HK6.out)
        clear hg2 hk6 hg hpl hcl
        go_wp2
        go_ret
        rw [HRES.out]
        exact .inl ⟨_, j, rfl, HJ.out.le, HJ.out.le2, HEX.out, _, rfl, HN.out, HR6.out, HK7.out⟩
      | false =>
        rw [hc] at HKJ
        have HNE := Lib.hid hc
        clear hc
        go_wp2_with fail
        go_quiet ((first | (go_at_call 44; exact HO.out _) | (go_at_fn F; exact qs HKJ.out)))
        have HS5 := Lib.hid (HJ.out.st.drewN nq)
        have HK5 := Lib.hid (HJ.out.kept.trans (Kept.drewN nq))
        clear r0 r1 hz HO HKJ
        generalize wr.drewN nq = w5 at *
        have r0 := rd_s HS5.out.rd
        have r1 := rd_at HS5.out.rd
        have hz := rd_lt HS5.out.rd
        go_wp2_with fail
        go_quiet (fail)
        have HS6 := Lib.hid (HS5.out.drewN nq)
        have HK6 := Lib.hid (HK5.out.trans (Kept.drewN nq))
        clear r0 r1 hz HS5 HK5
        generalize w5.drewN nq = w6 at *
        have b1 : ((s[j].toNat : Int) == 39) = decide (s[j] = 39) := bt s[j] 39 (by decide)
        have b2 : ((s[j].toNat : Int) == 34) = decide (s[j] = 34) := bt s[j] 34 (by decide)
        by_cases c1 : s[j] = 39
        · rw [decide_eq_true c1] at b1
          have HST : Hid (WdM.step (recN n) g qd (s[j] :: s.data.toList.drop (j + 1)) = single g (s.data.toList.drop (j + 1))) := Lib.hid (st_sgl c1)
          clear b2 c1
          go_wp2_with fail
          refine (single_any n rb w.heap.size s j d g w6 HS6.out hjl hs HJ.out.ok).mono ?_
          rintro e w7 h9
          rcases h9 with ⟨g2, k, h1, h2, h3, h4, rfl, h6, h7, h8⟩ | ⟨k, er, h1, h2, h3, rfl, h5⟩
          · have HJ2 : Hid (Pl n rb s i d ends qd r w (s.size - k) w7 k g2) := Lib.hid ⟨h6, h7, kept_both HK6.out h8, by omega, h3, rfl, M, by omega, by rw [← HE.out, HDR.out, pl_go HNE.out (HST.out.trans h1)]⟩
            clear h1 h6 h7 h8
            go_wp2
            go_roundg (s.size - k)
            case rel => exact ⟨k, g2, HJ2⟩
            case measure => omega
          · have HM : Hid (r = .bad (s.size - k) er) := Lib.hid (by rw [← HE.out, HDR.out, pl_bad HNE.out (HST.out.trans h1)]; rfl)
            have HK7 := Lib.hid (kept_both HK6.out h5)
            clear h1 h5
            simp only [flt]
            go_wp2
            refine ⟨rfl, ?_⟩
            rw [HM.out]
            exact .inr ⟨k, er, rfl, by omega, h3, rfl, HK7.out⟩
        · rw [decide_eq_false c1] at b1
          by_cases c2 : s[j] = 34
          · rw [decide_eq_true c2] at b2
            have HST : Hid (WdM.step (recN n) g qd (s[j] :: s.data.toList.drop (j + 1)) = double (recN n) g (s.data.toList.drop (j + 1))) := Lib.hid (st_dbl c2)
            clear c1 c2
            go_wp2_with fail
            refine (HDB.out rb w.heap.size s j d g w6 HS6.out hjl hs HHD.out HJ.out.ok).mono ?_
            rintro e w7 h9
            rcases h9 with ⟨g2, k, h1, h2, h3, h4, rfl, h6, h7, h8⟩ | ⟨k, er, h1, h2, h3, rfl, h5⟩
            · have HJ2 : Hid (Pl n rb s i d ends qd r w (s.size - k) w7 k g2) := Lib.hid ⟨h6, h7, kept_both HK6.out h8, by omega, h3, rfl, M, by omega, by rw [← HE.out, HDR.out, pl_go HNE.out (HST.out.trans h1)]⟩
              clear h1 h6 h7 h8
              go_wp2
              go_roundg (s.size - k)
              case rel => exact ⟨k, g2, HJ2⟩
              case measure => omega
            · have HM : Hid (r = .bad (s.size - k) er) := Lib.hid (by rw [← HE.out, HDR.out, pl_bad HNE.out (HST.out.trans h1)]; rfl)
              have HK7 := Lib.hid (kept_both HK6.out h5)
              clear h1 h5
              simp only [flt]
              go_wp2
              refine ⟨rfl, ?_⟩
              rw [HM.out]
              exact .inr ⟨k, er, rfl, by omega, h3, rfl, HK7.out⟩
          · rw [decide_eq_false c2] at b2
            have HST : Hid (WdM.step (recN n) g qd (s[j] :: s.data.toList.drop (j + 1)) = piece (recN n) (fun _ => true) g qd (s.data.toList.drop j)) := Lib.hid (by rw [HDR.out]; exact st_pie c1 c2)
            clear c1 c2
            go_wp2_with fail
            refine (HPI.out _ _ asks_escA rb w.heap.size s j d g qd w6 HS6.out hjl hs HHD.out HJ.out.ok).mono ?_
            rintro e w7 h9
            rcases h9 with ⟨g2, k, h1, h2, h3, h4, rfl, h6, h7, h8⟩ | ⟨k, er, h1, h2, h3, rfl, h5⟩
            · have HJ2 : Hid (Pl n rb s i d ends qd r w (s.size - k) w7 k g2) := Lib.hid ⟨h6, h7, kept_both HK6.out h8, by omega, h3, rfl, M, by omega, by rw [← HE.out, HDR.out, pl_go HNE.out (HST.out.trans h1)]⟩
              clear h1 h6 h7 h8
              go_wp2
              go_roundg (s.size - k)
              case rel => exact ⟨k, g2, HJ2⟩
              case measure => omega
            · have HM : Hid (r = .bad (s.size - k) er) := Lib.hid (by rw [← HE.out, HDR.out, pl_bad HNE.out (HST.out.trans h1)]; rfl)
              have HK7 := Lib.hid (kept_both HK6.out h5)
              clear h1 h5
              simp only [flt]
              go_wp2
              refine ⟨rfl, ?_⟩
              rw [HM.out]
              exact .inr ⟨k, er, rfl, by omega, h3, rfl, HK7.out⟩
theorem partsOk : ∀ n, PartsOk n
  | 0 => parts_any 0 (fun m h => by omega)
  | n + 1 => parts_any (n + 1) (fun m h => by have : n = m := by omega
                                              exact this ▸ partsOk n)

end Go.Proofs.Ytgajbehlggikdaa.Wd
