/- DERIVED. The walk over the document's arith. -/
import Derived.Test.YtkbhjjmgacahdaaDoorWdRPar
namespace Go.Proofs.YtkbhjjmgacahdaaDoor.Wd
open Go.RowKit
open PathM WdM
set_option linter.unusedVariables false

/-- How the document's reading ends: parts, and a later place; or some fault. -/
def RP (D : Nat) (s : ByteArray) (i : Nat) (w : World) (o : Option (List PT × Bs)) (e : Ending) (w' : World) : Prop :=
  Below w.heap.size w w' ∧ ∃ (v : Value) (n er : Int), e = .returned (.agg #[v, .int .i64 n, .int .i64 er]) ∧
    ((er = 0 ∧ ∃ (k : Nat) (L : List PT), n = (k : Int) ∧ o = some (L, s.data.toList.drop k) ∧ i < k ∧ k ≤ s.size ∧ PF D w.heap.size w' v L) ∨ (er ≠ 0 ∧ o = none ∧ v = .slice none 0 0))
theorem three_set {W : World} {b : Nat} {t : TypeId} {x0 x1 x2 : Value} (h : W.heap[b]? = some (.cells #[x0, x1, x2] t (0, 0))) (y0 y1 y2 : Value) :
    (((W.setCell ⟨b, 0, none⟩ y0).setCell ⟨b, 1, none⟩ y1).setCell ⟨b, 2, none⟩ y2).heap[b]? = some (.cells #[y0, y1, y2] t (0, 0)) :=
  set_blk (j := 2) (set_blk (j := 1) (set_blk (j := 0) h y0) y1) y2
theorem three_kept {S : Nat → Prop} (W : World) {b : Nat} (hb : S b) (y0 y1 y2 : Value) : Kept S W (((W.setCell ⟨b, 0, none⟩ y0).setCell ⟨b, 1, none⟩ y1).setCell ⟨b, 2, none⟩ y2) :=
  ((Kept.setCell ⟨b, 0, none⟩ y0 hb).trans (Kept.setCell ⟨b, 1, none⟩ y1 hb)).trans (Kept.setCell ⟨b, 2, none⟩ y2 hb)
def arO : Rs Bs → Option (List PT × Bs)
  | .bad _ _ => none
  | .ok t r => some ([.mk 4 false t [] []], r)
def arithO (s : ByteArray) (i fl : Nat) : Option (List PT × Bs) := arO (arithS fl 0 [] (s.data.toList.drop (i + 3)))
/-- The fault's call, and the store behind it: the rest is the end. -/
theorem fault_end {D i : Nat} {s : ByteArray} {w w2 : World} {n er : Int} (hb : Below w.heap.size w w2) (her : er ≠ 0) {o : Option (List PT × Bs)} (ho : o = none) :
    RP D s i w o (.returned (.agg #[.slice none 0 0, .int .i64 n, .int .i64 er])) (((w2.setCell ⟨w.heap.size, 0, none⟩ (.slice none 0 0)).setCell ⟨w.heap.size, 1, none⟩ (.int .i64 n)).setCell ⟨w.heap.size, 2, none⟩ (.int .i64 er)) :=
  ⟨hb.trans ((three_kept (S := (· = w.heap.size)) w2 rfl (.slice none 0 0) (.int .i64 n) (.int .i64 er)).below hb.size (fun k e => by omega)), _, n, er, rfl, .inr ⟨her, ho, rfl⟩⟩
/-- One part by itself, its block behind the answer's. -/
theorem one_end {D i k : Nat} {s : ByteArray} {w : World} {p : PT} {o : Option (List PT × Bs)} (ho : o = some ([p], s.data.toList.drop k)) (hik : i < k) (hk : k ≤ s.size) (hw : p.word = []) :
    RP (D + 1) s i w o (.returned (.agg #[.slice (some ⟨w.heap.size + 1, 0, none⟩) 1 1, .int .i64 (k : Nat), .int .i64 0])) ((w.alloc (.cells #[.slice (some ⟨w.heap.size + 1, 0, none⟩) 1 1, .int .i64 (k : Nat), .int .i64 0] 43)).alloc (.cells #[.int .i64 p.kind, .bool p.quoted, .string (nm p.text), .string (nm p.op), .slice none 0 0] 32)) := by
  have hn := heap_alloc_new (w.alloc (.cells #[.slice (some ⟨w.heap.size + 1, 0, none⟩) 1 1, .int .i64 (k : Nat), .int .i64 0] 43)) (.cells #[.int .i64 p.kind, .bool p.quoted, .string (nm p.text), .string (nm p.op), .slice none 0 0] 32)
  simp only [World.size_alloc] at hn
  refine ⟨((Below.refl _ _).alloc (Nat.le_refl _) _).alloc (by simp only [World.size_alloc]; omega) _, _, k, 0, rfl, .inl ⟨rfl, k, [p], rfl, ho, hik, hk, ?_⟩⟩
  refine lit_pin (d := D) [(p, .slice none 0 0)] [p] hn rfl rfl (Nat.le_succ _) (by simp) (fun x hx => ?_)
  rw [List.mem_singleton] at hx
  subst hx
  show PIn D _ _ (.slice none 0 0) p.word
  rw [hw]
  exact PIn.nil _ _ _ _ _
set_option maxRecDepth 100000 in
set_option maxHeartbeats 3200000 in
theorem rarith_any (D : Nat) (s : ByteArray) (i fl : Nat) (w : World) (hi : i + 3 ≤ s.size) (hs : s.size ≤ 8192) :
    Calls Tryd.prog 65 #[.string s, .int .i64 i] w (RP (D + 1) s i w (arithO s i fl)) := by
  obtain ⟨m, hm⟩ : ∃ m, arithO s i fl = m := ⟨_, rfl⟩
  rw [hm]
  obtain ⟨r, hr⟩ : ∃ r, arithS fl 0 [] (s.data.toList.drop (i + 3)) = r := ⟨_, rfl⟩
  have HM : Hid (m = arO r) := Lib.hid (by rw [← hm]; unfold arithO; rw [hr])
  have HR : Hid (arithS fl 0 ((s.data.toList.drop (i + 3)).take (i + 3 - (i + 3))) (s.data.toList.drop (i + 3)) = r) := Lib.hid (by rw [Nat.sub_self, List.take_zero]; exact hr)
  have h3w : IntKind.i64.wrap ((i : Int) + 3) = (i : Int) + 3 := IntWalk.i64_in _ (by omega)
  have HZ := Lib.hid (heap_alloc_new w (.cells #[.slice none 0 0, .int .i64 0, .int .i64 0] 43))
  clear hm hr
  go_enter Tryd.func65, Tryd.ntmps65
  go_wp2_with fail
  go_loopg [5, 6] (s.size - (i + 3)) (fun g x5 x6 wr => ∃ j o : Nat, g = s.size - j ∧ x5 = .int .i64 o ∧ x6 = .int .i64 j ∧ i + 3 ≤ j ∧ j ≤ s.size ∧ o ≤ j ∧ wr = w.alloc (.cells #[.slice none 0 0, .int .i64 0, .int .i64 0] 43) ∧ Hid (arithS fl o ((s.data.toList.drop (i + 3)).take (j - (i + 3))) (s.data.toList.drop j) = r))
  case atStart => exact ⟨i + 3, 0, by omega, rfl, by go_num, by omega, by omega, by omega, rfl, HR⟩
  case round =>
    obtain ⟨j, o, rfl, rfl, rfl, hij, hjs, hoj, rfl, HI⟩ := hrel
    clear HR
    have k0 := cell_blk HZ.out 0
    have k1 := cell_blk HZ.out 1
    have k2 := cell_blk HZ.out 2
    have l0 := froz_blk HZ.out 0
    have l1 := froz_blk HZ.out 1
    have l2 := froz_blk HZ.out 2
    simp at k0 k1 k2
    by_cases hlt : j < s.size
    · have HD := Lib.hid (get_at s j hlt)
      have HH := Lib.hid (fun w => has_any (nm [39, 34, 92, 96, 10]) s[j] w (by decide))
      rw [nm_data] at HH
      cases hbad : [39, 34, 92, 96, 10].contains s[j] with
      | true =>
        rw [hbad] at HH
        have HNO : Hid (m = none) := Lib.hid (by rw [HM.out, ← HI.out, HD.out, arith_bad _ _ _ _ _ hbad]; rfl)
        clear hbad k0 k1 k2 l0 l1 l2
        go_wp2_with (go_at_call 47; refine (HH.out _).mono ?_; rintro e w' ⟨rfl, rfl⟩)
        refine (rfault_any _ _ _).mono ?_
        rintro e w2 ⟨rfl, hb2⟩
        have HC2 := Lib.hid ((hb2.block w.heap.size (by simp)).trans (heap_alloc_new w (.cells #[.slice none 0 0, .int .i64 0, .int .i64 0] 43)))
        have HB2 := Lib.hid (((Below.refl w.heap.size w).alloc (Nat.le_refl _) (.cells #[.slice none 0 0, .int .i64 0, .int .i64 0] 43)).trans (hb2.mono (by simp)))
        have k0 := cell_blk HC2.out 0
        have k1 := cell_blk HC2.out 1
        have k2 := cell_blk HC2.out 2
        have l0 := froz_blk HC2.out 0
        have l1 := froz_blk HC2.out 1
        have l2 := froz_blk HC2.out 2
        simp at k0 k1 k2
        have hz2 := fin_at HC2.out
        clear hb2
        go_wp2_with fail
        refine bodyPost_ret (results_cell_row rfl _ _ _ 43 _ (0, 0) _ rfl (three_set HC2.out _ _ _) Tryd.underlying43 rfl (by kernel_rfl)) rfl ?_
        exact fault_end HB2.out (by decide) HNO.out
      | false =>
        rw [hbad] at HH
        have hnb : ¬ [39, 34, 92, 96, 10].contains s[j] = true := by rw [hbad]; decide
        have HS2 : Hid ((if s[j] = 40 then arithS fl (o + 1) ((s.data.toList.drop (i + 3)).take (j + 1 - (i + 3))) (s.data.toList.drop (j + 1))
            else if s[j] = 41 then
              if 0 < o then arithS fl (o - 1) ((s.data.toList.drop (i + 3)).take (j + 1 - (i + 3))) (s.data.toList.drop (j + 1))
              else if stands [41] (s.data.toList.drop (j + 1)) then .ok ((s.data.toList.drop (i + 3)).take (j - (i + 3))) (s.data.toList.drop (j + 2)) else .bad ((s.data.toList.drop (j + 1)).length + 1) 61
            else arithS fl o ((s.data.toList.drop (i + 3)).take (j + 1 - (i + 3))) (s.data.toList.drop (j + 1))) = r) := Lib.hid (by
          have := HI.out
          rw [HD.out, arithS, if_neg hnb, ← take_snoc s (i + 3) j hij hlt, List.drop_drop] at this
          exact this)
        clear hbad hnb HI
        have h4 : ((s[j].toNat : Int) == 40) = decide (s[j] = 40) := bt s[j] 40 (by decide)
        have h5 : ((s[j].toNat : Int) != 41) = !decide (s[j] = 41) := bn s[j] 41 (by decide)
        by_cases c4 : s[j] = 40
        · have HN := HS2.out
          rw [if_pos c4] at HN
          have HN := Lib.hid HN
          have c5 : ¬ s[j] = 41 := fun e => by rw [c4] at e; exact absurd e (by decide)
          rw [decide_eq_true c4] at h4
          rw [decide_eq_false c5] at h5
          clear c4 c5 HS2 k0 k1 k2 l0 l1 l2
          go_wp2_with (go_at_call 47; refine (HH.out _).mono ?_; rintro e w' ⟨rfl, rfl⟩)
          go_roundg (s.size - (j + 1))
          case rel => exact ⟨j + 1, o + 1, by omega, by go_num, by go_num, by omega, by omega, by omega, rfl, HN⟩
          case measure => omega
        · rw [decide_eq_false c4] at h4
          by_cases c5 : s[j] = 41
          · rw [decide_eq_true c5] at h5
            by_cases ho : 0 < o
            · have HN := HS2.out
              rw [if_neg c4, if_pos c5, if_pos ho] at HN
              have HN := Lib.hid HN
              have ho1 : (0 : Int) ≤ (o : Int) - 1 := by omega
              clear c4 c5 HS2 k0 k1 k2 l0 l1 l2
              go_wp2_with (go_at_call 47; refine (HH.out _).mono ?_; rintro e w' ⟨rfl, rfl⟩)
              go_roundg (s.size - (j + 1))
              case rel => exact ⟨j + 1, o - 1, by omega, by go_num, by go_num, by omega, by omega, by omega, rfl, HN⟩
              case measure => omega
            · have ho0 : o = 0 := by omega
              subst ho0
              by_cases hj1 : j + 1 < s.size
              · have HD1 := Lib.hid (get_at s (j + 1) hj1)
                have hj1i : ¬ ((s.size : Int) ≤ (j : Int) + 1) := by omega
                have hj1p : (0 : Int) ≤ (j : Int) + 1 := by omega
                have hj1l : (j : Int) + 1 < (s.size : Int) := by omega
                have hj1n : ((j : Int) + 1).toNat = j + 1 := by omega
                have h6 : ((s[j + 1].toNat : Int) != 41) = !decide (s[j + 1] = 41) := bn s[j + 1] 41 (by decide)
                by_cases c6 : s[j + 1] = 41
                · rw [decide_eq_true c6] at h6
                  have HOK : Hid (m = some ([.mk 4 false ((s.data.toList.drop (i + 3)).take (j - (i + 3))) [] []], s.data.toList.drop (j + 2))) := Lib.hid (by
                    rw [HM.out, ← HS2.out, if_neg c4, if_pos c5, if_neg (by omega), HD1.out]
                    have : stands [41] (s[j + 1] :: s.data.toList.drop (j + 1 + 1)) = true := by rw [c6]; rfl
                    rw [if_pos this]
                    rfl)
                  have h3p : (0 : Int) ≤ (i : Int) + 3 := by omega
                  have h3n : ((i : Int) + 3).toNat = i + 3 := by omega
                  have h3j : (i : Int) + 3 ≤ (j : Int) := by omega
                  clear c4 c5 c6 HS2 HD1
                  go_wp2_with (go_at_call 47; refine (HH.out _).mono ?_; rintro e w' ⟨rfl, rfl⟩)
                  have hx : s.extract (i + 3) j = nm ((s.data.toList.drop (i + 3)).take (j - (i + 3))) := ext_mid s (i + 3) j
                  rw [hx]
                  generalize (s.data.toList.drop (i + 3)).take (j - (i + 3)) = t at *
                  have HE := Lib.hid (one_end (D := D) (s := s) (i := i) (w := w) (p := .mk 4 false t [] []) (k := j + 2) HOK.out (by omega) (by omega) rfl)
                  clear k0 k1 k2 l0 l1 l2 hx
                  refine bodyPost_ret (results_cell_row rfl _ _ _ 43 _ (0, 0) _ rfl ((Below.heap_alloc _ _ _ (by simp)).trans (heap_alloc_new w _)) Tryd.underlying43 rfl (by kernel_rfl)) rfl ?_
                  exact HE.out
                · rw [decide_eq_false c6] at h6
                  have HNO : Hid (m = none) := Lib.hid (by
                    rw [HM.out, ← HS2.out, if_neg c4, if_pos c5, if_neg (by omega), HD1.out]
                    have : ¬ stands [41] (s[j + 1] :: s.data.toList.drop (j + 1 + 1)) = true := fun e => c6 (by simp [stands] at e; exact e.symm)
                    rw [if_neg this]
                    rfl)
                  clear c4 c5 c6 HS2 HD1 k0 k1 k2 l0 l1 l2
                  go_wp2_with (go_at_call 47; refine (HH.out _).mono ?_; rintro e w' ⟨rfl, rfl⟩)
                  refine (rfault_any _ _ _).mono ?_
                  rintro e w2 ⟨rfl, hb2⟩
                  have HC2 := Lib.hid ((hb2.block w.heap.size (by simp)).trans (heap_alloc_new w (.cells #[.slice none 0 0, .int .i64 0, .int .i64 0] 43)))
                  have HB2 := Lib.hid (((Below.refl w.heap.size w).alloc (Nat.le_refl _) (.cells #[.slice none 0 0, .int .i64 0, .int .i64 0] 43)).trans (hb2.mono (by simp)))
                  have k0 := cell_blk HC2.out 0
                  have k1 := cell_blk HC2.out 1
                  have k2 := cell_blk HC2.out 2
                  have l0 := froz_blk HC2.out 0
                  have l1 := froz_blk HC2.out 1
                  have l2 := froz_blk HC2.out 2
                  simp at k0 k1 k2
                  have hz2 := fin_at HC2.out
                  clear hb2
                  go_wp2_with fail
                  refine bodyPost_ret (results_cell_row rfl _ _ _ 43 _ (0, 0) _ rfl (three_set HC2.out _ _ _) Tryd.underlying43 rfl (by kernel_rfl)) rfl ?_
                  exact fault_end HB2.out (by decide) HNO.out
              · have HNO : Hid (m = none) := Lib.hid (by
                  rw [HM.out, ← HS2.out, if_neg c4, if_pos c5, if_neg (by omega), drop_nil s (j + 1) (by omega)]
                  rfl)
                have hj1i : ((s.size : Int) ≤ (j : Int) + 1) := by omega
                clear c4 c5 HS2 k0 k1 k2 l0 l1 l2
                go_wp2_with (go_at_call 47; refine (HH.out _).mono ?_; rintro e w' ⟨rfl, rfl⟩)
                refine (rfault_any _ _ _).mono ?_
                rintro e w2 ⟨rfl, hb2⟩
                have HC2 := Lib.hid ((hb2.block w.heap.size (by simp)).trans (heap_alloc_new w (.cells #[.slice none 0 0, .int .i64 0, .int .i64 0] 43)))
                have HB2 := Lib.hid (((Below.refl w.heap.size w).alloc (Nat.le_refl _) (.cells #[.slice none 0 0, .int .i64 0, .int .i64 0] 43)).trans (hb2.mono (by simp)))
                have k0 := cell_blk HC2.out 0
                have k1 := cell_blk HC2.out 1
                have k2 := cell_blk HC2.out 2
                have l0 := froz_blk HC2.out 0
                have l1 := froz_blk HC2.out 1
                have l2 := froz_blk HC2.out 2
                simp at k0 k1 k2
                have hz2 := fin_at HC2.out
                clear hb2
                go_wp2_with fail
                refine bodyPost_ret (results_cell_row rfl _ _ _ 43 _ (0, 0) _ rfl (three_set HC2.out _ _ _) Tryd.underlying43 rfl (by kernel_rfl)) rfl ?_
                exact fault_end HB2.out (by decide) HNO.out
          · have HN := HS2.out
            rw [if_neg c4, if_neg c5] at HN
            have HN := Lib.hid HN
            rw [decide_eq_false c5] at h5
            clear c4 c5 HS2 k0 k1 k2 l0 l1 l2
            go_wp2_with (go_at_call 47; refine (HH.out _).mono ?_; rintro e w' ⟨rfl, rfl⟩)
            go_roundg (s.size - (j + 1))
            case rel => exact ⟨j + 1, o, by omega, rfl, by go_num, by omega, by omega, by omega, rfl, HN⟩
            case measure => omega
    · have HNO : Hid (m = none) := Lib.hid (by rw [HM.out, ← HI.out, drop_nil s j (by omega)]; rfl)
      clear k0 k1 k2 l0 l1 l2
      go_wp2_with fail
      refine (rfault_any _ _ _).mono ?_
      rintro e w2 ⟨rfl, hb2⟩
      have HC2 := Lib.hid ((hb2.block w.heap.size (by simp)).trans (heap_alloc_new w (.cells #[.slice none 0 0, .int .i64 0, .int .i64 0] 43)))
      have HB2 := Lib.hid (((Below.refl w.heap.size w).alloc (Nat.le_refl _) (.cells #[.slice none 0 0, .int .i64 0, .int .i64 0] 43)).trans (hb2.mono (by simp)))
      have k0 := cell_blk HC2.out 0
      have k1 := cell_blk HC2.out 1
      have k2 := cell_blk HC2.out 2
      have l0 := froz_blk HC2.out 0
      have l1 := froz_blk HC2.out 1
      have l2 := froz_blk HC2.out 2
      simp at k0 k1 k2
      have hz2 := fin_at HC2.out
      clear hb2
      go_wp2_with fail
      refine bodyPost_ret (results_cell_row rfl _ _ _ 43 _ (0, 0) _ rfl (three_set HC2.out _ _ _) Tryd.underlying43 rfl (by kernel_rfl)) rfl ?_
      exact fault_end HB2.out (by decide) HNO.out

end Go.Proofs.YtkbhjjmgacahdaaDoor.Wd
