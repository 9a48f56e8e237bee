/- DERIVED. The walk over the document's next, over what its dollar and its parts answer. -/
import Derived.Test.YtkbhjjmgacahdaaDoorWdRPt
import Derived.Deep.RegionHeld3
import Derived.Test.YtkbhjjmgacahdaaDoorWdRPri
namespace Go.Proofs.YtkbhjjmgacahdaaDoor.Wd
open Go.RowKit
open PathM WdM
set_option linter.unusedVariables false

theorem dol_single {rec : Rec} {l : Bs} {L : List PT} {r : Bs} (h : rDol rec l = some (L, r)) : 1 ≤ psize L := by
  unfold rDol at h
  split at h
  · injection h with h; injection h with h _; rw [← h, psize_one]; omega
  · cases h
  · injection h with h; injection h with h _; rw [← h, psize_one]; omega
/-- Reading takes a byte at least. -/
theorem dol_less {rec : Rec} (hR : FitsR rec) {l : Bs} {L : List PT} {r : Bs} (h : rDol rec l = some (L, r)) : r.length ≤ l.length := by
  have h1 := fits_dol hR l L r h
  have h2 := dol_single h
  omega
theorem less_next2 {rec : Rec} (hR : FitsR rec) {c : UInt8} {t : Bs} {L : List PT} {r : Bs} (h : rNext2 rec c t = some (L, r)) : r.length ≤ t.length := by
  unfold rNext2 at h
  split at h
  · cases h
  · split at h
    · exact dol_less hR h
    · split at h
      · cases t with
        | nil => cases h
        | cons d t' =>
          simp only [] at h
          split at h
          · injection h with h; injection h with _ h; rw [← h, List.length_cons]; omega
          · injection h with h; injection h with _ h; rw [← h, List.length_cons]; omega
      · injection h with h; injection h with _ h; rw [← h]; exact Nat.le_refl _
theorem less_next {rec : Rec} (hR : FitsR rec) {c : UInt8} {t : Bs} {L : List PT} {r : Bs} (h : rNext rec c t = some (L, r)) : r.length ≤ t.length := by
  unfold rNext at h
  split at h
  · cases h
  · split at h
    · exact dol_less hR h
    · split at h
      · cases t with
        | nil => cases h
        | cons d t' =>
          simp only [] at h
          split at h
          · injection h with h; injection h with _ h; rw [← h, List.length_cons]; omega
          · injection h with h; injection h with _ h; rw [← h, List.length_cons]; omega
      · split at h
        · split at h
          · cases h
          · injection h with h; injection h with _ h; rw [← h, List.length_drop]; omega
        · split at h
          · have hr := fits_r2 hR (t.length + 1) [] t
            rw [psize_nil] at hr
            cases hx : r2 rec (t.length + 1) [] t with
            | none => rw [hx] at h; cases h
            | some x =>
              obtain ⟨L', r'⟩ := x
              have h1 := hr L' r' hx
              rw [hx] at h
              cases r' with
              | nil => cases h
              | cons d r' =>
                rw [List.length_cons] at h1
                simp only [] at h
                split at h
                · injection h with h; injection h with _ h; rw [← h]; omega
                · injection h with h; injection h with _ h; rw [← h]; omega
          · injection h with h; injection h with _ h; rw [← h]; exact Nat.le_refl _
theorem r2_fuel {rec : Rec} (hR : FitsR rec) : ∀ (k : Nat) (l : Bs) (acc : List PT) (n m : Nat), l.length ≤ k → l.length < n → l.length < m → r2 rec n acc l = r2 rec m acc l
  | k, [], acc, n, m, hk, hn, hm => by
    obtain ⟨n', rfl⟩ : ∃ n', n = n' + 1 := ⟨n - 1, by simp at hn; omega⟩
    obtain ⟨m', rfl⟩ : ∃ m', m = m' + 1 := ⟨m - 1, by simp at hm; omega⟩
    rfl
  | 0, c :: t, acc, n, m, hk, hn, hm => by simp at hk
  | k + 1, c :: t, acc, n, m, hk, hn, hm => by
    rw [List.length_cons] at hk hn hm
    obtain ⟨n', rfl⟩ : ∃ n', n = n' + 1 := ⟨n - 1, by omega⟩
    obtain ⟨m', rfl⟩ : ∃ m', m = m' + 1 := ⟨m - 1, by omega⟩
    rw [r2, r2]
    by_cases h34 : c = 34
    · rw [if_pos h34, if_pos h34]
    · rw [if_neg h34, if_neg h34]
      cases hx : rNext2 rec c t with
      | none => rfl
      | some x =>
        obtain ⟨L, r⟩ := x
        have := less_next2 hR hx
        exact r2_fuel hR k r (joinL acc L) n' m' (by omega) (by omega) (by omega)
theorem loop_fuel {rec : Rec} (hR : FitsR rec) (ends : UInt8 → Bool) : ∀ (k : Nat) (l : Bs) (acc : List PT) (n m : Nat), l.length ≤ k → l.length < n → l.length < m → rLoop rec ends n acc l = rLoop rec ends m acc l
  | k, [], acc, n, m, hk, hn, hm => by
    obtain ⟨n', rfl⟩ : ∃ n', n = n' + 1 := ⟨n - 1, by simp at hn; omega⟩
    obtain ⟨m', rfl⟩ : ∃ m', m = m' + 1 := ⟨m - 1, by simp at hm; omega⟩
    rfl
  | 0, c :: t, acc, n, m, hk, hn, hm => by simp at hk
  | k + 1, c :: t, acc, n, m, hk, hn, hm => by
    rw [List.length_cons] at hk hn hm
    obtain ⟨n', rfl⟩ : ∃ n', n = n' + 1 := ⟨n - 1, by omega⟩
    obtain ⟨m', rfl⟩ : ∃ m', m = m' + 1 := ⟨m - 1, by omega⟩
    rw [rLoop, rLoop]
    cases he : ends c with
    | true => rw [if_pos rfl, if_pos rfl]
    | false =>
      rw [if_neg (by decide), if_neg (by decide)]
      cases hx : rNext rec c t with
      | none => rfl
      | some x =>
        obtain ⟨L, r⟩ := x
        have := less_next hR hx
        exact loop_fuel hR ends k r (joinL acc L) n' m' (by omega) (by omega) (by omega)
theorem lp_r2 {rec : Rec} (hR : FitsR rec) : Lp (· == 34) (rNext2 rec) (r2 rec) where
  nil f acc := by rw [r2]
  stop f acc c t he := by rw [r2]; simp only [if_pos (show c = 34 from by simpa using he)]
  bad f acc c t he hn := by rw [r2]; simp only [if_neg (show ¬ c = 34 from by simpa using he), hn]
  go f acc c t L r he hn := by rw [r2]; simp only [if_neg (show ¬ c = 34 from by simpa using he), hn]
  fits c t := fits_next2 hR c t
theorem lp_loop {rec : Rec} (hR : FitsR rec) (ends : UInt8 → Bool) : Lp ends (rNext rec) (rLoop rec ends) where
  nil f acc := by rw [rLoop]
  stop f acc c t he := by rw [rLoop]; simp only [he, if_true]
  bad f acc c t he hn := by rw [rLoop]; simp only [he, Bool.false_eq_true, if_false, hn]
  go f acc c t L r he hn := by rw [rLoop]; simp only [he, Bool.false_eq_true, if_false, hn]
  fits c t := fits_next hR c t
theorem nil_end {D i k : Nat} {s : ByteArray} {w : World} {n : Int} {o : Option (List PT × Bs)} (hn : n = (k : Int)) (ho : o = some ([], s.data.toList.drop k)) (hik : i < k) (hk : k ≤ s.size) :
    RP D s i w o (.returned (.agg #[.slice none 0 0, .int .i64 n, .int .i64 0])) (w.alloc (.cells #[.slice none 0 0, .int .i64 n, .int .i64 0] 43)) :=
  ⟨(Below.refl _ _).alloc (Nat.le_refl _) _, _, n, 0, rfl, .inl ⟨rfl, k, [], hn, ho, hik, hk, PIn.nil _ _ _ _ _⟩⟩
set_option maxRecDepth 100000 in
set_option maxHeartbeats 6400000 in
theorem rnext2_any (rec : Rec) (D : Nat) (s : ByteArray) (i dp : Nat) (w : World) (hi : i < s.size) (hs : s.size ≤ 8192)
    (hdl : ∀ W, Calls Tryd.prog 48 #[.string s, .int .i64 i, .int .i64 dp] W (RP (D + 1) s i W (rDol rec (s.data.toList.drop (i + 1))))) :
    Calls Tryd.prog 36 #[.string s, .int .i64 i, .int .i64 2, .int .i64 dp] w (RP (D + 1) s i w (rNext2 rec s[i] (s.data.toList.drop (i + 1)))) := by
  obtain ⟨m, hm⟩ : ∃ m, rNext2 rec s[i] (s.data.toList.drop (i + 1)) = m := ⟨_, rfl⟩
  rw [hm]
  obtain ⟨i1, hi1⟩ : ∃ i1, i1 = i + 1 := ⟨_, rfl⟩
  obtain ⟨i2, hi2⟩ : ∃ i2, i2 = i1 + 1 := ⟨_, rfl⟩
  rw [← hi1] at hm
  have hi1s : i1 ≤ s.size := by omega
  have e1 : (i : Int) + 1 = (i1 : Int) := by omega
  have e2 : (i : Int) + 2 = (i2 : Int) := by omega
  have hii1 : i < i1 := by omega
  have hii2 : i < i2 := by omega
  have hii : (i : Int) ≤ (i1 : Int) := by omega
  have hi1si : (i1 : Int) ≤ (s.size : Int) := by omega
  have hisi : (i : Int) < (s.size : Int) := by omega
  have h96 : ((s[i].toNat : Int) == 96) = decide (s[i] = 96) := bt s[i] 96 (by decide)
  have h36 : ((s[i].toNat : Int) == 36) = decide (s[i] = 36) := bt s[i] 36 (by decide)
  have h92 : ((s[i].toNat : Int) == 92) = decide (s[i] = 92) := bt s[i] 92 (by decide)
  have HDL := Lib.hid hdl
  have HX1 : Hid (s.extract i i1 = nm [s[i]]) := Lib.hid (by rw [ext_mid, get_at s i hi, show i1 - i = 1 from by omega]; rfl)
  have HHS : Hid True := Lib.hid trivial
  clear hdl
  by_cases c1 : s[i] = 96
  · rw [decide_eq_true c1] at h96
    have HNO : Hid (m = none) := Lib.hid (by rw [← hm, c1]; rfl)
    clear hm c1 h36 h92 hi1 hi2 HDL HX1
    go_enter Tryd.func36, Tryd.ntmps36
    go_wp2_with (go_at_call 47; refine (HHS.out _).mono ?_; rintro e w' ⟨rfl, rfl⟩)
    refine calls_gen (fun W => W.heap[w.heap.size]? = some (.cells #[.slice none 0 0, .int .i64 0, .int .i64 0] 43 (0, 0)) ∧ Below w.heap.size w W) ⟨heap_alloc_new _ _, (Below.refl _ _).alloc (Nat.le_refl _) _⟩ ?_
    rintro W ⟨hr0, hb0⟩
    refine (rfault_any _ _ _).mono ?_
    rintro e w2 ⟨rfl, hb2⟩
    have HR := Lib.hid ((hb2.block w.heap.size (fin_at hr0)).trans hr0)
    have HB := Lib.hid (hb0.trans (hb2.mono hb0.size))
    clear hr0 hb0 hb2
    have k0 := cell_blk HR.out 0
    have k1 := cell_blk HR.out 1
    have k2 := cell_blk HR.out 2
    have l0 := froz_blk HR.out 0
    have l1 := froz_blk HR.out 1
    have l2 := froz_blk HR.out 2
    simp at k0 k1 k2
    have hz2 := fin_at HR.out
    go_wp2_with fail
    refine bodyPost_ret (results_cell_row rfl _ _ _ 43 _ (0, 0) _ rfl (three_set HR.out _ _ _) Tryd.underlying43 rfl (by kernel_rfl)) rfl ?_
    exact fault_end HB.out (by decide) HNO.out
  rw [decide_eq_false c1] at h96
  by_cases c2 : s[i] = 36
  · rw [decide_eq_true c2] at h36
    have HTL := Lib.hid HDL.out
    rw [show rDol rec (s.data.toList.drop (i + 1)) = m from by rw [← hm, c2, hi1]; rfl] at HTL
    clear hm c1 c2 h92 hi1 hi2 HDL HX1
    go_enter Tryd.func36, Tryd.ntmps36
    go_wp2_with (go_at_call 47; refine (HHS.out _).mono ?_; rintro e w' ⟨rfl, rfl⟩)
    refine calls_gen (fun W => W.heap[w.heap.size]? = some (.cells #[.slice none 0 0, .int .i64 0, .int .i64 0] 43 (0, 0)) ∧ Below w.heap.size w W ∧ W.heap.size = w.heap.size + 1) ⟨heap_alloc_new _ _, (Below.refl _ _).alloc (Nat.le_refl _) _, by simp⟩ ?_
    rintro W ⟨hr0, hb0, hz0⟩
    refine (HTL.out W).mono ?_
    rintro e w2 ⟨hb2, v2, n2, er, rfl, hc⟩
    obtain ⟨A2, m2, c2, rfl⟩ : ∃ A m c, v2 = .slice A m c := by
      rcases hc with ⟨_, k, L, _, _, _, _, hv⟩ | ⟨_, _, rfl⟩
      · exact PIn.form hv
      · exact ⟨_, _, _, rfl⟩
    have HR := Lib.hid ((hb2.block w.heap.size (fin_at hr0)).trans hr0)
    have HE := Lib.hid (tail_end hz0 hb0 hb2 hc)
    clear hr0 hb0 hb2 hc hz0
    have k0 := cell_blk HR.out 0
    have k1 := cell_blk HR.out 1
    have k2 := cell_blk HR.out 2
    have l0 := froz_blk HR.out 0
    have l1 := froz_blk HR.out 1
    have l2 := froz_blk HR.out 2
    simp at k0 k1 k2
    have hz2 := fin_at HR.out
    go_wp2_with fail
    refine bodyPost_ret (results_cell_row rfl _ _ _ 43 _ (0, 0) _ rfl (three_set HR.out _ _ _) Tryd.underlying43 rfl (by kernel_rfl)) rfl ?_
    exact HE.out
  rw [decide_eq_false c2] at h36
  have HLT1 := Lib.hid (fun W => rlit_any D [s[i]] false W)
  rw [← HX1.out] at HLT1
  by_cases c3 : s[i] = 92
  · rw [decide_eq_true c3] at h92
    by_cases hlt : i1 < s.size
    · have hlti : (i1 : Int) < (s.size : Int) := by omega
      have hi2si : (i2 : Int) ≤ (s.size : Int) := by omega
      have hi12 : (i1 : Int) ≤ (i2 : Int) := by omega
      have hd := get_at s i1 hlt
      rw [← hi2] at hd
      have hh := fun W => has_any (nm [36, 34, 92, 96, 10]) s[i1] W (by decide)
      rw [nm_data] at hh
      have he0 : escD s[i1] = [36, 34, 92, 96, 10].contains s[i1] := rfl
      rw [← he0] at hh
      have h10 : ((s[i1].toNat : Int) == 10) = decide (s[i1] = 10) := bt s[i1] 10 (by decide)
      rw [hd, c3] at hm
      cases hes : escD s[i1] with
      | true =>
        rw [hes] at hh
        have HHS := Lib.hid hh
        by_cases c4 : s[i1] = 10
        · rw [decide_eq_true c4] at h10
          rw [n2_ten hes c4] at hm
          have HE := Lib.hid (nil_end (D := D + 1) (i := i) (s := s) (w := w) (n := (i2 : Int)) rfl hm.symm hii2 (by omega))
          clear hm hd hh he0 hes c1 c2 c3 c4 hi1 hi2 HDL HX1 HLT1
          go_enter Tryd.func36, Tryd.ntmps36
          go_wp2_with (go_at_call 47; refine (HHS.out _).mono ?_; rintro e w' ⟨rfl, rfl⟩)
          refine bodyPost_ret (results_cell_row rfl _ _ _ 43 _ (0, 0) _ rfl (heap_alloc_new w _) Tryd.underlying43 rfl (by kernel_rfl)) rfl ?_
          exact HE.out
        · rw [decide_eq_false c4] at h10
          rw [n2_one hes c4] at hm
          have HO := Lib.hid hm.symm
          have HX : Hid (s.extract i1 i2 = nm [s[i1]]) := Lib.hid (by rw [ext_mid, hd, show i2 - i1 = 1 from by omega]; rfl)
          have HLT := Lib.hid (fun W => rlit_any D [s[i1]] true W)
          rw [← HX.out] at HLT
          have hi2s : i2 ≤ s.size := by omega
          clear hm hd hh he0 hes c1 c2 c3 c4 hi1 hi2 HDL HX1 HLT1 HX
          go_enter Tryd.func36, Tryd.ntmps36
          go_wp2_with (go_at_call 47; refine (HHS.out _).mono ?_; rintro e w' ⟨rfl, rfl⟩)
          refine calls_gen (fun W => W.heap[w.heap.size]? = some (.cells #[.slice none 0 0, .int .i64 0, .int .i64 0] 43 (0, 0)) ∧ Below w.heap.size w W ∧ w.heap.size < W.heap.size) ⟨heap_alloc_new _ _, (Below.refl _ _).alloc (Nat.le_refl _) _, by simp⟩ ?_
          rintro W ⟨hr0, hb0, hz0⟩
          refine (HLT.out W).mono ?_
          rintro e w2 ⟨hb2, v2, rfl, hv2⟩
          obtain ⟨A2, c2, rfl, _⟩ := PIn.shape hv2
          have HR := Lib.hid ((hb2.block w.heap.size (fin_at hr0)).trans hr0)
          have HB := Lib.hid (hb0.trans (hb2.mono hb0.size))
          have HV := Lib.hid (PIn.mono (fun q _ hq => Nat.lt_of_lt_of_le hz0 hq) _ _ _ hv2 : PIn (D + 1) w2 (fun q => w.heap.size < q) _ _)
          clear hr0 hb0 hb2 hv2 hz0
          have k0 := cell_blk HR.out 0
          have k1 := cell_blk HR.out 1
          have k2 := cell_blk HR.out 2
          have l0 := froz_blk HR.out 0
          have l1 := froz_blk HR.out 1
          have l2 := froz_blk HR.out 2
          simp at k0 k1 k2
          have hz2 := fin_at HR.out
          go_wp2_with fail
          refine bodyPost_ret (results_cell_row rfl _ _ _ 43 _ (0, 0) _ rfl (three_set HR.out _ _ _) Tryd.underlying43 rfl (by kernel_rfl)) rfl ?_
          exact part_end HB.out HV.out HO.out (by omega) (by omega)
      | false =>
        rw [hes] at hh
        have HHS := Lib.hid hh
        rw [n2_not hes, ← hd, ← c3] at hm
        have HO := Lib.hid hm.symm
        have HLT := HLT1
        clear hm hd hh he0 hes c1 c2 c3 hi1 hi2 HDL HX1 HLT1
        go_enter Tryd.func36, Tryd.ntmps36
        go_wp2_with (go_at_call 47; refine (HHS.out _).mono ?_; rintro e w' ⟨rfl, rfl⟩)
        refine calls_gen (fun W => W.heap[w.heap.size]? = some (.cells #[.slice none 0 0, .int .i64 0, .int .i64 0] 43 (0, 0)) ∧ Below w.heap.size w W ∧ w.heap.size < W.heap.size) ⟨heap_alloc_new _ _, (Below.refl _ _).alloc (Nat.le_refl _) _, by simp⟩ ?_
        rintro W ⟨hr0, hb0, hz0⟩
        refine (HLT.out W).mono ?_
        rintro e w2 ⟨hb2, v2, rfl, hv2⟩
        obtain ⟨A2, c2, rfl, _⟩ := PIn.shape hv2
        have HR := Lib.hid ((hb2.block w.heap.size (fin_at hr0)).trans hr0)
        have HB := Lib.hid (hb0.trans (hb2.mono hb0.size))
        have HV := Lib.hid (PIn.mono (fun q _ hq => Nat.lt_of_lt_of_le hz0 hq) _ _ _ hv2 : PIn (D + 1) w2 (fun q => w.heap.size < q) _ _)
        clear hr0 hb0 hb2 hv2 hz0
        have k0 := cell_blk HR.out 0
        have k1 := cell_blk HR.out 1
        have k2 := cell_blk HR.out 2
        have l0 := froz_blk HR.out 0
        have l1 := froz_blk HR.out 1
        have l2 := froz_blk HR.out 2
        simp at k0 k1 k2
        have hz2 := fin_at HR.out
        go_wp2_with fail
        refine bodyPost_ret (results_cell_row rfl _ _ _ 43 _ (0, 0) _ rfl (three_set HR.out _ _ _) Tryd.underlying43 rfl (by kernel_rfl)) rfl ?_
        exact part_end HB.out HV.out HO.out (by omega) (by omega)
    · have hge : (s.size : Int) ≤ (i1 : Int) := by omega
      have HO : Hid (m = some ([litP false [s[i]]], s.data.toList.drop i1)) := Lib.hid (by rw [← hm, c3, drop_nil s i1 (by omega)]; rfl)
      have HLT := HLT1
      clear hm c1 c2 c3 hi1 hi2 HDL HX1 HLT1
      go_enter Tryd.func36, Tryd.ntmps36
      go_wp2_with (go_at_call 47; refine (HHS.out _).mono ?_; rintro e w' ⟨rfl, rfl⟩)
      refine calls_gen (fun W => W.heap[w.heap.size]? = some (.cells #[.slice none 0 0, .int .i64 0, .int .i64 0] 43 (0, 0)) ∧ Below w.heap.size w W ∧ w.heap.size < W.heap.size) ⟨heap_alloc_new _ _, (Below.refl _ _).alloc (Nat.le_refl _) _, by simp⟩ ?_
      rintro W ⟨hr0, hb0, hz0⟩
      refine (HLT.out W).mono ?_
      rintro e w2 ⟨hb2, v2, rfl, hv2⟩
      obtain ⟨A2, c2, rfl, _⟩ := PIn.shape hv2
      have HR := Lib.hid ((hb2.block w.heap.size (fin_at hr0)).trans hr0)
      have HB := Lib.hid (hb0.trans (hb2.mono hb0.size))
      have HV := Lib.hid (PIn.mono (fun q _ hq => Nat.lt_of_lt_of_le hz0 hq) _ _ _ hv2 : PIn (D + 1) w2 (fun q => w.heap.size < q) _ _)
      clear hr0 hb0 hb2 hv2 hz0
      have k0 := cell_blk HR.out 0
      have k1 := cell_blk HR.out 1
      have k2 := cell_blk HR.out 2
      have l0 := froz_blk HR.out 0
      have l1 := froz_blk HR.out 1
      have l2 := froz_blk HR.out 2
      simp at k0 k1 k2
      have hz2 := fin_at HR.out
      go_wp2_with fail
      refine bodyPost_ret (results_cell_row rfl _ _ _ 43 _ (0, 0) _ rfl (three_set HR.out _ _ _) Tryd.underlying43 rfl (by kernel_rfl)) rfl ?_
      exact part_end HB.out HV.out HO.out (by omega) (by omega)
  rw [decide_eq_false c3] at h92
  rw [n2_add c3 c2 c1] at hm
  have HO := Lib.hid hm.symm
  have HLT := HLT1
  clear hm c1 c2 c3 hi1 hi2 HDL HX1 HLT1
  go_enter Tryd.func36, Tryd.ntmps36
  go_wp2_with (go_at_call 47; refine (HHS.out _).mono ?_; rintro e w' ⟨rfl, rfl⟩)
  refine calls_gen (fun W => W.heap[w.heap.size]? = some (.cells #[.slice none 0 0, .int .i64 0, .int .i64 0] 43 (0, 0)) ∧ Below w.heap.size w W ∧ w.heap.size < W.heap.size) ⟨heap_alloc_new _ _, (Below.refl _ _).alloc (Nat.le_refl _) _, by simp⟩ ?_
  rintro W ⟨hr0, hb0, hz0⟩
  refine (HLT.out W).mono ?_
  rintro e w2 ⟨hb2, v2, rfl, hv2⟩
  obtain ⟨A2, c2, rfl, _⟩ := PIn.shape hv2
  have HR := Lib.hid ((hb2.block w.heap.size (fin_at hr0)).trans hr0)
  have HB := Lib.hid (hb0.trans (hb2.mono hb0.size))
  have HV := Lib.hid (PIn.mono (fun q _ hq => Nat.lt_of_lt_of_le hz0 hq) _ _ _ hv2 : PIn (D + 1) w2 (fun q => w.heap.size < q) _ _)
  clear hr0 hb0 hb2 hv2 hz0
  have k0 := cell_blk HR.out 0
  have k1 := cell_blk HR.out 1
  have k2 := cell_blk HR.out 2
  have l0 := froz_blk HR.out 0
  have l1 := froz_blk HR.out 1
  have l2 := froz_blk HR.out 2
  simp at k0 k1 k2
  have hz2 := fin_at HR.out
  go_wp2_with fail
  refine bodyPost_ret (results_cell_row rfl _ _ _ 43 _ (0, 0) _ rfl (three_set HR.out _ _ _) Tryd.underlying43 rfl (by kernel_rfl)) rfl ?_
  exact part_end HB.out HV.out HO.out (by omega) (by omega)

end Go.Proofs.YtkbhjjmgacahdaaDoor.Wd

/- DERIVED. The walk over the document's next in a word and in braces. -/
namespace Go.Proofs.YtkbhjjmgacahdaaDoor.Wd
open Go.RowKit
open PathM WdM
set_option linter.unusedVariables false

theorem ix_yes (t : Bs) : Go.Lib.indexByte (39 :: t) 39 = 0 := rfl
theorem ix_no {c : UInt8} {t : Bs} (h : ¬ c = 39) : Go.Lib.indexByte (c :: t) 39 = if Go.Lib.indexByte t 39 < 0 then -1 else Go.Lib.indexByte t 39 + 1 := by
  have hg := Go.Lib.indexByte_ge t 39
  show (if c == 39 then (0 : Int) else if Go.Lib.indexByte t 39 == -1 then -1 else Go.Lib.indexByte t 39 + 1) = _
  have h0 : (c == 39) = false := beq_eq_false_iff_ne.2 h
  rw [h0, if_neg (by decide)]
  by_cases h1 : Go.Lib.indexByte t 39 < 0
  · rw [if_pos h1, if_pos (by simp; omega)]
  · rw [if_neg h1, if_neg (by simp; omega)]
/-- A text in single quotes: how it goes on. -/
def sqF (acc l : Bs) : Option (List PT × Bs) := if Go.Lib.indexByte l 39 < 0 then none else some ([litP true (acc ++ l.take (Go.Lib.indexByte l 39).toNat)], l.drop ((Go.Lib.indexByte l 39).toNat + 1))
theorem sq_nil (acc : Bs) : sqF acc [] = none := rfl
theorem sq_yes (acc t : Bs) : sqF acc (39 :: t) = some ([litP true acc], t) := by
  unfold sqF
  rw [ix_yes, if_neg (by decide)]
  simp
theorem sq_no {c : UInt8} (acc t : Bs) (h : ¬ c = 39) : sqF acc (c :: t) = sqF (acc ++ [c]) t := by
  unfold sqF
  rw [ix_no h]
  by_cases h1 : Go.Lib.indexByte t 39 < 0
  · rw [if_pos h1, if_pos (by decide), if_pos h1]
  · rw [if_neg h1, if_neg (by omega), if_neg h1]
    have e : (Go.Lib.indexByte t 39 + 1).toNat = (Go.Lib.indexByte t 39).toNat + 1 := by omega
    rw [e, List.take_succ_cons, List.drop_succ_cons, List.append_assoc]
    rfl
theorem r2_head {rec : Rec} : ∀ (n : Nat) (acc : List PT) (l : Bs) (L : List PT) (c : UInt8) (r : Bs), r2 rec n acc l = some (L, c :: r) → c = 34
  | 0, acc, l, L, c, r, h => by cases h
  | n + 1, acc, [], L, c, r, h => by rw [r2] at h; injection h with h; injection h with _ h; cases h
  | n + 1, acc, d :: t, L, c, r, h => by
    rw [r2] at h
    by_cases h34 : d = 34
    · rw [if_pos h34] at h; injection h with h; injection h with _ h; injection h with h _; rw [← h]; exact h34
    · rw [if_neg h34] at h
      cases hx : rNext2 rec d t with
      | none => rw [hx] at h; cases h
      | some x =>
        obtain ⟨X, r'⟩ := x
        rw [hx] at h
        exact r2_head n _ _ _ _ _ h
theorem nx_single (rec : Rec) (t : Bs) : rNext rec 39 t = sqF [] t := by
  unfold sqF
  rw [List.nil_append]
  rfl
theorem nx_double (rec : Rec) (t : Bs) : rNext rec 34 t = match r2 rec (t.length + 1) [] t with
    | none => none
    | some (_, []) => none
    | some (L, _ :: r) => if stands [34] t then some ([litP true []], r) else some (quotedL L, r) := rfl
theorem nx_esc (rec : Rec) (t : Bs) : rNext rec 92 t = match t with
    | [] => none
    | d :: t' => if d = 10 then some ([], t') else some ([litP true [d]], t') := rfl
theorem nx_add (rec : Rec) {c : UInt8} (t : Bs) (h1 : ¬ c = 96) (h2 : ¬ c = 36) (h3 : ¬ c = 92) (h4 : ¬ c = 39) (h5 : ¬ c = 34) : rNext rec c t = some ([litP false [c]], t) := by
  unfold rNext
  rw [if_neg h1, if_neg h2, if_neg h3, if_neg h4, if_neg h5]
set_option maxRecDepth 100000 in
set_option maxHeartbeats 6400000 in
theorem rnext_any (rec : Rec) (hR : FitsR rec) (D : Nat) (s : ByteArray) (i dp : Nat) (hw : Int) (hw2 : hw < 2) (w : World) (hi : i < s.size) (hs : s.size ≤ 8192)
    (hdl : ∀ W, Calls Tryd.prog 48 #[.string s, .int .i64 i, .int .i64 dp] W (RP (D + 1) s i W (rDol rec (s.data.toList.drop (i + 1)))))
    (hpt : ∀ j W, j ≤ s.size → Calls Tryd.prog 24 #[.string s, .int .i64 (j : Nat), .int .i64 2, .int .i64 dp] W (RQ (D + 1) s j W (r2 rec (s.size + 1) [] (s.data.toList.drop j)))) :
    Calls Tryd.prog 36 #[.string s, .int .i64 i, .int .i64 hw, .int .i64 dp] w (RP (D + 1) s i w (rNext rec s[i] (s.data.toList.drop (i + 1)))) := by
  obtain ⟨m, hm⟩ : ∃ m, rNext rec s[i] (s.data.toList.drop (i + 1)) = m := ⟨_, rfl⟩
  rw [hm]
  obtain ⟨i1, hi1⟩ : ∃ i1, i1 = i + 1 := ⟨_, rfl⟩
  obtain ⟨i2, hi2⟩ : ∃ i2, i2 = i1 + 1 := ⟨_, rfl⟩
  rw [← hi1] at hm
  have hi1s : i1 ≤ s.size := by omega
  have e1 : (i : Int) + 1 = (i1 : Int) := by omega
  have e2 : (i : Int) + 2 = (i2 : Int) := by omega
  have hii1 : i < i1 := by omega
  have hii2 : i < i2 := by omega
  have hii : (i : Int) ≤ (i1 : Int) := by omega
  have hi1si : (i1 : Int) ≤ (s.size : Int) := by omega
  have hisi : (i : Int) < (s.size : Int) := by omega
  have h96 : ((s[i].toNat : Int) == 96) = decide (s[i] = 96) := bt s[i] 96 (by decide)
  have h36 : ((s[i].toNat : Int) == 36) = decide (s[i] = 36) := bt s[i] 36 (by decide)
  have h92 : ((s[i].toNat : Int) == 92) = decide (s[i] = 92) := bt s[i] 92 (by decide)
  have h39 : ((s[i].toNat : Int) == 39) = decide (s[i] = 39) := bt s[i] 39 (by decide)
  have h34 : ((s[i].toNat : Int) == 34) = decide (s[i] = 34) := bt s[i] 34 (by decide)
  have HDL := Lib.hid hdl
  have HPT := Lib.hid (fun W => hpt i1 W hi1s)
  have HX1 : Hid (s.extract i i1 = nm [s[i]]) := Lib.hid (by rw [ext_mid, get_at s i hi, show i1 - i = 1 from by omega]; rfl)
  clear hdl hpt
  by_cases c1 : s[i] = 96
  · rw [decide_eq_true c1] at h96
    have HNO : Hid (m = none) := Lib.hid (by rw [← hm, c1]; rfl)
    clear hm c1 h36 h92 h39 h34 hi1 hi2 HDL HX1 HPT
    go_enter Tryd.func36, Tryd.ntmps36
    go_wp2_with fail
    refine calls_gen (fun W => W.heap[w.heap.size]? = some (.cells #[.slice none 0 0, .int .i64 0, .int .i64 0] 43 (0, 0)) ∧ Below w.heap.size w W) ⟨heap_alloc_new _ _, (Below.refl _ _).alloc (Nat.le_refl _) _⟩ ?_
    rintro W ⟨hr0, hb0⟩
    refine (rfault_any _ _ _).mono ?_
    rintro e w2 ⟨rfl, hb2⟩
    have HR := Lib.hid ((hb2.block w.heap.size (fin_at hr0)).trans hr0)
    have HB := Lib.hid (hb0.trans (hb2.mono hb0.size))
    clear hr0 hb0 hb2
    have k0 := cell_blk HR.out 0
    have k1 := cell_blk HR.out 1
    have k2 := cell_blk HR.out 2
    have l0 := froz_blk HR.out 0
    have l1 := froz_blk HR.out 1
    have l2 := froz_blk HR.out 2
    simp at k0 k1 k2
    have hz2 := fin_at HR.out
    go_wp2_with fail
    refine bodyPost_ret (results_cell_row rfl _ _ _ 43 _ (0, 0) _ rfl (three_set HR.out _ _ _) Tryd.underlying43 rfl (by kernel_rfl)) rfl ?_
    exact fault_end HB.out (by decide) HNO.out
  rw [decide_eq_false c1] at h96
  by_cases c2 : s[i] = 36
  · rw [decide_eq_true c2] at h36
    have HTL := Lib.hid HDL.out
    rw [show rDol rec (s.data.toList.drop (i + 1)) = m from by rw [← hm, c2, hi1]; rfl] at HTL
    clear hm c1 c2 h92 h39 h34 hi1 hi2 HDL HX1 HPT
    go_enter Tryd.func36, Tryd.ntmps36
    go_wp2_with fail
    refine calls_gen (fun W => W.heap[w.heap.size]? = some (.cells #[.slice none 0 0, .int .i64 0, .int .i64 0] 43 (0, 0)) ∧ Below w.heap.size w W ∧ W.heap.size = w.heap.size + 1) ⟨heap_alloc_new _ _, (Below.refl _ _).alloc (Nat.le_refl _) _, by simp⟩ ?_
    rintro W ⟨hr0, hb0, hz0⟩
    refine (HTL.out W).mono ?_
    rintro e w2 ⟨hb2, v2, n2, er, rfl, hc⟩
    obtain ⟨A2, m2, c2, rfl⟩ : ∃ A m c, v2 = .slice A m c := by
      rcases hc with ⟨_, k, L, _, _, _, _, hv⟩ | ⟨_, _, rfl⟩
      · exact PIn.form hv
      · exact ⟨_, _, _, rfl⟩
    have HR := Lib.hid ((hb2.block w.heap.size (fin_at hr0)).trans hr0)
    have HE := Lib.hid (tail_end hz0 hb0 hb2 hc)
    clear hr0 hb0 hb2 hc hz0
    have k0 := cell_blk HR.out 0
    have k1 := cell_blk HR.out 1
    have k2 := cell_blk HR.out 2
    have l0 := froz_blk HR.out 0
    have l1 := froz_blk HR.out 1
    have l2 := froz_blk HR.out 2
    simp at k0 k1 k2
    have hz2 := fin_at HR.out
    go_wp2_with fail
    refine bodyPost_ret (results_cell_row rfl _ _ _ 43 _ (0, 0) _ rfl (three_set HR.out _ _ _) Tryd.underlying43 rfl (by kernel_rfl)) rfl ?_
    exact HE.out
  rw [decide_eq_false c2] at h36
  by_cases c3 : s[i] = 92
  · rw [decide_eq_true c3] at h92
    rw [c3, nx_esc] at hm
    by_cases hlt : i1 < s.size
    · have hlti : (i1 : Int) < (s.size : Int) := by omega
      have hi2si : (i2 : Int) ≤ (s.size : Int) := by omega
      have hi12 : (i1 : Int) ≤ (i2 : Int) := by omega
      have hi2s : i2 ≤ s.size := by omega
      have hd := get_at s i1 hlt
      rw [← hi2] at hd
      have h10 : ((s[i1].toNat : Int) == 10) = decide (s[i1] = 10) := bt s[i1] 10 (by decide)
      rw [hd] at hm
      by_cases c4 : s[i1] = 10
      · rw [decide_eq_true c4] at h10
        simp only [if_pos c4] at hm
        have HE := Lib.hid (nil_end (D := D + 1) (i := i) (s := s) (w := w) (n := (i2 : Int)) rfl hm.symm hii2 hi2s)
        clear hm hd c1 c2 c3 c4 h39 h34 hi1 hi2 HDL HX1 HPT
        go_enter Tryd.func36, Tryd.ntmps36
        go_wp2_with fail
        refine bodyPost_ret (results_cell_row rfl _ _ _ 43 _ (0, 0) _ rfl (heap_alloc_new w _) Tryd.underlying43 rfl (by kernel_rfl)) rfl ?_
        exact HE.out
      · rw [decide_eq_false c4] at h10
        simp only [if_neg c4] at hm
        have HO := Lib.hid hm.symm
        have HX : Hid (s.extract i1 i2 = nm [s[i1]]) := Lib.hid (by rw [ext_mid, hd, show i2 - i1 = 1 from by omega]; rfl)
        have HLT := Lib.hid (fun W => rlit_any D [s[i1]] true W)
        rw [← HX.out] at HLT
        clear hm hd c1 c2 c3 c4 h39 h34 hi1 hi2 HDL HX1 HPT HX
        go_enter Tryd.func36, Tryd.ntmps36
        go_wp2_with fail
        refine calls_gen (fun W => W.heap[w.heap.size]? = some (.cells #[.slice none 0 0, .int .i64 0, .int .i64 0] 43 (0, 0)) ∧ Below w.heap.size w W ∧ w.heap.size < W.heap.size) ⟨heap_alloc_new _ _, (Below.refl _ _).alloc (Nat.le_refl _) _, by simp⟩ ?_
        rintro W ⟨hr0, hb0, hz0⟩
        refine (HLT.out W).mono ?_
        rintro e w2 ⟨hb2, v2, rfl, hv2⟩
        obtain ⟨A2, c2, rfl, _⟩ := PIn.shape hv2
        have HR := Lib.hid ((hb2.block w.heap.size (fin_at hr0)).trans hr0)
        have HB := Lib.hid (hb0.trans (hb2.mono hb0.size))
        have HV := Lib.hid (PIn.mono (fun q _ hq => Nat.lt_of_lt_of_le hz0 hq) _ _ _ hv2 : PIn (D + 1) w2 (fun q => w.heap.size < q) _ _)
        clear hr0 hb0 hb2 hv2 hz0
        have k0 := cell_blk HR.out 0
        have k1 := cell_blk HR.out 1
        have k2 := cell_blk HR.out 2
        have l0 := froz_blk HR.out 0
        have l1 := froz_blk HR.out 1
        have l2 := froz_blk HR.out 2
        simp at k0 k1 k2
        have hz2 := fin_at HR.out
        go_wp2_with fail
        refine bodyPost_ret (results_cell_row rfl _ _ _ 43 _ (0, 0) _ rfl (three_set HR.out _ _ _) Tryd.underlying43 rfl (by kernel_rfl)) rfl ?_
        exact part_end HB.out HV.out HO.out (by omega) (by omega)
    · have hge : (s.size : Int) ≤ (i1 : Int) := by omega
      have HNO : Hid (m = none) := Lib.hid (by rw [← hm, drop_nil s i1 (by omega)])
      clear hm c1 c2 c3 h39 h34 hi1 hi2 HDL HX1 HPT
      go_enter Tryd.func36, Tryd.ntmps36
      go_wp2_with fail
      refine calls_gen (fun W => W.heap[w.heap.size]? = some (.cells #[.slice none 0 0, .int .i64 0, .int .i64 0] 43 (0, 0)) ∧ Below w.heap.size w W) ⟨heap_alloc_new _ _, (Below.refl _ _).alloc (Nat.le_refl _) _⟩ ?_
      rintro W ⟨hr0, hb0⟩
      refine (rfault_any _ _ _).mono ?_
      rintro e w2 ⟨rfl, hb2⟩
      have HR := Lib.hid ((hb2.block w.heap.size (fin_at hr0)).trans hr0)
      have HB := Lib.hid (hb0.trans (hb2.mono hb0.size))
      clear hr0 hb0 hb2
      have k0 := cell_blk HR.out 0
      have k1 := cell_blk HR.out 1
      have k2 := cell_blk HR.out 2
      have l0 := froz_blk HR.out 0
      have l1 := froz_blk HR.out 1
      have l2 := froz_blk HR.out 2
      simp at k0 k1 k2
      have hz2 := fin_at HR.out
      go_wp2_with fail
      refine bodyPost_ret (results_cell_row rfl _ _ _ 43 _ (0, 0) _ rfl (three_set HR.out _ _ _) Tryd.underlying43 rfl (by kernel_rfl)) rfl ?_
      exact fault_end HB.out (by decide) HNO.out
  rw [decide_eq_false c3] at h92
  by_cases c4 : s[i] = 39
  · rw [decide_eq_true c4] at h39
    rw [c4, nx_single] at hm
    have HM0 : Hid (sqF ((s.data.toList.drop i1).take (i1 - i1)) (s.data.toList.drop i1) = m) := Lib.hid (by rw [Nat.sub_self, List.take_zero]; exact hm)
    have HZ := Lib.hid (heap_alloc_new w (.cells #[.slice none 0 0, .int .i64 0, .int .i64 0] 43))
    clear hm c1 c2 c3 c4 h34 hi1 hi2 HDL HX1 HPT
    go_enter Tryd.func36, Tryd.ntmps36
    go_wp2_with fail
    go_loopg [10] (s.size - i1) (fun g x10 wr => ∃ j : Nat, g = s.size - j ∧ x10 = .int .i64 j ∧ i1 ≤ j ∧ j ≤ s.size ∧ wr = w.alloc (.cells #[.slice none 0 0, .int .i64 0, .int .i64 0] 43) ∧ Hid (sqF ((s.data.toList.drop i1).take (j - i1)) (s.data.toList.drop j) = m))
    case atStart => exact ⟨i1, rfl, rfl, Nat.le_refl _, hi1s, rfl, HM0⟩
    case round =>
      obtain ⟨j, rfl, rfl, hij, hjs, rfl, HI⟩ := hrel
      clear HM0
      by_cases hlt : j < s.size
      · have HD := Lib.hid (get_at s j hlt)
        have hlti : (j : Int) < (s.size : Int) := by omega
        have h3 : ((s[j].toNat : Int) == 39) = decide (s[j] = 39) := bt s[j] 39 (by decide)
        by_cases c5 : s[j] = 39
        · rw [decide_eq_true c5] at h3
          have HO : Hid (m = some ([litP true ((s.data.toList.drop i1).take (j - i1))], s.data.toList.drop (j + 1))) := Lib.hid (by rw [← HI.out, HD.out, c5, sq_yes])
          have HX : Hid (s.extract i1 j = nm ((s.data.toList.drop i1).take (j - i1))) := Lib.hid (ext_mid s i1 j)
          have HLT := Lib.hid (fun W => rlit_any D ((s.data.toList.drop i1).take (j - i1)) true W)
          rw [← HX.out] at HLT
          have hiji : (i1 : Int) ≤ (j : Int) := by omega
          obtain ⟨j1, hj1⟩ : ∃ j1, j1 = j + 1 := ⟨_, rfl⟩
          rw [← hj1] at HO
          have e6 : (j : Int) + 1 = (j1 : Int) := by omega
          have hj1s : j1 ≤ s.size := by omega
          have hij1 : i < j1 := by omega
          clear c5 HD HI HX hj1
          go_wp2_with fail
          refine calls_gen (fun W => W.heap[w.heap.size]? = some (.cells #[.slice none 0 0, .int .i64 0, .int .i64 0] 43 (0, 0)) ∧ Below w.heap.size w W ∧ w.heap.size < W.heap.size) ⟨heap_alloc_new _ _, (Below.refl _ _).alloc (Nat.le_refl _) _, by simp⟩ ?_
          rintro W ⟨hr0, hb0, hz0⟩
          refine (HLT.out W).mono ?_
          rintro e w2 ⟨hb2, v2, rfl, hv2⟩
          obtain ⟨A2, c2, rfl, _⟩ := PIn.shape hv2
          have HR := Lib.hid ((hb2.block w.heap.size (fin_at hr0)).trans hr0)
          have HB := Lib.hid (hb0.trans (hb2.mono hb0.size))
          have HV := Lib.hid (PIn.mono (fun q _ hq => Nat.lt_of_lt_of_le hz0 hq) _ _ _ hv2 : PIn (D + 1) w2 (fun q => w.heap.size < q) _ _)
          clear hr0 hb0 hb2 hv2 hz0
          have k0 := cell_blk HR.out 0
          have k1 := cell_blk HR.out 1
          have k2 := cell_blk HR.out 2
          have l0 := froz_blk HR.out 0
          have l1 := froz_blk HR.out 1
          have l2 := froz_blk HR.out 2
          simp at k0 k1 k2
          have hz2 := fin_at HR.out
          go_wp2_with fail
          refine bodyPost_ret (results_cell_row rfl _ _ _ 43 _ (0, 0) _ rfl (three_set HR.out _ _ _) Tryd.underlying43 rfl (by kernel_rfl)) rfl ?_
          exact part_end HB.out HV.out HO.out (by omega) (by omega)
        · rw [decide_eq_false c5] at h3
          have HN : Hid (sqF ((s.data.toList.drop i1).take (j + 1 - i1)) (s.data.toList.drop (j + 1)) = m) := Lib.hid (by rw [← HI.out, HD.out, sq_no _ _ c5, take_snoc s i1 j hij hlt])
          clear c5 HD HI
          go_wp2_with fail
          go_roundg (s.size - (j + 1))
          case rel => exact ⟨j + 1, rfl, by go_num, by omega, by omega, rfl, HN⟩
          case measure => omega
      · have HNO : Hid (m = none) := Lib.hid (by rw [← HI.out, drop_nil s j (by omega), sq_nil])
        have hge : ¬ (j : Int) < (s.size : Int) := by omega
        clear HI
        go_wp2_with fail
        refine calls_gen (fun W => W.heap[w.heap.size]? = some (.cells #[.slice none 0 0, .int .i64 0, .int .i64 0] 43 (0, 0)) ∧ Below w.heap.size w W) ⟨heap_alloc_new _ _, (Below.refl _ _).alloc (Nat.le_refl _) _⟩ ?_
        rintro W ⟨hr0, hb0⟩
        refine (rfault_any _ _ _).mono ?_
        rintro e w2 ⟨rfl, hb2⟩
        have HR := Lib.hid ((hb2.block w.heap.size (fin_at hr0)).trans hr0)
        have HB := Lib.hid (hb0.trans (hb2.mono hb0.size))
        clear hr0 hb0 hb2
        have k0 := cell_blk HR.out 0
        have k1 := cell_blk HR.out 1
        have k2 := cell_blk HR.out 2
        have l0 := froz_blk HR.out 0
        have l1 := froz_blk HR.out 1
        have l2 := froz_blk HR.out 2
        simp at k0 k1 k2
        have hz2 := fin_at HR.out
        go_wp2_with fail
        refine bodyPost_ret (results_cell_row rfl _ _ _ 43 _ (0, 0) _ rfl (three_set HR.out _ _ _) Tryd.underlying43 rfl (by kernel_rfl)) rfl ?_
        exact fault_end HB.out (by decide) HNO.out
  rw [decide_eq_false c4] at h39
  by_cases c5 : s[i] = 34
  · rw [decide_eq_true c5] at h34
    rw [c5, nx_double, r2_fuel hR (s.data.toList.drop i1).length _ [] _ (s.size + 1) (Nat.le_refl _) (by omega) (by rw [bad_len]; omega)] at hm
    have HFT : Hid (∀ L r, r2 rec (s.size + 1) [] (s.data.toList.drop i1) = some (L, r) → psize L ≤ 40000) := Lib.hid (fun L r h => by
      have := fits_r2 hR _ _ _ L r h
      rw [psize_nil, bad_len] at this
      omega)
    have HHD : Hid (∀ L c r, r2 rec (s.size + 1) [] (s.data.toList.drop i1) = some (L, c :: r) → c = 34) := Lib.hid (fun L c r h => r2_head _ _ _ _ _ _ h)
    have HST : Hid (stands [34] (s.data.toList.drop i1) = true → r2 rec (s.size + 1) [] (s.data.toList.drop i1) = some ([], s.data.toList.drop i1)) := Lib.hid (fun h => by
      cases hl : s.data.toList.drop i1 with
      | nil => rw [hl] at h; cases h
      | cons c t =>
        rw [hl, st1] at h
        rw [r2, if_pos (show c = 34 from (by simpa using h : 34 = c).symm)])
    obtain ⟨o2, ho2⟩ : ∃ o2, r2 rec (s.size + 1) [] (s.data.toList.drop i1) = o2 := ⟨_, rfl⟩
    rw [ho2] at hm HPT HFT HHD HST
    have HM := Lib.hid hm
    clear hm ho2 c1 c2 c3 c4 c5 HDL HX1 hi1 hi2
    go_enter Tryd.func36, Tryd.ntmps36
    go_wp2_with fail
    refine calls_gen (fun W => W.heap[w.heap.size]? = some (.cells #[.slice none 0 0, .int .i64 0, .int .i64 0] 43 (0, 0)) ∧ Below w.heap.size w W ∧ w.heap.size < W.heap.size) ⟨heap_alloc_new _ _, (Below.refl _ _).alloc (Nat.le_refl _) _, by simp⟩ ?_
    rintro W ⟨hr0, hb0, hz0⟩
    refine (HPT.out W).mono ?_
    rintro e w2 ⟨hb2, v2, n2, er, rfl, hc⟩
    have HR := Lib.hid ((hb2.block w.heap.size (fin_at hr0)).trans hr0)
    have HB := Lib.hid (hb0.trans (hb2.mono hb0.size))
    clear hr0 hb0 hb2 HPT
    rcases hc with ⟨rfl, k, L, rfl, ho, hik, hks, hv⟩ | ⟨her, ho, rfl⟩
    · obtain ⟨A2, c2, rfl, _⟩ := PIn.shape hv
      have HV := Lib.hid (PIn.mono (fun q _ hq => Nat.lt_of_lt_of_le hz0 hq) _ _ _ hv : PIn (D + 1) w2 (fun q => w.heap.size < q) _ _)
      have HO2 := Lib.hid ho
      clear ho hv hz0
      by_cases hlt : k < s.size
      · have hlti : ¬ (s.size : Int) ≤ (k : Int) := by omega
        have hlti2 : (k : Int) < (s.size : Int) := by omega
        have hdk := get_at s k hlt
        have h34k : s[k] = 34 := HHD.out L _ _ (by rw [HO2.out, hdk])
        have HMM : Hid (m = if stands [34] (s.data.toList.drop i1) = true then some ([litP true []], s.data.toList.drop (k + 1)) else some (quotedL L, s.data.toList.drop (k + 1))) := Lib.hid (by rw [← HM.out, HO2.out, hdk])
        by_cases hki : k = i1
        · have hst : stands [34] (s.data.toList.drop i1) = true := by rw [← hki, hdk, h34k]; rfl
          have HO : Hid (m = some ([litP true []], s.data.toList.drop i2)) := Lib.hid (by rw [HMM.out, if_pos hst, show k + 1 = i2 from by omega])
          have hi2s : i2 ≤ s.size := by omega
          have HLT := Lib.hid (fun W => rlit_any D [] true W)
          rw [show nm [] = (⟨#[]⟩ : ByteArray) from rfl] at HLT
          clear hdk h34k hst HMM HM HFT HHD HST HO2
          subst hki
          have k0 := cell_blk HR.out 0
          have k1 := cell_blk HR.out 1
          have k2 := cell_blk HR.out 2
          have l0 := froz_blk HR.out 0
          have l1 := froz_blk HR.out 1
          have l2 := froz_blk HR.out 2
          simp at k0 k1 k2
          have hz2 := fin_at HR.out
          clear k0 k1 k2 l0 l1 l2
          go_wp2_with fail
          refine calls_gen (fun W => W.heap[w.heap.size]? = some (.cells #[.slice none 0 0, .int .i64 0, .int .i64 0] 43 (0, 0)) ∧ Below w.heap.size w W ∧ w.heap.size < W.heap.size) ⟨(Below.heap_alloc w2 _ _ hz2).trans HR.out, HB.out.alloc HB.out.size _, by simp; omega⟩ ?_
          clear hz2 HR HB HV
          rintro W ⟨hr0, hb0, hz0⟩
          refine (HLT.out W).mono ?_
          rintro e w3 ⟨hb2, v3, rfl, hv2⟩
          obtain ⟨A3, c3, rfl, _⟩ := PIn.shape hv2
          have HR := Lib.hid ((hb2.block w.heap.size (fin_at hr0)).trans hr0)
          have HB := Lib.hid (hb0.trans (hb2.mono hb0.size))
          have HV := Lib.hid (PIn.mono (fun q _ hq => Nat.lt_of_lt_of_le hz0 hq) _ _ _ hv2 : PIn (D + 1) w3 (fun q => w.heap.size < q) _ _)
          clear hr0 hb0 hb2 hv2 hz0
          have k0 := cell_blk HR.out 0
          have k1 := cell_blk HR.out 1
          have k2 := cell_blk HR.out 2
          have l0 := froz_blk HR.out 0
          have l1 := froz_blk HR.out 1
          have l2 := froz_blk HR.out 2
          simp at k0 k1 k2
          have hz2 := fin_at HR.out
          go_wp2_with fail
          refine bodyPost_ret (results_cell_row rfl _ _ _ 43 _ (0, 0) _ rfl (three_set HR.out _ _ _) Tryd.underlying43 rfl (by kernel_rfl)) rfl ?_
          exact part_end HB.out HV.out HO.out (by omega) (by omega)
        · have hst : ¬ stands [34] (s.data.toList.drop i1) = true := fun h => by
            have h2 := HST.out h
            rw [HO2.out] at h2
            injection h2 with h2; injection h2 with _ h2
            have := congrArg List.length h2
            rw [bad_len, bad_len] at this
            omega
          obtain ⟨kq, hk1⟩ : ∃ kq, kq = k + 1 := ⟨_, rfl⟩
          have HO : Hid (m = some (quotedL L, s.data.toList.drop kq)) := Lib.hid (by rw [HMM.out, if_neg hst, hk1])
          have hne : ((k : Int) == (i1 : Int)) = false := by simp; omega
          have e7 : (k : Int) + 1 = (kq : Int) := by omega
          have hk1s : kq ≤ s.size := by omega
          have hik1 : i < kq := by omega
          have hwq : IntKind.i64.wrap (kq : Int) = (kq : Int) := IntWalk.i64_in _ (by omega)
          have HPS := Lib.hid (HFT.out L _ HO2.out)
          clear hdk h34k hst HMM HM HFT HHD HST HO2 hki hk1
          have k0 := cell_blk HR.out 0
          have k1 := cell_blk HR.out 1
          have k2 := cell_blk HR.out 2
          have l0 := froz_blk HR.out 0
          have l1 := froz_blk HR.out 1
          have l2 := froz_blk HR.out 2
          simp at k0 k1 k2
          have hz2 := fin_at HR.out
          clear k0 k1 k2 l0 l1 l2
          go_wp2_with fail
          refine wp_gen (fun W => W.heap[w.heap.size]? = some (.cells #[.slice none 0 0, .int .i64 0, .int .i64 0] 43 (0, 0)) ∧ Below w.heap.size w W ∧ PIn (D + 1) W (fun q => w.heap.size < q) (.slice A2 L.length c2) L ∧ W.heap[w2.heap.size]? = some (.cells #[.slice A2 L.length c2, .int .i64 k, .int .i64 0] 43 (0, 0))) ⟨(Below.heap_alloc w2 _ _ hz2).trans HR.out, HB.out.alloc HB.out.size _, PIn.alloc2 HV.out, heap_alloc_new _ _⟩ ?_
          clear HR HB HV
          generalize hbx : w2.heap.size = bx at *
          clear hbx
          rintro W ⟨g1, g2, g3, g4⟩
          have HB := Lib.hid g2
          have HR := Lib.hid g1
          have HX := Lib.hid g4
          have hq := rquoted_any (D + 1) _ L W.drew (PIn.keep (w := W) (w' := W.drew) (fun _ _ => rfl) _ _ _ (PIn.mono (fun _ _ _ => trivial) _ _ _ g3)) HPS.out
          have HQ := Lib.hid hq
          have x0 : W.drew.cell? ⟨bx, 0, none⟩ = some (.slice A2 L.length c2) := cell_blk g4 0
          have x1 : W.drew.cell? ⟨bx, 1, none⟩ = some (.int .i64 k) := cell_blk g4 1
          have hzb := fin_at g4
          have hzr := g2.size
          have hzz := fin_at g1
          clear g1 g2 g3 g4 hq
          have S0 : Hid (W.drew.cell? ⟨bx, 0, none⟩ = some (.slice A2 L.length c2) ∧ W.drew.cell? ⟨bx, 1, none⟩ = some (.int .i64 k)) := Lib.hid ⟨x0, x1⟩
          go_region_held3 (fun W => W.cell? ⟨bx, 0, none⟩ = some (.slice A2 L.length c2) ∧ W.cell? ⟨bx, 1, none⟩ = some (.int .i64 k))
            (first | (with_reducible exact S0.out) | (with_reducible exact S3.out) | (with_reducible exact S9.out _ _ _))
            (first
              | (go_at_call 50; (with_reducible refine (HQ.out).mono ?_); rintro e w3 ⟨hb3, v3, rfl, hv3⟩; obtain ⟨A3, c3, rfl, _⟩ := PIn.shape hv3; have hX3 := (hb3.block bx hzb).trans HX.out; have S3 : Hid (w3.cell? ⟨bx, 0, none⟩ = some (.slice A2 L.length c2) ∧ w3.cell? ⟨bx, 1, none⟩ = some (.int .i64 k)) := Lib.hid ⟨cell_blk hX3 0, cell_blk hX3 1⟩; have S9 : Hid (∀ y0 y1 y2, (((w3.setCell ⟨w.heap.size, 0, none⟩ y0).setCell ⟨w.heap.size, 1, none⟩ y1).setCell ⟨w.heap.size, 2, none⟩ y2).cell? ⟨bx, 0, none⟩ = some (.slice A2 L.length c2) ∧ (((w3.setCell ⟨w.heap.size, 0, none⟩ y0).setCell ⟨w.heap.size, 1, none⟩ y1).setCell ⟨w.heap.size, 2, none⟩ y2).cell? ⟨bx, 1, none⟩ = some (.int .i64 k)) := Lib.hid (fun y0 y1 y2 => ⟨cell_blk ((three_kept (S := (· = w.heap.size)) w3 rfl y0 y1 y2).at hX3 (by omega)) 0, cell_blk ((three_kept (S := (· = w.heap.size)) w3 rfl y0 y1 y2).at hX3 (by omega)) 1⟩); have HR3 := Lib.hid ((hb3.block w.heap.size hzz).trans HR.out); have HB3 := Lib.hid (HB.out.trans ((show Below W.heap.size W w3 from ⟨hb3.os, hb3.tape, hb3.output, hb3.size, hb3.block⟩).mono hzr)); have HV3 := Lib.hid hv3; have k0 := cell_blk HR3.out 0; have k1 := cell_blk HR3.out 1; have k2 := cell_blk HR3.out 2; have l0 := froz_blk HR3.out 0; have l1 := froz_blk HR3.out 1; have l2 := froz_blk HR3.out 2; simp at k0 k1 k2; have hz3 := fin_at HR3.out; clear hb3 hv3 hX3))
          go_wp2_with fail
          refine bodyPost_ret (results_cell_row rfl _ _ _ 43 _ (0, 0) _ rfl (three_set HR3.out _ _ _) Tryd.underlying43 rfl (by kernel_rfl)) rfl ?_
          exact part_end HB3.out (PIn.mono (fun q _ hq => by have : W.heap.size ≤ q := hq; omega) _ _ _ HV3.out) HO.out hik1 hk1s
      · have hge : (s.size : Int) ≤ (k : Int) := by omega
        have HNO : Hid (m = none) := Lib.hid (by rw [← HM.out, HO2.out, drop_nil s k (by omega)])
        clear HM HFT HHD HST HO2 HV
        have k0 := cell_blk HR.out 0
        have k1 := cell_blk HR.out 1
        have k2 := cell_blk HR.out 2
        have l0 := froz_blk HR.out 0
        have l1 := froz_blk HR.out 1
        have l2 := froz_blk HR.out 2
        simp at k0 k1 k2
        have hz2 := fin_at HR.out
        clear k0 k1 k2 l0 l1 l2
        go_wp2_with fail
        refine calls_gen (fun W => W.heap[w.heap.size]? = some (.cells #[.slice none 0 0, .int .i64 0, .int .i64 0] 43 (0, 0)) ∧ Below w.heap.size w W) ⟨(Below.heap_alloc w2 _ _ hz2).trans HR.out, HB.out.alloc HB.out.size _⟩ ?_
        clear hz2 HR HB
        rintro W ⟨hr0, hb0⟩
        refine (rfault_any _ _ _).mono ?_
        rintro e w3 ⟨rfl, hb2⟩
        have HR := Lib.hid ((hb2.block w.heap.size (fin_at hr0)).trans hr0)
        have HB := Lib.hid (hb0.trans (hb2.mono hb0.size))
        clear hr0 hb0 hb2
        have k0 := cell_blk HR.out 0
        have k1 := cell_blk HR.out 1
        have k2 := cell_blk HR.out 2
        have l0 := froz_blk HR.out 0
        have l1 := froz_blk HR.out 1
        have l2 := froz_blk HR.out 2
        simp at k0 k1 k2
        have hz2 := fin_at HR.out
        go_wp2_with fail
        refine bodyPost_ret (results_cell_row rfl _ _ _ 43 _ (0, 0) _ rfl (three_set HR.out _ _ _) Tryd.underlying43 rfl (by kernel_rfl)) rfl ?_
        exact fault_end HB.out (by decide) HNO.out
    · have HNO : Hid (m = none) := Lib.hid (by rw [← HM.out, ho])
      have q1 : (er != 0) = true := by simpa using her
      have HER := Lib.hid her
      clear her ho HM HFT HHD HST hz0
      have k0 := cell_blk HR.out 0
      have k1 := cell_blk HR.out 1
      have k2 := cell_blk HR.out 2
      have l0 := froz_blk HR.out 0
      have l1 := froz_blk HR.out 1
      have l2 := froz_blk HR.out 2
      simp at k0 k1 k2
      have hz2 := fin_at HR.out
      go_wp2_with fail
      refine bodyPost_ret (results_cell_row rfl _ _ _ 43 _ (0, 0) _ rfl (four_at HR.out _ _ _ _) Tryd.underlying43 rfl (by kernel_rfl)) rfl ?_
      exact rp_alloc (fault_end HB.out HER.out HNO.out) _
  rw [decide_eq_false c5] at h34
  rw [nx_add rec _ c1 c2 c3 c4 c5] at hm
  have HO := Lib.hid hm.symm
  have HLT := Lib.hid (fun W => rlit_any D [s[i]] false W)
  rw [← HX1.out] at HLT
  clear hm c1 c2 c3 c4 c5 hi1 hi2 HDL HX1 HPT
  go_enter Tryd.func36, Tryd.ntmps36
  go_wp2_with fail
  refine calls_gen (fun W => W.heap[w.heap.size]? = some (.cells #[.slice none 0 0, .int .i64 0, .int .i64 0] 43 (0, 0)) ∧ Below w.heap.size w W ∧ w.heap.size < W.heap.size) ⟨heap_alloc_new _ _, (Below.refl _ _).alloc (Nat.le_refl _) _, by simp⟩ ?_
  rintro W ⟨hr0, hb0, hz0⟩
  refine (HLT.out W).mono ?_
  rintro e w2 ⟨hb2, v2, rfl, hv2⟩
  obtain ⟨A2, c2, rfl, _⟩ := PIn.shape hv2
  have HR := Lib.hid ((hb2.block w.heap.size (fin_at hr0)).trans hr0)
  have HB := Lib.hid (hb0.trans (hb2.mono hb0.size))
  have HV := Lib.hid (PIn.mono (fun q _ hq => Nat.lt_of_lt_of_le hz0 hq) _ _ _ hv2 : PIn (D + 1) w2 (fun q => w.heap.size < q) _ _)
  clear hr0 hb0 hb2 hv2 hz0
  have k0 := cell_blk HR.out 0
  have k1 := cell_blk HR.out 1
  have k2 := cell_blk HR.out 2
  have l0 := froz_blk HR.out 0
  have l1 := froz_blk HR.out 1
  have l2 := froz_blk HR.out 2
  simp at k0 k1 k2
  have hz2 := fin_at HR.out
  go_wp2_with fail
  refine bodyPost_ret (results_cell_row rfl _ _ _ 43 _ (0, 0) _ rfl (three_set HR.out _ _ _) Tryd.underlying43 rfl (by kernel_rfl)) rfl ?_
  exact part_end HB.out HV.out HO.out (by omega) (by omega)

end Go.Proofs.YtkbhjjmgacahdaaDoor.Wd

/- DERIVED. The walk over the document's Scan: parts, level by level. -/
namespace Go.Proofs.YtkbhjjmgacahdaaDoor.Wd
open Go.RowKit
open PathM WdM
set_option linter.unusedVariables false

/-- Parts of a level: in braces, and in a word. -/
def Level (n dp : Nat) : Prop := ∀ (s : ByteArray) (i : Nat) (W : World), i ≤ s.size → s.size ≤ 8192 →
  Calls Tryd.prog 24 #[.string s, .int .i64 i, .int .i64 1, .int .i64 dp] W (RQ (n + 1) s i W (rParts (recN n) (· == 125) (s.data.toList.drop i))) ∧
  Calls Tryd.prog 24 #[.string s, .int .i64 i, .int .i64 0, .int .i64 dp] W (RQ (n + 1) s i W (rParts (recN n) meta_ (s.data.toList.drop i)))
theorem level_of (n dp : Nat) (hdp : dp ≤ 16) (hbr : ∀ (s : ByteArray) (i fl : Nat) (W : World), i + 2 ≤ s.size → s.size ≤ 8192 → Calls Tryd.prog 64 #[.string s, .int .i64 i, .int .i64 ((dp : Int) + 1)] W (RP (n + 1) s i W (OB (braces (recN n) fl false (s.data.toList.drop (i + 2)))))) : Level n dp := by
  intro s i W hi hs
  have hR := fits_recN n
  have hdl : ∀ j (h : j < s.size) W, Calls Tryd.prog 48 #[.string s, .int .i64 j, .int .i64 dp] W (RP (n + 1) s j W (rDol (recN n) (s.data.toList.drop (j + 1)))) :=
    fun j h W => rdollar_any (recN n) n s j dp W h hs (fun fl W h2 => hbr s j fl W h2 hs) hdp
  have hn2 : ∀ j (h : j < s.size) W, Calls Tryd.prog 36 #[.string s, .int .i64 j, .int .i64 2, .int .i64 dp] W (RP (n + 1) s j W (rNext2 (recN n) s[j] (s.data.toList.drop (j + 1)))) :=
    fun j h W => rnext2_any (recN n) n s j dp W h hs (hdl j h)
  have hp2 : ∀ (j : Nat) W, j ≤ s.size → Calls Tryd.prog 24 #[.string s, .int .i64 (j : Nat), .int .i64 2, .int .i64 dp] W (RQ (n + 1) s j W (r2 (recN n) (s.size + 1) [] (s.data.toList.drop j))) :=
    fun j W h => rparts2 (n + 1) s j dp _ _ (lp_r2 hR) h hs hn2 W
  have hn : ∀ (hw : Int), hw < 2 → ∀ j (h : j < s.size) W, Calls Tryd.prog 36 #[.string s, .int .i64 j, .int .i64 hw, .int .i64 dp] W (RP (n + 1) s j W (rNext (recN n) s[j] (s.data.toList.drop (j + 1)))) :=
    fun hw h2 j h W => rnext_any (recN n) hR n s j dp hw h2 W h hs (hdl j h) hp2
  have hf : ∀ ends, rParts (recN n) ends (s.data.toList.drop i) = rLoop (recN n) ends (s.size + 1) [] (s.data.toList.drop i) := fun ends =>
    loop_fuel hR ends (s.data.toList.drop i).length _ [] _ _ (Nat.le_refl _) (by omega) (by rw [bad_len]; omega)
  refine ⟨?_, ?_⟩
  · rw [hf]
    exact rparts1 (n + 1) s i dp _ _ (lp_loop hR _) hi hs (hn 1 (by decide)) W
  · rw [hf]
    exact rparts0 (n + 1) s i dp _ _ (lp_loop hR _) hi hs (hn 0 (by decide)) W
theorem levels : ∀ n, n ≤ 16 → Level n (16 - n)
  | 0, _ => level_of 0 16 (Nat.le_refl _) (fun s i fl W hi hs => rbraces_deep 1 s i fl W hi)
  | m + 1, h => by
    have ih := levels m (by omega)
    obtain ⟨dp, hdp⟩ : ∃ dp, dp = 16 - (m + 1) := ⟨_, rfl⟩
    rw [← hdp]
    have hdp1 : 16 - m = dp + 1 := by omega
    rw [hdp1] at ih
    refine level_of (m + 1) dp (by omega) (fun s i fl W hi hs => ?_)
    have e : ((dp : Int) + 1) = ((dp + 1 : Nat) : Int) := by omega
    rw [e]
    have hm : ∀ l L r, rParts (recN m) (· == 125) l = some (L, r) → (fun qd l => partsR (recN m) (· == 125) qd l) false l = .ok L r := fun l L r h => by
      have := rec_same m l
      rw [h] at this
      exact this
    have hn : ∀ l, rParts (recN m) (· == 125) l = none → bad? ((fun qd l => partsR (recN m) (· == 125) qd l) false l) := fun l h => by
      have := rec_same m l
      rw [h] at this
      exact this
    cases hl : lengthStands (s.data.toList.drop (i + 2)) with
    | true => exact rbraces_len (m + 1) (fun qd l => partsR (recN m) (· == 125) qd l) s i (dp + 1) fl W hi hs (by omega) hl
    | false => exact rbraces_not (m + 1) (fun qd l => partsR (recN m) (· == 125) qd l) (fun l => rParts (recN m) (· == 125) l) hm hn s i (dp + 1) fl W hi hs (by omega) (fun j W h => (ih s j W h hs).1) hl
set_option maxRecDepth 100000 in
theorem rscan_any (s : ByteArray) (w : World) (hs : s.size ≤ 8192) : RScanAt 17 s w := by
  unfold RScanAt
  have HL := Lib.hid (fun W => (levels 16 (Nat.le_refl _) s 0 W (Nat.zero_le _) hs).2)
  have hm : rParts (recN 16) meta_ (s.data.toList.drop 0) = rScan s.data.toList := rfl
  rw [hm] at HL
  clear hm
  obtain ⟨m, hm⟩ : ∃ m, rScan s.data.toList = m := ⟨_, rfl⟩
  rw [hm] at HL ⊢
  have hsi : ¬ (8192 : Int) < (s.size : Int) := by omega
  have hsp : ¬ (s.size : Int) < 0 := by omega
  clear hm
  go_enter Tryd.func14, Tryd.ntmps14
  go_wp2_with fail
  refine calls_gen (fun W => W.heap[w.heap.size]? = some (.cells #[.slice none 0 0, .int .i64 0, .int .i64 0] 43 (0, 0)) ∧ Below w.heap.size w W ∧ w.heap.size < W.heap.size) ⟨heap_alloc_new _ _, (Below.refl _ _).alloc (Nat.le_refl _) _, by simp⟩ ?_
  rintro W ⟨hr0, hb0, hz0⟩
  refine (HL.out W).mono ?_
  rintro e w2 ⟨hb2, v2, n2, er, rfl, hc⟩
  obtain ⟨A2, m2, c2, rfl⟩ : ∃ A m c, v2 = .slice A m c := by
    rcases hc with ⟨_, k, L, _, _, _, _, hv⟩ | ⟨_, _, rfl⟩
    · exact PIn.form hv
    · exact ⟨_, _, _, rfl⟩
  have HR := Lib.hid ((hb2.block w.heap.size (fin_at hr0)).trans hr0)
  have HB := Lib.hid (hb0.trans (hb2.mono hb0.size))
  have HC := Lib.hid hc
  clear hr0 hb0 hb2 hc
  have k0 := cell_blk HR.out 0
  have k1 := cell_blk HR.out 1
  have k2 := cell_blk HR.out 2
  have l0 := froz_blk HR.out 0
  have l1 := froz_blk HR.out 1
  have l2 := froz_blk HR.out 2
  simp at k0 k1 k2
  have hz2 := fin_at HR.out
  go_wp2_with fail
  refine bodyPost_ret (results_cell_row rfl _ _ _ 43 _ (0, 0) _ rfl (three_set HR.out _ _ _) Tryd.underlying43 rfl (by kernel_rfl)) rfl ?_
  have hK := three_kept (S := (· = w.heap.size)) w2 rfl (.slice A2 m2 c2) (.int .i64 n2) (.int .i64 er)
  refine ⟨HB.out.trans (hK.below HB.out.size (fun k e => by omega)), _, n2, er, rfl, ?_⟩
  rcases HC.out with ⟨h1, k, L, h2, h3, _, h4, h5⟩ | h
  · exact .inl ⟨h1, k, L, h2, h3, h4, PIn.mono (fun j _ hj => Nat.le_trans (Nat.le_of_lt hz0) hj) _ _ _ (PIn.keep2 hK (fun j h1 h2 => by omega) h5)⟩
  · exact .inr h
/-- The document's Print. -/
theorem rprint (d : Nat) (v : Value) (l : List PT) (w : World) (hv : PA d w v l) (hl : (rText l).length ≤ 100000) :
    Calls Tryd.prog 7 #[v] w fun e w' => e = .returned (prV (rPrint l)) ∧ Below w.heap.size w w' :=
  rprint_any 17 (fun s W hs => rscan_any s W hs) d v l w hv hl
end Go.Proofs.YtkbhjjmgacahdaaDoor.Wd
