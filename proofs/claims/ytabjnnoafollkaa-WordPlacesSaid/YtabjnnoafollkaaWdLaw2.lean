/- DERIVED. The law WordPlaces, walked. -/
import Derived.Test.YtabjnnoafollkaaWdAwake
import Derived.Test.YtabjnnoafollkaaWdBad
namespace Go.Proofs.Ytabjnnoafollkaa.Wd
open Go.RowKit
open PathM WdM
set_option linter.unusedVariables false

theorem pair_eq {s t : ByteArray} {k n n2 : Nat} {er er2 : Int} {l l2 : List PT} {X Y : Prop} (ht : t.data.toList = s.data.toList.drop k) (hk : k ≤ s.size) (b1 : k ≤ n) (b2 : n ≤ s.size) (b3 : n2 ≤ t.size)
    (h1 : (er = 0 ∧ scan (s.data.toList.drop k) = .ok l (s.data.toList.drop n) ∧ X) ∨ (scan (s.data.toList.drop k) = .bad (s.size - n) er ∧ l = []))
    (h2 : (er2 = 0 ∧ scan (t.data.toList.drop 0) = .ok l2 (t.data.toList.drop n2) ∧ Y) ∨ (scan (t.data.toList.drop 0) = .bad (t.size - n2) er2 ∧ l2 = [])) : l2 = l ∧ er2 = er ∧ n = n2 + k ∧ (er ≠ 0 ∨ (er = 0 ∧ X)) := by
  have hts : t.size = s.size - k := by rw [sizeD, ht, bad_len]
  rw [List.drop_zero, ht] at h2
  rcases h1 with ⟨e1, h1, hx⟩ | ⟨h1, l1⟩
  · rcases h2 with ⟨e2, h2, _⟩ | ⟨h2, l2'⟩
    · rw [h1] at h2
      injection h2 with h3 h4
      have h5 := congrArg List.length h4
      rw [List.drop_drop, bad_len, bad_len] at h5
      exact ⟨h3.symm, by rw [e1, e2], by omega, .inr ⟨e1, hx⟩⟩
    · rw [h1] at h2; cases h2
  · rcases h2 with ⟨e2, h2, _⟩ | ⟨h2, l2'⟩
    · rw [h1] at h2; cases h2
    · have hne := scan_err h1
      rw [h1] at h2
      injection h2 with h3 h4
      exact ⟨by rw [l1, l2'], h4.symm, by omega, .inl hne⟩
set_option maxRecDepth 100000 in
set_option maxHeartbeats 1600000 in
theorem places_long (s : ByteArray) (a : Int) (w : World) (hm : s.size ≤ maxLen) (hl : 1000 < s.size) :
    Calls Try.prog 4 #[.string s, .int .u64 a] w fun e w' => e = .returned (.bool true) ∧ Below w.heap.size w w' := by
  go_enter Try.func4, Try.ntmps4
  go_wp2_with (go_at_call 16; refine (awake_any _).mono ?_; rintro e w' ⟨rfl, hb⟩)
  go_ret
  exact ⟨rfl, hb⟩
set_option maxRecDepth 100000 in
set_option maxHeartbeats 1600000 in
theorem places_short (s : ByteArray) (a : Nat) (w : World) (ha : a ≤ 18446744073709551615) (hl : s.size ≤ 1000) :
    Calls Try.prog 4 #[.string s, .int .u64 a] w fun e w' => e = .returned (.bool true) ∧ Below w.heap.size w w' := by
  obtain ⟨k, hk, hks⟩ : ∃ k : Nat, wrap64 ((a : Int) % ((s.size : Int) + 1)) = (k : Int) ∧ k ≤ s.size := by
    refine ⟨a % (s.size + 1), ?_, by have := Nat.mod_lt a (show 0 < s.size + 1 by omega); omega⟩
    have h2 := Nat.mod_lt a (show 0 < s.size + 1 by omega)
    have h3 : (a : Int) % ((s.size : Int) + 1) = ((a % (s.size + 1) : Nat) : Int) := by simp
    rw [h3]
    generalize a % (s.size + 1) = x at *
    unfold wrap64
    omega
  go_enter Try.func4, Try.ntmps4
  go_wp2_with fail
  rw [hk]
  refine (scan_any s k w hks (by omega)).mono ?_
  rintro e w1 ⟨hb1, v1, l1, n1, er1, rfl, hv1, hn1, hn2, hh1⟩
  obtain ⟨A1, c1, rfl, _⟩ := PIn.shape hv1
  have HB1 := Lib.hid hb1
  have HV1 := Lib.hid hv1
  have HH1 := Lib.hid hh1
  have HKK := Lib.hid hk
  have hkp : (0 : Int) ≤ (k : Int) := by omega
  have hkj : (k : Int) ≤ (s.size : Int) := by omega
  clear hb1 hv1 hh1 hk
  go_wp2_with fail
  obtain ⟨t, ht⟩ : ∃ t, s.extract k s.size = t := ⟨_, rfl⟩
  have htd : t.data.toList = s.data.toList.drop k := by rw [← ht, ext_from, nm_data]
  have hts : t.size = s.size - k := by rw [sizeD, htd, bad_len]
  rw [ht]
  refine (scan_any t 0 w1 (Nat.zero_le _) (by omega)).mono ?_
  rintro e w2 ⟨hb2, v2, l2, n2, er2, rfl, hv2, _, hm2, hh2⟩
  obtain ⟨rfl, rfl, hn, hfin⟩ := pair_eq htd hks hn1 hn2 hm2 HH1.out hh2
  obtain ⟨A2, c2, rfl, _⟩ := PIn.shape hv2
  have HB2 := Lib.hid (HB1.out.trans (hb2.mono HB1.out.size))
  have HV2 := Lib.hid hv2.any
  have HV3 : Hid (PIn 17 w2 (fun k => w.heap.size ≤ k ∧ PTy w1 k) (.slice A1 l2.length c1) l2) := Lib.hid (PIn.keep (fun k hk => by
    obtain ⟨_, cs, fr, h2⟩ := hk
    exact hb2.block k (fin_at h2)) 17 _ _ HV1.out)
  have HF := Lib.hid hfin
  have HN := Lib.hid hn
  have q1 : ((n1 : Int) != (n2 : Int) + (k : Int)) = false := by simp; omega
  have q3 : IntKind.i64.wrap ((n2 : Int) + (k : Int)) = (n2 : Int) + (k : Int) := IntWalk.i64_in _ (by omega)
  clear hb2 hv2 hh2 hfin HH1 HV1 HB1 ht htd hts hm2 hn
  by_cases hz : er2 = 0
  · subst hz
    have hx : n1 = s.size ∨ ∃ h : n1 < s.size, meta_ s[n1] = true := by
      rcases HF.out with h | h
      · exact absurd rfl h
      · exact h.2
    clear HF
    by_cases he : n1 = s.size
    · have q4 : ((n1 : Int) == (s.size : Int)) = true := by simp; omega
      clear hx he
      go_wp2_with (first | (go_at_call 18; refine (rsame_any 17 17 _ _ _ _ _ _ _ HV3.out HV2.out).mono ?_; rw [sameL_refl]; rintro e w' ⟨rfl, ks, rfl⟩) | (go_at_call 16; refine (awake_any _).mono ?_; rintro e w' ⟨rfl, hb⟩))
      go_ret
      exact ⟨rfl, (below_drewN' HB2.out ks).trans (hb.mono HB2.out.size)⟩
    · obtain ⟨hlt, hmt⟩ : ∃ h : n1 < s.size, meta_ s[n1] = true := hx.resolve_left he
      have q4 : ((n1 : Int) == (s.size : Int)) = false := by simp; omega
      have HM := Lib.hid (meta_any s[n1])
      rw [hmt] at HM
      clear hx hmt
      go_wp2_with (first | (go_at_call 18; refine (rsame_any 17 17 _ _ _ _ _ _ _ HV3.out HV2.out).mono ?_; rw [sameL_refl]; rintro e w' ⟨rfl, ks, rfl⟩) | (go_at_call 10; refine (HM.out _).mono ?_; rintro e w' ⟨rfl, rfl⟩) | (go_at_call 16; refine (awake_any _).mono ?_; rintro e w' ⟨rfl, hb⟩))
      go_ret
      exact ⟨rfl, (below_drewN' HB2.out ks).trans (hb.mono HB2.out.size)⟩
  · have q4 : (er2 != 0) = true := by simpa using hz
    clear HF
    go_wp2_with (first | (go_at_call 18; refine (rsame_any 17 17 _ _ _ _ _ _ _ HV3.out HV2.out).mono ?_; rw [sameL_refl]; rintro e w' ⟨rfl, ks, rfl⟩) | (go_at_call 16; refine (awake_any _).mono ?_; rintro e w' ⟨rfl, hb⟩))
    go_ret
    exact ⟨rfl, (below_drewN' HB2.out ks).trans (hb.mono HB2.out.size)⟩
theorem places_law (s : ByteArray) (a : Int) (w : World) (hm : s.size ≤ maxLen) (h0 : 0 ≤ a) (h1 : a ≤ 18446744073709551615) :
    Calls Try.prog 4 #[.string s, .int .u64 a] w fun e w' => e = .returned (.bool true) ∧ Below w.heap.size w w' := by
  obtain ⟨n, rfl⟩ : ∃ n : Nat, a = (n : Int) := ⟨a.toNat, by omega⟩
  by_cases hl : s.size ≤ 1000
  · exact places_short s n w (by omega) hl
  · exact places_long s n w hm (by omega)

end Go.Proofs.Ytabjnnoafollkaa.Wd
