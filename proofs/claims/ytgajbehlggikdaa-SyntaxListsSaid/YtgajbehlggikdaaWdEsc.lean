/- DERIVED. Walks over the reader's escape and single. -/
import Derived.Test.YtgajbehlggikdaaWdAdd
namespace Go.Proofs.Ytgajbehlggikdaa.Wd
open Go.RowKit
open PathM WdM
set_option linter.unusedVariables false

/-- A reader and what is gathered. -/
structure St (D : Nat) (w : World) (rb gb : Nat) (s : ByteArray) (i d : Nat) (g : Ga) : Prop where
  rd : RdIn w rb s i d
  ga : GaIn D w gb g
  lt : rb < gb
/-- No more was gathered than was read. -/
def Gok (g : Ga) (n : Nat) : Prop := g.ps.length ≤ 2 * n ∧ g.tx.length ≤ n
def Both (rb gb : Nat) (k : Nat) : Prop := k = rb ∨ gb ≤ k
theorem GaIn.kept {D : Nat} {w w' : World} {gb : Nat} {g : Ga} {S : Nat → Prop} (h : GaIn D w gb g) (hk : Kept S w w') (hs : ∀ k, S k → k < gb) : GaIn D w' gb g := by
  obtain ⟨a, b, c, h⟩ := h
  exact ⟨a, b, c, h.kept hk fun k e => .inl (hs k e)⟩
theorem St.read {D : Nat} {w w' : World} {rb gb : Nat} {s : ByteArray} {i n d d' : Nat} {g : Ga} (h : St D w rb gb s i d g) (hk : Kept (· = rb) w w') (hr : RdIn w' rb s n d') : St D w' rb gb s n d' g :=
  ⟨hr, h.ga.kept hk fun k e => by have := h.lt; omega, h.lt⟩
theorem St.gath {D : Nat} {w w' : World} {rb gb : Nat} {s : ByteArray} {i d : Nat} {g g' : Ga} (h : St D w rb gb s i d g) (hg : GaIn D w' gb g') (hk : Kept (fun k => gb ≤ k) w w') : St D w' rb gb s i d g' :=
  ⟨hk.at h.rd (by have := h.lt; omega), hg, h.lt⟩
theorem St.drewN {D : Nat} {w : World} {rb gb : Nat} {s : ByteArray} {i d : Nat} {g : Ga} (h : St D w rb gb s i d g) (k : Nat) : St D (w.drewN k) rb gb s i d g :=
  h.read (Kept.drewN k) (rd_drewN h.rd k)
theorem Gok.mono {g : Ga} {i n : Nat} (h : Gok g i) (hn : i ≤ n) : Gok g n := ⟨by have := h.1; omega, by have := h.2; omega⟩
theorem Gok.add {g : Ga} {i n : Nat} (h : Gok g i) (t : Bs) (q : Bool) (hn : i < n) (ht : i + t.length ≤ n) : Gok (g.add t q) n := by
  unfold Gok at *
  unfold Ga.add
  have hc := close_len g
  split
  · exact ⟨by simp only; omega, by simp only [List.length_append]; omega⟩
  · exact ⟨by simp only; omega, by simp only [List.length_append, hc.2, List.length_nil]; omega⟩
theorem Gok.put {g : Ga} {i n : Nat} (h : Gok g i) (p : PT) (hn : i < n) : Gok (g.put p) n := by
  unfold Gok at *
  unfold Ga.put
  have hc := close_len g
  exact ⟨by simp only [List.length_append, List.length_singleton]; omega, by simp only [hc.2, List.length_nil]; omega⟩
/-- How reading into what is gathered ends. -/
def GPost (D rb gb : Nat) (s : ByteArray) (i d : Nat) (w : World) (m : Rs Ga) (e : Ending) (w' : World) : Prop :=
  Ends s i m (fun g' n e w' => i < n ∧ e = .returned (.tuple #[]) ∧ St D w' rb gb s n d g' ∧ Gok g' n ∧ Kept (Both rb gb) w w') (fun w' => Kept (Both rb gb) w w') e w'
theorem kept_rb {w w' : World} {rb gb : Nat} (h : Kept (· = rb) w w') : Kept (Both rb gb) w w' := h.mono fun k e => .inl e
theorem kept_gb {w w' : World} {rb gb : Nat} (h : Kept (fun k => gb ≤ k) w w') : Kept (Both rb gb) w w' := h.mono fun k e => .inr e
theorem kept_dr {w : World} {rb gb : Nat} (n : Nat) : Kept (Both rb gb) w (w.drewN n) := Kept.drewN n
theorem take_one (s : ByteArray) (i : Nat) (h : i < s.size) : (s.data.toList.drop i).take 1 = [s[i]] := by rw [get_at s i h]; rfl

theorem GPost.bad {D rb gb : Nat} {s : ByteArray} {i d n : Nat} {w w' : World} {er : Int} {m : Rs Ga} (hm : m = .bad (s.size - n) er) (h1 : i ≤ n) (h2 : n ≤ s.size) (hk : Kept (Both rb gb) w w') : GPost D rb gb s i d w m (flt n er) w' := by
  rw [hm]; exact .inr ⟨n, er, rfl, h1, h2, rfl, hk⟩
theorem GPost.ok {D rb gb : Nat} {s : ByteArray} {i d n : Nat} {w w' : World} {m : Rs Ga} {g' : Ga} (hm : m = .ok g' (s.data.toList.drop n)) (h1 : i < n) (h2 : n ≤ s.size) (hS : St D w' rb gb s n d g') (hg : Gok g' n) (hk : Kept (Both rb gb) w w') : GPost D rb gb s i d w m (.returned (.tuple #[])) w' := by
  rw [hm]; exact .inl ⟨g', n, rfl, by omega, h2, h1, rfl, hS, hg, hk⟩
theorem GPost.later {D rb gb : Nat} {s : ByteArray} {i j d : Nat} {w w0 : World} {m : Rs Ga} {e : Ending} {w' : World} (h : GPost D rb gb s j d w m e w') (hij : i ≤ j) (hk : Kept (Both rb gb) w0 w) : GPost D rb gb s i d w0 m e w' := by
  rcases h with ⟨g', n, h1, h2, h3, h4, h5, h6, h7, h8⟩ | ⟨n, er, h1, h2, h3, h4, h5⟩
  · exact .inl ⟨g', n, h1, by omega, h3, by omega, h5, h6, h7, hk.trans h8⟩
  · exact .inr ⟨n, er, h1, by omega, h3, h4, hk.trans h5⟩
set_option maxRecDepth 100000 in
set_option maxHeartbeats 3200000 in
theorem escape_any {F : Nat} {esc : UInt8 → Bool} (hF : Asks F esc) (D rb gb : Nat) (s : ByteArray) (i d : Nat) (g : Ga) (w : World) (h : St D w rb gb s i d g) (hlt : i < s.size) (hs : s.size ≤ 8192) (h92 : s[i] = 92) (hok : Gok g i) :
    Calls Try.prog 70 #[.pointer (some ⟨rb, 0, none⟩), .pointer (some ⟨gb, 0, none⟩), .func (.func F) #[] #[]] w (GPost D rb gb s i d w (escape esc g (s.data.toList.drop (i + 1)))) := by
  obtain ⟨m, hm⟩ : ∃ m, escape esc g (s.data.toList.drop (i + 1)) = m := ⟨_, rfl⟩
  rw [hm]
  have e1 := hF.enters
  have HK := Lib.hid hF.calls
  have HS := Lib.hid h
  have HOK := Lib.hid hok
  have hgs : g.ps.length ≤ 50000 ∧ g.tx.length ≤ 50000 := by unfold Gok at hok; omega
  clear hF h hok
  have r0 := rd_s HS.out.rd
  have r1 := rd_at HS.out.rd
  have f1 := rd_fz HS.out.rd 1
  have hz := rd_lt HS.out.rd
  have h1w : IntKind.i64.wrap ((i : Int) + 1) = (i : Int) + 1 := IntWalk.i64_in _ (by omega)
  by_cases hend : i + 1 = s.size
  · have HM : Hid (m = .bad (s.size - i) 60) := Lib.hid (by rw [← hm, drop_nil s (i + 1) (by omega)]; show Rs.bad 1 60 = _; congr 1; omega)
    have b1 : ((i : Int) + 1 == (s.size : Int)) = true := by simp; omega
    have hi : i ≤ s.size := by omega
    clear h92 hm hend
    go_enter Try.func70, Try.ntmps70
    go_wp2_with fail
    go_quiet (fail)
    go_wp2
    exact ⟨rfl, GPost.bad HM.out (Nat.le_refl _) hi (kept_dr _)⟩
  · have hlt1 : i + 1 < s.size := by omega
    have b1 : ((i : Int) + 1 == (s.size : Int)) = false := by simp; omega
    have h1p : (0 : Int) ≤ (i : Int) + 1 := by omega
    have h1n : ((i : Int) + 1).toNat = i + 1 := by omega
    have h1j : (i : Int) + 1 < (s.size : Int) := by omega
    have HD := Lib.hid (get_at s (i + 1) hlt1)
    have HT := Lib.hid (take_one s i hlt)
    have HT1 := Lib.hid (take_one s (i + 1) hlt1)
    have H92 := Lib.hid h92
    have HKC := Lib.hid (HK.out s[i + 1])
    clear h92 hend
    cases hc : esc s[i + 1] with
    | false =>
      have HM : Hid (m = .ok (g.add [92] true) (s.data.toList.drop (i + 1))) := Lib.hid (by rw [← hm, HD.out, escape, hc]; rfl)
      rw [hc] at HKC
      clear hc hm
      go_enter Try.func70, Try.ntmps70
      go_wp2_with fail
      go_quiet (fail)
      have HS2 := Lib.hid (HS.out.drewN nq)
      have HKW := Lib.hid (kept_dr (rb := rb) (gb := gb) (w := w) nq)
      clear r0 r1 f1 hz
      generalize w.drewN nq = w2 at *
      have r0 := rd_s HS2.out.rd
      have r1 := rd_at HS2.out.rd
      have f1 := rd_fz HS2.out.rd 1
      have hz := rd_lt HS2.out.rd
      go_wp2_with fail
      go_quiet ((go_at_fn F; exact qs HKC.out))
      have HS3 := Lib.hid (HS2.out.drewN nq)
      have HKW3 := Lib.hid (HKW.out.trans (kept_dr nq))
      generalize w2.drewN nq = w3 at *
      go_wp2_with fail
      refine (take_any rb s i d 1 w3 HS3.out.rd (by omega) hs).mono ?_
      rintro e w4 h9
      obtain ⟨rfl, hk4, hr4⟩ := h9
      have HS4 := Lib.hid (HS3.out.read hk4 hr4)
      have HKW4 := Lib.hid (HKW3.out.trans (kept_rb hk4))
      rw [HT.out, H92.out]
      clear hk4 hr4
      go_wp2_with fail
      refine (add_any D gb g [92] true w4 HS4.out.ga hgs.1 hgs.2 (by simp)).mono ?_
      rintro e w5 h9
      obtain ⟨rfl, hg5, hk5⟩ := h9
      have HS5 := Lib.hid (HS4.out.gath hg5 hk5)
      have HKW5 := Lib.hid (HKW4.out.trans (kept_gb hk5))
      clear hg5 hk5
      go_wp2
      refine bodyPost_ret (results_none rfl _ _ _) rfl ?_
      exact GPost.ok HM.out (by omega) (by omega) HS5.out (HOK.out.add _ _ (by omega) (by simp)) HKW5.out
    | true =>
      rw [hc] at HKC
      have hmm : m = if s[i + 1] = 10 then .ok g (s.data.toList.drop (i + 2)) else .ok (g.add [s[i + 1]] true) (s.data.toList.drop (i + 2)) := by rw [← hm, HD.out, escape, hc]; rfl
      obtain ⟨sc, hsc⟩ : ∃ sc, nm [s[i + 1]] = sc := ⟨_, rfl⟩
      have hsl : sc.toList = [s[i + 1]] := by rw [← hsc, listD]; rfl
      have HSC := Lib.hid hsc
      have HMM := Lib.hid hmm
      have HSL := Lib.hid hsl
      clear hc hm hmm hsc hsl
      by_cases h10 : s[i + 1] = 10
      · have HM := HMM.out
        rw [if_pos h10] at HM
        have HM := Lib.hid HM
        have c1 : (sc.toList == [10]) = true := by rw [HSL.out, h10]; rfl
        clear h10
        go_enter Try.func70, Try.ntmps70
        go_wp2_with fail
        go_quiet (fail)
        have HS2 := Lib.hid (HS.out.drewN nq)
        have HKW := Lib.hid (kept_dr (rb := rb) (gb := gb) (w := w) nq)
        clear r0 r1 f1 hz
        generalize w.drewN nq = w2 at *
        have r0 := rd_s HS2.out.rd
        have r1 := rd_at HS2.out.rd
        have f1 := rd_fz HS2.out.rd 1
        have hz := rd_lt HS2.out.rd
        go_wp2_with fail
        go_quiet ((go_at_fn F; exact qs HKC.out))
        have HS3 := Lib.hid (HS2.out.drewN nq)
        have HKW3 := Lib.hid (HKW.out.trans (kept_dr nq))
        clear r0 r1 f1 hz
        generalize w2.drewN nq = w3 at *
        have r1 := rd_at HS3.out.rd
        have f1 := rd_fz HS3.out.rd 1
        have hz := rd_lt HS3.out.rd
        have HK4 := Lib.hid (Kept.setCell (S := (· = rb)) (w := w3) ⟨rb, 1, none⟩ (.int .i64 ((i : Int) + 1)) rfl)
        have HS4 : Hid (St D (w3.setCell ⟨rb, 1, none⟩ (.int .i64 ((i : Int) + 1))) rb gb s (i + 1) d g) := Lib.hid (HS3.out.read HK4.out (at_set HS3.out.rd (i + 1)))
        have HKW4 := Lib.hid (HKW3.out.trans (kept_rb HK4.out))
        go_wp2_with fail
        generalize w3.setCell ⟨rb, 1, none⟩ (.int .i64 ((i : Int) + 1)) = w4 at *
        refine (take_any rb s (i + 1) d 1 w4 HS4.out.rd (by omega) hs).mono ?_
        rintro e w5 h9
        obtain ⟨rfl, hk5, hr5⟩ := h9
        have HS5 := Lib.hid (HS4.out.read hk5 hr5)
        have HKW5 := Lib.hid (HKW4.out.trans (kept_rb hk5))
        rw [HT1.out, HSC.out]
        clear hk5 hr5
        go_wp2
        refine bodyPost_ret (results_none rfl _ _ _) rfl ?_
        exact GPost.ok HM.out (by omega) (by omega) HS5.out (HOK.out.mono (by omega)) HKW5.out
      · have HM := HMM.out
        rw [if_neg h10] at HM
        have HM := Lib.hid HM
        have c1 : (sc.toList == [10]) = false := by rw [HSL.out]; simpa using h10
        clear h10
        go_enter Try.func70, Try.ntmps70
        go_wp2_with fail
        go_quiet (fail)
        have HS2 := Lib.hid (HS.out.drewN nq)
        have HKW := Lib.hid (kept_dr (rb := rb) (gb := gb) (w := w) nq)
        clear r0 r1 f1 hz
        generalize w.drewN nq = w2 at *
        have r0 := rd_s HS2.out.rd
        have r1 := rd_at HS2.out.rd
        have f1 := rd_fz HS2.out.rd 1
        have hz := rd_lt HS2.out.rd
        go_wp2_with fail
        go_quiet ((go_at_fn F; exact qs HKC.out))
        have HS3 := Lib.hid (HS2.out.drewN nq)
        have HKW3 := Lib.hid (HKW.out.trans (kept_dr nq))
        clear r0 r1 f1 hz
        generalize w2.drewN nq = w3 at *
        have r1 := rd_at HS3.out.rd
        have f1 := rd_fz HS3.out.rd 1
        have hz := rd_lt HS3.out.rd
        have HK4 := Lib.hid (Kept.setCell (S := (· = rb)) (w := w3) ⟨rb, 1, none⟩ (.int .i64 ((i : Int) + 1)) rfl)
        have HS4 : Hid (St D (w3.setCell ⟨rb, 1, none⟩ (.int .i64 ((i : Int) + 1))) rb gb s (i + 1) d g) := Lib.hid (HS3.out.read HK4.out (at_set HS3.out.rd (i + 1)))
        have HKW4 := Lib.hid (HKW3.out.trans (kept_rb HK4.out))
        go_wp2_with fail
        generalize w3.setCell ⟨rb, 1, none⟩ (.int .i64 ((i : Int) + 1)) = w4 at *
        refine (take_any rb s (i + 1) d 1 w4 HS4.out.rd (by omega) hs).mono ?_
        rintro e w5 h9
        obtain ⟨rfl, hk5, hr5⟩ := h9
        have HS5 := Lib.hid (HS4.out.read hk5 hr5)
        have HKW5 := Lib.hid (HKW4.out.trans (kept_rb hk5))
        rw [HT1.out, HSC.out]
        clear hk5 hr5
        go_wp2_with fail
        rw [← HSC.out]
        refine (add_any D gb g [s[i + 1]] true w5 HS5.out.ga hgs.1 hgs.2 (by simp)).mono ?_
        rintro e w6 h9
        obtain ⟨rfl, hg6, hk6⟩ := h9
        have HS6 := Lib.hid (HS5.out.gath hg6 hk6)
        have HKW6 := Lib.hid (HKW5.out.trans (kept_gb hk6))
        clear hg6 hk6
        go_wp2
        refine bodyPost_ret (results_none rfl _ _ _) rfl ?_
        exact GPost.ok HM.out (by omega) (by omega) HS6.out (HOK.out.add _ _ (by omega) (by simp)) HKW6.out

end Go.Proofs.Ytgajbehlggikdaa.Wd
