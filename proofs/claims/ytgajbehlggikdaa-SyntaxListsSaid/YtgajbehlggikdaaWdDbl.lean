/- DERIVED. The walk over the reader's double. -/
import Derived.Test.YtgajbehlggikdaaWdPie
namespace Go.Proofs.Ytgajbehlggikdaa.Wd
open Go.RowKit
open PathM WdM
set_option linter.unusedVariables false

section
variable {rec : Rec} {fl N : Nat} {g g' : Ga} {l l' t : Bs} {a : Nat} {e : Int}
theorem dl_nil : dloop rec fl N g [] = .bad fl 60 := by cases N <;> rfl
theorem dl_end (h : stands [34] l = true) : dloop rec fl (N + 1) g l = .ok g (l.drop 1) := by
  obtain ⟨t, rfl⟩ := stands_head h
  rfl
theorem dl_bad (h : stands [34] l = false) (hl : 0 < l.length) (hp : piece rec escD g true l = .bad a e) : dloop rec fl (N + 1) g l = .bad a e := by
  cases l with
  | nil => simp at hl
  | cons c t =>
    have : c ≠ 34 := fun e => by rw [e] at h; simp [stands] at h
    rw [dloop, if_neg this, hp]
theorem dl_go (h : stands [34] l = false) (hl : 0 < l.length) (hp : piece rec escD g true l = .ok g' l') : dloop rec fl (N + 1) g l = dloop rec fl N g' l' := by
  cases l with
  | nil => simp at hl
  | cons c t =>
    have : c ≠ 34 := fun e => by rw [e] at h; simp [stands] at h
    rw [dloop, if_neg this, hp]
end
theorem stands_drew {rb : Nat} {s : ByteArray} {i d : Nat} {w : World} (sign : ByteArray) (l : Bs) (hl : sign.data.toList = l) (h : RdIn w rb s i d) (hi : i ≤ s.size) (b : Bool) (hb : stands l (s.data.toList.drop i) = b) :
    Calls Try.prog 68 #[.pointer (some ⟨rb, 0, none⟩), .string sign] w fun e w' => e = .returned (.bool b) ∧ ∃ k, w' = w.drewN k := by
  have := stands_any rb s i d sign w h hi
  rw [hl, hb] at this
  exact this
def PieceOk (n : Nat) : Prop := ∀ (F : Nat) (esc : UInt8 → Bool), Asks F esc → ∀ (rb gb : Nat) (s : ByteArray) (i d : Nat) (g : Ga) (qd : Bool) (w : World), St n w rb gb s i d g → i < s.size → s.size ≤ 8192 → d + n = 16 → Gok g i →
  Calls Try.prog 47 #[.pointer (some ⟨rb, 0, none⟩), .pointer (some ⟨gb, 0, none⟩), .bool qd, .func (.func F) #[] #[]] w (GPost n rb gb s i d w (piece (recN n) esc g qd (s.data.toList.drop i)))
theorem pieceOk (n : Nat) (IH : ∀ m, n = m + 1 → PartsOk m) : PieceOk n := fun F esc hF rb gb s i d g qd w h hi hs hd hok => piece_any hF n (dollarOk n IH) rb gb s i d g qd w h hi hs hd hok
/-- In the loop. -/
structure Dl (n rb gb : Nat) (s : ByteArray) (i d : Nat) (r : Rs Ga) (w : World) (k : Nat) (wr : World) (j : Nat) (g : Ga) : Prop where
  st : St n wr rb gb s j d g
  ok : Gok g j
  kept : Kept (Both rb gb) w wr
  lt : i < j
  le : j ≤ s.size
  num : k = s.size - j
  eq : ∃ N, s.size - j + 1 ≤ N ∧ dloop (recN n) (s.size - i) N g (s.data.toList.drop j) = r
set_option maxRecDepth 100000 in
set_option maxHeartbeats 3200000 in
theorem double_any (n : Nat) (HPi : PieceOk n) (rb gb : Nat) (s : ByteArray) (i d : Nat) (g : Ga) (w : World) (h : St n w rb gb s i d g) (hi : i < s.size) (hs : s.size ≤ 8192) (hd : d + n = 16) (hok : Gok g i) :
    Calls Try.prog 46 #[.pointer (some ⟨rb, 0, none⟩), .pointer (some ⟨gb, 0, none⟩)] w (GPost n rb gb s i d w (double (recN n) g (s.data.toList.drop (i + 1)))) := by
  obtain ⟨r, hr⟩ : ∃ r, double (recN n) g (s.data.toList.drop (i + 1)) = r := ⟨_, rfl⟩
  rw [hr]
  unfold double at hr
  have hbl := bad_len s (i + 1)
  have hl1 : (s.data.toList.drop (i + 1)).length + 1 = s.size - i := by omega
  rw [hl1] at hr
  have HR := Lib.hid hr
  have HS := Lib.hid h
  have HOK := Lib.hid hok
  have HPI := Lib.hid HPi
  have HHD := Lib.hid hd
  have h1w : IntKind.i64.wrap ((i : Int) + 1) = (i : Int) + 1 := IntWalk.i64_in _ (by omega)
  clear hbl hl1 HPi h hok hd hr
  have r1 := rd_at HS.out.rd
  have f1 := rd_fz HS.out.rd 1
  have hz := rd_lt HS.out.rd
  go_enter Try.func46, Try.ntmps46
  go_wp2_with fail
  have HK1 := Lib.hid (Kept.setCell (S := (· = rb)) (w := w) ⟨rb, 1, none⟩ (.int .i64 ((i : Int) + 1)) rfl)
  have HS1 : Hid (St n (w.setCell ⟨rb, 1, none⟩ (.int .i64 ((i : Int) + 1))) rb gb s (i + 1) d g) := Lib.hid (HS.out.read HK1.out (at_set HS.out.rd (i + 1)))
  clear r1 f1 hz
  generalize w.setCell ⟨rb, 1, none⟩ (.int .i64 ((i : Int) + 1)) = w1 at *
  cases b0 : stands [34] (s.data.toList.drop (i + 1)) with
  | true =>
    refine (stands_drew ⟨#[34]⟩ [34] rfl HS1.out.rd (by omega) true b0).mono ?_
    rintro e w9 ⟨rfl, k0, rfl⟩
    have HR2 : Hid (dloop (recN n) (s.size - i) (s.size - i) (g.add [] true) (s.data.toList.drop (i + 1)) = r) := Lib.hid (by have := HR.out; rw [b0, if_pos rfl] at this; exact this)
    have HS2 := Lib.hid (HS1.out.drewN k0)
    have HK2 := Lib.hid ((kept_rb (gb := gb) HK1.out).trans (kept_dr k0))
    have hgs : g.ps.length ≤ 50000 ∧ g.tx.length ≤ 50000 := by have := HOK.out; unfold Gok at this; omega
    clear b0 HR HS1 HK1
    generalize w1.drewN k0 = w2 at *
    go_wp2_with fail
    refine (add_any n gb g [] true w2 HS2.out.ga hgs.1 hgs.2 (by simp)).mono ?_
    rintro e w3 ⟨rfl, hg3, hk3⟩
    have HG3 := Lib.hid (HS2.out.gath hg3 hk3)
    have HO3 : Hid (Gok (g.add [] true) (i + 1)) := Lib.hid (HOK.out.add _ _ (by omega) (by simp))
    have HK3 := Lib.hid (HK2.out.trans (kept_gb hk3))
    clear hg3 hk3 hgs HK2 HS2 HOK HS
    generalize g.add [] true = g3 at *
    go_wp2_with fail
    go_loopg [] (s.size - (i + 1)) (fun k wr => ∃ j g', Hid (Dl n rb gb s i d r w k wr j g'))
    case atStart => exact ⟨i + 1, g3, Lib.hid ⟨HG3.out, HO3.out, HK3.out, by omega, by omega, rfl, s.size - i, by omega, HR2.out⟩⟩
    case round =>
      obtain ⟨j, g', HJ⟩ := hrel
      clear HG3 HO3 HK3 HR2
      obtain ⟨N, hN, he⟩ := HJ.out.eq
      have hij := HJ.out.lt
      have hjs := HJ.out.le
      have hnum := HJ.out.num
      have HE := Lib.hid he
      clear he
      have hbl := bad_len s j
      obtain ⟨M, rfl⟩ : ∃ M, N = M + 1 := ⟨N - 1, by omega⟩
      go_wp2_with fail
      cases hq : stands [34] (s.data.toList.drop j) with
      | true =>
        refine (stands_drew ⟨#[34]⟩ [34] rfl HJ.out.st.rd hjs true hq).mono ?_
        rintro e w9 ⟨rfl, k1, rfl⟩
        have hjl : j < s.size := by
          have := stands_len hq
          rw [hbl] at this
          simp at this
          omega
        have HM : Hid (r = .ok g' (s.data.toList.drop (j + 1))) := Lib.hid (by rw [← HE.out, dl_end hq, List.drop_drop])
        have HS4 := Lib.hid (HJ.out.st.drewN k1)
        have HK4 := Lib.hid (HJ.out.kept.trans (kept_dr k1))
        clear hq hbl
        generalize wr.drewN k1 = w4 at *
        have r1 := rd_at HS4.out.rd
        have f1 := rd_fz HS4.out.rd 1
        have hz := rd_lt HS4.out.rd
        have h2w : IntKind.i64.wrap ((j : Int) + 1) = (j : Int) + 1 := IntWalk.i64_in _ (by omega)
        have HK5 := Lib.hid (Kept.setCell (S := (· = rb)) (w := w4) ⟨rb, 1, none⟩ (.int .i64 ((j : Int) + 1)) rfl)
        have HS5 : Hid (St n (w4.setCell ⟨rb, 1, none⟩ (.int .i64 ((j : Int) + 1))) rb gb s (j + 1) d g') := Lib.hid (HS4.out.read HK5.out (at_set HS4.out.rd (j + 1)))
        have HF := Lib.hid (GPost.ok (i := i) (n := j + 1) (d := d) HM.out (by omega) (by omega) HS5.out (HJ.out.ok.mono (by omega)) (HK4.out.trans (kept_rb HK5.out)))
        go_wp2_with fail
        refine bodyPost_ret (results_none rfl _ _ _) rfl ?_
        exact HF.out
      | false =>
        refine (stands_drew ⟨#[34]⟩ [34] rfl HJ.out.st.rd hjs false hq).mono ?_
        rintro e w9 ⟨rfl, k1, rfl⟩
        have HS4 := Lib.hid (HJ.out.st.drewN k1)
        have HK4 := Lib.hid (HJ.out.kept.trans (kept_dr k1))
        generalize wr.drewN k1 = w4 at *
        go_wp2_with fail
        by_cases hend : j = s.size
        · have HM : Hid (r = .bad (s.size - i) 60) := Lib.hid (by rw [← HE.out, drop_nil s j (by omega), dl_nil])
          refine (over_lit rb s j d w4 HS4.out.rd true (decide_eq_true hend) 0).mono ?_
          rintro e w9 ⟨rfl, no, rfl⟩
          go_wp2_with fail
          exact ⟨rfl, GPost.bad HM.out (Nat.le_refl _) (by omega) (HK4.out.trans (kept_dr no))⟩
        · refine (over_lit rb s j d w4 HS4.out.rd false (decide_eq_false hend) 0).mono ?_
          rintro e w9 ⟨rfl, no, rfl⟩
          have HS5 := Lib.hid (HS4.out.drewN no)
          have HK5 := Lib.hid (HK4.out.trans (kept_dr no))
          have hlp : 0 < (s.data.toList.drop j).length := by omega
          clear hbl
          generalize w4.drewN no = w5 at *
          go_wp2_with fail
          refine (HPI.out _ escD asks_escD rb gb s j d g' true w5 HS5.out (by omega) hs HHD.out HJ.out.ok).mono ?_
          rintro e w6 h9
          rcases h9 with ⟨g2, k, h1, h2, h3, h4, rfl, h6, h7, h8⟩ | ⟨k, er, h1, h2, h3, rfl, h5⟩
          · have HJ2 : Hid (Dl n rb gb s i d r w (s.size - k) w6 k g2) := Lib.hid ⟨h6, h7, HK5.out.trans h8, by omega, h3, rfl, M, by omega, by rw [← HE.out]; exact (dl_go hq hlp h1).symm⟩
            clear h1 h6 h7 h8
            go_wp2
            go_roundg (s.size - k)
            case rel => exact ⟨k, g2, HJ2⟩
            case measure => omega
          · have HM : Hid (r = .bad (s.size - k) er) := Lib.hid (by rw [← HE.out]; exact dl_bad hq hlp h1)
            clear h1
            simp only [flt]
            go_wp2
            exact ⟨rfl, GPost.bad HM.out (by omega) h3 (HK5.out.trans h5)⟩
  | false =>
    refine (stands_drew ⟨#[34]⟩ [34] rfl HS1.out.rd (by omega) false b0).mono ?_
    rintro e w9 ⟨rfl, k0, rfl⟩
    have HR2 : Hid (dloop (recN n) (s.size - i) (s.size - i) g (s.data.toList.drop (i + 1)) = r) := Lib.hid (by have := HR.out; rw [b0, if_neg (by decide)] at this; exact this)
    have HG3 := Lib.hid (HS1.out.drewN k0)
    have HK3 := Lib.hid ((kept_rb (gb := gb) HK1.out).trans (kept_dr k0))
    have HO3 := Lib.hid (HOK.out.mono (n := i + 1) (by omega))
    clear b0 HR HS1 HK1 HOK HS
    generalize w1.drewN k0 = w3 at *
    obtain ⟨g3, hg3⟩ : ∃ g3, g = g3 := ⟨_, rfl⟩
    rw [hg3] at HR2 HG3 HO3
    clear hg3
    go_wp2_with fail
    go_loopg [] (s.size - (i + 1)) (fun k wr => ∃ j g', Hid (Dl n rb gb s i d r w k wr j g'))
    case atStart => exact ⟨i + 1, g3, Lib.hid ⟨HG3.out, HO3.out, HK3.out, by omega, by omega, rfl, s.size - i, by omega, HR2.out⟩⟩
    case round =>
      obtain ⟨j, g', HJ⟩ := hrel
      clear HG3 HO3 HK3 HR2
      obtain ⟨N, hN, he⟩ := HJ.out.eq
      have hij := HJ.out.lt
      have hjs := HJ.out.le
      have hnum := HJ.out.num
      have HE := Lib.hid he
      clear he
      have hbl := bad_len s j
      obtain ⟨M, rfl⟩ : ∃ M, N = M + 1 := ⟨N - 1, by omega⟩
      go_wp2_with fail
      cases hq : stands [34] (s.data.toList.drop j) with
      | true =>
        refine (stands_drew ⟨#[34]⟩ [34] rfl HJ.out.st.rd hjs true hq).mono ?_
        rintro e w9 ⟨rfl, k1, rfl⟩
        have hjl : j < s.size := by
          have := stands_len hq
          rw [hbl] at this
          simp at this
          omega
        have HM : Hid (r = .ok g' (s.data.toList.drop (j + 1))) := Lib.hid (by rw [← HE.out, dl_end hq, List.drop_drop])
        have HS4 := Lib.hid (HJ.out.st.drewN k1)
        have HK4 := Lib.hid (HJ.out.kept.trans (kept_dr k1))
        clear hq hbl
        generalize wr.drewN k1 = w4 at *
        have r1 := rd_at HS4.out.rd
        have f1 := rd_fz HS4.out.rd 1
        have hz := rd_lt HS4.out.rd
        have h2w : IntKind.i64.wrap ((j : Int) + 1) = (j : Int) + 1 := IntWalk.i64_in _ (by omega)
        have HK5 := Lib.hid (Kept.setCell (S := (· = rb)) (w := w4) ⟨rb, 1, none⟩ (.int .i64 ((j : Int) + 1)) rfl)
        have HS5 : Hid (St n (w4.setCell ⟨rb, 1, none⟩ (.int .i64 ((j : Int) + 1))) rb gb s (j + 1) d g') := Lib.hid (HS4.out.read HK5.out (at_set HS4.out.rd (j + 1)))
        have HF := Lib.hid (GPost.ok (i := i) (n := j + 1) (d := d) HM.out (by omega) (by omega) HS5.out (HJ.out.ok.mono (by omega)) (HK4.out.trans (kept_rb HK5.out)))
        go_wp2_with fail
        refine bodyPost_ret (results_none rfl _ _ _) rfl ?_
        exact HF.out
      | false =>
        refine (stands_drew ⟨#[34]⟩ [34] rfl HJ.out.st.rd hjs false hq).mono ?_
        rintro e w9 ⟨rfl, k1, rfl⟩
        have HS4 := Lib.hid (HJ.out.st.drewN k1)
        have HK4 := Lib.hid (HJ.out.kept.trans (kept_dr k1))
        generalize wr.drewN k1 = w4 at *
        go_wp2_with fail
        by_cases hend : j = s.size
        · have HM : Hid (r = .bad (s.size - i) 60) := Lib.hid (by rw [← HE.out, drop_nil s j (by omega), dl_nil])
          refine (over_lit rb s j d w4 HS4.out.rd true (decide_eq_true hend) 0).mono ?_
          rintro e w9 ⟨rfl, no, rfl⟩
          go_wp2_with fail
          exact ⟨rfl, GPost.bad HM.out (Nat.le_refl _) (by omega) (HK4.out.trans (kept_dr no))⟩
        · refine (over_lit rb s j d w4 HS4.out.rd false (decide_eq_false hend) 0).mono ?_
          rintro e w9 ⟨rfl, no, rfl⟩
          have HS5 := Lib.hid (HS4.out.drewN no)
          have HK5 := Lib.hid (HK4.out.trans (kept_dr no))
          have hlp : 0 < (s.data.toList.drop j).length := by omega
          clear hbl
          generalize w4.drewN no = w5 at *
          go_wp2_with fail
          refine (HPI.out _ escD asks_escD rb gb s j d g' true w5 HS5.out (by omega) hs HHD.out HJ.out.ok).mono ?_
          rintro e w6 h9
          rcases h9 with ⟨g2, k, h1, h2, h3, h4, rfl, h6, h7, h8⟩ | ⟨k, er, h1, h2, h3, rfl, h5⟩
          · have HJ2 : Hid (Dl n rb gb s i d r w (s.size - k) w6 k g2) := Lib.hid ⟨h6, h7, HK5.out.trans h8, by omega, h3, rfl, M, by omega, by rw [← HE.out]; exact (dl_go hq hlp h1).symm⟩
            clear h1 h6 h7 h8
            go_wp2
            go_roundg (s.size - k)
            case rel => exact ⟨k, g2, HJ2⟩
            case measure => omega
          · have HM : Hid (r = .bad (s.size - k) er) := Lib.hid (by rw [← HE.out]; exact dl_bad hq hlp h1)
            clear h1
            simp only [flt]
            go_wp2
            exact ⟨rfl, GPost.bad HM.out (by omega) h3 (HK5.out.trans h5)⟩

end Go.Proofs.Ytgajbehlggikdaa.Wd
