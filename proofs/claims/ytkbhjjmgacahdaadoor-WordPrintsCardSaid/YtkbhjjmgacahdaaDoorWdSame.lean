/- DERIVED. Walks: Same of package word, slices.EqualFunc over parts. -/
import Derived.Test.YtkbhjjmgacahdaaDoorWdRAri
namespace Go.Proofs.YtkbhjjmgacahdaaDoor.Wd
open Go.RowKit
open PathM WdM
set_option linter.unusedVariables false

/-- What is asked of a call of Same. -/
def SameAt (v u : Value) (r : Bool) (w : World) : Prop := Calls Tryd.prog 8 #[v, u] w fun e w' => e = .returned (.bool r) ∧ Below w.heap.size w w'
/-- Are two parts the same? -/
def sameP (p q : PT) : Bool := p.kind == q.kind && p.quoted == q.quoted && p.text == q.text && p.op == q.op && sameL p.word q.word
theorem sameL_cons2 (p q : PT) (l m : List PT) : sameL (p :: l) (q :: m) = (sameP p q && sameL l m) := sameL_cons p q l m
theorem str_eqb (a b : Bs) : ((nm a).toList == (nm b).toList) = (a == b) := by
  by_cases h : a = b
  · subst h; rw [str_eq]; simp
  · rw [str_ne h]; symm; simpa using h
set_option maxRecDepth 100000 in
set_option maxHeartbeats 3200000 in
theorem partEq_any (p q : PT) (wv uv : Value) (w : World) (hs : ∀ W, Below w.heap.size w W → SameAt wv uv (sameL p.word q.word) W) :
    Calls Tryd.prog 16 #[ptV p wv, ptV q uv] w fun e w' => e = .returned (.bool (sameP p q)) ∧ Below w.heap.size w w' := by
  obtain ⟨k1, b1, t1, o1, w1⟩ := p
  obtain ⟨k2, b2, t2, o2, w2⟩ := q
  unfold ptV sameP
  simp only [PT.kind, PT.quoted, PT.text, PT.op, PT.word] at *
  obtain ⟨r, hr⟩ : ∃ r, (k1 == k2 && b1 == b2 && t1 == t2 && o1 == o2 && sameL w1 w2) = r := ⟨_, rfl⟩
  rw [hr]
  unfold SameAt at hs
  by_cases h0 : k1 = k2
  · have q0 : (k1 == k2) = true := by simpa using h0
    by_cases h1 : b1 = b2
    · have q1 : (b1 == b2) = true := by simpa using h1
      by_cases h2 : t1 = t2
      · have q2 : ((nm t1).toList == (nm t2).toList) = true := by rw [h2]; exact str_eq _
        by_cases h3 : o1 = o2
        · have q3 : ((nm o1).toList == (nm o2).toList) = true := by rw [h3]; exact str_eq _
          have hr2 : sameL w1 w2 = r := by rw [← hr, h0, h1, h2, h3]; simp
          rw [hr2] at hs
          have HS := Lib.hid hs
          clear hs hr hr2 h0 h1 h2 h3
          generalize nm t1 = x1 at *
          generalize nm t2 = x2 at *
          generalize nm o1 = x3 at *
          generalize nm o2 = x4 at *
          have HB0 : ∀ o1 o2, Hid (Below w.heap.size w ((w.alloc o1).alloc o2)) := fun o1 o2 => Lib.hid (((Below.refl _ _).alloc (Nat.le_refl _) _).alloc (by simp) _)
          go_enter Tryd.func16, Tryd.ntmps16
          go_wp2_with (go_at_call 8; refine (HS.out _ (((Below.refl _ _).alloc (Nat.le_refl _) _).alloc (by simp) _)).mono ?_; rintro e w5 ⟨rfl, hb5⟩; have HB5 := Lib.hid ((HB0 _ _).out.trans (hb5.mono (by simp; omega))); clear hb5)
          go_ret
          exact ⟨rfl, HB5.out⟩
        · have q3 : ((nm o1).toList == (nm o2).toList) = false := str_ne h3
          have HF : Hid (r = false) := Lib.hid (by rw [← hr]; simp [h3])
          clear hs hr h0 h1 h2 h3
          generalize nm t1 = x1 at *
          generalize nm t2 = x2 at *
          generalize nm o1 = x3 at *
          generalize nm o2 = x4 at *
          go_enter Tryd.func16, Tryd.ntmps16
          go_wp2_with fail
          go_ret
          rw [HF.out]
          exact ⟨rfl, ((Below.refl _ _).alloc (Nat.le_refl _) _).alloc (by simp) _⟩
      · have q2 : ((nm t1).toList == (nm t2).toList) = false := str_ne h2
        have HF : Hid (r = false) := Lib.hid (by rw [← hr]; simp [h2])
        clear hs hr h0 h1 h2
        generalize nm t1 = x1 at *
        generalize nm t2 = x2 at *
        go_enter Tryd.func16, Tryd.ntmps16
        go_wp2_with fail
        go_ret
        rw [HF.out]
        exact ⟨rfl, ((Below.refl _ _).alloc (Nat.le_refl _) _).alloc (by simp) _⟩
    · have q1 : (b1 == b2) = false := by simpa using h1
      have HF : Hid (r = false) := Lib.hid (by rw [← hr]; simp [h1])
      clear hs hr h0 h1
      go_enter Tryd.func16, Tryd.ntmps16
      go_wp2_with fail
      go_ret
      rw [HF.out]
      exact ⟨rfl, ((Below.refl _ _).alloc (Nat.le_refl _) _).alloc (by simp) _⟩
  · have q0 : (k1 == k2) = false := by simpa using h0
    have HF : Hid (r = false) := Lib.hid (by rw [← hr]; simp [h0])
    clear hs hr h0
    go_enter Tryd.func16, Tryd.ntmps16
    go_wp2_with fail
    go_ret
    rw [HF.out]
    exact ⟨rfl, ((Below.refl _ _).alloc (Nat.le_refl _) _).alloc (by simp) _⟩

set_option maxRecDepth 100000 in
set_option maxHeartbeats 6400000 in
theorem equalFunc_any (D : Nat) (D' : Nat) (v u : Value) (l m : List PT) (w : World) (S T : Nat → Prop) (ih : l ≠ [] → ∀ (D' : Nat) (v u : Value) (l m : List PT) (w : World) (S T : Nat → Prop), PIn D w S v l → PIn D' w T u m → SameAt v u (sameL l m) w)
    (hv : PIn (D + 1) w S v l) (hu : PIn D' w T u m) :
    Calls Tryd.prog 15 #[v, u, .func (.func 16) #[] #[]] w fun e w' => e = .returned (.bool (sameL l m)) ∧ Below w.heap.size w w' := by
  by_cases hlen : l.length = m.length
  · obtain ⟨A, c, hv1, _⟩ := hv.shape
    obtain ⟨A', c', hu1, _⟩ := hu.shape
    have hop : ∀ (k : Nat), k < l.length → ∃ b off wv b2 off2 uv d1, A = some ⟨b, off, none⟩ ∧ A' = some ⟨b2, off2, none⟩ ∧
        (w.cell? ⟨b, off + k * 5, none⟩ = some (.int .i64 (l.getD k zeroPT).kind) ∧ w.cell? ⟨b, off + k * 5 + 1, none⟩ = some (.bool (l.getD k zeroPT).quoted) ∧ w.cell? ⟨b, off + k * 5 + 2, none⟩ = some (.string (nm (l.getD k zeroPT).text)) ∧
          w.cell? ⟨b, off + k * 5 + 3, none⟩ = some (.string (nm (l.getD k zeroPT).op)) ∧ w.cell? ⟨b, off + k * 5 + 4, none⟩ = some wv) ∧
        (w.cell? ⟨b2, off2 + k * 5, none⟩ = some (.int .i64 (m.getD k zeroPT).kind) ∧ w.cell? ⟨b2, off2 + k * 5 + 1, none⟩ = some (.bool (m.getD k zeroPT).quoted) ∧ w.cell? ⟨b2, off2 + k * 5 + 2, none⟩ = some (.string (nm (m.getD k zeroPT).text)) ∧
          w.cell? ⟨b2, off2 + k * 5 + 3, none⟩ = some (.string (nm (m.getD k zeroPT).op)) ∧ w.cell? ⟨b2, off2 + k * 5 + 4, none⟩ = some uv) ∧
        PIn D w S wv (l.getD k zeroPT).word ∧ PIn d1 w T uv (m.getD k zeroPT).word := by
      intro k hk
      have hne : l ≠ [] := fun e => by rw [e] at hk; simp at hk
      have hne2 : m ≠ [] := fun e => by rw [hlen, e] at hk; simp at hk
      obtain ⟨d0, b, off, c9, hd, h1, _, _, h2⟩ := hv.opened hne
      obtain ⟨d1, b2, off2, c8, hd1, h3, _, _, h4⟩ := hu.opened hne2
      obtain rfl : D = d0 := by omega
      obtain ⟨wv, x0, x1, x2, x3, x4, x5⟩ := h2 k hk
      obtain ⟨uv, y0, y1, y2, y3, y4, y5⟩ := h4 k (by omega)
      have e1 : l.getD k zeroPT = l[k] := by rw [List.getD_eq_getElem?_getD, List.getElem?_eq_getElem hk]; rfl
      have e2 : m.getD k zeroPT = m[k]'(by omega) := by rw [List.getD_eq_getElem?_getD, List.getElem?_eq_getElem (by omega)]; rfl
      rw [e1, e2]
      rw [hv1] at h1
      rw [hu1] at h3
      cases h1; cases h3
      exact ⟨b, off, wv, b2, off2, uv, d1, rfl, rfl, ⟨x0, x1, x2, x3, x4⟩, ⟨y0, y1, y2, y3, y4⟩, x5, y5⟩
    have hdrop : ∀ k, k < l.length → sameL (l.drop k) (m.drop k) = (sameP (l.getD k zeroPT) (m.getD k zeroPT) && sameL (l.drop (k + 1)) (m.drop (k + 1))) := by
      intro k hk
      have e1 : l.getD k zeroPT = l[k] := by rw [List.getD_eq_getElem?_getD, List.getElem?_eq_getElem hk]; rfl
      have e2 : m.getD k zeroPT = m[k]'(by omega) := by rw [List.getD_eq_getElem?_getD, List.getElem?_eq_getElem (by omega)]; rfl
      rw [e1, e2, List.drop_eq_getElem_cons hk, List.drop_eq_getElem_cons (show k < m.length by omega), sameL_cons2]
    have hend : sameL (l.drop l.length) (m.drop l.length) = true := by rw [List.drop_of_length_le (by omega), List.drop_of_length_le (by omega)]; simp [sameL]
    subst hv1; subst hu1
    rw [← hlen]
    obtain ⟨r, hr⟩ : ∃ r, sameL l m = r := ⟨_, rfl⟩
    rw [hr]
    have HR : Hid (sameL (l.drop 0) (m.drop 0) = r) := Lib.hid (by rw [List.drop_zero, List.drop_zero]; exact hr)
    have HO := Lib.hid hop; have HD := Lib.hid hdrop; have HE := Lib.hid hend; have HIH := Lib.hid (show 0 < l.length → _ from fun h0 => ih (fun e => by rw [e] at h0; exact absurd h0 (by simp)))
    clear hop hdrop hend ih hr hv hu hlen
    generalize l.length = n at *
    go_enter Tryd.func15, Tryd.ntmps15
    go_wp2
    go_loopw [17] (fun i wr => ∃ k : Nat, k ≤ n ∧ i = .int .i64 k ∧ Hid (sameL (l.drop k) (m.drop k) = r) ∧ Below w.heap.size w wr) (fun i _ => n - (intOf i).toNat)
    case atStart => exact ⟨0, by omega, rfl, HR, Below.refl _ _⟩
    case round =>
      obtain ⟨k, hk, rfl, HT, hbe⟩ := hrel
      have HBE := Lib.hid hbe
      have hwr : w.heap.size ≤ wr.heap.size := hbe.size
      by_cases hlt : k < n
      · obtain ⟨b, off, wv, b2, off2, uv, d1, rfl, rfl, hx, hy, hpx, hpy⟩ := HO.out k hlt
        have hT := HT.out
        rw [HD.out k hlt] at hT
        have hcl : ∀ {a : Addr} {x : Value}, w.cell? a = some x → wr.cell? a = some x := fun h => (hbe.cell (World.block_lt_of_cell? _ _ h)).trans h
        obtain ⟨x0, x1, x2, x3, x4⟩ := hx
        obtain ⟨y0, y1, y2, y3, y4⟩ := hy
        replace x0 := hcl x0
        replace x1 := hcl x1
        replace x2 := hcl x2
        replace x3 := hcl x3
        replace x4 := hcl x4
        replace y0 := hcl y0
        replace y1 := hcl y1
        replace y2 := hcl y2
        replace y3 := hcl y3
        replace y4 := hcl y4
        have hz1 : b < wr.heap.size := World.block_lt_of_cell? _ _ x0
        have hz2 : b2 < wr.heap.size := World.block_lt_of_cell? _ _ y0
        have hsn := fun W (hW : Below wr.heap.size wr W) => partEq_any (l.getD k zeroPT) (m.getD k zeroPT) wv uv W fun W' hW' =>
          HIH.out (by omega) d1 wv uv _ _ W' S T (((hpx.below hbe).below hW).below hW') (((hpy.below hbe).below hW).below hW')
        have hkk : (k : Int) < (n : Int) := by omega
        obtain ⟨A1, c1, rfl, _⟩ := hpx.shape
        obtain ⟨A2, c2, rfl, _⟩ := hpy.shape
        unfold ptV at hsn
        clear hcl hpx hpy hbe
        generalize l.getD k zeroPT = p at *
        generalize m.getD k zeroPT = q at *
        generalize p.word.length = n1 at *
        generalize q.word.length = n2 at *
        by_cases he : sameP p q = true
        · have HN : Hid (sameL (l.drop (k + 1)) (m.drop (k + 1)) = r) := Lib.hid (by rw [he, Bool.true_and] at hT; exact hT)
          rw [he] at hsn
          have HSN := Lib.hid hsn
          clear he hsn hT HT
          generalize nm p.text = s1 at *
          generalize nm p.op = s2 at *
          generalize nm q.text = s3 at *
          generalize nm q.op = s4 at *
          generalize p.kind = k1 at *
          generalize q.kind = k2 at *
          generalize p.quoted = q1 at *
          generalize q.quoted = q2 at *
          go_wp2_with (go_at_call 16; refine (HSN.out _ (((Below.refl _ _).alloc (by simp) _).alloc (by simp) _)).mono ?_; rintro e w5 ⟨rfl, hb5⟩; have HB5 := Lib.hid (HBE.out.trans (((((Below.refl wr.heap.size wr).alloc (by simp) _).alloc (by simp) _).trans (hb5.mono (by simp; omega))).mono hwr)); clear hb5)
          go_roundw
          case rel => exact ⟨k + 1, by omega, by go_num, HN, HB5.out⟩
          case measure => simp [intOf]; omega
        · have he2 : sameP p q = false := by simpa using he
          have HF : Hid (r = false) := Lib.hid (by rw [he2, Bool.false_and] at hT; exact hT.symm)
          rw [he2] at hsn
          have HSN := Lib.hid hsn
          clear he he2 hsn hT HT
          generalize nm p.text = s1 at *
          generalize nm p.op = s2 at *
          generalize nm q.text = s3 at *
          generalize nm q.op = s4 at *
          generalize p.kind = k1 at *
          generalize q.kind = k2 at *
          generalize p.quoted = q1 at *
          generalize q.quoted = q2 at *
          go_wp2_with (go_at_call 16; refine (HSN.out _ (((Below.refl _ _).alloc (by simp) _).alloc (by simp) _)).mono ?_; rintro e w5 ⟨rfl, hb5⟩; have HB5 := Lib.hid (HBE.out.trans (((((Below.refl wr.heap.size wr).alloc (by simp) _).alloc (by simp) _).trans (hb5.mono (by simp; omega))).mono hwr)); clear hb5)
          go_ret
          rw [HF.out]
          exact ⟨rfl, HB5.out⟩
      · obtain rfl : k = n := by omega
        have HF : Hid (r = true) := Lib.hid (by rw [← HT.out]; exact HE.out)
        clear HT
        go_wp2
        go_ret
        rw [HF.out]
        exact ⟨rfl, HBE.out⟩
  · rw [sameL_len l m hlen]
    obtain ⟨A1, c1, rfl, _⟩ := hv.shape
    obtain ⟨A2, c2, rfl, _⟩ := hu.shape
    have q1 : ((l.length : Int) != (m.length : Int)) = true := by simp; omega
    clear hv hu hlen ih
    generalize l.length = n at *
    generalize m.length = m at *
    go_enter Tryd.func15, Tryd.ntmps15
    go_wp2
    go_ret
    exact ⟨rfl, Below.refl _ _⟩

set_option maxRecDepth 100000 in
set_option maxHeartbeats 3200000 in
theorem same_any : ∀ (D D' : Nat) (v u : Value) (l m : List PT) (w : World) (S T : Nat → Prop), PIn D w S v l → PIn D' w T u m → SameAt v u (sameL l m) w := by
  intro D
  induction D with
  | zero =>
    intro D' v u l m w S T hv hu
    have h1 : PIn 1 w S v l := by obtain ⟨rfl, A, c, rfl⟩ := hv; exact PIn.nil 1 w S A c
    have HEQ := Lib.hid (equalFunc_any 0 D' v u l m w S T (fun hne => absurd hv.1 hne) h1 hu)
    clear h1
    obtain ⟨A1, c1, rfl, _⟩ := hv.shape
    obtain ⟨A2, c2, rfl, _⟩ := hu.shape
    unfold SameAt
    generalize sameL l m = r at *
    clear hv hu
    generalize l.length = n at *
    generalize m.length = m at *
    go_enter Tryd.func8, Tryd.ntmps8
    go_wp2_with fail
    refine HEQ.out.mono ?_
    rintro e w1 ⟨rfl, hb⟩
    have HB := Lib.hid hb
    clear hb
    go_wp2
    go_ret
    exact ⟨rfl, HB.out⟩
  | succ D ih =>
    intro D' v u l m w S T hv hu
    have HEQ := Lib.hid (equalFunc_any D D' v u l m w S T (fun _ => ih) hv hu)
    clear ih
    obtain ⟨A1, c1, rfl, _⟩ := hv.shape
    obtain ⟨A2, c2, rfl, _⟩ := hu.shape
    unfold SameAt
    generalize sameL l m = r at *
    clear hv hu
    generalize l.length = n at *
    generalize m.length = m at *
    go_enter Tryd.func8, Tryd.ntmps8
    go_wp2_with fail
    refine HEQ.out.mono ?_
    rintro e w1 ⟨rfl, hb⟩
    have HB := Lib.hid hb
    clear hb
    go_wp2
    go_ret
    exact ⟨rfl, HB.out⟩

end Go.Proofs.YtkbhjjmgacahdaaDoor.Wd
