/- DERIVED. The walk over the document's Size. -/
import Derived.Test.YtkbhjjmgacahdaaDoorWdSame
namespace Go.Proofs.YtkbhjjmgacahdaaDoor.Wd
open Go.RowKit
open PathM WdM
set_option linter.unusedVariables false

/-- The texts in words are no longer than so. -/
def PBd : List PT → Prop
  | [] => True
  | .mk _ _ t o w :: r => t.length ≤ 281474976710656 ∧ o.length ≤ 281474976710656 ∧ PBd w ∧ PBd r
theorem PBd.at {l : List PT} {i : Nat} (hi : i < l.length) (h : PBd l) : l[i].text.length ≤ 281474976710656 ∧ l[i].op.length ≤ 281474976710656 ∧ PBd l[i].word := by
  induction l generalizing i with
  | nil => simp at hi
  | cons p l ih =>
    obtain ⟨k, q, t, o, w⟩ := p
    rw [PBd] at h
    cases i with
    | zero => exact ⟨h.1, h.2.1, h.2.2.1⟩
    | succ i => exact ih (by simpa using hi) h.2.2.2
/-- The document's Size; f: how much deeper it goes. -/
def szGo (g : List PT → Nat) : Nat → List PT → Nat
  | n, [] => n
  | n, p :: t => if n ≤ 4000 then szGo g (n + p.text.length + p.op.length + g p.word) t else n
def sizeF : Nat → List PT → Nat
  | 0, _ => 5000
  | f + 1, l => if 4000 < l.length then 5000 else szGo (sizeF f) l.length l
theorem szGo_le (g : List PT → Nat) (B : Nat) (hg : ∀ l, PBd l → g l ≤ B) : ∀ (l : List PT) (n : Nat), PBd l → n ≤ 4000 + 562949953421312 + B → szGo g n l ≤ 4000 + 562949953421312 + B
  | [], n, _, h => h
  | .mk k q t o w :: r, n, hp, h => by
    rw [PBd] at hp
    rw [szGo]
    by_cases hn : n ≤ 4000
    · rw [if_pos hn]
      refine szGo_le g B hg r _ hp.2.2.2 ?_
      have := hg w hp.2.2.1
      show n + t.length + o.length + g w ≤ _
      have := hp.1
      have := hp.2.1
      omega
    · rw [if_neg hn]; exact h
theorem sizeF_le : ∀ (f : Nat) (l : List PT), PBd l → sizeF f l ≤ (f + 1) * 600000000000000
  | 0, l, _ => by rw [sizeF]; omega
  | f + 1, l, h => by
    rw [sizeF]
    split
    · omega
    · have := szGo_le (sizeF f) ((f + 1) * 600000000000000) (fun l hl => sizeF_le f l hl) l l.length h (by omega)
      omega
set_option maxRecDepth 100000 in
set_option maxHeartbeats 6400000 in
theorem rsize_any : ∀ (f dp : Nat), f + dp = 41 → ∀ (D : Nat) (v : Value) (l : List PT) (w : World) (S : Nat → Prop) (x : Int), x = (dp : Int) → PIn D w S v l → PBd l →
    Calls Tryd.prog 4 #[v, .int .i64 x] w fun e w' => e = .returned (.int .i64 (sizeF f l : Int)) ∧ ∃ k, w' = w.drewN k := by
  intro f
  induction f with
  | zero =>
    intro dp hf D v l w S x hx hv hl
    obtain ⟨A, c, rfl, _⟩ := hv.shape
    have hx2 : x = 41 := by omega
    subst hx2
    rw [show sizeF 0 l = 5000 from rfl]
    clear hv hl hx hf
    generalize l.length = n at *
    go_enter Tryd.func4, Tryd.ntmps4
    go_wp2_with fail
    go_ret
    exact ⟨rfl, 0, rfl⟩
  | succ f ih =>
    intro dp hf D v l w S x hx hv hl
    obtain ⟨A, c, rfl, hl40⟩ := hv.shape
    have hx40 : ¬ (40 : Int) < x := by omega
    by_cases h4 : 4000 < l.length
    · rw [show sizeF (f + 1) l = 5000 from by rw [sizeF, if_pos h4]]
      have h4' : (4000 : Int) < (l.length : Int) := by omega
      clear hv hl hx ih hf hl40
      generalize l.length = n at *
      go_enter Tryd.func4, Tryd.ntmps4
      go_wp2_with fail
      go_ret
      exact ⟨rfl, 0, rfl⟩
    have h4' : ¬ (4000 : Int) < (l.length : Int) := by omega
    have hcs : ∀ i (hi : i < l.length), ∃ d0 b off wv, A = some ⟨b, off, none⟩ ∧ w.cell? ⟨b, off + i * 5 + 2, none⟩ = some (.string (nm l[i].text)) ∧ w.cell? ⟨b, off + i * 5 + 3, none⟩ = some (.string (nm l[i].op)) ∧
        w.cell? ⟨b, off + i * 5 + 4, none⟩ = some wv ∧ PIn d0 w S wv l[i].word := by
      intro i hi
      have hne : l ≠ [] := fun e => by rw [e] at hi; simp at hi
      obtain ⟨d0, b, off, c2, _, h1, _, _, h2⟩ := hv.opened hne
      cases h1
      obtain ⟨wv, _, _, a2, a3, a4, a5⟩ := h2 i hi
      exact ⟨d0, b, off, wv, rfl, a2, a3, a4, a5⟩
    have hbd := fun i (hi : i < l.length) => PBd.at hi hl
    have HC := Lib.hid hcs; have HB := Lib.hid hbd; have HIH := Lib.hid ih
    obtain ⟨r, hr⟩ : ∃ r, sizeF (f + 1) l = r := ⟨_, rfl⟩
    rw [hr]
    have HR : Hid (szGo (sizeF f) l.length (l.drop 0) = r) := Lib.hid (by rw [List.drop_zero, ← hr, sizeF, if_neg h4])
    have HF := Lib.hid hf; have HX := Lib.hid hx
    clear hcs hbd ih hr hv hl hf hx hl40
    go_enter Tryd.func4, Tryd.ntmps4
    go_wp2_with fail
    go_loopg [5, 6] l.length (fun g x5 x6 wr => ∃ i n k : Nat, g = l.length - i ∧ x5 = .int .i64 n ∧ x6 = .int .i64 i ∧ wr = w.drewN k ∧ i ≤ l.length ∧ Hid (szGo (sizeF f) n (l.drop i) = r))
    case atStart => exact ⟨0, l.length, 0, by omega, rfl, rfl, rfl, by omega, HR⟩
    case round =>
      obtain ⟨i, n, k, rfl, rfl, rfl, hwr, hi, HT⟩ := hrel
      have HK := Lib.hid hwr
      clear hwr HR
      by_cases hil : i < l.length
      · have hd1 : l.drop i = l[i] :: l.drop (i + 1) := List.drop_eq_getElem_cons hil
        have hT := HT.out
        rw [hd1, szGo] at hT
        clear HT hd1
        by_cases hn : n ≤ 4000
        · rw [if_pos hn] at hT
          obtain ⟨d0, b, off, wv, rfl, a2, a3, a4, a5⟩ := HC.out i hil
          obtain ⟨b1, b2, b3⟩ := HB.out i hil
          have hcell : ∀ {a : Addr} {x : Value}, w.cell? a = some x → wr.cell? a = some x := fun h => by rw [HK.out]; exact h
          replace a2 := hcell a2
          replace a3 := hcell a3
          replace a4 := hcell a4
          have hz1 : b < wr.heap.size := World.block_lt_of_cell? _ _ a2
          have hsz := sizeF_le f _ b3
          have hf41 : f ≤ 40 := by have := HF.out; omega
          have hsz2 : sizeF f l[i].word ≤ 24600000000000000 := by
            have : (f + 1) * 600000000000000 ≤ 41 * 600000000000000 := Nat.mul_le_mul_right _ (by omega)
            omega
          have HI : Hid (∀ j (y : Int), y = x + 1 → Calls Tryd.prog 4 #[wv, .int .i64 y] (wr.drewN j) fun e w' => e = .returned (.int .i64 (sizeF f l[i].word : Int)) ∧ ∃ q, w' = wr.drewN q) := Lib.hid fun j y hy => by
            have hh := HIH.out (dp + 1) (by have := HF.out; omega) d0 wv l[i].word (wr.drewN j) S y (by rw [hy, HX.out]; omega) (by rw [HK.out]; exact (a5.drewN k).drewN j) b3
            refine hh.mono ?_
            rintro e w' ⟨rfl, q, rfl⟩
            exact ⟨rfl, j + q, World.drewN_drewN _ _ _⟩
          obtain ⟨A1, c1, rfl, _⟩ := a5.shape
          have e1 : (nm l[i].text).size = l[i].text.length := nm_size _
          have e2 : (nm l[i].op).size = l[i].op.length := nm_size _
          rw [← e1, ← e2] at hT
          rw [← e1] at b1
          rw [← e2] at b2
          clear hcell a5 b3 hsz e1 e2
          generalize nm l[i].text = s1 at *
          generalize nm l[i].op = s2 at *
          generalize sizeF f l[i].word = z at *
          generalize l[i].word.length = n1 at *
          have HN := Lib.hid hT
          clear hT
          have hx41 : x ≤ 40 := by omega
          have hx0 : 0 ≤ x := by have := HX.out; omega
          go_wp2_with fail
          go_quiet ((go_at_call 4; exact HI.out _ _ (by go_num)))
          go_wp2
          go_roundg (l.length - (i + 1))
          case rel => exact ⟨i + 1, n + s1.size + s2.size + z, k + nq, rfl, by go_num, by go_num, by rw [HK.out]; exact World.drewN_drewN _ _ _, by omega, HN⟩
          case measure => omega
        · rw [if_neg hn] at hT
          have HN := Lib.hid hT
          clear hT
          have hn2 : ¬ (n : Int) ≤ 4000 := by omega
          go_wp2_with fail
          go_ret
          rw [HN.out]
          exact ⟨rfl, k, HK.out⟩
      · obtain rfl : i = l.length := by omega
        have HN : Hid (n = r) := Lib.hid (by rw [← HT.out, List.drop_of_length_le (by omega), szGo])
        clear HT
        go_wp2_with fail
        go_ret
        rw [HN.out]
        exact ⟨rfl, k, HK.out⟩

end Go.Proofs.YtkbhjjmgacahdaaDoor.Wd
