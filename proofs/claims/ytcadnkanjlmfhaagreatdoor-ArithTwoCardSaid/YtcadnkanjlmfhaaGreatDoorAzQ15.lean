/- DERIVED. Texts of this claim, joined: ArRange, ArReck. -/
import Derived.Test.YtcadnkanjlmfhaaGreatDoorAzQ07
import Derived.Test.YtcadnkanjlmfhaaGreatDoorAzQ10
import Derived.Test.YtcadnkanjlmfhaaGreatDoorAzQ14
namespace ArM
open PathM WdM
open Go.Proofs.YtcadnkanjlmfhaaGreatDoor.NumM
set_option linter.unusedVariables false

def In64 (n : Int) : Prop := -9223372036854775808 ≤ n ∧ n ≤ 9223372036854775807
def TokOk : Tok → Prop | .sg _ => True | .num _ n => In64 n | .nam t => t.length ≤ 8192
def TmOk : Tm → Prop
  | .const n => In64 n
  | .named t => t.length ≤ 8192
  | .led _ t => TmOk t
  | .pair _ l r => TmOk l ∧ TmOk r
  | .gift _ n t => n.length ≤ 8192 ∧ TmOk t
  | .choice a b c => TmOk a ∧ TmOk b ∧ TmOk c
def Toks (l : List Tok) : Prop := ∀ x ∈ l, TokOk x
theorem toks_tail {a : Tok} {l : List Tok} (h : Toks (a :: l)) : TokOk a ∧ Toks l := ⟨h a (List.mem_cons_self ..), fun x hx => h x (List.mem_cons_of_mem _ hx)⟩
/-- What is read of good tokens is good. -/
def Good (f : List Tok → Rr) : Prop := ∀ l t r, Toks l → f l = .ok (t, r) → TmOk t ∧ Toks r
theorem pairLoop_good {sub : List Tok → Rr} (h : Good sub) (tight : Nat) : ∀ (n : Nat) (t : Tm) (l : List Tok) (t2 : Tm) (r : List Tok), TmOk t → Toks l → pairLoop sub tight n t l = .ok (t2, r) → TmOk t2 ∧ Toks r
  | 0, t, l, t2, r, ht, hl, e => by simp only [pairLoop, Except.ok.injEq, Prod.mk.injEq] at e; rw [← e.1, ← e.2]; exact ⟨ht, hl⟩
  | n + 1, t, l, t2, r, ht, hl, e => by
    unfold pairLoop at e
    split at e
    · split at e
      · split at e
        · cases e
        · rename_i hs
          have h1 := h _ _ _ (toks_tail hl).2 hs
          exact pairLoop_good h tight n _ _ _ _ (show TmOk (.pair _ t _) from ⟨ht, h1.1⟩) h1.2 e
      · simp only [Except.ok.injEq, Prod.mk.injEq] at e; rw [← e.1, ← e.2]; exact ⟨ht, hl⟩
    · simp only [Except.ok.injEq, Prod.mk.injEq] at e; rw [← e.1, ← e.2]; exact ⟨ht, hl⟩
theorem pairsK_good {lead : List Tok → Rr} (h : Good lead) : ∀ k, Good (pairsK lead k)
  | 0 => h
  | k + 1 => by
    intro l t r hl e
    unfold pairsK at e
    split at e
    · cases e
    · rename_i hs
      have h1 := pairsK_good h k _ _ _ hl hs
      exact pairLoop_good (pairsK_good h k) _ _ _ _ _ _ h1.1 h1.2 e
def RdGood (d : Rd) : Prop := ∀ dp, Good (d.all dp) ∧ Good (d.cond dp) ∧ Good (d.lead dp)
theorem leadF_good {d : Rd} (h : RdGood d) (dp : Nat) : Good (leadF d dp) := by
  intro l t r hl e
  unfold leadF at e
  split at e
  · cases e
  · simp only [Except.ok.injEq, Prod.mk.injEq] at e; rw [← e.1, ← e.2]; exact toks_tail hl
  · simp only [Except.ok.injEq, Prod.mk.injEq] at e; rw [← e.1, ← e.2]; exact toks_tail hl
  · split at e
    · split at e
      · cases e
      · split at e
        · cases e
        · rename_i hs
          have h1 := (h _).2.2 _ _ _ (toks_tail hl).2 hs
          simp only [Except.ok.injEq, Prod.mk.injEq] at e
          rw [← e.1, ← e.2]; exact h1
    · split at e
      · split at e
        · cases e
        · split at e
          · cases e
          · rename_i hs
            have h1 := (h _).1 _ _ _ (toks_tail hl).2 hs
            split at e
            · split at e
              · simp only [Except.ok.injEq, Prod.mk.injEq] at e
                rw [← e.1, ← e.2]
                exact ⟨h1.1, (toks_tail h1.2).2⟩
              · cases e
            · cases e
      · cases e
theorem condF_good {d : Rd} (h : RdGood d) (dp : Nat) : Good (condF d dp) := by
  intro l t r hl e
  unfold condF at e
  split at e
  · cases e
  · rename_i hs
    have h0 := pairsK_good (leadF_good h dp) 10 _ _ _ hl hs
    split at e
    · split at e
      · split at e
        · cases e
        · rename_i hs2
          have h1 := (h _).1 _ _ _ (toks_tail h0.2).2 hs2
          split at e
          · split at e
            · split at e
              · cases e
              · rename_i hs3
                have h2 := (h _).2.1 _ _ _ (toks_tail h1.2).2 hs3
                simp only [Except.ok.injEq, Prod.mk.injEq] at e
                rw [← e.1, ← e.2]
                exact ⟨⟨h0.1, h1.1, h2.1⟩, h2.2⟩
            · cases e
          · cases e
      · simp only [Except.ok.injEq, Prod.mk.injEq] at e; rw [← e.1, ← e.2]; exact h0
    · simp only [Except.ok.injEq, Prod.mk.injEq] at e; rw [← e.1, ← e.2]; exact h0
theorem allF_good {d : Rd} (h : RdGood d) (dp : Nat) : Good (allF d dp) := by
  intro l t r hl e
  unfold allF at e
  split at e
  · split at e
    · split at e
      · cases e
      · rename_i hs
        have h1 := (h _).1 _ _ _ (toks_tail (toks_tail hl).2).2 hs
        simp only [Except.ok.injEq, Prod.mk.injEq] at e
        rw [← e.1, ← e.2]
        exact ⟨⟨(toks_tail hl).1, h1.1⟩, h1.2⟩
    · exact condF_good h dp _ _ _ hl e
  · exact condF_good h dp _ _ _ hl e
theorem rd_good : ∀ n, RdGood (rd n)
  | 0 => fun dp => ⟨(fun l t r _ e => nomatch e), (fun l t r _ e => nomatch e), (fun l t r _ e => nomatch e)⟩
  | n + 1 => fun dp => ⟨allF_good (rd_good n) dp, condF_good (rd_good n) dp, leadF_good (rd_good n) dp⟩
theorem read_good {l : List Tok} {t : Tm} (hl : Toks l) (h : readL l = .ok t) : TmOk t := by
  unfold readL at h
  split at h
  · cases h
  · rename_i hs
    split at h
    · simp only [Except.ok.injEq] at h
      rw [← h]
      exact ((rd_good _ 0).1 _ _ _ hl hs).1
    · cases h
theorem in_wrap (n : Int) : In64 (wrapL n) := wrapL_bd n
theorem in_truth (b : Bool) : In64 (truthL b) := by cases b <;> exact ⟨by decide, by decide⟩
theorem tmod_in {a b : Int} (ha : In64 a) (hb : b ≠ 0) : In64 (a.tmod b) := by
  obtain ⟨h0, h1⟩ := ha
  have key : ∀ x : Int, 0 ≤ x → x.tmod b ≤ x := by
    intro x hx
    have e := Int.natAbs_tmod x b
    have h2 := Int.tmod_nonneg b hx
    have h3 := Nat.mod_le x.natAbs b.natAbs
    omega
  rcases Int.le_total 0 a with h | h
  · have h2 := Int.tmod_nonneg b h
    have h3 := key a h
    exact ⟨by omega, by omega⟩
  · have h2 := Int.tmod_nonneg b (show 0 ≤ -a by omega)
    have h3 := key (-a) (by omega)
    rw [Int.neg_tmod] at h2 h3
    exact ⟨by omega, by omega⟩
theorem fdiv_in {a : Int} (k : Nat) (ha : In64 a) : In64 (a.fdiv (2 ^ k)) := by
  obtain ⟨h0, h1⟩ := ha
  obtain ⟨q, hq, hq1⟩ : ∃ q : Nat, (2 : Int) ^ k = (q : Int) ∧ 1 ≤ q := ⟨2 ^ k, by simp, Nat.one_le_two_pow⟩
  rw [hq, Int.fdiv_eq_ediv_of_nonneg _ (by omega)]
  have e := Int.mul_ediv_add_emod a q
  have e0 := Int.emod_nonneg a (show (q : Int) ≠ 0 by omega)
  have e1 := Int.emod_lt_of_pos a (show (0 : Int) < q by omega)
  generalize a / (q : Int) = d at *
  generalize a % (q : Int) = r at *
  refine ⟨?_, ?_⟩
  · rcases Int.le_total (-9223372036854775808) d with h | h
    · exact h
    · have h2 : (q : Int) * (d + 1) ≤ 1 * (d + 1) := by
        rcases Int.lt_or_le (d + 1) 1 with h3 | h3
        · exact Int.mul_le_mul_of_nonpos_right (by omega) (by omega)
        · omega
      rw [Int.mul_add] at h2
      omega
  · rcases Int.le_total d 9223372036854775807 with h | h
    · exact h
    · have h2 : 1 * d ≤ (q : Int) * d := Int.mul_le_mul_of_nonneg_right (by omega) (by omega)
      omega
theorem between_in {s : Bs} {a b n : Int} (ha : In64 a) (hb : In64 b) (h : betweenL s a b = .ok n) : In64 n := by
  unfold betweenL at h
  split at h
  · split at h
    · cases h
    · cases h; exact in_wrap _
  split at h
  · split at h
    · cases h
    · rename_i h0; cases h; exact tmod_in ha h0
  split at h
  · split at h
    · cases h
    · cases h; exact in_wrap _
  split at h
  · split at h
    · cases h
    · cases h; exact fdiv_in _ ha
  (repeat' split at h) <;> first | (cases h; exact in_wrap _) | (cases h; exact in_truth _)
theorem between_ne {s : Bs} {a b e : Int} (h : betweenL s a b = .error e) : e ≠ 0 := by
  unfold betweenL at h
  (repeat' split at h) <;> first | (cases h; decide) | cases h
theorem of_in {s : Bs} {n : Int} (hn : In64 n) : In64 (ofL s n) := by
  unfold ofL
  (repeat' split) <;> first | exact in_wrap _ | exact in_truth _ | exact hn
theorem dec_in (l : List UInt8) : In64 (decN l) := by
  unfold decN
  split
  · have := readN_le 10 P63 l.tail
    unfold P63 at *
    exact ⟨by omega, by omega⟩
  split
  · have := readN_le 10 M63 l.tail
    unfold M63 at *
    exact ⟨by omega, by omega⟩
  · have := readN_le 10 M63 l
    unfold M63 at *
    exact ⟨by omega, by omega⟩
theorem con_in (l : List UInt8) : In64 (conN l : Nat) := by
  have h : conN l ≤ M63 := by
    unfold conN
    (repeat' split) <;> exact readN_le _ _ _
  unfold M63 at h
  exact ⟨by omega, by omega⟩
theorem number_in {v : Vs} {t : Bs} {n : Int} (h : numberL v t = .ok n) : In64 n := by
  unfold numberL at h
  split at h
  · cases h; exact ⟨by decide, by decide⟩
  · split at h
    · cases h; exact ⟨by decide, by decide⟩
    · split at h
      · cases h; exact dec_in _
      · split at h
        · cases h; exact con_in _
        · cases h
theorem number_ne {v : Vs} {t : Bs} {e : Int} (h : numberL v t = .error e) : e ≠ 0 := by
  unfold numberL at h
  split at h
  · cases h
  · split at h
    · cases h
    · split at h
      · cases h
      · split at h
        · cases h
        · rename_i hc; cases h; omega
theorem give_ne {v : Vs} {t : Bs} {n e : Int} (h : giveL v t n = .error e) : e ≠ 0 := by
  unfold giveL at h
  split at h
  · cases h; decide
  · cases h
theorem reckon_in : ∀ (t : Tm) (v : Vs) (n : Int) (v' : Vs), TmOk t → reckonL t v = .ok (n, v') → In64 n
  | .const k, v, n, v', ht, h => by
    rw [reckonL] at h; cases h; exact ht
  | .named t, v, n, v', ht, h => by
    rw [reckonL] at h
    split at h
    · cases h
    · rename_i hn; cases h; exact number_in hn
  | .led s t, v, n, v', ht, h => by
    rw [reckonL] at h
    split at h
    · cases h
    · rename_i hn; cases h; exact of_in (reckon_in t _ _ _ ht hn)
  | .pair s l r, v, n, v', ht, h => by
    rw [reckonL] at h
    split at h
    · cases h
    · rename_i hl
      split at h
      · cases h; exact in_truth _
      · split at h
        · cases h
        · rename_i hr
          split at h
          · cases h
          · rename_i hb; cases h; exact between_in (reckon_in l _ _ _ ht.1 hl) (reckon_in r _ _ _ ht.2 hr) hb
  | .gift b nm t, v, n, v', ht, h => by
    rw [reckonL] at h
    split at h
    · cases h
    · rename_i a v2 hn
      have ha := reckon_in t _ _ _ ht.2 hn
      dsimp only at h
      split at h
      · cases h
      · rename_i k hk
        have hk2 : In64 k := by
          split at hk
          · cases hk; exact ha
          · split at hk
            · cases hk
            · rename_i ho; exact between_in (number_in ho) ha hk
        split at h
        · cases h
        · cases h; exact hk2
  | .choice a b c, v, n, v', ht, h => by
    rw [reckonL] at h
    split at h
    · cases h
    · split at h
      · exact reckon_in b _ _ _ ht.2.1 h
      · exact reckon_in c _ _ _ ht.2.2 h
end ArM
namespace Go.Proofs.YtcadnkanjlmfhaaGreatDoor.Ar
open Go.RowKit
open PathM WdM ArM
open Go.Proofs.YtcadnkanjlmfhaaGreatDoor.Wd
open Go.Proofs.YtcadnkanjlmfhaaGreatDoor.NumM (textL)
set_option linter.unusedVariables false

/-- How reckon ends. -/
def RkPost (base vb : Nat) (v : Value) (m : Except Int (Int × Vs)) (w : World) (e : Ending) (w' : World) : Prop := match m with
  | .ok (n, vs') => e = .returned (.tuple #[.int .i64 n, .int .i64 0]) ∧ ∃ v', VS base vb vs' v' w' ∧ Stp vb v v' w w'
  | .error er => er ≠ 0 ∧ (∃ k, e = .returned (.tuple #[.int .i64 k, .int .i64 er])) ∧ Kept (fun k => k = vb ∨ base ≤ k) w w'
/-- The kind of a term, its value, and its method. -/
def rkT : Tm → Nat
  | .const _ => 140 | .named _ => 141 | .led _ _ => 139 | .pair _ _ _ => 128 | .gift _ _ _ => 101 | .choice _ _ _ => 118
def rkX : Tm → Value
  | .const n => .int .i64 n
  | .named t => .string (nm t)
  | .led s t => .agg #[.string (nm s), tmV t]
  | .pair s l r => .agg #[.string (nm s), tmV l, tmV r]
  | .gift b n t => .agg #[.string (nm b), .string (nm n), tmV t]
  | .choice a b c => .agg #[tmV a, tmV b, tmV c]
def rkF : Tm → Nat
  | .const _ => 119 | .named _ => 120 | .led _ _ => 117 | .pair _ _ _ => 115 | .gift _ _ _ => 99 | .choice _ _ _ => 114
theorem tm_if (t : Tm) : tmV t = .iface (rkT t) (rkX t) := by cases t <;> rfl
theorem rk_enters (t : Tm) (args : Array Value) (w : World) : (callFunc (rkF t) args).run Tryz.prog w = .ok (.enter (rkF t) args) w := by
  cases t
  · exact enters_of Tryz.func119 (by kernel_rfl) rfl args w
  · exact enters_of Tryz.func120 (by kernel_rfl) rfl args w
  · exact enters_of Tryz.func117 (by kernel_rfl) rfl args w
  · exact enters_of Tryz.func115 (by kernel_rfl) rfl args w
  · exact enters_of Tryz.func99 (by kernel_rfl) rfl args w
  · exact enters_of Tryz.func114 (by kernel_rfl) rfl args w
theorem rk_method (t : Tm) (n : Nat) (w : World) : (method (n + 1) (rkT t) (rkX t) "rehearsal/arith.reckon").run Tryz.prog w = .ok (rkF t, rkX t) w := by
  cases t <;> kernel_rfl
/-- A term's method, as the model reckons. -/
def RkOk (base vb : Nat) (t : Tm) : Prop := ∀ vs v w, VS base vb vs v w → base ≤ w.heap.size → Calls Tryz.prog (rkF t) #[rkX t, .pointer (some ⟨vb, 0, none⟩)] w (RkPost base vb v (reckonL t vs) w)
theorem ow_wide {base vb : Nat} {vs : Vs} {v : Value} {w w' : World} (h : VS base vb vs v w) (hk : Kept (OwV vb v) w w') : Kept (fun k => k = vb ∨ base ≤ k) w w' := by
  refine hk.mono ?_
  rintro k (rfl | hk)
  · exact .inl rfl
  · exact .inr (h.row.lt k hk).1
/-- The box of a term is as it was. -/
theorem box_kept {base vb : Nat} {vs : Vs} {v : Value} {w w' : World} {o : Obj} (h : VS base vb vs v w) (hk : Kept (OwV vb v) (w.alloc o) w') : w'.heap[w.heap.size]? = some o := by
  refine hk.at (heap_alloc_new w o) ?_
  rintro (e | e)
  · have := h.lt; omega
  · have := (h.row.lt _ e).2; omega
theorem al (w : World) (o : Obj) : Below w.heap.size w (w.alloc o) := (Below.refl _ _).alloc (Nat.le_refl _) _
theorem RkPost.er {base vb : Nat} {v : Value} {w w' : World} {er k : Int} {m : Except Int (Int × Vs)} (hm : m = .error er) (h0 : er ≠ 0) (hk : Kept (fun k => k = vb ∨ base ≤ k) w w') : RkPost base vb v m w (.returned (.tuple #[.int .i64 k, .int .i64 er])) w' := by
  subst hm; exact ⟨h0, ⟨k, rfl⟩, hk⟩
theorem RkPost.yes {base vb : Nat} {v v' : Value} {w w' : World} {n : Int} {vs' : Vs} {m : Except Int (Int × Vs)} (hm : m = .ok (n, vs')) (h : VS base vb vs' v' w') (hs : Stp vb v v' w w') : RkPost base vb v m w (.returned (.tuple #[.int .i64 n, .int .i64 0])) w' := by
  subst hm; exact ⟨rfl, v', h, hs⟩
/-- Ahead of a later step. -/
theorem RkPost.from {base vb : Nat} {vs : Vs} {v v1 : Value} {m m2 : Except Int (Int × Vs)} {w w1 w2 : World} {e : Ending} (h0 : VS base vb vs v w) (hs : Stp vb v v1 w w1) (h : RkPost base vb v1 m w1 e w2) (hm : m = m2) : RkPost base vb v m2 w e w2 := by
  subst hm
  cases m with
  | ok p =>
    obtain ⟨n, vs'⟩ := p
    obtain ⟨he, v', hv, hs2⟩ := h
    exact ⟨he, v', hv, hs.trans hs2⟩
  | error er =>
    obtain ⟨hn, he, hk⟩ := h
    exact ⟨hn, he, (ow_wide h0 hs.1).trans hk⟩
theorem RkPost.form {base vb : Nat} {v : Value} {m : Except Int (Int × Vs)} {w w' : World} {e : Ending} (h : RkPost base vb v m w e w') : ∃ n x, e = .returned (.tuple #[.int .i64 n, .int .i64 x]) := by
  cases m with
  | ok p => exact ⟨_, _, h.1⟩
  | error er => obtain ⟨_, ⟨k, h⟩, _⟩ := h; exact ⟨k, er, h⟩
theorem reck_const (base vb : Nat) (n : Int) : RkOk base vb (.const n) := by
  intro vs v w h hb
  show Calls _ 119 #[.int .i64 n, .pointer (some ⟨vb, 0, none⟩)] _ _
  have HF := Lib.hid (RkPost.yes (base := base) (vb := vb) (m := reckonL (.const n) vs) rfl h (Stp.refl vb v w))
  generalize reckonL (.const n) vs = M at *
  clear h
  go_enter Tryz.func119, Tryz.ntmps119
  go_wp2_with fail
  go_ret2
  exact HF.out
set_option maxRecDepth 100000 in
set_option maxHeartbeats 1600000 in
theorem reck_named (base vb : Nat) (t : Bs) : RkOk base vb (.named t) := by
  intro vs v w h hb
  show Calls _ 120 #[.string (nm t), .pointer (some ⟨vb, 0, none⟩)] _ _
  have hn := number_any vs t v vb w h.cell h.lt h.va
  cases hr : numberL vs t with
  | ok n =>
    rw [hr] at hn
    have HN := Lib.hid hn
    have HF : Hid (∀ W, Below w.heap.size w W → RkPost base vb v (reckonL (.named t) vs) w (.returned (.tuple #[.int .i64 n, .int .i64 0])) W) := Lib.hid (fun W hW => RkPost.yes (by rw [reckonL, hr]) (h.below hW) (Stp.below hW))
    generalize reckonL (.named t) vs = M at *
    generalize nm t = N at *
    clear hn hr h
    unfold pairE at HN
    go_enter Tryz.func120, Tryz.ntmps120
    go_wp2_with (go_at_call 100; refine HN.out.mono ?_; rintro e W ⟨rfl, hb⟩; have HB := Lib.hid hb; clear hb)
    go_ret2
    exact HF.out _ HB.out
  | error er =>
    rw [hr] at hn
    have HN := Lib.hid hn
    have HF : Hid (∀ W, Below w.heap.size w W → RkPost base vb v (reckonL (.named t) vs) w (.returned (.tuple #[.int .i64 0, .int .i64 er])) W) := Lib.hid (fun W hW => RkPost.er (by rw [reckonL, hr]) (number_ne hr) (ow_wide h (kept_of_below hW)))
    generalize reckonL (.named t) vs = M at *
    generalize nm t = N at *
    clear hn hr h
    unfold pairE at HN
    go_enter Tryz.func120, Tryz.ntmps120
    go_wp2_with (go_at_call 100; refine HN.out.mono ?_; rintro e W ⟨rfl, hb⟩; have HB := Lib.hid hb; clear hb)
    go_ret2
    exact HF.out _ HB.out
set_option maxRecDepth 100000 in
set_option maxHeartbeats 1600000 in
theorem reck_led (base vb : Nat) (s : Bs) (t : Tm) (ht : RkOk base vb t) : RkOk base vb (.led s t) := by
  intro vs v w h hb
  show Calls _ 117 #[.agg #[.string (nm s), tmV t], .pointer (some ⟨vb, 0, none⟩)] _ _
  rw [tm_if]
  have hm := rk_method t
  have he := rk_enters t
  have hA := al w (.cells #[.string (nm s), .iface (rkT t) (rkX t)] 139)
  have h1 := h.below hA
  have HP := Lib.hid (ht vs v _ h1 (Nat.le_trans hb hA.size))
  have HBX := Lib.hid (fun w' (hk : Kept (OwV vb v) (w.alloc (.cells #[.string (nm s), .iface (rkT t) (rkX t)] 139)) w') => box_kept h hk)
  have HH := Lib.hid h
  have HO := Lib.hid (of_any s)
  have HST := Lib.hid (Stp.below (vb := vb) (v := v) hA)
  have H1 := Lib.hid h1
  cases hx : reckonL t vs with
  | error er =>
    have hr : reckonL (.led s t) vs = .error er := by rw [reckonL, hx]
    rw [hx] at HP
    have HF : Hid (∀ W k, Kept (fun k => k = vb ∨ base ≤ k) w W → er ≠ 0 → RkPost base vb v (reckonL (.led s t) vs) w (.returned (.tuple #[.int .i64 k, .int .i64 er])) W) := Lib.hid (fun W k hk h0 => RkPost.er hr h0 hk)
    generalize reckonL (.led s t) vs = M at *
    clear hr hx h h1 hA
    generalize rkT t = T at *
    generalize rkX t = X at *
    generalize rkF t = F at *
    generalize nm s = S at *
    go_enter Tryz.func117, Tryz.ntmps117
    go_wp2_with fail
    refine HP.out.mono ?_
    rintro e W ⟨h0, ⟨k, rfl⟩, hk⟩
    have HFF := Lib.hid (HF.out W 0 ((ow_wide HH.out HST.out.1).trans hk) h0)
    have hq : (er != 0) = true := by simpa using h0
    clear h0 hk hm he
    go_wp2_with fail
    go_ret2
    exact HFF.out
  | ok p =>
    obtain ⟨n, vs2⟩ := p
    have hr : reckonL (.led s t) vs = .ok (ofL s n, vs2) := by rw [reckonL, hx]
    rw [hx] at HP
    have HF : Hid (∀ W v', VS base vb vs2 v' W → Stp vb v v' w W → RkPost base vb v (reckonL (.led s t) vs) w (.returned (.tuple #[.int .i64 (ofL s n), .int .i64 0])) W) := Lib.hid (fun W v' h1 h2 => RkPost.yes hr h1 h2)
    generalize reckonL (.led s t) vs = M at *
    clear hr hx h h1 hA
    generalize rkT t = T at *
    generalize rkX t = X at *
    generalize rkF t = F at *
    have HO := Lib.hid (HO.out n)
    generalize ofL s n = on at *
    generalize nm s = S at *
    go_enter Tryz.func117, Tryz.ntmps117
    go_wp2_with fail
    refine HP.out.mono ?_
    rintro e W ⟨rfl, v', hv, hs⟩
    have hbx := HBX.out W hs.1
    have c0 := cell_blk hbx 0
    have z0 := fin_at hbx
    replace c0 := c0.trans (show _ = some (.string S) from rfl)
    have HFF := Lib.hid (HF.out W v' hv (HST.out.trans hs))
    clear hbx hv hs hm he
    go_wp2_with (go_at_call 118; refine (HO.out _).mono ?_; rintro e W2 ⟨rfl, rfl⟩)
    go_ret2
    exact HFF.out
set_option maxRecDepth 100000 in
set_option maxHeartbeats 1600000 in
theorem reck_choice (base vb : Nat) (a b c : Tm) (ha : RkOk base vb a) (hbb : RkOk base vb b) (hcc : RkOk base vb c) : RkOk base vb (.choice a b c) := by
  intro vs v w h hb
  show Calls _ 114 #[.agg #[tmV a, tmV b, tmV c], .pointer (some ⟨vb, 0, none⟩)] _ _
  rw [tm_if, tm_if, tm_if]
  have hm := rk_method a
  have he := rk_enters a
  have hA := al w (.cells #[.iface (rkT a) (rkX a), .iface (rkT b) (rkX b), .iface (rkT c) (rkX c)] 118)
  have h1 := h.below hA
  have HP := Lib.hid (ha vs v _ h1 (Nat.le_trans hb hA.size))
  have HBX := Lib.hid (fun w' (hk : Kept (OwV vb v) (w.alloc (.cells #[.iface (rkT a) (rkX a), .iface (rkT b) (rkX b), .iface (rkT c) (rkX c)] 118)) w') => box_kept h hk)
  have HH := Lib.hid h
  have HST := Lib.hid (Stp.below (vb := vb) (v := v) hA)
  have H1 := Lib.hid h1
  have HBA := Lib.hid hb
  cases hx : reckonL a vs with
  | error er =>
    have hr : reckonL (.choice a b c) vs = .error er := by rw [reckonL, hx]
    rw [hx] at HP
    have HF : Hid (∀ W k, Kept (fun k => k = vb ∨ base ≤ k) w W → er ≠ 0 → RkPost base vb v (reckonL (.choice a b c) vs) w (.returned (.tuple #[.int .i64 k, .int .i64 er])) W) := Lib.hid (fun W k hk h0 => RkPost.er hr h0 hk)
    generalize reckonL (.choice a b c) vs = M at *
    clear hr hx h h1 hA
    generalize rkT a = Ta at *
    generalize rkX a = Xa at *
    generalize rkF a = Fa at *
    generalize rkT b = Tb at *
    generalize rkX b = Xb at *
    generalize rkT c = Tc at *
    generalize rkX c = Xc at *
    go_enter Tryz.func114, Tryz.ntmps114
    go_wp2_with fail
    refine HP.out.mono ?_
    rintro e W ⟨h0, ⟨k, rfl⟩, hk⟩
    have HFF := Lib.hid (HF.out W 0 ((ow_wide HH.out HST.out.1).trans hk) h0)
    have hq : (er != 0) = true := by simpa using h0
    clear h0 hk hm he
    go_wp2_with fail
    go_ret2
    exact HFF.out
  | ok p =>
    obtain ⟨n, vs2⟩ := p
    have hr : reckonL (.choice a b c) vs = if n != 0 then reckonL b vs2 else reckonL c vs2 := by rw [reckonL, hx]
    rw [hx] at HP
    by_cases hn : n = 0
    · have hq : (n != 0) = false := by simpa using hn
      rw [if_neg (by rw [hq]; simp)] at hr
      have hm2 := rk_method c
      have he2 := rk_enters c
      have HF : Hid (∀ W v' e W2, Stp vb v v' w W → RkPost base vb v' (reckonL c vs2) W e W2 → RkPost base vb v (reckonL (.choice a b c) vs) w e W2) := Lib.hid (fun W v' e W2 h1 h2 => RkPost.from HH.out h1 h2 hr.symm)
      have HC : Hid (∀ v' W, VS base vb vs2 v' W → base ≤ W.heap.size → Calls Tryz.prog (rkF c) #[rkX c, .pointer (some ⟨vb, 0, none⟩)] W (RkPost base vb v' (reckonL c vs2) W)) := Lib.hid (fun v' W h1 h2 => hcc vs2 v' W h1 h2)
      generalize reckonL (.choice a b c) vs = M at *
      clear hr hx h h1 hA
      generalize rkT a = Ta at *
      generalize rkX a = Xa at *
      generalize rkF a = Fa at *
      generalize rkT b = Tb at *
      generalize rkX b = Xb at *
      generalize rkT c = Tc at *
      generalize rkX c = Xc at *
      generalize rkF c = Fc at *
      generalize reckonL c vs2 = M2 at *
      subst hn
      go_enter Tryz.func114, Tryz.ntmps114
      go_wp2_with fail
      refine HP.out.mono ?_
      rintro e W ⟨rfl, v', hv, hs⟩
      have hbx := HBX.out W hs.1
      have c0 := cell_blk hbx 2
      have z0 := fin_at hbx
      replace c0 := c0.trans (show _ = some (.iface Tc Xc) from rfl)
      have HS := Lib.hid (HST.out.trans hs)
      have HC2 := Lib.hid (HC.out v' W hv (Nat.le_trans HBA.out (Nat.le_of_lt (fin_at hbx))))
      clear hbx hv hs hm he
      go_wp2_with fail
      refine HC2.out.mono ?_
      intro e W2 hP
      have HFF := Lib.hid (HF.out _ _ _ _ HS.out hP)
      obtain ⟨k, x, rfl⟩ := hP.form
      clear hP hm2 he2
      go_wp2_with fail
      go_ret2
      exact HFF.out
    · have hq : (n != 0) = true := by simpa using hn
      rw [if_pos hq] at hr
      have hm2 := rk_method b
      have he2 := rk_enters b
      have HF : Hid (∀ W v' e W2, Stp vb v v' w W → RkPost base vb v' (reckonL b vs2) W e W2 → RkPost base vb v (reckonL (.choice a b c) vs) w e W2) := Lib.hid (fun W v' e W2 h1 h2 => RkPost.from HH.out h1 h2 hr.symm)
      have HC : Hid (∀ v' W, VS base vb vs2 v' W → base ≤ W.heap.size → Calls Tryz.prog (rkF b) #[rkX b, .pointer (some ⟨vb, 0, none⟩)] W (RkPost base vb v' (reckonL b vs2) W)) := Lib.hid (fun v' W h1 h2 => hbb vs2 v' W h1 h2)
      generalize reckonL (.choice a b c) vs = M at *
      clear hr hx h h1 hA
      generalize rkT a = Ta at *
      generalize rkX a = Xa at *
      generalize rkF a = Fa at *
      generalize rkT b = Tb at *
      generalize rkX b = Xb at *
      generalize rkF b = Fb at *
      generalize rkT c = Tc at *
      generalize rkX c = Xc at *
      generalize reckonL b vs2 = M2 at *
      go_enter Tryz.func114, Tryz.ntmps114
      go_wp2_with fail
      refine HP.out.mono ?_
      rintro e W ⟨rfl, v', hv, hs⟩
      have hbx := HBX.out W hs.1
      have c0 := cell_blk hbx 1
      have z0 := fin_at hbx
      replace c0 := c0.trans (show _ = some (.iface Tb Xb) from rfl)
      have HS := Lib.hid (HST.out.trans hs)
      have HC2 := Lib.hid (HC.out v' W hv (Nat.le_trans HBA.out (Nat.le_of_lt (fin_at hbx))))
      clear hbx hv hs hm he
      go_wp2_with fail
      refine HC2.out.mono ?_
      intro e W2 hP
      have HFF := Lib.hid (HF.out _ _ _ _ HS.out hP)
      obtain ⟨k, x, rfl⟩ := hP.form
      clear hP hm2 he2
      go_wp2_with fail
      go_ret2
      exact HFF.out
end Go.Proofs.YtcadnkanjlmfhaaGreatDoor.Ar
