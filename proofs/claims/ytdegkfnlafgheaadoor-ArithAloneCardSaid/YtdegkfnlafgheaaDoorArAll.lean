/- DERIVED. The walk over what may stand alone. -/
import Derived.Test.YtdegkfnlafgheaaDoorArCond
namespace Go.Proofs.YtdegkfnlafgheaaDoor.Ar
open Go.RowKit
open PathM WdM ArM
open Go.Proofs.YtdegkfnlafgheaaDoor.Wd
set_option linter.unusedVariables false

/-- A name and the sign behind it that gives it something. -/
def givenL : List Tok → Option (Bs × Bs × List Tok)
  | .nam t :: u :: r => (givesOf (sgOf u)).map fun b => (b, t, r)
  | _ => none
theorem gives_num : givesOf [110, 117, 109, 98, 101, 114] = none := by decide
theorem gives_nam : givesOf [110, 97, 109, 101] = none := by decide
theorem allF_eq (d : Rd) (dp : Nat) (l : List Tok) : allF d dp l = match givenL l with
  | none => condF d dp l
  | some (b, t, r) => match d.all dp r with
    | .error e => .error e
    | .ok (x, r2) => .ok (.gift b t x, r2) := by
  cases l with
  | nil => rfl
  | cons a l => cases a with
    | sg s => rfl
    | num x n => rfl
    | nam t => cases l with
      | nil => rfl
      | cons u r => cases u with
        | num x n => unfold allF givenL; simp only [sgOf]; rw [gives_num]; rfl
        | nam x => unfold allF givenL; simp only [sgOf]; rw [gives_nam]; rfl
        | sg s =>
          unfold allF givenL
          simp only [sgOf]
          cases givesOf s <;> rfl
theorem RdB.head {w : World} {rb dp : Nat} {v : Value} {t : Tok} {l : List Tok} (h : RdB w rb v (t :: l) dp) : ∃ b off c, v = .slice (some ⟨b, off, none⟩) (l.length + 1) c ∧ b < rb ∧ l.length + 1 ≤ c ∧ l.length + 1 ≤ 1000000 ∧ TkOk t ∧
    w.cell? ⟨b, off, none⟩ = some (.string (nm (sgOf t))) ∧ w.cell? ⟨b, off + 1, none⟩ = some (.string (nm t.text)) ∧ w.cell? ⟨b, off + 2, none⟩ = some (.int .i64 (nOf t)) := h.2.1.head
theorem tks_second {B : Nat} {w : World} {b off n c : Nat} {t u : Tok} {l : List Tok} (h : TksIn B w (.slice (some ⟨b, off, none⟩) n c) (t :: u :: l)) : w.cell? ⟨b, off + 3, none⟩ = some (.string (nm (sgOf u))) ∧ TkOk u := by
  obtain ⟨b', off', c', e, _, _, _, hk, h1, _⟩ := h.tail.head
  simp only [Value.slice.injEq, Option.some.injEq, Addr.mk.injEq] at e
  obtain ⟨⟨rfl, rfl, _⟩, _⟩ := e
  exact ⟨h1, hk⟩
/-- Two tokens less. -/
theorem RdB.less2 {w : World} {rb dp b off n c m c2 : Nat} {t u : Tok} {l : List Tok} (h : RdB w rb (.slice (some ⟨b, off, none⟩) n c) (t :: u :: l) dp) (hm : m = l.length) (hc2 : c2 = c - 2) : RdA (w.setCell ⟨rb, 0, none⟩ (.slice (some ⟨b, off + 6, none⟩) m c2)) rb l dp := by
  subst hm
  subst hc2
  obtain ⟨hb, h, hd⟩ := h
  have h2 := h.tail.tail
  have e : c - 1 - 1 = c - 2 := by omega
  rw [e] at h2
  refine ⟨_, by simpa using set_blk (j := 0) hb (.slice (some ⟨b, off + 6, none⟩) l.length (c - 2)), h2.keep (fun k hk => Below.heap_setCell _ _ _ _ (fun e => ?_)), hd⟩
  have : k = rb := e
  omega
theorem RdB.last2 {w : World} {rb dp m : Nat} {v : Value} {A2 : Option Addr} {l0 l : List Tok} (h : RdB w rb v l0 dp) (hm : m = l.length) (h0 : m = 0) : RdA (w.setCell ⟨rb, 0, none⟩ (.slice A2 m 0)) rb l dp := by
  subst hm
  have e : l = [] := List.length_eq_zero_iff.1 h0
  subst e
  obtain ⟨hb, h, hd⟩ := h
  exact ⟨_, by simpa using set_blk (j := 0) hb (.slice A2 0 0), ⟨A2, 0, rfl, ⟨by simp, by simp, by simp⟩, fun h => absurd rfl h⟩, hd⟩
theorem given_not {t u : Tok} {r : List Tok} (h : sgOf t ≠ [110, 97, 109, 101]) : givenL (t :: u :: r) = none := by
  cases t with
  | nam x => exact absurd rfl h
  | _ => rfl
theorem tk_len {u : Tok} (h : TkOk u) : (sgOf u).length ≤ 4611686018427387904 := by
  cases u with
  | sg s => have := h.1; show s.length ≤ _; omega
  | num x n => show 6 ≤ _; omega
  | nam x => show 4 ≤ _; omega
set_option maxRecDepth 100000 in
set_option maxHeartbeats 3200000 in
theorem all_cond (rb dp : Nat) (l : List Tok) (w : World) (m : Rr) (h : RdA w rb l dp) (hg : givenL l = none) (hC : Calls Tryd.prog 32 #[.pointer (some ⟨rb, 0, none⟩)] w (RdPost rb dp m w)) :
    Calls Tryd.prog 21 #[.pointer (some ⟨rb, 0, none⟩)] w (RdPost rb dp m w) := by
  have HC := Lib.hid hC
  have hrb := h.lt
  obtain ⟨v, h⟩ := h
  replace h : RdB w rb v l dp := h
  clear hC
  cases l with
  | nil =>
    obtain ⟨A, c, rfl⟩ := h.2.1.none
    have c0 := h.c0
    clear h hg
    go_enter Tryd.func21, Tryd.ntmps21
    go_wp2_with (go_at_call 32; refine HC.out.mono ?_; rintro e w1 hq; obtain ⟨v, x, rfl, _⟩ := hq.form; have HQ := Lib.hid hq; clear hq)
    go_ret2
    exact HQ.out
  | cons t l =>
    obtain ⟨b, off, c, rfl, hlt, hl, hlm, hk, a0, a1, a2⟩ := h.head
    have c0 := h.c0
    have hbz : b < w.heap.size := by omega
    cases l with
    | nil =>
      clear h hg
      go_enter Tryd.func21, Tryd.ntmps21
      go_wp2_with (go_at_call 32; refine HC.out.mono ?_; rintro e w1 hq; obtain ⟨v, x, rfl, _⟩ := hq.form; have HQ := Lib.hid hq; clear hq)
      go_ret2
      exact HQ.out
    | cons u r =>
      obtain ⟨b0, hk2⟩ := tks_second h.2.1
      simp only [List.length_cons] at hl hlm c0
      have q := str_is (sgOf t) [110, 97, 109, 101]
      by_cases hn : sgOf t = [110, 97, 109, 101]
      · rw [decide_eq_true hn] at q
        have hgv : givesOf (sgOf u) = none := by
          cases t with
          | nam x =>
            cases hx : givesOf (sgOf u) with
            | none => rfl
            | some b =>
              have hg2 : (givesOf (sgOf u)).map (fun b => (b, x, r)) = none := hg
              rw [hx] at hg2; cases hg2
          | sg s => have h1 := hk.1; have h2 : s = _ := hn; rw [h2] at h1; simp at h1
          | num x n => simp [sgOf] at hn
        have hG := fun W => gives_any (sgOf u) W (tk_len hk2)
        have e : givesV (sgOf u) = .tuple #[.string ⟨#[]⟩, .bool false] := by unfold givesV; rw [hgv]
        rw [e] at hG
        have HG := Lib.hid hG
        generalize nm (sgOf t) = S at *
        generalize nm (sgOf u) = U at *
        generalize r.length = n at *
        clear h hg hG hn e hgv
        go_enter Tryd.func21, Tryd.ntmps21
        go_wp2_with (first | (go_at_call 32; refine HC.out.mono ?_; rintro e w1 hq; obtain ⟨v, x, rfl, _⟩ := hq.form; have HQ := Lib.hid hq; clear hq) | (go_at_call 33; refine (HG.out _).mono ?_; rintro e w2 ⟨rfl, rfl⟩))
        go_ret2
        exact HQ.out
      · rw [decide_eq_false hn] at q
        generalize nm (sgOf t) = S at *
        generalize r.length = n at *
        clear h hg hn
        go_enter Tryd.func21, Tryd.ntmps21
        go_wp2_with (go_at_call 32; refine HC.out.mono ?_; rintro e w1 hq; obtain ⟨v, x, rfl, _⟩ := hq.form; have HQ := Lib.hid hq; clear hq)
        go_ret2
        exact HQ.out
/-- A gift, as the model reads. -/
def giftR (b t : Bs) (m : Rr) : Rr := match m with
  | .error e => .error e
  | .ok (x, r) => .ok (.gift b t x, r)
theorem RdPost.gift {rb dp : Nat} {m : Rr} {w w1 w2 : World} {v : Value} {x : Int} {b t : Bs} (hk : Kept (· = rb) w w1) (h : RdPost rb dp m w1 (.returned (.tuple #[v, .int .i64 x])) w2) :
    RdPost rb dp (giftR b t m) w (.returned (.tuple #[.iface 79 (.agg #[.string (nm b), .string (nm t), v]), .int .i64 x])) w2 := by
  obtain ⟨hk2, h⟩ := h
  cases m with
  | ok p =>
    obtain ⟨y, r⟩ := p
    obtain ⟨he, hr⟩ := h
    simp only [Ending.returned.injEq, Value.tuple.injEq, Array.mk.injEq, List.cons.injEq, Value.int.injEq, and_true, true_and] at he
    obtain ⟨rfl, rfl⟩ := he
    exact RdPost.yes rfl rfl (hk.trans hk2) hr
  | error er =>
    obtain ⟨v', r, he, hr, hne, _⟩ := h
    simp only [Ending.returned.injEq, Value.tuple.injEq, Array.mk.injEq, List.cons.injEq, Value.int.injEq, and_true, true_and] at he
    obtain ⟨rfl, rfl⟩ := he
    exact RdPost.no rfl hne (.inr ⟨_, _, rfl⟩) (hk.trans hk2) hr
set_option maxRecDepth 100000 in
set_option maxHeartbeats 3200000 in
theorem all_give (rb dp : Nat) (x bs : Bs) (u : Tok) (r : List Tok) (w : World) (m : Rr) (h : RdA w rb (.nam x :: u :: r) dp) (hg : givesOf (sgOf u) = some bs) (hA : ∀ W, RdA W rb r dp → Calls Tryd.prog 21 #[.pointer (some ⟨rb, 0, none⟩)] W (RdPost rb dp m W)) :
    Calls Tryd.prog 21 #[.pointer (some ⟨rb, 0, none⟩)] w (RdPost rb dp (giftR bs x m) w) := by
  have hrb := h.lt
  obtain ⟨v, h⟩ := h
  replace h : RdB w rb v (.nam x :: u :: r) dp := h
  obtain ⟨b, off, c, rfl, hlt, hl, hlm, hk, a0, a1, a2⟩ := h.head
  have c0 := h.c0
  have f0 := h.fz 0
  have hbz : b < w.heap.size := by omega
  obtain ⟨b0, hk2⟩ := tks_second h.2.1
  simp only [List.length_cons] at hl hlm c0
  have hr0 : RdB w rb (.slice (some ⟨b, off, none⟩) (r.length + 1 + 1) c) (.nam x :: u :: r) dp := h
  have HA1 : Hid (∀ mm c2, mm = r.length → c2 = c - 2 → Calls Tryd.prog 21 #[.pointer (some ⟨rb, 0, none⟩)] (w.setCell ⟨rb, 0, none⟩ (.slice (some ⟨b, off + 6, none⟩) mm c2)) (RdPost rb dp m (w.setCell ⟨rb, 0, none⟩ (.slice (some ⟨b, off + 6, none⟩) mm c2)))) := Lib.hid (fun mm c2 h1 h2 => hA _ (hr0.less2 h1 h2))
  have HA2 : Hid (∀ A2 mm, mm = r.length → mm = 0 → Calls Tryd.prog 21 #[.pointer (some ⟨rb, 0, none⟩)] (w.setCell ⟨rb, 0, none⟩ (.slice A2 mm 0)) (RdPost rb dp m (w.setCell ⟨rb, 0, none⟩ (.slice A2 mm 0)))) := Lib.hid (fun A2 mm h1 h2 => hA _ (hr0.last2 h1 h2))
  have HF : Hid (∀ W2 u v x2, RdPost rb dp m (w.setCell ⟨rb, 0, none⟩ u) (.returned (.tuple #[v, .int .i64 x2])) W2 → RdPost rb dp (giftR bs x m) w (.returned (.tuple #[.iface 79 (.agg #[.string (nm bs), .string (nm x), v]), .int .i64 x2])) W2) := Lib.hid (fun W2 u v x2 hq => RdPost.gift (Kept.setCell (S := (· = rb)) ⟨rb, 0, none⟩ u rfl) hq)
  have hG := fun W => gives_any (sgOf u) W (tk_len hk2)
  have e : givesV (sgOf u) = .tuple #[.string (nm bs), .bool true] := by unfold givesV; rw [hg]
  rw [e] at hG
  have HG := Lib.hid hG
  have q := str_is (sgOf (.nam x)) [110, 97, 109, 101]
  rw [decide_eq_true (show sgOf (.nam x) = [110, 97, 109, 101] from rfl)] at q
  have ht : (Tok.nam x).text = x := rfl
  rw [ht] at a1
  generalize nm (sgOf (.nam x)) = S at *
  generalize nm (sgOf u) = U at *
  generalize nm x = X at *
  generalize nm bs = B at *
  generalize r.length = n at *
  clear h hr0 hA hG e ht hg hk hk2
  go_enter Tryd.func21, Tryd.ntmps21
  go_wp2_with (go_at_call 33; refine (HG.out _).mono ?_; rintro e w2 ⟨rfl, rfl⟩)
  all_goals first | refine (HA1.out _ _ rfl rfl).mono ?_ | refine (HA2.out _ _ rfl (by omega)).mono ?_
  all_goals
    intro e W2 hq
    obtain ⟨v, x2, rfl, hi⟩ := hq.form
    have HQ := Lib.hid (HF.out _ _ _ _ hq)
    clear hq HA1 HA2 HG HF
    rcases hi with rfl | ⟨T2, z2, rfl⟩ <;> (go_wp2_with fail; go_ret2; exact HQ.out)
theorem all_any (d : Rd) (rb dp m : Nat) (hA : Ok1 21 rb dp m #[] (d.all dp)) (hC : Ok1 32 rb dp (m + 1) #[] (condF d dp)) : Ok1 21 rb dp (m + 1) #[] (allF d dp) := by
  intro l w hl h
  rw [allF_eq]
  cases hg : givenL l with
  | none => exact all_cond rb dp l w _ h hg (hC l w hl h)
  | some p =>
    obtain ⟨b, t, r⟩ := p
    cases l with
    | nil => cases hg
    | cons a l => cases a with
      | sg s => cases hg
      | num x n => cases hg
      | nam x => cases l with
        | nil => cases hg
        | cons u l =>
          have hg2 : (givesOf (sgOf u)).map (fun b => (b, x, l)) = some (b, t, r) := hg
          cases hx : givesOf (sgOf u) with
          | none => rw [hx] at hg2; cases hg2
          | some b' =>
            rw [hx] at hg2
            simp only [Option.map_some, Option.some.injEq, Prod.mk.injEq] at hg2
            obtain ⟨rfl, rfl, rfl⟩ := hg2
            simp only [List.length_cons] at hl
            have := all_give rb dp x b' u l w (d.all dp l) h hx (fun W hW => hA l W (by omega) hW)
            refine this.mono ?_
            intro e w' hq
            exact hq

end Go.Proofs.YtdegkfnlafgheaaDoor.Ar
