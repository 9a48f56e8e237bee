/- DERIVED. All of the reader, by how much is left; the walk over read. -/
import Derived.Test.YtdegkfnlafgheaaDoorArLead2
namespace Go.Proofs.YtdegkfnlafgheaaDoor.Ar
open Go.RowKit
open PathM WdM ArM
open Go.Proofs.YtdegkfnlafgheaaDoor.Wd
set_option linter.unusedVariables false

theorem leads_num : leadsOf [110, 117, 109, 98, 101, 114] = false ∧ leadsOf [110, 97, 109, 101] = false := by decide
theorem lead_any (d : Rd) (rb m : Nat) (dp : Nat) (hL : ∀ dp, Ok1 49 rb dp m #[] (d.lead dp)) (hA : ∀ dp, Ok1 21 rb dp m #[] (d.all dp)) :
    Ok1 49 rb dp (m + 1) #[] (leadF d dp) := by
  intro l w hl h
  show Calls _ _ #[.pointer (some ⟨rb, 0, none⟩)] _ _
  cases l with
  | nil => exact lead_none rb dp w h
  | cons t l =>
    simp only [List.length_cons] at hl
    cases t with
    | num x n => exact lead_plain rb dp (.num x n) l w h leads_num.1 (show ([110, 117, 109, 98, 101, 114] : Bs) ≠ [40] by decide)
    | nam x => exact lead_plain rb dp (.nam x) l w h leads_num.2 (show ([110, 97, 109, 101] : Bs) ≠ [40] by decide)
    | sg s =>
      have hd : dp ≤ 64 := by obtain ⟨_, _, _, hd⟩ := h; exact hd
      by_cases h1 : leadsOf s = true
      · by_cases h64 : dp = 64
        · subst h64
          have e : leadF d 64 (.sg s :: l) = .error 63 := by unfold leadF; dsimp only; rw [if_pos h1, if_pos rfl]
          rw [e]
          exact lead_deep rb (.sg s) l w h true _ h1 rfl (.inl rfl)
        · have e : leadF d dp (.sg s :: l) = ledR s (d.lead (dp + 1) l) := by unfold leadF; dsimp only; rw [if_pos h1, if_neg h64]; rfl
          rw [e]
          exact lead_led rb dp (.sg s) l w _ h (by omega) h1 _ rfl (fun W hW => hL (dp + 1) l W (by omega) hW)
      · have h1' : leadsOf s = false := by simpa using h1
        by_cases h2 : s = [40]
        · by_cases h64 : dp = 64
          · subst h64
            have e : leadF d 64 (.sg s :: l) = .error 63 := by unfold leadF; dsimp only; rw [if_neg h1, if_pos h2, if_pos rfl]
            rw [e]
            exact lead_deep rb (.sg s) l w h false true h1' (decide_eq_true h2) (.inr rfl)
          · have e : leadF d dp (.sg s :: l) = parR (d.all (dp + 1) l) := by
              unfold leadF parR
              dsimp only
              rw [if_neg h1, if_pos h2, if_neg h64]
              cases d.all (dp + 1) l with
              | error e => rfl
              | ok p =>
                obtain ⟨t, r⟩ := p
                dsimp only
                rw [take_sg [41] (by decide)]
                cases r with
                | nil => rfl
                | cons a r => cases a with
                  | num x n => rfl
                  | nam x => rfl
                  | sg s2 =>
                    dsimp only
                    by_cases h41 : s2 = [41]
                    · rw [if_pos h41, if_pos h41]
                    · rw [if_neg h41, if_neg h41]
            rw [e]
            exact lead_paren rb dp (.sg s) l w _ h (by omega) h1' h2 (fun W hW => hA (dp + 1) l W (by omega) hW)
        · have e : leadF d dp (.sg s :: l) = plainL (.sg s :: l) := by unfold leadF; dsimp only; rw [if_neg h1, if_neg h2]; rfl
          rw [e]
          exact lead_plain rb dp (.sg s) l w h h1' h2
/-- All of the reader. -/
theorem rd_any (rb : Nat) : ∀ m, (∀ dp, Ok1 21 rb dp m #[] ((rd m).all dp)) ∧ (∀ dp, Ok1 32 rb dp m #[] ((rd m).cond dp)) ∧ (∀ dp, Ok1 49 rb dp m #[] ((rd m).lead dp))
  | 0 => ⟨fun dp l w h => absurd h (by omega), fun dp l w h => absurd h (by omega), fun dp l w h => absurd h (by omega)⟩
  | m + 1 => by
    obtain ⟨hA, hC, hL⟩ := rd_any rb m
    have h1 := fun dp => lead_any (rd m) rb m dp hL hA
    have hlf := fun dp => leadF_less (rd_less m) dp
    have h2 : ∀ dp, Ok1 32 rb dp (m + 1) #[] (condF (rd m) dp) := fun dp =>
      cond_any (rd m) rb dp m (pairs_all rb dp (m + 1) _ (h1 dp) (hlf dp) 10 1 rfl (by omega)) (hA dp) (hC dp) (pairsK_less (hlf dp) 10) (rd_less m dp).1
    exact ⟨fun dp => all_any (rd m) rb dp m (hA dp) (h2 dp), h2, h1⟩
/-- How read ends. -/
def ReadPost (m : Except Int Tm) (w : World) (e : Ending) (w' : World) : Prop := Below w.heap.size w w' ∧ match m with
  | .ok t => e = .returned (.tuple #[tmV t, .int .i64 0])
  | .error er => ∃ v, e = .returned (.tuple #[v, .int .i64 er]) ∧ er ≠ 0 ∧ IfV v
theorem ReadPost.yes {m : Except Int Tm} {w w' : World} {t : Tm} {v : Value} (hm : m = .ok t) (hv : v = tmV t) (h : Below w.heap.size w w') : ReadPost m w (.returned (.tuple #[v, .int .i64 0])) w' := by subst hm; subst hv; exact ⟨h, rfl⟩
theorem ReadPost.no {m : Except Int Tm} {w w' : World} {er : Int} {v : Value} (hm : m = .error er) (hv : IfV v) (hn : er ≠ 0) (h : Below w.heap.size w w') : ReadPost m w (.returned (.tuple #[v, .int .i64 er])) w' := by subst hm; exact ⟨h, v, rfl, hn, hv⟩
theorem RdA.left {w : World} {rb dp : Nat} {l : List Tok} (h : RdA w rb l dp) : ∃ A c, w.cell? ⟨rb, 0, none⟩ = some (.slice A l.length c) ∧ rb < w.heap.size := by
  have hz := h.lt
  obtain ⟨v, hb, ⟨A, c, rfl, _⟩, _⟩ := h
  exact ⟨A, c, cell_blk hb 0, hz⟩
set_option maxRecDepth 100000 in
set_option maxHeartbeats 3200000 in
theorem read_any (l : List Tok) (v : Value) (w : World) (h : TksIn w.heap.size w v l) :
    Calls Tryd.prog 15 #[v] w (ReadPost (readL l) w) := by
  obtain ⟨A, c, rfl, hcs⟩ := h
  have h : TksIn w.heap.size w (.slice A l.length c) l := ⟨A, c, rfl, hcs⟩
  have hb : Below w.heap.size w (w.alloc (.cells #[.slice A l.length c, .int .i64 0] 63)) := (Below.refl _ _).alloc (Nat.le_refl _) _
  have hr : RdA (w.alloc (.cells #[.slice A l.length c, .int .i64 0] 63)) w.heap.size l 0 := ⟨_, heap_alloc_new w _, h.keep (fun b hb2 => hb.block b hb2), by omega⟩
  have hA := (rd_any w.heap.size (l.length + 1)).1 0 l _ (by omega) hr
  replace hA : Calls Tryd.prog 21 #[.pointer (some ⟨w.heap.size, 0, none⟩)] _ _ := hA
  have HA := Lib.hid hA
  have HB := Lib.hid hb
  have hbl : ∀ W, Kept (· = w.heap.size) (w.alloc (.cells #[.slice A l.length c, .int .i64 0] 63)) W → Below w.heap.size w W := fun W hk => hb.trans (hk.below (by rw [World.size_alloc]; omega) (fun k e => by have e : k = w.heap.size := e; omega))
  have HBL := Lib.hid hbl
  clear hA hb hbl hcs h hr
  unfold readL
  cases hM : (rd (l.length + 1)).all 0 l with
  | error er =>
    rw [hM] at HA
    generalize l.length = n at *
    clear hM
    dsimp only
    go_enter Tryd.func15, Tryd.ntmps15
    go_wp2_with fail
    refine HA.out.mono ?_
    intro e W hP
    obtain ⟨v, r, rfl, hk, hr, hne, hi⟩ := hP.er
    have hq : (er == 0) = false := by simpa using hne
    have HF := Lib.hid (ReadPost.no (m := .error er) rfl hi hne (HBL.out _ hk))
    clear hP hk hr hne hi HA HB HBL
    go_wp2_with fail
    go_ret2
    exact HF.out
  | ok p =>
    obtain ⟨t, r⟩ := p
    rw [hM] at HA
    dsimp only
    generalize l.length = n at *
    clear hM
    cases r with
    | nil =>
      rw [if_pos (show ([] : List Tok).isEmpty = true from rfl)]
      go_enter Tryd.func15, Tryd.ntmps15
      go_wp2_with fail
      refine HA.out.mono ?_
      intro e W hP
      obtain ⟨rfl, hk, hr⟩ := hP.ok
      obtain ⟨A2, c2, c0, hz⟩ := hr.left
      have HK := Lib.hid (HBL.out _ hk)
      have HF := Lib.hid (ReadPost.yes (m := .ok t) rfl rfl HK.out)
      simp only [List.length_nil] at c0
      generalize tmV t = tv at *
      clear hP hk hr HA HB HBL HK
      go_wp2_with fail
      go_ret2
      exact HF.out
    | cons a r =>
      rw [if_neg (show ¬ (a :: r).isEmpty = true by simp)]
      go_enter Tryd.func15, Tryd.ntmps15
      go_wp2_with fail
      refine HA.out.mono ?_
      intro e W hP
      obtain ⟨rfl, hk, hr⟩ := hP.ok
      obtain ⟨A2, c2, c0, hz⟩ := hr.left
      have HK := Lib.hid (HBL.out _ hk)
      have HF := Lib.hid (ReadPost.no (m := .error 61) rfl (tmV_if t) (by decide) HK.out)
      simp only [List.length_cons] at c0
      generalize r.length = k at *
      generalize tmV t = tv at *
      clear hP hk hr HA HB HBL HK
      go_wp2_with fail
      go_ret2
      exact HF.out
end Go.Proofs.YtdegkfnlafgheaaDoor.Ar
