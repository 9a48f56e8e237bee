/- DERIVED. Texts of this claim, joined: ArLaw3, ArRM, ArRSgn, ArRVal, ArRTok. -/
import Derived.Test.YtcadnkanjlmfhaaGreatDoorAzQ18
import Derived.Test.YtcadnkanjlmfhaaGreatDoorAzQ11
import Derived.Test.YtcadnkanjlmfhaaGreatDoorAzQ07
import Derived.Test.YtcadnkanjlmfhaaGreatDoorAzQ17
namespace Go.Proofs.YtcadnkanjlmfhaaGreatDoor.Ar
open Go.RowKit
open PathM WdM ArM
open Go.Proofs.YtcadnkanjlmfhaaGreatDoor.Wd
open Go.Proofs.YtcadnkanjlmfhaaGreatDoor.NumM (textL)
set_option linter.unusedVariables false

/-- Variables that came in, however many. -/
def VaX (w : World) (v : Value) (vs : Vs) : Prop := ∃ (A : Option Addr) (c : Nat), v = .slice A vs.length c ∧ (vs.length ≤ 4611686018427387904 ∧ SizesV vs) ∧ (vs ≠ [] → ∃ b off, A = some ⟨b, off, none⟩ ∧ b < w.heap.size ∧ ∀ i (h : i < vs.length), w.cell? ⟨b, off + i * 2, none⟩ = some (.string (nm vs[i].1)) ∧ w.cell? ⟨b, off + i * 2 + 1, none⟩ = some (.string (nm vs[i].2)))
theorem VaX.va {w : World} {v : Value} {vs : Vs} (h : VaX w v vs) (hl : vs.length ≤ 64) : VaIn w v vs := by
  obtain ⟨A, c, hv, ⟨_, hs⟩, hc⟩ := h
  exact ⟨A, c, hv, ⟨by omega, hs⟩, hc⟩
theorem VaX.form {w : World} {v : Value} {vs : Vs} (h : VaX w v vs) : ∃ A c, v = .slice A vs.length c ∧ vs.length ≤ 4611686018427387904 := by
  obtain ⟨A, c, hv, ⟨h, _⟩, _⟩ := h; exact ⟨A, c, hv, h⟩
theorem EvPost.form {m : Except Int (Int × Vs)} {w w' : World} {e : Ending} (h : EvPost m w e w') : Below w.heap.size w w' ∧ ∃ n A k c x, e = .returned (.tuple #[.int .i64 n, .slice A k c, .int .i64 x]) := by
  obtain ⟨hb, h⟩ := h
  refine ⟨hb, ?_⟩
  cases m with
  | ok p =>
    obtain ⟨n, vs⟩ := p
    obtain ⟨_, v', he, hv, _⟩ := h
    obtain ⟨A, c, rfl⟩ := hv.form
    exact ⟨_, _, _, _, _, he⟩
  | error er => exact ⟨_, _, _, _, _, h.2⟩
theorem cat_two (a b : ByteArray) (h : a.size + b.size ≤ 9223372036854775807) (W : World) : (Op.stringOp .add a b).run Tryz.prog W = .ok (.string (a ++ b)) W := run_string_add_sum W _ _ h
theorem cat_bs (a b : ByteArray) : a ++ b = nm (a.data.toList ++ b.data.toList) := by
  rw [← Lib.mk_data (a ++ b)]
  congr 1
/-- Alone, or in parentheses: what a blank text comes to there. -/
theorem alone_more (s : Bs) (v v2 : Vs) (n : Int) (hs : s.length ≤ 2000) (h : evalL s v = .ok (n, v2)) :
    evalL (32 :: 40 :: (s ++ [41, 10, 9])) v = .ok (n, v2) ∨ evalL (32 :: 40 :: (s ++ [41, 10, 9])) v = .error 63 ∨ (s.all blankA = true ∧ evalL (32 :: 40 :: (s ++ [41, 10, 9])) v = .error 61) := by
  unfold evalL at h
  split at h
  · cases h
  · rename_i hb
    split at h
    · cases h
    · rename_i l hl
      split at h
      · rename_i he
        have : l = [] := by simpa using he
        subst this
        refine .inr (.inr ⟨cut_blank hl, ?_⟩)
        have hc := cut_paren hl
        unfold evalL
        rw [if_neg (by simp only [List.length_cons, List.length_append, List.length_nil]; omega), hc]
        rfl
      · split at h
        · cases h
        · rename_i hne t ht
          have hc := cut_paren hl
          unfold evalL
          rw [if_neg (by simp only [List.length_cons, List.length_append, List.length_nil]; omega), hc]
          dsimp only
          rw [if_neg (by simp)]
          rcases read_paren ht with h1 | h1
          · rw [h1]; exact .inl h
          · rw [h1]; exact .inr (.inl rfl)
theorem paren_cat (s : ByteArray) : (⟨#[32, 40]⟩ : ByteArray) ++ s ++ ⟨#[41, 10, 9]⟩ = nm (32 :: 40 :: (s.data.toList ++ [41, 10, 9])) := by
  rw [cat_bs, cat_bs, nm_data]
  rfl
end Go.Proofs.YtcadnkanjlmfhaaGreatDoor.Ar
namespace ArM
open PathM WdM
set_option linter.unusedVariables false

def leadD (d : Rd) (dp : Nat) (l : List Tok) : Rr := if dp = 65 then .error 63 else match l with
  | [] => .error 61
  | .num _ n :: r => .ok (.const n, r)
  | .nam t :: r => .ok (.named t, r)
  | .sg s :: r =>
    if leadsOf s = true then (match d.lead (dp + 1) r with
      | .error e => .error e
      | .ok (t, r2) => .ok (.led s t, r2))
    else if s = [40] then (match d.all (dp + 1) r with
      | .error e => .error e
      | .ok (t, r2) => match r2 with
        | .sg s2 :: r3 => if s2 = [41] then .ok (t, r3) else .error 61
        | _ => .error 61)
    else .error 61
def condD (d : Rd) (dp : Nat) (l : List Tok) : Rr := match pairsK (leadD d dp) 10 l with
  | .error e => .error e
  | .ok (t, r) => match r with
    | .sg s :: r2 => if s = [63] then (match d.all dp r2 with
        | .error e => .error e
        | .ok (y, r3) => match r3 with
          | .sg s2 :: r4 => if s2 = [58] then (match d.cond dp r4 with
              | .error e => .error e
              | .ok (z, r5) => .ok (.choice t y z, r5))
            else .error 61
          | _ => .error 61)
      else .ok (t, r)
    | _ => .ok (t, r)
def allD (d : Rd) (dp : Nat) (l : List Tok) : Rr := match l with
  | .nam t :: .sg s :: r => match givesOf s with
    | some b => (match d.all dp r with
      | .error e => .error e
      | .ok (x, r2) => .ok (.gift b t x, r2))
    | none => condD d dp l
  | _ => condD d dp l
def rdD : Nat → Rd
  | 0 => ⟨fun _ _ => .error 61, fun _ _ => .error 61, fun _ _ => .error 61⟩
  | n + 1 => ⟨allD (rdD n), condD (rdD n), leadD (rdD n)⟩
theorem leadD_less {d : Rd} (h : RdLess d) (dp : Nat) : Lss (leadD d dp) := by
  intro l t r e
  unfold leadD at e
  split at e
  · cases e
  · split at e
    · cases e
    · simp only [Except.ok.injEq, Prod.mk.injEq] at e; rw [← e.2]; simp
    · simp only [Except.ok.injEq, Prod.mk.injEq] at e; rw [← e.2]; simp
    · split at e
      · split at e
        · cases e
        · rename_i hs
          have h1 := (h _).2.2 _ _ _ hs
          simp only [Except.ok.injEq, Prod.mk.injEq] at e
          rw [← e.2, List.length_cons]; omega
      · split at e
        · split at e
          · cases e
          · rename_i hs
            have h1 := (h _).1 _ _ _ hs
            split at e
            · split at e
              · simp only [Except.ok.injEq, Prod.mk.injEq] at e
                rw [← e.2]
                simp only [List.length_cons] at h1 ⊢; omega
              · cases e
            · cases e
        · cases e
theorem condD_less {d : Rd} (h : RdLess d) (dp : Nat) : Lss (condD d dp) := by
  intro l t r e
  unfold condD at e
  split at e
  · cases e
  · rename_i hs
    have h0 := pairsK_less (leadD_less h dp) 10 _ _ _ hs
    split at e
    · split at e
      · split at e
        · cases e
        · rename_i hs2
          have h1 := (h _).1 _ _ _ hs2
          split at e
          · split at e
            · split at e
              · cases e
              · rename_i hs3
                have h2 := (h _).2.1 _ _ _ hs3
                simp only [Except.ok.injEq, Prod.mk.injEq] at e
                rw [← e.2]
                simp only [List.length_cons] at h0 h1; omega
            · cases e
          · cases e
      · simp only [Except.ok.injEq, Prod.mk.injEq] at e; rw [← e.2]; exact h0
    · simp only [Except.ok.injEq, Prod.mk.injEq] at e; rw [← e.2]; exact h0
theorem allD_less {d : Rd} (h : RdLess d) (dp : Nat) : Lss (allD d dp) := by
  intro l t r e
  unfold allD at e
  split at e
  · split at e
    · split at e
      · cases e
      · rename_i hs
        have h1 := (h _).1 _ _ _ hs
        simp only [Except.ok.injEq, Prod.mk.injEq] at e
        rw [← e.2]
        simp only [List.length_cons]; omega
    · exact condD_less h dp _ _ _ e
  · exact condD_less h dp _ _ _ e
theorem rdD_less : ∀ n, RdLess (rdD n)
  | 0 => fun dp => ⟨(fun l t r e => nomatch e), (fun l t r e => nomatch e), (fun l t r e => nomatch e)⟩
  | n + 1 => fun dp => ⟨allD_less (rdD_less n) dp, condD_less (rdD_less n) dp, leadD_less (rdD_less n) dp⟩
/-- Alike on what is short. -/
theorem pairLoop_like {f g : List Tok → Rr} {m : Nat} (h : ∀ l, l.length < m → f l = g l) (hs : Lss g) (tight : Nat) : ∀ (n : Nat) (t : Tm) (l : List Tok), l.length < m → pairLoop f tight n t l = pairLoop g tight n t l
  | 0, _, _, _ => rfl
  | n + 1, t, l, hl => by
    unfold pairLoop
    cases l with
    | nil => rfl
    | cons a r => cases a with
      | num x k => rfl
      | nam x => rfl
      | sg s =>
        dsimp only
        have h1 : r.length < m := by simp only [List.length_cons] at hl; omega
        rw [h r h1]
        split
        · cases hg : g r with
          | error e => rfl
          | ok p =>
            obtain ⟨u, r2⟩ := p
            have := hs _ _ _ hg
            exact pairLoop_like h hs tight n _ _ (by omega)
        · rfl
theorem pairsK_like {f g : List Tok → Rr} {m : Nat} (h : ∀ l, l.length < m → f l = g l) (hs : Lss g) : ∀ (k : Nat) (l : List Tok), l.length < m → pairsK f k l = pairsK g k l
  | 0, l, hl => h l hl
  | k + 1, l, hl => by
    unfold pairsK
    rw [pairsK_like h hs k l hl]
    cases hg : pairsK g k l with
    | error e => rfl
    | ok p =>
      obtain ⟨t, r⟩ := p
      have := pairsK_less hs k _ _ _ hg
      exact pairLoop_like (fun l hl => pairsK_like h hs k l hl) (pairsK_less hs k) _ _ _ _ (by omega)
theorem pairsK_deep {f : List Tok → Rr} {e : Int} : ∀ (k : Nat) (l : List Tok), f l = .error e → pairsK f k l = .error e
  | 0, l, h => h
  | k + 1, l, h => by unfold pairsK; rw [pairsK_deep k l h]
/-- Too deep. -/
theorem rdD_deep : ∀ (n : Nat) (l : List Tok), l.length < n → (rdD n).all 65 l = .error 63 ∧ (rdD n).cond 65 l = .error 63 ∧ (rdD n).lead 65 l = .error 63
  | 0, l, h => absurd h (by omega)
  | n + 1, l, h => by
    have hl : ∀ l, leadD (rdD n) 65 l = .error 63 := fun l => if_pos rfl
    have hc : ∀ l, condD (rdD n) 65 l = .error 63 := fun l => by unfold condD; rw [pairsK_deep 10 l (hl l)]
    refine ⟨?_, hc l, hl l⟩
    show allD (rdD n) 65 l = _
    unfold allD
    split
    · rename_i t s r
      split
      · rw [(rdD_deep n r (by simp only [List.length_cons] at h; omega)).1]
      · exact hc _
    · exact hc _
/-- The document reads as the program. -/
theorem rdD_eq : ∀ (n dp : Nat) (l : List Tok), dp ≤ 64 → l.length < n → (rdD n).all dp l = (rd n).all dp l ∧ (rdD n).cond dp l = (rd n).cond dp l ∧ (rdD n).lead dp l = (rd n).lead dp l
  | 0, _, l, _, h => absurd h (by omega)
  | n + 1, dp, l, hd, h => by
    have hL : ∀ l : List Tok, l.length < n + 1 → leadD (rdD n) dp l = leadF (rd n) dp l := by
      intro l h
      unfold leadD leadF
      rw [if_neg (by omega)]
      cases l with
      | nil => rfl
      | cons a r =>
        have hr : r.length < n := by simp only [List.length_cons] at h; omega
        cases a with
        | num x k => rfl
        | nam x => rfl
        | sg s =>
          dsimp only
          by_cases h64 : dp = 64
          · subst h64
            rw [(rdD_deep n r hr).1, (rdD_deep n r hr).2.2]
            rfl
          · rw [if_neg h64, if_neg h64, (rdD_eq n (dp + 1) r (by omega) hr).1, (rdD_eq n (dp + 1) r (by omega) hr).2.2]
            rfl
    have hC : ∀ l : List Tok, l.length < n + 1 → condD (rdD n) dp l = condF (rd n) dp l := by
      intro l h
      unfold condD condF
      have hs := leadF_less (rd_less n) dp
      rw [pairsK_like hL hs 10 l h]
      cases hg : pairsK (leadF (rd n) dp) 10 l with
      | error e => rfl
      | ok p =>
        obtain ⟨t, r⟩ := p
        have h1 := pairsK_less hs 10 _ _ _ hg
        dsimp only
        cases r with
        | nil => rfl
        | cons a r => cases a with
          | num x k => rfl
          | nam x => rfl
          | sg s =>
            simp only [List.length_cons] at h1
            dsimp only
            rw [(rdD_eq n dp r hd (by omega)).1]
            split
            · cases hy : (rd n).all dp r with
              | error e => rfl
              | ok p =>
                obtain ⟨y, r3⟩ := p
                have h2 := (rd_less n dp).1 _ _ _ hy
                dsimp only
                cases r3 with
                | nil => rfl
                | cons a r3 => cases a with
                  | num x k => rfl
                  | nam x => rfl
                  | sg s =>
                    simp only [List.length_cons] at h2
                    dsimp only
                    rw [(rdD_eq n dp r3 hd (by omega)).2.1]
                    rfl
            · rfl
    refine ⟨?_, hC l h, hL l h⟩
    show allD (rdD n) dp l = allF (rd n) dp l
    have h2 := hC l h
    cases l with
    | nil => exact h2
    | cons a l => cases a with
      | sg s => exact h2
      | num x k => exact h2
      | nam t => cases l with
        | nil => exact h2
        | cons u r => cases u with
          | num x k => exact h2
          | nam x => exact h2
          | sg s =>
            unfold allD allF
            dsimp only
            rw [h2, (rdD_eq n dp r hd (by simp only [List.length_cons] at h; omega)).1]
            rfl
theorem readL_doc (l : List Tok) : readL l = match (rdD (l.length + 1)).all 0 l with
  | .error e => .error e
  | .ok (t, r) => if r.isEmpty then .ok t else .error 61 := by
  unfold readL
  rw [(rdD_eq (l.length + 1) 0 l (by omega) (by omega)).1]
  rfl
/-- The signs of one level. -/
def lvS : Nat → List Bs
  | 0 => [[124, 124]] | 1 => [[38, 38]] | 2 => [[124]] | 3 => [[94]] | 4 => [[38]] | 5 => [[61, 61], [33, 61]] | 6 => [[60], [60, 61], [62], [62, 61]] | 7 => [[60, 60], [62, 62]] | 8 => [[43], [45]] | 9 => [[42], [47], [37]] | _ => []
theorem lv_tight (s : Bs) : ∀ k, k < 10 → (decide (s ∈ lvS k) = decide (tightOf s = k + 1)) := by
  intro k hk
  have h : tightOf s = 0 ∨ s ∈ [[124, 124], [38, 38], [124], [94], [38], [61, 61], [33, 61], [60], [60, 61], [62], [62, 61], [60, 60], [62, 62], [43], [45], [42], [47], [37]] := by
    unfold tightOf
    repeat' split
    all_goals first | exact .inl rfl | (right; rename_i h; first | (subst h; decide) | (rcases h with rfl | rfl | rfl | rfl <;> decide) | (rcases h with rfl | rfl | rfl <;> decide) | (rcases h with rfl | rfl <;> decide))
  rcases h with h | h
  · have hn : s ∉ lvS k := by
      intro hm
      have : tightOf s = k + 1 := by
        have hk2 : k = 0 ∨ k = 1 ∨ k = 2 ∨ k = 3 ∨ k = 4 ∨ k = 5 ∨ k = 6 ∨ k = 7 ∨ k = 8 ∨ k = 9 := by omega
        rcases hk2 with rfl | rfl | rfl | rfl | rfl | rfl | rfl | rfl | rfl | rfl <;> simp only [lvS, List.mem_cons, List.not_mem_nil, or_false] at hm
        all_goals first | (subst hm; rfl) | (rcases hm with rfl | rfl | rfl | rfl <;> rfl) | (rcases hm with rfl | rfl | rfl <;> rfl) | (rcases hm with rfl | rfl <;> rfl)
      omega
    rw [h, decide_eq_false hn, decide_eq_false (by omega)]
  · have : ∀ k < 10, ∀ s ∈ [[124, 124], [38, 38], [124], [94], [38], [61, 61], [33, 61], [60], [60, 61], [62], [62, 61], [60, 60], [62, 62], [43], [45], [42], [47], [37]], decide (s ∈ lvS k) = decide (tightOf s = k + 1) := by decide
    exact this k hk s h
/-- The signs that give. -/
def gvS : List Bs := [[61], [43, 61], [45, 61], [42, 61], [47, 61], [37, 61], [60, 60, 61], [62, 62, 61], [38, 61], [94, 61], [124, 61]]
theorem gv_sign : ∀ s ∈ signsA, (givesOf s).isSome = decide (s ∈ gvS) ∧ (s ∈ gvS → givesOf s = some s.dropLast) := by decide
end ArM
namespace Go.Proofs.YtcadnkanjlmfhaaGreatDoor.Ar
open Go.RowKit
open PathM WdM ArM
open Go.Proofs.YtcadnkanjlmfhaaGreatDoor.Wd
set_option linter.unusedVariables false

def sgA (k : Nat) : Bs := signsA.getD k []
def sgnL (l : Bs) : Bs := (signsA.find? fun o => stands o l).getD []
theorem sgn_cell : ∀ (k : Nat) (hk : k < 35), (#[Value.string ⟨#[60, 60, 61]⟩, .string ⟨#[62, 62, 61]⟩, .string ⟨#[60, 60]⟩, .string ⟨#[62, 62]⟩, .string ⟨#[60, 61]⟩, .string ⟨#[62, 61]⟩, .string ⟨#[61, 61]⟩, .string ⟨#[33, 61]⟩, .string ⟨#[38, 38]⟩, .string ⟨#[124, 124]⟩, .string ⟨#[43, 61]⟩, .string ⟨#[45, 61]⟩, .string ⟨#[42, 61]⟩, .string ⟨#[47, 61]⟩, .string ⟨#[37, 61]⟩, .string ⟨#[38, 61]⟩, .string ⟨#[94, 61]⟩, .string ⟨#[124, 61]⟩, .string ⟨#[43]⟩, .string ⟨#[45]⟩, .string ⟨#[42]⟩, .string ⟨#[47]⟩, .string ⟨#[37]⟩, .string ⟨#[60]⟩, .string ⟨#[62]⟩, .string ⟨#[33]⟩, .string ⟨#[126]⟩, .string ⟨#[38]⟩, .string ⟨#[94]⟩, .string ⟨#[124]⟩, .string ⟨#[63]⟩, .string ⟨#[58]⟩, .string ⟨#[61]⟩, .string ⟨#[40]⟩, .string ⟨#[41]⟩] : Array Value)[k]? = some (.string (nm (sgA k))) := by
  intro k hk
  iterate 35 (rcases k with _ | k; rfl)
  omega
theorem sgn_len : ∀ (k : Nat) (hk : k < 35), 0 < (sgA k).length ∧ (sgA k).length ≤ 3 := by decide
theorem sgn_drop : ∀ (k : Nat) (hk : k < 35), signsA.drop k = sgA k :: signsA.drop (k + 1) := by decide
theorem bad_len (s : ByteArray) (i : Nat) : (s.data.toList.drop i).length = s.size - i := by rw [List.length_drop, sizeD]
theorem stands_len {a l : Bs} (h : stands a l = true) : a.length ≤ l.length := (List.isPrefixOf_iff_prefix.1 h).length_le
theorem bel_drewN {B : Nat} {a w : World} (h : Below B a w) (n : Nat) : Below B a (w.drewN n) := ⟨h.os, h.tape, h.output, h.size, h.block⟩
theorem stands_ext (s : ByteArray) (i : Nat) (o : Bs) (h : i + o.length ≤ s.size) : ((s.extract i (i + o.length)).toList == (nm o).toList) = stands o (s.data.toList.drop i) := by
  rw [listD, listD, nm_data, ext_mid, nm_data]
  rw [show i + o.length - i = o.length from by omega]
  have hl : o.length ≤ (s.data.toList.drop i).length := by rw [bad_len]; omega
  generalize s.data.toList.drop i = l at *
  rw [Bool.eq_iff_iff]
  simp only [beq_iff_eq]
  constructor
  · intro h2
    unfold stands
    rw [List.isPrefixOf_iff_prefix]
    exact ⟨l.drop o.length, by
      have h3 := List.take_append_drop o.length l
      rw [h2] at h3
      exact h3⟩
  · intro h2
    obtain ⟨t, ht⟩ := List.isPrefixOf_iff_prefix.1 h2
    rw [← ht]
    simp
set_option maxRecDepth 100000 in
set_option maxHeartbeats 1600000 in
theorem rsignAt_any (s : ByteArray) (i : Nat) (w : World) (hi : i ≤ s.size) (hs : s.size ≤ 8192) :
    Calls Tryz.prog 25 #[.string s, .int .i64 i] w fun e w' => e = .returned (.string (nm (sgnL (s.data.toList.drop i)))) ∧ Below w.heap.size w w' := by
  obtain ⟨r, hr⟩ : ∃ r, sgnL (s.data.toList.drop i) = r := ⟨_, rfl⟩
  rw [hr]
  have HR : Hid ((((signsA.drop 0).find? fun o => stands o (s.data.toList.drop i)).getD []) = r) := Lib.hid hr
  clear hr
  go_enter Tryz.func25, Tryz.ntmps25
  go_wp2_with fail
  go_loopg [6] 35 (fun g x wr => ∃ k : Nat, g = 35 - k ∧ x = .int .i64 k ∧ k ≤ 35 ∧ Hid (Below w.heap.size w wr) ∧ Hid (wr.heap[w.heap.size]? = some (.cells #[Value.string ⟨#[60, 60, 61]⟩, .string ⟨#[62, 62, 61]⟩, .string ⟨#[60, 60]⟩, .string ⟨#[62, 62]⟩, .string ⟨#[60, 61]⟩, .string ⟨#[62, 61]⟩, .string ⟨#[61, 61]⟩, .string ⟨#[33, 61]⟩, .string ⟨#[38, 38]⟩, .string ⟨#[124, 124]⟩, .string ⟨#[43, 61]⟩, .string ⟨#[45, 61]⟩, .string ⟨#[42, 61]⟩, .string ⟨#[47, 61]⟩, .string ⟨#[37, 61]⟩, .string ⟨#[38, 61]⟩, .string ⟨#[94, 61]⟩, .string ⟨#[124, 61]⟩, .string ⟨#[43]⟩, .string ⟨#[45]⟩, .string ⟨#[42]⟩, .string ⟨#[47]⟩, .string ⟨#[37]⟩, .string ⟨#[60]⟩, .string ⟨#[62]⟩, .string ⟨#[33]⟩, .string ⟨#[126]⟩, .string ⟨#[38]⟩, .string ⟨#[94]⟩, .string ⟨#[124]⟩, .string ⟨#[63]⟩, .string ⟨#[58]⟩, .string ⟨#[61]⟩, .string ⟨#[40]⟩, .string ⟨#[41]⟩] 9 (0, 0))) ∧ Hid ((((signsA.drop k).find? fun o => stands o (s.data.toList.drop i)).getD []) = r))
  case atStart => exact ⟨0, rfl, rfl, by omega, Lib.hid ((Below.refl _ _).alloc (Nat.le_refl _) _), Lib.hid (heap_alloc_new w _), HR⟩
  case round =>
    obtain ⟨k, rfl, rfl, hk, HB, HC, HI⟩ := hrel
    clear HR
    by_cases hlt : k < 35
    · have c0 := (cell_blk HC.out k).trans (sgn_cell k hlt)
      have hz := fin_at HC.out
      have hol := sgn_len k hlt
      have HDR := Lib.hid (sgn_drop k hlt)
      have hobs : (nm (sgA k)).size = (sgA k).length := nm_size _
      have h1w : IntKind.i64.wrap ((i : Int) + ((sgA k).length : Int)) = (i : Int) + ((sgA k).length : Int) := IntWalk.i64_in _ (by omega)
      cases hst : stands (sgA k) (s.data.toList.drop i) with
      | true =>
        have hle : i + (sgA k).length ≤ s.size := by have := stands_len hst; rw [bad_len] at this; omega
        have heq := stands_ext s i (sgA k) hle
        rw [hst] at heq
        have HRR : Hid (sgA k = r) := Lib.hid (by rw [← HI.out, HDR.out, List.find?_cons, hst]; rfl)
        generalize sgA k = o at *
        have g1 : ((i : Int) + (o.length : Int)) ≤ (s.size : Int) := by omega
        have g2 : (0 : Int) ≤ (i : Int) + (o.length : Int) := by omega
        have g3 : ((i : Int) + (o.length : Int)).toNat = i + o.length := by omega
        have g4 : (i : Int) ≤ (i : Int) + (o.length : Int) := by omega
        rw [← hobs] at heq g1 g2 g3 g4 h1w hle hol
        obtain ⟨ob, hob⟩ : ∃ ob, nm o = ob := ⟨_, rfl⟩
        have HOB := Lib.hid hob
        rw [hob] at c0 heq g1 g2 g3 g4 h1w hle hol hobs
        clear hob hst hobs
        go_wp2_with fail
        go_quiet (fail)
        have HB2 := Lib.hid (bel_drewN HB.out nq)
        replace c0 := (show (wr.drewN nq).cell? _ = _ from c0)
        replace hz : w.heap.size < (wr.drewN nq).heap.size := hz
        generalize wr.drewN nq = w2 at *
        go_wp2
        go_ret
        exact ⟨ret_str (by rw [← HRR.out, HOB.out]), HB2.out⟩
      | false =>
        have HN : Hid ((((signsA.drop (k + 1)).find? fun o => stands o (s.data.toList.drop i)).getD []) = r) := Lib.hid (by rw [← HI.out, HDR.out, List.find?_cons, hst])
        obtain ⟨o, ho⟩ : ∃ o, sgA k = o := ⟨_, rfl⟩
        rw [ho] at c0 hol hobs h1w hst
        clear HDR ho
        obtain ⟨ob, hob⟩ : ∃ ob, nm o = ob := ⟨_, rfl⟩
        by_cases hle : i + o.length ≤ s.size
        · have heq := stands_ext s i o hle
          rw [hst] at heq
          have g1 : ((i : Int) + (o.length : Int)) ≤ (s.size : Int) := by omega
          have g2 : (0 : Int) ≤ (i : Int) + (o.length : Int) := by omega
          have g3 : ((i : Int) + (o.length : Int)).toNat = i + o.length := by omega
          have g4 : (i : Int) ≤ (i : Int) + (o.length : Int) := by omega
          rw [← hobs] at heq g1 g2 g3 g4 h1w hle hol
          rw [hob] at c0 heq g1 g2 g3 g4 h1w hle hol hobs
          clear hob hst hobs
          go_wp2_with fail
          go_quiet (fail)
          have HB2 := Lib.hid (bel_drewN HB.out nq)
          have HC2 : Hid ((wr.drewN nq).heap[w.heap.size]? = _) := Lib.hid HC.out
          generalize wr.drewN nq = w2 at *
          go_wp2
          go_roundg (35 - (k + 1))
          case rel => exact ⟨k + 1, rfl, by go_num, by omega, HB2, HC2, HN⟩
          case measure => omega
        · have g1 : ¬ ((i : Int) + (o.length : Int)) ≤ (s.size : Int) := by omega
          rw [← hobs] at g1 h1w hle hol
          rw [hob] at c0 g1 h1w hle hol hobs
          clear hob hst hobs
          have g9 := decide_eq_false g1
          clear g1
          go_wp2_with fail
          go_quiet (fail)
          have HB2 := Lib.hid (bel_drewN HB.out nq)
          have HC2 : Hid ((wr.drewN nq).heap[w.heap.size]? = _) := Lib.hid HC.out
          generalize wr.drewN nq = w2 at *
          go_wp2
          go_roundg (35 - (k + 1))
          case rel => exact ⟨k + 1, rfl, by go_num, by omega, HB2, HC2, HN⟩
          case measure => omega
    · have HRR : Hid (([] : Bs) = r) := Lib.hid (by
        have := HI.out
        have h35 : signsA.drop k = [] := List.drop_of_length_le (by have : signsA.length = 35 := rfl; omega)
        rw [h35] at this
        exact this)
      go_wp2_with fail
      go_ret
      exact ⟨ret_str (by rw [← HRR.out]; rfl), HB.out⟩

end Go.Proofs.YtcadnkanjlmfhaaGreatDoor.Ar
namespace Go.Proofs.YtcadnkanjlmfhaaGreatDoor.Ar
open Go.RowKit
open PathM WdM ArM
open Go.Proofs.YtcadnkanjlmfhaaGreatDoor.Wd
open Go.Proofs.YtcadnkanjlmfhaaGreatDoor.NumM
set_option linter.unusedVariables false

set_option maxHeartbeats 1600000 in
theorem rplace_any (vs : Vs) (name : Bs) (v : Value) (w : World) (h : VaIn w v vs) :
    Calls Tryz.prog 48 #[v, .string (nm name)] w fun e w' => e = .returned (.int .i64 (idxV name 0 vs)) ∧ w' = w := by
  obtain ⟨A, c, rfl, ⟨hl, _⟩, hcell⟩ := h
  have HCE := Lib.hid hcell
  obtain ⟨r, hr⟩ : ∃ r, idxV name 0 vs = r := ⟨_, rfl⟩
  rw [hr]
  have HR : Hid (idxV name 0 (vs.drop 0) = r) := Lib.hid (by rw [List.drop_zero]; exact hr)
  obtain ⟨n, hn⟩ : ∃ n, vs.length = n := ⟨_, rfl⟩
  have HN := Lib.hid hn
  rw [hn] at hl ⊢
  clear hcell hr hn
  go_enter Tryz.func48, Tryz.ntmps48
  go_wp2_with fail
  go_loopg [5] n (fun g x wr => ∃ i : Nat, g = n - i ∧ x = .int .i64 i ∧ i ≤ n ∧ wr = w ∧ Hid (idxV name i (vs.drop i) = r))
  case atStart => exact ⟨0, by omega, rfl, by omega, rfl, HR⟩
  case round =>
    obtain ⟨i, rfl, rfl, hi, hwr, HI⟩ := hrel
    obtain rfl : w = wr := hwr.symm
    by_cases hil : i < n
    · have hil2 : i < vs.length := by have := HN.out; omega
      obtain ⟨b, off, hA, hb, hcs⟩ := HCE.out (fun e => by rw [e] at hil2; cases hil2)
      subst hA
      obtain ⟨a0, a1⟩ := hcs i hil2
      have hd : vs.drop i = vs[i] :: vs.drop (i + 1) := List.drop_eq_getElem_cons hil2
      have hI := HI.out
      rw [hd, idxV] at hI
      generalize vs[i] = x at *
      obtain ⟨x1, x2⟩ := x
      replace hI : (if x1 = name then (i : Int) else idxV name (i + 1) (vs.drop (i + 1))) = r := hI
      have hII := Lib.hid hI
      have q := str_same x1 name
      have hil3 : (i : Int) < (n : Int) := by omega
      clear hcs hd hI HI a1
      dsimp only at a0
      by_cases hx : x1 = name
      · rw [decide_eq_true hx] at q
        have HRR : Hid ((i : Int) = r) := Lib.hid (by have := hII.out; rwa [if_pos hx] at this)
        clear hx
        generalize nm x1 = X1 at *
        generalize nm name = NM at *
        go_wp2_with fail
        go_ret
        exact ⟨ret_int HRR.out, rfl⟩
      · rw [decide_eq_false hx] at q
        have HNX : Hid (idxV name (i + 1) (vs.drop (i + 1)) = r) := Lib.hid (by have := hII.out; rwa [if_neg hx] at this)
        clear hx
        generalize nm x1 = X1 at *
        generalize nm name = NM at *
        go_wp2_with fail
        go_roundg (n - (i + 1))
        case measure => omega
        case rel => exact ⟨i + 1, rfl, by go_num, by omega, rfl, HNX⟩
    · have HRR : Hid ((-1 : Int) = r) := Lib.hid (by
        have := HI.out
        rw [List.drop_of_length_le (by have := HN.out; omega), idxV] at this
        exact this)
      have hil3 : ¬ (i : Int) < (n : Int) := by omega
      clear HI
      go_wp2_with fail
      go_ret
      exact ⟨ret_int HRR.out, rfl⟩
set_option maxHeartbeats 3200000 in
theorem rvalue_any (vs : Vs) (name : Bs) (v : Value) (w : World) (h : VaIn w v vs) :
    Calls Tryz.prog 30 #[v, .string (nm name)] w fun e w' => e = .returned (pairE (numberL vs name)) ∧ ∃ k, w' = w.drewN k := by
  have hf := rplace_any vs name v w h
  obtain ⟨A, c, rfl, ⟨hl, hsz⟩, hcell⟩ := h
  have HBR : Hid (∃ k, w = w.drewN k) := Lib.hid ⟨0, rfl⟩
  have HBK : Hid (∀ k, ∃ j, w.drewN k = w.drewN j) := Lib.hid (fun k => ⟨k, rfl⟩)
  rcases idx_find name vs 0 with ⟨h1, h2⟩ | ⟨i, hi, h1, h2, h3⟩
  · rw [h1] at hf
    have hr : numberL vs name = .ok 0 := by unfold numberL; rw [h2]
    rw [hr]
    have HF := Lib.hid hf
    generalize nm name = N at *
    clear hf hr h1 h2 hcell hsz
    go_enter Tryz.func30, Tryz.ntmps30
    go_wp2_with (go_at_call 48; refine HF.out.mono ?_; rintro e W ⟨rfl, rfl⟩)
    go_ret2
    exact ⟨rfl, HBR.out⟩
  · rw [h1] at hf
    simp only [Nat.zero_add] at hf
    obtain ⟨b, off, hA, hb, hcs⟩ := hcell (fun e => by rw [e] at hi; cases hi)
    subst hA
    have a1 := (hcs i hi).2
    have hs2 := (hsz _ (List.getElem_mem hi)).2
    have hil : (i : Int) < (vs.length : Int) := by omega
    generalize vs[i].2 = val at a1 hs2 h2
    generalize vs[i].1 = nam at a1
    have HF := Lib.hid hf
    by_cases hv0 : val = []
    · have hr : numberL vs name = .ok 0 := by unfold numberL; rw [h2]; simp only; rw [if_pos hv0]
      rw [hr]
      have e1 := emp_yes (b := nm val) (by rw [nm_data]; exact hv0)
      generalize nm val = V at *
      generalize nm name = N at *
      clear hf hr h1 h2 h3 hcs hcell hsz hi hv0 hs2
      generalize vs.length = n at *
      go_enter Tryz.func30, Tryz.ntmps30
      go_wp2_with (go_at_call 48; refine HF.out.mono ?_; rintro e W ⟨rfl, rfl⟩)
      go_ret2
      exact ⟨rfl, HBR.out⟩
    · obtain ⟨e1, e2⟩ := emp_no (b := nm val) (by rw [nm_data]; exact hv0)
      have hm : (nm val).size ≤ maxLen := by rw [nm_size]; unfold maxLen; omega
      have hd := fun W => rdecimal_any (nm val) W hm
      have hc := fun W => rconstant_any (nm val) W hm
      rw [nm_data] at hd hc
      by_cases hde : decE val = 0
      · have hr : numberL vs name = .ok (decN val) := by unfold numberL; rw [h2]; simp only; rw [if_neg hv0, if_pos hde]
        rw [hr]
        rw [hde] at hd
        have HD := Lib.hid hd
        generalize decN val = dn at *
        generalize nm val = V at *
        generalize nm name = N at *
        clear hf hr h1 h2 h3 hcs hcell hsz hi hv0 hs2 hd hc hde hm
        generalize vs.length = n at *
        go_enter Tryz.func30, Tryz.ntmps30
        go_wp2_with (first | (go_at_call 48; refine HF.out.mono ?_; rintro e W ⟨rfl, rfl⟩) | (go_at_call 49; refine (HD.out _).mono ?_; rintro e W2 ⟨rfl, rfl⟩))
        go_ret2
        exact ⟨rfl, HBR.out⟩
      · have hr : pairE (numberL vs name) = .tuple #[.int .i64 (conN val : Int), .int .i64 (conE val : Int)] := by
          unfold numberL
          rw [h2]
          simp only
          rw [if_neg hv0, if_neg hde]
          by_cases hce : conE val = 0
          · rw [if_pos hce, hce]; rfl
          · rw [if_neg hce, con_zero _ hce]; rfl
        rw [hr]
        have hq : ((decE val : Int) != 0) = true := by simpa using by omega
        have HD := Lib.hid hd
        have HC := Lib.hid hc
        generalize decN val = dn at *
        generalize hdz : (decE val : Int) = dz at *
        generalize (conN val : Int) = cn at *
        generalize (conE val : Int) = ce at *
        generalize nm val = V at *
        generalize nm name = N at *
        clear hf hr h1 h2 h3 hcs hcell hsz hi hv0 hs2 hd hc hde hm hdz
        generalize vs.length = n at *
        go_enter Tryz.func30, Tryz.ntmps30
        go_wp2_with (first | (go_at_call 48; refine HF.out.mono ?_; rintro e W ⟨rfl, rfl⟩) | (go_at_call 49; refine (HD.out _).mono ?_; rintro e W2 ⟨rfl, rfl⟩) | (go_at_call 27; refine (HC.out _).mono ?_; rintro e W3 ⟨rfl, k, rfl⟩))
        go_ret2
        exact ⟨rfl, HBK.out _⟩

end Go.Proofs.YtcadnkanjlmfhaaGreatDoor.Ar
namespace Go.Proofs.YtcadnkanjlmfhaaGreatDoor.Ar
open Go.RowKit
open PathM WdM ArM
open Go.Proofs.YtcadnkanjlmfhaaGreatDoor.Wd
set_option linter.unusedVariables false

def rsg : Tok → Bs | .sg s => s | _ => []
def rnm : Tok → Bs | .nam t => t | _ => []
def RkD : Tok → Prop | .sg s => s ∈ signsA | .num _ n => 0 ≤ n ∧ n ≤ 9223372036854775807 | .nam t => t ≠ [] ∧ t.length ≤ 8192
/-- The document's tokens in a block. -/
structure RTk (B : Nat) (w : World) (b off c : Nat) (T : List Tok) : Prop where
  lt : b < B
  cap : T.length ≤ c
  len : T.length ≤ 8192
  ok : ∀ t ∈ T, RkD t
  cells : ∀ i (h : i < T.length), w.cell? ⟨b, off + i * 3, none⟩ = some (.string (nm (rsg T[i]))) ∧ w.cell? ⟨b, off + i * 3 + 1, none⟩ = some (.string (nm (rnm T[i]))) ∧ w.cell? ⟨b, off + i * 3 + 2, none⟩ = some (.int .i64 (nOf T[i]))
theorem RTk.below {B b off c : Nat} {w w' : World} {T : List Tok} (h : RTk B w b off c T) (hB : B ≤ w.heap.size) (hb : Below w.heap.size w w') : RTk B w' b off c T := by
  have e := hb.block b (Nat.lt_of_lt_of_le h.lt hB)
  exact ⟨h.lt, h.cap, h.len, h.ok, fun i hi => ⟨(World.cell?_of_block e).trans (h.cells i hi).1, (World.cell?_of_block e).trans (h.cells i hi).2.1, (World.cell?_of_block e).trans (h.cells i hi).2.2⟩⟩
/-- The sign that is first; none, if there is none. -/
def sgH : List Tok → Bs | t :: _ => rsg t | [] => []
theorem drop_at {α : Type} (T : List α) (i : Nat) (h : i < T.length) : T.drop i = T[i] :: T.drop (i + 1) := List.drop_eq_getElem_cons h
theorem drop_no {α : Type} (T : List α) (i : Nat) (h : ¬ i < T.length) : T.drop i = [] := List.drop_of_length_le (by omega)
set_option maxHeartbeats 1600000 in
theorem rsign_any (T : List Tok) (B b off c i : Nat) (x : Int) (hx : x = (i : Int)) (w : World) (h : RTk B w b off c T) (hB : B ≤ w.heap.size) :
    Calls Tryz.prog 47 #[.slice (some ⟨b, off, none⟩) T.length c, .int .i64 x] w fun e w' => e = .returned (.string (nm (sgH (T.drop i)))) ∧ w' = w := by
  subst hx
  have hb : b < w.heap.size := Nat.lt_of_lt_of_le h.lt hB
  have hl := h.len
  have hlc := h.cap
  by_cases hi : i < T.length
  · have a0 := (h.cells i hi).1
    rw [drop_at T i hi]
    show Calls _ _ _ _ fun e w' => e = .returned (.string (nm (rsg T[i]))) ∧ w' = w
    generalize nm (rsg T[i]) = S at *
    have hi2 : (i : Int) < (T.length : Int) := by omega
    clear h hi
    generalize T.length = n at hl hlc hi2 ⊢
    go_enter Tryz.func47, Tryz.ntmps47
    go_wp2
    go_ret
    exact ⟨rfl, rfl⟩
  · rw [drop_no T i hi]
    have hi2 : ¬ (i : Int) < (T.length : Int) := by omega
    clear h hi
    generalize T.length = n at hl hlc hi2 ⊢
    go_enter Tryz.func47, Tryz.ntmps47
    go_wp2
    go_ret
    exact ⟨rfl, rfl⟩
/-- Texts in a block. -/
structure StIn (w : World) (b : Nat) (L : List Bs) : Prop where
  lt : b < w.heap.size
  len : L.length ≤ 100
  cells : ∀ i (h : i < L.length), w.cell? ⟨b, i, none⟩ = some (.string (nm L[i]))
theorem StIn.block {w : World} {b : Nat} {L : List Bs} {t : TypeId} (h : w.heap[b]? = some (.cells (L.map fun x => Value.string (nm x)).toArray t (0, 0))) (hl : L.length ≤ 100) : StIn w b L := by
  refine ⟨fin_at h, hl, fun i hi => ?_⟩
  rw [cell_blk h i]
  simp [hi]
theorem StIn.below {w w' : World} {b : Nat} {L : List Bs} (h : StIn w b L) (hb : Below w.heap.size w w') : StIn w' b L :=
  ⟨Nat.lt_of_lt_of_le h.lt hb.size, h.len, fun i hi => (World.cell?_of_block (hb.block b h.lt)).trans (h.cells i hi)⟩
set_option maxHeartbeats 1600000 in
theorem rone_any (L : List Bs) (s : Bs) (b : Nat) (w : World) (h : StIn w b L) :
    Calls Tryz.prog 45 #[.string (nm s), .slice (some ⟨b, 0, none⟩) L.length L.length] w fun e w' => e = .returned (.bool (decide (s ∈ L))) ∧ w' = w := by
  obtain ⟨r, hr⟩ : ∃ r, decide (s ∈ L) = r := ⟨_, rfl⟩
  rw [hr]
  have HR : Hid (decide (s ∈ L.drop 0) = r) := Lib.hid (by rw [List.drop_zero]; exact hr)
  have HH := Lib.hid h
  have hb := h.lt
  have hl := h.len
  obtain ⟨n, hn⟩ : ∃ n, L.length = n := ⟨_, rfl⟩
  have HN := Lib.hid hn
  rw [hn] at hl ⊢
  clear h hr hn
  go_enter Tryz.func45, Tryz.ntmps45
  go_wp2_with fail
  go_loopg [5] n (fun g x wr => ∃ i : Nat, g = n - i ∧ x = .int .i64 i ∧ i ≤ n ∧ wr = w ∧ Hid (decide (s ∈ L.drop i) = r))
  case atStart => exact ⟨0, by omega, rfl, by omega, rfl, HR⟩
  case round =>
    obtain ⟨i, rfl, rfl, hi, hwr, HI⟩ := hrel
    obtain rfl : w = wr := hwr.symm
    by_cases hil : i < n
    · have hil2 : i < L.length := by have := HN.out; omega
      have a0 := HH.out.cells i hil2
      have q := str_same L[i] s
      have hd : L.drop i = L[i] :: L.drop (i + 1) := drop_at L i hil2
      obtain ⟨x, hxx⟩ : ∃ x, L[i] = x := ⟨_, rfl⟩
      rw [hxx] at a0 q hd
      have hil3 : (i : Int) < (n : Int) := by omega
      by_cases hx : x = s
      · rw [decide_eq_true hx] at q
        have HRR : Hid (true = r) := Lib.hid (by rw [← HI.out]; exact (decide_eq_true (by rw [hd, hx]; exact List.mem_cons_self ..)).symm)
        clear hd hx HI hxx
        generalize nm x = X at *
        generalize nm s = S at *
        go_wp2_with fail
        go_ret
        exact ⟨ret_bool HRR.out, rfl⟩
      · rw [decide_eq_false hx] at q
        have HNX : Hid (decide (s ∈ L.drop (i + 1)) = r) := Lib.hid (by
          rw [← HI.out]
          exact decide_eq_decide.2 (by rw [hd, List.mem_cons]; exact ⟨.inr, fun h => h.resolve_left (fun e => hx e.symm)⟩))
        clear hd hx HI hxx
        generalize nm x = X at *
        generalize nm s = S at *
        go_wp2_with fail
        go_roundg (n - (i + 1))
        case measure => omega
        case rel => exact ⟨i + 1, rfl, by go_num, by omega, rfl, HNX⟩
    · have HRR : Hid (false = r) := Lib.hid (by
        have := HI.out
        rw [drop_no L i (by have := HN.out; omega)] at this
        rw [← this]; simp)
      have hil3 : ¬ (i : Int) < (n : Int) := by omega
      clear HI
      go_wp2_with fail
      go_ret
      exact ⟨ret_bool HRR.out, rfl⟩
set_option maxRecDepth 100000 in
set_option maxHeartbeats 1600000 in
theorem rgives_any (s : Bs) (w : World) :
    Calls Tryz.prog 28 #[.string (nm s)] w fun e w' => e = .returned (.bool (decide (s ∈ gvS))) ∧ Below w.heap.size w w' := by
  have HB : Hid (∀ o, Below w.heap.size w (w.alloc o)) := Lib.hid (fun o => (Below.refl _ _).alloc (Nat.le_refl _) _)
  have HO : Hid (∀ W b, StIn W b gvS → Calls Tryz.prog 45 #[.string (nm s), .slice (some ⟨b, 0, none⟩) 11 11] W fun e w' => e = .returned (.bool (decide (s ∈ gvS))) ∧ w' = W) := Lib.hid (fun W b h => rone_any gvS s b W h)
  generalize decide (s ∈ gvS) = r at *
  generalize nm s = S at *
  go_enter Tryz.func28, Tryz.ntmps28
  go_wp2_with (go_at_call 45; refine (HO.out _ _ (StIn.block (heap_alloc_new _ _) (by decide))).mono ?_; rintro e W ⟨rfl, rfl⟩)
  go_ret
  exact ⟨rfl, HB.out _⟩

end Go.Proofs.YtcadnkanjlmfhaaGreatDoor.Ar
