/- DERIVED. Walks over the calls of a reader of scripts that tell what stands next. -/
import Derived.Test.YtgajbehlggikdaaSwBaseQ
namespace Go.Proofs.Ytgajbehlggikdaa.Sw
open Go.RowKit
open PathM WdM SyM
open Go.Proofs.Ytgajbehlggikdaa.Wd
set_option linter.unusedVariables false

theorem drop_ix : ∀ m : Bs, (Lib.indexByte m 10 = -1 ∧ m.dropWhile (fun d => d != 10) = []) ∨ ∃ (n : Nat) (t : Bs), Lib.indexByte m 10 = (n : Int) ∧ n < m.length ∧ m.drop n = 10 :: t ∧ m.dropWhile (fun d => d != 10) = 10 :: t
  | [] => .inl ⟨rfl, rfl⟩
  | c :: m => by
    by_cases hc : c = 10
    · subst hc
      exact .inr ⟨0, m, by simp [Lib.indexByte], by simp, rfl, by simp [List.dropWhile]⟩
    · have h1 : (c == 10) = false := by simpa using hc
      have h2 : (c :: m).dropWhile (fun d => d != 10) = m.dropWhile (fun d => d != 10) := by simp [List.dropWhile, bne, h1]
      rw [h2]
      rcases drop_ix m with ⟨a, b⟩ | ⟨n, t, a, b, d, e⟩
      · exact .inl ⟨by simp [Lib.indexByte, h1, a], b⟩
      · refine .inr ⟨n + 1, t, ?_, by simpa using b, d, e⟩
        have h3 : ((n : Int) == -1) = false := by rw [beq_eq_false_iff_ne]; omega
        simp only [Lib.indexByte, h1, a, h3, Bool.false_eq_true, if_false]; omega
theorem stands1 (a c : UInt8) (t : Bs) : stands [a] (c :: t) = (a == c) := by
  show (a == c && ([] : Bs).isPrefixOf t) = _
  rw [List.isPrefixOf_nil_left, Bool.and_true]
theorem stands2 (a b c : UInt8) (t : Bs) : stands [a, b] (c :: t) = (a == c && stands [b] t) := rfl
theorem ahead_nil : aheadL [] = [] := by rw [aheadL.eq_def]
theorem ahead_cons (c : UInt8) (t : Bs) : aheadL (c :: t) = if c = 32 then aheadL t else if c = 9 then aheadL t else if c = 92 then (match t with
      | [] => c :: t
      | d :: t' => if d = 10 then aheadL t' else c :: t) else if c = 35 then t.dropWhile (fun d => d != 10) else c :: t := by
  conv => lhs; rw [aheadL.eq_def]
  rfl
theorem ahead_cases (m : Bs) : (stands [32] m = true ∧ ∃ t, m = 32 :: t ∧ aheadL m = aheadL t) ∨ (stands [32] m = false ∧ stands [9] m = true ∧ ∃ t, m = 9 :: t ∧ aheadL m = aheadL t) ∨
    (stands [32] m = false ∧ stands [9] m = false ∧ stands [92, 10] m = true ∧ ∃ t, m = 92 :: 10 :: t ∧ aheadL m = aheadL t) ∨
    (stands [32] m = false ∧ stands [9] m = false ∧ stands [92, 10] m = false ∧ stands [35] m = true ∧ aheadL m = m.dropWhile (fun d => d != 10)) ∨
    (stands [32] m = false ∧ stands [9] m = false ∧ stands [92, 10] m = false ∧ stands [35] m = false ∧ aheadL m = m) := by
  cases m with
  | nil => exact .inr (.inr (.inr (.inr ⟨rfl, rfl, rfl, rfl, ahead_nil⟩)))
  | cons c t =>
    simp only [stands1, stands2]
    by_cases h1 : c = 32
    · subst h1; exact .inl ⟨rfl, t, rfl, by rw [ahead_cons, if_pos rfl]⟩
    · have e1 : ((32 : UInt8) == c) = false := by simpa using fun e => h1 e.symm
      by_cases h2 : c = 9
      · subst h2; exact .inr (.inl ⟨e1, rfl, t, rfl, by rw [ahead_cons, if_neg h1, if_pos rfl]⟩)
      · have e2 : ((9 : UInt8) == c) = false := by simpa using fun e => h2 e.symm
        by_cases h3 : c = 92
        · subst h3
          cases t with
          | nil => exact .inr (.inr (.inr (.inr ⟨e1, e2, rfl, rfl, by rw [ahead_cons, if_neg h1, if_neg h2, if_pos rfl]⟩)))
          | cons d t =>
            rw [stands1]
            by_cases h4 : d = 10
            · subst h4
              exact .inr (.inr (.inl ⟨e1, e2, rfl, t, rfl, by rw [ahead_cons, if_neg h1, if_neg h2, if_pos rfl]; simp⟩))
            · have e4 : ((10 : UInt8) == d) = false := by simpa using fun e => h4 e.symm
              exact .inr (.inr (.inr (.inr ⟨e1, e2, by rw [e4]; rfl, rfl, by rw [ahead_cons, if_neg h1, if_neg h2, if_pos rfl]; simp [h4]⟩)))
        · have e3 : ((92 : UInt8) == c) = false := by simpa using fun e => h3 e.symm
          rw [e3, Bool.false_and]
          by_cases h5 : c = 35
          · subst h5
            refine .inr (.inr (.inr (.inl ⟨e1, e2, rfl, rfl, ?_⟩)))
            rw [ahead_cons, if_neg h1, if_neg h2, if_neg h3, if_pos rfl]; rfl
          · have e5 : ((35 : UInt8) == c) = false := by simpa using fun e => h5 e.symm
            exact .inr (.inr (.inr (.inr ⟨e1, e2, rfl, e5, by rw [ahead_cons, if_neg h1, if_neg h2, if_neg h3, if_neg h5]⟩)))
theorem ahead_nl (t : Bs) : aheadL (10 :: t) = 10 :: t := by rw [ahead_cons]; simp
theorem ahead_suf (l : Bs) : aheadL l <:+ l := by
  induction h : l.length using Nat.strongRecOn generalizing l with
  | _ n ih =>
    rcases ahead_cases l with ⟨_, t, rfl, e⟩ | ⟨_, _, t, rfl, e⟩ | ⟨_, _, _, t, rfl, e⟩ | ⟨_, _, _, _, e⟩ | ⟨_, _, _, _, e⟩
    · rw [e]; exact (ih t.length (by simp at h; omega) t rfl).trans (List.suffix_cons _ _)
    · rw [e]; exact (ih t.length (by simp at h; omega) t rfl).trans (List.suffix_cons _ _)
    · rw [e]; exact (ih t.length (by simp at h; omega) t rfl).trans ((List.suffix_cons _ _).trans (List.suffix_cons _ _))
    · rw [e]; exact List.dropWhile_suffix _
    · rw [e]; exact List.suffix_refl _
theorem pre_any (S : ByteArray) (m : Bs) (he : S = nm m) (lit : ByteArray) (b : Bool) (hb : stands lit.data.toList m = b) : ∀ W, Calls Try.prog 27 #[.string S, .string lit] W fun e w' => e = .returned (.bool b) ∧ W = w' := by
  intro W
  subst he
  refine (Try.strings_HasPrefix (nm m) lit W).mono ?_
  rintro e w' ⟨rfl, rfl⟩
  exact ⟨ret_bool hb, rfl⟩
theorem ix_any (S : ByteArray) (m : Bs) (he : S = nm m) (n : Int) (hn : Lib.indexByte m 10 = n) : ∀ W, Calls Try.prog 28 #[.string S, .int .u8 10] W fun e w' => e = .returned (.int .i64 n) ∧ W = w' := by
  intro W
  subst he
  refine (index_any m 10 W).mono ?_
  rintro e w' ⟨rfl, rfl⟩
  exact ⟨ret_int hn, rfl⟩
theorem pl_suf {s : ByteArray} {m t : Bs} {p n : Nat} (hm : m <:+ s.data.toList) (hp : pl s m = p) (ht : m.drop n = t) (hn : n ≤ m.length) : pl s t = p + n := by
  have := suf_len hm
  subst ht
  unfold pl at hp ⊢
  rw [List.length_drop]; omega

set_option maxRecDepth 100000 in
set_option maxHeartbeats 1600000 in
theorem ahead_any (rb : Nat) (s : ByteArray) (l : Bs) (wi : Nat) (w : World) (h : RdS w rb s l wi) (hs : s.size ≤ 8192) :
    Calls Try.prog 21 #[.pointer (some ⟨rb, 0, none⟩)] w fun e w' => e = .returned (.int .i64 (pl s (aheadL l))) ∧ w = w' := by
  obtain ⟨A, hA⟩ : ∃ A, aheadL l = A := ⟨_, rfl⟩
  rw [hA]
  have r0 := h.c0
  have r1 := h.c1
  have hz := h.lt
  have HL := Lib.hid (And.intro h.suf hA)
  clear h hA
  go_enter Try.func21, Try.ntmps21
  go_wp2
  go_loopw [3] (fun a wr => w = wr ∧ ∃ m, a = .int .i64 (pl s m) ∧ Hid (m <:+ s.data.toList ∧ aheadL m = A)) (fun a _ => s.size - (intOf a).toNat)
  case atStart => exact ⟨rfl, l, rfl, HL⟩
  case round =>
    obtain ⟨rfl, m, rfl, HM⟩ := hrel
    clear HL
    have hsf := HM.out.1
    have ham := HM.out.2
    have hml := suf_len hsf
    obtain ⟨p, hp⟩ : ∃ p, pl s m = p := ⟨_, rfl⟩
    have hpm : p + m.length = s.size := by rw [← hp]; unfold pl; omega
    have hx : s.extract p s.size = nm m := ext_pl2 hsf hp.symm
    have hps : p ≤ s.size := by omega
    rw [hp]
    rcases ahead_cases m with ⟨b1, t, ht, e⟩ | ⟨b1, b2, t, ht, e⟩ | ⟨b1, b2, b3, t, ht, e⟩ | ⟨b1, b2, b3, b4, e⟩ | ⟨b1, b2, b3, b4, e⟩
    · have H1 := Lib.hid (pre_any _ m hx ⟨#[32]⟩ _ b1)
      have hpt := pl_suf (t := t) (n := 1) hsf hp (by rw [ht]; rfl) (by rw [ht]; simp)
      have HN := Lib.hid (And.intro (show t <:+ s.data.toList from (by rw [ht]; exact List.suffix_cons _ _ : t <:+ m).trans hsf) (e.symm.trans ham))
      have hlt : p < s.size := by rw [ht] at hpm; simp at hpm; omega
      have HP := Lib.hid hpt
      clear HM hsf ham hml hp hx b1 ht e hpt hpm
      go_wp2_with (go_at_call 27; refine (H1.out _).mono ?_; rintro e w' ⟨rfl, rfl⟩)
      go_roundw
      case rel => exact ⟨by first | trivial | rfl, t, by rw [HP.out]; go_num, HN⟩
      case measure => simp [intOf]; omega
    · have H1 := Lib.hid (pre_any _ m hx ⟨#[32]⟩ _ b1)
      have H2 := Lib.hid (pre_any _ m hx ⟨#[9]⟩ _ b2)
      have hpt := pl_suf (t := t) (n := 1) hsf hp (by rw [ht]; rfl) (by rw [ht]; simp)
      have HN := Lib.hid (And.intro (show t <:+ s.data.toList from (by rw [ht]; exact List.suffix_cons _ _ : t <:+ m).trans hsf) (e.symm.trans ham))
      have hlt : p < s.size := by rw [ht] at hpm; simp at hpm; omega
      have HP := Lib.hid hpt
      clear HM hsf ham hml hp hx b1 b2 ht e hpt hpm
      go_wp2_with (go_at_call 27; first | (refine (H1.out _).mono ?_; rintro e w' ⟨rfl, rfl⟩) | (refine (H2.out _).mono ?_; rintro e w' ⟨rfl, rfl⟩))
      go_roundw
      case rel => exact ⟨by first | trivial | rfl, t, by rw [HP.out]; go_num, HN⟩
      case measure => simp [intOf]; omega
    · have H1 := Lib.hid (pre_any _ m hx ⟨#[32]⟩ _ b1)
      have H2 := Lib.hid (pre_any _ m hx ⟨#[9]⟩ _ b2)
      have H3 := Lib.hid (pre_any _ m hx ⟨#[92, 10]⟩ _ b3)
      have hpt := pl_suf (t := t) (n := 2) hsf hp (by rw [ht]; rfl) (by rw [ht]; simp)
      have HN := Lib.hid (And.intro (show t <:+ s.data.toList from (by rw [ht]; exact (List.suffix_cons _ _).trans (List.suffix_cons _ _) : t <:+ m).trans hsf) (e.symm.trans ham))
      have hlt : p + 1 < s.size := by rw [ht] at hpm; simp at hpm; omega
      have HP := Lib.hid hpt
      clear HM hsf ham hml hp hx b1 b2 b3 ht e hpt hpm
      go_wp2_with (go_at_call 27; first | (refine (H1.out _).mono ?_; rintro e w' ⟨rfl, rfl⟩) | (refine (H2.out _).mono ?_; rintro e w' ⟨rfl, rfl⟩) | (refine (H3.out _).mono ?_; rintro e w' ⟨rfl, rfl⟩))
      go_roundw
      case rel => exact ⟨by first | trivial | rfl, t, by rw [HP.out]; go_num, HN⟩
      case measure => simp [intOf]; omega
    · have H1 := Lib.hid (pre_any _ m hx ⟨#[32]⟩ _ b1)
      have H2 := Lib.hid (pre_any _ m hx ⟨#[9]⟩ _ b2)
      have H3 := Lib.hid (pre_any _ m hx ⟨#[92, 10]⟩ _ b3)
      have H4 := Lib.hid (pre_any _ m hx ⟨#[35]⟩ _ b4)
      rw [ham] at e
      rcases drop_ix m with ⟨i1, i2⟩ | ⟨n, t, i1, i2, i3, i4⟩
      · have HI := Lib.hid (ix_any _ m hx _ i1)
        have HA : Hid (pl s A = s.size) := Lib.hid (by rw [e, i2]; exact pl_nil s)
        clear HM hsf ham hml hp hx b1 b2 b3 b4 e hpm i1 i2
        go_wp2_with (first | (go_at_call 27; first | (refine (H1.out _).mono ?_; rintro e w' ⟨rfl, rfl⟩) | (refine (H2.out _).mono ?_; rintro e w' ⟨rfl, rfl⟩) | (refine (H3.out _).mono ?_; rintro e w' ⟨rfl, rfl⟩) | (refine (H4.out _).mono ?_; rintro e w' ⟨rfl, rfl⟩)) | (go_at_call 28; refine (HI.out _).mono ?_; rintro e w' ⟨rfl, rfl⟩))
        go_ret
        exact ⟨by rw [HA.out]; rfl, rfl⟩
      · have HI := Lib.hid (ix_any _ m hx _ i1)
        have hpt := pl_suf (t := 10 :: t) (n := n) hsf hp i3 (by omega)
        have HN := Lib.hid (And.intro (show 10 :: t <:+ s.data.toList from (by rw [← i3]; exact List.drop_suffix _ _ : 10 :: t <:+ m).trans hsf) (by rw [ahead_nl, e, i4] : aheadL (10 :: t) = A))
        have hn0 : n ≠ 0 := by
          rintro rfl
          rw [List.drop_zero] at i3
          rw [i3, stands1] at b4
          cases b4
        have hlt : p + n < s.size := by omega
        have HP := Lib.hid hpt
        clear HM hsf ham hml hp hx b1 b2 b3 b4 e hpt hpm i1 i2 i3 i4
        go_wp2_with (first | (go_at_call 27; first | (refine (H1.out _).mono ?_; rintro e w' ⟨rfl, rfl⟩) | (refine (H2.out _).mono ?_; rintro e w' ⟨rfl, rfl⟩) | (refine (H3.out _).mono ?_; rintro e w' ⟨rfl, rfl⟩) | (refine (H4.out _).mono ?_; rintro e w' ⟨rfl, rfl⟩)) | (go_at_call 28; refine (HI.out _).mono ?_; rintro e w' ⟨rfl, rfl⟩))
        go_roundw
        case rel => exact ⟨by first | trivial | rfl, 10 :: t, by rw [HP.out]; go_num, HN⟩
        case measure => simp [intOf]; omega
    · have H1 := Lib.hid (pre_any _ m hx ⟨#[32]⟩ _ b1)
      have H2 := Lib.hid (pre_any _ m hx ⟨#[9]⟩ _ b2)
      have H3 := Lib.hid (pre_any _ m hx ⟨#[92, 10]⟩ _ b3)
      have H4 := Lib.hid (pre_any _ m hx ⟨#[35]⟩ _ b4)
      have HA : Hid (pl s A = p) := Lib.hid (by rw [← ham, e, hp])
      clear HM hsf ham hml hp hx b1 b2 b3 b4 e hpm
      go_wp2_with (go_at_call 27; first | (refine (H1.out _).mono ?_; rintro e w' ⟨rfl, rfl⟩) | (refine (H2.out _).mono ?_; rintro e w' ⟨rfl, rfl⟩) | (refine (H3.out _).mono ?_; rintro e w' ⟨rfl, rfl⟩) | (refine (H4.out _).mono ?_; rintro e w' ⟨rfl, rfl⟩))
      go_ret
      exact ⟨by rw [HA.out]; rfl, rfl⟩

end Go.Proofs.Ytgajbehlggikdaa.Sw
