/- DERIVED. Walks over the calls of a reader of scripts about signs, ends and levels. -/
import Derived.Test.YtgajbehlggikdaaSwReadQ
import Derived.Test.YtgajbehlggikdaaWdScan
import Derived.Test.YtgajbehlggikdaaWdTszQ
namespace Go.Proofs.Ytgajbehlggikdaa.Sw
open Go.RowKit
open PathM WdM SyM
open Go.Proofs.Ytgajbehlggikdaa.Wd
set_option linter.unusedVariables false

/-- A call answered, and the reader stands at a place, within levels. -/
def Did (rb : Nat) (s : ByteArray) (wi : Nat) (v : Value) (r : Bs) (w : World) (e : Ending) (w' : World) : Prop := e = .returned v ∧ Kept (· = rb) w w' ∧ RdS w' rb s r wi
theorem over_dec {s : ByteArray} {l : Bs} (h : l <:+ s.data.toList) : decide (pl s (aheadL l) = s.size) = overL l := by
  unfold overL
  rw [Bool.eq_iff_iff, decide_eq_true_iff, pl_eq_size ((ahead_suf l).trans h), List.isEmpty_iff]
theorem over_any (rb : Nat) (s : ByteArray) (l : Bs) (wi : Nat) (w : World) (h : RdS w rb s l wi) (hs : s.size ≤ 8192) :
    Calls Try.prog 17 #[.pointer (some ⟨rb, 0, none⟩)] w fun e w' => e = .returned (.bool (overL l)) ∧ ∃ k, w' = w.drewN k := by
  have HA := Lib.hid (fun W (hW : RdS W rb s l wi) => ahead_any rb s l wi W hW hs)
  have HE := Lib.hid ((eqn (pl s (aheadL l)) s.size).trans (over_dec h.suf))
  have HW : Hid (∀ k, RdS (w.drewN k) rb s l wi) := Lib.hid h.drewN
  generalize pl s (aheadL l) = p at *
  have r0 := h.c0
  have hz := h.lt
  clear h
  go_enter Try.func17, Try.ntmps17
  go_wp2_with fail
  go_quiet ((go_at_call 21; exact (HA.out _ (HW.out _)).mono fun _ _ ⟨he, hw⟩ => ⟨he, _, hw.symm⟩))
  go_wp2
  go_ret
  exact ⟨ret_bool HE.out, _, rfl⟩
theorem refuse_any (rb : Nat) (s : ByteArray) (l : Bs) (wi : Nat) (w : World) (h : RdS w rb s l wi) (hs : s.size ≤ 8192) :
    Calls Try.prog 19 #[.pointer (some ⟨rb, 0, none⟩)] w fun e w' => e = sflt (pl s (aheadL l)) (if aheadL l = [] then 62 else 61) ∧ w' = w := by
  have HA := Lib.hid (ahead_any rb s l wi w h hs)
  have he := pl_eq_size ((ahead_suf l).trans h.suf)
  have r0 := h.c0
  have hz := h.lt
  clear h
  by_cases h0 : aheadL l = []
  · have h1 : pl s (aheadL l) = s.size := he.2 h0
    rw [if_pos h0]
    rw [h1] at HA ⊢
    have e1 : ((s.size : Int) == (s.size : Int)) = true := by simp
    clear he h0 h1
    go_enter Try.func19, Try.ntmps19
    go_wp2_with (go_at_call 21; refine HA.out.mono ?_; rintro e w' ⟨rfl, rfl⟩)
    exact ⟨rfl, rfl, rfl⟩
  · have h1 : ¬ pl s (aheadL l) = s.size := fun e => h0 (he.1 e)
    rw [if_neg h0]
    generalize pl s (aheadL l) = p at *
    have e1 : ((p : Int) == (s.size : Int)) = false := by rw [beq_eq_false_iff_ne]; omega
    clear he h0 h1
    go_enter Try.func19, Try.ntmps19
    go_wp2_with (go_at_call 21; refine HA.out.mono ?_; rintro e w' ⟨rfl, rfl⟩)
    exact ⟨rfl, rfl, rfl⟩
theorem ws_cons {l t : Bs} {c : UInt8} (h : aheadL l = c :: t) : wordStands l = !meta_ c := by unfold wordStands; rw [h]
theorem ws_nil {l : Bs} (h : aheadL l = []) : wordStands l = false := by unfold wordStands; rw [h]
theorem at_pl {s : ByteArray} {c : UInt8} {t : Bs} {p : Nat} (h : c :: t <:+ s.data.toList) (hp : pl s (c :: t) = p) : ∃ h : p < s.size, s[p] = c := by
  have hlt : p < s.size := by have := suf_len h; rw [← hp]; unfold pl; simp at this ⊢; omega
  have h1 := Wd.get_at s p hlt
  have h2 : s.data.toList.drop p = c :: t := by rw [← hp]; exact pl_drop h
  rw [h2] at h1
  exact ⟨hlt, (List.cons.inj h1).1.symm⟩
theorem wordStands_any (rb : Nat) (s : ByteArray) (l : Bs) (wi : Nat) (w : World) (h : RdS w rb s l wi) (hs : s.size ≤ 8192) :
    Calls Try.prog 63 #[.pointer (some ⟨rb, 0, none⟩)] w fun e w' => e = .returned (.bool (wordStands l)) ∧ ∃ k, w' = w.drewN k := by
  have HA := Lib.hid (ahead_any rb s l wi w h hs)
  have hsf := (ahead_suf l).trans h.suf
  have r0 := h.c0
  have hz := h.lt
  clear h
  cases ha : aheadL l with
  | nil =>
    rw [ws_nil ha]
    rw [ha, pl_nil] at HA
    have hl : ¬ (s.size : Int) < (s.size : Int) := by omega
    clear ha hsf
    go_enter Try.func63, Try.ntmps63
    go_wp2_with (go_at_call 21; refine HA.out.mono ?_; rintro e w' ⟨rfl, rfl⟩)
    go_ret
    exact ⟨rfl, 0, rfl⟩
  | cons c t =>
    rw [ws_cons ha]
    rw [ha] at HA hsf
    obtain ⟨p, hp⟩ : ∃ p, pl s (c :: t) = p := ⟨_, rfl⟩
    obtain ⟨hlt, hc⟩ := at_pl hsf hp
    rw [hp] at HA
    have hM := fun W => meta_any s[p] W
    have hmc : meta_ s[p] = meta_ c := by rw [hc]
    simp only [hmc] at hM
    have HM := Lib.hid hM
    have hli : (p : Int) < (s.size : Int) := by omega
    clear ha hsf hp hc hmc hM
    go_enter Try.func63, Try.ntmps63
    go_wp2_with (first | (go_at_call 21; refine HA.out.mono ?_; rintro e w' ⟨rfl, rfl⟩) | (go_at_call 36; refine (HM.out _).mono ?_; rintro e w' ⟨rfl, rfl⟩))
    go_ret
    exact ⟨rfl, 0, rfl⟩
theorem enter_any (rb : Nat) (s : ByteArray) (l : Bs) (wi : Nat) (n : Int) (w : World) (h : RdS w rb s l wi) (hw : wi ≤ 16) :
    Calls Try.prog 22 #[.pointer (some ⟨rb, 0, none⟩), .int .i64 n] w (Did rb s (wi + 1) (.tuple #[]) l w) := by
  have HW := Lib.hid h
  have r2 := h.c2
  have f2 := h.fz 2
  have hz := h.lt
  clear h
  go_enter Try.func22, Try.ntmps22
  go_wp2
  refine bodyPost_ret (results_none rfl _ _ _) rfl ?_
  exact ⟨rfl, Kept.setCell _ _ rfl, HW.out.lev (wi + 1) (by omega)⟩
theorem enter_deep (rb : Nat) (s : ByteArray) (l : Bs) (wi : Nat) (n : Nat) (w : World) (h : RdS w rb s l wi) (hw : 16 < wi) :
    Calls Try.prog 22 #[.pointer (some ⟨rb, 0, none⟩), .int .i64 n] w fun e w' => e = sflt n 63 ∧ w' = w := by
  have r2 := h.c2
  have hz := h.lt
  clear h
  go_enter Try.func22, Try.ntmps22
  go_wp2
  exact ⟨rfl, rfl, rfl⟩
theorem leave_any (rb : Nat) (s : ByteArray) (l : Bs) (wi : Nat) (w : World) (h : RdS w rb s l (wi + 1)) (hw : wi ≤ 100) :
    Calls Try.prog 25 #[.pointer (some ⟨rb, 0, none⟩)] w (Did rb s wi (.tuple #[]) l w) := by
  have HW := Lib.hid h
  have r2 := h.c2
  have f2 := h.fz 2
  have hz := h.lt
  rw [Int.natCast_add] at r2
  clear h
  go_enter Try.func25, Try.ntmps25
  go_wp2
  refine bodyPost_ret (results_none rfl _ _ _) rfl ?_
  exact ⟨rfl, Kept.setCell _ _ rfl, HW.out.lev wi (by simp)⟩
theorem ending_eq (k : Bs) : endingL k = (k == [116, 104, 101, 110] || k == [101, 108, 115, 101] || k == [101, 108, 105, 102] || k == [102, 105] || k == [100, 111] || k == [100, 111, 110, 101] || k == [101, 115, 97, 99] || k == [125]) := by
  unfold endingL
  rw [Bool.eq_iff_iff]
  simp [or_assoc]
theorem ending_any (k : ByteArray) (w : World) :
    Calls Try.prog 29 #[.string k] w fun e w' => e = .returned (.bool (endingL k.data.toList)) ∧ w = w' := by
  have hk := listD k
  rw [ending_eq]
  generalize k.data.toList = L at *
  subst hk
  have t1 : (⟨#[116, 104, 101, 110]⟩ : ByteArray).toList = [116, 104, 101, 110] := listD _
  have t2 : (⟨#[101, 108, 115, 101]⟩ : ByteArray).toList = [101, 108, 115, 101] := listD _
  have t3 : (⟨#[101, 108, 105, 102]⟩ : ByteArray).toList = [101, 108, 105, 102] := listD _
  have t4 : (⟨#[102, 105]⟩ : ByteArray).toList = [102, 105] := listD _
  have t5 : (⟨#[100, 111]⟩ : ByteArray).toList = [100, 111] := listD _
  have t6 : (⟨#[100, 111, 110, 101]⟩ : ByteArray).toList = [100, 111, 110, 101] := listD _
  have t7 : (⟨#[101, 115, 97, 99]⟩ : ByteArray).toList = [101, 115, 97, 99] := listD _
  have t8 : (⟨#[125]⟩ : ByteArray).toList = [125] := listD _
  cases b1 : (k.toList == [116, 104, 101, 110])
  · cases b2 : (k.toList == [101, 108, 115, 101])
    · cases b3 : (k.toList == [101, 108, 105, 102])
      · cases b4 : (k.toList == [102, 105])
        · cases b5 : (k.toList == [100, 111])
          · cases b6 : (k.toList == [100, 111, 110, 101])
            · cases b7 : (k.toList == [101, 115, 97, 99])
              · cases b8 : (k.toList == [125])
                all_goals
                  go_enter Try.func29, Try.ntmps29
                  go_wp2
                  go_ret
                  exact ⟨rfl, rfl⟩
              all_goals
                go_enter Try.func29, Try.ntmps29
                go_wp2
                go_ret
                exact ⟨rfl, rfl⟩
            all_goals
              go_enter Try.func29, Try.ntmps29
              go_wp2
              go_ret
              exact ⟨rfl, rfl⟩
          all_goals
            go_enter Try.func29, Try.ntmps29
            go_wp2
            go_ret
            exact ⟨rfl, rfl⟩
        all_goals
          go_enter Try.func29, Try.ntmps29
          go_wp2
          go_ret
          exact ⟨rfl, rfl⟩
      all_goals
        go_enter Try.func29, Try.ntmps29
        go_wp2
        go_ret
        exact ⟨rfl, rfl⟩
    all_goals
      go_enter Try.func29, Try.ntmps29
      go_wp2
      go_ret
      exact ⟨rfl, rfl⟩
  all_goals
    go_enter Try.func29, Try.ntmps29
    go_wp2
    go_ret
    exact ⟨rfl, rfl⟩

def signAt (k : Nat) : Bs := signsL.getD k []
theorem sign_index (k : Nat) (hk : k < 14) (W : World) : (Instr.index 78 (.agg #[.string ⟨#[38, 38]⟩, .string ⟨#[124, 124]⟩, .string ⟨#[59, 59]⟩, .string ⟨#[62, 62]⟩, .string ⟨#[60, 38]⟩, .string ⟨#[62, 38]⟩, .string ⟨#[10]⟩, .string ⟨#[38]⟩, .string ⟨#[124]⟩, .string ⟨#[59]⟩, .string ⟨#[60]⟩, .string ⟨#[62]⟩, .string ⟨#[40]⟩, .string ⟨#[41]⟩]) (.int .i64 (k : Int))).run Try.prog W = .ok (.string (nm (signAt k))) W := by
  rcases k with _ | _ | _ | _ | _ | _ | _ | _ | _ | _ | _ | _ | _ | _ | k
  all_goals first | omega | kernel_rfl
theorem sign_drop (k : Nat) (hk : k < 14) : signsL.drop k = signAt k :: signsL.drop (k + 1) := by
  rcases k with _ | _ | _ | _ | _ | _ | _ | _ | _ | _ | _ | _ | _ | _ | k
  all_goals first | omega | rfl
theorem sign_nil : signOf [] = [] := rfl
theorem sign_word (c : UInt8) (t : Bs) (h : meta_ c = false) : signOf (c :: t) = [] := by
  have h1 : ∀ a b : Bs, stands a b = true → a = [] ∨ ∃ x y z, a = x :: y ∧ b = x :: z := by
    intro a b hab
    cases a with
    | nil => exact .inl rfl
    | cons x y =>
      cases b with
      | nil => cases hab
      | cons z q =>
        have : (x == z && stands y q) = true := hab
        simp at this
        exact .inr ⟨x, y, q, rfl, by rw [this.1]⟩
  have h2 : signsL.find? (fun o => stands o (c :: t)) = none := by
    rw [List.find?_eq_none]
    intro o ho hst
    rcases h1 _ _ hst with rfl | ⟨x, y, z, rfl, e⟩
    · simp [signsL] at ho
    · injection e with e1 _
      subst e1
      revert h
      simp [signsL] at ho
      rcases ho with h | h | h | h | h | h | h | h | h | h | h | h | h | h
      all_goals (obtain ⟨rfl, _⟩ := h; decide)
  unfold signOf
  rw [h2]; rfl
set_option maxRecDepth 100000 in
set_option maxHeartbeats 1600000 in
theorem signAt_any (rb : Nat) (s : ByteArray) (l : Bs) (q : Bs) (wi : Nat) (w : World) (h : RdS w rb s q wi) (hl : l <:+ s.data.toList) (hs : s.size ≤ 8192) :
    Calls Try.prog 31 #[.pointer (some ⟨rb, 0, none⟩), .int .i64 (pl s l)] w fun e w' => e = .returned (.string (nm (signOf l))) ∧ w = w' := by
  have r0 := h.c0
  have hz := h.lt
  clear h
  cases l with
  | nil =>
    rw [sign_nil, pl_nil]
    have e1 : ((s.size : Int) == (s.size : Int)) = true := by simp
    go_enter Try.func31, Try.ntmps31
    go_wp2
    go_ret
    exact ⟨rfl, rfl⟩
  | cons c t =>
    obtain ⟨p, hp⟩ : ∃ p, pl s (c :: t) = p := ⟨_, rfl⟩
    obtain ⟨hlt, hc⟩ := at_pl hl hp
    have hx : s.extract p s.size = nm (c :: t) := ext_pl2 hl hp.symm
    rw [hp]
    have hM := fun W => meta_any s[p] W
    have hmc : meta_ s[p] = meta_ c := by rw [hc]
    simp only [hmc] at hM
    have HM := Lib.hid hM
    clear hM hmc
    have e1 : ((p : Int) == (s.size : Int)) = false := by rw [beq_eq_false_iff_ne]; omega
    cases hm : meta_ c with
    | false =>
      rw [sign_word c t hm]
      rw [hm] at HM
      clear hm hc hp hl hx
      go_enter Try.func31, Try.ntmps31
      go_wp2_with (go_at_call 36; refine (HM.out _).mono ?_; rintro e w' ⟨rfl, rfl⟩)
      go_ret
      exact ⟨rfl, rfl⟩
    | true =>
      rw [hm] at HM
      obtain ⟨o, ho⟩ : ∃ o, (signsL.find? fun o => stands o (c :: t)) = o := ⟨_, rfl⟩
      have hso : signOf (c :: t) = o.getD [] := by unfold signOf; rw [ho]
      rw [hso]
      have HO := Lib.hid ho
      have HX := Lib.hid (fun k b (hb : stands (signAt k) (c :: t) = b) => pre_any (s.extract p s.size) (c :: t) hx (nm (signAt k)) b hb)
      clear hm hc hp hl hx ho hso
      go_enter Try.func31, Try.ntmps31
      go_wp2_with (go_at_call 36; refine (HM.out _).mono ?_; rintro e w' ⟨rfl, rfl⟩)
      go_loopw [25] (fun n wr => w = wr ∧ ∃ k : Nat, n = .int .i64 k ∧ k ≤ 14 ∧ Hid (((signsL.drop k).find? fun o => stands o (c :: t)) = o)) (fun n _ => 14 - (intOf n).toNat)
      case atStart => exact ⟨by first | trivial | rfl, 0, rfl, by omega, HO⟩
      case round =>
        obtain ⟨rfl, k, rfl, hk, HF⟩ := hrel
        by_cases hkl : k < 14
        · have hki : (k : Int) < 14 := by omega
          have hf := HF.out
          rw [sign_drop k hkl, List.find?_cons] at hf
          have hix := sign_index k hkl
          cases hst : stands (signAt k) (c :: t) with
          | true =>
            have HPK := Lib.hid (HX.out k true hst)
            rw [hst] at hf
            dsimp only at hf
            have HFF := Lib.hid hf
            generalize signAt k = x at *
            clear hf hst HF HO HM
            go_wp2_with (go_at_call 27; refine (HPK.out _).mono ?_; rintro e w' ⟨rfl, rfl⟩)
            go_ret
            rw [← HFF.out]
            exact ⟨rfl, rfl⟩
          | false =>
            have HPK := Lib.hid (HX.out k false hst)
            rw [hst] at hf
            dsimp only at hf
            have HFF := Lib.hid hf
            generalize signAt k = x at *
            clear hf hst HF HO HM
            go_wp2_with (go_at_call 27; refine (HPK.out _).mono ?_; rintro e w' ⟨rfl, rfl⟩)
            go_roundw
            case rel => exact ⟨by first | trivial | rfl, k + 1, by go_num, by omega, HFF⟩
            case measure => simp [intOf]; omega
        · obtain rfl : k = 14 := by omega
          have HFF : Hid (o = none) := Lib.hid HF.out.symm
          clear HF hk hkl HO HM HX
          go_wp2
          go_ret
          rw [HFF.out]
          exact ⟨rfl, rfl⟩

end Go.Proofs.Ytgajbehlggikdaa.Sw

/- DERIVED. Walks over the calls of a reader of scripts that pass over what stands next. -/
namespace Go.Proofs.Ytgajbehlggikdaa.Sw
open Go.RowKit
open PathM WdM SyM
open Go.Proofs.Ytgajbehlggikdaa.Wd
set_option linter.unusedVariables false

theorem emp_no {b : ByteArray} (h : b.data.toList ≠ []) : b.toList.isEmpty = false ∧ ¬ b.toList = [] := by
  rw [listD]
  exact ⟨List.isEmpty_eq_false_iff.2 h, h⟩
theorem emp_yes {b : ByteArray} (h : b.data.toList = []) : b.toList = [] := by rw [listD]; exact h
theorem stands_len2 {a l : Bs} (h : stands a l = true) : a.length ≤ l.length := (List.isPrefixOf_iff_prefix.1 h).length_le
theorem sign_len (l : Bs) : (signOf l).length ≤ l.length := by
  unfold signOf
  cases h : signsL.find? (fun o => stands o l) with
  | none => simp
  | some o => exact stands_len2 (List.find?_some (p := fun o => stands o l) h)
theorem sign_max (l : Bs) : (signOf l).length ≤ 2 := by
  unfold signOf
  cases h : signsL.find? (fun o => stands o l) with
  | none => simp
  | some o =>
    have := List.mem_of_find?_eq_some h
    simp [signsL] at this
    rcases this with h | h | h | h | h | h | h | h | h | h | h | h | h | h <;> (rw [h]; decide)
/-- What stands next, told: and what is left behind it is of the text. -/
def NextPost (s : ByteArray) (l : Bs) (w : World) (e : Ending) (w' : World) : Prop :=
  e = .returned (.tuple #[.string (nm (nextL l).1), .int .i64 (pl s (nextL l).2)]) ∧ Below w.heap.size w w' ∧ (nextL l).2 <:+ s.data.toList ∧ (nextL l).1.length ≤ 281474976710656
theorem next_sign {l : Bs} (h : signOf (aheadL l) ≠ []) : nextL l = (signOf (aheadL l), (aheadL l).drop (signOf (aheadL l)).length) := by unfold nextL; rw [if_pos h]
theorem next_bad {l : Bs} {a : Nat} {e : Int} (h : ¬ signOf (aheadL l) ≠ []) (h2 : scan (aheadL l) = .bad a e) : nextL l = ([], aheadL l) := by unfold nextL; rw [if_neg h, h2]
theorem next_key {l r t : Bs} {w : List PT} (h : ¬ signOf (aheadL l) ≠ []) (h2 : scan (aheadL l) = .ok w r) (h3 : SyM.keyOf w = some t) : nextL l = (t, r) := by unfold nextL; rw [if_neg h, h2]; simp only [h3]
theorem next_none {l r : Bs} {w : List PT} (h : ¬ signOf (aheadL l) ≠ []) (h2 : scan (aheadL l) = .ok w r) (h3 : SyM.keyOf w = none) : nextL l = ([], aheadL l) := by unfold nextL; rw [if_neg h, h2]; simp only [h3]
theorem pnew_one {d z : Nat} {W : World} {v : Value} {p : PT} {rest : List PT} (h : PNew (d + 1) z W v (p :: rest)) : ∃ b off c v5, v = .slice (some ⟨b, off, none⟩) (rest.length + 1) c ∧ b < W.heap.size ∧
    W.cell? ⟨b, off, none⟩ = some (.int .i64 p.kind) ∧ W.cell? ⟨b, off + 1, none⟩ = some (.bool p.quoted) ∧ W.cell? ⟨b, off + 2, none⟩ = some (.string (nm p.text)) ∧ W.cell? ⟨b, off + 3, none⟩ = some (.string (nm p.op)) ∧ W.cell? ⟨b, off + 4, none⟩ = some v5 ∧ PNew d z W v5 p.word ∧ z ≤ b := by
  obtain ⟨A, c, ps, hv, hl, _, h⟩ := h
  obtain ⟨b, off, hA, hb, hc⟩ := h (by simp)
  have hp : 0 < ps.length := by have := congrArg List.length hl; simp at this; omega
  have h0 := hc 0 hp
  have e0 : (ptAt ps 0).1 = p := by
    cases ps with
    | nil => simp at hp
    | cons x ps => rw [List.map_cons] at hl; exact (List.cons.inj hl).1.symm
  rw [e0] at h0
  simp only [Nat.zero_mul, Nat.add_zero] at h0
  subst hA
  exact ⟨b, off, c, _, by rw [hv]; rfl, World.block_lt_of_cell? _ _ h0.1, h0.1, h0.2.1, h0.2.2.1, h0.2.2.2.1, h0.2.2.2.2.1, h0.2.2.2.2.2, hb.1⟩
theorem pnew_len {d z : Nat} {W : World} {v : Value} {l : List PT} (h : PNew d z W v l) : ∃ A c, v = .slice A l.length c := by
  cases d with
  | zero => obtain ⟨rfl, A, c, rfl⟩ := h; exact ⟨A, c, rfl⟩
  | succ d => obtain ⟨A, c, ps, hv, _⟩ := h; exact ⟨A, c, hv⟩
theorem scan_bad_call (s : ByteArray) (A : Bs) (p : Nat) (w : World) (hA : s.data.toList.drop p = A) (hp : p ≤ s.size) (hs : s.size ≤ 8192) {a : Nat} {er : Int} (h : scan A = .bad a er) :
    Calls Try.prog 32 #[.string s, .int .i64 p] w fun e W => ∃ v, e = .returned (.tuple #[v, .int .i64 ((s.size - a : Nat) : Int), .int .i64 er]) ∧ Below w.heap.size w W := by
  refine (scan_any s p w hp hs).mono ?_
  rintro e W ⟨hb, v, l, n, er2, rfl, hv, h1, h2, h3⟩
  rw [hA, h] at h3
  rcases h3 with ⟨_, h3, _⟩ | ⟨h3, _⟩
  · cases h3
  · injection h3 with h4 h5
    subst h4
    subst h5
    exact ⟨v, by rw [show s.size - (s.size - n) = n from by omega], hb⟩
theorem scan_ok_call (s : ByteArray) (A : Bs) (p : Nat) (w : World) (hA : s.data.toList.drop p = A) (hp : p ≤ s.size) (hs : s.size ≤ 8192) {ww : List PT} {r : Bs} (h : scan A = .ok ww r) :
    Calls Try.prog 32 #[.string s, .int .i64 p] w fun e W => ∃ v, e = .returned (.tuple #[v, .int .i64 (pl s r : Nat), .int .i64 0]) ∧ Below w.heap.size w W ∧ PNew 17 w.heap.size W v ww ∧ r <:+ s.data.toList := by
  refine (scan_any s p w hp hs).mono ?_
  rintro e W ⟨hb, v, l, n, er2, rfl, hv, h1, h2, h3⟩
  rw [hA, h] at h3
  rcases h3 with ⟨h0, h3, _⟩ | ⟨h3, _⟩
  · injection h3 with h4 h5
    subst h4
    subst h0
    subst h5
    exact ⟨v, by rw [pl_of rfl h2], hb, hv, suf_drop _ _⟩
  · cases h3
set_option maxRecDepth 100000 in
set_option maxHeartbeats 3200000 in
theorem next_any (rb : Nat) (s : ByteArray) (l : Bs) (wi : Nat) (w : World) (h : RdS w rb s l wi) (hs : s.size ≤ 8192) :
    Calls Try.prog 26 #[.pointer (some ⟨rb, 0, none⟩)] w (NextPost s l w) := by
  have hsf := (ahead_suf l).trans h.suf
  have HA := Lib.hid (ahead_any rb s l wi w h hs)
  have HS := Lib.hid (signAt_any rb s (aheadL l) l wi w h hsf hs)
  obtain ⟨A, hA⟩ : ∃ A, aheadL l = A := ⟨_, rfl⟩
  obtain ⟨p, hp⟩ : ∃ p, pl s A = p := ⟨_, rfl⟩
  obtain ⟨g, hg⟩ : ∃ g, signOf A = g := ⟨_, rfl⟩
  have hps : p ≤ s.size := hp ▸ pl_le s A
  rw [hA] at HA HS hsf
  rw [hp] at HA HS
  rw [hg] at HS
  have hgl : g.length ≤ 2 := hg ▸ sign_max A
  have r0 := h.c0
  have hz := h.lt
  clear h
  by_cases h0 : g ≠ []
  · have hn := next_sign (l := l) (by rw [hA, hg]; exact h0)
    rw [hA, hg] at hn
    have hle : g.length ≤ A.length := hg ▸ sign_len A
    have hpt := pl_suf (t := A.drop g.length) (n := g.length) hsf hp rfl hle
    obtain ⟨e1, e3⟩ := emp_no (b := nm g) (by rw [nm_data]; exact h0)
    have e2 : (nm g).size = g.length := nm_size g
    have HF : Hid (NextPost s l w (.returned (.tuple #[.string (nm g), .int .i64 ((p + g.length : Nat) : Int)])) w) := Lib.hid (by
      unfold NextPost
      rw [hn, hpt]
      exact ⟨rfl, Below.refl _ _, (List.drop_suffix _ _).trans hsf, by show g.length ≤ _; omega⟩)
    generalize nm g = G at *
    generalize g.length = n at *
    clear hn hpt hle hA hp hg hsf h0
    go_enter Try.func26, Try.ntmps26
    go_wp2_with (first | (go_at_call 21; refine HA.out.mono ?_; rintro e w' ⟨rfl, rfl⟩) | (go_at_call 31; refine HS.out.mono ?_; rintro e w' ⟨rfl, rfl⟩))
    go_ret2
    have := HF.out
    rw [Int.natCast_add] at this
    exact this
  · have h00 : g = [] := by simpa using h0
    have hpa : s.data.toList.drop p = A := by rw [← hp]; exact pl_drop hsf
    have h0' : ¬ signOf (aheadL l) ≠ [] := by rw [hA, hg]; exact h0
    subst h00
    have e1 := emp_yes (b := nm []) rfl
    cases hsc : scan A with
    | bad a er =>
      have HSC := Lib.hid (scan_bad_call s A p w hpa hps hs hsc)
      have her := scan_err hsc
      have hn := next_bad h0' (by rw [hA]; exact hsc)
      have HF : Hid (∀ W, Below w.heap.size w W → NextPost s l w (.returned (.tuple #[.string ⟨#[]⟩, .int .i64 (p : Nat)])) W) := Lib.hid (fun W h2 => by
        unfold NextPost
        rw [hn, hA, hp]
        exact ⟨rfl, h2, hsf, by simp⟩)
      clear hpa h0' h0 hA hp hg hsf hgl hsc hn
      go_enter Try.func26, Try.ntmps26
      go_wp2_with (first | (go_at_call 21; refine HA.out.mono ?_; rintro e w' ⟨rfl, rfl⟩) | (go_at_call 31; refine HS.out.mono ?_; rintro e w' ⟨rfl, rfl⟩) | (go_at_call 32; refine HSC.out.mono ?_; rintro e W ⟨v, rfl, hb⟩))
      go_ret2
      exact HF.out _ hb
    | ok ww r =>
      have HSC := Lib.hid (scan_ok_call s A p w hpa hps hs hsc)
      have htx := WdT.scan_texts hsc
      have hal := suf_len hsf
      have hnn := fun h3 => next_none (l := l) h0' (by rw [hA]; exact hsc) h3
      have hnk := fun t h3 => next_key (l := l) (t := t) h0' (by rw [hA]; exact hsc) h3
      have HFN : Hid (SyM.keyOf ww = none → ∀ W, Below w.heap.size w W → NextPost s l w (.returned (.tuple #[.string ⟨#[]⟩, .int .i64 (p : Nat)])) W) := Lib.hid (fun h3 W h2 => by
        unfold NextPost
        rw [hnn h3, hA, hp]
        exact ⟨rfl, h2, hsf, by simp⟩)
      have HFK : Hid (∀ t, SyM.keyOf ww = some t → t.length ≤ WdT.tsz ww → r <:+ s.data.toList → ∀ W, Below w.heap.size w W → NextPost s l w (.returned (.tuple #[.string (nm t), .int .i64 (pl s r : Nat)])) W) := Lib.hid (fun t h3 h4 h5 W h2 => by
        unfold NextPost
        rw [hnk t h3]
        exact ⟨rfl, h2, h5, by show t.length ≤ _; omega⟩)
      clear hpa h0' h0 hA hp hg hsf hgl hsc hnn hnk htx hal
      cases ww with
      | nil =>
        go_enter Try.func26, Try.ntmps26
        go_wp2_with (first | (go_at_call 21; refine HA.out.mono ?_; rintro e w' ⟨rfl, rfl⟩) | (go_at_call 31; refine HS.out.mono ?_; rintro e w' ⟨rfl, rfl⟩) | (go_at_call 32; refine HSC.out.mono ?_; rintro e W ⟨v, rfl, hb, hv, hr⟩; obtain ⟨vA, vc, rfl⟩ := pnew_len hv))
        go_ret2
        exact HFN.out rfl _ hb
      | cons q ww =>
        cases ww with
        | cons q2 ww =>
          have hl2 : ((q :: q2 :: ww).length : Int) ≠ 1 := by simp; omega
          have hl3 : (((q :: q2 :: ww).length : Int) == 1) = false := by rw [beq_eq_false_iff_ne]; exact hl2
          obtain ⟨n, hn⟩ : ∃ n, (q :: q2 :: ww).length = n := ⟨_, rfl⟩
          rw [hn] at hl2 hl3
          have HNN := Lib.hid hn
          clear hn
          go_enter Try.func26, Try.ntmps26
          go_wp2_with (first | (go_at_call 21; refine HA.out.mono ?_; rintro e w' ⟨rfl, rfl⟩) | (go_at_call 31; refine HS.out.mono ?_; rintro e w' ⟨rfl, rfl⟩) | (go_at_call 32; refine HSC.out.mono ?_; rintro e W ⟨v, rfl, hb, hv, hr⟩; obtain ⟨vA, vc, rfl⟩ := pnew_len hv; rw [HNN.out]))
          go_ret2
          exact HFN.out (by cases q; rfl) _ hb
        | nil =>
          obtain ⟨k, qu, tx, op, wd⟩ := q
          by_cases hk : k = 1 ∧ qu = false
          · obtain ⟨rfl, rfl⟩ := hk
            go_enter Try.func26, Try.ntmps26
            go_wp2_with (first | (go_at_call 21; refine HA.out.mono ?_; rintro e w' ⟨rfl, rfl⟩) | (go_at_call 31; refine HS.out.mono ?_; rintro e w' ⟨rfl, rfl⟩) | (go_at_call 32; refine HSC.out.mono ?_; rintro e W ⟨v, rfl, hb, hv, hr⟩; obtain ⟨b, off, c, v5, rfl, hbl, q1, q2, q3, q4, q5, q6, q7⟩ := pnew_one hv; dsimp only [PT.kind, PT.quoted, PT.text, PT.op, List.length_nil] at q1 q2 q3 q4 ⊢))
            go_ret2
            exact HFK.out tx (by rfl) (by rw [WdT.tsz_cons]; show tx.length ≤ tx.length + _ + _; omega) hr _ hb
          · have hno : SyM.keyOf [.mk k qu tx op wd] = none := by unfold SyM.keyOf; simp only; rw [if_neg hk]
            by_cases hk1 : k = 1
            · have hq : qu = true := by cases qu with | true => rfl | false => exact absurd ⟨hk1, rfl⟩ hk
              subst hk1
              subst hq
              go_enter Try.func26, Try.ntmps26
              go_wp2_with (first | (go_at_call 21; refine HA.out.mono ?_; rintro e w' ⟨rfl, rfl⟩) | (go_at_call 31; refine HS.out.mono ?_; rintro e w' ⟨rfl, rfl⟩) | (go_at_call 32; refine HSC.out.mono ?_; rintro e W ⟨v, rfl, hb, hv, hr⟩; obtain ⟨b, off, c, v5, rfl, hbl, q1, q2, q3, q4, q5, q6, q7⟩ := pnew_one hv; dsimp only [PT.kind, PT.quoted, PT.text, PT.op, List.length_nil] at q1 q2 q3 q4 ⊢))
              go_ret2
              exact HFN.out hno _ hb
            · have hkb : (k == 1) = false := by rw [beq_eq_false_iff_ne]; exact hk1
              go_enter Try.func26, Try.ntmps26
              go_wp2_with (first | (go_at_call 21; refine HA.out.mono ?_; rintro e w' ⟨rfl, rfl⟩) | (go_at_call 31; refine HS.out.mono ?_; rintro e w' ⟨rfl, rfl⟩) | (go_at_call 32; refine HSC.out.mono ?_; rintro e W ⟨v, rfl, hb, hv, hr⟩; obtain ⟨b, off, c, v5, rfl, hbl, q1, q2, q3, q4, q5, q6, q7⟩ := pnew_one hv; dsimp only [PT.kind, PT.quoted, PT.text, PT.op, List.length_nil] at q1 q2 q3 q4 ⊢))
              go_ret2
              exact HFN.out hno _ hb

end Go.Proofs.Ytgajbehlggikdaa.Sw

/- DERIVED. Walks over the calls of a reader of scripts that pass over what stands next. -/
namespace Go.Proofs.Ytgajbehlggikdaa.Sw
open Go.RowKit
open PathM WdM SyM
open Go.Proofs.Ytgajbehlggikdaa.Wd
set_option linter.unusedVariables false

theorem below_dn {B : Nat} {a w : World} (h : Below B a w) (n : Nat) : Below B a (w.drewN n) := ⟨h.os, h.tape, h.output, h.size, h.block⟩
theorem str_dec (a b : Bs) : ((nm a).toList == (nm b).toList) = decide (a = b) := by
  rw [listD, listD, nm_data, nm_data]
  rw [Bool.eq_iff_iff]; simp
theorem str_yes (a : Bs) : ((nm a).toList == (nm a).toList) = true := by simp
theorem str_no {a b : Bs} (h : a ≠ b) : ((nm a).toList == (nm b).toList) = false ∧ ¬ (nm a).toList = (nm b).toList := by
  have := str_dec a b
  rw [decide_eq_false h] at this
  refine ⟨this, fun e => ?_⟩
  rw [e] at this
  simp at this
theorem pass_yes {what l : Bs} (h : (nextL l).1 = what) : passL what l = some (nextL l).2 := by unfold passL; rw [if_pos h]
theorem pass_no {what l : Bs} (h : ¬ (nextL l).1 = what) : passL what l = none := by unfold passL; rw [if_neg h]
set_option maxHeartbeats 800000 in
theorem pass_any (rb : Nat) (s : ByteArray) (l : Bs) (wi : Nat) (what : Bs) (w : World) (h : RdS w rb s l wi) (hs : s.size ≤ 8192) :
    Calls Try.prog 20 #[.pointer (some ⟨rb, 0, none⟩), .string (nm what)] w (Did rb s wi (.bool (passL what l).isSome) ((passL what l).getD l) w) := by
  have hn := next_any rb s l wi w h hs
  unfold NextPost at hn
  by_cases hw : (nextL l).1 = what
  · rw [pass_yes hw]
    rw [hw] at hn
    have q1 := str_yes what
    generalize (nextL l).2 = r at *
    generalize nm what = wb at *
    have HN := Lib.hid hn
    have HW := Lib.hid h
    have r1 := h.c1
    have f1 := h.fz 1
    have hz := h.lt
    clear hn h hw
    go_enter Try.func20, Try.ntmps20
    go_wp2_with (go_at_call 26; refine HN.out.mono ?_; rintro e W ⟨rfl, hb, hr, _⟩; have hz2 := (HW.out.told hb).lt; have s1 := (HW.out.told hb).c1; have g1 := (HW.out.told hb).fz 1)
    go_ret
    exact ⟨rfl, (kept_told hb).trans (Kept.setCell _ _ rfl), (HW.out.told hb).at_ hr rfl⟩
  · rw [pass_no hw]
    obtain ⟨q1, q2⟩ := str_no hw
    generalize (nextL l).2 = r at *
    generalize (nextL l).1 = k at *
    have hkb : ∃ kb, nm k = kb := ⟨_, rfl⟩
    obtain ⟨kb, hkb⟩ := hkb
    rw [hkb] at hn q1 q2
    generalize nm what = wb at *
    have HN := Lib.hid hn
    have HW := Lib.hid h
    have hz := h.lt
    clear hn h hw hkb
    go_enter Try.func20, Try.ntmps20
    go_wp2_with (go_at_call 26; refine HN.out.mono ?_; rintro e W ⟨rfl, hb, hr, _⟩)
    go_ret
    exact ⟨rfl, kept_told hb, HW.out.told hb⟩
/-- What refusing comes to, whatever was asked for. -/
theorem reads_refuse {α : Type} {rb : Nat} {s : ByteArray} {wi : Nat} {l : Bs} {V : World → (Nat → Prop) → Value → α → Prop} {w w' : World} {e : Ending} (hk : Kept (· = rb) w w') (he : e = sflt (pl s (aheadL l)) (if aheadL l = [] then 62 else 61)) : Reads rb s wi (refuse l : Rs α) V w e w' := by
  refine ⟨hk, ?_⟩
  unfold refuse
  exact he
/-- Where, and with what number, refusing gives up. -/
def Refused (s : ByteArray) (l : Bs) (n : Nat) (er : Int) : Prop := n = pl s (aheadL l) ∧ er = (if aheadL l = [] then 62 else 61)
theorem refuse_ex (rb : Nat) (s : ByteArray) (l : Bs) (wi : Nat) (hs : s.size ≤ 8192) : ∃ (n : Nat) (er : Int), Refused s l n er ∧ ∀ W, RdS W rb s l wi →
    Calls Try.prog 19 #[.pointer (some ⟨rb, 0, none⟩)] W fun e w' => e = .panicked [{ v := .iface 49 (.agg #[.int .i64 n, .int .i64 er]), recovered := false }] ∧ w' = W :=
  ⟨_, _, ⟨rfl, rfl⟩, fun W hW => refuse_any rb s l wi W hW hs⟩
theorem reads_refused {α : Type} {rb : Nat} {s : ByteArray} {wi : Nat} {l : Bs} {V : World → (Nat → Prop) → Value → α → Prop} {w w' : World} {n : Nat} {er : Int} (hR : Refused s l n er) (hk : Kept (· = rb) w w') :
    Reads rb s wi (refuse l : Rs α) V w (.panicked [{ v := .iface 49 (.agg #[.int .i64 n, .int .i64 er]), recovered := false }]) w' :=
  reads_refuse hk (by rw [hR.1, hR.2]; rfl)
theorem need_yes {what l r : Bs} (h : passL what l = some r) : needL what l = .ok () r := by unfold needL; rw [h]
theorem need_no {what l : Bs} (h : passL what l = none) : needL what l = refuse l := by unfold needL; rw [h]
def VUnit : World → (Nat → Prop) → Value → Unit → Prop := fun _ _ v _ => v = .tuple #[]
theorem need_any (rb : Nat) (s : ByteArray) (l : Bs) (wi : Nat) (what : Bs) (w : World) (h : RdS w rb s l wi) (hs : s.size ≤ 8192) :
    Calls Try.prog 61 #[.pointer (some ⟨rb, 0, none⟩), .string (nm what)] w (Reads rb s wi (needL what l) VUnit w) := by
  have hp := pass_any rb s l wi what w h hs
  obtain ⟨rn, re, hRF, hr⟩ := refuse_ex rb s l wi hs
  cases hx : passL what l with
  | some r =>
    rw [need_yes hx]
    rw [hx] at hp
    have HP := Lib.hid hp
    have HW := Lib.hid h
    clear hp hr h hx hRF
    generalize nm what = wb at *
    go_enter Try.func61, Try.ntmps61
    go_wp2_with (go_at_call 20; refine HP.out.mono ?_; rintro e W ⟨rfl, hk, hr⟩)
    refine bodyPost_ret (results_none rfl _ _ _) rfl ?_
    exact ⟨hk, _, rfl, hr, rfl⟩
  | none =>
    rw [need_no hx]
    rw [hx] at hp
    have HP := Lib.hid hp
    have HR := Lib.hid hr
    have HRF := Lib.hid hRF
    clear hp hr h hx hRF
    generalize nm what = wb at *
    go_enter Try.func61, Try.ntmps61
    go_wp2_with (first | (go_at_call 20; refine HP.out.mono ?_; rintro e W ⟨rfl, hk, hr⟩; have HRW := Lib.hid hr; have HK := Lib.hid hk; clear hr hk) | (go_at_call 19; refine (HR.out _ HRW.out).mono ?_; rintro e W2 ⟨rfl, rfl⟩))
    exact ⟨rfl, reads_refused HRF.out HK.out⟩
theorem nl_step (n : Nat) (l r : Bs) (h : passL [10] l = some r) : newlinesN (n + 1) l = newlinesN n r := by rw [newlinesN, h]
theorem nl_end (n : Nat) (l : Bs) (h : passL [10] l = none) : newlinesN n l = l := by
  cases n with
  | zero => rfl
  | succ n => rw [newlinesN, h]
theorem scan_rest {l r : Bs} {w : List PT} (h : scan l = .ok w r) : r.length ≤ l.length := by have := WdT.scan_texts h; omega
theorem key_rest {l r t : Bs} {w : List PT} (h : scan l = .ok w r) (hk : SyM.keyOf w = some t) (ht : t ≠ []) : r.length < l.length := by
  have h1 := WdT.scan_texts h
  have h2 : t.length ≤ WdT.tsz w := by
    unfold SyM.keyOf at hk
    split at hk
    · rename_i k q t' o ww'
      split at hk
      · injection hk with hk; subst hk; rw [WdT.tsz_cons]; show t'.length ≤ t'.length + _ + _; omega
      · cases hk
    · cases hk
  have h3 : 0 < t.length := by cases t with | nil => exact absurd rfl ht | cons => simp
  omega
theorem next_less {l : Bs} (h : (nextL l).1 ≠ []) : (nextL l).2.length < l.length := by
  have ha := (ahead_suf l).length_le
  by_cases h0 : signOf (aheadL l) ≠ []
  · rw [next_sign h0] at h ⊢
    have := sign_len (aheadL l)
    have h3 : 0 < (signOf (aheadL l)).length := by cases hx : signOf (aheadL l) with | nil => exact absurd hx h0 | cons => simp
    show ((aheadL l).drop _).length < _
    rw [List.length_drop]; omega
  · cases hs : scan (aheadL l) with
    | bad a e => rw [next_bad h0 hs] at h; exact absurd rfl h
    | ok w r =>
      cases hk : SyM.keyOf w with
      | none => rw [next_none h0 hs hk] at h; exact absurd rfl h
      | some t =>
        rw [next_key h0 hs hk] at h ⊢
        have := key_rest hs hk h
        show r.length < _
        omega
theorem pass_less {what l r : Bs} (hw : what ≠ []) (h : passL what l = some r) : r.length < l.length := by
  unfold passL at h
  split at h
  · rename_i h1
    injection h with h
    subst h
    exact next_less (by rw [h1]; exact hw)
  · cases h
set_option maxHeartbeats 800000 in
theorem newlines_any (rb : Nat) (s : ByteArray) (l : Bs) (wi : Nat) (w : World) (h : RdS w rb s l wi) (hs : s.size ≤ 8192) :
    Calls Try.prog 16 #[.pointer (some ⟨rb, 0, none⟩)] w (Did rb s wi (.tuple #[]) (newlinesL l) w) := by
  have HP := Lib.hid (fun m W (hW : RdS W rb s m wi) => pass_any rb s m wi [10] W hW hs)
  obtain ⟨A, hA⟩ : ∃ A, newlinesL l = A := ⟨_, rfl⟩
  rw [hA]
  have HS : Hid (l.length < l.length + 1 ∧ newlinesN (l.length + 1) l = A ∧ RdS w rb s l wi) := Lib.hid ⟨by omega, hA, h⟩
  clear h hA
  go_enter Try.func16, Try.ntmps16
  go_wp2
  go_loopg [] (l.length + 1) (fun k wr => ∃ (m : Bs), Hid (m.length < k ∧ newlinesN k m = A) ∧ Hid (Kept (· = rb) w wr ∧ RdS wr rb s m wi))
  case atStart => exact ⟨l, Lib.hid ⟨HS.out.1, HS.out.2.1⟩, Lib.hid ⟨Kept.refl _ _, HS.out.2.2⟩⟩
  case round =>
    obtain ⟨m, HM, HW⟩ := hrel
    have hp := HP.out m wr HW.out.2
    cases hx : passL [10] m with
    | none =>
      rw [hx] at hp
      have HPN := Lib.hid hp
      have HE := Lib.hid ((nl_end _ _ hx).symm.trans HM.out.2)
      clear hp hx HP HS HM
      go_wp2_with (go_at_call 20; refine HPN.out.mono ?_; rintro e W ⟨rfl, hk, hr⟩)
      refine bodyPost_ret (results_none rfl _ _ _) rfl ?_
      have e := HE.out
      subst e
      exact ⟨rfl, HW.out.1.trans hk, hr⟩
    | some r =>
      rw [hx] at hp
      have HPN := Lib.hid hp
      have hl := pass_less (by decide) hx
      have hm := HM.out
      obtain ⟨k, rfl⟩ : ∃ k, gk = k + 1 := ⟨gk - 1, by omega⟩
      have HN : Hid (r.length < k ∧ newlinesN k r = A) := Lib.hid ⟨by omega, by rw [← hm.2, nl_step _ _ _ hx]⟩
      clear hp hx HP HS HM hm hl
      go_wp2_with (go_at_call 20; refine HPN.out.mono ?_; rintro e W ⟨rfl, hk, hr⟩)
      go_roundg k
      case measure => omega
      case rel => exact ⟨r, HN, Lib.hid ⟨HW.out.1.trans hk, hr⟩⟩
theorem name_yes {l : Bs} (h : isName (nextL l).1 = true) : nameL l = .ok (nextL l).1 (nextL l).2 := by unfold nameL; rw [if_pos h]
theorem name_no {l : Bs} (h : isName (nextL l).1 = false) : nameL l = refuse l := by unfold nameL; rw [if_neg (by rw [h]; decide)]
def VStr : World → (Nat → Prop) → Value → Bs → Prop := fun _ _ v x => v = .string (nm x)
set_option maxHeartbeats 800000 in
theorem nameL_any (rb : Nat) (s : ByteArray) (l : Bs) (wi : Nat) (w : World) (h : RdS w rb s l wi) (hs : s.size ≤ 8192) :
    Calls Try.prog 60 #[.pointer (some ⟨rb, 0, none⟩)] w (Reads rb s wi (nameL l) VStr w) := by
  have hn := next_any rb s l wi w h hs
  unfold NextPost at hn
  obtain ⟨rn, re, hRF, hr⟩ := refuse_ex rb s l wi hs
  have hnm : (nextL l).1.length ≤ 281474976710656 → ∀ W, Calls Try.prog 41 #[.string (nm (nextL l).1)] W fun e w' => e = .returned (.bool (isName (nextL l).1)) ∧ W = w' := fun hle W => name_any (nm (nextL l).1) W (by rw [nm_size]; omega)
  cases hx : isName (nextL l).1 with
  | true =>
    rw [name_yes hx]
    rw [hx] at hnm
    generalize (nextL l).2 = r at *
    generalize (nextL l).1 = k at *
    have HN := Lib.hid hn
    have HM := Lib.hid hnm
    have HW := Lib.hid h
    have hz := h.lt
    clear hn hnm hr hRF h hx
    go_enter Try.func60, Try.ntmps60
    go_wp2_with (first | (go_at_call 26; refine HN.out.mono ?_; rintro e W ⟨rfl, hb, hr, hle⟩; have hz2 := (HW.out.told hb).lt; have s1 := (HW.out.told hb).c1; have g1 := (HW.out.told hb).fz 1; have HLE := Lib.hid hle; clear hle) | (go_at_call 41; refine (HM.out HLE.out _).mono ?_; rintro e W2 ⟨rfl, rfl⟩))
    go_ret
    exact ⟨(kept_told hb).trans (Kept.setCell _ _ rfl), _, rfl, (HW.out.told hb).at_ hr rfl, rfl⟩
  | false =>
    rw [name_no hx]
    rw [hx] at hnm
    generalize (nextL l).2 = r at *
    generalize (nextL l).1 = k at *
    have HN := Lib.hid hn
    have HM := Lib.hid hnm
    have HW := Lib.hid h
    have HR := Lib.hid hr
    have HRF := Lib.hid hRF
    have hz := h.lt
    clear hn hnm hr hRF h hx
    go_enter Try.func60, Try.ntmps60
    go_wp2_with (first | (go_at_call 26; refine HN.out.mono ?_; rintro e W ⟨rfl, hb, hr, hle⟩; have HWW := Lib.hid (HW.out.told hb); have HLE := Lib.hid hle; have HB := Lib.hid hb; clear hle hr hb) | (go_at_call 41; refine (HM.out HLE.out _).mono ?_; rintro e W2 ⟨rfl, rfl⟩) | (go_at_call 19; refine (HR.out _ HWW.out).mono ?_; rintro e W2 ⟨rfl, rfl⟩))
    exact ⟨rfl, reads_refused HRF.out (kept_told HB.out)⟩
set_option maxHeartbeats 800000 in
theorem listsEnd_any (rb : Nat) (s : ByteArray) (l : Bs) (wi : Nat) (w : World) (h : RdS w rb s l wi) (hs : s.size ≤ 8192) :
    Calls Try.prog 23 #[.pointer (some ⟨rb, 0, none⟩)] w (Told w (.bool (listsEnd l))) := by
  have hn := next_any rb s l wi w h hs
  unfold NextPost at hn
  have ho := fun W (hW : RdS W rb s l wi) => over_any rb s l wi W hW hs
  have he := fun W => ending_any (nm (nextL l).1) W
  rw [nm_data] at he
  have hm : listsEnd l = (decide ((nextL l).1 = [41]) || (decide ((nextL l).1 = [59, 59]) || (endingL (nextL l).1 || overL l))) := by
    unfold listsEnd
    rw [Bool.eq_iff_iff]
    simp [or_assoc]
  rw [hm]
  have q1 := str_dec (nextL l).1 [41]
  have q2 := str_dec (nextL l).1 [59, 59]
  generalize (nextL l).2 = r at *
  generalize (nextL l).1 = k at *
  generalize overL l = o at *
  generalize endingL k = en at *
  generalize decide (k = [41]) = b1 at *
  generalize decide (k = [59, 59]) = b2 at *
  generalize nm k = K at *
  have t1 : (nm [41]).toList = [41] := by rw [listD]; rfl
  have t2 : (nm [59, 59]).toList = [59, 59] := by rw [listD]; rfl
  rw [t1] at q1
  rw [t2] at q2
  have HN := Lib.hid hn
  have HO := Lib.hid ho
  have HE := Lib.hid he
  have HW := Lib.hid h
  have hz := h.lt
  clear hn ho he h hm t1 t2
  cases b1
  · cases b2
    · cases en
      · go_enter Try.func23, Try.ntmps23
        go_wp2_with (first | (go_at_call 26; refine HN.out.mono ?_; rintro e W ⟨rfl, hb, hr, hle⟩; have HWW := Lib.hid (HW.out.told hb); have HB := Lib.hid hb; clear hle hr hb) | (go_at_call 29; refine (HE.out _).mono ?_; rintro e W2 ⟨rfl, rfl⟩) | (go_at_call 17; refine (HO.out _ HWW.out).mono ?_; rintro e W2 ⟨rfl, n, rfl⟩))
        go_ret
        exact ⟨rfl, below_dn HB.out _⟩
      · go_enter Try.func23, Try.ntmps23
        go_wp2_with (first | (go_at_call 26; refine HN.out.mono ?_; rintro e W ⟨rfl, hb, hr, hle⟩; have HWW := Lib.hid (HW.out.told hb); have HB := Lib.hid hb; clear hle hr hb) | (go_at_call 29; refine (HE.out _).mono ?_; rintro e W2 ⟨rfl, rfl⟩))
        go_ret
        exact ⟨rfl, HB.out⟩
    · go_enter Try.func23, Try.ntmps23
      go_wp2_with (go_at_call 26; refine HN.out.mono ?_; rintro e W ⟨rfl, hb, hr, hle⟩; have HB := Lib.hid hb; clear hle hr hb)
      go_ret
      exact ⟨rfl, HB.out⟩
  · go_enter Try.func23, Try.ntmps23
    go_wp2_with (go_at_call 26; refine HN.out.mono ?_; rintro e W ⟨rfl, hb, hr, hle⟩; have HB := Lib.hid hb; clear hle hr hb)
    go_ret
    exact ⟨rfl, HB.out⟩

end Go.Proofs.Ytgajbehlggikdaa.Sw

/- DERIVED. Rows that a call gathers: what their cells stand for, and what an append does to them. -/
namespace Go.Proofs.Ytgajbehlggikdaa.Sw
open Go.RowKit
open PathM WdM SyM
open Go.Proofs.Ytgajbehlggikdaa.Wd
set_option linter.unusedVariables false

/-- Of a row: its cells, and the blocks in which all lies that they stand for. -/
structure Rw {α : Type} (size : Nat) (R : Rep α) (T : TypeId) (base : Nat) (X : Nat → Prop) (w : World) (v : Value) (l : List α) (vss : List (List Value)) (S : Nat → Prop) : Prop where
  row : w.ownsRow base T size v l.length vss.flatten
  len : vss.length = l.length
  rep : ∀ i (h : i < vss.length) (h' : i < l.length), (vss[i]).length = size ∧ R w S vss[i] l[i]
  blk : ∀ k, S k → base ≤ k ∧ k < w.heap.size ∧ v.ownBlock ≠ some k ∧ ¬ X k
/-- A row of the call's own; X: blocks in which nothing lies that its cells stand for. -/
def Row {α : Type} (size : Nat) (R : Rep α) (T : TypeId) (base : Nat) (X : Nat → Prop) (w : World) (v : Value) (l : List α) : Prop := ∃ vss S, Rw size R T base X w v l vss S
section
variable {α : Type} {size : Nat} {R : Rep α} {T : TypeId} {base : Nat} {X : Nat → Prop} {w w' : World} {v : Value} {l : List α}
theorem Row.nil (size : Nat) (R : Rep α) (T : TypeId) (base : Nat) (X : Nat → Prop) (w : World) : Row size R T base X w (.slice none 0 0) [] :=
  ⟨[], fun _ => False, World.ownsRow_nil _ _ _ _, rfl, fun i h => (by cases h), fun k h => h.elim⟩
theorem Row.form (h : Row size R T base X w v l) : ∃ a cap, v = .slice a l.length cap := by obtain ⟨vss, S, h⟩ := h; exact row_len h.row
theorem Row.lt (h : Row size R T base X w v l) : ∀ k, v.ownBlock = some k → base ≤ k ∧ k < w.heap.size := by obtain ⟨vss, S, h⟩ := h; exact h.row.lt
theorem Row.reX {X' : Nat → Prop} (h : Row size R T base X w v l) (hx : ∀ k, k < w.heap.size → X' k → X k) : Row size R T base X' w v l := by
  obtain ⟨vss, S, h⟩ := h
  exact ⟨vss, S, h.row, h.len, h.rep, fun k hk => ⟨(h.blk k hk).1, (h.blk k hk).2.1, (h.blk k hk).2.2.1, fun e => (h.blk k hk).2.2.2 (hx k (h.blk k hk).2.1 e)⟩⟩
theorem row_kept {e : TypeId} {n : Nat} {xs : List Value} {Q : Nat → Prop} (h : w.ownsRow base e size v n xs) (hk : Kept Q w w') (ho : ∀ k, v.ownBlock = some k → ¬ Q k) : w'.ownsRow base e size v n xs := by
  refine ⟨h.1, ?_⟩
  rcases h.2 with hn | ⟨g, cap, cur, rfl, hb, hg, rest⟩
  · exact .inl hn
  · exact .inr ⟨g, cap, cur, rfl, hb, (hk.block g (fin_at hg) (ho g rfl)).trans hg, rest⟩
theorem Rw.kept {vss : List (List Value)} {S Q : Nat → Prop} (hR : Good R) (h : Rw size R T base X w v l vss S) (hk : Kept Q w w') (hq : ∀ k, Q k → k < base ∨ X k ∨ w.heap.size ≤ k) (ho : ∀ k, v.ownBlock = some k → ¬ Q k) : Rw size R T base X w' v l vss S := by
  have hs : ∀ k, S k → w'.heap[k]? = w.heap[k]? := fun k hS => hk.block k (h.blk k hS).2.1 (fun e => by
    rcases hq k e with h1 | h1 | h1
    · have := (h.blk k hS).1; omega
    · exact (h.blk k hS).2.2.2 h1
    · have := (h.blk k hS).2.1; omega)
  exact ⟨row_kept h.row hk ho, h.len, fun i hi hi' => ⟨(h.rep i hi hi').1, hR w w' S S _ _ (fun k _ hS => ⟨hS, hs k hS⟩) (h.rep i hi hi').2⟩, fun k hk2 => ⟨(h.blk k hk2).1, Nat.lt_of_lt_of_le (h.blk k hk2).2.1 hk.size, (h.blk k hk2).2.2⟩⟩
theorem Row.kept {Q : Nat → Prop} (hR : Good R) (h : Row size R T base X w v l) (hk : Kept Q w w') (hq : ∀ k, Q k → k < base ∨ X k ∨ w.heap.size ≤ k) (ho : ∀ k, v.ownBlock = some k → ¬ Q k) : Row size R T base X w' v l := by
  obtain ⟨vss, S, h⟩ := h
  exact ⟨vss, S, h.kept hR hk hq ho⟩
/-- .. where only blocks below it have changed. -/
theorem Row.below {Q : Nat → Prop} (hR : Good R) (h : Row size R T base X w v l) (hk : Kept Q w w') (hq : ∀ k, Q k → k < base) : Row size R T base X w' v l :=
  h.kept hR hk (fun k e => .inl (hq k e)) (fun k e1 e2 => by have := (h.lt k e1).1; have := hq k e2; omega)
theorem Row.sl (hR : Good R) (h : Row size R T base X w v l) (hm : l.length ≤ 281474976710656) : Sl size R w (Nw base w) v l := by
  obtain ⟨vss, S, h⟩ := h
  obtain ⟨a, cap, rfl⟩ := row_len h.row
  refine ⟨a, cap, rfl, hm, fun hne => ?_⟩
  rcases h.row.2 with ⟨_, h0⟩ | ⟨g, cap', cur, hv, hb, hg, _⟩
  · exact absurd (List.length_eq_zero_iff.1 h0) hne
  · injection hv with hv1 hv2 hv3
    subst hv1
    refine ⟨g, 0, rfl, ⟨hb, fin_at hg⟩, fin_at hg, fun i x hx => ?_⟩
    obtain ⟨hi, hx⟩ := List.getElem?_eq_some_iff.1 hx
    have hi2 : i < vss.length := by have := h.len; omega
    refine ⟨vss[i], (h.rep i hi2 hi).1, fun j u hu => ?_, hx ▸ hR w w S (Nw base w) _ _ (fun k _ hS => ⟨⟨(h.blk k hS).1, (h.blk k hS).2.1⟩, rfl⟩) (h.rep i hi2 hi).2⟩
    rw [Nat.zero_add]
    exact (row_cell h.row _ u (flat_get vss i j u hi2 (fun i h2 => (h.rep i h2 (by have := h.len; omega)).1) hu)).1
/-- One more behind: a call of the reader in rb, a box of what it read, an append. -/
theorem Rw.app {vss : List (List Value)} {S : Nat → Prop} (hR : Good R) {rb g cap n : Nat} {w2 w3 : World} {o : Obj} {vs : List Value} {x : α} (h : Rw size R T base X w v l vss S) (hn : l.length = n) (hX : ∀ k, X k → k < w.heap.size) (hk : Kept (· = rb) w w2) (hrb : rb < base) (hbW : base ≤ w.heap.size)
    (hx : R w2 (Nw w.heap.size w2) vs x) (hvs : vs.length = size) (hg : (w2.alloc o).grownBy w3 v.ownBlock) (h3 : w3.ownsRow base T size (.slice (some ⟨g, 0, none⟩) (n + 1) cap) (n + 1) (vss.flatten ++ vs))
    (hat : v.ownBlock = some g ∨ g = w2.heap.size + 1) : Row size R T base X w3 (.slice (some ⟨g, 0, none⟩) (n + 1) cap) (l ++ [x]) := by
  subst hn
  have hsz : (w2.alloc o).heap.size = w2.heap.size + 1 := by simp
  have hlt := h.row.lt
  have hb0 : ∀ k, S k → w3.heap[k]? = w.heap[k]? := fun k hS => by
    have h1 := h.blk k hS
    have h2 := hk.size
    exact ((hg.block k (by omega) (fun e => h1.2.2.1 e.symm)).trans (Below.heap_alloc w2 o k (by omega))).trans (hk.block k h1.2.1 (fun e => by omega))
  have hb1 : ∀ k, Nw w.heap.size w2 k → w3.heap[k]? = w2.heap[k]? := fun k hS =>
    (hg.block k (by have := hS.2; omega) (fun e => by have := (hlt k e.symm).2; have := hS.1; omega)).trans (Below.heap_alloc w2 o k hS.2)
  have hsz3 := hg.size
  refine ⟨vss ++ [vs], fun k => S k ∨ Nw w.heap.size w2 k, ?_, by simp [h.len], fun i hi hi' => ?_, fun k hk2 => ?_⟩
  · rw [List.length_append, List.flatten_append]; simpa using h3
  · by_cases e : i < l.length
    · have e2 : i < vss.length := by have := h.len; omega
      rw [List.getElem_append_left e2, List.getElem_append_left e]
      exact ⟨(h.rep i e2 e).1, hR w w3 S _ _ _ (fun k _ hS => ⟨.inl hS, hb0 k hS⟩) (h.rep i e2 e).2⟩
    · have e3 : i = l.length := by simp at hi'; omega
      subst e3
      have e2 : (vss ++ [vs])[l.length]'hi = vs := by rw [List.getElem_append_right (by have := h.len; omega)]; simp [h.len]
      rw [e2]
      simp only [List.getElem_append_right (Nat.le_refl _), Nat.sub_self, List.getElem_cons_zero]
      exact ⟨hvs, hR w2 w3 _ _ _ _ (fun k _ hS => ⟨.inr hS, hb1 k hS⟩) hx⟩
  · have h2 := hk.size
    rcases hk2 with hS | hS
    · have h1 := h.blk k hS
      refine ⟨h1.1, by omega, fun e => ?_, h1.2.2.2⟩
      injection e with e
      rcases hat with h4 | h4
      · exact h1.2.2.1 (by rw [h4, ← e])
      · have e : g = k := e
        omega
    · have hS1 := hS.1
      have hS2 := hS.2
      refine ⟨by omega, by omega, fun e => ?_, fun e => by have := hX k e; omega⟩
      · injection e with e
        have e : g = k := e
        rcases hat with h4 | h4
        · have := (hlt g h4).2; omega
        · omega
end
/-- What lies in new blocks, seen from earlier; and later. -/
theorem nw_le {α : Type} {V : World → (Nat → Prop) → Value → α → Prop} (hV : GoodV V) {z z' : Nat} {w : World} {v : Value} {x : α} (hz : z ≤ z') (h : V w (Nw z' w) v x) : V w (Nw z w) v x :=
  hV w w _ _ _ _ (fun k _ hk => ⟨⟨Nat.le_trans hz hk.1, hk.2⟩, rfl⟩) h
theorem nw_kept {α : Type} {V : World → (Nat → Prop) → Value → α → Prop} (hV : GoodV V) {z : Nat} {Q : Nat → Prop} {w w' : World} {v : Value} {x : α} (hk : Kept Q w w') (hq : ∀ k, Q k → k < z ∨ w.heap.size ≤ k) (h : V w (Nw z w) v x) : V w' (Nw z w') v x := by
  refine hV w w' _ _ _ _ (fun k h1 h2 => ⟨⟨h2.1, Nat.lt_of_lt_of_le h2.2 hk.size⟩, hk.block k h1 (fun e => ?_)⟩) h
  rcases hq k e with h3 | h3
  · have := h2.1; omega
  · omega
theorem refused_bad {α : Type} {s : ByteArray} {l : Bs} {n : Nat} {er : Int} (h : Refused s l n er) : ∃ a, (refuse l : Rs α) = .bad a er ∧ n = s.size - a := by
  obtain ⟨rfl, rfl⟩ := h
  exact ⟨_, rfl, rfl⟩
/-- Cells to append, in a block just made. -/
theorem new_cells (W : World) (cs : List Value) (t : TypeId) : ∀ (j : Nat) (u : Value), cs[j]? = some u → (W.alloc (.cells cs.toArray t)).cell? ((⟨W.heap.size, 0, none⟩ : Addr).add j) = some u := cellsL W cs t

end Go.Proofs.Ytgajbehlggikdaa.Sw
