/- DERIVED. Texts of this claim, joined: ArRCut. -/
import Derived.Test.YtcadnkanjlmfhaaGreatDoorAzQ19
import Derived.Test.YtcadnkanjlmfhaaGreatDoorAzQ21
import Derived.Test.YtcadnkanjlmfhaaGreatDoorAzQ11
import Derived.Deep.Cut
import Derived.Deep.CutRange
namespace Go.Proofs.YtcadnkanjlmfhaaGreatDoor.Ar
open Go.RowKit
open PathM WdM ArM
open Go.Proofs.YtcadnkanjlmfhaaGreatDoor.Wd
open Go.Proofs.YtcadnkanjlmfhaaGreatDoor.NumM (conN conE)
set_option linter.unusedVariables false

def rtC (t : Tok) : List Value := [.string (nm (rsg t)), .string (nm (rnm t)), .int .i64 (nOf t)]
abbrev tK : TypeId := 56
theorem infoK : (Tryz.prog.info? 56).map (fun i => (i.zero, i.size, i.bytes)) = some (some (.agg #[.string ByteArray.empty, .string ByteArray.empty, .int .i64 0]), 3, 40) := by kernel_rfl
theorem rtC_at : ∀ (l : List Tok) (i : Nat) (h : i < l.length), (l.flatMap rtC)[i * 3]? = some (.string (nm (rsg l[i]))) ∧ (l.flatMap rtC)[i * 3 + 1]? = some (.string (nm (rnm l[i]))) ∧ (l.flatMap rtC)[i * 3 + 2]? = some (.int .i64 (nOf l[i]))
  | [], i, h => absurd h (by simp)
  | t :: l, 0, _ => ⟨rfl, rfl, rfl⟩
  | t :: l, i + 1, h => by
    have := rtC_at l i (by simpa using h)
    rw [show (i + 1) * 3 = i * 3 + 3 by omega]
    simpa [List.flatMap_cons, rtC, List.getElem?_append] using this
theorem row_form3 {W : World} {base n : Nat} {v : Value} {cs : List Value} (h : W.ownsRow base tK 3 v n cs) : ∃ A c, v = .slice A n c ∧ (n ≠ 0 → ∃ g, A = some ⟨g, 0, none⟩ ∧ g < W.heap.size ∧ n ≤ c) := by
  rcases h.2 with ⟨rfl, h0⟩ | ⟨g, cap, cur, rfl, h1, h2, h3, _⟩
  · exact ⟨none, 0, by rw [h0], fun hn => absurd h0 hn⟩
  · exact ⟨_, _, rfl, fun _ => ⟨g, rfl, fin_at h2, h3⟩⟩
/-- One token is appended. -/
theorem rtok_app {ops : Array Oper} {rest : List Oper} {o : Oper} {a : Act} {Q : Exit → Act → World → Prop} {w : World} (hgd : o.guard = none) (s x : Operand) (ho : o.op = .call { callee := .builtin .append, args := #[s, x], argTypes := #[52, 52] })
    (base eb : Nat) (acc : List Tok) (v : Value) (t : Tok) (XB YB : ByteArray) (k : Int) (hX : XB = nm (rsg t)) (hY : YB = nm (rnm t)) (hk : k = nOf t) (hs : a.eval s = v) (hx : a.eval x = .slice (some ⟨eb, 0, none⟩) 1 1) (hrow : w.ownsRow base tK 3 v acc.length (acc.flatMap rtC)) (he : w.heap[eb]? = some (.cells #[.string XB, .string YB, .int .i64 k] tK (0, 0))) (hl : acc.length ≤ 10000) (hbase : base ≤ w.heap.size)
    (h : ∀ v' w', w'.ownsRow base tK 3 v' (acc ++ [t]).length ((acc ++ [t]).flatMap rtC) → Below base w w' → wpList Tryz.prog ops Q rest (a.put o.dst v') w') : wpList Tryz.prog ops Q (o :: rest) a w := by
  subst hX; subst hY; subst hk
  obtain ⟨i0, hi0, hz0, hz1, hz2⟩ := info_parts infoK
  refine wpList_append_own_at _ hgd s x 52 ho base tK i0 (.agg #[.string ByteArray.empty, .string ByteArray.empty, .int .i64 0]) 3 40 Tryz.underlying52 hi0 hz0 hz1 hz2 rfl (by decide) _ _ _ hs hrow ⟨eb, 0, none⟩ 1 1 [.string (nm (rsg t)), .string (nm (rnm t)), .int .i64 (nOf t)] hx rfl (fun j u hj => by
    have hadd : (⟨eb, 0, none⟩ : Addr).add j = ⟨eb, j, none⟩ := by unfold Addr.add; split <;> simp_all
    rw [hadd, cell_blk he j]
    simpa using hj) (by intro u hu; simp at hu; rcases hu with rfl | rfl | rfl <;> rfl) (maxLen_ok (by omega)) (by omega) hbase ?_
  intro v5 w5 hown5 hg5 _ ho5
  refine h v5 w5 ?_ ⟨hg5.os, hg5.tape, hg5.output, hg5.size, fun k hk => hg5.block k (by omega) (fun e => ?_)⟩
  · rw [List.flatMap_append, List.length_append]
    simpa [rtC] using hown5
  · have := (hrow.lt k e.symm).1; omega
/-- What Tokens comes to. -/
def RCutP (m : Except Int (List Tok)) (w : World) (e : Ending) (w' : World) : Prop := Below w.heap.size w w' ∧ match m with
  | .ok l => ∃ A c, e = .returned (.tuple #[.slice A l.length c, .int .i64 0]) ∧ (l ≠ [] → ∃ b, A = some ⟨b, 0, none⟩ ∧ RTk w'.heap.size w' b 0 c l)
  | .error er => e = .returned (.tuple #[.slice none 0 0, .int .i64 er]) ∧ er ≠ 0
theorem RCutP.yes {m : Except Int (List Tok)} {w w' : World} {l : List Tok} {v : Value} {base : Nat} (hm : m = .ok l) (hb : Below w.heap.size w w') (hr : w'.ownsRow base tK 3 v l.length (l.flatMap rtC)) (hl : l.length ≤ 8192) (hk : ∀ t ∈ l, RkD t) : RCutP m w (.returned (.tuple #[v, .int .i64 0])) w' := by
  subst hm
  obtain ⟨A, c, rfl, hf⟩ := row_form3 hr
  refine ⟨hb, A, c, rfl, fun hne => ?_⟩
  obtain ⟨g, rfl, hg, hcap⟩ := hf (fun h => hne (List.length_eq_zero_iff.1 h))
  refine ⟨g, rfl, hg, hcap, hl, hk, fun i hi => ?_⟩
  obtain ⟨a0, a1, a2⟩ := rtC_at l i hi
  rw [Nat.zero_add]
  exact ⟨row_cells hr _ _ a0, row_cells hr _ _ a1, row_cells hr _ _ a2⟩
theorem RCutP.no {m : Except Int (List Tok)} {w w' : World} {er : Int} (hm : m = .error er) (h0 : er ≠ 0) (hb : Below w.heap.size w w') : RCutP m w (.returned (.tuple #[.slice none 0 0, .int .i64 er])) w' := by subst hm; exact ⟨hb, rfl, h0⟩
theorem cutN_blank (n : Nat) (acc : List Tok) (c : UInt8) (r : Bs) (h : blankA c = true) : cutN (n + 1) acc (c :: r) = cutN (n + 1) acc r := by
  unfold cutN
  rw [List.dropWhile_cons, if_pos h]
theorem cutN_tok (n : Nat) (acc : List Tok) (c : UInt8) (r : Bs) (h : blankA c = false) : cutN (n + 1) acc (c :: r) = match firstL (dollarL (c :: r)) with
      | .error e => .error e
      | .ok t => cutN n (acc ++ [t]) ((dollarL (c :: r)).drop t.text.length) := by
  show (match (c :: r).dropWhile blankA with | [] => _ | c :: r => _) = _
  rw [List.dropWhile_cons, if_neg (by rw [h]; simp)]
  rfl
/-- Where the cutting stands. -/
structure RcSt (S : ByteArray) (M : Except Int (List Tok)) (w W : World) (acc : List Tok) (v : Value) (i n : Nat) : Prop where
  row : W.ownsRow w.heap.size tK 3 v acc.length (acc.flatMap rtC)
  bel : Below w.heap.size w W
  le : i ≤ S.size
  few : acc.length ≤ i
  fuel : S.size - i < n
  cut : cutN n acc (S.data.toList.drop i) = M
  ok : ∀ t ∈ acc, RkD t
theorem blank_has (c : UInt8) : (⟨#[32, 9, 10]⟩ : ByteArray).data.toList.contains c = blankA c := by
  show [32, 9, 10].contains c = _
  unfold blankA
  simp [List.contains, List.elem]
  cases h1 : c == 32 <;> cases h2 : c == 9 <;> cases h3 : c == 10 <;> rfl
theorem sgn_yes {l : Bs} (h : sgnL l ≠ []) : firstL l = .ok (.sg (sgnL l)) ∧ sgnL l ∈ signsA ∧ 1 ≤ (sgnL l).length ∧ (sgnL l).length ≤ l.length := by
  unfold sgnL at h ⊢
  unfold firstL
  cases hf : signsA.find? (fun o => stands o l) with
  | none => rw [hf] at h; exact absurd rfl h
  | some o =>
    have hm := List.mem_of_find?_eq_some hf
    have hs := List.find?_some hf
    exact ⟨rfl, hm, Nat.pos_of_ne_zero (fun e => (signs_len o hm).1 (List.length_eq_zero_iff.1 e)), stands_len hs⟩
theorem sgn_no {l : Bs} (h : sgnL l = []) : firstL l = match l.take (leading named l) with
    | [] => .error 61
    | c :: t => if digit c then (if conE (c :: t) = 0 then .ok (.num (c :: t) (conN (c :: t) : Nat)) else .error (conE (c :: t) : Nat))
      else if isName (c :: t) then .ok (.nam (c :: t)) else .error 61 := by
  unfold sgnL at h
  unfold firstL
  cases hf : signsA.find? (fun o => stands o l) with
  | none => rfl
  | some o =>
    have hm := List.mem_of_find?_eq_some hf
    rw [hf] at h
    exact absurd h (signs_len o hm).1
theorem leading_take (f : UInt8 → Bool) : ∀ l : Bs, leading f (l.take (leading f l)) = leading f l
  | [] => rfl
  | c :: l => by
    cases h : f c with
    | true =>
      have e : leading f (c :: l) = leading f l + 1 := by rw [leading, if_pos h]
      rw [e, List.take_succ_cons, leading, if_pos h, leading_take f l]
    | false =>
      have e : leading f (c :: l) = 0 := by rw [leading, if_neg (by rw [h]; simp)]
      rw [e]; rfl
/-- What stands where no sign does. -/
theorem first_word {S : ByteArray} {j L : Nat} {l : Bs} (hj : j < S.size) (hlx : S.data.toList.drop j = l) (hL : leading named l = L) (h0 : sgnL l = []) :
    (L = 0 → firstL l = .error 61) ∧ (1 ≤ L → (digit S[j] = true → (conE (l.take L) = 0 → firstL l = .ok (.num (l.take L) (conN (l.take L) : Nat))) ∧ (conE (l.take L) ≠ 0 → firstL l = .error (conE (l.take L) : Nat))) ∧
      (digit S[j] = false → (L ≤ 64 → firstL l = .ok (.nam (l.take L))) ∧ (64 < L → firstL l = .error 61))) := by
  have hf := sgn_no h0
  rw [hL] at hf
  have hd := Wd.get_at S j hj
  rw [hlx] at hd
  have hlen : L ≤ l.length := by rw [← hL]; exact ArM.leading_le named l
  refine ⟨fun h => by rw [hf, h]; rfl, fun h => ?_⟩
  obtain ⟨L', rfl⟩ : ∃ L', L = L' + 1 := ⟨L - 1, by omega⟩
  have ht : l.take (L' + 1) = S[j] :: (S.data.toList.drop (j + 1)).take L' := by rw [hd, List.take_succ_cons]
  have hnm : named S[j] = true := by
    have := hL
    rw [hd, leading] at this
    split at this
    · assumption
    · omega
  have htl : (l.take (L' + 1)).length = L' + 1 := by rw [List.length_take]; omega
  have hlt : leading named (l.take (L' + 1)) = L' + 1 := by have := leading_take named l; rwa [hL] at this
  rw [hf]
  rw [ht] at htl hlt ⊢
  dsimp only
  refine ⟨fun hdg => ?_, fun hdg => ?_⟩
  · rw [if_pos hdg]
    exact ⟨fun hc => by rw [if_pos hc], fun hc => by rw [if_neg hc]⟩
  · rw [if_neg (by rw [hdg]; simp)]
    have hle : letter S[j] = true := by
      unfold named at hnm
      rw [hdg, Bool.or_false] at hnm
      exact hnm
    refine ⟨fun h64 => ?_, fun h64 => ?_⟩
    · rw [if_pos]
      unfold isName
      rw [hlt, htl]
      simp [hle, h64]
    · rw [if_neg]
      unfold isName
      rw [htl]
      simp
      omega
set_option maxRecDepth 100000 in
set_option maxHeartbeats 6400000 in
theorem rtokens_any (s : Bs) (w : World) (hl : s.length ≤ 8192) : Calls Tryz.prog 15 #[.string (nm s)] w (RCutP (cutL s) w) := by
  have hsz : (nm s).size = s.length := nm_size s
  have hst : RcSt (nm s) (cutL s) w w [] (.slice none 0 0) 0 (s.length + 1) := ⟨World.ownsRow_nil _ _ _ _, Below.refl _ _, Nat.zero_le _, Nat.le_refl _, by omega, by rw [nm_data, List.drop_zero]; rfl, by simp⟩
  have HST := Lib.hid hst
  have hs8 : (nm s).size ≤ 8192 := by omega
  generalize cutL s = M at *
  generalize nm s = S at *
  clear hst hl hsz
  go_enter Tryz.func15, Tryz.ntmps15
  go_wp2_with fail
  go_loopg [4, 5] S.size (fun g x4 x5 wr => ∃ (acc : List Tok) (i n : Nat), x5 = .int .i64 i ∧ g = S.size - i ∧ RcSt S M w wr acc x4 i n)
  case atStart => exact ⟨[], 0, _, rfl, by omega, HST.out⟩
  case round =>
    clear HST
    obtain ⟨acc, i, n, rfl, rfl, hst⟩ := hrel
    have HS0 := Lib.hid hst
    obtain ⟨A4, c4, hv4, -⟩ := row_form3 hst.row
    subst hv4
    have hi := hst.le
    obtain ⟨n, rfl⟩ : ∃ n', n = n' + 1 := ⟨n - 1, by have := hst.fuel; omega⟩
    clear hst
    by_cases hil : i < S.size
    · have hd := Wd.get_at S i hil
      have HD := Lib.hid hd
      have hil2 : (i : Int) < (S.size : Int) := by omega
      have HH : Hid (∀ W, Calls Tryz.prog 23 #[.string ⟨#[32, 9, 10]⟩, .int .u8 S[i].toNat] W fun e w' => e = .returned (.bool (blankA S[i])) ∧ W = w') := Lib.hid (fun W => by
        have := has_any ⟨#[32, 9, 10]⟩ S[i] W (by decide)
        rw [blank_has] at this
        exact this)
      have hcut := HS0.out.cut
      rw [hd] at hcut
      clear hd
      cases hbl : blankA S[i] with
      | true =>
        rw [hbl] at HH
        rw [cutN_blank _ _ _ _ hbl] at hcut
        have HN : Hid (RcSt S M w wr acc (.slice A4 acc.length c4) (i + 1) (n + 1)) := Lib.hid ⟨HS0.out.row, HS0.out.bel, by omega, by have := HS0.out.few; omega, by have := HS0.out.fuel; omega, hcut, HS0.out.ok⟩
        clear hcut hbl
        go_wp2_with (go_at_call 23; refine (HH.out _).mono ?_; rintro e w' ⟨rfl, rfl⟩)
        go_roundg (S.size - (i + 1))
        case measure => omega
        case rel => exact ⟨acc, i + 1, n + 1, by go_num, rfl, HN.out⟩
      | false =>
        rw [hbl] at HH
        rw [cutN_tok _ _ _ _ hbl] at hcut
        rw [← HD.out] at hcut
        obtain ⟨j, hj, hij, hjs⟩ : ∃ j, S.data.toList.drop j = dollarL (S.data.toList.drop i) ∧ i ≤ j ∧ j < S.size ∧ (j = if S[i] = 36 ∧ (∃ h : i + 1 < S.size, letter S[i + 1] = true) then i + 1 else i) := by
          by_cases hdl : S[i] = 36 ∧ (∃ h : i + 1 < S.size, letter S[i + 1] = true)
          · obtain ⟨h36, h1, h2⟩ := hdl
            refine ⟨i + 1, ?_, by omega, h1, by rw [if_pos ⟨h36, h1, h2⟩]⟩
            rw [HD.out, Wd.get_at S (i + 1) h1]
            show _ = if S[i] = 36 ∧ letter S[i + 1] = true then _ else _
            rw [if_pos ⟨h36, h2⟩]
          · refine ⟨i, ?_, Nat.le_refl _, hil, by rw [if_neg hdl]⟩
            rw [HD.out]
            by_cases h1 : i + 1 < S.size
            · rw [Wd.get_at S (i + 1) h1]
              show _ = if S[i] = 36 ∧ letter S[i + 1] = true then _ else _
              rw [if_neg (fun h => hdl ⟨h.1, h1, h.2⟩)]
            · rw [List.drop_of_length_le (by rw [← sizeD]; omega)]
              rfl
        rw [← hj] at hcut
        clear hj
        have HJ := Lib.hid hjs.2
        have hjl := hjs.1
        have HCT := Lib.hid hcut
        clear hcut hbl hjs
        go_upto_region 6 with (go_at_call 23; refine (HH.out _).mono ?_; rintro e w' ⟨rfl, rfl⟩)
        go_cut [37] from 18 to 37 (fun x37 wx => x37 = .bool (decide (j = i + 1)) ∧ wx = wr)
        case first =>
          have hjj := HJ.out
          by_cases h36 : S[i] = 36
          · have q36 : ((S[i].toNat : Int) == 36) = true := by rw [h36]; rfl
            by_cases h1 : i + 1 < S.size
            · have h1i : (i : Int) + 1 < (S.size : Int) := by omega
              have HLT := Lib.hid (fun W => Wd.rletter_any S[i + 1] W)
              cases hlt : letter S[i + 1] with
              | true =>
                rw [hlt] at HLT
                have hje : j = i + 1 := by rw [hjj, if_pos ⟨h36, h1, hlt⟩]
                subst hje
                clear hjj hlt h36
                go_wp2_with (go_at_call 24; refine (HLT.out _).mono ?_; rintro e w' ⟨rfl, rfl⟩)
                go_meet
                exact ⟨by simp, rfl⟩
              | false =>
                rw [hlt] at HLT
                have hje : j = i := by rw [hjj, if_neg (fun h => by obtain ⟨_, _, h2⟩ := h; rw [hlt] at h2; cases h2)]
                subst hje
                clear hjj hlt h36
                go_wp2_with (go_at_call 24; refine (HLT.out _).mono ?_; rintro e w' ⟨rfl, rfl⟩)
                go_meet
                exact ⟨by simp, rfl⟩
            · have h1i : ¬ (i : Int) + 1 < (S.size : Int) := by omega
              have hje : j = i := by rw [hjj, if_neg (fun h => h1 h.2.1)]
              subst hje
              clear hjj h36
              go_wp2_with fail
              go_meet
              exact ⟨by simp, rfl⟩
          · have q36 : ((S[i].toNat : Int) == 36) = false := by
              rw [beq_eq_false_iff_ne]
              intro h
              exact h36 (UInt8.toNat_inj.1 (by rw [show S[i].toNat = 36 by omega]; rfl))
            have hje : j = i := by rw [hjj, if_neg (fun h => h36 h.1)]
            subst hje
            clear hjj h36
            go_wp2_with fail
            go_meet
            exact ⟨by simp, rfl⟩
        case rest =>
          rename World => wr
          obtain ⟨rfl, rfl⟩ := hcut
          have hjc : j = i + 1 ∨ j = i := by
            have := HJ.out
            by_cases hq : S[i] = 36 ∧ (∃ h : i + 1 < S.size, letter S[i + 1] = true)
            · rw [if_pos hq] at this; exact .inl this
            · rw [if_neg hq] at this; exact .inr this
          have hjn : (j : Int) < (S.size : Int) := by omega
          have HX0 := Lib.hid (rsignAt_any S j wr (by omega) hs8)
          have HS1 : Hid (∀ W t v n2, Below w.heap.size w W → W.ownsRow w.heap.size tK 3 v (acc ++ [t]).length ((acc ++ [t]).flatMap rtC) → firstL (S.data.toList.drop j) = .ok t → RkD t → 1 ≤ t.text.length → j + t.text.length = n2 → n2 ≤ S.size → RcSt S M w W (acc ++ [t]) v n2 n) := Lib.hid (fun W t v n2 hb hr hf hk h1 h2 h3 => by
            have hc := HCT.out
            rw [hf] at hc
            dsimp only at hc
            rw [List.drop_drop, h2] at hc
            refine ⟨hr, hb, h3, by have := HS0.out.few; simp; omega, by have := HS0.out.fuel; omega, hc, fun x hx => ?_⟩
            rcases List.mem_append.1 hx with h | h
            · exact HS0.out.ok x h
            · simp at h; rw [h]; exact hk)
          have HER : Hid (∀ W er, Below w.heap.size w W → firstL (S.data.toList.drop j) = .error er → er ≠ 0 → RCutP M w (.returned (.tuple #[.slice none 0 0, .int .i64 er])) W) := Lib.hid (fun W er hb hf h0 => by
            have hc := HCT.out
            rw [hf] at hc
            exact RCutP.no hc.symm h0 hb)
          clear HJ HH
          rcases hjc with hje | hje
          all_goals
            first
              | (have hdc : decide (j = i + 1) = true := decide_eq_true hje
                 rw [hdc]
                 go_upto_region 8 with (fail)
                 rw [show (i : Int) + 1 = (j : Int) by omega]
                 clear hje)
              | (have hdc : decide (j = i + 1) = false := decide_eq_false (by omega)
                 rw [hdc]
                 subst hje
                 go_upto_region 8 with (fail))
            clear hdc
            go_wp2_with fail
            refine HX0.out.mono ?_
            rintro e WB ⟨rfl, hbB⟩
            have HBB := Lib.hid (HS0.out.bel.trans (hbB.mono HS0.out.bel.size))
            have HRB := Lib.hid (row_below HS0.out.row hbB)
            obtain ⟨l, hlx⟩ : ∃ l, S.data.toList.drop j = l := ⟨_, rfl⟩
            rw [hlx] at HS1 HER ⊢
            have hll : l.length = S.size - j := by rw [← hlx, bad_len]
            have hfew := HS0.out.few
            have hwB := HBB.out.size
            clear HX0 HS0 hbB
            by_cases h0 : sgnL l = []
            · rw [h0]
              have e1 := emp_yes (b := nm []) (by rw [nm_data])
              obtain ⟨L, hL⟩ : ∃ L, leading named l = L := ⟨_, rfl⟩
              obtain ⟨w1, w2⟩ := first_word hjl hlx hL h0
              have HW1 := Lib.hid w1
              have HW2 := Lib.hid w2
              have hLl : L ≤ l.length := by rw [← hL]; exact ArM.leading_le named l
              have HLD : Hid (leading named (S.data.toList.drop (j + 0)) + 0 = L) := Lib.hid (by rw [Nat.add_zero, Nat.add_zero, hlx]; exact hL)
              have HLX := Lib.hid hlx
              have hjL : j + L ≤ S.size := by omega
              generalize nm [] = E at *
              clear w1 w2 hL h0 hlx
              go_wp2_with fail
              go_loopg [7] (S.size - j) (fun g x7 wr2 => ∃ k : Nat, g = S.size - j - k ∧ x7 = .int .i64 k ∧ wr2 = WB ∧ k ≤ L ∧ Hid (leading named (S.data.toList.drop (j + k)) + k = L))
              case atStart => exact ⟨0, rfl, rfl, rfl, Nat.zero_le _, HLD⟩
              case round =>
                clear HLD
                obtain ⟨k, rfl, rfl, hw2, hkL, HI⟩ := hrel
                obtain rfl := hw2.symm
                have hjk : j + k ≤ S.size := by omega
                have h1w : IntKind.i64.wrap ((j : Int) + (k : Int)) = (j : Int) + (k : Int) := IntWalk.i64_in _ (by omega)
                have hnx : k < L → Hid (leading named (S.data.toList.drop (j + (k + 1))) + (k + 1) = L) := fun hk => Lib.hid (by
                  have := HI.out
                  by_cases hjl2 : j + k < S.size
                  · rw [Wd.get_at S (j + k) hjl2, leading] at this
                    split at this
                    · rw [← this, show j + (k + 1) = j + k + 1 from by omega]; omega
                    · omega
                  · rw [List.drop_of_length_le (by rw [← sizeD]; omega)] at this
                    simp [leading] at this
                    omega)
                have hI := HI.out
                by_cases hk3 : k < L
                · have HNX := hnx hk3
                  have hjl2 : j + k < S.size := by omega
                  have hk2 : (j : Int) + (k : Int) < (S.size : Int) := by omega
                  have hp0 : (0 : Int) ≤ (j : Int) + (k : Int) := by omega
                  have hpn : ((j : Int) + (k : Int)).toNat = j + k := by omega
                  have HLT := Lib.hid (fun W => Wd.rletter_any S[j + k] W)
                  have HDG := Lib.hid (fun W => Wd.rdigit_any S[j + k] W)
                  rw [Wd.get_at S (j + k) hjl2, leading] at hI
                  have hnm : named S[j + k] = true := by
                    split at hI
                    · assumption
                    · omega
                  unfold named at hnm
                  clear hI hnx HI HW1 HW2
                  cases hlt : letter S[j + k] with
                  | true =>
                    rw [hlt] at HLT
                    clear hnm hlt
                    go_wp2_with (go_at_call 24; refine (HLT.out _).mono ?_; rintro e w' ⟨rfl, rfl⟩)
                    go_roundg (S.size - j - (k + 1))
                    case measure => omega
                    case rel => exact ⟨k + 1, rfl, by go_num, rfl, by omega, HNX⟩
                  | false =>
                    rw [hlt, Bool.false_or] at hnm
                    rw [hlt] at HLT
                    rw [hnm] at HDG
                    clear hnm hlt
                    go_wp2_with (first | (go_at_call 24; refine (HLT.out _).mono ?_; rintro e w' ⟨rfl, rfl⟩) | (go_at_call 26; refine (HDG.out _).mono ?_; rintro e w' ⟨rfl, rfl⟩))
                    go_roundg (S.size - j - (k + 1))
                    case measure => omega
                    case rel => exact ⟨k + 1, rfl, by go_num, rfl, by omega, HNX⟩
                · obtain rfl : k = L := by omega
                  clear hnx hk3
                  have hkl : (l.take k).length = k := by rw [List.length_take]; omega
                  have HXE : Hid (S.extract j (j + k) = nm (l.take k)) := Lib.hid (by rw [ext_mid, HLX.out, show j + k - j = k by omega])
                  have HCN : Hid (∀ W, Calls Tryz.prog 27 #[.string (S.extract j (j + k))] W fun e w' => e = .returned (.tuple #[.int .i64 ((conN (l.take k) : Nat) : Int), .int .i64 ((conE (l.take k) : Nat) : Int)]) ∧ Below W.heap.size W w') := Lib.hid (fun W => by
                    rw [HXE.out]
                    have := rconstant_any (nm (l.take k)) W (by rw [nm_size, hkl]; exact maxLen_ok (by omega))
                    rw [nm_data] at this
                    exact this.mono (by
                      rintro e w' ⟨rfl, kd, rfl⟩
                      exact ⟨rfl, bel_drewN (Below.refl _ _) kd⟩))
                  have HDJ := Lib.hid (fun W => Wd.rdigit_any S[j] W)
                  have hk3 : (j : Int) + (k : Int) ≤ (S.size : Int) := by omega
                  have hp0 : (0 : Int) ≤ (j : Int) + (k : Int) := by omega
                  have hpn : ((j : Int) + (k : Int)).toNat = j + k := by omega
                  have hp1 : (j : Int) ≤ (j : Int) + (k : Int) := by omega
                  have hex : (¬ (j : Int) + (k : Int) < (S.size : Int)) ∨ ∃ h : j + k < S.size, letter S[j + k] = false ∧ digit S[j + k] = false := by
                    by_cases hjl2 : j + k < S.size
                    · rw [Wd.get_at S (j + k) hjl2, leading] at hI
                      split at hI
                      · omega
                      · rename_i hq
                        unfold named at hq
                        exact .inr ⟨hjl2, by simpa using hq⟩
                    · exact .inl (by omega)
                  have HKL := Lib.hid hkl
                  clear hI HI hkl
                  have HEND : Hid (∀ W v t, Below w.heap.size w W → W.ownsRow w.heap.size tK 3 v (acc ++ [t]).length ((acc ++ [t]).flatMap rtC) → firstL l = .ok t → RkD t → t.text = l.take k → 1 ≤ k → RcSt S M w W (acc ++ [t]) v (j + k) n) := Lib.hid (fun W v t hb hr hf hk ht h1 => HS1.out W t v (j + k) hb hr hf hk (by rw [ht, HKL.out]; exact h1) (by rw [ht, HKL.out]) hjL)
                  have HHX : Hid (∀ (h : j + k < S.size), letter S[j + k] = false → digit S[j + k] = false → (∀ W, Calls Tryz.prog 24 #[.int .u8 S[j + k].toNat] W fun e w' => e = .returned (.bool false) ∧ W = w') ∧ (∀ W, Calls Tryz.prog 26 #[.int .u8 S[j + k].toNat] W fun e w' => e = .returned (.bool false) ∧ W = w')) := Lib.hid (fun h h1 h2 => ⟨fun W => by have := Wd.rletter_any S[j + k] W; rw [h1] at this; exact this, fun W => by have := Wd.rdigit_any S[j + k] W; rw [h2] at this; exact this⟩)
                  by_cases hk0 : k = 0
                  · have HE0 := Lib.hid (HER.out WB 61 HBB.out (HW1.out hk0) (by decide))
                    have hkb : ((k : Int) == 0) = true := by rw [hk0]; rfl
                    clear HW1 HW2 HCN HDJ HEND HS1 HER hk0
                    rcases hex with hex | ⟨hex, hl1, hl2⟩
                    · go_wp2_with fail
                      go_ret2
                      exact HE0.out
                    · obtain ⟨hx1, hx2⟩ := HHX.out hex hl1 hl2
                      have HLT := Lib.hid hx1
                      have HDG := Lib.hid hx2
                      have hex2 : (j : Int) + (k : Int) < (S.size : Int) := by omega
                      clear hx1 hx2 hl1 hl2
                      go_wp2_with (first | (go_at_call 24; refine (HLT.out _).mono ?_; rintro e w' ⟨rfl, rfl⟩) | (go_at_call 26; refine (HDG.out _).mono ?_; rintro e w' ⟨rfl, rfl⟩))
                      go_ret2
                      exact HE0.out
                  · obtain ⟨wd, wn⟩ := HW2.out (by omega)
                    have hk1 : 1 ≤ k := by omega
                    have hkb : ((k : Int) == 0) = false := by rw [beq_eq_false_iff_ne]; omega
                    clear HW1 HW2 hk0
                    rcases hex with hex | ⟨hex, hl1, hl2⟩
                    · cases hdg : digit S[j] with
                      | true =>
                        rw [hdg] at HDJ
                        obtain ⟨c0, c1⟩ := wd hdg
                        clear hdg wd wn
                        by_cases hce : conE (l.take k) = 0
                        · have hfo := c0 hce
                          rw [hce] at HCN
                          have HEN : Hid (∀ W v, Below w.heap.size w W → W.ownsRow w.heap.size tK 3 v (acc ++ [Tok.num (l.take k) ((conN (l.take k) : Nat) : Int)]).length ((acc ++ [Tok.num (l.take k) ((conN (l.take k) : Nat) : Int)]).flatMap rtC) → RcSt S M w W (acc ++ [Tok.num (l.take k) ((conN (l.take k) : Nat) : Int)]) v (j + k) n) := Lib.hid (fun W v hb hr => HEND.out W v _ hb hr hfo ⟨Int.natCast_nonneg _, by have := con_le (l.take k); unfold Go.Proofs.YtcadnkanjlmfhaaGreatDoor.NumM.M63 at this; omega⟩ rfl (by omega))
                          clear c0 c1 hfo hce
                          go_wp2_with (first | (go_at_call 26; (with_reducible refine (HDJ.out _).mono ?_); rintro e w' ⟨rfl, rfl⟩) | (go_at_call 27; refine (HCN.out _).mono ?_; rintro e W2 ⟨rfl, hb2⟩; have HB2 := Lib.hid (HBB.out.trans (hb2.mono HBB.out.size)); have HR2 := Lib.hid (row_below HRB.out hb2); clear hb2) | (at_builtin; refine rtok_app rfl (.tmp 97) (.tmp 100) rfl w.heap.size W2.heap.size acc _ (Tok.num (l.take k) ((conN (l.take k) : Nat) : Int)) ByteArray.empty ByteArray.empty _ rfl rfl rfl rfl rfl (row_below HR2.out (al W2 _)) (heap_alloc_new W2 _) (by omega) (Nat.le_trans HB2.out.size (al W2 _).size) ?_; intro v5 W5 hr5 hb5; have HR5 := Lib.hid hr5; have HB5 := Lib.hid ((HB2.out.alloc HB2.out.size _).trans hb5); clear hr5 hb5))
                          go_roundg (S.size - (j + k))
                          case measure => omega
                          case rel => exact ⟨_, j + k, n, by go_num, rfl, HEN.out _ _ HB5.out HR5.out⟩
                        · have HE0 := Lib.hid (fun W hb => HER.out W _ hb (c1 hce) (by omega))
                          have hcb : (((conE (l.take k) : Nat) : Int) != 0) = true := by simpa using hce
                          generalize ((conE (l.take k) : Nat) : Int) = ce at *
                          clear c0 c1 hce
                          go_wp2_with (first | (go_at_call 26; (with_reducible refine (HDJ.out _).mono ?_); rintro e w' ⟨rfl, rfl⟩) | (go_at_call 27; refine (HCN.out _).mono ?_; rintro e W2 ⟨rfl, hb2⟩; have HB2 := Lib.hid (HBB.out.trans (hb2.mono HBB.out.size)); have HR2 := Lib.hid (row_below HRB.out hb2); clear hb2))
                          go_ret2
                          exact HE0.out _ HB2.out
                      | false =>
                        rw [hdg] at HDJ
                        obtain ⟨c0, c1⟩ := wn hdg
                        clear hdg wd wn
                        by_cases h64 : k ≤ 64
                        · have hfo := c0 h64
                          have h64i : (k : Int) ≤ 64 := by omega
                          have HEN : Hid (∀ W v, Below w.heap.size w W → W.ownsRow w.heap.size tK 3 v (acc ++ [Tok.nam (l.take k)]).length ((acc ++ [Tok.nam (l.take k)]).flatMap rtC) → RcSt S M w W (acc ++ [Tok.nam (l.take k)]) v (j + k) n) := Lib.hid (fun W v hb hr => HEND.out W v _ hb hr hfo ⟨fun e => by have := HKL.out; rw [e] at this; simp at this; omega, by have := HKL.out; omega⟩ rfl (by omega))
                          clear c0 c1 hfo
                          go_wp2_with (first | (go_at_call 26; (with_reducible refine (HDJ.out _).mono ?_); rintro e w' ⟨rfl, rfl⟩) | (at_builtin; refine rtok_app rfl (.tmp 104) (.tmp 112) rfl w.heap.size WB.heap.size acc _ (Tok.nam (l.take k)) ByteArray.empty (S.extract j (j + k)) 0 rfl HXE.out rfl rfl rfl (row_below HRB.out (al WB _)) (heap_alloc_new WB _) (by omega) (Nat.le_trans hwB (al WB _).size) ?_; intro v5 W5 hr5 hb5; have HR5 := Lib.hid hr5; have HB5 := Lib.hid ((HBB.out.alloc hwB _).trans hb5); clear hr5 hb5))
                          go_roundg (S.size - (j + k))
                          case measure => omega
                          case rel => exact ⟨_, j + k, n, by go_num, rfl, HEN.out _ _ HB5.out HR5.out⟩
                        · have HE0 := Lib.hid (HER.out WB 61 HBB.out (c1 (by omega)) (by decide))
                          have h64i : (64 : Int) < (k : Int) := by omega
                          clear c0 c1
                          go_wp2_with (first | (go_at_call 26; (with_reducible refine (HDJ.out _).mono ?_); rintro e w' ⟨rfl, rfl⟩))
                          go_ret2
                          exact HE0.out
                    · obtain ⟨hx1, hx2⟩ := HHX.out hex hl1 hl2
                      have HLT := Lib.hid hx1
                      have HDG := Lib.hid hx2
                      have hex2 : (j : Int) + (k : Int) < (S.size : Int) := by omega
                      clear hx1 hx2 hl1 hl2
                      cases hdg : digit S[j] with
                      | true =>
                        rw [hdg] at HDJ
                        obtain ⟨c0, c1⟩ := wd hdg
                        clear hdg wd wn
                        by_cases hce : conE (l.take k) = 0
                        · have hfo := c0 hce
                          rw [hce] at HCN
                          have HEN : Hid (∀ W v, Below w.heap.size w W → W.ownsRow w.heap.size tK 3 v (acc ++ [Tok.num (l.take k) ((conN (l.take k) : Nat) : Int)]).length ((acc ++ [Tok.num (l.take k) ((conN (l.take k) : Nat) : Int)]).flatMap rtC) → RcSt S M w W (acc ++ [Tok.num (l.take k) ((conN (l.take k) : Nat) : Int)]) v (j + k) n) := Lib.hid (fun W v hb hr => HEND.out W v _ hb hr hfo ⟨Int.natCast_nonneg _, by have := con_le (l.take k); unfold Go.Proofs.YtcadnkanjlmfhaaGreatDoor.NumM.M63 at this; omega⟩ rfl (by omega))
                          clear c0 c1 hfo hce
                          go_wp2_with (first | (go_at_call 24; refine (HLT.out _).mono ?_; rintro e w' ⟨rfl, rfl⟩) | (go_at_call 26; (with_reducible refine (HDG.out _).mono ?_); rintro e w' ⟨rfl, rfl⟩) | (go_at_call 26; (with_reducible refine (HDJ.out _).mono ?_); rintro e w' ⟨rfl, rfl⟩) | (go_at_call 27; refine (HCN.out _).mono ?_; rintro e W2 ⟨rfl, hb2⟩; have HB2 := Lib.hid (HBB.out.trans (hb2.mono HBB.out.size)); have HR2 := Lib.hid (row_below HRB.out hb2); clear hb2) | (at_builtin; refine rtok_app rfl (.tmp 97) (.tmp 100) rfl w.heap.size W2.heap.size acc _ (Tok.num (l.take k) ((conN (l.take k) : Nat) : Int)) ByteArray.empty ByteArray.empty _ rfl rfl rfl rfl rfl (row_below HR2.out (al W2 _)) (heap_alloc_new W2 _) (by omega) (Nat.le_trans HB2.out.size (al W2 _).size) ?_; intro v5 W5 hr5 hb5; have HR5 := Lib.hid hr5; have HB5 := Lib.hid ((HB2.out.alloc HB2.out.size _).trans hb5); clear hr5 hb5))
                          go_roundg (S.size - (j + k))
                          case measure => omega
                          case rel => exact ⟨_, j + k, n, by go_num, rfl, HEN.out _ _ HB5.out HR5.out⟩
                        · have HE0 := Lib.hid (fun W hb => HER.out W _ hb (c1 hce) (by omega))
                          have hcb : (((conE (l.take k) : Nat) : Int) != 0) = true := by simpa using hce
                          generalize ((conE (l.take k) : Nat) : Int) = ce at *
                          clear c0 c1 hce
                          go_wp2_with (first | (go_at_call 24; refine (HLT.out _).mono ?_; rintro e w' ⟨rfl, rfl⟩) | (go_at_call 26; (with_reducible refine (HDG.out _).mono ?_); rintro e w' ⟨rfl, rfl⟩) | (go_at_call 26; (with_reducible refine (HDJ.out _).mono ?_); rintro e w' ⟨rfl, rfl⟩) | (go_at_call 27; refine (HCN.out _).mono ?_; rintro e W2 ⟨rfl, hb2⟩; have HB2 := Lib.hid (HBB.out.trans (hb2.mono HBB.out.size)); have HR2 := Lib.hid (row_below HRB.out hb2); clear hb2))
                          go_ret2
                          exact HE0.out _ HB2.out
                      | false =>
                        rw [hdg] at HDJ
                        obtain ⟨c0, c1⟩ := wn hdg
                        clear hdg wd wn
                        by_cases h64 : k ≤ 64
                        · have hfo := c0 h64
                          have h64i : (k : Int) ≤ 64 := by omega
                          have HEN : Hid (∀ W v, Below w.heap.size w W → W.ownsRow w.heap.size tK 3 v (acc ++ [Tok.nam (l.take k)]).length ((acc ++ [Tok.nam (l.take k)]).flatMap rtC) → RcSt S M w W (acc ++ [Tok.nam (l.take k)]) v (j + k) n) := Lib.hid (fun W v hb hr => HEND.out W v _ hb hr hfo ⟨fun e => by have := HKL.out; rw [e] at this; simp at this; omega, by have := HKL.out; omega⟩ rfl (by omega))
                          clear c0 c1 hfo
                          go_wp2_with (first | (go_at_call 24; refine (HLT.out _).mono ?_; rintro e w' ⟨rfl, rfl⟩) | (go_at_call 26; (with_reducible refine (HDG.out _).mono ?_); rintro e w' ⟨rfl, rfl⟩) | (go_at_call 26; (with_reducible refine (HDJ.out _).mono ?_); rintro e w' ⟨rfl, rfl⟩) | (at_builtin; refine rtok_app rfl (.tmp 104) (.tmp 112) rfl w.heap.size WB.heap.size acc _ (Tok.nam (l.take k)) ByteArray.empty (S.extract j (j + k)) 0 rfl HXE.out rfl rfl rfl (row_below HRB.out (al WB _)) (heap_alloc_new WB _) (by omega) (Nat.le_trans hwB (al WB _).size) ?_; intro v5 W5 hr5 hb5; have HR5 := Lib.hid hr5; have HB5 := Lib.hid ((HBB.out.alloc hwB _).trans hb5); clear hr5 hb5))
                          go_roundg (S.size - (j + k))
                          case measure => omega
                          case rel => exact ⟨_, j + k, n, by go_num, rfl, HEN.out _ _ HB5.out HR5.out⟩
                        · have HE0 := Lib.hid (HER.out WB 61 HBB.out (c1 (by omega)) (by decide))
                          have h64i : (64 : Int) < (k : Int) := by omega
                          clear c0 c1
                          go_wp2_with (first | (go_at_call 24; refine (HLT.out _).mono ?_; rintro e w' ⟨rfl, rfl⟩) | (go_at_call 26; (with_reducible refine (HDG.out _).mono ?_); rintro e w' ⟨rfl, rfl⟩) | (go_at_call 26; (with_reducible refine (HDJ.out _).mono ?_); rintro e w' ⟨rfl, rfl⟩))
                          go_ret2
                          exact HE0.out
            · obtain ⟨f1, f2, f3, f4⟩ := sgn_yes h0
              obtain ⟨e1, e2⟩ := emp_no (b := nm (sgnL l)) (by rw [nm_data]; exact h0)
              have HNX : Hid (∀ W v, Below w.heap.size w W → W.ownsRow w.heap.size tK 3 v (acc ++ [Tok.sg (sgnL l)]).length ((acc ++ [Tok.sg (sgnL l)]).flatMap rtC) → RcSt S M w W (acc ++ [Tok.sg (sgnL l)]) v (j + (sgnL l).length) n) := Lib.hid (fun W v hb hr => HS1.out W _ v _ hb hr f1 f2 f3 rfl (by omega))
              obtain ⟨XB, hXB⟩ : ∃ x, nm (sgnL l) = x := ⟨_, rfl⟩
              have HXB := Lib.hid hXB
              have hxs : XB.size = (sgnL l).length := by rw [← hXB]; exact nm_size _
              rw [hXB] at e1 e2 ⊢
              obtain ⟨q, hq⟩ : ∃ q, (sgnL l).length = q := ⟨_, rfl⟩
              rw [hq] at hxs f3 f4
              have HQ := Lib.hid hq
              have hqs : j + q ≤ S.size := by omega
              have HXS := Lib.hid hxs
              have hxi : (XB.size : Int) = (q : Int) := by omega
              clear hXB f1 f2 h0 hq HER HS1 hlx hxs
              go_wp2_with (at_builtin; refine rtok_app rfl (.tmp 45) (.tmp 48) rfl w.heap.size WB.heap.size acc _ (.sg (sgnL l)) XB ByteArray.empty 0 HXB.out.symm rfl rfl rfl rfl (row_below HRB.out (al WB _)) (heap_alloc_new WB _) (by omega) (Nat.le_trans hwB (al WB _).size) ?_; intro v5 W5 hr5 hb5; have HR5 := Lib.hid hr5; have HB5 := Lib.hid ((HBB.out.alloc hwB _).trans hb5); clear hr5 hb5)
              go_roundg (S.size - (j + q))
              case measure => omega
              case rel => exact ⟨acc ++ [.sg (sgnL l)], j + q, n, by go_num, rfl, by rw [← HQ.out]; exact HNX.out _ _ HB5.out HR5.out⟩
    · have hil2 : ¬ (i : Int) < (S.size : Int) := by omega
      have HF : Hid (RCutP M w (.returned (.tuple #[.slice A4 acc.length c4, .int .i64 0])) wr) := Lib.hid (by
        have hc := HS0.out.cut
        rw [List.drop_of_length_le (by rw [← sizeD]; omega)] at hc
        exact RCutP.yes hc.symm HS0.out.bel HS0.out.row (by have := HS0.out.few; omega) HS0.out.ok)
      go_wp2_with fail
      go_ret2
      exact HF.out

end Go.Proofs.YtcadnkanjlmfhaaGreatDoor.Ar
