/- DERIVED. Texts of this claim, joined: ArCutW. -/
import Derived.Test.YtcadnkanjlmfhaaGreatDoorAzQ12
import Derived.Shelf.Strings.SlTrimAscii
import Derived.OwnWalk
import Derived.RangeFuncBox
namespace Go.Proofs.YtcadnkanjlmfhaaGreatDoor.Ar
open Go.RowKit
open PathM WdM ArM
open Go.Proofs.YtcadnkanjlmfhaaGreatDoor.Wd
open Go.Proofs.YtcadnkanjlmfhaaGreatDoor.NumM (conE conN readN readN_le M63)
set_option linter.unusedVariables false

theorem row_below {W W' : World} {base : Nat} {e : TypeId} {size : Nat} {v : Value} {k : Nat} {xs : List Value} (h : W.ownsRow base e size v k xs) (hb : Below W.heap.size W W') : W'.ownsRow base e size v k xs := by
  obtain ⟨g1, g2⟩ := h
  refine ⟨g1, g2.imp id ?_⟩
  rintro ⟨g, cap, cur, hv, hg, hh, hr⟩
  exact ⟨g, cap, cur, hv, hg, (hb.block g (Array.getElem?_eq_some_iff.1 hh).1).trans hh, hr⟩
theorem row_cells {W : World} {base : Nat} {e : TypeId} {size g n cap : Nat} {xs : List Value} (h : W.ownsRow base e size (.slice (some ⟨g, 0, none⟩) n cap) n xs) (j : Nat) (u : Value) (hj : xs[j]? = some u) : W.cell? ⟨g, j, none⟩ = some u := by
  rcases h.2 with ⟨h0, _⟩ | ⟨g', cap', cur, hv, _, hh, _, _, _, hx⟩
  · cases h0
  · cases hv
    have hc : cur[j]? = some u := by
      rw [← hx] at hj
      rw [List.getElem?_take] at hj
      split at hj
      · simpa using hj
      · cases hj
    simp [World.cell?, hh, hc]
theorem row_two {W : World} {base : Nat} {e : TypeId} {size : Nat} {v : Value} {k : Nat} {xs : List Value} (h : W.ownsRow base e size v k xs) : (v = .slice none 0 0 ∧ k = 0) ∨ ∃ g cap, v = .slice (some ⟨g, 0, none⟩) k cap ∧ k ≤ cap ∧ g < W.heap.size ∧ base ≤ g := by
  rcases h.2 with h0 | ⟨g, cap, cur, rfl, hg, hh, h1, h2, h3, _⟩
  · exact .inl h0
  · exact .inr ⟨g, cap, rfl, h1, fin_at hh, hg⟩
theorem row_lt {W : World} {base : Nat} {e : TypeId} {size : Nat} {v : Value} {k : Nat} {xs : List Value} (h : W.ownsRow base e size v k xs) {b : Nat} (hb : v.ownBlock = some b) : b < W.heap.size ∧ base ≤ b := by
  rcases h.2 with ⟨rfl, _⟩ | ⟨g, cap, cur, rfl, hg, hh, _⟩
  · cases hb
  · obtain rfl : g = b := by simpa [Value.ownBlock] using hb
    exact ⟨fin_at hh, hg⟩
theorem cellsL (W : World) (cs : List Value) (t : TypeId) : ∀ (j : Nat) (u : Value), cs[j]? = some u → (W.alloc (.cells cs.toArray t)).cell? ((⟨W.heap.size, 0, none⟩ : Addr).add j) = some u := by
  intro j u hj
  cases j with
  | zero => simpa [Addr.add] using hj
  | succ j => simpa [Addr.add] using hj
theorem cellsL2 (W : World) (n : Nat) (cs : List Value) (t : TypeId) (hn : n = W.heap.size) : ∀ (j : Nat) (u : Value), cs[j]? = some u → (W.alloc (.cells cs.toArray t)).cell? ((⟨n, 0, none⟩ : Addr).add j) = some u := by subst hn; exact cellsL W cs t
theorem infoT : (Tryz.prog.info? 72).map (fun i => (i.zero, i.size, i.bytes)) = some (some (.agg #[.string ByteArray.empty, .string ByteArray.empty, .int .i64 0]), 3, 40) := by kernel_rfl
theorem oneT (a b : ByteArray) (k : Int) : ∀ u ∈ [Value.string a, .string b, .int .i64 k], u.oneCell' = true := by
  intro u hu
  simp at hu
  rcases hu with rfl | rfl | rfl <;> rfl
def tokC (t : Tok) : List Value := [.string (nm (sgOf t)), .string (nm t.text), .int .i64 (nOf t)]
theorem tokC_at : ∀ (l : List Tok) (i : Nat) (h : i < l.length), (l.flatMap tokC)[i * 3]? = some (.string (nm (sgOf l[i]))) ∧ (l.flatMap tokC)[i * 3 + 1]? = some (.string (nm l[i].text)) ∧ (l.flatMap tokC)[i * 3 + 2]? = some (.int .i64 (nOf l[i]))
  | [], i, h => absurd h (by simp)
  | t :: l, 0, _ => ⟨rfl, rfl, rfl⟩
  | t :: l, i + 1, h => by
    have := tokC_at l i (by simpa using h)
    rw [show (i + 1) * 3 = i * 3 + 3 by omega]
    simpa [List.flatMap_cons, tokC, List.getElem?_append] using this
theorem tks_row {W : World} {base : Nat} {v : Value} {l : List Tok} (h : W.ownsRow base 72 3 v l.length (l.flatMap tokC)) (hl : l.length ≤ 1000000) (hk : ∀ t ∈ l, TkOk t) : TksIn W.heap.size W v l := by
  rcases row_two h with ⟨rfl, h0⟩ | ⟨g, cap, rfl, h1, h2, _⟩
  · have : l = [] := List.length_eq_zero_iff.1 h0
    subst this
    exact ⟨none, 0, rfl, ⟨by simp, by simp, hk⟩, fun h => absurd rfl h⟩
  · refine ⟨_, _, rfl, ⟨h1, hl, hk⟩, fun _ => ⟨g, 0, rfl, h2, fun i hi => ?_⟩⟩
    obtain ⟨a, b, c⟩ := tokC_at l i hi
    rw [Nat.zero_add]
    exact ⟨row_cells h _ _ a, row_cells h _ _ b, row_cells h _ _ c⟩
theorem con_le (l : List UInt8) : conN l ≤ M63 := by
  unfold conN
  (repeat' split) <;> first | exact readN_le _ _ _ | exact Nat.zero_le _
theorem first_ok {s : Bs} {t : Tok} (h : firstL s = .ok t) (hs : s.length ≤ 8192) : TkOk t := by
  have hl := (first_len h).2
  unfold firstL at h
  split at h
  · rename_i o ho
    cases h
    exact ⟨(signs_len o (List.mem_of_find?_eq_some ho)).2, (signs_len o (List.mem_of_find?_eq_some ho)).1⟩
  · split at h
    · cases h
    · split at h
      · split at h
        · cases h
          exact ⟨Int.natCast_nonneg _, by have := con_le (‹UInt8› :: ‹List UInt8›); unfold M63 at this; omega⟩
        · cases h
      · split at h
        · cases h
          exact Nat.le_trans hl hs
        · cases h
theorem info256 : (Tryz.prog.info? 88).map (fun i => (i.zero, i.size)) = some (some (.agg (Array.replicate 256 (.bool false))), 256) := by kernel_rfl
theorem trim_blank (s : Bs) : Lib.trimLeftS s [32, 9, 10] = s.dropWhile blankA := by
  unfold Lib.trimLeftS
  congr 1
  funext c
  unfold blankA
  show (match c == 32 with | true => true | false => match c == 9 with | true => true | false => match c == 10 with | true => true | false => false) = _
  cases c == 32 <;> cases c == 9 <;> cases c == 10 <;> rfl
theorem trim_any (s : Bs) (w : World) : Calls Tryz.prog 19 #[.string (nm s), .string ⟨#[32, 9, 10]⟩] w fun e w' => e = .returned (.string (nm (s.dropWhile blankA))) ∧ Below w.heap.size w w' := by
  have h1 : (⟨#[32, 9, 10]⟩ : ByteArray).size < 4294967281 := by decide +kernel
  have h2 := ascii_of_all (l := (⟨#[32, 9, 10]⟩ : ByteArray).data.toList) (by decide +kernel)
  have h3 := Any.strings_TrimLeft_laid Tryz.lays161 (by kernel_rfl) (nm s) ⟨#[32, 9, 10]⟩ w h1 h2
  refine Calls.mono (f := 19) h3 ?_
  rintro e w' ⟨rfl, hb⟩
  refine ⟨?_, hb⟩
  rw [nm_data, show (⟨#[32, 9, 10]⟩ : ByteArray).data.toList = [32, 9, 10] from rfl, trim_blank]
  rfl
/-- How cut ends. -/
def CutPost (m : Except Int (List Tok)) (w : World) (e : Ending) (w' : World) : Prop := Below w.heap.size w w' ∧ match m with
  | .ok l => ∃ v, e = .returned (.tuple #[v, .int .i64 0]) ∧ TksIn w'.heap.size w' v l
  | .error er => er ≠ 0 ∧ e = .returned (.tuple #[.slice none 0 0, .int .i64 er])
theorem CutPost.yes {m : Except Int (List Tok)} {w w' : World} {l : List Tok} {v : Value} (hm : m = .ok l) (hv : TksIn w'.heap.size w' v l) (h : Below w.heap.size w w') : CutPost m w (.returned (.tuple #[v, .int .i64 0])) w' := by subst hm; exact ⟨h, v, rfl, hv⟩
theorem CutPost.no {m : Except Int (List Tok)} {w w' : World} {er : Int} (hm : m = .error er) (hn : er ≠ 0) (h : Below w.heap.size w w') : CutPost m w (.returned (.tuple #[.slice none 0 0, .int .i64 er])) w' := by subst hm; exact ⟨h, hn, rfl⟩
/-- Where cut's loop stands. -/
def CutRel (w : World) (m : Except Int (List Tok)) (g : Nat) (x0 x4 : Value) (W : World) : Prop := ∃ (acc : List Tok) (s : Bs) (n : Nat), x0 = .string (nm s) ∧ g = s.length ∧ s.length < n ∧ acc.length + s.length ≤ 8192 ∧ W.ownsRow w.heap.size 72 3 x4 acc.length (acc.flatMap tokC) ∧ Below w.heap.size w W ∧ cutN n acc s = m ∧ ∀ t ∈ acc, TkOk t
theorem dw_head {s : Bs} {c : UInt8} {r : Bs} (h : s.dropWhile blankA = c :: r) : blankA c = false := by
  induction s with
  | nil => cases h
  | cons a s ih =>
    rw [List.dropWhile_cons] at h
    split at h
    · exact ih h
    · rename_i ha
      simp only [List.cons.injEq] at h
      rw [← h.1]; simpa using ha
/-- What is left to show behind a token. -/
def CutNext (w : World) (M : Except Int (List Tok)) (g : Nat) (acc : List Tok) (t : Tok) (X : Bs) : Prop := ∃ n, X.length < n + 1 ∧ acc.length + X.length ≤ 8192 ∧ X.length ≤ g ∧ cutN n (acc ++ [t]) (X.drop t.text.length) = M ∧ TkOk t ∧ ∀ t ∈ acc, TkOk t
theorem CutNext.rel {w : World} {M : Except Int (List Tok)} {g : Nat} {acc : List Tok} {t : Tok} {X : Bs} (h : CutNext w M g acc t X) (h1 : 1 ≤ t.text.length) (h2 : t.text.length ≤ X.length) {v : Value} {W : World} (hr : W.ownsRow w.heap.size 72 3 v (acc.length + 1) (acc.flatMap tokC ++ [.string (nm (sgOf t)), .string (nm t.text), .int .i64 (nOf t)])) (hb : Below w.heap.size w W) {Y : ByteArray} (hY : Y = nm (X.drop t.text.length)) :
    ∃ g', g' < g ∧ CutRel w M g' (.string Y) v W := by
  obtain ⟨n, a1, a2, a3, a4, a5, a6⟩ := h
  refine ⟨(X.drop t.text.length).length, by rw [List.length_drop]; omega, acc ++ [t], X.drop t.text.length, n, by rw [hY], rfl, by rw [List.length_drop]; omega, by rw [List.length_append, List.length_drop]; simp; omega, ?_, hb, a4, ?_⟩
  · rw [List.length_append, List.flatMap_append]
    simpa [tokC] using hr
  · intro x hx
    rcases List.mem_append.1 hx with h | h
    · exact a6 x h
    · simp at h; rw [h]; exact a5

set_option maxRecDepth 100000 in
set_option maxHeartbeats 1600000 in
theorem cut_any (s : Bs) (w : World) (hs : SigIn w) (hl : s.length ≤ 8192) :
    Calls Tryz.prog 12 #[.string (nm s)] w (CutPost (cutL s) w) := by
  obtain ⟨i0, hi, hz0, hz1, hz2⟩ := info_parts infoT
  have HI := Lib.hid hi; have HZ0 := Lib.hid hz0; have HZ1 := Lib.hid hz1; have HZ2 := Lib.hid hz2; clear hi hz0 hz1 hz2
  have HFI : Hid (∀ (X : Bs) (W : World), Below w.heap.size w W → X ≠ [] → X.length ≤ 8192 → Calls Tryz.prog 21 #[.string (nm X)] W (FirstPost (firstL X) W)) := Lib.hid (fun X W hW h0 h1 => first_any X W (hs.below hW) h0 h1)
  have hst : CutRel w (cutL s) s.length (.string (nm s)) (.slice none 0 0) w := ⟨[], s, s.length + 1, rfl, rfl, by omega, by simpa using hl, World.ownsRow_nil _ _ _ _, Below.refl _ _, rfl, by simp⟩
  have HST := Lib.hid hst
  generalize cutL s = M at *
  generalize nm s = S at *
  generalize s.length = g0 at *
  clear hst hs hl
  go_enter Tryz.func12, Tryz.ntmps12
  go_wp2_with fail
  go_loopg [0, 4] g0 (fun g x0 x4 wr => CutRel w M g x0 x4 wr)
  case atStart => exact HST.out
  case round =>
    clear HST S g0 s
    obtain ⟨acc, s, n, rfl, rfl, hn, hlen, hrow, hbe, hc, hok⟩ := hrel
    obtain ⟨n, rfl⟩ : ∃ n', n = n' + 1 := ⟨n - 1, by omega⟩
    rw [cut_step] at hc
    have hdl := dw_len s
    have HT := Lib.hid (fun W => trim_any s W)
    have HDH := Lib.hid (fun c r => @dw_head s c r)
    generalize s.dropWhile blankA = D at *
    have HROW := Lib.hid hrow
    have HBE := Lib.hid hbe
    have HOK := Lib.hid hok
    have hle := hbe.size
    clear hrow hbe hok
    cases D with
    | nil =>
      have HM := Lib.hid hc
      clear hc
      rw [show nm [] = (⟨#[]⟩ : ByteArray) from rfl] at HT
      generalize nm s = S at *
      go_wp2_with (go_at_call 19; refine (HT.out _).mono ?_; rintro e W1 ⟨rfl, hb⟩; have HB1 := Lib.hid hb; clear hb)
      have HF := Lib.hid (CutPost.yes HM.out.symm (tks_row (row_below HROW.out HB1.out) (by omega) HOK.out) (HBE.out.trans (HB1.out.mono hle)))
      go_ret2
      exact HF.out
    | cons c r =>
      dsimp only at hc
      obtain ⟨hne, hl2⟩ := dollar_len c r
      have hl1 : (c :: r).length = r.length + 1 := rfl
      rw [hl1] at hdl
      clear hl1
      have HFX := Lib.hid (fun W hW => HFI.out (dollarL (c :: r)) W hW hne (by omega))
      have hsz : (nm (c :: r)).size = r.length + 1 := by rw [nm_size]; rfl
      have hp : 0 < (nm (c :: r)).size := by omega
      have HSZ := Lib.hid hsz
      clear hsz
      have h0 : (nm (c :: r))[0] = c := by
        have := Wd.get_at (nm (c :: r)) 0 hp
        rw [List.drop_zero, nm_data] at this
        exact (List.cons.inj this).1.symm
      obtain ⟨e1, e2⟩ := emp_no (b := nm (c :: r)) (by rw [nm_data]; simp)
      generalize hXd : dollarL (c :: r) = X at *
      cases hf : firstL X with
      | error er =>
        rw [hf] at hc HFX
        have HM := Lib.hid hc
        clear hc hf
        by_cases hc36 : c = 36
        · subst hc36
          have q0 : (((nm (36 :: r))[0].toNat : Int) == 36) = true := by rw [h0]; rfl
          cases r with
          | nil =>
            obtain rfl : X = [36] := hXd.symm
            clear hXd hl2 hdl hn hlen hne HDH
            have hs1 : (nm [36]).size = 1 := rfl
            clear HSZ
            clear h0
            generalize nm [36] = Y at *
            generalize nm s = S at *
            go_wp2_with (first | (go_at_call 19; refine (HT.out _).mono ?_; rintro e W1 ⟨rfl, hb⟩; have HB1 := Lib.hid (HBE.out.trans (hb.mono hle)); have HR1 := Lib.hid (row_below HROW.out hb); have hz1 := hb.size; clear hb) | fail)
            refine (HFX.out _ HB1.out).mono ?_
            rintro e W3 ⟨hb3, hne0, a, b, k, rfl⟩
            have HF := Lib.hid (CutPost.no HM.out.symm hne0 ((HB1.out.trans (hb3.mono HB1.out.size)).alloc (Nat.le_trans HB1.out.size hb3.size) (.cells #[.string a, .string b, .int .i64 k] 72)))
            have hq : (er != 0) = true := by simpa using hne0
            clear hb3 hne0
            go_wp2_with fail
            go_ret2
            exact HF.out
          | cons d r =>
            have h1s : 1 < (nm (36 :: d :: r)).size := by rw [HSZ.out]; simp
            have h1 : (nm (36 :: d :: r))[1] = d := by
              have := Wd.get_at (nm (36 :: d :: r)) 1 h1s
              rw [nm_data] at this
              exact (List.cons.inj this).1.symm
            have HLT := Lib.hid (fun W => letter_any (nm (36 :: d :: r))[1] W)
            rw [h1] at HLT
            have q1 : ((nm (36 :: d :: r))[1].toNat : Int) = (d.toNat : Int) := by rw [h1]
            cases hd : letter d with
            | true =>
              have hX : dollarL (36 :: d :: r) = d :: r := by show (if (36 : UInt8) = 36 ∧ letter d = true then _ else _) = _; rw [if_pos ⟨rfl, hd⟩]
              obtain rfl : X = d :: r := hXd.symm.trans hX
              clear hXd hl2 hdl hn hlen hne HDH
              rw [hd] at HLT
              have hX1 : (nm (36 :: d :: r)).extract 1 (nm (36 :: d :: r)).size = nm (d :: r) := by rw [Wd.ext_from, nm_data]; rfl
              clear h0 h1 hX hd
              generalize nm (36 :: d :: r) = Z at *
              generalize nm (d :: r) = Y at *
              generalize nm s = S at *
              go_wp2_with (first | (go_at_call 19; refine (HT.out _).mono ?_; rintro e W1 ⟨rfl, hb⟩; have HB1 := Lib.hid (HBE.out.trans (hb.mono hle)); have HR1 := Lib.hid (row_below HROW.out hb); have hz1 := hb.size; clear hb) | (go_at_call 20; refine (HLT.out _).mono ?_; rintro e W2 ⟨rfl, rfl⟩) | fail)
              refine (HFX.out _ HB1.out).mono ?_
              rintro e W3 ⟨hb3, hne0, a, b, k, rfl⟩
              have HF := Lib.hid (CutPost.no HM.out.symm hne0 ((HB1.out.trans (hb3.mono HB1.out.size)).alloc (Nat.le_trans HB1.out.size hb3.size) (.cells #[.string a, .string b, .int .i64 k] 72)))
              have hq : (er != 0) = true := by simpa using hne0
              clear hb3 hne0
              go_wp2_with fail
              go_ret2
              exact HF.out
            | false =>
              have hX : dollarL (36 :: d :: r) = 36 :: d :: r := by show (if (36 : UInt8) = 36 ∧ letter d = true then _ else _) = _; rw [if_neg (by rw [hd]; simp)]
              obtain rfl : X = 36 :: d :: r := hXd.symm.trans hX
              clear hXd hl2 hdl hn hlen hne HDH
              rw [hd] at HLT
              clear h0 h1 hX hd
              generalize nm (36 :: d :: r) = Y at *
              generalize nm s = S at *
              go_wp2_with (first | (go_at_call 19; refine (HT.out _).mono ?_; rintro e W1 ⟨rfl, hb⟩; have HB1 := Lib.hid (HBE.out.trans (hb.mono hle)); have HR1 := Lib.hid (row_below HROW.out hb); have hz1 := hb.size; clear hb) | (go_at_call 20; refine (HLT.out _).mono ?_; rintro e W2 ⟨rfl, rfl⟩) | fail)
              refine (HFX.out _ HB1.out).mono ?_
              rintro e W3 ⟨hb3, hne0, a, b, k, rfl⟩
              have HF := Lib.hid (CutPost.no HM.out.symm hne0 ((HB1.out.trans (hb3.mono HB1.out.size)).alloc (Nat.le_trans HB1.out.size hb3.size) (.cells #[.string a, .string b, .int .i64 k] 72)))
              have hq : (er != 0) = true := by simpa using hne0
              clear hb3 hne0
              go_wp2_with fail
              go_ret2
              exact HF.out
        · have q0 : (((nm (c :: r))[0].toNat : Int) == 36) = false := by rw [h0]; exact beq_eq_false_iff_ne.2 (fun h => hc36 (UInt8.toNat_inj.1 (by have : (36 : UInt8).toNat = 36 := rfl; omega)))
          have hX : dollarL (c :: r) = c :: r := dollar_no c r hc36
          obtain rfl : X = c :: r := hXd.symm.trans hX
          clear hXd hl2 hdl hn hlen hne HDH
          clear h0 hX hc36
          generalize nm (c :: r) = Y at *
          generalize nm s = S at *
          go_wp2_with (first | (go_at_call 19; refine (HT.out _).mono ?_; rintro e W1 ⟨rfl, hb⟩; have HB1 := Lib.hid (HBE.out.trans (hb.mono hle)); have HR1 := Lib.hid (row_below HROW.out hb); have hz1 := hb.size; clear hb) | fail)
          refine (HFX.out _ HB1.out).mono ?_
          rintro e W3 ⟨hb3, hne0, a, b, k, rfl⟩
          have HF := Lib.hid (CutPost.no HM.out.symm hne0 ((HB1.out.trans (hb3.mono HB1.out.size)).alloc (Nat.le_trans HB1.out.size hb3.size) (.cells #[.string a, .string b, .int .i64 k] 72)))
          have hq : (er != 0) = true := by simpa using hne0
          clear hb3 hne0
          go_wp2_with fail
          go_ret2
          exact HF.out
      | ok t =>
        rw [hf] at hc HFX
        dsimp only at hc
        obtain ⟨ht1, ht2⟩ := first_len hf
        have hto := first_ok hf (by omega)
        have hnx : CutNext w M s.length acc t X := ⟨n, by omega, by omega, by omega, hc, hto, HOK.out⟩
        have HREL : Hid (∀ v W Y, W.ownsRow w.heap.size 72 3 v (acc.length + 1) (acc.flatMap tokC ++ [.string (nm (sgOf t)), .string (nm t.text), .int .i64 (nOf t)]) → Below w.heap.size w W → Y = nm (X.drop t.text.length) → ∃ g', g' < s.length ∧ CutRel w M g' (.string Y) v W) := Lib.hid (fun v W Y h1 h2 h3 => hnx.rel ht1 ht2 h1 h2 h3)
        have HEX : Hid ((nm X).extract (nm t.text).size (nm X).size = nm (X.drop t.text.length)) := Lib.hid (by rw [nm_size t.text, Wd.ext_from, nm_data])
        have hsl : (nm t.text).size ≤ (nm X).size := by rw [nm_size, nm_size]; exact ht2
        have hacc : acc.length ≤ 8192 := by omega
        clear hc hf hnx ht1 ht2 hto
        by_cases hc36 : c = 36
        · subst hc36
          have q0 : (((nm (36 :: r))[0].toNat : Int) == 36) = true := by rw [h0]; rfl
          cases r with
          | nil =>
            obtain rfl : X = [36] := hXd.symm
            clear hXd hl2 hdl hn hlen hne HDH
            have hs1 : (nm [36]).size = 1 := rfl
            clear HSZ
            clear h0
            generalize nm [36] = Y at *
            generalize nm s = S at *
            go_wp2_with (first | (go_at_call 19; refine (HT.out _).mono ?_; rintro e W1 ⟨rfl, hb⟩; have HB1 := Lib.hid (HBE.out.trans (hb.mono hle)); have HR1 := Lib.hid (row_below HROW.out hb); have hz1 := hb.size; clear hb) | fail)
            refine (HFX.out _ HB1.out).mono ?_
            rintro e W3 ⟨hb3, rfl⟩
            have HR3 := Lib.hid (row_below HR1.out hb3)
            have HB3 := Lib.hid (HB1.out.trans (hb3.mono HB1.out.size))
            have hz3 := Nat.le_trans HB1.out.size hb3.size
            have HEX := HEX.out
            try rw [hs1] at HEX
            generalize nm (List.drop t.text.length _) = YD at *
            unfold tokV
            generalize nm (sgOf t) = SG at *
            generalize nm t.text = TX at *
            generalize nOf t = kk at *
            clear hb3 HR1 HB1 HROW HFX HT hz1
            generalize acc.length = an at *
            generalize acc.flatMap tokC = ac at *
            go_wp2_with (at_builtin; refine wpList_append_own _ rfl _ _ 39 rfl w.heap.size 72 i0 (.agg #[.string ByteArray.empty, .string ByteArray.empty, .int .i64 0]) 3 40 Tryz.underlying39 HI.out HZ0.out HZ1.out HZ2.out rfl (by decide) _ _ _ rfl ((HR3.out.alloc _).alloc _) ⟨W3.heap.size + 1, 0, none⟩ 1 1 [.string SG, .string TX, .int .i64 kk] rfl rfl (cellsL2 _ _ _ _ (by simp)) (oneT _ _ _) (maxLen_ok (by omega)) (by omega) (by simp; omega) ?_; intro v5 w5 hown5 hg5 _; obtain ⟨g5, c5, rfl⟩ := ownsRow_succ hown5; have hblk := (hg5.block W3.heap.size (by simp; omega) (fun e => by have := (row_lt HR3.out e.symm).1; omega)).trans ((Below.heap_alloc _ _ _ (by simp)).trans (heap_alloc_new W3 _)); have c1 := cell_blk hblk 1; simp at c1; have z5 := fin_at hblk; have HB5 := Lib.hid (((HB3.out.alloc hz3 _).alloc (by simp; omega) _).grown hg5 (by simp; omega) (fun j e => (HR3.out.lt j e).1)); have HOW := Lib.hid hown5; clear hown5 hg5 hblk)
            obtain ⟨g', hg', hrl⟩ := HREL.out _ _ _ HOW.out HB5.out rfl
            have HRL := Lib.hid hrl
            clear hrl
            go_roundg g'
            case measure => exact hg'
            case rel => exact HRL.out
          | cons d r =>
            have h1s : 1 < (nm (36 :: d :: r)).size := by rw [HSZ.out]; simp
            have h1 : (nm (36 :: d :: r))[1] = d := by
              have := Wd.get_at (nm (36 :: d :: r)) 1 h1s
              rw [nm_data] at this
              exact (List.cons.inj this).1.symm
            have HLT := Lib.hid (fun W => letter_any (nm (36 :: d :: r))[1] W)
            rw [h1] at HLT
            have q1 : ((nm (36 :: d :: r))[1].toNat : Int) = (d.toNat : Int) := by rw [h1]
            cases hd : letter d with
            | true =>
              have hX : dollarL (36 :: d :: r) = d :: r := by show (if (36 : UInt8) = 36 ∧ letter d = true then _ else _) = _; rw [if_pos ⟨rfl, hd⟩]
              obtain rfl : X = d :: r := hXd.symm.trans hX
              clear hXd hl2 hdl hn hlen hne HDH
              rw [hd] at HLT
              have hX1 : (nm (36 :: d :: r)).extract 1 (nm (36 :: d :: r)).size = nm (d :: r) := by rw [Wd.ext_from, nm_data]; rfl
              clear h0 h1 hX hd
              generalize nm (36 :: d :: r) = Z at *
              generalize nm (d :: r) = Y at *
              generalize nm s = S at *
              go_wp2_with (first | (go_at_call 19; refine (HT.out _).mono ?_; rintro e W1 ⟨rfl, hb⟩; have HB1 := Lib.hid (HBE.out.trans (hb.mono hle)); have HR1 := Lib.hid (row_below HROW.out hb); have hz1 := hb.size; clear hb) | (go_at_call 20; refine (HLT.out _).mono ?_; rintro e W2 ⟨rfl, rfl⟩) | fail)
              refine (HFX.out _ HB1.out).mono ?_
              rintro e W3 ⟨hb3, rfl⟩
              have HR3 := Lib.hid (row_below HR1.out hb3)
              have HB3 := Lib.hid (HB1.out.trans (hb3.mono HB1.out.size))
              have hz3 := Nat.le_trans HB1.out.size hb3.size
              have HEX := HEX.out
              try rw [hs1] at HEX
              generalize nm (List.drop t.text.length _) = YD at *
              unfold tokV
              generalize nm (sgOf t) = SG at *
              generalize nm t.text = TX at *
              generalize nOf t = kk at *
              clear hb3 HR1 HB1 HROW HFX HT hz1
              generalize acc.length = an at *
              generalize acc.flatMap tokC = ac at *
              go_wp2_with (at_builtin; refine wpList_append_own _ rfl _ _ 39 rfl w.heap.size 72 i0 (.agg #[.string ByteArray.empty, .string ByteArray.empty, .int .i64 0]) 3 40 Tryz.underlying39 HI.out HZ0.out HZ1.out HZ2.out rfl (by decide) _ _ _ rfl ((HR3.out.alloc _).alloc _) ⟨W3.heap.size + 1, 0, none⟩ 1 1 [.string SG, .string TX, .int .i64 kk] rfl rfl (cellsL2 _ _ _ _ (by simp)) (oneT _ _ _) (maxLen_ok (by omega)) (by omega) (by simp; omega) ?_; intro v5 w5 hown5 hg5 _; obtain ⟨g5, c5, rfl⟩ := ownsRow_succ hown5; have hblk := (hg5.block W3.heap.size (by simp; omega) (fun e => by have := (row_lt HR3.out e.symm).1; omega)).trans ((Below.heap_alloc _ _ _ (by simp)).trans (heap_alloc_new W3 _)); have c1 := cell_blk hblk 1; simp at c1; have z5 := fin_at hblk; have HB5 := Lib.hid (((HB3.out.alloc hz3 _).alloc (by simp; omega) _).grown hg5 (by simp; omega) (fun j e => (HR3.out.lt j e).1)); have HOW := Lib.hid hown5; clear hown5 hg5 hblk)
              obtain ⟨g', hg', hrl⟩ := HREL.out _ _ _ HOW.out HB5.out rfl
              have HRL := Lib.hid hrl
              clear hrl
              go_roundg g'
              case measure => exact hg'
              case rel => exact HRL.out
            | false =>
              have hX : dollarL (36 :: d :: r) = 36 :: d :: r := by show (if (36 : UInt8) = 36 ∧ letter d = true then _ else _) = _; rw [if_neg (by rw [hd]; simp)]
              obtain rfl : X = 36 :: d :: r := hXd.symm.trans hX
              clear hXd hl2 hdl hn hlen hne HDH
              rw [hd] at HLT
              clear h0 h1 hX hd
              generalize nm (36 :: d :: r) = Y at *
              generalize nm s = S at *
              go_wp2_with (first | (go_at_call 19; refine (HT.out _).mono ?_; rintro e W1 ⟨rfl, hb⟩; have HB1 := Lib.hid (HBE.out.trans (hb.mono hle)); have HR1 := Lib.hid (row_below HROW.out hb); have hz1 := hb.size; clear hb) | (go_at_call 20; refine (HLT.out _).mono ?_; rintro e W2 ⟨rfl, rfl⟩) | fail)
              refine (HFX.out _ HB1.out).mono ?_
              rintro e W3 ⟨hb3, rfl⟩
              have HR3 := Lib.hid (row_below HR1.out hb3)
              have HB3 := Lib.hid (HB1.out.trans (hb3.mono HB1.out.size))
              have hz3 := Nat.le_trans HB1.out.size hb3.size
              have HEX := HEX.out
              try rw [hs1] at HEX
              generalize nm (List.drop t.text.length _) = YD at *
              unfold tokV
              generalize nm (sgOf t) = SG at *
              generalize nm t.text = TX at *
              generalize nOf t = kk at *
              clear hb3 HR1 HB1 HROW HFX HT hz1
              generalize acc.length = an at *
              generalize acc.flatMap tokC = ac at *
              go_wp2_with (at_builtin; refine wpList_append_own _ rfl _ _ 39 rfl w.heap.size 72 i0 (.agg #[.string ByteArray.empty, .string ByteArray.empty, .int .i64 0]) 3 40 Tryz.underlying39 HI.out HZ0.out HZ1.out HZ2.out rfl (by decide) _ _ _ rfl ((HR3.out.alloc _).alloc _) ⟨W3.heap.size + 1, 0, none⟩ 1 1 [.string SG, .string TX, .int .i64 kk] rfl rfl (cellsL2 _ _ _ _ (by simp)) (oneT _ _ _) (maxLen_ok (by omega)) (by omega) (by simp; omega) ?_; intro v5 w5 hown5 hg5 _; obtain ⟨g5, c5, rfl⟩ := ownsRow_succ hown5; have hblk := (hg5.block W3.heap.size (by simp; omega) (fun e => by have := (row_lt HR3.out e.symm).1; omega)).trans ((Below.heap_alloc _ _ _ (by simp)).trans (heap_alloc_new W3 _)); have c1 := cell_blk hblk 1; simp at c1; have z5 := fin_at hblk; have HB5 := Lib.hid (((HB3.out.alloc hz3 _).alloc (by simp; omega) _).grown hg5 (by simp; omega) (fun j e => (HR3.out.lt j e).1)); have HOW := Lib.hid hown5; clear hown5 hg5 hblk)
              obtain ⟨g', hg', hrl⟩ := HREL.out _ _ _ HOW.out HB5.out rfl
              have HRL := Lib.hid hrl
              clear hrl
              go_roundg g'
              case measure => exact hg'
              case rel => exact HRL.out
        · have q0 : (((nm (c :: r))[0].toNat : Int) == 36) = false := by rw [h0]; exact beq_eq_false_iff_ne.2 (fun h => hc36 (UInt8.toNat_inj.1 (by have : (36 : UInt8).toNat = 36 := rfl; omega)))
          have hX : dollarL (c :: r) = c :: r := dollar_no c r hc36
          obtain rfl : X = c :: r := hXd.symm.trans hX
          clear hXd hl2 hdl hn hlen hne HDH
          clear h0 hX hc36
          generalize nm (c :: r) = Y at *
          generalize nm s = S at *
          go_wp2_with (first | (go_at_call 19; refine (HT.out _).mono ?_; rintro e W1 ⟨rfl, hb⟩; have HB1 := Lib.hid (HBE.out.trans (hb.mono hle)); have HR1 := Lib.hid (row_below HROW.out hb); have hz1 := hb.size; clear hb) | fail)
          refine (HFX.out _ HB1.out).mono ?_
          rintro e W3 ⟨hb3, rfl⟩
          have HR3 := Lib.hid (row_below HR1.out hb3)
          have HB3 := Lib.hid (HB1.out.trans (hb3.mono HB1.out.size))
          have hz3 := Nat.le_trans HB1.out.size hb3.size
          have HEX := HEX.out
          try rw [hs1] at HEX
          generalize nm (List.drop t.text.length _) = YD at *
          unfold tokV
          generalize nm (sgOf t) = SG at *
          generalize nm t.text = TX at *
          generalize nOf t = kk at *
          clear hb3 HR1 HB1 HROW HFX HT hz1
          generalize acc.length = an at *
          generalize acc.flatMap tokC = ac at *
          go_wp2_with (at_builtin; refine wpList_append_own _ rfl _ _ 39 rfl w.heap.size 72 i0 (.agg #[.string ByteArray.empty, .string ByteArray.empty, .int .i64 0]) 3 40 Tryz.underlying39 HI.out HZ0.out HZ1.out HZ2.out rfl (by decide) _ _ _ rfl ((HR3.out.alloc _).alloc _) ⟨W3.heap.size + 1, 0, none⟩ 1 1 [.string SG, .string TX, .int .i64 kk] rfl rfl (cellsL2 _ _ _ _ (by simp)) (oneT _ _ _) (maxLen_ok (by omega)) (by omega) (by simp; omega) ?_; intro v5 w5 hown5 hg5 _; obtain ⟨g5, c5, rfl⟩ := ownsRow_succ hown5; have hblk := (hg5.block W3.heap.size (by simp; omega) (fun e => by have := (row_lt HR3.out e.symm).1; omega)).trans ((Below.heap_alloc _ _ _ (by simp)).trans (heap_alloc_new W3 _)); have c1 := cell_blk hblk 1; simp at c1; have z5 := fin_at hblk; have HB5 := Lib.hid (((HB3.out.alloc hz3 _).alloc (by simp; omega) _).grown hg5 (by simp; omega) (fun j e => (HR3.out.lt j e).1)); have HOW := Lib.hid hown5; clear hown5 hg5 hblk)
          obtain ⟨g', hg', hrl⟩ := HREL.out _ _ _ HOW.out HB5.out rfl
          have HRL := Lib.hid hrl
          clear hrl
          go_roundg g'
          case measure => exact hg'
          case rel => exact HRL.out
end Go.Proofs.YtcadnkanjlmfhaaGreatDoor.Ar
