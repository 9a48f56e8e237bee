/- DERIVED. Texts of this claim, joined: ArREva, ArLawE, ArLawX, ArSig. -/
import Derived.Test.YtcadnkanjlmfhaaGreatDoorAzQ27
import Derived.Test.YtcadnkanjlmfhaaGreatDoorAzQ28
import Derived.BigQuiet
import Derived.Test.YtcadnkanjlmfhaaGreatDoorAzQ17
import Derived.Test.YtcadnkanjlmfhaaGreatDoorAzQ19
import Derived.Test.YtcadnkanjlmfhaaGreatDoorAzQ12
import Derived.Test.YtcadnkanjlmfhaaGreatDoorRows
import Derived.MakeChecks
import Derived.FnData
namespace Go.Proofs.YtcadnkanjlmfhaaGreatDoor.Ar
open Go.RowKit
open PathM WdM ArM
open Go.Proofs.YtcadnkanjlmfhaaGreatDoor.Wd
set_option linter.unusedVariables false

theorem toks_of {l : List Tok} (h : ∀ t ∈ l, RkD t) : Toks l := by
  intro t ht
  have := h t ht
  cases t with
  | sg s => trivial
  | num x k => exact ⟨by have := this.1; omega, this.2⟩
  | nam x => exact this.2
set_option maxRecDepth 100000 in
set_option maxHeartbeats 1600000 in
theorem rev_limit (s : Bs) (vs : Vs) (v : Value) (w : World) (hv : VaIn w v vs) (hl : s.length ≤ 4611686018427387904) (h : 8192 < s.length ∨ 64 < vs.length) :
    Calls Tryz.prog 8 #[.string (nm s), v] w (EvPost (evalL s vs) w) := by
  have HF := Lib.hid (EvPost.er (ev_limit h) (by decide) (Below.refl w.heap.size w))
  obtain ⟨A, c, rfl⟩ := hv.form
  have hsz : (nm s).size = s.length := nm_size s
  obtain ⟨sz, hsz2⟩ : ∃ sz, s.length = sz := ⟨_, rfl⟩
  rw [hsz2] at hsz h hl
  have HZ := Lib.hid hsz
  have hle : vs.length ≤ 1000000 := by obtain ⟨_, _, _, ⟨h, _⟩, _⟩ := hv; exact h
  generalize evalL s vs = M at *
  by_cases h1 : 8192 < sz
  · have h1' : 8192 < (nm s).size := by rw [hsz]; exact h1
    have h2' : (nm s).size ≤ 4611686018427387904 := by rw [hsz]; exact hl
    generalize vs.length = n at *
    generalize nm s = S at *
    clear hv h hsz hsz2 h1
    go_enter Tryz.func8, Tryz.ntmps8
    go_wp2_with fail
    go_ret3
    exact HF.out
  · have h1' : (nm s).size ≤ 8192 := by rw [hsz]; omega
    have h2 : 64 < vs.length := by omega
    generalize vs.length = n at *
    generalize nm s = S at *
    clear hv h hsz hsz2 h1
    go_enter Tryz.func8, Tryz.ntmps8
    go_wp2_with fail
    go_ret3
    exact HF.out
set_option maxRecDepth 100000 in
set_option maxHeartbeats 6400000 in
theorem rev_any (s : Bs) (vs : Vs) (v : Value) (w : World) (hv : VaIn w v vs) (h1 : s.length ≤ 8192) (h2 : vs.length ≤ 64) :
    Calls Tryz.prog 8 #[.string (nm s), v] w (EvPost (evalL s vs) w) := by
  have hno : ¬ (8192 < s.length ∨ 64 < vs.length) := by omega
  have HT := Lib.hid (rtokens_any s w h1)
  have HVI := Lib.hid hv
  have hs8 : (nm s).size ≤ 8192 := by rw [nm_size]; exact h1
  obtain ⟨Av, cv, hva⟩ := hv.form
  obtain ⟨len, hlen⟩ : ∃ len, vs.length = len := ⟨_, rfl⟩
  have HLEN := Lib.hid hlen
  rw [hlen] at hva h2
  subst hva
  have hER : ∀ e W, Below w.heap.size w W → evalL s vs = .error e → e ≠ 0 → EvPost (evalL s vs) w (.returned (.tuple #[.int .i64 0, .slice none 0 0, .int .i64 e])) W := fun e W hb he h0 => EvPost.er he h0 hb
  have HER := Lib.hid hER
  have HYES : Hid (∀ W n v2 vs2, evalL s vs = .ok (n, vs2) → In64 n → VaIn W v2 vs2 → vs2.length ≤ 64 → Below w.heap.size w W → EvPost (evalL s vs) w (.returned (.tuple #[.int .i64 n, v2, .int .i64 0])) W) := Lib.hid (fun W n v2 vs2 he hi hv hl hb => EvPost.yes he hi hv hl hb)
  have HNO := Lib.hid hno
  clear hv hER hlen
  obtain ⟨S, hS⟩ : ∃ S, nm s = S := ⟨_, rfl⟩
  rw [hS] at HT hs8 ⊢
  clear hS hno h1
  obtain ⟨Q, hQ⟩ : ∃ Q, EvPost (evalL s vs) w = Q := ⟨_, rfl⟩
  rw [hQ] at HER HYES ⊢
  clear hQ
  go_enter Tryz.func8, Tryz.ntmps8
  go_wp2_with fail
  refine HT.out.mono ?_
  rintro e W ⟨hbW, hm⟩
  have HBW := Lib.hid hbW
  cases hc : cutL s with
  | error er =>
    rw [hc] at hm
    obtain ⟨rfl, hne⟩ := hm
    have HF := Lib.hid (HER.out er W hbW (ev_cut HNO.out hc) hne)
    have hq : (er != 0) = true := by simpa using hne
    clear hc hne hbW HT
    go_wp2_with fail
    go_ret3
    exact HF.out
  | ok l =>
    rw [hc] at hm
    obtain ⟨A, c, rfl, htk⟩ := hm
    cases l with
    | nil =>
      have HF := Lib.hid (HYES.out W 0 _ vs (ev_none HNO.out hc) ⟨by decide, by decide⟩ (HVI.out.below hbW) (by have := HLEN.out; omega) hbW)
      clear hc hbW HT htk
      simp only [List.length_nil]
      go_wp2_with fail
      go_ret3
      exact HF.out
    | cons t0 r0 =>
      obtain ⟨b, rfl, hrt⟩ := htk (by simp)
      obtain ⟨l, hl⟩ : ∃ l, t0 :: r0 = l := ⟨_, rfl⟩
      rw [hl] at hrt hc ⊢
      have hlne : l ≠ [] := by rw [← hl]; simp
      have hlp : 1 ≤ l.length := by rw [← hl]; simp
      have hll := hrt.len
      have htoks := toks_of hrt.ok
      obtain ⟨M, hM⟩ : ∃ M, (rdD (l.length + 1)).all 0 l = M := ⟨_, rfl⟩
      have hrd := readL_doc l
      rw [hM] at hrd
      have HALL : Hid (Calls Tryz.prog 16 #[.slice (some ⟨b, 0, none⟩) l.length c, .int .i64 0, .int .i64 0] W (RdP l M W)) := Lib.hid (by
        have := (rfam W.heap.size b 0 c l (l.length + 1)).1 0 (by omega) 0 0 W rfl (by omega) (by omega) (Nat.le_refl _) hrt
        rw [List.drop_zero, hM] at this
        exact this)
      have HRE : Hid (∀ e, readL l = .error e → evalL s vs = .error e) := Lib.hid (fun e he => ev_read HNO.out hc hlne he)
      have HRK : Hid (∀ t, readL l = .ok t → evalL s vs = reckonL t vs) := Lib.hid (fun t ht => ev_reck HNO.out hc hlne ht)
      have HRD := Lib.hid hrd
      have HTO := Lib.hid htoks
      obtain ⟨n, hn⟩ : ∃ n, l.length = n := ⟨_, rfl⟩
      have HN := Lib.hid hn
      rw [hn] at HALL hlp hll ⊢
      clear hc hbW HT htk hl hrt hM hrd htoks hlne hn
      go_wp2_with fail
      refine HALL.out.mono ?_
      intro e W4 hq
      obtain ⟨S9, N9, k9, A9, m9, q9, i9, x9, rfl⟩ := hq.form
      have HQ := Lib.hid hq
      have HB4 := Lib.hid (HBW.out.trans (hq.1.mono HBW.out.size))
      clear hq HALL
      by_cases hx9 : x9 = 0
      · subst hx9
        obtain ⟨t, r, S', N', i', hM, rfl, rfl, rfl, hr, hi', hnd⟩ := HQ.out.got
        by_cases hend : i' = l.length
        · have hr0 : r = [] := by rw [← hr, hend]; exact List.drop_length ..
          have hread : readL l = .ok t := by rw [HRD.out, hM, hr0]; rfl
          have htm : TmOk t := read_good HTO.out hread
          have HEV := Lib.hid (HRK.out t hread)
          have HRC : Hid (∀ W6, Below W4.heap.size W4 W6 → Calls Tryz.prog 17 #[.agg #[.string (nm S'), .string (nm N'), .int .i64 k9, .slice A9 m9 q9], .slice Av len cv] W6 (GoP (.slice Av len cv) vs (reckonL t vs) W6)) := Lib.hid (fun W6 h6 => rreckon_any t htm _ S' N' k9 _ vs _ W6 (NdR.keep (D' := fun b => W.heap.size ≤ b) (fun b h1 h2 => ⟨h1, Nat.lt_of_lt_of_le h2 h6.size, h6.block b h2⟩) _ _ _ _ _ hnd) (HVI.out.below (HB4.out.trans (h6.mono HB4.out.size))) (by have := HLEN.out; omega))
          have hin : (i' : Int) = (n : Int) := by have := HN.out; omega
          have HTM := Lib.hid htm
          clear hM HQ hr hi' hnd hr0 hread htm hend HRD HRE HRK
          generalize nm S' = S' at *
          generalize nm N' = N' at *
          generalize (i' : Int) = ii at *
          go_wp2_with fail
          refine (HRC.out _ (al W4 _)).mono ?_
          intro e W6 hq
          obtain ⟨n8, A8, m8, c8, x8, rfl⟩ := hq.form
          have HQ8 := Lib.hid hq
          have HB6 := Lib.hid ((HB4.out.alloc HB4.out.size _).trans (hq.1.mono (Nat.le_trans HB4.out.size (al W4 _).size)))
          clear hq HRC
          by_cases hx8 : x8 = 0
          · subst hx8
            obtain ⟨vs2, hM8, hv8, hl8, _⟩ := HQ8.out.got
            have hi8 : In64 n8 := reckon_in t vs n8 vs2 HTM.out hM8
            have HF := Lib.hid (fun o => HYES.out _ _ _ vs2 (HEV.out.trans hM8) hi8 (hv8.below (al W6 o)) hl8 (HB6.out.alloc HB6.out.size o))
            have HF2 := Lib.hid (fun o q => HYES.out _ _ _ vs2 (HEV.out.trans hM8) hi8 ((hv8.below (al W6 o)).drewN q) hl8 (bel_drewN (HB6.out.alloc HB6.out.size o) q))
            clear hM8 hv8 hi8
            go_wp2_with fail
            first
              | (go_ret3
                 exact HF.out _)
              | (go_quiet (fail)
                 go_wp2_with fail
                 go_ret3
                 exact HF2.out _ _)
          · have HF := Lib.hid (fun W hb => HER.out x8 W hb (HEV.out.trans (HQ8.out.fell hx8)) hx8)
            have hq8 : (x8 != 0) = true := by simpa using hx8
            have HBA := Lib.hid (fun o q => bel_drewN (HB6.out.alloc HB6.out.size o) q)
            go_wp2_with fail
            go_quiet (fail)
            go_wp2_with fail
            go_ret3
            exact HF.out _ (HBA.out _ _)
        · have hrn : r ≠ [] := by
            intro e
            have := congrArg List.length (hr.trans e)
            rw [List.length_drop] at this
            simp at this
            omega
          have hread : readL l = .error 61 := by
            rw [HRD.out, hM]
            dsimp only
            rw [if_neg (by simpa using hrn)]
          have HF := Lib.hid (fun W hb => HER.out 61 W hb (HRE.out _ hread) (by decide))
          have HBA := Lib.hid (fun o q => bel_drewN (HB4.out.alloc HB4.out.size o) q)
          have hin : ¬ (i' : Int) = (n : Int) := by have := HN.out; omega
          clear hM HQ hr hi' hnd hrn hread hend HRD HRE HRK
          generalize nm S' = S' at *
          generalize nm N' = N' at *
          generalize (i' : Int) = ii at *
          go_wp2_with fail
          go_quiet (fail)
          go_wp2_with fail
          go_ret3
          exact HF.out _ (HBA.out _ _)
      · have hME := HQ.out.fell hx9
        have hre : readL l = .error x9 := by rw [HRD.out, hME]
        have HF := Lib.hid (fun W hb => HER.out x9 W hb (HRE.out _ hre) hx9)
        have hq9 : (x9 != 0) = true := by simpa using hx9
        have HBA := Lib.hid (fun o q => bel_drewN (HB4.out.alloc HB4.out.size o) q)
        have hbx := fun o => heap_alloc_new W4 o
        clear hME hre
        go_wp2_with fail
        go_quiet (fail)
        go_wp2_with fail
        go_ret3
        exact HF.out _ (HBA.out _ _)

end Go.Proofs.YtcadnkanjlmfhaaGreatDoor.Ar
namespace Go.Proofs.YtcadnkanjlmfhaaGreatDoor.Ar
open Go.RowKit
open PathM WdM ArM
open Go.Proofs.YtcadnkanjlmfhaaGreatDoor.Wd
set_option linter.unusedVariables false

theorem rev_all (s : Bs) (vs : Vs) (v : Value) (w : World) (hv : VaIn w v vs) (hl : s.length ≤ 4611686018427387904) : Calls Tryz.prog 8 #[.string (nm s), v] w (EvPost (evalL s vs) w) := by
  by_cases h : 8192 < s.length ∨ 64 < vs.length
  · exact rev_limit s vs v w hv hl h
  · exact rev_any s vs v w hv (by omega) (by omega)
end Go.Proofs.YtcadnkanjlmfhaaGreatDoor.Ar
namespace Go.Proofs.YtcadnkanjlmfhaaGreatDoor.Ar
open Go.RowKit
open PathM WdM ArM
open Go.Proofs.YtcadnkanjlmfhaaGreatDoor.Wd
set_option linter.unusedVariables false

theorem VaX.below {w w' : World} {v : Value} {vs : Vs} (h : VaX w v vs) (hb : Below w.heap.size w w') : VaX w' v vs := by
  obtain ⟨A, c, hv, hl, h⟩ := h
  refine ⟨A, c, hv, hl, fun hne => ?_⟩
  obtain ⟨b, off, hA, hlt, hc⟩ := h hne
  exact ⟨b, off, hA, Nat.lt_of_lt_of_le hlt hb.size, fun i hi => ⟨(World.cell?_of_block (hb.block b hlt)).trans (hc i hi).1, (World.cell?_of_block (hb.block b hlt)).trans (hc i hi).2⟩⟩
set_option maxRecDepth 100000 in
set_option maxHeartbeats 1600000 in
/-- Too many variables, by the program. -/
theorem eval_many (s : Bs) (vs : Vs) (A : Option Addr) (n c : Nat) (w : World) (hn : vs.length = n) (hv : n ≤ 4611686018427387904) (hl : s.length ≤ 4611686018427387904) (h : 64 < n) :
    Calls Tryz.prog 7 #[.string (nm s), .slice A n c] w (EvPost (evalL s vs) w) := by
  have HF := Lib.hid (EvPost.er (ev_limit (s := s) (vs := vs) (.inr (by omega))) (by decide) (Below.refl w.heap.size w))
  have hsz : (nm s).size = s.length := nm_size s
  have h2 : (nm s).size ≤ 4611686018427387904 := by omega
  generalize evalL s vs = M at *
  clear hn hl
  by_cases h1 : 8192 < (nm s).size
  · generalize nm s = S at *
    clear hsz
    go_enter Tryz.func7, Tryz.ntmps7
    go_wp2_with fail
    go_ret3
    exact HF.out
  · have h1' : (nm s).size ≤ 8192 := by omega
    clear h1
    generalize nm s = S at *
    clear hsz
    go_enter Tryz.func7, Tryz.ntmps7
    go_wp2_with fail
    go_ret3
    exact HF.out
set_option maxRecDepth 100000 in
set_option maxHeartbeats 1600000 in
/-- Too many variables, by the document. -/
theorem rev_many (s : Bs) (vs : Vs) (A : Option Addr) (n c : Nat) (w : World) (hn : vs.length = n) (hv : n ≤ 4611686018427387904) (hl : s.length ≤ 4611686018427387904) (h : 64 < n) :
    Calls Tryz.prog 8 #[.string (nm s), .slice A n c] w (EvPost (evalL s vs) w) := by
  have HF := Lib.hid (EvPost.er (ev_limit (s := s) (vs := vs) (.inr (by omega))) (by decide) (Below.refl w.heap.size w))
  have hsz : (nm s).size = s.length := nm_size s
  have h2 : (nm s).size ≤ 4611686018427387904 := by omega
  generalize evalL s vs = M at *
  clear hn hl
  by_cases h1 : 8192 < (nm s).size
  · generalize nm s = S at *
    clear hsz
    go_enter Tryz.func8, Tryz.ntmps8
    go_wp2_with fail
    go_ret3
    exact HF.out
  · have h1' : (nm s).size ≤ 8192 := by omega
    clear h1
    generalize nm s = S at *
    clear hsz
    go_enter Tryz.func8, Tryz.ntmps8
    go_wp2_with fail
    go_ret3
    exact HF.out
theorem eval_x (s : Bs) (vs : Vs) (v : Value) (w : World) (hg : SigIn w) (hv : VaX w v vs) (hl : s.length ≤ 4611686018427387904) :
    Calls Tryz.prog 7 #[.string (nm s), v] w (EvPost (evalL s vs) w) := by
  by_cases h : 64 < vs.length
  · obtain ⟨A, c, rfl, h2⟩ := hv.form
    exact eval_many s vs A _ c w rfl h2 hl h
  · exact eval_any s vs v w hg (hv.va (by omega)) hl
theorem rev_x (s : Bs) (vs : Vs) (v : Value) (w : World) (hv : VaX w v vs) (hl : s.length ≤ 4611686018427387904) :
    Calls Tryz.prog 8 #[.string (nm s), v] w (EvPost (evalL s vs) w) := by
  by_cases h : 64 < vs.length
  · obtain ⟨A, c, rfl, h2⟩ := hv.form
    exact rev_many s vs A _ c w rfl h2 hl h
  · exact rev_all s vs v w (hv.va (by omega)) hl
def IsB (e : Ending) : Prop := ∃ b, e = .returned (.bool b)
theorem IsB.mk (b : Bool) : IsB (.returned (.bool b)) := ⟨b, rfl⟩
set_option maxRecDepth 100000 in
set_option maxHeartbeats 1600000 in
theorem rshort_any (S : ByteArray) (vs : Vs) (v : Value) (w : World) (hv : VaX w v vs) (hS : S.size ≤ 4611686018427387904) : Calls Tryz.prog 5 #[.string S, v] w fun e w' => IsB e ∧ w' = w := by
  obtain ⟨A, c, rfl, ⟨hl, hsz⟩, hcell⟩ := hv
  have HCE := Lib.hid hcell
  have HSZ := Lib.hid hsz
  obtain ⟨n, hn⟩ : ∃ n, vs.length = n := ⟨_, rfl⟩
  have HN := Lib.hid hn
  rw [hn] at hl ⊢
  clear hcell hn hsz
  go_enter Tryz.func5, Tryz.ntmps5
  go_wp2_with fail
  go_loopg [5, 6] n (fun g x5 x6 wr => ∃ (i : Nat) (m : Int), g = n - i ∧ x5 = .int .i64 m ∧ x6 = .int .i64 i ∧ i ≤ n ∧ wr = w)
  case atStart => exact ⟨0, 0, by omega, rfl, rfl, by omega, rfl⟩
  case round =>
    obtain ⟨i, m, rfl, rfl, rfl, hi, hwr⟩ := hrel
    obtain rfl : w = wr := hwr.symm
    by_cases hil : i < n ∧ i ≤ 64
    · obtain ⟨hil, h64⟩ := hil
      have hil2 : i < vs.length := by have := HN.out; omega
      obtain ⟨b, off, hA, hb, hcs⟩ := HCE.out (fun e => by rw [e] at hil2; cases hil2)
      subst hA
      obtain ⟨-, a1⟩ := hcs i hil2
      have hs2 := (HSZ.out _ (List.getElem_mem hil2)).2
      have hs3 : (nm vs[i].2).size ≤ 4611686018427387904 := by rw [nm_size]; exact hs2
      generalize nm vs[i].2 = X at *
      have hil3 : (i : Int) < (n : Int) := by omega
      have h64i : (i : Int) ≤ 64 := by omega
      clear hcs hs2
      by_cases hX : 1000 < X.size
      · have hXi : (1000 : Int) < (X.size : Int) := by omega
        go_wp2_with fail
        go_ret
        exact ⟨IsB.mk _, rfl⟩
      · have hXi : ¬ (1000 : Int) < (X.size : Int) := by omega
        go_wp2_with fail
        go_roundg (n - (i + 1))
        case measure => omega
        case rel => exact ⟨i + 1, _, rfl, rfl, by go_num, by omega, rfl⟩
    · have hor : ¬ (i : Int) < (n : Int) ∨ ((i : Int) < (n : Int) ∧ ¬ (i : Int) ≤ 64) := by omega
      rcases hor with h | ⟨h, h'⟩
      all_goals
        by_cases h6 : S.size ≤ 600
        · have h6i : (S.size : Int) ≤ 600 := by omega
          go_wp2_with fail
          go_ret
          exact ⟨IsB.mk _, rfl⟩
        · have h6i : ¬ (S.size : Int) ≤ 600 := by omega
          by_cases h8 : 8192 < S.size
          · have h8i : (8192 : Int) < (S.size : Int) := by omega
            go_wp2_with fail
            go_ret
            exact ⟨IsB.mk _, rfl⟩
          · have h8i : ¬ (8192 : Int) < (S.size : Int) := by omega
            go_wp2_with fail
            go_ret
            exact ⟨IsB.mk _, rfl⟩

set_option maxRecDepth 100000 in
set_option maxHeartbeats 1600000 in
/-- What every text is, with any variables. -/
theorem evals_law (s : Bs) (vs : Vs) (v : Value) (w : World) (hg : SigIn w) (hv : VaX w v vs) (hl : s.length ≤ 4611686018427387904) :
    Calls Tryz.prog 3 #[.string (nm s), v] w fun e w' => e = .returned (.bool true) ∧ Below w.heap.size w w' := by
  have HS := Lib.hid (rshort_any (nm s) vs v w hv (by rw [nm_size]; exact hl))
  have HA : Hid (∀ W, Below w.heap.size w W → Calls Tryz.prog 6 #[] W fun e w' => e = .returned (.bool true) ∧ Below W.heap.size W w') := Lib.hid (fun W hb => awake_any W (hg.below hb))
  have HP := Lib.hid (eval_x s vs v w hg hv hl)
  have HR : Hid (∀ W, Below w.heap.size w W → Calls Tryz.prog 8 #[.string (nm s), v] W (EvPost (evalL s vs) W)) := Lib.hid (fun W hb => rev_x s vs v W (hv.below hb) hl)
  have HB0 := Lib.hid (Below.refl w.heap.size w)
  obtain ⟨A, c, rfl, hvl⟩ := hv.form
  generalize vs.length = len at *
  generalize nm s = S at *
  clear hv hg hl
  go_enter Tryz.func3, Tryz.ntmps3
  go_wp2_with fail
  refine HS.out.mono ?_
  rintro e W ⟨⟨b, rfl⟩, rfl⟩
  cases b with
  | false =>
    go_wp2_with (go_at_call 6; refine (HA.out _ HB0.out).mono ?_; rintro e W2 ⟨rfl, hb⟩; have HB := Lib.hid hb; clear hb)
    go_ret
    exact ⟨rfl, HB.out⟩
  | true =>
    go_wp2_with fail
    refine HP.out.mono ?_
    rintro e W1 ⟨hb1, hm1⟩
    have HB1 := Lib.hid hb1
    cases hM : evalL s vs with
    | error er =>
      rw [hM] at hm1 HR
      obtain ⟨hne, rfl⟩ := hm1
      have HVS := Lib.hid (fun W => vars_same [] (.slice none 0 0) (.slice none 0 0) W (va_nil W) (va_nil W))
      clear hM hb1
      go_wp2_with fail
      refine (HR.out _ HB1.out).mono ?_
      rintro e W2 ⟨hb2, hne2, rfl⟩
      have HB2 := Lib.hid (HB1.out.trans (hb2.mono HB1.out.size))
      clear hb2 hne2
      go_wp2_with (first | (go_at_call 9; refine (HVS.out _).mono ?_; rintro e W3 ⟨rfl, q, rfl⟩; have HB3 := Lib.hid (bel_drewN HB2.out q)) | (go_at_call 6; refine (HA.out _ HB3.out).mono ?_; rintro e W4 ⟨rfl, hb⟩; have HB := Lib.hid (HB3.out.trans (hb.mono HB3.out.size)); clear hb))
      go_ret
      exact ⟨rfl, HB.out⟩
    | ok p =>
      obtain ⟨n, vs2⟩ := p
      rw [hM] at hm1 HR
      obtain ⟨-, v1, rfl, hv1, hl1⟩ := hm1
      have HV1 := Lib.hid hv1
      obtain ⟨A1, c1, rfl⟩ := hv1.form
      clear hM hb1 hv1
      go_wp2_with fail
      refine (HR.out _ HB1.out).mono ?_
      rintro e W2 ⟨hb2, -, v2, rfl, hv2, -⟩
      have HB2 := Lib.hid (HB1.out.trans (hb2.mono HB1.out.size))
      obtain ⟨A2, c2, rfl⟩ := hv2.form
      have HVS := Lib.hid (vars_same vs2 _ _ W2 (HV1.out.below hb2) hv2)
      clear hb2 hv2
      generalize vs2.length = len2 at *
      go_wp2_with (first | (go_at_call 9; refine HVS.out.mono ?_; rintro e W3 ⟨rfl, q, rfl⟩; have HB3 := Lib.hid (bel_drewN HB2.out q)) | (go_at_call 6; refine (HA.out _ HB3.out).mono ?_; rintro e W4 ⟨rfl, hb⟩; have HB := Lib.hid (HB3.out.trans (hb.mono HB3.out.size)); clear hb))
      go_ret
      exact ⟨rfl, HB.out⟩

theorem evals_row (s : ByteArray) (vs : Vs) (v : Value) (w : World) (hs : s.size ≤ maxLen) (hz : s.data.toList.length ≤ reachBytes) (hv : VaX w v vs) (hg : SigIn w) :
    Calls Tryz.prog 3 #[.string s, v] w fun e w' => e = .returned (.bool true) ∧ Below w.heap.size w w' := by
  have := evals_law s.data.toList vs v w hg hv (by unfold reachBytes at hz; omega)
  rw [nm_of] at this
  exact this
end Go.Proofs.YtcadnkanjlmfhaaGreatDoor.Ar
namespace Go.Proofs.YtcadnkanjlmfhaaGreatDoor.Ar
open Go.RowKit
open PathM WdM ArM
open Go.Proofs.YtcadnkanjlmfhaaGreatDoor.Wd
set_option linter.unusedVariables false

theorem mapM_all {α β : Type} (f : α → Option β) : ∀ (l : List α) (xs : List β), l.mapM f = some xs → xs.length = l.length ∧ ∀ i (h : i < l.length) (h2 : i < xs.length), f l[i] = some xs[i]
  | [], xs, h => by
    simp only [List.mapM_nil, Option.pure_def, Option.some.injEq] at h
    subst h
    exact ⟨rfl, fun i h => absurd h (by simp)⟩
  | a :: l, xs, h => by
    rw [List.mapM_cons] at h
    simp only [Option.bind_eq_bind, Option.bind_eq_some_iff, Option.pure_def, Option.some.injEq] at h
    obtain ⟨y, hy, ys, hys, rfl⟩ := h
    obtain ⟨h1, h2⟩ := mapM_all f l ys hys
    refine ⟨by simp [h1], ?_⟩
    intro i hi hi2
    cases i with
    | zero => exact hy
    | succ i => exact h2 i (by simpa using hi) (by simpa using hi2)
theorem trod_string {H : Type} {enc : TypeId × Value → H} {P : Program} {w : World} {base : Nat} {sp : Nat → Bool} {held : Bool} {fuel : Nat} {t : TypeId} {c : Value} {y : DataW H × List MemPlace}
    (ht : P.underlying t = some .string) (h : DataW.trod enc P w base sp held fuel t [c] = some y) : ∃ s : ByteArray, c = .string s ∧ y = (.lit (.string s.data.toList), []) := by
  cases fuel with
  | zero => simp [DataW.trod] at h
  | succ fuel =>
    cases c <;> simp [DataW.trod, ht] at h
    rename_i s
    obtain ⟨_, rfl⟩ := h
    exact ⟨s, rfl, rfl⟩
theorem trod_strings {H : Type} {enc : TypeId × Value → H} {P : Program} {w : World} {base : Nat} {sp : Nat → Bool} {held : Bool} {fuel : Nat} {t e : TypeId} {n : Nat} {cs : List Value} {ds : List (DataW H)} {p : List MemPlace}
    (hu : P.underlying t = some (.array n e)) (he : P.underlying e = some .string) (hce : P.cellsOf e = 1) (hct : P.cellsOf t = n) (h : DataW.trod enc P w base sp held fuel t cs = some (.agg ds, p)) :
    cs.length = n ∧ ∀ i, i < n → ∃ s : ByteArray, cs[i]? = some (.string s) ∧ ds[i]? = some (.lit (.string s.data.toList)) := by
  cases fuel with
  | zero => simp [DataW.trod] at h
  | succ fuel =>
    simp only [DataW.trod, hu, hce, hct] at h
    split at h
    · rename_i hl
      simp only [Option.map_eq_some_iff, Prod.mk.injEq, DataW.agg.injEq] at h
      obtain ⟨xs, hx, hd, _⟩ := h
      obtain ⟨h1, h2⟩ := mapM_all _ _ _ hx
      rw [List.length_range] at h1
      refine ⟨hl, fun i hi => ?_⟩
      have h3 := h2 i (by rw [List.length_range]; exact hi) (by omega)
      rw [List.getElem_range] at h3
      have hil : i < cs.length := by omega
      have e1 : (cs.drop (i * 1)).take 1 = [cs[i]] := by
        rw [Nat.mul_one, List.drop_eq_getElem_cons hil]; rfl
      rw [e1] at h3
      obtain ⟨s, hs1, hs2⟩ := trod_string he h3
      refine ⟨s, by rw [List.getElem?_eq_getElem hil, hs1], ?_⟩
      rw [← hd, List.getElem?_map, List.getElem?_eq_getElem (by omega), hs2]
      rfl
    · cases h
def sigD : List (DataW Unit) := match (Rows.laid_rehearsal_arith_signs : DataW Unit) with | .agg l => l | _ => []
theorem sigD_at : ∀ i, i < 35 → sigD[i]? = some (.lit (.string (signsA.getD i [])))
  | 0, _ => rfl
  | 1, _ => rfl
  | 2, _ => rfl
  | 3, _ => rfl
  | 4, _ => rfl
  | 5, _ => rfl
  | 6, _ => rfl
  | 7, _ => rfl
  | 8, _ => rfl
  | 9, _ => rfl
  | 10, _ => rfl
  | 11, _ => rfl
  | 12, _ => rfl
  | 13, _ => rfl
  | 14, _ => rfl
  | 15, _ => rfl
  | 16, _ => rfl
  | 17, _ => rfl
  | 18, _ => rfl
  | 19, _ => rfl
  | 20, _ => rfl
  | 21, _ => rfl
  | 22, _ => rfl
  | 23, _ => rfl
  | 24, _ => rfl
  | 25, _ => rfl
  | 26, _ => rfl
  | 27, _ => rfl
  | 28, _ => rfl
  | 29, _ => rfl
  | 30, _ => rfl
  | 31, _ => rfl
  | 32, _ => rfl
  | 33, _ => rfl
  | 34, _ => rfl
  | n + 35, h => absurd h (by omega)
theorem sigC_at : ∀ i, i < 35 → sigC.toList[i]? = some (.string (nm (signsA.getD i [])))
  | 0, _ => rfl
  | 1, _ => rfl
  | 2, _ => rfl
  | 3, _ => rfl
  | 4, _ => rfl
  | 5, _ => rfl
  | 6, _ => rfl
  | 7, _ => rfl
  | 8, _ => rfl
  | 9, _ => rfl
  | 10, _ => rfl
  | 11, _ => rfl
  | 12, _ => rfl
  | 13, _ => rfl
  | 14, _ => rfl
  | 15, _ => rfl
  | 16, _ => rfl
  | 17, _ => rfl
  | 18, _ => rfl
  | 19, _ => rfl
  | 20, _ => rfl
  | 21, _ => rfl
  | 22, _ => rfl
  | 23, _ => rfl
  | 24, _ => rfl
  | 25, _ => rfl
  | 26, _ => rfl
  | 27, _ => rfl
  | 28, _ => rfl
  | 29, _ => rfl
  | 30, _ => rfl
  | 31, _ => rfl
  | 32, _ => rfl
  | 33, _ => rfl
  | 34, _ => rfl
  | n + 35, h => absurd h (by omega)
theorem sig_one {W : World} {ps : List MemPlace} {r : List (String × DataW Unit)} (h : DataW.LaidVars Tryz.prog W (("rehearsal/arith.signs", Rows.laid_rehearsal_arith_signs) :: r) ps) : SigIn W := by
  obtain ⟨g, t, cs, fuel, p, q, hg, ht, hvar, hd, _, _⟩ := h
  obtain rfl := Option.some.inj ((show Tryz.prog.globalNamed "rehearsal/arith.signs" = some 0 by kernel_rfl).symm.trans hg)
  obtain rfl := Option.some.inj ((show (Tryz.prog.globals[0]?).map (·.type) = some 94 by kernel_rfl).symm.trans ht)
  have hd2 : DataW.trod (fun _ => ()) Tryz.prog W 0 (fun _ => true) false fuel 94 cs.toList = some (.agg sigD, p) := hd
  obtain ⟨h1, h2⟩ := trod_strings Tryz.underlying94 Tryz.underlying70 (by kernel_rfl) (by kernel_rfl) hd2
  have hcs : cs = sigC := by
    apply Array.toList_inj.1
    apply List.ext_getElem?
    intro i
    by_cases hi : i < 35
    · obtain ⟨s, hs1, hs2⟩ := h2 i hi
      rw [sigD_at i hi] at hs2
      simp only [Option.some.injEq, DataW.lit.injEq, Lit.string.injEq] at hs2
      rw [hs1, sigC_at i hi]
      have : s = nm (signsA.getD i []) := by rw [hs2]; exact (nm_of s).symm
      rw [this]
    · rw [List.getElem?_eq_none (by omega), List.getElem?_eq_none (by show sigC.toList.length ≤ i; show 35 ≤ i; omega)]
  subst hcs
  simp only [World.var?, hg, Option.bind_some] at hvar
  split at hvar
  · rename_i cs t' fr hh
    cases hvar
    exact ⟨_, _, hh⟩
  · cases hvar
theorem laid_tail {P : Program} {W : World} {ps : List MemPlace} {x : String × DataW Unit} {r : List (String × DataW Unit)} (h : DataW.LaidVars P W (x :: r) ps) : ∃ q, DataW.LaidVars P W r q := by
  obtain ⟨g, t, cs, fuel, p, q, _, _, _, _, hq, _⟩ := h
  exact ⟨q, hq⟩
theorem sig_laid {W : World} {x : String × DataW Unit} {r : List (String × DataW Unit)} (hn : ((x :: ("rehearsal/arith.signs", (Rows.laid_rehearsal_arith_signs : DataW Unit)) :: r).all fun x => x.2.handleName?.isNone) = true) (h : laidMetH Tryz.prog (x :: ("rehearsal/arith.signs", Rows.laid_rehearsal_arith_signs) :: r) W) : SigIn W := by
  rw [MakeChecks.laidMetH_plain _ _ _ hn] at h
  obtain ⟨ps, hl, _⟩ := h
  obtain ⟨q, hq⟩ := laid_tail hl
  exact sig_one hq
end Go.Proofs.YtcadnkanjlmfhaaGreatDoor.Ar
