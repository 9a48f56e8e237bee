/- DERIVED. The document's own table: New. -/
import Derived.Test.YtdegkfnlafgheaaVrRGet2
import Derived.Deep.RegionLaw
import Derived.Deep.CutRange
import Derived.Deep.Cut
import Derived.Deep.LoopGhost
namespace Go.Proofs.Ytdegkfnlafgheaa.Vr
open Go.RowKit
open PathM WdM VrM
open Go.Proofs.Ytdegkfnlafgheaa.Wd
set_option linter.unusedVariables false
/-- A table of the document's own lies there. -/
def Tb3 (W : World) (tb : Nat) (A1 : Option Addr) (n1 c1 : Nat) (A2 : Option Addr) (n2 c2 : Nat) (st : Int) : Prop := W.heap[tb]? = some (.cells #[.slice A1 n1 c1, .slice A2 n2 c2, .int .i64 st] 36 (0, 0))
def put3 (W : World) (tb : Nat) (x0 x1 x2 : Value) : World := ((W.setCell ⟨tb, 0, none⟩ x0).setCell ⟨tb, 1, none⟩ x1).setCell ⟨tb, 2, none⟩ x2
theorem put3_other (W : World) (tb k : Nat) (x0 x1 x2 : Value) (h : k ≠ tb) : (put3 W tb x0 x1 x2).heap[k]? = W.heap[k]? := by
  unfold put3
  exact (Below.heap_setCell _ _ _ _ h).trans ((Below.heap_setCell _ _ _ _ h).trans (Below.heap_setCell _ _ _ _ h))
theorem put3_blk {W : World} {tb : Nat} {A1 : Option Addr} {n1 c1 : Nat} {A2 : Option Addr} {n2 c2 : Nat} {st : Int} (h : Tb3 W tb A1 n1 c1 A2 n2 c2 st) (x0 x1 x2 : Value) : (put3 W tb x0 x1 x2).heap[tb]? = some (.cells #[x0, x1, x2] 36 (0, 0)) := set_blk (set_blk (set_blk h x0) x1) x2
theorem put3_below {B b : Nat} {w W : World} {x y z : Value} (h : Below B w W) (hb : B ≤ b) : Below B w (put3 W b x y z) := set3_below h hb
theorem str_ne {W : World} {tb : Nat} {A1 : Option Addr} {n1 c1 : Nat} {A2 : Option Addr} {n2 c2 : Nat} {st : Int} (h : Tb3 W tb A1 n1 c1 A2 n2 c2 st) {b off : Nat} {s : ByteArray} (hs : W.cell? ⟨b, off, none⟩ = some (.string s)) : b ≠ tb := by
  rintro rfl
  have c := cell_blk h off
  rw [hs] at c
  rcases off with _ | _ | _ | off
  · cases c
  · cases c
  · cases c
  · simp at c
theorem VsIn.put3 {W : World} {tb : Nat} {A1 : Option Addr} {n1 c1 : Nat} {A2 : Option Addr} {n2 c2 : Nat} {st : Int} {v : Value} {vs : Vs} (h : VsIn W v vs) (ht : Tb3 W tb A1 n1 c1 A2 n2 c2 st) (x0 x1 x2 : Value) : VsIn (put3 W tb x0 x1 x2) v vs := by
  obtain ⟨A, c, hv, hl, h⟩ := h
  refine ⟨A, c, hv, hl, fun hne => ?_⟩
  obtain ⟨b, off, hA, hlt, hc⟩ := h hne
  have hb : b ≠ tb := str_ne ht (hc 0 (List.length_pos_iff.2 hne)).1
  have e := put3_other W tb b x0 x1 x2 hb
  refine ⟨b, off, hA, ?_, fun i hi => ⟨(World.cell?_of_block e).trans (hc i hi).1, (World.cell?_of_block e).trans (hc i hi).2⟩⟩
  unfold Vr.put3; simpa using hlt
theorem ArIn.put3 {W : World} {tb : Nat} {A1 : Option Addr} {n1 c1 : Nat} {A2 : Option Addr} {n2 c2 : Nat} {st : Int} {v : Value} {ps : List Bs} (h : ArIn W v ps) (ht : Tb3 W tb A1 n1 c1 A2 n2 c2 st) (x0 x1 x2 : Value) : ArIn (put3 W tb x0 x1 x2) v ps := by
  obtain ⟨A, c, hv, hl, h⟩ := h
  refine ⟨A, c, hv, hl, fun hne => ?_⟩
  obtain ⟨b, off, hA, hlt, hc⟩ := h hne
  have hb : b ≠ tb := str_ne ht (hc 0 (List.length_pos_iff.2 hne))
  have e := put3_other W tb b x0 x1 x2 hb
  refine ⟨b, off, hA, ?_, fun i hi => (World.cell?_of_block e).trans (hc i hi)⟩
  unfold Vr.put3; simpa using hlt
theorem Tb3.below {W W' : World} {tb : Nat} {A1 : Option Addr} {n1 c1 : Nat} {A2 : Option Addr} {n2 c2 : Nat} {st : Int} (h : Tb3 W tb A1 n1 c1 A2 n2 c2 st) (hb : Below W.heap.size W W') : Tb3 W' tb A1 n1 c1 A2 n2 c2 st := (hb.block tb (fin_at h)).trans h
def RNewPost (a : Value) (m : Except Int Vs) (w : World) (e : Ending) (w' : World) : Prop := Below w.heap.size w w' ∧ match m with
  | .ok vs => ∃ vv, e = .returned (.tuple #[tblV vv a 0, .int .i64 0]) ∧ VsIn w' vv vs ∧ ∀ k, vv.ownBlock = some k → w.heap.size ≤ k
  | .error er => e = .returned (.tuple #[tblV (.slice none 0 0) (.slice none 0 0) 0, .int .i64 er]) ∧ er ≠ 0
theorem rn_no {a : Value} {m : Except Int Vs} {w w' : World} {er : Int} (hm : m = .error er) (h0 : er ≠ 0) (hb : Below w.heap.size w w') : RNewPost a m w (.returned (.tuple #[tblV (.slice none 0 0) (.slice none 0 0) 0, .int .i64 er])) w' := by subst hm; exact ⟨hb, rfl, h0⟩
theorem rn_yes {a : Value} {m : Except Int Vs} {vs : Vs} {w w' : World} {vv : Value} (hm : m = .ok vs) (h : VsIn w' vv vs) (hf : ∀ k, vv.ownBlock = some k → w.heap.size ≤ k) (hb : Below w.heap.size w w') : RNewPost a m w (.returned (.tuple #[tblV vv a 0, .int .i64 0])) w' := by subst hm; exact ⟨hb, vv, rfl, h, hf⟩
/-- What holds while variables are set one by one. -/
structure RNI (w : World) (vs : Vs) (vv : Value) (wr : World) : Prop where
  b4 : Tb3 wr w.heap.size none 0 0 none 0 0 0
  b6 : wr.heap[w.heap.size + 1]? = some (.cells #[vv, .slice none 0 0, .int .i64 0] 36 (0, 0))
  vin : VsIn wr vv vs
  bel : Below w.heap.size w wr
  srt : Srt vs
  len : vs.length ≤ 64
  fr : ∀ k, vv.ownBlock = some k → w.heap.size ≤ k
theorem setL_ok {vs vs' : Vs} {name t : Bs} (h : setL vs name t = .ok vs') (hs : Srt vs) (hl : vs.length ≤ 64) : Srt vs' ∧ vs'.length ≤ 64 := by
  unfold setL at h
  split at h
  · cases h
  · split at h
    · cases h
    · rename_i hor
      cases h
      refine ⟨put_srt hs, ?_⟩
      rw [put_len hs]
      cases hh : hasV vs name with
      | true => exact hl
      | false =>
        simp only [hh] at hor
        simp at hor ⊢
        omega
theorem RNI.put {w wr w3 : World} {vs vs' : Vs} {vv vv' : Value} (h : RNI w vs vv wr) (hb : Below wr.heap.size wr w3) (hv : VsIn w3 vv' vs') (hs : Srt vs') (hl : vs'.length ≤ 64) (hf : ∀ k, vv'.ownBlock = some k → w.heap.size ≤ k) : RNI w vs' vv' (put3 w3 (w.heap.size + 1) vv' (.slice none 0 0) (.int .i64 0)) := by
  obtain ⟨A, c, rfl, _⟩ := h.vin.form
  have h6 : Tb3 w3 (w.heap.size + 1) A vs.length c none 0 0 0 := Tb3.below h.b6 hb
  have h4 := Tb3.below h.b4 hb
  refine ⟨(put3_other _ _ _ _ _ _ (by omega)).trans h4, put3_blk h6 _ _ _, hv.put3 h6 _ _ _, put3_below (h.bel.trans (hb.mono h.bel.size)) (by omega), hs, hl, hf⟩
set_option maxRecDepth 100000 in
set_option maxHeartbeats 3200000 in
theorem rnew_any (l : Vs) (v : Value) (qs : List Bs) (a : Value) (w : World) (hv : VsX w v l) (ha : ArX w a qs) :
    Calls Try.prog 11 #[v, a] w (RNewPost a (newL l qs) w) := by
  have HSET : Hid (∀ W vs vv x W', RNI w vs vv W → Below W.heap.size W W' → x ∈ l → Calls Try.prog 27 #[tblV vv (.slice none 0 0) 0, .string (nm x.1), .string (nm x.2)] W' (RSetPost vv (.slice none 0 0) 0 (setL vs x.1 x.2) W')) := Lib.hid (fun W vs vv x W' h hb hx => rset_any vs x.1 x.2 vv none 0 0 0 _ (h.vin.below hb) h.srt h.len (by have := (hv.2.2 x hx).1; omega) (by have := (hv.2.2 x hx).2; omega))
  obtain ⟨A2, c2, ha2, _⟩ := ha.1.form
  have HARG : Hid (∀ W A1 n1 c1, Below w.heap.size w W → Calls Try.prog 28 #[tblV (.slice A1 n1 c1) (.slice none 0 0) 0, a] W (RArgPost (.slice A1 n1 c1) (.slice none 0 0) 0 a (argsOk qs) W)) := Lib.hid (fun W A1 n1 c1 hb => rargs_any A1 none n1 c1 0 0 0 qs a W ⟨ha.1.below hb, ha.2⟩)
  have HST : Hid (RNI w [] (.slice none 0 0) ((w.alloc (.cells #[.slice none 0 0, .slice none 0 0, .int .i64 0] 36)).alloc (.cells #[.slice none 0 0, .slice none 0 0, .int .i64 0] 36))) := Lib.hid ⟨two_old _ _ _, two_new _ _ _, VsIn.nil _ _ _, two_below _ _ _, List.Pairwise.nil, by simp, by simp [Value.ownBlock]⟩
  obtain ⟨A, c, hvf, hlc, hcell⟩ := hv.1
  have hl1 := hv.2.1
  have HCE : Hid (∀ i (h : i < l.length), ∃ b off, A = some ⟨b, off, none⟩ ∧ b < w.heap.size ∧ ∀ W, Below w.heap.size w W → W.cell? ⟨b, off + i * 2, none⟩ = some (.string (nm l[i].1)) ∧ W.cell? ⟨b, off + i * 2 + 1, none⟩ = some (.string (nm l[i].2))) := Lib.hid (fun i h => by
    obtain ⟨b, off, h1, h2, h3⟩ := hcell (fun e => by rw [e] at h; simp at h)
    exact ⟨b, off, h1, h2, fun W hb => ⟨(World.cell?_of_block (hb.block b h2)).trans (h3 i h).1, (World.cell?_of_block (hb.block b h2)).trans (h3 i h).2⟩⟩)
  have HM : Hid (finL qs (setAll [] (l.drop 0)) = newL l qs) := Lib.hid rfl
  have HNO := Lib.hid (fun W er (hm : newL l qs = .error er) h0 hb => rn_no (a := a) (w := w) (w' := W) hm h0 hb)
  have HYES := Lib.hid (fun W vs vv (hm : newL l qs = .ok vs) h hf hb => rn_yes (a := a) (w := w) (w' := W) (vv := vv) hm h hf hb)
  generalize RNewPost a (newL l qs) w = Q at *
  generalize newL l qs = M at *
  obtain ⟨n, hn⟩ : ∃ n, l.length = n := ⟨_, rfl⟩
  have HL := Lib.hid hn
  rw [hn] at hlc hl1 hvf
  have hl2 : (n : Int) ≤ 140737488351232 := by omega
  have hlc2 : (n : Int) ≤ (c : Int) := by omega
  subst hvf
  subst ha2
  clear hcell hv ha hn
  go_enter Try.func11, Try.ntmps11
  go_wp2_with fail
  go_loopg [7, 8] n (fun g x7 x8 wr => ∃ (i : Nat) (vs : Vs) (vv : Value), x7 = .int .i64 0 ∧ x8 = .int .i64 i ∧ i ≤ n ∧ g = n - i ∧ Hid (RNI w vs vv wr) ∧ Hid (finL qs (setAll vs (l.drop i)) = M))
  case atStart => exact ⟨0, [], _, rfl, rfl, Nat.zero_le _, rfl, HST, HM⟩
  case round =>
    clear HST HM
    obtain ⟨i, vs, vv, rfl, rfl, hi, rfl, HT, HI⟩ := hrel
    obtain ⟨A6, c6, rfl, _⟩ := HT.out.vin.form
    have c60 := cell_blk HT.out.b6 0
    have c61 := cell_blk HT.out.b6 1
    have c62 := cell_blk HT.out.b6 2
    simp at c60 c61 c62
    have hz6 := fin_at HT.out.b6
    by_cases hil : i < n
    · have hil2 : i < l.length := by have := HL.out; omega
      obtain ⟨b, off, rfl, hb, hcs⟩ := HCE.out i hil2
      obtain ⟨a0, a1⟩ := hcs wr HT.out.bel
      have hbw : b < wr.heap.size := by omega
      have hd : l.drop i = l[i] :: l.drop (i + 1) := List.drop_eq_getElem_cons hil2
      have hI := HI.out
      rw [hd] at hI
      have HBD : Hid (Below wr.heap.size wr wr.drew) := Lib.hid (Below.refl _ _).drew
      have hs := HSET.out _ vs _ l[i] wr.drew HT.out HBD.out (List.getElem_mem hil2)
      generalize l[i] = x at *
      obtain ⟨x1, x2⟩ := x
      dsimp only at a0 a1 hs
      cases hm : setL vs x1 x2 with
      | error er =>
        rw [setAll_no (x := (x1, x2)) hm] at hI
        rw [hm] at hs
        have HS := Lib.hid hs
        have HMX := Lib.hid (show M = .error er from hI.symm)
        have h0q : er = 70 ∨ er = 2 := by
          unfold setL at hm
          split at hm
          · cases hm; exact .inl rfl
          · split at hm
            · cases hm; exact .inr rfl
            · cases hm
        clear hcs hd hI hs HI hm HSET HARG HCE HYES
        generalize nm x1 = X1 at *
        generalize nm x2 = X2 at *
        unfold tblV at HS
        rcases h0q with rfl | rfl
        · go_wp2_with fail
          go_cut [7] from 15 to 29 (fun x7 wx => x7 = .int .i64 70 ∧ Hid (RNI w vs (.slice A6 vs.length c6) wx))
          case first =>
            go_region_law (first | (go_simp; go_at_call 27; refine (HS.out).mono ?_; rintro e w3 ⟨hb3, he, h0⟩; unfold tblV at he; subst he; clear h0; have hb4 : Below wr.heap.size wr w3 := HBD.out.trans hb3; have HB4 := Lib.hid hb4; have hh6 := (hb4.block _ hz6).trans HT.out.b6; have d60 := cell_blk hh6 0; have d61 := cell_blk hh6 1; have d62 := cell_blk hh6 2; simp at d60 d61 d62; have f60 := froz_blk hh6 0; have f61 := froz_blk hh6 1; have f62 := froz_blk hh6 2; have hz3 := fin_at hh6; clear hh6 hb3 hb4))
            all_goals
              go_wp2_with fail
              go_meet
              exact ⟨rfl, Lib.hid (HT.out.put HB4.out (HT.out.vin.below HB4.out) HT.out.srt HT.out.len HT.out.fr)⟩
          case rest =>
            obtain ⟨rfl, HR⟩ := hcut
            have c40 := cell_blk HR.out.b4 0
            have c41 := cell_blk HR.out.b4 1
            have c42 := cell_blk HR.out.b4 2
            simp at c40 c41 c42
            have f40 := froz_blk HR.out.b4 0
            have f41 := froz_blk HR.out.b4 1
            have f42 := froz_blk HR.out.b4 2
            have hz4 := fin_at HR.out.b4
            go_wp2_with fail
            refine bodyPost_ret (results_cell2 rfl _ _ _ 36 _ (0, 0) _ rfl (put3_blk HR.out.b4 (.slice none 0 0) (.slice none 0 0) (.int .i64 0)) Try.underlying36 rfl (by kernel_rfl)) rfl ?_
            exact HNO.out _ _ HMX.out (by decide) (put3_below HR.out.bel (by omega))
        · go_wp2_with fail
          go_cut [7] from 15 to 29 (fun x7 wx => x7 = .int .i64 2 ∧ Hid (RNI w vs (.slice A6 vs.length c6) wx))
          case first =>
            go_region_law (first | (go_simp; go_at_call 27; refine (HS.out).mono ?_; rintro e w3 ⟨hb3, he, h0⟩; unfold tblV at he; subst he; clear h0; have hb4 : Below wr.heap.size wr w3 := HBD.out.trans hb3; have HB4 := Lib.hid hb4; have hh6 := (hb4.block _ hz6).trans HT.out.b6; have d60 := cell_blk hh6 0; have d61 := cell_blk hh6 1; have d62 := cell_blk hh6 2; simp at d60 d61 d62; have f60 := froz_blk hh6 0; have f61 := froz_blk hh6 1; have f62 := froz_blk hh6 2; have hz3 := fin_at hh6; clear hh6 hb3 hb4))
            all_goals
              go_wp2_with fail
              go_meet
              exact ⟨rfl, Lib.hid (HT.out.put HB4.out (HT.out.vin.below HB4.out) HT.out.srt HT.out.len HT.out.fr)⟩
          case rest =>
            obtain ⟨rfl, HR⟩ := hcut
            have c40 := cell_blk HR.out.b4 0
            have c41 := cell_blk HR.out.b4 1
            have c42 := cell_blk HR.out.b4 2
            simp at c40 c41 c42
            have f40 := froz_blk HR.out.b4 0
            have f41 := froz_blk HR.out.b4 1
            have f42 := froz_blk HR.out.b4 2
            have hz4 := fin_at HR.out.b4
            go_wp2_with fail
            refine bodyPost_ret (results_cell2 rfl _ _ _ 36 _ (0, 0) _ rfl (put3_blk HR.out.b4 (.slice none 0 0) (.slice none 0 0) (.int .i64 0)) Try.underlying36 rfl (by kernel_rfl)) rfl ?_
            exact HNO.out _ _ HMX.out (by decide) (put3_below HR.out.bel (by omega))
      | ok vs' =>
        rw [setAll_ok (x := (x1, x2)) hm] at hI
        obtain ⟨hs1, hs2⟩ := setL_ok hm HT.out.srt HT.out.len
        have HSR := Lib.hid hs1
        have HLN := Lib.hid hs2
        rw [hm] at hs
        have HS := Lib.hid hs
        have HI2 := Lib.hid hI
        clear hcs hd hI hs HI hm HSET HARG HCE HYES hs1 hs2
        generalize nm x1 = X1 at *
        generalize nm x2 = X2 at *
        unfold tblV at HS
        go_wp2_with fail
        go_cut [7] from 15 to 29 (fun x7 wx => x7 = .int .i64 0 ∧ ∃ A7 c7, Hid (RNI w vs' (.slice A7 vs'.length c7) wx))
        case first =>
          go_region_law (first | (go_simp; go_at_call 27; refine (HS.out).mono ?_; rintro e w3 ⟨hb3, vv', he, hv3, hf3⟩; unfold tblV at he; subst he; obtain ⟨A7, c7, rfl, _⟩ := hv3.form; have HV := Lib.hid hv3; have HFR := Lib.hid (fun k hk => Nat.le_trans HT.out.bel.size (hf3 k hk)); clear hv3 hf3; have hb4 : Below wr.heap.size wr w3 := HBD.out.trans hb3; have HB4 := Lib.hid hb4; have hh6 := (hb4.block _ hz6).trans HT.out.b6; have d60 := cell_blk hh6 0; have d61 := cell_blk hh6 1; have d62 := cell_blk hh6 2; simp at d60 d61 d62; have f60 := froz_blk hh6 0; have f61 := froz_blk hh6 1; have f62 := froz_blk hh6 2; have hz3 := fin_at hh6; clear hh6 hb3 hb4))
          all_goals
            go_wp2_with fail
            go_meet
            exact ⟨rfl, _, _, Lib.hid (HT.out.put HB4.out HV.out HSR.out HLN.out HFR.out)⟩
        case rest =>
          obtain ⟨rfl, A7, c7, HR⟩ := hcut
          go_wp2_with fail
          go_roundg (n - (i + 1))
          case measure => omega
          case rel => exact ⟨i + 1, vs', _, rfl, rfl, by omega, rfl, HR, HI2⟩
    · have hd : l.drop i = [] := List.drop_of_length_le (by have := HL.out; omega)
      have hI := HI.out
      rw [hd] at hI
      have hfi : finL qs (setAll vs []) = if argsOk qs then .ok vs else .error 2 := rfl
      rw [hfi] at hI
      have HA := Lib.hid (HARG.out wr A6 vs.length c6 HT.out.bel)
      unfold RArgPost at HA
      cases hok : argsOk qs with
      | true =>
        rw [hok] at HA hI
        have HMX := Lib.hid (show M = .ok vs from hI.symm)
        clear hd hI HI HSET HARG HCE hfi
        dsimp only at HA
        unfold tblV at HA
        go_wp2_with (first | (go_at_call 28; refine (HA.out).mono ?_; rintro e w3 ⟨hb3, he⟩; subst he; have HB3 := Lib.hid hb3; have hh6 := (hb3.block _ hz6).trans HT.out.b6; have d60 := cell_blk hh6 0; have d61 := cell_blk hh6 1; have d62 := cell_blk hh6 2; have f60 := froz_blk hh6 0; have f61 := froz_blk hh6 1; have f62 := froz_blk hh6 2; have hz3 := fin_at hh6; have hh4 := (hb3.block _ (fin_at HT.out.b4)).trans HT.out.b4; have d40 := cell_blk hh4 0; have d41 := cell_blk hh4 1; have d42 := cell_blk hh4 2; have f40 := froz_blk hh4 0; have f41 := froz_blk hh4 1; have f42 := froz_blk hh4 2; have hz4 := fin_at hh4; simp at d60 d61 d62 d40 d41 d42; clear hh6 hh4 hb3))
        have HI6 : Tb3 w3 (w.heap.size + 1) A6 vs.length c6 none 0 0 0 := Tb3.below HT.out.b6 HB3.out
        have HI4 : Tb3 w3 w.heap.size none 0 0 none 0 0 0 := Tb3.below HT.out.b4 HB3.out
        have HI4b : Tb3 (put3 w3 (w.heap.size + 1) (.slice A6 vs.length c6) (.slice A2 qs.length c2) (.int .i64 0)) w.heap.size none 0 0 none 0 0 0 := (put3_other _ _ _ _ _ _ (by omega)).trans HI4
        refine bodyPost_ret (results_cell2 rfl _ _ _ 36 _ (0, 0) _ rfl (put3_blk HI4b (.slice A6 vs.length c6) (.slice A2 qs.length c2) (.int .i64 0)) Try.underlying36 rfl (by kernel_rfl)) rfl ?_
        exact HYES.out _ _ _ HMX.out (((HT.out.vin.below HB3.out).put3 HI6 _ _ _).put3 HI4b _ _ _) HT.out.fr (put3_below (put3_below (HT.out.bel.trans (HB3.out.mono HT.out.bel.size)) (by omega)) (by omega))
      | false =>
        rw [hok] at HA hI
        have HMX := Lib.hid (show M = .error 2 from hI.symm)
        clear hd hI HI HSET HARG HCE hfi
        dsimp only at HA
        unfold tblV at HA
        go_wp2_with (first | (go_at_call 28; refine (HA.out).mono ?_; rintro e w3 ⟨hb3, he⟩; subst he; have HB3 := Lib.hid hb3; have hh6 := (hb3.block _ hz6).trans HT.out.b6; have d60 := cell_blk hh6 0; have d61 := cell_blk hh6 1; have d62 := cell_blk hh6 2; have f60 := froz_blk hh6 0; have f61 := froz_blk hh6 1; have f62 := froz_blk hh6 2; have hz3 := fin_at hh6; have hh4 := (hb3.block _ (fin_at HT.out.b4)).trans HT.out.b4; have d40 := cell_blk hh4 0; have d41 := cell_blk hh4 1; have d42 := cell_blk hh4 2; have f40 := froz_blk hh4 0; have f41 := froz_blk hh4 1; have f42 := froz_blk hh4 2; have hz4 := fin_at hh4; simp at d60 d61 d62 d40 d41 d42; clear hh6 hh4 hb3))
        have HI4 : Tb3 w3 w.heap.size none 0 0 none 0 0 0 := Tb3.below HT.out.b4 HB3.out
        have HI4b : Tb3 (put3 w3 (w.heap.size + 1) (.slice A6 vs.length c6) (.slice none 0 0) (.int .i64 0)) w.heap.size none 0 0 none 0 0 0 := (put3_other _ _ _ _ _ _ (by omega)).trans HI4
        refine bodyPost_ret (results_cell2 rfl _ _ _ 36 _ (0, 0) _ rfl (put3_blk HI4b (.slice none 0 0) (.slice none 0 0) (.int .i64 0)) Try.underlying36 rfl (by kernel_rfl)) rfl ?_
        exact HNO.out _ _ HMX.out (by decide) (put3_below (put3_below (HT.out.bel.trans (HB3.out.mono HT.out.bel.size)) (by omega)) (by omega))
end Go.Proofs.Ytdegkfnlafgheaa.Vr
