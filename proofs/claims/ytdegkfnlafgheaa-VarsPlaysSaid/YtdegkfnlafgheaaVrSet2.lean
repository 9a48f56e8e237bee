/- DERIVED. The walk over Set. -/
import Derived.Test.YtdegkfnlafgheaaVrSet
namespace Go.Proofs.Ytdegkfnlafgheaa.Vr
open Go.RowKit
open PathM WdM VrM
open Go.Proofs.Ytdegkfnlafgheaa.Wd
set_option linter.unusedVariables false
theorem isName_len {name : Bs} (h : isName name = true) : name.length ≤ 64 := by
  unfold isName at h
  simp at h
  first | exact h.1.1.2 | exact h.1.1 | omega
theorem set_put {vs : Vs} {name t : Bs} (h : hasV vs name = false) : ∃ hi : posV vs name < (putV vs name []).length, (putV vs name [])[posV vs name].1 = name ∧ (putV vs name []).set (posV vs name) (name, t) = putV vs name t := by
  have hp := pos_le vs name
  have hl : (vs.take (posV vs name)).length = posV vs name := by rw [List.length_take]; omega
  rw [put_new h, put_new h]
  refine ⟨by rw [List.length_append, hl, List.length_cons]; omega, ?_, ?_⟩
  · rw [List.getElem_append_right (by omega)]
    simp [hl]
  · rw [List.set_append_right _ _ (by omega), hl, Nat.sub_self]
    rfl
theorem TbX.nn {base tb : Nat} {st : Int} {vs : Vs} {vv av : Value} {ps : List Bs} {w : World} (h : TbX base w tb st vs vv ps av) : Hid (nmNone tb w) := h.t.none
theorem wp_gen {P : Program} {c : Code} {Q : Exit → Act → World → Prop} {a : Act} {W : World} (R : World → Prop) (hR : R W) (h : ∀ W', R W' → Code.wp P c Q a W') : Code.wp P c Q a W := h W hR
theorem setP_no {base tb : Nat} {st : Int} {vv av : Value} {ps : List Bs} {m : Except Int Vs} {w w' : World} {er : Int} (hm : m = .error er) (h0 : er ≠ 0) (hb : Below w.heap.size w w') : SetPost base tb st vv ps av m w (.returned (.int .i64 er)) w' := by subst hm; exact ⟨rfl, h0, hb⟩
theorem setP_yes {base tb : Nat} {st : Int} {vv vv' av : Value} {ps : List Bs} {m : Except Int Vs} {vs' : Vs} {w w' : World} (hm : m = .ok vs') (h : TbX base w' tb st vs' vv' ps av) (hs : Stp tb vv vv' w w') : SetPost base tb st vv ps av m w (.returned (.int .i64 0)) w' := by subst hm; exact ⟨rfl, vv', h, hs⟩
set_option maxRecDepth 100000 in
set_option maxHeartbeats 1600000 in
theorem set_name (base tb : Nat) (st : Int) (vs : Vs) (vv av : Value) (ps : List Bs) (name t : Bs) (w : World) (h : TbX base w tb st vs vv ps av) (hn : name.length ≤ 4611686018427387904) (hno : isName name = false) :
    Calls Try.prog 17 #[.pointer (some ⟨tb, 0, none⟩), .string (nm name), .string (nm t)] w (SetPost base tb st vv ps av (setL vs name t) w) := by
  have hm : setL vs name t = .error 70 := by unfold setL; rw [if_pos hno]
  have HF := Lib.hid (fun W hb => setP_no (base := base) (tb := tb) (st := st) (vv := vv) (av := av) (ps := ps) (w := w) (w' := W) hm (by decide) hb)
  have HN := h.nn
  have HNM := Lib.hid (fun W => Wd.name_any (nm name) W (by rw [nm_size]; exact hn))
  rw [nm_data, hno] at HNM
  clear h hn hno hm
  generalize SetPost base tb st vv ps av (setL vs name t) w = Q at *
  generalize nm name = N at *
  generalize nm t = T at *
  go_enter Try.func17, Try.ntmps17
  go_wp2_with (first | (go_at_call 31; refine (HN.out _ (Below.refl _ _)).mono ?_; rintro e W ⟨rfl, rfl⟩) | (go_at_call 42; refine (HNM.out _).mono ?_; rintro e W ⟨rfl, rfl⟩))
  exact HF.out _ (Below.refl _ _)
set_option maxRecDepth 100000 in
set_option maxHeartbeats 1600000 in
theorem set_long (base tb : Nat) (st : Int) (vs : Vs) (vv av : Value) (ps : List Bs) (name t : Bs) (w : World) (h : TbX base w tb st vs vv ps av) (hn : name.length ≤ 4611686018427387904) (ht : t.length ≤ 4611686018427387904) (hyes : isName name = true) (hlong : 4096 < t.length) :
    Calls Try.prog 17 #[.pointer (some ⟨tb, 0, none⟩), .string (nm name), .string (nm t)] w (SetPost base tb st vv ps av (setL vs name t) w) := by
  have hm : setL vs name t = .error 2 := by unfold setL; rw [if_neg (by rw [hyes]; simp), if_pos (.inl hlong)]
  have HF := Lib.hid (fun W hb => setP_no (base := base) (tb := tb) (st := st) (vv := vv) (av := av) (ps := ps) (w := w) (w' := W) hm (by decide) hb)
  have HN := h.nn
  have HNM := Lib.hid (fun W => Wd.name_any (nm name) W (by rw [nm_size]; exact hn))
  rw [nm_data, hyes] at HNM
  have HFD := Lib.hid (h.find name)
  have HL := Lib.hid (fun W => long_any t W ht)
  rw [decide_eq_true hlong] at HL
  clear h hn ht hyes hlong hm
  generalize SetPost base tb st vv ps av (setL vs name t) w = Q at *
  generalize posV vs name = p at *
  generalize hasV vs name = f at *
  generalize nm name = N at *
  generalize nm t = T at *
  go_enter Try.func17, Try.ntmps17
  go_wp2_with (first | (go_at_call 31; refine (HN.out _ (Below.refl _ _)).mono ?_; rintro e W ⟨rfl, rfl⟩) | (go_at_call 42; refine (HNM.out _).mono ?_; rintro e W ⟨rfl, rfl⟩) | (go_at_call 36; refine HFD.out.mono ?_; rintro e W ⟨rfl, hb⟩; have HB := Lib.hid hb; clear hb) | (go_at_call 43; refine (HL.out _).mono ?_; rintro e W ⟨rfl, rfl⟩))
  exact HF.out _ HB.out
set_option maxRecDepth 100000 in
set_option maxHeartbeats 1600000 in
theorem set_full (base tb : Nat) (st : Int) (vs : Vs) (vv av : Value) (ps : List Bs) (name t : Bs) (w : World) (h : TbX base w tb st vs vv ps av) (hn : name.length ≤ 4611686018427387904) (ht : t.length ≤ 4096) (hyes : isName name = true) (hno : hasV vs name = false) (hfull : 64 ≤ vs.length) :
    Calls Try.prog 17 #[.pointer (some ⟨tb, 0, none⟩), .string (nm name), .string (nm t)] w (SetPost base tb st vv ps av (setL vs name t) w) := by
  have hm : setL vs name t = .error 2 := by unfold setL; rw [if_neg (by rw [hyes]; simp), if_pos (.inr ⟨hno, hfull⟩)]
  have HF := Lib.hid (fun W hb => setP_no (base := base) (tb := tb) (st := st) (vv := vv) (av := av) (ps := ps) (w := w) (w' := W) hm (by decide) hb)
  have HN := h.nn
  have HNM := Lib.hid (fun W => Wd.name_any (nm name) W (by rw [nm_size]; exact hn))
  rw [nm_data, hyes] at HNM
  have HFD := Lib.hid (h.find name)
  rw [hno] at HFD
  have HL := Lib.hid (fun W => long_any t W (by omega))
  rw [decide_eq_false (by omega)] at HL
  have HT := Lib.hid h
  obtain ⟨A, c, rfl, _⟩ := row_form h.row
  have hle : (64 : Int) ≤ (vs.length : Int) := by omega
  have hl2 : (vs.length : Int) ≤ 64 := by have := h.len; omega
  clear h hn ht hyes hm
  generalize SetPost base tb st (.slice A vs.length c) ps av (setL vs name t) w = Q at *
  generalize posV vs name = p at *
  generalize nm name = N at *
  generalize nm t = T at *
  obtain ⟨n, hnn⟩ : ∃ n, vs.length = n := ⟨_, rfl⟩
  rw [hnn] at hle hl2
  have hv : Hid (Value.slice A vs.length c = .slice A n c) := Lib.hid (by rw [hnn])
  clear hnn
  go_enter Try.func17, Try.ntmps17
  go_wp2_with (first | (go_at_call 31; refine (HN.out _ (Below.refl _ _)).mono ?_; rintro e W ⟨rfl, rfl⟩) | (go_at_call 42; refine (HNM.out _).mono ?_; rintro e W ⟨rfl, rfl⟩) | (go_at_call 36; refine HFD.out.mono ?_; rintro e W ⟨rfl, hb⟩; have c2 := (HT.out.below hb).c2; rw [hv.out] at c2; have hz := (HT.out.below hb).lt; have HB := Lib.hid hb; clear hb) | (go_at_call 43; refine (HL.out _).mono ?_; rintro e W ⟨rfl, rfl⟩))
  exact HF.out _ HB.out
set_option maxRecDepth 100000 in
set_option maxHeartbeats 1600000 in
theorem set_there (base tb : Nat) (st : Int) (vs : Vs) (vv av : Value) (ps : List Bs) (name t : Bs) (w : World) (h : TbX base w tb st vs vv ps av) (hn : name.length ≤ 4611686018427387904) (ht : t.length ≤ 4096) (hyes : isName name = true) (hhas : hasV vs name = true) :
    Calls Try.prog 17 #[.pointer (some ⟨tb, 0, none⟩), .string (nm name), .string (nm t)] w (SetPost base tb st vv ps av (setL vs name t) w) := by
  have hm : setL vs name t = .ok (putV vs name t) := by unfold setL; rw [if_neg (by rw [hyes]; simp), if_neg (by rw [hhas]; simp; omega)]
  have hset := put_has (t := t) h.srt hhas
  obtain ⟨hp, hpn, hpv⟩ := val_at h.srt hhas
  have hss := put_srt (name := name) (t := t) h.srt
  rw [hset] at hss
  have HN := h.nn
  have HNM := Lib.hid (fun W => Wd.name_any (nm name) W (by rw [nm_size]; exact hn))
  rw [nm_data, hyes] at HNM
  have HFD := Lib.hid (h.find name)
  rw [hhas] at HFD
  have HL := Lib.hid (fun W => long_any t W (by omega))
  rw [decide_eq_false (by omega)] at HL
  rcases row_two h.row with ⟨_, h0⟩ | ⟨g, c, rfl, hc, _, _⟩
  · omega
  have HF : Hid (∀ W, Below w.heap.size w W → SetPost base tb st (.slice (some ⟨g, 0, none⟩) vs.length c) ps av (setL vs name t) w (.returned (.int .i64 0)) (W.setCell ⟨g, posV vs name * 2 + 1, none⟩ (.string (nm t)))) := Lib.hid (fun W hb => by
    obtain ⟨k1, k2⟩ := (h.below hb).val hp hpn ht hss
    rw [hset] at hm
    exact setP_yes hm k1 ((Stp.below hb).trans k2))
  have HC : Hid (∀ W, Below w.heap.size w W → W.cell? ⟨tb, 2, none⟩ = some (.slice (some ⟨g, 0, none⟩) vs.length c) ∧ tb < W.heap.size ∧ (∃ u, W.cell? ⟨g, posV vs name * 2 + 1, none⟩ = some u) ∧ W.frozen? ⟨g, posV vs name * 2 + 1, none⟩ = false) := Lib.hid (fun W hb => by
    have hh := h.below hb
    exact ⟨hh.c2, hh.lt, ⟨_, row_cells hh.row _ _ (varC_at vs _ hp).2⟩, hh.row.frozenAt _⟩)
  have hpn2 : (posV vs name : Int) < (vs.length : Int) := by omega
  have hl2 : (vs.length : Int) ≤ 64 := by have := h.len; omega
  clear h hn ht hyes hm hset hpn hss hpv
  generalize SetPost base tb st (.slice (some ⟨g, 0, none⟩) vs.length c) ps av (setL vs name t) w = Q at *
  generalize posV vs name = p at *
  generalize nm name = N at *
  generalize nm t = T at *
  generalize vs.length = n at *
  go_enter Try.func17, Try.ntmps17
  go_wp2_with (first | (go_at_call 31; refine (HN.out _ (Below.refl _ _)).mono ?_; rintro e W ⟨rfl, rfl⟩) | (go_at_call 42; refine (HNM.out _).mono ?_; rintro e W ⟨rfl, rfl⟩) | (go_at_call 36; refine HFD.out.mono ?_; rintro e W ⟨rfl, hb⟩; obtain ⟨k1, k2, ⟨u, k3⟩, k4⟩ := HC.out W hb; have HB := Lib.hid hb; clear hb) | (go_at_call 43; refine (HL.out _).mono ?_; rintro e W ⟨rfl, rfl⟩))
  exact HF.out _ HB.out
set_option maxRecDepth 100000 in
set_option maxHeartbeats 1600000 in
theorem set_new (base tb : Nat) (st : Int) (vs : Vs) (vv av : Value) (ps : List Bs) (name t : Bs) (w : World) (h : TbX base w tb st vs vv ps av) (hbase : base ≤ w.heap.size) (hn : name.length ≤ 4611686018427387904) (ht : t.length ≤ 4096) (hyes : isName name = true) (hno : hasV vs name = false) (hfull : vs.length < 64) :
    Calls Try.prog 17 #[.pointer (some ⟨tb, 0, none⟩), .string (nm name), .string (nm t)] w (SetPost base tb st vv ps av (setL vs name t) w) := by
  have hm : setL vs name t = .ok (putV vs name t) := by unfold setL; rw [if_neg (by rw [hyes]; simp), if_neg (by rintro (h | ⟨_, h⟩) <;> omega)]
  have hpl := pos_le vs name
  have hnl := isName_len hyes
  have hplen : (putV vs name []).length = vs.length + 1 := by rw [put_len h.srt, hno]; rfl
  obtain ⟨hi, hi1, hi2⟩ := set_put (t := t) hno
  have hss := put_srt (name := name) (t := t) h.srt
  rw [← hi2] at hss
  have HN := h.nn
  have HNM := Lib.hid (fun W => Wd.name_any (nm name) W (by rw [nm_size]; exact hn))
  rw [nm_data, hyes] at HNM
  have HFD := Lib.hid (h.find name)
  rw [hno] at HFD
  have HL := Lib.hid (fun W => long_any t W (by omega))
  rw [decide_eq_false (by omega)] at HL
  have HC : Hid (∀ W, Below w.heap.size w W → W.cell? ⟨tb, 2, none⟩ = some vv ∧ tb < W.heap.size) := Lib.hid (fun W hb => ⟨(h.below hb).c2, (h.below hb).lt⟩)
  have HINS : Hid (∀ W, Below w.heap.size w W → Calls Try.prog 44 #[vv, .int .i64 (posV vs name : Int), .slice (some ⟨W.heap.size, 0, none⟩) 1 1] (W.alloc (.cells #[.string (nm name), .string ⟨#[]⟩] 26)) (InsPost base (putV vs name []) vv (W.alloc (.cells #[.string (nm name), .string ⟨#[]⟩] 26)))) := Lib.hid (fun W hb => by
    have hW := h.below hb
    have hb2 : Below W.heap.size W (W.alloc (.cells #[.string (nm name), .string ⟨#[]⟩] 26)) := (Below.refl _ _).alloc (Nat.le_refl _) _
    rw [put_new hno]
    refine ins_any base vs name vv (posV vs name) W.heap.size _ (row_below hW.row hb2) ?_ (by omega) hpl (heap_alloc_new W _) (fun e => ?_)
    · have := hb.size; have := hb2.size; omega
    · have := (row_lt hW.row e).1; omega)
  have HBX : Hid (∀ W W2, Below w.heap.size w W → W.grownBy W2 vv.ownBlock → W2.cell? ⟨tb, 2, none⟩ = some vv ∧ W2.frozen? ⟨tb, 2, none⟩ = false ∧ tb < W2.heap.size) := Lib.hid (fun W W2 hb hg => by
    have hW := h.below hb
    have hbx : W2.heap[tb]? = some (.cells #[.int .i64 st, .bool true, vv, av] 47 (0, 0)) := (hg.block tb hW.lt (fun e => h.ap1 e.symm)).trans hW.box
    exact ⟨cell_blk hbx 2, froz_blk hbx 2, fin_at hbx⟩)
  have HMORE : Hid (∀ W W2 vv', Below w.heap.size w W → W2.ownsRow base 26 2 vv' (putV vs name []).length ((putV vs name []).flatMap varC) → W.grownBy W2 vv.ownBlock → (vv'.ownBlock = vv.ownBlock ∨ ∃ b, vv'.ownBlock = some b ∧ W.heap.size ≤ b) → ∃ g c, vv' = .slice (some ⟨g, 0, none⟩) (vs.length + 1) c ∧ vs.length + 1 ≤ c ∧
      ((W2.setCell ⟨tb, 2, none⟩ vv').cell? ⟨tb, 2, none⟩ = some (.slice (some ⟨g, 0, none⟩) (vs.length + 1) c) ∧ tb < (W2.setCell ⟨tb, 2, none⟩ vv').heap.size ∧ (∃ u, (W2.setCell ⟨tb, 2, none⟩ vv').cell? ⟨g, posV vs name * 2 + 1, none⟩ = some u) ∧ (W2.setCell ⟨tb, 2, none⟩ vv').frozen? ⟨g, posV vs name * 2 + 1, none⟩ = false) ∧
      SetPost base tb st vv ps av (setL vs name t) w (.returned (.int .i64 0)) ((W2.setCell ⟨tb, 2, none⟩ vv').setCell ⟨g, posV vs name * 2 + 1, none⟩ (.string (nm t)))) := Lib.hid (fun W W2 vv' hb hr hg ho => by
    obtain ⟨k1, k2⟩ := h.ins hb hno hfull hnl hr hg ho
    rcases row_two hr with ⟨_, h0⟩ | ⟨g, c, rfl, hc, _, _⟩
    · omega
    obtain ⟨j1, j2⟩ := TbX.val k1 hi hi1 ht hss
    refine ⟨g, c, by rw [hplen], by omega, ⟨by rw [← hplen]; exact k1.c2, k1.lt, ⟨_, row_cells k1.row _ _ (varC_at _ _ hi).2⟩, k1.row.frozenAt _⟩, ?_⟩
    rw [hi2] at j1
    exact setP_yes hm j1 (k2.trans j2))
  obtain ⟨A, c, hvf, hlc⟩ := row_form h.row
  have hpn2 : (posV vs name : Int) < ((vs.length + 1 : Nat) : Int) := by omega
  have hpn3 : (posV vs name : Int) ≤ (vs.length : Int) := by omega
  have hl2 : (vs.length : Int) < 64 := by omega
  clear h hn ht hyes hm hss hpl hnl hplen hi hi1 hi2
  generalize SetPost base tb st vv ps av (setL vs name t) w = Q at *
  generalize posV vs name = p at *
  generalize nm name = N at *
  generalize nm t = T at *
  generalize putV vs name [] = vs2 at *
  generalize vs.length = n at *
  subst hvf
  go_enter Try.func17, Try.ntmps17
  go_wp2_with (first | (go_at_call 31; refine (HN.out _ (Below.refl _ _)).mono ?_; rintro e W ⟨rfl, rfl⟩) | (go_at_call 42; refine (HNM.out _).mono ?_; rintro e W ⟨rfl, rfl⟩) | (go_at_call 36; refine HFD.out.mono ?_; rintro e W ⟨rfl, hb⟩; obtain ⟨k1, k2⟩ := HC.out W hb; have HB := Lib.hid hb; have HI := Lib.hid (HINS.out W hb); clear hb) | (go_at_call 43; refine (HL.out _).mono ?_; rintro e W ⟨rfl, rfl⟩))
  refine HI.out.mono ?_
  rintro e W2 ⟨vv', rfl, hr, hg, ho⟩
  have hb1 := HB.out.alloc HB.out.size (.cells #[.string N, .string ⟨#[]⟩] 26)
  obtain ⟨m1, m2, m3⟩ := HBX.out _ W2 hb1 hg
  obtain ⟨g, c2, rfl, hc2, ⟨x1, x2, ⟨u, x3⟩, x4⟩, hq⟩ := HMORE.out _ W2 vv' hb1 hr hg ho
  have HQ := Lib.hid hq
  have hc3 : ((n + 1 : Nat) : Int) ≤ (c2 : Int) := by omega
  clear hr hg ho hb1 hq HMORE HBX HI HINS HC k1 k2
  go_wp2_with fail
  exact HQ.out
/-- All of Set. -/
theorem set_any (base tb : Nat) (st : Int) (vs : Vs) (vv av : Value) (ps : List Bs) (name t : Bs) (w : World) (h : TbX base w tb st vs vv ps av) (hbase : base ≤ w.heap.size) (hn : name.length ≤ 4611686018427387904) (ht : t.length ≤ 4611686018427387904) :
    Calls Try.prog 17 #[.pointer (some ⟨tb, 0, none⟩), .string (nm name), .string (nm t)] w (SetPost base tb st vv ps av (setL vs name t) w) := by
  cases hy : isName name with
  | false => exact set_name base tb st vs vv av ps name t w h hn hy
  | true =>
    by_cases h1 : 4096 < t.length
    · exact set_long base tb st vs vv av ps name t w h hn ht hy h1
    · cases hh : hasV vs name with
      | true => exact set_there base tb st vs vv av ps name t w h hn (by omega) hy hh
      | false =>
        by_cases h2 : vs.length < 64
        · exact set_new base tb st vs vv av ps name t w h hbase hn (by omega) hy hh h2
        · exact set_full base tb st vs vv av ps name t w h hn (by omega) hy hh (by omega)
end Go.Proofs.Ytdegkfnlafgheaa.Vr
