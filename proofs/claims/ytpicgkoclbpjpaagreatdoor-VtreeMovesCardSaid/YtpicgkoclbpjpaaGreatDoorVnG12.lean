/- DERIVED. Stage 5, several texts in one: VtRename VtTouch VtHard VtAwake VtRewr VtWriteG VtChmod. -/
import Derived.Test.YtpicgkoclbpjpaaGreatDoorVnG11
import Derived.Test.YtpicgkoclbpjpaaGreatDoorShelf2
import Derived.Test.YtpicgkoclbpjpaaGreatDoorVnG5
import Derived.Deep.CutRange
import Derived.Deep.RegionHeld3
section
namespace Go.Proofs.YtpicgkoclbpjpaaGreatDoor
open Go.RowKit Go.Sort Go.Lib Go.Shelf
open PathM TreeM VtM
set_option linter.unusedVariables false
attribute [local go_sem] cell_rg
attribute [local go_sem] cell_off
attribute [local go_sem] cell_far
set_option maxRecDepth 100000 in
set_option maxHeartbeats 2000000 in
theorem refuse_in {k : Nat} {f : Fs} (fb db mb : Nat) (a b : At) (A A' : Option Addr) (c c' : Nat) (w : World) (h : Sys w fb db mb k f) (ha : AtOk f.t a) (hb : AtOk f.t b) (hIa : IntsIn w w.heap.size (.slice A a.dirs.length c) a.dirs) (hIb : IntsIn w w.heap.size (.slice A' b.dirs.length c') b.dirs) (hin : a.node ∈ b.dirs) :
    Calls Tryz.prog 62 #[.pointer (some ⟨fb, 0, none⟩), .agg #[.slice A a.dirs.length c, .string (nm a.name), .int .i64 a.node, .bool a.slash], .agg #[.slice A' b.dirs.length c', .string (nm b.name), .int .i64 b.node, .bool b.slash]] w fun e w' => e = .returned (.int .i64 28) ∧ Below w.heap.size w w' := by
  have hb0 := ((Below.refl w.heap.size w).alloc (Nat.le_refl _) (.cells #[.slice A a.dirs.length c, .string (nm a.name), .int .i64 a.node, .bool a.slash] 92)).alloc (by simp) (.cells #[.slice A' b.dirs.length c', .string (nm b.name), .int .i64 b.node, .bool b.slash] 92)
  have HB0 := Lib.hid hb0
  have hno := heap_alloc_new (w.alloc (.cells #[.slice A a.dirs.length c, .string (nm a.name), .int .i64 a.node, .bool a.slash] 92)) (.cells #[.slice A' b.dirs.length c', .string (nm b.name), .int .i64 b.node, .bool b.slash] 92)
  rw [show (w.alloc (.cells #[.slice A a.dirs.length c, .string (nm a.name), .int .i64 a.node, .bool a.slash] 92)).heap.size = w.heap.size + 1 from by simp] at hno
  have HNB := Lib.hid hno
  have HNA := Lib.hid ((heap_alloc_old (w.alloc (.cells #[.slice A a.dirs.length c, .string (nm a.name), .int .i64 a.node, .bool a.slash] 92)) (.cells #[.slice A' b.dirs.length c', .string (nm b.name), .int .i64 b.node, .bool b.slash] 92) (by simp)).trans (heap_alloc_new w (.cells #[.slice A a.dirs.length c, .string (nm a.name), .int .i64 a.node, .bool a.slash] 92)))
  have hda := fun W (hW : Below w.heap.size w W) => isD_any fb db mb a ha W A c (h.below hW) ((hIa.below hW).more hW.size)
  have hdb := fun W (hW : Below w.heap.size w W) => isD_any fb db mb b hb W A' c' (h.below hW) ((hIb.below hW).more hW.size)
  unfold BoolPost at hda hdb
  have HDA := Lib.hid hda
  have HDB := Lib.hid hdb
  obtain ⟨bb, ob, c2, he, hcap, hbb, _, hcells⟩ := hIb.cases hb.ne
  injection he with he1 _ he3
  subst he1
  have hlen := hb.len
  have HCT := Lib.hid (fun W (hW : Below w.heap.size w W) => Tryz.slices_Contains_int bb ob b.dirs.length c' b.dirs a.node W (Nat.le_refl _) (by omega) (fun j hj => (hW.cell (p := ⟨bb, ob + j, none⟩) hbb).trans (hcells j hj)))
  have hct : (b.dirs.take b.dirs.length).contains a.node = true := by rw [List.take_length]; simpa using hin
  rw [hct] at HCT
  generalize decide (a.node ≠ 0 ∧ kindF f a.node = 1) = da at *
  generalize decide (b.node ≠ 0 ∧ kindF f b.node = 1) = dbb at *
  clear hb0 hno hda hdb hct hcells hbb hcap hlen h ha hb hIa hIb hin he3
  go_enter Tryz.func62, Tryz.ntmps62
  go_wp2
  generalize ((w.alloc (.cells #[.slice A a.dirs.length c, .string (nm a.name), .int .i64 a.node, .bool a.slash] 92)).alloc (.cells #[.slice (some ⟨bb, ob, none⟩) b.dirs.length c', .string (nm b.name), .int .i64 b.node, .bool b.slash] 92)) = W1 at *
  have l0 := blk_lt HNA.out
  have l1 := blk_lt HNB.out
  have p0 := cell_blk HNA.out 0
  have p1 := cell_blk HNA.out 1
  have p2 := cell_blk HNA.out 2
  have p3 := cell_blk HNA.out 3
  have q0 := cell_blk HNB.out 0
  have q1 := cell_blk HNB.out 1
  have q2 := cell_blk HNB.out 2
  have q3 := cell_blk HNB.out 3
  simp at p0 p1 p2 p3 q0 q1 q2 q3
  refine wp_region_quiet_below (by kernel_rfl) (by kernel_rfl) ?_
  repeat (first | go_big_quiet_step (((go_at_call 41; first | (with_reducible exact Calls.regrown_of (HDA.out _ (HB0.out.trans ((below_regrown _ _ _).mono HB0.out.size)))) | (with_reducible exact Calls.regrown_of (HDB.out _ (HB0.out.trans ((below_regrown _ _ _).mono HB0.out.size))))))) | quiet_step (((go_at_call 41; first | (with_reducible exact Calls.regrown_of (HDA.out _ (HB0.out.trans ((below_regrown _ _ _).mono HB0.out.size)))) | (with_reducible exact Calls.regrown_of (HDB.out _ (HB0.out.trans ((below_regrown _ _ _).mono HB0.out.size))))))))
  refine wpQuiet_nil ?_
  intro _ hw'
  obtain ⟨⟨dq, osq⟩, hw''⟩ := hw'
  subst hw''
  have HB2 := Lib.hid (HB0.out.trans ((below_regrown W1 dq osq).mono HB0.out.size))
  go_wp2_with (go_at_call 89; (with_reducible refine (HCT.out _ HB2.out).mono ?_); rintro e w' ⟨rfl, rfl⟩)
  go_ret
  exact ⟨rfl, HB2.out⟩
set_option maxRecDepth 100000 in
set_option maxHeartbeats 2000000 in
theorem rename_in {k : Nat} {f : Fs} (fb db mb : Nat) (p q : ByteArray) (w : World) (h : Sys w fb db mb k f) (hp : p.size ≤ maxLen) (hq : q.size ≤ maxLen) {a b : At} (h1 : namedThereF f p.data.toList = .ok a) (h2 : namedF f q.data.toList = .ok b) (hne : a.node ≠ b.node) (hin : a.node ∈ b.dirs) :
    Calls Tryz.prog 24 #[.pointer (some ⟨fb, 0, none⟩), .string p, .string q] w fun e w' => e = .returned (.int .i64 28) ∧ Below w.heap.size w w' := by
  have hi := namedThere_any fb db mb p w h hp
  have hj := fun W (hW : Below w.heap.size w W) => named_any fb db mb q W (h.below hW) hq
  have ha := (namedThere_ok h.ok h1).1
  have hb := (named_ok h.ok h2).1
  rw [h1] at hi
  rw [h2] at hj
  unfold GonP at hi hj
  dsimp only at hi hj
  have HI := Lib.hid hi
  have HJ := Lib.hid hj
  have HS := Lib.hid h
  have HRF := Lib.hid (fun W A A' c c' (hS : Sys W fb db mb k f) hIa hIb => refuse_in fb db mb a b A A' c c' W hS ha hb hIa hIb hin)
  have t1 : (a.node == b.node) = false := by simpa using hne
  clear hi hj ha hb h hp hq h1 h2 hne hin
  go_enter Tryz.func24, Tryz.ntmps24
  go_wp2_with (first | (go_at_call 49; (with_reducible refine HI.out.mono ?_); rintro e w2 ⟨v, rfl, hi2, hb2⟩; unfold plV; obtain ⟨A, c, rfl⟩ := hi2.len; have HBA := Lib.hid (hb2.alloc hb2.size (.cells #[.slice A a.dirs.length c, .string (nm a.name), .int .i64 a.node, .bool a.slash] 92)); have HIA := Lib.hid ((hi2.below ((Below.refl _ _).alloc (Nat.le_refl _) (.cells #[.slice A a.dirs.length c, .string (nm a.name), .int .i64 a.node, .bool a.slash] 92))).more (show w2.heap.size ≤ (w2.alloc (.cells #[.slice A a.dirs.length c, .string (nm a.name), .int .i64 a.node, .bool a.slash] 92)).heap.size by simp)); have HBX := Lib.hid (heap_alloc_new w2 (.cells #[.slice A a.dirs.length c, .string (nm a.name), .int .i64 a.node, .bool a.slash] 92)); clear hi2 hb2) | (go_at_call 61; (with_reducible refine (HJ.out _ HBA.out).mono ?_); rintro e w3 ⟨v', rfl, hi3, hb3⟩; unfold plV; obtain ⟨A', c', rfl⟩ := hi3.len; have hb4 := hb3.alloc hb3.size (.cells #[.slice A' b.dirs.length c', .string (nm b.name), .int .i64 b.node, .bool b.slash] 92); have HBB := Lib.hid (HBA.out.trans (hb4.mono HBA.out.size)); have HIB := Lib.hid ((hi3.below ((Below.refl _ _).alloc (Nat.le_refl _) (.cells #[.slice A' b.dirs.length c', .string (nm b.name), .int .i64 b.node, .bool b.slash] 92))).more (show w3.heap.size ≤ (w3.alloc (.cells #[.slice A' b.dirs.length c', .string (nm b.name), .int .i64 b.node, .bool b.slash] 92)).heap.size by simp)); have HIA3 := Lib.hid ((HIA.out.below hb4).more hb4.size); have rba := (hb4.block _ (blk_lt HBX.out)).trans HBX.out; have HSB := Lib.hid (HS.out.below HBB.out); clear hi3 hb3 hb4; have p0 := cell_blk rba 0; have p1 := cell_blk rba 1; have p2 := cell_blk rba 2; have p3 := cell_blk rba 3; simp at p0 p1 p2 p3; clear rba) | (go_at_call 62; (with_reducible refine (HRF.out _ _ _ _ _ HSB.out HIA3.out HIB.out).mono ?_); rintro e w5 ⟨rfl, hb5⟩; have HB5 := Lib.hid (HBB.out.trans (hb5.mono HBB.out.size)); clear hb5))
  go_ret
  exact ⟨rfl, HB5.out⟩
end Go.Proofs.YtpicgkoclbpjpaaGreatDoor
end

section
namespace Go.Proofs.YtpicgkoclbpjpaaGreatDoor
open Go.RowKit Go.Sort Go.Lib Go.Shelf
open PathM TreeM VtM
set_option linter.unusedVariables false
attribute [local go_sem] cell_rg
attribute [local go_sem] cell_off
attribute [local go_sem] cell_far
set_option maxRecDepth 100000 in
set_option maxHeartbeats 2000000 in
theorem touch_any {k : Nat} {f : Fs} (fb db mb : Nat) (p : ByteArray) (w : World) (h : Sys w fb db mb k f) (hp : p.size ≤ maxLen) (hkk : k < 800000) :
    Calls Tryz.prog 74 #[.pointer (some ⟨fb, 0, none⟩), .string p] w (WroteP fb db mb w (touchF f p.data.toList)) := by
  have HI := Lib.hid (there_any fb db mb p true w h hp)
  have HS := Lib.hid h
  unfold WroteP touchF
  cases hr : thereF f p.data.toList true with
  | error x =>
    rw [hr] at HI
    unfold GonePost at HI
    dsimp only at HI ⊢
    clear hr h hp hkk
    go_enter Tryz.func74, Tryz.ntmps74
    go_wp2_with (go_at_call 40; (with_reducible refine HI.out.mono ?_); rintro e w2 ⟨rfl, hx0, hb2⟩; have x1 : (x == 0) = false := beq_eq_false_iff_ne.2 hx0; have x2 : (x != 0) = true := bne_iff_ne.2 hx0; have HBA := Lib.hid (hb2.alloc hb2.size (.cells #[.slice none 0 0, .string { data := #[] }, .int .i64 0, .bool false] 92)); clear hx0 hb2)
    go_ret
    exact ⟨rfl, HS.out.live.below HBA.out, kept_of_below HBA.out⟩
  | ok a =>
    obtain ⟨ha, hn4, hn2⟩ := there_ok h.ok hr
    rw [hr] at HI
    unfold GonePost at HI
    dsimp only at HI ⊢
    have HT := Lib.hid (fun W (hW : Sys W fb db mb k f) => tick_any fb db mb f W hW.live)
    have h1 : FsOk k (tickF f) := h.ok.tick
    have h64 := ha.node64 h.ok
    have hln := h1.len
    have HST := Lib.hid (fun W (hW : Live W fb db mb (tickF f)) => stamp_any fb db mb (tickF f) a.node W hW h1.rise h64 (by omega) (nod_id hn4))
    clear hr h hp hkk hn2 hn4 ha h1 h64 hln
    go_enter Tryz.func74, Tryz.ntmps74
    go_wp2_with (first | (go_at_call 40; (with_reducible refine HI.out.mono ?_); rintro e w2 ⟨v, rfl, hi2, hb2⟩; unfold plV; obtain ⟨A, c, rfl⟩ := hi2.len; have HBA := Lib.hid (hb2.alloc hb2.size (.cells #[.slice A a.dirs.length c, .string (nm a.name), .int .i64 a.node, .bool a.slash] 92)); have HSA := Lib.hid (HS.out.below HBA.out); have HBX := Lib.hid (heap_alloc_new w2 (.cells #[.slice A a.dirs.length c, .string (nm a.name), .int .i64 a.node, .bool a.slash] 92)); clear hi2 hb2) | (go_at_call 54; (with_reducible refine (HT.out _ HSA.out).mono ?_); rintro e w3 ⟨rfl, hl3, hk3⟩; have HL3 := Lib.hid hl3; have HK3 := Lib.hid ((kept_of_below HBA.out).trans hk3); have HBX3 := Lib.hid (hk3.at HBX.out (HSA.out.live.not3 (OfType.of HBX.out) (by decide) (by decide))); clear hl3 hk3; have q2 := cell_blk HBX3.out 2; simp at q2) | (go_at_call 86; (with_reducible refine (HST.out _ HL3.out).mono ?_); rintro e w4 ⟨rfl, hl4, hk4⟩; have HL4 := Lib.hid hl4; have HK4 := Lib.hid (HK3.out.trans hk4); clear hl4 hk4))
    go_ret
    exact ⟨rfl, HL4.out, HK4.out⟩
end Go.Proofs.YtpicgkoclbpjpaaGreatDoor
end

section
namespace Go.Proofs.YtpicgkoclbpjpaaGreatDoor
open Go.RowKit Go.Sort Go.Lib Go.Shelf
open PathM TreeM VtM
set_option linter.unusedVariables false
attribute [local go_sem] cell_rg
attribute [local go_sem] cell_off
attribute [local go_sem] cell_far
set_option maxRecDepth 100000 in
set_option maxHeartbeats 2000000 in
theorem link_any {k : Nat} {f : Fs} (fb db mb : Nat) (p q : ByteArray) (w : World) (h : Sys w fb db mb k f) (hp : p.size ≤ maxLen) (hq : q.size ≤ maxLen) (hkk : k < 800000) :
    Calls Tryz.prog 22 #[.pointer (some ⟨fb, 0, none⟩), .string p, .string q] w (WroteP fb db mb w (linkF f p.data.toList q.data.toList)) := by
  have HI := Lib.hid (there_any fb db mb p false w h hp)
  have HS := Lib.hid h
  have hfn := fun W (hW : Sys W fb db mb k f) => freeName_any fb db mb q W hW hq
  unfold WroteP linkF
  cases hr : thereF f p.data.toList false with
  | error x =>
    rw [hr] at HI
    unfold GonePost at HI
    dsimp only at HI ⊢
    clear hr h hp hq hkk hfn
    go_enter Tryz.func22, Tryz.ntmps22
    go_wp2_with (go_at_call 40; (with_reducible refine HI.out.mono ?_); rintro e w2 ⟨rfl, hx0, hb2⟩; have x1 : (x == 0) = false := beq_eq_false_iff_ne.2 hx0; have x2 : (x != 0) = true := bne_iff_ne.2 hx0; have HBA := Lib.hid (hb2.alloc hb2.size (.cells #[.slice none 0 0, .string { data := #[] }, .int .i64 0, .bool false] 92)); clear hx0 hb2)
    go_ret
    exact ⟨rfl, HS.out.live.below HBA.out, kept_of_below HBA.out⟩
  | ok a =>
    obtain ⟨ha, hn4, hn2⟩ := there_ok h.ok hr
    rw [hr] at HI
    unfold GonePost at HI
    dsimp only at HI ⊢
    have his := fun W A c (hS : Sys W fb db mb k f) (hI : IntsIn W W.heap.size (.slice A a.dirs.length c) a.dirs) => isD_any fb db mb a ha W A c hS hI
    unfold BoolPost at his
    by_cases h1 : kindF f a.node = 1
    · rw [if_pos h1]
      rw [show decide (a.node ≠ 0 ∧ kindF f a.node = 1) = true from decide_eq_true ⟨hn2, h1⟩] at his
      have HISD := Lib.hid his
      clear hr h hp hq hkk hfn his h1 hn2 hn4 ha
      go_enter Tryz.func22, Tryz.ntmps22
      go_wp2_with (first | (go_at_call 40; (with_reducible refine HI.out.mono ?_); rintro e w2 ⟨v, rfl, hi2, hb2⟩; unfold plV; obtain ⟨A, c, rfl⟩ := hi2.len; have HBA := Lib.hid (hb2.alloc hb2.size (.cells #[.slice A a.dirs.length c, .string (nm a.name), .int .i64 a.node, .bool a.slash] 92)); have HSA := Lib.hid (HS.out.below HBA.out); have HIA := Lib.hid ((hi2.below ((Below.refl _ _).alloc (Nat.le_refl _) (.cells #[.slice A a.dirs.length c, .string (nm a.name), .int .i64 a.node, .bool a.slash] 92))).more (show w2.heap.size ≤ (w2.alloc (.cells #[.slice A a.dirs.length c, .string (nm a.name), .int .i64 a.node, .bool a.slash] 92)).heap.size by simp)); have HBX := Lib.hid (heap_alloc_new w2 (.cells #[.slice A a.dirs.length c, .string (nm a.name), .int .i64 a.node, .bool a.slash] 92)); clear hi2 hb2) | (go_at_call 41; (with_reducible refine (HISD.out _ _ _ HSA.out HIA.out).mono ?_); rintro e w3 ⟨rfl, hb3⟩; have rb3 := (hb3.block _ (blk_lt HBX.out)).trans HBX.out; have HRB3 := Lib.hid rb3; have HB3 := Lib.hid (HBA.out.trans (hb3.mono HBA.out.size)); have HS3 := Lib.hid (HSA.out.below hb3); clear hb3 rb3))
      go_ret
      exact ⟨rfl, HS3.out.live, kept_of_below HB3.out⟩
    · rw [if_neg h1]
      rw [show decide (a.node ≠ 0 ∧ kindF f a.node = 1) = false from decide_eq_false (fun h => h1 h.2)] at his
      have HISD := Lib.hid his
      cases hr2 : freeNameF f q.data.toList with
      | error x =>
        rw [hr2] at hfn
        unfold GonP at hfn
        dsimp only at hfn ⊢
        have HFN := Lib.hid hfn
        clear hr hr2 h hp hq hkk hfn his h1 hn2 hn4 ha
        go_enter Tryz.func22, Tryz.ntmps22
        go_wp2_with (first | (go_at_call 40; (with_reducible refine HI.out.mono ?_); rintro e w2 ⟨v, rfl, hi2, hb2⟩; unfold plV; obtain ⟨A, c, rfl⟩ := hi2.len; have HBA := Lib.hid (hb2.alloc hb2.size (.cells #[.slice A a.dirs.length c, .string (nm a.name), .int .i64 a.node, .bool a.slash] 92)); have HSA := Lib.hid (HS.out.below HBA.out); have HIA := Lib.hid ((hi2.below ((Below.refl _ _).alloc (Nat.le_refl _) (.cells #[.slice A a.dirs.length c, .string (nm a.name), .int .i64 a.node, .bool a.slash] 92))).more (show w2.heap.size ≤ (w2.alloc (.cells #[.slice A a.dirs.length c, .string (nm a.name), .int .i64 a.node, .bool a.slash] 92)).heap.size by simp)); have HBX := Lib.hid (heap_alloc_new w2 (.cells #[.slice A a.dirs.length c, .string (nm a.name), .int .i64 a.node, .bool a.slash] 92)); clear hi2 hb2) | (go_at_call 41; (with_reducible refine (HISD.out _ _ _ HSA.out HIA.out).mono ?_); rintro e w3 ⟨rfl, hb3⟩; have rb3 := (hb3.block _ (blk_lt HBX.out)).trans HBX.out; have HRB3 := Lib.hid rb3; have HB3 := Lib.hid (HBA.out.trans (hb3.mono HBA.out.size)); have HS3 := Lib.hid (HSA.out.below hb3); clear hb3 rb3) | (go_at_call 47; (with_reducible refine (HFN.out _ HS3.out).mono ?_); rintro e w4 ⟨⟨A4, n4, c4, nb4, id4, sl4, rfl⟩, hx0, hb4⟩; have x1 : (x == 0) = false := beq_eq_false_iff_ne.2 hx0; have x2 : (x != 0) = true := bne_iff_ne.2 hx0; have HB4 := Lib.hid (HB3.out.trans ((hb4.alloc hb4.size (.cells #[.slice A4 n4 c4, .string nb4, .int .i64 id4, .bool sl4] 92)).mono HB3.out.size)); clear hx0 hb4))
        go_ret
        exact ⟨rfl, HS.out.live.below HB4.out, kept_of_below HB4.out⟩
      | ok b =>
        obtain ⟨hb, hb0, hbs⟩ := freeName_ok h.ok hr2
        rw [hr2] at hfn
        unfold GonP at hfn
        dsimp only at hfn ⊢
        have HFN := Lib.hid hfn
        have HT := Lib.hid (fun W (hW : Sys W fb db mb k f) => tick_any fb db mb f W hW.live)
        have HTK := Lib.hid (h.ok.tick : FsOk k (tickF f))
        have h64 := ha.node64 h.ok
        have hbf : ∀ W A c, Sys W fb db mb k (tickF f) → IntsIn W W.heap.size (.slice A b.dirs.length c) b.dirs → Calls Tryz.prog 55 #[.pointer (some ⟨fb, 0, none⟩), .agg #[.slice A b.dirs.length c, .string (nm b.name), .int .i64 b.node, .bool b.slash], .int .i64 a.node] W fun e w' => e = .returned (.tuple #[]) ∧ Live w' fb db mb (bindF (tickF f) b a.node) ∧ Kept (Own3 fb db mb) W w' := fun W A c hS hI => bindF_any fb db mb b _ a.node W hS hb.in hI h64 (by omega)
        have HBF := Lib.hid hbf
        clear hr hr2 h hp hq hkk hfn his h1 hn2 hn4 ha hb hb0 hbs h64 hbf
        go_enter Tryz.func22, Tryz.ntmps22
        go_wp2_with (first | (go_at_call 40; (with_reducible refine HI.out.mono ?_); rintro e w2 ⟨v, rfl, hi2, hb2⟩; unfold plV; obtain ⟨A, c, rfl⟩ := hi2.len; have HBA := Lib.hid (hb2.alloc hb2.size (.cells #[.slice A a.dirs.length c, .string (nm a.name), .int .i64 a.node, .bool a.slash] 92)); have HSA := Lib.hid (HS.out.below HBA.out); have HIA := Lib.hid ((hi2.below ((Below.refl _ _).alloc (Nat.le_refl _) (.cells #[.slice A a.dirs.length c, .string (nm a.name), .int .i64 a.node, .bool a.slash] 92))).more (show w2.heap.size ≤ (w2.alloc (.cells #[.slice A a.dirs.length c, .string (nm a.name), .int .i64 a.node, .bool a.slash] 92)).heap.size by simp)); have HBX := Lib.hid (heap_alloc_new w2 (.cells #[.slice A a.dirs.length c, .string (nm a.name), .int .i64 a.node, .bool a.slash] 92)); clear hi2 hb2) | (go_at_call 41; (with_reducible refine (HISD.out _ _ _ HSA.out HIA.out).mono ?_); rintro e w3 ⟨rfl, hb3⟩; have rb3 := (hb3.block _ (blk_lt HBX.out)).trans HBX.out; have HRB3 := Lib.hid rb3; have HB3 := Lib.hid (HBA.out.trans (hb3.mono HBA.out.size)); have HS3 := Lib.hid (HSA.out.below hb3); clear hb3 rb3) | (go_at_call 47; (with_reducible refine (HFN.out _ HS3.out).mono ?_); rintro e w4 ⟨v4, rfl, hi4, hb4⟩; unfold plV; obtain ⟨A4, c4, rfl⟩ := hi4.len; have hba := hb4.alloc hb4.size (.cells #[.slice A4 b.dirs.length c4, .string (nm b.name), .int .i64 b.node, .bool b.slash] 92); have HB4 := Lib.hid (HB3.out.trans (hba.mono HB3.out.size)); have HS4 := Lib.hid (HS3.out.below hba); have HI4 := Lib.hid ((hi4.below ((Below.refl _ _).alloc (Nat.le_refl _) (.cells #[.slice A4 b.dirs.length c4, .string (nm b.name), .int .i64 b.node, .bool b.slash] 92))).more (show w4.heap.size ≤ (w4.alloc (.cells #[.slice A4 b.dirs.length c4, .string (nm b.name), .int .i64 b.node, .bool b.slash] 92)).heap.size by simp)); have HX4 := Lib.hid (heap_alloc_new w4 (.cells #[.slice A4 b.dirs.length c4, .string (nm b.name), .int .i64 b.node, .bool b.slash] 92)); have HRB4 := Lib.hid ((hba.block _ (blk_lt HRB3.out)).trans HRB3.out); clear hi4 hb4 hba) | (go_at_call 54; (with_reducible refine (HT.out _ HS4.out).mono ?_); rintro e w5 ⟨rfl, hl5, hk5⟩; have HK5 := Lib.hid ((kept_of_below HB4.out).trans hk5); have HX5 := Lib.hid (hk5.at HX4.out (HS4.out.live.not3 (OfType.of HX4.out) (by decide) (by decide))); have HRB5 := Lib.hid (hk5.at HRB4.out (HS4.out.live.not3 (OfType.of HRB4.out) (by decide) (by decide))); have HI5 := Lib.hid (HI4.out.wrote HS4.out.live hk5); have HS5 := Lib.hid (HS4.out.wrote hl5 hk5 HTK.out); clear hl5 hk5; have q0 := cell_blk HX5.out 0; have q1 := cell_blk HX5.out 1; have q2 := cell_blk HX5.out 2; have q3 := cell_blk HX5.out 3; have q4 := cell_blk HRB5.out 2; simp at q0 q1 q2 q3 q4) | (go_at_call 55; (with_reducible refine (HBF.out _ _ _ HS5.out HI5.out).mono ?_); rintro e w6 ⟨rfl, hl6, hk6⟩; have HL6 := Lib.hid hl6; have HK6 := Lib.hid (HK5.out.trans hk6); clear hl6 hk6))
        go_ret
        exact ⟨rfl, HL6.out, HK6.out⟩
end Go.Proofs.YtpicgkoclbpjpaaGreatDoor
end

section
namespace Go.Proofs.YtpicgkoclbpjpaaGreatDoor
open Go.RowKit Go.Sort Go.Lib Go.Shelf
open PathM TreeM VtM
set_option linter.unusedVariables false
attribute [local go_sem] cell_rg
attribute [local go_sem] cell_off
attribute [local go_sem] cell_far
theorem ok0 : FsOk 10 newF := by
  refine ⟨by unfold newF Rise; simp, ?_, ?_, ?_, ?_, by unfold newF; simp, by unfold newF; simp, by unfold newF I64; simp, by unfold newF I64; simp, by decide +kernel, ?_, ?_, ?_⟩
  all_goals intro n hn; simp [newF] at hn; subst hn
  · intro i j hij hj; simp at hj
  · simp
  · unfold I64 newF; simp
  · simp
  · intro e he; simp at he
  · simp
  · simp
theorem ok1 : FsOk 12 aw1 := keep_mkdir ok0 (by omega) _ _
theorem ok2 : FsOk 14 aw2 := keep_write ok1 (by omega) _ _ _
theorem ok3 : FsOk 16 aw3 := keep_symlink ok2 (by omega) _ _
theorem ok4 : FsOk 18 aw4 := keep_unlink ok3 _
theorem aw_mkdir (fb db mb : Nat) (W : World) (h : Sys W fb db mb 10 newF) : Calls Tryz.prog 19 #[.pointer (some ⟨fb, 0, none⟩), .string ⟨#[47, 97]⟩, .int .i64 493] W fun e w' => e = .returned (.int .i64 0) ∧ Live w' fb db mb aw1 ∧ Kept (Own3 fb db mb) W w' := by
  have := mkdir_any fb db mb ⟨#[47, 97]⟩ 493 W h (by decide) (by omega)
  unfold WroteP at this
  rw [show (mkdirF newF (⟨#[47, 97]⟩ : ByteArray).data.toList 493) = (aw1, 0) from by decide +kernel] at this
  exact this
theorem aw_write (fb db mb : Nat) (W : World) (h : Sys W fb db mb 12 aw1) : Calls Tryz.prog 13 #[.pointer (some ⟨fb, 0, none⟩), .string ⟨#[47, 97, 47, 102]⟩, .string ⟨#[120]⟩, .int .i64 1] W fun e w' => e = .returned (.int .i64 0) ∧ Live w' fb db mb aw2 ∧ Kept (Own3 fb db mb) W w' := by
  have := write_new fb db mb ⟨#[47, 97, 47, 102]⟩ ⟨#[120]⟩ 1 W h (by decide) (by omega) (by decide) (by decide) (a := ⟨[1, 2], [102], 0, false⟩) (by kernel_rfl) rfl rfl (by decide)
  unfold WroteP at this
  rw [show (writeF aw1 (⟨#[47, 97, 47, 102]⟩ : ByteArray).data.toList (⟨#[120]⟩ : ByteArray).data.toList 1) = (aw2, 0) from by decide +kernel] at this
  exact this
theorem aw_symlink (fb db mb : Nat) (W : World) (h : Sys W fb db mb 14 aw2) : Calls Tryz.prog 17 #[.pointer (some ⟨fb, 0, none⟩), .string ⟨#[97, 47, 102]⟩, .string ⟨#[47, 108]⟩] W fun e w' => e = .returned (.int .i64 0) ∧ Live w' fb db mb aw3 ∧ Kept (Own3 fb db mb) W w' := by
  have := symlink_any fb db mb ⟨#[97, 47, 102]⟩ ⟨#[47, 108]⟩ W h (by decide) (by omega)
  unfold WroteP at this
  rw [show (symlinkF aw2 (⟨#[97, 47, 102]⟩ : ByteArray).data.toList (⟨#[47, 108]⟩ : ByteArray).data.toList) = (aw3, 0) from by decide +kernel] at this
  exact this
theorem aw_read3 (fb db mb : Nat) (W : World) (h : Sys W fb db mb 16 aw3) : Calls Tryz.prog 12 #[.pointer (some ⟨fb, 0, none⟩), .string ⟨#[47, 108]⟩] W fun e w' => e = .returned (.tuple #[.string ⟨#[120]⟩, .int .i64 0]) ∧ Below W.heap.size W w' := by
  have := read_any fb db mb ⟨#[47, 108]⟩ W h (by decide)
  rw [show (readF aw3 (⟨#[47, 108]⟩ : ByteArray).data.toList) = ([120], 0) from by decide +kernel] at this
  exact this
theorem aw_rename (fb db mb : Nat) (W : World) (h : Sys W fb db mb 16 aw3) : Calls Tryz.prog 24 #[.pointer (some ⟨fb, 0, none⟩), .string ⟨#[47, 97]⟩, .string ⟨#[47, 97, 47, 98]⟩] W fun e w' => e = .returned (.int .i64 28) ∧ Below W.heap.size W w' :=
  rename_in fb db mb ⟨#[47, 97]⟩ ⟨#[47, 97, 47, 98]⟩ W h (by decide) (by decide) (a := ⟨[1], [97], 2, false⟩) (b := ⟨[1, 2], [98], 0, false⟩) (by kernel_rfl) (by kernel_rfl) (by decide) (by decide)
theorem aw_rmdir (fb db mb : Nat) (W : World) (h : Sys W fb db mb 16 aw3) : Calls Tryz.prog 21 #[.pointer (some ⟨fb, 0, none⟩), .string ⟨#[47, 97]⟩] W fun e w' => e = .returned (.int .i64 24) ∧ Live w' fb db mb aw3 ∧ Kept (Own3 fb db mb) W w' := by
  have := rmdir_any fb db mb ⟨#[47, 97]⟩ W h (by decide) (by omega)
  unfold WroteP at this
  rw [show (rmdirF aw3 (⟨#[47, 97]⟩ : ByteArray).data.toList) = (aw3, 24) from by decide +kernel] at this
  exact this
theorem aw_unlink (fb db mb : Nat) (W : World) (h : Sys W fb db mb 16 aw3) : Calls Tryz.prog 18 #[.pointer (some ⟨fb, 0, none⟩), .string ⟨#[47, 108]⟩] W fun e w' => e = .returned (.int .i64 0) ∧ Live w' fb db mb aw4 ∧ Kept (Own3 fb db mb) W w' := by
  have := unlink_any fb db mb ⟨#[47, 108]⟩ W h (by decide) (by omega)
  unfold WroteP at this
  rw [show (unlinkF aw3 (⟨#[47, 108]⟩ : ByteArray).data.toList) = (aw4, 0) from by decide +kernel] at this
  exact this
theorem aw_read4 (fb db mb : Nat) (W : World) (h : Sys W fb db mb 18 aw4) : Calls Tryz.prog 12 #[.pointer (some ⟨fb, 0, none⟩), .string ⟨#[47, 108]⟩] W fun e w' => e = .returned (.tuple #[.string { data := #[] }, .int .i64 20]) ∧ Below W.heap.size W w' := by
  have := read_any fb db mb ⟨#[47, 108]⟩ W h (by decide)
  rw [show (readF aw4 (⟨#[47, 108]⟩ : ByteArray).data.toList) = ([], 20) from by decide +kernel] at this
  exact this
theorem aw_clock (fb db mb : Nat) (W : World) (h : Live W fb db mb aw4) : Calls Tryz.prog 15 #[.pointer (some ⟨fb, 0, none⟩)] W fun e w' => e = .returned (.int .i64 9) ∧ W = w' := by
  have := clock_any fb db mb aw4 W h
  rw [show aw4.ck = 9 from by decide +kernel] at this
  exact this
theorem aw_tree (fb db mb : Nat) (W : World) (h : Sys W fb db mb 18 aw4) : Calls Tryz.prog 23 #[.pointer (some ⟨db, 0, none⟩)] W fun e w' => (∃ A c l r b, e = .returned (.agg #[.slice A 3 c, .int .i64 l, .int .i64 r, .int .i64 b])) ∧ Below W.heap.size W w' := by
  obtain ⟨ev, hd⟩ := h.live.disk
  have hl : aw4.t.nodes.length = 3 := by decide +kernel
  refine (tree5_any db mb aw4.t ev W hd ok4.rise (by omega) (by omega) ok4.data).mono ?_
  rintro e w' ⟨nv, rfl, ⟨A, c, rfl, -⟩, hb⟩
  rw [hl]
  exact ⟨⟨_, _, _, _, _, rfl⟩, hb⟩
set_option maxRecDepth 100000 in
theorem room5_any (w : World) : Calls Tryz.prog 38 #[] w fun e w' => e = .returned (.agg #[.int .i64 30, .int .i64 500]) ∧ Below w.heap.size w w' := by
  go_enter Tryz.func38, Tryz.ntmps38
  go_wp2
  refine bodyPost_ret (results_cell_row rfl _ _ _ 24 _ (0, 0) _ rfl (heap_alloc_new w _) Tryz.underlying24 rfl (by kernel_rfl)) rfl ?_
  exact ⟨rfl, (Below.refl _ _).alloc (Nat.le_refl _) _⟩
theorem aw_open (nv : Value) (W : World) (hN : NodesIn W W.heap.size nv (newT 30 500).nodes) : Calls Tryz.prog 36 #[trV nv (newT 30 500), .int .i64 5] W fun e w' => ∃ fb db mb, e = .returned (.tuple #[.pointer (some ⟨fb, 0, none⟩), .pointer (some ⟨db, 0, none⟩), .int .i64 0]) ∧ W.heap.size ≤ fb ∧ W.heap.size ≤ db ∧ W.heap.size ≤ mb ∧ Live w' fb db mb newF ∧ Below W.heap.size W w' := by
  have := open5_any nv (newT 30 500) 5 W hN (by decide +kernel) (by intro n hn; simp [newT] at hn; subst hn; unfold i64; simp) (by intro n hn; simp [newT] at hn; subst hn; simp) (by intro n hn; simp [newT] at hn; subst hn; simp)
  unfold OpenPost at this
  exact this
theorem Kept.below3 {w W W' : World} {fb db mb : Nat} (hb : Below w.heap.size w W) (hf : w.heap.size ≤ fb ∧ w.heap.size ≤ db ∧ w.heap.size ≤ mb) (hk : Kept (Own3 fb db mb) W W') : Below w.heap.size w W' :=
  hb.trans (hk.below hb.size (fun k hs => by rcases hs with e | e | e <;> omega))
theorem field_nodes (a1 a2 a3 : Int) (A : Option Addr) (n c : Nat) (w : World) : Sem.run Tryz.prog (Instr.field 26 (.agg #[.slice A n c, .int .i64 a1, .int .i64 a2, .int .i64 a3]) 0) w = .ok (.slice A n c) w := by kernel_rfl
set_option maxRecDepth 100000 in
set_option maxHeartbeats 4000000 in
theorem awake5_any (w : World) (hM : ∃ m, w.cell? ⟨0, 0, none⟩ = some (.int .i64 m)) : Calls Tryz.prog 10 #[] w fun e w' => e = .returned (.bool true) ∧ Below w.heap.size w w' := by
  have HM := Lib.hid hM
  have hfn := field_nodes
  clear hM
  go_enter Tryz.func10, Tryz.ntmps10
  go_wp2_with (first | (go_at_call 38; (with_reducible refine (room5_any _).mono ?_); rintro e w1 ⟨rfl, hb1⟩; have HB1 := Lib.hid hb1; clear hb1) | (go_at_call 37; (with_reducible refine (rnew_any 30 500 _).mono ?_); rintro e w2 ⟨nv, rfl, hN, hb2⟩; have HB2 := Lib.hid (HB1.out.trans (hb2.mono HB1.out.size)); have HN := Lib.hid hN; clear hb2 hN) | (go_at_call 36; (refine (aw_open _ _ HN.out).mono ?_); rintro e w3 ⟨fb, db, mb, rfl, h1, h2, h3, hl, hb3⟩; have HF := Lib.hid (show w.heap.size ≤ fb ∧ w.heap.size ≤ db ∧ w.heap.size ≤ mb from ⟨Nat.le_trans HB2.out.size h1, Nat.le_trans HB2.out.size h2, Nat.le_trans HB2.out.size h3⟩); have HB3 := Lib.hid (HB2.out.trans (hb3.mono HB2.out.size)); have HS3 : Hid (Sys w3 fb db mb 10 newF) := Lib.hid (by obtain ⟨m, hm⟩ := HM.out; exact ⟨hl, ok0, m, (HB3.out.cell (p := ⟨0, 0, none⟩) (cell_lt hm)).trans hm⟩); clear h1 h2 h3 hl hb3) | (go_at_call 19; (with_reducible refine (aw_mkdir _ _ _ _ HS3.out).mono ?_); rintro e w4 ⟨rfl, hl, hk⟩; have HS4 := Lib.hid (HS3.out.wrote hl hk ok1); have HB4 := Lib.hid (Kept.below3 HB3.out HF.out hk); clear hl hk) | (go_at_call 13; (with_reducible refine (aw_write _ _ _ _ HS4.out).mono ?_); rintro e w5 ⟨rfl, hl, hk⟩; have HS5 := Lib.hid (HS4.out.wrote hl hk ok2); have HB5 := Lib.hid (Kept.below3 HB4.out HF.out hk); clear hl hk) | (go_at_call 17; (with_reducible refine (aw_symlink _ _ _ _ HS5.out).mono ?_); rintro e w6 ⟨rfl, hl, hk⟩; have HS6 := Lib.hid (HS5.out.wrote hl hk ok3); have HB6 := Lib.hid (Kept.below3 HB5.out HF.out hk); clear hl hk) | (go_at_call 12; (with_reducible refine (aw_read3 _ _ _ _ HS6.out).mono ?_); rintro e w7 ⟨rfl, hb⟩; have HS7 := Lib.hid (HS6.out.below hb); have HB7 := Lib.hid (HB6.out.trans (hb.mono HB6.out.size)); clear hb) | (go_at_call 24; (with_reducible refine (aw_rename _ _ _ _ HS7.out).mono ?_); rintro e w8 ⟨rfl, hb⟩; have HS8 := Lib.hid (HS7.out.below hb); have HB8 := Lib.hid (HB7.out.trans (hb.mono HB7.out.size)); clear hb) | (go_at_call 21; (with_reducible refine (aw_rmdir _ _ _ _ HS8.out).mono ?_); rintro e w9 ⟨rfl, hl, hk⟩; have HS9 := Lib.hid (HS8.out.wrote hl hk ok3); have HB9 := Lib.hid (Kept.below3 HB8.out HF.out hk); clear hl hk) | (go_at_call 18; (with_reducible refine (aw_unlink _ _ _ _ HS9.out).mono ?_); rintro e w10 ⟨rfl, hl, hk⟩; have HS10 := Lib.hid (HS9.out.wrote hl hk ok4); have HB10 := Lib.hid (Kept.below3 HB9.out HF.out hk); clear hl hk) | (go_at_call 15; (with_reducible refine (aw_clock _ _ _ _ HS10.out.live).mono ?_); rintro e w11 ⟨rfl, rfl⟩) | (go_at_call 12; (with_reducible refine (aw_read4 _ _ _ _ HS10.out).mono ?_); rintro e w12 ⟨rfl, hb⟩; have HS12 := Lib.hid (HS10.out.below hb); have HB12 := Lib.hid (HB10.out.trans (hb.mono HB10.out.size)); clear hb) | (go_at_call 23; (with_reducible refine (aw_tree _ _ _ _ HS12.out).mono ?_); rintro e w13 ⟨⟨A, c, l, r, b, rfl⟩, hb⟩; have HB13 := Lib.hid (HB12.out.trans (hb.mono HB12.out.size)); clear hb))
  go_ret
  exact ⟨rfl, HB13.out⟩
end Go.Proofs.YtpicgkoclbpjpaaGreatDoor
end

section
namespace Go.Proofs.YtpicgkoclbpjpaaGreatDoor
open Go.RowKit Go.Sort Go.Lib Go.Shelf
open PathM TreeM VtM
set_option linter.unusedVariables false
attribute [local go_sem] cell_rg
attribute [local go_sem] cell_off
attribute [local go_sem] cell_far
set_option maxRecDepth 100000 in
set_option maxHeartbeats 4000000 in
theorem rewrite_any {k : Nat} {f : Fs} (fb db mb : Nat) (id : Int) (data : ByteArray) (how : Int) (w : World) (h : Sys w fb db mb k f) (hk : (nod f.t.nodes id).kind ≠ 0) (hd : data.size ≤ 1000000) (hkk : k < 800000) :
    Calls Tryz.prog 44 #[.pointer (some ⟨fb, 0, none⟩), .int .i64 id, .string data, .int .i64 how] w (WroteP fb db mb w (rewriteF f id data.data.toList how)) := by
  have k0 := cell_blk h.live.files 0
  simp at k0
  have hlt := blk_lt h.live.files
  have hm := method_Node
  have hm2 := method_Put
  have h64 := (h.ok.nid hk).1
  obtain ⟨ev, hD⟩ := h.live.disk
  have HN := Lib.hid (dnode_any db mb f.t ev id w hD h64)
  have hln := h.ok.len
  have hbf0 := fun m W (hW : Live W fb db mb f) => bytesFit_any fb db mb f m W hW h.ok.rise (by omega) h.ok.data h.ok.rb
  have HTK := Lib.hid (fun W (hW : Live W fb db mb f) => tick_any fb db mb f W hW)
  have hid := nod_id hk
  have hok1 := h.ok.tick
  have hpu : ∀ kd W, Live W fb db mb (tickF f) → Calls Tryz.prog 203 #[.pointer (some ⟨db, 0, none⟩), ndV (.slice none 0 0) { nod f.t.nodes id with data := kd, time := (tickF f).ck }] W fun e w' => e = .returned (.tuple #[]) ∧ (∃ ev', DiskIn w' db mb (putT f.t { nod f.t.nodes id with data := kd, time := (tickF f).ck }) ev') ∧ Kept (Own2 db mb) W w' := fun kd W hW => by
    obtain ⟨ev, hd⟩ := hW.disk
    exact put_any db mb f.t ev { nod f.t.nodes id with data := kd, time := (tickF f).ck } none 0 0 W hd h.ok.rise (by show i64 (nod f.t.nodes id).id; rw [hid]; exact h64) (by omega)
  have hnl := h.ok.ndata id
  have HS := Lib.hid h
  unfold rewriteF WroteP
  dsimp only
  unfold BoolPost at hbf0
  unfold ndV at HN hpu
  have hD1 : Hid (Live w fb db mb f) := Lib.hid h.live
  clear hk h64 hD hln hid hok1 h hkk
  generalize nod f.t.nodes id = nd at *
  have HPU := Lib.hid hpu
  clear hpu
  obtain ⟨ck, hck⟩ : ∃ ck, (tickF f).ck = ck := ⟨_, rfl⟩
  rw [hck] at HPU ⊢
  have HCK := Lib.hid hck
  clear hck
  have hsz := sizeD data
  have hns := nm_size nd.data
  by_cases hh : how = 2
  · subst hh
    rw [if_pos rfl]
    have hcat := cat_nm (nm nd.data) data (nd.data ++ data.data.toList) (by rw [nm_data]) (by rw [List.length_append]; omega)
    have hbf : ∀ m W, m = ((nm nd.data).size : Int) + (data.size : Int) - ((nm nd.data).size : Int) → Live W fb db mb f → Calls Tryz.prog 80 #[.pointer (some ⟨fb, 0, none⟩), .int .i64 m] W fun e w' => e = .returned (.bool (bytesFitB f ((nd.data.length : Int) + (data.data.toList.length : Int) - (nd.data.length : Int)))) ∧ Below W.heap.size W w' := fun m W hm hW => by
      have := hbf0 m W hW
      rw [show m = ((nd.data.length : Int) + (data.data.toList.length : Int) - (nd.data.length : Int)) from by omega] at this ⊢
      exact this
    clear hbf0
    have hns2 : (nm nd.data).size ≤ 4096 := by omega
    by_cases h1 : 4096 < nd.data.length + data.data.toList.length
    · rw [if_pos (.inl h1)]
      dsimp only
      have hs1 : (4096 : Int) < ((nm nd.data).size : Int) + (data.size : Int) := by omega
      clear h1 hbf HTK HPU hsz hns
      go_enter Tryz.func44, Tryz.ntmps44
      go_wp2_with (go_at_call 202; (with_reducible refine HN.out.mono ?_); rintro e w1 ⟨rfl, hb1⟩; have HBX := Lib.hid (heap_alloc_new w1 (.cells #[.int .i64 nd.id, .int .i64 nd.kind, .int .i64 nd.mode, .int .i64 nd.owner, .int .i64 nd.time, .string (nm nd.data), .slice none 0 0] 64)); have HB1 := Lib.hid (hb1.alloc hb1.size (.cells #[.int .i64 nd.id, .int .i64 nd.kind, .int .i64 nd.mode, .int .i64 nd.owner, .int .i64 nd.time, .string (nm nd.data), .slice none 0 0] 64)); have HSZ1 := Lib.hid hb1.size; have HS1 := Lib.hid (HS.out.below HB1.out); clear hb1; have q5 := cell_blk HBX.out 5; simp at q5)
      go_ret
      exact ⟨rfl, HS1.out.live, kept_of_below HB1.out⟩
    · have hs1 : ¬ (4096 : Int) < ((nm nd.data).size : Int) + (data.size : Int) := by omega
      cases hb : bytesFitB f ((nd.data.length : Int) + (data.data.toList.length : Int) - (nd.data.length : Int)) with
      | false =>
        rw [hb] at hbf
        have HBF := Lib.hid hbf
        rw [if_pos (.inr rfl)]
        dsimp only
        clear h1 hb hbf HTK HPU hsz hns
        go_enter Tryz.func44, Tryz.ntmps44
        go_wp2_with (first | (go_at_call 202; (with_reducible refine HN.out.mono ?_); rintro e w1 ⟨rfl, hb1⟩; have HBX := Lib.hid (heap_alloc_new w1 (.cells #[.int .i64 nd.id, .int .i64 nd.kind, .int .i64 nd.mode, .int .i64 nd.owner, .int .i64 nd.time, .string (nm nd.data), .slice none 0 0] 64)); have HB1 := Lib.hid (hb1.alloc hb1.size (.cells #[.int .i64 nd.id, .int .i64 nd.kind, .int .i64 nd.mode, .int .i64 nd.owner, .int .i64 nd.time, .string (nm nd.data), .slice none 0 0] 64)); have HSZ1 := Lib.hid hb1.size; have HS1 := Lib.hid (HS.out.below HB1.out); clear hb1; have q5 := cell_blk HBX.out 5; simp at q5) | (go_at_call 80; (with_reducible refine (HBF.out _ _ (by omega) HS1.out.live).mono ?_); rintro e w2 ⟨rfl, hb2⟩; have HBX2 := Lib.hid ((hb2.block _ (blk_lt HBX.out)).trans HBX.out); have HB2 := Lib.hid (HB1.out.trans (hb2.mono HB1.out.size)); have HS2 := Lib.hid (HS1.out.below hb2); clear hb2 q5))
        go_ret
        exact ⟨rfl, HS2.out.live, kept_of_below HB2.out⟩
      | true =>
        rw [hb] at hbf
        have HBF := Lib.hid hbf
        rw [if_neg (by rintro (h | h); exact h1 h; cases h)]
        dsimp only
        clear h1 hb hbf hsz hns
        go_enter Tryz.func44, Tryz.ntmps44
        go_wp2_with (first | (go_at_call 202; (with_reducible refine HN.out.mono ?_); rintro e w1 ⟨rfl, hb1⟩; have HBX := Lib.hid (heap_alloc_new w1 (.cells #[.int .i64 nd.id, .int .i64 nd.kind, .int .i64 nd.mode, .int .i64 nd.owner, .int .i64 nd.time, .string (nm nd.data), .slice none 0 0] 64)); have HB1 := Lib.hid (hb1.alloc hb1.size (.cells #[.int .i64 nd.id, .int .i64 nd.kind, .int .i64 nd.mode, .int .i64 nd.owner, .int .i64 nd.time, .string (nm nd.data), .slice none 0 0] 64)); have HSZ1 := Lib.hid hb1.size; have HS1 := Lib.hid (HS.out.below HB1.out); clear hb1; have q5 := cell_blk HBX.out 5; simp at q5) | (go_at_call 80; (with_reducible refine (HBF.out _ _ (by omega) HS1.out.live).mono ?_); rintro e w2 ⟨rfl, hb2⟩; have HBX2 := Lib.hid ((hb2.block _ (blk_lt HBX.out)).trans HBX.out); have HB2 := Lib.hid (HB1.out.trans (hb2.mono HB1.out.size)); have HS2 := Lib.hid (HS1.out.below hb2); clear hb2 q5) | (go_at_call 54; (with_reducible refine (HTK.out _ HS2.out.live).mono ?_); rintro e w3 ⟨rfl, hl3, hk3⟩; have HBX3 := Lib.hid (hk3.at HBX2.out (HS2.out.live.not3 (OfType.of HBX2.out) (by decide) (by decide))); have HL3 := Lib.hid hl3; have HK3 := Lib.hid ((kept_of_below HB2.out).trans hk3); have c1 := cell_blk hl3.files 1; simp at c1; rw [HCK.out] at c1; clear hl3 hk3; have n4 := cell_blk HBX3.out 4; have n5 := cell_blk HBX3.out 5; simp at n4 n5; have f4 := froz_blk HBX3.out 4; have f5 := froz_blk HBX3.out 5; have hne := OfType.ne (OfType.of HBX3.out) (OfType.of HL3.out.files) (by decide)))
        have HX5 := Lib.hid (set_blk (j := 4) (set_blk (j := 5) HBX3.out (.string (nm (nd.data ++ data.data.toList)))) (.int .i64 ck))
        have HN5 : Hid (Kept (fun k => k = w1.heap.size) w3 ((w3.setCell ⟨w1.heap.size, 5, none⟩ (.string (nm (nd.data ++ data.data.toList)))).setCell ⟨w1.heap.size, 4, none⟩ (.int .i64 ck))) := Lib.hid ((own_set _ _ _ _).trans (own_set _ _ _ _))
        have HL5 := Lib.hid (HL3.out.boxed HBX3.out HN5.out)
        have HK5 := Lib.hid (HK3.out.after (HN5.out.below (by have := HB1.out.size; have := HK3.out.size; omega) (fun j hj => by rw [hj]; exact HSZ1.out) : Below w.heap.size w3 _))
        clear n4 n5 f4 f5 c1 hne
        generalize ((w3.setCell ⟨w1.heap.size, 5, none⟩ (.string (nm (nd.data ++ data.data.toList)))).setCell ⟨w1.heap.size, 4, none⟩ (.int .i64 ck)) = W5 at *
        have hset : W5.heap[w1.heap.size]? = some (.cells #[.int .i64 nd.id, .int .i64 nd.kind, .int .i64 nd.mode, .int .i64 nd.owner, .int .i64 ck, .string (nm (nd.data ++ data.data.toList)), .slice none 0 0] 64 (0, 0)) := by simpa using HX5.out
        have c0 := cell_blk HL5.out.files 0
        simp at c0
        have l0 := blk_lt HL5.out.files
        have l1 := blk_lt hset
        have n0 := cell_blk hset 0
        have n1 := cell_blk hset 1
        have n2 := cell_blk hset 2
        have n3 := cell_blk hset 3
        have n4 := cell_blk hset 4
        have n5 := cell_blk hset 5
        have n6 := cell_blk hset 6
        simp at n0 n1 n2 n3 n4 n5 n6
        clear hset
        refine wp_region_still_tail 5 (by kernel_rfl) (by kernel_rfl) ?_
        simp only [List.take_succ_cons, List.take_zero, List.drop_succ_cons, List.drop_zero]
        repeat still_step
        refine wpStill_nil ?_
        change wpList _ _ _ _ _ W5.drew
        have HD5 := Lib.hid (Below.refl W5.heap.size W5).drew
        go_wp2_with (go_at_call 203; (with_reducible refine (HPU.out _ _ HL5.out.drew).mono ?_); rintro e w6 ⟨rfl, hd6, hk6⟩; have HL6 := Lib.hid (HL5.out.drew.stored hd6 hk6); have HK6 := Lib.hid (HK5.out.trans ((kept_of_below HD5.out).trans (hk6.mono own23) : Kept (Own3 fb db mb) W5 w6)); clear hd6 hk6)
        go_ret
        exact ⟨rfl, by have := HL6.out; rw [← HCK.out]; rw [← HCK.out] at this; exact this, HK6.out⟩
  · rw [if_neg hh]
    simp only [List.nil_append]
    have hz0 : ([] : Bs).length = 0 := rfl
    have hw2 : (how == 2) = false := beq_eq_false_iff_ne.2 hh
    have hcat := cat_nm { data := #[] } data data.data.toList (by simp) (by omega)
    have hbf : ∀ m W, m = (data.size : Int) - ((nm nd.data).size : Int) → Live W fb db mb f → Calls Tryz.prog 80 #[.pointer (some ⟨fb, 0, none⟩), .int .i64 m] W fun e w' => e = .returned (.bool (bytesFitB f ((([] : Bs).length : Int) + (data.data.toList.length : Int) - (nd.data.length : Int)))) ∧ Below W.heap.size W w' := fun m W hm hW => by
      have := hbf0 m W hW
      rw [show m = ((([] : Bs).length : Int) + (data.data.toList.length : Int) - (nd.data.length : Int)) from by simp only [List.length_nil]; omega] at this ⊢
      exact this
    clear hbf0 hh
    have hns2 : (nm nd.data).size ≤ 4096 := by omega
    by_cases h1 : 4096 < ([] : Bs).length + data.data.toList.length
    · rw [if_pos (.inl h1)]
      dsimp only
      have hs1 : (4096 : Int) < (data.size : Int) := by omega
      clear h1 hbf HTK HPU hsz hns
      go_enter Tryz.func44, Tryz.ntmps44
      go_wp2_with (go_at_call 202; (with_reducible refine HN.out.mono ?_); rintro e w1 ⟨rfl, hb1⟩; have HBX := Lib.hid (heap_alloc_new w1 (.cells #[.int .i64 nd.id, .int .i64 nd.kind, .int .i64 nd.mode, .int .i64 nd.owner, .int .i64 nd.time, .string (nm nd.data), .slice none 0 0] 64)); have HB1 := Lib.hid (hb1.alloc hb1.size (.cells #[.int .i64 nd.id, .int .i64 nd.kind, .int .i64 nd.mode, .int .i64 nd.owner, .int .i64 nd.time, .string (nm nd.data), .slice none 0 0] 64)); have HSZ1 := Lib.hid hb1.size; have HS1 := Lib.hid (HS.out.below HB1.out); clear hb1; have q5 := cell_blk HBX.out 5; simp at q5)
      go_ret
      exact ⟨rfl, HS1.out.live, kept_of_below HB1.out⟩
    · have hs1 : ¬ (4096 : Int) < (data.size : Int) := by omega
      cases hb : bytesFitB f ((([] : Bs).length : Int) + (data.data.toList.length : Int) - (nd.data.length : Int)) with
      | false =>
        rw [hb] at hbf
        have HBF := Lib.hid hbf
        rw [if_pos (.inr rfl)]
        dsimp only
        clear h1 hb hbf HTK HPU hsz hns
        go_enter Tryz.func44, Tryz.ntmps44
        go_wp2_with (first | (go_at_call 202; (with_reducible refine HN.out.mono ?_); rintro e w1 ⟨rfl, hb1⟩; have HBX := Lib.hid (heap_alloc_new w1 (.cells #[.int .i64 nd.id, .int .i64 nd.kind, .int .i64 nd.mode, .int .i64 nd.owner, .int .i64 nd.time, .string (nm nd.data), .slice none 0 0] 64)); have HB1 := Lib.hid (hb1.alloc hb1.size (.cells #[.int .i64 nd.id, .int .i64 nd.kind, .int .i64 nd.mode, .int .i64 nd.owner, .int .i64 nd.time, .string (nm nd.data), .slice none 0 0] 64)); have HSZ1 := Lib.hid hb1.size; have HS1 := Lib.hid (HS.out.below HB1.out); clear hb1; have q5 := cell_blk HBX.out 5; simp at q5) | (go_at_call 80; (with_reducible refine (HBF.out _ _ (by omega) HS1.out.live).mono ?_); rintro e w2 ⟨rfl, hb2⟩; have HBX2 := Lib.hid ((hb2.block _ (blk_lt HBX.out)).trans HBX.out); have HB2 := Lib.hid (HB1.out.trans (hb2.mono HB1.out.size)); have HS2 := Lib.hid (HS1.out.below hb2); clear hb2 q5))
        go_ret
        exact ⟨rfl, HS2.out.live, kept_of_below HB2.out⟩
      | true =>
        rw [hb] at hbf
        have HBF := Lib.hid hbf
        rw [if_neg (by rintro (h | h); exact h1 h; cases h)]
        dsimp only
        clear h1 hb hbf hsz hns
        go_enter Tryz.func44, Tryz.ntmps44
        go_wp2_with (first | (go_at_call 202; (with_reducible refine HN.out.mono ?_); rintro e w1 ⟨rfl, hb1⟩; have HBX := Lib.hid (heap_alloc_new w1 (.cells #[.int .i64 nd.id, .int .i64 nd.kind, .int .i64 nd.mode, .int .i64 nd.owner, .int .i64 nd.time, .string (nm nd.data), .slice none 0 0] 64)); have HB1 := Lib.hid (hb1.alloc hb1.size (.cells #[.int .i64 nd.id, .int .i64 nd.kind, .int .i64 nd.mode, .int .i64 nd.owner, .int .i64 nd.time, .string (nm nd.data), .slice none 0 0] 64)); have HSZ1 := Lib.hid hb1.size; have HS1 := Lib.hid (HS.out.below HB1.out); clear hb1; have q5 := cell_blk HBX.out 5; simp at q5) | (go_at_call 80; (with_reducible refine (HBF.out _ _ (by omega) HS1.out.live).mono ?_); rintro e w2 ⟨rfl, hb2⟩; have HBX2 := Lib.hid ((hb2.block _ (blk_lt HBX.out)).trans HBX.out); have HB2 := Lib.hid (HB1.out.trans (hb2.mono HB1.out.size)); have HS2 := Lib.hid (HS1.out.below hb2); clear hb2 q5) | (go_at_call 54; (with_reducible refine (HTK.out _ HS2.out.live).mono ?_); rintro e w3 ⟨rfl, hl3, hk3⟩; have HBX3 := Lib.hid (hk3.at HBX2.out (HS2.out.live.not3 (OfType.of HBX2.out) (by decide) (by decide))); have HL3 := Lib.hid hl3; have HK3 := Lib.hid ((kept_of_below HB2.out).trans hk3); have c1 := cell_blk hl3.files 1; simp at c1; rw [HCK.out] at c1; clear hl3 hk3; have n4 := cell_blk HBX3.out 4; have n5 := cell_blk HBX3.out 5; simp at n4 n5; have f4 := froz_blk HBX3.out 4; have f5 := froz_blk HBX3.out 5; have hne := OfType.ne (OfType.of HBX3.out) (OfType.of HL3.out.files) (by decide)))
        have HX5 := Lib.hid (set_blk (j := 4) (set_blk (j := 5) HBX3.out (.string (nm (data.data.toList)))) (.int .i64 ck))
        have HN5 : Hid (Kept (fun k => k = w1.heap.size) w3 ((w3.setCell ⟨w1.heap.size, 5, none⟩ (.string (nm (data.data.toList)))).setCell ⟨w1.heap.size, 4, none⟩ (.int .i64 ck))) := Lib.hid ((own_set _ _ _ _).trans (own_set _ _ _ _))
        have HL5 := Lib.hid (HL3.out.boxed HBX3.out HN5.out)
        have HK5 := Lib.hid (HK3.out.after (HN5.out.below (by have := HB1.out.size; have := HK3.out.size; omega) (fun j hj => by rw [hj]; exact HSZ1.out) : Below w.heap.size w3 _))
        clear n4 n5 f4 f5 c1 hne
        generalize ((w3.setCell ⟨w1.heap.size, 5, none⟩ (.string (nm (data.data.toList)))).setCell ⟨w1.heap.size, 4, none⟩ (.int .i64 ck)) = W5 at *
        have hset : W5.heap[w1.heap.size]? = some (.cells #[.int .i64 nd.id, .int .i64 nd.kind, .int .i64 nd.mode, .int .i64 nd.owner, .int .i64 ck, .string (nm (data.data.toList)), .slice none 0 0] 64 (0, 0)) := by simpa using HX5.out
        have c0 := cell_blk HL5.out.files 0
        simp at c0
        have l0 := blk_lt HL5.out.files
        have l1 := blk_lt hset
        have n0 := cell_blk hset 0
        have n1 := cell_blk hset 1
        have n2 := cell_blk hset 2
        have n3 := cell_blk hset 3
        have n4 := cell_blk hset 4
        have n5 := cell_blk hset 5
        have n6 := cell_blk hset 6
        simp at n0 n1 n2 n3 n4 n5 n6
        clear hset
        refine wp_region_still_tail 5 (by kernel_rfl) (by kernel_rfl) ?_
        simp only [List.take_succ_cons, List.take_zero, List.drop_succ_cons, List.drop_zero]
        repeat still_step
        refine wpStill_nil ?_
        change wpList _ _ _ _ _ W5.drew
        have HD5 := Lib.hid (Below.refl W5.heap.size W5).drew
        go_wp2_with (go_at_call 203; (with_reducible refine (HPU.out _ _ HL5.out.drew).mono ?_); rintro e w6 ⟨rfl, hd6, hk6⟩; have HL6 := Lib.hid (HL5.out.drew.stored hd6 hk6); have HK6 := Lib.hid (HK5.out.trans ((kept_of_below HD5.out).trans (hk6.mono own23) : Kept (Own3 fb db mb) W5 w6)); clear hd6 hk6)
        go_ret
        exact ⟨rfl, by have := HL6.out; rw [← HCK.out]; rw [← HCK.out] at this; exact this, HK6.out⟩
end Go.Proofs.YtpicgkoclbpjpaaGreatDoor
end

section
namespace Go.Proofs.YtpicgkoclbpjpaaGreatDoor
open Go.RowKit Go.Sort Go.Lib Go.Shelf
open PathM TreeM VtM
set_option linter.unusedVariables false
attribute [local go_sem] cell_rg
attribute [local go_sem] cell_off
attribute [local go_sem] cell_far
set_option maxRecDepth 100000 in
set_option maxHeartbeats 4000000 in
theorem write_any {k : Nat} {f : Fs} (fb db mb : Nat) (p data : ByteArray) (how : Int) (w : World) (h : Sys w fb db mb k f) (hp : p.size ≤ maxLen) (hd : data.size ≤ 1000000) (hkk : k < 800000) :
    Calls Tryz.prog 13 #[.pointer (some ⟨fb, 0, none⟩), .string p, .string data, .int .i64 how] w (WroteP fb db mb w (writeF f p.data.toList data.data.toList how)) := by
  by_cases hnew : ∃ a, findS f.t p.data.toList (decide (how ≠ 3)) = .ok a ∧ a.node = 0 ∧ a.slash = false ∧ data.data.toList.length ≤ 4096 ∧ 1 ≤ how ∧ how ≤ 3
  · obtain ⟨a, h1, h2, h3, h4, h5, h6⟩ := hnew
    exact write_new fb db mb p data how w h hp hkk h5 h6 h1 h2 h3 h4
  have HN := Lib.hid (fnone_any fb db mb f _ h.live)
  have HS := Lib.hid h
  have hsz := sizeD data
  unfold WroteP writeF
  by_cases hh : how < 1 ∨ 3 < how
  · rw [if_pos hh]
    dsimp only
    clear hnew hd hsz hp hkk h
    rcases hh with hh | hh
    · go_enter Tryz.func13, Tryz.ntmps13
      go_wp2_with (go_at_call 42; (with_reducible refine HN.out.mono ?_); rintro e w1 ⟨rfl, rfl⟩)
      go_ret
      exact ⟨rfl, HS.out.live, Kept.refl _ _⟩
    · have h1 : ¬ how < 1 := by omega
      go_enter Tryz.func13, Tryz.ntmps13
      go_wp2_with (go_at_call 42; (with_reducible refine HN.out.mono ?_); rintro e w1 ⟨rfl, rfl⟩)
      go_ret
      exact ⟨rfl, HS.out.live, Kept.refl _ _⟩
  · rw [if_neg hh]
    have hn1 : ¬ how < 1 := by omega
    have hn3 : ¬ (3 : Int) < how := by omega
    have hi := gone_any fb db mb p (decide (how ≠ 3)) w h hp
    have hq : (how != 3) = decide (how ≠ 3) := by
      rw [Bool.eq_iff_iff]; simp
    cases hf : findS f.t p.data.toList (decide (how ≠ 3)) with
    | error x =>
      rw [hf] at hi
      unfold GonP at hi
      dsimp only at hi ⊢
      rw [← hq] at hi
      have HI := Lib.hid hi
      clear hi hq hf hh hnew h hp hkk hd hsz
      go_enter Tryz.func13, Tryz.ntmps13
      go_wp2_with (first | (go_at_call 42; (with_reducible refine HN.out.mono ?_); rintro e w1 ⟨rfl, rfl⟩) | (go_at_call 43; (with_reducible refine HI.out.mono ?_); rintro e w2 ⟨⟨A, n, c, nb, id, sl, rfl⟩, hx0, hb2⟩; have HX0 := Lib.hid hx0; have x1 : (x == 0) = false := beq_eq_false_iff_ne.2 hx0; have x2 : (x != 0) = true := bne_iff_ne.2 hx0; have HBA := Lib.hid (hb2.alloc hb2.size (.cells #[.slice A n c, .string nb, .int .i64 id, .bool sl] 92)); clear hx0 hb2))
      go_ret
      exact ⟨rfl, HS.out.live.below HBA.out, kept_of_below HBA.out⟩
    | ok a =>
      rw [hf] at hi
      unfold GonP at hi
      dsimp only at hi ⊢
      rw [← hq] at hi
      have HI := Lib.hid hi
      have ha := find_ok h.ok hf
      have his := fun W A c (hS : Sys W fb db mb k f) (hI : IntsIn W W.heap.size (.slice A a.dirs.length c) a.dirs) => isD_any fb db mb a ha W A c hS hI
      unfold BoolPost at his
      by_cases h0 : a.node = 0
      · have t1 : (a.node == 0) = true := by simp [h0]
        have t2 : (a.node != 0) = false := by simp [h0]
        rw [if_neg (fun hh => hh.1 h0)]
        cases hs : a.slash with
        | true =>
          rw [if_pos (.inl ⟨h0, rfl⟩)]
          dsimp only
          have HSL := Lib.hid hs
          clear his hi hq hf hh hnew h hp hkk hd hsz ha h0 hs
          go_enter Tryz.func13, Tryz.ntmps13
          go_wp2_with (first | (go_at_call 42; (with_reducible refine HN.out.mono ?_); rintro e w1 ⟨rfl, rfl⟩) | (go_at_call 43; (with_reducible refine HI.out.mono ?_); rintro e w2 ⟨v, rfl, hi2, hb2⟩; unfold plV; rw [HSL.out]; obtain ⟨A, c, rfl⟩ := hi2.len; have HBA := Lib.hid (hb2.alloc hb2.size (.cells #[.slice A a.dirs.length c, .string (nm a.name), .int .i64 a.node, .bool true] 92)); have HSA := Lib.hid (HS.out.below HBA.out); have HIA := Lib.hid ((hi2.below ((Below.refl _ _).alloc (Nat.le_refl _) (.cells #[.slice A a.dirs.length c, .string (nm a.name), .int .i64 a.node, .bool true] 92))).more (show w2.heap.size ≤ (w2.alloc (.cells #[.slice A a.dirs.length c, .string (nm a.name), .int .i64 a.node, .bool true] 92)).heap.size by simp)); have HBX := Lib.hid (heap_alloc_new w2 (.cells #[.slice A a.dirs.length c, .string (nm a.name), .int .i64 a.node, .bool true] 92)); clear hi2 hb2))
          go_ret
          exact ⟨rfl, HS.out.live.below HBA.out, kept_of_below HBA.out⟩
        | false =>
          have hl : 4096 < data.data.toList.length := by
            refine Classical.byContradiction fun hc => hnew ⟨a, hf, h0, hs, by omega, by omega, by omega⟩
          have hl2 : (4096 : Int) < (data.size : Int) := by omega
          rw [if_neg (by rintro (⟨_, e⟩ | ⟨e, _⟩); cases e; exact e h0), if_neg (fun hh => hh h0), if_pos hl]
          dsimp only
          rw [show decide (a.node ≠ 0 ∧ kindF f a.node = 1) = false from decide_eq_false (fun h => h.1 h0)] at his
          rw [hs] at his
          have HISD := Lib.hid his
          have HSL := Lib.hid hs
          clear his hi hq hf hh hnew h hp hkk hd hsz ha h0 hs hl
          go_enter Tryz.func13, Tryz.ntmps13
          go_wp2_with (first | (go_at_call 42; (with_reducible refine HN.out.mono ?_); rintro e w1 ⟨rfl, rfl⟩) | (go_at_call 43; (with_reducible refine HI.out.mono ?_); rintro e w2 ⟨v, rfl, hi2, hb2⟩; unfold plV; rw [HSL.out]; obtain ⟨A, c, rfl⟩ := hi2.len; have HBA := Lib.hid (hb2.alloc hb2.size (.cells #[.slice A a.dirs.length c, .string (nm a.name), .int .i64 a.node, .bool false] 92)); have HSA := Lib.hid (HS.out.below HBA.out); have HIA := Lib.hid ((hi2.below ((Below.refl _ _).alloc (Nat.le_refl _) (.cells #[.slice A a.dirs.length c, .string (nm a.name), .int .i64 a.node, .bool false] 92))).more (show w2.heap.size ≤ (w2.alloc (.cells #[.slice A a.dirs.length c, .string (nm a.name), .int .i64 a.node, .bool false] 92)).heap.size by simp)); have HBX := Lib.hid (heap_alloc_new w2 (.cells #[.slice A a.dirs.length c, .string (nm a.name), .int .i64 a.node, .bool false] 92)); clear hi2 hb2) | (go_at_call 41; (with_reducible refine (HISD.out _ _ _ HSA.out HIA.out).mono ?_); rintro e w3 ⟨rfl, hb3⟩; have rb3 := (hb3.block _ (blk_lt HBX.out)).trans HBX.out; have HRB3 := Lib.hid rb3; have HB3 := Lib.hid (HBA.out.trans (hb3.mono HBA.out.size)); have HS3 := Lib.hid (HSA.out.below hb3); clear hb3 rb3; have q2 := cell_blk HRB3.out 2; simp at q2))
          go_ret
          exact ⟨rfl, HS.out.live.below HB3.out, kept_of_below HB3.out⟩
      · have t1 : (a.node == 0) = false := by simp [h0]
        have t2 : (a.node != 0) = true := by simp [h0]
        by_cases h3 : how = 3
        · subst h3
          rw [if_pos ⟨h0, rfl⟩]
          dsimp only
          rw [show ((3 : Int) != 3) = false from rfl] at hi
          clear HI
          have HI := Lib.hid hi
          clear his hi hq hf hh hnew h hp hkk hd hsz ha h0 hn1 hn3
          go_enter Tryz.func13, Tryz.ntmps13
          go_wp2_with (first | (go_at_call 42; (with_reducible refine HN.out.mono ?_); rintro e w1 ⟨rfl, rfl⟩) | (go_at_call 43; (with_reducible refine HI.out.mono ?_); rintro e w2 ⟨v, rfl, hi2, hb2⟩; unfold plV; obtain ⟨A, c, rfl⟩ := hi2.len; have HBA := Lib.hid (hb2.alloc hb2.size (.cells #[.slice A a.dirs.length c, .string (nm a.name), .int .i64 a.node, .bool a.slash] 92)); have HSA := Lib.hid (HS.out.below HBA.out); have HIA := Lib.hid ((hi2.below ((Below.refl _ _).alloc (Nat.le_refl _) (.cells #[.slice A a.dirs.length c, .string (nm a.name), .int .i64 a.node, .bool a.slash] 92))).more (show w2.heap.size ≤ (w2.alloc (.cells #[.slice A a.dirs.length c, .string (nm a.name), .int .i64 a.node, .bool a.slash] 92)).heap.size by simp)); have HBX := Lib.hid (heap_alloc_new w2 (.cells #[.slice A a.dirs.length c, .string (nm a.name), .int .i64 a.node, .bool a.slash] 92)); clear hi2 hb2))
          go_ret
          exact ⟨rfl, HS.out.live.below HBA.out, kept_of_below HBA.out⟩
        · have t3 : (how == 3) = false := beq_eq_false_iff_ne.2 h3
          rw [if_neg (fun hh => h3 hh.2)]
          by_cases hk : kindF f a.node = 1
          · rw [if_pos (.inr ⟨h0, hk⟩)]
            dsimp only
            rw [show decide (a.node ≠ 0 ∧ kindF f a.node = 1) = true from decide_eq_true ⟨h0, hk⟩] at his
            have HISD := Lib.hid his
            clear his hi hq hf hh hnew h hp hkk hd hsz ha h0 hk h3
            go_enter Tryz.func13, Tryz.ntmps13
            go_wp2_with (first | (go_at_call 42; (with_reducible refine HN.out.mono ?_); rintro e w1 ⟨rfl, rfl⟩) | (go_at_call 43; (with_reducible refine HI.out.mono ?_); rintro e w2 ⟨v, rfl, hi2, hb2⟩; unfold plV; obtain ⟨A, c, rfl⟩ := hi2.len; have HBA := Lib.hid (hb2.alloc hb2.size (.cells #[.slice A a.dirs.length c, .string (nm a.name), .int .i64 a.node, .bool a.slash] 92)); have HSA := Lib.hid (HS.out.below HBA.out); have HIA := Lib.hid ((hi2.below ((Below.refl _ _).alloc (Nat.le_refl _) (.cells #[.slice A a.dirs.length c, .string (nm a.name), .int .i64 a.node, .bool a.slash] 92))).more (show w2.heap.size ≤ (w2.alloc (.cells #[.slice A a.dirs.length c, .string (nm a.name), .int .i64 a.node, .bool a.slash] 92)).heap.size by simp)); have HBX := Lib.hid (heap_alloc_new w2 (.cells #[.slice A a.dirs.length c, .string (nm a.name), .int .i64 a.node, .bool a.slash] 92)); clear hi2 hb2) | (go_at_call 41; (with_reducible refine (HISD.out _ _ _ HSA.out HIA.out).mono ?_); rintro e w3 ⟨rfl, hb3⟩; have rb3 := (hb3.block _ (blk_lt HBX.out)).trans HBX.out; have HRB3 := Lib.hid rb3; have HB3 := Lib.hid (HBA.out.trans (hb3.mono HBA.out.size)); have HS3 := Lib.hid (HSA.out.below hb3); clear hb3 rb3; have q2 := cell_blk HRB3.out 2; simp at q2))
            go_ret
            exact ⟨rfl, HS.out.live.below HB3.out, kept_of_below HB3.out⟩
          · rw [if_neg (by rintro (⟨e, _⟩ | ⟨_, e⟩); exact h0 e; exact hk e), if_pos h0]
            rw [show decide (a.node ≠ 0 ∧ kindF f a.node = 1) = false from decide_eq_false (fun h => hk h.2)] at his
            have HISD := Lib.hid his
            have hkn : (nod f.t.nodes a.node).kind ≠ 0 := by
              rcases ha.node with g | g
              · exact absurd g h0
              · exact g
            have hrw := fun W (hW : Sys W fb db mb k f) => rewrite_any fb db mb a.node data how W hW hkn hd hkk
            unfold WroteP at hrw
            have HRW := Lib.hid hrw
            clear his hi hq hf hh hnew h hp hkk hd hsz ha h0 hk h3 hkn hrw
            go_enter Tryz.func13, Tryz.ntmps13
            go_wp2_with (first | (go_at_call 42; (with_reducible refine HN.out.mono ?_); rintro e w1 ⟨rfl, rfl⟩) | (go_at_call 43; (with_reducible refine HI.out.mono ?_); rintro e w2 ⟨v, rfl, hi2, hb2⟩; unfold plV; obtain ⟨A, c, rfl⟩ := hi2.len; have HBA := Lib.hid (hb2.alloc hb2.size (.cells #[.slice A a.dirs.length c, .string (nm a.name), .int .i64 a.node, .bool a.slash] 92)); have HSA := Lib.hid (HS.out.below HBA.out); have HIA := Lib.hid ((hi2.below ((Below.refl _ _).alloc (Nat.le_refl _) (.cells #[.slice A a.dirs.length c, .string (nm a.name), .int .i64 a.node, .bool a.slash] 92))).more (show w2.heap.size ≤ (w2.alloc (.cells #[.slice A a.dirs.length c, .string (nm a.name), .int .i64 a.node, .bool a.slash] 92)).heap.size by simp)); have HBX := Lib.hid (heap_alloc_new w2 (.cells #[.slice A a.dirs.length c, .string (nm a.name), .int .i64 a.node, .bool a.slash] 92)); clear hi2 hb2) | (go_at_call 41; (with_reducible refine (HISD.out _ _ _ HSA.out HIA.out).mono ?_); rintro e w3 ⟨rfl, hb3⟩; have rb3 := (hb3.block _ (blk_lt HBX.out)).trans HBX.out; have HRB3 := Lib.hid rb3; have HB3 := Lib.hid (HBA.out.trans (hb3.mono HBA.out.size)); have HS3 := Lib.hid (HSA.out.below hb3); clear hb3 rb3; have q2 := cell_blk HRB3.out 2; simp at q2) | (go_at_call 44; (with_reducible refine (HRW.out _ HS3.out).mono ?_); rintro e w4 ⟨rfl, hl4, hk4⟩; have HL4 := Lib.hid hl4; have HK4 := Lib.hid ((kept_of_below HB3.out).trans hk4); clear hl4 hk4))
            go_ret
            exact ⟨rfl, HL4.out, HK4.out⟩
end Go.Proofs.YtpicgkoclbpjpaaGreatDoor
end

section
namespace Go.Proofs.YtpicgkoclbpjpaaGreatDoor
open Go.RowKit Go.Sort Go.Lib Go.Shelf
open PathM TreeM VtM
set_option linter.unusedVariables false
attribute [local go_sem] cell_rg
attribute [local go_sem] cell_off
attribute [local go_sem] cell_far
set_option maxRecDepth 100000 in
set_option maxHeartbeats 4000000 in
theorem chmod_any {k : Nat} {f : Fs} (fb db mb : Nat) (p : ByteArray) (mode : Int) (w : World) (h : Sys w fb db mb k f) (hp : p.size ≤ maxLen) (hkk : k < 800000) :
    Calls Tryz.prog 73 #[.pointer (some ⟨fb, 0, none⟩), .string p, .int .i64 mode] w (WroteP fb db mb w (chmodF f p.data.toList mode)) := by
  have HI := Lib.hid (there_any fb db mb p true w h hp)
  have HN := Lib.hid (fnone_any fb db mb f _ h.live)
  have HS := Lib.hid h
  unfold WroteP chmodF
  have hmm := modeMay_any mode w
  by_cases hmd : mode < 0 ∨ 511 < mode
  · rw [if_pos hmd]
    dsimp only
    rw [decide_eq_false (by omega)] at hmm
    have HMM := Lib.hid hmm
    clear HI h hp hkk hmd hmm
    go_enter Tryz.func73, Tryz.ntmps73
    go_wp2_with (first | (go_at_call 42; (with_reducible refine HN.out.mono ?_); rintro e w1 ⟨rfl, rfl⟩) | (go_at_call 51; (with_reducible refine HMM.out.mono ?_); rintro e w1 ⟨rfl, rfl⟩))
    go_ret
    exact ⟨rfl, HS.out.live, Kept.refl _ _⟩
  · rw [if_neg hmd]
    rw [decide_eq_true (by omega)] at hmm
    have HMM := Lib.hid hmm
    clear hmd hmm
    cases hr : thereF f p.data.toList true with
    | error x =>
      rw [hr] at HI
      unfold GonePost at HI
      dsimp only at HI ⊢
      clear hr h hp hkk
      go_enter Tryz.func73, Tryz.ntmps73
      go_wp2_with (first | (go_at_call 42; (with_reducible refine HN.out.mono ?_); rintro e w1 ⟨rfl, rfl⟩) | (go_at_call 51; (with_reducible refine HMM.out.mono ?_); rintro e w1 ⟨rfl, rfl⟩) | (go_at_call 40; (with_reducible refine HI.out.mono ?_); rintro e w2 ⟨rfl, hx0, hb2⟩; have x1 : (x == 0) = false := beq_eq_false_iff_ne.2 hx0; have x2 : (x != 0) = true := bne_iff_ne.2 hx0; have HBA := Lib.hid (hb2.alloc hb2.size (.cells #[.slice none 0 0, .string { data := #[] }, .int .i64 0, .bool false] 92)); clear hx0 hb2))
      go_ret
      exact ⟨rfl, HS.out.live.below HBA.out, kept_of_below HBA.out⟩
    | ok a =>
      obtain ⟨ha, hn4, hn2⟩ := there_ok h.ok hr
      rw [hr] at HI
      unfold GonePost at HI
      dsimp only at HI ⊢
      have HT := Lib.hid (fun W (hW : Sys W fb db mb k f) => tick_any fb db mb f W hW.live)
      have hok1 : FsOk k (tickF f) := h.ok.tick
      have h64 := ha.node64 h.ok
      have hln := h.ok.len
      have hid := nod_id hn4
      have hm := method_Node
      have hm2 := method_Put
      have HNK : Hid (∀ wO, Live wO fb db mb (tickF f) → ∀ W, Below wO.heap.size wO W → Calls Tryz.prog 202 #[.pointer (some ⟨db, 0, none⟩), .int .i64 a.node] W fun e w' => e = .returned (ndV (.slice none 0 0) (nod f.t.nodes a.node)) ∧ Below W.heap.size W w') := Lib.hid (fun wO hO W hW => by
        obtain ⟨ev, hd⟩ := hO.disk
        exact dnode_any db mb f.t ev a.node W (hd.below hW) h64)
      have hpu : ∀ W, Live W fb db mb (tickF f) → Calls Tryz.prog 203 #[.pointer (some ⟨db, 0, none⟩), ndV (.slice none 0 0) { nod f.t.nodes a.node with mode := mode }] W fun e w' => e = .returned (.tuple #[]) ∧ (∃ ev', DiskIn w' db mb (putT f.t { nod f.t.nodes a.node with mode := mode }) ev') ∧ Kept (Own2 db mb) W w' := fun W hW => by
        obtain ⟨ev, hd⟩ := hW.disk
        exact put_any db mb f.t ev { nod f.t.nodes a.node with mode := mode } none 0 0 W hd h.ok.rise (by show i64 (nod f.t.nodes a.node).id; rw [hid]; exact h64) (by omega)
      have HPU := Lib.hid hpu
      have htt : (tickF f).t = f.t := rfl
      rw [htt]
      unfold ndV at HNK HPU
      generalize nod f.t.nodes a.node = nd at *
      clear hr h hp hkk hn2 hn4 ha hok1 h64 hln hid hpu htt
      go_enter Tryz.func73, Tryz.ntmps73
      go_wp2_with (first | (go_at_call 42; (with_reducible refine HN.out.mono ?_); rintro e w1 ⟨rfl, rfl⟩) | (go_at_call 51; (with_reducible refine HMM.out.mono ?_); rintro e w1 ⟨rfl, rfl⟩) | (go_at_call 40; (with_reducible refine HI.out.mono ?_); rintro e w2 ⟨v, rfl, hi2, hb2⟩; unfold plV; obtain ⟨A, c, rfl⟩ := hi2.len; have HBA := Lib.hid (hb2.alloc hb2.size (.cells #[.slice A a.dirs.length c, .string (nm a.name), .int .i64 a.node, .bool a.slash] 92)); have HSA := Lib.hid (HS.out.below HBA.out); have HBX := Lib.hid (heap_alloc_new w2 (.cells #[.slice A a.dirs.length c, .string (nm a.name), .int .i64 a.node, .bool a.slash] 92)); clear hi2 hb2) | (go_at_call 54; (with_reducible refine (HT.out _ HSA.out).mono ?_); rintro e wO ⟨rfl, hl3, hk3⟩; have HL3 := Lib.hid hl3; have HK3 := Lib.hid ((kept_of_below HBA.out).trans hk3); have HBX3 := Lib.hid (hk3.at HBX.out (HSA.out.live.not3 (OfType.of HBX.out) (by decide) (by decide))); clear hl3 hk3))
      generalize w2.heap.size = pb at *
      have c0 := cell_blk HL3.out.files 0
      have p2 := cell_blk HBX3.out 2
      simp at c0 p2
      have hlf := blk_lt HL3.out.files
      have hlp := blk_lt HBX3.out
      have SS : Hid (∀ W, Below wO.heap.size wO W → W.cell? ⟨fb, 0, none⟩ = some (.iface 31 (.pointer (some ⟨db, 0, none⟩))) ∧ W.cell? ⟨pb, 2, none⟩ = some (.int .i64 a.node)) := Lib.hid (fun W hW => ⟨(hW.cell (p := ⟨fb, 0, none⟩) hlf).trans c0, (hW.cell (p := ⟨pb, 2, none⟩) hlp).trans p2⟩)
      have HNC := Lib.hid (fun W (hW : Below wO.heap.size wO W) => HNK.out wO HL3.out W hW)
      go_cut [9] from 26 to 32 (fun sx wx => ∃ bx : Nat, sx = .pointer (some ⟨bx, 0, none⟩) ∧ wO.heap.size ≤ bx ∧ Below wO.heap.size wO wx ∧ wx.heap[bx]? = some (.cells #[.int .i64 nd.id, .int .i64 nd.kind, .int .i64 nd.mode, .int .i64 nd.owner, .int .i64 nd.time, .string (nm nd.data), .slice none 0 0] 64 (0, 0)))
      case first =>
        have HBD : Hid (Below wO.heap.size wO wO.drew) := Lib.hid (Below.refl _ _).drew
        have HBE : Hid (Below wO.heap.size wO (wO.alloc (.cells #[.int .i64 0, .int .i64 0, .int .i64 0, .int .i64 0, .int .i64 0, .string { data := #[] }, .slice none 0 0] 64)).drew) := Lib.hid ((Below.refl _ _).alloc (Nat.le_refl _) _).drew
        clear c0 p2
        have S0 := Lib.hid (SS.out wO.drew HBD.out)
        have SA := Lib.hid (SS.out _ HBE.out)
        have HP1 := Lib.hid (HNC.out wO.drew HBD.out)
        have HP2 := Lib.hid (HNC.out _ HBE.out)
        go_region_held3 (fun W => W.cell? ⟨fb, 0, none⟩ = some (.iface 31 (.pointer (some ⟨db, 0, none⟩))) ∧ W.cell? ⟨pb, 2, none⟩ = some (.int .i64 a.node))
          (first | (with_reducible exact S0.out) | (with_reducible exact SA.out) | (with_reducible exact S3.out) | (with_reducible exact S3A.out) | (with_reducible exact S3B.out) | (with_reducible exact S3C.out))
          (first
            | (go_at_call 202; (with_reducible refine (HP1.out).mono ?_); rintro e w3 ⟨rfl, hb3⟩; have HB3 := Lib.hid (HBD.out.trans hb3); have S3 := Lib.hid (SS.out w3 HB3.out); have S3A := Lib.hid (SS.out (w3.alloc (.cells #[.int .i64 0, .int .i64 0, .int .i64 0, .int .i64 0, .int .i64 0, .string { data := #[] }, .slice none 0 0] 64)) (HB3.out.alloc HB3.out.size _)); have S3B := Lib.hid (SS.out (w3.alloc (.cells #[.int .i64 nd.id, .int .i64 nd.kind, .int .i64 nd.mode, .int .i64 nd.owner, .int .i64 nd.time, .string (nm nd.data), .slice none 0 0] 64)) (HB3.out.alloc HB3.out.size _)); clear hb3)
            | (go_at_call 202; (with_reducible refine (HP2.out).mono ?_); rintro e w3 ⟨rfl, hb3⟩; have HB3 := Lib.hid (HBE.out.trans (hb3.mono (by simp))); have S3 := Lib.hid (SS.out w3 HB3.out); have HB3C : Hid (Below wO.heap.size wO (((((((w3.setCell ⟨wO.heap.size, 0, none⟩ (.int .i64 nd.id)).setCell ⟨wO.heap.size, 1, none⟩ (.int .i64 nd.kind)).setCell ⟨wO.heap.size, 2, none⟩ (.int .i64 nd.mode)).setCell ⟨wO.heap.size, 3, none⟩ (.int .i64 nd.owner)).setCell ⟨wO.heap.size, 4, none⟩ (.int .i64 nd.time)).setCell ⟨wO.heap.size, 5, none⟩ (.string (nm nd.data))).setCell ⟨wO.heap.size, 6, none⟩ (.slice none 0 0))) := Lib.hid (((((((HB3.out.setCell (Nat.le_refl _) _).setCell (Nat.le_refl _) _).setCell (Nat.le_refl _) _).setCell (Nat.le_refl _) _).setCell (Nat.le_refl _) _).setCell (Nat.le_refl _) _).setCell (Nat.le_refl _) _); have S3C := Lib.hid (SS.out _ HB3C.out); have hz := (hb3.block wO.heap.size (by simp)).trans (show ((wO.alloc (.cells #[.int .i64 0, .int .i64 0, .int .i64 0, .int .i64 0, .int .i64 0, .string { data := #[] }, .slice none 0 0] 64)).drew).heap[wO.heap.size]? = some _ from heap_alloc_new wO _); have HZ := Lib.hid hz; have hlz := blk_lt hz; have z0 := cell_blk hz 0; have z1 := cell_blk hz 1; have z2 := cell_blk hz 2; have z3 := cell_blk hz 3; have z4 := cell_blk hz 4; have z5 := cell_blk hz 5; have z6 := cell_blk hz 6; have f0 := froz_blk hz 0; have f1 := froz_blk hz 1; have f2 := froz_blk hz 2; have f3 := froz_blk hz 3; have f4 := froz_blk hz 4; have f5 := froz_blk hz 5; have f6 := froz_blk hz 6; simp at z0 z1 z2 z3 z4 z5 z6; clear hz hb3))
        · go_wp2_with fail
          go_meet
          exact ⟨_, rfl, HB3.out.size, HB3.out.alloc HB3.out.size _, heap_alloc_new w3 _⟩
        · go_wp2_with fail
          go_meet
          exact ⟨_, rfl, Nat.le_refl _, HB3C.out, seven_set HZ.out _ _ _ _ _ _ _⟩
      case rest =>
        obtain ⟨bx, rfl, hbx, hbw, hblk⟩ := hcut
        clear c0 p2
        have n2 := cell_blk hblk 2
        simp at n2
        have f2 := froz_blk hblk 2
        have HBLK := Lib.hid hblk
        have HBW := Lib.hid hbw
        have HBXW := Lib.hid hbx
        have hs := set_blk (j := 2) hblk (.int .i64 mode)
        have HSET := Lib.hid hs
        clear hbx hbw hblk hs
        go_wp2_with fail
        have HN5 : Hid (Kept (fun k => k = bx) wc (wc.setCell ⟨bx, 2, none⟩ (.int .i64 mode))) := Lib.hid (own_set _ _ _ _)
        have HL5 := Lib.hid ((HL3.out.below HBW.out).boxed HBLK.out HN5.out)
        have HK5 := Lib.hid (HK3.out.after ((HBW.out.trans (HN5.out.below HBW.out.size (fun j hj => by rw [hj]; exact HBXW.out))).mono (by have := HK3.out.size; omega)))
        clear n2 f2
        generalize wc.setCell ⟨bx, 2, none⟩ (.int .i64 mode) = W5 at *
        have hset : W5.heap[bx]? = some (.cells #[.int .i64 nd.id, .int .i64 nd.kind, .int .i64 mode, .int .i64 nd.owner, .int .i64 nd.time, .string (nm nd.data), .slice none 0 0] 64 (0, 0)) := by simpa using HSET.out
        have c0 := cell_blk HL5.out.files 0
        simp at c0
        have l0 := blk_lt HL5.out.files
        have l1 := blk_lt hset
        have n0 := cell_blk hset 0
        have n1 := cell_blk hset 1
        have n2 := cell_blk hset 2
        have n3 := cell_blk hset 3
        have n4 := cell_blk hset 4
        have n5 := cell_blk hset 5
        have n6 := cell_blk hset 6
        simp at n0 n1 n2 n3 n4 n5 n6
        clear hset
        refine wp_region_still_tail 5 (by kernel_rfl) (by kernel_rfl) ?_
        simp only [List.take_succ_cons, List.take_zero, List.drop_succ_cons, List.drop_zero]
        repeat still_step
        refine wpStill_nil ?_
        change wpList _ _ _ _ _ W5.drew
        have HD5 := Lib.hid (Below.refl W5.heap.size W5).drew
        go_wp2_with (go_at_call 203; (with_reducible refine (HPU.out _ HL5.out.drew).mono ?_); rintro e w6 ⟨rfl, hd6, hk6⟩; have HL6 := Lib.hid (HL5.out.drew.stored hd6 hk6); have HK6 := Lib.hid (HK5.out.trans ((kept_of_below HD5.out).trans (hk6.mono own23) : Kept (Own3 fb db mb) W5 w6)); clear hd6 hk6)
        go_ret
        exact ⟨rfl, HL6.out, HK6.out⟩
end Go.Proofs.YtpicgkoclbpjpaaGreatDoor
end
