/- DERIVED. The law's filled, links with a text: as VtFilled, one fact more. Made by program (gen/vfilled2.py). -/
import Derived.Test.YtpicgkoclbpjpaaGreatDoorVnG13
import Derived.Test.YtpicgkoclbpjpaaGreatDoorVnLaw2
import Derived.Test.YtpicgkoclbpjpaaGreatDoorVnRFMath
namespace Go.Proofs.YtpicgkoclbpjpaaGreatDoor
open Go.RowKit Go.Sort Go.Lib Go.Shelf
open PathM TreeM VtM
set_option linter.unusedVariables false
attribute [local go_sem] cell_rg
attribute [local go_sem] cell_off
attribute [local go_sem] cell_far
theorem bel6 {w W : World} {tv : Array Value} (h : CB w tv W) : Below w.heap.size w W := h.2
theorem small_last6 {t : Tr} (h : smallB t = true) : t.last ≤ 1099511627776 := by
  unfold smallB at h
  simp only [Bool.and_eq_true, decide_eq_true_eq] at h
  exact h.1
/-- What the law holds between two rounds. -/
def FillInL (w : World) (fb db mb n : Nat) (W : World) : Prop := ∃ f, Sys W fb db mb (600 + 2 * n) f ∧ One f.t ∧ Lnk f.t ∧ Below w.heap.size w W
/-- A file system is answered. -/
def FilledLPost (w : World) (e : Ending) (w' : World) : Prop := ∃ fb db mb f, e = .returned (.tuple #[.pointer (some ⟨fb, 0, none⟩), .pointer (some ⟨db, 0, none⟩), .bool true]) ∧ Sys w' fb db mb 700 f ∧ One f.t ∧ Lnk f.t ∧ (w.heap.size ≤ fb ∧ w.heap.size ≤ db ∧ w.heap.size ≤ mb) ∧ Below w.heap.size w w'
set_option maxRecDepth 100000 in
set_option maxHeartbeats 4000000 in
theorem filled_lnk (nv av : Value) (t : Tr) (l : List ActV) (w : World) (hN : NodesIn w w.heap.size nv t.nodes) (hA : ActsIn w w.heap.size av l) (hc : checkB t = true) (hl : t.last ≤ 1099511627776) (hcn : ∀ i, i < t.nodes.length → (ndAt t.nodes i).es.length ≤ 200) (hrn : i64 t.rn) (hrb : i64 t.rb) (hM : ∃ m, w.cell? ⟨0, 0, none⟩ = some (.int .i64 m)) :
    Calls Tryz.prog 11 #[trV nv t, av] w (FilledLPost w) := by
  obtain ⟨hok, hone⟩ := begin_ok hc hl hcn hrn hrb (ckI 0)
  have HBL := Lib.hid (begin_lnk hc)
  obtain ⟨A, c, rfl⟩ := nodes_len hN
  obtain ⟨A2, c2, rfl⟩ := hA.len
  have hb0 := (Below.refl w.heap.size w).alloc (Nat.le_refl _) (.cells #[.slice A t.nodes.length c, .int .i64 t.last, .int .i64 t.rn, .int .i64 t.rb] 26)
  have hop := open5_any _ t 0 (w.alloc (.cells #[.slice A t.nodes.length c, .int .i64 t.last, .int .i64 t.rn, .int .i64 t.rb] 26)) ((hN.below hb0).more hb0.size) hc (fun nd hnd => (hok.ids nd hnd).1) (fun nd hnd => by have := hok.cnt nd hnd; omega) hok.data
  have HB0 := Lib.hid hb0
  have HM := Lib.hid hM
  have HA := Lib.hid hA
  have HOK := Lib.hid hok
  have HON := Lib.hid hone
  unfold OpenPost trV at hop
  unfold trV
  have HOP := Lib.hid hop
  clear hok hone hb0 hop hN hA hc hl hcn hrn hrb hM
  go_enter Tryz.func11, Tryz.ntmps11
  go_wp2_with (go_at_call 36; (with_reducible refine HOP.out.mono ?_); rintro e w1 ⟨fb, db, mb, rfl, h1, h2, h3, hL, hb1⟩; have HG := Lib.hid (And.intro h1 (And.intro h2 h3)); have HL1 := Lib.hid hL; have HB1 := Lib.hid (HB0.out.trans (hb1.mono HB0.out.size)); clear h1 h2 h3 hL hb1)
  have HGE : Hid (∀ k, Own3 fb db mb k → w.heap.size ≤ k) := Lib.hid (own_ge5 ⟨Nat.le_trans HB0.out.size HG.out.1, Nat.le_trans HB0.out.size HG.out.2.1, Nat.le_trans HB0.out.size HG.out.2.2⟩)
  go_loopw [10] (fun i wr => ∃ n : Nat, n ≤ 40 ∧ i = .int .i64 n ∧ FillInL w fb db mb n wr) (fun i _ => 40 - (intOf i).toNat)
  case atStart =>
    refine ⟨0, by omega, rfl, ⟨t, ckI 0⟩, ⟨HL1.out, HOK.out, ?_⟩, HON.out, HBL.out, HB1.out⟩
    obtain ⟨m, hm⟩ := HM.out
    exact ⟨m, (HB1.out.cell (p := ⟨0, 0, none⟩) (cell_lt hm)).trans hm⟩
  case round =>
    obtain ⟨n, hn, rfl, f, hS, h1, hlk, hbel⟩ := hrel
    have HLK := Lib.hid hlk
    have HS := Lib.hid hS
    have H1 := Lib.hid h1
    have HB := Lib.hid hbel
    clear hS h1 hlk hbel
    by_cases hlt : n < l.length
    · by_cases h40 : n < 40
      · obtain ⟨b, off, hA2, hb, x0, x1, x2, x3⟩ := (HA.out.below HB.out).at hlt
        subst hA2
        have hbr : b < wr.heap.size := Nat.lt_of_lt_of_le hb HB.out.size
        have hnl : (n : Int) < (l.length : Int) := by omega
        have h40i : (n : Int) < 40 := by omega
        generalize actAt l n = a at *
        have hsh := fun W => short_any a W
        by_cases hs : a.path.size ≤ 1000 ∧ a.text.size ≤ 10000
        · rw [decide_eq_true hs.1, decide_eq_true hs.2, Bool.and_self] at hsh
          have HSH := Lib.hid hsh
          have hdo := fun W (hW : Sys W fb db mb (600 + 2 * n) f) => does_any fb db mb a W hW hs.1 hs.2 (by omega)
          unfold WroteP at hdo
          have HDO := Lib.hid hdo
          have HKD := Lib.hid (keep_does HS.out.ok (by omega) a.act)
          have HO1 := Lib.hid (one_does H1.out HS.out.ok (by omega) a.act)
          have HLD := Lib.hid (lnk_does HLK.out HS.out.ok (by omega) a.act)
          clear hsh hdo hs hlt h40 hb
          go_wp2_with (first | (go_at_call 39; (with_reducible refine (HSH.out _).mono ?_); rintro e w4 ⟨rfl, hb4⟩; have HS4 := Lib.hid (HS.out.below hb4); have HB4 := Lib.hid (HB.out.trans (hb4.mono HB.out.size)); have y0 := (hb4.cell (p := ⟨b, off + n * 4, none⟩) hbr).trans x0; have y1 := (hb4.cell (p := ⟨b, off + n * 4 + 1, none⟩) hbr).trans x1; have y2 := (hb4.cell (p := ⟨b, off + n * 4 + 2, none⟩) hbr).trans x2; have y3 := (hb4.cell (p := ⟨b, off + n * 4 + 3, none⟩) hbr).trans x3; clear hb4 x0 x1 x2 x3) | (go_at_call 35; (with_reducible refine (HDO.out _ HS4.out).mono ?_); rintro e w5 ⟨rfl, hl5, hk5⟩; have HS5 := Lib.hid (HS4.out.wrote hl5 hk5 HKD.out); have HB5 := Lib.hid (HB4.out.trans (hk5.below HB4.out.size HGE.out)); clear hl5 hk5 y0 y1 y2 y3))
          go_roundw
          case rel => exact ⟨n + 1, by omega, by go_num, _, HS5.out.mono (by omega), HO1.out, HLD.out, HB5.out⟩
          case measure => simp [intOf]; omega
        · have : (decide (a.path.size ≤ 1000) && decide (a.text.size ≤ 10000)) = false := by
            rw [Bool.and_eq_false_iff]
            by_cases h1 : a.path.size ≤ 1000
            · exact .inr (decide_eq_false fun h2 => hs ⟨h1, h2⟩)
            · exact .inl (decide_eq_false h1)
          rw [this] at hsh
          have HSH := Lib.hid hsh
          clear hsh this hs hlt h40 hb
          go_wp2_with (go_at_call 39; (with_reducible refine (HSH.out _).mono ?_); rintro e w4 ⟨rfl, hb4⟩; have HS4 := Lib.hid (HS.out.below hb4); have HB4 := Lib.hid (HB.out.trans (hb4.mono HB.out.size)); have y0 := (hb4.cell (p := ⟨b, off + n * 4, none⟩) hbr).trans x0; have y1 := (hb4.cell (p := ⟨b, off + n * 4 + 1, none⟩) hbr).trans x1; have y2 := (hb4.cell (p := ⟨b, off + n * 4 + 2, none⟩) hbr).trans x2; have y3 := (hb4.cell (p := ⟨b, off + n * 4 + 3, none⟩) hbr).trans x3; clear hb4 x0 x1 x2 x3)
          go_roundw
          case rel => exact ⟨n + 1, by omega, by go_num, _, HS4.out.mono (by omega), H1.out, HLK.out, HB4.out⟩
          case measure => simp [intOf]; omega
      · have hnl : (n : Int) < (l.length : Int) := by omega
        have h40i : ¬ (n : Int) < 40 := by omega
        go_wp2
        go_ret3
        exact ⟨fb, db, mb, f, rfl, HS.out.mono (by omega), H1.out, HLK.out, ⟨Nat.le_trans HB0.out.size HG.out.1, Nat.le_trans HB0.out.size HG.out.2.1, Nat.le_trans HB0.out.size HG.out.2.2⟩, HB.out⟩
    · have hnl : ¬ (n : Int) < (l.length : Int) := by omega
      go_wp2
      go_ret3
      exact ⟨fb, db, mb, f, rfl, HS.out.mono (by omega), H1.out, HLK.out, ⟨Nat.le_trans HB0.out.size HG.out.1, Nat.le_trans HB0.out.size HG.out.2.1, Nat.le_trans HB0.out.size HG.out.2.2⟩, HB.out⟩
theorem filled_small6 (nv av : Value) (t : Tr) (l : List ActV) (w : World) (hN : NodesIn w w.heap.size nv t.nodes) (hA : ActsIn w w.heap.size av l) (hs : smallB t = true) (hc : checkB t = true) (hrn : i64 t.rn) (hrb : i64 t.rb) (hM : ∃ m, w.cell? ⟨0, 0, none⟩ = some (.int .i64 m)) :
    Calls Tryz.prog 11 #[trV nv t, av] w (FilledLPost w) :=
  filled_lnk nv av t l w hN hA hc (small_last6 hs) (fun i hi => small_ents hs (check_facts hc).2.1 hi) hrn hrb hM
end Go.Proofs.YtpicgkoclbpjpaaGreatDoor
