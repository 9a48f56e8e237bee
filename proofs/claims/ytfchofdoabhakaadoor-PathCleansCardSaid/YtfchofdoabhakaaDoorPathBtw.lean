/- DERIVED. Walks over the document's own answer for layer 3: between, Base, Up. -/
import Derived.Test.YtfchofdoabhakaaDoorPathRef2
import Derived.Laws.AppendOwn
import Derived.Maps.AppendAt
namespace Go.Proofs.YtfchofdoabhakaaDoor
open Go.RowKit
open PathM
set_option linter.unusedVariables false

/-- What between answers: a row of its own, of what stands between the slashes. -/
def BtwPost (l : Bs) (w : World) (e : Ending) (w' : World) : Prop := ∃ g cap, e = .returned (.slice (some ⟨g, 0, none⟩) (btw l).length cap) ∧ w'.ownsRow w.heap.size 9 1 (.slice (some ⟨g, 0, none⟩) (btw l).length cap) (btw l).length ((btw l).map enc) ∧ Below w.heap.size w w'

/-- What its loop holds. -/
def BtwRel (l : Bs) (w : World) (v f i : Value) (wr : World) : Prop :=
  ∃ (k fr : Nat) (ps : List Bs), k ≤ l.length ∧ fr ≤ k ∧ i = .int .i64 k ∧ f = .int .i64 fr ∧ wr.ownsRow w.heap.size 9 1 v ps.length (ps.map enc) ∧ btw (l.take k) = ps ++ [(l.take k).drop fr] ∧ ps.length ≤ k ∧ Below w.heap.size w wr

theorem enc_snoc (ps : List Bs) (x : Bs) : (ps ++ [x]).map enc = ps.map enc ++ [.string (nm x)] := by simp [enc]
theorem btw_close {l x : Bs} {ps : List Bs} {E : ByteArray} {w w1 : World} {g cap : Nat} (hb : btw l = ps ++ [x]) (hx : E = nm x)
    (ho : w1.ownsRow w.heap.size 9 1 (.slice (some ⟨g, 0, none⟩) (ps.length + 1) cap) (ps.length + 1) (ps.map enc ++ [.string E])) (hB : Below w.heap.size w w1) :
    BtwPost l w (.returned (.slice (some ⟨g, 0, none⟩) (ps.length + 1) cap)) w1 := by
  have hl : (btw l).length = ps.length + 1 := by rw [hb]; simp
  refine ⟨g, cap, by rw [hl], ?_, hB⟩
  rw [hl, hb, enc_snoc, ← hx]
  exact ho
theorem ext_mid (s : ByteArray) (a b : Nat) : s.extract a b = nm ((s.data.toList.take b).drop a) := by
  rw [Lib.extract_eq]
  unfold nm
  rw [List.drop_take]

set_option maxRecDepth 100000 in
set_option maxHeartbeats 1000000 in
theorem rbetween_any (s : ByteArray) (w : World) (hs : s.size ≤ 2000000) :
    Calls Tryd.prog 30 #[.string s] w (BtwPost s.data.toList w) := by
  have hL := Lib.hid (sizeD s)
  obtain ⟨i0, hi, hz0, hz1, hz2⟩ := info_parts info9
  have HI := Lib.hid hi; have HZ0 := Lib.hid hz0; have HZ1 := Lib.hid hz1; have HZ2 := Lib.hid hz2; clear hi hz0 hz1 hz2
  have hst : BtwRel s.data.toList w (.slice none 0 0) (.int .i64 0) (.int .i64 0) w := ⟨0, 0, [], by omega, by omega, rfl, rfl, World.ownsRow_nil _ _ _ _, by simp [btw], by simp, Below.refl _ _⟩
  go_enter Tryd.func30, Tryd.ntmps30
  go_wp2
  go_loopw [3, 4, 5] (fun v f i wr => BtwRel s.data.toList w v f i wr) (fun _ _ i _ => s.size - (intOf i).toNat)
  case atStart => exact hst
  case round =>
    obtain ⟨k, fr, ps, hk, hfk, rfl, rfl, hrow, hbt, hpk, hB⟩ := hrel
    clear hst
    rw [← hL.out] at hk
    have hle := hB.size
    by_cases hlt : k < s.size
    · have hlen : k < s.data.toList.length := by rw [← hL.out]; exact hlt
      have hbyte : s.data.toList[k] = s[k] := by simp [ByteArray.getElem_eq_getElem_data]
      have htk := List.take_succ_eq_append_getElem hlen
      rw [hbyte] at htk
      by_cases hc : s[k] = 47
      · have q1 : ((s[k].toNat : Int) == 47) = true := by rw [hc]; rfl
        have hx := ext_mid s fr k
        have hb2 : btw (s.data.toList.take (k + 1)) = (ps ++ [(s.data.toList.take k).drop fr]) ++ [(s.data.toList.take (k + 1)).drop (k + 1)] := by
          rw [List.drop_take_self, htk, hc, btw_snoc_slash, hbt]
        have HX := Lib.hid hx; have HB2 := Lib.hid hb2; clear hx hb2 htk hbyte hc hbt
        go_wp2_with (at_builtin; refine wpList_append_own _ rfl _ _ 24 rfl w.heap.size 9 i0 (.string ByteArray.empty) 1 16 Tryd.underlying24 HI.out HZ0.out HZ1.out HZ2.out rfl (by decide) _ _ _ rfl (hrow.alloc _) ⟨wr.heap.size, 0, none⟩ 1 1 [.string (s.extract fr k)] rfl rfl (cell_one_new _ _ _) (by simp [Value.oneCell']) (by unfold maxLen; omega) (by omega) (by simp; omega) ?_; intro v' w1 hown' hgrow _)
        have hB1 := (hB.alloc hle _).grown hgrow (by simp; omega) (fun j e => (hrow.lt j e).1)
        go_roundw
        case rel => exact ⟨k + 1, k + 1, ps ++ [(s.data.toList.take k).drop fr], by rw [← hL.out]; omega, by omega, by go_num, by go_num, by rw [enc_snoc, List.length_append, ← HX.out]; exact hown', HB2.out, by simp; omega, hB1⟩
        case measure => simp [intOf]; omega
      · have q1 : ((s[k].toNat : Int) == 47) = false := beq_eq_false_iff_ne.2 (fun h => hc (UInt8.toNat_inj.1 (by have : (47 : UInt8).toNat = 47 := rfl; omega)))
        have hb2 : btw (s.data.toList.take (k + 1)) = ps ++ [(s.data.toList.take (k + 1)).drop fr] := by
          rw [htk, btw_snoc_other _ _ hc ps _ hbt, List.drop_append_of_le_length (by simp; omega)]
        have HB2 := Lib.hid hb2; clear hb2 htk hbyte hc hbt
        go_wp2
        go_roundw
        case rel => exact ⟨k + 1, fr, ps, by rw [← hL.out]; omega, by omega, by go_num, rfl, hrow, HB2.out, by omega, hB⟩
        case measure => simp [intOf]; omega
    · have hkk : k = s.data.toList.length := by rw [← hL.out]; omega
      have hx := ext_from s fr
      have hb2 : btw s.data.toList = ps ++ [s.data.toList.drop fr] := by
        rw [hkk, List.take_length] at hbt; exact hbt
      have HX := Lib.hid hx; have HB2 := Lib.hid hb2; have HK := Lib.hid hkk; clear hx hb2 hbt hkk
      go_wp2_with (at_builtin; refine wpList_append_own _ rfl _ _ 24 rfl w.heap.size 9 i0 (.string ByteArray.empty) 1 16 Tryd.underlying24 HI.out HZ0.out HZ1.out HZ2.out rfl (by decide) _ _ _ rfl (hrow.alloc _) ⟨wr.heap.size, 0, none⟩ 1 1 [.string (s.extract fr s.size)] rfl rfl (cell_one_new _ _ _) (by simp [Value.oneCell']) (by unfold maxLen; omega) (by omega) (by simp; omega) ?_; intro v' w1 hown' hgrow _)
      have hB1 := (hB.alloc hle _).grown hgrow (by simp; omega) (fun j e => (hrow.lt j e).1)
      obtain ⟨g', cap', rfl⟩ := ownsRow_succ hown'
      go_ret
      exact btw_close HB2.out HX.out hown' hB1

theorem seg_cell {l : Bs} {w w1 : World} {g cap m : Nat} (hm : (btw l).length = m + 1) (h : w1.ownsRow w.heap.size 9 1 (.slice (some ⟨g, 0, none⟩) (btw l).length cap) (btw l).length ((btw l).map enc)) :
    w1.cell? ⟨g, m, none⟩ = some (.string (nm (seg l))) := by
  have h1 := ownsRow_cell h m (enc (seg l)) (by
    rw [List.getElem?_map]
    unfold seg
    rw [List.getLast_eq_getElem, List.getElem?_eq_getElem (by omega)]
    simp [hm])
  rw [Nat.zero_add] at h1
  exact h1

theorem seg_len (l : Bs) : (seg l).length ≤ l.length := name_le (List.getLast_mem _)

set_option maxHeartbeats 1000000 in
theorem rbase_any (s : ByteArray) (w : World) (hs : s.size ≤ 2000000) :
    Calls Tryd.prog 22 #[.string s] w fun e w' => e = .returned (.string (nm (baseL s.data.toList))) ∧ Below w.heap.size w w' := by
  have hb := fun w => rbare_any s w (by unfold maxLen; omega)
  have hl := bare_len s.data.toList
  rw [← sizeD s] at hl
  have hbt := fun w => rbetween_any (nm (bare s.data.toList)) w (by rw [nm_size]; omega)
  rw [nm_data] at hbt
  unfold BtwPost at hbt
  unfold baseL
  generalize bare s.data.toList = B at *
  obtain ⟨m, hm⟩ : ∃ m, (btw B).length = m + 1 := ⟨(btw B).length - 1, by have := List.length_pos_iff.2 (btw_ne B); omega⟩
  have hml := btw_len B
  have hcl := fun (w1 : World) (W : World) (g cap : Nat) => @seg_cell B W w1 g cap m hm
  rw [hm] at hbt hcl hml
  have HB := Lib.hid hb; have HT := Lib.hid hbt; have HC := Lib.hid hcl; clear hb hbt hm hcl
  go_enter Tryd.func22, Tryd.ntmps22
  go_wp2_with fail
  refine (HB.out _).mono ?_
  rintro e w' ⟨rfl, rfl⟩
  go_wp2_with fail
  refine (HT.out _).mono ?_
  rintro e w1 ⟨g, cap, rfl, hrow, hb1⟩
  have hc := HC.out w1 _ g cap hrow
  have hcap : m + 1 ≤ cap := by
    rcases ownsRow_two hrow with ⟨e1, _⟩ | ⟨g', cap', e1, hkc, hcm, hg1, hg2⟩
    · cases e1
    · cases e1; exact hkc
  clear hrow
  go_wp2_with fail
  go_ret
  exact ⟨rfl, hb1⟩

theorem headL_take (l : Bs) : headL l = l.take (l.length - (seg l).length) := rfl

set_option maxHeartbeats 1000000 in
theorem rup_any (s : ByteArray) (w : World) (hs : s.size ≤ 2000000) :
    Calls Tryd.prog 24 #[.string s] w fun e w' => e = .returned (.string (nm (upL s.data.toList))) ∧ Below w.heap.size w w' := by
  have hb := fun w => rbare_any s w (by unfold maxLen; omega)
  have hl := bare_len s.data.toList
  rw [← sizeD s] at hl
  have hbb := bare_bare s.data.toList
  unfold upL
  obtain ⟨B, hB⟩ : ∃ B, nm (bare s.data.toList) = B := ⟨_, rfl⟩
  have hBd : bare s.data.toList = B.data.toList := by rw [← hB]; rfl
  rw [hBd] at hl hbb ⊢
  rw [hB] at hb
  rw [← sizeD B] at hl
  have hbase := fun w => rbase_any B w (by omega)
  rw [show baseL B.data.toList = seg B.data.toList by unfold baseL; rw [hbb]] at hbase
  have hsl := seg_len B.data.toList
  have hht := headL_take B.data.toList
  rw [← sizeD B] at hsl hht
  have hns := nm_size (seg B.data.toList)
  obtain ⟨n, hn⟩ : ∃ n, B.size - (seg B.data.toList).length = n := ⟨_, rfl⟩
  rw [hn] at hht
  have hex := ext_to B n
  rw [← hht] at hex
  have hb2 := fun w => rbare_any (B.extract 0 n) w (by rw [hex, nm_size, hht]; unfold maxLen; simp; omega)
  rw [show (B.extract 0 n).data.toList = headL B.data.toList from congrArg (fun x : ByteArray => x.data.toList) hex] at hb2
  have hnil : headL B.data.toList = [] ↔ n = 0 := by
    rw [hht]
    constructor
    · intro h
      have := congrArg List.length h
      rw [List.length_take, ← sizeD, List.length_nil] at this
      omega
    · intro h; rw [h]; rfl
  obtain ⟨S, hS⟩ : ∃ S, nm (seg B.data.toList) = S := ⟨_, rfl⟩
  rw [hS] at hbase hns
  have hsum : S.size + n = B.size := by omega
  have hsum2 : S.size ≤ B.size := by omega
  have HB := Lib.hid hb; have HS := Lib.hid hbase; have HB2 := Lib.hid hb2
  clear hb hbase hb2 hBd hB hbb hht hex hns hS hn hsl
  by_cases h0 : n = 0
  · have hr := hnil.2 h0
    rw [if_pos hr]
    have hz : (B.size : Int) - (S.size : Int) = 0 := by omega
    have HZ := Lib.hid hz
    have q1 : ((B.size : Int) - (S.size : Int) == 0) = true := by rw [hz]; rfl
    clear hr hnil hz h0 hsum
    go_enter Tryd.func24, Tryd.ntmps24
    go_wp2_with fail
    refine (HB.out _).mono ?_
    rintro e w' ⟨rfl, rfl⟩
    go_wp2_with fail
    refine (HS.out _).mono ?_
    rintro e w1 ⟨rfl, hb1⟩
    go_wp2_with fail
    go_ret
    exact ⟨rfl, hb1⟩
  · have hr : headL B.data.toList ≠ [] := fun h => h0 (hnil.1 h)
    rw [if_neg hr]
    have hz : (B.size : Int) - (S.size : Int) = (n : Int) := by omega
    have q1 : ((n : Int) == 0) = false := beq_eq_false_iff_ne.2 (by omega)
    have c1 : (n : Int) ≤ (B.size : Int) := by omega
    have hrun : ∀ W : World, W = W := fun _ => rfl
    generalize headL B.data.toList = Hd at *
    clear hr hnil h0
    by_cases hD : bare Hd = []
    · have e1 := emp_yes (b := nm (bare Hd)) (by rw [nm_data]; exact hD)
      rw [if_pos hD]
      generalize nm (bare Hd) = D at *
      clear hD
      go_enter Tryd.func24, Tryd.ntmps24
      go_wp2_with fail
      refine (HB.out _).mono ?_
      rintro e w' ⟨rfl, rfl⟩
      go_wp2_with fail
      refine (HS.out _).mono ?_
      rintro e w1 ⟨rfl, hb1⟩
      go_wp2_with fail
      refine (HB2.out _).mono ?_
      rintro e w2 ⟨rfl, rfl⟩
      go_wp2_with fail
      go_ret
      exact ⟨rfl, hb1⟩
    · have e1 := emp_no (b := nm (bare Hd)) (by rw [nm_data]; exact hD)
      rw [if_neg hD]
      generalize nm (bare Hd) = D at *
      clear hD
      go_enter Tryd.func24, Tryd.ntmps24
      go_wp2_with fail
      refine (HB.out _).mono ?_
      rintro e w' ⟨rfl, rfl⟩
      go_wp2_with fail
      refine (HS.out _).mono ?_
      rintro e w1 ⟨rfl, hb1⟩
      go_wp2_with fail
      refine (HB2.out _).mono ?_
      rintro e w2 ⟨rfl, rfl⟩
      go_wp2_with fail
      refine (HB2.out _).mono ?_
      rintro e w2 ⟨rfl, rfl⟩
      go_wp2_with fail
      go_ret
      exact ⟨rfl, hb1⟩

end Go.Proofs.YtfchofdoabhakaaDoor
