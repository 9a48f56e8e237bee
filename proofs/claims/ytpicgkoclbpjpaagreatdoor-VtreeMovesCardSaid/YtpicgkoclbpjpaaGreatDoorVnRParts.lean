/- DERIVED. The walks of the document's own Parts of layer 3. -/
import Derived.Test.YtpicgkoclbpjpaaGreatDoorVnG13
import Derived.Test.YtpicgkoclbpjpaaGreatDoorVnG11
import Derived.Test.YtpicgkoclbpjpaaGreatDoorVnLaw2
import Derived.Test.YtpicgkoclbpjpaaGreatDoorShelf2
import Derived.Test.YtpicgkoclbpjpaaGreatDoorVnG4
import Derived.Deep.CutRange
import Derived.Deep.LoopGhost
import Derived.Laws.AppendOwn
import Derived.Maps.AppendAt
import Derived.IntWalk
namespace Go.Proofs.YtpicgkoclbpjpaaGreatDoor
open Go.RowKit
open PathM
set_option linter.unusedVariables false

theorem ownsRow_cell {W : World} {base : Nat} {e : TypeId} {g n cap : Nat} {xs : List Value} (h : W.ownsRow base e 1 (.slice (some ⟨g, 0, none⟩) n cap) n xs) (j : Nat) (u : Value) (hu : xs[j]? = some u) :
    W.cell? ⟨g, 0 + j, none⟩ = some u := by
  rw [Nat.zero_add]
  rcases h.2 with ⟨e1, _⟩ | ⟨g', cap', cur, e1, h1, h2, h3, h4, h5, h6⟩
  · cases e1
  · cases e1
    rw [cell_of_row W g j cur e (0, 0) h2]
    rw [← h6, List.getElem?_take] at hu
    split at hu
    · simpa using hu
    · cases hu

theorem ownsRow_two {W : World} {base : Nat} {e : TypeId} {v : Value} {k : Nat} {xs : List Value} (h : W.ownsRow base e 1 v k xs) : (v = .slice none 0 0 ∧ k = 0) ∨ ∃ g cap, v = .slice (some ⟨g, 0, none⟩) k cap ∧ k ≤ cap ∧ cap ≤ maxLen ∧ g < W.heap.size ∧ base ≤ g := by
  rcases h.2 with h0 | ⟨g, cap, cur, rfl, h1, h2, h3, h4, h5, h6⟩
  · exact .inl h0
  · exact .inr ⟨g, cap, rfl, h3, h4, (Array.getElem?_eq_some_iff.1 h2).1, h1⟩


/-- What between answers: a row of its own, of what stands between the slashes. -/
def BtwPost (l : Bs) (w : World) (e : Ending) (w' : World) : Prop := ∃ g cap, e = .returned (.slice (some ⟨g, 0, none⟩) (btw l).length cap) ∧ w'.ownsRow w.heap.size 9 1 (.slice (some ⟨g, 0, none⟩) (btw l).length cap) (btw l).length ((btw l).map enc) ∧ Below w.heap.size w w'

/-- What its loop holds. -/
def BtwRel (l : Bs) (w : World) (v f i : Value) (wr : World) : Prop :=
  ∃ (k fr : Nat) (ps : List Bs), k ≤ l.length ∧ fr ≤ k ∧ i = .int .i64 k ∧ f = .int .i64 fr ∧ wr.ownsRow w.heap.size 9 1 v ps.length (ps.map enc) ∧ btw (l.take k) = ps ++ [(l.take k).drop fr] ∧ ps.length ≤ k ∧ Below w.heap.size w wr

theorem btw_close {l x : Bs} {ps : List Bs} {E : ByteArray} {w w1 : World} {g cap : Nat} (hb : btw l = ps ++ [x]) (hx : E = nm x)
    (ho : w1.ownsRow w.heap.size 9 1 (.slice (some ⟨g, 0, none⟩) (ps.length + 1) cap) (ps.length + 1) (ps.map enc ++ [.string E])) (hB : Below w.heap.size w w1) :
    BtwPost l w (.returned (.slice (some ⟨g, 0, none⟩) (ps.length + 1) cap)) w1 := by
  have hl : (btw l).length = ps.length + 1 := by rw [hb]; simp
  refine ⟨g, cap, by rw [hl], ?_, hB⟩
  rw [hl, hb, enc_snoc, ← hx]
  exact ho

set_option maxRecDepth 100000 in
set_option maxHeartbeats 1000000 in
theorem rbetween_any (s : ByteArray) (w : World) (hs : s.size ≤ 2000000) :
    Calls Tryz.prog 90 #[.string s] w (BtwPost s.data.toList w) := by
  have hL := Lib.hid (sizeD s)
  obtain ⟨i0, hi, hz0, hz1, hz2⟩ := info_parts info9
  have HI := Lib.hid hi; have HZ0 := Lib.hid hz0; have HZ1 := Lib.hid hz1; have HZ2 := Lib.hid hz2; clear hi hz0 hz1 hz2
  have hst : BtwRel s.data.toList w (.slice none 0 0) (.int .i64 0) (.int .i64 0) w := ⟨0, 0, [], by omega, by omega, rfl, rfl, World.ownsRow_nil _ _ _ _, by simp [btw], by simp, Below.refl _ _⟩
  go_enter Tryz.func90, Tryz.ntmps90
  go_wp2
  go_loopw [3, 4, 5] (fun v f i wr => BtwRel s.data.toList w v f i wr) (fun _ _ i _ => s.size - (intOf i).toNat)
  case atStart => exact hst
  case round =>
    obtain ⟨k, fr, ps, hk, hfk, rfl, rfl, hrow, hbt, hpk, hB⟩ := hrel
    clear hst
    rw [← hL.out] at hk
    have hle := hB.size
    by_cases hlt : k < s.size
    · have hlen : k < s.data.toList.length := by rw [← hL.out]; exact hlt
      have hbyte : s.data.toList[k] = s[k] := by simp [ByteArray.getElem_eq_getElem_data]
      have htk := List.take_succ_eq_append_getElem hlen
      rw [hbyte] at htk
      by_cases hc : s[k] = 47
      · have q1 : ((s[k].toNat : Int) == 47) = true := by rw [hc]; rfl
        have hx := ext_mid s fr k
        have hb2 : btw (s.data.toList.take (k + 1)) = (ps ++ [(s.data.toList.take k).drop fr]) ++ [(s.data.toList.take (k + 1)).drop (k + 1)] := by
          rw [List.drop_take_self, htk, hc, btw_snoc_slash, hbt]
        have HX := Lib.hid hx; have HB2 := Lib.hid hb2; clear hx hb2 htk hbyte hc hbt
        go_wp2_with (at_builtin; refine wpList_append_own _ rfl _ _ 48 rfl w.heap.size 9 i0 (.string ByteArray.empty) 1 16 Tryz.underlying48 HI.out HZ0.out HZ1.out HZ2.out rfl (by decide) _ _ _ rfl (hrow.alloc _) ⟨wr.heap.size, 0, none⟩ 1 1 [.string (s.extract fr k)] rfl rfl (cell_one_new _ _ _) (by simp [Value.oneCell']) (by unfold maxLen; omega) (by omega) (by simp; omega) ?_; intro v' w1 hown' hgrow _)
        have hB1 := (hB.alloc hle _).grown hgrow (by simp; omega) (fun j e => (hrow.lt j e).1)
        go_roundw
        case rel => exact ⟨k + 1, k + 1, ps ++ [(s.data.toList.take k).drop fr], by rw [← hL.out]; omega, by omega, by go_num, by go_num, by rw [enc_snoc, List.length_append, ← HX.out]; exact hown', HB2.out, by simp; omega, hB1⟩
        case measure => simp [intOf]; omega
      · have q1 : ((s[k].toNat : Int) == 47) = false := beq_eq_false_iff_ne.2 (fun h => hc (UInt8.toNat_inj.1 (by have : (47 : UInt8).toNat = 47 := rfl; omega)))
        have hb2 : btw (s.data.toList.take (k + 1)) = ps ++ [(s.data.toList.take (k + 1)).drop fr] := by
          rw [htk, btw_snoc_other _ _ hc ps _ hbt, List.drop_append_of_le_length (by simp; omega)]
        have HB2 := Lib.hid hb2; clear hb2 htk hbyte hc hbt
        go_wp2
        go_roundw
        case rel => exact ⟨k + 1, fr, ps, by rw [← hL.out]; omega, by omega, by go_num, rfl, hrow, HB2.out, by omega, hB⟩
        case measure => simp [intOf]; omega
    · have hkk : k = s.data.toList.length := by rw [← hL.out]; omega
      have hx := ext_from s fr
      have hb2 : btw s.data.toList = ps ++ [s.data.toList.drop fr] := by
        rw [hkk, List.take_length] at hbt; exact hbt
      have HX := Lib.hid hx; have HB2 := Lib.hid hb2; have HK := Lib.hid hkk; clear hx hb2 hbt hkk
      go_wp2_with (at_builtin; refine wpList_append_own _ rfl _ _ 48 rfl w.heap.size 9 i0 (.string ByteArray.empty) 1 16 Tryz.underlying48 HI.out HZ0.out HZ1.out HZ2.out rfl (by decide) _ _ _ rfl (hrow.alloc _) ⟨wr.heap.size, 0, none⟩ 1 1 [.string (s.extract fr s.size)] rfl rfl (cell_one_new _ _ _) (by simp [Value.oneCell']) (by unfold maxLen; omega) (by omega) (by simp; omega) ?_; intro v' w1 hown' hgrow _)
      have hB1 := (hB.alloc hle _).grown hgrow (by simp; omega) (fun j e => (hrow.lt j e).1)
      obtain ⟨g', cap', rfl⟩ := ownsRow_succ hown'
      go_ret
      exact btw_close HB2.out HX.out hown' hB1


theorem head_or (p : ByteArray) (hp : 0 < p.size) : (p.data.toList.head? ≠ some 47) ↔ p[0] ≠ 47 := by
  rw [head_at p hp]; simp

set_option maxHeartbeats 1000000 in
theorem rparts_fault (p : ByteArray) (w : World) (hs : p.size ≤ maxLen) (hf : faultN p.data.toList ≠ 0) :
    Calls Tryz.prog 65 #[.string p] w fun e w' => e = .returned (.tuple #[.slice none 0 0, .bool false, .int .i64 (faultN p.data.toList : Int)]) ∧ w = w' := by
  have hsz := sizeD p
  have hI := fun w => rhas_any p 0 0 w rfl hs
  unfold maxLen at hs
  by_cases hz : p.data.toList = []
  · have h1 := emp_yes hz
    have hr : faultN p.data.toList = 20 := by unfold faultN; rw [if_pos hz]
    rw [hr]
    clear hr hf hz hI hsz
    go_enter Tryz.func65, Tryz.ntmps65
    go_wp2
    go_ret3
    exact ⟨rfl, rfl⟩
  · have h1 := emp_no hz
    have hp : 0 < p.size := by rw [hsz]; exact List.length_pos_iff.2 hz
    by_cases hl : 256 < p.size
    · have hr : faultN p.data.toList = 26 := by unfold faultN; rw [if_neg hz, if_pos (by rw [← hsz]; exact hl)]
      rw [hr]
      clear hr hf hz hI hsz
      go_enter Tryz.func65, Tryz.ntmps65
      go_wp2
      go_ret3
      exact ⟨rfl, rfl⟩
    · have hl' : p.size ≤ 256 := by omega
      have hh := head_or p hp
      by_cases hc : p[0] = 47
      · have hc' : ((p[0].toNat : Int) == 47) = true := by rw [hc]; rfl
        have hc2 : ((p[0].toNat : Int) != 47) = false := by rw [hc]; rfl
        have h3 : p.data.toList.contains 0 = true := by
          cases h4 : p.data.toList.contains 0 with
          | true => rfl
          | false =>
            refine absurd ?_ hf
            unfold faultN; rw [if_neg hz, if_neg (by rw [← hsz]; exact hl), if_neg]
            rintro (h | h)
            · exact hh.1 h hc
            · rw [h4] at h; cases h
        have hr : faultN p.data.toList = 28 := by unfold faultN; rw [if_neg hz, if_neg (by rw [← hsz]; exact hl), if_pos (.inr h3)]
        rw [h3] at hI
        rw [hr]
        have HI := Lib.hid hI; clear hr hf hz hI hsz hh hc hl h3
        go_enter Tryz.func65, Tryz.ntmps65
        go_wp2_with (go_at_call 46; refine (HI.out _).mono ?_; rintro e w' ⟨rfl, rfl⟩)
        go_ret3
        exact ⟨rfl, rfl⟩
      · have hne : (p[0].toNat : Int) ≠ 47 := fun h => hc (UInt8.toNat_inj.1 (by have : (47 : UInt8).toNat = 47 := rfl; omega))
        have hc' : ((p[0].toNat : Int) == 47) = false := beq_eq_false_iff_ne.2 hne
        have hc2 : ((p[0].toNat : Int) != 47) = true := by rw [bne, hc']; rfl
        have hr : faultN p.data.toList = 28 := by
          unfold faultN; rw [if_neg hz, if_neg (by rw [← hsz]; exact hl), if_pos (.inl (hh.2 hc))]
        rw [hr]
        clear hr hf hz hI hsz hh hc hl hne
        go_enter Tryz.func65, Tryz.ntmps65
        go_wp2
        go_ret3
        exact ⟨rfl, rfl⟩

def fil (L : List Bs) : List Bs := L.filter fun n => !n.isEmpty

theorem fil_take (L : List Bs) (k : Nat) (h : k < L.length) : fil (L.take (k + 1)) = fil (L.take k) ++ (if L[k] = [] then [] else [L[k]]) := by
  rw [List.take_succ_eq_append_getElem h]
  unfold fil
  rw [List.filter_append]
  congr 1
  cases L[k] with
  | nil => rfl
  | cons _ _ => rfl

theorem fil_len (L : List Bs) : (fil L).length ≤ L.length := List.length_filter_le _ _

theorem longIn_take (L : List Bs) (k : Nat) (h : k < L.length) : longIn (L.take (k + 1)) = (longIn (L.take k) || decide (64 < L[k].length)) := by
  rw [List.take_succ_eq_append_getElem h, longIn_snoc]

theorem last_byte (p : ByteArray) (h : 0 < p.size) : ((p[p.size - 1].toNat : Int) == 47) = (p.data.toList.getLast? == some 47) := by
  have hl := sizeD p
  have h2 : p.data.toList.getLast? = some p[p.size - 1] := by
    rw [List.getLast?_eq_getElem?, ← hl]
    exact getD? p (p.size - 1) (by omega)
  rw [h2]
  by_cases hc : p[p.size - 1] = 47
  · rw [hc]; rfl
  · rw [beq_eq_false_iff_ne.2 (fun h => hc (UInt8.toNat_inj.1 (by have : (47 : UInt8).toNat = 47 := rfl; omega)))]
    rw [beq_eq_false_iff_ne.2 (fun h => hc (by simpa using h))]

theorem getElem_at (p : ByteArray) {i j : Nat} (h : i = j) (hi : i < p.size) (hj : j < p.size) : p[i] = p[j] := by subst h; rfl

theorem idx_last (p : ByteArray) (h : 0 < p.size) (W : World) :
    (Instr.index 9 (.string p) (.int .i64 ((p.size : Int) - 1))).run Tryz.prog W = .ok (.int .u8 (p[p.size - 1].toNat : Int)) W := by
  rw [run_index_string W _ _ _ _ Tryz.underlying9, dif_pos (show 0 ≤ (p.size : Int) - 1 ∧ (p.size : Int) - 1 < _ from ⟨by omega, by omega⟩)]
  rw [getElem_at p (show ((p.size : Int) - 1).toNat = p.size - 1 by omega) (by omega) (by omega)]

/-- What the loop of Parts holds. -/
def RPRel (L : List Bs) (w1 : World) (v i : Value) (wr : World) : Prop :=
  ∃ k : Nat, k ≤ L.length ∧ i = .int .i64 k ∧ longIn (L.take k) = false ∧ wr.ownsRow w1.heap.size 9 1 v (fil (L.take k)).length ((fil (L.take k)).map enc) ∧ Below w1.heap.size w1 wr

set_option maxRecDepth 100000 in
set_option maxHeartbeats 2000000 in
theorem rparts_loop (p : ByteArray) (w : World) (hf : faultN p.data.toList = 0) :
    Calls Tryz.prog 65 #[.string p] w (PartsPost p.data.toList w) := by
  obtain ⟨f1, f2, f3, f4⟩ := fault0 hf
  have hL := sizeD p
  rw [← hL] at f2
  have h1 := emp_no f1
  have hp : 0 < p.size := by rw [hL]; exact List.length_pos_iff.2 f1
  have hp0 : p[0] = 47 := Classical.byContradiction fun hh => (head_or p hp).2 hh f3
  have hc' : ((p[0].toNat : Int) == 47) = true := by rw [hp0]; rfl
  have hc2 : ((p[0].toNat : Int) != 47) = false := by rw [hp0]; rfl
  have hI := fun w => rhas_any p 0 0 w rfl (by unfold maxLen; omega)
  rw [f4] at hI
  have hbt := fun w => rbetween_any p w (by omega)
  unfold BtwPost at hbt
  have hml := btw_len p.data.toList
  have hlast := last_byte p hp
  rw [← hL] at hml
  have hE : partsE p.data.toList = if longIn (btw p.data.toList) = true then 26 else 0 := by unfold partsE; rw [hf, longIn_names]; rfl
  have hnm : names p.data.toList = fil (btw p.data.toList) := rfl
  have hPB : partsB p.data.toList = if partsE p.data.toList = 0 then (!(names p.data.toList).isEmpty && (p.data.toList.getLast? == some 47)) else false := rfl
  have hPL : partsL p.data.toList = if partsE p.data.toList = 0 then names p.data.toList else [] := rfl
  rw [hnm, hE] at hPB hPL
  generalize (p.data.toList.getLast? == some 47) = sl at *
  obtain ⟨i0, hi, hz0, hz1, hz2⟩ := info_parts info9
  have HI0 := Lib.hid hi; have HZ0 := Lib.hid hz0; have HZ1 := Lib.hid hz1; have HZ2 := Lib.hid hz2; clear hi hz0 hz1 hz2
  have HI := Lib.hid hI; have HT := Lib.hid hbt; have HE := Lib.hid hE; have HPB := Lib.hid hPB; have HPL := Lib.hid hPL; have HLA := Lib.hid hlast
  clear hI hbt hf hE hnm hPB hPL f1 f3 f4 hp0 hL hlast
  unfold PartsPost
  generalize btw p.data.toList = L at *
  go_enter Tryz.func65, Tryz.ntmps65
  go_wp2_with fail
  refine (HI.out _).mono ?_
  rintro e w' ⟨rfl, rfl⟩
  go_wp2_with fail
  refine (HT.out _).mono ?_
  rintro e w1 ⟨g, cap, rfl, hrow, hb1⟩
  have hcells : ∀ (k : Nat) (h : k < L.length), w1.cell? ⟨g, k, none⟩ = some (.string (nm L[k])) := fun k h => by
    have := ownsRow_cell hrow k (enc L[k]) (by rw [List.getElem?_map, List.getElem?_eq_getElem h]; rfl)
    rw [Nat.zero_add] at this; exact this
  have hcap : L.length ≤ cap ∧ cap ≤ maxLen ∧ g < w1.heap.size := by
    rcases ownsRow_two hrow with ⟨e1, _⟩ | ⟨g', cap', e1, hkc, hcm, hg1, hg2⟩
    · cases e1
    · cases e1; exact ⟨hkc, hcm, hg1⟩
  obtain ⟨hcap1, hcap2, hg⟩ := hcap
  have hle1 := hb1.size
  have HCE := Lib.hid hcells; clear hcells hrow
  have hst : RPRel L w1 (.slice none 0 0) (.int .i64 0) w1 := ⟨0, by omega, rfl, rfl, World.ownsRow_nil _ _ _ _, Below.refl _ _⟩
  go_wp2_with fail
  go_loopw [5, 7] (fun v i wr => RPRel L w1 v i wr) (fun _ i _ => L.length - (intOf i).toNat)
  case atStart => exact hst
  case round =>
    clear hst
    obtain ⟨k, hk, rfl, hlg, hown, hB⟩ := hrel
    have hle := hB.size
    have hfl := fil_len (L.take k)
    rw [List.length_take] at hfl
    by_cases hlt : k < L.length
    · have hc := HCE.out k hlt
      have hcw := (hB.cell (p := ⟨g, k, none⟩) hg).trans hc
      have hft := fil_take L k hlt
      have hlt2 := longIn_take L k hlt
      rw [hlg] at hlt2
      obtain ⟨x, hx⟩ : ∃ x, L[k] = x := ⟨_, rfl⟩
      rw [hx] at hft hlt2 hcw
      have hns := nm_size x
      have hll : longIn L = false ∨ longIn L = true := by cases longIn L <;> simp
      clear hc hlg
      by_cases hlong : 64 < x.length
      · have hx1 : 64 < (nm x).size := by rw [hns]; exact hlong
        have hLt : longIn L = true := by
          unfold longIn
          rw [List.any_eq_true]
          exact ⟨x, by rw [← hx]; exact List.getElem_mem _, by simpa using hlong⟩
        have e1 : partsE p.data.toList = 26 := by rw [HE.out, hLt]; rfl
        have e2 : partsB p.data.toList = false := by rw [HPB.out, hLt]; rfl
        have e3 : partsL p.data.toList = [] := by rw [HPL.out, hLt]; rfl
        have E1 := Lib.hid e1; have E2 := Lib.hid e2; have E3 := Lib.hid e3
        clear e1 e2 e3 hll hLt hft hlt2 hx hns hlong
        go_wp2
        go_ret3
        exact ⟨.slice none 0 0, ret_parts E2.out.symm (by rw [E1.out]; rfl), by rw [E3.out]; exact World.ownsRow_nil _ _ _ _, hb1.trans (hB.mono hle1)⟩
      · have hx1 : (nm x).size ≤ 64 := by rw [hns]; omega
        have hl3 : longIn (L.take (k + 1)) = false := by rw [hlt2]; simp; omega
        have HL3 := Lib.hid hl3; clear hl3 hlt2 hlong hll hx hns
        by_cases hxe : x = []
        · have e1 := emp_yes (b := nm x) (by rw [nm_data]; exact hxe)
          rw [if_pos hxe, List.append_nil] at hft
          have HF := Lib.hid hft; clear hft hxe
          go_wp2
          go_roundw
          case rel => exact ⟨k + 1, by omega, by go_num, HL3.out, by rw [HF.out]; exact hown, hB⟩
          case measure => simp [intOf]; omega
        · have e1 := emp_no (b := nm x) (by rw [nm_data]; exact hxe)
          rw [if_neg hxe] at hft
          have HF := Lib.hid hft; clear hft hxe
          go_wp2_with (at_builtin; refine wpList_append_own _ rfl _ _ 48 rfl w1.heap.size 9 i0 (.string ByteArray.empty) 1 16 Tryz.underlying48 HI0.out HZ0.out HZ1.out HZ2.out rfl (by decide) _ _ _ rfl (hown.alloc _) ⟨wr.heap.size, 0, none⟩ 1 1 [.string (nm x)] rfl rfl (cell_one_new _ _ _) (by simp [Value.oneCell']) (by unfold maxLen; omega) (by omega) (by simp; omega) ?_; intro v' w2 hown' hgrow _)
          have hB1 := (hB.alloc hle _).grown hgrow (by simp; omega) (fun j e => (hown.lt j e).1)
          go_roundw
          case rel => exact ⟨k + 1, by omega, by go_num, HL3.out, by rw [HF.out, enc_snoc, List.length_append]; exact hown', hB1⟩
          case measure => simp [intOf]; omega
    · have hkk : k = L.length := by omega
      rw [hkk, List.take_length] at hlg hown
      have e1 : partsE p.data.toList = 0 := by rw [HE.out, hlg]; rfl
      have e2 : partsB p.data.toList = (!(fil L).isEmpty && sl) := by rw [HPB.out, hlg]; rfl
      have e3 : partsL p.data.toList = fil L := by rw [HPL.out, hlg]; rfl
      have E1 := Lib.hid e1; have E2 := Lib.hid e2; have E3 := Lib.hid e3
      have hown2 := ownsRow_base hown hle1
      have hBB := hb1.trans (hB.mono hle1)
      have hla := HLA.out
      clear e1 e2 e3 hlg hfl hown
      obtain ⟨a, cp, rfl⟩ := ownsRow_len hown2
      have hw1 : IntKind.i64.wrap ((p.size : Int) - 1) = (p.size : Int) - 1 := IntWalk.i64_in _ (by omega)
      have hw2 : (0 : Int) ≤ (p.size : Int) - 1 := by omega
      have hw3 : ((p.size : Int) - 1).toNat = p.size - 1 := by omega
      have hw4 : (1 : Int) ≤ (p.size : Int) := by omega
      have OW : ∀ n, n = (fil L).length → wr.ownsRow w.heap.size 9 1 (.slice a n cp) (fil L).length ((fil L).map enc) := fun n h => by rw [h]; exact hown2
      by_cases hN : (fil L).length = 0
      · have OW2 := Lib.hid (OW 0 hN.symm)
        have hem : (fil L).isEmpty = true := by rw [List.isEmpty_iff]; exact List.length_eq_zero_iff.1 hN
        have HEM := Lib.hid hem
        clear hem OW hown2
        rw [hN]
        clear hN hla
        go_wp2
        go_quiet (fail)
        go_wp2
        go_ret3
        exact ⟨_, ret_parts (by rw [E2.out, HEM.out]; rfl) (by rw [E1.out]; rfl), by rw [E3.out]; exact ownsRow_drewN OW2.out _, below_drewN' hBB _⟩
      · have hN2 : 0 < (fil L).length := by omega
        have hN3 : decide ((0 : Int) < ((fil L).length : Int)) = true := by simp; omega
        have OW2 := Lib.hid (OW _ rfl)
        have hem : (fil L).isEmpty = false := by
          cases h : fil L with
          | nil => rw [h] at hN2; simp at hN2
          | cons _ _ => rfl
        have HEM := Lib.hid hem
        clear hem OW hown2 hN
        have hix := idx_last p hp
        go_wp2
        go_quiet (fail)
        go_wp2
        go_ret3
        exact ⟨_, ret_parts (by rw [E2.out, HEM.out]; rfl) (by rw [E1.out]; rfl), by rw [E3.out]; exact ownsRow_drewN OW2.out _, below_drewN' hBB _⟩

theorem rparts_any (p : ByteArray) (w : World) (hs : p.size ≤ maxLen) :
    Calls Tryz.prog 65 #[.string p] w (PartsPost p.data.toList w) := by
  by_cases hf : faultN p.data.toList = 0
  · exact rparts_loop p w hf
  · refine (rparts_fault p w hs hf).mono ?_
    rintro e w' ⟨he, rfl⟩
    have hE : partsE p.data.toList = faultN p.data.toList := by unfold partsE; rw [if_pos hf]
    have hE0 : partsE p.data.toList ≠ 0 := by rw [hE]; exact hf
    refine ⟨.slice none 0 0, ?_, ?_, Below.refl _ _⟩
    · rw [he, hE]; unfold partsB; rw [if_neg hE0]
    · unfold partsL; rw [if_neg hE0]; exact World.ownsRow_nil _ _ _ _

end Go.Proofs.YtpicgkoclbpjpaaGreatDoor
