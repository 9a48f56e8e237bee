/- DERIVED. Stage 5, several texts in one: VtPath VtThru VtNo VtThru2 VtSplit VtThru3 VtThru4 VtThru5. -/
import Derived.Test.YtpicgkoclbpjpaaGreatDoorVnG8
import Derived.RangeFuncBox
import Derived.RangeFuncNested
import Derived.RangeFuncLeaves
import Derived.Shelf.Abstract
import Derived.OwnWalkIn
import Derived.TacticsInMore
import Derived.LoopNIn
import Derived.LoopIn
import Derived.Maps.AppendAt
import Derived.Stop.RegionWithIn
import Derived.Lib.SplitLaws
import Derived.Lib.CountLaws
import Derived.Lib.OwnBridge
section
namespace Go.Proofs.YtpicgkoclbpjpaaGreatDoor
open Go.RowKit
open PathM
set_option linter.unusedVariables false
set_option maxHeartbeats 400000 in
theorem index_any (s : ByteArray) (w : World) :
    Calls Tryz.prog 159 #[.string s, .string ⟨#[47]⟩] w fun e w' => e = .returned (.int .i64 (Lib.indexByte s.data.toList 47)) ∧ w = w' := by
  by_cases hs : s = ⟨#[47]⟩
  · have hb : ([47] == s.toList) = true := by rw [listD, hs]; rfl
    have hz : Lib.indexByte s.data.toList 47 = 0 := by rw [hs]; rfl
    have HZ := Lib.hid hz; clear hz hs
    go_enter Tryz.func159, Tryz.ntmps159
    go_wp2
    go_ret
    exact ⟨by rw [HZ.out]; rfl, rfl⟩
  · have hb : ([47] == s.toList) = false := by
      rw [listD]
      refine beq_eq_false_iff_ne.2 (fun e => hs ?_)
      exact (nm_of s).symm.trans (by rw [← e]; rfl)
    clear hs
    go_enter Tryz.func159, Tryz.ntmps159
    go_wp2_with (go_at_call 82; refine (Tryz.stringslite_IndexByte s 47 _).mono ?_; rintro e w' ⟨rfl, rfl⟩)
    go_ret
    exact ⟨rfl, rfl⟩

theorem ret_cut {a b c d : ByteArray} {x y : Bool} (h1 : a = b) (h2 : c = d) (h3 : x = y) : Ending.returned (.tuple #[.string a, .string c, .bool x]) = .returned (.tuple #[.string b, .string d, .bool y]) := by rw [h1, h2, h3]
/-- What strings.Cut answers at a slash. -/
def CutPost (s : ByteArray) (w : World) (e : Ending) (w' : World) : Prop := ∃ (x : Bool) (n : Nat), e = .returned (.tuple #[.string (nm (bef s.data.toList)), .string (nm (aft s.data.toList)), .bool x]) ∧ w' = w.drewN n

set_option maxHeartbeats 400000 in
theorem cut_lite (s : ByteArray) (w : World) (hs : s.size ≤ maxLen) :
    Calls Tryz.prog 150 #[.string s, .string ⟨#[47]⟩] w (CutPost s w) := by
  unfold maxLen at hs
  have hge := Lib.indexByte_ge s.data.toList 47
  have hc := fun w => index_any s w
  by_cases hi : Lib.indexByte s.data.toList 47 = -1
  · obtain ⟨b1, b2⟩ := bef_none _ (index_none _ hi)
    rw [hi] at hc
    have HC := Lib.hid hc; have H1 := Lib.hid b1; have H2 := Lib.hid b2; clear hc b1 b2 hi hge
    go_enter Tryz.func150, Tryz.ntmps150
    go_wp2_with (go_at_call 159; refine (HC.out _).mono ?_; rintro e w' ⟨rfl, rfl⟩)
    go_ret3
    exact ⟨false, 0, ret_cut (by rw [H1.out]; exact (nm_of s).symm) (by rw [H2.out]; rfl) rfl, rfl⟩
  · obtain ⟨i, he⟩ : ∃ i : Nat, Lib.indexByte s.data.toList 47 = i := ⟨(Lib.indexByte s.data.toList 47).toNat, by omega⟩
    obtain ⟨b1, b2, b3⟩ := index_some _ i he
    rw [← sizeD] at b3
    rw [he] at hc
    have HC := Lib.hid hc; have H1 := Lib.hid b1; have H2 := Lib.hid b2; clear hc b1 b2 hi hge he
    have c1 : (0 : Int) ≤ ↑i := by omega
    have c2 : (↑i : Int) ≤ ↑s.size := by omega
    have c3 : (0 : Int) ≤ ↑i + 1 := by omega
    have c4 : (↑i + 1 : Int) ≤ ↑s.size := by omega
    go_enter Tryz.func150, Tryz.ntmps150
    go_wp2_with (go_at_call 159; refine (HC.out _).mono ?_; rintro e w' ⟨rfl, rfl⟩)
    go_region
    all_goals go_wp2
    all_goals go_ret3
    all_goals exact ⟨true, 1, ret_cut (by rw [H1.out]; exact ext_to s i) (by rw [H2.out]; exact ext_from s (i + 1)) rfl, rfl⟩

theorem cut_any (s : ByteArray) (w : World) (hs : s.size ≤ maxLen) :
    Calls Tryz.prog 129 #[.string s, .string ⟨#[47]⟩] w (CutPost s w) := by
  go_enter Tryz.func129, Tryz.ntmps129
  go_wp2_with fail
  refine (cut_lite s _ hs).mono ?_
  rintro e w' ⟨x, n, rfl, rfl⟩
  go_wp2_with fail
  go_ret3
  exact ⟨x, n, rfl, rfl⟩

open Go.RowKit
open PathM
set_option maxHeartbeats 1000000 in
theorem fault_any (p : ByteArray) (w : World) (hs : p.size ≤ maxLen) :
    Calls Tryz.prog 95 #[.string p] w fun e w' => e = .returned (.int .i64 (faultN p.data.toList : Int)) ∧ w = w' := by
  unfold maxLen at hs
  have hsz := sizeD p
  have hI := fun w => Tryz.strings_IndexByte p 0 w
  rw [show Int.toNat 0 = 0 from rfl, show Nat.toUInt8 0 = 0 from rfl] at hI
  by_cases hz : p.data.toList = []
  · have h1 := emp_yes hz
    have hr : faultN p.data.toList = 20 := by unfold faultN; rw [if_pos hz]
    have HR := Lib.hid hr; clear hr hz hI hsz
    go_enter Tryz.func95, Tryz.ntmps95
    go_wp2
    go_ret
    exact ⟨ret_num HR.out.symm, rfl⟩
  · have h1 := emp_no hz
    have hp : 0 < p.size := by rw [hsz]; exact List.length_pos_iff.2 hz
    by_cases hl : 256 < p.size
    · have hr : faultN p.data.toList = 26 := by unfold faultN; rw [if_neg hz, if_pos (by rw [← hsz]; exact hl)]
      have HR := Lib.hid hr; clear hr hz hI hsz
      go_enter Tryz.func95, Tryz.ntmps95
      go_wp2
      go_ret
      exact ⟨ret_num HR.out.symm, rfl⟩
    · have hl' : p.size ≤ 256 := by omega
      have hh := head_at p hp
      by_cases hc : p[0] = 47
      · have hc' : ((p[0].toNat : Int) == 47) = true := by rw [hc]; rfl
        have hc2 : ((p[0].toNat : Int) != 47) = false := by rw [hc]; rfl
        have h0 := index0 p.data.toList
        by_cases h3 : 0 ≤ Lib.indexByte p.data.toList 0
        · have hr : faultN p.data.toList = 28 := by unfold faultN; rw [if_neg hz, if_neg (by rw [← hsz]; exact hl), if_pos (.inr (h0.1 h3))]
          have HR := Lib.hid hr; have HI := Lib.hid hI; clear hr hz hI hsz hh h0 hc hl
          generalize Lib.indexByte p.data.toList 0 = x at h3 HI
          go_enter Tryz.func95, Tryz.ntmps95
          go_wp2_with (go_at_call 48; refine (HI.out _).mono ?_; rintro e w' ⟨rfl, rfl⟩)
          go_ret
          exact ⟨ret_num HR.out.symm, rfl⟩
        · have hr : faultN p.data.toList = 0 := by
            unfold faultN; rw [if_neg hz, if_neg (by rw [← hsz]; exact hl), if_neg]
            rintro (h | h)
            · rw [hh, hc] at h; exact h rfl
            · exact h3 (h0.2 h)
          have HR := Lib.hid hr; have HI := Lib.hid hI; clear hr hz hI hsz hh h0 hc hl
          generalize Lib.indexByte p.data.toList 0 = x at h3 HI
          go_enter Tryz.func95, Tryz.ntmps95
          go_wp2_with (go_at_call 48; refine (HI.out _).mono ?_; rintro e w' ⟨rfl, rfl⟩)
          go_ret
          exact ⟨ret_num HR.out.symm, rfl⟩
      · have hne : (p[0].toNat : Int) ≠ 47 := fun h => hc (UInt8.toNat_inj.1 (by have : (47 : UInt8).toNat = 47 := rfl; omega))
        have hc' : ((p[0].toNat : Int) == 47) = false := beq_eq_false_iff_ne.2 hne
        have hc2 : ((p[0].toNat : Int) != 47) = true := by rw [bne, hc']; rfl
        have hr : faultN p.data.toList = 28 := by
          unfold faultN; rw [if_neg hz, if_neg (by rw [← hsz]; exact hl), if_pos]
          refine .inl (fun h => hc ?_)
          rw [hh] at h; simpa using h
        have HR := Lib.hid hr; have HI := Lib.hid hI; clear hr hz hI hsz hh hc hl hne
        go_enter Tryz.func95, Tryz.ntmps95
        go_wp2
        go_ret
        exact ⟨ret_num HR.out.symm, rfl⟩

open Go.RowKit Go.Shelf
open PathM
attribute [local go_sem] Oper.semAt_some

/-- FOR THE LOOP's MEASURE: the bytes of a value that is a string. -/
def szOf : Value → Nat
  | .string t => t.size
  | _ => 0

/-- What the loop over a path holds: what has come, what is left. -/
def ItRel (xs : List Bs) (J : List Bs → World → Prop) (p : Value) (wr : World) : Prop :=
  ∃ (pre : List Bs) (l : Bs), p = .string (nm l) ∧ xs = pre ++ names l ∧ l.length ≤ 9223372036854775807 ∧ J pre wr

set_option maxRecDepth 100000 in
set_option maxHeartbeats 1000000 in
theorem names1_in (n : Nat) (hn : 1 ≤ n) (l Bn n₀ : Nat) (s : ByteArray) (hs : s.size ≤ maxLen) (J Jx : List Bs → World → Prop) (hJd : ∀ pre A k, J pre A → J pre (A.drewN k))
    (hY : ∀ pre x W, J pre W → pre.length < (names s.data.toList).length → YieldAt Fence.wide (n - 1) Tryz.prog l #[.string (nm x)] W fun e W' =>
      (e = .returned (.bool true) ∧ J (pre ++ [x]) W' ∧ Below n₀ W W') ∨ (e = .returned (.bool false) ∧ Jx (pre ++ [x]) W'))
    (W : World) (hBn : W.cell? ⟨Bn, 0, none⟩ = some (.string s)) (h0 : J [] W) :
    CallsIn Fence.wide n Tryz.prog 128 #[.func (.yield l) #[] #[], .pointer (some ⟨Bn, 0, none⟩)] W fun e W' => (∃ v, e = .returned v) ∧
      ((∃ ys, ys = names s.data.toList ∧ J ys W') ∨ (∃ pre, pre <+: names s.data.toList ∧ Jx pre W')) := by
  unfold maxLen at hs
  obtain ⟨xs, hxs⟩ : ∃ xs, names s.data.toList = xs := ⟨_, rfl⟩
  rw [hxs] at hY ⊢
  have hst : ItRel xs J (.string s) W := ⟨[], s.data.toList, by rw [nm_of], by rw [hxs]; rfl, by rw [← sizeD]; exact hs, h0⟩
  have HX := Lib.hid hxs; clear hxs
  refine callsIn_of_wp Tryz.func128 rfl trivial ?_ rfl
  simp only [Tryz.ntmps128, List.size_toArray, List.length_cons, List.length_nil, Nat.reduceAdd, Nat.reduceSub, Array.replicate_succ, Array.replicate_zero, List.push_toArray, List.append_toArray, List.nil_append, List.cons_append]
  gi_wp2
  gi_loopw [3] (fun p wr => ItRel xs J p wr) (fun p wr => szOf p)
  case atStart =>
    exact hst
  case round =>
    obtain ⟨pre, r, rfl, hx, hrl, hJs⟩ := hrel
    clear hst hBn
    cases r with
    | nil =>
      have q1 := emp_yes (b := nm []) rfl
      have hx' : pre = xs := by rw [hx, names_nil]; simp
      have HP := Lib.hid hx'; clear hx' hx
      gi_wp2
      go_end0
      exact ⟨⟨_, rfl⟩, .inl ⟨pre, HP.out, hJs⟩⟩
    | cons c r' =>
      have q1 := emp_no (b := nm (c :: r')) (by simp [nm_data])
      have q2 : (nm (c :: r')).size ≤ maxLen := by rw [nm_size]; unfold maxLen; exact hrl
      have hcut := fun w => cut_any (nm (c :: r')) w q2
      have hlt := aft_len (c :: r') (by simp)
      have hle : (aft (c :: r')).length ≤ 9223372036854775807 := by omega
      have hm : (nm (aft (c :: r'))).size < (nm (c :: r')).size := by rw [nm_size, nm_size]; exact hlt
      unfold CutPost at hcut
      rw [nm_data] at hcut
      by_cases hb : bef (c :: r') = []
      · have hx2 := names_skip _ hb
        have q3 := emp_yes (b := nm (bef (c :: r'))) (by rw [nm_data]; exact hb)
        have hx3 : xs = pre ++ names (aft (c :: r')) := by rw [hx, hx2]
        have HP := Lib.hid hx3; have HM := Lib.hid hm; have HC := Lib.hid hcut; clear hx3 hx2 hx hb hm hcut hlt hrl q2
        generalize nm (c :: r') = R at *
        generalize nm (bef (c :: r')) = Bf at *
        gi_wp2_with (refine ⟨trivial, ?_⟩; gi_at_call 129; refine (callsIn_wide.2 (HC.out _)).mono ?_; rintro e w' ⟨x, k, rfl, rfl⟩)
        refine ⟨fun _ h => (by cases h), ?_⟩
        gi_wp2
        go_roundw
        case rel => exact ⟨pre, aft (c :: r'), rfl, HP.out, hle, hJd _ _ _ hJs⟩
        case measure => exact HM.out
      · have hx2 := names_take _ hb
        have q3 := emp_no (b := nm (bef (c :: r'))) (by rw [nm_data]; exact hb)
        have hx3 : xs = (pre ++ [bef (c :: r')]) ++ names (aft (c :: r')) := by rw [hx, hx2]; simp
        have hplt : pre.length < xs.length := by rw [hx3]; simp
        have hy0 := fun W hj => hY pre (bef (c :: r')) W hj hplt
        have HP := Lib.hid hx3; have HM := Lib.hid hm; have HC := Lib.hid hcut; clear hx3 hx2 hx hb hm hcut hlt hrl q2 hY hplt
        generalize nm (c :: r') = R at *
        obtain ⟨fn0, fe⟩ : ∃ b, b = bef (c :: r') := ⟨_, rfl⟩
        rw [← fe] at hy0 HP HC q3
        generalize nm fn0 = Bf at *
        gi_wp2_with (refine ⟨trivial, ?_⟩; gi_at_call 129; refine (callsIn_wide.2 (HC.out _)).mono ?_; rintro e w' ⟨x, k, rfl, rfl⟩; obtain ⟨fn, tmps, assign, body, hy, hR⟩ := hy0 _ (hJd _ _ k hJs))
        refine hR.mono ?_
        rintro e W3 (⟨rfl, hJ3, hk3⟩ | ⟨rfl, hJx3⟩)
        · gi_wp2
          go_roundw
          case rel => exact ⟨pre ++ [fn0], aft (c :: r'), rfl, HP.out, hle, hJ3⟩
          case measure => exact HM.out
        · gi_wp2
          refine bodyPost_ret (results_none rfl _ _ _) rfl ?_
          exact ⟨⟨_, rfl⟩, .inr ⟨pre ++ [fn0], ⟨_, HP.out.symm⟩, hJx3⟩⟩

set_option maxHeartbeats 1000000 in
theorem names_in (n : Nat) (s : ByteArray) (w : World) :
    CallsIn Fence.wide n Tryz.prog 96 #[.string s] w fun e w' => e = .returned (.func (.func 128) #[] #[.pointer (some ⟨w.heap.size, 0, none⟩)]) ∧ w' = w.alloc (.cells #[.string s] 9) := by
  refine callsIn_of_wp Tryz.func96 rfl trivial ?_ rfl
  simp only [Tryz.ntmps96, List.size_toArray, List.length_cons, List.length_nil, Nat.reduceAdd, Nat.reduceSub, Array.replicate_succ, Array.replicate_zero, List.push_toArray, List.append_toArray, List.nil_append, List.cons_append]
  gi_wp2
  go_ret
  exact ⟨rfl, rfl⟩

theorem names_stops (n : Nat) (hn : 1 ≤ n) (Bn n₀ : Nat) (s : ByteArray) (hs : s.size ≤ maxLen) (w : World) (hBn : Bn < w.heap.size) (hn₀ : n₀ ≤ w.heap.size)
    (hc : w.cell? ⟨Bn, 0, none⟩ = some (.string s)) :
    SeqStopsK Fence.wide n Tryz.prog 128 #[.pointer (some ⟨Bn, 0, none⟩)] (fun x : Bs => #[Value.string (nm x)]) (Below n₀) (fun ys => ys = names s.data.toList) (fun pre => pre <+: names s.data.toList) (names s.data.toList).length w := fun l J Jx W hW hJ _ hY h0 =>
  names1_in n hn l Bn n₀ s hs J Jx (fun pre A k hA => hJ pre A (A.drewN k) none hA ⟨rfl, rfl, rfl, Nat.le_refl _, fun _ _ _ => rfl⟩ (by simp)) hY W ((hW.cell (p := ⟨Bn, 0, none⟩) hBn).trans hc) h0

open Go.RowKit Go.Shelf
open PathM
theorem ret_parts {a : Value} {x y : Bool} {i j : Int} (h1 : x = y) (h2 : i = j) : Ending.returned (.tuple #[a, .bool x, .int .i64 i]) = .returned (.tuple #[a, .bool y, .int .i64 j]) := by rw [h1, h2]

set_option maxHeartbeats 1000000 in
theorem parts_fault (p : ByteArray) (w : World) (hs : p.size ≤ maxLen) (hf : faultN p.data.toList ≠ 0) :
    Calls Tryz.prog 77 #[.string p] w fun e w' => e = .returned (.tuple #[.slice none 0 0, .bool false, .int .i64 (faultN p.data.toList : Int)]) ∧ Below w.heap.size w w' := by
  have hc := fun w => fault_any p w hs
  generalize faultN p.data.toList = f at hc hf
  have hb : ((f : Int) != 0) = true := by simp; omega
  have HC := Lib.hid hc; clear hc hf
  go_enter Tryz.func77, Tryz.ntmps77
  go_wp2_with (go_at_call 95; refine (HC.out _).mono ?_; rintro e w' ⟨rfl, rfl⟩)
  exact bodyPost_ret (v := .tuple #[.slice none 0 0, .bool false, .int .i64 f]) (by simp [results, Tryz.results77, go_sem]) rfl ⟨rfl, (((Below.refl _ w).alloc (Nat.le_refl _) _).alloc (by simp) _).alloc (by simp; omega) _⟩

/-- What path.Parts answers. -/
def PartsPost (l : Bs) (w : World) (e : Ending) (w' : World) : Prop := ∃ v, e = .returned (.tuple #[v, .bool (partsB l), .int .i64 (partsE l : Int)]) ∧ w'.ownsRow w.heap.size 9 1 v (partsL l).length ((partsL l).map fun x => .string (nm x)) ∧ Below w.heap.size w w'

theorem longIn_snoc (l : List Bs) (x : Bs) : longIn (l ++ [x]) = (longIn l || decide (64 < x.length)) := by simp [longIn]
theorem ownsRow_len {W : World} {base : Nat} {e : TypeId} {size : Nat} {v : Value} {k : Nat} {xs : List Value} (h : W.ownsRow base e size v k xs) : ∃ a cap, v = .slice a k cap := by
  rcases h.2 with ⟨rfl, rfl⟩ | ⟨g, cap, cur, rfl, _⟩
  · exact ⟨_, _, rfl⟩
  · exact ⟨_, _, rfl⟩
theorem suffix_slash (l : Bs) : Lib.hasSuffix l [47] = (l.getLast? == some 47) := by
  rcases snoc_cases l with rfl | ⟨t, c, rfl⟩
  · rfl
  · simp [Lib.hasSuffix, List.isSuffixOf, List.isPrefixOf]
    exact Bool.eq_iff_iff.2 ⟨fun h => by simpa using (eq_of_beq h).symm, fun h => by simpa using (eq_of_beq h).symm⟩

/-- Between two rounds: the box of the list, the boxes of the results. -/
def PI (w : World) (pre : List Bs) (W : World) : Prop :=
  ((∃ v, Boxed W (w.heap.size + 1 + 1 + 1) 48 v ∧ W.ownsRow w.heap.size 9 1 v pre.length (pre.map enc) ∧ longIn pre = false) ∧
    Boxed W w.heap.size 48 (.slice none 0 0) ∧ Boxed W (w.heap.size + 1) 4 (.bool false) ∧ Boxed W (w.heap.size + 1 + 1) 34 (.int .i64 0)) ∧ Below w.heap.size w W
/-- Where a round has left: a name that is too long. -/
def PX (w : World) (c : Code) (pre : List Bs) (W : World) : Prop :=
  ((c = .ret ∧ longIn pre = true) ∧ Boxed W w.heap.size 48 (.slice none 0 0) ∧ Boxed W (w.heap.size + 1) 4 (.bool false) ∧ Boxed W (w.heap.size + 1 + 1) 34 (.int .i64 26)) ∧ Below w.heap.size w W
theorem pi_own (w : World) (B : Nat) (h : w.heap.size ≤ B) : OwnFrom B (PI w) :=
  OwnFrom.and (OwnFrom.and (Own.from (holdsRow_own w.heap.size (w.heap.size + 1 + 1 + 1) 48 9 1 (fun pre => pre.length) (fun pre => pre.map enc) (fun pre v => longIn pre = false)) _)
    (OwnFrom.and (Own.from (boxed_own _ _ _) _) (OwnFrom.and (Own.from (boxed_own _ _ _) _) (Own.from (boxed_own _ _ _) _)))) (ownFrom_below (Nat.le_refl _) h)
theorem px_own (w : World) (B : Nat) (h : w.heap.size ≤ B) (c : Code) : OwnFrom B (PX w c) :=
  OwnFrom.and (OwnFrom.and (ownFrom_pure _ _) (OwnFrom.and (Own.from (boxed_own _ _ _) _) (OwnFrom.and (Own.from (boxed_own _ _ _) _) (Own.from (boxed_own _ _ _) _)))) (ownFrom_below (Nat.le_refl _) h)

/-- Behind the last statement: the frame, and the results' boxes. -/
def PQ (w : World) (D : Nat) (act : Act) (v : Value) (N : List Bs) (b : Bool) : Exit → Act → World → Prop
  | .normal, a, w' => a = act ∧ (Boxed w' w.heap.size 48 v ∧ Boxed w' (w.heap.size + 1) 4 (.bool b) ∧ Boxed w' (w.heap.size + 1 + 1) 34 (.int .i64 0)) ∧
      w'.ownsRow w.heap.size 9 1 v N.length (N.map enc) ∧ w'.heap[D]? = some (.deferred (some [])) ∧ Below w.heap.size w w'
  | _, _, _ => False

theorem pq_close {w W : World} {D : Nat} {act : Act} {v : Value} {N : List Bs} {b : Bool} {r1 r2 r3 : Value} (hr1 : Boxed W w.heap.size 48 r1) (hr2 : Boxed W (w.heap.size + 1) 4 r2) (hr3 : Boxed W (w.heap.size + 1 + 1) 34 r3)
    (hrow : W.ownsRow w.heap.size 9 1 v N.length (N.map enc)) (hK : W.heap[D]? = some (.deferred (some []))) (hB : Below w.heap.size w W) {b' : Bool} (hb : b = b') :
    PQ w D act v N b .normal act (((W.setCell ⟨w.heap.size, 0, none⟩ v).setCell ⟨w.heap.size + 1, 0, none⟩ (.bool b')).setCell ⟨w.heap.size + 1 + 1, 0, none⟩ (.int .i64 0)).drew := by
  subst hb
  have k1 := hr1.set v
  have k2 := hr2.other (B' := w.heap.size) (by omega) v
  have k3 := hr3.other (B' := w.heap.size) (by omega) v
  have k4 := hrow.kept (grownBy_setCell' W w.heap.size v) (.inr (hr1.not_row (by decide) hrow).symm)
  have k5 := (KeepsOthers.setCell W ⟨w.heap.size, 0, none⟩ v).same D _ hK rfl
  have k6 := hB.setCell (p := ⟨w.heap.size, 0, none⟩) (Nat.le_refl _) v
  generalize W.setCell ⟨w.heap.size, 0, none⟩ v = W1 at k1 k2 k3 k4 k5 k6
  have l1 := k1.other (B' := w.heap.size + 1) (by omega) (.bool b)
  have l2 := k2.set (.bool b)
  have l3 := k3.other (B' := w.heap.size + 1) (by omega) (.bool b)
  have l4 := k4.kept (grownBy_setCell' W1 (w.heap.size + 1) (.bool b)) (.inr (k2.not_row (by decide) k4).symm)
  have l5 := (KeepsOthers.setCell W1 ⟨w.heap.size + 1, 0, none⟩ (.bool b)).same D _ k5 rfl
  have l6 := k6.setCell (p := ⟨w.heap.size + 1, 0, none⟩) (by simp) (.bool b)
  generalize W1.setCell ⟨w.heap.size + 1, 0, none⟩ (.bool b) = W2 at l1 l2 l3 l4 l5 l6
  have m1 := l1.other (B' := w.heap.size + 1 + 1) (by omega) (.int .i64 0)
  have m2 := l2.other (B' := w.heap.size + 1 + 1) (by omega) (.int .i64 0)
  have m3 := l3.set (.int .i64 0)
  have m4 := l4.kept (grownBy_setCell' W2 (w.heap.size + 1 + 1) (.int .i64 0)) (.inr (l3.not_row (by decide) l4).symm)
  have m5 := (KeepsOthers.setCell W2 ⟨w.heap.size + 1 + 1, 0, none⟩ (.int .i64 0)).same D _ l5 rfl
  have m6 := l6.setCell (p := ⟨w.heap.size + 1 + 1, 0, none⟩) (by simp; omega) (.int .i64 0)
  generalize W2.setCell ⟨w.heap.size + 1 + 1, 0, none⟩ (.int .i64 0) = W3 at m1 m2 m3 m4 m5 m6
  exact ⟨rfl, ⟨m1, m2, m3⟩, m4.kept (row := none) ⟨rfl, rfl, rfl, Nat.le_refl _, fun _ _ _ => rfl⟩ (by cases v.ownBlock <;> simp), m5, m6.drew⟩

attribute [local go_sem] Oper.semAt_some

set_option maxRecDepth 100000 in
set_option maxHeartbeats 2000000 in
theorem parts_loop (p : ByteArray) (w : World) (hs : p.size ≤ 256) (hf : faultN p.data.toList = 0) :
    Calls Tryz.prog 77 #[.string p] w (PartsPost p.data.toList w) := by
  have hc := fun w => fault_any p w (by unfold maxLen; omega)
  rw [hf] at hc
  have hnl := names_len p.data.toList
  rw [← sizeD] at hnl
  have HC := Lib.hid hc; clear hc
  have HF := Lib.hid hf; clear hf
  obtain ⟨i0, hi, hz0, hz1, hz2⟩ := info_parts info9
  have HI := Lib.hid hi; have HZ0 := Lib.hid hz0; have HZ1 := Lib.hid hz1; have HZ2 := Lib.hid hz2; clear hi hz0 hz1 hz2
  refine (callsIn_wide (n := 5)).1 ?_
  refine callsIn_of_wp_marks Tryz.func77 rfl trivial ?_ rfl
  simp only [Tryz.ntmps77, List.size_toArray, List.length_cons, List.length_nil, Nat.reduceAdd, Nat.reduceSub, Array.replicate_succ, Array.replicate_zero, List.push_toArray, List.append_toArray, List.nil_append, List.cons_append]
  gi_wp2_with (first
    | (refine ⟨trivial, ?_⟩; gi_at_call 95; refine (callsIn_wide.2 (HC.out _)).mono ?_; rintro e w' ⟨rfl, rfl⟩)
    | (refine ⟨trivial, ?_⟩; gi_at_call 96; refine (names_in _ p _).mono ?_; rintro e w' ⟨rfl, rfl⟩)
    | (gi_at_call 96; refine (names_in _ p _).mono ?_; rintro e w' ⟨rfl, rfl⟩))
  obtain ⟨W0, hW0⟩ : ∃ W0, (((((w.alloc (Obj.cells #[Value.slice none 0 0] 48)).alloc (Obj.cells #[Value.bool false] 4)).alloc (Obj.cells #[Value.int IntKind.i64 0] 34)).alloc (Obj.cells #[Value.slice none 0 0] 48)).alloc (Obj.cells #[Value.string p] 9)) = W0 := ⟨_, rfl⟩
  have hsz : W0.heap.size = w.heap.size + 1 + 1 + 1 + 1 + 1 := by rw [← hW0]; simp
  have hB0 : Below w.heap.size w W0 := by rw [← hW0]; exact (((((Below.refl _ w).alloc (Nat.le_refl _) _).alloc (by simp) _).alloc (by simp; omega) _).alloc (by simp; omega) _).alloc (by simp; omega) _
  have hcell : W0.cell? ⟨w.heap.size + 1 + 1 + 1 + 1, 0, none⟩ = some (.string p) := by
    rw [← hW0]
    have := (Boxed.new ((((w.alloc (Obj.cells #[Value.slice none 0 0] 48)).alloc (Obj.cells #[Value.bool false] 4)).alloc (Obj.cells #[Value.int IntKind.i64 0] 34)).alloc (Obj.cells #[Value.slice none 0 0] 48)) 9 (.string p)).cell
    simpa using this
  have hI0 : PI w [] W0 := by
    refine ⟨⟨⟨_, ?_, World.ownsRow_nil _ _ _ _, rfl⟩, ?_, ?_, ?_⟩, hB0⟩
    · rw [← hW0]
      have := (Boxed.new (((w.alloc (Obj.cells #[Value.slice none 0 0] 48)).alloc (Obj.cells #[Value.bool false] 4)).alloc (Obj.cells #[Value.int IntKind.i64 0] 34)) 48 (.slice none 0 0)).alloc (Obj.cells #[Value.string p] 9)
      simpa using this
    · rw [← hW0]
      exact ((((Boxed.new w 48 (.slice none 0 0)).alloc _).alloc _).alloc _).alloc _
    · rw [← hW0]
      have := ((((Boxed.new (w.alloc (Obj.cells #[Value.slice none 0 0] 48)) 4 (.bool false)).alloc (Obj.cells #[Value.int IntKind.i64 0] 34)).alloc (Obj.cells #[Value.slice none 0 0] 48)).alloc (Obj.cells #[Value.string p] 9))
      simpa using this
    · rw [← hW0]
      have := (((Boxed.new ((w.alloc (Obj.cells #[Value.slice none 0 0] 48)).alloc (Obj.cells #[Value.bool false] 4)) 34 (.int .i64 0)).alloc (Obj.cells #[Value.slice none 0 0] 48)).alloc (Obj.cells #[Value.string p] 9))
      simpa using this
  rw [hW0]
  have HW := Lib.hid hW0; have HSZ := Lib.hid hsz; clear hW0
  refine wpIn_rangeFunc_ownG rfl (by omega) (gf := 128) (lb := #[.pointer (some ⟨w.heap.size + 1 + 1 + 1 + 1, 0, none⟩)]) rfl trivial (enters_of Tryz.func128 (by kernel_rfl) rfl)
    (names_stops _ (by omega) (w.heap.size + 1 + 1 + 1 + 1) w.heap.size p (by unfold maxLen; omega) W0 (by omega) (by omega) hcell) belowK_t (belowK_b (by omega)) (Below.refl _ _) (fun _ => rfl)
    (PI w) (PX w) (pi_own w _ (by omega)) (px_own w _ (by omega)) hI0
    (fun x => { tmps := #[Value.string p, undef, Value.pointer (some { block := w.heap.size, off := 0 }),
          Value.pointer (some { block := w.heap.size + 1, off := 0 }),
          Value.pointer (some { block := w.heap.size + 1 + 1, off := 0 }), Value.int IntKind.i64 0,
          Value.pointer (some { block := w.heap.size + 1 + 1 + 1, off := 0 }), Value.string (nm x), Value.string p,
          Value.int IntKind.i64 0, Value.int IntKind.i64 0, Value.bool false, undef, Value.string p,
          Value.func (Fn.func 128) #[] #[Value.pointer (some { block := w.heap.size + 1 + 1 + 1 + 1, off := 0 })], Value.string (nm x),
          undef, undef, undef, undef, undef, undef, undef, undef, undef, undef, undef, undef, undef, undef, undef], defers := [] }) ?assign ?body ?done ?stop
  case assign =>
    intro l x W K hK
    gi_wp2
    exact hK
  case body =>
    rintro l pre x W ⟨⟨⟨v, hv, hrow, hlong⟩, hr1, hr2, hr3⟩, hB⟩ hlt
    clear hcell hI0 hB0
    have hsx := nm_size x
    have hle : w.heap.size ≤ W.heap.size := hB.size
    by_cases hx : 64 < x.length
    · have hl2 : longIn (pre ++ [x]) = true := by rw [longIn_snoc]; simp [hx]
      have c1 := hr1.cell; have c2 := hr2.cell; have c3 := hr3.cell
      have f1 := hr1.frozen; have f2 := hr2.frozen; have f3 := hr3.frozen
      have hx' : 64 < (nm x).size := by rw [hsx]; exact hx
      have HL := Lib.hid hl2; have H1 := Lib.hid hr1; have H2 := Lib.hid hr2; have H3 := Lib.hid hr3; have HO := Lib.hid hlong; clear hl2 hr1 hr2 hr3 hlong hsx
      gi_wp2
      exact ⟨(((KeepsOthers.setCell _ _ _).trans (KeepsOthers.setCell _ _ _)).trans (KeepsOthers.setCell _ _ _)).from _, ⟨⟨⟨rfl, HL.out⟩, ((H1.out.set _).other (by omega) _).other (by omega) _, ((H2.out.other (by omega) _).set _).other (by omega) _, ((H3.out.other (by omega) _).other (by omega) _).set _⟩,
        ((hB.setCell (p := ⟨w.heap.size, 0, none⟩) (by simp) _).setCell (p := ⟨w.heap.size + 1, 0, none⟩) (by simp) _).setCell (p := ⟨w.heap.size + 1 + 1, 0, none⟩) (by simp; omega) _⟩⟩
    · have hx' : (nm x).size ≤ 64 := by rw [hsx]; omega
      have hl2 : longIn (pre ++ [x]) = false := by rw [longIn_snoc, hlong]; simp; omega
      have c1 := hv.cell
      have HL := Lib.hid hl2; have H1 := Lib.hid hr1; have H2 := Lib.hid hr2; have H3 := Lib.hid hr3; have HO := Lib.hid hlong; clear hl2 hr1 hr2 hr3 hlong hsx
      gi_wp2_with (gi_at_builtin; refine wpListIn_append_own _ rfl _ _ 48 rfl w.heap.size 9 i0 (.string ByteArray.empty) 1 16 Tryz.underlying48 HI.out HZ0.out HZ1.out HZ2.out rfl (by decide) _ _ _ rfl (hrow.alloc _) ⟨W.heap.size, 0, none⟩ 1 1 [enc x] rfl rfl (cell_one_new _ _ _) (by simp [enc, Value.oneCell']) (by unfold maxLen; omega) (by omega) (by simp; omega) ?_; intro v' w1 hown' hgrow _; obtain ⟨g', cap', rfl⟩ := ownsRow_succ hown'; obtain ⟨hv1, hv2, hr2, hk2, hb2⟩ := hv.appended (by decide) hrow hB.size (by omega) hown' hgrow; have hc1 := hv1.cell; have hf1 := hv1.frozen)
      exact ⟨hk2.from _, hb2, ⟨⟨⟨_, hv2, by simpa using hr2, HL.out⟩, ((H1.out.alloc _).kept hgrow (H1.out.not_row (by decide) hrow)).other (by omega) _, ((H2.out.alloc _).kept hgrow (H2.out.not_row (by decide) hrow)).other (by omega) _, ((H3.out.alloc _).kept hgrow (H3.out.not_row (by decide) hrow)).other (by omega) _⟩, hB.trans hb2⟩⟩
  case done =>
    rintro D ys W hD rfl ⟨⟨⟨v, hv, hrow, hlong⟩, hr1, hr2, hr3⟩, hB⟩ hK
    clear hcell hI0 hB0
    have hE : partsE p.data.toList = 0 := by unfold partsE; rw [HF.out]; simp [hlong]
    have hSX : ∀ W, Calls Tryz.prog 97 #[.string p, .string ⟨#[47]⟩] W fun e w' => e = .returned (.bool (p.data.toList.getLast? == some 47)) ∧ w' = W := by
      intro W; rw [← suffix_slash]; exact Tryz.strings_HasSuffix p ⟨#[47]⟩ W (by omega)
    have hPB : partsB p.data.toList = (!(names p.data.toList).isEmpty && (p.data.toList.getLast? == some 47)) := by unfold partsB; rw [if_pos hE]
    have hPL : partsL p.data.toList = names p.data.toList := by unfold partsL; rw [if_pos hE]
    obtain ⟨a, cap, rfl⟩ := ownsRow_len hrow
    have c1 := hr1.cell; have c2 := hr2.cell; have c3 := hr3.cell; have c4 := hv.cell
    have f1 := hr1.frozen; have f2 := hr2.frozen; have f3 := hr3.frozen
    have H1 := Lib.hid hr1; have H2 := Lib.hid hr2; have H3 := Lib.hid hr3; have HS := Lib.hid hSX; have HPB := Lib.hid hPB; have HPL := Lib.hid hPL; have HE := Lib.hid hE; have HK := Lib.hid hK
    clear hr1 hr2 hr3 hSX hPB hPL hE hlong hK
    generalize names p.data.toList = N at *
    generalize (p.data.toList.getLast? == some 47) = sl at *
    have hmx : Tryz.prog.follows .mixedOrders = true := by kernel_rfl
    obtain ⟨k, hkk⟩ : ∃ k, N.length = k := ⟨_, rfl⟩
    have HROW := Lib.hid hrow; clear hrow
    rw [hkk] at hnl hv c4 HROW
    by_cases hN : N = []
    · have hk : k = 0 := by rw [← hkk, hN]; rfl
      subst hk
      have hp2 : partsB p.data.toList = false := by rw [HPB.out, hN]; rfl
      have HPB2 := Lib.hid hp2
      have hrow2 : W.ownsRow w.heap.size 9 1 (.slice a 0 cap) N.length (N.map enc) := by rw [hkk]; exact HROW.out
      have HR2 := Lib.hid hrow2
      have HN := Lib.hid hN; have HKK := Lib.hid hkk
      clear hN hkk hp2 HPB hrow2
      gi_wp2
      refine wpIn_mono (Q := PQ w D { tmps := #[Value.string p, undef, Value.pointer (some { block := w.heap.size, off := 0 }),
          Value.pointer (some { block := w.heap.size + 1, off := 0 }),
          Value.pointer (some { block := w.heap.size + 1 + 1, off := 0 }), Value.int IntKind.i64 0,
          Value.pointer (some { block := w.heap.size + 1 + 1 + 1, off := 0 }), undef, Value.string p,
          Value.int IntKind.i64 0, Value.int IntKind.i64 0, Value.bool false, undef, Value.string p,
          Value.func (Fn.func 128) #[] #[Value.pointer (some { block := w.heap.size + 1 + 1 + 1 + 1, off := 0 })], undef,
          undef, undef, undef, undef, undef, undef, undef, .slice a 0 cap, .slice a 0 cap, .int .i64 0, .bool false, .bool false, undef, undef, .bool false], defers := [{ target := .collected D, args := #[] }] } (.slice a 0 cap) N (partsB p.data.toList)) ?_ ?_
      · first | (gi_region_with (refine ⟨trivial, ?_⟩; first | (gi_at_call 97; refine (callsIn_wide.2 (HS.out _)).mono ?_; rintro e w' ⟨rfl, rfl⟩) | skip)) | fail
        all_goals exact pq_close H1.out H2.out H3.out HR2.out HK.out hB HPB2.out
      · rintro e a1 w1 hq
        cases e <;> first | exact hq.elim | skip
        obtain ⟨rfl, ⟨hr1, hr2, hr3⟩, hrow, hK, hB1⟩ := hq
        have HPE := HE.out; have HPN := HPL.out
        gi_wp2
        refine ⟨by simp, .inl ⟨_, _, rfl, run_takeDeferred hK, ?_⟩⟩
        have hg := grownBy_putObj' w1 D (.deferred none)
        have hne : ∀ r, some D = some r → ∃ o : Obj, w1.heap[r]? = some o ∧ o.isCells = false := fun r e => by cases e; exact ⟨_, hK, rfl⟩
        have k1 := cell_kept hr1.cell hg hne
        have k2 := cell_kept hr2.cell hg hne
        have k3 := cell_kept hr3.cell hg hne
        refine ⟨.tuple #[.slice a 0 cap, .bool (partsB p.data.toList), .int .i64 0], by simp [results, Tryz.results77, go_sem, k1, k2, k3], .slice a 0 cap, by rw [HPE]; rfl, ?_, hB1.trans (belowK_b (w := w) (Nat.le_refl _) w1 D _ _ (by omega) hK rfl rfl)⟩
        rw [HPN]
        exact ownsRow_putObj hrow _ hK rfl
    · have hk : 0 < k := by rw [← hkk]; exact List.length_pos_iff.2 hN
      have hp2 : partsB p.data.toList = sl := by
        rw [HPB.out]
        cases e : N with
        | nil => exact absurd e hN
        | cons _ _ => rfl
      have HPB2 := Lib.hid hp2
      have hrow2 : W.ownsRow w.heap.size 9 1 (.slice a k cap) N.length (N.map enc) := by rw [hkk]; exact HROW.out
      have HR2 := Lib.hid hrow2
      have HN := Lib.hid hN; have HKK := Lib.hid hkk
      clear hN hkk hp2 HPB hrow2
      gi_wp2
      refine wpIn_mono (Q := PQ w D { tmps := #[Value.string p, undef, Value.pointer (some { block := w.heap.size, off := 0 }),
          Value.pointer (some { block := w.heap.size + 1, off := 0 }),
          Value.pointer (some { block := w.heap.size + 1 + 1, off := 0 }), Value.int IntKind.i64 0,
          Value.pointer (some { block := w.heap.size + 1 + 1 + 1, off := 0 }), undef, Value.string p,
          Value.int IntKind.i64 0, Value.int IntKind.i64 0, Value.bool false, undef, Value.string p,
          Value.func (Fn.func 128) #[] #[Value.pointer (some { block := w.heap.size + 1 + 1 + 1 + 1, off := 0 })], undef,
          undef, undef, undef, undef, undef, undef, undef, .slice a k cap, .slice a k cap, .int .i64 k, .bool true, .bool true, .string p, .bool sl, .bool sl], defers := [{ target := .collected D, args := #[] }] } (.slice a k cap) N (partsB p.data.toList)) ?_ ?_
      · first | (gi_region_with (refine ⟨trivial, ?_⟩; first | (gi_at_call 97; refine (callsIn_wide.2 (HS.out _)).mono ?_; rintro e w' ⟨rfl, rfl⟩) | skip)) | fail
        all_goals exact pq_close H1.out H2.out H3.out HR2.out HK.out hB HPB2.out
      · rintro e a1 w1 hq
        cases e <;> first | exact hq.elim | skip
        obtain ⟨rfl, ⟨hr1, hr2, hr3⟩, hrow, hK, hB1⟩ := hq
        have HPE := HE.out; have HPN := HPL.out
        gi_wp2
        refine ⟨by simp, .inl ⟨_, _, rfl, run_takeDeferred hK, ?_⟩⟩
        have hg := grownBy_putObj' w1 D (.deferred none)
        have hne : ∀ r, some D = some r → ∃ o : Obj, w1.heap[r]? = some o ∧ o.isCells = false := fun r e => by cases e; exact ⟨_, hK, rfl⟩
        have k1 := cell_kept hr1.cell hg hne
        have k2 := cell_kept hr2.cell hg hne
        have k3 := cell_kept hr3.cell hg hne
        refine ⟨.tuple #[.slice a k cap, .bool (partsB p.data.toList), .int .i64 0], by simp [results, Tryz.results77, go_sem, k1, k2, k3], .slice a k cap, by rw [HPE]; rfl, ?_, hB1.trans (belowK_b (w := w) (Nat.le_refl _) w1 D _ _ (by omega) hK rfl rfl)⟩
        rw [HPN]
        exact ownsRow_putObj hrow _ hK rfl
  case stop =>
    rintro D c pre W hD hpre ⟨⟨⟨rfl, hl⟩, hr1, hr2, hr3⟩, hB⟩ hK
    have hln : longIn (names p.data.toList) = true := by
      unfold longIn at hl ⊢
      rw [List.any_eq_true] at hl ⊢
      obtain ⟨x, hx, h⟩ := hl
      exact ⟨x, hpre.subset hx, h⟩
    have hE : partsE p.data.toList = 26 := by unfold partsE; rw [HF.out]; simp [hln]
    have hPB : partsB p.data.toList = false := by unfold partsB; rw [hE]; simp
    have hPL : partsL p.data.toList = [] := by unfold partsL; rw [hE]; simp
    have HE := Lib.hid hE; have HPB := Lib.hid hPB; have HPL := Lib.hid hPL; clear hE hPB hPL hln hpre hcell hI0 hB0
    gi_wp2
    refine ⟨by simp, .inl ⟨_, _, rfl, run_takeDeferred hK, ?_⟩⟩
    have hg := grownBy_putObj' W D (.deferred none)
    have hne : ∀ r, some D = some r → ∃ o : Obj, W.heap[r]? = some o ∧ o.isCells = false := fun r e => by cases e; exact ⟨_, hK, rfl⟩
    have k1 := cell_kept hr1.cell hg hne
    have k2 := cell_kept hr2.cell hg hne
    have k3 := cell_kept hr3.cell hg hne
    refine ⟨.tuple #[.slice none 0 0, .bool false, .int .i64 26], by simp [results, Tryz.results77, go_sem, k1, k2, k3], .slice none 0 0, ?_, ?_, hB.trans (belowK_b (w := w) (Nat.le_refl _) W D _ _ (by omega) hK rfl rfl)⟩
    · rw [HPB.out, HE.out]; rfl
    · rw [HPL.out]; exact World.ownsRow_nil _ _ _ _

open Go.RowKit
open PathM
open Go.RowKit
open PathM
theorem fault0 {l : Bs} (h : faultN l = 0) : l ≠ [] ∧ l.length ≤ 256 ∧ l.head? = some 47 ∧ l.contains 0 = false := by
  unfold faultN at h
  split at h
  · omega
  · rename_i h1
    split at h
    · omega
    · rename_i h2
      split at h
      · omega
      · rename_i h3
        refine ⟨h1, by omega, ?_, ?_⟩
        · exact Classical.byContradiction fun hh => h3 (.inl hh)
        · cases hc : l.contains 0 with
          | false => rfl
          | true => exact absurd (.inr hc) h3

open Go.RowKit Go.Shelf
open PathM
open Go.RowKit
open PathM
/-- path.Parts, whatever it is given. -/
theorem parts_any (p : ByteArray) (w : World) (hs : p.size ≤ maxLen) :
    Calls Tryz.prog 77 #[.string p] w (PartsPost p.data.toList w) := by
  by_cases hf : faultN p.data.toList = 0
  · have := (fault0 hf).2.1
    exact parts_loop p w (by rw [sizeD]; exact this) hf
  · refine (parts_fault p w hs hf).mono ?_
    rintro e w' ⟨he, hb⟩
    have hE : partsE p.data.toList = faultN p.data.toList := by unfold partsE; rw [if_pos hf]
    have hE0 : partsE p.data.toList ≠ 0 := by rw [hE]; exact hf
    refine ⟨.slice none 0 0, ?_, ?_, hb⟩
    · rw [he, hE]; unfold partsB; rw [if_neg hE0]
    · unfold partsL; rw [if_neg hE0]; exact World.ownsRow_nil _ _ _ _
end Go.Proofs.YtpicgkoclbpjpaaGreatDoor
end

section
namespace Go.Proofs.YtpicgkoclbpjpaaGreatDoor
open Go.RowKit Go.Sort Go.Lib
open PathM TreeM VtM
set_option linter.unusedVariables false
attribute [local go_sem] cell_rg
set_option maxRecDepth 100000 in
theorem clock_any (fb db mb : Nat) (f : Fs) (w : World) (h : Live w fb db mb f) :
    Calls Tryz.prog 15 #[.pointer (some ⟨fb, 0, none⟩)] w fun e w' => e = .returned (.int .i64 f.ck) ∧ w = w' := by
  have k1 := cell_blk h.files 1
  simp at k1
  have HN := Lib.hid (fnone_any fb db mb f w h)
  generalize f.ck = ck at *
  clear h
  go_enter Tryz.func15, Tryz.ntmps15
  go_wp2_with (go_at_call 42; refine HN.out.mono ?_; rintro e w1 ⟨rfl, rfl⟩)
  go_ret
  exact ⟨rfl, rfl⟩
set_option maxRecDepth 100000 in
theorem fnone_nil (w : World) :
    Calls Tryz.prog 42 #[.pointer none] w fun e w' => e = .returned (.bool true) ∧ w = w' := by
  go_enter Tryz.func42, Tryz.ntmps42
  go_wp2
  go_ret
  exact ⟨rfl, rfl⟩
set_option maxRecDepth 100000 in
theorem fnone_zero (fb : Nat) (w : World) (k0 : w.cell? ⟨fb, 0, none⟩ = some .nilIface) :
    Calls Tryz.prog 42 #[.pointer (some ⟨fb, 0, none⟩)] w fun e w' => e = .returned (.bool true) ∧ w = w' := by
  go_enter Tryz.func42, Tryz.ntmps42
  go_wp2
  go_ret
  exact ⟨rfl, rfl⟩
end Go.Proofs.YtpicgkoclbpjpaaGreatDoor
end

section
namespace Go.Proofs.YtpicgkoclbpjpaaGreatDoor
open Go.RowKit Go.Sort Go.Lib
open PathM TreeM VtM
set_option linter.unusedVariables false
attribute [local go_sem] cell_rg
/-- Files that are nobody's. -/
def Nobody (w : World) (p : Value) : Prop := p = .pointer none ∨ ∃ fb, fb < w.heap.size ∧ p = .pointer (some ⟨fb, 0, none⟩) ∧ w.cell? ⟨fb, 0, none⟩ = some .nilIface
theorem Nobody.below {w W : World} {p : Value} (h : Nobody w p) (hb : Below w.heap.size w W) : Nobody W p := by
  rcases h with h | ⟨fb, hl, h, hk⟩
  · exact .inl h
  · exact .inr ⟨fb, Nat.lt_of_lt_of_le hl hb.size, h, (hb.cell (p := ⟨fb, 0, none⟩) hl).trans hk⟩
theorem fnone_no {w : World} {p : Value} (h : Nobody w p) : Calls Tryz.prog 42 #[p] w fun e w' => e = .returned (.bool true) ∧ w = w' := by
  rcases h with rfl | ⟨fb, _, rfl, hk⟩
  · exact fnone_nil w
  · exact fnone_zero fb w hk
set_option maxRecDepth 100000 in
set_option maxHeartbeats 1000000 in
theorem clock_no  (w : World) (p : Value) (h : Nobody w p) :
    Calls Tryz.prog 15 #[p] w fun e w' => e = .returned (.int .i64 0) ∧ Below w.heap.size w w' := by
  have H0 := Lib.hid (fun W (hW : Below w.heap.size w W) => fnone_no (h.below hW))
  clear h
  go_enter Tryz.func15, Tryz.ntmps15
  go_wp2_with (first | (go_at_call 42; (first | refine (H0.out _ (Below.refl _ _)).mono ?_ | refine (H0.out _ ((Below.refl _ _).alloc (Nat.le_refl _) _)).mono ?_ | refine (H0.out _ (((Below.refl _ _).alloc (Nat.le_refl _) _).alloc (by simp) _)).mono ?_); rintro e w1 ⟨rfl, rfl⟩))
  go_ret
  first | exact ⟨rfl, Below.refl _ _⟩ | exact ⟨rfl, (Below.refl _ _).alloc (Nat.le_refl _) _⟩
set_option maxRecDepth 100000 in
set_option maxHeartbeats 1000000 in
theorem there_no (s : ByteArray) (fw : Bool) (w : World) (p : Value) (h : Nobody w p) :
    Calls Tryz.prog 40 #[p, .string s, .bool fw] w fun e w' => e = .returned (.tuple #[.agg #[.slice none 0 0, .string { data := #[] }, .int .i64 0, .bool false], .int .i64 3]) ∧ Below w.heap.size w w' := by
  have H0 := Lib.hid (fun W (hW : Below w.heap.size w W) => fnone_no (h.below hW))
  clear h
  go_enter Tryz.func40, Tryz.ntmps40
  go_wp2_with (first | (go_at_call 42; (first | refine (H0.out _ (Below.refl _ _)).mono ?_ | refine (H0.out _ ((Below.refl _ _).alloc (Nat.le_refl _) _)).mono ?_ | refine (H0.out _ (((Below.refl _ _).alloc (Nat.le_refl _) _).alloc (by simp) _)).mono ?_); rintro e w1 ⟨rfl, rfl⟩))
  refine bodyPost_ret (results_cell2 rfl _ _ _ 92 #[.slice none 0 0, .string { data := #[] }, .int .i64 0, .bool false] (0, 0) _ rfl (heap_alloc_new w _) Tryz.underlying92 rfl (by kernel_rfl)) rfl ?_
  first | exact ⟨rfl, Below.refl _ _⟩ | exact ⟨rfl, (Below.refl _ _).alloc (Nat.le_refl _) _⟩
set_option maxRecDepth 100000 in
set_option maxHeartbeats 1000000 in
theorem namedThere_no (s : ByteArray) (w : World) (p : Value) (h : Nobody w p) :
    Calls Tryz.prog 49 #[p, .string s] w fun e w' => e = .returned (.tuple #[.agg #[.slice none 0 0, .string { data := #[] }, .int .i64 0, .bool false], .int .i64 3]) ∧ Below w.heap.size w w' := by
  have H0 := Lib.hid (fun W (hW : Below w.heap.size w W) => fnone_no (h.below hW))
  clear h
  go_enter Tryz.func49, Tryz.ntmps49
  go_wp2_with (first | (go_at_call 42; (first | refine (H0.out _ (Below.refl _ _)).mono ?_ | refine (H0.out _ ((Below.refl _ _).alloc (Nat.le_refl _) _)).mono ?_ | refine (H0.out _ (((Below.refl _ _).alloc (Nat.le_refl _) _).alloc (by simp) _)).mono ?_); rintro e w1 ⟨rfl, rfl⟩))
  refine bodyPost_ret (results_cell2 rfl _ _ _ 92 #[.slice none 0 0, .string { data := #[] }, .int .i64 0, .bool false] (0, 0) _ rfl (heap_alloc_new w _) Tryz.underlying92 rfl (by kernel_rfl)) rfl ?_
  first | exact ⟨rfl, Below.refl _ _⟩ | exact ⟨rfl, (Below.refl _ _).alloc (Nat.le_refl _) _⟩
set_option maxRecDepth 100000 in
set_option maxHeartbeats 1000000 in
theorem mkdir_no (s : ByteArray) (m : Int) (w : World) (p : Value) (h : Nobody w p) :
    Calls Tryz.prog 19 #[p, .string s, .int .i64 m] w fun e w' => e = .returned (.int .i64 3) ∧ Below w.heap.size w w' := by
  have H0 := Lib.hid (fun W (hW : Below w.heap.size w W) => fnone_no (h.below hW))
  clear h
  go_enter Tryz.func19, Tryz.ntmps19
  go_wp2_with (first | (go_at_call 42; (first | refine (H0.out _ (Below.refl _ _)).mono ?_ | refine (H0.out _ ((Below.refl _ _).alloc (Nat.le_refl _) _)).mono ?_ | refine (H0.out _ (((Below.refl _ _).alloc (Nat.le_refl _) _).alloc (by simp) _)).mono ?_); rintro e w1 ⟨rfl, rfl⟩))
  go_ret
  first | exact ⟨rfl, Below.refl _ _⟩ | exact ⟨rfl, (Below.refl _ _).alloc (Nat.le_refl _) _⟩
set_option maxRecDepth 100000 in
set_option maxHeartbeats 1000000 in
theorem symlink_no (t s : ByteArray) (w : World) (p : Value) (h : Nobody w p) :
    Calls Tryz.prog 17 #[p, .string t, .string s] w fun e w' => e = .returned (.int .i64 3) ∧ Below w.heap.size w w' := by
  have H0 := Lib.hid (fun W (hW : Below w.heap.size w W) => fnone_no (h.below hW))
  clear h
  go_enter Tryz.func17, Tryz.ntmps17
  go_wp2_with (first | (go_at_call 42; (first | refine (H0.out _ (Below.refl _ _)).mono ?_ | refine (H0.out _ ((Below.refl _ _).alloc (Nat.le_refl _) _)).mono ?_ | refine (H0.out _ (((Below.refl _ _).alloc (Nat.le_refl _) _).alloc (by simp) _)).mono ?_); rintro e w1 ⟨rfl, rfl⟩))
  go_ret
  first | exact ⟨rfl, Below.refl _ _⟩ | exact ⟨rfl, (Below.refl _ _).alloc (Nat.le_refl _) _⟩
set_option maxRecDepth 100000 in
set_option maxHeartbeats 1000000 in
theorem write_no (s t : ByteArray) (m : Int) (w : World) (p : Value) (h : Nobody w p) :
    Calls Tryz.prog 13 #[p, .string s, .string t, .int .i64 m] w fun e w' => e = .returned (.int .i64 3) ∧ Below w.heap.size w w' := by
  have H0 := Lib.hid (fun W (hW : Below w.heap.size w W) => fnone_no (h.below hW))
  clear h
  go_enter Tryz.func13, Tryz.ntmps13
  go_wp2_with (first | (go_at_call 42; (first | refine (H0.out _ (Below.refl _ _)).mono ?_ | refine (H0.out _ ((Below.refl _ _).alloc (Nat.le_refl _) _)).mono ?_ | refine (H0.out _ (((Below.refl _ _).alloc (Nat.le_refl _) _).alloc (by simp) _)).mono ?_); rintro e w1 ⟨rfl, rfl⟩))
  go_ret
  first | exact ⟨rfl, Below.refl _ _⟩ | exact ⟨rfl, (Below.refl _ _).alloc (Nat.le_refl _) _⟩
set_option maxRecDepth 100000 in
set_option maxHeartbeats 1000000 in
theorem chmod_no (s : ByteArray) (m : Int) (w : World) (p : Value) (h : Nobody w p) :
    Calls Tryz.prog 73 #[p, .string s, .int .i64 m] w fun e w' => e = .returned (.int .i64 3) ∧ Below w.heap.size w w' := by
  have H0 := Lib.hid (fun W (hW : Below w.heap.size w W) => fnone_no (h.below hW))
  clear h
  go_enter Tryz.func73, Tryz.ntmps73
  go_wp2_with (first | (go_at_call 42; (first | refine (H0.out _ (Below.refl _ _)).mono ?_ | refine (H0.out _ ((Below.refl _ _).alloc (Nat.le_refl _) _)).mono ?_ | refine (H0.out _ (((Below.refl _ _).alloc (Nat.le_refl _) _).alloc (by simp) _)).mono ?_); rintro e w1 ⟨rfl, rfl⟩))
  go_ret
  first | exact ⟨rfl, Below.refl _ _⟩ | exact ⟨rfl, (Below.refl _ _).alloc (Nat.le_refl _) _⟩
set_option maxRecDepth 100000 in
set_option maxHeartbeats 1000000 in
theorem touch_no (s : ByteArray) (w : World) (p : Value) (h : Nobody w p) :
    Calls Tryz.prog 74 #[p, .string s] w fun e w' => e = .returned (.int .i64 3) ∧ Below w.heap.size w w' := by
  have H0 := Lib.hid (fun W (hW : Below w.heap.size w W) => there_no s true W p (h.below hW))
  clear h
  go_enter Tryz.func74, Tryz.ntmps74
  go_wp2_with (first | (go_at_call 40; (first | refine (H0.out _ (Below.refl _ _)).mono ?_ | refine (H0.out _ ((Below.refl _ _).alloc (Nat.le_refl _) _)).mono ?_ | refine (H0.out _ (((Below.refl _ _).alloc (Nat.le_refl _) _).alloc (by simp) _)).mono ?_); rintro e w1 ⟨rfl, hb1⟩; have HB1 := Lib.hid hb1; clear hb1))
  go_ret
  first | exact ⟨rfl, HB1.out⟩ | exact ⟨rfl, HB1.out.alloc HB1.out.size _⟩ | exact ⟨rfl, ((Below.refl _ _).alloc (Nat.le_refl _) _).trans (HB1.out.mono (by simp [World.size_alloc]))⟩ | exact ⟨rfl, by trace_state; exact HB1.out⟩
set_option maxRecDepth 100000 in
set_option maxHeartbeats 1000000 in
theorem stat_no (s : ByteArray) (fw : Bool) (w : World) (p : Value) (h : Nobody w p) :
    Calls Tryz.prog 14 #[p, .string s, .bool fw] w fun e w' => e = .returned (.tuple #[.agg #[.int .i64 0, .int .i64 0, .int .i64 0, .int .i64 0, .int .i64 0, .int .i64 0], .int .i64 3]) ∧ Below w.heap.size w w' := by
  have H0 := Lib.hid (fun W (hW : Below w.heap.size w W) => there_no s fw W p (h.below hW))
  clear h
  go_enter Tryz.func14, Tryz.ntmps14
  go_wp2_with (first | (go_at_call 40; (first | refine (H0.out _ (Below.refl _ _)).mono ?_ | refine (H0.out _ ((Below.refl _ _).alloc (Nat.le_refl _) _)).mono ?_ | refine (H0.out _ (((Below.refl _ _).alloc (Nat.le_refl _) _).alloc (by simp) _)).mono ?_); rintro e w1 ⟨rfl, hb1⟩; have RB2 := (heap_alloc_old w1 (.cells #[.slice none 0 0, .string { data := #[] }, .int .i64 0, .bool false] 92) (Nat.lt_of_lt_of_le (by simp) hb1.size)).trans ((hb1.block w.heap.size (by simp)).trans (heap_alloc_new w (.cells #[.int .i64 0, .int .i64 0, .int .i64 0, .int .i64 0, .int .i64 0, .int .i64 0] 39))); have e0 := froz_blk RB2 0; have q0 := cell_blk RB2 0; have e1 := froz_blk RB2 1; have q1 := cell_blk RB2 1; have e2 := froz_blk RB2 2; have q2 := cell_blk RB2 2; have e3 := froz_blk RB2 3; have q3 := cell_blk RB2 3; have e4 := froz_blk RB2 4; have q4 := cell_blk RB2 4; have e5 := froz_blk RB2 5; have q5 := cell_blk RB2 5; simp at q0 q1 q2 q3 q4 q5; have HRB2 := Lib.hid RB2; clear RB2; have HB1 := Lib.hid hb1; clear hb1))
  refine bodyPost_ret (results_cell2 rfl _ _ _ 39 #[.int .i64 0, .int .i64 0, .int .i64 0, .int .i64 0, .int .i64 0, .int .i64 0] (0, 0) _ rfl (by have h := (set_blk (j := 5) (set_blk (j := 4) (set_blk (j := 3) (set_blk (j := 2) (set_blk (j := 1) (set_blk (j := 0) HRB2.out (.int .i64 0)) (.int .i64 0)) (.int .i64 0)) (.int .i64 0)) (.int .i64 0)) (.int .i64 0)); exact h) Tryz.underlying39 rfl (by kernel_rfl)) rfl ?_
  have hb := ((Below.refl w.heap.size w).alloc (Nat.le_refl _) (.cells #[.int .i64 0, .int .i64 0, .int .i64 0, .int .i64 0, .int .i64 0, .int .i64 0] 39)).trans (HB1.out.mono (by simp))
  exact ⟨rfl, ((((((hb.alloc hb.size _).setCell (Nat.le_refl _) _).setCell (Nat.le_refl _) _).setCell (Nat.le_refl _) _).setCell (Nat.le_refl _) _).setCell (Nat.le_refl _) _).setCell (Nat.le_refl _) _⟩
set_option maxRecDepth 100000 in
set_option maxHeartbeats 1000000 in
theorem read_no (s : ByteArray) (w : World) (p : Value) (h : Nobody w p) :
    Calls Tryz.prog 12 #[p, .string s] w fun e w' => e = .returned (.tuple #[.string { data := #[] }, .int .i64 3]) ∧ Below w.heap.size w w' := by
  have H0 := Lib.hid (fun W (hW : Below w.heap.size w W) => there_no s true W p (h.below hW))
  clear h
  go_enter Tryz.func12, Tryz.ntmps12
  go_wp2_with (first | (go_at_call 40; (first | refine (H0.out _ (Below.refl _ _)).mono ?_ | refine (H0.out _ ((Below.refl _ _).alloc (Nat.le_refl _) _)).mono ?_ | refine (H0.out _ (((Below.refl _ _).alloc (Nat.le_refl _) _).alloc (by simp) _)).mono ?_); rintro e w1 ⟨rfl, hb1⟩; have HB1 := Lib.hid hb1; clear hb1))
  go_ret2
  first | exact ⟨rfl, HB1.out⟩ | exact ⟨rfl, HB1.out.alloc HB1.out.size _⟩ | exact ⟨rfl, ((Below.refl _ _).alloc (Nat.le_refl _) _).trans (HB1.out.mono (by simp [World.size_alloc]))⟩ | exact ⟨rfl, by trace_state; exact HB1.out⟩
set_option maxRecDepth 100000 in
set_option maxHeartbeats 1000000 in
theorem target_no (s : ByteArray) (w : World) (p : Value) (h : Nobody w p) :
    Calls Tryz.prog 34 #[p, .string s] w fun e w' => e = .returned (.tuple #[.string { data := #[] }, .int .i64 3]) ∧ Below w.heap.size w w' := by
  have H0 := Lib.hid (fun W (hW : Below w.heap.size w W) => there_no s false W p (h.below hW))
  clear h
  go_enter Tryz.func34, Tryz.ntmps34
  go_wp2_with (first | (go_at_call 40; (first | refine (H0.out _ (Below.refl _ _)).mono ?_ | refine (H0.out _ ((Below.refl _ _).alloc (Nat.le_refl _) _)).mono ?_ | refine (H0.out _ (((Below.refl _ _).alloc (Nat.le_refl _) _).alloc (by simp) _)).mono ?_); rintro e w1 ⟨rfl, hb1⟩; have HB1 := Lib.hid hb1; clear hb1))
  go_ret2
  first | exact ⟨rfl, HB1.out⟩ | exact ⟨rfl, HB1.out.alloc HB1.out.size _⟩ | exact ⟨rfl, ((Below.refl _ _).alloc (Nat.le_refl _) _).trans (HB1.out.mono (by simp [World.size_alloc]))⟩ | exact ⟨rfl, by trace_state; exact HB1.out⟩
set_option maxRecDepth 100000 in
set_option maxHeartbeats 1000000 in
theorem list_no (s : ByteArray) (w : World) (p : Value) (h : Nobody w p) :
    Calls Tryz.prog 20 #[p, .string s] w fun e w' => e = .returned (.tuple #[.slice none 0 0, .int .i64 3]) ∧ Below w.heap.size w w' := by
  have H0 := Lib.hid (fun W (hW : Below w.heap.size w W) => there_no s true W p (h.below hW))
  clear h
  go_enter Tryz.func20, Tryz.ntmps20
  go_wp2_with (first | (go_at_call 40; (first | refine (H0.out _ (Below.refl _ _)).mono ?_ | refine (H0.out _ ((Below.refl _ _).alloc (Nat.le_refl _) _)).mono ?_ | refine (H0.out _ (((Below.refl _ _).alloc (Nat.le_refl _) _).alloc (by simp) _)).mono ?_); rintro e w1 ⟨rfl, hb1⟩; have HB1 := Lib.hid hb1; clear hb1))
  go_ret2
  first | exact ⟨rfl, HB1.out⟩ | exact ⟨rfl, HB1.out.alloc HB1.out.size _⟩ | exact ⟨rfl, ((Below.refl _ _).alloc (Nat.le_refl _) _).trans (HB1.out.mono (by simp [World.size_alloc]))⟩ | exact ⟨rfl, by trace_state; exact HB1.out⟩
set_option maxRecDepth 100000 in
set_option maxHeartbeats 1000000 in
theorem link_no (s t : ByteArray) (w : World) (p : Value) (h : Nobody w p) :
    Calls Tryz.prog 22 #[p, .string s, .string t] w fun e w' => e = .returned (.int .i64 3) ∧ Below w.heap.size w w' := by
  have H0 := Lib.hid (fun W (hW : Below w.heap.size w W) => there_no s false W p (h.below hW))
  clear h
  go_enter Tryz.func22, Tryz.ntmps22
  go_wp2_with (first | (go_at_call 40; (first | refine (H0.out _ (Below.refl _ _)).mono ?_ | refine (H0.out _ ((Below.refl _ _).alloc (Nat.le_refl _) _)).mono ?_ | refine (H0.out _ (((Below.refl _ _).alloc (Nat.le_refl _) _).alloc (by simp) _)).mono ?_); rintro e w1 ⟨rfl, hb1⟩; have HB1 := Lib.hid hb1; clear hb1))
  go_ret
  first | exact ⟨rfl, HB1.out⟩ | exact ⟨rfl, HB1.out.alloc HB1.out.size _⟩ | exact ⟨rfl, ((Below.refl _ _).alloc (Nat.le_refl _) _).trans (HB1.out.mono (by simp [World.size_alloc]))⟩ | exact ⟨rfl, by trace_state; exact HB1.out⟩
set_option maxRecDepth 100000 in
set_option maxHeartbeats 1000000 in
theorem rmdir_no (s : ByteArray) (w : World) (p : Value) (h : Nobody w p) :
    Calls Tryz.prog 21 #[p, .string s] w fun e w' => e = .returned (.int .i64 3) ∧ Below w.heap.size w w' := by
  have H0 := Lib.hid (fun W (hW : Below w.heap.size w W) => namedThere_no s W p (h.below hW))
  clear h
  go_enter Tryz.func21, Tryz.ntmps21
  go_wp2_with (first | (go_at_call 49; (first | refine (H0.out _ (Below.refl _ _)).mono ?_ | refine (H0.out _ ((Below.refl _ _).alloc (Nat.le_refl _) _)).mono ?_ | refine (H0.out _ (((Below.refl _ _).alloc (Nat.le_refl _) _).alloc (by simp) _)).mono ?_); rintro e w1 ⟨rfl, hb1⟩; have HB1 := Lib.hid hb1; clear hb1))
  go_ret
  first | exact ⟨rfl, HB1.out⟩ | exact ⟨rfl, HB1.out.alloc HB1.out.size _⟩ | exact ⟨rfl, ((Below.refl _ _).alloc (Nat.le_refl _) _).trans (HB1.out.mono (by simp [World.size_alloc]))⟩ | exact ⟨rfl, by trace_state; exact HB1.out⟩
set_option maxRecDepth 100000 in
set_option maxHeartbeats 1000000 in
theorem unlink_no (s : ByteArray) (w : World) (p : Value) (h : Nobody w p) :
    Calls Tryz.prog 18 #[p, .string s] w fun e w' => e = .returned (.int .i64 3) ∧ Below w.heap.size w w' := by
  have H0 := Lib.hid (fun W (hW : Below w.heap.size w W) => namedThere_no s W p (h.below hW))
  clear h
  go_enter Tryz.func18, Tryz.ntmps18
  go_wp2_with (first | (go_at_call 49; (first | refine (H0.out _ (Below.refl _ _)).mono ?_ | refine (H0.out _ ((Below.refl _ _).alloc (Nat.le_refl _) _)).mono ?_ | refine (H0.out _ (((Below.refl _ _).alloc (Nat.le_refl _) _).alloc (by simp) _)).mono ?_); rintro e w1 ⟨rfl, hb1⟩; have HB1 := Lib.hid hb1; clear hb1))
  go_ret
  first | exact ⟨rfl, HB1.out⟩ | exact ⟨rfl, HB1.out.alloc HB1.out.size _⟩ | exact ⟨rfl, ((Below.refl _ _).alloc (Nat.le_refl _) _).trans (HB1.out.mono (by simp [World.size_alloc]))⟩ | exact ⟨rfl, by trace_state; exact HB1.out⟩
set_option maxRecDepth 100000 in
set_option maxHeartbeats 1000000 in
theorem rename_no (s t : ByteArray) (w : World) (p : Value) (h : Nobody w p) :
    Calls Tryz.prog 24 #[p, .string s, .string t] w fun e w' => e = .returned (.int .i64 3) ∧ Below w.heap.size w w' := by
  have H0 := Lib.hid (fun W (hW : Below w.heap.size w W) => namedThere_no s W p (h.below hW))
  clear h
  go_enter Tryz.func24, Tryz.ntmps24
  go_wp2_with (first | (go_at_call 49; (first | refine (H0.out _ (Below.refl _ _)).mono ?_ | refine (H0.out _ ((Below.refl _ _).alloc (Nat.le_refl _) _)).mono ?_ | refine (H0.out _ (((Below.refl _ _).alloc (Nat.le_refl _) _).alloc (by simp) _)).mono ?_); rintro e w1 ⟨rfl, hb1⟩; have HB1 := Lib.hid hb1; clear hb1))
  go_ret
  first | exact ⟨rfl, HB1.out⟩ | exact ⟨rfl, HB1.out.alloc HB1.out.size _⟩ | exact ⟨rfl, ((Below.refl _ _).alloc (Nat.le_refl _) _).trans (HB1.out.mono (by simp [World.size_alloc]))⟩ | exact ⟨rfl, by trace_state; exact HB1.out⟩
end Go.Proofs.YtpicgkoclbpjpaaGreatDoor
end

section
namespace Go.Proofs.YtpicgkoclbpjpaaGreatDoor
open Go.RowKit Go.Sort Go.Lib Go.Shelf
open PathM TreeM VtM
set_option linter.unusedVariables false
set_option maxRecDepth 100000 in
theorem thruLong_any (s : ByteArray) (w : World) :
    Calls Tryz.prog 133 #[.string s] w fun e w' => e = .returned (.bool (decide ((64 : Int) < s.size))) ∧ w = w' := by
  go_enter Tryz.func133, Tryz.ntmps133
  go_wp2
  go_ret
  exact ⟨rfl, rfl⟩
set_option maxRecDepth 100000 in
theorem thruNone_any (s : ByteArray) (w : World) :
    Calls Tryz.prog 135 #[.string s] w fun e w' => e = .returned (.bool s.toList.isEmpty) ∧ w = w' := by
  go_enter Tryz.func135, Tryz.ntmps135
  go_wp2
  go_ret
  exact ⟨rfl, rfl⟩
/-- A name as a value. -/
def encN (b : Bs) : Value := .string (nm b)
theorem oneName : OneCell encN := fun _ => rfl
theorem predLong (w : World) : PredAt Tryz.prog 133 #[] encN (fun b => decide (64 < b.length)) w := by
  intro W b _
  refine (thruLong_any (nm b) W).mono ?_
  rintro e w1 ⟨rfl, rfl⟩
  refine ⟨?_, 0, (World.drewN_zero _).symm⟩
  rw [sizeD]
  congr 2
  have : (nm b).data.toList = b := rfl
  rw [this]
  exact decide_eq_decide.2 (by omega)
theorem noneGives (W : World) (b : Bs) : FnGives Tryz.prog 135 #[] #[encN b] (.bool b.isEmpty) W := by
  refine (thruNone_any (nm b) W).mono ?_
  rintro e w1 ⟨rfl, rfl⟩
  refine ⟨?_, 0, (World.drewN_zero _).symm⟩
  rw [listD]
  rfl
theorem predNone (w : World) : PredAt Tryz.prog 135 #[] encN (fun b => b.isEmpty) w := fun W b _ => noneGives W b
theorem overNone (blk off size : Nat) (w : World) : PredOver Tryz.prog 135 #[] encN (fun b => b.isEmpty) blk off size w := fun _ _ _ b _ => noneGives _ b
theorem entLong : ∀ args w, (callFunc 133 args).run Tryz.prog w = .ok (.enter 133 args) w := enters_of Tryz.func133 (by kernel_rfl) rfl
theorem entNone : ∀ args w, (callFunc 135 args).run Tryz.prog w = .ok (.enter 135 args) w := enters_of Tryz.func135 (by kernel_rfl) rfl
/-- Is a name of a link's way too long? -/
theorem longNames_any (b n c : Nat) (off : Nat) (l : List Bs) (w : World) (hn : l.length = n) (hbig : n ≤ maxLen) (hc : ∀ j, j < l.length → w.cell? ⟨b, off + j, none⟩ = some (encN l[j]!)) :
    Calls Tryz.prog 132 #[.slice (some ⟨b, off, none⟩) n c, .func (.func 133) #[] #[]] w fun e w' => e = .returned (.bool (l.any fun b => decide (64 < b.length))) ∧ ∃ q, w' = w.drewN q := by
  refine (Tryz.slices_ContainsFunc encN _ _ #[] entLong b off n c l w (predLong w) (by omega) (by unfold maxLen at hbig; omega) hc).mono ?_
  rintro e w1 ⟨rfl, q, rfl⟩
  refine ⟨?_, q, rfl⟩
  rw [List.take_of_length_le (by omega)]
/-- The names of a link's way without the empty ones. -/
theorem dropNames_any (b n c off : Nat) (l : List Bs) (w : World) (hn : l.length = n) (hbig : n ≤ maxLen) (hcap : n ≤ c) (hH : Holds encN w b off l.toArray) :
    Calls Tryz.prog 134 #[.slice (some ⟨b, off, none⟩) n c, .func (.func 135) #[] #[]] w fun e w' => e = .returned (.slice (some ⟨b, off, none⟩) (l.filter fun x : Bs => !x.isEmpty).length c) ∧ ∃ q, w' = putRow encN (Sort.ahead w q) b off ((l.filter fun x : Bs => !x.isEmpty) ++ List.replicate (n - (l.filter fun x : Bs => !x.isEmpty).length) []).toArray := by
  subst hn
  have := Tryz.slices_DeleteFunc encN oneName (fun b => b.isEmpty) _ #[] entNone [] (fun w => by kernel_rfl) b off c l.toArray w (predNone w) (overNone _ _ _ w) hH (by unfold maxLen at hbig; simp; omega) (by simpa using hcap)
  simpa using this
end Go.Proofs.YtpicgkoclbpjpaaGreatDoor
end

section
namespace Go.Proofs.YtpicgkoclbpjpaaGreatDoor
open Go.RowKit Go.Sort Go.Lib Go.Shelf
open PathM TreeM VtM
set_option linter.unusedVariables false
theorem index_cons (c : UInt8) (r : Bs) : index (c :: r) [47] = if c = 47 then 0 else if index r [47] = -1 then -1 else index r [47] + 1 := by
  simp only [index, List.isPrefixOf, Bool.and_true, beq_iff_eq]
  by_cases h : c = 47
  · simp [h]
  · have h2 : ¬ (47 = c) := fun e => h e.symm
    simp [h, h2]
theorem splitK_btw : ∀ (l : Bs) (k : Nat), l.count 47 ≤ k → splitK [47] 0 k l = btw l
  | [], k, _ => by
    cases k with
    | zero => rfl
    | succ k => rfl
  | c :: r, 0, h => by
    have hc : c ≠ 47 := by rintro rfl; simp at h
    have ih := splitK_btw r 0 (by rw [List.count_cons_of_ne hc] at h; exact h)
    rw [btw, if_neg hc, ← ih]
    rfl
  | c :: r, k + 1, h => by
    by_cases hc : c = 47
    · subst hc
      have ih := splitK_btw r k (by rw [List.count_cons_self] at h; omega)
      rw [btw, if_pos rfl, ← ih, splitK, index_cons, if_pos rfl]
      simp
    · have ih := splitK_btw r (k + 1) (by rw [List.count_cons_of_ne hc] at h; exact h)
      have hg := index_ge r [47]
      rw [btw, if_neg hc, ← ih, splitK, splitK, index_cons, if_neg hc]
      by_cases hi : index r [47] = -1
      · simp [hi]
      · obtain ⟨i, hi2⟩ : ∃ i : Nat, index r [47] = i := ⟨(index r [47]).toNat, by omega⟩
        rw [if_neg hi, hi2]
        have e1 : (((i : Int) + 1 == -1) = false) := by simp; omega
        have e2 : (((i : Int) == -1) = false) := by simp
        have e3 : ((i : Int) + 1).toNat = i + 1 := by omega
        rw [e1, e2]
        simp [e3]
theorem countFrom_ge : ∀ (l : Bs) (f : Nat), l.length < f → l.count 47 ≤ countFrom [47] f l
  | [], f, _ => by simp
  | c :: r, 0, h => by simp at h
  | c :: r, f + 1, h => by
    have hl : r.length < f := by simpa using h
    by_cases hc : c = 47
    · subst hc
      have ih := countFrom_ge r f hl
      rw [List.count_cons_self, countFrom, index_cons, if_pos rfl]
      simp
      omega
    · have ih := countFrom_ge r (f + 1) (by omega)
      have hg := index_ge r [47]
      rw [List.count_cons_of_ne hc]
      refine Nat.le_trans ih ?_
      rw [countFrom, countFrom, index_cons, if_neg hc]
      by_cases hi : index r [47] = -1
      · simp [hi]
      · obtain ⟨i, hi2⟩ : ∃ i : Nat, index r [47] = i := ⟨(index r [47]).toNat, by omega⟩
        rw [if_neg hi, hi2]
        have e1 : (((i : Int) + 1 == -1) = false) := by simp; omega
        have e2 : (((i : Int) == -1) = false) := by simp
        have e3 : ((i : Int) + 1).toNat = i + 1 := by omega
        rw [e1, e2]
        simp [e3]
/-- What strings.Split hands back at one slash. -/
theorem split_btw (s sep : ByteArray) (hs : sep.data.toList = [47]) : (splitB sep 0 (countB s sep) s).map Value.string = (btw s.data.toList).map encN := by
  have h := splitB_data sep 0 (countB s sep) s
  rw [hs, splitK_btw _ _ (by unfold countB count; rw [hs]; exact countFrom_ge _ _ (Nat.lt_succ_self _))] at h
  rw [← h, List.map_map]
  refine List.map_congr_left fun b _ => ?_
  rfl
theorem count_btw (s sep : ByteArray) (hs : sep.data.toList = [47]) : countB s sep + 1 = (btw s.data.toList).length := by
  have h1 := splitB_all sep (by rw [size_eq, hs]; decide) 0 _ s rfl
  have h2 := congrArg List.length (split_btw s sep hs)
  simp only [List.length_map] at h2
  omega
/-- The names between a link's slashes, in a block of the call's own; the library's own variable (how long what it looks for may be) holds an int. -/
theorem split_any (s sep : ByteArray) (hs : sep.data.toList = [47]) (w : World) (hn : s.size < 4294967281) (hm : ∃ m, w.cell? ⟨0, 0, none⟩ = some (.int .i64 m)) :
    Calls Tryz.prog 131 #[.string s, .string sep] w fun e w' => e = .returned (.slice (some ⟨w.heap.size, 0, none⟩) (btw s.data.toList).length (btw s.data.toList).length) ∧ w' = w.alloc (.cells ((btw s.data.toList).map encN).toArray 9) := by
  obtain ⟨m, hm⟩ := hm
  have h := Tryz.strings_Split s sep m w hn hm (by rw [size_eq, hs]; decide)
  rw [count_btw s sep hs, split_btw s sep hs] at h
  exact h
end Go.Proofs.YtpicgkoclbpjpaaGreatDoor
end

section
namespace Go.Proofs.YtpicgkoclbpjpaaGreatDoor
open Go.RowKit Go.Sort Go.Lib Go.Shelf
open PathM TreeM VtM
set_option linter.unusedVariables false
attribute [local go_sem] cell_rg
set_option maxRecDepth 100000 in
set_option maxHeartbeats 1000000 in
theorem through_loop (wb db : Nat) (s : WS) (fw : Bool) (dv lv : Value) (w : World) (hw : WalkIn w wb db s fw dv lv) (h8 : 8 < s.hops + 1) (hh : s.hops ≤ 1000) :
    Calls Tryz.prog 101 #[.pointer (some ⟨wb, 0, none⟩)] w fun e w' => e = .returned (.int .i64 25) ∧ Kept (fun k => k = wb) w w' := by
  have k8 := cell_blk hw.blk 8
  have f8 := froz_blk hw.blk 8
  simp at k8
  generalize s.hops = n at *
  have q : (8 : Int) < (n : Int) + 1 := by omega
  clear hw h8
  go_enter Tryz.func101, Tryz.ntmps101
  go_wp2
  go_ret
  exact ⟨rfl, Kept.setCell _ _ rfl⟩
end Go.Proofs.YtpicgkoclbpjpaaGreatDoor
end

section
namespace Go.Proofs.YtpicgkoclbpjpaaGreatDoor
open Go.RowKit Go.Sort Go.Lib Go.Shelf
open PathM TreeM VtM
set_option linter.unusedVariables false
attribute [local go_sem] cell_rg
theorem names_cells (w : World) (l : List Bs) (t : TypeId) : ∀ j, j < l.length → (w.alloc (.cells (l.map encN).toArray t)).cell? ⟨w.heap.size, 0 + j, none⟩ = some (encN l[j]!) := by
  intro j hj
  have h := cell_blk (heap_alloc_new w (.cells (l.map encN).toArray t)) (0 + j)
  rw [h]
  simp [hj]
theorem field_data (a0 a1 a2 a3 a4 : Int) (d : ByteArray) (w : World) : Sem.run Tryz.prog (Instr.field 64 (.agg #[.int .i64 a0, .int .i64 a1, .int .i64 a2, .int .i64 a3, .int .i64 a4, .string d, .slice none 0 0]) 5) w = .ok (.string d) w := by kernel_rfl
set_option maxRecDepth 100000 in
set_option maxHeartbeats 1000000 in
theorem through_long (wb db mb : Nat) (t : Tr) (ev : Int → Value) (s : WS) (fw : Bool) (dv lv : Value) (w : World) (hw : WalkIn w wb db s fw dv lv) (h8 : ¬ 8 < s.hops + 1) (hid : i64 s.node) (hlong : ((btw (nod t.nodes s.node).data).any fun b => decide (64 < b.length)) = true) (hlen : (nod t.nodes s.node).data.length < 4294967281) (hbt : (btw (nod t.nodes s.node).data).length ≤ maxLen)
    (hD : ∀ W, Kept (fun k => k = wb) w W → DiskIn W db mb t ev) (hM : ∀ W, Kept (fun k => k = wb) w W → ∃ m, W.cell? ⟨0, 0, none⟩ = some (.int .i64 m)) :
    Calls Tryz.prog 101 #[.pointer (some ⟨wb, 0, none⟩)] w fun e w' => e = .returned (.int .i64 26) ∧ Kept (fun k => k = wb) w w' := by
  have k0 := cell_blk hw.blk 0
  have k3 := cell_blk hw.blk 3
  have k8 := cell_blk hw.blk 8
  have f8 := froz_blk hw.blk 8
  simp at k0 k3 k8
  have RB1 := set_blk (j := 8) hw.blk (.int .i64 ((s.hops : Int) + 1))
  have g0 := cell_blk RB1 0
  have g3 := cell_blk RB1 3
  simp at g0 g3
  have hlt := blk_lt RB1
  clear RB1
  have hm := method_Node
  have hfd := field_data
  have HN := Lib.hid (fun W (hW : Kept (fun k => k = wb) w W) => dnode_any db mb t ev s.node W (hD W hW) hid)
  have HS := Lib.hid (fun (a b : ByteArray) (hb : b.data.toList = [47]) (ha : a.size < 4294967281) W (hW : Kept (fun k => k = wb) w W) => split_any a b hb W ha (hM W hW))
  have HLEN := Lib.hid hlen
  have HLONG := Lib.hid hlong
  have HBT := Lib.hid hbt
  generalize nod t.nodes s.node = nd at *
  generalize s.node = id at *
  generalize s.hops = n at *
  have q : ¬ (8 : Int) < (n : Int) + 1 := by omega
  have q2 : (n : Int) ≤ 8 := by omega
  clear hw h8 hid hD hM hlong hlen hbt
  unfold ndV at HN
  go_enter Tryz.func101, Tryz.ntmps101
  go_wp2
  have HK0 : Hid (Kept (fun k => k = wb) w (w.setCell ⟨wb, 8, none⟩ (.int .i64 ((n : Int) + 1)))) := Lib.hid (Kept.setCell _ _ rfl)
  generalize w.setCell ⟨wb, 8, none⟩ (.int .i64 ((n : Int) + 1)) = W1 at *
  clear k0 k3 k8 f8
  refine wp_region_quiet_below (by kernel_rfl) (by kernel_rfl) ?_
  repeat (first | go_big_quiet_step (((go_at_call 202; exact Calls.regrown_of (HN.out _ (HK0.out.trans (kept_of_below (below_regrown _ _ _))))))) | quiet_step (((go_at_call 202; exact Calls.regrown_of (HN.out _ (HK0.out.trans (kept_of_below (below_regrown _ _ _))))))))
  refine wpQuiet_nil ?_
  intro _ hw'
  obtain ⟨⟨dq, osq⟩, hw''⟩ := hw'
  subst hw''
  have HK1 : Hid (Kept (fun k => k = wb) w (grow (redrawn W1 dq) osq)) := Lib.hid (HK0.out.trans (kept_of_below (below_regrown _ _ _)))
  generalize grow (redrawn W1 dq) osq = W2 at *
  clear g0 g3 hlt
  go_wp2_with (first
    | (go_at_call 131; refine (HS.out _ _ rfl (by rw [sizeD]; exact HLEN.out) _ HK1.out).mono ?_; rintro e w2 ⟨rfl, rfl⟩)
    | (go_at_call 132; refine (longNames_any _ _ _ 0 (btw nd.data) _ rfl HBT.out (names_cells _ _ _)).mono ?_; rintro e w3 ⟨rfl, qd, rfl⟩; rw [HLONG.out]))
  go_ret
  exact ⟨rfl, (HK1.out.trans (kept_of_below ((Below.refl _ _).alloc (Nat.le_refl _) _))).trans (kept_of_below (below_drewN' (Below.refl _ _) _))⟩
end Go.Proofs.YtpicgkoclbpjpaaGreatDoor
end

section
namespace Go.Proofs.YtpicgkoclbpjpaaGreatDoor
open Go.RowKit Go.Sort Go.Lib Go.Shelf
open PathM TreeM VtM
set_option linter.unusedVariables false
attribute [local go_sem] cell_rg
theorem infoS : (Tryz.prog.info? 9).map (fun i => (i.zero, i.size, i.bytes)) = some (some (.string ByteArray.empty), 1, 16) := by kernel_rfl
theorem strs_of_row {W : World} {base : Nat} {v : Value} {l : List Bs} {n : Nat} (hn : n = l.length) (h : W.ownsRow base 9 1 v n (l.map encN)) : StrsIn W W.heap.size v l := by
  subst hn
  rcases h.2 with ⟨e1, e2⟩ | ⟨g, cap, cur, e1, e2, e3, e4, _⟩
  · exact ⟨none, 0, by rw [e1, e2], by omega, fun hne => absurd (List.length_eq_zero_iff.1 e2) hne⟩
  · refine ⟨_, _, e1, e4, fun _ => ⟨g, 0, rfl, blk_lt e3, ⟨_, _, e3⟩, fun k hk => ?_⟩⟩
    rw [e1] at h
    rw [Nat.zero_add]
    refine row_cells h _ _ ?_
    rw [List.getElem?_map, List.getElem?_eq_getElem hk, List.getD_eq_getElem?_getD, List.getElem?_eq_getElem hk]; rfl
/-- Names, from wherever, behind a row of the call's own. -/
theorem wpList_app_strs {w : World} {ops : Array Oper} {rest : List Oper} {o : Oper} {a : Act} {Q : Exit → Act → World → Prop} (hgd : o.guard = none) (s x : Operand)
    (ho : o.op = .call { callee := .builtin .append, args := #[s, x], argTypes := #[48, 48] }) (base : Nat) (v : Value) (l1 l2 : List Bs) (n1 : Nat) (hn1 : n1 = l1.length) (hs : a.eval s = v) (hown : w.ownsRow base 9 1 v n1 (l1.map encN)) (hbase : base ≤ w.heap.size)
    (lv : Value) (B : Nat) (hx : a.eval x = lv) (hE : StrsIn w B lv l2) (hlen : (l1.length + l2.length) * 16 ≤ 140737488355328)
    (h : ∀ v' w', w'.ownsRow base 9 1 v' (l1 ++ l2).length ((l1 ++ l2).map encN) → w.grownBy w' v.ownBlock → wpList Tryz.prog ops Q rest (a.put o.dst v') w') : wpList Tryz.prog ops Q (o :: rest) a w := by
  subst hn1
  obtain ⟨i0, hi, hz0, hz1, hz2⟩ := info_parts infoS
  by_cases hne : l2 = []
  · subst hne
    obtain ⟨A, c, rfl⟩ := hE.len
    refine wpList_plain hgd fun K hK => ?_
    have hrun : (Builtin.append_ #[48, 48] o.type #[v, .slice A 0 c]).run Tryz.prog w = .ok v w := by
      rcases hown.2 with ⟨e1, e2⟩ | ⟨ge, cape, cur, e1, e2, e3, e4, _⟩
      · rw [e1]; exact run_append_nil_empty 48 o.type 9 i0 1 Tryz.underlying48 hi A c
      · rw [e1]; exact run_append_own_empty 48 o.type 9 i0 Tryz.underlying48 hi ge _ _ e4 A c
    unfold Oper.wp
    simp [execOp, ho, resolve, invoke, builtin, hs, hx, hrun, Result.andThen]
    exact hK _ _ (h _ _ (by rw [List.append_nil]; exact hown) ((World.grownBy.refl _ _).but _))
  · obtain ⟨b, off, c, rfl, h3, h4, h5, h6⟩ := hE.cases hne
    refine wpList_append_own _ hgd s x 48 ho base 9 i0 (.string ByteArray.empty) 1 16 Tryz.underlying48 hi hz0 hz1 hz2 rfl (by decide) _ _ _ hs hown ⟨b, off, none⟩ l2.length c (l2.map encN) hx (by simp) ?_ ?_ (maxLen_ok (by omega)) hlen hbase ?_
    · intro j u hj
      rw [List.getElem?_map] at hj
      cases e : l2[j]? with
      | none => rw [e] at hj; cases hj
      | some x =>
        rw [e] at hj
        have hjl := lt_of_get e
        have := h6 j hjl
        rw [List.getD_eq_getElem?_getD, e] at this
        simp at hj
        rw [← hj]
        have hadd : (⟨b, off, none⟩ : Addr).add j = ⟨b, off + j, none⟩ := by simp [Addr.add]
        rw [hadd]
        exact this
    · intro u hu
      obtain ⟨x, _, rfl⟩ := List.mem_map.1 hu
      rfl
    · intro v' w' g1 g2 _
      exact h v' w' (by rw [List.length_append, List.map_append]; exact g1) g2
theorem cell_off (w : World) (b i j : Nat) (u : Value) (h : i ≠ j) : (w.setCell ⟨b, i, none⟩ u).cell? ⟨b, j, none⟩ = w.cell? ⟨b, j, none⟩ := by
  simp only [World.cell?, World.setCell, Array.getElem?_modify, if_true]
  cases w.heap[b]? with
  | none => rfl
  | some o => cases o with
    | cells c e f => simp [h]
    | _ => rfl
theorem prefix_slash (l : Bs) : Lib.hasPrefix l [47] = (l.head? == some 47) := by
  cases l with
  | nil => rfl
  | cons c r =>
    simp [Lib.hasPrefix, List.isPrefixOf]
    exact Bool.eq_iff_iff.2 ⟨fun h => by simpa using (eq_of_beq h).symm, fun h => by simpa using (eq_of_beq h).symm⟩
theorem row_made (w : World) (l : List Bs) (h : l.length ≤ maxLen) : (w.alloc (.cells (l.map encN).toArray 9)).ownsRow w.heap.size 9 1 (.slice (some ⟨w.heap.size, 0, none⟩) l.length l.length) l.length (l.map encN) :=
  ⟨by simp, .inr ⟨w.heap.size, l.length, _, rfl, Nat.le_refl _, heap_alloc_new _ _, Nat.le_refl _, h, by simp, by simp [List.take_of_length_le]⟩⟩
/-- Behind a link gone through. -/
def ThruPost (wb db : Nat) (fw : Bool) (r : Except Int WS) (w : World) (e : Ending) (w' : World) : Prop :=
  match r with
  | .error x => e = .returned (.int .i64 x) ∧ Kept (fun k => k = wb) w w'
  | .ok s' => e = .returned (.int .i64 0) ∧ (∃ dv lv, WalkIn w' wb db s' fw dv lv) ∧ Kept (fun k => k = wb) w w'
/-- The walk's block behind a place that is laid into it. -/
theorem at_set {w : World} {wb : Nat} {c0 c1 c2 c3 c4 c5 c6 c7 c8 : Value} {T : TypeId} (h : w.heap[wb]? = some (.cells #[c0, c1, c2, c3, c4, c5, c6, c7, c8] T (0, 0))) (d1 d2 d3 d4 : Value) :
    ((((w.setCell ⟨wb, 1, none⟩ d1).setCell ⟨wb, 2, none⟩ d2).setCell ⟨wb, 3, none⟩ d3).setCell ⟨wb, 4, none⟩ d4).heap[wb]? = some (.cells #[c0, d1, d2, d3, d4, c5, c6, c7, c8] T (0, 0)) := by
  have h1 := set_blk (j := 1) h d1
  have h2 := set_blk (j := 2) h1 d2
  have h3 := set_blk (j := 3) h2 d3
  have h4 := set_blk (j := 4) h3 d4
  simpa using h4
theorem at_kept {w0 w : World} {wb : Nat} (h : Kept (fun k => k = wb) w0 w) (d1 d2 d3 d4 : Value) : Kept (fun k => k = wb) w0 ((((w.setCell ⟨wb, 1, none⟩ d1).setCell ⟨wb, 2, none⟩ d2).setCell ⟨wb, 3, none⟩ d3).setCell ⟨wb, 4, none⟩ d4) :=
  (((h.trans (Kept.setCell _ _ rfl)).trans (Kept.setCell _ _ rfl)).trans (Kept.setCell _ _ rfl)).trans (Kept.setCell _ _ rfl)
end Go.Proofs.YtpicgkoclbpjpaaGreatDoor
end
