/- DERIVED. The iterator over a path's names: package path of layer 3. -/
import Derived.Test.YtfchofdoabhakaaDoorPathWalks2
import Derived.RangeFuncBox
import Derived.RangeFuncNested
import Derived.RangeFuncLeaves
import Derived.Shelf.Abstract
import Derived.OwnWalkIn
import Derived.TacticsInMore
import Derived.LoopNIn
import Derived.LoopIn
import Derived.Maps.AppendAt
namespace Go.Proofs.YtfchofdoabhakaaDoor
open Go.RowKit Go.Shelf
open PathM
set_option linter.unusedVariables false

attribute [local go_sem] Oper.semAt_some

/-- FOR THE LOOP's MEASURE: the bytes of a value that is a string. -/
def szOf : Value → Nat
  | .string t => t.size
  | _ => 0

/-- What the loop over a path holds: what has come, what is left. -/
def ItRel (xs : List Bs) (J : List Bs → World → Prop) (p : Value) (wr : World) : Prop :=
  ∃ (pre : List Bs) (l : Bs), p = .string (nm l) ∧ xs = pre ++ names l ∧ l.length ≤ 9223372036854775807 ∧ J pre wr

set_option maxRecDepth 100000 in
set_option maxHeartbeats 1000000 in
theorem names1_in (n : Nat) (hn : 1 ≤ n) (l Bn n₀ : Nat) (s : ByteArray) (hs : s.size ≤ maxLen) (J Jx : List Bs → World → Prop) (hJd : ∀ pre A k, J pre A → J pre (A.drewN k))
    (hY : ∀ pre x W, J pre W → pre.length < (names s.data.toList).length → YieldAt Fence.wide (n - 1) Tryd.prog l #[.string (nm x)] W fun e W' =>
      (e = .returned (.bool true) ∧ J (pre ++ [x]) W' ∧ Below n₀ W W') ∨ (e = .returned (.bool false) ∧ Jx (pre ++ [x]) W'))
    (W : World) (hBn : W.cell? ⟨Bn, 0, none⟩ = some (.string s)) (h0 : J [] W) :
    CallsIn Fence.wide n Tryd.prog 37 #[.func (.yield l) #[] #[], .pointer (some ⟨Bn, 0, none⟩)] W fun e W' => (∃ v, e = .returned v) ∧
      ((∃ ys, ys = names s.data.toList ∧ J ys W') ∨ (∃ pre, pre <+: names s.data.toList ∧ Jx pre W')) := by
  unfold maxLen at hs
  obtain ⟨xs, hxs⟩ : ∃ xs, names s.data.toList = xs := ⟨_, rfl⟩
  rw [hxs] at hY ⊢
  have hst : ItRel xs J (.string s) W := ⟨[], s.data.toList, by rw [nm_of], by rw [hxs]; rfl, by rw [← sizeD]; exact hs, h0⟩
  have HX := Lib.hid hxs; clear hxs
  refine callsIn_of_wp Tryd.func37 rfl trivial ?_ rfl
  simp only [Tryd.ntmps37, List.size_toArray, List.length_cons, List.length_nil, Nat.reduceAdd, Nat.reduceSub, Array.replicate_succ, Array.replicate_zero, List.push_toArray, List.append_toArray, List.nil_append, List.cons_append]
  gi_wp2
  gi_loopw [3] (fun p wr => ItRel xs J p wr) (fun p wr => szOf p)
  case atStart =>
    exact hst
  case round =>
    obtain ⟨pre, r, rfl, hx, hrl, hJs⟩ := hrel
    clear hst hBn
    cases r with
    | nil =>
      have q1 := emp_yes (b := nm []) rfl
      have hx' : pre = xs := by rw [hx, names_nil]; simp
      have HP := Lib.hid hx'; clear hx' hx
      gi_wp2
      go_end0
      exact ⟨⟨_, rfl⟩, .inl ⟨pre, HP.out, hJs⟩⟩
    | cons c r' =>
      have q1 := emp_no (b := nm (c :: r')) (by simp [nm_data])
      have q2 : (nm (c :: r')).size ≤ maxLen := by rw [nm_size]; unfold maxLen; exact hrl
      have hcut := fun w => cut_any (nm (c :: r')) w q2
      have hlt := aft_len (c :: r') (by simp)
      have hle : (aft (c :: r')).length ≤ 9223372036854775807 := by omega
      have hm : (nm (aft (c :: r'))).size < (nm (c :: r')).size := by rw [nm_size, nm_size]; exact hlt
      unfold CutPost at hcut
      rw [nm_data] at hcut
      by_cases hb : bef (c :: r') = []
      · have hx2 := names_skip _ hb
        have q3 := emp_yes (b := nm (bef (c :: r'))) (by rw [nm_data]; exact hb)
        have hx3 : xs = pre ++ names (aft (c :: r')) := by rw [hx, hx2]
        have HP := Lib.hid hx3; have HM := Lib.hid hm; have HC := Lib.hid hcut; clear hx3 hx2 hx hb hm hcut hlt hrl q2
        generalize nm (c :: r') = R at *
        generalize nm (bef (c :: r')) = Bf at *
        gi_wp2_with (refine ⟨trivial, ?_⟩; gi_at_call 38; refine (callsIn_wide.2 (HC.out _)).mono ?_; rintro e w' ⟨x, k, rfl, rfl⟩)
        refine ⟨fun _ h => (by cases h), ?_⟩
        gi_wp2
        go_roundw
        case rel => exact ⟨pre, aft (c :: r'), rfl, HP.out, hle, hJd _ _ _ hJs⟩
        case measure => exact HM.out
      · have hx2 := names_take _ hb
        have q3 := emp_no (b := nm (bef (c :: r'))) (by rw [nm_data]; exact hb)
        have hx3 : xs = (pre ++ [bef (c :: r')]) ++ names (aft (c :: r')) := by rw [hx, hx2]; simp
        have hplt : pre.length < xs.length := by rw [hx3]; simp
        have hy0 := fun W hj => hY pre (bef (c :: r')) W hj hplt
        have HP := Lib.hid hx3; have HM := Lib.hid hm; have HC := Lib.hid hcut; clear hx3 hx2 hx hb hm hcut hlt hrl q2 hY hplt
        generalize nm (c :: r') = R at *
        obtain ⟨fn0, fe⟩ : ∃ b, b = bef (c :: r') := ⟨_, rfl⟩
        rw [← fe] at hy0 HP HC q3
        generalize nm fn0 = Bf at *
        gi_wp2_with (refine ⟨trivial, ?_⟩; gi_at_call 38; refine (callsIn_wide.2 (HC.out _)).mono ?_; rintro e w' ⟨x, k, rfl, rfl⟩; obtain ⟨fn, tmps, assign, body, hy, hR⟩ := hy0 _ (hJd _ _ k hJs))
        refine hR.mono ?_
        rintro e W3 (⟨rfl, hJ3, hk3⟩ | ⟨rfl, hJx3⟩)
        · gi_wp2
          go_roundw
          case rel => exact ⟨pre ++ [fn0], aft (c :: r'), rfl, HP.out, hle, hJ3⟩
          case measure => exact HM.out
        · gi_wp2
          refine bodyPost_ret (results_none rfl _ _ _) rfl ?_
          exact ⟨⟨_, rfl⟩, .inr ⟨pre ++ [fn0], ⟨_, HP.out.symm⟩, hJx3⟩⟩

set_option maxHeartbeats 1000000 in
theorem names_in (n : Nat) (s : ByteArray) (w : World) :
    CallsIn Fence.wide n Tryd.prog 28 #[.string s] w fun e w' => e = .returned (.func (.func 37) #[] #[.pointer (some ⟨w.heap.size, 0, none⟩)]) ∧ w' = w.alloc (.cells #[.string s] 9) := by
  refine callsIn_of_wp Tryd.func28 rfl trivial ?_ rfl
  simp only [Tryd.ntmps28, List.size_toArray, List.length_cons, List.length_nil, Nat.reduceAdd, Nat.reduceSub, Array.replicate_succ, Array.replicate_zero, List.push_toArray, List.append_toArray, List.nil_append, List.cons_append]
  gi_wp2
  go_ret
  exact ⟨rfl, rfl⟩

theorem names_stops (n : Nat) (hn : 1 ≤ n) (Bn n₀ : Nat) (s : ByteArray) (hs : s.size ≤ maxLen) (w : World) (hBn : Bn < w.heap.size) (hn₀ : n₀ ≤ w.heap.size)
    (hc : w.cell? ⟨Bn, 0, none⟩ = some (.string s)) :
    SeqStopsK Fence.wide n Tryd.prog 37 #[.pointer (some ⟨Bn, 0, none⟩)] (fun x : Bs => #[Value.string (nm x)]) (Below n₀) (fun ys => ys = names s.data.toList) (fun pre => pre <+: names s.data.toList) (names s.data.toList).length w := fun l J Jx W hW hJ _ hY h0 =>
  names1_in n hn l Bn n₀ s hs J Jx (fun pre A k hA => hJ pre A (A.drewN k) none hA ⟨rfl, rfl, rfl, Nat.le_refl _, fun _ _ _ => rfl⟩ (by simp)) hY W ((hW.cell (p := ⟨Bn, 0, none⟩) hBn).trans hc) h0

end Go.Proofs.YtfchofdoabhakaaDoor
