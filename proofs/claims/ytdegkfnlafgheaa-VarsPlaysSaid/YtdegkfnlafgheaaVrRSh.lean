/- DERIVED. The document's own table: Shift, Joined. -/
import Derived.Test.YtdegkfnlafgheaaVrRArg
namespace Go.Proofs.Ytdegkfnlafgheaa.Vr
open Go.RowKit
open PathM WdM VrM
open Go.Proofs.Ytdegkfnlafgheaa.Wd
set_option linter.unusedVariables false
set_option maxRecDepth 100000 in
set_option maxHeartbeats 1600000 in
theorem rshift_no (A1 A2 : Option Addr) (n1 c1 m c2 : Nat) (st n : Int) (w : World) (hm : (m : Int) ≤ 4096) (h : n < 0 ∨ (m : Int) < n) :
    Calls Try.prog 30 #[tblV (.slice A1 n1 c1) (.slice A2 m c2) st, .int .i64 n] w fun e w' => e = .returned (.tuple #[tblV (.slice A1 n1 c1) (.slice A2 m c2) st, .bool false]) ∧ Below w.heap.size w w' := by
  unfold tblV
  have HB := Lib.hid (two_below w)
  rcases h with h | h
  all_goals
    go_enter Try.func30, Try.ntmps30
    go_wp2_with fail
    refine bodyPost_ret (results_cell2 rfl _ _ _ 36 _ (0, 0) _ rfl (two_new _ _ _) Try.underlying36 rfl (by kernel_rfl)) rfl ?_
    exact ⟨rfl, HB.out _ _⟩
set_option maxRecDepth 100000 in
set_option maxHeartbeats 1600000 in
theorem rshift_ok (A1 A2 : Option Addr) (n1 c1 m c2 : Nat) (st : Int) (ps : List Bs) (n : Nat) (w : World) (ha : ArIn w (.slice A2 m c2) ps) (hm2 : (m : Int) ≤ 4096) (hpm : ps.length = m) (hmc : m ≤ c2) (hn : n ≤ m) :
    Calls Try.prog 30 #[tblV (.slice A1 n1 c1) (.slice A2 m c2) st, .int .i64 (n : Int)] w fun e w' => (∃ A3 c3, e = .returned (.tuple #[tblV (.slice A1 n1 c1) (.slice A3 (m - n) c3) st, .bool true]) ∧ ArIn w' (.slice A3 (m - n) c3) (ps.drop n)) ∧ Below w.heap.size w w' := by
  unfold tblV
  have HB := Lib.hid (two_below w)
  have HA := Lib.hid ha
  have HM := Lib.hid hpm
  have hn1 : (n : Int) ≤ (m : Int) := by omega
  have hmc1 : (m : Int) ≤ (c2 : Int) := by omega
  have hn0 : (0 : Int) ≤ (n : Int) := by omega
  clear ha hpm
  go_enter Try.func30, Try.ntmps30
  go_wp2_with fail
  all_goals
    refine bodyPost_ret (results_cell2 rfl _ _ _ 36 _ (0, 0) _ rfl (two_new _ _ _) Try.underlying36 rfl (by kernel_rfl)) rfl ?_
    refine ⟨⟨_, _, rfl, ?_⟩, HB.out _ _⟩
    first | exact (ArIn.cut0 HM.out hn hmc ‹_›).below (HB.out _ _) | exact (ArIn.cut1 HM.out hn HA.out).below (HB.out _ _)
def restJ : Bool → List Bs → Bs
  | _, [] => []
  | b, x :: r => (if b then [32] else []) ++ (x ++ restJ true r)
theorem restJ_eq : ∀ (ps : List Bs), restJ false ps = Lib.join ps [32]
  | [] => rfl
  | [a] => by
    have e : Lib.join [a] [32] = a := by first | rfl | simp [Lib.join]
    rw [e]; simp [restJ]
  | a :: b :: r => by
    have e : Lib.join (a :: b :: r) [32] = a ++ ([32] ++ Lib.join (b :: r) [32]) := rfl
    have h : restJ true (b :: r) = [32] ++ Lib.join (b :: r) [32] := by rw [← restJ_eq (b :: r)]; simp [restJ]
    rw [e, ← h]
    simp [restJ]
theorem cat_nm (a b : ByteArray) (x : Bs) (h : a.data.toList ++ b.data.toList = x) (hl : x.length ≤ 9223372036854775807) (W : World) :
    (Op.stringOp .add a b).run Try.prog W = .ok (.string (nm x)) W := by
  have hsz : a.size + b.size ≤ 9223372036854775807 := by
    rw [sizeD a, sizeD b, ← List.length_append, h]; exact hl
  rw [run_string_add_sum W _ _ (by simpa using hsz)]
  subst h
  congr 2
set_option maxRecDepth 100000 in
set_option maxHeartbeats 1600000 in
theorem joined_any (ps : List Bs) (v : Value) (w : World) (h : ArIn w v ps) (hn : ps.length ≤ 256) (hl : ∀ x ∈ ps, x.length ≤ 4096) :
    Calls Try.prog 38 #[v, .string ⟨#[32]⟩] w fun e w' => e = .returned (.string (nm (Lib.join ps [32]))) ∧ w = w' := by
  rw [← restJ_eq]
  obtain ⟨A, c, rfl, hlc, hcell⟩ := h
  have HCE : Hid (∀ i (h : i < ps.length), ∃ b off, A = some ⟨b, off, none⟩ ∧ b < w.heap.size ∧ w.cell? ⟨b, off + i, none⟩ = some (.string (nm ps[i])) ∧ ps[i].length ≤ 4096) := Lib.hid (fun i h => by
    obtain ⟨b, off, h1, h2, h3⟩ := hcell (fun e => by rw [e] at h; simp at h)
    exact ⟨b, off, h1, h2, h3 i h, hl _ (List.getElem_mem h)⟩)
  obtain ⟨n, hnn⟩ : ∃ n, ps.length = n := ⟨_, rfl⟩
  have HL := Lib.hid hnn
  rw [hnn] at hlc hn
  have hnc : (n : Int) ≤ (c : Int) := by omega
  have hn2 : (n : Int) ≤ 256 := by omega
  obtain ⟨M, hM⟩ : ∃ M, restJ false ps = M := ⟨_, rfl⟩
  have HM : Hid ([] ++ restJ false (ps.drop 0) = M) := Lib.hid hM
  rw [hM, hnn]
  clear hcell hl hM hnn
  go_enter Try.func38, Try.ntmps38
  go_wp2_with fail
  go_loopg [5, 6] n (fun g x5 x6 wr => ∃ (i : Nat) (s : Bs), x5 = .string (nm s) ∧ x6 = .int .i64 i ∧ i ≤ n ∧ g = n - i ∧ wr = w ∧ s.length ≤ i * 4097 ∧ Hid (s ++ restJ (decide (0 < i)) (ps.drop i) = M))
  case atStart => exact ⟨0, [], rfl, rfl, Nat.zero_le _, rfl, rfl, by simp, HM⟩
  case round =>
    clear HM
    obtain ⟨i, s, rfl, rfl, hi, rfl, rfl, hs, HI⟩ := hrel
    by_cases hil : i < n
    · have hil2 : i < ps.length := by have := HL.out; omega
      obtain ⟨b, off, rfl, hb, a0, hxl⟩ := HCE.out i hil2
      have hd : ps.drop i = ps[i] :: ps.drop (i + 1) := List.drop_eq_getElem_cons hil2
      have hI := HI.out
      rw [hd] at hI
      generalize ps[i] = x at *
      by_cases hi0 : i = 0
      · have hip : ¬ (0 : Int) < (i : Int) := by omega
        have e := cat_nm (nm s) (nm x) (s ++ x) (by rw [nm_data, nm_data]) (by simp; omega)
        have HI2 : Hid ((s ++ x) ++ restJ (decide (0 < i + 1)) (ps.drop (i + 1)) = M) := Lib.hid (by rw [← hI, hi0]; simp [restJ])
        have hlen : (s ++ x).length ≤ 4097 := by simp; omega
        clear hI hd HCE HI hi0
        generalize s ++ x = s2 at *
        generalize nm s = S at *
        generalize nm x = X at *
        go_wp2_with fail
        go_roundg (n - (i + 1))
        case measure => omega
        case rel => exact ⟨i + 1, s2, rfl, rfl, by omega, rfl, rfl, by omega, HI2⟩
      · have hip : (0 : Int) < (i : Int) := by omega
        have hip2 : 0 < i := by omega
        have e := cat_nm (nm s) ⟨#[32]⟩ (s ++ [32]) (by rw [nm_data]) (by simp only [List.length_append, List.length_cons, List.length_nil]; omega)
        have e2 := cat_nm (nm (s ++ [32])) (nm x) (s ++ [32] ++ x) (by rw [nm_data, nm_data]) (by simp; omega)
        have HI2 : Hid ((s ++ [32] ++ x) ++ restJ (decide (0 < i + 1)) (ps.drop (i + 1)) = M) := Lib.hid (by rw [← hI]; simp [restJ, hip2])
        have hlen : (s ++ [32] ++ x).length ≤ (i + 1) * 4097 := by simp only [List.length_append, List.length_cons, List.length_nil]; omega
        clear hI hd HCE HI hi0
        generalize s ++ [32] ++ x = s3 at *
        generalize s ++ [32] = s2 at *
        generalize nm s = S at *
        generalize nm s2 = S2 at *
        generalize nm x = X at *
        go_wp2_with fail
        go_roundg (n - (i + 1))
        case measure => omega
        case rel => exact ⟨i + 1, s3, rfl, rfl, by omega, rfl, rfl, hlen, HI2⟩
    · have hd : ps.drop i = [] := List.drop_of_length_le (by have := HL.out; omega)
      have hI := HI.out
      rw [hd] at hI
      have hM : M = s := by rw [← hI]; simp [restJ]
      clear HCE HI hI hd
      subst hM
      go_wp2_with fail
      go_ret
      exact ⟨rfl, rfl⟩
end Go.Proofs.Ytdegkfnlafgheaa.Vr
