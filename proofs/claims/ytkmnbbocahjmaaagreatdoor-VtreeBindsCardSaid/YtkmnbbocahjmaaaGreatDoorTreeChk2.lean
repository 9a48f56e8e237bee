/- DERIVED. Walks: within, holds, nodesMay, numbered of package tree. -/
import Derived.Test.YtkmnbbocahjmaaaGreatDoorTreeChk1
namespace Go.Proofs.YtkmnbbocahjmaaaGreatDoor
open Go.RowKit Go.Sort
open PathM TreeM
set_option linter.unusedVariables false

set_option maxHeartbeats 400000 in
theorem within_any (n most : Int) (w : World) :
    Calls Tryz.prog 146 #[.int .i64 n, .int .i64 most] w fun e w' => e = .returned (.bool (decide (0 ≤ n ∧ n ≤ most))) ∧ w = w' := by
  by_cases h0 : 0 ≤ n
  · have e : decide (0 ≤ n ∧ n ≤ most) = decide (n ≤ most) := by simp [h0]
    rw [e]; clear e
    go_enter Tryz.func146, Tryz.ntmps146
    go_wp2
    go_ret
    exact ⟨rfl, rfl⟩
  · have e : decide (0 ≤ n ∧ n ≤ most) = false := by simp [h0]
    have hd : decide (0 ≤ n) = false := by simpa using h0
    rw [e]; clear e
    go_enter Tryz.func146, Tryz.ntmps146
    go_wp2
    go_ret
    exact ⟨rfl, rfl⟩

/-- What a node may hold, by its kind. -/
def holdsB (n : Nd) : Bool :=
  if n.kind = 1 then decide (n.data = []) && entsB n.es
   else if n.kind = 2 then decide (n.data.length ≤ 4096) && decide (n.es = [])
   else if n.kind = 3 then decide (n.data ≠ []) && decide (n.data.length ≤ 256) && !n.data.contains 0 && decide (n.es = [])
   else false
theorem plain_holds (n : Nd) : plainB n = (decide (0 ≤ n.mode ∧ n.mode ≤ 511 ∧ 0 ≤ n.owner ∧ n.owner ≤ 65535 ∧ 0 ≤ n.time ∧ n.time ≤ 1099511627776) && holdsB n) := rfl

theorem ents_len {w : World} {B : Nat} {v : Value} {es : List Ent} (h : EntsIn w B v es) : ∃ A c, v = .slice A es.length c ∧ es.length * 24 ≤ 140737488351232 := by
  obtain ⟨A, c, h1, _, h2, _⟩ := h; exact ⟨A, c, h1, h2⟩
theorem nil_len (es : List Ent) : decide (es = []) = decide (es.length = 0) := by cases es <;> simp

set_option maxHeartbeats 2000000 in
theorem holds_any (ev : Value) (nd : Nd) (B : Nat) (w : World) (hE : EntsIn w B ev nd.es) (hB : B ≤ w.heap.size) (hD : nd.data.length ≤ 140737488351232) :
    Calls Tryz.prog 147 #[ndV ev nd] w fun e w' => e = .returned (.bool (holdsB nd)) ∧ Below w.heap.size w w' := by
  have hsz : (nm nd.data).size = nd.data.length := nm_size _
  have hent : ∀ W, Below w.heap.size w W → Calls Tryz.prog 156 #[ev] W fun e w' => e = .returned (.bool (entsB nd.es)) ∧ Below W.heap.size W w' :=
    fun W hW => ents_any ev nd.es w.heap.size W ((hE.more hB).below hW) hW.size
  obtain ⟨A, c, rfl, hlen⟩ := ents_len hE
  have hI := fun w => Tryz.strings_IndexByte (nm nd.data) 0 w
  rw [show Int.toNat 0 = 0 from rfl, show Nat.toUInt8 0 = 0 from rfl, nm_data] at hI
  have h0 := index0 nd.data
  unfold holdsB ndV
  rw [nil_len]
  obtain ⟨id, kind, mode, owner, time, data, es⟩ := nd
  simp only at *
  generalize es.length = m at *
  generalize entsB es = eb at *
  by_cases k1 : kind = 1
  · rw [if_pos k1]
    have q1 : (kind == 1) = true := by simp [k1]
    have HE := Lib.hid hent; have HS := Lib.hid hsz
    clear hent hI h0 k1 hsz
    by_cases hd : data = []
    · have e1 := emp_yes (b := nm data) (by rw [nm_data]; exact hd)
      have hr : (decide (data = []) && eb) = eb := by simp [hd]
      rw [hr]; clear hr hd
      go_enter Tryz.func147, Tryz.ntmps147
      go_wp2_with (go_at_call 156; refine (HE.out _ ((Below.refl _ _).alloc (Nat.le_refl _) _)).mono ?_; rintro e w' ⟨rfl, hb⟩)
      go_ret
      exact ⟨rfl, ((Below.refl _ _).alloc (Nat.le_refl _) _).trans (hb.mono (by simp))⟩
    · have e1 := emp_no (b := nm data) (by rw [nm_data]; exact hd)
      have hr : (decide (data = []) && eb) = false := by simp [hd]
      rw [hr]; clear hr hd
      go_enter Tryz.func147, Tryz.ntmps147
      go_wp2
      go_ret
      exact ⟨rfl, ((Below.refl _ _).alloc (Nat.le_refl _) _)⟩
  · rw [if_neg k1]
    have q1 : (kind == 1) = false := by simp [k1]
    clear hent k1
    by_cases k2 : kind = 2
    · rw [if_pos k2]
      have q2 : (kind == 2) = true := by simp [k2]
      clear hI h0 k2
      have HS := Lib.hid hsz
      by_cases hd : data.length ≤ 4096
      · have hr : (decide (data.length ≤ 4096) && decide (m = 0)) = ((m : Int) == 0) := by rw [Bool.eq_iff_iff]; simp [hd]
        have hd2 : (nm data).size ≤ 4096 := by omega
        have hd3 : decide (((nm data).size : Int) ≤ 4096) = true := by simp; omega
        have hr2 := hr
        rw [hr]
        have q3 : ((m : Int) == 0) = decide (m = 0) := by rw [Bool.eq_iff_iff]; simp
        clear hr hr2 hd hsz
        go_enter Tryz.func147, Tryz.ntmps147
        go_wp2
        go_ret
        exact ⟨by first | rfl | (rw [q3]; rfl) | simp, ((Below.refl _ _).alloc (Nat.le_refl _) _)⟩
      · have hr : (decide (data.length ≤ 4096) && decide (m = 0)) = false := by simp [hd]
        have hd3 : decide (((nm data).size : Int) ≤ 4096) = false := by simp; omega
        have hd2 : ¬ (nm data).size ≤ 4096 := by omega
        rw [hr]
        clear hr hd hsz
        go_enter Tryz.func147, Tryz.ntmps147
        go_wp2
        go_ret
        exact ⟨by first | rfl | simp, ((Below.refl _ _).alloc (Nat.le_refl _) _)⟩
    · rw [if_neg k2]
      have q2 : (kind == 2) = false := by simp [k2]
      clear k2
      by_cases k3 : kind = 3
      · rw [if_pos k3]
        have q3 : (kind == 3) = true := by simp [k3]
        clear k3
        have HS := Lib.hid hsz
        by_cases hd : data = []
        · have e1 := emp_yes (b := nm data) (by rw [nm_data]; exact hd)
          have hr : (decide (data ≠ []) && decide (data.length ≤ 256) && !data.contains 0 && decide (m = 0)) = false := by simp [hd]
          rw [hr]; clear hr hd hI h0 hsz
          go_enter Tryz.func147, Tryz.ntmps147
          go_wp2
          go_ret
          exact ⟨by first | rfl | simp, ((Below.refl _ _).alloc (Nat.le_refl _) _)⟩
        · have e1 := emp_no (b := nm data) (by rw [nm_data]; exact hd)
          by_cases hl : data.length ≤ 256
          · have hd2 : (nm data).size ≤ 256 := by omega
            have hd3 : decide (((nm data).size : Int) ≤ 256) = true := by simp; omega
            by_cases hz : 0 ≤ Lib.indexByte data 0
            · have hr : (decide (data ≠ []) && decide (data.length ≤ 256) && !data.contains 0 && decide (m = 0)) = false := by rw [h0.1 hz]; simp
              rw [hr]
              have HI := Lib.hid hI
              generalize Lib.indexByte data 0 = x at hz HI
              have hx : decide (x < 0) = false := by simp; omega
              clear hr hd hI h0 hsz hl
              go_enter Tryz.func147, Tryz.ntmps147
              go_wp2_with (go_at_call 48; refine (HI.out _).mono ?_; rintro e w' ⟨rfl, rfl⟩)
              go_ret
              exact ⟨by first | rfl | simp, ((Below.refl _ _).alloc (Nat.le_refl _) _)⟩
            · have hc : data.contains 0 = false := by
                cases e : data.contains 0 with
                | false => rfl
                | true => exact absurd (h0.2 e) hz
              have hr : (decide (data ≠ []) && decide (data.length ≤ 256) && !data.contains 0 && decide (m = 0)) = ((m : Int) == 0) := by rw [hc, Bool.eq_iff_iff]; simp [hd, hl]
              rw [hr]
              have HI := Lib.hid hI
              generalize Lib.indexByte data 0 = x at hz HI
              have hx : decide (x < 0) = true := by simp; omega
              have q5 : ((m : Int) == 0) = decide (m = 0) := by rw [Bool.eq_iff_iff]; simp
              clear hr hd hI h0 hsz hl hc
              go_enter Tryz.func147, Tryz.ntmps147
              go_wp2_with (go_at_call 48; refine (HI.out _).mono ?_; rintro e w' ⟨rfl, rfl⟩)
              go_ret
              exact ⟨by first | rfl | (rw [q5]; rfl) | simp, ((Below.refl _ _).alloc (Nat.le_refl _) _)⟩
          · have hd3 : decide (((nm data).size : Int) ≤ 256) = false := by simp; omega
            have hd2 : ¬ (nm data).size ≤ 256 := by omega
            have hr : (decide (data ≠ []) && decide (data.length ≤ 256) && !data.contains 0 && decide (m = 0)) = false := by simp [hl]
            rw [hr]; clear hr hd hI h0 hsz hl
            go_enter Tryz.func147, Tryz.ntmps147
            go_wp2
            go_ret
            exact ⟨by first | rfl | simp, ((Below.refl _ _).alloc (Nat.le_refl _) _)⟩
      · rw [if_neg k3]
        have q3 : (kind == 3) = false := by simp [k3]
        clear k3 hI h0
        have HS := Lib.hid hsz; clear hsz
        go_enter Tryz.func147, Tryz.ntmps147
        go_wp2
        go_ret
        exact ⟨rfl, ((Below.refl _ _).alloc (Nat.le_refl _) _)⟩

end Go.Proofs.YtkmnbbocahjmaaaGreatDoor
