/- DERIVED. What New leaves; the law's short. -/
import Derived.Test.YtdegkfnlafgheaaVrRNew
import Derived.Test.YtdegkfnlafgheaaVrOpen
import Derived.Test.YtdegkfnlafgheaaVrLawM
namespace Go.Proofs.Ytdegkfnlafgheaa.Vr
open Go.RowKit
open PathM WdM VrM
open Go.Proofs.Ytdegkfnlafgheaa.Wd
set_option linter.unusedVariables false
def Nms (vs : Vs) : Prop := ∀ x ∈ vs, isName x.1 = true
theorem nms_no {vs : Vs} (h : Nms vs) : hasV vs [] = false := by
  unfold hasV
  rw [List.any_eq_false]
  intro x hx
  have := h x hx
  simp only [decide_eq_true_eq]
  intro e
  rw [e] at this
  cases this
theorem nms_put {vs : Vs} {name t : Bs} (h : Nms vs) (hn : isName name = true) : Nms (putV vs name t) := by
  intro x hx
  rcases put_mem hx with rfl | hx
  · exact hn
  · exact h x hx
theorem nms_del {vs : Vs} {name : Bs} (h : Nms vs) : Nms (delV vs name) := fun x hx => h x (del_mem hx)
theorem setL_nms {vs vs' : Vs} {name t : Bs} (h : setL vs name t = .ok vs') (hn : Nms vs) : Nms vs' := by
  unfold setL at h
  split at h
  · cases h
  · rename_i hno
    split at h
    · cases h
    · cases h; exact nms_put hn (by simpa using hno)
theorem setAll_inv {l : Vs} : ∀ {vs vs' : Vs}, setAll vs l = .ok vs' → Srt vs → vs.length ≤ 64 → Nms vs → Srt vs' ∧ vs'.length ≤ 64 ∧ Nms vs' := by
  induction l with
  | nil => intro vs vs' h h1 h2 h3; cases h; exact ⟨h1, h2, h3⟩
  | cons x r ih =>
    intro vs vs' h h1 h2 h3
    cases hm : setL vs x.1 x.2 with
    | error e => rw [setAll_no hm] at h; cases h
    | ok vs2 =>
      rw [setAll_ok hm] at h
      obtain ⟨k1, k2⟩ := setL_ok hm h1 h2
      exact ih h k1 k2 (setL_nms hm h3)
theorem newL_ok {l : Vs} {qs : List Bs} {vs : Vs} (h : newL l qs = .ok vs) : (Srt vs ∧ vs.length ≤ 64 ∧ Nms vs) ∧ argsOk qs = true ∧ setAll [] l = .ok vs := by
  unfold newL finL at h
  cases hm : setAll [] l with
  | error e => rw [hm] at h; cases h
  | ok vs2 =>
    rw [hm] at h
    dsimp only at h
    split at h
    · rename_i hok
      cases h
      exact ⟨setAll_inv hm List.Pairwise.nil (by simp) (by intro x hx; cases hx), hok, rfl⟩
    · cases h
theorem argsOk_len {qs : List Bs} (h : argsOk qs = true) : qs.length ≤ 256 ∧ ∀ x ∈ qs, x.length ≤ 4096 := by
  unfold argsOk at h
  simp only [Bool.and_eq_true, decide_eq_true_eq, Bool.not_eq_true'] at h
  exact ⟨h.1, not_big h.2⟩
def ShortPost (w : World) (e : Ending) (w' : World) : Prop := ∃ b, e = .returned (.bool b) ∧ Below w.heap.size w w'
theorem short_p {w w' : World} {b : Bool} (h : Below w.heap.size w w') : ShortPost w (.returned (.bool b)) w' := ⟨b, rfl, h⟩
set_option maxRecDepth 100000 in
set_option maxHeartbeats 1600000 in
theorem short_any (a : ActB) (av : Value) (w : World) (h : ActOk w a av) :
    Calls Try.prog 9 #[.agg (actV a av).toArray] w (ShortPost w) := by
  obtain ⟨⟨hv, hl1, hl2⟩, hn, hval, _, _⟩ := h
  obtain ⟨kind, name, val, qs, m⟩ := a
  unfold actV
  dsimp only at hv hl1 hl2 hn hval ⊢
  obtain ⟨A, c, rfl, hlc, hcell⟩ := hv
  have HCE : Hid (∀ i (h : i < qs.length), ∃ b off, A = some ⟨b, off, none⟩ ∧ b < w.heap.size ∧ ∀ W, Below w.heap.size w W → ∃ X : ByteArray, W.cell? ⟨b, off + i, none⟩ = some (.string X) ∧ (X.size : Int) ≤ 140737488351232) := Lib.hid (fun i h => by
    obtain ⟨b, off, h1, h2, h3⟩ := hcell (fun e => by rw [e] at h; simp at h)
    exact ⟨b, off, h1, h2, fun W hb => ⟨_, (World.cell?_of_block (hb.block b h2)).trans (h3 i h), by have := hl2 _ (List.getElem_mem h); rw [nm_size]; omega⟩⟩)
  have hs1 : ((nm name).size : Int) ≤ 140737488351232 := by rw [nm_size]; omega
  have hs2 : ((nm val).size : Int) ≤ 140737488351232 := by rw [nm_size]; omega
  obtain ⟨n, hnn⟩ : ∃ n, qs.length = n := ⟨_, rfl⟩
  have HL := Lib.hid hnn
  rw [hnn] at hl1 hlc ⊢
  have hn2 : (n : Int) ≤ 140737488351232 := by omega
  have hnc : (n : Int) ≤ (c : Int) := by omega
  clear hcell hl2 hn hval hnn
  generalize nm name = N at *
  generalize nm val = T at *
  go_enter Try.func9, Try.ntmps9
  go_wp2_with fail
  have HB := Lib.hid (one_below w (.cells #[.int .i64 kind, .string N, .string T, .slice A n c, .int .i64 m] 30))
  go_loopg [3, 4] n (fun g x3 x4 wr => ∃ (i : Nat) (k : Int), x3 = .int .i64 k ∧ x4 = .int .i64 i ∧ i ≤ n ∧ g = n - i ∧ wr = w.alloc (.cells #[.int .i64 kind, .string N, .string T, .slice A n c, .int .i64 m] 30) ∧ 0 ≤ k ∧ k ≤ 281474976702464)
  case atStart => exact ⟨0, _, rfl, rfl, Nat.zero_le _, rfl, rfl, by omega, by omega⟩
  case round =>
    obtain ⟨i, k, rfl, rfl, hi, rfl, rfl, hk0, hk1⟩ := hrel
    by_cases hil : i < n
    · by_cases h256 : (i : Int) ≤ 256
      · have hil2 : i < qs.length := by have := HL.out; omega
        obtain ⟨b, off, rfl, hb, hcs⟩ := HCE.out i hil2
        obtain ⟨X, a0, hx⟩ := hcs _ HB.out
        have hbw := Nat.lt_of_lt_of_le hb HB.out.size
        have hx0 : (0 : Int) ≤ (X.size : Int) := by omega
        clear hcs HCE
        by_cases hbig : k + (X.size : Int) > 40000
        · go_wp2_with fail
          go_ret
          exact short_p HB.out
        · go_wp2_with fail
          go_roundg (n - (i + 1))
          case measure => omega
          case rel => exact ⟨i + 1, _, rfl, rfl, by omega, rfl, rfl, by omega, by omega⟩
      · clear HCE
        go_wp2_with fail
        go_ret
        exact short_p HB.out
    · clear HCE
      go_wp2_with fail
      go_ret
      exact short_p HB.out
end Go.Proofs.Ytdegkfnlafgheaa.Vr
