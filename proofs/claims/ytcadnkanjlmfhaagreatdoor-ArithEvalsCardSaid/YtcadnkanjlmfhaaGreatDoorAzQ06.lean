/- DERIVED. Texts of this claim, joined: ArVals, ArNumb, ArRead. -/
import Derived.Test.YtcadnkanjlmfhaaGreatDoorAzQ05
import Derived.Deep.LoopGhost
namespace Go.Proofs.YtcadnkanjlmfhaaGreatDoor.Ar
open Go.RowKit
open PathM WdM ArM
open Go.Proofs.YtcadnkanjlmfhaaGreatDoor.Wd
set_option linter.unusedVariables false

/-- Variables, from wherever. -/
def VaIn (w : World) (v : Value) (vs : Vs) : Prop := ∃ (A : Option Addr) (c : Nat), v = .slice A vs.length c ∧ (vs.length ≤ 1000000 ∧ ∀ x ∈ vs, x.1.length ≤ 4611686018427387904 ∧ x.2.length ≤ 4611686018427387904) ∧ (vs ≠ [] → ∃ b off, A = some ⟨b, off, none⟩ ∧ b < w.heap.size ∧ ∀ i (h : i < vs.length), w.cell? ⟨b, off + i * 2, none⟩ = some (.string (nm vs[i].1)) ∧ w.cell? ⟨b, off + i * 2 + 1, none⟩ = some (.string (nm vs[i].2)))
theorem VaIn.below {w w' : World} {v : Value} {vs : Vs} (h : VaIn w v vs) (hb : Below w.heap.size w w') : VaIn w' v vs := by
  obtain ⟨A, c, hv, hl, h⟩ := h
  refine ⟨A, c, hv, hl, fun hne => ?_⟩
  obtain ⟨b, off, hA, hlt, hc⟩ := h hne
  exact ⟨b, off, hA, Nat.lt_of_lt_of_le hlt hb.size, fun i hi => ⟨(World.cell?_of_block (hb.block b hlt)).trans (hc i hi).1, (World.cell?_of_block (hb.block b hlt)).trans (hc i hi).2⟩⟩
/-- Where the variable of a name is, from the n-th on. -/
def idxV (name : Bs) : Nat → Vs → Int
  | _, [] => -1
  | n, x :: r => if x.1 = name then (n : Int) else idxV name (n + 1) r
theorem nm_inj2 {a b : Bs} (h : nm a = nm b) : a = b := nm_inj h
theorem str_same (a b : Bs) : ((nm a).toList == (nm b).toList) = decide (a = b) := by
  rw [listD, listD, nm_data, nm_data]
  rw [Bool.eq_iff_iff]; simp
set_option maxHeartbeats 800000 in
theorem is_any (x y name : Bs) (cb : Nat) (w : World) (hc : w.cell? ⟨cb, 0, none⟩ = some (.string (nm name))) (hlt : cb < w.heap.size) :
    Calls Tryz.prog 105 #[.agg #[.string (nm x), .string (nm y)], .pointer (some ⟨cb, 0, none⟩)] w fun e w' => e = .returned (.bool (decide (x = name))) ∧ Below w.heap.size w w' := by
  have q := str_same x name
  generalize decide (x = name) = b at *
  generalize nm x = X at *
  generalize nm y = Y at *
  generalize nm name = N at *
  go_enter Tryz.func105, Tryz.ntmps105
  go_wp2
  go_ret
  exact ⟨rfl, (Below.refl _ _).alloc (Nat.le_refl _) _⟩
set_option maxHeartbeats 1600000 in
theorem indexf_any (vs : Vs) (name : Bs) (v : Value) (cb : Nat) (w : World) (h : VaIn w v vs) (hc : w.cell? ⟨cb, 0, none⟩ = some (.string (nm name))) (hlt : cb < w.heap.size) :
    Calls Tryz.prog 104 #[v, .func (.func 105) #[] #[.pointer (some ⟨cb, 0, none⟩)]] w fun e w' => e = .returned (.int .i64 (idxV name 0 vs)) ∧ Below w.heap.size w w' := by
  obtain ⟨A, c, rfl, ⟨hl, _⟩, hcell⟩ := h
  have HCE := Lib.hid hcell
  obtain ⟨r, hr⟩ : ∃ r, idxV name 0 vs = r := ⟨_, rfl⟩
  rw [hr]
  have HR : Hid (idxV name 0 (vs.drop 0) = r) := Lib.hid (by rw [List.drop_zero]; exact hr)
  obtain ⟨n, hn⟩ : ∃ n, vs.length = n := ⟨_, rfl⟩
  have HN := Lib.hid hn
  rw [hn] at hl ⊢
  clear hcell hr hn
  go_enter Tryz.func104, Tryz.ntmps104
  go_wp2_with fail
  go_loopg [8] n (fun g x wr => ∃ i : Nat, g = n - i ∧ x = .int .i64 i ∧ i ≤ n ∧ Below w.heap.size w wr ∧ Hid (idxV name i (vs.drop i) = r))
  case atStart => exact ⟨0, by omega, rfl, by omega, Below.refl _ _, HR⟩
  case round =>
    obtain ⟨i, rfl, rfl, hi, hbe, HI⟩ := hrel
    have HBE := Lib.hid hbe
    have hwr := hbe.size
    by_cases hil : i < n
    · have hil2 : i < vs.length := by have := HN.out; omega
      obtain ⟨b, off, hA, hb, hcs⟩ := HCE.out (fun e => by rw [e] at hil2; cases hil2)
      subst hA
      obtain ⟨a0, a1⟩ := hcs i hil2
      have hd : vs.drop i = vs[i] :: vs.drop (i + 1) := List.drop_eq_getElem_cons hil2
      have hI := HI.out
      rw [hd, idxV] at hI
      generalize vs[i] = x at *
      obtain ⟨x1, x2⟩ := x
      replace hI : (if x1 = name then (i : Int) else idxV name (i + 1) (vs.drop (i + 1))) = r := hI
      replace a0 := (World.cell?_of_block (hbe.block b hb)).trans a0
      replace a1 := (World.cell?_of_block (hbe.block b hb)).trans a1
      have c0 := (World.cell?_of_block (hbe.block cb hlt)).trans hc
      have hz1 : b < wr.heap.size := by omega
      have hz2 : cb < wr.heap.size := by omega
      have HIS := Lib.hid (is_any x1 x2 name cb wr c0 hz2)
      have hII := Lib.hid hI
      clear hcs hd hI hbe HI c0
      generalize hbd : decide (x1 = name) = bb at *
      have HBD := Lib.hid hbd
      clear hbd
      dsimp only at a0 a1
      generalize nm x1 = X1 at *
      generalize nm x2 = X2 at *
      go_wp2_with fail
      refine HIS.out.mono ?_
      rintro e W2 ⟨rfl, hb2⟩
      have HB2 := Lib.hid (HBE.out.trans (hb2.mono HBE.out.size))
      clear hb2
      cases bb with
      | true =>
        have hx : x1 = name := of_decide_eq_true HBD.out
        have hr : (i : Int) = r := by have := hII.out; rwa [if_pos hx] at this
        clear hx
        go_wp2_with fail
        go_ret
        exact ⟨by first | rfl | exact ret_int hr, HB2.out⟩
      | false =>
        have hx : ¬ x1 = name := of_decide_eq_false HBD.out
        have HNX : Hid (idxV name (i + 1) (vs.drop (i + 1)) = r) := Lib.hid (by have := hII.out; rwa [if_neg hx] at this)
        clear hx
        go_wp2_with fail
        go_roundg (n - (i + 1))
        case measure => omega
        case rel => exact ⟨i + 1, rfl, by go_num, by omega, HB2.out, HNX⟩
    · have hr : (-1 : Int) = r := by
        have := HI.out
        rw [List.drop_of_length_le (by have := HN.out; omega), idxV] at this
        exact this
      clear hbe HI
      go_wp2_with fail
      go_ret
      exact ⟨ret_int hr, HBE.out⟩
theorem VaIn.form {w : World} {v : Value} {vs : Vs} (h : VaIn w v vs) : ∃ A c, v = .slice A vs.length c := by obtain ⟨A, c, hv, _⟩ := h; exact ⟨A, c, hv⟩
set_option maxHeartbeats 1600000 in
theorem find_any (vs : Vs) (name : Bs) (v : Value) (vb : Nat) (w : World) (hv : w.cell? ⟨vb, 0, none⟩ = some v) (hlt : vb < w.heap.size) (h : VaIn w v vs) :
    Calls Tryz.prog 98 #[.pointer (some ⟨vb, 0, none⟩), .string (nm name)] w fun e w' => e = .returned (.int .i64 (idxV name 0 vs)) ∧ Below w.heap.size w w' := by
  have hmf : ∀ (fn : Fn) (first cap : Array Value) (w : World), (Instr.makeFunc fn first cap).run Tryz.prog w = .ok (.func fn first cap) w := fun _ _ _ _ => rfl
  have hb : Below w.heap.size w (w.alloc (.cells #[.string (nm name)] 9)) := (Below.refl _ _).alloc (Nat.le_refl _) _
  have hi := indexf_any vs name v w.heap.size (w.alloc (.cells #[.string (nm name)] 9)) (h.below hb) (cell_blk (heap_alloc_new w _) 0) (by simp)
  obtain ⟨A, c, rfl⟩ := h.form
  have HI := Lib.hid hi
  have HB := Lib.hid hb
  generalize idxV name 0 vs = r at *
  generalize nm name = N at *
  clear hi hb h
  go_enter Tryz.func98, Tryz.ntmps98
  go_wp2_with fail
  refine HI.out.mono ?_
  rintro e W ⟨rfl, hb2⟩
  have HB2 := Lib.hid (HB.out.trans (hb2.mono HB.out.size))
  clear hb2
  go_wp2_with fail
  go_ret
  exact ⟨rfl, HB2.out⟩
/-- Where a variable is, and what it has. -/
theorem idx_find (name : Bs) : ∀ (vs : Vs) (n : Nat), (idxV name n vs = -1 ∧ findV vs name = none) ∨ ∃ i, ∃ (h : i < vs.length), idxV name n vs = ((n + i : Nat) : Int) ∧ findV vs name = some vs[i].2 ∧ vs[i].1 = name
  | [], n => .inl ⟨rfl, rfl⟩
  | x :: r, n => by
    by_cases hx : x.1 = name
    · refine .inr ⟨0, by simp, ?_, ?_, hx⟩
      · rw [idxV, if_pos hx]; simp
      · unfold findV; simp [hx]
    · have hf : findV (x :: r) name = findV r name := by unfold findV; simp [hx]
      rw [idxV, if_neg hx, hf]
      rcases idx_find name r (n + 1) with h | ⟨i, hi, h1, h2, h3⟩
      · exact .inl h
      · exact .inr ⟨i + 1, by simpa using hi, by rw [h1]; congr 1; omega, by simpa using h2, by simpa using h3⟩

end Go.Proofs.YtcadnkanjlmfhaaGreatDoor.Ar
namespace Go.Proofs.YtcadnkanjlmfhaaGreatDoor.Ar
open Go.RowKit
open PathM WdM ArM
open Go.Proofs.YtcadnkanjlmfhaaGreatDoor.Wd
open Go.Proofs.YtcadnkanjlmfhaaGreatDoor.NumM
set_option linter.unusedVariables false

theorem emp_no {b : ByteArray} (h : b.data.toList ≠ []) : b.toList.isEmpty = false ∧ ¬ b.toList = [] := by
  rw [listD]
  exact ⟨List.isEmpty_eq_false_iff.2 h, h⟩
theorem emp_yes {b : ByteArray} (h : b.data.toList = []) : b.toList = [] := by rw [listD]; exact h
theorem read_zero (b m : Nat) (l : List UInt8) (h : readE b m l ≠ 0) : readN b m l = 0 := by
  unfold readE at h
  unfold readN
  split
  · rfl
  · rename_i h1
    rw [if_neg h1] at h
    split
    · rfl
    · rename_i h2
      rw [if_neg h2] at h
      exact absurd rfl h
theorem con_zero (l : List UInt8) (h : conE l ≠ 0) : conN l = 0 := by
  unfold conE at h
  unfold conN
  split
  · rename_i h1
    rw [if_pos h1] at h
    split
    · rename_i h2
      rw [if_pos h2] at h
      exact read_zero _ _ _ h
    · rename_i h2
      rw [if_neg h2] at h
      exact read_zero _ _ _ h
  · rename_i h1
    rw [if_neg h1] at h
    exact read_zero _ _ _ h
set_option maxHeartbeats 3200000 in
theorem number_any (vs : Vs) (name : Bs) (v : Value) (vb : Nat) (w : World) (hv : w.cell? ⟨vb, 0, none⟩ = some v) (hlt : vb < w.heap.size) (h : VaIn w v vs) :
    Calls Tryz.prog 100 #[.pointer (some ⟨vb, 0, none⟩), .string (nm name)] w fun e w' => e = .returned (pairE (numberL vs name)) ∧ Below w.heap.size w w' := by
  have hf := find_any vs name v vb w hv hlt h
  obtain ⟨A, c, rfl, ⟨hl, hsz⟩, hcell⟩ := h
  rcases idx_find name vs 0 with ⟨h1, h2⟩ | ⟨i, hi, h1, h2, h3⟩
  · rw [h1] at hf
    have hr : numberL vs name = .ok 0 := by unfold numberL; rw [h2]
    rw [hr]
    have HF := Lib.hid hf
    generalize nm name = N at *
    clear hf hr h1 h2 hcell hsz
    go_enter Tryz.func100, Tryz.ntmps100
    go_wp2_with (go_at_call 98; refine HF.out.mono ?_; rintro e W ⟨rfl, hb⟩; have HB := Lib.hid hb; clear hb)
    go_ret2
    exact ⟨rfl, HB.out⟩
  · rw [h1] at hf
    simp only [Nat.zero_add] at hf
    obtain ⟨b, off, hA, hb, hcs⟩ := hcell (fun e => by rw [e] at hi; cases hi)
    subst hA
    have a1 := (hcs i hi).2
    have hs2 := (hsz _ (List.getElem_mem hi)).2
    have hil : (i : Int) < (vs.length : Int) := by omega
    generalize vs[i].2 = val at a1 hs2 h2
    generalize vs[i].1 = nam at a1
    have HF := Lib.hid hf
    by_cases hv0 : val = []
    · have hr : numberL vs name = .ok 0 := by unfold numberL; rw [h2]; simp only; rw [if_pos hv0]
      rw [hr]
      have e1 := emp_yes (b := nm val) (by rw [nm_data]; exact hv0)
      generalize nm val = V at *
      generalize nm name = N at *
      clear hf hr h1 h2 h3 hcs hcell hsz hi hv0 hs2
      generalize vs.length = n at *
      go_enter Tryz.func100, Tryz.ntmps100
      go_wp2_with (go_at_call 98; refine HF.out.mono ?_; rintro e W ⟨rfl, hb2⟩; have HB := Lib.hid hb2; replace a1 := (World.cell?_of_block (hb2.block b hb)).trans a1; replace hv := (World.cell?_of_block (hb2.block vb hlt)).trans hv; replace hlt := Nat.lt_of_lt_of_le hlt hb2.size; replace hb := Nat.lt_of_lt_of_le hb hb2.size; clear hb2)
      go_ret2
      exact ⟨rfl, HB.out⟩
    · obtain ⟨e1, e2⟩ := emp_no (b := nm val) (by rw [nm_data]; exact hv0)
      have hm : (nm val).size ≤ maxLen := by rw [nm_size]; unfold maxLen; omega
      have hd := fun W => decimal_any (nm val) W hm
      have hc := fun W => constant_any (nm val) W hm
      rw [nm_data] at hd hc
      by_cases hde : decE val = 0
      · have hr : numberL vs name = .ok (decN val) := by unfold numberL; rw [h2]; simp only; rw [if_neg hv0, if_pos hde]
        rw [hr]
        rw [hde] at hd
        have HD := Lib.hid hd
        generalize decN val = dn at *
        generalize nm val = V at *
        generalize nm name = N at *
        clear hf hr h1 h2 h3 hcs hcell hsz hi hv0 hs2 hd hc hde hm
        generalize vs.length = n at *
        go_enter Tryz.func100, Tryz.ntmps100
        go_wp2_with (first | (go_at_call 98; refine HF.out.mono ?_; rintro e W ⟨rfl, hb2⟩; have HB := Lib.hid hb2; replace a1 := (World.cell?_of_block (hb2.block b hb)).trans a1; replace hv := (World.cell?_of_block (hb2.block vb hlt)).trans hv; replace hlt := Nat.lt_of_lt_of_le hlt hb2.size; replace hb := Nat.lt_of_lt_of_le hb hb2.size; clear hb2) | (go_at_call 103; refine (HD.out _).mono ?_; rintro e W2 ⟨rfl, rfl⟩))
        go_ret2
        exact ⟨rfl, HB.out⟩
      · have hr : pairE (numberL vs name) = .tuple #[.int .i64 (conN val : Int), .int .i64 (conE val : Int)] := by
          unfold numberL
          rw [h2]
          simp only
          rw [if_neg hv0, if_neg hde]
          by_cases hce : conE val = 0
          · rw [if_pos hce, hce]; rfl
          · rw [if_neg hce, con_zero _ hce]; rfl
        rw [hr]
        have hq : ((decE val : Int) != 0) = true := by simpa using by omega
        have HD := Lib.hid hd
        have HC := Lib.hid hc
        generalize decN val = dn at *
        generalize hdz : (decE val : Int) = dz at *
        generalize (conN val : Int) = cn at *
        generalize (conE val : Int) = ce at *
        generalize nm val = V at *
        generalize nm name = N at *
        clear hf hr h1 h2 h3 hcs hcell hsz hi hv0 hs2 hd hc hde hm hdz
        generalize vs.length = n at *
        go_enter Tryz.func100, Tryz.ntmps100
        go_wp2_with (first | (go_at_call 98; refine HF.out.mono ?_; rintro e W ⟨rfl, hb2⟩; have HB := Lib.hid hb2; replace a1 := (World.cell?_of_block (hb2.block b hb)).trans a1; replace hv := (World.cell?_of_block (hb2.block vb hlt)).trans hv; replace hlt := Nat.lt_of_lt_of_le hlt hb2.size; replace hb := Nat.lt_of_lt_of_le hb hb2.size; clear hb2) | (go_at_call 103; refine (HD.out _).mono ?_; rintro e W2 ⟨rfl, rfl⟩) | (go_at_call 40; refine (HC.out _).mono ?_; rintro e W3 ⟨rfl, rfl⟩))
        go_ret2
        exact ⟨rfl, HB.out⟩

end Go.Proofs.YtcadnkanjlmfhaaGreatDoor.Ar
namespace Go.Proofs.YtcadnkanjlmfhaaGreatDoor.Ar
open Go.RowKit
open PathM WdM ArM
open Go.Proofs.YtcadnkanjlmfhaaGreatDoor.Wd
set_option linter.unusedVariables false

/-- The sign of a token, or its kind. -/
def sgOf : Tok → Bs | .sg s => s | .num _ _ => [110, 117, 109, 98, 101, 114] | .nam _ => [110, 97, 109, 101]
def nOf : Tok → Int | .num _ n => n | _ => 0
def TkOk : Tok → Prop | .sg s => s.length ≤ 3 ∧ s ≠ [] | .num _ n => 0 ≤ n ∧ n ≤ 9223372036854775807 | .nam t => t.length ≤ 8192
def tokV (t : Tok) : Value := .agg #[.string (nm (sgOf t)), .string (nm t.text), .int .i64 (nOf t)]
def noTok : Value := .agg #[.string (nm []), .string (nm []), .int .i64 0]
/-- Tokens in blocks ahead of one. -/
def TksIn (B : Nat) (w : World) (v : Value) (l : List Tok) : Prop := ∃ (A : Option Addr) (c : Nat), v = .slice A l.length c ∧ (l.length ≤ c ∧ l.length ≤ 1000000 ∧ ∀ t ∈ l, TkOk t) ∧ (l ≠ [] → ∃ b off, A = some ⟨b, off, none⟩ ∧ b < B ∧ ∀ i (h : i < l.length), w.cell? ⟨b, off + i * 3, none⟩ = some (.string (nm (sgOf l[i]))) ∧ w.cell? ⟨b, off + i * 3 + 1, none⟩ = some (.string (nm l[i].text)) ∧ w.cell? ⟨b, off + i * 3 + 2, none⟩ = some (.int .i64 (nOf l[i])))
theorem TksIn.keep {B : Nat} {w w' : World} {v : Value} {l : List Tok} (h : TksIn B w v l) (hb : ∀ b, b < B → w'.heap[b]? = w.heap[b]?) : TksIn B w' v l := by
  obtain ⟨A, c, hv, hl, h⟩ := h
  refine ⟨A, c, hv, hl, fun hne => ?_⟩
  obtain ⟨b, off, hA, hlt, hc⟩ := h hne
  have e := hb _ hlt
  exact ⟨b, off, hA, hlt, fun i hi => ⟨(World.cell?_of_block e).trans (hc i hi).1, (World.cell?_of_block e).trans (hc i hi).2.1, (World.cell?_of_block e).trans (hc i hi).2.2⟩⟩
/-- Behind the first. -/
theorem TksIn.tail {B : Nat} {w : World} {b off n c : Nat} {t : Tok} {l : List Tok} (h : TksIn B w (.slice (some ⟨b, off, none⟩) n c) (t :: l)) : TksIn B w (.slice (some ⟨b, off + 3, none⟩) l.length (c - 1)) l := by
  obtain ⟨A, c', hv, ⟨hl, hl2, hk⟩, h⟩ := h
  obtain ⟨b', off', hA, hlt, hc⟩ := h (by simp)
  subst hA
  simp only [Value.slice.injEq, Option.some.injEq, Addr.mk.injEq] at hv
  obtain ⟨⟨rfl, rfl, _⟩, _, rfl⟩ := hv
  refine ⟨_, _, rfl, ⟨by simp at hl; omega, by simp at hl2; omega, fun x hx => hk x (List.mem_cons_of_mem _ hx)⟩, fun hne => ⟨b, off + 3, rfl, hlt, fun i hi => ?_⟩⟩
  have := hc (i + 1) (by simpa using hi)
  simp only [List.getElem_cons_succ] at this
  have e : off + (i + 1) * 3 = off + 3 + i * 3 := by omega
  rw [e] at this
  exact this
theorem TksIn.head {B : Nat} {w : World} {v : Value} {t : Tok} {l : List Tok} (h : TksIn B w v (t :: l)) : ∃ b off c, v = .slice (some ⟨b, off, none⟩) (l.length + 1) c ∧ b < B ∧ l.length + 1 ≤ c ∧ l.length + 1 ≤ 1000000 ∧ TkOk t ∧
    w.cell? ⟨b, off, none⟩ = some (.string (nm (sgOf t))) ∧ w.cell? ⟨b, off + 1, none⟩ = some (.string (nm t.text)) ∧ w.cell? ⟨b, off + 2, none⟩ = some (.int .i64 (nOf t)) := by
  obtain ⟨A, c, rfl, ⟨hl, hl2, hk⟩, h⟩ := h
  obtain ⟨b, off, rfl, hlt, hc⟩ := h (by simp)
  obtain ⟨a0, a1, a2⟩ := hc 0 (by simp)
  rw [List.getElem_cons_zero] at a0 a1 a2
  simp only [Nat.zero_mul, Nat.add_zero] at a0 a1 a2
  exact ⟨b, off, c, rfl, hlt, by simpa using hl, by simpa using hl2, hk t (List.mem_cons_self ..), a0, a1, a2⟩
theorem TksIn.none {B : Nat} {w : World} {v : Value} (h : TksIn B w v []) : ∃ A c, v = .slice A 0 c := by
  obtain ⟨A, c, rfl, _⟩ := h
  exact ⟨A, c, rfl⟩
/-- A reader: what is left, and the levels around. -/
def RdA (w : World) (rb : Nat) (l : List Tok) (dp : Nat) : Prop := ∃ v, w.heap[rb]? = some (.cells #[v, .int .i64 dp] 76 (0, 0)) ∧ TksIn rb w v l ∧ dp ≤ 64
section
variable {w w' : World} {rb dp : Nat} {l : List Tok}
theorem RdA.lt (h : RdA w rb l dp) : rb < w.heap.size := by obtain ⟨v, h, _⟩ := h; exact fin_at h
theorem RdA.told (h : RdA w rb l dp) (hb : Below w.heap.size w w') : RdA w' rb l dp := by
  have hlt := h.lt
  obtain ⟨v, h, h2, h3⟩ := h
  exact ⟨v, (hb.block rb hlt).trans h, h2.keep (fun b hb2 => hb.block b (by omega)), h3⟩
end
set_option maxHeartbeats 1600000 in
theorem next_none (rb dp : Nat) (w : World) (h : RdA w rb [] dp) :
    Calls Tryz.prog 69 #[.pointer (some ⟨rb, 0, none⟩)] w fun e w' => e = .returned noTok ∧ Below w.heap.size w w' := by
  have hrb := h.lt
  obtain ⟨v, hb, h, _⟩ := h
  obtain ⟨A, c, rfl⟩ := h.none
  have hv := cell_blk hb 0
  clear hb h
  go_enter Tryz.func69, Tryz.ntmps69
  go_wp2
  refine bodyPost_ret (results_cell_row rfl _ _ _ 72 _ (0, 0) _ rfl (heap_alloc_new _ _) Tryz.underlying72 rfl (by kernel_rfl)) rfl ?_
  exact ⟨rfl, (Below.refl _ _).alloc (Nat.le_refl _) _⟩
set_option maxHeartbeats 1600000 in
theorem next_some (t : Tok) (l : List Tok) (rb dp : Nat) (w : World) (h : RdA w rb (t :: l) dp) :
    Calls Tryz.prog 69 #[.pointer (some ⟨rb, 0, none⟩)] w fun e w' => e = .returned (tokV t) ∧ Below w.heap.size w w' := by
  have hrb := h.lt
  obtain ⟨v, hb, h, _⟩ := h
  obtain ⟨b, off, c, rfl, hlt, hl, hc, _, a0, a1, a2⟩ := h.head
  have hv := cell_blk hb 0
  have hbz : b < w.heap.size := by omega
  unfold tokV
  generalize nm (sgOf t) = S at *
  generalize nm t.text = T at *
  generalize nOf t = n at *
  generalize l.length = m at *
  clear h hb
  go_enter Tryz.func69, Tryz.ntmps69
  go_wp2
  refine bodyPost_ret (results_cell_row rfl _ _ _ 72 _ (0, 0) _ rfl (heap_alloc_new _ _) Tryz.underlying72 rfl (by kernel_rfl)) rfl ?_
  exact ⟨rfl, (Below.refl _ _).alloc (Nat.le_refl _) _⟩
/-- One token less. -/
theorem RdA.less {w : World} {rb dp : Nat} {t : Tok} {l : List Tok} {b off n c m c2 : Nat} (hb : w.heap[rb]? = some (.cells #[.slice (some ⟨b, off, none⟩) n c, .int .i64 dp] 76 (0, 0))) (h : TksIn rb w (.slice (some ⟨b, off, none⟩) n c) (t :: l)) (hd : dp ≤ 64) (hm : m = l.length) (hc2 : c2 = c - 1) : RdA (w.setCell ⟨rb, 0, none⟩ (.slice (some ⟨b, off + 3, none⟩) m c2)) rb l dp := by
  subst hm
  subst hc2
  refine ⟨_, by simpa using set_blk (j := 0) hb (.slice (some ⟨b, off + 3, none⟩) l.length (c - 1)), h.tail.keep (fun k hk => Below.heap_setCell _ _ _ _ (fun e => ?_)), hd⟩
  have : k = rb := e
  omega
theorem RdA.last {w : World} {rb dp : Nat} {A A2 : Option Addr} {t : Tok} {l : List Tok} {n c m : Nat} (hb : w.heap[rb]? = some (.cells #[.slice A n c, .int .i64 dp] 76 (0, 0))) (hd : dp ≤ 64) (hm : m = l.length) (h0 : m = 0) : RdA (w.setCell ⟨rb, 0, none⟩ (.slice A2 m 0)) rb l dp := by
  subst hm
  have e : l = [] := List.length_eq_zero_iff.1 h0
  subst e
  exact ⟨_, by simpa using set_blk (j := 0) hb (.slice A2 0 0), ⟨A2, 0, rfl, ⟨by simp, by simp, by simp⟩, fun h => absurd rfl h⟩, hd⟩
/-- Is it that sign? -/
def takeL (s : Bs) : List Tok → Option (List Tok)
  | [] => none
  | t :: r => if sgOf t = s then some r else none
set_option maxHeartbeats 1600000 in
theorem take_any (s : Bs) (l : List Tok) (rb dp : Nat) (w : World) (h : RdA w rb l dp) :
    Calls Tryz.prog 59 #[.pointer (some ⟨rb, 0, none⟩), .string (nm s)] w fun e w' => Kept (· = rb) w w' ∧ match takeL s l with
      | some r => e = .returned (.int .i64 0) ∧ RdA w' rb r dp
      | none => e = .returned (.int .i64 61) ∧ w' = w := by
  have hrb := h.lt
  have H := Lib.hid h
  obtain ⟨v, hb, h, hd⟩ := h
  have hf := froz_blk hb 0
  cases l with
  | nil =>
    obtain ⟨A, c, rfl⟩ := h.none
    have hv := cell_blk hb 0
    generalize nm s = S at *
    clear hb h
    unfold takeL
    dsimp only
    go_enter Tryz.func59, Tryz.ntmps59
    go_wp2
    go_ret
    exact ⟨Kept.refl _ _, rfl, rfl⟩
  | cons t l =>
    obtain ⟨b, off, c, rfl, hlt, hl, hc, _, a0, a1, a2⟩ := h.head
    have hv := cell_blk hb 0
    have hbz : b < w.heap.size := by omega
    unfold takeL
    dsimp only
    have q := str_same (sgOf t) s
    by_cases hq : sgOf t = s
    · rw [if_pos hq]
      rw [decide_eq_true hq] at q
      have HL : Hid (∀ m c2, m = l.length → c2 = c - 1 → RdA (w.setCell ⟨rb, 0, none⟩ (.slice (some ⟨b, off + 3, none⟩) m c2)) rb l dp) := Lib.hid (fun m c2 hm h2 => RdA.less hb h hd hm h2)
      have HL2 : Hid (∀ A2 m, m = l.length → m = 0 → RdA (w.setCell ⟨rb, 0, none⟩ (.slice A2 m 0)) rb l dp) := Lib.hid (fun A2 m hm h2 => RdA.last (t := t) hb hd hm h2)
      rw [hq] at *
      generalize hN : l.length = m at *
      have HN := Lib.hid hN
      generalize nm s = S at *
      clear hb h hN hq H
      go_enter Tryz.func59, Tryz.ntmps59
      go_wp2
      all_goals go_ret
      all_goals refine ⟨Kept.setCell _ _ rfl, rfl, ?_⟩
      · exact HL2.out _ _ rfl (by omega)
      · exact HL.out _ _ rfl rfl
    · rw [if_neg hq]
      rw [decide_eq_false hq] at q
      generalize nm s = S at *
      generalize nm (sgOf t) = T at *
      generalize l.length = m at *
      clear hb h hq H
      go_enter Tryz.func59, Tryz.ntmps59
      go_wp2
      go_ret
      exact ⟨Kept.refl _ _, rfl, rfl⟩

/-- What something that is reckoned is, as a value. -/
def tmV : Tm → Value
  | .const n => .iface 140 (.int .i64 n)
  | .named t => .iface 141 (.string (nm t))
  | .led s t => .iface 139 (.agg #[.string (nm s), tmV t])
  | .pair s l r => .iface 128 (.agg #[.string (nm s), tmV l, tmV r])
  | .gift b n t => .iface 101 (.agg #[.string (nm b), .string (nm n), tmV t])
  | .choice a b c => .iface 118 (.agg #[tmV a, tmV b, tmV c])
/-- An interface's value. -/
def IfV (v : Value) : Prop := v = .nilIface ∨ ∃ T x, v = .iface T x
theorem tmV_if (t : Tm) : IfV (tmV t) := by cases t <;> exact .inr ⟨_, _, rfl⟩
/-- A call that reads, as the model says. -/
def RdPost (rb dp : Nat) (m : Rr) (w : World) (e : Ending) (w' : World) : Prop :=
  Kept (· = rb) w w' ∧ match m with
    | .ok (t, r) => e = .returned (.tuple #[tmV t, .int .i64 0]) ∧ RdA w' rb r dp
    | .error er => ∃ v r, e = .returned (.tuple #[v, .int .i64 er]) ∧ RdA w' rb r dp ∧ er ≠ 0 ∧ IfV v
theorem RdPost.yes {rb dp : Nat} {m : Rr} {w w' : World} {t : Tm} {r : List Tok} {v : Value} (hm : m = .ok (t, r)) (hv : v = tmV t) (hk : Kept (· = rb) w w') (h : RdA w' rb r dp) : RdPost rb dp m w (.returned (.tuple #[v, .int .i64 0])) w' := by
  subst hm; subst hv; exact ⟨hk, rfl, h⟩
theorem RdPost.no {rb dp : Nat} {m : Rr} {w w' : World} {er : Int} {r : List Tok} {v : Value} (hm : m = .error er) (he : er ≠ 0) (hi : IfV v) (hk : Kept (· = rb) w w') (h : RdA w' rb r dp) : RdPost rb dp m w (.returned (.tuple #[v, .int .i64 er])) w' := by
  subst hm; exact ⟨hk, _, _, rfl, h, he, hi⟩
def plainL : List Tok → Rr
  | .num _ n :: r => .ok (.const n, r)
  | .nam t :: r => .ok (.named t, r)
  | _ => .error 61
theorem sg_num (t : Tok) (hk : TkOk t) : (sgOf t = [110, 117, 109, 98, 101, 114] ↔ ∃ x n, t = .num x n) ∧ (sgOf t = [110, 97, 109, 101] ↔ ∃ x, t = .nam x) := by
  cases t with
  | sg s =>
    have h := hk.1
    refine ⟨⟨fun e => ?_, fun ⟨x, n, e⟩ => by cases e⟩, ⟨fun e => ?_, fun ⟨x, e⟩ => by cases e⟩⟩
    · have e : s = _ := e
      rw [e] at h; simp at h
    · have e : s = _ := e
      rw [e] at h; simp at h
  | num x n => exact ⟨⟨fun _ => ⟨x, n, rfl⟩, fun _ => rfl⟩, ⟨fun e => by simp [sgOf] at e, fun ⟨x, e⟩ => by cases e⟩⟩
  | nam x => exact ⟨⟨fun e => by simp [sgOf] at e, fun ⟨x, n, e⟩ => by cases e⟩, ⟨fun _ => ⟨x, rfl⟩, fun _ => rfl⟩⟩
theorem RdA.off {w : World} {rb dp : Nat} {l : List Tok} (h : RdA w rb l dp) : ∃ v, w.cell? ⟨rb, 0, none⟩ = some v := by
  obtain ⟨v, h, _⟩ := h
  exact ⟨v, cell_blk h 0⟩
set_option maxHeartbeats 3200000 in
theorem plain_any (l : List Tok) (rb dp : Nat) (w : World) (h : RdA w rb l dp) :
    Calls Tryz.prog 78 #[.pointer (some ⟨rb, 0, none⟩)] w (RdPost rb dp (plainL l) w) := by
  cases l with
  | nil =>
    have HN := Lib.hid (next_none rb dp w h)
    have HF : Hid (∀ W u, Below w.heap.size w W → RdPost rb dp (plainL []) w (.returned (.tuple #[.nilIface, .int .i64 61])) (W.alloc u)) := Lib.hid (fun W u hb => RdPost.no rfl (by decide) (.inl rfl) (kept_of_below (hb.alloc hb.size _)) (h.told (hb.alloc hb.size _)))
    unfold noTok at HN
    have q1 := str_is [] [110, 117, 109, 98, 101, 114]
    have q2 := str_is [] [110, 97, 109, 101]
    rw [decide_eq_false (by decide)] at q1 q2
    generalize nm [] = S at *
    clear h
    go_enter Tryz.func78, Tryz.ntmps78
    go_wp2_with (go_at_call 69; refine HN.out.mono ?_; rintro e W ⟨rfl, hb⟩; have HB := Lib.hid hb; clear hb)
    go_ret2
    exact HF.out _ _ HB.out
  | cons t l =>
    have HN := Lib.hid (next_some t l rb dp w h)
    unfold tokV at HN
    have hrb := h.lt
    have HH := Lib.hid h
    obtain ⟨v, hbk, h, hd⟩ := h
    obtain ⟨b, off, c, rfl, hlt, hl, hc, hk, a0, a1, a2⟩ := h.head
    have hv := cell_blk hbk 0
    have HBK := Lib.hid hbk
    have ha : ∀ (W : World) (u : Obj), Below W.heap.size W (W.alloc u) := fun W u => (Below.refl _ _).alloc (Nat.le_refl _) _
    have HL : Hid (∀ W u m c2, Below w.heap.size w W → m = l.length → c2 = c - 1 → RdA ((W.setCell ⟨rb, 0, none⟩ (.slice (some ⟨b, off + 3, none⟩) m c2)).alloc u) rb l dp) := Lib.hid (fun W u m c2 hW hm h2 => (RdA.less ((hW.block rb hrb).trans hbk) (h.keep (fun k hk => hW.block k (by omega))) hd hm h2).told (ha _ _))
    have HL2 : Hid (∀ W u A2 m, Below w.heap.size w W → m = l.length → m = 0 → RdA ((W.setCell ⟨rb, 0, none⟩ (.slice A2 m 0)).alloc u) rb l dp) := Lib.hid (fun W u A2 m hW hm h2 => (RdA.last (t := t) ((hW.block rb hrb).trans hbk) hd hm h2).told (ha _ _))
    have HK : Hid (∀ W u v, Below w.heap.size w W → Kept (· = rb) w ((W.setCell ⟨rb, 0, none⟩ v).alloc u)) := Lib.hid (fun W u v hW => (kept_of_below hW).trans ((Kept.setCell (S := (· = rb)) ⟨rb, 0, none⟩ v rfl).trans (kept_of_below (ha _ _))))
    clear ha
    have q1 := str_is (sgOf t) [110, 117, 109, 98, 101, 114]
    have q2 := str_is (sgOf t) [110, 97, 109, 101]
    obtain ⟨s1, s2⟩ := sg_num t hk
    clear h hbk a0 a1 a2
    cases t with
    | sg s =>
      rw [decide_eq_false (fun e => by obtain ⟨x, n, e⟩ := s1.1 e; cases e)] at q1
      rw [decide_eq_false (fun e => by obtain ⟨x, e⟩ := s2.1 e; cases e)] at q2
      have HF : Hid (∀ W u, Below w.heap.size w W → RdPost rb dp (plainL (.sg s :: l)) w (.returned (.tuple #[.nilIface, .int .i64 61])) (W.alloc u)) := Lib.hid (fun W u hb => RdPost.no rfl (by decide) (.inl rfl) (kept_of_below (hb.alloc hb.size _)) (HH.out.told (hb.alloc hb.size _)))
      generalize nm (sgOf (.sg s)) = S at *
      generalize nm (Tok.sg s).text = T at *
      generalize nOf (.sg s) = n at *
      generalize l.length = m at *
      clear s1 s2 HH HL HL2 HK hk
      go_enter Tryz.func78, Tryz.ntmps78
      go_wp2_with (go_at_call 69; refine HN.out.mono ?_; rintro e W ⟨rfl, hb⟩; have HB := Lib.hid hb; clear hb)
      go_ret2
      exact HF.out _ _ HB.out
    | num x k =>
      rw [decide_eq_true (s1.2 ⟨x, k, rfl⟩)] at q1
      have HP : Hid (∀ W', Kept (· = rb) w W' → RdA W' rb l dp → RdPost rb dp (plainL (.num x k :: l)) w (.returned (.tuple #[.iface 140 (.int .i64 k), .int .i64 0])) W') := Lib.hid (fun W' h1 h2 => RdPost.yes rfl rfl h1 h2)
      generalize nm (sgOf (.num x k)) = S at *
      generalize nm (Tok.num x k).text = T at *
      have hn : nOf (.num x k) = k := rfl
      rw [hn] at HN
      generalize l.length = m at *
      clear s1 s2 q2 HH hk hn
      go_enter Tryz.func78, Tryz.ntmps78
      go_wp2_with (go_at_call 69; refine HN.out.mono ?_; rintro e W ⟨rfl, hb⟩; have HB := Lib.hid hb; have c0 := (World.cell?_of_block (hb.block rb hrb)).trans hv; have f0 := froz_blk ((hb.block rb hrb).trans HBK.out) 0; have hrw := Nat.lt_of_lt_of_le hrb hb.size; clear hb)
      all_goals go_ret2
      all_goals refine HP.out _ (HK.out _ _ _ HB.out) ?_
      · exact HL2.out _ _ _ _ HB.out rfl (by omega)
      · exact HL.out _ _ _ _ HB.out rfl rfl
    | nam x =>
      have q1' : ((nm (sgOf (.nam x))).toList == [110, 117, 109, 98, 101, 114]) = false := by rw [q1]; exact decide_eq_false (fun e => by obtain ⟨x, n, e⟩ := s1.1 e; cases e)
      rw [decide_eq_true (s2.2 ⟨x, rfl⟩)] at q2
      have HP : Hid (∀ W', Kept (· = rb) w W' → RdA W' rb l dp → RdPost rb dp (plainL (.nam x :: l)) w (.returned (.tuple #[.iface 141 (.string (nm (Tok.nam x).text)), .int .i64 0])) W') := Lib.hid (fun W' h1 h2 => RdPost.yes rfl rfl h1 h2)
      generalize nm (sgOf (.nam x)) = S at *
      generalize nm (Tok.nam x).text = T at *
      generalize nOf (.nam x) = k at *
      generalize l.length = m at *
      clear s1 s2 q1 HH hk
      go_enter Tryz.func78, Tryz.ntmps78
      go_wp2_with (go_at_call 69; refine HN.out.mono ?_; rintro e W ⟨rfl, hb⟩; have HB := Lib.hid hb; have c0 := (World.cell?_of_block (hb.block rb hrb)).trans hv; have f0 := froz_blk ((hb.block rb hrb).trans HBK.out) 0; have hrw := Nat.lt_of_lt_of_le hrb hb.size; clear hb)
      all_goals go_ret2
      all_goals refine HP.out _ (HK.out _ _ _ HB.out) ?_
      · exact HL2.out _ _ _ _ HB.out rfl (by omega)
      · exact HL.out _ _ _ _ HB.out rfl rfl

end Go.Proofs.YtcadnkanjlmfhaaGreatDoor.Ar
