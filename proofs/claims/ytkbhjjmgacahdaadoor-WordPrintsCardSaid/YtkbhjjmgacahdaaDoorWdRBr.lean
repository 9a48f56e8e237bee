/- DERIVED. The walk over the document's braces, over what its parts answer. -/
import Derived.Test.YtkbhjjmgacahdaaDoorWdRAri
namespace Go.Proofs.YtkbhjjmgacahdaaDoor.Wd
open Go.RowKit
open PathM WdM
set_option linter.unusedVariables false

/-- How the document's reading of parts ends. -/
def RQ (D : Nat) (s : ByteArray) (i : Nat) (w : World) (o : Option (List PT × Bs)) (e : Ending) (w' : World) : Prop :=
  Below w.heap.size w w' ∧ ∃ (v : Value) (n er : Int), e = .returned (.agg #[v, .int .i64 n, .int .i64 er]) ∧
    ((er = 0 ∧ ∃ (k : Nat) (L : List PT), n = (k : Int) ∧ o = some (L, s.data.toList.drop k) ∧ i ≤ k ∧ k ≤ s.size ∧ PF D w.heap.size w' v L) ∨ (er ≠ 0 ∧ o = none ∧ v = .slice none 0 0))
def OB : Rs PT → Option (List PT × Bs)
  | .bad _ _ => none
  | .ok p r => some ([p], r)
theorem parLen_pos {l : Bs} (h : paramStands l = true) : 0 < paramLen l := by
  cases l with
  | nil => cases h
  | cons c t =>
    show 0 < (if letter c then leading named (c :: t) else if digit c then leading digit (c :: t) else 1)
    cases hl : letter c with
    | true =>
      have hn : named c = true := by unfold named; rw [hl]; rfl
      rw [if_pos rfl, leading, if_pos hn]; omega
    | false =>
      rw [if_neg (by decide)]
      cases hd : digit c with
      | true => rw [if_pos rfl, leading, if_pos hd]; omega
      | false => rw [if_neg (by decide)]; omega
theorem param_no {l : Bs} (h : parLen l = 0 ∨ 64 < parLen l) : ∃ a e, param l = .bad a e := by
  unfold param
  unfold parLen at h
  cases hp : paramStands l with
  | true =>
    rw [hp, if_pos rfl] at h
    have := parLen_pos hp
    rw [if_pos rfl, if_neg (by omega)]
    exact ⟨_, _, rfl⟩
  | false => rw [if_neg (by decide)]; exact ⟨_, _, rfl⟩
theorem param_yes {l : Bs} (h0 : parLen l ≠ 0) (h : parLen l ≤ 64) : param l = .ok (l.take (parLen l)) (l.drop (parLen l)) := by
  unfold param
  unfold parLen at h h0 ⊢
  cases hp : paramStands l with
  | true =>
    rw [hp, if_pos rfl] at h
    rw [if_pos rfl, if_pos h, if_pos rfl]
  | false => rw [hp, if_neg (by decide)] at h0; exact absurd rfl h0
theorem param_len {l : Bs} : parLen l ≤ l.length := by
  unfold parLen
  cases hp : paramStands l with
  | false => simp
  | true =>
    rw [if_pos rfl]
    cases l with
    | nil => cases hp
    | cons c t =>
      show (if letter c then leading named (c :: t) else if digit c then leading digit (c :: t) else 1) ≤ _
      split
      · exact leading_le named (c :: t)
      · split
        · exact leading_le digit (c :: t)
        · rw [List.length_cons]; omega
theorem ob_fin_nil (fl : Nat) (p : PT) : OB (finish fl p []) = none := rfl
theorem ob_fin_yes (fl : Nat) (p : PT) (t : Bs) : OB (finish fl p (125 :: t)) = some ([p], t) := rfl
theorem ob_fin_no (fl : Nat) (p : PT) {c : UInt8} (t : Bs) (h : ¬ c = 125) : OB (finish fl p (c :: t)) = none := by
  unfold finish; simp only [if_neg h]; rfl
/-- Memory while braces are read. -/
structure RBSt (D : Nat) (w W : World) (tb ob : ByteArray) (wv : Value) (pw : List PT) : Prop where
  res : W.heap[w.heap.size]? = some (.cells #[.slice none 0 0, .int .i64 0, .int .i64 0] 43 (0, 0))
  part : W.heap[w.heap.size + 1]? = some (.cells #[.int .i64 2, .bool false, .string tb, .string ob, wv] 32 (0, 0))
  word : PIn D W (fun k => w.heap.size + 1 < k) wv pw
  below : Below w.heap.size w W
theorem RBSt.step {D : Nat} {w W W' : World} {tb ob : ByteArray} {wv : Value} {pw : List PT} (h : RBSt D w W tb ob wv pw) (hb : Below W.heap.size W W') : RBSt D w W' tb ob wv pw :=
  ⟨(hb.block _ (fin_at h.res)).trans h.res, (hb.block _ (fin_at h.part)).trans h.part, PIn.below hb h.word, h.below.trans (hb.mono h.below.size)⟩
theorem RBSt.alloc {D : Nat} {w W : World} {tb ob : ByteArray} {wv : Value} {pw : List PT} (h : RBSt D w W tb ob wv pw) (o : Obj) : RBSt D w (W.alloc o) tb ob wv pw := h.step ((Below.refl _ _).alloc (Nat.le_refl _) o)
theorem RBSt.setT {D : Nat} {w W : World} {tb ob : ByteArray} {wv : Value} {pw : List PT} (h : RBSt D w W tb ob wv pw) (x : ByteArray) : RBSt D w (W.setCell ⟨w.heap.size + 1, 2, none⟩ (.string x)) x ob wv pw := by
  have hk := Kept.setCell (S := (· = w.heap.size + 1)) (w := W) ⟨w.heap.size + 1, 2, none⟩ (.string x) rfl
  exact ⟨hk.at h.res (by omega), set_blk h.part _, PIn.keep2 hk (fun k h1 h2 => by omega) h.word, h.below.trans (hk.below h.below.size (fun k e => by omega))⟩
theorem RBSt.setO {D : Nat} {w W : World} {tb ob : ByteArray} {wv : Value} {pw : List PT} (h : RBSt D w W tb ob wv pw) (x : ByteArray) : RBSt D w (W.setCell ⟨w.heap.size + 1, 3, none⟩ (.string x)) tb x wv pw := by
  have hk := Kept.setCell (S := (· = w.heap.size + 1)) (w := W) ⟨w.heap.size + 1, 3, none⟩ (.string x) rfl
  exact ⟨hk.at h.res (by omega), set_blk h.part _, PIn.keep2 hk (fun k h1 h2 => by omega) h.word, h.below.trans (hk.below h.below.size (fun k e => by omega))⟩
theorem RBSt.setW {D : Nat} {w W : World} {tb ob : ByteArray} {wv : Value} {pw : List PT} (h : RBSt D w W tb ob wv pw) {x : Value} {l : List PT} (hx : PIn D W (fun k => w.heap.size + 1 < k) x l) : RBSt D w (W.setCell ⟨w.heap.size + 1, 4, none⟩ x) tb ob x l := by
  have hk := Kept.setCell (S := (· = w.heap.size + 1)) (w := W) ⟨w.heap.size + 1, 4, none⟩ x rfl
  exact ⟨hk.at h.res (by omega), set_blk h.part _, PIn.keep2 hk (fun k h1 h2 => by omega) hx, h.below.trans (hk.below h.below.size (fun k e => by omega))⟩
theorem RBSt.drew {D : Nat} {w W : World} {tb ob : ByteArray} {wv : Value} {pw : List PT} (h : RBSt D w W tb ob wv pw) : RBSt D w W.drew tb ob wv pw :=
  ⟨h.res, h.part, PIn.keep (w := W) (w' := W.drew) (fun _ _ => rfl) _ _ _ h.word, h.below.drew⟩
theorem brace_end {D i k : Nat} {s : ByteArray} {w W : World} {tb ob : ByteArray} {wv : Value} {t o' : Bs} {pw : List PT} {o : Option (List PT × Bs)} {n : Int} (h : RBSt D w W tb ob wv pw) (h1 : nm t = tb) (h2 : nm o' = ob) (hn0 : n = (k : Int))
    (ho : o = some ([.mk 2 false t o' pw], s.data.toList.drop k)) (hik : i < k) (hk : k ≤ s.size) :
    RP (D + 1) s i w o (.returned (.agg #[.slice (some ⟨W.heap.size, 0, none⟩) 1 1, .int .i64 n, .int .i64 0])) ((((W.setCell ⟨w.heap.size, 0, none⟩ (.slice (some ⟨W.heap.size, 0, none⟩) 1 1)).setCell ⟨w.heap.size, 1, none⟩ (.int .i64 n)).setCell ⟨w.heap.size, 2, none⟩ (.int .i64 0)).alloc (.cells #[.int .i64 2, .bool false, .string tb, .string ob, wv] 32)) := by
  have hz := fin_at h.res
  have hK := three_kept (S := (· = w.heap.size)) W rfl (.slice (some ⟨W.heap.size, 0, none⟩) 1 1) (.int .i64 n) (.int .i64 0)
  have hB := h.below.trans (hK.below h.below.size (fun k e => by omega))
  have hV := PIn.keep2 hK (fun k h1 h2 => by omega) h.word
  have hsz : (((W.setCell ⟨w.heap.size, 0, none⟩ (.slice (some ⟨W.heap.size, 0, none⟩) 1 1)).setCell ⟨w.heap.size, 1, none⟩ (.int .i64 n)).setCell ⟨w.heap.size, 2, none⟩ (.int .i64 0)).heap.size = W.heap.size := by simp
  generalize (((W.setCell ⟨w.heap.size, 0, none⟩ (.slice (some ⟨W.heap.size, 0, none⟩) 1 1)).setCell ⟨w.heap.size, 1, none⟩ (.int .i64 n)).setCell ⟨w.heap.size, 2, none⟩ (.int .i64 0)) = W3 at *
  have hn2 := heap_alloc_new W3 (.cells #[.int .i64 2, .bool false, .string tb, .string ob, wv] 32)
  rw [hsz] at hn2
  refine ⟨hB.alloc hB.size _, _, n, 0, rfl, .inl ⟨rfl, k, _, hn0, ho, hik, hk, ?_⟩⟩
  subst h1; subst h2
  refine lit_pin (d := D) [(.mk 2 false t o' pw, wv)] [.mk 2 false t o' pw] hn2 rfl rfl (by omega) (by simp) (fun x hx => ?_)
  rw [List.mem_singleton] at hx
  subst hx
  exact PIn.mono (fun k _ hk => by omega) _ _ _ (PIn.alloc2 hV)
theorem four_at {W : World} {b : Nat} {t : TypeId} {x0 x1 x2 : Value} (h : W.heap[b]? = some (.cells #[x0, x1, x2] t (0, 0))) (y0 y1 y2 : Value) (o : Obj) :
    ((((W.setCell ⟨b, 0, none⟩ y0).setCell ⟨b, 1, none⟩ y1).setCell ⟨b, 2, none⟩ y2).alloc o).heap[b]? = some (.cells #[y0, y1, y2] t (0, 0)) :=
  (Below.heap_alloc _ _ _ (by simpa using fin_at h)).trans (three_set h y0 y1 y2)
/-- The pieces of the document's braces, as plain mathematics. -/
theorem br_len (parts : Bool → Bs → Rs (List PT)) (fl : Nat) (l : Bs) (h : lengthStands l = true) : OB (braces (some parts) fl false l) = if parLen (l.drop 1) = 0 ∨ 64 < parLen (l.drop 1) then none else OB (finish fl (.mk 2 false ((l.drop 1).take (parLen (l.drop 1))) [108, 101, 110] []) ((l.drop 1).drop (parLen (l.drop 1)))) := by
  unfold braces
  simp only [h, if_true]
  by_cases hp : parLen (l.drop 1) = 0 ∨ 64 < parLen (l.drop 1)
  · rw [if_pos hp]
    obtain ⟨a, e, h⟩ := param_no hp
    rw [h]; rfl
  · rw [if_neg hp, param_yes (fun e => hp (.inl e)) (by omega)]
theorem br_not (parts : Bool → Bs → Rs (List PT)) (fl : Nat) (l : Bs) (h : lengthStands l = false) : OB (braces (some parts) fl false l) = if parLen l = 0 ∨ 64 < parLen l then none else if opOf (l.drop (parLen l)) = [] then OB (finish fl (.mk 2 false (l.take (parLen l)) [] []) (l.drop (parLen l)))
    else match parts false ((l.drop (parLen l)).drop (opOf (l.drop (parLen l))).length) with
      | .bad _ _ => none
      | .ok w r2 => OB (finish fl (.mk 2 false (l.take (parLen l)) (opOf (l.drop (parLen l))) w) r2) := by
  unfold braces
  simp only [h, Bool.false_eq_true, if_false]
  by_cases hp : parLen l = 0 ∨ 64 < parLen l
  · rw [if_pos hp]
    obtain ⟨a, e, h⟩ := param_no hp
    rw [h]; rfl
  · rw [if_neg hp, param_yes (fun e => hp (.inl e)) (by omega)]
    show OB (if opOf (l.drop (parLen l)) = [] then _ else _) = _
    by_cases ho : opOf (l.drop (parLen l)) = []
    · rw [if_pos ho, if_pos ho]
    · rw [if_neg ho, if_neg ho]
      cases parts false ((l.drop (parLen l)).drop (opOf (l.drop (parLen l))).length) <;> rfl
theorem len_stands {s : ByteArray} {j : Nat} (h : j + 1 < s.size) : lengthStands (s.data.toList.drop j) = (decide (s[j] = 35) && !decide (s[j + 1] = 125)) := by
  rw [get_at s j (by omega), get_at s (j + 1) h]
  by_cases h1 : s[j] = 35
  · rw [h1]
    show (s[j + 1] != 125) = _
    rw [decide_eq_true rfl, Bool.true_and]
    rfl
  · unfold lengthStands
    split
    · rename_i heq
      injection heq with h2 _
      exact absurd h2 h1
    · simp [h1]
theorem len_not {s : ByteArray} {j : Nat} (h : s.size ≤ j + 1) : lengthStands (s.data.toList.drop j) = false := by
  by_cases h2 : j < s.size
  · rw [get_at s j h2, drop_nil s (j + 1) h]
    unfold lengthStands
    split
    · rename_i heq; injection heq with _ h3; cases h3
    · rfl
  · rw [drop_nil s j (by omega)]; rfl
theorem RBSt.new (D : Nat) (w : World) (tb ob : ByteArray) : RBSt D w ((w.alloc (.cells #[.slice none 0 0, .int .i64 0, .int .i64 0] 43)).alloc (.cells #[.int .i64 2, .bool false, .string tb, .string ob, .slice none 0 0] 32)) tb ob (.slice none 0 0) [] := by
  have h1 := heap_alloc_new w (.cells #[.slice none 0 0, .int .i64 0, .int .i64 0] 43)
  have h2 := heap_alloc_new (w.alloc (.cells #[.slice none 0 0, .int .i64 0, .int .i64 0] 43)) (.cells #[.int .i64 2, .bool false, .string tb, .string ob, .slice none 0 0] 32)
  simp only [World.size_alloc] at h2
  exact ⟨(Below.heap_alloc _ _ _ (by simp)).trans h1, h2, PIn.nil _ _ _ _ _, ((Below.refl _ _).alloc (Nat.le_refl _) _).alloc (by simp only [World.size_alloc]; omega) _⟩
theorem new_end {D i k : Nat} {s : ByteArray} {w : World} {tb ob : ByteArray} {t o' : Bs} {o : Option (List PT × Bs)} {n : Int} {p1 : Obj} (h1 : nm t = tb) (h2 : nm o' = ob) (hn : n = (k : Int))
    (ho : o = some ([.mk 2 false t o' []], s.data.toList.drop k)) (hik : i < k) (hk : k ≤ s.size) :
    RP (D + 1) s i w o (.returned (.agg #[.slice (some ⟨w.heap.size + 1 + 1, 0, none⟩) 1 1, .int .i64 n, .int .i64 0])) (((w.alloc (.cells #[.slice (some ⟨w.heap.size + 1 + 1, 0, none⟩) 1 1, .int .i64 n, .int .i64 0] 43)).alloc p1).alloc (.cells #[.int .i64 2, .bool false, .string tb, .string ob, .slice none 0 0] 32)) := by
  have hb1 := (Below.refl w.heap.size w).alloc (Nat.le_refl _) (.cells #[.slice (some ⟨w.heap.size + 1 + 1, 0, none⟩) 1 1, .int .i64 n, .int .i64 0] 43)
  have hb2 := hb1.alloc hb1.size p1
  have hb3 := hb2.alloc hb2.size (.cells #[.int .i64 2, .bool false, .string tb, .string ob, .slice none 0 0] 32)
  have hn2 := heap_alloc_new ((w.alloc (.cells #[.slice (some ⟨w.heap.size + 1 + 1, 0, none⟩) 1 1, .int .i64 n, .int .i64 0] 43)).alloc p1) (.cells #[.int .i64 2, .bool false, .string tb, .string ob, .slice none 0 0] 32)
  simp only [World.size_alloc] at hn2
  subst h1; subst h2
  refine ⟨hb3, _, n, 0, rfl, .inl ⟨rfl, k, _, hn, ho, hik, hk, ?_⟩⟩
  refine lit_pin (d := D) [(.mk 2 false t o' [], .slice none 0 0)] [.mk 2 false t o' []] hn2 rfl rfl (by omega) (by simp) (fun x hx => ?_)
  rw [List.mem_singleton] at hx
  subst hx
  exact PIn.nil _ _ _ _ _
theorem three_at {w : World} {c0 p1 p2 : Obj} : (((w.alloc c0).alloc p1).alloc p2).heap[w.heap.size]? = some c0 :=
  (Below.heap_alloc _ _ _ (by simp only [World.size_alloc]; omega)).trans ((Below.heap_alloc _ _ _ (by simp)).trans (heap_alloc_new w _))
set_option maxRecDepth 100000 in
set_option maxHeartbeats 3200000 in
theorem rbraces_len (D : Nat) (parts : Bool → Bs → Rs (List PT)) (s : ByteArray) (i dp fl : Nat) (w : World) (hi : i + 2 ≤ s.size) (hs : s.size ≤ 8192) (hdp : dp ≤ 16) (hl : lengthStands (s.data.toList.drop (i + 2)) = true) :
    Calls Tryd.prog 64 #[.string s, .int .i64 i, .int .i64 dp] w (RP (D + 1) s i w (OB (braces (some parts) fl false (s.data.toList.drop (i + 2))))) := by
  obtain ⟨m, hm⟩ : ∃ m, OB (braces (some parts) fl false (s.data.toList.drop (i + 2))) = m := ⟨_, rfl⟩
  rw [hm]
  obtain ⟨j, hj⟩ : ∃ j, j = i + 2 := ⟨_, rfl⟩
  obtain ⟨j1, hj1⟩ : ∃ j1, j1 = j + 1 := ⟨_, rfl⟩
  rw [← hj] at hm hl
  have hjs : j1 < s.size := by
    apply Classical.byContradiction
    intro hn
    rw [len_not (by omega)] at hl
    cases hl
  have hj0 : j < s.size := by omega
  rw [br_len parts fl _ hl, List.drop_drop] at hm
  rw [len_stands (by omega)] at hl
  rw [← hj1] at hm
  obtain ⟨n, hn⟩ : ∃ n, parLen (s.data.toList.drop j1) = n := ⟨_, rfl⟩
  have hnl := param_len (l := s.data.toList.drop j1)
  rw [bad_len] at hnl
  rw [hn] at hm hnl
  obtain ⟨k, hk⟩ : ∃ k, k = j1 + n := ⟨_, rfl⟩
  rw [List.drop_drop, ← hk] at hm
  simp only [← hj1] at hl
  rw [Bool.and_eq_true, decide_eq_true_iff, Bool.not_eq_true', decide_eq_false_iff_not] at hl
  have h1 : ((s[j].toNat : Int) == 35) = true := by have h : ((s[j].toNat : Int) == 35) = decide (s[j] = 35) := bt s[j] 35 (by decide); rw [h]; exact decide_eq_true hl.1
  have h2 : ((s[j1].toNat : Int) != 125) = true := by have h : ((s[j1].toNat : Int) != 125) = !decide (s[j1] = 125) := bn s[j1] 125 (by decide); rw [h, decide_eq_false hl.2]; rfl
  have e1 : (i : Int) + 2 = (j : Int) := by omega
  have e2 : (j : Int) + 1 = (j1 : Int) := by omega
  have e3 : (j1 : Int) + (n : Int) = (k : Int) := by omega
  have hjl1 : (j1 : Int) < (s.size : Int) := by omega
  have hjl0 : (j : Int) < (s.size : Int) := by omega
  have hdn : ¬ (16 : Int) < (dp : Int) := by omega
  have hks : k ≤ s.size := by omega
  have hksi : (k : Int) ≤ (s.size : Int) := by omega
  have hjk : (j1 : Int) ≤ (k : Int) := by omega
  have hik : i < k := by omega
  have HM := Lib.hid hm
  have HPA := Lib.hid (fun W => rparamAt_any s j1 W (by omega) hs)
  rw [hn] at HPA
  clear hm hl hn
  by_cases hb : n = 0 ∨ 64 < n
  · have HNO : Hid (m = none) := Lib.hid (by rw [← HM.out, if_pos hb])
    have hN : ((n : Int) == 0) = true ∨ (((n : Int) == 0) = false ∧ (64 : Int) < (n : Int)) := by
      by_cases h0 : n = 0
      · exact .inl (by rw [h0]; rfl)
      · exact .inr ⟨by simpa using h0, by omega⟩
    clear hb HM e3
    rcases hN with hN | ⟨hN, hN2⟩
    all_goals
      clear hj hj1 hk
      go_enter Tryd.func64, Tryd.ntmps64
      go_wp2_with (go_at_call 80; refine (HPA.out _).mono ?_; rintro e w' ⟨rfl, rfl⟩)
      refine calls_gen (fun W => RBSt D w W ⟨#[]⟩ ⟨#[108, 101, 110]⟩ (.slice none 0 0) []) (RBSt.new D w _ _) ?_
      intro W HW
      have HS := Lib.hid HW
      clear HW
      refine (rfault_any _ _ _).mono ?_
      rintro e w2 ⟨rfl, hb2⟩
      have HS2 := Lib.hid (HS.out.step hb2)
      have k0 := cell_blk HS2.out.res 0
      have k1 := cell_blk HS2.out.res 1
      have k2 := cell_blk HS2.out.res 2
      have l0 := froz_blk HS2.out.res 0
      have l1 := froz_blk HS2.out.res 1
      have l2 := froz_blk HS2.out.res 2
      simp at k0 k1 k2
      have hz2 := fin_at HS2.out.res
      clear hb2
      go_wp2_with fail
      refine bodyPost_ret (results_cell_row rfl _ _ _ 43 _ (0, 0) _ rfl (three_set HS2.out.res _ _ _) Tryd.underlying43 rfl (by kernel_rfl)) rfl ?_
      exact fault_end HS2.out.below (by decide) HNO.out
  · have HF : Hid (m = OB (finish fl (.mk 2 false ((s.data.toList.drop j1).take n) [108, 101, 110] []) (s.data.toList.drop k))) := Lib.hid (by rw [← HM.out, if_neg hb])
    have h5 : ((n : Int) == 0) = false := by simp; omega
    have h6 : ¬ (64 : Int) < (n : Int) := by omega
    have HX : Hid (s.extract j1 k = nm ((s.data.toList.drop j1).take n)) := Lib.hid (by rw [ext_mid, hk, show j1 + n - j1 = n from by omega])
    have HTB0 : Hid (nm ((s.data.toList.drop j1).take n) = s.extract j1 k) := Lib.hid HX.out.symm
    clear hb HM hj hj1 hk HX
    generalize (s.data.toList.drop j1).take n = t at *
    obtain ⟨o', ho'⟩ : ∃ o' : Bs, o' = [108, 101, 110] := ⟨_, rfl⟩
    rw [← ho'] at HF
    have HOB : Hid (nm o' = (⟨#[108, 101, 110]⟩ : ByteArray)) := Lib.hid (by rw [ho']; rfl)
    clear ho'
    by_cases hlt : k < s.size
    · have HD := Lib.hid (get_at s k hlt)
      have h7 : ((s[k].toNat : Int) != 125) = !decide (s[k] = 125) := bn s[k] 125 (by decide)
      by_cases c6 : s[k] = 125
      · rw [decide_eq_true c6] at h7
        have HO : Hid (m = some ([.mk 2 false t o' []], s.data.toList.drop (k + 1))) := Lib.hid (by rw [HF.out, HD.out, c6, ob_fin_yes])
        clear c6 HD HF
        go_enter Tryd.func64, Tryd.ntmps64
        go_wp2_with (go_at_call 80; refine (HPA.out _).mono ?_; rintro e w' ⟨rfl, rfl⟩)
        refine bodyPost_ret (results_cell_row rfl _ _ _ 43 _ (0, 0) _ rfl three_at Tryd.underlying43 rfl (by kernel_rfl)) rfl ?_
        exact new_end (k := k + 1) HTB0.out HOB.out (by omega) HO.out (by omega) (by omega)
      · rw [decide_eq_false c6] at h7
        have HNO : Hid (m = none) := Lib.hid (by rw [HF.out, HD.out, ob_fin_no _ _ _ c6])
        clear c6 HD HF
        go_enter Tryd.func64, Tryd.ntmps64
        go_wp2_with (go_at_call 80; refine (HPA.out _).mono ?_; rintro e w' ⟨rfl, rfl⟩)
        refine calls_gen (fun W => RBSt D w W (s.extract j1 k) ⟨#[108, 101, 110]⟩ (.slice none 0 0) []) (RBSt.new D w _ _) ?_
        intro W HW
        have HS := Lib.hid HW
        clear HW
        refine (rfault_any _ _ _).mono ?_
        rintro e w2 ⟨rfl, hb2⟩
        have HS2 := Lib.hid (HS.out.step hb2)
        have k0 := cell_blk HS2.out.res 0
        have k1 := cell_blk HS2.out.res 1
        have k2 := cell_blk HS2.out.res 2
        have l0 := froz_blk HS2.out.res 0
        have l1 := froz_blk HS2.out.res 1
        have l2 := froz_blk HS2.out.res 2
        simp at k0 k1 k2
        have hz2 := fin_at HS2.out.res
        clear hb2
        go_wp2_with fail
        refine bodyPost_ret (results_cell_row rfl _ _ _ 43 _ (0, 0) _ rfl (three_set HS2.out.res _ _ _) Tryd.underlying43 rfl (by kernel_rfl)) rfl ?_
        exact fault_end HS2.out.below (by decide) HNO.out
    · have HNO : Hid (m = none) := Lib.hid (by rw [HF.out, drop_nil s k (by omega), ob_fin_nil])
      have hge : (s.size : Int) ≤ (k : Int) := by omega
      clear HF
      go_enter Tryd.func64, Tryd.ntmps64
      go_wp2_with (go_at_call 80; refine (HPA.out _).mono ?_; rintro e w' ⟨rfl, rfl⟩)
      refine calls_gen (fun W => RBSt D w W (s.extract j1 k) ⟨#[108, 101, 110]⟩ (.slice none 0 0) []) (RBSt.new D w _ _) ?_
      intro W HW
      have HS := Lib.hid HW
      clear HW
      refine (rfault_any _ _ _).mono ?_
      rintro e w2 ⟨rfl, hb2⟩
      have HS2 := Lib.hid (HS.out.step hb2)
      have k0 := cell_blk HS2.out.res 0
      have k1 := cell_blk HS2.out.res 1
      have k2 := cell_blk HS2.out.res 2
      have l0 := froz_blk HS2.out.res 0
      have l1 := froz_blk HS2.out.res 1
      have l2 := froz_blk HS2.out.res 2
      simp at k0 k1 k2
      have hz2 := fin_at HS2.out.res
      clear hb2
      go_wp2_with fail
      refine bodyPost_ret (results_cell_row rfl _ _ _ 43 _ (0, 0) _ rfl (three_set HS2.out.res _ _ _) Tryd.underlying43 rfl (by kernel_rfl)) rfl ?_
      exact fault_end HS2.out.below (by decide) HNO.out

end Go.Proofs.YtkbhjjmgacahdaaDoor.Wd

/- DERIVED. The walk over the document's braces where no length stands. -/
namespace Go.Proofs.YtkbhjjmgacahdaaDoor.Wd
open Go.RowKit
open PathM WdM
set_option linter.unusedVariables false

theorem rp_alloc {D i : Nat} {s : ByteArray} {w W : World} {o : Option (List PT × Bs)} {e : Ending} (h : RP D s i w o e W) (ob : Obj) : RP D s i w o e (W.alloc ob) := by
  obtain ⟨hb, v, n, er, he, hc⟩ := h
  refine ⟨hb.alloc hb.size ob, v, n, er, he, ?_⟩
  rcases hc with ⟨h1, k, L, h2, h3, h4, h5, h6⟩ | h
  · exact .inl ⟨h1, k, L, h2, h3, h4, h5, PIn.alloc2 h6⟩
  · exact .inr h
theorem op_stands (l : Bs) : (opOf l).length ≤ l.length := by
  unfold opOf
  cases h : ops.find? fun o => stands o l with
  | none => simp
  | some o =>
    have h2 : stands o l = true := List.find?_some (p := fun o => stands o l) h
    exact stands_len h2
set_option maxRecDepth 100000 in
set_option maxHeartbeats 6400000 in
theorem rbraces_not (D : Nat) (parts : Bool → Bs → Rs (List PT)) (rp : Bs → Option (List PT × Bs)) (hpm : ∀ l L r, rp l = some (L, r) → parts false l = .ok L r) (hpn : ∀ l, rp l = none → bad? (parts false l)) (s : ByteArray) (i dp fl : Nat) (w : World) (hi : i + 2 ≤ s.size) (hs : s.size ≤ 8192) (hdp : dp ≤ 16)
    (hp : ∀ j W, j ≤ s.size → Calls Tryd.prog 24 #[.string s, .int .i64 (j : Nat), .int .i64 1, .int .i64 dp] W (RQ D s j W (rp (s.data.toList.drop j)))) (hl : lengthStands (s.data.toList.drop (i + 2)) = false) :
    Calls Tryd.prog 64 #[.string s, .int .i64 i, .int .i64 dp] w (RP (D + 1) s i w (OB (braces (some parts) fl false (s.data.toList.drop (i + 2))))) := by
  obtain ⟨m, hm⟩ : ∃ m, OB (braces (some parts) fl false (s.data.toList.drop (i + 2))) = m := ⟨_, rfl⟩
  rw [hm]
  obtain ⟨j, hj⟩ : ∃ j, j = i + 2 := ⟨_, rfl⟩
  rw [← hj] at hm hl
  have hjs : j ≤ s.size := by omega
  rw [br_not parts fl _ hl] at hm
  obtain ⟨n, hn⟩ : ∃ n, parLen (s.data.toList.drop j) = n := ⟨_, rfl⟩
  have hnl := param_len (l := s.data.toList.drop j)
  rw [bad_len] at hnl
  rw [hn] at hm hnl
  obtain ⟨k, hk⟩ : ∃ k, k = j + n := ⟨_, rfl⟩
  rw [List.drop_drop, ← hk] at hm
  have e1 : (i : Int) + 2 = (j : Int) := by omega
  have e3 : (j : Int) + (n : Int) = (k : Int) := by omega
  have hdn : ¬ (16 : Int) < (dp : Int) := by omega
  have hks : k ≤ s.size := by omega
  have hksi : (k : Int) ≤ (s.size : Int) := by omega
  have hjk : (j : Int) ≤ (k : Int) := by omega
  have hij : i < j := by omega
  have hik : i < k := by omega
  have HM := Lib.hid hm
  have HPA := Lib.hid (fun W => rparamAt_any s j W hjs hs)
  rw [hn] at HPA
  have HOPA := Lib.hid (fun W => ropAt_any s k W hks hs)
  have HP := Lib.hid hp
  have HPM := Lib.hid hpm
  have HPN := Lib.hid hpn
  have HC : ((s.size : Int) ≤ (j : Int) + 1) ∨ ∃ (h0 : j < s.size) (j1 : Nat) (h1 : j1 < s.size), (j : Int) + 1 = (j1 : Int) ∧ (((s[j].toNat : Int) == 35) = false ∨ (((s[j].toNat : Int) == 35) = true ∧ ((s[j1].toNat : Int) != 125) = false)) := by
    by_cases h1 : j + 1 < s.size
    · refine .inr ⟨by omega, j + 1, h1, by omega, ?_⟩
      rw [len_stands h1] at hl
      have h : ((s[j].toNat : Int) == 35) = decide (s[j] = 35) := bt s[j] 35 (by decide)
      have h' : ((s[j + 1].toNat : Int) != 125) = !decide (s[j + 1] = 125) := bn s[j + 1] 125 (by decide)
      rw [h, h']
      cases hc : decide (s[j] = 35) with
      | false => exact .inl rfl
      | true => rw [hc, Bool.true_and] at hl; exact .inr ⟨rfl, hl⟩
    · exact .inl (by omega)
  clear hm hl hn hp hpm hpn hj
  rcases HC with g0 | ⟨h0, j1, h1, g1, g2 | ⟨g2, g3⟩⟩
  · by_cases hb : n = 0 ∨ 64 < n
    · have HNO : Hid (m = none) := Lib.hid (by rw [← HM.out, if_pos hb])
      have hN : ((n : Int) == 0) = true ∨ (((n : Int) == 0) = false ∧ (64 : Int) < (n : Int)) := by
        by_cases h0 : n = 0
        · exact .inl (by rw [h0]; rfl)
        · exact .inr ⟨by simpa using h0, by omega⟩
      clear hb HM e3 HOPA
      rcases hN with hN | ⟨hN, hN2⟩
      · clear hk
        go_enter Tryd.func64, Tryd.ntmps64
        go_wp2_with (go_at_call 80; refine (HPA.out _).mono ?_; rintro e w' ⟨rfl, rfl⟩)
        refine calls_gen (fun W => RBSt D w W ⟨#[]⟩ ⟨#[]⟩ (.slice none 0 0) []) (RBSt.new D w _ _) ?_
        intro W HW
        have HS := Lib.hid HW
        clear HW
        refine (rfault_any _ _ _).mono ?_
        rintro e w2 ⟨rfl, hb2⟩
        have HS2 := Lib.hid (HS.out.step hb2)
        have k0 := cell_blk HS2.out.res 0
        have k1 := cell_blk HS2.out.res 1
        have k2 := cell_blk HS2.out.res 2
        have l0 := froz_blk HS2.out.res 0
        have l1 := froz_blk HS2.out.res 1
        have l2 := froz_blk HS2.out.res 2
        simp at k0 k1 k2
        have hz2 := fin_at HS2.out.res
        clear hb2
        go_wp2_with fail
        refine bodyPost_ret (results_cell_row rfl _ _ _ 43 _ (0, 0) _ rfl (three_set HS2.out.res _ _ _) Tryd.underlying43 rfl (by kernel_rfl)) rfl ?_
        exact fault_end HS2.out.below (by decide) HNO.out
      · first
        | exfalso
          omega
        | skip
          clear hk
          go_enter Tryd.func64, Tryd.ntmps64
          go_wp2_with (go_at_call 80; refine (HPA.out _).mono ?_; rintro e w' ⟨rfl, rfl⟩)
          refine calls_gen (fun W => RBSt D w W ⟨#[]⟩ ⟨#[]⟩ (.slice none 0 0) []) (RBSt.new D w _ _) ?_
          intro W HW
          have HS := Lib.hid HW
          clear HW
          refine (rfault_any _ _ _).mono ?_
          rintro e w2 ⟨rfl, hb2⟩
          have HS2 := Lib.hid (HS.out.step hb2)
          have k0 := cell_blk HS2.out.res 0
          have k1 := cell_blk HS2.out.res 1
          have k2 := cell_blk HS2.out.res 2
          have l0 := froz_blk HS2.out.res 0
          have l1 := froz_blk HS2.out.res 1
          have l2 := froz_blk HS2.out.res 2
          simp at k0 k1 k2
          have hz2 := fin_at HS2.out.res
          clear hb2
          go_wp2_with fail
          refine bodyPost_ret (results_cell_row rfl _ _ _ 43 _ (0, 0) _ rfl (three_set HS2.out.res _ _ _) Tryd.underlying43 rfl (by kernel_rfl)) rfl ?_
          exact fault_end HS2.out.below (by decide) HNO.out
    · have h5 : ((n : Int) == 0) = false := by simp; omega
      have h6 : ¬ (64 : Int) < (n : Int) := by omega
      have hn1 : 1 ≤ n := by omega
      have HX : Hid (s.extract j k = nm ((s.data.toList.drop j).take n)) := Lib.hid (by rw [ext_mid, hk, show j + n - j = n from by omega])
      have HTB0 : Hid (nm ((s.data.toList.drop j).take n) = s.extract j k) := Lib.hid HX.out.symm
      by_cases ho : opOf (s.data.toList.drop k) = []
      · have HF : Hid (m = OB (finish fl (.mk 2 false ((s.data.toList.drop j).take n) [] []) (s.data.toList.drop k))) := Lib.hid (by rw [← HM.out, if_neg hb, if_pos ho])
        have HOP : Hid (∀ W, Calls Tryd.prog 81 #[.string s, .int .i64 k] W fun e w' => e = .returned (.string ⟨#[]⟩) ∧ Below W.heap.size W w') := Lib.hid (fun W => by
          have := HOPA.out W
          rw [ho] at this
          exact this)
        clear hb HM hk HX HOPA ho
        generalize (s.data.toList.drop j).take n = t at *
        obtain ⟨o', ho'⟩ : ∃ o' : Bs, o' = [] := ⟨_, rfl⟩
        have HOB : Hid (nm o' = (⟨#[]⟩ : ByteArray)) := Lib.hid (by rw [ho']; rfl)
        have HF : Hid (m = OB (finish fl (.mk 2 false t o' []) (s.data.toList.drop k))) := Lib.hid (by rw [ho']; exact HF.out)
        obtain ⟨pw, hpw⟩ : ∃ pw : List PT, pw = [] := ⟨_, rfl⟩
        have HF : Hid (m = OB (finish fl (.mk 2 false t o' pw) (s.data.toList.drop k))) := Lib.hid (by rw [hpw]; exact HF.out)
        have HPW := Lib.hid hpw
        clear ho' hpw
        go_enter Tryd.func64, Tryd.ntmps64
        go_wp2_with (go_at_call 80; refine (HPA.out _).mono ?_; rintro e w' ⟨rfl, rfl⟩)
        refine calls_gen (fun W => RBSt D w W (s.extract j k) ⟨#[]⟩ (.slice none 0 0) pw) (by rw [HPW.out]; exact RBSt.new D w _ _) ?_
        intro W HW
        refine (HOP.out W).mono ?_
        rintro e W2 ⟨rfl, hb2⟩
        have hS := HW.step hb2
        clear HW hb2 HOP HPA
        obtain ⟨ob, hob⟩ : ∃ ob : ByteArray, ob = ⟨#[]⟩ := ⟨_, rfl⟩
        obtain ⟨tb, htb⟩ : ∃ tb, s.extract j k = tb := ⟨_, rfl⟩
        obtain ⟨A, n0, c, hv⟩ : ∃ (A : Option Addr) (n0 c : Nat), Value.slice A n0 c = .slice none 0 0 := ⟨_, _, _, rfl⟩
        have HTB : Hid (nm t = tb) := Lib.hid (by rw [HTB0.out, htb])
        have HOB : Hid (nm o' = ob) := Lib.hid (by rw [HOB.out, hob])
        have HS : Hid (RBSt D w W2 tb ob (.slice A n0 c) pw) := Lib.hid (by rw [hv, hob, ← htb]; exact hS)
        clear hob htb hv hS HTB0
        by_cases hks : k < s.size
        · first
          | exfalso
            omega
          | skip
            have HD := Lib.hid (get_at s k hks)
            have h6 : ((s[k].toNat : Int) != 125) = !decide (s[k] = 125) := bn s[k] 125 (by decide)
            have hki : (k : Int) < (s.size : Int) := by omega
            by_cases c6 : s[k] = 125
            · rw [decide_eq_true c6] at h6
              have HO : Hid (m = some ([.mk 2 false t o' pw], s.data.toList.drop (k + 1))) := Lib.hid (by rw [HF.out, HD.out, c6, ob_fin_yes])
              have HE := Lib.hid (brace_end (i := i) (k := k + 1) HS.out HTB.out HOB.out (show (k : Int) + 1 = ((k + 1 : Nat) : Int) by omega) HO.out (by omega) (by omega))
              have k0 := cell_blk HS.out.res 0
              have k1 := cell_blk HS.out.res 1
              have k2 := cell_blk HS.out.res 2
              have l0 := froz_blk HS.out.res 0
              have l1 := froz_blk HS.out.res 1
              have l2 := froz_blk HS.out.res 2
              have p0 := cell_blk HS.out.part 0
              have p1 := cell_blk HS.out.part 1
              have p2 := cell_blk HS.out.part 2
              have p3 := cell_blk HS.out.part 3
              have p4 := cell_blk HS.out.part 4
              simp at k0 k1 k2 p0 p1 p2 p3 p4
              have hz1 := fin_at HS.out.res
              have hz2 := fin_at HS.out.part
              clear c6 HD
              go_wp2_with fail
              refine bodyPost_ret (results_cell_row rfl _ _ _ 43 _ (0, 0) _ rfl (four_at HS.out.res _ _ _ _) Tryd.underlying43 rfl (by kernel_rfl)) rfl ?_
              exact HE.out
            · rw [decide_eq_false c6] at h6
              have HNO : Hid (m = none) := Lib.hid (by rw [HF.out, HD.out, ob_fin_no _ _ _ c6])
              clear c6 HD
              go_wp2_with fail
              refine (rfault_any _ _ _).mono ?_
              rintro e w2 ⟨rfl, hb2⟩
              have HS2 := Lib.hid (HS.out.step hb2)
              have k0 := cell_blk HS2.out.res 0
              have k1 := cell_blk HS2.out.res 1
              have k2 := cell_blk HS2.out.res 2
              have l0 := froz_blk HS2.out.res 0
              have l1 := froz_blk HS2.out.res 1
              have l2 := froz_blk HS2.out.res 2
              simp at k0 k1 k2
              have hz2 := fin_at HS2.out.res
              clear hb2
              go_wp2_with fail
              refine bodyPost_ret (results_cell_row rfl _ _ _ 43 _ (0, 0) _ rfl (three_set HS2.out.res _ _ _) Tryd.underlying43 rfl (by kernel_rfl)) rfl ?_
              exact fault_end HS2.out.below (by decide) HNO.out
        · have HNO : Hid (m = none) := Lib.hid (by rw [HF.out, drop_nil s k (by omega), ob_fin_nil])
          have hki : (s.size : Int) ≤ (k : Int) := by omega
          go_wp2_with fail
          refine (rfault_any _ _ _).mono ?_
          rintro e w2 ⟨rfl, hb2⟩
          have HS2 := Lib.hid (HS.out.step hb2)
          have k0 := cell_blk HS2.out.res 0
          have k1 := cell_blk HS2.out.res 1
          have k2 := cell_blk HS2.out.res 2
          have l0 := froz_blk HS2.out.res 0
          have l1 := froz_blk HS2.out.res 1
          have l2 := froz_blk HS2.out.res 2
          simp at k0 k1 k2
          have hz2 := fin_at HS2.out.res
          clear hb2
          go_wp2_with fail
          refine bodyPost_ret (results_cell_row rfl _ _ _ 43 _ (0, 0) _ rfl (three_set HS2.out.res _ _ _) Tryd.underlying43 rfl (by kernel_rfl)) rfl ?_
          exact fault_end HS2.out.below (by decide) HNO.out
      · obtain ⟨o', ho'⟩ : ∃ o', opOf (s.data.toList.drop k) = o' := ⟨_, rfl⟩
        have hst := op_stands (s.data.toList.drop k)
        rw [ho', bad_len] at hst
        rw [ho'] at ho
        have hpos : 1 ≤ o'.length := by cases o' with | nil => exact absurd rfl ho | cons => simp
        obtain ⟨ob, hob⟩ : ∃ ob, nm o' = ob := ⟨_, rfl⟩
        have hobs : ob.size = o'.length := by rw [← hob, nm_size]
        obtain ⟨j2, hj2⟩ : ∃ j2, j2 = k + o'.length := ⟨_, rfl⟩
        have HMM : Hid (m = match parts false (s.data.toList.drop j2) with
          | .bad _ _ => none
          | .ok w r2 => OB (finish fl (.mk 2 false ((s.data.toList.drop j).take n) o' w) r2)) := Lib.hid (by
          have hm := HM.out
          rw [if_neg hb, ho', if_neg ho, List.drop_drop, ← hj2] at hm
          exact hm.symm)
        have HOP : Hid (∀ W, Calls Tryd.prog 81 #[.string s, .int .i64 k] W fun e w' => e = .returned (.string ob) ∧ Below W.heap.size W w') := Lib.hid (fun W => by
          have := HOPA.out W
          rw [ho', hob] at this
          exact this)
        have HOB := Lib.hid hob
        have hj2s : j2 ≤ s.size := by omega
        have e5 : (k : Int) + (ob.size : Int) = (j2 : Int) := by omega
        have hij2 : i < j2 := by omega
        have o1 : ob.toList ≠ [] := by
          intro e
          have h2 := nm_size o'
          rw [hob] at h2
          rw [listD] at e
          have := congrArg List.length e
          rw [← sizeD] at this
          rw [List.length_nil] at this
          omega
        have o2 : (!ob.toList.isEmpty) = true := by simpa using o1
        have o3 : (ob.toList == []) = false := by simpa using o1
        have o4 : ob.toList.isEmpty = false := by simpa using o1
        clear hst hpos hob hobs hj2 ho'
        first
        | exfalso
          omega
        | skip
          clear hb HM hk HX ho HOPA
          generalize (s.data.toList.drop j).take n = t at *
          go_enter Tryd.func64, Tryd.ntmps64
          go_wp2_with (go_at_call 80; refine (HPA.out _).mono ?_; rintro e w' ⟨rfl, rfl⟩)
          refine calls_gen (fun W => RBSt D w W (s.extract j k) ⟨#[]⟩ (.slice none 0 0) []) (RBSt.new D w _ _) ?_
          intro W HW
          obtain ⟨tb, htb⟩ : ∃ tb, s.extract j k = tb := ⟨_, rfl⟩
          have HTB : Hid (nm t = tb) := Lib.hid (by rw [HTB0.out, htb])
          rw [htb] at HW
          refine (HOP.out W).mono ?_
          rintro e W2 ⟨rfl, hb2⟩
          have HS := Lib.hid (HW.step hb2)
          clear HW hb2 HPA HTB0 htb
          go_wp2_with fail
          refine (HOP.out W2).mono ?_
          rintro e W3 ⟨rfl, hb3⟩
          replace HS := Lib.hid (HS.out.step hb3)
          clear hb3 HOP
          have p0 := cell_blk HS.out.part 0
          have p1 := cell_blk HS.out.part 1
          have p2 := cell_blk HS.out.part 2
          have p3 := cell_blk HS.out.part 3
          have p4 := cell_blk HS.out.part 4
          have f3 := froz_blk HS.out.part 3
          have f4 := froz_blk HS.out.part 4
          simp at p0 p1 p2 p3 p4
          have hzp := fin_at HS.out.part
          go_wp2_with fail
          refine calls_gen (fun W => RBSt D w W tb ob (.slice none 0 0) []) (HS.out.setO ob) ?_
          clear HS p0 p1 p2 p3 p4 f3 f4 hzp
          intro W4 HW4
          refine (HP.out j2 W4 hj2s).mono ?_
          clear HP
          rintro e W5 ⟨hb5, v5, n5, er, rfl, hc⟩
          have HS := Lib.hid (HW4.step hb5)
          have hsz := HW4.below.size
          have hz4 := fin_at HW4.part
          rcases hc with ⟨rfl, k2, L, rfl, hL, hjk2, hk2s, hv5⟩ | ⟨her, hL, rfl⟩
          · obtain ⟨A, c, rfl, _⟩ := PIn.shape hv5
            have HV := Lib.hid (PIn.mono (fun q _ hq => by omega : ∀ q, q < W5.heap.size → W4.heap.size ≤ q → w.heap.size + 1 < q) _ _ _ hv5)
            have HPW := Lib.hid (HPM.out _ _ _ hL)
            have HF : Hid (m = OB (finish fl (.mk 2 false t o' L) (s.data.toList.drop k2))) := Lib.hid (by rw [HMM.out, HPW.out])
            clear hL hv5 HPM HPN HPW HMM hb5 HW4 hsz hz4
            obtain ⟨n0, hn0⟩ : ∃ n0, n0 = L.length := ⟨_, rfl⟩
            have HV : Hid (PIn D W5 (fun k => w.heap.size + 1 < k) (.slice A n0 c) L) := Lib.hid (by rw [hn0]; exact HV.out)
            rw [← hn0]
            clear hn0
            go_wp2_with fail
            refine wp_gen (fun W => RBSt D w W tb ob (.slice none 0 0) [] ∧ W.heap[W5.heap.size]? = some (.cells #[.slice A n0 c, .int .i64 k2, .int .i64 0] 43 (0, 0)) ∧ PIn D W (fun k => w.heap.size + 1 < k) (.slice A n0 c) L) ⟨HS.out.alloc _, heap_alloc_new _ _, PIn.alloc2 HV.out⟩ ?_
            clear HS HV
            generalize W5.heap.size = bx at *
            rintro W6 ⟨g1, g2, g3⟩
            have HS := Lib.hid g1
            have HV := Lib.hid g3
            have x0 := cell_blk g2 0
            have x1 := cell_blk g2 1
            simp at x0 x1
            have hzx := fin_at g2
            clear g1 g2 g3
            have p0 := cell_blk HS.out.part 0
            have p1 := cell_blk HS.out.part 1
            have p2 := cell_blk HS.out.part 2
            have p3 := cell_blk HS.out.part 3
            have p4 := cell_blk HS.out.part 4
            have f3 := froz_blk HS.out.part 3
            have f4 := froz_blk HS.out.part 4
            simp at p0 p1 p2 p3 p4
            have hzp := fin_at HS.out.part
            go_region
            have hS7 := (HS.out.setW HV.out).drew
            clear HS HV p0 p1 p2 p3 p4 f3 f4 hzp x0 x1 hzx
            generalize (W6.setCell ⟨w.heap.size + 1, 4, none⟩ (.slice A n0 c)).drew = W2 at *
            have HS := Lib.hid hS7
            clear hS7
            obtain ⟨pw, hpw⟩ : ∃ pw, pw = L := ⟨_, rfl⟩
            rw [← hpw] at HF HS
            clear hpw
            have hik2 : i < k2 := by omega
            generalize k2 = k at *
            by_cases hks : k < s.size
            · first
              | exfalso
                omega
              | skip
                have HD := Lib.hid (get_at s k hks)
                have h6 : ((s[k].toNat : Int) != 125) = !decide (s[k] = 125) := bn s[k] 125 (by decide)
                have hki : (k : Int) < (s.size : Int) := by omega
                by_cases c6 : s[k] = 125
                · rw [decide_eq_true c6] at h6
                  have HO : Hid (m = some ([.mk 2 false t o' pw], s.data.toList.drop (k + 1))) := Lib.hid (by rw [HF.out, HD.out, c6, ob_fin_yes])
                  have HE := Lib.hid (brace_end (i := i) (k := k + 1) HS.out HTB.out HOB.out (show (k : Int) + 1 = ((k + 1 : Nat) : Int) by omega) HO.out (by omega) (by omega))
                  have k0 := cell_blk HS.out.res 0
                  have k1 := cell_blk HS.out.res 1
                  have k2 := cell_blk HS.out.res 2
                  have l0 := froz_blk HS.out.res 0
                  have l1 := froz_blk HS.out.res 1
                  have l2 := froz_blk HS.out.res 2
                  have p0 := cell_blk HS.out.part 0
                  have p1 := cell_blk HS.out.part 1
                  have p2 := cell_blk HS.out.part 2
                  have p3 := cell_blk HS.out.part 3
                  have p4 := cell_blk HS.out.part 4
                  simp at k0 k1 k2 p0 p1 p2 p3 p4
                  have hz1 := fin_at HS.out.res
                  have hz2 := fin_at HS.out.part
                  clear c6 HD
                  go_wp2_with fail
                  refine bodyPost_ret (results_cell_row rfl _ _ _ 43 _ (0, 0) _ rfl (four_at HS.out.res _ _ _ _) Tryd.underlying43 rfl (by kernel_rfl)) rfl ?_
                  exact HE.out
                · rw [decide_eq_false c6] at h6
                  have HNO : Hid (m = none) := Lib.hid (by rw [HF.out, HD.out, ob_fin_no _ _ _ c6])
                  clear c6 HD
                  go_wp2_with fail
                  refine (rfault_any _ _ _).mono ?_
                  rintro e w2 ⟨rfl, hb2⟩
                  have HS2 := Lib.hid (HS.out.step hb2)
                  have k0 := cell_blk HS2.out.res 0
                  have k1 := cell_blk HS2.out.res 1
                  have k2 := cell_blk HS2.out.res 2
                  have l0 := froz_blk HS2.out.res 0
                  have l1 := froz_blk HS2.out.res 1
                  have l2 := froz_blk HS2.out.res 2
                  simp at k0 k1 k2
                  have hz2 := fin_at HS2.out.res
                  clear hb2
                  go_wp2_with fail
                  refine bodyPost_ret (results_cell_row rfl _ _ _ 43 _ (0, 0) _ rfl (three_set HS2.out.res _ _ _) Tryd.underlying43 rfl (by kernel_rfl)) rfl ?_
                  exact fault_end HS2.out.below (by decide) HNO.out
            · have HNO : Hid (m = none) := Lib.hid (by rw [HF.out, drop_nil s k (by omega), ob_fin_nil])
              have hki : (s.size : Int) ≤ (k : Int) := by omega
              go_wp2_with fail
              refine (rfault_any _ _ _).mono ?_
              rintro e w2 ⟨rfl, hb2⟩
              have HS2 := Lib.hid (HS.out.step hb2)
              have k0 := cell_blk HS2.out.res 0
              have k1 := cell_blk HS2.out.res 1
              have k2 := cell_blk HS2.out.res 2
              have l0 := froz_blk HS2.out.res 0
              have l1 := froz_blk HS2.out.res 1
              have l2 := froz_blk HS2.out.res 2
              simp at k0 k1 k2
              have hz2 := fin_at HS2.out.res
              clear hb2
              go_wp2_with fail
              refine bodyPost_ret (results_cell_row rfl _ _ _ 43 _ (0, 0) _ rfl (three_set HS2.out.res _ _ _) Tryd.underlying43 rfl (by kernel_rfl)) rfl ?_
              exact fault_end HS2.out.below (by decide) HNO.out
          · have HNO : Hid (m = none) := Lib.hid (by obtain ⟨a, e, h⟩ := HPN.out _ hL; rw [HMM.out, h])
            have q1 : (er != 0) = true := by simpa using her
            have HER := Lib.hid her
            have k0 := cell_blk HS.out.res 0
            have k1 := cell_blk HS.out.res 1
            have k2 := cell_blk HS.out.res 2
            have l0 := froz_blk HS.out.res 0
            have l1 := froz_blk HS.out.res 1
            have l2 := froz_blk HS.out.res 2
            simp at k0 k1 k2
            have hz2 := fin_at HS.out.res
            clear her hL HPM HPN HMM hb5 HW4 hsz hz4
            go_wp2_with fail
            refine bodyPost_ret (results_cell_row rfl _ _ _ 43 _ (0, 0) _ rfl (four_at HS.out.res _ _ _ _) Tryd.underlying43 rfl (by kernel_rfl)) rfl ?_
            exact rp_alloc (fault_end HS.out.below HER.out HNO.out) _
  · have hjl0 : (j : Int) < (s.size : Int) := by omega
    have hjl1 : (j1 : Int) < (s.size : Int) := by omega
    by_cases hb : n = 0 ∨ 64 < n
    · have HNO : Hid (m = none) := Lib.hid (by rw [← HM.out, if_pos hb])
      have hN : ((n : Int) == 0) = true ∨ (((n : Int) == 0) = false ∧ (64 : Int) < (n : Int)) := by
        by_cases h0 : n = 0
        · exact .inl (by rw [h0]; rfl)
        · exact .inr ⟨by simpa using h0, by omega⟩
      clear hb HM e3 HOPA
      rcases hN with hN | ⟨hN, hN2⟩
      · clear hk
        go_enter Tryd.func64, Tryd.ntmps64
        go_wp2_with (go_at_call 80; refine (HPA.out _).mono ?_; rintro e w' ⟨rfl, rfl⟩)
        refine calls_gen (fun W => RBSt D w W ⟨#[]⟩ ⟨#[]⟩ (.slice none 0 0) []) (RBSt.new D w _ _) ?_
        intro W HW
        have HS := Lib.hid HW
        clear HW
        refine (rfault_any _ _ _).mono ?_
        rintro e w2 ⟨rfl, hb2⟩
        have HS2 := Lib.hid (HS.out.step hb2)
        have k0 := cell_blk HS2.out.res 0
        have k1 := cell_blk HS2.out.res 1
        have k2 := cell_blk HS2.out.res 2
        have l0 := froz_blk HS2.out.res 0
        have l1 := froz_blk HS2.out.res 1
        have l2 := froz_blk HS2.out.res 2
        simp at k0 k1 k2
        have hz2 := fin_at HS2.out.res
        clear hb2
        go_wp2_with fail
        refine bodyPost_ret (results_cell_row rfl _ _ _ 43 _ (0, 0) _ rfl (three_set HS2.out.res _ _ _) Tryd.underlying43 rfl (by kernel_rfl)) rfl ?_
        exact fault_end HS2.out.below (by decide) HNO.out
      · first
        | exfalso
          omega
        | skip
          clear hk
          go_enter Tryd.func64, Tryd.ntmps64
          go_wp2_with (go_at_call 80; refine (HPA.out _).mono ?_; rintro e w' ⟨rfl, rfl⟩)
          refine calls_gen (fun W => RBSt D w W ⟨#[]⟩ ⟨#[]⟩ (.slice none 0 0) []) (RBSt.new D w _ _) ?_
          intro W HW
          have HS := Lib.hid HW
          clear HW
          refine (rfault_any _ _ _).mono ?_
          rintro e w2 ⟨rfl, hb2⟩
          have HS2 := Lib.hid (HS.out.step hb2)
          have k0 := cell_blk HS2.out.res 0
          have k1 := cell_blk HS2.out.res 1
          have k2 := cell_blk HS2.out.res 2
          have l0 := froz_blk HS2.out.res 0
          have l1 := froz_blk HS2.out.res 1
          have l2 := froz_blk HS2.out.res 2
          simp at k0 k1 k2
          have hz2 := fin_at HS2.out.res
          clear hb2
          go_wp2_with fail
          refine bodyPost_ret (results_cell_row rfl _ _ _ 43 _ (0, 0) _ rfl (three_set HS2.out.res _ _ _) Tryd.underlying43 rfl (by kernel_rfl)) rfl ?_
          exact fault_end HS2.out.below (by decide) HNO.out
    · have h5 : ((n : Int) == 0) = false := by simp; omega
      have h6 : ¬ (64 : Int) < (n : Int) := by omega
      have hn1 : 1 ≤ n := by omega
      have HX : Hid (s.extract j k = nm ((s.data.toList.drop j).take n)) := Lib.hid (by rw [ext_mid, hk, show j + n - j = n from by omega])
      have HTB0 : Hid (nm ((s.data.toList.drop j).take n) = s.extract j k) := Lib.hid HX.out.symm
      by_cases ho : opOf (s.data.toList.drop k) = []
      · have HF : Hid (m = OB (finish fl (.mk 2 false ((s.data.toList.drop j).take n) [] []) (s.data.toList.drop k))) := Lib.hid (by rw [← HM.out, if_neg hb, if_pos ho])
        have HOP : Hid (∀ W, Calls Tryd.prog 81 #[.string s, .int .i64 k] W fun e w' => e = .returned (.string ⟨#[]⟩) ∧ Below W.heap.size W w') := Lib.hid (fun W => by
          have := HOPA.out W
          rw [ho] at this
          exact this)
        clear hb HM hk HX HOPA ho
        generalize (s.data.toList.drop j).take n = t at *
        obtain ⟨o', ho'⟩ : ∃ o' : Bs, o' = [] := ⟨_, rfl⟩
        have HOB : Hid (nm o' = (⟨#[]⟩ : ByteArray)) := Lib.hid (by rw [ho']; rfl)
        have HF : Hid (m = OB (finish fl (.mk 2 false t o' []) (s.data.toList.drop k))) := Lib.hid (by rw [ho']; exact HF.out)
        obtain ⟨pw, hpw⟩ : ∃ pw : List PT, pw = [] := ⟨_, rfl⟩
        have HF : Hid (m = OB (finish fl (.mk 2 false t o' pw) (s.data.toList.drop k))) := Lib.hid (by rw [hpw]; exact HF.out)
        have HPW := Lib.hid hpw
        clear ho' hpw
        go_enter Tryd.func64, Tryd.ntmps64
        go_wp2_with (go_at_call 80; refine (HPA.out _).mono ?_; rintro e w' ⟨rfl, rfl⟩)
        refine calls_gen (fun W => RBSt D w W (s.extract j k) ⟨#[]⟩ (.slice none 0 0) pw) (by rw [HPW.out]; exact RBSt.new D w _ _) ?_
        intro W HW
        refine (HOP.out W).mono ?_
        rintro e W2 ⟨rfl, hb2⟩
        have hS := HW.step hb2
        clear HW hb2 HOP HPA
        obtain ⟨ob, hob⟩ : ∃ ob : ByteArray, ob = ⟨#[]⟩ := ⟨_, rfl⟩
        obtain ⟨tb, htb⟩ : ∃ tb, s.extract j k = tb := ⟨_, rfl⟩
        obtain ⟨A, n0, c, hv⟩ : ∃ (A : Option Addr) (n0 c : Nat), Value.slice A n0 c = .slice none 0 0 := ⟨_, _, _, rfl⟩
        have HTB : Hid (nm t = tb) := Lib.hid (by rw [HTB0.out, htb])
        have HOB : Hid (nm o' = ob) := Lib.hid (by rw [HOB.out, hob])
        have HS : Hid (RBSt D w W2 tb ob (.slice A n0 c) pw) := Lib.hid (by rw [hv, hob, ← htb]; exact hS)
        clear hob htb hv hS HTB0
        by_cases hks : k < s.size
        · first
          | exfalso
            omega
          | skip
            have HD := Lib.hid (get_at s k hks)
            have h6 : ((s[k].toNat : Int) != 125) = !decide (s[k] = 125) := bn s[k] 125 (by decide)
            have hki : (k : Int) < (s.size : Int) := by omega
            by_cases c6 : s[k] = 125
            · rw [decide_eq_true c6] at h6
              have HO : Hid (m = some ([.mk 2 false t o' pw], s.data.toList.drop (k + 1))) := Lib.hid (by rw [HF.out, HD.out, c6, ob_fin_yes])
              have HE := Lib.hid (brace_end (i := i) (k := k + 1) HS.out HTB.out HOB.out (show (k : Int) + 1 = ((k + 1 : Nat) : Int) by omega) HO.out (by omega) (by omega))
              have k0 := cell_blk HS.out.res 0
              have k1 := cell_blk HS.out.res 1
              have k2 := cell_blk HS.out.res 2
              have l0 := froz_blk HS.out.res 0
              have l1 := froz_blk HS.out.res 1
              have l2 := froz_blk HS.out.res 2
              have p0 := cell_blk HS.out.part 0
              have p1 := cell_blk HS.out.part 1
              have p2 := cell_blk HS.out.part 2
              have p3 := cell_blk HS.out.part 3
              have p4 := cell_blk HS.out.part 4
              simp at k0 k1 k2 p0 p1 p2 p3 p4
              have hz1 := fin_at HS.out.res
              have hz2 := fin_at HS.out.part
              clear c6 HD
              go_wp2_with fail
              refine bodyPost_ret (results_cell_row rfl _ _ _ 43 _ (0, 0) _ rfl (four_at HS.out.res _ _ _ _) Tryd.underlying43 rfl (by kernel_rfl)) rfl ?_
              exact HE.out
            · rw [decide_eq_false c6] at h6
              have HNO : Hid (m = none) := Lib.hid (by rw [HF.out, HD.out, ob_fin_no _ _ _ c6])
              clear c6 HD
              go_wp2_with fail
              refine (rfault_any _ _ _).mono ?_
              rintro e w2 ⟨rfl, hb2⟩
              have HS2 := Lib.hid (HS.out.step hb2)
              have k0 := cell_blk HS2.out.res 0
              have k1 := cell_blk HS2.out.res 1
              have k2 := cell_blk HS2.out.res 2
              have l0 := froz_blk HS2.out.res 0
              have l1 := froz_blk HS2.out.res 1
              have l2 := froz_blk HS2.out.res 2
              simp at k0 k1 k2
              have hz2 := fin_at HS2.out.res
              clear hb2
              go_wp2_with fail
              refine bodyPost_ret (results_cell_row rfl _ _ _ 43 _ (0, 0) _ rfl (three_set HS2.out.res _ _ _) Tryd.underlying43 rfl (by kernel_rfl)) rfl ?_
              exact fault_end HS2.out.below (by decide) HNO.out
        · have HNO : Hid (m = none) := Lib.hid (by rw [HF.out, drop_nil s k (by omega), ob_fin_nil])
          have hki : (s.size : Int) ≤ (k : Int) := by omega
          go_wp2_with fail
          refine (rfault_any _ _ _).mono ?_
          rintro e w2 ⟨rfl, hb2⟩
          have HS2 := Lib.hid (HS.out.step hb2)
          have k0 := cell_blk HS2.out.res 0
          have k1 := cell_blk HS2.out.res 1
          have k2 := cell_blk HS2.out.res 2
          have l0 := froz_blk HS2.out.res 0
          have l1 := froz_blk HS2.out.res 1
          have l2 := froz_blk HS2.out.res 2
          simp at k0 k1 k2
          have hz2 := fin_at HS2.out.res
          clear hb2
          go_wp2_with fail
          refine bodyPost_ret (results_cell_row rfl _ _ _ 43 _ (0, 0) _ rfl (three_set HS2.out.res _ _ _) Tryd.underlying43 rfl (by kernel_rfl)) rfl ?_
          exact fault_end HS2.out.below (by decide) HNO.out
      · obtain ⟨o', ho'⟩ : ∃ o', opOf (s.data.toList.drop k) = o' := ⟨_, rfl⟩
        have hst := op_stands (s.data.toList.drop k)
        rw [ho', bad_len] at hst
        rw [ho'] at ho
        have hpos : 1 ≤ o'.length := by cases o' with | nil => exact absurd rfl ho | cons => simp
        obtain ⟨ob, hob⟩ : ∃ ob, nm o' = ob := ⟨_, rfl⟩
        have hobs : ob.size = o'.length := by rw [← hob, nm_size]
        obtain ⟨j2, hj2⟩ : ∃ j2, j2 = k + o'.length := ⟨_, rfl⟩
        have HMM : Hid (m = match parts false (s.data.toList.drop j2) with
          | .bad _ _ => none
          | .ok w r2 => OB (finish fl (.mk 2 false ((s.data.toList.drop j).take n) o' w) r2)) := Lib.hid (by
          have hm := HM.out
          rw [if_neg hb, ho', if_neg ho, List.drop_drop, ← hj2] at hm
          exact hm.symm)
        have HOP : Hid (∀ W, Calls Tryd.prog 81 #[.string s, .int .i64 k] W fun e w' => e = .returned (.string ob) ∧ Below W.heap.size W w') := Lib.hid (fun W => by
          have := HOPA.out W
          rw [ho', hob] at this
          exact this)
        have HOB := Lib.hid hob
        have hj2s : j2 ≤ s.size := by omega
        have e5 : (k : Int) + (ob.size : Int) = (j2 : Int) := by omega
        have hij2 : i < j2 := by omega
        have o1 : ob.toList ≠ [] := by
          intro e
          have h2 := nm_size o'
          rw [hob] at h2
          rw [listD] at e
          have := congrArg List.length e
          rw [← sizeD] at this
          rw [List.length_nil] at this
          omega
        have o2 : (!ob.toList.isEmpty) = true := by simpa using o1
        have o3 : (ob.toList == []) = false := by simpa using o1
        have o4 : ob.toList.isEmpty = false := by simpa using o1
        clear hst hpos hob hobs hj2 ho'
        first
        | exfalso
          omega
        | skip
          clear hb HM hk HX ho HOPA
          generalize (s.data.toList.drop j).take n = t at *
          go_enter Tryd.func64, Tryd.ntmps64
          go_wp2_with (go_at_call 80; refine (HPA.out _).mono ?_; rintro e w' ⟨rfl, rfl⟩)
          refine calls_gen (fun W => RBSt D w W (s.extract j k) ⟨#[]⟩ (.slice none 0 0) []) (RBSt.new D w _ _) ?_
          intro W HW
          obtain ⟨tb, htb⟩ : ∃ tb, s.extract j k = tb := ⟨_, rfl⟩
          have HTB : Hid (nm t = tb) := Lib.hid (by rw [HTB0.out, htb])
          rw [htb] at HW
          refine (HOP.out W).mono ?_
          rintro e W2 ⟨rfl, hb2⟩
          have HS := Lib.hid (HW.step hb2)
          clear HW hb2 HPA HTB0 htb
          go_wp2_with fail
          refine (HOP.out W2).mono ?_
          rintro e W3 ⟨rfl, hb3⟩
          replace HS := Lib.hid (HS.out.step hb3)
          clear hb3 HOP
          have p0 := cell_blk HS.out.part 0
          have p1 := cell_blk HS.out.part 1
          have p2 := cell_blk HS.out.part 2
          have p3 := cell_blk HS.out.part 3
          have p4 := cell_blk HS.out.part 4
          have f3 := froz_blk HS.out.part 3
          have f4 := froz_blk HS.out.part 4
          simp at p0 p1 p2 p3 p4
          have hzp := fin_at HS.out.part
          go_wp2_with fail
          refine calls_gen (fun W => RBSt D w W tb ob (.slice none 0 0) []) (HS.out.setO ob) ?_
          clear HS p0 p1 p2 p3 p4 f3 f4 hzp
          intro W4 HW4
          refine (HP.out j2 W4 hj2s).mono ?_
          clear HP
          rintro e W5 ⟨hb5, v5, n5, er, rfl, hc⟩
          have HS := Lib.hid (HW4.step hb5)
          have hsz := HW4.below.size
          have hz4 := fin_at HW4.part
          rcases hc with ⟨rfl, k2, L, rfl, hL, hjk2, hk2s, hv5⟩ | ⟨her, hL, rfl⟩
          · obtain ⟨A, c, rfl, _⟩ := PIn.shape hv5
            have HV := Lib.hid (PIn.mono (fun q _ hq => by omega : ∀ q, q < W5.heap.size → W4.heap.size ≤ q → w.heap.size + 1 < q) _ _ _ hv5)
            have HPW := Lib.hid (HPM.out _ _ _ hL)
            have HF : Hid (m = OB (finish fl (.mk 2 false t o' L) (s.data.toList.drop k2))) := Lib.hid (by rw [HMM.out, HPW.out])
            clear hL hv5 HPM HPN HPW HMM hb5 HW4 hsz hz4
            obtain ⟨n0, hn0⟩ : ∃ n0, n0 = L.length := ⟨_, rfl⟩
            have HV : Hid (PIn D W5 (fun k => w.heap.size + 1 < k) (.slice A n0 c) L) := Lib.hid (by rw [hn0]; exact HV.out)
            rw [← hn0]
            clear hn0
            go_wp2_with fail
            refine wp_gen (fun W => RBSt D w W tb ob (.slice none 0 0) [] ∧ W.heap[W5.heap.size]? = some (.cells #[.slice A n0 c, .int .i64 k2, .int .i64 0] 43 (0, 0)) ∧ PIn D W (fun k => w.heap.size + 1 < k) (.slice A n0 c) L) ⟨HS.out.alloc _, heap_alloc_new _ _, PIn.alloc2 HV.out⟩ ?_
            clear HS HV
            generalize W5.heap.size = bx at *
            rintro W6 ⟨g1, g2, g3⟩
            have HS := Lib.hid g1
            have HV := Lib.hid g3
            have x0 := cell_blk g2 0
            have x1 := cell_blk g2 1
            simp at x0 x1
            have hzx := fin_at g2
            clear g1 g2 g3
            have p0 := cell_blk HS.out.part 0
            have p1 := cell_blk HS.out.part 1
            have p2 := cell_blk HS.out.part 2
            have p3 := cell_blk HS.out.part 3
            have p4 := cell_blk HS.out.part 4
            have f3 := froz_blk HS.out.part 3
            have f4 := froz_blk HS.out.part 4
            simp at p0 p1 p2 p3 p4
            have hzp := fin_at HS.out.part
            go_region
            have hS7 := (HS.out.setW HV.out).drew
            clear HS HV p0 p1 p2 p3 p4 f3 f4 hzp x0 x1 hzx
            generalize (W6.setCell ⟨w.heap.size + 1, 4, none⟩ (.slice A n0 c)).drew = W2 at *
            have HS := Lib.hid hS7
            clear hS7
            obtain ⟨pw, hpw⟩ : ∃ pw, pw = L := ⟨_, rfl⟩
            rw [← hpw] at HF HS
            clear hpw
            have hik2 : i < k2 := by omega
            generalize k2 = k at *
            by_cases hks : k < s.size
            · first
              | exfalso
                omega
              | skip
                have HD := Lib.hid (get_at s k hks)
                have h6 : ((s[k].toNat : Int) != 125) = !decide (s[k] = 125) := bn s[k] 125 (by decide)
                have hki : (k : Int) < (s.size : Int) := by omega
                by_cases c6 : s[k] = 125
                · rw [decide_eq_true c6] at h6
                  have HO : Hid (m = some ([.mk 2 false t o' pw], s.data.toList.drop (k + 1))) := Lib.hid (by rw [HF.out, HD.out, c6, ob_fin_yes])
                  have HE := Lib.hid (brace_end (i := i) (k := k + 1) HS.out HTB.out HOB.out (show (k : Int) + 1 = ((k + 1 : Nat) : Int) by omega) HO.out (by omega) (by omega))
                  have k0 := cell_blk HS.out.res 0
                  have k1 := cell_blk HS.out.res 1
                  have k2 := cell_blk HS.out.res 2
                  have l0 := froz_blk HS.out.res 0
                  have l1 := froz_blk HS.out.res 1
                  have l2 := froz_blk HS.out.res 2
                  have p0 := cell_blk HS.out.part 0
                  have p1 := cell_blk HS.out.part 1
                  have p2 := cell_blk HS.out.part 2
                  have p3 := cell_blk HS.out.part 3
                  have p4 := cell_blk HS.out.part 4
                  simp at k0 k1 k2 p0 p1 p2 p3 p4
                  have hz1 := fin_at HS.out.res
                  have hz2 := fin_at HS.out.part
                  clear c6 HD
                  go_wp2_with fail
                  refine bodyPost_ret (results_cell_row rfl _ _ _ 43 _ (0, 0) _ rfl (four_at HS.out.res _ _ _ _) Tryd.underlying43 rfl (by kernel_rfl)) rfl ?_
                  exact HE.out
                · rw [decide_eq_false c6] at h6
                  have HNO : Hid (m = none) := Lib.hid (by rw [HF.out, HD.out, ob_fin_no _ _ _ c6])
                  clear c6 HD
                  go_wp2_with fail
                  refine (rfault_any _ _ _).mono ?_
                  rintro e w2 ⟨rfl, hb2⟩
                  have HS2 := Lib.hid (HS.out.step hb2)
                  have k0 := cell_blk HS2.out.res 0
                  have k1 := cell_blk HS2.out.res 1
                  have k2 := cell_blk HS2.out.res 2
                  have l0 := froz_blk HS2.out.res 0
                  have l1 := froz_blk HS2.out.res 1
                  have l2 := froz_blk HS2.out.res 2
                  simp at k0 k1 k2
                  have hz2 := fin_at HS2.out.res
                  clear hb2
                  go_wp2_with fail
                  refine bodyPost_ret (results_cell_row rfl _ _ _ 43 _ (0, 0) _ rfl (three_set HS2.out.res _ _ _) Tryd.underlying43 rfl (by kernel_rfl)) rfl ?_
                  exact fault_end HS2.out.below (by decide) HNO.out
            · have HNO : Hid (m = none) := Lib.hid (by rw [HF.out, drop_nil s k (by omega), ob_fin_nil])
              have hki : (s.size : Int) ≤ (k : Int) := by omega
              go_wp2_with fail
              refine (rfault_any _ _ _).mono ?_
              rintro e w2 ⟨rfl, hb2⟩
              have HS2 := Lib.hid (HS.out.step hb2)
              have k0 := cell_blk HS2.out.res 0
              have k1 := cell_blk HS2.out.res 1
              have k2 := cell_blk HS2.out.res 2
              have l0 := froz_blk HS2.out.res 0
              have l1 := froz_blk HS2.out.res 1
              have l2 := froz_blk HS2.out.res 2
              simp at k0 k1 k2
              have hz2 := fin_at HS2.out.res
              clear hb2
              go_wp2_with fail
              refine bodyPost_ret (results_cell_row rfl _ _ _ 43 _ (0, 0) _ rfl (three_set HS2.out.res _ _ _) Tryd.underlying43 rfl (by kernel_rfl)) rfl ?_
              exact fault_end HS2.out.below (by decide) HNO.out
          · have HNO : Hid (m = none) := Lib.hid (by obtain ⟨a, e, h⟩ := HPN.out _ hL; rw [HMM.out, h])
            have q1 : (er != 0) = true := by simpa using her
            have HER := Lib.hid her
            have k0 := cell_blk HS.out.res 0
            have k1 := cell_blk HS.out.res 1
            have k2 := cell_blk HS.out.res 2
            have l0 := froz_blk HS.out.res 0
            have l1 := froz_blk HS.out.res 1
            have l2 := froz_blk HS.out.res 2
            simp at k0 k1 k2
            have hz2 := fin_at HS.out.res
            clear her hL HPM HPN HMM hb5 HW4 hsz hz4
            go_wp2_with fail
            refine bodyPost_ret (results_cell_row rfl _ _ _ 43 _ (0, 0) _ rfl (four_at HS.out.res _ _ _ _) Tryd.underlying43 rfl (by kernel_rfl)) rfl ?_
            exact rp_alloc (fault_end HS.out.below HER.out HNO.out) _
  · have hjl0 : (j : Int) < (s.size : Int) := by omega
    have hjl1 : (j1 : Int) < (s.size : Int) := by omega
    by_cases hb : n = 0 ∨ 64 < n
    · have HNO : Hid (m = none) := Lib.hid (by rw [← HM.out, if_pos hb])
      have hN : ((n : Int) == 0) = true ∨ (((n : Int) == 0) = false ∧ (64 : Int) < (n : Int)) := by
        by_cases h0 : n = 0
        · exact .inl (by rw [h0]; rfl)
        · exact .inr ⟨by simpa using h0, by omega⟩
      clear hb HM e3 HOPA
      rcases hN with hN | ⟨hN, hN2⟩
      · clear hk
        go_enter Tryd.func64, Tryd.ntmps64
        go_wp2_with (go_at_call 80; refine (HPA.out _).mono ?_; rintro e w' ⟨rfl, rfl⟩)
        refine calls_gen (fun W => RBSt D w W ⟨#[]⟩ ⟨#[]⟩ (.slice none 0 0) []) (RBSt.new D w _ _) ?_
        intro W HW
        have HS := Lib.hid HW
        clear HW
        refine (rfault_any _ _ _).mono ?_
        rintro e w2 ⟨rfl, hb2⟩
        have HS2 := Lib.hid (HS.out.step hb2)
        have k0 := cell_blk HS2.out.res 0
        have k1 := cell_blk HS2.out.res 1
        have k2 := cell_blk HS2.out.res 2
        have l0 := froz_blk HS2.out.res 0
        have l1 := froz_blk HS2.out.res 1
        have l2 := froz_blk HS2.out.res 2
        simp at k0 k1 k2
        have hz2 := fin_at HS2.out.res
        clear hb2
        go_wp2_with fail
        refine bodyPost_ret (results_cell_row rfl _ _ _ 43 _ (0, 0) _ rfl (three_set HS2.out.res _ _ _) Tryd.underlying43 rfl (by kernel_rfl)) rfl ?_
        exact fault_end HS2.out.below (by decide) HNO.out
      · first
        | exfalso
          omega
        | skip
          clear hk
          go_enter Tryd.func64, Tryd.ntmps64
          go_wp2_with (go_at_call 80; refine (HPA.out _).mono ?_; rintro e w' ⟨rfl, rfl⟩)
          refine calls_gen (fun W => RBSt D w W ⟨#[]⟩ ⟨#[]⟩ (.slice none 0 0) []) (RBSt.new D w _ _) ?_
          intro W HW
          have HS := Lib.hid HW
          clear HW
          refine (rfault_any _ _ _).mono ?_
          rintro e w2 ⟨rfl, hb2⟩
          have HS2 := Lib.hid (HS.out.step hb2)
          have k0 := cell_blk HS2.out.res 0
          have k1 := cell_blk HS2.out.res 1
          have k2 := cell_blk HS2.out.res 2
          have l0 := froz_blk HS2.out.res 0
          have l1 := froz_blk HS2.out.res 1
          have l2 := froz_blk HS2.out.res 2
          simp at k0 k1 k2
          have hz2 := fin_at HS2.out.res
          clear hb2
          go_wp2_with fail
          refine bodyPost_ret (results_cell_row rfl _ _ _ 43 _ (0, 0) _ rfl (three_set HS2.out.res _ _ _) Tryd.underlying43 rfl (by kernel_rfl)) rfl ?_
          exact fault_end HS2.out.below (by decide) HNO.out
    · have h5 : ((n : Int) == 0) = false := by simp; omega
      have h6 : ¬ (64 : Int) < (n : Int) := by omega
      have hn1 : 1 ≤ n := by omega
      have HX : Hid (s.extract j k = nm ((s.data.toList.drop j).take n)) := Lib.hid (by rw [ext_mid, hk, show j + n - j = n from by omega])
      have HTB0 : Hid (nm ((s.data.toList.drop j).take n) = s.extract j k) := Lib.hid HX.out.symm
      by_cases ho : opOf (s.data.toList.drop k) = []
      · have HF : Hid (m = OB (finish fl (.mk 2 false ((s.data.toList.drop j).take n) [] []) (s.data.toList.drop k))) := Lib.hid (by rw [← HM.out, if_neg hb, if_pos ho])
        have HOP : Hid (∀ W, Calls Tryd.prog 81 #[.string s, .int .i64 k] W fun e w' => e = .returned (.string ⟨#[]⟩) ∧ Below W.heap.size W w') := Lib.hid (fun W => by
          have := HOPA.out W
          rw [ho] at this
          exact this)
        clear hb HM hk HX HOPA ho
        generalize (s.data.toList.drop j).take n = t at *
        obtain ⟨o', ho'⟩ : ∃ o' : Bs, o' = [] := ⟨_, rfl⟩
        have HOB : Hid (nm o' = (⟨#[]⟩ : ByteArray)) := Lib.hid (by rw [ho']; rfl)
        have HF : Hid (m = OB (finish fl (.mk 2 false t o' []) (s.data.toList.drop k))) := Lib.hid (by rw [ho']; exact HF.out)
        obtain ⟨pw, hpw⟩ : ∃ pw : List PT, pw = [] := ⟨_, rfl⟩
        have HF : Hid (m = OB (finish fl (.mk 2 false t o' pw) (s.data.toList.drop k))) := Lib.hid (by rw [hpw]; exact HF.out)
        have HPW := Lib.hid hpw
        clear ho' hpw
        go_enter Tryd.func64, Tryd.ntmps64
        go_wp2_with (go_at_call 80; refine (HPA.out _).mono ?_; rintro e w' ⟨rfl, rfl⟩)
        refine calls_gen (fun W => RBSt D w W (s.extract j k) ⟨#[]⟩ (.slice none 0 0) pw) (by rw [HPW.out]; exact RBSt.new D w _ _) ?_
        intro W HW
        refine (HOP.out W).mono ?_
        rintro e W2 ⟨rfl, hb2⟩
        have hS := HW.step hb2
        clear HW hb2 HOP HPA
        obtain ⟨ob, hob⟩ : ∃ ob : ByteArray, ob = ⟨#[]⟩ := ⟨_, rfl⟩
        obtain ⟨tb, htb⟩ : ∃ tb, s.extract j k = tb := ⟨_, rfl⟩
        obtain ⟨A, n0, c, hv⟩ : ∃ (A : Option Addr) (n0 c : Nat), Value.slice A n0 c = .slice none 0 0 := ⟨_, _, _, rfl⟩
        have HTB : Hid (nm t = tb) := Lib.hid (by rw [HTB0.out, htb])
        have HOB : Hid (nm o' = ob) := Lib.hid (by rw [HOB.out, hob])
        have HS : Hid (RBSt D w W2 tb ob (.slice A n0 c) pw) := Lib.hid (by rw [hv, hob, ← htb]; exact hS)
        clear hob htb hv hS HTB0
        by_cases hks : k < s.size
        · first
          | exfalso
            omega
          | skip
            have HD := Lib.hid (get_at s k hks)
            have h6 : ((s[k].toNat : Int) != 125) = !decide (s[k] = 125) := bn s[k] 125 (by decide)
            have hki : (k : Int) < (s.size : Int) := by omega
            by_cases c6 : s[k] = 125
            · rw [decide_eq_true c6] at h6
              have HO : Hid (m = some ([.mk 2 false t o' pw], s.data.toList.drop (k + 1))) := Lib.hid (by rw [HF.out, HD.out, c6, ob_fin_yes])
              have HE := Lib.hid (brace_end (i := i) (k := k + 1) HS.out HTB.out HOB.out (show (k : Int) + 1 = ((k + 1 : Nat) : Int) by omega) HO.out (by omega) (by omega))
              have k0 := cell_blk HS.out.res 0
              have k1 := cell_blk HS.out.res 1
              have k2 := cell_blk HS.out.res 2
              have l0 := froz_blk HS.out.res 0
              have l1 := froz_blk HS.out.res 1
              have l2 := froz_blk HS.out.res 2
              have p0 := cell_blk HS.out.part 0
              have p1 := cell_blk HS.out.part 1
              have p2 := cell_blk HS.out.part 2
              have p3 := cell_blk HS.out.part 3
              have p4 := cell_blk HS.out.part 4
              simp at k0 k1 k2 p0 p1 p2 p3 p4
              have hz1 := fin_at HS.out.res
              have hz2 := fin_at HS.out.part
              clear c6 HD
              go_wp2_with fail
              refine bodyPost_ret (results_cell_row rfl _ _ _ 43 _ (0, 0) _ rfl (four_at HS.out.res _ _ _ _) Tryd.underlying43 rfl (by kernel_rfl)) rfl ?_
              exact HE.out
            · rw [decide_eq_false c6] at h6
              have HNO : Hid (m = none) := Lib.hid (by rw [HF.out, HD.out, ob_fin_no _ _ _ c6])
              clear c6 HD
              go_wp2_with fail
              refine (rfault_any _ _ _).mono ?_
              rintro e w2 ⟨rfl, hb2⟩
              have HS2 := Lib.hid (HS.out.step hb2)
              have k0 := cell_blk HS2.out.res 0
              have k1 := cell_blk HS2.out.res 1
              have k2 := cell_blk HS2.out.res 2
              have l0 := froz_blk HS2.out.res 0
              have l1 := froz_blk HS2.out.res 1
              have l2 := froz_blk HS2.out.res 2
              simp at k0 k1 k2
              have hz2 := fin_at HS2.out.res
              clear hb2
              go_wp2_with fail
              refine bodyPost_ret (results_cell_row rfl _ _ _ 43 _ (0, 0) _ rfl (three_set HS2.out.res _ _ _) Tryd.underlying43 rfl (by kernel_rfl)) rfl ?_
              exact fault_end HS2.out.below (by decide) HNO.out
        · have HNO : Hid (m = none) := Lib.hid (by rw [HF.out, drop_nil s k (by omega), ob_fin_nil])
          have hki : (s.size : Int) ≤ (k : Int) := by omega
          go_wp2_with fail
          refine (rfault_any _ _ _).mono ?_
          rintro e w2 ⟨rfl, hb2⟩
          have HS2 := Lib.hid (HS.out.step hb2)
          have k0 := cell_blk HS2.out.res 0
          have k1 := cell_blk HS2.out.res 1
          have k2 := cell_blk HS2.out.res 2
          have l0 := froz_blk HS2.out.res 0
          have l1 := froz_blk HS2.out.res 1
          have l2 := froz_blk HS2.out.res 2
          simp at k0 k1 k2
          have hz2 := fin_at HS2.out.res
          clear hb2
          go_wp2_with fail
          refine bodyPost_ret (results_cell_row rfl _ _ _ 43 _ (0, 0) _ rfl (three_set HS2.out.res _ _ _) Tryd.underlying43 rfl (by kernel_rfl)) rfl ?_
          exact fault_end HS2.out.below (by decide) HNO.out
      · obtain ⟨o', ho'⟩ : ∃ o', opOf (s.data.toList.drop k) = o' := ⟨_, rfl⟩
        have hst := op_stands (s.data.toList.drop k)
        rw [ho', bad_len] at hst
        rw [ho'] at ho
        have hpos : 1 ≤ o'.length := by cases o' with | nil => exact absurd rfl ho | cons => simp
        obtain ⟨ob, hob⟩ : ∃ ob, nm o' = ob := ⟨_, rfl⟩
        have hobs : ob.size = o'.length := by rw [← hob, nm_size]
        obtain ⟨j2, hj2⟩ : ∃ j2, j2 = k + o'.length := ⟨_, rfl⟩
        have HMM : Hid (m = match parts false (s.data.toList.drop j2) with
          | .bad _ _ => none
          | .ok w r2 => OB (finish fl (.mk 2 false ((s.data.toList.drop j).take n) o' w) r2)) := Lib.hid (by
          have hm := HM.out
          rw [if_neg hb, ho', if_neg ho, List.drop_drop, ← hj2] at hm
          exact hm.symm)
        have HOP : Hid (∀ W, Calls Tryd.prog 81 #[.string s, .int .i64 k] W fun e w' => e = .returned (.string ob) ∧ Below W.heap.size W w') := Lib.hid (fun W => by
          have := HOPA.out W
          rw [ho', hob] at this
          exact this)
        have HOB := Lib.hid hob
        have hj2s : j2 ≤ s.size := by omega
        have e5 : (k : Int) + (ob.size : Int) = (j2 : Int) := by omega
        have hij2 : i < j2 := by omega
        have o1 : ob.toList ≠ [] := by
          intro e
          have h2 := nm_size o'
          rw [hob] at h2
          rw [listD] at e
          have := congrArg List.length e
          rw [← sizeD] at this
          rw [List.length_nil] at this
          omega
        have o2 : (!ob.toList.isEmpty) = true := by simpa using o1
        have o3 : (ob.toList == []) = false := by simpa using o1
        have o4 : ob.toList.isEmpty = false := by simpa using o1
        clear hst hpos hob hobs hj2 ho'
        first
        | exfalso
          omega
        | skip
          clear hb HM hk HX ho HOPA
          generalize (s.data.toList.drop j).take n = t at *
          go_enter Tryd.func64, Tryd.ntmps64
          go_wp2_with (go_at_call 80; refine (HPA.out _).mono ?_; rintro e w' ⟨rfl, rfl⟩)
          refine calls_gen (fun W => RBSt D w W (s.extract j k) ⟨#[]⟩ (.slice none 0 0) []) (RBSt.new D w _ _) ?_
          intro W HW
          obtain ⟨tb, htb⟩ : ∃ tb, s.extract j k = tb := ⟨_, rfl⟩
          have HTB : Hid (nm t = tb) := Lib.hid (by rw [HTB0.out, htb])
          rw [htb] at HW
          refine (HOP.out W).mono ?_
          rintro e W2 ⟨rfl, hb2⟩
          have HS := Lib.hid (HW.step hb2)
          clear HW hb2 HPA HTB0 htb
          go_wp2_with fail
          refine (HOP.out W2).mono ?_
          rintro e W3 ⟨rfl, hb3⟩
          replace HS := Lib.hid (HS.out.step hb3)
          clear hb3 HOP
          have p0 := cell_blk HS.out.part 0
          have p1 := cell_blk HS.out.part 1
          have p2 := cell_blk HS.out.part 2
          have p3 := cell_blk HS.out.part 3
          have p4 := cell_blk HS.out.part 4
          have f3 := froz_blk HS.out.part 3
          have f4 := froz_blk HS.out.part 4
          simp at p0 p1 p2 p3 p4
          have hzp := fin_at HS.out.part
          go_wp2_with fail
          refine calls_gen (fun W => RBSt D w W tb ob (.slice none 0 0) []) (HS.out.setO ob) ?_
          clear HS p0 p1 p2 p3 p4 f3 f4 hzp
          intro W4 HW4
          refine (HP.out j2 W4 hj2s).mono ?_
          clear HP
          rintro e W5 ⟨hb5, v5, n5, er, rfl, hc⟩
          have HS := Lib.hid (HW4.step hb5)
          have hsz := HW4.below.size
          have hz4 := fin_at HW4.part
          rcases hc with ⟨rfl, k2, L, rfl, hL, hjk2, hk2s, hv5⟩ | ⟨her, hL, rfl⟩
          · obtain ⟨A, c, rfl, _⟩ := PIn.shape hv5
            have HV := Lib.hid (PIn.mono (fun q _ hq => by omega : ∀ q, q < W5.heap.size → W4.heap.size ≤ q → w.heap.size + 1 < q) _ _ _ hv5)
            have HPW := Lib.hid (HPM.out _ _ _ hL)
            have HF : Hid (m = OB (finish fl (.mk 2 false t o' L) (s.data.toList.drop k2))) := Lib.hid (by rw [HMM.out, HPW.out])
            clear hL hv5 HPM HPN HPW HMM hb5 HW4 hsz hz4
            obtain ⟨n0, hn0⟩ : ∃ n0, n0 = L.length := ⟨_, rfl⟩
            have HV : Hid (PIn D W5 (fun k => w.heap.size + 1 < k) (.slice A n0 c) L) := Lib.hid (by rw [hn0]; exact HV.out)
            rw [← hn0]
            clear hn0
            go_wp2_with fail
            refine wp_gen (fun W => RBSt D w W tb ob (.slice none 0 0) [] ∧ W.heap[W5.heap.size]? = some (.cells #[.slice A n0 c, .int .i64 k2, .int .i64 0] 43 (0, 0)) ∧ PIn D W (fun k => w.heap.size + 1 < k) (.slice A n0 c) L) ⟨HS.out.alloc _, heap_alloc_new _ _, PIn.alloc2 HV.out⟩ ?_
            clear HS HV
            generalize W5.heap.size = bx at *
            rintro W6 ⟨g1, g2, g3⟩
            have HS := Lib.hid g1
            have HV := Lib.hid g3
            have x0 := cell_blk g2 0
            have x1 := cell_blk g2 1
            simp at x0 x1
            have hzx := fin_at g2
            clear g1 g2 g3
            have p0 := cell_blk HS.out.part 0
            have p1 := cell_blk HS.out.part 1
            have p2 := cell_blk HS.out.part 2
            have p3 := cell_blk HS.out.part 3
            have p4 := cell_blk HS.out.part 4
            have f3 := froz_blk HS.out.part 3
            have f4 := froz_blk HS.out.part 4
            simp at p0 p1 p2 p3 p4
            have hzp := fin_at HS.out.part
            go_region
            have hS7 := (HS.out.setW HV.out).drew
            clear HS HV p0 p1 p2 p3 p4 f3 f4 hzp x0 x1 hzx
            generalize (W6.setCell ⟨w.heap.size + 1, 4, none⟩ (.slice A n0 c)).drew = W2 at *
            have HS := Lib.hid hS7
            clear hS7
            obtain ⟨pw, hpw⟩ : ∃ pw, pw = L := ⟨_, rfl⟩
            rw [← hpw] at HF HS
            clear hpw
            have hik2 : i < k2 := by omega
            generalize k2 = k at *
            by_cases hks : k < s.size
            · first
              | exfalso
                omega
              | skip
                have HD := Lib.hid (get_at s k hks)
                have h6 : ((s[k].toNat : Int) != 125) = !decide (s[k] = 125) := bn s[k] 125 (by decide)
                have hki : (k : Int) < (s.size : Int) := by omega
                by_cases c6 : s[k] = 125
                · rw [decide_eq_true c6] at h6
                  have HO : Hid (m = some ([.mk 2 false t o' pw], s.data.toList.drop (k + 1))) := Lib.hid (by rw [HF.out, HD.out, c6, ob_fin_yes])
                  have HE := Lib.hid (brace_end (i := i) (k := k + 1) HS.out HTB.out HOB.out (show (k : Int) + 1 = ((k + 1 : Nat) : Int) by omega) HO.out (by omega) (by omega))
                  have k0 := cell_blk HS.out.res 0
                  have k1 := cell_blk HS.out.res 1
                  have k2 := cell_blk HS.out.res 2
                  have l0 := froz_blk HS.out.res 0
                  have l1 := froz_blk HS.out.res 1
                  have l2 := froz_blk HS.out.res 2
                  have p0 := cell_blk HS.out.part 0
                  have p1 := cell_blk HS.out.part 1
                  have p2 := cell_blk HS.out.part 2
                  have p3 := cell_blk HS.out.part 3
                  have p4 := cell_blk HS.out.part 4
                  simp at k0 k1 k2 p0 p1 p2 p3 p4
                  have hz1 := fin_at HS.out.res
                  have hz2 := fin_at HS.out.part
                  clear c6 HD
                  go_wp2_with fail
                  refine bodyPost_ret (results_cell_row rfl _ _ _ 43 _ (0, 0) _ rfl (four_at HS.out.res _ _ _ _) Tryd.underlying43 rfl (by kernel_rfl)) rfl ?_
                  exact HE.out
                · rw [decide_eq_false c6] at h6
                  have HNO : Hid (m = none) := Lib.hid (by rw [HF.out, HD.out, ob_fin_no _ _ _ c6])
                  clear c6 HD
                  go_wp2_with fail
                  refine (rfault_any _ _ _).mono ?_
                  rintro e w2 ⟨rfl, hb2⟩
                  have HS2 := Lib.hid (HS.out.step hb2)
                  have k0 := cell_blk HS2.out.res 0
                  have k1 := cell_blk HS2.out.res 1
                  have k2 := cell_blk HS2.out.res 2
                  have l0 := froz_blk HS2.out.res 0
                  have l1 := froz_blk HS2.out.res 1
                  have l2 := froz_blk HS2.out.res 2
                  simp at k0 k1 k2
                  have hz2 := fin_at HS2.out.res
                  clear hb2
                  go_wp2_with fail
                  refine bodyPost_ret (results_cell_row rfl _ _ _ 43 _ (0, 0) _ rfl (three_set HS2.out.res _ _ _) Tryd.underlying43 rfl (by kernel_rfl)) rfl ?_
                  exact fault_end HS2.out.below (by decide) HNO.out
            · have HNO : Hid (m = none) := Lib.hid (by rw [HF.out, drop_nil s k (by omega), ob_fin_nil])
              have hki : (s.size : Int) ≤ (k : Int) := by omega
              go_wp2_with fail
              refine (rfault_any _ _ _).mono ?_
              rintro e w2 ⟨rfl, hb2⟩
              have HS2 := Lib.hid (HS.out.step hb2)
              have k0 := cell_blk HS2.out.res 0
              have k1 := cell_blk HS2.out.res 1
              have k2 := cell_blk HS2.out.res 2
              have l0 := froz_blk HS2.out.res 0
              have l1 := froz_blk HS2.out.res 1
              have l2 := froz_blk HS2.out.res 2
              simp at k0 k1 k2
              have hz2 := fin_at HS2.out.res
              clear hb2
              go_wp2_with fail
              refine bodyPost_ret (results_cell_row rfl _ _ _ 43 _ (0, 0) _ rfl (three_set HS2.out.res _ _ _) Tryd.underlying43 rfl (by kernel_rfl)) rfl ?_
              exact fault_end HS2.out.below (by decide) HNO.out
          · have HNO : Hid (m = none) := Lib.hid (by obtain ⟨a, e, h⟩ := HPN.out _ hL; rw [HMM.out, h])
            have q1 : (er != 0) = true := by simpa using her
            have HER := Lib.hid her
            have k0 := cell_blk HS.out.res 0
            have k1 := cell_blk HS.out.res 1
            have k2 := cell_blk HS.out.res 2
            have l0 := froz_blk HS.out.res 0
            have l1 := froz_blk HS.out.res 1
            have l2 := froz_blk HS.out.res 2
            simp at k0 k1 k2
            have hz2 := fin_at HS.out.res
            clear her hL HPM HPN HMM hb5 HW4 hsz hz4
            go_wp2_with fail
            refine bodyPost_ret (results_cell_row rfl _ _ _ 43 _ (0, 0) _ rfl (four_at HS.out.res _ _ _ _) Tryd.underlying43 rfl (by kernel_rfl)) rfl ?_
            exact rp_alloc (fault_end HS.out.below HER.out HNO.out) _

end Go.Proofs.YtkbhjjmgacahdaaDoor.Wd
