/- DERIVED. Walks: SameNode of package tree, and the library's Equal and EqualFunc that it and Same call. -/
import Derived.Test.YtgcoioejcnileaaDoorTreeChk2
import Derived.Laws.StructEq
namespace Go.Proofs.YtgcoioejcnileaaDoor
open Go.RowKit Go.Sort
open PathM TreeM
set_option linter.unusedVariables false

theorem eq59 (a b : ByteArray) (x y : Int) (w : World) : (Op.equalIn 10000 59 (.agg #[.string a, .int .i64 x]) (.agg #[.string b, .int .i64 y])).run Tryd.prog w = .ok (a.toList == b.toList && x == y) w := by
  have u3 := Tryd.underlying3
  have a3 := Tryd.isAgg3
  have z3 := Tryd.sizeOf3
  have u9 := Tryd.underlying9
  have a9 := Tryd.isAgg9
  have z9 := Tryd.sizeOf9
  have hS : Tryd.prog.underlying 59 = some (.struct (Tryd.prog.fieldsOf 59)) := by kernel_rfl
  have hp : Tryd.prog.stoodInHeld 59 = false := by kernel_rfl
  rw [show (10000 : Nat) = 9999 + 1 from rfl, run_equalIn_agg w 9999 59 _ _ hS hp]
  simp only [Program.fieldsOf, Tryd.underlying59]
  go_simp
  by_cases h1 : a.toList = b.toList <;> by_cases h2 : x = y <;> simp [h1, h2]

theorem ent_neq (a b : Ent) (w : World) : (binOp .neq 59 (.agg #[.string (nm a.key), .int .i64 a.to]) (.agg #[.string (nm b.key), .int .i64 b.to])).run Tryd.prog w = .ok (.bool (!decide (a = b))) w := by
  rw [run_neq_struct, eq59]
  have h : ((nm a.key).toList == (nm b.key).toList && a.to == b.to) = decide (a = b) := by
    rw [listD, listD]
    show (a.key == b.key && a.to == b.to) = _
    obtain ⟨ak, at_⟩ := a
    obtain ⟨bk, bt⟩ := b
    rw [Bool.eq_iff_iff]; simp
  rw [h]; rfl

theorem ents_eq {a b : List Ent} (hl : a.length = b.length) : allTo (fun i => decide (entAt a i = entAt b i)) a.length = decide (a = b) := by
  rw [Bool.eq_iff_iff, allTo_iff]
  constructor
  · intro h
    simp only [decide_eq_true_eq]
    refine List.ext_getElem hl (fun i h1 h2 => ?_)
    have := h i h1
    simpa [entAt, h1, h2] using this
  · intro h i hi
    simp only [decide_eq_true_eq] at h ⊢
    rw [h]
theorem nds_eq {a b : List Nd} (hl : a.length = b.length) : allTo (fun i => decide (ndAt a i = ndAt b i)) a.length = decide (a = b) := by
  rw [Bool.eq_iff_iff, allTo_iff]
  constructor
  · intro h
    simp only [decide_eq_true_eq]
    refine List.ext_getElem hl (fun i h1 h2 => ?_)
    have := h i h1
    simpa [ndAt, h1, h2] using this
  · intro h i hi
    simp only [decide_eq_true_eq] at h ⊢
    rw [h]

/-- It returns a bool; the world has drawn. -/
def QuietB (b : Bool) (w : World) (e : Ending) (w' : World) : Prop := e = .returned (.bool b) ∧ ∃ q, w' = w.drewN q

set_option maxHeartbeats 2000000 in
theorem equal_any (v u : Value) (es fs : List Ent) (B : Nat) (w : World) (hE : EntsIn w B v es) (hF : EntsIn w B u fs) :
    Calls Tryd.prog 51 #[v, u] w (QuietB (decide (es = fs)) w) := by
  unfold QuietB
  by_cases hl : es.length = fs.length
  · obtain ⟨hlen, _, ⟨A, c, rfl, h0⟩ | ⟨b, off, c, rfl, hcap, hb, hpos, hcells⟩⟩ := hE.cases
    · have hf0 : fs = [] := List.length_eq_zero_iff.1 (by rw [← hl, h0]; rfl)
      obtain ⟨A2, c2, rfl, _⟩ := ents_len hF
      rw [h0, hf0]
      clear hl h0 hf0 hE hF
      go_enter Tryd.func51, Tryd.ntmps51
      go_wp2
      refine wp_loop_rounds 1 ?_
      rw [rounds_succ]
      go_wp2
      go_ret
      exact ⟨rfl, 0, rfl⟩
    obtain ⟨_, _, ⟨A, c', rfl, h0⟩ | ⟨b', off', c', rfl, hcap', hb', hpos', hcells'⟩⟩ := hF.cases
    · have h9 : es.length = 0 := by rw [hl, h0]; rfl
      omega
    rw [← ents_eq hl]
    obtain ⟨r, hr⟩ : ∃ r, allTo (fun i => decide (entAt es i = entAt fs i)) es.length = r := ⟨_, rfl⟩
    rw [hr]
    have hfail : ∀ k, k < es.length → ¬ entAt es k = entAt fs k → r = false := fun k hk h => by rw [← hr]; exact allTo_not hk (by simpa using h)
    rw [← hl] at hcells' ⊢
    generalize hn : es.length = n at *
    have HF := Lib.hid hfail; have HC := Lib.hid hcells; have HC' := Lib.hid hcells'; have HR := Lib.hid hr; have HN := Lib.hid hn; have HL := Lib.hid hl
    clear hfail hcells hcells' hr hn hl hE hF
    go_enter Tryd.func51, Tryd.ntmps51
    go_wp2
    go_loopw [13] (fun i wr => ∃ k q : Nat, k ≤ n ∧ i = .int .i64 k ∧ wr = w.drewN q ∧ allTo (fun i => decide (entAt es i = entAt fs i)) k = true) (fun i _ => n - (intOf i).toNat)
    case atStart => exact ⟨0, 0, by omega, rfl, rfl, rfl⟩
    case round =>
      obtain ⟨k, q, hk, rfl, rfl, hto⟩ := hrel
      have HT := Lib.hid hto
      clear hto
      by_cases hlt : k < n
      · obtain ⟨c0, c1⟩ := HC.out k hlt
        obtain ⟨d0, d1⟩ := HC'.out k hlt
        have hkk : (k : Int) < (n : Int) := by omega
        have hne := fun W => ent_neq (entAt es k) (entAt fs k) W
        by_cases he : entAt es k = entAt fs k
        · have HO := Lib.hid (allTo_succ HT.out (show decide (entAt es k = entAt fs k) = true by simpa using he))
          have hbb : (!decide (entAt es k = entAt fs k)) = false := by simp [he]
          rw [hbb] at hne
          clear he hbb
          generalize entAt es k = x at *
          generalize entAt fs k = y at *
          go_wp2
          go_quiet (fail)
          go_wp2
          go_roundw
          case rel => exact ⟨k + 1, q + nq, by omega, by go_num, rfl, HO.out⟩
          case measure => simp [intOf]; omega
        · have HO := Lib.hid (HF.out k hlt he)
          have hbb : (!decide (entAt es k = entAt fs k)) = true := by simp [he]
          rw [hbb] at hne
          clear he hbb
          generalize entAt es k = x at *
          generalize entAt fs k = y at *
          go_wp2
          go_quiet (fail)
          go_wp2
          go_ret
          exact ⟨ret_bool HO.out.symm, q + nq, by first | rfl | rw [World.drewN_drewN]⟩
      · have hkn : k = n := by omega
        have HO : Hid (true = r) := Lib.hid (by rw [← HR.out, ← hkn]; exact HT.out.symm)
        clear hkn
        go_wp2
        go_ret
        exact ⟨ret_bool HO.out, _, rfl⟩
  · have hr : decide (es = fs) = false := by simp; intro h; exact hl (by rw [h])
    rw [hr]
    obtain ⟨A1, c1, rfl, _⟩ := ents_len hE
    obtain ⟨A2, c2, rfl, _⟩ := ents_len hF
    have q1 : ((es.length : Int) != (fs.length : Int)) = true := by simp; omega
    clear hr hE hF hl
    generalize es.length = n at *
    generalize fs.length = m at *
    go_enter Tryd.func51, Tryd.ntmps51
    go_wp2
    go_ret
    exact ⟨rfl, 0, rfl⟩

/-- It returns a bool; what was there before stays. -/
def BelowB (b : Bool) (w : World) (e : Ending) (w' : World) : Prop := e = .returned (.bool b) ∧ Below w.heap.size w w'

set_option maxHeartbeats 4000000 in
theorem sameNode_any (v u : Value) (a b : Nd) (B : Nat) (w : World) (hE : EntsIn w B v a.es) (hF : EntsIn w B u b.es) (hB : B ≤ w.heap.size) :
    Calls Tryd.prog 29 #[ndV v a, ndV u b] w (BelowB (decide (a = b)) w) := by
  unfold BelowB
  have hq : ∀ W, Below w.heap.size w W → Calls Tryd.prog 51 #[v, u] W (QuietB (decide (a.es = b.es)) W) :=
    fun W hW => equal_any v u a.es b.es w.heap.size W ((hE.more hB).below hW) ((hF.more hB).below hW)
  obtain ⟨A1, c1, rfl, _⟩ := ents_len hE
  obtain ⟨A2, c2, rfl, _⟩ := ents_len hF
  have HQ := Lib.hid hq
  clear hq hE hF
  unfold ndV
  obtain ⟨i1, k1, m1, o1, t1, d1, e1⟩ := a
  obtain ⟨i2, k2, m2, o2, t2, d2, e2⟩ := b
  simp only at *
  have hdec : decide ((⟨i1, k1, m1, o1, t1, d1, e1⟩ : Nd) = ⟨i2, k2, m2, o2, t2, d2, e2⟩) = (decide (i1 = i2) && (decide (k1 = k2) && (decide (m1 = m2) && (decide (o1 = o2) && (decide (t1 = t2) && (decide (d1 = d2) && decide (e1 = e2))))))) := by
    rw [Bool.eq_iff_iff]; simp
  rw [hdec]
  clear hdec
  have hB1 : Below w.heap.size w ((w.alloc (.cells #[.int .i64 i1, .int .i64 k1, .int .i64 m1, .int .i64 o1, .int .i64 t1, .string (nm d1), .slice A1 e1.length c1] 37)).alloc (.cells #[.int .i64 i2, .int .i64 k2, .int .i64 m2, .int .i64 o2, .int .i64 t2, .string (nm d2), .slice A2 e2.length c2] 37)) :=
    ((Below.refl _ _).alloc (Nat.le_refl _) _).alloc (by simp) _
  have HB := Lib.hid hB1
  clear hB1
  by_cases h1 : i1 = i2
  · have q1 : (i1 == i2) = true := by simpa using h1
    rw [decide_eq_true h1]
    clear h1
    by_cases h2 : k1 = k2
    · have q2 : (k1 == k2) = true := by simpa using h2
      rw [decide_eq_true h2]
      clear h2
      by_cases h3 : m1 = m2
      · have q3 : (m1 == m2) = true := by simpa using h3
        rw [decide_eq_true h3]
        clear h3
        by_cases h4 : o1 = o2
        · have q4 : (o1 == o2) = true := by simpa using h4
          rw [decide_eq_true h4]
          clear h4
          by_cases h5 : t1 = t2
          · have q5 : (t1 == t2) = true := by simpa using h5
            rw [decide_eq_true h5]
            clear h5
            by_cases h6 : d1 = d2
            · have q6 : ((nm d1).toList == (nm d2).toList) = true := by rw [listD, listD]; show (d1 == d2) = true; simpa using h6
              rw [decide_eq_true h6]
              clear h6
              have hq2 := HQ.out _ HB.out
              generalize decide (e1 = e2) = r at *
              clear HQ
              have HQ := Lib.hid hq2
              clear hq2
              generalize e1.length = l1 at *
              generalize e2.length = l2 at *
              generalize nm d1 = D1 at *
              generalize nm d2 = D2 at *
              go_enter Tryd.func29, Tryd.ntmps29
              go_wp2_with (go_at_call 51; refine HQ.out.mono ?_; rintro e w' ⟨rfl, q, rfl⟩)
              go_ret
              exact ⟨rfl, below_drewN' HB.out _⟩
            · have q6 : ((nm d1).toList == (nm d2).toList) = false := by rw [listD, listD]; exact beq_eq_false_iff_ne.2 h6
              rw [decide_eq_false h6]
              clear h6 HQ
              generalize e1.length = l1 at *
              generalize e2.length = l2 at *
              generalize nm d1 = D1 at *
              generalize nm d2 = D2 at *
              go_enter Tryd.func29, Tryd.ntmps29
              go_wp2
              go_ret
              exact ⟨rfl, HB.out⟩
          · have q5 : (t1 == t2) = false := by simpa using h5
            rw [decide_eq_false h5]
            clear h5 HQ
            generalize e1.length = l1 at *
            generalize e2.length = l2 at *
            generalize nm d1 = D1 at *
            generalize nm d2 = D2 at *
            go_enter Tryd.func29, Tryd.ntmps29
            go_wp2
            go_ret
            exact ⟨rfl, HB.out⟩
        · have q4 : (o1 == o2) = false := by simpa using h4
          rw [decide_eq_false h4]
          clear h4 HQ
          generalize e1.length = l1 at *
          generalize e2.length = l2 at *
          generalize nm d1 = D1 at *
          generalize nm d2 = D2 at *
          go_enter Tryd.func29, Tryd.ntmps29
          go_wp2
          go_ret
          exact ⟨rfl, HB.out⟩
      · have q3 : (m1 == m2) = false := by simpa using h3
        rw [decide_eq_false h3]
        clear h3 HQ
        generalize e1.length = l1 at *
        generalize e2.length = l2 at *
        generalize nm d1 = D1 at *
        generalize nm d2 = D2 at *
        go_enter Tryd.func29, Tryd.ntmps29
        go_wp2
        go_ret
        exact ⟨rfl, HB.out⟩
    · have q2 : (k1 == k2) = false := by simpa using h2
      rw [decide_eq_false h2]
      clear h2 HQ
      generalize e1.length = l1 at *
      generalize e2.length = l2 at *
      generalize nm d1 = D1 at *
      generalize nm d2 = D2 at *
      go_enter Tryd.func29, Tryd.ntmps29
      go_wp2
      go_ret
      exact ⟨rfl, HB.out⟩
  · have q1 : (i1 == i2) = false := by simpa using h1
    rw [decide_eq_false h1]
    clear h1 HQ
    generalize e1.length = l1 at *
    generalize e2.length = l2 at *
    generalize nm d1 = D1 at *
    generalize nm d2 = D2 at *
    go_enter Tryd.func29, Tryd.ntmps29
    go_wp2
    go_ret
    exact ⟨rfl, HB.out⟩

end Go.Proofs.YtgcoioejcnileaaDoor
