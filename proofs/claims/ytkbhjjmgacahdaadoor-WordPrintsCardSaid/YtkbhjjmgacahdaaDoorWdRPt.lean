/- DERIVED. Plain mathematics of layer 7: what the document reads is no greater than what it was read from. -/
import Derived.Test.YtkbhjjmgacahdaaDoorWdRDol
namespace Go.Proofs.YtkbhjjmgacahdaaDoor.Wd
open PathM WdM
set_option linter.unusedVariables false

theorem psize_nil : psize [] = 0 := by rw [psize]
theorem psize_app (a b : List PT) : psize (a ++ b) = psize a + psize b := by
  induction a with
  | nil => rw [List.nil_append, psize_nil]; omega
  | cons p a ih => rw [List.cons_append, psize_cons, psize_cons, ih]; omega
theorem psize_one (p : PT) : psize [p] = 1 + p.text.length + psize p.word := by rw [psize_cons, psize_nil]; omega
theorem psize_add (a : List PT) (p : PT) : psize (addP a p) ≤ psize a + psize [p] := by
  rcases WdM.snoc_cases a with rfl | ⟨b, q, rfl⟩
  · rw [addP_nil, psize_nil]; omega
  · by_cases h : merges q p
    · rw [addP_yes _ _ _ h, psize_app, psize_app, psize_one, psize_one, psize_one]
      simp only [glue, PT.text, PT.word, List.length_append]
      cases q; cases p; simp only []; omega
    · rw [addP_no _ _ _ h, psize_app]; omega
theorem psize_join (a b : List PT) : psize (joinL a b) ≤ psize a + psize b := by
  induction b generalizing a with
  | nil => rw [joinL_nil]; omega
  | cons p b ih =>
    have h1 := ih (addP a p)
    have h2 := psize_add a p
    have h3 : psize (p :: b) = psize [p] + psize b := psize_app [p] b
    show psize (joinL (addP a p) b) ≤ _
    omega
theorem psize_qmap : ∀ l : List PT, psize (qmap l) ≤ psize l
  | [] => by rw [qmap_nil]; omega
  | .mk k q t o w :: r => by
    have h1 := psize_qmap w
    have h2 := psize_qmap r
    have h3 := psize_join [] (qmap w)
    rw [psize_nil] at h3
    rw [qmap_cons, psize_cons, psize_cons]
    simp only [q1, PT.text, PT.word]
    show 1 + t.length + psize (joinL [] (qmap w)) + psize (qmap r) ≤ _
    omega
theorem psize_quoted (l : List PT) : psize (quotedL l) ≤ psize l := by
  have h1 := psize_join [] (qmap l)
  have h2 := psize_qmap l
  rw [psize_nil] at h1
  unfold quotedL
  omega
/-- Of what is read from so many bytes. -/
def Fits (n : Nat) (o : Option (List PT × Bs)) : Prop := ∀ L r, o = some (L, r) → psize L + 2 * r.length ≤ n
theorem fits_none (n : Nat) : Fits n none := fun L r h => by cases h
theorem fits_some {n : Nat} {L : List PT} {r : Bs} (h : psize L + 2 * r.length ≤ n) : Fits n (some (L, r)) := fun L' r' e => by
  injection e with e; injection e with e1 e2; subst e1; subst e2; exact h
def FitsR (rec : Rec) : Prop := ∀ parts, rec = some parts → ∀ l L r, parts false l = .ok L r → psize L + 2 * r.length ≤ 2 * l.length
theorem take_drop (l : Bs) (n : Nat) : (l.take n).length + (l.drop n).length = l.length := by
  rw [List.length_take, List.length_drop]; omega
theorem fits_fin (fl : Nat) (p : PT) (l : Bs) (n : Nat) (h : psize [p] + 2 * l.length ≤ n + 2) : Fits n (OB (finish fl p l)) := by
  cases l with
  | nil => rw [ob_fin_nil]; exact fits_none _
  | cons c t =>
    by_cases hc : c = 125
    · subst hc
      rw [ob_fin_yes]
      exact fits_some (by rw [List.length_cons] at h; omega)
    · rw [ob_fin_no _ _ _ hc]; exact fits_none _
theorem fits_braces {rec : Rec} (h : FitsR rec) (fl : Nat) (l : Bs) : Fits (2 * l.length) (OB (braces rec fl false l)) := by
  cases rec with
  | none => exact fits_none _
  | some parts =>
    cases hl : lengthStands l with
    | true =>
      rw [br_len parts fl l hl]
      split
      · exact fits_none _
      · refine fits_fin _ _ _ _ ?_
        rw [psize_one]
        simp only [PT.text, PT.word, psize_nil]
        have := take_drop (l.drop 1) (parLen (l.drop 1))
        have h0 : (l.drop 1).length ≤ l.length := by rw [List.length_drop]; omega
        omega
    | false =>
      rw [br_not parts fl l hl]
      have ht := take_drop l (parLen l)
      split
      · exact fits_none _
      · split
        · refine fits_fin _ _ _ _ ?_
          rw [psize_one]
          simp only [PT.text, PT.word, psize_nil]
          omega
        · split
          · exact fits_none _
          · rename_i w r2 heq
            have hp := h parts rfl _ _ _ heq
            refine fits_fin _ _ _ _ ?_
            rw [psize_one]
            simp only [PT.text, PT.word]
            rw [List.length_drop] at hp
            omega
theorem arith_len (fl : Nat) : ∀ (l : Bs) (dp : Nat) (acc t r : Bs), arithS fl dp acc l = .ok t r → t.length + r.length ≤ acc.length + l.length
  | [], dp, acc, t, r, h => by cases h
  | c :: l, dp, acc, t, r, h => by
    rw [arithS] at h
    have e : (acc ++ [c]).length = acc.length + 1 := by simp
    have ih := fun dp => arith_len fl l dp (acc ++ [c]) t r
    rw [List.length_cons]
    split at h
    · cases h
    · split at h
      · have := ih _ h; omega
      · split at h
        · split at h
          · have := ih _ h; omega
          · split at h
            · injection h with h1 h2
              subst h1; subst h2
              rw [List.length_drop]; omega
            · cases h
        · have := ih _ h; omega
theorem fits_dol {rec : Rec} (h : FitsR rec) (l : Bs) : Fits (2 * l.length + 2) (rDol rec l) := by
  cases l with
  | nil => rw [dol_nil]; exact fits_some (by rw [psize_one]; simp [litP, PT.text, PT.word, psize_nil])
  | cons c t =>
    rw [List.length_cons]
    by_cases h1 : c = 123
    · subst h1
      rw [dol_brace]
      exact fun L r e => by have := fits_braces h _ _ L r e; omega
    by_cases h2 : c = 40
    · subst h2
      cases hs : stands [40] t with
      | true =>
        obtain ⟨t', rfl⟩ : ∃ t', t = 40 :: t' := by
          cases t with
          | nil => cases hs
          | cons d t => rw [st1] at hs; simp at hs; exact ⟨t, by rw [← hs]⟩
        rw [dol_arith, List.length_cons]
        cases ha : arithS (t'.length + 1 + 1 + 1) 0 [] t' with
        | bad a e => exact fits_none _
        | ok x r =>
          have := arith_len _ _ _ _ _ _ ha
          simp only [List.length_nil] at this
          exact fits_some (by rw [psize_one]; simp only [PT.text, PT.word, psize_nil]; omega)
      | false =>
        rw [dol_cmd rec t hs]
        cases hi : inside t with
        | none => exact fits_none _
        | some n =>
          have := take_drop t n
          refine fits_some ?_
          rw [psize_one]
          simp only [PT.text, PT.word, psize_nil]
          rw [List.length_drop] at this ⊢
          omega
    cases hl : letter c with
    | true =>
      rw [dol_letter rec c t hl]
      split
      · exact fits_none _
      · have := take_drop (c :: t) (nameLen (c :: t))
        rw [List.length_cons] at this
        exact fits_some (by rw [psize_one]; simp only [PT.text, PT.word, psize_nil]; omega)
    | false =>
      by_cases hd : digit c = true ∨ signs.contains c = true
      · rw [dol_one rec c t hl hd]
        exact fits_some (by rw [psize_one]; simp only [PT.text, PT.word, psize_nil, List.length_singleton]; omega)
      · rw [dol_else rec c t hl (by cases hx : digit c with | false => rfl | true => exact absurd (.inl hx) hd) (by cases hx : signs.contains c with | false => rfl | true => exact absurd (.inr hx) hd) h1 h2]
        exact fits_some (by rw [psize_one]; simp only [litP, PT.text, PT.word, psize_nil, List.length_cons, List.length_nil]; omega)
theorem fits_lit {n : Nat} (q : Bool) (t r : Bs) (h : 1 + t.length + 2 * r.length ≤ n) : Fits n (some ([litP q t], r)) := fits_some (by rw [psize_one]; simp only [litP, PT.text, PT.word, psize_nil]; omega)
theorem fits_next2 {rec : Rec} (h : FitsR rec) (c : UInt8) (t : Bs) : Fits (2 * t.length + 2) (rNext2 rec c t) := by
  unfold rNext2
  split
  · exact fits_none _
  · split
    · exact fits_dol h t
    · split
      · cases t with
        | nil => exact fits_none _
        | cons d t' =>
          rw [List.length_cons]
          simp only []
          split
          · exact fits_some (by rw [psize_nil]; omega)
          · exact fits_lit _ _ _ (by simp; omega)
      · exact fits_lit _ _ _ (by simp; omega)
theorem fits_r2 {rec : Rec} (h : FitsR rec) : ∀ (n : Nat) (acc : List PT) (l : Bs), Fits (psize acc + 2 * l.length) (r2 rec n acc l)
  | 0, acc, l => fits_none _
  | n + 1, acc, [] => by rw [r2]; exact fits_some (by simp)
  | n + 1, acc, c :: t => by
    rw [r2, List.length_cons]
    split
    · exact fits_some (by rw [List.length_cons]; omega)
    · have hn := fits_next2 h c t
      cases hx : rNext2 rec c t with
      | none => exact fits_none _
      | some x =>
        obtain ⟨L, r⟩ := x
        have h1 := hn L r hx
        have h2 := psize_join acc L
        exact fun L' r' e => by have := fits_r2 h n (joinL acc L) r L' r' e; omega
theorem fits_next {rec : Rec} (h : FitsR rec) (c : UInt8) (t : Bs) : Fits (2 * t.length + 2) (rNext rec c t) := by
  unfold rNext
  split
  · exact fits_none _
  · split
    · exact fits_dol h t
    · split
      · cases t with
        | nil => exact fits_none _
        | cons d t' =>
          rw [List.length_cons]
          simp only []
          split
          · exact fits_some (by rw [psize_nil]; omega)
          · exact fits_lit _ _ _ (by simp; omega)
      · split
        · split
          · exact fits_none _
          · have := take_drop t (Go.Lib.indexByte t 39).toNat
            rw [List.length_drop] at this
            exact fits_lit _ _ _ (by rw [List.length_drop]; omega)
        · split
          · have hr := fits_r2 h (t.length + 1) [] t
            rw [psize_nil] at hr
            cases hx : r2 rec (t.length + 1) [] t with
            | none => exact fits_none _
            | some x =>
              obtain ⟨L, r⟩ := x
              have h1 := hr L r hx
              cases r with
              | nil => exact fits_none _
              | cons d r =>
                rw [List.length_cons] at h1
                simp only []
                split
                · exact fits_lit _ _ _ (by simp; omega)
                · have := psize_quoted L
                  exact fits_some (by omega)
          · exact fits_lit _ _ _ (by simp; omega)
theorem fits_loop {rec : Rec} (h : FitsR rec) (ends : UInt8 → Bool) : ∀ (n : Nat) (acc : List PT) (l : Bs), Fits (psize acc + 2 * l.length) (rLoop rec ends n acc l)
  | 0, acc, l => by rw [rLoop]; exact fits_some (Nat.le_refl _)
  | n + 1, acc, [] => by rw [rLoop]; exact fits_some (by simp)
  | n + 1, acc, c :: t => by
    rw [rLoop, List.length_cons]
    split
    · exact fits_some (by rw [List.length_cons]; omega)
    · have hn := fits_next h c t
      cases hx : rNext rec c t with
      | none => exact fits_none _
      | some x =>
        obtain ⟨L, r⟩ := x
        have h1 := hn L r hx
        have h2 := psize_join acc L
        exact fun L' r' e => by have := fits_loop h ends n (joinL acc L) r L' r' e; omega
theorem fits_parts {rec : Rec} (h : FitsR rec) (ends : UInt8 → Bool) (l : Bs) : Fits (2 * l.length) (rParts rec ends l) := by
  have := fits_loop h ends (l.length + 1) [] l
  rw [psize_nil, Nat.zero_add] at this
  exact this
theorem fits_recN : ∀ n, FitsR (recN n)
  | 0 => fun parts h => by cases h
  | n + 1 => fun parts h l L r hp => by
    cases h
    have hs := rec_same n l
    cases hx : rParts (recN n) (· == 125) l with
    | none =>
      rw [hx] at hs
      obtain ⟨a, e, h2⟩ := hs
      have hp : partsR (recN n) (· == 125) false l = .ok L r := hp
      rw [h2] at hp
      cases hp
    | some x =>
      obtain ⟨L', r'⟩ := x
      rw [hx] at hs
      have hp : partsR (recN n) (· == 125) false l = .ok L r := hp
      rw [hs] at hp
      injection hp with h1 h2
      subst h1; subst h2
      exact fits_parts (fits_recN n) _ _ _ _ hx
end Go.Proofs.YtkbhjjmgacahdaaDoor.Wd

/- DERIVED. The walk over the document's parts, over what its next answers. -/
namespace Go.Proofs.YtkbhjjmgacahdaaDoor.Wd
open Go.RowKit
open PathM WdM
set_option linter.unusedVariables false

/-- What reads parts one by one. -/
structure Lp (ends : UInt8 → Bool) (nx : UInt8 → Bs → Option (List PT × Bs)) (lp : Nat → List PT → Bs → Option (List PT × Bs)) : Prop where
  nil : ∀ f acc, lp (f + 1) acc [] = some (acc, [])
  stop : ∀ f acc c t, ends c = true → lp (f + 1) acc (c :: t) = some (acc, c :: t)
  bad : ∀ f acc c t, ends c = false → nx c t = none → lp (f + 1) acc (c :: t) = none
  go : ∀ f acc c t L r, ends c = false → nx c t = some (L, r) → lp (f + 1) acc (c :: t) = lp f (joinL acc L) r
  fits : ∀ c t, Fits (2 * t.length + 2) (nx c t)
theorem Lp.step {ends : UInt8 → Bool} {nx : UInt8 → Bs → Option (List PT × Bs)} {lp : Nat → List PT → Bs → Option (List PT × Bs)} (h : Lp ends nx lp) {f : Nat} {acc : List PT} {c : UInt8} {t r : Bs} {L : List PT} (he : ends c = false) (hn : nx c t = some (L, r)) : lp (f + 1) acc (c :: t) = lp f (joinL acc L) r := h.go f acc c t L r he hn
theorem rq_ok {D i k : Nat} {s : ByteArray} {w w2 : World} {v : Value} {L : List PT} {o : Option (List PT × Bs)} (hb : Below w.heap.size w w2) (hv : PIn D w2 (fun j => w.heap.size < j) v L) (ho : o = some (L, s.data.toList.drop k)) (hik : i ≤ k) (hk : k ≤ s.size) :
    RQ D s i w o (.returned (.agg #[v, .int .i64 (k : Nat), .int .i64 0])) (((w2.setCell ⟨w.heap.size, 0, none⟩ v).setCell ⟨w.heap.size, 1, none⟩ (.int .i64 (k : Nat))).setCell ⟨w.heap.size, 2, none⟩ (.int .i64 0)) := by
  have hK := three_kept (S := (· = w.heap.size)) w2 rfl v (.int .i64 (k : Nat)) (.int .i64 0)
  exact ⟨hb.trans (hK.below hb.size (fun k e => by omega)), _, k, 0, rfl, .inl ⟨rfl, k, L, rfl, ho, hik, hk, PIn.mono (fun j _ hj => by omega) _ _ _ (PIn.keep2 hK (fun j h1 h2 => by omega) hv)⟩⟩
theorem rq_alloc {D i : Nat} {s : ByteArray} {w W : World} {o : Option (List PT × Bs)} {e : Ending} (h : RQ D s i w o e W) (ob : Obj) : RQ D s i w o e (W.alloc ob) := by
  obtain ⟨hb, v, n, er, he, hc⟩ := h
  refine ⟨hb.alloc hb.size ob, v, n, er, he, ?_⟩
  rcases hc with ⟨h1, k, L, h2, h3, h4, h5, h6⟩ | h
  · exact .inl ⟨h1, k, L, h2, h3, h4, h5, PIn.alloc2 h6⟩
  · exact .inr h
theorem rq_bad {D i : Nat} {s : ByteArray} {w w2 : World} {n er : Int} (hb : Below w.heap.size w w2) (her : er ≠ 0) {o : Option (List PT × Bs)} (ho : o = none) :
    RQ D s i w o (.returned (.agg #[.slice none 0 0, .int .i64 n, .int .i64 er])) (((w2.setCell ⟨w.heap.size, 0, none⟩ (.slice none 0 0)).setCell ⟨w.heap.size, 1, none⟩ (.int .i64 n)).setCell ⟨w.heap.size, 2, none⟩ (.int .i64 er)) :=
  ⟨hb.trans ((three_kept (S := (· = w.heap.size)) w2 rfl (.slice none 0 0) (.int .i64 n) (.int .i64 er)).below hb.size (fun k e => by omega)), _, n, er, rfl, .inr ⟨her, ho, rfl⟩⟩
set_option maxRecDepth 100000 in
set_option maxHeartbeats 3200000 in
theorem rparts0 (D : Nat) (s : ByteArray) (i dp : Nat) (nx : UInt8 → Bs → Option (List PT × Bs)) (lp : Nat → List PT → Bs → Option (List PT × Bs)) (hlp : Lp meta_ nx lp) (hi : i ≤ s.size) (hs : s.size ≤ 8192)
    (hnx : ∀ j (h : j < s.size) W, Calls Tryd.prog 36 #[.string s, .int .i64 j, .int .i64 0, .int .i64 dp] W (RP D s j W (nx s[j] (s.data.toList.drop (j + 1))))) (w : World) :
    Calls Tryd.prog 24 #[.string s, .int .i64 i, .int .i64 0, .int .i64 dp] w (RQ D s i w (lp (s.size + 1) [] (s.data.toList.drop i))) := by
  obtain ⟨m, hm⟩ : ∃ m, lp (s.size + 1) [] (s.data.toList.drop i) = m := ⟨_, rfl⟩
  rw [hm]
  have HI0 := Lib.hid hm
  have HNX := Lib.hid hnx
  have HLP := Lib.hid hlp
  clear hm hnx hlp
  go_enter Tryd.func24, Tryd.ntmps24
  go_wp2_with fail
  go_loopg [1, 9] (s.size - i) (fun g x1 x9 wr => ∃ (f j : Nat) (A : Option Addr) (c : Nat) (acc : List PT), g = s.size - j ∧ x1 = .int .i64 j ∧ x9 = .slice A acc.length c ∧ i ≤ j ∧ j ≤ s.size ∧ s.size < f + j ∧ psize acc ≤ 2 * j ∧ Hid (wr.heap[w.heap.size]? = some (.cells #[.slice none 0 0, .int .i64 0, .int .i64 0] 43 (0, 0))) ∧ Hid (Below w.heap.size w wr) ∧ Hid (PIn D wr (fun k => w.heap.size < k) (.slice A acc.length c) acc) ∧ Hid (lp f acc (s.data.toList.drop j) = m))
  case atStart => exact ⟨s.size + 1, i, none, 0, [], rfl, rfl, rfl, Nat.le_refl _, hi, by omega, by rw [psize_nil]; omega, Lib.hid (heap_alloc_new _ _), Lib.hid ((Below.refl _ _).alloc (Nat.le_refl _) _), Lib.hid (PIn.nil _ _ _ _ _), HI0⟩
  case round =>
    obtain ⟨f, j, A, c, acc, rfl, rfl, rfl, hij, hjs, hf, hpa, HR, HB, HV, HI⟩ := hrel
    clear HI0
    by_cases hlt : j < s.size
    · have HD := Lib.hid (get_at s j hlt)
      have HN := HNX.out j hlt
      have hmt := fun W => rmeta_any s[j] W
      cases he : meta_ s[j] with
      | true =>
        have HMT := hmt
        rw [he] at HMT
        clear hmt
        have HO : Hid (m = some (acc, s.data.toList.drop j)) := Lib.hid (by
          obtain ⟨f', rfl⟩ : ∃ f', f = f' + 1 := ⟨f - 1, by omega⟩
          rw [← HI.out, HD.out, HLP.out.stop _ _ _ _ he])
        clear he HD HN
        have k0 := cell_blk HR.out 0
        have k1 := cell_blk HR.out 1
        have k2 := cell_blk HR.out 2
        have l0 := froz_blk HR.out 0
        have l1 := froz_blk HR.out 1
        have l2 := froz_blk HR.out 2
        simp at k0 k1 k2
        have hz := fin_at HR.out
        go_wp2_with (go_at_call 35; refine (HMT _).mono ?_; rintro e w' ⟨rfl, rfl⟩)
        refine bodyPost_ret (results_cell_row rfl _ _ _ 43 _ (0, 0) _ rfl (three_set HR.out _ _ _) Tryd.underlying43 rfl (by kernel_rfl)) rfl ?_
        exact rq_ok HB.out HV.out HO.out hij hjs
      | false =>
        have HMT := hmt
        rw [he] at HMT
        clear hmt
        have HE := Lib.hid he
        clear he
        generalize hnx : nx s[j] (s.data.toList.drop (j + 1)) = o at HN
        have HX := Lib.hid hnx
        have HNW := Lib.hid HN
        clear hnx HN
        have k0 := cell_blk HR.out 0
        have k1 := cell_blk HR.out 1
        have k2 := cell_blk HR.out 2
        have l0 := froz_blk HR.out 0
        have l1 := froz_blk HR.out 1
        have l2 := froz_blk HR.out 2
        simp at k0 k1 k2
        have hz := fin_at HR.out
        clear k0 k1 k2 l0 l1 l2
        go_wp2_with (go_at_call 35; refine (HMT _).mono ?_; rintro e w' ⟨rfl, rfl⟩)
        refine (HNW.out _).mono ?_
        rintro e w2 ⟨hb2, v2, n2, er, rfl, hc⟩
        have HR2 := Lib.hid ((hb2.block w.heap.size hz).trans HR.out)
        have HB2 := Lib.hid (HB.out.trans (hb2.mono HB.out.size))
        have HV2 := Lib.hid (PIn.below hb2 HV.out)
        have hwz : wr.heap.size ≤ w2.heap.size := hb2.size
        clear hb2 HNW HR HB HV
        rcases hc with ⟨rfl, k, L, rfl, ho, hjk, hks, hp⟩ | ⟨her, ho, rfl⟩
        · obtain ⟨A2, c2, rfl, _⟩ := PIn.shape hp
          have hfit := HLP.out.fits s[j] (s.data.toList.drop (j + 1)) L (s.data.toList.drop k) (HX.out.trans ho)
          rw [bad_len, bad_len] at hfit
          have HI3 : Hid (lp (f - 1) (joinL acc L) (s.data.toList.drop k) = m) := Lib.hid (by
            obtain ⟨f', rfl⟩ : ∃ f', f = f' + 1 := ⟨f - 1, by omega⟩
            rw [← HI.out, HD.out, HLP.out.step HE.out (HX.out.trans ho)]
            rfl)
          have hpj := psize_join acc L
          have hl1 := psize_len acc
          have hl2 := psize_len L
          have HP2 := Lib.hid (PIn.mono (fun j _ hj => by omega : ∀ k', k' < w2.heap.size → wr.heap.size ≤ k' → w.heap.size < k') _ _ _ hp)
          clear ho hp HI HX HE HD
          have HR3 := Lib.hid ((Below.heap_alloc w2 (.cells #[.slice A2 L.length c2, .int .i64 k, .int .i64 0] 43) _ (by omega)).trans HR2.out)
          have HB3 := Lib.hid (HB2.out.alloc HB2.out.size (.cells #[.slice A2 L.length c2, .int .i64 k, .int .i64 0] 43))
          have HV3 := Lib.hid (PIn.alloc2 (o := (.cells #[.slice A2 L.length c2, .int .i64 k, .int .i64 0] 43)) HV2.out)
          have HP3 := Lib.hid (PIn.alloc2 (o := (.cells #[.slice A2 L.length c2, .int .i64 k, .int .i64 0] 43)) HP2.out)
          have HX3 := Lib.hid (heap_alloc_new w2 (.cells #[.slice A2 L.length c2, .int .i64 k, .int .i64 0] 43))
          clear HR2 HB2 HV2 HP2
          go_wp2_with fail
          refine calls_gen (fun W => W.heap[w.heap.size]? = some (.cells #[.slice none 0 0, .int .i64 0, .int .i64 0] 43 (0, 0)) ∧ Below w.heap.size w W ∧ PIn D W (fun j => w.heap.size < j) (.slice A acc.length c) acc ∧ PIn D W (fun j => w.heap.size < j) (.slice A2 L.length c2) L ∧ W.heap[w2.heap.size]? = some (.cells #[.slice A2 L.length c2, .int .i64 k, .int .i64 0] 43 (0, 0))) ⟨HR3.out, HB3.out, HV3.out, HP3.out, HX3.out⟩ ?_
          clear HR3 HB3 HV3 HP3 HX3
          generalize w2.heap.size = bx at *
          rintro W3 ⟨g1, g2, g3, g4, g5⟩
          have HR3 := Lib.hid g1
          have HB3 := Lib.hid g2
          have HX3 := Lib.hid g5
          have hj := rjoin_any (fun j => w.heap.size < j) D _ _ acc L W3 g3 g4 (by omega) (by omega)
          have hz3 := fin_at g1
          clear g1 g2 g3 g4 g5
          refine hj.mono ?_
          clear hj
          rintro e w4 ⟨hb4, v4, rfl, hv4⟩
          obtain ⟨A4, c4, rfl, _⟩ := PIn.shape hv4
          have HR4 := Lib.hid ((hb4.block w.heap.size hz3).trans HR3.out)
          have HB4 := Lib.hid (HB3.out.trans (hb4.mono HB3.out.size))
          have hX4 := (hb4.block bx (fin_at HX3.out)).trans HX3.out
          have HV4 : Hid (PIn D w4 (fun j => w.heap.size < j) (.slice A4 (joinL acc L).length c4) (joinL acc L)) := Lib.hid (PIn.mono (fun j _ hj => by have := HB3.out.size; omega) _ _ _ hv4)
          have x1 := cell_blk hX4 1
          simp at x1
          have hbz := fin_at hX4
          clear hb4 hv4 hX4 HR3 HB3 HX3
          generalize joinL acc L = acc2 at *
          go_wp2_with fail
          go_roundg (s.size - k)
          case rel => exact ⟨f - 1, k, A4, c4, acc2, rfl, rfl, rfl, by omega, hks, by omega, by omega, HR4, HB4, HV4, HI3⟩
          case measure => omega
        · have HO : Hid (m = none) := Lib.hid (by
            obtain ⟨f', rfl⟩ : ∃ f', f = f' + 1 := ⟨f - 1, by omega⟩
            rw [← HI.out, HD.out, HLP.out.bad _ _ _ _ HE.out (HX.out.trans ho)])
          have q1 : (er != 0) = true := by simpa using her
          have HER := Lib.hid her
          clear ho her HI HX HE HD
          have k0 := cell_blk HR2.out 0
          have k1 := cell_blk HR2.out 1
          have k2 := cell_blk HR2.out 2
          have l0 := froz_blk HR2.out 0
          have l1 := froz_blk HR2.out 1
          have l2 := froz_blk HR2.out 2
          simp at k0 k1 k2
          have hz2 := fin_at HR2.out
          go_wp2_with fail
          refine bodyPost_ret (results_cell_row rfl _ _ _ 43 _ (0, 0) _ rfl (four_at HR2.out _ _ _ _) Tryd.underlying43 rfl (by kernel_rfl)) rfl ?_
          exact rq_alloc (rq_bad HB2.out HER.out HO.out) _
    · have HO : Hid (m = some (acc, s.data.toList.drop j)) := Lib.hid (by
        obtain ⟨f', rfl⟩ : ∃ f', f = f' + 1 := ⟨f - 1, by omega⟩
        rw [← HI.out, drop_nil s j (by omega), HLP.out.nil])
      have hge : ¬ (j : Int) < (s.size : Int) := by omega
      have k0 := cell_blk HR.out 0
      have k1 := cell_blk HR.out 1
      have k2 := cell_blk HR.out 2
      have l0 := froz_blk HR.out 0
      have l1 := froz_blk HR.out 1
      have l2 := froz_blk HR.out 2
      simp at k0 k1 k2
      have hz := fin_at HR.out
      go_wp2_with (go_at_call 35; refine (HMT _).mono ?_; rintro e w' ⟨rfl, rfl⟩)
      refine bodyPost_ret (results_cell_row rfl _ _ _ 43 _ (0, 0) _ rfl (three_set HR.out _ _ _) Tryd.underlying43 rfl (by kernel_rfl)) rfl ?_
      exact rq_ok HB.out HV.out HO.out hij hjs
set_option maxRecDepth 100000 in
set_option maxHeartbeats 3200000 in
theorem rparts1 (D : Nat) (s : ByteArray) (i dp : Nat) (nx : UInt8 → Bs → Option (List PT × Bs)) (lp : Nat → List PT → Bs → Option (List PT × Bs)) (hlp : Lp (· == 125) nx lp) (hi : i ≤ s.size) (hs : s.size ≤ 8192)
    (hnx : ∀ j (h : j < s.size) W, Calls Tryd.prog 36 #[.string s, .int .i64 j, .int .i64 1, .int .i64 dp] W (RP D s j W (nx s[j] (s.data.toList.drop (j + 1))))) (w : World) :
    Calls Tryd.prog 24 #[.string s, .int .i64 i, .int .i64 1, .int .i64 dp] w (RQ D s i w (lp (s.size + 1) [] (s.data.toList.drop i))) := by
  obtain ⟨m, hm⟩ : ∃ m, lp (s.size + 1) [] (s.data.toList.drop i) = m := ⟨_, rfl⟩
  rw [hm]
  have HI0 := Lib.hid hm
  have HNX := Lib.hid hnx
  have HLP := Lib.hid hlp
  clear hm hnx hlp
  go_enter Tryd.func24, Tryd.ntmps24
  go_wp2_with fail
  go_loopg [1, 9] (s.size - i) (fun g x1 x9 wr => ∃ (f j : Nat) (A : Option Addr) (c : Nat) (acc : List PT), g = s.size - j ∧ x1 = .int .i64 j ∧ x9 = .slice A acc.length c ∧ i ≤ j ∧ j ≤ s.size ∧ s.size < f + j ∧ psize acc ≤ 2 * j ∧ Hid (wr.heap[w.heap.size]? = some (.cells #[.slice none 0 0, .int .i64 0, .int .i64 0] 43 (0, 0))) ∧ Hid (Below w.heap.size w wr) ∧ Hid (PIn D wr (fun k => w.heap.size < k) (.slice A acc.length c) acc) ∧ Hid (lp f acc (s.data.toList.drop j) = m))
  case atStart => exact ⟨s.size + 1, i, none, 0, [], rfl, rfl, rfl, Nat.le_refl _, hi, by omega, by rw [psize_nil]; omega, Lib.hid (heap_alloc_new _ _), Lib.hid ((Below.refl _ _).alloc (Nat.le_refl _) _), Lib.hid (PIn.nil _ _ _ _ _), HI0⟩
  case round =>
    obtain ⟨f, j, A, c, acc, rfl, rfl, rfl, hij, hjs, hf, hpa, HR, HB, HV, HI⟩ := hrel
    clear HI0
    by_cases hlt : j < s.size
    · have HD := Lib.hid (get_at s j hlt)
      have HN := HNX.out j hlt
      have h6 : ((s[j].toNat : Int) == 125) = decide (s[j] = 125) := bt s[j] 125 (by decide)
      cases he : (s[j] == 125) with
      | true =>
        rw [show decide (s[j] = 125) = true from he] at h6
        have HO : Hid (m = some (acc, s.data.toList.drop j)) := Lib.hid (by
          obtain ⟨f', rfl⟩ : ∃ f', f = f' + 1 := ⟨f - 1, by omega⟩
          rw [← HI.out, HD.out, HLP.out.stop _ _ _ _ he])
        clear he HD HN
        have k0 := cell_blk HR.out 0
        have k1 := cell_blk HR.out 1
        have k2 := cell_blk HR.out 2
        have l0 := froz_blk HR.out 0
        have l1 := froz_blk HR.out 1
        have l2 := froz_blk HR.out 2
        simp at k0 k1 k2
        have hz := fin_at HR.out
        go_wp2_with (go_at_call 35; refine (HMT _).mono ?_; rintro e w' ⟨rfl, rfl⟩)
        refine bodyPost_ret (results_cell_row rfl _ _ _ 43 _ (0, 0) _ rfl (three_set HR.out _ _ _) Tryd.underlying43 rfl (by kernel_rfl)) rfl ?_
        exact rq_ok HB.out HV.out HO.out hij hjs
      | false =>
        rw [show decide (s[j] = 125) = false from he] at h6
        have HE := Lib.hid he
        clear he
        generalize hnx : nx s[j] (s.data.toList.drop (j + 1)) = o at HN
        have HX := Lib.hid hnx
        have HNW := Lib.hid HN
        clear hnx HN
        have k0 := cell_blk HR.out 0
        have k1 := cell_blk HR.out 1
        have k2 := cell_blk HR.out 2
        have l0 := froz_blk HR.out 0
        have l1 := froz_blk HR.out 1
        have l2 := froz_blk HR.out 2
        simp at k0 k1 k2
        have hz := fin_at HR.out
        clear k0 k1 k2 l0 l1 l2
        go_wp2_with (go_at_call 35; refine (HMT _).mono ?_; rintro e w' ⟨rfl, rfl⟩)
        refine (HNW.out _).mono ?_
        rintro e w2 ⟨hb2, v2, n2, er, rfl, hc⟩
        have HR2 := Lib.hid ((hb2.block w.heap.size hz).trans HR.out)
        have HB2 := Lib.hid (HB.out.trans (hb2.mono HB.out.size))
        have HV2 := Lib.hid (PIn.below hb2 HV.out)
        have hwz : wr.heap.size ≤ w2.heap.size := hb2.size
        clear hb2 HNW HR HB HV
        rcases hc with ⟨rfl, k, L, rfl, ho, hjk, hks, hp⟩ | ⟨her, ho, rfl⟩
        · obtain ⟨A2, c2, rfl, _⟩ := PIn.shape hp
          have hfit := HLP.out.fits s[j] (s.data.toList.drop (j + 1)) L (s.data.toList.drop k) (HX.out.trans ho)
          rw [bad_len, bad_len] at hfit
          have HI3 : Hid (lp (f - 1) (joinL acc L) (s.data.toList.drop k) = m) := Lib.hid (by
            obtain ⟨f', rfl⟩ : ∃ f', f = f' + 1 := ⟨f - 1, by omega⟩
            rw [← HI.out, HD.out, HLP.out.step HE.out (HX.out.trans ho)]
            rfl)
          have hpj := psize_join acc L
          have hl1 := psize_len acc
          have hl2 := psize_len L
          have HP2 := Lib.hid (PIn.mono (fun j _ hj => by omega : ∀ k', k' < w2.heap.size → wr.heap.size ≤ k' → w.heap.size < k') _ _ _ hp)
          clear ho hp HI HX HE HD
          have HR3 := Lib.hid ((Below.heap_alloc w2 (.cells #[.slice A2 L.length c2, .int .i64 k, .int .i64 0] 43) _ (by omega)).trans HR2.out)
          have HB3 := Lib.hid (HB2.out.alloc HB2.out.size (.cells #[.slice A2 L.length c2, .int .i64 k, .int .i64 0] 43))
          have HV3 := Lib.hid (PIn.alloc2 (o := (.cells #[.slice A2 L.length c2, .int .i64 k, .int .i64 0] 43)) HV2.out)
          have HP3 := Lib.hid (PIn.alloc2 (o := (.cells #[.slice A2 L.length c2, .int .i64 k, .int .i64 0] 43)) HP2.out)
          have HX3 := Lib.hid (heap_alloc_new w2 (.cells #[.slice A2 L.length c2, .int .i64 k, .int .i64 0] 43))
          clear HR2 HB2 HV2 HP2
          go_wp2_with fail
          refine calls_gen (fun W => W.heap[w.heap.size]? = some (.cells #[.slice none 0 0, .int .i64 0, .int .i64 0] 43 (0, 0)) ∧ Below w.heap.size w W ∧ PIn D W (fun j => w.heap.size < j) (.slice A acc.length c) acc ∧ PIn D W (fun j => w.heap.size < j) (.slice A2 L.length c2) L ∧ W.heap[w2.heap.size]? = some (.cells #[.slice A2 L.length c2, .int .i64 k, .int .i64 0] 43 (0, 0))) ⟨HR3.out, HB3.out, HV3.out, HP3.out, HX3.out⟩ ?_
          clear HR3 HB3 HV3 HP3 HX3
          generalize w2.heap.size = bx at *
          rintro W3 ⟨g1, g2, g3, g4, g5⟩
          have HR3 := Lib.hid g1
          have HB3 := Lib.hid g2
          have HX3 := Lib.hid g5
          have hj := rjoin_any (fun j => w.heap.size < j) D _ _ acc L W3 g3 g4 (by omega) (by omega)
          have hz3 := fin_at g1
          clear g1 g2 g3 g4 g5
          refine hj.mono ?_
          clear hj
          rintro e w4 ⟨hb4, v4, rfl, hv4⟩
          obtain ⟨A4, c4, rfl, _⟩ := PIn.shape hv4
          have HR4 := Lib.hid ((hb4.block w.heap.size hz3).trans HR3.out)
          have HB4 := Lib.hid (HB3.out.trans (hb4.mono HB3.out.size))
          have hX4 := (hb4.block bx (fin_at HX3.out)).trans HX3.out
          have HV4 : Hid (PIn D w4 (fun j => w.heap.size < j) (.slice A4 (joinL acc L).length c4) (joinL acc L)) := Lib.hid (PIn.mono (fun j _ hj => by have := HB3.out.size; omega) _ _ _ hv4)
          have x1 := cell_blk hX4 1
          simp at x1
          have hbz := fin_at hX4
          clear hb4 hv4 hX4 HR3 HB3 HX3
          generalize joinL acc L = acc2 at *
          go_wp2_with fail
          go_roundg (s.size - k)
          case rel => exact ⟨f - 1, k, A4, c4, acc2, rfl, rfl, rfl, by omega, hks, by omega, by omega, HR4, HB4, HV4, HI3⟩
          case measure => omega
        · have HO : Hid (m = none) := Lib.hid (by
            obtain ⟨f', rfl⟩ : ∃ f', f = f' + 1 := ⟨f - 1, by omega⟩
            rw [← HI.out, HD.out, HLP.out.bad _ _ _ _ HE.out (HX.out.trans ho)])
          have q1 : (er != 0) = true := by simpa using her
          have HER := Lib.hid her
          clear ho her HI HX HE HD
          have k0 := cell_blk HR2.out 0
          have k1 := cell_blk HR2.out 1
          have k2 := cell_blk HR2.out 2
          have l0 := froz_blk HR2.out 0
          have l1 := froz_blk HR2.out 1
          have l2 := froz_blk HR2.out 2
          simp at k0 k1 k2
          have hz2 := fin_at HR2.out
          go_wp2_with fail
          refine bodyPost_ret (results_cell_row rfl _ _ _ 43 _ (0, 0) _ rfl (four_at HR2.out _ _ _ _) Tryd.underlying43 rfl (by kernel_rfl)) rfl ?_
          exact rq_alloc (rq_bad HB2.out HER.out HO.out) _
    · have HO : Hid (m = some (acc, s.data.toList.drop j)) := Lib.hid (by
        obtain ⟨f', rfl⟩ : ∃ f', f = f' + 1 := ⟨f - 1, by omega⟩
        rw [← HI.out, drop_nil s j (by omega), HLP.out.nil])
      have hge : ¬ (j : Int) < (s.size : Int) := by omega
      have k0 := cell_blk HR.out 0
      have k1 := cell_blk HR.out 1
      have k2 := cell_blk HR.out 2
      have l0 := froz_blk HR.out 0
      have l1 := froz_blk HR.out 1
      have l2 := froz_blk HR.out 2
      simp at k0 k1 k2
      have hz := fin_at HR.out
      go_wp2_with (go_at_call 35; refine (HMT _).mono ?_; rintro e w' ⟨rfl, rfl⟩)
      refine bodyPost_ret (results_cell_row rfl _ _ _ 43 _ (0, 0) _ rfl (three_set HR.out _ _ _) Tryd.underlying43 rfl (by kernel_rfl)) rfl ?_
      exact rq_ok HB.out HV.out HO.out hij hjs
set_option maxRecDepth 100000 in
set_option maxHeartbeats 3200000 in
theorem rparts2 (D : Nat) (s : ByteArray) (i dp : Nat) (nx : UInt8 → Bs → Option (List PT × Bs)) (lp : Nat → List PT → Bs → Option (List PT × Bs)) (hlp : Lp (· == 34) nx lp) (hi : i ≤ s.size) (hs : s.size ≤ 8192)
    (hnx : ∀ j (h : j < s.size) W, Calls Tryd.prog 36 #[.string s, .int .i64 j, .int .i64 2, .int .i64 dp] W (RP D s j W (nx s[j] (s.data.toList.drop (j + 1))))) (w : World) :
    Calls Tryd.prog 24 #[.string s, .int .i64 i, .int .i64 2, .int .i64 dp] w (RQ D s i w (lp (s.size + 1) [] (s.data.toList.drop i))) := by
  obtain ⟨m, hm⟩ : ∃ m, lp (s.size + 1) [] (s.data.toList.drop i) = m := ⟨_, rfl⟩
  rw [hm]
  have HI0 := Lib.hid hm
  have HNX := Lib.hid hnx
  have HLP := Lib.hid hlp
  clear hm hnx hlp
  go_enter Tryd.func24, Tryd.ntmps24
  go_wp2_with fail
  go_loopg [1, 9] (s.size - i) (fun g x1 x9 wr => ∃ (f j : Nat) (A : Option Addr) (c : Nat) (acc : List PT), g = s.size - j ∧ x1 = .int .i64 j ∧ x9 = .slice A acc.length c ∧ i ≤ j ∧ j ≤ s.size ∧ s.size < f + j ∧ psize acc ≤ 2 * j ∧ Hid (wr.heap[w.heap.size]? = some (.cells #[.slice none 0 0, .int .i64 0, .int .i64 0] 43 (0, 0))) ∧ Hid (Below w.heap.size w wr) ∧ Hid (PIn D wr (fun k => w.heap.size < k) (.slice A acc.length c) acc) ∧ Hid (lp f acc (s.data.toList.drop j) = m))
  case atStart => exact ⟨s.size + 1, i, none, 0, [], rfl, rfl, rfl, Nat.le_refl _, hi, by omega, by rw [psize_nil]; omega, Lib.hid (heap_alloc_new _ _), Lib.hid ((Below.refl _ _).alloc (Nat.le_refl _) _), Lib.hid (PIn.nil _ _ _ _ _), HI0⟩
  case round =>
    obtain ⟨f, j, A, c, acc, rfl, rfl, rfl, hij, hjs, hf, hpa, HR, HB, HV, HI⟩ := hrel
    clear HI0
    by_cases hlt : j < s.size
    · have HD := Lib.hid (get_at s j hlt)
      have HN := HNX.out j hlt
      have h6 : ((s[j].toNat : Int) == 34) = decide (s[j] = 34) := bt s[j] 34 (by decide)
      cases he : (s[j] == 34) with
      | true =>
        rw [show decide (s[j] = 34) = true from he] at h6
        have HO : Hid (m = some (acc, s.data.toList.drop j)) := Lib.hid (by
          obtain ⟨f', rfl⟩ : ∃ f', f = f' + 1 := ⟨f - 1, by omega⟩
          rw [← HI.out, HD.out, HLP.out.stop _ _ _ _ he])
        clear he HD HN
        have k0 := cell_blk HR.out 0
        have k1 := cell_blk HR.out 1
        have k2 := cell_blk HR.out 2
        have l0 := froz_blk HR.out 0
        have l1 := froz_blk HR.out 1
        have l2 := froz_blk HR.out 2
        simp at k0 k1 k2
        have hz := fin_at HR.out
        go_wp2_with (go_at_call 35; refine (HMT _).mono ?_; rintro e w' ⟨rfl, rfl⟩)
        refine bodyPost_ret (results_cell_row rfl _ _ _ 43 _ (0, 0) _ rfl (three_set HR.out _ _ _) Tryd.underlying43 rfl (by kernel_rfl)) rfl ?_
        exact rq_ok HB.out HV.out HO.out hij hjs
      | false =>
        rw [show decide (s[j] = 34) = false from he] at h6
        have HE := Lib.hid he
        clear he
        generalize hnx : nx s[j] (s.data.toList.drop (j + 1)) = o at HN
        have HX := Lib.hid hnx
        have HNW := Lib.hid HN
        clear hnx HN
        have k0 := cell_blk HR.out 0
        have k1 := cell_blk HR.out 1
        have k2 := cell_blk HR.out 2
        have l0 := froz_blk HR.out 0
        have l1 := froz_blk HR.out 1
        have l2 := froz_blk HR.out 2
        simp at k0 k1 k2
        have hz := fin_at HR.out
        clear k0 k1 k2 l0 l1 l2
        go_wp2_with (go_at_call 35; refine (HMT _).mono ?_; rintro e w' ⟨rfl, rfl⟩)
        refine (HNW.out _).mono ?_
        rintro e w2 ⟨hb2, v2, n2, er, rfl, hc⟩
        have HR2 := Lib.hid ((hb2.block w.heap.size hz).trans HR.out)
        have HB2 := Lib.hid (HB.out.trans (hb2.mono HB.out.size))
        have HV2 := Lib.hid (PIn.below hb2 HV.out)
        have hwz : wr.heap.size ≤ w2.heap.size := hb2.size
        clear hb2 HNW HR HB HV
        rcases hc with ⟨rfl, k, L, rfl, ho, hjk, hks, hp⟩ | ⟨her, ho, rfl⟩
        · obtain ⟨A2, c2, rfl, _⟩ := PIn.shape hp
          have hfit := HLP.out.fits s[j] (s.data.toList.drop (j + 1)) L (s.data.toList.drop k) (HX.out.trans ho)
          rw [bad_len, bad_len] at hfit
          have HI3 : Hid (lp (f - 1) (joinL acc L) (s.data.toList.drop k) = m) := Lib.hid (by
            obtain ⟨f', rfl⟩ : ∃ f', f = f' + 1 := ⟨f - 1, by omega⟩
            rw [← HI.out, HD.out, HLP.out.step HE.out (HX.out.trans ho)]
            rfl)
          have hpj := psize_join acc L
          have hl1 := psize_len acc
          have hl2 := psize_len L
          have HP2 := Lib.hid (PIn.mono (fun j _ hj => by omega : ∀ k', k' < w2.heap.size → wr.heap.size ≤ k' → w.heap.size < k') _ _ _ hp)
          clear ho hp HI HX HE HD
          have HR3 := Lib.hid ((Below.heap_alloc w2 (.cells #[.slice A2 L.length c2, .int .i64 k, .int .i64 0] 43) _ (by omega)).trans HR2.out)
          have HB3 := Lib.hid (HB2.out.alloc HB2.out.size (.cells #[.slice A2 L.length c2, .int .i64 k, .int .i64 0] 43))
          have HV3 := Lib.hid (PIn.alloc2 (o := (.cells #[.slice A2 L.length c2, .int .i64 k, .int .i64 0] 43)) HV2.out)
          have HP3 := Lib.hid (PIn.alloc2 (o := (.cells #[.slice A2 L.length c2, .int .i64 k, .int .i64 0] 43)) HP2.out)
          have HX3 := Lib.hid (heap_alloc_new w2 (.cells #[.slice A2 L.length c2, .int .i64 k, .int .i64 0] 43))
          clear HR2 HB2 HV2 HP2
          go_wp2_with fail
          refine calls_gen (fun W => W.heap[w.heap.size]? = some (.cells #[.slice none 0 0, .int .i64 0, .int .i64 0] 43 (0, 0)) ∧ Below w.heap.size w W ∧ PIn D W (fun j => w.heap.size < j) (.slice A acc.length c) acc ∧ PIn D W (fun j => w.heap.size < j) (.slice A2 L.length c2) L ∧ W.heap[w2.heap.size]? = some (.cells #[.slice A2 L.length c2, .int .i64 k, .int .i64 0] 43 (0, 0))) ⟨HR3.out, HB3.out, HV3.out, HP3.out, HX3.out⟩ ?_
          clear HR3 HB3 HV3 HP3 HX3
          generalize w2.heap.size = bx at *
          rintro W3 ⟨g1, g2, g3, g4, g5⟩
          have HR3 := Lib.hid g1
          have HB3 := Lib.hid g2
          have HX3 := Lib.hid g5
          have hj := rjoin_any (fun j => w.heap.size < j) D _ _ acc L W3 g3 g4 (by omega) (by omega)
          have hz3 := fin_at g1
          clear g1 g2 g3 g4 g5
          refine hj.mono ?_
          clear hj
          rintro e w4 ⟨hb4, v4, rfl, hv4⟩
          obtain ⟨A4, c4, rfl, _⟩ := PIn.shape hv4
          have HR4 := Lib.hid ((hb4.block w.heap.size hz3).trans HR3.out)
          have HB4 := Lib.hid (HB3.out.trans (hb4.mono HB3.out.size))
          have hX4 := (hb4.block bx (fin_at HX3.out)).trans HX3.out
          have HV4 : Hid (PIn D w4 (fun j => w.heap.size < j) (.slice A4 (joinL acc L).length c4) (joinL acc L)) := Lib.hid (PIn.mono (fun j _ hj => by have := HB3.out.size; omega) _ _ _ hv4)
          have x1 := cell_blk hX4 1
          simp at x1
          have hbz := fin_at hX4
          clear hb4 hv4 hX4 HR3 HB3 HX3
          generalize joinL acc L = acc2 at *
          go_wp2_with fail
          go_roundg (s.size - k)
          case rel => exact ⟨f - 1, k, A4, c4, acc2, rfl, rfl, rfl, by omega, hks, by omega, by omega, HR4, HB4, HV4, HI3⟩
          case measure => omega
        · have HO : Hid (m = none) := Lib.hid (by
            obtain ⟨f', rfl⟩ : ∃ f', f = f' + 1 := ⟨f - 1, by omega⟩
            rw [← HI.out, HD.out, HLP.out.bad _ _ _ _ HE.out (HX.out.trans ho)])
          have q1 : (er != 0) = true := by simpa using her
          have HER := Lib.hid her
          clear ho her HI HX HE HD
          have k0 := cell_blk HR2.out 0
          have k1 := cell_blk HR2.out 1
          have k2 := cell_blk HR2.out 2
          have l0 := froz_blk HR2.out 0
          have l1 := froz_blk HR2.out 1
          have l2 := froz_blk HR2.out 2
          simp at k0 k1 k2
          have hz2 := fin_at HR2.out
          go_wp2_with fail
          refine bodyPost_ret (results_cell_row rfl _ _ _ 43 _ (0, 0) _ rfl (four_at HR2.out _ _ _ _) Tryd.underlying43 rfl (by kernel_rfl)) rfl ?_
          exact rq_alloc (rq_bad HB2.out HER.out HO.out) _
    · have HO : Hid (m = some (acc, s.data.toList.drop j)) := Lib.hid (by
        obtain ⟨f', rfl⟩ : ∃ f', f = f' + 1 := ⟨f - 1, by omega⟩
        rw [← HI.out, drop_nil s j (by omega), HLP.out.nil])
      have hge : ¬ (j : Int) < (s.size : Int) := by omega
      have k0 := cell_blk HR.out 0
      have k1 := cell_blk HR.out 1
      have k2 := cell_blk HR.out 2
      have l0 := froz_blk HR.out 0
      have l1 := froz_blk HR.out 1
      have l2 := froz_blk HR.out 2
      simp at k0 k1 k2
      have hz := fin_at HR.out
      go_wp2_with (go_at_call 35; refine (HMT _).mono ?_; rintro e w' ⟨rfl, rfl⟩)
      refine bodyPost_ret (results_cell_row rfl _ _ _ 43 _ (0, 0) _ rfl (three_set HR.out _ _ _) Tryd.underlying43 rfl (by kernel_rfl)) rfl ?_
      exact rq_ok HB.out HV.out HO.out hij hjs
end Go.Proofs.YtkbhjjmgacahdaaDoor.Wd
