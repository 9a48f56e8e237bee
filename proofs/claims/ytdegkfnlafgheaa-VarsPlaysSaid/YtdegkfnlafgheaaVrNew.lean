/- DERIVED. The walk over New, and over Get of a variable. -/
import Derived.Test.YtdegkfnlafgheaaVrSet2
import Derived.Test.YtdegkfnlafgheaaVrOpen
import Derived.Deep.LoopGhost
namespace Go.Proofs.Ytdegkfnlafgheaa.Vr
open Go.RowKit
open PathM WdM VrM
open Go.Proofs.Ytdegkfnlafgheaa.Wd
set_option linter.unusedVariables false
theorem row_base {W : World} {base base' : Nat} {e : TypeId} {size : Nat} {v : Value} {k : Nat} {xs : List Value} (h : W.ownsRow base e size v k xs) (hb : base' ≤ base) : W.ownsRow base' e size v k xs := by
  obtain ⟨g1, g2⟩ := h
  refine ⟨g1, g2.imp id ?_⟩
  rintro ⟨g, cap, cur, hv, hg, hr⟩
  exact ⟨g, cap, cur, hv, Nat.le_trans hb hg, hr⟩
theorem TbX.args {base tb : Nat} {st : Int} {vs : Vs} {vv av av' : Value} {ps qs : List Bs} {w w' : World} (h : TbX base w tb st vs vv ps av) (hbase : base ≤ w.heap.size) (ht : TbIn w' tb st vv qs av') (hr : w'.ownsRow w.heap.size 9 1 av' qs.length (qs.map strC)) (hk : Kept (· = tb) w w') : TbX base w' tb st vs vv qs av' ∧ Stp tb vv vv w w' := by
  refine ⟨⟨ht.box, row_kept h.row hk (fun b hb e => h.ap1 (by rw [← e]; exact hb)), row_base hr hbase, h.ap1, fun e => ?_, fun k hk2 e => ?_, h.hb, h.len, h.srt, h.vlen, ht.len, ht.lens⟩, hk.mono (fun k hk => .inl hk), .inl rfl⟩
  · have := (row_lt hr e).2; have := h.lt; omega
  · have := (row_lt hr hk2).2; have := (row_lt h.row e).1; omega
/-- May these be parameters? -/
def argsOk (qs : List Bs) : Bool := decide (qs.length ≤ 256) && !tooBig qs
def ArgPost (base tb : Nat) (st : Int) (vs : Vs) (vv : Value) (qs : List Bs) (w : World) (e : Ending) (w' : World) : Prop := match argsOk qs with
  | true => e = .returned (.int .i64 0) ∧ ∃ av', TbX base w' tb st vs vv qs av' ∧ Stp tb vv vv w w'
  | false => e = .returned (.int .i64 2) ∧ Below w.heap.size w w'
theorem setArgs_any (base tb : Nat) (st : Int) (vs : Vs) (vv av : Value) (ps qs : List Bs) (v : Value) (w : World) (h : TbX base w tb st vs vv ps av) (hbase : base ≤ w.heap.size) (hv : ArX w v qs) :
    Calls Try.prog 25 #[.pointer (some ⟨tb, 0, none⟩), v] w (ArgPost base tb st vs vv qs w) := by
  have hl : ∀ x ∈ qs, x.length ≤ 4611686018427387904 := fun x hx => Nat.le_trans (hv.2.2 x hx) (by omega)
  unfold ArgPost argsOk
  by_cases h1 : qs.length ≤ 256
  · cases h2 : tooBig qs with
    | false =>
      rw [decide_eq_true h1]
      refine (setArgs_ok tb st vv av ps qs v w h.t hv.1 h1 hl h2).mono ?_
      rintro e w' ⟨rfl, av', k1, k2, k3⟩
      exact ⟨rfl, av', h.args hbase k1 k2 k3⟩
    | true =>
      rw [decide_eq_true h1]
      refine (setArgs_long tb st vv av ps qs v w h.t hv.1 h1 hl h2).mono ?_
      rintro e w' ⟨rfl, q, rfl⟩
      exact ⟨rfl, below_drewN' (Below.refl _ _) q⟩
  · rw [decide_eq_false h1]
    obtain ⟨A, c, hf, _⟩ := hv.1.form
    rw [hf]
    refine (setArgs_many tb st vv av ps A qs.length c w h.t (by omega) (by have := hv.2.1; omega)).mono ?_
    rintro e w' ⟨rfl, rfl⟩
    exact ⟨rfl, Below.refl _ _⟩
/-- Variables set one by one. -/
def setAll : Vs → Vs → Except Int Vs
  | vs, [] => .ok vs
  | vs, x :: r => match setL vs x.1 x.2 with
    | .ok vs' => setAll vs' r
    | .error e => .error e
def finL (qs : List Bs) : Except Int Vs → Except Int Vs
  | .ok vs => if argsOk qs then .ok vs else .error 2
  | .error e => .error e
def newL (l : Vs) (qs : List Bs) : Except Int Vs := finL qs (setAll [] l)
theorem setAll_ok {vs vs' : Vs} {x : Bs × Bs} {r : Vs} (h : setL vs x.1 x.2 = .ok vs') : setAll vs (x :: r) = setAll vs' r := by rw [setAll, h]
theorem setAll_no {vs : Vs} {x : Bs × Bs} {r : Vs} {e : Int} (h : setL vs x.1 x.2 = .error e) : setAll vs (x :: r) = .error e := by rw [setAll, h]
def NewPost (qs : List Bs) (m : Except Int Vs) (w : World) (e : Ending) (w' : World) : Prop := Below w.heap.size w w' ∧ match m with
  | .ok vs => ∃ tb vv av, e = .returned (.tuple #[.pointer (some ⟨tb, 0, none⟩), .int .i64 0]) ∧ TbX w.heap.size w' tb 0 vs vv qs av
  | .error er => e = .returned (.tuple #[.pointer none, .int .i64 er]) ∧ er ≠ 0
theorem newP_no {qs : List Bs} {m : Except Int Vs} {w w' : World} {er : Int} (hm : m = .error er) (h0 : er ≠ 0) (hb : Below w.heap.size w w') : NewPost qs m w (.returned (.tuple #[.pointer none, .int .i64 er])) w' := by subst hm; exact ⟨hb, rfl, h0⟩
theorem newP_yes {qs : List Bs} {m : Except Int Vs} {vs : Vs} {w w' : World} {tb : Nat} {vv av : Value} (hm : m = .ok vs) (h : TbX w.heap.size w' tb 0 vs vv qs av) (hb : Below w.heap.size w w') : NewPost qs m w (.returned (.tuple #[.pointer (some ⟨tb, 0, none⟩), .int .i64 0])) w' := by subst hm; exact ⟨hb, tb, vv, av, rfl, h⟩
theorem Stp.base {tb base : Nat} {vv vv' : Value} {w w' : World} (h : Stp tb vv vv' w w') (hbase : base ≤ w.heap.size) (hb : base ≤ tb) (hv : ∀ k, vv.ownBlock = some k → base ≤ k) : Below base w w' := h.1.below hbase (by rintro k (rfl | hk); exact hb; exact hv k hk)
/-- Variables as they come in. -/
def VsX (w : World) (v : Value) (l : Vs) : Prop := VsIn w v l ∧ l.length ≤ 140737488351232 ∧ ∀ x ∈ l, x.1.length ≤ 140737488351232 ∧ x.2.length ≤ 140737488351232
set_option maxRecDepth 100000 in
set_option maxHeartbeats 1600000 in
theorem new_any (l : Vs) (v : Value) (qs : List Bs) (a : Value) (w : World) (hv : VsX w v l) (ha : ArX w a qs) :
    Calls Try.prog 10 #[v, a] w (NewPost qs (newL l qs) w) := by
  have HSET : Hid (∀ W vs vv x, TbX w.heap.size W w.heap.size 0 vs vv [] (.slice none 0 0) → x ∈ l → w.heap.size ≤ W.heap.size → Calls Try.prog 17 #[.pointer (some ⟨w.heap.size, 0, none⟩), .string (nm x.1), .string (nm x.2)] W (SetPost w.heap.size w.heap.size 0 vv [] (.slice none 0 0) (setL vs x.1 x.2) W)) := Lib.hid (fun W vs vv x h hx hb => set_any w.heap.size w.heap.size 0 vs vv _ [] x.1 x.2 W h hb (by have := (hv.2.2 x hx).1; omega) (by have := (hv.2.2 x hx).2; omega))
  have HARG : Hid (∀ W vs vv, TbX w.heap.size W w.heap.size 0 vs vv [] (.slice none 0 0) → Below w.heap.size w W → Calls Try.prog 25 #[.pointer (some ⟨w.heap.size, 0, none⟩), a] W (ArgPost w.heap.size w.heap.size 0 vs vv qs W)) := Lib.hid (fun W vs vv h hb => setArgs_any w.heap.size w.heap.size 0 vs vv _ [] qs a W h hb.size ⟨ha.1.below hb, ha.2⟩)
  have HST : Hid (TbX w.heap.size (w.alloc (.cells #[.int .i64 0, .bool true, .slice none 0 0, .slice none 0 0] 47)) w.heap.size 0 [] (.slice none 0 0) [] (.slice none 0 0)) := Lib.hid ⟨heap_alloc_new w _, World.ownsRow_nil _ _ _ _, World.ownsRow_nil _ _ _ _, by simp [Value.ownBlock], by simp [Value.ownBlock], by simp [Value.ownBlock], Nat.le_refl _, by simp, List.Pairwise.nil, by simp, by simp, by simp⟩
  obtain ⟨A, c, hvf, hlc, hcell⟩ := hv.1
  have hl1 := hv.2.1
  obtain ⟨A2, c2, ha2, _⟩ := ha.1.form
  have HCE : Hid (∀ i (h : i < l.length), ∃ b off, A = some ⟨b, off, none⟩ ∧ b < w.heap.size ∧ ∀ W, Below w.heap.size w W → W.cell? ⟨b, off + i * 2, none⟩ = some (.string (nm l[i].1)) ∧ W.cell? ⟨b, off + i * 2 + 1, none⟩ = some (.string (nm l[i].2))) := Lib.hid (fun i h => by
    obtain ⟨b, off, h1, h2, h3⟩ := hcell (fun e => by rw [e] at h; simp at h)
    exact ⟨b, off, h1, h2, fun W hb => ⟨(World.cell?_of_block (hb.block b h2)).trans (h3 i h).1, (World.cell?_of_block (hb.block b h2)).trans (h3 i h).2⟩⟩)
  have HM : Hid (finL qs (setAll [] (l.drop 0)) = newL l qs) := Lib.hid rfl
  generalize newL l qs = M at *
  obtain ⟨n, hn⟩ : ∃ n, l.length = n := ⟨_, rfl⟩
  have HL := Lib.hid hn
  rw [hn] at hlc hl1 hvf
  have hl2 : (n : Int) ≤ 140737488351232 := by omega
  have hlc2 : (n : Int) ≤ (c : Int) := by omega
  subst hvf
  subst ha2
  clear hcell hv ha hn
  go_enter Try.func10, Try.ntmps10
  go_wp2_with fail
  go_loopg [15] n (fun g x wr => ∃ (i : Nat) (vs : Vs) (vv : Value), x = .int .i64 i ∧ i ≤ n ∧ g = n - i ∧ Hid (TbX w.heap.size wr w.heap.size 0 vs vv [] (.slice none 0 0)) ∧ Below w.heap.size w wr ∧ Hid (finL qs (setAll vs (l.drop i)) = M))
  case atStart => exact ⟨0, [], _, rfl, Nat.zero_le _, rfl, HST.out, (Below.refl _ _).alloc (Nat.le_refl _) _, HM⟩
  case round =>
    clear HST HM
    obtain ⟨i, vs, vv, rfl, hi, rfl, HT, hbe, HI⟩ := hrel
    have HBE := Lib.hid hbe
    have hle := hbe.size
    by_cases hil : i < n
    · have hil2 : i < l.length := by have := HL.out; omega
      obtain ⟨b, off, rfl, hb, hcs⟩ := HCE.out i hil2
      obtain ⟨a0, a1⟩ := hcs wr hbe
      have hbw : b < wr.heap.size := by omega
      have hd : l.drop i = l[i] :: l.drop (i + 1) := List.drop_eq_getElem_cons hil2
      have hI := HI.out
      rw [hd] at hI
      have hb2 : Below wr.heap.size wr (wr.alloc (.cells #[.string (nm l[i].1), .string (nm l[i].2)] 26)) := (Below.refl _ _).alloc (Nat.le_refl _) _
      have hs := HSET.out _ vs vv l[i] (HT.out.below hb2) (List.getElem_mem hil2) (by have := hb2.size; omega)
      have HX := Lib.hid (fun (x : Bs × Bs) (h : x = l[i]) => h)
      generalize l[i] = x at *
      obtain ⟨x1, x2⟩ := x
      dsimp only at a0 a1 hs hb2
      cases hm : setL vs x1 x2 with
      | error er =>
        rw [setAll_no (x := (x1, x2)) hm] at hI
        rw [hm] at hs
        have HS := Lib.hid hs
        have HMX := Lib.hid (show M = .error er from hI.symm)
        have HB2 := Lib.hid (HBE.out.trans (hb2.mono hle))
        clear hcs hd hI hs hbe HX HI hm HSET HARG HCE hb2
        generalize nm x1 = X1 at *
        generalize nm x2 = X2 at *
        go_wp2_with fail
        refine HS.out.mono ?_
        rintro e W3 ⟨rfl, h0, hb3⟩
        have hq : (er != 0) = true := by simpa using h0
        have HF := Lib.hid (newP_no (qs := qs) HMX.out h0 (HB2.out.trans (hb3.mono HB2.out.size)))
        clear h0 hb3
        go_wp2_with fail
        go_ret2
        exact HF.out
      | ok vs' =>
        rw [setAll_ok (x := (x1, x2)) hm] at hI
        rw [hm] at hs
        have HS := Lib.hid hs
        have HI2 := Lib.hid hI
        have HB2 := Lib.hid (HBE.out.trans (hb2.mono hle))
        have HVB : Hid (∀ k, vv.ownBlock = some k → w.heap.size ≤ k) := Lib.hid (fun k hk => (row_lt HT.out.row hk).2)
        clear hcs hd hI hs hbe HX HI hm HSET HARG HCE hb2
        generalize nm x1 = X1 at *
        generalize nm x2 = X2 at *
        go_wp2_with fail
        refine HS.out.mono ?_
        rintro e W3 ⟨rfl, vv', h3, hst⟩
        have HT3 := Lib.hid h3
        have HB3 := Lib.hid (HB2.out.trans (hst.base HB2.out.size (Nat.le_refl _) HVB.out))
        clear h3 hst
        go_wp2_with fail
        go_roundg (n - (i + 1))
        case measure => omega
        case rel => exact ⟨i + 1, vs', vv', rfl, by omega, rfl, HT3, HB3.out, HI2⟩
    · have hd : l.drop i = [] := List.drop_of_length_le (by have := HL.out; omega)
      have hI := HI.out
      rw [hd] at hI
      have HS := Lib.hid (HARG.out wr vs vv HT.out hbe)
      unfold ArgPost at HS
      have hfi : finL qs (setAll vs []) = if argsOk qs then .ok vs else .error 2 := rfl
      rw [hfi] at hI
      have HVB : Hid (∀ k, vv.ownBlock = some k → w.heap.size ≤ k) := Lib.hid (fun k hk => (row_lt HT.out.row hk).2)
      cases hok : argsOk qs with
      | true =>
        rw [hok] at HS hI
        have HMX := Lib.hid (show M = .ok vs from hI.symm)
        clear hd hI hbe HI HSET HARG HCE hfi
        go_wp2_with fail
        refine HS.out.mono ?_
        rintro e W3 ⟨rfl, av', h3, hst⟩
        have HF := Lib.hid (newP_yes HMX.out h3 (HBE.out.trans (hst.base HBE.out.size (Nat.le_refl _) HVB.out)))
        clear h3 hst
        go_wp2_with fail
        go_ret2
        exact HF.out
      | false =>
        rw [hok] at HS hI
        have HMX := Lib.hid (show M = .error 2 from hI.symm)
        clear hd hI hbe HI HSET HARG HCE hfi
        go_wp2_with fail
        refine HS.out.mono ?_
        rintro e W3 ⟨rfl, hb3⟩
        have HF := Lib.hid (newP_no (qs := qs) HMX.out (by decide) (HBE.out.trans (hb3.mono hle)))
        clear hb3
        go_wp2_with fail
        go_ret2
        exact HF.out
end Go.Proofs.Ytdegkfnlafgheaa.Vr
