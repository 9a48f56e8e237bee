/- DERIVED. The walk of path.Parts: package path of layer 3. -/
import Derived.Test.YtfchofdoabhakaaDoorPathIter
import Derived.Stop.RegionWithIn
namespace Go.Proofs.YtfchofdoabhakaaDoor
open Go.RowKit Go.Shelf
open PathM
set_option linter.unusedVariables false

theorem ret_parts {a : Value} {x y : Bool} {i j : Int} (h1 : x = y) (h2 : i = j) : Ending.returned (.tuple #[a, .bool x, .int .i64 i]) = .returned (.tuple #[a, .bool y, .int .i64 j]) := by rw [h1, h2]

set_option maxHeartbeats 1000000 in
theorem parts_fault (p : ByteArray) (w : World) (hs : p.size ≤ maxLen) (hf : faultN p.data.toList ≠ 0) :
    Calls Tryd.prog 12 #[.string p] w fun e w' => e = .returned (.tuple #[.slice none 0 0, .bool false, .int .i64 (faultN p.data.toList : Int)]) ∧ Below w.heap.size w w' := by
  have hc := fun w => fault_any p w hs
  generalize faultN p.data.toList = f at hc hf
  have hb : ((f : Int) != 0) = true := by simp; omega
  have HC := Lib.hid hc; clear hc hf
  go_enter Tryd.func12, Tryd.ntmps12
  go_wp2_with (go_at_call 27; refine (HC.out _).mono ?_; rintro e w' ⟨rfl, rfl⟩)
  exact bodyPost_ret (v := .tuple #[.slice none 0 0, .bool false, .int .i64 f]) (by simp [results, Tryd.results12, go_sem]) rfl ⟨rfl, (((Below.refl _ w).alloc (Nat.le_refl _) _).alloc (by simp) _).alloc (by simp; omega) _⟩

/-- What path.Parts answers. -/
def PartsPost (l : Bs) (w : World) (e : Ending) (w' : World) : Prop := ∃ v, e = .returned (.tuple #[v, .bool (partsB l), .int .i64 (partsE l : Int)]) ∧ w'.ownsRow w.heap.size 9 1 v (partsL l).length ((partsL l).map fun x => .string (nm x)) ∧ Below w.heap.size w w'

def enc (x : Bs) : Value := .string (nm x)
theorem info9 : (Tryd.prog.info? 9).map (fun i => (i.zero, i.size, i.bytes)) = some (some (.string ByteArray.empty), 1, 16) := by kernel_rfl
theorem longIn_snoc (l : List Bs) (x : Bs) : longIn (l ++ [x]) = (longIn l || decide (64 < x.length)) := by simp [longIn]
theorem ownsRow_len {W : World} {base : Nat} {e : TypeId} {size : Nat} {v : Value} {k : Nat} {xs : List Value} (h : W.ownsRow base e size v k xs) : ∃ a cap, v = .slice a k cap := by
  rcases h.2 with ⟨rfl, rfl⟩ | ⟨g, cap, cur, rfl, _⟩
  · exact ⟨_, _, rfl⟩
  · exact ⟨_, _, rfl⟩
theorem suffix_slash (l : Bs) : Lib.hasSuffix l [47] = (l.getLast? == some 47) := by
  rcases snoc_cases l with rfl | ⟨t, c, rfl⟩
  · rfl
  · simp [Lib.hasSuffix, List.isSuffixOf, List.isPrefixOf]
    exact Bool.eq_iff_iff.2 ⟨fun h => by simpa using (eq_of_beq h).symm, fun h => by simpa using (eq_of_beq h).symm⟩

/-- Between two rounds: the box of the list, the boxes of the results. -/
def PI (w : World) (pre : List Bs) (W : World) : Prop :=
  ((∃ v, Boxed W (w.heap.size + 1 + 1 + 1) 24 v ∧ W.ownsRow w.heap.size 9 1 v pre.length (pre.map enc) ∧ longIn pre = false) ∧
    Boxed W w.heap.size 24 (.slice none 0 0) ∧ Boxed W (w.heap.size + 1) 4 (.bool false) ∧ Boxed W (w.heap.size + 1 + 1) 25 (.int .i64 0)) ∧ Below w.heap.size w W
/-- Where a round has left: a name that is too long. -/
def PX (w : World) (c : Code) (pre : List Bs) (W : World) : Prop :=
  ((c = .ret ∧ longIn pre = true) ∧ Boxed W w.heap.size 24 (.slice none 0 0) ∧ Boxed W (w.heap.size + 1) 4 (.bool false) ∧ Boxed W (w.heap.size + 1 + 1) 25 (.int .i64 26)) ∧ Below w.heap.size w W
theorem pi_own (w : World) (B : Nat) (h : w.heap.size ≤ B) : OwnFrom B (PI w) :=
  OwnFrom.and (OwnFrom.and (Own.from (holdsRow_own w.heap.size (w.heap.size + 1 + 1 + 1) 24 9 1 (fun pre => pre.length) (fun pre => pre.map enc) (fun pre v => longIn pre = false)) _)
    (OwnFrom.and (Own.from (boxed_own _ _ _) _) (OwnFrom.and (Own.from (boxed_own _ _ _) _) (Own.from (boxed_own _ _ _) _)))) (ownFrom_below (Nat.le_refl _) h)
theorem px_own (w : World) (B : Nat) (h : w.heap.size ≤ B) (c : Code) : OwnFrom B (PX w c) :=
  OwnFrom.and (OwnFrom.and (ownFrom_pure _ _) (OwnFrom.and (Own.from (boxed_own _ _ _) _) (OwnFrom.and (Own.from (boxed_own _ _ _) _) (Own.from (boxed_own _ _ _) _)))) (ownFrom_below (Nat.le_refl _) h)

/-- Behind the last statement: the frame, and the results' boxes. -/
def PQ (w : World) (D : Nat) (act : Act) (v : Value) (N : List Bs) (b : Bool) : Exit → Act → World → Prop
  | .normal, a, w' => a = act ∧ (Boxed w' w.heap.size 24 v ∧ Boxed w' (w.heap.size + 1) 4 (.bool b) ∧ Boxed w' (w.heap.size + 1 + 1) 25 (.int .i64 0)) ∧
      w'.ownsRow w.heap.size 9 1 v N.length (N.map enc) ∧ w'.heap[D]? = some (.deferred (some [])) ∧ Below w.heap.size w w'
  | _, _, _ => False

theorem pq_close {w W : World} {D : Nat} {act : Act} {v : Value} {N : List Bs} {b : Bool} {r1 r2 r3 : Value} (hr1 : Boxed W w.heap.size 24 r1) (hr2 : Boxed W (w.heap.size + 1) 4 r2) (hr3 : Boxed W (w.heap.size + 1 + 1) 25 r3)
    (hrow : W.ownsRow w.heap.size 9 1 v N.length (N.map enc)) (hK : W.heap[D]? = some (.deferred (some []))) (hB : Below w.heap.size w W) {b' : Bool} (hb : b = b') :
    PQ w D act v N b .normal act (((W.setCell ⟨w.heap.size, 0, none⟩ v).setCell ⟨w.heap.size + 1, 0, none⟩ (.bool b')).setCell ⟨w.heap.size + 1 + 1, 0, none⟩ (.int .i64 0)).drew := by
  subst hb
  have k1 := hr1.set v
  have k2 := hr2.other (B' := w.heap.size) (by omega) v
  have k3 := hr3.other (B' := w.heap.size) (by omega) v
  have k4 := hrow.kept (grownBy_setCell' W w.heap.size v) (.inr (hr1.not_row (by decide) hrow).symm)
  have k5 := (KeepsOthers.setCell W ⟨w.heap.size, 0, none⟩ v).same D _ hK rfl
  have k6 := hB.setCell (p := ⟨w.heap.size, 0, none⟩) (Nat.le_refl _) v
  generalize W.setCell ⟨w.heap.size, 0, none⟩ v = W1 at k1 k2 k3 k4 k5 k6
  have l1 := k1.other (B' := w.heap.size + 1) (by omega) (.bool b)
  have l2 := k2.set (.bool b)
  have l3 := k3.other (B' := w.heap.size + 1) (by omega) (.bool b)
  have l4 := k4.kept (grownBy_setCell' W1 (w.heap.size + 1) (.bool b)) (.inr (k2.not_row (by decide) k4).symm)
  have l5 := (KeepsOthers.setCell W1 ⟨w.heap.size + 1, 0, none⟩ (.bool b)).same D _ k5 rfl
  have l6 := k6.setCell (p := ⟨w.heap.size + 1, 0, none⟩) (by simp) (.bool b)
  generalize W1.setCell ⟨w.heap.size + 1, 0, none⟩ (.bool b) = W2 at l1 l2 l3 l4 l5 l6
  have m1 := l1.other (B' := w.heap.size + 1 + 1) (by omega) (.int .i64 0)
  have m2 := l2.other (B' := w.heap.size + 1 + 1) (by omega) (.int .i64 0)
  have m3 := l3.set (.int .i64 0)
  have m4 := l4.kept (grownBy_setCell' W2 (w.heap.size + 1 + 1) (.int .i64 0)) (.inr (l3.not_row (by decide) l4).symm)
  have m5 := (KeepsOthers.setCell W2 ⟨w.heap.size + 1 + 1, 0, none⟩ (.int .i64 0)).same D _ l5 rfl
  have m6 := l6.setCell (p := ⟨w.heap.size + 1 + 1, 0, none⟩) (by simp; omega) (.int .i64 0)
  generalize W2.setCell ⟨w.heap.size + 1 + 1, 0, none⟩ (.int .i64 0) = W3 at m1 m2 m3 m4 m5 m6
  exact ⟨rfl, ⟨m1, m2, m3⟩, m4.kept (row := none) ⟨rfl, rfl, rfl, Nat.le_refl _, fun _ _ _ => rfl⟩ (by cases v.ownBlock <;> simp), m5, m6.drew⟩

attribute [local go_sem] Oper.semAt_some

set_option maxRecDepth 100000 in
set_option maxHeartbeats 2000000 in
theorem parts_loop (p : ByteArray) (w : World) (hs : p.size ≤ 256) (hf : faultN p.data.toList = 0) :
    Calls Tryd.prog 12 #[.string p] w (PartsPost p.data.toList w) := by
  have hc := fun w => fault_any p w (by unfold maxLen; omega)
  rw [hf] at hc
  have hnl := names_len p.data.toList
  rw [← sizeD] at hnl
  have HC := Lib.hid hc; clear hc
  have HF := Lib.hid hf; clear hf
  obtain ⟨i0, hi, hz0, hz1, hz2⟩ := info_parts info9
  have HI := Lib.hid hi; have HZ0 := Lib.hid hz0; have HZ1 := Lib.hid hz1; have HZ2 := Lib.hid hz2; clear hi hz0 hz1 hz2
  refine (callsIn_wide (n := 5)).1 ?_
  refine callsIn_of_wp_marks Tryd.func12 rfl trivial ?_ rfl
  simp only [Tryd.ntmps12, List.size_toArray, List.length_cons, List.length_nil, Nat.reduceAdd, Nat.reduceSub, Array.replicate_succ, Array.replicate_zero, List.push_toArray, List.append_toArray, List.nil_append, List.cons_append]
  gi_wp2_with (first
    | (refine ⟨trivial, ?_⟩; gi_at_call 27; refine (callsIn_wide.2 (HC.out _)).mono ?_; rintro e w' ⟨rfl, rfl⟩)
    | (refine ⟨trivial, ?_⟩; gi_at_call 28; refine (names_in _ p _).mono ?_; rintro e w' ⟨rfl, rfl⟩)
    | (gi_at_call 28; refine (names_in _ p _).mono ?_; rintro e w' ⟨rfl, rfl⟩))
  obtain ⟨W0, hW0⟩ : ∃ W0, (((((w.alloc (Obj.cells #[Value.slice none 0 0] 24)).alloc (Obj.cells #[Value.bool false] 4)).alloc (Obj.cells #[Value.int IntKind.i64 0] 25)).alloc (Obj.cells #[Value.slice none 0 0] 24)).alloc (Obj.cells #[Value.string p] 9)) = W0 := ⟨_, rfl⟩
  have hsz : W0.heap.size = w.heap.size + 1 + 1 + 1 + 1 + 1 := by rw [← hW0]; simp
  have hB0 : Below w.heap.size w W0 := by rw [← hW0]; exact (((((Below.refl _ w).alloc (Nat.le_refl _) _).alloc (by simp) _).alloc (by simp; omega) _).alloc (by simp; omega) _).alloc (by simp; omega) _
  have hcell : W0.cell? ⟨w.heap.size + 1 + 1 + 1 + 1, 0, none⟩ = some (.string p) := by
    rw [← hW0]
    have := (Boxed.new ((((w.alloc (Obj.cells #[Value.slice none 0 0] 24)).alloc (Obj.cells #[Value.bool false] 4)).alloc (Obj.cells #[Value.int IntKind.i64 0] 25)).alloc (Obj.cells #[Value.slice none 0 0] 24)) 9 (.string p)).cell
    simpa using this
  have hI0 : PI w [] W0 := by
    refine ⟨⟨⟨_, ?_, World.ownsRow_nil _ _ _ _, rfl⟩, ?_, ?_, ?_⟩, hB0⟩
    · rw [← hW0]
      have := (Boxed.new (((w.alloc (Obj.cells #[Value.slice none 0 0] 24)).alloc (Obj.cells #[Value.bool false] 4)).alloc (Obj.cells #[Value.int IntKind.i64 0] 25)) 24 (.slice none 0 0)).alloc (Obj.cells #[Value.string p] 9)
      simpa using this
    · rw [← hW0]
      exact ((((Boxed.new w 24 (.slice none 0 0)).alloc _).alloc _).alloc _).alloc _
    · rw [← hW0]
      have := ((((Boxed.new (w.alloc (Obj.cells #[Value.slice none 0 0] 24)) 4 (.bool false)).alloc (Obj.cells #[Value.int IntKind.i64 0] 25)).alloc (Obj.cells #[Value.slice none 0 0] 24)).alloc (Obj.cells #[Value.string p] 9))
      simpa using this
    · rw [← hW0]
      have := (((Boxed.new ((w.alloc (Obj.cells #[Value.slice none 0 0] 24)).alloc (Obj.cells #[Value.bool false] 4)) 25 (.int .i64 0)).alloc (Obj.cells #[Value.slice none 0 0] 24)).alloc (Obj.cells #[Value.string p] 9))
      simpa using this
  rw [hW0]
  have HW := Lib.hid hW0; have HSZ := Lib.hid hsz; clear hW0
  refine wpIn_rangeFunc_ownG rfl (by omega) (gf := 37) (lb := #[.pointer (some ⟨w.heap.size + 1 + 1 + 1 + 1, 0, none⟩)]) rfl trivial (enters_of Tryd.func37 (by kernel_rfl) rfl)
    (names_stops _ (by omega) (w.heap.size + 1 + 1 + 1 + 1) w.heap.size p (by unfold maxLen; omega) W0 (by omega) (by omega) hcell) belowK_t (belowK_b (by omega)) (Below.refl _ _) (fun _ => rfl)
    (PI w) (PX w) (pi_own w _ (by omega)) (px_own w _ (by omega)) hI0
    (fun x => { tmps := #[Value.string p, undef, Value.pointer (some { block := w.heap.size, off := 0 }),
          Value.pointer (some { block := w.heap.size + 1, off := 0 }),
          Value.pointer (some { block := w.heap.size + 1 + 1, off := 0 }), Value.int IntKind.i64 0,
          Value.pointer (some { block := w.heap.size + 1 + 1 + 1, off := 0 }), Value.string (nm x), Value.string p,
          Value.int IntKind.i64 0, Value.int IntKind.i64 0, Value.bool false, undef, Value.string p,
          Value.func (Fn.func 37) #[] #[Value.pointer (some { block := w.heap.size + 1 + 1 + 1 + 1, off := 0 })], Value.string (nm x),
          undef, undef, undef, undef, undef, undef, undef, undef, undef, undef, undef, undef, undef, undef, undef], defers := [] }) ?assign ?body ?done ?stop
  case assign =>
    intro l x W K hK
    gi_wp2
    exact hK
  case body =>
    rintro l pre x W ⟨⟨⟨v, hv, hrow, hlong⟩, hr1, hr2, hr3⟩, hB⟩ hlt
    clear hcell hI0 hB0
    have hsx := nm_size x
    have hle : w.heap.size ≤ W.heap.size := hB.size
    by_cases hx : 64 < x.length
    · have hl2 : longIn (pre ++ [x]) = true := by rw [longIn_snoc]; simp [hx]
      have c1 := hr1.cell; have c2 := hr2.cell; have c3 := hr3.cell
      have f1 := hr1.frozen; have f2 := hr2.frozen; have f3 := hr3.frozen
      have hx' : 64 < (nm x).size := by rw [hsx]; exact hx
      have HL := Lib.hid hl2; have H1 := Lib.hid hr1; have H2 := Lib.hid hr2; have H3 := Lib.hid hr3; have HO := Lib.hid hlong; clear hl2 hr1 hr2 hr3 hlong hsx
      gi_wp2
      exact ⟨(((KeepsOthers.setCell _ _ _).trans (KeepsOthers.setCell _ _ _)).trans (KeepsOthers.setCell _ _ _)).from _, ⟨⟨⟨rfl, HL.out⟩, ((H1.out.set _).other (by omega) _).other (by omega) _, ((H2.out.other (by omega) _).set _).other (by omega) _, ((H3.out.other (by omega) _).other (by omega) _).set _⟩,
        ((hB.setCell (p := ⟨w.heap.size, 0, none⟩) (by simp) _).setCell (p := ⟨w.heap.size + 1, 0, none⟩) (by simp) _).setCell (p := ⟨w.heap.size + 1 + 1, 0, none⟩) (by simp; omega) _⟩⟩
    · have hx' : (nm x).size ≤ 64 := by rw [hsx]; omega
      have hl2 : longIn (pre ++ [x]) = false := by rw [longIn_snoc, hlong]; simp; omega
      have c1 := hv.cell
      have HL := Lib.hid hl2; have H1 := Lib.hid hr1; have H2 := Lib.hid hr2; have H3 := Lib.hid hr3; have HO := Lib.hid hlong; clear hl2 hr1 hr2 hr3 hlong hsx
      gi_wp2_with (gi_at_builtin; refine wpListIn_append_own _ rfl _ _ 24 rfl w.heap.size 9 i0 (.string ByteArray.empty) 1 16 Tryd.underlying24 HI.out HZ0.out HZ1.out HZ2.out rfl (by decide) _ _ _ rfl (hrow.alloc _) ⟨W.heap.size, 0, none⟩ 1 1 [enc x] rfl rfl (cell_one_new _ _ _) (by simp [enc, Value.oneCell']) (by unfold maxLen; omega) (by omega) (by simp; omega) ?_; intro v' w1 hown' hgrow _; obtain ⟨g', cap', rfl⟩ := ownsRow_succ hown'; obtain ⟨hv1, hv2, hr2, hk2, hb2⟩ := hv.appended (by decide) hrow hB.size (by omega) hown' hgrow; have hc1 := hv1.cell; have hf1 := hv1.frozen)
      exact ⟨hk2.from _, hb2, ⟨⟨⟨_, hv2, by simpa using hr2, HL.out⟩, ((H1.out.alloc _).kept hgrow (H1.out.not_row (by decide) hrow)).other (by omega) _, ((H2.out.alloc _).kept hgrow (H2.out.not_row (by decide) hrow)).other (by omega) _, ((H3.out.alloc _).kept hgrow (H3.out.not_row (by decide) hrow)).other (by omega) _⟩, hB.trans hb2⟩⟩
  case done =>
    rintro D ys W hD rfl ⟨⟨⟨v, hv, hrow, hlong⟩, hr1, hr2, hr3⟩, hB⟩ hK
    clear hcell hI0 hB0
    have hE : partsE p.data.toList = 0 := by unfold partsE; rw [HF.out]; simp [hlong]
    have hSX : ∀ W, Calls Tryd.prog 29 #[.string p, .string ⟨#[47]⟩] W fun e w' => e = .returned (.bool (p.data.toList.getLast? == some 47)) ∧ w' = W := by
      intro W; rw [← suffix_slash]; exact Tryd.strings_HasSuffix p ⟨#[47]⟩ W (by omega)
    have hPB : partsB p.data.toList = (!(names p.data.toList).isEmpty && (p.data.toList.getLast? == some 47)) := by unfold partsB; rw [if_pos hE]
    have hPL : partsL p.data.toList = names p.data.toList := by unfold partsL; rw [if_pos hE]
    obtain ⟨a, cap, rfl⟩ := ownsRow_len hrow
    have c1 := hr1.cell; have c2 := hr2.cell; have c3 := hr3.cell; have c4 := hv.cell
    have f1 := hr1.frozen; have f2 := hr2.frozen; have f3 := hr3.frozen
    have H1 := Lib.hid hr1; have H2 := Lib.hid hr2; have H3 := Lib.hid hr3; have HS := Lib.hid hSX; have HPB := Lib.hid hPB; have HPL := Lib.hid hPL; have HE := Lib.hid hE; have HK := Lib.hid hK
    clear hr1 hr2 hr3 hSX hPB hPL hE hlong hK
    generalize names p.data.toList = N at *
    generalize (p.data.toList.getLast? == some 47) = sl at *
    have hmx : Tryd.prog.follows .mixedOrders = true := by kernel_rfl
    obtain ⟨k, hkk⟩ : ∃ k, N.length = k := ⟨_, rfl⟩
    have HROW := Lib.hid hrow; clear hrow
    rw [hkk] at hnl hv c4 HROW
    by_cases hN : N = []
    · have hk : k = 0 := by rw [← hkk, hN]; rfl
      subst hk
      have hp2 : partsB p.data.toList = false := by rw [HPB.out, hN]; rfl
      have HPB2 := Lib.hid hp2
      have hrow2 : W.ownsRow w.heap.size 9 1 (.slice a 0 cap) N.length (N.map enc) := by rw [hkk]; exact HROW.out
      have HR2 := Lib.hid hrow2
      have HN := Lib.hid hN; have HKK := Lib.hid hkk
      clear hN hkk hp2 HPB hrow2
      gi_wp2
      refine wpIn_mono (Q := PQ w D { tmps := #[Value.string p, undef, Value.pointer (some { block := w.heap.size, off := 0 }),
          Value.pointer (some { block := w.heap.size + 1, off := 0 }),
          Value.pointer (some { block := w.heap.size + 1 + 1, off := 0 }), Value.int IntKind.i64 0,
          Value.pointer (some { block := w.heap.size + 1 + 1 + 1, off := 0 }), undef, Value.string p,
          Value.int IntKind.i64 0, Value.int IntKind.i64 0, Value.bool false, undef, Value.string p,
          Value.func (Fn.func 37) #[] #[Value.pointer (some { block := w.heap.size + 1 + 1 + 1 + 1, off := 0 })], undef,
          undef, undef, undef, undef, undef, undef, undef, .slice a 0 cap, .slice a 0 cap, .int .i64 0, .bool false, .bool false, undef, undef, .bool false], defers := [{ target := .collected D, args := #[] }] } (.slice a 0 cap) N (partsB p.data.toList)) ?_ ?_
      · first | (gi_region_with (refine ⟨trivial, ?_⟩; first | (gi_at_call 29; refine (callsIn_wide.2 (HS.out _)).mono ?_; rintro e w' ⟨rfl, rfl⟩) | skip)) | fail
        all_goals exact pq_close H1.out H2.out H3.out HR2.out HK.out hB HPB2.out
      · rintro e a1 w1 hq
        cases e <;> first | exact hq.elim | skip
        obtain ⟨rfl, ⟨hr1, hr2, hr3⟩, hrow, hK, hB1⟩ := hq
        have HPE := HE.out; have HPN := HPL.out
        gi_wp2
        refine ⟨by simp, .inl ⟨_, _, rfl, run_takeDeferred hK, ?_⟩⟩
        have hg := grownBy_putObj' w1 D (.deferred none)
        have hne : ∀ r, some D = some r → ∃ o : Obj, w1.heap[r]? = some o ∧ o.isCells = false := fun r e => by cases e; exact ⟨_, hK, rfl⟩
        have k1 := cell_kept hr1.cell hg hne
        have k2 := cell_kept hr2.cell hg hne
        have k3 := cell_kept hr3.cell hg hne
        refine ⟨.tuple #[.slice a 0 cap, .bool (partsB p.data.toList), .int .i64 0], by simp [results, Tryd.results12, go_sem, k1, k2, k3], .slice a 0 cap, by rw [HPE]; rfl, ?_, hB1.trans (belowK_b (w := w) (Nat.le_refl _) w1 D _ _ (by omega) hK rfl rfl)⟩
        rw [HPN]
        exact ownsRow_putObj hrow _ hK rfl
    · have hk : 0 < k := by rw [← hkk]; exact List.length_pos_iff.2 hN
      have hp2 : partsB p.data.toList = sl := by
        rw [HPB.out]
        cases e : N with
        | nil => exact absurd e hN
        | cons _ _ => rfl
      have HPB2 := Lib.hid hp2
      have hrow2 : W.ownsRow w.heap.size 9 1 (.slice a k cap) N.length (N.map enc) := by rw [hkk]; exact HROW.out
      have HR2 := Lib.hid hrow2
      have HN := Lib.hid hN; have HKK := Lib.hid hkk
      clear hN hkk hp2 HPB hrow2
      gi_wp2
      refine wpIn_mono (Q := PQ w D { tmps := #[Value.string p, undef, Value.pointer (some { block := w.heap.size, off := 0 }),
          Value.pointer (some { block := w.heap.size + 1, off := 0 }),
          Value.pointer (some { block := w.heap.size + 1 + 1, off := 0 }), Value.int IntKind.i64 0,
          Value.pointer (some { block := w.heap.size + 1 + 1 + 1, off := 0 }), undef, Value.string p,
          Value.int IntKind.i64 0, Value.int IntKind.i64 0, Value.bool false, undef, Value.string p,
          Value.func (Fn.func 37) #[] #[Value.pointer (some { block := w.heap.size + 1 + 1 + 1 + 1, off := 0 })], undef,
          undef, undef, undef, undef, undef, undef, undef, .slice a k cap, .slice a k cap, .int .i64 k, .bool true, .bool true, .string p, .bool sl, .bool sl], defers := [{ target := .collected D, args := #[] }] } (.slice a k cap) N (partsB p.data.toList)) ?_ ?_
      · first | (gi_region_with (refine ⟨trivial, ?_⟩; first | (gi_at_call 29; refine (callsIn_wide.2 (HS.out _)).mono ?_; rintro e w' ⟨rfl, rfl⟩) | skip)) | fail
        all_goals exact pq_close H1.out H2.out H3.out HR2.out HK.out hB HPB2.out
      · rintro e a1 w1 hq
        cases e <;> first | exact hq.elim | skip
        obtain ⟨rfl, ⟨hr1, hr2, hr3⟩, hrow, hK, hB1⟩ := hq
        have HPE := HE.out; have HPN := HPL.out
        gi_wp2
        refine ⟨by simp, .inl ⟨_, _, rfl, run_takeDeferred hK, ?_⟩⟩
        have hg := grownBy_putObj' w1 D (.deferred none)
        have hne : ∀ r, some D = some r → ∃ o : Obj, w1.heap[r]? = some o ∧ o.isCells = false := fun r e => by cases e; exact ⟨_, hK, rfl⟩
        have k1 := cell_kept hr1.cell hg hne
        have k2 := cell_kept hr2.cell hg hne
        have k3 := cell_kept hr3.cell hg hne
        refine ⟨.tuple #[.slice a k cap, .bool (partsB p.data.toList), .int .i64 0], by simp [results, Tryd.results12, go_sem, k1, k2, k3], .slice a k cap, by rw [HPE]; rfl, ?_, hB1.trans (belowK_b (w := w) (Nat.le_refl _) w1 D _ _ (by omega) hK rfl rfl)⟩
        rw [HPN]
        exact ownsRow_putObj hrow _ hK rfl
  case stop =>
    rintro D c pre W hD hpre ⟨⟨⟨rfl, hl⟩, hr1, hr2, hr3⟩, hB⟩ hK
    have hln : longIn (names p.data.toList) = true := by
      unfold longIn at hl ⊢
      rw [List.any_eq_true] at hl ⊢
      obtain ⟨x, hx, h⟩ := hl
      exact ⟨x, hpre.subset hx, h⟩
    have hE : partsE p.data.toList = 26 := by unfold partsE; rw [HF.out]; simp [hln]
    have hPB : partsB p.data.toList = false := by unfold partsB; rw [hE]; simp
    have hPL : partsL p.data.toList = [] := by unfold partsL; rw [hE]; simp
    have HE := Lib.hid hE; have HPB := Lib.hid hPB; have HPL := Lib.hid hPL; clear hE hPB hPL hln hpre hcell hI0 hB0
    gi_wp2
    refine ⟨by simp, .inl ⟨_, _, rfl, run_takeDeferred hK, ?_⟩⟩
    have hg := grownBy_putObj' W D (.deferred none)
    have hne : ∀ r, some D = some r → ∃ o : Obj, W.heap[r]? = some o ∧ o.isCells = false := fun r e => by cases e; exact ⟨_, hK, rfl⟩
    have k1 := cell_kept hr1.cell hg hne
    have k2 := cell_kept hr2.cell hg hne
    have k3 := cell_kept hr3.cell hg hne
    refine ⟨.tuple #[.slice none 0 0, .bool false, .int .i64 26], by simp [results, Tryd.results12, go_sem, k1, k2, k3], .slice none 0 0, ?_, ?_, hB.trans (belowK_b (w := w) (Nat.le_refl _) W D _ _ (by omega) hK rfl rfl)⟩
    · rw [HPB.out, HE.out]; rfl
    · rw [HPL.out]; exact World.ownsRow_nil _ _ _ _

end Go.Proofs.YtfchofdoabhakaaDoor
