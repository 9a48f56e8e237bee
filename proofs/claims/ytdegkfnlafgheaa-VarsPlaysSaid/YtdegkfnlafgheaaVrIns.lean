/- DERIVED. The walk over slices.Insert of one variable. -/
import Derived.Test.YtdegkfnlafgheaaVrFind
import Derived.Shelf.Spec.SlicesInsert
import Derived.Lib.AppendZerosOnto
import Derived.Laws.NewBlocks
import Derived.Laws.CopyRow
import Derived.Deep.RegionLaw
import Derived.Maps.AppendAt
namespace Go.Proofs.Ytdegkfnlafgheaa.Vr
open Go.RowKit
open PathM WdM VrM
open Go.Proofs.Ytdegkfnlafgheaa.Wd
set_option linter.unusedVariables false
def varC (x : Bs × Bs) : List Value := [.string (nm x.1), .string (nm x.2)]
theorem varC_at : ∀ (l : Vs) (i : Nat) (h : i < l.length), (l.flatMap varC)[i * 2]? = some (.string (nm l[i].1)) ∧ (l.flatMap varC)[i * 2 + 1]? = some (.string (nm l[i].2))
  | [], i, h => absurd h (by simp)
  | t :: l, 0, _ => ⟨rfl, rfl⟩
  | t :: l, i + 1, h => by
    have := varC_at l i (by simpa using h)
    rw [show (i + 1) * 2 = i * 2 + 2 by omega]
    simpa [List.flatMap_cons, varC, List.getElem?_append] using this
theorem infoV : (Try.prog.info? 26).map (fun i => (i.zero, i.size, i.bytes)) = some (some (.agg #[.string ByteArray.empty, .string ByteArray.empty]), 2, 32) := by kernel_rfl
theorem oneV (a b : ByteArray) : ∀ u ∈ [Value.string a, .string b], u.oneCell' = true := by
  intro u hu
  simp at hu
  rcases hu with rfl | rfl <;> rfl
theorem flat_len (vs : Vs) : (vs.flatMap varC).length = vs.length * 2 := by
  induction vs with
  | nil => rfl
  | cons x vs ih => rw [List.flatMap_cons, List.length_append, ih, List.length_cons]; simp [varC]; omega
theorem flat_one (vs : Vs) : ∀ u ∈ vs.flatMap varC, u.oneCell' = true := by
  intro u hu
  obtain ⟨x, _, hx⟩ := List.mem_flatMap.1 hu
  exact oneV _ _ u hx
theorem flat_take (vs : Vs) (i : Nat) : (vs.take i).flatMap varC = (vs.flatMap varC).take (i * 2) := by
  induction vs generalizing i with
  | nil => simp
  | cons x vs ih =>
    cases i with
    | zero => rfl
    | succ i =>
      rw [List.take_succ_cons, List.flatMap_cons, List.flatMap_cons, ih, show (i + 1) * 2 = i * 2 + 2 by omega]
      rfl
theorem flat_drop (vs : Vs) (i : Nat) : (vs.drop i).flatMap varC = (vs.flatMap varC).drop (i * 2) := by
  induction vs generalizing i with
  | nil => simp
  | cons x vs ih =>
    cases i with
    | zero => rfl
    | succ i =>
      rw [List.drop_succ_cons, List.flatMap_cons, ih, show (i + 1) * 2 = i * 2 + 2 by omega]
      rfl
theorem run_copy_rowS {P : Program} (w : World) (dT sT ty elem : TypeId) (g o dLen dCap : Nat) (a : Addr) (sLen sCap : Nat) (cur : Array Value) (t : TypeId) (cs : List Value) (size m : Nat)
    (hu : P.underlying dT = some (.slice elem)) (hs : (P.info? elem).map (·.size) = some size)
    (hg : w.heap[g]? = some (.cells cur t (0, 0))) (hm : Nat.min sLen dLen = m) (hn : cs.length = m * size)
    (hsrc : ∀ j v, cs[j]? = some v → w.cell? (a.add j) = some v) (hfit : o + cs.length ≤ cur.size) (h1 : ∀ v ∈ cs, v.oneCell' = true) :
    (Builtin.copy_ #[dT, sT] ty #[.slice (some ⟨g, o, none⟩) dLen dCap, .slice (some a) sLen sCap]).run P w =
      .ok (goInt m) (w.setRow g (cur.toList.take o ++ cs ++ cur.toList.drop (o + cs.length)).toArray) := by
  have hl := run_loadCells_list (P := P) w a cs hsrc
  have hst := run_storeCells_at P g o t cs 0 cur w hg (by simpa using hfit) h1
  rw [hn] at hl
  cases hq : P.info? elem with
  | none => simp [hq] at hs
  | some i =>
    have hi : i.size = size := by simpa [hq] using hs
    simp [Builtin.copy_, run_underlying hu, Builtin.lenOf, Builtin.firstCells, sizeOf, typeInfo, hq, hi, hm, hl, hst]
theorem sizeV : (Try.prog.info? 26).map (·.size) = some 2 := by kernel_rfl
theorem sizeOfV (w : World) : (Go.sizeOf 26).run Try.prog w = .ok 2 w := by kernel_rfl
theorem overlaps_no (w : World) (eb g o : Nat) (lb cb : Nat) (c1 c2 : Array Value) (t1 t2 : TypeId) (h1 : w.heap[eb]? = some (.cells c1 t1 (0, 0))) (h2 : w.heap[g]? = some (.cells c2 t2 (0, 0))) (hne : eb ≠ g) (h0 : c2.size ≠ 0) :
    (callFunc 63 #[.slice (some ⟨eb, 0, none⟩) 1 1, .slice (some ⟨g, o, none⟩) lb cb]).run Try.prog w = .ok (.value (.bool false)) w := by
  rw [run_callFunc_extern Try.func63 (by kernel_rfl) (by kernel_rfl) (by kernel_rfl) (e := Extern.SlicesOverlaps.overlaps #[22, 22] #[4]) (by kernel_rfl),
    Lib.run_overlaps_apart w 22 4 26 Try.underlying22 2 sizeOfV ⟨eb, 0, none⟩ ⟨g, o, none⟩ 1 1 lb cb hne t1 t2 c1.size c2.size (by simp [World.shape?, h1]) (by simp [World.shape?, h2]) h0 (froz_blk h1 0) (froz_blk h1 _)]
  rfl
/-- How Insert ends. -/
def InsPost (base : Nat) (vs : Vs) (vv : Value) (w : World) (e : Ending) (w' : World) : Prop := ∃ vv', e = .returned vv' ∧ w'.ownsRow base 26 2 vv' vs.length (vs.flatMap varC) ∧ w.grownBy w' vv.ownBlock ∧ (vv'.ownBlock = vv.ownBlock ∨ ∃ b, vv'.ownBlock = some b ∧ w.heap.size ≤ b)
theorem grown_drew {w w' : World} {r : Option Nat} {n : Nat} (h : w.grownBy w' r) : w.grownBy (w'.drewN n) r := ⟨h.os, h.tape, h.output, h.size, h.block⟩
theorem cell_two {w : World} {eb : Nat} {a b : ByteArray} {t : TypeId} (h : w.heap[eb]? = some (.cells #[.string a, .string b] t (0, 0))) : ∀ (j : Nat) (u : Value), [Value.string a, .string b][j]? = some u → w.cell? ((⟨eb, 0, none⟩ : Addr).add j) = some u := by
  intro j u hj
  have c0 := cell_blk h 0
  have c1 := cell_blk h 1
  rcases j with _ | _ | j
  · simp at hj; subst hj; exact c0
  · simp at hj; subst hj; exact c1
  · simp at hj
set_option maxRecDepth 100000 in
set_option maxHeartbeats 1600000 in
theorem ins_end (base : Nat) (vs : Vs) (name : Bs) (vv : Value) (eb : Nat) (w : World) (h : w.ownsRow base 26 2 vv vs.length (vs.flatMap varC)) (hbase : base ≤ w.heap.size) (hl : vs.length ≤ 1000) (he : w.heap[eb]? = some (.cells #[.string (nm name), .string ⟨#[]⟩] 26 (0, 0))) :
    Calls Try.prog 44 #[vv, .int .i64 (vs.length : Int), .slice (some ⟨eb, 0, none⟩) 1 1] w (InsPost base (vs ++ [(name, [])]) vv w) := by
  obtain ⟨i0, hi0, hz0, hz1, hz2⟩ := info_parts infoV
  have HI := Lib.hid hi0; have HZ0 := Lib.hid hz0; have HZ1 := Lib.hid hz1; have HZ2 := Lib.hid hz2; clear hi0 hz0 hz1 hz2
  have HC := Lib.hid (cell_two he)
  have HF : Hid (∀ v5 w5, w5.ownsRow base 26 2 v5 (vs.length + 1) (vs.flatMap varC ++ [.string (nm name), .string ⟨#[]⟩]) → w.grownBy w5 vv.ownBlock → (v5.ownBlock = vv.ownBlock ∨ v5.ownBlock = some w.heap.size) → InsPost base (vs ++ [(name, [])]) vv w (.returned v5) w5) := Lib.hid (by
    intro v5 w5 hr hg ho
    refine ⟨v5, rfl, ?_, hg, ho.imp id fun h => ⟨_, h, Nat.le_refl _⟩⟩
    rw [List.flatMap_append, List.length_append]
    exact hr)
  have HR := Lib.hid h
  obtain ⟨A, c, hv, hlc⟩ := row_form h
  have hlc2 : (vs.length : Int) ≤ (c : Int) := by omega
  have hl2 : (vs.length : Int) ≤ 1000 := by omega
  clear h he
  generalize InsPost base (vs ++ [(name, [])]) vv w = Q at *
  generalize vs.flatMap varC = xs at *
  generalize nm name = N at *
  generalize vs.length = n at *
  subst hv
  go_enter Try.func44, Try.ntmps44
  go_wp2_with (at_builtin; refine wpList_append_own_at _ rfl _ _ 22 rfl base 26 i0 (.agg #[.string ByteArray.empty, .string ByteArray.empty]) 2 32 Try.underlying22 HI.out HZ0.out HZ1.out HZ2.out rfl (by decide) _ _ _ rfl HR.out ⟨eb, 0, none⟩ 1 1 [.string N, .string ⟨#[]⟩] rfl rfl HC.out (oneV _ _) (maxLen_ok (by omega)) (by omega) hbase ?_; intro v5 w5 hown5 hg5 _ ho5; have H5 := Lib.hid (HF.out v5 w5 hown5 hg5 ho5); obtain ⟨A5, c5, rfl, _⟩ := row_form hown5; clear hown5 hg5 ho5)
  all_goals exact H5.out
/-- An own row, its block. -/
theorem row_block {W : World} {base : Nat} {e : TypeId} {size g n c : Nat} {xs : List Value} (h : W.ownsRow base e size (.slice (some ⟨g, 0, none⟩) n c) n xs) : ∃ cur : Array Value, W.heap[g]? = some (.cells cur e (0, 0)) ∧ n ≤ c ∧ c ≤ maxLen ∧ cur.size = c * size ∧ cur.toList.take (n * size) = xs ∧ base ≤ g := by
  rcases h.2 with ⟨h0, _⟩ | ⟨g', cap', cur, hv, hg, hh, h1, h2, h3, hx⟩
  · cases h0
  · cases hv
    exact ⟨cur, hh, h1, h2, h3, hx, hg⟩
theorem row_make {W : World} {base : Nat} {e : TypeId} {size g n c : Nat} {xs : List Value} {cur : Array Value} (hh : W.heap[g]? = some (.cells cur e (0, 0))) (h1 : n ≤ c) (h2 : c ≤ maxLen) (h3 : cur.size = c * size) (hx : cur.toList.take (n * size) = xs) (hb : base ≤ g) (hl : xs.length = n * size) : W.ownsRow base e size (.slice (some ⟨g, 0, none⟩) n c) n xs := ⟨hl, .inr ⟨g, c, cur, rfl, hb, hh, h1, h2, h3, hx⟩⟩
theorem shift_list (cur xs new : List Value) (i n c : Nat) (hi : i < n) (hn : n + 1 ≤ c) (hc : cur.length = c * 2) (hx : cur.take (n * 2) = xs) (hnew : new.length = 2) :
    let cur1 := cur.take ((i + 1) * 2) ++ xs.drop (i * 2) ++ cur.drop ((i + 1) * 2 + (xs.drop (i * 2)).length)
    let cur2 := cur1.take (i * 2) ++ new ++ cur1.drop (i * 2 + new.length)
    cur1.length = c * 2 ∧ cur2.length = c * 2 ∧ cur2.take ((n + 1) * 2) = xs.take (i * 2) ++ new ++ xs.drop (i * 2) := by
  have hxl : xs.length = n * 2 := by rw [← hx, List.length_take, hc]; omega
  have hdl : (xs.drop (i * 2)).length = (n - i) * 2 := by rw [List.length_drop, hxl]; omega
  have e1 : cur.take (i * 2) = xs.take (i * 2) := by rw [← hx, List.take_take]; congr 1; omega
  intro cur1 cur2
  have l1 : cur1.length = c * 2 := by
    show (cur.take ((i + 1) * 2) ++ xs.drop (i * 2) ++ cur.drop ((i + 1) * 2 + (xs.drop (i * 2)).length)).length = _
    simp only [List.length_append, List.length_take, List.length_drop, hxl, hc]; omega
  have t1 : cur1.take (i * 2) = xs.take (i * 2) := by
    show (cur.take ((i + 1) * 2) ++ xs.drop (i * 2) ++ cur.drop ((i + 1) * 2 + (xs.drop (i * 2)).length)).take (i * 2) = _
    rw [List.append_assoc, List.take_append_of_le_length (by rw [List.length_take, hc]; omega), List.take_take, show min (i * 2) ((i + 1) * 2) = i * 2 by omega, e1]
  have d1 : cur1.drop (i * 2 + 2) = xs.drop (i * 2) ++ cur.drop ((i + 1) * 2 + (xs.drop (i * 2)).length) := by
    show (cur.take ((i + 1) * 2) ++ xs.drop (i * 2) ++ cur.drop ((i + 1) * 2 + (xs.drop (i * 2)).length)).drop (i * 2 + 2) = _
    rw [List.append_assoc, List.drop_append_of_le_length (by rw [List.length_take, hc]; omega), List.drop_of_length_le (by rw [List.length_take, hc]; omega), List.nil_append]
  have e2 : cur2 = xs.take (i * 2) ++ new ++ (xs.drop (i * 2) ++ cur.drop ((i + 1) * 2 + (xs.drop (i * 2)).length)) := by
    show cur1.take (i * 2) ++ new ++ cur1.drop (i * 2 + new.length) = _
    rw [t1, hnew, d1]
  refine ⟨l1, ?_, ?_⟩
  · rw [e2]; simp only [List.length_append, List.length_take, List.length_drop, hxl, hnew, hc]; omega
  · rw [e2, ← List.append_assoc, List.take_append_of_le_length (by rw [List.length_append, List.length_append, List.length_take, hdl, hxl, hnew]; omega)]
    exact List.take_of_length_le (by rw [List.length_append, List.length_append, List.length_take, hdl, hxl, hnew]; omega)
theorem grown_setRow {w : World} {g : Nat} {cs : Array Value} : w.grownBy (w.setRow g cs) (some g) := ⟨rfl, rfl, rfl, by simp [World.setRow], fun k _ hk => setRow_other w g k cs (fun e => hk (by rw [e]))⟩
set_option maxRecDepth 100000 in
set_option maxHeartbeats 1600000 in
theorem ins_room (base : Nat) (vs : Vs) (name : Bs) (g c : Nat) (i eb : Nat) (w : World) (h : w.ownsRow base 26 2 (.slice (some ⟨g, 0, none⟩) vs.length c) vs.length (vs.flatMap varC)) (hbase : base ≤ w.heap.size) (hl : vs.length ≤ 1000) (hi : i < vs.length) (hroom : vs.length + 1 ≤ c) (he : w.heap[eb]? = some (.cells #[.string (nm name), .string ⟨#[]⟩] 26 (0, 0))) (hne : eb ≠ g) :
    Calls Try.prog 44 #[.slice (some ⟨g, 0, none⟩) vs.length c, .int .i64 (i : Int), .slice (some ⟨eb, 0, none⟩) 1 1] w (InsPost base (vs.take i ++ (name, []) :: vs.drop i) (.slice (some ⟨g, 0, none⟩) vs.length c) w) := by
  obtain ⟨cur, hg, _, hcm, hcs, hx, hbg⟩ := row_block h
  have hfl := flat_len vs
  have hf1 := flat_one vs
  have htk := flat_take vs i
  have hdr := flat_drop vs i
  obtain ⟨l1, l2, hsh⟩ := shift_list cur.toList (vs.flatMap varC) [.string (nm name), .string ⟨#[]⟩] i vs.length c hi hroom (by simpa using hcs) hx rfl
  have hsrc1 : ∀ j u, ((vs.flatMap varC).drop (i * 2))[j]? = some u → w.drew.cell? ((⟨g, i * 2, none⟩ : Addr).add j) = some u := by
    intro j u hj
    rw [Addr.add_lit]
    rw [List.getElem?_drop] at hj
    exact row_cells h _ _ hj
  have hdl : ((vs.flatMap varC).drop (i * 2)).length = (vs.length - i) * 2 := by rw [List.length_drop, hfl]; omega
  have hrow : (vs.take i ++ (name, ([] : Bs)) :: vs.drop i).flatMap varC = (vs.flatMap varC).take (i * 2) ++ [.string (nm name), .string ⟨#[]⟩] ++ (vs.flatMap varC).drop (i * 2) := by
    rw [List.flatMap_append, List.flatMap_cons, htk, hdr, List.append_assoc]; rfl
  have hlen : (vs.take i ++ (name, ([] : Bs)) :: vs.drop i).length = vs.length + 1 := by rw [List.length_append, List.length_cons, List.length_take, List.length_drop]; omega
  obtain ⟨cur1, hc1⟩ : ∃ cur1, cur1 = (cur.toList.take ((i + 1) * 2) ++ (vs.flatMap varC).drop (i * 2) ++ cur.toList.drop ((i + 1) * 2 + ((vs.flatMap varC).drop (i * 2)).length)) := ⟨_, rfl⟩
  rw [← hc1] at l1 l2 hsh
  obtain ⟨W1, hW1⟩ : ∃ W1, W1 = w.drew.setRow g cur1.toArray := ⟨_, rfl⟩
  have hcp1 : ∀ ty dc sc, (Builtin.copy_ #[22, 22] ty #[.slice (some ⟨g, (i + 1) * 2, none⟩) (vs.length - i) dc, .slice (some ⟨g, i * 2, none⟩) (vs.length + 1 - i) sc]).run Try.prog w.drew = .ok (goInt ((vs.length - i : Nat) : Int)) W1 := fun ty dc sc => by
    rw [hW1, hc1]
    exact run_copy_rowS w.drew _ _ ty 26 g ((i + 1) * 2) (vs.length - i) dc ⟨g, i * 2, none⟩ (vs.length + 1 - i) sc cur 26 ((vs.flatMap varC).drop (i * 2)) 2 (vs.length - i) Try.underlying22 sizeV hg (by simp only [Nat.min_def]; split <;> omega) hdl hsrc1 (by rw [hdl, hcs]; omega) (fun v hv => hf1 v (List.mem_of_mem_drop hv))
  have hg1 : W1.heap[g]? = some (.cells cur1.toArray 26 (0, 0)) := by rw [hW1]; exact setRow_heap _ g cur _ _ (0, 0) hg
  have he1 : W1.heap[eb]? = some (.cells #[.string (nm name), .string ⟨#[]⟩] 26 (0, 0)) := by rw [hW1]; exact (setRow_other _ g eb _ hne).trans he
  have hcp2 : ∀ ty dc, (Builtin.copy_ #[22, 22] ty #[.slice (some ⟨g, i * 2, none⟩) (vs.length + 1 - i) dc, .slice (some ⟨eb, 0, none⟩) 1 1]).run Try.prog W1 = .ok (goInt 1) (W1.setRow g (cur1.take (i * 2) ++ [Value.string (nm name), .string ⟨#[]⟩] ++ cur1.drop (i * 2 + [Value.string (nm name), .string ⟨#[]⟩].length)).toArray) := fun ty dc => by
    have := run_copy_rowS W1 22 22 ty 26 g (i * 2) (vs.length + 1 - i) dc ⟨eb, 0, none⟩ 1 1 cur1.toArray 26 [.string (nm name), .string ⟨#[]⟩] 2 1 Try.underlying22 sizeV hg1 (by simp only [Nat.min_def]; split <;> omega) rfl (cell_two he1) (by simp only [List.size_toArray, List.length_cons, List.length_nil]; omega) (oneV _ _)
    exact this
  obtain ⟨W2, hW2⟩ : ∃ W2, W2 = (W1.setRow g (cur1.take (i * 2) ++ [Value.string (nm name), .string ⟨#[]⟩] ++ cur1.drop (i * 2 + [Value.string (nm name), .string ⟨#[]⟩].length)).toArray) := ⟨_, rfl⟩
  rw [← hW2] at hcp2
  have hFIN : InsPost base (vs.take i ++ (name, []) :: vs.drop i) (.slice (some ⟨g, 0, none⟩) vs.length c) w (.returned (.slice (some ⟨g, 0, none⟩) (vs.length + 1) c)) W2 := by
    refine ⟨_, rfl, ?_, ?_, .inl rfl⟩
    · rw [hlen, hrow]
      have hg2 : W2.heap[g]? = some (.cells (cur1.take (i * 2) ++ [Value.string (nm name), .string ⟨#[]⟩] ++ cur1.drop (i * 2 + [Value.string (nm name), .string ⟨#[]⟩].length)).toArray 26 (0, 0)) := by rw [hW2]; exact setRow_heap _ g cur1.toArray _ _ (0, 0) hg1
      refine row_make hg2 hroom hcm (by rw [List.size_toArray]; exact l2) hsh hbg ?_
      rw [← hsh, List.length_take, l2]; omega
    · rw [hW2, hW1]
      exact ⟨rfl, rfl, rfl, by simp [World.setRow], fun k _ hk => by
        have hk2 : k ≠ g := fun e => hk (by rw [e]; rfl)
        exact (setRow_other _ g k _ hk2).trans (setRow_other _ g k _ hk2)⟩
  have HFIN := Lib.hid hFIN
  have hov : ∀ o lb cb, (callFunc 63 #[.slice (some ⟨eb, 0, none⟩) 1 1, .slice (some ⟨g, o, none⟩) lb cb]).run Try.prog w = .ok (.value (.bool false)) w := fun o lb cb => overlaps_no w eb g o lb cb _ _ _ _ he hg hne (by omega)
  have hi1 : ¬ ((i : Int) = (vs.length : Int)) := by omega
  clear h hcs hx hfl hf1 htk hdr l1 l2 hsh hsrc1 hdl hrow hlen hc1 hg1 he1 hW1 hW2 hFIN hg he
  generalize InsPost base (vs.take i ++ (name, []) :: vs.drop i) (.slice (some ⟨g, 0, none⟩) vs.length c) w = Q at *
  generalize vs.length = n at *
  have hw1 : IntKind.i64.wrap ((i : Int) + 1) = (i : Int) + 1 := by rw [IntKind.wrap_i64]; omega
  have hb0 : ¬ c = i := by omega
  have hb1 : ¬ c = i + 1 := by omega
  have hcc : (n : Int) + 1 ≤ (c : Int) := by omega
  have htn : ((i : Int) + 1).toNat = i + 1 := by omega
  have hb2 : (0 : Int) ≤ (i : Int) + 1 := by omega
  have hin : i ≤ n := by omega
  have hin2 : (i : Int) ≤ (n : Int) + 1 := by omega
  go_enter Try.func44, Try.ntmps44
  go_wp2_with (simp only [hov])
  go_region_law (refine step_copy_runI rfl _ _ 22 22 rfl _ _ (by simp [Act.eval, Act.put]) (by simp [Act.eval, Act.put]) (hcp1 _ _ _) ?_)
  go_wp2_with (refine wpList_copy_runI (o := ⟨some 82, _, _, _, _, _⟩) _ rfl (.tmp 80) (.tmp 81) 22 22 rfl _ _ rfl rfl (hcp2 _ _) ?_)
  exact HFIN.out
theorem grow_list (R xs new : List Value) (i n G : Nat) (hi : i < n) (hn : n + 1 ≤ G) (hR : R.length = G * 2) (hxl : xs.length = n * 2) (e1 : R.take (i * 2) = xs.take (i * 2)) (hnew : new.length = 2) :
    let cur1 := R.take (i * 2) ++ new ++ R.drop (i * 2 + new.length)
    let cur2 := cur1.take ((i + 1) * 2) ++ xs.drop (i * 2) ++ cur1.drop ((i + 1) * 2 + (xs.drop (i * 2)).length)
    cur1.length = G * 2 ∧ cur2.length = G * 2 ∧ cur2.take ((n + 1) * 2) = xs.take (i * 2) ++ new ++ xs.drop (i * 2) := by
  intro cur1 cur2
  have l1 : cur1.length = G * 2 := by
    show (R.take (i * 2) ++ new ++ R.drop (i * 2 + new.length)).length = _
    simp only [List.length_append, List.length_take, List.length_drop, hnew, hR]; omega
  have t1 : cur1.take ((i + 1) * 2) = xs.take (i * 2) ++ new := by
    show (R.take (i * 2) ++ new ++ R.drop (i * 2 + new.length)).take ((i + 1) * 2) = _
    rw [List.take_append_of_le_length (by simp only [List.length_append, List.length_take, hnew, hR]; omega), List.take_of_length_le (by simp only [List.length_append, List.length_take, hnew, hR]; omega), e1]
  refine ⟨l1, ?_, ?_⟩
  · show (cur1.take ((i + 1) * 2) ++ xs.drop (i * 2) ++ cur1.drop ((i + 1) * 2 + (xs.drop (i * 2)).length)).length = _
    simp only [List.length_append, List.length_take, List.length_drop, l1, hxl]; omega
  · show (cur1.take ((i + 1) * 2) ++ xs.drop (i * 2) ++ cur1.drop ((i + 1) * 2 + (xs.drop (i * 2)).length)).take ((n + 1) * 2) = _
    rw [t1, List.take_append_of_le_length (by simp only [List.length_append, List.length_take, List.length_drop, hnew, hxl]; omega)]
    exact List.take_of_length_le (by simp only [List.length_append, List.length_take, List.length_drop, hnew, hxl]; omega)
set_option maxRecDepth 100000 in
set_option maxHeartbeats 1600000 in
theorem ins_grow (base : Nat) (vs : Vs) (name : Bs) (g : Nat) (i eb : Nat) (w : World) (h : w.ownsRow base 26 2 (.slice (some ⟨g, 0, none⟩) vs.length vs.length) vs.length (vs.flatMap varC)) (hbase : base ≤ w.heap.size) (hl : vs.length ≤ 1000) (hi : i < vs.length) (he : w.heap[eb]? = some (.cells #[.string (nm name), .string ⟨#[]⟩] 26 (0, 0))) :
    Calls Try.prog 44 #[.slice (some ⟨g, 0, none⟩) vs.length vs.length, .int .i64 (i : Int), .slice (some ⟨eb, 0, none⟩) 1 1] w (InsPost base (vs.take i ++ (name, []) :: vs.drop i) (.slice (some ⟨g, 0, none⟩) vs.length vs.length) w) := by
  obtain ⟨i0, hi0, hz0, hz1, hz2⟩ := info_parts infoV
  obtain ⟨cur, hg, _, hcm, hcs, hx, hbg⟩ := row_block h
  have hfl := flat_len vs
  have hf1 := flat_one vs
  have htk := flat_take vs i
  have hdr := flat_drop vs i
  have hrow : (vs.take i ++ (name, ([] : Bs)) :: vs.drop i).flatMap varC = (vs.flatMap varC).take (i * 2) ++ [.string (nm name), .string ⟨#[]⟩] ++ (vs.flatMap varC).drop (i * 2) := by
    rw [List.flatMap_append, List.flatMap_cons, htk, hdr, List.append_assoc]; rfl
  have hlen : (vs.take i ++ (name, ([] : Bs)) :: vs.drop i).length = vs.length + 1 := by rw [List.length_append, List.length_cons, List.length_take, List.length_drop]; omega
  have hgw : g < w.heap.size := fin_at hg
  have hew : eb < w.heap.size := fin_at he
  have hold : (Builtin.firstCells i0.size i (.slice (some ⟨g, 0, none⟩) i vs.length)).run Try.prog w.drew = .ok ((vs.flatMap varC).take (i * 2)).toArray w.drew := by
    rw [hz1]
    exact run_firstCells_some w.drew 2 i ⟨g, 0, none⟩ i vs.length ((vs.flatMap varC).take (i * 2)) (by rw [List.length_take, hfl]; omega) (fun j v hj => by
      rw [Addr.add_lit, Nat.zero_add]
      rw [List.getElem?_take] at hj
      split at hj
      · exact row_cells h _ _ hj
      · cases hj)
  have hik : i + (vs.length + 1 - i) = vs.length + 1 := by omega
  have hkk : (vs.length : Int) + 1 - (i : Int) = ((vs.length + 1 - i : Nat) : Int) := by omega
  have hrz : ∀ ty, (Builtin.append_ #[22, 3] ty #[.slice (some ⟨g, 0, none⟩) i vs.length, .int .i64 ((vs.length : Int) + 1 - (i : Int))]).run Try.prog w =
      .ok (.slice (some ⟨w.heap.size, 0, none⟩) (vs.length + 1) (grownCap w (vs.length + 1) vs.length 26)) (w.drew.alloc (.cells (((vs.flatMap varC).take (i * 2)).toArray ++ Builtin.zeroCells (Value.agg #[.string ByteArray.empty, .string ByteArray.empty]).cells (vs.length + 1 - i) ++ Builtin.zeroCells (Value.agg #[.string ByteArray.empty, .string ByteArray.empty]).cells (grownCap w (vs.length + 1) vs.length 26 - (vs.length + 1))) 26)) := fun ty => by
    have h := Lib.run_append_grow_zeros w 22 3 ty 26 i0 _ .i64 .i64 Try.underlying22 Try.underlying3 hi0 hz0 (some ⟨g, 0, none⟩) i vs.length _ hold (vs.length + 1 - i) (by omega) (by omega) (by omega) (by omega) (by rw [hz2]; omega) (by rw [hz2, hik]; exact growslice_fits (by omega) (by omega))
    rw [hik] at h
    rw [hkk]
    exact h
  have hGm := grownCap_le_maxLen w (vs.length + 1) vs.length 26 (by unfold maxLen; omega)
  have hGg := grownCap_ge w (vs.length + 1) vs.length 26
  generalize grownCap w (vs.length + 1) vs.length 26 = G at *
  obtain ⟨R, hR⟩ : ∃ R : Array Value, R = (((vs.flatMap varC).take (i * 2)).toArray ++ Builtin.zeroCells (Value.agg #[.string ByteArray.empty, .string ByteArray.empty]).cells (vs.length + 1 - i) ++ Builtin.zeroCells (Value.agg #[.string ByteArray.empty, .string ByteArray.empty]).cells (G - (vs.length + 1))) := ⟨_, rfl⟩
  rw [← hR] at hrz
  have hRl : R.toList.length = G * 2 := by
    rw [hR]
    simp only [Builtin.zeroCells, Value.cells, Array.length_toList, Array.size_append, List.size_toArray, List.length_take, hfl, Array.size_map, Array.size_range]
    simp only [List.length_cons, List.length_nil]
    omega
  have hRt : R.toList.take (i * 2) = (vs.flatMap varC).take (i * 2) := by
    rw [hR, Array.toList_append, Array.toList_append, List.append_assoc, List.take_append_of_le_length (by simp only [List.length_take, hfl]; omega)]
    exact List.take_of_length_le (by simp only [List.length_take]; omega)
  obtain ⟨l1, l2, hsh⟩ := grow_list R.toList (vs.flatMap varC) [.string (nm name), .string ⟨#[]⟩] i vs.length G hi hGg hRl hfl hRt rfl
  obtain ⟨cur1, hc1⟩ : ∃ cur1, cur1 = (R.toList.take (i * 2) ++ [Value.string (nm name), .string ⟨#[]⟩] ++ R.toList.drop (i * 2 + [Value.string (nm name), .string ⟨#[]⟩].length)) := ⟨_, rfl⟩
  rw [← hc1] at l1 l2 hsh
  obtain ⟨W1, hW1⟩ : ∃ W1, W1 = w.drew.alloc (.cells R 26) := ⟨_, rfl⟩
  rw [← hW1] at hrz
  have hb1 : W1.heap[w.heap.size]? = some (.cells R 26 (0, 0)) := by rw [hW1]; exact heap_alloc_new w.drew _
  have he1 : W1.heap[eb]? = some (.cells #[.string (nm name), .string ⟨#[]⟩] 26 (0, 0)) := by rw [hW1]; exact (heap_alloc_old w.drew _ hew).trans he
  have hg1 : W1.heap[g]? = some (.cells cur 26 (0, 0)) := by rw [hW1]; exact (heap_alloc_old w.drew _ hgw).trans hg
  obtain ⟨W2, hW2⟩ : ∃ W2, W2 = W1.setRow w.heap.size cur1.toArray := ⟨_, rfl⟩
  have hcp1 : ∀ ty dc, (Builtin.copy_ #[22, 22] ty #[.slice (some ⟨w.heap.size, i * 2, none⟩) (vs.length + 1 - i) dc, .slice (some ⟨eb, 0, none⟩) 1 1]).run Try.prog W1 = .ok (goInt 1) W2 := fun ty dc => by
    rw [hW2, hc1]
    have := run_copy_rowS W1 22 22 ty 26 w.heap.size (i * 2) (vs.length + 1 - i) dc ⟨eb, 0, none⟩ 1 1 R 26 [.string (nm name), .string ⟨#[]⟩] 2 1 Try.underlying22 sizeV hb1 (by simp only [Nat.min_def]; split <;> omega) rfl (cell_two he1) (by rw [← Array.length_toList, hRl]; simp only [List.length_cons, List.length_nil]; omega) (oneV _ _)
    exact this
  have hb2 : W2.heap[w.heap.size]? = some (.cells cur1.toArray 26 (0, 0)) := by rw [hW2]; exact setRow_heap _ _ R _ _ (0, 0) hb1
  have hg2 : W2.heap[g]? = some (.cells cur 26 (0, 0)) := by rw [hW2]; exact (setRow_other _ _ g _ (by omega)).trans hg1
  have hdl : ((vs.flatMap varC).drop (i * 2)).length = (vs.length - i) * 2 := by rw [List.length_drop, hfl]; omega
  have hrow2 : W2.drew.ownsRow base 26 2 (.slice (some ⟨g, 0, none⟩) vs.length vs.length) vs.length (vs.flatMap varC) := row_make (W := W2.drew) hg2 (Nat.le_refl _) hcm hcs hx hbg hfl
  obtain ⟨W3, hW3⟩ : ∃ W3, W3 = W2.drew.setRow w.heap.size (cur1.take ((i + 1) * 2) ++ (vs.flatMap varC).drop (i * 2) ++ cur1.drop ((i + 1) * 2 + ((vs.flatMap varC).drop (i * 2)).length)).toArray := ⟨_, rfl⟩
  have hcp2 : ∀ ty dc sc, (Builtin.copy_ #[22, 22] ty #[.slice (some ⟨w.heap.size, (i + 1) * 2, none⟩) (vs.length - i) dc, .slice (some ⟨g, i * 2, none⟩) (vs.length - i) sc]).run Try.prog W2.drew = .ok (goInt ((vs.length - i : Nat) : Int)) W3 := fun ty dc sc => by
    rw [hW3]
    have := run_copy_rowS W2.drew 22 22 ty 26 w.heap.size ((i + 1) * 2) (vs.length - i) dc ⟨g, i * 2, none⟩ (vs.length - i) sc cur1.toArray 26 ((vs.flatMap varC).drop (i * 2)) 2 (vs.length - i) Try.underlying22 sizeV hb2 (Nat.min_self _) hdl (fun j u hj => by
      rw [Addr.add_lit]
      rw [List.getElem?_drop] at hj
      exact row_cells hrow2 _ _ hj) (by rw [hdl, List.size_toArray, l1]; omega) (fun v hv => hf1 v (List.mem_of_mem_drop hv))
    exact this
  have hFIN : InsPost base (vs.take i ++ (name, []) :: vs.drop i) (.slice (some ⟨g, 0, none⟩) vs.length vs.length) w (.returned (.slice (some ⟨w.heap.size, 0, none⟩) (vs.length + 1) G)) W3 := by
    refine ⟨_, rfl, ?_, ?_, .inr ⟨_, rfl, Nat.le_refl _⟩⟩
    · rw [hlen, hrow]
      have hg3 : W3.heap[w.heap.size]? = some (.cells (cur1.take ((i + 1) * 2) ++ (vs.flatMap varC).drop (i * 2) ++ cur1.drop ((i + 1) * 2 + ((vs.flatMap varC).drop (i * 2)).length)).toArray 26 (0, 0)) := by rw [hW3]; exact setRow_heap _ _ cur1.toArray _ _ (0, 0) hb2
      refine row_make hg3 hGg hGm (by rw [List.size_toArray]; exact l2) hsh hbase ?_
      rw [← hsh, List.length_take, l2]; omega
    · rw [hW3, hW2, hW1]
      refine ⟨rfl, rfl, rfl, by simp [World.setRow], fun k hk _ => ?_⟩
      have hk2 : k ≠ w.heap.size := by omega
      exact (setRow_other _ _ k _ hk2).trans ((setRow_other _ _ k _ hk2).trans (heap_alloc_old w.drew _ hk))
  have HFIN := Lib.hid hFIN
  have hi1 : ¬ ((i : Int) = (vs.length : Int)) := by omega
  clear h hcs hx hfl hf1 htk hdr l1 l2 hsh hdl hrow hlen hc1 hg1 he1 hW1 hW2 hW3 hFIN hg he hb1 hb2 hg2 hrow2 hold hR hRl hRt hi0 hz0 hz1 hz2 hik hkk hew hgw
  generalize InsPost base (vs.take i ++ (name, []) :: vs.drop i) (.slice (some ⟨g, 0, none⟩) vs.length vs.length) w = Q at *
  generalize vs.length = n at *
  have hw1 : IntKind.i64.wrap ((i : Int) + 1) = (i : Int) + 1 := by rw [IntKind.wrap_i64]; omega
  have hb0 : ¬ n = i := by omega
  have hb1 : ¬ G = i + 1 := by omega
  have hb3 : ¬ G = i := by omega
  have htn : ((i : Int) + 1).toNat = i + 1 := by omega
  have hb2 : (0 : Int) ≤ (i : Int) + 1 := by omega
  have hin : i ≤ n := by omega
  have hin2 : (i : Int) ≤ (n : Int) + 1 := by omega
  go_enter Try.func44, Try.ntmps44
  go_wp2_with (first | (at_builtin; refine Lib.wpList_append_run _ rfl _ _ _ _ rfl _ _ rfl rfl _ _ (hrz _) ?_) | (refine wpList_copy_runI (o := ⟨some 45, _, _, _, _, _⟩) _ rfl (.tmp 43) (.tmp 44) 22 22 rfl _ _ rfl rfl (hcp1 _ _) ?_))
  go_region_law (refine step_copy_runI rfl _ _ 22 22 rfl _ _ (by simp [Act.eval, Act.put]) (by simp [Act.eval, Act.put]) (hcp2 _ _ _) ?_)
  go_wp2_with fail
  exact HFIN.out
/-- All of Insert, of one variable. -/
theorem ins_any (base : Nat) (vs : Vs) (name : Bs) (vv : Value) (i eb : Nat) (w : World) (h : w.ownsRow base 26 2 vv vs.length (vs.flatMap varC)) (hbase : base ≤ w.heap.size) (hl : vs.length ≤ 1000) (hi : i ≤ vs.length) (he : w.heap[eb]? = some (.cells #[.string (nm name), .string ⟨#[]⟩] 26 (0, 0))) (hne : vv.ownBlock ≠ some eb) :
    Calls Try.prog 44 #[vv, .int .i64 (i : Int), .slice (some ⟨eb, 0, none⟩) 1 1] w (InsPost base (vs.take i ++ (name, []) :: vs.drop i) vv w) := by
  by_cases h1 : i = vs.length
  · subst h1
    rw [List.take_length, List.drop_length]
    exact ins_end base vs name vv eb w h hbase hl he
  · rcases row_two h with ⟨rfl, h0⟩ | ⟨g, c, rfl, hc, _, _⟩
    · omega
    · by_cases h2 : c = vs.length
      · subst h2
        exact ins_grow base vs name g i eb w h hbase hl (by omega) he
      · exact ins_room base vs name g c i eb w h hbase hl (by omega) (by omega) he (fun e => hne (by rw [e]; rfl))
end Go.Proofs.Ytdegkfnlafgheaa.Vr
