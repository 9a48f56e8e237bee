/- DERIVED. The walk over slices.Delete of one variable. -/
import Derived.Test.YtdegkfnlafgheaaVrSet2
import Derived.Deep.RegionLaw
import Derived.Lib.SliceRun
namespace Go.Proofs.Ytdegkfnlafgheaa.Vr
open Go.RowKit
open PathM WdM VrM
open Go.Proofs.Ytdegkfnlafgheaa.Wd
set_option linter.unusedVariables false
def spl (L : List Value) (o : Nat) (vs : List Value) : List Value := L.take o ++ vs ++ L.drop (o + vs.length)
theorem spl_nil (L : List Value) (o : Nat) : spl L o [] = L := by unfold spl; simp
theorem spl_cons (L : List Value) (o : Nat) (v : Value) (r : List Value) (h : o < L.length) : spl (L.set o v) (o + 1) r = spl L o (v :: r) := by
  unfold spl
  have e1 : (L.set o v).take (o + 1) = L.take o ++ [v] := by
    have e0 : (L.set o v).take o = L.take o := by rw [List.take_set]; exact List.set_eq_of_length_le (by rw [List.length_take]; omega)
    rw [List.take_add_one, e0]
    simp [h]
  have e2 : (L.set o v).drop (o + 1 + r.length) = L.drop (o + (v :: r).length) := by
    rw [List.drop_set_of_lt (by omega)]
    congr 1
    simp; omega
  rw [e1, e2]
  simp
theorem spl_len (L : List Value) (o : Nat) (vs : List Value) (h : o + vs.length ≤ L.length) : (spl L o vs).length = L.length := by
  unfold spl
  simp only [List.length_append, List.length_take, List.length_drop]
  omega
theorem spl_take (L : List Value) (o : Nat) (vs : List Value) (h : o ≤ L.length) (k : Nat) (hk : k = o + vs.length) : (spl L o vs).take k = L.take o ++ vs := by
  subst hk
  unfold spl
  have : (L.take o ++ vs).length = o + vs.length := by simp [Nat.min_eq_left h]
  rw [← this, List.take_left]
theorem spl_take0 (L : List Value) (o : Nat) (vs : List Value) (h : o ≤ L.length) : (spl L o vs).take o = L.take o := by
  unfold spl
  rw [List.append_assoc, List.take_append_of_le_length (by simp [Nat.min_eq_left h]), List.take_take, Nat.min_self]
theorem blk_setCells {g : Nat} {t : TypeId} : ∀ (vs : List Value) (o : Nat) (w : World) (cur : Array Value), w.heap[g]? = some (.cells cur t (0, 0)) → o + vs.length ≤ cur.size → (w.setCells g o vs).heap[g]? = some (.cells (spl cur.toList o vs).toArray t (0, 0))
  | [], o, w, cur, h, _ => by rw [spl_nil]; exact h
  | v :: r, o, w, cur, h, hl => by
    have hl2 : o < cur.size := by simp at hl; omega
    have := blk_setCells r (o + 1) (w.setCell ⟨g, o, none⟩ v) (cur.setIfInBounds o v) (set_blk h v) (by simp at hl ⊢; omega)
    rw [Array.toList_setIfInBounds, spl_cons _ _ _ _ (by simpa using hl2)] at this
    exact this
theorem kept_setCells {g : Nat} : ∀ (vs : List Value) (o : Nat) (w : World), Kept (· = g) w (w.setCells g o vs)
  | [], o, w => Kept.refl _ _
  | v :: r, o, w => (Kept.setCell (S := (· = g)) ⟨g, o, none⟩ v rfl).trans (kept_setCells r (o + 1) _)
theorem zeroV2 (w : World) : (zeroValue 26).run Try.prog w = .ok (.agg #[.string ByteArray.empty, .string ByteArray.empty]) w := by kernel_rfl
theorem run_clear_two (w : World) (ty : TypeId) (b o c : Nat) (hc : ∀ j, j < 2 → (w.cell? ⟨b, o + j, none⟩).isSome = true) (hf : ∀ j, j < 2 → w.frozen? ⟨b, o + j, none⟩ = false) :
    (Builtin.clear_ #[22] ty #[.slice (some ⟨b, o, none⟩) 1 c]).run Try.prog w = .ok (.tuple #[]) (w.setCells b o [.string ⟨#[]⟩, .string ⟨#[]⟩]) := by
  have hzc : (Builtin.zeroCells (Value.agg #[.string ⟨#[]⟩, .string ⟨#[]⟩]).cells 1).toList = [.string ⟨#[]⟩, .string ⟨#[]⟩] := by kernel_rfl
  have hst := run_storeCells_cells (P := Try.prog) b o [.string ⟨#[]⟩, .string ⟨#[]⟩] 0 w (by simpa using hc) (by simpa using hf) (by intro v hv'; simp at hv'; rcases hv' with rfl | rfl <;> rfl)
  simp only [Nat.add_zero] at hst
  simp [Builtin.clear_, run_underlying Try.underlying22, hzc, hst]
/-- How Delete ends. -/
def DelPost (base : Nat) (vs' : Vs) (g n c : Nat) (w : World) (e : Ending) (w' : World) : Prop := e = .returned (.slice (some ⟨g, 0, none⟩) n c) ∧ w'.ownsRow base 26 2 (.slice (some ⟨g, 0, none⟩) n c) n (vs'.flatMap varC) ∧ Kept (· = g) w w'
set_option maxRecDepth 100000 in
set_option maxHeartbeats 3200000 in
theorem del_any (base : Nat) (vs : Vs) (g c i : Nat) (w : World) (h : w.ownsRow base 26 2 (.slice (some ⟨g, 0, none⟩) vs.length c) vs.length (vs.flatMap varC)) (hl : vs.length ≤ 1000) (hi : i < vs.length) :
    Calls Try.prog 45 #[.slice (some ⟨g, 0, none⟩) vs.length c, .int .i64 (i : Int), .int .i64 ((i : Int) + 1)] w (DelPost base (vs.take i ++ vs.drop (i + 1)) g (vs.length - 1) c w) := by
  obtain ⟨i0, hi0, hz0, hz1, hz2⟩ := info_parts infoV
  obtain ⟨cur, hg, hnc, hcm, hcs, hx, hbg⟩ := row_block h
  have hfl := flat_len vs
  have hf1 := flat_one vs
  have hcl : cur.toList.length = c * 2 := by simpa using hcs
  obtain ⟨news, hnews⟩ : ∃ news, news = (vs.flatMap varC).drop ((i + 1) * 2) := ⟨_, rfl⟩
  have hnl : news.length = (vs.length - (i + 1)) * 2 := by rw [hnews, List.length_drop, hfl]; omega
  obtain ⟨W1, hW1⟩ : ∃ W1, W1 = w.drew.setCells g (i * 2) news := ⟨_, rfl⟩
  have hg1 : W1.heap[g]? = some (.cells (spl cur.toList (i * 2) news).toArray 26 (0, 0)) := by rw [hW1]; exact blk_setCells news (i * 2) w.drew cur hg (by omega)
  have hl1 : (spl cur.toList (i * 2) news).length = c * 2 := by rw [spl_len _ _ _ (by omega), hcl]
  obtain ⟨W2, hW2⟩ : ∃ W2, W2 = W1.setCells g ((vs.length - 1) * 2) [.string ⟨#[]⟩, .string ⟨#[]⟩] := ⟨_, rfl⟩
  have hg2 : W2.heap[g]? = some (.cells (spl (spl cur.toList (i * 2) news) ((vs.length - 1) * 2) [.string ⟨#[]⟩, .string ⟨#[]⟩]).toArray 26 (0, 0)) := by
    rw [hW2]
    have := blk_setCells [.string ⟨#[]⟩, .string ⟨#[]⟩] ((vs.length - 1) * 2) W1 _ hg1 (by simp [hl1]; omega)
    simpa using this
  have hl2 : (spl (spl cur.toList (i * 2) news) ((vs.length - 1) * 2) [.string ⟨#[]⟩, .string ⟨#[]⟩]).length = c * 2 := by rw [spl_len _ _ _ (by simp [hl1]; omega), hl1]
  have htk : (spl (spl cur.toList (i * 2) news) ((vs.length - 1) * 2) [.string ⟨#[]⟩, .string ⟨#[]⟩]).take ((vs.length - 1) * 2) = (vs.take i ++ vs.drop (i + 1)).flatMap varC := by
    rw [spl_take0 _ _ _ (by omega), spl_take _ _ _ (by omega) _ (by omega), List.flatMap_append, flat_take, flat_drop, hnews, ← hx, List.take_take]
    congr 2
    omega
  have hFIN : DelPost base (vs.take i ++ vs.drop (i + 1)) g (vs.length - 1) c w (.returned (.slice (some ⟨g, 0, none⟩) (vs.length - 1) c)) W2 := by
    refine ⟨rfl, row_make hg2 (by omega) hcm (by rw [List.size_toArray]; exact hl2) htk hbg ?_, ?_⟩
    · rw [flat_len, List.length_append, List.length_take, List.length_drop]; omega
    · rw [hW2, hW1]
      exact (Kept.drewN (S := (· = g)) 1).trans ((kept_setCells _ _ _).trans (kept_setCells _ _ _))
  have HFIN := Lib.hid hFIN
  have em : i + (vs.length - (i + 1)) = vs.length - 1 := by omega
  have em2 : vs.length - (vs.length - 1) = 1 := by omega
  have hclr : ∀ ty cc, (Builtin.clear_ #[22] ty #[.slice (some ⟨g, (i + (vs.length - (i + 1))) * 2, none⟩) (vs.length - (i + (vs.length - (i + 1)))) cc]).run Try.prog W1 = .ok (.tuple #[]) W2 := fun ty cc => by
    rw [hW2, em, em2]
    refine run_clear_two W1 ty g ((vs.length - 1) * 2) cc (fun j hj => ?_) (fun j hj => froz_blk hg1 _)
    rw [cell_blk hg1 _]
    rw [List.getElem?_toArray, List.getElem?_eq_getElem (by omega)]
    rfl
  have s1 : Hid (news.length = (vs.length - (i + 1)) * 2) := Lib.hid hnl
  have s2 : Hid (∀ u ∈ news, u.oneCell' = true) := Lib.hid (fun u hu => by rw [hnews] at hu; exact hf1 u (List.mem_of_mem_drop hu))
  have s3 : Hid (∀ t, t < news.length → (w.drew.cell? ⟨g, 0 + i * 2 + t, none⟩).isSome = true ∧ w.drew.frozen? ⟨g, 0 + i * 2 + t, none⟩ = false) := Lib.hid (fun t ht => by
    refine ⟨?_, froz_blk (W := w.drew) hg _⟩
    have := cell_blk (W := w.drew) hg (0 + i * 2 + t)
    rw [this, Array.getElem?_eq_getElem (by omega)]
    rfl)
  have hsrc0 : ∀ t u, news[t]? = some u → w.drew.cell? ⟨g, (i + 1) * 2 + t, none⟩ = some u := by
    intro t u hu
    rw [hnews, List.getElem?_drop] at hu
    exact row_cells h _ _ hu
  have HW : Hid (w.drew.setCells g (0 + i * 2) news = W1) := Lib.hid (by rw [hW1, Nat.zero_add])
  have HC := Lib.hid hclr
  have hn1 : (vs.length : Int) ≤ 1000 := by omega
  have hin : (i : Int) + 1 ≤ (vs.length : Int) := by omega
  have hncI : (vs.length : Int) ≤ (c : Int) := by omega
  clear em2 hW1 hW2 hFIN hg1 hg2 hl1 hl2 htk hg hx hcl hcs hf1 hfl hclr h hz0 hz2
  have hz1b : (i : Int) ≤ (i : Int) + 1 := by omega
  have hicb : i ≤ c := by omega
  have hz0i : (0 : Int) ≤ (i : Int) + 1 := by omega
  have hicb2 : i + 1 ≤ c := by omega
  have htn : ((i : Int) + 1).toNat = i + 1 := by omega
  have hw1 : IntKind.i64.wrap ((i : Int) + 1) = (i : Int) + 1 := by rw [IntKind.wrap_i64]; omega
  by_cases hci : c = i + 1
  · have hsrc : Hid (∀ t u, news[t]? = some u → w.drew.cell? ((⟨g, 0, none⟩ : Addr).add t) = some u) := Lib.hid (fun t u hu => by
      have : news.length = 0 := by rw [hnl]; omega
      rw [List.length_eq_zero_iff.1 this] at hu
      simp at hu)
    have hne : vs.length = i + 1 := by omega
    clear hsrc0 hnl hnews
    subst hci
    generalize vs.length = n at *
    subst hne
    rw [Nat.sub_self] at s1
    simp only [Nat.sub_self, Nat.add_zero] at HC
    have HC2 := fun ty cc => HC.out ty cc
    rw [show i + 1 - i = 1 by omega] at HC2
    go_enter Try.func45, Try.ntmps45
    go_wp2_with fail
    go_region_law (refine step_append_room rfl (.tmp 22) (.tmp 25) 22 rfl 26 i0 2 Try.underlying22 hi0 hz1 g 0 i (i + 1) (by simp [Act.eval, Act.put]) ⟨g, 0, none⟩ 0 0 news (by simp [Act.eval, Act.put]) s1.out hsrc.out s2.out (by omega) s3.out ?_; rw [HW.out])
    go_wp2_with fail
    go_ret
    exact HFIN.out
  · have hsrc : Hid (∀ t u, news[t]? = some u → w.drew.cell? ((⟨g, (i + 1) * 2, none⟩ : Addr).add t) = some u) := Lib.hid (fun t u hu => by rw [Addr.add_lit]; exact hsrc0 t u hu)
    clear hsrc0 hnl hnews
    have hcl2 : (i : Int) + ((vs.length - (i + 1) : Nat) : Int) ≤ (vs.length : Int) := by omega
    have hcl3 : ¬ c = i + (vs.length - (i + 1)) := by omega
    have hcl4 : i + (vs.length - (i + 1)) ≤ vs.length := by omega
    have HC2 := fun ty cc => HC.out ty cc
    have HEM := Lib.hid em
    clear em
    generalize vs.length = n at *
    go_enter Try.func45, Try.ntmps45
    go_wp2_with fail
    go_region_law (refine step_append_room rfl (.tmp 22) (.tmp 25) 22 rfl 26 i0 2 Try.underlying22 hi0 hz1 g 0 i c (by simp [Act.eval, Act.put]) ⟨g, (i + 1) * 2, none⟩ (n - (i + 1)) (c - (i + 1)) news (by simp [Act.eval, Act.put]) s1.out hsrc.out s2.out (by omega) s3.out ?_; rw [HW.out])
    go_wp2_with fail
    go_ret
    rw [HEM.out]
    exact HFIN.out
end Go.Proofs.Ytdegkfnlafgheaa.Vr
