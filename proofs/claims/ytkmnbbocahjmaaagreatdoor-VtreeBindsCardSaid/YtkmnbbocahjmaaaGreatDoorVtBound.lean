/- DERIVED. The walk of Bound. -/
import Derived.Test.YtkmnbbocahjmaaaGreatDoorVtEnts
namespace Go.Proofs.YtkmnbbocahjmaaaGreatDoor
open Go.RowKit Go.Sort Go.Lib
open PathM TreeM VtM
set_option linter.unusedVariables false

theorem EntsIn.take {w : World} {B c : Nat} {A : Option Addr} {es : List Ent} (h : EntsIn w B (.slice A es.length c) es) (k : Nat) (hk : k ≤ es.length) : EntsIn w B (.slice A k c) (es.take k) := by
  obtain ⟨A', c', h1, h2, h3, h4, h5⟩ := h
  injection h1 with a1 a2 a3
  subst a1; subst a3
  have hl : (es.take k).length = k := by simp; omega
  refine ⟨_, _, by rw [hl], by omega, by omega, fun x hx => h4 x (List.mem_of_mem_take hx), fun hne => ?_⟩
  have hne' : es ≠ [] := by rintro rfl; simp at hne
  obtain ⟨b', off', rfl, h7, h8⟩ := h5 hne'
  refine ⟨b', off', rfl, h7, fun i hi => ?_⟩
  have hi' : i < es.length := by omega
  have e3 : entAt (es.take k) i = entAt es i := by simp [entAt, List.getD, List.getElem?_take]; rw [if_pos (by omega)]
  rw [e3]; exact h8 i hi'
theorem EntsIn.drop {w : World} {B b off c : Nat} {es : List Ent} (h : EntsIn w B (.slice (some ⟨b, off, none⟩) es.length c) es) (k : Nat) (hk : k ≤ es.length) : EntsIn w B (.slice (some ⟨b, off + k * 2, none⟩) (es.length - k) (c - k)) (es.drop k) := by
  obtain ⟨A, c', h1, h2, h3, h4, h5⟩ := h
  injection h1 with a1 a2 a3
  subst a3
  have hl : (es.drop k).length = es.length - k := by simp
  refine ⟨_, _, by rw [hl], by omega, by omega, fun x hx => h4 x (List.mem_of_mem_drop hx), fun hne => ?_⟩
  have hne' : es ≠ [] := by rintro rfl; simp at hne
  obtain ⟨b', off', e, h7, h8⟩ := h5 hne'
  rw [← a1] at e; injection e with e; injection e with e1 e2
  refine ⟨b, off + k * 2, rfl, by omega, fun i hi => ?_⟩
  have hi' : k + i < es.length := by omega
  have e3 : entAt (es.drop k) i = entAt es (k + i) := by simp [entAt, List.getD, List.getElem?_drop]
  have := h8 (k + i) hi'
  rw [e3, e1, e2, show off' + k * 2 + i * 2 = off' + (k + i) * 2 by omega]; exact this
theorem EntsIn.dropAll {w : World} {B : Nat} {A : Option Addr} {es : List Ent} (k c : Nat) (hk : es.length ≤ k) : EntsIn w B (.slice A (es.length - k) c) (es.drop k) := by
  have e : es.drop k = [] := by simp; omega
  rw [e, show es.length - k = 0 by omega]
  exact ⟨A, c, rfl, by simp, by simp, by simp, fun h => absurd rfl h⟩
theorem ents_one (w : World) (key : ByteArray) (id : Int) (hk : key.data.toList.length ≤ 140737488351232) (hi : i64 id) : EntsIn (w.alloc (.cells #[.string key, .int .i64 id] 75)) (w.heap.size + 1) (.slice (some ⟨w.heap.size, 0, none⟩) 1 1) [⟨key.data.toList, id⟩] := by
  refine ⟨_, 1, rfl, by simp, by simp, fun x hx => ?_, fun _ => ⟨w.heap.size, 0, rfl, by omega, fun k hk => ?_⟩⟩
  · simp at hx; subst hx; exact ⟨hk, hi⟩
  · have : k = 0 := by simp at hk; omega
    subst this
    exact ⟨(cell_blk (heap_alloc_new w _) 0).trans (by simp [entAt]; rfl), (cell_blk (heap_alloc_new w _) 1).trans (by simp [entAt])⟩

set_option maxHeartbeats 1000000 in
theorem bound1_any (i n c b off bt bx : Nat) (key : ByteArray) (k2 : Bs) (W : World) (hi : i < n) (hn : n * 24 ≤ 140737488351232)
    (ht : W.cell? ⟨bt, 0, none⟩ = some (.slice (some ⟨b, off, none⟩) n c)) (hx : W.cell? ⟨bx, 0, none⟩ = some (.string key)) (hc : W.cell? ⟨b, off + i * 2, none⟩ = some (.string (nm k2))) :
    Calls Tryz.prog 72 #[.int .i64 i, .pointer (some ⟨bt, 0, none⟩), .pointer (some ⟨bx, 0, none⟩)] W fun e w' => e = .returned (.bool (!decide (k2 < key.data.toList))) ∧ ∃ q, w' = W.drewN q := by
  have hiz : (i : Int) < (n : Int) := by omega
  go_enter Tryz.func72, Tryz.ntmps72
  go_wp2
  go_quiet (fail)
  go_wp2
  go_ret
  exact ⟨by show Ending.returned (.bool !Op.bytesLess (nm k2).toList key.toList) = _; rw [bytesLess_eq, listD, listD]; rfl, _, rfl⟩

/-- What Bound answers. -/
def EntsPost (es : List Ent) (w : World) (e : Ending) (w' : World) : Prop := ∃ v', e = .returned v' ∧ EntsIn w' w'.heap.size v' es ∧ Below w.heap.size w w'
theorem row_ents {W : World} {base : Nat} {v : Value} {es : List Ent} (h : W.ownsRow base 75 2 v es.length (es.flatMap entC)) (d : es.length ≤ 1000000000) (d3 : ∀ x ∈ es, x.key.length ≤ 140737488351232 ∧ -9223372036854775808 ≤ x.to ∧ x.to ≤ 9223372036854775807) : EntsIn W W.heap.size v es := ents_of_row h (by omega) d3
theorem boundE_len (es : List Ent) (key : Bs) (id : Int) : (boundE es key id).length ≤ es.length + 1 := by
  unfold boundE
  have := klow_le es key
  rw [List.length_append, List.length_append, List.length_take, List.length_drop]
  split <;> split <;> simp <;> omega
theorem boundE_mem {es : List Ent} {key : Bs} {id : Int} {x : Ent} (h : x ∈ boundE es key id) : x = ⟨key, id⟩ ∨ x ∈ es := by
  unfold boundE at h
  rcases List.mem_append.1 h with h | h
  · rcases List.mem_append.1 h with h | h
    · exact .inr (List.mem_of_mem_take h)
    · split at h
      · cases h
      · simp at h; exact .inl h
  · exact .inr (List.mem_of_mem_drop h)
theorem search_zero (g : Nat) (cb : Array Value) (W0 : World) (eg : ∀ args w, (callFunc g args).run Tryz.prog w = .ok (.enter g args) w) : Calls Tryz.prog 71 #[.int .i64 (0 : Int), .func (.func g) #[] cb] W0 fun e w' => e = .returned (.int .i64 0) ∧ ∃ q, w' = W0.drewN q :=
  search_any g cb 0 (fun i => false) W0 eg (by omega) (fun m i hi => absurd hi (Nat.not_lt_zero _)) (fun a b _ h => absurd h (Nat.not_lt_zero _))

theorem own_base {W : World} {base : Nat} {e : TypeId} {size : Nat} {v : Value} {k : Nat} {xs : List Value} (h : W.ownsRow base e size v k xs) : ∀ j, v.ownBlock = some j → base ≤ j := by
  rcases h.2 with ⟨rfl, rfl⟩ | ⟨g, cap, cur, rfl, hg, _⟩
  · intro j hj; simp [Value.ownBlock] at hj
  · intro j hj; simp [Value.ownBlock] at hj; omega
set_option maxRecDepth 100000 in
set_option maxHeartbeats 4000000 in
theorem bound_any (ev : Value) (es : List Ent) (key : ByteArray) (id : Int) (w : World) (hE : EntsIn w w.heap.size ev es) (hs : Sorted es) (hk : key.data.toList.length ≤ 140737488351232) (hid : i64 id) (hlen : es.length ≤ 100000000) :
    Calls Tryz.prog 33 #[ev, .string key, .int .i64 id] w (EntsPost (boundE es key.data.toList id) w) := by
  have hpost : ∀ W v, W.ownsRow w.heap.size 75 2 v (boundE es key.data.toList id).length ((boundE es key.data.toList id).flatMap entC) → EntsIn W W.heap.size v (boundE es key.data.toList id) := fun W v h =>
    row_ents h (by have := boundE_len es key.data.toList id; omega) fun x hx => by
      rcases boundE_mem hx with rfl | hx
      · exact ⟨hk, hid⟩
      · exact hE.bounds.2 x hx
  unfold EntsPost
  generalize hes : boundE es key.data.toList id = es' at hpost ⊢
  have HP := Lib.hid hpost
  clear hpost
  unfold boundE at hes
  have hle := klow_le es key.data.toList
  have hlow : ((List.range es.length).countP fun i => !(!decide ((entAt es i).key < key.data.toList))) = klow es key.data.toList := rfl
  have hE0 := hE
  obtain ⟨A, c, rfl, hcap, hlen2, _, hne⟩ := hE0
  have hmono : ∀ a b, a ≤ b → b < es.length → (!decide ((entAt es a).key < key.data.toList)) = true → (!decide ((entAt es b).key < key.data.toList)) = true := by
    intro a b hab hbl h
    have := klow_mono hs key.data.toList a b hab hbl
    cases e : (!decide ((entAt es b).key < key.data.toList)) with
    | true => rfl
    | false => rw [e] at this; have h2 := this rfl; rw [h] at h2; cases h2
  have hS : ∀ W0 : World, w.heap.size ≤ W0.heap.size → Below w.heap.size w W0 → ∀ bt bx, W0.cell? ⟨bt, 0, none⟩ = some (.slice A es.length c) → W0.cell? ⟨bx, 0, none⟩ = some (.string key) →
      Calls Tryz.prog 71 #[.int .i64 es.length, .func (.func 72) #[] #[.pointer (some ⟨bt, 0, none⟩), .pointer (some ⟨bx, 0, none⟩)]] W0 fun e w' => e = .returned (.int .i64 (klow es key.data.toList)) ∧ ∃ q, w' = W0.drewN q := by
    intro W0 _ hb0 bt bx c1 c2
    by_cases he : es = []
    · subst he
      exact search_zero 72 _ W0 (enters_of Tryz.func72 (by kernel_rfl) rfl)
    obtain ⟨b, off, rfl, hb, hcells⟩ := hne he
    rw [← hlow]
    refine search_any 72 _ es.length (fun i => !decide ((entAt es i).key < key.data.toList)) W0 (enters_of Tryz.func72 (by kernel_rfl) rfl) (by omega) ?_ hmono
    intro m i hi
    refine (bound1_any i es.length c b off bt bx key (entAt es i).key (W0.drewN m) hi hlen2 (by simpa using c1) (by simpa using c2) ?_)
    have := (hcells i hi).1
    rw [← hb0.cell (p := ⟨b, off + i * 2, none⟩) (show b < w.heap.size by omega)] at this
    simpa using this
  generalize klow es key.data.toList = k at *
  have HTK : Hid ((es.take k).length = k) := Lib.hid (by simp; omega)
  have HT : Hid (∀ W, Below w.heap.size w W → EntsIn W W.heap.size (.slice A k c) (es.take k)) := Lib.hid fun W h => ((hE.take k hle).below h).more h.size
  have HS := Lib.hid hS; have HLN := Lib.hid hlen; have HK := Lib.hid hk; have HI := Lib.hid hid
  have HL1 : Hid (((es.take k).length + [(⟨key.data.toList, id⟩ : Ent)].length) * 24 ≤ 140737488355328) := Lib.hid (by rw [HTK.out]; simp; omega)
  have HTK1 : Hid ((es.take k ++ [(⟨key.data.toList, id⟩ : Ent)]).length = k + 1) := Lib.hid (by rw [List.length_append, HTK.out]; rfl)
  clear hS hmono hlow hs hlen2
  by_cases hkl : k < es.length
  · have hne' : es ≠ [] := by rintro rfl; simp at hkl
    obtain ⟨b, off, rfl, hb, hcells⟩ := hne hne'
    have hc0 := (hcells k hkl).1
    have hki : (k : Int) < (es.length : Int) := by omega
    by_cases hkey : (entAt es k).key = key.data.toList
    · rw [if_pos (show k < es.length ∧ (entAt es k).key = key.data.toList from ⟨hkl, hkey⟩)] at hes
      have hq : ((nm (entAt es k).key).toList == key.toList) = true := by rw [listD, listD]; simp [hkey]; rfl
      generalize (entAt es k).key = keyk at *
      obtain ⟨rst, hrst⟩ : ∃ rst, es.drop (k + 1) = rst := ⟨_, rfl⟩
      rw [hrst] at hes
      by_cases hcj : c = k + 1
      · have HDD : Hid (∀ W, Below w.heap.size w W → ∀ A' c', EntsIn W W.heap.size (.slice A' 0 c') rst) := Lib.hid fun W h A' c' => hrst ▸ (show es.length - (k + 1) = 0 by omega) ▸ EntsIn.dropAll (k + 1) _ (by omega)
        clear hcells hkey hne hne' hE
        try subst hcj
        have HL2 : Hid (((es.take k).length + rst.length) * 24 ≤ 140737488355328) := Lib.hid (by rw [HTK.out, ← hrst, List.length_drop]; omega)
        have HL3b : Hid (((es.take k ++ [(⟨key.data.toList, id⟩ : Ent)]).length + rst.length) * 24 ≤ 140737488355328) := Lib.hid (by rw [HTK1.out, ← hrst, List.length_drop]; omega)
        obtain ⟨n2, hn2⟩ : ∃ n2, (es.take k ++ rst).length = n2 := ⟨_, rfl⟩
        obtain ⟨n3, hn3⟩ : ∃ n3, (es.take k ++ [(⟨key.data.toList, id⟩ : Ent)] ++ rst).length = n3 := ⟨_, rfl⟩
        have HN2 := Lib.hid hn2; have HN3 := Lib.hid hn3
        clear hn2 hn3 hrst
        by_cases hi0 : id = 0
        · have hd : (id != 0) = false := by simp [hi0]
          rw [if_pos hi0, List.append_nil] at hes
          have HES := Lib.hid hes
          clear hes
          go_enter Tryz.func33, Tryz.ntmps33
          go_wp2_with (go_at_call 71; refine (HS.out _ (by simp; omega) (((Below.refl _ _).alloc (Nat.le_refl _) _).alloc (Nat.le_of_lt (alloc_lt _ _)) _) _ _ (by simp) (by simp)).mono ?_; rintro e w' ⟨rfl, q, rfl⟩)
          go_quiet (fail)
          go_wp2_with (first | (go_at_call 57; refine (clone_any _ (es.take k) _ (HT.out _ (below_drewN' (((Below.refl _ _).alloc (Nat.le_refl _) _).alloc (Nat.le_of_lt (alloc_lt _ _)) _) _))).mono ?_; rintro e w3 ⟨v3, rfl, hown3, hb3⟩; have z0 := hb3.cell (p := ⟨w.heap.size, 0, none⟩) (by simp; omega); have z1 := hb3.cell (p := ⟨w.heap.size + 1, 0, none⟩) (by simp); simp at z0 z1; have hl3 : w.heap.size + 2 ≤ w3.heap.size := Nat.le_trans (by simp) hb3.size; have HL3 := Lib.hid hl3; have HB3 : Hid (Below w.heap.size w w3) := Below.trans (below_drewN' (((Below.refl _ _).alloc (Nat.le_refl _) _).alloc (Nat.le_of_lt (alloc_lt _ _)) _) _) (hb3.mono (by simp; omega)); obtain ⟨A3, c3, hv3⟩ := ownsRow_len3 hown3; rw [HTK.out] at hv3; subst hv3; have HO3 := Lib.hid (ownsRow_base (b' := w.heap.size + 2) hown3 (by simp)); clear hb3 hown3 hl3) | (at_builtin; refine wpList_app_ents rfl _ _ rfl (w.heap.size + 2) _ (es.take k) rst rfl HO3.out HL3.out _ w3.heap.size rfl (HDD.out w3 HB3.out) HL2.out ?_; intro v5 w5 hown5 hg5; have HB5 : Hid (Below w.heap.size w w5) := HB3.out.grown hg5 HB3.out.size (fun j hj => Nat.le_trans (by omega) (own_base HO3.out j hj)); have HO5 := Lib.hid (ownsRow_base (b' := w.heap.size) hown5 (by omega)); obtain ⟨A5, c5, hv5⟩ := ownsRow_len3 hown5; rw [HN2.out] at hv5; subst hv5; clear hown5 hg5) | (at_builtin; refine wpList_app_ents rfl _ _ rfl (w.heap.size + 2) _ (es.take k) rst rfl HO3.out HL3.out _ w3.heap.size rfl (HDD.out w3 HB3.out _ _) HL2.out ?_; intro v5 w5 hown5 hg5; have HB5 : Hid (Below w.heap.size w w5) := HB3.out.grown hg5 HB3.out.size (fun j hj => Nat.le_trans (by omega) (own_base HO3.out j hj)); have HO5 := Lib.hid (ownsRow_base (b' := w.heap.size) hown5 (by omega)); obtain ⟨A5, c5, hv5⟩ := ownsRow_len3 hown5; rw [HN2.out] at hv5; subst hv5; clear hown5 hg5))
          all_goals (go_ret; exact ⟨_, rfl, HP.out _ _ (by rw [← HES.out]; exact HO5.out), HB5.out⟩)
        · have hd : (id != 0) = true := by simp [hi0]
          rw [if_neg hi0] at hes
          have HES := Lib.hid hes
          clear hes
          go_enter Tryz.func33, Tryz.ntmps33
          go_wp2_with (go_at_call 71; refine (HS.out _ (by simp; omega) (((Below.refl _ _).alloc (Nat.le_refl _) _).alloc (Nat.le_of_lt (alloc_lt _ _)) _) _ _ (by simp) (by simp)).mono ?_; rintro e w' ⟨rfl, q, rfl⟩)
          go_quiet (fail)
          go_wp2_with (first | (go_at_call 57; refine (clone_any _ (es.take k) _ (HT.out _ (below_drewN' (((Below.refl _ _).alloc (Nat.le_refl _) _).alloc (Nat.le_of_lt (alloc_lt _ _)) _) _))).mono ?_; rintro e w3 ⟨v3, rfl, hown3, hb3⟩; have z0 := hb3.cell (p := ⟨w.heap.size, 0, none⟩) (by simp; omega); have z1 := hb3.cell (p := ⟨w.heap.size + 1, 0, none⟩) (by simp); simp at z0 z1; have hl3 : w.heap.size + 2 ≤ w3.heap.size := Nat.le_trans (by simp) hb3.size; have HL3 := Lib.hid hl3; have HB3 : Hid (Below w.heap.size w w3) := Below.trans (below_drewN' (((Below.refl _ _).alloc (Nat.le_refl _) _).alloc (Nat.le_of_lt (alloc_lt _ _)) _) _) (hb3.mono (by simp; omega)); obtain ⟨A3, c3, hv3⟩ := ownsRow_len3 hown3; rw [HTK.out] at hv3; subst hv3; have HO3 := Lib.hid (ownsRow_base (b' := w.heap.size + 2) hown3 (by simp)); clear hb3 hown3 hl3) | (at_builtin; refine wpList_app_ents rfl _ _ rfl (w.heap.size + 2) _ (es.take k) [Ent.mk key.data.toList id] rfl (HO3.out.alloc _) (Nat.le_trans HL3.out (Nat.le_of_lt (alloc_lt _ _))) _ (w3.heap.size + 1) rfl (ents_one w3 key id HK.out HI.out) HL1.out ?_; intro v4 w4 hown4 hg4; have hb4 := (Below.refl (w.heap.size + 2) (w3.alloc (.cells #[.string key, .int .i64 id] 75))).grown hg4 (Nat.le_trans HL3.out (Nat.le_of_lt (alloc_lt _ _))) (own_base (HO3.out)); have y0 := (hb4.cell (p := ⟨w.heap.size, 0, none⟩) (by simp)).trans ((World.cell?_alloc_lt w3 _ _ (show w.heap.size < w3.heap.size by have := HL3.out; omega)).trans z0); obtain ⟨A4, c4, hv4⟩ := ownsRow_len3 hown4; rw [HTK1.out] at hv4; subst hv4; have HB4 : Hid (Below w.heap.size w w4) := (HB3.out.alloc (HB3.out.size) _).trans (hb4.mono (by omega)); have HO4 := Lib.hid hown4; have HL4 : Hid (w.heap.size + 2 ≤ w4.heap.size) := Nat.le_trans (Nat.le_trans HL3.out (Nat.le_of_lt (alloc_lt _ _))) hb4.size; clear hown4 hg4 hb4) | (at_builtin; refine wpList_app_ents rfl _ _ rfl (w.heap.size + 2) _ (es.take k ++ [Ent.mk key.data.toList id]) rst rfl HO4.out HL4.out _ w4.heap.size rfl (HDD.out w4 HB4.out) HL3b.out ?_; intro v5 w5 hown5 hg5; have HB5 : Hid (Below w.heap.size w w5) := HB4.out.grown hg5 HB4.out.size (fun j hj => Nat.le_trans (by omega) (own_base HO4.out j hj)); have HO5 := Lib.hid (ownsRow_base (b' := w.heap.size) hown5 (by omega)); obtain ⟨A5, c5, hv5⟩ := ownsRow_len3 hown5; rw [HN3.out] at hv5; subst hv5; clear hown5 hg5) | (at_builtin; refine wpList_app_ents rfl _ _ rfl (w.heap.size + 2) _ (es.take k ++ [Ent.mk key.data.toList id]) rst rfl HO4.out HL4.out _ w4.heap.size rfl (HDD.out w4 HB4.out _ _) HL3b.out ?_; intro v5 w5 hown5 hg5; have HB5 : Hid (Below w.heap.size w w5) := HB4.out.grown hg5 HB4.out.size (fun j hj => Nat.le_trans (by omega) (own_base HO4.out j hj)); have HO5 := Lib.hid (ownsRow_base (b' := w.heap.size) hown5 (by omega)); obtain ⟨A5, c5, hv5⟩ := ownsRow_len3 hown5; rw [HN3.out] at hv5; subst hv5; clear hown5 hg5))
          all_goals (go_ret; exact ⟨_, rfl, HP.out _ _ (by rw [← HES.out]; exact HO5.out), HB5.out⟩)
      · have HDD : Hid (∀ W, Below w.heap.size w W → EntsIn W W.heap.size (.slice (some ⟨b, off + (k + 1) * 2, none⟩) (es.length - (k + 1)) (c - (k + 1))) rst) := Lib.hid fun W h => hrst ▸ ((hE.drop (k + 1) (by omega)).below h).more h.size
        clear hcells hkey hne hne' hE
        try subst hcj
        have HL2 : Hid (((es.take k).length + rst.length) * 24 ≤ 140737488355328) := Lib.hid (by rw [HTK.out, ← hrst, List.length_drop]; omega)
        have HL3b : Hid (((es.take k ++ [(⟨key.data.toList, id⟩ : Ent)]).length + rst.length) * 24 ≤ 140737488355328) := Lib.hid (by rw [HTK1.out, ← hrst, List.length_drop]; omega)
        obtain ⟨n2, hn2⟩ : ∃ n2, (es.take k ++ rst).length = n2 := ⟨_, rfl⟩
        obtain ⟨n3, hn3⟩ : ∃ n3, (es.take k ++ [(⟨key.data.toList, id⟩ : Ent)] ++ rst).length = n3 := ⟨_, rfl⟩
        have HN2 := Lib.hid hn2; have HN3 := Lib.hid hn3
        clear hn2 hn3 hrst
        by_cases hi0 : id = 0
        · have hd : (id != 0) = false := by simp [hi0]
          rw [if_pos hi0, List.append_nil] at hes
          have HES := Lib.hid hes
          clear hes
          go_enter Tryz.func33, Tryz.ntmps33
          go_wp2_with (go_at_call 71; refine (HS.out _ (by simp; omega) (((Below.refl _ _).alloc (Nat.le_refl _) _).alloc (Nat.le_of_lt (alloc_lt _ _)) _) _ _ (by simp) (by simp)).mono ?_; rintro e w' ⟨rfl, q, rfl⟩)
          go_quiet (fail)
          go_wp2_with (first | (go_at_call 57; refine (clone_any _ (es.take k) _ (HT.out _ (below_drewN' (((Below.refl _ _).alloc (Nat.le_refl _) _).alloc (Nat.le_of_lt (alloc_lt _ _)) _) _))).mono ?_; rintro e w3 ⟨v3, rfl, hown3, hb3⟩; have z0 := hb3.cell (p := ⟨w.heap.size, 0, none⟩) (by simp; omega); have z1 := hb3.cell (p := ⟨w.heap.size + 1, 0, none⟩) (by simp); simp at z0 z1; have hl3 : w.heap.size + 2 ≤ w3.heap.size := Nat.le_trans (by simp) hb3.size; have HL3 := Lib.hid hl3; have HB3 : Hid (Below w.heap.size w w3) := Below.trans (below_drewN' (((Below.refl _ _).alloc (Nat.le_refl _) _).alloc (Nat.le_of_lt (alloc_lt _ _)) _) _) (hb3.mono (by simp; omega)); obtain ⟨A3, c3, hv3⟩ := ownsRow_len3 hown3; rw [HTK.out] at hv3; subst hv3; have HO3 := Lib.hid (ownsRow_base (b' := w.heap.size + 2) hown3 (by simp)); clear hb3 hown3 hl3) | (at_builtin; refine wpList_app_ents rfl _ _ rfl (w.heap.size + 2) _ (es.take k) rst rfl HO3.out HL3.out _ w3.heap.size rfl (HDD.out w3 HB3.out) HL2.out ?_; intro v5 w5 hown5 hg5; have HB5 : Hid (Below w.heap.size w w5) := HB3.out.grown hg5 HB3.out.size (fun j hj => Nat.le_trans (by omega) (own_base HO3.out j hj)); have HO5 := Lib.hid (ownsRow_base (b' := w.heap.size) hown5 (by omega)); obtain ⟨A5, c5, hv5⟩ := ownsRow_len3 hown5; rw [HN2.out] at hv5; subst hv5; clear hown5 hg5) | (at_builtin; refine wpList_app_ents rfl _ _ rfl (w.heap.size + 2) _ (es.take k) rst rfl HO3.out HL3.out _ w3.heap.size rfl (HDD.out w3 HB3.out _ _) HL2.out ?_; intro v5 w5 hown5 hg5; have HB5 : Hid (Below w.heap.size w w5) := HB3.out.grown hg5 HB3.out.size (fun j hj => Nat.le_trans (by omega) (own_base HO3.out j hj)); have HO5 := Lib.hid (ownsRow_base (b' := w.heap.size) hown5 (by omega)); obtain ⟨A5, c5, hv5⟩ := ownsRow_len3 hown5; rw [HN2.out] at hv5; subst hv5; clear hown5 hg5))
          all_goals (go_ret; exact ⟨_, rfl, HP.out _ _ (by rw [← HES.out]; exact HO5.out), HB5.out⟩)
        · have hd : (id != 0) = true := by simp [hi0]
          rw [if_neg hi0] at hes
          have HES := Lib.hid hes
          clear hes
          go_enter Tryz.func33, Tryz.ntmps33
          go_wp2_with (go_at_call 71; refine (HS.out _ (by simp; omega) (((Below.refl _ _).alloc (Nat.le_refl _) _).alloc (Nat.le_of_lt (alloc_lt _ _)) _) _ _ (by simp) (by simp)).mono ?_; rintro e w' ⟨rfl, q, rfl⟩)
          go_quiet (fail)
          go_wp2_with (first | (go_at_call 57; refine (clone_any _ (es.take k) _ (HT.out _ (below_drewN' (((Below.refl _ _).alloc (Nat.le_refl _) _).alloc (Nat.le_of_lt (alloc_lt _ _)) _) _))).mono ?_; rintro e w3 ⟨v3, rfl, hown3, hb3⟩; have z0 := hb3.cell (p := ⟨w.heap.size, 0, none⟩) (by simp; omega); have z1 := hb3.cell (p := ⟨w.heap.size + 1, 0, none⟩) (by simp); simp at z0 z1; have hl3 : w.heap.size + 2 ≤ w3.heap.size := Nat.le_trans (by simp) hb3.size; have HL3 := Lib.hid hl3; have HB3 : Hid (Below w.heap.size w w3) := Below.trans (below_drewN' (((Below.refl _ _).alloc (Nat.le_refl _) _).alloc (Nat.le_of_lt (alloc_lt _ _)) _) _) (hb3.mono (by simp; omega)); obtain ⟨A3, c3, hv3⟩ := ownsRow_len3 hown3; rw [HTK.out] at hv3; subst hv3; have HO3 := Lib.hid (ownsRow_base (b' := w.heap.size + 2) hown3 (by simp)); clear hb3 hown3 hl3) | (at_builtin; refine wpList_app_ents rfl _ _ rfl (w.heap.size + 2) _ (es.take k) [Ent.mk key.data.toList id] rfl (HO3.out.alloc _) (Nat.le_trans HL3.out (Nat.le_of_lt (alloc_lt _ _))) _ (w3.heap.size + 1) rfl (ents_one w3 key id HK.out HI.out) HL1.out ?_; intro v4 w4 hown4 hg4; have hb4 := (Below.refl (w.heap.size + 2) (w3.alloc (.cells #[.string key, .int .i64 id] 75))).grown hg4 (Nat.le_trans HL3.out (Nat.le_of_lt (alloc_lt _ _))) (own_base (HO3.out)); have y0 := (hb4.cell (p := ⟨w.heap.size, 0, none⟩) (by simp)).trans ((World.cell?_alloc_lt w3 _ _ (show w.heap.size < w3.heap.size by have := HL3.out; omega)).trans z0); obtain ⟨A4, c4, hv4⟩ := ownsRow_len3 hown4; rw [HTK1.out] at hv4; subst hv4; have HB4 : Hid (Below w.heap.size w w4) := (HB3.out.alloc (HB3.out.size) _).trans (hb4.mono (by omega)); have HO4 := Lib.hid hown4; have HL4 : Hid (w.heap.size + 2 ≤ w4.heap.size) := Nat.le_trans (Nat.le_trans HL3.out (Nat.le_of_lt (alloc_lt _ _))) hb4.size; clear hown4 hg4 hb4) | (at_builtin; refine wpList_app_ents rfl _ _ rfl (w.heap.size + 2) _ (es.take k ++ [Ent.mk key.data.toList id]) rst rfl HO4.out HL4.out _ w4.heap.size rfl (HDD.out w4 HB4.out) HL3b.out ?_; intro v5 w5 hown5 hg5; have HB5 : Hid (Below w.heap.size w w5) := HB4.out.grown hg5 HB4.out.size (fun j hj => Nat.le_trans (by omega) (own_base HO4.out j hj)); have HO5 := Lib.hid (ownsRow_base (b' := w.heap.size) hown5 (by omega)); obtain ⟨A5, c5, hv5⟩ := ownsRow_len3 hown5; rw [HN3.out] at hv5; subst hv5; clear hown5 hg5) | (at_builtin; refine wpList_app_ents rfl _ _ rfl (w.heap.size + 2) _ (es.take k ++ [Ent.mk key.data.toList id]) rst rfl HO4.out HL4.out _ w4.heap.size rfl (HDD.out w4 HB4.out _ _) HL3b.out ?_; intro v5 w5 hown5 hg5; have HB5 : Hid (Below w.heap.size w w5) := HB4.out.grown hg5 HB4.out.size (fun j hj => Nat.le_trans (by omega) (own_base HO4.out j hj)); have HO5 := Lib.hid (ownsRow_base (b' := w.heap.size) hown5 (by omega)); obtain ⟨A5, c5, hv5⟩ := ownsRow_len3 hown5; rw [HN3.out] at hv5; subst hv5; clear hown5 hg5))
          all_goals (go_ret; exact ⟨_, rfl, HP.out _ _ (by rw [← HES.out]; exact HO5.out), HB5.out⟩)
    · rw [if_neg (show ¬ (k < es.length ∧ (entAt es k).key = key.data.toList) from fun h => hkey h.2)] at hes
      have hq : ((nm (entAt es k).key).toList == key.toList) = false := by rw [listD, listD]; exact beq_eq_false_iff_ne.2 hkey
      generalize (entAt es k).key = keyk at *
      obtain ⟨rst, hrst⟩ : ∃ rst, es.drop k = rst := ⟨_, rfl⟩
      rw [hrst] at hes
      have hcj : c ≠ k := by omega
      have HDD : Hid (∀ W, Below w.heap.size w W → EntsIn W W.heap.size (.slice (some ⟨b, off + k * 2, none⟩) (es.length - k) (c - k)) rst) := Lib.hid fun W h => hrst ▸ ((hE.drop k (by omega)).below h).more h.size
      clear hcells hkey hne hne' hE
      have HL2 : Hid (((es.take k).length + rst.length) * 24 ≤ 140737488355328) := Lib.hid (by rw [HTK.out, ← hrst, List.length_drop]; omega)
      have HL3b : Hid (((es.take k ++ [(⟨key.data.toList, id⟩ : Ent)]).length + rst.length) * 24 ≤ 140737488355328) := Lib.hid (by rw [HTK1.out, ← hrst, List.length_drop]; omega)
      obtain ⟨n2, hn2⟩ : ∃ n2, (es.take k ++ rst).length = n2 := ⟨_, rfl⟩
      obtain ⟨n3, hn3⟩ : ∃ n3, (es.take k ++ [(⟨key.data.toList, id⟩ : Ent)] ++ rst).length = n3 := ⟨_, rfl⟩
      have HN2 := Lib.hid hn2; have HN3 := Lib.hid hn3
      clear hn2 hn3 hrst
      by_cases hi0 : id = 0
      · have hd : (id != 0) = false := by simp [hi0]
        rw [if_pos hi0, List.append_nil] at hes
        have HES := Lib.hid hes
        clear hes
        go_enter Tryz.func33, Tryz.ntmps33
        go_wp2_with (go_at_call 71; refine (HS.out _ (by simp; omega) (((Below.refl _ _).alloc (Nat.le_refl _) _).alloc (Nat.le_of_lt (alloc_lt _ _)) _) _ _ (by simp) (by simp)).mono ?_; rintro e w' ⟨rfl, q, rfl⟩)
        go_quiet (fail)
        go_wp2_with (first | (go_at_call 57; refine (clone_any _ (es.take k) _ (HT.out _ (below_drewN' (((Below.refl _ _).alloc (Nat.le_refl _) _).alloc (Nat.le_of_lt (alloc_lt _ _)) _) _))).mono ?_; rintro e w3 ⟨v3, rfl, hown3, hb3⟩; have z0 := hb3.cell (p := ⟨w.heap.size, 0, none⟩) (by simp; omega); have z1 := hb3.cell (p := ⟨w.heap.size + 1, 0, none⟩) (by simp); simp at z0 z1; have hl3 : w.heap.size + 2 ≤ w3.heap.size := Nat.le_trans (by simp) hb3.size; have HL3 := Lib.hid hl3; have HB3 : Hid (Below w.heap.size w w3) := Below.trans (below_drewN' (((Below.refl _ _).alloc (Nat.le_refl _) _).alloc (Nat.le_of_lt (alloc_lt _ _)) _) _) (hb3.mono (by simp; omega)); obtain ⟨A3, c3, hv3⟩ := ownsRow_len3 hown3; rw [HTK.out] at hv3; subst hv3; have HO3 := Lib.hid (ownsRow_base (b' := w.heap.size + 2) hown3 (by simp)); clear hb3 hown3 hl3) | (at_builtin; refine wpList_app_ents rfl _ _ rfl (w.heap.size + 2) _ (es.take k) rst rfl HO3.out HL3.out _ w3.heap.size rfl (HDD.out w3 HB3.out) HL2.out ?_; intro v5 w5 hown5 hg5; have HB5 : Hid (Below w.heap.size w w5) := HB3.out.grown hg5 HB3.out.size (fun j hj => Nat.le_trans (by omega) (own_base HO3.out j hj)); have HO5 := Lib.hid (ownsRow_base (b' := w.heap.size) hown5 (by omega)); obtain ⟨A5, c5, hv5⟩ := ownsRow_len3 hown5; rw [HN2.out] at hv5; subst hv5; clear hown5 hg5) | (at_builtin; refine wpList_app_ents rfl _ _ rfl (w.heap.size + 2) _ (es.take k) rst rfl HO3.out HL3.out _ w3.heap.size rfl (HDD.out w3 HB3.out _ _) HL2.out ?_; intro v5 w5 hown5 hg5; have HB5 : Hid (Below w.heap.size w w5) := HB3.out.grown hg5 HB3.out.size (fun j hj => Nat.le_trans (by omega) (own_base HO3.out j hj)); have HO5 := Lib.hid (ownsRow_base (b' := w.heap.size) hown5 (by omega)); obtain ⟨A5, c5, hv5⟩ := ownsRow_len3 hown5; rw [HN2.out] at hv5; subst hv5; clear hown5 hg5))
        all_goals (go_ret; exact ⟨_, rfl, HP.out _ _ (by rw [← HES.out]; exact HO5.out), HB5.out⟩)
      · have hd : (id != 0) = true := by simp [hi0]
        rw [if_neg hi0] at hes
        have HES := Lib.hid hes
        clear hes
        go_enter Tryz.func33, Tryz.ntmps33
        go_wp2_with (go_at_call 71; refine (HS.out _ (by simp; omega) (((Below.refl _ _).alloc (Nat.le_refl _) _).alloc (Nat.le_of_lt (alloc_lt _ _)) _) _ _ (by simp) (by simp)).mono ?_; rintro e w' ⟨rfl, q, rfl⟩)
        go_quiet (fail)
        go_wp2_with (first | (go_at_call 57; refine (clone_any _ (es.take k) _ (HT.out _ (below_drewN' (((Below.refl _ _).alloc (Nat.le_refl _) _).alloc (Nat.le_of_lt (alloc_lt _ _)) _) _))).mono ?_; rintro e w3 ⟨v3, rfl, hown3, hb3⟩; have z0 := hb3.cell (p := ⟨w.heap.size, 0, none⟩) (by simp; omega); have z1 := hb3.cell (p := ⟨w.heap.size + 1, 0, none⟩) (by simp); simp at z0 z1; have hl3 : w.heap.size + 2 ≤ w3.heap.size := Nat.le_trans (by simp) hb3.size; have HL3 := Lib.hid hl3; have HB3 : Hid (Below w.heap.size w w3) := Below.trans (below_drewN' (((Below.refl _ _).alloc (Nat.le_refl _) _).alloc (Nat.le_of_lt (alloc_lt _ _)) _) _) (hb3.mono (by simp; omega)); obtain ⟨A3, c3, hv3⟩ := ownsRow_len3 hown3; rw [HTK.out] at hv3; subst hv3; have HO3 := Lib.hid (ownsRow_base (b' := w.heap.size + 2) hown3 (by simp)); clear hb3 hown3 hl3) | (at_builtin; refine wpList_app_ents rfl _ _ rfl (w.heap.size + 2) _ (es.take k) [Ent.mk key.data.toList id] rfl (HO3.out.alloc _) (Nat.le_trans HL3.out (Nat.le_of_lt (alloc_lt _ _))) _ (w3.heap.size + 1) rfl (ents_one w3 key id HK.out HI.out) HL1.out ?_; intro v4 w4 hown4 hg4; have hb4 := (Below.refl (w.heap.size + 2) (w3.alloc (.cells #[.string key, .int .i64 id] 75))).grown hg4 (Nat.le_trans HL3.out (Nat.le_of_lt (alloc_lt _ _))) (own_base (HO3.out)); have y0 := (hb4.cell (p := ⟨w.heap.size, 0, none⟩) (by simp)).trans ((World.cell?_alloc_lt w3 _ _ (show w.heap.size < w3.heap.size by have := HL3.out; omega)).trans z0); obtain ⟨A4, c4, hv4⟩ := ownsRow_len3 hown4; rw [HTK1.out] at hv4; subst hv4; have HB4 : Hid (Below w.heap.size w w4) := (HB3.out.alloc (HB3.out.size) _).trans (hb4.mono (by omega)); have HO4 := Lib.hid hown4; have HL4 : Hid (w.heap.size + 2 ≤ w4.heap.size) := Nat.le_trans (Nat.le_trans HL3.out (Nat.le_of_lt (alloc_lt _ _))) hb4.size; clear hown4 hg4 hb4) | (at_builtin; refine wpList_app_ents rfl _ _ rfl (w.heap.size + 2) _ (es.take k ++ [Ent.mk key.data.toList id]) rst rfl HO4.out HL4.out _ w4.heap.size rfl (HDD.out w4 HB4.out) HL3b.out ?_; intro v5 w5 hown5 hg5; have HB5 : Hid (Below w.heap.size w w5) := HB4.out.grown hg5 HB4.out.size (fun j hj => Nat.le_trans (by omega) (own_base HO4.out j hj)); have HO5 := Lib.hid (ownsRow_base (b' := w.heap.size) hown5 (by omega)); obtain ⟨A5, c5, hv5⟩ := ownsRow_len3 hown5; rw [HN3.out] at hv5; subst hv5; clear hown5 hg5) | (at_builtin; refine wpList_app_ents rfl _ _ rfl (w.heap.size + 2) _ (es.take k ++ [Ent.mk key.data.toList id]) rst rfl HO4.out HL4.out _ w4.heap.size rfl (HDD.out w4 HB4.out _ _) HL3b.out ?_; intro v5 w5 hown5 hg5; have HB5 : Hid (Below w.heap.size w w5) := HB4.out.grown hg5 HB4.out.size (fun j hj => Nat.le_trans (by omega) (own_base HO4.out j hj)); have HO5 := Lib.hid (ownsRow_base (b' := w.heap.size) hown5 (by omega)); obtain ⟨A5, c5, hv5⟩ := ownsRow_len3 hown5; rw [HN3.out] at hv5; subst hv5; clear hown5 hg5))
        all_goals (go_ret; exact ⟨_, rfl, HP.out _ _ (by rw [← HES.out]; exact HO5.out), HB5.out⟩)
  · rw [if_neg (show ¬ (k < es.length ∧ (entAt es k).key = key.data.toList) from fun h => hkl h.1)] at hes
    obtain ⟨rst, hrst⟩ : ∃ rst, es.drop k = rst := ⟨_, rfl⟩
    rw [hrst] at hes
    have hke : es.length ≤ k := by omega
    have hki : ¬ (k : Int) < (es.length : Int) := by omega
    have HDD0 : Hid (∀ W, Below w.heap.size w W → ∀ A' c', EntsIn W W.heap.size (.slice A' (es.length - k) c') rst) := Lib.hid fun W h A' c' => hrst ▸ EntsIn.dropAll _ _ (by omega)
    have HDD := HDD0
    clear hne hE HDD0 hke
    have HL2 : Hid (((es.take k).length + rst.length) * 24 ≤ 140737488355328) := Lib.hid (by rw [HTK.out, ← hrst, List.length_drop]; omega)
    have HL3b : Hid (((es.take k ++ [(⟨key.data.toList, id⟩ : Ent)]).length + rst.length) * 24 ≤ 140737488355328) := Lib.hid (by rw [HTK1.out, ← hrst, List.length_drop]; omega)
    obtain ⟨n2, hn2⟩ : ∃ n2, (es.take k ++ rst).length = n2 := ⟨_, rfl⟩
    obtain ⟨n3, hn3⟩ : ∃ n3, (es.take k ++ [(⟨key.data.toList, id⟩ : Ent)] ++ rst).length = n3 := ⟨_, rfl⟩
    have HN2 := Lib.hid hn2; have HN3 := Lib.hid hn3
    clear hn2 hn3 hrst
    by_cases hi0 : id = 0
    · have hd : (id != 0) = false := by simp [hi0]
      rw [if_pos hi0, List.append_nil] at hes
      have HES := Lib.hid hes
      clear hes
      go_enter Tryz.func33, Tryz.ntmps33
      go_wp2_with (go_at_call 71; refine (HS.out _ (by simp; omega) (((Below.refl _ _).alloc (Nat.le_refl _) _).alloc (Nat.le_of_lt (alloc_lt _ _)) _) _ _ (by simp) (by simp)).mono ?_; rintro e w' ⟨rfl, q, rfl⟩)
      go_quiet (fail)
      go_wp2_with (first | (go_at_call 57; refine (clone_any _ (es.take k) _ (HT.out _ (below_drewN' (((Below.refl _ _).alloc (Nat.le_refl _) _).alloc (Nat.le_of_lt (alloc_lt _ _)) _) _))).mono ?_; rintro e w3 ⟨v3, rfl, hown3, hb3⟩; have z0 := hb3.cell (p := ⟨w.heap.size, 0, none⟩) (by simp; omega); have z1 := hb3.cell (p := ⟨w.heap.size + 1, 0, none⟩) (by simp); simp at z0 z1; have hl3 : w.heap.size + 2 ≤ w3.heap.size := Nat.le_trans (by simp) hb3.size; have HL3 := Lib.hid hl3; have HB3 : Hid (Below w.heap.size w w3) := Below.trans (below_drewN' (((Below.refl _ _).alloc (Nat.le_refl _) _).alloc (Nat.le_of_lt (alloc_lt _ _)) _) _) (hb3.mono (by simp; omega)); obtain ⟨A3, c3, hv3⟩ := ownsRow_len3 hown3; rw [HTK.out] at hv3; subst hv3; have HO3 := Lib.hid (ownsRow_base (b' := w.heap.size + 2) hown3 (by simp)); clear hb3 hown3 hl3) | (at_builtin; refine wpList_app_ents rfl _ _ rfl (w.heap.size + 2) _ (es.take k) rst rfl HO3.out HL3.out _ w3.heap.size rfl (HDD.out w3 HB3.out) HL2.out ?_; intro v5 w5 hown5 hg5; have HB5 : Hid (Below w.heap.size w w5) := HB3.out.grown hg5 HB3.out.size (fun j hj => Nat.le_trans (by omega) (own_base HO3.out j hj)); have HO5 := Lib.hid (ownsRow_base (b' := w.heap.size) hown5 (by omega)); obtain ⟨A5, c5, hv5⟩ := ownsRow_len3 hown5; rw [HN2.out] at hv5; subst hv5; clear hown5 hg5) | (at_builtin; refine wpList_app_ents rfl _ _ rfl (w.heap.size + 2) _ (es.take k) rst rfl HO3.out HL3.out _ w3.heap.size rfl (HDD.out w3 HB3.out _ _) HL2.out ?_; intro v5 w5 hown5 hg5; have HB5 : Hid (Below w.heap.size w w5) := HB3.out.grown hg5 HB3.out.size (fun j hj => Nat.le_trans (by omega) (own_base HO3.out j hj)); have HO5 := Lib.hid (ownsRow_base (b' := w.heap.size) hown5 (by omega)); obtain ⟨A5, c5, hv5⟩ := ownsRow_len3 hown5; rw [HN2.out] at hv5; subst hv5; clear hown5 hg5))
      all_goals (go_ret; exact ⟨_, rfl, HP.out _ _ (by rw [← HES.out]; exact HO5.out), HB5.out⟩)
    · have hd : (id != 0) = true := by simp [hi0]
      rw [if_neg hi0] at hes
      have HES := Lib.hid hes
      clear hes
      go_enter Tryz.func33, Tryz.ntmps33
      go_wp2_with (go_at_call 71; refine (HS.out _ (by simp; omega) (((Below.refl _ _).alloc (Nat.le_refl _) _).alloc (Nat.le_of_lt (alloc_lt _ _)) _) _ _ (by simp) (by simp)).mono ?_; rintro e w' ⟨rfl, q, rfl⟩)
      go_quiet (fail)
      go_wp2_with (first | (go_at_call 57; refine (clone_any _ (es.take k) _ (HT.out _ (below_drewN' (((Below.refl _ _).alloc (Nat.le_refl _) _).alloc (Nat.le_of_lt (alloc_lt _ _)) _) _))).mono ?_; rintro e w3 ⟨v3, rfl, hown3, hb3⟩; have z0 := hb3.cell (p := ⟨w.heap.size, 0, none⟩) (by simp; omega); have z1 := hb3.cell (p := ⟨w.heap.size + 1, 0, none⟩) (by simp); simp at z0 z1; have hl3 : w.heap.size + 2 ≤ w3.heap.size := Nat.le_trans (by simp) hb3.size; have HL3 := Lib.hid hl3; have HB3 : Hid (Below w.heap.size w w3) := Below.trans (below_drewN' (((Below.refl _ _).alloc (Nat.le_refl _) _).alloc (Nat.le_of_lt (alloc_lt _ _)) _) _) (hb3.mono (by simp; omega)); obtain ⟨A3, c3, hv3⟩ := ownsRow_len3 hown3; rw [HTK.out] at hv3; subst hv3; have HO3 := Lib.hid (ownsRow_base (b' := w.heap.size + 2) hown3 (by simp)); clear hb3 hown3 hl3) | (at_builtin; refine wpList_app_ents rfl _ _ rfl (w.heap.size + 2) _ (es.take k) [Ent.mk key.data.toList id] rfl (HO3.out.alloc _) (Nat.le_trans HL3.out (Nat.le_of_lt (alloc_lt _ _))) _ (w3.heap.size + 1) rfl (ents_one w3 key id HK.out HI.out) HL1.out ?_; intro v4 w4 hown4 hg4; have hb4 := (Below.refl (w.heap.size + 2) (w3.alloc (.cells #[.string key, .int .i64 id] 75))).grown hg4 (Nat.le_trans HL3.out (Nat.le_of_lt (alloc_lt _ _))) (own_base (HO3.out)); have y0 := (hb4.cell (p := ⟨w.heap.size, 0, none⟩) (by simp)).trans ((World.cell?_alloc_lt w3 _ _ (show w.heap.size < w3.heap.size by have := HL3.out; omega)).trans z0); obtain ⟨A4, c4, hv4⟩ := ownsRow_len3 hown4; rw [HTK1.out] at hv4; subst hv4; have HB4 : Hid (Below w.heap.size w w4) := (HB3.out.alloc (HB3.out.size) _).trans (hb4.mono (by omega)); have HO4 := Lib.hid hown4; have HL4 : Hid (w.heap.size + 2 ≤ w4.heap.size) := Nat.le_trans (Nat.le_trans HL3.out (Nat.le_of_lt (alloc_lt _ _))) hb4.size; clear hown4 hg4 hb4) | (at_builtin; refine wpList_app_ents rfl _ _ rfl (w.heap.size + 2) _ (es.take k ++ [Ent.mk key.data.toList id]) rst rfl HO4.out HL4.out _ w4.heap.size rfl (HDD.out w4 HB4.out) HL3b.out ?_; intro v5 w5 hown5 hg5; have HB5 : Hid (Below w.heap.size w w5) := HB4.out.grown hg5 HB4.out.size (fun j hj => Nat.le_trans (by omega) (own_base HO4.out j hj)); have HO5 := Lib.hid (ownsRow_base (b' := w.heap.size) hown5 (by omega)); obtain ⟨A5, c5, hv5⟩ := ownsRow_len3 hown5; rw [HN3.out] at hv5; subst hv5; clear hown5 hg5) | (at_builtin; refine wpList_app_ents rfl _ _ rfl (w.heap.size + 2) _ (es.take k ++ [Ent.mk key.data.toList id]) rst rfl HO4.out HL4.out _ w4.heap.size rfl (HDD.out w4 HB4.out _ _) HL3b.out ?_; intro v5 w5 hown5 hg5; have HB5 : Hid (Below w.heap.size w w5) := HB4.out.grown hg5 HB4.out.size (fun j hj => Nat.le_trans (by omega) (own_base HO4.out j hj)); have HO5 := Lib.hid (ownsRow_base (b' := w.heap.size) hown5 (by omega)); obtain ⟨A5, c5, hv5⟩ := ownsRow_len3 hown5; rw [HN3.out] at hv5; subst hv5; clear hown5 hg5))
      all_goals (go_ret; exact ⟨_, rfl, HP.out _ _ (by rw [← HES.out]; exact HO5.out), HB5.out⟩)
end Go.Proofs.YtkmnbbocahjmaaaGreatDoor
