/- DERIVED. Plain mathematics of layer 4: trees but for numbers. -/
import Derived.Test.YtkmnbbocahjmaaaGreatDoorTreeMath2
namespace TreeM
open PathM
set_option linter.unusedVariables false

def reE (ρ : Int → Int) (x : Ent) : Ent := ⟨x.key, ρ x.to⟩
def reN (ρ : Int → Int) (n : Nd) : Nd := { n with id := ρ n.id, es := n.es.map (reE ρ) }
/-- The nodes numbered anew, as they are met. -/
def canonAt (nodes : List Nd) (l : List Item) (i : Nat) : Nd := { ndAt nodes (itAt l i).node with id := (i : Int) + 1, es := (ndAt nodes (itAt l i).node).es.map (reE fun id => (metAt l id : Int) + 1) }
def canonN (nodes : List Nd) (l : List Item) : List Nd := (List.range l.length).map (canonAt nodes l)
def canonT (t : Tr) : Tr := ⟨canonN t.nodes (way t.nodes), (way t.nodes).length, t.rn, t.rb⟩
theorem canon_len (nodes : List Nd) (l : List Item) : (canonN nodes l).length = l.length := by simp [canonN]
theorem canon_at {nodes : List Nd} {l : List Item} {i : Nat} (h : i < l.length) : ndAt (canonN nodes l) i = canonAt nodes l i := by simp [canonN, ndAt, h]

/-- B is A with other numbers, its nodes in another order. -/
structure Iso (A B : List Nd) (ρ : Int → Int) (τ : Nat → Nat) : Prop where
  len : B.length = A.length
  rise : Rising B
  lt : ∀ i, i < A.length → τ i < A.length
  inj : ∀ i j, i < A.length → j < A.length → ρ (ndAt A i).id = ρ (ndAt A j).id → (ndAt A i).id = (ndAt A j).id
  led : ∀ x ∈ flat A, place A x.to < A.length
  at_ : ∀ i, i < A.length → ndAt B (τ i) = reN ρ (ndAt A i)
section
variable {A B : List Nd} {ρ : Int → Int} {τ : Nat → Nat}
theorem Iso.place (h : Iso A B ρ τ) {id : Int} (hp : place A id < A.length) : place B (ρ id) = τ (place A id) := by
  have h1 := h.at_ _ hp
  have h2 : (ndAt B (τ (TreeM.place A id))).id = ρ id := by rw [h1]; show ρ (ndAt A (TreeM.place A id)).id = ρ id; rw [place_id hp]
  have h3 := h.rise.place (i := τ (TreeM.place A id)) (by rw [h.len]; exact h.lt _ hp)
  rw [h2] at h3; exact h3
theorem Iso.placed (h : Iso A B ρ τ) {id : Int} (hp : TreeM.place A id < A.length) : TreeM.place B (ρ id) < B.length := by rw [h.place hp, h.len]; exact h.lt _ hp
theorem Iso.inj' (h : Iso A B ρ τ) {a b : Int} (ha : TreeM.place A a < A.length) (hb : TreeM.place A b < A.length) (e : ρ a = ρ b) : a = b := by
  have := h.inj _ _ ha hb (by rw [place_id ha, place_id hb]; exact e)
  rwa [place_id ha, place_id hb] at this
def reI (ρ : Int → Int) (τ : Nat → Nat) (m : Item) : Item := ⟨τ m.node, m.fr, m.name, ρ m.id, m.path⟩
theorem Iso.met (h : Iso A B ρ τ) {l : List Item} (hl : ∀ m ∈ l, TreeM.place A m.id < A.length) {id : Int} (hp : TreeM.place A id < A.length) : TreeM.met (l.map (reI ρ τ)) (ρ id) = TreeM.met l id := by
  rw [Bool.eq_iff_iff, met_iff, met_iff]
  constructor
  · rintro ⟨m, hm, he⟩
    obtain ⟨m', hm', rfl⟩ := List.mem_map.1 hm
    exact ⟨m', hm', h.inj' (hl m' hm') hp he⟩
  · rintro ⟨m, hm, rfl⟩
    exact ⟨reI ρ τ m, List.mem_map_of_mem hm, rfl⟩
theorem dfs_placed (nodes : List Nd) (f : Nat) (id : Int) (fr : Nat) (name path : Bs) (l : List Item) (h : ∀ m ∈ l, place nodes m.id < nodes.length) : ∀ m ∈ dfs nodes f id fr name path l, place nodes m.id < nodes.length :=
  dfs_keeps (fun a b => (∀ m ∈ a, place nodes m.id < nodes.length) → ∀ m ∈ b, place nodes m.id < nodes.length) (fun _ h => h) (fun _ _ _ h1 h2 h => h2 (h1 h)) (fun l it hm hp hn h m hmem => by
    rcases List.mem_append.1 hmem with h1 | h1
    · exact h m h1
    · obtain rfl := List.mem_singleton.1 h1; exact hp) f id fr name path l h
theorem Iso.dfs (h : Iso A B ρ τ) : ∀ f id fr name path l, (∀ m ∈ l, TreeM.place A m.id < A.length) → TreeM.place A id < A.length → TreeM.dfs B f (ρ id) fr name path (l.map (reI ρ τ)) = (TreeM.dfs A f id fr name path l).map (reI ρ τ) := by
  intro f
  induction f with
  | zero => intro id fr name path l _ _; rfl
  | succ f ih =>
    intro id fr name path l hl hp
    cases hm : TreeM.met l id with
    | true => rw [dfs_met hm, dfs_met (by rw [h.met hl hp]; exact hm)]
    | false =>
      rw [dfs_new hm hp, dfs_new (by rw [h.met hl hp]; exact hm) (h.placed hp)]
      have hes : (ndAt B (TreeM.place B (ρ id))).es = (ndAt A (TreeM.place A id)).es.map (reE ρ) := by rw [h.place hp, h.at_ _ hp]; rfl
      have hit : l.map (reI ρ τ) ++ [(⟨TreeM.place B (ρ id), fr, name, ρ id, path⟩ : Item)] = (l ++ [(⟨TreeM.place A id, fr, name, id, path⟩ : Item)]).map (reI ρ τ) := by rw [h.place hp]; simp [reI]
      rw [hes, hit]
      have hl1 : ∀ m ∈ l ++ [(⟨TreeM.place A id, fr, name, id, path⟩ : Item)], TreeM.place A m.id < A.length := fun m hmem => by
        rcases List.mem_append.1 hmem with h1 | h1
        · exact hl m h1
        · obtain rfl := List.mem_singleton.1 h1; exact hp
      have hled : ∀ x ∈ (ndAt A (TreeM.place A id)).es, TreeM.place A x.to < A.length := fun x hx => h.led x (flat_mem.2 ⟨_, hp, hx⟩)
      rw [List.length_map]
      generalize (l ++ [(⟨TreeM.place A id, fr, name, id, path⟩ : Item)]) = l1 at hl1
      generalize (ndAt A (TreeM.place A id)).es = es at hled
      generalize l.length = here
      clear hes hit hm hl
      induction es generalizing l1 with
      | nil => rfl
      | cons x es ihe =>
        rw [List.map_cons, dfsL_cons, dfsL_cons]
        have hx := hled x (by simp)
        have := ih x.to here x.key (joinL path x.key) l1 hl1 hx
        show dfsL B f here path (es.map (reE ρ)) (TreeM.dfs B f (ρ x.to) here x.key (joinL path x.key) (l1.map (reI ρ τ))) = _
        rw [this]
        exact ihe _ (dfs_placed A f _ _ _ _ l1 hl1) (fun y hy => hled y (List.mem_cons_of_mem x hy))
theorem Iso.way (h : Iso A B ρ τ) (h1 : ρ 1 = 1) (hp : TreeM.place A 1 < A.length) : TreeM.way B = (TreeM.way A).map (reI ρ τ) := by
  have := h.dfs A.length 1 0 [] [47] [] (by simp) hp
  unfold TreeM.way
  rw [h.len]
  rw [h1] at this
  exact this
theorem Iso.metAt (h : Iso A B ρ τ) {l : List Item} (hl : ∀ m ∈ l, TreeM.place A m.id < A.length) {id : Int} (hp : TreeM.place A id < A.length) : TreeM.metAt (l.map (reI ρ τ)) (ρ id) = TreeM.metAt l id := by
  unfold TreeM.metAt
  rw [List.findIdx_map]
  induction l with
  | nil => rfl
  | cons m l ih =>
    rw [List.findIdx_cons, List.findIdx_cons, ih (fun m hm => hl m (by simp [hm]))]
    have e : (((fun m => m.id == ρ id) ∘ reI ρ τ) m) = (m.id == id) := by
      show (ρ m.id == ρ id) = (m.id == id)
      rw [Bool.eq_iff_iff]
      simp only [beq_iff_eq]
      exact ⟨fun e => h.inj' (hl m (by simp)) hp e, fun e => by rw [e]⟩
    rw [e]
/-- Trees that are the same but for numbers are numbered anew alike. -/
theorem Iso.canon (h : Iso A B ρ τ) (h1 : ρ 1 = 1) (hp : TreeM.place A 1 < A.length) : canonN B (TreeM.way B) = canonN A (TreeM.way A) := by
  have hw := way_wy A
  have hway := h.way h1 hp
  unfold canonN
  rw [hway, List.length_map]
  refine List.map_congr_left (fun i hi => ?_)
  have hi : i < (TreeM.way A).length := by simpa using hi
  have hn := (hw.node hi).1
  have e1 : itAt ((TreeM.way A).map (reI ρ τ)) i = reI ρ τ (itAt (TreeM.way A) i) := by simp [itAt, hi]
  have hpl : ∀ m ∈ TreeM.way A, TreeM.place A m.id < A.length := fun m hm => (hw.at_ m hm).1
  unfold canonAt
  rw [e1]
  show ({ ndAt B (τ (itAt (TreeM.way A) i).node) with id := (i : Int) + 1, es := (ndAt B (τ (itAt (TreeM.way A) i).node)).es.map (reE fun id => (TreeM.metAt ((TreeM.way A).map (reI ρ τ)) id : Int) + 1) } : Nd) = _
  rw [h.at_ _ hn]
  have e2 : ((reN ρ (ndAt A (itAt (TreeM.way A) i).node)).es.map (reE fun id => (TreeM.metAt ((TreeM.way A).map (reI ρ τ)) id : Int) + 1)) = (ndAt A (itAt (TreeM.way A) i).node).es.map (reE fun id => (TreeM.metAt (TreeM.way A) id : Int) + 1) := by
    show ((ndAt A (itAt (TreeM.way A) i).node).es.map (reE ρ)).map _ = _
    rw [List.map_map]
    refine List.map_congr_left (fun x hx => ?_)
    show (⟨x.key, (TreeM.metAt ((TreeM.way A).map (reI ρ τ)) (ρ x.to) : Int) + 1⟩ : Ent) = ⟨x.key, (TreeM.metAt (TreeM.way A) x.to : Int) + 1⟩
    rw [h.metAt hpl (h.led x (flat_mem.2 ⟨_, hn, hx⟩))]
  rw [e2]
  rfl
end

theorem entsB_map (ρ : Int → Int) (es : List Ent) : entsB (es.map (reE ρ)) = entsB es := by
  unfold entsB
  rw [List.length_map]
  suffices H : ∀ k, k ≤ es.length → allTo (okEnt (es.map (reE ρ))) k = allTo (okEnt es) k from H _ (Nat.le_refl _)
  intro k
  induction k with
  | zero => intro _; rfl
  | succ k ih =>
    intro hk
    rw [allTo, allTo, ih (by omega)]
    congr 1
    have e : ∀ i, i < es.length → (entAt (es.map (reE ρ)) i).key = (entAt es i).key := fun i hi => by simp [entAt, hi, reE]
    unfold okEnt
    rw [e k (by omega), e (k - 1) (by omega)]
theorem plainB_re (ρ : Int → Int) (n : Nd) : plainB (reN ρ n) = plainB n := by
  unfold plainB reN
  simp only [entsB_map]
  congr 1
  simp

/-- A list of numbers below n, each once, n of them, has them all. -/
theorem range_perm : ∀ (n : Nat) (l : List Nat), l.Nodup → (∀ x ∈ l, x < n) → l.length = n → l.Perm (List.range n) := by
  intro n
  induction n with
  | zero => intro l _ _ h; rw [List.length_eq_zero_iff.1 h]; exact List.Perm.refl _
  | succ n ih =>
    intro l hd hlt hlen
    by_cases hm : n ∈ l
    · have hp := List.perm_cons_erase hm
      have hd2 : (l.erase n).Nodup := hd.erase n
      have h1 : ∀ x ∈ l.erase n, x < n := fun x hx => by
        have hx2 := (hd.mem_erase_iff).1 hx
        have := hlt x hx2.2
        omega
      have h2 := ih (l.erase n) hd2 h1 (by rw [List.length_erase_of_mem hm]; omega)
      rw [List.range_succ]
      exact hp.trans ((List.Perm.cons n h2).trans (List.perm_append_singleton n (List.range n)).symm)
    · exfalso
      have h1 : ∀ x ∈ l, x < n := fun x hx => by
        have := hlt x hx
        by_cases e : x = n
        · subst e; exact absurd hx hm
        · omega
      cases l with
      | nil => simp at hlen
      | cons a t =>
        have h3 := ih t (List.nodup_cons.1 hd).2 (fun x hx => h1 x (by simp [hx])) (by simpa using hlen)
        have ha : a ∈ List.range n := by simpa using h1 a (by simp)
        exact (List.nodup_cons.1 hd).1 (h3.symm.subset ha)

theorem flat_range (A : List Nd) : flat A = (List.range A.length).flatMap fun i => (ndAt A i).es := by
  have h : A = (List.range A.length).map (ndAt A) := by
    apply List.ext_getElem
    · simp
    · intro i h1 h2; simp [ndAt, h1]
  unfold flat
  conv => lhs; rw [h]
  rw [List.flatMap_map]

end TreeM
