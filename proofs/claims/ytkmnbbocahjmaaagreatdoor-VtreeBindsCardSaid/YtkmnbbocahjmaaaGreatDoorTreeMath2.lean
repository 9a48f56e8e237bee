/- DERIVED. Plain mathematics of layer 4: the two ways to ask whether a tree may be are one; what the way through a tree tells; paths. -/
import Derived.Test.YtkmnbbocahjmaaaGreatDoorTreeMath
namespace TreeM
open PathM
set_option linter.unusedVariables false

/-- Behind which meeting each node is met. -/
def Arg (nodes : List Nd) (l : List Item) (id : Int) (fr : Nat) (name path : Bs) : Prop :=
  (l = [] ∧ id = 1 ∧ fr = 0 ∧ name = [] ∧ path = [47]) ∨ (∃ p, l[fr]? = some p ∧ path = joinL p.path name ∧ (⟨name, id⟩ : Ent) ∈ (ndAt nodes p.node).es)
def Ln (nodes : List Nd) (l : List Item) : Prop :=
  ∀ k it, l[k]? = some it → (k = 0 ∧ it.fr = 0 ∧ it.name = [] ∧ it.path = [47] ∧ it.id = 1) ∨
    (0 < k ∧ it.fr < k ∧ ∃ p, l[it.fr]? = some p ∧ it.path = joinL p.path it.name ∧ (⟨it.name, it.id⟩ : Ent) ∈ (ndAt nodes p.node).es)
theorem get_of_prefix {α : Type} {l m : List α} (h : l <+: m) {k : Nat} {x : α} (hx : l[k]? = some x) : m[k]? = some x := by
  obtain ⟨t, rfl⟩ := h
  rw [List.getElem?_append_left (List.getElem?_eq_some_iff.1 hx).1]; exact hx
theorem lt_of_get {α : Type} {l : List α} {k : Nat} {x : α} (hx : l[k]? = some x) : k < l.length := (List.getElem?_eq_some_iff.1 hx).1
theorem Ln.add {nodes : List Nd} {l : List Item} {it : Item} (h : Ln nodes l) (ha : Arg nodes l it.id it.fr it.name it.path) : Ln nodes (l ++ [it]) := by
  intro k x hx
  by_cases hk : k < l.length
  · rw [List.getElem?_append_left hk] at hx
    rcases h k x hx with h0 | ⟨h1, h2, p, h3, h4, h5⟩
    · exact .inl h0
    · exact .inr ⟨h1, h2, p, get_of_prefix (List.prefix_append l [it]) h3, h4, h5⟩
  · have hk2 : k < l.length + 1 := by have := lt_of_get hx; simpa using this
    obtain rfl : k = l.length := by omega
    have : x = it := by simpa using hx.symm
    subst this
    rcases ha with ⟨rfl, h1, h2, h3, h4⟩ | ⟨p, h3, h4, h5⟩
    · exact .inl ⟨rfl, h2, h3, h4, h1⟩
    · have hf := lt_of_get h3
      exact .inr ⟨by omega, hf, p, get_of_prefix (List.prefix_append l [x]) h3, h4, h5⟩
theorem dfs_ln (nodes : List Nd) : ∀ f id fr name path l, Ln nodes l → Arg nodes l id fr name path → Ln nodes (dfs nodes f id fr name path l) := by
  intro f
  induction f with
  | zero => intro id fr name path l h _; exact h
  | succ f ih =>
    intro id fr name path l h ha
    cases hm : met l id with
    | true => rw [dfs_met hm]; exact h
    | false =>
      rcases Nat.lt_or_ge (place nodes id) nodes.length with hp | hp
      · rw [dfs_new hm hp]
        have h1 : Ln nodes (l ++ [⟨place nodes id, fr, name, id, path⟩]) := h.add (it := ⟨place nodes id, fr, name, id, path⟩) ha
        have hg : (l ++ [(⟨place nodes id, fr, name, id, path⟩ : Item)])[l.length]? = some ⟨place nodes id, fr, name, id, path⟩ := by simp
        have hes : ∀ x ∈ (ndAt nodes (place nodes id)).es, x ∈ (ndAt nodes (place nodes id)).es := fun _ hx => hx
        revert hes
        generalize hes2 : (ndAt nodes (place nodes id)).es = es
        have hsub : ∀ x ∈ es, x ∈ (ndAt nodes (place nodes id)).es := by rw [hes2]; exact fun _ hx => hx
        intro hz
        clear hes2 hz
        generalize (l ++ [⟨place nodes id, fr, name, id, path⟩]) = l1 at h1 hg
        induction es generalizing l1 with
        | nil => exact h1
        | cons x es ihe =>
          rw [dfsL_cons]
          have hpre := dfs_prefix nodes f x.to l.length x.key (joinL path x.key) l1
          refine ihe (fun y hy => hsub y (List.mem_cons_of_mem x hy)) _ (ih _ _ _ _ _ h1 (.inr ⟨_, hg, rfl, hsub x (by simp)⟩)) (get_of_prefix hpre hg)
      · rw [dfs_out hp]; exact h
theorem way_ln (nodes : List Nd) : Ln nodes (way nodes) := dfs_ln nodes _ _ _ _ _ [] (by intro k it h; simp at h) (.inl ⟨rfl, rfl, rfl, rfl, rfl⟩)

theorem reached_unmet {nodes : List Nd} (h : reachedB nodes = true) : unmet nodes (way nodes) = 0 := by
  have h1 : (way nodes).length = nodes.length := by simpa [reachedB] using h
  have := (way_wy nodes).len
  omega
theorem reached_met {nodes : List Nd} (h : reachedB nodes = true) {id : Int} (hp : place nodes id < nodes.length) : met (way nodes) id = true := unmet_zero (reached_unmet h) hp
theorem reached_links {nodes : List Nd} (h : reachedB nodes = true) (hr : Rising nodes) (h0 : (ndAt nodes 0).id = 1) {i : Nat} (hi : i < nodes.length) (hpos : 0 < i) : 0 < links nodes (ndAt nodes i).id := by
  obtain ⟨m, hm, he⟩ := met_iff.1 (reached_met h (place_lt hi rfl))
  obtain ⟨k, hk, hke⟩ := List.getElem_of_mem hm
  have hget : (way nodes)[k]? = some m := by rw [List.getElem?_eq_getElem hk, hke]
  rcases way_ln nodes k m hget with ⟨_, _, _, _, h1⟩ | ⟨_, _, p, hp, _, hmem⟩
  · have := hr 0 i hpos hi; omega
  · have hpn := (way_wy nodes).at_ p (List.mem_of_getElem? hp)
    have hx : (⟨m.name, m.id⟩ : Ent) ∈ flat nodes := flat_mem.2 ⟨p.node, by rw [hpn.2]; exact hpn.1, hmem⟩
    have := links_pos hx
    rw [← he]; exact this

/-- The document's own way to ask. -/
def okRef (t : Tr) (i : Nat) : Bool := plainB (ndAt t.nodes i) && okNum t.nodes t.last i && (ndAt t.nodes i).es.all fun x => decide (place t.nodes x.to < t.nodes.length)
def okLinks (nodes : List Nd) (i : Nat) : Bool :=
  !(i == 0 && decide (0 < links nodes (ndAt nodes i).id)) && !(decide (0 < i) && links nodes (ndAt nodes i).id == 0) && !((ndAt nodes i).kind == 1 && decide (1 < links nodes (ndAt nodes i).id))
def headB (t : Tr) : Bool := decide (1 ≤ t.nodes.length ∧ t.nodes.length ≤ 512 ∧ (ndAt t.nodes 0).id = 1 ∧ (ndAt t.nodes 0).kind = 1)
def refB (t : Tr) : Bool := headB t && allTo (okRef t) t.nodes.length && allTo (okLinks t.nodes) t.nodes.length && reachedB t.nodes

theorem check_parts {t : Tr} (h : checkB t = true) : headB t = true ∧ allTo (okNum t.nodes t.last) t.nodes.length = true ∧ nodesB t.nodes = true ∧ ledB t.nodes = true ∧ reachedB t.nodes = true := by
  simp only [checkB, numB, Bool.and_eq_true] at h
  exact ⟨h.1.1.1.1, h.1.1.1.2, h.1.1.2, h.1.2, h.2⟩
theorem head_parts {t : Tr} (h : headB t = true) : 1 ≤ t.nodes.length ∧ t.nodes.length ≤ 512 ∧ (ndAt t.nodes 0).id = 1 ∧ (ndAt t.nodes 0).kind = 1 := by simpa [headB] using h
theorem check_of {t : Tr} (h1 : headB t = true) (h2 : allTo (okNum t.nodes t.last) t.nodes.length = true) (h3 : nodesB t.nodes = true) (h4 : ledB t.nodes = true) (h5 : reachedB t.nodes = true) : checkB t = true := by
  simp only [checkB, numB, Bool.and_eq_true]; exact ⟨⟨⟨⟨h1, h2⟩, h3⟩, h4⟩, h5⟩

theorem check_ref {t : Tr} (h : checkB t = true) : refB t = true := by
  obtain ⟨hh, hn, hp, hl, hr⟩ := check_parts h
  obtain ⟨k1, k2, k3, k4⟩ := head_parts hh
  have hri := rising_of_ok hn
  simp only [refB, Bool.and_eq_true]
  refine ⟨⟨⟨hh, allTo_iff.2 fun i hi => ?_⟩, allTo_iff.2 fun i hi => ?_⟩, hr⟩
  · simp only [okRef, Bool.and_eq_true]
    refine ⟨⟨allTo_iff.1 hp i hi, allTo_iff.1 hn i hi⟩, List.all_eq_true.2 fun x hx => ?_⟩
    have := (led_mem hl (flat_mem.2 ⟨i, hi, hx⟩)).1
    simpa using this
  · simp only [okLinks, Bool.and_eq_true, Bool.not_eq_true', Bool.and_eq_false_iff]
    refine ⟨⟨?_, ?_⟩, ?_⟩
    · by_cases e : i = 0
      · subst e
        right
        rw [k3, links_zero (fun x hx => (led_mem hl hx).2.1)]; rfl
      · left; simpa using e
    · by_cases e : i = 0
      · subst e; left; rfl
      · right
        have := reached_links hr hri k3 hi (by omega)
        simpa using by omega
    · by_cases e : (ndAt t.nodes i).kind = 1
      · right
        rcases Nat.eq_zero_or_pos (links t.nodes (ndAt t.nodes i).id) with h0 | h0
        · rw [h0]; rfl
        · obtain ⟨x, hx, he⟩ := List.countP_pos_iff.1 h0
          have he : x.to = (ndAt t.nodes i).id := by simpa using he
          have h3 := (led_mem hl hx).2.2
          rw [he, hri.place hi] at h3
          have := h3 e
          simpa using this
      · left; simpa using e
theorem ref_check {t : Tr} (h : refB t = true) : checkB t = true := by
  simp only [refB, Bool.and_eq_true] at h
  obtain ⟨⟨⟨hh, h1⟩, h2⟩, hr⟩ := h
  obtain ⟨k1, k2, k3, k4⟩ := head_parts hh
  have hk : ∀ i, i < t.nodes.length → plainB (ndAt t.nodes i) = true ∧ okNum t.nodes t.last i = true ∧ ∀ x ∈ (ndAt t.nodes i).es, place t.nodes x.to < t.nodes.length := by
    intro i hi
    have := allTo_iff.1 h1 i hi
    simp only [okRef, Bool.and_eq_true] at this
    exact ⟨this.1.1, this.1.2, fun x hx => by simpa using List.all_eq_true.1 this.2 x hx⟩
  refine check_of hh (allTo_iff.2 fun i hi => (hk i hi).2.1) (allTo_iff.2 fun i hi => (hk i hi).1) (List.all_eq_true.2 fun x hx => ?_) hr
  have hri : Rising t.nodes := rising_of_ok (allTo_iff.2 fun i hi => (hk i hi).2.1)
  obtain ⟨i, hi, hxi⟩ := flat_mem.1 hx
  have hpl := (hk i hi).2.2 x hxi
  have hpos := links_pos hx
  simp only [okLed, Bool.and_eq_true]
  refine ⟨⟨by simpa using hpl, ?_⟩, ?_⟩
  · have := allTo_iff.1 h2 0 (by omega)
    simp only [okLinks, Bool.and_eq_true] at this
    have h3 := this.1.1
    rw [k3] at h3
    simp only [bne_iff_ne]
    intro e
    rw [e] at hpos
    simp [hpos] at h3
  · have := allTo_iff.1 h2 _ hpl
    simp only [okLinks, Bool.and_eq_true] at this
    have h3 := this.2
    rw [place_id hpl] at h3
    by_cases e : (ndAt t.nodes (place t.nodes x.to)).kind = 1
    · simp [e] at h3 ⊢; exact h3
    · simp [e]
theorem check_eq (t : Tr) : refB t = checkB t := by
  cases h : checkB t with
  | true => exact check_ref h
  | false =>
    cases h2 : refB t with
    | false => rfl
    | true => rw [ref_check h2] at h; cases h

/-- Of a tree that may be. -/
theorem check_rising {t : Tr} (h : checkB t = true) : Rising t.nodes := rising_of_ok (check_parts h).2.1
theorem plain_ents {n : Nd} (h : plainB n = true) : entsB n.es = true := by
  simp only [plainB, Bool.and_eq_true] at h
  have h2 := h.2
  split at h2
  · simp only [Bool.and_eq_true] at h2; exact h2.2
  · split at h2
    · simp only [Bool.and_eq_true, decide_eq_true_eq] at h2; rw [h2.2]; rfl
    · split at h2
      · simp only [Bool.and_eq_true, decide_eq_true_eq] at h2; rw [h2.2]; rfl
      · cases h2
theorem check_ents {t : Tr} (h : checkB t = true) {i : Nat} (hi : i < t.nodes.length) : entsB (ndAt t.nodes i).es = true := plain_ents (allTo_iff.1 (check_parts h).2.2.1 i hi)
theorem check_place1 {t : Tr} (h : checkB t = true) : place t.nodes 1 = 0 := by
  obtain ⟨k1, k2, k3, k4⟩ := head_parts (check_parts h).1
  have := (check_rising h).place (i := 0) (by omega)
  rwa [k3] at this

/-- What stands at a meeting. -/
def itAt (l : List Item) (k : Nat) : Item := l.getD k ⟨0, 0, [], 0, []⟩
theorem itAt_get {l : List Item} {k : Nat} (h : k < l.length) : l[k]? = some (itAt l k) := by simp [itAt, h]
theorem itAt_mem {l : List Item} {k : Nat} (h : k < l.length) : itAt l k ∈ l := List.mem_of_getElem? (itAt_get h)
def metAt (l : List Item) (id : Int) : Nat := l.findIdx fun m => m.id == id
theorem metAt_lt {l : List Item} {id : Int} (h : met l id = true) : metAt l id < l.length := by
  obtain ⟨m, hm, he⟩ := met_iff.1 h
  exact List.findIdx_lt_length_of_exists ⟨m, hm, by simp [he]⟩
theorem metAt_id {l : List Item} {id : Int} (h : met l id = true) : (itAt l (metAt l id)).id = id := by
  have hl := metAt_lt h
  have := List.findIdx_getElem (w := hl)
  have e : itAt l (metAt l id) = l[metAt l id] := by simp [itAt, hl]
  rw [e]; exact eq_of_beq this
theorem Wy.inj {nodes : List Nd} {l : List Item} (h : Wy nodes l) {i j : Nat} (hi : i < l.length) (hj : j < l.length) (e : (itAt l i).id = (itAt l j).id) : i = j := by
  have key : ∀ a b, a < b → b < l.length → (itAt l a).id ≠ (itAt l b).id := by
    intro a b hab hb
    have hal : a < l.length := by omega
    have := List.pairwise_iff_getElem.1 h.ids a b (by simpa using hal) (by simpa using hb) hab
    simpa [itAt, hal, hb] using this
  rcases Nat.lt_trichotomy i j with hlt | rfl | hlt
  · exact absurd e (key i j hlt hj)
  · rfl
  · exact absurd e.symm (key j i hlt hi)
theorem Wy.metAt {nodes : List Nd} {l : List Item} (h : Wy nodes l) {k : Nat} (hk : k < l.length) : metAt l (itAt l k).id = k := by
  have hm : met l (itAt l k).id = true := met_iff.2 ⟨_, itAt_mem hk, rfl⟩
  exact h.inj (metAt_lt hm) hk (metAt_id hm)
theorem Wy.node {nodes : List Nd} {l : List Item} (h : Wy nodes l) {k : Nat} (hk : k < l.length) : (itAt l k).node < nodes.length ∧ (ndAt nodes (itAt l k).node).id = (itAt l k).id := by
  obtain ⟨h1, h2⟩ := h.at_ _ (itAt_mem hk)
  rw [h2]; exact ⟨h1, place_id h1⟩

/-- Names on the way, joined. -/
def pathOf (ns : List Bs) : Bs := if ns = [] then [47] else ns.flatMap fun n => 47 :: n
theorem nameB_parts {n : Bs} (h : nameB n = true) : n ≠ [] ∧ 47 ∉ n ∧ n.length ≤ 64 := by
  simp [nameB] at h
  exact ⟨h.1.1.1.1.1, h.1.1.1.2, h.1.1.1.1.2⟩
theorem bare_name (x n : Bs) (h : nameB n = true) : bare (x ++ 47 :: n) = x ++ 47 :: n := by
  obtain ⟨h1, h2, _⟩ := nameB_parts h
  rcases snoc_cases n with rfl | ⟨t, c, rfl⟩
  · exact absurd rfl h1
  · have hc : c ≠ 47 := fun e => h2 (by simp [e])
    have : x ++ 47 :: (t ++ [c]) = (x ++ 47 :: t) ++ [c] := by simp
    rw [this, bare_snoc_other _ _ hc]
theorem pathOf_snoc {ns : List Bs} (h : ∀ n ∈ ns, nameB n = true) (n : Bs) : joinL (pathOf ns) n = pathOf (ns ++ [n]) := by
  rcases snoc_cases ns with rfl | ⟨t, m, rfl⟩
  · simp [joinL, pathOf, bare, Go.Lib.trimRightB]
  · have e : pathOf (t ++ [m]) = (t.flatMap fun n => 47 :: n) ++ 47 :: m := by simp [pathOf]
    unfold joinL
    rw [e, bare_name _ _ (h m (by simp))]
    simp [pathOf]

/-- The names on the way back from a meeting. -/
def back (l : List Item) : Nat → Nat → List Bs
  | 0, _ => []
  | f + 1, at_ => if at_ = 0 then [] else (itAt l at_).name :: back l f (itAt l at_).fr
theorem back_zero (l : List Item) (f : Nat) : back l f 0 = [] := by cases f <;> simp [back]
theorem back_any {l : List Item} (h : ∀ k, 0 < k → k < l.length → (itAt l k).fr < k) : ∀ f g k, k ≤ f → k ≤ g → k < l.length → back l f k = back l g k := by
  intro f
  induction f with
  | zero => intro g k h1 h2 _; obtain rfl : k = 0 := by omega
            rw [back_zero, back_zero]
  | succ f ih =>
    intro g k h1 h2 hk
    by_cases e : k = 0
    · subst e; rw [back_zero, back_zero]
    · cases g with
      | zero => omega
      | succ g =>
        have := h k (by omega) hk
        rw [back, back, if_neg e, if_neg e, ih g _ (by omega) (by omega) (by omega)]
theorem Ln.fr {nodes : List Nd} {l : List Item} (h : Ln nodes l) {k : Nat} (h0 : 0 < k) (hk : k < l.length) : (itAt l k).fr < k := by
  rcases h k _ (itAt_get hk) with ⟨e, _⟩ | ⟨_, h2, _⟩
  · omega
  · exact h2
theorem Ln.parent {nodes : List Nd} {l : List Item} (h : Ln nodes l) {k : Nat} (h0 : 0 < k) (hk : k < l.length) :
    (itAt l k).path = joinL (itAt l (itAt l k).fr).path (itAt l k).name ∧ (⟨(itAt l k).name, (itAt l k).id⟩ : Ent) ∈ (ndAt nodes (itAt l (itAt l k).fr).node).es := by
  rcases h k _ (itAt_get hk) with ⟨e, _⟩ | ⟨_, h2, p, hp, h4, h5⟩
  · omega
  · have : itAt l (itAt l k).fr = p := by
      have h6 := itAt_get (l := l) (k := (itAt l k).fr) (by omega)
      rw [hp] at h6; exact (Option.some.inj h6).symm
    rw [this]; exact ⟨h4, h5⟩
theorem Ln.root {nodes : List Nd} {l : List Item} (h : Ln nodes l) (hk : 0 < l.length) : (itAt l 0).path = [47] ∧ (itAt l 0).id = 1 := by
  rcases h 0 _ (itAt_get hk) with ⟨_, _, _, h1, h2⟩ | ⟨h1, _⟩
  · exact ⟨h1, h2⟩
  · omega
/-- All names on the way may be; a meeting's path is its names, joined. -/
theorem back_names {nodes : List Nd} {l : List Item} (hw : Wy nodes l) (h : Ln nodes l) (hn : ∀ i, i < nodes.length → entsB (ndAt nodes i).es = true) :
    ∀ f k, k ≤ f → k < l.length → (∀ n ∈ back l f k, nameB n = true) ∧ (itAt l k).path = pathOf (back l f k).reverse := by
  intro f
  induction f with
  | zero =>
    intro k h1 hk
    obtain rfl : k = 0 := by omega
    exact ⟨by simp [back], (h.root hk).1⟩
  | succ f ih =>
    intro k h1 hk
    by_cases e : k = 0
    · subst e; rw [back_zero]; exact ⟨by simp, (h.root hk).1⟩
    · have hf := h.fr (by omega) hk
      obtain ⟨g1, g2⟩ := h.parent (by omega) hk
      obtain ⟨i1, i2⟩ := ih (itAt l k).fr (by omega) (by omega)
      have hname : nameB (itAt l k).name = true := name_of_ents (hn _ (hw.node (k := (itAt l k).fr) (by omega)).1) g2
      rw [back, if_neg e]
      refine ⟨fun n hm => ?_, ?_⟩
      · rcases List.mem_cons.1 hm with rfl | hm
        · exact hname
        · exact i1 n hm
      · rw [g1, i2, List.reverse_cons, pathOf_snoc (fun n hm => i1 n (List.mem_reverse.1 hm))]
theorem back_len {l : List Item} : ∀ f k, (back l f k).length ≤ f := by
  intro f
  induction f with
  | zero => intro k; simp [back]
  | succ f ih =>
    intro k
    rw [back]
    split
    · simp
    · have := ih (itAt l k).fr; simp; omega

/-- From a directory on, name by name. -/
def stepTo (nodes : List Nd) (a : Int) (n : Bs) : Option Int := if place nodes a < nodes.length then childO (ndAt nodes (place nodes a)).es n else none
def goTo (nodes : List Nd) : Int → List Bs → Option Int
  | a, [] => some a
  | a, n :: ns => (stepTo nodes a n).bind fun b => goTo nodes b ns
theorem goTo_snoc (nodes : List Nd) : ∀ (ns : List Bs) (a : Int) (n : Bs), goTo nodes a (ns ++ [n]) = (goTo nodes a ns).bind fun b => stepTo nodes b n := by
  intro ns
  induction ns with
  | nil => intro a n; simp [goTo]
  | cons m ns ih =>
    intro a n
    rw [List.cons_append, goTo, goTo]
    cases stepTo nodes a m with
    | none => rfl
    | some b => simp only [Option.bind_some]; exact ih b n
theorem back_goTo {nodes : List Nd} {l : List Item} (hw : Wy nodes l) (h : Ln nodes l) (hn : ∀ i, i < nodes.length → entsB (ndAt nodes i).es = true) :
    ∀ f k, k ≤ f → k < l.length → goTo nodes 1 (back l f k).reverse = some (itAt l k).id := by
  intro f
  induction f with
  | zero =>
    intro k h1 hk
    obtain rfl : k = 0 := by omega
    rw [(h.root hk).2]; rfl
  | succ f ih =>
    intro k h1 hk
    by_cases e : k = 0
    · subst e; rw [back_zero, (h.root hk).2]; rfl
    · have hf := h.fr (by omega) hk
      obtain ⟨g1, g2⟩ := h.parent (by omega) hk
      obtain ⟨n1, n2⟩ := hw.node (k := (itAt l k).fr) (by omega)
      have hp := (hw.at_ _ (itAt_mem (k := (itAt l k).fr) (by omega)))
      rw [back, if_neg e, List.reverse_cons, goTo_snoc, ih (itAt l k).fr (by omega) (by omega)]
      simp only [Option.bind_some, stepTo]
      rw [if_pos hp.1, ← hp.2]
      exact childO_mem (sorted_of_ents (hn _ n1)) g2

end TreeM
