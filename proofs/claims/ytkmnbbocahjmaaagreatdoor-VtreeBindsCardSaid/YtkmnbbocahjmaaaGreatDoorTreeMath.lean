/- DERIVED. Plain mathematics of layer 4 (trees of files as lists): which trees may be, the way through a tree. No program, no world. -/
import Derived.Test.YtkmnbbocahjmaaaGreatDoorPathMath
namespace TreeM
open PathM
set_option linter.unusedVariables false

structure Ent where
  key : Bs
  to : Int
deriving DecidableEq, Inhabited

structure Nd where
  id : Int
  kind : Int
  mode : Int
  owner : Int
  time : Int
  data : Bs
  es : List Ent
deriving DecidableEq, Inhabited

structure Tr where
  nodes : List Nd
  last : Int
  rn : Int
  rb : Int
deriving DecidableEq, Inhabited

/-- Does a thing hold of all numbers below k? -/
def allTo (p : Nat → Bool) : Nat → Bool
  | 0 => true
  | k + 1 => allTo p k && p k
theorem allTo_iff {p : Nat → Bool} {n : Nat} : allTo p n = true ↔ ∀ i, i < n → p i = true := by
  induction n with
  | zero => simp [allTo]
  | succ n ih =>
    rw [allTo, Bool.and_eq_true, ih]
    constructor
    · rintro ⟨h1, h2⟩ i hi
      by_cases e : i = n
      · subst e; exact h2
      · exact h1 i (by omega)
    · intro h; exact ⟨fun i hi => h i (by omega), h n (by omega)⟩
theorem allTo_not {p : Nat → Bool} {n i : Nat} (hi : i < n) (h : p i = false) : allTo p n = false := by
  cases e : allTo p n with
  | false => rfl
  | true => rw [allTo_iff.1 e i hi] at h; cases h
theorem allTo_succ {p : Nat → Bool} {k : Nat} (h : allTo p k = true) (hk : p k = true) : allTo p (k + 1) = true := by rw [allTo, h, hk]; rfl

def entAt (es : List Ent) (i : Nat) : Ent := es.getD i ⟨[], 0⟩
def ndAt (l : List Nd) (i : Nat) : Nd := l.getD i ⟨0, 0, 0, 0, 0, [], []⟩
theorem entAt_get {es : List Ent} {i : Nat} (h : i < es.length) : es[i]? = some (entAt es i) := by simp [entAt, h]
theorem ndAt_get {l : List Nd} {i : Nat} (h : i < l.length) : l[i]? = some (ndAt l i) := by simp [ndAt, h]
theorem entAt_mem {es : List Ent} {i : Nat} (h : i < es.length) : entAt es i ∈ es := List.mem_of_getElem? (entAt_get h)
theorem ndAt_mem {l : List Nd} {i : Nat} (h : i < l.length) : ndAt l i ∈ l := List.mem_of_getElem? (ndAt_get h)
theorem ent_of_mem {es : List Ent} {x : Ent} (h : x ∈ es) : ∃ i, i < es.length ∧ entAt es i = x := by
  obtain ⟨i, hi, e⟩ := List.getElem_of_mem h
  exact ⟨i, hi, by simp [entAt, hi, e]⟩
theorem nd_of_mem {l : List Nd} {x : Nd} (h : x ∈ l) : ∃ i, i < l.length ∧ ndAt l i = x := by
  obtain ⟨i, hi, e⟩ := List.getElem_of_mem h
  exact ⟨i, hi, by simp [ndAt, hi, e]⟩

/-- P4.2: entries. -/
def okEnt (es : List Ent) (i : Nat) : Bool := nameB (entAt es i).key && (i == 0 || decide ((entAt es (i - 1)).key < (entAt es i).key))
def entsB (es : List Ent) : Bool := allTo (okEnt es) es.length

/-- A node may be. -/
def plainB (n : Nd) : Bool :=
  decide (0 ≤ n.mode ∧ n.mode ≤ 511 ∧ 0 ≤ n.owner ∧ n.owner ≤ 65535 ∧ 0 ≤ n.time ∧ n.time ≤ 1099511627776) &&
  (if n.kind = 1 then decide (n.data = []) && entsB n.es
   else if n.kind = 2 then decide (n.data.length ≤ 4096) && decide (n.es = [])
   else if n.kind = 3 then decide (n.data ≠ []) && decide (n.data.length ≤ 256) && !n.data.contains 0 && decide (n.es = [])
   else false)

/-- The numbers of nodes rise. -/
def okNum (l : List Nd) (last : Int) (i : Nat) : Bool := decide ((ndAt l i).id ≤ last) && (i == 0 || decide ((ndAt l (i - 1)).id < (ndAt l i).id))
def numB (t : Tr) : Bool := decide (1 ≤ t.nodes.length ∧ t.nodes.length ≤ 512 ∧ (ndAt t.nodes 0).id = 1 ∧ (ndAt t.nodes 0).kind = 1) && allTo (okNum t.nodes t.last) t.nodes.length
def nodesB (l : List Nd) : Bool := allTo (fun i => plainB (ndAt l i)) l.length

theorem rise_of {α : Type} {r : α → α → Prop} (f : Nat → α) (n : Nat) (trans : ∀ a b c, r a b → r b c → r a c) (adj : ∀ i, i + 1 < n → r (f i) (f (i + 1))) :
    ∀ i j, i < j → j < n → r (f i) (f j) := by
  intro i j hij
  obtain ⟨d, rfl⟩ : ∃ d, j = i + 1 + d := ⟨j - (i + 1), by omega⟩
  clear hij
  induction d with
  | zero => intro h; exact adj i h
  | succ d ih => intro h; exact trans _ _ _ (ih (by omega)) (adj (i + 1 + d) (by omega))

def Rising (l : List Nd) : Prop := ∀ i j, i < j → j < l.length → (ndAt l i).id < (ndAt l j).id
theorem rising_of_ok {l : List Nd} {last : Int} (h : allTo (okNum l last) l.length = true) : Rising l := by
  refine rise_of (r := (· < ·)) (fun i => (ndAt l i).id) l.length (fun a b c => Int.lt_trans) (fun i hi => ?_)
  have := allTo_iff.1 h (i + 1) hi
  simp [okNum] at this
  exact this.2
theorem Rising.inj {l : List Nd} (h : Rising l) {i j : Nat} (hi : i < l.length) (hj : j < l.length) (e : (ndAt l i).id = (ndAt l j).id) : i = j := by
  rcases Nat.lt_trichotomy i j with hlt | rfl | hlt
  · have := h i j hlt hj; omega
  · rfl
  · have := h j i hlt hi; omega

def Sorted (es : List Ent) : Prop := ∀ i j, i < j → j < es.length → (entAt es i).key < (entAt es j).key
theorem bs_trans (a b c : Bs) (h1 : a < b) (h2 : b < c) : a < c := List.lt_trans h1 h2
theorem bs_irrefl (a : Bs) : ¬ a < a := List.lt_irrefl a
theorem bs_tri (a b : Bs) : a < b ∨ a = b ∨ b < a := by
  by_cases h1 : a < b
  · exact .inl h1
  · by_cases h2 : b < a
    · exact .inr (.inr h2)
    · exact .inr (.inl (List.le_antisymm (List.not_lt.1 h2) (List.not_lt.1 h1)))
theorem sorted_of_ents {es : List Ent} (h : entsB es = true) : Sorted es := by
  refine rise_of (r := (· < ·)) (fun i => (entAt es i).key) es.length bs_trans (fun i hi => ?_)
  have := allTo_iff.1 h (i + 1) hi
  simp [okEnt] at this
  exact this.2
theorem name_of_ents {es : List Ent} (h : entsB es = true) {x : Ent} (hx : x ∈ es) : nameB x.key = true := by
  obtain ⟨i, hi, rfl⟩ := ent_of_mem hx
  have := allTo_iff.1 h i hi
  simp only [okEnt, Bool.and_eq_true] at this
  exact this.1
theorem Sorted.inj {l : List Ent} (h : Sorted l) {i j : Nat} (hi : i < l.length) (hj : j < l.length) (e : (entAt l i).key = (entAt l j).key) : i = j := by
  rcases Nat.lt_trichotomy i j with hlt | rfl | hlt
  · have := h i j hlt hj; rw [e] at this; exact absurd this (bs_irrefl _)
  · rfl
  · have := h j i hlt hi; rw [e] at this; exact absurd this (bs_irrefl _)

/-- Where a number's node stands; the length: nowhere. -/
def place (l : List Nd) (id : Int) : Nat := l.findIdx fun n => n.id == id
theorem place_le (l : List Nd) (id : Int) : place l id ≤ l.length := List.findIdx_le_length
theorem place_id {l : List Nd} {id : Int} (h : place l id < l.length) : (ndAt l (place l id)).id = id := by
  have := List.findIdx_getElem (w := h)
  have e : ndAt l (place l id) = l[place l id] := by simp [ndAt, h]
  rw [e]; exact eq_of_beq this
theorem place_lt {l : List Nd} {id : Int} {i : Nat} (hi : i < l.length) (e : (ndAt l i).id = id) : place l id < l.length :=
  List.findIdx_lt_length_of_exists ⟨ndAt l i, ndAt_mem hi, by simp [e]⟩
theorem place_before {l : List Nd} {id : Int} {i : Nat} (h : i < place l id) : (ndAt l i).id ≠ id := by
  have h2 := List.not_of_lt_findIdx h
  have hl : i < l.length := Nat.lt_of_lt_of_le h (place_le l id)
  simpa [ndAt, hl] using h2
theorem place_eq {l : List Nd} {id : Int} {i : Nat} (hi : i < l.length) (e : (ndAt l i).id = id) (hb : ∀ j, j < i → (ndAt l j).id ≠ id) : place l id = i := by
  rcases Nat.lt_trichotomy (place l id) i with h | h | h
  · exact absurd (place_id (by omega)) (hb _ h)
  · exact h
  · exact absurd e (place_before h)
theorem place_none {l : List Nd} {id : Int} (h : ∀ i, i < l.length → (ndAt l i).id ≠ id) : place l id = l.length := by
  have := place_le l id
  rcases Nat.lt_or_ge (place l id) l.length with h1 | h1
  · exact absurd (place_id h1) (h _ h1)
  · omega
theorem Rising.place {l : List Nd} (h : Rising l) {i : Nat} (hi : i < l.length) : place l (ndAt l i).id = i :=
  h.inj (place_lt hi rfl) hi (place_id (place_lt hi rfl))

/-- Counting over a boundary. -/
theorem cnt_succ (q : Nat → Bool) (n : Nat) : (List.range (n + 1)).countP q = (List.range n).countP q + (if q n = true then 1 else 0) := by
  rw [List.range_succ, List.countP_append]; simp [List.countP_cons]
theorem cnt_le (q : Nat → Bool) (n : Nat) : (List.range n).countP q ≤ n := by
  have := List.countP_le_length (p := q) (l := List.range n); simpa using this
theorem cnt_spec (q : Nat → Bool) : ∀ n, (∀ a b, a ≤ b → b < n → q b = true → q a = true) →
    (∀ i, i < (List.range n).countP q → q i = true) ∧ (∀ i, (List.range n).countP q ≤ i → i < n → q i = false) := by
  intro n
  induction n with
  | zero => intro _; simp
  | succ n ih =>
    intro h
    obtain ⟨h1, h2⟩ := ih (fun a b hab hb => h a b hab (by omega))
    have hle := cnt_le q n
    rw [cnt_succ]
    cases hq : q n with
    | true =>
      have hall : ∀ a, a ≤ n → q a = true := fun a ha => h a n ha (by omega) hq
      have : (List.range n).countP q = n := by
        rcases Nat.lt_or_ge ((List.range n).countP q) n with hlt | hge
        · have := h2 _ (Nat.le_refl _) hlt; rw [hall _ (by omega)] at this; cases this
        · omega
      simp only [if_true, this]
      exact ⟨fun i hi => hall i (by omega), fun i h3 h4 => by omega⟩
    | false =>
      simp only [Bool.false_eq_true, if_false, Nat.add_zero]
      refine ⟨h1, fun i h3 h4 => ?_⟩
      by_cases e : i = n
      · subst e; exact hq
      · exact h2 i h3 (by omega)

/-- What the code's search finds among nodes: how many have a lesser number. -/
def low (l : List Nd) (id : Int) : Nat := (List.range l.length).countP fun i => !decide (id ≤ (ndAt l i).id)
theorem low_le (l : List Nd) (id : Int) : low l id ≤ l.length := cnt_le _ _
theorem low_mono {l : List Nd} (h : Rising l) (id : Int) : ∀ a b, a ≤ b → b < l.length → (!decide (id ≤ (ndAt l b).id)) = true → (!decide (id ≤ (ndAt l a).id)) = true := by
  intro a b hab hb hq
  simp at hq ⊢
  by_cases e : a = b
  · subst e; exact hq
  · have := h a b (by omega) hb; omega
theorem low_spec {l : List Nd} (h : Rising l) (id : Int) : (∀ i, i < low l id → (ndAt l i).id < id) ∧ (∀ i, low l id ≤ i → i < l.length → id ≤ (ndAt l i).id) := by
  obtain ⟨h1, h2⟩ := cnt_spec (fun i => !decide (id ≤ (ndAt l i).id)) l.length (low_mono h id)
  exact ⟨fun i hi => by simpa using h1 i hi, fun i h3 h4 => by simpa using h2 i h3 h4⟩
/-- What find answers: the place, and whether it is there. -/
theorem low_place {l : List Nd} (h : Rising l) (id : Int) : (low l id < l.length ∧ (ndAt l (low l id)).id = id) ↔ place l id < l.length := by
  constructor
  · rintro ⟨h1, h2⟩; exact place_lt h1 h2
  · intro hp
    obtain ⟨h1, h2⟩ := low_spec h id
    have he := place_id hp
    have hle : low l id ≤ place l id := by
      rcases Nat.lt_or_ge (place l id) (low l id) with hlt | hge
      · have := h1 _ hlt; omega
      · exact hge
    have hlt : low l id < l.length := by omega
    refine ⟨hlt, ?_⟩
    have h3 := h2 _ (Nat.le_refl _) hlt
    by_cases e : low l id = place l id
    · rw [e]; exact he
    · have := h (low l id) (place l id) (by omega) hp; omega
theorem low_eq {l : List Nd} (h : Rising l) {id : Int} (hp : place l id < l.length) : low l id = place l id := by
  obtain ⟨h1, h2⟩ := (low_place h id).2 hp
  exact h.inj h1 hp (h2.trans (place_id hp).symm)

/-- The entry of a name. -/
def childO (es : List Ent) (key : Bs) : Option Int := (es.find? fun x => x.key == key).map (·.to)
def klow (es : List Ent) (key : Bs) : Nat := (List.range es.length).countP fun i => !(!decide ((entAt es i).key < key))
theorem klow_le (es : List Ent) (key : Bs) : klow es key ≤ es.length := cnt_le _ _
theorem klow_mono {es : List Ent} (h : Sorted es) (key : Bs) : ∀ a b, a ≤ b → b < es.length → (!(!decide ((entAt es b).key < key))) = true → (!(!decide ((entAt es a).key < key))) = true := by
  intro a b hab hb hq
  simp at hq ⊢
  by_cases e : a = b
  · subst e; exact hq
  · exact bs_trans _ _ _ (h a b (by omega) hb) hq
theorem klow_spec {es : List Ent} (h : Sorted es) (key : Bs) : (∀ i, i < klow es key → (entAt es i).key < key) ∧ (∀ i, klow es key ≤ i → i < es.length → ¬ (entAt es i).key < key) := by
  obtain ⟨h1, h2⟩ := cnt_spec (fun i => !(!decide ((entAt es i).key < key))) es.length (klow_mono h key)
  exact ⟨fun i hi => by simpa using h1 i hi, fun i h3 h4 => by simpa using h2 i h3 h4⟩
theorem childO_at {es : List Ent} (h : Sorted es) {i : Nat} (hi : i < es.length) : childO es (entAt es i).key = some (entAt es i).to := by
  unfold childO
  have hf : es.find? (fun x => x.key == (entAt es i).key) = some (entAt es i) := by
    rw [List.find?_eq_some_iff_getElem]
    refine ⟨by simp, i, hi, by simp [entAt, hi], fun j hj => ?_⟩
    have := h j i hj hi
    have hne : (entAt es j).key ≠ (entAt es i).key := fun e => by rw [e] at this; exact bs_irrefl _ this
    have hjl : j < es.length := by omega
    simpa [entAt, hjl] using hne
  rw [hf]; rfl
theorem childO_mem {es : List Ent} (h : Sorted es) {x : Ent} (hx : x ∈ es) : childO es x.key = some x.to := by
  obtain ⟨i, hi, rfl⟩ := ent_of_mem hx
  exact childO_at h hi
theorem klow_child {es : List Ent} (h : Sorted es) (key : Bs) :
    childO es key = if klow es key = es.length ∨ (entAt es (klow es key)).key ≠ key then none else some (entAt es (klow es key)).to := by
  obtain ⟨h1, h2⟩ := klow_spec h key
  have hle := klow_le es key
  split
  · rename_i hc
    unfold childO
    have : es.find? (fun x => x.key == key) = none := by
      rw [List.find?_eq_none]
      intro x hx
      obtain ⟨j, hj, rfl⟩ := ent_of_mem hx
      intro he
      have he : (entAt es j).key = key := by simpa using he
      rcases Nat.lt_or_ge j (klow es key) with hlt | hge
      · have := h1 j hlt; rw [he] at this; exact bs_irrefl _ this
      · have hlt : klow es key < es.length := by omega
        have hne := (hc.resolve_left (by omega))
        have h3 := h2 _ (Nat.le_refl _) hlt
        by_cases e : klow es key = j
        · rw [e] at hne; exact hne he
        · have := h (klow es key) j (by omega) hj
          rw [he] at this; exact h3 this
    rw [this]; rfl
  · rename_i hc
    have hlt : klow es key < es.length := by
      rcases Nat.lt_or_ge (klow es key) es.length with h | h
      · exact h
      · exact absurd (.inl (by omega)) hc
    have he : (entAt es (klow es key)).key = key := by
      by_cases e : (entAt es (klow es key)).key = key
      · exact e
      · exact absurd (.inr e) hc
    have := childO_at h hlt
    rw [he] at this; exact this

/-- All entries; how many lead to a number. -/
def flat (l : List Nd) : List Ent := l.flatMap Nd.es
def links (l : List Nd) (id : Int) : Nat := (flat l).countP fun x => x.to == id
theorem flat_mem {l : List Nd} {x : Ent} : x ∈ flat l ↔ ∃ i, i < l.length ∧ x ∈ (ndAt l i).es := by
  unfold flat
  rw [List.mem_flatMap]
  constructor
  · rintro ⟨n, hn, hx⟩
    obtain ⟨i, hi, rfl⟩ := nd_of_mem hn
    exact ⟨i, hi, hx⟩
  · rintro ⟨i, hi, hx⟩
    exact ⟨_, ndAt_mem hi, hx⟩
theorem links_pos {l : List Nd} {x : Ent} (h : x ∈ flat l) : 0 < links l x.to := List.countP_pos_iff.2 ⟨x, h, by simp⟩
theorem links_zero {l : List Nd} {id : Int} (h : ∀ x ∈ flat l, x.to ≠ id) : links l id = 0 := by
  unfold links; rw [List.countP_eq_zero]; intro x hx; simpa using h x hx
theorem flat_take_succ (l : List Nd) (i : Nat) (h : i < l.length) : flat (l.take (i + 1)) = flat (l.take i) ++ (ndAt l i).es := by
  unfold flat
  rw [List.take_succ_eq_append_getElem h, List.flatMap_append]
  simp [ndAt, h]
theorem flat_all (l : List Nd) (i : Nat) (h : l.length ≤ i) : flat (l.take i) = flat l := by rw [List.take_of_length_le h]

/-- What led asks of an entry. -/
def okLed (l : List Nd) (x : Ent) : Bool := decide (place l x.to < l.length) && (x.to != 1) && ((ndAt l (place l x.to)).kind != 1 || decide (links l x.to ≤ 1))
def ledB (l : List Nd) : Bool := (flat l).all (okLed l)
theorem led_mem {l : List Nd} (h : ledB l = true) {x : Ent} (hx : x ∈ flat l) : place l x.to < l.length ∧ x.to ≠ 1 ∧ ((ndAt l (place l x.to)).kind = 1 → links l x.to ≤ 1) := by
  have := List.all_eq_true.1 h x hx
  simp only [okLed, Bool.and_eq_true, decide_eq_true_eq, bne_iff_ne, Bool.or_eq_true] at this
  exact ⟨this.1.1, this.1.2, fun hk => this.2.resolve_left (fun h => h hk)⟩

/-- The way through a tree: where a node is first met: its place, behind which meeting, under which name; its number, and the path. -/
structure Item where
  node : Nat
  fr : Nat
  name : Bs
  id : Int
  path : Bs
deriving DecidableEq, Inhabited

def met (l : List Item) (id : Int) : Bool := l.any fun m => m.id == id
def dfs (nodes : List Nd) : Nat → Int → Nat → Bs → Bs → List Item → List Item
  | 0, _, _, _, _, l => l
  | f + 1, id, fr, name, path, l =>
    if met l id = true then l else if nodes.length ≤ place nodes id then l else
      (ndAt nodes (place nodes id)).es.foldl (fun l' x => dfs nodes f x.to l.length x.key (joinL path x.key) l') (l ++ [⟨place nodes id, fr, name, id, path⟩])
/-- The entries of a node, one behind the other. -/
def dfsL (nodes : List Nd) (f : Nat) (here : Nat) (path : Bs) (es : List Ent) (l : List Item) : List Item :=
  es.foldl (fun l' x => dfs nodes f x.to here x.key (joinL path x.key) l') l
theorem dfs_met {nodes : List Nd} {f : Nat} {id : Int} {fr : Nat} {name path : Bs} {l : List Item} (h : met l id = true) : dfs nodes f id fr name path l = l := by
  cases f with
  | zero => rfl
  | succ f => rw [dfs, if_pos h]
theorem dfs_out {nodes : List Nd} {f : Nat} {id : Int} {fr : Nat} {name path : Bs} {l : List Item} (h : nodes.length ≤ place nodes id) : dfs nodes f id fr name path l = l := by
  cases f with
  | zero => rfl
  | succ f =>
    rw [dfs]; split
    · rfl
    · first | rfl | rw [if_pos h]
theorem dfs_new {nodes : List Nd} {f : Nat} {id : Int} {fr : Nat} {name path : Bs} {l : List Item} (h : met l id = false) (hp : place nodes id < nodes.length) :
    dfs nodes (f + 1) id fr name path l = dfsL nodes f l.length path (ndAt nodes (place nodes id)).es (l ++ [⟨place nodes id, fr, name, id, path⟩]) := by
  rw [dfs, if_neg (by rw [h]; simp), if_neg (by omega)]; rfl
theorem dfsL_nil {nodes : List Nd} {f here : Nat} {path : Bs} {l : List Item} : dfsL nodes f here path [] l = l := rfl
theorem dfsL_cons {nodes : List Nd} {f here : Nat} {path : Bs} {x : Ent} {es : List Ent} {l : List Item} :
    dfsL nodes f here path (x :: es) l = dfsL nodes f here path es (dfs nodes f x.to here x.key (joinL path x.key) l) := rfl
theorem dfsL_snoc {nodes : List Nd} {f here : Nat} {path : Bs} {x : Ent} {es : List Ent} {l : List Item} :
    dfsL nodes f here path (es ++ [x]) l = dfs nodes f x.to here x.key (joinL path x.key) (dfsL nodes f here path es l) := by
  unfold dfsL; rw [List.foldl_append]; rfl
theorem dfsL_take {nodes : List Nd} {f here : Nat} {path : Bs} {es : List Ent} {l : List Item} {k : Nat} (h : k < es.length) :
    dfsL nodes f here path (es.take (k + 1)) l = dfs nodes f (entAt es k).to here (entAt es k).key (joinL path (entAt es k).key) (dfsL nodes f here path (es.take k) l) := by
  rw [List.take_succ_eq_append_getElem h, dfsL_snoc]; simp [entAt, h]

/-- Whatever a step keeps, the way keeps. -/
theorem dfs_keeps {nodes : List Nd} (R : List Item → List Item → Prop) (refl : ∀ l, R l l) (trans : ∀ a b c, R a b → R b c → R a c)
    (add : ∀ l it, met l it.id = false → place nodes it.id < nodes.length → it.node = place nodes it.id → R l (l ++ [it])) :
    ∀ f id fr name path l, R l (dfs nodes f id fr name path l) := by
  intro f
  induction f with
  | zero => intro id fr name path l; exact refl l
  | succ f ih =>
    intro id fr name path l
    cases hm : met l id with
    | true => rw [dfs_met hm]; exact refl l
    | false =>
      rcases Nat.lt_or_ge (place nodes id) nodes.length with hp | hp
      · rw [dfs_new hm hp]
        refine trans _ _ _ (add l ⟨place nodes id, fr, name, id, path⟩ hm hp rfl) ?_
        generalize (l ++ [⟨place nodes id, fr, name, id, path⟩]) = l1
        generalize (ndAt nodes (place nodes id)).es = es
        generalize l.length = here
        induction es generalizing l1 with
        | nil => exact refl _
        | cons x es ihe => rw [dfsL_cons]; exact trans _ _ _ (ih _ _ _ _ _) (ihe _)
      · rw [dfs_out hp]; exact refl l
theorem dfsL_keeps {nodes : List Nd} (R : List Item → List Item → Prop) (refl : ∀ l, R l l) (trans : ∀ a b c, R a b → R b c → R a c)
    (add : ∀ l it, met l it.id = false → place nodes it.id < nodes.length → it.node = place nodes it.id → R l (l ++ [it])) (f here : Nat) (path : Bs) (es : List Ent) :
    ∀ l, R l (dfsL nodes f here path es l) := by
  induction es with
  | nil => intro l; exact refl l
  | cons x es ih => intro l; rw [dfsL_cons]; exact trans _ _ _ (dfs_keeps R refl trans add _ _ _ _ _ _) (ih _)

theorem dfs_prefix (nodes : List Nd) (f : Nat) (id : Int) (fr : Nat) (name path : Bs) (l : List Item) : l <+: dfs nodes f id fr name path l :=
  dfs_keeps (fun a b => a <+: b) (fun l => List.prefix_refl l) (fun a b c h1 h2 => h1.trans h2) (fun l it _ _ _ => List.prefix_append l [it]) f id fr name path l
theorem dfsL_prefix (nodes : List Nd) (f here : Nat) (path : Bs) (es : List Ent) (l : List Item) : l <+: dfsL nodes f here path es l :=
  dfsL_keeps (fun a b => a <+: b) (fun l => List.prefix_refl l) (fun a b c h1 h2 => h1.trans h2) (fun l it _ _ _ => List.prefix_append l [it]) f here path es l

theorem met_append (l m : List Item) (id : Int) : met (l ++ m) id = (met l id || met m id) := by unfold met; rw [List.any_append]
theorem met_mono {l m : List Item} (h : l <+: m) {id : Int} (hm : met l id = true) : met m id = true := by
  obtain ⟨t, rfl⟩ := h; rw [met_append, hm]; rfl
theorem met_iff {l : List Item} {id : Int} : met l id = true ↔ ∃ m ∈ l, m.id = id := by unfold met; rw [List.any_eq_true]; simp

/-- How many nodes were not met yet. -/
def unmet (nodes : List Nd) (l : List Item) : Nat := nodes.countP fun n => !met l n.id
theorem unmet_mono (nodes : List Nd) {l m : List Item} (h : l <+: m) : unmet nodes m ≤ unmet nodes l := by
  unfold unmet
  refine List.countP_mono_left (fun n _ hn => ?_)
  cases e : met l n.id with
  | false => rfl
  | true => rw [met_mono h e] at hn; exact hn
theorem countP_strict {α : Type} {p q : α → Bool} : ∀ (l : List α), (∀ x ∈ l, q x = true → p x = true) → (∃ x ∈ l, p x = true ∧ q x = false) → l.countP q < l.countP p
  | [], _, ⟨x, hx, _⟩ => by simp at hx
  | a :: t, hm, ⟨x, hx, hp, hq⟩ => by
    have hle : t.countP q ≤ t.countP p := List.countP_mono_left (fun y hy => hm y (List.mem_cons_of_mem a hy))
    rw [List.countP_cons, List.countP_cons]
    rcases List.mem_cons.1 hx with rfl | hx
    · rw [hp, hq]; simp; omega
    · have := countP_strict t (fun y hy => hm y (List.mem_cons_of_mem a hy)) ⟨x, hx, hp, hq⟩
      have h2 := hm a (by simp)
      cases ea : q a with
      | false => simp; omega
      | true => rw [h2 ea]; simp; omega
theorem unmet_add {nodes : List Nd} {l : List Item} {it : Item} (hm : met l it.id = false) (hp : place nodes it.id < nodes.length) : unmet nodes (l ++ [it]) < unmet nodes l := by
  refine countP_strict nodes (fun n _ hn => ?_) ⟨ndAt nodes (place nodes it.id), ndAt_mem hp, ?_, ?_⟩
  · rw [met_append] at hn
    cases e : met l n.id with
    | false => rfl
    | true => rw [e] at hn; exact hn
  · rw [place_id hp, hm]; rfl
  · rw [place_id hp, met_append]; simp [met]
theorem unmet_nil (nodes : List Nd) : unmet nodes [] = nodes.length := by
  unfold unmet met; rw [List.countP_eq_length.2]; simp
theorem unmet_zero {nodes : List Nd} {l : List Item} (h : unmet nodes l = 0) {id : Int} (hp : place nodes id < nodes.length) : met l id = true := by
  have := List.countP_eq_zero.1 h _ (ndAt_mem hp)
  rw [place_id hp] at this
  simpa using this

def way (nodes : List Nd) : List Item := dfs nodes nodes.length 1 0 [] [47] []
def reachedB (nodes : List Nd) : Bool := (way nodes).length == nodes.length
def checkB (t : Tr) : Bool := numB t && nodesB t.nodes && ledB t.nodes && reachedB t.nodes

/-- What stands on the way: each node once, each at its place. -/
structure Wy (nodes : List Nd) (l : List Item) : Prop where
  ids : (l.map Item.id).Nodup
  at_ : ∀ m ∈ l, place nodes m.id < nodes.length ∧ m.node = place nodes m.id
theorem Wy.add {nodes : List Nd} {l : List Item} {it : Item} (h : Wy nodes l) (hm : met l it.id = false) (hp : place nodes it.id < nodes.length) (hn : it.node = place nodes it.id) : Wy nodes (l ++ [it]) := by
  refine ⟨?_, fun m hmem => ?_⟩
  · rw [List.map_append, List.map_singleton, List.nodup_append]
    refine ⟨h.ids, by simp, fun a ha b hb => ?_⟩
    obtain ⟨m, hmem, rfl⟩ := List.mem_map.1 ha
    obtain rfl := List.mem_singleton.1 hb
    intro e
    have := met_iff.2 ⟨m, hmem, e⟩
    rw [hm] at this; cases this
  · rcases List.mem_append.1 hmem with h1 | h1
    · exact h.at_ m h1
    · obtain rfl := List.mem_singleton.1 h1; exact ⟨hp, hn⟩
theorem dfs_wy (nodes : List Nd) (f : Nat) (id : Int) (fr : Nat) (name path : Bs) (l : List Item) (h : Wy nodes l) : Wy nodes (dfs nodes f id fr name path l) :=
  dfs_keeps (fun a b => Wy nodes a → Wy nodes b) (fun _ h => h) (fun _ _ _ h1 h2 h => h2 (h1 h)) (fun l it hm hp hn h => h.add hm hp hn) f id fr name path l h
theorem way_wy (nodes : List Nd) : Wy nodes (way nodes) := dfs_wy nodes _ _ _ _ _ [] ⟨by simp, by simp⟩
theorem Wy.len {nodes : List Nd} {l : List Item} (h : Wy nodes l) : l.length + unmet nodes l ≤ nodes.length := by
  suffices H : ∀ k, k ≤ l.length → k + unmet nodes (l.take k) ≤ nodes.length by
    have := H l.length (Nat.le_refl _); rwa [List.take_length] at this
  intro k
  induction k with
  | zero => intro _; simp [unmet_nil]
  | succ k ih =>
    intro hk
    have h1 := ih (by omega)
    rw [List.take_succ_eq_append_getElem hk]
    have hm : met (l.take k) (l[k]).id = false := by
      cases e : met (l.take k) (l[k]).id with
      | false => rfl
      | true =>
        obtain ⟨m, hmem, he⟩ := met_iff.1 e
        obtain ⟨j, hj, hje⟩ := List.getElem_of_mem hmem
        have hjk : j < k := by have := hj; simp at this; omega
        have hjl : j < l.length := by omega
        have e1 : m = l[j] := by rw [← hje]; simp
        have hnd := List.pairwise_iff_getElem.1 h.ids j k (by simpa using hjl) (by simp; omega) hjk
        simp at hnd
        exact absurd (by rw [← e1]; exact he) hnd
    have := unmet_add (it := l[k]) hm (h.at_ _ (List.getElem_mem _)).1
    omega

end TreeM
