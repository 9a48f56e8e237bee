/- DERIVED. Stage 5, several texts in one: VtBnd VtPut VtInv VtKeep VtCalls VtSim VtSim2 VtWrote. -/
import Derived.Test.YtkmnbbocahjmaaaGreatDoorVtMath
section
namespace VtM
open PathM TreeM
set_option linter.unusedVariables false
theorem sorted_pw {es : List Ent} : Sorted es ↔ es.Pairwise fun a b => a.key < b.key := by
  rw [List.pairwise_iff_getElem]
  unfold Sorted
  constructor
  · intro h i j hi hj hij
    have := h i j hij hj
    simpa [entAt, hi, hj] using this
  · intro h i j hij hj
    have := h i j (by omega) hj hij
    simpa [entAt, show i < es.length by omega, hj] using this
/-- Entries parted at a name. -/
theorem bound_split {es : List Ent} (h : Sorted es) (key : Bs) : ∃ lo mid hi, es = lo ++ mid ++ hi ∧ (∀ x ∈ lo, x.key < key) ∧ (∀ x ∈ hi, key < x.key) ∧ (mid = [] ∨ ∃ v, mid = [⟨key, v⟩]) ∧ ∀ id, boundE es key id = lo ++ (if id = 0 then [] else [⟨key, id⟩]) ++ hi := by
  obtain ⟨h1, h2⟩ := klow_spec h key
  have hle := klow_le es key
  unfold boundE
  generalize klow es key = k at *
  have hlo : ∀ x ∈ es.take k, x.key < key := by
    intro x hx
    obtain ⟨i, hi, rfl⟩ := List.getElem_of_mem hx
    have hik : i < k := by simp at hi; omega
    have := h1 i hik
    rw [List.getElem_take]
    simpa [entAt, show i < es.length by omega] using this
  by_cases he : k < es.length ∧ (entAt es k).key = key
  · refine ⟨es.take k, [entAt es k], es.drop (k + 1), ?_, hlo, ?_, .inr ⟨(entAt es k).to, ?_⟩, fun id => ?_⟩
    · have : es.drop k = entAt es k :: es.drop (k + 1) := by
        rw [List.drop_eq_getElem_cons he.1]; simp [entAt, he.1]
      rw [List.append_assoc, List.singleton_append, ← this, List.take_append_drop]
    · intro x hx
      obtain ⟨i, hi, rfl⟩ := List.getElem_of_mem hx
      simp at hi
      have := h k (k + 1 + i) (by omega) (by omega)
      rw [he.2] at this
      rw [List.getElem_drop]
      simpa [entAt, show k + 1 + i < es.length by omega] using this
    · rw [← he.2]
    · rw [if_pos he]
  · refine ⟨es.take k, [], es.drop k, by simp, hlo, ?_, .inl rfl, fun id => ?_⟩
    · intro x hx
      obtain ⟨i, hi, rfl⟩ := List.getElem_of_mem hx
      simp at hi
      rw [List.getElem_drop]
      have hn := h2 (k + i) (by omega) (by omega)
      have hlt : k < es.length := by omega
      have e : entAt es (k + i) = es[k + i] := by simp [entAt, show k + i < es.length by omega]
      rw [e] at hn
      rcases bs_tri es[k + i].key key with g | g | g
      · exact absurd g hn
      · by_cases e0 : i = 0
        · subst e0
          exact absurd ⟨hlt, (congrArg Ent.key (show entAt es k = es[k + 0] from e)).trans g⟩ he
        · have := h k (k + i) (by omega) (by omega)
          rw [e, g] at this
          exact absurd this (h2 k (Nat.le_refl _) hlt)
      · exact g
    · rw [if_neg he]
theorem bound_sorted {es : List Ent} (h : Sorted es) (key : Bs) (id : Int) : Sorted (boundE es key id) := by
  obtain ⟨lo, mid, hi, e, h1, h2, h3, h4⟩ := bound_split h key
  rw [h4]
  rw [sorted_pw] at h ⊢
  rw [e] at h
  have hlo : lo.Pairwise fun a b => a.key < b.key := by
    rw [List.append_assoc] at h; exact (List.pairwise_append.1 h).1
  have hhi : hi.Pairwise fun a b => a.key < b.key := (List.pairwise_append.1 h).2.1
  split
  · rw [List.append_nil]
    exact List.pairwise_append.2 ⟨hlo, hhi, fun a ha b hb => bs_trans _ _ _ (h1 a ha) (h2 b hb)⟩
  · rw [List.append_assoc]
    refine List.pairwise_append.2 ⟨hlo, List.pairwise_cons.2 ⟨fun b hb => h2 b hb, hhi⟩, fun a ha b hb => ?_⟩
    rcases List.mem_cons.1 hb with rfl | hb
    · exact h1 a ha
    · exact bs_trans _ _ _ (h1 a ha) (h2 b hb)
theorem bound_len {es : List Ent} (h : Sorted es) (key : Bs) (id : Int) : (boundE es key id).length ≤ es.length + 1 := by
  obtain ⟨lo, mid, hi, e, h1, h2, h3, h4⟩ := bound_split h key
  rw [h4, e]
  split <;> simp <;> omega
theorem bound_mem {es : List Ent} (h : Sorted es) (key : Bs) (id : Int) {x : Ent} (hx : x ∈ boundE es key id) : x = ⟨key, id⟩ ∧ id ≠ 0 ∨ x ∈ es := by
  obtain ⟨lo, mid, hi, e, h1, h2, h3, h4⟩ := bound_split h key
  rw [h4] at hx
  rw [e]
  split at hx
  · simp at hx ⊢
    rcases hx with h | h
    · exact .inr (.inl h)
    · exact .inr (.inr (.inr h))
  · simp at hx ⊢
    rcases hx with h | h | h
    · exact .inr (.inl h)
    · exact .inl ⟨h, by assumption⟩
    · exact .inr (.inr (.inr h))
theorem find_lt {l : List Ent} {key : Bs} (h : ∀ x ∈ l, x.key ≠ key) : l.find? (fun x => x.key == key) = none := by
  rw [List.find?_eq_none]; intro x hx; simpa using h x hx
theorem lt_ne {a b : Bs} (h : a < b) : a ≠ b := fun e => bs_irrefl b (e ▸ h)
/-- What a name leads to behind a binding. -/
theorem bound_child {es : List Ent} (h : Sorted es) (key : Bs) (id : Int) (k2 : Bs) : childO (boundE es key id) k2 = if k2 = key then (if id = 0 then none else some id) else childO es k2 := by
  obtain ⟨lo, mid, hi, e, h1, h2, h3, h4⟩ := bound_split h key
  rw [h4, e]
  unfold childO
  by_cases hk : k2 = key
  · subst hk
    rw [if_pos rfl]
    have g1 : lo.find? (fun x => x.key == k2) = none := find_lt fun x hx => lt_ne (h1 x hx)
    have g2 : hi.find? (fun x => x.key == k2) = none := find_lt fun x hx e => lt_ne (h2 x hx) e.symm
    split
    · simp [g1, g2]
    · simp [g1]
  · rw [if_neg hk]
    have g3 : mid.find? (fun x => x.key == k2) = none := find_lt fun x hx e => by
      rcases h3 with rfl | ⟨v, rfl⟩
      · cases hx
      · simp at hx; subst hx; exact hk e.symm
    have g4 : (if id = 0 then [] else [(⟨key, id⟩ : Ent)]).find? (fun x => x.key == k2) = none := find_lt fun x hx e => by
      split at hx
      · cases hx
      · simp at hx; subst hx; exact hk e.symm
    simp only [List.find?_append, g3, g4, Option.or_none]
end VtM
end

section
namespace VtM
open PathM TreeM
set_option linter.unusedVariables false
theorem nod_eq {l : List Nd} {id : Int} {n : Nd} (h : seek l id = some n) : nod l id = n := by unfold nod; rw [h]; rfl
theorem nod_id {l : List Nd} {id : Int} (h : (nod l id).kind ≠ 0) : (nod l id).id = id := by
  unfold nod at h ⊢
  cases e : seek l id with
  | none => rw [e] at h; exact absurd rfl h
  | some n => exact (look_mem e).2
theorem seek_of_kind {l : List Nd} {id : Int} (h : (nod l id).kind ≠ 0) : seek l id = some (nod l id) := by
  unfold nod at h ⊢
  cases e : seek l id with
  | none => rw [e] at h; exact absurd rfl h
  | some n => rfl
theorem nod_putN (n : Nd) {l : List Nd} (hr : Rise l) (id : Int) : nod (putN n l) id = if id = n.id then n else nod l id := by
  unfold nod; rw [look_put n hr]; split <;> rfl
theorem nod_put {t : Tr} (hr : Rise t.nodes) (n : Nd) (id : Int) : nod (putT t n).nodes id = if id = n.id then { n with es := (nod t.nodes n.id).es } else nod t.nodes id :=
  nod_putN { n with es := (nod t.nodes n.id).es } hr id
theorem seek_put {t : Tr} (hr : Rise t.nodes) (n : Nd) (id : Int) : seek (putT t n).nodes id = if id = n.id then some { n with es := (nod t.nodes n.id).es } else seek t.nodes id :=
  look_put { n with es := (nod t.nodes n.id).es } hr id
theorem nod_bind {t : Tr} (hr : Rise t.nodes) {dir : Int} (hd : (nod t.nodes dir).kind ≠ 0) (key : Bs) (v : Int) (id : Int) : nod (bindT t dir key v).nodes id = if id = dir then { nod t.nodes dir with es := boundE (nod t.nodes dir).es key v } else nod t.nodes id := by
  have h := seek_of_kind hd
  have hi := nod_id hd
  generalize nod t.nodes dir = n at *
  unfold bindT
  rw [h]
  show nod (putN { n with es := boundE n.es key v } t.nodes) id = _
  rw [nod_putN _ hr]
  subst hi
  rfl
theorem nod_drop (t : Tr) (i id : Int) : nod (dropT t i).nodes id = if id = i then zeroN else nod t.nodes id := by
  unfold nod dropT; rw [look_del]; split <;> rfl
theorem ent_put {t : Tr} (hr : Rise t.nodes) (n : Nd) (d : Int) (k : Bs) : entT (putT t n) d k = entT t d k := by
  unfold entT
  rw [nod_put hr]
  split
  · rename_i h; subst h; rfl
  · rfl
theorem ent_bind {t : Tr} (hr : Rise t.nodes) {dir : Int} (hd : (nod t.nodes dir).kind ≠ 0) (hs : Sorted (nod t.nodes dir).es) (key : Bs) (v : Int) (d : Int) (k : Bs) : entT (bindT t dir key v) d k = if d = dir ∧ k = key then v else entT t d k := by
  unfold entT
  rw [nod_bind hr hd]
  by_cases h1 : d = dir
  · subst h1
    rw [if_pos rfl]
    rw [bound_child hs]
    by_cases h2 : k = key
    · subst h2
      by_cases hv : v = 0 <;> simp [hv]
    · simp [h2]
  · rw [if_neg h1, if_neg (fun h => h1 h.1)]
theorem rise_putT {t : Tr} (hr : Rise t.nodes) (n : Nd) : Rise (putT t n).nodes := rise_put _ hr
theorem rise_bind {t : Tr} (hr : Rise t.nodes) (dir : Int) (key : Bs) (v : Int) : Rise (bindT t dir key v).nodes := by
  unfold bindT
  split
  · exact hr
  · exact rise_put _ hr
theorem rise_dropT {t : Tr} (hr : Rise t.nodes) (i : Int) : Rise (dropT t i).nodes := rise_del i hr
/-- Behind a node that is laid down. -/
theorem put_all {t : Tr} {P : Nd → Prop} (h : ∀ m ∈ t.nodes, P m) (n : Nd) (hn : P { n with es := (nod t.nodes n.id).es }) : ∀ m ∈ (putT t n).nodes, P m := fun m hm => by
  rcases put_mem hm with rfl | hm
  · exact hn
  · exact h m hm
theorem bind_all {t : Tr} {P : Nd → Prop} (h : ∀ m ∈ t.nodes, P m) (dir : Int) (key : Bs) (v : Int) (hn : ∀ n ∈ t.nodes, P { n with es := boundE n.es key v }) : ∀ m ∈ (bindT t dir key v).nodes, P m := fun m hm => by
  unfold bindT at hm
  cases e : seek t.nodes dir with
  | none => rw [e] at hm; exact h m hm
  | some n =>
    rw [e] at hm
    rcases put_mem hm with rfl | hm
    · exact hn n (look_mem e).1
    · exact h m hm
theorem bind_len {t : Tr} (hr : Rise t.nodes) (dir : Int) (key : Bs) (v : Int) : (bindT t dir key v).nodes.length = t.nodes.length := by
  unfold bindT
  split
  · rfl
  · rename_i n e
    rw [put_len _ hr]
    have : (seek t.nodes n.id).isSome = true := by rw [(look_mem e).2, e]; rfl
    rw [if_pos this]
theorem put_len_le {t : Tr} (hr : Rise t.nodes) (n : Nd) : (putT t n).nodes.length ≤ t.nodes.length + 1 := by
  show (putN _ t.nodes).length ≤ _
  rw [put_len _ hr]; split <;> omega
theorem put_len_old {t : Tr} (hr : Rise t.nodes) (n : Nd) (h : (nod t.nodes n.id).kind ≠ 0) : (putT t n).nodes.length = t.nodes.length := by
  show (putN _ t.nodes).length = _
  rw [put_len _ hr, if_pos (by show (seek t.nodes n.id).isSome = true; rw [seek_of_kind h]; rfl)]
end VtM
end

section
namespace VtM
open PathM TreeM
set_option linter.unusedVariables false
def I64 (a : Int) : Prop := -9223372036854775808 ≤ a ∧ a ≤ 9223372036854775807
/-- What the walks ask of a file system; k: how great it may be. -/
structure FsOk (k : Nat) (f : Fs) : Prop where
  rise : Rise f.t.nodes
  sorted : ∀ n ∈ f.t.nodes, Sorted n.es
  data : ∀ n ∈ f.t.nodes, n.data.length ≤ 4096
  ids : ∀ n ∈ f.t.nodes, I64 n.id ∧ n.id ≤ f.t.last
  cnt : ∀ n ∈ f.t.nodes, n.es.length ≤ k
  len : f.t.nodes.length ≤ k
  last : 0 ≤ f.t.last ∧ f.t.last ≤ 1099511627776 + k
  rn : I64 f.t.rn
  rb : I64 f.t.rb
  root : (nod f.t.nodes 1).kind = 1
  ents : ∀ n ∈ f.t.nodes, ∀ e ∈ n.es, e.to ≠ 1 ∧ (nod f.t.nodes e.to).kind ≠ 0
  kinds : ∀ n ∈ f.t.nodes, 1 ≤ n.kind ∧ n.kind ≤ 3
  pos : ∀ n ∈ f.t.nodes, 1 ≤ n.id
theorem nod_sorted {l : List Nd} (h : ∀ n ∈ l, Sorted n.es) (id : Int) : Sorted (nod l id).es := by
  unfold nod
  cases e : seek l id with
  | none => intro i j hij hj; simp [zeroN] at hj
  | some n => exact h _ (look_mem e).1
theorem nod_all {l : List Nd} {P : Nd → Prop} (h : ∀ n ∈ l, P n) (hz : P zeroN) (id : Int) : P (nod l id) := by
  unfold nod
  cases e : seek l id with
  | none => exact hz
  | some n => exact h _ (look_mem e).1
theorem nod_mem {l : List Nd} {id : Int} (h : (nod l id).kind ≠ 0) : nod l id ∈ l := (look_mem (seek_of_kind h)).1
variable {k : Nat} {f : Fs}
theorem FsOk.nsorted (h : FsOk k f) (id : Int) : Sorted (nod f.t.nodes id).es := nod_sorted h.sorted id
theorem FsOk.ndata (h : FsOk k f) (id : Int) : (nod f.t.nodes id).data.length ≤ 4096 := nod_all (P := fun n => n.data.length ≤ 4096) h.data (by simp [zeroN]) id
theorem FsOk.ncnt (h : FsOk k f) (id : Int) : (nod f.t.nodes id).es.length ≤ k := nod_all (P := fun n => n.es.length ≤ k) h.cnt (by simp [zeroN]) id
theorem FsOk.nid (h : FsOk k f) {id : Int} (hk : (nod f.t.nodes id).kind ≠ 0) : I64 id ∧ id ≤ f.t.last := by
  have := h.ids _ (nod_mem hk)
  rw [nod_id hk] at this
  exact this
theorem FsOk.nkind (h : FsOk k f) {id : Int} (hk : (nod f.t.nodes id).kind ≠ 0) : 1 ≤ (nod f.t.nodes id).kind ∧ (nod f.t.nodes id).kind ≤ 3 := h.kinds _ (nod_mem hk)
/-- What a name leads to is there; it is not the root. -/
theorem FsOk.ent (h : FsOk k f) (d : Int) (key : Bs) : entT f.t d key = 0 ∨ (entT f.t d key ≠ 1 ∧ (nod f.t.nodes (entT f.t d key)).kind ≠ 0) := by
  unfold entT childO
  cases e : (nod f.t.nodes d).es.find? (fun x => x.key == key) with
  | none => exact .inl rfl
  | some x =>
    have hx := List.mem_of_find?_eq_some e
    have hn : ∀ n : Nd, n = nod f.t.nodes d → x ∈ n.es → x.to ≠ 1 ∧ (nod f.t.nodes x.to).kind ≠ 0 := by
      intro n hn hx
      unfold nod at hn
      cases e2 : seek f.t.nodes d with
      | none => rw [e2] at hn; subst hn; simp [zeroN] at hx
      | some m =>
        rw [e2] at hn
        subst hn
        exact h.ents _ (look_mem e2).1 x hx
    exact .inr (hn _ rfl hx)
theorem i64_0 : I64 0 := by simp [I64]
theorem FsOk.ent64 (h : FsOk k f) (d : Int) (key : Bs) : I64 (entT f.t d key) := by
  rcases h.ent d key with e | ⟨_, e⟩
  · rw [e]; exact i64_0
  · exact (h.nid e).1
theorem FsOk.dir64 (h : FsOk k f) {id : Int} (hk : (nod f.t.nodes id).kind = 1) : I64 id := (h.nid (by rw [hk]; decide)).1
theorem lastI_in {l : List Int} (h : l ≠ []) : lastI l ∈ l := by
  unfold lastI
  rw [List.getLast?_eq_some_getLast h]
  exact List.getLast_mem h
/-- Directories of a way: each leads to the next one. -/
def Chain (t : Tr) : List Int → Prop
  | [] => False
  | [d] => d = 1
  | _ => True
/-- How much is left of a path. -/
def muS (s : WS) : Nat := (8 - s.hops) * 4200 + s.left.length
structure WsOk (t : Tr) (s : WS) : Prop where
  ne : s.dirs ≠ []
  dirs : ∀ d ∈ s.dirs, (nod t.nodes d).kind = 1
  node : s.node = 0 ∨ (nod t.nodes s.node).kind ≠ 0
  hops : s.hops ≤ 8
  len : s.dirs.length + muS s ≤ 50000
  left : ∀ n ∈ s.left, n.length ≤ 64
  name : s.name.length ≤ 64
  leads : s.name ≠ [] → s.node = entT t (lastI s.dirs) s.name
  alone : s.name = [] → s.node = lastI s.dirs
  dots : s.name ≠ [46] ∧ s.name ≠ [46, 46]
theorem lastI_kind {t : Tr} {l : List Int} (h : ∀ d ∈ l, (nod t.nodes d).kind = 1) (hne : l ≠ []) : (nod t.nodes (lastI l)).kind = 1 := h _ (lastI_in hne)
theorem lastI_ne0 {t : Tr} {l : List Int} (h : ∀ d ∈ l, (nod t.nodes d).kind = 1) (hne : l ≠ []) : (nod t.nodes (lastI l)).kind ≠ 0 := by rw [lastI_kind h hne]; decide
theorem enter_ok {t : Tr} {s : WS} (h : WsOk t s) {l : List Int} (he : enterS t s = .ok l) : l ≠ [] ∧ (∀ d ∈ l, (nod t.nodes d).kind = 1) ∧ l.length ≤ s.dirs.length + 1 ∧ lastI l = s.node := by
  unfold enterS at he
  split at he
  · cases he
  · split at he
    · cases he
    · rename_i h1 h2
      split at he
      · rename_i h3
        injection he with he; subst he; exact ⟨h.ne, h.dirs, by omega, (h.alone h3).symm⟩
      · injection he with he; subst he
        refine ⟨by simp, fun d hd => ?_, by simp, by simp [lastI]⟩
        rcases List.mem_append.1 hd with e | e
        · exact h.dirs d e
        · simp at e; subst e; exact Classical.byContradiction fun hh => h2 hh
theorem look_ok (hf : FsOk k f) {l : List Int} (hne : l ≠ []) (hd : ∀ d ∈ l, (nod f.t.nodes d).kind = 1) (nm : Bs) :
    (lookS f.t l nm).1 ≠ [] ∧ (∀ d ∈ (lookS f.t l nm).1, (nod f.t.nodes d).kind = 1) ∧ (lookS f.t l nm).1.length ≤ l.length ∧ ((lookS f.t l nm).2.2 = 0 ∨ (nod f.t.nodes (lookS f.t l nm).2.2).kind ≠ 0) ∧
    ((lookS f.t l nm).2.1 ≠ [] → (lookS f.t l nm).2.2 = entT f.t (lastI (lookS f.t l nm).1) (lookS f.t l nm).2.1) ∧ (nm ≠ [] → (lookS f.t l nm).2.1 = [] → (lookS f.t l nm).2.2 = lastI (lookS f.t l nm).1) := by
  unfold lookS
  split
  · exact ⟨hne, hd, Nat.le_refl _, .inr (lastI_ne0 hd hne), fun h => absurd rfl h, fun _ _ => rfl⟩
  · split
    · have hpos := List.length_pos_iff.2 hne
      have hne2 : l.take (max (l.length - 1) 1) ≠ [] := by
        rw [ne_eq, List.take_eq_nil_iff]; rintro (h | h)
        · omega
        · exact hne h
      have hd2 : ∀ d ∈ l.take (max (l.length - 1) 1), (nod f.t.nodes d).kind = 1 := fun d h => hd d (List.mem_of_mem_take h)
      exact ⟨hne2, hd2, by simp; omega, .inr (lastI_ne0 hd2 hne2), fun h => absurd rfl h, fun _ _ => rfl⟩
    · refine ⟨hne, hd, Nat.le_refl _, ?_, fun _ => rfl, fun h1 h2 => absurd h2 h1⟩
      rcases hf.ent (lastI l) nm with e | ⟨_, e⟩
      · exact .inl e
      · exact .inr e
theorem long_not {L : List Bs} (h : longIn L ≠ true) : ∀ n ∈ L, n.length ≤ 64 := fun n hn => by
  refine Classical.byContradiction fun hh => h ?_
  unfold longIn
  rw [List.any_eq_true]
  exact ⟨n, hn, by simp; omega⟩
theorem look_name {t : Tr} {l : List Int} {nm : Bs} (h : nm.length ≤ 64) : (lookS t l nm).2.1.length ≤ 64 := by
  unfold lookS
  split
  · simp
  · split
    · simp
    · exact h
theorem look_dots {t : Tr} {l : List Int} {nm : Bs} : (lookS t l nm).2.1 ≠ [46] ∧ (lookS t l nm).2.1 ≠ [46, 46] := by
  unfold lookS
  split
  · simp
  · split
    · simp
    · exact ⟨by assumption, by assumption⟩
/-- All names that are left are names. -/
def Full (s : WS) : Prop := ∀ n ∈ s.left, n ≠ []
theorem step_ok (hf : FsOk k f) {fw : Bool} {s s' : WS} (h : WsOk f.t s) (hfl : Full s) (hl : s.left ≠ []) (he : stepS f.t fw s = .ok s') : WsOk f.t s' ∧ Full s' ∧ muS s' < muS s := by
  unfold stepS at he
  have hpos := List.length_pos_iff.2 hl
  cases e : enterS f.t s with
  | error x => rw [e] at he; cases he
  | ok ds =>
    rw [e] at he
    obtain ⟨h1, h2, h3, -⟩ := enter_ok h e
    obtain ⟨g1, g2, g3, g4, g6, g7⟩ := look_ok hf h1 h2 (s.left.headD [])
    have hhd : (s.left.headD []).length ≤ 64 ∧ s.left.headD [] ≠ [] := by
      cases e2 : s.left with
      | nil => exact absurd e2 hl
      | cons x xs => exact ⟨h.left x (by rw [e2]; exact List.mem_cons_self ..), hfl x (by rw [e2]; exact List.mem_cons_self ..)⟩
    have g5 := look_name (t := f.t) (l := ds) hhd.1
    have g8 := look_dots (t := f.t) (l := ds) (nm := s.left.headD [])
    have g7 := g7 hhd.2
    have htl : ∀ n ∈ s.left.tail, n.length ≤ 64 := fun n hn => h.left n (List.mem_of_mem_tail hn)
    have htf : ∀ n ∈ s.left.tail, n ≠ [] := fun n hn => hfl n (List.mem_of_mem_tail hn)
    dsimp only at he
    generalize lookS f.t ds (s.left.headD []) = p at *
    have hlen := h.len
    have hh := h.hops
    split at he
    · unfold throughS at he
      have hd := hf.ndata p.2.2
      generalize (nod f.t.nodes p.2.2).data = d at *
      dsimp only at he
      split at he
      · cases he
      · split at he
        · cases he
        · rename_i hlg
          injection he with he
          subst he
          have hn := names_len d
          have hlf : ∀ n ∈ names d ++ s.left.tail, n.length ≤ 64 := fun n hn => by
            rcases List.mem_append.1 hn with e | e
            · exact long_not hlg n (names_mem e).1
            · exact htl n e
          have hfu : ∀ n ∈ names d ++ s.left.tail, n ≠ [] := fun n hn => by
            rcases List.mem_append.1 hn with e | e
            · exact (names_mem e).2
            · exact htf n e
          have hds : ∀ b : Bool, (if b = true then p.1.take 1 else p.1) ≠ [] ∧ (∀ x ∈ (if b = true then p.1.take 1 else p.1), (nod f.t.nodes x).kind = 1) ∧ (if b = true then p.1.take 1 else p.1).length ≤ p.1.length := by
            intro b
            cases b with
            | false => exact ⟨g1, g2, Nat.le_refl _⟩
            | true => exact ⟨by simp [g1], fun x hx => g2 x (List.mem_of_mem_take hx), by simp; omega⟩
          obtain ⟨k1, k2, k3⟩ := hds (decide (d.head? = some 47))
          simp only [decide_eq_true_eq] at k1 k2 k3
          refine ⟨⟨k1, k2, .inr (lastI_ne0 k2 k1), by dsimp only; omega, ?_, hlf, by simp, fun h => absurd rfl h, fun _ => rfl, by simp⟩, hfu, ?_⟩
          · unfold muS at *
            dsimp only
            rw [List.length_append, List.length_tail]
            omega
          · unfold muS at *
            dsimp only
            rw [List.length_append, List.length_tail]
            omega
    · injection he with he
      subst he
      refine ⟨⟨g1, g2, g4, hh, ?_, htl, g5, g6, g7, g8⟩, htf, ?_⟩
      · unfold muS at *
        dsimp only
        rw [List.length_tail]
        omega
      · unfold muS at *
        dsimp only
        rw [List.length_tail]
        omega
theorem fault_0 {l : Bs} (h : faultN l = 0) : l ≠ [] ∧ l.length ≤ 256 := by
  unfold faultN at h
  split at h
  · omega
  · rename_i h1
    split at h
    · omega
    · exact ⟨h1, by omega⟩
/-- A path's beginning. -/
def startS (p : Bs) : WS := ⟨[1], [], 1, partsL p, partsB p, 0⟩
theorem parts_len (p : Bs) : (partsL p).length ≤ 256 := by
  unfold partsL
  split
  · rename_i h
    have hf : faultN p = 0 := by
      unfold partsE at h
      split at h
      · exact h
      · rename_i h2; exact Classical.byContradiction h2
    exact Nat.le_trans (names_len p) (fault_0 hf).2
  · simp
theorem parts_short (p : Bs) : ∀ n ∈ partsL p, n.length ≤ 64 := by
  unfold partsL
  split
  · rename_i h
    refine long_not fun hl => ?_
    unfold partsE at h
    split at h
    · rename_i h2; exact h2 h
    · omega
  · simp
theorem parts_full (p : Bs) : ∀ n ∈ partsL p, n ≠ [] := by
  unfold partsL
  split
  · intro n hn; exact (names_mem hn).2
  · simp
theorem start_mu (p : Bs) : muS (startS p) ≤ 40000 ∧ (startS p).dirs.length + muS (startS p) ≤ 50000 := by
  have h := parts_len p
  have e1 : muS (startS p) = (8 - 0) * 4200 + (partsL p).length := rfl
  have e2 : (startS p).dirs.length = 1 := rfl
  rw [e2, e1]
  generalize (partsL p).length = x at *
  omega
theorem start_ok (hf : FsOk k f) (p : Bs) : WsOk f.t (startS p) ∧ Full (startS p) ∧ muS (startS p) ≤ 40000 := by
  refine ⟨⟨by simp [startS], fun d hd => ?_, .inr ?_, by simp [startS], (start_mu p).2, parts_short p, by simp [startS], fun h => absurd rfl h, fun _ => rfl, by simp [startS]⟩, parts_full p, (start_mu p).1⟩
  · simp [startS] at hd; subst hd; exact hf.root
  · show (nod f.t.nodes 1).kind ≠ 0
    rw [hf.root]; decide
theorem run_ok (hf : FsOk k f) {fw : Bool} : ∀ (n : Nat) {s s' : WS}, WsOk f.t s → Full s → runS f.t fw n s = .ok s' → WsOk f.t s'
  | 0, s, s', h, _, hr => by simp [runS] at hr; subst hr; exact h
  | n + 1, s, s', h, hu, hr => by
    unfold runS at hr
    split at hr
    · injection hr with hr; subst hr; exact h
    · rename_i hl
      cases e : stepS f.t fw s with
      | error x => rw [e] at hr; cases hr
      | ok s1 =>
        rw [e] at hr
        obtain ⟨a, b, _⟩ := step_ok hf h hu hl e
        exact run_ok hf n a b hr
/-- Where a path leads. -/
structure AtOk (t : Tr) (a : At) : Prop where
  ne : a.dirs ≠ []
  dirs : ∀ d ∈ a.dirs, (nod t.nodes d).kind = 1
  node : a.node = 0 ∨ (nod t.nodes a.node).kind ≠ 0
  len : a.dirs.length ≤ 50000
  name : a.name.length ≤ 64
  leads : a.name ≠ [] → a.node = entT t (lastI a.dirs) a.name
  alone : a.name = [] → a.node = lastI a.dirs
  dots : a.name ≠ [46] ∧ a.name ≠ [46, 46]
theorem find_ok (hf : FsOk k f) {fw : Bool} {p : Bs} {a : At} (h : findS f.t p fw = .ok a) : AtOk f.t a := by
  unfold findS at h
  split at h
  · cases h
  · cases e : runS f.t fw 40000 ⟨[1], [], 1, partsL p, partsB p, 0⟩ with
    | error x => rw [e] at h; cases h
    | ok s =>
      rw [e] at h
      have hs := run_ok hf 40000 (start_ok hf p).1 (start_ok hf p).2.1 e
      unfold doneS at h
      dsimp only at h
      split at h
      · cases h
      · injection h with h
        subst h
        have := hs.len
        exact ⟨hs.ne, hs.dirs, hs.node, by dsimp only; omega, hs.name, hs.leads, hs.alone, hs.dots⟩
theorem AtOk.last {t : Tr} {a : At} (h : AtOk t a) : (nod t.nodes (lastI a.dirs)).kind = 1 := lastI_kind h.dirs h.ne
theorem AtOk.last0 {t : Tr} {a : At} (h : AtOk t a) : (nod t.nodes (lastI a.dirs)).kind ≠ 0 := by rw [h.last]; decide
theorem FsOk.none0 (h : FsOk k f) : (nod f.t.nodes 0).kind = 0 := by
  refine Classical.byContradiction fun hh => ?_
  have := h.pos _ (nod_mem hh)
  rw [nod_id hh] at this
  omega
/-- Where nothing is, there is a name. -/
theorem AtOk.named {a : At} (h : AtOk f.t a) (hf : FsOk k f) (h0 : a.node = 0) : a.name ≠ [] := fun e => by
  have h1 := h.last
  rw [← h.alone e, h0, hf.none0] at h1
  cases h1
theorem AtOk.node64 {a : At} (h : AtOk f.t a) (hf : FsOk k f) : I64 a.node := by
  rcases h.node with e | e
  · rw [e]; exact i64_0
  · exact (hf.nid e).1
end VtM
end

section
namespace VtM
open PathM TreeM
set_option linter.unusedVariables false
variable {k : Nat} {f : Fs}
theorem FsOk.mono (h : FsOk k f) {k' : Nat} (hk : k ≤ k') : FsOk k' f :=
  ⟨h.rise, h.sorted, h.data, h.ids, fun n hn => Nat.le_trans (h.cnt n hn) hk, Nat.le_trans h.len hk, ⟨h.last.1, by have := h.last.2; omega⟩, h.rn, h.rb, h.root, h.ents, h.kinds, h.pos⟩
theorem FsOk.same (h : FsOk k f) (c : Int) : FsOk k { f with ck := c } :=
  ⟨h.rise, h.sorted, h.data, h.ids, h.cnt, h.len, h.last, h.rn, h.rb, h.root, h.ents, h.kinds, h.pos⟩
theorem FsOk.tick (h : FsOk k f) : FsOk k (tickF f) := h.same _
theorem kind_put {t : Tr} (hr : Rise t.nodes) (n : Nd) (id : Int) : (nod (putT t n).nodes id).kind = if id = n.id then n.kind else (nod t.nodes id).kind := by
  rw [nod_put hr]; split <;> rfl
theorem kind_bind {t : Tr} (hr : Rise t.nodes) {dir : Int} (hd : (nod t.nodes dir).kind ≠ 0) (key : Bs) (v id : Int) : (nod (bindT t dir key v).nodes id).kind = (nod t.nodes id).kind := by
  rw [nod_bind hr hd]
  split
  · rename_i e; subst e; rfl
  · rfl
theorem FsOk.put (h : FsOk k f) (n : Nd) (hd : n.data.length ≤ 4096) (hi : I64 n.id) (hl : n.id ≤ f.t.last + 1) (hk : 1 ≤ n.kind ∧ n.kind ≤ 3) (h1 : n.id = 1 → n.kind = 1) (hp : 1 ≤ n.id) : FsOk (k + 1) { f with t := putT f.t n } := by
  have hent : ∀ e : Ent, (e.to ≠ 1 ∧ (nod f.t.nodes e.to).kind ≠ 0) → e.to ≠ 1 ∧ (nod (putT f.t n).nodes e.to).kind ≠ 0 := fun e he => by
    refine ⟨he.1, ?_⟩
    rw [kind_put h.rise]
    split
    · omega
    · exact he.2
  have hen := nod_all (P := fun n => ∀ e ∈ n.es, e.to ≠ 1 ∧ (nod f.t.nodes e.to).kind ≠ 0) h.ents (by simp [zeroN]) n.id
  have hlast := h.last
  have hids := h.ids
  refine ⟨rise_putT h.rise n, put_all h.sorted n (h.nsorted _), put_all h.data n hd, ?_, ?_, ?_, ?_, h.rn, h.rb, ?_, ?_, put_all h.kinds n hk, put_all h.pos n hp⟩
  · exact put_all (P := fun m => I64 m.id ∧ m.id ≤ max f.t.last n.id) (fun m hm => ⟨(hids m hm).1, by have := (hids m hm).2; omega⟩) n ⟨hi, by show n.id ≤ _; omega⟩
  · exact put_all (P := fun m => m.es.length ≤ k + 1) (fun m hm => by have := h.cnt m hm; omega) n (by have := h.ncnt n.id; show (nod f.t.nodes n.id).es.length ≤ _; omega)
  · have := put_len_le h.rise n; have := h.len; show (putT f.t n).nodes.length ≤ _; omega
  · show 0 ≤ max f.t.last n.id ∧ max f.t.last n.id ≤ 1099511627776 + ((k + 1 : Nat) : Int); omega
  · show (nod (putT f.t n).nodes 1).kind = 1
    rw [kind_put h.rise]
    split
    · rename_i e; exact h1 e.symm
    · exact h.root
  · intro m hm e he
    refine hent e ?_
    exact put_all (P := fun m => ∀ e ∈ m.es, e.to ≠ 1 ∧ (nod f.t.nodes e.to).kind ≠ 0) h.ents n hen m hm e he
theorem FsOk.put_old (h : FsOk k f) (n : Nd) (hd : n.data.length ≤ 4096) (ho : (nod f.t.nodes n.id).kind ≠ 0) (hk : 1 ≤ n.kind ∧ n.kind ≤ 3) (h1 : n.id = 1 → n.kind = 1) : FsOk k { f with t := putT f.t n } := by
  have hi := h.nid ho
  have h2 := h.put n hd hi.1 (by omega) hk h1 (by have := h.pos _ (nod_mem ho); rw [nod_id ho] at this; exact this)
  have hlast := h.last
  refine ⟨h2.rise, h2.sorted, h2.data, h2.ids, ?_, ?_, ?_, h2.rn, h2.rb, h2.root, h2.ents, h2.kinds, h2.pos⟩
  · exact put_all (P := fun m => m.es.length ≤ k) h.cnt n (h.ncnt n.id)
  · show (putT f.t n).nodes.length ≤ _
    rw [put_len_old h.rise n ho]; exact h.len
  · show 0 ≤ max f.t.last n.id ∧ max f.t.last n.id ≤ 1099511627776 + (k : Int); omega
theorem FsOk.bind (h : FsOk k f) {dir : Int} (hd : (nod f.t.nodes dir).kind ≠ 0) (key : Bs) (v : Int) (hv : v = 0 ∨ (v ≠ 1 ∧ (nod f.t.nodes v).kind ≠ 0)) : FsOk (k + 1) { f with t := bindT f.t dir key v } := by
  have hlast := h.last
  have e1 : (bindT f.t dir key v).last = f.t.last := by unfold bindT; split <;> rfl
  have e2 : (bindT f.t dir key v).rn = f.t.rn := by unfold bindT; split <;> rfl
  have e3 : (bindT f.t dir key v).rb = f.t.rb := by unfold bindT; split <;> rfl
  refine ⟨rise_bind h.rise dir key v, ?_, ?_, ?_, ?_, ?_, ?_, ?_, ?_, ?_, ?_, ?_, bind_all h.pos dir key v fun n hn => h.pos n hn⟩
  · exact bind_all h.sorted dir key v fun n hn => bound_sorted (h.sorted n hn) key v
  · exact bind_all h.data dir key v fun n hn => h.data n hn
  · show ∀ m ∈ (bindT f.t dir key v).nodes, I64 m.id ∧ m.id ≤ (bindT f.t dir key v).last
    rw [e1]
    exact bind_all h.ids dir key v fun n hn => h.ids n hn
  · exact bind_all (P := fun m => m.es.length ≤ k + 1) (fun m hm => by have := h.cnt m hm; omega) dir key v fun n hn => by
      have a := bound_len (h.sorted n hn) key v; have b := h.cnt n hn; show (boundE n.es key v).length ≤ _; omega
  · show (bindT f.t dir key v).nodes.length ≤ _
    rw [bind_len h.rise]; have := h.len; omega
  · show 0 ≤ (bindT f.t dir key v).last ∧ (bindT f.t dir key v).last ≤ 1099511627776 + ((k + 1 : Nat) : Int)
    rw [e1]; omega
  · show I64 (bindT f.t dir key v).rn
    rw [e2]; exact h.rn
  · show I64 (bindT f.t dir key v).rb
    rw [e3]; exact h.rb
  · show (nod (bindT f.t dir key v).nodes 1).kind = 1
    rw [kind_bind h.rise hd]; exact h.root
  · intro m hm e he
    show e.to ≠ 1 ∧ (nod (bindT f.t dir key v).nodes e.to).kind ≠ 0
    rw [kind_bind h.rise hd]
    refine bind_all (P := fun m => ∀ e ∈ m.es, e.to ≠ 1 ∧ (nod f.t.nodes e.to).kind ≠ 0) h.ents dir key v (fun n hn e he => ?_) m hm e he
    rcases bound_mem (h.sorted n hn) key v he with ⟨rfl, hz⟩ | he
    · rcases hv with rfl | hv
      · exact absurd rfl hz
      · exact hv
    · exact h.ents n hn e he
  · exact bind_all h.kinds dir key v fun n hn => h.kinds n hn
theorem FsOk.drop (h : FsOk k f) (i : Int) (h1 : i ≠ 1) (hl : links f.t.nodes i = 0) : FsOk k { f with t := dropT f.t i } := by
  have hm : ∀ m ∈ (dropT f.t i).nodes, m ∈ f.t.nodes := fun m hm => (del_mem.1 hm).1
  have hk : ∀ id, id ≠ i → (nod (dropT f.t i).nodes id).kind = (nod f.t.nodes id).kind := fun id hid => by rw [nod_drop, if_neg hid]
  refine ⟨rise_dropT h.rise i, fun n hn => h.sorted n (hm n hn), fun n hn => h.data n (hm n hn), fun n hn => h.ids n (hm n hn), fun n hn => h.cnt n (hm n hn), ?_, h.last, h.rn, h.rb, ?_, ?_, fun n hn => h.kinds n (hm n hn), fun n hn => h.pos n (hm n hn)⟩
  · exact Nat.le_trans (List.Sublist.length_le List.filter_sublist) h.len
  · show (nod (dropT f.t i).nodes 1).kind = 1
    rw [hk 1 (fun e => h1 e.symm)]; exact h.root
  · intro n hn e he
    have := h.ents n (hm n hn) e he
    refine ⟨this.1, ?_⟩
    show (nod (dropT f.t i).nodes e.to).kind ≠ 0
    have hne : e.to ≠ i := by
      rintro rfl
      have hf : e ∈ flat f.t.nodes := List.mem_flatMap.2 ⟨n, hm n hn, he⟩
      have := links_pos hf
      omega
    rw [hk _ hne]; exact this.2
theorem FsOk.stamp (h : FsOk k f) (ck : Int) {id : Int} (hk : (nod f.t.nodes id).kind ≠ 0) : FsOk k { f with t := stampT f.t ck id } := by
  unfold stampT
  refine h.put_old _ (h.ndata id) ?_ (h.nkind hk) ?_
  · show (nod f.t.nodes (nod f.t.nodes id).id).kind ≠ 0
    rw [nod_id hk]; exact hk
  · intro e
    have e : (nod f.t.nodes id).id = 1 := e
    rw [nod_id hk] at e; subst e; exact h.root
theorem FsOk.forget (h : FsOk k f) (i : Int) (h1 : i ≠ 1) : FsOk k (forgetF f i) := by
  unfold forgetF forgetT
  split
  · exact h.drop i h1 (by assumption)
  · exact h
theorem FsOk.bindAt (h : FsOk k f) {a : At} (ha : AtOk f.t a) (v : Int) (hv : v = 0 ∨ (v ≠ 1 ∧ (nod f.t.nodes v).kind ≠ 0)) : FsOk (k + 1) (bindF f a v) := by
  have h1 := h.bind ha.last0 a.name v hv
  have := h1.stamp f.ck (id := lastI a.dirs) (by show (nod (bindT f.t _ _ _).nodes _).kind ≠ 0; rw [kind_bind h.rise ha.last0]; exact ha.last0)
  exact this
/-- Where a place is, is in a file system of the same kinds. -/
structure AtIn (t : Tr) (a : At) : Prop where
  ne : a.dirs ≠ []
  dirs : ∀ d ∈ a.dirs, (nod t.nodes d).kind = 1
  len : a.dirs.length ≤ 50000
  name : a.name.length ≤ 64
theorem AtOk.in {t : Tr} {a : At} (h : AtOk t a) : AtIn t a := ⟨h.ne, h.dirs, h.len, h.name⟩
theorem AtIn.last {t : Tr} {a : At} (h : AtIn t a) : (nod t.nodes (lastI a.dirs)).kind = 1 := lastI_kind h.dirs h.ne
theorem AtIn.last0 {t : Tr} {a : At} (h : AtIn t a) : (nod t.nodes (lastI a.dirs)).kind ≠ 0 := by rw [h.last]; decide
theorem AtIn.kinds {t t' : Tr} {a : At} (h : AtIn t a) (hk : ∀ id, (nod t.nodes id).kind = 1 → (nod t'.nodes id).kind = 1) : AtIn t' a := ⟨h.ne, fun d hd => hk d (h.dirs d hd), h.len, h.name⟩
theorem FsOk.bindIn (h : FsOk k f) {a : At} (ha : AtIn f.t a) (v : Int) (hv : v = 0 ∨ (v ≠ 1 ∧ (nod f.t.nodes v).kind ≠ 0)) : FsOk (k + 1) (bindF f a v) := by
  have h1 := h.bind ha.last0 a.name v hv
  have := h1.stamp f.ck (id := lastI a.dirs) (by show (nod (bindT f.t _ _ _).nodes _).kind ≠ 0; rw [kind_bind h.rise ha.last0]; exact ha.last0)
  exact this
theorem kind_stamp {t : Tr} (hr : Rise t.nodes) (ck : Int) {i : Int} (hi : (nod t.nodes i).kind ≠ 0) (id : Int) : (nod (stampT t ck i).nodes id).kind = (nod t.nodes id).kind := by
  unfold stampT
  rw [kind_put hr]
  split
  · rename_i e
    have e : id = (nod t.nodes i).id := e
    rw [nod_id hi] at e; subst e; rfl
  · rfl
theorem kind_bindF (h : FsOk k f) {a : At} (ha : AtIn f.t a) (v id : Int) : (nod (bindF f a v).t.nodes id).kind = (nod f.t.nodes id).kind := by
  show (nod (stampT (bindT f.t _ _ _) _ _).nodes id).kind = _
  rw [kind_stamp (rise_bind h.rise _ _ _) _ (by rw [kind_bind h.rise ha.last0]; exact ha.last0), kind_bind h.rise ha.last0]
theorem FsOk.root_last (h : FsOk k f) : 1 ≤ f.t.last := by
  have := h.nid (id := 1) (by rw [h.root]; decide)
  exact this.2
/-- A new node is laid down. -/
theorem FsOk.fresh (h : FsOk k f) (kind mode ck : Int) (data : Bs) (hk : 1 ≤ kind ∧ kind ≤ 3) (hd : data.length ≤ 4096) (hkk : k ≤ 1000000) : FsOk (k + 1) { f with t := putT f.t ⟨f.t.last + 1, kind, mode, 0, ck, data, []⟩ } := by
  have hl := h.last
  have h1 := h.root_last
  exact h.put _ hd (by show I64 (f.t.last + 1); unfold I64; omega) (Int.le_refl _) hk (fun e => by have e : f.t.last + 1 = 1 := e; omega) (by show 1 ≤ f.t.last + 1; omega)
theorem FsOk.create (h : FsOk k f) {a : At} (ha : AtIn f.t a) (kind mode : Int) (data : Bs) (hk : 1 ≤ kind ∧ kind ≤ 3) (hd : data.length ≤ 4096) (hkk : k ≤ 1000000) : FsOk (k + 2) (createF f a kind mode data).1 := by
  unfold createF
  split
  · exact h.mono (by omega)
  · have h1 := h.tick.fresh kind mode (tickF f).ck data hk hd hkk
    have hin : AtIn (putT f.t ⟨f.t.last + 1, kind, mode, 0, (tickF f).ck, data, []⟩) a := ha.kinds fun id hid => by
      rw [kind_put h.rise]
      split
      · rename_i e
        have e : id = f.t.last + 1 := e
        have := h.nid (id := id) (by rw [hid]; decide)
        omega
      · exact hid
    refine h1.bindIn hin (f.t.last + 1) (.inr ⟨by have := h.root_last; omega, ?_⟩)
    show (nod (putT f.t _).nodes (f.t.last + 1)).kind ≠ 0
    rw [kind_put h.rise]
    show (if f.t.last + 1 = f.t.last + 1 then kind else (nod f.t.nodes (f.t.last + 1)).kind) ≠ 0
    rw [if_pos rfl]
    omega
end VtM
end

section
namespace VtM
open PathM TreeM
set_option linter.unusedVariables false
variable {k : Nat} {f : Fs}
theorem AtOk.there {a : At} (h : AtOk f.t a) (hf : FsOk k f) (hn : a.name ≠ []) (h0 : a.node ≠ 0) : a.node ≠ 1 ∧ (nod f.t.nodes a.node).kind ≠ 0 := by
  have hl := h.leads hn
  rcases hf.ent (lastI a.dirs) a.name with e | e
  · rw [← hl] at e; exact absurd e h0
  · rw [← hl] at e; exact e
theorem AtIn.of_kinds {g : Fs} {a : At} (h : AtIn f.t a) (hk : ∀ id, (nod g.t.nodes id).kind = (nod f.t.nodes id).kind) : AtIn g.t a := h.kinds fun id hid => by rw [hk]; exact hid
theorem FsOk.remove (h : FsOk k f) {a : At} (ha : AtOk f.t a) (hn : a.name ≠ []) (h0 : a.node ≠ 0) : FsOk (k + 1) (removeF f a) := by
  unfold removeF
  have h1 := h.tick.bindIn (a := a) ha.in 0 (.inl rfl)
  exact h1.forget _ (ha.there h hn h0).1
theorem FsOk.setOld (h : FsOk k f) {id : Int} (hk : (nod f.t.nodes id).kind ≠ 0) (m : Nd) (hid : m.id = (nod f.t.nodes id).id) (hkd : m.kind = (nod f.t.nodes id).kind) (hd : m.data.length ≤ 4096) : FsOk k { f with t := putT f.t m } := by
  have e : m.id = id := by rw [hid, nod_id hk]
  refine h.put_old m hd (by rw [e]; exact hk) (by rw [hkd]; exact h.nkind hk) (fun h1 => ?_)
  rw [hkd]
  rw [e] at h1; subst h1; exact h.root
theorem there_ok (h : FsOk k f) {p : Bs} {fw : Bool} {a : At} (he : thereF f p fw = .ok a) : AtOk f.t a ∧ (nod f.t.nodes a.node).kind ≠ 0 ∧ a.node ≠ 0 := by
  unfold thereF at he
  cases e : findS f.t p fw with
  | error x => rw [e] at he; cases he
  | ok b =>
    rw [e] at he
    dsimp only at he
    split at he
    · cases he
    · rename_i h0
      injection he with he
      subst he
      have hb := find_ok h e
      rcases hb.node with g | g
      · exact absurd g h0
      · exact ⟨hb, g, h0⟩
theorem free_ok (h : FsOk k f) {p : Bs} {a : At} (he : freeF f p = .ok a) : AtOk f.t a ∧ a.node = 0 := by
  unfold freeF at he
  cases e : findS f.t p false with
  | error x => rw [e] at he; cases he
  | ok b =>
    rw [e] at he
    dsimp only at he
    split at he
    · cases he
    · rename_i h0
      injection he with he
      subst he
      exact ⟨find_ok h e, Classical.byContradiction fun hh => h0 hh⟩
theorem freeName_ok (h : FsOk k f) {p : Bs} {a : At} (he : freeNameF f p = .ok a) : AtOk f.t a ∧ a.node = 0 ∧ a.slash = false := by
  unfold freeNameF at he
  cases e : freeF f p with
  | error x => rw [e] at he; cases he
  | ok b =>
    rw [e] at he
    dsimp only at he
    split at he
    · cases he
    · rename_i h0
      injection he with he
      subst he
      obtain ⟨h1, h2⟩ := free_ok h e
      exact ⟨h1, h2, by simpa using h0⟩
theorem named_ok (h : FsOk k f) {p : Bs} {a : At} (he : namedF f p = .ok a) : AtOk f.t a ∧ a.name ≠ [] := by
  unfold namedF at he
  cases e : findS f.t p false with
  | error x => rw [e] at he; cases he
  | ok b =>
    rw [e] at he
    dsimp only at he
    split at he
    · cases he
    · rename_i h0
      injection he with he
      subst he
      exact ⟨find_ok h e, h0⟩
theorem namedThere_ok (h : FsOk k f) {p : Bs} {a : At} (he : namedThereF f p = .ok a) : AtOk f.t a ∧ a.name ≠ [] ∧ a.node ≠ 0 ∧ a.node ≠ 1 ∧ (nod f.t.nodes a.node).kind ≠ 0 := by
  unfold namedThereF at he
  cases e : namedF f p with
  | error x => rw [e] at he; cases he
  | ok b =>
    rw [e] at he
    dsimp only at he
    split at he
    · cases he
    · rename_i h0
      injection he with he
      subst he
      obtain ⟨h1, h2⟩ := named_ok h e
      obtain ⟨h3, h4⟩ := h1.there h h2 h0
      exact ⟨h1, h2, h0, h3, h4⟩
theorem keep_rewrite (h : FsOk k f) {id : Int} (hk : (nod f.t.nodes id).kind ≠ 0) (data : Bs) (how : Int) : FsOk k (rewriteF f id data how).1 := by
  unfold rewriteF
  dsimp only
  generalize (if how = 2 then (nod f.t.nodes id).data else []) = kept
  split
  · exact h
  · rename_i hc
    refine h.tick.setOld (id := id) hk { nod f.t.nodes id with data := kept ++ data, time := (tickF f).ck } rfl rfl ?_
    show (kept ++ data).length ≤ 4096
    rw [List.length_append]
    exact Classical.byContradiction fun hh => hc (.inl (by omega))
theorem keep_write (h : FsOk k f) (hkk : k ≤ 1000000) (p data : Bs) (how : Int) : FsOk (k + 2) (writeF f p data how).1 := by
  unfold writeF
  split
  · exact h.mono (by omega)
  · cases e : findS f.t p (decide (how ≠ 3)) with
    | error x => exact h.mono (by omega)
    | ok a =>
      have ha := find_ok h e
      dsimp only
      split
      · exact h.mono (by omega)
      · split
        · exact h.mono (by omega)
        · split
          · rename_i h0
            rcases ha.node with g | g
            · exact absurd g h0
            · exact (keep_rewrite h g data how).mono (by omega)
          · split
            · exact h.mono (by omega)
            · rename_i hd
              exact h.create ha.in 2 420 data (by omega) (by omega) hkk
theorem keep_mkdir (h : FsOk k f) (hkk : k ≤ 1000000) (p : Bs) (mode : Int) : FsOk (k + 2) (mkdirF f p mode).1 := by
  unfold mkdirF
  split
  · exact h.mono (by omega)
  · cases e : freeF f p with
    | error x => exact h.mono (by omega)
    | ok a => exact h.create (free_ok h e).1.in 1 mode [] (by omega) (by simp) hkk
theorem keep_symlink (h : FsOk k f) (hkk : k ≤ 1000000) (target p : Bs) : FsOk (k + 2) (symlinkF f target p).1 := by
  unfold symlinkF
  cases e : freeNameF f p with
  | error x => exact h.mono (by omega)
  | ok a =>
    dsimp only
    split
    · exact h.mono (by omega)
    · split
      · exact h.mono (by omega)
      · exact h.create (freeName_ok h e).1.in 3 511 target (by omega) (by omega) hkk
theorem keep_link (h : FsOk k f) (p q : Bs) : FsOk (k + 2) (linkF f p q).1 := by
  unfold linkF
  cases e : thereF f p false with
  | error x => exact h.mono (by omega)
  | ok was =>
    obtain ⟨h1, h2, h3⟩ := there_ok h e
    dsimp only
    split
    · exact h.mono (by omega)
    · rename_i hnd
      cases e2 : freeNameF f q with
      | error x => exact h.mono (by omega)
      | ok a =>
        refine (h.tick.bindIn (a := a) (freeName_ok h e2).1.in was.node (.inr ⟨?_, h2⟩)).mono (by omega)
        rintro e1
        apply hnd
        unfold kindF
        rw [e1]; exact h.root
theorem keep_rmdir (h : FsOk k f) (p : Bs) : FsOk (k + 2) (rmdirF f p).1 := by
  unfold rmdirF
  cases e : namedThereF f p with
  | error x => exact h.mono (by omega)
  | ok a =>
    obtain ⟨h1, h2, h3, h4, h5⟩ := namedThere_ok h e
    dsimp only
    split
    · exact h.mono (by omega)
    · split
      · exact h.mono (by omega)
      · exact (h.remove h1 h2 h3).mono (by omega)
theorem keep_unlink (h : FsOk k f) (p : Bs) : FsOk (k + 2) (unlinkF f p).1 := by
  unfold unlinkF
  cases e : namedThereF f p with
  | error x => exact h.mono (by omega)
  | ok a =>
    obtain ⟨h1, h2, h3, h4, h5⟩ := namedThere_ok h e
    dsimp only
    split
    · exact h.mono (by omega)
    · exact (h.remove h1 h2 h3).mono (by omega)
theorem keep_rename (h : FsOk k f) (p q : Bs) : FsOk (k + 2) (renameF f p q).1 := by
  unfold renameF
  cases e : namedThereF f p with
  | error x => exact h.mono (by omega)
  | ok a =>
    obtain ⟨h1, h2, h3, h4, h5⟩ := namedThere_ok h e
    dsimp only
    cases e2 : namedF f q with
    | error x => exact h.mono (by omega)
    | ok b =>
      obtain ⟨g1, g2⟩ := named_ok h e2
      dsimp only
      split
      · exact h.mono (by omega)
      · split
        · exact h.mono (by omega)
        · have k1 := h.tick.bindIn (a := a) h1.in 0 (.inl rfl)
          have kk : ∀ id, (nod (bindF (tickF f) a 0).t.nodes id).kind = (nod f.t.nodes id).kind := fun id => kind_bindF h.tick (a := a) h1.in 0 id
          have b1 : AtIn (bindF (tickF f) a 0).t b := AtIn.of_kinds (f := f) (g := bindF (tickF f) a 0) g1.in kk
          have k2 := k1.bindIn b1 a.node (.inr ⟨h4, by rw [kk]; exact h5⟩)
          split
          · rename_i h0
            exact k2.forget _ (g1.there h g2 h0).1
          · exact k2
theorem keep_chmod (h : FsOk k f) (p : Bs) (mode : Int) : FsOk (k + 2) (chmodF f p mode).1 := by
  unfold chmodF
  split
  · exact h.mono (by omega)
  · cases e : thereF f p true with
    | error x => exact h.mono (by omega)
    | ok a =>
      obtain ⟨h1, h2, h3⟩ := there_ok h e
      exact (h.tick.setOld (id := a.node) h2 { nod f.t.nodes a.node with mode := mode } rfl rfl (h.ndata _)).mono (by omega)
theorem keep_touch (h : FsOk k f) (p : Bs) : FsOk (k + 2) (touchF f p).1 := by
  unfold touchF
  cases e : thereF f p true with
  | error x => exact h.mono (by omega)
  | ok a =>
    obtain ⟨h1, h2, h3⟩ := there_ok h e
    exact (h.tick.stamp (tickF f).ck (id := a.node) h2).mono (by omega)
theorem keep_does (h : FsOk k f) (hkk : k ≤ 1000000) (a : Act) : FsOk (k + 2) (doesF f a).1 := by
  unfold doesF
  split
  · exact keep_write h hkk _ _ _
  · split
    · exact keep_mkdir h hkk _ _
    · split
      · exact keep_symlink h hkk _ _
      · split
        · exact keep_link h _ _
        · split
          · exact keep_rmdir h _
          · split
            · exact keep_unlink h _
            · split
              · exact keep_rename h _ _
              · split
                · exact keep_chmod h _ _
                · split
                  · exact keep_touch h _
                  · exact h.mono (by omega)
end VtM
end

section
namespace VtM
open PathM TreeM
set_option linter.unusedVariables false
variable {k : Nat} {f : Fs}
/-- Nodes of one are of the same kinds in the other, links lead the same way. -/
structure Near (t t' : Tr) : Prop where
  kind : ∀ id, (nod t.nodes id).kind ≠ 0 → (nod t'.nodes id).kind = (nod t.nodes id).kind
  data : ∀ id, (nod t.nodes id).kind = 3 → (nod t'.nodes id).data = (nod t.nodes id).data
theorem Near.enter {t t' : Tr} (h : Near t t') {s : WS} (hs : WsOk t s) : enterS t' s = enterS t s := by
  unfold enterS
  by_cases h0 : s.node = 0
  · rw [if_pos h0, if_pos h0]
  · rw [if_neg h0, if_neg h0]
    rcases hs.node with e | e
    · exact absurd e h0
    · rw [h.kind _ e]
theorem Near.through {t t' : Tr} (h : Near t t') (dirs : List Int) {node : Int} (hk : (nod t.nodes node).kind = 3) (left : List Bs) (slash : Bool) (hops : Nat) : throughS t' dirs node left slash hops = throughS t dirs node left slash hops := by
  unfold throughS; rw [h.data _ hk]
theorem Near.atLink {t t' : Tr} (h : Near t t') (fw : Bool) {node : Int} (hk : node = 0 ∨ (nod t.nodes node).kind ≠ 0) (left : List Bs) (slash : Bool) : atLinkS t' fw node left slash = atLinkS t fw node left slash := by
  unfold atLinkS
  rcases hk with e | e
  · subst e; simp
  · rw [h.kind _ e]
theorem atLink_kind {t : Tr} {fw : Bool} {node : Int} {left : List Bs} {slash : Bool} (h : atLinkS t fw node left slash = true) : (nod t.nodes node).kind = 3 ∧ node ≠ 0 := by
  unfold atLinkS at h
  simp at h
  exact ⟨h.2.2, h.2.1⟩
theorem atLink_zero {t : Tr} {fw : Bool} {left : List Bs} {slash : Bool} : atLinkS t fw 0 left slash = false := by
  unfold atLinkS; simp
/-- .. in which all names lead to the same, but for one that led to nothing. -/
structure Sim (t t' : Tr) (D : Int) (K : Bs) (N : Int) : Prop extends Near t t' where
  ent : ∀ d key, (nod t.nodes d).kind = 1 → ¬ (d = D ∧ key = K) → entT t' d key = entT t d key
  hole : entT t D K = 0
  new : entT t' D K = N
structure Same (t t' : Tr) : Prop extends Near t t' where
  ent : ∀ d key, (nod t.nodes d).kind = 1 → entT t' d key = entT t d key
/-- A place where nothing was, filled. -/
def fixS (D : Int) (K : Bs) (N : Int) (s : WS) : WS := if s.node = 0 ∧ lastI s.dirs = D ∧ s.name = K then { s with node := N } else s
def fixA (D : Int) (K : Bs) (N : Int) (a : At) : At := if a.node = 0 ∧ lastI a.dirs = D ∧ a.name = K then { a with node := N } else a
theorem fixS_left (D : Int) (K : Bs) (N : Int) (s : WS) : (fixS D K N s).left = s.left := by unfold fixS; split <;> rfl
theorem Same.step (hf : FsOk k f) {t' : Tr} (h : Same f.t t') {fw : Bool} {s : WS} (hs : WsOk f.t s) (hu : Full s) (hl : s.left ≠ []) : stepS t' fw s = stepS f.t fw s := by
  unfold stepS
  rw [h.enter hs]
  cases e : enterS f.t s with
  | error x => rfl
  | ok ds =>
    obtain ⟨h1, h2, h3, -⟩ := enter_ok hs e
    have hlk : lookS t' ds (s.left.headD []) = lookS f.t ds (s.left.headD []) := by
      unfold lookS
      rw [h.ent _ _ (lastI_kind h2 h1)]
    obtain ⟨-, -, -, g4, -, -⟩ := look_ok hf h1 h2 (s.left.headD [])
    dsimp only
    rw [hlk, h.atLink fw g4]
    split
    · rename_i hat
      exact h.through _ (atLink_kind hat).1 _ _ _
    · rfl
theorem Same.run (hf : FsOk k f) {t' : Tr} (h : Same f.t t') {fw : Bool} : ∀ (n : Nat) {s : WS}, WsOk f.t s → Full s → runS t' fw n s = runS f.t fw n s
  | 0, s, _, _ => rfl
  | n + 1, s, hs, hu => by
    unfold runS
    by_cases hl : s.left = []
    · rw [if_pos hl, if_pos hl]
    · rw [if_neg hl, if_neg hl, h.step hf hs hu hl]
      cases e : stepS f.t fw s with
      | error x => rfl
      | ok s1 =>
        obtain ⟨a, b, _⟩ := step_ok hf hs hu hl e
        exact h.run hf n a b
theorem Same.done {t' : Tr} (h : Same f.t t') {s : WS} (hs : WsOk f.t s) : doneS t' s = doneS f.t s := by
  unfold doneS
  rcases hs.node with e | e
  · rw [e]; simp
  · rw [h.kind _ e]
/-- Where the same lies, a path leads the same way. -/
theorem Same.find (hf : FsOk k f) {t' : Tr} (h : Same f.t t') (p : Bs) (fw : Bool) : findS t' p fw = findS f.t p fw := by
  unfold findS
  split
  · rfl
  · have hs := start_ok hf p
    have hr := h.run hf (fw := fw) 40000 hs.1 hs.2.1
    show (match runS t' fw 40000 (startS p) with | .error e => _ | .ok s => _) = (match runS f.t fw 40000 (startS p) with | .error e => _ | .ok s => _)
    rw [hr]
    cases e : runS f.t fw 40000 (startS p) with
    | error x => rfl
    | ok s => exact h.done (run_ok hf 40000 hs.1 hs.2.1 e)
theorem look_hole {t t' : Tr} {D N : Int} {K : Bs} (h : Sim t t' D K N) (hK : K ≠ [46] ∧ K ≠ [46, 46]) {ds : List Int} (hk : (nod t.nodes (lastI ds)).kind = 1) (key : Bs) :
    (lastI ds = D ∧ key = K ∧ lookS t ds key = (ds, K, 0) ∧ lookS t' ds key = (ds, K, N)) ∨ (¬ (lastI ds = D ∧ key = K) ∧ lookS t' ds key = lookS t ds key) := by
  by_cases hh : lastI ds = D ∧ key = K
  · obtain ⟨h1, h2⟩ := hh
    subst h2
    refine .inl ⟨h1, rfl, ?_, ?_⟩
    · unfold lookS; rw [if_neg hK.1, if_neg hK.2, h1, h.hole]
    · unfold lookS; rw [if_neg hK.1, if_neg hK.2, h1, h.new]
  · refine .inr ⟨hh, ?_⟩
    unfold lookS
    rw [h.ent _ _ hk hh]
theorem mu_zero {s : WS} (h : muS s ≤ 0) : s.left = [] := by
  unfold muS at h
  exact List.eq_nil_of_length_eq_zero (by omega)
theorem run_done {t : Tr} {fw : Bool} (n : Nat) {s : WS} (h : s.left = []) : runS t fw n s = .ok s := by
  cases n with
  | zero => rfl
  | succ n => unfold runS; rw [if_pos h]
theorem run_lost {t : Tr} {fw : Bool} {n : Nat} {s se : WS} (hmu : muS s ≤ n) (hr : runS t fw n s = .ok se) (h0 : s.node = 0) : s.left = [] := by
  refine Classical.byContradiction fun hl => ?_
  cases n with
  | zero => exact hl (mu_zero hmu)
  | succ n =>
    unfold runS at hr
    rw [if_neg hl] at hr
    unfold stepS enterS at hr
    rw [if_pos h0] at hr
    cases hr
theorem look_named {t : Tr} {ds : List Int} {key K : Bs} (hK : K ≠ []) (h : (lookS t ds key).2.1 = K) : key = K ∧ (lookS t ds key).1 = ds := by
  unfold lookS at h ⊢
  split at h
  · exact absurd h.symm hK
  · rename_i h1
    split at h
    · exact absurd h.symm hK
    · rename_i h2
      rw [if_neg h1, if_neg h2]
      exact ⟨h, rfl⟩
/-- What has led somewhere leads there; what led to nothing at the name leads to the new node. -/
theorem Sim.run (hf : FsOk k f) {t' : Tr} {D N : Int} {K : Bs} (h : Sim f.t t' D K N) (hK : K ≠ [] ∧ K ≠ [46] ∧ K ≠ [46, 46]) {fw : Bool} (hN : (nod t'.nodes N).kind ≠ 3 ∨ fw = false) :
    ∀ (n : Nat) (s se : WS), WsOk f.t s → Full s → muS s ≤ n → fixS D K N s = s → runS f.t fw n s = .ok se → (se.node = 0 → se.slash = false ∨ (nod t'.nodes N).kind ≠ 3) → runS t' fw n s = .ok (fixS D K N se) := by
  intro n
  induction n with
  | zero =>
    intro s se _ _ hmu hx hr _
    have hl := mu_zero hmu
    rw [run_done _ hl] at hr ⊢
    injection hr with hr
    subst hr
    rw [hx]
  | succ n ih =>
    intro s se hs hu hmu hx hr hsl
    by_cases hl : s.left = []
    · rw [run_done _ hl] at hr ⊢
      injection hr with hr
      subst hr
      rw [hx]
    · unfold runS at hr ⊢
      rw [if_neg hl] at hr ⊢
      cases e : stepS f.t fw s with
      | error x => rw [e] at hr; cases hr
      | ok s1 =>
        rw [e] at hr
        dsimp only at hr
        obtain ⟨a, b, hlt⟩ := step_ok hf hs hu hl e
        have hmu1 : muS s1 ≤ n := by omega
        have hlost := run_lost hmu1 hr
        have hen := h.enter hs
        have e0 := e
        unfold stepS at e
        cases e2 : enterS f.t s with
        | error x => rw [e2] at e; cases e
        | ok ds =>
          rw [e2] at e
          obtain ⟨h1, h2, h3, -⟩ := enter_ok hs e2
          obtain ⟨-, -, -, g4, -, -⟩ := look_ok hf h1 h2 (s.left.headD [])
          dsimp only at e
          rcases look_hole h hK.2 (lastI_kind h2 h1) (s.left.headD []) with ⟨l1, l2, l3, l4⟩ | ⟨l1, l2⟩
          · rw [l3] at e
            dsimp only at e
            rw [atLink_zero] at e
            simp at e
            subst e
            have hl1 : s.left.tail = [] := hlost rfl
            rw [run_done _ hl1] at hr
            injection hr with hr
            subst hr
            have hat : atLinkS t' fw N s.left.tail s.slash = false := by
              unfold atLinkS
              rw [hl1]
              by_cases h3 : (nod t'.nodes N).kind = 3
              · rcases hN with g | g
                · exact absurd h3 g
                · rcases hsl rfl with g2 | g2
                  · dsimp only at g2; rw [g, g2]; simp
                  · exact absurd h3 g2
              · simp [h3]
            have hst : stepS t' fw s = .ok ⟨ds, K, N, s.left.tail, s.slash, s.hops⟩ := by
              unfold stepS
              rw [hen, e2]
              dsimp only
              rw [l4]
              dsimp only
              rw [hat]
              simp
            rw [hst]
            dsimp only
            rw [run_done _ hl1]
            unfold fixS
            rw [if_pos ⟨rfl, l1, rfl⟩]
          · have hst : stepS t' fw s = .ok s1 := by
              rw [← e0]
              unfold stepS
              rw [hen, e2]
              dsimp only
              rw [l2, h.atLink fw g4]
              split
              · rename_i hat
                exact h.through _ (atLink_kind hat).1 _ _ _
              · rfl
            rw [hst]
            dsimp only
            refine ih s1 se a b hmu1 ?_ hr hsl
            unfold fixS
            rw [if_neg]
            rintro ⟨c1, c2, c3⟩
            split at e
            · unfold throughS at e
              dsimp only at e
              split at e
              · cases e
              · split at e
                · cases e
                · injection e with e
                  subst e
                  exact hK.1 c3.symm
            · injection e with e
              subst e
              dsimp only at c1 c2 c3
              obtain ⟨d1, d2⟩ := look_named hK.1 c3
              rw [d2] at c2
              exact l1 ⟨c2, d1⟩
/-- .. of a path. -/
theorem Sim.find (hf : FsOk k f) {t' : Tr} {D N : Int} {K : Bs} (h : Sim f.t t' D K N) (hK : K ≠ [] ∧ K ≠ [46] ∧ K ≠ [46, 46]) {p : Bs} {fw : Bool} {a : At} (hN : (nod t'.nodes N).kind ≠ 3 ∨ fw = false) (ha : findS f.t p fw = .ok a) (hs : a.slash = false ∨ a.node ≠ 0) : findS t' p fw = .ok (fixA D K N a) := by
  unfold findS at ha ⊢
  split at ha
  · cases ha
  · rename_i hp
    rw [if_neg hp]
    have hst := start_ok hf p
    change (match runS f.t fw 40000 (startS p) with | .error e => Except.error e | .ok s => doneS f.t s) = _ at ha
    show (match runS t' fw 40000 (startS p) with | .error e => _ | .ok s => doneS t' s) = _
    cases e : runS f.t fw 40000 (startS p) with
    | error x => rw [e] at ha; cases ha
    | ok se =>
      rw [e] at ha
      dsimp only at ha
      have hse := run_ok hf 40000 hst.1 hst.2.1 e
      have hda : a = ⟨se.dirs, se.name, se.node, se.slash⟩ ∧ ¬ (se.slash = true ∧ se.node ≠ 0 ∧ (nod f.t.nodes se.node).kind ≠ 1) := by
        unfold doneS at ha
        split at ha
        · cases ha
        · rename_i hh
          injection ha with ha
          exact ⟨ha.symm, hh⟩
      obtain ⟨rfl, hdn⟩ := hda
      dsimp only at hs
      rw [h.run hf hK hN 40000 _ _ hst.1 hst.2.1 hst.2.2 (by unfold fixS; rw [if_neg (fun hh => by have := hh.2.2; exact hK.1 this.symm)]) e (fun h0 => .inl (hs.resolve_right (fun hh => hh h0)))]
      dsimp only
      by_cases h0 : se.node = 0
      · have hsl : se.slash = false := hs.resolve_right (fun hh => hh h0)
        unfold doneS fixS fixA
        dsimp only
        split
        · rw [if_neg (by simp [hsl])]
        · rw [if_neg (by simp [hsl])]
      · have hfx : fixS D K N se = se := by unfold fixS; rw [if_neg (fun hh => h0 hh.1)]
        have hfa : fixA D K N ⟨se.dirs, se.name, se.node, se.slash⟩ = ⟨se.dirs, se.name, se.node, se.slash⟩ := by unfold fixA; rw [if_neg (fun hh => h0 hh.1)]
        rw [hfx, hfa]
        unfold doneS
        rw [h.kind _ (hse.node.resolve_left h0), if_neg hdn]
end VtM
end

section
namespace VtM
open PathM TreeM
set_option linter.unusedVariables false
variable {k : Nat} {f : Fs}
/-- Where a path that is followed ends, there is no link. -/
def NoLink (t : Tr) (s : WS) : Prop := s.left = [] → s.node = 0 ∨ (nod t.nodes s.node).kind ≠ 3
theorem step_nolink (hf : FsOk k f) {s s' : WS} (h : WsOk f.t s) (hu : Full s) (hl : s.left ≠ []) (he : stepS f.t true s = .ok s') : NoLink f.t s' := by
  obtain ⟨a, _, _⟩ := step_ok hf h hu hl he
  intro hl'
  unfold stepS at he
  cases e : enterS f.t s with
  | error x => rw [e] at he; cases he
  | ok ds =>
    rw [e] at he
    dsimp only at he
    generalize lookS f.t ds (s.left.headD []) = p at *
    split at he
    · -- a link gone through
      have hz : s'.name = [] := by
        unfold throughS at he
        dsimp only at he
        split at he
        · cases he
        · split at he
          · cases he
          · injection he with he; subst he; rfl
      right
      rw [a.alone hz, lastI_kind a.dirs a.ne]
      decide
    · rename_i hat
      injection he with he
      subst he
      dsimp only at *
      unfold atLinkS at hat
      simp at hat
      by_cases h0 : p.2.2 = 0
      · exact .inl h0
      · exact .inr (hat h0)
theorem run_nolink (hf : FsOk k f) : ∀ (n : Nat) (s s' : WS), WsOk f.t s → Full s → NoLink f.t s → runS f.t true n s = .ok s' → NoLink f.t s' := by
  intro n
  induction n with
  | zero => intro s s' _ _ hn hr; simp [runS] at hr; subst hr; exact hn
  | succ n ih =>
    intro s s' hs hu hn hr
    unfold runS at hr
    split at hr
    · injection hr with hr; subst hr; exact hn
    · rename_i hl
      cases e : stepS f.t true s with
      | error x => rw [e] at hr; cases hr
      | ok s1 =>
        rw [e] at hr
        obtain ⟨a, b, _⟩ := step_ok hf hs hu hl e
        exact ih s1 s' a b (step_nolink hf hs hu hl e) hr
theorem run_left (hf : FsOk k f) {fw : Bool} : ∀ (n : Nat) (s s' : WS), WsOk f.t s → Full s → muS s ≤ n → runS f.t fw n s = .ok s' → s'.left = [] := by
  intro n
  induction n with
  | zero => intro s s' _ _ hmu hr; simp [runS] at hr; subst hr; exact mu_zero hmu
  | succ n ih =>
    intro s s' hs hu hmu hr
    unfold runS at hr
    split at hr
    · injection hr with hr; subst hr; assumption
    · rename_i hl
      cases e : stepS f.t fw s with
      | error x => rw [e] at hr; cases hr
      | ok s1 =>
        rw [e] at hr
        obtain ⟨a, b, c⟩ := step_ok hf hs hu hl e
        exact ih s1 s' a b (by omega) hr
theorem find_parts {t : Tr} {p : Bs} {fw : Bool} {a : At} (h : findS t p fw = .ok a) : partsE p = 0 ∧ ∃ s, runS t fw 40000 (startS p) = .ok s ∧ a = ⟨s.dirs, s.name, s.node, s.slash⟩ ∧ ¬ (s.slash = true ∧ s.node ≠ 0 ∧ (nod t.nodes s.node).kind ≠ 1) := by
  unfold findS at h
  split at h
  · cases h
  · rename_i hp
    change (match runS t fw 40000 (startS p) with | .error e => Except.error e | .ok s => doneS t s) = _ at h
    cases e : runS t fw 40000 (startS p) with
    | error x => rw [e] at h; cases h
    | ok s =>
      rw [e] at h
      dsimp only at h
      unfold doneS at h
      split at h
      · cases h
      · rename_i hh
        injection h with h
        exact ⟨Classical.byContradiction fun hh2 => hp hh2, s, rfl, h.symm, hh⟩
theorem find_nolink (hf : FsOk k f) {p : Bs} {a : At} (h : findS f.t p true = .ok a) : a.node = 0 ∨ (nod f.t.nodes a.node).kind ≠ 3 := by
  obtain ⟨_, s, e, rfl, _⟩ := find_parts h
  have hst := start_ok hf p
  have := run_nolink hf 40000 _ _ hst.1 hst.2.1 (fun _ => .inr (by show (nod f.t.nodes 1).kind ≠ 3; rw [hf.root]; decide)) e
  exact this (run_left hf 40000 _ _ hst.1 hst.2.1 hst.2.2 e)
/-- A path that isn't followed, and leads to nothing, followed leads to nothing at the same place. -/
theorem find_none_follow (hf : FsOk k f) {p : Bs} {a : At} (h : findS f.t p false = .ok a) (h0 : a.node = 0) : findS f.t p true = .ok a := by
  obtain ⟨hp, s, e, rfl, hd⟩ := find_parts h
  dsimp only at h0
  have hst := start_ok hf p
  have hrun : ∀ (n : Nat) (s s' : WS), WsOk f.t s → Full s → muS s ≤ n → s'.node = 0 → runS f.t false n s = .ok s' → runS f.t true n s = .ok s' := by
    intro n
    induction n with
    | zero => intro s s' _ _ _ _ hr; simpa [runS] using hr
    | succ n ih =>
      intro s s' hs hu hmu h0 hr
      unfold runS at hr ⊢
      split at hr
      · rename_i hl; rw [if_pos hl]; exact hr
      · rename_i hl
        rw [if_neg hl]
        cases e : stepS f.t false s with
        | error x => rw [e] at hr; cases hr
        | ok s1 =>
          rw [e] at hr
          dsimp only at hr
          obtain ⟨a, b, c⟩ := step_ok hf hs hu hl e
          have hst : stepS f.t true s = .ok s1 := by
            rw [← e]
            unfold stepS at e ⊢
            cases e2 : enterS f.t s with
            | error x => rfl
            | ok ds =>
              rw [e2] at e
              dsimp only at e ⊢
              generalize lookS f.t ds (s.left.headD []) = p at *
              have hat : atLinkS f.t true p.2.2 s.left.tail s.slash = atLinkS f.t false p.2.2 s.left.tail s.slash := by
                by_cases hl2 : s.left.tail = []
                · -- the last one: it leads to nothing
                  by_cases h1 : atLinkS f.t false p.2.2 s.left.tail s.slash = true
                  · rw [h1]
                    have := atLink_kind h1
                    unfold atLinkS
                    simp [this.1, this.2]
                  · rw [if_neg h1] at e
                    injection e with e
                    subst e
                    rw [run_done _ hl2] at hr
                    injection hr with hr
                    subst hr
                    dsimp only at h0
                    rw [h0, atLink_zero, atLink_zero]
                · have : decide (0 < s.left.tail.length) = true := decide_eq_true (List.length_pos_iff.2 hl2)
                  unfold atLinkS
                  rw [this]; rfl
              rw [hat]
          rw [hst]
          exact ih s1 s' a b (by omega) h0 hr
  have h2 := hrun 40000 _ _ hst.1 hst.2.1 hst.2.2 h0 e
  unfold findS
  rw [if_neg (by simp [hp])]
  show (match runS f.t true 40000 (startS p) with | .error e => _ | .ok s => doneS f.t s) = _
  rw [h2]
  dsimp only
  unfold doneS
  rw [if_neg hd]
end VtM
end

section
namespace VtM
open PathM TreeM
set_option linter.unusedVariables false
variable {k : Nat} {f : Fs}
theorem AtOk.ktri {a : At} (h : AtOk f.t a) (hf : FsOk k f) (h0 : a.node = 0) : a.name ≠ [] ∧ a.name ≠ [46] ∧ a.name ≠ [46, 46] := ⟨h.named hf h0, h.dots⟩
theorem AtOk.hole {a : At} (h : AtOk f.t a) (hf : FsOk k f) (h0 : a.node = 0) : entT f.t (lastI a.dirs) a.name = 0 := by rw [← h.leads (h.named hf h0), h0]
/-- Behind a node that is laid anew, of its kind, a path leads the same way, unless the node is a link. -/
theorem same_put (hf : FsOk k f) {id : Int} (hk : (nod f.t.nodes id).kind ≠ 0) (h3 : (nod f.t.nodes id).kind ≠ 3) (m : Nd) (hid : m.id = (nod f.t.nodes id).id) (hkd : m.kind = (nod f.t.nodes id).kind) : Same f.t (putT f.t m) := by
  have e : m.id = id := by rw [hid, nod_id hk]
  refine ⟨⟨fun i hi => ?_, fun i hi => ?_⟩, fun d key hd => ent_put hf.rise m d key⟩
  · rw [kind_put hf.rise]
    split
    · rename_i h; rw [h, e, hkd]
    · rfl
  · rw [nod_put hf.rise, if_neg]
    rintro h
    rw [h, e] at hi
    exact h3 hi
theorem same_stamp (hf : FsOk k f) {id : Int} (ck : Int) (hk : (nod f.t.nodes id).kind ≠ 0) : Same f.t (stampT f.t ck id) := by
  unfold stampT
  have e := nod_id hk
  refine ⟨⟨fun i hi => ?_, fun i hi => ?_⟩, fun d key hd => ent_put hf.rise _ d key⟩
  · rw [kind_put hf.rise]
    split
    · rename_i h
      have h : i = (nod f.t.nodes id).id := h
      rw [h, e]
    · rfl
  · rw [nod_put hf.rise]
    split
    · rename_i h
      have h : i = (nod f.t.nodes id).id := h
      rw [h, e]
    · rfl
theorem Same.trans {a b c : Tr} (h : Same a b) (g : Same b c) : Same a c :=
  ⟨⟨fun id hi => by rw [g.kind id (by rw [h.kind id hi]; exact hi), h.kind id hi], fun id hi => by rw [g.data id (by rw [h.kind id (by rw [hi]; decide)]; exact hi), h.data id hi]⟩,
   fun d key hd => by rw [g.ent d key (by rw [h.kind d (by rw [hd]; decide)]; exact hd), h.ent d key hd]⟩
theorem Sim.same {a b c : Tr} {D N : Int} {K : Bs} (h : Sim a b D K N) (hD : (nod b.nodes D).kind = 1) (g : Same b c) : Sim a c D K N :=
  ⟨⟨fun id hi => by rw [g.kind id (by rw [h.kind id hi]; exact hi), h.kind id hi], fun id hi => by rw [g.data id (by rw [h.kind id (by rw [hi]; decide)]; exact hi), h.data id hi]⟩,
   fun d key hd hh => by rw [g.ent d key (by rw [h.kind d (by rw [hd]; decide)]; exact hd), h.ent d key hd hh], h.hole, by rw [g.ent D K hD, h.new]⟩
theorem sim_bind (hf : FsOk k f) {D : Int} (hD : (nod f.t.nodes D).kind = 1) {K : Bs} (hh : entT f.t D K = 0) (N : Int) : Sim f.t (bindT f.t D K N) D K N := by
  have hD0 : (nod f.t.nodes D).kind ≠ 0 := by rw [hD]; decide
  refine ⟨⟨fun i hi => kind_bind hf.rise hD0 K N i, fun i hi => ?_⟩, fun d key hd hne => ?_, hh, ?_⟩
  · rw [nod_bind hf.rise hD0]
    split
    · rename_i h; subst h; rfl
    · rfl
  · rw [ent_bind hf.rise hD0 (hf.nsorted D), if_neg hne]
  · rw [ent_bind hf.rise hD0 (hf.nsorted D), if_pos ⟨rfl, rfl⟩]
/-- A new node laid down: all names lead to the same. -/
theorem same_new (hf : FsOk k f) (m : Nd) (hid : m.id = f.t.last + 1) : Same f.t (putT f.t m) := by
  have hno : (nod f.t.nodes m.id).kind = 0 := Classical.byContradiction fun hh => by have := (hf.nid hh).2; omega
  refine ⟨⟨fun i hi => ?_, fun i hi => ?_⟩, fun d key hd => ent_put hf.rise m d key⟩
  · rw [kind_put hf.rise, if_neg]; rintro h; rw [h] at hi; exact hi hno
  · rw [nod_put hf.rise, if_neg]; rintro h; rw [h, hno] at hi; cases hi
/-- What is made, and where. -/
theorem create_parts (hf : FsOk k f) (hkk : k ≤ 1000000) {a : At} (ha : AtOk f.t a) (h0 : a.node = 0) (kind mode : Int) (data : Bs) (hk : 1 ≤ kind ∧ kind ≤ 3) (hd : data.length ≤ 4096) (h : (createF f a kind mode data).2 = 0) :
    Sim f.t (createF f a kind mode data).1.t (lastI a.dirs) a.name (f.t.last + 1) ∧ (nod (createF f a kind mode data).1.t.nodes (f.t.last + 1)).kind = kind ∧ (nod (createF f a kind mode data).1.t.nodes (f.t.last + 1)).data = data ∧ (nod (createF f a kind mode data).1.t.nodes (f.t.last + 1)).time = (createF f a kind mode data).1.ck ∧
    (nod (createF f a kind mode data).1.t.nodes (f.t.last + 1)).es = [] ∧ (createF f a kind mode data).1 = bindF { tickF f with t := putT f.t ⟨f.t.last + 1, kind, mode, 0, (tickF f).ck, data, []⟩ } a (f.t.last + 1) := by
  unfold createF at h ⊢
  split at h
  · cases h
  · rename_i hc
    rw [if_neg hc]
    dsimp only
    have hdir : (nod f.t.nodes (lastI a.dirs)).kind = 1 := ha.last
    have h1 := hf.tick.fresh kind mode (tickF f).ck data hk hd hkk
    have hs1 := same_new hf ⟨f.t.last + 1, kind, mode, 0, (tickF f).ck, data, []⟩ rfl
    have hnew : ∀ x, (nod (putT f.t ⟨f.t.last + 1, kind, mode, 0, (tickF f).ck, data, []⟩).nodes x) = if x = f.t.last + 1 then ⟨f.t.last + 1, kind, mode, 0, (tickF f).ck, data, (nod f.t.nodes (f.t.last + 1)).es⟩ else nod f.t.nodes x := fun x => nod_put hf.rise _ x
    have hno : (nod f.t.nodes (f.t.last + 1)).kind = 0 := Classical.byContradiction fun hh => by have := (hf.nid hh).2; omega
    have hnoes : (nod f.t.nodes (f.t.last + 1)).es = [] := by
      unfold nod
      cases e : seek f.t.nodes (f.t.last + 1) with
      | none => rfl
      | some n =>
        have := hf.ids _ (look_mem e).1
        rw [(look_mem e).2] at this
        omega
    have hne : lastI a.dirs ≠ f.t.last + 1 := fun e => by rw [e, hno] at hdir; cases hdir
    generalize hF1 : ({ tickF f with t := putT f.t ⟨f.t.last + 1, kind, mode, 0, (tickF f).ck, data, []⟩ } : Fs) = f1 at *
    have ht : f1.t = putT f.t ⟨f.t.last + 1, kind, mode, 0, (tickF f).ck, data, []⟩ := by rw [← hF1]
    have hck : f1.ck = (tickF f).ck := by rw [← hF1]
    have h1' : FsOk (k + 1) f1 := by rw [← hF1]; exact h1
    have hF2 : ({ t := putT (tickF f).t ⟨f.t.last + 1, kind, mode, 0, (tickF f).ck, data, []⟩, ck := (tickF f).ck } : Fs) = f1 := hF1
    rw [hF2]
    rw [← ht] at hs1 hnew
    have hd1 : (nod f1.t.nodes (lastI a.dirs)).kind = 1 := by rw [hnew, if_neg hne]; exact hdir
    have hd10 : (nod f1.t.nodes (lastI a.dirs)).kind ≠ 0 := by rw [hd1]; decide
    have hh1 : entT f1.t (lastI a.dirs) a.name = 0 := by rw [hs1.ent _ _ hdir]; exact ha.hole hf h0
    have hb := sim_bind h1' hd1 hh1 (f.t.last + 1)
    have h2 : FsOk (k + 2) { f1 with t := bindT f1.t (lastI a.dirs) a.name (f.t.last + 1) } := h1'.bind hd10 a.name (f.t.last + 1) (.inr ⟨by have := hf.root_last; omega, by rw [hnew, if_pos rfl]; show kind ≠ 0; omega⟩)
    have hst := same_stamp h2 f1.ck (id := lastI a.dirs) (by show (nod (bindT f1.t _ _ _).nodes _).kind ≠ 0; rw [kind_bind h1'.rise hd10]; exact hd10)
    have hsim : Sim f.t (bindT f1.t (lastI a.dirs) a.name (f.t.last + 1)) (lastI a.dirs) a.name (f.t.last + 1) :=
      ⟨⟨fun id hi => by rw [hb.kind id (by rw [hs1.kind id hi]; exact hi), hs1.kind id hi], fun id hi => by rw [hb.data id (by rw [hs1.kind id (by rw [hi]; decide)]; exact hi), hs1.data id hi]⟩,
       fun d key hd hh => by rw [hb.ent d key (by rw [hs1.kind d (by rw [hd]; decide)]; exact hd) hh, hs1.ent d key hd], ha.hole hf h0, hb.new⟩
    have hdb : (nod (bindT f1.t (lastI a.dirs) a.name (f.t.last + 1)).nodes (lastI a.dirs)).kind = 1 := by rw [kind_bind h1'.rise hd10]; exact hd1
    have hfin : ∀ x, x ≠ lastI a.dirs → nod (bindF f1 a (f.t.last + 1)).t.nodes x = nod f1.t.nodes x := fun x hx => by
      show nod (stampT (bindT f1.t (lastI a.dirs) a.name (f.t.last + 1)) f1.ck (lastI a.dirs)).nodes x = _
      unfold stampT
      rw [nod_put h2.rise, if_neg, nod_bind h1'.rise hd10, if_neg hx]
      show ¬ x = (nod (bindT f1.t (lastI a.dirs) a.name (f.t.last + 1)).nodes (lastI a.dirs)).id
      rw [nod_id (by rw [hdb]; decide)]; exact hx
    have hn : nod (bindF f1 a (f.t.last + 1)).t.nodes (f.t.last + 1) = ⟨f.t.last + 1, kind, mode, 0, (tickF f).ck, data, (nod f.t.nodes (f.t.last + 1)).es⟩ := by
      rw [hfin _ (fun e => hne e.symm), hnew, if_pos rfl]
    refine ⟨hsim.same hdb hst, ?_, ?_, ?_, ?_, rfl⟩
    · rw [hn]
    · rw [hn]
    · rw [hn]; exact hck.symm
    · rw [hn]; exact hnoes
theorem step_err {t : Tr} {fw : Bool} {s : WS} {x : Int} (h : stepS t fw s = .error x) : x ≠ 0 := by
  unfold stepS at h
  cases e : enterS t s with
  | error y =>
    rw [e] at h
    injection h with h
    subst h
    unfold enterS at e
    split at e
    · injection e with e; omega
    · split at e
      · injection e with e; omega
      · split at e <;> cases e
  | ok ds =>
    rw [e] at h
    dsimp only at h
    split at h
    · unfold throughS at h
      dsimp only at h
      split at h
      · injection h with h; omega
      · split at h
        · injection h with h; omega
        · cases h
    · cases h
theorem run_err {t : Tr} {fw : Bool} {x : Int} : ∀ (n : Nat) (s : WS), runS t fw n s = .error x → x ≠ 0 := by
  intro n
  induction n with
  | zero => intro s h; cases h
  | succ n ih =>
    intro s h
    unfold runS at h
    split at h
    · cases h
    · cases e : stepS t fw s with
      | error y => rw [e] at h; injection h with h; subst h; exact step_err e
      | ok s1 => rw [e] at h; exact ih s1 h
theorem find_err {t : Tr} {p : Bs} {fw : Bool} {x : Int} (h : findS t p fw = .error x) : x ≠ 0 := by
  unfold findS at h
  split at h
  · rename_i hp
    injection h with h
    omega
  · change (match runS t fw 40000 (startS p) with | .error e => Except.error e | .ok s => doneS t s) = _ at h
    cases e : runS t fw 40000 (startS p) with
    | error y => rw [e] at h; injection h with h; subst h; exact run_err _ _ e
    | ok s =>
      rw [e] at h
      dsimp only at h
      unfold doneS at h
      split at h
      · injection h with h; omega
      · cases h
/-- What reading and telling answer where something is. -/
theorem read_at {p : Bs} {a : At} (h : findS f.t p true = .ok a) (h0 : a.node ≠ 0) (h1 : (nod f.t.nodes a.node).kind ≠ 1) : readF f p = ((nod f.t.nodes a.node).data, 0) := by
  unfold readF thereF
  rw [h]
  dsimp only
  rw [if_neg h0]
  dsimp only
  rw [if_neg (show ¬ kindF f a.node = 1 from h1)]
theorem stat_at {p : Bs} {fw : Bool} {a : At} (h : findS f.t p fw = .ok a) (h0 : a.node ≠ 0) : statF f p fw = (⟨(nod f.t.nodes a.node).kind, (nod f.t.nodes a.node).mode, (nod f.t.nodes a.node).owner, (nod f.t.nodes a.node).time, (nod f.t.nodes a.node).data.length, links f.t.nodes a.node⟩, 0) := by
  unfold statF thereF
  rw [h]
  dsimp only
  rw [if_neg h0]
theorem stat_none {p : Bs} {fw : Bool} {a : At} (h : findS f.t p fw = .ok a) (h0 : a.node = 0) : (statF f p fw).2 = 20 := by
  unfold statF thereF
  rw [h]
  dsimp only
  rw [if_pos h0]
theorem read_none {p : Bs} {a : At} (h : findS f.t p true = .ok a) (h0 : a.node = 0) : readF f p = ([], 20) := by
  unfold readF thereF
  rw [h]
  dsimp only
  rw [if_pos h0]
/-- What a call that writes leaves. -/
structure Wrote (f g : Fs) (p data : Bs) (how : Int) : Prop where
  read : readF g p = (if how = 2 ∧ (readF f p).2 = 0 then (readF f p).1 ++ data else data, 0)
  stat : (statF g p true).2 = 0 ∧ (statF g p true).1.kind = 2 ∧ (statF g p true).1.size = ((if how = 2 ∧ (readF f p).2 = 0 then (readF f p).1 ++ data else data).length : Int) ∧ (statF g p true).1.time = g.ck
  excl : how = 3 → (readF f p).2 = 20
theorem write_wrote (hf : FsOk k f) (hkk : k ≤ 1000000) (p data : Bs) (how : Int) (h : (writeF f p data how).2 = 0) : Wrote f (writeF f p data how).1 p data how := by
  unfold writeF at h ⊢
  split at h
  · cases h
  · rename_i hhow
    rw [if_neg hhow]
    cases e : findS f.t p (decide (how ≠ 3)) with
    | error x =>
      rw [e] at h
      dsimp only at h
      exact absurd h (find_err e)
    | ok a =>
      rw [e] at h
      dsimp only at h ⊢
      have ha := find_ok hf e
      split at h
      · cases h
      · rename_i c1
        rw [if_neg c1]
        split at h
        · cases h
        · rename_i c2
          rw [if_neg c2]
          split at h
          · -- something is there
            rename_i h0
            rw [if_pos h0]
            have hh3 : how ≠ 3 := fun hh => c1 ⟨h0, hh⟩
            have hk1 : (nod f.t.nodes a.node).kind ≠ 1 := fun hh => c2 (.inr ⟨h0, hh⟩)
            rw [decide_eq_true hh3] at e
            have hk0 := ha.node.resolve_left h0
            have hk3 := (find_nolink hf e).resolve_left h0
            have hk2 : (nod f.t.nodes a.node).kind = 2 := by have := hf.nkind hk0; omega
            have hrd := read_at e h0 hk1
            unfold rewriteF at h ⊢
            dsimp only at h ⊢
            have hkept : (if how = 2 then (nod f.t.nodes a.node).data else []) ++ data = if how = 2 ∧ (readF f p).2 = 0 then (readF f p).1 ++ data else data := by
              rw [hrd]
              by_cases h2 : how = 2
              · rw [if_pos h2, if_pos ⟨h2, rfl⟩]
              · rw [if_neg h2, if_neg (fun hh => h2 hh.1)]; rfl
            generalize (if how = 2 then (nod f.t.nodes a.node).data else []) = kept at *
            split at h
            · cases h
            · rename_i c3
              rw [if_neg c3]
              have hid := nod_id hk0
              obtain ⟨m, hm⟩ : ∃ m : Nd, m = { nod f.t.nodes a.node with data := kept ++ data, time := (tickF f).ck } := ⟨_, rfl⟩
              have hs := same_put hf hk0 hk3 m (by rw [hm]) (by rw [hm])
              have hn : nod (putT f.t m).nodes a.node = { m with es := (nod f.t.nodes m.id).es } := by
                rw [nod_put hf.rise, if_pos (by rw [hm]; exact hid.symm)]
              have hfd := (hs.find hf p true).trans e
              obtain ⟨g, hg⟩ : ∃ g : Fs, g = ⟨putT f.t m, (tickF f).ck⟩ := ⟨_, rfl⟩
              have hgt : g.t = putT f.t m := by rw [hg]
              have hgc : g.ck = (tickF f).ck := by rw [hg]
              have goal : Wrote f g p data how := by
                rw [← hgt] at hn hfd
                have m1 : m.kind = 2 := by rw [hm]; exact hk2
                have m2 : m.data = kept ++ data := by rw [hm]
                have m3 : m.time = (tickF f).ck := by rw [hm]
                refine ⟨?_, ?_, fun hh => absurd hh hh3⟩
                · rw [read_at hfd h0 (by rw [hn]; show m.kind ≠ 1; rw [m1]; decide), hn, ← hkept, ← m2]
                · rw [stat_at hfd h0, hn, ← hkept, ← m2]
                  exact ⟨rfl, m1, rfl, m3.trans hgc.symm⟩
              rw [hg, hm] at goal
              exact goal
          · rename_i h0
            rw [if_neg h0]
            have h0 : a.node = 0 := Classical.byContradiction fun hh => h0 hh
            split at h
            · cases h
            · rename_i c3
              rw [if_neg c3]
              have hsl : a.slash = false := by
                cases e3 : a.slash with
                | false => rfl
                | true => exact absurd (.inl ⟨h0, e3⟩) c2
              have et : findS f.t p true = .ok a := by
                by_cases hh3 : how = 3
                · rw [show decide (how ≠ 3) = false from by simp [hh3]] at e
                  exact find_none_follow hf e h0
                · rw [decide_eq_true hh3] at e; exact e
              obtain ⟨hsim, n1, n2, n3, n4, -⟩ := create_parts hf hkk ha h0 2 420 data (by omega) (by omega) h
              generalize (createF f a 2 420 data).1 = g at *
              have hN : f.t.last + 1 ≠ 0 := by have := hf.root_last; omega
              have hfd := hsim.find hf (ha.ktri hf h0) (p := p) (fw := true) (a := a) (.inl (by rw [n1]; decide)) et (.inl hsl)
              have hfx : fixA (lastI a.dirs) a.name (f.t.last + 1) a = { a with node := f.t.last + 1 } := by unfold fixA; rw [if_pos ⟨h0, rfl, rfl⟩]
              rw [hfx] at hfd
              have hrd := read_none et h0
              have hd : (if how = 2 ∧ (readF f p).2 = 0 then (readF f p).1 ++ data else data) = data := by
                rw [hrd]; simp
              refine ⟨?_, ?_, fun _ => by rw [hrd]⟩
              · rw [read_at hfd hN (by dsimp only; rw [n1]; decide)]
                dsimp only
                rw [n2, hd]
              · rw [stat_at hfd hN]
                dsimp only
                rw [n2]
                exact ⟨rfl, n1, by rw [hd], n3⟩
end VtM
end
