/- DERIVED. Plain mathematics of layer 5 (a file system as a list of nodes): the store's calls, the path that is gone, the calls with paths. No program, no world. -/
import Derived.Test.YtkmnbbocahjmaaaGreatDoorTreeMath2
namespace VtM
open PathM TreeM
set_option linter.unusedVariables false

def zeroN : Nd := ⟨0, 0, 0, 0, 0, [], []⟩
/-- The node of a number. -/
def seek (l : List Nd) (id : Int) : Option Nd := l.find? fun n => n.id == id
def nod (l : List Nd) (id : Int) : Nd := (seek l id).getD zeroN
def Rise (l : List Nd) : Prop := l.Pairwise fun a b => a.id < b.id

def sizeN (l : List Nd) : Nat := (l.map fun n => n.data.length).sum
theorem look_nil (id : Int) : seek [] id = none := rfl
theorem look_cons (x : Nd) (l : List Nd) (id : Int) : seek (x :: l) id = if x.id = id then some x else seek l id := by
  unfold seek; rw [List.find?_cons]
  by_cases e : x.id = id
  · simp [e]
  · have : (x.id == id) = false := by simpa using e
    rw [this, if_neg e]
theorem look_mem {l : List Nd} {id : Int} {n : Nd} (h : seek l id = some n) : n ∈ l ∧ n.id = id := by
  unfold seek at h
  exact ⟨List.mem_of_find?_eq_some h, by simpa using List.find?_some h⟩
theorem look_none {l : List Nd} {id : Int} : seek l id = none ↔ ∀ n ∈ l, n.id ≠ id := by
  unfold seek; rw [List.find?_eq_none]; simp
theorem rise_cons {x : Nd} {l : List Nd} (h : Rise (x :: l)) : (∀ n ∈ l, x.id < n.id) ∧ Rise l := by simpa [Rise] using h
theorem look_of_mem : ∀ {l : List Nd}, Rise l → ∀ {n : Nd}, n ∈ l → seek l n.id = some n
  | [], _, _, h => by cases h
  | x :: l, hr, n, h => by
    obtain ⟨h1, h2⟩ := rise_cons hr
    rw [look_cons]
    rcases List.mem_cons.1 h with e | e
    · rw [e, if_pos rfl]
    · rw [if_neg (by have := h1 n e; omega)]; exact look_of_mem h2 e

/-- A node is laid down, in the place of that of its number. -/
def putN (n : Nd) : List Nd → List Nd
  | [] => [n]
  | x :: xs => if n.id < x.id then n :: x :: xs else if n.id = x.id then n :: xs else x :: putN n xs
theorem put_mem {n : Nd} : ∀ {l : List Nd} {m : Nd}, m ∈ putN n l → m = n ∨ m ∈ l
  | [], m, h => by simp [putN] at h; exact .inl h
  | x :: xs, m, h => by
    unfold putN at h
    split at h
    · rcases List.mem_cons.1 h with e | e
      · exact .inl e
      · exact .inr e
    · split at h
      · rcases List.mem_cons.1 h with e | e
        · exact .inl e
        · exact .inr (List.mem_cons_of_mem _ e)
      · rcases List.mem_cons.1 h with e | e
        · exact .inr (e ▸ List.mem_cons_self ..)
        · rcases put_mem e with e | e
          · exact .inl e
          · exact .inr (List.mem_cons_of_mem _ e)
theorem look_put (n : Nd) : ∀ {l : List Nd}, Rise l → ∀ id, seek (putN n l) id = if id = n.id then some n else seek l id
  | [], _, id => by
    unfold putN; rw [look_cons, look_nil]
    by_cases e : n.id = id
    · rw [if_pos e, if_pos e.symm]
    · rw [if_neg e, if_neg (fun h => e h.symm)]
  | x :: xs, hr, id => by
    obtain ⟨h1, h2⟩ := rise_cons hr
    unfold putN
    split
    · rename_i hlt
      rw [look_cons]
      by_cases e : n.id = id
      · rw [if_pos e, if_pos e.symm]
      · rw [if_neg e, if_neg (fun h => e h.symm)]
    · split
      · rename_i hlt he
        rw [look_cons, look_cons, ← he]
        by_cases e : n.id = id
        · rw [if_pos e, if_pos e.symm]
        · rw [if_neg e, if_neg (fun h => e h.symm), if_neg e]
      · rename_i hlt he
        rw [look_cons, look_cons, look_put n h2]
        by_cases e : x.id = id
        · rw [if_pos e, if_pos e, if_neg (by omega)]
        · rw [if_neg e, if_neg e]
theorem rise_put (n : Nd) : ∀ {l : List Nd}, Rise l → Rise (putN n l)
  | [], _ => by simp [putN, Rise]
  | x :: xs, hr => by
    obtain ⟨h1, h2⟩ := rise_cons hr
    unfold putN
    split
    · rename_i hlt
      refine List.pairwise_cons.2 ⟨fun m hm => ?_, hr⟩
      rcases List.mem_cons.1 hm with e | e
      · rw [e]; exact hlt
      · have := h1 m e; omega
    · split
      · rename_i he
        exact List.pairwise_cons.2 ⟨fun m hm => by have := h1 m hm; omega, h2⟩
      · rename_i h3 h4
        refine List.pairwise_cons.2 ⟨fun m hm => ?_, rise_put n h2⟩
        rcases put_mem hm with e | e
        · rw [e]; omega
        · exact h1 m e
theorem mem_look {l : List Nd} (hr : Rise l) {n : Nd} : n ∈ l ↔ seek l n.id = some n := ⟨look_of_mem hr, fun h => (look_mem h).1⟩
theorem put_len (n : Nd) : ∀ {l : List Nd}, Rise l → (putN n l).length = if (seek l n.id).isSome = true then l.length else l.length + 1
  | [], _ => by simp [putN, look_nil]
  | x :: xs, hr => by
    obtain ⟨h1, h2⟩ := rise_cons hr
    unfold putN
    split
    · rename_i hlt
      have : seek (x :: xs) n.id = none := look_none.2 fun m hm => by
        rcases List.mem_cons.1 hm with e | e
        · rw [e]; omega
        · have := h1 m e; omega
      rw [this]; simp
    · split
      · rename_i he
        rw [look_cons, if_pos he.symm]; simp
      · rename_i h3 h4
        have e : seek (x :: xs) n.id = seek xs n.id := by rw [look_cons, if_neg (fun h => h4 h.symm)]
        rw [e, List.length_cons, put_len n h2, List.length_cons]
        cases (seek xs n.id).isSome <;> rfl

/-- A node is there no more. -/
def delN (id : Int) (l : List Nd) : List Nd := l.filter fun n => n.id != id
theorem look_del (i : Int) : ∀ (l : List Nd) (id : Int), seek (delN i l) id = if id = i then none else seek l id
  | [], id => by simp [delN, look_nil]
  | x :: xs, id => by
    have ih := look_del i xs id
    unfold delN at *
    rw [List.filter_cons]
    by_cases e : x.id = i
    · have : (x.id != i) = false := by simpa using e
      rw [this, if_neg (by simp), ih, look_cons]
      by_cases e2 : id = i
      · rw [if_pos e2, if_pos e2]
      · rw [if_neg e2, if_neg e2, if_neg (by omega)]
    · have : (x.id != i) = true := by simpa using e
      rw [this, if_pos rfl, look_cons, look_cons, ih]
      by_cases e2 : x.id = id
      · rw [if_pos e2, if_pos e2, if_neg (by omega)]
      · rw [if_neg e2, if_neg e2]
theorem rise_del (i : Int) {l : List Nd} (h : Rise l) : Rise (delN i l) := List.Pairwise.sublist List.filter_sublist h
theorem del_len (i : Int) : ∀ {l : List Nd}, Rise l → (delN i l).length + (if (seek l i).isSome = true then 1 else 0) = l.length
  | [], _ => by simp [delN, look_nil]
  | x :: xs, hr => by
    obtain ⟨h1, h2⟩ := rise_cons hr
    have ih := del_len i h2
    unfold delN at *
    rw [List.filter_cons]
    by_cases e : x.id = i
    · have hz : (x.id != i) = false := by simpa using e
      have hn : seek xs i = none := look_none.2 fun m hm => by have := h1 m hm; omega
      rw [hn] at ih
      rw [hz, look_cons, if_pos e]; simpa using ih
    · have hz : (x.id != i) = true := by simpa using e
      rw [hz, look_cons, if_neg e, if_pos rfl]
      simp only [List.length_cons]; omega
theorem del_mem {i : Int} {l : List Nd} {m : Nd} : m ∈ delN i l ↔ m ∈ l ∧ m.id ≠ i := by simp [delN]

/-- Two rising lists in which the same is found are one. -/
theorem rise_ext {a b : List Nd} (ha : Rise a) (hb : Rise b) (h : ∀ id, seek a id = seek b id) : a = b := by
  have hm : ∀ n, n ∈ a ↔ n ∈ b := fun n => by rw [mem_look ha, mem_look hb, h]
  have hna : a.Nodup := List.Pairwise.imp (fun h e => by subst e; omega) ha
  have hnb : b.Nodup := List.Pairwise.imp (fun h e => by subst e; omega) hb
  have hp : a.Perm b := (List.perm_ext_iff_of_nodup hna hnb).2 hm
  exact hp.eq_of_pairwise (fun x y _ _ h1 h2 => absurd h1 (by omega)) ha hb

/-! ### entries -/
/-- P5.1: a name leads to another node, or to none. -/
def boundE (es : List Ent) (key : Bs) (id : Int) : List Ent :=
  es.take (klow es key) ++ (if id = 0 then [] else [⟨key, id⟩]) ++ es.drop (if klow es key < es.length ∧ (entAt es (klow es key)).key = key then klow es key + 1 else klow es key)

/-! ### the store's calls -/
def entT (t : Tr) (dir : Int) (key : Bs) : Int := (childO (nod t.nodes dir).es key).getD 0
def putT (t : Tr) (n : Nd) : Tr := { t with nodes := putN { n with es := (nod t.nodes n.id).es } t.nodes, last := max t.last n.id }
def bindT (t : Tr) (dir : Int) (key : Bs) (id : Int) : Tr :=
  match seek t.nodes dir with
  | none => t
  | some n => { t with nodes := putN { n with es := boundE n.es key id } t.nodes }
def dropT (t : Tr) (id : Int) : Tr := { t with nodes := delN id t.nodes }
def stampT (t : Tr) (ck : Int) (id : Int) : Tr := putT t { nod t.nodes id with time := ck }
def forgetT (t : Tr) (id : Int) : Tr := if links t.nodes id = 0 then dropT t id else t

/-! ### a path is gone -/
structure At where
  dirs : List Int
  name : Bs
  node : Int
  slash : Bool
deriving DecidableEq, Inhabited
structure WS where
  dirs : List Int
  name : Bs
  node : Int
  left : List Bs
  slash : Bool
  hops : Nat
deriving DecidableEq, Inhabited
def lastI (l : List Int) : Int := l.getLast?.getD 0

/-- The way back from where a name is to be looked for. -/
def enterS (t : Tr) (s : WS) : Except Int (List Int) :=
  if s.node = 0 then .error 20 else if (nod t.nodes s.node).kind ≠ 1 then .error 22 else if s.name = [] then .ok s.dirs else .ok (s.dirs ++ [s.node])
/-- The place that a name leads to. -/
def lookS (t : Tr) (dirs : List Int) (nm : Bs) : List Int × Bs × Int :=
  if nm = [46] then (dirs, [], lastI dirs)
  else if nm = [46, 46] then (dirs.take (max (dirs.length - 1) 1), [], lastI (dirs.take (max (dirs.length - 1) 1)))
  else (dirs, nm, entT t (lastI dirs) nm)
def atLinkS (t : Tr) (fw : Bool) (node : Int) (left : List Bs) (slash : Bool) : Bool :=
  (decide (0 < left.length) || fw || slash) && (node != 0 && (nod t.nodes node).kind == 3)
def throughS (t : Tr) (dirs : List Int) (node : Int) (left : List Bs) (slash : Bool) (hops : Nat) : Except Int WS :=
  let d := (nod t.nodes node).data
  if 8 < hops + 1 then .error 25
  else if longIn (btw d) = true then .error 26
  else
    let ds := if d.head? = some 47 then dirs.take 1 else dirs
    .ok ⟨ds, [], lastI ds, names d ++ left, slash || (decide (left.length = 0) && d.getLast? == some 47), hops + 1⟩
def stepS (t : Tr) (fw : Bool) (s : WS) : Except Int WS :=
  match enterS t s with
  | .error e => .error e
  | .ok ds =>
    let p := lookS t ds (s.left.headD [])
    if atLinkS t fw p.2.2 s.left.tail s.slash = true then throughS t p.1 p.2.2 s.left.tail s.slash s.hops
    else .ok ⟨p.1, p.2.1, p.2.2, s.left.tail, s.slash, s.hops⟩
def runS (t : Tr) (fw : Bool) : Nat → WS → Except Int WS
  | 0, s => .ok s
  | n + 1, s => if s.left = [] then .ok s else
    match stepS t fw s with
    | .error e => .error e
    | .ok s' => runS t fw n s'
def doneS (t : Tr) (s : WS) : Except Int At :=
  if s.slash = true ∧ s.node ≠ 0 ∧ (nod t.nodes s.node).kind ≠ 1 then .error 22 else .ok ⟨s.dirs, s.name, s.node, s.slash⟩
def findS (t : Tr) (p : Bs) (fw : Bool) : Except Int At :=
  if partsE p ≠ 0 then .error (partsE p) else
    match runS t fw 40000 ⟨[1], [], 1, partsL p, partsB p, 0⟩ with
    | .error e => .error e
    | .ok s => doneS t s

/-! ### the calls with paths -/
structure Fs where
  t : Tr
  ck : Int
deriving DecidableEq, Inhabited
def kindF (f : Fs) (id : Int) : Int := (nod f.t.nodes id).kind
def tickF (f : Fs) : Fs := { f with ck := min (f.ck + 1) 1099511627776 }
/-- A name of a place leads to a node; its directory's time is the clock. -/
def bindF (f : Fs) (at_ : At) (id : Int) : Fs := { f with t := stampT (bindT f.t (lastI at_.dirs) at_.name id) f.ck (lastI at_.dirs) }
def forgetF (f : Fs) (id : Int) : Fs := { f with t := forgetT f.t id }
def nodeFitsB (f : Fs) : Bool := decide ((f.t.nodes.length : Int) < f.t.rn) && decide (f.t.nodes.length < 512)
def bytesFitB (f : Fs) (more : Int) : Bool := if more ≤ 0 then true else decide ((sizeN f.t.nodes : Int) ≤ f.t.rb) && decide (more ≤ f.t.rb - (sizeN f.t.nodes : Int))
def createF (f : Fs) (at_ : At) (kind mode : Int) (data : Bs) : Fs × Int :=
  if nodeFitsB f = false ∨ bytesFitB f data.length = false then (f, 27)
  else
    let f1 := tickF f
    let id := f.t.last + 1
    (bindF { f1 with t := putT f1.t ⟨id, kind, mode, 0, f1.ck, data, []⟩ } at_ id, 0)
/-- Where something is. -/
def thereF (f : Fs) (p : Bs) (fw : Bool) : Except Int At :=
  match findS f.t p fw with
  | .error e => .error e
  | .ok a => if a.node = 0 then .error 20 else .ok a
def readF (f : Fs) (p : Bs) : Bs × Int :=
  match thereF f p true with
  | .error e => ([], e)
  | .ok a => if kindF f a.node = 1 then ([], 23) else ((nod f.t.nodes a.node).data, 0)
structure Inf where
  kind : Int
  mode : Int
  owner : Int
  time : Int
  size : Int
  links : Int
deriving DecidableEq, Inhabited
def statF (f : Fs) (p : Bs) (fw : Bool) : Inf × Int :=
  match thereF f p fw with
  | .error e => (⟨0, 0, 0, 0, 0, 0⟩, e)
  | .ok a => let n := nod f.t.nodes a.node; (⟨n.kind, n.mode, n.owner, n.time, n.data.length, links f.t.nodes a.node⟩, 0)
def listF (f : Fs) (p : Bs) : List Bs × Int :=
  match thereF f p true with
  | .error e => ([], e)
  | .ok a => if kindF f a.node = 1 then (((nod f.t.nodes a.node).es).map Ent.key, 0) else ([], 22)
def rewriteF (f : Fs) (id : Int) (data : Bs) (how : Int) : Fs × Int :=
  let n := nod f.t.nodes id
  let kept := if how = 2 then n.data else []
  if 4096 < kept.length + data.length ∨ bytesFitB f ((kept.length : Int) + data.length - n.data.length) = false then (f, 27)
  else
    let f1 := tickF f
    ({ f1 with t := putT f1.t { n with data := kept ++ data, time := f1.ck } }, 0)
def writeF (f : Fs) (p data : Bs) (how : Int) : Fs × Int :=
  if how < 1 ∨ 3 < how then (f, 1)
  else match findS f.t p (decide (how ≠ 3)) with
  | .error e => (f, e)
  | .ok a =>
    if a.node ≠ 0 ∧ how = 3 then (f, 21)
    else if (a.node = 0 ∧ a.slash = true) ∨ (a.node ≠ 0 ∧ kindF f a.node = 1) then (f, 23)
    else if a.node ≠ 0 then rewriteF f a.node data how
    else if 4096 < data.length then (f, 27)
    else createF f a 2 420 data
def freeF (f : Fs) (p : Bs) : Except Int At :=
  match findS f.t p false with
  | .error e => .error e
  | .ok a => if a.node ≠ 0 then .error 21 else .ok a
def freeNameF (f : Fs) (p : Bs) : Except Int At :=
  match freeF f p with
  | .error e => .error e
  | .ok a => if a.slash = true then .error 20 else .ok a
def mkdirF (f : Fs) (p : Bs) (mode : Int) : Fs × Int :=
  if mode < 0 ∨ 511 < mode then (f, 1) else
  match freeF f p with
  | .error e => (f, e)
  | .ok a => createF f a 1 mode []
def symlinkF (f : Fs) (target p : Bs) : Fs × Int :=
  match freeNameF f p with
  | .error e => (f, e)
  | .ok a => if target = [] ∨ target.contains 0 = true then (f, 28) else if 256 < target.length then (f, 26) else createF f a 3 511 target
def linkF (f : Fs) (p q : Bs) : Fs × Int :=
  match thereF f p false with
  | .error e => (f, e)
  | .ok was => if kindF f was.node = 1 then (f, 28) else
    match freeNameF f q with
    | .error e => (f, e)
    | .ok a => (bindF (tickF f) a was.node, 0)
def namedF (f : Fs) (p : Bs) : Except Int At :=
  match findS f.t p false with
  | .error e => .error e
  | .ok a => if a.name = [] then .error 28 else .ok a
def namedThereF (f : Fs) (p : Bs) : Except Int At :=
  match namedF f p with
  | .error e => .error e
  | .ok a => if a.node = 0 then .error 20 else .ok a
def removeF (f : Fs) (a : At) : Fs := forgetF (bindF (tickF f) a 0) a.node
def rmdirF (f : Fs) (p : Bs) : Fs × Int :=
  match namedThereF f p with
  | .error e => (f, e)
  | .ok a => if kindF f a.node ≠ 1 then (f, 22) else if (nod f.t.nodes a.node).es ≠ [] then (f, 24) else (removeF f a, 0)
def unlinkF (f : Fs) (p : Bs) : Fs × Int :=
  match namedThereF f p with
  | .error e => (f, e)
  | .ok a => if kindF f a.node = 1 then (f, 23) else (removeF f a, 0)
def refuseF (f : Fs) (a b : At) : Int :=
  let dir := decide (a.node ≠ 0 ∧ kindF f a.node = 1)
  let onto := decide (b.node ≠ 0 ∧ kindF f b.node = 1)
  if a.node ∈ b.dirs then 28
  else if (dir = true ∧ b.node ≠ 0 ∧ onto = false) ∨ (dir = false ∧ b.slash = true ∧ onto = false) then 22
  else if onto = true ∧ dir = false then 23
  else if onto = true ∧ (nod f.t.nodes b.node).es ≠ [] then 24
  else 0
def renameF (f : Fs) (p q : Bs) : Fs × Int :=
  match namedThereF f p with
  | .error e => (f, e)
  | .ok a => match namedF f q with
    | .error e => (f, e)
    | .ok b =>
      if a.node = b.node then (f, 0)
      else if refuseF f a b ≠ 0 then (f, refuseF f a b)
      else
        let f1 := bindF (bindF (tickF f) a 0) b a.node
        ((if b.node ≠ 0 then forgetF f1 b.node else f1), 0)
def chmodF (f : Fs) (p : Bs) (mode : Int) : Fs × Int :=
  if mode < 0 ∨ 511 < mode then (f, 1) else
  match thereF f p true with
  | .error e => (f, e)
  | .ok a => let f1 := tickF f; ({ f1 with t := putT f1.t { nod f1.t.nodes a.node with mode := mode } }, 0)
def touchF (f : Fs) (p : Bs) : Fs × Int :=
  match thereF f p true with
  | .error e => (f, e)
  | .ok a => let f1 := tickF f; ({ f1 with t := stampT f1.t f1.ck a.node }, 0)
structure Act where
  kind : Int
  path : Bs
  text : Bs
  how : Int
def doesF (f : Fs) (a : Act) : Fs × Int :=
  if a.kind = 1 then writeF f a.path a.text a.how
  else if a.kind = 2 then mkdirF f a.path a.how
  else if a.kind = 3 then symlinkF f a.text a.path
  else if a.kind = 4 then linkF f a.path a.text
  else if a.kind = 5 then rmdirF f a.path
  else if a.kind = 6 then unlinkF f a.path
  else if a.kind = 7 then renameF f a.path a.text
  else if a.kind = 8 then chmodF f a.path a.how
  else if a.kind = 9 then touchF f a.path
  else (f, 0)

/-! ### the chapter's example -/
def newF : Fs := ⟨⟨[⟨1, 1, 493, 0, 0, [], []⟩], 1, 30, 500⟩, 5⟩
def aw1 : Fs := (mkdirF newF [47, 97] 493).1
def aw2 : Fs := (writeF aw1 [47, 97, 47, 102] [120] 1).1
def aw3 : Fs := (symlinkF aw2 [97, 47, 102] [47, 108]).1
def aw4 : Fs := (unlinkF aw3 [47, 108]).1

end VtM
