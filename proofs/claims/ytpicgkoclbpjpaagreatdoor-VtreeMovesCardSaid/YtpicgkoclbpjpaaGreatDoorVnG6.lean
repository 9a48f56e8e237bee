/- DERIVED. Stage 5, several texts in one: VtCalls VtSim VtSim2 VtWrote VtOne VtMade VtTwo VtWays VtMoved VtBegin. -/
import Derived.Test.YtpicgkoclbpjpaaGreatDoorVnG5
section
namespace VtM
open PathM TreeM
set_option linter.unusedVariables false
variable {k : Nat} {f : Fs}
theorem AtOk.there {a : At} (h : AtOk f.t a) (hf : FsOk k f) (hn : a.name ≠ []) (h0 : a.node ≠ 0) : a.node ≠ 1 ∧ (nod f.t.nodes a.node).kind ≠ 0 := by
  have hl := h.leads hn
  rcases hf.ent (lastI a.dirs) a.name with e | e
  · rw [← hl] at e; exact absurd e h0
  · rw [← hl] at e; exact e
theorem AtIn.of_kinds {g : Fs} {a : At} (h : AtIn f.t a) (hk : ∀ id, (nod g.t.nodes id).kind = (nod f.t.nodes id).kind) : AtIn g.t a := h.kinds fun id hid => by rw [hk]; exact hid
theorem FsOk.remove (h : FsOk k f) {a : At} (ha : AtOk f.t a) (hn : a.name ≠ []) (h0 : a.node ≠ 0) : FsOk (k + 1) (removeF f a) := by
  unfold removeF
  have h1 := h.tick.bindIn (a := a) ha.in 0 (.inl rfl)
  exact h1.forget _ (ha.there h hn h0).1
theorem FsOk.setOld (h : FsOk k f) {id : Int} (hk : (nod f.t.nodes id).kind ≠ 0) (m : Nd) (hid : m.id = (nod f.t.nodes id).id) (hkd : m.kind = (nod f.t.nodes id).kind) (hd : m.data.length ≤ 4096) : FsOk k { f with t := putT f.t m } := by
  have e : m.id = id := by rw [hid, nod_id hk]
  refine h.put_old m hd (by rw [e]; exact hk) (by rw [hkd]; exact h.nkind hk) (fun h1 => ?_)
  rw [hkd]
  rw [e] at h1; subst h1; exact h.root
theorem there_ok (h : FsOk k f) {p : Bs} {fw : Bool} {a : At} (he : thereF f p fw = .ok a) : AtOk f.t a ∧ (nod f.t.nodes a.node).kind ≠ 0 ∧ a.node ≠ 0 := by
  unfold thereF at he
  cases e : findS f.t p fw with
  | error x => rw [e] at he; cases he
  | ok b =>
    rw [e] at he
    dsimp only at he
    split at he
    · cases he
    · rename_i h0
      injection he with he
      subst he
      have hb := find_ok h e
      rcases hb.node with g | g
      · exact absurd g h0
      · exact ⟨hb, g, h0⟩
theorem free_ok (h : FsOk k f) {p : Bs} {a : At} (he : freeF f p = .ok a) : AtOk f.t a ∧ a.node = 0 := by
  unfold freeF at he
  cases e : findS f.t p false with
  | error x => rw [e] at he; cases he
  | ok b =>
    rw [e] at he
    dsimp only at he
    split at he
    · cases he
    · rename_i h0
      injection he with he
      subst he
      exact ⟨find_ok h e, Classical.byContradiction fun hh => h0 hh⟩
theorem freeName_ok (h : FsOk k f) {p : Bs} {a : At} (he : freeNameF f p = .ok a) : AtOk f.t a ∧ a.node = 0 ∧ a.slash = false := by
  unfold freeNameF at he
  cases e : freeF f p with
  | error x => rw [e] at he; cases he
  | ok b =>
    rw [e] at he
    dsimp only at he
    split at he
    · cases he
    · rename_i h0
      injection he with he
      subst he
      obtain ⟨h1, h2⟩ := free_ok h e
      exact ⟨h1, h2, by simpa using h0⟩
theorem named_ok (h : FsOk k f) {p : Bs} {a : At} (he : namedF f p = .ok a) : AtOk f.t a ∧ a.name ≠ [] := by
  unfold namedF at he
  cases e : findS f.t p false with
  | error x => rw [e] at he; cases he
  | ok b =>
    rw [e] at he
    dsimp only at he
    split at he
    · cases he
    · rename_i h0
      injection he with he
      subst he
      exact ⟨find_ok h e, h0⟩
theorem namedThere_ok (h : FsOk k f) {p : Bs} {a : At} (he : namedThereF f p = .ok a) : AtOk f.t a ∧ a.name ≠ [] ∧ a.node ≠ 0 ∧ a.node ≠ 1 ∧ (nod f.t.nodes a.node).kind ≠ 0 := by
  unfold namedThereF at he
  cases e : namedF f p with
  | error x => rw [e] at he; cases he
  | ok b =>
    rw [e] at he
    dsimp only at he
    split at he
    · cases he
    · rename_i h0
      injection he with he
      subst he
      obtain ⟨h1, h2⟩ := named_ok h e
      obtain ⟨h3, h4⟩ := h1.there h h2 h0
      exact ⟨h1, h2, h0, h3, h4⟩
theorem keep_rewrite (h : FsOk k f) {id : Int} (hk : (nod f.t.nodes id).kind ≠ 0) (data : Bs) (how : Int) : FsOk k (rewriteF f id data how).1 := by
  unfold rewriteF
  dsimp only
  generalize (if how = 2 then (nod f.t.nodes id).data else []) = kept
  split
  · exact h
  · rename_i hc
    refine h.tick.setOld (id := id) hk { nod f.t.nodes id with data := kept ++ data, time := (tickF f).ck } rfl rfl ?_
    show (kept ++ data).length ≤ 4096
    rw [List.length_append]
    exact Classical.byContradiction fun hh => hc (.inl (by omega))
theorem keep_write (h : FsOk k f) (hkk : k ≤ 1000000) (p data : Bs) (how : Int) : FsOk (k + 2) (writeF f p data how).1 := by
  unfold writeF
  split
  · exact h.mono (by omega)
  · cases e : findS f.t p (decide (how ≠ 3)) with
    | error x => exact h.mono (by omega)
    | ok a =>
      have ha := find_ok h e
      dsimp only
      split
      · exact h.mono (by omega)
      · split
        · exact h.mono (by omega)
        · split
          · rename_i h0
            rcases ha.node with g | g
            · exact absurd g h0
            · exact (keep_rewrite h g data how).mono (by omega)
          · split
            · exact h.mono (by omega)
            · rename_i hd
              exact h.create ha.in 2 420 data (by omega) (by omega) hkk
theorem keep_mkdir (h : FsOk k f) (hkk : k ≤ 1000000) (p : Bs) (mode : Int) : FsOk (k + 2) (mkdirF f p mode).1 := by
  unfold mkdirF
  split
  · exact h.mono (by omega)
  · cases e : freeF f p with
    | error x => exact h.mono (by omega)
    | ok a => exact h.create (free_ok h e).1.in 1 mode [] (by omega) (by simp) hkk
theorem keep_symlink (h : FsOk k f) (hkk : k ≤ 1000000) (target p : Bs) : FsOk (k + 2) (symlinkF f target p).1 := by
  unfold symlinkF
  cases e : freeNameF f p with
  | error x => exact h.mono (by omega)
  | ok a =>
    dsimp only
    split
    · exact h.mono (by omega)
    · split
      · exact h.mono (by omega)
      · exact h.create (freeName_ok h e).1.in 3 511 target (by omega) (by omega) hkk
theorem keep_link (h : FsOk k f) (p q : Bs) : FsOk (k + 2) (linkF f p q).1 := by
  unfold linkF
  cases e : thereF f p false with
  | error x => exact h.mono (by omega)
  | ok was =>
    obtain ⟨h1, h2, h3⟩ := there_ok h e
    dsimp only
    split
    · exact h.mono (by omega)
    · rename_i hnd
      cases e2 : freeNameF f q with
      | error x => exact h.mono (by omega)
      | ok a =>
        refine (h.tick.bindIn (a := a) (freeName_ok h e2).1.in was.node (.inr ⟨?_, h2⟩)).mono (by omega)
        rintro e1
        apply hnd
        unfold kindF
        rw [e1]; exact h.root
theorem keep_rmdir (h : FsOk k f) (p : Bs) : FsOk (k + 2) (rmdirF f p).1 := by
  unfold rmdirF
  cases e : namedThereF f p with
  | error x => exact h.mono (by omega)
  | ok a =>
    obtain ⟨h1, h2, h3, h4, h5⟩ := namedThere_ok h e
    dsimp only
    split
    · exact h.mono (by omega)
    · split
      · exact h.mono (by omega)
      · exact (h.remove h1 h2 h3).mono (by omega)
theorem keep_unlink (h : FsOk k f) (p : Bs) : FsOk (k + 2) (unlinkF f p).1 := by
  unfold unlinkF
  cases e : namedThereF f p with
  | error x => exact h.mono (by omega)
  | ok a =>
    obtain ⟨h1, h2, h3, h4, h5⟩ := namedThere_ok h e
    dsimp only
    split
    · exact h.mono (by omega)
    · exact (h.remove h1 h2 h3).mono (by omega)
theorem keep_rename (h : FsOk k f) (p q : Bs) : FsOk (k + 2) (renameF f p q).1 := by
  unfold renameF
  cases e : namedThereF f p with
  | error x => exact h.mono (by omega)
  | ok a =>
    obtain ⟨h1, h2, h3, h4, h5⟩ := namedThere_ok h e
    dsimp only
    cases e2 : namedF f q with
    | error x => exact h.mono (by omega)
    | ok b =>
      obtain ⟨g1, g2⟩ := named_ok h e2
      dsimp only
      split
      · exact h.mono (by omega)
      · split
        · exact h.mono (by omega)
        · have k1 := h.tick.bindIn (a := a) h1.in 0 (.inl rfl)
          have kk : ∀ id, (nod (bindF (tickF f) a 0).t.nodes id).kind = (nod f.t.nodes id).kind := fun id => kind_bindF h.tick (a := a) h1.in 0 id
          have b1 : AtIn (bindF (tickF f) a 0).t b := AtIn.of_kinds (f := f) (g := bindF (tickF f) a 0) g1.in kk
          have k2 := k1.bindIn b1 a.node (.inr ⟨h4, by rw [kk]; exact h5⟩)
          split
          · rename_i h0
            exact k2.forget _ (g1.there h g2 h0).1
          · exact k2
theorem keep_chmod (h : FsOk k f) (p : Bs) (mode : Int) : FsOk (k + 2) (chmodF f p mode).1 := by
  unfold chmodF
  split
  · exact h.mono (by omega)
  · cases e : thereF f p true with
    | error x => exact h.mono (by omega)
    | ok a =>
      obtain ⟨h1, h2, h3⟩ := there_ok h e
      exact (h.tick.setOld (id := a.node) h2 { nod f.t.nodes a.node with mode := mode } rfl rfl (h.ndata _)).mono (by omega)
theorem keep_touch (h : FsOk k f) (p : Bs) : FsOk (k + 2) (touchF f p).1 := by
  unfold touchF
  cases e : thereF f p true with
  | error x => exact h.mono (by omega)
  | ok a =>
    obtain ⟨h1, h2, h3⟩ := there_ok h e
    exact (h.tick.stamp (tickF f).ck (id := a.node) h2).mono (by omega)
theorem keep_does (h : FsOk k f) (hkk : k ≤ 1000000) (a : Act) : FsOk (k + 2) (doesF f a).1 := by
  unfold doesF
  split
  · exact keep_write h hkk _ _ _
  · split
    · exact keep_mkdir h hkk _ _
    · split
      · exact keep_symlink h hkk _ _
      · split
        · exact keep_link h _ _
        · split
          · exact keep_rmdir h _
          · split
            · exact keep_unlink h _
            · split
              · exact keep_rename h _ _
              · split
                · exact keep_chmod h _ _
                · split
                  · exact keep_touch h _
                  · exact h.mono (by omega)
end VtM
end

section
namespace VtM
open PathM TreeM
set_option linter.unusedVariables false
variable {k : Nat} {f : Fs}
/-- Nodes of one are of the same kinds in the other, links lead the same way. -/
structure Near (t t' : Tr) : Prop where
  kind : ∀ id, (nod t.nodes id).kind ≠ 0 → (nod t'.nodes id).kind = (nod t.nodes id).kind
  data : ∀ id, (nod t.nodes id).kind = 3 → (nod t'.nodes id).data = (nod t.nodes id).data
theorem Near.enter {t t' : Tr} (h : Near t t') {s : WS} (hs : WsOk t s) : enterS t' s = enterS t s := by
  unfold enterS
  by_cases h0 : s.node = 0
  · rw [if_pos h0, if_pos h0]
  · rw [if_neg h0, if_neg h0]
    rcases hs.node with e | e
    · exact absurd e h0
    · rw [h.kind _ e]
theorem Near.through {t t' : Tr} (h : Near t t') (dirs : List Int) {node : Int} (hk : (nod t.nodes node).kind = 3) (left : List Bs) (slash : Bool) (hops : Nat) : throughS t' dirs node left slash hops = throughS t dirs node left slash hops := by
  unfold throughS; rw [h.data _ hk]
theorem Near.atLink {t t' : Tr} (h : Near t t') (fw : Bool) {node : Int} (hk : node = 0 ∨ (nod t.nodes node).kind ≠ 0) (left : List Bs) (slash : Bool) : atLinkS t' fw node left slash = atLinkS t fw node left slash := by
  unfold atLinkS
  rcases hk with e | e
  · subst e; simp
  · rw [h.kind _ e]
theorem atLink_kind {t : Tr} {fw : Bool} {node : Int} {left : List Bs} {slash : Bool} (h : atLinkS t fw node left slash = true) : (nod t.nodes node).kind = 3 ∧ node ≠ 0 := by
  unfold atLinkS at h
  simp at h
  exact ⟨h.2.2, h.2.1⟩
theorem atLink_zero {t : Tr} {fw : Bool} {left : List Bs} {slash : Bool} : atLinkS t fw 0 left slash = false := by
  unfold atLinkS; simp
/-- .. in which all names lead to the same, but for one that led to nothing. -/
structure Sim (t t' : Tr) (D : Int) (K : Bs) (N : Int) : Prop extends Near t t' where
  ent : ∀ d key, (nod t.nodes d).kind = 1 → ¬ (d = D ∧ key = K) → entT t' d key = entT t d key
  hole : entT t D K = 0
  new : entT t' D K = N
structure Same (t t' : Tr) : Prop extends Near t t' where
  ent : ∀ d key, (nod t.nodes d).kind = 1 → entT t' d key = entT t d key
/-- A place where nothing was, filled. -/
def fixS (D : Int) (K : Bs) (N : Int) (s : WS) : WS := if s.node = 0 ∧ lastI s.dirs = D ∧ s.name = K then { s with node := N } else s
def fixA (D : Int) (K : Bs) (N : Int) (a : At) : At := if a.node = 0 ∧ lastI a.dirs = D ∧ a.name = K then { a with node := N } else a
theorem fixS_left (D : Int) (K : Bs) (N : Int) (s : WS) : (fixS D K N s).left = s.left := by unfold fixS; split <;> rfl
theorem Same.step (hf : FsOk k f) {t' : Tr} (h : Same f.t t') {fw : Bool} {s : WS} (hs : WsOk f.t s) (hu : Full s) (hl : s.left ≠ []) : stepS t' fw s = stepS f.t fw s := by
  unfold stepS
  rw [h.enter hs]
  cases e : enterS f.t s with
  | error x => rfl
  | ok ds =>
    obtain ⟨h1, h2, h3, -⟩ := enter_ok hs e
    have hlk : lookS t' ds (s.left.headD []) = lookS f.t ds (s.left.headD []) := by
      unfold lookS
      rw [h.ent _ _ (lastI_kind h2 h1)]
    obtain ⟨-, -, -, g4, -, -⟩ := look_ok hf h1 h2 (s.left.headD [])
    dsimp only
    rw [hlk, h.atLink fw g4]
    split
    · rename_i hat
      exact h.through _ (atLink_kind hat).1 _ _ _
    · rfl
theorem Same.run (hf : FsOk k f) {t' : Tr} (h : Same f.t t') {fw : Bool} : ∀ (n : Nat) {s : WS}, WsOk f.t s → Full s → runS t' fw n s = runS f.t fw n s
  | 0, s, _, _ => rfl
  | n + 1, s, hs, hu => by
    unfold runS
    by_cases hl : s.left = []
    · rw [if_pos hl, if_pos hl]
    · rw [if_neg hl, if_neg hl, h.step hf hs hu hl]
      cases e : stepS f.t fw s with
      | error x => rfl
      | ok s1 =>
        obtain ⟨a, b, _⟩ := step_ok hf hs hu hl e
        exact h.run hf n a b
theorem Same.done {t' : Tr} (h : Same f.t t') {s : WS} (hs : WsOk f.t s) : doneS t' s = doneS f.t s := by
  unfold doneS
  rcases hs.node with e | e
  · rw [e]; simp
  · rw [h.kind _ e]
/-- Where the same lies, a path leads the same way. -/
theorem Same.find (hf : FsOk k f) {t' : Tr} (h : Same f.t t') (p : Bs) (fw : Bool) : findS t' p fw = findS f.t p fw := by
  unfold findS
  split
  · rfl
  · have hs := start_ok hf p
    have hr := h.run hf (fw := fw) 40000 hs.1 hs.2.1
    show (match runS t' fw 40000 (startS p) with | .error e => _ | .ok s => _) = (match runS f.t fw 40000 (startS p) with | .error e => _ | .ok s => _)
    rw [hr]
    cases e : runS f.t fw 40000 (startS p) with
    | error x => rfl
    | ok s => exact h.done (run_ok hf 40000 hs.1 hs.2.1 e)
theorem look_hole {t t' : Tr} {D N : Int} {K : Bs} (h : Sim t t' D K N) (hK : K ≠ [46] ∧ K ≠ [46, 46]) {ds : List Int} (hk : (nod t.nodes (lastI ds)).kind = 1) (key : Bs) :
    (lastI ds = D ∧ key = K ∧ lookS t ds key = (ds, K, 0) ∧ lookS t' ds key = (ds, K, N)) ∨ (¬ (lastI ds = D ∧ key = K) ∧ lookS t' ds key = lookS t ds key) := by
  by_cases hh : lastI ds = D ∧ key = K
  · obtain ⟨h1, h2⟩ := hh
    subst h2
    refine .inl ⟨h1, rfl, ?_, ?_⟩
    · unfold lookS; rw [if_neg hK.1, if_neg hK.2, h1, h.hole]
    · unfold lookS; rw [if_neg hK.1, if_neg hK.2, h1, h.new]
  · refine .inr ⟨hh, ?_⟩
    unfold lookS
    rw [h.ent _ _ hk hh]
theorem mu_zero {s : WS} (h : muS s ≤ 0) : s.left = [] := by
  unfold muS at h
  exact List.eq_nil_of_length_eq_zero (by omega)
theorem run_done {t : Tr} {fw : Bool} (n : Nat) {s : WS} (h : s.left = []) : runS t fw n s = .ok s := by
  cases n with
  | zero => rfl
  | succ n => unfold runS; rw [if_pos h]
theorem run_lost {t : Tr} {fw : Bool} {n : Nat} {s se : WS} (hmu : muS s ≤ n) (hr : runS t fw n s = .ok se) (h0 : s.node = 0) : s.left = [] := by
  refine Classical.byContradiction fun hl => ?_
  cases n with
  | zero => exact hl (mu_zero hmu)
  | succ n =>
    unfold runS at hr
    rw [if_neg hl] at hr
    unfold stepS enterS at hr
    rw [if_pos h0] at hr
    cases hr
theorem look_named {t : Tr} {ds : List Int} {key K : Bs} (hK : K ≠ []) (h : (lookS t ds key).2.1 = K) : key = K ∧ (lookS t ds key).1 = ds := by
  unfold lookS at h ⊢
  split at h
  · exact absurd h.symm hK
  · rename_i h1
    split at h
    · exact absurd h.symm hK
    · rename_i h2
      rw [if_neg h1, if_neg h2]
      exact ⟨h, rfl⟩
/-- What has led somewhere leads there; what led to nothing at the name leads to the new node. -/
theorem Sim.run (hf : FsOk k f) {t' : Tr} {D N : Int} {K : Bs} (h : Sim f.t t' D K N) (hK : K ≠ [] ∧ K ≠ [46] ∧ K ≠ [46, 46]) {fw : Bool} (hN : (nod t'.nodes N).kind ≠ 3 ∨ fw = false) :
    ∀ (n : Nat) (s se : WS), WsOk f.t s → Full s → muS s ≤ n → fixS D K N s = s → runS f.t fw n s = .ok se → (se.node = 0 → se.slash = false ∨ (nod t'.nodes N).kind ≠ 3) → runS t' fw n s = .ok (fixS D K N se) := by
  intro n
  induction n with
  | zero =>
    intro s se _ _ hmu hx hr _
    have hl := mu_zero hmu
    rw [run_done _ hl] at hr ⊢
    injection hr with hr
    subst hr
    rw [hx]
  | succ n ih =>
    intro s se hs hu hmu hx hr hsl
    by_cases hl : s.left = []
    · rw [run_done _ hl] at hr ⊢
      injection hr with hr
      subst hr
      rw [hx]
    · unfold runS at hr ⊢
      rw [if_neg hl] at hr ⊢
      cases e : stepS f.t fw s with
      | error x => rw [e] at hr; cases hr
      | ok s1 =>
        rw [e] at hr
        dsimp only at hr
        obtain ⟨a, b, hlt⟩ := step_ok hf hs hu hl e
        have hmu1 : muS s1 ≤ n := by omega
        have hlost := run_lost hmu1 hr
        have hen := h.enter hs
        have e0 := e
        unfold stepS at e
        cases e2 : enterS f.t s with
        | error x => rw [e2] at e; cases e
        | ok ds =>
          rw [e2] at e
          obtain ⟨h1, h2, h3, -⟩ := enter_ok hs e2
          obtain ⟨-, -, -, g4, -, -⟩ := look_ok hf h1 h2 (s.left.headD [])
          dsimp only at e
          rcases look_hole h hK.2 (lastI_kind h2 h1) (s.left.headD []) with ⟨l1, l2, l3, l4⟩ | ⟨l1, l2⟩
          · rw [l3] at e
            dsimp only at e
            rw [atLink_zero] at e
            simp at e
            subst e
            have hl1 : s.left.tail = [] := hlost rfl
            rw [run_done _ hl1] at hr
            injection hr with hr
            subst hr
            have hat : atLinkS t' fw N s.left.tail s.slash = false := by
              unfold atLinkS
              rw [hl1]
              by_cases h3 : (nod t'.nodes N).kind = 3
              · rcases hN with g | g
                · exact absurd h3 g
                · rcases hsl rfl with g2 | g2
                  · dsimp only at g2; rw [g, g2]; simp
                  · exact absurd h3 g2
              · simp [h3]
            have hst : stepS t' fw s = .ok ⟨ds, K, N, s.left.tail, s.slash, s.hops⟩ := by
              unfold stepS
              rw [hen, e2]
              dsimp only
              rw [l4]
              dsimp only
              rw [hat]
              simp
            rw [hst]
            dsimp only
            rw [run_done _ hl1]
            unfold fixS
            rw [if_pos ⟨rfl, l1, rfl⟩]
          · have hst : stepS t' fw s = .ok s1 := by
              rw [← e0]
              unfold stepS
              rw [hen, e2]
              dsimp only
              rw [l2, h.atLink fw g4]
              split
              · rename_i hat
                exact h.through _ (atLink_kind hat).1 _ _ _
              · rfl
            rw [hst]
            dsimp only
            refine ih s1 se a b hmu1 ?_ hr hsl
            unfold fixS
            rw [if_neg]
            rintro ⟨c1, c2, c3⟩
            split at e
            · unfold throughS at e
              dsimp only at e
              split at e
              · cases e
              · split at e
                · cases e
                · injection e with e
                  subst e
                  exact hK.1 c3.symm
            · injection e with e
              subst e
              dsimp only at c1 c2 c3
              obtain ⟨d1, d2⟩ := look_named hK.1 c3
              rw [d2] at c2
              exact l1 ⟨c2, d1⟩
/-- .. of a path. -/
theorem Sim.find (hf : FsOk k f) {t' : Tr} {D N : Int} {K : Bs} (h : Sim f.t t' D K N) (hK : K ≠ [] ∧ K ≠ [46] ∧ K ≠ [46, 46]) {p : Bs} {fw : Bool} {a : At} (hN : (nod t'.nodes N).kind ≠ 3 ∨ fw = false) (ha : findS f.t p fw = .ok a) (hs : a.slash = false ∨ a.node ≠ 0) : findS t' p fw = .ok (fixA D K N a) := by
  unfold findS at ha ⊢
  split at ha
  · cases ha
  · rename_i hp
    rw [if_neg hp]
    have hst := start_ok hf p
    change (match runS f.t fw 40000 (startS p) with | .error e => Except.error e | .ok s => doneS f.t s) = _ at ha
    show (match runS t' fw 40000 (startS p) with | .error e => _ | .ok s => doneS t' s) = _
    cases e : runS f.t fw 40000 (startS p) with
    | error x => rw [e] at ha; cases ha
    | ok se =>
      rw [e] at ha
      dsimp only at ha
      have hse := run_ok hf 40000 hst.1 hst.2.1 e
      have hda : a = ⟨se.dirs, se.name, se.node, se.slash⟩ ∧ ¬ (se.slash = true ∧ se.node ≠ 0 ∧ (nod f.t.nodes se.node).kind ≠ 1) := by
        unfold doneS at ha
        split at ha
        · cases ha
        · rename_i hh
          injection ha with ha
          exact ⟨ha.symm, hh⟩
      obtain ⟨rfl, hdn⟩ := hda
      dsimp only at hs
      rw [h.run hf hK hN 40000 _ _ hst.1 hst.2.1 hst.2.2 (by unfold fixS; rw [if_neg (fun hh => by have := hh.2.2; exact hK.1 this.symm)]) e (fun h0 => .inl (hs.resolve_right (fun hh => hh h0)))]
      dsimp only
      by_cases h0 : se.node = 0
      · have hsl : se.slash = false := hs.resolve_right (fun hh => hh h0)
        unfold doneS fixS fixA
        dsimp only
        split
        · rw [if_neg (by simp [hsl])]
        · rw [if_neg (by simp [hsl])]
      · have hfx : fixS D K N se = se := by unfold fixS; rw [if_neg (fun hh => h0 hh.1)]
        have hfa : fixA D K N ⟨se.dirs, se.name, se.node, se.slash⟩ = ⟨se.dirs, se.name, se.node, se.slash⟩ := by unfold fixA; rw [if_neg (fun hh => h0 hh.1)]
        rw [hfx, hfa]
        unfold doneS
        rw [h.kind _ (hse.node.resolve_left h0), if_neg hdn]
end VtM
end

section
namespace VtM
open PathM TreeM
set_option linter.unusedVariables false
variable {k : Nat} {f : Fs}
/-- Where a path that is followed ends, there is no link. -/
def NoLink (t : Tr) (s : WS) : Prop := s.left = [] → s.node = 0 ∨ (nod t.nodes s.node).kind ≠ 3
theorem step_nolink (hf : FsOk k f) {s s' : WS} (h : WsOk f.t s) (hu : Full s) (hl : s.left ≠ []) (he : stepS f.t true s = .ok s') : NoLink f.t s' := by
  obtain ⟨a, _, _⟩ := step_ok hf h hu hl he
  intro hl'
  unfold stepS at he
  cases e : enterS f.t s with
  | error x => rw [e] at he; cases he
  | ok ds =>
    rw [e] at he
    dsimp only at he
    generalize lookS f.t ds (s.left.headD []) = p at *
    split at he
    · -- a link gone through
      have hz : s'.name = [] := by
        unfold throughS at he
        dsimp only at he
        split at he
        · cases he
        · split at he
          · cases he
          · injection he with he; subst he; rfl
      right
      rw [a.alone hz, lastI_kind a.dirs a.ne]
      decide
    · rename_i hat
      injection he with he
      subst he
      dsimp only at *
      unfold atLinkS at hat
      simp at hat
      by_cases h0 : p.2.2 = 0
      · exact .inl h0
      · exact .inr (hat h0)
theorem run_nolink (hf : FsOk k f) : ∀ (n : Nat) (s s' : WS), WsOk f.t s → Full s → NoLink f.t s → runS f.t true n s = .ok s' → NoLink f.t s' := by
  intro n
  induction n with
  | zero => intro s s' _ _ hn hr; simp [runS] at hr; subst hr; exact hn
  | succ n ih =>
    intro s s' hs hu hn hr
    unfold runS at hr
    split at hr
    · injection hr with hr; subst hr; exact hn
    · rename_i hl
      cases e : stepS f.t true s with
      | error x => rw [e] at hr; cases hr
      | ok s1 =>
        rw [e] at hr
        obtain ⟨a, b, _⟩ := step_ok hf hs hu hl e
        exact ih s1 s' a b (step_nolink hf hs hu hl e) hr
theorem run_left (hf : FsOk k f) {fw : Bool} : ∀ (n : Nat) (s s' : WS), WsOk f.t s → Full s → muS s ≤ n → runS f.t fw n s = .ok s' → s'.left = [] := by
  intro n
  induction n with
  | zero => intro s s' _ _ hmu hr; simp [runS] at hr; subst hr; exact mu_zero hmu
  | succ n ih =>
    intro s s' hs hu hmu hr
    unfold runS at hr
    split at hr
    · injection hr with hr; subst hr; assumption
    · rename_i hl
      cases e : stepS f.t fw s with
      | error x => rw [e] at hr; cases hr
      | ok s1 =>
        rw [e] at hr
        obtain ⟨a, b, c⟩ := step_ok hf hs hu hl e
        exact ih s1 s' a b (by omega) hr
theorem find_parts {t : Tr} {p : Bs} {fw : Bool} {a : At} (h : findS t p fw = .ok a) : partsE p = 0 ∧ ∃ s, runS t fw 40000 (startS p) = .ok s ∧ a = ⟨s.dirs, s.name, s.node, s.slash⟩ ∧ ¬ (s.slash = true ∧ s.node ≠ 0 ∧ (nod t.nodes s.node).kind ≠ 1) := by
  unfold findS at h
  split at h
  · cases h
  · rename_i hp
    change (match runS t fw 40000 (startS p) with | .error e => Except.error e | .ok s => doneS t s) = _ at h
    cases e : runS t fw 40000 (startS p) with
    | error x => rw [e] at h; cases h
    | ok s =>
      rw [e] at h
      dsimp only at h
      unfold doneS at h
      split at h
      · cases h
      · rename_i hh
        injection h with h
        exact ⟨Classical.byContradiction fun hh2 => hp hh2, s, rfl, h.symm, hh⟩
theorem find_nolink (hf : FsOk k f) {p : Bs} {a : At} (h : findS f.t p true = .ok a) : a.node = 0 ∨ (nod f.t.nodes a.node).kind ≠ 3 := by
  obtain ⟨_, s, e, rfl, _⟩ := find_parts h
  have hst := start_ok hf p
  have := run_nolink hf 40000 _ _ hst.1 hst.2.1 (fun _ => .inr (by show (nod f.t.nodes 1).kind ≠ 3; rw [hf.root]; decide)) e
  exact this (run_left hf 40000 _ _ hst.1 hst.2.1 hst.2.2 e)
/-- A path that isn't followed, and leads to nothing, followed leads to nothing at the same place. -/
theorem find_none_follow (hf : FsOk k f) {p : Bs} {a : At} (h : findS f.t p false = .ok a) (h0 : a.node = 0) : findS f.t p true = .ok a := by
  obtain ⟨hp, s, e, rfl, hd⟩ := find_parts h
  dsimp only at h0
  have hst := start_ok hf p
  have hrun : ∀ (n : Nat) (s s' : WS), WsOk f.t s → Full s → muS s ≤ n → s'.node = 0 → runS f.t false n s = .ok s' → runS f.t true n s = .ok s' := by
    intro n
    induction n with
    | zero => intro s s' _ _ _ _ hr; simpa [runS] using hr
    | succ n ih =>
      intro s s' hs hu hmu h0 hr
      unfold runS at hr ⊢
      split at hr
      · rename_i hl; rw [if_pos hl]; exact hr
      · rename_i hl
        rw [if_neg hl]
        cases e : stepS f.t false s with
        | error x => rw [e] at hr; cases hr
        | ok s1 =>
          rw [e] at hr
          dsimp only at hr
          obtain ⟨a, b, c⟩ := step_ok hf hs hu hl e
          have hst : stepS f.t true s = .ok s1 := by
            rw [← e]
            unfold stepS at e ⊢
            cases e2 : enterS f.t s with
            | error x => rfl
            | ok ds =>
              rw [e2] at e
              dsimp only at e ⊢
              generalize lookS f.t ds (s.left.headD []) = p at *
              have hat : atLinkS f.t true p.2.2 s.left.tail s.slash = atLinkS f.t false p.2.2 s.left.tail s.slash := by
                by_cases hl2 : s.left.tail = []
                · -- the last one: it leads to nothing
                  by_cases h1 : atLinkS f.t false p.2.2 s.left.tail s.slash = true
                  · rw [h1]
                    have := atLink_kind h1
                    unfold atLinkS
                    simp [this.1, this.2]
                  · rw [if_neg h1] at e
                    injection e with e
                    subst e
                    rw [run_done _ hl2] at hr
                    injection hr with hr
                    subst hr
                    dsimp only at h0
                    rw [h0, atLink_zero, atLink_zero]
                · have : decide (0 < s.left.tail.length) = true := decide_eq_true (List.length_pos_iff.2 hl2)
                  unfold atLinkS
                  rw [this]; rfl
              rw [hat]
          rw [hst]
          exact ih s1 s' a b (by omega) h0 hr
  have h2 := hrun 40000 _ _ hst.1 hst.2.1 hst.2.2 h0 e
  unfold findS
  rw [if_neg (by simp [hp])]
  show (match runS f.t true 40000 (startS p) with | .error e => _ | .ok s => doneS f.t s) = _
  rw [h2]
  dsimp only
  unfold doneS
  rw [if_neg hd]
end VtM
end

section
namespace VtM
open PathM TreeM
set_option linter.unusedVariables false
variable {k : Nat} {f : Fs}
theorem AtOk.ktri {a : At} (h : AtOk f.t a) (hf : FsOk k f) (h0 : a.node = 0) : a.name ≠ [] ∧ a.name ≠ [46] ∧ a.name ≠ [46, 46] := ⟨h.named hf h0, h.dots⟩
theorem AtOk.hole {a : At} (h : AtOk f.t a) (hf : FsOk k f) (h0 : a.node = 0) : entT f.t (lastI a.dirs) a.name = 0 := by rw [← h.leads (h.named hf h0), h0]
/-- Behind a node that is laid anew, of its kind, a path leads the same way, unless the node is a link. -/
theorem same_put (hf : FsOk k f) {id : Int} (hk : (nod f.t.nodes id).kind ≠ 0) (h3 : (nod f.t.nodes id).kind ≠ 3) (m : Nd) (hid : m.id = (nod f.t.nodes id).id) (hkd : m.kind = (nod f.t.nodes id).kind) : Same f.t (putT f.t m) := by
  have e : m.id = id := by rw [hid, nod_id hk]
  refine ⟨⟨fun i hi => ?_, fun i hi => ?_⟩, fun d key hd => ent_put hf.rise m d key⟩
  · rw [kind_put hf.rise]
    split
    · rename_i h; rw [h, e, hkd]
    · rfl
  · rw [nod_put hf.rise, if_neg]
    rintro h
    rw [h, e] at hi
    exact h3 hi
theorem same_stamp (hf : FsOk k f) {id : Int} (ck : Int) (hk : (nod f.t.nodes id).kind ≠ 0) : Same f.t (stampT f.t ck id) := by
  unfold stampT
  have e := nod_id hk
  refine ⟨⟨fun i hi => ?_, fun i hi => ?_⟩, fun d key hd => ent_put hf.rise _ d key⟩
  · rw [kind_put hf.rise]
    split
    · rename_i h
      have h : i = (nod f.t.nodes id).id := h
      rw [h, e]
    · rfl
  · rw [nod_put hf.rise]
    split
    · rename_i h
      have h : i = (nod f.t.nodes id).id := h
      rw [h, e]
    · rfl
theorem Same.trans {a b c : Tr} (h : Same a b) (g : Same b c) : Same a c :=
  ⟨⟨fun id hi => by rw [g.kind id (by rw [h.kind id hi]; exact hi), h.kind id hi], fun id hi => by rw [g.data id (by rw [h.kind id (by rw [hi]; decide)]; exact hi), h.data id hi]⟩,
   fun d key hd => by rw [g.ent d key (by rw [h.kind d (by rw [hd]; decide)]; exact hd), h.ent d key hd]⟩
theorem Sim.same {a b c : Tr} {D N : Int} {K : Bs} (h : Sim a b D K N) (hD : (nod b.nodes D).kind = 1) (g : Same b c) : Sim a c D K N :=
  ⟨⟨fun id hi => by rw [g.kind id (by rw [h.kind id hi]; exact hi), h.kind id hi], fun id hi => by rw [g.data id (by rw [h.kind id (by rw [hi]; decide)]; exact hi), h.data id hi]⟩,
   fun d key hd hh => by rw [g.ent d key (by rw [h.kind d (by rw [hd]; decide)]; exact hd), h.ent d key hd hh], h.hole, by rw [g.ent D K hD, h.new]⟩
theorem sim_bind (hf : FsOk k f) {D : Int} (hD : (nod f.t.nodes D).kind = 1) {K : Bs} (hh : entT f.t D K = 0) (N : Int) : Sim f.t (bindT f.t D K N) D K N := by
  have hD0 : (nod f.t.nodes D).kind ≠ 0 := by rw [hD]; decide
  refine ⟨⟨fun i hi => kind_bind hf.rise hD0 K N i, fun i hi => ?_⟩, fun d key hd hne => ?_, hh, ?_⟩
  · rw [nod_bind hf.rise hD0]
    split
    · rename_i h; subst h; rfl
    · rfl
  · rw [ent_bind hf.rise hD0 (hf.nsorted D), if_neg hne]
  · rw [ent_bind hf.rise hD0 (hf.nsorted D), if_pos ⟨rfl, rfl⟩]
/-- A new node laid down: all names lead to the same. -/
theorem same_new (hf : FsOk k f) (m : Nd) (hid : m.id = f.t.last + 1) : Same f.t (putT f.t m) := by
  have hno : (nod f.t.nodes m.id).kind = 0 := Classical.byContradiction fun hh => by have := (hf.nid hh).2; omega
  refine ⟨⟨fun i hi => ?_, fun i hi => ?_⟩, fun d key hd => ent_put hf.rise m d key⟩
  · rw [kind_put hf.rise, if_neg]; rintro h; rw [h] at hi; exact hi hno
  · rw [nod_put hf.rise, if_neg]; rintro h; rw [h, hno] at hi; cases hi
/-- What is made, and where. -/
theorem create_parts (hf : FsOk k f) (hkk : k ≤ 1000000) {a : At} (ha : AtOk f.t a) (h0 : a.node = 0) (kind mode : Int) (data : Bs) (hk : 1 ≤ kind ∧ kind ≤ 3) (hd : data.length ≤ 4096) (h : (createF f a kind mode data).2 = 0) :
    Sim f.t (createF f a kind mode data).1.t (lastI a.dirs) a.name (f.t.last + 1) ∧ (nod (createF f a kind mode data).1.t.nodes (f.t.last + 1)).kind = kind ∧ (nod (createF f a kind mode data).1.t.nodes (f.t.last + 1)).data = data ∧ (nod (createF f a kind mode data).1.t.nodes (f.t.last + 1)).time = (createF f a kind mode data).1.ck ∧
    (nod (createF f a kind mode data).1.t.nodes (f.t.last + 1)).es = [] ∧ (createF f a kind mode data).1 = bindF { tickF f with t := putT f.t ⟨f.t.last + 1, kind, mode, 0, (tickF f).ck, data, []⟩ } a (f.t.last + 1) := by
  unfold createF at h ⊢
  split at h
  · cases h
  · rename_i hc
    rw [if_neg hc]
    dsimp only
    have hdir : (nod f.t.nodes (lastI a.dirs)).kind = 1 := ha.last
    have h1 := hf.tick.fresh kind mode (tickF f).ck data hk hd hkk
    have hs1 := same_new hf ⟨f.t.last + 1, kind, mode, 0, (tickF f).ck, data, []⟩ rfl
    have hnew : ∀ x, (nod (putT f.t ⟨f.t.last + 1, kind, mode, 0, (tickF f).ck, data, []⟩).nodes x) = if x = f.t.last + 1 then ⟨f.t.last + 1, kind, mode, 0, (tickF f).ck, data, (nod f.t.nodes (f.t.last + 1)).es⟩ else nod f.t.nodes x := fun x => nod_put hf.rise _ x
    have hno : (nod f.t.nodes (f.t.last + 1)).kind = 0 := Classical.byContradiction fun hh => by have := (hf.nid hh).2; omega
    have hnoes : (nod f.t.nodes (f.t.last + 1)).es = [] := by
      unfold nod
      cases e : seek f.t.nodes (f.t.last + 1) with
      | none => rfl
      | some n =>
        have := hf.ids _ (look_mem e).1
        rw [(look_mem e).2] at this
        omega
    have hne : lastI a.dirs ≠ f.t.last + 1 := fun e => by rw [e, hno] at hdir; cases hdir
    generalize hF1 : ({ tickF f with t := putT f.t ⟨f.t.last + 1, kind, mode, 0, (tickF f).ck, data, []⟩ } : Fs) = f1 at *
    have ht : f1.t = putT f.t ⟨f.t.last + 1, kind, mode, 0, (tickF f).ck, data, []⟩ := by rw [← hF1]
    have hck : f1.ck = (tickF f).ck := by rw [← hF1]
    have h1' : FsOk (k + 1) f1 := by rw [← hF1]; exact h1
    have hF2 : ({ t := putT (tickF f).t ⟨f.t.last + 1, kind, mode, 0, (tickF f).ck, data, []⟩, ck := (tickF f).ck } : Fs) = f1 := hF1
    rw [hF2]
    rw [← ht] at hs1 hnew
    have hd1 : (nod f1.t.nodes (lastI a.dirs)).kind = 1 := by rw [hnew, if_neg hne]; exact hdir
    have hd10 : (nod f1.t.nodes (lastI a.dirs)).kind ≠ 0 := by rw [hd1]; decide
    have hh1 : entT f1.t (lastI a.dirs) a.name = 0 := by rw [hs1.ent _ _ hdir]; exact ha.hole hf h0
    have hb := sim_bind h1' hd1 hh1 (f.t.last + 1)
    have h2 : FsOk (k + 2) { f1 with t := bindT f1.t (lastI a.dirs) a.name (f.t.last + 1) } := h1'.bind hd10 a.name (f.t.last + 1) (.inr ⟨by have := hf.root_last; omega, by rw [hnew, if_pos rfl]; show kind ≠ 0; omega⟩)
    have hst := same_stamp h2 f1.ck (id := lastI a.dirs) (by show (nod (bindT f1.t _ _ _).nodes _).kind ≠ 0; rw [kind_bind h1'.rise hd10]; exact hd10)
    have hsim : Sim f.t (bindT f1.t (lastI a.dirs) a.name (f.t.last + 1)) (lastI a.dirs) a.name (f.t.last + 1) :=
      ⟨⟨fun id hi => by rw [hb.kind id (by rw [hs1.kind id hi]; exact hi), hs1.kind id hi], fun id hi => by rw [hb.data id (by rw [hs1.kind id (by rw [hi]; decide)]; exact hi), hs1.data id hi]⟩,
       fun d key hd hh => by rw [hb.ent d key (by rw [hs1.kind d (by rw [hd]; decide)]; exact hd) hh, hs1.ent d key hd], ha.hole hf h0, hb.new⟩
    have hdb : (nod (bindT f1.t (lastI a.dirs) a.name (f.t.last + 1)).nodes (lastI a.dirs)).kind = 1 := by rw [kind_bind h1'.rise hd10]; exact hd1
    have hfin : ∀ x, x ≠ lastI a.dirs → nod (bindF f1 a (f.t.last + 1)).t.nodes x = nod f1.t.nodes x := fun x hx => by
      show nod (stampT (bindT f1.t (lastI a.dirs) a.name (f.t.last + 1)) f1.ck (lastI a.dirs)).nodes x = _
      unfold stampT
      rw [nod_put h2.rise, if_neg, nod_bind h1'.rise hd10, if_neg hx]
      show ¬ x = (nod (bindT f1.t (lastI a.dirs) a.name (f.t.last + 1)).nodes (lastI a.dirs)).id
      rw [nod_id (by rw [hdb]; decide)]; exact hx
    have hn : nod (bindF f1 a (f.t.last + 1)).t.nodes (f.t.last + 1) = ⟨f.t.last + 1, kind, mode, 0, (tickF f).ck, data, (nod f.t.nodes (f.t.last + 1)).es⟩ := by
      rw [hfin _ (fun e => hne e.symm), hnew, if_pos rfl]
    refine ⟨hsim.same hdb hst, ?_, ?_, ?_, ?_, rfl⟩
    · rw [hn]
    · rw [hn]
    · rw [hn]; exact hck.symm
    · rw [hn]; exact hnoes
theorem step_err {t : Tr} {fw : Bool} {s : WS} {x : Int} (h : stepS t fw s = .error x) : x ≠ 0 := by
  unfold stepS at h
  cases e : enterS t s with
  | error y =>
    rw [e] at h
    injection h with h
    subst h
    unfold enterS at e
    split at e
    · injection e with e; omega
    · split at e
      · injection e with e; omega
      · split at e <;> cases e
  | ok ds =>
    rw [e] at h
    dsimp only at h
    split at h
    · unfold throughS at h
      dsimp only at h
      split at h
      · injection h with h; omega
      · split at h
        · injection h with h; omega
        · cases h
    · cases h
theorem run_err {t : Tr} {fw : Bool} {x : Int} : ∀ (n : Nat) (s : WS), runS t fw n s = .error x → x ≠ 0 := by
  intro n
  induction n with
  | zero => intro s h; cases h
  | succ n ih =>
    intro s h
    unfold runS at h
    split at h
    · cases h
    · cases e : stepS t fw s with
      | error y => rw [e] at h; injection h with h; subst h; exact step_err e
      | ok s1 => rw [e] at h; exact ih s1 h
theorem find_err {t : Tr} {p : Bs} {fw : Bool} {x : Int} (h : findS t p fw = .error x) : x ≠ 0 := by
  unfold findS at h
  split at h
  · rename_i hp
    injection h with h
    omega
  · change (match runS t fw 40000 (startS p) with | .error e => Except.error e | .ok s => doneS t s) = _ at h
    cases e : runS t fw 40000 (startS p) with
    | error y => rw [e] at h; injection h with h; subst h; exact run_err _ _ e
    | ok s =>
      rw [e] at h
      dsimp only at h
      unfold doneS at h
      split at h
      · injection h with h; omega
      · cases h
/-- What reading and telling answer where something is. -/
theorem read_at {p : Bs} {a : At} (h : findS f.t p true = .ok a) (h0 : a.node ≠ 0) (h1 : (nod f.t.nodes a.node).kind ≠ 1) : readF f p = ((nod f.t.nodes a.node).data, 0) := by
  unfold readF thereF
  rw [h]
  dsimp only
  rw [if_neg h0]
  dsimp only
  rw [if_neg (show ¬ kindF f a.node = 1 from h1)]
theorem stat_at {p : Bs} {fw : Bool} {a : At} (h : findS f.t p fw = .ok a) (h0 : a.node ≠ 0) : statF f p fw = (⟨(nod f.t.nodes a.node).kind, (nod f.t.nodes a.node).mode, (nod f.t.nodes a.node).owner, (nod f.t.nodes a.node).time, (nod f.t.nodes a.node).data.length, links f.t.nodes a.node⟩, 0) := by
  unfold statF thereF
  rw [h]
  dsimp only
  rw [if_neg h0]
theorem stat_none {p : Bs} {fw : Bool} {a : At} (h : findS f.t p fw = .ok a) (h0 : a.node = 0) : (statF f p fw).2 = 20 := by
  unfold statF thereF
  rw [h]
  dsimp only
  rw [if_pos h0]
theorem read_none {p : Bs} {a : At} (h : findS f.t p true = .ok a) (h0 : a.node = 0) : readF f p = ([], 20) := by
  unfold readF thereF
  rw [h]
  dsimp only
  rw [if_pos h0]
/-- What a call that writes leaves. -/
structure Wrote (f g : Fs) (p data : Bs) (how : Int) : Prop where
  read : readF g p = (if how = 2 ∧ (readF f p).2 = 0 then (readF f p).1 ++ data else data, 0)
  stat : (statF g p true).2 = 0 ∧ (statF g p true).1.kind = 2 ∧ (statF g p true).1.size = ((if how = 2 ∧ (readF f p).2 = 0 then (readF f p).1 ++ data else data).length : Int) ∧ (statF g p true).1.time = g.ck
  excl : how = 3 → (readF f p).2 = 20
theorem write_wrote (hf : FsOk k f) (hkk : k ≤ 1000000) (p data : Bs) (how : Int) (h : (writeF f p data how).2 = 0) : Wrote f (writeF f p data how).1 p data how := by
  unfold writeF at h ⊢
  split at h
  · cases h
  · rename_i hhow
    rw [if_neg hhow]
    cases e : findS f.t p (decide (how ≠ 3)) with
    | error x =>
      rw [e] at h
      dsimp only at h
      exact absurd h (find_err e)
    | ok a =>
      rw [e] at h
      dsimp only at h ⊢
      have ha := find_ok hf e
      split at h
      · cases h
      · rename_i c1
        rw [if_neg c1]
        split at h
        · cases h
        · rename_i c2
          rw [if_neg c2]
          split at h
          · -- something is there
            rename_i h0
            rw [if_pos h0]
            have hh3 : how ≠ 3 := fun hh => c1 ⟨h0, hh⟩
            have hk1 : (nod f.t.nodes a.node).kind ≠ 1 := fun hh => c2 (.inr ⟨h0, hh⟩)
            rw [decide_eq_true hh3] at e
            have hk0 := ha.node.resolve_left h0
            have hk3 := (find_nolink hf e).resolve_left h0
            have hk2 : (nod f.t.nodes a.node).kind = 2 := by have := hf.nkind hk0; omega
            have hrd := read_at e h0 hk1
            unfold rewriteF at h ⊢
            dsimp only at h ⊢
            have hkept : (if how = 2 then (nod f.t.nodes a.node).data else []) ++ data = if how = 2 ∧ (readF f p).2 = 0 then (readF f p).1 ++ data else data := by
              rw [hrd]
              by_cases h2 : how = 2
              · rw [if_pos h2, if_pos ⟨h2, rfl⟩]
              · rw [if_neg h2, if_neg (fun hh => h2 hh.1)]; rfl
            generalize (if how = 2 then (nod f.t.nodes a.node).data else []) = kept at *
            split at h
            · cases h
            · rename_i c3
              rw [if_neg c3]
              have hid := nod_id hk0
              obtain ⟨m, hm⟩ : ∃ m : Nd, m = { nod f.t.nodes a.node with data := kept ++ data, time := (tickF f).ck } := ⟨_, rfl⟩
              have hs := same_put hf hk0 hk3 m (by rw [hm]) (by rw [hm])
              have hn : nod (putT f.t m).nodes a.node = { m with es := (nod f.t.nodes m.id).es } := by
                rw [nod_put hf.rise, if_pos (by rw [hm]; exact hid.symm)]
              have hfd := (hs.find hf p true).trans e
              obtain ⟨g, hg⟩ : ∃ g : Fs, g = ⟨putT f.t m, (tickF f).ck⟩ := ⟨_, rfl⟩
              have hgt : g.t = putT f.t m := by rw [hg]
              have hgc : g.ck = (tickF f).ck := by rw [hg]
              have goal : Wrote f g p data how := by
                rw [← hgt] at hn hfd
                have m1 : m.kind = 2 := by rw [hm]; exact hk2
                have m2 : m.data = kept ++ data := by rw [hm]
                have m3 : m.time = (tickF f).ck := by rw [hm]
                refine ⟨?_, ?_, fun hh => absurd hh hh3⟩
                · rw [read_at hfd h0 (by rw [hn]; show m.kind ≠ 1; rw [m1]; decide), hn, ← hkept, ← m2]
                · rw [stat_at hfd h0, hn, ← hkept, ← m2]
                  exact ⟨rfl, m1, rfl, m3.trans hgc.symm⟩
              rw [hg, hm] at goal
              exact goal
          · rename_i h0
            rw [if_neg h0]
            have h0 : a.node = 0 := Classical.byContradiction fun hh => h0 hh
            split at h
            · cases h
            · rename_i c3
              rw [if_neg c3]
              have hsl : a.slash = false := by
                cases e3 : a.slash with
                | false => rfl
                | true => exact absurd (.inl ⟨h0, e3⟩) c2
              have et : findS f.t p true = .ok a := by
                by_cases hh3 : how = 3
                · rw [show decide (how ≠ 3) = false from by simp [hh3]] at e
                  exact find_none_follow hf e h0
                · rw [decide_eq_true hh3] at e; exact e
              obtain ⟨hsim, n1, n2, n3, n4, -⟩ := create_parts hf hkk ha h0 2 420 data (by omega) (by omega) h
              generalize (createF f a 2 420 data).1 = g at *
              have hN : f.t.last + 1 ≠ 0 := by have := hf.root_last; omega
              have hfd := hsim.find hf (ha.ktri hf h0) (p := p) (fw := true) (a := a) (.inl (by rw [n1]; decide)) et (.inl hsl)
              have hfx : fixA (lastI a.dirs) a.name (f.t.last + 1) a = { a with node := f.t.last + 1 } := by unfold fixA; rw [if_pos ⟨h0, rfl, rfl⟩]
              rw [hfx] at hfd
              have hrd := read_none et h0
              have hd : (if how = 2 ∧ (readF f p).2 = 0 then (readF f p).1 ++ data else data) = data := by
                rw [hrd]; simp
              refine ⟨?_, ?_, fun _ => by rw [hrd]⟩
              · rw [read_at hfd hN (by dsimp only; rw [n1]; decide)]
                dsimp only
                rw [n2, hd]
              · rw [stat_at hfd hN]
                dsimp only
                rw [n2]
                exact ⟨rfl, n1, by rw [hd], n3⟩
end VtM
end

section
namespace VtM
open PathM TreeM
set_option linter.unusedVariables false
theorem names_one {n : Bs} (h0 : n ≠ []) (h1 : 47 ∉ n) : names (47 :: n) = [n] := by
  have e : btw (47 :: n) = [[], n] := by
    have := btw_app_slash [] n h1
    simpa [btw] using this
  unfold names
  rw [e]
  cases n with
  | nil => exact absurd rfl h0
  | cons a l => rfl
theorem name_parts {n : Bs} (hn : nameB n = true) : n ≠ [] ∧ n.length ≤ 64 ∧ 47 ∉ n ∧ 0 ∉ n ∧ n ≠ [46] ∧ n ≠ [46, 46] := by
  simp [nameB] at hn
  obtain ⟨⟨⟨⟨⟨h1, h2⟩, h3⟩, h4⟩, h5⟩, h6⟩ := hn
  exact ⟨h1, h2, h3, h4, h5, h6⟩
theorem parts_one {n : Bs} (hn : nameB n = true) : partsE (47 :: n) = 0 ∧ partsL (47 :: n) = [n] ∧ partsB (47 :: n) = false := by
  obtain ⟨h1, h2, h3, h4, h5, h6⟩ := name_parts hn
  have hnm := names_one h1 h3
  have hf : faultN (47 :: n) = 0 := by
    unfold faultN
    rw [if_neg (by simp), if_neg (by simp; omega), if_neg]
    simp [h4]
  have he : partsE (47 :: n) = 0 := by
    unfold partsE
    rw [if_neg (by rw [hf]; simp), hnm, if_neg]
    simp [longIn]; omega
  refine ⟨he, by unfold partsL; rw [if_pos he, hnm], ?_⟩
  unfold partsB
  rw [if_pos he, hnm]
  have hl : (47 :: n).getLast? = n.getLast? := by
    cases n with
    | nil => exact absurd rfl h1
    | cons a l => simp [List.getLast?_cons]
  rw [hl]
  have : n.getLast? ≠ some 47 := fun e => h3 (List.mem_of_getLast? e)
  simp
  exact this
/-- Where a path of one name leads. -/
theorem find_one {k : Nat} {f : Fs} (hf : FsOk k f) {n : Bs} (hn : nameB n = true) : findS f.t (47 :: n) false = .ok ⟨[1], n, entT f.t 1 n, false⟩ := by
  obtain ⟨h1, h2, h3, h4, h5, h6⟩ := name_parts hn
  obtain ⟨p1, p2, p3⟩ := parts_one hn
  have hs : stepS f.t false ⟨[1], [], 1, [n], false, 0⟩ = .ok ⟨[1], n, entT f.t 1 n, [], false, 0⟩ := by
    unfold stepS enterS
    rw [if_neg (show ¬ (1 : Int) = 0 by decide), if_neg (by rw [hf.root]; decide), if_pos rfl]
    dsimp only [List.headD_cons, List.tail_cons]
    unfold lookS atLinkS
    rw [if_neg h5, if_neg h6]
    simp [lastI]
  unfold findS
  rw [if_neg (by rw [p1]; simp), p2, p3]
  rw [show (40000 : Nat) = 39998 + 1 + 1 from rfl]
  unfold runS
  rw [if_neg (by simp), hs]
  dsimp only
  unfold runS
  rw [if_pos rfl]
  dsimp only
  unfold doneS
  rw [if_neg (by simp)]
/-- The root's own path. -/
theorem find_root {k : Nat} {f : Fs} (hf : FsOk k f) (fw : Bool) : findS f.t [47] fw = .ok ⟨[1], [], 1, false⟩ := by
  have p1 : partsE [47] = 0 := by decide
  have p2 : partsL [47] = [] := by decide
  have p3 : partsB [47] = false := by decide
  unfold findS
  rw [if_neg (by rw [p1]; simp), p2, p3]
  rw [show (40000 : Nat) = 39999 + 1 from rfl]
  unfold runS
  rw [if_pos rfl]
  dsimp only
  unfold doneS
  rw [if_neg (by simp)]
/-- How many entries lead to a node. -/
def cntE (es : List Ent) (id : Int) : Nat := es.countP fun x => x.to == id
theorem links_cons (x : Nd) (l : List Nd) (id : Int) : links (x :: l) id = cntE x.es id + links l id := by simp [links, flat, cntE, List.countP_append]
theorem links_put (n : Nd) : ∀ {l : List Nd}, Rise l → ∀ id, links (putN n l) id + cntE (nod l n.id).es id = links l id + cntE n.es id
  | [], _, id => by simp [putN, nod, look_nil, links, flat, cntE, zeroN]
  | x :: xs, hr, id => by
    obtain ⟨h1, h2⟩ := rise_cons hr
    have ih := links_put n h2 id
    have hnod : nod (x :: xs) n.id = if x.id = n.id then x else nod xs n.id := by
      unfold nod; rw [look_cons]; split <;> rfl
    rw [hnod]
    unfold putN
    split
    · rename_i hlt
      have : seek xs n.id = none := look_none.2 fun m hm => by have := h1 m hm; omega
      have hz : nod xs n.id = zeroN := by unfold nod; rw [this]; rfl
      rw [if_neg (by omega), hz, links_cons, links_cons]
      simp [zeroN, cntE]; omega
    · split
      · rename_i hlt he
        rw [if_pos he.symm, links_cons, links_cons]; omega
      · rename_i hlt he
        rw [if_neg (fun h => he h.symm), links_cons, links_cons]; omega
theorem links_del (i : Int) : ∀ {l : List Nd}, Rise l → ∀ id, links (delN i l) id + cntE (nod l i).es id = links l id
  | [], _, id => by simp [delN, nod, look_nil, links, flat, cntE, zeroN]
  | x :: xs, hr, id => by
    obtain ⟨h1, h2⟩ := rise_cons hr
    have ih := links_del i h2 id
    have hnod : nod (x :: xs) i = if x.id = i then x else nod xs i := by
      unfold nod; rw [look_cons]; split <;> rfl
    rw [hnod]
    unfold delN at *
    rw [List.filter_cons]
    by_cases e : x.id = i
    · have hz : (x.id != i) = false := by simpa using e
      have hnone : seek xs i = none := look_none.2 fun m hm => by have := h1 m hm; omega
      have hq : nod xs i = zeroN := by unfold nod; rw [hnone]; rfl
      rw [hq] at ih
      rw [hz, if_pos e, links_cons]
      simp [zeroN, cntE] at ih ⊢
      omega
    · have hz : (x.id != i) = true := by simpa using e
      rw [hz, if_pos rfl, if_neg e, links_cons, links_cons]; omega
/-- Entries that lead to a node, behind a name's binding. -/
theorem cnt_bound {es : List Ent} (h : Sorted es) (key : Bs) (v id : Int) (hid : id ≠ 0) :
    cntE (boundE es key v) id + (if childO es key = some id then 1 else 0) = cntE es id + (if v = id then 1 else 0) := by
  obtain ⟨lo, mid, hi, e, h1, h2, h3, h4⟩ := bound_split h key
  have app : ∀ xs ys : List Ent, cntE (xs ++ ys) id = cntE xs id + cntE ys id := fun xs ys => List.countP_append ..
  have one : ∀ y : Int, cntE [(⟨key, y⟩ : Ent)] id = if y = id then 1 else 0 := fun y => by
    by_cases hy : y = id <;> simp [cntE, hy]
  have hv : cntE (if v = 0 then [] else [(⟨key, v⟩ : Ent)]) id = if v = id then 1 else 0 := by
    by_cases h0 : v = 0
    · rw [if_pos h0, if_neg (by omega)]; rfl
    · rw [if_neg h0, one]
  have hm : cntE mid id = if childO es key = some id then 1 else 0 := by
    have hch : childO es key = mid.head?.map Ent.to := by
      unfold childO
      rw [e]
      have g1 : lo.find? (fun x => x.key == key) = none := by
        rw [List.find?_eq_none]; intro x hx; simp; intro hk; exact bs_irrefl key (hk ▸ h1 x hx)
      have g2 : hi.find? (fun x => x.key == key) = none := by
        rw [List.find?_eq_none]; intro x hx; simp; intro hk; exact bs_irrefl key (hk ▸ h2 x hx)
      rw [List.find?_append, List.find?_append, g1, g2]
      rcases h3 with rfl | ⟨y, rfl⟩ <;> simp
    rw [hch]
    rcases h3 with rfl | ⟨y, rfl⟩
    · simp [cntE]
    · rw [one]; simp
  rw [h4, e, app, app, app, app, hv, ← e, ← hm]
  omega
end VtM
end

section
namespace VtM
open PathM TreeM
set_option linter.unusedVariables false
variable {k : Nat} {f : Fs}
theorem links_putT {t : Tr} (hr : Rise t.nodes) (n : Nd) (id : Int) : links (putT t n).nodes id = links t.nodes id := by
  have := links_put { n with es := (nod t.nodes n.id).es } hr id
  show links (putN _ t.nodes) id = _
  dsimp only at this ⊢
  omega
theorem links_bind {t : Tr} (hr : Rise t.nodes) {dir : Int} (hd : (nod t.nodes dir).kind ≠ 0) (hs : Sorted (nod t.nodes dir).es) (key : Bs) (v id : Int) (h0 : id ≠ 0) :
    links (bindT t dir key v).nodes id + (if entT t dir key = id then 1 else 0) = links t.nodes id + (if v = id then 1 else 0) := by
  have hsk := seek_of_kind hd
  have h1 := links_put { nod t.nodes dir with es := boundE (nod t.nodes dir).es key v } hr id
  dsimp only at h1
  rw [nod_id hd] at h1
  have h2 := cnt_bound hs key v id h0
  have h3 : (childO (nod t.nodes dir).es key = some id) ↔ entT t dir key = id := by
    unfold entT
    cases childO (nod t.nodes dir).es key with
    | none => simp; omega
    | some y => simp
  simp only [h3] at h2
  unfold bindT
  rw [hsk]
  dsimp only
  rw [nod_id hd]
  omega
theorem links_bindF (hf : FsOk k f) {a : At} (ha : (nod f.t.nodes (lastI a.dirs)).kind = 1) (v id : Int) (h0 : id ≠ 0) :
    links (bindF f a v).t.nodes id + (if entT f.t (lastI a.dirs) a.name = id then 1 else 0) = links f.t.nodes id + (if v = id then 1 else 0) := by
  have := links_bind hf.rise (by rw [ha]; decide) (hf.nsorted (lastI a.dirs)) a.name v id h0
  show links (putT (bindT f.t (lastI a.dirs) a.name v) _).nodes id + _ = _
  rw [links_putT (rise_bind hf.rise _ _ _)]
  exact this
/-- To what is not there no entry leads. -/
theorem links_absent (hf : FsOk k f) {id : Int} (h : (nod f.t.nodes id).kind = 0) : links f.t.nodes id = 0 := by
  refine links_zero fun x hx => ?_
  obtain ⟨i, hi, hx⟩ := flat_mem.1 hx
  intro e
  have hm : ndAt f.t.nodes i ∈ f.t.nodes := by
    unfold ndAt
    rw [List.getD_eq_getElem?_getD, List.getElem?_eq_getElem hi]
    exact List.getElem_mem hi
  have := (hf.ents _ hm x hx).2
  rw [e] at this
  exact this h
theorem made_one (hf : FsOk k f) (hkk : k ≤ 900000) {n : Bs} (hn : nameB n = true) (he : entT f.t 1 n = 0) (kind mode : Int) (data : Bs) (hk : 1 ≤ kind ∧ kind ≤ 3) (hd : data.length ≤ 4096) (h : (createF f ⟨[1], n, 0, false⟩ kind mode data).2 = 0) :
    FsOk (k + 2) (createF f ⟨[1], n, 0, false⟩ kind mode data).1 ∧ 1 < f.t.last + 1 ∧ entT (createF f ⟨[1], n, 0, false⟩ kind mode data).1.t 1 n = f.t.last + 1 ∧
      (nod (createF f ⟨[1], n, 0, false⟩ kind mode data).1.t.nodes (f.t.last + 1)).kind = kind ∧ (nod (createF f ⟨[1], n, 0, false⟩ kind mode data).1.t.nodes (f.t.last + 1)).es = [] ∧
      links (createF f ⟨[1], n, 0, false⟩ kind mode data).1.t.nodes (f.t.last + 1) = 1 ∧ findS (createF f ⟨[1], n, 0, false⟩ kind mode data).1.t (47 :: n) false = .ok ⟨[1], n, f.t.last + 1, false⟩ := by
  have ha : AtOk f.t ⟨[1], n, 0, false⟩ := find_ok hf (by rw [find_one hf hn, he])
  have hg := hf.create ha.in kind mode data hk hd (by omega)
  obtain ⟨p1, p2, p3, p4, p5, p6⟩ := create_parts hf (by omega) ha rfl kind mode data hk hd h
  have hl := hf.root_last
  have hent : entT (createF f ⟨[1], n, 0, false⟩ kind mode data).1.t 1 n = f.t.last + 1 := p1.new
  have hno : (nod f.t.nodes (f.t.last + 1)).kind = 0 := Classical.byContradiction fun hh => by have := (hf.nid hh).2; omega
  have hlk : links (createF f ⟨[1], n, 0, false⟩ kind mode data).1.t.nodes (f.t.last + 1) = 1 := by
    rw [p6]
    have h1 := hf.tick.fresh kind mode (tickF f).ck data hk hd (by omega)
    have hroot : (nod (putT f.t ⟨f.t.last + 1, kind, mode, 0, (tickF f).ck, data, []⟩).nodes 1).kind = 1 := by
      rw [nod_put hf.rise, if_neg (by show ¬ (1 : Int) = f.t.last + 1; omega)]; exact hf.root
    have h2 := links_bindF h1 (a := ⟨[1], n, 0, false⟩) hroot (f.t.last + 1) (f.t.last + 1) (by omega)
    rw [if_pos rfl] at h2
    have h3 : entT (putT f.t ⟨f.t.last + 1, kind, mode, 0, (tickF f).ck, data, []⟩) 1 n = 0 := by rw [ent_put hf.rise]; exact he
    rw [if_neg (by show ¬ entT (putT f.t ⟨f.t.last + 1, kind, mode, 0, (tickF f).ck, data, []⟩) 1 n = f.t.last + 1; rw [h3]; omega)] at h2
    have h4 : links (putT f.t ⟨f.t.last + 1, kind, mode, 0, (tickF f).ck, data, []⟩).nodes (f.t.last + 1) = 0 := by rw [links_putT hf.rise]; exact links_absent hf hno
    have h5 : links (bindF { tickF f with t := putT f.t ⟨f.t.last + 1, kind, mode, 0, (tickF f).ck, data, []⟩ } ⟨[1], n, 0, false⟩ (f.t.last + 1)).t.nodes (f.t.last + 1) + 0 = links (putT f.t ⟨f.t.last + 1, kind, mode, 0, (tickF f).ck, data, []⟩).nodes (f.t.last + 1) + 1 := h2
    omega
  refine ⟨hg, by omega, hent, p2, p5, hlk, ?_⟩
  rw [find_one hg hn, hent]
/-- What is taken away is there no more. -/
theorem gone_one (hf : FsOk k f) {n : Bs} (hn : nameB n = true) {N : Int} (h1 : N ≠ 0) (h2 : N ≠ 1) (he : entT f.t 1 n = N) : findS (removeF f ⟨[1], n, N, false⟩).t (47 :: n) false = .ok ⟨[1], n, 0, false⟩ := by
  have ha : AtOk f.t ⟨[1], n, N, false⟩ := find_ok hf (by rw [find_one hf hn, he])
  have hg := hf.remove ha (name_parts hn).1 h1
  have hr : (nod f.t.nodes 1).kind ≠ 0 := by rw [hf.root]; decide
  have hb : entT (bindF (tickF f) ⟨[1], n, N, false⟩ 0).t 1 n = 0 := by
    show entT (putT (bindT f.t 1 n 0) _) 1 n = 0
    rw [ent_put (rise_bind hf.rise _ _ _), ent_bind hf.rise hr (hf.nsorted 1), if_pos ⟨rfl, rfl⟩]
  have hz : entT (removeF f ⟨[1], n, N, false⟩).t 1 n = 0 := by
    show entT (forgetT (bindF (tickF f) ⟨[1], n, N, false⟩ 0).t N) 1 n = 0
    unfold forgetT
    split
    · unfold entT at hb ⊢
      rw [nod_drop, if_neg (fun e => h2 e.symm)]
      exact hb
    · exact hb
  rw [find_one hg hn, hz]
end VtM
end

section
namespace VtM
open PathM TreeM
set_option linter.unusedVariables false
variable {k : Nat} {f : Fs}
theorem linked_pos (hf : FsOk k f) {d N : Int} {key : Bs} (hd : (nod f.t.nodes d).kind = 1) (he : entT f.t d key = N) (h0 : N ≠ 0) : 0 < links f.t.nodes N := by
  have := links_bind hf.rise (by rw [hd]; decide) (hf.nsorted d) key 0 N h0
  rw [if_pos he, if_neg (fun e => h0 e.symm)] at this
  omega
end VtM
end

section
namespace VtM
open PathM TreeM
set_option linter.unusedVariables false
variable {k : Nat} {f : Fs}
/-- From the root on each directory is led to by a name in the one before. -/
def Way (t : Tr) (l : List Int) : Prop := l.head? = some 1 ∧ ∀ i, i + 1 < l.length → ∃ key, entT t (l.getD i 0) key = l.getD (i + 1) 0
theorem way_one (t : Tr) : Way t [1] := ⟨rfl, fun i h => absurd h (by simp)⟩
theorem getD_take {l : List Int} {n i : Nat} (h : i < n) : (l.take n).getD i 0 = l.getD i 0 := by
  rw [List.getD_eq_getElem?_getD, List.getD_eq_getElem?_getD, List.getElem?_take, if_pos h]
theorem Way.take {t : Tr} {l : List Int} (h : Way t l) {n : Nat} (hn : 0 < n) : Way t (l.take n) := by
  refine ⟨?_, fun i hi => ?_⟩
  · rw [List.head?_take, if_neg (by omega)]; exact h.1
  · rw [List.length_take] at hi
    obtain ⟨key, hk⟩ := h.2 i (by omega)
    exact ⟨key, by rw [getD_take (by omega), getD_take (by omega)]; exact hk⟩
theorem lastI_getD {l : List Int} (h : l ≠ []) : lastI l = l.getD (l.length - 1) 0 := by
  unfold lastI
  rw [List.getLast?_eq_getElem?, List.getD_eq_getElem?_getD]
theorem Way.snoc {t : Tr} {l : List Int} {x : Int} {key : Bs} (h : Way t l) (hne : l ≠ []) (hx : entT t (lastI l) key = x) : Way t (l ++ [x]) := by
  have hpos := List.length_pos_iff.2 hne
  refine ⟨?_, fun i hi => ?_⟩
  · rw [List.head?_append, h.1]; rfl
  · rw [List.length_append] at hi
    simp only [List.length_cons, List.length_nil] at hi
    by_cases hl : i + 1 < l.length
    · obtain ⟨key, hk⟩ := h.2 i hl
      refine ⟨key, ?_⟩
      rw [List.getD_eq_getElem?_getD, List.getD_eq_getElem?_getD, List.getElem?_append_left (by omega), List.getElem?_append_left hl, ← List.getD_eq_getElem?_getD, ← List.getD_eq_getElem?_getD]
      exact hk
    · have hi2 : i = l.length - 1 := by omega
      refine ⟨key, ?_⟩
      rw [List.getD_eq_getElem?_getD, List.getD_eq_getElem?_getD, List.getElem?_append_left (by omega), List.getElem?_append_right (by omega), show i + 1 - l.length = 0 by omega, ← List.getD_eq_getElem?_getD, hi2, ← lastI_getD hne, hx]
      rfl
theorem way_step {t : Tr} {fw : Bool} {s s' : WS} (h : WsOk t s) (hw : Way t s.dirs) (he : stepS t fw s = .ok s') : Way t s'.dirs := by
  unfold stepS at he
  cases e : enterS t s with
  | error x => rw [e] at he; cases he
  | ok ds =>
    rw [e] at he
    have hds : Way t ds := by
      unfold enterS at e
      split at e
      · cases e
      · split at e
        · cases e
        · split at e
          · injection e with e; subst e; exact hw
          · rename_i hn
            injection e with e; subst e
            exact hw.snoc h.ne (h.leads hn).symm
    have hlk : ∀ nm, Way t (lookS t ds nm).1 := fun nm => by
      unfold lookS
      split
      · exact hds
      · split
        · exact hds.take (by omega)
        · exact hds
    dsimp only at he
    have hl := hlk (s.left.headD [])
    generalize lookS t ds (s.left.headD []) = p at *
    split at he
    · unfold throughS at he
      dsimp only at he
      split at he
      · cases he
      · split at he
        · cases he
        · injection he with he
          subst he
          dsimp only
          split
          · exact hl.take (by omega)
          · exact hl
    · injection he with he
      subst he
      exact hl
theorem way_run (hf : FsOk k f) {fw : Bool} : ∀ (n : Nat) {s s' : WS}, WsOk f.t s → Full s → Way f.t s.dirs → runS f.t fw n s = .ok s' → Way f.t s'.dirs
  | 0, s, s', h, _, hw, hr => by simp [runS] at hr; subst hr; exact hw
  | n + 1, s, s', h, hu, hw, hr => by
    unfold runS at hr
    split at hr
    · injection hr with hr; subst hr; exact hw
    · rename_i hl
      cases e : stepS f.t fw s with
      | error x => rw [e] at hr; cases hr
      | ok s1 =>
        rw [e] at hr
        obtain ⟨a, b, _⟩ := step_ok hf h hu hl e
        exact way_run hf n a b (way_step h hw e) hr
theorem way_find (hf : FsOk k f) {fw : Bool} {p : Bs} {a : At} (h : findS f.t p fw = .ok a) : Way f.t a.dirs := by
  unfold findS at h
  split at h
  · cases h
  · cases e : runS f.t fw 40000 ⟨[1], [], 1, partsL p, partsB p, 0⟩ with
    | error x => rw [e] at h; cases h
    | ok s =>
      rw [e] at h
      have hs := way_run hf 40000 (start_ok hf p).1 (start_ok hf p).2.1 (way_one f.t) e
      unfold doneS at h
      dsimp only at h
      split at h
      · cases h
      · injection h with h
        subst h
        exact hs

/-- One name at the most leads to a directory; what is none has no names. -/
structure One (t : Tr) : Prop where
  one : ∀ id, (nod t.nodes id).kind = 1 → links t.nodes id ≤ 1
  flat : ∀ id, (nod t.nodes id).kind ≠ 1 → (nod t.nodes id).es = []
theorem linked_two (hf : FsOk k f) {d e N : Int} {key key2 : Bs} (hd : (nod f.t.nodes d).kind = 1) (he : (nod f.t.nodes e).kind = 1) (hne : d ≠ e) (h1 : entT f.t d key = N) (h2 : entT f.t e key2 = N) (h0 : N ≠ 0) : 2 ≤ links f.t.nodes N := by
  have hd0 : (nod f.t.nodes d).kind ≠ 0 := by rw [hd]; decide
  have hb := links_bind hf.rise hd0 (hf.nsorted d) key 0 N h0
  rw [if_pos h1, if_neg (fun e => h0 e.symm)] at hb
  have hg : FsOk (k + 1) { f with t := bindT f.t d key 0 } := hf.bind hd0 key 0 (.inl rfl)
  have := linked_pos hg (d := e) (N := N) (key := key2) (by show (nod (bindT f.t d key 0).nodes e).kind = 1; rw [kind_bind hf.rise hd0]; exact he) (by
    show entT (bindT f.t d key 0) e key2 = N
    rw [ent_bind hf.rise hd0 (hf.nsorted d), if_neg (fun h => hne h.1.symm)]; exact h2) h0
  have h3 : 0 < links (bindT f.t d key 0).nodes N := this
  omega
/-- A directory doesn't stand in itself. -/
theorem not_self (hf : FsOk k f) (h1 : One f.t) {l : List Int} (hw : Way f.t l) (hd : ∀ d ∈ l, (nod f.t.nodes d).kind = 1) {key : Bs} {N : Int} (hne : l ≠ []) (he : entT f.t (lastI l) key = N) (h0 : N ≠ 0) : N ≠ lastI l := by
  intro e
  have hk : (nod f.t.nodes N).kind = 1 := by rw [e]; exact lastI_kind hd hne
  have hN1 : N ≠ 1 := by
    rcases hf.ent (lastI l) key with h | ⟨h, _⟩
    · rw [he] at h; exact absurd h h0
    · rw [he] at h; exact h
  have key1 : ∀ i, i < l.length → l.getD i 0 = N → False := by
    intro i
    induction i with
    | zero =>
      intro hi hN
      have := hw.1
      rw [List.head?_eq_getElem?] at this
      rw [List.getD_eq_getElem?_getD, this] at hN
      exact hN1 hN.symm
    | succ i ih =>
      intro hi hN
      obtain ⟨key2, h2⟩ := hw.2 i hi
      by_cases hM : l.getD i 0 = N
      · exact ih (by omega) hM
      · have hMd : (nod f.t.nodes (l.getD i 0)).kind = 1 := hd _ (by
          rw [List.getD_eq_getElem?_getD, List.getElem?_eq_getElem (by omega)]
          exact List.getElem_mem _)
        rw [hN] at h2
        have := linked_two hf hMd hk hM h2 (by rw [← e] at he; exact he) h0
        have := h1.one N hk
        omega
  exact key1 (l.length - 1) (by have := List.length_pos_iff.2 hne; omega) (by rw [← lastI_getD hne]; exact e.symm)
/-! what keeps it -/
theorem One.put_old (h : One f.t) (hf : FsOk k f) (n : Nd) (hk : n.kind = (nod f.t.nodes n.id).kind) : One (putT f.t n) := by
  refine ⟨fun id hid => ?_, fun id hid => ?_⟩
  · rw [links_putT hf.rise]
    rw [kind_put hf.rise] at hid
    split at hid
    · rename_i e; rw [hk, ← e] at hid; exact h.one id hid
    · exact h.one id hid
  · rw [kind_put hf.rise] at hid
    rw [nod_put hf.rise]
    split at hid
    · rename_i e
      rw [if_pos e]
      exact h.flat n.id (by rw [← hk]; exact hid)
    · rename_i e
      rw [if_neg e]
      exact h.flat id hid
theorem One.fresh (h : One f.t) (hf : FsOk k f) (n : Nd) (hn : n.id = f.t.last + 1) : One (putT f.t n) := by
  have hz : (nod f.t.nodes n.id).kind = 0 := Classical.byContradiction fun hh => by have := (hf.nid hh).2; omega
  refine ⟨fun id hid => ?_, fun id hid => ?_⟩
  · rw [links_putT hf.rise]
    rw [kind_put hf.rise] at hid
    split at hid
    · rename_i e
      rw [e, links_absent hf hz]; omega
    · exact h.one id hid
  · rw [kind_put hf.rise] at hid
    rw [nod_put hf.rise]
    split at hid
    · rename_i e
      rw [if_pos e]
      exact h.flat n.id (by rw [hz]; decide)
    · rename_i e
      rw [if_neg e]
      exact h.flat id hid
theorem nod_bindI (hf : FsOk k f) {b : At} (hb : AtIn f.t b) (v : Int) {id : Int} (h : id ≠ lastI b.dirs) : nod (bindF f b v).t.nodes id = nod f.t.nodes id := by
  show nod (stampT (bindT f.t (lastI b.dirs) b.name v) f.ck (lastI b.dirs)).nodes id = _
  unfold stampT
  rw [nod_put (rise_bind hf.rise _ _ _), if_neg, nod_bind hf.rise hb.last0, if_neg h]
  show ¬ id = (nod (bindT f.t (lastI b.dirs) b.name v).nodes (lastI b.dirs)).id
  rw [nod_id (by rw [kind_bind hf.rise hb.last0]; exact hb.last0)]
  exact h
theorem ent_bindI (hf : FsOk k f) {b : At} (hb : AtIn f.t b) (v d : Int) (key : Bs) : entT (bindF f b v).t d key = if d = lastI b.dirs ∧ key = b.name then v else entT f.t d key := by
  show entT (putT (bindT f.t (lastI b.dirs) b.name v) _) d key = _
  rw [ent_put (rise_bind hf.rise _ _ _), ent_bind hf.rise hb.last0 (hf.nsorted _)]
theorem One.bind (h : One f.t) (hf : FsOk k f) {a : At} (ha : AtIn f.t a) (v : Int) (hv : (nod f.t.nodes v).kind = 1 → links f.t.nodes v = 0) : One (bindF f a v).t := by
  refine ⟨fun id hid => ?_, fun id hid => ?_⟩
  · have hid2 := hid
    rw [kind_bindF hf ha] at hid2
    have h0 : id ≠ 0 := fun e => by rw [e, hf.none0] at hid2; cases hid2
    have hl := links_bindF hf (a := a) ha.last v id h0
    have h1 := h.one id hid2
    by_cases e : v = id
    · rw [if_pos e] at hl
      have := hv (by rw [e]; exact hid2)
      rw [e] at this
      omega
    · rw [if_neg e] at hl; omega
  · rw [kind_bindF hf ha] at hid
    have hne : id ≠ lastI a.dirs := fun e => hid (by rw [e]; exact ha.last)
    rw [nod_bindI hf ha v hne]
    exact h.flat id hid
theorem One.tick (h : One f.t) : One (tickF f).t := h
theorem One.drop (h : One f.t) (hf : FsOk k f) (i : Int) : One (dropT f.t i) := by
  refine ⟨fun id hid => ?_, fun id hid => ?_⟩
  · rw [nod_drop] at hid
    split at hid
    · cases hid
    · have := links_del i hf.rise id
      have h2 := h.one id hid
      show links (delN i f.t.nodes) id ≤ 1
      omega
  · rw [nod_drop] at hid ⊢
    split
    · rfl
    · rename_i e
      rw [if_neg e] at hid
      exact h.flat id hid
theorem One.forget (h : One f.t) (hf : FsOk k f) (i : Int) : One (forgetF f i).t := by
  show One (forgetT f.t i)
  unfold forgetT
  split
  · exact h.drop hf i
  · exact h
theorem One.stamp (h : One f.t) (hf : FsOk k f) (ck : Int) {id : Int} (hk : (nod f.t.nodes id).kind ≠ 0) : One (stampT f.t ck id) := by
  unfold stampT
  refine h.put_old hf _ ?_
  show (nod f.t.nodes id).kind = (nod f.t.nodes (nod f.t.nodes id).id).kind
  rw [nod_id hk]
theorem One.create (h : One f.t) (hf : FsOk k f) (hkk : k ≤ 1000000) {a : At} (ha : AtIn f.t a) (kind mode : Int) (data : Bs) (hk : 1 ≤ kind ∧ kind ≤ 3) (hd : data.length ≤ 4096) : One (createF f a kind mode data).1.t := by
  unfold createF
  split
  · exact h
  · have h1 := hf.tick.fresh kind mode (tickF f).ck data hk hd hkk
    have hno : (nod f.t.nodes (f.t.last + 1)).kind = 0 := Classical.byContradiction fun hh => by have := (hf.nid hh).2; omega
    have hin : AtIn (putT f.t ⟨f.t.last + 1, kind, mode, 0, (tickF f).ck, data, []⟩) a := ha.kinds fun id hid => by
      rw [kind_put hf.rise]
      split
      · rename_i e
        have e : id = f.t.last + 1 := e
        rw [e, hno] at hid; cases hid
      · exact hid
    have h2 : One (putT f.t ⟨f.t.last + 1, kind, mode, 0, (tickF f).ck, data, []⟩) := h.fresh hf _ rfl
    exact One.bind (f := { tickF f with t := putT f.t ⟨f.t.last + 1, kind, mode, 0, (tickF f).ck, data, []⟩ }) h2 h1 hin _ (fun _ => by
      show links (putT f.t _).nodes (f.t.last + 1) = 0
      rw [links_putT hf.rise]; exact links_absent hf hno)
theorem One.remove (h : One f.t) (hf : FsOk k f) {a : At} (ha : AtIn f.t a) : One (removeF f a).t := by
  have h1 : One (bindF (tickF f) a 0).t := One.bind (f := tickF f) h hf.tick ha 0 (fun e => by have e : (nod f.t.nodes 0).kind = 1 := e; rw [hf.none0] at e; cases e)
  have h2 := hf.tick.bindIn (a := a) ha 0 (.inl rfl)
  exact One.forget h1 h2 _
theorem one_does (h : One f.t) (hf : FsOk k f) (hkk : k ≤ 1000000) (c : Act) : One (doesF f c).1.t := by
  unfold doesF
  split
  · unfold writeF
    split
    · exact h
    · cases e : findS f.t c.path (decide (c.how ≠ 3)) with
      | error x => exact h
      | ok a =>
        have ha := find_ok hf e
        dsimp only
        split
        · exact h
        · split
          · exact h
          · split
            · rename_i h0
              rcases ha.node with g | g
              · exact absurd g h0
              · unfold rewriteF
                dsimp only
                generalize (if c.how = 2 then (nod f.t.nodes a.node).data else []) = kept
                split
                · exact h
                · exact One.put_old (f := tickF f) h hf.tick { nod f.t.nodes a.node with data := kept ++ c.text, time := (tickF f).ck } (by show (nod f.t.nodes a.node).kind = (nod f.t.nodes (nod f.t.nodes a.node).id).kind; rw [nod_id g])
            · split
              · exact h
              · exact h.create hf hkk ha.in 2 420 _ (by omega) (by omega)
  · split
    · unfold mkdirF
      split
      · exact h
      · cases e : freeF f c.path with
        | error x => exact h
        | ok a => exact h.create hf hkk (free_ok hf e).1.in 1 _ [] (by omega) (by simp)
    · split
      · unfold symlinkF
        cases e : freeNameF f c.path with
        | error x => exact h
        | ok a =>
          dsimp only
          split
          · exact h
          · split
            · exact h
            · exact h.create hf hkk (freeName_ok hf e).1.in 3 511 _ (by omega) (by omega)
      · split
        · unfold linkF
          cases e : thereF f c.path false with
          | error x => exact h
          | ok w =>
            dsimp only
            split
            · exact h
            · rename_i hk1
              cases e2 : freeNameF f c.text with
              | error x => exact h
              | ok a => exact One.bind (f := tickF f) h hf.tick (freeName_ok hf e2).1.in _ (fun e => absurd e hk1)
        · split
          · unfold rmdirF
            cases e : namedThereF f c.path with
            | error x => exact h
            | ok a =>
              dsimp only
              split
              · exact h
              · split
                · exact h
                · exact h.remove hf (namedThere_ok hf e).1.in
          · split
            · unfold unlinkF
              cases e : namedThereF f c.path with
              | error x => exact h
              | ok a =>
                dsimp only
                split
                · exact h
                · exact h.remove hf (namedThere_ok hf e).1.in
            · split
              · unfold renameF
                cases e : namedThereF f c.path with
                | error x => exact h
                | ok a =>
                  obtain ⟨h1, h2, h3, h4, h5⟩ := namedThere_ok hf e
                  dsimp only
                  cases e2 : namedF f c.text with
                  | error x => exact h
                  | ok b =>
                    obtain ⟨g1, g2⟩ := named_ok hf e2
                    dsimp only
                    split
                    · exact h
                    · split
                      · exact h
                      · have k1 := hf.tick.bindIn (a := a) h1.in 0 (.inl rfl)
                        have kk : ∀ id, (nod (bindF (tickF f) a 0).t.nodes id).kind = (nod f.t.nodes id).kind := fun id => kind_bindF hf.tick (a := a) h1.in 0 id
                        have b1 : AtIn (bindF (tickF f) a 0).t b := AtIn.of_kinds (f := f) (g := bindF (tickF f) a 0) g1.in kk
                        have o1 : One (bindF (tickF f) a 0).t := One.bind (f := tickF f) h hf.tick h1.in 0 (fun e => by have e : (nod f.t.nodes 0).kind = 1 := e; rw [hf.none0] at e; cases e)
                        have o2 : One (bindF (bindF (tickF f) a 0) b a.node).t := o1.bind k1 b1 _ (fun e => by
                          rw [kk] at e
                          have hl := links_bindF hf.tick (a := a) h1.last 0 a.node h3
                          rw [if_pos (show entT (tickF f).t (lastI a.dirs) a.name = a.node from (h1.leads h2).symm), if_neg (fun e => h3 e.symm)] at hl
                          have h6 := h.one a.node e
                          have hl : links (bindF (tickF f) a 0).t.nodes a.node + 1 = links f.t.nodes a.node + 0 := hl
                          omega)
                        have k2 := k1.bindIn b1 a.node (.inr ⟨h4, by rw [kk]; exact h5⟩)
                        split
                        · exact o2.forget k2 _
                        · exact o2
              · split
                · unfold chmodF
                  split
                  · exact h
                  · cases e : thereF f c.path true with
                    | error x => exact h
                    | ok a =>
                      obtain ⟨h1, h2, h3⟩ := there_ok hf e
                      exact One.put_old (f := tickF f) h hf.tick _ (by show (nod f.t.nodes a.node).kind = (nod f.t.nodes (nod f.t.nodes a.node).id).kind; rw [nod_id h2])
                · split
                  · unfold touchF
                    cases e : thereF f c.path true with
                    | error x => exact h
                    | ok a =>
                      obtain ⟨h1, h2, h3⟩ := there_ok hf e
                      exact One.stamp (f := tickF f) h hf.tick _ h2
                  · exact h
end VtM
end

section
namespace VtM
open PathM TreeM
set_option linter.unusedVariables false
variable {k : Nat} {f : Fs}
theorem rename_err {p q : Bs} (h : (renameF f p q).2 ≠ 0) : (renameF f p q).1 = f := by
  unfold renameF at h ⊢
  cases e : namedThereF f p with
  | error x => rfl
  | ok a =>
    rw [e] at h
    dsimp only at h ⊢
    cases e2 : namedF f q with
    | error x => rfl
    | ok b =>
      rw [e2] at h
      dsimp only at h ⊢
      split
      · rfl
      · rename_i hne
        rw [if_neg hne] at h
        split
        · rfl
        · rename_i hr
          rw [if_neg hr] at h
          exact absurd rfl h
theorem named_find {p : Bs} {a : At} (h : namedF f p = .ok a) : findS f.t p false = .ok a ∧ a.name ≠ [] := by
  unfold namedF at h
  cases e : findS f.t p false with
  | error x => rw [e] at h; cases h
  | ok b =>
    rw [e] at h
    dsimp only at h
    split at h
    · cases h
    · rename_i h0
      injection h with h
      subst h
      exact ⟨rfl, h0⟩
theorem namedThere_find {p : Bs} {a : At} (h : namedThereF f p = .ok a) : findS f.t p false = .ok a ∧ a.name ≠ [] ∧ a.node ≠ 0 := by
  unfold namedThereF at h
  cases e : namedF f p with
  | error x => rw [e] at h; cases h
  | ok b =>
    rw [e] at h
    dsimp only at h
    split at h
    · cases h
    · rename_i h0
      injection h with h
      subst h
      exact ⟨(named_find e).1, (named_find e).2, h0⟩
/-- What is the same and what not behind a renaming. -/
structure Moved (f g : Fs) (a b : At) : Prop where
  node : nod g.t.nodes a.node = nod f.t.nodes a.node
  gone : entT g.t (lastI a.dirs) a.name = 0
  new : entT g.t (lastI b.dirs) b.name = a.node
  links : links g.t.nodes a.node = links f.t.nodes a.node
theorem ent_forget (f : Fs) (i d : Int) (key : Bs) : entT (forgetF f i).t d key = entT f.t d key ∨ (d = i ∧ entT (forgetF f i).t d key = 0) := by
  show entT (forgetT f.t i) d key = _ ∨ (_ ∧ entT (forgetT f.t i) d key = 0)
  unfold forgetT
  split
  · by_cases e : d = i
    · refine .inr ⟨e, ?_⟩
      unfold entT
      rw [nod_drop, if_pos e]
      rfl
    · refine .inl ?_
      unfold entT
      rw [nod_drop, if_neg e]
  · exact .inl rfl
theorem child_ne {t : Tr} {d : Int} {key : Bs} (h : entT t d key ≠ 0) : (nod t.nodes d).es ≠ [] := fun e => by
  unfold entT childO at h
  rw [e] at h
  exact h rfl
theorem rename_moved (hf : FsOk k f) (h1 : One f.t) {p q : Bs} (h : (renameF f p q).2 = 0) :
    ∃ a b, findS f.t p false = .ok a ∧ findS f.t q false = .ok b ∧ a.node ≠ 0 ∧ a.name ≠ [] ∧ b.name ≠ [] ∧ (a.node = b.node → (renameF f p q).1 = f) ∧ (a.node ≠ b.node → Moved f (renameF f p q).1 a b) := by
  have hE := h
  unfold renameF at h
  cases e : namedThereF f p with
  | error x =>
    exfalso
    rw [e] at h
    dsimp only at h
    subst h
    unfold namedThereF namedF at e
    cases e2 : findS f.t p false with
    | error y =>
      rw [e2] at e
      dsimp only at e
      injection e with e
      exact find_err e2 e
    | ok b =>
      rw [e2] at e
      dsimp only at e
      split at e
      · rename_i e3
        split at e3
        · injection e3 with e3; injection e with e; omega
        · cases e3
      · split at e
        · injection e with e; omega
        · cases e
  | ok a =>
    rw [e] at h
    dsimp only at h
    cases e2 : namedF f q with
    | error x =>
      exfalso
      rw [e2] at h
      dsimp only at h
      subst h
      unfold namedF at e2
      cases e3 : findS f.t q false with
      | error y =>
        rw [e3] at e2
        dsimp only at e2
        injection e2 with e2
        exact find_err e3 e2
      | ok b =>
        rw [e3] at e2
        dsimp only at e2
        split at e2
        · injection e2 with e2; omega
        · cases e2
    | ok b =>
      rw [e2] at h
      dsimp only at h
      obtain ⟨f1, f2, f3⟩ := namedThere_find e
      obtain ⟨f4, f5⟩ := named_find e2
      refine ⟨a, b, f1, f4, f3, f2, f5, fun hab => ?_, fun hab => ?_⟩
      · unfold renameF
        rw [e]
        dsimp only
        rw [e2]
        dsimp only
        rw [if_pos hab]
      · rw [if_neg hab] at h
        have hrf : refuseF f a b = 0 := by
          refine Classical.byContradiction fun hr => ?_
          rw [if_pos hr] at h
          exact hr h
        have hg : (renameF f p q).1 = (if b.node ≠ 0 then forgetF (bindF (bindF (tickF f) a 0) b a.node) b.node else bindF (bindF (tickF f) a 0) b a.node) := by
          unfold renameF
          rw [e]
          dsimp only
          rw [e2]
          dsimp only
          rw [if_neg hab, if_neg (fun hh => hh hrf)]
        rw [hg]
        have ha := find_ok hf f1
        have hb := find_ok hf f4
        have hae := ha.leads f2
        have hbe := hb.leads f5
        obtain ⟨g1, g2, g3, g4, g5⟩ := namedThere_ok hf e
        -- what was not refused
        unfold refuseF at hrf
        dsimp only at hrf
        have hin : a.node ∉ b.dirs := fun hh => by rw [if_pos hh] at hrf; omega
        rw [if_neg hin] at hrf
        have hon : b.node ≠ 0 → kindF f b.node = 1 → (nod f.t.nodes b.node).es = [] := fun hb0 hk => by
          have ho : decide (b.node ≠ 0 ∧ kindF f b.node = 1) = true := decide_eq_true ⟨hb0, hk⟩
          rw [ho] at hrf
          split at hrf
          · omega
          · split at hrf
            · omega
            · split at hrf
              · omega
              · rename_i hne
                exact Classical.byContradiction fun hh => hne ⟨rfl, hh⟩
        have hbes : b.node ≠ 0 → (nod f.t.nodes b.node).es = [] := fun hb0 => by
          by_cases hk : kindF f b.node = 1
          · exact hon hb0 hk
          · exact h1.flat _ hk
        have ha1 : a.node ≠ lastI a.dirs := not_self hf h1 (way_find hf f1) ha.dirs ha.ne hae.symm f3
        have ha2 : a.node ≠ lastI b.dirs := fun hh => hin (by rw [hh]; exact lastI_in hb.ne)
        have hab1 : b.node ≠ 0 → b.node ≠ lastI b.dirs := fun hb0 => not_self hf h1 (way_find hf f4) hb.dirs hb.ne hbe.symm hb0
        have hab2 : b.node ≠ 0 → b.node ≠ lastI a.dirs := fun hb0 hh => by
          have := hbes hb0
          rw [hh] at this
          exact child_ne (t := f.t) (d := lastI a.dirs) (key := a.name) (by rw [← hae]; exact f3) this
        have hpl : ¬ (lastI a.dirs = lastI b.dirs ∧ a.name = b.name) := fun hh => hab (by rw [hae, hbe, hh.1, hh.2])
        have k1 := hf.tick.bindIn (a := a) ha.in 0 (.inl rfl)
        have kk : ∀ id, (nod (bindF (tickF f) a 0).t.nodes id).kind = (nod f.t.nodes id).kind := fun id => kind_bindF hf.tick (a := a) ha.in 0 id
        have b1 : AtIn (bindF (tickF f) a 0).t b := AtIn.of_kinds (f := f) (g := bindF (tickF f) a 0) hb.in kk
        have k2 := k1.bindIn b1 a.node (.inr ⟨g4, by rw [kk]; exact g5⟩)
        have n1 : ∀ id, id ≠ lastI a.dirs → nod (bindF (tickF f) a 0).t.nodes id = nod f.t.nodes id := fun id hid => nod_bindI hf.tick (b := a) ha.in 0 hid
        have n2 : ∀ id, id ≠ lastI a.dirs → id ≠ lastI b.dirs → nod (bindF (bindF (tickF f) a 0) b a.node).t.nodes id = nod f.t.nodes id := fun id hi1 hi2 => by rw [nod_bindI k1 b1 a.node hi2, n1 id hi1]
        have e1 : ∀ d key, entT (bindF (tickF f) a 0).t d key = if d = lastI a.dirs ∧ key = a.name then 0 else entT f.t d key := fun d key => ent_bindI hf.tick (b := a) ha.in 0 d key
        have e2 : ∀ d key, entT (bindF (bindF (tickF f) a 0) b a.node).t d key = if d = lastI b.dirs ∧ key = b.name then a.node else if d = lastI a.dirs ∧ key = a.name then 0 else entT f.t d key := fun d key => by rw [ent_bindI k1 b1, e1]
        have l1 : links (bindF (tickF f) a 0).t.nodes a.node + 1 = links f.t.nodes a.node := by
          have := links_bindF hf.tick (a := a) ha.last 0 a.node f3
          rw [if_pos (show entT (tickF f).t (lastI a.dirs) a.name = a.node from hae.symm), if_neg (fun e => f3 e.symm)] at this
          exact this
        have l2 : links (bindF (bindF (tickF f) a 0) b a.node).t.nodes a.node = links f.t.nodes a.node := by
          have := links_bindF k1 (a := b) b1.last a.node a.node f3
          rw [if_pos rfl, if_neg (by
            rw [e1, if_neg (fun hh => hpl ⟨hh.1.symm, hh.2.symm⟩), ← hbe]
            exact fun hh => hab hh.symm)] at this
          omega
        have m0 : Moved f (bindF (bindF (tickF f) a 0) b a.node) a b := by
          refine ⟨n2 _ ha1 ha2, ?_, ?_, l2⟩
          · rw [e2, if_neg hpl, if_pos ⟨rfl, rfl⟩]
          · rw [e2, if_pos ⟨rfl, rfl⟩]
        by_cases hb0 : b.node = 0
        · rw [if_neg (fun hh => hh hb0)]
          exact m0
        · rw [if_pos hb0]
          have hbn : nod (bindF (bindF (tickF f) a 0) b a.node).t.nodes b.node = nod f.t.nodes b.node := n2 _ (hab2 hb0) (hab1 hb0)
          have hes := hbes hb0
          generalize bindF (bindF (tickF f) a 0) b a.node = g at *
          refine ⟨?_, ?_, ?_, ?_⟩
          · have : nod (forgetF g b.node).t.nodes a.node = nod g.t.nodes a.node := by
              show nod (forgetT g.t b.node).nodes a.node = _
              unfold forgetT
              split
              · rw [nod_drop, if_neg hab]
              · rfl
            rw [this]; exact m0.node
          · rcases ent_forget g b.node (lastI a.dirs) a.name with h | ⟨_, h⟩
            · rw [h]; exact m0.gone
            · exact h
          · rcases ent_forget g b.node (lastI b.dirs) b.name with h | ⟨h, _⟩
            · rw [h]; exact m0.new
            · exact absurd h.symm (hab1 hb0)
          · have : links (forgetF g b.node).t.nodes a.node = links g.t.nodes a.node := by
              show links (forgetT g.t b.node).nodes a.node = _
              unfold forgetT
              split
              · have := links_del b.node k2.rise a.node
                rw [hbn, hes] at this
                show links (delN b.node g.t.nodes) a.node = _
                have hz : cntE [] a.node = 0 := rfl
                omega
              · rfl
            rw [this]; exact m0.links
end VtM
end

section
namespace VtM
open PathM TreeM
set_option linter.unusedVariables false
theorem rise_begin {l : List Nd} (h : Rising l) : Rise l := List.pairwise_iff_getElem.2 fun i j hi hj hij => by
  have := h i j hij hj
  have e1 : ndAt l i = l[i] := by simp [ndAt, hi]
  have e2 : ndAt l j = l[j] := by simp [ndAt, hj]
  rwa [e1, e2] at this
theorem nod_place {l : List Nd} (hr : Rise l) {id : Int} (h : place l id < l.length) : nod l id = ndAt l (place l id) := by
  have h1 := look_of_mem hr (ndAt_mem h)
  rw [place_id h] at h1
  unfold nod
  rw [h1]; rfl
theorem nod_at {l : List Nd} (hr : Rise l) {n : Nd} (h : n ∈ l) : nod l n.id = n := by
  unfold nod
  rw [look_of_mem hr h]; rfl
theorem plain_kind {n : Nd} (h : plainB n = true) : 1 ≤ n.kind ∧ n.kind ≤ 3 ∧ n.data.length ≤ 4096 ∧ (n.kind ≠ 1 → n.es = []) := by
  simp only [plainB, Bool.and_eq_true] at h
  have h2 := h.2
  split at h2
  · rename_i e
    simp only [Bool.and_eq_true, decide_eq_true_eq] at h2
    exact ⟨by omega, by omega, by rw [h2.1]; simp, fun hh => absurd e hh⟩
  · split at h2
    · rename_i e
      simp only [Bool.and_eq_true, decide_eq_true_eq] at h2
      exact ⟨by omega, by omega, h2.1, fun _ => h2.2⟩
    · split at h2
      · rename_i e
        simp only [Bool.and_eq_true, decide_eq_true_eq] at h2
        exact ⟨by omega, by omega, by omega, fun _ => h2.2⟩
      · cases h2
theorem begin_ok {t : Tr} (h : checkB t = true) (hl : t.last ≤ 1099511627776) (hc : ∀ i, i < t.nodes.length → (ndAt t.nodes i).es.length ≤ 200) (hrn : I64 t.rn) (hrb : I64 t.rb) (ck : Int) : FsOk 600 ⟨t, ck⟩ ∧ One t := by
  obtain ⟨hh, hn, hp, hled, hr⟩ := check_parts h
  obtain ⟨k1, k2, k3, k4⟩ := head_parts hh
  have hri := rise_begin (check_rising h)
  have hpl : ∀ i, i < t.nodes.length → 1 ≤ (ndAt t.nodes i).kind ∧ (ndAt t.nodes i).kind ≤ 3 ∧ (ndAt t.nodes i).data.length ≤ 4096 ∧ ((ndAt t.nodes i).kind ≠ 1 → (ndAt t.nodes i).es = []) := fun i hi => plain_kind (allTo_iff.1 hp i hi)
  have hall : ∀ {P : Nd → Prop}, (∀ i, i < t.nodes.length → P (ndAt t.nodes i)) → ∀ n ∈ t.nodes, P n := fun {P} hP n hm => by
    obtain ⟨i, hi, rfl⟩ := nd_of_mem hm
    exact hP i hi
  have hpos : ∀ i, i < t.nodes.length → 1 ≤ (ndAt t.nodes i).id := fun i hi => by
    by_cases e : i = 0
    · rw [e, k3]; omega
    · have := check_rising h 0 i (by omega) hi
      omega
  have hid : ∀ i, i < t.nodes.length → (ndAt t.nodes i).id ≤ t.last := fun i hi => by
    have := allTo_iff.1 hn i hi
    simp [okNum] at this
    exact this.1
  have hroot : nod t.nodes 1 = ndAt t.nodes 0 := by
    have := nod_at hri (ndAt_mem (l := t.nodes) (i := 0) (by omega))
    rwa [k3] at this
  have hnod : ∀ id, (nod t.nodes id).kind ≠ 0 → ∃ i, i < t.nodes.length ∧ nod t.nodes id = ndAt t.nodes i ∧ (ndAt t.nodes i).id = id := fun id hk => by
    obtain ⟨i, hi, e⟩ := nd_of_mem (nod_mem hk)
    exact ⟨i, hi, e.symm, by rw [e, nod_id hk]⟩
  refine ⟨⟨hri, hall fun i hi => sorted_of_ents (check_ents h hi), hall fun i hi => (hpl i hi).2.2.1, hall fun i hi => ⟨by have := hpos i hi; have := hid i hi; unfold I64; omega, hid i hi⟩, hall fun i hi => by have := hc i hi; omega, by show t.nodes.length ≤ 600; omega, ⟨by have := hid 0 (by omega); rw [k3] at this; show 0 ≤ t.last; omega, by show t.last ≤ _; omega⟩, hrn, hrb, ?_, ?_, hall fun i hi => ⟨(hpl i hi).1, (hpl i hi).2.1⟩, hall hpos⟩, ⟨fun id hk => ?_, fun id hk => ?_⟩⟩
  · show (nod t.nodes 1).kind = 1
    rw [hroot, k4]
  · intro n hm e he
    have hx : e ∈ flat t.nodes := List.mem_flatMap.2 ⟨n, hm, he⟩
    obtain ⟨l1, l2, l3⟩ := led_mem hled hx
    refine ⟨l2, ?_⟩
    show (nod t.nodes e.to).kind ≠ 0
    rw [nod_place hri l1]
    have := (hpl _ l1).1
    omega
  · by_cases hz : links t.nodes id = 0
    · omega
    · have : ∃ x ∈ flat t.nodes, x.to = id := by
        refine Classical.byContradiction fun hh => hz (links_zero fun x hx e => hh ⟨x, hx, e⟩)
      obtain ⟨x, hx, rfl⟩ := this
      obtain ⟨l1, l2, l3⟩ := led_mem hled hx
      rw [nod_place hri l1] at hk
      exact l3 hk
  · by_cases hz : (nod t.nodes id).kind = 0
    · unfold nod at hz ⊢
      cases e : seek t.nodes id with
      | none => rfl
      | some m =>
        rw [e] at hz
        obtain ⟨i, hi, e2⟩ := nd_of_mem (look_mem e).1
        have := (hpl i hi).1
        rw [e2] at this
        have hz : m.kind = 0 := hz
        omega
    · obtain ⟨i, hi, e, _⟩ := hnod id hz
      rw [e] at hk ⊢
      exact (hpl i hi).2.2.2 hk
end VtM
end
