/- DERIVED. The document's own way of going a path, and that of the program: plain mathematics. Symbolic links have a text. -/
import Derived.Test.YtpicgkoclbpjpaaGreatDoorVnG6
namespace VtM
open PathM TreeM
set_option linter.unusedVariables false
variable {k : Nat} {f : Fs}
/-- Symbolic links have a text. -/
def Lnk (t : Tr) : Prop := ∀ id, (nod t.nodes id).kind = 3 → (nod t.nodes id).data ≠ []
theorem Lnk.put_old (h : Lnk f.t) (hf : FsOk k f) (n : Nd) (hn : n.kind = 3 → n.data ≠ []) : Lnk (putT f.t n) := fun id hid => by
  rw [nod_put hf.rise] at hid ⊢
  split at hid
  · rename_i e; rw [if_pos e]; exact hn hid
  · rename_i e; rw [if_neg e]; exact h id hid
theorem Lnk.bind (h : Lnk f.t) (hf : FsOk k f) {a : At} (ha : AtIn f.t a) (v : Int) : Lnk (bindF f a v).t := fun id hid => by
  have hid2 := hid
  rw [kind_bindF hf ha] at hid2
  have hne : id ≠ lastI a.dirs := fun e => by rw [e, ha.last] at hid2; cases hid2
  rw [nod_bindI hf ha v hne]
  exact h id hid2
theorem Lnk.drop (h : Lnk f.t) (i : Int) : Lnk (dropT f.t i) := fun id hid => by
  rw [nod_drop] at hid ⊢
  split at hid
  · cases hid
  · rename_i e; rw [if_neg e]; exact h id hid
theorem Lnk.forget (h : Lnk f.t) (i : Int) : Lnk (forgetF f i).t := by
  show Lnk (forgetT f.t i)
  unfold forgetT
  split
  · exact h.drop i
  · exact h
theorem Lnk.create (h : Lnk f.t) (hf : FsOk k f) (hkk : k ≤ 1000000) {a : At} (ha : AtIn f.t a) (kind mode : Int) (data : Bs) (hk : 1 ≤ kind ∧ kind ≤ 3) (hd : data.length ≤ 4096) (hl : kind = 3 → data ≠ []) : Lnk (createF f a kind mode data).1.t := by
  unfold createF
  split
  · exact h
  · have h1 := hf.tick.fresh kind mode (tickF f).ck data hk hd hkk
    have hin : AtIn (putT f.t ⟨f.t.last + 1, kind, mode, 0, (tickF f).ck, data, []⟩) a := ha.kinds fun id hid => by
      rw [kind_put hf.rise]
      split
      · rename_i e
        have e : id = f.t.last + 1 := e
        have := (hf.nid (id := id) (by rw [hid]; decide)).2
        omega
      · exact hid
    have h2 : Lnk (putT f.t ⟨f.t.last + 1, kind, mode, 0, (tickF f).ck, data, []⟩) := h.put_old hf _ hl
    exact Lnk.bind (f := { tickF f with t := putT f.t ⟨f.t.last + 1, kind, mode, 0, (tickF f).ck, data, []⟩ }) h2 h1 hin _
theorem Lnk.remove (h : Lnk f.t) (hf : FsOk k f) {a : At} (ha : AtIn f.t a) : Lnk (removeF f a).t :=
  Lnk.forget (Lnk.bind (f := tickF f) h hf.tick ha 0) _
theorem lnk_does (h : Lnk f.t) (hf : FsOk k f) (hkk : k ≤ 1000000) (c : Act) : Lnk (doesF f c).1.t := by
  unfold doesF
  split
  · unfold writeF
    split
    · exact h
    · cases e : findS f.t c.path (decide (c.how ≠ 3)) with
      | error x => exact h
      | ok a =>
        have ha := find_ok hf e
        dsimp only
        split
        · exact h
        · rename_i c1
          split
          · exact h
          · split
            · rename_i h0
              have hh3 : c.how ≠ 3 := fun hh => c1 ⟨h0, hh⟩
              rw [decide_eq_true hh3] at e
              have hk3 := (find_nolink hf e).resolve_left h0
              unfold rewriteF
              dsimp only
              generalize (if c.how = 2 then (nod f.t.nodes a.node).data else []) = kept
              split
              · exact h
              · exact Lnk.put_old (f := tickF f) h hf.tick { nod f.t.nodes a.node with data := kept ++ c.text, time := (tickF f).ck } (fun hk => absurd hk hk3)
            · split
              · exact h
              · exact h.create hf hkk ha.in 2 420 _ (by omega) (by omega) (fun e => by omega)
  · split
    · unfold mkdirF
      split
      · exact h
      · cases e : freeF f c.path with
        | error x => exact h
        | ok a => exact h.create hf hkk (free_ok hf e).1.in 1 _ [] (by omega) (by simp) (fun e => by omega)
    · split
      · unfold symlinkF
        cases e : freeNameF f c.path with
        | error x => exact h
        | ok a =>
          dsimp only
          split
          · exact h
          · rename_i c1
            split
            · exact h
            · exact h.create hf hkk (freeName_ok hf e).1.in 3 511 _ (by omega) (by omega) (fun _ he => c1 (.inl he))
      · split
        · unfold linkF
          cases e : thereF f c.path false with
          | error x => exact h
          | ok w =>
            dsimp only
            split
            · exact h
            · cases e2 : freeNameF f c.text with
              | error x => exact h
              | ok a => exact Lnk.bind (f := tickF f) h hf.tick (freeName_ok hf e2).1.in _
        · split
          · unfold rmdirF
            cases e : namedThereF f c.path with
            | error x => exact h
            | ok a =>
              dsimp only
              split
              · exact h
              · split
                · exact h
                · exact h.remove hf (namedThere_ok hf e).1.in
          · split
            · unfold unlinkF
              cases e : namedThereF f c.path with
              | error x => exact h
              | ok a =>
                dsimp only
                split
                · exact h
                · exact h.remove hf (namedThere_ok hf e).1.in
            · split
              · unfold renameF
                cases e : namedThereF f c.path with
                | error x => exact h
                | ok a =>
                  obtain ⟨h1, h2, h3, h4, h5⟩ := namedThere_ok hf e
                  dsimp only
                  cases e2 : namedF f c.text with
                  | error x => exact h
                  | ok b =>
                    obtain ⟨g1, g2⟩ := named_ok hf e2
                    dsimp only
                    split
                    · exact h
                    · split
                      · exact h
                      · have k1 := hf.tick.bindIn (a := a) h1.in 0 (.inl rfl)
                        have kk : ∀ id, (nod (bindF (tickF f) a 0).t.nodes id).kind = (nod f.t.nodes id).kind := fun id => kind_bindF hf.tick (a := a) h1.in 0 id
                        have b1 : AtIn (bindF (tickF f) a 0).t b := AtIn.of_kinds (f := f) (g := bindF (tickF f) a 0) g1.in kk
                        have o1 : Lnk (bindF (tickF f) a 0).t := Lnk.bind (f := tickF f) h hf.tick h1.in 0
                        have o2 : Lnk (bindF (bindF (tickF f) a 0) b a.node).t := o1.bind k1 b1 _
                        split
                        · exact o2.forget _
                        · exact o2
              · split
                · unfold chmodF
                  split
                  · exact h
                  · cases e : thereF f c.path true with
                    | error x => exact h
                    | ok a => exact Lnk.put_old (f := tickF f) h hf.tick { nod f.t.nodes a.node with mode := c.how } (fun hk => h _ hk)
                · split
                  · unfold touchF
                    cases e : thereF f c.path true with
                    | error x => exact h
                    | ok a => exact Lnk.put_old (f := tickF f) h hf.tick { nod f.t.nodes a.node with time := (tickF f).ck } (fun hk => h _ hk)
                  · exact h
theorem plain_link {n : Nd} (h : plainB n = true) : n.kind = 3 → n.data ≠ [] := fun hk => by
  simp only [plainB, Bool.and_eq_true] at h
  have h2 := h.2
  rw [if_neg (by omega), if_neg (by omega), if_pos hk] at h2
  simp only [Bool.and_eq_true, decide_eq_true_eq] at h2
  exact h2.1.1.1
theorem begin_lnk {t : Tr} (h : checkB t = true) : Lnk t := fun id hk => by
  obtain ⟨hh, hn, hp, hled, hr⟩ := check_parts h
  obtain ⟨i, hi, e⟩ := nd_of_mem (nod_mem (l := t.nodes) (id := id) (by rw [hk]; decide))
  rw [← e] at hk ⊢
  exact plain_link (allTo_iff.1 hp i hi) hk

/-! ### a path is gone as the document goes it -/
def throughO (t : Tr) (dirs : List Int) (node : Int) (left : List Bs) (slash : Bool) (hops : Nat) : Except Int WS :=
  let d := (nod t.nodes node).data
  if 8 < hops + 1 then .error 25
  else if longIn (btw d) = true then .error 26
  else
    let ds := if d.head? = some 47 then [1] else dirs
    .ok ⟨ds, [], lastI ds, names d ++ left, slash || (decide (left.length = 0) && (!(names d).isEmpty && d.getLast? == some 47)), hops + 1⟩
def stepO (t : Tr) (fw : Bool) (s : WS) : Except Int WS :=
  match enterS t s with
  | .error e => .error e
  | .ok ds =>
    let p := lookS t ds (s.left.headD [])
    if atLinkS t fw p.2.2 s.left.tail s.slash = true then throughO t p.1 p.2.2 s.left.tail s.slash s.hops
    else .ok ⟨p.1, p.2.1, p.2.2, s.left.tail, s.slash, s.hops⟩
def runO (t : Tr) (fw : Bool) : Nat → WS → Except Int WS
  | 0, s => .ok s
  | n + 1, s => if s.left = [] then .ok s else
    match stepO t fw s with
    | .error e => .error e
    | .ok s' => runO t fw n s'
def findO (t : Tr) (p : Bs) (fw : Bool) : Except Int At :=
  if partsE p ≠ 0 then .error (partsE p) else
    match runO t fw 40000 (startS p) with
    | .error e => .error e
    | .ok s => doneS t s
theorem no_names {d : Bs} (h : names d = []) (h0 : d ≠ []) : d.head? = some 47 := by
  cases d with
  | nil => exact absurd rfl h0
  | cons c l =>
    by_cases hc : c = 47
    · rw [hc]; rfl
    · have hb : bef (c :: l) ≠ [] := by
        unfold bef
        rw [List.takeWhile_cons]
        simp [hc]
      rw [names_take _ hb] at h
      cases h
/-- The two differ in the slash alone, and that only where the way ends in the root. -/
def NearR (t : Tr) (a b : WS) : Prop := b.dirs = a.dirs ∧ b.name = a.name ∧ b.node = a.node ∧ b.left = a.left ∧ b.hops = a.hops ∧ (b.slash = a.slash ∨ (a.left = [] ∧ a.node = 1))
theorem near_step (hf : FsOk k f) {fw : Bool} {s : WS} (h : WsOk f.t s) (hw : Way f.t s.dirs) :
    (∃ x, stepS f.t fw s = .error x ∧ stepO f.t fw s = .error x) ∨ ∃ a b, stepS f.t fw s = .ok a ∧ stepO f.t fw s = .ok b ∧ NearR f.t a b := by
  unfold stepS stepO
  cases e : enterS f.t s with
  | error x => exact .inl ⟨x, rfl, rfl⟩
  | ok ds =>
    have hds : Way f.t ds := by
      unfold enterS at e
      split at e
      · cases e
      · split at e
        · cases e
        · split at e
          · injection e with e; subst e; exact hw
          · rename_i hn
            injection e with e; subst e
            exact hw.snoc h.ne (h.leads hn).symm
    have hlk : ∀ nm, Way f.t (lookS f.t ds nm).1 := fun nm => by
      unfold lookS
      split
      · exact hds
      · split
        · exact hds.take (by omega)
        · exact hds
    have hl := hlk (s.left.headD [])
    dsimp only
    generalize lookS f.t ds (s.left.headD []) = p at *
    split
    · unfold throughS throughO
      dsimp only
      generalize (nod f.t.nodes p.2.2).data = d at *
      split
      · exact .inl ⟨_, rfl, rfl⟩
      · split
        · exact .inl ⟨_, rfl, rfl⟩
        · have h1 : p.1.take 1 = [1] := by
            have := hl.1
            cases hp : p.1 with
            | nil => rw [hp] at this; cases this
            | cons c l => rw [hp] at this; simp at this; simp [this]
          refine .inr ⟨_, _, rfl, rfl, ?_⟩
          rw [h1]
          refine ⟨rfl, rfl, rfl, rfl, rfl, ?_⟩
          dsimp only
          by_cases hn : names d = []
          · by_cases hla : d.getLast? = some 47
            · have hd0 : d ≠ [] := fun e => by rw [e] at hla; cases hla
              have hh := no_names hn hd0
              rw [if_pos hh, hn]
              by_cases hle : s.left.tail.length = 0
              · exact .inr ⟨by rw [List.nil_append]; exact List.length_eq_zero_iff.1 hle, rfl⟩
              · left
                rw [decide_eq_false hle, Bool.false_and, Bool.false_and]
            · left
              rw [beq_eq_false_iff_ne.2 hla, Bool.and_false]
          · left
            cases hx : names d with
            | nil => exact absurd hx hn
            | cons a b => rfl
    · exact .inr ⟨_, _, rfl, rfl, rfl, rfl, rfl, rfl, rfl, .inl rfl⟩
theorem near_ok {t : Tr} {a b : WS} (h : NearR t a b) (ha : WsOk t a) : WsOk t b ∧ (Full a → Full b) ∧ muS b = muS a := by
  obtain ⟨d, n, i, l, ho, sl⟩ := a
  obtain ⟨d', n', i', l', ho', sl'⟩ := b
  obtain ⟨h1, h2, h3, h4, h5, _⟩ := h
  dsimp only at h1 h2 h3 h4 h5
  subst h1 h2 h3 h4 h5
  exact ⟨⟨ha.ne, ha.dirs, ha.node, ha.hops, ha.len, ha.left, ha.name, ha.leads, ha.alone, ha.dots⟩, fun h => h, rfl⟩
theorem stepO_ok (hf : FsOk k f) {fw : Bool} {s s' : WS} (h : WsOk f.t s) (hu : Full s) (hw : Way f.t s.dirs) (hl : s.left ≠ []) (he : stepO f.t fw s = .ok s') : WsOk f.t s' ∧ Full s' ∧ Way f.t s'.dirs ∧ muS s' < muS s := by
  rcases near_step hf (fw := fw) h hw with ⟨x, _, h2⟩ | ⟨a, b, h1, h2, hn⟩
  · rw [he] at h2; cases h2
  · rw [he] at h2
    injection h2 with h2
    subst h2
    obtain ⟨g1, g2, g3⟩ := step_ok hf h hu hl h1
    obtain ⟨n1, n2, n3⟩ := near_ok hn g1
    refine ⟨n1, n2 g2, ?_, by omega⟩
    rw [hn.1]
    exact way_step h hw h1
theorem run_end {t : Tr} {fw : Bool} {s : WS} (h : s.left = []) : ∀ n, runS t fw n s = .ok s
  | 0 => rfl
  | n + 1 => by unfold runS; rw [if_pos h]
theorem runO_end {t : Tr} {fw : Bool} {s : WS} (h : s.left = []) : ∀ n, runO t fw n s = .ok s
  | 0 => rfl
  | n + 1 => by unfold runO; rw [if_pos h]
theorem near_run (hf : FsOk k f) {fw : Bool} : ∀ (n : Nat) {s : WS}, WsOk f.t s → Full s → Way f.t s.dirs →
    (∃ x, runS f.t fw n s = .error x ∧ runO f.t fw n s = .error x) ∨ ∃ a b, runS f.t fw n s = .ok a ∧ runO f.t fw n s = .ok b ∧ b.dirs = a.dirs ∧ b.name = a.name ∧ b.node = a.node ∧ (b.slash = a.slash ∨ a.node = 1)
  | 0, s, _, _, _ => .inr ⟨s, s, rfl, rfl, rfl, rfl, rfl, .inl rfl⟩
  | n + 1, s, h, hu, hw => by
    unfold runS runO
    by_cases hl : s.left = []
    · rw [if_pos hl, if_pos hl]
      exact .inr ⟨s, s, rfl, rfl, rfl, rfl, rfl, .inl rfl⟩
    · rw [if_neg hl, if_neg hl]
      rcases near_step hf (fw := fw) h hw with ⟨x, h1, h2⟩ | ⟨a, b, h1, h2, hn⟩
      · rw [h1, h2]; exact .inl ⟨x, rfl, rfl⟩
      · rw [h1, h2]
        dsimp only
        obtain ⟨g1, g2, _⟩ := step_ok hf h hu hl h1
        have g3 := way_step h hw h1
        obtain ⟨n1, n2, n3, n4, n5, n6⟩ := hn
        rcases n6 with n6 | ⟨n6, n7⟩
        · have : b = a := by
            obtain ⟨d, n, i, l, ho, sl⟩ := a
            obtain ⟨d', n', i', l', ho', sl'⟩ := b
            dsimp only at n1 n2 n3 n4 n5 n6
            subst n1 n2 n3 n4 n5 n6
            rfl
          rw [this]
          exact near_run hf n g1 g2 g3
        · rw [run_end n6, runO_end (by rw [n4]; exact n6)]
          exact .inr ⟨a, b, rfl, rfl, n1, n2, n3, .inr n7⟩
/-- The document finds what the program finds. -/
theorem find_same (hf : FsOk k f) (p : Bs) (fw : Bool) :
    (∃ x, findS f.t p fw = .error x ∧ findO f.t p fw = .error x) ∨ ∃ a b, findS f.t p fw = .ok a ∧ findO f.t p fw = .ok b ∧ b.dirs = a.dirs ∧ b.name = a.name ∧ b.node = a.node := by
  unfold findS findO
  split
  · exact .inl ⟨_, rfl, rfl⟩
  · obtain ⟨a1, a2, a3⟩ := start_ok hf p
    rcases near_run hf (fw := fw) 40000 a1 a2 (way_one f.t) with ⟨x, h1, h2⟩ | ⟨a, b, h1, h2, h3, h4, h5, h6⟩
    · have h1' : runS f.t fw 40000 ⟨[1], [], 1, partsL p, partsB p, 0⟩ = .error x := h1
      rw [h1', h2]; exact .inl ⟨x, rfl, rfl⟩
    · have h1' : runS f.t fw 40000 ⟨[1], [], 1, partsL p, partsB p, 0⟩ = .ok a := h1
      rw [h1', h2]
      dsimp only
      unfold doneS
      rw [h5]
      by_cases hn : a.node = 1
      · have hk : (nod f.t.nodes a.node).kind = 1 := by rw [hn]; exact hf.root
        rw [if_neg (fun hh => hh.2.2 hk), if_neg (fun hh => hh.2.2 hk)]
        exact .inr ⟨_, _, rfl, rfl, h3, h4, rfl⟩
      · have hs := h6.resolve_right hn
        rw [hs]
        split
        · exact .inl ⟨_, rfl, rfl⟩
        · exact .inr ⟨_, _, rfl, rfl, h3, h4, rfl⟩
end VtM
