/- DERIVED. Texts of this claim, joined: PathMath, WdMath. -/
import Derived.Lib.TrimByte
import Derived.Lib.Bytealg
import Derived.Lib.Join
import Derived.Lib.LastIndexByte
namespace PathM
set_option linter.unusedVariables false

abbrev Bs := List UInt8
def nm (l : Bs) : ByteArray := ⟨l.toArray⟩
theorem nm_data (l : Bs) : (nm l).data.toList = l := rfl
theorem nm_of (s : ByteArray) : nm s.data.toList = s := rfl
theorem nm_size (l : Bs) : (nm l).size = l.length := by simp [nm, ByteArray.size]

/-- What stands between a text's slashes. -/
def btw : Bs → List Bs
  | [] => [[]]
  | c :: l => if c = 47 then [] :: btw l else match btw l with
    | [] => [[c]]
    | h :: t => (c :: h) :: t

theorem btw_ne (l : Bs) : btw l ≠ [] := by
  cases l with
  | nil => simp [btw]
  | cons c l =>
    unfold btw
    split
    · simp
    · split <;> simp

theorem btw_snoc_slash (l : Bs) : btw (l ++ [47]) = btw l ++ [[]] := by
  induction l with
  | nil => simp [btw]
  | cons c l ih =>
    rw [List.cons_append]
    by_cases hc : c = 47
    · rw [btw, if_pos hc, ih, btw, if_pos hc]; rfl
    · rw [btw, if_neg hc, ih, btw, if_neg hc]
      cases hb : btw l with
      | nil => exact absurd hb (btw_ne l)
      | cons h t => rfl

theorem btw_snoc_other (l : Bs) (c : UInt8) (hc : c ≠ 47) : ∀ (ps : List Bs) (q : Bs), btw l = ps ++ [q] → btw (l ++ [c]) = ps ++ [q ++ [c]] := by
  induction l with
  | nil =>
    intro ps q h
    simp only [btw] at h
    cases ps with
    | nil => simp at h; subst h; simp [btw, hc]
    | cons a b => have := congrArg List.length h; simp at this
  | cons d l ih =>
    intro ps q h
    rw [List.cons_append]
    by_cases hd : d = 47
    · rw [btw, if_pos hd] at h ⊢
      cases ps with
      | nil => simp at h; exact absurd h.2 (btw_ne l)
      | cons a b =>
        rw [List.cons_append] at h
        obtain ⟨ha, hb⟩ := List.cons.inj h
        rw [ih b q hb, ha]; rfl
    · rw [btw, if_neg hd] at h ⊢
      cases hb : btw l with
      | nil => exact absurd hb (btw_ne l)
      | cons x t =>
        rw [hb] at h
        cases ps with
        | nil =>
          simp at h
          rw [ih [] x (by rw [hb, h.2]; rfl), ← h.1]
          rfl
        | cons a b =>
          rw [List.cons_append] at h
          obtain ⟨ha, hb'⟩ := List.cons.inj h
          rw [ih (x :: b) q (by rw [hb, hb']; rfl), ← ha]
          rfl

/-- Nothing between two slashes is longer than the whole, nor holds a slash. -/
theorem btw_noslash (l : Bs) : ∀ n ∈ btw l, 47 ∉ n := by
  induction l with
  | nil => simp [btw]
  | cons c l ih =>
    unfold btw
    split
    · intro n hn
      rcases List.mem_cons.1 hn with rfl | hn
      · simp
      · exact ih n hn
    · rename_i hc
      cases hb : btw l with
      | nil => exact absurd hb (btw_ne l)
      | cons h t =>
        intro n hn
        rw [hb] at ih
        rcases List.mem_cons.1 hn with rfl | hn
        · simp; exact ⟨fun e => hc e.symm, ih h (by simp)⟩
        · exact ih n (by simp [hn])

theorem btw_len (l : Bs) : (btw l).length ≤ l.length + 1 := by
  induction l with
  | nil => simp [btw]
  | cons c l ih =>
    unfold btw
    split
    · simp; exact ih
    · cases hb : btw l with
      | nil => simp
      | cons h t => rw [hb] at ih; simp at ih ⊢; omega

theorem btw_flat_len (l : Bs) : ((btw l).map List.length).sum ≤ l.length := by
  induction l with
  | nil => simp [btw]
  | cons c l ih =>
    unfold btw
    split
    · simp; omega
    · cases hb : btw l with
      | nil => simp
      | cons h t => rw [hb] at ih; simp at ih ⊢; omega

theorem mem_len (L : List Bs) : ∀ n ∈ L, n.length ≤ (L.map List.length).sum := by
  induction L with
  | nil => simp
  | cons a t ih =>
    intro n hn
    rcases List.mem_cons.1 hn with rfl | hn
    · simp
    · have := ih n hn; simp; omega

/-- The text ahead of the first slash, and behind it. -/
def bef (l : Bs) : Bs := l.takeWhile (· != 47)
def aft (l : Bs) : Bs := (l.dropWhile (· != 47)).drop 1

theorem aft_len (l : Bs) (h : l ≠ []) : (aft l).length < l.length := by
  unfold aft
  have : (l.dropWhile (· != 47)).length ≤ l.length := (List.dropWhile_suffix _).length_le
  have : 0 < l.length := List.length_pos_iff.2 h
  rw [List.length_drop]; omega
theorem aft_le (l : Bs) : (aft l).length ≤ l.length := by
  unfold aft
  have : (l.dropWhile (· != 47)).length ≤ l.length := (List.dropWhile_suffix _).length_le
  rw [List.length_drop]; omega
theorem bef_len (l : Bs) : (bef l).length ≤ l.length := (List.takeWhile_prefix _).length_le

theorem btw_split (l : Bs) : btw l = bef l :: (if 47 ∈ l then btw (aft l) else []) := by
  induction l with
  | nil => simp [btw, bef]
  | cons c l ih =>
    by_cases hc : c = 47
    · rw [btw, if_pos hc]; subst hc; simp [bef, aft]
    · rw [btw, if_neg hc, ih]
      have h1 : bef (c :: l) = c :: bef l := by simp [bef, hc]
      have h2 : aft (c :: l) = aft l := by simp [aft, hc]
      have h3 : (47 ∈ c :: l) = (47 ∈ l) := by simp; exact fun e => absurd e.symm hc
      rw [h1, h2]; simp only [h3]

theorem bef_none (l : Bs) (h : 47 ∉ l) : bef l = l ∧ aft l = [] := by
  induction l with
  | nil => simp [bef, aft]
  | cons c l ih =>
    simp at h
    have := ih h.2
    have hc : c ≠ 47 := fun e => h.1 e.symm
    simp only [bef, aft] at this ⊢
    simp [hc, this.1, this.2]

/-- A path's names: what stands between its slashes, what is empty left out. -/
def names (l : Bs) : List Bs := (btw l).filter (fun n => !n.isEmpty)

theorem names_nil : names [] = [] := by simp [names, btw]
theorem names_step (l : Bs) : names l = (if bef l = [] then [] else [bef l]) ++ names (aft l) := by
  unfold names
  rw [btw_split l, List.filter_cons]
  have e : ((if 47 ∈ l then btw (aft l) else []).filter fun n => !n.isEmpty) = (btw (aft l)).filter fun n => !n.isEmpty := by
    split
    · rfl
    · rename_i h; rw [(bef_none l h).2]; simp [btw]
  rw [e]
  cases hb : bef l <;> simp
theorem names_skip (l : Bs) (h : bef l = []) : names l = names (aft l) := by rw [names_step, if_pos h]; rfl
theorem names_take (l : Bs) (h : bef l ≠ []) : names l = bef l :: names (aft l) := by rw [names_step, if_neg h]; rfl
theorem names_mem {l n : Bs} (h : n ∈ names l) : n ∈ btw l ∧ n ≠ [] := by
  simp [names] at h; exact h
theorem names_len (l : Bs) : (names l).length ≤ l.length := by
  have h1 : ∀ L : List Bs, ((L.filter fun n => !n.isEmpty)).length ≤ (L.map List.length).sum := by
    intro L
    induction L with
    | nil => simp
    | cons a t ih =>
      rw [List.filter_cons]
      cases a with
      | nil => simpa using ih
      | cons x y => simp; omega
  exact Nat.le_trans (h1 _) (btw_flat_len l)
theorem name_le {l n : Bs} (h : n ∈ btw l) : n.length ≤ l.length := Nat.le_trans (mem_len _ n h) (btw_flat_len l)

/-- Cutting at the first slash, by its place. -/
theorem index_none (l : Bs) : Go.Lib.indexByte l 47 = -1 → 47 ∉ l := by
  induction l with
  | nil => simp
  | cons c l ih =>
    intro h
    unfold Go.Lib.indexByte at h
    have hge := Go.Lib.indexByte_ge l 47
    by_cases hc : c = 47
    · simp [hc] at h
    · have : (c == 47) = false := by simpa using hc
      rw [this] at h
      simp only [Bool.false_eq_true, if_false] at h
      split at h
      · rename_i h2; simp; exact ⟨fun e => hc e.symm, ih (by simpa using h2)⟩
      · rename_i h2; omega
theorem index_some (l : Bs) : ∀ i : Nat, Go.Lib.indexByte l 47 = i → bef l = l.take i ∧ aft l = l.drop (i + 1) ∧ i < l.length := by
  induction l with
  | nil => intro i h; simp [Go.Lib.indexByte] at h
  | cons c l ih =>
    intro i h
    unfold Go.Lib.indexByte at h
    have hge := Go.Lib.indexByte_ge l 47
    by_cases hc : c = 47
    · subst hc
      simp at h
      obtain rfl : i = 0 := by omega
      simp [bef, aft]
    · have : (c == 47) = false := by simpa using hc
      rw [this] at h
      simp only [Bool.false_eq_true, if_false] at h
      split at h
      · omega
      · rename_i h2
        have h2' : Go.Lib.indexByte l 47 ≠ -1 := by simpa using h2
        obtain ⟨j, hj⟩ : ∃ j : Nat, Go.Lib.indexByte l 47 = j := ⟨(Go.Lib.indexByte l 47).toNat, by omega⟩
        obtain rfl : i = j + 1 := by omega
        obtain ⟨a, b, d⟩ := ih j hj
        simp only [bef, aft] at a b ⊢
        simp [hc, a, b]; omega

/-- A path without the slashes at its end. -/
def bare (l : Bs) : Bs := Go.Lib.trimRightB l 47
theorem bare_snoc_slash (l : Bs) : bare (l ++ [47]) = bare l := by simp [bare, Go.Lib.trimRightB]
theorem bare_snoc_other (l : Bs) (c : UInt8) (h : c ≠ 47) : bare (l ++ [c]) = l ++ [c] := by simp [bare, Go.Lib.trimRightB, h]
theorem bare_nil : bare [] = [] := rfl
theorem bare_len (l : Bs) : (bare l).length ≤ l.length := by
  have : (l.reverse.dropWhile (· == 47)).length ≤ l.reverse.length := (List.dropWhile_suffix _).length_le
  simp [bare, Go.Lib.trimRightB] at this ⊢; exact this
theorem snoc_cases {α : Type} (l : List α) : l = [] ∨ ∃ t c, l = t ++ [c] := by
  rcases List.eq_nil_or_concat l with h | ⟨t, c, h⟩
  · exact .inl h
  · exact .inr ⟨t, c, by simpa using h⟩
theorem bare_bare (l : Bs) : bare (bare l) = bare l := by
  obtain ⟨n, hn⟩ : ∃ n, l.length = n := ⟨_, rfl⟩
  induction n generalizing l with
  | zero => obtain rfl := List.length_eq_zero_iff.1 hn; rfl
  | succ n ih =>
    rcases snoc_cases l with rfl | ⟨t, c, rfl⟩
    · rfl
    · by_cases h : c = 47
      · subst h; rw [bare_snoc_slash]; exact ih t (by simpa using hn)
      · rw [bare_snoc_other t c h, bare_snoc_other t c h]
/-- What bare leaves ends in no slash. -/
theorem bare_end (l t : Bs) (c : UInt8) (h : bare l = t ++ [c]) : c ≠ 47 := by
  intro hc
  subst hc
  have h2 := bare_bare l
  rw [h, bare_snoc_slash] at h2
  have := bare_len t
  rw [h2] at this; simp at this; omega
theorem bare_take (l : Bs) : ∃ k, k ≤ l.length ∧ bare l = l.take k ∧ ∀ j b, k ≤ j → l[j]? = some b → b = 47 := by
  obtain ⟨n, hn⟩ : ∃ n, l.length = n := ⟨_, rfl⟩
  induction n generalizing l with
  | zero => obtain rfl := List.length_eq_zero_iff.1 hn; exact ⟨0, by simp, rfl, by simp⟩
  | succ n ih =>
    rcases snoc_cases l with rfl | ⟨t, c, rfl⟩
    · exact ⟨0, by simp, rfl, by simp⟩
    · by_cases h : c = 47
      · subst h
        obtain ⟨k, hk, e, hj⟩ := ih t (by simpa using hn)
        refine ⟨k, by simp; omega, ?_, fun j b h1 h2 => ?_⟩
        · rw [bare_snoc_slash, e, List.take_append_of_le_length hk]
        · by_cases hlt : j < t.length
          · rw [List.getElem?_append_left hlt] at h2; exact hj j b h1 h2
          · rw [List.getElem?_append_right (by omega)] at h2
            have hj0 : j - t.length < 1 := by
              have := (List.getElem?_eq_some_iff.1 h2).1; simpa using this
            have : j - t.length = 0 := by omega
            rw [this] at h2; simpa using h2.symm
      · exact ⟨t.length + 1, by simp, by rw [bare_snoc_other t c h, List.take_of_length_le (by simp)], fun j b h1 h2 => by
          have := (List.getElem?_eq_some_iff.1 h2).1; simp at this; omega⟩

def joinL (d n : Bs) : Bs := bare d ++ 47 :: n
def absL (d p : Bs) : Bs := if p = [] ∨ p.head? = some 47 then p else joinL d p

/-- P3.1. -/
def nameB (l : Bs) : Bool := !l.isEmpty && decide (l.length ≤ 64) && !l.contains 47 && !l.contains 0 && l != [46] && l != [46, 46]

/-- P3.2. -/
def longIn (L : List Bs) : Bool := L.any fun n => decide (64 < n.length)
def faultN (l : Bs) : Nat := if l = [] then 20 else if 256 < l.length then 26 else if l.head? ≠ some 47 ∨ l.contains 0 = true then 28 else 0
def partsE (l : Bs) : Nat := if faultN l ≠ 0 then faultN l else if longIn (names l) = true then 26 else 0
def partsL (l : Bs) : List Bs := if partsE l = 0 then names l else []
def partsB (l : Bs) : Bool := if partsE l = 0 then (!(names l).isEmpty && (l.getLast? == some 47)) else false

theorem longIn_names (l : Bs) : longIn (names l) = longIn (btw l) := by
  have : ∀ L : List Bs, longIn (L.filter fun n => !n.isEmpty) = longIn L := by
    intro L
    induction L with
    | nil => rfl
    | cons a t ih =>
      rw [List.filter_cons]
      cases a with
      | nil => simp [longIn] at ih ⊢; exact ih
      | cons x y => simp [longIn] at ih ⊢; rw [ih]
  exact this _

/-- P3.4. -/
def stepC (acc : List Bs) (n : Bs) : List Bs := if n = [46] then acc else if n = [46, 46] then acc.dropLast else acc ++ [n]
def cleanNs (l : Bs) : List Bs := (names l).foldl stepC []
def flatS (ns : List Bs) : Bs := (ns.map (fun n => (47 : UInt8) :: n)).flatten
def rootJ (ns : List Bs) : Bs := if ns = [] then [47] else flatS ns
def cleanL (l : Bs) : Bs := rootJ (cleanNs l)

theorem flatS_snoc (ns : List Bs) (n : Bs) : flatS (ns ++ [n]) = flatS ns ++ 47 :: n := by simp [flatS]
theorem rootJ_join (ns : List Bs) : (47 : UInt8) :: Go.Lib.join ns [47] = rootJ ns := by
  unfold rootJ
  cases ns with
  | nil => simp [Go.Lib.join]
  | cons a t =>
    rw [if_neg (by simp)]
    unfold Go.Lib.join flatS
    induction t generalizing a with
    | nil => simp
    | cons b t ih =>
      have := ih b
      rw [show [47].intercalate (a :: b :: t) = a ++ ([47] ++ [47].intercalate (b :: t)) by simp [List.intercalate]]
      simp only [List.map_cons, List.flatten_cons, List.cons_append, List.nil_append] at this ⊢
      rw [this]

/-- The names that are left: none is empty, none is . or .., none holds a slash. -/
def Good (ns : List Bs) : Prop := ∀ n ∈ ns, n ≠ [] ∧ n ≠ [46] ∧ n ≠ [46, 46] ∧ 47 ∉ n
theorem good_step {acc : List Bs} {n : Bs} (h : Good acc) (hn : n ≠ []) (hs : 47 ∉ n) : Good (stepC acc n) := by
  unfold stepC
  split
  · exact h
  · split
    · exact fun m hm => h m (List.dropLast_subset _ hm)
    · intro m hm
      rcases List.mem_append.1 hm with hm | hm
      · exact h m hm
      · simp at hm; subst hm; exact ⟨hn, by assumption, by assumption, hs⟩
theorem good_fold (L acc : List Bs) (h : Good acc) (hL : ∀ n ∈ L, n ≠ [] ∧ 47 ∉ n) : Good (L.foldl stepC acc) := by
  induction L generalizing acc with
  | nil => exact h
  | cons a t ih =>
    rw [List.foldl_cons]
    exact ih _ (good_step h (hL a (by simp)).1 (hL a (by simp)).2) (fun n hn => hL n (by simp [hn]))
theorem good_clean (l : Bs) : Good (cleanNs l) :=
  good_fold _ _ (by intro n hn; cases hn) (fun n hn => ⟨(names_mem hn).2, btw_noslash l n (names_mem hn).1⟩)
theorem fold_good (L acc : List Bs) (h : Good L) : L.foldl stepC acc = acc ++ L := by
  induction L generalizing acc with
  | nil => simp
  | cons a t ih =>
    have ha := h a (by simp)
    rw [List.foldl_cons, ih _ (fun n hn => h n (by simp [hn]))]
    simp [stepC, ha.2.1, ha.2.2.1]
theorem fold_len (L acc : List Bs) : (L.foldl stepC acc).length ≤ acc.length + L.length := by
  induction L generalizing acc with
  | nil => simp
  | cons a t ih =>
    rw [List.foldl_cons]
    have := ih (stepC acc a)
    have h2 : (stepC acc a).length ≤ acc.length + 1 := by
      unfold stepC; split
      · omega
      · split
        · simp; omega
        · simp
    simp; omega
theorem fold_sum (L acc : List Bs) : ((L.foldl stepC acc).map List.length).sum ≤ (acc.map List.length).sum + (L.map List.length).sum := by
  induction L generalizing acc with
  | nil => simp
  | cons a t ih =>
    rw [List.foldl_cons]
    have := ih (stepC acc a)
    have h2 : ((stepC acc a).map List.length).sum ≤ (acc.map List.length).sum + a.length := by
      unfold stepC; split
      · omega
      · split
        · rcases snoc_cases acc with rfl | ⟨t', c, rfl⟩
          · simp
          · simp; omega
        · simp
    simp; omega

/-- The names of names that were joined. -/
theorem btw_app_slash (l : Bs) (n : Bs) (hn : 47 ∉ n) : btw (l ++ 47 :: n) = btw l ++ [n] := by
  obtain ⟨k, hk⟩ : ∃ k, n.length = k := ⟨_, rfl⟩
  induction k generalizing n with
  | zero => obtain rfl := List.length_eq_zero_iff.1 hk; exact btw_snoc_slash l
  | succ k ih =>
    rcases snoc_cases n with rfl | ⟨t, c, rfl⟩
    · exact btw_snoc_slash l
    · simp at hn
      have := btw_snoc_other (l ++ 47 :: t) c (fun e => hn.2 e.symm) (btw l) t (ih t (by simpa using hn.1) (by simpa using hk))
      simpa using this
theorem btw_flatS (ns : List Bs) (h : ∀ n ∈ ns, 47 ∉ n) : btw (flatS ns) = [] :: ns := by
  obtain ⟨k, hk⟩ : ∃ k, ns.length = k := ⟨_, rfl⟩
  induction k generalizing ns with
  | zero => obtain rfl := List.length_eq_zero_iff.1 hk; rfl
  | succ k ih =>
    rcases snoc_cases ns with rfl | ⟨t, c, rfl⟩
    · rfl
    · rw [flatS_snoc, btw_app_slash _ _ (h c (by simp)), ih t (fun n hn => h n (by simp [hn])) (by simpa using hk)]; rfl
theorem names_rootJ (ns : List Bs) (h : Good ns) : names (rootJ ns) = ns := by
  unfold rootJ
  split
  · rename_i e; subst e; simp [names, btw]
  · unfold names
    rw [btw_flatS ns (fun n hn => (h n hn).2.2.2), List.filter_cons]
    simp only [List.isEmpty_nil, Bool.not_true, Bool.false_eq_true, if_false]
    rw [List.filter_eq_self]
    intro n hn
    have := (h n hn).1
    cases n with
    | nil => exact absurd rfl this
    | cons _ _ => rfl
theorem clean_rootJ (ns : List Bs) (h : Good ns) : cleanL (rootJ ns) = rootJ ns := by
  unfold cleanL cleanNs
  rw [names_rootJ ns h, fold_good ns [] h]; rfl
theorem clean_clean (l : Bs) : cleanL (cleanL l) = cleanL l := clean_rootJ _ (good_clean l)

/-- The document's own loop over what stands between slashes. -/
def stepR (acc : List Bs) (n : Bs) : List Bs := if n = [] ∨ n = [46] then acc else if n ≠ [46, 46] then acc ++ [n] else acc.dropLast
theorem fold_stepR (L acc : List Bs) : L.foldl stepR acc = (L.filter fun n => !n.isEmpty).foldl stepC acc := by
  induction L generalizing acc with
  | nil => rfl
  | cons a t ih =>
    rw [List.foldl_cons, ih, List.filter_cons]
    cases a with
    | nil => simp [stepR]
    | cons x y =>
      simp only [List.isEmpty_cons, Bool.not_false, if_true, List.foldl_cons]
      congr 1
      unfold stepR stepC
      by_cases h1 : x :: y = [46]
      · simp [h1]
      · by_cases h2 : x :: y = [46, 46]
        · simp [h2]
        · simp [h1, h2]
theorem fold_btw (l : Bs) : (btw l).foldl stepR [] = cleanNs l := fold_stepR _ _

/-- P3.5: the last name, and what is ahead of it. -/
def seg (l : Bs) : Bs := (btw l).getLast (btw_ne l)
theorem seg_of {l : Bs} {ps : List Bs} {q : Bs} (h : btw l = ps ++ [q]) : seg l = q := by
  unfold seg; simp [h]
theorem seg_none (l : Bs) (h : 47 ∉ l) : seg l = l := by
  apply seg_of (ps := [])
  rw [btw_split, if_neg h, (bef_none l h).1]; rfl
theorem seg_slash (l n : Bs) (h : 47 ∉ n) : seg (l ++ 47 :: n) = n := seg_of (btw_app_slash l n h)
def baseL (l : Bs) : Bs := seg (bare l)
def headL (l : Bs) : Bs := l.take (l.length - (seg l).length)
def upL (l : Bs) : Bs := if headL (bare l) = [] then [46] else if bare (headL (bare l)) = [] then [47] else bare (headL (bare l))
theorem headL_none (l : Bs) (h : 47 ∉ l) : headL l = [] := by simp [headL, seg_none l h]
theorem headL_slash (l n : Bs) (h : 47 ∉ n) : headL (l ++ 47 :: n) = l ++ [47] := by
  unfold headL
  rw [seg_slash l n h]
  rw [show l ++ 47 :: n = (l ++ [47]) ++ n by simp]
  rw [List.take_append_of_le_length (by simp; omega), List.take_of_length_le (by simp; omega)]

/-- By the last slash's place. -/
theorem last_cases (s : ByteArray) : (Go.Lib.lastIndexByte s 47 = -1 ∧ 47 ∉ s.data.toList) ∨
    ∃ i : Nat, Go.Lib.lastIndexByte s 47 = i ∧ i < s.size ∧ s.data.toList = s.data.toList.take i ++ 47 :: s.data.toList.drop (i + 1) ∧ 47 ∉ s.data.toList.drop (i + 1) := by
  have hsz : s.size = s.data.toList.length := Array.length_toList.symm
  have hget : ∀ j, j < s.size → s.data[j]! = s.data.toList[j]! := by
    intro j hj
    have h1 : j < s.data.size := hj
    rw [getElem!_pos s.data j h1, getElem!_pos s.data.toList j (by simpa using h1)]
    simp
  rcases Go.Lib.lastIndexByte_spec s 47 with ⟨e, h⟩ | ⟨i, hi, e, hc, h⟩
  · refine .inl ⟨e, fun hm => ?_⟩
    obtain ⟨j, hj, he⟩ := List.mem_iff_getElem.1 hm
    have := h j (by omega)
    rw [hget j (by omega), getElem!_pos s.data.toList j hj, he] at this
    exact this rfl
  · refine .inr ⟨i, e, hi, ?_, fun hm => ?_⟩
    · have hi' : i < s.data.toList.length := by omega
      have hv : s.data.toList[i] = 47 := by
        rw [hget i hi, getElem!_pos s.data.toList i hi'] at hc
        apply UInt8.toNat_inj.1
        have : ((47 : UInt8).toNat : Int) = 47 := rfl
        omega
      exact (List.take_append_drop i s.data.toList).symm.trans (by rw [List.drop_eq_getElem_cons hi', hv])
    · obtain ⟨j, hj, he⟩ := List.mem_iff_getElem.1 hm
      rw [List.getElem_drop] at he
      rw [List.length_drop] at hj
      have := h (i + 1 + j) (by omega) (by omega)
      rw [hget _ (by omega), getElem!_pos s.data.toList _ (by omega), he] at this
      exact this rfl

/-- P3.6: a name behind a clean directory. -/
theorem flatS_end (ns : List Bs) (h : Good ns) (hne : ns ≠ []) : ∃ t c, flatS ns = t ++ [c] ∧ c ≠ 47 := by
  rcases snoc_cases ns with rfl | ⟨t, n, rfl⟩
  · exact absurd rfl hne
  · have hn := h n (by simp)
    rcases snoc_cases n with rfl | ⟨u, c, rfl⟩
    · exact absurd rfl hn.1
    · refine ⟨flatS t ++ 47 :: u, c, by rw [flatS_snoc]; simp, fun e => hn.2.2.2 (by simp [e])⟩
theorem bare_rootJ (ns : List Bs) (h : Good ns) : bare (rootJ ns) = flatS ns := by
  unfold rootJ
  split
  · rename_i e; subst e; rfl
  · rename_i hne
    obtain ⟨t, c, e, hc⟩ := flatS_end ns h hne
    rw [e, bare_snoc_other t c hc]
theorem join_rootJ (ns : List Bs) (n : Bs) (h : Good ns) : joinL (rootJ ns) n = rootJ (ns ++ [n]) := by
  unfold joinL
  rw [bare_rootJ ns h]
  unfold rootJ
  rw [if_neg (by simp), flatS_snoc]
theorem nameB_good {n : Bs} (h : nameB n = true) : n ≠ [] ∧ n ≠ [46] ∧ n ≠ [46, 46] ∧ 47 ∉ n := by
  simp [nameB] at h
  obtain ⟨⟨⟨⟨⟨h1, h2⟩, h3⟩, h4⟩, h5⟩, h6⟩ := h
  exact ⟨h1, h5, h6, h3⟩
theorem nameB_len {n : Bs} (h : nameB n = true) : n.length ≤ 64 := by
  simp [nameB] at h
  exact h.1.1.1.1.2
theorem good_snoc {ns : List Bs} {n : Bs} (h : Good ns) (hn : nameB n = true) : Good (ns ++ [n]) := by
  intro m hm
  rcases List.mem_append.1 hm with hm | hm
  · exact h m hm
  · simp at hm; subst hm; exact nameB_good hn
theorem base_join (ns : List Bs) (n : Bs) (h : Good ns) (hn : nameB n = true) : baseL (joinL (rootJ ns) n) = n := by
  rw [join_rootJ ns n h]
  unfold baseL
  rw [bare_rootJ _ (good_snoc h hn), flatS_snoc]
  exact seg_slash _ _ (nameB_good hn).2.2.2
theorem up_join (ns : List Bs) (n : Bs) (h : Good ns) (hn : nameB n = true) : upL (joinL (rootJ ns) n) = rootJ ns := by
  rw [join_rootJ ns n h]
  unfold upL
  rw [bare_rootJ _ (good_snoc h hn), flatS_snoc, headL_slash _ _ (nameB_good hn).2.2.2, bare_snoc_slash, if_neg (by simp)]
  have hb : bare (flatS ns) = flatS ns := by rw [← bare_rootJ ns h, bare_bare]
  rw [hb]
  unfold rootJ
  cases ns with
  | nil => simp [flatS]
  | cons a t => rw [if_neg (by simp [flatS]), if_neg (by simp)]
theorem clean_join (ns : List Bs) (n : Bs) (h : Good ns) (hn : nameB n = true) : cleanL (joinL (rootJ ns) n) = joinL (rootJ ns) n := by
  rw [join_rootJ ns n h]; exact clean_rootJ _ (good_snoc h hn)
theorem flatS_len (ns : List Bs) : (flatS ns).length = ns.length + (ns.map List.length).sum := by
  induction ns with
  | nil => rfl
  | cons a t ih => simp [flatS] at ih ⊢; omega
theorem names_sum (l : Bs) : ((names l).map List.length).sum ≤ l.length := by
  have h1 : ∀ L : List Bs, ((L.filter fun n => !n.isEmpty).map List.length).sum ≤ (L.map List.length).sum := by
    intro L
    induction L with
    | nil => simp
    | cons a t ih =>
      rw [List.filter_cons]
      cases a with
      | nil => simpa using ih
      | cons x y => simp; omega
  exact Nat.le_trans (h1 _) (btw_flat_len l)
theorem rootJ_len (l : Bs) : (cleanL l).length ≤ 2 * l.length + 1 := by
  have h1 := fold_len (names l) []
  have h2 := fold_sum (names l) []
  have h3 := names_len l
  have h4 := names_sum l
  unfold cleanL rootJ
  split
  · simp
  · rw [flatS_len]
    unfold cleanNs
    simp at h1 h2
    omega
end PathM
namespace WdM
open PathM
set_option linter.unusedVariables false

/-- A part of a word. -/
inductive PT where
  | mk (kind : Int) (quoted : Bool) (text op : Bs) (word : List PT)
def PT.kind : PT → Int | .mk k _ _ _ _ => k
def PT.quoted : PT → Bool | .mk _ q _ _ _ => q
def PT.text : PT → Bs | .mk _ _ t _ _ => t
def PT.op : PT → Bs | .mk _ _ _ o _ => o
def PT.word : PT → List PT | .mk _ _ _ _ w => w
theorem PT.eta (p : PT) : PT.mk p.kind p.quoted p.text p.op p.word = p := by cases p; rfl

/-- What reading comes to: something, and what is left; or a fault: how much is left at its place, and its number. -/
inductive Rs (α : Type) where
  | ok (x : α) (rest : Bs)
  | bad (left : Nat) (e : Int)

/-- Parts so far. -/
structure Ga where
  ps : List PT
  tx : Bs
  op : Bool
  q : Bool
def Ga.empty : Ga := ⟨[], [], false, false⟩
def litP (q : Bool) (t : Bs) : PT := .mk 1 q t [] []
def Ga.close (g : Ga) : Ga := ⟨if g.op then g.ps ++ [litP g.q g.tx] else g.ps, [], false, g.q⟩
def Ga.add (g : Ga) (t : Bs) (q : Bool) : Ga :=
  let h := if g.q = q then g else g.close
  ⟨h.ps, h.tx ++ t, true, q⟩
def Ga.put (g : Ga) (p : PT) : Ga := { g.close with ps := g.close.ps ++ [p] }

def letter (c : UInt8) : Bool := (97 ≤ c && c ≤ 122) || (65 ≤ c && c ≤ 90) || c == 95
def digit (c : UInt8) : Bool := 48 ≤ c && c ≤ 57
def named (c : UInt8) : Bool := letter c || digit c
def metas : Bs := [32, 9, 10, 59, 38, 124, 60, 62, 40, 41]
def meta_ (c : UInt8) : Bool := metas.contains c
def signs : Bs := [64, 42, 35, 63]
def escD (c : UInt8) : Bool := [36, 34, 92, 96, 10].contains c
def leading (k : UInt8 → Bool) : Bs → Nat
  | [] => 0
  | c :: t => if k c then leading k t + 1 else 0
def isName (l : Bs) : Bool := !l.isEmpty && decide (l.length ≤ 64) && (match l with | [] => false | c :: _ => letter c) && decide (leading named l = l.length)

/-- Where a quote ends. -/
def quotedS (q : UInt8) : Bool → Bs → Option Nat
  | _, [] => none
  | true, _ :: t => (quotedS q false t).map (· + 1)
  | false, c :: t => if c = q then some 0 else if c = 92 ∧ q = 34 then (quotedS q true t).map (· + 1) else (quotedS q false t).map (· + 1)
/-- How many bytes stand ahead of the parenthesis that ends a text: q: the quote that is open (0: none), sk: the next byte is passed over, dp: parentheses that are open. -/
def insideS (q : UInt8) (sk : Bool) (dp : Nat) : Bs → Option Nat
  | [] => none
  | c :: t =>
    if sk then (insideS q false dp t).map (· + 1)
    else if q = 0 then
      if c = 92 then (insideS 0 true dp t).map (· + 1)
      else if c = 39 ∨ c = 34 then (insideS c false dp t).map (· + 1)
      else if c = 40 then (insideS 0 false (dp + 1) t).map (· + 1)
      else if c = 41 then (if dp = 0 then some 0 else (insideS 0 false (dp - 1) t).map (· + 1))
      else (insideS 0 false dp t).map (· + 1)
    else if c = 92 ∧ q = 34 then (insideS q true dp t).map (· + 1)
    else if c = q then (insideS 0 false dp t).map (· + 1)
    else (insideS q false dp t).map (· + 1)
def inside (l : Bs) : Option Nat := insideS 0 false 0 l

def stands (sign l : Bs) : Bool := sign.isPrefixOf l
def paramStands (l : Bs) : Bool := match l with
  | [] => false
  | c :: _ => named c || signs.contains c
def paramLen (l : Bs) : Nat := match l with
  | [] => 1
  | c :: _ => if letter c then leading named l else if digit c then leading digit l else 1
def param (l : Bs) : Rs Bs :=
  if paramStands l then if paramLen l ≤ 64 then .ok (l.take (paramLen l)) (l.drop (paramLen l)) else .bad l.length 61
  else .bad l.length 61
def ops : List Bs := [[58, 45], [58, 61], [58, 63], [58, 43], [37, 37], [35, 35], [45], [61], [63], [43], [37], [35]]
def opOf (l : Bs) : Bs := (ops.find? fun o => stands o l).getD []
def lengthStands (l : Bs) : Bool := match l with
  | 35 :: c :: _ => c != 125
  | _ => false
/-- Arithmetic: fl: what is left at its dollar. -/
def arithS (fl : Nat) (dp : Nat) (acc : Bs) : Bs → Rs Bs
  | [] => .bad fl 60
  | c :: t =>
    if [39, 34, 92, 96, 10].contains c then .bad (t.length + 1) 61
    else if c = 40 then arithS fl (dp + 1) (acc ++ [c]) t
    else if c = 41 then
      if 0 < dp then arithS fl (dp - 1) (acc ++ [c]) t
      else if stands [41] t then .ok acc (t.drop 1) else .bad (t.length + 1) 61
    else arithS fl dp (acc ++ [c]) t
def cmdS (fl : Nat) (l : Bs) : Rs Bs := match inside l with
  | none => .bad fl 60
  | some n => .ok (l.take n) (l.drop (n + 1))

/-- What reads the parts of braces. -/
abbrev Rec := Option (Bool → Bs → Rs (List PT))
def finish (fl : Nat) (p : PT) (l : Bs) : Rs PT := match l with
  | [] => .bad fl 60
  | c :: t => if c = 125 then .ok p t else .bad (t.length + 1) 61
def braces (rec : Rec) (fl : Nat) (qd : Bool) (l : Bs) : Rs PT :=
  match rec with
  | none => .bad fl 63
  | some parts =>
    if lengthStands l then match param (l.drop 1) with
      | .bad a e => .bad a e
      | .ok tx r => finish fl (.mk 2 false tx [108, 101, 110] []) r
    else match param l with
      | .bad a e => .bad a e
      | .ok tx r =>
        if opOf r = [] then finish fl (.mk 2 false tx [] []) r
        else match parts qd (r.drop (opOf r).length) with
          | .bad a e => .bad a e
          | .ok w r2 => finish fl (.mk 2 false tx (opOf r) w) r2
def PT.withQ (p : PT) (q : Bool) : PT := .mk p.kind q p.text p.op p.word
/-- What stands behind a dollar; none: nothing. -/
def dollarP (rec : Rec) (qd : Bool) (l : Bs) : Option (Rs PT) :=
  if stands [123] l then some (braces rec (l.length + 1) qd (l.drop 1))
  else if stands [40, 40] l then some (match arithS (l.length + 1) 0 [] (l.drop 2) with
    | .bad a e => .bad a e
    | .ok t r => .ok (.mk 4 false t [] []) r)
  else if stands [40] l then some (match cmdS (l.length + 1) (l.drop 1) with
    | .bad a e => .bad a e
    | .ok t r => .ok (.mk 3 false t [] []) r)
  else if (match l with | [] => false | c :: _ => digit c) then some (.ok (.mk 2 false (l.take 1) [] []) (l.drop 1))
  else if paramStands l then some (match param l with
    | .bad a e => .bad a e
    | .ok t r => .ok (.mk 2 false t [] []) r)
  else none
def dollar (rec : Rec) (g : Ga) (qd : Bool) (l : Bs) : Rs Ga := match dollarP rec qd l with
  | none => .ok (g.add [36] qd) l
  | some (.bad a e) => .bad a e
  | some (.ok p r) => .ok (g.put (p.withQ qd)) r
def escape (esc : UInt8 → Bool) (g : Ga) (l : Bs) : Rs Ga := match l with
  | [] => .bad 1 60
  | c :: t => if esc c then (if c = 10 then .ok g t else .ok (g.add [c] true) t) else .ok (g.add [92] true) (c :: t)
def piece (rec : Rec) (esc : UInt8 → Bool) (g : Ga) (qd : Bool) (l : Bs) : Rs Ga := match l with
  | [] => .bad 0 0
  | c :: t => if c = 92 then escape esc g t else if c = 36 then dollar rec g qd t else if c = 96 then .bad (t.length + 1) 61 else .ok (g.add [c] qd) t
/-- In double quotes; l: behind the first. n: at least as many as are left. -/
def dloop (rec : Rec) (fl : Nat) : Nat → Ga → Bs → Rs Ga
  | 0, _, _ => .bad fl 60
  | n + 1, g, l => match l with
    | [] => .bad fl 60
    | c :: t => if c = 34 then .ok g t else match piece rec escD g true (c :: t) with
      | .bad a e => .bad a e
      | .ok g' l' => dloop rec fl n g' l'
def double (rec : Rec) (g : Ga) (l : Bs) : Rs Ga := dloop rec (l.length + 1) (l.length + 1) (if stands [34] l then g.add [] true else g) l
def single (g : Ga) (l : Bs) : Rs Ga :=
  if Go.Lib.indexByte l 39 < 0 then .bad (l.length + 1) 60
  else .ok (g.add (l.take (Go.Lib.indexByte l 39).toNat) true) (l.drop ((Go.Lib.indexByte l 39).toNat + 1))
def step (rec : Rec) (g : Ga) (qd : Bool) (l : Bs) : Rs Ga := match l with
  | [] => .bad 0 0
  | c :: t => if c = 39 then single g t else if c = 34 then double rec g t else piece rec (fun _ => true) g qd (c :: t)
def ploop (rec : Rec) (ends : UInt8 → Bool) (qd : Bool) : Nat → Ga → Bs → Rs Ga
  | 0, g, l => .ok g l
  | n + 1, g, l => match l with
    | [] => .ok g []
    | c :: t => if ends c then .ok g (c :: t) else match step rec g qd (c :: t) with
      | .bad a e => .bad a e
      | .ok g' l' => ploop rec ends qd n g' l'
def partsR (rec : Rec) (ends : UInt8 → Bool) (qd : Bool) (l : Bs) : Rs (List PT) := match ploop rec ends qd (l.length + 1) .empty l with
  | .bad a e => .bad a e
  | .ok g r => .ok g.close.ps r
/-- What reads the parts of braces, of which so many more may stand within one another. -/
def recN : Nat → Rec
  | 0 => none
  | d + 1 => some fun qd l => partsR (recN d) (· == 125) qd l
def scan (l : Bs) : Rs (List PT) := partsR (recN 16) meta_ false l

end WdM
