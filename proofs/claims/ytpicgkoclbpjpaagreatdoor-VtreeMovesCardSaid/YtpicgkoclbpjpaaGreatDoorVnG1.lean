/- DERIVED. Stage 5, several texts in one: PathMath TreeMath TreeMath2 TPath TName. -/
import Derived.Lib.TrimByte
import Derived.Lib.Bytealg
import Derived.Lib.Join
import Derived.Lib.LastIndexByte
import Derived.Test.YtpicgkoclbpjpaaGreatDoorRows
import Derived.Test.YtpicgkoclbpjpaaGreatDoorShelf
import Derived.WalkKit
import Derived.WalkSpells
import Derived.WalkLawsBesides
import Derived.Lib.Hide
import Derived.Lib.Strings
import Derived.BigQuiet
import Derived.Deep.QuietTactic
import Derived.RegionTactic
import Derived.Laws.RangeAny
import Derived.Lib.DecodeN
import Derived.WalkMore
import Derived.Deep.LoopGhost
import Derived.Lib.IndexAny
import Derived.Lib.OthersKept
section
namespace PathM
set_option linter.unusedVariables false

abbrev Bs := List UInt8
def nm (l : Bs) : ByteArray := ⟨l.toArray⟩
theorem nm_data (l : Bs) : (nm l).data.toList = l := rfl
theorem nm_of (s : ByteArray) : nm s.data.toList = s := rfl
theorem nm_size (l : Bs) : (nm l).size = l.length := by simp [nm, ByteArray.size]

/-- What stands between a text's slashes. -/
def btw : Bs → List Bs
  | [] => [[]]
  | c :: l => if c = 47 then [] :: btw l else match btw l with
    | [] => [[c]]
    | h :: t => (c :: h) :: t

theorem btw_ne (l : Bs) : btw l ≠ [] := by
  cases l with
  | nil => simp [btw]
  | cons c l =>
    unfold btw
    split
    · simp
    · split <;> simp

theorem btw_snoc_slash (l : Bs) : btw (l ++ [47]) = btw l ++ [[]] := by
  induction l with
  | nil => simp [btw]
  | cons c l ih =>
    rw [List.cons_append]
    by_cases hc : c = 47
    · rw [btw, if_pos hc, ih, btw, if_pos hc]; rfl
    · rw [btw, if_neg hc, ih, btw, if_neg hc]
      cases hb : btw l with
      | nil => exact absurd hb (btw_ne l)
      | cons h t => rfl

theorem btw_snoc_other (l : Bs) (c : UInt8) (hc : c ≠ 47) : ∀ (ps : List Bs) (q : Bs), btw l = ps ++ [q] → btw (l ++ [c]) = ps ++ [q ++ [c]] := by
  induction l with
  | nil =>
    intro ps q h
    simp only [btw] at h
    cases ps with
    | nil => simp at h; subst h; simp [btw, hc]
    | cons a b => have := congrArg List.length h; simp at this
  | cons d l ih =>
    intro ps q h
    rw [List.cons_append]
    by_cases hd : d = 47
    · rw [btw, if_pos hd] at h ⊢
      cases ps with
      | nil => simp at h; exact absurd h.2 (btw_ne l)
      | cons a b =>
        rw [List.cons_append] at h
        obtain ⟨ha, hb⟩ := List.cons.inj h
        rw [ih b q hb, ha]; rfl
    · rw [btw, if_neg hd] at h ⊢
      cases hb : btw l with
      | nil => exact absurd hb (btw_ne l)
      | cons x t =>
        rw [hb] at h
        cases ps with
        | nil =>
          simp at h
          rw [ih [] x (by rw [hb, h.2]; rfl), ← h.1]
          rfl
        | cons a b =>
          rw [List.cons_append] at h
          obtain ⟨ha, hb'⟩ := List.cons.inj h
          rw [ih (x :: b) q (by rw [hb, hb']; rfl), ← ha]
          rfl

/-- Nothing between two slashes is longer than the whole, nor holds a slash. -/
theorem btw_noslash (l : Bs) : ∀ n ∈ btw l, 47 ∉ n := by
  induction l with
  | nil => simp [btw]
  | cons c l ih =>
    unfold btw
    split
    · intro n hn
      rcases List.mem_cons.1 hn with rfl | hn
      · simp
      · exact ih n hn
    · rename_i hc
      cases hb : btw l with
      | nil => exact absurd hb (btw_ne l)
      | cons h t =>
        intro n hn
        rw [hb] at ih
        rcases List.mem_cons.1 hn with rfl | hn
        · simp; exact ⟨fun e => hc e.symm, ih h (by simp)⟩
        · exact ih n (by simp [hn])

theorem btw_len (l : Bs) : (btw l).length ≤ l.length + 1 := by
  induction l with
  | nil => simp [btw]
  | cons c l ih =>
    unfold btw
    split
    · simp; exact ih
    · cases hb : btw l with
      | nil => simp
      | cons h t => rw [hb] at ih; simp at ih ⊢; omega

theorem btw_flat_len (l : Bs) : ((btw l).map List.length).sum ≤ l.length := by
  induction l with
  | nil => simp [btw]
  | cons c l ih =>
    unfold btw
    split
    · simp; omega
    · cases hb : btw l with
      | nil => simp
      | cons h t => rw [hb] at ih; simp at ih ⊢; omega

theorem mem_len (L : List Bs) : ∀ n ∈ L, n.length ≤ (L.map List.length).sum := by
  induction L with
  | nil => simp
  | cons a t ih =>
    intro n hn
    rcases List.mem_cons.1 hn with rfl | hn
    · simp
    · have := ih n hn; simp; omega

/-- The text ahead of the first slash, and behind it. -/
def bef (l : Bs) : Bs := l.takeWhile (· != 47)
def aft (l : Bs) : Bs := (l.dropWhile (· != 47)).drop 1

theorem aft_len (l : Bs) (h : l ≠ []) : (aft l).length < l.length := by
  unfold aft
  have : (l.dropWhile (· != 47)).length ≤ l.length := (List.dropWhile_suffix _).length_le
  have : 0 < l.length := List.length_pos_iff.2 h
  rw [List.length_drop]; omega
theorem aft_le (l : Bs) : (aft l).length ≤ l.length := by
  unfold aft
  have : (l.dropWhile (· != 47)).length ≤ l.length := (List.dropWhile_suffix _).length_le
  rw [List.length_drop]; omega
theorem bef_len (l : Bs) : (bef l).length ≤ l.length := (List.takeWhile_prefix _).length_le

theorem btw_split (l : Bs) : btw l = bef l :: (if 47 ∈ l then btw (aft l) else []) := by
  induction l with
  | nil => simp [btw, bef]
  | cons c l ih =>
    by_cases hc : c = 47
    · rw [btw, if_pos hc]; subst hc; simp [bef, aft]
    · rw [btw, if_neg hc, ih]
      have h1 : bef (c :: l) = c :: bef l := by simp [bef, hc]
      have h2 : aft (c :: l) = aft l := by simp [aft, hc]
      have h3 : (47 ∈ c :: l) = (47 ∈ l) := by simp; exact fun e => absurd e.symm hc
      rw [h1, h2]; simp only [h3]

theorem bef_none (l : Bs) (h : 47 ∉ l) : bef l = l ∧ aft l = [] := by
  induction l with
  | nil => simp [bef, aft]
  | cons c l ih =>
    simp at h
    have := ih h.2
    have hc : c ≠ 47 := fun e => h.1 e.symm
    simp only [bef, aft] at this ⊢
    simp [hc, this.1, this.2]

/-- A path's names: what stands between its slashes, what is empty left out. -/
def names (l : Bs) : List Bs := (btw l).filter (fun n => !n.isEmpty)

theorem names_nil : names [] = [] := by simp [names, btw]
theorem names_step (l : Bs) : names l = (if bef l = [] then [] else [bef l]) ++ names (aft l) := by
  unfold names
  rw [btw_split l, List.filter_cons]
  have e : ((if 47 ∈ l then btw (aft l) else []).filter fun n => !n.isEmpty) = (btw (aft l)).filter fun n => !n.isEmpty := by
    split
    · rfl
    · rename_i h; rw [(bef_none l h).2]; simp [btw]
  rw [e]
  cases hb : bef l <;> simp
theorem names_skip (l : Bs) (h : bef l = []) : names l = names (aft l) := by rw [names_step, if_pos h]; rfl
theorem names_take (l : Bs) (h : bef l ≠ []) : names l = bef l :: names (aft l) := by rw [names_step, if_neg h]; rfl
theorem names_mem {l n : Bs} (h : n ∈ names l) : n ∈ btw l ∧ n ≠ [] := by
  simp [names] at h; exact h
theorem names_len (l : Bs) : (names l).length ≤ l.length := by
  have h1 : ∀ L : List Bs, ((L.filter fun n => !n.isEmpty)).length ≤ (L.map List.length).sum := by
    intro L
    induction L with
    | nil => simp
    | cons a t ih =>
      rw [List.filter_cons]
      cases a with
      | nil => simpa using ih
      | cons x y => simp; omega
  exact Nat.le_trans (h1 _) (btw_flat_len l)
theorem name_le {l n : Bs} (h : n ∈ btw l) : n.length ≤ l.length := Nat.le_trans (mem_len _ n h) (btw_flat_len l)

/-- Cutting at the first slash, by its place. -/
theorem index_none (l : Bs) : Go.Lib.indexByte l 47 = -1 → 47 ∉ l := by
  induction l with
  | nil => simp
  | cons c l ih =>
    intro h
    unfold Go.Lib.indexByte at h
    have hge := Go.Lib.indexByte_ge l 47
    by_cases hc : c = 47
    · simp [hc] at h
    · have : (c == 47) = false := by simpa using hc
      rw [this] at h
      simp only [Bool.false_eq_true, if_false] at h
      split at h
      · rename_i h2; simp; exact ⟨fun e => hc e.symm, ih (by simpa using h2)⟩
      · rename_i h2; omega
theorem index_some (l : Bs) : ∀ i : Nat, Go.Lib.indexByte l 47 = i → bef l = l.take i ∧ aft l = l.drop (i + 1) ∧ i < l.length := by
  induction l with
  | nil => intro i h; simp [Go.Lib.indexByte] at h
  | cons c l ih =>
    intro i h
    unfold Go.Lib.indexByte at h
    have hge := Go.Lib.indexByte_ge l 47
    by_cases hc : c = 47
    · subst hc
      simp at h
      obtain rfl : i = 0 := by omega
      simp [bef, aft]
    · have : (c == 47) = false := by simpa using hc
      rw [this] at h
      simp only [Bool.false_eq_true, if_false] at h
      split at h
      · omega
      · rename_i h2
        have h2' : Go.Lib.indexByte l 47 ≠ -1 := by simpa using h2
        obtain ⟨j, hj⟩ : ∃ j : Nat, Go.Lib.indexByte l 47 = j := ⟨(Go.Lib.indexByte l 47).toNat, by omega⟩
        obtain rfl : i = j + 1 := by omega
        obtain ⟨a, b, d⟩ := ih j hj
        simp only [bef, aft] at a b ⊢
        simp [hc, a, b]; omega

/-- A path without the slashes at its end. -/
def bare (l : Bs) : Bs := Go.Lib.trimRightB l 47
theorem bare_snoc_slash (l : Bs) : bare (l ++ [47]) = bare l := by simp [bare, Go.Lib.trimRightB]
theorem bare_snoc_other (l : Bs) (c : UInt8) (h : c ≠ 47) : bare (l ++ [c]) = l ++ [c] := by simp [bare, Go.Lib.trimRightB, h]
theorem bare_nil : bare [] = [] := rfl
theorem bare_len (l : Bs) : (bare l).length ≤ l.length := by
  have : (l.reverse.dropWhile (· == 47)).length ≤ l.reverse.length := (List.dropWhile_suffix _).length_le
  simp [bare, Go.Lib.trimRightB] at this ⊢; exact this
theorem snoc_cases {α : Type} (l : List α) : l = [] ∨ ∃ t c, l = t ++ [c] := by
  rcases List.eq_nil_or_concat l with h | ⟨t, c, h⟩
  · exact .inl h
  · exact .inr ⟨t, c, by simpa using h⟩
theorem bare_bare (l : Bs) : bare (bare l) = bare l := by
  obtain ⟨n, hn⟩ : ∃ n, l.length = n := ⟨_, rfl⟩
  induction n generalizing l with
  | zero => obtain rfl := List.length_eq_zero_iff.1 hn; rfl
  | succ n ih =>
    rcases snoc_cases l with rfl | ⟨t, c, rfl⟩
    · rfl
    · by_cases h : c = 47
      · subst h; rw [bare_snoc_slash]; exact ih t (by simpa using hn)
      · rw [bare_snoc_other t c h, bare_snoc_other t c h]
/-- What bare leaves ends in no slash. -/
theorem bare_end (l t : Bs) (c : UInt8) (h : bare l = t ++ [c]) : c ≠ 47 := by
  intro hc
  subst hc
  have h2 := bare_bare l
  rw [h, bare_snoc_slash] at h2
  have := bare_len t
  rw [h2] at this; simp at this; omega
theorem bare_take (l : Bs) : ∃ k, k ≤ l.length ∧ bare l = l.take k ∧ ∀ j b, k ≤ j → l[j]? = some b → b = 47 := by
  obtain ⟨n, hn⟩ : ∃ n, l.length = n := ⟨_, rfl⟩
  induction n generalizing l with
  | zero => obtain rfl := List.length_eq_zero_iff.1 hn; exact ⟨0, by simp, rfl, by simp⟩
  | succ n ih =>
    rcases snoc_cases l with rfl | ⟨t, c, rfl⟩
    · exact ⟨0, by simp, rfl, by simp⟩
    · by_cases h : c = 47
      · subst h
        obtain ⟨k, hk, e, hj⟩ := ih t (by simpa using hn)
        refine ⟨k, by simp; omega, ?_, fun j b h1 h2 => ?_⟩
        · rw [bare_snoc_slash, e, List.take_append_of_le_length hk]
        · by_cases hlt : j < t.length
          · rw [List.getElem?_append_left hlt] at h2; exact hj j b h1 h2
          · rw [List.getElem?_append_right (by omega)] at h2
            have hj0 : j - t.length < 1 := by
              have := (List.getElem?_eq_some_iff.1 h2).1; simpa using this
            have : j - t.length = 0 := by omega
            rw [this] at h2; simpa using h2.symm
      · exact ⟨t.length + 1, by simp, by rw [bare_snoc_other t c h, List.take_of_length_le (by simp)], fun j b h1 h2 => by
          have := (List.getElem?_eq_some_iff.1 h2).1; simp at this; omega⟩

def joinL (d n : Bs) : Bs := bare d ++ 47 :: n
def absL (d p : Bs) : Bs := if p = [] ∨ p.head? = some 47 then p else joinL d p

/-- P3.1. -/
def nameB (l : Bs) : Bool := !l.isEmpty && decide (l.length ≤ 64) && !l.contains 47 && !l.contains 0 && l != [46] && l != [46, 46]

/-- P3.2. -/
def longIn (L : List Bs) : Bool := L.any fun n => decide (64 < n.length)
def faultN (l : Bs) : Nat := if l = [] then 20 else if 256 < l.length then 26 else if l.head? ≠ some 47 ∨ l.contains 0 = true then 28 else 0
def partsE (l : Bs) : Nat := if faultN l ≠ 0 then faultN l else if longIn (names l) = true then 26 else 0
def partsL (l : Bs) : List Bs := if partsE l = 0 then names l else []
def partsB (l : Bs) : Bool := if partsE l = 0 then (!(names l).isEmpty && (l.getLast? == some 47)) else false

theorem longIn_names (l : Bs) : longIn (names l) = longIn (btw l) := by
  have : ∀ L : List Bs, longIn (L.filter fun n => !n.isEmpty) = longIn L := by
    intro L
    induction L with
    | nil => rfl
    | cons a t ih =>
      rw [List.filter_cons]
      cases a with
      | nil => simp [longIn] at ih ⊢; exact ih
      | cons x y => simp [longIn] at ih ⊢; rw [ih]
  exact this _

/-- P3.4. -/
def stepC (acc : List Bs) (n : Bs) : List Bs := if n = [46] then acc else if n = [46, 46] then acc.dropLast else acc ++ [n]
def cleanNs (l : Bs) : List Bs := (names l).foldl stepC []
def flatS (ns : List Bs) : Bs := (ns.map (fun n => (47 : UInt8) :: n)).flatten
def rootJ (ns : List Bs) : Bs := if ns = [] then [47] else flatS ns
def cleanL (l : Bs) : Bs := rootJ (cleanNs l)

theorem flatS_snoc (ns : List Bs) (n : Bs) : flatS (ns ++ [n]) = flatS ns ++ 47 :: n := by simp [flatS]
theorem rootJ_join (ns : List Bs) : (47 : UInt8) :: Go.Lib.join ns [47] = rootJ ns := by
  unfold rootJ
  cases ns with
  | nil => simp [Go.Lib.join]
  | cons a t =>
    rw [if_neg (by simp)]
    unfold Go.Lib.join flatS
    induction t generalizing a with
    | nil => simp
    | cons b t ih =>
      have := ih b
      rw [show [47].intercalate (a :: b :: t) = a ++ ([47] ++ [47].intercalate (b :: t)) by simp [List.intercalate]]
      simp only [List.map_cons, List.flatten_cons, List.cons_append, List.nil_append] at this ⊢
      rw [this]

/-- The names that are left: none is empty, none is . or .., none holds a slash. -/
def Good (ns : List Bs) : Prop := ∀ n ∈ ns, n ≠ [] ∧ n ≠ [46] ∧ n ≠ [46, 46] ∧ 47 ∉ n
theorem good_step {acc : List Bs} {n : Bs} (h : Good acc) (hn : n ≠ []) (hs : 47 ∉ n) : Good (stepC acc n) := by
  unfold stepC
  split
  · exact h
  · split
    · exact fun m hm => h m (List.dropLast_subset _ hm)
    · intro m hm
      rcases List.mem_append.1 hm with hm | hm
      · exact h m hm
      · simp at hm; subst hm; exact ⟨hn, by assumption, by assumption, hs⟩
theorem good_fold (L acc : List Bs) (h : Good acc) (hL : ∀ n ∈ L, n ≠ [] ∧ 47 ∉ n) : Good (L.foldl stepC acc) := by
  induction L generalizing acc with
  | nil => exact h
  | cons a t ih =>
    rw [List.foldl_cons]
    exact ih _ (good_step h (hL a (by simp)).1 (hL a (by simp)).2) (fun n hn => hL n (by simp [hn]))
theorem good_clean (l : Bs) : Good (cleanNs l) :=
  good_fold _ _ (by intro n hn; cases hn) (fun n hn => ⟨(names_mem hn).2, btw_noslash l n (names_mem hn).1⟩)
theorem fold_good (L acc : List Bs) (h : Good L) : L.foldl stepC acc = acc ++ L := by
  induction L generalizing acc with
  | nil => simp
  | cons a t ih =>
    have ha := h a (by simp)
    rw [List.foldl_cons, ih _ (fun n hn => h n (by simp [hn]))]
    simp [stepC, ha.2.1, ha.2.2.1]
theorem fold_len (L acc : List Bs) : (L.foldl stepC acc).length ≤ acc.length + L.length := by
  induction L generalizing acc with
  | nil => simp
  | cons a t ih =>
    rw [List.foldl_cons]
    have := ih (stepC acc a)
    have h2 : (stepC acc a).length ≤ acc.length + 1 := by
      unfold stepC; split
      · omega
      · split
        · simp; omega
        · simp
    simp; omega
theorem fold_sum (L acc : List Bs) : ((L.foldl stepC acc).map List.length).sum ≤ (acc.map List.length).sum + (L.map List.length).sum := by
  induction L generalizing acc with
  | nil => simp
  | cons a t ih =>
    rw [List.foldl_cons]
    have := ih (stepC acc a)
    have h2 : ((stepC acc a).map List.length).sum ≤ (acc.map List.length).sum + a.length := by
      unfold stepC; split
      · omega
      · split
        · rcases snoc_cases acc with rfl | ⟨t', c, rfl⟩
          · simp
          · simp; omega
        · simp
    simp; omega

/-- The names of names that were joined. -/
theorem btw_app_slash (l : Bs) (n : Bs) (hn : 47 ∉ n) : btw (l ++ 47 :: n) = btw l ++ [n] := by
  obtain ⟨k, hk⟩ : ∃ k, n.length = k := ⟨_, rfl⟩
  induction k generalizing n with
  | zero => obtain rfl := List.length_eq_zero_iff.1 hk; exact btw_snoc_slash l
  | succ k ih =>
    rcases snoc_cases n with rfl | ⟨t, c, rfl⟩
    · exact btw_snoc_slash l
    · simp at hn
      have := btw_snoc_other (l ++ 47 :: t) c (fun e => hn.2 e.symm) (btw l) t (ih t (by simpa using hn.1) (by simpa using hk))
      simpa using this
theorem btw_flatS (ns : List Bs) (h : ∀ n ∈ ns, 47 ∉ n) : btw (flatS ns) = [] :: ns := by
  obtain ⟨k, hk⟩ : ∃ k, ns.length = k := ⟨_, rfl⟩
  induction k generalizing ns with
  | zero => obtain rfl := List.length_eq_zero_iff.1 hk; rfl
  | succ k ih =>
    rcases snoc_cases ns with rfl | ⟨t, c, rfl⟩
    · rfl
    · rw [flatS_snoc, btw_app_slash _ _ (h c (by simp)), ih t (fun n hn => h n (by simp [hn])) (by simpa using hk)]; rfl
theorem names_rootJ (ns : List Bs) (h : Good ns) : names (rootJ ns) = ns := by
  unfold rootJ
  split
  · rename_i e; subst e; simp [names, btw]
  · unfold names
    rw [btw_flatS ns (fun n hn => (h n hn).2.2.2), List.filter_cons]
    simp only [List.isEmpty_nil, Bool.not_true, Bool.false_eq_true, if_false]
    rw [List.filter_eq_self]
    intro n hn
    have := (h n hn).1
    cases n with
    | nil => exact absurd rfl this
    | cons _ _ => rfl
theorem clean_rootJ (ns : List Bs) (h : Good ns) : cleanL (rootJ ns) = rootJ ns := by
  unfold cleanL cleanNs
  rw [names_rootJ ns h, fold_good ns [] h]; rfl
theorem clean_clean (l : Bs) : cleanL (cleanL l) = cleanL l := clean_rootJ _ (good_clean l)

/-- The document's own loop over what stands between slashes. -/
def stepR (acc : List Bs) (n : Bs) : List Bs := if n = [] ∨ n = [46] then acc else if n ≠ [46, 46] then acc ++ [n] else acc.dropLast
theorem fold_stepR (L acc : List Bs) : L.foldl stepR acc = (L.filter fun n => !n.isEmpty).foldl stepC acc := by
  induction L generalizing acc with
  | nil => rfl
  | cons a t ih =>
    rw [List.foldl_cons, ih, List.filter_cons]
    cases a with
    | nil => simp [stepR]
    | cons x y =>
      simp only [List.isEmpty_cons, Bool.not_false, if_true, List.foldl_cons]
      congr 1
      unfold stepR stepC
      by_cases h1 : x :: y = [46]
      · simp [h1]
      · by_cases h2 : x :: y = [46, 46]
        · simp [h2]
        · simp [h1, h2]
theorem fold_btw (l : Bs) : (btw l).foldl stepR [] = cleanNs l := fold_stepR _ _

/-- P3.5: the last name, and what is ahead of it. -/
def seg (l : Bs) : Bs := (btw l).getLast (btw_ne l)
theorem seg_of {l : Bs} {ps : List Bs} {q : Bs} (h : btw l = ps ++ [q]) : seg l = q := by
  unfold seg; simp [h]
theorem seg_none (l : Bs) (h : 47 ∉ l) : seg l = l := by
  apply seg_of (ps := [])
  rw [btw_split, if_neg h, (bef_none l h).1]; rfl
theorem seg_slash (l n : Bs) (h : 47 ∉ n) : seg (l ++ 47 :: n) = n := seg_of (btw_app_slash l n h)
def baseL (l : Bs) : Bs := seg (bare l)
def headL (l : Bs) : Bs := l.take (l.length - (seg l).length)
def upL (l : Bs) : Bs := if headL (bare l) = [] then [46] else if bare (headL (bare l)) = [] then [47] else bare (headL (bare l))
theorem headL_none (l : Bs) (h : 47 ∉ l) : headL l = [] := by simp [headL, seg_none l h]
theorem headL_slash (l n : Bs) (h : 47 ∉ n) : headL (l ++ 47 :: n) = l ++ [47] := by
  unfold headL
  rw [seg_slash l n h]
  rw [show l ++ 47 :: n = (l ++ [47]) ++ n by simp]
  rw [List.take_append_of_le_length (by simp; omega), List.take_of_length_le (by simp; omega)]

/-- By the last slash's place. -/
theorem last_cases (s : ByteArray) : (Go.Lib.lastIndexByte s 47 = -1 ∧ 47 ∉ s.data.toList) ∨
    ∃ i : Nat, Go.Lib.lastIndexByte s 47 = i ∧ i < s.size ∧ s.data.toList = s.data.toList.take i ++ 47 :: s.data.toList.drop (i + 1) ∧ 47 ∉ s.data.toList.drop (i + 1) := by
  have hsz : s.size = s.data.toList.length := Array.length_toList.symm
  have hget : ∀ j, j < s.size → s.data[j]! = s.data.toList[j]! := by
    intro j hj
    have h1 : j < s.data.size := hj
    rw [getElem!_pos s.data j h1, getElem!_pos s.data.toList j (by simpa using h1)]
    simp
  rcases Go.Lib.lastIndexByte_spec s 47 with ⟨e, h⟩ | ⟨i, hi, e, hc, h⟩
  · refine .inl ⟨e, fun hm => ?_⟩
    obtain ⟨j, hj, he⟩ := List.mem_iff_getElem.1 hm
    have := h j (by omega)
    rw [hget j (by omega), getElem!_pos s.data.toList j hj, he] at this
    exact this rfl
  · refine .inr ⟨i, e, hi, ?_, fun hm => ?_⟩
    · have hi' : i < s.data.toList.length := by omega
      have hv : s.data.toList[i] = 47 := by
        rw [hget i hi, getElem!_pos s.data.toList i hi'] at hc
        apply UInt8.toNat_inj.1
        have : ((47 : UInt8).toNat : Int) = 47 := rfl
        omega
      exact (List.take_append_drop i s.data.toList).symm.trans (by rw [List.drop_eq_getElem_cons hi', hv])
    · obtain ⟨j, hj, he⟩ := List.mem_iff_getElem.1 hm
      rw [List.getElem_drop] at he
      rw [List.length_drop] at hj
      have := h (i + 1 + j) (by omega) (by omega)
      rw [hget _ (by omega), getElem!_pos s.data.toList _ (by omega), he] at this
      exact this rfl

/-- P3.6: a name behind a clean directory. -/
theorem flatS_end (ns : List Bs) (h : Good ns) (hne : ns ≠ []) : ∃ t c, flatS ns = t ++ [c] ∧ c ≠ 47 := by
  rcases snoc_cases ns with rfl | ⟨t, n, rfl⟩
  · exact absurd rfl hne
  · have hn := h n (by simp)
    rcases snoc_cases n with rfl | ⟨u, c, rfl⟩
    · exact absurd rfl hn.1
    · refine ⟨flatS t ++ 47 :: u, c, by rw [flatS_snoc]; simp, fun e => hn.2.2.2 (by simp [e])⟩
theorem bare_rootJ (ns : List Bs) (h : Good ns) : bare (rootJ ns) = flatS ns := by
  unfold rootJ
  split
  · rename_i e; subst e; rfl
  · rename_i hne
    obtain ⟨t, c, e, hc⟩ := flatS_end ns h hne
    rw [e, bare_snoc_other t c hc]
theorem join_rootJ (ns : List Bs) (n : Bs) (h : Good ns) : joinL (rootJ ns) n = rootJ (ns ++ [n]) := by
  unfold joinL
  rw [bare_rootJ ns h]
  unfold rootJ
  rw [if_neg (by simp), flatS_snoc]
theorem nameB_good {n : Bs} (h : nameB n = true) : n ≠ [] ∧ n ≠ [46] ∧ n ≠ [46, 46] ∧ 47 ∉ n := by
  simp [nameB] at h
  obtain ⟨⟨⟨⟨⟨h1, h2⟩, h3⟩, h4⟩, h5⟩, h6⟩ := h
  exact ⟨h1, h5, h6, h3⟩
theorem nameB_len {n : Bs} (h : nameB n = true) : n.length ≤ 64 := by
  simp [nameB] at h
  exact h.1.1.1.1.2
theorem good_snoc {ns : List Bs} {n : Bs} (h : Good ns) (hn : nameB n = true) : Good (ns ++ [n]) := by
  intro m hm
  rcases List.mem_append.1 hm with hm | hm
  · exact h m hm
  · simp at hm; subst hm; exact nameB_good hn
theorem base_join (ns : List Bs) (n : Bs) (h : Good ns) (hn : nameB n = true) : baseL (joinL (rootJ ns) n) = n := by
  rw [join_rootJ ns n h]
  unfold baseL
  rw [bare_rootJ _ (good_snoc h hn), flatS_snoc]
  exact seg_slash _ _ (nameB_good hn).2.2.2
theorem up_join (ns : List Bs) (n : Bs) (h : Good ns) (hn : nameB n = true) : upL (joinL (rootJ ns) n) = rootJ ns := by
  rw [join_rootJ ns n h]
  unfold upL
  rw [bare_rootJ _ (good_snoc h hn), flatS_snoc, headL_slash _ _ (nameB_good hn).2.2.2, bare_snoc_slash, if_neg (by simp)]
  have hb : bare (flatS ns) = flatS ns := by rw [← bare_rootJ ns h, bare_bare]
  rw [hb]
  unfold rootJ
  cases ns with
  | nil => simp [flatS]
  | cons a t => rw [if_neg (by simp [flatS]), if_neg (by simp)]
theorem clean_join (ns : List Bs) (n : Bs) (h : Good ns) (hn : nameB n = true) : cleanL (joinL (rootJ ns) n) = joinL (rootJ ns) n := by
  rw [join_rootJ ns n h]; exact clean_rootJ _ (good_snoc h hn)
theorem flatS_len (ns : List Bs) : (flatS ns).length = ns.length + (ns.map List.length).sum := by
  induction ns with
  | nil => rfl
  | cons a t ih => simp [flatS] at ih ⊢; omega
theorem names_sum (l : Bs) : ((names l).map List.length).sum ≤ l.length := by
  have h1 : ∀ L : List Bs, ((L.filter fun n => !n.isEmpty).map List.length).sum ≤ (L.map List.length).sum := by
    intro L
    induction L with
    | nil => simp
    | cons a t ih =>
      rw [List.filter_cons]
      cases a with
      | nil => simpa using ih
      | cons x y => simp; omega
  exact Nat.le_trans (h1 _) (btw_flat_len l)
theorem rootJ_len (l : Bs) : (cleanL l).length ≤ 2 * l.length + 1 := by
  have h1 := fold_len (names l) []
  have h2 := fold_sum (names l) []
  have h3 := names_len l
  have h4 := names_sum l
  unfold cleanL rootJ
  split
  · simp
  · rw [flatS_len]
    unfold cleanNs
    simp at h1 h2
    omega
end PathM
end

section
namespace TreeM
open PathM
set_option linter.unusedVariables false

structure Ent where
  key : Bs
  to : Int
deriving DecidableEq, Inhabited

structure Nd where
  id : Int
  kind : Int
  mode : Int
  owner : Int
  time : Int
  data : Bs
  es : List Ent
deriving DecidableEq, Inhabited

structure Tr where
  nodes : List Nd
  last : Int
  rn : Int
  rb : Int
deriving DecidableEq, Inhabited

/-- Does a thing hold of all numbers below k? -/
def allTo (p : Nat → Bool) : Nat → Bool
  | 0 => true
  | k + 1 => allTo p k && p k
theorem allTo_iff {p : Nat → Bool} {n : Nat} : allTo p n = true ↔ ∀ i, i < n → p i = true := by
  induction n with
  | zero => simp [allTo]
  | succ n ih =>
    rw [allTo, Bool.and_eq_true, ih]
    constructor
    · rintro ⟨h1, h2⟩ i hi
      by_cases e : i = n
      · subst e; exact h2
      · exact h1 i (by omega)
    · intro h; exact ⟨fun i hi => h i (by omega), h n (by omega)⟩
theorem allTo_not {p : Nat → Bool} {n i : Nat} (hi : i < n) (h : p i = false) : allTo p n = false := by
  cases e : allTo p n with
  | false => rfl
  | true => rw [allTo_iff.1 e i hi] at h; cases h
theorem allTo_succ {p : Nat → Bool} {k : Nat} (h : allTo p k = true) (hk : p k = true) : allTo p (k + 1) = true := by rw [allTo, h, hk]; rfl

def entAt (es : List Ent) (i : Nat) : Ent := es.getD i ⟨[], 0⟩
def ndAt (l : List Nd) (i : Nat) : Nd := l.getD i ⟨0, 0, 0, 0, 0, [], []⟩
theorem entAt_get {es : List Ent} {i : Nat} (h : i < es.length) : es[i]? = some (entAt es i) := by simp [entAt, h]
theorem ndAt_get {l : List Nd} {i : Nat} (h : i < l.length) : l[i]? = some (ndAt l i) := by simp [ndAt, h]
theorem entAt_mem {es : List Ent} {i : Nat} (h : i < es.length) : entAt es i ∈ es := List.mem_of_getElem? (entAt_get h)
theorem ndAt_mem {l : List Nd} {i : Nat} (h : i < l.length) : ndAt l i ∈ l := List.mem_of_getElem? (ndAt_get h)
theorem ent_of_mem {es : List Ent} {x : Ent} (h : x ∈ es) : ∃ i, i < es.length ∧ entAt es i = x := by
  obtain ⟨i, hi, e⟩ := List.getElem_of_mem h
  exact ⟨i, hi, by simp [entAt, hi, e]⟩
theorem nd_of_mem {l : List Nd} {x : Nd} (h : x ∈ l) : ∃ i, i < l.length ∧ ndAt l i = x := by
  obtain ⟨i, hi, e⟩ := List.getElem_of_mem h
  exact ⟨i, hi, by simp [ndAt, hi, e]⟩

/-- P4.2: entries. -/
def okEnt (es : List Ent) (i : Nat) : Bool := nameB (entAt es i).key && (i == 0 || decide ((entAt es (i - 1)).key < (entAt es i).key))
def entsB (es : List Ent) : Bool := allTo (okEnt es) es.length

/-- A node may be. -/
def plainB (n : Nd) : Bool :=
  decide (0 ≤ n.mode ∧ n.mode ≤ 511 ∧ 0 ≤ n.owner ∧ n.owner ≤ 65535 ∧ 0 ≤ n.time ∧ n.time ≤ 1099511627776) &&
  (if n.kind = 1 then decide (n.data = []) && entsB n.es
   else if n.kind = 2 then decide (n.data.length ≤ 4096) && decide (n.es = [])
   else if n.kind = 3 then decide (n.data ≠ []) && decide (n.data.length ≤ 256) && !n.data.contains 0 && decide (n.es = [])
   else false)

/-- The numbers of nodes rise. -/
def okNum (l : List Nd) (last : Int) (i : Nat) : Bool := decide ((ndAt l i).id ≤ last) && (i == 0 || decide ((ndAt l (i - 1)).id < (ndAt l i).id))
def numB (t : Tr) : Bool := decide (1 ≤ t.nodes.length ∧ t.nodes.length ≤ 512 ∧ (ndAt t.nodes 0).id = 1 ∧ (ndAt t.nodes 0).kind = 1) && allTo (okNum t.nodes t.last) t.nodes.length
def nodesB (l : List Nd) : Bool := allTo (fun i => plainB (ndAt l i)) l.length

theorem rise_of {α : Type} {r : α → α → Prop} (f : Nat → α) (n : Nat) (trans : ∀ a b c, r a b → r b c → r a c) (adj : ∀ i, i + 1 < n → r (f i) (f (i + 1))) :
    ∀ i j, i < j → j < n → r (f i) (f j) := by
  intro i j hij
  obtain ⟨d, rfl⟩ : ∃ d, j = i + 1 + d := ⟨j - (i + 1), by omega⟩
  clear hij
  induction d with
  | zero => intro h; exact adj i h
  | succ d ih => intro h; exact trans _ _ _ (ih (by omega)) (adj (i + 1 + d) (by omega))

def Rising (l : List Nd) : Prop := ∀ i j, i < j → j < l.length → (ndAt l i).id < (ndAt l j).id
theorem rising_of_ok {l : List Nd} {last : Int} (h : allTo (okNum l last) l.length = true) : Rising l := by
  refine rise_of (r := (· < ·)) (fun i => (ndAt l i).id) l.length (fun a b c => Int.lt_trans) (fun i hi => ?_)
  have := allTo_iff.1 h (i + 1) hi
  simp [okNum] at this
  exact this.2
theorem Rising.inj {l : List Nd} (h : Rising l) {i j : Nat} (hi : i < l.length) (hj : j < l.length) (e : (ndAt l i).id = (ndAt l j).id) : i = j := by
  rcases Nat.lt_trichotomy i j with hlt | rfl | hlt
  · have := h i j hlt hj; omega
  · rfl
  · have := h j i hlt hi; omega

def Sorted (es : List Ent) : Prop := ∀ i j, i < j → j < es.length → (entAt es i).key < (entAt es j).key
theorem bs_trans (a b c : Bs) (h1 : a < b) (h2 : b < c) : a < c := List.lt_trans h1 h2
theorem bs_irrefl (a : Bs) : ¬ a < a := List.lt_irrefl a
theorem bs_tri (a b : Bs) : a < b ∨ a = b ∨ b < a := by
  by_cases h1 : a < b
  · exact .inl h1
  · by_cases h2 : b < a
    · exact .inr (.inr h2)
    · exact .inr (.inl (List.le_antisymm (List.not_lt.1 h2) (List.not_lt.1 h1)))
theorem sorted_of_ents {es : List Ent} (h : entsB es = true) : Sorted es := by
  refine rise_of (r := (· < ·)) (fun i => (entAt es i).key) es.length bs_trans (fun i hi => ?_)
  have := allTo_iff.1 h (i + 1) hi
  simp [okEnt] at this
  exact this.2
theorem name_of_ents {es : List Ent} (h : entsB es = true) {x : Ent} (hx : x ∈ es) : nameB x.key = true := by
  obtain ⟨i, hi, rfl⟩ := ent_of_mem hx
  have := allTo_iff.1 h i hi
  simp only [okEnt, Bool.and_eq_true] at this
  exact this.1
theorem Sorted.inj {l : List Ent} (h : Sorted l) {i j : Nat} (hi : i < l.length) (hj : j < l.length) (e : (entAt l i).key = (entAt l j).key) : i = j := by
  rcases Nat.lt_trichotomy i j with hlt | rfl | hlt
  · have := h i j hlt hj; rw [e] at this; exact absurd this (bs_irrefl _)
  · rfl
  · have := h j i hlt hi; rw [e] at this; exact absurd this (bs_irrefl _)

/-- Where a number's node stands; the length: nowhere. -/
def place (l : List Nd) (id : Int) : Nat := l.findIdx fun n => n.id == id
theorem place_le (l : List Nd) (id : Int) : place l id ≤ l.length := List.findIdx_le_length
theorem place_id {l : List Nd} {id : Int} (h : place l id < l.length) : (ndAt l (place l id)).id = id := by
  have := List.findIdx_getElem (w := h)
  have e : ndAt l (place l id) = l[place l id] := by simp [ndAt, h]
  rw [e]; exact eq_of_beq this
theorem place_lt {l : List Nd} {id : Int} {i : Nat} (hi : i < l.length) (e : (ndAt l i).id = id) : place l id < l.length :=
  List.findIdx_lt_length_of_exists ⟨ndAt l i, ndAt_mem hi, by simp [e]⟩
theorem place_before {l : List Nd} {id : Int} {i : Nat} (h : i < place l id) : (ndAt l i).id ≠ id := by
  have h2 := List.not_of_lt_findIdx h
  have hl : i < l.length := Nat.lt_of_lt_of_le h (place_le l id)
  simpa [ndAt, hl] using h2
theorem place_eq {l : List Nd} {id : Int} {i : Nat} (hi : i < l.length) (e : (ndAt l i).id = id) (hb : ∀ j, j < i → (ndAt l j).id ≠ id) : place l id = i := by
  rcases Nat.lt_trichotomy (place l id) i with h | h | h
  · exact absurd (place_id (by omega)) (hb _ h)
  · exact h
  · exact absurd e (place_before h)
theorem place_none {l : List Nd} {id : Int} (h : ∀ i, i < l.length → (ndAt l i).id ≠ id) : place l id = l.length := by
  have := place_le l id
  rcases Nat.lt_or_ge (place l id) l.length with h1 | h1
  · exact absurd (place_id h1) (h _ h1)
  · omega
theorem Rising.place {l : List Nd} (h : Rising l) {i : Nat} (hi : i < l.length) : place l (ndAt l i).id = i :=
  h.inj (place_lt hi rfl) hi (place_id (place_lt hi rfl))

/-- Counting over a boundary. -/
theorem cnt_succ (q : Nat → Bool) (n : Nat) : (List.range (n + 1)).countP q = (List.range n).countP q + (if q n = true then 1 else 0) := by
  rw [List.range_succ, List.countP_append]; simp [List.countP_cons]
theorem cnt_le (q : Nat → Bool) (n : Nat) : (List.range n).countP q ≤ n := by
  have := List.countP_le_length (p := q) (l := List.range n); simpa using this
theorem cnt_spec (q : Nat → Bool) : ∀ n, (∀ a b, a ≤ b → b < n → q b = true → q a = true) →
    (∀ i, i < (List.range n).countP q → q i = true) ∧ (∀ i, (List.range n).countP q ≤ i → i < n → q i = false) := by
  intro n
  induction n with
  | zero => intro _; simp
  | succ n ih =>
    intro h
    obtain ⟨h1, h2⟩ := ih (fun a b hab hb => h a b hab (by omega))
    have hle := cnt_le q n
    rw [cnt_succ]
    cases hq : q n with
    | true =>
      have hall : ∀ a, a ≤ n → q a = true := fun a ha => h a n ha (by omega) hq
      have : (List.range n).countP q = n := by
        rcases Nat.lt_or_ge ((List.range n).countP q) n with hlt | hge
        · have := h2 _ (Nat.le_refl _) hlt; rw [hall _ (by omega)] at this; cases this
        · omega
      simp only [if_true, this]
      exact ⟨fun i hi => hall i (by omega), fun i h3 h4 => by omega⟩
    | false =>
      simp only [Bool.false_eq_true, if_false, Nat.add_zero]
      refine ⟨h1, fun i h3 h4 => ?_⟩
      by_cases e : i = n
      · subst e; exact hq
      · exact h2 i h3 (by omega)

/-- What the code's search finds among nodes: how many have a lesser number. -/
def low (l : List Nd) (id : Int) : Nat := (List.range l.length).countP fun i => !decide (id ≤ (ndAt l i).id)
theorem low_le (l : List Nd) (id : Int) : low l id ≤ l.length := cnt_le _ _
theorem low_mono {l : List Nd} (h : Rising l) (id : Int) : ∀ a b, a ≤ b → b < l.length → (!decide (id ≤ (ndAt l b).id)) = true → (!decide (id ≤ (ndAt l a).id)) = true := by
  intro a b hab hb hq
  simp at hq ⊢
  by_cases e : a = b
  · subst e; exact hq
  · have := h a b (by omega) hb; omega
theorem low_spec {l : List Nd} (h : Rising l) (id : Int) : (∀ i, i < low l id → (ndAt l i).id < id) ∧ (∀ i, low l id ≤ i → i < l.length → id ≤ (ndAt l i).id) := by
  obtain ⟨h1, h2⟩ := cnt_spec (fun i => !decide (id ≤ (ndAt l i).id)) l.length (low_mono h id)
  exact ⟨fun i hi => by simpa using h1 i hi, fun i h3 h4 => by simpa using h2 i h3 h4⟩
/-- What find answers: the place, and whether it is there. -/
theorem low_place {l : List Nd} (h : Rising l) (id : Int) : (low l id < l.length ∧ (ndAt l (low l id)).id = id) ↔ place l id < l.length := by
  constructor
  · rintro ⟨h1, h2⟩; exact place_lt h1 h2
  · intro hp
    obtain ⟨h1, h2⟩ := low_spec h id
    have he := place_id hp
    have hle : low l id ≤ place l id := by
      rcases Nat.lt_or_ge (place l id) (low l id) with hlt | hge
      · have := h1 _ hlt; omega
      · exact hge
    have hlt : low l id < l.length := by omega
    refine ⟨hlt, ?_⟩
    have h3 := h2 _ (Nat.le_refl _) hlt
    by_cases e : low l id = place l id
    · rw [e]; exact he
    · have := h (low l id) (place l id) (by omega) hp; omega
theorem low_eq {l : List Nd} (h : Rising l) {id : Int} (hp : place l id < l.length) : low l id = place l id := by
  obtain ⟨h1, h2⟩ := (low_place h id).2 hp
  exact h.inj h1 hp (h2.trans (place_id hp).symm)

/-- The entry of a name. -/
def childO (es : List Ent) (key : Bs) : Option Int := (es.find? fun x => x.key == key).map (·.to)
def klow (es : List Ent) (key : Bs) : Nat := (List.range es.length).countP fun i => !(!decide ((entAt es i).key < key))
theorem klow_le (es : List Ent) (key : Bs) : klow es key ≤ es.length := cnt_le _ _
theorem klow_mono {es : List Ent} (h : Sorted es) (key : Bs) : ∀ a b, a ≤ b → b < es.length → (!(!decide ((entAt es b).key < key))) = true → (!(!decide ((entAt es a).key < key))) = true := by
  intro a b hab hb hq
  simp at hq ⊢
  by_cases e : a = b
  · subst e; exact hq
  · exact bs_trans _ _ _ (h a b (by omega) hb) hq
theorem klow_spec {es : List Ent} (h : Sorted es) (key : Bs) : (∀ i, i < klow es key → (entAt es i).key < key) ∧ (∀ i, klow es key ≤ i → i < es.length → ¬ (entAt es i).key < key) := by
  obtain ⟨h1, h2⟩ := cnt_spec (fun i => !(!decide ((entAt es i).key < key))) es.length (klow_mono h key)
  exact ⟨fun i hi => by simpa using h1 i hi, fun i h3 h4 => by simpa using h2 i h3 h4⟩
theorem childO_at {es : List Ent} (h : Sorted es) {i : Nat} (hi : i < es.length) : childO es (entAt es i).key = some (entAt es i).to := by
  unfold childO
  have hf : es.find? (fun x => x.key == (entAt es i).key) = some (entAt es i) := by
    rw [List.find?_eq_some_iff_getElem]
    refine ⟨by simp, i, hi, by simp [entAt, hi], fun j hj => ?_⟩
    have := h j i hj hi
    have hne : (entAt es j).key ≠ (entAt es i).key := fun e => by rw [e] at this; exact bs_irrefl _ this
    have hjl : j < es.length := by omega
    simpa [entAt, hjl] using hne
  rw [hf]; rfl
theorem childO_mem {es : List Ent} (h : Sorted es) {x : Ent} (hx : x ∈ es) : childO es x.key = some x.to := by
  obtain ⟨i, hi, rfl⟩ := ent_of_mem hx
  exact childO_at h hi
theorem klow_child {es : List Ent} (h : Sorted es) (key : Bs) :
    childO es key = if klow es key = es.length ∨ (entAt es (klow es key)).key ≠ key then none else some (entAt es (klow es key)).to := by
  obtain ⟨h1, h2⟩ := klow_spec h key
  have hle := klow_le es key
  split
  · rename_i hc
    unfold childO
    have : es.find? (fun x => x.key == key) = none := by
      rw [List.find?_eq_none]
      intro x hx
      obtain ⟨j, hj, rfl⟩ := ent_of_mem hx
      intro he
      have he : (entAt es j).key = key := by simpa using he
      rcases Nat.lt_or_ge j (klow es key) with hlt | hge
      · have := h1 j hlt; rw [he] at this; exact bs_irrefl _ this
      · have hlt : klow es key < es.length := by omega
        have hne := (hc.resolve_left (by omega))
        have h3 := h2 _ (Nat.le_refl _) hlt
        by_cases e : klow es key = j
        · rw [e] at hne; exact hne he
        · have := h (klow es key) j (by omega) hj
          rw [he] at this; exact h3 this
    rw [this]; rfl
  · rename_i hc
    have hlt : klow es key < es.length := by
      rcases Nat.lt_or_ge (klow es key) es.length with h | h
      · exact h
      · exact absurd (.inl (by omega)) hc
    have he : (entAt es (klow es key)).key = key := by
      by_cases e : (entAt es (klow es key)).key = key
      · exact e
      · exact absurd (.inr e) hc
    have := childO_at h hlt
    rw [he] at this; exact this

/-- All entries; how many lead to a number. -/
def flat (l : List Nd) : List Ent := l.flatMap Nd.es
def links (l : List Nd) (id : Int) : Nat := (flat l).countP fun x => x.to == id
theorem flat_mem {l : List Nd} {x : Ent} : x ∈ flat l ↔ ∃ i, i < l.length ∧ x ∈ (ndAt l i).es := by
  unfold flat
  rw [List.mem_flatMap]
  constructor
  · rintro ⟨n, hn, hx⟩
    obtain ⟨i, hi, rfl⟩ := nd_of_mem hn
    exact ⟨i, hi, hx⟩
  · rintro ⟨i, hi, hx⟩
    exact ⟨_, ndAt_mem hi, hx⟩
theorem links_pos {l : List Nd} {x : Ent} (h : x ∈ flat l) : 0 < links l x.to := List.countP_pos_iff.2 ⟨x, h, by simp⟩
theorem links_zero {l : List Nd} {id : Int} (h : ∀ x ∈ flat l, x.to ≠ id) : links l id = 0 := by
  unfold links; rw [List.countP_eq_zero]; intro x hx; simpa using h x hx
theorem flat_take_succ (l : List Nd) (i : Nat) (h : i < l.length) : flat (l.take (i + 1)) = flat (l.take i) ++ (ndAt l i).es := by
  unfold flat
  rw [List.take_succ_eq_append_getElem h, List.flatMap_append]
  simp [ndAt, h]
theorem flat_all (l : List Nd) (i : Nat) (h : l.length ≤ i) : flat (l.take i) = flat l := by rw [List.take_of_length_le h]

/-- What led asks of an entry. -/
def okLed (l : List Nd) (x : Ent) : Bool := decide (place l x.to < l.length) && (x.to != 1) && ((ndAt l (place l x.to)).kind != 1 || decide (links l x.to ≤ 1))
def ledB (l : List Nd) : Bool := (flat l).all (okLed l)
theorem led_mem {l : List Nd} (h : ledB l = true) {x : Ent} (hx : x ∈ flat l) : place l x.to < l.length ∧ x.to ≠ 1 ∧ ((ndAt l (place l x.to)).kind = 1 → links l x.to ≤ 1) := by
  have := List.all_eq_true.1 h x hx
  simp only [okLed, Bool.and_eq_true, decide_eq_true_eq, bne_iff_ne, Bool.or_eq_true] at this
  exact ⟨this.1.1, this.1.2, fun hk => this.2.resolve_left (fun h => h hk)⟩

/-- The way through a tree: where a node is first met: its place, behind which meeting, under which name; its number, and the path. -/
structure Item where
  node : Nat
  fr : Nat
  name : Bs
  id : Int
  path : Bs
deriving DecidableEq, Inhabited

def met (l : List Item) (id : Int) : Bool := l.any fun m => m.id == id
def dfs (nodes : List Nd) : Nat → Int → Nat → Bs → Bs → List Item → List Item
  | 0, _, _, _, _, l => l
  | f + 1, id, fr, name, path, l =>
    if met l id = true then l else if nodes.length ≤ place nodes id then l else
      (ndAt nodes (place nodes id)).es.foldl (fun l' x => dfs nodes f x.to l.length x.key (joinL path x.key) l') (l ++ [⟨place nodes id, fr, name, id, path⟩])
/-- The entries of a node, one behind the other. -/
def dfsL (nodes : List Nd) (f : Nat) (here : Nat) (path : Bs) (es : List Ent) (l : List Item) : List Item :=
  es.foldl (fun l' x => dfs nodes f x.to here x.key (joinL path x.key) l') l
theorem dfs_met {nodes : List Nd} {f : Nat} {id : Int} {fr : Nat} {name path : Bs} {l : List Item} (h : met l id = true) : dfs nodes f id fr name path l = l := by
  cases f with
  | zero => rfl
  | succ f => rw [dfs, if_pos h]
theorem dfs_out {nodes : List Nd} {f : Nat} {id : Int} {fr : Nat} {name path : Bs} {l : List Item} (h : nodes.length ≤ place nodes id) : dfs nodes f id fr name path l = l := by
  cases f with
  | zero => rfl
  | succ f =>
    rw [dfs]; split
    · rfl
    · first | rfl | rw [if_pos h]
theorem dfs_new {nodes : List Nd} {f : Nat} {id : Int} {fr : Nat} {name path : Bs} {l : List Item} (h : met l id = false) (hp : place nodes id < nodes.length) :
    dfs nodes (f + 1) id fr name path l = dfsL nodes f l.length path (ndAt nodes (place nodes id)).es (l ++ [⟨place nodes id, fr, name, id, path⟩]) := by
  rw [dfs, if_neg (by rw [h]; simp), if_neg (by omega)]; rfl
theorem dfsL_nil {nodes : List Nd} {f here : Nat} {path : Bs} {l : List Item} : dfsL nodes f here path [] l = l := rfl
theorem dfsL_cons {nodes : List Nd} {f here : Nat} {path : Bs} {x : Ent} {es : List Ent} {l : List Item} :
    dfsL nodes f here path (x :: es) l = dfsL nodes f here path es (dfs nodes f x.to here x.key (joinL path x.key) l) := rfl
theorem dfsL_snoc {nodes : List Nd} {f here : Nat} {path : Bs} {x : Ent} {es : List Ent} {l : List Item} :
    dfsL nodes f here path (es ++ [x]) l = dfs nodes f x.to here x.key (joinL path x.key) (dfsL nodes f here path es l) := by
  unfold dfsL; rw [List.foldl_append]; rfl
theorem dfsL_take {nodes : List Nd} {f here : Nat} {path : Bs} {es : List Ent} {l : List Item} {k : Nat} (h : k < es.length) :
    dfsL nodes f here path (es.take (k + 1)) l = dfs nodes f (entAt es k).to here (entAt es k).key (joinL path (entAt es k).key) (dfsL nodes f here path (es.take k) l) := by
  rw [List.take_succ_eq_append_getElem h, dfsL_snoc]; simp [entAt, h]

/-- Whatever a step keeps, the way keeps. -/
theorem dfs_keeps {nodes : List Nd} (R : List Item → List Item → Prop) (refl : ∀ l, R l l) (trans : ∀ a b c, R a b → R b c → R a c)
    (add : ∀ l it, met l it.id = false → place nodes it.id < nodes.length → it.node = place nodes it.id → R l (l ++ [it])) :
    ∀ f id fr name path l, R l (dfs nodes f id fr name path l) := by
  intro f
  induction f with
  | zero => intro id fr name path l; exact refl l
  | succ f ih =>
    intro id fr name path l
    cases hm : met l id with
    | true => rw [dfs_met hm]; exact refl l
    | false =>
      rcases Nat.lt_or_ge (place nodes id) nodes.length with hp | hp
      · rw [dfs_new hm hp]
        refine trans _ _ _ (add l ⟨place nodes id, fr, name, id, path⟩ hm hp rfl) ?_
        generalize (l ++ [⟨place nodes id, fr, name, id, path⟩]) = l1
        generalize (ndAt nodes (place nodes id)).es = es
        generalize l.length = here
        induction es generalizing l1 with
        | nil => exact refl _
        | cons x es ihe => rw [dfsL_cons]; exact trans _ _ _ (ih _ _ _ _ _) (ihe _)
      · rw [dfs_out hp]; exact refl l
theorem dfsL_keeps {nodes : List Nd} (R : List Item → List Item → Prop) (refl : ∀ l, R l l) (trans : ∀ a b c, R a b → R b c → R a c)
    (add : ∀ l it, met l it.id = false → place nodes it.id < nodes.length → it.node = place nodes it.id → R l (l ++ [it])) (f here : Nat) (path : Bs) (es : List Ent) :
    ∀ l, R l (dfsL nodes f here path es l) := by
  induction es with
  | nil => intro l; exact refl l
  | cons x es ih => intro l; rw [dfsL_cons]; exact trans _ _ _ (dfs_keeps R refl trans add _ _ _ _ _ _) (ih _)

theorem dfs_prefix (nodes : List Nd) (f : Nat) (id : Int) (fr : Nat) (name path : Bs) (l : List Item) : l <+: dfs nodes f id fr name path l :=
  dfs_keeps (fun a b => a <+: b) (fun l => List.prefix_refl l) (fun a b c h1 h2 => h1.trans h2) (fun l it _ _ _ => List.prefix_append l [it]) f id fr name path l
theorem dfsL_prefix (nodes : List Nd) (f here : Nat) (path : Bs) (es : List Ent) (l : List Item) : l <+: dfsL nodes f here path es l :=
  dfsL_keeps (fun a b => a <+: b) (fun l => List.prefix_refl l) (fun a b c h1 h2 => h1.trans h2) (fun l it _ _ _ => List.prefix_append l [it]) f here path es l

theorem met_append (l m : List Item) (id : Int) : met (l ++ m) id = (met l id || met m id) := by unfold met; rw [List.any_append]
theorem met_mono {l m : List Item} (h : l <+: m) {id : Int} (hm : met l id = true) : met m id = true := by
  obtain ⟨t, rfl⟩ := h; rw [met_append, hm]; rfl
theorem met_iff {l : List Item} {id : Int} : met l id = true ↔ ∃ m ∈ l, m.id = id := by unfold met; rw [List.any_eq_true]; simp

/-- How many nodes were not met yet. -/
def unmet (nodes : List Nd) (l : List Item) : Nat := nodes.countP fun n => !met l n.id
theorem unmet_mono (nodes : List Nd) {l m : List Item} (h : l <+: m) : unmet nodes m ≤ unmet nodes l := by
  unfold unmet
  refine List.countP_mono_left (fun n _ hn => ?_)
  cases e : met l n.id with
  | false => rfl
  | true => rw [met_mono h e] at hn; exact hn
theorem countP_strict {α : Type} {p q : α → Bool} : ∀ (l : List α), (∀ x ∈ l, q x = true → p x = true) → (∃ x ∈ l, p x = true ∧ q x = false) → l.countP q < l.countP p
  | [], _, ⟨x, hx, _⟩ => by simp at hx
  | a :: t, hm, ⟨x, hx, hp, hq⟩ => by
    have hle : t.countP q ≤ t.countP p := List.countP_mono_left (fun y hy => hm y (List.mem_cons_of_mem a hy))
    rw [List.countP_cons, List.countP_cons]
    rcases List.mem_cons.1 hx with rfl | hx
    · rw [hp, hq]; simp; omega
    · have := countP_strict t (fun y hy => hm y (List.mem_cons_of_mem a hy)) ⟨x, hx, hp, hq⟩
      have h2 := hm a (by simp)
      cases ea : q a with
      | false => simp; omega
      | true => rw [h2 ea]; simp; omega
theorem unmet_add {nodes : List Nd} {l : List Item} {it : Item} (hm : met l it.id = false) (hp : place nodes it.id < nodes.length) : unmet nodes (l ++ [it]) < unmet nodes l := by
  refine countP_strict nodes (fun n _ hn => ?_) ⟨ndAt nodes (place nodes it.id), ndAt_mem hp, ?_, ?_⟩
  · rw [met_append] at hn
    cases e : met l n.id with
    | false => rfl
    | true => rw [e] at hn; exact hn
  · rw [place_id hp, hm]; rfl
  · rw [place_id hp, met_append]; simp [met]
theorem unmet_nil (nodes : List Nd) : unmet nodes [] = nodes.length := by
  unfold unmet met; rw [List.countP_eq_length.2]; simp
theorem unmet_zero {nodes : List Nd} {l : List Item} (h : unmet nodes l = 0) {id : Int} (hp : place nodes id < nodes.length) : met l id = true := by
  have := List.countP_eq_zero.1 h _ (ndAt_mem hp)
  rw [place_id hp] at this
  simpa using this

def way (nodes : List Nd) : List Item := dfs nodes nodes.length 1 0 [] [47] []
def reachedB (nodes : List Nd) : Bool := (way nodes).length == nodes.length
def checkB (t : Tr) : Bool := numB t && nodesB t.nodes && ledB t.nodes && reachedB t.nodes

/-- What stands on the way: each node once, each at its place. -/
structure Wy (nodes : List Nd) (l : List Item) : Prop where
  ids : (l.map Item.id).Nodup
  at_ : ∀ m ∈ l, place nodes m.id < nodes.length ∧ m.node = place nodes m.id
theorem Wy.add {nodes : List Nd} {l : List Item} {it : Item} (h : Wy nodes l) (hm : met l it.id = false) (hp : place nodes it.id < nodes.length) (hn : it.node = place nodes it.id) : Wy nodes (l ++ [it]) := by
  refine ⟨?_, fun m hmem => ?_⟩
  · rw [List.map_append, List.map_singleton, List.nodup_append]
    refine ⟨h.ids, by simp, fun a ha b hb => ?_⟩
    obtain ⟨m, hmem, rfl⟩ := List.mem_map.1 ha
    obtain rfl := List.mem_singleton.1 hb
    intro e
    have := met_iff.2 ⟨m, hmem, e⟩
    rw [hm] at this; cases this
  · rcases List.mem_append.1 hmem with h1 | h1
    · exact h.at_ m h1
    · obtain rfl := List.mem_singleton.1 h1; exact ⟨hp, hn⟩
theorem dfs_wy (nodes : List Nd) (f : Nat) (id : Int) (fr : Nat) (name path : Bs) (l : List Item) (h : Wy nodes l) : Wy nodes (dfs nodes f id fr name path l) :=
  dfs_keeps (fun a b => Wy nodes a → Wy nodes b) (fun _ h => h) (fun _ _ _ h1 h2 h => h2 (h1 h)) (fun l it hm hp hn h => h.add hm hp hn) f id fr name path l h
theorem way_wy (nodes : List Nd) : Wy nodes (way nodes) := dfs_wy nodes _ _ _ _ _ [] ⟨by simp, by simp⟩
theorem Wy.len {nodes : List Nd} {l : List Item} (h : Wy nodes l) : l.length + unmet nodes l ≤ nodes.length := by
  suffices H : ∀ k, k ≤ l.length → k + unmet nodes (l.take k) ≤ nodes.length by
    have := H l.length (Nat.le_refl _); rwa [List.take_length] at this
  intro k
  induction k with
  | zero => intro _; simp [unmet_nil]
  | succ k ih =>
    intro hk
    have h1 := ih (by omega)
    rw [List.take_succ_eq_append_getElem hk]
    have hm : met (l.take k) (l[k]).id = false := by
      cases e : met (l.take k) (l[k]).id with
      | false => rfl
      | true =>
        obtain ⟨m, hmem, he⟩ := met_iff.1 e
        obtain ⟨j, hj, hje⟩ := List.getElem_of_mem hmem
        have hjk : j < k := by have := hj; simp at this; omega
        have hjl : j < l.length := by omega
        have e1 : m = l[j] := by rw [← hje]; simp
        have hnd := List.pairwise_iff_getElem.1 h.ids j k (by simpa using hjl) (by simp; omega) hjk
        simp at hnd
        exact absurd (by rw [← e1]; exact he) hnd
    have := unmet_add (it := l[k]) hm (h.at_ _ (List.getElem_mem _)).1
    omega

end TreeM
end

section
namespace TreeM
open PathM
set_option linter.unusedVariables false

/-- Behind which meeting each node is met. -/
def Arg (nodes : List Nd) (l : List Item) (id : Int) (fr : Nat) (name path : Bs) : Prop :=
  (l = [] ∧ id = 1 ∧ fr = 0 ∧ name = [] ∧ path = [47]) ∨ (∃ p, l[fr]? = some p ∧ path = joinL p.path name ∧ (⟨name, id⟩ : Ent) ∈ (ndAt nodes p.node).es)
def Ln (nodes : List Nd) (l : List Item) : Prop :=
  ∀ k it, l[k]? = some it → (k = 0 ∧ it.fr = 0 ∧ it.name = [] ∧ it.path = [47] ∧ it.id = 1) ∨
    (0 < k ∧ it.fr < k ∧ ∃ p, l[it.fr]? = some p ∧ it.path = joinL p.path it.name ∧ (⟨it.name, it.id⟩ : Ent) ∈ (ndAt nodes p.node).es)
theorem get_of_prefix {α : Type} {l m : List α} (h : l <+: m) {k : Nat} {x : α} (hx : l[k]? = some x) : m[k]? = some x := by
  obtain ⟨t, rfl⟩ := h
  rw [List.getElem?_append_left (List.getElem?_eq_some_iff.1 hx).1]; exact hx
theorem lt_of_get {α : Type} {l : List α} {k : Nat} {x : α} (hx : l[k]? = some x) : k < l.length := (List.getElem?_eq_some_iff.1 hx).1
theorem Ln.add {nodes : List Nd} {l : List Item} {it : Item} (h : Ln nodes l) (ha : Arg nodes l it.id it.fr it.name it.path) : Ln nodes (l ++ [it]) := by
  intro k x hx
  by_cases hk : k < l.length
  · rw [List.getElem?_append_left hk] at hx
    rcases h k x hx with h0 | ⟨h1, h2, p, h3, h4, h5⟩
    · exact .inl h0
    · exact .inr ⟨h1, h2, p, get_of_prefix (List.prefix_append l [it]) h3, h4, h5⟩
  · have hk2 : k < l.length + 1 := by have := lt_of_get hx; simpa using this
    obtain rfl : k = l.length := by omega
    have : x = it := by simpa using hx.symm
    subst this
    rcases ha with ⟨rfl, h1, h2, h3, h4⟩ | ⟨p, h3, h4, h5⟩
    · exact .inl ⟨rfl, h2, h3, h4, h1⟩
    · have hf := lt_of_get h3
      exact .inr ⟨by omega, hf, p, get_of_prefix (List.prefix_append l [x]) h3, h4, h5⟩
theorem dfs_ln (nodes : List Nd) : ∀ f id fr name path l, Ln nodes l → Arg nodes l id fr name path → Ln nodes (dfs nodes f id fr name path l) := by
  intro f
  induction f with
  | zero => intro id fr name path l h _; exact h
  | succ f ih =>
    intro id fr name path l h ha
    cases hm : met l id with
    | true => rw [dfs_met hm]; exact h
    | false =>
      rcases Nat.lt_or_ge (place nodes id) nodes.length with hp | hp
      · rw [dfs_new hm hp]
        have h1 : Ln nodes (l ++ [⟨place nodes id, fr, name, id, path⟩]) := h.add (it := ⟨place nodes id, fr, name, id, path⟩) ha
        have hg : (l ++ [(⟨place nodes id, fr, name, id, path⟩ : Item)])[l.length]? = some ⟨place nodes id, fr, name, id, path⟩ := by simp
        have hes : ∀ x ∈ (ndAt nodes (place nodes id)).es, x ∈ (ndAt nodes (place nodes id)).es := fun _ hx => hx
        revert hes
        generalize hes2 : (ndAt nodes (place nodes id)).es = es
        have hsub : ∀ x ∈ es, x ∈ (ndAt nodes (place nodes id)).es := by rw [hes2]; exact fun _ hx => hx
        intro hz
        clear hes2 hz
        generalize (l ++ [⟨place nodes id, fr, name, id, path⟩]) = l1 at h1 hg
        induction es generalizing l1 with
        | nil => exact h1
        | cons x es ihe =>
          rw [dfsL_cons]
          have hpre := dfs_prefix nodes f x.to l.length x.key (joinL path x.key) l1
          refine ihe (fun y hy => hsub y (List.mem_cons_of_mem x hy)) _ (ih _ _ _ _ _ h1 (.inr ⟨_, hg, rfl, hsub x (by simp)⟩)) (get_of_prefix hpre hg)
      · rw [dfs_out hp]; exact h
theorem way_ln (nodes : List Nd) : Ln nodes (way nodes) := dfs_ln nodes _ _ _ _ _ [] (by intro k it h; simp at h) (.inl ⟨rfl, rfl, rfl, rfl, rfl⟩)

theorem reached_unmet {nodes : List Nd} (h : reachedB nodes = true) : unmet nodes (way nodes) = 0 := by
  have h1 : (way nodes).length = nodes.length := by simpa [reachedB] using h
  have := (way_wy nodes).len
  omega
theorem reached_met {nodes : List Nd} (h : reachedB nodes = true) {id : Int} (hp : place nodes id < nodes.length) : met (way nodes) id = true := unmet_zero (reached_unmet h) hp
theorem reached_links {nodes : List Nd} (h : reachedB nodes = true) (hr : Rising nodes) (h0 : (ndAt nodes 0).id = 1) {i : Nat} (hi : i < nodes.length) (hpos : 0 < i) : 0 < links nodes (ndAt nodes i).id := by
  obtain ⟨m, hm, he⟩ := met_iff.1 (reached_met h (place_lt hi rfl))
  obtain ⟨k, hk, hke⟩ := List.getElem_of_mem hm
  have hget : (way nodes)[k]? = some m := by rw [List.getElem?_eq_getElem hk, hke]
  rcases way_ln nodes k m hget with ⟨_, _, _, _, h1⟩ | ⟨_, _, p, hp, _, hmem⟩
  · have := hr 0 i hpos hi; omega
  · have hpn := (way_wy nodes).at_ p (List.mem_of_getElem? hp)
    have hx : (⟨m.name, m.id⟩ : Ent) ∈ flat nodes := flat_mem.2 ⟨p.node, by rw [hpn.2]; exact hpn.1, hmem⟩
    have := links_pos hx
    rw [← he]; exact this

/-- The document's own way to ask. -/
def okRef (t : Tr) (i : Nat) : Bool := plainB (ndAt t.nodes i) && okNum t.nodes t.last i && (ndAt t.nodes i).es.all fun x => decide (place t.nodes x.to < t.nodes.length)
def okLinks (nodes : List Nd) (i : Nat) : Bool :=
  !(i == 0 && decide (0 < links nodes (ndAt nodes i).id)) && !(decide (0 < i) && links nodes (ndAt nodes i).id == 0) && !((ndAt nodes i).kind == 1 && decide (1 < links nodes (ndAt nodes i).id))
def headB (t : Tr) : Bool := decide (1 ≤ t.nodes.length ∧ t.nodes.length ≤ 512 ∧ (ndAt t.nodes 0).id = 1 ∧ (ndAt t.nodes 0).kind = 1)
def refB (t : Tr) : Bool := headB t && allTo (okRef t) t.nodes.length && allTo (okLinks t.nodes) t.nodes.length && reachedB t.nodes

theorem check_parts {t : Tr} (h : checkB t = true) : headB t = true ∧ allTo (okNum t.nodes t.last) t.nodes.length = true ∧ nodesB t.nodes = true ∧ ledB t.nodes = true ∧ reachedB t.nodes = true := by
  simp only [checkB, numB, Bool.and_eq_true] at h
  exact ⟨h.1.1.1.1, h.1.1.1.2, h.1.1.2, h.1.2, h.2⟩
theorem head_parts {t : Tr} (h : headB t = true) : 1 ≤ t.nodes.length ∧ t.nodes.length ≤ 512 ∧ (ndAt t.nodes 0).id = 1 ∧ (ndAt t.nodes 0).kind = 1 := by simpa [headB] using h
theorem check_of {t : Tr} (h1 : headB t = true) (h2 : allTo (okNum t.nodes t.last) t.nodes.length = true) (h3 : nodesB t.nodes = true) (h4 : ledB t.nodes = true) (h5 : reachedB t.nodes = true) : checkB t = true := by
  simp only [checkB, numB, Bool.and_eq_true]; exact ⟨⟨⟨⟨h1, h2⟩, h3⟩, h4⟩, h5⟩

theorem check_ref {t : Tr} (h : checkB t = true) : refB t = true := by
  obtain ⟨hh, hn, hp, hl, hr⟩ := check_parts h
  obtain ⟨k1, k2, k3, k4⟩ := head_parts hh
  have hri := rising_of_ok hn
  simp only [refB, Bool.and_eq_true]
  refine ⟨⟨⟨hh, allTo_iff.2 fun i hi => ?_⟩, allTo_iff.2 fun i hi => ?_⟩, hr⟩
  · simp only [okRef, Bool.and_eq_true]
    refine ⟨⟨allTo_iff.1 hp i hi, allTo_iff.1 hn i hi⟩, List.all_eq_true.2 fun x hx => ?_⟩
    have := (led_mem hl (flat_mem.2 ⟨i, hi, hx⟩)).1
    simpa using this
  · simp only [okLinks, Bool.and_eq_true, Bool.not_eq_true', Bool.and_eq_false_iff]
    refine ⟨⟨?_, ?_⟩, ?_⟩
    · by_cases e : i = 0
      · subst e
        right
        rw [k3, links_zero (fun x hx => (led_mem hl hx).2.1)]; rfl
      · left; simpa using e
    · by_cases e : i = 0
      · subst e; left; rfl
      · right
        have := reached_links hr hri k3 hi (by omega)
        simpa using by omega
    · by_cases e : (ndAt t.nodes i).kind = 1
      · right
        rcases Nat.eq_zero_or_pos (links t.nodes (ndAt t.nodes i).id) with h0 | h0
        · rw [h0]; rfl
        · obtain ⟨x, hx, he⟩ := List.countP_pos_iff.1 h0
          have he : x.to = (ndAt t.nodes i).id := by simpa using he
          have h3 := (led_mem hl hx).2.2
          rw [he, hri.place hi] at h3
          have := h3 e
          simpa using this
      · left; simpa using e
theorem ref_check {t : Tr} (h : refB t = true) : checkB t = true := by
  simp only [refB, Bool.and_eq_true] at h
  obtain ⟨⟨⟨hh, h1⟩, h2⟩, hr⟩ := h
  obtain ⟨k1, k2, k3, k4⟩ := head_parts hh
  have hk : ∀ i, i < t.nodes.length → plainB (ndAt t.nodes i) = true ∧ okNum t.nodes t.last i = true ∧ ∀ x ∈ (ndAt t.nodes i).es, place t.nodes x.to < t.nodes.length := by
    intro i hi
    have := allTo_iff.1 h1 i hi
    simp only [okRef, Bool.and_eq_true] at this
    exact ⟨this.1.1, this.1.2, fun x hx => by simpa using List.all_eq_true.1 this.2 x hx⟩
  refine check_of hh (allTo_iff.2 fun i hi => (hk i hi).2.1) (allTo_iff.2 fun i hi => (hk i hi).1) (List.all_eq_true.2 fun x hx => ?_) hr
  have hri : Rising t.nodes := rising_of_ok (allTo_iff.2 fun i hi => (hk i hi).2.1)
  obtain ⟨i, hi, hxi⟩ := flat_mem.1 hx
  have hpl := (hk i hi).2.2 x hxi
  have hpos := links_pos hx
  simp only [okLed, Bool.and_eq_true]
  refine ⟨⟨by simpa using hpl, ?_⟩, ?_⟩
  · have := allTo_iff.1 h2 0 (by omega)
    simp only [okLinks, Bool.and_eq_true] at this
    have h3 := this.1.1
    rw [k3] at h3
    simp only [bne_iff_ne]
    intro e
    rw [e] at hpos
    simp [hpos] at h3
  · have := allTo_iff.1 h2 _ hpl
    simp only [okLinks, Bool.and_eq_true] at this
    have h3 := this.2
    rw [place_id hpl] at h3
    by_cases e : (ndAt t.nodes (place t.nodes x.to)).kind = 1
    · simp [e] at h3 ⊢; exact h3
    · simp [e]
theorem check_eq (t : Tr) : refB t = checkB t := by
  cases h : checkB t with
  | true => exact check_ref h
  | false =>
    cases h2 : refB t with
    | false => rfl
    | true => rw [ref_check h2] at h; cases h

/-- Of a tree that may be. -/
theorem check_rising {t : Tr} (h : checkB t = true) : Rising t.nodes := rising_of_ok (check_parts h).2.1
theorem plain_ents {n : Nd} (h : plainB n = true) : entsB n.es = true := by
  simp only [plainB, Bool.and_eq_true] at h
  have h2 := h.2
  split at h2
  · simp only [Bool.and_eq_true] at h2; exact h2.2
  · split at h2
    · simp only [Bool.and_eq_true, decide_eq_true_eq] at h2; rw [h2.2]; rfl
    · split at h2
      · simp only [Bool.and_eq_true, decide_eq_true_eq] at h2; rw [h2.2]; rfl
      · cases h2
theorem check_ents {t : Tr} (h : checkB t = true) {i : Nat} (hi : i < t.nodes.length) : entsB (ndAt t.nodes i).es = true := plain_ents (allTo_iff.1 (check_parts h).2.2.1 i hi)
theorem check_place1 {t : Tr} (h : checkB t = true) : place t.nodes 1 = 0 := by
  obtain ⟨k1, k2, k3, k4⟩ := head_parts (check_parts h).1
  have := (check_rising h).place (i := 0) (by omega)
  rwa [k3] at this

/-- What stands at a meeting. -/
def itAt (l : List Item) (k : Nat) : Item := l.getD k ⟨0, 0, [], 0, []⟩
theorem itAt_get {l : List Item} {k : Nat} (h : k < l.length) : l[k]? = some (itAt l k) := by simp [itAt, h]
theorem itAt_mem {l : List Item} {k : Nat} (h : k < l.length) : itAt l k ∈ l := List.mem_of_getElem? (itAt_get h)
def metAt (l : List Item) (id : Int) : Nat := l.findIdx fun m => m.id == id
theorem metAt_lt {l : List Item} {id : Int} (h : met l id = true) : metAt l id < l.length := by
  obtain ⟨m, hm, he⟩ := met_iff.1 h
  exact List.findIdx_lt_length_of_exists ⟨m, hm, by simp [he]⟩
theorem metAt_id {l : List Item} {id : Int} (h : met l id = true) : (itAt l (metAt l id)).id = id := by
  have hl := metAt_lt h
  have := List.findIdx_getElem (w := hl)
  have e : itAt l (metAt l id) = l[metAt l id] := by simp [itAt, hl]
  rw [e]; exact eq_of_beq this
theorem Wy.inj {nodes : List Nd} {l : List Item} (h : Wy nodes l) {i j : Nat} (hi : i < l.length) (hj : j < l.length) (e : (itAt l i).id = (itAt l j).id) : i = j := by
  have key : ∀ a b, a < b → b < l.length → (itAt l a).id ≠ (itAt l b).id := by
    intro a b hab hb
    have hal : a < l.length := by omega
    have := List.pairwise_iff_getElem.1 h.ids a b (by simpa using hal) (by simpa using hb) hab
    simpa [itAt, hal, hb] using this
  rcases Nat.lt_trichotomy i j with hlt | rfl | hlt
  · exact absurd e (key i j hlt hj)
  · rfl
  · exact absurd e.symm (key j i hlt hi)
theorem Wy.metAt {nodes : List Nd} {l : List Item} (h : Wy nodes l) {k : Nat} (hk : k < l.length) : metAt l (itAt l k).id = k := by
  have hm : met l (itAt l k).id = true := met_iff.2 ⟨_, itAt_mem hk, rfl⟩
  exact h.inj (metAt_lt hm) hk (metAt_id hm)
theorem Wy.node {nodes : List Nd} {l : List Item} (h : Wy nodes l) {k : Nat} (hk : k < l.length) : (itAt l k).node < nodes.length ∧ (ndAt nodes (itAt l k).node).id = (itAt l k).id := by
  obtain ⟨h1, h2⟩ := h.at_ _ (itAt_mem hk)
  rw [h2]; exact ⟨h1, place_id h1⟩

/-- Names on the way, joined. -/
def pathOf (ns : List Bs) : Bs := if ns = [] then [47] else ns.flatMap fun n => 47 :: n
theorem nameB_parts {n : Bs} (h : nameB n = true) : n ≠ [] ∧ 47 ∉ n ∧ n.length ≤ 64 := by
  simp [nameB] at h
  exact ⟨h.1.1.1.1.1, h.1.1.1.2, h.1.1.1.1.2⟩
theorem bare_name (x n : Bs) (h : nameB n = true) : bare (x ++ 47 :: n) = x ++ 47 :: n := by
  obtain ⟨h1, h2, _⟩ := nameB_parts h
  rcases snoc_cases n with rfl | ⟨t, c, rfl⟩
  · exact absurd rfl h1
  · have hc : c ≠ 47 := fun e => h2 (by simp [e])
    have : x ++ 47 :: (t ++ [c]) = (x ++ 47 :: t) ++ [c] := by simp
    rw [this, bare_snoc_other _ _ hc]
theorem pathOf_snoc {ns : List Bs} (h : ∀ n ∈ ns, nameB n = true) (n : Bs) : joinL (pathOf ns) n = pathOf (ns ++ [n]) := by
  rcases snoc_cases ns with rfl | ⟨t, m, rfl⟩
  · simp [joinL, pathOf, bare, Go.Lib.trimRightB]
  · have e : pathOf (t ++ [m]) = (t.flatMap fun n => 47 :: n) ++ 47 :: m := by simp [pathOf]
    unfold joinL
    rw [e, bare_name _ _ (h m (by simp))]
    simp [pathOf]

/-- The names on the way back from a meeting. -/
def back (l : List Item) : Nat → Nat → List Bs
  | 0, _ => []
  | f + 1, at_ => if at_ = 0 then [] else (itAt l at_).name :: back l f (itAt l at_).fr
theorem back_zero (l : List Item) (f : Nat) : back l f 0 = [] := by cases f <;> simp [back]
theorem back_any {l : List Item} (h : ∀ k, 0 < k → k < l.length → (itAt l k).fr < k) : ∀ f g k, k ≤ f → k ≤ g → k < l.length → back l f k = back l g k := by
  intro f
  induction f with
  | zero => intro g k h1 h2 _; obtain rfl : k = 0 := by omega
            rw [back_zero, back_zero]
  | succ f ih =>
    intro g k h1 h2 hk
    by_cases e : k = 0
    · subst e; rw [back_zero, back_zero]
    · cases g with
      | zero => omega
      | succ g =>
        have := h k (by omega) hk
        rw [back, back, if_neg e, if_neg e, ih g _ (by omega) (by omega) (by omega)]
theorem Ln.fr {nodes : List Nd} {l : List Item} (h : Ln nodes l) {k : Nat} (h0 : 0 < k) (hk : k < l.length) : (itAt l k).fr < k := by
  rcases h k _ (itAt_get hk) with ⟨e, _⟩ | ⟨_, h2, _⟩
  · omega
  · exact h2
theorem Ln.parent {nodes : List Nd} {l : List Item} (h : Ln nodes l) {k : Nat} (h0 : 0 < k) (hk : k < l.length) :
    (itAt l k).path = joinL (itAt l (itAt l k).fr).path (itAt l k).name ∧ (⟨(itAt l k).name, (itAt l k).id⟩ : Ent) ∈ (ndAt nodes (itAt l (itAt l k).fr).node).es := by
  rcases h k _ (itAt_get hk) with ⟨e, _⟩ | ⟨_, h2, p, hp, h4, h5⟩
  · omega
  · have : itAt l (itAt l k).fr = p := by
      have h6 := itAt_get (l := l) (k := (itAt l k).fr) (by omega)
      rw [hp] at h6; exact (Option.some.inj h6).symm
    rw [this]; exact ⟨h4, h5⟩
theorem Ln.root {nodes : List Nd} {l : List Item} (h : Ln nodes l) (hk : 0 < l.length) : (itAt l 0).path = [47] ∧ (itAt l 0).id = 1 := by
  rcases h 0 _ (itAt_get hk) with ⟨_, _, _, h1, h2⟩ | ⟨h1, _⟩
  · exact ⟨h1, h2⟩
  · omega
/-- All names on the way may be; a meeting's path is its names, joined. -/
theorem back_names {nodes : List Nd} {l : List Item} (hw : Wy nodes l) (h : Ln nodes l) (hn : ∀ i, i < nodes.length → entsB (ndAt nodes i).es = true) :
    ∀ f k, k ≤ f → k < l.length → (∀ n ∈ back l f k, nameB n = true) ∧ (itAt l k).path = pathOf (back l f k).reverse := by
  intro f
  induction f with
  | zero =>
    intro k h1 hk
    obtain rfl : k = 0 := by omega
    exact ⟨by simp [back], (h.root hk).1⟩
  | succ f ih =>
    intro k h1 hk
    by_cases e : k = 0
    · subst e; rw [back_zero]; exact ⟨by simp, (h.root hk).1⟩
    · have hf := h.fr (by omega) hk
      obtain ⟨g1, g2⟩ := h.parent (by omega) hk
      obtain ⟨i1, i2⟩ := ih (itAt l k).fr (by omega) (by omega)
      have hname : nameB (itAt l k).name = true := name_of_ents (hn _ (hw.node (k := (itAt l k).fr) (by omega)).1) g2
      rw [back, if_neg e]
      refine ⟨fun n hm => ?_, ?_⟩
      · rcases List.mem_cons.1 hm with rfl | hm
        · exact hname
        · exact i1 n hm
      · rw [g1, i2, List.reverse_cons, pathOf_snoc (fun n hm => i1 n (List.mem_reverse.1 hm))]
theorem back_len {l : List Item} : ∀ f k, (back l f k).length ≤ f := by
  intro f
  induction f with
  | zero => intro k; simp [back]
  | succ f ih =>
    intro k
    rw [back]
    split
    · simp
    · have := ih (itAt l k).fr; simp; omega

/-- From a directory on, name by name. -/
def stepTo (nodes : List Nd) (a : Int) (n : Bs) : Option Int := if place nodes a < nodes.length then childO (ndAt nodes (place nodes a)).es n else none
def goTo (nodes : List Nd) : Int → List Bs → Option Int
  | a, [] => some a
  | a, n :: ns => (stepTo nodes a n).bind fun b => goTo nodes b ns
theorem goTo_snoc (nodes : List Nd) : ∀ (ns : List Bs) (a : Int) (n : Bs), goTo nodes a (ns ++ [n]) = (goTo nodes a ns).bind fun b => stepTo nodes b n := by
  intro ns
  induction ns with
  | nil => intro a n; simp [goTo]
  | cons m ns ih =>
    intro a n
    rw [List.cons_append, goTo, goTo]
    cases stepTo nodes a m with
    | none => rfl
    | some b => simp only [Option.bind_some]; exact ih b n
theorem back_goTo {nodes : List Nd} {l : List Item} (hw : Wy nodes l) (h : Ln nodes l) (hn : ∀ i, i < nodes.length → entsB (ndAt nodes i).es = true) :
    ∀ f k, k ≤ f → k < l.length → goTo nodes 1 (back l f k).reverse = some (itAt l k).id := by
  intro f
  induction f with
  | zero =>
    intro k h1 hk
    obtain rfl : k = 0 := by omega
    rw [(h.root hk).2]; rfl
  | succ f ih =>
    intro k h1 hk
    by_cases e : k = 0
    · subst e; rw [back_zero, (h.root hk).2]; rfl
    · have hf := h.fr (by omega) hk
      obtain ⟨g1, g2⟩ := h.parent (by omega) hk
      obtain ⟨n1, n2⟩ := hw.node (k := (itAt l k).fr) (by omega)
      have hp := (hw.at_ _ (itAt_mem (k := (itAt l k).fr) (by omega)))
      rw [back, if_neg e, List.reverse_cons, goTo_snoc, ih (itAt l k).fr (by omega) (by omega)]
      simp only [Option.bind_some, stepTo]
      rw [if_pos hp.1, ← hp.2]
      exact childO_mem (sorted_of_ents (hn _ n1)) g2

end TreeM
end

section
namespace Go.Proofs.YtpicgkoclbpjpaaGreatDoor
open Go.RowKit
open PathM
set_option linter.unusedVariables false


theorem ret_str {a b : ByteArray} (h : a = b) : Ending.returned (.string a) = .returned (.string b) := by rw [h]

theorem ret_bool {a b : Bool} (h : a = b) : Ending.returned (.bool a) = .returned (.bool b) := by rw [h]

theorem sizeD (s : ByteArray) : s.size = s.data.toList.length := Array.length_toList.symm

theorem listD (s : ByteArray) : s.toList = s.data.toList := Lib.toList_data s

theorem ext_to (s : ByteArray) (i : Nat) : s.extract 0 i = nm (s.data.toList.take i) := Lib.extract_upto s i

theorem ext_from (s : ByteArray) (i : Nat) : s.extract i s.size = nm (s.data.toList.drop i) := Lib.extract_from s i


theorem cat_nm (a b : ByteArray) (x : Bs) (h : a.data.toList ++ b.data.toList = x) (hl : x.length ≤ 9223372036854775807) (W : World) :
    (Op.stringOp .add a b).run Tryz.prog W = .ok (.string (nm x)) W := by
  have hsz : a.size + b.size ≤ 9223372036854775807 := by
    rw [sizeD a, sizeD b, ← List.length_append, h]; exact hl
  rw [run_string_add_sum W _ _ (by simpa using hsz)]
  subst h
  congr 2

theorem nm_isEmpty_nil {b : ByteArray} (h : b.data.toList = []) : b.toList = [] := by rw [listD, h]

/-- Both spellings of 'is it empty?'. -/
theorem emp_yes {b : ByteArray} (h : b.data.toList = []) : b.toList.isEmpty = true := by rw [listD, h]; rfl

theorem emp_no {b : ByteArray} (h : b.data.toList ≠ []) : b.toList.isEmpty = false := by
  rw [listD]; cases e : b.data.toList with
  | nil => exact absurd e h
  | cons _ _ => rfl

theorem getD? (p : ByteArray) (i : Nat) (h : i < p.size) : p.data.toList[i]? = some p[i] := by
  have h' : i < p.data.size := h
  simp [ByteArray.getElem_eq_getElem_data]

theorem head_at (p : ByteArray) (h : 0 < p.size) : p.data.toList.head? = some p[0] := by
  exact List.head?_eq_getElem?.trans (getD? p 0 h)

theorem index0 (l : Bs) : (0 ≤ Lib.indexByte l 0) ↔ l.contains 0 = true := by
  induction l with
  | nil => simp [Lib.indexByte]
  | cons c l ih =>
    have hge := Lib.indexByte_ge l 0
    unfold Lib.indexByte
    by_cases hc : c = 0
    · simp [hc]
    · have h1 : (c == 0) = false := by simpa using hc
      have h2 : (c :: l).contains 0 = l.contains 0 := by simp; exact fun e => absurd e.symm hc
      rw [h1, h2]
      simp only [Bool.false_eq_true, if_false]
      split
      · rename_i h
        have h' : Lib.indexByte l 0 = -1 := by simpa using h
        rw [h'] at ih
        constructor
        · intro h3; omega
        · intro h3; exact absurd (ih.2 h3) (by omega)
      · rename_i h
        have h' : Lib.indexByte l 0 ≠ -1 := by simpa using h
        constructor
        · intro h3; exact ih.1 (by omega)
        · intro h3; have := ih.2 h3; omega

theorem ret_num {a b : Nat} (h : a = b) : Ending.returned (.int .i64 (a : Int)) = .returned (.int .i64 (b : Int)) := by rw [h]


theorem contains_take_snoc (l : Bs) (c : UInt8) (k : Nat) (h : k < l.length) : (l.take (k + 1)).contains c = ((l.take k).contains c || l[k] == c) := by
  rw [List.take_succ_eq_append_getElem h, List.contains_eq_any_beq, List.contains_eq_any_beq, List.any_append]
  simp
  rw [show (c == l[k]) = (l[k] == c) from Bool.eq_iff_iff.2 ⟨fun h => by simpa using (eq_of_beq h).symm, fun h => by simpa using (eq_of_beq h).symm⟩]

set_option maxHeartbeats 400000 in
theorem rhas_any (s : ByteArray) (c : UInt8) (x : Int) (w : World) (hx : x = (c.toNat : Int)) (hs : s.size ≤ maxLen) :
    Calls Tryz.prog 46 #[.string s, .int .u8 x] w fun e w' => e = .returned (.bool (s.data.toList.contains c)) ∧ w = w' := by
  subst hx
  unfold maxLen at hs
  have hL := Lib.hid (sizeD s)
  obtain ⟨b, hb⟩ : ∃ b, s.data.toList.contains c = b := ⟨_, rfl⟩
  rw [hb]
  have HB := Lib.hid hb; clear hb
  go_enter Tryz.func46, Tryz.ntmps46
  go_wp2
  go_loop [5] (fun i => ∃ k : Nat, k ≤ s.size ∧ i = .int .i64 k ∧ (s.data.toList.take k).contains c = false) (fun i => s.size - (intOf i).toNat)
  case atStart => exact ⟨0, by omega, rfl, rfl⟩
  case round =>
    obtain ⟨k, hk, rfl, hno⟩ := hrel
    by_cases hlt : k < s.size
    · have hlen : k < s.data.toList.length := by rw [← hL.out]; exact hlt
      have hbyte : s.data.toList[k] = s[k] := by simp [ByteArray.getElem_eq_getElem_data]
      have hsn := contains_take_snoc s.data.toList c k hlen
      rw [hbyte, hno] at hsn
      by_cases hc : s[k] = c
      · have q1 : ((s[k].toNat : Int) == (c.toNat : Int)) = true := by rw [hc]; simp
        have hyes : s.data.toList.contains c = true := by
          rw [List.contains_iff_mem, ← hc, ← hbyte]; exact List.getElem_mem _
        have HY := Lib.hid hyes; clear hyes hsn hno hbyte hc
        go_wp2
        go_ret
        exact ⟨ret_bool (HY.out.symm.trans HB.out), rfl⟩
      · have q1 : ((s[k].toNat : Int) == (c.toNat : Int)) = false := beq_eq_false_iff_ne.2 (fun h => hc (UInt8.toNat_inj.1 (by omega)))
        have hn2 : (s.data.toList.take (k + 1)).contains c = false := by rw [hsn]; simpa using hc
        have HN := Lib.hid hn2; clear hn2 hsn hno hbyte hc
        go_wp2
        go_round
        case rel => exact ⟨k + 1, by omega, by go_num, HN.out⟩
        case measure => simp [intOf]; omega
    · have hall : s.data.toList.contains c = false := by
        rw [List.take_of_length_le (by rw [← hL.out]; omega)] at hno; exact hno
      have HA := Lib.hid hall; clear hall hno
      go_wp2
      go_ret
      exact ⟨ret_bool (HA.out.symm.trans HB.out), rfl⟩

theorem bare_step (Q : ByteArray) (h : 0 < Q.size) (hc : Q[Q.size - 1] = 47) : bare (Q.extract 0 (Q.size - 1)).data.toList = bare Q.data.toList := by
  have hl := sizeD Q
  have hx : (Q.extract 0 (Q.size - 1)).data.toList = Q.data.toList.take (Q.size - 1) := congrArg (fun x : ByteArray => x.data.toList) (ext_to Q (Q.size - 1))
  rw [hx]
  have hlt : Q.size - 1 < Q.data.toList.length := by omega
  have hb : Q.data.toList[Q.size - 1] = 47 := by rw [← hc]; simp [ByteArray.getElem_eq_getElem_data]
  have e : Q.data.toList = Q.data.toList.take (Q.size - 1) ++ [47] := by
    rw [← hb, ← List.take_succ_eq_append_getElem hlt, List.take_of_length_le (by omega)]
  conv => rhs; rw [e]
  exact (bare_snoc_slash _).symm

theorem bare_stop (Q : ByteArray) (h : Q.size = 0 ∨ ∃ h : Q.size - 1 < Q.size, Q[Q.size - 1] ≠ 47) : nm (bare Q.data.toList) = Q := by
  have hl := sizeD Q
  have : bare Q.data.toList = Q.data.toList := by
    rcases h with h | ⟨h, hc⟩
    · have : Q.data.toList = [] := List.length_eq_zero_iff.1 (by omega)
      rw [this]; rfl
    · have hlt : Q.size - 1 < Q.data.toList.length := by omega
      have hb : Q.data.toList[Q.size - 1] ≠ 47 := by intro e; apply hc; rw [← e]; simp [ByteArray.getElem_eq_getElem_data]
      have e : Q.data.toList = Q.data.toList.take (Q.size - 1) ++ [Q.data.toList[Q.size - 1]] := by
        rw [← List.take_succ_eq_append_getElem hlt, List.take_of_length_le (by omega)]
      have h2 := bare_snoc_other (Q.data.toList.take (Q.size - 1)) _ hb
      rw [← e] at h2
      exact h2
  rw [this]; exact nm_of Q

set_option maxHeartbeats 400000 in
theorem rbare_any (s : ByteArray) (w : World) (hs : s.size ≤ maxLen) :
    Calls Tryz.prog 123 #[.string s] w fun e w' => e = .returned (.string (nm (bare s.data.toList))) ∧ w = w' := by
  unfold maxLen at hs
  obtain ⟨B, hB⟩ : ∃ B, bare s.data.toList = B := ⟨_, rfl⟩
  rw [hB]
  have hst : ∃ Q : ByteArray, (Value.string s) = .string Q ∧ bare Q.data.toList = B ∧ Q.size ≤ s.size := ⟨s, rfl, hB, Nat.le_refl _⟩
  clear hB
  go_enter Tryz.func123, Tryz.ntmps123
  go_wp2
  go_loop [0] (fun p => ∃ Q : ByteArray, p = .string Q ∧ bare Q.data.toList = B ∧ Q.size ≤ s.size) (fun p => Lib.strSize p)
  case atStart => exact hst
  case round =>
    obtain ⟨Q, rfl, hQ, hsz⟩ := hrel
    clear hst
    by_cases hz : Q.size = 0
    · have hr := bare_stop Q (.inl hz)
      rw [hQ] at hr
      have HR := Lib.hid hr; clear hr hQ
      go_wp2
      go_ret
      exact ⟨ret_str HR.out.symm, rfl⟩
    · have hp : 0 < Q.size := by omega
      have hp1 : Q.size - 1 < Q.size := by omega
      by_cases hc : Q[Q.size - 1] = 47
      · have h2 := bare_step Q hp hc
        rw [hQ] at h2
        have q1 : ((Q[Q.size - 1].toNat : Int) == 47) = true := by rw [hc]; rfl
        have hx : (Q.extract 0 (Q.size - 1)).size = Q.size - 1 := by rw [ext_to, nm_size, List.length_take, ← sizeD]; omega
        have H2 := Lib.hid h2; have HX := Lib.hid hx; clear h2 hQ hc hz hx
        go_wp2
        go_round
        case rel => exact ⟨_, rfl, H2.out, by rw [HX.out]; omega⟩
        case measure => rw [Lib.strSize_string, Lib.strSize_string, HX.out]; omega
      · have hr := bare_stop Q (.inr ⟨hp1, hc⟩)
        rw [hQ] at hr
        have q1 : ((Q[Q.size - 1].toNat : Int) == 47) = false := beq_eq_false_iff_ne.2 (fun h => hc (UInt8.toNat_inj.1 (by have : (47 : UInt8).toNat = 47 := rfl; omega)))
        have HR := Lib.hid hr; clear hr hQ hc hz
        go_wp2
        go_ret
        exact ⟨ret_str HR.out.symm, rfl⟩


set_option maxHeartbeats 400000 in
theorem rjoin_any (d n : ByteArray) (w : World) (hd : d.size + n.size + 1 ≤ maxLen) :
    Calls Tryz.prog 92 #[.string d, .string n] w fun e w' => e = .returned (.string (nm (joinL d.data.toList n.data.toList))) ∧ w = w' := by
  unfold maxLen at hd
  have hb := fun w => rbare_any d w (by unfold maxLen; omega)
  have hl := bare_len d.data.toList
  have hdl := sizeD d
  have hnl := sizeD n
  have e1 : (nm (bare d.data.toList)).data.toList ++ (⟨#[47]⟩ : ByteArray).data.toList = bare d.data.toList ++ [47] := rfl
  have c1 := cat_nm (nm (bare d.data.toList)) ⟨#[47]⟩ _ e1 (by simp; omega)
  have e2 : (nm (bare d.data.toList ++ [47])).data.toList ++ n.data.toList = joinL d.data.toList n.data.toList := by unfold joinL; rw [nm_data]; simp
  have c2 := cat_nm (nm (bare d.data.toList ++ [47])) n _ e2 (by rw [← e2, nm_data]; simp; omega)
  clear e1 e2
  generalize nm (bare d.data.toList) = B at hb c1
  generalize nm (bare d.data.toList ++ [47]) = B2 at c1 c2
  generalize nm (joinL d.data.toList n.data.toList) = B3 at c2
  have HB := Lib.hid hb; clear hb hdl hnl hl
  go_enter Tryz.func92, Tryz.ntmps92
  go_wp2_with (go_at_call 123; refine (HB.out _).mono ?_; rintro e w' ⟨rfl, rfl⟩)
  go_ret
  exact ⟨rfl, rfl⟩

set_option maxHeartbeats 1000000 in
theorem rname_any (s : ByteArray) (w : World) (hs : s.size ≤ maxLen) :
    Calls Tryz.prog 16 #[.string s] w fun e w' => e = .returned (.bool (nameB s.data.toList)) ∧ w = w' := by
  have hsz := sizeD s
  have hc1 := fun w => rhas_any s 47 47 w rfl hs
  have hc2 := fun w => rhas_any s 0 0 w rfl hs
  have b1 : (s.toList == [46]) = (s.data.toList == [46]) := by rw [listD]
  have b2 : (s.toList == [46, 46]) = (s.data.toList == [46, 46]) := by rw [listD]
  have n1 : (s.toList != [46]) = !(s.data.toList == [46]) := by rw [listD]; rfl
  have n2 : (s.toList != [46, 46]) = !(s.data.toList == [46, 46]) := by rw [listD]; rfl
  unfold maxLen at hs
  have hN : nameB s.data.toList = (decide (1 ≤ s.size) && decide (s.size ≤ 64) && !s.data.toList.contains 47 && !s.data.toList.contains 0 && !(s.data.toList == [46]) && !(s.data.toList == [46, 46])) := by
    unfold nameB
    have : (!s.data.toList.isEmpty) = decide (1 ≤ s.size) := by
      rw [hsz]; cases s.data.toList with
      | nil => rfl
      | cons _ _ => simp
    rw [this, ← hsz]; rfl
  generalize nameB s.data.toList = N at *
  generalize s.data.toList.contains 47 = p1 at *
  generalize s.data.toList.contains 0 = p2 at *
  generalize (s.data.toList == [46]) = p3 at *
  generalize (s.data.toList == [46, 46]) = p4 at *
  have HN := Lib.hid hN; clear hN hsz
  have H1 := Lib.hid hc1; have H2 := Lib.hid hc2; clear hc1 hc2
  by_cases h1 : 1 ≤ s.size
  · by_cases h2 : s.size ≤ 64
    · have d1 : decide (1 ≤ s.size) = true := decide_eq_true h1
      have d2 : decide (s.size ≤ 64) = true := decide_eq_true h2
      rw [d1, d2] at HN
      clear d1 d2
      cases p1 <;> cases p2 <;> cases p3 <;> cases p4
      all_goals
        simp only [Bool.not_false, Bool.not_true] at n1 n2
        go_enter Tryz.func16, Tryz.ntmps16
        go_wp2_with (first
          | (go_at_call 46; with_reducible refine (H1.out _).mono ?_; rintro e w' ⟨rfl, rfl⟩)
          | (go_at_call 46; with_reducible refine (H2.out _).mono ?_; rintro e w' ⟨rfl, rfl⟩))
        go_ret
        exact ⟨ret_bool (by rw [HN.out]; rfl), rfl⟩
    · have d2 : decide (s.size ≤ 64) = false := decide_eq_false h2
      rw [d2, Bool.and_false] at HN
      clear d2
      go_enter Tryz.func16, Tryz.ntmps16
      go_wp2_with (first
        | (go_at_call 46; with_reducible refine (H1.out _).mono ?_; rintro e w' ⟨rfl, rfl⟩)
        | (go_at_call 46; with_reducible refine (H2.out _).mono ?_; rintro e w' ⟨rfl, rfl⟩))
      go_ret
      exact ⟨ret_bool (by rw [HN.out]; rfl), rfl⟩
  · have d1 : decide (1 ≤ s.size) = false := decide_eq_false h1
    rw [d1] at HN
    clear d1
    go_enter Tryz.func16, Tryz.ntmps16
    go_wp2_with (first
      | (go_at_call 46; with_reducible refine (H1.out _).mono ?_; rintro e w' ⟨rfl, rfl⟩)
      | (go_at_call 46; with_reducible refine (H2.out _).mono ?_; rintro e w' ⟨rfl, rfl⟩))
    go_ret
    exact ⟨ret_bool (by rw [HN.out]; rfl), rfl⟩

theorem below_drewN' {B : Nat} {a w : World} (h : Below B a w) (n : Nat) : Below B a (w.drewN n) := ⟨h.os, h.tape, h.output, h.size, h.block⟩

theorem ownsRow_drewN {W : World} {b : Nat} {e : TypeId} {size : Nat} {v : Value} {n : Nat} {xs : List Value} (h : W.ownsRow b e size v n xs) (k : Nat) : (W.drewN k).ownsRow b e size v n xs := h

theorem ext_mid (s : ByteArray) (a b : Nat) : s.extract a b = nm ((s.data.toList.take b).drop a) := by
  rw [Lib.extract_eq]
  unfold nm
  rw [List.drop_take]

end Go.Proofs.YtpicgkoclbpjpaaGreatDoor
end

section
namespace Go.Proofs.YtpicgkoclbpjpaaGreatDoor
open Go.RowKit
open PathM
set_option linter.unusedVariables false


theorem quiet_add_same {P : Program} {f : FuncId} {args : Array Value} {w : World} {a n : Nat} {v : Value}
    (h : Calls P f args (w.drewN (a + n)) fun e w' => e = .returned v ∧ w' = w.drewN (a + n)) :
    Calls P f args (w.drewN (a + n)) fun e w'' => e = .returned v ∧ ∃ m, w'' = w.drewN (a + m) :=
  h.mono fun _ _ ⟨he, hm⟩ => ⟨he, n, hm⟩

theorem two_lt (b1 b2 : UInt8) : 1 < (⟨#[b1, b2]⟩ : ByteArray).size := Nat.lt_succ_self 1

theorem enc_two (r : Int) (h0 : 128 ≤ r) (h1 : r < 2048) : ∃ b1 b2 : UInt8, Utf8.encode r = ⟨#[b1, b2]⟩ ∧ 128 ≤ b2.toNat := by
  have hv : Utf8.valid r = true := by simp [Utf8.valid]; omega
  refine ⟨UInt8.ofNat (0xC0 + r.toNat / 64), UInt8.ofNat (0x80 + r.toNat % 64), ?_, ?_⟩
  · unfold Utf8.encode
    simp only [hv, if_true]
    rw [if_neg (by omega), if_pos (by omega)]
  · have : r.toNat % 64 < 64 := Nat.mod_lt _ (by omega)
    simp [UInt8.toNat_ofNat']
    omega

theorem enc_more (r : Int) (h0 : 2048 ≤ r) : ∃ n, (Utf8.encode r).size = n + 3 ∧ n ≤ 1 := by
  unfold Utf8.encode
  by_cases hv : Utf8.valid r = true
  · simp only [hv, if_true]
    rw [if_neg (by omega), if_neg (by omega)]
    split
    · exact ⟨0, rfl, by omega⟩
    · exact ⟨1, rfl, by omega⟩
  · simp only [Bool.not_eq_true] at hv
    simp only [hv, Bool.false_eq_true, if_false]
    exact ⟨0, rfl, by omega⟩

set_option maxHeartbeats 2000000 in
set_option maxRecDepth 1000000 in
theorem irune_bad (r : Int) (w : World) (h0 : 128 ≤ r) (h1 : r ≠ 65533) (hv : Lib.validRune r = false) :
    Calls Tryz.prog 174 #[.string ⟨#[47, 0]⟩, .int .i32 r] w fun e w' => e = .returned (.int .i64 (-1)) ∧ w = w' := by
  have hV := fun w => Tryz.utf8_ValidRune r w
  rw [hv] at hV
  have q1 : (r == 65533) = false := beq_eq_false_iff_ne.2 h1
  have q2 : ¬ r < 128 := by omega
  have q3 : (0 : Int) ≤ r := by omega
  have HV := Lib.hid hV; clear hV hv h1
  go_enter Tryz.func174, Tryz.ntmps174
  go_wp2_with (go_at_call 178; refine (HV.out _).mono ?_; rintro e w' ⟨rfl, rfl⟩)
  go_ret
  exact ⟨rfl, rfl⟩

set_option maxHeartbeats 2000000 in
set_option maxRecDepth 1000000 in
theorem irune_long (r : Int) (w : World) (h0 : 2048 ≤ r) (hr : r ≤ 2147483647) (h1 : r ≠ 65533) (hv : Lib.validRune r = true) :
    Calls Tryz.prog 174 #[.string ⟨#[47, 0]⟩, .int .i32 r] w fun e w' => e = .returned (.int .i64 (-1)) ∧ w = w' := by
  have hV := fun w => Tryz.utf8_ValidRune r w
  rw [hv] at hV
  obtain ⟨n, hn, hn1⟩ := enc_more r h0
  obtain ⟨E, hE⟩ : ∃ E, Utf8.encode r = E := ⟨_, rfl⟩
  rw [hE] at hn
  have q1 : (r == 65533) = false := beq_eq_false_iff_ne.2 h1
  have q2 : ¬ r < 128 := by omega
  have q3 : (0 : Int) ≤ r := by omega
  have HV := Lib.hid hV; clear hV hv h1
  go_enter Tryz.func174, Tryz.ntmps174
  go_wp2_with (go_at_call 178; refine (HV.out _).mono ?_; rintro e w' ⟨rfl, rfl⟩)
  go_step3
  go_wp2
  clear hE
  go_loop [9] (fun i => i = .int .i64 ((n : Int) + 2)) (fun i => 0)
  case atStart => exact congrArg (Value.int .i64) (by omega)
  case round =>
    subst hrel
    go_wp2
    go_ret
    exact ⟨rfl, rfl⟩

set_option maxHeartbeats 2000000 in
set_option maxRecDepth 1000000 in
theorem irune_two (r : Int) (w : World) (h0 : 128 ≤ r) (hr : r < 2048) (h1 : r ≠ 65533) (hv : Lib.validRune r = true) :
    Calls Tryz.prog 174 #[.string ⟨#[47, 0]⟩, .int .i32 r] w fun e w' => e = .returned (.int .i64 (-1)) ∧ ∃ k, w' = w.drewN k := by
  have hV := fun w => Tryz.utf8_ValidRune r w
  rw [hv] at hV
  obtain ⟨b1, b2, hE, hb⟩ := enc_two r h0 hr
  have q1 : (r == 65533) = false := beq_eq_false_iff_ne.2 h1
  have q2 : ¬ r < 128 := by omega
  have q3 : (0 : Int) ≤ r := by omega
  have q4 : ((((⟨#[47, 0]⟩ : ByteArray)[1]'(by decide)).toNat : Int) != (((⟨#[b1, b2]⟩ : ByteArray)[1]'(two_lt b1 b2)).toNat : Int)) = true := by
    show ((0 : Int) != (b2.toNat : Int)) = true
    rw [bne, beq_eq_false_iff_ne.2 (by omega)]; rfl
  have hI := fun w => Tryz.strings_IndexByte ⟨#[]⟩ (b2.toNat : Int) w
  rw [show Lib.indexByte (⟨#[]⟩ : ByteArray).data.toList ((b2.toNat : Int)).toNat.toUInt8 = -1 from rfl] at hI
  have HV := Lib.hid hV; have HI := Lib.hid hI; clear hV hI hv h1
  go_enter Tryz.func174, Tryz.ntmps174
  go_wp2_with (go_at_call 178; refine (HV.out _).mono ?_; rintro e w' ⟨rfl, rfl⟩)
  go_step3
  go_wp2
  clear hE
  go_loop [9] (fun i => i = .int .i64 1) (fun i => 0)
  case atStart => first | rfl | trace_state
  case round =>
    subst hrel
    go_wp2
    go_step3
    go_wp2
    go_quiet (fail)
    go_wp2
    go_quiet ((go_at_call 48; exact quiet_add_same (HI.out _)))
    go_wp2
    rw [Exit.noGoto_ret]
    go_wp2
    try rw [Exit.noGoto_ret]
    go_ret
    exact ⟨rfl, _, rfl⟩

set_option maxHeartbeats 4000000 in
set_option maxRecDepth 1000000 in
theorem irune_err (w : World) :
    Calls Tryz.prog 174 #[.string ⟨#[47, 0]⟩, .int .i32 65533] w fun e w' => e = .returned (.int .i64 (-1)) ∧ Below w.heap.size w w' := by
  go_enter Tryz.func174, Tryz.ntmps174
  go_wp2
  go_loopg [5, 6] 2 (fun g _ _ wx => ∃ i : Nat, i + g = 2 ∧ wx = w.iter ⟨#[47, 0]⟩ i)
  case atStart => exact ⟨0, by omega, rfl⟩
  case round =>
    obtain ⟨i, hig, rfl⟩ := hrel
    cases gk with
    | zero =>
      obtain rfl : i = 2 := by omega
      have hnx := run_next_end (P := Tryz.prog) w ⟨#[47, 0]⟩ 2
      go_wp2
      go_ret
      exact ⟨rfl, (Below.refl _ w).alloc (Nat.le_refl _) _⟩
    | succ g =>
      have hi : i < 2 := by omega
      rcases (show i = 0 ∨ i = 1 by omega) with rfl | rfl
      · have hnx := fun ty => run_next_ascii (P := Tryz.prog) w ⟨#[47, 0]⟩ 0 ty (by decide) (by decide)
        go_wp2
        go_roundg g
        case measure => omega
        case rel => exact ⟨1, by omega, rfl⟩
      · have hnx := fun ty => run_next_ascii (P := Tryz.prog) w ⟨#[47, 0]⟩ 1 ty (by decide) (by decide)
        go_wp2
        go_roundg g
        case measure => omega
        case rel => exact ⟨2, by omega, rfl⟩

theorem irune_high (r : Int) (w : World) (h0 : 128 ≤ r) (hr : r ≤ 2147483647) :
    Calls Tryz.prog 174 #[.string ⟨#[47, 0]⟩, .int .i32 r] w fun e w' => e = .returned (.int .i64 (-1)) ∧ Below w.heap.size w w' := by
  by_cases h1 : r = 65533
  · subst h1; exact irune_err w
  · cases hv : Lib.validRune r with
    | false => exact (irune_bad r w h0 h1 hv).mono fun e w' ⟨he, hw⟩ => ⟨he, hw ▸ Below.refl _ _⟩
    | true =>
      by_cases h2 : r < 2048
      · exact (irune_two r w h0 h2 h1 hv).mono fun e w' ⟨he, k, hw⟩ => ⟨he, hw ▸ below_drewN' (Below.refl _ _) k⟩
      · exact (irune_long r w (by omega) hr h1 hv).mono fun e w' ⟨he, hw⟩ => ⟨he, hw ▸ Below.refl _ _⟩


theorem ret_int {k : IntKind} {a b : Int} (h : a = b) : Ending.returned (.int k a) = .returned (.int k b) := by rw [h]

theorem getD! (s : ByteArray) (i : Nat) (h : i < s.size) : s.get! i = s[i] := by
  have := get_at s i h; simpa using this

/-- What a rune beyond ASCII takes up: bytes beyond ASCII. -/
theorem dec_high (s : ByteArray) (i : Nat) (h : i < s.size) (ha : 128 ≤ (s[i]).toNat) :
    1 ≤ (Utf8.decode s i).2 ∧ i + (Utf8.decode s i).2 ≤ s.size ∧ ∀ (j : Nat) b, i ≤ j → j < i + (Utf8.decode s i).2 → s.data.toList[j]? = some b → 128 ≤ b.toNat := by
  have hg := getD! s i h
  have hd := Lib.decode_at s i
  have hb : ∀ (j : Nat) b, s.data.toList[j]? = some b → (s.get! j).toNat = b.toNat := fun j b hj => by
    have hlt : j < s.size := by rw [sizeD]; exact (List.getElem?_eq_some_iff.1 hj).1
    rw [getD! s j hlt]
    have := getD? s j hlt
    rw [hj] at this; cases this; rfl
  have key : ∀ k, (Utf8.decode s i).2 = k → 1 ≤ k ∧ i + k ≤ s.size ∧ ∀ d, 1 ≤ d → d < k → 128 ≤ (s.get! (i + d)).toNat := by
    intro k hk
    rw [hd] at hk
    unfold Lib.decodeN at hk
    rw [hg, if_neg (by omega)] at hk
    have hs : ∀ d, 1 ≤ d → d < 4 → d = 1 ∨ d = 2 ∨ d = 3 := fun d h1 h2 => by omega
    have h1 : ∀ {a b : Nat}, (a, b).2 = k → b = k := fun h => h
    split at hk
    · rename_i hc
      split at hk
      · obtain rfl := h1 hk
        refine ⟨by omega, by omega, fun d h1 h2 => ?_⟩
        obtain rfl : d = 1 := by omega
        omega
      · obtain rfl := h1 hk
        exact ⟨by omega, by omega, fun d h1 h2 => by omega⟩
    · split at hk
      · rename_i hc
        split at hk
        · obtain rfl := h1 hk
          refine ⟨by omega, by omega, fun d h1 h2 => ?_⟩
          rcases (show d = 1 ∨ d = 2 by omega) with rfl | rfl <;> omega
        · obtain rfl := h1 hk
          exact ⟨by omega, by omega, fun d h1 h2 => by omega⟩
      · split at hk
        · rename_i hc
          split at hk
          · obtain rfl := h1 hk
            refine ⟨by omega, by omega, fun d h1 h2 => ?_⟩
            rcases (show d = 1 ∨ d = 2 ∨ d = 3 by omega) with rfl | rfl | rfl <;> omega
          · obtain rfl := h1 hk
            exact ⟨by omega, by omega, fun d h1 h2 => by omega⟩
        · obtain rfl := h1 hk
          exact ⟨by omega, by omega, fun d h1 h2 => by omega⟩
  obtain ⟨k1, k2, k3⟩ := key _ rfl
  refine ⟨k1, k2, fun j b hij hj hjb => ?_⟩
  by_cases e : j = i
  · subst e
    have := getD? s j h
    rw [hjb] at this; cases this; exact ha
  · rw [← hb j b hjb, show j = i + (j - i) by omega]
    exact k3 (j - i) (by omega) (by omega)

set_option maxHeartbeats 400000 in
theorem sets_any (n : Int) (w : World) :
    Calls Tryz.prog 175 #[.int .i64 n] w fun e w' => e = .returned (.bool (decide (8 < n))) ∧ w = w' := by
  go_enter Tryz.func175, Tryz.ntmps175
  go_wp2
  go_ret
  exact ⟨rfl, rfl⟩

/-- What the loop of a short IndexAny holds. -/
def IaRel (s : ByteArray) (w : World) (g : Nat) (wx : World) : Prop :=
  ∃ i : Nat, i ≤ s.size ∧ s.size - i ≤ g ∧ wx.heap[w.heap.size]? = some (.stringIter s i) ∧ Below w.heap.size w wx ∧ Lib.NoAny s.data.toList [47, 0] i

set_option maxHeartbeats 4000000 in
set_option maxRecDepth 1000000 in
theorem iany_short (s : ByteArray) (w : World) (h8 : s.size ≤ 8) :
    Calls Tryz.prog 173 #[.string s, .string ⟨#[47, 0]⟩] w fun e w' => e = .returned (.int .i64 (Lib.indexAny s.data.toList [47, 0])) ∧ Below w.heap.size w w' := by
  have hA := fun w => sets_any (s.size : Int) w
  rw [show decide ((8 : Int) < (s.size : Int)) = false from decide_eq_false (by omega)] at hA
  obtain ⟨R, hR⟩ : ∃ R, Lib.indexAny s.data.toList [47, 0] = R := ⟨_, rfl⟩
  rw [hR]
  have hst : IaRel s w s.size (w.iter s 0) := ⟨0, by omega, by omega, World.iter_heap w s 0, (Below.refl _ w).alloc (Nat.le_refl _) _, Lib.NoAny.zero _ _⟩
  have HA := Lib.hid hA; have HR := Lib.hid hR; clear hA hR
  go_enter Tryz.func173, Tryz.ntmps173
  go_wp2_with (go_at_call 175; refine (HA.out _).mono ?_; rintro e w' ⟨rfl, rfl⟩)
  go_loopg [9, 10] s.size (fun g _ _ wx => IaRel s w g wx)
  case atStart => exact hst
  case round =>
    clear hst
    obtain ⟨i, hi1, hig, hit, hB, hno⟩ := hrel
    have HN := Lib.hid hno; clear hno
    have hBs := hB.size
    have hlt2 : w.heap.size < wr.heap.size := (Array.getElem?_eq_some_iff.1 hit).1
    by_cases hi : i < s.size
    · obtain ⟨g, rfl⟩ : ∃ g, gk = g + 1 := ⟨gk - 1, by omega⟩
      by_cases hx : (s[i]).toNat < 128
      · have hxl := getD? s i hi
        have hnx := fun ty => Lib.run_next_ascii_at (P := Tryz.prog) wr w.heap.size s i ty hit hi hx
        have hh := Lib.iterAt_heap wr w.heap.size s i (i + 1) hit
        have hb2 := Lib.below_iterAt hB (Nat.le_refl _) s (i + 1)
        generalize s[i] = x at *
        generalize wr.iterAt w.heap.size s (i + 1) = W2 at *
        have hcon := Lib.contains_iff_indexByte [47, 0] x
        have hback : ((x.toNat : Int)).toNat.toUInt8 = x := by simp
        have hI := fun w => Tryz.strings_IndexRune_ascii ⟨#[47, 0]⟩ (x.toNat : Int) w (by omega) (by omega)
        rw [hback, show (⟨#[47, 0]⟩ : ByteArray).data.toList = [47, 0] from rfl] at hI
        have HX := Lib.hid hxl; have HI := Lib.hid hI; clear hxl hI hback hit
        generalize Lib.indexByte [47, 0] x = J at *
        cases hin : ([47, 0] : List UInt8).contains x
        · rw [hin] at hcon
          have hlt : ¬ ((0 : Int) ≤ J) := of_decide_eq_false hcon.symm
          have hn2 := HN.out.succ HX.out hin
          have HN2 := Lib.hid hn2
          clear hcon hin hn2
          go_wp2_with (go_at_call 174; refine (HI.out _).mono ?_; rintro e w' ⟨rfl, hw⟩; rw [hw])
          go_roundg g
          case measure => omega
          case rel => exact ⟨i + 1, by omega, by omega, hh, hb2, HN2.out⟩
        · rw [hin] at hcon
          have hge : (0 : Int) ≤ J := of_decide_eq_true hcon.symm
          have hr := Lib.indexAny_hit HN.out HX.out hin
          have HR2 := Lib.hid hr
          clear hcon hin hr
          go_wp2_with (go_at_call 174; refine (HI.out _).mono ?_; rintro e w' ⟨rfl, hw⟩; rw [hw])
          go_ret
          exact ⟨ret_int (HR2.out.symm.trans HR.out), hb2⟩
      · have hx2 : 128 ≤ (s[i]).toNat := by omega
        obtain ⟨d1, d2, d3⟩ := dec_high s i hi hx2
        obtain ⟨r1, r2⟩ := decode_high s i hi hx2
        have r3 := decode_le s i
        have hnx := fun ty => Lib.run_next_any_at (P := Tryz.prog) wr w.heap.size s i ty hit hi
        have hh := Lib.iterAt_heap wr w.heap.size s i (i + (Utf8.decode s i).2) hit
        have hb2 := Lib.below_iterAt hB (Nat.le_refl _) s (i + (Utf8.decode s i).2)
        have hn2 : Lib.NoAny s.data.toList [47, 0] (i + (Utf8.decode s i).2) := fun j b hj hb => by
          by_cases hji : j < i
          · exact HN.out j b hji hb
          · have := d3 j b (by omega) hj hb
            simp
            constructor
            · intro e; subst e; exact absurd this (by decide)
            · intro e; subst e; exact absurd this (by decide)
        have HN2 := Lib.hid hn2
        generalize (Utf8.decode s i).1 = r at *
        generalize (Utf8.decode s i).2 = k at *
        have hsz2 : (wr.iterAt w.heap.size s (i + k)).heap.size = wr.heap.size := Lib.iterAt_size _ _ _ _
        generalize wr.iterAt w.heap.size s (i + k) = W2 at *
        have hI := fun w => irune_high (r : Int) w (by omega) (by omega)
        have HI := Lib.hid hI; clear hI hn2 d3 hit hx hx2
        go_wp2_with (go_at_call 174; refine (HI.out _).mono ?_; rintro e w3 ⟨rfl, hb3⟩)
        have hh3 : w3.heap[w.heap.size]? = some (.stringIter s (i + k)) := (hb3.block _ (by omega)).trans hh
        go_roundg g
        case measure => omega
        case rel => exact ⟨i + k, by omega, by omega, hh3, hb2.trans (hb3.mono (by omega)), HN2.out⟩
    · have hnx := fun ty => Lib.run_next_end_at (P := Tryz.prog) wr w.heap.size s i ty hit hi
      have hie : i = s.data.toList.length := by rw [← sizeD]; omega
      have hr := Lib.indexAny_none (s := s.data.toList) (chars := [47, 0]) (by rw [← hie]; exact HN.out)
      have HR2 := Lib.hid hr
      clear hr hit hie
      go_wp2
      go_ret
      exact ⟨ret_int (HR2.out.symm.trans HR.out), hB⟩

theorem zero256 (w : World) : (zeroValue 221).run Tryz.prog w = .ok (.agg (Array.replicate 256 (.bool false))) w := by kernel_rfl

theorem iany_any (s : ByteArray) (w : World) (hs : s.size ≤ 64) :
    Calls Tryz.prog 173 #[.string s, .string ⟨#[47, 0]⟩] w fun e w' => e = .returned (.int .i64 (Lib.indexAny s.data.toList [47, 0])) ∧ Below w.heap.size w w' := by
  by_cases h8 : s.size ≤ 8
  · exact iany_short s w h8
  · refine (Tryz.strings_IndexAny_long zero256 s ⟨#[47, 0]⟩ w (by decide) (by omega) (by omega) (by decide) ?_).mono ?_
    · intro j b hj
      have h2 : ([47, 0] : List UInt8)[j]? = some b := hj
      match j, h2 with
      | 0, h => simp at h; subst h; decide
      | 1, h => simp at h; subst h; decide
      | (n + 2), h => simp at h
    · rintro e w' ⟨he, rfl⟩
      exact ⟨he, ((Below.refl _ w).alloc (Nat.le_refl _) _).alloc (by simp) _⟩

theorem any_bad (l : Bs) : decide (0 ≤ Lib.indexAny l [47, 0]) = (l.contains 47 || l.contains 0) := by
  induction l with
  | nil => rfl
  | cons c l ih =>
    have hge := Lib.indexAny_ge [47, 0] l
    have g1 : (c :: l).contains 47 = (((47 : UInt8) == c) || l.contains 47) := List.contains_cons
    have g2 : (c :: l).contains 0 = (((0 : UInt8) == c) || l.contains 0) := List.contains_cons
    rw [Lib.indexAny, g1, g2]
    by_cases h1 : c = 47
    · subst h1; simp
    · by_cases h2 : c = 0
      · subst h2; simp
      · have hc : ([47, 0] : List UInt8).contains c = false := by simp [h1, h2]
        have e1 : ((47 : UInt8) == c) = false := beq_eq_false_iff_ne.2 (fun e => h1 e.symm)
        have e2 : ((0 : UInt8) == c) = false := beq_eq_false_iff_ne.2 (fun e => h2 e.symm)
        rw [hc, e1, e2, Bool.false_or, Bool.false_or, ← ih]
        simp only [Bool.false_eq_true, if_false]
        by_cases hm : Lib.indexAny l [47, 0] = -1
        · rw [hm]; rfl
        · rw [if_neg (by simpa using hm)]
          exact decide_eq_decide.2 (by omega)

set_option maxHeartbeats 400000 in
theorem contains_any (s : ByteArray) (w : World) (hs : s.size ≤ 64) :
    Calls Tryz.prog 170 #[.string s, .string ⟨#[47, 0]⟩] w fun e w' => e = .returned (.bool (s.data.toList.contains 47 || s.data.toList.contains 0)) ∧ Below w.heap.size w w' := by
  have hI := fun w => iany_any s w hs
  have hb := any_bad s.data.toList
  generalize Lib.indexAny s.data.toList [47, 0] = J at *
  generalize (s.data.toList.contains 47 || s.data.toList.contains 0) = R at *
  have HI := Lib.hid hI; have HB := Lib.hid hb; clear hI hb
  go_enter Tryz.func170, Tryz.ntmps170
  go_wp2_with (go_at_call 173; refine (HI.out _).mono ?_; rintro e w1 ⟨rfl, hb1⟩)
  go_ret
  exact ⟨ret_bool HB.out, hb1⟩

set_option maxHeartbeats 1000000 in
theorem name_any (s : ByteArray) (w : World) (hs : s.size ≤ maxLen) :
    Calls Tryz.prog 163 #[.string s] w fun e w' => e = .returned (.bool (nameB s.data.toList)) ∧ Below w.heap.size w w' := by
  have hsz := sizeD s
  have b1 : (s.toList == [46]) = (s.data.toList == [46]) := by rw [listD]
  have b2 : (s.toList == [46, 46]) = (s.data.toList == [46, 46]) := by rw [listD]
  have hN : nameB s.data.toList = (!s.data.toList.isEmpty && decide (s.size ≤ 64) && !s.data.toList.contains 47 && !s.data.toList.contains 0 && !(s.data.toList == [46]) && !(s.data.toList == [46, 46])) := by
    unfold nameB
    rw [← hsz]; rfl
  have hC := fun (h : s.size ≤ 64) w => contains_any s w h
  have he : s.toList.isEmpty = s.data.toList.isEmpty := by rw [listD]
  unfold maxLen at hs
  generalize nameB s.data.toList = N at *
  generalize s.data.toList.contains 47 = p1 at *
  generalize s.data.toList.contains 0 = p2 at *
  generalize (s.data.toList == [46]) = p3 at *
  generalize (s.data.toList == [46, 46]) = p4 at *
  generalize s.data.toList.isEmpty = p5 at *
  have HN := Lib.hid hN; have HC := Lib.hid hC; clear hN hsz hC
  by_cases h2 : s.size ≤ 64
  · have d2 : decide (s.size ≤ 64) = true := decide_eq_true h2
    rw [d2] at HN
    obtain ⟨p6, hq⟩ : ∃ p6, (p1 || p2) = p6 := ⟨_, rfl⟩
    have hc2 := HC.out h2
    rw [hq] at hc2
    have HC2 := Lib.hid hc2
    clear d2 HC hc2
    cases p5 <;> cases p3 <;> cases p4 <;> cases p1 <;> cases p2
    all_goals
      simp at hq
      subst hq
      go_enter Tryz.func163, Tryz.ntmps163
      first
        | (go_wp2_with fail
           go_ret
           exact ⟨ret_bool (by rw [HN.out]; rfl), Below.refl _ _⟩)
        | (go_wp2_with fail
           refine (HC2.out _).mono ?_
           rintro e w1 ⟨rfl, hb1⟩
           go_wp2_with fail
           go_ret
           exact ⟨ret_bool (by rw [HN.out]; rfl), hb1⟩)
  · have d2 : decide (s.size ≤ 64) = false := decide_eq_false h2
    rw [d2] at HN
    clear d2 HC
    cases p5 <;> cases p3 <;> cases p4 <;> cases p1 <;> cases p2
    all_goals
      go_enter Tryz.func163, Tryz.ntmps163
      go_wp2_with fail
      go_ret
      exact ⟨ret_bool (by rw [HN.out]; rfl), Below.refl _ _⟩

end Go.Proofs.YtpicgkoclbpjpaaGreatDoor
end
