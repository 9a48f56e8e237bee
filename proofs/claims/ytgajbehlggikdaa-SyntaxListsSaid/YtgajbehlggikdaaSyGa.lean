/- DERIVED. Plain mathematics of layer 8 (scripts): how a script is read, as the program reads it: no program, no world. -/
import Derived.Test.YtgajbehlggikdaaWdFm
namespace SyM
open PathM WdM
set_option linter.unusedVariables false

/-- An assignment, a redirection. -/
structure AsT where
  name : Bs
  word : List PT
structure RdT where
  fd : Int
  op : Bs
  word : List PT
mutual
/-- A command. -/
inductive CmdT where
  | mk (kind : Int) (name : Bs) (assigns : List AsT) (words : List (List PT)) (cond body other : List LiT) (cases : List CsT) (redirs : List RdT)
/-- A case's branch. -/
inductive CsT where
  | mk (patterns : List (List PT)) (body : List LiT)
/-- A pipe. -/
inductive PiT where
  | mk (neg : Bool) (cmds : List CmdT)
/-- A list. -/
inductive LiT where
  | mk (pipes : List PiT) (ops : List Bs)
end
def CmdT.none_ (k : Int) : CmdT := .mk k [] [] [] [] [] [] [] []
def CmdT.withR : CmdT → List RdT → CmdT | .mk k n a w c b o cs _, r => .mk k n a w c b o cs r
def alone (c : CmdT) : List LiT := [.mk [.mk false [c]] []]

/-- What is left behind what is passed over. -/
def aheadL : Bs → Bs
  | [] => []
  | c :: t =>
    if c = 32 then aheadL t
    else if c = 9 then aheadL t
    else if c = 92 then (match t with
      | [] => c :: t
      | d :: t' => if d = 10 then aheadL t' else c :: t)
    else if c = 35 then t.dropWhile (fun d => d != 10)
    else c :: t
def signsL : List Bs := [[38, 38], [124, 124], [59, 59], [62, 62], [60, 38], [62, 38], [10], [38], [124], [59], [60], [62], [40], [41]]
def signOf (l : Bs) : Bs := (signsL.find? fun o => stands o l).getD []
def keyOf (w : List PT) : Option Bs := match w with
  | [.mk k q t _ _] => if k = 1 ∧ q = false then some t else none
  | _ => none
/-- The sign, or the key word, that stands next, and what is left behind it. -/
def nextL (l : Bs) : Bs × Bs :=
  if signOf (aheadL l) ≠ [] then (signOf (aheadL l), (aheadL l).drop (signOf (aheadL l)).length)
  else match scan (aheadL l) with
    | .bad _ _ => ([], aheadL l)
    | .ok w r => match keyOf w with
      | some t => (t, r)
      | none => ([], aheadL l)
def passL (what l : Bs) : Option Bs := if (nextL l).1 = what then some (nextL l).2 else none
def overL (l : Bs) : Bool := (aheadL l).isEmpty
def newlinesN : Nat → Bs → Bs
  | 0, l => l
  | n + 1, l => match passL [10] l with
    | none => l
    | some r => newlinesN n r
def newlinesL (l : Bs) : Bs := newlinesN (l.length + 1) l
def refuse {α : Type} (l : Bs) : Rs α := .bad (aheadL l).length (if aheadL l = [] then 62 else 61)
def needL (what l : Bs) : Rs Unit := match passL what l with
  | some r => .ok () r
  | none => refuse l
def wordStands (l : Bs) : Bool := match aheadL l with
  | [] => false
  | c :: _ => !meta_ c
/-- The first fault of scripts in a word; sc: that of a script. -/
def scriptsF (sc : Bs → Option Int) : List PT → Option Int
  | [] => none
  | .mk k _ t _ w :: r => match (if k = 3 then sc t else none) with
    | some e => some e
    | none => match scriptsF sc w with
      | some e => some e
      | none => scriptsF sc r
def wordL (sc : Bs → Option Int) (l : Bs) : Rs (List PT) :=
  if wordStands l then match scan (aheadL l) with
    | .bad a e => if e = 61 ∧ a = 0 then .bad a 62 else .bad a e
    | .ok w r => match scriptsF sc w with
      | some e => .bad (aheadL l).length e
      | none => .ok (if w = [] then [litP true []] else w) r
  else refuse l
/-- The redirection's number, sign, and what is left behind them. -/
def arrowAt (fd : Option Int) (l : Bs) : Option (Int × Bs × Bs) :=
  let op := signOf l
  if op = [60] ∨ op = [60, 38] then some (fd.getD 0, op, l.drop op.length)
  else if op = [62] ∨ op = [62, 62] ∨ op = [62, 38] then some (fd.getD 1, op, l.drop op.length)
  else none
def arrowL (l : Bs) : Option (Int × Bs × Bs) := match aheadL l with
  | [] => none
  | c :: t => if digit c then arrowAt (some ((c.toNat : Int) - 48)) t else arrowAt none (c :: t)
def redirL (sc : Bs → Option Int) (l : Bs) : Rs RdT := match arrowL l with
  | none => .bad 0 0
  | some (fd, op, r) => match wordL sc r with
    | .bad a e => .bad a e
    | .ok w r2 => .ok ⟨fd, op, w⟩ r2
def redirsN (sc : Bs → Option Int) : Nat → List RdT → Bs → Rs (List RdT)
  | 0, acc, l => .ok acc l
  | n + 1, acc, l => match arrowL l with
    | none => .ok acc l
    | some _ => match redirL sc l with
      | .bad a e => .bad a e
      | .ok x r => redirsN sc n (acc ++ [x]) r
/-- A word as an assignment. -/
def assignL (w : List PT) : Option AsT := match w with
  | .mk k q t _ _ :: rest =>
    if k = 1 ∧ q = false then
      (if Go.Lib.indexByte t 61 < 0 then none
      else if isName (t.take (Go.Lib.indexByte t 61).toNat) then
        some ⟨t.take (Go.Lib.indexByte t 61).toNat, (if t.drop ((Go.Lib.indexByte t 61).toNat + 1) = [] then [] else [litP false (t.drop ((Go.Lib.indexByte t 61).toNat + 1))]) ++ rest⟩
      else none)
    else none
  | [] => none
def endingL (k : Bs) : Bool := [[116, 104, 101, 110], [101, 108, 115, 101], [101, 108, 105, 102], [102, 105], [100, 111], [100, 111, 110, 101], [101, 115, 97, 99], [125]].contains k
def simpleN (sc : Bs → Option Int) : Nat → List AsT → List (List PT) → List RdT → Bs → Rs CmdT
  | 0, as, ws, rs, l => .ok (.mk 1 [] as ws [] [] [] [] rs) l
  | n + 1, as, ws, rs, l =>
    if (arrowL l).isSome then match redirL sc l with
      | .bad a e => .bad a e
      | .ok x r => simpleN sc n as ws (rs ++ [x]) r
    else if wordStands l then match wordL sc l with
      | .bad a e => .bad a e
      | .ok w r => match assignL w with
        | some x => if ws = [] then simpleN sc n (as ++ [x]) ws rs r else simpleN sc n as (ws ++ [w]) rs r
        | none => simpleN sc n as (ws ++ [w]) rs r
    else .ok (.mk 1 [] as ws [] [] [] [] rs) l
def simpleL (sc : Bs → Option Int) (l : Bs) : Rs CmdT :=
  if endingL (nextL l).1 = true ∨ ((arrowL l).isNone = true ∧ wordStands l = false) then refuse l else simpleN sc (l.length + 1) [] [] [] l
/-- A key word that is a name. -/
def nameL (l : Bs) : Rs Bs := if isName (nextL l).1 then .ok (nextL l).1 (nextL l).2 else refuse l
def listsEnd (l : Bs) : Bool := (nextL l).1 == [41] || (nextL l).1 == [59, 59] || endingL (nextL l).1 || overL l
/-- What is within a level: lists, what an if has behind it, commands that a sign or a key word begins, a function's body, a script's fault. -/
structure Lv where
  lists : Bs → Rs (List LiT)
  choice : Bs → Rs CmdT
  compound : Bs → Rs (Option CmdT)
  body : Bs → Rs (Option CmdT)
  sc : Bs → Option Int
def listsTo (v : Bs → Rs (List LiT)) (what l : Bs) : Rs (List LiT) := match v l with
  | .bad a e => .bad a e
  | .ok x r => match needL what r with
    | .bad a e => .bad a e
    | .ok _ r2 => .ok x r2
def thenK : Bs := [116, 104, 101, 110]
def elseK : Bs := [101, 108, 115, 101]
def elifK : Bs := [101, 108, 105, 102]
def fiK : Bs := [102, 105]
def doK : Bs := [100, 111]
def doneK : Bs := [100, 111, 110, 101]
def inK : Bs := [105, 110]
def esacK : Bs := [101, 115, 97, 99]
def choiceL (lists : Bs → Rs (List LiT)) (elif : Bs → Rs CmdT) (l : Bs) : Rs CmdT := match listsTo lists thenK l with
  | .bad a e => .bad a e
  | .ok c r => match lists r with
    | .bad a e => .bad a e
    | .ok b r2 => match passL elseK r2 with
      | some r3 => (match listsTo lists fiK r3 with
        | .bad a e => .bad a e
        | .ok o r4 => .ok (.mk 4 [] [] [] c b o [] []) r4)
      | none => match passL elifK r2 with
        | some r3 => (match elif r3 with
          | .bad a e => .bad a e
          | .ok o r4 => .ok (.mk 4 [] [] [] c b (alone o) [] []) r4)
        | none => match needL fiK r2 with
          | .bad a e => .bad a e
          | .ok _ r4 => .ok (.mk 4 [] [] [] c b [] [] []) r4
def loopL (lists : Bs → Rs (List LiT)) (k : Int) (l : Bs) : Rs CmdT := match listsTo lists doK l with
  | .bad a e => .bad a e
  | .ok c r => match listsTo lists doneK r with
    | .bad a e => .bad a e
    | .ok b r2 => .ok (.mk k [] [] [] c b [] [] []) r2
def wordsN (sc : Bs → Option Int) : Nat → List (List PT) → Bs → Rs (List (List PT))
  | 0, acc, l => .ok acc l
  | n + 1, acc, l => if wordStands l then match wordL sc l with
      | .bad a e => .bad a e
      | .ok w r => wordsN sc n (acc ++ [w]) r
    else .ok acc l
/-- The words of a for, with in ahead, or those that stand for them. -/
def inWords (sc : Bs → Option Int) (r : Bs) : Rs (List (List PT)) := match passL inK (newlinesL r) with
  | some r2 => wordsN sc (r2.length + 1) [] r2
  | none => .ok [[.mk 2 true [64] [] []]] (newlinesL r)
def eachL (lists : Bs → Rs (List LiT)) (sc : Bs → Option Int) (l : Bs) : Rs CmdT := match nameL l with
  | .bad a e => .bad a e
  | .ok nm r => match inWords sc r with
    | .bad a e => .bad a e
    | .ok ws r3 => match needL doK (newlinesL ((passL [59] r3).getD r3)) with
      | .bad a e => .bad a e
      | .ok _ r4 => match listsTo lists doneK r4 with
        | .bad a e => .bad a e
        | .ok b r5 => .ok (.mk 7 nm [] ws [] b [] [] []) r5
def patsN (sc : Bs → Option Int) : Nat → List (List PT) → Bs → Rs (List (List PT))
  | 0, acc, l => .ok acc l
  | n + 1, acc, l => match passL [124] l with
    | none => .ok acc l
    | some r => match wordL sc r with
      | .bad a e => .bad a e
      | .ok w r2 => patsN sc n (acc ++ [w]) r2
def branchL (lists : Bs → Rs (List LiT)) (sc : Bs → Option Int) (l : Bs) : Rs CsT := match wordL sc ((passL [40] l).getD l) with
  | .bad a e => .bad a e
  | .ok w r => match patsN sc (r.length + 1) [w] r with
    | .bad a e => .bad a e
    | .ok ps r2 => match needL [41] r2 with
      | .bad a e => .bad a e
      | .ok _ r3 => if listsEnd (newlinesL r3) then .ok (.mk ps []) (newlinesL r3) else match lists (newlinesL r3) with
        | .bad a e => .bad a e
        | .ok b r4 => .ok (.mk ps b) r4
def branchesN (lists : Bs → Rs (List LiT)) (sc : Bs → Option Int) : Nat → List CsT → Bs → Rs (List CsT)
  | 0, acc, l => .ok acc l
  | n + 1, acc, l => match passL esacK l with
    | some r => .ok acc r
    | none => match branchL lists sc l with
      | .bad a e => .bad a e
      | .ok x r => match passL [59, 59] r with
        | some r2 => branchesN lists sc n (acc ++ [x]) (newlinesL r2)
        | none => match needL esacK r with
          | .bad a e => .bad a e
          | .ok _ r2 => .ok (acc ++ [x]) r2
def caseL (lists : Bs → Rs (List LiT)) (sc : Bs → Option Int) (l : Bs) : Rs CmdT := match wordL sc l with
  | .bad a e => .bad a e
  | .ok w r => match needL inK (newlinesL r) with
    | .bad a e => .bad a e
    | .ok _ r2 => match branchesN lists sc (r2.length + 1) [] (newlinesL r2) with
      | .bad a e => .bad a e
      | .ok cs r3 => .ok (.mk 8 [] [] [w] [] [] [] cs []) r3
/-- A command that a sign or a key word begins; none: none stands next. -/
def compoundL (lists : Bs → Rs (List LiT)) (choice : Bs → Rs CmdT) (sc : Bs → Option Int) (l : Bs) : Rs (Option CmdT) :=
  let k := (nextL l).1
  let r := (nextL l).2
  let m : Option (Rs CmdT) :=
    if k = [40] then some (match listsTo lists [41] r with
      | .bad a e => .bad a e
      | .ok b r2 => .ok (.mk 3 [] [] [] [] b [] [] []) r2)
    else if k = [123] then some (match listsTo lists [125] r with
      | .bad a e => .bad a e
      | .ok b r2 => .ok (.mk 2 [] [] [] [] b [] [] []) r2)
    else if k = [105, 102] then some (choice r)
    else if k = [119, 104, 105, 108, 101] then some (loopL lists 5 r)
    else if k = [117, 110, 116, 105, 108] then some (loopL lists 6 r)
    else if k = [102, 111, 114] then some (eachL lists sc r)
    else if k = [99, 97, 115, 101] then some (caseL lists sc r)
    else none
  match m with
  | none => .ok none l
  | some (.bad a e) => .bad a e
  | some (.ok c r2) => match redirsN sc (r2.length + 1) [] r2 with
    | .bad a e => .bad a e
    | .ok rs r3 => .ok (some (c.withR rs)) r3
def functionL (body : Bs → Rs (Option CmdT)) (l : Bs) : Rs CmdT := match nameL l with
  | .bad a e => .bad a e
  | .ok nm r => match needL [40] r with
    | .bad a e => .bad a e
    | .ok _ r2 => match needL [41] r2 with
      | .bad a e => .bad a e
      | .ok _ r3 => match body (newlinesL r3) with
        | .bad a e => .bad a e
        | .ok none r4 => refuse r4
        | .ok (some c) r4 => .ok (.mk 9 nm [] [] [] (alone c) [] [] []) r4
def commandL (v : Lv) (l : Bs) : Rs CmdT := match v.compound l with
  | .bad a e => .bad a e
  | .ok (some c) r => .ok c r
  | .ok none _ => if isName (nextL l).1 = true ∧ stands [40] (nextL l).2 = true then functionL v.body l else simpleL v.sc l
def commandsN (v : Lv) : Nat → List CmdT → Bs → Rs (List CmdT)
  | 0, acc, l => .ok acc l
  | n + 1, acc, l => match passL [124] l with
    | none => .ok acc l
    | some r => match commandL v (newlinesL r) with
      | .bad a e => .bad a e
      | .ok c r2 => commandsN v n (acc ++ [c]) r2
def pipeL (v : Lv) (l : Bs) : Rs PiT := match commandL v ((passL [33] l).getD l) with
  | .bad a e => .bad a e
  | .ok c r => match commandsN v (r.length + 1) [c] r with
    | .bad a e => .bad a e
    | .ok cs r2 => .ok (.mk (passL [33] l).isSome cs) r2
def pipesN (v : Lv) : Nat → List PiT → List Bs → Bs → Rs LiT
  | 0, ps, os, l => .ok (.mk ps os) l
  | n + 1, ps, os, l =>
    if (nextL l).1 = [38, 38] ∨ (nextL l).1 = [124, 124] then match pipeL v (newlinesL (nextL l).2) with
      | .bad a e => .bad a e
      | .ok p r => pipesN v n (ps ++ [p]) (os ++ [(nextL l).1]) r
    else .ok (.mk ps os) l
def listL (v : Lv) (l : Bs) : Rs LiT := match pipeL v l with
  | .bad a e => .bad a e
  | .ok p r => pipesN v (r.length + 1) [p] [] r
def listsN (v : Lv) : Nat → List LiT → Bs → Rs (List LiT)
  | 0, acc, l => .ok acc l
  | n + 1, acc, l => match (match passL [59] l with
      | some r => some r
      | none => passL [10] l) with
    | none => .ok acc l
    | some r => if listsEnd (newlinesL r) then .ok acc (newlinesL r) else match listL v (newlinesL r) with
      | .bad a e => .bad a e
      | .ok x r2 => listsN v n (acc ++ [x]) r2
/-- Lists, of which all stands within v. -/
def listsL (v : Lv) (l : Bs) : Rs (List LiT) :=
  if listsEnd (newlinesL l) then refuse (newlinesL l) else match listL v (newlinesL l) with
    | .bad a e => .bad a e
    | .ok x r => listsN v (r.length + 1) [x] r
def scriptL (lists : Bs → Rs (List LiT)) (l : Bs) : Rs (List LiT) :=
  if overL (newlinesL l) then .ok [] [] else match lists (newlinesL l) with
    | .bad a e => .bad a e
    | .ok x r => if overL r then .ok x [] else refuse r
def errOf {α : Type} : Rs α → Option Int
  | .bad _ e => some e
  | .ok _ _ => none
def tooDeep {α : Type} (l : Bs) : Rs α := .bad l.length 63
/-- The levels: n: how many more may stand within one another. -/
def lv : Nat → Lv
  | 0 => ⟨tooDeep, choiceL tooDeep tooDeep, compoundL tooDeep (choiceL tooDeep tooDeep) (fun t => errOf (scriptL tooDeep t)), fun l => .bad (aheadL l).length 63, fun t => errOf (scriptL tooDeep t)⟩
  | n + 1 =>
    let d := lv n
    ⟨listsL d, choiceL (listsL d) d.choice, compoundL (listsL d) (choiceL (listsL d) d.choice) (fun t => errOf (scriptL d.lists t)), d.compound, fun t => errOf (scriptL d.lists t)⟩
/-- What Parse reads of a text that is not too long. -/
def parseL (l : Bs) : Rs (List LiT) := scriptL (lv 17).lists l
end SyM

/- DERIVED. Plain mathematics of layer 8: scripts of plain words with ; newline && || | between (SyntaxLists). -/
namespace SyM
open PathM WdM
set_option linter.unusedVariables false

def opT (k : Nat) : Bs := if k = 0 then [59] else if k = 1 then [10] else if k = 2 then [32, 38, 38, 32] else if k = 3 then [124, 124] else [124]
def opsT : List Nat → Bs
  | [] => []
  | k :: r => opT k ++ 97 :: opsT r
/-- What may stand behind a plain word. -/
structure Ends (T : Bs) : Prop where
  arrow : arrowL T = none
  word : wordStands T = false
  par : stands [40] T = false
  stop : T = [] ∨ ∃ c t, T = c :: t ∧ meta_ c = true
theorem ends_nil : Ends [] := ⟨rfl, rfl, rfl, .inl rfl⟩
theorem ends_ops (ops : List Nat) : Ends (opsT ops) := by
  cases ops with
  | nil => exact ends_nil
  | cons k r =>
    rw [opsT, opT]
    by_cases h0 : k = 0
    · rw [if_pos h0]; exact ⟨by simp [arrowL, aheadL]; rfl, by simp [wordStands, aheadL]; rfl, rfl, .inr ⟨59, _, rfl, by decide⟩⟩
    rw [if_neg h0]
    by_cases h1 : k = 1
    · rw [if_pos h1]; exact ⟨by simp [arrowL, aheadL]; rfl, by simp [wordStands, aheadL]; rfl, rfl, .inr ⟨10, _, rfl, by decide⟩⟩
    rw [if_neg h1]
    by_cases h2 : k = 2
    · rw [if_pos h2]; exact ⟨by simp [arrowL, aheadL]; rfl, by simp [wordStands, aheadL]; rfl, rfl, .inr ⟨32, _, rfl, by decide⟩⟩
    rw [if_neg h2]
    by_cases h3 : k = 3
    · rw [if_pos h3]; exact ⟨by simp [arrowL, aheadL]; rfl, by simp [wordStands, aheadL]; rfl, rfl, .inr ⟨124, _, rfl, by decide⟩⟩
    rw [if_neg h3]
    exact ⟨by simp [arrowL, aheadL]; rfl, by simp [wordStands, aheadL]; rfl, rfl, .inr ⟨124, _, rfl, by decide⟩⟩
theorem scan_a {T : Bs} (h : T = [] ∨ ∃ c t, T = c :: t ∧ meta_ c = true) : scan (97 :: T) = .ok [litP false [97]] T := by
  unfold scan partsR
  have e : (97 :: T).length + 1 = (T.length + 1) + 1 := rfl
  rw [e, ploop]
  have hm : meta_ 97 = false := by decide
  simp only [hm, Bool.false_eq_true, if_false]
  have hs : step (recN 16) .empty false (97 :: T) = .ok (Ga.empty.add [97] false) T := by
    unfold step piece
    simp
  rw [hs]
  have h2 : ∀ g, ploop (recN 16) meta_ false (T.length + 1) g T = .ok g T := fun g => by
    rcases h with rfl | ⟨c, t, rfl, hc⟩
    · rfl
    · show (if meta_ c then Rs.ok g (c :: t) else _) = _
      rw [if_pos hc]
  simp only [h2]
  rfl
theorem ahead_a (T : Bs) : aheadL (97 :: T) = 97 :: T := by cases T <;> simp [aheadL]
theorem sign_a (T : Bs) : signOf (97 :: T) = [] := rfl
theorem next_a {l T : Bs} (hl : aheadL l = 97 :: T) (h : Ends T) : nextL l = ([97], T) := by
  unfold nextL
  rw [hl, sign_a, if_neg (by simp), scan_a h.stop]
  rfl
/-- The plain command. -/
def A0 : CmdT := .mk 1 [] [] [[litP false [97]]] [] [] [] [] []
theorem pass_a {l T what : Bs} (hl : aheadL l = 97 :: T) (h : Ends T) (hw : ¬ [97] = what) : passL what l = none := by
  unfold passL
  rw [next_a hl h, if_neg hw]
theorem newlines_a {l T : Bs} (hl : aheadL l = 97 :: T) (h : Ends T) : newlinesL l = l := by
  unfold newlinesL newlinesN
  rw [pass_a hl h (by decide)]
theorem word_a {l T : Bs} (sc : Bs → Option Int) (hl : aheadL l = 97 :: T) (h : Ends T) : wordL sc l = .ok [litP false [97]] T := by
  have hw : wordStands l = true := by unfold wordStands; rw [hl]; rfl
  unfold wordL
  have hs : scriptsF sc [litP false [97]] = none := by simp [litP, scriptsF]
  rw [if_pos hw, hl, scan_a h.stop]
  simp only [hs]
  rfl
theorem simple_a {l T : Bs} (sc : Bs → Option Int) (hl : aheadL l = 97 :: T) (h : Ends T) : simpleL sc l = .ok A0 T := by
  have hw : wordStands l = true := by unfold wordStands; rw [hl]; rfl
  have ha : arrowL l = none := by
    unfold arrowL
    rw [hl]
    rfl
  have hn : ¬ (endingL (nextL l).1 = true ∨ ((arrowL l).isNone = true ∧ wordStands l = false)) := by
    rw [next_a hl h, hw]
    show ¬ (endingL [97] = true ∨ _)
    intro e
    rcases e with e | e
    · exact absurd e (by decide)
    · exact absurd e.2 (by decide)
  unfold simpleL
  rw [if_neg hn, simpleN, ha]
  simp only [Option.isSome_none, Bool.false_eq_true, if_false, hw, if_true, word_a sc hl h]
  have hg : assignL [litP false [97]] = none := rfl
  rw [hg]
  simp only [List.nil_append]
  cases hl2 : l.length with
  | zero => exact absurd hl (by rw [List.length_eq_zero_iff.1 hl2]; intro e; cases e)
  | succ n =>
    rw [simpleN, h.arrow]
    simp only [Option.isSome_none, Bool.false_eq_true, if_false, h.word]
    rfl
/-- Commands that no sign and no key word begins. -/
def Plain (v : Lv) : Prop := ∀ l T, aheadL l = 97 :: T → Ends T → v.compound l = .ok none l
theorem compound_a (lists : Bs → Rs (List LiT)) (choice : Bs → Rs CmdT) (sc : Bs → Option Int) {l T : Bs} (hl : aheadL l = 97 :: T) (h : Ends T) : compoundL lists choice sc l = .ok none l := by
  unfold compoundL
  rw [next_a hl h]
  rfl
theorem plain_lv : ∀ n, Plain (lv n)
  | 0 => fun l T hl h => compound_a _ _ _ hl h
  | n + 1 => fun l T hl h => compound_a _ _ _ hl h
theorem command_a {v : Lv} (hv : Plain v) {l T : Bs} (hl : aheadL l = 97 :: T) (h : Ends T) : commandL v l = .ok A0 T := by
  unfold commandL
  rw [hv l T hl h]
  simp only [next_a hl h, h.par, Bool.false_eq_true, and_false, if_false]
  exact simple_a _ hl h
theorem nx_semi (t : Bs) : nextL (59 :: 97 :: t) = ([59], 97 :: t) := by
  have h : aheadL (59 :: 97 :: t) = 59 :: 97 :: t := by simp [aheadL]
  unfold nextL; rw [h]; rfl
theorem nx_line (t : Bs) : nextL (10 :: 97 :: t) = ([10], 97 :: t) := by
  have h : aheadL (10 :: 97 :: t) = 10 :: 97 :: t := by simp [aheadL]
  unfold nextL; rw [h]; rfl
theorem nx_and (t : Bs) : nextL (32 :: 38 :: 38 :: 32 :: 97 :: t) = ([38, 38], 32 :: 97 :: t) := by
  have h : aheadL (32 :: 38 :: 38 :: 32 :: 97 :: t) = 38 :: 38 :: 32 :: 97 :: t := by simp [aheadL]
  unfold nextL; rw [h]; rfl
theorem nx_or (t : Bs) : nextL (124 :: 124 :: 97 :: t) = ([124, 124], 97 :: t) := by
  have h : aheadL (124 :: 124 :: 97 :: t) = 124 :: 124 :: 97 :: t := by simp [aheadL]
  unfold nextL; rw [h]; rfl
theorem nx_bar (t : Bs) : nextL (124 :: 97 :: t) = ([124], 97 :: t) := by
  have h : aheadL (124 :: 97 :: t) = 124 :: 97 :: t := by simp [aheadL]
  unfold nextL; rw [h]; rfl
theorem nx_nil : nextL [] = ([], []) := rfl
/-- What stands behind a plain word, by its first sign. -/
theorem ops_cases (ops : List Nat) : (ops = [] ∧ nextL (opsT ops) = ([], [])) ∨ ∃ k r, ops = k :: r ∧ ((k = 0 ∧ nextL (opsT ops) = ([59], 97 :: opsT r)) ∨ (k = 1 ∧ nextL (opsT ops) = ([10], 97 :: opsT r)) ∨ (k = 2 ∧ nextL (opsT ops) = ([38, 38], 32 :: 97 :: opsT r)) ∨ (k = 3 ∧ nextL (opsT ops) = ([124, 124], 97 :: opsT r)) ∨ (4 ≤ k ∧ nextL (opsT ops) = ([124], 97 :: opsT r))) := by
  cases ops with
  | nil => exact .inl ⟨rfl, nx_nil⟩
  | cons k r =>
    refine .inr ⟨k, r, rfl, ?_⟩
    rw [opsT, opT]
    by_cases h0 : k = 0
    · exact .inl ⟨h0, by rw [if_pos h0]; exact nx_semi _⟩
    by_cases h1 : k = 1
    · exact .inr (.inl ⟨h1, by rw [if_neg h0, if_pos h1]; exact nx_line _⟩)
    by_cases h2 : k = 2
    · exact .inr (.inr (.inl ⟨h2, by rw [if_neg h0, if_neg h1, if_pos h2]; exact nx_and _⟩))
    by_cases h3 : k = 3
    · exact .inr (.inr (.inr (.inl ⟨h3, by rw [if_neg h0, if_neg h1, if_neg h2, if_pos h3]; exact nx_or _⟩)))
    · exact .inr (.inr (.inr (.inr ⟨by omega, by rw [if_neg h0, if_neg h1, if_neg h2, if_neg h3]; exact nx_bar _⟩)))
/-- How many of the signs part pipes, how many part lists. -/
def n4 (ops : List Nat) : Nat := (ops.filter (· < 4)).length
def n2 (ops : List Nat) : Nat := (ops.filter (· < 2)).length
theorem n4_cons (k : Nat) (r : List Nat) : n4 (k :: r) = (if k < 4 then 1 else 0) + n4 r := by
  unfold n4
  rw [List.filter_cons]
  by_cases h : k < 4
  · rw [if_pos (by simpa using h), if_pos h, List.length_cons]; omega
  · rw [if_neg (by simpa using h), if_neg h]; omega
theorem n2_cons (k : Nat) (r : List Nat) : n2 (k :: r) = (if k < 2 then 1 else 0) + n2 r := by
  unfold n2
  rw [List.filter_cons]
  by_cases h : k < 2
  · rw [if_pos (by simpa using h), if_pos h, List.length_cons]; omega
  · rw [if_neg (by simpa using h), if_neg h]; omega
theorem commands_ops {v : Lv} (hv : Plain v) : ∀ (ops : List Nat) (n : Nat) (acc : List CmdT), ops.length < n → ∃ cs rest, commandsN v n acc (opsT ops) = .ok (acc ++ cs) (opsT rest) ∧ cs.length + rest.length = ops.length ∧ n4 rest = n4 ops ∧ n2 rest = n2 ops ∧ (∀ k r, rest = k :: r → k < 4)
  | ops, 0, acc, h => by omega
  | ops, n + 1, acc, h => by
    rw [commandsN]
    rcases ops_cases ops with ⟨rfl, hn⟩ | ⟨k, r, rfl, hk⟩
    · have hp : passL [124] (opsT []) = none := by unfold passL; rw [hn]; rfl
      rw [hp]
      exact ⟨[], [], by simp, by simp, rfl, rfl, fun k r e => by cases e⟩
    · rcases hk with ⟨h4, hn⟩ | ⟨h4, hn⟩ | ⟨h4, hn⟩ | ⟨h4, hn⟩ | ⟨h4, hn⟩
      · have hp : passL [124] (opsT (k :: r)) = none := by unfold passL; rw [hn]; rfl
        rw [hp]; exact ⟨[], k :: r, by simp, by simp, rfl, rfl, fun k' r' e => by injection e with e _; omega⟩
      · have hp : passL [124] (opsT (k :: r)) = none := by unfold passL; rw [hn]; rfl
        rw [hp]; exact ⟨[], k :: r, by simp, by simp, rfl, rfl, fun k' r' e => by injection e with e _; omega⟩
      · have hp : passL [124] (opsT (k :: r)) = none := by unfold passL; rw [hn]; rfl
        rw [hp]; exact ⟨[], k :: r, by simp, by simp, rfl, rfl, fun k' r' e => by injection e with e _; omega⟩
      · have hp : passL [124] (opsT (k :: r)) = none := by unfold passL; rw [hn]; rfl
        rw [hp]; exact ⟨[], k :: r, by simp, by simp, rfl, rfl, fun k' r' e => by injection e with e _; omega⟩
      · have hp : passL [124] (opsT (k :: r)) = some (97 :: opsT r) := by unfold passL; rw [hn]; rfl
        rw [hp]
        simp only [newlines_a (ahead_a _) (ends_ops r), command_a hv (ahead_a _) (ends_ops r)]
        obtain ⟨cs, rest, e1, e2, e3, e4, e5⟩ := commands_ops hv r n (acc ++ [A0]) (by simp at h; omega)
        refine ⟨A0 :: cs, rest, by rw [e1]; simp, by simp; omega, ?_, ?_, e5⟩
        · rw [e3, n4_cons, if_neg (by omega)]; omega
        · rw [e4, n2_cons, if_neg (by omega)]; omega
theorem opsT_len (ops : List Nat) : ops.length ≤ (opsT ops).length := by
  induction ops with
  | nil => exact Nat.le_refl _
  | cons k r ih =>
    rw [opsT, List.length_append, List.length_cons, List.length_cons]
    omega
def cmdsOf : PiT → Nat | .mk _ c => c.length
theorem pipe_ops {v : Lv} (hv : Plain v) {l : Bs} (ops : List Nat) (hl : aheadL l = 97 :: opsT ops) : ∃ p rest, pipeL v l = .ok p (opsT rest) ∧ cmdsOf p + rest.length = 1 + ops.length ∧ n4 rest = n4 ops ∧ n2 rest = n2 ops ∧ (∀ k r, rest = k :: r → k < 4) ∧ 1 ≤ cmdsOf p := by
  unfold pipeL
  rw [pass_a hl (ends_ops ops) (by decide)]
  simp only [Option.getD_none, command_a hv hl (ends_ops ops)]
  obtain ⟨cs, rest, e1, e2, e3, e4, e5⟩ := commands_ops hv ops ((opsT ops).length + 1) [A0] (by have := opsT_len ops; omega)
  simp only [e1]
  exact ⟨_, rest, rfl, by simp [cmdsOf]; omega, e3, e4, e5, by simp [cmdsOf]⟩
def sumC (ps : List PiT) : Nat := (ps.map cmdsOf).sum
def pipesOf : LiT → List PiT | .mk ps _ => ps
def opsOf : LiT → List Bs | .mk _ os => os
theorem pipes_ops {v : Lv} (hv : Plain v) : ∀ (n : Nat) (ops : List Nat) (ps : List PiT) (os : List Bs), ops.length < n → (∀ k r, ops = k :: r → k < 4) → ps.length = os.length + 1 → ∃ x rest, pipesN v n ps os (opsT ops) = .ok x (opsT rest) ∧ (pipesOf x).length = (opsOf x).length + 1 ∧ sumC (pipesOf x) + rest.length = sumC ps + ops.length ∧ (pipesOf x).length + n4 rest = ps.length + n4 ops ∧ n2 rest = n2 ops ∧ (∀ k r, rest = k :: r → k < 2) ∧ sumC ps ≤ sumC (pipesOf x)
  | 0, ops, ps, os, h, _, _ => by omega
  | n + 1, ops, ps, os, h, h4, hp => by
    rw [pipesN]
    have stop : ¬ ((nextL (opsT ops)).1 = [38, 38] ∨ (nextL (opsT ops)).1 = [124, 124]) → (∀ k r, ops = k :: r → k < 2) → ∃ x rest, (if (nextL (opsT ops)).1 = [38, 38] ∨ (nextL (opsT ops)).1 = [124, 124] then match pipeL v (newlinesL (nextL (opsT ops)).2) with
      | .bad a e => Rs.bad a e
      | .ok p r => pipesN v n (ps ++ [p]) (os ++ [(nextL (opsT ops)).1]) r
      else .ok (.mk ps os) (opsT ops)) = .ok x (opsT rest) ∧ (pipesOf x).length = (opsOf x).length + 1 ∧ sumC (pipesOf x) + rest.length = sumC ps + ops.length ∧ (pipesOf x).length + n4 rest = ps.length + n4 ops ∧ n2 rest = n2 ops ∧ (∀ k r, rest = k :: r → k < 2) ∧ sumC ps ≤ sumC (pipesOf x) := fun h1 h2 => by
        rw [if_neg h1]
        exact ⟨.mk ps os, ops, rfl, hp, rfl, rfl, rfl, h2, Nat.le_refl _⟩
    have go : ∀ (k : Nat) (r : List Nat) (l : Bs), ops = k :: r → 2 ≤ k → k < 4 → aheadL l = 97 :: opsT r → (nextL (opsT ops)).2 = l → ((nextL (opsT ops)).1 = [38, 38] ∨ (nextL (opsT ops)).1 = [124, 124]) → ∃ x rest, (if (nextL (opsT ops)).1 = [38, 38] ∨ (nextL (opsT ops)).1 = [124, 124] then match pipeL v (newlinesL (nextL (opsT ops)).2) with
      | .bad a e => Rs.bad a e
      | .ok p r => pipesN v n (ps ++ [p]) (os ++ [(nextL (opsT ops)).1]) r
      else .ok (.mk ps os) (opsT ops)) = .ok x (opsT rest) ∧ (pipesOf x).length = (opsOf x).length + 1 ∧ sumC (pipesOf x) + rest.length = sumC ps + ops.length ∧ (pipesOf x).length + n4 rest = ps.length + n4 ops ∧ n2 rest = n2 ops ∧ (∀ k r, rest = k :: r → k < 2) ∧ sumC ps ≤ sumC (pipesOf x) := fun k r l he hk2 hk4 hl hn2 hor => by
        rw [if_pos hor, hn2, newlines_a hl (ends_ops r)]
        obtain ⟨p, rest, e1, e2, e3, e4, e5, hc⟩ := pipe_ops hv r hl
        simp only [e1]
        subst he
        rw [List.length_cons] at h ⊢
        obtain ⟨x, rest2, f1, f2, f3, f4, f5, f6, f7⟩ := pipes_ops hv n rest (ps ++ [p]) (os ++ [(nextL (opsT (k :: r))).1]) (by omega) e5 (by simp; omega)
        have hs : sumC (ps ++ [p]) = sumC ps + cmdsOf p := by simp [sumC]
        refine ⟨x, rest2, f1, f2, ?_, ?_, ?_, f6, by omega⟩
        · omega
        · rw [List.length_append, List.length_singleton] at f4
          rw [n4_cons, if_pos hk4]
          omega
        · rw [f5, e4, n2_cons, if_neg (by omega)]; omega
    rcases ops_cases ops with ⟨rfl, hn⟩ | ⟨k, r, he, hk⟩
    · exact stop (by rw [hn]; simp) (fun k r e => by cases e)
    · have hk4 := h4 k r he
      rcases hk with ⟨e, hn⟩ | ⟨e, hn⟩ | ⟨e, hn⟩ | ⟨e, hn⟩ | ⟨e, hn⟩
      · exact stop (by rw [hn]; simp) (fun k' r' e' => by rw [he] at e'; injection e' with e' _; omega)
      · exact stop (by rw [hn]; simp) (fun k' r' e' => by rw [he] at e'; injection e' with e' _; omega)
      · exact go k r (32 :: 97 :: opsT r) he (by omega) hk4 (by simp [aheadL, ahead_a]) (by rw [hn]) (.inl (by rw [hn]))
      · exact go k r (97 :: opsT r) he (by omega) hk4 (ahead_a _) (by rw [hn]) (.inr (by rw [hn]))
      · omega
theorem list_ops {v : Lv} (hv : Plain v) {l : Bs} (ops : List Nat) (hl : aheadL l = 97 :: opsT ops) : ∃ x rest, listL v l = .ok x (opsT rest) ∧ (pipesOf x).length = (opsOf x).length + 1 ∧ sumC (pipesOf x) + rest.length = 1 + ops.length ∧ (pipesOf x).length + n4 rest = 1 + n4 ops ∧ n2 rest = n2 ops ∧ (∀ k r, rest = k :: r → k < 2) ∧ 1 ≤ sumC (pipesOf x) := by
  unfold listL
  obtain ⟨p, rest, e1, e2, e3, e4, e5, hc⟩ := pipe_ops hv ops hl
  simp only [e1]
  obtain ⟨x, rest2, f1, f2, f3, f4, f5, f6, f7⟩ := pipes_ops hv ((opsT rest).length + 1) rest [p] [] (by have := opsT_len rest; omega) e5 rfl
  have hs : sumC [p] = cmdsOf p := by simp [sumC]
  refine ⟨x, rest2, f1, f2, ?_, ?_, by rw [f5, e4], f6, by omega⟩
  · omega
  · rw [List.length_singleton] at f4; omega
/-- All pipes, all commands of lists. -/
def sumP (ls : List LiT) : Nat := (ls.map fun x => (pipesOf x).length).sum
def sumA (ls : List LiT) : Nat := (ls.map fun x => sumC (pipesOf x)).sum
theorem lists_ops {v : Lv} (hv : Plain v) : ∀ (n : Nat) (ops : List Nat) (acc : List LiT), ops.length < n → (∀ k r, ops = k :: r → k < 2) → (∀ x ∈ acc, (pipesOf x).length = (opsOf x).length + 1) → ∃ ls, listsN v n acc (opsT ops) = .ok ls [] ∧ ls.length = acc.length + n2 ops ∧ (∀ x ∈ ls, (pipesOf x).length = (opsOf x).length + 1) ∧ sumP ls = sumP acc + n4 ops ∧ sumA ls = sumA acc + ops.length
  | 0, ops, acc, h, _, _ => by omega
  | n + 1, ops, acc, h, h2, hacc => by
    rw [listsN]
    have go : ∀ (k : Nat) (r : List Nat), ops = k :: r → k < 2 → (match passL [59] (opsT ops) with
      | some r => some r
      | none => passL [10] (opsT ops)) = some (97 :: opsT r) → ∃ ls, (match (match passL [59] (opsT ops) with
      | some r => some r
      | none => passL [10] (opsT ops)) with
      | none => Rs.ok acc (opsT ops)
      | some r => if listsEnd (newlinesL r) then .ok acc (newlinesL r) else match listL v (newlinesL r) with
        | .bad a e => .bad a e
        | .ok x r2 => listsN v n (acc ++ [x]) r2) = .ok ls [] ∧ ls.length = acc.length + n2 ops ∧ (∀ x ∈ ls, (pipesOf x).length = (opsOf x).length + 1) ∧ sumP ls = sumP acc + n4 ops ∧ sumA ls = sumA acc + ops.length := fun k r he hk hp => by
        rw [hp]
        have hE := ends_ops r
        have hle : listsEnd (97 :: opsT r) = false := by
          unfold listsEnd overL
          rw [next_a (ahead_a _) hE, ahead_a]
          rfl
        simp only [newlines_a (ahead_a _) hE, hle, Bool.false_eq_true, if_false]
        obtain ⟨x, rest, e1, e2, e3, e4, e5, e6, hx⟩ := list_ops hv r (ahead_a _)
        simp only [e1]
        subst he
        rw [List.length_cons] at h ⊢
        obtain ⟨ls, f1, f2, f3, f4, f5⟩ := lists_ops hv n rest (acc ++ [x]) (by omega) e6 (fun y hy => by
          rcases List.mem_append.1 hy with h1 | h1
          · exact hacc y h1
          · rw [List.mem_singleton] at h1; subst h1; exact e2)
        refine ⟨ls, f1, ?_, f3, ?_, ?_⟩
        · rw [f2, List.length_append, List.length_singleton, e5, n2_cons, if_pos hk]; omega
        · have hs : sumP (acc ++ [x]) = sumP acc + (pipesOf x).length := by simp [sumP]
          rw [f4, hs, n4_cons, if_pos (by omega)]; omega
        · have hs : sumA (acc ++ [x]) = sumA acc + sumC (pipesOf x) := by simp [sumA]
          rw [f5, hs]; omega
    rcases ops_cases ops with ⟨he, hn⟩ | ⟨k, r, he, hk⟩
    · have h1 : passL [59] (opsT ops) = none := by unfold passL; rw [hn]; rfl
      have h3 : passL [10] (opsT ops) = none := by unfold passL; rw [hn]; rfl
      rw [h1, h3]
      subst he
      exact ⟨acc, rfl, rfl, hacc, rfl, rfl⟩
    · have hk2 := h2 k r he
      rcases hk with ⟨e, hn⟩ | ⟨e, hn⟩ | ⟨e, hn⟩ | ⟨e, hn⟩ | ⟨e, hn⟩
      · exact go k r he hk2 (by unfold passL; rw [hn]; rfl)
      · exact go k r he hk2 (by
          have h1 : passL [59] (opsT ops) = none := by unfold passL; rw [hn]; simp
          rw [h1]; unfold passL; rw [hn]; rfl)
      · omega
      · omega
      · omega
/-- A script of plain words. -/
theorem plain_script (n : Nat) (ops : List Nat) : ∃ ls, scriptL (lv (n + 1)).lists (97 :: opsT ops) = .ok ls [] ∧ ls.length = 1 + n2 ops ∧ (∀ x ∈ ls, (pipesOf x).length = (opsOf x).length + 1) ∧ sumP ls = 1 + n4 ops ∧ sumA ls = 1 + ops.length := by
  have hE := ends_ops ops
  have hn := newlines_a (ahead_a _) hE
  have hov : overL (97 :: opsT ops) = false := by unfold overL; rw [ahead_a]; rfl
  have hle : listsEnd (97 :: opsT ops) = false := by
    unfold listsEnd
    rw [next_a (ahead_a _) hE, hov]
    rfl
  obtain ⟨x, rest, e1, e2, e3, e4, e5, e6, _⟩ := list_ops (plain_lv n) ops (ahead_a _)
  obtain ⟨ls, f1, f2, f3, f4, f5⟩ := lists_ops (plain_lv n) ((opsT rest).length + 1) rest [x] (by have := opsT_len rest; omega) e6 (fun y hy => by rw [List.mem_singleton] at hy; subst hy; exact e2)
  have hL : (lv (n + 1)).lists (97 :: opsT ops) = .ok ls [] := by
    show listsL (lv n) (97 :: opsT ops) = _
    unfold listsL
    rw [hn, hle]
    simp only [Bool.false_eq_true, if_false, e1, f1]
  refine ⟨ls, ?_, ?_, f3, ?_, ?_⟩
  · unfold scriptL
    rw [hn, hov]
    simp only [Bool.false_eq_true, if_false, hL]
    rfl
  · rw [f2, List.length_singleton, e5]
  · have hs : sumP [x] = (pipesOf x).length := by simp [sumP]
    rw [f4, hs]; omega
  · have hs : sumA [x] = sumC (pipesOf x) := by simp [sumA]
    rw [f5, hs]; omega
end SyM

/- DERIVED. Plain mathematics of layer 7 for layer 8: what is read of a text is read of it with a newline and more behind it. -/
namespace WdM
open PathM
set_option linter.unusedVariables false

theorem stands_len2 {o l : Bs} (h : stands o l = true) : o.length ≤ l.length := by
  unfold stands at h
  obtain ⟨t, ht⟩ := List.isPrefixOf_iff_prefix.1 h
  rw [← ht, List.length_append]; omega
theorem leading_ext (k : UInt8 → Bool) (hk : k 10 = false) (t : Bs) : ∀ l : Bs, leading k (l ++ 10 :: t) = leading k l
  | [] => by show (if k 10 then leading k t + 1 else 0) = 0; rw [hk]; rfl
  | c :: l => by
    show (if k c then leading k (l ++ 10 :: t) + 1 else 0) = if k c then leading k l + 1 else 0
    rw [leading_ext k hk t l]
theorem stands_ext10 (t : Bs) : ∀ (o l : Bs), (∀ c ∈ o, c ≠ 10) → stands o (l ++ 10 :: t) = stands o l
  | [], l, h => by cases l <;> rfl
  | d :: o, [], h => by
    have h1 : (d == (10 : UInt8)) = false := beq_eq_false_iff_ne.2 (h d (List.mem_cons_self ..))
    show (d == (10 : UInt8) && o.isPrefixOf t) = false
    rw [h1]; rfl
  | d :: o, c :: l, h => by
    show (d == c && o.isPrefixOf (l ++ 10 :: t)) = (d == c && o.isPrefixOf l)
    have := stands_ext10 t o l (fun x hx => h x (List.mem_cons_of_mem _ hx))
    unfold stands at this
    rw [this]
theorem opOf_ext (l t : Bs) : opOf (l ++ 10 :: t) = opOf l := by
  unfold opOf
  congr 1
  have h : ∀ o ∈ ops, stands o (l ++ 10 :: t) = stands o l := fun o ho => stands_ext10 t o l (by
    intro c hc e
    subst e
    have : (ops.all fun o => !o.contains 10) = true := by decide
    have h2 := List.all_eq_true.1 this o ho
    simp at h2
    exact h2 hc)
  have aux : ∀ L : List Bs, (∀ o ∈ L, stands o (l ++ 10 :: t) = stands o l) → (L.find? fun o => stands o (l ++ 10 :: t)) = L.find? fun o => stands o l := by
    intro L
    induction L with
    | nil => intro _; rfl
    | cons a L ih =>
      intro hL
      rw [List.find?_cons, List.find?_cons, hL a (List.mem_cons_self ..), ih (fun o ho => hL o (List.mem_cons_of_mem _ ho))]
  exact aux ops h
theorem paramStands_ext (l t : Bs) : paramStands (l ++ 10 :: t) = paramStands l := by
  cases l with
  | nil => rfl
  | cons c l => rfl
theorem paramLen_ext (l t : Bs) : paramLen (l ++ 10 :: t) = paramLen l := by
  cases l with
  | nil => rfl
  | cons c l =>
    show (if letter c then leading named (c :: l ++ 10 :: t) else if digit c then leading digit (c :: l ++ 10 :: t) else 1) = (if letter c then leading named (c :: l) else if digit c then leading digit (c :: l) else 1)
    rw [leading_ext named (by decide), leading_ext digit (by decide)]
theorem leading_le2 (k : UInt8 → Bool) : ∀ l : Bs, leading k l ≤ l.length
  | [] => Nat.le_refl _
  | c :: l => by
    show (if k c then leading k l + 1 else 0) ≤ _
    have := leading_le2 k l
    rw [List.length_cons]
    split <;> omega
theorem paramLen_le2 {l : Bs} (h : paramStands l = true) : paramLen l ≤ l.length := by
  cases l with
  | nil => cases h
  | cons c t =>
    show (if letter c then leading named (c :: t) else if digit c then leading digit (c :: t) else 1) ≤ _
    split
    · exact leading_le2 _ _
    · split
      · exact leading_le2 _ _
      · rw [List.length_cons]; omega
theorem param_ext {l x r : Bs} (t : Bs) (h : param l = .ok x r) : param (l ++ 10 :: t) = .ok x (r ++ 10 :: t) := by
  unfold param at h ⊢
  rw [paramStands_ext, paramLen_ext]
  cases hs : paramStands l with
  | false => rw [hs] at h; cases h
  | true =>
    rw [hs] at h
    have hl := paramLen_le2 hs
    rw [if_pos rfl] at h ⊢
    by_cases h64 : paramLen l ≤ 64
    · rw [if_pos h64] at h ⊢
      injection h with h1 h2
      rw [List.take_append_of_le_length hl, List.drop_append_of_le_length hl, h1, h2]
    · rw [if_neg h64] at h; cases h
theorem param_none_ext {l : Bs} {a : Nat} {e : Int} (t : Bs) (h : param l = .bad a e) : ∃ a' e', param (l ++ 10 :: t) = .bad a' e' := by
  unfold param at h ⊢
  rw [paramStands_ext, paramLen_ext]
  cases hs : paramStands l with
  | false => exact ⟨_, _, rfl⟩
  | true =>
    rw [hs] at h
    rw [if_pos rfl] at h ⊢
    by_cases h64 : paramLen l ≤ 64
    · rw [if_pos h64] at h; cases h
    · rw [if_neg h64]; exact ⟨_, _, rfl⟩
theorem insideS_ext (t : Bs) : ∀ (l : Bs) (q : UInt8) (sk : Bool) (dp n : Nat), insideS q sk dp l = some n → insideS q sk dp (l ++ 10 :: t) = some n
  | [], q, sk, dp, n, h => by cases h
  | c :: l, q, sk, dp, n, h => by
    rw [insideS] at h
    rw [List.cons_append, insideS]
    have ih : ∀ q sk dp n, (insideS q sk dp l).map (· + 1) = some n → (insideS q sk dp (l ++ 10 :: t)).map (· + 1) = some n := fun q sk dp n h => by
      cases hi : insideS q sk dp l with
      | none => rw [hi] at h; cases h
      | some m => rw [hi] at h; rw [insideS_ext t l q sk dp m hi]; exact h
    split at h
    · rename_i h1; rw [if_pos h1]; exact ih _ _ _ _ h
    · rename_i h1; rw [if_neg h1]
      split at h
      · rename_i h2; rw [if_pos h2]
        split at h
        · rename_i h3; rw [if_pos h3]; exact ih _ _ _ _ h
        · rename_i h3; rw [if_neg h3]
          split at h
          · rename_i h4; rw [if_pos h4]; exact ih _ _ _ _ h
          · rename_i h4; rw [if_neg h4]
            split at h
            · rename_i h5; rw [if_pos h5]; exact ih _ _ _ _ h
            · rename_i h5; rw [if_neg h5]
              split at h
              · rename_i h6; rw [if_pos h6]
                split at h
                · rename_i h7; rw [if_pos h7]; exact h
                · rename_i h7; rw [if_neg h7]; exact ih _ _ _ _ h
              · rename_i h6; rw [if_neg h6]; exact ih _ _ _ _ h
      · rename_i h2; rw [if_neg h2]
        split at h
        · rename_i h3; rw [if_pos h3]; exact ih _ _ _ _ h
        · rename_i h3; rw [if_neg h3]
          split at h
          · rename_i h4; rw [if_pos h4]; exact ih _ _ _ _ h
          · rename_i h4; rw [if_neg h4]; exact ih _ _ _ _ h
theorem insideS_lt : ∀ (l : Bs) (q : UInt8) (sk : Bool) (dp n : Nat), insideS q sk dp l = some n → n < l.length
  | [], q, sk, dp, n, h => by cases h
  | c :: l, q, sk, dp, n, h => by
    rw [insideS] at h
    rw [List.length_cons]
    have ih : ∀ q sk dp n, (insideS q sk dp l).map (· + 1) = some n → n < l.length + 1 := fun q sk dp n h => by
      cases hi : insideS q sk dp l with
      | none => rw [hi] at h; cases h
      | some m =>
        rw [hi] at h
        have := insideS_lt l q sk dp m hi
        have h : m + 1 = n := by injection h
        omega
    (repeat' split at h) <;> first | exact ih _ _ _ _ h | (injection h with h; omega)
theorem cmd_ext {fl fl' : Nat} {l x r : Bs} (t : Bs) (h : cmdS fl l = .ok x r) : cmdS fl' (l ++ 10 :: t) = .ok x (r ++ 10 :: t) := by
  unfold cmdS inside at h ⊢
  cases hi : insideS 0 false 0 l with
  | none => rw [hi] at h; cases h
  | some n =>
    have hlt := insideS_lt l _ _ _ _ hi
    rw [hi] at h
    rw [insideS_ext t l _ _ _ _ hi]
    injection h with h1 h2
    show Rs.ok ((l ++ 10 :: t).take n) ((l ++ 10 :: t).drop (n + 1)) = _
    rw [List.take_append_of_le_length (by omega), List.drop_append_of_le_length (by omega), h1, h2]
theorem arith_ext (t : Bs) {fl fl' : Nat} : ∀ (l : Bs) (dp : Nat) (acc x r : Bs), arithS fl dp acc l = .ok x r → arithS fl' dp acc (l ++ 10 :: t) = .ok x (r ++ 10 :: t)
  | [], dp, acc, x, r, h => by cases h
  | c :: l, dp, acc, x, r, h => by
    rw [arithS] at h
    rw [List.cons_append, arithS]
    split at h
    · cases h
    · rename_i h1; rw [if_neg h1]
      split at h
      · rename_i h2; rw [if_pos h2]; exact arith_ext t l _ _ _ _ h
      · rename_i h2; rw [if_neg h2]
        split at h
        · rename_i h3; rw [if_pos h3]
          split at h
          · rename_i h4; rw [if_pos h4]; exact arith_ext t l _ _ _ _ h
          · rename_i h4; rw [if_neg h4, stands_ext10 t [41] l (by decide)]
            split at h
            · rename_i h5
              rw [if_pos h5]
              injection h with h1 h2
              have hl : 1 ≤ l.length := by cases l with | nil => cases h5 | cons => simp
              rw [List.drop_append_of_le_length hl, h1, h2]
            · cases h
        · rename_i h3; rw [if_neg h3]; exact arith_ext t l _ _ _ _ h
theorem finish_ext {fl fl' : Nat} {p p' : PT} {l r : Bs} (t : Bs) (h : finish fl p l = .ok p' r) : finish fl' p (l ++ 10 :: t) = .ok p' (r ++ 10 :: t) := by
  cases l with
  | nil => cases h
  | cons c l =>
    unfold finish at h ⊢
    simp only [List.cons_append] at h ⊢
    by_cases hc : c = 125
    · rw [if_pos hc] at h ⊢
      injection h with h1 h2
      rw [h1, h2]
    · rw [if_neg hc] at h; cases h
/-- What braces hold ends at a byte that is there. -/
def RecX (rec : Rec) : Prop := ∀ parts, rec = some parts → ∀ q l w c r t, parts q l = .ok w (c :: r) → parts q (l ++ 10 :: t) = .ok w (c :: r ++ 10 :: t)
theorem finish_some {fl : Nat} {p p' : PT} {l r : Bs} (h : finish fl p l = .ok p' r) : ∃ c l', l = c :: l' := by
  cases l with
  | nil => cases h
  | cons c l => exact ⟨c, l, rfl⟩
theorem lens_ext {l : Bs} (t : Bs) (h : 2 ≤ l.length) : lengthStands (l ++ 10 :: t) = lengthStands l := by
  match l, h with
  | c :: d :: l, _ =>
    by_cases hc : c = 35
    · subst hc; rfl
    · have e : ∀ x : Bs, lengthStands (c :: x) = false := fun x => by
        unfold lengthStands
        split
        · rename_i heq; injection heq with h1 _; exact absurd h1 hc
        · rfl
      rw [List.cons_append, e, e]
theorem param_some {l x r : Bs} (h : param l = .ok x r) : r.length < l.length := by
  unfold param at h
  cases hs : paramStands l with
  | false => rw [hs] at h; cases h
  | true =>
    rw [hs, if_pos rfl] at h
    have hl := paramLen_le2 hs
    have hp : 0 < paramLen l := by
      cases l with
      | nil => cases hs
      | cons c t =>
        show 0 < (if letter c then leading named (c :: t) else if digit c then leading digit (c :: t) else 1)
        cases hc : letter c with
        | true =>
          have hn : named c = true := by unfold named; rw [hc]; rfl
          rw [if_pos rfl, leading, if_pos hn]; omega
        | false =>
          rw [if_neg (by decide)]
          cases hd : digit c with
          | true => rw [if_pos rfl, leading, if_pos hd]; omega
          | false => rw [if_neg (by decide)]; omega
    by_cases h64 : paramLen l ≤ 64
    · rw [if_pos h64] at h
      injection h with _ h2
      rw [← h2, List.length_drop]; omega
    · rw [if_neg h64] at h; cases h
theorem braces_ext {rec : Rec} (hR : RecX rec) {fl fl' : Nat} {q : Bool} {l r : Bs} {p : PT} (t : Bs) (h : braces rec fl q l = .ok p r) : braces rec fl' q (l ++ 10 :: t) = .ok p (r ++ 10 :: t) := by
  cases rec with
  | none => cases h
  | some parts =>
    unfold braces at h ⊢
    simp only [] at h ⊢
    cases hL : lengthStands l with
    | true =>
      rw [hL, if_pos rfl] at h
      have hl2 : 2 ≤ l.length := by
        match l, hL with
        | _ :: _ :: _, _ => simp
        | [c], hL => exact absurd hL (by unfold lengthStands; split <;> simp_all)
        | [], hL => cases hL
      rw [lens_ext t hl2, hL, if_pos rfl, List.drop_append_of_le_length (by omega)]
      cases hp : param (l.drop 1) with
      | bad a e => rw [hp] at h; cases h
      | ok x r1 =>
        rw [hp] at h
        rw [param_ext t hp]
        exact finish_ext t h
    | false =>
      rw [hL, if_neg (by decide)] at h
      cases hp : param l with
      | bad a e => rw [hp] at h; cases h
      | ok x r1 =>
        rw [hp] at h
        simp only [] at h
        have hr1 := param_some hp
        by_cases ho : opOf r1 = []
        · rw [if_pos ho] at h
          obtain ⟨c, l', hl'⟩ := finish_some h
          have hl2 : 2 ≤ l.length := by rw [hl', List.length_cons] at hr1; omega
          rw [lens_ext t hl2, hL, if_neg (by decide), param_ext t hp]
          simp only [opOf_ext]
          rw [if_pos ho]
          exact finish_ext t h
        · rw [if_neg ho] at h
          have hst : (opOf r1).length ≤ r1.length := by
            unfold opOf
            cases hf : ops.find? fun o => stands o r1 with
            | none => simp
            | some o =>
              have h2 : stands o r1 = true := List.find?_some (p := fun o => stands o r1) hf
              exact stands_len2 h2
          have hpos : 1 ≤ (opOf r1).length := by cases ho2 : opOf r1 with | nil => exact absurd ho2 ho | cons => simp
          have hl2 : 2 ≤ l.length := by omega
          cases hq : parts q (r1.drop (opOf r1).length) with
          | bad a e => rw [hq] at h; cases h
          | ok w r2 =>
            rw [hq] at h
            simp only [] at h
            obtain ⟨c, l', hl'⟩ := finish_some h
            subst hl'
            rw [lens_ext t hl2, hL, if_neg (by decide), param_ext t hp]
            simp only [opOf_ext]
            rw [if_neg ho, List.drop_append_of_le_length hst, hR parts rfl q _ w c l' t hq]
            exact finish_ext t h
theorem dollarP_cons (rec : Rec) (q : Bool) (c : UInt8) (x : Bs) : dollarP rec q (c :: x) = if stands [123] (c :: x) then some (braces rec ((c :: x).length + 1) q x)
    else if stands [40, 40] (c :: x) then some (match arithS ((c :: x).length + 1) 0 [] (x.drop 1) with
      | .bad a e => .bad a e
      | .ok t r => .ok (.mk 4 false t [] []) r)
    else if stands [40] (c :: x) then some (match cmdS ((c :: x).length + 1) x with
      | .bad a e => .bad a e
      | .ok t r => .ok (.mk 3 false t [] []) r)
    else if digit c then some (.ok (.mk 2 false [c] [] []) x)
    else if paramStands (c :: x) then some (match param (c :: x) with
      | .bad a e => .bad a e
      | .ok t r => .ok (.mk 2 false t [] []) r)
    else none := rfl
theorem dollarP_ext {rec : Rec} (hR : RecX rec) {q : Bool} {l : Bs} (t : Bs) : (∀ p r, dollarP rec q l = some (.ok p r) → dollarP rec q (l ++ 10 :: t) = some (.ok p (r ++ 10 :: t))) ∧ (dollarP rec q l = none → dollarP rec q (l ++ 10 :: t) = none) := by
  cases l with
  | nil => exact ⟨fun p r h => (by cases h), fun _ => rfl⟩
  | cons c l =>
    rw [dollarP_cons, List.cons_append, dollarP_cons, ← List.cons_append, stands_ext10 t [123] (c :: l) (by decide), stands_ext10 t [40, 40] (c :: l) (by decide), stands_ext10 t [40] (c :: l) (by decide), paramStands_ext]
    by_cases h1 : stands [123] (c :: l) = true
    · rw [if_pos h1, if_pos h1]
      refine ⟨fun p r h => ?_, fun h => by cases h⟩
      injection h with h
      rw [braces_ext hR t h]
    rw [if_neg h1, if_neg h1]
    by_cases h2 : stands [40, 40] (c :: l) = true
    · rw [if_pos h2, if_pos h2]
      have hl : 1 ≤ l.length := by have := stands_len2 h2; simp at this; omega
      refine ⟨fun p r h => ?_, fun h => by cases h⟩
      injection h with h
      rw [List.drop_append_of_le_length hl]
      cases ha : arithS ((c :: l).length + 1) 0 [] (l.drop 1) with
      | bad a e => rw [ha] at h; cases h
      | ok x r1 =>
        rw [ha] at h
        rw [arith_ext t _ _ _ _ _ ha]
        injection h with h1 h2
        subst h1; subst h2
        rfl
    rw [if_neg h2, if_neg h2]
    by_cases h3 : stands [40] (c :: l) = true
    · rw [if_pos h3, if_pos h3]
      refine ⟨fun p r h => ?_, fun h => by cases h⟩
      injection h with h
      cases ha : cmdS ((c :: l).length + 1) l with
      | bad a e => rw [ha] at h; cases h
      | ok x r1 =>
        rw [ha] at h
        rw [cmd_ext t ha]
        injection h with h1 h2
        subst h1; subst h2
        rfl
    rw [if_neg h3, if_neg h3]
    by_cases h4 : digit c = true
    · rw [if_pos h4, if_pos h4]
      refine ⟨fun p r h => ?_, fun h => by cases h⟩
      injection h with h; injection h with h1 h2
      rw [h1, h2]
    rw [if_neg h4, if_neg h4]
    by_cases h5 : paramStands (c :: l) = true
    · rw [if_pos h5, if_pos h5]
      refine ⟨fun p r h => ?_, fun h => by cases h⟩
      injection h with h
      cases ha : param (c :: l) with
      | bad a e => rw [ha] at h; cases h
      | ok x r1 =>
        rw [ha] at h
        rw [param_ext t ha]
        injection h with h1 h2
        subst h1; subst h2
        rfl
    · rw [if_neg h5, if_neg h5]
      exact ⟨fun p r h => (by cases h), fun _ => rfl⟩
theorem dollar_ext {rec : Rec} (hR : RecX rec) {g g' : Ga} {q : Bool} {l r : Bs} (t : Bs) (h : dollar rec g q l = .ok g' r) : dollar rec g q (l ++ 10 :: t) = .ok g' (r ++ 10 :: t) := by
  obtain ⟨h1, h2⟩ := dollarP_ext hR (q := q) (l := l) t
  unfold dollar at h ⊢
  cases hd : dollarP rec q l with
  | none =>
    rw [hd] at h
    rw [h2 hd]
    injection h with e1 e2
    subst e1; subst e2; rfl
  | some m =>
    cases m with
    | bad a e => rw [hd] at h; cases h
    | ok p r1 =>
      rw [hd] at h
      rw [h1 p r1 hd]
      injection h with e1 e2
      subst e1; subst e2; rfl
theorem piece_ext {rec : Rec} (hR : RecX rec) {esc : UInt8 → Bool} {g g' : Ga} {q : Bool} {l r : Bs} (t : Bs) (h0 : l ≠ []) (h : piece rec esc g q l = .ok g' r) : piece rec esc g q (l ++ 10 :: t) = .ok g' (r ++ 10 :: t) := by
  cases l with
  | nil => exact absurd rfl h0
  | cons c l =>
    by_cases c1 : c = 92
    · subst c1
      have e : ∀ x, piece rec esc g q (92 :: x) = escape esc g x := fun _ => rfl
      rw [e] at h
      rw [List.cons_append, e]
      cases l with
      | nil => cases h
      | cons d l =>
        unfold escape at h ⊢
        simp only [List.cons_append] at h ⊢
        split at h
        · rename_i h1; rw [if_pos h1]
          split at h
          · rename_i h2; rw [if_pos h2]; injection h with e1 e2; rw [e1, e2]
          · rename_i h2; rw [if_neg h2]; injection h with e1 e2; rw [e1, e2]
        · rename_i h1; rw [if_neg h1]; injection h with e1 e2; rw [e1, ← e2]; rfl
    by_cases c2 : c = 36
    · subst c2
      have e : ∀ x, piece rec esc g q (36 :: x) = dollar rec g q x := fun _ => rfl
      rw [e] at h
      rw [List.cons_append, e]
      exact dollar_ext hR t h
    by_cases c3 : c = 96
    · subst c3; cases h
    · rw [pc_add c1 c2 c3] at h
      rw [List.cons_append, pc_add c1 c2 c3]
      injection h with e1 e2
      rw [e1, e2]
theorem dloop_ext {rec : Rec} (hR : RecX rec) {fl fl' : Nat} (t : Bs) : ∀ (n m : Nat) (g g' : Ga) (l r : Bs), n ≤ m → dloop rec fl n g l = .ok g' r → dloop rec fl' m g (l ++ 10 :: t) = .ok g' (r ++ 10 :: t)
  | 0, m, g, g', l, r, _, h => by cases h
  | n + 1, 0, g, g', l, r, hm, h => by omega
  | n + 1, m + 1, g, g', l, r, hm, h => by
    cases l with
    | nil => cases h
    | cons c l =>
      rw [dloop] at h
      rw [List.cons_append, dloop]
      split at h
      · rename_i h1; rw [if_pos h1]; injection h with e1 e2; rw [e1, e2]
      · rename_i h1; rw [if_neg h1]
        cases hp : piece rec escD g true (c :: l) with
        | bad a e => rw [hp] at h; cases h
        | ok g2 l2 =>
          rw [hp] at h
          have := piece_ext hR t (by simp) hp
          rw [List.cons_append] at this
          rw [this]
          exact dloop_ext hR t n m g2 g' l2 r (by omega) h
theorem index_ext (t : Bs) : ∀ l : Bs, ¬ Go.Lib.indexByte l 39 < 0 → Go.Lib.indexByte (l ++ 10 :: t) 39 = Go.Lib.indexByte l 39 ∧ (Go.Lib.indexByte l 39).toNat < l.length
  | [], h => absurd (by decide) h
  | c :: l, h => by
    have hg := Go.Lib.indexByte_ge l 39
    have e : ∀ x, Go.Lib.indexByte (c :: x) 39 = if c == 39 then 0 else if Go.Lib.indexByte x 39 == -1 then -1 else Go.Lib.indexByte x 39 + 1 := fun _ => rfl
    rw [e] at h ⊢
    rw [List.cons_append, e]
    by_cases h1 : (c == 39) = true
    · rw [if_pos h1, if_pos h1]; exact ⟨rfl, by simp⟩
    · rw [if_neg h1] at h
      rw [if_neg h1, if_neg h1]
      by_cases h2 : (Go.Lib.indexByte l 39 == -1) = true
      · rw [if_pos h2] at h; exact absurd (by decide) h
      · have h3 : ¬ Go.Lib.indexByte l 39 < 0 := by simp at h2; omega
        obtain ⟨i1, i2⟩ := index_ext t l h3
        rw [i1, if_neg h2]
        refine ⟨rfl, ?_⟩
        rw [List.length_cons]
        omega
theorem single_ext {g g' : Ga} {l r : Bs} (t : Bs) (h : single g l = .ok g' r) : single g (l ++ 10 :: t) = .ok g' (r ++ 10 :: t) := by
  unfold single at h ⊢
  by_cases hx : Go.Lib.indexByte l 39 < 0
  · rw [if_pos hx] at h; cases h
  · obtain ⟨i1, i2⟩ := index_ext t l hx
    rw [if_neg hx] at h
    rw [i1, if_neg hx, List.take_append_of_le_length (by omega), List.drop_append_of_le_length (by omega)]
    injection h with e1 e2
    rw [e1, e2]
theorem step_ext {rec : Rec} (hR : RecX rec) {g g' : Ga} {q : Bool} {l r : Bs} (t : Bs) (h0 : l ≠ []) (h : step rec g q l = .ok g' r) : step rec g q (l ++ 10 :: t) = .ok g' (r ++ 10 :: t) := by
  cases l with
  | nil => exact absurd rfl h0
  | cons c l =>
    by_cases c39 : c = 39
    · subst c39
      have e : ∀ x, step rec g q (39 :: x) = single g x := fun _ => rfl
      rw [e] at h
      rw [List.cons_append, e]
      exact single_ext t h
    by_cases c34 : c = 34
    · subst c34
      have e : ∀ x, step rec g q (34 :: x) = dloop rec (x.length + 1) (x.length + 1) (if stands [34] x then g.add [] true else g) x := fun _ => rfl
      rw [e] at h
      rw [List.cons_append, e, stands_ext10 t [34] l (by decide)]
      exact dloop_ext hR t _ _ _ _ _ _ (by simp) h
    · have e : ∀ x, step rec g q (c :: x) = piece rec (fun _ => true) g q (c :: x) := fun x => by unfold step; simp only [if_neg c39, if_neg c34]
      rw [e] at h
      rw [List.cons_append, e]
      have := piece_ext hR t (by simp) h
      rw [List.cons_append] at this
      exact this
theorem finish_less {fl : Nat} {p p' : PT} {l r : Bs} (h : finish fl p l = .ok p' r) : r.length ≤ l.length := by
  cases l with
  | nil => cases h
  | cons c l =>
    unfold finish at h
    simp only [] at h
    by_cases hc : c = 125
    · rw [if_pos hc] at h; injection h with _ h2; rw [← h2, List.length_cons]; omega
    · rw [if_neg hc] at h; cases h
def RecL (rec : Rec) : Prop := ∀ parts, rec = some parts → ∀ q l w r, parts q l = .ok w r → r.length ≤ l.length
theorem braces_less {rec : Rec} (hR : RecL rec) {fl : Nat} {q : Bool} {l r : Bs} {p : PT} (h : braces rec fl q l = .ok p r) : r.length ≤ l.length := by
  cases rec with
  | none => cases h
  | some parts =>
    unfold braces at h
    simp only [] at h
    split at h
    · cases hp : param (l.drop 1) with
      | bad a e => rw [hp] at h; cases h
      | ok x r1 =>
        rw [hp] at h
        have h1 := param_some hp
        have h2 := finish_less h
        rw [List.length_drop] at h1
        omega
    · cases hp : param l with
      | bad a e => rw [hp] at h; cases h
      | ok x r1 =>
        rw [hp] at h
        simp only [] at h
        have h1 := param_some hp
        split at h
        · have h2 := finish_less h; omega
        · cases hq : parts q (r1.drop (opOf r1).length) with
          | bad a e => rw [hq] at h; cases h
          | ok w r2 =>
            rw [hq] at h
            have h2 := finish_less h
            have h3 := hR parts rfl q _ _ _ hq
            rw [List.length_drop] at h3
            omega
theorem arith_less {fl : Nat} : ∀ (l : Bs) (dp : Nat) (acc x r : Bs), arithS fl dp acc l = .ok x r → r.length ≤ l.length
  | [], dp, acc, x, r, h => by cases h
  | c :: l, dp, acc, x, r, h => by
    rw [arithS] at h
    rw [List.length_cons]
    (repeat' split at h) <;> first | (cases h; done) | (have := arith_less l _ _ _ _ h; omega) | (cases h; rw [List.length_drop]; omega)
theorem dollar_less {rec : Rec} (hR : RecL rec) {g g' : Ga} {q : Bool} {l r : Bs} (h : dollar rec g q l = .ok g' r) : r.length ≤ l.length := by
  unfold dollar at h
  cases hd : dollarP rec q l with
  | none => rw [hd] at h; injection h with _ h2; rw [h2]; exact Nat.le_refl _
  | some m =>
    rw [hd] at h
    cases m with
    | bad a e => cases h
    | ok p r1 =>
      injection h with _ h2
      subst h2
      cases l with
      | nil => cases hd
      | cons c l =>
        rw [dollarP_cons] at hd
        rw [List.length_cons]
        split at hd
        · injection hd with hd; have := braces_less hR hd; omega
        · split at hd
          · injection hd with hd
            cases ha : arithS ((c :: l).length + 1) 0 [] (l.drop 1) with
            | bad a e => rw [ha] at hd; cases hd
            | ok x r2 =>
              rw [ha] at hd
              have := arith_less _ _ _ _ _ ha
              injection hd with _ h3
              rw [List.length_drop] at this
              rw [← h3]; omega
          · split at hd
            · injection hd with hd
              cases ha : cmdS ((c :: l).length + 1) l with
              | bad a e => rw [ha] at hd; cases hd
              | ok x r2 =>
                rw [ha] at hd
                injection hd with _ h3
                rw [← h3]
                unfold cmdS at ha
                cases hi : inside l with
                | none => rw [hi] at ha; cases ha
                | some n => rw [hi] at ha; injection ha with _ h4; rw [← h4, List.length_drop]; omega
            · split at hd
              · injection hd with hd; injection hd with _ h3; rw [← h3]; omega
              · split at hd
                · injection hd with hd
                  cases ha : param (c :: l) with
                  | bad a e => rw [ha] at hd; cases hd
                  | ok x r2 =>
                    rw [ha] at hd
                    have := param_some ha
                    injection hd with _ h3
                    rw [List.length_cons] at this
                    rw [← h3]; omega
                · cases hd
theorem piece_less {rec : Rec} (hR : RecL rec) {esc : UInt8 → Bool} {g g' : Ga} {q : Bool} {l r : Bs} (h0 : l ≠ []) (h : piece rec esc g q l = .ok g' r) : r.length < l.length := by
  cases l with
  | nil => exact absurd rfl h0
  | cons c l =>
    rw [List.length_cons]
    by_cases c1 : c = 92
    · subst c1
      have h : escape esc g l = .ok g' r := h
      cases l with
      | nil => cases h
      | cons d l =>
        unfold escape at h
        simp only [] at h
        rw [List.length_cons]
        (repeat' split at h) <;> (injection h with _ h2; rw [← h2]; first | omega | (rw [List.length_cons]; omega))
    by_cases c2 : c = 36
    · subst c2
      have h : dollar rec g q l = .ok g' r := h
      have := dollar_less hR h
      omega
    by_cases c3 : c = 96
    · subst c3; cases h
    · rw [pc_add c1 c2 c3] at h
      injection h with _ h2
      rw [← h2]; omega
theorem dloop_less {rec : Rec} (hR : RecL rec) {fl : Nat} : ∀ (n : Nat) (g g' : Ga) (l r : Bs), dloop rec fl n g l = .ok g' r → r.length ≤ l.length
  | 0, g, g', l, r, h => by cases h
  | n + 1, g, g', l, r, h => by
    cases l with
    | nil => cases h
    | cons c l =>
      rw [dloop] at h
      rw [List.length_cons]
      split at h
      · injection h with _ h2; rw [← h2]; omega
      · cases hp : piece rec escD g true (c :: l) with
        | bad a e => rw [hp] at h; cases h
        | ok g2 l2 =>
          rw [hp] at h
          have h1 := piece_less hR (by simp) hp
          have h2 := dloop_less hR n g2 g' l2 r h
          rw [List.length_cons] at h1
          omega
theorem step_less {rec : Rec} (hR : RecL rec) {g g' : Ga} {q : Bool} {l r : Bs} (h0 : l ≠ []) (h : step rec g q l = .ok g' r) : r.length < l.length := by
  cases l with
  | nil => exact absurd rfl h0
  | cons c l =>
    by_cases c39 : c = 39
    · subst c39
      have h : single g l = .ok g' r := h
      unfold single at h
      rw [List.length_cons]
      split at h
      · cases h
      · injection h with _ h2; rw [← h2, List.length_drop]; omega
    by_cases c34 : c = 34
    · subst c34
      have h : dloop rec (l.length + 1) (l.length + 1) (if stands [34] l then g.add [] true else g) l = .ok g' r := h
      have := dloop_less hR _ _ _ _ _ h
      rw [List.length_cons]; omega
    · have e : ∀ x, step rec g q (c :: x) = piece rec (fun _ => true) g q (c :: x) := fun x => by unfold step; simp only [if_neg c39, if_neg c34]
      rw [e] at h
      exact piece_less hR (by simp) h
theorem ploop_less {rec : Rec} (hR : RecL rec) (ends : UInt8 → Bool) (q : Bool) : ∀ (n : Nat) (g g' : Ga) (l r : Bs), ploop rec ends q n g l = .ok g' r → r.length ≤ l.length
  | 0, g, g', l, r, h => by injection h with _ h2; rw [h2]; exact Nat.le_refl _
  | n + 1, g, g', l, r, h => by
    cases l with
    | nil => injection h with _ h2; rw [← h2]; exact Nat.le_refl _
    | cons c l =>
      rw [ploop] at h
      split at h
      · injection h with _ h2; rw [← h2]; exact Nat.le_refl _
      · cases hs : step rec g q (c :: l) with
        | bad a e => rw [hs] at h; cases h
        | ok g2 l2 =>
          rw [hs] at h
          have h1 := step_less hR (by simp) hs
          have h2 := ploop_less hR ends q n g2 g' l2 r h
          omega
theorem parts_less {rec : Rec} (hR : RecL rec) (ends : UInt8 → Bool) (q : Bool) {l r : Bs} {w : List PT} (h : partsR rec ends q l = .ok w r) : r.length ≤ l.length := by
  unfold partsR at h
  cases hp : ploop rec ends q (l.length + 1) .empty l with
  | bad a e => rw [hp] at h; cases h
  | ok g r1 =>
    rw [hp] at h
    injection h with _ h2
    rw [← h2]
    exact ploop_less hR ends q _ _ _ _ _ hp
theorem recL_recN : ∀ n, RecL (recN n)
  | 0 => fun parts h => by cases h
  | n + 1 => fun parts h q l w r hp => by cases h; exact parts_less (recL_recN n) _ _ hp
theorem ploop_ext {rec : Rec} (hR : RecX rec) (hL : RecL rec) (ends : UInt8 → Bool) (q : Bool) (t : Bs) : ∀ (n m : Nat) (g g' : Ga) (l r : Bs), l.length < n → l.length + t.length + 1 < m → ploop rec ends q n g l = .ok g' r → (r ≠ [] → ploop rec ends q m g (l ++ 10 :: t) = .ok g' (r ++ 10 :: t)) ∧ (r = [] → ends 10 = true → ploop rec ends q m g (l ++ 10 :: t) = .ok g' (10 :: t))
  | 0, m, g, g', l, r, hn, _, h => by omega
  | n + 1, 0, g, g', l, r, hn, hm, h => by omega
  | n + 1, m + 1, g, g', l, r, hn, hm, h => by
    cases l with
    | nil =>
      injection h with e1 e2
      subst e1; subst e2
      refine ⟨fun h => absurd rfl h, fun _ he => ?_⟩
      rw [List.nil_append, ploop]
      simp only [he, if_true]
    | cons c l =>
      rw [ploop] at h
      rw [List.length_cons] at hn hm
      rw [List.cons_append, ploop]
      cases he : ends c with
      | true =>
        simp only [he, if_true] at h ⊢
        injection h with e1 e2
        subst e1; subst e2
        exact ⟨fun _ => rfl, fun h => by cases h⟩
      | false =>
        simp only [he, Bool.false_eq_true, if_false] at h ⊢
        cases hs : step rec g q (c :: l) with
        | bad a e => rw [hs] at h; cases h
        | ok g2 l2 =>
          rw [hs] at h
          have hx := step_ext hR t (by simp) hs
          have hlt := step_less hL (by simp) hs
          rw [List.cons_append] at hx
          rw [List.length_cons] at hlt
          rw [hx]
          exact ploop_ext hR hL ends q t n m g2 g' l2 r (by omega) (by omega) h
theorem parts_ext {rec : Rec} (hR : RecX rec) (hL : RecL rec) (ends : UInt8 → Bool) (q : Bool) (t : Bs) {l r : Bs} {w : List PT} (h : partsR rec ends q l = .ok w r) : (r ≠ [] → partsR rec ends q (l ++ 10 :: t) = .ok w (r ++ 10 :: t)) ∧ (r = [] → ends 10 = true → partsR rec ends q (l ++ 10 :: t) = .ok w (10 :: t)) := by
  unfold partsR at h ⊢
  cases hp : ploop rec ends q (l.length + 1) .empty l with
  | bad a e => rw [hp] at h; cases h
  | ok g r1 =>
    rw [hp] at h
    injection h with h1 h2
    subst h1; subst h2
    obtain ⟨x1, x2⟩ := ploop_ext hR hL ends q t (l.length + 1) ((l ++ 10 :: t).length + 1) .empty g l r1 (by omega) (by simp) hp
    exact ⟨fun h => by rw [x1 h], fun h he => by rw [x2 h he]⟩
theorem recX_recN : ∀ n, RecX (recN n)
  | 0 => fun parts h => by cases h
  | n + 1 => fun parts h q l w c r t hp => by
    cases h
    exact (parts_ext (recX_recN n) (recL_recN n) _ q t hp).1 (by simp)
/-- What is scanned of a text is scanned of it with a newline and more behind it. -/
theorem scan_ext {l r : Bs} {w : List PT} (t : Bs) (h : scan l = .ok w r) : scan (l ++ 10 :: t) = .ok w (r ++ 10 :: t) := by
  obtain ⟨h1, h2⟩ := parts_ext (recX_recN 16) (recL_recN 16) meta_ false t h
  by_cases hr : r = []
  · rw [hr]; exact h2 hr (by decide)
  · exact h1 hr
theorem scan_less {l r : Bs} {w : List PT} (h : scan l = .ok w r) : r.length ≤ l.length := parts_less (recL_recN 16) _ _ h
end WdM

/- DERIVED. Plain mathematics of layer 8: what is read of a script is read of it with a newline and more behind it: between words, signs, key words, words, redirections. -/
namespace SyM
open PathM WdM
set_option linter.unusedVariables false

/-- A word with a fault stands next: nothing that reads goes on there. -/
def Stuck (l : Bs) : Prop := ∃ a e, scan (aheadL l) = .bad a e
theorem scan_lone : ∃ a e, scan [92] = .bad a e := ⟨1, 60, rfl⟩
theorem drop_ext (t : Bs) : ∀ l : Bs, (l ++ 10 :: t).dropWhile (fun d => d != 10) = l.dropWhile (fun d => d != 10) ++ 10 :: t
  | [] => by rw [List.nil_append, List.dropWhile_cons, if_neg (by decide)]; rfl
  | c :: l => by
    rw [List.cons_append, List.dropWhile_cons, List.dropWhile_cons]
    by_cases h : (c != 10) = true
    · rw [if_pos h, if_pos h, drop_ext t l]
    · rw [if_neg h, if_neg h]; rfl
theorem ahead_nl (t : Bs) : aheadL (10 :: t) = 10 :: t := by cases t <;> simp [aheadL]
theorem ahead_32 (l : Bs) : aheadL (32 :: l) = aheadL l := by cases l <;> simp [aheadL]
theorem ahead_9 (l : Bs) : aheadL (9 :: l) = aheadL l := by cases l <;> simp [aheadL]
theorem ahead_35 (l : Bs) : aheadL (35 :: l) = l.dropWhile (fun d => d != 10) := by cases l <;> simp [aheadL]
theorem ahead_92 (d : UInt8) (l : Bs) : aheadL (92 :: d :: l) = if d = 10 then aheadL l else 92 :: d :: l := by simp [aheadL]
theorem ahead_else {c : UInt8} (l : Bs) (h1 : ¬ c = 32) (h2 : ¬ c = 9) (h3 : ¬ c = 92) (h4 : ¬ c = 35) : aheadL (c :: l) = c :: l := by cases l <;> simp [aheadL, h1, h2, h3, h4]
theorem ahead_ext (t : Bs) : ∀ (n : Nat) (l : Bs), l.length ≤ n → aheadL l = [92] ∨ aheadL (l ++ 10 :: t) = aheadL l ++ 10 :: t
  | n, [], _ => .inr (ahead_nl t)
  | 0, c :: l, h => by simp at h
  | n + 1, c :: l, h => by
    rw [List.length_cons] at h
    rw [List.cons_append]
    by_cases h1 : c = 32
    · subst h1; rw [ahead_32, ahead_32]; exact ahead_ext t n l (by omega)
    by_cases h2 : c = 9
    · subst h2; rw [ahead_9, ahead_9]; exact ahead_ext t n l (by omega)
    by_cases h3 : c = 92
    · subst h3
      cases l with
      | nil => exact .inl rfl
      | cons d l =>
        rw [List.length_cons] at h
        rw [List.cons_append, ahead_92, ahead_92]
        by_cases h4 : d = 10
        · rw [if_pos h4, if_pos h4]; exact ahead_ext t n l (by omega)
        · rw [if_neg h4, if_neg h4]; exact .inr rfl
    by_cases h4 : c = 35
    · subst h4; rw [ahead_35, ahead_35]; exact .inr (drop_ext t l)
    · rw [ahead_else _ h1 h2 h3 h4, ahead_else _ h1 h2 h3 h4]; exact .inr rfl
theorem ahead_go {l : Bs} (t : Bs) (h : ¬ Stuck l) : aheadL (l ++ 10 :: t) = aheadL l ++ 10 :: t := by
  rcases ahead_ext t l.length l (Nat.le_refl _) with h1 | h1
  · exact absurd (by unfold Stuck; rw [h1]; exact scan_lone) h
  · exact h1
theorem sign_ext (t : Bs) (c : UInt8) (l : Bs) : signOf (c :: l ++ 10 :: t) = signOf (c :: l) := by
  unfold signOf
  congr 1
  have h : ∀ o ∈ signsL, stands o (c :: l ++ 10 :: t) = stands o (c :: l) := by
    intro o ho
    by_cases h10 : o = [10]
    · subst h10; rfl
    · refine stands_ext10 t o (c :: l) (fun d hd e => ?_)
      subst e
      have : (signsL.all fun o => o == [10] || !o.contains 10) = true := by decide
      have h2 := List.all_eq_true.1 this o ho
      simp [h10] at h2
      exact h2 hd
  have aux : ∀ L : List Bs, (∀ o ∈ L, stands o (c :: l ++ 10 :: t) = stands o (c :: l)) → (L.find? fun o => stands o (c :: l ++ 10 :: t)) = L.find? fun o => stands o (c :: l) := by
    intro L
    induction L with
    | nil => intro _; rfl
    | cons a L ih =>
      intro hL
      rw [List.find?_cons, List.find?_cons, hL a (List.mem_cons_self ..), ih (fun o ho => hL o (List.mem_cons_of_mem _ ho))]
  exact aux signsL h
theorem sign_len (l : Bs) : (signOf l).length ≤ l.length := by
  unfold signOf
  cases hf : signsL.find? fun o => stands o l with
  | none => simp
  | some o => exact stands_len2 (List.find?_some (p := fun o => stands o l) hf)
theorem next_end {l : Bs} (h : aheadL l = []) : nextL l = ([], []) := by
  unfold nextL
  rw [h]
  rfl
theorem next_nl (t : Bs) : nextL (10 :: t) = ([10], t) := by
  have hs : signOf (10 :: t) = [10] := by
    cases t with
    | nil => rfl
    | cons c t => rfl
  unfold nextL
  rw [ahead_nl, hs]
  rfl
theorem next_ext {l : Bs} (t : Bs) (h : ¬ Stuck l) (h0 : aheadL l ≠ []) : nextL (l ++ 10 :: t) = ((nextL l).1, (nextL l).2 ++ 10 :: t) := by
  have ha := ahead_go t h
  unfold nextL
  rw [ha]
  cases hl : aheadL l with
  | nil => exact absurd hl h0
  | cons c x =>
    rw [sign_ext]
    by_cases hs : signOf (c :: x) = []
    · rw [if_neg (fun e => e hs), if_neg (fun e => e hs)]
      cases hsc : scan (c :: x) with
      | bad a e => exact absurd ⟨a, e, by rw [hl]; exact hsc⟩ h
      | ok w r =>
        rw [scan_ext t hsc]
        simp only []
        cases keyOf w <;> rfl
    · rw [if_pos hs, if_pos hs, List.drop_append_of_le_length (sign_len _)]
/-- What is passed over. -/
theorem pass_ext {what l r : Bs} (t : Bs) (hw : what ≠ []) (h : passL what l = some r) : passL what (l ++ 10 :: t) = some (r ++ 10 :: t) := by
  unfold passL at h ⊢
  have hst : ¬ Stuck l ∧ aheadL l ≠ [] := by
    refine ⟨fun ⟨a, e, hs⟩ => ?_, fun h0 => ?_⟩
    · by_cases hg : signOf (aheadL l) = []
      · have hn : nextL l = ([], aheadL l) := by unfold nextL; rw [if_neg (fun x => x hg), hs]
        rw [hn, if_neg (fun x => hw x.symm)] at h
        cases h
      · exfalso
        cases hl : aheadL l with
        | nil => rw [hl] at hg; exact hg rfl
        | cons c x =>
          rw [hl] at hs hg
          have hm : meta_ c = true := by
            unfold signOf at hg
            cases hf : signsL.find? fun o => stands o (c :: x) with
            | none => rw [hf] at hg; exact absurd rfl hg
            | some o =>
              have h1 : stands o (c :: x) = true := List.find?_some (p := fun o => stands o (c :: x)) hf
              have h2 := List.mem_of_find?_eq_some hf
              have h3 : (signsL.all fun o => match o with | [] => false | d :: _ => meta_ d) = true := by decide
              have h4 := List.all_eq_true.1 h3 o h2
              cases o with
              | nil => cases h4
              | cons d o =>
                unfold stands at h1
                have h5 : (d == c && o.isPrefixOf x) = true := h1
                rw [Bool.and_eq_true] at h5
                have h6 : d = c := by simpa using h5.1
                rw [← h6]; exact h4
          have : scan (c :: x) = .ok [] (c :: x) := by
            unfold scan partsR
            rw [List.length_cons, ploop]
            simp only [hm, if_true]
            rfl
          rw [this] at hs
          cases hs
    · rw [next_end h0] at h
      rw [if_neg (fun e => hw e.symm)] at h
      cases h
  rw [next_ext t hst.1 hst.2]
  simp only []
  by_cases he : (nextL l).1 = what
  · rw [if_pos he] at h ⊢; injection h with h; rw [h]
  · rw [if_neg he] at h; cases h
theorem pass_none {what l : Bs} (t : Bs) (h10 : what ≠ [10]) (hs : ¬ Stuck l) (h : passL what l = none) : passL what (l ++ 10 :: t) = none := by
  unfold passL at h ⊢
  by_cases h0 : aheadL l = []
  · have e : nextL (l ++ 10 :: t) = ([10], t) := by
      have ha := ahead_go t hs
      rw [h0, List.nil_append] at ha
      have e2 : nextL (l ++ 10 :: t) = nextL (10 :: t) := by unfold nextL; rw [ha, ahead_nl]
      rw [e2, next_nl]
    rw [e, if_neg (fun e => h10 e.symm)]
  · rw [next_ext t hs h0]
    simp only []
    by_cases he : (nextL l).1 = what
    · rw [if_pos he] at h; cases h
    · rw [if_neg he]
theorem need_ext {what l r : Bs} (t : Bs) (hw : what ≠ []) (h : needL what l = .ok () r) : needL what (l ++ 10 :: t) = .ok () (r ++ 10 :: t) := by
  unfold needL at h ⊢
  cases hp : passL what l with
  | none => rw [hp] at h; cases h
  | some r1 =>
    rw [hp] at h
    rw [pass_ext t hw hp]
    injection h with _ h
    rw [h]
theorem stands_word {l : Bs} (t : Bs) (hs : ¬ Stuck l) : wordStands (l ++ 10 :: t) = wordStands l := by
  unfold wordStands
  rw [ahead_go t hs]
  cases aheadL l with
  | nil => rfl
  | cons c x => rfl
theorem word_ext {sc : Bs → Option Int} {l r : Bs} {w : List PT} (t : Bs) (h : wordL sc l = .ok w r) : wordL sc (l ++ 10 :: t) = .ok w (r ++ 10 :: t) := by
  unfold wordL at h
  cases hw : wordStands l with
  | false => rw [hw] at h; cases h
  | true =>
    rw [hw, if_pos rfl] at h
    cases hsc : scan (aheadL l) with
    | bad a e =>
      rw [hsc] at h
      simp only [] at h
      split at h <;> cases h
    | ok w1 r1 =>
      have hs : ¬ Stuck l := fun ⟨a, e, h2⟩ => by rw [hsc] at h2; cases h2
      rw [hsc] at h
      unfold wordL
      rw [stands_word t hs, hw, if_pos rfl, ahead_go t hs, scan_ext t hsc]
      simp only [] at h ⊢
      cases hf : scriptsF sc w1 with
      | some e => rw [hf] at h; cases h
      | none =>
        rw [hf] at h
        simp only [] at h ⊢
        injection h with h1 h2
        rw [h1, h2]
theorem arrowAt_ext {fd : Option Int} (t : Bs) (l : Bs) : arrowAt fd (l ++ 10 :: t) = (arrowAt fd l).map fun x => (x.1, x.2.1, x.2.2 ++ 10 :: t) := by
  cases l with
  | nil =>
    have hs : signOf ([] ++ 10 :: t) = [10] := by
      cases t with
      | nil => rfl
      | cons c t => rfl
    unfold arrowAt
    rw [hs]
    rfl
  | cons c x =>
    have hl := sign_len (c :: x)
    unfold arrowAt
    simp only [sign_ext]
    rw [List.drop_append_of_le_length hl]
    split
    · rfl
    · split <;> rfl
theorem arrow_ext {l : Bs} (t : Bs) (hs : ¬ Stuck l) : arrowL (l ++ 10 :: t) = (arrowL l).map fun x => (x.1, x.2.1, x.2.2 ++ 10 :: t) := by
  unfold arrowL
  rw [ahead_go t hs]
  cases aheadL l with
  | nil =>
    have := arrowAt_ext (fd := none) t []
    rw [List.nil_append] at this
    show (if digit 10 then _ else arrowAt none (10 :: t)) = _
    rw [if_neg (by decide), this]
    rfl
  | cons c x =>
    show (if digit c then arrowAt (some ((c.toNat : Int) - 48)) (x ++ 10 :: t) else arrowAt none (c :: x ++ 10 :: t)) = _
    by_cases hd : digit c = true
    · rw [if_pos hd, arrowAt_ext]
      simp only [if_pos hd]
    · rw [if_neg hd, arrowAt_ext]
      simp only [if_neg hd]
end SyM

/- DERIVED. Plain mathematics of layer 8: what is left is less; redirections and simple commands with a newline and more behind them. -/
namespace SyM
open PathM WdM
set_option linter.unusedVariables false

theorem dropWhile_len (p : UInt8 → Bool) : ∀ l : Bs, (l.dropWhile p).length ≤ l.length
  | [] => Nat.le_refl _
  | c :: l => by
    rw [List.dropWhile_cons]
    split
    · have := dropWhile_len p l; rw [List.length_cons]; omega
    · exact Nat.le_refl _
theorem ahead_less : ∀ (n : Nat) (l : Bs), l.length ≤ n → (aheadL l).length ≤ l.length
  | n, [], _ => Nat.le_refl _
  | 0, c :: l, h => by simp at h
  | n + 1, c :: l, h => by
    rw [List.length_cons] at h
    by_cases h1 : c = 32
    · subst h1; rw [ahead_32, List.length_cons]; have := ahead_less n l (by omega); omega
    by_cases h2 : c = 9
    · subst h2; rw [ahead_9, List.length_cons]; have := ahead_less n l (by omega); omega
    by_cases h3 : c = 92
    · subst h3
      cases l with
      | nil => exact Nat.le_refl _
      | cons d l =>
        rw [List.length_cons] at h
        rw [ahead_92]
        by_cases h4 : d = 10
        · rw [if_pos h4]; have := ahead_less n l (by omega); simp only [List.length_cons]; omega
        · rw [if_neg h4]; exact Nat.le_refl _
    by_cases h4 : c = 35
    · subst h4; rw [ahead_35, List.length_cons]; have := dropWhile_len (fun d => d != 10) l; omega
    · rw [ahead_else _ h1 h2 h3 h4]; exact Nat.le_refl _
theorem ahead_le (l : Bs) : (aheadL l).length ≤ l.length := ahead_less l.length l (Nat.le_refl _)
theorem scan_meta {c : UInt8} {l : Bs} (h : meta_ c = true) : scan (c :: l) = .ok [] (c :: l) := by
  unfold scan partsR
  rw [List.length_cons, ploop]
  simp only [h, if_true]
  rfl
theorem ploop_stop (rec : Rec) (ends : UInt8 → Bool) (q : Bool) (n : Nat) (g : Ga) {d : UInt8} (y : Bs) (h : ends d = true) : ploop rec ends q (n + 1) g (d :: y) = .ok g (d :: y) := by
  rw [ploop]; simp only [h, if_true]
theorem scan_nil : scan [] = .ok [] [] := rfl
theorem scan_less1 {c : UInt8} {l r : Bs} {w : List PT} (hm : meta_ c = false) (h : scan (c :: l) = .ok w r) : r.length < (c :: l).length := by
  unfold scan partsR at h
  rw [List.length_cons, ploop] at h
  simp only [hm, Bool.false_eq_true, if_false] at h
  cases hs : step (recN 16) .empty false (c :: l) with
  | bad a e => rw [hs] at h; cases h
  | ok g l2 =>
    rw [hs] at h
    simp only [] at h
    have h1 := step_less (recL_recN 16) (by simp) hs
    cases hp : ploop (recN 16) meta_ false (l.length + 1) g l2 with
    | bad a e => rw [hp] at h; cases h
    | ok g2 r2 =>
      rw [hp] at h
      injection h with _ h2
      have := ploop_less (recL_recN 16) meta_ false _ _ _ _ _ hp
      rw [← h2]
      omega
theorem sign_pos {l : Bs} (h : signOf l ≠ []) : 1 ≤ (signOf l).length ∧ 1 ≤ l.length := by
  have h1 : 1 ≤ (signOf l).length := by
    cases hs : signOf l with
    | nil => exact absurd hs h
    | cons => simp
  exact ⟨h1, Nat.le_trans h1 (sign_len l)⟩
theorem next_le (l : Bs) : (nextL l).2.length ≤ l.length := by
  have ha := ahead_le l
  unfold nextL
  split
  · rw [List.length_drop]; omega
  · split
    · exact ha
    · rename_i w r hs
      have := scan_less hs
      split
      · show r.length ≤ _; omega
      · exact ha
theorem pass_less {what l r : Bs} (hw : what ≠ []) (h : passL what l = some r) : r.length < l.length := by
  have ha := ahead_le l
  unfold passL at h
  by_cases he : (nextL l).1 = what
  · rw [if_pos he] at h
    injection h with h
    subst h
    unfold nextL at he ⊢
    by_cases hs : signOf (aheadL l) = []
    · rw [if_neg (fun x => x hs)] at he ⊢
      cases hsc : scan (aheadL l) with
      | bad a e => rw [hsc] at he; exact absurd he.symm hw
      | ok w r =>
        rw [hsc] at he
        simp only [] at he ⊢
        cases hk : keyOf w with
        | none => rw [hk] at he; exact absurd he.symm hw
        | some t =>
          simp only []
          cases hl : aheadL l with
          | nil => rw [hl, scan_nil] at hsc; injection hsc with h1 _; subst h1; cases hk
          | cons c x =>
            rw [hl] at hsc ha
            cases hm : meta_ c with
            | true => rw [scan_meta hm] at hsc; injection hsc with h1 _; subst h1; cases hk
            | false => have := scan_less1 hm hsc; omega
    · rw [if_pos hs]
      have := sign_pos hs
      show ((aheadL l).drop _).length < _
      rw [List.length_drop]; omega
  · rw [if_neg he] at h; cases h
theorem need_less {what l r : Bs} (hw : what ≠ []) (h : needL what l = .ok () r) : r.length < l.length := by
  unfold needL at h
  cases hp : passL what l with
  | none => rw [hp] at h; cases h
  | some r1 => rw [hp] at h; injection h with _ h; rw [← h]; exact pass_less hw hp
theorem word_less {sc : Bs → Option Int} {l r : Bs} {w : List PT} (h : wordL sc l = .ok w r) : r.length < l.length := by
  have ha := ahead_le l
  unfold wordL at h
  cases hw : wordStands l with
  | false => rw [hw] at h; cases h
  | true =>
    rw [hw, if_pos rfl] at h
    unfold wordStands at hw
    cases hl : aheadL l with
    | nil => rw [hl] at hw; cases hw
    | cons c x =>
      rw [hl] at hw h ha
      have hm : meta_ c = false := by simpa using hw
      cases hsc : scan (c :: x) with
      | bad a e =>
        rw [hsc] at h
        simp only [] at h
        split at h <;> cases h
      | ok w1 r1 =>
        have := scan_less1 hm hsc
        rw [hsc] at h
        simp only [] at h
        cases hf : scriptsF sc w1 with
        | some e => rw [hf] at h; cases h
        | none =>
          rw [hf] at h
          injection h with _ h2
          rw [← h2]
          omega
theorem sign_meta {c : UInt8} {x : Bs} (hg : signOf (c :: x) ≠ []) : meta_ c = true := by
  unfold signOf at hg
  cases hf : signsL.find? fun o => stands o (c :: x) with
  | none => rw [hf] at hg; exact absurd rfl hg
  | some o =>
    have h1 : stands o (c :: x) = true := List.find?_some (p := fun o => stands o (c :: x)) hf
    have h2 := List.mem_of_find?_eq_some hf
    have h3 : (signsL.all fun o => match o with | [] => false | d :: _ => meta_ d) = true := by decide
    have h4 := List.all_eq_true.1 h3 o h2
    cases o with
    | nil => cases h4
    | cons d o =>
      have h5 : (d == c && o.isPrefixOf x) = true := h1
      rw [Bool.and_eq_true] at h5
      have h6 : d = c := by simpa using h5.1
      rw [← h6]; exact h4
theorem arrowAt_sign {fd : Option Int} {l : Bs} {x : Int × Bs × Bs} (h : arrowAt fd l = some x) : signOf l ≠ [] ∧ x.2.2 = l.drop (signOf l).length := by
  unfold arrowAt at h
  simp only [] at h
  split at h
  · rename_i ho
    injection h with h
    subst h
    exact ⟨by rcases ho with e | e <;> rw [e] <;> simp, rfl⟩
  · split at h
    · rename_i ho
      injection h with h
      subst h
      exact ⟨by rcases ho with e | e | e <;> rw [e] <;> simp, rfl⟩
    · cases h
theorem arrow_less {l : Bs} {x : Int × Bs × Bs} (h : arrowL l = some x) : x.2.2.length < l.length := by
  have ha := ahead_le l
  unfold arrowL at h
  cases hl : aheadL l with
  | nil => rw [hl] at h; cases h
  | cons c y =>
    rw [hl] at h ha
    rw [List.length_cons] at ha
    simp only [] at h
    split at h
    · obtain ⟨h1, h2⟩ := arrowAt_sign h
      rw [h2, List.length_drop]
      have := sign_pos h1
      omega
    · obtain ⟨h1, h2⟩ := arrowAt_sign h
      rw [h2, List.length_drop, List.length_cons]
      have := sign_pos h1
      omega
/-- Where a redirection stands nothing is stuck. -/
theorem arrow_free {l : Bs} {x : Int × Bs × Bs} (h : arrowL l = some x) : ¬ Stuck l := by
  rintro ⟨a, e, hs⟩
  unfold arrowL at h
  cases hl : aheadL l with
  | nil => rw [hl] at h; cases h
  | cons c y =>
    rw [hl] at h hs
    simp only [] at h
    split at h
    · rename_i hd
      obtain ⟨h1, _⟩ := arrowAt_sign h
      cases y with
      | nil => exact h1 rfl
      | cons d y =>
        have hm := sign_meta h1
        have hmc : meta_ c = false := by
          cases hx : meta_ c with
          | false => rfl
          | true =>
            exfalso
            have h9 : metas.all (fun d => !digit d) = true := by decide
            have := List.all_eq_true.1 h9 c (by unfold meta_ at hx; simpa using hx)
            rw [hd] at this; cases this
        have hs2 : scan (c :: d :: y) = .ok [litP false [c]] (d :: y) := by
          unfold scan partsR
          rw [List.length_cons, ploop]
          simp only [hmc, Bool.false_eq_true, if_false]
          have hq : ∀ n : UInt8, digit n = false → ¬ c = n := fun n hn e => by rw [e, hn] at hd; cases hd
          have hst : step (recN 16) .empty false (c :: d :: y) = .ok (Ga.empty.add [c] false) (d :: y) := by
            unfold step
            simp only [if_neg (hq 39 (by decide)), if_neg (hq 34 (by decide))]
            exact pc_add (hq 92 (by decide)) (hq 36 (by decide)) (hq 96 (by decide))
          rw [hst, List.length_cons]
          simp only [ploop_stop (recN 16) meta_ false _ _ y hm]
          rfl
        rw [hs2] at hs
        cases hs
    · obtain ⟨h1, _⟩ := arrowAt_sign h
      rw [scan_meta (sign_meta h1)] at hs
      cases hs
theorem redir_ext {sc : Bs → Option Int} {l r : Bs} {x : RdT} (t : Bs) (h : redirL sc l = .ok x r) (ha0 : (arrowL l).isSome = true) : redirL sc (l ++ 10 :: t) = .ok x (r ++ 10 :: t) ∧ r.length < l.length := by
  unfold redirL at h ⊢
  cases ha : arrowL l with
  | none => rw [ha] at ha0; cases ha0
  | some y =>
    obtain ⟨fd, op, r0⟩ := y
    have hs := arrow_free ha
    have hl := arrow_less ha
    rw [ha] at h
    rw [arrow_ext t hs, ha]
    simp only [Option.map_some] at h ⊢
    cases hw : wordL sc r0 with
    | bad a e => rw [hw] at h; cases h
    | ok w r1 =>
      have hl2 := word_less hw
      rw [hw] at h
      rw [word_ext t hw]
      injection h with h1 h2
      rw [← h1, ← h2]
      exact ⟨rfl, by simp only [] at hl; omega⟩
theorem arrow_none {l : Bs} (t : Bs) (hs : ¬ Stuck l) (h : arrowL l = none) : arrowL (l ++ 10 :: t) = none := by rw [arrow_ext t hs, h]; rfl
theorem redirs_ext {sc : Bs → Option Int} (t : Bs) : ∀ (n m : Nat) (acc rs : List RdT) (l r : Bs), l.length < n → l.length < m → redirsN sc n acc l = .ok rs r → (Stuck r ∨ redirsN sc m acc (l ++ 10 :: t) = .ok rs (r ++ 10 :: t)) ∧ r.length ≤ l.length ∧ arrowL r = none
  | 0, m, acc, rs, l, r, hn, _, h => by omega
  | n + 1, 0, acc, rs, l, r, hn, hm, h => by omega
  | n + 1, m + 1, acc, rs, l, r, hn, hm, h => by
    rw [redirsN] at h
    cases ha : arrowL l with
    | none =>
      rw [ha] at h
      injection h with h1 h2
      subst h1; subst h2
      refine ⟨?_, Nat.le_refl _, ha⟩
      by_cases hs : Stuck l
      · exact .inl hs
      · right; rw [redirsN, arrow_none t hs ha]
    | some y =>
      rw [ha] at h
      simp only [] at h
      cases hr : redirL sc l with
      | bad a e => rw [hr] at h; cases h
      | ok x r1 =>
        rw [hr] at h
        simp only [] at h
        obtain ⟨h1, h2⟩ := redir_ext t hr (by rw [ha]; rfl)
        obtain ⟨i1, i2, i3⟩ := redirs_ext t n m (acc ++ [x]) rs r1 r (by omega) (by omega) h
        refine ⟨?_, by omega, i3⟩
        rcases i1 with i1 | i1
        · exact .inl i1
        · right
          rw [redirsN, arrow_ext t (arrow_free ha), ha]
          simp only [Option.map_some, h1]
          exact i1
end SyM

/- DERIVED. Plain mathematics of layer 8: newlines, simple commands, lists up to a sign, choices, loops with a newline and more behind them. -/
namespace SyM
open PathM WdM
set_option linter.unusedVariables false

/-- Something stands next that is read. -/
def Free (l : Bs) : Prop := ¬ Stuck l ∧ aheadL l ≠ []
theorem pass_free {what l r : Bs} (hw : what ≠ []) (h : passL what l = some r) : Free l := by
  unfold passL at h
  refine ⟨fun ⟨a, e, hs⟩ => ?_, fun h0 => ?_⟩
  · by_cases hg : signOf (aheadL l) = []
    · have hn : nextL l = ([], aheadL l) := by unfold nextL; rw [if_neg (fun x => x hg), hs]
      rw [hn, if_neg (fun x => hw x.symm)] at h
      cases h
    · cases hl : aheadL l with
      | nil => rw [hl] at hg; exact hg rfl
      | cons c x =>
        rw [hl] at hs hg
        rw [scan_meta (sign_meta hg)] at hs
        cases hs
  · rw [next_end h0, if_neg (fun x => hw x.symm)] at h
    cases h
theorem need_free {what l r : Bs} (hw : what ≠ []) (h : needL what l = .ok () r) : Free l := by
  unfold needL at h
  cases hp : passL what l with
  | none => rw [hp] at h; cases h
  | some r1 => exact pass_free hw hp
theorem pass_closed {what l : Bs} (hw : what ≠ []) (h : ¬ Free l) : passL what l = none := by
  cases hp : passL what l with
  | none => rfl
  | some r => exact absurd (pass_free hw hp) h
theorem newlinesN_closed : ∀ (n : Nat) {l : Bs}, ¬ Free l → newlinesN n l = l
  | 0, l, h => rfl
  | n + 1, l, h => by rw [newlinesN, pass_closed (by decide) h]
theorem newlines_free {l : Bs} (h : Free (newlinesL l)) : Free l := by
  apply Classical.byContradiction
  intro hn
  unfold newlinesL at h
  rw [newlinesN_closed _ hn] at h
  exact hn h
theorem newlinesN_ext (t : Bs) : ∀ (n m : Nat) (l : Bs), l.length < n → l.length < m → Free (newlinesN n l) → newlinesN m (l ++ 10 :: t) = newlinesN n l ++ 10 :: t
  | 0, m, l, hn, _, _ => by omega
  | n + 1, 0, l, hn, hm, _ => by omega
  | n + 1, m + 1, l, hn, hm, h => by
    rw [newlinesN] at h
    have hgo : newlinesN (n + 1) l = match passL [10] l with | none => l | some r => newlinesN n r := rfl
    rw [hgo]
    cases hp : passL [10] l with
    | none =>
      rw [hp] at h
      rw [newlinesN]
      show _ = l ++ 10 :: t
      have hne : (nextL l).1 ≠ [10] := fun e => by unfold passL at hp; rw [if_pos e] at hp; cases hp
      have : passL [10] (l ++ 10 :: t) = none := by
        unfold passL
        rw [next_ext t h.1 h.2, if_neg hne]
      rw [this]
    | some r =>
      rw [hp] at h
      have hl := pass_less (by decide) hp
      rw [newlinesN, pass_ext t (by decide) hp]
      show _ = newlinesN n r ++ 10 :: t
      exact newlinesN_ext t n m r (by omega) (by omega) h
theorem newlines_ext {l : Bs} (t : Bs) (h : Free (newlinesL l)) : newlinesL (l ++ 10 :: t) = newlinesL l ++ 10 :: t :=
  newlinesN_ext t _ _ l (by omega) (by simp; omega) h
theorem newlinesN_le : ∀ (n : Nat) (l : Bs), (newlinesN n l).length ≤ l.length
  | 0, l => Nat.le_refl _
  | n + 1, l => by
    rw [newlinesN]
    cases hp : passL [10] l with
    | none => exact Nat.le_refl _
    | some r =>
      have hl := pass_less (by decide) hp
      have := newlinesN_le n r
      show (newlinesN n r).length ≤ _
      omega
theorem newlines_le (l : Bs) : (newlinesL l).length ≤ l.length := newlinesN_le _ _
theorem simpleN_ext {sc : Bs → Option Int} (t : Bs) : ∀ (n m : Nat) (as : List AsT) (ws : List (List PT)) (rs : List RdT) (l r : Bs) (x : CmdT), l.length < n → l.length < m → simpleN sc n as ws rs l = .ok x r → simpleN sc m as ws rs (l ++ 10 :: t) = .ok x (r ++ 10 :: t) ∧ r.length ≤ l.length ∧ ¬ Stuck r
  | 0, m, as, ws, rs, l, r, x, hn, _, h => by omega
  | n + 1, 0, as, ws, rs, l, r, x, hn, hm, h => by omega
  | n + 1, m + 1, as, ws, rs, l, r, x, hn, hm, h => by
    rw [simpleN] at h
    rw [simpleN]
    cases ha : arrowL l with
    | some y =>
      rw [ha] at h
      simp only [Option.isSome_some, if_true] at h
      rw [arrow_ext t (arrow_free ha), ha]
      simp only [Option.map_some, Option.isSome_some, if_true]
      cases hr : redirL sc l with
      | bad a e => rw [hr] at h; cases h
      | ok z r1 =>
        rw [hr] at h
        obtain ⟨h1, h2⟩ := redir_ext t hr (by rw [ha]; rfl)
        rw [h1]
        obtain ⟨i1, i2, i3⟩ := simpleN_ext t n m as ws (rs ++ [z]) r1 r x (by omega) (by omega) h
        exact ⟨i1, by omega, i3⟩
    | none =>
      rw [ha] at h
      simp only [Option.isSome_none, Bool.false_eq_true, if_false] at h
      cases hw : wordStands l with
      | true =>
        rw [hw] at h
        simp only [if_true] at h
        cases hr : wordL sc l with
        | bad a e => rw [hr] at h; cases h
        | ok w r1 =>
          have hs : ¬ Stuck l := fun ⟨a, e, hs⟩ => by
            unfold wordL at hr
            rw [hw, if_pos rfl, hs] at hr
            simp only [] at hr
            split at hr <;> cases hr
          have hl := word_less hr
          rw [hr] at h
          rw [arrow_none t hs ha, stands_word t hs, hw, word_ext t hr]
          simp only [Option.isSome_none, Bool.false_eq_true, if_false, if_true] at h ⊢
          cases hg : assignL w with
          | none =>
            rw [hg] at h
            simp only [] at h ⊢
            obtain ⟨i1, i2, i3⟩ := simpleN_ext t n m as (ws ++ [w]) rs r1 r x (by omega) (by omega) h
            exact ⟨i1, by omega, i3⟩
          | some z =>
            rw [hg] at h
            simp only [] at h ⊢
            by_cases hwe : ws = []
            · rw [if_pos hwe] at h ⊢
              obtain ⟨i1, i2, i3⟩ := simpleN_ext t n m (as ++ [z]) ws rs r1 r x (by omega) (by omega) h
              exact ⟨i1, by omega, i3⟩
            · rw [if_neg hwe] at h ⊢
              obtain ⟨i1, i2, i3⟩ := simpleN_ext t n m as (ws ++ [w]) rs r1 r x (by omega) (by omega) h
              exact ⟨i1, by omega, i3⟩
      | false =>
        rw [hw] at h
        simp only [Bool.false_eq_true, if_false] at h
        have hs : ¬ Stuck l := fun ⟨a, e, hs⟩ => by
          unfold wordStands at hw
          cases hl : aheadL l with
          | nil => rw [hl, scan_nil] at hs; cases hs
          | cons c y =>
            rw [hl] at hs hw
            rw [scan_meta (by simpa using hw)] at hs
            cases hs
        injection h with h1 h2
        subst h1; subst h2
        rw [arrow_none t hs ha, stands_word t hs, hw]
        exact ⟨rfl, Nat.le_refl _, hs⟩
/-- Lists with a newline and more behind them: as they were, if they end at something that is there. -/
def XLists (lists : Bs → Rs (List LiT)) : Prop := ∀ l x r t, lists l = .ok x r → (Free r → lists (l ++ 10 :: t) = .ok x (r ++ 10 :: t)) ∧ r.length < l.length
theorem listsTo_ext {lists : Bs → Rs (List LiT)} (hX : XLists lists) {what l r : Bs} {x : List LiT} (t : Bs) (hw : what ≠ []) (h : listsTo lists what l = .ok x r) : listsTo lists what (l ++ 10 :: t) = .ok x (r ++ 10 :: t) ∧ r.length < l.length := by
  unfold listsTo at h ⊢
  cases hl : lists l with
  | bad a e => rw [hl] at h; cases h
  | ok y r1 =>
    rw [hl] at h
    simp only [] at h
    cases hn : needL what r1 with
    | bad a e => rw [hn] at h; cases h
    | ok u r2 =>
      rw [hn] at h
      injection h with h1 h2
      subst h1; subst h2
      obtain ⟨i1, i2⟩ := hX l y r1 t hl
      have hf := need_free (r := r2) hw hn
      rw [i1 hf]
      have hne := need_ext t hw (r := r2) hn
      have hlt := need_less hw (r := r2) hn
      simp only [hne]
      exact ⟨trivial, by omega⟩
end SyM
