/- DERIVED. Plain mathematics of layer 10 (arithmetic): how a text is cut, read and reckoned, as the program does it: no program, no world. -/
import Derived.Test.YtdegkfnlafgheaaDoorWdMath
import Derived.Test.YtdegkfnlafgheaaDoorNumMath
namespace ArM
open PathM WdM
open Go.Proofs.YtdegkfnlafgheaaDoor.NumM (decN decE conN conE textL)
set_option linter.unusedVariables false

/-- What a text is cut into. -/
inductive Tok where
  | sg (s : Bs)
  | num (t : Bs) (n : Int)
  | nam (t : Bs)
def Tok.text : Tok → Bs | .sg s => s | .num t _ => t | .nam t => t
def signsA : List Bs := [[60, 60, 61], [62, 62, 61], [60, 60], [62, 62], [60, 61], [62, 61], [61, 61], [33, 61], [38, 38], [124, 124], [43, 61], [45, 61], [42, 61], [47, 61], [37, 61], [38, 61], [94, 61], [124, 61],
  [43], [45], [42], [47], [37], [60], [62], [33], [126], [38], [94], [124], [63], [58], [61], [40], [41]]
def blankA (c : UInt8) : Bool := c == 32 || c == 9 || c == 10
/-- What a text that isn't empty begins with. -/
def firstL (s : Bs) : Except Int Tok := match signsA.find? (fun o => stands o s) with
  | some x => .ok (.sg x)
  | none => match s.take (leading named s) with
    | [] => .error 61
    | c :: t => if digit c then (if conE (c :: t) = 0 then .ok (.num (c :: t) (conN (c :: t) : Nat)) else .error (conE (c :: t) : Nat))
      else if isName (c :: t) then .ok (.nam (c :: t)) else .error 61
/-- Behind a $ that is passed over. -/
def dollarL : Bs → Bs
  | c :: d :: r => if c = 36 ∧ letter d = true then d :: r else c :: d :: r
  | l => l
def cutN : Nat → List Tok → Bs → Except Int (List Tok)
  | 0, acc, _ => .ok acc
  | n + 1, acc, s => match s.dropWhile blankA with
    | [] => .ok acc
    | c :: r => match firstL (dollarL (c :: r)) with
      | .error e => .error e
      | .ok t => cutN n (acc ++ [t]) ((dollarL (c :: r)).drop t.text.length)
def cutL (s : Bs) : Except Int (List Tok) := cutN (s.length + 1) [] s
/-- Something that is reckoned. -/
inductive Tm where
  | const (n : Int)
  | named (t : Bs)
  | led (s : Bs) (t : Tm)
  | pair (s : Bs) (l r : Tm)
  | gift (by_ name : Bs) (t : Tm)
  | choice (a b c : Tm)
def tightOf (s : Bs) : Nat :=
  if s = [124, 124] then 1 else if s = [38, 38] then 2 else if s = [124] then 3 else if s = [94] then 4 else if s = [38] then 5
  else if s = [61, 61] ∨ s = [33, 61] then 6 else if s = [60] ∨ s = [60, 61] ∨ s = [62] ∨ s = [62, 61] then 7 else if s = [60, 60] ∨ s = [62, 62] then 8
  else if s = [43] ∨ s = [45] then 9 else if s = [42] ∨ s = [47] ∨ s = [37] then 10 else 0
/-- The sign ahead of the =, if a sign gives a name a number. -/
def givesOf (s : Bs) : Option Bs :=
  if s = [61, 61] ∨ s = [33, 61] ∨ s = [60, 61] ∨ s = [62, 61] then none else if s.getLast? = some 61 then some s.dropLast else none
def leadsOf (s : Bs) : Bool := s == [43] || s == [45] || s == [33] || s == [126]
abbrev Rr := Except Int (Tm × List Tok)
/-- What binds as tight, from the left. -/
def pairLoop (sub : List Tok → Rr) (tight : Nat) : Nat → Tm → List Tok → Rr
  | 0, t, l => .ok (t, l)
  | n + 1, t, l => match l with
    | .sg s :: r => if tightOf s = tight then match sub r with
        | .error e => .error e
        | .ok (u, r2) => pairLoop sub tight n (.pair s t u) r2
      else .ok (t, l)
    | _ => .ok (t, l)
/-- k: how many levels are left; the level is 11 less that. -/
def pairsK (lead : List Tok → Rr) : Nat → List Tok → Rr
  | 0, l => lead l
  | k + 1, l => match pairsK lead k l with
    | .error e => .error e
    | .ok (t, r) => pairLoop (pairsK lead k) (10 - k) (r.length + 1) t r
structure Rd where
  all : Nat → List Tok → Rr
  cond : Nat → List Tok → Rr
  lead : Nat → List Tok → Rr
def leadF (d : Rd) (dp : Nat) (l : List Tok) : Rr := match l with
  | [] => .error 61
  | .num _ n :: r => .ok (.const n, r)
  | .nam t :: r => .ok (.named t, r)
  | .sg s :: r =>
    if leadsOf s = true then (if dp = 64 then .error 63 else match d.lead (dp + 1) r with
      | .error e => .error e
      | .ok (t, r2) => .ok (.led s t, r2))
    else if s = [40] then (if dp = 64 then .error 63 else match d.all (dp + 1) r with
      | .error e => .error e
      | .ok (t, r2) => match r2 with
        | .sg s2 :: r3 => if s2 = [41] then .ok (t, r3) else .error 61
        | _ => .error 61)
    else .error 61
def condF (d : Rd) (dp : Nat) (l : List Tok) : Rr := match pairsK (leadF d dp) 10 l with
  | .error e => .error e
  | .ok (t, r) => match r with
    | .sg s :: r2 => if s = [63] then (match d.all dp r2 with
        | .error e => .error e
        | .ok (y, r3) => match r3 with
          | .sg s2 :: r4 => if s2 = [58] then (match d.cond dp r4 with
              | .error e => .error e
              | .ok (z, r5) => .ok (.choice t y z, r5))
            else .error 61
          | _ => .error 61)
      else .ok (t, r)
    | _ => .ok (t, r)
def allF (d : Rd) (dp : Nat) (l : List Tok) : Rr := match l with
  | .nam t :: .sg s :: r => match givesOf s with
    | some b => (match d.all dp r with
      | .error e => .error e
      | .ok (x, r2) => .ok (.gift b t x, r2))
    | none => condF d dp l
  | _ => condF d dp l
def rd : Nat → Rd
  | 0 => ⟨fun _ _ => .error 61, fun _ _ => .error 61, fun _ _ => .error 61⟩
  | n + 1 => ⟨allF (rd n), condF (rd n), leadF (rd n)⟩
def readL (l : List Tok) : Except Int Tm := match (rd (l.length + 1)).all 0 l with
  | .error e => .error e
  | .ok (t, r) => if r.isEmpty then .ok t else .error 61
/-- Variables. -/
abbrev Vs := List (Bs × Bs)
def findV (v : Vs) (n : Bs) : Option Bs := (v.find? fun x => x.1 == n).map Prod.snd
def numberL (v : Vs) (n : Bs) : Except Int Int := match findV v n with
  | none => .ok 0
  | some t => if t = [] then .ok 0 else if decE t = 0 then .ok (decN t) else if conE t = 0 then .ok (conN t : Nat) else .error (conE t : Nat)
def setV (v : Vs) (n t : Bs) : Vs := match v with
  | [] => [(n, t)]
  | x :: r => if x.1 = n then (x.1, t) :: r else x :: setV r n t
def giveL (v : Vs) (n : Bs) (k : Int) : Except Int Vs := if (findV v n).isNone ∧ 64 ≤ v.length then .error 2 else .ok (setV v n (textL k))
def wrapL (n : Int) : Int := Go.IntKind.wrap .i64 n
def truthL (b : Bool) : Int := if b then 1 else 0
def bvL (f : BitVec 64 → BitVec 64 → BitVec 64) (a b : Int) : Int := wrapL (f (BitVec.ofInt 64 a) (BitVec.ofInt 64 b)).toNat
def ofL (s : Bs) (n : Int) : Int := if s = [45] then wrapL (-n) else if s = [33] then truthL (n == 0) else if s = [126] then bvL (· ^^^ ·) (-1) n else n
def settledL (s : Bs) (a : Int) : Bool := (s == [38, 38] && a == 0) || (s == [124, 124] && a != 0)
def holdsL (s : Bs) (a b : Int) : Bool :=
  if s = [61, 61] then a == b else if s = [33, 61] then a != b else if s = [60] then decide (a < b) else if s = [60, 61] then decide (a ≤ b) else if s = [62] then decide (b < a) else if s = [62, 61] then decide (b ≤ a)
  else if s = [38, 38] then a != 0 && b != 0 else a != 0 || b != 0
def betweenL (s : Bs) (a b : Int) : Except Int Int :=
  if s = [47] then (if b = 0 then .error 42 else .ok (wrapL (a.tdiv b))) else if s = [37] then (if b = 0 then .error 42 else .ok (a.tmod b))
  else if s = [60, 60] then (if b < 0 ∨ 63 < b then .error 41 else .ok (wrapL (a * 2 ^ b.toNat))) else if s = [62, 62] then (if b < 0 ∨ 63 < b then .error 41 else .ok (a.fdiv (2 ^ b.toNat)))
  else if s = [43] then .ok (wrapL (a + b)) else if s = [45] then .ok (wrapL (a - b)) else if s = [42] then .ok (wrapL (a * b))
  else if s = [38] then .ok (bvL (· &&& ·) a b) else if s = [94] then .ok (bvL (· ^^^ ·) a b) else if s = [124] then .ok (bvL (· ||| ·) a b)
  else .ok (truthL (holdsL s a b))
def reckonL : Tm → Vs → Except Int (Int × Vs)
  | .const n, v => .ok (n, v)
  | .named t, v => match numberL v t with
    | .error e => .error e
    | .ok n => .ok (n, v)
  | .led s t, v => match reckonL t v with
    | .error e => .error e
    | .ok (n, v2) => .ok (ofL s n, v2)
  | .pair s l r, v => match reckonL l v with
    | .error e => .error e
    | .ok (a, v2) => if settledL s a then .ok (truthL (a != 0), v2) else match reckonL r v2 with
      | .error e => .error e
      | .ok (b, v3) => match betweenL s a b with
        | .error e => .error e
        | .ok n => .ok (n, v3)
  | .gift b nm t, v => match reckonL t v with
    | .error e => .error e
    | .ok (n, v2) =>
      let m : Except Int Int := if b = [] then .ok n else match numberL v2 nm with
        | .error e => .error e
        | .ok old => betweenL b old n
      match m with
      | .error e => .error e
      | .ok k => match giveL v2 nm k with
        | .error e => .error e
        | .ok v3 => .ok (k, v3)
  | .choice a b c, v => match reckonL a v with
    | .error e => .error e
    | .ok (n, v2) => if n != 0 then reckonL b v2 else reckonL c v2
/-- What Eval tells. -/
def evalL (s : Bs) (v : Vs) : Except Int (Int × Vs) :=
  if 8192 < s.length ∨ 64 < v.length then .error 2 else match cutL s with
    | .error e => .error e
    | .ok l => if l.isEmpty then .ok (0, v) else match readL l with
      | .error e => .error e
      | .ok t => reckonL t v
end ArM
