/- DERIVED. Plain mathematics of layer 7 (words): how a word is read, byte by byte, as the program reads it: no program, no world. -/
import Derived.Test.YtdegkfnlafgheaaPathMath
namespace WdM
open PathM
set_option linter.unusedVariables false

/-- A part of a word. -/
inductive PT where
  | mk (kind : Int) (quoted : Bool) (text op : Bs) (word : List PT)
def PT.kind : PT → Int | .mk k _ _ _ _ => k
def PT.quoted : PT → Bool | .mk _ q _ _ _ => q
def PT.text : PT → Bs | .mk _ _ t _ _ => t
def PT.op : PT → Bs | .mk _ _ _ o _ => o
def PT.word : PT → List PT | .mk _ _ _ _ w => w
theorem PT.eta (p : PT) : PT.mk p.kind p.quoted p.text p.op p.word = p := by cases p; rfl

/-- What reading comes to: something, and what is left; or a fault: how much is left at its place, and its number. -/
inductive Rs (α : Type) where
  | ok (x : α) (rest : Bs)
  | bad (left : Nat) (e : Int)

/-- Parts so far. -/
structure Ga where
  ps : List PT
  tx : Bs
  op : Bool
  q : Bool
def Ga.empty : Ga := ⟨[], [], false, false⟩
def litP (q : Bool) (t : Bs) : PT := .mk 1 q t [] []
def Ga.close (g : Ga) : Ga := ⟨if g.op then g.ps ++ [litP g.q g.tx] else g.ps, [], false, g.q⟩
def Ga.add (g : Ga) (t : Bs) (q : Bool) : Ga :=
  let h := if g.q = q then g else g.close
  ⟨h.ps, h.tx ++ t, true, q⟩
def Ga.put (g : Ga) (p : PT) : Ga := { g.close with ps := g.close.ps ++ [p] }

def letter (c : UInt8) : Bool := (97 ≤ c && c ≤ 122) || (65 ≤ c && c ≤ 90) || c == 95
def digit (c : UInt8) : Bool := 48 ≤ c && c ≤ 57
def named (c : UInt8) : Bool := letter c || digit c
def metas : Bs := [32, 9, 10, 59, 38, 124, 60, 62, 40, 41]
def meta_ (c : UInt8) : Bool := metas.contains c
def signs : Bs := [64, 42, 35, 63]
def escD (c : UInt8) : Bool := [36, 34, 92, 96, 10].contains c
def leading (k : UInt8 → Bool) : Bs → Nat
  | [] => 0
  | c :: t => if k c then leading k t + 1 else 0
def isName (l : Bs) : Bool := !l.isEmpty && decide (l.length ≤ 64) && (match l with | [] => false | c :: _ => letter c) && decide (leading named l = l.length)

/-- Where a quote ends. -/
def quotedS (q : UInt8) : Bool → Bs → Option Nat
  | _, [] => none
  | true, _ :: t => (quotedS q false t).map (· + 1)
  | false, c :: t => if c = q then some 0 else if c = 92 ∧ q = 34 then (quotedS q true t).map (· + 1) else (quotedS q false t).map (· + 1)
/-- How many bytes stand ahead of the parenthesis that ends a text: q: the quote that is open (0: none), sk: the next byte is passed over, dp: parentheses that are open. -/
def insideS (q : UInt8) (sk : Bool) (dp : Nat) : Bs → Option Nat
  | [] => none
  | c :: t =>
    if sk then (insideS q false dp t).map (· + 1)
    else if q = 0 then
      if c = 92 then (insideS 0 true dp t).map (· + 1)
      else if c = 39 ∨ c = 34 then (insideS c false dp t).map (· + 1)
      else if c = 40 then (insideS 0 false (dp + 1) t).map (· + 1)
      else if c = 41 then (if dp = 0 then some 0 else (insideS 0 false (dp - 1) t).map (· + 1))
      else (insideS 0 false dp t).map (· + 1)
    else if c = 92 ∧ q = 34 then (insideS q true dp t).map (· + 1)
    else if c = q then (insideS 0 false dp t).map (· + 1)
    else (insideS q false dp t).map (· + 1)
def inside (l : Bs) : Option Nat := insideS 0 false 0 l

def stands (sign l : Bs) : Bool := sign.isPrefixOf l
def paramStands (l : Bs) : Bool := match l with
  | [] => false
  | c :: _ => named c || signs.contains c
def paramLen (l : Bs) : Nat := match l with
  | [] => 1
  | c :: _ => if letter c then leading named l else if digit c then leading digit l else 1
def param (l : Bs) : Rs Bs :=
  if paramStands l then if paramLen l ≤ 64 then .ok (l.take (paramLen l)) (l.drop (paramLen l)) else .bad l.length 61
  else .bad l.length 61
def ops : List Bs := [[58, 45], [58, 61], [58, 63], [58, 43], [37, 37], [35, 35], [45], [61], [63], [43], [37], [35]]
def opOf (l : Bs) : Bs := (ops.find? fun o => stands o l).getD []
def lengthStands (l : Bs) : Bool := match l with
  | 35 :: c :: _ => c != 125
  | _ => false
/-- Arithmetic: fl: what is left at its dollar. -/
def arithS (fl : Nat) (dp : Nat) (acc : Bs) : Bs → Rs Bs
  | [] => .bad fl 60
  | c :: t =>
    if [39, 34, 92, 96, 10].contains c then .bad (t.length + 1) 61
    else if c = 40 then arithS fl (dp + 1) (acc ++ [c]) t
    else if c = 41 then
      if 0 < dp then arithS fl (dp - 1) (acc ++ [c]) t
      else if stands [41] t then .ok acc (t.drop 1) else .bad (t.length + 1) 61
    else arithS fl dp (acc ++ [c]) t
def cmdS (fl : Nat) (l : Bs) : Rs Bs := match inside l with
  | none => .bad fl 60
  | some n => .ok (l.take n) (l.drop (n + 1))

/-- What reads the parts of braces. -/
abbrev Rec := Option (Bool → Bs → Rs (List PT))
def finish (fl : Nat) (p : PT) (l : Bs) : Rs PT := match l with
  | [] => .bad fl 60
  | c :: t => if c = 125 then .ok p t else .bad (t.length + 1) 61
def braces (rec : Rec) (fl : Nat) (qd : Bool) (l : Bs) : Rs PT :=
  match rec with
  | none => .bad fl 63
  | some parts =>
    if lengthStands l then match param (l.drop 1) with
      | .bad a e => .bad a e
      | .ok tx r => finish fl (.mk 2 false tx [108, 101, 110] []) r
    else match param l with
      | .bad a e => .bad a e
      | .ok tx r =>
        if opOf r = [] then finish fl (.mk 2 false tx [] []) r
        else match parts qd (r.drop (opOf r).length) with
          | .bad a e => .bad a e
          | .ok w r2 => finish fl (.mk 2 false tx (opOf r) w) r2
def PT.withQ (p : PT) (q : Bool) : PT := .mk p.kind q p.text p.op p.word
/-- What stands behind a dollar; none: nothing. -/
def dollarP (rec : Rec) (qd : Bool) (l : Bs) : Option (Rs PT) :=
  if stands [123] l then some (braces rec (l.length + 1) qd (l.drop 1))
  else if stands [40, 40] l then some (match arithS (l.length + 1) 0 [] (l.drop 2) with
    | .bad a e => .bad a e
    | .ok t r => .ok (.mk 4 false t [] []) r)
  else if stands [40] l then some (match cmdS (l.length + 1) (l.drop 1) with
    | .bad a e => .bad a e
    | .ok t r => .ok (.mk 3 false t [] []) r)
  else if (match l with | [] => false | c :: _ => digit c) then some (.ok (.mk 2 false (l.take 1) [] []) (l.drop 1))
  else if paramStands l then some (match param l with
    | .bad a e => .bad a e
    | .ok t r => .ok (.mk 2 false t [] []) r)
  else none
def dollar (rec : Rec) (g : Ga) (qd : Bool) (l : Bs) : Rs Ga := match dollarP rec qd l with
  | none => .ok (g.add [36] qd) l
  | some (.bad a e) => .bad a e
  | some (.ok p r) => .ok (g.put (p.withQ qd)) r
def escape (esc : UInt8 → Bool) (g : Ga) (l : Bs) : Rs Ga := match l with
  | [] => .bad 1 60
  | c :: t => if esc c then (if c = 10 then .ok g t else .ok (g.add [c] true) t) else .ok (g.add [92] true) (c :: t)
def piece (rec : Rec) (esc : UInt8 → Bool) (g : Ga) (qd : Bool) (l : Bs) : Rs Ga := match l with
  | [] => .bad 0 0
  | c :: t => if c = 92 then escape esc g t else if c = 36 then dollar rec g qd t else if c = 96 then .bad (t.length + 1) 61 else .ok (g.add [c] qd) t
/-- In double quotes; l: behind the first. n: at least as many as are left. -/
def dloop (rec : Rec) (fl : Nat) : Nat → Ga → Bs → Rs Ga
  | 0, _, _ => .bad fl 60
  | n + 1, g, l => match l with
    | [] => .bad fl 60
    | c :: t => if c = 34 then .ok g t else match piece rec escD g true (c :: t) with
      | .bad a e => .bad a e
      | .ok g' l' => dloop rec fl n g' l'
def double (rec : Rec) (g : Ga) (l : Bs) : Rs Ga := dloop rec (l.length + 1) (l.length + 1) (if stands [34] l then g.add [] true else g) l
def single (g : Ga) (l : Bs) : Rs Ga :=
  if Go.Lib.indexByte l 39 < 0 then .bad (l.length + 1) 60
  else .ok (g.add (l.take (Go.Lib.indexByte l 39).toNat) true) (l.drop ((Go.Lib.indexByte l 39).toNat + 1))
def step (rec : Rec) (g : Ga) (qd : Bool) (l : Bs) : Rs Ga := match l with
  | [] => .bad 0 0
  | c :: t => if c = 39 then single g t else if c = 34 then double rec g t else piece rec (fun _ => true) g qd (c :: t)
def ploop (rec : Rec) (ends : UInt8 → Bool) (qd : Bool) : Nat → Ga → Bs → Rs Ga
  | 0, g, l => .ok g l
  | n + 1, g, l => match l with
    | [] => .ok g []
    | c :: t => if ends c then .ok g (c :: t) else match step rec g qd (c :: t) with
      | .bad a e => .bad a e
      | .ok g' l' => ploop rec ends qd n g' l'
def partsR (rec : Rec) (ends : UInt8 → Bool) (qd : Bool) (l : Bs) : Rs (List PT) := match ploop rec ends qd (l.length + 1) .empty l with
  | .bad a e => .bad a e
  | .ok g r => .ok g.close.ps r
/-- What reads the parts of braces, of which so many more may stand within one another. -/
def recN : Nat → Rec
  | 0 => none
  | d + 1 => some fun qd l => partsR (recN d) (· == 125) qd l
def scan (l : Bs) : Rs (List PT) := partsR (recN 16) meta_ false l

end WdM
