/- The plain description of layer 1 (lex): bytes, one cut, all cuts. It imports no translation. -/
namespace Lx

abbrev Bytes := List UInt8

def isBlank (b : UInt8) : Bool := b == 32 || b == 9 || b == 10 || b == 13
def isLetter (b : UInt8) : Bool := (97 ≤ b && b ≤ 122) || (65 ≤ b && b ≤ 90)
def isDigit (b : UInt8) : Bool := 48 ≤ b && b ≤ 57
def isSymbol (b : UInt8) : Bool :=
  b == 35 || b == 36 || b == 37 || b == 38 || b == 42 || b == 43 || b == 45 || b == 46 || b == 47 || b == 60 || b == 61 || b == 62 || b == 64 || b == 92 || b == 94 || b == 126
/-- What a byte can begin: 0 a blank, 1 a letter, 2 a digit, 3 a symbol, 4 another one. -/
def classOf (b : UInt8) : Int := if isBlank b then 0 else if isLetter b then 1 else if isDigit b then 2 else if isSymbol b then 3 else 4
def isInName (b : UInt8) : Bool := isLetter b || isDigit b || b == 39

def words : List Bytes := [
  [97, 99, 99, 101, 112, 116],
  [97, 110, 121],
  [98, 101, 104, 97, 118, 105, 111, 117, 114],
  [99, 104, 111, 105, 99, 101],
  [101, 110, 100, 108, 105, 98],
  [101, 110, 100, 112, 114, 111, 99],
  [101, 110, 100, 115, 112, 101, 99],
  [101, 110, 100, 116, 121, 112, 101],
  [101, 113, 110, 115],
  [101, 120, 105, 116],
  [102, 111, 114],
  [102, 111, 114, 97, 108, 108],
  [102, 111, 114, 109, 97, 108, 101, 113, 110, 115],
  [102, 111, 114, 109, 97, 108, 111, 112, 110, 115],
  [102, 111, 114, 109, 97, 108, 115, 111, 114, 116, 115],
  [104, 105, 100, 101],
  [105],
  [105, 110],
  [105, 115],
  [108, 101, 116],
  [108, 105, 98, 114, 97, 114, 121],
  [110, 111, 101, 120, 105, 116],
  [111, 102],
  [111, 102, 115, 111, 114, 116],
  [111, 112, 110, 110, 97, 109, 101, 115],
  [111, 112, 110, 115],
  [112, 114, 111, 99, 101, 115, 115],
  [114, 101, 110, 97, 109, 101, 100, 98, 121],
  [97, 99, 116, 117, 97, 108, 105, 122, 101, 100, 98, 121],
  [115, 111, 114, 116, 110, 97, 109, 101, 115],
  [115, 111, 114, 116, 115],
  [115, 112, 101, 99, 105, 102, 105, 99, 97, 116, 105, 111, 110],
  [115, 116, 111, 112],
  [116, 121, 112, 101],
  [117, 115, 105, 110, 103],
  [119, 97, 105, 116],
  [119, 104, 101, 114, 101]]

def signs : List Bytes := [
  [40],
  [41],
  [91],
  [93],
  [123],
  [125],
  [44],
  [59],
  [58],
  [63],
  [33],
  [95],
  [91, 93],
  [91, 62],
  [124, 91],
  [93, 124],
  [124, 124],
  [124, 124, 124],
  [58, 61],
  [61],
  [45, 62],
  [61, 62],
  [62, 62],
  [46, 46]]

structure Tok where
  kind : Nat
  n : Nat
  s : Bytes
  at_ : Nat
  end_ : Nat
deriving DecidableEq, Repr

def Tok.like (a b : Tok) : Bool := a.kind == b.kind && a.n == b.n && a.s == b.s

/-- How many bytes a comment takes behind its first two, d of them being open. -/
def com : Nat → Bytes → Option Nat
  | _, [] => none
  | d, 40 :: 42 :: r => (com (d + 1) r).map (· + 2)
  | d, 42 :: 41 :: r => if d ≤ 1 then some 2 else (com (d - 1) r).map (· + 2)
  | d, _ :: r => (com d r).map (· + 1)

def run1 (p : UInt8 → Bool) (l : Bytes) : Nat := (l.takeWhile p).length

/-- The value of digits. -/
def num (l : Bytes) : Nat := l.foldl (fun n d => n * 10 + (d.toNat - 48)) 0

def maxNum : Nat := 2147483647

inductive Cut where
  | skip
  | comment (n : Nat)
  | tok (kind n : Nat) (s : Bytes) (len : Nat)
  | bad
deriving DecidableEq, Repr

/-- The longest sign at the head of a text, of at most k bytes. -/
def signLen (l : Bytes) : Nat → Nat
  | 0 => 0
  | k + 1 => if k + 1 ≤ l.length && signs.contains (l.take (k + 1)) then k + 1 else signLen l k

def kindOf (L : List Bytes) (l : Bytes) (k k2 : Nat) : Nat := if L.contains l then k2 else k

def cutName (l : Bytes) : Cut :=
  let s := l.takeWhile isInName
  if s.length ≤ 32 then .tok (kindOf words s 1 2) 0 s s.length else .bad

def cutNumber (l : Bytes) : Cut :=
  let s := l.takeWhile isDigit
  if num s ≤ maxNum && !((l.drop s.length).head?.any isInName) then .tok 3 (num s) [] s.length else .bad

def cutSymbols (l : Bytes) : Cut :=
  let s := l.takeWhile isSymbol
  if s.length ≤ 32 then .tok (kindOf signs s 4 5) 0 s s.length else .bad

def cutSign (l : Bytes) : Cut :=
  if l.take 2 = [40, 42] then
    match com 1 (l.drop 2) with
    | some n => .comment (n + 2)
    | none => .bad
  else
    match signLen l 3 with
    | 0 => .bad
    | k + 1 => .tok 5 0 (l.take (k + 1)) (k + 1)

def cut1 (l : Bytes) : Cut :=
  match l with
  | [] => .bad
  | c :: _ =>
    if isBlank c then .skip
    else if isLetter c then cutName l
    else if isDigit c then cutNumber l
    else if isSymbol c then cutSymbols l
    else cutSign l

/-- How many bytes a cut takes. -/
def Cut.len : Cut → Nat
  | .skip => 1
  | .comment n => n
  | .tok _ _ _ len => len
  | .bad => 0

structure Out where
  toks : List Tok
  coms : List (Nat × Nat)
  bad : Option Nat
deriving DecidableEq, Repr

def Out.tok (t : Tok) (o : Out) : Out := { o with toks := t :: o.toks }
def Out.com (c : Nat × Nat) (o : Out) : Out := { o with coms := c :: o.coms }

/-- All cuts of a text, from byte p of it on (fuel: at least the bytes that are left). -/
def run : Nat → Nat → Bytes → Out
  | _, _, [] => ⟨[], [], none⟩
  | 0, _, _ :: _ => ⟨[], [], none⟩
  | f + 1, p, l =>
    match cut1 l with
    | .skip => run f (p + 1) (l.drop 1)
    | .comment n => (run f (p + n) (l.drop n)).com (p, p + n)
    | .tok k n s len => (run f (p + len) (l.drop len)).tok ⟨k, n, s, p, p + len⟩
    | .bad => ⟨[], [], some p⟩

def toks (l : Bytes) : Out := run l.length 0 l

/-- The kind of the token that a text is as a whole. -/
def kind (l : Bytes) : Nat :=
  match l with
  | [] => 0
  | _ => match cut1 l with
    | .tok k _ _ len => if len = l.length then k else 0
    | _ => 0

end Lx
