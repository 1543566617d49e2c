/-
  Formats: what a text says, as far as it is told here ('none': not told).
-/
import Derived.Test.YtgoofifbifdgoaaGreatDoorPlainN
namespace Go.Proofs.YtgoofifbifdgoaaGreatDoor
set_option linter.unusedVariables false

def smallB (c : UInt8) : Bool := decide (97 ≤ c.toNat) && decide (c.toNat ≤ 122)
def greatB (c : UInt8) : Bool := decide (65 ≤ c.toNat) && decide (c.toNat ≤ 90)
def digitB (c : UInt8) : Bool := decide (48 ≤ c.toNat) && decide (c.toNat ≤ 57)
def innerB (c : UInt8) : Bool := smallB c || digitB c || decide (c.toNat = 95)
def identF : List UInt8 → Bool
  | [] => false
  | c :: r => decide (r.length + 1 ≤ 32) && smallB c && r.all innerB

/-- How many bytes are gone past at once; how many more places are open behind them. -/
def passF : List UInt8 → Nat × Int
  | [] => (1, 0)
  | [c] => if c.toNat = 125 then (1, -1) else (1, 0)
  | c :: d :: _ => if c.toNat = 125 then (1, -1) else if c.toNat = 35 then (if d.toNat = 123 then (2, 1) else if d.toNat = 35 ∨ d.toNat = 44 ∨ d.toNat = 125 then (2, 0) else (1, 0)) else (1, 0)
theorem pass_pos (l : List UInt8) : 1 ≤ (passF l).1 := by
  match l with
  | [] => decide
  | [c] => simp only [passF]; split <;> decide
  | c :: d :: _ =>
    simp only [passF]
    split
    · decide
    split
    · split
      · decide
      split <;> decide
    · decide
theorem pass_le {l : List UInt8} (h : l ≠ []) : (passF l).1 ≤ l.length := by
  match l with
  | [] => exact absurd rfl h
  | [c] => simp only [passF]; split <;> simp
  | c :: d :: r =>
    have h1 : (c :: d :: r).length = r.length + 2 := rfl
    rw [h1]
    simp only [passF]
    split
    · simp
    split
    · split
      · simp
      split <;> simp
    · simp
theorem pass_small (l : List UInt8) : -1 ≤ (passF l).2 ∧ (passF l).2 ≤ 1 := by
  match l with
  | [] => decide
  | [c] => simp only [passF]; split <;> decide
  | c :: d :: _ =>
    simp only [passF]
    split
    · decide
    split
    · split
      · decide
      split <;> decide
    · decide

/-- Where a place ends. -/
def insG : Nat → List UInt8 → Int → Nat → Option Nat
  | 0, _, _, _ => none
  | f + 1, l, o, k => if l = [] then none else if o + (passF l).2 = 0 then some k else insG f (l.drop (passF l).1) (o + (passF l).2) (k + (passF l).1)
def insideF (l : List UInt8) : Option Nat := insG l.length l 1 0

/-- A text cut at its commas. -/
def cutG : Nat → List UInt8 → List UInt8 → Int → List (List UInt8)
  | 0, _, cur, _ => [cur]
  | f + 1, l, cur, o => match l with
    | [] => [cur]
    | c :: r => if c.toNat = 44 ∧ o = 0 then cur :: cutG f r [] 0 else cutG f (l.drop (passF l).1) (cur ++ l.take (passF l).1) (o + (passF l).2)
def cutF (l : List UInt8) : List (List UInt8) := cutG l.length l [] 0

/-- The value of a variable. -/
abbrev Vars := List (List UInt8 × List UInt8)
def valF (vs : Vars) (name : List UInt8) : List UInt8 := ((vs.find? fun v => decide (v.1 = name)).map (·.2)).getD []
def truthF (l : List UInt8) : Bool := decide (l ≠ []) && decide (l ≠ [48])
def shortF (c : UInt8) : List UInt8 :=
  if c.toNat = 83 then [115, 101, 115, 115, 105, 111, 110, 95, 110, 97, 109, 101] else if c.toNat = 87 then [119, 105, 110, 100, 111, 119, 95, 110, 97, 109, 101] else if c.toNat = 73 then [119, 105, 110, 100, 111, 119, 95, 105, 110, 100, 101, 120] else if c.toNat = 80 then [112, 97, 110, 101, 95, 105, 110, 100, 101, 120] else if c.toNat = 68 then [112, 97, 110, 101, 95, 105, 100] else if c.toNat = 70 then [119, 105, 110, 100, 111, 119, 95, 102, 108, 97, 103, 115] else []

/-- What comes of it: bytes, or an error. -/
abbrev Res := Option (Except Int (List UInt8))
def Res.then (r : Res) (k : List UInt8 → Res) : Res := match r with
  | none => none
  | some (.error e) => some (.error e)
  | some (.ok s) => k s

/-- The beginning of a text: what it says, and how many bytes it has. -/
inductive Nxt where
  | plain (n : Nat)
  | says (s : List UInt8) (n : Nat)
  | name (s : List UInt8)
  | place
def plainF (l : List UInt8) : Nat := (l.takeWhile fun c => decide (c.toNat ≠ 35)).length
def nextF (l : List UInt8) : Nxt :=
  if 0 < plainF l then .plain (plainF l) else match l with
  | [] => .plain 0
  | [c] => .says [c] 1
  | c :: d :: _ => if d.toNat = 35 ∨ d.toNat = 44 ∨ d.toNat = 125 then .says [d] 2 else if d.toNat = 123 then .place else if shortF d ≠ [] then .name (shortF d) else .says [c] 1
/-- The bytes behind the #{ up to its end. -/
def restF (l : List UInt8) : List UInt8 := l.drop 2
def saidF (pl : List UInt8 → Res) (vs : Vars) (l : List UInt8) : Option (Except Int (List UInt8 × Nat)) := match nextF l with
  | .plain n => some (.ok (l.take n, n))
  | .says s n => some (.ok (s, n))
  | .name s => some (.ok (valF vs s, 2))
  | .place => match insideF (restF l) with
    | none => some (.error 100)
    | some k => match pl ((restF l).take k) with
      | none => none
      | some (.error e) => some (.error e)
      | some (.ok s) => some (.ok (s, k + 3))
def loopF (pl : List UInt8 → Res) (vs : Vars) : Nat → List UInt8 → List UInt8 → Res
  | 0, _, said => some (.ok said)
  | f + 1, l, said => if l = [] then some (.ok said) else match saidF pl vs l with
    | none => none
    | some (.error e) => some (.error e)
    | some (.ok (s, n)) => if 1024 < said.length + s.length then some (.error 2) else loopF pl vs f (l.drop n) (said ++ s)

/-- Turns. -/
inductive Turn where
  | cut (n : Nat)
  | last (n : Nat)
  | behind (n : Nat)
  | ahead (n : Nat)
def fourG : Nat → Nat → List UInt8 → Option Nat
  | n, i, [] => some n
  | n, i, c :: r => if digitB c = false ∨ i = 4 then none else fourG (n * 10 + (c.toNat - 48)) (i + 1) r
def fourF (l : List UInt8) : Option Nat := if l = [] then none else fourG 0 0 l
/-- A prefix of one byte, cut off. -/
def headF (c : UInt8) : List UInt8 → List UInt8 × Bool
  | [] => ([], false)
  | d :: r => if d = c then (r, true) else (d :: r, false)
def numF (p m : Nat → Turn) (r : List UInt8) : Option Turn := if (headF 45 r).2 = true then (fourF (headF 45 r).1).map m else (fourF r).map p
/-- one turn: 'none': not told; 'some none': it is none. -/
def turnF : List UInt8 → Option (Option Turn)
  | [] => some none
  | c :: r => if c.toNat = 61 then some (numF .cut .last r) else if c.toNat = 112 then some (numF .behind .ahead r) else none
def Turn.of : Turn → List UInt8 → List UInt8
  | .cut n, l => l.take n
  | .last n, l => l.drop (l.length - n)
  | .behind n, l => l ++ List.replicate (n - l.length) 32
  | .ahead n, l => List.replicate (n - l.length) 32 ++ l
def splitG (c : UInt8) : List UInt8 → List UInt8 → List (List UInt8)
  | cur, [] => [cur]
  | cur, d :: r => if d = c then cur :: splitG c [] r else splitG c (cur ++ [d]) r
def turnsG : List (List UInt8) → Option (Option (List Turn))
  | [] => some (some [])
  | p :: ps => match turnF p with
    | none => none
    | some none => some none
    | some (some t) => match turnsG ps with
      | none => none
      | some none => some none
      | some (some ts) => some (some (t :: ts))
def turnsF (name : List UInt8) : Option (Option (List Turn)) := turnsG (splitG 59 [] name)
def turnedF : List Turn → List UInt8 → Res
  | [], l => some (.ok l)
  | t :: ts, l => if 1024 < (t.of l).length then some (.error 2) else turnedF ts (t.of l)

/-- A place, by its inside; 'sub': what a part says. -/
def operandF (sub : List UInt8 → Res) (vs : Vars) (p : List UInt8) : Res := if identF p then some (.ok (valF vs p)) else sub p
def choiceF (sub : List UInt8 → Res) (vs : Vars) (rest : List UInt8) : Res := match cutF rest with
  | [a, b] => (operandF sub vs a).then fun s => if truthF s then sub b else some (.ok [])
  | [a, b, c] => (operandF sub vs a).then fun s => if truthF s then sub b else sub c
  | _ => some (.error 100)
def headNames : List (List UInt8) := [[61, 61], [33, 61], [60], [62], [60, 61], [62, 61], [109], [124, 124], [38, 38], [101, 124, 43, 124], [101, 124, 45, 124], [101, 124, 42, 124], [101, 124, 47, 124], [101, 124, 109, 124], [101, 124, 61, 61, 124], [101, 124, 60, 124], [101, 124, 62, 124], [33], [108]]
def headedF (sub : List UInt8 → Res) (vs : Vars) (name rest : List UInt8) : Res :=
  if name ∈ headNames then none else match turnsF name with
  | none => none
  | some none => some (.error 100)
  | some (some ts) => (operandF sub vs rest).then (turnedF ts)
def colonF (l : List UInt8) : Option Nat := l.findIdx? fun c => decide (c.toNat = 58)
def placeF (sub : List UInt8 → Res) (vs : Vars) (l : List UInt8) : Res := match l with
  | 63 :: rest => choiceF sub vs rest
  | l => match colonF l with
    | some k => headedF sub vs (l.take k) (l.drop (k + 1))
    | none => if identF l then some (.ok (valF vs l)) else some (.error 100)
/-- What a text says, so many places being allowed in one another. -/
def sayF (vs : Vars) : Nat → List UInt8 → Res
  | 0, l => loopF (fun _ => some (.error 101)) vs l.length l []
  | r + 1, l => loopF (placeF (sayF vs r) vs) vs l.length l []

/-- The two formats that the statements begin with. -/
theorem say_one : sayF [([97], [49]), ([98], [120, 121, 122]), ([119, 105, 110, 100, 111, 119, 95, 105, 110, 100, 101, 120], [55])] 16 [35, 123, 63, 97, 44, 35, 73, 58, 35, 123, 61, 50, 59, 112, 51, 58, 98, 125, 44, 120, 125] = some (.ok [55, 58, 120, 121, 32]) := by kernel_rfl
theorem say_two : sayF [] 16 [35, 123] = some (.error 100) := by kernel_rfl

end Go.Proofs.YtgoofifbifdgoaaGreatDoor
