/-
  Keys: what a key is, its name, its bytes; a decoder's step.
-/
import Derived.Test.YtgdkpmfdpfjdjaaGreatDoorPlainN
import Derived.Lib.MapLaws
import Derived.Lib.DecodeNEq
import Derived.Lib.DecodeN
namespace Go.Proofs.YtgdkpmfdpfjdjaaGreatDoor
open Go.RowKit
set_option linter.unusedVariables false
set_option maxRecDepth 100000

def plainM (m : Int) : Bool := decide (m = 0) || decide (m = 2)
def ctrlM (m : Int) : Bool := decide (m = 4) || decide (m = 6)
/-- A character. -/
def chrB (c : Int) : Bool := decide (33 ≤ c ∧ c ≤ 126 ∨ 160 ≤ c ∧ c ≤ 1114111 ∧ (c < 55296 ∨ 57343 < c))
/-- A control character. -/
def ctlB (c : Int) : Bool := decide (97 ≤ c ∧ c ≤ 122 ∧ c ≠ 105 ∧ c ≠ 109 ∨ 92 ≤ c ∧ c ≤ 95)
/-- A special key. -/
def spcB (c : Int) : Bool := decide (16777217 ≤ c ∧ c ≤ 16777238)
/-- One byte, with a name. -/
def oneB (c : Int) : Bool := decide (c = 13 ∨ c = 9 ∨ c = 27 ∨ c = 127)
def validB (c m : Int) : Bool :=
  if c = 32 then plainM m || ctrlM m
  else if oneB c then plainM m
  else if c = 16777239 then decide (m = 0)
  else if spcB c then decide (0 ≤ m ∧ m ≤ 7)
  else plainM m && chrB c || ctrlM m && ctlB c

/-- A special key: its name, its head's second byte, its letter, its number. -/
structure Sp where
  name : List UInt8
  head : List UInt8
  letter : List UInt8
  number : List UInt8
  deriving DecidableEq
def spT : List Sp :=
  [⟨[85, 112], [27, 91], [65], []⟩,
   ⟨[68, 111, 119, 110], [27, 91], [66], []⟩,
   ⟨[82, 105, 103, 104, 116], [27, 91], [67], []⟩,
   ⟨[76, 101, 102, 116], [27, 91], [68], []⟩,
   ⟨[72, 111, 109, 101], [27, 91], [72], [49]⟩,
   ⟨[69, 110, 100], [27, 91], [70], [52]⟩,
   ⟨[73, 110, 115, 101, 114, 116], [27, 91], [], [50]⟩,
   ⟨[68, 101, 108, 101, 116, 101], [27, 91], [], [51]⟩,
   ⟨[80, 97, 103, 101, 85, 112], [27, 91], [], [53]⟩,
   ⟨[80, 97, 103, 101, 68, 111, 119, 110], [27, 91], [], [54]⟩,
   ⟨[70, 49], [27, 79], [80], [49, 49]⟩,
   ⟨[70, 50], [27, 79], [81], [49, 50]⟩,
   ⟨[70, 51], [27, 79], [82], [49, 51]⟩,
   ⟨[70, 52], [27, 79], [83], [49, 52]⟩,
   ⟨[70, 53], [27, 91], [], [49, 53]⟩,
   ⟨[70, 54], [27, 91], [], [49, 55]⟩,
   ⟨[70, 55], [27, 91], [], [49, 56]⟩,
   ⟨[70, 56], [27, 91], [], [49, 57]⟩,
   ⟨[70, 57], [27, 91], [], [50, 48]⟩,
   ⟨[70, 49, 48], [27, 91], [], [50, 49]⟩,
   ⟨[70, 49, 49], [27, 91], [], [50, 51]⟩,
   ⟨[70, 49, 50], [27, 91], [], [50, 52]⟩]
theorem spT_len : spT.length = 22 := rfl
def nmT : List (Int × List UInt8) :=
  [(32, [83, 112, 97, 99, 101]), (13, [69, 110, 116, 101, 114]), (9, [84, 97, 98]), (27, [69, 115, 99, 97, 112, 101]), (127, [66, 83, 112, 97, 99, 101]), (16777239, [66, 84, 97, 98])]
def mdT : List (Int × List UInt8) := [(4, [67, 45]), (2, [77, 45]), (1, [83, 45])]
/-- The name of a code. -/
def bareF (c : Int) : List UInt8 :=
  if spcB c then (spT.getD (c - 16777217).toNat ⟨[], [], [], []⟩).name
  else match nmT.find? (fun p => decide (p.1 = c)) with
    | some p => p.2
    | none => Lib.encodeRune c
/-- Whether a modifier is there. -/
def hasM (m : Int) : Int → Bool
  | 4 => decide (4 ≤ m)
  | 2 => decide (m = 2 ∨ m = 3 ∨ m = 6 ∨ m = 7)
  | _ => decide (m = 1 ∨ m = 3 ∨ m = 5 ∨ m = 7)
def modF (m : Int) : List UInt8 := (if hasM m 4 then [67, 45] else []) ++ (if hasM m 2 then [77, 45] else []) ++ (if hasM m 1 then [83, 45] else [])
def nameF (c m : Int) : List UInt8 := if validB c m then modF m ++ bareF c else []
/-- A special key's bytes. -/
def seqF (s : Sp) (m : Int) (app : Bool) : List UInt8 :=
  let held : List UInt8 := if 0 < m then [59, UInt8.ofNat (49 + m.toNat)] else []
  if s.letter = [] then s.head ++ s.number ++ held ++ [126]
  else if 0 < m then [27, 91, 49] ++ held ++ s.letter
  else if app then [27, 79] ++ s.letter
  else s.head ++ s.letter
def bytesF (c m : Int) (app : Bool) : List UInt8 :=
  if validB c m then
    if c = 16777239 then [27, 91, 90]
    else if spcB c then seqF (spT.getD (c - 16777217).toNat ⟨[], [], [], []⟩) m app
    else (if hasM m 2 then [27] else []) ++ Lib.encodeRune (if hasM m 4 then c % 32 else c)
  else []

/-- The key of one byte. -/
def loneF (b : Nat) : Int × Int :=
  if 32 ≤ b ∨ b = 9 ∨ b = 13 ∨ b = 27 then ((b : Int), 0) else if b = 0 then (32, 4) else if b ≤ 26 then ((b : Int) + 96, 4) else ((b : Int) + 64, 4)
/-- Is it a whole character, or none that can be? -/
def fullB (t : List UInt8) : Bool :=
  match t with
  | [] => false
  | b :: r => decide (Lib.firstT b.toNat % 8 ≤ r.length + 1) ||
      (match r with
       | [] => false
       | b1 :: r1 => decide (b1.toNat < Lib.accLo (Lib.firstT b.toNat / 16) ∨ Lib.accHi (Lib.firstT b.toNat / 16) < b1.toNat) ||
          (match r1 with
           | [] => false
           | b2 :: _ => decide (b2.toNat < 128 ∨ 191 < b2.toNat)))
def dec (t : List UInt8) : Nat × Nat := if (str t).size = 0 then (65533, 0) else Utf8.decode (str t) 0
/-- What is held behind ESC. -/
def behindF (h : List UInt8) : List UInt8 × Int :=
  match h with
  | 27 :: r => (r, 2)
  | _ => (h, 0)
abbrev St := List UInt8 × (Int × Int)
/-- A byte, with nothing held. -/
def take0 (b : UInt8) : St :=
  if b = 27 then ([27], (0, 0)) else if b.toNat < 128 then ([], loneF b.toNat) else if fullB [b] then ([], (0, 0)) else ([b], (0, 0))
/-- A byte of a character. -/
def chF (h : List UInt8) (b : UInt8) : St :=
  let p := behindF (h ++ [b])
  if fullB p.1 then
    if (dec p.1).2 < p.1.length then take0 b
    else ([], if (dec p.1).2 = 1 ∨ chrB (dec p.1).1 = false then (0, 0) else ((dec p.1).1, p.2))
  else (h ++ [b], (0, 0))
def mods2 (k : Int × Int) : Int × Int := (k.1, k.2 + 2)
/-- The modifiers of a sequence. -/
def modsF (l : List UInt8) : Int :=
  match l with
  | [c] => if 49 < c.toNat ∧ c.toNat ≤ 56 then (c.toNat : Int) - 49 else 0
  | _ => 0
def toldB (s : Sp) (number last : List UInt8) (md : Bool) : Bool :=
  if last = [126] then decide (number = s.number) && decide (number ≠ []) && (decide (s.letter = []) || !md)
  else if last ≠ s.letter then false
  else if md then decide (number = [49])
  else decide (number = []) && decide (s.head = [27, 91])
/-- Where a text is cut: ahead, behind, whether. -/
def cutF : List UInt8 → List UInt8 × List UInt8 × Bool
  | [] => ([], [], false)
  | c :: r => if c = 59 then ([], r, true) else ((c :: (cutF r).1), (cutF r).2.1, (cutF r).2.2)
def findT (p : Sp → Bool) : List Sp → Nat → Option Nat
  | [], _ => none
  | s :: r, i => if p s then some i else findT p r (i + 1)
def inSeqF (numbers last : List UInt8) : Int × Int :=
  if numbers = [] ∧ last = [90] then (16777239, 0)
  else
    let q := cutF numbers
    let m := if q.2.2 then modsF q.2.1 else 0
    if q.2.2 = true ∧ m = 0 then (0, 0)
    else match findT (fun s => toldB s q.1 last q.2.2) spT 0 with
      | some i => (16777217 + (i : Int), m)
      | none => (0, 0)
def inShiftF (letter : List UInt8) : Int × Int :=
  match findT (fun s => decide (s.letter = letter)) spT 0 with
  | some i => (16777217 + (i : Int), 0)
  | none => (0, 0)
/-- A byte. -/
def takeF (h : List UInt8) (b : UInt8) : St :=
  match h with
  | [] => take0 b
  | [27] => if b = 91 ∨ b = 79 then ([27, b], (0, 0)) else if b.toNat < 128 then ([], mods2 (loneF b.toNat)) else chF h b
  | 27 :: 91 :: r => if b.toNat < 32 ∨ 127 ≤ b.toNat then take0 b
      else if b.toNat < 64 then (if h.length + 1 = 256 then ([], (0, 0)) else (h ++ [b], (0, 0)))
      else ([], inSeqF r [b])
  | 27 :: 79 :: _ => ([], inShiftF (Lib.encodeRune b.toNat))
  | _ => chF h b
def feedF : List UInt8 → List UInt8 → List UInt8 × List (Int × Int)
  | h, [] => (h, [])
  | h, b :: r => let p := takeF h b; let q := feedF p.1 r; (q.1, (if p.2.1 = 0 then q.2 else p.2 :: q.2))
/-- What is held, read as it stands. -/
def flushF (h : List UInt8) : List (Int × Int) :=
  let p := behindF h
  let rec go : List UInt8 → Int → List (Int × Int)
    | [], _ => []
    | b :: r, m => if 128 ≤ b.toNat then [] else ((loneF b.toNat).1, (loneF b.toNat).2 + m) :: go r 0
  if p.2 ≠ 0 ∧ p.1 = [] then [(27, 0)] else go p.1 p.2

end Go.Proofs.YtgdkpmfdpfjdjaaGreatDoor
