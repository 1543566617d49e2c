/-
  The wire, by plain functions: events, fields, rows; nothing of the dump.
-/
import Derived.Test.YtplolaondmeccaaGreatDoorOctD
import Derived.Test.YtplolaondmeccaaGreatDoorUnB
import Derived.Test.YtplolaondmeccaaGreatDoorNameA
namespace Go.Proofs.YtplolaondmeccaaGreatDoor
open Go.RowKit
set_option linter.unusedVariables false

/-- An event. -/
structure Ev where
  kind : Int
  session : Int
  window : Int
  pane : Int
  index : Int
  offset : Int
  tick : Int
  number : Int
  flag : Int
  name : ByteArray
  text : ByteArray
  layout : ByteArray
  visible : ByteArray
  zoom : Bool

def Ev.zero (k : Int) : Ev := ⟨k, 0, 0, 0, 0, 0, 0, 0, 0, ⟨#[]⟩, ⟨#[]⟩, ⟨#[]⟩, ⟨#[]⟩, false⟩

/-- Its cells. -/
def Ev.vals (e : Ev) : Array Value :=
  #[.int .i64 e.kind, .int .i64 e.session, .int .i64 e.window, .int .i64 e.pane, .int .i64 e.index, .int .i64 e.offset, .int .i64 e.tick, .int .i64 e.number, .int .i64 e.flag,
    .string e.name, .string e.text, .string e.layout, .string e.visible, .bool e.zoom]

/-- The numbers of an event. -/
inductive NF where
  | session | window | pane | index | offset | tick | number | flag
  deriving DecidableEq
def NF.off : NF → Nat
  | .session => 1 | .window => 2 | .pane => 3 | .index => 4 | .offset => 5 | .tick => 6 | .number => 7 | .flag => 8
def NF.get : NF → Ev → Int
  | .session, e => e.session | .window, e => e.window | .pane, e => e.pane | .index, e => e.index
  | .offset, e => e.offset | .tick, e => e.tick | .number, e => e.number | .flag, e => e.flag
def NF.set : NF → Int → Ev → Ev
  | .session, n, e => { e with session := n } | .window, n, e => { e with window := n } | .pane, n, e => { e with pane := n } | .index, n, e => { e with index := n }
  | .offset, n, e => { e with offset := n } | .tick, n, e => { e with tick := n } | .number, n, e => { e with number := n } | .flag, n, e => { e with flag := n }

/-- The plans of an event: the layout, the visible. -/
inductive PF where
  | layout | visible
  deriving DecidableEq
def PF.off : PF → Nat
  | .layout => 11 | .visible => 12
def PF.get : PF → Ev → ByteArray
  | .layout, e => e.layout | .visible, e => e.visible
def PF.set : PF → ByteArray → Ev → Ev
  | .layout, n, e => { e with layout := n } | .visible, n, e => { e with visible := n }

open Classical in
/-- The number, the id, the text that is meant. -/
noncomputable def numOf (l : List UInt8) : Option Int := if h : ∃ n, Num l n then some h.choose else none
open Classical in
noncomputable def idOf (c : UInt8) (l : List UInt8) : Option Int := if h : ∃ n, IsId c l n then some h.choose else none
open Classical in
noncomputable def unesc (l : List UInt8) : Option (List UInt8) := if h : ∃ t, esc t = l then some h.choose else none
open Classical in
noncomputable def unescB (l : List UInt8) : Option (List UInt8) := if h : ∃ t, escB t = l then some h.choose else none

theorem Num.one {l : List UInt8} {a b : Int} (h : Num l a) (k : Num l b) : a = b := by
  obtain ⟨h1, h2⟩ := h
  obtain ⟨k1, k2⟩ := k
  rw [← k2] at h2
  unfold putL at h2
  rw [if_pos h1, if_pos k1] at h2
  have := dec_inj h2
  omega
theorem numOf_some {l : List UInt8} {n : Int} (h : Num l n) : numOf l = some n := by
  have hx : ∃ n, Num l n := ⟨n, h⟩
  unfold numOf
  rw [dif_pos hx, hx.choose_spec.one h]
theorem numOf_none {l : List UInt8} (h : ∀ n, ¬ Num l n) : numOf l = none := dif_neg fun ⟨n, k⟩ => h n k
theorem of_numOf {l : List UInt8} {n : Int} (h : numOf l = some n) : Num l n := by
  unfold numOf at h
  split at h
  · rename_i hx; cases h; exact hx.choose_spec
  · cases h
theorem IsId.one {c : UInt8} {l : List UInt8} {a b : Int} (h : IsId c l a) (k : IsId c l b) : a = b := by
  obtain ⟨r, rfl, h1, _⟩ := h
  obtain ⟨r', e, k1, _⟩ := k
  cases e
  exact h1.one k1
theorem idOf_some {c : UInt8} {l : List UInt8} {n : Int} (h : IsId c l n) : idOf c l = some n := by
  have hx : ∃ n, IsId c l n := ⟨n, h⟩
  unfold idOf
  rw [dif_pos hx, hx.choose_spec.one h]
theorem idOf_none {c : UInt8} {l : List UInt8} (h : ∀ n, ¬ IsId c l n) : idOf c l = none := dif_neg fun ⟨n, k⟩ => h n k
theorem of_idOf {c : UInt8} {l : List UInt8} {n : Int} (h : idOf c l = some n) : IsId c l n := by
  unfold idOf at h
  split at h
  · rename_i hx; cases h; exact hx.choose_spec
  · cases h
theorem unesc_some {t l : List UInt8} (h : esc t = l) : unesc l = some t := by
  have hx : ∃ t, esc t = l := ⟨t, h⟩
  unfold unesc
  rw [dif_pos hx, esc_inj (hx.choose_spec.trans h.symm)]
theorem unesc_none {l : List UInt8} (h : ∀ t, esc t ≠ l) : unesc l = none := dif_neg fun ⟨n, k⟩ => h n k
theorem of_unesc {t l : List UInt8} (h : unesc l = some t) : esc t = l := by
  unfold unesc at h
  split at h
  · rename_i hx; cases h; exact hx.choose_spec
  · cases h
theorem unescB_some {t l : List UInt8} (h : escB t = l) : unescB l = some t := by
  have hx : ∃ t, escB t = l := ⟨t, h⟩
  unfold unescB
  rw [dif_pos hx, escB_inj (hx.choose_spec.trans h.symm)]
theorem unescB_none {l : List UInt8} (h : ∀ t, escB t ≠ l) : unescB l = none := dif_neg fun ⟨n, k⟩ => h n k
theorem of_unescB {t l : List UInt8} (h : unescB l = some t) : escB t = l := by
  unfold unescB at h
  split at h
  · rename_i hx; cases h; exact hx.choose_spec
  · cases h

/-- The bytes of a plan; a plan. -/
def planSet : List UInt8 := [48, 49, 50, 51, 52, 53, 54, 55, 56, 57, 97, 98, 99, 100, 101, 102, 120, 44, 123, 125, 91, 93]
def planOk (l : List UInt8) : Bool := !l.isEmpty && (decide (l.length ≤ 2048) && (Lib.trimLeftS l planSet).isEmpty)

/-- What a field writes, and what it reads. -/
structure FSpec where
  put : Ev → List UInt8
  read : List UInt8 → Option (Ev → Ev)
  ends : ByteArray

noncomputable def fNum (m : Int) (f : NF) : FSpec where
  put e := putL (f.get e)
  read l := (numOf l).bind fun n => if n ≤ m then some (f.set n) else none
  ends := ⟨#[48]⟩
noncomputable def fId (c : UInt8) (f : NF) : FSpec where
  put e := putI c (f.get e)
  read l := (idOf c l).map f.set
  ends := ⟨#[c]⟩ ++ ⟨#[49, 32, 49]⟩
def fName : FSpec where
  put e := e.name.data.toList
  read l := if nameB (str l) then some (fun e => { e with name := str l }) else none
  ends := ⟨#[97]⟩
def fWord : FSpec where
  put e := e.name.data.toList
  read l := if nameB (str l) && !has (str l) 32 then some (fun e => { e with name := str l }) else none
  ends := ⟨#[97]⟩
def fPlan (f : PF) : FSpec where
  put e := (f.get e).data.toList
  read l := if planOk l then some (f.set (str l)) else none
  ends := ⟨#[48]⟩
def fZoom : FSpec where
  put e := if e.zoom then [90] else [45]
  read l := if l = [90] then some (fun e => { e with zoom := true }) else if l = [45] then some (fun e => { e with zoom := false }) else none
  ends := ⟨#[45]⟩
def fColon : FSpec where
  put _ := [58]
  read l := if l = [58] then some id else none
  ends := ⟨#[58]⟩
noncomputable def fEsc (lo hi : Nat) : FSpec where
  put e := if hi < e.text.size then [] else esc e.text.data.toList
  read l := (unesc l).bind fun t => if lo ≤ t.length ∧ t.length ≤ hi then some (fun e => { e with text := str t }) else none
  ends := ⟨#[49, 51, 52, 32, 51, 52, 32, 52]⟩
noncomputable def fBody : FSpec where
  put e := escB e.text.data.toList
  read l := (unescB l).map fun t e => { e with text := str t }
  ends := ⟨#[49, 51, 52, 32, 51, 52, 32, 52, 32, 53]⟩
noncomputable def fReason : FSpec where
  put e := if e.text.size = 0 then [] else 32 :: (fEsc 1 1024).put e
  read l := match l with
    | [] => some id
    | c :: r => if c = 32 then (fEsc 1 1024).read r else none
  ends := ⟨#[49, 51, 52, 32, 51, 52, 32, 52]⟩

/-- The heads of the lines. -/
def headOf : Nat → List UInt8
  | 1 => [37, 98, 101, 103, 105, 110, 32]
  | 2 => [37, 101, 110, 100, 32]
  | 3 => [37, 101, 114, 114, 111, 114, 32]
  | 5 => [37, 111, 117, 116, 112, 117, 116, 32]
  | 6 => [37, 112, 97, 117, 115, 101, 32]
  | 7 => [37, 99, 111, 110, 116, 105, 110, 117, 101, 32]
  | 8 => [37, 112, 97, 110, 101, 45, 97, 100, 100, 32]
  | 9 => [37, 112, 97, 110, 101, 45, 99, 108, 111, 115, 101, 32]
  | 10 => [37, 119, 105, 110, 100, 111, 119, 45, 97, 100, 100, 32]
  | 11 => [37, 119, 105, 110, 100, 111, 119, 45, 99, 108, 111, 115, 101, 32]
  | 12 => [37, 119, 105, 110, 100, 111, 119, 45, 114, 101, 110, 97, 109, 101, 100, 32]
  | 13 => [37, 108, 97, 121, 111, 117, 116, 45, 99, 104, 97, 110, 103, 101, 32]
  | 14 => [37, 119, 105, 110, 100, 111, 119, 45, 112, 97, 110, 101, 45, 99, 104, 97, 110, 103, 101, 100, 32]
  | 15 => [37, 115, 101, 115, 115, 105, 111, 110, 45, 97, 100, 100, 32]
  | 16 => [37, 115, 101, 115, 115, 105, 111, 110, 45, 99, 108, 111, 115, 101, 32]
  | 17 => [37, 115, 101, 115, 115, 105, 111, 110, 45, 114, 101, 110, 97, 109, 101, 100, 32]
  | 18 => [37, 119, 105, 110, 100, 111, 119, 45, 108, 105, 110, 107, 32]
  | 19 => [37, 119, 105, 110, 100, 111, 119, 45, 117, 110, 108, 105, 110, 107, 32]
  | 20 => [37, 115, 101, 115, 115, 105, 111, 110, 45, 119, 105, 110, 100, 111, 119, 45, 99, 104, 97, 110, 103, 101, 100, 32]
  | 21 => [37, 115, 101, 115, 115, 105, 111, 110, 45, 99, 104, 97, 110, 103, 101, 100, 32]
  | 22 => [37, 115, 117, 98, 115, 99, 114, 105, 112, 116, 105, 111, 110, 45, 99, 104, 97, 110, 103, 101, 100, 32]
  | 23 => [37, 109, 101, 115, 115, 97, 103, 101, 32]
  | 24 => [37, 101, 120, 105, 116]
  | _ => []

def maxN : Int := 4611686018427387904

/-- The fields of a row. -/
noncomputable def fieldsOf : Nat → List FSpec
  | 1 | 2 | 3 => [fNum maxN .tick, fNum maxN .number, fNum 1 .flag]
  | 4 => [fBody]
  | 5 => [fId 37 .pane, fEsc 1 256]
  | 6 | 7 | 8 => [fId 37 .pane, fNum maxN .offset]
  | 9 => [fId 37 .pane]
  | 10 | 12 => [fId 64 .window, fName]
  | 11 => [fId 64 .window]
  | 13 => [fId 64 .window, fPlan .layout, fPlan .visible, fZoom]
  | 14 => [fId 64 .window, fId 37 .pane]
  | 15 | 17 | 21 => [fId 36 .session, fName]
  | 16 => [fId 36 .session]
  | 18 => [fId 36 .session, fNum 9999 .index, fId 64 .window]
  | 19 | 20 => [fId 36 .session, fNum 9999 .index]
  | 22 => [fWord, fId 36 .session, fId 64 .window, fNum 9999 .index, fId 37 .pane, fColon, fEsc 0 1024]
  | 23 => [fEsc 0 1024]
  | 24 => [fReason]
  | _ => []

/-- Texts with one blank between two. -/
def joinW (l : List (List UInt8)) : List UInt8 := [32].intercalate l

/-- A text cut at its blanks, at most k times; the last piece has all that is left. -/
def cutK : Nat → List UInt8 → List (List UInt8)
  | 0, l => [l]
  | k + 1, l => if 32 ∈ l then l.takeWhile (· != 32) :: cutK k ((l.dropWhile (· != 32)).drop 1) else [l]

def readAll : List FSpec → List (List UInt8) → Ev → Option Ev
  | f :: fs, t :: ts, e => (f.read t).bind fun g => readAll fs ts (g e)
  | _, [], e => some e
  | [], _ :: _, _ => none

noncomputable def writeS (k : Nat) (e : Ev) : List UInt8 := headOf k ++ joinW ((fieldsOf k).map (·.put e))
noncomputable def readS (k : Nat) (l : List UInt8) : Option Ev :=
  if headOf k <+: l then
    let ts := cutK ((fieldsOf k).length - 1) (l.drop (headOf k).length)
    if ts.length < (fieldsOf k).length then none else readAll (fieldsOf k) ts (Ev.zero k)
  else none

open Classical in
/-- The line of an event. -/
noncomputable def encS (e : Ev) : Option (List UInt8) :=
  if 0 < e.kind ∧ e.kind < 25 ∧ readS e.kind.toNat (writeS e.kind.toNat e) = some e then some (writeS e.kind.toNat e) else none

/-- The kind of a line, as far as its head tells. -/
def kindS (l : List UInt8) : Nat :=
  if [37] <+: l then ((List.range 25).find? fun k => !(headOf k).isEmpty && (headOf k).isPrefixOf l).getD 25 else 4

/-- The event of a line. -/
noncomputable def decS (l : List UInt8) : Ev :=
  if kindS l = 25 then { Ev.zero 25 with text := str l } else (readS (kindS l) l).getD { Ev.zero 25 with text := str l }

end Go.Proofs.YtplolaondmeccaaGreatDoor
