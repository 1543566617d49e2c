/-
  Events in memory; what a field's two functions do, said of function values.
-/
import Derived.Test.YtplolaondmeccaaGreatDoorWSpec
import Derived.WalkKit
import Derived.OneCell
import Derived.OpenShut
namespace Go.Proofs.YtplolaondmeccaaGreatDoor
open Go.RowKit
set_option linter.unusedVariables false

/-- An event lies in a block of its own. -/
def EvAt (w : World) (b : Nat) (e : Ev) : Prop := w.heap[b]? = some (.cells e.vals 27 (0, 0))

theorem EvAt.lt {w : World} {b : Nat} {e : Ev} (h : EvAt w b e) : b < w.heap.size := lt_of_block h
theorem EvAt.cell {w : World} {b : Nat} {e : Ev} (h : EvAt w b e) (o : Nat) : w.cell? ⟨b, o, none⟩ = e.vals[o]? := by unfold EvAt at h; simp [World.cell?, h]
theorem EvAt.free {w : World} {b : Nat} {e : Ev} (h : EvAt w b e) (o : Nat) : w.frozen? ⟨b, o, none⟩ = false := by unfold EvAt at h; simp [World.frozen?, h]
theorem EvAt.below {w w' : World} {b B : Nat} {e : Ev} (h : EvAt w b e) (hb : Below B w w') (hB : b < B) : EvAt w' b e := (hb.block b hB).trans h
theorem EvAt.grown {w w' : World} {b : Nat} {e : Ev} (h : EvAt w b e) {r : Option Nat} (hb : w.grownBy w' r) (hr : some b ≠ r) : EvAt w' b e := (hb.block b h.lt hr).trans h
theorem EvAt.alloc {w : World} {b : Nat} {e : Ev} (h : EvAt w b e) (o : Obj) : EvAt (w.alloc o) b e := (Below.heap_alloc w o b h.lt).trans h
theorem EvAt.drew {w : World} {b : Nat} {e : Ev} (h : EvAt w b e) : EvAt w.drew b e := h
theorem EvAt.new (w : World) (e : Ev) : EvAt (w.alloc (.cells e.vals 27)) w.heap.size e := heap_alloc_new w _
theorem EvAt.set {w : World} {b : Nat} {e e' : Ev} (h : EvAt w b e) (o : Nat) (v : Value) (hv : e.vals.setIfInBounds o v = e'.vals) : EvAt (w.setCell ⟨b, o, none⟩ v) b e' := by
  have hlt := h.lt
  have h' : w.heap[b] = .cells e.vals 27 (0, 0) := by unfold EvAt at h; simpa [Array.getElem?_eq_getElem hlt] using h
  show (w.heap.modify b _)[b]? = _
  rw [Array.getElem?_eq_getElem (by simpa using hlt), Array.getElem_modify_self, h', ← hv]
  rfl

theorem grownBy_refl (w : World) (r : Option Nat) : w.grownBy w r := ⟨rfl, rfl, rfl, Nat.le_refl _, fun _ _ _ => rfl⟩
theorem grownBy_trans {a b c : World} {r : Option Nat} (h : a.grownBy b r) (k : b.grownBy c r) : a.grownBy c r :=
  ⟨k.os.trans h.os, k.tape.trans h.tape, k.output.trans h.output, Nat.le_trans h.size k.size, fun i hi hr => (k.block i (Nat.lt_of_lt_of_le hi h.size) hr).trans (h.block i hi hr)⟩
theorem grownBy_of_below {a b : World} (h : Below a.heap.size a b) (r : Option Nat) : a.grownBy b r := ⟨h.os, h.tape, h.output, h.size, fun k hk _ => h.block k hk⟩
theorem grownBy_setCell (w : World) (b o : Nat) (v : Value) : w.grownBy (w.setCell ⟨b, o, none⟩ v) (some b) :=
  ⟨rfl, rfl, rfl, by simp [World.setCell], fun k _ hr => Below.heap_setCell _ _ _ _ (fun e => hr (by simp [e]))⟩
theorem below_of_grown {a b : World} {B r : Nat} (h : a.grownBy b (some r)) (hB : B ≤ a.heap.size) (hr : B ≤ r) : Below B a b :=
  (Below.refl B a).grown h hB (fun k e => by cases e; exact hr)

/-- How long a text may be here. -/
def lim : Nat := 67108864

def slim : Nat := 2097152

/-- An event whose texts are not too long, whose numbers are ints. -/
structure Ev.Fits (e : Ev) : Prop where
  name : e.name.size ≤ slim
  text : e.text.size ≤ slim
  layout : e.layout.size ≤ slim
  visible : e.visible.size ≤ slim
  num : ∀ f : NF, -9223372036854775808 ≤ f.get e ∧ f.get e ≤ 9223372036854775807

theorem Ev.Fits.textL {e : Ev} (h : e.Fits) : e.text.size ≤ lim := Nat.le_trans h.text (by decide)

/-- What the calls read of package-level variables. -/
structure Env (w : World) : Prop where
  digs : Digs w
  num : NumV w
  heads : ∀ k : Nat, k < 25 → w.cell? ⟨0, k, none⟩ = some (.string (str (headOf k)))
  most : ∃ m : Int, w.cell? ⟨1, 0, none⟩ = some (.int .i64 m)

theorem Env.below {w w' : World} (h : Env w) (hb : Below w.heap.size w w') : Env w' := by
  refine ⟨h.digs.below hb h.digs.pos, h.num.below hb, fun k hk => ?_, ?_⟩
  · exact (hb.cell (p := ⟨0, k, none⟩) (World.block_lt_of_cell? w _ (h.heads k hk))).trans (h.heads k hk)
  · obtain ⟨m, hm⟩ := h.most
    exact ⟨m, (hb.cell (p := ⟨1, 0, none⟩) (World.block_lt_of_cell? w _ hm)).trans hm⟩

/-- A function of the program, entered by its number. -/
def Enters (g : Nat) : Prop := ∀ args w, (callFunc g args).run Tryz.prog w = .ok (.enter g args) w

/-- From block B on, of what lay in w nothing has turned in W. -/
structure Since (B : Nat) (w W : World) : Prop where
  size : w.heap.size ≤ W.heap.size
  block : ∀ k, B ≤ k → k < w.heap.size → W.heap[k]? = w.heap[k]?
theorem Since.cell {B : Nat} {w W : World} (h : Since B w W) {p : Addr} (hB : B ≤ p.block) (hp : p.block < w.heap.size) : W.cell? p = w.cell? p := World.cell?_of_block (w := w) (h.block p.block hB hp)
theorem Since.of_below {B : Nat} {w W : World} (h : Below w.heap.size w W) : Since B w W := ⟨h.size, fun k _ hk => h.block k hk⟩
theorem Since.trans {B : Nat} {a b c : World} (h : Since B a b) (k : Since B b c) : Since B a c :=
  ⟨Nat.le_trans h.size k.size, fun i hi hl => (k.block i hi (Nat.lt_of_lt_of_le hl h.size)).trans (h.block i hi hl)⟩
theorem Since.mono {B B' : Nat} {a b : World} (h : Since B a b) (hB : B ≤ B') : Since B' a b := ⟨h.size, fun k hk hl => h.block k (Nat.le_trans hB hk) hl⟩
theorem Since.of_grown {B r : Nat} {a b : World} (h : a.grownBy b (some r)) (hr : r < B ∨ a.heap.size ≤ r) : Since B a b :=
  ⟨h.size, fun k hk hl => h.block k hl (fun e => by cases e; omega)⟩

/-- A field's function that writes; one that reads. -/
def PutOk (B : Nat) (w : World) (g : Nat) (lb : Array Value) (put : Ev → List UInt8) : Prop :=
  ∀ (W : World) (b : Nat) (ev : Ev), Since B w W → Env W → EvAt W b ev → ev.Fits →
    Calls Tryz.prog g (#[.pointer (some ⟨b, 0, none⟩)] ++ lb) W fun e w' => e = .returned (.string (str (put ev))) ∧ Below W.heap.size W w'

/-- What a reading leaves. -/
def Left (r : Option (Ev → Ev)) (ev ev' : Ev) (ok : Bool) : Prop := (∃ f, r = some f ∧ ok = true ∧ ev' = f ev) ∨ (r = none ∧ ok = false)

def ReadOk (B : Nat) (w : World) (g : Nat) (lb : Array Value) (read : List UInt8 → Option (Ev → Ev)) : Prop :=
  ∀ (W : World) (b : Nat) (ev : Ev) (t : ByteArray), Since B w W → Env W → (b < B ∨ w.heap.size ≤ b) → EvAt W b ev → t.size ≤ lim →
    Calls Tryz.prog g (#[.pointer (some ⟨b, 0, none⟩), .string t] ++ lb) W fun e w' =>
      ∃ ev' ok, e = .returned (.bool ok) ∧ EvAt w' b ev' ∧ W.grownBy w' (some b) ∧ Left (read t.data.toList) ev ev' ok

/-- A field: its two functions. -/
def IsF (B : Nat) (w : World) (F : FSpec) (pv rv : Value) : Prop :=
  ∃ g lb g' lb', pv = .func (.func g) #[] lb ∧ rv = .func (.func g') #[] lb' ∧ Enters g ∧ Enters g' ∧ PutOk B w g lb F.put ∧ ReadOk B w g' lb' F.read

theorem IsF.since {B B' : Nat} {w W : World} {F : FSpec} {pv rv : Value} (h : IsF B w F pv rv) (hb : Since B w W) (hB : B' ≤ B) : IsF B' W F pv rv := by
  obtain ⟨g, lb, g', lb', h1, h2, h3, h4, h5, h6⟩ := h
  exact ⟨g, lb, g', lb', h1, h2, h3, h4, fun W' b ev hb' => h5 W' b ev (hb.trans (hb'.mono hB)), fun W' b ev t hb' hE hx => h6 W' b ev t (hb.trans (hb'.mono hB)) hE (by have := hb.size; omega)⟩

/-- A field with its ends. -/
def IsFE (B : Nat) (w : World) (F : FSpec) (pv rv : Value) (es : ByteArray) : Prop := IsF B w F pv rv ∧ es = F.ends
theorem IsFE.since {B B' : Nat} {w W : World} {F : FSpec} {pv rv : Value} {es : ByteArray} (h : IsFE B w F pv rv es) (hb : Since B w W) (hB : B' ≤ B) : IsFE B' W F pv rv es := ⟨h.1.since hb hB, h.2⟩

/-- The functions that tell a field's place. -/
def OfOk (f o : Nat) : Prop := Enters f ∧ ∀ (W : World) (b : Nat), Calls Tryz.prog f #[.pointer (some ⟨b, 0, none⟩)] W fun e w' => e = .returned (.pointer (some ⟨b, o, none⟩)) ∧ W = w'

theorem of_tick : OfOk 77 6 := by
  refine ⟨enters_of Tryz.func77 (by kernel_rfl) rfl, fun W b => ?_⟩
  go_enter Tryz.func77, Tryz.ntmps77
  go_wp2
  go_ret
  exact ⟨rfl, rfl⟩
theorem of_lineNumber : OfOk 78 7 := by
  refine ⟨enters_of Tryz.func78 (by kernel_rfl) rfl, fun W b => ?_⟩
  go_enter Tryz.func78, Tryz.ntmps78
  go_wp2
  go_ret
  exact ⟨rfl, rfl⟩
theorem of_flag : OfOk 79 8 := by
  refine ⟨enters_of Tryz.func79 (by kernel_rfl) rfl, fun W b => ?_⟩
  go_enter Tryz.func79, Tryz.ntmps79
  go_wp2
  go_ret
  exact ⟨rfl, rfl⟩
theorem of_offset : OfOk 90 5 := by
  refine ⟨enters_of Tryz.func90 (by kernel_rfl) rfl, fun W b => ?_⟩
  go_enter Tryz.func90, Tryz.ntmps90
  go_wp2
  go_ret
  exact ⟨rfl, rfl⟩
theorem of_index : OfOk 100 4 := by
  refine ⟨enters_of Tryz.func100 (by kernel_rfl) rfl, fun W b => ?_⟩
  go_enter Tryz.func100, Tryz.ntmps100
  go_wp2
  go_ret
  exact ⟨rfl, rfl⟩
theorem of_session : OfOk 99 1 := by
  refine ⟨enters_of Tryz.func99 (by kernel_rfl) rfl, fun W b => ?_⟩
  go_enter Tryz.func99, Tryz.ntmps99
  go_wp2
  go_ret
  exact ⟨rfl, rfl⟩
theorem of_window : OfOk 91 2 := by
  refine ⟨enters_of Tryz.func91 (by kernel_rfl) rfl, fun W b => ?_⟩
  go_enter Tryz.func91, Tryz.ntmps91
  go_wp2
  go_ret
  exact ⟨rfl, rfl⟩
theorem of_pane : OfOk 85 3 := by
  refine ⟨enters_of Tryz.func85 (by kernel_rfl) rfl, fun W b => ?_⟩
  go_enter Tryz.func85, Tryz.ntmps85
  go_wp2
  go_ret
  exact ⟨rfl, rfl⟩
theorem of_layout : OfOk 95 11 := by
  refine ⟨enters_of Tryz.func95 (by kernel_rfl) rfl, fun W b => ?_⟩
  go_enter Tryz.func95, Tryz.ntmps95
  go_wp2
  go_ret
  exact ⟨rfl, rfl⟩
theorem of_visible : OfOk 96 12 := by
  refine ⟨enters_of Tryz.func96 (by kernel_rfl) rfl, fun W b => ?_⟩
  go_enter Tryz.func96, Tryz.ntmps96
  go_wp2
  go_ret
  exact ⟨rfl, rfl⟩

end Go.Proofs.YtplolaondmeccaaGreatDoor
