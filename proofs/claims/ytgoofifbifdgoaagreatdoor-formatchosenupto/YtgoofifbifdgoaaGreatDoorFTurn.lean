/-
  Formats: the turns that cut and pad, as function values.
-/
import Derived.Test.YtgoofifbifdgoaaGreatDoorFFour
namespace Go.Proofs.YtgoofifbifdgoaaGreatDoor
open Go.RowKit
set_option linter.unusedVariables false
set_option maxRecDepth 20000

/-- A function of the program, entered by its number. -/
def Enters (g : Nat) : Prop := ∀ args w, (callFunc g args).run Tryz.prog w = .ok (.enter g args) w
/-- From block B on, of what lay in w nothing has turned in W. -/
structure Since (B : Nat) (w W : World) : Prop where
  size : w.heap.size ≤ W.heap.size
  block : ∀ k, B ≤ k → k < w.heap.size → W.heap[k]? = w.heap[k]?
theorem Since.of_below {B : Nat} {w W : World} (h : Below w.heap.size w W) : Since B w W := ⟨h.size, fun k _ hk => h.block k hk⟩
theorem Since.trans {B : Nat} {a b c : World} (h : Since B a b) (k : Since B b c) : Since B a c :=
  ⟨Nat.le_trans h.size k.size, fun i hi hl => (k.block i hi (Nat.lt_of_lt_of_le hl h.size)).trans (h.block i hi hl)⟩
theorem Since.mono {B B' : Nat} {a b : World} (h : Since B a b) (hB : B ≤ B') : Since B' a b := ⟨h.size, fun k hk hl => h.block k (Nat.le_trans hB hk) hl⟩
theorem Since.of_but {B : Nat} {S : List Nat} {a b : World} (h : But S a b) (hS : ∀ k ∈ S, k < B) : Since B a b := ⟨h.size, fun k hk hl => h.block k hl fun hm => by have := hS k hm; omega⟩
/-- A turn, as a function value. -/
def TurnOk (B : Nat) (w : World) (v : Value) (t : Turn) : Prop := ∃ g lb, v = .func (.func g) #[] lb ∧ Enters g ∧ ∀ W, Since B w W → ∀ l : List UInt8, l.length ≤ 2147483647 → Calls Tryz.prog g (#[.string (str l)] ++ lb) W fun e w' => e = .returned (.string (str (t.of l))) ∧ Below W.heap.size W w'
theorem TurnOk.since {B B' : Nat} {w w' : World} {v : Value} {t : Turn} (h : TurnOk B w v t) (hb : Since B w w') (hB : B' ≤ B) : TurnOk B' w' v t := by
  obtain ⟨g, lb, h1, h2, h3⟩ := h
  exact ⟨g, lb, h1, h2, fun W hW => h3 W (hb.trans (hW.mono hB))⟩

set_option maxHeartbeats 1000000 in
theorem blanks_any (k : Int) (hk : k ≤ 10000) (hk0 : -2147483648 ≤ k) (w : World) : Calls Tryz.prog 95 #[.int .i64 k] w fun e w' => e = .returned (.string (str (List.replicate k.toNat 32))) ∧ Below w.heap.size w w' := by
  have hR := Tryz.strings_Repeat (str [32]) k.toNat w (by omega) (by show 1 * k.toNat ≤ _; omega)
  have e : ∀ c : Nat, Lib.repeatL (str [32]).data.toList c = List.replicate c 32 := fun c => by
    induction c with
    | zero => rfl
    | succ c ih => rw [Lib.repeatL, ih, List.replicate_succ]; rfl
  rw [e] at hR
  have e2 : (⟨(List.replicate k.toNat (32 : UInt8)).toArray⟩ : ByteArray) = str (List.replicate k.toNat 32) := rfl
  rw [e2] at hR
  obtain ⟨y, hy⟩ : ∃ y, str (List.replicate k.toNat 32) = y := ⟨_, rfl⟩
  rw [hy] at hR ⊢
  have e3 : str [32] = (⟨#[32]⟩ : ByteArray) := rfl
  rw [e3] at hR
  by_cases h0 : 0 ≤ k
  · obtain ⟨n, rfl⟩ : ∃ n : Nat, k = (n : Int) := ⟨k.toNat, by omega⟩
    have e4 : (n : Int).toNat = n := rfl
    rw [e4] at hR
    have HR := hidK hR
    have hm : max 0 (n : Int) = (n : Int) := by omega
    clear hR hy e e2 e3 e4
    go_enter Tryz.func95, Tryz.ntmps95
    go_wp2_with (go_at_call 125; refine HR.out.mono ?_; rintro x w1 ⟨rfl, hb1⟩)
    all_goals go_ret
    all_goals exact ⟨rfl, by assumption⟩
  · have e4 : k.toNat = 0 := by omega
    rw [e4] at hR
    have hm : max 0 k = 0 := by omega
    have HR : Hid (Calls Tryz.prog 125 #[.string ⟨#[32]⟩, .int .i64 0] w fun e w' => e = .returned (.string y) ∧ Below w.heap.size w w') := hR
    clear hR hy e e2 e3 e4
    go_enter Tryz.func95, Tryz.ntmps95
    go_wp2_with (go_at_call 125; refine HR.out.mono ?_; rintro x w1 ⟨rfl, hb1⟩)
    all_goals go_ret
    all_goals exact ⟨rfl, by assumption⟩

theorem box_int {w W : World} {n : Int} (h : Since w.heap.size (w.alloc (.cells #[.int .i64 n] 3)) W) : W.cell? ⟨w.heap.size, 0, none⟩ = some (.int .i64 n) := cell_atT ((h.block w.heap.size (Nat.le_refl _) (by simp)).trans (heap_alloc_new w _)) 0
set_option maxHeartbeats 1000000 in
theorem first_turn (n : Nat) (hn : n < 10000) (W : World) (b : Nat) (hc : W.cell? ⟨b, 0, none⟩ = some (.int .i64 (n : Int))) (l : List UInt8) (hl : l.length ≤ 2147483647) : Calls Tryz.prog 92 #[.string (str l), .pointer (some ⟨b, 0, none⟩)] W fun e w' => e = .returned (.string (str ((Turn.cut n).of l))) ∧ Below W.heap.size W w' := by
  have hT : ∀ k, (str l).extract 0 k = str (l.take k) := str_takeF l
  have hs : (str l).size = l.length := rfl
  obtain ⟨z, hz⟩ : ∃ z, str l = z := ⟨_, rfl⟩
  obtain ⟨y, hy⟩ : ∃ y, str ((Turn.cut n).of l) = y := ⟨_, rfl⟩
  have hn1 : (str l).extract 0 n = y := by rw [hT]; exact hy
  have hn2 : l.length < n → (str l).extract 0 l.length = y := fun h => by
    rw [hT, ← hy]
    show _ = str (l.take n)
    rw [List.take_of_length_le (Nat.le_refl _), List.take_of_length_le (by omega)]
  rw [hz] at hs hn1 hn2
  rw [hz, hy]
  obtain ⟨m, hm⟩ : ∃ m, l.length = m := ⟨_, rfl⟩
  rw [hm] at hs hn2 hl
  clear hT hz hy hm
  by_cases h : m < n
  · have hx := hn2 h
    have h1 : ((m : Int)) < (n : Int) := by omega
    have hmin : min (n : Int) (m : Int) = (m : Int) := by omega
    clear hn1 hn2
    go_enter Tryz.func92, Tryz.ntmps92
    go_wp2
    all_goals go_ret
    all_goals exact ⟨rfl, by first | exact Below.refl _ _ | exact (Below.refl _ _).drew⟩
  · have h1 : ¬ ((m : Int)) < (n : Int) := by omega
    have h2 : (n : Int) ≤ (m : Int) := by omega
    have hmin : min (n : Int) (m : Int) = (n : Int) := by omega
    clear hn2
    go_enter Tryz.func92, Tryz.ntmps92
    go_wp2
    all_goals go_ret
    all_goals exact ⟨rfl, by first | exact Below.refl _ _ | exact (Below.refl _ _).drew⟩
set_option maxHeartbeats 1000000 in
theorem first_any (n : Nat) (hn : n < 10000) (w : World) : Calls Tryz.prog 41 #[.int .i64 (n : Int)] w fun e w' => ∃ v, e = .returned v ∧ Below w.heap.size w w' ∧ TurnOk w.heap.size w' v (.cut n) := by
  have HT : Hid (∀ W, Since w.heap.size (w.alloc (.cells #[.int .i64 (n : Int)] 3)) W → ∀ l : List UInt8, l.length ≤ 2147483647 → Calls Tryz.prog 92 #[.string (str l), .pointer (some ⟨w.heap.size, 0, none⟩)] W fun e w' => e = .returned (.string (str ((Turn.cut n).of l))) ∧ Below W.heap.size W w') := fun W hW l hl => first_turn n hn W w.heap.size (box_int hW) l hl
  go_enter Tryz.func41, Tryz.ntmps41
  go_wp2
  all_goals go_ret
  exact ⟨_, rfl, (Below.refl _ _).alloc (Nat.le_refl _) _, _, _, rfl, enters_of Tryz.func92 (by kernel_rfl) rfl, HT.out⟩

end Go.Proofs.YtgoofifbifdgoaaGreatDoor
