/-
  Notifications and blocks one behind the other are a word: of the plain functions alone.
-/
import Derived.Test.YtplolaondmeccaaGreatDoorWWordS
import Derived.Test.YtplolaondmeccaaGreatDoorWNoLf
import Derived.Test.YtplolaondmeccaaGreatDoorWForgeP
namespace Go.Proofs.YtplolaondmeccaaGreatDoor
open Go.RowKit
set_option linter.unusedVariables false

/-- An event of three numbers. -/
def numEv (k : Nat) (t n f : Int) : Ev := { Ev.zero k with tick := t, number := n, flag := f }
def numL (k : Nat) (t n f : Int) : List UInt8 := headOf k ++ (putL t ++ 32 :: (putL n ++ 32 :: putL f))
theorem putL_nb {n : Int} (h : 0 ≤ n ∧ n ≤ 4611686018427387904) : ¬ (32 : UInt8) ∈ putL n := by
  rw [putL_in h]
  intro hm
  have := dec_digit _ _ hm
  exact absurd this.1 (by decide)
theorem num_of {n : Int} (h : 0 ≤ n ∧ n ≤ 4611686018427387904) : Num (putL n) n := ⟨h, rfl⟩
theorem num_enc (k : Nat) (hk : k = 1 ∨ k = 2 ∨ k = 3) (t n f : Int) (ht : 0 ≤ t ∧ t ≤ 4611686018427387904) (hn : 0 ≤ n ∧ n ≤ 4611686018427387904) (hf : 0 ≤ f ∧ f ≤ 1) : encS (numEv k t n f) = some (numL k t n f) := by
  have hf' : 0 ≤ f ∧ f ≤ 4611686018427387904 := by omega
  have r1 : ∀ (F : NF) (x m : Int), (0 ≤ x ∧ x ≤ 4611686018427387904) → x ≤ m → (fNum m F).read (putL x) = some (F.set x) := fun F x m hx hm => by
    show ((numOf (putL x)).bind fun n => if n ≤ m then some (F.set n) else none) = _
    rw [numOf_some (num_of hx)]
    show (if x ≤ m then some (F.set x) else none) = _
    rw [if_pos hm]
  have hfs : fieldsOf k = [fNum maxN .tick, fNum maxN .number, fNum 1 .flag] := by rcases hk with rfl | rfl | rfl <;> rfl
  have hw : writeS k (numEv k t n f) = numL k t n f := by
    unfold writeS
    rw [hfs]
    show headOf k ++ joinW [putL t, putL n, putL f] = _
    simp [joinW, List.intercalate, numL]
  have hr : readS k (numL k t n f) = some (numEv k t n f) := by
    unfold readS numL
    rw [if_pos (List.prefix_append _ _), List.drop_left, hfs]
    show (if (cutK 2 (putL t ++ 32 :: (putL n ++ 32 :: putL f))).length < 3 then none else readAll [fNum maxN .tick, fNum maxN .number, fNum 1 .flag] (cutK 2 (putL t ++ 32 :: (putL n ++ 32 :: putL f))) (Ev.zero k)) = _
    rw [cutK_at 1 _ _ (putL_nb ht), cutK_at 0 _ _ (putL_nb hn)]
    show ((fNum maxN .tick).read (putL t)).bind (fun g => ((fNum maxN .number).read (putL n)).bind fun g' => ((fNum 1 .flag).read (putL f)).bind fun g'' => some (g'' (g' (g (Ev.zero k))))) = _
    rw [r1 .tick t maxN ht ht.2, r1 .number n maxN hn hn.2, r1 .flag f 1 hf' hf.2]
    rfl
  have hk2 : 1 ≤ k ∧ k ≤ 24 := by omega
  rw [encS_yes (numEv k t n f) k rfl (by omega) (by omega) (by rw [hw]; exact hr), hw]

/-- A line that leads from a place to another. -/
theorem lead {p : Int} (hp : p ≠ 3) {l : List UInt8} {e : Ev} (h : encS e = some l) (r : List UInt8) : wordS p (l ++ 10 :: r) = wordS (afterK p (classK e.kind)) r := by
  rw [wordS_at hp (enc_nolf h), dec_enc h]

/-- What stands between blocks, or is one: text that leads from between blocks to between blocks; its last line. -/
structure Leads (t : List UInt8) : Prop where
  on : ∀ r, wordS 0 (t ++ r) = wordS 0 r
  last : t = [] ∨ ∃ x l p, t = x ++ l ++ [10] ∧ (∀ r, wordS 0 (x ++ r) = wordS p r) ∧ ¬ (10 : UInt8) ∈ l ∧ l ≠ [] ∧ p ≠ 3

theorem Leads.nil : Leads [] := ⟨fun _ => rfl, .inl rfl⟩
theorem Leads.append {a b : List UInt8} (ha : Leads a) (hb : Leads b) : Leads (a ++ b) := by
  refine ⟨fun r => by rw [List.append_assoc, ha.on, hb.on], ?_⟩
  rcases hb.last with rfl | ⟨x, l, p, rfl, h1, h2, h3, h4⟩
  · rw [List.append_nil]
    exact ha.last
  · exact .inr ⟨a ++ x, l, p, by simp, fun r => by rw [List.append_assoc, ha.on, h1], h2, h3, h4⟩

theorem enc_ne {e : Ev} {l : List UInt8} (h : encS e = some l) (h4 : e.kind ≠ 4) : l ≠ [] := by
  rintro rfl
  have := dec_enc h
  have h2 := dec_enc (body_enc ⟨#[]⟩)
  rw [show escB (⟨#[]⟩ : ByteArray).data.toList = [] from rfl, this] at h2
  rw [h2] at h4
  exact h4 rfl

/-- A notification. -/
theorem leads_told {e : Ev} {l : List UInt8} (h : encS e = some l) (hc : classK e.kind = 1) : Leads (l ++ [10]) := by
  refine ⟨fun r => ?_, .inr ⟨[], l, 0, by simp, fun r => rfl, enc_nolf h, enc_ne h (fun h4 => by rw [h4] at hc; cases hc), by decide⟩⟩
  rw [List.append_assoc]
  show wordS 0 (l ++ 10 :: r) = _
  rw [lead (by decide) h, hc]
  rfl

/-- The lines of an answer. -/
def bodiesL (ls : List ByteArray) : List UInt8 := ls.flatMap fun t => escB t.data.toList ++ [10]
theorem bodies_on : ∀ (ls : List ByteArray) (r : List UInt8), wordS 1 (bodiesL ls ++ r) = wordS 1 r
  | [], r => rfl
  | t :: ls, r => by
    show wordS 1 ((escB t.data.toList ++ [10] ++ bodiesL ls) ++ r) = _
    rw [List.append_assoc, List.append_assoc]
    show wordS 1 (escB t.data.toList ++ 10 :: (bodiesL ls ++ r)) = _
    rw [lead (by decide) (body_enc t), show afterK 1 (classK (bodyEv t).kind) = 1 from (by decide : afterK 1 (classK 4) = 1), bodies_on ls r]

/-- A block. -/
def blockL (good : Bool) (n : Int) (ls : List ByteArray) : List UInt8 := numL 1 0 n 0 ++ [10] ++ bodiesL ls ++ numL (if good then 2 else 3) 0 n 0 ++ [10]
theorem leads_block (good : Bool) (n : Int) (hn : 0 ≤ n ∧ n ≤ 4611686018427387904) (ls : List ByteArray) : Leads (blockL good n ls) := by
  have h1 := num_enc 1 (.inl rfl) 0 n 0 (by decide) hn (by decide)
  have hk : (if good then 2 else 3 : Nat) = 1 ∨ (if good then 2 else 3 : Nat) = 2 ∨ (if good then 2 else 3 : Nat) = 3 := by cases good <;> simp
  have h2 := num_enc (if good then 2 else 3) hk 0 n 0 (by decide) hn (by decide)
  have a1 : afterK 0 (classK (numEv 1 0 n 0).kind) = 1 := by show afterK 0 (classK (1 : Nat)) = 1; decide
  have a2 : afterK 1 (classK (numEv (if good then 2 else 3) 0 n 0).kind) = 0 := by
    cases good
    · exact (by decide : afterK 1 (classK (3 : Nat)) = 0)
    · exact (by decide : afterK 1 (classK (2 : Nat)) = 0)
  have h4 : (numEv (if good then 2 else 3) 0 n 0).kind ≠ 4 := by
    cases good
    · exact (by decide : ((3 : Nat) : Int) ≠ 4)
    · exact (by decide : ((2 : Nat) : Int) ≠ 4)
  have hx : ∀ r, wordS 0 ((numL 1 0 n 0 ++ [10] ++ bodiesL ls) ++ r) = wordS 1 r := fun r => by
    rw [List.append_assoc, List.append_assoc]
    show wordS 0 (numL 1 0 n 0 ++ 10 :: (bodiesL ls ++ r)) = _
    rw [lead (by decide) h1, a1, bodies_on]
  refine ⟨fun r => ?_, .inr ⟨numL 1 0 n 0 ++ [10] ++ bodiesL ls, numL (if good then 2 else 3) 0 n 0, 1, rfl, hx, enc_nolf h2, enc_ne h2 h4, by decide⟩⟩
  unfold blockL
  rw [List.append_assoc, List.append_assoc, hx]
  show wordS 1 (numL (if good then 2 else 3) 0 n 0 ++ 10 :: r) = _
  rw [lead (by decide) h2, a2]

/-! What the law asks of such a text. -/
theorem leads_word {t : List UInt8} (h : Leads t) : wordS 0 t = (true, true) := by
  have := h.on []
  rw [List.append_nil] at this
  rw [this, wordS_rest (by decide) (by simp)]
  rfl
theorem leads_pre {t : List UInt8} (h : Leads t) (k : Nat) : (wordS 0 (t.take k)).1 = true :=
  wordS_pre _ 0 t _ (Nat.le_refl _) (by rw [leads_word h]) (List.take_prefix _ _)
theorem leads_less {t : List UInt8} (h : Leads t) (hne : t ≠ []) : (wordS 0 (t.take (t.length - 1))).2 = false := by
  rcases h.last with rfl | ⟨x, l, p, rfl, h1, h2, h3, h4⟩
  · exact absurd rfl hne
  · have e : (x ++ l ++ [10]).take ((x ++ l ++ [10]).length - 1) = x ++ l := by
      rw [List.length_append, List.length_singleton, Nat.add_sub_cancel, List.take_left']
      rfl
    rw [e, h1, wordS_rest h4 h2]
    show (l.isEmpty && decide (p ≠ 1)) = false
    cases l with
    | nil => exact absurd rfl h3
    | cons a l => rfl

def beg111 : List UInt8 := [37, 98, 101, 103, 105, 110, 32, 49, 32, 49, 32, 49]
def closeL : List UInt8 := [37, 112, 97, 110, 101, 45, 99, 108, 111, 115, 101, 32, 37, 49]
theorem beg_enc : encS (numEv 1 1 1 1) = some beg111 := by
  rw [num_enc 1 (.inl rfl) 1 1 1 (by decide) (by decide) (by decide)]
  unfold numL
  rw [putL_1]
  rfl
theorem close_enc : encS { Ev.zero 9 with pane := 1 } = some closeL := by
  have hi : (fId 37 .pane).read [37, 49] = some (NF.set .pane 1) := by
    show (idOf 37 [37, 49]).map _ = _
    rw [idOf_some (n := 1) ⟨[49], rfl, num_1, by decide⟩]
    rfl
  have hw : writeS 9 { Ev.zero 9 with pane := 1 } = closeL := by
    show headOf 9 ++ joinW [putI 37 1] = _
    rw [put_id_1, joinW_one]
    rfl
  have hr : readS 9 closeL = some { Ev.zero 9 with pane := 1 } := by
    unfold readS
    rw [if_pos (by decide)]
    show ((fId 37 .pane).read [37, 49]).bind (fun g => some (g (Ev.zero 9))) = _
    rw [hi]
    rfl
  rw [encS_yes { Ev.zero 9 with pane := 1 } 9 rfl (by decide) (by decide) (by rw [hw]; exact hr), hw]
theorem leads_bad {t : List UInt8} (h : Leads t) : (wordS 0 (t ++ (beg111 ++ 10 :: (closeL ++ [10])))).1 = false := by
  rw [h.on, lead (by decide) beg_enc, show afterK 0 (classK (numEv 1 1 1 1).kind) = 1 by decide, lead (by decide) close_enc, show afterK 1 (classK ({ Ev.zero 9 with pane := 1 } : Ev).kind) = 3 by decide, wordS_lost]
theorem leads_open {t : List UInt8} (h : Leads t) : (wordS 0 (t ++ (beg111 ++ 10 :: ([120] ++ [10])))).1 = true := by
  have hx : encS (bodyEv ⟨#[120]⟩) = some [120] := by rw [body_enc]; rfl
  rw [h.on, lead (by decide) beg_enc, show afterK 0 (classK (numEv 1 1 1 1).kind) = 1 by decide, lead (by decide) hx, show afterK 1 (classK (bodyEv ⟨#[120]⟩).kind) = 1 by decide, wordS_rest (by decide) (by simp)]
  rfl

end Go.Proofs.YtplolaondmeccaaGreatDoor
