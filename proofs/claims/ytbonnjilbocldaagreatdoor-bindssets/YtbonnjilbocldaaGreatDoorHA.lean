/-
  Plain facts on bytes and their escapes (lists alone), and on rows of bytes that a call owns: nothing of the dump.
  Keys: what a key is, its name, its bytes; a decoder's step.
-/
import Derived.WalkKit
import Derived.Lib.Bytealg
import Derived.Lib.MapLaws
import Derived.Lib.DecodeNEq
import Derived.Lib.DecodeN
namespace Go.Proofs.YtbonnjilbocldaaGreatDoor
open Go.RowKit
set_option linter.unusedVariables false

/-- A byte that is escaped. -/
def mustB (c : UInt8) : Bool := decide (c.toNat < 32 ∨ c.toNat = 92)
theorem of_must {c : UInt8} (h : mustB c = true) : c.toNat < 32 ∨ c.toNat = 92 := of_decide_eq_true h
theorem of_not_must {c : UInt8} (h : mustB c = false) : ¬ (c.toNat < 32 ∨ c.toNat = 92) := of_decide_eq_false h

/-- The three digits of a byte. -/
def d1 (b : UInt8) : UInt8 := UInt8.ofNat (48 + b.toNat / 64)
def d2 (b : UInt8) : UInt8 := UInt8.ofNat (48 + b.toNat / 8 % 8)
def d3 (b : UInt8) : UInt8 := UInt8.ofNat (48 + b.toNat % 8)
theorem d1_nat (b : UInt8) : (d1 b).toNat = 48 + b.toNat / 64 := by
  have := UInt8.toNat_lt b
  unfold d1; rw [UInt8.toNat_ofNat']; omega
theorem d2_nat (b : UInt8) : (d2 b).toNat = 48 + b.toNat / 8 % 8 := by
  have := UInt8.toNat_lt b
  unfold d2; rw [UInt8.toNat_ofNat']; omega
theorem d3_nat (b : UInt8) : (d3 b).toNat = 48 + b.toNat % 8 := by
  have := UInt8.toNat_lt b
  unfold d3; rw [UInt8.toNat_ofNat']; omega

/-- How a byte is written in a code, a text escaped, a body escaped. -/
def code (b : UInt8) : List UInt8 := [92, d1 b, d2 b, d3 b]
def esc1 (b : UInt8) : List UInt8 := if mustB b then code b else [b]
def esc (l : List UInt8) : List UInt8 := l.flatMap esc1
def escB : List UInt8 → List UInt8
  | [] => []
  | c :: l => if c = 37 then code 37 ++ esc l else esc (c :: l)

theorem esc_nil : esc [] = [] := rfl
theorem esc_cons (c : UInt8) (l : List UInt8) : esc (c :: l) = esc1 c ++ esc l := rfl
theorem esc_append (a b : List UInt8) : esc (a ++ b) = esc a ++ esc b := List.flatMap_append
theorem esc_snoc (l : List UInt8) (c : UInt8) : esc (l ++ [c]) = esc l ++ esc1 c := by rw [esc_append, esc_cons, esc_nil, List.append_nil]
theorem esc1_must {c : UInt8} (h : mustB c = true) : esc1 c = code c := by unfold esc1; rw [if_pos h]
theorem esc1_not {c : UInt8} (h : mustB c = false) : esc1 c = [c] := by unfold esc1; rw [h]; rfl
theorem code_length (c : UInt8) : (code c).length = 4 := rfl
theorem esc1_length (c : UInt8) : 1 ≤ (esc1 c).length ∧ (esc1 c).length ≤ 4 := by unfold esc1; split <;> simp [code]
theorem esc_length (l : List UInt8) : l.length ≤ (esc l).length ∧ (esc l).length ≤ 4 * l.length := by
  induction l with
  | nil => simp [esc_nil]
  | cons c l ih => have := esc1_length c; rw [esc_cons, List.length_append, List.length_cons]; omega
theorem esc_take (l : List UInt8) (k : Nat) : (esc (l.take k)).length ≤ (esc l).length := by
  have h := esc_append (l.take k) (l.drop k)
  rw [List.take_append_drop] at h
  rw [h, List.length_append]; omega
theorem escB_length (l : List UInt8) : (escB l).length ≤ 4 * l.length := by
  cases l with
  | nil => simp [escB]
  | cons c l =>
    show (if c = 37 then code 37 ++ esc l else esc (c :: l)).length ≤ _
    split
    · have := esc_length l; rw [List.length_append, code_length, List.length_cons]; omega
    · exact (esc_length (c :: l)).2

theorem take_snoc (s : ByteArray) (k : Nat) (h : k < s.size) : s.data.toList.take (k + 1) = s.data.toList.take k ++ [s[k]] := by
  rw [List.take_succ_eq_append_getElem (by simpa using h)]; rfl
theorem take_all (s : ByteArray) : s.data.toList.take s.size = s.data.toList := List.take_of_length_le (by simp)
theorem size_data (s : ByteArray) : s.data.toList.length = s.size := by simp

theorem code_inj {c d : UInt8} (h : code c = code d) : c = d := by
  unfold code at h
  simp only [List.cons.injEq] at h
  obtain ⟨_, h1, h2, h3, _⟩ := h
  have e1 := congrArg UInt8.toNat h1
  have e2 := congrArg UInt8.toNat h2
  have e3 := congrArg UInt8.toNat h3
  rw [d1_nat, d1_nat] at e1
  rw [d2_nat, d2_nat] at e2
  rw [d3_nat, d3_nat] at e3
  apply UInt8.toNat_inj.1
  omega
theorem must92 : mustB 92 = true := by decide
theorem not37 : mustB 37 = false := by decide

/-- No byte's text begins another's. -/
theorem esc1_free {c d : UInt8} {x y : List UInt8} (h : esc1 c ++ x = esc1 d ++ y) : c = d ∧ x = y := by
  cases hc : mustB c <;> cases hd : mustB d
  · rw [esc1_not hc, esc1_not hd] at h
    simpa using h
  · rw [esc1_not hc, esc1_must hd] at h
    simp [code] at h
    rw [h.1, must92] at hc
    cases hc
  · rw [esc1_must hc, esc1_not hd] at h
    simp [code] at h
    rw [← h.1, must92] at hd
    cases hd
  · rw [esc1_must hc, esc1_must hd] at h
    have h4 := List.append_inj h rfl
    exact ⟨code_inj h4.1, h4.2⟩

theorem esc_split : ∀ (out t rest : List UInt8), esc t = esc out ++ rest → ∃ t', t = out ++ t' ∧ esc t' = rest
  | [], t, rest, h => ⟨t, rfl, h⟩
  | c :: out, t, rest, h => by
    cases t with
    | nil =>
      have := congrArg List.length h
      have h1 := esc1_length c
      rw [esc_cons, List.length_append, List.length_append, esc_nil] at this
      simp at this
      omega
    | cons d t =>
      rw [esc_cons, esc_cons, List.append_assoc] at h
      obtain ⟨rfl, h2⟩ := esc1_free h
      obtain ⟨t', rfl, h4⟩ := esc_split out t rest h2
      exact ⟨t', rfl, h4⟩

theorem esc_inj {a b : List UInt8} (h : esc a = esc b) : a = b := by
  obtain ⟨t', rfl, h2⟩ := esc_split b a [] (by simpa using h)
  cases t' with
  | nil => simp
  | cons c t =>
    have := congrArg List.length h2
    have h1 := esc1_length c
    rw [esc_cons, List.length_append, List.length_nil] at this
    omega

theorem esc_ne_code37 (t x : List UInt8) : esc t ≠ code 37 ++ x := by
  intro h
  cases t with
  | nil => cases h
  | cons c t =>
    rw [esc_cons] at h
    cases hc : mustB c
    · rw [esc1_not hc] at h
      simp [code] at h
      rw [h.1, must92] at hc
      cases hc
    · rw [esc1_must hc] at h
      have := code_inj (List.append_inj h rfl).1
      rw [this, not37] at hc
      cases hc

theorem escB_inj {a b : List UInt8} (h : escB a = escB b) : a = b := by
  have key : ∀ l : List UInt8, (∃ r, l = 37 :: r ∧ escB l = code 37 ++ esc r) ∨ escB l = esc l := by
    intro l
    cases l with
    | nil => exact .inr rfl
    | cons c r =>
      by_cases hc : c = 37
      · subst hc; exact .inl ⟨r, rfl, rfl⟩
      · refine .inr ?_
        show (if c = 37 then _ else _) = _
        rw [if_neg hc]
  rcases key a with ⟨r, rfl, e1⟩ | e1 <;> rcases key b with ⟨q, rfl, e2⟩ | e2
  · rw [e1, e2] at h
    rw [esc_inj (List.append_cancel_left h)]
  · rw [e1, e2] at h
    exact absurd h.symm (esc_ne_code37 _ _)
  · rw [e1, e2] at h
    exact absurd h (esc_ne_code37 _ _)
  · rw [e1, e2] at h
    exact esc_inj h

/-- How many bytes are escaped. -/
def musts (l : List UInt8) : Nat := (l.filter mustB).length
theorem musts_le (l : List UInt8) : musts l ≤ l.length := List.length_filter_le _ _
theorem musts_snoc (l : List UInt8) (c : UInt8) : musts (l ++ [c]) = musts l + if mustB c then 1 else 0 := by
  unfold musts
  rw [List.filter_append, List.length_append]
  cases h : mustB c <;> simp [h]
theorem esc_count (l : List UInt8) : (esc l).length = l.length + 3 * musts l := by
  induction l with
  | nil => rfl
  | cons c l ih =>
    rw [esc_cons, List.length_append, ih]
    cases h : mustB c
    · rw [esc1_not h]; simp [musts, h]; omega
    · rw [esc1_must h]; simp [musts, h, code]; omega
theorem esc_high (l : List UInt8) : ∀ c ∈ esc l, 32 ≤ c.toNat := by
  intro c hc
  unfold esc at hc
  obtain ⟨b, _, hb⟩ := List.mem_flatMap.1 hc
  cases h : mustB b
  · rw [esc1_not h] at hb
    have := of_not_must h
    simp at hb
    subst hb
    omega
  · rw [esc1_must h] at hb
    simp [code] at hb
    rcases hb with rfl | rfl | rfl | rfl
    · decide
    · rw [d1_nat]; omega
    · rw [d2_nat]; omega
    · rw [d3_nat]; omega

/-- A byte as a value. -/
def bv (c : UInt8) : Value := .int .u8 (c.toNat : Int)

/-- The slice v owns the bytes l, in blocks from B on. -/
def Owns (w : World) (B : Nat) (v : Value) (l : List UInt8) : Prop := w.ownsRow B 5 1 v l.length (l.map bv)

theorem Owns.nil (w : World) (B : Nat) : Owns w B (.slice none 0 0) [] := World.ownsRow_nil w B 5 1
theorem Owns.below {w w' : World} {B : Nat} {v : Value} {l : List UInt8} (h : Owns w B v l) (hb : Below w.heap.size w w') : Owns w' B v l :=
  World.ownsRow.kept (row := none) h ⟨hb.os, hb.tape, hb.output, hb.size, fun k hk _ => hb.block k hk⟩ (by cases v.ownBlock <;> simp)
theorem Owns.alloc {w : World} {B : Nat} {v : Value} {l : List UInt8} (h : Owns w B v l) (o : Obj) : Owns (w.alloc o) B v l := World.ownsRow.alloc h o
theorem Owns.base {w : World} {B : Nat} {v : Value} {l : List UInt8} (h : Owns w B v l) : ∀ k, v.ownBlock = some k → B ≤ k := fun k hk => (World.ownsRow.lt h k hk).1
theorem Owns.mk {w : World} {B : Nat} {v : Value} {l : List UInt8} {n : Nat} {xs : List Value} (h : w.ownsRow B 5 1 v n xs) (hn : n = l.length) (hx : xs = l.map bv) : Owns w B v l := by
  subst hn; subst hx; exact h

/-- A new row. -/
theorem Owns.made (w : World) (B : Nat) (l : List UInt8) (hB : B ≤ w.heap.size) (hl : l.length ≤ maxLen) : Owns (w.alloc (.cells (l.map bv).toArray 5)) B (.slice (some ⟨w.heap.size, 0, none⟩) l.length l.length) l :=
  ⟨by simp, .inr ⟨w.heap.size, l.length, _, rfl, hB, heap_alloc_new w _, Nat.le_refl _, hl, by simp, by simp [List.take_of_length_le]⟩⟩

/-- A list of bytes as a text. -/
def str (l : List UInt8) : ByteArray := ⟨l.toArray⟩
theorem str_data (l : List UInt8) : (str l).data.toList = l := rfl
theorem data_str (s : ByteArray) : str s.data.toList = s := rfl
theorem str_toList (l : List UInt8) : (str l).toList = l := by rw [Lib.toList_data]; rfl
theorem str_size (l : List UInt8) : (str l).size = l.length := rfl

theorem Owns.as {w : World} {B : Nat} {v : Value} {l r : List UInt8} (h : Owns w B v l) (e : l = r) : Owns w B v r := e ▸ h
/-- What is owned is read as a string. -/
theorem Owns.text {P : Program} {w : World} {B : Nat} {v : Value} {l : List UInt8} (h : Owns w B v l) (src dst e : TypeId) (hs : P.underlying src = some (.slice e)) (he : P.underlying e = some (.int .u8)) (hd : P.underlying dst = some .string) :
    (convert src dst v).run P w = .ok (.string (str l)) w := by
  rcases h.2 with ⟨rfl, h0⟩ | ⟨g, cap, cur, rfl, hb, hg, h1, h2, h3, h4⟩
  · have : l = [] := List.length_eq_zero_iff.1 h0
    subst this
    rw [run_convert_bytes_string w src dst e none 0 0 hs he hd]
    rfl
  · refine run_convert_bytes_back w src dst e ⟨g, 0, none⟩ cap l hs he hd fun j hj => ?_
    refine World.ownsRow.cells h (g := g) rfl j _ ?_
    rw [List.getElem?_map, List.getElem?_eq_getElem hj]
    rfl

theorem one_cell (w : World) (c : UInt8) (t : TypeId) : ∀ j (hj : j < [c].length), (w.alloc (.cells #[.int .u8 c.toNat] t)).cell? ((⟨w.heap.size, 0, none⟩ : Addr).add j) = some (bv [c][j]) := by
  intro j hj
  rw [show (⟨w.heap.size, 0, none⟩ : Addr).add j = ⟨w.heap.size, j, none⟩ by unfold Addr.add; split <;> simp_all, World.cell?_alloc_mark]
  match j, hj with
  | 0, _ => rfl

/-- Bytes appended to what is owned. -/
theorem wpList_append_bytes {P : Program} (w : World) {ops : Array Oper} {rest : List Oper} {o : Oper} {a : Act} {Q : Exit → Act → World → Prop} (hgd : o.guard = none) (s x : Operand) (t : TypeId)
    (ho : o.op = .call { callee := .builtin .append, args := #[s, x], argTypes := #[t, t] }) (ht : P.underlying t = some (.slice 5))
    (hinfo : (P.info? 5).map (fun i => (i.zero, i.size, i.bytes)) = some (some (.int .u8 0), 1, 1))
    (B : Nat) (v : Value) (l : List UInt8) (hs : a.eval s = v) (hown : Owns w B v l)
    (ad : Addr) (m c : Nat) (news : List UInt8) (hx : a.eval x = .slice (some ad) m c) (hm : news.length = m) (hnews : ∀ j (hj : j < news.length), w.cell? (ad.add j) = some (bv news[j]))
    (hlen : l.length + m ≤ 140737488355328) (hbase : B ≤ w.heap.size)
    (h : ∀ v' w', Owns w' B v' (l ++ news) → Below B w w' → wpList P ops Q rest (a.put o.dst v') w') : wpList P ops Q (o :: rest) a w := by
  obtain ⟨i0, hi, hz0, hz1, hz2⟩ := info_parts hinfo
  refine wpList_append_own w hgd s x t ho B 5 i0 (.int .u8 0) 1 1 ht hi hz0 hz1 hz2 rfl (by decide) v l.length (l.map bv) hs hown ad m c (news.map bv) hx (by simp [hm]) ?_ ?_ (by unfold maxLen; omega) (by omega) hbase ?_
  · intro j u hu
    rw [List.getElem?_map] at hu
    obtain ⟨b, hb, rfl⟩ := Option.map_eq_some_iff.1 hu
    obtain ⟨hj, rfl⟩ := List.getElem?_eq_some_iff.1 hb
    exact hnews j hj
  · intro u hu
    obtain ⟨b, _, rfl⟩ := List.mem_map.1 hu
    rfl
  · intro v' w' h2 h3 _
    refine h v' w' (Owns.mk h2 (by simp [hm]) (by simp)) ?_
    exact (Below.refl B w).grown h3 hbase (fun k hk => hown.base k hk)

theorem hid_ex {α : Type} (a : α) : ∃ r, Hid (a = r) := ⟨a, (rfl : a = a)⟩
theorem ret_bool {a b : Bool} (h : a = b) : Ending.returned (.bool a) = .returned (.bool b) := by rw [h]
theorem ret_str {a b : ByteArray} (h : a = b) : Ending.returned (.string a) = .returned (.string b) := by rw [h]

theorem bcell {W w1 : World} (hb : Below W.heap.size W w1) : (∀ b o, b < W.heap.size → w1.cell? ⟨b, o, none⟩ = W.cell? ⟨b, o, none⟩) ∧ (∀ b o, b < W.heap.size → w1.frozen? ⟨b, o, none⟩ = W.frozen? ⟨b, o, none⟩) :=
  ⟨fun b o h => hb.cell (p := ⟨b, o, none⟩) h, fun b o h => hb.frozen (p := ⟨b, o, none⟩) h⟩

end Go.Proofs.YtbonnjilbocldaaGreatDoor

namespace Go.Proofs.YtbonnjilbocldaaGreatDoor
open Go.RowKit
set_option linter.unusedVariables false
set_option maxRecDepth 100000

def plainM (m : Int) : Bool := decide (m = 0) || decide (m = 2)
def ctrlM (m : Int) : Bool := decide (m = 4) || decide (m = 6)
/-- A character. -/
def chrB (c : Int) : Bool := decide (33 ≤ c ∧ c ≤ 126 ∨ 160 ≤ c ∧ c ≤ 1114111 ∧ (c < 55296 ∨ 57343 < c))
/-- A control character. -/
def ctlB (c : Int) : Bool := decide (97 ≤ c ∧ c ≤ 122 ∧ c ≠ 105 ∧ c ≠ 109 ∨ 92 ≤ c ∧ c ≤ 95)
/-- A special key. -/
def spcB (c : Int) : Bool := decide (16777217 ≤ c ∧ c ≤ 16777238)
/-- One byte, with a name. -/
def oneB (c : Int) : Bool := decide (c = 13 ∨ c = 9 ∨ c = 27 ∨ c = 127)
def validB (c m : Int) : Bool :=
  if c = 32 then plainM m || ctrlM m
  else if oneB c then plainM m
  else if c = 16777239 then decide (m = 0)
  else if spcB c then decide (0 ≤ m ∧ m ≤ 7)
  else plainM m && chrB c || ctrlM m && ctlB c

/-- A special key: its name, its head's second byte, its letter, its number. -/
structure Sp where
  name : List UInt8
  head : List UInt8
  letter : List UInt8
  number : List UInt8
  deriving DecidableEq
def spT : List Sp :=
  [⟨[85, 112], [27, 91], [65], []⟩,
   ⟨[68, 111, 119, 110], [27, 91], [66], []⟩,
   ⟨[82, 105, 103, 104, 116], [27, 91], [67], []⟩,
   ⟨[76, 101, 102, 116], [27, 91], [68], []⟩,
   ⟨[72, 111, 109, 101], [27, 91], [72], [49]⟩,
   ⟨[69, 110, 100], [27, 91], [70], [52]⟩,
   ⟨[73, 110, 115, 101, 114, 116], [27, 91], [], [50]⟩,
   ⟨[68, 101, 108, 101, 116, 101], [27, 91], [], [51]⟩,
   ⟨[80, 97, 103, 101, 85, 112], [27, 91], [], [53]⟩,
   ⟨[80, 97, 103, 101, 68, 111, 119, 110], [27, 91], [], [54]⟩,
   ⟨[70, 49], [27, 79], [80], [49, 49]⟩,
   ⟨[70, 50], [27, 79], [81], [49, 50]⟩,
   ⟨[70, 51], [27, 79], [82], [49, 51]⟩,
   ⟨[70, 52], [27, 79], [83], [49, 52]⟩,
   ⟨[70, 53], [27, 91], [], [49, 53]⟩,
   ⟨[70, 54], [27, 91], [], [49, 55]⟩,
   ⟨[70, 55], [27, 91], [], [49, 56]⟩,
   ⟨[70, 56], [27, 91], [], [49, 57]⟩,
   ⟨[70, 57], [27, 91], [], [50, 48]⟩,
   ⟨[70, 49, 48], [27, 91], [], [50, 49]⟩,
   ⟨[70, 49, 49], [27, 91], [], [50, 51]⟩,
   ⟨[70, 49, 50], [27, 91], [], [50, 52]⟩]
theorem spT_len : spT.length = 22 := rfl
def nmT : List (Int × List UInt8) :=
  [(32, [83, 112, 97, 99, 101]), (13, [69, 110, 116, 101, 114]), (9, [84, 97, 98]), (27, [69, 115, 99, 97, 112, 101]), (127, [66, 83, 112, 97, 99, 101]), (16777239, [66, 84, 97, 98])]
def mdT : List (Int × List UInt8) := [(4, [67, 45]), (2, [77, 45]), (1, [83, 45])]
/-- The name of a code. -/
def bareF (c : Int) : List UInt8 :=
  if spcB c then (spT.getD (c - 16777217).toNat ⟨[], [], [], []⟩).name
  else match nmT.find? (fun p => decide (p.1 = c)) with
    | some p => p.2
    | none => Lib.encodeRune c
/-- Whether a modifier is there. -/
def hasM (m : Int) : Int → Bool
  | 4 => decide (4 ≤ m)
  | 2 => decide (m = 2 ∨ m = 3 ∨ m = 6 ∨ m = 7)
  | _ => decide (m = 1 ∨ m = 3 ∨ m = 5 ∨ m = 7)
def modF (m : Int) : List UInt8 := (if hasM m 4 then [67, 45] else []) ++ (if hasM m 2 then [77, 45] else []) ++ (if hasM m 1 then [83, 45] else [])
def nameF (c m : Int) : List UInt8 := if validB c m then modF m ++ bareF c else []
/-- A special key's bytes. -/
def seqF (s : Sp) (m : Int) (app : Bool) : List UInt8 :=
  let held : List UInt8 := if 0 < m then [59, UInt8.ofNat (49 + m.toNat)] else []
  if s.letter = [] then s.head ++ s.number ++ held ++ [126]
  else if 0 < m then [27, 91, 49] ++ held ++ s.letter
  else if app then [27, 79] ++ s.letter
  else s.head ++ s.letter
def bytesF (c m : Int) (app : Bool) : List UInt8 :=
  if validB c m then
    if c = 16777239 then [27, 91, 90]
    else if spcB c then seqF (spT.getD (c - 16777217).toNat ⟨[], [], [], []⟩) m app
    else (if hasM m 2 then [27] else []) ++ Lib.encodeRune (if hasM m 4 then c % 32 else c)
  else []

/-- The key of one byte. -/
def loneF (b : Nat) : Int × Int :=
  if 32 ≤ b ∨ b = 9 ∨ b = 13 ∨ b = 27 then ((b : Int), 0) else if b = 0 then (32, 4) else if b ≤ 26 then ((b : Int) + 96, 4) else ((b : Int) + 64, 4)
/-- Is it a whole character, or none that can be? -/
def fullB (t : List UInt8) : Bool :=
  match t with
  | [] => false
  | b :: r => decide (Lib.firstT b.toNat % 8 ≤ r.length + 1) ||
      (match r with
       | [] => false
       | b1 :: r1 => decide (b1.toNat < Lib.accLo (Lib.firstT b.toNat / 16) ∨ Lib.accHi (Lib.firstT b.toNat / 16) < b1.toNat) ||
          (match r1 with
           | [] => false
           | b2 :: _ => decide (b2.toNat < 128 ∨ 191 < b2.toNat)))
def dec (t : List UInt8) : Nat × Nat := if (str t).size = 0 then (65533, 0) else Utf8.decode (str t) 0
/-- What is held behind ESC. -/
def behindF (h : List UInt8) : List UInt8 × Int :=
  match h with
  | 27 :: r => (r, 2)
  | _ => (h, 0)
abbrev St := List UInt8 × (Int × Int)
/-- A byte, with nothing held. -/
def take0 (b : UInt8) : St :=
  if b = 27 then ([27], (0, 0)) else if b.toNat < 128 then ([], loneF b.toNat) else if fullB [b] then ([], (0, 0)) else ([b], (0, 0))
/-- A byte of a character. -/
def chF (h : List UInt8) (b : UInt8) : St :=
  let p := behindF (h ++ [b])
  if fullB p.1 then
    if (dec p.1).2 < p.1.length then take0 b
    else ([], if (dec p.1).2 = 1 ∨ chrB (dec p.1).1 = false then (0, 0) else ((dec p.1).1, p.2))
  else (h ++ [b], (0, 0))
def mods2 (k : Int × Int) : Int × Int := (k.1, k.2 + 2)
/-- The modifiers of a sequence. -/
def modsF (l : List UInt8) : Int :=
  match l with
  | [c] => if 49 < c.toNat ∧ c.toNat ≤ 56 then (c.toNat : Int) - 49 else 0
  | _ => 0
def toldB (s : Sp) (number last : List UInt8) (md : Bool) : Bool :=
  if last = [126] then decide (number = s.number) && decide (number ≠ []) && (decide (s.letter = []) || !md)
  else if last ≠ s.letter then false
  else if md then decide (number = [49])
  else decide (number = []) && decide (s.head = [27, 91])
/-- Where a text is cut: ahead, behind, whether. -/
def cutF : List UInt8 → List UInt8 × List UInt8 × Bool
  | [] => ([], [], false)
  | c :: r => if c = 59 then ([], r, true) else ((c :: (cutF r).1), (cutF r).2.1, (cutF r).2.2)
def findT (p : Sp → Bool) : List Sp → Nat → Option Nat
  | [], _ => none
  | s :: r, i => if p s then some i else findT p r (i + 1)
def inSeqF (numbers last : List UInt8) : Int × Int :=
  if numbers = [] ∧ last = [90] then (16777239, 0)
  else
    let q := cutF numbers
    let m := if q.2.2 then modsF q.2.1 else 0
    if q.2.2 = true ∧ m = 0 then (0, 0)
    else match findT (fun s => toldB s q.1 last q.2.2) spT 0 with
      | some i => (16777217 + (i : Int), m)
      | none => (0, 0)
def inShiftF (letter : List UInt8) : Int × Int :=
  match findT (fun s => decide (s.letter = letter)) spT 0 with
  | some i => (16777217 + (i : Int), 0)
  | none => (0, 0)
/-- A byte. -/
def takeF (h : List UInt8) (b : UInt8) : St :=
  match h with
  | [] => take0 b
  | [27] => if b = 91 ∨ b = 79 then ([27, b], (0, 0)) else if b.toNat < 128 then ([], mods2 (loneF b.toNat)) else chF h b
  | 27 :: 91 :: r => if b.toNat < 32 ∨ 127 ≤ b.toNat then take0 b
      else if b.toNat < 64 then (if h.length + 1 = 256 then ([], (0, 0)) else (h ++ [b], (0, 0)))
      else ([], inSeqF r [b])
  | 27 :: 79 :: _ => ([], inShiftF (Lib.encodeRune b.toNat))
  | _ => chF h b
def feedF : List UInt8 → List UInt8 → List UInt8 × List (Int × Int)
  | h, [] => (h, [])
  | h, b :: r => let p := takeF h b; let q := feedF p.1 r; (q.1, (if p.2.1 = 0 then q.2 else p.2 :: q.2))
/-- What is held, read as it stands. -/
def flushF (h : List UInt8) : List (Int × Int) :=
  let p := behindF h
  let rec go : List UInt8 → Int → List (Int × Int)
    | [], _ => []
    | b :: r, m => if 128 ≤ b.toNat then [] else ((loneF b.toNat).1, (loneF b.toNat).2 + m) :: go r 0
  if p.2 ≠ 0 ∧ p.1 = [] then [(27, 0)] else go p.1 p.2

end Go.Proofs.YtbonnjilbocldaaGreatDoor
