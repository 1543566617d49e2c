/-
  Plain facts on bytes and their escapes (lists alone), and on rows of bytes that a call owns: nothing of the dump.
  Formats: what a text says, as far as it is told here ('none': not told).
  Formats: what is gone past at once; a place's end; identifiers.
-/
import Derived.Test.YtlfcjcaofhcfnaaGreatDoorProg
import Derived.WalkKit
import Derived.Lib.Bytealg
import Derived.Lib.Index
import Derived.Lib.Strings
import Derived.Lib.LastIndexByte
import Derived.Lib.ItoaNum
namespace Go.Proofs.YtlfcjcaofhcfnaaGreatDoor
open Go.RowKit
set_option linter.unusedVariables false

/-- A byte that is escaped. -/
def mustB (c : UInt8) : Bool := decide (c.toNat < 32 ∨ c.toNat = 92)
theorem of_must {c : UInt8} (h : mustB c = true) : c.toNat < 32 ∨ c.toNat = 92 := of_decide_eq_true h
theorem of_not_must {c : UInt8} (h : mustB c = false) : ¬ (c.toNat < 32 ∨ c.toNat = 92) := of_decide_eq_false h

/-- The three digits of a byte. -/
def d1 (b : UInt8) : UInt8 := UInt8.ofNat (48 + b.toNat / 64)
def d2 (b : UInt8) : UInt8 := UInt8.ofNat (48 + b.toNat / 8 % 8)
def d3 (b : UInt8) : UInt8 := UInt8.ofNat (48 + b.toNat % 8)
theorem d1_nat (b : UInt8) : (d1 b).toNat = 48 + b.toNat / 64 := by
  have := UInt8.toNat_lt b
  unfold d1; rw [UInt8.toNat_ofNat']; omega
theorem d2_nat (b : UInt8) : (d2 b).toNat = 48 + b.toNat / 8 % 8 := by
  have := UInt8.toNat_lt b
  unfold d2; rw [UInt8.toNat_ofNat']; omega
theorem d3_nat (b : UInt8) : (d3 b).toNat = 48 + b.toNat % 8 := by
  have := UInt8.toNat_lt b
  unfold d3; rw [UInt8.toNat_ofNat']; omega

/-- How a byte is written in a code, a text escaped, a body escaped. -/
def code (b : UInt8) : List UInt8 := [92, d1 b, d2 b, d3 b]
def esc1 (b : UInt8) : List UInt8 := if mustB b then code b else [b]
def esc (l : List UInt8) : List UInt8 := l.flatMap esc1
def escB : List UInt8 → List UInt8
  | [] => []
  | c :: l => if c = 37 then code 37 ++ esc l else esc (c :: l)

theorem esc_nil : esc [] = [] := rfl
theorem esc_cons (c : UInt8) (l : List UInt8) : esc (c :: l) = esc1 c ++ esc l := rfl
theorem esc_append (a b : List UInt8) : esc (a ++ b) = esc a ++ esc b := List.flatMap_append
theorem esc_snoc (l : List UInt8) (c : UInt8) : esc (l ++ [c]) = esc l ++ esc1 c := by rw [esc_append, esc_cons, esc_nil, List.append_nil]
theorem esc1_must {c : UInt8} (h : mustB c = true) : esc1 c = code c := by unfold esc1; rw [if_pos h]
theorem esc1_not {c : UInt8} (h : mustB c = false) : esc1 c = [c] := by unfold esc1; rw [h]; rfl
theorem code_length (c : UInt8) : (code c).length = 4 := rfl
theorem esc1_length (c : UInt8) : 1 ≤ (esc1 c).length ∧ (esc1 c).length ≤ 4 := by unfold esc1; split <;> simp [code]
theorem esc_length (l : List UInt8) : l.length ≤ (esc l).length ∧ (esc l).length ≤ 4 * l.length := by
  induction l with
  | nil => simp [esc_nil]
  | cons c l ih => have := esc1_length c; rw [esc_cons, List.length_append, List.length_cons]; omega
theorem esc_take (l : List UInt8) (k : Nat) : (esc (l.take k)).length ≤ (esc l).length := by
  have h := esc_append (l.take k) (l.drop k)
  rw [List.take_append_drop] at h
  rw [h, List.length_append]; omega
theorem escB_length (l : List UInt8) : (escB l).length ≤ 4 * l.length := by
  cases l with
  | nil => simp [escB]
  | cons c l =>
    show (if c = 37 then code 37 ++ esc l else esc (c :: l)).length ≤ _
    split
    · have := esc_length l; rw [List.length_append, code_length, List.length_cons]; omega
    · exact (esc_length (c :: l)).2

theorem take_snoc (s : ByteArray) (k : Nat) (h : k < s.size) : s.data.toList.take (k + 1) = s.data.toList.take k ++ [s[k]] := by
  rw [List.take_succ_eq_append_getElem (by simpa using h)]; rfl
theorem take_all (s : ByteArray) : s.data.toList.take s.size = s.data.toList := List.take_of_length_le (by simp)
theorem size_data (s : ByteArray) : s.data.toList.length = s.size := by simp

theorem code_inj {c d : UInt8} (h : code c = code d) : c = d := by
  unfold code at h
  simp only [List.cons.injEq] at h
  obtain ⟨_, h1, h2, h3, _⟩ := h
  have e1 := congrArg UInt8.toNat h1
  have e2 := congrArg UInt8.toNat h2
  have e3 := congrArg UInt8.toNat h3
  rw [d1_nat, d1_nat] at e1
  rw [d2_nat, d2_nat] at e2
  rw [d3_nat, d3_nat] at e3
  apply UInt8.toNat_inj.1
  omega
theorem must92 : mustB 92 = true := by decide
theorem not37 : mustB 37 = false := by decide

/-- No byte's text begins another's. -/
theorem esc1_free {c d : UInt8} {x y : List UInt8} (h : esc1 c ++ x = esc1 d ++ y) : c = d ∧ x = y := by
  cases hc : mustB c <;> cases hd : mustB d
  · rw [esc1_not hc, esc1_not hd] at h
    simpa using h
  · rw [esc1_not hc, esc1_must hd] at h
    simp [code] at h
    rw [h.1, must92] at hc
    cases hc
  · rw [esc1_must hc, esc1_not hd] at h
    simp [code] at h
    rw [← h.1, must92] at hd
    cases hd
  · rw [esc1_must hc, esc1_must hd] at h
    have h4 := List.append_inj h rfl
    exact ⟨code_inj h4.1, h4.2⟩

theorem esc_split : ∀ (out t rest : List UInt8), esc t = esc out ++ rest → ∃ t', t = out ++ t' ∧ esc t' = rest
  | [], t, rest, h => ⟨t, rfl, h⟩
  | c :: out, t, rest, h => by
    cases t with
    | nil =>
      have := congrArg List.length h
      have h1 := esc1_length c
      rw [esc_cons, List.length_append, List.length_append, esc_nil] at this
      simp at this
      omega
    | cons d t =>
      rw [esc_cons, esc_cons, List.append_assoc] at h
      obtain ⟨rfl, h2⟩ := esc1_free h
      obtain ⟨t', rfl, h4⟩ := esc_split out t rest h2
      exact ⟨t', rfl, h4⟩

theorem esc_inj {a b : List UInt8} (h : esc a = esc b) : a = b := by
  obtain ⟨t', rfl, h2⟩ := esc_split b a [] (by simpa using h)
  cases t' with
  | nil => simp
  | cons c t =>
    have := congrArg List.length h2
    have h1 := esc1_length c
    rw [esc_cons, List.length_append, List.length_nil] at this
    omega

theorem esc_ne_code37 (t x : List UInt8) : esc t ≠ code 37 ++ x := by
  intro h
  cases t with
  | nil => cases h
  | cons c t =>
    rw [esc_cons] at h
    cases hc : mustB c
    · rw [esc1_not hc] at h
      simp [code] at h
      rw [h.1, must92] at hc
      cases hc
    · rw [esc1_must hc] at h
      have := code_inj (List.append_inj h rfl).1
      rw [this, not37] at hc
      cases hc

theorem escB_inj {a b : List UInt8} (h : escB a = escB b) : a = b := by
  have key : ∀ l : List UInt8, (∃ r, l = 37 :: r ∧ escB l = code 37 ++ esc r) ∨ escB l = esc l := by
    intro l
    cases l with
    | nil => exact .inr rfl
    | cons c r =>
      by_cases hc : c = 37
      · subst hc; exact .inl ⟨r, rfl, rfl⟩
      · refine .inr ?_
        show (if c = 37 then _ else _) = _
        rw [if_neg hc]
  rcases key a with ⟨r, rfl, e1⟩ | e1 <;> rcases key b with ⟨q, rfl, e2⟩ | e2
  · rw [e1, e2] at h
    rw [esc_inj (List.append_cancel_left h)]
  · rw [e1, e2] at h
    exact absurd h.symm (esc_ne_code37 _ _)
  · rw [e1, e2] at h
    exact absurd h (esc_ne_code37 _ _)
  · rw [e1, e2] at h
    exact esc_inj h

/-- How many bytes are escaped. -/
def musts (l : List UInt8) : Nat := (l.filter mustB).length
theorem musts_le (l : List UInt8) : musts l ≤ l.length := List.length_filter_le _ _
theorem musts_snoc (l : List UInt8) (c : UInt8) : musts (l ++ [c]) = musts l + if mustB c then 1 else 0 := by
  unfold musts
  rw [List.filter_append, List.length_append]
  cases h : mustB c <;> simp [h]
theorem esc_count (l : List UInt8) : (esc l).length = l.length + 3 * musts l := by
  induction l with
  | nil => rfl
  | cons c l ih =>
    rw [esc_cons, List.length_append, ih]
    cases h : mustB c
    · rw [esc1_not h]; simp [musts, h]; omega
    · rw [esc1_must h]; simp [musts, h, code]; omega
theorem esc_high (l : List UInt8) : ∀ c ∈ esc l, 32 ≤ c.toNat := by
  intro c hc
  unfold esc at hc
  obtain ⟨b, _, hb⟩ := List.mem_flatMap.1 hc
  cases h : mustB b
  · rw [esc1_not h] at hb
    have := of_not_must h
    simp at hb
    subst hb
    omega
  · rw [esc1_must h] at hb
    simp [code] at hb
    rcases hb with rfl | rfl | rfl | rfl
    · decide
    · rw [d1_nat]; omega
    · rw [d2_nat]; omega
    · rw [d3_nat]; omega

/-- A byte as a value. -/
def bv (c : UInt8) : Value := .int .u8 (c.toNat : Int)

/-- The slice v owns the bytes l, in blocks from B on. -/
def Owns (w : World) (B : Nat) (v : Value) (l : List UInt8) : Prop := w.ownsRow B 5 1 v l.length (l.map bv)

theorem Owns.nil (w : World) (B : Nat) : Owns w B (.slice none 0 0) [] := World.ownsRow_nil w B 5 1
theorem Owns.below {w w' : World} {B : Nat} {v : Value} {l : List UInt8} (h : Owns w B v l) (hb : Below w.heap.size w w') : Owns w' B v l :=
  World.ownsRow.kept (row := none) h ⟨hb.os, hb.tape, hb.output, hb.size, fun k hk _ => hb.block k hk⟩ (by cases v.ownBlock <;> simp)
theorem Owns.alloc {w : World} {B : Nat} {v : Value} {l : List UInt8} (h : Owns w B v l) (o : Obj) : Owns (w.alloc o) B v l := World.ownsRow.alloc h o
theorem Owns.base {w : World} {B : Nat} {v : Value} {l : List UInt8} (h : Owns w B v l) : ∀ k, v.ownBlock = some k → B ≤ k := fun k hk => (World.ownsRow.lt h k hk).1
theorem Owns.mk {w : World} {B : Nat} {v : Value} {l : List UInt8} {n : Nat} {xs : List Value} (h : w.ownsRow B 5 1 v n xs) (hn : n = l.length) (hx : xs = l.map bv) : Owns w B v l := by
  subst hn; subst hx; exact h

/-- A new row. -/
theorem Owns.made (w : World) (B : Nat) (l : List UInt8) (hB : B ≤ w.heap.size) (hl : l.length ≤ maxLen) : Owns (w.alloc (.cells (l.map bv).toArray 5)) B (.slice (some ⟨w.heap.size, 0, none⟩) l.length l.length) l :=
  ⟨by simp, .inr ⟨w.heap.size, l.length, _, rfl, hB, heap_alloc_new w _, Nat.le_refl _, hl, by simp, by simp [List.take_of_length_le]⟩⟩

/-- A list of bytes as a text. -/
def str (l : List UInt8) : ByteArray := ⟨l.toArray⟩
theorem str_data (l : List UInt8) : (str l).data.toList = l := rfl
theorem data_str (s : ByteArray) : str s.data.toList = s := rfl
theorem str_toList (l : List UInt8) : (str l).toList = l := by rw [Lib.toList_data]; rfl
theorem str_size (l : List UInt8) : (str l).size = l.length := rfl

theorem Owns.as {w : World} {B : Nat} {v : Value} {l r : List UInt8} (h : Owns w B v l) (e : l = r) : Owns w B v r := e ▸ h
/-- What is owned is read as a string. -/
theorem Owns.text {P : Program} {w : World} {B : Nat} {v : Value} {l : List UInt8} (h : Owns w B v l) (src dst e : TypeId) (hs : P.underlying src = some (.slice e)) (he : P.underlying e = some (.int .u8)) (hd : P.underlying dst = some .string) :
    (convert src dst v).run P w = .ok (.string (str l)) w := by
  rcases h.2 with ⟨rfl, h0⟩ | ⟨g, cap, cur, rfl, hb, hg, h1, h2, h3, h4⟩
  · have : l = [] := List.length_eq_zero_iff.1 h0
    subst this
    rw [run_convert_bytes_string w src dst e none 0 0 hs he hd]
    rfl
  · refine run_convert_bytes_back w src dst e ⟨g, 0, none⟩ cap l hs he hd fun j hj => ?_
    refine World.ownsRow.cells h (g := g) rfl j _ ?_
    rw [List.getElem?_map, List.getElem?_eq_getElem hj]
    rfl

theorem one_cell (w : World) (c : UInt8) (t : TypeId) : ∀ j (hj : j < [c].length), (w.alloc (.cells #[.int .u8 c.toNat] t)).cell? ((⟨w.heap.size, 0, none⟩ : Addr).add j) = some (bv [c][j]) := by
  intro j hj
  rw [show (⟨w.heap.size, 0, none⟩ : Addr).add j = ⟨w.heap.size, j, none⟩ by unfold Addr.add; split <;> simp_all, World.cell?_alloc_mark]
  match j, hj with
  | 0, _ => rfl

/-- Bytes appended to what is owned. -/
theorem wpList_append_bytes {P : Program} (w : World) {ops : Array Oper} {rest : List Oper} {o : Oper} {a : Act} {Q : Exit → Act → World → Prop} (hgd : o.guard = none) (s x : Operand) (t : TypeId)
    (ho : o.op = .call { callee := .builtin .append, args := #[s, x], argTypes := #[t, t] }) (ht : P.underlying t = some (.slice 5))
    (hinfo : (P.info? 5).map (fun i => (i.zero, i.size, i.bytes)) = some (some (.int .u8 0), 1, 1))
    (B : Nat) (v : Value) (l : List UInt8) (hs : a.eval s = v) (hown : Owns w B v l)
    (ad : Addr) (m c : Nat) (news : List UInt8) (hx : a.eval x = .slice (some ad) m c) (hm : news.length = m) (hnews : ∀ j (hj : j < news.length), w.cell? (ad.add j) = some (bv news[j]))
    (hlen : l.length + m ≤ 140737488355328) (hbase : B ≤ w.heap.size)
    (h : ∀ v' w', Owns w' B v' (l ++ news) → Below B w w' → wpList P ops Q rest (a.put o.dst v') w') : wpList P ops Q (o :: rest) a w := by
  obtain ⟨i0, hi, hz0, hz1, hz2⟩ := info_parts hinfo
  refine wpList_append_own w hgd s x t ho B 5 i0 (.int .u8 0) 1 1 ht hi hz0 hz1 hz2 rfl (by decide) v l.length (l.map bv) hs hown ad m c (news.map bv) hx (by simp [hm]) ?_ ?_ (by unfold maxLen; omega) (by omega) hbase ?_
  · intro j u hu
    rw [List.getElem?_map] at hu
    obtain ⟨b, hb, rfl⟩ := Option.map_eq_some_iff.1 hu
    obtain ⟨hj, rfl⟩ := List.getElem?_eq_some_iff.1 hb
    exact hnews j hj
  · intro u hu
    obtain ⟨b, _, rfl⟩ := List.mem_map.1 hu
    rfl
  · intro v' w' h2 h3 _
    refine h v' w' (Owns.mk h2 (by simp [hm]) (by simp)) ?_
    exact (Below.refl B w).grown h3 hbase (fun k hk => hown.base k hk)

theorem hid_ex {α : Type} (a : α) : ∃ r, Hid (a = r) := ⟨a, (rfl : a = a)⟩
theorem ret_bool {a b : Bool} (h : a = b) : Ending.returned (.bool a) = .returned (.bool b) := by rw [h]
theorem ret_str {a b : ByteArray} (h : a = b) : Ending.returned (.string a) = .returned (.string b) := by rw [h]

theorem bcell {W w1 : World} (hb : Below W.heap.size W w1) : (∀ b o, b < W.heap.size → w1.cell? ⟨b, o, none⟩ = W.cell? ⟨b, o, none⟩) ∧ (∀ b o, b < W.heap.size → w1.frozen? ⟨b, o, none⟩ = W.frozen? ⟨b, o, none⟩) :=
  ⟨fun b o h => hb.cell (p := ⟨b, o, none⟩) h, fun b o h => hb.frozen (p := ⟨b, o, none⟩) h⟩

end Go.Proofs.YtlfcjcaofhcfnaaGreatDoor

namespace Go.Proofs.YtlfcjcaofhcfnaaGreatDoor
set_option linter.unusedVariables false

def smallB (c : UInt8) : Bool := decide (97 ≤ c.toNat) && decide (c.toNat ≤ 122)
def greatB (c : UInt8) : Bool := decide (65 ≤ c.toNat) && decide (c.toNat ≤ 90)
def digitB (c : UInt8) : Bool := decide (48 ≤ c.toNat) && decide (c.toNat ≤ 57)
def innerB (c : UInt8) : Bool := smallB c || digitB c || decide (c.toNat = 95)
def identF : List UInt8 → Bool
  | [] => false
  | c :: r => decide (r.length + 1 ≤ 32) && smallB c && r.all innerB

/-- How many bytes are gone past at once; how many more places are open behind them. -/
def passF : List UInt8 → Nat × Int
  | [] => (1, 0)
  | [c] => if c.toNat = 125 then (1, -1) else (1, 0)
  | c :: d :: _ => if c.toNat = 125 then (1, -1) else if c.toNat = 35 then (if d.toNat = 123 then (2, 1) else if d.toNat = 35 ∨ d.toNat = 44 ∨ d.toNat = 125 then (2, 0) else (1, 0)) else (1, 0)
theorem pass_pos (l : List UInt8) : 1 ≤ (passF l).1 := by
  match l with
  | [] => decide
  | [c] => simp only [passF]; split <;> decide
  | c :: d :: _ =>
    simp only [passF]
    split
    · decide
    split
    · split
      · decide
      split <;> decide
    · decide
theorem pass_le {l : List UInt8} (h : l ≠ []) : (passF l).1 ≤ l.length := by
  match l with
  | [] => exact absurd rfl h
  | [c] => simp only [passF]; split <;> simp
  | c :: d :: r =>
    have h1 : (c :: d :: r).length = r.length + 2 := rfl
    rw [h1]
    simp only [passF]
    split
    · simp
    split
    · split
      · simp
      split <;> simp
    · simp
theorem pass_small (l : List UInt8) : -1 ≤ (passF l).2 ∧ (passF l).2 ≤ 1 := by
  match l with
  | [] => decide
  | [c] => simp only [passF]; split <;> decide
  | c :: d :: _ =>
    simp only [passF]
    split
    · decide
    split
    · split
      · decide
      split <;> decide
    · decide

/-- Where a place ends. -/
def insG : Nat → List UInt8 → Int → Nat → Option Nat
  | 0, _, _, _ => none
  | f + 1, l, o, k => if l = [] then none else if o + (passF l).2 = 0 then some k else insG f (l.drop (passF l).1) (o + (passF l).2) (k + (passF l).1)
def insideF (l : List UInt8) : Option Nat := insG l.length l 1 0

/-- A text cut at its commas. -/
def cutG : Nat → List UInt8 → List UInt8 → Int → List (List UInt8)
  | 0, _, cur, _ => [cur]
  | f + 1, l, cur, o => match l with
    | [] => [cur]
    | c :: r => if c.toNat = 44 ∧ o = 0 then cur :: cutG f r [] 0 else cutG f (l.drop (passF l).1) (cur ++ l.take (passF l).1) (o + (passF l).2)
def cutF (l : List UInt8) : List (List UInt8) := cutG l.length l [] 0

/-- The value of a variable. -/
abbrev Vars := List (List UInt8 × List UInt8)
def valF (vs : Vars) (name : List UInt8) : List UInt8 := ((vs.find? fun v => decide (v.1 = name)).map (·.2)).getD []
def truthF (l : List UInt8) : Bool := decide (l ≠ []) && decide (l ≠ [48])
def shortF (c : UInt8) : List UInt8 :=
  if c.toNat = 83 then [115, 101, 115, 115, 105, 111, 110, 95, 110, 97, 109, 101] else if c.toNat = 87 then [119, 105, 110, 100, 111, 119, 95, 110, 97, 109, 101] else if c.toNat = 73 then [119, 105, 110, 100, 111, 119, 95, 105, 110, 100, 101, 120] else if c.toNat = 80 then [112, 97, 110, 101, 95, 105, 110, 100, 101, 120] else if c.toNat = 68 then [112, 97, 110, 101, 95, 105, 100] else if c.toNat = 70 then [119, 105, 110, 100, 111, 119, 95, 102, 108, 97, 103, 115] else []

/-- What comes of it: bytes, or an error. -/
abbrev Res := Option (Except Int (List UInt8))
def Res.then (r : Res) (k : List UInt8 → Res) : Res := match r with
  | none => none
  | some (.error e) => some (.error e)
  | some (.ok s) => k s

/-- The beginning of a text: what it says, and how many bytes it has. -/
inductive Nxt where
  | plain (n : Nat)
  | says (s : List UInt8) (n : Nat)
  | name (s : List UInt8)
  | place
def plainF (l : List UInt8) : Nat := (l.takeWhile fun c => decide (c.toNat ≠ 35)).length
def nextF (l : List UInt8) : Nxt :=
  if 0 < plainF l then .plain (plainF l) else match l with
  | [] => .plain 0
  | [c] => .says [c] 1
  | c :: d :: _ => if d.toNat = 35 ∨ d.toNat = 44 ∨ d.toNat = 125 then .says [d] 2 else if d.toNat = 123 then .place else if shortF d ≠ [] then .name (shortF d) else .says [c] 1
/-- The bytes behind the #{ up to its end. -/
def restF (l : List UInt8) : List UInt8 := l.drop 2
def saidF (pl : List UInt8 → Res) (vs : Vars) (l : List UInt8) : Option (Except Int (List UInt8 × Nat)) := match nextF l with
  | .plain n => some (.ok (l.take n, n))
  | .says s n => some (.ok (s, n))
  | .name s => some (.ok (valF vs s, 2))
  | .place => match insideF (restF l) with
    | none => some (.error 100)
    | some k => match pl ((restF l).take k) with
      | none => none
      | some (.error e) => some (.error e)
      | some (.ok s) => some (.ok (s, k + 3))
def loopF (pl : List UInt8 → Res) (vs : Vars) : Nat → List UInt8 → List UInt8 → Res
  | 0, _, said => some (.ok said)
  | f + 1, l, said => if l = [] then some (.ok said) else match saidF pl vs l with
    | none => none
    | some (.error e) => some (.error e)
    | some (.ok (s, n)) => if 1024 < said.length + s.length then some (.error 2) else loopF pl vs f (l.drop n) (said ++ s)

/-- Patterns: how far the first member of a set goes, and how long it is. -/
def spanF : List UInt8 → UInt8 × Nat
  | c :: d :: e :: _ => if d.toNat = 45 then (e, 3) else (c, 1)
  | c :: _ => (c, 1)
  | [] => (0, 1)
def hasG : Nat → List UInt8 → UInt8 → Bool
  | 0, _, _ => false
  | _ + 1, [], _ => false
  | n + 1, c :: r, b => (decide (c.toNat ≤ b.toNat) && decide (b.toNat ≤ (spanF (c :: r)).1.toNat)) || hasG n ((c :: r).drop (spanF (c :: r)).2) b
def hasF (l : List UInt8) (b : UInt8) : Bool := hasG l.length l b
structure Tok where
  many : Bool
  not : Bool
  mem : List UInt8
  deriving DecidableEq
def Tok.of (t : Tok) (b : UInt8) : Bool := hasF t.mem b != t.not
/-- Whether a text is of the tokens. -/
def anyF (p : List UInt8 → Bool) : List UInt8 → Bool
  | [] => p []
  | c :: r => p (c :: r) || anyF p r
def oneF (t : Tok) (p : List UInt8 → Bool) : List UInt8 → Bool
  | [] => false
  | c :: r => t.of c && p r
def mat : List Tok → List UInt8 → Bool
  | [], s => s.isEmpty
  | t :: ts, s => if t.many then anyF (mat ts) s else oneF t (mat ts) s
def notB (l : List UInt8) : Bool := Lib.hasPrefix (l.drop 1) [33]
def begN (l : List UInt8) : Nat := if notB l then 2 else 1
def endN (l : List UInt8) : Nat := begN l + 1 + (Lib.indexByte (l.drop (begN l + 1)) 93).toNat
def dsetF (l : List UInt8) : Tok × Nat :=
  if Lib.indexByte (l.drop (begN l + 1)) 93 = -1 then (⟨false, notB l, []⟩, 0) else (⟨false, notB l, (l.drop (begN l)).take (endN l - begN l)⟩, endN l + 1)
def dtokF (l : List UInt8) : Tok × Nat := match l with
  | [] => (⟨false, false, []⟩, 1)
  | c :: r => if c.toNat = 42 then (⟨true, false, []⟩, 1) else if c.toNat = 63 then (⟨false, true, []⟩, 1) else if c.toNat = 92 ∧ r ≠ [] then (⟨false, false, r.take 1⟩, 2) else if c.toNat = 91 ∧ 0 < (dsetF (c :: r)).2 then dsetF (c :: r) else (⟨false, false, [c]⟩, 1)
def dtoksG : Nat → List UInt8 → List Tok
  | 0, _ => []
  | f + 1, l => if l = [] then [] else (dtokF l).1 :: dtoksG f (l.drop (dtokF l).2)
def dtoksF (l : List UInt8) : List Tok := dtoksG l.length l

/-- Turns. -/
def slashE (l : List UInt8) : Int := Lib.lastIndexByte (str l) 47
def baseF (l : List UInt8) : List UInt8 := l.drop (slashE l + 1).toNat
def folderF (l : List UInt8) : List UInt8 := if slashE l = -1 then [46] else if slashE l = 0 then [47] else l.take (slashE l).toNat
def lettersF (q : UInt8 → Bool) (l : List UInt8) : List UInt8 := l.map fun c => if q c then c ^^^ 97 ^^^ 65 else c
def lettersT (q : UInt8 → Bool) (l : List UInt8) : List UInt8 := if 1024 < l.length then l else lettersF q l
/-- What is written so far, the text that is left. -/
def exchG (x y : List UInt8) : Nat → List UInt8 → List UInt8 → List UInt8
  | 0, out, _ => out
  | f + 1, out, l => if 1024 < out.length then out else if Lib.index l x < 0 then out ++ l else exchG x y f (out ++ (l.take (Lib.index l x).toNat ++ y)) (l.drop ((Lib.index l x).toNat + x.length))
def exchF (x y l : List UInt8) : List UInt8 := exchG x y (l.length + 1) [] l
inductive Turn where
  | cut (n : Nat)
  | last (n : Nat)
  | behind (n : Nat)
  | ahead (n : Nat)
  | base
  | folder
  | count
  | great
  | small
  | exch (x y : List UInt8)
def fourG : Nat → Nat → List UInt8 → Option Nat
  | n, i, [] => some n
  | n, i, c :: r => if digitB c = false ∨ i = 4 then none else fourG (n * 10 + (c.toNat - 48)) (i + 1) r
def fourF (l : List UInt8) : Option Nat := if l = [] then none else fourG 0 0 l
/-- A prefix of one byte, cut off. -/
def headF (c : UInt8) : List UInt8 → List UInt8 × Bool
  | [] => ([], false)
  | d :: r => if d = c then (r, true) else (d :: r, false)
def numF (p m : Nat → Turn) (r : List UInt8) : Option Turn := if (headF 45 r).2 = true then (fourF (headF 45 r).1).map m else (fourF r).map p
def bareF (t : Turn) (r : List UInt8) : Option Turn := if r = [] then some t else none
def splitG (c : UInt8) : List UInt8 → List UInt8 → List (List UInt8)
  | cur, [] => [cur]
  | cur, d :: r => if d = c then cur :: splitG c [] r else splitG c (cur ++ [d]) r
def exchP : List (List UInt8) → Option Turn
  | [a, x, y, b] => if a = [] ∧ x ≠ [] ∧ b = [] then some (.exch x y) else none
  | _ => none
def exchT (r : List UInt8) : Option Turn := exchP (splitG 47 [] r)
/-- one turn: 'some none': it is none. -/
def turnF : List UInt8 → Option (Option Turn)
  | [] => some none
  | c :: r => if c.toNat = 61 then some (numF .cut .last r) else if c.toNat = 112 then some (numF .behind .ahead r) else if c.toNat = 98 then some (bareF .base r) else if c.toNat = 100 then some (bareF .folder r) else if c.toNat = 110 then some (bareF .count r) else if c.toNat = 117 then some (bareF .great r) else if c.toNat = 119 then some (bareF .small r) else if c.toNat = 115 then some (exchT r) else some none
def Turn.of : Turn → List UInt8 → List UInt8
  | .cut n, l => l.take n
  | .last n, l => l.drop (l.length - n)
  | .behind n, l => l ++ List.replicate (n - l.length) 32
  | .ahead n, l => List.replicate (n - l.length) 32 ++ l
  | .base, l => baseF l
  | .folder, l => folderF l
  | .count, l => Lib.itoa (l.length : Int)
  | .great, l => lettersT smallB l
  | .small, l => lettersT greatB l
  | .exch x y, l => exchF x y l
def turnsG : List (List UInt8) → Option (Option (List Turn))
  | [] => some (some [])
  | p :: ps => match turnF p with
    | none => none
    | some none => some none
    | some (some t) => match turnsG ps with
      | none => none
      | some none => some none
      | some (some ts) => some (some (t :: ts))
def turnsF (name : List UInt8) : Option (Option (List Turn)) := turnsG (splitG 59 [] name)
def turnedF : List Turn → List UInt8 → Res
  | [], l => some (.ok l)
  | t :: ts, l => if 1024 < (t.of l).length then some (.error 2) else turnedF ts (t.of l)

/-- Numbers. -/
def readD : Nat → List UInt8 → Option Nat
  | n, [] => some n
  | n, c :: r => if digitB c then readD (n * 10 + (c.toNat - 48)) r else none
def readU (l : List UInt8) : Option Nat := if l = [] then none else readD 0 l
/-- A whole number, read. -/
def wholeF (l : List UInt8) : Option Int :=
  if 19 < (headF 45 l).1.length ∨ (1 < (headF 45 l).1.length ∧ (headF 45 l).1.head? = some 48) then none
  else match readU (headF 45 l).1 with
    | none => none
    | some n => if 4611686018427387904 < n then none else some (if (headF 45 l).2 then -(n : Int) else (n : Int))
def NumIn (a : Int) : Prop := -4611686018427387904 ≤ a ∧ a ≤ 4611686018427387904
def farB (n : Int) : Bool := decide (n < -4611686018427387904 ∨ 4611686018427387904 < n)
def nearF (n : Int) : Option Int := if farB n = false then some n else none
def unitF (b : Bool) : Int := if b then 1 else 0
def yesF (b : Bool) : List UInt8 := if b then [49] else [48]

/-- What two parts mean. -/
def twoF (sub : List UInt8 → Res) : List (List UInt8) → Option (Except Int (List UInt8 × List UInt8))
  | [a, b] => match sub a with
    | none => none
    | some (.error k) => some (.error k)
    | some (.ok s) => match sub b with
      | none => none
      | some (.error k) => some (.error k)
      | some (.ok t) => some (.ok (s, t))
  | _ => some (.error 100)
def bothF (sub : List UInt8 → Res) (p : List UInt8) : Option (Except Int (List UInt8 × List UInt8)) := twoF sub (cutF p)
def textsF (q : List UInt8 → List UInt8 → Bool) (r : Option (Except Int (List UInt8 × List UInt8))) : Res := match r with
  | none => none
  | some (.error k) => some (.error k)
  | some (.ok (s, t)) => some (.ok (yesF (q s t)))
def numbersF (op : Int → Int → Option Int) (r : Option (Except Int (List UInt8 × List UInt8))) : Res := match r with
  | none => none
  | some (.error k) => some (.error k)
  | some (.ok (s, t)) => match wholeF s with
    | none => some (.error 100)
    | some a => match wholeF t with
      | none => some (.error 100)
      | some b => match op a b with
        | none => some (.error 100)
        | some n => some (.ok (Lib.itoa n))
def notF (r : Res) : Res := match r with
  | none => none
  | some (.error k) => some (.error k)
  | some (.ok s) => some (.ok (yesF (!truthF s)))
/-- The heads. -/
inductive Hd where
  | eq | ne | lt | gt | le | ge | mt | or | an | sm | df | pr | qt | rm | eqn | ltn | gtn | neg | lit
def hdL : List (List UInt8 × Hd) := [([61, 61], .eq), ([33, 61], .ne), ([60], .lt), ([62], .gt), ([60, 61], .le), ([62, 61], .ge), ([109], .mt), ([124, 124], .or), ([38, 38], .an), ([101, 124, 43, 124], .sm), ([101, 124, 45, 124], .df), ([101, 124, 42, 124], .pr), ([101, 124, 47, 124], .qt), ([101, 124, 109, 124], .rm), ([101, 124, 61, 61, 124], .eqn), ([101, 124, 60, 124], .ltn), ([101, 124, 62, 124], .gtn), ([33], .neg), ([108], .lit)]
def hdOf (name : List UInt8) : Option Hd := (hdL.find? fun p => decide (p.1 = name)).map (·.2)
/-- A place, by its inside; 'sub': what a part says. -/
def operandF (sub : List UInt8 → Res) (vs : Vars) (p : List UInt8) : Res := if identF p then some (.ok (valF vs p)) else sub p
def choiceF (sub : List UInt8 → Res) (vs : Vars) (rest : List UInt8) : Res := match cutF rest with
  | [a, b] => (operandF sub vs a).then fun s => if truthF s then sub b else some (.ok [])
  | [a, b, c] => (operandF sub vs a).then fun s => if truthF s then sub b else sub c
  | _ => some (.error 100)
def headNames : List (List UInt8) := [[61, 61], [33, 61], [60], [62], [60, 61], [62, 61], [109], [124, 124], [38, 38], [101, 124, 43, 124], [101, 124, 45, 124], [101, 124, 42, 124], [101, 124, 47, 124], [101, 124, 109, 124], [101, 124, 61, 61, 124], [101, 124, 60, 124], [101, 124, 62, 124], [33], [108]]
def Hd.run (h : Hd) (sub : List UInt8 → Res) (vs : Vars) (p : List UInt8) : Res := match h with
  | .eq => textsF (fun a b => a == b) (bothF sub p)
  | .ne => textsF (fun a b => a != b) (bothF sub p)
  | .lt => textsF (fun a b => Op.bytesLess a b) (bothF sub p)
  | .gt => textsF (fun a b => !Op.bytesLess a b && !(a == b)) (bothF sub p)
  | .le => textsF (fun a b => Op.bytesLess a b || a == b) (bothF sub p)
  | .ge => textsF (fun a b => !Op.bytesLess a b) (bothF sub p)
  | .mt => textsF (fun a b => mat (dtoksF a) b) (bothF sub p)
  | .or => textsF (fun a b => (fun x y => x || y) (truthF a) (truthF b)) (bothF (operandF sub vs) p)
  | .an => textsF (fun a b => (fun x y => x && y) (truthF a) (truthF b)) (bothF (operandF sub vs) p)
  | .sm => numbersF (fun a b => nearF (a + b)) (bothF (operandF sub vs) p)
  | .df => numbersF (fun a b => nearF (a - b)) (bothF (operandF sub vs) p)
  | .pr => numbersF (fun a b => nearF (a * b)) (bothF (operandF sub vs) p)
  | .qt => numbersF (fun a b => if b = 0 then none else some (a.tdiv b)) (bothF (operandF sub vs) p)
  | .rm => numbersF (fun a b => if b = 0 then none else some (a.tmod b)) (bothF (operandF sub vs) p)
  | .eqn => numbersF (fun a b => some (unitF (decide (a = b)))) (bothF (operandF sub vs) p)
  | .ltn => numbersF (fun a b => some (unitF (decide (a < b)))) (bothF (operandF sub vs) p)
  | .gtn => numbersF (fun a b => some (unitF (decide (b < a)))) (bothF (operandF sub vs) p)
  | .neg => notF (operandF sub vs p)
  | .lit => some (.ok p)
def headedF (sub : List UInt8 → Res) (vs : Vars) (name rest : List UInt8) : Res := match hdOf name with
  | some h => h.run sub vs rest
  | none => match turnsF name with
    | none => none
    | some none => some (.error 100)
    | some (some ts) => (operandF sub vs rest).then (turnedF ts)
def colonF (l : List UInt8) : Option Nat := l.findIdx? fun c => decide (c.toNat = 58)
def placeF (sub : List UInt8 → Res) (vs : Vars) (l : List UInt8) : Res := match l with
  | 63 :: rest => choiceF sub vs rest
  | l => match colonF l with
    | some k => headedF sub vs (l.take k) (l.drop (k + 1))
    | none => if identF l then some (.ok (valF vs l)) else some (.error 100)
/-- What a text says, so many places being allowed in one another. -/
def sayF (vs : Vars) : Nat → List UInt8 → Res
  | 0, l => loopF (fun _ => some (.error 101)) vs l.length l []
  | r + 1, l => loopF (placeF (sayF vs r) vs) vs l.length l []

/-- The two formats that the statements begin with. -/
theorem say_one : sayF [([97], [49]), ([98], [120, 121, 122]), ([119, 105, 110, 100, 111, 119, 95, 105, 110, 100, 101, 120], [55])] 16 [35, 123, 63, 97, 44, 35, 73, 58, 35, 123, 61, 50, 59, 112, 51, 58, 98, 125, 44, 120, 125] = some (.ok [55, 58, 120, 121, 32]) := by kernel_rfl
theorem say_two : sayF [] 16 [35, 123] = some (.error 100) := by kernel_rfl

theorem hd_names : hdL.map (·.1) = headNames := rfl
theorem hd_some {name : List UInt8} {h : Hd} (hh : hdOf name = some h) : name ∈ headNames := by
  unfold hdOf at hh
  cases hf : hdL.find? (fun p => decide (p.1 = name)) with
  | none => rw [hf] at hh; cases hh
  | some p =>
    have h1 := List.mem_of_find?_eq_some hf
    have h2 := List.find?_some hf
    rw [decide_eq_true_eq] at h2
    rw [← hd_names, ← h2]
    exact List.mem_map_of_mem h1
theorem hd_none {name : List UInt8} (hh : hdOf name = none) : name ∉ headNames := by
  unfold hdOf at hh
  rw [Option.map_eq_none_iff, List.find?_eq_none] at hh
  rw [← hd_names]
  intro hm
  obtain ⟨p, hp, e⟩ := List.mem_map.1 hm
  have := hh p hp
  rw [decide_eq_true_eq] at this
  exact this e
/-- What a text says is always told. -/
theorem turn_told (l : List UInt8) : ∃ r, turnF l = some r := by
  cases l with
  | nil => exact ⟨_, rfl⟩
  | cons c r =>
    simp only [turnF]
    repeat (first | exact ⟨_, rfl⟩ | split)
theorem turns_told : ∀ ps, ∃ r, turnsG ps = some r
  | [] => ⟨_, rfl⟩
  | p :: ps => by
    obtain ⟨r, hr⟩ := turn_told p
    obtain ⟨s, hs⟩ := turns_told ps
    simp only [turnsG, hr, hs]
    cases r with
    | none => exact ⟨_, rfl⟩
    | some t => cases s <;> exact ⟨_, rfl⟩
theorem turned_told : ∀ ts l, ∃ r, turnedF ts l = some r
  | [], l => ⟨_, rfl⟩
  | t :: ts, l => by
    simp only [turnedF]
    split
    · exact ⟨_, rfl⟩
    · exact turned_told ts _
def Told (sub : List UInt8 → Res) : Prop := ∀ l, ∃ r, sub l = some r
theorem operand_told {sub : List UInt8 → Res} (h : Told sub) (vs : Vars) : Told (operandF sub vs) := fun l => by
  unfold operandF
  split
  · exact ⟨_, rfl⟩
  · exact h l
theorem then_told {r : Res} {k : List UInt8 → Res} (h : ∃ x, r = some x) (hk : Told k) : ∃ x, r.then k = some x := by
  obtain ⟨x, rfl⟩ := h
  cases x with
  | error e => exact ⟨_, rfl⟩
  | ok s => exact hk s
theorem both_told {sub : List UInt8 → Res} (h : Told sub) (p : List UInt8) : ∃ r, bothF sub p = some r := by
  unfold bothF twoF
  split
  · rename_i a b _
    obtain ⟨x, hx⟩ := h a
    obtain ⟨y, hy⟩ := h b
    rw [hx, hy]
    cases x with
    | error e => exact ⟨_, rfl⟩
    | ok s => cases y <;> exact ⟨_, rfl⟩
  · exact ⟨_, rfl⟩
theorem texts_told {q : List UInt8 → List UInt8 → Bool} {r : Option (Except Int (List UInt8 × List UInt8))} (h : ∃ x, r = some x) : ∃ x, textsF q r = some x := by
  obtain ⟨x, rfl⟩ := h
  cases x <;> exact ⟨_, rfl⟩
theorem numbers_told {op : Int → Int → Option Int} {r : Option (Except Int (List UInt8 × List UInt8))} (h : ∃ x, r = some x) : ∃ x, numbersF op r = some x := by
  obtain ⟨x, rfl⟩ := h
  cases x with
  | error e => exact ⟨_, rfl⟩
  | ok s =>
    simp only [numbersF]
    repeat (first | exact ⟨_, rfl⟩ | split)
theorem head_told {sub : List UInt8 → Res} (h : Told sub) (vs : Vars) (hd : Hd) (p : List UInt8) : ∃ r, hd.run sub vs p = some r := by
  have h1 := both_told h p
  have h2 := both_told (operand_told h vs) p
  cases hd <;> simp only [Hd.run] <;> first | exact texts_told h1 | exact texts_told h2 | exact numbers_told h2 | skip
  · obtain ⟨x, hx⟩ := operand_told h vs p
    simp only [hx]
    cases x <;> exact ⟨_, rfl⟩
  · exact ⟨_, rfl⟩
theorem place_told {sub : List UInt8 → Res} (h : Told sub) (vs : Vars) : Told (placeF sub vs) := fun l => by
  have ho := operand_told h vs
  unfold placeF
  split
  · unfold choiceF
    split
    · refine then_told (ho _) fun s => ?_
      split
      · exact h _
      · exact ⟨_, rfl⟩
    · refine then_told (ho _) fun s => ?_
      split <;> exact h _
    · exact ⟨_, rfl⟩
  · split
    · unfold headedF
      split
      · exact head_told h vs _ _
      · obtain ⟨r, hr⟩ := turns_told (splitG 59 [] (l.take _))
        unfold turnsF
        rw [hr]
        cases r with
        | none => exact ⟨_, rfl⟩
        | some ts => exact then_told (ho _) (turned_told ts)
    · split <;> exact ⟨_, rfl⟩
theorem loop_told {pl : List UInt8 → Res} (h : Told pl) (vs : Vars) : ∀ f l said, ∃ r, loopF pl vs f l said = some r
  | 0, l, said => ⟨_, rfl⟩
  | f + 1, l, said => by
    unfold loopF
    split
    · exact ⟨_, rfl⟩
    · have hs : ∃ x, saidF pl vs l = some x := by
        unfold saidF
        split
        · exact ⟨_, rfl⟩
        · exact ⟨_, rfl⟩
        · exact ⟨_, rfl⟩
        · split
          · exact ⟨_, rfl⟩
          · rename_i k _
            obtain ⟨x, hx⟩ := h ((restF l).take k)
            rw [hx]
            cases x <;> exact ⟨_, rfl⟩
      obtain ⟨x, hx⟩ := hs
      rw [hx]
      cases x with
      | error e => exact ⟨_, rfl⟩
      | ok p =>
        obtain ⟨s, n⟩ := p
        simp only
        split
        · exact ⟨_, rfl⟩
        · exact loop_told h vs f _ _
theorem say_told (vs : Vars) : ∀ r, Told (sayF vs r)
  | 0 => fun l => loop_told (fun _ => ⟨_, rfl⟩) vs _ _ _
  | r + 1 => fun l => loop_told (place_told (say_told vs r) vs) vs _ _ _

end Go.Proofs.YtlfcjcaofhcfnaaGreatDoor

namespace Go.Proofs.YtlfcjcaofhcfnaaGreatDoor
open Go.RowKit
set_option linter.unusedVariables false
set_option maxRecDepth 20000

theorem hidK {p : Prop} (h : p) : Hid p := h
theorem str_getF (l : List UInt8) (k : Nat) (c : UInt8) (h : l[k]? = some c) (hk : k < (str l).size) : (str l)[k] = c := by
  obtain ⟨h1, h2⟩ := List.getElem?_eq_some_iff.1 h
  exact h2
theorem str_dropF (l : List UInt8) (k : Nat) : (str l).extract k (str l).size = str (l.drop k) := by
  apply ByteArray.ext
  apply Array.ext'
  rw [ByteArray.data_extract, Array.toList_extract, List.extract_eq_take_drop]
  show ((l.drop k).take (l.length - k)) = l.drop k
  exact List.take_of_length_le (by rw [List.length_drop]; omega)
theorem str_takeF (l : List UInt8) (k : Nat) : (str l).extract 0 k = str (l.take k) := by
  apply ByteArray.ext
  apply Array.ext'
  rw [ByteArray.data_extract, Array.toList_extract, List.extract_eq_take_drop]
  simp [str]
theorem str_midF (l : List UInt8) (i j : Nat) : (str l).extract i j = str ((l.drop i).take (j - i)) := by
  apply ByteArray.ext
  apply Array.ext'
  rw [ByteArray.data_extract, Array.toList_extract, List.extract_eq_take_drop]
  rfl

theorem isSmall_any (c : UInt8) (w : World) : Calls Tryz.prog 41 #[.int .u8 c.toNat] w fun e w' => e = .returned (.bool (smallB c)) ∧ w = w' := by
  go_enter Tryz.func41, Tryz.ntmps41
  go_wp2
  all_goals go_ret
  all_goals refine ⟨ret_bool ?_, rfl⟩
  all_goals (unfold smallB; rw [Bool.eq_iff_iff]; simp; omega)
theorem isGreat_any (c : UInt8) (w : World) : Calls Tryz.prog 42 #[.int .u8 c.toNat] w fun e w' => e = .returned (.bool (greatB c)) ∧ w = w' := by
  go_enter Tryz.func42, Tryz.ntmps42
  go_wp2
  all_goals go_ret
  all_goals refine ⟨ret_bool ?_, rfl⟩
  all_goals (unfold greatB; rw [Bool.eq_iff_iff]; simp; omega)
theorem isDigit_any (c : UInt8) (w : World) : Calls Tryz.prog 126 #[.int .u8 c.toNat] w fun e w' => e = .returned (.bool (digitB c)) ∧ w = w' := by
  go_enter Tryz.func126, Tryz.ntmps126
  go_wp2
  all_goals go_ret
  all_goals refine ⟨ret_bool ?_, rfl⟩
  all_goals (unfold digitB; rw [Bool.eq_iff_iff]; simp; omega)

set_option maxHeartbeats 1000000 in
theorem pass_any (l : List UInt8) (h : l ≠ []) (w : World) : Calls Tryz.prog 135 #[.string (str l)] w fun e w' => e = .returned (.tuple #[.int .i64 ((passF l).1 : Int), .int .i64 (passF l).2]) ∧ w = w' := by
  obtain ⟨z, hz⟩ : ∃ z, str l = z := ⟨_, rfl⟩
  rw [hz]
  match l, h with
  | [c], _ =>
    have hs : z.size = 1 := by rw [← hz]; rfl
    have g0 : ∀ h : 0 < z.size, z[0] = c := fun h => by subst hz; exact str_getF _ 0 c rfl h
    have g0' := g0 (by omega)
    clear hz g0
    by_cases h1 : c.toNat = 125
    · have e : passF [c] = (1, -1) := by simp [passF, h1]
      rw [e]
      go_enter Tryz.func135, Tryz.ntmps135
      go_wp2
      all_goals go_ret2
      all_goals exact ⟨rfl, rfl⟩
    · have e : passF [c] = (1, 0) := by simp [passF, h1]
      rw [e]
      go_enter Tryz.func135, Tryz.ntmps135
      go_wp2
      all_goals go_ret2
      all_goals exact ⟨rfl, rfl⟩
  | c :: d :: r, _ =>
    have hs : z.size = r.length + 2 := by rw [← hz]; rfl
    have g0 : ∀ h : 0 < z.size, z[0] = c := fun h => by subst hz; exact str_getF _ 0 c rfl h
    have g1 : ∀ h : 1 < z.size, z[1] = d := fun h => by subst hz; exact str_getF _ 1 d rfl h
    have hs1 : 1 < z.size := by omega
    have hs0 : 0 < z.size := by omega
    have g0' := g0 hs0
    have g1' := g1 hs1
    have hs2 : ¬ (z.size : Int) = 1 := by omega
    clear hz g0 g1
    by_cases h1 : c.toNat = 125
    · have e : passF (c :: d :: r) = (1, -1) := by simp [passF, h1]
      rw [e]
      clear e hs
      go_enter Tryz.func135, Tryz.ntmps135
      go_wp2
      all_goals go_ret2
      all_goals exact ⟨rfl, rfl⟩
    by_cases h2 : c.toNat = 35
    · by_cases h3 : d.toNat = 123
      · have e : passF (c :: d :: r) = (2, 1) := by simp [passF, h2, h3]
        rw [e]
        clear e hs
        go_enter Tryz.func135, Tryz.ntmps135
        go_wp2
        all_goals go_ret2
        all_goals exact ⟨rfl, rfl⟩
      · by_cases h4 : d.toNat = 35 ∨ d.toNat = 44 ∨ d.toNat = 125
        · have e : passF (c :: d :: r) = (2, 0) := by simp [passF, h2, h3, h4]
          rw [e]
          clear e hs
          go_enter Tryz.func135, Tryz.ntmps135
          rcases h4 with h4 | h4 | h4
          all_goals (
            go_wp2
            all_goals go_ret2
            all_goals exact ⟨rfl, rfl⟩)
        · have e : passF (c :: d :: r) = (1, 0) := by simp [passF, h2, h3, h4]
          rw [e]
          obtain ⟨k1, k2⟩ := not_or.1 h4
          obtain ⟨k2, k3⟩ := not_or.1 k2
          clear e hs h4
          go_enter Tryz.func135, Tryz.ntmps135
          go_wp2
          all_goals go_ret2
          all_goals exact ⟨rfl, rfl⟩
    · have e : passF (c :: d :: r) = (1, 0) := by simp [passF, h1, h2]
      rw [e]
      clear e hs
      go_enter Tryz.func135, Tryz.ntmps135
      go_wp2
      all_goals go_ret2
      all_goals exact ⟨rfl, rfl⟩

set_option maxHeartbeats 1000000 in
/-- A place's end. -/
theorem ins_any (l : List UInt8) (hl : l.length ≤ 2147483647) (w : World) : Calls Tryz.prog 109 #[.string (str l)] w fun e w' => e = .returned (.tuple #[.int .i64 (((insideF l).getD 0 : Nat) : Int), .bool (insideF l).isSome]) ∧ w = w' := by
  have HP : Hid (∀ l W, l ≠ [] → Calls Tryz.prog 135 #[.string (str l)] W fun e w' => e = .returned (.tuple #[.int .i64 ((passF l).1 : Int), .int .i64 (passF l).2]) ∧ W = w') := fun l W h => pass_any l h W
  have HD : Hid (∀ k, (str l).extract k (str l).size = str (l.drop k)) := str_dropF l
  obtain ⟨z, hz⟩ : ∃ z, str l = z := ⟨_, rfl⟩
  have hs : z.size = l.length := by rw [← hz]; rfl
  obtain ⟨R, hR⟩ : ∃ R, insideF l = R := ⟨_, rfl⟩
  have HR : Hid (insG l.length l 1 0 = R) := hR
  rw [hz, hR]
  rw [hz] at HD
  obtain ⟨n, hn⟩ : ∃ n, l.length = n := ⟨_, rfl⟩
  rw [hn] at hs hl HR
  have HN : Hid (l.length = n) := hn
  clear hz hR hn
  go_enter Tryz.func109, Tryz.ntmps109
  go_wp2_with fail
  go_loopw [4, 5] (fun s4 s5 wx => ∃ (k : Nat) (o : Int), k ≤ n ∧ s5 = .int .i64 (k : Int) ∧ s4 = .int .i64 o ∧ -(k : Int) ≤ o ∧ o ≤ (k : Int) + 1 ∧ (∃ f, Hid (n - k ≤ f ∧ insG f (l.drop k) o k = R)) ∧ wx = w) (fun _ v _ => n - (intOf v).toNat)
  case atStart => exact ⟨0, 1, Nat.zero_le _, rfl, rfl, by omega, by omega, ⟨n, Nat.le_refl _, HR.out⟩, rfl⟩
  case round =>
    obtain ⟨k, o, hk, rfl, rfl, ho1, ho2, ⟨f, hf⟩, hwx⟩ := hrel
    subst hwx
    by_cases hkn : k < n
    · have hne : l.drop k ≠ [] := fun e => by
        have := congrArg List.length e
        rw [List.length_drop, HN.out] at this
        simp at this
        omega
      obtain ⟨f1, hf1⟩ := hf.out
      obtain ⟨f', rfl⟩ : ∃ f', f = f' + 1 := ⟨f - 1, by omega⟩
      have hp := pass_le hne
      have hp1 := pass_pos (l.drop k)
      have hp2 := pass_small (l.drop k)
      rw [List.length_drop, HN.out] at hp
      have HPk := hidK (HP.out (l.drop k) wr hne)
      have HDk := hidK (HD.out k)
      rw [hs] at HDk
      have HF := hidK hf1
      unfold insG at HF
      rw [if_neg hne, List.drop_drop] at HF
      obtain ⟨⟨a, b⟩, hab⟩ : ∃ p, passF (l.drop k) = p := ⟨_, rfl⟩
      rw [hab] at HPk HF hp hp1 hp2
      simp only at hp hp1 hp2 HPk HF
      obtain ⟨hp2, hp3⟩ := hp2
      obtain ⟨y, hy⟩ : ∃ y, str (l.drop k) = y := ⟨_, rfl⟩
      rw [hy] at HPk HDk
      clear hf hab hy hne hf1
      by_cases h0 : o + b = 0
      · rw [if_pos h0] at HF
        obtain rfl := HF.out.symm
        clear HF
        go_wp2_with fail
        rw [HDk.out]
        refine HPk.out.mono ?_
        rintro x w1 ⟨rfl, rfl⟩
        go_wp2_with fail
        all_goals go_ret2
        all_goals exact ⟨rfl, rfl⟩
      · rw [if_neg h0] at HF
        go_wp2_with fail
        rw [HDk.out]
        refine HPk.out.mono ?_
        rintro x w1 ⟨rfl, rfl⟩
        go_wp2_with fail
        go_roundw
        case rel => exact ⟨k + a, o + b, by omega, by go_num, by go_num, by omega, by omega, ⟨f', by omega, HF.out⟩, by first | rfl | trivial⟩
        case measure => simp [intOf]; omega
    · obtain rfl : k = n := by omega
      have hR : R = none := by
        rw [← hf.out.2]
        cases f with
        | zero => rfl
        | succ f => unfold insG; rw [if_pos (List.drop_eq_nil_of_le (by rw [HN.out]; exact Nat.le_refl _))]
      subst hR
      go_wp2_with fail
      all_goals go_ret2
      all_goals exact ⟨rfl, rfl⟩

end Go.Proofs.YtlfcjcaofhcfnaaGreatDoor
