/-
  Plain facts on bytes and their escapes (lists alone), and on rows of bytes that a call owns: nothing of the dump.
-/
import Derived.WalkKit
import Derived.Lib.Bytealg
namespace Go.Proofs.YtgdkpmfdpfjdjaaGreatDoor
open Go.RowKit
set_option linter.unusedVariables false

/-- A byte that is escaped. -/
def mustB (c : UInt8) : Bool := decide (c.toNat < 32 ∨ c.toNat = 92)
theorem of_must {c : UInt8} (h : mustB c = true) : c.toNat < 32 ∨ c.toNat = 92 := of_decide_eq_true h
theorem of_not_must {c : UInt8} (h : mustB c = false) : ¬ (c.toNat < 32 ∨ c.toNat = 92) := of_decide_eq_false h

/-- The three digits of a byte. -/
def d1 (b : UInt8) : UInt8 := UInt8.ofNat (48 + b.toNat / 64)
def d2 (b : UInt8) : UInt8 := UInt8.ofNat (48 + b.toNat / 8 % 8)
def d3 (b : UInt8) : UInt8 := UInt8.ofNat (48 + b.toNat % 8)
theorem d1_nat (b : UInt8) : (d1 b).toNat = 48 + b.toNat / 64 := by
  have := UInt8.toNat_lt b
  unfold d1; rw [UInt8.toNat_ofNat']; omega
theorem d2_nat (b : UInt8) : (d2 b).toNat = 48 + b.toNat / 8 % 8 := by
  have := UInt8.toNat_lt b
  unfold d2; rw [UInt8.toNat_ofNat']; omega
theorem d3_nat (b : UInt8) : (d3 b).toNat = 48 + b.toNat % 8 := by
  have := UInt8.toNat_lt b
  unfold d3; rw [UInt8.toNat_ofNat']; omega

/-- How a byte is written in a code, a text escaped, a body escaped. -/
def code (b : UInt8) : List UInt8 := [92, d1 b, d2 b, d3 b]
def esc1 (b : UInt8) : List UInt8 := if mustB b then code b else [b]
def esc (l : List UInt8) : List UInt8 := l.flatMap esc1
def escB : List UInt8 → List UInt8
  | [] => []
  | c :: l => if c = 37 then code 37 ++ esc l else esc (c :: l)

theorem esc_nil : esc [] = [] := rfl
theorem esc_cons (c : UInt8) (l : List UInt8) : esc (c :: l) = esc1 c ++ esc l := rfl
theorem esc_append (a b : List UInt8) : esc (a ++ b) = esc a ++ esc b := List.flatMap_append
theorem esc_snoc (l : List UInt8) (c : UInt8) : esc (l ++ [c]) = esc l ++ esc1 c := by rw [esc_append, esc_cons, esc_nil, List.append_nil]
theorem esc1_must {c : UInt8} (h : mustB c = true) : esc1 c = code c := by unfold esc1; rw [if_pos h]
theorem esc1_not {c : UInt8} (h : mustB c = false) : esc1 c = [c] := by unfold esc1; rw [h]; rfl
theorem code_length (c : UInt8) : (code c).length = 4 := rfl
theorem esc1_length (c : UInt8) : 1 ≤ (esc1 c).length ∧ (esc1 c).length ≤ 4 := by unfold esc1; split <;> simp [code]
theorem esc_length (l : List UInt8) : l.length ≤ (esc l).length ∧ (esc l).length ≤ 4 * l.length := by
  induction l with
  | nil => simp [esc_nil]
  | cons c l ih => have := esc1_length c; rw [esc_cons, List.length_append, List.length_cons]; omega
theorem esc_take (l : List UInt8) (k : Nat) : (esc (l.take k)).length ≤ (esc l).length := by
  have h := esc_append (l.take k) (l.drop k)
  rw [List.take_append_drop] at h
  rw [h, List.length_append]; omega
theorem escB_length (l : List UInt8) : (escB l).length ≤ 4 * l.length := by
  cases l with
  | nil => simp [escB]
  | cons c l =>
    show (if c = 37 then code 37 ++ esc l else esc (c :: l)).length ≤ _
    split
    · have := esc_length l; rw [List.length_append, code_length, List.length_cons]; omega
    · exact (esc_length (c :: l)).2

theorem take_snoc (s : ByteArray) (k : Nat) (h : k < s.size) : s.data.toList.take (k + 1) = s.data.toList.take k ++ [s[k]] := by
  rw [List.take_succ_eq_append_getElem (by simpa using h)]; rfl
theorem take_all (s : ByteArray) : s.data.toList.take s.size = s.data.toList := List.take_of_length_le (by simp)
theorem size_data (s : ByteArray) : s.data.toList.length = s.size := by simp

theorem code_inj {c d : UInt8} (h : code c = code d) : c = d := by
  unfold code at h
  simp only [List.cons.injEq] at h
  obtain ⟨_, h1, h2, h3, _⟩ := h
  have e1 := congrArg UInt8.toNat h1
  have e2 := congrArg UInt8.toNat h2
  have e3 := congrArg UInt8.toNat h3
  rw [d1_nat, d1_nat] at e1
  rw [d2_nat, d2_nat] at e2
  rw [d3_nat, d3_nat] at e3
  apply UInt8.toNat_inj.1
  omega
theorem must92 : mustB 92 = true := by decide
theorem not37 : mustB 37 = false := by decide

/-- No byte's text begins another's. -/
theorem esc1_free {c d : UInt8} {x y : List UInt8} (h : esc1 c ++ x = esc1 d ++ y) : c = d ∧ x = y := by
  cases hc : mustB c <;> cases hd : mustB d
  · rw [esc1_not hc, esc1_not hd] at h
    simpa using h
  · rw [esc1_not hc, esc1_must hd] at h
    simp [code] at h
    rw [h.1, must92] at hc
    cases hc
  · rw [esc1_must hc, esc1_not hd] at h
    simp [code] at h
    rw [← h.1, must92] at hd
    cases hd
  · rw [esc1_must hc, esc1_must hd] at h
    have h4 := List.append_inj h rfl
    exact ⟨code_inj h4.1, h4.2⟩

theorem esc_split : ∀ (out t rest : List UInt8), esc t = esc out ++ rest → ∃ t', t = out ++ t' ∧ esc t' = rest
  | [], t, rest, h => ⟨t, rfl, h⟩
  | c :: out, t, rest, h => by
    cases t with
    | nil =>
      have := congrArg List.length h
      have h1 := esc1_length c
      rw [esc_cons, List.length_append, List.length_append, esc_nil] at this
      simp at this
      omega
    | cons d t =>
      rw [esc_cons, esc_cons, List.append_assoc] at h
      obtain ⟨rfl, h2⟩ := esc1_free h
      obtain ⟨t', rfl, h4⟩ := esc_split out t rest h2
      exact ⟨t', rfl, h4⟩

theorem esc_inj {a b : List UInt8} (h : esc a = esc b) : a = b := by
  obtain ⟨t', rfl, h2⟩ := esc_split b a [] (by simpa using h)
  cases t' with
  | nil => simp
  | cons c t =>
    have := congrArg List.length h2
    have h1 := esc1_length c
    rw [esc_cons, List.length_append, List.length_nil] at this
    omega

theorem esc_ne_code37 (t x : List UInt8) : esc t ≠ code 37 ++ x := by
  intro h
  cases t with
  | nil => cases h
  | cons c t =>
    rw [esc_cons] at h
    cases hc : mustB c
    · rw [esc1_not hc] at h
      simp [code] at h
      rw [h.1, must92] at hc
      cases hc
    · rw [esc1_must hc] at h
      have := code_inj (List.append_inj h rfl).1
      rw [this, not37] at hc
      cases hc

theorem escB_inj {a b : List UInt8} (h : escB a = escB b) : a = b := by
  have key : ∀ l : List UInt8, (∃ r, l = 37 :: r ∧ escB l = code 37 ++ esc r) ∨ escB l = esc l := by
    intro l
    cases l with
    | nil => exact .inr rfl
    | cons c r =>
      by_cases hc : c = 37
      · subst hc; exact .inl ⟨r, rfl, rfl⟩
      · refine .inr ?_
        show (if c = 37 then _ else _) = _
        rw [if_neg hc]
  rcases key a with ⟨r, rfl, e1⟩ | e1 <;> rcases key b with ⟨q, rfl, e2⟩ | e2
  · rw [e1, e2] at h
    rw [esc_inj (List.append_cancel_left h)]
  · rw [e1, e2] at h
    exact absurd h.symm (esc_ne_code37 _ _)
  · rw [e1, e2] at h
    exact absurd h (esc_ne_code37 _ _)
  · rw [e1, e2] at h
    exact esc_inj h

/-- How many bytes are escaped. -/
def musts (l : List UInt8) : Nat := (l.filter mustB).length
theorem musts_le (l : List UInt8) : musts l ≤ l.length := List.length_filter_le _ _
theorem musts_snoc (l : List UInt8) (c : UInt8) : musts (l ++ [c]) = musts l + if mustB c then 1 else 0 := by
  unfold musts
  rw [List.filter_append, List.length_append]
  cases h : mustB c <;> simp [h]
theorem esc_count (l : List UInt8) : (esc l).length = l.length + 3 * musts l := by
  induction l with
  | nil => rfl
  | cons c l ih =>
    rw [esc_cons, List.length_append, ih]
    cases h : mustB c
    · rw [esc1_not h]; simp [musts, h]; omega
    · rw [esc1_must h]; simp [musts, h, code]; omega
theorem esc_high (l : List UInt8) : ∀ c ∈ esc l, 32 ≤ c.toNat := by
  intro c hc
  unfold esc at hc
  obtain ⟨b, _, hb⟩ := List.mem_flatMap.1 hc
  cases h : mustB b
  · rw [esc1_not h] at hb
    have := of_not_must h
    simp at hb
    subst hb
    omega
  · rw [esc1_must h] at hb
    simp [code] at hb
    rcases hb with rfl | rfl | rfl | rfl
    · decide
    · rw [d1_nat]; omega
    · rw [d2_nat]; omega
    · rw [d3_nat]; omega

/-- A byte as a value. -/
def bv (c : UInt8) : Value := .int .u8 (c.toNat : Int)

/-- The slice v owns the bytes l, in blocks from B on. -/
def Owns (w : World) (B : Nat) (v : Value) (l : List UInt8) : Prop := w.ownsRow B 5 1 v l.length (l.map bv)

theorem Owns.nil (w : World) (B : Nat) : Owns w B (.slice none 0 0) [] := World.ownsRow_nil w B 5 1
theorem Owns.below {w w' : World} {B : Nat} {v : Value} {l : List UInt8} (h : Owns w B v l) (hb : Below w.heap.size w w') : Owns w' B v l :=
  World.ownsRow.kept (row := none) h ⟨hb.os, hb.tape, hb.output, hb.size, fun k hk _ => hb.block k hk⟩ (by cases v.ownBlock <;> simp)
theorem Owns.alloc {w : World} {B : Nat} {v : Value} {l : List UInt8} (h : Owns w B v l) (o : Obj) : Owns (w.alloc o) B v l := World.ownsRow.alloc h o
theorem Owns.base {w : World} {B : Nat} {v : Value} {l : List UInt8} (h : Owns w B v l) : ∀ k, v.ownBlock = some k → B ≤ k := fun k hk => (World.ownsRow.lt h k hk).1
theorem Owns.mk {w : World} {B : Nat} {v : Value} {l : List UInt8} {n : Nat} {xs : List Value} (h : w.ownsRow B 5 1 v n xs) (hn : n = l.length) (hx : xs = l.map bv) : Owns w B v l := by
  subst hn; subst hx; exact h

/-- A new row. -/
theorem Owns.made (w : World) (B : Nat) (l : List UInt8) (hB : B ≤ w.heap.size) (hl : l.length ≤ maxLen) : Owns (w.alloc (.cells (l.map bv).toArray 5)) B (.slice (some ⟨w.heap.size, 0, none⟩) l.length l.length) l :=
  ⟨by simp, .inr ⟨w.heap.size, l.length, _, rfl, hB, heap_alloc_new w _, Nat.le_refl _, hl, by simp, by simp [List.take_of_length_le]⟩⟩

/-- A list of bytes as a text. -/
def str (l : List UInt8) : ByteArray := ⟨l.toArray⟩
theorem str_data (l : List UInt8) : (str l).data.toList = l := rfl
theorem data_str (s : ByteArray) : str s.data.toList = s := rfl
theorem str_toList (l : List UInt8) : (str l).toList = l := by rw [Lib.toList_data]; rfl
theorem str_size (l : List UInt8) : (str l).size = l.length := rfl

theorem Owns.as {w : World} {B : Nat} {v : Value} {l r : List UInt8} (h : Owns w B v l) (e : l = r) : Owns w B v r := e ▸ h
/-- What is owned is read as a string. -/
theorem Owns.text {P : Program} {w : World} {B : Nat} {v : Value} {l : List UInt8} (h : Owns w B v l) (src dst e : TypeId) (hs : P.underlying src = some (.slice e)) (he : P.underlying e = some (.int .u8)) (hd : P.underlying dst = some .string) :
    (convert src dst v).run P w = .ok (.string (str l)) w := by
  rcases h.2 with ⟨rfl, h0⟩ | ⟨g, cap, cur, rfl, hb, hg, h1, h2, h3, h4⟩
  · have : l = [] := List.length_eq_zero_iff.1 h0
    subst this
    rw [run_convert_bytes_string w src dst e none 0 0 hs he hd]
    rfl
  · refine run_convert_bytes_back w src dst e ⟨g, 0, none⟩ cap l hs he hd fun j hj => ?_
    refine World.ownsRow.cells h (g := g) rfl j _ ?_
    rw [List.getElem?_map, List.getElem?_eq_getElem hj]
    rfl

theorem one_cell (w : World) (c : UInt8) (t : TypeId) : ∀ j (hj : j < [c].length), (w.alloc (.cells #[.int .u8 c.toNat] t)).cell? ((⟨w.heap.size, 0, none⟩ : Addr).add j) = some (bv [c][j]) := by
  intro j hj
  rw [show (⟨w.heap.size, 0, none⟩ : Addr).add j = ⟨w.heap.size, j, none⟩ by unfold Addr.add; split <;> simp_all, World.cell?_alloc_mark]
  match j, hj with
  | 0, _ => rfl

/-- Bytes appended to what is owned. -/
theorem wpList_append_bytes {P : Program} (w : World) {ops : Array Oper} {rest : List Oper} {o : Oper} {a : Act} {Q : Exit → Act → World → Prop} (hgd : o.guard = none) (s x : Operand) (t : TypeId)
    (ho : o.op = .call { callee := .builtin .append, args := #[s, x], argTypes := #[t, t] }) (ht : P.underlying t = some (.slice 5))
    (hinfo : (P.info? 5).map (fun i => (i.zero, i.size, i.bytes)) = some (some (.int .u8 0), 1, 1))
    (B : Nat) (v : Value) (l : List UInt8) (hs : a.eval s = v) (hown : Owns w B v l)
    (ad : Addr) (m c : Nat) (news : List UInt8) (hx : a.eval x = .slice (some ad) m c) (hm : news.length = m) (hnews : ∀ j (hj : j < news.length), w.cell? (ad.add j) = some (bv news[j]))
    (hlen : l.length + m ≤ 140737488355328) (hbase : B ≤ w.heap.size)
    (h : ∀ v' w', Owns w' B v' (l ++ news) → Below B w w' → wpList P ops Q rest (a.put o.dst v') w') : wpList P ops Q (o :: rest) a w := by
  obtain ⟨i0, hi, hz0, hz1, hz2⟩ := info_parts hinfo
  refine wpList_append_own w hgd s x t ho B 5 i0 (.int .u8 0) 1 1 ht hi hz0 hz1 hz2 rfl (by decide) v l.length (l.map bv) hs hown ad m c (news.map bv) hx (by simp [hm]) ?_ ?_ (by unfold maxLen; omega) (by omega) hbase ?_
  · intro j u hu
    rw [List.getElem?_map] at hu
    obtain ⟨b, hb, rfl⟩ := Option.map_eq_some_iff.1 hu
    obtain ⟨hj, rfl⟩ := List.getElem?_eq_some_iff.1 hb
    exact hnews j hj
  · intro u hu
    obtain ⟨b, _, rfl⟩ := List.mem_map.1 hu
    rfl
  · intro v' w' h2 h3 _
    refine h v' w' (Owns.mk h2 (by simp [hm]) (by simp)) ?_
    exact (Below.refl B w).grown h3 hbase (fun k hk => hown.base k hk)

theorem hid_ex {α : Type} (a : α) : ∃ r, Hid (a = r) := ⟨a, (rfl : a = a)⟩
theorem ret_bool {a b : Bool} (h : a = b) : Ending.returned (.bool a) = .returned (.bool b) := by rw [h]
theorem ret_str {a b : ByteArray} (h : a = b) : Ending.returned (.string a) = .returned (.string b) := by rw [h]

theorem bcell {W w1 : World} (hb : Below W.heap.size W w1) : (∀ b o, b < W.heap.size → w1.cell? ⟨b, o, none⟩ = W.cell? ⟨b, o, none⟩) ∧ (∀ b o, b < W.heap.size → w1.frozen? ⟨b, o, none⟩ = W.frozen? ⟨b, o, none⟩) :=
  ⟨fun b o h => hb.cell (p := ⟨b, o, none⟩) h, fun b o h => hb.frozen (p := ⟨b, o, none⟩) h⟩

end Go.Proofs.YtgdkpmfdpfjdjaaGreatDoor
