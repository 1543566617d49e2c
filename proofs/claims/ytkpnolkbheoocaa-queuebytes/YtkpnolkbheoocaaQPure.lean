/-
  The queue, without memory: what is in it, byte for byte; whose each byte is.
-/
import Derived.Test.YtkpnolkbheoocaaPlainN
namespace Go.Proofs.Ytkpnolkbheoocaa
set_option linter.unusedVariables false

/-- What a queue is: its limit, whether the last line has come, its bytes, whose each of them is (pane and tick; 0 and 0: nobody's). -/
structure Qs where
  lim : Nat
  cl : Bool
  bs : List UInt8
  os : List (Int × Int)
structure OwnOk (o : Int × Int) : Prop where
  p0 : 0 ≤ o.1
  p1 : o.1 ≤ 4611686018427387904
  t0 : 0 ≤ o.2
  t1 : o.2 ≤ 9223372036854775807
  nobody : o.1 = 0 → o.2 = 0
structure Qs.Ok (q : Qs) : Prop where
  lim : q.lim ≤ 65536
  len : q.os.length = q.bs.length
  most : q.bs.length ≤ q.lim + 32768 + (if q.cl then 8193 else 0)
  own : ∀ o ∈ q.os, OwnOk o
theorem Qs.Ok.few {q : Qs} (h : q.Ok) : q.bs.length ≤ 106497 := by
  have h1 := h.lim
  have h2 := h.most
  split at h2 <;> omega

/-- A line; some lines; how many bytes they are; the bytes. -/
def lineB (l : List UInt8) : Bool := decide (l.length ≤ 8192 ∧ ∀ c ∈ l, c ≠ 10)
def linesB (ls : List (List UInt8)) : Bool := ls.all lineB
def sumF (ls : List (List UInt8)) : Nat := (ls.map fun l => l.length + 1).sum
def flatF (ls : List (List UInt8)) : List UInt8 := ls.flatMap fun l => l ++ [10]
theorem flat_len (ls : List (List UInt8)) : (flatF ls).length = sumF ls := by
  induction ls with
  | nil => rfl
  | cons l ls ih =>
    have h : flatF (l :: ls) = (l ++ [10]) ++ flatF ls := rfl
    rw [h, List.length_append, ih, List.length_append]
    simp [sumF]
theorem sum_snoc (ls : List (List UInt8)) (l : List UInt8) : sumF (ls ++ [l]) = sumF ls + (l.length + 1) := by simp [sumF]
theorem flat_snoc (ls : List (List UInt8)) (l : List UInt8) : flatF (ls ++ [l]) = flatF ls ++ (l ++ [10]) := by simp [flatF]
theorem sum_one (l : List UInt8) : sumF [l] = l.length + 1 := by simp [sumF]
theorem lines_one (l : List UInt8) : linesB [l] = lineB l := by simp [linesB]
theorem lines_snoc (ls : List (List UInt8)) (l : List UInt8) : linesB (ls ++ [l]) = (linesB ls && lineB l) := by simp [linesB]
theorem line_short {l : List UInt8} (h : lineB l = true) : l.length ≤ 8192 := (of_decide_eq_true h).1
theorem sum_short : ∀ {ls : List (List UInt8)}, linesB ls = true → sumF ls ≤ ls.length * 8193
  | [], _ => by simp [sumF]
  | l :: ls, h => by
    have h1 : lineB l = true ∧ linesB ls = true := by simpa [linesB] using h
    have h2 := sum_short h1.2
    have h3 := line_short h1.1
    simp only [sumF, List.map_cons, List.sum_cons, List.length_cons] at h2 ⊢
    omega
theorem sum_zero {ls : List (List UInt8)} (h : sumF ls = 0) : ls = [] := by
  cases ls with
  | nil => rfl
  | cons l ls => simp [sumF] at h
theorem sum_take (ls : List (List UInt8)) (k : Nat) : sumF (ls.take k) ≤ sumF ls := by
  have h : sumF (ls.take k) + sumF (ls.drop k) = sumF ls := by
    unfold sumF
    rw [← List.sum_append, ← List.map_append, List.take_append_drop]
  omega
theorem lines_get {ls : List (List UInt8)} (h : linesB ls = true) {i : Nat} {l : List UInt8} (hl : ls[i]? = some l) : lineB l = true := by
  unfold linesB at h
  rw [List.all_eq_true] at h
  exact h l (List.mem_of_getElem? hl)
theorem lines_false {ls : List (List UInt8)} {i : Nat} {l : List UInt8} (hl : ls[i]? = some l) (h : lineB l = false) : linesB ls = false := by
  unfold linesB
  rw [List.all_eq_false]
  exact ⟨l, List.mem_of_getElem? hl, by simp [h]⟩

/-- Lines laid in. -/
def layF (q : Qs) (o : Int × Int) (ls : List (List UInt8)) : Qs := ⟨q.lim, q.cl, q.bs ++ flatF ls, q.os ++ List.replicate (sumF ls) o⟩
def layE (q : Qs) (bound : Int) (E : Int) (ls : List (List UInt8)) : Int :=
  if linesB ls = false then 1 else if q.cl = true then 141 else if sumF ls = 0 then 0 else if (q.bs.length : Int) + (sumF ls : Int) > bound then E else 0
def layQ (q : Qs) (bound : Int) (E : Int) (o : Int × Int) (ls : List (List UInt8)) : Qs := if layE q bound E ls = 0 then layF q o ls else q
theorem lay_none (q : Qs) (o : Int × Int) {ls : List (List UInt8)} (h : sumF ls = 0) : layF q o ls = q := by
  rw [sum_zero h]
  simp [layF, flatF, sumF]
def putE (q : Qs) (ls : List (List UInt8)) : Int := layE q ((q.lim : Int) + 32768) 140 ls
def putQ (q : Qs) (ls : List (List UInt8)) : Qs := layQ q ((q.lim : Int) + 32768) 140 (0, 0) ls
def outE (q : Qs) (p t : Int) (ls : List (List UInt8)) : Int := if p < 1 ∨ p > 4611686018427387904 ∨ t < 0 then 1 else layE q (q.lim : Int) 3 ls
def outQ (q : Qs) (p t : Int) (ls : List (List UInt8)) : Qs := if p < 1 ∨ p > 4611686018427387904 ∨ t < 0 then q else layQ q (q.lim : Int) 3 (p, t) ls
def endE (q : Qs) (l : List UInt8) : Int := if lineB l = false then 1 else if q.cl = true then 141 else 0
def endQ (q : Qs) (l : List UInt8) : Qs := if endE q l = 0 then ⟨q.lim, true, q.bs ++ (l ++ [10]), q.os ++ List.replicate (l.length + 1) (0, 0)⟩ else q
def drainQ (q : Qs) (n : Nat) : Qs := ⟨q.lim, q.cl, q.bs.drop n, q.os.drop n⟩

theorem own_zero : OwnOk (0, 0) := ⟨by decide, by decide, by decide, by decide, fun _ => rfl⟩
theorem Qs.Ok.lay {q : Qs} (h : q.Ok) {o : Int × Int} (ho : OwnOk o) {ls : List (List UInt8)} {bound E : Int} (hE : E ≠ 0) (hb : bound ≤ (q.lim : Int) + 32768) : (layQ q bound E o ls).Ok := by
  unfold layQ
  by_cases hc : layE q bound E ls = 0
  · rw [if_pos hc]
    unfold layE at hc
    split at hc
    · cases hc
    split at hc
    · cases hc
    rename_i h2
    split at hc
    · rename_i h3
      rw [lay_none q o h3]
      exact h
    split at hc
    · exact absurd hc hE
    rename_i h4
    refine ⟨h.lim, ?_, ?_, ?_⟩
    · simp only [layF, List.length_append, List.length_replicate, flat_len, h.len]
    · simp only [layF, List.length_append, flat_len]
      omega
    · intro x hx
      rcases List.mem_append.1 hx with hx | hx
      · exact h.own x hx
      · rw [List.eq_of_mem_replicate hx]
        exact ho
  · rw [if_neg hc]
    exact h
theorem Qs.Ok.put {q : Qs} (h : q.Ok) (ls : List (List UInt8)) : (putQ q ls).Ok := h.lay own_zero (by decide) (Int.le_refl _)
theorem Qs.Ok.out {q : Qs} (h : q.Ok) (p t : Int) (ht : t ≤ 9223372036854775807) (ls : List (List UInt8)) : (outQ q p t ls).Ok := by
  unfold outQ
  split
  · exact h
  · rename_i hc
    exact h.lay ⟨by show 0 ≤ p; omega, by show p ≤ _; omega, by show 0 ≤ t; omega, ht, fun hh => by have : p = 0 := hh; omega⟩ (by decide) (by omega)
theorem Qs.Ok.ende {q : Qs} (h : q.Ok) (l : List UInt8) : (endQ q l).Ok := by
  unfold endQ
  by_cases hc : endE q l = 0
  · rw [if_pos hc]
    unfold endE at hc
    split at hc
    · cases hc
    rename_i h1
    split at hc
    · cases hc
    rename_i h2
    have h3 := line_short (l := l) (by cases hh : lineB l <;> simp_all)
    have h4 := h.most
    have h5 : q.cl = false := by cases hh : q.cl <;> simp_all
    rw [h5] at h4
    refine ⟨h.lim, ?_, ?_, ?_⟩
    · simp [h.len]
    · simp only [List.length_append, List.length_singleton]
      simp at h4 ⊢
      omega
    · intro x hx
      rcases List.mem_append.1 hx with hx | hx
      · exact h.own x hx
      · rw [List.eq_of_mem_replicate hx]
        exact own_zero
  · rw [if_neg hc]
    exact h
theorem Qs.Ok.drain {q : Qs} (h : q.Ok) (n : Nat) : (drainQ q n).Ok := by
  refine ⟨h.lim, ?_, ?_, fun x hx => h.own x (List.mem_of_mem_drop hx)⟩
  · simp [drainQ, h.len]
  · have := h.most
    have h2 : (drainQ q n).bs.length = q.bs.length - n := List.length_drop
    rw [h2]
    show _ ≤ q.lim + 32768 + (if q.cl then 8193 else 0)
    omega

/-- The tick of the first output of a pane that waits. -/
def oldF (os : List (Int × Int)) (x : Int) : Option Int := (os.find? fun o => decide (o.1 = x ∧ 0 < x)).map fun o => o.2
def oldV (os : List (Int × Int)) (x : Int) : Int × Bool := match oldF os x with | some t => (t, true) | none => (0, false)
/-- The panes of which output waits. -/
def waits (os : List (Int × Int)) (x : Int) : Prop := 0 < x ∧ ∃ o ∈ os, o.1 = x
def Rising (l : List Int) : Prop := l.Pairwise (· < ·)
theorem rising_eq : ∀ {a b : List Int}, Rising a → Rising b → (∀ x, x ∈ a ↔ x ∈ b) → a = b
  | [], [], _, _, _ => rfl
  | [], y :: b, _, _, h => by have := (h y).2 List.mem_cons_self; cases this
  | x :: a, [], _, _, h => by have := (h x).1 List.mem_cons_self; cases this
  | x :: a, y :: b, ha, hb, h => by
    have a1 := List.pairwise_cons.1 ha
    have b1 := List.pairwise_cons.1 hb
    have hxy : x = y := by
      rcases List.mem_cons.1 ((h x).1 List.mem_cons_self) with e | e
      · exact e
      · rcases List.mem_cons.1 ((h y).2 List.mem_cons_self) with e' | e'
        · exact e'.symm
        · have := b1.1 x e
          have := a1.1 y e'
          omega
    subst hxy
    congr 1
    refine rising_eq a1.2 b1.2 fun z => ⟨fun hz => ?_, fun hz => ?_⟩
    · rcases List.mem_cons.1 ((h z).1 (List.mem_cons_of_mem _ hz)) with e | e
      · subst e; have := a1.1 z hz; omega
      · exact e
    · rcases List.mem_cons.1 ((h z).2 (List.mem_cons_of_mem _ hz)) with e | e
      · subst e; have := b1.1 z hz; omega
      · exact e

/-- Stretches of bytes of one owner each: a list of owners with their sizes. -/
def spread {α : Type} (o : α → Int × Int) (n : α → Nat) (l : List α) : List (Int × Int) := l.flatMap fun x => List.replicate (n x) (o x)
theorem spread_cons {α : Type} (o : α → Int × Int) (n : α → Nat) (x : α) (l : List α) : spread o n (x :: l) = List.replicate (n x) (o x) ++ spread o n l := rfl
theorem spread_append {α : Type} (o : α → Int × Int) (n : α → Nat) (a b : List α) : spread o n (a ++ b) = spread o n a ++ spread o n b := List.flatMap_append
theorem spread_len {α : Type} (o : α → Int × Int) (n : α → Nat) (l : List α) : (spread o n l).length = (l.map n).sum := by
  induction l with
  | nil => rfl
  | cons x l ih => rw [spread_cons, List.length_append, ih, List.length_replicate]; simp
theorem spread_mem {α : Type} {o : α → Int × Int} {n : α → Nat} {l : List α} (hn : ∀ x ∈ l, 0 < n x) (y : Int × Int) : y ∈ spread o n l ↔ ∃ x ∈ l, o x = y := by
  unfold spread
  rw [List.mem_flatMap]
  constructor
  · rintro ⟨x, hx, hy⟩
    exact ⟨x, hx, (List.eq_of_mem_replicate hy).symm⟩
  · rintro ⟨x, hx, rfl⟩
    exact ⟨x, hx, List.mem_replicate.2 ⟨by have := hn x hx; omega, rfl⟩⟩
theorem spread_few {α : Type} {o : α → Int × Int} {n : α → Nat} {l : List α} (hn : ∀ x ∈ l, 0 < n x) : l.length ≤ (spread o n l).length := by
  induction l with
  | nil => exact Nat.le_refl _
  | cons x l ih =>
    have h1 := hn x List.mem_cons_self
    have h2 := ih fun y hy => hn y (List.mem_cons_of_mem _ hy)
    rw [spread_cons, List.length_append, List.length_replicate, List.length_cons]
    omega
theorem spread_old {α : Type} {o : α → Int × Int} {n : α → Nat} {l : List α} (hn : ∀ x ∈ l, 0 < n x) (p : Int) : oldF (spread o n l) p = (l.find? fun x => decide ((o x).1 = p ∧ 0 < p)).map fun x => (o x).2 := by
  unfold oldF
  induction l with
  | nil => rfl
  | cons x l ih =>
    have h1 := hn x List.mem_cons_self
    have h2 := ih fun y hy => hn y (List.mem_cons_of_mem _ hy)
    rw [spread_cons, List.find?_append, List.find?_cons]
    by_cases hp : (o x).1 = p ∧ 0 < p
    · obtain ⟨m, hm⟩ : ∃ m, n x = m + 1 := ⟨n x - 1, by omega⟩
      rw [hm, List.replicate_succ, List.find?_cons]
      simp [hp]
    · have h3 : List.find? (fun o => decide (o.1 = p ∧ 0 < p)) (List.replicate (n x) (o x)) = none := by
        rw [List.find?_eq_none]
        intro y hy
        rw [List.eq_of_mem_replicate hy]
        simpa using hp
      rw [h3]
      simp only [Option.none_or, h2, hp, decide_false]
theorem old_none {α : Type} {f : α → Bool} {l : List α} {i : Nat} (h : ∀ j, j < i → ∀ x, l[j]? = some x → f x = false) {x : α} (hx : l[i]? = some x) (hf : f x = true) : l.find? f = some x := by
  induction l generalizing i with
  | nil => simp at hx
  | cons y l ih =>
    cases i with
    | zero =>
      simp at hx
      subst hx
      simp [hf]
    | succ i =>
      have := h 0 (Nat.succ_pos _) y rfl
      rw [List.find?_cons, this]
      exact ih (fun j hj z hz => h (j + 1) (Nat.succ_lt_succ hj) z (by simpa using hz)) (by simpa using hx)

end Go.Proofs.Ytkpnolkbheoocaa
