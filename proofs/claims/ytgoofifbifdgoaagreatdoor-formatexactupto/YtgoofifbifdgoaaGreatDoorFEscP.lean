/-
  Formats: a text with a number sign ahead of some bytes says itself.
-/
import Derived.Test.YtgoofifbifdgoaaGreatDoorFPure
namespace Go.Proofs.YtgoofifbifdgoaaGreatDoor
set_option linter.unusedVariables false

def escQ (q : UInt8 → Bool) : List UInt8 → List UInt8
  | [] => []
  | c :: r => if q c then 35 :: c :: escQ q r else c :: escQ q r
def sharpB (c : UInt8) : Bool := decide (c.toNat = 35)
def threeB (c : UInt8) : Bool := decide (c.toNat = 35 ∨ c.toNat = 44 ∨ c.toNat = 125)
structure MarkOk (q : UInt8 → Bool) : Prop where
  few : ∀ c, q c = true → c.toNat = 35 ∨ c.toNat = 44 ∨ c.toNat = 125
  sharp : ∀ c, c.toNat = 35 → q c = true
theorem sharp_ok : MarkOk sharpB := ⟨fun c h => .inl (of_decide_eq_true h), fun c h => decide_eq_true h⟩
theorem three_ok : MarkOk threeB := ⟨fun c h => of_decide_eq_true h, fun c h => decide_eq_true (.inl h)⟩
theorem esc_len (q : UInt8 → Bool) (l : List UInt8) : l.length ≤ (escQ q l).length ∧ (escQ q l).length ≤ 2 * l.length := by
  induction l with
  | nil => exact ⟨Nat.le_refl _, Nat.le_refl _⟩
  | cons c r ih =>
    simp only [escQ]
    split <;> simp only [List.length_cons] <;> omega
/-- The plain bytes at the beginning. -/
theorem esc_plain (q : UInt8 → Bool) (hq : MarkOk q) : ∀ (l : List UInt8), ∃ x y, l = x ++ y ∧ escQ q l = x ++ escQ q y ∧ plainF (escQ q l) = x.length ∧ (y = [] ∨ ∃ c r, y = c :: r ∧ q c = true)
  | [] => ⟨[], [], rfl, rfl, rfl, .inl rfl⟩
  | c :: r => by
    cases h : q c with
    | true =>
      refine ⟨[], c :: r, rfl, rfl, ?_, .inr ⟨c, r, rfl, h⟩⟩
      simp only [escQ, h, if_true]
      rfl
    | false =>
      obtain ⟨x, y, h1, h2, h3, h4⟩ := esc_plain q hq r
      have hc : ¬ c.toNat = 35 := fun h5 => by rw [hq.sharp c h5] at h; cases h
      have he : escQ q (c :: r) = c :: escQ q r := by simp [escQ, h]
      refine ⟨c :: x, y, by rw [h1]; rfl, by rw [he, h2]; rfl, ?_, h4⟩
      rw [he]
      unfold plainF at h3 ⊢
      rw [List.takeWhile_cons, decide_eq_true hc, if_pos rfl, List.length_cons, List.length_cons, h3]
theorem loop_nil (pl : List UInt8 → Res) (vs : Vars) (f : Nat) (said : List UInt8) : loopF pl vs f [] said = some (.ok said) := by cases f <;> rfl
theorem say_esc (q : UInt8 → Bool) (hq : MarkOk q) (pl : List UInt8 → Res) (vs : Vars) : ∀ (N : Nat) (text said : List UInt8) (f : Nat), text.length ≤ N → (escQ q text).length ≤ f → said.length ≤ 1024 →
    loopF pl vs f (escQ q text) said = if 1024 < said.length + text.length then some (.error 2) else some (.ok (said ++ text))
  | N, [], said, f, hN, hf, hs => by
    rw [if_neg (by simp; omega), List.append_nil]
    exact loop_nil pl vs f said
  | 0, c :: r, said, f, hN, hf, hs => by simp at hN
  | N + 1, c :: r, said, f, hN, hf, hs => by
    simp only [List.length_cons] at hN
    have hlen := esc_len q (c :: r)
    rw [List.length_cons] at hlen
    obtain ⟨f', rfl⟩ : ∃ f', f = f' + 1 := ⟨f - 1, by omega⟩
    have hne : escQ q (c :: r) ≠ [] := fun h => by rw [h] at hlen; simp at hlen
    cases hc : q c with
    | true =>
      have he : escQ q (c :: r) = 35 :: c :: escQ q r := by simp [escQ, hc]
      have hp : plainF (35 :: c :: escQ q r) = 0 := rfl
      have hn : saidF pl vs (35 :: c :: escQ q r) = some (.ok ([c], 2)) := by
        unfold saidF nextF
        rw [hp]
        simp only [Nat.lt_irrefl, if_false]
        rw [if_pos (hq.few c hc)]
      rw [he] at hf
      simp only [List.length_cons] at hf
      rw [he]
      unfold loopF
      rw [if_neg (by simp), hn]
      simp only [List.length_cons, List.length_nil]
      by_cases h1 : 1024 < said.length + (0 + 1)
      · rw [if_pos h1, if_pos (by omega)]
      · rw [if_neg h1]
        have ih := say_esc q hq pl vs N r (said ++ [c]) f' (by omega) (by omega) (by rw [List.length_append]; simp; omega)
        show loopF pl vs f' (escQ q r) (said ++ [c]) = _
        rw [ih, List.length_append, List.append_assoc]
        simp only [List.length_cons, List.length_nil, List.cons_append, List.nil_append]
        congr 1
        exact propext ⟨fun h => by omega, fun h => by omega⟩
    | false =>
      obtain ⟨x, y, h1, h2, h3, h4⟩ := esc_plain q hq (c :: r)
      have hx : 0 < x.length := by
        cases x with
        | nil =>
          exfalso
          rw [List.nil_append] at h1
          rcases h4 with rfl | ⟨d, r', rfl, hd⟩
          · cases h1
          · cases h1
            rw [hc] at hd
            cases hd
        | cons d x => exact Nat.succ_pos _
      have hn : saidF pl vs (escQ q (c :: r)) = some (.ok (x, x.length)) := by
        unfold saidF nextF
        rw [h3, if_pos hx]
        simp only
        rw [h2, List.take_left']
        rfl
      have hl : (c :: r).length = x.length + y.length := by rw [h1, List.length_append]
      rw [h2, List.length_append] at hf
      unfold loopF
      rw [if_neg hne, hn]
      simp only
      by_cases h5 : 1024 < said.length + x.length
      · rw [if_pos h5, if_pos (by omega)]
      · rw [if_neg h5]
        have ih := say_esc q hq pl vs N y (said ++ x) f' (by rw [List.length_cons] at hl; omega) (by omega) (by rw [List.length_append]; omega)
        have hd : (escQ q (c :: r)).drop x.length = escQ q y := by rw [h2, List.drop_left']; rfl
        rw [hd, ih, List.length_append, List.append_assoc, h1, List.length_append, Nat.add_assoc]
theorem say_itself (q : UInt8 → Bool) (hq : MarkOk q) (vs : Vars) (r : Nat) (text : List UInt8) : sayF vs r (escQ q text) = if 1024 < text.length then some (.error 2) else some (.ok text) := by
  cases r with
  | zero =>
    have h := say_esc q hq (fun _ => some (.error 101)) vs text.length text [] (escQ q text).length (Nat.le_refl _) (Nat.le_refl _) (by simp)
    rw [List.length_nil, Nat.zero_add, List.nil_append] at h
    exact h
  | succ r =>
    have h := say_esc q hq (placeF (sayF vs r) vs) vs text.length text [] (escQ q text).length (Nat.le_refl _) (Nat.le_refl _) (by simp)
    rw [List.length_nil, Nat.zero_add, List.nil_append] at h
    exact h
end Go.Proofs.YtgoofifbifdgoaaGreatDoor
