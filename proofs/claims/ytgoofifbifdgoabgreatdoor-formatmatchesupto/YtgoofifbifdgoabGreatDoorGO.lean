/-
  Formats: a text with a number sign ahead of some bytes says itself.
  Formats: choices whose parts are written so that they say themselves; places one in another.
-/
import Derived.Test.YtgoofifbifdgoabGreatDoorGA
namespace Go.Proofs.YtgoofifbifdgoabGreatDoor
set_option linter.unusedVariables false

def escQ (q : UInt8 → Bool) : List UInt8 → List UInt8
  | [] => []
  | c :: r => if q c then 35 :: c :: escQ q r else c :: escQ q r
def sharpB (c : UInt8) : Bool := decide (c.toNat = 35)
def threeB (c : UInt8) : Bool := decide (c.toNat = 35 ∨ c.toNat = 44 ∨ c.toNat = 125)
structure MarkOk (q : UInt8 → Bool) : Prop where
  few : ∀ c, q c = true → c.toNat = 35 ∨ c.toNat = 44 ∨ c.toNat = 125
  sharp : ∀ c, c.toNat = 35 → q c = true
theorem sharp_ok : MarkOk sharpB := ⟨fun c h => .inl (of_decide_eq_true h), fun c h => decide_eq_true h⟩
theorem three_ok : MarkOk threeB := ⟨fun c h => of_decide_eq_true h, fun c h => decide_eq_true (.inl h)⟩
theorem esc_len (q : UInt8 → Bool) (l : List UInt8) : l.length ≤ (escQ q l).length ∧ (escQ q l).length ≤ 2 * l.length := by
  induction l with
  | nil => exact ⟨Nat.le_refl _, Nat.le_refl _⟩
  | cons c r ih =>
    simp only [escQ]
    split <;> simp only [List.length_cons] <;> omega
/-- The plain bytes at the beginning. -/
theorem esc_plain (q : UInt8 → Bool) (hq : MarkOk q) : ∀ (l : List UInt8), ∃ x y, l = x ++ y ∧ escQ q l = x ++ escQ q y ∧ plainF (escQ q l) = x.length ∧ (y = [] ∨ ∃ c r, y = c :: r ∧ q c = true)
  | [] => ⟨[], [], rfl, rfl, rfl, .inl rfl⟩
  | c :: r => by
    cases h : q c with
    | true =>
      refine ⟨[], c :: r, rfl, rfl, ?_, .inr ⟨c, r, rfl, h⟩⟩
      simp only [escQ, h, if_true]
      rfl
    | false =>
      obtain ⟨x, y, h1, h2, h3, h4⟩ := esc_plain q hq r
      have hc : ¬ c.toNat = 35 := fun h5 => by rw [hq.sharp c h5] at h; cases h
      have he : escQ q (c :: r) = c :: escQ q r := by simp [escQ, h]
      refine ⟨c :: x, y, by rw [h1]; rfl, by rw [he, h2]; rfl, ?_, h4⟩
      rw [he]
      unfold plainF at h3 ⊢
      rw [List.takeWhile_cons, decide_eq_true hc, if_pos rfl, List.length_cons, List.length_cons, h3]
theorem loop_nil (pl : List UInt8 → Res) (vs : Vars) (f : Nat) (said : List UInt8) : loopF pl vs f [] said = some (.ok said) := by cases f <;> rfl
theorem say_esc (q : UInt8 → Bool) (hq : MarkOk q) (pl : List UInt8 → Res) (vs : Vars) : ∀ (N : Nat) (text said : List UInt8) (f : Nat), text.length ≤ N → (escQ q text).length ≤ f → said.length ≤ 1024 →
    loopF pl vs f (escQ q text) said = if 1024 < said.length + text.length then some (.error 2) else some (.ok (said ++ text))
  | N, [], said, f, hN, hf, hs => by
    rw [if_neg (by simp; omega), List.append_nil]
    exact loop_nil pl vs f said
  | 0, c :: r, said, f, hN, hf, hs => by simp at hN
  | N + 1, c :: r, said, f, hN, hf, hs => by
    simp only [List.length_cons] at hN
    have hlen := esc_len q (c :: r)
    rw [List.length_cons] at hlen
    obtain ⟨f', rfl⟩ : ∃ f', f = f' + 1 := ⟨f - 1, by omega⟩
    have hne : escQ q (c :: r) ≠ [] := fun h => by rw [h] at hlen; simp at hlen
    cases hc : q c with
    | true =>
      have he : escQ q (c :: r) = 35 :: c :: escQ q r := by simp [escQ, hc]
      have hp : plainF (35 :: c :: escQ q r) = 0 := rfl
      have hn : saidF pl vs (35 :: c :: escQ q r) = some (.ok ([c], 2)) := by
        unfold saidF nextF
        rw [hp]
        simp only [Nat.lt_irrefl, if_false]
        rw [if_pos (hq.few c hc)]
      rw [he] at hf
      simp only [List.length_cons] at hf
      rw [he]
      unfold loopF
      rw [if_neg (by simp), hn]
      simp only [List.length_cons, List.length_nil]
      by_cases h1 : 1024 < said.length + (0 + 1)
      · rw [if_pos h1, if_pos (by omega)]
      · rw [if_neg h1]
        have ih := say_esc q hq pl vs N r (said ++ [c]) f' (by omega) (by omega) (by rw [List.length_append]; simp; omega)
        show loopF pl vs f' (escQ q r) (said ++ [c]) = _
        rw [ih, List.length_append, List.append_assoc]
        simp only [List.length_cons, List.length_nil, List.cons_append, List.nil_append]
        congr 1
        exact propext ⟨fun h => by omega, fun h => by omega⟩
    | false =>
      obtain ⟨x, y, h1, h2, h3, h4⟩ := esc_plain q hq (c :: r)
      have hx : 0 < x.length := by
        cases x with
        | nil =>
          exfalso
          rw [List.nil_append] at h1
          rcases h4 with rfl | ⟨d, r', rfl, hd⟩
          · cases h1
          · cases h1
            rw [hc] at hd
            cases hd
        | cons d x => exact Nat.succ_pos _
      have hn : saidF pl vs (escQ q (c :: r)) = some (.ok (x, x.length)) := by
        unfold saidF nextF
        rw [h3, if_pos hx]
        simp only
        rw [h2, List.take_left']
        rfl
      have hl : (c :: r).length = x.length + y.length := by rw [h1, List.length_append]
      rw [h2, List.length_append] at hf
      unfold loopF
      rw [if_neg hne, hn]
      simp only
      by_cases h5 : 1024 < said.length + x.length
      · rw [if_pos h5, if_pos (by omega)]
      · rw [if_neg h5]
        have ih := say_esc q hq pl vs N y (said ++ x) f' (by rw [List.length_cons] at hl; omega) (by omega) (by rw [List.length_append]; omega)
        have hd : (escQ q (c :: r)).drop x.length = escQ q y := by rw [h2, List.drop_left']; rfl
        rw [hd, ih, List.length_append, List.append_assoc, h1, List.length_append, Nat.add_assoc]
theorem say_itself (q : UInt8 → Bool) (hq : MarkOk q) (vs : Vars) (r : Nat) (text : List UInt8) : sayF vs r (escQ q text) = if 1024 < text.length then some (.error 2) else some (.ok text) := by
  cases r with
  | zero =>
    have h := say_esc q hq (fun _ => some (.error 101)) vs text.length text [] (escQ q text).length (Nat.le_refl _) (Nat.le_refl _) (by simp)
    rw [List.length_nil, Nat.zero_add, List.nil_append] at h
    exact h
  | succ r =>
    have h := say_esc q hq (placeF (sayF vs r) vs) vs text.length text [] (escQ q text).length (Nat.le_refl _) (Nat.le_refl _) (by simp)
    rw [List.length_nil, Nat.zero_add, List.nil_append] at h
    exact h
end Go.Proofs.YtgoofifbifdgoabGreatDoor

namespace Go.Proofs.YtgoofifbifdgoabGreatDoor
set_option linter.unusedVariables false

theorem ins_fuel : ∀ (f g : Nat) (l : List UInt8) (o : Int) (k : Nat), l.length ≤ f → l.length ≤ g → insG f l o k = insG g l o k
  | 0, 0, _, _, _, _, _ => rfl
  | 0, g + 1, l, o, k, h1, _ => by
    have e : l = [] := List.length_eq_zero_iff.1 (by omega)
    subst e
    rfl
  | f + 1, 0, l, o, k, _, h2 => by
    have e : l = [] := List.length_eq_zero_iff.1 (by omega)
    subst e
    rfl
  | f + 1, g + 1, l, o, k, h1, h2 => by
    unfold insG
    by_cases h : l = []
    · rw [if_pos h, if_pos h]
    · rw [if_neg h, if_neg h]
      have := pass_pos l
      have := List.length_pos_iff.2 h
      rw [ins_fuel f g (l.drop (passF l).1) _ _ (by rw [List.length_drop]; omega) (by rw [List.length_drop]; omega)]
theorem cut_fuel : ∀ (f g : Nat) (l cur : List UInt8) (o : Int), l.length ≤ f → l.length ≤ g → cutG f l cur o = cutG g l cur o
  | 0, 0, _, _, _, _, _ => rfl
  | 0, g + 1, l, _, _, h1, _ => by
    have e : l = [] := List.length_eq_zero_iff.1 (by omega)
    subst e
    rfl
  | f + 1, 0, l, _, _, _, h2 => by
    have e : l = [] := List.length_eq_zero_iff.1 (by omega)
    subst e
    rfl
  | f + 1, g + 1, [], _, _, _, _ => rfl
  | f + 1, g + 1, c :: r, cur, o, h1, h2 => by
    simp only [List.length_cons] at h1 h2
    have := pass_pos (c :: r)
    unfold cutG
    simp only
    rw [cut_fuel f g r [] 0 (by omega) (by omega), cut_fuel f g ((c :: r).drop (passF (c :: r)).1) _ _ (by rw [List.length_drop, List.length_cons]; omega) (by rw [List.length_drop, List.length_cons]; omega)]
def insN (l : List UInt8) (o : Int) (k : Nat) : Option Nat := insG l.length l o k
def cutN (l cur : List UInt8) (o : Int) : List (List UInt8) := cutG l.length l cur o
theorem insN_step {l : List UInt8} (h : l ≠ []) {p : Nat} {d : Int} (hp : passF l = (p, d)) {o : Int} (ho : o + d ≠ 0) (k : Nat) : insN l o k = insN (l.drop p) (o + d) (k + p) := by
  have h1 := List.length_pos_iff.2 h
  have h2 := pass_pos l
  rw [hp] at h2
  simp only at h2
  unfold insN
  obtain ⟨n, hn⟩ : ∃ n, l.length = n + 1 := ⟨l.length - 1, by omega⟩
  rw [hn]
  conv => lhs; unfold insG
  rw [if_neg h, hp]
  simp only
  rw [if_neg ho]
  exact ins_fuel _ _ _ _ _ (by rw [List.length_drop]; omega) (Nat.le_refl _)
theorem insN_end {l : List UInt8} (h : l ≠ []) {p : Nat} {d : Int} (hp : passF l = (p, d)) {o : Int} (ho : o + d = 0) (k : Nat) : insN l o k = some k := by
  have h1 := List.length_pos_iff.2 h
  unfold insN
  obtain ⟨n, hn⟩ : ∃ n, l.length = n + 1 := ⟨l.length - 1, by omega⟩
  rw [hn]
  unfold insG
  rw [if_neg h, hp]
  simp only
  rw [if_pos ho]
theorem cutN_step {c : UInt8} {r : List UInt8} {p : Nat} {d : Int} (hp : passF (c :: r) = (p, d)) {o : Int} (ho : ¬ (c.toNat = 44 ∧ o = 0)) (cur : List UInt8) : cutN (c :: r) cur o = cutN ((c :: r).drop p) (cur ++ (c :: r).take p) (o + d) := by
  have h2 := pass_pos (c :: r)
  rw [hp] at h2
  simp only at h2
  unfold cutN
  conv => lhs; rw [List.length_cons]; unfold cutG
  simp only
  rw [if_neg ho, hp]
  simp only
  exact cut_fuel _ _ _ _ _ (by rw [List.length_drop, List.length_cons]; omega) (Nat.le_refl _)
theorem cutN_comma (r cur : List UInt8) : cutN (44 :: r) cur 0 = cur :: cutN r [] 0 := by
  unfold cutN
  conv => lhs; rw [List.length_cons]; unfold cutG
  exact if_pos (show (44 : UInt8).toNat = 44 ∧ (0 : Int) = 0 from ⟨by decide, rfl⟩)
theorem cutN_nil (cur : List UInt8) (o : Int) : cutN [] cur o = [cur] := rfl

/-- What is passed over inside a place; what is passed over anywhere. -/
def Inn (l : List UInt8) : Prop := (∀ rest o k, 1 ≤ o → insN (l ++ rest) o k = insN rest o (k + l.length)) ∧ ∀ rest cur o, 1 ≤ o → cutN (l ++ rest) cur o = cutN rest (cur ++ l) o
def Seg (l : List UInt8) : Prop := (∀ rest o k, 1 ≤ o → insN (l ++ rest) o k = insN rest o (k + l.length)) ∧ ∀ rest cur o, 0 ≤ o → cutN (l ++ rest) cur o = cutN rest (cur ++ l) o
theorem Seg.inn {l : List UInt8} (h : Seg l) : Inn l := ⟨h.1, fun rest cur o ho => h.2 rest cur o (by omega)⟩
theorem Seg.nil : Seg [] := ⟨fun _ _ _ _ => rfl, fun rest cur o _ => by rw [List.append_nil]; rfl⟩
theorem Seg.app {a b : List UInt8} (h : Seg a) (k : Seg b) : Seg (a ++ b) := by
  refine ⟨fun rest o n ho => ?_, fun rest cur o ho => ?_⟩
  · rw [List.append_assoc, h.1 _ _ _ ho, k.1 _ _ _ ho, List.length_append, Nat.add_assoc]
  · rw [List.append_assoc, h.2 _ _ _ ho, k.2 _ _ _ ho, List.append_assoc]
theorem Inn.app {a b : List UInt8} (h : Inn a) (k : Inn b) : Inn (a ++ b) := by
  refine ⟨fun rest o n ho => ?_, fun rest cur o ho => ?_⟩
  · rw [List.append_assoc, h.1 _ _ _ ho, k.1 _ _ _ ho, List.length_append, Nat.add_assoc]
  · rw [List.append_assoc, h.2 _ _ _ ho, k.2 _ _ _ ho, List.append_assoc]
theorem pass_plain {c : UInt8} (h1 : ¬ c.toNat = 35) (h2 : ¬ c.toNat = 125) (r : List UInt8) : passF (c :: r) = (1, 0) := by
  cases r with
  | nil => simp [passF, h2]
  | cons d r => simp [passF, h1, h2]
theorem Seg.one {c : UInt8} (h1 : ¬ c.toNat = 35) (h2 : ¬ c.toNat = 44) (h3 : ¬ c.toNat = 125) : Seg [c] := by
  refine ⟨fun rest o n ho => ?_, fun rest cur o ho => ?_⟩
  · rw [List.singleton_append, insN_step (by simp) (pass_plain h1 h3 rest) (by omega)]
    simp
  · rw [List.singleton_append, cutN_step (pass_plain h1 h3 rest) (fun h => h2 h.1)]
    simp
theorem Inn.comma : Inn [44] := by
  refine ⟨fun rest o n ho => ?_, fun rest cur o ho => ?_⟩
  · rw [List.singleton_append, insN_step (by simp) (pass_plain (by decide) (by decide) rest) (by omega)]
    simp
  · rw [List.singleton_append, cutN_step (pass_plain (by decide) (by decide) rest) (fun h => by omega)]
    simp
theorem pass_pair {c : UInt8} (h : c.toNat = 35 ∨ c.toNat = 44 ∨ c.toNat = 125) (r : List UInt8) : passF (35 :: c :: r) = (2, 0) := by
  have h1 : ¬ c.toNat = 123 := by omega
  simp only [passF]
  rw [if_neg (by decide), if_pos (by decide), if_neg h1, if_pos h]
theorem Seg.pair {c : UInt8} (h : c.toNat = 35 ∨ c.toNat = 44 ∨ c.toNat = 125) : Seg [35, c] := by
  refine ⟨fun rest o n ho => ?_, fun rest cur o ho => ?_⟩
  · show insN (35 :: c :: rest) o n = _
    rw [insN_step (by simp) (pass_pair h rest) (by omega)]
    simp
  · show cutN (35 :: c :: rest) cur o = _
    rw [cutN_step (pass_pair h rest) (fun h => absurd h.1 (by decide))]
    simp
theorem pass_open (r : List UInt8) : passF (35 :: 123 :: r) = (2, 1) := rfl
theorem pass_shut (r : List UInt8) : passF (125 :: r) = (1, -1) := by cases r <;> rfl
theorem Inn.place {b : List UInt8} (h : Inn b) : Seg ([35, 123] ++ (b ++ [125])) := by
  refine ⟨fun rest o n ho => ?_, fun rest cur o ho => ?_⟩
  · rw [List.append_assoc, List.append_assoc]
    show insN (35 :: 123 :: (b ++ ([125] ++ rest))) o n = _
    rw [insN_step (by simp) (pass_open _) (by omega)]
    show insN (b ++ ([125] ++ rest)) (o + 1) (n + 2) = _
    rw [h.1 _ _ _ (by omega)]
    show insN (125 :: rest) (o + 1) (n + 2 + b.length) = _
    rw [insN_step (by simp) (pass_shut _) (by omega)]
    simp only [List.drop_succ_cons, List.drop_zero, List.length_append, List.length_cons, List.length_nil]
    congr 1 <;> omega
  · rw [List.append_assoc, List.append_assoc]
    show cutN (35 :: 123 :: (b ++ ([125] ++ rest))) cur o = _
    rw [cutN_step (pass_open _) (fun h => absurd h.1 (by decide))]
    show cutN (b ++ ([125] ++ rest)) (cur ++ [35, 123]) (o + 1) = _
    rw [h.2 _ _ _ (by omega)]
    show cutN (125 :: rest) (cur ++ [35, 123] ++ b) (o + 1) = _
    rw [cutN_step (pass_shut _) (fun h => absurd h.1 (by decide))]
    have e : o + 1 + -1 = o := by omega
    rw [e]
    simp
theorem Seg.esc (text : List UInt8) : Seg (escQ threeB text) := by
  induction text with
  | nil => exact Seg.nil
  | cons c r ih =>
    cases h : threeB c with
    | true =>
      have e : escQ threeB (c :: r) = [35, c] ++ escQ threeB r := by simp [escQ, h]
      rw [e]
      exact (Seg.pair (of_decide_eq_true h)).app ih
    | false =>
      have e : escQ threeB (c :: r) = [c] ++ escQ threeB r := by simp [escQ, h]
      have h1 := of_decide_eq_false h
      rw [e]
      exact (Seg.one (fun h => h1 (by omega)) (fun h => h1 (by omega)) (fun h => h1 (by omega))).app ih
theorem cut_one {a : List UInt8} (h : Seg a) : cutN a [] 0 = [a] := by
  have := h.2 [] [] 0 (Int.le_refl _)
  rw [List.append_nil, List.nil_append] at this
  rw [this, cutN_nil]
theorem cut_more {a : List UInt8} (h : Seg a) (r : List UInt8) : cutN (a ++ 44 :: r) [] 0 = a :: cutN r [] 0 := by
  rw [h.2 _ _ _ (Int.le_refl _), List.nil_append, cutN_comma]

/-- A text that is one place. -/
theorem inside_place {b : List UInt8} (h : Inn b) (r : List UInt8) : insideF (b ++ 125 :: r) = some b.length := by
  have := h.1 (125 :: r) 1 0 (Int.le_refl _)
  show insN (b ++ 125 :: r) 1 0 = _
  rw [this, insN_end (by simp) (pass_shut r) (by omega), Nat.zero_add]
def placed (b : List UInt8) : List UInt8 := [35, 123] ++ (b ++ [125])
theorem loop_place (pl : List UInt8 → Res) (vs : Vars) {b : List UInt8} (h : Inn b) (R : Except Int (List UInt8)) (hR : pl b = some R) (hs : ∀ s, R = .ok s → s.length ≤ 1024) : loopF pl vs (placed b).length (placed b) [] = some R := by
  have hl : (placed b).length = b.length + 2 + 1 := by simp [placed]
  have hn : nextF (placed b) = .place := by
    show nextF (35 :: 123 :: (b ++ [125])) = _
    have hp : plainF (35 :: 123 :: (b ++ [125])) = 0 := rfl
    unfold nextF
    rw [hp]
    rfl
  have hr : restF (placed b) = b ++ [125] := rfl
  have ht : (b ++ [125]).take b.length = b := List.take_left' rfl
  rw [hl]
  unfold loopF
  rw [if_neg (by simp [placed])]
  unfold saidF
  rw [hn]
  simp only
  rw [hr, inside_place h []]
  simp only
  rw [ht, hR]
  cases R with
  | error e => rfl
  | ok s =>
    simp only
    have h1 := hs s rfl
    rw [if_neg (by simp; omega)]
    have hd : (placed b).drop (b.length + 3) = [] := List.drop_eq_nil_of_le (by omega)
    rw [hd, List.nil_append]
    exact loop_nil pl vs _ s
theorem say_place (vs : Vars) (r : Nat) {b : List UInt8} (h : Inn b) (R : Except Int (List UInt8)) (hR : placeF (sayF vs r) vs b = some R) (hs : ∀ s, R = .ok s → s.length ≤ 1024) : sayF vs (r + 1) (placed b) = some R := loop_place _ vs h R hR hs
theorem say_deep (vs : Vars) {b : List UInt8} (h : Inn b) : sayF vs 0 (placed b) = some (.error 101) := loop_place _ vs h (.error 101) rfl (fun s hs => by cases hs)

/-- What a text, or an error, comes to. -/
def boundF (text : List UInt8) : Except Int (List UInt8) := if 1024 < text.length then .error 2 else .ok text
theorem bound_ok {text s : List UInt8} (h : boundF text = .ok s) : s.length ≤ 1024 := by
  unfold boundF at h
  split at h
  · cases h
  · cases h
    omega
theorem say_text (vs : Vars) (r : Nat) (text : List UInt8) : sayF vs r (escQ threeB text) = some (boundF text) := by
  rw [say_itself threeB three_ok]
  unfold boundF
  split <;> rfl
/-- A choice of three parts. -/
theorem choice3 (sub : List UInt8 → Res) (vs : Vars) {a b c : List UInt8} (ha : Seg a) (hb : Seg b) (hc : Seg c) (hi : identF a = false) (s : List UInt8) (hs : sub a = some (.ok s)) : placeF sub vs (63 :: (a ++ 44 :: (b ++ 44 :: c))) = if truthF s then sub b else sub c := by
  show choiceF sub vs _ = _
  unfold choiceF
  have e : cutF (a ++ 44 :: (b ++ 44 :: c)) = [a, b, c] := by
    show cutN _ [] 0 = _
    rw [cut_more ha, cut_more hb, cut_one hc]
  rw [e]
  simp only
  unfold operandF
  rw [hi, if_neg (by simp), hs]
  rfl
theorem choice2 (sub : List UInt8 → Res) (vs : Vars) {a b : List UInt8} (ha : Seg a) (hb : Seg b) (hi : identF a = false) (s : List UInt8) (hs : sub a = some (.ok s)) (ht : truthF s = true) : placeF sub vs (63 :: (a ++ 44 :: b)) = sub b := by
  show choiceF sub vs _ = _
  unfold choiceF
  have e : cutF (a ++ 44 :: b) = [a, b] := by
    show cutN _ [] 0 = _
    rw [cut_more ha, cut_one hb]
  rw [e]
  simp only
  unfold operandF
  rw [hi, if_neg (by simp), hs]
  show (if truthF s then sub b else some (.ok [])) = _
  rw [ht, if_pos rfl]
theorem Seg.quest : Seg [63] := Seg.one (by decide) (by decide) (by decide)
theorem inn3 {a b c : List UInt8} (ha : Seg a) (hb : Seg b) (hc : Seg c) : Inn (63 :: (a ++ 44 :: (b ++ 44 :: c))) :=
  Seg.quest.inn.app (ha.inn.app (Inn.comma.app (hb.inn.app (Inn.comma.app hc.inn))))
theorem inn2 {a b : List UInt8} (ha : Seg a) (hb : Seg b) : Inn (63 :: (a ++ 44 :: b)) :=
  Seg.quest.inn.app (ha.inn.app (Inn.comma.app hb.inn))
/-- The parts of the statement's choices: 1, 0, nothing, x y, no. -/
theorem say_small (vs : Vars) (r : Nat) (l : List UInt8) (h : escQ threeB l = l) (hl : l.length ≤ 1024) : sayF vs r l = some (.ok l) := by
  have := say_text vs r l
  rw [h] at this
  rw [this]
  unfold boundF
  rw [if_neg (by omega)]
theorem seg_small (l : List UInt8) (h : escQ threeB l = l) : Seg l := by
  have := Seg.esc l
  rwa [h] at this
/-- a choice's text -/
def choT (a b c : List UInt8) : List UInt8 := placed (63 :: (a ++ 44 :: (b ++ 44 :: c)))
theorem cho_say (vs : Vars) (r : Nat) (a b c : List UInt8) (ha : escQ threeB a = a) (hal : a.length ≤ 1024) (hi : identF a = false) : sayF vs (r + 1) (choT a (escQ threeB b) (escQ threeB c)) = some (boundF (if truthF a then b else c)) := by
  have h := choice3 (sayF vs r) vs (seg_small a ha) (Seg.esc b) (Seg.esc c) hi a (say_small vs r a ha hal)
  refine say_place vs r (inn3 (seg_small a ha) (Seg.esc b) (Seg.esc c)) _ ?_ (fun s hs => bound_ok hs)
  rw [h]
  split
  · exact say_text vs r b
  · exact say_text vs r c
/-- places one in another -/
def deepT : Nat → List UInt8 → List UInt8
  | 0, p => p
  | n + 1, p => placed (63 :: ([49] ++ 44 :: deepT n p))
theorem deep_seg (text : List UInt8) : ∀ n, Seg (deepT n (escQ threeB text))
  | 0 => Seg.esc text
  | n + 1 => (inn2 (seg_small [49] rfl) (deep_seg text n)).place
theorem deep_say (vs : Vars) (text : List UInt8) : ∀ (n r : Nat), n ≤ r → sayF vs r (deepT n (escQ threeB text)) = some (boundF text)
  | 0, r, _ => say_text vs r text
  | n + 1, 0, h => by omega
  | n + 1, r + 1, h => by
    refine say_place vs r (inn2 (seg_small [49] rfl) (deep_seg text n)) _ ?_ (fun s hs => bound_ok hs)
    rw [choice2 (sayF vs r) vs (seg_small [49] rfl) (deep_seg text n) rfl [49] (say_small vs r [49] rfl (by decide)) rfl]
    exact deep_say vs text n r (by omega)
theorem deep_far (vs : Vars) (text : List UInt8) : ∀ (r n : Nat), r < n → sayF vs r (deepT n (escQ threeB text)) = some (.error 101)
  | 0, n + 1, _ => say_deep vs (inn2 (seg_small [49] rfl) (deep_seg text n))
  | r + 1, n + 1, h => by
    refine say_place vs r (inn2 (seg_small [49] rfl) (deep_seg text n)) _ ?_ (fun s hs => by cases hs)
    rw [choice2 (sayF vs r) vs (seg_small [49] rfl) (deep_seg text n) rfl [49] (say_small vs r [49] rfl (by decide)) rfl]
    exact deep_far vs text r n (by omega)
end Go.Proofs.YtgoofifbifdgoabGreatDoor
