/-
  Layouts: the document's giver: which child gives next (mkgiver.py).
  Layouts: lines drawn from parts as the document draws them.
  Layouts: a round of the document's border (mkborder.py).
-/
import Derived.Test.YtkaaadbfmbkjeaaCPn
import Derived.Test.YtkaaadbfmbkjeaaCSnf
namespace Go.Proofs.Ytkaaadbfmbkjeaa
open Go.RowKit
set_option linter.unusedVariables false
set_option maxRecDepth 100000

/-- The first of some parts that has room; -1: none. -/
def giveF (k : Int) (us : List Tree) : List Nat → Int
  | [] => -1
  | j :: js => match us[j]? with
    | some t => if 0 < t.room k then (j : Int) else giveF k us js
    | none => -1
theorem range_back (j : Nat) : (List.range (j + 1)).reverse = j :: (List.range j).reverse := by
  rw [List.range_succ, List.reverse_append]
  rfl

set_option maxHeartbeats 1000000 in
theorem giver_on (k wd ht i0 : Int) (us : List Tree) (c : Nat) (sl : Value) (fp : List Nat) (w : World) (hIn : (Node.mk k wd ht i0 (nodesOf us)).In w sl fp) (hR : ∀ t ∈ us, RoomGood t) (hl : us.length ≤ 900) (hc : c < us.length) : Calls Try.prog 90 #[.agg #[.int .i64 k, .int .i64 wd, .int .i64 ht, .int .i64 i0, sl], .int .i64 c, .bool false] w fun e w' => e = .returned (.int .i64 (giveF k us (List.range' (c + 1) (us.length - 1 - c)))) ∧ Below w.heap.size w w' := by
  obtain ⟨ad, cap, hsl⟩ := hIn.sl
  change sl = .slice ad (nodesOf us).length cap at hsl
  rw [nodesOf_length] at hsl
  obtain ⟨m, hm⟩ : ∃ m, us.length = m := ⟨_, rfl⟩
  obtain ⟨W, hW⟩ : ∃ W, w.alloc (.cells #[.int .i64 k, .int .i64 wd, .int .i64 ht, .int .i64 i0, sl] 73) = W := ⟨_, rfl⟩
  have HblkW : W.heap[w.heap.size]? = some (.cells #[.int .i64 k, .int .i64 wd, .int .i64 ht, .int .i64 i0, sl] 73 (0, 0)) := by rw [← hW]; exact heap_alloc_new _ _
  have HbW : Below w.heap.size w W := by rw [← hW]; exact (Below.refl _ _).alloc (Nat.le_refl _) _
  have HBlk : Hid (∀ X, Below W.heap.size W X → X.heap[w.heap.size]? = some (.cells #[.int .i64 k, .int .i64 wd, .int .i64 ht, .int .i64 i0, sl] 73 (0, 0))) := fun X hX => (hX.block _ (lt_of_block HblkW)).trans HblkW
  have HB : Hid (∀ X, Below W.heap.size W X → Below w.heap.size w X) := fun X hX => below_step HbW hX
  have HI : Hid ((Node.mk k wd ht i0 (nodesOf us)).In W sl fp) := hIn.below HbW
  have HR : Hid (∀ t ∈ us, RoomGood t) := hR
  have HM : Hid (us.length = m) := hm
  have HW : Hid (w.alloc (.cells #[.int .i64 k, .int .i64 wd, .int .i64 ht, .int .i64 i0, sl] 73) = W) := hW
  rw [hm] at hsl hl hc
  subst hsl
  rw [hm]
  obtain ⟨Z, hZZ⟩ : ∃ z, giveF k us (List.range' (c + 1) (m - 1 - c)) = z := ⟨_, rfl⟩
  have HZZ : Hid (giveF k us (List.range' (c + 1) (m - 1 - c)) = Z) := hZZ
  rw [hZZ]
  clear hIn hR hm HblkW HbW hW hZZ
  go_enter Try.func90, Try.ntmps90
  go_wp2
  rw [HW.out]
  go_loopw [8] (fun v wr => ∃ i : Nat, c + 1 ≤ i ∧ i ≤ m ∧ v = .int .i64 i ∧ Hid (giveF k us (List.range' i (m - i)) = Z) ∧ Hid (Below W.heap.size W wr)) (fun v _ => m - (intOf v).toNat)
  case atStart => exact ⟨c + 1, Nat.le_refl _, by omega, by go_num, by rw [show m - (c + 1) = m - 1 - c by omega]; exact HZZ, Below.refl _ _⟩
  case round =>
    obtain ⟨i, hi1, hi, rfl, HZr, HBr⟩ := hrel
    have hbk := HBlk.out wr HBr.out
    have b0 : wr.cell? ⟨w.heap.size, 0, none⟩ = some (.int .i64 k) := cell_atL hbk 0
    have b4 : wr.cell? ⟨w.heap.size, 4, none⟩ = some (.slice ad m cap) := cell_atL hbk 4
    clear hbk
    by_cases hlt : i < m
    · obtain ⟨j, rfl⟩ : ∃ j, i = j := ⟨i, rfl⟩
      have hjm : i < m := hlt
      obtain ⟨t, ht⟩ : ∃ t, us[i]? = some t := ⟨_, List.getElem?_eq_getElem (by rw [HM.out]; exact hjm)⟩
      obtain ⟨g, cap', e1, e2, e3⟩ := (HI.out.below HBr.out).kids (by intro e; have h := nodesOf_length us; rw [e, HM.out] at h; simp at h; omega)
      rw [nodesOf_length, HM.out] at e1
      cases e1
      obtain ⟨sl', f', e4, q0, q1, q2, q3, q4⟩ := e3 i (nodeOf t) (nodesOf_get us i t ht)
      obtain ⟨ad', c', hsl'⟩ := e4.sl
      have HCa : Hid (∀ X, Below wr.heap.size wr X → Calls Try.prog 87 #[.agg (nodeV (nodeOf t) sl'), .int .i64 k] X fun e w' => e = .returned (.int .i64 (t.room k)) ∧ Below wr.heap.size wr w') := fun X hX => (HR.out t (List.mem_of_getElem? ht) sl' f' X k (e4.below hX)).mono fun e w' h => ⟨h.1, below_step hX h.2⟩
      subst hsl'
      have hZ2 := HZr.out
      rw [show m - i = (m - (i + 1)) + 1 by omega, List.range'_succ] at hZ2
      simp only [giveF, ht] at hZ2
      obtain ⟨R, hRr⟩ : ∃ x, t.room k = x := ⟨_, rfl⟩
      rw [hRr] at HCa hZ2
      have HZ2 : Hid ((if 0 < R then (i : Int) else giveF k us (List.range' (i + 1) (m - (i + 1)))) = Z) := hZ2
      obtain ⟨nn, hnn⟩ : ∃ x, nodeOf t = x := ⟨_, rfl⟩
      rw [hnn] at HCa q0 q1 q2 q3 q4
      unfold nodeV at HCa
      clear e2 e3 e4 ht hRr hnn hZ2 HZr
      go_wp2_with fail
      go_region_with (go_at_call 87; refine (HCa.out _ (Below.refl _ _).drew).mono ?_; rintro e w1 ⟨rfl, hb1⟩)
      all_goals (
       have HB1 : Hid (Below W.heap.size W w1) := below_step HBr.out hb1
       clear hb1 HCa
       by_cases hR0 : 0 < R
       · have HD : Hid ((i : Int) = Z) := by have h := HZ2.out; rw [if_pos hR0] at h; exact h
         clear HZ2
         go_wp2
         go_ret
         exact ⟨by rw [← HD.out]; rfl, HB.out _ HB1.out⟩
       · have HZn : Hid (giveF k us (List.range' (i + 1) (m - (i + 1))) = Z) := by have h := HZ2.out; rw [if_neg hR0] at h; exact h
         clear HZ2
         go_wp2
         go_roundw
         case rel => exact ⟨i + 1, by omega, by omega, by go_num, HZn, HB1⟩
         case measure => simp [intOf]; omega)
    · have hin : i = m := by omega
      subst hin
      have HD : Hid (-1 = Z) := by have h := HZr.out; rw [Nat.sub_self] at h; exact h
      clear HZr
      go_wp2
      go_ret
      exact ⟨by rw [← HD.out]; rfl, HB.out _ HBr.out⟩

set_option maxHeartbeats 1000000 in
theorem giver_back (k wd ht i0 : Int) (us : List Tree) (c : Nat) (sl : Value) (fp : List Nat) (w : World) (hIn : (Node.mk k wd ht i0 (nodesOf us)).In w sl fp) (hR : ∀ t ∈ us, RoomGood t) (hl : us.length ≤ 900) (hc : c < us.length) : Calls Try.prog 90 #[.agg #[.int .i64 k, .int .i64 wd, .int .i64 ht, .int .i64 i0, sl], .int .i64 c, .bool true] w fun e w' => e = .returned (.int .i64 (giveF k us (List.range (c + 1)).reverse)) ∧ Below w.heap.size w w' := by
  obtain ⟨ad, cap, hsl⟩ := hIn.sl
  change sl = .slice ad (nodesOf us).length cap at hsl
  rw [nodesOf_length] at hsl
  obtain ⟨m, hm⟩ : ∃ m, us.length = m := ⟨_, rfl⟩
  obtain ⟨W, hW⟩ : ∃ W, w.alloc (.cells #[.int .i64 k, .int .i64 wd, .int .i64 ht, .int .i64 i0, sl] 73) = W := ⟨_, rfl⟩
  have HblkW : W.heap[w.heap.size]? = some (.cells #[.int .i64 k, .int .i64 wd, .int .i64 ht, .int .i64 i0, sl] 73 (0, 0)) := by rw [← hW]; exact heap_alloc_new _ _
  have HbW : Below w.heap.size w W := by rw [← hW]; exact (Below.refl _ _).alloc (Nat.le_refl _) _
  have HBlk : Hid (∀ X, Below W.heap.size W X → X.heap[w.heap.size]? = some (.cells #[.int .i64 k, .int .i64 wd, .int .i64 ht, .int .i64 i0, sl] 73 (0, 0))) := fun X hX => (hX.block _ (lt_of_block HblkW)).trans HblkW
  have HB : Hid (∀ X, Below W.heap.size W X → Below w.heap.size w X) := fun X hX => below_step HbW hX
  have HI : Hid ((Node.mk k wd ht i0 (nodesOf us)).In W sl fp) := hIn.below HbW
  have HR : Hid (∀ t ∈ us, RoomGood t) := hR
  have HM : Hid (us.length = m) := hm
  have HW : Hid (w.alloc (.cells #[.int .i64 k, .int .i64 wd, .int .i64 ht, .int .i64 i0, sl] 73) = W) := hW
  rw [hm] at hsl hl hc
  subst hsl
  obtain ⟨Z, hZZ⟩ : ∃ z, giveF k us (List.range (c + 1)).reverse = z := ⟨_, rfl⟩
  have HZZ : Hid (giveF k us (List.range (c + 1)).reverse = Z) := hZZ
  rw [hZZ]
  clear hIn hR hm HblkW HbW hW hZZ
  go_enter Try.func90, Try.ntmps90
  go_wp2
  rw [HW.out]
  go_loopw [7] (fun v wr => ∃ i : Nat, i ≤ c + 1 ∧ v = .int .i64 ((i : Int) - 1) ∧ Hid (giveF k us (List.range i).reverse = Z) ∧ Hid (Below W.heap.size W wr)) (fun v _ => (intOf v + 1).toNat)
  case atStart => exact ⟨c + 1, Nat.le_refl _, by simp, HZZ, Below.refl _ _⟩
  case round =>
    obtain ⟨i, hi, rfl, HZr, HBr⟩ := hrel
    have hbk := HBlk.out wr HBr.out
    have b0 : wr.cell? ⟨w.heap.size, 0, none⟩ = some (.int .i64 k) := cell_atL hbk 0
    have b4 : wr.cell? ⟨w.heap.size, 4, none⟩ = some (.slice ad m cap) := cell_atL hbk 4
    clear hbk
    by_cases hlt : 0 < i
    · obtain ⟨j, rfl⟩ : ∃ j, i = j + 1 := ⟨i - 1, by omega⟩
      have hjm : j < m := by omega
      have hij : ((j + 1 : Nat) : Int) - 1 = (j : Int) := by omega
      rw [hij]
      clear hij
      obtain ⟨t, ht⟩ : ∃ t, us[j]? = some t := ⟨_, List.getElem?_eq_getElem (by rw [HM.out]; exact hjm)⟩
      obtain ⟨g, cap', e1, e2, e3⟩ := (HI.out.below HBr.out).kids (by intro e; have h := nodesOf_length us; rw [e, HM.out] at h; simp at h; omega)
      rw [nodesOf_length, HM.out] at e1
      cases e1
      obtain ⟨sl', f', e4, q0, q1, q2, q3, q4⟩ := e3 j (nodeOf t) (nodesOf_get us j t ht)
      obtain ⟨ad', c', hsl'⟩ := e4.sl
      have HCa : Hid (∀ X, Below wr.heap.size wr X → Calls Try.prog 87 #[.agg (nodeV (nodeOf t) sl'), .int .i64 k] X fun e w' => e = .returned (.int .i64 (t.room k)) ∧ Below wr.heap.size wr w') := fun X hX => (HR.out t (List.mem_of_getElem? ht) sl' f' X k (e4.below hX)).mono fun e w' h => ⟨h.1, below_step hX h.2⟩
      subst hsl'
      have hZ2 := HZr.out
      rw [range_back] at hZ2
      simp only [giveF, ht] at hZ2
      obtain ⟨R, hRr⟩ : ∃ x, t.room k = x := ⟨_, rfl⟩
      rw [hRr] at HCa hZ2
      have HZ2 : Hid ((if 0 < R then (j : Int) else giveF k us (List.range j).reverse) = Z) := hZ2
      obtain ⟨nn, hnn⟩ : ∃ x, nodeOf t = x := ⟨_, rfl⟩
      rw [hnn] at HCa q0 q1 q2 q3 q4
      unfold nodeV at HCa
      clear e2 e3 e4 ht hRr hnn hZ2 HZr
      go_wp2_with fail
      go_region_with (go_at_call 87; refine (HCa.out _ (Below.refl _ _).drew).mono ?_; rintro e w1 ⟨rfl, hb1⟩)
      all_goals (
       have HB1 : Hid (Below W.heap.size W w1) := below_step HBr.out hb1
       clear hb1 HCa
       by_cases hR0 : 0 < R
       · have HD : Hid ((j : Int) = Z) := by have h := HZ2.out; rw [if_pos hR0] at h; exact h
         clear HZ2
         go_wp2
         go_ret
         exact ⟨by rw [← HD.out]; rfl, HB.out _ HB1.out⟩
       · have HZn : Hid (giveF k us (List.range j).reverse = Z) := by have h := HZ2.out; rw [if_neg hR0] at h; exact h
         clear HZ2
         go_wp2
         go_roundw
         case rel => exact ⟨j, by omega, by go_num, HZn, HB1⟩
         case measure => simp [intOf])
    · have hin : i = 0 := by omega
      subst hin
      have HD : Hid (-1 = Z) := HZr.out
      clear HZr
      go_wp2
      go_ret
      exact ⟨by rw [← HD.out]; rfl, HB.out _ HBr.out⟩

end Go.Proofs.Ytkaaadbfmbkjeaa

namespace Go.Proofs.Ytkaaadbfmbkjeaa
open Go.RowKit
set_option linter.unusedVariables false
set_option maxRecDepth 20000

theorem give_none (k : Int) (us : List Tree) : ∀ (js : List Nat), (∀ i ∈ js, ∃ t, us[i]? = some t ∧ t.room k = 0) → giveF k us js = -1
  | [], h => rfl
  | j :: js, h => by
    obtain ⟨t, h1, h2⟩ := h j List.mem_cons_self
    simp only [giveF, h1, h2]
    rw [if_neg (by decide)]
    exact give_none k us js fun i hi => h i (List.mem_cons_of_mem _ hi)
theorem give_first (k : Int) (us : List Tree) (j : Nat) (t : Tree) (js : List Nat) (ht : us[j]? = some t) (hr : 0 < t.room k) : ∀ (pre : List Nat), (∀ i ∈ pre, ∃ t, us[i]? = some t ∧ t.room k = 0) → giveF k us (pre ++ j :: js) = j
  | [], h => by
    show giveF k us (j :: js) = j
    simp only [giveF, ht]
    rw [if_pos hr]
  | i :: pre, h => by
    obtain ⟨t', h1, h2⟩ := h i List.mem_cons_self
    show giveF k us (i :: (pre ++ j :: js)) = j
    simp only [giveF, h1, h2]
    rw [if_neg (by decide)]
    exact give_first k us j t js ht hr pre fun i hi => h i (List.mem_cons_of_mem _ hi)

/-- Parts that can be measured. -/
structure Fit (k : Int) (us : List Tree) : Prop where
  sound : ∃ b, soundAll us b k = true
  kinds : kindsAll us
  sizes : sizes us ≤ 900
theorem Fit.rooms {k : Int} {us : List Tree} (h : Fit k us) : ∀ t ∈ us, RoomGood t := by
  obtain ⟨b, hb⟩ := h.sound
  exact room_goods us b k h.kinds hb (by have := h.sizes; omega)

/-- The document draws lines: the first part with room gives, again and again. -/
inductive Giv (k : Int) (c : Nat) (full : List Nat) : Int → List Tree → List Tree → Int → Prop
  | done (n : Int) (us : List Tree) : Fit k us → (n ≤ 0 ∨ giveF k us full = -1) → Giv k c full n us us 0
  | step (n d : Int) (us rs : List Tree) (j : Nat) (t t' s s' : Tree) (got : Int) : Fit k us → 0 < n → giveF k us full = j → us[j]? = some t → d = min n (t.room k) → 0 < d → d ≤ 1000 → Str t k (-d) t' → (us.set j t')[c]? = some s → Str s k d s' → Giv k c full (n - d) ((us.set j t').set c s') rs got → Giv k c full n us rs (d + got)

theorem rooms_at : ∀ (us : List Tree) (b : Box) (k j : Int) (i : Nat) (t : Tree), us[i]? = some t → soundAll us b k = true → t.room j ≤ roomAll us j
  | [], b, k, j, i, t, h, hs => by simp at h
  | a :: us, b, k, j, 0, t, h, hs => by
    cases h
    unfold soundAll at hs
    simp only [Bool.and_eq_true] at hs
    have h1 := (rooms_bound us b k j hs.2).1
    show a.room j ≤ a.room j + roomAll us j
    omega
  | a :: us, b, k, j, i + 1, t, h, hs => by
    unfold soundAll at hs
    simp only [Bool.and_eq_true] at hs
    have h1 := rooms_at us b k j i t (by simpa using h) hs.2
    have h2 := room_bound a j hs.1.1
    show t.room j ≤ a.room j + roomAll us j
    omega
theorem rooms_two : ∀ (us : List Tree) (b : Box) (k j : Int) (i c : Nat) (t s : Tree), us[i]? = some t → us[c]? = some s → i ≠ c → soundAll us b k = true → t.room j + s.room j ≤ roomAll us j
  | [], b, k, j, i, c, t, s, h, _, _, hs => by simp at h
  | a :: us, b, k, j, 0, 0, t, s, h, h', hne, hs => absurd rfl hne
  | a :: us, b, k, j, 0, c + 1, t, s, h, h', hne, hs => by
    cases h
    unfold soundAll at hs
    simp only [Bool.and_eq_true] at hs
    have h1 := rooms_at us b k j c s (by simpa using h') hs.2
    show a.room j + s.room j ≤ a.room j + roomAll us j
    omega
  | a :: us, b, k, j, i + 1, 0, t, s, h, h', hne, hs => by
    cases h'
    unfold soundAll at hs
    simp only [Bool.and_eq_true] at hs
    have h1 := rooms_at us b k j i t (by simpa using h) hs.2
    show t.room j + a.room j ≤ a.room j + roomAll us j
    omega
  | a :: us, b, k, j, i + 1, c + 1, t, s, h, h', hne, hs => by
    unfold soundAll at hs
    simp only [Bool.and_eq_true] at hs
    have h1 := rooms_two us b k j i c t s (by simpa using h) (by simpa using h') (by omega) hs.2
    have h2 := room_bound a j hs.1.1
    show t.room j + s.room j ≤ a.room j + roomAll us j
    omega
theorem set_self (us : List Tree) (i : Nat) (t : Tree) (h : us[i]? = some t) : us.set i t = us := by
  apply List.ext_getElem?
  intro q
  by_cases e : i = q
  · subst e
    rw [List.getElem?_set_self (List.getElem?_eq_some_iff.1 h).1, h]
  · rw [List.getElem?_set_ne e]

theorem back_nodup : ∀ c : Nat, (List.range c).reverse.Nodup
  | 0 => List.nodup_nil
  | c + 1 => by
    rw [range_back]
    refine List.nodup_cons.2 ⟨fun h => ?_, back_nodup c⟩
    rw [List.mem_reverse, List.mem_range] at h
    omega

/-- How many lines the two ask for: as many, or more than there are. -/
def Enough (k : Int) (us : List Tree) (c : Nat) (n n' : Int) : Prop := n' = n ∨ (n' ≤ n ∧ ∃ s, us[c]? = some s ∧ roomAll us k - s.room k ≤ n')

theorem both_can (b : Box) (k : Int) (hk : k = 2 ∨ k = 3) (c : Nat) (full : List Nat) (hnd : full.Nodup) : ∀ (js pre : List Nat) (n n' : Int) (us : List Tree), full = pre ++ js → (n' ≤ 0 ∨ ∀ i ∈ pre, ∃ t, us[i]? = some t ∧ t.room k = 0) → 0 ≤ n → 0 ≤ n' → Enough k us c n n' → c < us.length → (∀ j ∈ full, j < us.length ∧ j ≠ c) → soundAll us b k = true → kindsAll us → sizes us ≤ 900 → extAll us k ≤ 1000 →
    ∃ rs got, Draw k c js n us rs got ∧ Set1 us b k 0 rs ∧ 0 ≤ got ∧ got ≤ n ∧ Giv k c full n' us rs got
  | [], pre, n, n', us, hf, hp, hn, hn', hE, hc, hj, hs, hks, hz, he => by
    refine ⟨us, 0, .nil n us, ⟨rfl, rfl, by omega, by omega, rfl, hs, hks, rfl⟩, Int.le_refl _, hn, .done n' us ⟨⟨b, hs⟩, hks, hz⟩ ?_⟩
    rcases hp with h | h
    · exact .inl h
    · rw [hf, List.append_nil]
      exact .inr (give_none k us pre h)
  | j :: js, pre, n, n', us, hf, hp, hn, hn', hE, hc, hj, hs, hks, hz, he => by
    have hjm : j ∈ full := by rw [hf]; simp
    obtain ⟨hjl, hjc⟩ := hj j hjm
    obtain ⟨t, ht⟩ : ∃ t, us[j]? = some t := ⟨_, List.getElem?_eq_getElem hjl⟩
    have hsd := soundAll_at us b k j t ht hs
    simp only [Bool.and_eq_true, decide_eq_true_eq] at hsd
    have hkt := kindsAll_at us j t ht hks
    have hst := sizes_at us j t ht
    have hex := ext_at us b k j t ht hs
    have hrm := room_bound t k hsd.1
    have hrl := room_le t k hk hkt hsd.1
    have hsid := sides_ext t.box k (t.sound_sides hsd.1)
    obtain ⟨d, hd⟩ : ∃ d, d = min n (t.room k) := ⟨_, rfl⟩
    have hd' : d = min n' (t.room k) := by
      rcases hE with h | ⟨h, s, h1, h2⟩
      · rw [h]; exact hd
      · have := rooms_two us b k k j c t s ht h1 hjc hs
        omega
    obtain ⟨t', h1, g1⟩ := can_str t k (-d) hk hsd.1 hkt (by omega) (by omega) (by omega)
    have hset := set_one t t' b k (-d) hk g1 us j ht hs hks
    have hcl : c < (us.set j t').length := by rw [List.length_set]; exact hc
    obtain ⟨s, hsc⟩ : ∃ s, (us.set j t')[c]? = some s := ⟨_, List.getElem?_eq_getElem hcl⟩
    have hsc0 : us[c]? = some s := by rw [List.getElem?_set_ne hjc] at hsc; exact hsc
    have hsd2 := soundAll_at _ b k c s hsc hset.sound
    simp only [Bool.and_eq_true, decide_eq_true_eq] at hsd2
    have hks2 := kindsAll_at _ c s hsc hset.kinds
    have hst2 := sizes_at _ c s hsc
    have hex2 := ext_at _ b k c s hsc hset.sound
    have hrm2 := room_bound s k hsd2.1
    rw [hset.sizes] at hst2
    rw [hset.ext] at hex2
    obtain ⟨s', h2, g2⟩ := can_str s k d hk hsd2.1 hks2 (by omega) (by omega) (by omega)
    have hset2 := set_one s s' b k d hk g2 (us.set j t') c hsc hset.sound hset.kinds
    have h12 : Set1 us b k 0 ((us.set j t').set c s') := by
      have := hset.trans hset2
      rwa [show -d + d = 0 by omega] at this
    have hnp : ∀ i ∈ pre, i ≠ j := fun i hi e => by
      have h := hnd
      rw [hf, List.nodup_append] at h
      exact h.2.2 i hi j List.mem_cons_self e
    have hget : ∀ i, i ≠ j → i ≠ c → ((us.set j t').set c s')[i]? = us[i]? := fun i hi hi2 => by
      rw [List.getElem?_set_ne (Ne.symm hi2), List.getElem?_set_ne (Ne.symm hi)]
    have hgetj : ((us.set j t').set c s')[j]? = some t' := by
      rw [List.getElem?_set_ne (Ne.symm hjc), List.getElem?_set_self hjl]
    have hgetc : ((us.set j t').set c s')[c]? = some s' := List.getElem?_set_self hcl
    have hE2 : Enough k ((us.set j t').set c s') c (n - d) (n' - d) := by
      rcases hE with h | ⟨h, s0, e1, e2⟩
      · exact .inl (by rw [h])
      · rw [hsc0] at e1
        cases e1
        refine .inr ⟨by omega, s', hgetc, ?_⟩
        rw [h12.rooms, g2.room]
        omega
    have hp2 : n' - d ≤ 0 ∨ ∀ i ∈ pre ++ [j], ∃ t, ((us.set j t').set c s')[i]? = some t ∧ t.room k = 0 := by
      by_cases h0 : n' - d ≤ 0
      · exact .inl h0
      · refine .inr fun i hi => ?_
        rcases List.mem_append.1 hi with hi | hi
        · rcases hp with h | h
          · omega
          · obtain ⟨u, e1, e2⟩ := h i hi
            refine ⟨u, ?_, e2⟩
            rw [hget i (hnp i hi) (hj i (by rw [hf]; exact List.mem_append_left _ hi)).2]
            exact e1
        · have : i = j := by simpa using hi
          subst this
          refine ⟨t', hgetj, ?_⟩
          rw [g1.room]
          omega
    obtain ⟨rs, got, h3, h4, h5, h6, h7⟩ := both_can b k hk c full hnd js (pre ++ [j]) (n - d) (n' - d) ((us.set j t').set c s') (by rw [hf]; simp) hp2 (by omega) (by omega) hE2 (by rw [h12.len]; exact hc) (fun i hi => by rw [h12.len]; exact hj i hi) h12.sound h12.kinds (by rw [h12.sizes]; exact hz) (by rw [h12.ext]; omega)
    have hset4 : Set1 us b k 0 rs := by
      have := h12.trans h4
      rwa [Int.zero_add] at this
    refine ⟨rs, d + got, .cons j js n d us rs t t' s s' got ht hsd.1 hkt (by omega) hd (by omega) (by omega) g1.size h1 hsc g2.size h2 h3, hset4, by omega, by omega, ?_⟩
    by_cases h0 : d = 0
    · subst h0
      have et : t' = t := str_zero _ t (Nat.le_refl _) k t' (by simpa using h1)
      have es : s' = s := str_zero _ s (Nat.le_refl _) k s' h2
      subst et
      subst es
      rw [set_self us j _ ht, set_self us c _ hsc0, Int.sub_zero] at h7
      rw [Int.zero_add]
      exact h7
    · refine .step n' d us rs j t t' s s' got ⟨⟨b, hs⟩, hks, hz⟩ (by omega) ?_ ht hd' (by omega) (by omega) h1 hsc h2 h7
      rw [hf]
      refine give_first k us j t js ht (by omega) pre ?_
      rcases hp with h | h
      · omega
      · exact h

/-- The border behind part c's is pushed by n lines, as the document does it. -/
structure PushG (k : Int) (ts : List Tree) (n : Int) (rs : List Tree) (c : Nat) (got : Int) : Prop where
  draw : (0 ≤ n → Giv k c (List.range' (c + 1) (ts.length - 1 - c)) (min n 1000) ts rs got) ∧ (n < 0 → Giv k (c + 1) (List.range (c + 1)).reverse (-(max n (-1000))) ts rs got)

theorem push_both (b : Box) (k : Int) (ts : List Tree) (a : Nat) (n : Int) (hs : (Tree.split b k ts).sound = true) (hk : (Tree.split b k ts).kinds) (hz : (Tree.split b k ts).size ≤ 900) (ha : a < ts.length) : ∃ rs c got, PushT k b ts a n rs c got ∧ PushG k ts n rs c got ∧ idls rs = idls ts := by
  unfold Tree.sound at hs
  simp only [Bool.and_eq_true, decide_eq_true_eq] at hs
  change 1 + sizes ts ≤ 900 at hz
  have h2 := hs.1.1
  have hll := length_sizes ts
  have hsd : (1 ≤ b.w ∧ b.w ≤ 1000) ∧ (1 ≤ b.h ∧ b.h ≤ 1000) := by
    have := hs.1.2
    simp only [sideB, Bool.and_eq_true, decide_eq_true_eq] at this
    exact this
  have hx := sides_ext b k hsd
  have hrl := (rooms_le ts b k k hk.1 hk.1 hk.2 hs.2.1).1
  obtain ⟨c, hc⟩ : ∃ c, c = min a (ts.length - 2) := ⟨_, rfl⟩
  have hcl : c + 1 < ts.length := by omega
  have hsame : ∀ rs, Set1 ts b k 0 rs → SameL b k ts rs := fun rs h => ⟨h.len, fun _ => h.sound, by rw [h.ext]; omega, fun _ => h.kinds, h.sizes⟩
  by_cases hn : 0 ≤ n
  · have hE : Enough k ts c n (min n 1000) := by
      obtain ⟨s, hsc⟩ : ∃ s, ts[c]? = some s := ⟨_, List.getElem?_eq_getElem (by omega)⟩
      have hsd2 := soundAll_at ts b k c s hsc hs.2.1
      simp only [Bool.and_eq_true] at hsd2
      have h4 := room_bound s k hsd2.1
      by_cases h5 : n ≤ 1000
      · exact .inl (by omega)
      · exact .inr ⟨by omega, s, hsc, by omega⟩
    obtain ⟨rs, got, h1, h3, h4, h5, h6⟩ := both_can b k hk.1 c (List.range' (c + 1) (ts.length - 1 - c)) List.nodup_range' (List.range' (c + 1) (ts.length - 1 - c)) [] n (min n 1000) ts rfl (.inr fun i hi => by cases hi) hn (by omega) hE (by omega) (fun j hj => by
      rw [List.mem_range'_1] at hj
      omega) hs.2.1 hk.2 (by omega) (by omega)
    have hl := draw_lim (b := b) h1
    rw [List.length_range'] at hl
    exact ⟨rs, c, got, ⟨h2, by omega, ha, hc, ⟨fun _ => h1, fun e => absurd e (by omega)⟩, by omega, hsame rs h3⟩, ⟨fun _ => h6, fun e => absurd e (by omega)⟩, h3.ids⟩
  · obtain ⟨rs, got, h1, h3, h4, h5, h6⟩ := both_can b k hk.1 (c + 1) (List.range (c + 1)).reverse (back_nodup (c + 1)) (List.range (c + 1)).reverse [] (-(max n (-1000))) (-(max n (-1000))) ts rfl (.inr fun i hi => by cases hi) (by omega) (by omega) (.inl rfl) hcl (fun j hj => by
      rw [List.mem_reverse, List.mem_range] at hj
      omega) hs.2.1 hk.2 (by omega) (by omega)
    have hl := draw_lim (b := b) h1
    rw [List.length_reverse, List.length_range] at hl
    exact ⟨rs, c, got, ⟨h2, by omega, ha, hc, ⟨fun e => absurd e hn, fun _ => h1⟩, by omega, hsame rs h3⟩, ⟨fun e => absurd e hn, fun _ => h6⟩, h3.ids⟩

end Go.Proofs.Ytkaaadbfmbkjeaa

namespace Go.Proofs.Ytkaaadbfmbkjeaa
open Go.RowKit
set_option linter.unusedVariables false
set_option maxRecDepth 20000

/-- The children while a border is moved. -/
structure BordN (w : World) (k wd ht : Int) (sl : Value) (g L cap : Nat) (fp : List Nat) (rs : List Tree) (c : Nat) (full : List Nat) (n got : Int) (wr : World) (us : List Tree) : Prop where
  giv : Giv k c full n us rs got
  kids : KidsAt g L cap fp us wr
  mid : Mid w k wd ht k wd ht 0 sl (.slice (some ⟨g, 0, none⟩) L cap) wr
/-- One child, and what else is read while it is stretched. -/
def KidC (w : World) (k : Int) (g L cap i : Nat) (wr : World) (nn : Node) (sl : Value) : Prop := ∀ X, Below wr.heap.size wr X → (∀ o, X.frozen? ⟨g, o, none⟩ = false) ∧ KidIn X g (i * 5) nn sl ∧ X.cell? ⟨w.heap.size + 1 + 1, 4, none⟩ = some (.slice (some ⟨g, 0, none⟩) L cap) ∧ X.cell? ⟨w.heap.size, 0, none⟩ = some (.int .i64 k)
/-- A child is stretched by so many lines, and put back. -/
def KidS (w : World) (k : Int) (g L cap i : Nat) (d : Int) (P : World → Prop) (wr : World) : Prop := ∃ nn sa sn sc, KidC w k g L cap i wr nn (.slice sa sn sc) ∧ ∀ X, Below wr.heap.size wr X → Calls Try.prog 70 #[.agg (nodeV nn (.slice sa sn sc)), .int .i64 k, .int .i64 d] X fun e w' => ∃ nr ta tn tc, e = .returned (.agg (nodeV nr (.slice ta tn tc))) ∧ Below wr.heap.size wr w' ∧ P (set5at w' g (i * 5) nr (.slice ta tn tc))
theorem kidC_of {w : World} {k wd ht : Int} {sl : Value} {g L cap i : Nat} {fp : List Nat} {us : List Tree} {wr : World} {nn : Node} {sn : Value} (hK : KidsAt g L cap fp us wr) (hM : Mid w k wd ht k wd ht 0 sl (.slice (some ⟨g, 0, none⟩) L cap) wr) (hk : KidIn wr g (i * 5) nn sn) : KidC w k g L cap i wr nn sn := fun X hX => by
  have hfz : ∀ o, wr.frozen? ⟨g, o, none⟩ = false := fun o => by
    obtain ⟨cs, fs, h1, _⟩ := hK.row
    exact World.ownsRow.frozenAt h1 o
  have h := kid_cells (w := w) (L := L) (cap := cap) hK.lt (lt_of_block hM.new) hfz hk (cell_atL hM.new 4) X hX
  exact ⟨h.1, h.2.1, h.2.2, cell_atL (hM.below' hX).par 0⟩
theorem kidS_of {w : World} {k wd ht : Int} {sl : Value} {g L cap i : Nat} {fp : List Nat} {us : List Tree} {wr : World} {t t' : Tree} {d : Int} (hK : KidsAt g L cap fp us wr) (hM : Mid w k wd ht k wd ht 0 sl (.slice (some ⟨g, 0, none⟩) L cap) wr) (hg : w.heap.size + 2 < g) (hti : us[i]? = some t) (hst : Str t k d t') (P : World → Prop) (hP : ∀ W, KidsAt g L cap fp (us.set i t') W → Mid w k wd ht k wd ht 0 sl (.slice (some ⟨g, 0, none⟩) L cap) W → P W) : KidS w k g L cap i d P wr := by
  obtain ⟨sa, sn, sc, h1, h2, h3⟩ := kid_next hK hM hg hti (str_good t) hst
  refine ⟨nodeOf t, sa, sn, sc, kidC_of hK hM h1, fun X hX => (h3 X hX).mono ?_⟩
  rintro e w' ⟨ta, tn, tc, he, hb, hk, hm⟩
  exact ⟨nodeOf t', ta, tn, tc, he, hb, hP _ hk hm⟩

/-- A round. -/
theorem bord_next {w : World} {k wd ht : Int} {sl : Value} {g L cap : Nat} {fp : List Nat} {rs : List Tree} {c : Nat} {full : List Nat} {n got : Int} {wr : World} {us : List Tree} (hg : w.heap.size + 2 < g) (h : BordN w k wd ht sl g L cap fp rs c full n got wr us) (hn : 0 < n) :
    (giveF k us full = -1 ∧ us = rs ∧ got = 0) ∨ ∃ (j : Nat) (d r got' : Int), giveF k us full = j ∧ j < L ∧ d = min n r ∧ 0 < d ∧ d ≤ 1000 ∧ got = d + got' ∧ (∃ nn sa sn sc, KidC w k g L cap j wr nn (.slice sa sn sc) ∧ ∀ X, Below wr.heap.size wr X → Calls Try.prog 87 #[.agg (nodeV nn (.slice sa sn sc)), .int .i64 k] X fun e w' => e = .returned (.int .i64 r) ∧ Below wr.heap.size wr w') ∧
      ∀ X, Below wr.heap.size wr X → KidS w k g L cap j (-d) (KidS w k g L cap c d fun W => ∃ us2, BordN w k wd ht sl g L cap fp rs c full (n - d) got' W us2) X := by
  obtain ⟨hG, hK, hM⟩ := h
  cases hG with
  | done _ _ hf hd =>
    rcases hd with hd | hd
    · omega
    · exact .inl ⟨hd, rfl, rfl⟩
  | step _ d _ _ j t t' s s' got' hf h0 hgf ht hd hd0 hd1 hst hs hst2 hrest =>
    obtain ⟨sa, sn, sc, f, e1, e2, e3⟩ := hK.one j t ht
    refine .inr ⟨j, d, t.room k, got', hgf, ?_, hd, hd0, hd1, rfl, ⟨nodeOf t, sa, sn, sc, kidC_of hK hM e2, fun X hX => (hf.rooms t (List.mem_of_getElem? ht) _ f X k (e1.below hX)).mono fun e w' h2 => ⟨h2.1, below_step hX h2.2⟩⟩, fun X hX => ?_⟩
    · rw [← hK.len]
      exact (List.getElem?_eq_some_iff.1 ht).1
    · refine kidS_of (hK.below hX) (hM.below' hX) hg ht hst _ fun W hK2 hM2 => ?_
      refine kidS_of hK2 hM2 hg hs hst2 _ fun W3 hK3 hM3 => ⟨_, hrest, hK3, hM3⟩
theorem bord_end {w : World} {k wd ht : Int} {sl : Value} {g L cap : Nat} {fp : List Nat} {rs : List Tree} {c : Nat} {full : List Nat} {n got : Int} {wr : World} {us : List Tree} (h : BordN w k wd ht sl g L cap fp rs c full n got wr us) (hn : ¬ 0 < n) : us = rs ∧ got = 0 := by
  obtain ⟨hG, hK, hM⟩ := h
  cases hG with
  | done _ _ hf hd => exact ⟨rfl, rfl⟩
  | step _ d _ _ j t t' s s' got' hf h0 => omega
theorem bord_fit {w : World} {k wd ht : Int} {sl : Value} {g L cap : Nat} {fp : List Nat} {rs : List Tree} {c : Nat} {full : List Nat} {n got : Int} {wr : World} {us : List Tree} (h : BordN w k wd ht sl g L cap fp rs c full n got wr us) : Fit k us := by
  obtain ⟨hG, hK, hM⟩ := h
  cases hG with
  | done _ _ hf hd => exact hf
  | step _ d _ _ j t t' s s' got' hf h0 => exact hf

/-- What border answers. -/
def BordA (b : Box) (k : Int) (rs : List Tree) (mv : Int) (fp : List Nat) (w : World) (e : Ending) (w' : World) : Prop := ∃ sa sn sc fp', e = .returned (.tuple #[.agg (nodeV (nodeOf (.split b k rs)) (.slice sa sn sc)), .int .i64 mv]) ∧ (nodeOf (.split b k rs)).In w' (.slice sa sn sc) fp' ∧ (∀ q ∈ fp', q ∈ fp ∨ w.heap.size ≤ q) ∧ Below w.heap.size w w'
theorem bord_answer {w : World} {b : Box} {k : Int} {sl : Value} {g L cap : Nat} {fp : List Nat} {rs : List Tree} {wr : World} (mv : Int) (hK : KidsAt g L cap fp rs wr) (hM : Mid w k b.w b.h k b.w b.h 0 sl (.slice (some ⟨g, 0, none⟩) L cap) wr) (hg : w.heap.size + 2 < g) (hlt : ∀ q ∈ fp, q < w.heap.size) (v0 v1 v2 v3 v4 : Value) :
    BordA b k rs mv fp w (.returned (.tuple #[.agg #[.int .i64 k, .int .i64 b.w, .int .i64 b.h, .int .i64 0, .slice (some ⟨g, 0, none⟩) L cap], .int .i64 mv])) (set5 wr (w.heap.size + 1) v0 v1 v2 v3 v4) := by
  obtain ⟨sa, sn, sc, fp', he, h1, h2, h3⟩ := strN_end (t' := .split b k rs) hK hM hg hlt rfl v0 v1 v2 v3 v4
  refine ⟨sa, sn, sc, fp', ?_, h1, h2, h3⟩
  have := (Value.agg.injEq _ _).mp ((Ending.returned.injEq _ _).mp he)
  rw [this]

end Go.Proofs.Ytkaaadbfmbkjeaa
