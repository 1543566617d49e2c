/-
  Layouts: findCell over a function, Find and At on both sides.
  Layouts: Find and At on both sides; the statement on looks, walked.
-/
import Derived.Test.YtnepemlagnnngaaCNx
namespace Go.Proofs.Ytnepemlagnnngaa
open Go.RowKit
set_option linter.unusedVariables false
set_option maxRecDepth 100000

def EntersL (g : Nat) : Prop := ∀ args w, (callFunc g args).run Try.prog w = .ok (.enter g args) w
/-- A function that tells of cells. -/
def PredL (w : World) (g : Nat) (lb : Array Value) (P : CellV → Bool) : Prop := ∀ X c, Below w.heap.size w X → Calls Try.prog g (#[.agg c.vals] ++ lb) X fun e w' => e = .returned (.bool (P c)) ∧ Below X.heap.size X w'
def isPane (P : CellV → Bool) (c : CellV) : Bool := decide (c.kind = 1) && P c
/-- The first cell of which that holds. -/
def FC (l : List CellV) (Q : CellV → Bool) (i : Nat) (c : CellV) : Prop := l[i]? = some c ∧ Q c = true ∧ ∀ (j : Nat) d, j < i → l[j]? = some d → Q d = false
def FindIs (l : List CellV) (Q : CellV → Bool) (i : Nat) (c : CellV) (b : Bool) : Prop :=
  (readF l = none ∧ i = 0 ∧ b = false) ∨ ((readF l).isSome = true ∧ (∀ (j : Nat) d, l[j]? = some d → Q d = false) ∧ i = 0 ∧ b = false) ∨ ((readF l).isSome = true ∧ FC l Q i c ∧ b = true)
theorem fc_or (l : List CellV) (Q : CellV → Bool) : (∃ i c, FC l Q i c) ∨ ∀ (j : Nat) d, l[j]? = some d → Q d = false := by
  induction l with
  | nil => exact .inr fun j d h => by simp at h
  | cons a l ih =>
    cases ha : Q a with
    | true => exact .inl ⟨0, a, rfl, ha, fun j d hj => by omega⟩
    | false =>
      rcases ih with ⟨i, c, h1, h2, h3⟩ | h
      · refine .inl ⟨i + 1, c, by simpa using h1, h2, fun j d hj hd => ?_⟩
        cases j with
        | zero => simp at hd; subst hd; exact ha
        | succ j => exact h3 j d (by omega) (by simpa using hd)
      · refine .inr fun j d hd => ?_
        cases j with
        | zero => simp at hd; subst hd; exact ha
        | succ j => exact h j d (by simpa using hd)
theorem find_ex (l : List CellV) (Q : CellV → Bool) : ∃ i c b, FindIs l Q i c b := by
  cases hr : readF l with
  | none => exact ⟨0, ⟨0, 0, 0, 0, 0, 0, 0⟩, false, .inl ⟨hr, rfl, rfl⟩⟩
  | some t =>
    rcases fc_or l Q with ⟨i, c, h⟩ | h
    · exact ⟨i, c, true, .inr (.inr ⟨by rw [hr]; rfl, h, rfl⟩)⟩
    · exact ⟨0, ⟨0, 0, 0, 0, 0, 0, 0⟩, false, .inr (.inl ⟨by rw [hr]; rfl, h, rfl, rfl⟩)⟩
/-- In a layout, how far the search has come, and what that means. -/
theorem FindIs.at_miss {l : List CellV} {Q : CellV → Bool} {i : Nat} {c : CellV} {b : Bool} (h : FindIs l Q i c b) (hs : (readF l).isSome = true) (hm : ∀ (j : Nat) d, l[j]? = some d → Q d = false) : i = 0 ∧ b = false := by
  rcases h with ⟨h1, _⟩ | ⟨_, _, h3, h4⟩ | ⟨_, h2, _⟩
  · rw [h1] at hs; cases hs
  · exact ⟨h3, h4⟩
  · have := hm i c h2.1
    rw [h2.2.1] at this
    cases this
theorem FindIs.at_hit {l : List CellV} {Q : CellV → Bool} {i : Nat} {c : CellV} {b : Bool} (h : FindIs l Q i c b) (hs : (readF l).isSome = true) {j : Nat} {d : CellV} (hd : FC l Q j d) : j = i ∧ d = c ∧ b = true := by
  rcases h with ⟨h1, _⟩ | ⟨_, h2, _⟩ | ⟨_, h2, h3⟩
  · rw [h1] at hs; cases hs
  · have := h2 j d hd.1
    rw [hd.2.1] at this
    cases this
  · have e : j = i := by
      rcases Nat.lt_trichotomy j i with h | h | h
      · have := h2.2.2 j d h hd.1; rw [hd.2.1] at this; cases this
      · exact h
      · have := hd.2.2 i c h h2.1; rw [h2.2.1] at this; cases this
    subst e
    have := hd.1
    rw [h2.1] at this
    exact ⟨rfl, (Option.some.inj this).symm, h3⟩
theorem FindIs.at_none {l : List CellV} {Q : CellV → Bool} {i : Nat} {c : CellV} {b : Bool} (h : FindIs l Q i c b) (hs : readF l = none) : i = 0 ∧ b = false := by
  rcases h with ⟨_, h3, h4⟩ | ⟨h1, _⟩ | ⟨h1, _⟩
  · exact ⟨h3, h4⟩
  · rw [hs] at h1; cases h1
  · rw [hs] at h1; cases h1
theorem read_len {l : List CellV} (hs : (readF l).isSome = true) : l.length ≤ 63 ∧ l ≠ [] := by
  cases hr : readF l with
  | none => rw [hr] at hs; cases hs
  | some t =>
    refine ⟨(readF_lay hr).size, ?_⟩
    rintro rfl
    rw [readF_none (takeF_nil 0)] at hr
    cases hr

set_option maxHeartbeats 2000000 in
theorem findCell_any (v : Value) (l : List CellV) (F : Nat) (lb : Array Value) (P : CellV → Bool) (i : Nat) (c : CellV) (bb : Bool) (w : World) (h : CellsIn w v l) (hE : EntersL F) (hP : PredL w F lb P) (hI : FindIs l (isPane P) i c bb) : Calls Try.prog 53 #[v, .func (.func F) #[] lb] w fun x w' => x = .returned (.tuple #[.int .i64 (i : Int), .bool bb]) ∧ Below w.heap.size w w' := by
  have HR : Hid (Calls Try.prog 24 #[v] w (ReadGood l w)) := read_any v l w h
  have HV : Hid (CellsIn w v l) := h
  have HP : Hid (PredL w F lb P) := hP
  have HI : Hid (FindIs l (isPane P) i c bb) := hI
  unfold EntersL at hE
  clear h hP hI
  go_enter Try.func53, Try.ntmps53
  go_wp2_with fail
  refine HR.out.mono ?_
  rintro x w1 (⟨hF, rfl, hb⟩ | ⟨t, T, g, fp, hF, rfl, hAt, hnd, hge, hb⟩)
  · have HE : Hid (i = 0 ∧ bb = false) := HI.out.at_none hF
    unfold nilPart
    clear hF
    go_wp2
    go_ret2
    exact ⟨by rw [HE.out.1, HE.out.2]; rfl, hb⟩
  · have HS : Hid ((readF l).isSome = true) := by show _ = _; rw [hF]; rfl
    obtain ⟨hl63, hne⟩ := read_len HS.out
    obtain ⟨b, off, cap, e1, _, hs⟩ := HV.out.seen hne
    obtain ⟨n, hn⟩ : ∃ n, l.length = n := ⟨_, rfl⟩
    rw [hn] at e1 hl63
    subst e1
    have HN : Hid (l.length = n) := hn
    have HSe : Hid (SeenIn w b off l) := hs
    have HB1 : Hid (Below w.heap.size w w1) := hb
    clear hF hAt hnd hge hb hne hs hn HV
    go_wp2
    go_loopw [13] (fun v wr => ∃ j : Nat, j ≤ n ∧ v = .int .i64 j ∧ Hid (∀ (a : Nat) d, a < j → l[a]? = some d → isPane P d = false) ∧ Hid (Below w.heap.size w wr)) (fun v _ => n - (intOf v).toNat)
    case atStart => exact ⟨0, Nat.zero_le _, rfl, fun a d ha => by omega, HB1⟩
    case round =>
      obtain ⟨j, hj, rfl, HJ, HB⟩ := hrel
      by_cases hlt : j < n
      · obtain ⟨y, hy⟩ : ∃ y, l[j]? = some y := ⟨_, List.getElem?_eq_getElem (by rw [HN.out]; exact hlt)⟩
        obtain ⟨q0, q1, q2, q3, q4, q5, q6⟩ := (HSe.out.below HB.out) j y hy
        have HY : Hid (l[j]? = some y) := hy
        have HA : Hid (∀ o, Below w.heap.size w (wr.alloc o)) := fun o => below_step HB.out ((Below.refl _ _).alloc (Nat.le_refl _) o)
        have HCa : Hid (∀ o, Calls Try.prog F (#[.agg #[.int .i64 y.depth, .int .i64 y.kind, .int .i64 y.x, .int .i64 y.y, .int .i64 y.w, .int .i64 y.h, .int .i64 y.p]] ++ lb) (wr.alloc o) fun e w' => e = .returned (.bool (P y)) ∧ Below (wr.alloc o).heap.size (wr.alloc o) w') := fun o => HP.out _ y (HA.out o)
        have HNx : Hid (isPane P y = false → ∀ (a : Nat) d, a < j + 1 → l[a]? = some d → isPane P d = false) := fun hq a d ha hd => by
          by_cases e : a = j
          · subst e; rw [HY.out] at hd; cases hd; exact hq
          · exact HJ.out a d (by omega) hd
        clear hy
        by_cases hk : y.kind = 1
        · have hk' : (y.kind == 1) = true := by simpa using hk
          have HK : Hid (isPane P y = P y) := by show _ = _; unfold isPane; rw [decide_eq_true hk]; rfl
          clear hk
          go_wp2_with fail
          refine (HCa.out _).mono ?_
          rintro x w2 ⟨rfl, hb2⟩
          obtain ⟨r, hr⟩ : ∃ r, P y = r := ⟨_, rfl⟩
          rw [hr]
          have HRr : Hid (P y = r) := hr
          have HB2 : Hid (Below w.heap.size w w2) := below_step (HA.out _) hb2
          clear hr hb2 HCa
          cases r
          · go_wp2
            go_roundw
            case rel => exact ⟨j + 1, by omega, by go_num, HNx.out (by rw [HK.out, HRr.out]), HB2⟩
            case measure => simp [intOf]; omega
          · have HH : Hid (j = i ∧ y = c ∧ bb = true) := HI.out.at_hit HS.out ⟨HY.out, by rw [HK.out, HRr.out], HJ.out⟩
            go_wp2
            go_ret2
            exact ⟨by rw [HH.out.2.2, ← HH.out.1]; rfl, HB2.out⟩
        · have hk' : (y.kind == 1) = false := by simpa using hk
          have HK : Hid (isPane P y = false) := by show _ = _; unfold isPane; rw [decide_eq_false hk]; rfl
          clear hk HCa
          go_wp2
          go_roundw
          case rel => exact ⟨j + 1, by omega, by go_num, HNx.out HK.out, HA.out _⟩
          case measure => simp [intOf]; omega
      · have HE : Hid (i = 0 ∧ bb = false) := HI.out.at_miss HS.out fun a d hd => HJ.out a d (by have := (List.getElem?_eq_some_iff.1 hd).1; rw [HN.out] at this; omega) hd
        go_wp2
        go_ret2
        exact ⟨by rw [HE.out.1, HE.out.2]; rfl, HB.out⟩

end Go.Proofs.Ytnepemlagnnngaa

namespace Go.Proofs.Ytnepemlagnnngaa
open Go.RowKit
set_option linter.unusedVariables false
set_option maxRecDepth 100000

def hasId (pane : Int) (c : CellV) : Bool := c.p == pane
/-- Does a place lie in a cell? -/
def holdsXY (x y : Int) (c : CellV) : Bool := ((decide (c.x ≤ x) && decide (x < IntKind.i64.wrap (c.x + c.w))) && decide (c.y ≤ y)) && decide (y < IntKind.i64.wrap (c.y + c.h))

theorem enters_find : EntersL 54 := by intro args w; kernel_rfl
theorem find1_ok (pane : Int) (g : Nat) (w : World) (hg : w.cell? ⟨g, 0, none⟩ = some (.int .i64 pane)) : PredL w 54 #[.pointer (some ⟨g, 0, none⟩)] (hasId pane) := by
  intro X c hX
  have hc : ∀ o, (X.alloc o).cell? ⟨g, 0, none⟩ = some (.int .i64 pane) := fun o => ((below_step hX ((Below.refl _ _).alloc (Nat.le_refl _) o)).cell (p := ⟨g, 0, none⟩) (World.block_lt_of_cell? w _ hg)).trans hg
  have HB : Hid (∀ o, Below X.heap.size X (X.alloc o)) := fun o => (Below.refl _ _).alloc (Nat.le_refl _) o
  show Calls Try.prog 54 #[.agg #[.int .i64 c.depth, .int .i64 c.kind, .int .i64 c.x, .int .i64 c.y, .int .i64 c.w, .int .i64 c.h, .int .i64 c.p], .pointer (some ⟨g, 0, none⟩)] X _
  obtain ⟨r, hr⟩ : ∃ r, (c.p == pane) = r := ⟨_, rfl⟩
  have HR : Hid (hasId pane c = r) := hr
  clear hX hg
  go_enter Try.func54, Try.ntmps54
  go_wp2
  go_ret
  exact ⟨by rw [HR.out]; rfl, HB.out _⟩
theorem find_prog (v : Value) (l : List CellV) (pane : Int) (i : Nat) (c : CellV) (b : Bool) (w : World) (h : CellsIn w v l) (hI : FindIs l (isPane (hasId pane)) i c b) : Calls Try.prog 21 #[v, .int .i64 pane] w fun x w' => x = .returned (.tuple #[.int .i64 (i : Int), .bool b]) ∧ Below w.heap.size w w' := by
  have HC : Hid (Calls Try.prog 53 #[v, .func (.func 54) #[] #[.pointer (some ⟨w.heap.size, 0, none⟩)]] (w.alloc (.cells #[.int .i64 pane] 3)) fun x w' => x = .returned (.tuple #[.int .i64 (i : Int), .bool b]) ∧ Below w.heap.size w w') := by
    have hb := (Below.refl w.heap.size w).alloc (Nat.le_refl _) (.cells #[.int .i64 pane] 3)
    refine (findCell_any v l _ _ (hasId pane) i c b (w.alloc (.cells #[.int .i64 pane] 3)) (h.below hb) enters_find (find1_ok pane w.heap.size _ (by rw [cell_newL]; rfl)) hI).mono fun x w' h2 => ⟨h2.1, below_step hb h2.2⟩
  clear h hI
  go_enter Try.func21, Try.ntmps21
  go_wp2_with fail
  refine HC.out.mono ?_
  rintro x w1 ⟨rfl, hb⟩
  go_wp2
  go_ret2
  exact ⟨rfl, hb⟩
end Go.Proofs.Ytnepemlagnnngaa
