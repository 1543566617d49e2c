/-
  Layouts: findCell over a function, Find and At on both sides.
  Layouts: Find and At on both sides; the statement on looks, walked.
  Layouts: the document's At; the statement on looks, walked.
  Layouts: where the cells of a layout lie; what lies beside what.
-/
import Derived.Test.YtlaelkcmeaiajaaCOp
namespace Go.Proofs.Ytlaelkcmeaiajaa
open Go.RowKit
set_option linter.unusedVariables false
set_option maxRecDepth 100000

def EntersL (g : Nat) : Prop := ∀ args w, (callFunc g args).run Try.prog w = .ok (.enter g args) w
/-- A function that tells of cells. -/
def PredL (w : World) (g : Nat) (lb : Array Value) (P : CellV → Bool) : Prop := ∀ X c, Below w.heap.size w X → Calls Try.prog g (#[.agg c.vals] ++ lb) X fun e w' => e = .returned (.bool (P c)) ∧ Below X.heap.size X w'
def isPane (P : CellV → Bool) (c : CellV) : Bool := decide (c.kind = 1) && P c
/-- The first cell of which that holds. -/
def FC (l : List CellV) (Q : CellV → Bool) (i : Nat) (c : CellV) : Prop := l[i]? = some c ∧ Q c = true ∧ ∀ (j : Nat) d, j < i → l[j]? = some d → Q d = false
def FindIs (l : List CellV) (Q : CellV → Bool) (i : Nat) (c : CellV) (b : Bool) : Prop :=
  (readF l = none ∧ i = 0 ∧ b = false) ∨ ((readF l).isSome = true ∧ (∀ (j : Nat) d, l[j]? = some d → Q d = false) ∧ i = 0 ∧ b = false) ∨ ((readF l).isSome = true ∧ FC l Q i c ∧ b = true)
theorem fc_or (l : List CellV) (Q : CellV → Bool) : (∃ i c, FC l Q i c) ∨ ∀ (j : Nat) d, l[j]? = some d → Q d = false := by
  induction l with
  | nil => exact .inr fun j d h => by simp at h
  | cons a l ih =>
    cases ha : Q a with
    | true => exact .inl ⟨0, a, rfl, ha, fun j d hj => by omega⟩
    | false =>
      rcases ih with ⟨i, c, h1, h2, h3⟩ | h
      · refine .inl ⟨i + 1, c, by simpa using h1, h2, fun j d hj hd => ?_⟩
        cases j with
        | zero => simp at hd; subst hd; exact ha
        | succ j => exact h3 j d (by omega) (by simpa using hd)
      · refine .inr fun j d hd => ?_
        cases j with
        | zero => simp at hd; subst hd; exact ha
        | succ j => exact h j d (by simpa using hd)
theorem find_ex (l : List CellV) (Q : CellV → Bool) : ∃ i c b, FindIs l Q i c b := by
  cases hr : readF l with
  | none => exact ⟨0, ⟨0, 0, 0, 0, 0, 0, 0⟩, false, .inl ⟨hr, rfl, rfl⟩⟩
  | some t =>
    rcases fc_or l Q with ⟨i, c, h⟩ | h
    · exact ⟨i, c, true, .inr (.inr ⟨by rw [hr]; rfl, h, rfl⟩)⟩
    · exact ⟨0, ⟨0, 0, 0, 0, 0, 0, 0⟩, false, .inr (.inl ⟨by rw [hr]; rfl, h, rfl, rfl⟩)⟩
/-- In a layout, how far the search has come, and what that means. -/
theorem FindIs.at_miss {l : List CellV} {Q : CellV → Bool} {i : Nat} {c : CellV} {b : Bool} (h : FindIs l Q i c b) (hs : (readF l).isSome = true) (hm : ∀ (j : Nat) d, l[j]? = some d → Q d = false) : i = 0 ∧ b = false := by
  rcases h with ⟨h1, _⟩ | ⟨_, _, h3, h4⟩ | ⟨_, h2, _⟩
  · rw [h1] at hs; cases hs
  · exact ⟨h3, h4⟩
  · have := hm i c h2.1
    rw [h2.2.1] at this
    cases this
theorem FindIs.at_hit {l : List CellV} {Q : CellV → Bool} {i : Nat} {c : CellV} {b : Bool} (h : FindIs l Q i c b) (hs : (readF l).isSome = true) {j : Nat} {d : CellV} (hd : FC l Q j d) : j = i ∧ d = c ∧ b = true := by
  rcases h with ⟨h1, _⟩ | ⟨_, h2, _⟩ | ⟨_, h2, h3⟩
  · rw [h1] at hs; cases hs
  · have := h2 j d hd.1
    rw [hd.2.1] at this
    cases this
  · have e : j = i := by
      rcases Nat.lt_trichotomy j i with h | h | h
      · have := h2.2.2 j d h hd.1; rw [hd.2.1] at this; cases this
      · exact h
      · have := hd.2.2 i c h h2.1; rw [h2.2.1] at this; cases this
    subst e
    have := hd.1
    rw [h2.1] at this
    exact ⟨rfl, (Option.some.inj this).symm, h3⟩
theorem FindIs.at_none {l : List CellV} {Q : CellV → Bool} {i : Nat} {c : CellV} {b : Bool} (h : FindIs l Q i c b) (hs : readF l = none) : i = 0 ∧ b = false := by
  rcases h with ⟨_, h3, h4⟩ | ⟨h1, _⟩ | ⟨h1, _⟩
  · exact ⟨h3, h4⟩
  · rw [hs] at h1; cases h1
  · rw [hs] at h1; cases h1
theorem read_len {l : List CellV} (hs : (readF l).isSome = true) : l.length ≤ 63 ∧ l ≠ [] := by
  cases hr : readF l with
  | none => rw [hr] at hs; cases hs
  | some t =>
    refine ⟨(readF_lay hr).size, ?_⟩
    rintro rfl
    rw [readF_none (takeF_nil 0)] at hr
    cases hr

set_option maxHeartbeats 2000000 in
theorem findCell_any (v : Value) (l : List CellV) (F : Nat) (lb : Array Value) (P : CellV → Bool) (i : Nat) (c : CellV) (bb : Bool) (w : World) (h : CellsIn w v l) (hE : EntersL F) (hP : PredL w F lb P) (hI : FindIs l (isPane P) i c bb) : Calls Try.prog 14 #[v, .func (.func F) #[] lb] w fun x w' => x = .returned (.tuple #[.int .i64 (i : Int), .bool bb]) ∧ Below w.heap.size w w' := by
  have HR : Hid (Calls Try.prog 22 #[v] w (ReadGood l w)) := read_any v l w h
  have HV : Hid (CellsIn w v l) := h
  have HP : Hid (PredL w F lb P) := hP
  have HI : Hid (FindIs l (isPane P) i c bb) := hI
  unfold EntersL at hE
  clear h hP hI
  go_enter Try.func14, Try.ntmps14
  go_wp2_with fail
  refine HR.out.mono ?_
  rintro x w1 (⟨hF, rfl, hb⟩ | ⟨t, T, g, fp, hF, rfl, hAt, hnd, hge, hb⟩)
  · have HE : Hid (i = 0 ∧ bb = false) := HI.out.at_none hF
    unfold nilPart
    clear hF
    go_wp2
    go_ret2
    exact ⟨by rw [HE.out.1, HE.out.2]; rfl, hb⟩
  · have HS : Hid ((readF l).isSome = true) := by show _ = _; rw [hF]; rfl
    obtain ⟨hl63, hne⟩ := read_len HS.out
    obtain ⟨b, off, cap, e1, _, hs⟩ := HV.out.seen hne
    obtain ⟨n, hn⟩ : ∃ n, l.length = n := ⟨_, rfl⟩
    rw [hn] at e1 hl63
    subst e1
    have HN : Hid (l.length = n) := hn
    have HSe : Hid (SeenIn w b off l) := hs
    have HB1 : Hid (Below w.heap.size w w1) := hb
    clear hF hAt hnd hge hb hne hs hn HV
    go_wp2
    go_loopw [13] (fun v wr => ∃ j : Nat, j ≤ n ∧ v = .int .i64 j ∧ Hid (∀ (a : Nat) d, a < j → l[a]? = some d → isPane P d = false) ∧ Hid (Below w.heap.size w wr)) (fun v _ => n - (intOf v).toNat)
    case atStart => exact ⟨0, Nat.zero_le _, rfl, fun a d ha => by omega, HB1⟩
    case round =>
      obtain ⟨j, hj, rfl, HJ, HB⟩ := hrel
      by_cases hlt : j < n
      · obtain ⟨y, hy⟩ : ∃ y, l[j]? = some y := ⟨_, List.getElem?_eq_getElem (by rw [HN.out]; exact hlt)⟩
        obtain ⟨q0, q1, q2, q3, q4, q5, q6⟩ := (HSe.out.below HB.out) j y hy
        have HY : Hid (l[j]? = some y) := hy
        have HA : Hid (∀ o, Below w.heap.size w (wr.alloc o)) := fun o => below_step HB.out ((Below.refl _ _).alloc (Nat.le_refl _) o)
        have HCa : Hid (∀ o, Calls Try.prog F (#[.agg #[.int .i64 y.depth, .int .i64 y.kind, .int .i64 y.x, .int .i64 y.y, .int .i64 y.w, .int .i64 y.h, .int .i64 y.p]] ++ lb) (wr.alloc o) fun e w' => e = .returned (.bool (P y)) ∧ Below (wr.alloc o).heap.size (wr.alloc o) w') := fun o => HP.out _ y (HA.out o)
        have HNx : Hid (isPane P y = false → ∀ (a : Nat) d, a < j + 1 → l[a]? = some d → isPane P d = false) := fun hq a d ha hd => by
          by_cases e : a = j
          · subst e; rw [HY.out] at hd; cases hd; exact hq
          · exact HJ.out a d (by omega) hd
        clear hy
        by_cases hk : y.kind = 1
        · have hk' : (y.kind == 1) = true := by simpa using hk
          have HK : Hid (isPane P y = P y) := by show _ = _; unfold isPane; rw [decide_eq_true hk]; rfl
          clear hk
          go_wp2_with fail
          refine (HCa.out _).mono ?_
          rintro x w2 ⟨rfl, hb2⟩
          obtain ⟨r, hr⟩ : ∃ r, P y = r := ⟨_, rfl⟩
          rw [hr]
          have HRr : Hid (P y = r) := hr
          have HB2 : Hid (Below w.heap.size w w2) := below_step (HA.out _) hb2
          clear hr hb2 HCa
          cases r
          · go_wp2
            go_roundw
            case rel => exact ⟨j + 1, by omega, by go_num, HNx.out (by rw [HK.out, HRr.out]), HB2⟩
            case measure => simp [intOf]; omega
          · have HH : Hid (j = i ∧ y = c ∧ bb = true) := HI.out.at_hit HS.out ⟨HY.out, by rw [HK.out, HRr.out], HJ.out⟩
            go_wp2
            go_ret2
            exact ⟨by rw [HH.out.2.2, ← HH.out.1]; rfl, HB2.out⟩
        · have hk' : (y.kind == 1) = false := by simpa using hk
          have HK : Hid (isPane P y = false) := by show _ = _; unfold isPane; rw [decide_eq_false hk]; rfl
          clear hk HCa
          go_wp2
          go_roundw
          case rel => exact ⟨j + 1, by omega, by go_num, HNx.out HK.out, HA.out _⟩
          case measure => simp [intOf]; omega
      · have HE : Hid (i = 0 ∧ bb = false) := HI.out.at_miss HS.out fun a d hd => HJ.out a d (by have := (List.getElem?_eq_some_iff.1 hd).1; rw [HN.out] at this; omega) hd
        go_wp2
        go_ret2
        exact ⟨by rw [HE.out.1, HE.out.2]; rfl, HB.out⟩

end Go.Proofs.Ytlaelkcmeaiajaa

namespace Go.Proofs.Ytlaelkcmeaiajaa
open Go.RowKit
set_option linter.unusedVariables false
set_option maxRecDepth 100000

def hasId (pane : Int) (c : CellV) : Bool := c.p == pane
/-- Does a place lie in a cell? -/
def holdsXY (x y : Int) (c : CellV) : Bool := ((decide (c.x ≤ x) && decide (x < IntKind.i64.wrap (c.x + c.w))) && decide (c.y ≤ y)) && decide (y < IntKind.i64.wrap (c.y + c.h))

theorem enters_find : EntersL 27 := by intro args w; kernel_rfl
theorem find1_ok (pane : Int) (g : Nat) (w : World) (hg : w.cell? ⟨g, 0, none⟩ = some (.int .i64 pane)) : PredL w 27 #[.pointer (some ⟨g, 0, none⟩)] (hasId pane) := by
  intro X c hX
  have hc : ∀ o, (X.alloc o).cell? ⟨g, 0, none⟩ = some (.int .i64 pane) := fun o => ((below_step hX ((Below.refl _ _).alloc (Nat.le_refl _) o)).cell (p := ⟨g, 0, none⟩) (World.block_lt_of_cell? w _ hg)).trans hg
  have HB : Hid (∀ o, Below X.heap.size X (X.alloc o)) := fun o => (Below.refl _ _).alloc (Nat.le_refl _) o
  show Calls Try.prog 27 #[.agg #[.int .i64 c.depth, .int .i64 c.kind, .int .i64 c.x, .int .i64 c.y, .int .i64 c.w, .int .i64 c.h, .int .i64 c.p], .pointer (some ⟨g, 0, none⟩)] X _
  obtain ⟨r, hr⟩ : ∃ r, (c.p == pane) = r := ⟨_, rfl⟩
  have HR : Hid (hasId pane c = r) := hr
  clear hX hg
  go_enter Try.func27, Try.ntmps27
  go_wp2
  go_ret
  exact ⟨by rw [HR.out]; rfl, HB.out _⟩
theorem find_prog (v : Value) (l : List CellV) (pane : Int) (i : Nat) (c : CellV) (b : Bool) (w : World) (h : CellsIn w v l) (hI : FindIs l (isPane (hasId pane)) i c b) : Calls Try.prog 13 #[v, .int .i64 pane] w fun x w' => x = .returned (.tuple #[.int .i64 (i : Int), .bool b]) ∧ Below w.heap.size w w' := by
  have HC : Hid (Calls Try.prog 14 #[v, .func (.func 27) #[] #[.pointer (some ⟨w.heap.size, 0, none⟩)]] (w.alloc (.cells #[.int .i64 pane] 3)) fun x w' => x = .returned (.tuple #[.int .i64 (i : Int), .bool b]) ∧ Below w.heap.size w w') := by
    have hb := (Below.refl w.heap.size w).alloc (Nat.le_refl _) (.cells #[.int .i64 pane] 3)
    refine (findCell_any v l _ _ (hasId pane) i c b (w.alloc (.cells #[.int .i64 pane] 3)) (h.below hb) enters_find (find1_ok pane w.heap.size _ (by rw [cell_newL]; rfl)) hI).mono fun x w' h2 => ⟨h2.1, below_step hb h2.2⟩
  clear h hI
  go_enter Try.func13, Try.ntmps13
  go_wp2_with fail
  refine HC.out.mono ?_
  rintro x w1 ⟨rfl, hb⟩
  go_wp2
  go_ret2
  exact ⟨rfl, hb⟩
set_option maxHeartbeats 2000000 in
theorem find_ref (v : Value) (l : List CellV) (pane : Int) (i : Nat) (c : CellV) (bb : Bool) (w : World) (h : CellsIn w v l) (hI : FindIs l (isPane (hasId pane)) i c bb) : Calls Try.prog 17 #[v, .int .i64 pane] w fun x w' => x = .returned (.tuple #[.int .i64 (i : Int), .bool bb]) ∧ Below w.heap.size w w' := by
  have HT : Hid (Calls Try.prog 24 #[v] w (TreeGood l w)) := tree_any v l w h
  have HV : Hid (CellsIn w v l) := h
  have HI : Hid (FindIs l (isPane (hasId pane)) i c bb) := hI
  clear h hI
  go_enter Try.func17, Try.ntmps17
  go_wp2_with fail
  refine HT.out.mono ?_
  rintro x w1 ⟨hb, ⟨hr, rfl⟩ | ⟨t, sa, sn, sc, fp, hr, rfl, hIn⟩⟩
  · have HE : Hid (i = 0 ∧ bb = false) := HI.out.at_none hr
    have HB : Hid (∀ o, Below w.heap.size w (w1.alloc o)) := fun o => below_step hb ((Below.refl _ _).alloc (Nat.le_refl _) o)
    unfold zeroN
    clear hr hb
    go_wp2
    go_loopw [8] (fun v wr => v = .int .i64 0 ∧ wr = w1.alloc (.cells #[.int .i64 0, .int .i64 0, .int .i64 0, .int .i64 0, .slice none 0 0] 58)) (fun _ _ => 0)
    case atStart => exact ⟨rfl, rfl⟩
    case round =>
      obtain ⟨rfl, rfl⟩ := hrel
      go_wp2
      go_ret2
      exact ⟨by rw [HE.out.1, HE.out.2]; rfl, HB.out _⟩
  · have HS : Hid ((readF l).isSome = true) := by show _ = _; rw [hr]; rfl
    obtain ⟨hl63, hne⟩ := read_len HS.out
    obtain ⟨b, off, cap, e1, _, hs⟩ := HV.out.seen hne
    obtain ⟨n, hn⟩ : ∃ n, l.length = n := ⟨_, rfl⟩
    rw [hn] at e1 hl63
    subst e1
    have HN : Hid (l.length = n) := hn
    obtain ⟨W, hW⟩ : ∃ W, w1.alloc (.cells #[.int .i64 (nodeOf t).k, .int .i64 (nodeOf t).w, .int .i64 (nodeOf t).h, .int .i64 (nodeOf t).i, .slice sa sn sc] 58) = W := ⟨_, rfl⟩
    have HB : Hid (Below w.heap.size w W) := by rw [← hW]; exact below_step hb ((Below.refl _ _).alloc (Nat.le_refl _) _)
    have HSe : Hid (SeenIn W b off l) := hs.below HB.out
    have HW : Hid (w1.alloc (.cells #[.int .i64 (nodeOf t).k, .int .i64 (nodeOf t).w, .int .i64 (nodeOf t).h, .int .i64 (nodeOf t).i, .slice sa sn sc] 58) = W) := hW
    unfold nodeV
    clear hr hb hIn hne hs hn hW HV
    go_wp2
    rw [HW.out]
    go_loopw [8] (fun v wr => ∃ j : Nat, j ≤ n ∧ v = .int .i64 j ∧ Hid (∀ (a : Nat) d, a < j → l[a]? = some d → isPane (hasId pane) d = false) ∧ W = wr) (fun v _ => n - (intOf v).toNat)
    case atStart => exact ⟨0, Nat.zero_le _, rfl, fun a d ha => by omega, rfl⟩
    case round =>
      obtain ⟨j, hj, rfl, HJ, rfl⟩ := hrel
      by_cases hlt : j < n
      · obtain ⟨y, hy⟩ : ∃ y, l[j]? = some y := ⟨_, List.getElem?_eq_getElem (by rw [HN.out]; exact hlt)⟩
        obtain ⟨q0, q1, q2, q3, q4, q5, q6⟩ := HSe.out j y hy
        have HY : Hid (l[j]? = some y) := hy
        have HNx : Hid (isPane (hasId pane) y = false → ∀ (a : Nat) d, a < j + 1 → l[a]? = some d → isPane (hasId pane) d = false) := fun hq a d ha hd => by
          by_cases e : a = j
          · subst e; rw [HY.out] at hd; cases hd; exact hq
          · exact HJ.out a d (by omega) hd
        clear hy
        by_cases hk : y.kind = 1
        · have hk' : (y.kind == 1) = true := by simpa using hk
          obtain ⟨r, hr⟩ : ∃ r, (y.p == pane) = r := ⟨_, rfl⟩
          have HK : Hid (isPane (hasId pane) y = r) := by show _ = _; unfold isPane hasId; rw [decide_eq_true hk, hr]; rfl
          clear hk
          cases r
          · go_wp2
            go_roundw
            case rel => exact ⟨j + 1, by omega, by go_num, HNx.out HK.out, trivial⟩
            case measure => simp [intOf]; omega
          · have HH : Hid (j = i ∧ y = c ∧ bb = true) := HI.out.at_hit HS.out ⟨HY.out, HK.out, HJ.out⟩
            go_wp2
            go_ret2
            exact ⟨by rw [HH.out.2.2, ← HH.out.1]; rfl, HB.out⟩
        · have hk' : (y.kind == 1) = false := by simpa using hk
          have HK : Hid (isPane (hasId pane) y = false) := by show _ = _; unfold isPane; rw [decide_eq_false hk]; rfl
          clear hk
          go_wp2
          go_roundw
          case rel => exact ⟨j + 1, by omega, by go_num, HNx.out HK.out, trivial⟩
          case measure => simp [intOf]; omega
      · have HE : Hid (i = 0 ∧ bb = false) := HI.out.at_miss HS.out fun a d hd => HJ.out a d (by have := (List.getElem?_eq_some_iff.1 hd).1; rw [HN.out] at this; omega) hd
        go_wp2
        go_ret2
        exact ⟨by rw [HE.out.1, HE.out.2]; rfl, HB.out⟩

end Go.Proofs.Ytlaelkcmeaiajaa

namespace Go.Proofs.Ytlaelkcmeaiajaa
open Go.RowKit
set_option linter.unusedVariables false
set_option maxRecDepth 100000

end Go.Proofs.Ytlaelkcmeaiajaa

namespace Go.Proofs.Ytlaelkcmeaiajaa
open Go.RowKit
set_option linter.unusedVariables false
set_option maxRecDepth 100000

/-- A cell lies within. -/
def Within (c : CellV) (x y w h : Int) : Prop := (x ≤ c.x ∧ 1 ≤ c.w ∧ c.x + c.w ≤ x + w) ∧ (y ≤ c.y ∧ 1 ≤ c.h ∧ c.y + c.h ≤ y + h)
mutual
theorem told_within : ∀ (t : Tree) (x y d : Int) (c : CellV), t.kinds → t.sound = true → c ∈ (t.moved x y).tell d → Within c x y t.box.w t.box.h
  | .leaf b p, x, y, d, c, hk, hs, hc => by
    have h := (Tree.leaf b p).sound_sides hs
    change (1 ≤ b.w ∧ b.w ≤ 1000) ∧ (1 ≤ b.h ∧ b.h ≤ 1000) at h
    have hc' : c ∈ [(⟨d, 1, x, y, b.w, b.h, p⟩ : CellV)] := hc
    simp only [List.mem_cons, List.not_mem_nil, or_false] at hc'
    subst hc'
    show (x ≤ x ∧ 1 ≤ b.w ∧ x + b.w ≤ x + b.w) ∧ (y ≤ y ∧ 1 ≤ b.h ∧ y + b.h ≤ y + b.h)
    omega
  | .split b k ts, x, y, d, c, hk, hs, hc => by
    have h := (Tree.split b k ts).sound_sides hs
    change (1 ≤ b.w ∧ b.w ≤ 1000) ∧ (1 ≤ b.h ∧ b.h ≤ 1000) at h
    unfold Tree.sound at hs
    simp only [Bool.and_eq_true, decide_eq_true_eq] at hs
    have hc' : c ∈ (⟨d, k, x, y, b.w, b.h, 0⟩ : CellV) :: tellAll (movedAll ts k x y) (d + 1) := hc
    rcases List.mem_cons.1 hc' with rfl | hc'
    · show (x ≤ x ∧ 1 ≤ b.w ∧ x + b.w ≤ x + b.w) ∧ (y ≤ y ∧ 1 ≤ b.h ∧ y + b.h ≤ y + b.h)
      omega
    · have := tolds_within ts b k x y (d + 1) c hk.1 hk.2 hs.2.1 hc'
      have he := hs.2.2
      show Within c x y b.w b.h
      unfold Within
      rcases hk.1 with rfl | rfl
      · rw [if_pos rfl] at this
        change extAll ts 2 = b.w at he
        omega
      · rw [if_neg (by decide)] at this
        change extAll ts 3 = b.h at he
        omega
theorem tolds_within : ∀ (ts : List Tree) (b : Box) (k x y d : Int) (c : CellV), (k = 2 ∨ k = 3) → kindsAll ts → soundAll ts b k = true → c ∈ tellAll (movedAll ts k x y) d → if k = 2 then (x ≤ c.x ∧ 1 ≤ c.w ∧ c.x + c.w ≤ x + extAll ts k) ∧ (y ≤ c.y ∧ 1 ≤ c.h ∧ c.y + c.h ≤ y + b.h) else (x ≤ c.x ∧ 1 ≤ c.w ∧ c.x + c.w ≤ x + b.w) ∧ (y ≤ c.y ∧ 1 ≤ c.h ∧ c.y + c.h ≤ y + extAll ts k)
  | [], b, k, x, y, d, c, hk, hks, hs, hc => by cases hc
  | t :: ts, b, k, x, y, d, c, hk, hks, hs, hc => by
    have hpos := extAll_pos ts b k (by unfold soundAll at hs; simp only [Bool.and_eq_true] at hs; exact hs.2)
    have hside := ext_side (t :: ts) b k 0 t rfl hs
    unfold soundAll at hs
    simp only [Bool.and_eq_true, decide_eq_true_eq] at hs
    have hc' : c ∈ (t.moved x y).tell d ++ tellAll (if k = 2 then movedAll ts k (x + (t.box.ext k + 1)) y else movedAll ts k x (y + (t.box.ext k + 1))) d := hc
    have hext : extAll (t :: ts) k = t.box.ext k + 1 + extAll ts k := rfl
    have hac := hs.1.2.2
    rcases List.mem_append.1 hc' with hc' | hc'
    · have h1 := told_within t x y d c hks.1 hs.1.1 hc'
      unfold Within at h1
      rcases hk with rfl | rfl
      · rw [if_pos rfl, hext]
        change t.box.h = b.h at hac
        have e : t.box.ext 2 = t.box.w := rfl
        omega
      · rw [if_neg (by decide), hext]
        change t.box.w = b.w at hac
        have e : t.box.ext 3 = t.box.h := rfl
        omega
    · rcases hk with rfl | rfl
      · rw [if_pos rfl] at hc' ⊢
        have h2 := tolds_within ts b 2 (x + (t.box.ext 2 + 1)) y d c (.inl rfl) hks.2 hs.2 hc'
        rw [if_pos rfl] at h2
        rw [hext]
        omega
      · rw [if_neg (by decide)] at hc' ⊢
        have h2 := tolds_within ts b 3 x (y + (t.box.ext 3 + 1)) d c (.inr rfl) hks.2 hs.2 hc'
        rw [if_neg (by decide)] at h2
        rw [hext]
        omega
end
/-- In a layout every cell lies within the first one. -/
theorem lay_within {l : List CellV} (hs : (readF l).isSome = true) : ∃ W H, (1 ≤ W ∧ W ≤ 1000) ∧ (1 ≤ H ∧ H ≤ 1000) ∧ (∀ c0, l[0]? = some c0 → c0.w = W ∧ c0.h = H) ∧ ∀ c ∈ l, Within c 0 0 W H := by
  cases hr : readF l with
  | none => rw [hr] at hs; cases hs
  | some t =>
    have h := readF_lay hr
    have hsd := t.sound_sides h.sound
    refine ⟨t.box.w, t.box.h, hsd.1, hsd.2, fun c0 hc => ?_, fun c hc => ?_⟩
    · have ht := h.tell
      cases t with
      | leaf b p => rw [← ht] at hc; cases hc; exact ⟨rfl, rfl⟩
      | split b k ts => rw [← ht] at hc; cases hc; exact ⟨rfl, rfl⟩
    · rw [← h.tell, ← h.moved] at hc
      exact told_within t 0 0 0 c h.kinds h.sound hc

def followB (b s n w : Int) : Bool := if b + s = w then decide (n = 0) else decide (n = b + s + 1)
def overB (a sa b sb : Int) : Bool := decide (a < b + sb) && decide (b < a + sa)
def liesB (f c : CellV) (W H side : Int) : Bool :=
  if side = 1 then followB c.x c.w f.x W && overB f.y f.h c.y c.h
  else if side = 2 then followB f.x f.w c.x W && overB f.y f.h c.y c.h
  else if side = 3 then followB c.y c.h f.y H && overB f.x f.w c.x c.w
  else if side = 4 then followB f.y f.h c.y H && overB f.x f.w c.x c.w
  else false
def atB (p w : Int) : Int := if p = 0 then w + 1 else p
theorem follow_left (b s n w : Int) (h1 : 0 ≤ b) (h2 : 1 ≤ s) (h3 : b + s ≤ w) (h4 : 0 ≤ n) (h5 : n < w) : followB b s n w = decide (b + s + 1 = atB n w) := by
  unfold followB atB
  by_cases e : b + s = w
  · rw [if_pos e]
    by_cases e2 : n = 0
    · rw [if_pos e2, decide_eq_true e2, decide_eq_true (by omega)]
    · rw [if_neg e2, decide_eq_false e2, decide_eq_false (by omega)]
  · rw [if_neg e]
    by_cases e2 : n = 0
    · rw [if_pos e2, decide_eq_false (by omega), decide_eq_false (by omega)]
    · rw [if_neg e2]
      by_cases e3 : n = b + s + 1
      · rw [decide_eq_true e3, decide_eq_true (by omega)]
      · rw [decide_eq_false e3, decide_eq_false (by omega)]

theorem follow_any (b s n w0 : Int) (w : World) (h1 : 0 ≤ b ∧ b ≤ 1000) (h2 : 0 ≤ s ∧ s ≤ 1000) : Calls Try.prog 28 #[.int .i64 b, .int .i64 s, .int .i64 n, .int .i64 w0] w fun e w' => e = .returned (.bool (followB b s n w0)) ∧ w = w' := by
  have v1 : IntKind.i64.wrap (b + s) = b + s := by rw [IntKind.wrap_i64]; omega
  have v2 : IntKind.i64.wrap (b + s + 1) = b + s + 1 := by rw [IntKind.wrap_i64]; omega
  clear h1 h2
  by_cases e : b + s = w0
  · have e' : (b + s == w0) = true := by simpa using e
    obtain ⟨r, hr⟩ : ∃ r, (n == 0) = r := ⟨_, rfl⟩
    have HR : Hid (followB b s n w0 = r) := by
      show _ = _
      unfold followB
      rw [if_pos e, ← hr]
      cases hq : (n == 0) <;> simp_all
    clear e
    go_enter Try.func28, Try.ntmps28
    go_wp2
    go_ret
    exact ⟨by rw [HR.out]; rfl, rfl⟩
  · have e' : (b + s == w0) = false := by simpa using e
    obtain ⟨r, hr⟩ : ∃ r, (n == b + s + 1) = r := ⟨_, rfl⟩
    have HR : Hid (followB b s n w0 = r) := by
      show _ = _
      unfold followB
      rw [if_neg e, ← hr]
      cases hq : (n == b + s + 1) <;> simp_all
    clear e
    go_enter Try.func28, Try.ntmps28
    go_wp2
    go_ret
    exact ⟨by rw [HR.out]; rfl, rfl⟩
theorem overlap_any (a sa b sb : Int) (w : World) (h1 : 0 ≤ a ∧ a ≤ 1000) (h2 : 0 ≤ sa ∧ sa ≤ 1000) (h3 : 0 ≤ b ∧ b ≤ 1000) (h4 : 0 ≤ sb ∧ sb ≤ 1000) : Calls Try.prog 29 #[.int .i64 a, .int .i64 sa, .int .i64 b, .int .i64 sb] w fun e w' => e = .returned (.bool (overB a sa b sb)) ∧ w = w' := by
  have v1 : IntKind.i64.wrap (b + sb) = b + sb := by rw [IntKind.wrap_i64]; omega
  have v2 : IntKind.i64.wrap (a + sa) = a + sa := by rw [IntKind.wrap_i64]; omega
  clear h1 h2 h3 h4
  by_cases e : a < b + sb
  · obtain ⟨r, hr⟩ : ∃ r, decide (b < a + sa) = r := ⟨_, rfl⟩
    have HR : Hid (overB a sa b sb = r) := by show _ = _; unfold overB; rw [decide_eq_true e, hr]; rfl
    go_enter Try.func29, Try.ntmps29
    go_wp2
    go_ret
    exact ⟨by rw [HR.out]; rfl, rfl⟩
  · have HR : Hid (overB a sa b sb = false) := by show _ = _; unfold overB; rw [decide_eq_false e]; rfl
    go_enter Try.func29, Try.ntmps29
    go_wp2
    go_ret
    exact ⟨by rw [HR.out]; rfl, rfl⟩
theorem meet_any (a sa b sb : Int) (w : World) (h1 : 0 ≤ a ∧ a ≤ 1000) (h2 : 0 ≤ sa ∧ sa ≤ 1000) (h3 : 0 ≤ b ∧ b ≤ 1000) (h4 : 0 ≤ sb ∧ sb ≤ 1000) : Calls Try.prog 30 #[.int .i64 a, .int .i64 sa, .int .i64 b, .int .i64 sb] w fun e w' => e = .returned (.bool (overB a sa b sb)) ∧ w = w' := by
  have v1 : IntKind.i64.wrap (b + sb) = b + sb := by rw [IntKind.wrap_i64]; omega
  have v2 : IntKind.i64.wrap (a + sa) = a + sa := by rw [IntKind.wrap_i64]; omega
  clear h1 h2 h3 h4
  by_cases e : a < b + sb
  · obtain ⟨r, hr⟩ : ∃ r, decide (b < a + sa) = r := ⟨_, rfl⟩
    have HR : Hid (overB a sa b sb = r) := by show _ = _; unfold overB; rw [decide_eq_true e, hr]; rfl
    go_enter Try.func30, Try.ntmps30
    go_wp2
    go_ret
    exact ⟨by rw [HR.out]; rfl, rfl⟩
  · have HR : Hid (overB a sa b sb = false) := by show _ = _; unfold overB; rw [decide_eq_false e]; rfl
    go_enter Try.func30, Try.ntmps30
    go_wp2
    go_ret
    exact ⟨by rw [HR.out]; rfl, rfl⟩

end Go.Proofs.Ytlaelkcmeaiajaa
