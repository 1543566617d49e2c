/-
  Layouts: Find and At on both sides; the statement on looks, walked.
-/
import Derived.Test.YtammadcigfbgeaaLFindW
namespace Go.Proofs.Ytammadcigfbgeaa
open Go.RowKit
set_option linter.unusedVariables false
set_option maxRecDepth 100000

def hasId (pane : Int) (c : CellV) : Bool := c.p == pane
/-- Does a place lie in a cell? -/
def holdsXY (x y : Int) (c : CellV) : Bool := ((decide (c.x ≤ x) && decide (x < IntKind.i64.wrap (c.x + c.w))) && decide (c.y ≤ y)) && decide (y < IntKind.i64.wrap (c.y + c.h))

theorem enters_find : EntersL 40 := by intro args w; kernel_rfl
theorem enters_at : EntersL 41 := by intro args w; kernel_rfl
theorem find1_ok (pane : Int) (g : Nat) (w : World) (hg : w.cell? ⟨g, 0, none⟩ = some (.int .i64 pane)) : PredL w 40 #[.pointer (some ⟨g, 0, none⟩)] (hasId pane) := by
  intro X c hX
  have hc : ∀ o, (X.alloc o).cell? ⟨g, 0, none⟩ = some (.int .i64 pane) := fun o => ((below_step hX ((Below.refl _ _).alloc (Nat.le_refl _) o)).cell (p := ⟨g, 0, none⟩) (World.block_lt_of_cell? w _ hg)).trans hg
  have HB : Hid (∀ o, Below X.heap.size X (X.alloc o)) := fun o => (Below.refl _ _).alloc (Nat.le_refl _) o
  show Calls Try.prog 40 #[.agg #[.int .i64 c.depth, .int .i64 c.kind, .int .i64 c.x, .int .i64 c.y, .int .i64 c.w, .int .i64 c.h, .int .i64 c.p], .pointer (some ⟨g, 0, none⟩)] X _
  obtain ⟨r, hr⟩ : ∃ r, (c.p == pane) = r := ⟨_, rfl⟩
  have HR : Hid (hasId pane c = r) := hr
  clear hX hg
  go_enter Try.func40, Try.ntmps40
  go_wp2
  go_ret
  exact ⟨by rw [HR.out]; rfl, HB.out _⟩
set_option maxHeartbeats 1000000 in
theorem at1_ok (x y : Int) (g1 g2 : Nat) (w : World) (h1 : w.cell? ⟨g1, 0, none⟩ = some (.int .i64 x)) (h2 : w.cell? ⟨g2, 0, none⟩ = some (.int .i64 y)) : PredL w 41 #[.pointer (some ⟨g1, 0, none⟩), .pointer (some ⟨g2, 0, none⟩)] (holdsXY x y) := by
  intro X c hX
  have hc1 : ∀ o, (X.alloc o).cell? ⟨g1, 0, none⟩ = some (.int .i64 x) := fun o => ((below_step hX ((Below.refl _ _).alloc (Nat.le_refl _) o)).cell (p := ⟨g1, 0, none⟩) (World.block_lt_of_cell? w _ h1)).trans h1
  have hc2 : ∀ o, (X.alloc o).cell? ⟨g2, 0, none⟩ = some (.int .i64 y) := fun o => ((below_step hX ((Below.refl _ _).alloc (Nat.le_refl _) o)).cell (p := ⟨g2, 0, none⟩) (World.block_lt_of_cell? w _ h2)).trans h2
  have HB : Hid (∀ o, Below X.heap.size X (X.alloc o)) := fun o => (Below.refl _ _).alloc (Nat.le_refl _) o
  show Calls Try.prog 41 #[.agg #[.int .i64 c.depth, .int .i64 c.kind, .int .i64 c.x, .int .i64 c.y, .int .i64 c.w, .int .i64 c.h, .int .i64 c.p], .pointer (some ⟨g1, 0, none⟩), .pointer (some ⟨g2, 0, none⟩)] X _
  clear hX h1 h2
  obtain ⟨sx, hsx⟩ : ∃ s, IntKind.i64.wrap (c.x + c.w) = s := ⟨_, rfl⟩
  obtain ⟨sy, hsy⟩ : ∃ s, IntKind.i64.wrap (c.y + c.h) = s := ⟨_, rfl⟩
  have HR : Hid (holdsXY x y c = (((decide (c.x ≤ x) && decide (x < sx)) && decide (c.y ≤ y)) && decide (y < sy))) := by show _ = _; unfold holdsXY; rw [hsx, hsy]
  by_cases a1 : c.x ≤ x
  · by_cases a2 : x < sx
    · by_cases a3 : c.y ≤ y
      · by_cases a4 : y < sy
        · have HRr : Hid (holdsXY x y c = true) := by show _ = _; rw [HR.out]; simp [a1, a2, a3, a4]
          go_enter Try.func41, Try.ntmps41
          go_wp2
          go_ret
          exact ⟨by rw [HRr.out]; rfl, HB.out _⟩
        · have HRr : Hid (holdsXY x y c = false) := by show _ = _; rw [HR.out]; simp [a4]
          go_enter Try.func41, Try.ntmps41
          go_wp2
          go_ret
          exact ⟨by rw [HRr.out]; rfl, HB.out _⟩
      · have HRr : Hid (holdsXY x y c = false) := by show _ = _; rw [HR.out]; simp [a3]
        go_enter Try.func41, Try.ntmps41
        go_wp2
        go_ret
        exact ⟨by rw [HRr.out]; rfl, HB.out _⟩
    · have HRr : Hid (holdsXY x y c = false) := by show _ = _; rw [HR.out]; simp [a2]
      go_enter Try.func41, Try.ntmps41
      go_wp2
      go_ret
      exact ⟨by rw [HRr.out]; rfl, HB.out _⟩
  · have HRr : Hid (holdsXY x y c = false) := by show _ = _; rw [HR.out]; simp [a1]
    go_enter Try.func41, Try.ntmps41
    go_wp2
    go_ret
    exact ⟨by rw [HRr.out]; rfl, HB.out _⟩

theorem find_prog (v : Value) (l : List CellV) (pane : Int) (i : Nat) (c : CellV) (b : Bool) (w : World) (h : CellsIn w v l) (hI : FindIs l (isPane (hasId pane)) i c b) : Calls Try.prog 17 #[v, .int .i64 pane] w fun x w' => x = .returned (.tuple #[.int .i64 (i : Int), .bool b]) ∧ Below w.heap.size w w' := by
  have HC : Hid (Calls Try.prog 39 #[v, .func (.func 40) #[] #[.pointer (some ⟨w.heap.size, 0, none⟩)]] (w.alloc (.cells #[.int .i64 pane] 3)) fun x w' => x = .returned (.tuple #[.int .i64 (i : Int), .bool b]) ∧ Below w.heap.size w w') := by
    have hb := (Below.refl w.heap.size w).alloc (Nat.le_refl _) (.cells #[.int .i64 pane] 3)
    refine (findCell_any v l _ _ (hasId pane) i c b (w.alloc (.cells #[.int .i64 pane] 3)) (h.below hb) enters_find (find1_ok pane w.heap.size _ (by rw [cell_newL]; rfl)) hI).mono fun x w' h2 => ⟨h2.1, below_step hb h2.2⟩
  clear h hI
  go_enter Try.func17, Try.ntmps17
  go_wp2_with fail
  refine HC.out.mono ?_
  rintro x w1 ⟨rfl, hb⟩
  go_wp2
  go_ret2
  exact ⟨rfl, hb⟩
set_option maxHeartbeats 1000000 in
theorem at_prog (v : Value) (l : List CellV) (x y : Int) (i : Nat) (c : CellV) (b : Bool) (w : World) (h : CellsIn w v l) (hI : FindIs l (isPane (holdsXY x y)) i c b) : Calls Try.prog 19 #[v, .int .i64 x, .int .i64 y] w fun e w' => e = .returned (.tuple #[.int .i64 (if b = true then c.p else 0), .bool b]) ∧ Below w.heap.size w w' := by
  have hb0 : ∀ o o', Below w.heap.size w ((w.alloc o).alloc o') := fun o o' => ((Below.refl _ _).alloc (Nat.le_refl _) _).alloc (by simp) _
  have HC : Hid (Calls Try.prog 39 #[v, .func (.func 41) #[] #[.pointer (some ⟨w.heap.size, 0, none⟩), .pointer (some ⟨w.heap.size + 1, 0, none⟩)]] ((w.alloc (.cells #[.int .i64 x] 3)).alloc (.cells #[.int .i64 y] 3)) fun e w' => e = .returned (.tuple #[.int .i64 (i : Int), .bool b]) ∧ Below w.heap.size w w') := by
    refine (findCell_any v l _ _ (holdsXY x y) i c b _ (h.below (hb0 _ _)) enters_at (at1_ok x y w.heap.size (w.heap.size + 1) _ ?_ ?_) hI).mono fun e w' h2 => ⟨h2.1, below_step (hb0 _ _) h2.2⟩
    · rw [((Below.refl _ _).alloc (Nat.le_refl _) _).cell (p := ⟨w.heap.size, 0, none⟩) (by simp), cell_newL]
      rfl
    · have := cell_newL (w.alloc (.cells #[.int .i64 x] 3)) #[.int .i64 y] 3 0
      rw [show (w.alloc (.cells #[.int .i64 x] 3)).heap.size = w.heap.size + 1 by simp] at this
      exact this
  have HV : Hid (CellsIn w v l) := h
  have HI : Hid (FindIs l (isPane (holdsXY x y)) i c b) := hI
  clear h hI
  cases b
  · clear HI HV
    go_enter Try.func19, Try.ntmps19
    go_wp2_with fail
    refine HC.out.mono ?_
    rintro e w1 ⟨rfl, hb⟩
    go_wp2
    go_ret2
    exact ⟨rfl, hb⟩
  · obtain ⟨hs, hfc⟩ : (readF l).isSome = true ∧ FC l (isPane (holdsXY x y)) i c := by
      rcases HI.out with ⟨_, _, h⟩ | ⟨_, _, _, h⟩ | ⟨h1, h2, _⟩
      · cases h
      · cases h
      · exact ⟨h1, h2⟩
    obtain ⟨hl, hne⟩ := read_len hs
    obtain ⟨b, off, cap, e1, _, hse⟩ := HV.out.seen hne
    obtain ⟨n, hn⟩ : ∃ n, l.length = n := ⟨_, rfl⟩
    have hin : i < n := by have := (List.getElem?_eq_some_iff.1 hfc.1).1; omega
    rw [hn] at e1
    subst e1
    have HQ : Hid (∀ X, Below w.heap.size w X → X.cell? ⟨b, off + i * 7 + 6, none⟩ = some (.int .i64 c.p)) := fun X hX => ((hse.below hX) i c hfc.1).q6
    rw [if_pos rfl]
    clear HI HV hs hfc hl hne hse hn
    go_enter Try.func19, Try.ntmps19
    go_wp2_with fail
    refine HC.out.mono ?_
    rintro e w1 ⟨rfl, hb⟩
    have q6 := HQ.out w1 hb
    go_wp2
    go_ret2
    exact ⟨rfl, hb⟩

set_option maxHeartbeats 2000000 in
theorem find_ref (v : Value) (l : List CellV) (pane : Int) (i : Nat) (c : CellV) (bb : Bool) (w : World) (h : CellsIn w v l) (hI : FindIs l (isPane (hasId pane)) i c bb) : Calls Try.prog 18 #[v, .int .i64 pane] w fun x w' => x = .returned (.tuple #[.int .i64 (i : Int), .bool bb]) ∧ Below w.heap.size w w' := by
  have HT : Hid (Calls Try.prog 37 #[v] w (TreeGood l w)) := tree_any v l w h
  have HV : Hid (CellsIn w v l) := h
  have HI : Hid (FindIs l (isPane (hasId pane)) i c bb) := hI
  clear h hI
  go_enter Try.func18, Try.ntmps18
  go_wp2_with fail
  refine HT.out.mono ?_
  rintro x w1 ⟨hb, ⟨hr, rfl⟩ | ⟨t, sa, sn, sc, fp, hr, rfl, hIn⟩⟩
  · have HE : Hid (i = 0 ∧ bb = false) := HI.out.at_none hr
    have HB : Hid (∀ o, Below w.heap.size w (w1.alloc o)) := fun o => below_step hb ((Below.refl _ _).alloc (Nat.le_refl _) o)
    unfold zeroN
    clear hr hb
    go_wp2
    go_loopw [8] (fun v wr => v = .int .i64 0 ∧ wr = w1.alloc (.cells #[.int .i64 0, .int .i64 0, .int .i64 0, .int .i64 0, .slice none 0 0] 67)) (fun _ _ => 0)
    case atStart => exact ⟨rfl, rfl⟩
    case round =>
      obtain ⟨rfl, rfl⟩ := hrel
      go_wp2
      go_ret2
      exact ⟨by rw [HE.out.1, HE.out.2]; rfl, HB.out _⟩
  · have HS : Hid ((readF l).isSome = true) := by show _ = _; rw [hr]; rfl
    obtain ⟨hl63, hne⟩ := read_len HS.out
    obtain ⟨b, off, cap, e1, _, hs⟩ := HV.out.seen hne
    obtain ⟨n, hn⟩ : ∃ n, l.length = n := ⟨_, rfl⟩
    rw [hn] at e1 hl63
    subst e1
    have HN : Hid (l.length = n) := hn
    obtain ⟨W, hW⟩ : ∃ W, w1.alloc (.cells #[.int .i64 (nodeOf t).k, .int .i64 (nodeOf t).w, .int .i64 (nodeOf t).h, .int .i64 (nodeOf t).i, .slice sa sn sc] 67) = W := ⟨_, rfl⟩
    have HB : Hid (Below w.heap.size w W) := by rw [← hW]; exact below_step hb ((Below.refl _ _).alloc (Nat.le_refl _) _)
    have HSe : Hid (SeenIn W b off l) := hs.below HB.out
    have HW : Hid (w1.alloc (.cells #[.int .i64 (nodeOf t).k, .int .i64 (nodeOf t).w, .int .i64 (nodeOf t).h, .int .i64 (nodeOf t).i, .slice sa sn sc] 67) = W) := hW
    unfold nodeV
    clear hr hb hIn hne hs hn hW HV
    go_wp2
    rw [HW.out]
    go_loopw [8] (fun v wr => ∃ j : Nat, j ≤ n ∧ v = .int .i64 j ∧ Hid (∀ (a : Nat) d, a < j → l[a]? = some d → isPane (hasId pane) d = false) ∧ W = wr) (fun v _ => n - (intOf v).toNat)
    case atStart => exact ⟨0, Nat.zero_le _, rfl, fun a d ha => by omega, rfl⟩
    case round =>
      obtain ⟨j, hj, rfl, HJ, rfl⟩ := hrel
      by_cases hlt : j < n
      · obtain ⟨y, hy⟩ : ∃ y, l[j]? = some y := ⟨_, List.getElem?_eq_getElem (by rw [HN.out]; exact hlt)⟩
        obtain ⟨q0, q1, q2, q3, q4, q5, q6⟩ := HSe.out j y hy
        have HY : Hid (l[j]? = some y) := hy
        have HNx : Hid (isPane (hasId pane) y = false → ∀ (a : Nat) d, a < j + 1 → l[a]? = some d → isPane (hasId pane) d = false) := fun hq a d ha hd => by
          by_cases e : a = j
          · subst e; rw [HY.out] at hd; cases hd; exact hq
          · exact HJ.out a d (by omega) hd
        clear hy
        by_cases hk : y.kind = 1
        · have hk' : (y.kind == 1) = true := by simpa using hk
          obtain ⟨r, hr⟩ : ∃ r, (y.p == pane) = r := ⟨_, rfl⟩
          have HK : Hid (isPane (hasId pane) y = r) := by show _ = _; unfold isPane hasId; rw [decide_eq_true hk, hr]; rfl
          clear hk
          cases r
          · go_wp2
            go_roundw
            case rel => exact ⟨j + 1, by omega, by go_num, HNx.out HK.out, trivial⟩
            case measure => simp [intOf]; omega
          · have HH : Hid (j = i ∧ y = c ∧ bb = true) := HI.out.at_hit HS.out ⟨HY.out, HK.out, HJ.out⟩
            go_wp2
            go_ret2
            exact ⟨by rw [HH.out.2.2, ← HH.out.1]; rfl, HB.out⟩
        · have hk' : (y.kind == 1) = false := by simpa using hk
          have HK : Hid (isPane (hasId pane) y = false) := by show _ = _; unfold isPane; rw [decide_eq_false hk]; rfl
          clear hk
          go_wp2
          go_roundw
          case rel => exact ⟨j + 1, by omega, by go_num, HNx.out HK.out, trivial⟩
          case measure => simp [intOf]; omega
      · have HE : Hid (i = 0 ∧ bb = false) := HI.out.at_miss HS.out fun a d hd => HJ.out a d (by have := (List.getElem?_eq_some_iff.1 hd).1; rw [HN.out] at this; omega) hd
        go_wp2
        go_ret2
        exact ⟨by rw [HE.out.1, HE.out.2]; rfl, HB.out⟩

end Go.Proofs.Ytammadcigfbgeaa
