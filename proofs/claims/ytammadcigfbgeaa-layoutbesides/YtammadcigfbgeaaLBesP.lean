/-
  Layouts: the program's Beside.
-/
import Derived.Test.YtammadcigfbgeaaLBesW
namespace Go.Proofs.Ytammadcigfbgeaa
open Go.RowKit
set_option linter.unusedVariables false
set_option maxRecDepth 100000

/-- Two cells set down one behind the other. -/
theorem heads_new (w : World) (a b : CellV) (t : TypeId) : HeadIn ((w.alloc (.cells a.vals t)).alloc (.cells b.vals t)).drew w.heap.size 0 a ∧ HeadIn ((w.alloc (.cells a.vals t)).alloc (.cells b.vals t)).drew (w.heap.size + 1) 0 b := by
  constructor
  · refine HeadIn.of fun j u hj => ?_
    show ((w.alloc (.cells a.vals t)).alloc (.cells b.vals t)).cell? ⟨w.heap.size, 0 + j, none⟩ = some u
    rw [((Below.refl _ _).alloc (Nat.le_refl _) _).cell (p := ⟨w.heap.size, 0 + j, none⟩) (by simp), cell_newL, Nat.zero_add]
    exact hj
  · refine HeadIn.of fun j u hj => ?_
    show ((w.alloc (.cells a.vals t)).alloc (.cells b.vals t)).cell? ⟨w.heap.size + 1, 0 + j, none⟩ = some u
    have := cell_newL (w.alloc (.cells a.vals t)) b.vals t (0 + j)
    rw [show (w.alloc (.cells a.vals t)).heap.size = w.heap.size + 1 by simp] at this
    rw [this, Nat.zero_add]
    exact hj

set_option maxHeartbeats 4000000 in
theorem bes_prog (v : Value) (l : List CellV) (pane side y : Int) (b : Bool) (w : World) (h : CellsIn w v l) (hI : BesIs l pane side y b) : Calls Try.prog 21 #[v, .int .i64 pane, .int .i64 side] w fun e w' => e = .returned (.tuple #[.int .i64 y, .bool b]) ∧ Below w.heap.size w w' := by
  obtain ⟨i, c, b1, hF, hR⟩ := hI
  have hb0 : ∀ o o', Below w.heap.size w ((w.alloc o).alloc o') := fun o o' => ((Below.refl _ _).alloc (Nat.le_refl _) _).alloc (by simp) _
  have HF : Hid (∀ o o', Calls Try.prog 17 #[v, .int .i64 pane] ((w.alloc o).alloc o') fun x w' => x = .returned (.tuple #[.int .i64 (i : Int), .bool b1]) ∧ Below ((w.alloc o).alloc o').heap.size ((w.alloc o).alloc o') w') := fun o o' => find_prog v l pane i c b1 _ (h.below (hb0 o o')) hF
  have HB0 : Hid (∀ o o', Below w.heap.size w ((w.alloc o).alloc o')) := hb0
  have HV : Hid (CellsIn w v l) := h
  rcases hR with ⟨rfl, rfl, rfl⟩ | ⟨rfl, wh, i2, c2, hwh, hI2, hy⟩
  · clear h hF hb0
    go_enter Try.func21, Try.ntmps21
    go_wp2_with fail
    refine (HF.out _ _).mono ?_
    rintro e w1 ⟨rfl, hb⟩
    have HB1 : Hid (Below w.heap.size w w1) := below_step (HB0.out _ _) hb
    clear hb
    go_wp2
    go_ret2
    exact ⟨rfl, HB1.out⟩
  · obtain ⟨hs, hfc⟩ : (readF l).isSome = true ∧ FC l (isPane (hasId pane)) i c := by
      rcases hF with ⟨_, _, h⟩ | ⟨_, _, _, h⟩ | ⟨h1, h2, _⟩
      · cases h
      · cases h
      · exact ⟨h1, h2⟩
    obtain ⟨W0, H0, hW0, hH0, hwh0, hin⟩ := lay_within hs
    obtain ⟨e1, e2⟩ := hwh0 wh hwh
    rw [← e1, ← e2] at hin
    obtain ⟨hl, hne⟩ := read_len hs
    obtain ⟨bk, off, cap, ev, _, hse⟩ := h.seen hne
    obtain ⟨n, hn⟩ : ∃ n, l.length = n := ⟨_, rfl⟩
    have hilt : i < n := by have := (List.getElem?_eq_some_iff.1 hfc.1).1; omega
    have HFd : Hid (∀ X gp gf gw gs, Below w.heap.size w X → BesEnv X gp gf gw gs pane side c wh → Calls Try.prog 39 #[v, .func (.func 42) #[] #[.pointer (some ⟨gp, 0, none⟩), .pointer (some ⟨gf, 0, none⟩), .pointer (some ⟨gw, 0, none⟩), .pointer (some ⟨gs, 0, none⟩)]] X fun x w' => x = .returned (.tuple #[.int .i64 (i2 : Int), .bool b]) ∧ Below X.heap.size X w') := fun X gp gf gw gs hX hEn => findCell_in v l _ _ _ i2 c2 b X (h.below hX) enters_bes (bes1_ok pane side c wh gp gf gw gs X l hEn (hin c (List.mem_of_getElem? hfc.1)) hin (by omega) (by omega)) hI2
    have HQ : Hid (∀ X, Below w.heap.size w X → HeadIn X bk (off + i * 7) c ∧ HeadIn X bk off wh) := fun X hX => ⟨(hse.below hX) i c hfc.1, by have := (hse.below hX) 0 wh hwh; rwa [show off + 0 * 7 = off by omega] at this⟩
    have HQ2 : Hid (b = true → i2 < n ∧ ∀ X, Below w.heap.size w X → X.cell? ⟨bk, off + i2 * 7 + 6, none⟩ = some (.int .i64 c2.p)) := fun hb => by
      rcases hI2 with ⟨_, _, h⟩ | ⟨_, _, _, h⟩ | ⟨_, h2, _⟩
      · rw [hb] at h; cases h
      · rw [hb] at h; cases h
      · exact ⟨by have := (List.getElem?_eq_some_iff.1 h2.1).1; omega, fun X hX => ((hse.below hX) i2 c2 h2.1).q6⟩
    have hnp : 0 < n := by omega
    rw [hn] at ev
    subst ev
    have HP : Hid (∀ X, Below ((w.alloc (.cells #[.int .i64 pane] 3)).alloc (.cells #[.int .i64 side] 3)).heap.size ((w.alloc (.cells #[.int .i64 pane] 3)).alloc (.cells #[.int .i64 side] 3)) X → X.cell? ⟨w.heap.size, 0, none⟩ = some (.int .i64 pane) ∧ X.cell? ⟨w.heap.size + 1, 0, none⟩ = some (.int .i64 side)) := fun X hX => by
      have e1 : ((w.alloc (.cells #[.int .i64 pane] 3)).alloc (.cells #[.int .i64 side] 3)).cell? ⟨w.heap.size, 0, none⟩ = some (.int .i64 pane) := by
        rw [((Below.refl _ _).alloc (Nat.le_refl _) _).cell (p := ⟨w.heap.size, 0, none⟩) (by simp), cell_newL]
        rfl
      have e2 : ((w.alloc (.cells #[.int .i64 pane] 3)).alloc (.cells #[.int .i64 side] 3)).cell? ⟨w.heap.size + 1, 0, none⟩ = some (.int .i64 side) := by
        have := cell_newL (w.alloc (.cells #[.int .i64 pane] 3)) #[.int .i64 side] 3 0
        rw [show (w.alloc (.cells #[.int .i64 pane] 3)).heap.size = w.heap.size + 1 by simp] at this
        exact this
      exact ⟨(hX.cell (p := ⟨w.heap.size, 0, none⟩) (World.block_lt_of_cell? _ _ e1)).trans e1, (hX.cell (p := ⟨w.heap.size + 1, 0, none⟩) (World.block_lt_of_cell? _ _ e2)).trans e2⟩
    have HYy : Hid (y = if b = true then c2.p else 0) := hy
    clear h hF hb0 hs hfc hW0 hH0 hwh0 hin e1 e2 hl hne hse hn hI2 hwh hy HV
    go_enter Try.func21, Try.ntmps21
    go_wp2_with fail
    refine (HF.out _ _).mono ?_
    rintro e w1 ⟨rfl, hb⟩
    obtain ⟨p1, p2⟩ := HP.out w1 hb
    have HB1 : Hid (Below w.heap.size w w1) := below_step (HB0.out _ _) hb
    obtain ⟨⟨q0, q1, q2, q3, q4, q5, q6⟩, ⟨u0, u1, u2, u3, u4, u5, u6⟩⟩ := HQ.out w1 HB1.out
    have qa0 : ∀ o, (w1.alloc o).cell? ⟨bk, off + i * 7, none⟩ = some (.int .i64 c.depth) := fun o => (HQ.out (w1.alloc o) (below_step HB1.out ((Below.refl _ _).alloc (Nat.le_refl _) o))).1.q0
    have qa1 : ∀ o, (w1.alloc o).cell? ⟨bk, off + i * 7 + 1, none⟩ = some (.int .i64 c.kind) := fun o => (HQ.out (w1.alloc o) (below_step HB1.out ((Below.refl _ _).alloc (Nat.le_refl _) o))).1.q1
    have qa2 : ∀ o, (w1.alloc o).cell? ⟨bk, off + i * 7 + 2, none⟩ = some (.int .i64 c.x) := fun o => (HQ.out (w1.alloc o) (below_step HB1.out ((Below.refl _ _).alloc (Nat.le_refl _) o))).1.q2
    have qa3 : ∀ o, (w1.alloc o).cell? ⟨bk, off + i * 7 + 3, none⟩ = some (.int .i64 c.y) := fun o => (HQ.out (w1.alloc o) (below_step HB1.out ((Below.refl _ _).alloc (Nat.le_refl _) o))).1.q3
    have qa4 : ∀ o, (w1.alloc o).cell? ⟨bk, off + i * 7 + 4, none⟩ = some (.int .i64 c.w) := fun o => (HQ.out (w1.alloc o) (below_step HB1.out ((Below.refl _ _).alloc (Nat.le_refl _) o))).1.q4
    have qa5 : ∀ o, (w1.alloc o).cell? ⟨bk, off + i * 7 + 5, none⟩ = some (.int .i64 c.h) := fun o => (HQ.out (w1.alloc o) (below_step HB1.out ((Below.refl _ _).alloc (Nat.le_refl _) o))).1.q5
    have qa6 : ∀ o, (w1.alloc o).cell? ⟨bk, off + i * 7 + 6, none⟩ = some (.int .i64 c.p) := fun o => (HQ.out (w1.alloc o) (below_step HB1.out ((Below.refl _ _).alloc (Nat.le_refl _) o))).1.q6
    have ua0 : ∀ o, (w1.alloc o).cell? ⟨bk, off, none⟩ = some (.int .i64 wh.depth) := fun o => (HQ.out (w1.alloc o) (below_step HB1.out ((Below.refl _ _).alloc (Nat.le_refl _) o))).2.q0
    have ua1 : ∀ o, (w1.alloc o).cell? ⟨bk, off + 1, none⟩ = some (.int .i64 wh.kind) := fun o => (HQ.out (w1.alloc o) (below_step HB1.out ((Below.refl _ _).alloc (Nat.le_refl _) o))).2.q1
    have ua2 : ∀ o, (w1.alloc o).cell? ⟨bk, off + 2, none⟩ = some (.int .i64 wh.x) := fun o => (HQ.out (w1.alloc o) (below_step HB1.out ((Below.refl _ _).alloc (Nat.le_refl _) o))).2.q2
    have ua3 : ∀ o, (w1.alloc o).cell? ⟨bk, off + 3, none⟩ = some (.int .i64 wh.y) := fun o => (HQ.out (w1.alloc o) (below_step HB1.out ((Below.refl _ _).alloc (Nat.le_refl _) o))).2.q3
    have ua4 : ∀ o, (w1.alloc o).cell? ⟨bk, off + 4, none⟩ = some (.int .i64 wh.w) := fun o => (HQ.out (w1.alloc o) (below_step HB1.out ((Below.refl _ _).alloc (Nat.le_refl _) o))).2.q4
    have ua5 : ∀ o, (w1.alloc o).cell? ⟨bk, off + 5, none⟩ = some (.int .i64 wh.h) := fun o => (HQ.out (w1.alloc o) (below_step HB1.out ((Below.refl _ _).alloc (Nat.le_refl _) o))).2.q5
    have ua6 : ∀ o, (w1.alloc o).cell? ⟨bk, off + 6, none⟩ = some (.int .i64 wh.p) := fun o => (HQ.out (w1.alloc o) (below_step HB1.out ((Below.refl _ _).alloc (Nat.le_refl _) o))).2.q6
    have qb0 : ∀ o o', ((w1.alloc o).alloc o').cell? ⟨bk, off + i * 7, none⟩ = some (.int .i64 c.depth) := fun o o' => (HQ.out ((w1.alloc o).alloc o') (below_step HB1.out (((Below.refl _ _).alloc (Nat.le_refl _) o).alloc (by simp) o'))).1.q0
    have qb1 : ∀ o o', ((w1.alloc o).alloc o').cell? ⟨bk, off + i * 7 + 1, none⟩ = some (.int .i64 c.kind) := fun o o' => (HQ.out ((w1.alloc o).alloc o') (below_step HB1.out (((Below.refl _ _).alloc (Nat.le_refl _) o).alloc (by simp) o'))).1.q1
    have qb2 : ∀ o o', ((w1.alloc o).alloc o').cell? ⟨bk, off + i * 7 + 2, none⟩ = some (.int .i64 c.x) := fun o o' => (HQ.out ((w1.alloc o).alloc o') (below_step HB1.out (((Below.refl _ _).alloc (Nat.le_refl _) o).alloc (by simp) o'))).1.q2
    have qb3 : ∀ o o', ((w1.alloc o).alloc o').cell? ⟨bk, off + i * 7 + 3, none⟩ = some (.int .i64 c.y) := fun o o' => (HQ.out ((w1.alloc o).alloc o') (below_step HB1.out (((Below.refl _ _).alloc (Nat.le_refl _) o).alloc (by simp) o'))).1.q3
    have qb4 : ∀ o o', ((w1.alloc o).alloc o').cell? ⟨bk, off + i * 7 + 4, none⟩ = some (.int .i64 c.w) := fun o o' => (HQ.out ((w1.alloc o).alloc o') (below_step HB1.out (((Below.refl _ _).alloc (Nat.le_refl _) o).alloc (by simp) o'))).1.q4
    have qb5 : ∀ o o', ((w1.alloc o).alloc o').cell? ⟨bk, off + i * 7 + 5, none⟩ = some (.int .i64 c.h) := fun o o' => (HQ.out ((w1.alloc o).alloc o') (below_step HB1.out (((Below.refl _ _).alloc (Nat.le_refl _) o).alloc (by simp) o'))).1.q5
    have qb6 : ∀ o o', ((w1.alloc o).alloc o').cell? ⟨bk, off + i * 7 + 6, none⟩ = some (.int .i64 c.p) := fun o o' => (HQ.out ((w1.alloc o).alloc o') (below_step HB1.out (((Below.refl _ _).alloc (Nat.le_refl _) o).alloc (by simp) o'))).1.q6
    have ub0 : ∀ o o', ((w1.alloc o).alloc o').cell? ⟨bk, off, none⟩ = some (.int .i64 wh.depth) := fun o o' => (HQ.out ((w1.alloc o).alloc o') (below_step HB1.out (((Below.refl _ _).alloc (Nat.le_refl _) o).alloc (by simp) o'))).2.q0
    have ub1 : ∀ o o', ((w1.alloc o).alloc o').cell? ⟨bk, off + 1, none⟩ = some (.int .i64 wh.kind) := fun o o' => (HQ.out ((w1.alloc o).alloc o') (below_step HB1.out (((Below.refl _ _).alloc (Nat.le_refl _) o).alloc (by simp) o'))).2.q1
    have ub2 : ∀ o o', ((w1.alloc o).alloc o').cell? ⟨bk, off + 2, none⟩ = some (.int .i64 wh.x) := fun o o' => (HQ.out ((w1.alloc o).alloc o') (below_step HB1.out (((Below.refl _ _).alloc (Nat.le_refl _) o).alloc (by simp) o'))).2.q2
    have ub3 : ∀ o o', ((w1.alloc o).alloc o').cell? ⟨bk, off + 3, none⟩ = some (.int .i64 wh.y) := fun o o' => (HQ.out ((w1.alloc o).alloc o') (below_step HB1.out (((Below.refl _ _).alloc (Nat.le_refl _) o).alloc (by simp) o'))).2.q3
    have ub4 : ∀ o o', ((w1.alloc o).alloc o').cell? ⟨bk, off + 4, none⟩ = some (.int .i64 wh.w) := fun o o' => (HQ.out ((w1.alloc o).alloc o') (below_step HB1.out (((Below.refl _ _).alloc (Nat.le_refl _) o).alloc (by simp) o'))).2.q4
    have ub5 : ∀ o o', ((w1.alloc o).alloc o').cell? ⟨bk, off + 5, none⟩ = some (.int .i64 wh.h) := fun o o' => (HQ.out ((w1.alloc o).alloc o') (below_step HB1.out (((Below.refl _ _).alloc (Nat.le_refl _) o).alloc (by simp) o'))).2.q5
    have ub6 : ∀ o o', ((w1.alloc o).alloc o').cell? ⟨bk, off + 6, none⟩ = some (.int .i64 wh.p) := fun o o' => (HQ.out ((w1.alloc o).alloc o') (below_step HB1.out (((Below.refl _ _).alloc (Nat.le_refl _) o).alloc (by simp) o'))).2.q6
    have HX : Hid (∀ a d : CellV, Below w.heap.size w ((w1.alloc (.cells a.vals 69)).alloc (.cells d.vals 69)).drew) := fun a d => below_step HB1.out (((Below.refl _ _).alloc (Nat.le_refl _) _).alloc (by simp) _).drew
    have HPp : Hid (∀ a d : CellV, ((w1.alloc (.cells a.vals 69)).alloc (.cells d.vals 69)).drew.cell? ⟨w.heap.size, 0, none⟩ = some (.int .i64 pane) ∧ ((w1.alloc (.cells a.vals 69)).alloc (.cells d.vals 69)).drew.cell? ⟨w.heap.size + 1, 0, none⟩ = some (.int .i64 side)) := fun a d => by
      have k := (((Below.refl w1.heap.size w1).alloc (Nat.le_refl _) (.cells a.vals 69)).alloc (by simp) (.cells d.vals 69)).drew
      exact ⟨(k.cell (p := ⟨w.heap.size, 0, none⟩) (World.block_lt_of_cell? _ _ p1)).trans p1, (k.cell (p := ⟨w.heap.size + 1, 0, none⟩) (World.block_lt_of_cell? _ _ p2)).trans p2⟩
    have HC1 : Hid (Calls Try.prog 39 #[.slice (some ⟨bk, off, none⟩) n cap, .func (.func 42) #[] #[.pointer (some ⟨w.heap.size, 0, none⟩), .pointer (some ⟨w1.heap.size, 0, none⟩), .pointer (some ⟨w1.heap.size + 1, 0, none⟩), .pointer (some ⟨w.heap.size + 1, 0, none⟩)]] ((w1.alloc (.cells #[.int .i64 c.depth, .int .i64 c.kind, .int .i64 c.x, .int .i64 c.y, .int .i64 c.w, .int .i64 c.h, .int .i64 c.p] 69)).alloc (.cells #[.int .i64 wh.depth, .int .i64 wh.kind, .int .i64 wh.x, .int .i64 wh.y, .int .i64 wh.w, .int .i64 wh.h, .int .i64 wh.p] 69)).drew fun x w' => x = .returned (.tuple #[.int .i64 (i2 : Int), .bool b]) ∧ Below w.heap.size w w') :=
      (HFd.out ((w1.alloc (.cells c.vals 69)).alloc (.cells wh.vals 69)).drew _ _ _ _ (HX.out c wh) ⟨(HPp.out c wh).1, (HPp.out c wh).2, (heads_new w1 c wh _).1, (heads_new w1 c wh _).2⟩).mono fun x w' hh => ⟨hh.1, below_step (HX.out c wh) hh.2⟩
    have HC2 : Hid (Calls Try.prog 39 #[.slice (some ⟨bk, off, none⟩) n cap, .func (.func 42) #[] #[.pointer (some ⟨w.heap.size, 0, none⟩), .pointer (some ⟨w1.heap.size + 1, 0, none⟩), .pointer (some ⟨w1.heap.size, 0, none⟩), .pointer (some ⟨w.heap.size + 1, 0, none⟩)]] ((w1.alloc (.cells #[.int .i64 wh.depth, .int .i64 wh.kind, .int .i64 wh.x, .int .i64 wh.y, .int .i64 wh.w, .int .i64 wh.h, .int .i64 wh.p] 69)).alloc (.cells #[.int .i64 c.depth, .int .i64 c.kind, .int .i64 c.x, .int .i64 c.y, .int .i64 c.w, .int .i64 c.h, .int .i64 c.p] 69)).drew fun x w' => x = .returned (.tuple #[.int .i64 (i2 : Int), .bool b]) ∧ Below w.heap.size w w') :=
      (HFd.out ((w1.alloc (.cells wh.vals 69)).alloc (.cells c.vals 69)).drew _ _ _ _ (HX.out wh c) ⟨(HPp.out wh c).1, (HPp.out wh c).2, (heads_new w1 wh c _).2, (heads_new w1 wh c _).1⟩).mono fun x w' hh => ⟨hh.1, below_step (HX.out wh c) hh.2⟩
    clear hb HF HP HQ HX HPp HFd p1 p2
    go_wp2
    go_region
    all_goals clear q0 q1 q2 q3 q4 q5 q6 u0 u1 u2 u3 u4 u5 u6 qa0 qa1 qa2 qa3 qa4 qa5 qa6 ua0 ua1 ua2 ua3 ua4 ua5 ua6 qb0 qb1 qb2 qb3 qb4 qb5 qb6 ub0 ub1 ub2 ub3 ub4 ub5 ub6
    · go_wp2_with fail
      refine HC1.out.mono ?_
      rintro e w2 ⟨rfl, hb2⟩
      cases b
      · have HY : Hid (y = 0) := HYy.out
        go_wp2
        go_ret2
        exact ⟨by rw [HY.out]; rfl, hb2⟩
      · obtain ⟨hi2, hq⟩ := HQ2.out rfl
        have q6 := hq w2 hb2
        have HY : Hid (y = c2.p) := HYy.out
        clear hq
        go_wp2
        go_ret2
        exact ⟨by rw [HY.out]; rfl, hb2⟩
    · go_wp2_with fail
      refine HC2.out.mono ?_
      rintro e w2 ⟨rfl, hb2⟩
      cases b
      · have HY : Hid (y = 0) := HYy.out
        go_wp2
        go_ret2
        exact ⟨by rw [HY.out]; rfl, hb2⟩
      · obtain ⟨hi2, hq⟩ := HQ2.out rfl
        have q6 := hq w2 hb2
        have HY : Hid (y = c2.p) := HYy.out
        clear hq
        go_wp2
        go_ret2
        exact ⟨by rw [HY.out]; rfl, hb2⟩

end Go.Proofs.Ytammadcigfbgeaa
