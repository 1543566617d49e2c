/-
  Layouts: the nearest split of a kind, in memory.
  Layouts: nearest, walked.
  Layouts: nearest, where there is one.
  Layouts: a border is pushed deep in a tree: the tree, and Push in the program.
  Layouts: Push in the program.
-/
import Derived.Test.YtkaaadbfmbkjeaaCPp
import Derived.Test.YtkaaadbfmbkjeaaCWa
import Derived.Test.YtkaaadbfmbkjeaaCFi
namespace Go.Proofs.Ytkaaadbfmbkjeaa
open Go.RowKit
set_option linter.unusedVariables false
set_option maxRecDepth 20000

theorem partsAt.oneK {W : World} {B : Nat} : ∀ {ts : List Tree} {vs : List Value} {fp : List Nat}, partsAt W B ts vs fp → fp.Nodup → ∀ (i : Nat) t, ts[i]? = some t →
    ∃ v f, vs[i]? = some v ∧ t.At W B v f ∧ f.Nodup ∧ (∀ x ∈ f, x ∈ fp) ∧ ∀ W' t', (∀ q ∈ fp, q ∉ f → W'.heap[q]? = W.heap[q]?) → t'.At W' B v f → partsAt W' B (ts.set i t') vs fp
  | [], vs, fp, h, _, i, t, hi => by cases hi
  | t :: ts, vs, fp, h, hn, 0, t', hi => by
    obtain ⟨v, vs', f, f', rfl, h2, h3, rfl⟩ := h
    cases hi
    obtain ⟨n1, n2, n3⟩ := List.nodup_append.1 hn
    refine ⟨v, f, rfl, h2, n1, fun x hx => List.mem_append_left _ hx, fun W' t' hb ht => ⟨v, vs', f, f', rfl, ht, h3.keep fun g hg => hb g (List.mem_append_right _ hg) fun hf => n3 g hf g hg rfl, rfl⟩⟩
  | t :: ts, vs, fp, h, hn, i + 1, t', hi => by
    obtain ⟨v, vs', f, f', rfl, h2, h3, rfl⟩ := h
    obtain ⟨n1, n2, n3⟩ := List.nodup_append.1 hn
    obtain ⟨v1, f1, e1, e2, e3, e4, e5⟩ := partsAt.oneK h3 n2 i t' hi
    exact ⟨v1, f1, e1, e2, e3, fun x hx => List.mem_append_right _ (e4 x hx), fun W' t'' hb ht => ⟨v, vs', f, f', rfl, h2.keep fun g hg => hb g (List.mem_append_left _ hg) fun hf => n3 g hg g (e4 g hf) rfl, e5 W' t'' (fun q hq hnq => hb q (List.mem_append_right _ hq) hnq) ht, rfl⟩⟩

/-- A split in memory is not of this kind. -/
def OtherK (W : World) (k : Int) (g : Nat) : Prop := ∃ k', W.cell? ⟨g, 4, none⟩ = some (.int .i64 k') ∧ k' ≠ k
/-- Where the nearest one stands. -/
structure NearAt (W : World) (k : Int) (t : Tree) (v : Value) (fp : List Nat) (st : List (Nat × Nat)) (qs : List Nat) (a : Nat) (j g : Nat) (b : Box) (ts : List Tree) (f' : List Nat) : Prop where
  at_ : st[j]? = some (g, a)
  ahead : ∀ (i : Nat) (s : Nat × Nat), i < j → st[i]? = some s → OtherK W k s.1
  kind : W.cell? ⟨g, 4, none⟩ = some (.int .i64 k)
  sub : t.subAt qs = some (.split b k ts)
  here : (Tree.split b k ts).At W 0 (splitI g) f'
  nd : f'.Nodup
  inn : ∀ q ∈ f', q ∈ fp
  put : ∀ W' s', (∀ q ∈ fp, q ∉ f' → W'.heap[q]? = W.heap[q]?) → s'.At W' 0 (splitI g) f' → (t.putAt qs s').At W' 0 v fp

theorem near_at {W : World} {k : Int} : ∀ (ps : List Nat) {t : Tree} {v v' : Value} {fp : List Nat} {st : List (Nat × Nat)}, t.At W 0 v fp → fp.Nodup → Reach W v ps v' st →
    (nearF k t ps = none → ∀ (i : Nat) (s : Nat × Nat), st[i]? = some s → OtherK W k s.1) ∧ (∀ qs a, nearF k t ps = some (qs, a) → ∃ j g b ts f', NearAt W k t v fp st qs a j g b ts f')
  | [], t, v, v', fp, st, h, hnd, hr => by
    obtain ⟨_, rfl⟩ := hr
    exact ⟨fun _ i s hi => by simp at hi, fun qs a hn => by simp [nearF] at hn⟩
  | i :: ps, .leaf b p, v, v', fp, st, h, hnd, hr => by
    obtain ⟨g, pg, n, cap, vi, st', rfl, _⟩ := hr
    obtain ⟨g', e, _⟩ := h
    cases e
  | i :: ps, .split b k' ts, v, v', fp, st, h, hnd, hr => by
    have hAt := h
    obtain ⟨g, pg, n, cap, vi, st', rfl, h1, h2, h3, h4, rfl⟩ := hr
    obtain ⟨g', sl, vs, fs, e, k2, k3, k4, rfl⟩ := h
    cases e
    have hsl : sl = .slice (some ⟨pg, 0, none⟩) n cap := by
      have := cell_atL k2 5
      rw [h1] at this
      exact (Option.some.inj this).symm
    subst hsl
    have hvn : vs.length = n := by
      rcases k3.2 with ⟨e, _⟩ | ⟨g0, cap0, cur, e, _⟩
      · cases e
      · injection e with _ e2 _
        exact e2.symm
    have hvl := k4.length
    obtain ⟨u, hu⟩ : ∃ u, ts[i]? = some u := ⟨_, List.getElem?_eq_getElem (by omega)⟩
    obtain ⟨n1, n2⟩ := List.nodup_cons.1 hnd
    obtain ⟨n3, n4, n5⟩ := List.nodup_append.1 n2
    obtain ⟨v1, f1, e1, e2, e3, e4, e5⟩ := partsAt.oneK k4 n4 i u hu
    have hvi : vi = v1 := by
      have hr3 := k3
      rw [hvn] at hr3
      have := World.ownsRow.cellAt hr3 i (by omega)
      rw [h3, e1] at this
      exact Option.some.inj this
    subst hvi
    have hk4 : W.cell? ⟨g, 4, none⟩ = some (.int .i64 k') := cell_atL k2 4
    obtain ⟨ih1, ih2⟩ := near_at (k := k) ps e2 e3 h4
    cases hn : nearF k u ps with
    | some r =>
      obtain ⟨qs', a'⟩ := r
      have hnf : nearF k (.split b k' ts) (i :: ps) = some (i :: qs', a') := by simp only [nearF, hu, hn]
      rw [hnf]
      refine ⟨fun e => (by cases e), fun qs a e => ?_⟩
      cases e
      obtain ⟨j, gg, bb, tt, f', hN⟩ := ih2 _ _ hn
      refine ⟨j, gg, bb, tt, f', ?_, ?_, hN.kind, ?_, hN.here, hN.nd, fun q hq => List.mem_cons_of_mem _ (List.mem_append_right _ (e4 q (hN.inn q hq))), fun W' s' hb hs' => ?_⟩
      · rw [List.getElem?_append_left (List.getElem?_eq_some_iff.1 hN.at_).1]
        exact hN.at_
      · intro i2 s hi2 hs
        have hjl := (List.getElem?_eq_some_iff.1 hN.at_).1
        rw [List.getElem?_append_left (by omega)] at hs
        exact hN.ahead i2 s hi2 hs
      · simp only [Tree.subAt, hu]
        exact hN.sub
      · have hput : (Tree.split b k' ts).putAt (i :: qs') s' = .split b k' (ts.set i (u.putAt qs' s')) := by simp [Tree.putAt, hu]
        rw [hput]
        refine ⟨g, _, vs, fs, rfl, ?_, ?_, e5 W' _ (fun q hq hnq => hb q (List.mem_cons_of_mem _ (List.mem_append_right _ hq)) fun e => hnq (hN.inn q e)) (hN.put W' s' (fun q hq hnq => hb q (List.mem_cons_of_mem _ (List.mem_append_right _ (e4 q hq))) hnq) hs'), rfl⟩
        · exact (hb g List.mem_cons_self fun e => n1 (List.mem_append_right _ (e4 g (hN.inn g e)))).trans k2
        · exact own_kept k3 fun q hq => hb q (List.mem_cons_of_mem _ (List.mem_append_left _ hq)) fun e => n5 q hq q (e4 q (hN.inn q e)) rfl
    | none =>
      have ih := ih1 hn
      by_cases hkk : k' = k
      · subst hkk
        have hnf : nearF k' (.split b k' ts) (i :: ps) = some ([], i) := by simp only [nearF, hu, hn, if_true]
        rw [hnf]
        refine ⟨fun e => (by cases e), fun qs a e => ?_⟩
        cases e
        refine ⟨st'.length, g, b, ts, _, by simp, ?_, hk4, rfl, hAt, hnd, fun q hq => hq, fun W' s' _ hs' => hs'⟩
        intro i2 s hi2 hs
        rw [List.getElem?_append_left hi2] at hs
        exact ih i2 s hs
      · have hnf : nearF k (.split b k' ts) (i :: ps) = none := by simp only [nearF, hu, hn, if_neg hkk]
        rw [hnf]
        refine ⟨fun _ i2 s hs => ?_, fun qs a e => (by cases e)⟩
        by_cases hi2 : i2 < st'.length
        · rw [List.getElem?_append_left hi2] at hs
          exact ih i2 s hs
        · rw [List.getElem?_append_right (by omega)] at hs
          have : i2 - st'.length = 0 := by
            have := (List.getElem?_eq_some_iff.1 hs).1
            simp at this
            omega
          rw [this] at hs
          cases hs
          exact ⟨k', hk4, hkk⟩

end Go.Proofs.Ytkaaadbfmbkjeaa

namespace Go.Proofs.Ytkaaadbfmbkjeaa
open Go.RowKit
set_option linter.unusedVariables false
set_option maxRecDepth 100000

theorem stepL_get : ∀ (st : List (Nat × Nat)) (i : Nat) (s : Nat × Nat), st[i]? = some s → (stepL st)[i * 2]? = some (.pointer (some ⟨s.1, 0, none⟩)) ∧ (stepL st)[i * 2 + 1]? = some (.int .i64 s.2)
  | [], i, s, h => by simp at h
  | a :: st, 0, s, h => by
    simp at h
    subst h
    exact ⟨rfl, rfl⟩
  | a :: st, i + 1, s, h => by
    have ih := stepL_get st i s (by simpa using h)
    have e : stepL (a :: st) = [.pointer (some ⟨a.1, 0, none⟩), .int .i64 a.2] ++ stepL st := rfl
    rw [e, show (i + 1) * 2 = i * 2 + 2 by omega, show i * 2 + 2 + 1 = i * 2 + 1 + 2 by omega]
    exact ih
/-- What nearest answers: a tree, a step, an error. -/
def NearErr (er : Int) (w : World) (e : Ending) (w' : World) : Prop := e = .returned (.tuple #[.nilIface, .agg #[.pointer none, .int .i64 0], .int .i64 er]) ∧ Below w.heap.size w w'

theorem near_none (v : Value) (l : List CellV) (q k : Int) (w : World) (h : CellsIn w v l) (hF : readF l = none) : Calls Try.prog 50 #[v, .int .i64 q, .int .i64 k] w (NearErr 40 w) := by
  obtain ⟨W, hW⟩ : ∃ W, w.alloc (.cells #[.pointer none, .int .i64 0] 87) = W := ⟨_, rfl⟩
  have hbW : Below w.heap.size w W := by rw [← hW]; exact (Below.refl _ _).alloc (Nat.le_refl _) _
  have hM : W.heap[w.heap.size]? = some (.cells #[.pointer none, .int .i64 0] 87 (0, 0)) := by rw [← hW]; exact heap_alloc_new _ _
  have HR : Hid (Calls Try.prog 22 #[v] W fun e w' => e = .returned nilPart ∧ Below W.heap.size W w') := read_no v l W (h.below hbW) hF
  have HX : Hid (∀ X, Below W.heap.size W X → X.heap[w.heap.size]? = some (.cells #[.pointer none, .int .i64 0] 87 (0, 0))) := fun X hX => (hX.block _ (lt_of_block hM)).trans hM
  have HW : Hid (w.alloc (.cells #[.pointer none, .int .i64 0] 87) = W) := hW
  have HBW : Hid (Below w.heap.size w W) := hbW
  clear h hF hW hbW hM
  go_enter Try.func50, Try.ntmps50
  go_upto_region 1 with fail
  rw [HW.out]
  go_wp2_with fail
  refine HR.out.mono ?_
  rintro e w1 ⟨rfl, hb⟩
  have c0 : w1.cell? ⟨w.heap.size, 0, none⟩ = some (.pointer none) := cell_atL (HX.out w1 hb) 0
  have c1 : w1.cell? ⟨w.heap.size, 1, none⟩ = some (.int .i64 0) := cell_atL (HX.out w1 hb) 1
  have f0 : w1.frozen? ⟨w.heap.size, 0, none⟩ = false := free_atL (HX.out w1 hb) 0
  have f1 : w1.frozen? ⟨w.heap.size, 1, none⟩ = false := free_atL (HX.out w1 hb) 1
  have HB : Hid (Below w.heap.size w w1) := below_step HBW.out hb
  unfold nilPart
  clear hb
  go_wp2
  exact bodyPost_ret (v := .tuple #[.nilIface, .agg #[.pointer none, .int .i64 0], .int .i64 40]) (by simp [results, Try.results50, go_sem, c0, c1]) rfl ⟨rfl, below_grown (below_grown HB.out (grownBy_set _ _ _ _) (Nat.le_refl _)) (grownBy_set _ _ _ _) (Nat.le_refl _)⟩

theorem near_arg (v : Value) (l : List CellV) (q k : Int) (w : World) (h : CellsIn w v l) {t : Tree} (hF : readF l = some t) (hk : ¬ (k = 2 ∨ k = 3)) : Calls Try.prog 50 #[v, .int .i64 q, .int .i64 k] w (NearErr 1 w) := by
  obtain ⟨W, hW⟩ : ∃ W, w.alloc (.cells #[.pointer none, .int .i64 0] 87) = W := ⟨_, rfl⟩
  have hbW : Below w.heap.size w W := by rw [← hW]; exact (Below.refl _ _).alloc (Nat.le_refl _) _
  have hM : W.heap[w.heap.size]? = some (.cells #[.pointer none, .int .i64 0] 87 (0, 0)) := by rw [← hW]; exact heap_alloc_new _ _
  have HR : Hid (Calls Try.prog 22 #[v] W (ReadYes t W)) := read_yes v l W (h.below hbW) hF
  have HX : Hid (∀ X, Below W.heap.size W X → X.heap[w.heap.size]? = some (.cells #[.pointer none, .int .i64 0] 87 (0, 0))) := fun X hX => (hX.block _ (lt_of_block hM)).trans hM
  have HW : Hid (w.alloc (.cells #[.pointer none, .int .i64 0] 87) = W) := hW
  have HBW : Hid (Below w.heap.size w W) := hbW
  have HC : Hid (∀ W, Calls Try.prog 23 #[.int .i64 k] W fun e w' => e = .returned (.bool false) ∧ W = w') := fun W => (decide_eq_false hk) ▸ isCut_any k W
  clear h hF hW hbW hM hk
  go_enter Try.func50, Try.ntmps50
  go_upto_region 1 with fail
  rw [HW.out]
  go_wp2_with fail
  refine HR.out.mono ?_
  rintro e w1 ⟨T, g, fp, rfl, hAt, hnd, hge, hb⟩
  have HBa : Hid (Below W.heap.size W w1) := hb
  clear hAt hnd hge hb HR
  go_wp2_with fail
  refine (HC.out _).mono ?_
  rintro e w2 ⟨rfl, rfl⟩
  have c0 : w1.cell? ⟨w.heap.size, 0, none⟩ = some (.pointer none) := cell_atL (HX.out w1 HBa.out) 0
  have c1 : w1.cell? ⟨w.heap.size, 1, none⟩ = some (.int .i64 0) := cell_atL (HX.out w1 HBa.out) 1
  have f0 : w1.frozen? ⟨w.heap.size, 0, none⟩ = false := free_atL (HX.out w1 HBa.out) 0
  have f1 : w1.frozen? ⟨w.heap.size, 1, none⟩ = false := free_atL (HX.out w1 HBa.out) 1
  have HB : Hid (Below w.heap.size w w1) := below_step HBW.out HBa.out
  go_wp2
  exact bodyPost_ret (v := .tuple #[.nilIface, .agg #[.pointer none, .int .i64 0], .int .i64 1]) (by simp [results, Try.results50, go_sem, c0, c1]) rfl ⟨rfl, below_grown (below_grown HB.out (grownBy_set _ _ _ _) (Nat.le_refl _)) (grownBy_set _ _ _ _) (Nat.le_refl _)⟩

theorem near_pane (v : Value) (l : List CellV) (q k : Int) (w : World) (h : CellsIn w v l) {t : Tree} (hF : readF l = some t) (hk : k = 2 ∨ k = 3) (hp : t.path q = none) : Calls Try.prog 50 #[v, .int .i64 q, .int .i64 k] w (NearErr 42 w) := by
  obtain ⟨W, hW⟩ : ∃ W, w.alloc (.cells #[.pointer none, .int .i64 0] 87) = W := ⟨_, rfl⟩
  have hbW : Below w.heap.size w W := by rw [← hW]; exact (Below.refl _ _).alloc (Nat.le_refl _) _
  have hM : W.heap[w.heap.size]? = some (.cells #[.pointer none, .int .i64 0] 87 (0, 0)) := by rw [← hW]; exact heap_alloc_new _ _
  have HR : Hid (Calls Try.prog 22 #[v] W (ReadYes t W)) := read_yes v l W (h.below hbW) hF
  have HX : Hid (∀ X, Below W.heap.size W X → X.heap[w.heap.size]? = some (.cells #[.pointer none, .int .i64 0] 87 (0, 0))) := fun X hX => (hX.block _ (lt_of_block hM)).trans hM
  have HW : Hid (w.alloc (.cells #[.pointer none, .int .i64 0] 87) = W) := hW
  have HBW : Hid (Below w.heap.size w W) := hbW
  have HC : Hid (∀ W, Calls Try.prog 23 #[.int .i64 k] W fun e w' => e = .returned (.bool true) ∧ W = w') := fun W => (decide_eq_true hk) ▸ isCut_any k W
  have hl := readF_lay hF
  have hz := lay_size hl
  have HWy : Hid (∀ T g fp X, t.At X 0 (.iface T (.pointer (some ⟨g, 0, none⟩))) fp → ∃ Fw, (∀ Y, (method 277 T (.pointer (some ⟨g, 0, none⟩)) "mullion/layout.way").run Try.prog Y = .ok (Fw, .pointer (some ⟨g, 0, none⟩)) Y) ∧ (∀ a c Y, (callFunc Fw #[a, c]).run Try.prog Y = .ok (.enter Fw #[a, c]) Y) ∧ Calls Try.prog Fw #[.pointer (some ⟨g, 0, none⟩), .int .i64 q] X (WayGood X (.iface T (.pointer (some ⟨g, 0, none⟩))) t q X)) := fun T g fp X hA => by
    obtain ⟨T', gi, Fw, hP⟩ := hA.partW hl.sound (by omega)
    have hv := hP.val
    cases hv
    exact ⟨Fw, hP.mW, hP.fW, hP.cW q X (Below.refl _ _)⟩
  have HP : Hid (t.path q = none) := hp
  clear h hF hW hbW hM hk hl hz hp
  go_enter Try.func50, Try.ntmps50
  go_upto_region 1 with fail
  rw [HW.out]
  go_wp2_with fail
  refine HR.out.mono ?_
  rintro e w1 ⟨T, g, fp, rfl, hAt, hnd, hge, hb⟩
  have HBa : Hid (Below W.heap.size W w1) := hb
  obtain ⟨Fw, m1, m2, hcw⟩ := HWy.out T g fp w1 hAt
  have HcW : Hid (Calls Try.prog Fw #[.pointer (some ⟨g, 0, none⟩), .int .i64 q] w1 (WayGood w1 (.iface T (.pointer (some ⟨g, 0, none⟩))) t q w1)) := hcw
  have HAt : Hid (t.At w1 0 (.iface T (.pointer (some ⟨g, 0, none⟩))) fp ∧ fp.Nodup ∧ ∀ q ∈ fp, W.heap.size ≤ q) := ⟨hAt, hnd, hge⟩
  clear hAt hnd hge hb HR hcw HWy
  go_wp2_with fail
  refine (HC.out _).mono ?_
  rintro e w2 ⟨rfl, rfl⟩
  go_wp2_with fail
  refine HcW.out.mono ?_
  rintro e w2 ⟨hb2, ⟨hp2, rfl⟩ | ⟨ps, gl, st, sa, sn, sc, hp2, _⟩⟩
  · have hb3 := below_step HBa.out hb2
    have c0 : w2.cell? ⟨w.heap.size, 0, none⟩ = some (.pointer none) := cell_atL (HX.out w2 hb3) 0
    have c1 : w2.cell? ⟨w.heap.size, 1, none⟩ = some (.int .i64 0) := cell_atL (HX.out w2 hb3) 1
    have f0 : w2.frozen? ⟨w.heap.size, 0, none⟩ = false := free_atL (HX.out w2 hb3) 0
    have f1 : w2.frozen? ⟨w.heap.size, 1, none⟩ = false := free_atL (HX.out w2 hb3) 1
    have HB : Hid (Below w.heap.size w w2) := below_step HBW.out hb3
    clear hb2 hb3 hp2
    go_wp2
    exact bodyPost_ret (v := .tuple #[.nilIface, .agg #[.pointer none, .int .i64 0], .int .i64 42]) (by simp [results, Try.results50, go_sem, c0, c1]) rfl ⟨rfl, below_grown (below_grown HB.out (grownBy_set _ _ _ _) (Nat.le_refl _)) (grownBy_set _ _ _ _) (Nat.le_refl _)⟩
  · rw [HP.out] at hp2
    cases hp2

set_option maxHeartbeats 1000000 in
theorem near_alone (v : Value) (l : List CellV) (q k : Int) (w : World) (h : CellsIn w v l) {t : Tree} (hF : readF l = some t) (hk : k = 2 ∨ k = 3) (ps : List Nat) (hp : t.path q = some ps) (hpl : ps.length ≤ 1000) (hn : nearF k t ps = none) : Calls Try.prog 50 #[v, .int .i64 q, .int .i64 k] w (NearErr 47 w) := by
  obtain ⟨W, hW⟩ : ∃ W, w.alloc (.cells #[.pointer none, .int .i64 0] 87) = W := ⟨_, rfl⟩
  have hbW : Below w.heap.size w W := by rw [← hW]; exact (Below.refl _ _).alloc (Nat.le_refl _) _
  have hM : W.heap[w.heap.size]? = some (.cells #[.pointer none, .int .i64 0] 87 (0, 0)) := by rw [← hW]; exact heap_alloc_new _ _
  have HR : Hid (Calls Try.prog 22 #[v] W (ReadYes t W)) := read_yes v l W (h.below hbW) hF
  have HX : Hid (∀ X, Below W.heap.size W X → X.heap[w.heap.size]? = some (.cells #[.pointer none, .int .i64 0] 87 (0, 0))) := fun X hX => (hX.block _ (lt_of_block hM)).trans hM
  have HW : Hid (w.alloc (.cells #[.pointer none, .int .i64 0] 87) = W) := hW
  have HBW : Hid (Below w.heap.size w W) := hbW
  have HC : Hid (∀ W, Calls Try.prog 23 #[.int .i64 k] W fun e w' => e = .returned (.bool true) ∧ W = w') := fun W => (decide_eq_true hk) ▸ isCut_any k W
  have hl := readF_lay hF
  have hz := lay_size hl
  have HWy : Hid (∀ T g fp X, t.At X 0 (.iface T (.pointer (some ⟨g, 0, none⟩))) fp → ∃ Fw, (∀ Y, (method 277 T (.pointer (some ⟨g, 0, none⟩)) "mullion/layout.way").run Try.prog Y = .ok (Fw, .pointer (some ⟨g, 0, none⟩)) Y) ∧ (∀ a c Y, (callFunc Fw #[a, c]).run Try.prog Y = .ok (.enter Fw #[a, c]) Y) ∧ Calls Try.prog Fw #[.pointer (some ⟨g, 0, none⟩), .int .i64 q] X (WayGood X (.iface T (.pointer (some ⟨g, 0, none⟩))) t q X)) := fun T g fp X hA => by
    obtain ⟨T', gi, Fw, hP⟩ := hA.partW hl.sound (by omega)
    have hv := hP.val
    cases hv
    exact ⟨Fw, hP.mW, hP.fW, hP.cW q X (Below.refl _ _)⟩
  have HP : Hid (t.path q = some ps) := hp
  have HPl : Hid (ps.length ≤ 1000) := hpl
  have HNf : Hid (nearF k t ps = none) := hn
  clear h hF hW hbW hM hk hl hz hp hpl hn
  go_enter Try.func50, Try.ntmps50
  go_upto_region 1 with fail
  rw [HW.out]
  go_wp2_with fail
  refine HR.out.mono ?_
  rintro e w1 ⟨T, g, fp, rfl, hAt, hnd, hge, hb⟩
  have HBa : Hid (Below W.heap.size W w1) := hb
  obtain ⟨Fw, m1, m2, hcw⟩ := HWy.out T g fp w1 hAt
  have HcW : Hid (Calls Try.prog Fw #[.pointer (some ⟨g, 0, none⟩), .int .i64 q] w1 (WayGood w1 (.iface T (.pointer (some ⟨g, 0, none⟩))) t q w1)) := hcw
  have HAt : Hid (t.At w1 0 (.iface T (.pointer (some ⟨g, 0, none⟩))) fp ∧ fp.Nodup ∧ ∀ q ∈ fp, W.heap.size ≤ q) := ⟨hAt, hnd, hge⟩
  clear hAt hnd hge hb HR hcw HWy
  go_wp2_with fail
  refine (HC.out _).mono ?_
  rintro e w2 ⟨rfl, rfl⟩
  go_wp2_with fail
  refine HcW.out.mono ?_
  rintro e w2 ⟨hb2, ⟨hp2, rfl⟩ | ⟨ps2, gl, st, sa, sn, sc, hp2, hre, rfl, hst⟩⟩
  · rw [HP.out] at hp2
    cases hp2
  · rw [HP.out] at hp2
    cases hp2
    have hb3 := below_step HBa.out hb2
    have hre0 := hre
    have HNr : Hid _ := near_at (k := k) ps HAt.out.1 HAt.out.2.1 hre
    have hsn : sn = st.length := by
      obtain ⟨a', c', e⟩ := own_sl5 hst
      injection e with _ e2 _
    obtain ⟨m, hm⟩ : ∃ m, st.length = m := ⟨_, rfl⟩
    have hps : m ≤ 1000 := by
      rw [← hm, hre.len]
      exact HPl.out
    rw [hm] at hsn
    have hsn' := hsn.symm
    subst hsn'
    have HM : Hid (st.length = m) := hm
    have HSt : Hid (∀ X, Below w2.heap.size w2 X → ∀ (i : Nat) s, st[i]? = some s → ∃ sg, sa = some ⟨sg, 0, none⟩ ∧ X.cell? ⟨sg, i * 2, none⟩ = some (.pointer (some ⟨s.1, 0, none⟩)) ∧ X.cell? ⟨sg, i * 2 + 1, none⟩ = some (.int .i64 s.2)) := fun X hX i s hs => by
      have hi : i < m := by rw [← hm]; exact (List.getElem?_eq_some_iff.1 hs).1
      have hst' := hst
      unfold Steps at hst'
      rw [hm] at hst'
      rcases hst'.2 with ⟨_, h0⟩ | ⟨sg, cp, cur, e, hb0, hg0, r⟩
      · omega
      · have he : sa = some ⟨sg, 0, none⟩ := by injection e
        refine ⟨sg, he, ?_, ?_⟩
        · subst he
          have h1 := World.ownsRow.cellAt hst' (i * 2) (by omega)
          rw [(stepL_get st i s hs).1] at h1
          exact (hX.cell (p := ⟨sg, i * 2, none⟩) (World.block_lt_of_cell? w2 _ h1)).trans h1
        · subst he
          have h1 := World.ownsRow.cellAt hst' (i * 2 + 1) (by omega)
          rw [(stepL_get st i s hs).2] at h1
          exact (hX.cell (p := ⟨sg, i * 2 + 1, none⟩) (World.block_lt_of_cell? w2 _ h1)).trans h1
    have HKd : Hid (∀ X, Below w2.heap.size w2 X → ∀ (gg : Nat) x, w1.cell? ⟨gg, 4, none⟩ = some x → X.cell? ⟨gg, 4, none⟩ = some x) := fun X hX gg x hx => ((below_step hb2 hX).cell (p := ⟨gg, 4, none⟩) (World.block_lt_of_cell? w1 _ hx)).trans hx
    have HB2 : Hid (Below W.heap.size W w2) := hb3
    have HCs : Hid (∀ X, Below w2.heap.size w2 X → X.cell? ⟨w.heap.size, 0, none⟩ = some (.pointer none) ∧ X.cell? ⟨w.heap.size, 1, none⟩ = some (.int .i64 0) ∧ X.frozen? ⟨w.heap.size, 0, none⟩ = false ∧ X.frozen? ⟨w.heap.size, 1, none⟩ = false) := fun X hX => by
      have hbx := HX.out X (below_step hb3 hX)
      exact ⟨cell_atL hbx 0, cell_atL hbx 1, free_atL hbx 0, free_atL hbx 1⟩
    have HOt : Hid (∀ (i : Nat) (s : Nat × Nat), st[i]? = some s → OtherK w1 k s.1) := HNr.out.1 HNf.out
    clear hb2 hb3 hre hre0 hst hm HNr HcW m1 m2 HAt
    go_wp2
    go_loopw [34] (fun vi wr => ∃ i : Nat, i ≤ m ∧ vi = .int .i64 i ∧ Hid (Below w2.heap.size w2 wr)) (fun vi _ => m - (intOf vi).toNat)
    case atStart => exact ⟨0, Nat.zero_le _, rfl, Below.refl _ _⟩
    case round =>
      obtain ⟨i, hi, rfl, HBr⟩ := hrel
      by_cases hlt : i < m
      · obtain ⟨s, hs⟩ : ∃ s, st[i]? = some s := ⟨_, List.getElem?_eq_getElem (by rw [HM.out]; exact hlt)⟩
        obtain ⟨sg, hsa, q0, q1⟩ := HSt.out wr HBr.out i s hs
        obtain ⟨k', hk', hne⟩ := HOt.out i s hs
        subst hsa
        obtain ⟨s1, s2⟩ := s
        have HK2 : Hid (∀ o, (wr.alloc o).cell? ⟨s1, 4, none⟩ = some (.int .i64 k')) := fun o => HKd.out _ (below_step HBr.out ((Below.refl _ _).alloc (Nat.le_refl _) o)) s1 _ hk'
        have k4 := HK2.out
        have hne' : (k' == k) = false := by simpa using hne
        have HB5 : Hid (∀ o, Below w2.heap.size w2 (wr.alloc o)) := fun o => below_step HBr.out ((Below.refl _ _).alloc (Nat.le_refl _) o)
        clear hs hk' hne
        go_wp2
        go_roundw
        case rel => exact ⟨i + 1, by omega, by go_num, HB5.out _⟩
        case measure => simp [intOf]; omega
      · have hin : i = m := by omega
        subst hin
        obtain ⟨c0, c1, f0, f1⟩ := HCs.out wr HBr.out
        have HB : Hid (Below w.heap.size w wr) := below_step HBW.out (below_step HB2.out HBr.out)
        go_wp2
        exact bodyPost_ret (v := .tuple #[.nilIface, .agg #[.pointer none, .int .i64 0], .int .i64 47]) (by simp [results, Try.results50, go_sem, c0, c1]) rfl ⟨rfl, below_grown (below_grown HB.out (grownBy_set _ _ _ _) (Nat.le_refl _)) (grownBy_set _ _ _ _) (Nat.le_refl _)⟩

end Go.Proofs.Ytkaaadbfmbkjeaa

namespace Go.Proofs.Ytkaaadbfmbkjeaa
open Go.RowKit
set_option linter.unusedVariables false
set_option maxRecDepth 100000

/-- What nearest answers where there is one. -/
def NearYes (k : Int) (t : Tree) (qs : List Nat) (a : Nat) (w : World) (e : Ending) (w' : World) : Prop := ∃ T g fp st j gg b ts f' w1, e = .returned (.tuple #[.iface T (.pointer (some ⟨g, 0, none⟩)), .agg #[.pointer (some ⟨gg, 0, none⟩), .int .i64 a], .int .i64 0]) ∧ t.At w1 0 (.iface T (.pointer (some ⟨g, 0, none⟩))) fp ∧ fp.Nodup ∧ (∀ q ∈ fp, w.heap.size + 1 ≤ q) ∧ NearAt w1 k t (.iface T (.pointer (some ⟨g, 0, none⟩))) fp st qs a j gg b ts f' ∧ But [w.heap.size] w1 w' ∧ Below w.heap.size w w'

set_option maxHeartbeats 1000000 in
theorem near_found (v : Value) (l : List CellV) (q k : Int) (w : World) (h : CellsIn w v l) {t : Tree} (hF : readF l = some t) (hk : k = 2 ∨ k = 3) (ps : List Nat) (hp : t.path q = some ps) (hpl : ps.length ≤ 1000) (qs : List Nat) (a : Nat) (hn : nearF k t ps = some (qs, a)) : Calls Try.prog 50 #[v, .int .i64 q, .int .i64 k] w (NearYes k t qs a w) := by
  obtain ⟨W, hW⟩ : ∃ W, w.alloc (.cells #[.pointer none, .int .i64 0] 87) = W := ⟨_, rfl⟩
  have hbW : Below w.heap.size w W := by rw [← hW]; exact (Below.refl _ _).alloc (Nat.le_refl _) _
  have hM : W.heap[w.heap.size]? = some (.cells #[.pointer none, .int .i64 0] 87 (0, 0)) := by rw [← hW]; exact heap_alloc_new _ _
  have HR : Hid (Calls Try.prog 22 #[v] W (ReadYes t W)) := read_yes v l W (h.below hbW) hF
  have HX : Hid (∀ X, Below W.heap.size W X → X.heap[w.heap.size]? = some (.cells #[.pointer none, .int .i64 0] 87 (0, 0))) := fun X hX => (hX.block _ (lt_of_block hM)).trans hM
  have HW : Hid (w.alloc (.cells #[.pointer none, .int .i64 0] 87) = W) := hW
  have HBW : Hid (Below w.heap.size w W) := hbW
  have HC : Hid (∀ W, Calls Try.prog 23 #[.int .i64 k] W fun e w' => e = .returned (.bool true) ∧ W = w') := fun W => (decide_eq_true hk) ▸ isCut_any k W
  have hl := readF_lay hF
  have hz := lay_size hl
  have HWy : Hid (∀ T g fp X, t.At X 0 (.iface T (.pointer (some ⟨g, 0, none⟩))) fp → ∃ Fw, (∀ Y, (method 277 T (.pointer (some ⟨g, 0, none⟩)) "mullion/layout.way").run Try.prog Y = .ok (Fw, .pointer (some ⟨g, 0, none⟩)) Y) ∧ (∀ a c Y, (callFunc Fw #[a, c]).run Try.prog Y = .ok (.enter Fw #[a, c]) Y) ∧ Calls Try.prog Fw #[.pointer (some ⟨g, 0, none⟩), .int .i64 q] X (WayGood X (.iface T (.pointer (some ⟨g, 0, none⟩))) t q X)) := fun T g fp X hA => by
    obtain ⟨T', gi, Fw, hP⟩ := hA.partW hl.sound (by omega)
    have hv := hP.val
    cases hv
    exact ⟨Fw, hP.mW, hP.fW, hP.cW q X (Below.refl _ _)⟩
  have HP : Hid (t.path q = some ps) := hp
  have HPl : Hid (ps.length ≤ 1000) := hpl
  have HNf : Hid (nearF k t ps = some (qs, a)) := hn
  have hWs : W.heap.size = w.heap.size + 1 := by rw [← hW]; simp
  have HWs : Hid (W.heap.size = w.heap.size + 1) := hWs
  clear h hF hW hbW hM hk hl hz hp hpl hn hWs
  go_enter Try.func50, Try.ntmps50
  go_upto_region 1 with fail
  rw [HW.out]
  go_wp2_with fail
  refine HR.out.mono ?_
  rintro e w1 ⟨T, g, fp, rfl, hAt, hnd, hge, hb⟩
  have HBa : Hid (Below W.heap.size W w1) := hb
  obtain ⟨Fw, m1, m2, hcw⟩ := HWy.out T g fp w1 hAt
  have HcW : Hid (Calls Try.prog Fw #[.pointer (some ⟨g, 0, none⟩), .int .i64 q] w1 (WayGood w1 (.iface T (.pointer (some ⟨g, 0, none⟩))) t q w1)) := hcw
  have HAt : Hid (t.At w1 0 (.iface T (.pointer (some ⟨g, 0, none⟩))) fp ∧ fp.Nodup ∧ ∀ q ∈ fp, W.heap.size ≤ q) := ⟨hAt, hnd, hge⟩
  clear hAt hnd hge hb HR hcw HWy
  go_wp2_with fail
  refine (HC.out _).mono ?_
  rintro e w2 ⟨rfl, rfl⟩
  go_wp2_with fail
  refine HcW.out.mono ?_
  rintro e w2 ⟨hb2, ⟨hp2, rfl⟩ | ⟨ps2, gl, st, sa, sn, sc, hp2, hre, rfl, hst⟩⟩
  · rw [HP.out] at hp2
    cases hp2
  · rw [HP.out] at hp2
    cases hp2
    have hb3 := below_step HBa.out hb2
    have hre0 := hre
    have HNr : Hid _ := near_at (k := k) ps HAt.out.1 HAt.out.2.1 hre
    have hsn : sn = st.length := by
      obtain ⟨a', c', e⟩ := own_sl5 hst
      injection e with _ e2 _
    obtain ⟨m, hm⟩ : ∃ m, st.length = m := ⟨_, rfl⟩
    have hps : m ≤ 1000 := by
      rw [← hm, hre.len]
      exact HPl.out
    rw [hm] at hsn
    have hsn' := hsn.symm
    subst hsn'
    have HM : Hid (st.length = m) := hm
    have HSt : Hid (∀ X, Below w2.heap.size w2 X → ∀ (i : Nat) s, st[i]? = some s → ∃ sg, sa = some ⟨sg, 0, none⟩ ∧ X.cell? ⟨sg, i * 2, none⟩ = some (.pointer (some ⟨s.1, 0, none⟩)) ∧ X.cell? ⟨sg, i * 2 + 1, none⟩ = some (.int .i64 s.2)) := fun X hX i s hs => by
      have hi : i < m := by rw [← hm]; exact (List.getElem?_eq_some_iff.1 hs).1
      have hst' := hst
      unfold Steps at hst'
      rw [hm] at hst'
      rcases hst'.2 with ⟨_, h0⟩ | ⟨sg, cp, cur, e, hb0, hg0, r⟩
      · omega
      · have he : sa = some ⟨sg, 0, none⟩ := by injection e
        refine ⟨sg, he, ?_, ?_⟩
        · subst he
          have h1 := World.ownsRow.cellAt hst' (i * 2) (by omega)
          rw [(stepL_get st i s hs).1] at h1
          exact (hX.cell (p := ⟨sg, i * 2, none⟩) (World.block_lt_of_cell? w2 _ h1)).trans h1
        · subst he
          have h1 := World.ownsRow.cellAt hst' (i * 2 + 1) (by omega)
          rw [(stepL_get st i s hs).2] at h1
          exact (hX.cell (p := ⟨sg, i * 2 + 1, none⟩) (World.block_lt_of_cell? w2 _ h1)).trans h1
    have HKd : Hid (∀ X, Below w2.heap.size w2 X → ∀ (gg : Nat) x, w1.cell? ⟨gg, 4, none⟩ = some x → X.cell? ⟨gg, 4, none⟩ = some x) := fun X hX gg x hx => ((below_step hb2 hX).cell (p := ⟨gg, 4, none⟩) (World.block_lt_of_cell? w1 _ hx)).trans hx
    have HB2 : Hid (Below W.heap.size W w2) := hb3
    have HCs : Hid (∀ X, Below w2.heap.size w2 X → X.cell? ⟨w.heap.size, 0, none⟩ = some (.pointer none) ∧ X.cell? ⟨w.heap.size, 1, none⟩ = some (.int .i64 0) ∧ X.frozen? ⟨w.heap.size, 0, none⟩ = false ∧ X.frozen? ⟨w.heap.size, 1, none⟩ = false) := fun X hX => by
      have hbx := HX.out X (below_step hb3 hX)
      exact ⟨cell_atL hbx 0, cell_atL hbx 1, free_atL hbx 0, free_atL hbx 1⟩
    obtain ⟨j, gg, bb, ts, f', hN⟩ := HNr.out.2 qs a HNf.out
    have hjm : j < m := by rw [← hm]; exact (List.getElem?_eq_some_iff.1 hN.at_).1
    have HEnd : Hid (∀ X, But [w.heap.size] w2 X → NearYes k t qs a w (.returned (.tuple #[.iface T (.pointer (some ⟨g, 0, none⟩)), .agg #[.pointer (some ⟨gg, 0, none⟩), .int .i64 a], .int .i64 0])) X) := fun X hX => by
      have h12 : But [w.heap.size] w1 w2 := ⟨hb2.os, hb2.tape, hb2.output, hb2.size, fun q hq _ => hb2.block q hq⟩
      have hw2 := below_step HBW.out hb3
      exact ⟨T, g, fp, st, j, gg, bb, ts, f', w1, rfl, HAt.out.1, HAt.out.2.1, fun q hq => by have := HAt.out.2.2 q hq; have := HWs.out; omega, hN, h12.trans hX, below_but hw2 hX (fun q hq => Nat.le_of_eq (by simpa using hq : q = w.heap.size).symm)⟩
    have HAh : Hid (∀ (i : Nat) (s : Nat × Nat), i < j → st[i]? = some s → OtherK w1 k s.1) := hN.ahead
    have HAe : Hid (st[j]? = some (gg, a)) := hN.at_
    have HKk : Hid (w1.cell? ⟨gg, 4, none⟩ = some (.int .i64 k)) := hN.kind
    clear hb2 hb3 hre hre0 hst hm HNr HcW m1 m2 HAt hN
    go_wp2
    go_loopw [34] (fun vi wr => ∃ i : Nat, i ≤ j ∧ vi = .int .i64 i ∧ Hid (Below w2.heap.size w2 wr)) (fun vi _ => m - (intOf vi).toNat)
    case atStart => exact ⟨0, Nat.zero_le _, rfl, Below.refl _ _⟩
    case round =>
      obtain ⟨i, hi, rfl, HBr⟩ := hrel
      by_cases hlt : i < j
      · obtain ⟨s, hs⟩ : ∃ s, st[i]? = some s := ⟨_, List.getElem?_eq_getElem (by rw [HM.out]; omega)⟩
        obtain ⟨sg, hsa, q0, q1⟩ := HSt.out wr HBr.out i s hs
        obtain ⟨k', hk', hne⟩ := HAh.out i s hlt hs
        subst hsa
        obtain ⟨s1, s2⟩ := s
        have HK2 : Hid (∀ o, (wr.alloc o).cell? ⟨s1, 4, none⟩ = some (.int .i64 k')) := fun o => HKd.out _ (below_step HBr.out ((Below.refl _ _).alloc (Nat.le_refl _) o)) s1 _ hk'
        have k4 := HK2.out
        have hne' : (k' == k) = false := by simpa using hne
        have him : i < m := by omega
        have HB5 : Hid (∀ o, Below w2.heap.size w2 (wr.alloc o)) := fun o => below_step HBr.out ((Below.refl _ _).alloc (Nat.le_refl _) o)
        clear hs hk' hne
        go_wp2
        go_roundw
        case rel => exact ⟨i + 1, by omega, by go_num, HB5.out _⟩
        case measure => simp [intOf]; omega
      · have hin : i = j := by omega
        subst hin
        obtain ⟨sg, hsa, q0, q1⟩ := HSt.out wr HBr.out i _ HAe.out
        subst hsa
        have HK2 : Hid (∀ o, (wr.alloc o).cell? ⟨gg, 4, none⟩ = some (.int .i64 k)) := fun o => HKd.out _ (below_step HBr.out ((Below.refl _ _).alloc (Nat.le_refl _) o)) gg _ HKk.out
        have k4 := HK2.out
        obtain ⟨Y, hY⟩ : ∃ Y, wr.alloc (.cells #[.pointer (some ⟨gg, 0, none⟩), .int .i64 a] 87) = Y := ⟨_, rfl⟩
        have hbY : Below w2.heap.size w2 Y := by rw [← hY]; exact below_step HBr.out ((Below.refl _ _).alloc (Nat.le_refl _) _)
        have hMY : Y.heap[wr.heap.size]? = some (.cells #[.pointer (some ⟨gg, 0, none⟩), .int .i64 a] 87 (0, 0)) := by rw [← hY]; exact heap_alloc_new _ _
        have HY : Hid (wr.alloc (.cells #[.pointer (some ⟨gg, 0, none⟩), .int .i64 a] 87) = Y) := hY
        obtain ⟨c0, c1, f0, f1⟩ := HCs.out Y hbY
        have y0 : Y.cell? ⟨wr.heap.size, 0, none⟩ = some (.pointer (some ⟨gg, 0, none⟩)) := cell_atL hMY 0
        have y1 : Y.cell? ⟨wr.heap.size, 1, none⟩ = some (.int .i64 a) := cell_atL hMY 1
        have HF : Hid (∀ X, But [w.heap.size] Y X → NearYes k t qs a w (.returned (.tuple #[.iface T (.pointer (some ⟨g, 0, none⟩)), .agg #[.pointer (some ⟨gg, 0, none⟩), .int .i64 a], .int .i64 0])) X) := fun X hX => HEnd.out X (But.trans ⟨hbY.os, hbY.tape, hbY.output, hbY.size, fun q hq _ => hbY.block q hq⟩ hX)
        clear hY hbY hMY HEnd
        go_upto_region 13 with fail
        rw [HY.out]
        go_region
        all_goals go_wp2
        all_goals exact bodyPost_ret (v := .tuple #[.iface T (.pointer (some ⟨g, 0, none⟩)), .agg #[.pointer (some ⟨gg, 0, none⟩), .int .i64 a], .int .i64 0]) (by simp [results, Try.results50, go_sem, c0, c1]) rfl (HF.out _ (((But.grown (grownBy_set _ _ _ _)).trans (But.grown (grownBy_set _ _ _ _))).drew))

end Go.Proofs.Ytkaaadbfmbkjeaa

namespace Go.Proofs.Ytkaaadbfmbkjeaa
open Go.RowKit
set_option linter.unusedVariables false
set_option maxRecDepth 20000

/-- A part that another one may stand for. -/
structure Same (s s' : Tree) : Prop where
  sound : s.sound = true → s'.sound = true
  box : s'.box = s.box
  kind : ∀ q, s'.kindIs q = s.kindIs q
  kinds : s.kinds → s'.kinds
  size : s'.size = s.size
structure SameL (b : Box) (k : Int) (ts rs : List Tree) : Prop where
  len : rs.length = ts.length
  sound : soundAll ts b k = true → soundAll rs b k = true
  ext : extAll rs k = extAll ts k
  kinds : kindsAll ts → kindsAll rs
  size : sizes rs = sizes ts
theorem same_set (b : Box) (k : Int) (u u' : Tree) (h : Same u u') : ∀ (ts : List Tree) (i : Nat), ts[i]? = some u → SameL b k ts (ts.set i u')
  | [], i, hi => by simp at hi
  | a :: ts, 0, hi => by
    simp at hi
    subst hi
    refine ⟨by simp, fun hs => ?_, ?_, fun hk => ⟨h.kinds hk.1, hk.2⟩, ?_⟩
    · show soundAll (u' :: ts) b k = true
      unfold soundAll at hs ⊢
      simp only [Bool.and_eq_true, decide_eq_true_eq] at hs ⊢
      exact ⟨⟨h.sound hs.1.1, by rw [h.kind]; exact hs.1.2.1, by rw [h.box]; exact hs.1.2.2⟩, hs.2⟩
    · show u'.box.ext k + 1 + extAll ts k = a.box.ext k + 1 + extAll ts k
      rw [h.box]
    · show u'.size + sizes ts = a.size + sizes ts
      rw [h.size]
  | a :: ts, i + 1, hi => by
    have ih := same_set b k u u' h ts i (by simpa using hi)
    refine ⟨by simp, fun hs => ?_, ?_, fun hk => ⟨hk.1, ih.kinds hk.2⟩, ?_⟩
    · show soundAll (a :: ts.set i u') b k = true
      unfold soundAll at hs ⊢
      simp only [Bool.and_eq_true, decide_eq_true_eq] at hs ⊢
      exact ⟨hs.1, ih.sound hs.2⟩
    · show a.box.ext k + 1 + extAll (ts.set i u') k = a.box.ext k + 1 + extAll ts k
      rw [ih.ext]
    · show a.size + sizes (ts.set i u') = a.size + sizes ts
      rw [ih.size]
theorem same_split (b : Box) (k : Int) (ts rs : List Tree) (h : SameL b k ts rs) : Same (.split b k ts) (.split b k rs) := by
  refine ⟨fun hs => ?_, rfl, fun q => rfl, fun hk => ⟨hk.1, h.kinds hk.2⟩, ?_⟩
  · unfold Tree.sound at hs ⊢
    simp only [Bool.and_eq_true, decide_eq_true_eq] at hs ⊢
    exact ⟨⟨by rw [h.len]; exact hs.1.1, hs.1.2⟩, h.sound hs.2.1, by rw [h.ext]; exact hs.2.2⟩
  · show 1 + sizes rs = 1 + sizes ts
    rw [h.size]
theorem put_same : ∀ (qs : List Nat) (t s s' : Tree), t.subAt qs = some s → Same s s' → Same t (t.putAt qs s')
  | [], t, s, s', h, hs => by
    have : t = s := by simpa [Tree.subAt] using h
    subst this
    exact hs
  | i :: qs, .leaf b p, s, s', h, hs => by simp [Tree.subAt] at h
  | i :: qs, .split b k ts, s, s', h, hs => by
    cases hi : ts[i]? with
    | none => simp [Tree.subAt, hi] at h
    | some u =>
      have h' : u.subAt qs = some s := by simpa [Tree.subAt, hi] using h
      have hput : (Tree.split b k ts).putAt (i :: qs) s' = .split b k (ts.set i (u.putAt qs s')) := by simp [Tree.putAt, hi]
      rw [hput]
      exact same_split b k ts _ (same_set b k u _ (put_same qs u s s' h' hs) ts i hi)
/-- What stands where a way leads to in a sound tree is sound. -/
theorem sub_sound : ∀ (qs : List Nat) (t s : Tree), t.subAt qs = some s → t.sound = true → t.kinds → s.sound = true ∧ s.kinds ∧ s.size ≤ t.size
  | [], t, s, h, hs, hk => by
    have : t = s := by simpa [Tree.subAt] using h
    subst this
    exact ⟨hs, hk, Nat.le_refl _⟩
  | i :: qs, .leaf b p, s, h, hs, hk => by simp [Tree.subAt] at h
  | i :: qs, .split b k ts, s, h, hs, hk => by
    cases hi : ts[i]? with
    | none => simp [Tree.subAt, hi] at h
    | some u =>
      have h' : u.subAt qs = some s := by simpa [Tree.subAt, hi] using h
      unfold Tree.sound at hs
      simp only [Bool.and_eq_true, decide_eq_true_eq] at hs
      have hsd := soundAll_at ts b k i u hi hs.2.1
      simp only [Bool.and_eq_true] at hsd
      have ih := sub_sound qs u s h' hsd.1 (kindsAll_at ts i u hi hk.2)
      have hz := sizes_at ts i u hi
      refine ⟨ih.1, ih.2.1, ?_⟩
      show s.size ≤ 1 + sizes ts
      have := ih.2.2
      omega

/-- The border behind part a's is pushed by n lines. -/
structure PushT (k : Int) (b : Box) (ts : List Tree) (a : Nat) (n : Int) (rs : List Tree) (c : Nat) (got : Int) : Prop where
  two : 2 ≤ ts.length
  max_ : ts.length ≤ 900
  lt : a < ts.length
  mid : c = min a (ts.length - 2)
  draw : (0 ≤ n → Draw k c (List.range' (c + 1) (ts.length - 1 - c)) n ts rs got) ∧ (n < 0 → Draw k (c + 1) (List.range (c + 1)).reverse (-(max n (-1000))) ts rs got)
  lim : 0 ≤ got ∧ got ≤ 1000000
  same : SameL b k ts rs
theorem draw_lim {k : Int} {c : Nat} {b : Box} : ∀ {js : List Nat} {n : Int} {us rs : List Tree} {got : Int}, Draw k c js n us rs got → 0 ≤ got ∧ got ≤ 1000 * (js.length : Int)
  | [], n, us, rs, got, h => by
    cases h
    simp
  | j :: js, n, us, rs, got, h => by
    cases h with
    | cons _ _ _ d _ _ t t' s s' got' h1 h2 h3 h4 h5 h6 h7 h8 h9 h10 h11 h12 h13 =>
      have ih := draw_lim (b := b) h13
      rw [List.length_cons]
      omega

theorem push_can (b : Box) (k : Int) (ts : List Tree) (a : Nat) (n : Int) (hs : (Tree.split b k ts).sound = true) (hk : (Tree.split b k ts).kinds) (hz : (Tree.split b k ts).size ≤ 900) (ha : a < ts.length) : ∃ rs c got, PushT k b ts a n rs c got := by
  unfold Tree.sound at hs
  simp only [Bool.and_eq_true, decide_eq_true_eq] at hs
  change 1 + sizes ts ≤ 900 at hz
  have h2 := hs.1.1
  have hll := length_sizes ts
  have hsd : (1 ≤ b.w ∧ b.w ≤ 1000) ∧ (1 ≤ b.h ∧ b.h ≤ 1000) := by
    have := hs.1.2
    simp only [sideB, Bool.and_eq_true, decide_eq_true_eq] at this
    exact this
  have hx := sides_ext b k hsd
  obtain ⟨c, hc⟩ : ∃ c, c = min a (ts.length - 2) := ⟨_, rfl⟩
  have hcl : c + 1 < ts.length := by omega
  have hsame : ∀ rs, Set1 ts b k 0 rs → SameL b k ts rs := fun rs h => ⟨h.len, fun _ => h.sound, by rw [h.ext]; omega, fun _ => h.kinds, h.sizes⟩
  by_cases hn : 0 ≤ n
  · obtain ⟨rs, got, h1, h3, h4, h5⟩ := draw_can b k hk.1 c (List.range' (c + 1) (ts.length - 1 - c)) n ts hn (by omega) (fun j hj => by
      rw [List.mem_range'_1] at hj
      omega) hs.2.1 hk.2 (by omega) (by omega)
    have hl := draw_lim (b := b) h1
    rw [List.length_range'] at hl
    exact ⟨rs, c, got, h2, by omega, ha, hc, ⟨fun _ => h1, fun e => absurd e (by omega)⟩, by omega, hsame rs h3⟩
  · obtain ⟨rs, got, h1, h3, h4, h5⟩ := draw_can b k hk.1 (c + 1) (List.range (c + 1)).reverse (-(max n (-1000))) ts (by omega) hcl (fun j hj => by
      rw [List.mem_reverse, List.mem_range] at hj
      omega) hs.2.1 hk.2 (by omega) (by omega)
    have hl := draw_lim (b := b) h1
    rw [List.length_reverse, List.length_range] at hl
    exact ⟨rs, c, got, h2, by omega, ha, hc, ⟨fun e => absurd e hn, fun _ => h1⟩, by omega, hsame rs h3⟩

/-- By how much a border was pushed. -/
def movedI (n got : Int) : Int := if 0 ≤ n then got else -got

theorem push_then {w w' : World} {k : Int} {t : Tree} {qs : List Nat} {a : Nat} {n : Int} {T : TypeId} {g : Nat} {fp : List Nat} {st : List (Nat × Nat)} {j gg : Nat} {b : Box} {ts : List Tree} {f' : List Nat} {w1 : World} {rs : List Tree} {c : Nat} {got : Int} (hA : t.At w1 0 (.iface T (.pointer (some ⟨g, 0, none⟩))) fp) (hnd : fp.Nodup) (hge : ∀ q ∈ fp, w.heap.size + 1 ≤ q) (hN : NearAt w1 k t (.iface T (.pointer (some ⟨g, 0, none⟩))) fp st qs a j gg b ts f') (hbt : But [w.heap.size] w1 w') (hb : Below w.heap.size w w') (hs : t.sound = true) (hk : t.kinds) (hz : t.size ≤ 200) (hP : PushT k b ts a n rs c got) (hn : -9223372036854775808 ≤ n ∧ n ≤ 9223372036854775807) :
    ∀ X, Below w'.heap.size w' X → Calls Try.prog 51 #[.agg #[.pointer (some ⟨gg, 0, none⟩), .int .i64 a], .int .i64 n] X fun e w3 => e = .returned (.int .i64 (movedI n got)) ∧ Calls Try.prog 29 #[.iface T (.pointer (some ⟨g, 0, none⟩))] w3 fun e w4 => ∃ u, e = .returned u ∧ CeOwns w4 w.heap.size u (laidL (t.putAt qs (.split b k rs))) ∧ Below w.heap.size w w4 := by
  intro X hX
  have hfpA : ∀ q ∈ fp, q ∉ [w.heap.size] := fun q hq e => by
    have h1 := hge q hq
    have : q = w.heap.size := by simpa using e
    omega
  have hhere := (hN.here.but hbt (fun q hq => hfpA q (hN.inn q hq))).below hX
  obtain ⟨g0, sl, vs, fs, e0, k2, k3, k4, hf'⟩ := hhere
  cases e0
  have hvl := k4.length
  have h2 := hP.two
  rcases k3.2 with ⟨_, h0⟩ | ⟨pg, cap, cur, rfl, hb0, hg0, hc1, hc2, hc3, hc4⟩
  · omega
  have hnd' : (gg :: ((Value.slice (some ⟨pg, 0, none⟩) vs.length cap).ownBlock.toList ++ fs)).Nodup := hf' ▸ hN.nd
  obtain ⟨L, hL⟩ : ∃ L, ts.length = L := ⟨_, rfl⟩
  have hvL : vs.length = L := hvl.trans hL
  have hI : SplitIn X gg b k pg L cap vs fs 0 ts := ⟨hvL ▸ k2, hvL ▸ k3, k4, hvL ▸ hnd', hL⟩
  have hend : ∀ w3, StandsX X gg b k (.slice (some ⟨pg, 0, none⟩) L cap) vs fs 0 rs w3 → Calls Try.prog 29 #[.iface T (.pointer (some ⟨g, 0, none⟩))] w3 fun e w4 => ∃ u, e = .returned u ∧ CeOwns w4 w.heap.size u (laidL (t.putAt qs (.split b k rs))) ∧ Below w.heap.size w w4 := by
    intro w3 hS
    have hf'e : f' = gg :: ((Value.slice (some ⟨pg, 0, none⟩) L cap).ownBlock.toList ++ fs) := by rw [hf', hvL]
    have hsub : ∀ q, q ∈ gg :: fs → q ∈ f' := fun q hq => by
      rw [hf'e]
      rcases List.mem_cons.1 hq with e | e
      · rw [e]; exact List.mem_cons_self
      · exact List.mem_cons_of_mem _ (List.mem_append_right _ e)
    have hs3 : (Tree.split b k rs).At w3 0 (splitI gg) f' := ⟨gg, _, vs, fs, rfl, hS.own, hS.row, hS.parts, by rw [hf'e]⟩
    have hAt := hN.put w3 (.split b k rs) (fun q hq hnq => by
      have hlt := hA.lt q hq
      have e1 := hbt.block q hlt (hfpA q hq)
      have e2 := hX.block q (Nat.lt_of_lt_of_le hlt hbt.size)
      have e3 := hS.but.block q (Nat.lt_of_lt_of_le (Nat.lt_of_lt_of_le hlt hbt.size) hX.size) (fun e => hnq (hsub q e))
      rw [e3, e2, e1]) hs3
    have hsm := put_same qs t _ _ hN.sub (same_split b k ts rs hP.same)
    refine lay_end (w1 := X) (below_step hb hX) (hS.but.mono fun q hq => hN.inn q (hsub q hq)) (fun q hq => by have := hge q hq; omega) hnd hAt (hsm.sound hs) (hsm.kinds hk) (by rw [hsm.size]; exact hz)
  have hcapL : L ≤ cap := by omega
  by_cases h0 : 0 ≤ n
  · have hD := hP.draw.1 h0
    rw [hL] at hD
    refine (push_pos gg b k pg L cap vs fs 0 ts rs a c n got X hI (by omega) (by have := hP.max_; omega) hcapL (by have := hP.lt; omega) (by rw [hP.mid, hL]) ⟨h0, hn.2⟩ (by rw [hP.same.len]; exact hL) hD).mono fun e w3 h => ⟨?_, hend w3 h.2⟩
    rw [h.1, movedI, if_pos h0]
  · have hD := hP.draw.2 (by omega)
    refine (push_neg gg b k pg L cap vs fs 0 ts rs a c n got X hI (by omega) (by have := hP.max_; omega) hcapL (by have := hP.lt; omega) (by rw [hP.mid, hL]) (by omega) (by rw [hP.same.len]; exact hL) hP.lim hD).mono fun e w3 h => ⟨?_, hend w3 h.2⟩
    rw [h.1, movedI, if_neg h0]

end Go.Proofs.Ytkaaadbfmbkjeaa

namespace Go.Proofs.Ytkaaadbfmbkjeaa
open Go.RowKit
set_option linter.unusedVariables false
set_option maxRecDepth 100000

/-- A list, a number and an error are answered. -/
def Ans3 (mv er : Int) (r : List CellV) (X : World) (e : Ending) (w' : World) : Prop := ∃ q, e = .returned (.tuple #[q, .int .i64 mv, .int .i64 er]) ∧ CeOwns w' X.heap.size q r ∧ Below X.heap.size X w'

theorem pushP_err (v : Value) (q k n er : Int) (w : World) (h : Calls Try.prog 50 #[v, .int .i64 q, .int .i64 k] w (NearErr er w)) (h0 : er ≠ 0) : Calls Try.prog 18 #[v, .int .i64 q, .int .i64 k, .int .i64 n] w (Ans3 0 er [] w) := by
  have HN : Hid (Calls Try.prog 50 #[v, .int .i64 q, .int .i64 k] w (NearErr er w)) := h
  have h0' : (er != 0) = true := by simpa using h0
  clear h h0
  go_enter Try.func18, Try.ntmps18
  go_wp2_with fail
  refine HN.out.mono ?_
  rintro e w1 ⟨rfl, hb⟩
  have HB : Hid (∀ o, Below w.heap.size w (w1.alloc o)) := fun o => below_step hb ((Below.refl _ _).alloc (Nat.le_refl _) o)
  clear hb HN
  go_wp2
  exact bodyPost_ret (v := .tuple #[.slice none 0 0, .int .i64 0, .int .i64 er]) (by simp [results, Try.results18, go_sem]) rfl ⟨_, rfl, World.ownsRow_nil _ _ _ _, HB.out _⟩

theorem pushP_ok (v : Value) (q k n : Int) (w : World) {t : Tree} {qs : List Nat} {a : Nat} {b : Box} {ts rs : List Tree} {c : Nat} {got : Int} (h : Calls Try.prog 50 #[v, .int .i64 q, .int .i64 k] w (NearYes k t qs a w)) (hs : t.sound = true) (hk : t.kinds) (hz : t.size ≤ 200) (hsub : t.subAt qs = some (.split b k ts)) (hP : PushT k b ts a n rs c got) (hn : -9223372036854775808 ≤ n ∧ n ≤ 9223372036854775807) : Calls Try.prog 18 #[v, .int .i64 q, .int .i64 k, .int .i64 n] w (Ans3 (movedI n got) 0 (laidL (t.putAt qs (.split b k rs))) w) := by
  have HN : Hid (Calls Try.prog 50 #[v, .int .i64 q, .int .i64 k] w fun e w' => ∃ T g gg, e = .returned (.tuple #[.iface T (.pointer (some ⟨g, 0, none⟩)), .agg #[.pointer (some ⟨gg, 0, none⟩), .int .i64 a], .int .i64 0]) ∧ ∀ X, Below w'.heap.size w' X → Calls Try.prog 51 #[.agg #[.pointer (some ⟨gg, 0, none⟩), .int .i64 a], .int .i64 n] X fun e w3 => e = .returned (.int .i64 (movedI n got)) ∧ Calls Try.prog 29 #[.iface T (.pointer (some ⟨g, 0, none⟩))] w3 fun e w4 => ∃ u, e = .returned u ∧ CeOwns w4 w.heap.size u (laidL (t.putAt qs (.split b k rs))) ∧ Below w.heap.size w w4) := h.mono fun e w' h => by
    obtain ⟨T, g, fp, st, j, gg, b', ts', f', w1, he, hA, hnd, hge, hN, hbt, hb⟩ := h
    have hs' := hN.sub
    rw [hsub] at hs'
    cases hs'
    exact ⟨T, g, gg, he, push_then hA hnd hge hN hbt hb hs hk hz hP hn⟩
  obtain ⟨mv, hmv⟩ : ∃ m, movedI n got = m := ⟨_, rfl⟩
  obtain ⟨LT, hLT⟩ : ∃ m, laidL (t.putAt qs (.split b k rs)) = m := ⟨_, rfl⟩
  rw [hmv, hLT] at HN ⊢
  clear h hs hk hz hsub hP hn hmv hLT
  go_enter Try.func18, Try.ntmps18
  go_wp2_with fail
  refine HN.out.mono ?_
  rintro e w1 ⟨T, g, gg, rfl, hp⟩
  have HP : Hid (∀ o, Calls Try.prog 51 #[.agg #[.pointer (some ⟨gg, 0, none⟩), .int .i64 a], .int .i64 n] (w1.alloc o) fun e w3 => e = .returned (.int .i64 mv) ∧ Calls Try.prog 29 #[.iface T (.pointer (some ⟨g, 0, none⟩))] w3 fun e w4 => ∃ u, e = .returned u ∧ CeOwns w4 w.heap.size u LT ∧ Below w.heap.size w w4) := fun o => hp _ ((Below.refl _ _).alloc (Nat.le_refl _) o)
  clear hp HN
  go_wp2_with fail
  refine (HP.out _).mono ?_
  rintro e w3 ⟨rfl, hl⟩
  have HL : Hid (Calls Try.prog 29 #[.iface T (.pointer (some ⟨g, 0, none⟩))] w3 fun e w4 => ∃ u, e = .returned u ∧ CeOwns w4 w.heap.size u LT ∧ Below w.heap.size w w4) := hl
  clear hl HP
  go_wp2_with fail
  refine HL.out.mono ?_
  rintro e w4 ⟨u, rfl, hu, hb4⟩
  have HU : Hid (CeOwns w4 w.heap.size u LT ∧ Below w.heap.size w w4) := ⟨hu, hb4⟩
  clear hu hb4 HL
  go_wp2
  exact bodyPost_ret (v := .tuple #[u, .int .i64 mv, .int .i64 0]) (by simp [results, Try.results18, go_sem]) rfl ⟨u, rfl, HU.out.1, HU.out.2⟩

end Go.Proofs.Ytkaaadbfmbkjeaa
