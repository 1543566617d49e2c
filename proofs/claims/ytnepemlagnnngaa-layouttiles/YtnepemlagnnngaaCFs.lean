/-
  Layouts: the document's pair.
  Layouts: the document's pair of a stretched whole and a new pane.
-/
import Derived.Test.YtnepemlagnnngaaCFq
namespace Go.Proofs.Ytnepemlagnnngaa
open Go.RowKit
set_option linter.unusedVariables false
set_option maxRecDepth 100000

/-- The blocks of pair. -/
structure PMid (w : World) (q : Node) (sq : Value) (k wd ht : Int) (sl : Value) (X : World) : Prop where
  snd : X.heap[w.heap.size + 1]? = some (.cells (nodeV q sq) 80 (0, 0))
  res : X.heap[w.heap.size + 1 + 1]? = some (.cells zeroN 80 (0, 0))
  new : X.heap[w.heap.size + 1 + 1 + 1]? = some (.cells #[.int .i64 k, .int .i64 wd, .int .i64 ht, .int .i64 0, sl] 80 (0, 0))
  below : Below w.heap.size w X
theorem alloc4 (w : World) (o0 o1 o2 o3 : Obj) : (((((w.alloc o0).alloc o1).alloc o2).alloc o3).heap.size = w.heap.size + 4) ∧ Below w.heap.size w ((((w.alloc o0).alloc o1).alloc o2).alloc o3) ∧ ((((w.alloc o0).alloc o1).alloc o2).alloc o3).heap[w.heap.size + 1]? = some o1 ∧ ((((w.alloc o0).alloc o1).alloc o2).alloc o3).heap[w.heap.size + 1 + 1]? = some o2 ∧ ((((w.alloc o0).alloc o1).alloc o2).alloc o3).heap[w.heap.size + 1 + 1 + 1]? = some o3 := by
  have s1 : (w.alloc o0).heap.size = w.heap.size + 1 := by simp
  have s2 : ((w.alloc o0).alloc o1).heap.size = w.heap.size + 1 + 1 := by simp
  have s3 : (((w.alloc o0).alloc o1).alloc o2).heap.size = w.heap.size + 1 + 1 + 1 := by simp
  refine ⟨by simp, ((((Below.refl _ _).alloc (Nat.le_refl _) _).alloc (by omega) _).alloc (by omega) _).alloc (by omega) _, ?_, ?_, ?_⟩
  · have h := heap_alloc_new (w.alloc o0) o1
    rw [s1] at h
    exact (Below.heap_alloc _ _ _ (by omega)).trans ((Below.heap_alloc _ _ _ (by omega)).trans h)
  · have h := heap_alloc_new ((w.alloc o0).alloc o1) o2
    rw [s2] at h
    exact (Below.heap_alloc _ _ _ (by omega)).trans h
  · have h := heap_alloc_new (((w.alloc o0).alloc o1).alloc o2) o3
    rw [s3] at h
    exact h
theorem PMid.below' {w : World} {q : Node} {sq : Value} {k wd ht : Int} {sl : Value} {X Y : World} (h : PMid w q sq k wd ht sl X) (hb : Below (w.heap.size + 4) X Y) : PMid w q sq k wd ht sl Y :=
  ⟨(hb.block _ (by omega)).trans h.snd, (hb.block _ (by omega)).trans h.res, (hb.block _ (by omega)).trans h.new, ⟨hb.os.trans h.below.os, hb.tape.trans h.below.tape, hb.output.trans h.below.output, Nat.le_trans h.below.size hb.size, fun j hj => (hb.block j (by omega)).trans (h.below.block j hj)⟩⟩
theorem PMid.put {w : World} {q : Node} {sq : Value} {k wd ht : Int} {sl : Value} {X : World} (h : PMid w q sq k wd ht sl X) (v : Value) : PMid w q sq k wd ht v (X.setCell ⟨w.heap.size + 1 + 1 + 1, 4, none⟩ v) :=
  ⟨(Below.heap_setCell _ _ _ _ (by show w.heap.size + 1 ≠ w.heap.size + 1 + 1 + 1; omega)).trans h.snd, (Below.heap_setCell _ _ _ _ (by show w.heap.size + 1 + 1 ≠ w.heap.size + 1 + 1 + 1; omega)).trans h.res, heap_set4 h.new v, below_grown h.below (grownBy_set _ _ _ _) (by omega)⟩
/-- What pair answers. -/
def PairN (n' : Node) (S : List Nat) (w : World) (e : Ending) (w' : World) : Prop := ∃ sa sn sc fp', e = .returned (.agg (nodeV n' (.slice sa sn sc))) ∧ n'.In w' (.slice sa sn sc) fp' ∧ (∀ q ∈ fp', q ∈ S ∨ w.heap.size ≤ q) ∧ Below w.heap.size w w'
theorem pair_end {w X : World} {q : Node} {sq : Value} {k wd ht : Int} {sa : Option Addr} {sn sc : Nat} {ns : List Node} {S : List Nat} (hM : PMid w q sq k wd ht (.slice sa sn sc) X) (hO : NodesOwn X (w.heap.size + 4) (.slice sa sn sc) ns S) (hS : ∀ q ∈ S, q < w.heap.size) (v0 v1 v2 v3 v4 : Value) :
    PairN (.mk k wd ht 0 ns) S w (.returned (.agg #[.int .i64 k, .int .i64 wd, .int .i64 ht, .int .i64 0, .slice sa sn sc])) (set5 X (w.heap.size + 1 + 1) v0 v1 v2 v3 v4) := by
  have hO' := hO.keep (w' := set5 X (w.heap.size + 1 + 1) v0 v1 v2 v3 v4) fun q hq _ => set5_block _ _ _ _ _ _ _ q (by
    rcases hq with h | h
    · omega
    · have := hS q h
      omega)
  obtain ⟨cs, fs, h1, h2, h3⟩ := hO'.row
  have h0 : (set5 X (w.heap.size + 1 + 1) v0 v1 v2 v3 v4).ownsRow 0 80 5 (.slice sa sn sc) ns.length cs := by
    rcases h1 with ⟨a, b | ⟨g, cap, cur, e, _, c⟩⟩
    · exact ⟨a, .inl b⟩
    · exact ⟨a, .inr ⟨g, cap, cur, e, Nat.zero_le _, c⟩⟩
  refine ⟨sa, sn, sc, (Value.slice sa sn sc).ownBlock.toList ++ fs, rfl, ⟨cs, fs, h0, h2, rfl⟩, fun q hq => ?_, set5_below hM.below _ (by omega) _ _ _ _ _⟩
  rcases List.mem_append.1 hq with h | h
  · have := (World.ownsRow.lt h1 q (by simpa using h)).1
    exact .inr (by omega)
  · exact .inl (h3 q h)

set_option maxHeartbeats 2000000 in
theorem pair_beh2 (a b : Node) (aa : Option Addr) (an ac : Nat) (ba : Option Addr) (bn bc : Nat) (fa fb : List Nat) (w : World) (ha : a.In w (.slice aa an ac) fa) (hb : b.In w (.slice ba bn bc) fb) (la : a.ks.length ≤ 500) (lb : b.ks.length ≤ 500) (na : (0 ≤ a.w ∧ a.w ≤ 1000) ∧ (0 ≤ a.h ∧ a.h ≤ 1000)) (nb : (0 ≤ b.w ∧ b.w ≤ 1000) ∧ (0 ≤ b.h ∧ b.h ≤ 1000)) :
    Calls Try.prog 67 #[.int .i64 2, .agg (nodeV a (.slice aa an ac)), .agg (nodeV b (.slice ba bn bc)), .bool false] w (PairN (.mk 2 (a.w + b.w + 1) a.h 0 (flatN 2 a ++ flatN 2 b)) (fa ++ fb) w) := by
  have hS : ∀ q ∈ fa ++ fb, q < w.heap.size := fun q hq => by
    rcases List.mem_append.1 hq with h | h
    · exact ha.lt q h
    · exact hb.lt q h
  have hfl : (flatN 2 a).length ≤ 501 := by
    unfold flatN
    split
    · omega
    · simp
  have HM0 : Hid (PMid w b (.slice ba bn bc) 2 (a.w + b.w + 1) a.h (.slice none 0 0) ((((w.alloc (.cells #[.int .i64 a.k, .int .i64 a.w, .int .i64 a.h, .int .i64 a.i, .slice aa an ac] 80)).alloc (.cells #[.int .i64 b.k, .int .i64 b.w, .int .i64 b.h, .int .i64 b.i, .slice ba bn bc] 80)).alloc (.cells zeroN 80)).alloc (.cells #[.int .i64 2, .int .i64 (a.w + b.w + 1), .int .i64 a.h, .int .i64 0, .slice none 0 0] 80))) := by
    obtain ⟨_, h1, h2, h3, h4⟩ := alloc4 w (.cells #[.int .i64 a.k, .int .i64 a.w, .int .i64 a.h, .int .i64 a.i, .slice aa an ac] 80) (.cells #[.int .i64 b.k, .int .i64 b.w, .int .i64 b.h, .int .i64 b.i, .slice ba bn bc] 80) (.cells zeroN 80) (.cells #[.int .i64 2, .int .i64 (a.w + b.w + 1), .int .i64 a.h, .int .i64 0, .slice none 0 0] 80)
    exact ⟨h2, h3, h4, h1⟩
  have HJ1 : Hid (Calls Try.prog 69 #[.slice none 0 0, .int .i64 2, .agg #[.int .i64 a.k, .int .i64 a.w, .int .i64 a.h, .int .i64 a.i, .slice aa an ac]] ((((w.alloc (.cells #[.int .i64 a.k, .int .i64 a.w, .int .i64 a.h, .int .i64 a.i, .slice aa an ac] 80)).alloc (.cells #[.int .i64 b.k, .int .i64 b.w, .int .i64 b.h, .int .i64 b.i, .slice ba bn bc] 80)).alloc (.cells zeroN 80)).alloc (.cells #[.int .i64 2, .int .i64 (a.w + b.w + 1), .int .i64 a.h, .int .i64 0, .slice none 0 0] 80)) fun e w' => ∃ ra rn rc, e = .returned (.slice ra rn rc) ∧ NodesOwn w' (w.heap.size + 4) (.slice ra rn rc) (flatN 2 a) (fa ++ fb) ∧ Below (w.heap.size + 4) ((((w.alloc (.cells #[.int .i64 a.k, .int .i64 a.w, .int .i64 a.h, .int .i64 a.i, .slice aa an ac] 80)).alloc (.cells #[.int .i64 b.k, .int .i64 b.w, .int .i64 b.h, .int .i64 b.i, .slice ba bn bc] 80)).alloc (.cells zeroN 80)).alloc (.cells #[.int .i64 2, .int .i64 (a.w + b.w + 1), .int .i64 a.h, .int .i64 0, .slice none 0 0] 80)) w') := by
    obtain ⟨hsz, h1, _⟩ := alloc4 w (.cells #[.int .i64 a.k, .int .i64 a.w, .int .i64 a.h, .int .i64 a.i, .slice aa an ac] 80) (.cells #[.int .i64 b.k, .int .i64 b.w, .int .i64 b.h, .int .i64 b.i, .slice ba bn bc] 80) (.cells zeroN 80) (.cells #[.int .i64 2, .int .i64 (a.w + b.w + 1), .int .i64 a.h, .int .i64 0, .slice none 0 0] 80)
    exact joined_any 2 a _ _ _ fa (fa ++ fb) (w.heap.size + 4) (.slice none 0 0) [] _ ⟨[], [], World.ownsRow_nil _ _ _ _, ⟨rfl, rfl⟩, fun q hq => by cases hq⟩ (ha.below h1) (fun q hq => List.mem_append_left _ hq) (fun q hq => by have := hS q hq; omega) (by omega) (by simp) (by omega)
  have HJ2 : Hid (∀ X ra rn rc, Below w.heap.size w X → w.heap.size + 4 ≤ X.heap.size → NodesOwn X (w.heap.size + 4) (.slice ra rn rc) (flatN 2 a) (fa ++ fb) → Calls Try.prog 69 #[.slice ra rn rc, .int .i64 2, .agg #[.int .i64 b.k, .int .i64 b.w, .int .i64 b.h, .int .i64 b.i, .slice ba bn bc]] X fun e w' => ∃ ua un uc, e = .returned (.slice ua un uc) ∧ NodesOwn w' (w.heap.size + 4) (.slice ua un uc) (flatN 2 a ++ flatN 2 b) (fa ++ fb) ∧ Below (w.heap.size + 4) X w') := fun X ra rn rc hX hsz hO => joined_any 2 b _ _ _ fb (fa ++ fb) (w.heap.size + 4) (.slice ra rn rc) (flatN 2 a) X hO (hb.below hX) (fun q hq => List.mem_append_right _ hq) (fun q hq => by have := hS q hq; omega) hsz (by omega) (by omega)
  have HEnd : Hid (∀ X ua un uc, PMid w b (.slice ba bn bc) 2 (a.w + b.w + 1) a.h (.slice ua un uc) X → NodesOwn X (w.heap.size + 4) (.slice ua un uc) (flatN 2 a ++ flatN 2 b) (fa ++ fb) → ∀ v0 v1 v2 v3 v4, PairN (.mk 2 (a.w + b.w + 1) a.h 0 (flatN 2 a ++ flatN 2 b)) (fa ++ fb) w (.returned (.agg #[.int .i64 2, .int .i64 (a.w + b.w + 1), .int .i64 a.h, .int .i64 0, .slice ua un uc])) (set5 X (w.heap.size + 1 + 1) v0 v1 v2 v3 v4)) := fun X ua un uc h1 h2 v0 v1 v2 v3 v4 => pair_end h1 h2 hS v0 v1 v2 v3 v4
  have HKp : Hid (∀ X sl v ns, NodesOwn X (w.heap.size + 4) sl ns (fa ++ fb) → NodesOwn (X.setCell ⟨w.heap.size + 1 + 1 + 1, 4, none⟩ v) (w.heap.size + 4) sl ns (fa ++ fb)) := fun X sl v ns hO => hO.keep fun q hq _ => Below.heap_setCell _ _ _ _ (by
    show q ≠ w.heap.size + 1 + 1 + 1
    rcases hq with h | h
    · omega
    · have := hS q h
      omega)
  obtain ⟨R, hR⟩ : ∃ R, (Node.mk 2 (a.w + b.w + 1) a.h 0 (flatN 2 a ++ flatN 2 b)) = R := ⟨_, rfl⟩
  rw [hR] at HEnd ⊢
  obtain ⟨S, hSS⟩ : ∃ S, fa ++ fb = S := ⟨_, rfl⟩
  rw [hSS] at HEnd HJ1 HJ2 HKp ⊢
  obtain ⟨R1, hR1⟩ : ∃ R, flatN 2 a = R := ⟨_, rfl⟩
  obtain ⟨R2, hR2⟩ : ∃ R, R1 ++ flatN 2 b = R := ⟨_, rfl⟩
  rw [hR1] at HJ1 HJ2 HEnd
  rw [hR2] at HJ2 HEnd
  have w1 : IntKind.i64.wrap (a.w + b.w) = a.w + b.w := by rw [IntKind.wrap_i64]; omega
  have w2 : IntKind.i64.wrap (a.w + b.w + 1) = a.w + b.w + 1 := by rw [IntKind.wrap_i64]; omega
  have w3 : IntKind.i64.wrap (a.h + b.h) = a.h + b.h := by rw [IntKind.wrap_i64]; omega
  have w4 : IntKind.i64.wrap (a.h + b.h + 1) = a.h + b.h + 1 := by rw [IntKind.wrap_i64]; omega
  show Calls Try.prog 67 #[.int .i64 2, .agg #[.int .i64 a.k, .int .i64 a.w, .int .i64 a.h, .int .i64 a.i, .slice aa an ac], .agg #[.int .i64 b.k, .int .i64 b.w, .int .i64 b.h, .int .i64 b.i, .slice ba bn bc], .bool false] w _
  clear ha hb la lb na nb hS hfl hR hSS hR1 hR2
  go_enter Try.func67, Try.ntmps67
  go_wp2_with fail
  refine HJ1.out.mono ?_
  rintro e x1 ⟨ra, rn, rc, rfl, hO1, hb1⟩
  have hm1 := HM0.out.below' hb1
  have c4 : x1.cell? ⟨w.heap.size + 1 + 1 + 1, 4, none⟩ = some (.slice none 0 0) := cell_atL hm1.new 4
  have f4 : x1.frozen? ⟨w.heap.size + 1 + 1 + 1, 4, none⟩ = false := free_atL hm1.new 4
  have hm2 := hm1.put (.slice ra rn rc)
  have hO2 := HKp.out x1 _ (.slice ra rn rc) _ hO1
  obtain ⟨X1, hX1⟩ : ∃ X, x1.setCell ⟨w.heap.size + 1 + 1 + 1, 4, none⟩ (.slice ra rn rc) = X := ⟨_, rfl⟩
  rw [hX1] at hm2 hO2
  have hsz1 : w.heap.size + 4 ≤ X1.heap.size := by have := lt_of_block hm2.new; omega
  have HJ3 : Hid (Calls Try.prog 69 #[.slice ra rn rc, .int .i64 2, .agg #[.int .i64 b.k, .int .i64 b.w, .int .i64 b.h, .int .i64 b.i, .slice ba bn bc]] X1 fun e w' => ∃ ua un uc, e = .returned (.slice ua un uc) ∧ NodesOwn w' (w.heap.size + 4) (.slice ua un uc) R2 S ∧ Below (w.heap.size + 4) X1 w') := HJ2.out X1 ra rn rc hm2.below hsz1 hO2
  have HM2 : Hid (PMid w b (.slice ba bn bc) 2 (a.w + b.w + 1) a.h (.slice ra rn rc) X1) := hm2
  have HX1 : Hid (x1.setCell ⟨w.heap.size + 1 + 1 + 1, 4, none⟩ (.slice ra rn rc) = X1) := hX1
  have d0 : X1.cell? ⟨w.heap.size + 1, 0, none⟩ = some (.int .i64 b.k) := cell_atL hm2.snd 0
  have d1 : X1.cell? ⟨w.heap.size + 1, 1, none⟩ = some (.int .i64 b.w) := cell_atL hm2.snd 1
  have d2 : X1.cell? ⟨w.heap.size + 1, 2, none⟩ = some (.int .i64 b.h) := cell_atL hm2.snd 2
  have d3 : X1.cell? ⟨w.heap.size + 1, 3, none⟩ = some (.int .i64 b.i) := cell_atL hm2.snd 3
  have d4 : X1.cell? ⟨w.heap.size + 1, 4, none⟩ = some (.slice ba bn bc) := cell_atL hm2.snd 4
  have d5 : X1.cell? ⟨w.heap.size + 1 + 1 + 1, 4, none⟩ = some (.slice ra rn rc) := cell_atL hm2.new 4
  clear hO1 hb1 hm1 hm2 hO2 hX1 hsz1 HJ1 HJ2 HM0
  go_upto_region 8 with fail
  rw [HX1.out]
  clear c4 f4
  go_wp2_with fail
  refine HJ3.out.mono ?_
  rintro e x2 ⟨ua, un, uc, rfl, hO3, hb3⟩
  have hm3 := HM2.out.below' hb3
  have c4 : x2.cell? ⟨w.heap.size + 1 + 1 + 1, 4, none⟩ = some (.slice ra rn rc) := cell_atL hm3.new 4
  have f4 : x2.frozen? ⟨w.heap.size + 1 + 1 + 1, 4, none⟩ = false := free_atL hm3.new 4
  have hm4 := hm3.put (.slice ua un uc)
  have hO4 := HKp.out x2 _ (.slice ua un uc) _ hO3
  obtain ⟨X2, hX2⟩ : ∃ X, x2.setCell ⟨w.heap.size + 1 + 1 + 1, 4, none⟩ (.slice ua un uc) = X := ⟨_, rfl⟩
  rw [hX2] at hm4 hO4
  have HF : Hid (∀ v0 v1 v2 v3 v4, PairN R S w (.returned (.agg #[.int .i64 2, .int .i64 (a.w + b.w + 1), .int .i64 a.h, .int .i64 0, .slice ua un uc])) (set5 X2 (w.heap.size + 1 + 1) v0 v1 v2 v3 v4)) := HEnd.out X2 ua un uc hm4 hO4
  have HX2 : Hid (x2.setCell ⟨w.heap.size + 1 + 1 + 1, 4, none⟩ (.slice ua un uc) = X2) := hX2
  have n0 : X2.cell? ⟨w.heap.size + 1 + 1 + 1, 0, none⟩ = some (.int .i64 2) := cell_atL hm4.new 0
  have n1 : X2.cell? ⟨w.heap.size + 1 + 1 + 1, 1, none⟩ = some (.int .i64 (a.w + b.w + 1)) := cell_atL hm4.new 1
  have n2 : X2.cell? ⟨w.heap.size + 1 + 1 + 1, 2, none⟩ = some (.int .i64 a.h) := cell_atL hm4.new 2
  have n3 : X2.cell? ⟨w.heap.size + 1 + 1 + 1, 3, none⟩ = some (.int .i64 0) := cell_atL hm4.new 3
  have n4 : X2.cell? ⟨w.heap.size + 1 + 1 + 1, 4, none⟩ = some (.slice ua un uc) := cell_atL hm4.new 4
  have r0 : X2.cell? ⟨w.heap.size + 1 + 1, 0, none⟩ = some (.int .i64 0) := cell_atL hm4.res 0
  have r1 : X2.cell? ⟨w.heap.size + 1 + 1, 1, none⟩ = some (.int .i64 0) := cell_atL hm4.res 1
  have r2 : X2.cell? ⟨w.heap.size + 1 + 1, 2, none⟩ = some (.int .i64 0) := cell_atL hm4.res 2
  have r3 : X2.cell? ⟨w.heap.size + 1 + 1, 3, none⟩ = some (.int .i64 0) := cell_atL hm4.res 3
  have r4 : X2.cell? ⟨w.heap.size + 1 + 1, 4, none⟩ = some (.slice none 0 0) := cell_atL hm4.res 4
  have g0 := free_atL hm4.res 0
  have g1 := free_atL hm4.res 1
  have g2 := free_atL hm4.res 2
  have g3 := free_atL hm4.res 3
  have g4 := free_atL hm4.res 4
  clear hO3 hb3 hm3 hm4 hO4 hX2 HJ3 HM2 HEnd HKp d0 d1 d2 d3 d4 d5
  go_upto_region 9 with fail
  rw [HX2.out]
  clear c4 f4
  go_wp2
  exact bodyPost_ret (v := .agg #[.int .i64 2, .int .i64 (a.w + b.w + 1), .int .i64 a.h, .int .i64 0, .slice ua un uc]) (by simp [results, Try.results67, go_sem, r0, r1, r2, r3, r4]) rfl (HF.out _ _ _ _ _)

set_option maxHeartbeats 2000000 in
theorem pair_beh3 (a b : Node) (aa : Option Addr) (an ac : Nat) (ba : Option Addr) (bn bc : Nat) (fa fb : List Nat) (w : World) (ha : a.In w (.slice aa an ac) fa) (hb : b.In w (.slice ba bn bc) fb) (la : a.ks.length ≤ 500) (lb : b.ks.length ≤ 500) (na : (0 ≤ a.w ∧ a.w ≤ 1000) ∧ (0 ≤ a.h ∧ a.h ≤ 1000)) (nb : (0 ≤ b.w ∧ b.w ≤ 1000) ∧ (0 ≤ b.h ∧ b.h ≤ 1000)) :
    Calls Try.prog 67 #[.int .i64 3, .agg (nodeV a (.slice aa an ac)), .agg (nodeV b (.slice ba bn bc)), .bool false] w (PairN (.mk 3 a.w (a.h + b.h + 1) 0 (flatN 3 a ++ flatN 3 b)) (fa ++ fb) w) := by
  have hS : ∀ q ∈ fa ++ fb, q < w.heap.size := fun q hq => by
    rcases List.mem_append.1 hq with h | h
    · exact ha.lt q h
    · exact hb.lt q h
  have hfl : (flatN 3 a).length ≤ 501 := by
    unfold flatN
    split
    · omega
    · simp
  have HM0 : Hid (PMid w b (.slice ba bn bc) 3 a.w (a.h + b.h + 1) (.slice none 0 0) ((((w.alloc (.cells #[.int .i64 a.k, .int .i64 a.w, .int .i64 a.h, .int .i64 a.i, .slice aa an ac] 80)).alloc (.cells #[.int .i64 b.k, .int .i64 b.w, .int .i64 b.h, .int .i64 b.i, .slice ba bn bc] 80)).alloc (.cells zeroN 80)).alloc (.cells #[.int .i64 3, .int .i64 a.w, .int .i64 (a.h + b.h + 1), .int .i64 0, .slice none 0 0] 80))) := by
    obtain ⟨_, h1, h2, h3, h4⟩ := alloc4 w (.cells #[.int .i64 a.k, .int .i64 a.w, .int .i64 a.h, .int .i64 a.i, .slice aa an ac] 80) (.cells #[.int .i64 b.k, .int .i64 b.w, .int .i64 b.h, .int .i64 b.i, .slice ba bn bc] 80) (.cells zeroN 80) (.cells #[.int .i64 3, .int .i64 a.w, .int .i64 (a.h + b.h + 1), .int .i64 0, .slice none 0 0] 80)
    exact ⟨h2, h3, h4, h1⟩
  have HJ1 : Hid (Calls Try.prog 69 #[.slice none 0 0, .int .i64 3, .agg #[.int .i64 a.k, .int .i64 a.w, .int .i64 a.h, .int .i64 a.i, .slice aa an ac]] ((((w.alloc (.cells #[.int .i64 a.k, .int .i64 a.w, .int .i64 a.h, .int .i64 a.i, .slice aa an ac] 80)).alloc (.cells #[.int .i64 b.k, .int .i64 b.w, .int .i64 b.h, .int .i64 b.i, .slice ba bn bc] 80)).alloc (.cells zeroN 80)).alloc (.cells #[.int .i64 3, .int .i64 a.w, .int .i64 (a.h + b.h + 1), .int .i64 0, .slice none 0 0] 80)) fun e w' => ∃ ra rn rc, e = .returned (.slice ra rn rc) ∧ NodesOwn w' (w.heap.size + 4) (.slice ra rn rc) (flatN 3 a) (fa ++ fb) ∧ Below (w.heap.size + 4) ((((w.alloc (.cells #[.int .i64 a.k, .int .i64 a.w, .int .i64 a.h, .int .i64 a.i, .slice aa an ac] 80)).alloc (.cells #[.int .i64 b.k, .int .i64 b.w, .int .i64 b.h, .int .i64 b.i, .slice ba bn bc] 80)).alloc (.cells zeroN 80)).alloc (.cells #[.int .i64 3, .int .i64 a.w, .int .i64 (a.h + b.h + 1), .int .i64 0, .slice none 0 0] 80)) w') := by
    obtain ⟨hsz, h1, _⟩ := alloc4 w (.cells #[.int .i64 a.k, .int .i64 a.w, .int .i64 a.h, .int .i64 a.i, .slice aa an ac] 80) (.cells #[.int .i64 b.k, .int .i64 b.w, .int .i64 b.h, .int .i64 b.i, .slice ba bn bc] 80) (.cells zeroN 80) (.cells #[.int .i64 3, .int .i64 a.w, .int .i64 (a.h + b.h + 1), .int .i64 0, .slice none 0 0] 80)
    exact joined_any 3 a _ _ _ fa (fa ++ fb) (w.heap.size + 4) (.slice none 0 0) [] _ ⟨[], [], World.ownsRow_nil _ _ _ _, ⟨rfl, rfl⟩, fun q hq => by cases hq⟩ (ha.below h1) (fun q hq => List.mem_append_left _ hq) (fun q hq => by have := hS q hq; omega) (by omega) (by simp) (by omega)
  have HJ2 : Hid (∀ X ra rn rc, Below w.heap.size w X → w.heap.size + 4 ≤ X.heap.size → NodesOwn X (w.heap.size + 4) (.slice ra rn rc) (flatN 3 a) (fa ++ fb) → Calls Try.prog 69 #[.slice ra rn rc, .int .i64 3, .agg #[.int .i64 b.k, .int .i64 b.w, .int .i64 b.h, .int .i64 b.i, .slice ba bn bc]] X fun e w' => ∃ ua un uc, e = .returned (.slice ua un uc) ∧ NodesOwn w' (w.heap.size + 4) (.slice ua un uc) (flatN 3 a ++ flatN 3 b) (fa ++ fb) ∧ Below (w.heap.size + 4) X w') := fun X ra rn rc hX hsz hO => joined_any 3 b _ _ _ fb (fa ++ fb) (w.heap.size + 4) (.slice ra rn rc) (flatN 3 a) X hO (hb.below hX) (fun q hq => List.mem_append_right _ hq) (fun q hq => by have := hS q hq; omega) hsz (by omega) (by omega)
  have HEnd : Hid (∀ X ua un uc, PMid w b (.slice ba bn bc) 3 a.w (a.h + b.h + 1) (.slice ua un uc) X → NodesOwn X (w.heap.size + 4) (.slice ua un uc) (flatN 3 a ++ flatN 3 b) (fa ++ fb) → ∀ v0 v1 v2 v3 v4, PairN (.mk 3 a.w (a.h + b.h + 1) 0 (flatN 3 a ++ flatN 3 b)) (fa ++ fb) w (.returned (.agg #[.int .i64 3, .int .i64 a.w, .int .i64 (a.h + b.h + 1), .int .i64 0, .slice ua un uc])) (set5 X (w.heap.size + 1 + 1) v0 v1 v2 v3 v4)) := fun X ua un uc h1 h2 v0 v1 v2 v3 v4 => pair_end h1 h2 hS v0 v1 v2 v3 v4
  have HKp : Hid (∀ X sl v ns, NodesOwn X (w.heap.size + 4) sl ns (fa ++ fb) → NodesOwn (X.setCell ⟨w.heap.size + 1 + 1 + 1, 4, none⟩ v) (w.heap.size + 4) sl ns (fa ++ fb)) := fun X sl v ns hO => hO.keep fun q hq _ => Below.heap_setCell _ _ _ _ (by
    show q ≠ w.heap.size + 1 + 1 + 1
    rcases hq with h | h
    · omega
    · have := hS q h
      omega)
  obtain ⟨R, hR⟩ : ∃ R, (Node.mk 3 a.w (a.h + b.h + 1) 0 (flatN 3 a ++ flatN 3 b)) = R := ⟨_, rfl⟩
  rw [hR] at HEnd ⊢
  obtain ⟨S, hSS⟩ : ∃ S, fa ++ fb = S := ⟨_, rfl⟩
  rw [hSS] at HEnd HJ1 HJ2 HKp ⊢
  obtain ⟨R1, hR1⟩ : ∃ R, flatN 3 a = R := ⟨_, rfl⟩
  obtain ⟨R2, hR2⟩ : ∃ R, R1 ++ flatN 3 b = R := ⟨_, rfl⟩
  rw [hR1] at HJ1 HJ2 HEnd
  rw [hR2] at HJ2 HEnd
  have w1 : IntKind.i64.wrap (a.w + b.w) = a.w + b.w := by rw [IntKind.wrap_i64]; omega
  have w2 : IntKind.i64.wrap (a.w + b.w + 1) = a.w + b.w + 1 := by rw [IntKind.wrap_i64]; omega
  have w3 : IntKind.i64.wrap (a.h + b.h) = a.h + b.h := by rw [IntKind.wrap_i64]; omega
  have w4 : IntKind.i64.wrap (a.h + b.h + 1) = a.h + b.h + 1 := by rw [IntKind.wrap_i64]; omega
  show Calls Try.prog 67 #[.int .i64 3, .agg #[.int .i64 a.k, .int .i64 a.w, .int .i64 a.h, .int .i64 a.i, .slice aa an ac], .agg #[.int .i64 b.k, .int .i64 b.w, .int .i64 b.h, .int .i64 b.i, .slice ba bn bc], .bool false] w _
  clear ha hb la lb na nb hS hfl hR hSS hR1 hR2
  go_enter Try.func67, Try.ntmps67
  go_wp2_with fail
  refine HJ1.out.mono ?_
  rintro e x1 ⟨ra, rn, rc, rfl, hO1, hb1⟩
  have hm1 := HM0.out.below' hb1
  have c4 : x1.cell? ⟨w.heap.size + 1 + 1 + 1, 4, none⟩ = some (.slice none 0 0) := cell_atL hm1.new 4
  have f4 : x1.frozen? ⟨w.heap.size + 1 + 1 + 1, 4, none⟩ = false := free_atL hm1.new 4
  have hm2 := hm1.put (.slice ra rn rc)
  have hO2 := HKp.out x1 _ (.slice ra rn rc) _ hO1
  obtain ⟨X1, hX1⟩ : ∃ X, x1.setCell ⟨w.heap.size + 1 + 1 + 1, 4, none⟩ (.slice ra rn rc) = X := ⟨_, rfl⟩
  rw [hX1] at hm2 hO2
  have hsz1 : w.heap.size + 4 ≤ X1.heap.size := by have := lt_of_block hm2.new; omega
  have HJ3 : Hid (Calls Try.prog 69 #[.slice ra rn rc, .int .i64 3, .agg #[.int .i64 b.k, .int .i64 b.w, .int .i64 b.h, .int .i64 b.i, .slice ba bn bc]] X1 fun e w' => ∃ ua un uc, e = .returned (.slice ua un uc) ∧ NodesOwn w' (w.heap.size + 4) (.slice ua un uc) R2 S ∧ Below (w.heap.size + 4) X1 w') := HJ2.out X1 ra rn rc hm2.below hsz1 hO2
  have HM2 : Hid (PMid w b (.slice ba bn bc) 3 a.w (a.h + b.h + 1) (.slice ra rn rc) X1) := hm2
  have HX1 : Hid (x1.setCell ⟨w.heap.size + 1 + 1 + 1, 4, none⟩ (.slice ra rn rc) = X1) := hX1
  have d0 : X1.cell? ⟨w.heap.size + 1, 0, none⟩ = some (.int .i64 b.k) := cell_atL hm2.snd 0
  have d1 : X1.cell? ⟨w.heap.size + 1, 1, none⟩ = some (.int .i64 b.w) := cell_atL hm2.snd 1
  have d2 : X1.cell? ⟨w.heap.size + 1, 2, none⟩ = some (.int .i64 b.h) := cell_atL hm2.snd 2
  have d3 : X1.cell? ⟨w.heap.size + 1, 3, none⟩ = some (.int .i64 b.i) := cell_atL hm2.snd 3
  have d4 : X1.cell? ⟨w.heap.size + 1, 4, none⟩ = some (.slice ba bn bc) := cell_atL hm2.snd 4
  have d5 : X1.cell? ⟨w.heap.size + 1 + 1 + 1, 4, none⟩ = some (.slice ra rn rc) := cell_atL hm2.new 4
  clear hO1 hb1 hm1 hm2 hO2 hX1 hsz1 HJ1 HJ2 HM0
  go_upto_region 8 with fail
  rw [HX1.out]
  clear c4 f4
  go_wp2_with fail
  refine HJ3.out.mono ?_
  rintro e x2 ⟨ua, un, uc, rfl, hO3, hb3⟩
  have hm3 := HM2.out.below' hb3
  have c4 : x2.cell? ⟨w.heap.size + 1 + 1 + 1, 4, none⟩ = some (.slice ra rn rc) := cell_atL hm3.new 4
  have f4 : x2.frozen? ⟨w.heap.size + 1 + 1 + 1, 4, none⟩ = false := free_atL hm3.new 4
  have hm4 := hm3.put (.slice ua un uc)
  have hO4 := HKp.out x2 _ (.slice ua un uc) _ hO3
  obtain ⟨X2, hX2⟩ : ∃ X, x2.setCell ⟨w.heap.size + 1 + 1 + 1, 4, none⟩ (.slice ua un uc) = X := ⟨_, rfl⟩
  rw [hX2] at hm4 hO4
  have HF : Hid (∀ v0 v1 v2 v3 v4, PairN R S w (.returned (.agg #[.int .i64 3, .int .i64 a.w, .int .i64 (a.h + b.h + 1), .int .i64 0, .slice ua un uc])) (set5 X2 (w.heap.size + 1 + 1) v0 v1 v2 v3 v4)) := HEnd.out X2 ua un uc hm4 hO4
  have HX2 : Hid (x2.setCell ⟨w.heap.size + 1 + 1 + 1, 4, none⟩ (.slice ua un uc) = X2) := hX2
  have n0 : X2.cell? ⟨w.heap.size + 1 + 1 + 1, 0, none⟩ = some (.int .i64 3) := cell_atL hm4.new 0
  have n1 : X2.cell? ⟨w.heap.size + 1 + 1 + 1, 1, none⟩ = some (.int .i64 a.w) := cell_atL hm4.new 1
  have n2 : X2.cell? ⟨w.heap.size + 1 + 1 + 1, 2, none⟩ = some (.int .i64 (a.h + b.h + 1)) := cell_atL hm4.new 2
  have n3 : X2.cell? ⟨w.heap.size + 1 + 1 + 1, 3, none⟩ = some (.int .i64 0) := cell_atL hm4.new 3
  have n4 : X2.cell? ⟨w.heap.size + 1 + 1 + 1, 4, none⟩ = some (.slice ua un uc) := cell_atL hm4.new 4
  have r0 : X2.cell? ⟨w.heap.size + 1 + 1, 0, none⟩ = some (.int .i64 0) := cell_atL hm4.res 0
  have r1 : X2.cell? ⟨w.heap.size + 1 + 1, 1, none⟩ = some (.int .i64 0) := cell_atL hm4.res 1
  have r2 : X2.cell? ⟨w.heap.size + 1 + 1, 2, none⟩ = some (.int .i64 0) := cell_atL hm4.res 2
  have r3 : X2.cell? ⟨w.heap.size + 1 + 1, 3, none⟩ = some (.int .i64 0) := cell_atL hm4.res 3
  have r4 : X2.cell? ⟨w.heap.size + 1 + 1, 4, none⟩ = some (.slice none 0 0) := cell_atL hm4.res 4
  have g0 := free_atL hm4.res 0
  have g1 := free_atL hm4.res 1
  have g2 := free_atL hm4.res 2
  have g3 := free_atL hm4.res 3
  have g4 := free_atL hm4.res 4
  clear hO3 hb3 hm3 hm4 hO4 hX2 HJ3 HM2 HEnd HKp d0 d1 d2 d3 d4 d5
  go_upto_region 9 with fail
  rw [HX2.out]
  clear c4 f4
  go_wp2
  exact bodyPost_ret (v := .agg #[.int .i64 3, .int .i64 a.w, .int .i64 (a.h + b.h + 1), .int .i64 0, .slice ua un uc]) (by simp [results, Try.results67, go_sem, r0, r1, r2, r3, r4]) rfl (HF.out _ _ _ _ _)

set_option maxHeartbeats 2000000 in
theorem pair_bef2 (a b : Node) (aa : Option Addr) (an ac : Nat) (ba : Option Addr) (bn bc : Nat) (fa fb : List Nat) (w : World) (ha : a.In w (.slice aa an ac) fa) (hb : b.In w (.slice ba bn bc) fb) (la : a.ks.length ≤ 500) (lb : b.ks.length ≤ 500) (na : (0 ≤ a.w ∧ a.w ≤ 1000) ∧ (0 ≤ a.h ∧ a.h ≤ 1000)) (nb : (0 ≤ b.w ∧ b.w ≤ 1000) ∧ (0 ≤ b.h ∧ b.h ≤ 1000)) :
    Calls Try.prog 67 #[.int .i64 2, .agg (nodeV a (.slice aa an ac)), .agg (nodeV b (.slice ba bn bc)), .bool true] w (PairN (.mk 2 (b.w + a.w + 1) b.h 0 (flatN 2 b ++ flatN 2 a)) (fa ++ fb) w) := by
  have hS : ∀ q ∈ fa ++ fb, q < w.heap.size := fun q hq => by
    rcases List.mem_append.1 hq with h | h
    · exact ha.lt q h
    · exact hb.lt q h
  have hfl : (flatN 2 b).length ≤ 501 := by
    unfold flatN
    split
    · omega
    · simp
  have HM0 : Hid (PMid w a (.slice aa an ac) 2 (b.w + a.w + 1) b.h (.slice none 0 0) ((((w.alloc (.cells #[.int .i64 b.k, .int .i64 b.w, .int .i64 b.h, .int .i64 b.i, .slice ba bn bc] 80)).alloc (.cells #[.int .i64 a.k, .int .i64 a.w, .int .i64 a.h, .int .i64 a.i, .slice aa an ac] 80)).alloc (.cells zeroN 80)).alloc (.cells #[.int .i64 2, .int .i64 (b.w + a.w + 1), .int .i64 b.h, .int .i64 0, .slice none 0 0] 80))) := by
    obtain ⟨_, h1, h2, h3, h4⟩ := alloc4 w (.cells #[.int .i64 b.k, .int .i64 b.w, .int .i64 b.h, .int .i64 b.i, .slice ba bn bc] 80) (.cells #[.int .i64 a.k, .int .i64 a.w, .int .i64 a.h, .int .i64 a.i, .slice aa an ac] 80) (.cells zeroN 80) (.cells #[.int .i64 2, .int .i64 (b.w + a.w + 1), .int .i64 b.h, .int .i64 0, .slice none 0 0] 80)
    exact ⟨h2, h3, h4, h1⟩
  have HJ1 : Hid (Calls Try.prog 69 #[.slice none 0 0, .int .i64 2, .agg #[.int .i64 b.k, .int .i64 b.w, .int .i64 b.h, .int .i64 b.i, .slice ba bn bc]] ((((w.alloc (.cells #[.int .i64 b.k, .int .i64 b.w, .int .i64 b.h, .int .i64 b.i, .slice ba bn bc] 80)).alloc (.cells #[.int .i64 a.k, .int .i64 a.w, .int .i64 a.h, .int .i64 a.i, .slice aa an ac] 80)).alloc (.cells zeroN 80)).alloc (.cells #[.int .i64 2, .int .i64 (b.w + a.w + 1), .int .i64 b.h, .int .i64 0, .slice none 0 0] 80)) fun e w' => ∃ ra rn rc, e = .returned (.slice ra rn rc) ∧ NodesOwn w' (w.heap.size + 4) (.slice ra rn rc) (flatN 2 b) (fa ++ fb) ∧ Below (w.heap.size + 4) ((((w.alloc (.cells #[.int .i64 b.k, .int .i64 b.w, .int .i64 b.h, .int .i64 b.i, .slice ba bn bc] 80)).alloc (.cells #[.int .i64 a.k, .int .i64 a.w, .int .i64 a.h, .int .i64 a.i, .slice aa an ac] 80)).alloc (.cells zeroN 80)).alloc (.cells #[.int .i64 2, .int .i64 (b.w + a.w + 1), .int .i64 b.h, .int .i64 0, .slice none 0 0] 80)) w') := by
    obtain ⟨hsz, h1, _⟩ := alloc4 w (.cells #[.int .i64 b.k, .int .i64 b.w, .int .i64 b.h, .int .i64 b.i, .slice ba bn bc] 80) (.cells #[.int .i64 a.k, .int .i64 a.w, .int .i64 a.h, .int .i64 a.i, .slice aa an ac] 80) (.cells zeroN 80) (.cells #[.int .i64 2, .int .i64 (b.w + a.w + 1), .int .i64 b.h, .int .i64 0, .slice none 0 0] 80)
    exact joined_any 2 b _ _ _ fb (fa ++ fb) (w.heap.size + 4) (.slice none 0 0) [] _ ⟨[], [], World.ownsRow_nil _ _ _ _, ⟨rfl, rfl⟩, fun q hq => by cases hq⟩ (hb.below h1) (fun q hq => List.mem_append_right _ hq) (fun q hq => by have := hS q hq; omega) (by omega) (by simp) (by omega)
  have HJ2 : Hid (∀ X ra rn rc, Below w.heap.size w X → w.heap.size + 4 ≤ X.heap.size → NodesOwn X (w.heap.size + 4) (.slice ra rn rc) (flatN 2 b) (fa ++ fb) → Calls Try.prog 69 #[.slice ra rn rc, .int .i64 2, .agg #[.int .i64 a.k, .int .i64 a.w, .int .i64 a.h, .int .i64 a.i, .slice aa an ac]] X fun e w' => ∃ ua un uc, e = .returned (.slice ua un uc) ∧ NodesOwn w' (w.heap.size + 4) (.slice ua un uc) (flatN 2 b ++ flatN 2 a) (fa ++ fb) ∧ Below (w.heap.size + 4) X w') := fun X ra rn rc hX hsz hO => joined_any 2 a _ _ _ fa (fa ++ fb) (w.heap.size + 4) (.slice ra rn rc) (flatN 2 b) X hO (ha.below hX) (fun q hq => List.mem_append_left _ hq) (fun q hq => by have := hS q hq; omega) hsz (by omega) (by omega)
  have HEnd : Hid (∀ X ua un uc, PMid w a (.slice aa an ac) 2 (b.w + a.w + 1) b.h (.slice ua un uc) X → NodesOwn X (w.heap.size + 4) (.slice ua un uc) (flatN 2 b ++ flatN 2 a) (fa ++ fb) → ∀ v0 v1 v2 v3 v4, PairN (.mk 2 (b.w + a.w + 1) b.h 0 (flatN 2 b ++ flatN 2 a)) (fa ++ fb) w (.returned (.agg #[.int .i64 2, .int .i64 (b.w + a.w + 1), .int .i64 b.h, .int .i64 0, .slice ua un uc])) (set5 X (w.heap.size + 1 + 1) v0 v1 v2 v3 v4)) := fun X ua un uc h1 h2 v0 v1 v2 v3 v4 => pair_end h1 h2 hS v0 v1 v2 v3 v4
  have HKp : Hid (∀ X sl v ns, NodesOwn X (w.heap.size + 4) sl ns (fa ++ fb) → NodesOwn (X.setCell ⟨w.heap.size + 1 + 1 + 1, 4, none⟩ v) (w.heap.size + 4) sl ns (fa ++ fb)) := fun X sl v ns hO => hO.keep fun q hq _ => Below.heap_setCell _ _ _ _ (by
    show q ≠ w.heap.size + 1 + 1 + 1
    rcases hq with h | h
    · omega
    · have := hS q h
      omega)
  obtain ⟨R, hR⟩ : ∃ R, (Node.mk 2 (b.w + a.w + 1) b.h 0 (flatN 2 b ++ flatN 2 a)) = R := ⟨_, rfl⟩
  rw [hR] at HEnd ⊢
  obtain ⟨S, hSS⟩ : ∃ S, fa ++ fb = S := ⟨_, rfl⟩
  rw [hSS] at HEnd HJ1 HJ2 HKp ⊢
  obtain ⟨R1, hR1⟩ : ∃ R, flatN 2 b = R := ⟨_, rfl⟩
  obtain ⟨R2, hR2⟩ : ∃ R, R1 ++ flatN 2 a = R := ⟨_, rfl⟩
  rw [hR1] at HJ1 HJ2 HEnd
  rw [hR2] at HJ2 HEnd
  have w1 : IntKind.i64.wrap (b.w + a.w) = b.w + a.w := by rw [IntKind.wrap_i64]; omega
  have w2 : IntKind.i64.wrap (b.w + a.w + 1) = b.w + a.w + 1 := by rw [IntKind.wrap_i64]; omega
  have w3 : IntKind.i64.wrap (b.h + a.h) = b.h + a.h := by rw [IntKind.wrap_i64]; omega
  have w4 : IntKind.i64.wrap (b.h + a.h + 1) = b.h + a.h + 1 := by rw [IntKind.wrap_i64]; omega
  show Calls Try.prog 67 #[.int .i64 2, .agg #[.int .i64 a.k, .int .i64 a.w, .int .i64 a.h, .int .i64 a.i, .slice aa an ac], .agg #[.int .i64 b.k, .int .i64 b.w, .int .i64 b.h, .int .i64 b.i, .slice ba bn bc], .bool true] w _
  clear ha hb la lb na nb hS hfl hR hSS hR1 hR2
  go_enter Try.func67, Try.ntmps67
  go_wp2_with fail
  refine HJ1.out.mono ?_
  rintro e x1 ⟨ra, rn, rc, rfl, hO1, hb1⟩
  have hm1 := HM0.out.below' hb1
  have c4 : x1.cell? ⟨w.heap.size + 1 + 1 + 1, 4, none⟩ = some (.slice none 0 0) := cell_atL hm1.new 4
  have f4 : x1.frozen? ⟨w.heap.size + 1 + 1 + 1, 4, none⟩ = false := free_atL hm1.new 4
  have hm2 := hm1.put (.slice ra rn rc)
  have hO2 := HKp.out x1 _ (.slice ra rn rc) _ hO1
  obtain ⟨X1, hX1⟩ : ∃ X, x1.setCell ⟨w.heap.size + 1 + 1 + 1, 4, none⟩ (.slice ra rn rc) = X := ⟨_, rfl⟩
  rw [hX1] at hm2 hO2
  have hsz1 : w.heap.size + 4 ≤ X1.heap.size := by have := lt_of_block hm2.new; omega
  have HJ3 : Hid (Calls Try.prog 69 #[.slice ra rn rc, .int .i64 2, .agg #[.int .i64 a.k, .int .i64 a.w, .int .i64 a.h, .int .i64 a.i, .slice aa an ac]] X1 fun e w' => ∃ ua un uc, e = .returned (.slice ua un uc) ∧ NodesOwn w' (w.heap.size + 4) (.slice ua un uc) R2 S ∧ Below (w.heap.size + 4) X1 w') := HJ2.out X1 ra rn rc hm2.below hsz1 hO2
  have HM2 : Hid (PMid w a (.slice aa an ac) 2 (b.w + a.w + 1) b.h (.slice ra rn rc) X1) := hm2
  have HX1 : Hid (x1.setCell ⟨w.heap.size + 1 + 1 + 1, 4, none⟩ (.slice ra rn rc) = X1) := hX1
  have d0 : X1.cell? ⟨w.heap.size + 1, 0, none⟩ = some (.int .i64 a.k) := cell_atL hm2.snd 0
  have d1 : X1.cell? ⟨w.heap.size + 1, 1, none⟩ = some (.int .i64 a.w) := cell_atL hm2.snd 1
  have d2 : X1.cell? ⟨w.heap.size + 1, 2, none⟩ = some (.int .i64 a.h) := cell_atL hm2.snd 2
  have d3 : X1.cell? ⟨w.heap.size + 1, 3, none⟩ = some (.int .i64 a.i) := cell_atL hm2.snd 3
  have d4 : X1.cell? ⟨w.heap.size + 1, 4, none⟩ = some (.slice aa an ac) := cell_atL hm2.snd 4
  have d5 : X1.cell? ⟨w.heap.size + 1 + 1 + 1, 4, none⟩ = some (.slice ra rn rc) := cell_atL hm2.new 4
  clear hO1 hb1 hm1 hm2 hO2 hX1 hsz1 HJ1 HJ2 HM0
  go_upto_region 8 with fail
  rw [HX1.out]
  clear c4 f4
  go_wp2_with fail
  refine HJ3.out.mono ?_
  rintro e x2 ⟨ua, un, uc, rfl, hO3, hb3⟩
  have hm3 := HM2.out.below' hb3
  have c4 : x2.cell? ⟨w.heap.size + 1 + 1 + 1, 4, none⟩ = some (.slice ra rn rc) := cell_atL hm3.new 4
  have f4 : x2.frozen? ⟨w.heap.size + 1 + 1 + 1, 4, none⟩ = false := free_atL hm3.new 4
  have hm4 := hm3.put (.slice ua un uc)
  have hO4 := HKp.out x2 _ (.slice ua un uc) _ hO3
  obtain ⟨X2, hX2⟩ : ∃ X, x2.setCell ⟨w.heap.size + 1 + 1 + 1, 4, none⟩ (.slice ua un uc) = X := ⟨_, rfl⟩
  rw [hX2] at hm4 hO4
  have HF : Hid (∀ v0 v1 v2 v3 v4, PairN R S w (.returned (.agg #[.int .i64 2, .int .i64 (b.w + a.w + 1), .int .i64 b.h, .int .i64 0, .slice ua un uc])) (set5 X2 (w.heap.size + 1 + 1) v0 v1 v2 v3 v4)) := HEnd.out X2 ua un uc hm4 hO4
  have HX2 : Hid (x2.setCell ⟨w.heap.size + 1 + 1 + 1, 4, none⟩ (.slice ua un uc) = X2) := hX2
  have n0 : X2.cell? ⟨w.heap.size + 1 + 1 + 1, 0, none⟩ = some (.int .i64 2) := cell_atL hm4.new 0
  have n1 : X2.cell? ⟨w.heap.size + 1 + 1 + 1, 1, none⟩ = some (.int .i64 (b.w + a.w + 1)) := cell_atL hm4.new 1
  have n2 : X2.cell? ⟨w.heap.size + 1 + 1 + 1, 2, none⟩ = some (.int .i64 b.h) := cell_atL hm4.new 2
  have n3 : X2.cell? ⟨w.heap.size + 1 + 1 + 1, 3, none⟩ = some (.int .i64 0) := cell_atL hm4.new 3
  have n4 : X2.cell? ⟨w.heap.size + 1 + 1 + 1, 4, none⟩ = some (.slice ua un uc) := cell_atL hm4.new 4
  have r0 : X2.cell? ⟨w.heap.size + 1 + 1, 0, none⟩ = some (.int .i64 0) := cell_atL hm4.res 0
  have r1 : X2.cell? ⟨w.heap.size + 1 + 1, 1, none⟩ = some (.int .i64 0) := cell_atL hm4.res 1
  have r2 : X2.cell? ⟨w.heap.size + 1 + 1, 2, none⟩ = some (.int .i64 0) := cell_atL hm4.res 2
  have r3 : X2.cell? ⟨w.heap.size + 1 + 1, 3, none⟩ = some (.int .i64 0) := cell_atL hm4.res 3
  have r4 : X2.cell? ⟨w.heap.size + 1 + 1, 4, none⟩ = some (.slice none 0 0) := cell_atL hm4.res 4
  have g0 := free_atL hm4.res 0
  have g1 := free_atL hm4.res 1
  have g2 := free_atL hm4.res 2
  have g3 := free_atL hm4.res 3
  have g4 := free_atL hm4.res 4
  clear hO3 hb3 hm3 hm4 hO4 hX2 HJ3 HM2 HEnd HKp d0 d1 d2 d3 d4 d5
  go_upto_region 9 with fail
  rw [HX2.out]
  clear c4 f4
  go_wp2
  exact bodyPost_ret (v := .agg #[.int .i64 2, .int .i64 (b.w + a.w + 1), .int .i64 b.h, .int .i64 0, .slice ua un uc]) (by simp [results, Try.results67, go_sem, r0, r1, r2, r3, r4]) rfl (HF.out _ _ _ _ _)

set_option maxHeartbeats 2000000 in
theorem pair_bef3 (a b : Node) (aa : Option Addr) (an ac : Nat) (ba : Option Addr) (bn bc : Nat) (fa fb : List Nat) (w : World) (ha : a.In w (.slice aa an ac) fa) (hb : b.In w (.slice ba bn bc) fb) (la : a.ks.length ≤ 500) (lb : b.ks.length ≤ 500) (na : (0 ≤ a.w ∧ a.w ≤ 1000) ∧ (0 ≤ a.h ∧ a.h ≤ 1000)) (nb : (0 ≤ b.w ∧ b.w ≤ 1000) ∧ (0 ≤ b.h ∧ b.h ≤ 1000)) :
    Calls Try.prog 67 #[.int .i64 3, .agg (nodeV a (.slice aa an ac)), .agg (nodeV b (.slice ba bn bc)), .bool true] w (PairN (.mk 3 b.w (b.h + a.h + 1) 0 (flatN 3 b ++ flatN 3 a)) (fa ++ fb) w) := by
  have hS : ∀ q ∈ fa ++ fb, q < w.heap.size := fun q hq => by
    rcases List.mem_append.1 hq with h | h
    · exact ha.lt q h
    · exact hb.lt q h
  have hfl : (flatN 3 b).length ≤ 501 := by
    unfold flatN
    split
    · omega
    · simp
  have HM0 : Hid (PMid w a (.slice aa an ac) 3 b.w (b.h + a.h + 1) (.slice none 0 0) ((((w.alloc (.cells #[.int .i64 b.k, .int .i64 b.w, .int .i64 b.h, .int .i64 b.i, .slice ba bn bc] 80)).alloc (.cells #[.int .i64 a.k, .int .i64 a.w, .int .i64 a.h, .int .i64 a.i, .slice aa an ac] 80)).alloc (.cells zeroN 80)).alloc (.cells #[.int .i64 3, .int .i64 b.w, .int .i64 (b.h + a.h + 1), .int .i64 0, .slice none 0 0] 80))) := by
    obtain ⟨_, h1, h2, h3, h4⟩ := alloc4 w (.cells #[.int .i64 b.k, .int .i64 b.w, .int .i64 b.h, .int .i64 b.i, .slice ba bn bc] 80) (.cells #[.int .i64 a.k, .int .i64 a.w, .int .i64 a.h, .int .i64 a.i, .slice aa an ac] 80) (.cells zeroN 80) (.cells #[.int .i64 3, .int .i64 b.w, .int .i64 (b.h + a.h + 1), .int .i64 0, .slice none 0 0] 80)
    exact ⟨h2, h3, h4, h1⟩
  have HJ1 : Hid (Calls Try.prog 69 #[.slice none 0 0, .int .i64 3, .agg #[.int .i64 b.k, .int .i64 b.w, .int .i64 b.h, .int .i64 b.i, .slice ba bn bc]] ((((w.alloc (.cells #[.int .i64 b.k, .int .i64 b.w, .int .i64 b.h, .int .i64 b.i, .slice ba bn bc] 80)).alloc (.cells #[.int .i64 a.k, .int .i64 a.w, .int .i64 a.h, .int .i64 a.i, .slice aa an ac] 80)).alloc (.cells zeroN 80)).alloc (.cells #[.int .i64 3, .int .i64 b.w, .int .i64 (b.h + a.h + 1), .int .i64 0, .slice none 0 0] 80)) fun e w' => ∃ ra rn rc, e = .returned (.slice ra rn rc) ∧ NodesOwn w' (w.heap.size + 4) (.slice ra rn rc) (flatN 3 b) (fa ++ fb) ∧ Below (w.heap.size + 4) ((((w.alloc (.cells #[.int .i64 b.k, .int .i64 b.w, .int .i64 b.h, .int .i64 b.i, .slice ba bn bc] 80)).alloc (.cells #[.int .i64 a.k, .int .i64 a.w, .int .i64 a.h, .int .i64 a.i, .slice aa an ac] 80)).alloc (.cells zeroN 80)).alloc (.cells #[.int .i64 3, .int .i64 b.w, .int .i64 (b.h + a.h + 1), .int .i64 0, .slice none 0 0] 80)) w') := by
    obtain ⟨hsz, h1, _⟩ := alloc4 w (.cells #[.int .i64 b.k, .int .i64 b.w, .int .i64 b.h, .int .i64 b.i, .slice ba bn bc] 80) (.cells #[.int .i64 a.k, .int .i64 a.w, .int .i64 a.h, .int .i64 a.i, .slice aa an ac] 80) (.cells zeroN 80) (.cells #[.int .i64 3, .int .i64 b.w, .int .i64 (b.h + a.h + 1), .int .i64 0, .slice none 0 0] 80)
    exact joined_any 3 b _ _ _ fb (fa ++ fb) (w.heap.size + 4) (.slice none 0 0) [] _ ⟨[], [], World.ownsRow_nil _ _ _ _, ⟨rfl, rfl⟩, fun q hq => by cases hq⟩ (hb.below h1) (fun q hq => List.mem_append_right _ hq) (fun q hq => by have := hS q hq; omega) (by omega) (by simp) (by omega)
  have HJ2 : Hid (∀ X ra rn rc, Below w.heap.size w X → w.heap.size + 4 ≤ X.heap.size → NodesOwn X (w.heap.size + 4) (.slice ra rn rc) (flatN 3 b) (fa ++ fb) → Calls Try.prog 69 #[.slice ra rn rc, .int .i64 3, .agg #[.int .i64 a.k, .int .i64 a.w, .int .i64 a.h, .int .i64 a.i, .slice aa an ac]] X fun e w' => ∃ ua un uc, e = .returned (.slice ua un uc) ∧ NodesOwn w' (w.heap.size + 4) (.slice ua un uc) (flatN 3 b ++ flatN 3 a) (fa ++ fb) ∧ Below (w.heap.size + 4) X w') := fun X ra rn rc hX hsz hO => joined_any 3 a _ _ _ fa (fa ++ fb) (w.heap.size + 4) (.slice ra rn rc) (flatN 3 b) X hO (ha.below hX) (fun q hq => List.mem_append_left _ hq) (fun q hq => by have := hS q hq; omega) hsz (by omega) (by omega)
  have HEnd : Hid (∀ X ua un uc, PMid w a (.slice aa an ac) 3 b.w (b.h + a.h + 1) (.slice ua un uc) X → NodesOwn X (w.heap.size + 4) (.slice ua un uc) (flatN 3 b ++ flatN 3 a) (fa ++ fb) → ∀ v0 v1 v2 v3 v4, PairN (.mk 3 b.w (b.h + a.h + 1) 0 (flatN 3 b ++ flatN 3 a)) (fa ++ fb) w (.returned (.agg #[.int .i64 3, .int .i64 b.w, .int .i64 (b.h + a.h + 1), .int .i64 0, .slice ua un uc])) (set5 X (w.heap.size + 1 + 1) v0 v1 v2 v3 v4)) := fun X ua un uc h1 h2 v0 v1 v2 v3 v4 => pair_end h1 h2 hS v0 v1 v2 v3 v4
  have HKp : Hid (∀ X sl v ns, NodesOwn X (w.heap.size + 4) sl ns (fa ++ fb) → NodesOwn (X.setCell ⟨w.heap.size + 1 + 1 + 1, 4, none⟩ v) (w.heap.size + 4) sl ns (fa ++ fb)) := fun X sl v ns hO => hO.keep fun q hq _ => Below.heap_setCell _ _ _ _ (by
    show q ≠ w.heap.size + 1 + 1 + 1
    rcases hq with h | h
    · omega
    · have := hS q h
      omega)
  obtain ⟨R, hR⟩ : ∃ R, (Node.mk 3 b.w (b.h + a.h + 1) 0 (flatN 3 b ++ flatN 3 a)) = R := ⟨_, rfl⟩
  rw [hR] at HEnd ⊢
  obtain ⟨S, hSS⟩ : ∃ S, fa ++ fb = S := ⟨_, rfl⟩
  rw [hSS] at HEnd HJ1 HJ2 HKp ⊢
  obtain ⟨R1, hR1⟩ : ∃ R, flatN 3 b = R := ⟨_, rfl⟩
  obtain ⟨R2, hR2⟩ : ∃ R, R1 ++ flatN 3 a = R := ⟨_, rfl⟩
  rw [hR1] at HJ1 HJ2 HEnd
  rw [hR2] at HJ2 HEnd
  have w1 : IntKind.i64.wrap (b.w + a.w) = b.w + a.w := by rw [IntKind.wrap_i64]; omega
  have w2 : IntKind.i64.wrap (b.w + a.w + 1) = b.w + a.w + 1 := by rw [IntKind.wrap_i64]; omega
  have w3 : IntKind.i64.wrap (b.h + a.h) = b.h + a.h := by rw [IntKind.wrap_i64]; omega
  have w4 : IntKind.i64.wrap (b.h + a.h + 1) = b.h + a.h + 1 := by rw [IntKind.wrap_i64]; omega
  show Calls Try.prog 67 #[.int .i64 3, .agg #[.int .i64 a.k, .int .i64 a.w, .int .i64 a.h, .int .i64 a.i, .slice aa an ac], .agg #[.int .i64 b.k, .int .i64 b.w, .int .i64 b.h, .int .i64 b.i, .slice ba bn bc], .bool true] w _
  clear ha hb la lb na nb hS hfl hR hSS hR1 hR2
  go_enter Try.func67, Try.ntmps67
  go_wp2_with fail
  refine HJ1.out.mono ?_
  rintro e x1 ⟨ra, rn, rc, rfl, hO1, hb1⟩
  have hm1 := HM0.out.below' hb1
  have c4 : x1.cell? ⟨w.heap.size + 1 + 1 + 1, 4, none⟩ = some (.slice none 0 0) := cell_atL hm1.new 4
  have f4 : x1.frozen? ⟨w.heap.size + 1 + 1 + 1, 4, none⟩ = false := free_atL hm1.new 4
  have hm2 := hm1.put (.slice ra rn rc)
  have hO2 := HKp.out x1 _ (.slice ra rn rc) _ hO1
  obtain ⟨X1, hX1⟩ : ∃ X, x1.setCell ⟨w.heap.size + 1 + 1 + 1, 4, none⟩ (.slice ra rn rc) = X := ⟨_, rfl⟩
  rw [hX1] at hm2 hO2
  have hsz1 : w.heap.size + 4 ≤ X1.heap.size := by have := lt_of_block hm2.new; omega
  have HJ3 : Hid (Calls Try.prog 69 #[.slice ra rn rc, .int .i64 3, .agg #[.int .i64 a.k, .int .i64 a.w, .int .i64 a.h, .int .i64 a.i, .slice aa an ac]] X1 fun e w' => ∃ ua un uc, e = .returned (.slice ua un uc) ∧ NodesOwn w' (w.heap.size + 4) (.slice ua un uc) R2 S ∧ Below (w.heap.size + 4) X1 w') := HJ2.out X1 ra rn rc hm2.below hsz1 hO2
  have HM2 : Hid (PMid w a (.slice aa an ac) 3 b.w (b.h + a.h + 1) (.slice ra rn rc) X1) := hm2
  have HX1 : Hid (x1.setCell ⟨w.heap.size + 1 + 1 + 1, 4, none⟩ (.slice ra rn rc) = X1) := hX1
  have d0 : X1.cell? ⟨w.heap.size + 1, 0, none⟩ = some (.int .i64 a.k) := cell_atL hm2.snd 0
  have d1 : X1.cell? ⟨w.heap.size + 1, 1, none⟩ = some (.int .i64 a.w) := cell_atL hm2.snd 1
  have d2 : X1.cell? ⟨w.heap.size + 1, 2, none⟩ = some (.int .i64 a.h) := cell_atL hm2.snd 2
  have d3 : X1.cell? ⟨w.heap.size + 1, 3, none⟩ = some (.int .i64 a.i) := cell_atL hm2.snd 3
  have d4 : X1.cell? ⟨w.heap.size + 1, 4, none⟩ = some (.slice aa an ac) := cell_atL hm2.snd 4
  have d5 : X1.cell? ⟨w.heap.size + 1 + 1 + 1, 4, none⟩ = some (.slice ra rn rc) := cell_atL hm2.new 4
  clear hO1 hb1 hm1 hm2 hO2 hX1 hsz1 HJ1 HJ2 HM0
  go_upto_region 8 with fail
  rw [HX1.out]
  clear c4 f4
  go_wp2_with fail
  refine HJ3.out.mono ?_
  rintro e x2 ⟨ua, un, uc, rfl, hO3, hb3⟩
  have hm3 := HM2.out.below' hb3
  have c4 : x2.cell? ⟨w.heap.size + 1 + 1 + 1, 4, none⟩ = some (.slice ra rn rc) := cell_atL hm3.new 4
  have f4 : x2.frozen? ⟨w.heap.size + 1 + 1 + 1, 4, none⟩ = false := free_atL hm3.new 4
  have hm4 := hm3.put (.slice ua un uc)
  have hO4 := HKp.out x2 _ (.slice ua un uc) _ hO3
  obtain ⟨X2, hX2⟩ : ∃ X, x2.setCell ⟨w.heap.size + 1 + 1 + 1, 4, none⟩ (.slice ua un uc) = X := ⟨_, rfl⟩
  rw [hX2] at hm4 hO4
  have HF : Hid (∀ v0 v1 v2 v3 v4, PairN R S w (.returned (.agg #[.int .i64 3, .int .i64 b.w, .int .i64 (b.h + a.h + 1), .int .i64 0, .slice ua un uc])) (set5 X2 (w.heap.size + 1 + 1) v0 v1 v2 v3 v4)) := HEnd.out X2 ua un uc hm4 hO4
  have HX2 : Hid (x2.setCell ⟨w.heap.size + 1 + 1 + 1, 4, none⟩ (.slice ua un uc) = X2) := hX2
  have n0 : X2.cell? ⟨w.heap.size + 1 + 1 + 1, 0, none⟩ = some (.int .i64 3) := cell_atL hm4.new 0
  have n1 : X2.cell? ⟨w.heap.size + 1 + 1 + 1, 1, none⟩ = some (.int .i64 b.w) := cell_atL hm4.new 1
  have n2 : X2.cell? ⟨w.heap.size + 1 + 1 + 1, 2, none⟩ = some (.int .i64 (b.h + a.h + 1)) := cell_atL hm4.new 2
  have n3 : X2.cell? ⟨w.heap.size + 1 + 1 + 1, 3, none⟩ = some (.int .i64 0) := cell_atL hm4.new 3
  have n4 : X2.cell? ⟨w.heap.size + 1 + 1 + 1, 4, none⟩ = some (.slice ua un uc) := cell_atL hm4.new 4
  have r0 : X2.cell? ⟨w.heap.size + 1 + 1, 0, none⟩ = some (.int .i64 0) := cell_atL hm4.res 0
  have r1 : X2.cell? ⟨w.heap.size + 1 + 1, 1, none⟩ = some (.int .i64 0) := cell_atL hm4.res 1
  have r2 : X2.cell? ⟨w.heap.size + 1 + 1, 2, none⟩ = some (.int .i64 0) := cell_atL hm4.res 2
  have r3 : X2.cell? ⟨w.heap.size + 1 + 1, 3, none⟩ = some (.int .i64 0) := cell_atL hm4.res 3
  have r4 : X2.cell? ⟨w.heap.size + 1 + 1, 4, none⟩ = some (.slice none 0 0) := cell_atL hm4.res 4
  have g0 := free_atL hm4.res 0
  have g1 := free_atL hm4.res 1
  have g2 := free_atL hm4.res 2
  have g3 := free_atL hm4.res 3
  have g4 := free_atL hm4.res 4
  clear hO3 hb3 hm3 hm4 hO4 hX2 HJ3 HM2 HEnd HKp d0 d1 d2 d3 d4 d5
  go_upto_region 9 with fail
  rw [HX2.out]
  clear c4 f4
  go_wp2
  exact bodyPost_ret (v := .agg #[.int .i64 3, .int .i64 b.w, .int .i64 (b.h + a.h + 1), .int .i64 0, .slice ua un uc]) (by simp [results, Try.results67, go_sem, r0, r1, r2, r3, r4]) rfl (HF.out _ _ _ _ _)

end Go.Proofs.Ytnepemlagnnngaa

namespace Go.Proofs.Ytnepemlagnnngaa
open Go.RowKit
set_option linter.unusedVariables false
set_option maxRecDepth 100000

theorem ks_length (t : Tree) (hz : t.size ≤ 500) : (nodeOf t).ks.length ≤ 500 := by
  cases t with
  | leaf b p => exact Nat.zero_le _
  | split b k ts =>
    show (nodesOf ts).length ≤ 500
    change 1 + sizes ts ≤ 500 at hz
    have := length_sizes ts
    rw [nodesOf_length]
    omega
theorem pair_beside {l : List CellV} {t t1 : Tree} {k z n id : Int} {bf : Bool} (hU : Fulled l t t1 k z n id bf) (sa : Option Addr) (sn sc : Nat) (f : List Nat) (w : World) (hIn : (nodeOf t1).In w (.slice sa sn sc) f) :
    Calls Try.prog 67 #[.int .i64 k, .agg (nodeV (nodeOf t1) (.slice sa sn sc)), .agg #[.int .i64 1, .int .i64 (fullB t k n).w, .int .i64 (fullB t k n).h, .int .i64 id, .slice none 0 0], .bool bf] w fun e w' => ∃ ta tn tc fp', e = .returned (.agg (nodeV (nodeOf (besideT k bf t1 (.leaf (fullB t k n) id))) (.slice ta tn tc))) ∧ (nodeOf (besideT k bf t1 (.leaf (fullB t k n) id))).In w' (.slice ta tn tc) fp' ∧ Below w.heap.size w w' := by
  have hB := hU.beside
  have hz := lay_size hU.lay
  have hk1 := ks_length t1 (by rw [hU.z1]; omega)
  have hs1 := t1.sound_sides hU.s1
  have hts := t.sound_sides hU.lay.sound
  have hlow := hU.low
  have hfb := fullB_eq t k n hU.kind
  have hb1 := hU.box1
  have hLin : (Node.mk 1 (fullB t k n).w (fullB t k n).h id []).In w (.slice none 0 0) [] := ⟨[], [], World.ownsRow_nil _ _ _ _, ⟨rfl, rfl⟩, rfl⟩
  have hlf : nodeOf (.leaf (fullB t k n) id) = .mk 1 (fullB t k n).w (fullB t k n).h id [] := rfl
  rw [← nodeOf_w, ← nodeOf_h] at hs1
  have key : ∀ (N : Node), N = nodeOf (besideT k bf t1 (.leaf (fullB t k n) id)) → ∀ e w', PairN N (f ++ []) w e w' → ∃ ta tn tc fp', e = .returned (.agg (nodeV (nodeOf (besideT k bf t1 (.leaf (fullB t k n) id))) (.slice ta tn tc))) ∧ (nodeOf (besideT k bf t1 (.leaf (fullB t k n) id))).In w' (.slice ta tn tc) fp' ∧ Below w.heap.size w w' := by
    rintro N rfl e w' ⟨ta, tn, tc, fp', h1, h2, _, h3⟩
    exact ⟨ta, tn, tc, fp', h1, h2, h3⟩
  have hnd := hB.node
  rcases hU.kind with hk | hk
  · subst hk
    have hb : fullB t 2 n = ⟨0, 0, n, t.box.h⟩ := hfb
    have h1h : t1.box.h = t.box.h := by rw [hb1]; rfl
    have nb : (0 ≤ (fullB t 2 n).w ∧ (fullB t 2 n).w ≤ 1000) ∧ (0 ≤ (fullB t 2 n).h ∧ (fullB t 2 n).h ≤ 1000) := by
      rw [hb]
      show (0 ≤ n ∧ n ≤ 1000) ∧ (0 ≤ t.box.h ∧ t.box.h ≤ 1000)
      omega
    cases bf with
    | false =>
      refine (pair_beh2 (nodeOf t1) (.mk 1 (fullB t 2 n).w (fullB t 2 n).h id []) sa sn sc none 0 0 f [] w hIn hLin hk1 (by simp [Node.ks]) (by omega) nb).mono (key _ ?_)
      rw [hnd, flatN_of 2 (.inl rfl), ← hlf, flatN_of 2 (.inl rfl), nodeOf_w, nodeOf_h, ← nodesOf_append]
      rfl
    | true =>
      refine (pair_bef2 (nodeOf t1) (.mk 1 (fullB t 2 n).w (fullB t 2 n).h id []) sa sn sc none 0 0 f [] w hIn hLin hk1 (by simp [Node.ks]) (by omega) nb).mono (key _ ?_)
      rw [hnd, flatN_of 2 (.inl rfl), ← hlf, flatN_of 2 (.inl rfl), nodeOf_w, nodeOf_h, nodeOf_w, ← nodesOf_append]
      show Node.mk 2 ((fullB t 2 n).w + t1.box.w + 1) (fullB t 2 n).h 0 _ = Node.mk 2 (t1.box.w + (fullB t 2 n).w + 1) t1.box.h 0 _
      rw [h1h, show (fullB t 2 n).h = t.box.h by rw [hb], Int.add_comm (fullB t 2 n).w t1.box.w]
      rfl
  · subst hk
    have hb : fullB t 3 n = ⟨0, 0, t.box.w, n⟩ := hfb
    have h1w : t1.box.w = t.box.w := by rw [hb1]; rfl
    have nb : (0 ≤ (fullB t 3 n).w ∧ (fullB t 3 n).w ≤ 1000) ∧ (0 ≤ (fullB t 3 n).h ∧ (fullB t 3 n).h ≤ 1000) := by
      rw [hb]
      show (0 ≤ t.box.w ∧ t.box.w ≤ 1000) ∧ (0 ≤ n ∧ n ≤ 1000)
      omega
    cases bf with
    | false =>
      refine (pair_beh3 (nodeOf t1) (.mk 1 (fullB t 3 n).w (fullB t 3 n).h id []) sa sn sc none 0 0 f [] w hIn hLin hk1 (by simp [Node.ks]) (by omega) nb).mono (key _ ?_)
      rw [hnd, flatN_of 3 (.inr rfl), ← hlf, flatN_of 3 (.inr rfl), nodeOf_w, nodeOf_h, ← nodesOf_append]
      rfl
    | true =>
      refine (pair_bef3 (nodeOf t1) (.mk 1 (fullB t 3 n).w (fullB t 3 n).h id []) sa sn sc none 0 0 f [] w hIn hLin hk1 (by simp [Node.ks]) (by omega) nb).mono (key _ ?_)
      rw [hnd, flatN_of 3 (.inr rfl), ← hlf, flatN_of 3 (.inr rfl), nodeOf_w, nodeOf_h, nodeOf_h, ← nodesOf_append]
      show Node.mk 3 (fullB t 3 n).w ((fullB t 3 n).h + t1.box.h + 1) 0 _ = Node.mk 3 t1.box.w (t1.box.h + (fullB t 3 n).h + 1) 0 _
      rw [h1w, show (fullB t 3 n).w = t.box.w by rw [hb], Int.add_comm (fullB t 3 n).h t1.box.h]
      rfl

end Go.Proofs.Ytnepemlagnnngaa
