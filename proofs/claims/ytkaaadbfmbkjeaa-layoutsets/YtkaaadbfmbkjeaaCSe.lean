/-
  Layouts: Set in the program (mksetp.py).
  Layouts: Set in the document.
  Layouts: the law of Set.
-/
import Derived.Test.YtkaaadbfmbkjeaaCPn
import Derived.Test.YtkaaadbfmbkjeaaCPi
import Derived.Test.YtkaaadbfmbkjeaaCPk
namespace Go.Proofs.Ytkaaadbfmbkjeaa
open Go.RowKit
set_option linter.unusedVariables false
set_option maxRecDepth 100000

theorem near_part {w w' w1 : World} {k : Int} {t : Tree} {v : Value} {qs : List Nat} {a : Nat} {fp : List Nat} {st : List (Nat × Nat)} {j gg : Nat} {b : Box} {ts : List Tree} {f' : List Nat} {s : Tree} (hge : ∀ q ∈ fp, w.heap.size + 1 ≤ q) (hN : NearAt w1 k t v fp st qs a j gg b ts f') (hbt : But [w.heap.size] w1 w') (hsa : ts[a]? = some s) :
    ∃ pg cap Ta ga, (∀ X, (method 277 Ta (.pointer (some ⟨ga, 0, none⟩)) "mullion/layout.extent").run Try.prog X = .ok (25, .pointer (some ⟨ga, 0, none⟩)) X) ∧ (∀ X, (nilAhead 277 Ta (.pointer (some ⟨ga, 0, none⟩)) "mullion/layout.extent").run Try.prog X = .ok (some false) X) ∧ ∀ X, Below w'.heap.size w' X → X.cell? ⟨gg, 5, none⟩ = some (.slice (some ⟨pg, 0, none⟩) ts.length cap) ∧ X.cell? ⟨pg, a, none⟩ = some (.iface Ta (.pointer (some ⟨ga, 0, none⟩))) ∧ ∀ d, Calls Try.prog 25 #[.pointer (some ⟨ga, 0, none⟩), .int .i64 d] X fun e w2 => e = .returned (.int .i64 (s.box.ext d)) ∧ X = w2 := by
  have hfpA : ∀ q ∈ fp, q ∉ [w.heap.size] := fun q hq e => by
    have h1 := hge q hq
    have : q = w.heap.size := by simpa using e
    omega
  have hhere := hN.here.but hbt (fun q hq => hfpA q (hN.inn q hq))
  obtain ⟨g0, sl, vs, fs, e0, k2, k3, k4, hf'⟩ := hhere
  cases e0
  have hvl := k4.length
  have hal : a < ts.length := (List.getElem?_eq_some_iff.1 hsa).1
  rcases k3.2 with ⟨_, h0⟩ | ⟨pg, cap, cur, rfl, hb0, hg0, hc1, hc2, hc3, hc4⟩
  · omega
  obtain ⟨v', f, e1, e2, _⟩ := partsAt.get k4 a s hsa
  obtain ⟨ga, hvv, _⟩ := e2.own
  obtain ⟨Ta, rfl, hm⟩ := part_extent hvv
  have hc := World.ownsRow.cellAt k3 a (by omega)
  rw [e1] at hc
  refine ⟨pg, cap, Ta, ga, fun X => (hm X).1, fun X => (hm X).2, fun X hX => ⟨?_, ?_, fun d => (leaf_or_split e2 d X hX).2⟩⟩
  · rw [← hvl]
    exact (hX.cell (p := ⟨gg, 5, none⟩) (lt_of_block k2)).trans (cell_atL k2 5)
  · exact (hX.cell (p := ⟨pg, a, none⟩) (lt_of_block hg0)).trans hc

theorem setP_err (v : Value) (q k n er : Int) (w : World) (h : Calls Try.prog 50 #[v, .int .i64 q, .int .i64 k] w (NearErr er w)) (h0 : er ≠ 0) : Calls Try.prog 20 #[v, .int .i64 q, .int .i64 k, .int .i64 n] w (Ans2 er [] w) := by
  have HN : Hid (Calls Try.prog 50 #[v, .int .i64 q, .int .i64 k] w (NearErr er w)) := h
  have h0' : (er != 0) = true := by simpa using h0
  clear h h0
  go_enter Try.func20, Try.ntmps20
  go_wp2_with fail
  refine HN.out.mono ?_
  rintro e w1 ⟨rfl, hb⟩
  have HB : Hid (∀ o, Below w.heap.size w (w1.alloc o)) := fun o => below_step hb ((Below.refl _ _).alloc (Nat.le_refl _) o)
  clear hb HN
  go_wp2
  go_ret2
  exact ⟨_, rfl, World.ownsRow_nil _ _ _ _, HB.out _⟩

theorem setP_side (v : Value) (q k n : Int) (w : World) {t : Tree} {qs : List Nat} {a : Nat} (h : Calls Try.prog 50 #[v, .int .i64 q, .int .i64 k] w (NearYes k t qs a w)) (hn : sideB n = false) : Calls Try.prog 20 #[v, .int .i64 q, .int .i64 k, .int .i64 n] w (Ans2 41 [] w) := by
  have HN : Hid (Calls Try.prog 50 #[v, .int .i64 q, .int .i64 k] w fun e w' => ∃ T g gg, e = .returned (.tuple #[.iface T (.pointer (some ⟨g, 0, none⟩)), .agg #[.pointer (some ⟨gg, 0, none⟩), .int .i64 a], .int .i64 0]) ∧ Below w.heap.size w w') := h.mono fun e w' h => by
    obtain ⟨T, g, fp, st, j, gg, b', ts', f', w1, he, hA, hnd, hge, hN, hbt, hb⟩ := h
    exact ⟨T, g, gg, he, hb⟩
  have HI : Hid (∀ W, Calls Try.prog 53 #[.int .i64 n] W fun e w' => e = .returned (.bool false) ∧ W = w') := fun W => hn ▸ isSide_any n W
  clear h hn
  go_enter Try.func20, Try.ntmps20
  go_wp2_with fail
  refine HN.out.mono ?_
  rintro e w1 ⟨T, g, gg, rfl, hb⟩
  have HB : Hid (∀ o, Below w.heap.size w (w1.alloc o)) := fun o => below_step hb ((Below.refl _ _).alloc (Nat.le_refl _) o)
  clear hb HN
  go_wp2_with fail
  refine (HI.out _).mono ?_
  rintro e w2 ⟨rfl, rfl⟩
  go_wp2
  go_ret2
  exact ⟨_, rfl, World.ownsRow_nil _ _ _ _, HB.out _⟩

set_option maxHeartbeats 2000000 in
theorem setP_ok0 (v : Value) (q k n : Int) (w : World) {t : Tree} {qs : List Nat} {a : Nat} {b : Box} {ts rs : List Tree} {c : Nat} {got : Int} {s : Tree} (h : Calls Try.prog 50 #[v, .int .i64 q, .int .i64 k] w (NearYes k t qs a w)) (hs : t.sound = true) (hk : t.kinds) (hz : t.size ≤ 200) (hsub : t.subAt qs = some (.split b k ts)) (hsa : ts[a]? = some s) (hn : 1 ≤ n ∧ n ≤ 1000) (E : Int) (hE : s.box.ext k = E) (hEb : 1 ≤ E ∧ E ≤ 1000) (hP : PushT k b ts a (n - E) rs c got) (hca : c = a) : Calls Try.prog 20 #[v, .int .i64 q, .int .i64 k, .int .i64 n] w (Ans2 0 (laidL (t.putAt qs (.split b k rs))) w) := by
  have HN : Hid (Calls Try.prog 50 #[v, .int .i64 q, .int .i64 k] w fun e w' => ∃ T g gg pg cap Ta ga, e = .returned (.tuple #[.iface T (.pointer (some ⟨g, 0, none⟩)), .agg #[.pointer (some ⟨gg, 0, none⟩), .int .i64 a], .int .i64 0]) ∧ (∀ X, (method 277 Ta (.pointer (some ⟨ga, 0, none⟩)) "mullion/layout.extent").run Try.prog X = .ok (25, .pointer (some ⟨ga, 0, none⟩)) X) ∧ (∀ X, (nilAhead 277 Ta (.pointer (some ⟨ga, 0, none⟩)) "mullion/layout.extent").run Try.prog X = .ok (some false) X) ∧ ∀ X, Below w'.heap.size w' X → X.cell? ⟨gg, 5, none⟩ = some (.slice (some ⟨pg, 0, none⟩) ts.length cap) ∧ X.cell? ⟨pg, a, none⟩ = some (.iface Ta (.pointer (some ⟨ga, 0, none⟩))) ∧ (Calls Try.prog 25 #[.pointer (some ⟨ga, 0, none⟩), .int .i64 k] X fun e w2 => e = .returned (.int .i64 E) ∧ X = w2) ∧ Calls Try.prog 51 #[.agg #[.pointer (some ⟨gg, 0, none⟩), .int .i64 a], .int .i64 (n - E)] X fun e w3 => (∃ mv, e = .returned (.int .i64 mv)) ∧ Calls Try.prog 29 #[.iface T (.pointer (some ⟨g, 0, none⟩))] w3 fun e w4 => ∃ u, e = .returned u ∧ CeOwns w4 w.heap.size u (laidL (t.putAt qs (.split b k rs))) ∧ Below w.heap.size w w4) := h.mono fun e w' h => by
    obtain ⟨T, g, fp, st, j, gg, b', ts', f', w1, he, hA, hnd, hge, hN, hbt, hb⟩ := h
    have hs' := hN.sub
    rw [hsub] at hs'
    cases hs'
    obtain ⟨pg, cap, Ta, ga, m1, m2, m3⟩ := near_part hge hN hbt hsa
    refine ⟨T, g, gg, pg, cap, Ta, ga, he, m1, m2, fun X hX => ⟨(m3 X hX).1, (m3 X hX).2.1, hE ▸ (m3 X hX).2.2 k, ?_⟩⟩
    exact (push_then hA hnd hge hN hbt hb hs hk hz hP (by omega) X hX).mono fun e w3 h => ⟨⟨_, h.1⟩, h.2⟩
  have hal : a < ts.length := (List.getElem?_eq_some_iff.1 hsa).1
  have h2 := hP.two
  have h9 := hP.max_
  have hcm := hP.mid
  obtain ⟨L, hL⟩ : ∃ L, ts.length = L := ⟨_, rfl⟩
  obtain ⟨LT, hLT⟩ : ∃ m, laidL (t.putAt qs (.split b k rs)) = m := ⟨_, rfl⟩
  rw [hL, hLT] at HN
  rw [hL] at hal h2 h9 hcm
  rw [hLT]
  have HI : Hid (∀ W, Calls Try.prog 53 #[.int .i64 n] W fun e w' => e = .returned (.bool true) ∧ W = w') := fun W => by
    have := isSide_any n W
    rw [show sideB n = true by simp [sideB, hn.1, hn.2]] at this
    exact this
  have hBd : ∀ gg pg cap X, X.cell? ⟨gg, 5, none⟩ = some (.slice (some ⟨pg, 0, none⟩) L cap) → Calls Try.prog 54 #[.agg #[.pointer (some ⟨gg, 0, none⟩), .int .i64 a]] X fun e w' => e = .returned (.int .i64 c) ∧ Below X.heap.size X w' := fun gg pg cap X h5 => by
    have h := border_any gg pg L cap a X h5 h2 (by omega) hal
    rw [← hcm] at h
    exact h
  have HBd : Hid (∀ gg pg cap X, X.cell? ⟨gg, 5, none⟩ = some (.slice (some ⟨pg, 0, none⟩) L cap) → Calls Try.prog 54 #[.agg #[.pointer (some ⟨gg, 0, none⟩), .int .i64 a]] X fun e w' => e = .returned (.int .i64 c) ∧ Below X.heap.size X w') := hBd
  have hw1 : IntKind.i64.wrap (n - E) = n - E := by rw [IntKind.wrap_i64]; omega

  have hac : ((a : Int) != (c : Int)) = false := by
    have : (a : Int) = (c : Int) := by omega
    simpa using this
  clear h hs hk hz hsub hsa hn hE hEb hP hca hL hLT h2 h9 hcm hBd
  go_enter Try.func20, Try.ntmps20
  go_wp2_with fail
  refine HN.out.mono ?_
  rintro e w1 ⟨T, g, gg, pg, cap, Ta, ga, rfl, m1, m2, hX⟩
  obtain ⟨Z, hZ⟩ : ∃ Z, w1.alloc (.cells #[.pointer (some ⟨gg, 0, none⟩), .int .i64 a] 87) = Z := ⟨_, rfl⟩
  have hbZ : Below w1.heap.size w1 Z := by rw [← hZ]; exact (Below.refl _ _).alloc (Nat.le_refl _) _
  have hM : Z.heap[w1.heap.size]? = some (.cells #[.pointer (some ⟨gg, 0, none⟩), .int .i64 a] 87 (0, 0)) := by rw [← hZ]; exact heap_alloc_new _ _
  have HC : Hid (∀ X, Below Z.heap.size Z X → X.cell? ⟨w1.heap.size, 0, none⟩ = some (.pointer (some ⟨gg, 0, none⟩)) ∧ X.cell? ⟨w1.heap.size, 1, none⟩ = some (.int .i64 a) ∧ X.cell? ⟨gg, 5, none⟩ = some (.slice (some ⟨pg, 0, none⟩) L cap) ∧ X.cell? ⟨pg, a, none⟩ = some (.iface Ta (.pointer (some ⟨ga, 0, none⟩)))) := fun X hB => by
    have h := (hB.block _ (lt_of_block hM)).trans hM
    have h2 := hX X (below_step hbZ hB)
    exact ⟨cell_atL h 0, cell_atL h 1, h2.1, h2.2.1⟩
  have HEx : Hid (∀ X, Below Z.heap.size Z X → Calls Try.prog 25 #[.pointer (some ⟨ga, 0, none⟩), .int .i64 k] X fun e w' => e = .returned (.int .i64 E) ∧ Below Z.heap.size Z w') := fun X hB => (hX X (below_step hbZ hB)).2.2.1.mono fun e w' h => ⟨h.1, h.2 ▸ hB⟩
  have HBo : Hid (∀ X, Below Z.heap.size Z X → Calls Try.prog 54 #[.agg #[.pointer (some ⟨gg, 0, none⟩), .int .i64 a]] X fun e w' => e = .returned (.int .i64 c) ∧ Below Z.heap.size Z w') := fun X hB => (HBd.out gg pg cap X (HC.out X hB).2.2.1).mono fun e w' h => ⟨h.1, below_step hB h.2⟩
  have HPu : Hid (∀ X, Below Z.heap.size Z X → Calls Try.prog 51 #[.agg #[.pointer (some ⟨gg, 0, none⟩), .int .i64 a], .int .i64 (n - E)] X fun e w3 => (∃ mv, e = .returned (.int .i64 mv)) ∧ Calls Try.prog 29 #[.iface T (.pointer (some ⟨g, 0, none⟩))] w3 fun e w4 => ∃ u, e = .returned u ∧ CeOwns w4 w.heap.size u LT ∧ Below w.heap.size w w4) := fun X hB => (hX X (below_step hbZ hB)).2.2.2
  have HZ : Hid (w1.alloc (.cells #[.pointer (some ⟨gg, 0, none⟩), .int .i64 a] 87) = Z) := hZ
  clear hX hbZ hM hZ HN HBd
  go_upto_region 2 with fail
  rw [HZ.out]
  go_wp2_with fail
  refine (HI.out _).mono ?_
  rintro e w2 ⟨rfl, rfl⟩
  go_wp2_with fail
  refine wp_region_qw (fun X => Below Z.heap.size Z X) (by kernel_rfl) (by kernel_rfl) (Below.refl _ _).drew ?_
  repeat (
    refine qw_take (v := ?_) (by rfl) (fun X hX => ?_) ?_
    rotate_left
    · obtain ⟨c0, c1, c5, cc⟩ := HC.out X hX
      go_simp
      all_goals first | with_reducible rfl | with_reducible exact HEx.out X hX
    intro K hK
    go_simp
    refine hK.out _ ?_
    clear hK K)
  refine qw_nil ?_
  intro w4 hB4
  go_wp2_with fail
  refine wp_region_qw (fun X => Below Z.heap.size Z X) (by kernel_rfl) (by kernel_rfl) hB4.drew ?_
  repeat (
    refine qw_take (v := ?_) (by rfl) (fun X hX => ?_) ?_
    rotate_left
    · obtain ⟨c0, c1, c5, cc⟩ := HC.out X hX
      go_simp
      all_goals first | with_reducible rfl | with_reducible exact HBo.out X hX
    intro K hK
    go_simp
    refine hK.out _ ?_
    clear hK K)
  refine qw_nil ?_
  intro w5 hB5
  obtain ⟨c0, c1, c5, cc⟩ := HC.out w5 hB5
  clear hB4
  have HB5 : Hid (Below Z.heap.size Z w5) := hB5
  clear hB5
  go_wp2_with fail
  refine (HPu.out w5 HB5.out).mono ?_
  rintro e w6 ⟨⟨mv, rfl⟩, hl⟩
  have HL2 : Hid (Calls Try.prog 29 #[.iface T (.pointer (some ⟨g, 0, none⟩))] w6 fun e w4 => ∃ u, e = .returned u ∧ CeOwns w4 w.heap.size u LT ∧ Below w.heap.size w w4) := hl
  clear hl HPu c0 c1 c5 cc
  go_wp2_with fail
  refine HL2.out.mono ?_
  rintro e w7 ⟨u, rfl, hu, hb7⟩
  have HU : Hid (CeOwns w7 w.heap.size u LT ∧ Below w.heap.size w w7) := ⟨hu, hb7⟩
  clear hu hb7 HL2
  go_wp2
  go_ret2
  exact ⟨u, rfl, HU.out.1, HU.out.2⟩

set_option maxHeartbeats 2000000 in
theorem setP_ok1 (v : Value) (q k n : Int) (w : World) {t : Tree} {qs : List Nat} {a : Nat} {b : Box} {ts rs : List Tree} {c : Nat} {got : Int} {s : Tree} (h : Calls Try.prog 50 #[v, .int .i64 q, .int .i64 k] w (NearYes k t qs a w)) (hs : t.sound = true) (hk : t.kinds) (hz : t.size ≤ 200) (hsub : t.subAt qs = some (.split b k ts)) (hsa : ts[a]? = some s) (hn : 1 ≤ n ∧ n ≤ 1000) (E : Int) (hE : s.box.ext k = E) (hEb : 1 ≤ E ∧ E ≤ 1000) (hP : PushT k b ts a (-(n - E)) rs c got) (hca : c ≠ a) : Calls Try.prog 20 #[v, .int .i64 q, .int .i64 k, .int .i64 n] w (Ans2 0 (laidL (t.putAt qs (.split b k rs))) w) := by
  have HN : Hid (Calls Try.prog 50 #[v, .int .i64 q, .int .i64 k] w fun e w' => ∃ T g gg pg cap Ta ga, e = .returned (.tuple #[.iface T (.pointer (some ⟨g, 0, none⟩)), .agg #[.pointer (some ⟨gg, 0, none⟩), .int .i64 a], .int .i64 0]) ∧ (∀ X, (method 277 Ta (.pointer (some ⟨ga, 0, none⟩)) "mullion/layout.extent").run Try.prog X = .ok (25, .pointer (some ⟨ga, 0, none⟩)) X) ∧ (∀ X, (nilAhead 277 Ta (.pointer (some ⟨ga, 0, none⟩)) "mullion/layout.extent").run Try.prog X = .ok (some false) X) ∧ ∀ X, Below w'.heap.size w' X → X.cell? ⟨gg, 5, none⟩ = some (.slice (some ⟨pg, 0, none⟩) ts.length cap) ∧ X.cell? ⟨pg, a, none⟩ = some (.iface Ta (.pointer (some ⟨ga, 0, none⟩))) ∧ (Calls Try.prog 25 #[.pointer (some ⟨ga, 0, none⟩), .int .i64 k] X fun e w2 => e = .returned (.int .i64 E) ∧ X = w2) ∧ Calls Try.prog 51 #[.agg #[.pointer (some ⟨gg, 0, none⟩), .int .i64 a], .int .i64 (-(n - E))] X fun e w3 => (∃ mv, e = .returned (.int .i64 mv)) ∧ Calls Try.prog 29 #[.iface T (.pointer (some ⟨g, 0, none⟩))] w3 fun e w4 => ∃ u, e = .returned u ∧ CeOwns w4 w.heap.size u (laidL (t.putAt qs (.split b k rs))) ∧ Below w.heap.size w w4) := h.mono fun e w' h => by
    obtain ⟨T, g, fp, st, j, gg, b', ts', f', w1, he, hA, hnd, hge, hN, hbt, hb⟩ := h
    have hs' := hN.sub
    rw [hsub] at hs'
    cases hs'
    obtain ⟨pg, cap, Ta, ga, m1, m2, m3⟩ := near_part hge hN hbt hsa
    refine ⟨T, g, gg, pg, cap, Ta, ga, he, m1, m2, fun X hX => ⟨(m3 X hX).1, (m3 X hX).2.1, hE ▸ (m3 X hX).2.2 k, ?_⟩⟩
    exact (push_then hA hnd hge hN hbt hb hs hk hz hP (by omega) X hX).mono fun e w3 h => ⟨⟨_, h.1⟩, h.2⟩
  have hal : a < ts.length := (List.getElem?_eq_some_iff.1 hsa).1
  have h2 := hP.two
  have h9 := hP.max_
  have hcm := hP.mid
  obtain ⟨L, hL⟩ : ∃ L, ts.length = L := ⟨_, rfl⟩
  obtain ⟨LT, hLT⟩ : ∃ m, laidL (t.putAt qs (.split b k rs)) = m := ⟨_, rfl⟩
  rw [hL, hLT] at HN
  rw [hL] at hal h2 h9 hcm
  rw [hLT]
  have HI : Hid (∀ W, Calls Try.prog 53 #[.int .i64 n] W fun e w' => e = .returned (.bool true) ∧ W = w') := fun W => by
    have := isSide_any n W
    rw [show sideB n = true by simp [sideB, hn.1, hn.2]] at this
    exact this
  have hBd : ∀ gg pg cap X, X.cell? ⟨gg, 5, none⟩ = some (.slice (some ⟨pg, 0, none⟩) L cap) → Calls Try.prog 54 #[.agg #[.pointer (some ⟨gg, 0, none⟩), .int .i64 a]] X fun e w' => e = .returned (.int .i64 c) ∧ Below X.heap.size X w' := fun gg pg cap X h5 => by
    have h := border_any gg pg L cap a X h5 h2 (by omega) hal
    rw [← hcm] at h
    exact h
  have HBd : Hid (∀ gg pg cap X, X.cell? ⟨gg, 5, none⟩ = some (.slice (some ⟨pg, 0, none⟩) L cap) → Calls Try.prog 54 #[.agg #[.pointer (some ⟨gg, 0, none⟩), .int .i64 a]] X fun e w' => e = .returned (.int .i64 c) ∧ Below X.heap.size X w') := hBd
  have hw1 : IntKind.i64.wrap (n - E) = n - E := by rw [IntKind.wrap_i64]; omega
  have hw2 : IntKind.i64.wrap (-(n - E)) = -(n - E) := by rw [IntKind.wrap_i64]; omega
  have hac : ((a : Int) != (c : Int)) = true := by
    have : (a : Int) ≠ (c : Int) := by omega
    simpa using this
  clear h hs hk hz hsub hsa hn hE hEb hP hca hL hLT h2 h9 hcm hBd
  go_enter Try.func20, Try.ntmps20
  go_wp2_with fail
  refine HN.out.mono ?_
  rintro e w1 ⟨T, g, gg, pg, cap, Ta, ga, rfl, m1, m2, hX⟩
  obtain ⟨Z, hZ⟩ : ∃ Z, w1.alloc (.cells #[.pointer (some ⟨gg, 0, none⟩), .int .i64 a] 87) = Z := ⟨_, rfl⟩
  have hbZ : Below w1.heap.size w1 Z := by rw [← hZ]; exact (Below.refl _ _).alloc (Nat.le_refl _) _
  have hM : Z.heap[w1.heap.size]? = some (.cells #[.pointer (some ⟨gg, 0, none⟩), .int .i64 a] 87 (0, 0)) := by rw [← hZ]; exact heap_alloc_new _ _
  have HC : Hid (∀ X, Below Z.heap.size Z X → X.cell? ⟨w1.heap.size, 0, none⟩ = some (.pointer (some ⟨gg, 0, none⟩)) ∧ X.cell? ⟨w1.heap.size, 1, none⟩ = some (.int .i64 a) ∧ X.cell? ⟨gg, 5, none⟩ = some (.slice (some ⟨pg, 0, none⟩) L cap) ∧ X.cell? ⟨pg, a, none⟩ = some (.iface Ta (.pointer (some ⟨ga, 0, none⟩)))) := fun X hB => by
    have h := (hB.block _ (lt_of_block hM)).trans hM
    have h2 := hX X (below_step hbZ hB)
    exact ⟨cell_atL h 0, cell_atL h 1, h2.1, h2.2.1⟩
  have HEx : Hid (∀ X, Below Z.heap.size Z X → Calls Try.prog 25 #[.pointer (some ⟨ga, 0, none⟩), .int .i64 k] X fun e w' => e = .returned (.int .i64 E) ∧ Below Z.heap.size Z w') := fun X hB => (hX X (below_step hbZ hB)).2.2.1.mono fun e w' h => ⟨h.1, h.2 ▸ hB⟩
  have HBo : Hid (∀ X, Below Z.heap.size Z X → Calls Try.prog 54 #[.agg #[.pointer (some ⟨gg, 0, none⟩), .int .i64 a]] X fun e w' => e = .returned (.int .i64 c) ∧ Below Z.heap.size Z w') := fun X hB => (HBd.out gg pg cap X (HC.out X hB).2.2.1).mono fun e w' h => ⟨h.1, below_step hB h.2⟩
  have HPu : Hid (∀ X, Below Z.heap.size Z X → Calls Try.prog 51 #[.agg #[.pointer (some ⟨gg, 0, none⟩), .int .i64 a], .int .i64 (-(n - E))] X fun e w3 => (∃ mv, e = .returned (.int .i64 mv)) ∧ Calls Try.prog 29 #[.iface T (.pointer (some ⟨g, 0, none⟩))] w3 fun e w4 => ∃ u, e = .returned u ∧ CeOwns w4 w.heap.size u LT ∧ Below w.heap.size w w4) := fun X hB => (hX X (below_step hbZ hB)).2.2.2
  have HZ : Hid (w1.alloc (.cells #[.pointer (some ⟨gg, 0, none⟩), .int .i64 a] 87) = Z) := hZ
  clear hX hbZ hM hZ HN HBd
  go_upto_region 2 with fail
  rw [HZ.out]
  go_wp2_with fail
  refine (HI.out _).mono ?_
  rintro e w2 ⟨rfl, rfl⟩
  go_wp2_with fail
  refine wp_region_qw (fun X => Below Z.heap.size Z X) (by kernel_rfl) (by kernel_rfl) (Below.refl _ _).drew ?_
  repeat (
    refine qw_take (v := ?_) (by rfl) (fun X hX => ?_) ?_
    rotate_left
    · obtain ⟨c0, c1, c5, cc⟩ := HC.out X hX
      go_simp
      all_goals first | with_reducible rfl | with_reducible exact HEx.out X hX
    intro K hK
    go_simp
    refine hK.out _ ?_
    clear hK K)
  refine qw_nil ?_
  intro w4 hB4
  go_wp2_with fail
  refine wp_region_qw (fun X => Below Z.heap.size Z X) (by kernel_rfl) (by kernel_rfl) hB4.drew ?_
  repeat (
    refine qw_take (v := ?_) (by rfl) (fun X hX => ?_) ?_
    rotate_left
    · obtain ⟨c0, c1, c5, cc⟩ := HC.out X hX
      go_simp
      all_goals first | with_reducible rfl | with_reducible exact HBo.out X hX
    intro K hK
    go_simp
    refine hK.out _ ?_
    clear hK K)
  refine qw_nil ?_
  intro w5 hB5
  obtain ⟨c0, c1, c5, cc⟩ := HC.out w5 hB5
  clear hB4
  have HB5 : Hid (Below Z.heap.size Z w5) := hB5
  clear hB5
  go_wp2_with fail
  refine (HPu.out w5 HB5.out).mono ?_
  rintro e w6 ⟨⟨mv, rfl⟩, hl⟩
  have HL2 : Hid (Calls Try.prog 29 #[.iface T (.pointer (some ⟨g, 0, none⟩))] w6 fun e w4 => ∃ u, e = .returned u ∧ CeOwns w4 w.heap.size u LT ∧ Below w.heap.size w w4) := hl
  clear hl HPu c0 c1 c5 cc
  go_wp2_with fail
  refine HL2.out.mono ?_
  rintro e w7 ⟨u, rfl, hu, hb7⟩
  have HU : Hid (CeOwns w7 w.heap.size u LT ∧ Below w.heap.size w w7) := ⟨hu, hb7⟩
  clear hu hb7 HL2
  go_wp2
  go_ret2
  exact ⟨u, rfl, HU.out.1, HU.out.2⟩

end Go.Proofs.Ytkaaadbfmbkjeaa

namespace Go.Proofs.Ytkaaadbfmbkjeaa
open Go.RowKit
set_option linter.unusedVariables false
set_option maxRecDepth 100000

theorem setR_err (v : Value) (q k n mv er : Int) (r : List CellV) (w : World) (h : Calls Try.prog 19 #[v, .int .i64 q, .int .i64 k, .int .i64 0] w (Ans3 mv er r w)) (h0 : er ≠ 0) : Calls Try.prog 21 #[v, .int .i64 q, .int .i64 k, .int .i64 n] w (Ans2 er [] w) := by
  have HN : Hid (Calls Try.prog 19 #[v, .int .i64 q, .int .i64 k, .int .i64 0] w (Ans3 mv er r w)) := h
  have h0' : (er != 0) = true := by simpa using h0
  clear h h0
  go_enter Try.func21, Try.ntmps21
  go_wp2_with fail
  refine HN.out.mono ?_
  rintro e w1 ⟨u, rfl, _, hb⟩
  have HB : Hid (Below w.heap.size w w1) := hb
  clear hb HN
  go_wp2
  go_ret2
  exact ⟨_, rfl, World.ownsRow_nil _ _ _ _, HB.out⟩

theorem setR_side (v : Value) (q k n mv : Int) (r : List CellV) (w : World) (h : Calls Try.prog 19 #[v, .int .i64 q, .int .i64 k, .int .i64 0] w (Ans3 mv 0 r w)) (hn : sideB n = false) : Calls Try.prog 21 #[v, .int .i64 q, .int .i64 k, .int .i64 n] w (Ans2 41 [] w) := by
  have HN : Hid (Calls Try.prog 19 #[v, .int .i64 q, .int .i64 k, .int .i64 0] w (Ans3 mv 0 r w)) := h
  have hn' : n < 1 ∨ (¬ n < 1 ∧ 1000 < n) := by
    by_cases e : n < 1
    · exact .inl e
    · refine .inr ⟨e, ?_⟩
      by_cases e2 : 1000 < n
      · exact e2
      · have h1 : 1 ≤ n := by omega
        have h2 : n ≤ 1000 := by omega
        simp [sideB, h1, h2] at hn
  clear h hn
  go_enter Try.func21, Try.ntmps21
  go_wp2_with fail
  refine HN.out.mono ?_
  rintro e w1 ⟨u, rfl, _, hb⟩
  have HB : Hid (Below w.heap.size w w1) := hb
  clear hb HN
  rcases hn' with h1 | ⟨h1, h2⟩
  · have d1 : decide (n < 1) = true := decide_eq_true h1
    go_wp2
    all_goals go_ret2
    all_goals exact ⟨_, rfl, World.ownsRow_nil _ _ _ _, HB.out⟩
  · have d1 : decide (n < 1) = false := decide_eq_false (by omega)
    have d2 : decide (1000 < n) = true := decide_eq_true h2
    go_wp2
    all_goals go_ret2
    all_goals exact ⟨_, rfl, World.ownsRow_nil _ _ _ _, HB.out⟩

set_option maxHeartbeats 2000000 in
theorem setR_ok (v : Value) (l : List CellV) (q k n mv : Int) (r : List CellV) (w : World) (hv : CellsIn w v l) (h : Calls Try.prog 19 #[v, .int .i64 q, .int .i64 k, .int .i64 0] w (Ans3 mv 0 r w)) (hn : 1 ≤ n ∧ n ≤ 1000) {t : Tree} (hF : readF l = some t) {s' : Tree} {mv' : Int} (hG : PuGood true n k q t s' mv' true) (hs : s'.sound = true) (hks : s'.kinds) (hz : s'.size ≤ 200) : Calls Try.prog 21 #[v, .int .i64 q, .int .i64 k, .int .i64 n] w (Ans2 0 (laidL s') w) := by
  have HN : Hid (Calls Try.prog 19 #[v, .int .i64 q, .int .i64 k, .int .i64 0] w (Ans3 mv 0 r w)) := h
  have HT : Hid (∀ X, Below w.heap.size w X → Calls Try.prog 33 #[v] X (TreeYes t X)) := fun X hX => tree_yes v l X (hv.below hX) hF
  obtain ⟨nt, hnt⟩ : ∃ x, nodeOf s' = x := ⟨_, rfl⟩
  have HG : Hid (PuGood true n k q t s' mv' true) := hG
  have HNt : Hid (nodeOf s' = nt) := hnt
  obtain ⟨LT, hLT⟩ : ∃ x, laidL s' = x := ⟨_, rfl⟩
  have HLi : Hid (∀ X ta tn tc fp', (nodeOf s').In X (.slice ta tn tc) fp' → Calls Try.prog 39 #[.agg #[.int .i64 nt.k, .int .i64 nt.w, .int .i64 nt.h, .int .i64 nt.i, .slice ta tn tc]] X fun e w' => ∃ u, e = .returned u ∧ CeOwns w' X.heap.size u LT ∧ Below X.heap.size X w') := fun X ta tn tc fp' hX => by
    have := list_end hs hks hz hX
    rw [hnt, hLT] at this
    exact this
  rw [hLT]
  have d1 : decide (n < 1) = false := decide_eq_false (by omega)
  have d2 : decide (1000 < n) = false := decide_eq_false (by omega)
  clear h hv hF hG hs hks hz hnt hLT hn
  go_enter Try.func21, Try.ntmps21
  go_wp2_with fail
  refine HN.out.mono ?_
  rintro e w0 ⟨u, rfl, _, hb0⟩
  have HB0 : Hid (Below w.heap.size w w0) := hb0
  clear hb0 HN
  go_wp2_with fail
  refine (HT.out w0 HB0.out).mono ?_
  rintro e w1 ⟨sa, sn, sc, fp, rfl, hIn, hb⟩
  obtain ⟨W, hW⟩ : ∃ W, w1.alloc (.cells #[.int .i64 (nodeOf t).k, .int .i64 (nodeOf t).w, .int .i64 (nodeOf t).h, .int .i64 (nodeOf t).i, .slice sa sn sc] 73) = W := ⟨_, rfl⟩
  have hbW : Below w1.heap.size w1 W := by rw [← hW]; exact (Below.refl _ _).alloc (Nat.le_refl _) _
  have HBW : Hid (Below w.heap.size w W) := below_step (below_step HB0.out hb) hbW
  have hM : W.heap[w1.heap.size]? = some (.cells #[.int .i64 (nodeOf t).k, .int .i64 (nodeOf t).w, .int .i64 (nodeOf t).h, .int .i64 (nodeOf t).i, .slice sa sn sc] 73 (0, 0)) := by rw [← hW]; exact heap_alloc_new _ _
  have HW : Hid (w1.alloc (.cells #[.int .i64 (nodeOf t).k, .int .i64 (nodeOf t).w, .int .i64 (nodeOf t).h, .int .i64 (nodeOf t).i, .slice sa sn sc] 73) = W) := hW
  have HPu : Hid (Calls Try.prog 52 #[.agg #[.int .i64 (nodeOf t).k, .int .i64 (nodeOf t).w, .int .i64 (nodeOf t).h, .int .i64 (nodeOf t).i, .slice sa sn sc], .int .i64 q, .int .i64 k, .int .i64 n, .bool true] W fun e w' => ∃ ta tn tc fp', e = .returned (.tuple #[.agg (nodeV nt (.slice ta tn tc)), .int .i64 mv', .bool true]) ∧ (nodeOf s').In w' (.slice ta tn tc) fp' ∧ Below W.heap.size W w') := by
    refine (HG.out _ fp W (hIn.below hbW)).mono ?_
    rintro e w' ⟨ta, tn, tc, fp', rfl, e1, e2, e3⟩
    exact ⟨ta, tn, tc, fp', by rw [HNt.out], e1, e3⟩
  obtain ⟨nn, hnn⟩ : ∃ x, nodeOf t = x := ⟨_, rfl⟩
  rw [hnn] at HW HPu hM ⊢
  unfold nodeV
  have m0 := cell_atL hM 0
  have m1 := cell_atL hM 1
  have m2 := cell_atL hM 2
  have m3 := cell_atL hM 3
  have m4 := cell_atL hM 4
  clear hb hIn hbW hM hW hnn HT
  go_upto_region 7 with fail
  rw [HW.out]
  go_wp2_with fail
  refine HPu.out.mono ?_
  rintro e w4 ⟨ta, tn, tc, fp', rfl, hIn', hb4⟩
  unfold nodeV
  clear m0 m1 m2 m3 m4
  obtain ⟨Z, hZ⟩ : ∃ Z, w4.alloc (.cells #[.int .i64 nt.k, .int .i64 nt.w, .int .i64 nt.h, .int .i64 nt.i, .slice ta tn tc] 73) = Z := ⟨_, rfl⟩
  have hbZ : Below w4.heap.size w4 Z := by rw [← hZ]; exact (Below.refl _ _).alloc (Nat.le_refl _) _
  have hMZ : Z.heap[w4.heap.size]? = some (.cells #[.int .i64 nt.k, .int .i64 nt.w, .int .i64 nt.h, .int .i64 nt.i, .slice ta tn tc] 73 (0, 0)) := by rw [← hZ]; exact heap_alloc_new _ _
  have HL2 : Hid (Calls Try.prog 39 #[.agg #[.int .i64 nt.k, .int .i64 nt.w, .int .i64 nt.h, .int .i64 nt.i, .slice ta tn tc]] Z fun e w' => ∃ u, e = .returned u ∧ CeOwns w' w.heap.size u LT ∧ Below w.heap.size w w') := by
    have hwZ := below_step (below_step HBW.out hb4) hbZ
    refine (HLi.out Z ta tn tc fp' (hIn'.below hbZ)).mono ?_
    rintro e w' ⟨u, rfl, h1, h2⟩
    exact ⟨u, rfl, h1.lower hwZ.size, below_step hwZ h2⟩
  have z0 := cell_atL hMZ 0
  have z1 := cell_atL hMZ 1
  have z2 := cell_atL hMZ 2
  have z3 := cell_atL hMZ 3
  have z4 := cell_atL hMZ 4
  have HZ : Hid (w4.alloc (.cells #[.int .i64 nt.k, .int .i64 nt.w, .int .i64 nt.h, .int .i64 nt.i, .slice ta tn tc] 73) = Z) := hZ
  clear hb4 hIn' hbZ hMZ hZ
  go_upto_region 8 with fail
  rw [HZ.out]
  go_wp2_with fail
  refine HL2.out.mono ?_
  rintro e w5 ⟨u5, rfl, h5, hb5⟩
  have H5 : Hid (CeOwns w5 w.heap.size u5 LT ∧ Below w.heap.size w w5) := ⟨h5, hb5⟩
  clear h5 hb5 z0 z1 z2 z3 z4
  go_wp2
  go_ret2
  exact ⟨u5, rfl, H5.out.1, H5.out.2⟩

end Go.Proofs.Ytkaaadbfmbkjeaa

namespace Go.Proofs.Ytkaaadbfmbkjeaa
open Go.RowKit
set_option linter.unusedVariables false
set_option maxRecDepth 100000

theorem set_any (l : List CellV) (q k n : Int) : ∃ er r, (r : List CellV).length ≤ 200 ∧ (∀ v X, CellsIn X v l → Calls Try.prog 20 #[v, .int .i64 q, .int .i64 k, .int .i64 n] X (Ans2 er r X)) ∧ (∀ v X, CellsIn X v l → Calls Try.prog 21 #[v, .int .i64 q, .int .i64 k, .int .i64 n] X (Ans2 er r X)) := by
  cases hF : readF l with
  | none => exact ⟨40, [], by simp, fun v X h => setP_err v q k n 40 X (near_none v l q k X h hF) (by decide), fun v X h => setR_err v q k n 0 40 [] X (pushR_none v l q k 0 X h hF) (by decide)⟩
  | some t =>
    have hl := readF_lay hF
    have hz := lay_size hl
    by_cases hk : k = 2 ∨ k = 3
    · cases hp : t.path q with
      | none => exact ⟨42, [], by simp, fun v X h => setP_err v q k n 42 X (near_pane v l q k X h hF hk hp) (by decide), fun v X h => setR_err v q k n 0 42 [] X (pushR_pane v l q k 0 X h hF hk hp) (by decide)⟩
      | some ps =>
        have hpl := path_len t q ps hp
        cases hn' : nearF k t ps with
        | none =>
          have hpu := pu_none false (max (-1000) (min 0 1000)) k ps t q hp hn'
          exact ⟨47, [], by simp, fun v X h => setP_err v q k n 47 X (near_alone v l q k X h hF hk ps hp (by omega) hn') (by decide), fun v X h => setR_err v q k n 0 47 [] X (pushR_alone v l q k 0 X h hF hk hp (pushed_any hpu hp hl.sound hl.kinds (by omega) (fun e => by cases e))) (by decide)⟩
        | some r =>
          obtain ⟨qs, a⟩ := r
          obtain ⟨b, ts, hsub, ha⟩ := near_sub k ps t qs a hn'
          obtain ⟨s1, s2, s3⟩ := sub_sound qs t _ hsub hl.sound hl.kinds
          obtain ⟨s, hs⟩ : ∃ s, ts[a]? = some s := ⟨_, List.getElem?_eq_getElem ha⟩
          have hR0 : ∃ mv r, ∀ v X, CellsIn X v l → Calls Try.prog 19 #[v, .int .i64 q, .int .i64 k, .int .i64 0] X (Ans3 mv 0 r X) := by
            obtain ⟨rs, c, got, hT, hG, _⟩ := push_both b k ts a 0 s1 s2 (by omega) ha
            obtain ⟨hM, hmv⟩ := push_moved k ts 0 rs c got hG
            have hM' : Moved k ts (byOf false (max (-1000) (min 0 1000)) k ts a s) rs c got := by
              unfold byOf
              rw [if_neg (by decide)]
              exact hM
            have hpu := pu_some false (max (-1000) (min 0 1000)) k ps t q qs a b ts s rs c got hp hn' hsub hs hT.mid hM'
            have hsm := put_same qs t _ _ hsub (same_split b k ts rs hT.same)
            have hz2 : (t.putAt qs (.split b k rs)).size = t.size := hsm.size
            exact ⟨_, _, fun v X h => pushR_ok v l q k 0 X h hF hk hp (pushed_any hpu hp hl.sound hl.kinds (by omega) (fun e => by cases e)) (hsm.sound hl.sound) (hsm.kinds hl.kinds) (by omega)⟩
          obtain ⟨mv0, r0, hR0⟩ := hR0
          cases hsd : sideB n with
          | false => exact ⟨41, [], by simp, fun v X h => setP_side v q k n X (near_found v l q k X h hF hk ps hp (by omega) qs a hn') hsd, fun v X h => setR_side v q k n mv0 r0 X (hR0 v X h) hsd⟩
          | true =>
            have hnb : 1 ≤ n ∧ n ≤ 1000 := by
              simp only [sideB, Bool.and_eq_true, decide_eq_true_eq] at hsd
              exact hsd
            obtain ⟨E, hE⟩ : ∃ x, s.box.ext k = x := ⟨_, rfl⟩
            have hEb : 1 ≤ E ∧ E ≤ 1000 := by
              have hs1 := s1
              unfold Tree.sound at hs1
              simp only [Bool.and_eq_true, decide_eq_true_eq] at hs1
              have hx := soundAll_at ts b k a s hs hs1.2.1
              simp only [Bool.and_eq_true, decide_eq_true_eq] at hx
              have h := sides_ext s.box k (s.sound_sides hx.1)
              rw [hE] at h
              omega
            obtain ⟨m, hm⟩ : ∃ m, byOf true n k ts a s = m := ⟨_, rfl⟩
            have hmb : -1000 ≤ m ∧ m ≤ 1000 := by
              rw [← hm]
              unfold byOf
              rw [if_pos rfl, hE]
              split <;> omega
            obtain ⟨rs, c, got, hT, hG, _⟩ := push_both b k ts a m s1 s2 (by omega) ha
            obtain ⟨hM, hmv⟩ := push_moved k ts m rs c got hG
            rw [show max (-1000) (min m 1000) = m by omega] at hM
            have hpu := pu_some true n k ps t q qs a b ts s rs c got hp hn' hsub hs hT.mid (hm ▸ hM)
            have hsm := put_same qs t _ _ hsub (same_split b k ts rs hT.same)
            have hz2 : (t.putAt qs (.split b k rs)).size = t.size := hsm.size
            refine ⟨0, laidL (t.putAt qs (.split b k rs)), ?_, fun v X h => ?_, fun v X h => setR_ok v l q k n mv0 r0 X h (hR0 v X h) hnb hF (pushed_any hpu hp hl.sound hl.kinds (by omega) (fun _ => hnb)) (hsm.sound hl.sound) (hsm.kinds hl.kinds) (by omega)⟩
            · rw [laidP_len]
              omega
            · have hmid := hT.mid
              by_cases hca : c = a
              · have e : m = n - E := by
                  rw [← hm, ← hE]
                  unfold byOf
                  rw [if_pos rfl, if_pos (by omega)]
                rw [e] at hT
                exact setP_ok0 v q k n X (near_found v l q k X h hF hk ps hp (by omega) qs a hn') hl.sound hl.kinds (by omega) hsub hs hnb E hE hEb hT hca
              · have e : m = -(n - E) := by
                  rw [← hm, ← hE]
                  unfold byOf
                  rw [if_pos rfl, if_neg (by omega)]
                rw [e] at hT
                exact setP_ok1 v q k n X (near_found v l q k X h hF hk ps hp (by omega) qs a hn') hl.sound hl.kinds (by omega) hsub hs hnb E hE hEb hT hca
    · exact ⟨1, [], by simp, fun v X h => setP_err v q k n 1 X (near_arg v l q k X h hF hk) (by decide), fun v X h => setR_err v q k n 0 1 [] X (pushR_arg v l q k 0 X h hF hk) (by decide)⟩

set_option maxHeartbeats 1000000 in
theorem sets_walk (v : Value) (l : List CellV) (pane k z : Int) (bf : Bool) (id : Int) (w : World) (hv : CellsIn w v l) (hnil : v = .slice none 0 0 ∨ ∃ a n c, v = .slice (some a) n c) (hlen : l.length * 56 ≤ 140737488351232) : Calls Try.prog 7 #[v, .agg #[.int .i64 pane, .int .i64 k, .int .i64 z, .bool bf, .int .i64 id]] w fun x w' => x = .returned (.bool true) ∧ Below w.heap.size w w' := by
  obtain ⟨W, hW⟩ : ∃ W, w.alloc (.cells #[.int .i64 pane, .int .i64 k, .int .i64 z, .bool bf, .int .i64 id] 24) = W := ⟨_, rfl⟩
  have hbW : Below w.heap.size w W := by rw [← hW]; exact (Below.refl _ _).alloc (Nat.le_refl _) _
  have hM : W.heap[w.heap.size]? = some (.cells #[.int .i64 pane, .int .i64 k, .int .i64 z, .bool bf, .int .i64 id] 24 (0, 0)) := by rw [← hW]; exact heap_alloc_new _ _
  have HC5 : Hid (∀ X, Below W.heap.size W X → X.cell? ⟨w.heap.size, 0, none⟩ = some (.int .i64 pane) ∧ X.cell? ⟨w.heap.size, 1, none⟩ = some (.int .i64 k) ∧ X.cell? ⟨w.heap.size, 2, none⟩ = some (.int .i64 z)) := fun X hX => by
    have h := (hX.block _ (lt_of_block hM)).trans hM
    exact ⟨cell_atL h 0, cell_atL h 1, cell_atL h 2⟩
  have hvW := hv.below hbW
  have HW0 : Hid (w.alloc (.cells #[.int .i64 pane, .int .i64 k, .int .i64 z, .bool bf, .int .i64 id] 24) = W) := hW
  have HBW : Hid (Below w.heap.size w W) := hbW
  have HTw : Hid (Calls Try.prog 8 #[v] W fun e w' => ∃ g cap, e = .returned (.slice (some ⟨g, 0, none⟩) l.length cap) ∧ TwinAt w' g cap l ∧ W.heap.size ≤ g ∧ Below W.heap.size W w') := twin_any v l W hvW hnil hlen
  obtain ⟨er, r, hrl, hPa, hRa⟩ := set_any l pane k z
  have HP : Hid (∀ u X, CellsIn X u l → Calls Try.prog 20 #[u, .int .i64 pane, .int .i64 k, .int .i64 z] X fun x w' => ∃ q, x = .returned (.tuple #[q, .int .i64 er]) ∧ CeOwns w' X.heap.size q r ∧ Below X.heap.size X w') := hPa
  have HR : Hid (∀ X, Below W.heap.size W X → Calls Try.prog 21 #[v, .int .i64 pane, .int .i64 k, .int .i64 z] X fun x w' => ∃ q, x = .returned (.tuple #[q, .int .i64 er]) ∧ CeOwns w' X.heap.size q r ∧ Below X.heap.size X w') := fun X hX => hRa v X (hvW.below hX)
  have HWo : Hid (∀ W, Calls Try.prog 11 #[] W fun e w' => e = .returned (.bool true) ∧ Below W.heap.size W w') := works_true
  have HK : Hid (∀ g cap X, TwinAt X g cap l → Below W.heap.size W X → Calls Try.prog 13 #[.slice (some ⟨g, 0, none⟩) l.length cap, v] X fun e w' => e = .returned (.bool true) ∧ Below X.heap.size X w') := fun g cap X hT hX => kept_any v g cap l X hT (hvW.below hX) hlen
  have HS : Hid (∀ u v W, CellsIn W u r → CellsIn W v r → Calls Try.prog 12 #[u, v] W fun e w' => e = .returned (.bool true) ∧ Below W.heap.size W w') := fun u v W h1 h2 => by
    have := law_any u v _ _ W h1 h2 (by omega)
    rw [decide_eq_true rfl] at this
    exact this
  obtain ⟨L, hL⟩ : ∃ L, l.length = L := ⟨_, rfl⟩
  rw [hL] at HTw HK
  have HL : Hid (l.length = L) := hL
  clear hv hnil hlen hL hrl hPa hRa hW hbW hM hvW
  go_enter Try.func7, Try.ntmps7
  go_upto_region 1 with fail
  rw [HW0.out]
  go_wp2_with fail
  refine HTw.out.mono ?_
  rintro x w1 ⟨g, cap, rfl, hT, _, hb1⟩
  have H1 : Hid (TwinAt w1 g cap l ∧ Below W.heap.size W w1) := ⟨hT, hb1⟩
  have HP1 : Hid (Calls Try.prog 20 #[.slice (some ⟨g, 0, none⟩) L cap, .int .i64 pane, .int .i64 k, .int .i64 z] w1 fun x w' => ∃ q, x = .returned (.tuple #[q, .int .i64 er]) ∧ CeOwns w' w1.heap.size q r ∧ Below w1.heap.size w1 w') := HP.out _ w1 (by have := hT.cellsIn; rw [HL.out] at this; exact this)
  obtain ⟨c0, c1, c2⟩ := HC5.out w1 hb1
  clear hT hb1 HTw HP
  go_wp2_with fail
  refine HP1.out.mono ?_
  rintro x w2 ⟨q, rfl, hq, hb2⟩
  have H2 : Hid (TwinAt w2 g cap l ∧ Below W.heap.size W w2 ∧ CellsIn w2 q r) := ⟨H1.out.1.below hb2, below_step H1.out.2 hb2, hq.cellsIn⟩
  clear hb2 H1 HP1 hq c0 c1 c2
  obtain ⟨c0, c1, c2⟩ := HC5.out w2 H2.out.2.1
  go_wp2_with fail
  refine (HR.out _ H2.out.2.1).mono ?_
  rintro x w3 ⟨q', rfl, hq', hb3⟩
  have H3 : Hid (TwinAt w3 g cap l ∧ Below W.heap.size W w3 ∧ CellsIn w3 q r ∧ CellsIn w3 q' r) := ⟨H2.out.1.below hb3, below_step H2.out.2.1 hb3, H2.out.2.2.below hb3, hq'.cellsIn⟩
  clear hb3 H2 HR hq' c0 c1 c2
  go_wp2_with fail
  refine (HWo.out _).mono ?_
  rintro x w4 ⟨rfl, hb4⟩
  have H4 : Hid (TwinAt w4 g cap l ∧ Below W.heap.size W w4 ∧ CellsIn w4 q r ∧ CellsIn w4 q' r) := ⟨H3.out.1.below hb4, below_step H3.out.2.1 hb4, H3.out.2.2.1.below hb4, H3.out.2.2.2.below hb4⟩
  clear hb4 H3 HWo
  go_wp2_with fail
  refine (HS.out _ _ _ H4.out.2.2.1 H4.out.2.2.2).mono ?_
  rintro x w5 ⟨rfl, hb5⟩
  have H5 : Hid (TwinAt w5 g cap l ∧ Below W.heap.size W w5) := ⟨H4.out.1.below hb5, below_step H4.out.2.1 hb5⟩
  clear hb5 H4 HS
  go_wp2_with fail
  refine (HK.out _ _ _ H5.out.1 H5.out.2).mono ?_
  rintro x w6 ⟨rfl, hb6⟩
  have H6 : Hid (Below w.heap.size w w6) := below_step HBW.out (below_step H5.out.2 hb6)
  clear hb6 H5
  go_wp2
  go_ret
  exact ⟨rfl, H6.out⟩

end Go.Proofs.Ytkaaadbfmbkjeaa
