/-
  Layouts: Full in the program.
  Layouts: Full in the program, walked.
  Layouts: Full in the program, where there is room.
-/
import Derived.Test.YtnepemlagnnngaaCFj
import Derived.Test.YtnepemlagnnngaaCFi
namespace Go.Proofs.Ytnepemlagnnngaa
open Go.RowKit
set_option linter.unusedVariables false
set_option maxRecDepth 100000

theorem grown_below {w w' : World} {g : Nat} (h : w.grownBy w' (some g)) : But [g] w w' := But.grown h
/-- What is left to do when the whole was stretched: the new pane, the join, the list. -/
theorem full_end {w w5 : World} {v : Value} {fp : List Nat} {l : List CellV} {t t1 : Tree} {k z n id : Int} {bf : Bool} (hF : Fulled l t t1 k z n id bf) (hA : t1.At w5 0 v fp) (hnd : fp.Nodup) (hge : ∀ q ∈ fp, w.heap.size ≤ q) (hb : Below w.heap.size w w5) :
    Calls Try.prog 33 #[.int .i64 k, .slice (some ⟨w5.heap.size + 1, 0, none⟩) 2 2] ((w5.alloc (.cells (leafV (fullB t k n) id) 68)).alloc (.cells (if bf then #[leafI w5.heap.size, v] else #[v, leafI w5.heap.size]) 56)) fun e w' => e = .returned (.pointer (some ⟨w5.heap.size + 1 + 1, 0, none⟩)) ∧ Calls Try.prog 31 #[splitI (w5.heap.size + 1 + 1)] w' fun e w'' => ∃ u, e = .returned u ∧ CeOwns w'' w.heap.size u (laidL (besideT k bf t1 (.leaf (fullB t k n) id))) ∧ Below w.heap.size w w'' := by
  have hB := hF.beside
  have hz := lay_size hF.lay
  have hz1 := hF.z1
  obtain ⟨lf, hlf⟩ : ∃ x, Tree.leaf (fullB t k n) id = x := ⟨_, rfl⟩
  obtain ⟨A, hAo⟩ : ∃ o, Obj.cells (leafV (fullB t k n) id) 68 = o := ⟨_, rfl⟩
  obtain ⟨C, hC⟩ : ∃ o, Obj.cells (if bf then #[leafI w5.heap.size, v] else #[v, leafI w5.heap.size]) 56 = o := ⟨_, rfl⟩
  have s1 : (w5.alloc A).heap.size = w5.heap.size + 1 := by simp
  have s2 : ((w5.alloc A).alloc C).heap.size = w5.heap.size + 1 + 1 := by simp
  have b1 : Below w5.heap.size w5 (w5.alloc A) := (Below.refl _ _).alloc (Nat.le_refl _) _
  have b2 : Below w5.heap.size w5 ((w5.alloc A).alloc C) := b1.alloc (by omega) _
  rw [hAo, hC]
  obtain ⟨W, hW⟩ : ∃ W, (w5.alloc A).alloc C = W := ⟨_, rfl⟩
  rw [hW] at s2 b2 ⊢
  have hleaf : LeafAt W w5.heap.size (fullB t k n) id := by
    rw [← hW, LeafAt, hAo]
    exact (Below.heap_alloc _ _ _ (by omega)).trans (heap_alloc_new _ _)
  have hrow : ∀ (i : Nat) u, (if bf then [leafI w5.heap.size, v] else [v, leafI w5.heap.size])[i]? = some u → W.cell? ⟨w5.heap.size + 1, i, none⟩ = some u := by
    intro i u hu
    have h := heap_alloc_new (w5.alloc A) C
    rw [s1, hW, ← hC] at h
    rw [cell_atL h]
    cases bf <;> simpa using hu
  have hAW := hA.below b2
  have hLW : (Tree.leaf (fullB t k n) id).At W 0 (leafI w5.heap.size) [w5.heap.size] := ⟨_, rfl, hleaf, rfl⟩
  have hfin1 : t1.fine := kinds_fine t1 hF.k1 (by omega)
  obtain ⟨u, f, hu, hpu, hsub⟩ := flat_of (k := k) hAW hfin1 hF.s1
  have hlS : lf.sound = true := by
    rw [← hlf]
    exact (soundAll_in (aroundB (besideL k bf t1 (.leaf (fullB t k n) id)) k) k _ (by
      have := hB.sound
      unfold besideT Tree.sound at this
      simp only [Bool.and_eq_true, decide_eq_true_eq] at this
      exact this.2.1) (.leaf (fullB t k n) id) (by unfold besideL; cases bf <;> simp)).1
  obtain ⟨u2, f2, hu2, hpu2, _⟩ := flat_of (k := k) (t := .leaf (fullB t k n) id) hLW trivial (by rw [hlf]; exact hlS)
  have hu2e : u2 = [leafI w5.heap.size] := hu2.no rfl
  subst hu2e
  have hf2 : f2 = [w5.heap.size] := by
    obtain ⟨v', vs', f', f'', e, ⟨g, e1, _, e2⟩, ⟨e4, e5⟩, e6⟩ := hpu2
    rw [e6, e2, e5]
    cases e
    cases e1
    rfl
  subst hf2
  have happ : ∀ {ps bs : List Tree} {xs ys : List Value} {fs gs : List Nat}, partsAt W 0 ps xs fs → partsAt W 0 bs ys gs → partsAt W 0 (ps ++ bs) (xs ++ ys) (fs ++ gs) := by
    intro ps
    induction ps with
    | nil =>
      intro bs xs ys fs gs h1 h2
      obtain ⟨rfl, rfl⟩ := h1
      exact h2
    | cons a ps ih =>
      intro bs xs ys fs gs h1 h2
      obtain ⟨v, vs', f, f', rfl, h3, h4, rfl⟩ := h1
      exact ⟨v, vs' ++ ys, f, f' ++ gs, rfl, h3, ih h4 h2, by rw [List.append_assoc]⟩
  have hlt5 : ∀ q ∈ f, q < w5.heap.size := fun q hq => hA.lt q (hsub.subset hq)
  have hparts : ∃ fs, partsAt W 0 (besideL k bf t1 (.leaf (fullB t k n) id)) (if bf then [[leafI w5.heap.size], u] else [u, [leafI w5.heap.size]]).flatten fs ∧ fs.Nodup ∧ (∀ q ∈ fs, q ≤ w5.heap.size ∧ w.heap.size ≤ q) := by
    have hfn : f.Nodup := hsub.nodup hnd
    have hw5 : w.heap.size ≤ w5.heap.size := hb.size
    cases bf with
    | true =>
      refine ⟨[w5.heap.size] ++ f, ?_, ?_, ?_⟩
      · show partsAt W 0 ([.leaf (fullB t k n) id] ++ flatT k t1) ([[leafI w5.heap.size], u]).flatten _
        have := happ (ps := [.leaf (fullB t k n) id]) (xs := [leafI w5.heap.size]) hpu2 hpu
        simpa using this
      · refine List.nodup_cons.2 ⟨fun h => ?_, hfn⟩
        have := hlt5 _ h
        omega
      · intro q hq
        rcases List.mem_append.1 hq with h | h
        · have : q = w5.heap.size := by simpa using h
          omega
        · have h1 := hlt5 q h
          have h2 := hge q (hsub.subset h)
          omega
    | false =>
      refine ⟨f ++ [w5.heap.size], ?_, ?_, ?_⟩
      · show partsAt W 0 (flatT k t1 ++ [.leaf (fullB t k n) id]) ([u, [leafI w5.heap.size]]).flatten _
        have := happ hpu (bs := [.leaf (fullB t k n) id]) (ys := [leafI w5.heap.size]) hpu2
        simpa using this
      · refine List.nodup_append.2 ⟨hfn, by simp, fun a ha b hb' e => ?_⟩
        have h1 := hlt5 a ha
        have : b = w5.heap.size := by simpa using hb'
        omega
      · intro q hq
        rcases List.mem_append.1 hq with h | h
        · have h1 := hlt5 q h
          have h2 := hge q (hsub.subset h)
          omega
        · have : q = w5.heap.size := by simpa using h
          omega
  obtain ⟨fs, hP, hfsn, hfsr⟩ := hparts
  have hne := hB.ne
  obtain ⟨c, cs, hcs⟩ : ∃ c cs, besideL k bf t1 (.leaf (fullB t k n) id) = c :: cs := by
    cases h : besideL k bf t1 (.leaf (fullB t k n) id) with
    | nil => exact absurd h hne
    | cons c cs => exact ⟨c, cs, rfl⟩
  have hsm := hB.small
  have hj := join_flat k hF.kind (w5.heap.size + 1) 2 2 (if bf then [leafI w5.heap.size, v] else [v, leafI w5.heap.size]) (if bf then [[leafI w5.heap.size], u] else [u, [leafI w5.heap.size]]) fs (if bf then [.leaf (fullB t k n) id, t1] else [t1, .leaf (fullB t k n) id]) c cs W hrow (by
    intro i x hx
    cases bf with
    | true =>
      match i, hx with
      | 0, hx => cases hx; exact ⟨_, _, rfl, rfl, hu2⟩
      | 1, hx => cases hx; exact ⟨_, _, rfl, rfl, hu⟩
    | false =>
      match i, hx with
      | 0, hx => cases hx; exact ⟨_, _, rfl, rfl, hu⟩
      | 1, hx => cases hx; exact ⟨_, _, rfl, rfl, hu2⟩) (by rw [← hcs]; exact hP) (by rw [← hcs]; exact hsm) (by cases bf <;> rfl) (by cases bf <;> rfl) (by decide)
  rw [s2] at hj
  refine hj.mono ?_
  rintro e w' ⟨sl, he, hS, hO, hbw⟩
  refine ⟨he, ?_⟩
  have hb5 : Below w.heap.size w w' := below_step (below_step hb b2) (hbw.mono (by omega))
  rw [← hcs] at hS
  have hbw' : Below W.heap.size W w' := hbw.mono (by omega)
  have hAt : (besideT k bf t1 (.leaf (fullB t k n) id)).At w' 0 (splitI (w5.heap.size + 1 + 1)) ((w5.heap.size + 1 + 1) :: (sl.ownBlock.toList ++ fs)) := by
    refine ⟨w5.heap.size + 1 + 1, sl, _, fs, rfl, hS, ?_, hP.below hbw', rfl⟩
    rcases hO with ⟨a, b | ⟨g, cap, cur, e, _, c⟩⟩
    · exact ⟨a, .inl b⟩
    · exact ⟨a, .inr ⟨g, cap, cur, e, Nat.zero_le _, c⟩⟩
  have hown : ∀ q ∈ sl.ownBlock.toList, w5.heap.size + 1 + 1 + 1 ≤ q := fun q hq => (World.ownsRow.lt hO q (by simpa using hq)).1
  refine lay_end hb5 (But.refl _ _) (fun q hq => ?_) ?_ hAt hB.sound hB.kinds (by have := hB.size; omega)
  · have := hb.size
    rcases List.mem_cons.1 hq with h | h
    · omega
    · rcases List.mem_append.1 h with h | h
      · have := hown q h
        omega
      · exact (hfsr q h).2
  · refine List.nodup_cons.2 ⟨fun h => ?_, List.nodup_append.2 ⟨?_, hfsn, fun a ha b hb' e => ?_⟩⟩
    · rcases List.mem_append.1 h with h | h
      · have := hown _ h
        omega
      · have := (hfsr _ h).1
        omega
    · cases sl.ownBlock <;> simp
    · have h1 := hown a ha
      have h2 := (hfsr b hb').1
      omega

end Go.Proofs.Ytnepemlagnnngaa

namespace Go.Proofs.Ytnepemlagnnngaa
open Go.RowKit
set_option linter.unusedVariables false
set_option maxRecDepth 100000

theorem fulP_none (v : Value) (l : List CellV) (k z id : Int) (bf : Bool) (w : World) (h : CellsIn w v l) (hF : readF l = none) : Calls Try.prog 47 #[v, .int .i64 k, .int .i64 z, .bool bf, .int .i64 id] w (Ans2 40 [] w) := by
  have HR : Hid (Calls Try.prog 24 #[v] w fun e w' => e = .returned nilPart ∧ Below w.heap.size w w') := read_no v l w h hF
  clear h hF
  go_enter Try.func47, Try.ntmps47
  go_wp2_with fail
  refine HR.out.mono ?_
  rintro e w1 ⟨rfl, hb⟩
  unfold nilPart
  go_wp2
  go_ret2
  exact ⟨_, rfl, World.ownsRow_nil _ _ _ _, hb⟩

theorem fulP_arg (v : Value) (l : List CellV) (k z id : Int) (bf : Bool) (w : World) (h : CellsIn w v l) {t : Tree} (hF : readF l = some t) (hk : ¬ (k = 2 ∨ k = 3)) : Calls Try.prog 47 #[v, .int .i64 k, .int .i64 z, .bool bf, .int .i64 id] w (Ans2 1 [] w) := by
  have HR : Hid (Calls Try.prog 24 #[v] w (ReadYes t w)) := read_yes v l w h hF
  have HC : Hid (∀ W, Calls Try.prog 25 #[.int .i64 k] W fun e w' => e = .returned (.bool false) ∧ W = w') := fun W => (decide_eq_false hk) ▸ isCut_any k W
  clear h hF hk
  go_enter Try.func47, Try.ntmps47
  go_wp2_with fail
  refine HR.out.mono ?_
  rintro e w1 ⟨T, g, fp, rfl, hAt, hnd, hge, hb⟩
  have HB : Hid (Below w.heap.size w w1) := hb
  clear hAt hnd hge hb HR
  go_wp2_with fail
  refine (HC.out _).mono ?_
  rintro e w2 ⟨rfl, rfl⟩
  go_wp2
  go_ret2
  exact ⟨_, rfl, World.ownsRow_nil _ _ _ _, HB.out⟩

theorem fulP_join (v : Value) (l : List CellV) (k z id : Int) (bf : Bool) (w : World) (h : CellsIn w v l) {t : Tree} (hF : readF l = some t) (hk : k = 2 ∨ k = 3) (er : Int) (her : joinE l id = er) (h0 : er ≠ 0) : Calls Try.prog 47 #[v, .int .i64 k, .int .i64 z, .bool bf, .int .i64 id] w (Ans2 er [] w) := by
  have HR : Hid (Calls Try.prog 24 #[v] w (ReadYes t w)) := read_yes v l w h hF
  have HC : Hid (∀ W, Calls Try.prog 25 #[.int .i64 k] W fun e w' => e = .returned (.bool true) ∧ W = w') := fun W => (decide_eq_true hk) ▸ isCut_any k W
  have hl63 := (read_lenS (by rw [hF]; rfl : (readF l).isSome = true)).1
  have HJ : Hid (∀ X, Below w.heap.size w X → Calls Try.prog 26 #[v, .int .i64 id] X fun e w' => e = .returned (.int .i64 er) ∧ Below X.heap.size X w') := fun X hX => her ▸ mayJoin_any v l id X (h.below hX) (by omega)
  have h0' : (er != 0) = true := by simpa using h0
  clear h hF hk her h0 hl63
  go_enter Try.func47, Try.ntmps47
  go_wp2_with fail
  refine HR.out.mono ?_
  rintro e w1 ⟨T, g, fp, rfl, hAt, hnd, hge, hb⟩
  have HB : Hid (Below w.heap.size w w1) := hb
  clear hAt hnd hge hb HR
  go_wp2_with fail
  refine (HC.out _).mono ?_
  rintro e w2 ⟨rfl, rfl⟩
  go_wp2_with fail
  refine (HJ.out _ HB.out).mono ?_
  rintro e w2 ⟨rfl, hb2⟩
  have HB2 : Hid (Below w.heap.size w w2) := below_step HB.out hb2
  clear hb2
  go_wp2
  go_ret2
  exact ⟨_, rfl, World.ownsRow_nil _ _ _ _, HB2.out⟩

theorem fulP_small (v : Value) (l : List CellV) (k z id : Int) (bf : Bool) (w : World) (h : CellsIn w v l) {t : Tree} (hF : readF l = some t) (hk : k = 2 ∨ k = 3) (hj : joinE l id = 0) (hr : t.room k < 2) : Calls Try.prog 47 #[v, .int .i64 k, .int .i64 z, .bool bf, .int .i64 id] w (Ans2 44 [] w) := by
  have HR : Hid (Calls Try.prog 24 #[v] w (ReadYes t w)) := read_yes v l w h hF
  have HC : Hid (∀ W, Calls Try.prog 25 #[.int .i64 k] W fun e w' => e = .returned (.bool true) ∧ W = w') := fun W => (decide_eq_true hk) ▸ isCut_any k W
  have hl63 := (read_lenS (by rw [hF]; rfl : (readF l).isSome = true)).1
  have HJ : Hid (∀ X, Below w.heap.size w X → Calls Try.prog 26 #[v, .int .i64 id] X fun e w' => e = .returned (.int .i64 0) ∧ Below X.heap.size X w') := fun X hX => hj ▸ mayJoin_any v l id X (h.below hX) (by omega)
  have hl := readF_lay hF
  have hz := lay_size hl
  obtain ⟨r, hrr⟩ : ∃ r, t.room k = r := ⟨_, rfl⟩
  rw [hrr] at hr
  have HRm : Hid (∀ T g fp W, t.At W 0 (.iface T (.pointer (some ⟨g, 0, none⟩))) fp → ∃ Fr, (∀ X, (method 279 T (.pointer (some ⟨g, 0, none⟩)) "mullion/layout.room").run Try.prog X = .ok (Fr, .pointer (some ⟨g, 0, none⟩)) X) ∧ (∀ a c X, (callFunc Fr #[a, c]).run Try.prog X = .ok (.enter Fr #[a, c]) X) ∧ Calls Try.prog Fr #[.pointer (some ⟨g, 0, none⟩), .int .i64 k] W fun e w' => e = .returned (.int .i64 r) ∧ W = w') := by
    intro T g fp W hA
    obtain ⟨T', gi, Fr, hP⟩ := hA.partR hl.sound (by omega)
    have hv := hP.val
    cases hv
    exact ⟨Fr, hP.mR, hP.fR, hrr ▸ hP.cR k W (Below.refl _ _)⟩
  clear h hF hk hj hl63 hl hz hrr
  go_enter Try.func47, Try.ntmps47
  go_wp2_with fail
  refine HR.out.mono ?_
  rintro e w1 ⟨T, g, fp, rfl, hAt, hnd, hge, hb⟩
  have HB : Hid (Below w.heap.size w w1) := hb
  have HAt : Hid (t.At w1 0 (.iface T (.pointer (some ⟨g, 0, none⟩))) fp) := hAt
  clear hAt hnd hge hb HR
  go_wp2_with fail
  refine (HC.out _).mono ?_
  rintro e w2 ⟨rfl, rfl⟩
  go_wp2_with fail
  refine (HJ.out _ HB.out).mono ?_
  rintro e w2 ⟨rfl, hb2⟩
  have HB2 : Hid (Below w.heap.size w w2) := below_step HB.out hb2
  obtain ⟨Fr, m1, m2, hc⟩ := HRm.out T g fp w2 (HAt.out.below hb2)
  have HcR : Hid (Calls Try.prog Fr #[.pointer (some ⟨g, 0, none⟩), .int .i64 k] w2 fun e w' => e = .returned (.int .i64 r) ∧ w2 = w') := hc
  clear hb2 hc
  go_wp2_with fail
  refine HcR.out.mono ?_
  rintro e w3 ⟨rfl, rfl⟩
  go_wp2
  go_ret2
  exact ⟨_, rfl, World.ownsRow_nil _ _ _ _, HB2.out⟩

end Go.Proofs.Ytnepemlagnnngaa

namespace Go.Proofs.Ytnepemlagnnngaa
open Go.RowKit
set_option linter.unusedVariables false
set_option maxRecDepth 100000

set_option maxHeartbeats 400000 in
theorem fulP_ok (v : Value) (l : List CellV) (k z id : Int) (bf : Bool) (w : World) (h : CellsIn w v l) {t t1 : Tree} {n : Int} (hF : readF l = some t) (hU : Fulled l t t1 k z n id bf) : Calls Try.prog 47 #[v, .int .i64 k, .int .i64 z, .bool bf, .int .i64 id] w (Ans2 0 (laidL (besideT k bf t1 (.leaf (fullB t k n) id))) w) := by
  have HR : Hid (Calls Try.prog 24 #[v] w (ReadYes t w)) := read_yes v l w h hF
  have HC : Hid (∀ W, Calls Try.prog 25 #[.int .i64 k] W fun e w' => e = .returned (.bool true) ∧ W = w') := fun W => (decide_eq_true hU.kind) ▸ isCut_any k W
  have hl63 := (read_lenS (by rw [hF]; rfl : (readF l).isSome = true)).1
  have HJ : Hid (∀ X, Below w.heap.size w X → Calls Try.prog 26 #[v, .int .i64 id] X fun e w' => e = .returned (.int .i64 0) ∧ Below X.heap.size X w') := fun X hX => hU.join ▸ mayJoin_any v l id X (h.below hX) (by omega)
  have hl := hU.lay
  have hz := lay_size hl
  have hsd := t.sound_sides hl.sound
  have hse := sides_ext t.box k hsd
  have hsa := sides_ext t.box (acrossK k) hsd
  have hlow := hU.low
  have hok := hU.one.ok
  have hnum := hU.num
  have hrb := room_bound t k hl.sound
  have hr2 := hU.room
  obtain ⟨r, hrr⟩ : ∃ r, t.room k = r := ⟨_, rfl⟩
  obtain ⟨E, hE⟩ : ∃ r, t.box.ext k = r := ⟨_, rfl⟩
  obtain ⟨ak, hak⟩ : ∃ r, acrossK k = r := ⟨_, rfl⟩
  obtain ⟨A, hA⟩ : ∃ r, t.box.ext ak = r := ⟨_, rfl⟩
  obtain ⟨wt, hwt⟩ : ∃ r, wantedF z E = r := ⟨_, rfl⟩
  have hfb : fullB t k n = ((⟨0, 0, 0, 0⟩ : Box).str k n).str ak A := by unfold fullB; rw [hak, hA]
  rw [hE] at hse hnum
  rw [hak, hA] at hsa
  rw [hwt, hrr] at hnum
  rw [hrr] at hrb hr2
  have HWt : Hid (∀ W, Calls Try.prog 28 #[.int .i64 z, .int .i64 E] W fun e w' => e = .returned (.int .i64 wt) ∧ W = w') := fun W => hwt ▸ wanted_any z E W (by omega)
  have HAc : Hid (∀ W, Calls Try.prog 70 #[.int .i64 k] W fun e w' => e = .returned (.int .i64 ak) ∧ W = w') := fun W => hak ▸ across_any k W
  have HRm : Hid (∀ T g fp W, t.At W 0 (.iface T (.pointer (some ⟨g, 0, none⟩))) fp → ∃ Fr, (∀ X, (method 279 T (.pointer (some ⟨g, 0, none⟩)) "mullion/layout.room").run Try.prog X = .ok (Fr, .pointer (some ⟨g, 0, none⟩)) X) ∧ (∀ a c X, (callFunc Fr #[a, c]).run Try.prog X = .ok (.enter Fr #[a, c]) X) ∧ Calls Try.prog Fr #[.pointer (some ⟨g, 0, none⟩), .int .i64 k] W fun e w' => e = .returned (.int .i64 r) ∧ W = w') := by
    intro T g fp W hA
    obtain ⟨T', gi, Fr, hP⟩ := hA.partR hl.sound (by omega)
    have hv := hP.val
    cases hv
    exact ⟨Fr, hP.mR, hP.fR, hrr ▸ hP.cR k W (Below.refl _ _)⟩
  have HEx : Hid (∀ T g fp W, t.At W 0 (.iface T (.pointer (some ⟨g, 0, none⟩))) fp → (∀ X, (method 279 T (.pointer (some ⟨g, 0, none⟩)) "mullion/layout.extent").run Try.prog X = .ok (27, .pointer (some ⟨g, 0, none⟩)) X) ∧ (∀ X, (nilAhead 279 T (.pointer (some ⟨g, 0, none⟩)) "mullion/layout.extent").run Try.prog X = .ok (some false) X) ∧ (∀ X, Below W.heap.size W X → Calls Try.prog 27 #[.pointer (some ⟨g, 0, none⟩), .int .i64 k] X fun e w' => e = .returned (.int .i64 E) ∧ X = w') ∧ (∀ X, Below W.heap.size W X → Calls Try.prog 27 #[.pointer (some ⟨g, 0, none⟩), .int .i64 ak] X fun e w' => e = .returned (.int .i64 A) ∧ X = w')) := by
    intro T g fp W hAt
    refine ⟨?_, ?_, fun X hX => hE ▸ (leaf_or_split hAt k X hX).2, fun X hX => hA ▸ (leaf_or_split hAt ak X hX).2⟩
    · obtain ⟨g', hv, _, _⟩ := hAt.own
      rcases hv with hv | hv
      · cases hv; exact l_extent _
      · cases hv; exact s_extent _
    · obtain ⟨g', hv, _, _⟩ := hAt.own
      rcases hv with hv | hv
      · cases hv; exact l_nE _
      · cases hv; exact s_nE _
  have HX : Hid (∀ T g fp W, t.At W 0 (.iface T (.pointer (some ⟨g, 0, none⟩))) fp → fp.Nodup → ∃ Fx, (∀ X, (method 279 T (.pointer (some ⟨g, 0, none⟩)) "mullion/layout.stretch").run Try.prog X = .ok (Fx, .pointer (some ⟨g, 0, none⟩)) X) ∧ (∀ a c d X, (callFunc Fx #[a, c, d]).run Try.prog X = .ok (.enter Fx #[a, c, d]) X) ∧ Calls Try.prog Fx #[.pointer (some ⟨g, 0, none⟩), .int .i64 k, .int .i64 (-n - 1)] W fun e w' => e = .returned (.tuple #[]) ∧ t1.At w' 0 (.iface T (.pointer (some ⟨g, 0, none⟩))) fp ∧ But fp W w') := by
    intro T g fp W hAt hnd
    obtain ⟨T', gi, Fx, hX⟩ := t.stretches 0 _ fp W hAt hnd
    have hv := hX.val
    cases hv
    exact ⟨Fx, hX.mX, hX.fX, hX.cX W k (-n - 1) t1 hAt hU.one⟩
  have HEnd : Hid (∀ T g fp w5, t1.At w5 0 (.iface T (.pointer (some ⟨g, 0, none⟩))) fp → fp.Nodup → (∀ q ∈ fp, w.heap.size ≤ q) → Below w.heap.size w w5 → Calls Try.prog 33 #[.int .i64 k, .slice (some ⟨w5.heap.size + 1, 0, none⟩) 2 2] ((w5.alloc (.cells (leafV (((⟨0, 0, 0, 0⟩ : Box).str k n).str ak A) id) 68)).alloc (.cells (if bf then #[leafI w5.heap.size, .iface T (.pointer (some ⟨g, 0, none⟩))] else #[.iface T (.pointer (some ⟨g, 0, none⟩)), leafI w5.heap.size]) 56)) fun e w' => e = .returned (.pointer (some ⟨w5.heap.size + 1 + 1, 0, none⟩)) ∧ Calls Try.prog 31 #[splitI (w5.heap.size + 1 + 1)] w' fun e w'' => ∃ u, e = .returned u ∧ CeOwns w'' w.heap.size u (laidL (besideT k bf t1 (.leaf (fullB t k n) id))) ∧ Below w.heap.size w w'') := fun T g fp w5 e1 e2 e3 e4 => by
    have := full_end hU e1 e2 e3 e4
    rw [hfb] at this
    rw [hfb]
    exact this
  have hfx : fullB t k n = ⟨0, 0, (fullB t k n).w, (fullB t k n).h⟩ := by rw [fullB_eq t k n hU.kind]; split <;> rfl
  rw [hfb] at hfx
  have HIo : Hid (∀ T1 T2 g1 g2 W, Calls Try.prog 34 #[.iface T1 (.pointer (some ⟨g1, 0, none⟩)), .iface T2 (.pointer (some ⟨g2, 0, none⟩)), .bool bf] W fun e w' => e = .returned (.slice (some ⟨W.heap.size, 0, none⟩) 2 2) ∧ w' = W.alloc (.cells (if bf then #[.iface T2 (.pointer (some ⟨g2, 0, none⟩)), .iface T1 (.pointer (some ⟨g1, 0, none⟩))] else #[.iface T1 (.pointer (some ⟨g1, 0, none⟩)), .iface T2 (.pointer (some ⟨g2, 0, none⟩))]) 56)) := fun T1 T2 g1 g2 W => inOrder_any T1 T2 g1 g2 bf W
  obtain ⟨LT, hLT⟩ : ∃ x, laidL (besideT k bf t1 (.leaf (fullB t k n) id)) = x := ⟨_, rfl⟩
  rw [hLT] at HEnd ⊢
  have HMin : Hid (min wt (r - 1) = n) := hnum.symm
  have hw1 : IntKind.i64.wrap (r - 1) = r - 1 := by rw [IntKind.wrap_i64]; omega
  have hw2 : IntKind.i64.wrap (-n) = -n := by rw [IntKind.wrap_i64]; omega
  have hw3 : IntKind.i64.wrap (-n - 1) = -n - 1 := by rw [IntKind.wrap_i64]; omega
  have hrl : ¬ r < 2 := by omega
  have hbd : (-1000000 ≤ n ∧ n ≤ 1000000) ∧ (-1000000 ≤ A ∧ A ≤ 1000000) := by omega
  have HBx1 : Hid (∀ W : World, Calls Try.prog 30 #[.pointer (some ⟨W.heap.size, 0, none⟩), .int .i64 k, .int .i64 n] (W.alloc (.cells #[.int .i64 0, .int .i64 0, .int .i64 0, .int .i64 0] 66)) fun e w' => e = .returned (.tuple #[]) ∧ BoxAt w' W.heap.size ((⟨0, 0, 0, 0⟩ : Box).str k n) ∧ (W.alloc (.cells #[.int .i64 0, .int .i64 0, .int .i64 0, .int .i64 0] 66)).grownBy w' (some W.heap.size)) := fun W => (box_stretch W.heap.size ⟨0, 0, 0, 0⟩ k n _ (BoxAt.new W _) (by decide) (by decide) hbd.1).mono fun e w' h => ⟨h.1, h.2.1, h.2.2.1⟩
  have HBx2 : Hid (∀ W g m, BoxAt W g ((⟨0, 0, 0, 0⟩ : Box).str k n) → Calls Try.prog 30 #[.pointer (some ⟨g, 0, none⟩), .int .i64 ak, .int .i64 A] (W.drewN m) fun e w' => e = .returned (.tuple #[]) ∧ BoxAt w' g (((⟨0, 0, 0, 0⟩ : Box).str k n).str ak A) ∧ W.grownBy w' (some g)) := fun W g m hB => (box_stretch g _ ak A (W.drewN m) ⟨hB.x, hB.y, hB.w, hB.h, hB.free⟩ (by unfold Box.str; split <;> constructor <;> simp <;> omega) (by unfold Box.str; split <;> constructor <;> simp <;> omega) hbd.2).mono fun e w' h => ⟨h.1, h.2.1, ⟨h.2.2.1.os, h.2.2.1.tape, h.2.2.1.output, h.2.2.1.size, h.2.2.1.block⟩⟩
  obtain ⟨Fb, hFb⟩ : ∃ x, ((⟨0, 0, 0, 0⟩ : Box).str k n).str ak A = x := ⟨_, rfl⟩
  obtain ⟨fw, hfw⟩ : ∃ x, Fb.w = x := ⟨_, rfl⟩
  obtain ⟨fh, hfh⟩ : ∃ x, Fb.h = x := ⟨_, rfl⟩
  rw [hFb, hfw, hfh] at hfx
  subst hfx
  rw [hFb] at HEnd HBx2
  clear h hF hU hl63 hl hz hsd hse hsa hlow hok hnum hrb hr2 hrr hE hak hA hwt hfb hLT hbd
  go_enter Try.func47, Try.ntmps47
  go_wp2_with fail
  refine HR.out.mono ?_
  rintro e w1 ⟨T, g, fp, rfl, hAt, hnd, hge, hb⟩
  have HB : Hid (Below w.heap.size w w1) := hb
  have HAt : Hid (t.At w1 0 (.iface T (.pointer (some ⟨g, 0, none⟩))) fp) := hAt
  have Hnd : Hid fp.Nodup := hnd
  have Hge : Hid (∀ q ∈ fp, w.heap.size ≤ q) := hge
  clear hAt hnd hge hb HR
  go_wp2_with fail
  refine (HC.out _).mono ?_
  rintro e w2 ⟨rfl, rfl⟩
  go_wp2_with fail
  refine (HJ.out _ HB.out).mono ?_
  rintro e w2 ⟨rfl, hb2⟩
  have HB2 : Hid (Below w.heap.size w w2) := below_step HB.out hb2
  have HAt2 : Hid (t.At w2 0 (.iface T (.pointer (some ⟨g, 0, none⟩))) fp) := HAt.out.below hb2
  obtain ⟨Fr, m1, m2, hc⟩ := HRm.out T g fp w2 HAt2.out
  have HcR : Hid (Calls Try.prog Fr #[.pointer (some ⟨g, 0, none⟩), .int .i64 k] w2 fun e w' => e = .returned (.int .i64 r) ∧ w2 = w') := hc
  obtain ⟨m3, m4, hx1, hx2⟩ := HEx.out T g fp w2 HAt2.out
  have HcE : Hid (∀ X, Below w2.heap.size w2 X → Calls Try.prog 27 #[.pointer (some ⟨g, 0, none⟩), .int .i64 k] X fun e w' => e = .returned (.int .i64 E) ∧ X = w') := hx1
  have HcA : Hid (∀ X, Below w2.heap.size w2 X → Calls Try.prog 27 #[.pointer (some ⟨g, 0, none⟩), .int .i64 ak] X fun e w' => e = .returned (.int .i64 A) ∧ X = w') := hx2
  clear hb2 hc hx1 hx2 HC HJ HAt HRm HEx HB
  go_wp2_with fail
  refine HcR.out.mono ?_
  rintro e w3 ⟨rfl, rfl⟩
  go_wp2_with fail
  refine (HcE.out _ (Below.refl _ _)).mono ?_
  rintro e w3 ⟨rfl, rfl⟩
  go_wp2_with fail
  refine (HWt.out _).mono ?_
  rintro e w3 ⟨rfl, rfl⟩
  go_wp2_with fail
  rw [HMin.out]
  refine (HBx1.out w2).mono ?_
  rintro e w4 ⟨rfl, hq4, hg4⟩
  have hb24 : Below w2.heap.size w2 w4 := below_grown ((Below.refl _ _).alloc (Nat.le_refl _) _) hg4 (Nat.le_refl _)
  have HB4 : Hid (Below w2.heap.size w2 w4) := hb24
  have HcA4 : Hid (∀ m, Calls Try.prog 27 #[.pointer (some ⟨g, 0, none⟩), .int .i64 ak] (w4.drewN m) fun e w' => e = .returned (.int .i64 A) ∧ w4.drewN m = w') := fun m => HcA.out _ (below_drewN hb24 m)
  have HSt : Hid (∀ m, Calls Try.prog 30 #[.pointer (some ⟨w2.heap.size, 0, none⟩), .int .i64 ak, .int .i64 A] (w4.drewN m) fun e w' => e = .returned (.tuple #[]) ∧ BoxAt w' w2.heap.size ⟨0, 0, fw, fh⟩ ∧ w4.grownBy w' (some w2.heap.size)) := fun m => HBx2.out w4 w2.heap.size m hq4
  clear hq4 hg4 hb24 HcE HcR HWt HBx1 HBx2 HcA HMin m1 m2
  go_wp2_with fail
  refine wp_region_quiet_last 9 _ (by rfl) (by rfl) (by kernel_rfl) (by kernel_rfl) (by kernel_rfl) ?_
  simp only [List.take_succ_cons, List.take_zero]
  repeat (quiet_step ((first | (go_at_call 70; exact Calls.quiet_of_same ((HAc.out _).mono fun e w' h => ⟨h.1, h.2.symm⟩)) | (go_at_call 27; exact Calls.quiet_of_same ((HcA4.out _).mono fun e w' h => ⟨h.1, h.2.symm⟩)))))
  refine wpQuiet_nil ?_
  intro m7 K hK
  go_simp
  go_at_call 30
  refine (HSt.out m7).mono ?_
  rintro e w5 ⟨rfl, hq5, hg5⟩
  refine hK _ _ ?_
  clear hK
  clear K
  have hb25 : Below w2.heap.size w2 w5 := below_grown HB4.out hg5 (Nat.le_refl _)
  have HB5 : Hid (Below w2.heap.size w2 w5) := hb25
  have HAt5 : Hid (t.At w5 0 (.iface T (.pointer (some ⟨g, 0, none⟩))) fp) := HAt2.out.below hb25
  have HBx : Hid (BoxAt w5 w2.heap.size ⟨0, 0, fw, fh⟩) := hq5
  obtain ⟨Fx, m1, m2, hcX⟩ := HX.out T g fp w5 HAt5.out Hnd.out
  have HcX : Hid (Calls Try.prog Fx #[.pointer (some ⟨g, 0, none⟩), .int .i64 k, .int .i64 (-n - 1)] w5 fun e w' => e = .returned (.tuple #[]) ∧ t1.At w' 0 (.iface T (.pointer (some ⟨g, 0, none⟩))) fp ∧ But fp w5 w') := hcX
  have HgB : Hid (∀ q ∈ fp, q < w2.heap.size) := HAt2.out.lt
  clear hq5 hg5 hb25 hcX HSt HcA4 HB4 HAc m3 m4 HX
  go_wp2_with fail
  refine HcX.out.mono ?_
  rintro e w6 ⟨rfl, hAt6, hbt6⟩
  have hkeep : w6.heap[w2.heap.size]? = w5.heap[w2.heap.size]? := hbt6.block _ HBx.out.lt fun h => by have := HgB.out _ h; omega
  have hc : ∀ o, w6.cell? ⟨w2.heap.size, o, none⟩ = w5.cell? ⟨w2.heap.size, o, none⟩ := fun o => by unfold World.cell?; rw [hkeep]
  have q0 := (hc 0).trans HBx.out.x
  have q1 := (hc 1).trans HBx.out.y
  have q2 := (hc 2).trans HBx.out.w
  have q3 := (hc 3).trans HBx.out.h
  have HJn : Hid (Calls Try.prog 33 #[.int .i64 k, .slice (some ⟨w6.heap.size + 1, 0, none⟩) 2 2] _ _) := HEnd.out T g fp w6 hAt6 Hnd.out Hge.out (below_but (below_step HB2.out HB5.out) hbt6 Hge.out)
  clear hc hkeep hAt6 hbt6 HcX HEnd HgB HBx
  cases bf
  all_goals (
    simp only [Bool.false_eq_true, if_false, if_true] at HJn HIo
    go_wp2_with fail
    refine (HIo.out _ _ _ _ _).mono ?_
    rintro e w7 ⟨rfl, rfl⟩
    go_wp2_with fail
    refine HJn.out.mono ?_
    rintro e w8 ⟨rfl, hL⟩
    have HL : Hid (Calls Try.prog 31 #[.iface 74 (.pointer (some ⟨w6.heap.size + 1 + 1, 0, none⟩))] w8 fun e w'' => ∃ u, e = .returned u ∧ CeOwns w'' w.heap.size u LT ∧ Below w.heap.size w w'') := hL
    clear hL HJn q0 q1 q2 q3
    go_wp2_with fail
    refine HL.out.mono ?_
    rintro e w9 ⟨u, rfl, hu, hb9⟩
    have HU : Hid (CeOwns w9 w.heap.size u LT) := hu
    have HB9 : Hid (Below w.heap.size w w9) := hb9
    clear hu hb9 HL
    go_wp2
    go_ret2
    exact ⟨u, rfl, HU.out, HB9.out⟩)

end Go.Proofs.Ytnepemlagnnngaa
