/-
  Layouts: the document's At; the statement on looks, walked.
-/
import Derived.Test.YtammadcigfbgeaaLLooksW
namespace Go.Proofs.Ytammadcigfbgeaa
open Go.RowKit
set_option linter.unusedVariables false
set_option maxRecDepth 100000

set_option maxHeartbeats 4000000 in
theorem at_ref (v : Value) (l : List CellV) (x y : Int) (i : Nat) (c : CellV) (bb : Bool) (w : World) (h : CellsIn w v l) (hI : FindIs l (isPane (holdsXY x y)) i c bb) : Calls Try.prog 20 #[v, .int .i64 x, .int .i64 y] w fun e w' => e = .returned (.tuple #[.int .i64 (if bb = true then c.p else 0), .bool bb]) ∧ Below w.heap.size w w' := by
  have HT : Hid (Calls Try.prog 37 #[v] w (TreeGood l w)) := tree_any v l w h
  have HV : Hid (CellsIn w v l) := h
  have HI : Hid (FindIs l (isPane (holdsXY x y)) i c bb) := hI
  obtain ⟨res, hres⟩ : ∃ z, (if bb = true then c.p else 0) = z := ⟨_, rfl⟩
  have HRes : Hid ((if bb = true then c.p else 0) = res) := hres
  rw [hres]
  clear h hI hres
  go_enter Try.func20, Try.ntmps20
  go_wp2_with fail
  refine HT.out.mono ?_
  rintro e w1 ⟨hb, ⟨hr, rfl⟩ | ⟨t, sa, sn, sc, fp, hr, rfl, hIn⟩⟩
  · have HE : Hid (res = 0 ∧ bb = false) := by
      have := HI.out.at_none hr
      refine ⟨?_, this.2⟩
      rw [← HRes.out, this.2]
      rfl
    have HB : Hid (∀ o, Below w.heap.size w (w1.alloc o)) := fun o => below_step hb ((Below.refl _ _).alloc (Nat.le_refl _) o)
    unfold zeroN
    clear hr hb
    go_wp2
    go_loopw [10] (fun v wr => v = .int .i64 0 ∧ wr = w1.alloc (.cells #[.int .i64 0, .int .i64 0, .int .i64 0, .int .i64 0, .slice none 0 0] 67)) (fun _ _ => 0)
    case atStart => exact ⟨rfl, rfl⟩
    case round =>
      obtain ⟨rfl, rfl⟩ := hrel
      go_wp2
      go_ret2
      exact ⟨by rw [HE.out.1, HE.out.2]; rfl, HB.out _⟩
  · have HS : Hid ((readF l).isSome = true) := by show _ = _; rw [hr]; rfl
    obtain ⟨hl63, hne⟩ := read_len HS.out
    obtain ⟨b, off, cap, e1, _, hs⟩ := HV.out.seen hne
    obtain ⟨n, hn⟩ : ∃ n, l.length = n := ⟨_, rfl⟩
    rw [hn] at e1 hl63
    subst e1
    have HN : Hid (l.length = n) := hn
    have HB : Hid (∀ o, Below w.heap.size w (w1.alloc o)) := fun o => below_step hb ((Below.refl _ _).alloc (Nat.le_refl _) _)
    have HSe : Hid (∀ X, Below w.heap.size w X → SeenIn X b off l) := fun X hX => hs.below hX
    unfold nodeV
    clear hr hb hIn hne hs hn HV
    go_wp2
    go_loopw [10] (fun v wr => ∃ j : Nat, j ≤ n ∧ v = .int .i64 j ∧ Hid (∀ (a : Nat) d, a < j → l[a]? = some d → isPane (holdsXY x y) d = false) ∧ Hid (Below w.heap.size w wr)) (fun v _ => n - (intOf v).toNat)
    case atStart => exact ⟨0, Nat.zero_le _, rfl, fun a d ha => by omega, HB.out _⟩
    case round =>
      obtain ⟨j, hj, rfl, HJ, HBr⟩ := hrel
      by_cases hlt : j < n
      · obtain ⟨z, hz⟩ : ∃ z, l[j]? = some z := ⟨_, List.getElem?_eq_getElem (by rw [HN.out]; exact hlt)⟩
        obtain ⟨q0, q1, q2, q3, q4, q5, q6⟩ := (HSe.out wr HBr.out) j z hz
        have HY : Hid (l[j]? = some z) := hz
        have HA : Hid (∀ o, Below w.heap.size w (wr.alloc o)) := fun o => below_step HBr.out ((Below.refl _ _).alloc (Nat.le_refl _) o)
        have HNx : Hid (isPane (holdsXY x y) z = false → ∀ (a : Nat) d, a < j + 1 → l[a]? = some d → isPane (holdsXY x y) d = false) := fun hq a d ha hd => by
          by_cases e : a = j
          · subst e; rw [HY.out] at hd; cases hd; exact hq
          · exact HJ.out a d (by omega) hd
        clear hz
        obtain ⟨sx, hsx⟩ : ∃ s, IntKind.i64.wrap (z.x + z.w) = s := ⟨_, rfl⟩
        obtain ⟨sy, hsy⟩ : ∃ s, IntKind.i64.wrap (z.y + z.h) = s := ⟨_, rfl⟩
        have HR : Hid (isPane (holdsXY x y) z = (decide (z.kind = 1) && (((decide (z.x ≤ x) && decide (x < sx)) && decide (z.y ≤ y)) && decide (y < sy)))) := by show _ = _; unfold isPane holdsXY; rw [hsx, hsy]
        by_cases a0 : z.kind = 1
        · have a0' : (z.kind == 1) = true := by simpa using a0
          by_cases a1 : z.x ≤ x
          · by_cases a2 : x < sx
            · by_cases a3 : z.y ≤ y
              · by_cases a4 : y < sy
                · have HH : Hid (j = i ∧ z = c ∧ bb = true) := HI.out.at_hit HS.out ⟨HY.out, by rw [HR.out]; simp [a0, a1, a2, a3, a4], HJ.out⟩
                  have HP : Hid (z.p = res) := by
                    show _ = _
                    rw [← HRes.out, HH.out.2.2, HH.out.2.1]
                    rfl
                  clear a0
                  go_wp2
                  go_ret2
                  exact ⟨by rw [HH.out.2.2, ← HP.out]; rfl, HA.out _⟩
                · have HQ : Hid (isPane (holdsXY x y) z = false) := by show _ = _; rw [HR.out]; simp [a4]
                  clear a0
                  go_wp2
                  go_roundw
                  case rel => exact ⟨j + 1, by omega, by go_num, HNx.out HQ.out, HA.out _⟩
                  case measure => simp [intOf]; omega
              · have HQ : Hid (isPane (holdsXY x y) z = false) := by show _ = _; rw [HR.out]; simp [a3]
                clear a0
                go_wp2
                go_roundw
                case rel => exact ⟨j + 1, by omega, by go_num, HNx.out HQ.out, HA.out _⟩
                case measure => simp [intOf]; omega
            · have HQ : Hid (isPane (holdsXY x y) z = false) := by show _ = _; rw [HR.out]; simp [a2]
              clear a0
              go_wp2
              go_roundw
              case rel => exact ⟨j + 1, by omega, by go_num, HNx.out HQ.out, HA.out _⟩
              case measure => simp [intOf]; omega
          · have HQ : Hid (isPane (holdsXY x y) z = false) := by show _ = _; rw [HR.out]; simp [a1]
            clear a0
            go_wp2
            go_roundw
            case rel => exact ⟨j + 1, by omega, by go_num, HNx.out HQ.out, HA.out _⟩
            case measure => simp [intOf]; omega
        · have a0' : (z.kind == 1) = false := by simpa using a0
          have HQ : Hid (isPane (holdsXY x y) z = false) := by show _ = _; rw [HR.out]; simp [a0]
          clear a0
          go_wp2
          go_roundw
          case rel => exact ⟨j + 1, by omega, by go_num, HNx.out HQ.out, HA.out _⟩
          case measure => simp [intOf]; omega
      · have HE : Hid (res = 0 ∧ bb = false) := by
          have := HI.out.at_miss HS.out fun a d hd => HJ.out a d (by have := (List.getElem?_eq_some_iff.1 hd).1; rw [HN.out] at this; omega) hd
          refine ⟨?_, this.2⟩
          rw [← HRes.out, this.2]
          rfl
        go_wp2
        go_ret2
        exact ⟨by rw [HE.out.1, HE.out.2]; rfl, HBr.out⟩

set_option maxHeartbeats 2000000 in
theorem looks_walk (v : Value) (l : List CellV) (pane x y : Int) (w : World) (hv : CellsIn w v l) (hnil : v = .slice none 0 0 ∨ ∃ a n c, v = .slice (some a) n c) (hlen : l.length * 56 ≤ 140737488351232) : Calls Try.prog 5 #[v, .int .i64 pane, .agg #[.int .i64 x, .int .i64 y]] w fun e w' => e = .returned (.bool true) ∧ Below w.heap.size w w' := by
  obtain ⟨i, c, b, hI⟩ := find_ex l (isPane (hasId pane))
  obtain ⟨i2, c2, b2, hI2⟩ := find_ex l (isPane (holdsXY x y))
  have hbx : ∀ o, Below w.heap.size w (w.alloc o) := fun o => (Below.refl _ _).alloc (Nat.le_refl _) o
  obtain ⟨W, hW⟩ : ∃ W, w.alloc (.cells #[.int .i64 x, .int .i64 y] 37) = W := ⟨_, rfl⟩
  have hbW : Below w.heap.size w W := by rw [← hW]; exact hbx _
  have HTw : Hid (Calls Try.prog 13 #[v] W fun e w' => ∃ g cap, e = .returned (.slice (some ⟨g, 0, none⟩) l.length cap) ∧ TwinAt w' g cap l ∧ W.heap.size ≤ g ∧ Below W.heap.size W w') := twin_any v l W (hv.below hbW) hnil hlen
  have HF : Hid (∀ u X, CellsIn X u l → Calls Try.prog 17 #[u, .int .i64 pane] X fun e w' => e = .returned (.tuple #[.int .i64 (i : Int), .bool b]) ∧ Below X.heap.size X w') := fun u X hX => find_prog u l pane i c b X hX hI
  have HG : Hid (∀ X, Below w.heap.size w X → Calls Try.prog 18 #[v, .int .i64 pane] X fun e w' => e = .returned (.tuple #[.int .i64 (i : Int), .bool b]) ∧ Below X.heap.size X w') := fun X hX => find_ref v l pane i c b X (hv.below hX) hI
  have HA : Hid (∀ u X, CellsIn X u l → Calls Try.prog 19 #[u, .int .i64 x, .int .i64 y] X fun e w' => e = .returned (.tuple #[.int .i64 (if b2 = true then c2.p else 0), .bool b2]) ∧ Below X.heap.size X w') := fun u X hX => at_prog u l x y i2 c2 b2 X hX hI2
  have HC : Hid (∀ X, Below w.heap.size w X → Calls Try.prog 20 #[v, .int .i64 x, .int .i64 y] X fun e w' => e = .returned (.tuple #[.int .i64 (if b2 = true then c2.p else 0), .bool b2]) ∧ Below X.heap.size X w') := fun X hX => at_ref v l x y i2 c2 b2 X (hv.below hX) hI2
  have HW : Hid (∀ W, Calls Try.prog 11 #[] W fun e w' => e = .returned (.bool true) ∧ Below W.heap.size W w') := works_true
  have HK : Hid (∀ g cap X, TwinAt X g cap l → Below w.heap.size w X → Calls Try.prog 16 #[.slice (some ⟨g, 0, none⟩) l.length cap, v] X fun e w' => e = .returned (.bool true) ∧ Below X.heap.size X w') := fun g cap X hT hX => kept_any v g cap l X hT (hv.below hX) hlen
  obtain ⟨L, hL⟩ : ∃ L, l.length = L := ⟨_, rfl⟩
  obtain ⟨R, hR⟩ : ∃ R, (if b2 = true then c2.p else 0) = R := ⟨_, rfl⟩
  rw [hR] at HA HC
  rw [hL] at HTw HK
  have HL : Hid (l.length = L) := hL
  have HWe : Hid (w.alloc (.cells #[.int .i64 x, .int .i64 y] 37) = W) := hW
  have HbW : Hid (Below w.heap.size w W) := hbW
  have HPx : Hid (∀ X, Below W.heap.size W X → X.cell? ⟨w.heap.size, 0, none⟩ = some (.int .i64 x) ∧ X.cell? ⟨w.heap.size, 1, none⟩ = some (.int .i64 y)) := fun X hX => by
    have hb : W.heap[w.heap.size]? = some (.cells #[.int .i64 x, .int .i64 y] 37 (0, 0)) := by rw [← hW]; exact heap_alloc_new _ _
    have hb2 := (hX.block w.heap.size (lt_of_block hb)).trans hb
    exact ⟨cell_atL hb2 0, cell_atL hb2 1⟩
  clear hv hnil hlen hI hI2 hL hR hW hbW hbx
  go_enter Try.func5, Try.ntmps5
  go_wp2_with fail
  rw [HWe.out]
  refine HTw.out.mono ?_
  rintro e w1 ⟨g, cap, rfl, hT, _, hb1⟩
  have H1 : Hid (TwinAt w1 g cap l ∧ Below W.heap.size W w1) := ⟨hT, hb1⟩
  have HF1 : Hid (Calls Try.prog 17 #[.slice (some ⟨g, 0, none⟩) L cap, .int .i64 pane] w1 fun e w' => e = .returned (.tuple #[.int .i64 (i : Int), .bool b]) ∧ Below w1.heap.size w1 w') := HF.out _ w1 (by have := hT.cellsIn; rw [HL.out] at this; exact this)
  clear hT hb1 HTw HF
  go_wp2_with fail
  refine HF1.out.mono ?_
  rintro e w2 ⟨rfl, hb2⟩
  have H2 : Hid (TwinAt w2 g cap l ∧ Below W.heap.size W w2) := ⟨H1.out.1.below hb2, below_step H1.out.2 hb2⟩
  clear hb2 H1 HF1
  go_wp2_with fail
  refine (HG.out _ (below_step HbW.out H2.out.2)).mono ?_
  rintro e w3 ⟨rfl, hb3⟩
  have H3 : Hid (TwinAt w3 g cap l ∧ Below W.heap.size W w3) := ⟨H2.out.1.below hb3, below_step H2.out.2 hb3⟩
  have HA3 : Hid (Calls Try.prog 19 #[.slice (some ⟨g, 0, none⟩) L cap, .int .i64 x, .int .i64 y] w3 fun e w' => e = .returned (.tuple #[.int .i64 R, .bool b2]) ∧ Below w3.heap.size w3 w') := HA.out _ w3 (by have := H3.out.1.cellsIn; rw [HL.out] at this; exact this)
  have x3 := (HPx.out w3 H3.out.2).1
  have y3 := (HPx.out w3 H3.out.2).2
  clear hb3 H2 HG HA
  go_wp2_with fail
  refine HA3.out.mono ?_
  rintro e w4 ⟨rfl, hb4⟩
  have H4 : Hid (TwinAt w4 g cap l ∧ Below W.heap.size W w4) := ⟨H3.out.1.below hb4, below_step H3.out.2 hb4⟩
  have x4 := (HPx.out w4 H4.out.2).1
  have y4 := (HPx.out w4 H4.out.2).2
  clear hb4 H3 HA3 x3 y3
  go_wp2_with fail
  refine (HC.out _ (below_step HbW.out H4.out.2)).mono ?_
  rintro e w5 ⟨rfl, hb5⟩
  have H5 : Hid (TwinAt w5 g cap l ∧ Below W.heap.size W w5) := ⟨H4.out.1.below hb5, below_step H4.out.2 hb5⟩
  clear hb5 H4 HC x4 y4
  go_wp2_with fail
  refine (HW.out _).mono ?_
  rintro e w6 ⟨rfl, hb6⟩
  have H6 : Hid (TwinAt w6 g cap l ∧ Below W.heap.size W w6) := ⟨H5.out.1.below hb6, below_step H5.out.2 hb6⟩
  clear hb6 H5 HW
  go_wp2_with fail
  refine (HK.out _ _ _ H6.out.1 (below_step HbW.out H6.out.2)).mono ?_
  rintro e w7 ⟨rfl, hb7⟩
  have H7 : Hid (Below w.heap.size w w7) := below_step (below_step HbW.out H6.out.2) hb7
  clear hb7 H6
  go_wp2
  go_ret
  exact ⟨rfl, H7.out⟩

end Go.Proofs.Ytammadcigfbgeaa
