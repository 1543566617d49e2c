/-
  Buffers: the law's: num, same, sure.
-/
import Derived.Test.YtgbaeajcgiaboaaDoorURfI
namespace Go.Proofs.YtgbaeajcgiaboaaDoor
open Go.RowKit
set_option linter.unusedVariables false
set_option maxRecDepth 100000

theorem num_any (e : Int) (w : World) : Calls Tryd.prog 12 #[.int .i64 e] w fun r w' => r = .returned (.int .i64 e) ∧ w = w' := by
  go_enter Tryd.func12, Tryd.ntmps12
  go_wp2_with fail
  go_ret
  exact ⟨rfl, rfl⟩
set_option maxHeartbeats 8000000 in
theorem same_any {w : World} {va vb : Value} {l : List Kp} (ha : BfsAt w va l) (hb : BfsAt w vb l) (hlen : l.length ≤ 1000000) : Calls Tryd.prog 35 #[va, vb] w fun r w' => r = .returned (.bool true) ∧ Below w.heap.size w w' := by
  obtain ⟨aa, ca, rfl, _, _, na, sa⟩ := ha.shape
  obtain ⟨ab, cb, rfl, _, _, nb', sb⟩ := hb.shape
  have HA := hidK sa
  have HB := hidK sb
  have HNA := hidK na
  have HNB := hidK nb'
  obtain ⟨n, hn⟩ : ∃ n, l.length = n := ⟨_, rfl⟩
  have HN := hidK hn
  rw [hn] at hlen ⊢
  clear sa sb na nb' hn ha hb
  go_enter Tryd.func35, Tryd.ntmps35
  go_wp2_with fail
  go_loopw [5] (fun i wr => ∃ k : Nat, k ≤ n ∧ i = .int .i64 k ∧ Hid (Below w.heap.size w wr)) (fun i _ => n - (intOf i).toNat)
  case atStart => exact ⟨0, Nat.zero_le _, rfl, Below.refl _ _⟩
  case round =>
    obtain ⟨k, hk, rfl, HW⟩ := hrel
    by_cases hlt : k < n
    · have hkl : k < l.length := by rw [HN.out]; exact hlt
      cases aa with
      | none => have := (HNA.out rfl).1; rw [this] at hkl; simp at hkl
      | some aa =>
        cases ab with
        | none => have := (HNB.out rfl).1; rw [this] at hkl; simp at hkl
        | some ab =>
          obtain ⟨g1, o1, rfl, _, l1, h1⟩ := HA.out _ rfl
          obtain ⟨g2, o2, rfl, _, l2, h2⟩ := HB.out _ rfl
          obtain ⟨⟨xn, xt, xa⟩, hx⟩ : ∃ q, l[k] = q := ⟨_, rfl⟩
          have HSx : Hid (∀ X, Below w.heap.size w X → X.cell? ⟨g1, o1 + k * 2, none⟩ = some (.string xn) ∧ X.cell? ⟨g1, o1 + k * 2 + 1, none⟩ = some (.string xt) ∧ X.cell? ⟨g2, o2 + k * 2, none⟩ = some (.string xn) ∧ X.cell? ⟨g2, o2 + k * 2 + 1, none⟩ = some (.string xt)) := fun X hX =>
            ⟨(h1 X (hX.block g1 l1)).1 k hkl 0 _ (by rw [hx]; rfl), (h1 X (hX.block g1 l1)).1 k hkl 1 _ (by rw [hx]; rfl), (h2 X (hX.block g2 l2)).1 k hkl 0 _ (by rw [hx]; rfl), (h2 X (hX.block g2 l2)).1 k hkl 1 _ (by rw [hx]; rfl)⟩
          have hi1 : (k : Int) < (n : Int) := by omega
          have he1 : (xn.toList == xn.toList) = true := by simp
          have he2 : (xt.toList == xt.toList) = true := by simp
          clear l1 h1 l2 h2 hx
          go_wp2_with fail
          refine wp_region_held_drew (S := (fun X => X.cell? ⟨g1, o1 + k * 2, none⟩ = some (.string xn) ∧ X.cell? ⟨g1, o1 + k * 2 + 1, none⟩ = some (.string xt) ∧ X.cell? ⟨g2, o2 + k * 2, none⟩ = some (.string xn) ∧ X.cell? ⟨g2, o2 + k * 2 + 1, none⟩ = some (.string xt))) (by kernel_rfl) ?sP (fun hHeld => ?_)
          case sP => ((try dsimp only); first | exact HSx.out _ HW.out | exact HSx.out _ HW.out.drew)
          refine wpAnyH_take (i := 0) (oi := { dst := some 17, op := Op.move (Operand.tmp 0), type := 31, pos := "law.go:33", after := #[], guard := none }) (v := ?vP0n1) rfl (by kernel_rfl) (by kernel_rfl) (by kernel_rfl) (fun _ _ _ h => h) (Or.inl ⟨by rfl, ?yP0n1⟩) (by assumption) ?rP0n1
          case yP0n1 => (intro w hSw; (try dsimp only at hSw); first | (go_simp; done) | (go_simp; with_reducible rfl))
          try simp only [Act.put, List.setIfInBounds_toArray, List.set_cons_zero, List.set_cons_succ]
          refine wpAnyH_take (i := 1) (oi := { dst := some 18, op := Op.move (Operand.tmp 5), type := 3, pos := "law.go:33", after := #[], guard := none }) (v := ?vP1n2) rfl (by kernel_rfl) (by kernel_rfl) (by kernel_rfl) (fun _ _ _ h => h) (Or.inl ⟨by rfl, ?yP1n2⟩) (by assumption) ?rP1n2
          case yP1n2 => (intro w hSw; (try dsimp only at hSw); first | (go_simp; done) | (go_simp; with_reducible rfl))
          try simp only [Act.put, List.setIfInBounds_toArray, List.set_cons_zero, List.set_cons_succ]
          refine wpAnyH_take (i := 2) (oi := { dst := some 19, op := Op.indexAddr 31 (Operand.tmp 17) (Operand.tmp 18), type := 0, pos := "law.go:33", after := #[{ on := 0, ground := Ground.data }, { on := 1, ground := Ground.data }], guard := none }) (v := ?vP2n3) rfl (by kernel_rfl) (by kernel_rfl) (by kernel_rfl) (fun _ _ _ h => h) (Or.inl ⟨by rfl, ?yP2n3⟩) (by assumption) ?rP2n3
          case yP2n3 => (intro w hSw; (try dsimp only at hSw); first | (go_simp; done) | (go_simp; with_reducible rfl))
          try simp only [Act.put, List.setIfInBounds_toArray, List.set_cons_zero, List.set_cons_succ]
          refine wpAnyH_take (i := 3) (oi := { dst := some 20, op := Op.load 34 (Operand.tmp 19), type := 34, pos := "law.go:33", after := #[{ on := 2, ground := Ground.data }], guard := none }) (v := ?vP3n4) rfl (by kernel_rfl) (by kernel_rfl) (by kernel_rfl) (fun _ _ _ h => h) (Or.inl ⟨by rfl, ?yP3n4⟩) (by assumption) ?rP3n4
          case yP3n4 => (intro w hSw; (try dsimp only at hSw); first | (go_simp; done) | (go_simp; with_reducible rfl))
          try simp only [Act.put, List.setIfInBounds_toArray, List.set_cons_zero, List.set_cons_succ]
          refine wpAnyH_take (i := 4) (oi := { dst := some 21, op := Op.move (Operand.tmp 1), type := 31, pos := "law.go:33", after := #[], guard := none }) (v := ?vP4n5) rfl (by kernel_rfl) (by kernel_rfl) (by kernel_rfl) (fun _ _ _ h => h) (Or.inl ⟨by rfl, ?yP4n5⟩) (by assumption) ?rP4n5
          case yP4n5 => (intro w hSw; (try dsimp only at hSw); first | (go_simp; done) | (go_simp; with_reducible rfl))
          try simp only [Act.put, List.setIfInBounds_toArray, List.set_cons_zero, List.set_cons_succ]
          refine wpAnyH_take (i := 5) (oi := { dst := some 22, op := Op.move (Operand.tmp 5), type := 3, pos := "law.go:33", after := #[], guard := none }) (v := ?vP5n6) rfl (by kernel_rfl) (by kernel_rfl) (by kernel_rfl) (fun _ _ _ h => h) (Or.inl ⟨by rfl, ?yP5n6⟩) (by assumption) ?rP5n6
          case yP5n6 => (intro w hSw; (try dsimp only at hSw); first | (go_simp; done) | (go_simp; with_reducible rfl))
          try simp only [Act.put, List.setIfInBounds_toArray, List.set_cons_zero, List.set_cons_succ]
          refine wpAnyH_take (i := 6) (oi := { dst := some 23, op := Op.indexAddr 31 (Operand.tmp 21) (Operand.tmp 22), type := 0, pos := "law.go:33", after := #[{ on := 4, ground := Ground.data }, { on := 5, ground := Ground.data }], guard := none }) (v := ?vP6n7) rfl (by kernel_rfl) (by kernel_rfl) (by kernel_rfl) (fun _ _ _ h => h) (Or.inl ⟨by rfl, ?yP6n7⟩) (by assumption) ?rP6n7
          case yP6n7 => (intro w hSw; (try dsimp only at hSw); first | (go_simp; done) | (go_simp; with_reducible rfl))
          try simp only [Act.put, List.setIfInBounds_toArray, List.set_cons_zero, List.set_cons_succ]
          refine wpAnyH_take (i := 7) (oi := { dst := some 24, op := Op.load 34 (Operand.tmp 23), type := 34, pos := "law.go:33", after := #[{ on := 6, ground := Ground.data }], guard := none }) (v := ?vP7n8) rfl (by kernel_rfl) (by kernel_rfl) (by kernel_rfl) (fun _ _ _ h => h) (Or.inl ⟨by rfl, ?yP7n8⟩) (by assumption) ?rP7n8
          case yP7n8 => (intro w hSw; (try dsimp only at hSw); first | (go_simp; done) | (go_simp; with_reducible rfl))
          try simp only [Act.put, List.setIfInBounds_toArray, List.set_cons_zero, List.set_cons_succ]
          refine wpAnyH_take (i := 8) (oi := { dst := some 25, op := Op.binOp BinOp.neq 34 (Operand.tmp 20) (Operand.tmp 24) 34, type := 4, pos := "law.go:33", after := #[{ on := 3, ground := Ground.data }, { on := 7, ground := Ground.data }], guard := none }) (v := ?vP8n9) rfl (by kernel_rfl) (by kernel_rfl) (by kernel_rfl) (fun _ _ _ h => h) (Or.inl ⟨by rfl, ?yP8n9⟩) (by assumption) ?rP8n9
          case yP8n9 => (intro w hSw; (try dsimp only at hSw); first | (go_simp; done) | (go_simp; with_reducible rfl))
          try simp only [Act.put, List.setIfInBounds_toArray, List.set_cons_zero, List.set_cons_succ]
          refine wpAnyH_done (by kernel_rfl) ?_ _
          go_wp2_with fail
          go_roundw
          case rel => exact ⟨k + 1, by omega, by go_num, HW.out.drew⟩
          case measure => simp [intOf]; omega
    · go_wp2_with fail
      go_ret
      exact ⟨rfl, HW.out⟩
def bufA : ByteArray := ⟨#[98, 117, 102, 102, 101, 114, 48]⟩
theorem nm_zero : nm 0 = bufA := by
  unfold nm
  rw [dec_small (by decide)]
  rfl
def bx : ByteArray := ⟨#[120]⟩
def bc : ByteArray := ⟨#[99]⟩
def ba : ByteArray := ⟨#[97]⟩
theorem sure1 : setF ⟨[], 20, 0⟩ ⟨#[]⟩ ba = (⟨[⟨bufA, ba, true⟩], 20, 1⟩, bufA, 0) := by
  have h0 : nx [] 0 = 0 := by kernel_rfl
  have h : setF ⟨[], 20, 0⟩ ⟨#[]⟩ ba = (setAut ⟨[], 20, 0⟩ ba, nm (nx [] 0), 0) := rfl
  rw [h]
  unfold setAut
  rw [h0, nm_zero]
  rfl
theorem sure2 : setF ⟨[⟨bufA, ba, true⟩], 20, 1⟩ bx bc = (⟨[⟨bx, bc, false⟩, ⟨bufA, ba, true⟩], 20, 1⟩, bx, 0) := by kernel_rfl
theorem sure3 : getF ⟨[⟨bx, bc, false⟩, ⟨bufA, ba, true⟩], 20, 1⟩ ⟨#[]⟩ = (bufA, ba, 0) := by kernel_rfl
theorem Env.self {w0 w1 : World} {b : Nat} (ht : Tens w0) (hb : Below w0.heap.size w0 w1) (hle : w0.heap.size ≤ b) : Env w0 w1 b (.slice none 0 0) := ⟨ht, hb, hle, fun g hg => by cases hg⟩
set_option maxHeartbeats 8000000 in
theorem sure_any {w : World} (ht : Tens w) : Calls Tryd.prog 10 #[] w fun e w' => e = .returned (.bool true) ∧ Below w.heap.size w w' := by
  have HNw := hidK (new_any w)
  have hG0 := good_new 0
  have h1 : ∀ (W : World) (V : Value), Env w W w.heap.size V → Bf W w.heap.size V [] 20 0 → Calls Tryd.prog 11 #[.pointer (some ⟨w.heap.size, 0, none⟩), .string ⟨#[]⟩, .string ⟨#[97]⟩] W fun e w' => e = .returned (.tuple #[.string ⟨#[98, 117, 102, 102, 101, 114, 48]⟩, .int .i64 0]) ∧ ∃ v', Bf w' w.heap.size v' [⟨bufA, ba, true⟩] 20 1 ∧ Stp W w' w.heap.size V v' := fun W V E h => by
    have := set_any (s := ⟨[], 20, 0⟩) (j := 0) E h hG0 (by omega) ⟨#[]⟩ ba (by decide) (by decide)
    rw [sure1] at this
    exact this
  have hG1 : Good ⟨[⟨bufA, ba, true⟩], 20, 1⟩ 1 := by
    have := good_set hG0 (by omega) ⟨#[]⟩ ba
    rw [sure1] at this
    exact this
  have h2 : ∀ (W : World) (V : Value), Env w W w.heap.size V → Bf W w.heap.size V [⟨bufA, ba, true⟩] 20 1 → Calls Tryd.prog 11 #[.pointer (some ⟨w.heap.size, 0, none⟩), .string ⟨#[120]⟩, .string ⟨#[99]⟩] W fun e w' => e = .returned (.tuple #[.string ⟨#[120]⟩, .int .i64 0]) ∧ ∃ v', Bf w' w.heap.size v' [⟨bx, bc, false⟩, ⟨bufA, ba, true⟩] 20 1 ∧ Stp W w' w.heap.size V v' := fun W V E h => by
    have := set_any (s := ⟨[⟨bufA, ba, true⟩], 20, 1⟩) (j := 1) E h hG1 (by omega) bx bc (by decide) (by decide)
    rw [sure2] at this
    exact this
  have hG2 : Good ⟨[⟨bx, bc, false⟩, ⟨bufA, ba, true⟩], 20, 1⟩ 2 := by
    have := good_set hG1 (by omega) bx bc
    rw [sure2] at this
    exact this
  have h3 : ∀ (W : World) (V : Value), Bf W w.heap.size V [⟨bx, bc, false⟩, ⟨bufA, ba, true⟩] 20 1 → Calls Tryd.prog 14 #[.pointer (some ⟨w.heap.size, 0, none⟩), .string ⟨#[]⟩] W fun e w' => e = .returned (.tuple #[.agg #[.string ⟨#[98, 117, 102, 102, 101, 114, 48]⟩, .string ⟨#[97]⟩], .int .i64 0]) ∧ Below W.heap.size W w' := fun W V h => by
    have := get_op (s := ⟨[⟨bx, bc, false⟩, ⟨bufA, ba, true⟩], 20, 1⟩) h hG2 ⟨#[]⟩
    rw [sure3] at this
    exact this
  have h4 : ∀ (W : World) (V : Value), Bf W w.heap.size V [⟨bx, bc, false⟩, ⟨bufA, ba, true⟩] 20 1 → Calls Tryd.prog 13 #[.pointer (some ⟨w.heap.size, 0, none⟩)] W fun e w' => ∃ a p, e = .returned (.slice a 2 p) ∧ Below W.heap.size W w' := fun W V h => by
    refine (list_op (s := ⟨[⟨bx, bc, false⟩, ⟨bufA, ba, true⟩], 20, 1⟩) h hG2).mono ?_
    rintro e w' ⟨v', rfl, ht⟩
    obtain ⟨a, p, rfl, _⟩ := ht.row.shape
    exact ⟨a, p, rfl, ht.below⟩
  have H1 := hidK h1
  have H2 := hidK h2
  have H3 := hidK h3
  have H4 := hidK h4
  have HT := hidK ht
  obtain ⟨b, hb⟩ : ∃ b, w.heap.size = b := ⟨_, rfl⟩
  have Hb := hidK hb
  rw [hb] at H1 H2 H3 H4 HNw
  have HNm := hidK (fun e W => num_any e W)
  clear h1 h2 h3 h4 hG0 hG1 hG2 hb ht
  go_enter Tryd.func10, Tryd.ntmps10
  go_wp2_with fail
  refine HNw.out.mono ?_
  rintro e w1 ⟨rfl, hn1, hn2⟩
  have HE1 := hidK (Env.self HT.out (by rw [Hb.out]; exact hn2) (Nat.le_of_eq Hb.out))
  have HB1 := hidK hn1
  clear hn1 hn2
  go_wp2_with fail
  refine (H1.out _ _ HE1.out HB1.out).mono ?_
  rintro e w2 ⟨rfl, v2, hb2, hs2⟩
  have HE2 := hidK (HE1.out.stp hs2)
  have HB2 := hidK hb2
  clear hb2 hs2
  go_wp2_with fail
  refine (H2.out _ _ HE2.out HB2.out).mono ?_
  rintro e w3 ⟨rfl, v3, hb3, hs3⟩
  have HE3 := hidK (HE2.out.stp hs3)
  have HB3 := hidK hb3
  clear hb3 hs3
  go_wp2_with fail
  refine (H3.out _ _ HB3.out).mono ?_
  rintro e w4 ⟨rfl, hb4⟩
  have HE4 := hidK (HE3.out.below hb4)
  have HB4 := hidK (HB3.out.below hb4)
  clear hb4
  obtain ⟨W5, hW5⟩ : ∃ W, w4.alloc (.cells #[.string ⟨#[98, 117, 102, 102, 101, 114, 48]⟩, .string ⟨#[97]⟩] 34) = W := ⟨_, rfl⟩
  have hb5 : Below w4.heap.size w4 W5 := by rw [← hW5]; exact (Below.refl _ _).alloc (Nat.le_refl _) _
  have HE5 := hidK (HE4.out.below hb5)
  have HB5 := hidK (HB4.out.below hb5)
  have a0 : W5.heap[w4.heap.size]? = some (.cells #[.string ⟨#[98, 117, 102, 102, 101, 114, 48]⟩, .string ⟨#[97]⟩] 34 (0, 0)) := by rw [← hW5]; exact heap_alloc_new _ _
  have x0 := cell_at a0 0
  have x1 := cell_at a0 1
  clear hb5 a0
  have hwz : IntKind.i64.wrap 0 = 0 := by decide
  go_wp2_with (first | (go_at_call 12; refine (HNm.out _ _).mono ?_; rintro e w6 ⟨rfl, hw6⟩; subst hw6) | (go_at_call 13; refine (H4.out _ _ HB5.out).mono ?_; rintro e w9 ⟨a9, p9, rfl, hb9⟩; have HE9 := hidK (HE5.out.below hb9); clear hb9))
  go_ret
  exact ⟨rfl, HE9.out.old⟩
end Go.Proofs.YtgbaeajcgiaboaaDoor
