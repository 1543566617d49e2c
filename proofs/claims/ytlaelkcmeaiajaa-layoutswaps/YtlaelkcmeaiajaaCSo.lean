/-
  Layouts: split.sound, over what its parts' methods do: the walk.
  Layouts: sound, of every tree.
-/
import Derived.Test.YtlaelkcmeaiajaaCAr
namespace Go.Proofs.Ytlaelkcmeaiajaa
open Go.RowKit
set_option linter.unusedVariables false
set_option maxRecDepth 100000

set_option maxHeartbeats 2000000 in
theorem sound_split (g : Nat) (b : Box) (k : Int) (hk : k = 2 ∨ k = 3) (sl : Value) (vs : List Value) (fs : List Nat) (ts : List Tree) (B : Nat) (w : World) (hS : SplitAt w g b k sl) (hR : w.ownsRow B 45 1 sl vs.length vs) (hP : partsAt w B ts vs fs) (hX : Sounds w vs ts) (h2 : 2 ≤ ts.length) (hl : ts.length ≤ 200) (hf : (sideB b.w && sideB b.h) = true) :
    Calls Try.prog 114 #[.pointer (some ⟨g, 0, none⟩)] w fun e w' => e = .returned (.bool (Tree.split b k ts).sound) ∧ Below w.heap.size w w' := by
  have hvl := hP.length
  obtain ⟨pg, cap, hsl, hseen⟩ := seen_of hS hR (by intro e; rw [e] at hvl; simp at hvl; omega)
  subst hsl
  obtain ⟨n, hn⟩ : ∃ n, vs.length = n := ⟨_, rfl⟩
  rw [hn] at hseen
  have hnl : ts.length = n := by rw [← hn, hvl]
  have hn2 : (2 : Int) ≤ (n : Int) := by omega
  have hn200 : n ≤ 200 := by omega
  have hnd : decide ((n : Int) < 2) = false := by simp; omega
  have HN : Hid (ts.length = n) := hnl
  have HX : Hid (Sounds w vs ts) := hX
  have HSe : Hid (∀ X, Below w.heap.size w X → Seen X g k (.slice (some ⟨pg, 0, none⟩) n cap) pg vs) := fun X h => hseen.below h
  have HBx : Hid (∀ X, Below w.heap.size w X → BoxAt X g b) := fun X h => hS.box.below h
  have HFi : Hid (∀ X, Below w.heap.size w X → Calls Try.prog 103 #[.pointer (some ⟨g, 0, none⟩)] X fun e w' => e = .returned (.bool true) ∧ X = w') := fun X h => hf ▸ box_fits g b X (hS.box.below h)
  have c5 := hseen.parts
  have HAny : Hid (SplitAt w g b k (.slice (some ⟨pg, 0, none⟩) vs.length cap) ∧ w.ownsRow B 45 1 (.slice (some ⟨pg, 0, none⟩) vs.length cap) vs.length vs ∧ partsAt w B ts vs fs) := ⟨hS, hR, hP⟩
  obtain ⟨want, hwant⟩ : ∃ x, (Tree.split b k ts).sound = x := ⟨_, rfl⟩
  have HW : Hid ((Tree.split b k ts).sound = want) := hwant
  rw [hwant]
  clear hwant hvl hS hR hP hX hn hnl hseen
  go_enter Try.func114, Try.ntmps114
  go_wp2_with (go_at_call 103; refine (HFi.out _ (Below.refl _ _)).mono ?_; rintro e w1 ⟨rfl, rfl⟩)
  go_loopw [24] (fun v wr => ∃ i : Nat, i ≤ n ∧ v = .int .i64 i ∧ Hid (soundAll (ts.take i) b k = true) ∧ Hid (Below w.heap.size w wr)) (fun v _ => n - (intOf v).toNat)
  case atStart => exact ⟨0, Nat.zero_le _, rfl, (by show soundAll (ts.take 0) b k = true; rfl), Below.refl _ _⟩
  case round =>
    obtain ⟨i, hi, rfl, HA, HBr⟩ := hrel
    clear c5
    have HSr := HSe.out _ HBr.out
    have r4 := HSr.kind
    have r5 := HSr.parts
    by_cases hlt : i < n
    · obtain ⟨t, ht⟩ : ∃ t, ts[i]? = some t := ⟨_, List.getElem?_eq_getElem (by rw [HN.out]; exact hlt)⟩
      obtain ⟨v, T, gi, Fs, Fa, hvi, HP⟩ := HX.out i t ht
      have ri := HSr.row i _ hvi
      have hval := HP.val
      subst hval
      have HAt := soundAll_at ts b k i t ht
      have HTk := soundAll_take ts b k i t ht HA.out
      have m1 := HP.mS
      have m2 := HP.mA
      have m3 := HP.mE
      have m4 := HP.nA
      have m5 := HP.nE
      have m6 := HP.fS
      have m7 := HP.fA
      have HcS : Hid (∀ X, Below w.heap.size w X → Calls Try.prog Fs #[.pointer (some ⟨gi, 0, none⟩)] X fun e w' => e = .returned (.bool t.sound) ∧ Below w.heap.size w w') := fun X h => (HP.cS X h).mono fun e w' h2 => ⟨h2.1, below_step h h2.2⟩
      have HcA : Hid (∀ X, Below w.heap.size w X → Calls Try.prog Fa #[.pointer (some ⟨gi, 0, none⟩), .int .i64 k] X fun e w' => e = .returned (.pointer (if t.kindIs k = true then some ⟨gi, 0, none⟩ else none)) ∧ Below w.heap.size w w') := fun X h => (HP.cA k X h).mono fun e w' h2 => ⟨h2.1, h2.2 ▸ h⟩
      obtain ⟨ak, hak⟩ : ∃ x, acrossK k = x := ⟨_, rfl⟩
      have HcC : Hid (∀ X, Below w.heap.size w X → Calls Try.prog 64 #[.int .i64 k] X fun e w' => e = .returned (.int .i64 ak) ∧ Below w.heap.size w w') := fun X h => (hak ▸ across_any k X).mono fun e w' h2 => ⟨h2.1, h2.2 ▸ h⟩
      obtain ⟨e1, he1⟩ : ∃ x, t.box.ext ak = x := ⟨_, rfl⟩
      obtain ⟨e2, he2⟩ : ∃ x, b.ext ak = x := ⟨_, rfl⟩
      have HcE : Hid (∀ X, Below w.heap.size w X → Calls Try.prog 35 #[.pointer (some ⟨gi, 0, none⟩), .int .i64 ak] X fun e w' => e = .returned (.int .i64 e1) ∧ Below w.heap.size w w') := fun X h => (he1 ▸ HP.cE ak X h).mono fun e w' h2 => ⟨h2.1, h2.2 ▸ h⟩
      have HcB : Hid (∀ X, Below w.heap.size w X → Calls Try.prog 35 #[.pointer (some ⟨g, 0, none⟩), .int .i64 ak] X fun e w' => e = .returned (.int .i64 e2) ∧ Below w.heap.size w w') := fun X h => (he2 ▸ box_extent g b ak X (HBx.out X h)).mono fun e w' h2 => ⟨h2.1, h2.2 ▸ h⟩
      rw [hak, he1, he2] at HAt HTk
      clear hak he1 he2 HP hvi
      obtain ⟨ks, hks⟩ : ∃ x, t.kindIs k = x := ⟨_, rfl⟩
      obtain ⟨sb, hsb⟩ : ∃ x, t.sound = x := ⟨_, rfl⟩
      rw [hks] at HcA HAt HTk
      rw [hsb] at HcS HAt HTk
      clear hks hsb
      have HAt' : Hid (soundAll ts b k = true → (sb && (!ks && decide (e1 = e2))) = true) := HAt
      have HTk' : Hid ((sb && (!ks && decide (e1 = e2))) = true → soundAll (ts.take (i + 1)) b k = true) := HTk
      clear HAt HTk ht HSr
      cases sb
      · have HWf : Hid (want = false) := by
          show _ = _
          rw [← HW.out]
          cases hq : soundAll ts b k with
          | false => unfold Tree.sound; rw [hq]; simp
          | true => exact absurd (HAt'.out hq) (by simp)
        go_wp2_with fail
        refine wp_region_qw (fun X => Below w.heap.size w X) (by kernel_rfl) (by kernel_rfl) HBr.out.drew ?_
        repeat (first
          | (refine qw_take (v := ?_) (by rfl) (fun X hX => ?_) ?_
             rotate_left
             · have x4 := (HSe.out X hX).kind
               go_simp
               all_goals first
                 | with_reducible rfl
                 | with_reducible exact HcS.out X hX
                 | with_reducible exact HcA.out X hX
                 | with_reducible exact HcC.out X hX
                 | with_reducible exact HcE.out X hX
                 | with_reducible exact HcB.out X hX
             intro K hK
             go_simp
             refine hK.out _ ?_
             clear hK K)
          | (refine qw_skip (by rfl) ?_
             intro K hK
             go_simp
             refine hK.out _ ?_
             clear hK K))
        refine qw_nil ?_
        intro w2 hB2
        have HB2 : Hid (Below w.heap.size w w2) := hB2
        clear hB2
        go_wp2
        go_ret
        rw [HWf.out]
        exact ⟨rfl, HB2.out⟩
      · cases ks
        · by_cases hee : e1 = e2
          · simp only [Bool.false_eq_true, if_false] at HcA
            have hed : decide (e1 = e2) = true := by simp [hee]
            have HT2 : Hid (soundAll (ts.take (i + 1)) b k = true) := HTk'.out (by simp [hee])
            subst hee
            clear HAt' HTk' hed
            go_wp2_with fail
            refine wp_region_qw (fun X => Below w.heap.size w X) (by kernel_rfl) (by kernel_rfl) HBr.out.drew ?_
            repeat (first
              | (refine qw_take (v := ?_) (by rfl) (fun X hX => ?_) ?_
                 rotate_left
                 · have x4 := (HSe.out X hX).kind
                   go_simp
                   all_goals first
                     | with_reducible rfl
                     | with_reducible exact HcS.out X hX
                     | with_reducible exact HcA.out X hX
                     | with_reducible exact HcC.out X hX
                     | with_reducible exact HcE.out X hX
                     | with_reducible exact HcB.out X hX
                 intro K hK
                 go_simp
                 refine hK.out _ ?_
                 clear hK K)
              | (refine qw_skip (by rfl) ?_
                 intro K hK
                 go_simp
                 refine hK.out _ ?_
                 clear hK K))
            refine qw_nil ?_
            intro w2 hB2
            have HB2 : Hid (Below w.heap.size w w2) := hB2
            clear hB2
            go_wp2
            go_roundw
            case rel => exact ⟨i + 1, by omega, by go_num, HT2, HB2⟩
            case measure => simp [intOf]; omega
          · simp only [Bool.false_eq_true, if_false] at HcA
            have HWf : Hid (want = false) := by
              show _ = _
              rw [← HW.out]
              cases hq : soundAll ts b k with
              | false => unfold Tree.sound; rw [hq]; simp
              | true => exact absurd (HAt'.out hq) (by simp [hee])
            clear HAt' HTk'
            go_wp2_with fail
            refine wp_region_qw (fun X => Below w.heap.size w X) (by kernel_rfl) (by kernel_rfl) HBr.out.drew ?_
            repeat (first
              | (refine qw_take (v := ?_) (by rfl) (fun X hX => ?_) ?_
                 rotate_left
                 · have x4 := (HSe.out X hX).kind
                   go_simp
                   all_goals first
                     | with_reducible rfl
                     | with_reducible exact HcS.out X hX
                     | with_reducible exact HcA.out X hX
                     | with_reducible exact HcC.out X hX
                     | with_reducible exact HcE.out X hX
                     | with_reducible exact HcB.out X hX
                 intro K hK
                 go_simp
                 refine hK.out _ ?_
                 clear hK K)
              | (refine qw_skip (by rfl) ?_
                 intro K hK
                 go_simp
                 refine hK.out _ ?_
                 clear hK K))
            refine qw_nil ?_
            intro w2 hB2
            have HB2 : Hid (Below w.heap.size w w2) := hB2
            clear hB2
            go_wp2
            go_ret
            rw [HWf.out]
            exact ⟨rfl, HB2.out⟩
        · simp only [if_true] at HcA
          have HWf : Hid (want = false) := by
            show _ = _
            rw [← HW.out]
            cases hq : soundAll ts b k with
            | false => unfold Tree.sound; rw [hq]; simp
            | true => exact absurd (HAt'.out hq) (by simp)
          clear HAt' HTk'
          go_wp2_with fail
          refine wp_region_qw (fun X => Below w.heap.size w X) (by kernel_rfl) (by kernel_rfl) HBr.out.drew ?_
          repeat (first
            | (refine qw_take (v := ?_) (by rfl) (fun X hX => ?_) ?_
               rotate_left
               · have x4 := (HSe.out X hX).kind
                 go_simp
                 all_goals first
                   | with_reducible rfl
                   | with_reducible exact HcS.out X hX
                   | with_reducible exact HcA.out X hX
                   | with_reducible exact HcC.out X hX
                   | with_reducible exact HcE.out X hX
                   | with_reducible exact HcB.out X hX
               intro K hK
               go_simp
               refine hK.out _ ?_
               clear hK K)
            | (refine qw_skip (by rfl) ?_
               intro K hK
               go_simp
               refine hK.out _ ?_
               clear hK K))
          refine qw_nil ?_
          intro w2 hB2
          have HB2 : Hid (Below w.heap.size w w2) := hB2
          clear hB2
          go_wp2
          go_ret
          rw [HWf.out]
          exact ⟨rfl, HB2.out⟩
    · have hin : i = n := by omega
      have HAll : Hid (soundAll ts b k = true) := by
        have h := HA.out
        rw [List.take_of_length_le (by rw [HN.out]; omega)] at h
        exact h
      clear HA
      have hne : ts ≠ [] := by intro e; have := HN.out; rw [e] at this; simp at this; omega
      have HAr0 := around_below g b k hk (.slice (some ⟨pg, 0, none⟩) vs.length cap) vs fs ts B w HAny.out.1 HAny.out.2.1 HAny.out.2.2 hne (soundAll_small ts b k (by rw [HN.out]; omega) HAll.out)
      have hext := around_ext ts k hk hne
      obtain ⟨bb, hbb⟩ : ∃ x, aroundB ts k = x := ⟨_, rfl⟩
      rw [hbb] at HAr0 hext
      have HAr : Hid (∀ X, Below w.heap.size w X → Calls Try.prog 53 #[.pointer (some ⟨g, 0, none⟩)] X fun e w' => e = .returned (.agg #[.int .i64 0, .int .i64 0, .int .i64 bb.w, .int .i64 bb.h]) ∧ Below X.heap.size X w') := HAr0
      have Hext : Hid (bb.ext k = extAll ts k) := hext
      clear hbb HAr0 hext hne
      subst hin
      clear hlt
      go_wp2_with (go_at_call 53; refine (HAr.out _ HBr.out).mono ?_; rintro e w2 ⟨rfl, hB2⟩; have HB2 : Hid (Below w.heap.size w w2) := below_step HBr.out hB2; clear hB2)
      have hnb := heap_alloc_new w2 (.cells #[.int .i64 0, .int .i64 0, .int .i64 bb.w, .int .i64 bb.h] 52)
      have hbx : BoxAt (w2.alloc (.cells #[.int .i64 0, .int .i64 0, .int .i64 bb.w, .int .i64 bb.h] 52)) w2.heap.size ⟨0, 0, bb.w, bb.h⟩ := ⟨cell_atL hnb 0, cell_atL hnb 1, cell_atL hnb 2, cell_atL hnb 3, fun o _ => free_atL hnb o⟩
      have hB3 : Below w.heap.size w (w2.alloc (.cells #[.int .i64 0, .int .i64 0, .int .i64 bb.w, .int .i64 bb.h] 52)) := HB2.out.alloc HB2.out.size _
      clear hnb HBr r4 r5 HSr
      obtain ⟨W3, hW3⟩ : ∃ W3, w2.alloc (.cells #[.int .i64 0, .int .i64 0, .int .i64 bb.w, .int .i64 bb.h] 52) = W3 := ⟨_, rfl⟩
      obtain ⟨N, hN⟩ : ∃ N, w2.heap.size = N := ⟨_, rfl⟩
      rw [hW3] at hbx hB3
      rw [hN] at hbx
      rw [hW3, hN]
      clear hW3 hN HB2
      have HB3 : Hid (Below w.heap.size w W3) := hB3
      obtain ⟨e1, he1⟩ : ∃ x, bb.ext k = x := ⟨_, rfl⟩
      obtain ⟨e2, he2⟩ : ∃ x, b.ext k = x := ⟨_, rfl⟩
      have Hk : Hid (∀ X, Below W3.heap.size W3 X → X.cell? ⟨g, 4, none⟩ = some (.int .i64 k)) := fun X h => (HSe.out X (below_step hB3 h)).kind
      have Hc1 : Hid (∀ X, Below W3.heap.size W3 X → Calls Try.prog 35 #[.pointer (some ⟨N, 0, none⟩), .int .i64 k] X fun e w' => e = .returned (.int .i64 e1) ∧ Below W3.heap.size W3 w') := fun X h => (box_extent N ⟨0, 0, bb.w, bb.h⟩ k X (hbx.below h)).mono fun e w' h2 => ⟨h2.1.trans (by rw [← he1]; rfl), h2.2 ▸ h⟩
      have Hc2 : Hid (∀ X, Below W3.heap.size W3 X → Calls Try.prog 35 #[.pointer (some ⟨g, 0, none⟩), .int .i64 k] X fun e w' => e = .returned (.int .i64 e2) ∧ Below W3.heap.size W3 w') := fun X h => (he2 ▸ box_extent g b k X (HBx.out X (below_step hB3 h))).mono fun e w' h2 => ⟨h2.1, h2.2 ▸ h⟩
      have HWt : Hid (want = decide (e1 = e2)) := by
        show _ = _
        rw [← HW.out, ← he1, ← he2, Hext.out]
        unfold Tree.sound
        rw [HAll.out, hf, decide_eq_true h2]
        rfl
      clear hB3 hbx he1 he2
      refine wp_region_qw (fun X => Below W3.heap.size W3 X) (by kernel_rfl) (by kernel_rfl) (Below.refl _ _).drew ?_
      repeat (
        refine qw_take (v := ?_) (by rfl) (fun X hX => ?_) ?_
        rotate_left
        · have x4 := Hk.out X hX
          go_simp
          all_goals first | with_reducible rfl | with_reducible exact Hc1.out X hX | with_reducible exact Hc2.out X hX
        intro K hK
        go_simp
        refine hK.out _ ?_
        clear hK K)
      refine qw_nil ?_
      intro w4 hB4
      have HB4 : Hid (Below w.heap.size w w4) := below_step HB3.out hB4
      clear hB4
      go_wp2
      go_ret
      rw [HWt.out]
      exact ⟨ret_boolL rfl, HB4.out⟩

end Go.Proofs.Ytlaelkcmeaiajaa

namespace Go.Proofs.Ytlaelkcmeaiajaa
open Go.RowKit
set_option linter.unusedVariables false
set_option maxRecDepth 20000

theorem sound_few (g : Nat) (b : Box) (k : Int) (sl : Value) (vs : List Value) (B : Nat) (w : World) (hS : SplitAt w g b k sl) (hR : w.ownsRow B 45 1 sl vs.length vs) (h2 : vs.length < 2) :
    Calls Try.prog 114 #[.pointer (some ⟨g, 0, none⟩)] w fun e w' => e = .returned (.bool false) ∧ Below w.heap.size w w' := by
  have c5 : w.cell? ⟨g, 5, none⟩ = some sl := cell_atL hS 5
  obtain ⟨n, hn⟩ : ∃ n, vs.length = n := ⟨_, rfl⟩
  rw [hn] at hR h2
  have hnd : ((n : Int) < 2) := by omega
  clear hS hn
  rcases hR.2 with ⟨rfl, h0⟩ | ⟨pg, cap, cur, rfl, _⟩
  · clear hR h0 hnd h2
    go_enter Try.func114, Try.ntmps114
    go_wp2
    all_goals go_ret
    all_goals exact ⟨rfl, Below.refl _ _⟩
  · clear hR h2
    go_enter Try.func114, Try.ntmps114
    go_wp2
    all_goals go_ret
    all_goals exact ⟨rfl, Below.refl _ _⟩
theorem sound_unfit (g : Nat) (b : Box) (k : Int) (sl : Value) (vs : List Value) (B : Nat) (w : World) (hS : SplitAt w g b k sl) (hR : w.ownsRow B 45 1 sl vs.length vs) (h2 : 2 ≤ vs.length) (hf : (sideB b.w && sideB b.h) = false) :
    Calls Try.prog 114 #[.pointer (some ⟨g, 0, none⟩)] w fun e w' => e = .returned (.bool false) ∧ Below w.heap.size w w' := by
  have c5 : w.cell? ⟨g, 5, none⟩ = some sl := cell_atL hS 5
  have HFi : Hid (Calls Try.prog 103 #[.pointer (some ⟨g, 0, none⟩)] w fun e w' => e = .returned (.bool false) ∧ w = w') := hf ▸ box_fits g b w hS.box
  obtain ⟨n, hn⟩ : ∃ n, vs.length = n := ⟨_, rfl⟩
  rw [hn] at hR h2
  have hnd : ¬ ((n : Int) < 2) := by omega
  clear hS hn
  rcases hR.2 with ⟨rfl, h0⟩ | ⟨pg, cap, cur, rfl, _⟩
  · omega
  · clear hR h2
    go_enter Try.func114, Try.ntmps114
    go_wp2_with (go_at_call 103; refine HFi.out.mono ?_; rintro e w1 ⟨rfl, rfl⟩)
    all_goals go_ret
    all_goals exact ⟨rfl, Below.refl _ _⟩

mutual
/-- Splits are rows or columns, of no more than 200 parts. -/
def Tree.fine : Tree → Prop
  | .leaf _ _ => True
  | .split _ k ts => (k = 2 ∨ k = 3) ∧ ts.length ≤ 200 ∧ fines ts
def fines : List Tree → Prop
  | [] => True
  | t :: ts => t.fine ∧ fines ts
end

theorem l_nA (g : Nat) (W : World) : (nilAhead 248 48 (.pointer (some ⟨g, 0, none⟩)) "mullion/layout.as").run Try.prog W = .ok (some false) W := by kernel_rfl
theorem s_nA (g : Nat) (W : World) : (nilAhead 248 72 (.pointer (some ⟨g, 0, none⟩)) "mullion/layout.as").run Try.prog W = .ok (some false) W := by kernel_rfl
theorem l_nE (g : Nat) (W : World) : (nilAhead 248 48 (.pointer (some ⟨g, 0, none⟩)) "mullion/layout.extent").run Try.prog W = .ok (some false) W := by kernel_rfl
theorem s_nE (g : Nat) (W : World) : (nilAhead 248 72 (.pointer (some ⟨g, 0, none⟩)) "mullion/layout.extent").run Try.prog W = .ok (some false) W := by kernel_rfl

theorem LeafAt.below {W W' : World} {g : Nat} {b : Box} {p : Int} (h : LeafAt W g b p) (hb : Below W.heap.size W W') : LeafAt W' g b p := (hb.block g (lt_of_block h)).trans h

theorem sound_of_calls {P : Program} {F : FuncId} {vs : Array Value} {X : World} {r : Bool} (h : Calls P F vs X fun e w' => e = .returned (.bool r) ∧ X = w') : Calls P F vs X fun e w' => e = .returned (.bool r) ∧ Below X.heap.size X w' := h.mono fun e w' h2 => ⟨h2.1, h2.2 ▸ Below.refl _ _⟩

mutual
theorem Tree.At.partS : ∀ {t : Tree} {w : World} {B : Nat} {v : Value} {fp : List Nat}, t.At w B v fp → t.fine → ∃ T gi Fs Fa, PartS w v t T gi Fs Fa
  | .leaf b p, w, B, v, fp, h, _ => by
    obtain ⟨g, rfl, h2, rfl⟩ := h
    exact ⟨_, g, _, _, { val := rfl, mS := l_sound g, mA := l_as g, mE := l_extent g, fS := l_fS, fA := l_fA, nA := l_nA g, nE := l_nE g, cS := fun X hX => sound_of_calls (leaf_sound g b p X (h2.below hX)), cA := fun k X _ => leaf_as g k X, cE := fun k X hX => box_extent g b k X (h2.box.below hX) }⟩
  | .split b k ts, w, B, v, fp, h, hfi => by
    obtain ⟨g, sl, vs, fs, rfl, h2, h3, h4, rfl⟩ := h
    refine ⟨_, g, _, _, { val := rfl, mS := s_sound g, mA := s_as g, mE := s_extent g, fS := s_fS, fA := s_fA, nA := s_nA g, nE := s_nE g, cS := fun X hX => ?_, cA := fun j X hX => ?_, cE := fun j X hX => box_extent g b j X (h2.box.below hX) }⟩
    · have h2' := h2.below hX
      have h3' := own_below h3 hX
      have h4' := h4.below hX
      have hl := h4.length
      by_cases hn : vs.length < 2
      · refine (sound_few g b k sl vs B X h2' h3' hn).mono fun e w' h5 => ⟨h5.1.trans (ret_boolL ?_), h5.2⟩
        unfold Tree.sound
        rw [decide_eq_false (by omega)]
        rfl
      · cases hq : (sideB b.w && sideB b.h) with
        | false =>
          refine (sound_unfit g b k sl vs B X h2' h3' (by omega) hq).mono fun e w' h5 => ⟨h5.1.trans (ret_boolL ?_), h5.2⟩
          unfold Tree.sound
          rw [hq, Bool.and_false]
          rfl
        | true => exact sound_split g b k hfi.1 sl vs fs ts B X h2' h3' h4' (partsAt.sounds h4' hfi.2.2) (by omega) hfi.2.1 hq
    · refine (split_as g b k sl j X (h2.below hX)).mono fun e w' h5 => ⟨h5.1.trans ?_, h5.2⟩
      show Ending.returned (.pointer (if k = j then _ else _)) = Ending.returned (.pointer (if decide (k = j) = true then _ else _))
      by_cases hk : k = j <;> simp [hk]
theorem partsAt.sounds : ∀ {ts : List Tree} {w : World} {B : Nat} {vs : List Value} {fp : List Nat}, partsAt w B ts vs fp → fines ts → Sounds w vs ts
  | [], w, B, vs, fp, h, _ => by
    intro i t hi
    simp at hi
  | t :: ts, w, B, vs, fp, h, hfi => by
    obtain ⟨v, vs', f, f', rfl, h2, h3, rfl⟩ := h
    have h4 := Tree.At.partS h2 hfi.1
    have h5 := partsAt.sounds h3 hfi.2
    intro i t' hi
    cases i with
    | zero =>
      simp at hi
      subst hi
      obtain ⟨T, gi, Fs, Fa, hp⟩ := h4
      exact ⟨v, T, gi, Fs, Fa, rfl, hp⟩
    | succ i => exact h5 i t' (by simpa using hi)
end

end Go.Proofs.Ytlaelkcmeaiajaa
