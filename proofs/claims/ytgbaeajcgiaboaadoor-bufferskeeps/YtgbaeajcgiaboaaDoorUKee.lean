/-
  Buffers: the law of a text that is kept.
-/
import Derived.Test.YtgbaeajcgiaboaaDoorUStp
import Derived.Deep.DeepCutAuto
namespace Go.Proofs.YtgbaeajcgiaboaaDoor
open Go.RowKit
set_option linter.unusedVariables false
set_option maxRecDepth 100000

theorem keep_no {t : ByteArray} (h : ¬ t = keepB) : (t.toList == [107, 101, 101, 112]) = false := by
  cases e : (t.toList == [107, 101, 101, 112])
  · rfl
  · exfalso
    have e2 : t.toList = [107, 101, 101, 112] := by simpa using e
    exact h (toList_inj (e2.trans (by kernel_rfl)))
/-- A told buffer's cells. -/
theorem told_at {w wr : World} {ad : Option Addr} {n cap : Nat} {l : List Kp} (h : BfsAt w (.slice ad n cap) l) (hb : Below w.heap.size w wr) {k : Nat} (hk : k < l.length) : ∃ g o, ad = some ⟨g, o, none⟩ ∧ g < w.heap.size ∧ wr.cell? ⟨g, o + k * 2, none⟩ = some (.string l[k].n) ∧ wr.cell? ⟨g, o + k * 2 + 1, none⟩ = some (.string l[k].t) := by
  obtain ⟨ad', cp, e, _, _, hnil, hsome⟩ := h.shape
  simp only [Value.slice.injEq] at e
  obtain ⟨rfl, -, -⟩ := e
  cases ad with
  | none => have := (hnil rfl).1; subst this; simp at hk
  | some a =>
    obtain ⟨g, o, rfl, _, hg, hat⟩ := hsome _ rfl
    have h1 := (hat wr (hb.block g hg)).1 k hk
    exact ⟨g, o, rfl, hg, h1 0 _ rfl, h1 1 _ rfl⟩
set_option maxHeartbeats 40000000 in
theorem buffersKeeps_walk {w : World} (hT : Tens w) (v1 v2 : Value) (l1 l2 : List Ps) (hv1 : SeeP w v1 l1) (hl1 : ∀ s ∈ l1, s.wf) (hv2 : SeeP w v2 l2) (hl2 : ∀ s ∈ l2, s.wf) (text : ByteArray) (ht : text.size ≤ 140737488355328) :
    Calls Tryd.prog 3 #[v1, v2, .string text] w fun r w' => r = .returned (.bool true) ∧ Below w.heap.size w w' := by
  have HSt1 : Hid (∀ (W : World) (b : Nat) (v0 : Value), Pr w W b v0 ⟨[], 20, 0⟩ → Calls Tryd.prog 9 #[.pointer (some ⟨b, 0, none⟩), v1, .string ⟨#[]⟩] W fun r w' => r = .returned (.tuple #[]) ∧ ∃ (s' : St) (v' : Value), Pr w w' b v' s' ∧ Good s' 300 ∧ Fit none s'.l) := fun W b v0 hP => steps_any hP (good_new 0) (by omega) none (fit_nil _) ⟨#[]⟩ (.inl rfl) v1 l1 hv1 hl1
  have HSt2 : Hid (∀ (W : World) (b : Nat) (v0 : Value) (s : St), Pr w W b v0 s → Good s 301 → Fit (some text) s.l → Calls Tryd.prog 9 #[.pointer (some ⟨b, 0, none⟩), v2, .string ⟨#[107, 101, 101, 112]⟩] W fun r w' => r = .returned (.tuple #[]) ∧ ∃ (s' : St) (v' : Value), Pr w w' b v' s' ∧ Good s' 601 ∧ Fit (some text) s'.l) := fun W b v0 s hP hG hF => steps_any hP hG (by omega) (some text) hF keepB (.inr rfl) v2 l2 hv2 hl2
  have HSe : Hid (∀ (W : World) (b : Nat) (v0 : Value) (s : St), Pr w W b v0 s → Good s 300 → Calls Tryd.prog 11 #[.pointer (some ⟨b, 0, none⟩), .string ⟨#[107, 101, 101, 112]⟩, .string text] W fun e w' => e = .returned (.tuple #[.string (setF s keepB text).2.1, .int .i64 (setF s keepB text).2.2]) ∧ ∃ v', Bf w' b v' (setF s keepB text).1.l ((setF s keepB text).1.lim : Int) ((setF s keepB text).1.c : Int) ∧ Stp W w' b v0 v') := fun W b v0 s hP hG => set_any hP.env hP.bf hG (by omega) keepB text (by decide) ht
  have HSu : Hid (∀ Y, Below w.heap.size w Y → Calls Tryd.prog 10 #[] Y fun r w' => r = .returned (.bool true) ∧ Below Y.heap.size Y w') := fun Y hY => sure_any (hT.below hY)
  have HNw := hidK (new_any w)
  have HNm := hidK (fun e W => num_any e W)
  have HT := hidK hT
  obtain ⟨a1, c1, rfl, _⟩ := hv1
  obtain ⟨a2, c2, rfl, _⟩ := hv2
  obtain ⟨b, hb⟩ : ∃ b, w.heap.size = b := ⟨_, rfl⟩
  have Hb := hidK hb
  rw [hb] at HNw
  obtain ⟨m1, hm1⟩ : ∃ m, l1.length = m := ⟨_, rfl⟩
  obtain ⟨m2, hm2⟩ : ∃ m, l2.length = m := ⟨_, rfl⟩
  rw [hm1] at HSt1 ⊢
  rw [hm2] at HSt2 ⊢
  have HTx := hidK ht
  clear hT hl1 hl2 hm1 hm2 ht hb
  go_enter Tryd.func3, Tryd.ntmps3
  go_wp2_with fail
  refine HNw.out.mono ?_
  rintro e w1 ⟨rfl, hn1, hn2⟩
  have HP1 : Hid (Pr w w1 b (.slice none 0 0) ⟨[], 20, 0⟩) := ⟨Env.self HT.out (by rw [Hb.out]; exact hn2) (Nat.le_of_eq Hb.out), hn1⟩
  clear hn1 hn2 HNw
  go_wp2_with fail
  refine (HSt1.out _ _ _ HP1.out).mono ?_
  rintro e w2 ⟨rfl, s2, vp2, hp2, hg2, hf2⟩
  have HP2 := hidK hp2
  have HG2 := hidK hg2
  have HF2 := hidK hf2
  clear hp2 hg2 hf2 HP1 HSt1
  by_cases hlong : 65536 < text.size
  · have hi : (65536 : Int) < (text.size : Int) := by omega
    go_wp2_with fail
    refine (HSu.out _ HP2.out.env.old).mono ?_
    rintro e Y ⟨rfl, hb⟩
    have HBz := hidK (HP2.out.env.old.trans (hb.mono HP2.out.env.old.size))
    clear hb
    go_wp2_with fail
    go_ret
    exact ⟨rfl, HBz.out⟩
  · have hi : ¬ (65536 : Int) < (text.size : Int) := by omega
    have HSe2 := hidK (HSe.out _ _ _ _ HP2.out HG2.out)
    have hk2 := set_kept HG2.out (by omega) HF2.out (text := text) (by omega)
    clear hlong HSe HF2
    rcases hk2 with ⟨hq, hfull⟩ | ⟨s3, x, r, hq, hl3, hx1, hx2, hg3, hf3⟩
    · rw [hq] at HSe2
      have HSe3 : Hid (Calls Tryd.prog 11 #[.pointer (some ⟨b, 0, none⟩), .string ⟨#[107, 101, 101, 112]⟩, .string text] w2 fun e w' => e = .returned (.tuple #[.string ⟨#[]⟩, .int .i64 3]) ∧ ∃ v', Bf w' b v' s2.l (s2.lim : Int) (s2.c : Int) ∧ Stp w2 w' b vp2 v') := HSe2
      clear HSe2 hq HSt2
      go_wp2_with fail
      refine HSe3.out.mono ?_
      rintro e w5 ⟨rfl, v5, hb5, hs5⟩
      have HP5 := hidK (HP2.out.stp hb5 hs5)
      clear hb5 hs5
      have HLi := hidK (list_op HP5.out.bf HG2.out)
      go_wp2_with (go_at_call 12; refine (HNm.out _ _).mono ?_; rintro e w8 ⟨rfl, hw8⟩; subst hw8)
      refine HLi.out.mono ?_
      rintro e w9 ⟨v9, rfl, ht9⟩
      obtain ⟨a9, p9, rfl, hp9, hm9, _, _⟩ := ht9.row.shape
      have HP9 := hidK (HP5.out.below ht9.below)
      obtain ⟨n9, hn⟩ : ∃ n, s2.l.length = n := ⟨_, rfl⟩
      rw [hn] at hfull ⊢
      have hi20 : (20 : Int) ≤ (n9 : Int) := by omega
      clear ht9 hn HLi hp9 hm9
      go_wp2_with fail
      refine (HSu.out _ HP9.out.env.old).mono ?_
      rintro e Y ⟨rfl, hb⟩
      have HBz := hidK (HP9.out.env.old.trans (hb.mono HP9.out.env.old.size))
      clear hb
      go_wp2_with fail
      go_ret
      exact ⟨rfl, HBz.out⟩
    · rw [hq] at HSe2
      have HSe3 : Hid (Calls Tryd.prog 11 #[.pointer (some ⟨b, 0, none⟩), .string ⟨#[107, 101, 101, 112]⟩, .string text] w2 fun e w' => e = .returned (.tuple #[.string ⟨#[107, 101, 101, 112]⟩, .int .i64 0]) ∧ ∃ v', Bf w' b v' s3.l (s3.lim : Int) (s3.c : Int) ∧ Stp w2 w' b vp2 v') := HSe2
      have HG3 := hidK hg3
      have HF3 := hidK hf3
      have HL3 : Hid (∃ h : 0 < s3.l.length, s3.l[0].n = keepB ∧ s3.l[0].t = text) := ⟨by rw [hl3]; simp, by simp only [hl3, List.getElem_cons_zero]; exact hx1, by simp only [hl3, List.getElem_cons_zero]; exact hx2⟩
      clear HSe2 hq hg3 hf3 hl3 hx1 hx2
      go_wp2_with fail
      refine HSe3.out.mono ?_
      rintro e w5 ⟨rfl, v5, hb5, hs5⟩
      have HP5 := hidK (HP2.out.stp (s' := s3) hb5 hs5)
      clear hb5 hs5 HSe3 HP2 HG2
      have HLi := hidK (list_op HP5.out.bf HG3.out)
      go_wp2_with (go_at_call 12; refine (HNm.out _ _).mono ?_; rintro e w8 ⟨rfl, hw8⟩; subst hw8)
      refine HLi.out.mono ?_
      rintro e w9 ⟨v9, rfl, ht9⟩
      obtain ⟨a9, p9, rfl, _, _, _, _⟩ := ht9.row.shape
      have HP9 := hidK (HP5.out.below ht9.below)
      obtain ⟨hl0, hx1, hx2⟩ := HL3.out
      obtain ⟨g9, o9, rfl, _, d0, d1⟩ := told_at ht9.row (Below.refl _ _) hl0
      rw [hx1] at d0
      rw [hx2] at d1
      have d0' : w9.cell? ⟨g9, o9, none⟩ = some (.string ⟨#[107, 101, 101, 112]⟩) := by simpa [keepB] using d0
      have d1' : w9.cell? ⟨g9, o9 + 1, none⟩ = some (.string text) := by simpa using d1
      obtain ⟨n9, hn⟩ : ∃ n, s3.l.length = n := ⟨_, rfl⟩
      rw [hn] at hl0 ⊢
      have hi0 : (0 : Int) < (n9 : Int) := by omega
      have hi1 : ¬ (n9 : Int) = 0 := by omega
      have hi2 : ((n9 : Int) == 0) = false := by simpa using hi1
      have hi3 : ¬ n9 = 0 := by omega
      have htt : (text.toList == text.toList) = true := by simp
      clear ht9 hn HLi d0 d1 hx1 hx2 HL3 HP5
      go_wp2_with fail
      refine (HSt2.out _ _ _ _ HP9.out HG3.out HF3.out).mono ?_
      rintro e w10 ⟨rfl, s4, v4, hp4, hg4, hf4⟩
      have HP4 := hidK hp4
      have HG4 := hidK hg4
      have HF4 := hidK hf4
      clear hp4 hg4 hf4 HP9 HG3 HF3 d0' d1' hi0 hi1 hi2 hi3 htt
      have HL4 := hidK (list_op HP4.out.bf HG4.out)
      have hlen := HG4.out.len
      go_wp2_with fail
      refine HL4.out.mono ?_
      rintro e w11 ⟨v11, rfl, ht11⟩
      obtain ⟨a11, p11, rfl, _, _, _, _⟩ := ht11.row.shape
      have HPx := hidK (HP4.out.below ht11.below)
      have HRw := hidK ht11.row
      obtain ⟨n, hn⟩ : ∃ n, s4.l.length = n := ⟨_, rfl⟩
      have HN := hidK hn
      rw [hn] at hlen HRw ⊢
      have hi40 : ¬ (40 : Int) < (n : Int) := by omega
      clear ht11 hn HL4 HP4
      go_wp2_with fail
      go_loopw [11] (fun iv wr => ∃ k : Nat, k ≤ n ∧ iv = .int .i64 k ∧ Hid (Below w11.heap.size w11 wr)) (fun iv _ => n - (intOf iv).toNat)
      case atStart => exact ⟨0, Nat.zero_le _, rfl, Below.refl _ _⟩
      case round =>
        obtain ⟨k, hk, rfl, HW⟩ := hrel
        by_cases hlt : k < n
        · have hkl : k < s4.l.length := by rw [HN.out]; exact hlt
          obtain ⟨g, o, rfl, hgl, hq0, hq1⟩ := told_at HRw.out (Below.refl _ _) hkl
          clear hgl hq0 hq1
          obtain ⟨⟨xn, xt, xa⟩, hx⟩ : ∃ q, s4.l[k] = q := ⟨_, rfl⟩
          have HSk : Hid (∀ X, Below w11.heap.size w11 X → X.cell? ⟨g, o + k * 2, none⟩ = some (.string xn) ∧ X.cell? ⟨g, o + k * 2 + 1, none⟩ = some (.string xt)) := fun X hX => by
            obtain ⟨g', o', e, _, q1, q2⟩ := told_at HRw.out hX hkl
            cases e
            rw [hx] at q1 q2
            exact ⟨q1, q2⟩
          have HGk : Hid (getF s4 xn = (xn, xt, 0)) := by
            have := get_self HG4.out HF4.out hkl
            rw [hx] at this
            exact this
          have HKp : Hid (xn = keepB → xt = text) := by
            have := (HF4.out _ (List.getElem_mem hkl)).2 text rfl
            rw [hx] at this
            exact this
          have HNe : Hid (∀ j (hj : j < s4.l.length), j < k → (xn.toList == s4.l[j].n.toList) = false) := fun j hj hjk => by
            have := (List.pairwise_iff_getElem.1 HG4.out.one) j k hj hkl hjk
            rw [hx] at this
            cases e : (xn.toList == s4.l[j].n.toList)
            · rfl
            · exact absurd (toList_inj (by simpa using e)).symm this
          have hi1 : (k : Int) < (n : Int) := by omega
          clear hx hkl
          go_wp2_with fail
          go_loopw [12] (fun iv wz => ∃ j : Nat, j ≤ k ∧ iv = .int .i64 j ∧ Hid (Below w11.heap.size w11 wz)) (fun iv _ => k - (intOf iv).toNat)
          case atStart => exact ⟨0, Nat.zero_le _, rfl, HW⟩
          case round =>
            clear HW
            obtain ⟨j, hj, rfl, HW⟩ := hrel
            by_cases hjk : j < k
            · have hjl : j < s4.l.length := by rw [HN.out]; omega
              obtain ⟨⟨yn, yt, ya⟩, hy⟩ : ∃ q, s4.l[j] = q := ⟨_, rfl⟩
              have hne := HNe.out j hjl hjk
              rw [hy] at hne
              have HSx : Hid (∀ X, Below w11.heap.size w11 X → X.cell? ⟨g, o + k * 2, none⟩ = some (.string xn) ∧ X.cell? ⟨g, o + j * 2, none⟩ = some (.string yn)) := fun X hX => by
                obtain ⟨g', o', e, _, q1, q2⟩ := told_at HRw.out hX hjl
                cases e
                rw [hy] at q1
                exact ⟨(HSk.out X hX).1, q1⟩
              have hi2 : (j : Int) < (k : Int) := by omega
              have hi3 : (j : Int) < (n : Int) := by omega
              clear hy hjl
              go_wp2_with fail
              refine wp_region_held_drew (S := (fun X => X.cell? ⟨g, o + k * 2, none⟩ = some (.string xn) ∧ X.cell? ⟨g, o + j * 2, none⟩ = some (.string yn))) (by kernel_rfl) ?sP (fun hHeld => ?_)
              case sP => ((try dsimp only); first | exact HSx.out _ HW.out | exact HSx.out _ HW.out.drew)
              refine wpAnyH_take (i := 0) (oi := { dst := some 77, op := Op.move (Operand.tmp 10), type := 31, pos := "law.go:138", after := #[], guard := none }) (v := ?vP0n1) rfl (by kernel_rfl) (by kernel_rfl) (by kernel_rfl) (fun _ _ _ h => h) (Or.inl ⟨by rfl, ?yP0n1⟩) (by assumption) ?rP0n1
              case yP0n1 => (intro w hSw; (try dsimp only at hSw); first | (go_simp; done) | (go_simp; with_reducible rfl))
              try simp only [Act.put, List.setIfInBounds_toArray, List.set_cons_zero, List.set_cons_succ]
              refine wpAnyH_take (i := 1) (oi := { dst := some 78, op := Op.move (Operand.tmp 11), type := 3, pos := "law.go:138", after := #[], guard := none }) (v := ?vP1n2) rfl (by kernel_rfl) (by kernel_rfl) (by kernel_rfl) (fun _ _ _ h => h) (Or.inl ⟨by rfl, ?yP1n2⟩) (by assumption) ?rP1n2
              case yP1n2 => (intro w hSw; (try dsimp only at hSw); first | (go_simp; done) | (go_simp; with_reducible rfl))
              try simp only [Act.put, List.setIfInBounds_toArray, List.set_cons_zero, List.set_cons_succ]
              refine wpAnyH_take (i := 2) (oi := { dst := some 79, op := Op.indexAddr 31 (Operand.tmp 77) (Operand.tmp 78), type := 0, pos := "law.go:138", after := #[{ on := 0, ground := Ground.data }, { on := 1, ground := Ground.data }], guard := none }) (v := ?vP2n3) rfl (by kernel_rfl) (by kernel_rfl) (by kernel_rfl) (fun _ _ _ h => h) (Or.inl ⟨by rfl, ?yP2n3⟩) (by assumption) ?rP2n3
              case yP2n3 => (intro w hSw; (try dsimp only at hSw); first | (go_simp; done) | (go_simp; with_reducible rfl))
              try simp only [Act.put, List.setIfInBounds_toArray, List.set_cons_zero, List.set_cons_succ]
              refine wpAnyH_take (i := 3) (oi := { dst := some 80, op := Op.fieldAddr 34 (Operand.tmp 79) 0, type := 0, pos := "law.go:138", after := #[{ on := 2, ground := Ground.data }], guard := none }) (v := ?vP3n4) rfl (by kernel_rfl) (by kernel_rfl) (by kernel_rfl) (fun _ _ _ h => h) (Or.inl ⟨by rfl, ?yP3n4⟩) (by assumption) ?rP3n4
              case yP3n4 => (intro w hSw; (try dsimp only at hSw); first | (go_simp; done) | (go_simp; with_reducible rfl))
              try simp only [Act.put, List.setIfInBounds_toArray, List.set_cons_zero, List.set_cons_succ]
              refine wpAnyH_take (i := 4) (oi := { dst := some 81, op := Op.load 9 (Operand.tmp 80), type := 9, pos := "law.go:138", after := #[{ on := 3, ground := Ground.data }], guard := none }) (v := ?vP4n5) rfl (by kernel_rfl) (by kernel_rfl) (by kernel_rfl) (fun _ _ _ h => h) (Or.inl ⟨by rfl, ?yP4n5⟩) (by assumption) ?rP4n5
              case yP4n5 => (intro w hSw; (try dsimp only at hSw); first | (go_simp; done) | (go_simp; with_reducible rfl))
              try simp only [Act.put, List.setIfInBounds_toArray, List.set_cons_zero, List.set_cons_succ]
              refine wpAnyH_take (i := 5) (oi := { dst := some 82, op := Op.move (Operand.tmp 10), type := 31, pos := "law.go:138", after := #[], guard := none }) (v := ?vP5n6) rfl (by kernel_rfl) (by kernel_rfl) (by kernel_rfl) (fun _ _ _ h => h) (Or.inl ⟨by rfl, ?yP5n6⟩) (by assumption) ?rP5n6
              case yP5n6 => (intro w hSw; (try dsimp only at hSw); first | (go_simp; done) | (go_simp; with_reducible rfl))
              try simp only [Act.put, List.setIfInBounds_toArray, List.set_cons_zero, List.set_cons_succ]
              refine wpAnyH_take (i := 6) (oi := { dst := some 83, op := Op.move (Operand.tmp 12), type := 3, pos := "law.go:138", after := #[], guard := none }) (v := ?vP6n7) rfl (by kernel_rfl) (by kernel_rfl) (by kernel_rfl) (fun _ _ _ h => h) (Or.inl ⟨by rfl, ?yP6n7⟩) (by assumption) ?rP6n7
              case yP6n7 => (intro w hSw; (try dsimp only at hSw); first | (go_simp; done) | (go_simp; with_reducible rfl))
              try simp only [Act.put, List.setIfInBounds_toArray, List.set_cons_zero, List.set_cons_succ]
              refine wpAnyH_take (i := 7) (oi := { dst := some 84, op := Op.indexAddr 31 (Operand.tmp 82) (Operand.tmp 83), type := 0, pos := "law.go:138", after := #[{ on := 5, ground := Ground.data }, { on := 6, ground := Ground.data }], guard := none }) (v := ?vP7n8) rfl (by kernel_rfl) (by kernel_rfl) (by kernel_rfl) (fun _ _ _ h => h) (Or.inl ⟨by rfl, ?yP7n8⟩) (by assumption) ?rP7n8
              case yP7n8 => (intro w hSw; (try dsimp only at hSw); first | (go_simp; done) | (go_simp; with_reducible rfl))
              try simp only [Act.put, List.setIfInBounds_toArray, List.set_cons_zero, List.set_cons_succ]
              refine wpAnyH_take (i := 8) (oi := { dst := some 85, op := Op.fieldAddr 34 (Operand.tmp 84) 0, type := 0, pos := "law.go:138", after := #[{ on := 7, ground := Ground.data }], guard := none }) (v := ?vP8n9) rfl (by kernel_rfl) (by kernel_rfl) (by kernel_rfl) (fun _ _ _ h => h) (Or.inl ⟨by rfl, ?yP8n9⟩) (by assumption) ?rP8n9
              case yP8n9 => (intro w hSw; (try dsimp only at hSw); first | (go_simp; done) | (go_simp; with_reducible rfl))
              try simp only [Act.put, List.setIfInBounds_toArray, List.set_cons_zero, List.set_cons_succ]
              refine wpAnyH_take (i := 9) (oi := { dst := some 86, op := Op.load 9 (Operand.tmp 85), type := 9, pos := "law.go:138", after := #[{ on := 8, ground := Ground.data }], guard := none }) (v := ?vP9n10) rfl (by kernel_rfl) (by kernel_rfl) (by kernel_rfl) (fun _ _ _ h => h) (Or.inl ⟨by rfl, ?yP9n10⟩) (by assumption) ?rP9n10
              case yP9n10 => (intro w hSw; (try dsimp only at hSw); first | (go_simp; done) | (go_simp; with_reducible rfl))
              try simp only [Act.put, List.setIfInBounds_toArray, List.set_cons_zero, List.set_cons_succ]
              refine wpAnyH_take (i := 10) (oi := { dst := some 87, op := Op.binOp BinOp.eql 9 (Operand.tmp 81) (Operand.tmp 86) 9, type := 4, pos := "law.go:138", after := #[{ on := 4, ground := Ground.data }, { on := 9, ground := Ground.data }], guard := none }) (v := ?vP10n11) rfl (by kernel_rfl) (by kernel_rfl) (by kernel_rfl) (fun _ _ _ h => h) (Or.inl ⟨by rfl, ?yP10n11⟩) (by assumption) ?rP10n11
              case yP10n11 => (intro w hSw; (try dsimp only at hSw); first | (go_simp; done) | (go_simp; with_reducible rfl))
              try simp only [Act.put, List.setIfInBounds_toArray, List.set_cons_zero, List.set_cons_succ]
              refine wpAnyH_done (by kernel_rfl) ?_ _
              go_wp2_with fail
              go_roundw
              case rel => exact ⟨j + 1, by omega, by go_num, HW.out.drew⟩
              case measure => simp [intOf]; omega
            · have hi2 : ¬ (j : Int) < (k : Int) := by omega
              have HGe : Hid (Calls Tryd.prog 14 #[.pointer (some ⟨b, 0, none⟩), .string xn] wr fun e w' => e = .returned (.tuple #[.agg #[.string xn, .string xt], .int .i64 0]) ∧ Below wr.heap.size wr w') := by
                have := get_op (HPx.out.below HW.out).bf HG4.out xn
                rw [HGk.out] at this
                exact this
              obtain ⟨q0, q1⟩ := HSk.out _ HW.out
              go_wp2_with fail
              refine HGe.out.mono ?_
              rintro e w12 ⟨rfl, hb12⟩
              obtain ⟨Z, hZ⟩ : ∃ Z, w12.alloc (.cells #[.string xn, .string xt] 34) = Z := ⟨_, rfl⟩
              have hbz : Below w12.heap.size w12 Z := by rw [← hZ]; exact (Below.refl _ _).alloc (Nat.le_refl _) _
              have hzg : Z.heap[w12.heap.size]? = some (.cells #[.string xn, .string xt] 34 (0, 0)) := by rw [← hZ]; exact heap_alloc_new _ _
              obtain ⟨G, hG⟩ : ∃ G, w12.heap.size = G := ⟨_, rfl⟩
              rw [hG] at hzg
              have HWz : Hid (Below w11.heap.size w11 Z) := (HW.out.trans (hb12.mono HW.out.size)).trans (hbz.mono (Nat.le_trans HW.out.size hb12.size))
              have HSy : Hid (∀ X, Below Z.heap.size Z X → X.cell? ⟨G, 0, none⟩ = some (.string xn) ∧ X.cell? ⟨G, 1, none⟩ = some (.string xt) ∧ X.cell? ⟨g, o + k * 2, none⟩ = some (.string xn) ∧ X.cell? ⟨g, o + k * 2 + 1, none⟩ = some (.string xt)) := fun X hX => by
                have e := (hX.block G (lt_block hzg)).trans hzg
                obtain ⟨p0, p1⟩ := HSk.out X (HWz.out.trans (hX.mono HWz.out.size))
                exact ⟨cell_at e 0, cell_at e 1, p0, p1⟩
              have hx1 : (xn.toList == xn.toList) = true := by simp
              have hx2 : (xt.toList == xt.toList) = true := by simp
              clear q0 q1 hb12 hbz hzg
              go_upto_region 26 with fail
              first | rw [hZ] | skip
              first | rw [hG] | skip
              clear hZ hG
              by_cases hkp : xn = keepB
              · have hxt := HKp.out hkp
                subst hxt
                have hkp' : xn = ⟨#[107, 101, 101, 112]⟩ := hkp
                clear hkp
                subst hkp'
                have hk1 : ByteArray.toList ⟨#[107, 101, 101, 112]⟩ = [107, 101, 101, 112] := by kernel_rfl
                refine wp_region_held_drew (S := (fun X => X.cell? ⟨G, 0, none⟩ = some (.string ⟨#[107, 101, 101, 112]⟩) ∧ X.cell? ⟨G, 1, none⟩ = some (.string xt) ∧ X.cell? ⟨g, o + k * 2, none⟩ = some (.string ⟨#[107, 101, 101, 112]⟩) ∧ X.cell? ⟨g, o + k * 2 + 1, none⟩ = some (.string xt))) (by kernel_rfl) ?sK (fun hHeld => ?_)
                case sK => ((try dsimp only); first | exact HSy.out _ (Below.refl _ _) | exact HSy.out _ (Below.refl _ _).drew)
                refine wpAnyH_take (i := 0) (oi := { dst := some 98, op := Op.load 34 (Operand.tmp 13), type := 34, pos := "law.go:143", after := #[], guard := none }) (v := ?vK0n1) rfl (by kernel_rfl) (by kernel_rfl) (by kernel_rfl) (fun _ _ _ h => h) (Or.inl ⟨by rfl, ?yK0n1⟩) (by assumption) ?rK0n1
                case yK0n1 => (intro w hSw; (try dsimp only at hSw); first | (go_simp; done) | (go_simp; with_reducible rfl))
                try simp only [Act.put, List.setIfInBounds_toArray, List.set_cons_zero, List.set_cons_succ]
                refine wpAnyH_take (i := 1) (oi := { dst := some 99, op := Op.move (Operand.tmp 10), type := 31, pos := "law.go:143", after := #[], guard := none }) (v := ?vK1n2) rfl (by kernel_rfl) (by kernel_rfl) (by kernel_rfl) (fun _ _ _ h => h) (Or.inl ⟨by rfl, ?yK1n2⟩) (by assumption) ?rK1n2
                case yK1n2 => (intro w hSw; (try dsimp only at hSw); first | (go_simp; done) | (go_simp; with_reducible rfl))
                try simp only [Act.put, List.setIfInBounds_toArray, List.set_cons_zero, List.set_cons_succ]
                refine wpAnyH_take (i := 2) (oi := { dst := some 100, op := Op.move (Operand.tmp 11), type := 3, pos := "law.go:143", after := #[], guard := none }) (v := ?vK2n3) rfl (by kernel_rfl) (by kernel_rfl) (by kernel_rfl) (fun _ _ _ h => h) (Or.inl ⟨by rfl, ?yK2n3⟩) (by assumption) ?rK2n3
                case yK2n3 => (intro w hSw; (try dsimp only at hSw); first | (go_simp; done) | (go_simp; with_reducible rfl))
                try simp only [Act.put, List.setIfInBounds_toArray, List.set_cons_zero, List.set_cons_succ]
                refine wpAnyH_take (i := 3) (oi := { dst := some 101, op := Op.indexAddr 31 (Operand.tmp 99) (Operand.tmp 100), type := 0, pos := "law.go:143", after := #[{ on := 1, ground := Ground.data }, { on := 2, ground := Ground.data }], guard := none }) (v := ?vK3n4) rfl (by kernel_rfl) (by kernel_rfl) (by kernel_rfl) (fun _ _ _ h => h) (Or.inl ⟨by rfl, ?yK3n4⟩) (by assumption) ?rK3n4
                case yK3n4 => (intro w hSw; (try dsimp only at hSw); first | (go_simp; done) | (go_simp; with_reducible rfl))
                try simp only [Act.put, List.setIfInBounds_toArray, List.set_cons_zero, List.set_cons_succ]
                refine wpAnyH_take (i := 4) (oi := { dst := some 102, op := Op.load 34 (Operand.tmp 101), type := 34, pos := "law.go:143", after := #[{ on := 3, ground := Ground.data }], guard := none }) (v := ?vK4n5) rfl (by kernel_rfl) (by kernel_rfl) (by kernel_rfl) (fun _ _ _ h => h) (Or.inl ⟨by rfl, ?yK4n5⟩) (by assumption) ?rK4n5
                case yK4n5 => (intro w hSw; (try dsimp only at hSw); first | (go_simp; done) | (go_simp; with_reducible rfl))
                try simp only [Act.put, List.setIfInBounds_toArray, List.set_cons_zero, List.set_cons_succ]
                refine wpAnyH_take (i := 5) (oi := { dst := some 103, op := Op.binOp BinOp.neq 34 (Operand.tmp 98) (Operand.tmp 102) 34, type := 4, pos := "law.go:143", after := #[{ on := 0, ground := Ground.data }, { on := 4, ground := Ground.data }], guard := none }) (v := ?vK5n6) rfl (by kernel_rfl) (by kernel_rfl) (by kernel_rfl) (fun _ _ _ h => h) (Or.inl ⟨by rfl, ?yK5n6⟩) (by assumption) ?rK5n6
                case yK5n6 => (intro w hSw; (try dsimp only at hSw); first | (go_simp; done) | (go_simp; with_reducible rfl))
                try simp only [Act.put, List.setIfInBounds_toArray, List.set_cons_zero, List.set_cons_succ]
                refine wpAnyH_take (i := 6) (oi := { dst := some 104, op := Op.move (Operand.tmp 103), type := 4, pos := "law.go:143", after := #[{ on := 5, ground := Ground.data }], guard := none }) (v := ?vK6n7) rfl (by kernel_rfl) (by kernel_rfl) (by kernel_rfl) (fun _ _ _ h => h) (Or.inl ⟨by rfl, ?yK6n7⟩) (by assumption) ?rK6n7
                case yK6n7 => (intro w hSw; (try dsimp only at hSw); first | (go_simp; done) | (go_simp; with_reducible rfl))
                try simp only [Act.put, List.setIfInBounds_toArray, List.set_cons_zero, List.set_cons_succ]
                refine wpAnyH_take (i := 7) (oi := { dst := some 105, op := Op.move (Operand.tmp 14), type := 27, pos := "law.go:143", after := #[{ on := 6, ground := Ground.guard }], guard := some (6, false) }) (v := ?vK7n8) rfl (by kernel_rfl) (by kernel_rfl) (by kernel_rfl) (fun _ _ _ h => h) (Or.inl ⟨by rfl, ?yK7n8⟩) (by assumption) ?rK7n8
                case yK7n8 => (intro w hSw; (try dsimp only at hSw); first | (go_simp; done) | (go_simp; with_reducible rfl))
                try simp only [Act.put, List.setIfInBounds_toArray, List.set_cons_zero, List.set_cons_succ]
                refine wpAnyH_ready (rs := [8]) (by kernel_rfl) (by simp) (AllReadyH.cons (o := { dst := some 106, op := Op.call { callee := Callee.value (Operand.func 12), args := #[Operand.tmp 105], argTypes := #[27] }, type := 3, pos := "law.go:143", after := #[{ on := 7, ground := Ground.data }, { on := 6, ground := Ground.chain }, { on := 6, ground := Ground.guard }], guard := some (6, false) }) rfl (fun K hK => ?bKn9q0) AllReadyH.nil)
                go_simp
                go_wp2_with (refine (HNm.out _ _).mono ?_; rintro e Y1 ⟨rfl, rfl⟩)
                refine hK.out _ _ ?kKn9o8 (fun hHeld9 => ?_)
                case kKn9o8 => ((try dsimp only); first | exact HSy.out _ (Below.refl _ _) | exact HSy.out _ (Below.refl _ _).drew)
                clear hK K
                try simp only [Act.put, List.setIfInBounds_toArray, List.set_cons_zero, List.set_cons_succ]
                refine wpAnyH_take (i := 9) (oi := { dst := some 107, op := Op.binOp BinOp.neq 3 (Operand.tmp 106) (Operand.const (Value.int IntKind.i64 0)) 3, type := 4, pos := "law.go:143", after := #[{ on := 8, ground := Ground.data }, { on := 6, ground := Ground.guard }], guard := some (6, false) }) (v := ?vK9n10) rfl (by kernel_rfl) (by kernel_rfl) (by kernel_rfl) (fun _ _ _ h => h) (Or.inl ⟨by rfl, ?yK9n10⟩) (by assumption) ?rK9n10
                case yK9n10 => (intro w hSw; (try dsimp only at hSw); first | (go_simp; done) | (go_simp; with_reducible rfl))
                try simp only [Act.put, List.setIfInBounds_toArray, List.set_cons_zero, List.set_cons_succ]
                refine wpAnyH_take (i := 10) (oi := { dst := some 108, op := Op.pick (Operand.tmp 104) (Operand.const (Value.bool true)) (Operand.tmp 107), type := 4, pos := "law.go:143", after := #[{ on := 6, ground := Ground.data }, { on := 9, ground := Ground.data }], guard := none }) (v := ?vK10n11) rfl (by kernel_rfl) (by kernel_rfl) (by kernel_rfl) (fun _ _ _ h => h) (Or.inl ⟨by rfl, ?yK10n11⟩) (by assumption) ?rK10n11
                case yK10n11 => (intro w hSw; (try dsimp only at hSw); first | (go_simp; done) | (go_simp; with_reducible rfl))
                try simp only [Act.put, List.setIfInBounds_toArray, List.set_cons_zero, List.set_cons_succ]
                refine wpAnyH_take (i := 11) (oi := { dst := some 109, op := Op.move (Operand.tmp 108), type := 4, pos := "law.go:143", after := #[{ on := 10, ground := Ground.data }, { on := 8, ground := Ground.chain }], guard := none }) (v := ?vK11n12) rfl (by kernel_rfl) (by kernel_rfl) (by kernel_rfl) (fun _ _ _ h => h) (Or.inl ⟨by rfl, ?yK11n12⟩) (by assumption) ?rK11n12
                case yK11n12 => (intro w hSw; (try dsimp only at hSw); first | (go_simp; done) | (go_simp; with_reducible rfl))
                try simp only [Act.put, List.setIfInBounds_toArray, List.set_cons_zero, List.set_cons_succ]
                refine wpAnyH_take (i := 12) (oi := { dst := some 110, op := Op.move (Operand.tmp 10), type := 31, pos := "law.go:143", after := #[{ on := 11, ground := Ground.guard }], guard := some (11, false) }) (v := ?vK12n13) rfl (by kernel_rfl) (by kernel_rfl) (by kernel_rfl) (fun _ _ _ h => h) (Or.inl ⟨by rfl, ?yK12n13⟩) (by assumption) ?rK12n13
                case yK12n13 => (intro w hSw; (try dsimp only at hSw); first | (go_simp; done) | (go_simp; with_reducible rfl))
                try simp only [Act.put, List.setIfInBounds_toArray, List.set_cons_zero, List.set_cons_succ]
                refine wpAnyH_take (i := 13) (oi := { dst := some 111, op := Op.move (Operand.tmp 11), type := 3, pos := "law.go:143", after := #[{ on := 11, ground := Ground.guard }], guard := some (11, false) }) (v := ?vK13n14) rfl (by kernel_rfl) (by kernel_rfl) (by kernel_rfl) (fun _ _ _ h => h) (Or.inl ⟨by rfl, ?yK13n14⟩) (by assumption) ?rK13n14
                case yK13n14 => (intro w hSw; (try dsimp only at hSw); first | (go_simp; done) | (go_simp; with_reducible rfl))
                try simp only [Act.put, List.setIfInBounds_toArray, List.set_cons_zero, List.set_cons_succ]
                refine wpAnyH_take (i := 14) (oi := { dst := some 112, op := Op.indexAddr 31 (Operand.tmp 110) (Operand.tmp 111), type := 0, pos := "law.go:143", after := #[{ on := 12, ground := Ground.data }, { on := 13, ground := Ground.data }, { on := 11, ground := Ground.guard }], guard := some (11, false) }) (v := ?vK14n15) rfl (by kernel_rfl) (by kernel_rfl) (by kernel_rfl) (fun _ _ _ h => h) (Or.inl ⟨by rfl, ?yK14n15⟩) (by assumption) ?rK14n15
                case yK14n15 => (intro w hSw; (try dsimp only at hSw); first | (go_simp; done) | (go_simp; with_reducible rfl))
                try simp only [Act.put, List.setIfInBounds_toArray, List.set_cons_zero, List.set_cons_succ]
                refine wpAnyH_take (i := 15) (oi := { dst := some 113, op := Op.fieldAddr 34 (Operand.tmp 112) 0, type := 0, pos := "law.go:143", after := #[{ on := 14, ground := Ground.data }, { on := 11, ground := Ground.guard }], guard := some (11, false) }) (v := ?vK15n16) rfl (by kernel_rfl) (by kernel_rfl) (by kernel_rfl) (fun _ _ _ h => h) (Or.inl ⟨by rfl, ?yK15n16⟩) (by assumption) ?rK15n16
                case yK15n16 => (intro w hSw; (try dsimp only at hSw); first | (go_simp; done) | (go_simp; with_reducible rfl))
                try simp only [Act.put, List.setIfInBounds_toArray, List.set_cons_zero, List.set_cons_succ]
                refine wpAnyH_take (i := 16) (oi := { dst := some 114, op := Op.load 9 (Operand.tmp 113), type := 9, pos := "law.go:143", after := #[{ on := 15, ground := Ground.data }, { on := 11, ground := Ground.guard }], guard := some (11, false) }) (v := ?vK16n17) rfl (by kernel_rfl) (by kernel_rfl) (by kernel_rfl) (fun _ _ _ h => h) (Or.inl ⟨by rfl, ?yK16n17⟩) (by assumption) ?rK16n17
                case yK16n17 => (intro w hSw; (try dsimp only at hSw); first | (go_simp; done) | (go_simp; with_reducible rfl))
                try simp only [Act.put, List.setIfInBounds_toArray, List.set_cons_zero, List.set_cons_succ]
                refine wpAnyH_take (i := 17) (oi := { dst := some 115, op := Op.binOp BinOp.eql 9 (Operand.tmp 114) (Operand.const (Value.string { data := #[107, 101, 101, 112] })) 9, type := 4, pos := "law.go:143", after := #[{ on := 16, ground := Ground.data }, { on := 11, ground := Ground.guard }], guard := some (11, false) }) (v := ?vK17n18) rfl (by kernel_rfl) (by kernel_rfl) (by kernel_rfl) (fun _ _ _ h => h) (Or.inl ⟨by rfl, ?yK17n18⟩) (by assumption) ?rK17n18
                case yK17n18 => (intro w hSw; (try dsimp only at hSw); first | (go_simp; done) | (go_simp; with_reducible rfl))
                try simp only [Act.put, List.setIfInBounds_toArray, List.set_cons_zero, List.set_cons_succ]
                refine wpAnyH_take (i := 18) (oi := { dst := some 116, op := Op.move (Operand.tmp 115), type := 4, pos := "law.go:143", after := #[{ on := 17, ground := Ground.data }, { on := 11, ground := Ground.chain }, { on := 11, ground := Ground.guard }], guard := some (11, false) }) (v := ?vK18n19) rfl (by kernel_rfl) (by kernel_rfl) (by kernel_rfl) (fun _ _ _ h => h) (Or.inl ⟨by rfl, ?yK18n19⟩) (by assumption) ?rK18n19
                case yK18n19 => (intro w hSw; (try dsimp only at hSw); first | (go_simp; done) | (go_simp; with_reducible rfl))
                try simp only [Act.put, List.setIfInBounds_toArray, List.set_cons_zero, List.set_cons_succ]
                refine wpAnyH_take (i := 19) (oi := { dst := some 117, op := Op.move (Operand.tmp 10), type := 31, pos := "law.go:143", after := #[{ on := 18, ground := Ground.guard }], guard := some (18, true) }) (v := ?vK19n20) rfl (by kernel_rfl) (by kernel_rfl) (by kernel_rfl) (fun _ _ _ h => h) (Or.inl ⟨by rfl, ?yK19n20⟩) (by assumption) ?rK19n20
                case yK19n20 => (intro w hSw; (try dsimp only at hSw); first | (go_simp; done) | (go_simp; with_reducible rfl))
                try simp only [Act.put, List.setIfInBounds_toArray, List.set_cons_zero, List.set_cons_succ]
                refine wpAnyH_take (i := 20) (oi := { dst := some 118, op := Op.move (Operand.tmp 11), type := 3, pos := "law.go:143", after := #[{ on := 18, ground := Ground.guard }], guard := some (18, true) }) (v := ?vK20n21) rfl (by kernel_rfl) (by kernel_rfl) (by kernel_rfl) (fun _ _ _ h => h) (Or.inl ⟨by rfl, ?yK20n21⟩) (by assumption) ?rK20n21
                case yK20n21 => (intro w hSw; (try dsimp only at hSw); first | (go_simp; done) | (go_simp; with_reducible rfl))
                try simp only [Act.put, List.setIfInBounds_toArray, List.set_cons_zero, List.set_cons_succ]
                refine wpAnyH_take (i := 21) (oi := { dst := some 119, op := Op.indexAddr 31 (Operand.tmp 117) (Operand.tmp 118), type := 0, pos := "law.go:143", after := #[{ on := 19, ground := Ground.data }, { on := 20, ground := Ground.data }, { on := 18, ground := Ground.guard }], guard := some (18, true) }) (v := ?vK21n22) rfl (by kernel_rfl) (by kernel_rfl) (by kernel_rfl) (fun _ _ _ h => h) (Or.inl ⟨by rfl, ?yK21n22⟩) (by assumption) ?rK21n22
                case yK21n22 => (intro w hSw; (try dsimp only at hSw); first | (go_simp; done) | (go_simp; with_reducible rfl))
                try simp only [Act.put, List.setIfInBounds_toArray, List.set_cons_zero, List.set_cons_succ]
                refine wpAnyH_take (i := 22) (oi := { dst := some 120, op := Op.fieldAddr 34 (Operand.tmp 119) 1, type := 0, pos := "law.go:143", after := #[{ on := 21, ground := Ground.data }, { on := 18, ground := Ground.guard }], guard := some (18, true) }) (v := ?vK22n23) rfl (by kernel_rfl) (by kernel_rfl) (by kernel_rfl) (fun _ _ _ h => h) (Or.inl ⟨by rfl, ?yK22n23⟩) (by assumption) ?rK22n23
                case yK22n23 => (intro w hSw; (try dsimp only at hSw); first | (go_simp; done) | (go_simp; with_reducible rfl))
                try simp only [Act.put, List.setIfInBounds_toArray, List.set_cons_zero, List.set_cons_succ]
                refine wpAnyH_take (i := 23) (oi := { dst := some 121, op := Op.load 9 (Operand.tmp 120), type := 9, pos := "law.go:143", after := #[{ on := 22, ground := Ground.data }, { on := 18, ground := Ground.guard }], guard := some (18, true) }) (v := ?vK23n24) rfl (by kernel_rfl) (by kernel_rfl) (by kernel_rfl) (fun _ _ _ h => h) (Or.inl ⟨by rfl, ?yK23n24⟩) (by assumption) ?rK23n24
                case yK23n24 => (intro w hSw; (try dsimp only at hSw); first | (go_simp; done) | (go_simp; with_reducible rfl))
                try simp only [Act.put, List.setIfInBounds_toArray, List.set_cons_zero, List.set_cons_succ]
                refine wpAnyH_take (i := 24) (oi := { dst := some 122, op := Op.move (Operand.tmp 2), type := 9, pos := "law.go:143", after := #[{ on := 18, ground := Ground.guard }], guard := some (18, true) }) (v := ?vK24n25) rfl (by kernel_rfl) (by kernel_rfl) (by kernel_rfl) (fun _ _ _ h => h) (Or.inl ⟨by rfl, ?yK24n25⟩) (by assumption) ?rK24n25
                case yK24n25 => (intro w hSw; (try dsimp only at hSw); first | (go_simp; done) | (go_simp; with_reducible rfl))
                try simp only [Act.put, List.setIfInBounds_toArray, List.set_cons_zero, List.set_cons_succ]
                refine wpAnyH_take (i := 25) (oi := { dst := some 123, op := Op.binOp BinOp.neq 9 (Operand.tmp 121) (Operand.tmp 122) 9, type := 4, pos := "law.go:143", after := #[{ on := 23, ground := Ground.data }, { on := 24, ground := Ground.data }, { on := 18, ground := Ground.guard }], guard := some (18, true) }) (v := ?vK25n26) rfl (by kernel_rfl) (by kernel_rfl) (by kernel_rfl) (fun _ _ _ h => h) (Or.inl ⟨by rfl, ?yK25n26⟩) (by assumption) ?rK25n26
                case yK25n26 => (intro w hSw; (try dsimp only at hSw); first | (go_simp; done) | (go_simp; with_reducible rfl))
                try simp only [Act.put, List.setIfInBounds_toArray, List.set_cons_zero, List.set_cons_succ]
                refine wpAnyH_take (i := 26) (oi := { dst := some 124, op := Op.pick (Operand.tmp 116) (Operand.tmp 123) (Operand.const (Value.bool false)), type := 4, pos := "law.go:143", after := #[{ on := 18, ground := Ground.data }, { on := 25, ground := Ground.data }, { on := 11, ground := Ground.guard }], guard := some (11, false) }) (v := ?vK26n27) rfl (by kernel_rfl) (by kernel_rfl) (by kernel_rfl) (fun _ _ _ h => h) (Or.inl ⟨by rfl, ?yK26n27⟩) (by assumption) ?rK26n27
                case yK26n27 => (intro w hSw; (try dsimp only at hSw); first | (go_simp; done) | (go_simp; with_reducible rfl))
                try simp only [Act.put, List.setIfInBounds_toArray, List.set_cons_zero, List.set_cons_succ]
                refine wpAnyH_take (i := 27) (oi := { dst := some 125, op := Op.pick (Operand.tmp 109) (Operand.const (Value.bool true)) (Operand.tmp 124), type := 4, pos := "law.go:143", after := #[{ on := 11, ground := Ground.data }, { on := 26, ground := Ground.data }], guard := none }) (v := ?vK27n28) rfl (by kernel_rfl) (by kernel_rfl) (by kernel_rfl) (fun _ _ _ h => h) (Or.inl ⟨by rfl, ?yK27n28⟩) (by assumption) ?rK27n28
                case yK27n28 => (intro w hSw; (try dsimp only at hSw); first | (go_simp; done) | (go_simp; with_reducible rfl))
                try simp only [Act.put, List.setIfInBounds_toArray, List.set_cons_zero, List.set_cons_succ]
                refine wpAnyH_done (by kernel_rfl) ?_ _
                go_wp2_with fail
                go_roundw
                case rel => exact ⟨k + 1, by omega, by go_num, by first | exact HWz.out.drew | exact HWz.out⟩
                case measure => simp [intOf]; omega
              · have hk1 := keep_no hkp
                refine wp_region_held_drew (S := (fun X => X.cell? ⟨G, 0, none⟩ = some (.string xn) ∧ X.cell? ⟨G, 1, none⟩ = some (.string xt) ∧ X.cell? ⟨g, o + k * 2, none⟩ = some (.string xn) ∧ X.cell? ⟨g, o + k * 2 + 1, none⟩ = some (.string xt))) (by kernel_rfl) ?sU (fun hHeld => ?_)
                case sU => ((try dsimp only); first | exact HSy.out _ (Below.refl _ _) | exact HSy.out _ (Below.refl _ _).drew)
                refine wpAnyH_take (i := 0) (oi := { dst := some 98, op := Op.load 34 (Operand.tmp 13), type := 34, pos := "law.go:143", after := #[], guard := none }) (v := ?vU0n1) rfl (by kernel_rfl) (by kernel_rfl) (by kernel_rfl) (fun _ _ _ h => h) (Or.inl ⟨by rfl, ?yU0n1⟩) (by assumption) ?rU0n1
                case yU0n1 => (intro w hSw; (try dsimp only at hSw); first | (go_simp; done) | (go_simp; with_reducible rfl))
                try simp only [Act.put, List.setIfInBounds_toArray, List.set_cons_zero, List.set_cons_succ]
                refine wpAnyH_take (i := 1) (oi := { dst := some 99, op := Op.move (Operand.tmp 10), type := 31, pos := "law.go:143", after := #[], guard := none }) (v := ?vU1n2) rfl (by kernel_rfl) (by kernel_rfl) (by kernel_rfl) (fun _ _ _ h => h) (Or.inl ⟨by rfl, ?yU1n2⟩) (by assumption) ?rU1n2
                case yU1n2 => (intro w hSw; (try dsimp only at hSw); first | (go_simp; done) | (go_simp; with_reducible rfl))
                try simp only [Act.put, List.setIfInBounds_toArray, List.set_cons_zero, List.set_cons_succ]
                refine wpAnyH_take (i := 2) (oi := { dst := some 100, op := Op.move (Operand.tmp 11), type := 3, pos := "law.go:143", after := #[], guard := none }) (v := ?vU2n3) rfl (by kernel_rfl) (by kernel_rfl) (by kernel_rfl) (fun _ _ _ h => h) (Or.inl ⟨by rfl, ?yU2n3⟩) (by assumption) ?rU2n3
                case yU2n3 => (intro w hSw; (try dsimp only at hSw); first | (go_simp; done) | (go_simp; with_reducible rfl))
                try simp only [Act.put, List.setIfInBounds_toArray, List.set_cons_zero, List.set_cons_succ]
                refine wpAnyH_take (i := 3) (oi := { dst := some 101, op := Op.indexAddr 31 (Operand.tmp 99) (Operand.tmp 100), type := 0, pos := "law.go:143", after := #[{ on := 1, ground := Ground.data }, { on := 2, ground := Ground.data }], guard := none }) (v := ?vU3n4) rfl (by kernel_rfl) (by kernel_rfl) (by kernel_rfl) (fun _ _ _ h => h) (Or.inl ⟨by rfl, ?yU3n4⟩) (by assumption) ?rU3n4
                case yU3n4 => (intro w hSw; (try dsimp only at hSw); first | (go_simp; done) | (go_simp; with_reducible rfl))
                try simp only [Act.put, List.setIfInBounds_toArray, List.set_cons_zero, List.set_cons_succ]
                refine wpAnyH_take (i := 4) (oi := { dst := some 102, op := Op.load 34 (Operand.tmp 101), type := 34, pos := "law.go:143", after := #[{ on := 3, ground := Ground.data }], guard := none }) (v := ?vU4n5) rfl (by kernel_rfl) (by kernel_rfl) (by kernel_rfl) (fun _ _ _ h => h) (Or.inl ⟨by rfl, ?yU4n5⟩) (by assumption) ?rU4n5
                case yU4n5 => (intro w hSw; (try dsimp only at hSw); first | (go_simp; done) | (go_simp; with_reducible rfl))
                try simp only [Act.put, List.setIfInBounds_toArray, List.set_cons_zero, List.set_cons_succ]
                refine wpAnyH_take (i := 5) (oi := { dst := some 103, op := Op.binOp BinOp.neq 34 (Operand.tmp 98) (Operand.tmp 102) 34, type := 4, pos := "law.go:143", after := #[{ on := 0, ground := Ground.data }, { on := 4, ground := Ground.data }], guard := none }) (v := ?vU5n6) rfl (by kernel_rfl) (by kernel_rfl) (by kernel_rfl) (fun _ _ _ h => h) (Or.inl ⟨by rfl, ?yU5n6⟩) (by assumption) ?rU5n6
                case yU5n6 => (intro w hSw; (try dsimp only at hSw); first | (go_simp; done) | (go_simp; with_reducible rfl))
                try simp only [Act.put, List.setIfInBounds_toArray, List.set_cons_zero, List.set_cons_succ]
                refine wpAnyH_take (i := 6) (oi := { dst := some 104, op := Op.move (Operand.tmp 103), type := 4, pos := "law.go:143", after := #[{ on := 5, ground := Ground.data }], guard := none }) (v := ?vU6n7) rfl (by kernel_rfl) (by kernel_rfl) (by kernel_rfl) (fun _ _ _ h => h) (Or.inl ⟨by rfl, ?yU6n7⟩) (by assumption) ?rU6n7
                case yU6n7 => (intro w hSw; (try dsimp only at hSw); first | (go_simp; done) | (go_simp; with_reducible rfl))
                try simp only [Act.put, List.setIfInBounds_toArray, List.set_cons_zero, List.set_cons_succ]
                refine wpAnyH_take (i := 7) (oi := { dst := some 105, op := Op.move (Operand.tmp 14), type := 27, pos := "law.go:143", after := #[{ on := 6, ground := Ground.guard }], guard := some (6, false) }) (v := ?vU7n8) rfl (by kernel_rfl) (by kernel_rfl) (by kernel_rfl) (fun _ _ _ h => h) (Or.inl ⟨by rfl, ?yU7n8⟩) (by assumption) ?rU7n8
                case yU7n8 => (intro w hSw; (try dsimp only at hSw); first | (go_simp; done) | (go_simp; with_reducible rfl))
                try simp only [Act.put, List.setIfInBounds_toArray, List.set_cons_zero, List.set_cons_succ]
                refine wpAnyH_ready (rs := [8]) (by kernel_rfl) (by simp) (AllReadyH.cons (o := { dst := some 106, op := Op.call { callee := Callee.value (Operand.func 12), args := #[Operand.tmp 105], argTypes := #[27] }, type := 3, pos := "law.go:143", after := #[{ on := 7, ground := Ground.data }, { on := 6, ground := Ground.chain }, { on := 6, ground := Ground.guard }], guard := some (6, false) }) rfl (fun K hK => ?bUn9q0) AllReadyH.nil)
                go_simp
                go_wp2_with (refine (HNm.out _ _).mono ?_; rintro e Y1 ⟨rfl, rfl⟩)
                refine hK.out _ _ ?kUn9o8 (fun hHeld9 => ?_)
                case kUn9o8 => ((try dsimp only); first | exact HSy.out _ (Below.refl _ _) | exact HSy.out _ (Below.refl _ _).drew)
                clear hK K
                try simp only [Act.put, List.setIfInBounds_toArray, List.set_cons_zero, List.set_cons_succ]
                refine wpAnyH_take (i := 9) (oi := { dst := some 107, op := Op.binOp BinOp.neq 3 (Operand.tmp 106) (Operand.const (Value.int IntKind.i64 0)) 3, type := 4, pos := "law.go:143", after := #[{ on := 8, ground := Ground.data }, { on := 6, ground := Ground.guard }], guard := some (6, false) }) (v := ?vU9n10) rfl (by kernel_rfl) (by kernel_rfl) (by kernel_rfl) (fun _ _ _ h => h) (Or.inl ⟨by rfl, ?yU9n10⟩) (by assumption) ?rU9n10
                case yU9n10 => (intro w hSw; (try dsimp only at hSw); first | (go_simp; done) | (go_simp; with_reducible rfl))
                try simp only [Act.put, List.setIfInBounds_toArray, List.set_cons_zero, List.set_cons_succ]
                refine wpAnyH_take (i := 10) (oi := { dst := some 108, op := Op.pick (Operand.tmp 104) (Operand.const (Value.bool true)) (Operand.tmp 107), type := 4, pos := "law.go:143", after := #[{ on := 6, ground := Ground.data }, { on := 9, ground := Ground.data }], guard := none }) (v := ?vU10n11) rfl (by kernel_rfl) (by kernel_rfl) (by kernel_rfl) (fun _ _ _ h => h) (Or.inl ⟨by rfl, ?yU10n11⟩) (by assumption) ?rU10n11
                case yU10n11 => (intro w hSw; (try dsimp only at hSw); first | (go_simp; done) | (go_simp; with_reducible rfl))
                try simp only [Act.put, List.setIfInBounds_toArray, List.set_cons_zero, List.set_cons_succ]
                refine wpAnyH_take (i := 11) (oi := { dst := some 109, op := Op.move (Operand.tmp 108), type := 4, pos := "law.go:143", after := #[{ on := 10, ground := Ground.data }, { on := 8, ground := Ground.chain }], guard := none }) (v := ?vU11n12) rfl (by kernel_rfl) (by kernel_rfl) (by kernel_rfl) (fun _ _ _ h => h) (Or.inl ⟨by rfl, ?yU11n12⟩) (by assumption) ?rU11n12
                case yU11n12 => (intro w hSw; (try dsimp only at hSw); first | (go_simp; done) | (go_simp; with_reducible rfl))
                try simp only [Act.put, List.setIfInBounds_toArray, List.set_cons_zero, List.set_cons_succ]
                refine wpAnyH_take (i := 12) (oi := { dst := some 110, op := Op.move (Operand.tmp 10), type := 31, pos := "law.go:143", after := #[{ on := 11, ground := Ground.guard }], guard := some (11, false) }) (v := ?vU12n13) rfl (by kernel_rfl) (by kernel_rfl) (by kernel_rfl) (fun _ _ _ h => h) (Or.inl ⟨by rfl, ?yU12n13⟩) (by assumption) ?rU12n13
                case yU12n13 => (intro w hSw; (try dsimp only at hSw); first | (go_simp; done) | (go_simp; with_reducible rfl))
                try simp only [Act.put, List.setIfInBounds_toArray, List.set_cons_zero, List.set_cons_succ]
                refine wpAnyH_take (i := 13) (oi := { dst := some 111, op := Op.move (Operand.tmp 11), type := 3, pos := "law.go:143", after := #[{ on := 11, ground := Ground.guard }], guard := some (11, false) }) (v := ?vU13n14) rfl (by kernel_rfl) (by kernel_rfl) (by kernel_rfl) (fun _ _ _ h => h) (Or.inl ⟨by rfl, ?yU13n14⟩) (by assumption) ?rU13n14
                case yU13n14 => (intro w hSw; (try dsimp only at hSw); first | (go_simp; done) | (go_simp; with_reducible rfl))
                try simp only [Act.put, List.setIfInBounds_toArray, List.set_cons_zero, List.set_cons_succ]
                refine wpAnyH_take (i := 14) (oi := { dst := some 112, op := Op.indexAddr 31 (Operand.tmp 110) (Operand.tmp 111), type := 0, pos := "law.go:143", after := #[{ on := 12, ground := Ground.data }, { on := 13, ground := Ground.data }, { on := 11, ground := Ground.guard }], guard := some (11, false) }) (v := ?vU14n15) rfl (by kernel_rfl) (by kernel_rfl) (by kernel_rfl) (fun _ _ _ h => h) (Or.inl ⟨by rfl, ?yU14n15⟩) (by assumption) ?rU14n15
                case yU14n15 => (intro w hSw; (try dsimp only at hSw); first | (go_simp; done) | (go_simp; with_reducible rfl))
                try simp only [Act.put, List.setIfInBounds_toArray, List.set_cons_zero, List.set_cons_succ]
                refine wpAnyH_take (i := 15) (oi := { dst := some 113, op := Op.fieldAddr 34 (Operand.tmp 112) 0, type := 0, pos := "law.go:143", after := #[{ on := 14, ground := Ground.data }, { on := 11, ground := Ground.guard }], guard := some (11, false) }) (v := ?vU15n16) rfl (by kernel_rfl) (by kernel_rfl) (by kernel_rfl) (fun _ _ _ h => h) (Or.inl ⟨by rfl, ?yU15n16⟩) (by assumption) ?rU15n16
                case yU15n16 => (intro w hSw; (try dsimp only at hSw); first | (go_simp; done) | (go_simp; with_reducible rfl))
                try simp only [Act.put, List.setIfInBounds_toArray, List.set_cons_zero, List.set_cons_succ]
                refine wpAnyH_take (i := 16) (oi := { dst := some 114, op := Op.load 9 (Operand.tmp 113), type := 9, pos := "law.go:143", after := #[{ on := 15, ground := Ground.data }, { on := 11, ground := Ground.guard }], guard := some (11, false) }) (v := ?vU16n17) rfl (by kernel_rfl) (by kernel_rfl) (by kernel_rfl) (fun _ _ _ h => h) (Or.inl ⟨by rfl, ?yU16n17⟩) (by assumption) ?rU16n17
                case yU16n17 => (intro w hSw; (try dsimp only at hSw); first | (go_simp; done) | (go_simp; with_reducible rfl))
                try simp only [Act.put, List.setIfInBounds_toArray, List.set_cons_zero, List.set_cons_succ]
                refine wpAnyH_take (i := 17) (oi := { dst := some 115, op := Op.binOp BinOp.eql 9 (Operand.tmp 114) (Operand.const (Value.string { data := #[107, 101, 101, 112] })) 9, type := 4, pos := "law.go:143", after := #[{ on := 16, ground := Ground.data }, { on := 11, ground := Ground.guard }], guard := some (11, false) }) (v := ?vU17n18) rfl (by kernel_rfl) (by kernel_rfl) (by kernel_rfl) (fun _ _ _ h => h) (Or.inl ⟨by rfl, ?yU17n18⟩) (by assumption) ?rU17n18
                case yU17n18 => (intro w hSw; (try dsimp only at hSw); first | (go_simp; done) | (go_simp; with_reducible rfl))
                try simp only [Act.put, List.setIfInBounds_toArray, List.set_cons_zero, List.set_cons_succ]
                refine wpAnyH_take (i := 18) (oi := { dst := some 116, op := Op.move (Operand.tmp 115), type := 4, pos := "law.go:143", after := #[{ on := 17, ground := Ground.data }, { on := 11, ground := Ground.chain }, { on := 11, ground := Ground.guard }], guard := some (11, false) }) (v := ?vU18n19) rfl (by kernel_rfl) (by kernel_rfl) (by kernel_rfl) (fun _ _ _ h => h) (Or.inl ⟨by rfl, ?yU18n19⟩) (by assumption) ?rU18n19
                case yU18n19 => (intro w hSw; (try dsimp only at hSw); first | (go_simp; done) | (go_simp; with_reducible rfl))
                try simp only [Act.put, List.setIfInBounds_toArray, List.set_cons_zero, List.set_cons_succ]
                refine wpAnyH_take (i := 19) (oi := { dst := some 117, op := Op.move (Operand.tmp 10), type := 31, pos := "law.go:143", after := #[{ on := 18, ground := Ground.guard }], guard := some (18, true) }) (v := undef) rfl (by kernel_rfl) (by kernel_rfl) (by kernel_rfl) (fun _ _ _ h => h) (Or.inr ⟨by rfl, rfl⟩) (by assumption) ?_
                try simp only [Act.put, List.setIfInBounds_toArray, List.set_cons_zero, List.set_cons_succ]
                refine wpAnyH_take (i := 20) (oi := { dst := some 118, op := Op.move (Operand.tmp 11), type := 3, pos := "law.go:143", after := #[{ on := 18, ground := Ground.guard }], guard := some (18, true) }) (v := undef) rfl (by kernel_rfl) (by kernel_rfl) (by kernel_rfl) (fun _ _ _ h => h) (Or.inr ⟨by rfl, rfl⟩) (by assumption) ?_
                try simp only [Act.put, List.setIfInBounds_toArray, List.set_cons_zero, List.set_cons_succ]
                refine wpAnyH_take (i := 21) (oi := { dst := some 119, op := Op.indexAddr 31 (Operand.tmp 117) (Operand.tmp 118), type := 0, pos := "law.go:143", after := #[{ on := 19, ground := Ground.data }, { on := 20, ground := Ground.data }, { on := 18, ground := Ground.guard }], guard := some (18, true) }) (v := undef) rfl (by kernel_rfl) (by kernel_rfl) (by kernel_rfl) (fun _ _ _ h => h) (Or.inr ⟨by rfl, rfl⟩) (by assumption) ?_
                try simp only [Act.put, List.setIfInBounds_toArray, List.set_cons_zero, List.set_cons_succ]
                refine wpAnyH_take (i := 22) (oi := { dst := some 120, op := Op.fieldAddr 34 (Operand.tmp 119) 1, type := 0, pos := "law.go:143", after := #[{ on := 21, ground := Ground.data }, { on := 18, ground := Ground.guard }], guard := some (18, true) }) (v := undef) rfl (by kernel_rfl) (by kernel_rfl) (by kernel_rfl) (fun _ _ _ h => h) (Or.inr ⟨by rfl, rfl⟩) (by assumption) ?_
                try simp only [Act.put, List.setIfInBounds_toArray, List.set_cons_zero, List.set_cons_succ]
                refine wpAnyH_take (i := 23) (oi := { dst := some 121, op := Op.load 9 (Operand.tmp 120), type := 9, pos := "law.go:143", after := #[{ on := 22, ground := Ground.data }, { on := 18, ground := Ground.guard }], guard := some (18, true) }) (v := undef) rfl (by kernel_rfl) (by kernel_rfl) (by kernel_rfl) (fun _ _ _ h => h) (Or.inr ⟨by rfl, rfl⟩) (by assumption) ?_
                try simp only [Act.put, List.setIfInBounds_toArray, List.set_cons_zero, List.set_cons_succ]
                refine wpAnyH_take (i := 24) (oi := { dst := some 122, op := Op.move (Operand.tmp 2), type := 9, pos := "law.go:143", after := #[{ on := 18, ground := Ground.guard }], guard := some (18, true) }) (v := undef) rfl (by kernel_rfl) (by kernel_rfl) (by kernel_rfl) (fun _ _ _ h => h) (Or.inr ⟨by rfl, rfl⟩) (by assumption) ?_
                try simp only [Act.put, List.setIfInBounds_toArray, List.set_cons_zero, List.set_cons_succ]
                refine wpAnyH_take (i := 25) (oi := { dst := some 123, op := Op.binOp BinOp.neq 9 (Operand.tmp 121) (Operand.tmp 122) 9, type := 4, pos := "law.go:143", after := #[{ on := 23, ground := Ground.data }, { on := 24, ground := Ground.data }, { on := 18, ground := Ground.guard }], guard := some (18, true) }) (v := undef) rfl (by kernel_rfl) (by kernel_rfl) (by kernel_rfl) (fun _ _ _ h => h) (Or.inr ⟨by rfl, rfl⟩) (by assumption) ?_
                try simp only [Act.put, List.setIfInBounds_toArray, List.set_cons_zero, List.set_cons_succ]
                refine wpAnyH_take (i := 26) (oi := { dst := some 124, op := Op.pick (Operand.tmp 116) (Operand.tmp 123) (Operand.const (Value.bool false)), type := 4, pos := "law.go:143", after := #[{ on := 18, ground := Ground.data }, { on := 25, ground := Ground.data }, { on := 11, ground := Ground.guard }], guard := some (11, false) }) (v := ?vU26n27) rfl (by kernel_rfl) (by kernel_rfl) (by kernel_rfl) (fun _ _ _ h => h) (Or.inl ⟨by rfl, ?yU26n27⟩) (by assumption) ?rU26n27
                case yU26n27 => (intro w hSw; (try dsimp only at hSw); first | (go_simp; done) | (go_simp; with_reducible rfl))
                try simp only [Act.put, List.setIfInBounds_toArray, List.set_cons_zero, List.set_cons_succ]
                refine wpAnyH_take (i := 27) (oi := { dst := some 125, op := Op.pick (Operand.tmp 109) (Operand.const (Value.bool true)) (Operand.tmp 124), type := 4, pos := "law.go:143", after := #[{ on := 11, ground := Ground.data }, { on := 26, ground := Ground.data }], guard := none }) (v := ?vU27n28) rfl (by kernel_rfl) (by kernel_rfl) (by kernel_rfl) (fun _ _ _ h => h) (Or.inl ⟨by rfl, ?yU27n28⟩) (by assumption) ?rU27n28
                case yU27n28 => (intro w hSw; (try dsimp only at hSw); first | (go_simp; done) | (go_simp; with_reducible rfl))
                try simp only [Act.put, List.setIfInBounds_toArray, List.set_cons_zero, List.set_cons_succ]
                refine wpAnyH_done (by kernel_rfl) ?_ _
                go_wp2_with fail
                go_roundw
                case rel => exact ⟨k + 1, by omega, by go_num, by first | exact HWz.out.drew | exact HWz.out⟩
                case measure => simp [intOf]; omega
        · have hi1 : ¬ (k : Int) < (n : Int) := by omega
          have HPk := hidK (HPx.out.below HW.out)
          go_wp2_with fail
          refine (HSu.out _ HPk.out.env.old).mono ?_
          rintro e Y ⟨rfl, hb⟩
          have HBz := hidK (HPk.out.env.old.trans (hb.mono HPk.out.env.old.size))
          clear hb
          go_wp2_with fail
          go_ret
          exact ⟨rfl, HBz.out⟩
end Go.Proofs.YtgbaeajcgiaboaaDoor
