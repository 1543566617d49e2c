/-
  The walk of QueueBounds.
-/
import Derived.Test.YtkpnolkbheoocaaQTake
import Derived.Test.YtkpnolkbheoocaaQMadeL
import Derived.Test.YtkpnolkbheoocaaQGame
import Derived.WalkKit
import Derived.Deep.RegionLaw
import Derived.Deep.RegionHeld3
namespace Go.Proofs.Ytkpnolkbheoocaa
open Go.RowKit
set_option linter.unusedVariables false
set_option maxRecDepth 100000

/-- Where the loop stands. -/
structure BInv (w W : World) (F : List Nat) (b : Nat) (q : Qs) (m last : Nat) : Prop where
  play : Play w W F b q
  lim : q.lim = m
  small : last ≤ 200000
  most : q.bs.length ≤ m + 32768 + last

structure BndL (lim S S2 T : Nat) (E k : Int) (cl cl2 : Bool) (ls : List (List UInt8)) : Prop where
  full : E = 3 → (lim : Int) < (S : Int) + (T : Int)
  spare : E = 140 → (lim : Int) + 32768 < (S : Int) + (T : Int)
  stays : ¬ E = 0 → S2 = S
  out : E = 0 → k = 2 → 0 < T → (S2 : Int) ≤ lim
  laid : (E = 0 ∨ E = 3 ∨ E = 140) → linesB ls = true ∨ ls = []
  ends : E = 0 → k = 3 → cl = false ∧ S2 = S + T
  shut : ¬ (E = 0 ∧ k = 3) → (cl = false ∧ cl2 = false) ∨ S2 ≤ S
theorem wrap_sum {ls : List (List UInt8)} {j : Nat} {l : List UInt8} (h : ls[j]? = some l) : IntKind.i64.wrap (IntKind.i64.wrap (IntKind.i64.wrap (sumF (ls.take j) : Int) + (l.length : Int)) + 1) = IntKind.i64.wrap (sumF (ls.take (j + 1)) : Int) := by
  obtain ⟨h1, rfl⟩ := List.getElem?_eq_some_iff.1 h
  rw [List.take_succ_eq_append_getElem h1, sum_snoc]
  simp only [IntKind.wrap_i64]
  omega
theorem wrap_all {ls : List (List UInt8)} (h : linesB ls = true ∨ ls = []) (hn : ls.length ≤ 8796093022208) : sumF ls ≤ 9000000000000000000 / 100 := by
  rcases h with h | rfl
  · have := sum_short h
    omega
  · simp [sumF]

set_option maxHeartbeats 8000000 in
theorem queueBounds_walk (lim : Int) (sv : Value) (ops : List OpD) (w : World) (hops : OpsArg w sv ops) :
    Calls Try.prog 3 #[.int .i64 lim, sv] w fun x w' => x = .returned (.bool true) ∧ Below w.heap.size w w' := by
  have HM : Hid (∀ W, Calls Try.prog 6 #[.int .i64 lim] W fun x w' => PairL lim W w' x) := madeL_any lim
  obtain ⟨ao, n, cp, rfl, hn, hlen, hok, hcell⟩ := hops.open_
  have HC := hidK hcell
  have HN : Hid (ops.length = n) := hn
  have HOK : Hid (∀ o ∈ ops, o.Ok w) := hok
  clear hcell hn hops hok
  go_enter Try.func3, Try.ntmps3
  go_wp2_with fail
  refine (HM.out _).mono ?_
  rintro x w1 ⟨hb1, rfl | ⟨m, F, b, hm, hml, rfl, hp⟩⟩
  · have HB := hidK hb1
    clear hb1
    go_wp2_with fail
    all_goals go_ret
    all_goals exact ⟨rfl, by have h2 := HB.out.size; repeat (first | exact HB.out | apply Below.drew | refine Below.setCell ?_ (by first | omega | (simp <;> omega)) _ | refine Below.alloc ?_ (by first | omega | (simp <;> omega)) _)⟩
  · subst hml
    have HP0 : Hid (∀ X, Below w1.heap.size w1 X → BInv w X F b (newQ m) m 0) := fun X hX => ⟨hp.more hX, rfl, by omega, by simp [newQ]⟩
    have HB1 : Hid (Below w1.heap.size w1 (w1.alloc (.cells #[.int .i64 (m : Int), .slice none 0 0, .bool false] 26))) := (Below.refl _ _).alloc (Nat.le_refl _) _
    clear hp hb1
    go_wp2_with fail
    go_loopw [8, 9] (fun s6 s7 wx => ∃ (k : Nat) (F : List Nat) (q : Qs) (last : Nat), k ≤ n ∧ s7 = .int .i64 (k : Int) ∧ s6 = .int .i64 (last : Int) ∧ Hid (BInv w wx F b q m last)) (fun _ v _ => n - (intOf v).toNat)
    case atStart => exact ⟨0, F, _, 0, Nat.zero_le _, rfl, rfl, by first | exact HP0.out _ HB1.out | exact HP0.out _ (Below.refl _ _)⟩
    case round =>
      obtain ⟨k, F, q, last, hk, rfl, rfl, hg⟩ := hrel
      by_cases hkn : k < n
      · obtain ⟨o, ho⟩ : ∃ o, ops[k]? = some o := ⟨_, List.getElem?_eq_getElem (by rw [HN.out]; exact hkn)⟩
        obtain ⟨g, p, rfl, o0, o1, o2, o3, o4, o5⟩ := HC.out wr hg.out.play.below k o ho
        have hoo := HOK.out o (List.mem_of_getElem? ho)
        have HSz := hidK (size_any hg.out.play.at_)
        obtain ⟨S, hS⟩ : ∃ S, q.bs.length = S := ⟨_, rfl⟩
        rw [hS] at HSz
        go_wp2_with fail
        refine HSz.out.mono ?_
        rintro x w2 ⟨rfl, rfl⟩
        go_wp2_with fail
        have HCl := hidK (called_any o hg.out.play.at_ (hoo.below hg.out.play.below))
        have HBn := hidK (bnd q o)
        obtain ⟨E, hE⟩ : ∃ E, errQ q o = E := ⟨_, rfl⟩
        obtain ⟨tx, htx⟩ : ∃ tx, str (drnQ q o) = tx := ⟨_, rfl⟩
        rw [hE, htx] at HCl
        unfold OpD.vals at HCl
        have HE := hidK hE
        have HSS := hidK hS
        have HHO := hidK ho
        have HOO := hidK hoo
        clear hE htx hS hoo
        refine HCl.out.mono ?_
        rintro x w3 ⟨rfl, hw3⟩
        obtain ⟨F3, hp3⟩ := hg.out.play.went hw3
        clear o0 o1 o2 o3 o4 o5 hw3 ho
        obtain ⟨g3, p3, e3, o0, o1, o2, o3, o4, o5⟩ := HC.out w3 hp3.below k o HHO.out
        cases e3
        have HP3 := hidK hp3
        have HTk := hidK (takes_any o (HOO.out.below hp3.below))
        unfold OpD.vals at HTk
        clear hp3
        go_wp2_with fail
        refine HTk.out.mono ?_
        rintro x w4 ⟨v4, rfl, hb4, hs4⟩
        have hp4 := HP3.out.more hb4
        clear o0 o1 o2 o3 o4 o5
        obtain ⟨g4, p4, e4, o0, o1, o2, o3, o4, o5⟩ := HC.out w4 hp4.below k o HHO.out
        cases e4
        obtain ⟨ls, hls⟩ : ∃ ls, takesL o = ls := ⟨_, rfl⟩
        rw [hls] at hs4
        have HLs := hidK hls
        obtain ⟨av, nv, cv, rfl, hnv, hnv1, hcv⟩ := hs4.shape
        have HNv := hidK hnv
        have HCv := hidK hcv
        have HP4 := hidK hp4
        clear hb4 hs4 hp4 hls hnv hcv
        go_wp2_with fail
        go_loopw [14, 15] (fun s14 s15 wx => ∃ j : Nat, j ≤ nv ∧ s15 = .int .i64 (j : Int) ∧ s14 = .int .i64 (IntKind.i64.wrap (sumF (ls.take j) : Int)) ∧ wx = w4) (fun _ v _ => nv - (intOf v).toNat)
        case atStart => exact ⟨0, Nat.zero_le _, rfl, by simp [sumF]; decide, rfl⟩
        case round =>
          obtain ⟨j, hj, rfl, rfl, hwx⟩ := hrel
          subst hwx
          by_cases hjn : j < nv
          · obtain ⟨l, hl⟩ : ∃ l, ls[j]? = some l := ⟨_, List.getElem?_eq_getElem (by rw [HNv.out]; exact hjn)⟩
            obtain ⟨g5, p5, rfl, -, hll, q5⟩ := HCv.out _ (fun _ _ _ => rfl) j l hl
            have HSn := hidK (wrap_sum hl)
            obtain ⟨a, ha⟩ : ∃ a, IntKind.i64.wrap (sumF (ls.take j) : Int) = a := ⟨_, rfl⟩
            rw [ha] at HSn
            rw [ha]
            clear hl ha
            go_wp2_with fail
            go_roundw
            case rel => exact ⟨j + 1, by omega, by go_num, by rw [← HSn.out]; simp [str, wrap64, IntKind.wrap_i64, ByteArray.size], trivial⟩
            case measure => simp [intOf]; omega
          · obtain rfl : j = nv := by omega
            have hta : ls.take j = ls := List.take_of_length_le (by rw [HNv.out]; exact Nat.le_refl _)
            rw [hta]
            clear hta
            have HSz2 := hidK (fun Y (hY : Below _ _ Y) => size_any (HP4.out.more hY).at_)
            obtain ⟨S2, hS2⟩ : ∃ S2, (stepQ q o).bs.length = S2 := ⟨_, rfl⟩
            rw [hS2] at HSz2
            have HS2 := hidK hS2
            have hfew := hg.out.play.at_.ok.few
            have hfew2 := HP4.out.at_.ok.few
            have hmost2 := HP4.out.at_.ok.most
            rw [HSS.out] at hfew
            rw [hS2] at hfew2 hmost2
            have hsm := hg.out.small
            have hmo := hg.out.most
            rw [HSS.out] at hmo
            have hB : BndL q.lim S S2 (sumF ls) E o.k q.cl (stepQ q o).cl ls := by
              obtain ⟨b1, b2, b3, b4, b5, b6, b7, b8⟩ := HBn.out
              rw [HLs.out] at b1 b2 b4 b6 b7
              rw [HE.out] at b1 b2 b3 b4 b6 b7 b8
              rw [HSS.out] at b1 b2 b3 b7 b8
              rw [hS2] at b3 b4 b7 b8
              exact ⟨b1, b2, b3, b4, b6, b7, b8⟩
            have hlim := hg.out.lim
            rw [hlim] at hB
            have hlim2 := HBn.out.lim
            rw [hlim] at hlim2
            rw [hlim2] at hmost2
            have HNx : Hid (∀ X last', Below _ _ X → last' ≤ 200000 → S2 ≤ m + 32768 + last' → BInv w X F3 b (stepQ q o) m last') := fun X last' hX h1 h2 => ⟨HP4.out.more hX, hlim2, h1, by rw [hS2]; exact h2⟩
            obtain ⟨T, hT⟩ : ∃ T, sumF ls = T := ⟨_, rfl⟩
            rw [hT] at hB
            rw [hT]
            by_cases hA : E = 0 ∨ E = 3 ∨ E = 140
            · have hTs : T ≤ 90000000000000000 := by rw [← hT]; exact wrap_all (hB.laid hA) (by rw [HNv.out]; exact hnv1)
              have dw2 : IntKind.i64.wrap (T : Int) = (T : Int) := wrap_ok (by omega) (by omega)
              rw [dw2]
              clear dw2
              have hmq := hg.out.play.at_.ok.most
              rw [HSS.out, hlim] at hmq
              have c1 := hB.full
              have c2 := hB.spare
              have c3 := hB.stays
              have c4 := hB.out
              have c5 := hB.ends
              have c6 := hB.shut
              clear hB hT hlim hlim2 hS2 HCl HTk HCv HC HOK HM HP0 HB1
              rcases hA with rfl | rfl | rfl
              · by_cases h3 : o.k = 3
                · rw [h3] at o0
                  have f1 : (S2 : Int) ≤ (m : Int) + 32768 + (T : Int) ∧ T ≤ 200000 := by
                    obtain ⟨d1, d2⟩ := c5 rfl h3
                    rw [d1] at hmq
                    simp at hmq
                    omega
                  obtain ⟨f1, f3⟩ := f1
                  have f2 : ¬ (m : Int) + 32768 + (T : Int) < (S2 : Int) := by omega
                  clear hmo c1 c2 c3 c4 c5 c6 hmq hmost2 h3
                  go_wp2_with fail
                  repeat (
                    refine (HSz2.out _ (by first | exact Below.refl _ _ | exact (Below.refl _ _).drew)).mono ?_
                    rintro x wz ⟨rfl, rfl⟩
                    go_wp2_with fail)
                  go_roundw
                  case rel => exact ⟨k + 1, F3, _, T, by omega, by go_num, rfl, HNx.out _ T (by first | exact Below.refl _ _ | exact (Below.refl _ _).drew) (by omega) (by omega)⟩
                  case measure => simp [intOf]; omega
                · have f1 : (S2 : Int) ≤ (m : Int) + 32768 + (last : Int) := by
                    rcases c6 (fun h => h3 h.2) with ⟨d1, d2⟩ | d
                    · rw [d2] at hmost2
                      simp at hmost2
                      omega
                    · omega
                  have f2 : ¬ (m : Int) + 32768 + (last : Int) < (S2 : Int) := by omega
                  by_cases h2 : o.k = 2
                  · rw [h2] at o0
                    by_cases hT0 : 0 < T
                    · have f4 : (S2 : Int) ≤ (m : Int) := c4 rfl h2 hT0
                      have f5 : ¬ (m : Int) < (S2 : Int) := by omega
                      have f6 : (0 : Int) < (T : Int) := by omega
                      clear hmo c1 c2 c3 c4 c5 c6 hmq hmost2 h3 h2
                      go_wp2_with fail
                      repeat (
                        refine (HSz2.out _ (by first | exact Below.refl _ _ | exact (Below.refl _ _).drew)).mono ?_
                        rintro x wz ⟨rfl, rfl⟩
                        go_wp2_with fail)
                      go_roundw
                      case rel => exact ⟨k + 1, F3, _, last, by omega, by go_num, rfl, HNx.out _ last (by first | exact Below.refl _ _ | exact (Below.refl _ _).drew) (by omega) (by omega)⟩
                      case measure => simp [intOf]; omega
                    · obtain rfl : T = 0 := by omega
                      clear hmo c1 c2 c3 c4 c5 c6 hmq hmost2 h3 h2
                      go_wp2_with fail
                      repeat (
                        refine (HSz2.out _ (by first | exact Below.refl _ _ | exact (Below.refl _ _).drew)).mono ?_
                        rintro x wz ⟨rfl, rfl⟩
                        go_wp2_with fail)
                      go_roundw
                      case rel => exact ⟨k + 1, F3, _, last, by omega, by go_num, rfl, HNx.out _ last (by first | exact Below.refl _ _ | exact (Below.refl _ _).drew) (by omega) (by omega)⟩
                      case measure => simp [intOf]; omega
                  · clear hmo c1 c2 c3 c4 c5 c6 hmq hmost2
                    go_wp2_with fail
                    repeat (
                      refine (HSz2.out _ (by first | exact Below.refl _ _ | exact (Below.refl _ _).drew)).mono ?_
                      rintro x wz ⟨rfl, rfl⟩
                      go_wp2_with fail)
                    go_roundw
                    case rel => exact ⟨k + 1, F3, _, last, by omega, by go_num, rfl, HNx.out _ last (by first | exact Below.refl _ _ | exact (Below.refl _ _).drew) (by omega) (by omega)⟩
                    case measure => simp [intOf]; omega
              · obtain rfl : S2 = S := c3 (by decide)
                have f1 : (S2 : Int) ≤ (m : Int) + 32768 + (last : Int) := by omega
                have f2 : ¬ (m : Int) + 32768 + (last : Int) < (S2 : Int) := by omega
                have f3 : (m : Int) < (S2 : Int) + (T : Int) := c1 rfl
                have f4 : ¬ (S2 : Int) + (T : Int) ≤ (m : Int) := by omega
                clear hmo c1 c2 c3 c4 c5 c6 hmq hmost2
                go_wp2_with fail
                repeat (
                  refine (HSz2.out _ (by first | exact Below.refl _ _ | exact (Below.refl _ _).drew)).mono ?_
                  rintro x wz ⟨rfl, rfl⟩
                  go_wp2_with fail)
                go_roundw
                case rel => exact ⟨k + 1, F3, _, last, by omega, by go_num, rfl, HNx.out _ last (by first | exact Below.refl _ _ | exact (Below.refl _ _).drew) (by omega) (by omega)⟩
                case measure => simp [intOf]; omega
              · obtain rfl : S2 = S := c3 (by decide)
                have f1 : (S2 : Int) ≤ (m : Int) + 32768 + (last : Int) := by omega
                have f2 : ¬ (m : Int) + 32768 + (last : Int) < (S2 : Int) := by omega
                have f3 : (m : Int) + 32768 < (S2 : Int) + (T : Int) := c2 rfl
                have f4 : ¬ (S2 : Int) + (T : Int) ≤ (m : Int) + 32768 := by omega
                clear hmo c1 c2 c3 c4 c5 c6 hmq hmost2
                go_wp2_with fail
                repeat (
                  refine (HSz2.out _ (by first | exact Below.refl _ _ | exact (Below.refl _ _).drew)).mono ?_
                  rintro x wz ⟨rfl, rfl⟩
                  go_wp2_with fail)
                go_roundw
                case rel => exact ⟨k + 1, F3, _, last, by omega, by go_num, rfl, HNx.out _ last (by first | exact Below.refl _ _ | exact (Below.refl _ _).drew) (by omega) (by omega)⟩
                case measure => simp [intOf]; omega
            · obtain ⟨e0, e3⟩ := not_or.1 hA
              obtain ⟨e3, e140⟩ := not_or.1 e3
              obtain rfl : S2 = S := hB.stays e0
              have f1 : (S2 : Int) ≤ (m : Int) + 32768 + (last : Int) := by omega
              have f2 : ¬ (m : Int) + 32768 + (last : Int) < (S2 : Int) := by omega
              obtain ⟨tt, htt⟩ : ∃ tt, IntKind.i64.wrap (T : Int) = tt := ⟨_, rfl⟩
              rw [htt]
              clear hmo hB hT hlim hlim2 hS2 HCl HTk HCv HC HOK HM HP0 HB1 hA htt hmost2
              go_wp2_with fail
              repeat (
                refine (HSz2.out _ (by first | exact Below.refl _ _ | exact (Below.refl _ _).drew)).mono ?_
                rintro x wz ⟨rfl, rfl⟩
                go_wp2_with fail)
              go_roundw
              case rel => exact ⟨k + 1, F3, _, last, by omega, by go_num, rfl, HNx.out _ last (by first | exact Below.refl _ _ | exact (Below.refl _ _).drew) (by omega) (by omega)⟩
              case measure => simp [intOf]; omega
      · obtain rfl : k = n := by omega
        have HB := hidK hg.out.play.below
        clear hg
        go_wp2_with fail
        all_goals go_ret
        all_goals exact ⟨rfl, HB.out⟩

end Go.Proofs.Ytkpnolkbheoocaa
