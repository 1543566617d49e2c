/-
  The walk of QueueBytes.
-/
import Derived.Test.YtkpnolkbheoocaaQBytP
import Derived.Test.YtkpnolkbheoocaaQMadeL
import Derived.Test.YtkpnolkbheoocaaQGame
import Derived.WalkKit
import Derived.Deep.RegionLaw
import Derived.Deep.RegionHeld3
namespace Go.Proofs.Ytkpnolkbheoocaa
open Go.RowKit
set_option linter.unusedVariables false
set_option maxRecDepth 100000

/-- Where the loop stands. -/
structure FInv (w W : World) (F : List Nat) (b : Nat) (q : Qs) (A B : ByteArray) (k : Nat) : Prop where
  play : Play w W F b q
  flow : Flow q A.data.toList B.data.toList k
theorem FInv.sizes {w W : World} {F : List Nat} {b : Nat} {q : Qs} {A B : ByteArray} {k : Nat} (h : FInv w W F b q A B k) : A.size = B.size + q.bs.length ∧ A.size ≤ k * 106497 ∧ q.bs.length ≤ 106497 := by
  have h1 := congrArg List.length h.flow.sum
  have h2 := h.flow.few
  rw [List.length_append, size_data, size_data] at h1
  rw [size_data] at h2
  exact ⟨h1, h2, h.play.at_.ok.few⟩
theorem cat_dataQ (a b : ByteArray) : (a ++ b).data.toList = a.data.toList ++ b.data.toList := by simp
theorem cat_sizeQ (a b : ByteArray) : (a ++ b).size = a.size + b.size := by rw [← size_data, cat_dataQ, List.length_append, size_data, size_data]
theorem flat_take {ls : List (List UInt8)} {j : Nat} {l : List UInt8} (h : ls[j]? = some l) : flatF (ls.take (j + 1)) = flatF (ls.take j) ++ (l ++ [10]) := by
  obtain ⟨h1, rfl⟩ := List.getElem?_eq_some_iff.1 h
  rw [List.take_succ_eq_append_getElem h1, flat_snoc]
theorem flat_upto (ls : List (List UInt8)) (j : Nat) : (flatF (ls.take j)).length ≤ (flatF ls).length := by
  rw [flat_len, flat_len]
  exact sum_take ls j
theorem drain_whole {q : Qs} (hq : q.Ok) : q.bs.take (1073741824 : Int).toNat = q.bs := by
  have h1 := hq.few
  have e : (1073741824 : Int).toNat = 1073741824 := rfl
  rw [e]
  exact List.take_of_length_le (by omega)

set_option maxHeartbeats 4000000 in
theorem queueBytes_walk (lim : Int) (sv : Value) (ops : List OpD) (w : World) (hops : OpsArg w sv ops) :
    Calls Try.prog 4 #[.int .i64 lim, sv] w fun x w' => x = .returned (.bool true) ∧ Below w.heap.size w w' := by
  have HM : Hid (∀ W, Calls Try.prog 6 #[.int .i64 lim] W fun x w' => PairL lim W w' x) := madeL_any lim
  have hfew := hops.few
  obtain ⟨ao, n, cp, rfl, hn, hlen, hok, hcell⟩ := hops.open_
  have HC := hidK hcell
  have HN : Hid (ops.length = n) := hn
  have HOK : Hid (∀ o ∈ ops, o.Ok w) := hok
  rw [hn] at hfew
  clear hcell hn hops hok hlen
  go_enter Try.func4, Try.ntmps4
  go_wp2_with fail
  refine (HM.out _).mono ?_
  rintro x w1 ⟨hb1, rfl | ⟨m, F, b, hm, hml, rfl, hp⟩⟩
  · have HB := hidK hb1
    clear hb1
    go_wp2_with fail
    all_goals go_ret
    all_goals exact ⟨rfl, by have h2 := HB.out.size; repeat (first | exact HB.out | apply Below.drew | refine Below.setCell ?_ (by first | omega | (simp <;> omega)) _ | refine Below.alloc ?_ (by first | omega | (simp <;> omega)) _)⟩
  · subst hml
    have HP0 : Hid (∀ X, Below w1.heap.size w1 X → FInv w X F b (newQ m) ⟨#[]⟩ ⟨#[]⟩ 0) := fun X hX => ⟨hp.more hX, ⟨by simp [newQ], by simp⟩⟩
    have HB1 : Hid (Below w1.heap.size w1 (w1.alloc (.cells #[.int .i64 (m : Int), .slice none 0 0, .bool false] 26))) := (Below.refl _ _).alloc (Nat.le_refl _) _
    clear hp hb1
    go_wp2_with fail
    go_loopw [8, 9, 10, 11] (fun s8 s9 s10 s11 wx => ∃ (k : Nat) (F : List Nat) (q : Qs) (A B : ByteArray), k ≤ n ∧ s11 = .int .i64 (k : Int) ∧ s8 = .string A ∧ s9 = .string B ∧ s10 = .bool q.cl ∧ Hid (FInv w wx F b q A B k)) (fun _ _ _ v _ => n - (intOf v).toNat)
    case atStart => exact ⟨0, F, newQ m, ⟨#[]⟩, ⟨#[]⟩, Nat.zero_le _, rfl, rfl, rfl, rfl, by first | exact HP0.out _ HB1.out | exact HP0.out _ (Below.refl _ _)⟩
    case round =>
      obtain ⟨k, F, q, A, B, hk, rfl, rfl, rfl, rfl, hg⟩ := hrel
      obtain ⟨hs1, hs2, hs3⟩ := hg.out.sizes
      by_cases hkn : k < n
      · obtain ⟨o, ho⟩ : ∃ o, ops[k]? = some o := ⟨_, List.getElem?_eq_getElem (by rw [HN.out]; exact hkn)⟩
        obtain ⟨g, p, rfl, o0, o1, o2, o3, o4, o5⟩ := HC.out wr hg.out.play.below k o ho
        have hoo := HOK.out o (List.mem_of_getElem? ho)
        have HCl := hidK (called_any o hg.out.play.at_ (hoo.below hg.out.play.below))
        have HBy := hidK (byt q o)
        obtain ⟨E, hE⟩ : ∃ E, errQ q o = E := ⟨_, rfl⟩
        obtain ⟨T, hT⟩ : ∃ T, str (drnQ q o) = T := ⟨_, rfl⟩
        have hTs : T.size ≤ q.bs.length := by
          rw [← hT, str_size]
          unfold drnQ
          split
          · simp
          split
          · simp
          split
          · simp
          split
          · simp
          rw [List.length_take]
          omega
        obtain ⟨S, hS⟩ : ∃ S, q.bs.length = S := ⟨_, rfl⟩
        obtain ⟨c, hc⟩ : ∃ c, q.cl = c := ⟨_, rfl⟩
        rw [hS] at hs1 hs3 hTs
        rw [hE, hT] at HCl
        unfold OpD.vals at HCl
        have HE := hidK hE
        have HT := hidK hT
        have HSS := hidK hS
        have HHO := hidK ho
        have HOO := hidK hoo
        have HCC := hidK hc
        have HKN := hidK hkn
        have hkk : k * 106497 ≤ 1000000000000000000 := Nat.le_trans (Nat.mul_le_mul_right _ (Nat.le_of_lt hkn)) (Nat.le_trans (Nat.mul_le_mul_right 106497 hfew) (by decide))
        rw [hc]
        have d0 : (B.size : Int) + (T.size : Int) ≤ 9223372036854775807 := by omega
        clear hE hT hS hoo hc
        go_wp2_with fail
        refine HCl.out.mono ?_
        rintro x w3 ⟨rfl, hw3⟩
        obtain ⟨F3, hp3⟩ := hg.out.play.went hw3
        clear o0 o1 o2 o3 o4 o5 hw3 ho
        obtain ⟨g3, p3, e3, o0, o1, o2, o3, o4, o5⟩ := HC.out w3 hp3.below k o HHO.out
        cases e3
        have HP3 := hidK hp3
        have HTk := hidK (takes_any o (HOO.out.below hp3.below))
        unfold OpD.vals at HTk
        clear hp3
        go_wp2_with fail
        refine HTk.out.mono ?_
        rintro x w4 ⟨v4, rfl, hb4, hs4⟩
        have hp4 := HP3.out.more hb4
        clear o0 o1 o2 o3 o4 o5
        obtain ⟨g4, p4, e4, o0, o1, o2, o3, o4, o5⟩ := HC.out w4 hp4.below k o HHO.out
        cases e4
        obtain ⟨ls, hls⟩ : ∃ ls, takesL o = ls := ⟨_, rfl⟩
        rw [hls] at hs4
        have HLs := hidK hls
        obtain ⟨av, nv, cv, rfl, hnv, hnv1, hcv⟩ := hs4.shape
        have HNv := hidK hnv
        have HCv := hidK hcv
        have HP4 := hidK hp4
        clear hb4 hs4 hp4 hls hnv hcv HCl HTk HM HP0 HB1
        by_cases hE0 : E = 0
        · subst hE0
          have hfl := hg.out.flow.good HE.out hg.out.play.at_.ok HP4.out.at_.ok
          have hab : (flatF ls).length ≤ 1000000000000000000 := by
            have h1 := hfl.few
            rw [HLs.out, List.length_append] at h1
            have h2 : (k + 1) * 106497 = k * 106497 + 106497 := Nat.add_one_mul _ _
            omega
          have HFl := hidK hfl
          clear hfl
          go_wp2_with fail
          go_loopw [8, 15] (fun s8 s15 wx => ∃ (j : Nat) (C : ByteArray), j ≤ nv ∧ s15 = .int .i64 (j : Int) ∧ s8 = .string C ∧ Hid (C.data.toList = A.data.toList ++ flatF (ls.take j)) ∧ wx = w4) (fun _ v _ => nv - (intOf v).toNat)
          case atStart => exact ⟨0, A, Nat.zero_le _, rfl, rfl, by show _ = _; simp [flatF], rfl⟩
          case round =>
            obtain ⟨j, C, hj, rfl, rfl, HCd, hwx⟩ := hrel
            subst hwx
            have hcs : C.size = A.size + (flatF (ls.take j)).length := by
              have := congrArg List.length HCd.out
              rwa [List.length_append, size_data, size_data] at this
            have hup := flat_upto ls j
            by_cases hjn : j < nv
            · obtain ⟨l, hl⟩ : ∃ l, ls[j]? = some l := ⟨_, List.getElem?_eq_getElem (by rw [HNv.out]; exact hjn)⟩
              obtain ⟨g5, p5, rfl, -, hll, q5⟩ := HCv.out _ (fun _ _ _ => rfl) j l hl
              have HFt := hidK (flat_take hl)
              have hup2 := flat_upto ls (j + 1)
              rw [HFt.out, List.length_append, List.length_append] at hup2
              obtain ⟨Z, hZ⟩ : ∃ Z, str l = Z := ⟨_, rfl⟩
              have hZs : l.length = Z.size := by rw [← hZ]; rfl
              rw [hZ] at q5
              rw [hZs] at hup2
              have HZ := hidK hZ
              have d1 : (C.size : Int) + (Z.size : Int) ≤ 9223372036854775807 := by simp at hup2; omega
              have d2 : (C.size : Int) + (Z.size : Int) + 1 ≤ 9223372036854775807 := by simp at hup2; omega
              have d3 : ¬ 9223372036854775807 < C.size + Z.size := by omega
              have d4 : ¬ 9223372036854775807 < C.size + Z.size + 1 := by omega
              clear hl hZ hZs hup hup2 hll hcs
              go_wp2_with fail
              go_roundw
              case rel => exact ⟨j + 1, _, by omega, by go_num, rfl, by show _ = _; rw [HFt.out, cat_dataQ, cat_dataQ, HCd.out, ← HZ.out]; simp [str], by first | rfl | trivial⟩
              case measure => simp [intOf]; omega
            · obtain rfl : j = nv := by omega
              have hta : ls.take j = ls := List.take_of_length_le (by rw [HNv.out]; exact Nat.le_refl _)
              rw [hta] at HCd hcs
              clear hta hup
              have HSz := hidK (fun Y (hY : Below _ _ Y) => size_any (HP4.out.more hY).at_)
              have HCs := hidK (fun Y (hY : Below _ _ Y) => closed_any (HP4.out.more hY).at_)
              obtain ⟨S2, hS2⟩ : ∃ S2, (stepQ q o).bs.length = S2 := ⟨_, rfl⟩
              have HNx : Hid (∀ X, Below _ _ X → FInv w X F3 b (stepQ q o) C (B ++ T) (k + 1)) := fun X hX => ⟨HP4.out.more hX, by rw [HCd.out, cat_dataQ, ← HT.out, ← HLs.out]; exact HFl.out⟩
              have hz := (HNx.out _ (Below.refl _ _)).sizes
              rw [hS2, cat_sizeQ] at hz
              obtain ⟨hz1, hz2, hz3⟩ := hz
              rw [hS2] at HSz
              have dw : IntKind.i64.wrap ((C.size : Int) - ((B.size : Int) + (T.size : Int))) = (S2 : Int) := by
                rw [wrap_ok (by omega) (by omega)]
                omega
              have hcl := HBy.out.cl HE.out
              have hov := HBy.out.over HE.out
              rw [HCC.out] at hcl hov
              rw [hcl] at HCs
              have HCL := hidK hcl
              clear hcl hS2 hz1 hz2 hz3 hs1 hs2 hs3 hcs hab hkk d0 hTs HCv HC HOK
              by_cases h3 : o.k = 3
              · obtain ⟨rfl, -⟩ := hov (by omega)
                rw [h3] at o0
                rw [decide_eq_true h3] at HCs HCL
                clear hov h3
                go_wp2_with fail
                refine (HSz.out _ (by first | exact Below.refl _ _ | exact (Below.refl _ _).drew)).mono ?_
                rintro x wz ⟨rfl, rfl⟩
                go_wp2_with fail
                refine (HCs.out _ (by first | exact Below.refl _ _ | exact (Below.refl _ _).drew)).mono ?_
                rintro x wz ⟨rfl, rfl⟩
                go_wp2_with fail
                go_roundw
                case rel => exact ⟨k + 1, F3, _, C, B ++ T, by have := HKN.out; omega, by go_num, rfl, rfl, by rw [HCL.out]; rfl, HNx.out _ (by first | exact Below.refl _ _ | exact (Below.refl _ _).drew)⟩
                case measure => simp [intOf]; have := HKN.out; omega
              · rw [decide_eq_false h3] at HCs HCL
                have e3 : (o.k == 3) = false := by simpa using h3
                cases c with
                | false =>
                  clear hov
                  go_wp2_with fail
                  refine (HSz.out _ (by first | exact Below.refl _ _ | exact (Below.refl _ _).drew)).mono ?_
                  rintro x wz ⟨rfl, rfl⟩
                  go_wp2_with fail
                  refine (HCs.out _ (by first | exact Below.refl _ _ | exact (Below.refl _ _).drew)).mono ?_
                  rintro x wz ⟨rfl, rfl⟩
                  go_wp2_with fail
                  go_roundw
                  case rel => exact ⟨k + 1, F3, _, C, B ++ T, by have := HKN.out; omega, by go_num, rfl, rfl, by rw [HCL.out]; rfl, HNx.out _ (by first | exact Below.refl _ _ | exact (Below.refl _ _).drew)⟩
                  case measure => simp [intOf]; have := HKN.out; omega
                | true =>
                  have hlo : o.k < 0 ∨ 3 < o.k := by
                    by_cases hh : o.k = 0 ∨ o.k = 1 ∨ o.k = 2 ∨ o.k = 3
                    · exact absurd (hov hh).1 (by decide)
                    · omega
                  rcases hlo with hlo | hlo
                  · have hk0 : ¬ 0 ≤ o.k := by omega
                    clear hov
                    go_wp2_with fail
                    refine (HSz.out _ (by first | exact Below.refl _ _ | exact (Below.refl _ _).drew)).mono ?_
                    rintro x wz ⟨rfl, rfl⟩
                    go_wp2_with fail
                    refine (HCs.out _ (by first | exact Below.refl _ _ | exact (Below.refl _ _).drew)).mono ?_
                    rintro x wz ⟨rfl, rfl⟩
                    go_wp2_with fail
                    go_roundw
                    case rel => exact ⟨k + 1, F3, _, C, B ++ T, by have := HKN.out; omega, by go_num, rfl, rfl, by rw [HCL.out]; rfl, HNx.out _ (by first | exact Below.refl _ _ | exact (Below.refl _ _).drew)⟩
                    case measure => simp [intOf]; have := HKN.out; omega
                  · have hk0 : 0 ≤ o.k := by omega
                    have hk3 : ¬ o.k ≤ 3 := by omega
                    clear hov
                    go_wp2_with fail
                    refine (HSz.out _ (by first | exact Below.refl _ _ | exact (Below.refl _ _).drew)).mono ?_
                    rintro x wz ⟨rfl, rfl⟩
                    go_wp2_with fail
                    refine (HCs.out _ (by first | exact Below.refl _ _ | exact (Below.refl _ _).drew)).mono ?_
                    rintro x wz ⟨rfl, rfl⟩
                    go_wp2_with fail
                    go_roundw
                    case rel => exact ⟨k + 1, F3, _, C, B ++ T, by have := HKN.out; omega, by go_num, rfl, rfl, by rw [HCL.out]; rfl, HNx.out _ (by first | exact Below.refl _ _ | exact (Below.refl _ _).drew)⟩
                    case measure => simp [intOf]; have := HKN.out; omega
        · have hfl := hg.out.flow.bad (o := o) (by rw [HE.out]; exact hE0)
          have hcl : (stepQ q o).cl = c := by rw [(HBy.out.bad (by rw [HE.out]; exact hE0)).2]; exact HCC.out
          have HNx : Hid (FInv w w4 F3 b (stepQ q o) A (B ++ T) (k + 1)) := ⟨HP4.out, by rw [cat_dataQ, ← HT.out]; exact hfl⟩
          have HCL := hidK hcl
          clear hfl hcl HC HCv HOK
          go_wp2_with fail
          go_roundw
          case rel => exact ⟨k + 1, F3, _, A, B ++ T, by omega, by go_num, rfl, rfl, by rw [HCL.out], HNx⟩
          case measure => simp [intOf]; have := HKN.out; omega
      · obtain rfl : k = n := by omega
        have hok := hg.out.play.at_.ok
        have HD := hidK (fun Y (hY : Below wr.heap.size wr Y) => drain_any 1073741824 (hg.out.play.more hY).at_ (by decide) (by decide))
        rw [drain_whole hok] at HD
        have hsz : (B.size : Int) + ((str q.bs).size : Int) ≤ 9223372036854775807 := by
          rw [str_size]
          have hkk : k * 106497 ≤ 1000000000000000000 := Nat.le_trans (Nat.mul_le_mul_right 106497 hfew) (by decide)
          omega
        have heq : B ++ str q.bs = A := by
          apply ByteArray.ext
          apply Array.ext'
          rw [cat_dataQ, hg.out.flow.sum]
          rfl
        obtain ⟨Z, hZ⟩ : ∃ Z, str q.bs = Z := ⟨_, rfl⟩
        rw [hZ] at HD hsz heq
        have HB := hidK hg.out.play.below
        have HY := hidK hg.out.play.young
        clear hZ hok HC HOK HM HP0 HB1 hs1 hs2 hs3 hg
        subst heq
        go_wp2_with fail
        refine (HD.out _ (Below.refl _ _)).mono ?_
        rintro x w5 ⟨rfl, hw5⟩
        obtain ⟨F5, k1, k2, k3⟩ := hw5
        have HB5 := hidK (k2.under HB.out HB.out.size HY.out)
        clear k1 k2 k3
        go_wp2_with fail
        all_goals go_ret
        all_goals exact ⟨rfl, by repeat (first | exact HB5.out | apply Below.drew)⟩

end Go.Proofs.Ytkpnolkbheoocaa
