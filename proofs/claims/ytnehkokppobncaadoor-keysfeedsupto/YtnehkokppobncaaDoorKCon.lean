/-
  Keys: a control sequence, by the document.
-/
import Derived.Test.YtnehkokppobncaaDoorGP
import Derived.Test.YtnehkokppobncaaDoorGN
namespace Go.Proofs.YtnehkokppobncaaDoor
open Go.RowKit
set_option linter.unusedVariables false
set_option maxRecDepth 100000

theorem more_at : ∀ k : Fin 6, (#[Value.string ⟨#[27, 91, 49, 126]⟩, .string ⟨#[27, 91, 52, 126]⟩, .string ⟨#[27, 91, 49, 49, 126]⟩, .string ⟨#[27, 91, 49, 50, 126]⟩, .string ⟨#[27, 91, 49, 51, 126]⟩, .string ⟨#[27, 91, 49, 52, 126]⟩] : Array Value)[k.val]? = some (.string (str (moreL.getD k.val ([], 0)).1))
    ∧ (#[Value.int .i64 16777221, .int .i64 16777222, .int .i64 16777227, .int .i64 16777228, .int .i64 16777229, .int .i64 16777230] : Array Value)[k.val]? = some (.int .i64 (moreL.getD k.val ([], 0)).2) := by
  intro k
  match k with
  | ⟨0, _⟩ => exact ⟨rfl, rfl⟩
  | ⟨1, _⟩ => exact ⟨rfl, rfl⟩
  | ⟨2, _⟩ => exact ⟨rfl, rfl⟩
  | ⟨3, _⟩ => exact ⟨rfl, rfl⟩
  | ⟨4, _⟩ => exact ⟨rfl, rfl⟩
  | ⟨5, _⟩ => exact ⟨rfl, rfl⟩
theorem find_take {α : Type} {p : α → Bool} {A : List α} {k : Nat} (hk : k < A.length) (h : ∀ q ∈ A.take k, p q = false) (hp : p A[k] = true) : A.find? p = some A[k] := by
  rw [show A.find? p = (A.take k ++ A.drop k).find? p by rw [List.take_append_drop], List.find?_append, List.find?_eq_none.2 (fun q hq => by rw [h q hq]; decide), Option.none_or, List.drop_eq_getElem_cons hk, List.find?_cons_of_pos hp]
theorem find_noK {α : Type} {p : α → Bool} {A : List α} {k : Nat} (hk : A.length ≤ k) (h : ∀ q ∈ A.take k, p q = false) : A.find? p = none :=
  List.find?_eq_none.2 fun q hq => by rw [h q (by rw [List.take_of_length_le hk]; exact hq)]; decide
theorem take_more {α : Type} {A : List α} {p : α → Bool} {k : Nat} (hk : k < A.length) (h : ∀ q ∈ A.take k, p q = false) (hp : p A[k] = false) : ∀ q ∈ A.take (k + 1), p q = false := fun q hq => by
  rw [List.take_succ_eq_append_getElem hk] at hq
  rcases List.mem_append.1 hq with z | z
  · exact h q z
  · rw [List.mem_singleton.1 z]; exact hp
set_option maxHeartbeats 16000000 in
theorem rcontrol_any (q : List UInt8) (hl : (27 :: 91 :: q).length ≤ 140737488355328) (w : World) : Calls Tryd.prog 29 #[.string (str (27 :: 91 :: q))] w fun e w' => e = .returned (stepV (controlD (27 :: 91 :: q))) ∧ Below w.heap.size w w' := by
  obtain ⟨S, hS⟩ : ∃ S, 27 :: 91 :: q = S := ⟨_, rfl⟩
  have hS2 : 2 ≤ S.length := by rw [← hS]; simp
  rw [hS] at hl ⊢
  clear hS
  obtain ⟨CD, hCD⟩ : ∃ CD, controlD S = CD := ⟨_, rfl⟩
  rw [hCD]
  obtain ⟨I, hI⟩ : ∃ I, runG S 256 2 = I := ⟨_, rfl⟩
  unfold controlD at hCD
  rw [hI] at hCD
  have HCD := hidK hCD
  have HI := hidK hI
  obtain ⟨N, hN⟩ : ∃ N, S.length = N := ⟨_, rfl⟩
  obtain ⟨A, hA⟩ : ∃ A, str S = A := ⟨_, rfl⟩
  have zA : A.size = N := by rw [← hA]; exact hN
  have HAA := hidK hA
  have HNN := hidK hN
  have HAt : Hid (∀ (k : Nat) (hk : k < A.size), (A[k]'hk).toNat = (S.getD k 0).toNat) := fun k hk => by
    subst hA
    rw [List.getD_eq_getElem?_getD, List.getElem?_eq_getElem (by rw [hN]; omega)]
    rfl
  rw [hN] at hl hS2
  rw [hA]
  obtain ⟨V, Z, hV, hZ, HV, HZ, z0, z1, f0, f1⟩ := key_new w
  have HPz : Hid (∀ X, Below w.heap.size w X → Below Z w X) := fun X hX => by rw [← hZ]; exact hX
  clear hCD hI hN hA
  go_enter Tryd.func29, Tryd.ntmps29
  go_wp2_with fail
  go_loopw [4] (fun iv wr => ∃ i : Nat, iv = .int .i64 i ∧ V = wr ∧ Hid (2 ≤ i ∧ i ≤ 256 ∧ i ≤ N ∧ runG S (258 - i) i = I)) (fun iv _ => 258 - (intOf iv).toNat)
  case atStart => exact ⟨2, rfl, rfl, ⟨Nat.le_refl _, by decide, hS2, HI.out⟩⟩
  case round =>
    obtain ⟨i, rfl, rfl, HR⟩ := hrel
    obtain ⟨hi2, hi6, hiN, hir⟩ := HR.out
    by_cases c6 : i = 256
    · have HIe : Hid (CD = ((0, 0), 256)) := by
        show _ = _
        rw [← HCD.out, if_pos]
        rw [← hir, run_at S (fun z => by have := z.2.2; omega)]
        exact c6
      subst c6
      clear hir
      by_cases hN6 : 256 < N
      · have a1 : (256 : Int) < (N : Int) := by omega
        have hk : 256 < A.size := by omega
        have hg := HAt.out 256 hk
        obtain ⟨b, hb⟩ : ∃ b, (S.getD 256 0).toNat = b := ⟨_, rfl⟩
        rw [hb] at hg
        clear hb
        rcases (by omega : b < 32 ∨ (32 ≤ b ∧ b ≤ 63) ∨ (32 ≤ b ∧ 63 < b)) with j | ⟨j, k⟩ | ⟨j, k⟩
        · have j1 : ¬ (32 : Int) ≤ (b : Int) := by omega
          go_wp2_with fail
          all_goals exact key_end2 rfl HV.out HZ.out rfl rfl fun X hX => ⟨by rw [HIe.out]; rfl, by first | exact hX | exact HPz.out X hX⟩
        · have j1 : (32 : Int) ≤ (b : Int) := by omega
          have j2 : (b : Int) ≤ 63 := by omega
          go_wp2_with fail
          all_goals exact key_end2 rfl HV.out HZ.out rfl rfl fun X hX => ⟨by rw [HIe.out]; rfl, by first | exact hX | exact HPz.out X hX⟩
        · have j1 : (32 : Int) ≤ (b : Int) := by omega
          have j2 : ¬ (b : Int) ≤ 63 := by omega
          go_wp2_with fail
          all_goals exact key_end2 rfl HV.out HZ.out rfl rfl fun X hX => ⟨by rw [HIe.out]; rfl, by first | exact hX | exact HPz.out X hX⟩
      · have a1 : ¬ (256 : Int) < (N : Int) := by omega
        go_wp2_with fail
        all_goals exact key_end2 rfl HV.out HZ.out rfl rfl fun X hX => ⟨by rw [HIe.out]; rfl, by first | exact hX | exact HPz.out X hX⟩
    · have i6 : ¬ (i : Int) = 256 := by omega
      have i6' : ((i : Int) == 256) = false := by simpa using i6
      by_cases cN : i = N
      · have HIe : Hid (CD = ((0, 0), 0)) := by
          show _ = _
          have e : I = i := by rw [← hir, run_at S (fun z => by have := z.1; rw [HNN.out] at this; omega)]
          rw [← HCD.out, if_neg (by omega), if_pos (by rw [HNN.out]; omega)]
        subst cN
        clear hir
        go_wp2_with fail
        all_goals exact key_end2 rfl HV.out HZ.out rfl rfl fun X hX => ⟨by rw [HIe.out]; rfl, by first | exact hX | exact HPz.out X hX⟩
      · have hlt : i < N := by omega
        have a1 : (i : Int) < (N : Int) := by omega
        have a2 : ¬ (i : Int) = (N : Int) := by omega
        have a3 : (i : Int) < 256 := by omega
        have a4 : (0 : Int) ≤ (i : Int) := by omega
        have hk : i < A.size := by omega
        have hg := HAt.out i hk
        obtain ⟨b, hb⟩ : ∃ b, (S.getD i 0).toNat = b := ⟨_, rfl⟩
        rw [hb] at hg
        have HB := hidK hb
        have hb8 : b < 256 := by rw [← hb]; exact (S.getD i 0).toNat_lt
        have hin : inB (S.getD i 0) = decide (32 ≤ b ∧ b ≤ 63) := by unfold inB; rw [hb]
        clear hb
        by_cases cb : 32 ≤ b ∧ b ≤ 63
        · have j1 : (32 : Int) ≤ (b : Int) := by omega
          have j2 : (b : Int) ≤ 63 := by omega
          have HRn : Hid (2 ≤ i + 1 ∧ i + 1 ≤ 256 ∧ i + 1 ≤ N ∧ runG S (258 - (i + 1)) (i + 1) = I) := ⟨by omega, by omega, by omega, by
            rw [← hir, show 258 - i = (258 - (i + 1)) + 1 by omega, run_on S ⟨by rw [HNN.out]; exact hlt, by rw [hin]; exact decide_eq_true cb, by omega⟩]⟩
          have HM := hidK (And.intro hi2 (And.intro hi6 c6))
          clear hir hin cb cN c6 hlt hi2 hi6 hiN
          go_wp2_with fail
          go_roundw
          case rel => exact ⟨i + 1, by first | rfl | go_num, by first | rfl | trivial, HRn⟩
          case measure => have := HM.out; simp [intOf]; omega
        · have hIi : I = i := by rw [← hir, run_at S (fun z => by have := z.2.1; rw [hin] at this; exact cb (of_decide_eq_true this))]
          by_cases cc : b < 64 ∨ 126 < b
          · have HIe : Hid (CD = ((0, 0), i)) := by
              show _ = _
              rw [← HCD.out, hIi, if_neg (by omega), if_neg (by rw [HNN.out]; omega), if_pos (by rw [HB.out]; exact cc)]
            clear hir hin cN c6 hlt hi2 hi6 hiN hIi
            rcases (by omega : b < 32 ∨ (32 ≤ b ∧ 126 < b)) with j | ⟨j, k⟩
            · have j1 : ¬ (32 : Int) ≤ (b : Int) := by omega
              have j2 : (b : Int) < 64 := by omega
              clear cc cb
              go_wp2_with fail
              all_goals exact key_end2 rfl HV.out HZ.out rfl rfl fun X hX => ⟨by rw [HIe.out]; rfl, by first | exact hX | exact HPz.out X hX⟩
            · have j1 : (32 : Int) ≤ (b : Int) := by omega
              have j2 : ¬ (b : Int) ≤ 63 := by omega
              have j3 : ¬ (b : Int) < 64 := by omega
              have j4 : (126 : Int) < (b : Int) := by omega
              clear cc cb
              go_wp2_with fail
              all_goals exact key_end2 rfl HV.out HZ.out rfl rfl fun X hX => ⟨by rw [HIe.out]; rfl, by first | exact hX | exact HPz.out X hX⟩
          · obtain ⟨t, ht⟩ : ∃ t, S.take (i + 1) = t := ⟨_, rfl⟩
            have HIe : Hid (CD = (keyOfD t, i + 1)) := by
              show _ = _
              rw [← HCD.out, hIi, if_neg (by omega), if_neg (by rw [HNN.out]; omega), if_neg (by rw [HB.out]; exact cc), ht]
            have hsl : ∀ W : World, (Instr.slice 9 (.string A) none (some (.int .i64 ((i : Int) + 1))) none).run Tryd.prog W = .ok (.string (str t)) W := fun W => by
              rw [← ht, ← str_takeF, HAA.out]
              have h9 := slice_to A (i + 1) (by omega) W
              rw [Int.natCast_add] at h9
              exact h9
            obtain ⟨T, hT⟩ : ∃ T, str t = T := ⟨_, rfl⟩
            rw [hT] at hsl
            have HT := hidK hT
            have j1 : (32 : Int) ≤ (b : Int) := by omega
            have j2 : ¬ (b : Int) ≤ 63 := by omega
            have j3 : ¬ (b : Int) < 64 := by omega
            have j4 : ¬ (126 : Int) < (b : Int) := by omega
            have i3 : (i : Int) + 1 ≤ 257 := by omega
            have HAl := hidK (rall_any V)
            clear hir hin cN c6 hlt hi2 hi6 hiN hIi cc cb ht hT
            go_wp2_with fail
            refine HAl.out.mono ?_
            rintro e w1 ⟨v1, rfl, hal⟩
            have hK1 := HV.out.more hal.below
            obtain ⟨L, hL⟩ : ∃ L, allF 8 = L := ⟨_, rfl⟩
            have HLl : Hid (L.length = 1208) := by show _ = _; rw [← hL]; exact all_len 8
            have HKo : Hid (keyOfD t = match L.find? (keyP t) with
                | some k => k
                | none => match moreL.find? (fun p => decide (p.1 = t)) with
                  | some p => (p.2, 0)
                  | none => (0, 0)) := by show _ = _; rw [← hL]; rfl
            rw [hL] at hal
            obtain ⟨a0, c0, rfl⟩ := hal.keys.slice
            obtain ⟨a0', c0', e0, hsee⟩ := hal.keys.see
            obtain ⟨g, o, ead, hcell⟩ := hsee (fun e => by have := HLl.out; rw [e] at this; exact absurd this (by decide))
            cases e0
            cases ead
            have HCe := hidK hcell
            have HK := hidK hK1
            rw [HLl.out]
            clear hal hsee hcell HAl hK1 hL z0 z1 f0 f1
            go_wp2_with fail
            go_loopw [7] (fun nv wr => ∃ k : Nat, k ≤ 1208 ∧ nv = .int .i64 k ∧ Hid (Below w1.heap.size w1 wr) ∧ Hid (∀ q ∈ L.take k, keyP t q = false)) (fun nv _ => 1208 - (intOf nv).toNat)
            case atStart => exact ⟨0, Nat.zero_le _, rfl, Below.refl _ _, fun q hq => by simp at hq⟩
            case round =>
              obtain ⟨k, hk, rfl, HB0, HS⟩ := hrel
              by_cases hlt : k < 1208
              · have hka : k < L.length := by rw [HLl.out]; exact hlt
                obtain ⟨b1, b2⟩ := HCe.out k hka
                obtain ⟨⟨x, y⟩, hxy⟩ : ∃ q, L[k] = q := ⟨_, rfl⟩
                rw [hxy] at b1 b2
                simp only at b1 b2
                have HCl : Hid (∀ X, Below w1.heap.size w1 X → X.cell? ⟨g, o + k * 2, none⟩ = some (.int .i64 x) ∧ X.cell? ⟨g, o + k * 2 + 1, none⟩ = some (.int .i64 y)) := fun X hX => ⟨(hX.cell (World.block_lt_of_cell? w1 _ b1)).trans b1, (hX.cell (World.block_lt_of_cell? w1 _ b2)).trans b2⟩
                clear b1 b2
                obtain ⟨e1, e2⟩ := HCl.out _ HB0.out
                have hi1 : (k : Int) < 1208 := by omega
                have hi0 : (0 : Int) ≤ (k : Int) := by omega
                have HVa := hidK (rvalid_any x y)
                have HBy := hidK (rbytes_any x y false)
                have HNext : Hid (keyP t (x, y) = false → ∀ q ∈ L.take (k + 1), keyP t q = false) := fun hn => take_more hka HS.out (by rw [hxy]; exact hn)
                have HHit : Hid (keyP t (x, y) = true → CD = ((x, y), i + 1)) := fun hh => by
                  rw [HIe.out, HKo.out, find_take hka HS.out (by rw [hxy]; exact hh), hxy]
                have HI := hidK hlt
                clear hxy hka hk hlt
                by_cases hx : 16777217 ≤ x
                · cases hv : validB x y with
                  | false =>
                    have HN2 := hidK (HNext.out (by unfold keyP; simp [hv]))
                    rw [hv] at HVa
                    clear HHit HNext hv
                    go_wp2_with fail
                    refine (HVa.out _).mono ?_
                    rintro e w2 ⟨rfl, hb2⟩
                    have HBn : Hid (Below w1.heap.size w1 w2) := below_step HB0.out hb2
                    clear hb2
                    obtain ⟨n1, n2⟩ := HCl.out _ HBn.out
                    go_wp2_with fail
                    go_roundw
                    case rel => exact ⟨k + 1, HI.out, by first | rfl | go_num, HBn, HN2⟩
                    case measure => have := HI.out; simp [intOf]; omega
                  | true =>
                    rw [hv] at HVa
                    obtain ⟨M, hM⟩ : ∃ M, str (bytesF x y false) = M := ⟨_, rfl⟩
                    rw [hM] at HBy
                    by_cases hn : bytesF x y false = t
                    · have y1 : (M.toList == T.toList) = true := by rw [← hM, hn, HT.out]; simp
                      have HHi := hidK (HHit.out (by unfold keyP; simp [hv, hn, hx]))
                      clear HHit HNext hv hn hM
                      go_wp2_with fail
                      refine (HVa.out _).mono ?_
                      rintro e w2 ⟨rfl, hb2⟩
                      have HBn : Hid (Below w1.heap.size w1 w2) := below_step HB0.out hb2
                      clear hb2
                      obtain ⟨n1, n2⟩ := HCl.out _ HBn.out
                      go_wp2_with fail
                      refine (HBy.out _).mono ?_
                      rintro e w3 ⟨rfl, hb3⟩
                      have HBm : Hid (Below w1.heap.size w1 w3) := below_step HBn.out hb3
                      clear hb3
                      obtain ⟨m1, m2⟩ := HCl.out _ HBm.out
                      have HK3 := hidK (HK.out.more HBm.out)
                      have z0 := HK3.out.c0
                      have z1 := HK3.out.c1
                      have f0 := HK3.out.f 0
                      have f1 := HK3.out.f 1
                      go_wp2_with fail
                      all_goals exact key_end2 rfl HK3.out HZ.out rfl rfl fun X hX => ⟨by rw [HHi.out]; rfl, by first | exact hX | exact HPz.out X hX⟩
                    · have y1 : (M.toList == T.toList) = false := by
                        rw [← hM, ← HT.out, str_toList, str_toList]
                        simpa using hn
                      have HN2 := hidK (HNext.out (by unfold keyP; simp [hn]))
                      clear HHit HNext hv hn hM
                      go_wp2_with fail
                      refine (HVa.out _).mono ?_
                      rintro e w2 ⟨rfl, hb2⟩
                      have HBn : Hid (Below w1.heap.size w1 w2) := below_step HB0.out hb2
                      clear hb2
                      obtain ⟨n1, n2⟩ := HCl.out _ HBn.out
                      go_wp2_with fail
                      refine (HBy.out _).mono ?_
                      rintro e w3 ⟨rfl, hb3⟩
                      have HBm : Hid (Below w1.heap.size w1 w3) := below_step HBn.out hb3
                      clear hb3
                      go_wp2_with fail
                      go_roundw
                      case rel => exact ⟨k + 1, HI.out, by first | rfl | go_num, HBm, HN2⟩
                      case measure => have := HI.out; simp [intOf]; omega
                · have HN2 := hidK (HNext.out (by unfold keyP; simp [hx]))
                  clear HHit HNext HVa HBy
                  go_wp2_with fail
                  go_roundw
                  case rel => exact ⟨k + 1, HI.out, by first | rfl | go_num, HB0, HN2⟩
                  case measure => have := HI.out; simp [intOf]; omega
              · obtain rfl : k = 1208 := by omega
                have HKm : Hid (keyOfD t = match moreL.find? (fun p => decide (p.1 = t)) with
                    | some p => (p.2, 0)
                    | none => (0, 0)) := by show _ = _; rw [HKo.out, find_noK (by rw [HLl.out]; exact Nat.le_refl _) HS.out]
                obtain ⟨U1, hU1⟩ : ∃ U, wr.alloc (.cells #[.string ⟨#[27, 91, 49, 126]⟩, .string ⟨#[27, 91, 52, 126]⟩, .string ⟨#[27, 91, 49, 49, 126]⟩, .string ⟨#[27, 91, 49, 50, 126]⟩, .string ⟨#[27, 91, 49, 51, 126]⟩, .string ⟨#[27, 91, 49, 52, 126]⟩] 9) = U := ⟨_, rfl⟩
                obtain ⟨Q1, hQ1⟩ : ∃ Q, wr.heap.size = Q := ⟨_, rfl⟩
                obtain ⟨U2, hU2⟩ : ∃ U, U1.alloc (.cells #[.int .i64 16777221, .int .i64 16777222, .int .i64 16777227, .int .i64 16777228, .int .i64 16777229, .int .i64 16777230] 3) = U := ⟨_, rfl⟩
                obtain ⟨Q2, hQ2⟩ : ∃ Q, U1.heap.size = Q := ⟨_, rfl⟩
                have p1 : U1.heap[Q1]? = some (.cells #[.string ⟨#[27, 91, 49, 126]⟩, .string ⟨#[27, 91, 52, 126]⟩, .string ⟨#[27, 91, 49, 49, 126]⟩, .string ⟨#[27, 91, 49, 50, 126]⟩, .string ⟨#[27, 91, 49, 51, 126]⟩, .string ⟨#[27, 91, 49, 52, 126]⟩] 9 (0, 0)) := by rw [← hU1, ← hQ1]; exact heap_alloc_new wr _
                have bU1 : Below wr.heap.size wr U1 := by rw [← hU1]; exact (Below.refl _ _).alloc (Nat.le_refl _) _
                have bU2 : Below U1.heap.size U1 U2 := by rw [← hU2]; exact (Below.refl _ _).alloc (Nat.le_refl _) _
                have p2 := (bU2.block Q1 (lt_block p1)).trans p1
                have p3 : U2.heap[Q2]? = some (.cells #[.int .i64 16777221, .int .i64 16777222, .int .i64 16777227, .int .i64 16777228, .int .i64 16777229, .int .i64 16777230] 3 (0, 0)) := by rw [← hU2, ← hQ2]; exact heap_alloc_new U1 _
                have HCm : Hid (∀ k, k < 6 → U2.cell? ⟨Q1, k, none⟩ = some (.string (str (moreL.getD k ([], 0)).1)) ∧ U2.cell? ⟨Q2, k, none⟩ = some (.int .i64 (moreL.getD k ([], 0)).2)) := fun k hk => by
                  rw [cell_at p2, cell_at p3]
                  exact more_at ⟨k, hk⟩
                have HKU := hidK (HK.out.more (below_step (below_step HB0.out bU1) bU2))
                clear p1 bU1 bU2 p2 p3 hlt
                go_wp2_with fail
                go_loopw [10] (fun nv wx => ∃ k : Nat, k ≤ 6 ∧ nv = .int .i64 k ∧ U2 = wx ∧ Hid (∀ q ∈ moreL.take k, (decide (q.1 = t)) = false)) (fun nv _ => 6 - (intOf nv).toNat)
                case atStart => exact ⟨0, Nat.zero_le _, rfl, rfl, fun q hq => by simp at hq⟩
                case round =>
                  obtain ⟨k, hk, rfl, rfl, HS2⟩ := hrel
                  by_cases hl6 : k < 6
                  · obtain ⟨r1, r2⟩ := HCm.out k hl6
                    have hkm : k < moreL.length := hl6
                    have hge : moreL.getD k ([], 0) = moreL[k] := by rw [List.getD_eq_getElem?_getD, List.getElem?_eq_getElem hkm]; rfl
                    obtain ⟨⟨mt, mc⟩, hmk⟩ : ∃ q, moreL[k] = q := ⟨_, rfl⟩
                    rw [hge, hmk] at r1 r2
                    simp only at r1 r2
                    have hi1 : (k : Int) < 6 := by omega
                    have hi0 : (0 : Int) ≤ (k : Int) := by omega
                    obtain ⟨M, hM⟩ : ∃ M, str mt = M := ⟨_, rfl⟩
                    rw [hM] at r1
                    have HI6 := hidK hl6
                    by_cases hn : mt = t
                    · have y1 : (M.toList == T.toList) = true := by rw [← hM, hn, HT.out]; simp
                      have HHi : Hid (CD = ((mc, 0), i + 1)) := by
                        show _ = _
                        rw [HIe.out, HKm.out, find_take hkm HS2.out (by rw [hmk]; exact decide_eq_true hn), hmk]
                      have z0 := HKU.out.c0
                      have z1 := HKU.out.c1
                      have f0 := HKU.out.f 0
                      have f1 := HKU.out.f 1
                      clear hn hM hmk hge hkm hl6 hk
                      go_wp2_with fail
                      all_goals exact key_end2 rfl HKU.out HZ.out rfl rfl fun X hX => ⟨by rw [HHi.out]; rfl, by first | exact hX | exact HPz.out X hX⟩
                    · have y1 : (M.toList == T.toList) = false := by
                        rw [← hM, ← HT.out, str_toList, str_toList]
                        simpa using hn
                      have HN2 : Hid (∀ q ∈ moreL.take (k + 1), (decide (q.1 = t)) = false) := hidK (take_more (p := fun q : List UInt8 × Int => decide (q.1 = t)) hkm HS2.out (by rw [hmk]; exact decide_eq_false hn))
                      clear hn hM hmk hge hkm hl6 hk
                      go_wp2_with fail
                      go_roundw
                      case rel => exact ⟨k + 1, HI6.out, by first | rfl | go_num, by first | rfl | trivial, HN2⟩
                      case measure => have := HI6.out; simp [intOf]; omega
                  · obtain rfl : k = 6 := by omega
                    have HHi : Hid (CD = ((0, 0), i + 1)) := by
                      show _ = _
                      rw [HIe.out, HKm.out, find_noK (p := fun q : List UInt8 × Int => decide (q.1 = t)) (k := 6) (by decide) HS2.out]
                    have z0 := HKU.out.c0
                    have z1 := HKU.out.c1
                    have f0 := HKU.out.f 0
                    have f1 := HKU.out.f 1
                    clear hl6 hk
                    go_wp2_with fail
                    all_goals exact key_end2 rfl HKU.out HZ.out rfl rfl fun X hX => ⟨by rw [HHi.out]; rfl, by first | exact hX | exact HPz.out X hX⟩
end Go.Proofs.YtnehkokppobncaaDoor
