/-
  Keys: whether bytes are a beginning, by the document.
-/
import Derived.Test.YtnehkokppobncaaDoorGO
namespace Go.Proofs.YtnehkokppobncaaDoor
open Go.RowKit
set_option linter.unusedVariables false
set_option maxRecDepth 100000

theorem grow_hit {s : List UInt8} (h3 : ¬ 3 < s.length) {i j : Nat} (hi : i < 6) (hj : j < 2) (h : growG (filL.getD j 0) (4 - s.length) (s ++ [lowL.getD i 0]) = true) : growsD s = true := by
  unfold growsD
  rw [if_neg h3, List.any_eq_true]
  refine ⟨lowL.getD i 0, ?_, ?_⟩
  · rw [List.getD_eq_getElem?_getD, List.getElem?_eq_getElem (by exact hi)]
    exact List.getElem_mem _
  · rw [List.any_eq_true]
    refine ⟨filL.getD j 0, ?_, h⟩
    rw [List.getD_eq_getElem?_getD, List.getElem?_eq_getElem (by exact hj)]
    exact List.getElem_mem _
theorem grow_miss {s : List UInt8} (h3 : ¬ 3 < s.length) (h : ∀ i, i < 6 → ∀ j, j < 2 → growG (filL.getD j 0) (4 - s.length) (s ++ [lowL.getD i 0]) = false) : growsD s = false := by
  unfold growsD
  rw [if_neg h3, List.any_eq_false]
  intro a ha
  rw [Bool.not_eq_true, List.any_eq_false]
  intro f hf
  rw [Bool.not_eq_true]
  obtain ⟨i, hi, rfl⟩ := List.mem_iff_getElem.1 ha
  obtain ⟨j, hj, rfl⟩ := List.mem_iff_getElem.1 hf
  have := h i hi j hj
  rwa [List.getD_eq_getElem?_getD, List.getD_eq_getElem?_getD, List.getElem?_eq_getElem hi, List.getElem?_eq_getElem hj] at this
def lowS : ByteArray := ⟨#[128, 144, 160, 191, 143, 159]⟩
theorem low_slice {i : Nat} (hi : i < 6) (W : World) : (Instr.slice 9 (.string ⟨#[128, 144, 160, 191, 143, 159]⟩) (some (.int .i64 (i : Int))) (some (.int .i64 ((i : Int) + 1))) none).run Tryd.prog W = .ok (.string (str [lowL.getD i 0])) W := by
  rcases (by omega : i = 0 ∨ i = 1 ∨ i = 2 ∨ i = 3 ∨ i = 4 ∨ i = 5) with rfl | rfl | rfl | rfl | rfl | rfl <;> kernel_rfl
theorem grow_end (f : UInt8) (t : List UInt8) : growG f (5 - 5) t = false := rfl
theorem grow_one {f : UInt8} {n : Nat} (hn : n ≤ 4) (t : List UInt8) : growG f (5 - n) t = ((match firstF t with
      | some p => decide (p.2 = t.length)
      | none => false) || growG f (5 - (n + 1)) (t ++ [f])) := by
  rw [show 5 - n = (5 - (n + 1)) + 1 by omega]
  rfl
set_option maxHeartbeats 8000000 in
theorem rgrows_any (l : List UInt8) (hl : l.length ≤ 140737488355328) (w : World) : Calls Tryd.prog 23 #[.string (str l)] w fun r w' => r = .returned (.bool (growsD l)) ∧ Below w.heap.size w w' := by
  obtain ⟨R, hR⟩ : ∃ R, growsD l = R := ⟨_, rfl⟩
  rw [hR]
  obtain ⟨A, hA⟩ : ∃ A, str l = A := ⟨_, rfl⟩
  have zA : A.size = l.length := by rw [← hA]; rfl
  by_cases h3 : 3 < l.length
  · have i3 : (3 : Int) < (A.size : Int) := by omega
    have HR : Hid (R = false) := by show _ = _; rw [← hR]; exact grows_long (by omega)
    rw [hA]
    clear hR hA zA h3 hl
    go_enter Tryd.func23, Tryd.ntmps23
    go_wp2_with fail
    go_ret
    exact ⟨by rw [HR.out]; rfl, Below.refl _ _⟩
  · have i3 : ¬ (3 : Int) < (A.size : Int) := by omega
    have HA := hidK hA
    have HR := hidK hR
    have HZ := hidK zA
    have H3 := hidK h3
    rw [hA]
    clear hR hA zA h3 hl
    go_enter Tryd.func23, Tryd.ntmps23
    go_wp2_with fail
    go_loopw [4] (fun iv wr => ∃ i : Nat, i ≤ 6 ∧ iv = .int .i64 i ∧ Hid (Below w.heap.size w wr) ∧ Hid (∀ i', i' < i → ∀ j, j < 2 → growG (filL.getD j 0) (4 - l.length) (l ++ [lowL.getD i' 0]) = false)) (fun iv _ => 6 - (intOf iv).toNat)
    case atStart => exact ⟨0, Nat.zero_le _, rfl, Below.refl _ _, fun i' h => absurd h (Nat.not_lt_zero _)⟩
    case round =>
      obtain ⟨i, hi, rfl, HB, HS⟩ := hrel
      by_cases hi6 : i < 6
      · have j1 : (i : Int) < 6 := by omega
        have hls := low_slice hi6
        obtain ⟨b, hb⟩ : ∃ b, lowL.getD i 0 = b := ⟨_, rfl⟩
        rw [hb] at hls
        have HBb := hidK hb
        have HI6 := hidK hi6
        clear hb hi6 hi
        obtain ⟨T0, hT0⟩ : ∃ T0, A ++ str [b] = T0 := ⟨_, rfl⟩
        have HT0 : Hid (T0 = str (l ++ [b])) := by show _ = _; rw [← hT0, ← HA.out, str_catK]
        have zT0 : T0.size = l.length + 1 := by rw [HT0.out, str_size, List.length_append]; rfl
        have a1 : (str [b]).size = 1 := rfl
        have hll : l.length ≤ 3 := by have := H3.out; omega
        obtain ⟨N, hN⟩ : ∃ N, l.length = N := ⟨_, rfl⟩
        have HN := hidK hN
        rw [hN] at zT0 hll HS
        have a2 : A.size ≤ 3 := by have := HZ.out; rw [this, hN]; exact hll
        clear hN
        go_wp2_with fail
        go_loopw [5] (fun jv wr => ∃ j : Nat, j ≤ 2 ∧ jv = .int .i64 j ∧ Hid (Below w.heap.size w wr) ∧ Hid (∀ j', j' < j → growG (filL.getD j' 0) (4 - N) (l ++ [b]) = false)) (fun jv _ => 2 - (intOf jv).toNat)
        case atStart => exact ⟨0, Nat.zero_le _, rfl, HB, fun j' h => absurd h (Nat.not_lt_zero _)⟩
        case round =>
          obtain ⟨j, hj, rfl, HC, HJ⟩ := hrel
          by_cases hj2 : j < 2
          · have k1 : (j : Int) < 2 := by omega
            obtain ⟨f, hf⟩ : ∃ f, filL.getD j 0 = f := ⟨_, rfl⟩
            have HJ2 := hidK hj2
            have HFf := hidK hf
            clear hj
            go_wp2_with fail
            go_loopw [6, 7] (fun tv nv wr => ∃ (T : List UInt8) (n : Nat), n ≤ 5 ∧ tv = .string (str T) ∧ nv = .int .i64 n ∧ Hid (Below w.heap.size w wr) ∧ Hid (1 ≤ n ∧ T.length = n ∧ growG f (5 - n) T = growG f (4 - N) (l ++ [b]))) (fun _ nv _ => 5 - (intOf nv).toNat)
            case atStart => exact ⟨l ++ [b], N + 1, by omega, by rw [HT0.out], by first | rfl | go_num | (rw [zT0]; rfl), HC, ⟨by omega, by rw [List.length_append, HN.out]; rfl, by rw [show 5 - (N + 1) = 4 - N by omega]⟩⟩
            case round =>
              obtain ⟨T, n, hn, rfl, rfl, HD, HG⟩ := hrel
              by_cases hn4 : n ≤ 4
              · have m1 : (n : Int) ≤ 4 := by omega
                have hst := grow_one (f := f) hn4 T
                rw [HG.out.2.2] at hst
                have HFi := hidK (rfirst_any T (by have := HG.out.2.1; omega))
                obtain ⟨X, hX⟩ : ∃ X, str T = X := ⟨_, rfl⟩
                have zX : X.size = n := by rw [← hX]; exact HG.out.2.1
                rw [hX] at HFi ⊢
                have HX := hidK hX
                have HTn := hidK HG.out
                have a3 : (str [f]).size = 1 := rfl
                cases hfi : firstF T with
                | none =>
                  rw [hfi] at hst HFi
                  have HSt : Hid (growG f (4 - N) (l ++ [b]) = growG f (5 - (n + 1)) (T ++ [f])) := by show _ = _; rw [hst, Bool.false_or]
                  clear hst hX hfi
                  go_wp2_with fail
                  refine (HFi.out _).mono ?_
                  rintro e w1 ⟨rfl, hb1⟩
                  have HB3 := hidK (below_step HD.out hb1)
                  clear hb1
                  obtain ⟨U, hU⟩ : ∃ U, w1.alloc (.cells #[.string (str [128]), .string (str [191])] 9) = U := ⟨_, rfl⟩
                  obtain ⟨Q, hQ⟩ : ∃ Q, w1.heap.size = Q := ⟨_, rfl⟩
                  have hqU : U.heap[Q]? = some (.cells (#[.string (str [128]), .string (str [191])]) 9 (0, 0)) := by rw [← hU, ← hQ]; exact heap_alloc_new w1 _
                  have hcU : U.cell? ⟨Q, j, none⟩ = some (.string (str [f])) := by
                    rw [cell_at hqU, ← HFf.out]
                    rcases (by have := HJ2.out; omega : j = 0 ∨ j = 1) with rfl | rfl <;> rfl
                  have HB4 : Hid (Below w.heap.size w U) := by rw [← hU]; exact below_step HB3.out ((Below.refl _ _).alloc (Nat.le_refl _) _)
                  unfold str at hU hcU
                  unfold firV
                  clear hqU
                  go_wp2_with fail
                  go_roundw
                  case rel => exact ⟨T ++ [f], n + 1, by omega, by rw [← HX.out]; exact congrArg Value.string (str_catK T [f]), by first | rfl | go_num, HB4, ⟨by omega, by rw [List.length_append, HTn.out.2.1]; rfl, HSt.out.symm⟩⟩
                  case measure => simp [intOf]; omega
                | some p =>
                  obtain ⟨c, m⟩ := p
                  rw [hfi] at hst HFi
                  by_cases hm : m = n
                  · have HH : Hid (R = true) := by
                      show _ = _
                      rw [← HR.out]
                      refine grow_hit H3.out HI6.out HJ2.out ?_
                      rw [HFf.out, HBb.out, HN.out, hst, Bool.or_eq_true]
                      exact .inl (by simp [hm, HTn.out.2.1])
                    have q1 : ((m : Int) == (X.size : Int)) = true := by rw [zX, hm]; simp
                    clear hst hX hfi hm zX
                    go_wp2_with fail
                    refine (HFi.out _).mono ?_
                    rintro e w1 ⟨rfl, hb1⟩
                    have HB3 := hidK (below_step HD.out hb1)
                    clear hb1
                    unfold firV
                    go_wp2_with fail
                    go_ret
                    exact ⟨by rw [HH.out]; rfl, HB3.out⟩
                  · have HSt : Hid (growG f (4 - N) (l ++ [b]) = growG f (5 - (n + 1)) (T ++ [f])) := by
                      show _ = _
                      have hd : decide (m = T.length) = false := decide_eq_false (by rw [HTn.out.2.1]; exact hm)
                      rw [hst]
                      show (decide (m = T.length) || _) = _
                      rw [hd, Bool.false_or]
                    have q1 : ((m : Int) == (X.size : Int)) = false := by rw [zX]; simp only [beq_eq_false_iff_ne, ne_eq]; omega
                    have q2 : ¬ (m : Int) = (X.size : Int) := by rw [zX]; omega
                    clear hst hX hfi hm
                    go_wp2_with fail
                    refine (HFi.out _).mono ?_
                    rintro e w1 ⟨rfl, hb1⟩
                    have HB3 := hidK (below_step HD.out hb1)
                    clear hb1
                    obtain ⟨U, hU⟩ : ∃ U, w1.alloc (.cells #[.string (str [128]), .string (str [191])] 9) = U := ⟨_, rfl⟩
                    obtain ⟨Q, hQ⟩ : ∃ Q, w1.heap.size = Q := ⟨_, rfl⟩
                    have hqU : U.heap[Q]? = some (.cells (#[.string (str [128]), .string (str [191])]) 9 (0, 0)) := by rw [← hU, ← hQ]; exact heap_alloc_new w1 _
                    have hcU : U.cell? ⟨Q, j, none⟩ = some (.string (str [f])) := by
                      rw [cell_at hqU, ← HFf.out]
                      rcases (by have := HJ2.out; omega : j = 0 ∨ j = 1) with rfl | rfl <;> rfl
                    have HB4 : Hid (Below w.heap.size w U) := by rw [← hU]; exact below_step HB3.out ((Below.refl _ _).alloc (Nat.le_refl _) _)
                    unfold str at hU hcU
                    unfold firV
                    clear hqU
                    go_wp2_with fail
                    go_roundw
                    case rel => exact ⟨T ++ [f], n + 1, by omega, by rw [← HX.out]; exact congrArg Value.string (str_catK T [f]), by first | rfl | go_num, HB4, ⟨by omega, by rw [List.length_append, HTn.out.2.1]; rfl, HSt.out.symm⟩⟩
                    case measure => simp [intOf]; omega
              · obtain rfl : n = 5 := by omega
                have HSt : Hid (growG f (4 - N) (l ++ [b]) = false) := by show _ = _; rw [← HG.out.2.2]; rfl
                obtain ⟨X, hX⟩ : ∃ X, str T = X := ⟨_, rfl⟩
                rw [hX]
                clear hX hn hn4
                go_wp2_with fail
                go_roundw
                case rel => exact ⟨j + 1, by have := HJ2.out; omega, by first | rfl | go_num, HD, fun j' h' => by
                  rcases (by omega : j' < j ∨ j' = j) with q | q
                  · exact HJ.out j' q
                  · rw [q, HFf.out]; exact HSt.out⟩
                case measure => have := HJ2.out; simp [intOf]; omega
          · obtain rfl : j = 2 := by omega
            go_wp2_with fail
            go_roundw
            case rel => exact ⟨i + 1, by have := HI6.out; omega, by first | rfl | go_num, HC, fun i' h' j' hj' => by
              rw [HN.out]
              rcases (by omega : i' < i ∨ i' = i) with q | q
              · exact HS.out i' q j' hj'
              · rw [q, HBb.out]; exact HJ.out j' hj'⟩
            case measure => have := HI6.out; simp [intOf]; omega
      · obtain rfl : i = 6 := by omega
        have HRf : Hid (R = false) := by show _ = _; rw [← HR.out]; exact grow_miss H3.out HS.out
        go_wp2_with fail
        go_ret
        exact ⟨by rw [HRf.out]; rfl, HB.out⟩
end Go.Proofs.YtnehkokppobncaaDoor
