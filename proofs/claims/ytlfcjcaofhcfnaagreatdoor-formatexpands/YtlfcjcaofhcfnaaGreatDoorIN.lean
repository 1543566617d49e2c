/-
  Formats: a text turned at its last slash, as the document says it.
  Formats: a text's letters turned, as the document says it; every turn.
-/
import Derived.Test.YtlfcjcaofhcfnaaGreatDoorIM
import Derived.Test.YtlfcjcaofhcfnaaGreatDoorGK
import Derived.Test.YtlfcjcaofhcfnaaGreatDoorGF
namespace Go.Proofs.YtlfcjcaofhcfnaaGreatDoor
open Go.RowKit
set_option linter.unusedVariables false
set_option maxRecDepth 100000

theorem slash_is {l : List UInt8} {j : Nat} (h1 : j ≤ l.length) (h2 : ∀ (i : Nat) (c : UInt8), j ≤ i → l[i]? = some c → c.toNat ≠ 47) (h3 : j = 0 ∨ ∃ c, l[j - 1]? = some c ∧ c.toNat = 47) : slashE l = (j : Int) - 1 := by
  have hsz : (str l).size = l.length := rfl
  unfold slashE
  rcases Lib.lastIndexByte_spec (str l) 47 with ⟨e1, e2⟩ | ⟨i, e1, e2, e3, e4⟩
  · rcases h3 with rfl | ⟨c, hc, h47⟩
    · rw [e1]; rfl
    · exfalso
      obtain ⟨hl, hc2⟩ := List.getElem?_eq_some_iff.1 hc
      have := e2 (j - 1) (by rw [hsz]; exact hl)
      rw [data_at l hl, hc2] at this
      omega
  · rw [hsz] at e1
    rw [data_at l e1] at e3
    have hij : i < j := by
      rcases Nat.lt_or_ge i j with h | h
      · exact h
      · exfalso
        have := h2 i _ h (List.getElem?_eq_getElem e1)
        omega
    rcases h3 with rfl | ⟨c, hc, h47⟩
    · omega
    · obtain ⟨hl, hc2⟩ := List.getElem?_eq_some_iff.1 hc
      rcases Nat.lt_or_ge i (j - 1) with h | h
      · exfalso
        have := e4 (j - 1) h (by rw [hsz]; exact hl)
        rw [data_at l hl, hc2] at this
        omega
      · rw [e2]
        omega
def SlashS (l : List UInt8) (j : Nat) : Prop := ∀ (i : Nat) (c : UInt8), j ≤ i → l[i]? = some c → c.toNat ≠ 47
set_option maxHeartbeats 4000000 in
theorem turnedR_slash (b : Bool) (l : List UInt8) (hl : l.length ≤ 2147483647) (W : World) : Calls Tryz.prog 121 #[.agg #[.int .u8 (if b then 98 else 100), .int .i64 0, .string ⟨#[]⟩, .string ⟨#[]⟩], .string (str l)] W fun e w' => e = .returned (.string (str (if b then baseF l else folderF l))) ∧ Below W.heap.size W w' := by
  have hs : (str l).size = l.length := rfl
  have HG : Hid (∀ (k : Nat) (c : UInt8) (h : k < (str l).size), l[k]? = some c → (str l)[k] = c) := fun k c h hc => str_getF l k c hc h
  have HD : Hid (∀ k, (str l).extract k (str l).size = str (l.drop k)) := str_dropF l
  have HTk : Hid (∀ k, (str l).extract 0 k = str (l.take k)) := str_takeF l
  obtain ⟨z, hz⟩ : ∃ z, str l = z := ⟨_, rfl⟩
  rw [hz] at hs HG HD HTk ⊢
  obtain ⟨n, hn⟩ : ∃ n, l.length = n := ⟨_, rfl⟩
  have HN := hidK hn
  rw [hn] at hs hl
  rw [hs] at HD
  clear hz hn
  cases b with
  | true =>
    simp only [if_true]
    go_enter Tryz.func121, Tryz.ntmps121
    go_wp2_with fail
    obtain ⟨X, hX⟩ : ∃ X, W.alloc (.cells #[.int .u8 98, .int .i64 0, .string ⟨#[]⟩, .string ⟨#[]⟩] 152) = X := ⟨_, rfl⟩
    have HBx : Hid (Below W.heap.size W X) := by rw [← hX]; exact (Below.refl _ _).alloc (Nat.le_refl _) _
    have q0 : X.cell? ⟨W.heap.size, 0, none⟩ = some (.int .u8 98) := by rw [← hX]; exact cell_atT (heap_alloc_new W _) 0
    simp only [hX]
    clear hX
    go_loopw [6] (fun s6 wx => ∃ (j : Nat), j ≤ n ∧ s6 = .int .i64 ((j : Int) - 1) ∧ Hid (SlashS l j) ∧ wx = X) (fun v _ => (intOf v + 1).toNat)
    case atStart => exact ⟨n, Nat.le_refl _, by go_num, fun i c hi hc => by have := (List.getElem?_eq_some_iff.1 hc).1; have := HN.out; omega, rfl⟩
    case round =>
      obtain ⟨j, hj, rfl, HS, rfl⟩ := hrel
      cases j with
      | zero =>
        have HE := hidK (slash_is (l := l) (j := 0) (Nat.zero_le _) HS.out (.inl rfl))
        have HD0 := HD.out 0
        have e1 : ((0 : Nat) : Int) - 1 = -1 := rfl
        simp only [e1]
        have HR : Hid (baseF l = l.drop 0) := by unfold baseF; rw [HE.out]; rfl
        obtain ⟨y, hy⟩ : ∃ y, str (l.drop 0) = y := ⟨_, rfl⟩
        have HY := hidK hy
        rw [hy] at HD0
        clear hy HS
        go_wp2_with fail
        all_goals go_ret
        all_goals exact ⟨by rw [HR.out, HY.out]; rfl, HBx.out⟩
      | succ j =>
        obtain ⟨c, hc⟩ : ∃ c, l[j]? = some c := ⟨_, List.getElem?_eq_getElem (by rw [HN.out]; exact hj)⟩
        have hjz : j < z.size := by omega
        have gj := HG.out j c hjz hc
        have e1 : ((j + 1 : Nat) : Int) - 1 = (j : Int) := by omega
        simp only [e1]
        by_cases h47 : c.toNat = 47
        · have HE := hidK (slash_is (l := l) (j := j + 1) (by rw [HN.out]; exact hj) HS.out (.inr ⟨c, hc, h47⟩))
          rw [e1] at HE
          clear hc HS e1
          have HR : Hid (baseF l = l.drop (j + 1)) := by unfold baseF; rw [HE.out]; rfl
          have HD1 := HD.out (j + 1)
          obtain ⟨y, hy⟩ : ∃ y, str (l.drop (j + 1)) = y := ⟨_, rfl⟩
          have HY := hidK hy
          rw [hy] at HD1
          clear hy
          go_wp2_with fail
          all_goals go_ret
          all_goals exact ⟨by rw [HR.out, HY.out]; rfl, HBx.out⟩
        · have HS2 : Hid (SlashS l j) := fun i d hi hd => by
            rcases Nat.lt_or_ge j i with h | h
            · exact HS.out i d h hd
            · obtain rfl : i = j := by omega
              have e : some d = some c := hd.symm.trans hc
              cases e
              exact h47
          clear hc HS e1
          go_wp2_with fail
          all_goals first
            | exact ⟨⟨j, by omega, by go_num, HS2.out, by first | rfl | trivial⟩, by first | (simp [intOf]; done) | (simp [intOf]; omega)⟩
            | (go_roundw; (case rel => exact ⟨j, by omega, by go_num, HS2.out, by first | rfl | trivial⟩); (case measure => first | (simp [intOf]; done) | (simp [intOf]; omega)))
  | false =>
    simp only [Bool.false_eq_true, if_false]
    go_enter Tryz.func121, Tryz.ntmps121
    go_wp2_with fail
    obtain ⟨X, hX⟩ : ∃ X, W.alloc (.cells #[.int .u8 100, .int .i64 0, .string ⟨#[]⟩, .string ⟨#[]⟩] 152) = X := ⟨_, rfl⟩
    have HBx : Hid (Below W.heap.size W X) := by rw [← hX]; exact (Below.refl _ _).alloc (Nat.le_refl _) _
    have q0 : X.cell? ⟨W.heap.size, 0, none⟩ = some (.int .u8 100) := by rw [← hX]; exact cell_atT (heap_alloc_new W _) 0
    simp only [hX]
    clear hX
    go_loopw [6] (fun s6 wx => ∃ (j : Nat), j ≤ n ∧ s6 = .int .i64 ((j : Int) - 1) ∧ Hid (SlashS l j) ∧ wx = X) (fun v _ => (intOf v + 1).toNat)
    case atStart => exact ⟨n, Nat.le_refl _, by go_num, fun i c hi hc => by have := (List.getElem?_eq_some_iff.1 hc).1; have := HN.out; omega, rfl⟩
    case round =>
      obtain ⟨j, hj, rfl, HS, rfl⟩ := hrel
      cases j with
      | zero =>
        have HE := hidK (slash_is (l := l) (j := 0) (Nat.zero_le _) HS.out (.inl rfl))
        have HD0 := HD.out 0
        have e1 : ((0 : Nat) : Int) - 1 = -1 := rfl
        simp only [e1]
        have HR : Hid (folderF l = [46]) := by unfold folderF; rw [HE.out]; rfl
        clear HS HD0
        go_wp2_with fail
        all_goals go_ret
        all_goals exact ⟨by rw [HR.out]; rfl, HBx.out⟩
      | succ j =>
        obtain ⟨c, hc⟩ : ∃ c, l[j]? = some c := ⟨_, List.getElem?_eq_getElem (by rw [HN.out]; exact hj)⟩
        have hjz : j < z.size := by omega
        have gj := HG.out j c hjz hc
        have e1 : ((j + 1 : Nat) : Int) - 1 = (j : Int) := by omega
        simp only [e1]
        by_cases h47 : c.toNat = 47
        · have HE := hidK (slash_is (l := l) (j := j + 1) (by rw [HN.out]; exact hj) HS.out (.inr ⟨c, hc, h47⟩))
          rw [e1] at HE
          clear hc HS e1
          by_cases hj0 : j = 0
          · subst hj0
            have HR : Hid (folderF l = [47]) := by unfold folderF; rw [HE.out]; rfl
            go_wp2_with fail
            all_goals go_ret
            all_goals exact ⟨by rw [HR.out]; rfl, HBx.out⟩
          · have HR : Hid (folderF l = l.take j) := by
              unfold folderF
              rw [HE.out, if_neg (by omega), if_neg (by omega)]
              rfl
            have HT1 := HTk.out j
            obtain ⟨y, hy⟩ : ∃ y, str (l.take j) = y := ⟨_, rfl⟩
            have HY := hidK hy
            rw [hy] at HT1
            have hj1 : ¬ (j : Int) = 0 := by omega
            clear hy hj0
            go_wp2_with fail
            all_goals go_ret
            all_goals exact ⟨by rw [HR.out, HY.out]; rfl, HBx.out⟩
        · have HS2 : Hid (SlashS l j) := fun i d hi hd => by
            rcases Nat.lt_or_ge j i with h | h
            · exact HS.out i d h hd
            · obtain rfl : i = j := by omega
              have e : some d = some c := hd.symm.trans hc
              cases e
              exact h47
          clear hc HS e1
          go_wp2_with fail
          all_goals first
            | exact ⟨⟨j, by omega, by go_num, HS2.out, by first | rfl | trivial⟩, by first | (simp [intOf]; done) | (simp [intOf]; omega)⟩
            | (go_roundw; (case rel => exact ⟨j, by omega, by go_num, HS2.out, by first | rfl | trivial⟩); (case measure => first | (simp [intOf]; done) | (simp [intOf]; omega)))

end Go.Proofs.YtlfcjcaofhcfnaaGreatDoor

namespace Go.Proofs.YtlfcjcaofhcfnaaGreatDoor
open Go.RowKit
set_option linter.unusedVariables false
set_option maxRecDepth 100000

def greatD (c : UInt8) : UInt8 := if smallB c then c - 32 else c
def smallD (c : UInt8) : UInt8 := if greatB c then c + 32 else c
theorem map_snoc (g : UInt8 → UInt8) {l : List UInt8} {i : Nat} {c : UInt8} (hc : l[i]? = some c) : (l.take (i + 1)).map g = (l.take i).map g ++ [g c] := by
  rw [List.take_add_one, hc]
  simp
theorem conv_one (c : UInt8) (V : Int) (hV : V = (c.toNat : Int)) (Y : World) : (convert 55 9 (.slice (some ⟨Y.heap.size, 0, none⟩) 1 1)).run Tryz.prog (Y.alloc (.cells #[.int .u8 V] 5)) = .ok (.string (str [c])) (Y.alloc (.cells #[.int .u8 V] 5)) := by
  rw [hV]
  exact run_convert_bytes_back (P := Tryz.prog) (Y.alloc (.cells #[.int .u8 (c.toNat : Int)] 5)) 55 9 5 ⟨Y.heap.size, 0, none⟩ 1 [c] Tryz.underlying55 Tryz.underlying5 Tryz.underlying9 (one_cell Y c 5)
theorem sub_nat {c : UInt8} (h : 97 ≤ c.toNat ∧ c.toNat ≤ 122) : (c - 32).toNat = c.toNat - 32 := by
  rw [UInt8.toNat_sub_of_le _ _ (UInt8.le_iff_toNat_le.2 (by show 32 ≤ c.toNat; omega))]
  rfl
theorem add_nat {c : UInt8} (h : 65 ≤ c.toNat ∧ c.toNat ≤ 90) : (c + 32).toNat = c.toNat + 32 := by
  rw [UInt8.toNat_add]
  show (c.toNat + 32) % 256 = _
  omega
set_option maxHeartbeats 4000000 in
theorem turnedR_great (l : List UInt8) (hl : l.length ≤ 2147483647) (W : World) : Calls Tryz.prog 121 #[.agg #[.int .u8 117, .int .i64 0, .string ⟨#[]⟩, .string ⟨#[]⟩], .string (str l)] W fun e w' => e = .returned (.string (str (l.map greatD))) ∧ Below W.heap.size W w' := by
  have hs : (str l).size = l.length := rfl
  have HG : Hid (∀ (k : Nat) (c : UInt8) (h : k < (str l).size), l[k]? = some c → (str l)[k] = c) := fun k c h hc => str_getF l k c hc h
  obtain ⟨z, hz⟩ : ∃ z, str l = z := ⟨_, rfl⟩
  rw [hz] at hs HG ⊢
  obtain ⟨n, hn⟩ : ∃ n, l.length = n := ⟨_, rfl⟩
  have HN := hidK hn
  rw [hn] at hs hl
  clear hz hn
  go_enter Tryz.func121, Tryz.ntmps121
  go_wp2_with fail
  obtain ⟨X, hX⟩ : ∃ X, W.alloc (.cells #[.int .u8 117, .int .i64 0, .string ⟨#[]⟩, .string ⟨#[]⟩] 152) = X := ⟨_, rfl⟩
  have HBx : Hid (Below W.heap.size W X) := by rw [← hX]; exact (Below.refl _ _).alloc (Nat.le_refl _) _
  have q0 : X.cell? ⟨W.heap.size, 0, none⟩ = some (.int .u8 117) := by rw [← hX]; exact cell_atT (heap_alloc_new W _) 0
  have HQ0 := hidK q0
  simp only [hX]
  clear hX q0
  go_loopw [7, 8, 9] (fun s7 s8 s9 wx => ∃ (i : Nat), i ≤ n ∧ s8 = .int .i64 (i : Int) ∧ s7 = .string (str ((l.take i).map greatD)) ∧ Hid (Below X.heap.size X wx)) (fun _ v _ _ => n - (intOf v).toNat)
  case atStart => exact ⟨0, Nat.zero_le _, rfl, rfl, Below.refl _ _⟩
  case round =>
    obtain ⟨i, hi, rfl, rfl, HB⟩ := hrel
    have qr := cell_later HB.out HQ0.out
    by_cases hin : i < n
    · obtain ⟨c, hc⟩ : ∃ c, l[i]? = some c := ⟨_, List.getElem?_eq_getElem (by rw [HN.out]; exact hin)⟩
      have hzi : i < z.size := by omega
      have gi := HG.out i c hzi hc
      by_cases hsm : 97 ≤ c.toNat ∧ c.toNat ≤ 122
      · have HD := hidK (show greatD c = c - 32 by
          have h2 : smallB c = true := by unfold smallB; rw [Bool.and_eq_true, decide_eq_true_eq, decide_eq_true_eq]; exact hsm
          unfold greatD
          rw [if_pos h2])
        have hnat := sub_nat hsm
        obtain ⟨d, hd⟩ : ∃ d, c - 32 = d := ⟨_, rfl⟩
        rw [hd] at HD hnat
        obtain ⟨c1, c2⟩ := hsm
        have HVV := hidK (show (c.toNat : Int) - 32 = (d.toNat : Int) by omega)
        clear hd hnat
        · skip
          have hcv := fun Y => conv_one d ((c.toNat : Int) - 32) HVV.out Y
          have hcat := str_cat ((l.take i).map greatD) [d]
          have hq : ((l.take i).map greatD).length ≤ n := by rw [List.length_map, List.length_take]; omega
          have hqs : (str ((l.take i).map greatD)).size = ((l.take i).map greatD).length := rfl
          have hq1 : (str [d]).size = 1 := rfl
          obtain ⟨q, hqq⟩ : ∃ q, str ((l.take i).map greatD) = q := ⟨_, rfl⟩
          obtain ⟨o1, ho1⟩ : ∃ q, str [d] = q := ⟨_, rfl⟩
          obtain ⟨t, ht⟩ : ∃ q, str ((l.take i).map greatD ++ [d]) = q := ⟨_, rfl⟩
          have HT := hidK (show str ((l.take (i + 1)).map greatD) = t by rw [map_snoc greatD hc, HD.out]; exact ht)
          rw [ho1] at hcat hcv hq1
          rw [hqq] at hcat hqs ⊢
          rw [ht] at hcat
          have d2 : ¬ 9223372036854775807 < q.size + 1 := by omega
          have d3 : ¬ 9223372036854775807 < q.size + o1.size := by omega
          have HB2 : Hid (∀ o, Below X.heap.size X (wr.alloc o)) := fun o => HB.out.alloc HB.out.size o
          clear hqq ho1 ht hc HD hq hqs
          go_wp2_with fail
          all_goals first
            | exact ⟨⟨i + 1, by omega, by go_num, by rw [HT.out], HB2.out _⟩, by first | (simp [intOf]; done) | (simp [intOf]; omega)⟩
            | (go_roundw; (case rel => exact ⟨i + 1, by omega, by go_num, by rw [HT.out], HB2.out _⟩); (case measure => first | (simp [intOf]; done) | (simp [intOf]; omega)))

      · have HD := hidK (show greatD c = c by
          have h2 : smallB c = false := by
            cases h : smallB c with
            | false => rfl
            | true =>
              unfold smallB at h
              rw [Bool.and_eq_true, decide_eq_true_eq, decide_eq_true_eq] at h
              exact absurd h hsm
          unfold greatD
          rw [h2]
          rfl)
        have hsm2 : c.toNat < 97 ∨ 122 < c.toNat := by omega
        clear hsm
        rcases hsm2 with c1 | c1
        · have c3 : ¬ (97 : Int) ≤ (c.toNat : Int) := by omega
          have hcv := fun Y => conv_one c (c.toNat : Int) rfl Y
          have hcat := str_cat ((l.take i).map greatD) [c]
          have hq : ((l.take i).map greatD).length ≤ n := by rw [List.length_map, List.length_take]; omega
          have hqs : (str ((l.take i).map greatD)).size = ((l.take i).map greatD).length := rfl
          have hq1 : (str [c]).size = 1 := rfl
          obtain ⟨q, hqq⟩ : ∃ q, str ((l.take i).map greatD) = q := ⟨_, rfl⟩
          obtain ⟨o1, ho1⟩ : ∃ q, str [c] = q := ⟨_, rfl⟩
          obtain ⟨t, ht⟩ : ∃ q, str ((l.take i).map greatD ++ [c]) = q := ⟨_, rfl⟩
          have HT := hidK (show str ((l.take (i + 1)).map greatD) = t by rw [map_snoc greatD hc, HD.out]; exact ht)
          rw [ho1] at hcat hcv hq1
          rw [hqq] at hcat hqs ⊢
          rw [ht] at hcat
          have d2 : ¬ 9223372036854775807 < q.size + 1 := by omega
          have d3 : ¬ 9223372036854775807 < q.size + o1.size := by omega
          have HB2 : Hid (∀ o, Below X.heap.size X (wr.alloc o)) := fun o => HB.out.alloc HB.out.size o
          clear hqq ho1 ht hc HD hq hqs
          go_wp2_with fail
          all_goals first
            | exact ⟨⟨i + 1, by omega, by go_num, by rw [HT.out], HB2.out _⟩, by first | (simp [intOf]; done) | (simp [intOf]; omega)⟩
            | (go_roundw; (case rel => exact ⟨i + 1, by omega, by go_num, by rw [HT.out], HB2.out _⟩); (case measure => first | (simp [intOf]; done) | (simp [intOf]; omega)))

        · have c3 : ¬ (c.toNat : Int) ≤ 122 := by omega
          have c4 : (97 : Int) ≤ (c.toNat : Int) := by omega
          have hcv := fun Y => conv_one c (c.toNat : Int) rfl Y
          have hcat := str_cat ((l.take i).map greatD) [c]
          have hq : ((l.take i).map greatD).length ≤ n := by rw [List.length_map, List.length_take]; omega
          have hqs : (str ((l.take i).map greatD)).size = ((l.take i).map greatD).length := rfl
          have hq1 : (str [c]).size = 1 := rfl
          obtain ⟨q, hqq⟩ : ∃ q, str ((l.take i).map greatD) = q := ⟨_, rfl⟩
          obtain ⟨o1, ho1⟩ : ∃ q, str [c] = q := ⟨_, rfl⟩
          obtain ⟨t, ht⟩ : ∃ q, str ((l.take i).map greatD ++ [c]) = q := ⟨_, rfl⟩
          have HT := hidK (show str ((l.take (i + 1)).map greatD) = t by rw [map_snoc greatD hc, HD.out]; exact ht)
          rw [ho1] at hcat hcv hq1
          rw [hqq] at hcat hqs ⊢
          rw [ht] at hcat
          have d2 : ¬ 9223372036854775807 < q.size + 1 := by omega
          have d3 : ¬ 9223372036854775807 < q.size + o1.size := by omega
          have HB2 : Hid (∀ o, Below X.heap.size X (wr.alloc o)) := fun o => HB.out.alloc HB.out.size o
          clear hqq ho1 ht hc HD hq hqs
          go_wp2_with fail
          all_goals first
            | exact ⟨⟨i + 1, by omega, by go_num, by rw [HT.out], HB2.out _⟩, by first | (simp [intOf]; done) | (simp [intOf]; omega)⟩
            | (go_roundw; (case rel => exact ⟨i + 1, by omega, by go_num, by rw [HT.out], HB2.out _⟩); (case measure => first | (simp [intOf]; done) | (simp [intOf]; omega)))

    · obtain rfl : i = n := by omega
      have HR := hidK (show l.take i = l from List.take_of_length_le (by rw [HN.out]; exact Nat.le_refl _))
      have HBy : Hid (Below W.heap.size W wr) := HBx.out.trans (HB.out.mono HBx.out.size)
      go_wp2_with fail
      all_goals go_ret
      all_goals exact ⟨by first | (rw [HR.out]; rfl) | (simp only [← List.map_take, HR.out]; rfl), HBy.out⟩
set_option maxHeartbeats 4000000 in
theorem turnedR_small (l : List UInt8) (hl : l.length ≤ 2147483647) (W : World) : Calls Tryz.prog 121 #[.agg #[.int .u8 119, .int .i64 0, .string ⟨#[]⟩, .string ⟨#[]⟩], .string (str l)] W fun e w' => e = .returned (.string (str (l.map smallD))) ∧ Below W.heap.size W w' := by
  have hs : (str l).size = l.length := rfl
  have HG : Hid (∀ (k : Nat) (c : UInt8) (h : k < (str l).size), l[k]? = some c → (str l)[k] = c) := fun k c h hc => str_getF l k c hc h
  obtain ⟨z, hz⟩ : ∃ z, str l = z := ⟨_, rfl⟩
  rw [hz] at hs HG ⊢
  obtain ⟨n, hn⟩ : ∃ n, l.length = n := ⟨_, rfl⟩
  have HN := hidK hn
  rw [hn] at hs hl
  clear hz hn
  go_enter Tryz.func121, Tryz.ntmps121
  go_wp2_with fail
  obtain ⟨X, hX⟩ : ∃ X, W.alloc (.cells #[.int .u8 119, .int .i64 0, .string ⟨#[]⟩, .string ⟨#[]⟩] 152) = X := ⟨_, rfl⟩
  have HBx : Hid (Below W.heap.size W X) := by rw [← hX]; exact (Below.refl _ _).alloc (Nat.le_refl _) _
  have q0 : X.cell? ⟨W.heap.size, 0, none⟩ = some (.int .u8 119) := by rw [← hX]; exact cell_atT (heap_alloc_new W _) 0
  have HQ0 := hidK q0
  simp only [hX]
  clear hX q0
  go_loopw [7, 8, 9] (fun s7 s8 s9 wx => ∃ (i : Nat), i ≤ n ∧ s8 = .int .i64 (i : Int) ∧ s7 = .string (str ((l.take i).map smallD)) ∧ Hid (Below X.heap.size X wx)) (fun _ v _ _ => n - (intOf v).toNat)
  case atStart => exact ⟨0, Nat.zero_le _, rfl, rfl, Below.refl _ _⟩
  case round =>
    obtain ⟨i, hi, rfl, rfl, HB⟩ := hrel
    have qr := cell_later HB.out HQ0.out
    by_cases hin : i < n
    · obtain ⟨c, hc⟩ : ∃ c, l[i]? = some c := ⟨_, List.getElem?_eq_getElem (by rw [HN.out]; exact hin)⟩
      have hzi : i < z.size := by omega
      have gi := HG.out i c hzi hc
      by_cases hsm : 65 ≤ c.toNat ∧ c.toNat ≤ 90
      · have HD := hidK (show smallD c = c + 32 by
          have h2 : greatB c = true := by unfold greatB; rw [Bool.and_eq_true, decide_eq_true_eq, decide_eq_true_eq]; exact hsm
          unfold smallD
          rw [if_pos h2])
        have hnat := add_nat hsm
        obtain ⟨d, hd⟩ : ∃ d, c + 32 = d := ⟨_, rfl⟩
        rw [hd] at HD hnat
        obtain ⟨c1, c2⟩ := hsm
        have HVV := hidK (show (c.toNat : Int) + 32 = (d.toNat : Int) by omega)
        clear hd hnat
        · skip
          have hcv := fun Y => conv_one d ((c.toNat : Int) + 32) HVV.out Y
          have hcat := str_cat ((l.take i).map smallD) [d]
          have hq : ((l.take i).map smallD).length ≤ n := by rw [List.length_map, List.length_take]; omega
          have hqs : (str ((l.take i).map smallD)).size = ((l.take i).map smallD).length := rfl
          have hq1 : (str [d]).size = 1 := rfl
          obtain ⟨q, hqq⟩ : ∃ q, str ((l.take i).map smallD) = q := ⟨_, rfl⟩
          obtain ⟨o1, ho1⟩ : ∃ q, str [d] = q := ⟨_, rfl⟩
          obtain ⟨t, ht⟩ : ∃ q, str ((l.take i).map smallD ++ [d]) = q := ⟨_, rfl⟩
          have HT := hidK (show str ((l.take (i + 1)).map smallD) = t by rw [map_snoc smallD hc, HD.out]; exact ht)
          rw [ho1] at hcat hcv hq1
          rw [hqq] at hcat hqs ⊢
          rw [ht] at hcat
          have d2 : ¬ 9223372036854775807 < q.size + 1 := by omega
          have d3 : ¬ 9223372036854775807 < q.size + o1.size := by omega
          have HB2 : Hid (∀ o, Below X.heap.size X (wr.alloc o)) := fun o => HB.out.alloc HB.out.size o
          clear hqq ho1 ht hc HD hq hqs
          go_wp2_with fail
          all_goals first
            | exact ⟨⟨i + 1, by omega, by go_num, by rw [HT.out], HB2.out _⟩, by first | (simp [intOf]; done) | (simp [intOf]; omega)⟩
            | (go_roundw; (case rel => exact ⟨i + 1, by omega, by go_num, by rw [HT.out], HB2.out _⟩); (case measure => first | (simp [intOf]; done) | (simp [intOf]; omega)))

      · have HD := hidK (show smallD c = c by
          have h2 : greatB c = false := by
            cases h : greatB c with
            | false => rfl
            | true =>
              unfold greatB at h
              rw [Bool.and_eq_true, decide_eq_true_eq, decide_eq_true_eq] at h
              exact absurd h hsm
          unfold smallD
          rw [h2]
          rfl)
        have hsm2 : c.toNat < 65 ∨ 90 < c.toNat := by omega
        clear hsm
        rcases hsm2 with c1 | c1
        · have c3 : ¬ (65 : Int) ≤ (c.toNat : Int) := by omega
          have hcv := fun Y => conv_one c (c.toNat : Int) rfl Y
          have hcat := str_cat ((l.take i).map smallD) [c]
          have hq : ((l.take i).map smallD).length ≤ n := by rw [List.length_map, List.length_take]; omega
          have hqs : (str ((l.take i).map smallD)).size = ((l.take i).map smallD).length := rfl
          have hq1 : (str [c]).size = 1 := rfl
          obtain ⟨q, hqq⟩ : ∃ q, str ((l.take i).map smallD) = q := ⟨_, rfl⟩
          obtain ⟨o1, ho1⟩ : ∃ q, str [c] = q := ⟨_, rfl⟩
          obtain ⟨t, ht⟩ : ∃ q, str ((l.take i).map smallD ++ [c]) = q := ⟨_, rfl⟩
          have HT := hidK (show str ((l.take (i + 1)).map smallD) = t by rw [map_snoc smallD hc, HD.out]; exact ht)
          rw [ho1] at hcat hcv hq1
          rw [hqq] at hcat hqs ⊢
          rw [ht] at hcat
          have d2 : ¬ 9223372036854775807 < q.size + 1 := by omega
          have d3 : ¬ 9223372036854775807 < q.size + o1.size := by omega
          have HB2 : Hid (∀ o, Below X.heap.size X (wr.alloc o)) := fun o => HB.out.alloc HB.out.size o
          clear hqq ho1 ht hc HD hq hqs
          go_wp2_with fail
          all_goals first
            | exact ⟨⟨i + 1, by omega, by go_num, by rw [HT.out], HB2.out _⟩, by first | (simp [intOf]; done) | (simp [intOf]; omega)⟩
            | (go_roundw; (case rel => exact ⟨i + 1, by omega, by go_num, by rw [HT.out], HB2.out _⟩); (case measure => first | (simp [intOf]; done) | (simp [intOf]; omega)))

        · have c3 : ¬ (c.toNat : Int) ≤ 90 := by omega
          have c4 : (65 : Int) ≤ (c.toNat : Int) := by omega
          have hcv := fun Y => conv_one c (c.toNat : Int) rfl Y
          have hcat := str_cat ((l.take i).map smallD) [c]
          have hq : ((l.take i).map smallD).length ≤ n := by rw [List.length_map, List.length_take]; omega
          have hqs : (str ((l.take i).map smallD)).size = ((l.take i).map smallD).length := rfl
          have hq1 : (str [c]).size = 1 := rfl
          obtain ⟨q, hqq⟩ : ∃ q, str ((l.take i).map smallD) = q := ⟨_, rfl⟩
          obtain ⟨o1, ho1⟩ : ∃ q, str [c] = q := ⟨_, rfl⟩
          obtain ⟨t, ht⟩ : ∃ q, str ((l.take i).map smallD ++ [c]) = q := ⟨_, rfl⟩
          have HT := hidK (show str ((l.take (i + 1)).map smallD) = t by rw [map_snoc smallD hc, HD.out]; exact ht)
          rw [ho1] at hcat hcv hq1
          rw [hqq] at hcat hqs ⊢
          rw [ht] at hcat
          have d2 : ¬ 9223372036854775807 < q.size + 1 := by omega
          have d3 : ¬ 9223372036854775807 < q.size + o1.size := by omega
          have HB2 : Hid (∀ o, Below X.heap.size X (wr.alloc o)) := fun o => HB.out.alloc HB.out.size o
          clear hqq ho1 ht hc HD hq hqs
          go_wp2_with fail
          all_goals first
            | exact ⟨⟨i + 1, by omega, by go_num, by rw [HT.out], HB2.out _⟩, by first | (simp [intOf]; done) | (simp [intOf]; omega)⟩
            | (go_roundw; (case rel => exact ⟨i + 1, by omega, by go_num, by rw [HT.out], HB2.out _⟩); (case measure => first | (simp [intOf]; done) | (simp [intOf]; omega)))

    · obtain rfl : i = n := by omega
      have HR := hidK (show l.take i = l from List.take_of_length_le (by rw [HN.out]; exact Nat.le_refl _))
      have HBy : Hid (Below W.heap.size W wr) := HBx.out.trans (HB.out.mono HBx.out.size)
      go_wp2_with fail
      all_goals go_ret
      all_goals exact ⟨by first | (rw [HR.out]; rfl) | (simp only [← List.map_take, HR.out]; rfl), HBy.out⟩

end Go.Proofs.YtlfcjcaofhcfnaaGreatDoor
