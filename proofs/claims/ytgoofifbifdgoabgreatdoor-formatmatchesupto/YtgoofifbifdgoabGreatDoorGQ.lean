/-
  Formats: the statements' own 'escaped'.
-/
import Derived.Test.YtgoofifbifdgoabGreatDoorGN
import Derived.Test.YtgoofifbifdgoabGreatDoorGO
import Derived.Test.YtgoofifbifdgoabGreatDoorGP
namespace Go.Proofs.YtgoofifbifdgoabGreatDoor
open Go.RowKit
set_option linter.unusedVariables false
set_option maxRecDepth 20000

theorem str_cat (a b : List UInt8) : str a ++ str b = str (a ++ b) := by
  apply ByteArray.ext
  rw [ByteArray.data_append]
  apply Array.ext'
  rw [Array.toList_append]
  rfl
theorem esc_snoc1 (q : UInt8 → Bool) (x : List UInt8) (c : UInt8) : escQ q (x ++ [c]) = escQ q x ++ (List.replicate (if q c then 1 else 0) 35 ++ [c]) := by
  induction x with
  | nil => cases h : q c <;> simp [escQ, h]
  | cons d x ih =>
    cases h : q d <;> simp [escQ, h, ih]
theorem count_snoc (these : List UInt8) (k : Nat) (c d : UInt8) (h : these[k]? = some d) : (these.take (k + 1)).count c = (these.take k).count c + if d = c then 1 else 0 := by
  obtain ⟨h1, h2⟩ := List.getElem?_eq_some_iff.1 h
  rw [List.take_add_one, h, List.count_append]
  by_cases e : d = c <;> simp [e]
set_option maxHeartbeats 4000000 in
theorem escaped_any (s these : List UInt8) (q : UInt8 → Bool) (hs : s.length ≤ 4194304) (ht : these.length ≤ 8) (hq : ∀ c, these.count c = if q c then 1 else 0) (w : World) :
    Calls Tryz.prog 7 #[.string (str s), .string (str these), .string (str [35])] w fun e w' => e = .returned (.string (str (escQ q s))) ∧ Below w.heap.size w w' := by
  have HQ := hidK hq
  have HG : Hid (∀ k c (h : k < (str s).size), s[k]? = some c → (str s)[k] = c) := fun k c h hc => str_getF s k c hc h
  have HGt : Hid (∀ k c (h : k < (str these).size), these[k]? = some c → (str these)[k] = c) := fun k c h hc => str_getF these k c hc h
  have HMid : Hid (∀ i, (str s).extract i (i + 1) = str ((s.drop i).take 1)) := fun i => by show _ = _; rw [str_midF, Nat.add_sub_cancel_left]
  obtain ⟨z, hz⟩ : ∃ z, str s = z := ⟨_, rfl⟩
  obtain ⟨y, hy⟩ : ∃ y, str these = y := ⟨_, rfl⟩
  obtain ⟨mk, hmk⟩ : ∃ mk, str [35] = mk := ⟨_, rfl⟩
  have hzs : z.size = s.length := by rw [← hz]; rfl
  have hys : y.size = these.length := by rw [← hy]; rfl
  have hms : mk.size = 1 := by rw [← hmk]; rfl
  have HMk := hidK hmk
  obtain ⟨n, hn⟩ : ∃ n, s.length = n := ⟨_, rfl⟩
  obtain ⟨m, hm⟩ : ∃ m, these.length = m := ⟨_, rfl⟩
  rw [hz, hy, hmk]
  rw [hz] at HG HMid
  rw [hy] at HGt
  rw [hn] at hzs hs
  rw [hm] at hys ht
  have HN := hidK hn
  have HM := hidK hm
  clear hz hy hmk hn hm hq
  go_enter Tryz.func7, Tryz.ntmps7
  go_wp2_with fail
  go_loopw [7, 8] (fun s7 s8 wx => ∃ (i : Nat) (x : ByteArray), i ≤ n ∧ s8 = .int .i64 (i : Int) ∧ s7 = .string x ∧ x.size ≤ 2 * i ∧ Hid (x = str (escQ q (s.take i))) ∧ Hid (Below w.heap.size w wx)) (fun _ v _ => n - (intOf v).toNat)
  case atStart => exact ⟨0, _, Nat.zero_le _, rfl, rfl, by decide, rfl, Below.refl _ _⟩
  case round =>
    obtain ⟨i, x, hi, rfl, rfl, hx, HX, HB⟩ := hrel
    by_cases hin : i < n
    · obtain ⟨c, hc⟩ : ∃ c, s[i]? = some c := ⟨_, List.getElem?_eq_getElem (by rw [HN.out]; exact hin)⟩
      have gc := HG.out i c (by omega) hc
      have HC := hidK hc
      clear hc
      go_wp2_with fail
      go_loopw [7, 9] (fun s7 s9 wx => ∃ (k : Nat) (u : ByteArray), k ≤ m ∧ s9 = .int .i64 (k : Int) ∧ s7 = .string u ∧ u.size ≤ 2 * i + k ∧ Hid (u = str (escQ q (s.take i) ++ List.replicate ((these.take k).count c) 35)) ∧ Hid (Below w.heap.size w wx)) (fun _ v _ => m - (intOf v).toNat)
      case atStart => exact ⟨0, x, Nat.zero_le _, rfl, rfl, by omega, by show _ = _; rw [HX.out]; simp, HB.out⟩
      case round =>
        clear HB HX
        obtain ⟨k, u, hk, rfl, rfl, hu, HU, HB⟩ := hrel
        by_cases hkm : k < m
        · obtain ⟨d, hd⟩ : ∃ d, these[k]? = some d := ⟨_, List.getElem?_eq_getElem (by rw [HM.out]; exact hkm)⟩
          have gd := HGt.out k d (by omega) hd
          have HD := hidK (count_snoc these k c d hd)
          clear hd
          by_cases hdc : d = c
          · subst hdc
            have HU2 : Hid (u ++ mk = str (escQ q (s.take i) ++ List.replicate ((these.take (k + 1)).count d) 35)) := by
              show _ = _
              have h := HD.out
              rw [if_pos rfl] at h
              rw [HU.out, ← HMk.out, str_cat, h, List.append_assoc, List.replicate_succ']
            have husz : (u ++ mk).size = u.size + 1 := by rw [ByteArray.size_append, hms]
            obtain ⟨um, hum⟩ : ∃ um, u ++ mk = um := ⟨_, rfl⟩
            rw [hum] at HU2 husz
            clear HD HU
            go_wp2_with fail
            all_goals (try go_region)
            all_goals (try go_wp2_with fail)
            all_goals exact ⟨⟨k + 1, um, by omega, by go_num, rfl, by omega, HU2.out, by first | exact HB.out | exact HB.out.drew⟩, by simp [intOf]; omega⟩
          · have hne : ¬ d.toNat = c.toNat := fun h => hdc (UInt8.toNat_inj.1 h)
            have HU2 : Hid (u = str (escQ q (s.take i) ++ List.replicate ((these.take (k + 1)).count c) 35)) := by
              show _ = _
              have h := HD.out
              rw [if_neg hdc] at h
              rw [HU.out, h]
              rfl
            clear HD HU hdc
            go_wp2_with fail
            all_goals (try go_region)
            all_goals (try go_wp2_with fail)
            all_goals go_roundw
            case rel => exact ⟨k + 1, u, by omega, by go_num, rfl, by omega, HU2.out, by first | exact HB.out | exact HB.out.drew⟩
            case measure => simp [intOf]; omega
        · obtain rfl : k = m := by omega
          have hsn : s.take (i + 1) = s.take i ++ [c] := by rw [List.take_add_one, HC.out]; rfl
          have hall : these.take k = these := List.take_of_length_le (by rw [HM.out]; omega)
          obtain ⟨u1, hu1⟩ : ∃ u1, str [c] = u1 := ⟨_, rfl⟩
          have hmid : z.extract i (i + 1) = u1 := by rw [HMid.out, drop_at HC.out, ← hu1]; rfl
          have hu1s : u1.size = 1 := by rw [← hu1]; rfl
          have HU2 : Hid (u ++ u1 = str (escQ q (s.take (i + 1)))) := by
            show _ = _
            rw [hsn, esc_snoc1, HU.out, hall, HQ.out, ← hu1, str_cat, List.append_assoc]
          have husz : (u ++ u1).size = u.size + 1 := by rw [ByteArray.size_append, hu1s]
          have hml : k ≤ 8 := ht
          have hcnt : u.size ≤ 2 * i + 1 := by
            have h := HU.out
            have h2 := congrArg ByteArray.size h
            rw [str_size, List.length_append, List.length_replicate, hall, HQ.out] at h2
            have h3 := (esc_len q (s.take i)).2
            rw [List.length_take] at h3
            split at h2 <;> omega
          have hsl := fun W => slice_mid z i (i + 1) (i : Int) ((i : Int) + 1) rfl (by omega) (by omega) (by omega) W
          rw [hmid] at hsl
          obtain ⟨um, hum⟩ : ∃ um, u ++ u1 = um := ⟨_, rfl⟩
          rw [hum] at HU2 husz
          clear HU hsn hall hu1 hmid
          go_wp2_with fail
          all_goals (try go_region)
          all_goals (try go_wp2_with fail)
          all_goals exact ⟨⟨i + 1, um, by omega, by go_num, rfl, by omega, HU2.out, by first | exact HB.out | exact HB.out.drew⟩, by simp [intOf]; omega⟩
    · obtain rfl : i = n := by omega
      have hall : s.take i = s := List.take_of_length_le (by rw [HN.out]; omega)
      have HR : Hid (x = str (escQ q s)) := by have h := HX.out; rw [hall] at h; exact h
      clear HX hall
      go_wp2_with fail
      all_goals go_ret
      all_goals exact ⟨by rw [← HR.out]; rfl, HB.out⟩
end Go.Proofs.YtgoofifbifdgoabGreatDoor
