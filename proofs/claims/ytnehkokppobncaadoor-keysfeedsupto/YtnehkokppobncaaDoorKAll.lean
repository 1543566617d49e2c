/-
  Keys: all keys that are no plain characters, by the document.
-/
import Derived.Test.YtnehkokppobncaaDoorGL
namespace Go.Proofs.YtnehkokppobncaaDoor
open Go.RowKit
set_option linter.unusedVariables false
set_option maxRecDepth 100000

/-- Codes from a on, with modifiers m. -/
def runF (a m : Int) : Nat → List (Int × Int)
  | 0 => []
  | n + 1 => runF a m n ++ [(a + n, m)]
theorem run_len (a m : Int) : ∀ n, (runF a m n).length = n
  | 0 => rfl
  | n + 1 => by unfold runF; rw [List.length_append, run_len a m n]; rfl
def rowF (m : Int) : List (Int × Int) := runF 0 m 128 ++ runF 16777217 m 23
def allF : Nat → List (Int × Int)
  | 0 => []
  | n + 1 => allF n ++ rowF n
theorem row_len (m : Int) : (rowF m).length = 151 := by unfold rowF; rw [List.length_append, run_len, run_len]
theorem all_len : ∀ n, (allF n).length = n * 151
  | 0 => rfl
  | n + 1 => by unfold allF; rw [List.length_append, all_len n, row_len]; omega
/-- A list of one's own, made since w. -/
structure Al (w wr : World) (v : Value) (ks : List (Int × Int)) : Prop where
  below : Below w.heap.size w wr
  keys : KeysAt wr w.heap.size v ks
theorem Al.grow {w wr w2 : World} {v v' : Value} {ks : List (Int × Int)} {k : Int × Int} (h : Al w wr v ks) (o : Obj) (hk : KeysAt w2 w.heap.size v' (ks ++ [k])) (hg : (wr.alloc o).grownBy w2 v.ownBlock) : Al w w2 v' (ks ++ [k]) := by
  have hb := below_step h.below ((Below.refl _ _).alloc (Nat.le_refl _) o)
  exact ⟨hb.grown hg hb.size (fun q hq => (h.keys.blk hq).1), hk⟩
set_option maxHeartbeats 8000000 in
theorem rall_any (w : World) : Calls Tryd.prog 42 #[] w fun r w' => ∃ v, r = .returned v ∧ Al w w' v (allF 8) := by
  go_enter Tryd.func42, Tryd.ntmps42
  go_wp2_with fail
  go_loopw [2, 1] (fun mv lv wr => ∃ n : Nat, n ≤ 8 ∧ mv = .int .i64 n ∧ Hid (Al w wr lv (allF n))) (fun mv _ _ => 8 - (intOf mv).toNat)
  case atStart => exact ⟨0, Nat.zero_le _, rfl, ⟨Below.refl _ _, KeysAt.nil _ _⟩⟩
  case round =>
    obtain ⟨n, hn, rfl, HA⟩ := hrel
    by_cases hlt : n < 8
    · have i1 : (n : Int) ≤ 7 := by omega
      have HLa : Hid ((allF n).length ≤ 1208) := by show _ ≤ _; rw [all_len]; omega
      obtain ⟨a0, c0, rfl⟩ := HA.out.keys.slice
      go_wp2_with fail
      go_loopw [3, 1] (fun cv lv wr => ∃ k : Nat, k ≤ 128 ∧ cv = .int .i64 k ∧ Hid (Al w wr lv (allF n ++ runF 0 n k))) (fun cv _ _ => 128 - (intOf cv).toNat)
      case atStart => exact ⟨0, Nat.zero_le _, rfl, by rw [show runF 0 n 0 = [] from rfl, List.append_nil]; exact HA⟩
      case round =>
        obtain ⟨k, hk, rfl, HB⟩ := hrel
        have HLb : Hid ((allF n ++ runF 0 n k).length ≤ 4000) := by show _ ≤ _; rw [List.length_append, run_len]; have := HLa.out; omega
        obtain ⟨ks, hks⟩ : ∃ ks, allF n ++ runF 0 n k = ks := ⟨_, rfl⟩
        have HKs := hidK hks
        rw [hks] at HB HLb
        obtain ⟨a1, c1, rfl⟩ := HB.out.keys.slice
        obtain ⟨kn, hkn⟩ : ∃ kn, ks.length = kn := ⟨_, rfl⟩
        rw [hkn] at HB ⊢
        clear hks
        by_cases hkl : k < 128
        · have j1 : (k : Int) < 128 := by omega
          have HKe := hidK (HB.out.keys.below ((Below.refl _ _).alloc (Nat.le_refl _) (.cells #[.int .i64 (k : Int), .int .i64 (n : Int)] 36)))
          have HSz : Hid (w.heap.size ≤ (wr.alloc (.cells #[.int .i64 (k : Int), .int .i64 (n : Int)] 36)).heap.size) := by have := HB.out.below.size; show _ ≤ _; simp; omega
          go_wp2_with (at_builtin; refine wpList_append_key _ rfl (.tmp 13) (.tmp 17) rfl w.heap.size _ ks rfl HKe.out wr.heap.size ((k : Int), (n : Int)) rfl (heap_alloc_new wr _) ?x1 HSz.out ?_; (case x1 => have := HLb.out; omega); intro tv' w6 hk6 hg6; have HR : Hid (Al w w6 tv' (allF n ++ runF 0 n (k + 1))) := (by
            have h1 := HB.out.grow _ hk6 hg6
            have e : ks ++ [((k : Int), (n : Int))] = allF n ++ runF 0 n (k + 1) := by rw [← HKs.out]; unfold runF; rw [List.append_assoc, Int.zero_add]; cases k <;> rfl
            rw [e] at h1
            exact h1); clear hk6 hg6)
          go_roundw
          case rel => exact ⟨k + 1, by omega, by first | rfl | go_num, HR⟩
          case measure => simp [intOf]; omega
        · have HB2 : Hid (Al w wr (.slice a1 kn c1) (allF n ++ runF 0 n 128)) := by
            have e : k = 128 := by omega
            rw [← e, HKs.out]
            exact HB
          have j1 : ¬ (k : Int) < 128 := by omega
          obtain ⟨kz, hkz⟩ : ∃ kz : Int, (k : Int) = kz := ⟨_, rfl⟩
          rw [hkz] at j1 ⊢
          clear HB HKs HLb hkn hkz hk hkl
          go_wp2_with fail
          go_loopw [4, 1] (fun cv lv wr => ∃ k : Nat, k ≤ 23 ∧ cv = .int .i64 (16777217 + (k : Int)) ∧ Hid (Al w wr lv (allF n ++ runF 0 n 128 ++ runF 16777217 n k))) (fun cv _ _ => 23 - (intOf cv - 16777217).toNat)
          case atStart => exact ⟨0, Nat.zero_le _, rfl, by rw [show runF 16777217 n 0 = [] from rfl, List.append_nil]; exact HB2⟩
          case round =>
            obtain ⟨k, hk, rfl, HB⟩ := hrel
            have HLb : Hid ((allF n ++ runF 0 n 128 ++ runF 16777217 n k).length ≤ 4000) := by show _ ≤ _; rw [List.length_append, List.length_append, run_len, run_len]; have := HLa.out; omega
            obtain ⟨ks, hks⟩ : ∃ ks, allF n ++ runF 0 n 128 ++ runF 16777217 n k = ks := ⟨_, rfl⟩
            have HKs := hidK hks
            rw [hks] at HB HLb
            obtain ⟨a1, c1, rfl⟩ := HB.out.keys.slice
            obtain ⟨kn, hkn⟩ : ∃ kn, ks.length = kn := ⟨_, rfl⟩
            rw [hkn] at HB ⊢
            clear hks
            by_cases hkl : k < 23
            · have j1 : (16777217 : Int) + (k : Int) ≤ 16777239 := by omega
              have HKe := hidK (HB.out.keys.below ((Below.refl _ _).alloc (Nat.le_refl _) (.cells #[.int .i64 (16777217 + (k : Int)), .int .i64 (n : Int)] 36)))
              have HSz : Hid (w.heap.size ≤ (wr.alloc (.cells #[.int .i64 (16777217 + (k : Int)), .int .i64 (n : Int)] 36)).heap.size) := by have := HB.out.below.size; show _ ≤ _; simp; omega
              go_wp2_with (at_builtin; refine wpList_append_key _ rfl (.tmp 23) (.tmp 27) rfl w.heap.size _ ks rfl HKe.out wr.heap.size (16777217 + (k : Int), (n : Int)) rfl (heap_alloc_new wr _) ?x1 HSz.out ?_; (case x1 => have := HLb.out; omega); intro tv' w6 hk6 hg6; have HR : Hid (Al w w6 tv' (allF n ++ runF 0 n 128 ++ runF 16777217 n (k + 1))) := (by
                have h1 := HB.out.grow _ hk6 hg6
                have e : ks ++ [(16777217 + (k : Int), (n : Int))] = allF n ++ runF 0 n 128 ++ runF 16777217 n (k + 1) := by rw [← HKs.out]; rw [show runF 16777217 n (k + 1) = runF 16777217 n k ++ [(16777217 + (k : Int), (n : Int))] from rfl, List.append_assoc]
                rw [e] at h1
                exact h1); clear hk6 hg6)
              go_roundw
              case rel => exact ⟨k + 1, by omega, by first | go_num | (simp; omega), HR⟩
              case measure => simp [intOf]; omega
            · obtain rfl : k = 23 := by omega
              have HR : Hid (Al w wr (.slice a1 kn c1) (allF (n + 1))) := by
                show Al w wr _ (allF n ++ rowF n)
                unfold rowF
                rw [← List.append_assoc, HKs.out]
                exact HB.out
              go_wp2_with fail
              go_roundw
              case rel => exact ⟨n + 1, by omega, by first | rfl | go_num, HR⟩
              case measure => simp [intOf]; omega
    · obtain rfl : n = 8 := by omega
      go_wp2_with fail
      go_ret
      exact ⟨_, rfl, HA.out⟩
end Go.Proofs.YtnehkokppobncaaDoor
