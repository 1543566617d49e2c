/-
  Keys: the document's Read.
-/
import Derived.Test.YtbonnjilbocldaaGreatDoorIF
import Derived.Test.YtbonnjilbocldaaGreatDoorHE
import Derived.Test.YtbonnjilbocldaaGreatDoorIH
import Derived.Test.YtbonnjilbocldaaGreatDoorII
import Derived.Deep.RegionHeld3
import Derived.BigQuiet
import Derived.Deep.QuietTactic
namespace Go.Proofs.YtbonnjilbocldaaGreatDoor
open Go.RowKit
set_option linter.unusedVariables false
set_option maxRecDepth 100000

/-- The key's block, told with a number. -/
theorem key_end2 {fn : Func} {p u : Tmp} (h : fn.results = #[.cell p 23, .tmp u]) {a : Act} {w W : World} {R : Ending → World → Prop} {Z : Nat} {c m a' b' : Int} (hk : Kb w W Z c m) (hZ : w.heap.size ≤ Z)
    (hp : a.tmps.getD p undef = .pointer (some ⟨Z, 0, none⟩)) (hdf : a.defers = []) (hR : ∀ X, Below w.heap.size w X → R (.returned (.tuple #[.agg #[.int .i64 a', .int .i64 b'], a.tmps.getD u undef])) X) :
    bodyPost Tryz.prog fn R .ret a ((W.setCell ⟨Z, 0, none⟩ (.int .i64 a')).setCell ⟨Z, 1, none⟩ (.int .i64 b')) :=
  ret_cell2 h hp (hk.put hZ a' b').key Tryz.underlying23 rfl infoKey hdf (hR _ (hk.put hZ a' b').below)
theorem Rd.code {w W : World} {Z K : Nat} {m : Int} (h : Rd w W Z K m) (c : Int) : Kb w (W.setCell ⟨K, 0, none⟩ (.int .i64 c)) Z 0 0 ∧ (W.setCell ⟨K, 0, none⟩ (.int .i64 c)).heap[K]? = some (.cells #[.int .i64 c, .int .i64 m] 23 (0, 0)) :=
  ⟨⟨h.below.setCell (p := ⟨K, 0, none⟩) (by have := h.zk; simp only; omega) _, put_other h.z (by have := h.zk; omega) _ _⟩, put_at h.k 0 _⟩
theorem last_none {l rest : List UInt8} {m : Int} (hre : restF l = (rest, m)) (hf : firstF rest = none) : lastF l = none := by
  unfold lastF
  rw [hre]
  dsimp only
  rw [hf]
theorem last_some {l rest : List UInt8} {m c : Int} {n : Nat} (hre : restF l = (rest, m)) (hf : firstF rest = some (c, n)) : lastF l = if n = rest.length ∧ hitB l (c, m) = true then some (c, m) else none := by
  unfold lastF
  rw [hre]
  dsimp only
  rw [hf]
theorem hit_v {l : List UInt8} {c m : Int} (h : validB c m = false) : hitB l (c, m) = false := by
  unfold hitB
  rw [h]
  rfl
theorem hit_n {l : List UInt8} {c m : Int} (h : ¬ nameF c m = l) : hitB l (c, m) = false := by
  unfold hitB
  rw [decide_eq_false h, Bool.and_false]
theorem hit_y {l : List UInt8} {c m : Int} (h : validB c m = true) (h2 : nameF c m = l) : hitB l (c, m) = true := by
  unfold hitB
  rw [h, decide_eq_true h2]
  rfl
theorem last_miss {l : List UInt8} {c m : Int} {n Rn : Nat} (h : lastF l = if n = Rn ∧ hitB l (c, m) = true then some (c, m) else none) (h2 : hitB l (c, m) = false) : lastF l = none := by
  rw [h, if_neg (fun q => by rw [h2] at q; cases q.2)]
theorem last_far {l : List UInt8} {c m : Int} {n Rn : Nat} (h : lastF l = if n = Rn ∧ hitB l (c, m) = true then some (c, m) else none) (h2 : ¬ n = Rn) : lastF l = none := by
  rw [h, if_neg (fun q => h2 q.1)]
theorem last_hit {l : List UInt8} {c m : Int} {n Rn : Nat} (h : lastF l = if n = Rn ∧ hitB l (c, m) = true then some (c, m) else none) (h1 : n = Rn) (h2 : hitB l (c, m) = true) : lastF l = some (c, m) := by
  rw [h, if_pos ⟨h1, h2⟩]
set_option maxHeartbeats 8000000 in
theorem rread_any (l : List UInt8) (hl : l.length ≤ 140737488355328) (w : World) : Calls Tryz.prog 48 #[.string (str l)] w fun r w' => r = .returned (rdV l) ∧ Below w.heap.size w w' := by
  obtain ⟨R, hR⟩ : ∃ R, rdV l = R := ⟨_, rfl⟩
  obtain ⟨V, Z, hV, hZ, HKb, HZl, z0, z1, f0, f1⟩ := key_new w
  have HAl := hidK (rall_any V)
  have hA1 := all_len 8
  have hrs : readR l = readF l := read_same l
  unfold readR at hrs
  obtain ⟨A, hA⟩ : ∃ A, allF 8 = A := ⟨_, rfl⟩
  rw [hA] at HAl hA1 hrs
  have HA1 : Hid (A.length = 1208) := hA1
  have HRs := hidK hrs
  have HR := hidK hR
  obtain ⟨T, hTT⟩ : ∃ T, str l = T := ⟨_, rfl⟩
  have HTT := hidK hTT
  rw [hR, hTT]
  clear hA1 hrs hR hA hTT z0 z1 f0 f1
  go_enter Tryz.func48, Tryz.ntmps48
  go_wp2_with fail
  refine HAl.out.mono ?_
  rintro e w1 ⟨v1, rfl, hal⟩
  obtain ⟨a0, c0, rfl⟩ := hal.keys.slice
  have hsee := hal.keys.see
  obtain ⟨a0', c0', e0, hsee⟩ := hsee
  obtain ⟨g, o, ead, hcell⟩ := hsee (fun e => by have := HA1.out; rw [e] at this; exact absurd this (by decide))
  cases e0
  cases ead
  have HB1 := hidK hal.below
  have HCe := hidK hcell
  rw [HA1.out]
  clear hal hsee hcell HAl
  go_wp2_with fail
  go_loopw [5] (fun iv wr => ∃ k : Nat, k ≤ 1208 ∧ iv = .int .i64 k ∧ Hid (Below w1.heap.size w1 wr) ∧ Hid (∀ q ∈ A.take k, hitB l q = false)) (fun iv _ => 1208 - (intOf iv).toNat)
  case atStart => exact ⟨0, Nat.zero_le _, rfl, Below.refl _ _, fun q hq => by simp at hq⟩
  case round =>
    obtain ⟨k, hk, rfl, HB, HS⟩ := hrel
    by_cases hlt : k < 1208
    · have hka : k < A.length := by rw [HA1.out]; exact hlt
      obtain ⟨b1, b2⟩ := HCe.out k hka
      obtain ⟨⟨x, y⟩, hxy⟩ : ∃ q, A[k] = q := ⟨_, rfl⟩
      rw [hxy] at b1 b2
      simp only at b1 b2
      have HCl : Hid (∀ X, Below w1.heap.size w1 X → X.cell? ⟨g, o + k * 2, none⟩ = some (.int .i64 x) ∧ X.cell? ⟨g, o + k * 2 + 1, none⟩ = some (.int .i64 y)) := fun X hX => ⟨(hX.cell (World.block_lt_of_cell? w1 _ b1)).trans b1, (hX.cell (World.block_lt_of_cell? w1 _ b2)).trans b2⟩
      clear b1 b2
      obtain ⟨e1, e2⟩ := HCl.out _ HB.out
      have hi1 : (k : Int) < 1208 := by omega
      have hi0 : (0 : Int) ≤ (k : Int) := by omega
      have HVa := hidK (rvalid_any x y)
      have HNa := hidK (rname_any x y)
      have HNext : Hid (hitB l (x, y) = false → ∀ q ∈ A.take (k + 1), hitB l q = false) := fun hn q hq => by
        rw [List.take_succ_eq_append_getElem hka, hxy] at hq
        rcases List.mem_append.1 hq with h | h
        · exact HS.out q h
        · rw [List.mem_singleton.1 h]; exact hn
      have HHit : Hid (hitB l (x, y) = true → R = .tuple #[.agg #[.int .i64 x, .int .i64 y], .int .i64 0]) := fun hh => by
        rw [← HR.out]; unfold rdV; rw [hit_read hh]
      clear hxy hka
      cases hv : validB x y with
      | false =>
        have HN2 := hidK (HNext.out (by unfold hitB; simp [hv]))
        rw [hv] at HVa
        clear HHit HNext hv
        go_wp2_with fail
        refine (HVa.out _).mono ?_
        rintro e w2 ⟨rfl, hb2⟩
        have HBn : Hid (Below w1.heap.size w1 w2) := below_step HB.out hb2
        clear hb2
        obtain ⟨n1, n2⟩ := HCl.out _ HBn.out
        go_wp2_with fail
        go_roundw
        case rel => exact ⟨k + 1, by omega, by first | rfl | go_num, HBn, HN2⟩
        case measure => simp [intOf]; omega
      | true =>
        rw [hv] at HVa
        obtain ⟨N, hN⟩ : ∃ N, str (nameF x y) = N := ⟨_, rfl⟩
        rw [hN] at HNa
        by_cases hn : nameF x y = l
        · have y1 : (N.toList == T.toList) = true := by rw [← hN, hn, HTT.out]; simp
          have HHi := hidK (HHit.out (by unfold hitB; simp [hv, hn]))
          clear HHit HNext hv hn hN
          go_wp2_with fail
          refine (HVa.out _).mono ?_
          rintro e w2 ⟨rfl, hb2⟩
          have HBn : Hid (Below w1.heap.size w1 w2) := below_step HB.out hb2
          clear hb2
          obtain ⟨n1, n2⟩ := HCl.out _ HBn.out
          go_wp2_with fail
          refine (HNa.out _).mono ?_
          rintro e w3 ⟨rfl, hb3⟩
          have HBm : Hid (Below w1.heap.size w1 w3) := below_step HBn.out hb3
          clear hb3
          obtain ⟨o1, o2⟩ := HCl.out _ HBm.out
          have HKe := hidK (HKb.out.more (below_step HB1.out HBm.out))
          have z0 := HKe.out.c0
          have z1 := HKe.out.c1
          have f0 := HKe.out.f 0
          have f1 := HKe.out.f 1
          go_wp2_with fail
          refine key_end2 rfl HKe.out HZl.out rfl rfl fun X hX => ⟨?_, hX⟩
          rw [HHi.out]
          rfl
        · have y1 : (N.toList == T.toList) = false := by rw [← hN, ← HTT.out, str_toList, str_toList]; simpa using hn
          have HN2 := hidK (HNext.out (by unfold hitB; simp [hn]))
          clear HHit HNext hv hn hN
          go_wp2_with fail
          refine (HVa.out _).mono ?_
          rintro e w2 ⟨rfl, hb2⟩
          have HBn : Hid (Below w1.heap.size w1 w2) := below_step HB.out hb2
          clear hb2
          obtain ⟨n1, n2⟩ := HCl.out _ HBn.out
          go_wp2_with fail
          refine (HNa.out _).mono ?_
          rintro e w3 ⟨rfl, hb3⟩
          have HBm : Hid (Below w1.heap.size w1 w3) := below_step HBn.out hb3
          clear hb3
          obtain ⟨o1, o2⟩ := HCl.out _ HBm.out
          go_wp2_with fail
          go_roundw
          case rel => exact ⟨k + 1, by omega, by first | rfl | go_num, HBm, HN2⟩
          case measure => simp [intOf]; omega
    · have hk8 : k = 1208 := by omega
      have hfn : A.find? (hitB l) = none := List.find?_eq_none.2 (fun q hq => by
        rw [HS.out q (by rw [hk8, List.take_of_length_le (by rw [HA1.out]; exact Nat.le_refl _)]; exact hq)]
        decide)
      have hlast : lastF l = readF l := by
        have h := HRs.out
        rw [hfn] at h
        exact h
      have HLa := hidK hlast
      obtain ⟨U, hU⟩ : ∃ U, wr.heap.size = U := ⟨_, rfl⟩
      have hKw := HKb.out.more (below_step HB1.out HB.out)
      have HRz : Hid (∀ m : Int, Rd w (wr.alloc (.cells #[.int .i64 0, .int .i64 m] 23)) Z U m) := fun m => ⟨below_step hKw.below ((Below.refl _ _).alloc (Nat.le_refl _) _), alloc_at hKw.key _, by rw [← hU]; exact heap_alloc_new wr _, HZl.out, by have := lt_block hKw.key; omega⟩
      obtain ⟨Nn, hNn⟩ : ∃ n, l.length = n := ⟨_, rfl⟩
      have zT : T.size = Nn := by rw [← HTT.out, ← hNn]; rfl
      have j1 : ¬ (k : Int) < 1208 := by omega
      clear hfn hlast hKw hk hlt HS
      by_cases h2 : 2 < Nn
      · have i2 : (2 : Int) < (Nn : Int) := by omega
        obtain ⟨S2, hS2⟩ : ∃ S, str (l.take 2) = S := ⟨_, rfl⟩
        have hsl : ∀ X : World, (Instr.slice 9 (.string T) none (some (.int .i64 2)) none).run Tryz.prog X = .ok (.string S2) X := fun X => by rw [← hS2, ← str_takeF, HTT.out]; exact slice_to T 2 (by omega) X
        by_cases hM : l.take 2 = [77, 45]
        · have y2 : (S2.toList == [77, 45]) = true := by rw [← hS2, str_toList, hM]; rfl
          have y3 : S2.toList = [77, 45] := by rw [← hS2, str_toList, hM]
          obtain ⟨rest, hrest⟩ : ∃ r, l.drop 2 = r := ⟨_, rfl⟩
          obtain ⟨RS, hRS⟩ : ∃ S, str rest = S := ⟨_, rfl⟩
          have hsd : ∀ X : World, (Instr.slice 9 (.string T) (some (.int .i64 2)) none none).run Tryz.prog X = .ok (.string RS) X := fun X => by rw [← hRS, ← hrest, ← str_dropF, HTT.out]; exact slice_from T 2 _ rfl (by omega) X
          obtain ⟨Rn, hRn⟩ : ∃ n, rest.length = n := ⟨_, rfl⟩
          have zR : RS.size = Rn := by rw [← hRS]; exact hRn
          obtain ⟨m, hm2⟩ : ∃ m : Int, (2 : Int) = m := ⟨_, rfl⟩
          have hre : restF l = (rest, m) := by unfold restF; rw [if_pos ⟨by omega, hM⟩, hrest, hm2]
          have hrl : rest.length ≤ 140737488355328 := by rw [← hrest, List.length_drop]; omega
          have HRd : Hid (Rd w (wr.alloc (.cells #[.int .i64 0, .int .i64 2] 23)) Z U m) := by rw [← hm2]; exact HRz.out 2
          have HRe : Hid (Rd w ((wr.alloc (.cells #[.int .i64 0, .int .i64 0] 23)).setCell ⟨U, 1, none⟩ (.int .i64 2)) Z U m) := by rw [← hm2]; exact (HRz.out 0).add 2
          clear hM hrest hS2 hm2 HRz
          have HNo : Hid (lastF l = none → R = .tuple #[.agg #[.int .i64 0, .int .i64 0], .int .i64 210]) := fun h => by rw [← HR.out]; unfold rdV; rw [← HLa.out, h]
          have hlb : rest.length ≤ 140737488355328 := hrl
          obtain ⟨fo, hf⟩ : ∃ fo, firstF rest = fo := ⟨_, rfl⟩
          cases fo with
          | none =>
            have HFi : Hid (∀ X, Calls Tryz.prog 72 #[.string RS] X fun r w' => r = .returned (.tuple #[.int .i64 0, .int .i64 0, .bool false]) ∧ Below X.heap.size X w') := fun X => by
              have h := rfirst_any rest hlb X
              rw [hf, hRS] at h
              exact h
            have HNn := hidK (HNo.out (last_none hre hf))
            clear hf hlb HNo hRS hre hrl
            go_wp2_with fail
            refine (HFi.out _).mono ?_
            rintro e w5 ⟨rfl, hb5⟩
            have HR5 : Hid (Rd w w5 Z U m) := (by first | exact HRd.out.more hb5 | exact HRe.out.more hb5)
            clear hb5
            have u0 : w5.cell? ⟨U, 0, none⟩ = some (.int .i64 0) := cell_at HR5.out.k 0
            have v0 : w5.frozen? ⟨U, 0, none⟩ = false := free_at HR5.out.k 0
            have HKx := hidK (HR5.out.code 0).1
            have HUx := hidK (HR5.out.code 0).2
            obtain ⟨X5, hX5⟩ : ∃ X5, w5.setCell ⟨U, 0, none⟩ (.int .i64 0) = X5 := ⟨_, rfl⟩
            rw [hX5] at HKx HUx
            have t0 : X5.cell? ⟨U, 0, none⟩ = some (.int .i64 0) := cell_at HUx.out 0
            have t1 : X5.cell? ⟨U, 1, none⟩ = some (.int .i64 m) := cell_at HUx.out 1
            have z0 := HKx.out.c0
            have z1 := HKx.out.c1
            have f0 := HKx.out.f 0
            have f1 := HKx.out.f 1
            go_wp2_with fail
            refine key_end2 rfl HKx.out HZl.out rfl rfl fun X hX => ⟨?_, hX⟩
            rw [HNn.out]
            rfl
          | some p =>
            obtain ⟨c, n⟩ := p
            have HFi : Hid (∀ X, Calls Tryz.prog 72 #[.string RS] X fun r w' => r = .returned (.tuple #[.int .i64 c, .int .i64 n, .bool true]) ∧ Below X.heap.size X w') := fun X => by
              have h := rfirst_any rest hlb X
              rw [hf, hRS] at h
              exact h
            have hlf2 : lastF l = if n = rest.length ∧ hitB l (c, m) = true then some (c, m) else none := last_some hre hf
            rw [hRn] at hlf2
            clear hf hlb hre hrl
            by_cases hnR : n = Rn
            · have i5 : (n : Int) = (Rn : Int) := by omega
              have HVc := hidK (rvalid_any c m)
              obtain ⟨vb, hv⟩ : ∃ vb, validB c m = vb := ⟨_, rfl⟩
              cases vb with
              | false =>
                have HNn := hidK (HNo.out (last_miss hlf2 (hit_v hv)))
                rw [hv] at HVc
                clear hlf2 hv HNo hRS
                go_wp2_with fail
                refine (HFi.out _).mono ?_
                rintro e w5 ⟨rfl, hb5⟩
                have HR5 : Hid (Rd w w5 Z U m) := (by first | exact HRd.out.more hb5 | exact HRe.out.more hb5)
                clear hb5
                have u0 : w5.cell? ⟨U, 0, none⟩ = some (.int .i64 0) := cell_at HR5.out.k 0
                have v0 : w5.frozen? ⟨U, 0, none⟩ = false := free_at HR5.out.k 0
                have HKx := hidK (HR5.out.code c).1
                have HUx := hidK (HR5.out.code c).2
                obtain ⟨X5, hX5⟩ : ∃ X5, w5.setCell ⟨U, 0, none⟩ (.int .i64 c) = X5 := ⟨_, rfl⟩
                rw [hX5] at HKx HUx
                have t0 : X5.cell? ⟨U, 0, none⟩ = some (.int .i64 c) := cell_at HUx.out 0
                have t1 : X5.cell? ⟨U, 1, none⟩ = some (.int .i64 m) := cell_at HUx.out 1
                go_wp2_with fail
                refine (HVc.out _).mono ?_
                rintro e w6 ⟨rfl, hb6⟩
                have HK6 := hidK (HKx.out.more hb6)
                clear hb6
                have z0 := HK6.out.c0
                have z1 := HK6.out.c1
                have f0 := HK6.out.f 0
                have f1 := HK6.out.f 1
                go_wp2_with fail
                refine key_end2 rfl HK6.out HZl.out rfl rfl fun X hX => ⟨?_, hX⟩
                rw [HNn.out]
                rfl
              | true =>
                have HNc := hidK (rname_any c m)
                obtain ⟨N, hN⟩ : ∃ N, str (nameF c m) = N := ⟨_, rfl⟩
                rw [hv] at HVc
                rw [hN] at HNc
                by_cases hn : nameF c m = l
                · have y1 : (N.toList == T.toList) = true := by rw [← hN, hn, HTT.out]; simp
                  have HHi : Hid (R = .tuple #[.agg #[.int .i64 c, .int .i64 m], .int .i64 0]) := by
                    show R = _
                    rw [← HR.out]; unfold rdV; rw [← HLa.out, last_hit hlf2 hnR (hit_y hv hn)]
                  clear hlf2 hv HNo hRS hN hn
                  go_wp2_with fail
                  refine (HFi.out _).mono ?_
                  rintro e w5 ⟨rfl, hb5⟩
                  have HR5 : Hid (Rd w w5 Z U m) := (by first | exact HRd.out.more hb5 | exact HRe.out.more hb5)
                  clear hb5
                  have u0 : w5.cell? ⟨U, 0, none⟩ = some (.int .i64 0) := cell_at HR5.out.k 0
                  have v0 : w5.frozen? ⟨U, 0, none⟩ = false := free_at HR5.out.k 0
                  have HKx := hidK (HR5.out.code c).1
                  have HUx := hidK (HR5.out.code c).2
                  obtain ⟨X5, hX5⟩ : ∃ X5, w5.setCell ⟨U, 0, none⟩ (.int .i64 c) = X5 := ⟨_, rfl⟩
                  rw [hX5] at HKx HUx
                  have t0 : X5.cell? ⟨U, 0, none⟩ = some (.int .i64 c) := cell_at HUx.out 0
                  have t1 : X5.cell? ⟨U, 1, none⟩ = some (.int .i64 m) := cell_at HUx.out 1
                  go_wp2_with fail
                  refine (HVc.out _).mono ?_
                  rintro e w6 ⟨rfl, hb6⟩
                  have HK6 := hidK (HKx.out.more hb6)
                  have HU6 := hidK ((hb6.block U (lt_block HUx.out)).trans HUx.out)
                  clear hb6
                  have s0 : w6.cell? ⟨U, 0, none⟩ = some (.int .i64 c) := cell_at HU6.out 0
                  have s1 : w6.cell? ⟨U, 1, none⟩ = some (.int .i64 m) := cell_at HU6.out 1
                  go_wp2_with fail
                  refine (HNc.out _).mono ?_
                  rintro e w7 ⟨rfl, hb7⟩
                  have HK7 := hidK (HK6.out.more hb7)
                  have HU7 := hidK ((hb7.block U (lt_block HU6.out)).trans HU6.out)
                  clear hb7
                  have r0 : w7.cell? ⟨U, 0, none⟩ = some (.int .i64 c) := cell_at HU7.out 0
                  have r1 : w7.cell? ⟨U, 1, none⟩ = some (.int .i64 m) := cell_at HU7.out 1
                  have z0 := HK7.out.c0
                  have z1 := HK7.out.c1
                  have f0 := HK7.out.f 0
                  have f1 := HK7.out.f 1
                  go_wp2_with fail
                  refine key_end2 rfl HK7.out HZl.out rfl rfl fun X hX => ⟨?_, hX⟩
                  rw [HHi.out]
                  rfl
                · have y1 : (N.toList == T.toList) = false := by rw [← hN, ← HTT.out, str_toList, str_toList]; simpa using hn
                  have HNn := hidK (HNo.out (last_miss hlf2 (hit_n hn)))
                  clear hlf2 hv HNo hRS hN hn
                  go_wp2_with fail
                  refine (HFi.out _).mono ?_
                  rintro e w5 ⟨rfl, hb5⟩
                  have HR5 : Hid (Rd w w5 Z U m) := (by first | exact HRd.out.more hb5 | exact HRe.out.more hb5)
                  clear hb5
                  have u0 : w5.cell? ⟨U, 0, none⟩ = some (.int .i64 0) := cell_at HR5.out.k 0
                  have v0 : w5.frozen? ⟨U, 0, none⟩ = false := free_at HR5.out.k 0
                  have HKx := hidK (HR5.out.code c).1
                  have HUx := hidK (HR5.out.code c).2
                  obtain ⟨X5, hX5⟩ : ∃ X5, w5.setCell ⟨U, 0, none⟩ (.int .i64 c) = X5 := ⟨_, rfl⟩
                  rw [hX5] at HKx HUx
                  have t0 : X5.cell? ⟨U, 0, none⟩ = some (.int .i64 c) := cell_at HUx.out 0
                  have t1 : X5.cell? ⟨U, 1, none⟩ = some (.int .i64 m) := cell_at HUx.out 1
                  go_wp2_with fail
                  refine (HVc.out _).mono ?_
                  rintro e w6 ⟨rfl, hb6⟩
                  have HK6 := hidK (HKx.out.more hb6)
                  have HU6 := hidK ((hb6.block U (lt_block HUx.out)).trans HUx.out)
                  clear hb6
                  have s0 : w6.cell? ⟨U, 0, none⟩ = some (.int .i64 c) := cell_at HU6.out 0
                  have s1 : w6.cell? ⟨U, 1, none⟩ = some (.int .i64 m) := cell_at HU6.out 1
                  go_wp2_with fail
                  refine (HNc.out _).mono ?_
                  rintro e w7 ⟨rfl, hb7⟩
                  have HK7 := hidK (HK6.out.more hb7)
                  clear hb7
                  have z0 := HK7.out.c0
                  have z1 := HK7.out.c1
                  have f0 := HK7.out.f 0
                  have f1 := HK7.out.f 1
                  go_wp2_with fail
                  refine key_end2 rfl HK7.out HZl.out rfl rfl fun X hX => ⟨?_, hX⟩
                  rw [HNn.out]
                  rfl
            · have i5 : ¬ (n : Int) = (Rn : Int) := by omega
              have HNn := hidK (HNo.out (last_far hlf2 hnR))
              clear hlf2 HNo hRS
              go_wp2_with fail
              refine (HFi.out _).mono ?_
              rintro e w5 ⟨rfl, hb5⟩
              have HR5 : Hid (Rd w w5 Z U m) := (by first | exact HRd.out.more hb5 | exact HRe.out.more hb5)
              clear hb5
              have u0 : w5.cell? ⟨U, 0, none⟩ = some (.int .i64 0) := cell_at HR5.out.k 0
              have v0 : w5.frozen? ⟨U, 0, none⟩ = false := free_at HR5.out.k 0
              have HKx := hidK (HR5.out.code c).1
              have HUx := hidK (HR5.out.code c).2
              obtain ⟨X5, hX5⟩ : ∃ X5, w5.setCell ⟨U, 0, none⟩ (.int .i64 c) = X5 := ⟨_, rfl⟩
              rw [hX5] at HKx HUx
              have t0 : X5.cell? ⟨U, 0, none⟩ = some (.int .i64 c) := cell_at HUx.out 0
              have t1 : X5.cell? ⟨U, 1, none⟩ = some (.int .i64 m) := cell_at HUx.out 1
              have z0 := HKx.out.c0
              have z1 := HKx.out.c1
              have f0 := HKx.out.f 0
              have f1 := HKx.out.f 1
              go_wp2_with fail
              refine key_end2 rfl HKx.out HZl.out rfl rfl fun X hX => ⟨?_, hX⟩
              rw [HNn.out]
              rfl
        · have y2 : (S2.toList == [77, 45]) = false := by rw [← hS2, str_toList]; simpa using hM
          have y3 : ¬ S2.toList = [77, 45] := by rw [← hS2, str_toList]; exact hM
          obtain ⟨rest, hrest⟩ : ∃ r, l = r := ⟨_, rfl⟩
          have hre : restF l = (rest, 0) := by unfold restF; rw [if_neg (fun h => hM h.2), hrest]
          have hRS : str rest = T := by rw [← hrest, HTT.out]
          have hRn : rest.length = Nn := by rw [← hrest, hNn]
          have hrl : rest.length ≤ 140737488355328 := by rw [← hrest]; exact hl
          obtain ⟨m, HRd, hre⟩ : ∃ m : Int, Hid (Rd w (wr.alloc (.cells #[.int .i64 0, .int .i64 0] 23)) Z U m) ∧ restF l = (rest, m) := ⟨0, HRz.out 0, hre⟩
          have HRe := hidK HRd.out
          clear hM hrest hS2 HRz
          have HNo : Hid (lastF l = none → R = .tuple #[.agg #[.int .i64 0, .int .i64 0], .int .i64 210]) := fun h => by rw [← HR.out]; unfold rdV; rw [← HLa.out, h]
          have hlb : rest.length ≤ 140737488355328 := hrl
          obtain ⟨fo, hf⟩ : ∃ fo, firstF rest = fo := ⟨_, rfl⟩
          cases fo with
          | none =>
            have HFi : Hid (∀ X, Calls Tryz.prog 72 #[.string T] X fun r w' => r = .returned (.tuple #[.int .i64 0, .int .i64 0, .bool false]) ∧ Below X.heap.size X w') := fun X => by
              have h := rfirst_any rest hlb X
              rw [hf, hRS] at h
              exact h
            have HNn := hidK (HNo.out (last_none hre hf))
            clear hf hlb HNo hRS hre hrl
            go_wp2_with fail
            refine (HFi.out _).mono ?_
            rintro e w5 ⟨rfl, hb5⟩
            have HR5 : Hid (Rd w w5 Z U m) := (by first | exact HRd.out.more hb5 | exact HRe.out.more hb5)
            clear hb5
            have u0 : w5.cell? ⟨U, 0, none⟩ = some (.int .i64 0) := cell_at HR5.out.k 0
            have v0 : w5.frozen? ⟨U, 0, none⟩ = false := free_at HR5.out.k 0
            have HKx := hidK (HR5.out.code 0).1
            have HUx := hidK (HR5.out.code 0).2
            obtain ⟨X5, hX5⟩ : ∃ X5, w5.setCell ⟨U, 0, none⟩ (.int .i64 0) = X5 := ⟨_, rfl⟩
            rw [hX5] at HKx HUx
            have t0 : X5.cell? ⟨U, 0, none⟩ = some (.int .i64 0) := cell_at HUx.out 0
            have t1 : X5.cell? ⟨U, 1, none⟩ = some (.int .i64 m) := cell_at HUx.out 1
            have z0 := HKx.out.c0
            have z1 := HKx.out.c1
            have f0 := HKx.out.f 0
            have f1 := HKx.out.f 1
            go_wp2_with fail
            refine key_end2 rfl HKx.out HZl.out rfl rfl fun X hX => ⟨?_, hX⟩
            rw [HNn.out]
            rfl
          | some p =>
            obtain ⟨c, n⟩ := p
            have HFi : Hid (∀ X, Calls Tryz.prog 72 #[.string T] X fun r w' => r = .returned (.tuple #[.int .i64 c, .int .i64 n, .bool true]) ∧ Below X.heap.size X w') := fun X => by
              have h := rfirst_any rest hlb X
              rw [hf, hRS] at h
              exact h
            have hlf2 : lastF l = if n = rest.length ∧ hitB l (c, m) = true then some (c, m) else none := last_some hre hf
            rw [hRn] at hlf2
            clear hf hlb hre hrl
            by_cases hnR : n = Nn
            · have i5 : (n : Int) = (Nn : Int) := by omega
              have HVc := hidK (rvalid_any c m)
              obtain ⟨vb, hv⟩ : ∃ vb, validB c m = vb := ⟨_, rfl⟩
              cases vb with
              | false =>
                have HNn := hidK (HNo.out (last_miss hlf2 (hit_v hv)))
                rw [hv] at HVc
                clear hlf2 hv HNo hRS
                go_wp2_with fail
                refine (HFi.out _).mono ?_
                rintro e w5 ⟨rfl, hb5⟩
                have HR5 : Hid (Rd w w5 Z U m) := (by first | exact HRd.out.more hb5 | exact HRe.out.more hb5)
                clear hb5
                have u0 : w5.cell? ⟨U, 0, none⟩ = some (.int .i64 0) := cell_at HR5.out.k 0
                have v0 : w5.frozen? ⟨U, 0, none⟩ = false := free_at HR5.out.k 0
                have HKx := hidK (HR5.out.code c).1
                have HUx := hidK (HR5.out.code c).2
                obtain ⟨X5, hX5⟩ : ∃ X5, w5.setCell ⟨U, 0, none⟩ (.int .i64 c) = X5 := ⟨_, rfl⟩
                rw [hX5] at HKx HUx
                have t0 : X5.cell? ⟨U, 0, none⟩ = some (.int .i64 c) := cell_at HUx.out 0
                have t1 : X5.cell? ⟨U, 1, none⟩ = some (.int .i64 m) := cell_at HUx.out 1
                go_wp2_with fail
                refine (HVc.out _).mono ?_
                rintro e w6 ⟨rfl, hb6⟩
                have HK6 := hidK (HKx.out.more hb6)
                clear hb6
                have z0 := HK6.out.c0
                have z1 := HK6.out.c1
                have f0 := HK6.out.f 0
                have f1 := HK6.out.f 1
                go_wp2_with fail
                refine key_end2 rfl HK6.out HZl.out rfl rfl fun X hX => ⟨?_, hX⟩
                rw [HNn.out]
                rfl
              | true =>
                have HNc := hidK (rname_any c m)
                obtain ⟨N, hN⟩ : ∃ N, str (nameF c m) = N := ⟨_, rfl⟩
                rw [hv] at HVc
                rw [hN] at HNc
                by_cases hn : nameF c m = l
                · have y1 : (N.toList == T.toList) = true := by rw [← hN, hn, HTT.out]; simp
                  have HHi : Hid (R = .tuple #[.agg #[.int .i64 c, .int .i64 m], .int .i64 0]) := by
                    show R = _
                    rw [← HR.out]; unfold rdV; rw [← HLa.out, last_hit hlf2 hnR (hit_y hv hn)]
                  clear hlf2 hv HNo hRS hN hn
                  go_wp2_with fail
                  refine (HFi.out _).mono ?_
                  rintro e w5 ⟨rfl, hb5⟩
                  have HR5 : Hid (Rd w w5 Z U m) := (by first | exact HRd.out.more hb5 | exact HRe.out.more hb5)
                  clear hb5
                  have u0 : w5.cell? ⟨U, 0, none⟩ = some (.int .i64 0) := cell_at HR5.out.k 0
                  have v0 : w5.frozen? ⟨U, 0, none⟩ = false := free_at HR5.out.k 0
                  have HKx := hidK (HR5.out.code c).1
                  have HUx := hidK (HR5.out.code c).2
                  obtain ⟨X5, hX5⟩ : ∃ X5, w5.setCell ⟨U, 0, none⟩ (.int .i64 c) = X5 := ⟨_, rfl⟩
                  rw [hX5] at HKx HUx
                  have t0 : X5.cell? ⟨U, 0, none⟩ = some (.int .i64 c) := cell_at HUx.out 0
                  have t1 : X5.cell? ⟨U, 1, none⟩ = some (.int .i64 m) := cell_at HUx.out 1
                  go_wp2_with fail
                  refine (HVc.out _).mono ?_
                  rintro e w6 ⟨rfl, hb6⟩
                  have HK6 := hidK (HKx.out.more hb6)
                  have HU6 := hidK ((hb6.block U (lt_block HUx.out)).trans HUx.out)
                  clear hb6
                  have s0 : w6.cell? ⟨U, 0, none⟩ = some (.int .i64 c) := cell_at HU6.out 0
                  have s1 : w6.cell? ⟨U, 1, none⟩ = some (.int .i64 m) := cell_at HU6.out 1
                  go_wp2_with fail
                  refine (HNc.out _).mono ?_
                  rintro e w7 ⟨rfl, hb7⟩
                  have HK7 := hidK (HK6.out.more hb7)
                  have HU7 := hidK ((hb7.block U (lt_block HU6.out)).trans HU6.out)
                  clear hb7
                  have r0 : w7.cell? ⟨U, 0, none⟩ = some (.int .i64 c) := cell_at HU7.out 0
                  have r1 : w7.cell? ⟨U, 1, none⟩ = some (.int .i64 m) := cell_at HU7.out 1
                  have z0 := HK7.out.c0
                  have z1 := HK7.out.c1
                  have f0 := HK7.out.f 0
                  have f1 := HK7.out.f 1
                  go_wp2_with fail
                  refine key_end2 rfl HK7.out HZl.out rfl rfl fun X hX => ⟨?_, hX⟩
                  rw [HHi.out]
                  rfl
                · have y1 : (N.toList == T.toList) = false := by rw [← hN, ← HTT.out, str_toList, str_toList]; simpa using hn
                  have HNn := hidK (HNo.out (last_miss hlf2 (hit_n hn)))
                  clear hlf2 hv HNo hRS hN hn
                  go_wp2_with fail
                  refine (HFi.out _).mono ?_
                  rintro e w5 ⟨rfl, hb5⟩
                  have HR5 : Hid (Rd w w5 Z U m) := (by first | exact HRd.out.more hb5 | exact HRe.out.more hb5)
                  clear hb5
                  have u0 : w5.cell? ⟨U, 0, none⟩ = some (.int .i64 0) := cell_at HR5.out.k 0
                  have v0 : w5.frozen? ⟨U, 0, none⟩ = false := free_at HR5.out.k 0
                  have HKx := hidK (HR5.out.code c).1
                  have HUx := hidK (HR5.out.code c).2
                  obtain ⟨X5, hX5⟩ : ∃ X5, w5.setCell ⟨U, 0, none⟩ (.int .i64 c) = X5 := ⟨_, rfl⟩
                  rw [hX5] at HKx HUx
                  have t0 : X5.cell? ⟨U, 0, none⟩ = some (.int .i64 c) := cell_at HUx.out 0
                  have t1 : X5.cell? ⟨U, 1, none⟩ = some (.int .i64 m) := cell_at HUx.out 1
                  go_wp2_with fail
                  refine (HVc.out _).mono ?_
                  rintro e w6 ⟨rfl, hb6⟩
                  have HK6 := hidK (HKx.out.more hb6)
                  have HU6 := hidK ((hb6.block U (lt_block HUx.out)).trans HUx.out)
                  clear hb6
                  have s0 : w6.cell? ⟨U, 0, none⟩ = some (.int .i64 c) := cell_at HU6.out 0
                  have s1 : w6.cell? ⟨U, 1, none⟩ = some (.int .i64 m) := cell_at HU6.out 1
                  go_wp2_with fail
                  refine (HNc.out _).mono ?_
                  rintro e w7 ⟨rfl, hb7⟩
                  have HK7 := hidK (HK6.out.more hb7)
                  clear hb7
                  have z0 := HK7.out.c0
                  have z1 := HK7.out.c1
                  have f0 := HK7.out.f 0
                  have f1 := HK7.out.f 1
                  go_wp2_with fail
                  refine key_end2 rfl HK7.out HZl.out rfl rfl fun X hX => ⟨?_, hX⟩
                  rw [HNn.out]
                  rfl
            · have i5 : ¬ (n : Int) = (Nn : Int) := by omega
              have HNn := hidK (HNo.out (last_far hlf2 hnR))
              clear hlf2 HNo hRS
              go_wp2_with fail
              refine (HFi.out _).mono ?_
              rintro e w5 ⟨rfl, hb5⟩
              have HR5 : Hid (Rd w w5 Z U m) := (by first | exact HRd.out.more hb5 | exact HRe.out.more hb5)
              clear hb5
              have u0 : w5.cell? ⟨U, 0, none⟩ = some (.int .i64 0) := cell_at HR5.out.k 0
              have v0 : w5.frozen? ⟨U, 0, none⟩ = false := free_at HR5.out.k 0
              have HKx := hidK (HR5.out.code c).1
              have HUx := hidK (HR5.out.code c).2
              obtain ⟨X5, hX5⟩ : ∃ X5, w5.setCell ⟨U, 0, none⟩ (.int .i64 c) = X5 := ⟨_, rfl⟩
              rw [hX5] at HKx HUx
              have t0 : X5.cell? ⟨U, 0, none⟩ = some (.int .i64 c) := cell_at HUx.out 0
              have t1 : X5.cell? ⟨U, 1, none⟩ = some (.int .i64 m) := cell_at HUx.out 1
              have z0 := HKx.out.c0
              have z1 := HKx.out.c1
              have f0 := HKx.out.f 0
              have f1 := HKx.out.f 1
              go_wp2_with fail
              refine key_end2 rfl HKx.out HZl.out rfl rfl fun X hX => ⟨?_, hX⟩
              rw [HNn.out]
              rfl
      · have i2 : ¬ (2 : Int) < (Nn : Int) := by omega
        obtain ⟨rest, hrest⟩ : ∃ r, l = r := ⟨_, rfl⟩
        have hre : restF l = (rest, 0) := by unfold restF; rw [if_neg (fun h => by have := h.1; omega), hrest]
        have hRS : str rest = T := by rw [← hrest, HTT.out]
        have hRn : rest.length = Nn := by rw [← hrest, hNn]
        have hrl : rest.length ≤ 140737488355328 := by rw [← hrest]; exact hl
        obtain ⟨m, HRd, hre⟩ : ∃ m : Int, Hid (Rd w (wr.alloc (.cells #[.int .i64 0, .int .i64 0] 23)) Z U m) ∧ restF l = (rest, m) := ⟨0, HRz.out 0, hre⟩
        have HRe := hidK HRd.out
        clear hrest HRz
        have HNo : Hid (lastF l = none → R = .tuple #[.agg #[.int .i64 0, .int .i64 0], .int .i64 210]) := fun h => by rw [← HR.out]; unfold rdV; rw [← HLa.out, h]
        have hlb : rest.length ≤ 140737488355328 := hrl
        obtain ⟨fo, hf⟩ : ∃ fo, firstF rest = fo := ⟨_, rfl⟩
        cases fo with
        | none =>
          have HFi : Hid (∀ X, Calls Tryz.prog 72 #[.string T] X fun r w' => r = .returned (.tuple #[.int .i64 0, .int .i64 0, .bool false]) ∧ Below X.heap.size X w') := fun X => by
            have h := rfirst_any rest hlb X
            rw [hf, hRS] at h
            exact h
          have HNn := hidK (HNo.out (last_none hre hf))
          clear hf hlb HNo hRS hre hrl
          go_wp2_with fail
          refine (HFi.out _).mono ?_
          rintro e w5 ⟨rfl, hb5⟩
          have HR5 : Hid (Rd w w5 Z U m) := (by first | exact HRd.out.more hb5 | exact HRe.out.more hb5)
          clear hb5
          have u0 : w5.cell? ⟨U, 0, none⟩ = some (.int .i64 0) := cell_at HR5.out.k 0
          have v0 : w5.frozen? ⟨U, 0, none⟩ = false := free_at HR5.out.k 0
          have HKx := hidK (HR5.out.code 0).1
          have HUx := hidK (HR5.out.code 0).2
          obtain ⟨X5, hX5⟩ : ∃ X5, w5.setCell ⟨U, 0, none⟩ (.int .i64 0) = X5 := ⟨_, rfl⟩
          rw [hX5] at HKx HUx
          have t0 : X5.cell? ⟨U, 0, none⟩ = some (.int .i64 0) := cell_at HUx.out 0
          have t1 : X5.cell? ⟨U, 1, none⟩ = some (.int .i64 m) := cell_at HUx.out 1
          have z0 := HKx.out.c0
          have z1 := HKx.out.c1
          have f0 := HKx.out.f 0
          have f1 := HKx.out.f 1
          go_wp2_with fail
          refine key_end2 rfl HKx.out HZl.out rfl rfl fun X hX => ⟨?_, hX⟩
          rw [HNn.out]
          rfl
        | some p =>
          obtain ⟨c, n⟩ := p
          have HFi : Hid (∀ X, Calls Tryz.prog 72 #[.string T] X fun r w' => r = .returned (.tuple #[.int .i64 c, .int .i64 n, .bool true]) ∧ Below X.heap.size X w') := fun X => by
            have h := rfirst_any rest hlb X
            rw [hf, hRS] at h
            exact h
          have hlf2 : lastF l = if n = rest.length ∧ hitB l (c, m) = true then some (c, m) else none := last_some hre hf
          rw [hRn] at hlf2
          clear hf hlb hre hrl
          by_cases hnR : n = Nn
          · have i5 : (n : Int) = (Nn : Int) := by omega
            have HVc := hidK (rvalid_any c m)
            obtain ⟨vb, hv⟩ : ∃ vb, validB c m = vb := ⟨_, rfl⟩
            cases vb with
            | false =>
              have HNn := hidK (HNo.out (last_miss hlf2 (hit_v hv)))
              rw [hv] at HVc
              clear hlf2 hv HNo hRS
              go_wp2_with fail
              refine (HFi.out _).mono ?_
              rintro e w5 ⟨rfl, hb5⟩
              have HR5 : Hid (Rd w w5 Z U m) := (by first | exact HRd.out.more hb5 | exact HRe.out.more hb5)
              clear hb5
              have u0 : w5.cell? ⟨U, 0, none⟩ = some (.int .i64 0) := cell_at HR5.out.k 0
              have v0 : w5.frozen? ⟨U, 0, none⟩ = false := free_at HR5.out.k 0
              have HKx := hidK (HR5.out.code c).1
              have HUx := hidK (HR5.out.code c).2
              obtain ⟨X5, hX5⟩ : ∃ X5, w5.setCell ⟨U, 0, none⟩ (.int .i64 c) = X5 := ⟨_, rfl⟩
              rw [hX5] at HKx HUx
              have t0 : X5.cell? ⟨U, 0, none⟩ = some (.int .i64 c) := cell_at HUx.out 0
              have t1 : X5.cell? ⟨U, 1, none⟩ = some (.int .i64 m) := cell_at HUx.out 1
              go_wp2_with fail
              refine (HVc.out _).mono ?_
              rintro e w6 ⟨rfl, hb6⟩
              have HK6 := hidK (HKx.out.more hb6)
              clear hb6
              have z0 := HK6.out.c0
              have z1 := HK6.out.c1
              have f0 := HK6.out.f 0
              have f1 := HK6.out.f 1
              go_wp2_with fail
              refine key_end2 rfl HK6.out HZl.out rfl rfl fun X hX => ⟨?_, hX⟩
              rw [HNn.out]
              rfl
            | true =>
              have HNc := hidK (rname_any c m)
              obtain ⟨N, hN⟩ : ∃ N, str (nameF c m) = N := ⟨_, rfl⟩
              rw [hv] at HVc
              rw [hN] at HNc
              by_cases hn : nameF c m = l
              · have y1 : (N.toList == T.toList) = true := by rw [← hN, hn, HTT.out]; simp
                have HHi : Hid (R = .tuple #[.agg #[.int .i64 c, .int .i64 m], .int .i64 0]) := by
                  show R = _
                  rw [← HR.out]; unfold rdV; rw [← HLa.out, last_hit hlf2 hnR (hit_y hv hn)]
                clear hlf2 hv HNo hRS hN hn
                go_wp2_with fail
                refine (HFi.out _).mono ?_
                rintro e w5 ⟨rfl, hb5⟩
                have HR5 : Hid (Rd w w5 Z U m) := (by first | exact HRd.out.more hb5 | exact HRe.out.more hb5)
                clear hb5
                have u0 : w5.cell? ⟨U, 0, none⟩ = some (.int .i64 0) := cell_at HR5.out.k 0
                have v0 : w5.frozen? ⟨U, 0, none⟩ = false := free_at HR5.out.k 0
                have HKx := hidK (HR5.out.code c).1
                have HUx := hidK (HR5.out.code c).2
                obtain ⟨X5, hX5⟩ : ∃ X5, w5.setCell ⟨U, 0, none⟩ (.int .i64 c) = X5 := ⟨_, rfl⟩
                rw [hX5] at HKx HUx
                have t0 : X5.cell? ⟨U, 0, none⟩ = some (.int .i64 c) := cell_at HUx.out 0
                have t1 : X5.cell? ⟨U, 1, none⟩ = some (.int .i64 m) := cell_at HUx.out 1
                go_wp2_with fail
                refine (HVc.out _).mono ?_
                rintro e w6 ⟨rfl, hb6⟩
                have HK6 := hidK (HKx.out.more hb6)
                have HU6 := hidK ((hb6.block U (lt_block HUx.out)).trans HUx.out)
                clear hb6
                have s0 : w6.cell? ⟨U, 0, none⟩ = some (.int .i64 c) := cell_at HU6.out 0
                have s1 : w6.cell? ⟨U, 1, none⟩ = some (.int .i64 m) := cell_at HU6.out 1
                go_wp2_with fail
                refine (HNc.out _).mono ?_
                rintro e w7 ⟨rfl, hb7⟩
                have HK7 := hidK (HK6.out.more hb7)
                have HU7 := hidK ((hb7.block U (lt_block HU6.out)).trans HU6.out)
                clear hb7
                have r0 : w7.cell? ⟨U, 0, none⟩ = some (.int .i64 c) := cell_at HU7.out 0
                have r1 : w7.cell? ⟨U, 1, none⟩ = some (.int .i64 m) := cell_at HU7.out 1
                have z0 := HK7.out.c0
                have z1 := HK7.out.c1
                have f0 := HK7.out.f 0
                have f1 := HK7.out.f 1
                go_wp2_with fail
                refine key_end2 rfl HK7.out HZl.out rfl rfl fun X hX => ⟨?_, hX⟩
                rw [HHi.out]
                rfl
              · have y1 : (N.toList == T.toList) = false := by rw [← hN, ← HTT.out, str_toList, str_toList]; simpa using hn
                have HNn := hidK (HNo.out (last_miss hlf2 (hit_n hn)))
                clear hlf2 hv HNo hRS hN hn
                go_wp2_with fail
                refine (HFi.out _).mono ?_
                rintro e w5 ⟨rfl, hb5⟩
                have HR5 : Hid (Rd w w5 Z U m) := (by first | exact HRd.out.more hb5 | exact HRe.out.more hb5)
                clear hb5
                have u0 : w5.cell? ⟨U, 0, none⟩ = some (.int .i64 0) := cell_at HR5.out.k 0
                have v0 : w5.frozen? ⟨U, 0, none⟩ = false := free_at HR5.out.k 0
                have HKx := hidK (HR5.out.code c).1
                have HUx := hidK (HR5.out.code c).2
                obtain ⟨X5, hX5⟩ : ∃ X5, w5.setCell ⟨U, 0, none⟩ (.int .i64 c) = X5 := ⟨_, rfl⟩
                rw [hX5] at HKx HUx
                have t0 : X5.cell? ⟨U, 0, none⟩ = some (.int .i64 c) := cell_at HUx.out 0
                have t1 : X5.cell? ⟨U, 1, none⟩ = some (.int .i64 m) := cell_at HUx.out 1
                go_wp2_with fail
                refine (HVc.out _).mono ?_
                rintro e w6 ⟨rfl, hb6⟩
                have HK6 := hidK (HKx.out.more hb6)
                have HU6 := hidK ((hb6.block U (lt_block HUx.out)).trans HUx.out)
                clear hb6
                have s0 : w6.cell? ⟨U, 0, none⟩ = some (.int .i64 c) := cell_at HU6.out 0
                have s1 : w6.cell? ⟨U, 1, none⟩ = some (.int .i64 m) := cell_at HU6.out 1
                go_wp2_with fail
                refine (HNc.out _).mono ?_
                rintro e w7 ⟨rfl, hb7⟩
                have HK7 := hidK (HK6.out.more hb7)
                clear hb7
                have z0 := HK7.out.c0
                have z1 := HK7.out.c1
                have f0 := HK7.out.f 0
                have f1 := HK7.out.f 1
                go_wp2_with fail
                refine key_end2 rfl HK7.out HZl.out rfl rfl fun X hX => ⟨?_, hX⟩
                rw [HNn.out]
                rfl
          · have i5 : ¬ (n : Int) = (Nn : Int) := by omega
            have HNn := hidK (HNo.out (last_far hlf2 hnR))
            clear hlf2 HNo hRS
            go_wp2_with fail
            refine (HFi.out _).mono ?_
            rintro e w5 ⟨rfl, hb5⟩
            have HR5 : Hid (Rd w w5 Z U m) := (by first | exact HRd.out.more hb5 | exact HRe.out.more hb5)
            clear hb5
            have u0 : w5.cell? ⟨U, 0, none⟩ = some (.int .i64 0) := cell_at HR5.out.k 0
            have v0 : w5.frozen? ⟨U, 0, none⟩ = false := free_at HR5.out.k 0
            have HKx := hidK (HR5.out.code c).1
            have HUx := hidK (HR5.out.code c).2
            obtain ⟨X5, hX5⟩ : ∃ X5, w5.setCell ⟨U, 0, none⟩ (.int .i64 c) = X5 := ⟨_, rfl⟩
            rw [hX5] at HKx HUx
            have t0 : X5.cell? ⟨U, 0, none⟩ = some (.int .i64 c) := cell_at HUx.out 0
            have t1 : X5.cell? ⟨U, 1, none⟩ = some (.int .i64 m) := cell_at HUx.out 1
            have z0 := HKx.out.c0
            have z1 := HKx.out.c1
            have f0 := HKx.out.f 0
            have f1 := HKx.out.f 1
            go_wp2_with fail
            refine key_end2 rfl HKx.out HZl.out rfl rfl fun X hX => ⟨?_, hX⟩
            rw [HNn.out]
            rfl
end Go.Proofs.YtbonnjilbocldaaGreatDoor
