/-
  The walk of TailBytes.
-/
import Derived.Test.YteeakldeimhjjaaTBytesP
import Derived.Test.YteeakldeimhjjaaTPiecesW
import Derived.Test.YteeakldeimhjjaaTPlayP
import Derived.WalkKit
import Derived.Deep.LoopGhost
namespace Go.Proofs.Yteeakldeimhjjaa
open Go.RowKit Go.Lib
set_option linter.unusedVariables false
set_option maxRecDepth 100000

set_option maxHeartbeats 20000000 in
theorem tailBytes_walk (lim : Int) (sv : Value) (ops : List OpD) (w : World) (hl : In64 lim) (hops : OpsArg w sv ops) (hok : ∀ o ∈ ops, o.Ok) (hbulk : bulkT ops ≤ 1048576) :
    Calls Try.prog 3 #[.int .i64 lim, sv] w fun x w' => x = .returned (.bool true) ∧ Below w.heap.size w w' := by
  have HNew : Hid (∀ W, Calls Try.prog 9 #[.int .i64 lim] W fun x w' => Made W w' lim 0 [] x) := fun W => new_any lim W hl.1 hl.2
  have HWorks : Hid (∀ W, Calls Try.prog 10 #[] W fun x w' => x = .returned (.bool true) ∧ Below W.heap.size W w') := works_any
  obtain ⟨ao, n, cp, rfl, hn, hlen, hcell⟩ : ∃ ao n cp, sv = .slice ao n cp ∧ ops.length = n ∧ n ≤ 9223372036854775807 ∧ (0 < n → ∃ sb so, ao = some ⟨sb, so, none⟩ ∧ ∀ W, Below w.heap.size w W → ∀ k (hk : k < ops.length), W.cell? ⟨sb, so + k * 4, none⟩ = some (.int .i64 ops[k].k) ∧ W.cell? ⟨sb, so + k * 4 + 1, none⟩ = some (.string ops[k].t) ∧ W.cell? ⟨sb, so + k * 4 + 2, none⟩ = some (.int .i64 ops[k].a) ∧ W.cell? ⟨sb, so + k * 4 + 3, none⟩ = some (.int .i64 ops[k].b)) := by
    rcases hops with ⟨a, c, rfl, rfl⟩ | ⟨sb, so, cap, rfl, hb, hl, hc⟩
    · exact ⟨a, 0, c, rfl, rfl, by decide, fun h => absurd h (Nat.lt_irrefl _)⟩
    · exact ⟨_, _, _, rfl, rfl, hl, fun _ => ⟨sb, so, rfl, fun W hW k hk => OpsArg.at hc hb hW hk⟩⟩
  have HC : Hid (0 < n → ∃ sb so, ao = some ⟨sb, so, none⟩ ∧ ∀ W, Below w.heap.size w W → ∀ k (hk : k < ops.length), W.cell? ⟨sb, so + k * 4, none⟩ = some (.int .i64 ops[k].k) ∧ W.cell? ⟨sb, so + k * 4 + 1, none⟩ = some (.string ops[k].t) ∧ W.cell? ⟨sb, so + k * 4 + 2, none⟩ = some (.int .i64 ops[k].a) ∧ W.cell? ⟨sb, so + k * 4 + 3, none⟩ = some (.int .i64 ops[k].b)) := hcell
  have HN : Hid (ops.length = n) := hn
  have HOK : Hid (∀ o ∈ ops, o.Ok) := hok
  have HBK : Hid (bulkT ops ≤ 1048576) := hbulk
  have hcase := loadE_zero lim
  obtain ⟨E, hE⟩ : ∃ E, loadE lim 0 0 = E := ⟨_, rfl⟩
  rw [hE] at hcase
  have HE : Hid (loadE lim 0 ([] : List UInt8).length = E) := hE
  clear hcell hn hops hok hE hbulk
  go_enter Try.func3, Try.ntmps3
  go_wp2_with fail
  refine (HNew.out _).mono ?_
  rintro x w1 ⟨hb1, hm1⟩
  rcases hcase with ⟨rfl, hl1, hl2⟩ | ⟨rfl, hl3⟩
  · obtain ⟨b, v0, rfl, hlog1, hf1⟩ : ∃ b v, x = .returned (.tuple #[.pointer (some ⟨b, 0, none⟩), .int .i64 0]) ∧ LogAt w1 b v lim.toNat 0 [] ∧ ∀ k ∈ foot b v, w.heap.size ≤ k := by
      rcases hm1 with ⟨h, hx⟩ | ⟨h, b, v, hx, hl, hf⟩
      · exact absurd HE.out h
      · exact ⟨b, v, hx, hl, hf⟩
    obtain ⟨m, rfl⟩ : ∃ m : Nat, lim = (m : Int) := ⟨lim.toNat, by omega⟩
    have HW1 : Hid (Whole w w1 b v0 m ⟨#[]⟩) := ⟨by
      show LogAt w1 b v0 m 0 (lastN m [])
      rw [lastN_nil]
      exact hlog1, hb1, hf1⟩
    clear hm1 hb1 hlog1 hf1
    go_wp2_with fail
    refine (HWorks.out _).mono ?_
    rintro x w2 ⟨rfl, hb2⟩
    have HW2 : Hid (Whole w w2 b v0 m ⟨#[]⟩) := HW1.out.more hb2
    clear hb2 HW1
    go_wp2_with fail
    go_loopg [7, 8] n (fun gh s7 s8 wx => ∃ (k : Nat) (v : Value) (A : ByteArray), k ≤ n ∧ n - k = gh ∧ s8 = .int .i64 (k : Int) ∧ s7 = .string A ∧ Hid (A.size + bulkT (ops.drop k) ≤ 1048576) ∧ Hid (Whole w wx b v m A))
    case atStart => exact ⟨0, v0, ⟨#[]⟩, Nat.zero_le _, rfl, rfl, rfl, by have := HBK.out; show 0 + bulkT ops ≤ _; omega, HW2⟩
    case round =>
      obtain ⟨k, v, A, hk, rfl, rfl, rfl, hbk0, hg⟩ := hrel
      by_cases hkn : k < n
      · obtain ⟨sb, so, rfl, hcell⟩ := HC.out (by omega)
        have hko : k < ops.length := by rw [HN.out]; exact hkn
        obtain ⟨o, ho⟩ : ∃ o, ops[k] = o := ⟨_, rfl⟩
        have hc := hcell wr hg.out.below k hko
        have hbk := hbk0.out
        rw [bulkT_drop ops k hko, ho] at hbk
        rw [ho] at hc
        have hoo : o.Ok := by rw [← ho]; exact HOK.out _ (List.getElem_mem _)
        obtain ⟨kk, t, a, bb⟩ := o
        obtain ⟨o0, o1, o2, o3⟩ := hc
        have hki : (k : Int) < (n : Int) := by omega
        have hsz : A.size ≤ 1048576 := by omega
        have htz : t.size ≤ 1048576 := by show t.size ≤ _; have : (OpD.mk kk t a bb).t.size = t.size := rfl; omega
        replace hbk : A.size + (t.size + bulkT (ops.drop (k + 1))) ≤ 1048576 := hbk
        clear hcell ho HC hbk0
        by_cases hk0 : kk = 0
        · subst hk0
          by_cases hbig : (m : Int) < (A.size : Int) + (t.size : Int)
          · have HA : Hid (Calls Try.prog 11 #[.pointer (some ⟨b, 0, none⟩), .string t] (wr.alloc (.cells #[.int .i64 0, .string t, .int .i64 a, .int .i64 bb] 29)) fun x w' => x = .returned (.int .i64 0) ∧ ∃ v', Whole w w' b v' m (A ++ t) ∧ w'.heap[wr.heap.size]? = some (.cells #[.int .i64 0, .string t, .int .i64 a, .int .i64 bb] 29 (0, 0))) := by
              have hW := hg.out.more (w' := (wr.alloc (.cells #[.int .i64 0, .string t, .int .i64 a, .int .i64 bb] 29))) ((Below.refl _ _).alloc (Nat.le_refl _) _)
              refine (append_fits hW.log (by omega)).mono ?_
              rintro x w' ⟨rfl, hgr⟩
              obtain ⟨v', h1, h2, h3⟩ := hgr
              obtain ⟨v2, hv2⟩ := hW.told ⟨v', h1, h2, h3⟩
              refine ⟨rfl, v2, hv2, (h2.block _ (by simp) (fun hm => ?_)).trans (heap_alloc_new wr _)⟩
              have := hg.out.log.lt _ hm
              omega
            have hAs : (A ++ t).size = A.size + t.size := cat_size A t
            obtain ⟨F, hF⟩ : ∃ F, (A ++ t).size - m = F := ⟨_, rfl⟩
            have HRd : Hid (∀ W v, Whole w W b v m (A ++ t) → Calls Try.prog 12 #[.pointer (some ⟨b, 0, none⟩), .int .i64 (F : Int), .int .i64 (m : Int)] W fun x w' => x = .returned (.tuple #[.string ((A ++ t).extract F (A.size + t.size)), .int .i64 ((A.size : Int) + (t.size : Int)), .int .i64 0]) ∧ ∃ q, w' = W.drewN q) := by
              intro W v hW
              have h := read_any hW.log (hW.sum hF.symm) (F : Int) (m : Int) (by omega) (by omega) (by omega) (by omega)
              rw [read_all m (A ++ t) hF.symm (by omega), hAs] at h
              exact h
            have d0 : (A.size : Int) + (t.size : Int) ≤ 9223372036854775807 := by omega
            have d1 : (m : Int) < (A.size : Int) + (t.size : Int) := by omega
            have d2 : (A.size : Int) + (t.size : Int) - (m : Int) = (F : Int) := by omega
            have d3 : (F : Int) ≤ (A.size : Int) + (t.size : Int) := by omega
            have HNB : Hid ((A ++ t).size + bulkT (ops.drop (k + 1)) ≤ 1048576) := by show _ ≤ _; omega
            clear hF hAs hsz hbk
            go_wp2_with fail
            refine HA.out.mono ?_
            rintro x w2 ⟨rfl, v2, hw2, ho2⟩
            have HW2 : Hid (Whole w w2 b v2 m (A ++ t)) := hw2
            have p0 : w2.cell? ⟨wr.heap.size, 0, none⟩ = some (.int .i64 0) := cell_atT ho2 0
            have p1 : w2.cell? ⟨wr.heap.size, 1, none⟩ = some (.string t) := cell_atT ho2 1
            clear hw2 ho2 HA
            go_wp2_with fail
            refine (HRd.out _ _ HW2.out).mono ?_
            rintro x w3 ⟨rfl, q, rfl⟩
            have HW3 : Hid (Whole w (w2.drewN q) b v2 m (A ++ t)) := HW2.out.more (below_drewN w2 q)
            clear HRd
            go_wp2
            all_goals (
              go_roundg (n - (k + 1))
              case measure => omega
              case rel => exact ⟨k + 1, v2, A ++ t, by omega, rfl, by first | rfl | go_num, rfl, HNB, HW3⟩)
          · have HA : Hid (Calls Try.prog 11 #[.pointer (some ⟨b, 0, none⟩), .string t] (wr.alloc (.cells #[.int .i64 0, .string t, .int .i64 a, .int .i64 bb] 29)) fun x w' => x = .returned (.int .i64 0) ∧ ∃ v', Whole w w' b v' m (A ++ t) ∧ w'.heap[wr.heap.size]? = some (.cells #[.int .i64 0, .string t, .int .i64 a, .int .i64 bb] 29 (0, 0))) := by
              have hW := hg.out.more (w' := (wr.alloc (.cells #[.int .i64 0, .string t, .int .i64 a, .int .i64 bb] 29))) ((Below.refl _ _).alloc (Nat.le_refl _) _)
              refine (append_fits hW.log (by omega)).mono ?_
              rintro x w' ⟨rfl, hgr⟩
              obtain ⟨v', h1, h2, h3⟩ := hgr
              obtain ⟨v2, hv2⟩ := hW.told ⟨v', h1, h2, h3⟩
              refine ⟨rfl, v2, hv2, (h2.block _ (by simp) (fun hm => ?_)).trans (heap_alloc_new wr _)⟩
              have := hg.out.log.lt _ hm
              omega
            have hAs : (A ++ t).size = A.size + t.size := cat_size A t
            obtain ⟨F, hF⟩ : ∃ F, (A ++ t).size - m = F := ⟨_, rfl⟩
            have HRd : Hid (∀ W v, Whole w W b v m (A ++ t) → Calls Try.prog 12 #[.pointer (some ⟨b, 0, none⟩), .int .i64 0, .int .i64 (m : Int)] W fun x w' => x = .returned (.tuple #[.string (A ++ t), .int .i64 ((A.size : Int) + (t.size : Int)), .int .i64 0]) ∧ ∃ q, w' = W.drewN q) := by
              intro W v hW
              have h := read_any hW.log (hW.sum hF.symm) (F : Int) (m : Int) (by omega) (by omega) (by omega) (by omega)
              rw [read_all m (A ++ t) hF.symm (by omega), hAs] at h
              have hF0 : F = 0 := by omega
              have hall : (A ++ t).extract 0 (A.size + t.size) = A ++ t := by
                rw [← hAs]
                apply ByteArray.ext
                apply Array.toList_inj.1
                rw [ext_drop]
                rfl
              rw [hF0, hall] at h
              exact h
            have d0 : (A.size : Int) + (t.size : Int) ≤ 9223372036854775807 := by omega
            have d1 : ¬ ((m : Int) < (A.size : Int) + (t.size : Int)) := by omega
            have hall := cat_all A t
            have HNB : Hid ((A ++ t).size + bulkT (ops.drop (k + 1)) ≤ 1048576) := by show _ ≤ _; omega
            clear hF hAs hsz hbk
            go_wp2_with fail
            refine HA.out.mono ?_
            rintro x w2 ⟨rfl, v2, hw2, ho2⟩
            have HW2 : Hid (Whole w w2 b v2 m (A ++ t)) := hw2
            have p0 : w2.cell? ⟨wr.heap.size, 0, none⟩ = some (.int .i64 0) := cell_atT ho2 0
            have p1 : w2.cell? ⟨wr.heap.size, 1, none⟩ = some (.string t) := cell_atT ho2 1
            clear hw2 ho2 HA
            go_wp2_with fail
            refine (HRd.out _ _ HW2.out).mono ?_
            rintro x w3 ⟨rfl, q, rfl⟩
            have HW3 : Hid (Whole w (w2.drewN q) b v2 m (A ++ t)) := HW2.out.more (below_drewN w2 q)
            clear HRd
            go_wp2
            all_goals (
              go_roundg (n - (k + 1))
              case measure => omega
              case rel => exact ⟨k + 1, v2, A ++ t, by omega, rfl, by first | rfl | go_num, rfl, HNB, HW3⟩)
        by_cases hk1 : kk = 1
        · subst hk1
          by_cases ha : a < 0
          · by_cases hbig : (m : Int) < (A.size : Int)
            · obtain ⟨F, hF⟩ : ∃ F, A.size - m = F := ⟨_, rfl⟩
              have hW := hg.out.more (w' := (wr.alloc (.cells #[.int .i64 1, .string t, .int .i64 a, .int .i64 bb] 29))) ((Below.refl _ _).alloc (Nat.le_refl _) _)
              have HW1 : Hid (Whole w (wr.alloc (.cells #[.int .i64 1, .string t, .int .i64 a, .int .i64 bb] 29)) b v m A) := hW
              have HRd : Hid (∀ W v, Whole w W b v m A → Calls Try.prog 12 #[.pointer (some ⟨b, 0, none⟩), .int .i64 (F : Int), .int .i64 (m : Int)] W fun x w' => x = .returned (.tuple #[.string (A.extract F A.size), .int .i64 (A.size : Int), .int .i64 0]) ∧ ∃ q, w' = W.drewN q) := by
                intro W v hW
                have h := read_any hW.log (hW.sum hF.symm) (F : Int) (m : Int) (by omega) (by omega) (by omega) (by omega)
                rw [read_all m A hF.symm (by omega)] at h
                exact h
              have d0 : (A.size : Int) ≤ 9223372036854775807 := by omega
              have d1 : (m : Int) < (A.size : Int) := by omega
              have d2 : (A.size : Int) - (m : Int) = (F : Int) := by omega
              have d3 : (F : Int) ≤ (A.size : Int) := by omega
              have HNB : Hid (A.size + bulkT (ops.drop (k + 1)) ≤ 1048576) := by show _ ≤ _; omega
              have hsm := hg.out.sum hF.symm
              have HR2 : Hid (∀ W v, Whole w W b v m A → Calls Try.prog 12 #[.pointer (some ⟨b, 0, none⟩), .int .i64 a, .int .i64 bb] W fun x w' => x = .returned (.tuple #[.string ⟨#[]⟩, .int .i64 0, .int .i64 1]) ∧ ∃ q, w' = W.drewN q) := by
                intro W v hW
                have h := read_any hW.log (hW.sum hF.symm) a bb hoo.a.1 hoo.a.2 hoo.b.1 hoo.b.2
                rw [readV_arg (by omega)] at h
                exact h
              clear hF hsz hbk hW hsm hoo
              go_wp2_with fail
              refine (HRd.out _ _ HW1.out).mono ?_
              rintro x w3 ⟨rfl, q, rfl⟩
              have HW3 : Hid (Whole w ((wr.alloc (.cells #[.int .i64 1, .string t, .int .i64 a, .int .i64 bb] 29)).drewN q) b v m A) := HW1.out.more (below_drewN _ q)
              clear HRd
              go_wp2_with fail
              refine (HR2.out _ _ HW3.out).mono ?_
              rintro x w4 ⟨rfl, q2, rfl⟩
              have HW4 := HW3.out.more (below_drewN _ q2)
              have HW5 : Hid (Whole w (((wr.alloc (.cells #[.int .i64 1, .string t, .int .i64 a, .int .i64 bb] 29)).drewN q).drewN q2) b v m A) := HW4
              clear HR2 HW4
              go_wp2
              all_goals (
                go_roundg (n - (k + 1))
                case measure => omega
                case rel => exact ⟨k + 1, v, A, by omega, rfl, by first | rfl | go_num, rfl, HNB, (by have := HW5.out; rw [World.drewN_drewN] at this; exact this)⟩)
            · obtain ⟨F, hF⟩ : ∃ F, A.size - m = F := ⟨_, rfl⟩
              have hW := hg.out.more (w' := (wr.alloc (.cells #[.int .i64 1, .string t, .int .i64 a, .int .i64 bb] 29))) ((Below.refl _ _).alloc (Nat.le_refl _) _)
              have HW1 : Hid (Whole w (wr.alloc (.cells #[.int .i64 1, .string t, .int .i64 a, .int .i64 bb] 29)) b v m A) := hW
              have HRd : Hid (∀ W v, Whole w W b v m A → Calls Try.prog 12 #[.pointer (some ⟨b, 0, none⟩), .int .i64 0, .int .i64 (m : Int)] W fun x w' => x = .returned (.tuple #[.string A, .int .i64 (A.size : Int), .int .i64 0]) ∧ ∃ q, w' = W.drewN q) := by
                intro W v hW
                have h := read_any hW.log (hW.sum hF.symm) (F : Int) (m : Int) (by omega) (by omega) (by omega) (by omega)
                rw [read_all m A hF.symm (by omega)] at h
                have hF0 : F = 0 := by omega
                have hall : A.extract 0 A.size = A := by
                  apply ByteArray.ext
                  apply Array.toList_inj.1
                  rw [ext_drop]
                  rfl
                rw [hF0, hall] at h
                exact h
              have d0 : (A.size : Int) ≤ 9223372036854775807 := by omega
              have d1 : ¬ ((m : Int) < (A.size : Int)) := by omega
              have hF0 : F = 0 := by omega
              have HNB : Hid (A.size + bulkT (ops.drop (k + 1)) ≤ 1048576) := by show _ ≤ _; omega
              have hsm := hg.out.sum hF.symm
              have HR2 : Hid (∀ W v, Whole w W b v m A → Calls Try.prog 12 #[.pointer (some ⟨b, 0, none⟩), .int .i64 a, .int .i64 bb] W fun x w' => x = .returned (.tuple #[.string ⟨#[]⟩, .int .i64 0, .int .i64 1]) ∧ ∃ q, w' = W.drewN q) := by
                intro W v hW
                have h := read_any hW.log (hW.sum hF.symm) a bb hoo.a.1 hoo.a.2 hoo.b.1 hoo.b.2
                rw [readV_arg (by omega)] at h
                exact h
              clear hF hsz hbk hW hsm hoo
              clear hF0
              go_wp2_with fail
              refine (HRd.out _ _ HW1.out).mono ?_
              rintro x w3 ⟨rfl, q, rfl⟩
              have HW3 : Hid (Whole w ((wr.alloc (.cells #[.int .i64 1, .string t, .int .i64 a, .int .i64 bb] 29)).drewN q) b v m A) := HW1.out.more (below_drewN _ q)
              clear HRd
              go_wp2_with fail
              refine (HR2.out _ _ HW3.out).mono ?_
              rintro x w4 ⟨rfl, q2, rfl⟩
              have HW4 := HW3.out.more (below_drewN _ q2)
              have HW5 : Hid (Whole w (((wr.alloc (.cells #[.int .i64 1, .string t, .int .i64 a, .int .i64 bb] 29)).drewN q).drewN q2) b v m A) := HW4
              clear HR2 HW4
              go_wp2
              all_goals (
                go_roundg (n - (k + 1))
                case measure => omega
                case rel => exact ⟨k + 1, v, A, by omega, rfl, by first | rfl | go_num, rfl, HNB, (by have := HW5.out; rw [World.drewN_drewN] at this; exact this)⟩)
          by_cases hb : bb < 0
          · by_cases hbig : (m : Int) < (A.size : Int)
            · obtain ⟨F, hF⟩ : ∃ F, A.size - m = F := ⟨_, rfl⟩
              have hW := hg.out.more (w' := (wr.alloc (.cells #[.int .i64 1, .string t, .int .i64 a, .int .i64 bb] 29))) ((Below.refl _ _).alloc (Nat.le_refl _) _)
              have HW1 : Hid (Whole w (wr.alloc (.cells #[.int .i64 1, .string t, .int .i64 a, .int .i64 bb] 29)) b v m A) := hW
              have HRd : Hid (∀ W v, Whole w W b v m A → Calls Try.prog 12 #[.pointer (some ⟨b, 0, none⟩), .int .i64 (F : Int), .int .i64 (m : Int)] W fun x w' => x = .returned (.tuple #[.string (A.extract F A.size), .int .i64 (A.size : Int), .int .i64 0]) ∧ ∃ q, w' = W.drewN q) := by
                intro W v hW
                have h := read_any hW.log (hW.sum hF.symm) (F : Int) (m : Int) (by omega) (by omega) (by omega) (by omega)
                rw [read_all m A hF.symm (by omega)] at h
                exact h
              have d0 : (A.size : Int) ≤ 9223372036854775807 := by omega
              have d1 : (m : Int) < (A.size : Int) := by omega
              have d2 : (A.size : Int) - (m : Int) = (F : Int) := by omega
              have d3 : (F : Int) ≤ (A.size : Int) := by omega
              have HNB : Hid (A.size + bulkT (ops.drop (k + 1)) ≤ 1048576) := by show _ ≤ _; omega
              have hsm := hg.out.sum hF.symm
              have HR2 : Hid (∀ W v, Whole w W b v m A → Calls Try.prog 12 #[.pointer (some ⟨b, 0, none⟩), .int .i64 a, .int .i64 bb] W fun x w' => x = .returned (.tuple #[.string ⟨#[]⟩, .int .i64 0, .int .i64 1]) ∧ ∃ q, w' = W.drewN q) := by
                intro W v hW
                have h := read_any hW.log (hW.sum hF.symm) a bb hoo.a.1 hoo.a.2 hoo.b.1 hoo.b.2
                rw [readV_arg (by omega)] at h
                exact h
              clear hF hsz hbk hW hsm hoo
              go_wp2_with fail
              refine (HRd.out _ _ HW1.out).mono ?_
              rintro x w3 ⟨rfl, q, rfl⟩
              have HW3 : Hid (Whole w ((wr.alloc (.cells #[.int .i64 1, .string t, .int .i64 a, .int .i64 bb] 29)).drewN q) b v m A) := HW1.out.more (below_drewN _ q)
              clear HRd
              go_wp2_with fail
              refine (HR2.out _ _ HW3.out).mono ?_
              rintro x w4 ⟨rfl, q2, rfl⟩
              have HW4 := HW3.out.more (below_drewN _ q2)
              have HW5 : Hid (Whole w (((wr.alloc (.cells #[.int .i64 1, .string t, .int .i64 a, .int .i64 bb] 29)).drewN q).drewN q2) b v m A) := HW4
              clear HR2 HW4
              go_wp2
              all_goals (
                go_roundg (n - (k + 1))
                case measure => omega
                case rel => exact ⟨k + 1, v, A, by omega, rfl, by first | rfl | go_num, rfl, HNB, (by have := HW5.out; rw [World.drewN_drewN] at this; exact this)⟩)
            · obtain ⟨F, hF⟩ : ∃ F, A.size - m = F := ⟨_, rfl⟩
              have hW := hg.out.more (w' := (wr.alloc (.cells #[.int .i64 1, .string t, .int .i64 a, .int .i64 bb] 29))) ((Below.refl _ _).alloc (Nat.le_refl _) _)
              have HW1 : Hid (Whole w (wr.alloc (.cells #[.int .i64 1, .string t, .int .i64 a, .int .i64 bb] 29)) b v m A) := hW
              have HRd : Hid (∀ W v, Whole w W b v m A → Calls Try.prog 12 #[.pointer (some ⟨b, 0, none⟩), .int .i64 0, .int .i64 (m : Int)] W fun x w' => x = .returned (.tuple #[.string A, .int .i64 (A.size : Int), .int .i64 0]) ∧ ∃ q, w' = W.drewN q) := by
                intro W v hW
                have h := read_any hW.log (hW.sum hF.symm) (F : Int) (m : Int) (by omega) (by omega) (by omega) (by omega)
                rw [read_all m A hF.symm (by omega)] at h
                have hF0 : F = 0 := by omega
                have hall : A.extract 0 A.size = A := by
                  apply ByteArray.ext
                  apply Array.toList_inj.1
                  rw [ext_drop]
                  rfl
                rw [hF0, hall] at h
                exact h
              have d0 : (A.size : Int) ≤ 9223372036854775807 := by omega
              have d1 : ¬ ((m : Int) < (A.size : Int)) := by omega
              have hF0 : F = 0 := by omega
              have HNB : Hid (A.size + bulkT (ops.drop (k + 1)) ≤ 1048576) := by show _ ≤ _; omega
              have hsm := hg.out.sum hF.symm
              have HR2 : Hid (∀ W v, Whole w W b v m A → Calls Try.prog 12 #[.pointer (some ⟨b, 0, none⟩), .int .i64 a, .int .i64 bb] W fun x w' => x = .returned (.tuple #[.string ⟨#[]⟩, .int .i64 0, .int .i64 1]) ∧ ∃ q, w' = W.drewN q) := by
                intro W v hW
                have h := read_any hW.log (hW.sum hF.symm) a bb hoo.a.1 hoo.a.2 hoo.b.1 hoo.b.2
                rw [readV_arg (by omega)] at h
                exact h
              clear hF hsz hbk hW hsm hoo
              clear hF0
              go_wp2_with fail
              refine (HRd.out _ _ HW1.out).mono ?_
              rintro x w3 ⟨rfl, q, rfl⟩
              have HW3 : Hid (Whole w ((wr.alloc (.cells #[.int .i64 1, .string t, .int .i64 a, .int .i64 bb] 29)).drewN q) b v m A) := HW1.out.more (below_drewN _ q)
              clear HRd
              go_wp2_with fail
              refine (HR2.out _ _ HW3.out).mono ?_
              rintro x w4 ⟨rfl, q2, rfl⟩
              have HW4 := HW3.out.more (below_drewN _ q2)
              have HW5 : Hid (Whole w (((wr.alloc (.cells #[.int .i64 1, .string t, .int .i64 a, .int .i64 bb] 29)).drewN q).drewN q2) b v m A) := HW4
              clear HR2 HW4
              go_wp2
              all_goals (
                go_roundg (n - (k + 1))
                case measure => omega
                case rel => exact ⟨k + 1, v, A, by omega, rfl, by first | rfl | go_num, rfl, HNB, (by have := HW5.out; rw [World.drewN_drewN] at this; exact this)⟩)
          by_cases hgone : a < ((A.size - m : Nat) : Int)
          · have hbig : (m : Int) < (A.size : Int) := by omega
            obtain ⟨F, hF⟩ : ∃ F, A.size - m = F := ⟨_, rfl⟩
            have hW := hg.out.more (w' := (wr.alloc (.cells #[.int .i64 1, .string t, .int .i64 a, .int .i64 bb] 29))) ((Below.refl _ _).alloc (Nat.le_refl _) _)
            have HW1 : Hid (Whole w (wr.alloc (.cells #[.int .i64 1, .string t, .int .i64 a, .int .i64 bb] 29)) b v m A) := hW
            have HRd : Hid (∀ W v, Whole w W b v m A → Calls Try.prog 12 #[.pointer (some ⟨b, 0, none⟩), .int .i64 (F : Int), .int .i64 (m : Int)] W fun x w' => x = .returned (.tuple #[.string (A.extract F A.size), .int .i64 (A.size : Int), .int .i64 0]) ∧ ∃ q, w' = W.drewN q) := by
              intro W v hW
              have h := read_any hW.log (hW.sum hF.symm) (F : Int) (m : Int) (by omega) (by omega) (by omega) (by omega)
              rw [read_all m A hF.symm (by omega)] at h
              exact h
            have d0 : (A.size : Int) ≤ 9223372036854775807 := by omega
            have d1 : (m : Int) < (A.size : Int) := by omega
            have d2 : (A.size : Int) - (m : Int) = (F : Int) := by omega
            have d4 : a < (F : Int) := by omega
            have d3 : (F : Int) ≤ (A.size : Int) := by omega
            have HNB : Hid (A.size + bulkT (ops.drop (k + 1)) ≤ 1048576) := by show _ ≤ _; omega
            have hsm := hg.out.sum hF.symm
            have HR2 : Hid (∀ W v, Whole w W b v m A → Calls Try.prog 12 #[.pointer (some ⟨b, 0, none⟩), .int .i64 a, .int .i64 bb] W fun x w' => x = .returned (.tuple #[.string ⟨#[]⟩, .int .i64 0, .int .i64 60]) ∧ ∃ q, w' = W.drewN q) := by
              intro W v hW
              have h := read_any hW.log (hW.sum hF.symm) a bb hoo.a.1 hoo.a.2 hoo.b.1 hoo.b.2
              rw [readV_gone (by omega) (by omega)] at h
              exact h
            clear hF hsz hbk hW hsm hoo
            go_wp2_with fail
            refine (HRd.out _ _ HW1.out).mono ?_
            rintro x w3 ⟨rfl, q, rfl⟩
            have HW3 : Hid (Whole w ((wr.alloc (.cells #[.int .i64 1, .string t, .int .i64 a, .int .i64 bb] 29)).drewN q) b v m A) := HW1.out.more (below_drewN _ q)
            clear HRd
            go_wp2_with fail
            refine (HR2.out _ _ HW3.out).mono ?_
            rintro x w4 ⟨rfl, q2, rfl⟩
            have HW4 := HW3.out.more (below_drewN _ q2)
            have HW5 : Hid (Whole w (((wr.alloc (.cells #[.int .i64 1, .string t, .int .i64 a, .int .i64 bb] 29)).drewN q).drewN q2) b v m A) := HW4
            clear HR2 HW4
            go_wp2
            all_goals (
              go_roundg (n - (k + 1))
              case measure => omega
              case rel => exact ⟨k + 1, v, A, by omega, rfl, by first | rfl | go_num, rfl, HNB, (by have := HW5.out; rw [World.drewN_drewN] at this; exact this)⟩)
          by_cases hahead : a > (A.size : Int)
          · by_cases hbig : (m : Int) < (A.size : Int)
            · obtain ⟨F, hF⟩ : ∃ F, A.size - m = F := ⟨_, rfl⟩
              have hW := hg.out.more (w' := (wr.alloc (.cells #[.int .i64 1, .string t, .int .i64 a, .int .i64 bb] 29))) ((Below.refl _ _).alloc (Nat.le_refl _) _)
              have HW1 : Hid (Whole w (wr.alloc (.cells #[.int .i64 1, .string t, .int .i64 a, .int .i64 bb] 29)) b v m A) := hW
              have HRd : Hid (∀ W v, Whole w W b v m A → Calls Try.prog 12 #[.pointer (some ⟨b, 0, none⟩), .int .i64 (F : Int), .int .i64 (m : Int)] W fun x w' => x = .returned (.tuple #[.string (A.extract F A.size), .int .i64 (A.size : Int), .int .i64 0]) ∧ ∃ q, w' = W.drewN q) := by
                intro W v hW
                have h := read_any hW.log (hW.sum hF.symm) (F : Int) (m : Int) (by omega) (by omega) (by omega) (by omega)
                rw [read_all m A hF.symm (by omega)] at h
                exact h
              have d0 : (A.size : Int) ≤ 9223372036854775807 := by omega
              have d1 : (m : Int) < (A.size : Int) := by omega
              have d2 : (A.size : Int) - (m : Int) = (F : Int) := by omega
              have d3 : (F : Int) ≤ (A.size : Int) := by omega
              have HNB : Hid (A.size + bulkT (ops.drop (k + 1)) ≤ 1048576) := by show _ ≤ _; omega
              have hsm := hg.out.sum hF.symm
              have HR2 : Hid (∀ W v, Whole w W b v m A → Calls Try.prog 12 #[.pointer (some ⟨b, 0, none⟩), .int .i64 a, .int .i64 bb] W fun x w' => x = .returned (.tuple #[.string ⟨#[]⟩, .int .i64 0, .int .i64 61]) ∧ ∃ q, w' = W.drewN q) := by
                intro W v hW
                have h := read_any hW.log (hW.sum hF.symm) a bb hoo.a.1 hoo.a.2 hoo.b.1 hoo.b.2
                rw [readV_ahead (by omega) (by omega) (by omega)] at h
                exact h
              clear hF hsz hbk hW hsm hoo
              go_wp2_with fail
              refine (HRd.out _ _ HW1.out).mono ?_
              rintro x w3 ⟨rfl, q, rfl⟩
              have HW3 : Hid (Whole w ((wr.alloc (.cells #[.int .i64 1, .string t, .int .i64 a, .int .i64 bb] 29)).drewN q) b v m A) := HW1.out.more (below_drewN _ q)
              clear HRd
              go_wp2_with fail
              refine (HR2.out _ _ HW3.out).mono ?_
              rintro x w4 ⟨rfl, q2, rfl⟩
              have HW4 := HW3.out.more (below_drewN _ q2)
              have HW5 : Hid (Whole w (((wr.alloc (.cells #[.int .i64 1, .string t, .int .i64 a, .int .i64 bb] 29)).drewN q).drewN q2) b v m A) := HW4
              clear HR2 HW4
              go_wp2
              all_goals (
                go_roundg (n - (k + 1))
                case measure => omega
                case rel => exact ⟨k + 1, v, A, by omega, rfl, by first | rfl | go_num, rfl, HNB, (by have := HW5.out; rw [World.drewN_drewN] at this; exact this)⟩)
            · obtain ⟨F, hF⟩ : ∃ F, A.size - m = F := ⟨_, rfl⟩
              have hW := hg.out.more (w' := (wr.alloc (.cells #[.int .i64 1, .string t, .int .i64 a, .int .i64 bb] 29))) ((Below.refl _ _).alloc (Nat.le_refl _) _)
              have HW1 : Hid (Whole w (wr.alloc (.cells #[.int .i64 1, .string t, .int .i64 a, .int .i64 bb] 29)) b v m A) := hW
              have HRd : Hid (∀ W v, Whole w W b v m A → Calls Try.prog 12 #[.pointer (some ⟨b, 0, none⟩), .int .i64 0, .int .i64 (m : Int)] W fun x w' => x = .returned (.tuple #[.string A, .int .i64 (A.size : Int), .int .i64 0]) ∧ ∃ q, w' = W.drewN q) := by
                intro W v hW
                have h := read_any hW.log (hW.sum hF.symm) (F : Int) (m : Int) (by omega) (by omega) (by omega) (by omega)
                rw [read_all m A hF.symm (by omega)] at h
                have hF0 : F = 0 := by omega
                have hall : A.extract 0 A.size = A := by
                  apply ByteArray.ext
                  apply Array.toList_inj.1
                  rw [ext_drop]
                  rfl
                rw [hF0, hall] at h
                exact h
              have d0 : (A.size : Int) ≤ 9223372036854775807 := by omega
              have d1 : ¬ ((m : Int) < (A.size : Int)) := by omega
              have hF0 : F = 0 := by omega
              have HNB : Hid (A.size + bulkT (ops.drop (k + 1)) ≤ 1048576) := by show _ ≤ _; omega
              have hsm := hg.out.sum hF.symm
              have HR2 : Hid (∀ W v, Whole w W b v m A → Calls Try.prog 12 #[.pointer (some ⟨b, 0, none⟩), .int .i64 a, .int .i64 bb] W fun x w' => x = .returned (.tuple #[.string ⟨#[]⟩, .int .i64 0, .int .i64 61]) ∧ ∃ q, w' = W.drewN q) := by
                intro W v hW
                have h := read_any hW.log (hW.sum hF.symm) a bb hoo.a.1 hoo.a.2 hoo.b.1 hoo.b.2
                rw [readV_ahead (by omega) (by omega) (by omega)] at h
                exact h
              clear hF hsz hbk hW hsm hoo
              clear hF0
              go_wp2_with fail
              refine (HRd.out _ _ HW1.out).mono ?_
              rintro x w3 ⟨rfl, q, rfl⟩
              have HW3 : Hid (Whole w ((wr.alloc (.cells #[.int .i64 1, .string t, .int .i64 a, .int .i64 bb] 29)).drewN q) b v m A) := HW1.out.more (below_drewN _ q)
              clear HRd
              go_wp2_with fail
              refine (HR2.out _ _ HW3.out).mono ?_
              rintro x w4 ⟨rfl, q2, rfl⟩
              have HW4 := HW3.out.more (below_drewN _ q2)
              have HW5 : Hid (Whole w (((wr.alloc (.cells #[.int .i64 1, .string t, .int .i64 a, .int .i64 bb] 29)).drewN q).drewN q2) b v m A) := HW4
              clear HR2 HW4
              go_wp2
              all_goals (
                go_roundg (n - (k + 1))
                case measure => omega
                case rel => exact ⟨k + 1, v, A, by omega, rfl, by first | rfl | go_num, rfl, HNB, (by have := HW5.out; rw [World.drewN_drewN] at this; exact this)⟩)
          by_cases hmin : (A.size : Int) - a < bb
          · by_cases hbig : (m : Int) < (A.size : Int)
            · obtain ⟨F, hF⟩ : ∃ F, A.size - m = F := ⟨_, rfl⟩
              have hW := hg.out.more (w' := (wr.alloc (.cells #[.int .i64 1, .string t, .int .i64 a, .int .i64 bb] 29))) ((Below.refl _ _).alloc (Nat.le_refl _) _)
              have HW1 : Hid (Whole w (wr.alloc (.cells #[.int .i64 1, .string t, .int .i64 a, .int .i64 bb] 29)) b v m A) := hW
              have HRd : Hid (∀ W v, Whole w W b v m A → Calls Try.prog 12 #[.pointer (some ⟨b, 0, none⟩), .int .i64 (F : Int), .int .i64 (m : Int)] W fun x w' => x = .returned (.tuple #[.string (A.extract F A.size), .int .i64 (A.size : Int), .int .i64 0]) ∧ ∃ q, w' = W.drewN q) := by
                intro W v hW
                have h := read_any hW.log (hW.sum hF.symm) (F : Int) (m : Int) (by omega) (by omega) (by omega) (by omega)
                rw [read_all m A hF.symm (by omega)] at h
                exact h
              have d0 : (A.size : Int) ≤ 9223372036854775807 := by omega
              have d1 : (m : Int) < (A.size : Int) := by omega
              have d2 : (A.size : Int) - (m : Int) = (F : Int) := by omega
              have d3 : (F : Int) ≤ (A.size : Int) := by omega
              have HNB : Hid (A.size + bulkT (ops.drop (k + 1)) ≤ 1048576) := by show _ ≤ _; omega
              have hsm := hg.out.sum hF.symm
              obtain ⟨a, rfl⟩ : ∃ q : Nat, a = (q : Int) := ⟨a.toNat, by omega⟩
              obtain ⟨bb, rfl⟩ : ∃ q : Nat, bb = (q : Int) := ⟨bb.toNat, by omega⟩
              obtain ⟨K, hK⟩ : ∃ K, K = min bb (A.size - a) := ⟨_, rfl⟩
              have HR2 : Hid (∀ W v, Whole w W b v m A → Calls Try.prog 12 #[.pointer (some ⟨b, 0, none⟩), .int .i64 (a : Int), .int .i64 (bb : Int)] W fun x w' => x = .returned (.tuple #[.string (A.extract a (a + K)), .int .i64 ((a : Int) + (K : Int)), .int .i64 0]) ∧ ∃ q, w' = W.drewN q) := by
                intro W v hW
                have h := read_any hW.log (hW.sum hF.symm) (a : Int) (bb : Int) hoo.a.1 hoo.a.2 hoo.b.1 hoo.b.2
                rw [read_some m A hF.symm (by omega) (by omega) hK] at h
                exact h
              have g1 : (A.size : Int) - (a : Int) < (bb : Int) := by omega
              have g2 : (A.size : Int) - (a : Int) = (K : Int) := by omega
              have g3 : (a : Int) + (K : Int) ≤ (A.size : Int) := by omega
              have hsl := slice_two A a K (by omega)
              have g4 : ¬ ((A.size : Int) < (a : Int)) := by omega
              have g5 : ¬ ((a : Int) < (F : Int)) := by omega
              clear hF hsz hbk hW hsm hoo hK
              go_wp2_with fail
              refine (HRd.out _ _ HW1.out).mono ?_
              rintro x w3 ⟨rfl, q, rfl⟩
              have HW3 : Hid (Whole w ((wr.alloc (.cells #[.int .i64 1, .string t, .int .i64 (a : Int), .int .i64 (bb : Int)] 29)).drewN q) b v m A) := HW1.out.more (below_drewN _ q)
              clear HRd
              go_wp2_with fail
              refine (HR2.out _ _ HW3.out).mono ?_
              rintro x w4 ⟨rfl, q2, rfl⟩
              have HW4 := HW3.out.more (below_drewN _ q2)
              have HW5 : Hid (Whole w (((wr.alloc (.cells #[.int .i64 1, .string t, .int .i64 (a : Int), .int .i64 (bb : Int)] 29)).drewN q).drewN q2) b v m A) := HW4
              clear HR2 HW4
              go_wp2
              all_goals (
                go_roundg (n - (k + 1))
                case measure => omega
                case rel => exact ⟨k + 1, v, A, by omega, rfl, by first | rfl | go_num, rfl, HNB, (by have := HW5.out; rw [World.drewN_drewN] at this; exact this)⟩)
            · obtain ⟨F, hF⟩ : ∃ F, A.size - m = F := ⟨_, rfl⟩
              have hW := hg.out.more (w' := (wr.alloc (.cells #[.int .i64 1, .string t, .int .i64 a, .int .i64 bb] 29))) ((Below.refl _ _).alloc (Nat.le_refl _) _)
              have HW1 : Hid (Whole w (wr.alloc (.cells #[.int .i64 1, .string t, .int .i64 a, .int .i64 bb] 29)) b v m A) := hW
              have HRd : Hid (∀ W v, Whole w W b v m A → Calls Try.prog 12 #[.pointer (some ⟨b, 0, none⟩), .int .i64 0, .int .i64 (m : Int)] W fun x w' => x = .returned (.tuple #[.string A, .int .i64 (A.size : Int), .int .i64 0]) ∧ ∃ q, w' = W.drewN q) := by
                intro W v hW
                have h := read_any hW.log (hW.sum hF.symm) (F : Int) (m : Int) (by omega) (by omega) (by omega) (by omega)
                rw [read_all m A hF.symm (by omega)] at h
                have hF0 : F = 0 := by omega
                have hall : A.extract 0 A.size = A := by
                  apply ByteArray.ext
                  apply Array.toList_inj.1
                  rw [ext_drop]
                  rfl
                rw [hF0, hall] at h
                exact h
              have d0 : (A.size : Int) ≤ 9223372036854775807 := by omega
              have d1 : ¬ ((m : Int) < (A.size : Int)) := by omega
              have hF0 : F = 0 := by omega
              have HNB : Hid (A.size + bulkT (ops.drop (k + 1)) ≤ 1048576) := by show _ ≤ _; omega
              have hsm := hg.out.sum hF.symm
              obtain ⟨a, rfl⟩ : ∃ q : Nat, a = (q : Int) := ⟨a.toNat, by omega⟩
              obtain ⟨bb, rfl⟩ : ∃ q : Nat, bb = (q : Int) := ⟨bb.toNat, by omega⟩
              obtain ⟨K, hK⟩ : ∃ K, K = min bb (A.size - a) := ⟨_, rfl⟩
              have HR2 : Hid (∀ W v, Whole w W b v m A → Calls Try.prog 12 #[.pointer (some ⟨b, 0, none⟩), .int .i64 (a : Int), .int .i64 (bb : Int)] W fun x w' => x = .returned (.tuple #[.string (A.extract a (a + K)), .int .i64 ((a : Int) + (K : Int)), .int .i64 0]) ∧ ∃ q, w' = W.drewN q) := by
                intro W v hW
                have h := read_any hW.log (hW.sum hF.symm) (a : Int) (bb : Int) hoo.a.1 hoo.a.2 hoo.b.1 hoo.b.2
                rw [read_some m A hF.symm (by omega) (by omega) hK] at h
                exact h
              have g1 : (A.size : Int) - (a : Int) < (bb : Int) := by omega
              have g2 : (A.size : Int) - (a : Int) = (K : Int) := by omega
              have g3 : (a : Int) + (K : Int) ≤ (A.size : Int) := by omega
              have hsl := slice_two A a K (by omega)
              have g4 : ¬ ((A.size : Int) < (a : Int)) := by omega
              have g5 : (0 : Int) ≤ (a : Int) := by omega
              clear hF hsz hbk hW hsm hoo hK
              clear hF0
              go_wp2_with fail
              refine (HRd.out _ _ HW1.out).mono ?_
              rintro x w3 ⟨rfl, q, rfl⟩
              have HW3 : Hid (Whole w ((wr.alloc (.cells #[.int .i64 1, .string t, .int .i64 (a : Int), .int .i64 (bb : Int)] 29)).drewN q) b v m A) := HW1.out.more (below_drewN _ q)
              clear HRd
              go_wp2_with fail
              refine (HR2.out _ _ HW3.out).mono ?_
              rintro x w4 ⟨rfl, q2, rfl⟩
              have HW4 := HW3.out.more (below_drewN _ q2)
              have HW5 : Hid (Whole w (((wr.alloc (.cells #[.int .i64 1, .string t, .int .i64 (a : Int), .int .i64 (bb : Int)] 29)).drewN q).drewN q2) b v m A) := HW4
              clear HR2 HW4
              go_wp2
              all_goals (
                go_roundg (n - (k + 1))
                case measure => omega
                case rel => exact ⟨k + 1, v, A, by omega, rfl, by first | rfl | go_num, rfl, HNB, (by have := HW5.out; rw [World.drewN_drewN] at this; exact this)⟩)
          · by_cases hbig : (m : Int) < (A.size : Int)
            · obtain ⟨F, hF⟩ : ∃ F, A.size - m = F := ⟨_, rfl⟩
              have hW := hg.out.more (w' := (wr.alloc (.cells #[.int .i64 1, .string t, .int .i64 a, .int .i64 bb] 29))) ((Below.refl _ _).alloc (Nat.le_refl _) _)
              have HW1 : Hid (Whole w (wr.alloc (.cells #[.int .i64 1, .string t, .int .i64 a, .int .i64 bb] 29)) b v m A) := hW
              have HRd : Hid (∀ W v, Whole w W b v m A → Calls Try.prog 12 #[.pointer (some ⟨b, 0, none⟩), .int .i64 (F : Int), .int .i64 (m : Int)] W fun x w' => x = .returned (.tuple #[.string (A.extract F A.size), .int .i64 (A.size : Int), .int .i64 0]) ∧ ∃ q, w' = W.drewN q) := by
                intro W v hW
                have h := read_any hW.log (hW.sum hF.symm) (F : Int) (m : Int) (by omega) (by omega) (by omega) (by omega)
                rw [read_all m A hF.symm (by omega)] at h
                exact h
              have d0 : (A.size : Int) ≤ 9223372036854775807 := by omega
              have d1 : (m : Int) < (A.size : Int) := by omega
              have d2 : (A.size : Int) - (m : Int) = (F : Int) := by omega
              have d3 : (F : Int) ≤ (A.size : Int) := by omega
              have HNB : Hid (A.size + bulkT (ops.drop (k + 1)) ≤ 1048576) := by show _ ≤ _; omega
              have hsm := hg.out.sum hF.symm
              obtain ⟨a, rfl⟩ : ∃ q : Nat, a = (q : Int) := ⟨a.toNat, by omega⟩
              obtain ⟨bb, rfl⟩ : ∃ q : Nat, bb = (q : Int) := ⟨bb.toNat, by omega⟩
              obtain ⟨K, hK⟩ : ∃ K, K = min bb (A.size - a) := ⟨_, rfl⟩
              have HR2 : Hid (∀ W v, Whole w W b v m A → Calls Try.prog 12 #[.pointer (some ⟨b, 0, none⟩), .int .i64 (a : Int), .int .i64 (bb : Int)] W fun x w' => x = .returned (.tuple #[.string (A.extract a (a + K)), .int .i64 ((a : Int) + (K : Int)), .int .i64 0]) ∧ ∃ q, w' = W.drewN q) := by
                intro W v hW
                have h := read_any hW.log (hW.sum hF.symm) (a : Int) (bb : Int) hoo.a.1 hoo.a.2 hoo.b.1 hoo.b.2
                rw [read_some m A hF.symm (by omega) (by omega) hK] at h
                exact h
              have g1 : ¬ ((A.size : Int) - (a : Int) < (bb : Int)) := by omega
              have g2b : bb = K := by omega
              subst g2b
              have g3 : (a : Int) + (bb : Int) ≤ (A.size : Int) := by omega
              have hsl := slice_two A a bb (by omega)
              have g4 : ¬ ((A.size : Int) < (a : Int)) := by omega
              have g5 : ¬ ((a : Int) < (F : Int)) := by omega
              clear hF hsz hbk hW hsm hoo hK
              go_wp2_with fail
              refine (HRd.out _ _ HW1.out).mono ?_
              rintro x w3 ⟨rfl, q, rfl⟩
              have HW3 : Hid (Whole w ((wr.alloc (.cells #[.int .i64 1, .string t, .int .i64 (a : Int), .int .i64 (bb : Int)] 29)).drewN q) b v m A) := HW1.out.more (below_drewN _ q)
              clear HRd
              go_wp2_with fail
              refine (HR2.out _ _ HW3.out).mono ?_
              rintro x w4 ⟨rfl, q2, rfl⟩
              have HW4 := HW3.out.more (below_drewN _ q2)
              have HW5 : Hid (Whole w (((wr.alloc (.cells #[.int .i64 1, .string t, .int .i64 (a : Int), .int .i64 (bb : Int)] 29)).drewN q).drewN q2) b v m A) := HW4
              clear HR2 HW4
              go_wp2
              all_goals (
                go_roundg (n - (k + 1))
                case measure => omega
                case rel => exact ⟨k + 1, v, A, by omega, rfl, by first | rfl | go_num, rfl, HNB, (by have := HW5.out; rw [World.drewN_drewN] at this; exact this)⟩)
            · obtain ⟨F, hF⟩ : ∃ F, A.size - m = F := ⟨_, rfl⟩
              have hW := hg.out.more (w' := (wr.alloc (.cells #[.int .i64 1, .string t, .int .i64 a, .int .i64 bb] 29))) ((Below.refl _ _).alloc (Nat.le_refl _) _)
              have HW1 : Hid (Whole w (wr.alloc (.cells #[.int .i64 1, .string t, .int .i64 a, .int .i64 bb] 29)) b v m A) := hW
              have HRd : Hid (∀ W v, Whole w W b v m A → Calls Try.prog 12 #[.pointer (some ⟨b, 0, none⟩), .int .i64 0, .int .i64 (m : Int)] W fun x w' => x = .returned (.tuple #[.string A, .int .i64 (A.size : Int), .int .i64 0]) ∧ ∃ q, w' = W.drewN q) := by
                intro W v hW
                have h := read_any hW.log (hW.sum hF.symm) (F : Int) (m : Int) (by omega) (by omega) (by omega) (by omega)
                rw [read_all m A hF.symm (by omega)] at h
                have hF0 : F = 0 := by omega
                have hall : A.extract 0 A.size = A := by
                  apply ByteArray.ext
                  apply Array.toList_inj.1
                  rw [ext_drop]
                  rfl
                rw [hF0, hall] at h
                exact h
              have d0 : (A.size : Int) ≤ 9223372036854775807 := by omega
              have d1 : ¬ ((m : Int) < (A.size : Int)) := by omega
              have hF0 : F = 0 := by omega
              have HNB : Hid (A.size + bulkT (ops.drop (k + 1)) ≤ 1048576) := by show _ ≤ _; omega
              have hsm := hg.out.sum hF.symm
              obtain ⟨a, rfl⟩ : ∃ q : Nat, a = (q : Int) := ⟨a.toNat, by omega⟩
              obtain ⟨bb, rfl⟩ : ∃ q : Nat, bb = (q : Int) := ⟨bb.toNat, by omega⟩
              obtain ⟨K, hK⟩ : ∃ K, K = min bb (A.size - a) := ⟨_, rfl⟩
              have HR2 : Hid (∀ W v, Whole w W b v m A → Calls Try.prog 12 #[.pointer (some ⟨b, 0, none⟩), .int .i64 (a : Int), .int .i64 (bb : Int)] W fun x w' => x = .returned (.tuple #[.string (A.extract a (a + K)), .int .i64 ((a : Int) + (K : Int)), .int .i64 0]) ∧ ∃ q, w' = W.drewN q) := by
                intro W v hW
                have h := read_any hW.log (hW.sum hF.symm) (a : Int) (bb : Int) hoo.a.1 hoo.a.2 hoo.b.1 hoo.b.2
                rw [read_some m A hF.symm (by omega) (by omega) hK] at h
                exact h
              have g1 : ¬ ((A.size : Int) - (a : Int) < (bb : Int)) := by omega
              have g2b : bb = K := by omega
              subst g2b
              have g3 : (a : Int) + (bb : Int) ≤ (A.size : Int) := by omega
              have hsl := slice_two A a bb (by omega)
              have g4 : ¬ ((A.size : Int) < (a : Int)) := by omega
              have g5 : (0 : Int) ≤ (a : Int) := by omega
              clear hF hsz hbk hW hsm hoo hK
              clear hF0
              go_wp2_with fail
              refine (HRd.out _ _ HW1.out).mono ?_
              rintro x w3 ⟨rfl, q, rfl⟩
              have HW3 : Hid (Whole w ((wr.alloc (.cells #[.int .i64 1, .string t, .int .i64 (a : Int), .int .i64 (bb : Int)] 29)).drewN q) b v m A) := HW1.out.more (below_drewN _ q)
              clear HRd
              go_wp2_with fail
              refine (HR2.out _ _ HW3.out).mono ?_
              rintro x w4 ⟨rfl, q2, rfl⟩
              have HW4 := HW3.out.more (below_drewN _ q2)
              have HW5 : Hid (Whole w (((wr.alloc (.cells #[.int .i64 1, .string t, .int .i64 (a : Int), .int .i64 (bb : Int)] 29)).drewN q).drewN q2) b v m A) := HW4
              clear HR2 HW4
              go_wp2
              all_goals (
                go_roundg (n - (k + 1))
                case measure => omega
                case rel => exact ⟨k + 1, v, A, by omega, rfl, by first | rfl | go_num, rfl, HNB, (by have := HW5.out; rw [World.drewN_drewN] at this; exact this)⟩)
        by_cases hbig : (m : Int) < (A.size : Int)
        · obtain ⟨F, hF⟩ : ∃ F, A.size - m = F := ⟨_, rfl⟩
          have hW := hg.out.more (w' := (wr.alloc (.cells #[.int .i64 kk, .string t, .int .i64 a, .int .i64 bb] 29))) ((Below.refl _ _).alloc (Nat.le_refl _) _)
          have HW1 : Hid (Whole w (wr.alloc (.cells #[.int .i64 kk, .string t, .int .i64 a, .int .i64 bb] 29)) b v m A) := hW
          have HRd : Hid (∀ W v, Whole w W b v m A → Calls Try.prog 12 #[.pointer (some ⟨b, 0, none⟩), .int .i64 (F : Int), .int .i64 (m : Int)] W fun x w' => x = .returned (.tuple #[.string (A.extract F A.size), .int .i64 (A.size : Int), .int .i64 0]) ∧ ∃ q, w' = W.drewN q) := by
            intro W v hW
            have h := read_any hW.log (hW.sum hF.symm) (F : Int) (m : Int) (by omega) (by omega) (by omega) (by omega)
            rw [read_all m A hF.symm (by omega)] at h
            exact h
          have d0 : (A.size : Int) ≤ 9223372036854775807 := by omega
          have d1 : (m : Int) < (A.size : Int) := by omega
          have d2 : (A.size : Int) - (m : Int) = (F : Int) := by omega
          have d3 : (F : Int) ≤ (A.size : Int) := by omega
          have HNB : Hid (A.size + bulkT (ops.drop (k + 1)) ≤ 1048576) := by show _ ≤ _; omega
          clear hF hsz hbk hW
          go_wp2_with fail
          refine (HRd.out _ _ HW1.out).mono ?_
          rintro x w3 ⟨rfl, q, rfl⟩
          have HW3 : Hid (Whole w ((wr.alloc (.cells #[.int .i64 kk, .string t, .int .i64 a, .int .i64 bb] 29)).drewN q) b v m A) := HW1.out.more (below_drewN _ q)
          clear HRd
          go_wp2
          all_goals (
            go_roundg (n - (k + 1))
            case measure => omega
            case rel => exact ⟨k + 1, v, A, by omega, rfl, by first | rfl | go_num, rfl, HNB, HW3⟩)
        · obtain ⟨F, hF⟩ : ∃ F, A.size - m = F := ⟨_, rfl⟩
          have hW := hg.out.more (w' := (wr.alloc (.cells #[.int .i64 kk, .string t, .int .i64 a, .int .i64 bb] 29))) ((Below.refl _ _).alloc (Nat.le_refl _) _)
          have HW1 : Hid (Whole w (wr.alloc (.cells #[.int .i64 kk, .string t, .int .i64 a, .int .i64 bb] 29)) b v m A) := hW
          have HRd : Hid (∀ W v, Whole w W b v m A → Calls Try.prog 12 #[.pointer (some ⟨b, 0, none⟩), .int .i64 0, .int .i64 (m : Int)] W fun x w' => x = .returned (.tuple #[.string A, .int .i64 (A.size : Int), .int .i64 0]) ∧ ∃ q, w' = W.drewN q) := by
            intro W v hW
            have h := read_any hW.log (hW.sum hF.symm) (F : Int) (m : Int) (by omega) (by omega) (by omega) (by omega)
            rw [read_all m A hF.symm (by omega)] at h
            have hF0 : F = 0 := by omega
            have hall : A.extract 0 A.size = A := by
              apply ByteArray.ext
              apply Array.toList_inj.1
              rw [ext_drop]
              rfl
            rw [hF0, hall] at h
            exact h
          have d0 : (A.size : Int) ≤ 9223372036854775807 := by omega
          have d1 : ¬ ((m : Int) < (A.size : Int)) := by omega
          have hF0 : F = 0 := by omega
          have HNB : Hid (A.size + bulkT (ops.drop (k + 1)) ≤ 1048576) := by show _ ≤ _; omega
          clear hF hsz hbk hW
          clear hF0
          go_wp2_with fail
          refine (HRd.out _ _ HW1.out).mono ?_
          rintro x w3 ⟨rfl, q, rfl⟩
          have HW3 : Hid (Whole w ((wr.alloc (.cells #[.int .i64 kk, .string t, .int .i64 a, .int .i64 bb] 29)).drewN q) b v m A) := HW1.out.more (below_drewN _ q)
          clear HRd
          go_wp2
          all_goals (
            go_roundg (n - (k + 1))
            case measure => omega
            case rel => exact ⟨k + 1, v, A, by omega, rfl, by first | rfl | go_num, rfl, HNB, HW3⟩)
      · obtain rfl : k = n := by omega
        have HB : Hid (Below w.heap.size w wr) := hg.out.below
        clear hg HC hbk0
        go_wp2
        all_goals go_ret
        all_goals exact ⟨rfl, HB.out⟩
  · obtain rfl : x = .returned (.tuple #[.pointer none, .int .i64 1]) := by
      rcases hm1 with ⟨h, hx⟩ | ⟨h, _⟩
      · rw [HE.out] at hx
        exact hx
      · rw [HE.out] at h
        cases h
    have HB1 : Hid (Below w.heap.size w w1) := hb1
    clear hm1 hb1
    go_wp2_with fail
    refine (HWorks.out _).mono ?_
    rintro x w2 ⟨rfl, hb2⟩
    have HB2 : Hid (Below w.heap.size w w2) := HB1.out.trans (hb2.mono HB1.out.size)
    clear hb2
    by_cases hs : lim < 1
    · clear hl3
      go_wp2
      all_goals go_ret
      all_goals exact ⟨rfl, HB2.out⟩
    · have hs2 : lim > 65536 := by omega
      clear hl3
      go_wp2
      all_goals go_ret
      all_goals exact ⟨rfl, HB2.out⟩

end Go.Proofs.Yteeakldeimhjjaa
