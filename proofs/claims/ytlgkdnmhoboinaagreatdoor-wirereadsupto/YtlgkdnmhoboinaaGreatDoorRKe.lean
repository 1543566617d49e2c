/-
  The document's keeps.
-/
import Derived.Test.YtlgkdnmhoboinaaGreatDoorRPure
import Derived.Test.YtlgkdnmhoboinaaGreatDoorWRowD
import Derived.WalkKit
import Derived.LoopTactic
namespace Go.Proofs.YtlgkdnmhoboinaaGreatDoor
open Go.RowKit
set_option linter.unusedVariables false
set_option maxRecDepth 20000

theorem keepC_snoc : ∀ (cs : List Ch) (c : Ch) (e a : Ev), keepC (cs ++ [c]) e a = c.K e (keepC cs e a)
  | [], _, _, _ => rfl
  | d :: cs, c, e, a => keepC_snoc cs c e (d.K e a)
theorem take_more {α : Type} {l : List α} {i : Nat} {a : α} (h : l[i]? = some a) : l.take (i + 1) = l.take i ++ [a] := by
  rw [List.take_add_one, h]
  rfl
def partsOf (cs : List Ch) : ByteArray := str (cs.map Ch.byte)
theorem partsOf_size (cs : List Ch) : (partsOf cs).size = cs.length := by unfold partsOf; rw [str_size, List.length_map]
theorem index_part (cs : List Ch) (k : Nat) (c : Ch) (h : cs[k]? = some c) (W : World) : (Instr.index 9 (.string (partsOf cs)) (.int .i64 (k : Int))).run Tryz.prog W = .ok (.int .u8 (c.byte.toNat : Int)) W := by
  obtain ⟨hk, hc⟩ := List.getElem?_eq_some_iff.1 h
  rw [run_index_string W 9 _ .i64 _ Tryz.underlying9]
  have hs : k < (partsOf cs).size := by rw [partsOf_size]; exact hk
  rw [dif_pos (show 0 ≤ (k : Int) ∧ (k : Int) < (partsOf cs).size by omega)]
  have e : (k : Int).toNat = k := by omega
  have hv : (partsOf cs)[k] = c.byte := by
    have h1 : (partsOf cs).data.toList = cs.map Ch.byte := str_data _
    have h2 : (partsOf cs).data.toList[k]? = some c.byte := by rw [h1, List.getElem?_map, h]; rfl
    obtain ⟨h3, h4⟩ := List.getElem?_eq_some_iff.1 h2
    exact h4
  simp only [e, hv]

structure KeepAt (w wr : World) (ev k : Ev) : Prop where
  e : EvAt wr w.heap.size ev
  r : EvAt wr (w.heap.size + 1) (Ev.zero 0)
  k : EvAt wr (w.heap.size + 1 + 1) k
  b : Below w.heap.size w wr
theorem KeepAt.set {w wr : World} {ev k k' : Ev} (h : KeepAt w wr ev k) (o : Nat) (v : Value) (hv : k.vals.setIfInBounds o v = k'.vals) : KeepAt w (wr.setCell ⟨w.heap.size + 1 + 1, o, none⟩ v) ev k' :=
  ⟨h.e.grown (grownBy_setCell _ _ _ _) (by simp only [ne_eq, Option.some.injEq]; omega), h.r.grown (grownBy_setCell _ _ _ _) (by simp only [ne_eq, Option.some.injEq]; omega), h.k.set o v hv, h.b.setCell (show w.heap.size ≤ w.heap.size + 1 + 1 by omega) _⟩
theorem KeepAt.start (w : World) (ev : Ev) : KeepAt w (((w.alloc (.cells ev.vals 28)).alloc (.cells (Ev.zero 0).vals 28)).alloc (.cells (Ev.zero ev.kind).vals 28)) ev (Ev.zero ev.kind) := by
  have s1 : (w.alloc (.cells ev.vals 28)).heap.size = w.heap.size + 1 := by simp
  have s2 : ((w.alloc (.cells ev.vals 28)).alloc (.cells (Ev.zero 0).vals 28)).heap.size = w.heap.size + 1 + 1 := by simp
  refine ⟨((EvAt.new w ev).alloc _).alloc _, ?_, ?_, ?_⟩
  · rw [← s1]; exact (EvAt.new _ (Ev.zero 0)).alloc _
  · rw [← s2]; exact EvAt.new _ _
  · exact (((Below.refl _ _).alloc (Nat.le_refl _) _).alloc (by rw [s1]; omega) _).alloc (by rw [s2]; omega) _

set_option maxHeartbeats 4000000 in
theorem keeps_any (ev : Ev) (cs : List Ch) (hcs : ∀ c ∈ cs, c ≠ .qc) (hlen : cs.length ≤ 100) (w : World) :
    Calls Tryz.prog 48 #[.agg ev.vals, .string (partsOf cs)] w fun e w' => e = .returned (.agg (keepC cs ev (Ev.zero ev.kind)).vals) ∧ Below w.heap.size w w' := by
  have HK : Hid (KeepAt w (((w.alloc (.cells ev.vals 28)).alloc (.cells (Ev.zero 0).vals 28)).alloc (.cells (Ev.zero ev.kind).vals 28)) ev (Ev.zero ev.kind)) := KeepAt.start w ev
  have HC : Hid (∀ c ∈ cs, c ≠ .qc) := hcs
  have HI : Hid (∀ (k : Nat) (c : Ch), cs[k]? = some c → ∀ W : World, (Instr.index 9 (.string (partsOf cs)) (.int .i64 (k : Int))).run Tryz.prog W = .ok (.int .u8 (c.byte.toNat : Int)) W) := index_part cs
  have hsz := partsOf_size cs
  obtain ⟨S, hS⟩ : ∃ S, partsOf cs = S := ⟨_, rfl⟩
  rw [hS] at HI hsz ⊢
  obtain ⟨m, hm⟩ : ∃ m, cs.length = m := ⟨_, rfl⟩
  have HM : Hid (cs.length = m) := hm
  rw [hm] at hsz hlen
  obtain ⟨fin, hfin⟩ : ∃ x, keepC cs ev (Ev.zero ev.kind) = x := ⟨_, rfl⟩
  rw [hfin]
  have HF : Hid (keepC cs ev (Ev.zero ev.kind) = fin) := hfin
  clear hS hm hcs hfin
  unfold Ev.vals Ev.zero at HK
  unfold Ev.vals
  go_enter Tryz.func48, Tryz.ntmps48
  go_wp2
  go_loopw [6] (fun v wr => ∃ i : Nat, i ≤ m ∧ v = .int .i64 i ∧ KeepAt w wr ev (keepC (cs.take i) ev (Ev.zero ev.kind))) (fun v _ => m - (intOf v).toNat)
  case atStart => exact ⟨0, Nat.zero_le _, rfl, HK.out⟩
  case round =>
    obtain ⟨i, hi, rfl, hka⟩ := hrel
    have HA : Hid (KeepAt w wr ev (keepC (cs.take i) ev (Ev.zero ev.kind))) := hka
    clear hka HK
    by_cases hlt : i < m
    · obtain ⟨c, hc⟩ : ∃ c, cs[i]? = some c := ⟨_, List.getElem?_eq_getElem (by rw [HM.out]; exact hlt)⟩
      have HX := HI.out i c hc
      have hnc : c ≠ .qc := HC.out c (List.mem_of_getElem? hc)
      have HT : Hid (keepC (cs.take (i + 1)) ev (Ev.zero ev.kind) = c.K ev (keepC (cs.take i) ev (Ev.zero ev.kind))) := by
        show _ = _
        rw [take_more hc, keepC_snoc]
      obtain ⟨kk, hkk⟩ : ∃ kk, keepC (cs.take i) ev (Ev.zero ev.kind) = kk := ⟨_, rfl⟩
      rw [hkk] at HA HT
      obtain ⟨p0, p1, p2, p3, p4, p5, p6, p7, p8, p9, p10, p11, p12, p13⟩ := HA.out.e.cells
      obtain ⟨f0, f1, f2, f3, f4, f5, f6, f7, f8, f9, f10, f11, f12, f13⟩ := HA.out.k.frees
      obtain ⟨q0, q1, q2, q3, q4, q5, q6, q7, q8, q9, q10, q11, q12, q13⟩ := HA.out.k.cells
      clear HI HC hkk hc
      cases c with
      | qc => exact absurd rfl hnc
      | _ =>
        clear hnc
        dsimp only [Ch.byte] at HX
        go_wp2
        go_roundw
        case rel =>
          refine ⟨i + 1, by omega, by go_num, ?_⟩
          rw [HT.out]
          exact HA.out.set _ _ rfl
        case measure => simp [intOf]; omega
    · have he : cs.take i = cs := List.take_of_length_le (by rw [HM.out]; omega)
      rw [he, HF.out] at HA
      obtain ⟨q0, q1, q2, q3, q4, q5, q6, q7, q8, q9, q10, q11, q12, q13⟩ := HA.out.k.cells
      obtain ⟨r0, r1, r2, r3, r4, r5, r6, r7, r8, r9, r10, r11, r12, r13⟩ := HA.out.r.zcells
      obtain ⟨f0, f1, f2, f3, f4, f5, f6, f7, f8, f9, f10, f11, f12, f13⟩ := HA.out.r.frees
      clear HI HC he
      go_wp2
      refine bodyPost_ret (v := .agg #[.int .i64 fin.kind, .int .i64 fin.session, .int .i64 fin.window, .int .i64 fin.pane, .int .i64 fin.index, .int .i64 fin.offset, .int .i64 fin.tick, .int .i64 fin.number, .int .i64 fin.flag, .string fin.name, .string fin.text, .string fin.layout, .string fin.visible, .bool fin.zoom]) (by simp [results, Tryz.results48, go_sem, r0, r1, r2, r3, r4, r5, r6, r7, r8, r9, r10, r11, r12, r13]) rfl ?_
      exact ⟨rfl, below14 HA.out.b (by omega) _ _ _ _ _ _ _ _ _ _ _ _ _ _⟩

end Go.Proofs.YtlgkdnmhoboinaaGreatDoor
