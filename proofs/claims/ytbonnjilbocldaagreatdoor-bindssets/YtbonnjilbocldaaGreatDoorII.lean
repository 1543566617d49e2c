/-
  Keys: lists of keys.
  Keys: all keys that are no plain characters, by the document.
-/
import Derived.Test.YtbonnjilbocldaaGreatDoorHE
import Derived.Test.YtbonnjilbocldaaGreatDoorKRefU
namespace Go.Proofs.YtbonnjilbocldaaGreatDoor
open Go.RowKit
set_option linter.unusedVariables false
set_option maxRecDepth 100000

theorem addr_add (g o j : Nat) : (⟨g, o, none⟩ : Addr).add j = ⟨g, o + j, none⟩ := by unfold Addr.add; split <;> simp_all
def keyV (k : Int × Int) : List Value := [.int .i64 k.1, .int .i64 k.2]
/-- A list of keys that is one's own. -/
def KeysAt (w : World) (B : Nat) (v : Value) (ks : List (Int × Int)) : Prop := w.ownsRow B 23 2 v ks.length (ks.flatMap keyV)
theorem keys_flat (ks : List (Int × Int)) : (ks.flatMap keyV).length = ks.length * 2 := by
  induction ks with
  | nil => rfl
  | cons k r ih => rw [List.flatMap_cons, List.length_append, ih]; simp [keyV]; omega
theorem KeysAt.nil (w : World) (B : Nat) : KeysAt w B (.slice none 0 0) [] := World.ownsRow_nil w B _ _
theorem KeysAt.keep {w w' : World} {B : Nat} {v : Value} {ks : List (Int × Int)} (h : KeysAt w B v ks) (hk : ∀ g, v.ownBlock = some g → w'.heap[g]? = w.heap[g]?) : KeysAt w' B v ks := by
  refine ⟨h.1, ?_⟩
  rcases h.2 with h0 | ⟨g, cap, cur, rfl, hb, hg, r⟩
  · exact .inl h0
  · exact .inr ⟨g, cap, cur, rfl, hb, (hk g rfl).trans hg, r⟩
theorem KeysAt.blk {w : World} {B : Nat} {v : Value} {ks : List (Int × Int)} (h : KeysAt w B v ks) {g : Nat} (hg : v.ownBlock = some g) : B ≤ g ∧ ∃ cur, w.heap[g]? = some (.cells cur 23 (0, 0)) := by
  rcases h.2 with ⟨e, _⟩ | ⟨g', cap, cur, e, hb, hk, _⟩
  · rw [e] at hg; cases hg
  · rw [e] at hg; cases hg
    exact ⟨hb, cur, hk⟩
theorem KeysAt.below {w w' : World} {B : Nat} {v : Value} {ks : List (Int × Int)} (h : KeysAt w B v ks) (hb : Below w.heap.size w w') : KeysAt w' B v ks := h.keep fun g hg => by
  obtain ⟨_, cur, hk⟩ := h.blk hg
  exact hb.block g (lt_block hk)
theorem KeysAt.slice {w : World} {B : Nat} {v : Value} {ks : List (Int × Int)} (h : KeysAt w B v ks) : ∃ a c, v = .slice a ks.length c := by
  rcases h.2 with ⟨e, h0⟩ | ⟨g', cap, cur, e, hb, hk, _⟩
  · exact ⟨_, _, by rw [e, h0]⟩
  · exact ⟨_, _, e⟩
theorem infoKeyE : (Tryz.prog.info? 23).map (fun i => (i.zero, i.size, i.bytes)) = some (some (.agg #[.int .i64 0, .int .i64 0]), 2, 16) := by kernel_rfl
theorem underKeys : Tryz.prog.underlying 114 = some (.slice 23) := by kernel_rfl
/-- A key is appended. -/
theorem wpList_append_key (w : World) {ops : Array Oper} {rest : List Oper} {o : Oper} {a : Act} {Q : Exit → Act → World → Prop} (hgd : o.guard = none) (s x : Operand)
    (ho : o.op = .call { callee := .builtin .append, args := #[s, x], argTypes := #[114, 114] })
    (B : Nat) (v : Value) (ks : List (Int × Int)) (hs : a.eval s = v) (hown : KeysAt w B v ks) (G : Nat) (k : Int × Int) (hx : a.eval x = .slice (some ⟨G, 0, none⟩) 1 1) (hG : w.heap[G]? = some (.cells #[.int .i64 k.1, .int .i64 k.2] 23 (0, 0)))
    (hlen : ks.length ≤ 20000000) (hbase : B ≤ w.heap.size)
    (h : ∀ v' w', KeysAt w' B v' (ks ++ [k]) → w.grownBy w' v.ownBlock → wpList Tryz.prog ops Q rest (a.put o.dst v') w') : wpList Tryz.prog ops Q (o :: rest) a w := by
  obtain ⟨i0, hi, hz0, hz1, hz2⟩ := info_parts infoKeyE
  refine wpList_append_own w hgd s x 114 ho B 23 i0 (.agg #[.int .i64 0, .int .i64 0]) 2 16 underKeys hi hz0 hz1 hz2 rfl (by decide) v ks.length (ks.flatMap keyV) hs hown ⟨G, 0, none⟩ 1 1 (keyV k) hx rfl ?_ ?_ (by unfold maxLen; omega) (by omega) hbase ?_
  · intro j u hu
    rw [addr_add, Nat.zero_add, cell_at hG j]
    match j, hu with
    | 0, hu => exact hu
    | 1, hu => exact hu
    | j + 2, hu => simp [keyV] at hu
  · intro u hu
    simp only [keyV, List.mem_cons, List.not_mem_nil, or_false] at hu
    rcases hu with e | e <;> rw [e] <;> rfl
  · intro v' w' h2 h3 _
    refine h v' w' ?_ h3
    unfold KeysAt
    rw [List.length_append, List.flatMap_append]
    simpa using h2
/-- Keys that can be read. -/
def SeeK (w : World) (v : Value) (ks : List (Int × Int)) : Prop := ∃ ad c, v = .slice ad ks.length c ∧ (ks ≠ [] → ∃ g o, ad = some ⟨g, o, none⟩ ∧ ∀ j (hj : j < ks.length), w.cell? ⟨g, o + j * 2, none⟩ = some (.int .i64 ks[j].1) ∧ w.cell? ⟨g, o + j * 2 + 1, none⟩ = some (.int .i64 ks[j].2))
theorem SeeK.below {w w' : World} {v : Value} {ks : List (Int × Int)} (h : SeeK w v ks) (hb : Below w.heap.size w w') : SeeK w' v ks := by
  obtain ⟨ad, c, rfl, hc⟩ := h
  refine ⟨ad, c, rfl, fun hl => ?_⟩
  obtain ⟨g, o, rfl, hk⟩ := hc hl
  exact ⟨g, o, rfl, fun j hj => ⟨(hb.cell (World.block_lt_of_cell? w _ (hk j hj).1)).trans (hk j hj).1, (hb.cell (World.block_lt_of_cell? w _ (hk j hj).2)).trans (hk j hj).2⟩⟩
theorem flat_at : ∀ (ks : List (Int × Int)) (j : Nat) (hj : j < ks.length), (ks.flatMap keyV)[j * 2]? = some (.int .i64 ks[j].1) ∧ (ks.flatMap keyV)[j * 2 + 1]? = some (.int .i64 ks[j].2)
  | k :: r, 0, _ => ⟨rfl, rfl⟩
  | k :: r, j + 1, hj => by
    have h := flat_at r j (by simpa using hj)
    rw [show (j + 1) * 2 = j * 2 + 2 by omega, List.flatMap_cons]
    simp only [keyV, List.cons_append, List.nil_append, List.getElem?_cons_succ, List.getElem_cons_succ]
    exact h
theorem KeysAt.see {w : World} {B : Nat} {v : Value} {ks : List (Int × Int)} (h : KeysAt w B v ks) : SeeK w v ks := by
  rcases h.2 with ⟨e, h0⟩ | ⟨g, cap, cur, e, hb, hk, h1, h2, h3, h4⟩
  · have : ks = [] := List.length_eq_zero_iff.1 h0
    subst this
    exact ⟨_, _, e, fun h => absurd rfl h⟩
  · subst e
    refine ⟨_, _, rfl, fun _ => ⟨g, 0, rfl, fun j hj => ?_⟩⟩
    obtain ⟨f1, f2⟩ := flat_at ks j hj
    have g1 := World.ownsRow.cells h (g := g) rfl (j * 2) _ f1
    have g2 := World.ownsRow.cells h (g := g) rfl (j * 2 + 1) _ f2
    rw [addr_add] at g1 g2
    exact ⟨g1, g2⟩
theorem SeeK.lit {w : World} {g n : Nat} {T : TypeId} (ks : List (Int × Int)) (hg : w.heap[g]? = some (.cells (ks.flatMap keyV).toArray T (0, 0))) (hn : ks.length = n) (c : Nat) : SeeK w (.slice (some ⟨g, 0, none⟩) n c) ks := by
  subst hn
  refine ⟨_, _, rfl, fun _ => ⟨g, 0, rfl, fun j hj => ?_⟩⟩
  obtain ⟨f1, f2⟩ := flat_at ks j hj
  rw [cell_at hg, cell_at hg, Nat.zero_add]
  exact ⟨by simpa using f1, by simpa using f2⟩
end Go.Proofs.YtbonnjilbocldaaGreatDoor

namespace Go.Proofs.YtbonnjilbocldaaGreatDoor
open Go.RowKit
set_option linter.unusedVariables false
set_option maxRecDepth 100000

/-- Codes from a on, with modifiers m. -/
def runF (a m : Int) : Nat → List (Int × Int)
  | 0 => []
  | n + 1 => runF a m n ++ [(a + n, m)]
theorem run_len (a m : Int) : ∀ n, (runF a m n).length = n
  | 0 => rfl
  | n + 1 => by unfold runF; rw [List.length_append, run_len a m n]; rfl
def rowF (m : Int) : List (Int × Int) := runF 0 m 128 ++ runF 16777217 m 23
def allF : Nat → List (Int × Int)
  | 0 => []
  | n + 1 => allF n ++ rowF n
theorem row_len (m : Int) : (rowF m).length = 151 := by unfold rowF; rw [List.length_append, run_len, run_len]
theorem all_len : ∀ n, (allF n).length = n * 151
  | 0 => rfl
  | n + 1 => by unfold allF; rw [List.length_append, all_len n, row_len]; omega
/-- A list of one's own, made since w. -/
structure Al (w wr : World) (v : Value) (ks : List (Int × Int)) : Prop where
  below : Below w.heap.size w wr
  keys : KeysAt wr w.heap.size v ks
theorem Al.grow {w wr w2 : World} {v v' : Value} {ks : List (Int × Int)} {k : Int × Int} (h : Al w wr v ks) (o : Obj) (hk : KeysAt w2 w.heap.size v' (ks ++ [k])) (hg : (wr.alloc o).grownBy w2 v.ownBlock) : Al w w2 v' (ks ++ [k]) := by
  have hb := below_step h.below ((Below.refl _ _).alloc (Nat.le_refl _) o)
  exact ⟨hb.grown hg hb.size (fun q hq => (h.keys.blk hq).1), hk⟩
set_option maxHeartbeats 8000000 in
theorem rall_any (w : World) : Calls Tryz.prog 70 #[] w fun r w' => ∃ v, r = .returned v ∧ Al w w' v (allF 8) := by
  go_enter Tryz.func70, Tryz.ntmps70
  go_wp2_with fail
  go_loopw [2, 1] (fun mv lv wr => ∃ n : Nat, n ≤ 8 ∧ mv = .int .i64 n ∧ Hid (Al w wr lv (allF n))) (fun mv _ _ => 8 - (intOf mv).toNat)
  case atStart => exact ⟨0, Nat.zero_le _, rfl, ⟨Below.refl _ _, KeysAt.nil _ _⟩⟩
  case round =>
    obtain ⟨n, hn, rfl, HA⟩ := hrel
    by_cases hlt : n < 8
    · have i1 : (n : Int) ≤ 7 := by omega
      have HLa : Hid ((allF n).length ≤ 1208) := by show _ ≤ _; rw [all_len]; omega
      obtain ⟨a0, c0, rfl⟩ := HA.out.keys.slice
      go_wp2_with fail
      go_loopw [3, 1] (fun cv lv wr => ∃ k : Nat, k ≤ 128 ∧ cv = .int .i64 k ∧ Hid (Al w wr lv (allF n ++ runF 0 n k))) (fun cv _ _ => 128 - (intOf cv).toNat)
      case atStart => exact ⟨0, Nat.zero_le _, rfl, by rw [show runF 0 n 0 = [] from rfl, List.append_nil]; exact HA⟩
      case round =>
        obtain ⟨k, hk, rfl, HB⟩ := hrel
        have HLb : Hid ((allF n ++ runF 0 n k).length ≤ 4000) := by show _ ≤ _; rw [List.length_append, run_len]; have := HLa.out; omega
        obtain ⟨ks, hks⟩ : ∃ ks, allF n ++ runF 0 n k = ks := ⟨_, rfl⟩
        have HKs := hidK hks
        rw [hks] at HB HLb
        obtain ⟨a1, c1, rfl⟩ := HB.out.keys.slice
        obtain ⟨kn, hkn⟩ : ∃ kn, ks.length = kn := ⟨_, rfl⟩
        rw [hkn] at HB ⊢
        clear hks
        by_cases hkl : k < 128
        · have j1 : (k : Int) < 128 := by omega
          have HKe := hidK (HB.out.keys.below ((Below.refl _ _).alloc (Nat.le_refl _) (.cells #[.int .i64 (k : Int), .int .i64 (n : Int)] 23)))
          have HSz : Hid (w.heap.size ≤ (wr.alloc (.cells #[.int .i64 (k : Int), .int .i64 (n : Int)] 23)).heap.size) := by have := HB.out.below.size; show _ ≤ _; simp; omega
          go_wp2_with (at_builtin; refine wpList_append_key _ rfl (.tmp 13) (.tmp 17) rfl w.heap.size _ ks rfl HKe.out wr.heap.size ((k : Int), (n : Int)) rfl (heap_alloc_new wr _) ?x1 HSz.out ?_; (case x1 => have := HLb.out; omega); intro tv' w6 hk6 hg6; have HR : Hid (Al w w6 tv' (allF n ++ runF 0 n (k + 1))) := (by
            have h1 := HB.out.grow _ hk6 hg6
            have e : ks ++ [((k : Int), (n : Int))] = allF n ++ runF 0 n (k + 1) := by rw [← HKs.out]; unfold runF; rw [List.append_assoc, Int.zero_add]; cases k <;> rfl
            rw [e] at h1
            exact h1); clear hk6 hg6)
          go_roundw
          case rel => exact ⟨k + 1, by omega, by first | rfl | go_num, HR⟩
          case measure => simp [intOf]; omega
        · have HB2 : Hid (Al w wr (.slice a1 kn c1) (allF n ++ runF 0 n 128)) := by
            have e : k = 128 := by omega
            rw [← e, HKs.out]
            exact HB
          have j1 : ¬ (k : Int) < 128 := by omega
          obtain ⟨kz, hkz⟩ : ∃ kz : Int, (k : Int) = kz := ⟨_, rfl⟩
          rw [hkz] at j1 ⊢
          clear HB HKs HLb hkn hkz hk hkl
          go_wp2_with fail
          go_loopw [4, 1] (fun cv lv wr => ∃ k : Nat, k ≤ 23 ∧ cv = .int .i64 (16777217 + (k : Int)) ∧ Hid (Al w wr lv (allF n ++ runF 0 n 128 ++ runF 16777217 n k))) (fun cv _ _ => 23 - (intOf cv - 16777217).toNat)
          case atStart => exact ⟨0, Nat.zero_le _, rfl, by rw [show runF 16777217 n 0 = [] from rfl, List.append_nil]; exact HB2⟩
          case round =>
            obtain ⟨k, hk, rfl, HB⟩ := hrel
            have HLb : Hid ((allF n ++ runF 0 n 128 ++ runF 16777217 n k).length ≤ 4000) := by show _ ≤ _; rw [List.length_append, List.length_append, run_len, run_len]; have := HLa.out; omega
            obtain ⟨ks, hks⟩ : ∃ ks, allF n ++ runF 0 n 128 ++ runF 16777217 n k = ks := ⟨_, rfl⟩
            have HKs := hidK hks
            rw [hks] at HB HLb
            obtain ⟨a1, c1, rfl⟩ := HB.out.keys.slice
            obtain ⟨kn, hkn⟩ : ∃ kn, ks.length = kn := ⟨_, rfl⟩
            rw [hkn] at HB ⊢
            clear hks
            by_cases hkl : k < 23
            · have j1 : (16777217 : Int) + (k : Int) ≤ 16777239 := by omega
              have HKe := hidK (HB.out.keys.below ((Below.refl _ _).alloc (Nat.le_refl _) (.cells #[.int .i64 (16777217 + (k : Int)), .int .i64 (n : Int)] 23)))
              have HSz : Hid (w.heap.size ≤ (wr.alloc (.cells #[.int .i64 (16777217 + (k : Int)), .int .i64 (n : Int)] 23)).heap.size) := by have := HB.out.below.size; show _ ≤ _; simp; omega
              go_wp2_with (at_builtin; refine wpList_append_key _ rfl (.tmp 23) (.tmp 27) rfl w.heap.size _ ks rfl HKe.out wr.heap.size (16777217 + (k : Int), (n : Int)) rfl (heap_alloc_new wr _) ?x1 HSz.out ?_; (case x1 => have := HLb.out; omega); intro tv' w6 hk6 hg6; have HR : Hid (Al w w6 tv' (allF n ++ runF 0 n 128 ++ runF 16777217 n (k + 1))) := (by
                have h1 := HB.out.grow _ hk6 hg6
                have e : ks ++ [(16777217 + (k : Int), (n : Int))] = allF n ++ runF 0 n 128 ++ runF 16777217 n (k + 1) := by rw [← HKs.out]; rw [show runF 16777217 n (k + 1) = runF 16777217 n k ++ [(16777217 + (k : Int), (n : Int))] from rfl, List.append_assoc]
                rw [e] at h1
                exact h1); clear hk6 hg6)
              go_roundw
              case rel => exact ⟨k + 1, by omega, by first | go_num | (simp; omega), HR⟩
              case measure => simp [intOf]; omega
            · obtain rfl : k = 23 := by omega
              have HR : Hid (Al w wr (.slice a1 kn c1) (allF (n + 1))) := by
                show Al w wr _ (allF n ++ rowF n)
                unfold rowF
                rw [← List.append_assoc, HKs.out]
                exact HB.out
              go_wp2_with fail
              go_roundw
              case rel => exact ⟨n + 1, by omega, by first | rfl | go_num, HR⟩
              case measure => simp [intOf]; omega
    · obtain rfl : n = 8 := by omega
      go_wp2_with fail
      go_ret
      exact ⟨_, rfl, HA.out⟩
end Go.Proofs.YtbonnjilbocldaaGreatDoor
