/-
  Layouts: the document's has; one cell more.
-/
import Derived.Test.YtcjcekaahooamaaLSwap
namespace Go.Proofs.Ytcjcekaahooamaa
open Go.RowKit
set_option linter.unusedVariables false
set_option maxRecDepth 100000

theorem wpList_append_ce {ops : Array Oper} {rest : List Oper} {o : Oper} {a : Act} {Q : Exit → Act → World → Prop} (w : World) (hgd : o.guard = none) (s x : Operand)
    (ho : o.op = .call { callee := .builtin .append, args := #[s, x], argTypes := #[22, 22] })
    (B : Nat) (v : Value) (l : List CellV) (e : CellV) (hs : a.eval s = v) (hown : CeOwns w B v l) (hx : a.eval x = .slice (some ⟨w.heap.size, 0, none⟩) 1 1) (hlen : l.length ≤ 16777216) (hB : B ≤ w.heap.size)
    (h : ∀ v' w', CeOwns w' B v' (l ++ [e]) → (w.alloc (.cells e.vals 33)).grownBy w' v.ownBlock → wpList Try.prog ops Q rest (a.put o.dst v') w') : wpList Try.prog ops Q (o :: rest) a (w.alloc (.cells e.vals 33)) := by
  obtain ⟨i0, hi, hz0, hz1, hz2⟩ := info_partsL infoCe
  have hown' : (w.alloc (.cells e.vals 33)).ownsRow B 33 7 v l.length (ceCells l) := World.ownsRow.alloc hown _
  refine wpList_append_own _ hgd s x 22 ho B 33 i0 (.agg zeroCell.vals) 7 56 Try.underlying22 hi hz0 hz1 hz2 rfl (by decide) v l.length (ceCells l) hs hown' ⟨w.heap.size, 0, none⟩ 1 1 e.vals.toList hx rfl ?_ ?_ ?_ ?_ ?_ ?_
  · intro j u hu
    rw [show (⟨w.heap.size, 0, none⟩ : Addr).add j = ⟨w.heap.size, j, none⟩ by unfold Addr.add; split <;> simp_all, cell_newL]
    simpa using hu
  · intro u hu
    have hu' : u ∈ [Value.int .i64 e.depth, .int .i64 e.kind, .int .i64 e.x, .int .i64 e.y, .int .i64 e.w, .int .i64 e.h, .int .i64 e.p] := hu
    simp only [List.mem_cons, List.not_mem_nil, or_false] at hu'
    rcases hu' with rfl | rfl | rfl | rfl | rfl | rfl | rfl <;> rfl
  · unfold maxLen; omega
  · omega
  · have : (w.alloc (.cells e.vals 33)).heap.size = w.heap.size + 1 := by simp
    omega
  · intro v' w' h2 h3 _
    refine h v' w' ?_ h3
    unfold CeOwns ceCells
    rw [List.flatMap_append, List.length_append]
    simpa [ceCells] using h2

theorem CeOwns.grownO {w w' : World} {B : Nat} {v : Value} {l : List CellV} {o : Obj} (hg : (w.alloc o).grownBy w' v.ownBlock) (hv : CeOwns w B v l) (W : World) (hb : Below B W w) (hB : B ≤ w.heap.size) : Below B W w' := by
  have hlt := World.ownsRow.lt hv
  have h1 : Below B W (w.alloc o) := hb.alloc hB o
  refine ⟨hg.os.trans h1.os, hg.tape.trans h1.tape, hg.output.trans h1.output, Nat.le_trans h1.size hg.size, fun k hk => ?_⟩
  refine (hg.block k ?_ ?_).trans (h1.block k hk)
  · have : (w.alloc o).heap.size = w.heap.size + 1 := by simp
    omega
  · intro e
    have := (hlt k e.symm).1
    omega

theorem has_some (g n cap : Nat) (zs : List Int) (x : Int) (w : World) (hc : ∀ (j : Nat) y, zs[j]? = some y → w.cell? ⟨g, j, none⟩ = some (.int .i64 y)) (hn : zs.length = n) (hn2 : n ≤ 1000) : Calls Try.prog 14 #[.slice (some ⟨g, 0, none⟩) n cap, .int .i64 x] w fun e w' => e = .returned (.bool (decide (x ∈ zs))) ∧ w = w' := by
  have HC : Hid (∀ (j : Nat) y, zs[j]? = some y → w.cell? ⟨g, j, none⟩ = some (.int .i64 y)) := hc
  have HN : Hid (zs.length = n) := hn
  obtain ⟨r, hr⟩ : ∃ r, decide (x ∈ zs) = r := ⟨_, rfl⟩
  have HR : Hid (decide (x ∈ zs) = r) := hr
  rw [hr]
  clear hc hn hr
  go_enter Try.func14, Try.ntmps14
  go_wp2
  go_loopw [5] (fun v wr => ∃ j : Nat, j ≤ n ∧ v = .int .i64 j ∧ Hid (∀ (a : Nat) y, a < j → zs[a]? = some y → y ≠ x) ∧ w = wr) (fun v _ => n - (intOf v).toNat)
  case atStart => exact ⟨0, Nat.zero_le _, rfl, fun a y ha => by omega, rfl⟩
  case round =>
    obtain ⟨j, hj, rfl, HJ, rfl⟩ := hrel
    by_cases hlt : j < n
    · obtain ⟨y, hy⟩ : ∃ y, zs[j]? = some y := ⟨_, List.getElem?_eq_getElem (by rw [HN.out]; exact hlt)⟩
      have q := HC.out j y hy
      have HY : Hid (zs[j]? = some y) := hy
      clear hy
      by_cases hxy : y = x
      · have HT : Hid (r = true) := by
          show _ = _
          rw [← HR.out]
          exact decide_eq_true (hxy ▸ List.mem_of_getElem? HY.out)
        have h' : (y == x) = true := by simpa using hxy
        clear hxy
        go_wp2
        go_ret
        exact ⟨by rw [HT.out]; rfl, rfl⟩
      · have h' : (y == x) = false := by simpa using hxy
        have HN1 : Hid (∀ (a : Nat) z, a < j + 1 → zs[a]? = some z → z ≠ x) := fun a z ha hz => by
          by_cases e : a = j
          · subst e; rw [HY.out] at hz; cases hz; exact hxy
          · exact HJ.out a z (by omega) hz
        clear hxy
        go_wp2
        go_roundw
        case rel => exact ⟨j + 1, by omega, by go_num, HN1, trivial⟩
        case measure => simp [intOf]; omega
    · have HF : Hid (r = false) := by
        show _ = _
        rw [← HR.out]
        refine decide_eq_false fun hm => ?_
        obtain ⟨a, ha⟩ := List.getElem?_of_mem hm
        exact HJ.out a x (by have := (List.getElem?_eq_some_iff.1 ha).1; rw [HN.out] at this; omega) ha rfl
      go_wp2
      go_ret
      exact ⟨by rw [HF.out]; rfl, rfl⟩
theorem has_any (u : Value) (zs : List Int) (B : Nat) (x : Int) (w : World) (h : IOwns w B u zs) (hn : zs.length ≤ 1000) (hne : zs ≠ []) : Calls Try.prog 14 #[u, .int .i64 x] w fun e w' => e = .returned (.bool (decide (x ∈ zs))) ∧ w = w' := by
  rcases h.at_ with ⟨rfl, e⟩ | ⟨g, cap, rfl, hc⟩
  · exact absurd e hne
  · exact has_some g zs.length cap zs x w hc rfl hn

end Go.Proofs.Ytcjcekaahooamaa
