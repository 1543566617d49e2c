/-
  Lines of commands: a word ends, a command ends.
-/
import Derived.Test.YtghkhnnlhkdceaaXStepB
import Derived.Deep.RegionLaw
import Derived.Deep.DeepCutAuto
namespace Go.Proofs.Ytghkhnnlhkdceaa
open Go.RowKit
set_option linter.unusedVariables false
set_option maxRecDepth 100000

theorem infoS : (Try.prog.info? 9).map (fun i => (i.zero, i.size, i.bytes)) = some (some (.string .empty), 1, 16) := by kernel_rfl
theorem infoSS : (Try.prog.info? 29).map (fun i => (i.zero, i.size, i.bytes)) = some (some (.slice none 0 0), 1, 24) := by kernel_rfl

theorem step_append_one {ops : Array Oper} {o : Oper} {a : Act} {K : Act → World → Prop} {Q : Exit → Act → World → Prop} {E : Prop} (w : World) (hgd : o.guard = none) (s x : Operand) (t e : TypeId)
    (ho : o.op = .call { callee := .builtin .append, args := #[s, x], argTypes := #[t, t] }) (z : Value) (bytes : Nat) (ht : Try.prog.underlying t = some (.slice e)) (hinfo : (Try.prog.info? e).map (fun i => (i.zero, i.size, i.bytes)) = some (some z, 1, bytes)) (hzs : z.cells.size = 1) (hby : bytes ≤ 24)
    (B : Nat) (v : Value) (k : Nat) (xs : List Value) (u : Value) (hu : u.oneCell' = true) (hs : a.eval s = v) (hown : w.ownsRow B e 1 v k xs) (hx : a.eval x = .slice (some ⟨w.heap.size, 0, none⟩) 1 1) (hlen : k ≤ 16777216) (hB : B ≤ w.heap.size)
    (h : ∀ v' w', w'.ownsRow B e 1 v' (k + 1) (xs ++ [u]) → (w.alloc (.cells #[u] e)).grownBy w' v.ownBlock → K (a.put o.dst v') w') : if Region.wanted o (yielded ops a.tmps) = true then Oper.wp Try.prog o a (w.alloc (.cells #[u] e)) K Q else E := by
  have hw : Region.wanted o (yielded ops a.tmps) = true := by simp [Region.wanted, hgd]
  rw [if_pos hw]
  obtain ⟨i0, hi, hz0, hz1, hz2⟩ := info_parts hinfo
  have hown' : (w.alloc (.cells #[u] e)).ownsRow B e 1 v k xs := World.ownsRow.alloc hown _
  refine wp_append_own _ s x t ho B e i0 z 1 bytes ht hi hz0 hz1 hz2 hzs (by decide) v k xs hs hown' ⟨w.heap.size, 0, none⟩ 1 1 [u] hx rfl ?_ ?_ ?_ ?_ ?_ ?_
  · intro j y hy
    rw [show (⟨w.heap.size, 0, none⟩ : Addr).add j = ⟨w.heap.size, j, none⟩ by unfold Addr.add; split <;> simp_all, World.cell?_alloc_mark]
    simpa using hy
  · intro y hy
    have : y = u := by simpa using hy
    rw [this]; exact hu
  · unfold maxLen; omega
  · exact Nat.le_trans (Nat.mul_le_mul (show k + 1 ≤ 16777217 by omega) hby) (by decide)
  · have : (w.alloc (.cells #[u] e)).heap.size = w.heap.size + 1 := by simp
    omega
  · intro v' w' h2 h3 _
    exact h v' w' h2 h3

/-- What the reader holds besides its own block. -/
structure RdC (w0 w : World) (b : Nat) (s : ByteArray) (p : Nat) (cmd : List (List UInt8)) (cmds : List (List (List UInt8))) (vc vcs : Value) (vs : List Value) (Bc : Nat) : Prop where
  cmd : StrRow w Bc vc cmd
  lo : w0.heap.size ≤ Bc
  hi : Bc ≤ w.heap.size
  row : w.ownsRow w0.heap.size 29 1 vcs cmds.length vs
  rows : Rows2 w w0.heap.size vs cmds Bc
  at_ : p ≤ s.size
  below : Below w0.heap.size w0 w
  blk : w0.heap.size ≤ b
theorem RdP.rest {w0 w : World} {b : Nat} {s : ByteArray} {p : Nat} {l : List UInt8} {cmd : List (List UInt8)} {cmds : List (List (List UInt8))} {n : Nat} {ad buf vc vcs : Value} {vs : List Value} {Bc : Nat} (h : RdP w0 w b s p l cmd cmds n ad buf vc vcs vs Bc) : RdC w0 w b s p cmd cmds vc vcs vs Bc := ⟨h.cmd, h.lo, h.hi, h.row, h.rows, h.at_, h.below, h.blk⟩
theorem RdC.keep {w0 w w' : World} {b : Nat} {s : ByteArray} {p : Nat} {cmd : List (List UInt8)} {cmds : List (List (List UInt8))} {vc vcs : Value} {vs : List Value} {Bc : Nat} {S : List Nat} (h : RdC w0 w b s p cmd cmds vc vcs vs Bc) (hB : But S w w') (hS : ∀ g ∈ S, w0.heap.size ≤ g) (h9 : ∀ g cur, g ∈ S → w.heap[g]? ≠ some (Obj.cells cur 9 (0, 0)) ∧ w.heap[g]? ≠ some (Obj.cells cur 29 (0, 0))) : RdC w0 w' b s p cmd cmds vc vcs vs Bc :=
  ⟨h.cmd.keep fun g cur _ hg => hB.block g (lt_block hg) (fun hm => (h9 g cur hm).1 hg), h.lo, Nat.le_trans h.hi hB.size, row24_keep h.row fun g cur _ hg => hB.block g (lt_block hg) (fun hm => (h9 g cur hm).2 hg), h.rows.keep fun g cur _ hg => hB.block g (lt_block hg) (fun hm => (h9 g cur hm).1 hg), h.at_, hB.under h.below h.below.size hS, h.blk⟩
theorem not_ty {w : World} {g : Nat} {cs : Array Value} {t : TypeId} (h : w.heap[g]? = some (.cells cs t (0, 0))) (h9 : t ≠ 9) (h24 : t ≠ 29) : ∀ cur, w.heap[g]? ≠ some (Obj.cells cur 9 (0, 0)) ∧ w.heap[g]? ≠ some (Obj.cells cur 29 (0, 0)) := fun cur => ⟨fun e => h9 (same_ty h e), fun e => h24 (same_ty h e)⟩
theorem RdC.setb {w0 w : World} {b : Nat} {s : ByteArray} {p : Nat} {cmd : List (List UInt8)} {cmds : List (List (List UInt8))} {vc vcs : Value} {vs : List Value} {Bc : Nat} {cs : Array Value} (h : RdC w0 w b s p cmd cmds vc vcs vs Bc) (hb : w.heap[b]? = some (.cells cs 40 (0, 0))) (o : Nat) (v : Value) : RdC w0 (w.setCell ⟨b, o, none⟩ v) b s p cmd cmds vc vcs vs Bc :=
  h.keep ((But.refl [b] w).setCell (p := ⟨b, o, none⟩) (.inl List.mem_cons_self) v) (fun g hg => List.mem_singleton.1 hg ▸ h.blk) (fun g cur hg => List.mem_singleton.1 hg ▸ not_ty hb (by decide) (by decide) cur)
theorem liesR : liesAt Try.prog Try.prog.depth 40 (7 / Try.prog.cellsOf 40) 2 38 1 = true := by kernel_rfl
theorem rd_of {w0 w : World} {b : Nat} {s : ByteArray} {p : Nat} {cmd : List (List UInt8)} {cmds : List (List (List UInt8))} {n : Nat} {ad vc vcs : Value} {vs : List Value} {Bc : Nat} (h : RdC w0 w b s p cmd cmds vc vcs vs Bc) (ha : ad = .pointer none ∨ ad = .pointer (some ⟨b, 2, none⟩)) (hb : w.heap[b]? = some (.cells #[.string s, .int .i64 p, ad, .slice none 0 0, vc, vcs, .int .i64 n] 40 (0, 0))) : Rd w0 w b s p [] cmd cmds n :=
  ⟨ad, .slice none 0 0, vc, vcs, vs, Bc, ⟨hb, by rcases ha with rfl | rfl; exact .inl rfl; exact .inr rfl, rfl, Owns.nil _ _, by decide, liesR⟩, fun _ => rfl, h.cmd, h.lo, h.hi, h.row, h.rows, h.at_, h.below, h.blk⟩

theorem reset_at {w : World} {b o : Nat} {T : TypeId} {cs : Array Value} (h : w.heap[b]? = some (.cells cs T (0, 0))) (ho : o + 1 < cs.size) : Calls Try.prog 23 #[.pointer (some ⟨b, o, none⟩)] w fun e w' => e = .returned (.tuple #[]) ∧ w' = (w.setCell ⟨b, o, none⟩ (.pointer none)).setCell ⟨b, o + 1, none⟩ (.slice none 0 0) := by
  obtain ⟨u0, c0⟩ : ∃ u, w.cell? ⟨b, o, none⟩ = some u := ⟨cs[o], by rw [cell_at h]; exact Array.getElem?_eq_getElem (by omega)⟩
  have f0 := free_at h o
  have h2 := set_at h o (.pointer none)
  obtain ⟨u1, c1⟩ : ∃ u, (w.setCell ⟨b, o, none⟩ (.pointer none)).cell? ⟨b, o + 1, none⟩ = some u := ⟨_, by rw [cell_at h2]; exact Array.getElem?_eq_getElem (by simp; omega)⟩
  have f1 := free_at h2 (o + 1)
  obtain ⟨w1, hw1⟩ : ∃ x, w.setCell ⟨b, o, none⟩ (.pointer none) = x := ⟨_, rfl⟩
  have HW : Hid (w.setCell ⟨b, o, none⟩ (.pointer none) = w1) := hw1
  rw [hw1] at c1 f1 ⊢
  clear h h2 hw1
  go_enter Try.func23, Try.ntmps23
  go_upto_region 1 with fail
  rw [HW.out]
  go_wp2
  go_end0
  exact ⟨rfl, rfl⟩

end Go.Proofs.Ytghkhnnlhkdceaa
