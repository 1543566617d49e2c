/-
  A row, made: rowOf.
-/
import Derived.Test.YtplolaondmeccaaGreatDoorWFlds
import Derived.WalkKit
import Derived.RegionTactic
import Derived.Deep.RegionWith
import Derived.Deep.DrawnRows
namespace Go.Proofs.YtplolaondmeccaaGreatDoor
open Go.RowKit
set_option linter.unusedVariables false

theorem fieldsOf_makes (k : Nat) (h1 : 1 ≤ k) (h2 : k ≤ 24) (w : World) (hE : Env w) : Calls Tryz.prog 26 #[.int .i64 k] w (MakesAll (fieldsOf k) w) := by
  rcases (show k = 1 ∨ k = 2 ∨ k = 3 ∨ k = 4 ∨ k = 5 ∨ k = 6 ∨ k = 7 ∨ k = 8 ∨ k = 9 ∨ k = 10 ∨ k = 11 ∨ k = 12 ∨ k = 13 ∨ k = 14 ∨ k = 15 ∨ k = 16 ∨ k = 17 ∨ k = 18 ∨ k = 19 ∨ k = 20 ∨ k = 21 ∨ k = 22 ∨ k = 23 ∨ k = 24 by omega) with rfl | rfl | rfl | rfl | rfl | rfl | rfl | rfl | rfl | rfl | rfl | rfl | rfl | rfl | rfl | rfl | rfl | rfl | rfl | rfl | rfl | rfl | rfl | rfl
  · exact fields1 w hE
  · exact fields2 w hE
  · exact fields3 w hE
  · exact fields4 w hE
  · exact fields5 w hE
  · exact fields6 w hE
  · exact fields7 w hE
  · exact fields8 w hE
  · exact fields9 w hE
  · exact fields10 w hE
  · exact fields11 w hE
  · exact fields12 w hE
  · exact fields13 w hE
  · exact fields14 w hE
  · exact fields15 w hE
  · exact fields16 w hE
  · exact fields17 w hE
  · exact fields18 w hE
  · exact fields19 w hE
  · exact fields20 w hE
  · exact fields21 w hE
  · exact fields22 w hE
  · exact fields23 w hE
  · exact fields24 w hE

/-- A row as a value. -/
noncomputable def rowV (k : Nat) (b : Nat) : Value := .agg #[.int .i64 k, .string (str (headOf k)), .slice (some ⟨b, 0, none⟩) (fieldsOf k).length (fieldsOf k).length]

theorem free_at {w : World} {b : Nat} {cs : Array Value} {t : TypeId} (h : w.heap[b]? = some (.cells cs t (0, 0))) (o : Nat) : w.frozen? ⟨b, o, none⟩ = false := by simp [World.frozen?, h]

/-- The row that waits for its values. -/
theorem row_waits {w w1 : World} (hb : Below (w.alloc (.cells #[.int .i64 0, .string ⟨#[]⟩, .slice none 0 0] 45)).drew.heap.size (w.alloc (.cells #[.int .i64 0, .string ⟨#[]⟩, .slice none 0 0] 45)).drew w1) :
    w1.heap[w.heap.size]? = some (.cells #[.int .i64 0, .string ⟨#[]⟩, .slice none 0 0] 45 (0, 0)) :=
  (hb.block w.heap.size (by show _ < (w.alloc _).heap.size; rw [size1]; omega)).trans (heap_alloc_new w _)

theorem row_heads {w w1 : World} {k : Nat} {v : Value} (hb : Below (w.alloc (.cells #[.int .i64 0, .string ⟨#[]⟩, .slice none 0 0] 45)).drew.heap.size (w.alloc (.cells #[.int .i64 0, .string ⟨#[]⟩, .slice none 0 0] 45)).drew w1)
    (c1 : w.cell? ⟨0, k, none⟩ = some v) : w1.cell? ⟨0, k, none⟩ = some v := by
  have l1 := World.block_lt_of_cell? w _ c1
  have l2 : 0 < (w.alloc (.cells #[.int .i64 0, .string ⟨#[]⟩, .slice none 0 0] 45)).drew.heap.size := by
    show _ < (w.alloc _).heap.size
    rw [size1]
    exact Nat.lt_succ_of_lt l1
  exact (hb.cell (p := ⟨0, k, none⟩) l2).trans (past_cell c1 _)

theorem since_setCell (B : Nat) (w : World) (p : Addr) (v : Value) (hp : p.block < B) : Since B w (w.setCell p v) :=
  ⟨by simp [World.setCell], fun k hk _ => Below.heap_setCell _ _ _ _ (by omega)⟩
theorem row_done {w w1 : World} {b : Nat} {fs : List FSpec} (hf : FieldsAt (w.alloc (.cells #[.int .i64 0, .string ⟨#[]⟩, .slice none 0 0] 45)).drew.heap.size w1 b fs) (hb : Below (w.alloc (.cells #[.int .i64 0, .string ⟨#[]⟩, .slice none 0 0] 45)).drew.heap.size (w.alloc (.cells #[.int .i64 0, .string ⟨#[]⟩, .slice none 0 0] 45)).drew w1) (v0 v1 v2 : Value) :
    FieldsAt w.heap.size (((w1.setCell ⟨w.heap.size, 0, none⟩ v0).setCell ⟨w.heap.size, 1, none⟩ v1).setCell ⟨w.heap.size, 2, none⟩ v2) b fs ∧ Below w.heap.size w (((w1.setCell ⟨w.heap.size, 0, none⟩ v0).setCell ⟨w.heap.size, 1, none⟩ v1).setCell ⟨w.heap.size, 2, none⟩ v2) := by
  have hs : (w.alloc (.cells #[.int .i64 0, .string ⟨#[]⟩, .slice none 0 0] 45)).drew.heap.size = w.heap.size + 1 := size1 w _
  have hb0 := below_step (below1 w (.cells #[.int .i64 0, .string ⟨#[]⟩, .slice none 0 0] 45)).drew hb
  rw [hs] at hf
  have h1 := since_setCell (w.heap.size + 1) w1 ⟨w.heap.size, 0, none⟩ v0 (Nat.lt_succ_self _)
  have h2 := since_setCell (w.heap.size + 1) (w1.setCell ⟨w.heap.size, 0, none⟩ v0) ⟨w.heap.size, 1, none⟩ v1 (Nat.lt_succ_self _)
  have h3 := since_setCell (w.heap.size + 1) ((w1.setCell ⟨w.heap.size, 0, none⟩ v0).setCell ⟨w.heap.size, 1, none⟩ v1) ⟨w.heap.size, 2, none⟩ v2 (Nat.lt_succ_self _)
  exact ⟨hf.since (h1.trans (h2.trans h3)) (Nat.le_succ _), ((hb0.setCell (Nat.le_refl _) _).setCell (Nat.le_refl _) _).setCell (Nat.le_refl _) _⟩

theorem rowOf_any (k : Nat) (h1 : 1 ≤ k) (h2 : k ≤ 24) (w : World) (hE : Env w) :
    Calls Tryz.prog 15 #[.int .i64 k] w fun e w' => ∃ b, e = .returned (rowV k b) ∧ FieldsAt w.heap.size w' b (fieldsOf k) ∧ Below w.heap.size w w' := by
  have HF : Hid (∀ W, Env W → Calls Tryz.prog 26 #[.int .i64 k] W (MakesAll (fieldsOf k) W)) := fun W hW => fieldsOf_makes k h1 h2 W hW
  obtain ⟨fs, hfs⟩ : ∃ fs, fieldsOf k = fs := ⟨_, rfl⟩
  obtain ⟨hd, hhd⟩ : ∃ hd, headOf k = hd := ⟨_, rfl⟩
  have c1 : w.cell? ⟨0, k, none⟩ = some (.string (str hd)) := hhd ▸ hE.heads k (by omega)
  have l1 : 0 < w.heap.size := World.block_lt_of_cell? w _ c1
  rw [hfs] at HF
  unfold rowV
  rw [hfs, hhd]
  have HE : Hid (∀ o, Env (w.alloc o)) := fun o => hE.below (below1 w o)
  have c2 : ∀ o, (w.alloc o).cell? ⟨0, k, none⟩ = some (.string (str hd)) := fun o => past_cell c1 o
  have HE' : Hid (∀ o, Env (w.alloc o).drew) := fun o => hE.below (below1 w o).drew
  have c3 : ∀ o, (w.alloc o).drew.cell? ⟨0, k, none⟩ = some (.string (str hd)) := fun o => past_cell c1 o
  clear hfs hhd hE
  go_enter Tryz.func15, Tryz.ntmps15
  go_wp2
  go_region_with (go_at_call 26; (refine (HF.out _ (HE'.out _)).mono ?_; rintro e w1 ⟨b, rfl, hf, hb⟩; have hr := row_waits hb; have r0 := cell_at hr 0; have r1 := cell_at hr 1; have r2 := cell_at hr 2; have f0 := free_at hr 0; have f1 := free_at hr 1; have f2 := free_at hr 2; simp at r0 r1 r2; have r3 := row_heads hb c1; have HF1 : Hid (FieldsAt (w.alloc (.cells #[.int .i64 0, .string ⟨#[]⟩, .slice none 0 0] 45)).drew.heap.size w1 b fs) := hf; have HB1 : Hid (Below (w.alloc (.cells #[.int .i64 0, .string ⟨#[]⟩, .slice none 0 0] 45)).drew.heap.size (w.alloc (.cells #[.int .i64 0, .string ⟨#[]⟩, .slice none 0 0] 45)).drew w1) := hb; clear hr hf hb))
  all_goals go_wp2
  all_goals exact bodyPost_ret (v := .agg #[.int .i64 k, .string (str hd), .slice (some ⟨b, 0, none⟩) fs.length fs.length]) (by simp [results, Tryz.results15, go_sem, r0, r1, r2]) rfl ⟨_, rfl, row_done HF1.out HB1.out _ _ _⟩

end Go.Proofs.YtplolaondmeccaaGreatDoor
