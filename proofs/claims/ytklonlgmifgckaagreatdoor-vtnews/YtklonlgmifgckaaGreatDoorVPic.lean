/-
  The picture that a screen tells.
-/
import Derived.Test.YtklonlgmifgckaaGreatDoorVTold
import Derived.Test.YtklonlgmifgckaaGreatDoorVWrite
import Derived.Test.YtklonlgmifgckaaGreatDoorQApp
import Derived.Deep.RegionLaw
import Derived.Deep.DeepCutAuto
namespace Go.Proofs.YtklonlgmifgckaaGreatDoor
open Go.RowKit
set_option linter.unusedVariables false
set_option maxRecDepth 100000

theorem infoGyV : (Tryz.prog.info? 49).map (fun i => (i.zero, i.size, i.bytes)) = some (some (.agg #[.string ⟨#[]⟩, .int .i64 0, .int .i64 0, .int .i64 0, .int .i64 0]), 5, 48) := by kernel_rfl
theorem underGys : Tryz.prog.underlying 28 = some (.slice 49) := by kernel_rfl
theorem infoPic : (Tryz.prog.info? 30).map (·.size) = some 7 := by kernel_rfl
theorem clone_empty (w : World) : Calls Tryz.prog 27 #[.string ⟨#[]⟩] w fun r w' => r = .returned (.string ⟨#[]⟩) ∧ w = w' := by
  have HC : Hid (∀ W, Calls Tryz.prog 38 #[.string ⟨#[]⟩] W fun r w' => r = .returned (.string ⟨#[]⟩) ∧ W = w') := fun W => by
    go_enter Tryz.func38, Tryz.ntmps38
    go_wp2_with fail
    go_ret
    exact ⟨rfl, rfl⟩
  go_enter Tryz.func27, Tryz.ntmps27
  go_wp2_with (go_at_call 38; refine (HC.out _).mono ?_; rintro e w0 ⟨rfl, rfl⟩)
  go_ret
  exact ⟨rfl, rfl⟩
def madeP (W : World) (m : Nat) : World := W.alloc (.cells (madeCells #[.string ⟨#[]⟩, .int .i64 0, .int .i64 0, .int .i64 0, .int .i64 0] (m * 5)) 49)
theorem madeP_run (W : World) (m : Nat) (hm : m ≤ 1000000) : (Instr.makeSlice 28 (.int .i64 0) (.int .i64 (m : Int))).run Tryz.prog W = .ok (.slice (some ⟨W.heap.size, 0, none⟩) 0 m) (madeP W m) := by
  obtain ⟨i, hi, hz, hs, hb⟩ := info_parts infoGyV
  have h := run_make (P := Tryz.prog) W 28 49 i _ underGys hi hz .i64 .i64 0 (m : Int) (by omega) (by omega) (by rw [hb]; omega) (by omega)
  rw [h, hs]
  rw [show ((m : Int)).toNat = m by omega]
  rfl
theorem madeP_row (W : World) (m : Nat) (hm : m ≤ 1000000) : Row (madeP W m) 49 5 (.slice (some ⟨W.heap.size, 0, none⟩) 0 m) 0 [] := by
  refine ⟨rfl, .inr ⟨W.heap.size, 0, m, _, rfl, heap_alloc_new W _, Nat.zero_le _, by unfold maxLen; omega, by simp [madeCells], fun j u hu => by simp at hu⟩⟩
def pic0 : Array Value := #[.int .i64 0, .int .i64 0, .slice none 0 0, .int .i64 0, .int .i64 0, .bool false, .string ⟨#[]⟩]
def picC (s : Sc) (v : Value) : Array Value := #[.int .i64 s.w, .int .i64 s.h, v, .int .i64 s.cur.x, .int .i64 s.cur.y, .bool s.hid, .string ⟨#[]⟩]
def tgsV (xs : List Gl) : List Value := xs.flatMap tgV
theorem tgs_snoc (xs : List Gl) (x : Gl) : tgsV (xs ++ [x]) = tgsV xs ++ tgV x := by simp [tgsV]
/-- A picture that is being told. -/
structure Pic (w wr : World) (s : Sc) (B Bp : Nat) (v : Value) (xs : List Gl) : Prop where
  below : Below w.heap.size w wr
  zero : wr.heap[B]? = some (.cells pic0 30 (0, 0))
  pic : wr.heap[Bp]? = some (.cells (picC s v) 30 (0, 0))
  row : Row wr 49 5 v xs.length (tgsV xs)
  young : ∀ g, v.ownBlock = some g → w.heap.size ≤ g
  yB : w.heap.size ≤ B
  yp : B < Bp
theorem Pic.more {w wr w' : World} {s : Sc} {B Bp : Nat} {v : Value} {xs : List Gl} (h : Pic w wr s B Bp v xs) (hb : Below wr.heap.size wr w') : Pic w w' s B Bp v xs :=
  ⟨h.below.trans (hb.mono h.below.size), (hb.block _ (lt_of_block h.zero)).trans h.zero, (hb.block _ (lt_of_block h.pic)).trans h.pic, h.row.below hb, h.young, h.yB, h.yp⟩
theorem Pic.add {w wr w' : World} {s : Sc} {B Bp : Nat} {v v' : Value} {xs : List Gl} {x : Gl} (h : Pic w wr s B Bp v xs) (hr : Row w' 49 5 v' (xs.length + 1) (tgsV xs ++ tgV x)) (hg : Grown wr w' v v' v.ownBlock.toList) : Pic w (w'.setCell ⟨Bp, 2, none⟩ v') s B Bp v' (xs ++ [x]) := by
  have hne : ∀ k cs, wr.heap[k]? = some (.cells cs 30 (0, 0)) → k ∉ v.ownBlock.toList := fun k cs hk hm => by
    obtain ⟨cur, hc⟩ := h.row.block (by simpa using hm : v.ownBlock = some k)
    rw [hk] at hc
    simp at hc
  have hz : w'.heap[B]? = _ := (hg.but.block _ (lt_of_block h.zero) (hne _ _ h.zero)).trans h.zero
  have hp : w'.heap[Bp]? = _ := (hg.but.block _ (lt_of_block h.pic) (hne _ _ h.pic)).trans h.pic
  have hyp := h.yp
  have hyB := h.yB
  have hbel : Below w.heap.size w w' := hg.but.under h.below h.below.size (fun k hk => h.young k (by simpa using hk))
  refine ⟨hbel.setCell (p := ⟨Bp, 2, none⟩) (by simp only; omega) _, put_other hz (by omega) _ _, put_at hp 2 v', ?_, fun g hg' => ?_, hyB, hyp⟩
  · rw [List.length_append, List.length_singleton, tgs_snoc]
    refine hr.keep (fun g hg' => Below.heap_setCell _ _ _ _ (fun e => ?_))
    obtain ⟨cur, hc⟩ := hr.block hg'
    have e2 : Bp = g := e.symm
    rw [← e2, hp] at hc
    simp at hc
  · rcases hg.own with e | e
    · exact h.young g (by rw [← e]; exact hg')
    · rw [e] at hg'
      cases hg'
      exact h.below.size
theorem pic_store {w wr w' : World} {s : Sc} {B Bp : Nat} {v v' : Value} {xs : List Gl} (h : Pic w wr s B Bp v xs) (hg : Grown wr w' v v' v.ownBlock.toList) : w'.cell? ⟨Bp, 2, none⟩ = some v ∧ w'.frozen? ⟨Bp, 2, none⟩ = false := by
  have hp : w'.heap[Bp]? = some (.cells (picC s v) 30 (0, 0)) := (hg.but.block _ (lt_of_block h.pic) (fun hm => by
    obtain ⟨cur, hc⟩ := h.row.block (by simpa using hm : v.ownBlock = some Bp)
    rw [h.pic] at hc
    simp at hc)).trans h.pic
  exact ⟨cell_atT hp 2, free_atT hp 2⟩
end Go.Proofs.YtklonlgmifgckaaGreatDoor
