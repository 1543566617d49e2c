/-
  The pen behind ESC [ 31 m.
-/
import Derived.Test.YtooahffclghcjaaGreatDoorVOrd
namespace Go.Proofs.YtooahffclghcjaaGreatDoor
open Go.RowKit
set_option linter.unusedVariables false
set_option maxRecDepth 100000
attribute [-go_sem] Instr.loadAt
attribute [local go_sem low] open_loadAt

set_option maxHeartbeats 1000000 in
theorem ownColour_one (f : Int) (w : World) : Calls Tryz.prog 145 #[.int .i64 f, .int .i64 1] w fun r w' => r = .returned (.int .i64 2) ∧ w = w' := by
  go_enter Tryz.func145, Tryz.ntmps145
  go_wp2_with fail
  go_ret
  exact ⟨rfl, rfl⟩
set_option maxHeartbeats 1000000 in
theorem penBehind_31 (fo ba ma : Int) (w : World) : Calls Tryz.prog 138 #[.agg #[.int .i64 fo, .int .i64 ba, .int .i64 ma], .int .i64 31] w fun r w' => r = .returned (.agg #[.int .i64 2, .int .i64 ba, .int .i64 ma]) ∧ Below w.heap.size w w' := by
  have HO : Hid (∀ W, Calls Tryz.prog 145 #[.int .i64 fo, .int .i64 1] W fun r w' => r = .returned (.int .i64 2) ∧ W = w') := ownColour_one fo
  go_enter Tryz.func138, Tryz.ntmps138
  go_wp2_with (go_at_call 145; refine (HO.out _).mono ?_; rintro e w1 ⟨rfl, rfl⟩)
  exact bodyPost_ret (v := .agg #[.int .i64 2, .int .i64 ba, .int .i64 ma]) (by simp [results, Tryz.results138, go_sem]) rfl ⟨rfl, ((Below.refl _ _).alloc (Nat.le_refl _) _).alloc (by simp) _⟩
def lenV : Value → Nat
  | .slice _ n _ => n
  | _ => 0
/-- The pen's Fore is 2. -/
def redd (s : Sc) : Sc := { s with cur := { s.cur with fo := 2 } }
set_option maxHeartbeats 4000000 in
theorem colour_ord {w : World} {b : Nat} {s : Sc} (h : ScAt w b s) : Calls Tryz.prog 125 #[.pointer (some ⟨b, 0, none⟩), .agg #[.int .u8 0, .int .i64 31, .int .i64 0, .int .i64 0, .int .i64 0, .int .i64 0, .int .i64 0, .int .i64 0, .int .i64 0, .int .i64 0, .int .i64 0, .int .i64 0, .int .i64 0, .int .i64 0, .int .i64 0, .int .i64 0, .int .i64 0, .int .i64 1, .string ⟨#[]⟩, .int .u8 109]] w fun r w' => r = .returned (.tuple #[]) ∧ ScAt w' b (redd s) ∧ But [b] w w' := by
  obtain ⟨W, hW⟩ : ∃ W, w.alloc (.cells #[.int .u8 0, .int .i64 31, .int .i64 0, .int .i64 0, .int .i64 0, .int .i64 0, .int .i64 0, .int .i64 0, .int .i64 0, .int .i64 0, .int .i64 0, .int .i64 0, .int .i64 0, .int .i64 0, .int .i64 0, .int .i64 0, .int .i64 0, .int .i64 1, .string ⟨#[]⟩, .int .u8 109] 120) = W := ⟨_, rfl⟩
  have HW := hidK hW
  obtain ⟨B, hB⟩ : ∃ B, w.heap.size = B := ⟨_, rfl⟩
  have HB := hidK hB
  have hX : W.heap[B]? = some (.cells #[.int .u8 0, .int .i64 31, .int .i64 0, .int .i64 0, .int .i64 0, .int .i64 0, .int .i64 0, .int .i64 0, .int .i64 0, .int .i64 0, .int .i64 0, .int .i64 0, .int .i64 0, .int .i64 0, .int .i64 0, .int .i64 0, .int .i64 0, .int .i64 1, .string ⟨#[]⟩, .int .u8 109] 120 (0, 0)) := by rw [← hB, ← hW]; exact heap_alloc_new w _
  have HX := hidK hX
  have HBW : Hid (Below w.heap.size w W) := by rw [← hW]; exact (Below.refl _ _).alloc (Nat.le_refl _) _
  have hld : (Instr.loadAt 120 (.pointer (some ⟨w.heap.size, 0, none⟩))).run Tryz.prog (w.alloc (.cells #[.int .u8 0, .int .i64 31, .int .i64 0, .int .i64 0, .int .i64 0, .int .i64 0, .int .i64 0, .int .i64 0, .int .i64 0, .int .i64 0, .int .i64 0, .int .i64 0, .int .i64 0, .int .i64 0, .int .i64 0, .int .i64 0, .int .i64 0, .int .i64 1, .string ⟨#[]⟩, .int .u8 109] 120)) = .ok (.agg #[.int .u8 0, .int .i64 31, .int .i64 0, .int .i64 0, .int .i64 0, .int .i64 0, .int .i64 0, .int .i64 0, .int .i64 0, .int .i64 0, .int .i64 0, .int .i64 0, .int .i64 0, .int .i64 0, .int .i64 0, .int .i64 0, .int .i64 0, .int .i64 1, .string ⟨#[]⟩, .int .u8 109]) (w.alloc (.cells #[.int .u8 0, .int .i64 31, .int .i64 0, .int .i64 0, .int .i64 0, .int .i64 0, .int .i64 0, .int .i64 0, .int .i64 0, .int .i64 0, .int .i64 0, .int .i64 0, .int .i64 0, .int .i64 0, .int .i64 0, .int .i64 0, .int .i64 0, .int .i64 1, .string ⟨#[]⟩, .int .u8 109] 120)) := ord_load (heap_alloc_new w _)
  have o1 := cell_atT hX 1
  have o19 := cell_atT hX 19
  simp at o1 o19
  clear hW hB hX
  have HS := hidK h
  have HP : Hid (∀ W, Calls Tryz.prog 138 #[.agg #[.int .i64 s.cur.fo, .int .i64 s.cur.ba, .int .i64 s.cur.ma], .int .i64 31] W fun r w' => r = .returned (.agg #[.int .i64 2, .int .i64 s.cur.ba, .int .i64 s.cur.ma]) ∧ Below W.heap.size W w') := penBehind_31 _ _ _
  have o17 : W.cell? ⟨B, 17, none⟩ = some (.int .i64 1) := cell_atT HX.out 17
  have hS := h.below HBW.out
  have HbB : Hid (b ≠ B) := fun e => by have := h.lt; have := HB.out; omega
  have c15 := hS.c15
  have c16 := hS.c16
  have c17 := hS.c17
  clear h hld hS
  go_enter Tryz.func125, Tryz.ntmps125
  go_wp2_with fail
  rw [HW.out, HB.out]
  go_loopw [4] (fun v wr => (v = .slice (some ⟨B, 1, none⟩) 1 16 ∧ wr = W) ∨ ∃ ad c, v = .slice ad 0 c ∧ ScAt wr b (redd s) ∧ But [b] W wr) (fun v _ => lenV v)
  case atStart => exact .inl ⟨rfl, rfl⟩
  case round =>
    rcases hrel with ⟨rfl, rfl⟩ | ⟨ad, cc, rfl, hs2, hb2⟩
    · go_wp2_with fail
      refine (HP.out _).mono ?_
      rintro e w1 ⟨rfl, hb⟩
      have hS1 : ScAt w1 b s := HS.out.below (HBW.out.trans (hb.mono HBW.out.size))
      have HS1 := hidK hS1
      have HB1 := hidK hb
      clear c15 c16 c17 o1 o17 o19
      have c15 := hS1.c15
      have c16 := hS1.c16
      have c17 := hS1.c17
      have f15 := hS1.free 15
      have f16 := hS1.free 16
      have f17 := hS1.free 17
      clear hS1 hb
      go_wp2_with fail
      go_roundw
      case rel => exact .inr ⟨_, _, rfl, .fin (put_at (put_at (put_at HS1.out 15 _) 16 _) 17 _) (by rfl), (((But.of HB1.out).next _ _).next _ _).next _ _⟩
      case measure => simp [lenV]
    · have HS2 := hidK hs2
      have HB2 := hidK hb2
      clear hs2 hb2
      go_wp2_with fail
      go_end0
      exact ⟨rfl, HS2.out, (But.of HBW.out).trans HB2.out⟩
set_option maxHeartbeats 4000000 in
theorem set_ord {w : World} {b : Nat} {s : Sc} (h : ScAt w b s) : Calls Tryz.prog 103 #[.pointer (some ⟨b, 0, none⟩), .agg #[.int .u8 0, .int .i64 31, .int .i64 0, .int .i64 0, .int .i64 0, .int .i64 0, .int .i64 0, .int .i64 0, .int .i64 0, .int .i64 0, .int .i64 0, .int .i64 0, .int .i64 0, .int .i64 0, .int .i64 0, .int .i64 0, .int .i64 0, .int .i64 1, .string ⟨#[]⟩, .int .u8 109]] w fun r w' => r = .returned (.tuple #[]) ∧ ScAt w' b (redd s) ∧ But [b] w w' := by
  obtain ⟨W, hW⟩ : ∃ W, w.alloc (.cells #[.int .u8 0, .int .i64 31, .int .i64 0, .int .i64 0, .int .i64 0, .int .i64 0, .int .i64 0, .int .i64 0, .int .i64 0, .int .i64 0, .int .i64 0, .int .i64 0, .int .i64 0, .int .i64 0, .int .i64 0, .int .i64 0, .int .i64 0, .int .i64 1, .string ⟨#[]⟩, .int .u8 109] 120) = W := ⟨_, rfl⟩
  have HW := hidK hW
  obtain ⟨B, hB⟩ : ∃ B, w.heap.size = B := ⟨_, rfl⟩
  have HB := hidK hB
  have hX : W.heap[B]? = some (.cells #[.int .u8 0, .int .i64 31, .int .i64 0, .int .i64 0, .int .i64 0, .int .i64 0, .int .i64 0, .int .i64 0, .int .i64 0, .int .i64 0, .int .i64 0, .int .i64 0, .int .i64 0, .int .i64 0, .int .i64 0, .int .i64 0, .int .i64 0, .int .i64 1, .string ⟨#[]⟩, .int .u8 109] 120 (0, 0)) := by rw [← hB, ← hW]; exact heap_alloc_new w _
  have HX := hidK hX
  have HBW : Hid (Below w.heap.size w W) := by rw [← hW]; exact (Below.refl _ _).alloc (Nat.le_refl _) _
  have hld : (Instr.loadAt 120 (.pointer (some ⟨w.heap.size, 0, none⟩))).run Tryz.prog (w.alloc (.cells #[.int .u8 0, .int .i64 31, .int .i64 0, .int .i64 0, .int .i64 0, .int .i64 0, .int .i64 0, .int .i64 0, .int .i64 0, .int .i64 0, .int .i64 0, .int .i64 0, .int .i64 0, .int .i64 0, .int .i64 0, .int .i64 0, .int .i64 0, .int .i64 1, .string ⟨#[]⟩, .int .u8 109] 120)) = .ok (.agg #[.int .u8 0, .int .i64 31, .int .i64 0, .int .i64 0, .int .i64 0, .int .i64 0, .int .i64 0, .int .i64 0, .int .i64 0, .int .i64 0, .int .i64 0, .int .i64 0, .int .i64 0, .int .i64 0, .int .i64 0, .int .i64 0, .int .i64 0, .int .i64 1, .string ⟨#[]⟩, .int .u8 109]) (w.alloc (.cells #[.int .u8 0, .int .i64 31, .int .i64 0, .int .i64 0, .int .i64 0, .int .i64 0, .int .i64 0, .int .i64 0, .int .i64 0, .int .i64 0, .int .i64 0, .int .i64 0, .int .i64 0, .int .i64 0, .int .i64 0, .int .i64 0, .int .i64 0, .int .i64 1, .string ⟨#[]⟩, .int .u8 109] 120)) := ord_load (heap_alloc_new w _)
  have o1 := cell_atT hX 1
  have o19 := cell_atT hX 19
  simp at o1 o19
  clear hW hB hX
  have HC : Hid (Calls Tryz.prog 125 #[.pointer (some ⟨b, 0, none⟩), .agg #[.int .u8 0, .int .i64 31, .int .i64 0, .int .i64 0, .int .i64 0, .int .i64 0, .int .i64 0, .int .i64 0, .int .i64 0, .int .i64 0, .int .i64 0, .int .i64 0, .int .i64 0, .int .i64 0, .int .i64 0, .int .i64 0, .int .i64 0, .int .i64 1, .string ⟨#[]⟩, .int .u8 109]] W fun r w' => r = .returned (.tuple #[]) ∧ ScAt w' b (redd s) ∧ But [b] W w') := colour_ord (h.below HBW.out)
  clear h o1
  rw [← HW.out, ← HB.out] at o19
  go_enter Tryz.func103, Tryz.ntmps103
  go_wp2_with fail
  rw [HW.out]
  refine HC.out.mono ?_
  rintro e w1 ⟨rfl, hs, hb⟩
  have H1 := hidK (And.intro hs hb)
  clear hs hb hld o19
  go_wp2_with fail
  go_end0
  exact ⟨rfl, H1.out.1, (But.of HBW.out).trans H1.out.2⟩
set_option maxHeartbeats 4000000 in
theorem obeyPlain_ord {w : World} {b : Nat} {s : Sc} {G : Nat} {rs : List (Nat × List Gl)} (h : Scn w b s G rs) {y x n : Nat} (hy : s.cur.y = (y : Int)) (hx : s.cur.x = (x : Int)) (hw : s.w = (n : Int)) (hn : n ≤ 1000) (hx2 : x ≤ 1000) {g : Nat} {gs : List Gl} (hg : rs[y]? = some (g, gs)) : Calls Tryz.prog 83 #[.pointer (some ⟨b, 0, none⟩), .agg #[.int .u8 0, .int .i64 31, .int .i64 0, .int .i64 0, .int .i64 0, .int .i64 0, .int .i64 0, .int .i64 0, .int .i64 0, .int .i64 0, .int .i64 0, .int .i64 0, .int .i64 0, .int .i64 0, .int .i64 0, .int .i64 0, .int .i64 0, .int .i64 1, .string ⟨#[]⟩, .int .u8 109]] w fun r w' => r = .returned (.tuple #[]) ∧ ScAt w' b (redd s) ∧ But [b] w w' := by
  obtain ⟨W, hW⟩ : ∃ W, w.alloc (.cells #[.int .u8 0, .int .i64 31, .int .i64 0, .int .i64 0, .int .i64 0, .int .i64 0, .int .i64 0, .int .i64 0, .int .i64 0, .int .i64 0, .int .i64 0, .int .i64 0, .int .i64 0, .int .i64 0, .int .i64 0, .int .i64 0, .int .i64 0, .int .i64 1, .string ⟨#[]⟩, .int .u8 109] 120) = W := ⟨_, rfl⟩
  have HW := hidK hW
  obtain ⟨B, hB⟩ : ∃ B, w.heap.size = B := ⟨_, rfl⟩
  have HB := hidK hB
  have hX : W.heap[B]? = some (.cells #[.int .u8 0, .int .i64 31, .int .i64 0, .int .i64 0, .int .i64 0, .int .i64 0, .int .i64 0, .int .i64 0, .int .i64 0, .int .i64 0, .int .i64 0, .int .i64 0, .int .i64 0, .int .i64 0, .int .i64 0, .int .i64 0, .int .i64 0, .int .i64 1, .string ⟨#[]⟩, .int .u8 109] 120 (0, 0)) := by rw [← hB, ← hW]; exact heap_alloc_new w _
  have HX := hidK hX
  have HBW : Hid (Below w.heap.size w W) := by rw [← hW]; exact (Below.refl _ _).alloc (Nat.le_refl _) _
  have hld : (Instr.loadAt 120 (.pointer (some ⟨w.heap.size, 0, none⟩))).run Tryz.prog (w.alloc (.cells #[.int .u8 0, .int .i64 31, .int .i64 0, .int .i64 0, .int .i64 0, .int .i64 0, .int .i64 0, .int .i64 0, .int .i64 0, .int .i64 0, .int .i64 0, .int .i64 0, .int .i64 0, .int .i64 0, .int .i64 0, .int .i64 0, .int .i64 0, .int .i64 1, .string ⟨#[]⟩, .int .u8 109] 120)) = .ok (.agg #[.int .u8 0, .int .i64 31, .int .i64 0, .int .i64 0, .int .i64 0, .int .i64 0, .int .i64 0, .int .i64 0, .int .i64 0, .int .i64 0, .int .i64 0, .int .i64 0, .int .i64 0, .int .i64 0, .int .i64 0, .int .i64 0, .int .i64 0, .int .i64 1, .string ⟨#[]⟩, .int .u8 109]) (w.alloc (.cells #[.int .u8 0, .int .i64 31, .int .i64 0, .int .i64 0, .int .i64 0, .int .i64 0, .int .i64 0, .int .i64 0, .int .i64 0, .int .i64 0, .int .i64 0, .int .i64 0, .int .i64 0, .int .i64 0, .int .i64 0, .int .i64 0, .int .i64 0, .int .i64 1, .string ⟨#[]⟩, .int .u8 109] 120)) := ord_load (heap_alloc_new w _)
  have o1 := cell_atT hX 1
  have o19 := cell_atT hX 19
  simp at o1 o19
  clear hW hB hX
  have HM : Hid (∀ W, Calls Tryz.prog 101 #[.pointer (some ⟨b, 0, none⟩), .agg #[.int .u8 0, .int .i64 31, .int .i64 0, .int .i64 0, .int .i64 0, .int .i64 0, .int .i64 0, .int .i64 0, .int .i64 0, .int .i64 0, .int .i64 0, .int .i64 0, .int .i64 0, .int .i64 0, .int .i64 0, .int .i64 0, .int .i64 0, .int .i64 1, .string ⟨#[]⟩, .int .u8 109]] W fun r w' => r = .returned (.bool false) ∧ Below W.heap.size W w') := move_ord b
  have HCh : Hid (∀ W', Below w.heap.size w W' → Calls Tryz.prog 102 #[.pointer (some ⟨b, 0, none⟩), .agg #[.int .u8 0, .int .i64 31, .int .i64 0, .int .i64 0, .int .i64 0, .int .i64 0, .int .i64 0, .int .i64 0, .int .i64 0, .int .i64 0, .int .i64 0, .int .i64 0, .int .i64 0, .int .i64 0, .int .i64 0, .int .i64 0, .int .i64 0, .int .i64 1, .string ⟨#[]⟩, .int .u8 109]] W' fun r w' => r = .returned (.bool false) ∧ Below W'.heap.size W' w') := fun W' hW' => change_ord (h.below hW') hy hx hw hn hx2 hg
  have HSe : Hid (∀ W', Below w.heap.size w W' → Calls Tryz.prog 103 #[.pointer (some ⟨b, 0, none⟩), .agg #[.int .u8 0, .int .i64 31, .int .i64 0, .int .i64 0, .int .i64 0, .int .i64 0, .int .i64 0, .int .i64 0, .int .i64 0, .int .i64 0, .int .i64 0, .int .i64 0, .int .i64 0, .int .i64 0, .int .i64 0, .int .i64 0, .int .i64 0, .int .i64 1, .string ⟨#[]⟩, .int .u8 109]] W' fun r w' => r = .returned (.tuple #[]) ∧ ScAt w' b (redd s) ∧ But [b] W' w') := fun W' hW' => set_ord (h.at_.below hW')
  clear h o1 o19 hy hx hw hg
  go_enter Tryz.func83, Tryz.ntmps83
  go_wp2_with fail
  rw [HW.out, HB.out]
  refine (HM.out _).mono ?_
  rintro e w1 ⟨rfl, hb⟩
  have hld1 := ord_load (ord_after HX.out hb)
  have HX1 := hidK (ord_after HX.out hb)
  have HB1 : Hid (Below w.heap.size w w1) := HBW.out.trans (hb.mono HBW.out.size)
  clear hb hld
  go_wp2_with fail
  refine (HCh.out _ HB1.out).mono ?_
  rintro e w2 ⟨rfl, hb⟩
  have hld2 := ord_load (ord_after HX1.out hb)
  have HB2 : Hid (Below w.heap.size w w2) := HB1.out.trans (hb.mono HB1.out.size)
  clear hb hld1
  go_wp2_with fail
  refine (HSe.out _ HB2.out).mono ?_
  rintro e w3 ⟨rfl, hs, hb⟩
  have H3 := hidK (And.intro hs hb)
  clear hs hb hld2
  go_wp2_with fail
  go_end0
  exact ⟨rfl, H3.out.1, (But.of HB2.out).trans H3.out.2⟩
set_option maxHeartbeats 4000000 in
theorem obey_ord {w : World} {b : Nat} {s : Sc} {G : Nat} {rs : List (Nat × List Gl)} (h : Scn w b s G rs) {y x n : Nat} (hy : s.cur.y = (y : Int)) (hx : s.cur.x = (x : Int)) (hw : s.w = (n : Int)) (hn : n ≤ 1000) (hx2 : x ≤ 1000) {g : Nat} {gs : List Gl} (hg : rs[y]? = some (g, gs)) : Calls Tryz.prog 66 #[.pointer (some ⟨b, 0, none⟩), .agg #[.int .u8 0, .int .i64 31, .int .i64 0, .int .i64 0, .int .i64 0, .int .i64 0, .int .i64 0, .int .i64 0, .int .i64 0, .int .i64 0, .int .i64 0, .int .i64 0, .int .i64 0, .int .i64 0, .int .i64 0, .int .i64 0, .int .i64 0, .int .i64 1, .string ⟨#[]⟩, .int .u8 109]] w fun r w' => r = .returned (.tuple #[]) ∧ ScAt w' b (redd s) ∧ But [b] w w' := by
  obtain ⟨W, hW⟩ : ∃ W, w.alloc (.cells #[.int .u8 0, .int .i64 31, .int .i64 0, .int .i64 0, .int .i64 0, .int .i64 0, .int .i64 0, .int .i64 0, .int .i64 0, .int .i64 0, .int .i64 0, .int .i64 0, .int .i64 0, .int .i64 0, .int .i64 0, .int .i64 0, .int .i64 0, .int .i64 1, .string ⟨#[]⟩, .int .u8 109] 120) = W := ⟨_, rfl⟩
  have HW := hidK hW
  obtain ⟨B, hB⟩ : ∃ B, w.heap.size = B := ⟨_, rfl⟩
  have HB := hidK hB
  have hX : W.heap[B]? = some (.cells #[.int .u8 0, .int .i64 31, .int .i64 0, .int .i64 0, .int .i64 0, .int .i64 0, .int .i64 0, .int .i64 0, .int .i64 0, .int .i64 0, .int .i64 0, .int .i64 0, .int .i64 0, .int .i64 0, .int .i64 0, .int .i64 0, .int .i64 0, .int .i64 1, .string ⟨#[]⟩, .int .u8 109] 120 (0, 0)) := by rw [← hB, ← hW]; exact heap_alloc_new w _
  have HX := hidK hX
  have HBW : Hid (Below w.heap.size w W) := by rw [← hW]; exact (Below.refl _ _).alloc (Nat.le_refl _) _
  have hld : (Instr.loadAt 120 (.pointer (some ⟨w.heap.size, 0, none⟩))).run Tryz.prog (w.alloc (.cells #[.int .u8 0, .int .i64 31, .int .i64 0, .int .i64 0, .int .i64 0, .int .i64 0, .int .i64 0, .int .i64 0, .int .i64 0, .int .i64 0, .int .i64 0, .int .i64 0, .int .i64 0, .int .i64 0, .int .i64 0, .int .i64 0, .int .i64 0, .int .i64 1, .string ⟨#[]⟩, .int .u8 109] 120)) = .ok (.agg #[.int .u8 0, .int .i64 31, .int .i64 0, .int .i64 0, .int .i64 0, .int .i64 0, .int .i64 0, .int .i64 0, .int .i64 0, .int .i64 0, .int .i64 0, .int .i64 0, .int .i64 0, .int .i64 0, .int .i64 0, .int .i64 0, .int .i64 0, .int .i64 1, .string ⟨#[]⟩, .int .u8 109]) (w.alloc (.cells #[.int .u8 0, .int .i64 31, .int .i64 0, .int .i64 0, .int .i64 0, .int .i64 0, .int .i64 0, .int .i64 0, .int .i64 0, .int .i64 0, .int .i64 0, .int .i64 0, .int .i64 0, .int .i64 0, .int .i64 0, .int .i64 0, .int .i64 0, .int .i64 1, .string ⟨#[]⟩, .int .u8 109] 120)) := ord_load (heap_alloc_new w _)
  have o1 := cell_atT hX 1
  have o19 := cell_atT hX 19
  simp at o1 o19
  clear hW hB hX
  have HM : Hid (Calls Tryz.prog 83 #[.pointer (some ⟨b, 0, none⟩), .agg #[.int .u8 0, .int .i64 31, .int .i64 0, .int .i64 0, .int .i64 0, .int .i64 0, .int .i64 0, .int .i64 0, .int .i64 0, .int .i64 0, .int .i64 0, .int .i64 0, .int .i64 0, .int .i64 0, .int .i64 0, .int .i64 0, .int .i64 0, .int .i64 1, .string ⟨#[]⟩, .int .u8 109]] W fun r w' => r = .returned (.tuple #[]) ∧ ScAt w' b (redd s) ∧ But [b] W w') := obeyPlain_ord (h.below HBW.out) hy hx hw hn hx2 hg
  clear h o1 o19 hy hx hw hg
  go_enter Tryz.func66, Tryz.ntmps66
  go_wp2_with fail
  rw [HW.out]
  refine HM.out.mono ?_
  rintro e w1 ⟨rfl, hs, hb⟩
  have H3 := hidK (And.intro hs hb)
  clear hs hb hld
  go_wp2_with fail
  go_end0
  exact ⟨rfl, H3.out.1, (But.of HBW.out).trans H3.out.2⟩
end Go.Proofs.YtooahffclghcjaaGreatDoor
