/-
  Plans: the document's body of every part of a layout.
  Plans: the document's body of a part of a layout, one direction.
  Plans: the document's body of a part of a layout, one direction.
  Plans: the document's body of a part of a layout.
-/
import Derived.Test.YtglncninkocgaabGreatDoorDF
import Derived.Test.YtglncninkocgaabGreatDoorCZB
namespace Go.Proofs.YtglncninkocgaabGreatDoor
open Go.RowKit
set_option linter.unusedVariables false
set_option maxRecDepth 20000

def BodyG (b o cp n : Nat) (l : List CellV) (w0 : World) (t : Tree) : Prop := ∀ (i : Nat) (d : Int) (w : World), Below w0.heap.size w0 w → Stands l i t d → Calls Tryz.prog 12 #[.slice (some ⟨b, o, none⟩) n cp, .int .i64 i] w fun e w' => e = .returned (.string (str t.text)) ∧ Below w.heap.size w w'
theorem cells_atN {w X : World} {c : CellV} {T : TypeId} (h : Below (w.alloc (.cells c.vals T)).heap.size (w.alloc (.cells c.vals T)) X) : X.cell? ⟨w.heap.size, 1, none⟩ = some (.int .i64 c.kind) ∧ X.cell? ⟨w.heap.size, 2, none⟩ = some (.int .i64 c.x) ∧ X.cell? ⟨w.heap.size, 3, none⟩ = some (.int .i64 c.y) ∧ X.cell? ⟨w.heap.size, 4, none⟩ = some (.int .i64 c.w) ∧ X.cell? ⟨w.heap.size, 5, none⟩ = some (.int .i64 c.h) ∧ X.cell? ⟨w.heap.size, 6, none⟩ = some (.int .i64 c.p) := by
  have h1 := (MapKept.heap_alloc w (.cells c.vals T)).1
  have h2 : X.heap[w.heap.size]? = some (.cells c.vals T (0, 0)) := (h.block w.heap.size (by simp)).trans h1
  exact ⟨cell_atN h2 1, cell_atN h2 2, cell_atN h2 3, cell_atN h2 4, cell_atN h2 5, cell_atN h2 6⟩
theorem tail_more {ts : List Tree} (u : Tree) (h : ts ≠ []) : (moreT (ts ++ [u])).tail = (moreT ts).tail ++ 44 :: u.text := by
  rw [moreT_app]
  cases ts with
  | nil => exact absurd rfl h
  | cons t ts =>
    show (t.text ++ moreT ts) ++ moreT [u] = (t.text ++ moreT ts) ++ _
    rw [show moreT [u] = 44 :: (u.text ++ []) from rfl, List.append_nil]

set_option maxHeartbeats 2000000 in
theorem body_leaf (b o cp n : Nat) (l : List CellV) (w0 : World) (hs : SeenIn w0 b o l) (hn : l.length = n) (hn1 : n ≤ 1000) (B : Box) (p : Int) (hB : B.Fit) (hp : Rng p) (hsd : (Tree.leaf B p).sound = true) (hkd : (Tree.leaf B p).kinds) : BodyG b o cp n l w0 (.leaf B p) := by
  intro i d w hw hst
  have HIn := hidden (stands_in hsd hkd hst)
  have HS := hidden hs
  obtain ⟨F, hF⟩ : ∃ F : Int → ByteArray, F = fun n => str (putL n) := ⟨_, rfl⟩
  have HF : Hid (∀ n, F n = str (putL n)) := fun n => by rw [hF]
  have HPut : Hid (∀ n X, Rng n → Calls Tryz.prog 27 #[.int .i64 n] X fun e w' => e = .returned (.string (F n)) ∧ Below X.heap.size X w') := fun n X hn => by rw [HF.out]; exact refPutNumber_any n X (by have := hn.1; omega) (by have := hn.2; omega)
  have zF : ∀ n, (F n).size ≤ 19 := fun n => by rw [HF.out, str_size]; exact putL_length n
  have z1 := zF B.w
  have z2 := zF B.h
  have z3 := zF B.x
  have z4 := zF B.y
  have HBo := hidden hB
  have g1 : ¬ 9223372036854775807 < (F B.w).size + 1 := by omega
  have g2 : ¬ 9223372036854775807 < (F B.w).size + 1 + (F B.h).size := by omega
  have g3 : ¬ 9223372036854775807 < (F B.w).size + 1 + (F B.h).size + 1 := by omega
  have g4 : ¬ 9223372036854775807 < (F B.w).size + 1 + (F B.h).size + 1 + (F B.x).size := by omega
  have g5 : ¬ 9223372036854775807 < (F B.w).size + 1 + (F B.h).size + 1 + (F B.x).size + 1 := by omega
  have g6 : ¬ 9223372036854775807 < (F B.w).size + 1 + (F B.h).size + 1 + (F B.x).size + 1 + (F B.y).size := by omega
  have z5 := zF p
  have hiz : (i : Int) < (n : Int) := by have := HIn.out.2.2.2; have h1 : (Tree.leaf B p).size = 1 := rfl; omega
  obtain ⟨p0, p1, p2, p3, p4, p5, p6⟩ := (HS.out.below hw) i _ HIn.out.1
  simp only [Tree.headC] at p0 p1 p2 p3 p4 p5 p6
  have HCell : Hid (∀ X, Below (w.alloc (.cells #[.int .i64 d, .int .i64 1, .int .i64 B.x, .int .i64 B.y, .int .i64 B.w, .int .i64 B.h, .int .i64 p] 36)).heap.size (w.alloc (.cells #[.int .i64 d, .int .i64 1, .int .i64 B.x, .int .i64 B.y, .int .i64 B.w, .int .i64 B.h, .int .i64 p] 36)) X → X.cell? ⟨w.heap.size, 1, none⟩ = some (.int .i64 1) ∧ X.cell? ⟨w.heap.size, 2, none⟩ = some (.int .i64 B.x) ∧ X.cell? ⟨w.heap.size, 3, none⟩ = some (.int .i64 B.y) ∧ X.cell? ⟨w.heap.size, 4, none⟩ = some (.int .i64 B.w) ∧ X.cell? ⟨w.heap.size, 5, none⟩ = some (.int .i64 B.h) ∧ X.cell? ⟨w.heap.size, 6, none⟩ = some (.int .i64 p)) := fun X hX => cells_atN (c := ⟨d, 1, B.x, B.y, B.w, B.h, p⟩) hX
  have HPp := hidden hp
  have HEnd : Hid (F B.w ++ ⟨#[120]⟩ ++ F B.h ++ ⟨#[44]⟩ ++ F B.x ++ ⟨#[44]⟩ ++ F B.y ++ ⟨#[44]⟩ ++ F p = str (Tree.leaf B p).text) := by
    show _ = _
    simp only [HF.out]
    show str (putL B.w) ++ str [120] ++ str (putL B.h) ++ str [44] ++ str (putL B.x) ++ str [44] ++ str (putL B.y) ++ str [44] ++ str (putL p) = str (boxT B ++ 44 :: putL p)
    simp only [str_cat]
    unfold boxT
    simp
  have HB0 : Hid (Below w.heap.size w (w.alloc (.cells #[.int .i64 d, .int .i64 1, .int .i64 B.x, .int .i64 B.y, .int .i64 B.w, .int .i64 B.h, .int .i64 p] 36))) := (Below.refl _ _).alloc (Nat.le_refl _) _
  clear hs hn hsd hkd hst hF hp hB zF hw
  go_enter Tryz.func12, Tryz.ntmps12
  go_wp2_with fail
  obtain ⟨m1, m2, m3, m4, m5, m6⟩ := HCell.out _ (Below.refl _ _)
  have HBx := hidden (Below.refl (w.alloc (.cells #[.int .i64 d, .int .i64 1, .int .i64 B.x, .int .i64 B.y, .int .i64 B.w, .int .i64 B.h, .int .i64 p] 36)).heap.size (w.alloc (.cells #[.int .i64 d, .int .i64 1, .int .i64 B.x, .int .i64 B.y, .int .i64 B.w, .int .i64 B.h, .int .i64 p] 36)))
  go_region_held3 (fun X => X.cell? ⟨w.heap.size, 2, none⟩ = some (.int .i64 B.x) ∧ X.cell? ⟨w.heap.size, 3, none⟩ = some (.int .i64 B.y) ∧ X.cell? ⟨w.heap.size, 4, none⟩ = some (.int .i64 B.w) ∧ X.cell? ⟨w.heap.size, 5, none⟩ = some (.int .i64 B.h)) (go_keep) ((go_at_call 27; refine (HPut.out _ _ (by first | exact HBo.out.w | exact HBo.out.h | exact HBo.out.x | exact HBo.out.y)).mono ?_; rintro e wS ⟨rfl, hbS⟩; have HBn : Hid (Below (w.alloc (.cells #[.int .i64 d, .int .i64 1, .int .i64 B.x, .int .i64 B.y, .int .i64 B.w, .int .i64 B.h, .int .i64 p] 36)).heap.size (w.alloc (.cells #[.int .i64 d, .int .i64 1, .int .i64 B.x, .int .i64 B.y, .int .i64 B.w, .int .i64 B.h, .int .i64 p] 36)) wS) := below_step (by first | exact HBx.out | exact HBx.out.drew) hbS; clear hbS; clear HBx; have HBx := hidden HBn.out; clear HBn; obtain ⟨m1, m2, m3, m4, m5, m6⟩ := HCell.out wS HBx.out))
  all_goals (
    go_wp2_with (go_at_call 27; refine (HPut.out _ _ HPp.out).mono ?_; rintro e w9 ⟨rfl, hb9⟩)
    go_ret
    exact ⟨by first | (rw [HEnd.out]; done) | (rw [HEnd.out]; rfl), below_step HB0.out (below_step (by first | exact HBx.out | exact HBx.out.drew) hb9)⟩)

theorem parts_in : ∀ (ts : List Tree) (B : Box) (k : Int), soundAll ts B k = true → kindsAll ts → ∀ t ∈ ts, t.sound = true ∧ t.kinds
  | [], B, k, h1, h2, t, ht => by cases ht
  | u :: us, B, k, h1, h2, t, ht => by
    unfold soundAll at h1
    simp only [Bool.and_eq_true] at h1
    rcases List.mem_cons.1 ht with e | ht
    · rw [e]; exact ⟨h1.1.1, h2.1⟩
    · exact parts_in us B k h1.2 h2.2 t ht
end Go.Proofs.YtglncninkocgaabGreatDoor

namespace Go.Proofs.YtglncninkocgaabGreatDoor
open Go.RowKit
set_option linter.unusedVariables false
set_option maxRecDepth 20000

set_option maxHeartbeats 4000000 in
theorem body_split2 (b o cp n : Nat) (l : List CellV) (w0 : World) (hs : SeenIn w0 b o l) (hn : l.length = n) (hn1 : n ≤ 1000) (B : Box) (ts : List Tree) (hB : B.Fit) (hsd : (Tree.split B 2 ts).sound = true) (hkd : (Tree.split B 2 ts).kinds) (hz : (Tree.split B 2 ts).size ≤ 1000) (hall : ∀ t ∈ ts, BodyG b o cp n l w0 t) : BodyG b o cp n l w0 (.split B 2 ts) := by
  intro i d w hw hst
  have HIn := hidden (stands_in hsd hkd hst)
  have HS := hidden hs
  obtain ⟨F, hF⟩ : ∃ F : Int → ByteArray, F = fun n => str (putL n) := ⟨_, rfl⟩
  have HF : Hid (∀ n, F n = str (putL n)) := fun n => by rw [hF]
  have HPut : Hid (∀ n X, Rng n → Calls Tryz.prog 27 #[.int .i64 n] X fun e w' => e = .returned (.string (F n)) ∧ Below X.heap.size X w') := fun n X hn => by rw [HF.out]; exact refPutNumber_any n X (by have := hn.1; omega) (by have := hn.2; omega)
  have zF : ∀ n, (F n).size ≤ 19 := fun n => by rw [HF.out, str_size]; exact putL_length n
  have z1 := zF B.w
  have z2 := zF B.h
  have z3 := zF B.x
  have z4 := zF B.y
  have HBo := hidden hB
  have g1 : ¬ 9223372036854775807 < (F B.w).size + 1 := by omega
  have g2 : ¬ 9223372036854775807 < (F B.w).size + 1 + (F B.h).size := by omega
  have g3 : ¬ 9223372036854775807 < (F B.w).size + 1 + (F B.h).size + 1 := by omega
  have g4 : ¬ 9223372036854775807 < (F B.w).size + 1 + (F B.h).size + 1 + (F B.x).size := by omega
  have g5 : ¬ 9223372036854775807 < (F B.w).size + 1 + (F B.h).size + 1 + (F B.x).size + 1 := by omega
  have g6 : ¬ 9223372036854775807 < (F B.w).size + 1 + (F B.h).size + 1 + (F B.x).size + 1 + (F B.y).size := by omega
  have hiz : (i : Int) < (n : Int) := by have := HIn.out.2.2.2; have h1 : (Tree.split B 2 ts).size = 1 + sizes ts := rfl; omega
  obtain ⟨p0, p1, p2, p3, p4, p5, p6⟩ := (HS.out.below hw) i _ HIn.out.1
  simp only [Tree.headC] at p0 p1 p2 p3 p4 p5 p6
  have HCell : Hid (∀ X, Below (w.alloc (.cells #[.int .i64 d, .int .i64 2, .int .i64 B.x, .int .i64 B.y, .int .i64 B.w, .int .i64 B.h, .int .i64 0] 36)).heap.size (w.alloc (.cells #[.int .i64 d, .int .i64 2, .int .i64 B.x, .int .i64 B.y, .int .i64 B.w, .int .i64 B.h, .int .i64 0] 36)) X → X.cell? ⟨w.heap.size, 1, none⟩ = some (.int .i64 2) ∧ X.cell? ⟨w.heap.size, 2, none⟩ = some (.int .i64 B.x) ∧ X.cell? ⟨w.heap.size, 3, none⟩ = some (.int .i64 B.y) ∧ X.cell? ⟨w.heap.size, 4, none⟩ = some (.int .i64 B.w) ∧ X.cell? ⟨w.heap.size, 5, none⟩ = some (.int .i64 B.h) ∧ X.cell? ⟨w.heap.size, 6, none⟩ = some (.int .i64 0)) := fun X hX => cells_atN (c := ⟨d, 2, B.x, B.y, B.w, B.h, 0⟩) hX
  have hsz : (Tree.split B 2 ts).size = 1 + sizes ts := rfl
  rw [hsz] at hz
  have hparts : ∀ t ∈ ts, t.sound = true ∧ t.kinds := by
    unfold Tree.sound at hsd
    simp only [Bool.and_eq_true] at hsd
    exact parts_in ts B 2 hsd.2.1 hkd.2
  have HBh : Hid (∀ (u : Tree) (j : Nat) (e : Int) (X : World), u.sound = true → u.kinds → Stands l j u e → Below w0.heap.size w0 X → Calls Tryz.prog 28 #[.slice (some ⟨b, o, none⟩) n cp, .int .i64 j] X fun e w' => e = .returned (.int .i64 ((j + u.size : Nat) : Int)) ∧ Below X.heap.size X w') := fun u j e X h1 h2 h3 hX => by
    obtain ⟨a1, a2, a3, a4⟩ := stands_in h1 h2 h3
    exact behind_ok b o cp n l X (hs.below hX) hn hn1 j u.size _ e a1 (headC_depth u e) a2 a3 u.size_pos (by omega)
  have HB1 : Hid (∀ X, Below w0.heap.size w0 X → Calls Tryz.prog 28 #[.slice (some ⟨b, o, none⟩) n cp, .int .i64 i] X fun e w' => e = .returned (.int .i64 ((i + 1 + sizes ts : Nat) : Int)) ∧ Below X.heap.size X w') := fun X hX => by
    have h := HBh.out _ i d X hsd hkd hst hX
    rw [hsz, ← Nat.add_assoc] at h
    exact h
  have HP : Hid (∀ (ts1 : List Tree) (u : Tree) (ts2 : List Tree) (X : World), ts = ts1 ++ u :: ts2 → Below w0.heap.size w0 X → Calls Tryz.prog 12 #[.slice (some ⟨b, o, none⟩) n cp, .int .i64 ((i + 1 + sizes ts1 : Nat) : Int)] X fun e w' => e = .returned (.string (str u.text)) ∧ Below X.heap.size X w') := fun ts1 u ts2 X e hX => by
    subst e
    exact hall u (by simp) _ _ X hX (stands_part hst)
  have HQ : Hid (∀ (ts1 : List Tree) (u : Tree) (ts2 : List Tree) (X : World), ts = ts1 ++ u :: ts2 → Below w0.heap.size w0 X → Calls Tryz.prog 28 #[.slice (some ⟨b, o, none⟩) n cp, .int .i64 ((i + 1 + sizes ts1 : Nat) : Int)] X fun e w' => e = .returned (.int .i64 ((i + 1 + sizes ts1 + u.size : Nat) : Int)) ∧ Below X.heap.size X w') := fun ts1 u ts2 X e hX => by
    subst e
    have hu := hparts u (by simp)
    exact HBh.out u _ _ X hu.1 hu.2 (stands_part hst) hX
  have HEnd : Hid (F B.w ++ ⟨#[120]⟩ ++ F B.h ++ ⟨#[44]⟩ ++ F B.x ++ ⟨#[44]⟩ ++ F B.y ++ ⟨#[123]⟩ = str (boxT B ++ [123])) := by
    show _ = _
    simp only [HF.out]
    show str (putL B.w) ++ str [120] ++ str (putL B.h) ++ str [44] ++ str (putL B.x) ++ str [44] ++ str (putL B.y) ++ str [123] = _
    simp only [str_cat]
    unfold boxT
    simp
  have HTx : Hid ((Tree.split B 2 ts).text = (boxT B ++ [123]) ++ (moreT ts).tail ++ [125]) := by
    show boxT B ++ openB 2 :: ((moreT ts).tail ++ [shutB 2]) = _
    rw [show openB 2 = 123 from rfl, show shutB 2 = 125 from rfl]
    simp
  have hbx : (boxT B).length ≤ 79 := boxT_length B
  have hins : i + 1 + sizes ts ≤ 1000 := by have := HIn.out.2.2.2; omega
  have HB0 : Hid (Below w.heap.size w (w.alloc (.cells #[.int .i64 d, .int .i64 2, .int .i64 B.x, .int .i64 B.y, .int .i64 B.w, .int .i64 B.h, .int .i64 0] 36))) := (Below.refl _ _).alloc (Nat.le_refl _) _
  have HW := hidden hw
  obtain ⟨R, hR⟩ : ∃ R, str (Tree.split B 2 ts).text = R := ⟨_, rfl⟩
  have HR : Hid (str (Tree.split B 2 ts).text = R) := hR
  rw [hR]
  obtain ⟨E, hE⟩ : ∃ E, i + 1 + sizes ts = E := ⟨_, rfl⟩
  have HE : Hid (i + 1 + sizes ts = E) := hE
  have hE1 : i + 1 ≤ E := by omega
  have hE2 : E ≤ 1000 := by omega
  rw [hE] at HB1
  clear hins hz hE
  clear hs hn hsd hkd hst hF hB zF hw hall hparts HBh hsz hR
  go_enter Tryz.func12, Tryz.ntmps12
  go_wp2_with fail
  obtain ⟨m1, m2, m3, m4, m5, m6⟩ := HCell.out _ (Below.refl _ _)
  have HBx := hidden (Below.refl (w.alloc (.cells #[.int .i64 d, .int .i64 2, .int .i64 B.x, .int .i64 B.y, .int .i64 B.w, .int .i64 B.h, .int .i64 0] 36)).heap.size (w.alloc (.cells #[.int .i64 d, .int .i64 2, .int .i64 B.x, .int .i64 B.y, .int .i64 B.w, .int .i64 B.h, .int .i64 0] 36)))
  go_region_held3 (fun X => X.cell? ⟨w.heap.size, 2, none⟩ = some (.int .i64 B.x) ∧ X.cell? ⟨w.heap.size, 3, none⟩ = some (.int .i64 B.y) ∧ X.cell? ⟨w.heap.size, 4, none⟩ = some (.int .i64 B.w) ∧ X.cell? ⟨w.heap.size, 5, none⟩ = some (.int .i64 B.h)) (go_keep) ((go_at_call 27; refine (HPut.out _ _ (by first | exact HBo.out.w | exact HBo.out.h | exact HBo.out.x | exact HBo.out.y)).mono ?_; rintro e wS ⟨rfl, hbS⟩; have HBn : Hid (Below (w.alloc (.cells #[.int .i64 d, .int .i64 2, .int .i64 B.x, .int .i64 B.y, .int .i64 B.w, .int .i64 B.h, .int .i64 0] 36)).heap.size (w.alloc (.cells #[.int .i64 d, .int .i64 2, .int .i64 B.x, .int .i64 B.y, .int .i64 B.w, .int .i64 B.h, .int .i64 0] 36)) wS) := below_step (by first | exact HBx.out | exact HBx.out.drew) hbS; clear hbS; clear HBx; have HBx := hidden HBn.out; clear HBn; obtain ⟨m1, m2, m3, m4, m5, m6⟩ := HCell.out wS HBx.out))
  all_goals (
    obtain ⟨Y, hY⟩ : ∃ Y, F B.w ++ (⟨#[120]⟩ : ByteArray) ++ F B.h ++ ⟨#[44]⟩ ++ F B.x ++ ⟨#[44]⟩ ++ F B.y = Y := ⟨_, rfl⟩
    rw [hY] at HEnd
    have hYs : Y.size ≤ 200 := by
      rw [← hY]
      simp only [ByteArray.size_append]
      have e1 : (⟨#[120]⟩ : ByteArray).size = 1 := rfl
      have e2 : (⟨#[44]⟩ : ByteArray).size = 1 := rfl
      rw [e1, e2]
      omega
    have HB2 := hidden (below_step HB0.out (by first | exact HBx.out | exact HBx.out.drew))
    first | rw [hY] | skip
    clear HBx m2 m3 m4 m5 m6
    clear hY
    go_wp2_with (go_at_call 28; refine (HB1.out _ (HW.out.trans ((by first | exact HB2.out | exact HB2.out.drew : Below w.heap.size w _).mono HW.out.size))).mono ?_; rintro e w3 ⟨rfl, hb3⟩; have HB3 := hidden (below_step (by first | exact HB2.out | exact HB2.out.drew) hb3); clear hb3)
    go_loopw [6, 10] (fun s6 s10 wr => ∃ (ts1 ts2 : List Tree) (S : ByteArray) (J : Nat), Hid (ts = ts1 ++ ts2) ∧ s6 = .string S ∧ Hid (S = str ((boxT B ++ [123]) ++ (moreT ts1).tail)) ∧ J ≤ E ∧ Hid (i + 1 + sizes ts1 = J) ∧ s10 = .int .i64 J ∧ Hid (Below w.heap.size w wr)) (fun _ s10 _ => E - (intOf s10).toNat)
    case atStart => exact ⟨[], ts, _, i + 1, rfl, rfl, by show _ = _; rw [HEnd.out]; simp [moreT], hE1, rfl, by first | rfl | go_num, HB3.out⟩
    case round =>
      obtain ⟨ts1, ts2, S, J, HT, rfl, HSt, hq, HQs, rfl, HBr⟩ := hrel
      have hSs : S.size ≤ 400000 := by
        rw [HSt.out, str_size]
        have h1 := more_size ts1
        have h2 : (moreT ts1).tail.length ≤ (moreT ts1).length := by rw [List.length_tail]; omega
        have h3 := HQs.out
        simp only [List.length_append, List.length_cons, List.length_nil]
        omega
      cases ts2 with
      | nil =>
        have hqz : J = E := by rw [← HQs.out, ← HE.out, HT.out, List.append_nil]
        subst hqz
        have HFin : Hid (S ++ (⟨#[125]⟩ : ByteArray) = R) := by
          show _ = _
          have e : ts = ts1 := by rw [HT.out, List.append_nil]
          rw [← HR.out, HTx.out, HSt.out, e]
          show str _ ++ str [125] = _
          rw [str_cat]
        go_wp2
        go_ret
        exact ⟨by first | (rw [HFin.out]; done) | (rw [HFin.out]; rfl), HBr.out⟩
      | cons u us =>
        have hzu := u.size_pos
        have hqu : J + u.size ≤ E := by
          rw [← HQs.out, ← HE.out, HT.out, sizes_appN, show sizes (u :: us) = u.size + sizes us from rfl]
          omega
        have htu : u.text.length ≤ 200000 := by have := text_size u; omega
        obtain ⟨U, hU⟩ : ∃ U, str u.text = U := ⟨_, rfl⟩
        have HU := hidden hU
        have hUs : U.size ≤ 200000 := by rw [← hU, str_size]; exact htu
        obtain ⟨J2, hv⟩ : ∃ v, J + u.size = v := ⟨_, rfl⟩
        have HV := hidden hv
        have HPu : Hid (∀ X, Below w0.heap.size w0 X → Calls Tryz.prog 12 #[.slice (some ⟨b, o, none⟩) n cp, .int .i64 (J : Int)] X fun e w' => e = .returned (.string U) ∧ Below X.heap.size X w') := fun X hX => by
          have h := HP.out ts1 u us X HT.out hX
          rw [HQs.out, hU] at h
          exact h
        have HQu : Hid (∀ X, Below w0.heap.size w0 X → Calls Tryz.prog 28 #[.slice (some ⟨b, o, none⟩) n cp, .int .i64 (J : Int)] X fun e w' => e = .returned (.int .i64 (J2 : Int)) ∧ Below X.heap.size X w') := fun X hX => by
          have h := HQ.out ts1 u us X HT.out hX
          rw [HQs.out, hv] at h
          exact h
        have hlt : (J : Int) < (E : Int) := by omega
        have hJ2 : J < J2 := by omega
        rw [hv] at hqu
        clear hzu
        by_cases h1 : ts1 = []
        · have hq0 : J = i + 1 := by rw [← HQs.out, h1]; rfl
          have HNx : Hid (S ++ U = str ((boxT B ++ [123]) ++ (moreT (ts1 ++ [u])).tail)) := by
            show _ = _
            rw [HSt.out, ← HU.out, h1, str_cat]
            simp [moreT]
          have hgt : ¬ (i : Int) + 1 < (J : Int) := by omega
          clear h1 hU hv hq0
          go_wp2_with (first | (go_at_call 12; refine (HPu.out _ (HW.out.trans (HBr.out.mono HW.out.size))).mono ?_; rintro e w5 ⟨rfl, hb5⟩; have HB5 := hidden (below_step HBr.out hb5); clear hb5) | (go_at_call 28; refine (HQu.out _ (HW.out.trans (HB5.out.mono HW.out.size))).mono ?_; rintro e w6 ⟨rfl, hb6⟩; have HB6 := hidden (below_step HB5.out hb6); clear hb6))
          first
            | (go_roundw
               case rel => exact ⟨ts1 ++ [u], us, _, J2, by show _ = _; rw [HT.out]; simp, rfl, HNx.out, hqu, by show _ = _; rw [sizes_appN, ← Nat.add_assoc, HQs.out, ← HV.out]; rfl, rfl, HB6.out⟩
               case measure => simp [intOf]; omega)
            | exact ⟨⟨ts1 ++ [u], us, _, J2, by show _ = _; rw [HT.out]; simp, rfl, HNx.out, hqu, by show _ = _; rw [sizes_appN, ← Nat.add_assoc, HQs.out, ← HV.out]; rfl, by first | rfl | go_num, HB6.out⟩, by simp [intOf]; omega⟩
        · have hq0 : i + 1 < J := by
            rw [← HQs.out]
            cases ts1 with
            | nil => exact absurd rfl h1
            | cons a at1 => have := a.size_pos; show i + 1 < i + 1 + (a.size + sizes at1); omega
          have HNx : Hid (S ++ (⟨#[44]⟩ : ByteArray) ++ U = str ((boxT B ++ [123]) ++ (moreT (ts1 ++ [u])).tail)) := by
            show _ = _
            rw [tail_more u h1, HSt.out, ← HU.out]
            show str _ ++ str [44] ++ str _ = _
            rw [str_cat, str_cat]
            simp
          have hgt : (i : Int) + 1 < (J : Int) := by omega
          clear h1 hU hv hq0
          go_wp2_with (first | (go_at_call 12; refine (HPu.out _ (HW.out.trans (HBr.out.mono HW.out.size))).mono ?_; rintro e w5 ⟨rfl, hb5⟩; have HB5 := hidden (below_step HBr.out hb5); clear hb5) | (go_at_call 28; refine (HQu.out _ (HW.out.trans (HB5.out.mono HW.out.size))).mono ?_; rintro e w6 ⟨rfl, hb6⟩; have HB6 := hidden (below_step HB5.out hb6); clear hb6))
          first
            | (go_roundw
               case rel => exact ⟨ts1 ++ [u], us, _, J2, by show _ = _; rw [HT.out]; simp, rfl, HNx.out, hqu, by show _ = _; rw [sizes_appN, ← Nat.add_assoc, HQs.out, ← HV.out]; rfl, rfl, HB6.out⟩
               case measure => simp [intOf]; omega)
            | exact ⟨⟨ts1 ++ [u], us, _, J2, by show _ = _; rw [HT.out]; simp, rfl, HNx.out, hqu, by show _ = _; rw [sizes_appN, ← Nat.add_assoc, HQs.out, ← HV.out]; rfl, by first | rfl | go_num, HB6.out⟩, by simp [intOf]; omega⟩)
end Go.Proofs.YtglncninkocgaabGreatDoor

namespace Go.Proofs.YtglncninkocgaabGreatDoor
open Go.RowKit
set_option linter.unusedVariables false
set_option maxRecDepth 20000

set_option maxHeartbeats 4000000 in
theorem body_split3 (b o cp n : Nat) (l : List CellV) (w0 : World) (hs : SeenIn w0 b o l) (hn : l.length = n) (hn1 : n ≤ 1000) (B : Box) (ts : List Tree) (hB : B.Fit) (hsd : (Tree.split B 3 ts).sound = true) (hkd : (Tree.split B 3 ts).kinds) (hz : (Tree.split B 3 ts).size ≤ 1000) (hall : ∀ t ∈ ts, BodyG b o cp n l w0 t) : BodyG b o cp n l w0 (.split B 3 ts) := by
  intro i d w hw hst
  have HIn := hidden (stands_in hsd hkd hst)
  have HS := hidden hs
  obtain ⟨F, hF⟩ : ∃ F : Int → ByteArray, F = fun n => str (putL n) := ⟨_, rfl⟩
  have HF : Hid (∀ n, F n = str (putL n)) := fun n => by rw [hF]
  have HPut : Hid (∀ n X, Rng n → Calls Tryz.prog 27 #[.int .i64 n] X fun e w' => e = .returned (.string (F n)) ∧ Below X.heap.size X w') := fun n X hn => by rw [HF.out]; exact refPutNumber_any n X (by have := hn.1; omega) (by have := hn.2; omega)
  have zF : ∀ n, (F n).size ≤ 19 := fun n => by rw [HF.out, str_size]; exact putL_length n
  have z1 := zF B.w
  have z2 := zF B.h
  have z3 := zF B.x
  have z4 := zF B.y
  have HBo := hidden hB
  have g1 : ¬ 9223372036854775807 < (F B.w).size + 1 := by omega
  have g2 : ¬ 9223372036854775807 < (F B.w).size + 1 + (F B.h).size := by omega
  have g3 : ¬ 9223372036854775807 < (F B.w).size + 1 + (F B.h).size + 1 := by omega
  have g4 : ¬ 9223372036854775807 < (F B.w).size + 1 + (F B.h).size + 1 + (F B.x).size := by omega
  have g5 : ¬ 9223372036854775807 < (F B.w).size + 1 + (F B.h).size + 1 + (F B.x).size + 1 := by omega
  have g6 : ¬ 9223372036854775807 < (F B.w).size + 1 + (F B.h).size + 1 + (F B.x).size + 1 + (F B.y).size := by omega
  have hiz : (i : Int) < (n : Int) := by have := HIn.out.2.2.2; have h1 : (Tree.split B 3 ts).size = 1 + sizes ts := rfl; omega
  obtain ⟨p0, p1, p2, p3, p4, p5, p6⟩ := (HS.out.below hw) i _ HIn.out.1
  simp only [Tree.headC] at p0 p1 p2 p3 p4 p5 p6
  have HCell : Hid (∀ X, Below (w.alloc (.cells #[.int .i64 d, .int .i64 3, .int .i64 B.x, .int .i64 B.y, .int .i64 B.w, .int .i64 B.h, .int .i64 0] 36)).heap.size (w.alloc (.cells #[.int .i64 d, .int .i64 3, .int .i64 B.x, .int .i64 B.y, .int .i64 B.w, .int .i64 B.h, .int .i64 0] 36)) X → X.cell? ⟨w.heap.size, 1, none⟩ = some (.int .i64 3) ∧ X.cell? ⟨w.heap.size, 2, none⟩ = some (.int .i64 B.x) ∧ X.cell? ⟨w.heap.size, 3, none⟩ = some (.int .i64 B.y) ∧ X.cell? ⟨w.heap.size, 4, none⟩ = some (.int .i64 B.w) ∧ X.cell? ⟨w.heap.size, 5, none⟩ = some (.int .i64 B.h) ∧ X.cell? ⟨w.heap.size, 6, none⟩ = some (.int .i64 0)) := fun X hX => cells_atN (c := ⟨d, 3, B.x, B.y, B.w, B.h, 0⟩) hX
  have hsz : (Tree.split B 3 ts).size = 1 + sizes ts := rfl
  rw [hsz] at hz
  have hparts : ∀ t ∈ ts, t.sound = true ∧ t.kinds := by
    unfold Tree.sound at hsd
    simp only [Bool.and_eq_true] at hsd
    exact parts_in ts B 3 hsd.2.1 hkd.2
  have HBh : Hid (∀ (u : Tree) (j : Nat) (e : Int) (X : World), u.sound = true → u.kinds → Stands l j u e → Below w0.heap.size w0 X → Calls Tryz.prog 28 #[.slice (some ⟨b, o, none⟩) n cp, .int .i64 j] X fun e w' => e = .returned (.int .i64 ((j + u.size : Nat) : Int)) ∧ Below X.heap.size X w') := fun u j e X h1 h2 h3 hX => by
    obtain ⟨a1, a2, a3, a4⟩ := stands_in h1 h2 h3
    exact behind_ok b o cp n l X (hs.below hX) hn hn1 j u.size _ e a1 (headC_depth u e) a2 a3 u.size_pos (by omega)
  have HB1 : Hid (∀ X, Below w0.heap.size w0 X → Calls Tryz.prog 28 #[.slice (some ⟨b, o, none⟩) n cp, .int .i64 i] X fun e w' => e = .returned (.int .i64 ((i + 1 + sizes ts : Nat) : Int)) ∧ Below X.heap.size X w') := fun X hX => by
    have h := HBh.out _ i d X hsd hkd hst hX
    rw [hsz, ← Nat.add_assoc] at h
    exact h
  have HP : Hid (∀ (ts1 : List Tree) (u : Tree) (ts2 : List Tree) (X : World), ts = ts1 ++ u :: ts2 → Below w0.heap.size w0 X → Calls Tryz.prog 12 #[.slice (some ⟨b, o, none⟩) n cp, .int .i64 ((i + 1 + sizes ts1 : Nat) : Int)] X fun e w' => e = .returned (.string (str u.text)) ∧ Below X.heap.size X w') := fun ts1 u ts2 X e hX => by
    subst e
    exact hall u (by simp) _ _ X hX (stands_part hst)
  have HQ : Hid (∀ (ts1 : List Tree) (u : Tree) (ts2 : List Tree) (X : World), ts = ts1 ++ u :: ts2 → Below w0.heap.size w0 X → Calls Tryz.prog 28 #[.slice (some ⟨b, o, none⟩) n cp, .int .i64 ((i + 1 + sizes ts1 : Nat) : Int)] X fun e w' => e = .returned (.int .i64 ((i + 1 + sizes ts1 + u.size : Nat) : Int)) ∧ Below X.heap.size X w') := fun ts1 u ts2 X e hX => by
    subst e
    have hu := hparts u (by simp)
    exact HBh.out u _ _ X hu.1 hu.2 (stands_part hst) hX
  have HEnd : Hid (F B.w ++ ⟨#[120]⟩ ++ F B.h ++ ⟨#[44]⟩ ++ F B.x ++ ⟨#[44]⟩ ++ F B.y ++ ⟨#[91]⟩ = str (boxT B ++ [91])) := by
    show _ = _
    simp only [HF.out]
    show str (putL B.w) ++ str [120] ++ str (putL B.h) ++ str [44] ++ str (putL B.x) ++ str [44] ++ str (putL B.y) ++ str [91] = _
    simp only [str_cat]
    unfold boxT
    simp
  have HTx : Hid ((Tree.split B 3 ts).text = (boxT B ++ [91]) ++ (moreT ts).tail ++ [93]) := by
    show boxT B ++ openB 3 :: ((moreT ts).tail ++ [shutB 3]) = _
    rw [show openB 3 = 91 from rfl, show shutB 3 = 93 from rfl]
    simp
  have hbx : (boxT B).length ≤ 79 := boxT_length B
  have hins : i + 1 + sizes ts ≤ 1000 := by have := HIn.out.2.2.2; omega
  have HB0 : Hid (Below w.heap.size w (w.alloc (.cells #[.int .i64 d, .int .i64 3, .int .i64 B.x, .int .i64 B.y, .int .i64 B.w, .int .i64 B.h, .int .i64 0] 36))) := (Below.refl _ _).alloc (Nat.le_refl _) _
  have HW := hidden hw
  obtain ⟨R, hR⟩ : ∃ R, str (Tree.split B 3 ts).text = R := ⟨_, rfl⟩
  have HR : Hid (str (Tree.split B 3 ts).text = R) := hR
  rw [hR]
  obtain ⟨E, hE⟩ : ∃ E, i + 1 + sizes ts = E := ⟨_, rfl⟩
  have HE : Hid (i + 1 + sizes ts = E) := hE
  have hE1 : i + 1 ≤ E := by omega
  have hE2 : E ≤ 1000 := by omega
  rw [hE] at HB1
  clear hins hz hE
  clear hs hn hsd hkd hst hF hB zF hw hall hparts HBh hsz hR
  go_enter Tryz.func12, Tryz.ntmps12
  go_wp2_with fail
  obtain ⟨m1, m2, m3, m4, m5, m6⟩ := HCell.out _ (Below.refl _ _)
  have HBx := hidden (Below.refl (w.alloc (.cells #[.int .i64 d, .int .i64 3, .int .i64 B.x, .int .i64 B.y, .int .i64 B.w, .int .i64 B.h, .int .i64 0] 36)).heap.size (w.alloc (.cells #[.int .i64 d, .int .i64 3, .int .i64 B.x, .int .i64 B.y, .int .i64 B.w, .int .i64 B.h, .int .i64 0] 36)))
  go_region_held3 (fun X => X.cell? ⟨w.heap.size, 2, none⟩ = some (.int .i64 B.x) ∧ X.cell? ⟨w.heap.size, 3, none⟩ = some (.int .i64 B.y) ∧ X.cell? ⟨w.heap.size, 4, none⟩ = some (.int .i64 B.w) ∧ X.cell? ⟨w.heap.size, 5, none⟩ = some (.int .i64 B.h)) (go_keep) ((go_at_call 27; refine (HPut.out _ _ (by first | exact HBo.out.w | exact HBo.out.h | exact HBo.out.x | exact HBo.out.y)).mono ?_; rintro e wS ⟨rfl, hbS⟩; have HBn : Hid (Below (w.alloc (.cells #[.int .i64 d, .int .i64 3, .int .i64 B.x, .int .i64 B.y, .int .i64 B.w, .int .i64 B.h, .int .i64 0] 36)).heap.size (w.alloc (.cells #[.int .i64 d, .int .i64 3, .int .i64 B.x, .int .i64 B.y, .int .i64 B.w, .int .i64 B.h, .int .i64 0] 36)) wS) := below_step (by first | exact HBx.out | exact HBx.out.drew) hbS; clear hbS; clear HBx; have HBx := hidden HBn.out; clear HBn; obtain ⟨m1, m2, m3, m4, m5, m6⟩ := HCell.out wS HBx.out))
  all_goals (
    obtain ⟨Y, hY⟩ : ∃ Y, F B.w ++ (⟨#[120]⟩ : ByteArray) ++ F B.h ++ ⟨#[44]⟩ ++ F B.x ++ ⟨#[44]⟩ ++ F B.y = Y := ⟨_, rfl⟩
    rw [hY] at HEnd
    have hYs : Y.size ≤ 200 := by
      rw [← hY]
      simp only [ByteArray.size_append]
      have e1 : (⟨#[120]⟩ : ByteArray).size = 1 := rfl
      have e2 : (⟨#[44]⟩ : ByteArray).size = 1 := rfl
      rw [e1, e2]
      omega
    have HB2 := hidden (below_step HB0.out (by first | exact HBx.out | exact HBx.out.drew))
    first | rw [hY] | skip
    clear HBx m2 m3 m4 m5 m6
    clear hY
    go_wp2_with (go_at_call 28; refine (HB1.out _ (HW.out.trans ((by first | exact HB2.out | exact HB2.out.drew : Below w.heap.size w _).mono HW.out.size))).mono ?_; rintro e w3 ⟨rfl, hb3⟩; have HB3 := hidden (below_step (by first | exact HB2.out | exact HB2.out.drew) hb3); clear hb3)
    go_loopw [6, 10] (fun s6 s10 wr => ∃ (ts1 ts2 : List Tree) (S : ByteArray) (J : Nat), Hid (ts = ts1 ++ ts2) ∧ s6 = .string S ∧ Hid (S = str ((boxT B ++ [91]) ++ (moreT ts1).tail)) ∧ J ≤ E ∧ Hid (i + 1 + sizes ts1 = J) ∧ s10 = .int .i64 J ∧ Hid (Below w.heap.size w wr)) (fun _ s10 _ => E - (intOf s10).toNat)
    case atStart => exact ⟨[], ts, _, i + 1, rfl, rfl, by show _ = _; rw [HEnd.out]; simp [moreT], hE1, rfl, by first | rfl | go_num, HB3.out⟩
    case round =>
      obtain ⟨ts1, ts2, S, J, HT, rfl, HSt, hq, HQs, rfl, HBr⟩ := hrel
      have hSs : S.size ≤ 400000 := by
        rw [HSt.out, str_size]
        have h1 := more_size ts1
        have h2 : (moreT ts1).tail.length ≤ (moreT ts1).length := by rw [List.length_tail]; omega
        have h3 := HQs.out
        simp only [List.length_append, List.length_cons, List.length_nil]
        omega
      cases ts2 with
      | nil =>
        have hqz : J = E := by rw [← HQs.out, ← HE.out, HT.out, List.append_nil]
        subst hqz
        have HFin : Hid (S ++ (⟨#[93]⟩ : ByteArray) = R) := by
          show _ = _
          have e : ts = ts1 := by rw [HT.out, List.append_nil]
          rw [← HR.out, HTx.out, HSt.out, e]
          show str _ ++ str [93] = _
          rw [str_cat]
        go_wp2
        go_ret
        exact ⟨by first | (rw [HFin.out]; done) | (rw [HFin.out]; rfl), HBr.out⟩
      | cons u us =>
        have hzu := u.size_pos
        have hqu : J + u.size ≤ E := by
          rw [← HQs.out, ← HE.out, HT.out, sizes_appN, show sizes (u :: us) = u.size + sizes us from rfl]
          omega
        have htu : u.text.length ≤ 200000 := by have := text_size u; omega
        obtain ⟨U, hU⟩ : ∃ U, str u.text = U := ⟨_, rfl⟩
        have HU := hidden hU
        have hUs : U.size ≤ 200000 := by rw [← hU, str_size]; exact htu
        obtain ⟨J2, hv⟩ : ∃ v, J + u.size = v := ⟨_, rfl⟩
        have HV := hidden hv
        have HPu : Hid (∀ X, Below w0.heap.size w0 X → Calls Tryz.prog 12 #[.slice (some ⟨b, o, none⟩) n cp, .int .i64 (J : Int)] X fun e w' => e = .returned (.string U) ∧ Below X.heap.size X w') := fun X hX => by
          have h := HP.out ts1 u us X HT.out hX
          rw [HQs.out, hU] at h
          exact h
        have HQu : Hid (∀ X, Below w0.heap.size w0 X → Calls Tryz.prog 28 #[.slice (some ⟨b, o, none⟩) n cp, .int .i64 (J : Int)] X fun e w' => e = .returned (.int .i64 (J2 : Int)) ∧ Below X.heap.size X w') := fun X hX => by
          have h := HQ.out ts1 u us X HT.out hX
          rw [HQs.out, hv] at h
          exact h
        have hlt : (J : Int) < (E : Int) := by omega
        have hJ2 : J < J2 := by omega
        rw [hv] at hqu
        clear hzu
        by_cases h1 : ts1 = []
        · have hq0 : J = i + 1 := by rw [← HQs.out, h1]; rfl
          have HNx : Hid (S ++ U = str ((boxT B ++ [91]) ++ (moreT (ts1 ++ [u])).tail)) := by
            show _ = _
            rw [HSt.out, ← HU.out, h1, str_cat]
            simp [moreT]
          have hgt : ¬ (i : Int) + 1 < (J : Int) := by omega
          clear h1 hU hv hq0
          go_wp2_with (first | (go_at_call 12; refine (HPu.out _ (HW.out.trans (HBr.out.mono HW.out.size))).mono ?_; rintro e w5 ⟨rfl, hb5⟩; have HB5 := hidden (below_step HBr.out hb5); clear hb5) | (go_at_call 28; refine (HQu.out _ (HW.out.trans (HB5.out.mono HW.out.size))).mono ?_; rintro e w6 ⟨rfl, hb6⟩; have HB6 := hidden (below_step HB5.out hb6); clear hb6))
          first
            | (go_roundw
               case rel => exact ⟨ts1 ++ [u], us, _, J2, by show _ = _; rw [HT.out]; simp, rfl, HNx.out, hqu, by show _ = _; rw [sizes_appN, ← Nat.add_assoc, HQs.out, ← HV.out]; rfl, rfl, HB6.out⟩
               case measure => simp [intOf]; omega)
            | exact ⟨⟨ts1 ++ [u], us, _, J2, by show _ = _; rw [HT.out]; simp, rfl, HNx.out, hqu, by show _ = _; rw [sizes_appN, ← Nat.add_assoc, HQs.out, ← HV.out]; rfl, by first | rfl | go_num, HB6.out⟩, by simp [intOf]; omega⟩
        · have hq0 : i + 1 < J := by
            rw [← HQs.out]
            cases ts1 with
            | nil => exact absurd rfl h1
            | cons a at1 => have := a.size_pos; show i + 1 < i + 1 + (a.size + sizes at1); omega
          have HNx : Hid (S ++ (⟨#[44]⟩ : ByteArray) ++ U = str ((boxT B ++ [91]) ++ (moreT (ts1 ++ [u])).tail)) := by
            show _ = _
            rw [tail_more u h1, HSt.out, ← HU.out]
            show str _ ++ str [44] ++ str _ = _
            rw [str_cat, str_cat]
            simp
          have hgt : (i : Int) + 1 < (J : Int) := by omega
          clear h1 hU hv hq0
          go_wp2_with (first | (go_at_call 12; refine (HPu.out _ (HW.out.trans (HBr.out.mono HW.out.size))).mono ?_; rintro e w5 ⟨rfl, hb5⟩; have HB5 := hidden (below_step HBr.out hb5); clear hb5) | (go_at_call 28; refine (HQu.out _ (HW.out.trans (HB5.out.mono HW.out.size))).mono ?_; rintro e w6 ⟨rfl, hb6⟩; have HB6 := hidden (below_step HB5.out hb6); clear hb6))
          first
            | (go_roundw
               case rel => exact ⟨ts1 ++ [u], us, _, J2, by show _ = _; rw [HT.out]; simp, rfl, HNx.out, hqu, by show _ = _; rw [sizes_appN, ← Nat.add_assoc, HQs.out, ← HV.out]; rfl, rfl, HB6.out⟩
               case measure => simp [intOf]; omega)
            | exact ⟨⟨ts1 ++ [u], us, _, J2, by show _ = _; rw [HT.out]; simp, rfl, HNx.out, hqu, by show _ = _; rw [sizes_appN, ← Nat.add_assoc, HQs.out, ← HV.out]; rfl, by first | rfl | go_num, HB6.out⟩, by simp [intOf]; omega⟩)
end Go.Proofs.YtglncninkocgaabGreatDoor

namespace Go.Proofs.YtglncninkocgaabGreatDoor
open Go.RowKit
set_option linter.unusedVariables false
set_option maxRecDepth 20000

mutual
theorem body_all (b o cp n : Nat) (l : List CellV) (w0 : World) (hs : SeenIn w0 b o l) (hn : l.length = n) (hn1 : n ≤ 1000) : ∀ (t : Tree), t.nums → t.sound = true → t.kinds → t.size ≤ 1000 → BodyG b o cp n l w0 t
  | .leaf B p, h, h1, h2, h3 => body_leaf b o cp n l w0 hs hn hn1 B p h.1 h.2 h1 h2
  | .split B k ts, h, h1, h2, h3 => by
    have hp : ∀ t ∈ ts, t.sound = true ∧ t.kinds := by
      have h1' := h1
      unfold Tree.sound at h1'
      simp only [Bool.and_eq_true] at h1'
      exact parts_in ts B k h1'.2.1 h2.2
    have hz : sizes ts ≤ 1000 := by have : (Tree.split B k ts).size = 1 + sizes ts := rfl; omega
    have hall := bodies_all b o cp n l w0 hs hn hn1 ts h.2.2.2 hp hz
    rcases h.2.2.1 with rfl | rfl
    · exact body_split2 b o cp n l w0 hs hn hn1 B ts h.1 h1 h2 h3 hall
    · exact body_split3 b o cp n l w0 hs hn hn1 B ts h.1 h1 h2 h3 hall
theorem bodies_all (b o cp n : Nat) (l : List CellV) (w0 : World) (hs : SeenIn w0 b o l) (hn : l.length = n) (hn1 : n ≤ 1000) : ∀ (ts : List Tree), numsAll ts → (∀ t ∈ ts, t.sound = true ∧ t.kinds) → sizes ts ≤ 1000 → ∀ t ∈ ts, BodyG b o cp n l w0 t
  | [], h, h1, h3, t, ht => by cases ht
  | u :: us, h, h1, h3, t, ht => by
    have hz : sizes (u :: us) = u.size + sizes us := rfl
    rcases List.mem_cons.1 ht with e | ht
    · rw [e]; exact body_all b o cp n l w0 hs hn hn1 u h.1 (h1 u (List.mem_cons_self ..)).1 (h1 u (List.mem_cons_self ..)).2 (by omega)
    · exact bodies_all b o cp n l w0 hs hn hn1 us h.2 (fun t ht => h1 t (List.mem_cons_of_mem _ ht)) (by omega) t ht
end
end Go.Proofs.YtglncninkocgaabGreatDoor
