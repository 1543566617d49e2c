/-
  Options: the document's rows.
-/
import Derived.Test.YtgdkpmfdpfjdjaaGreatDoorOScp
import Derived.Deep.DeepCutAuto
namespace Go.Proofs.YtgdkpmfdpfjdjaaGreatDoor
open Go.RowKit
set_option linter.unusedVariables false
set_option maxRecDepth 100000

/-- A row of the document's, its words at a block. -/
def docV (p : Nat) (r : Orow) : List Value := match r.kd with
  | .num lo hi => [.string r.name, .int .i64 r.scope, .int .u8 110, .int .i64 lo, .int .i64 hi, .slice none 0 0, .string r.first]
  | .txt => [.string r.name, .int .i64 r.scope, .int .u8 116, .int .i64 0, .int .i64 0, .slice none 0 0, .string r.first]
  | .key => [.string r.name, .int .i64 r.scope, .int .u8 107, .int .i64 0, .int .i64 0, .slice none 0 0, .string r.first]
  | .flag => [.string r.name, .int .i64 r.scope, .int .u8 102, .int .i64 0, .int .i64 0, .slice none 0 0, .string r.first]
  | .cho ws => [.string r.name, .int .i64 r.scope, .int .u8 99, .int .i64 0, .int .i64 0, .slice (some ⟨p, 0, none⟩) ws.length ws.length, .string r.first]
def wpO (h i : Nat) : Nat := if i = 6 then h else if i = 8 then h + 1 else h + 2
def docsO (h : Nat) : Nat → List Orow → List Value
  | _, [] => []
  | i, r :: l => docV (wpO h i) r ++ docsO h (i + 1) l
theorem docV_len (p : Nat) (r : Orow) : (docV p r).length = 7 := by
  unfold docV
  split <;> rfl
theorem docsO_at (h : Nat) : ∀ (l : List Orow) (i j : Nat) (hj : j < l.length) (c : Nat), c < 7 → (docsO h i l)[j * 7 + c]? = (docV (wpO h (i + j)) l[j])[c]?
  | r :: l, i, 0, _, c, hc => by
    show (docV _ r ++ _)[0 * 7 + c]? = _
    rw [Nat.zero_mul, Nat.zero_add, List.getElem?_append_left (by rw [docV_len]; exact hc)]
    rfl
  | r :: l, i, j + 1, hj, c, hc => by
    show (docV _ r ++ _)[(j + 1) * 7 + c]? = _
    rw [List.getElem?_append_right (by rw [docV_len]; omega), docV_len, show (j + 1) * 7 + c - 7 = j * 7 + c by omega, docsO_at h l (i + 1) j (by simpa using hj) c hc, show i + 1 + j = i + (j + 1) by omega]
    rfl
/-- The words of a row, in memory. -/
def wordsAt (Y : World) (p : Nat) (r : Orow) : Prop := ∀ ws, r.kd = .cho ws → Y.heap[p]? = some (.cells (ws.map Value.string).toArray 9 (0, 0))
/-- The document's rows in memory. -/
structure DocRows (Y : World) (h : Nat) : Prop where
  rows : Y.heap[h + 1 + 1 + 1]? = some (.cells (docsO h 0 rowsO).toArray 56 (0, 0))
  w0 : Y.heap[h]? = some (.cells #[.string ⟨#[112, 108, 97, 105, 110]⟩, .string ⟨#[114, 101, 118, 101, 114, 115, 101]⟩, .string ⟨#[98, 111, 108, 100]⟩] 9 (0, 0))
  w1 : Y.heap[h + 1]? = some (.cells #[.string ⟨#[108, 105, 110, 101]⟩, .string ⟨#[100, 111, 117, 98, 108, 101]⟩, .string ⟨#[98, 108, 97, 110, 107]⟩] 9 (0, 0))
  w2 : Y.heap[h + 1 + 1]? = some (.cells #[.string ⟨#[98, 111, 116, 116, 111, 109]⟩, .string ⟨#[116, 111, 112]⟩] 9 (0, 0))
theorem DocRows.below {Y Z : World} {h : Nat} (d : DocRows Y h) (hb : Below Y.heap.size Y Z) : DocRows Z h :=
  ⟨(hb.block _ (lt_block d.rows)).trans d.rows, (hb.block _ (lt_block d.w0)).trans d.w0, (hb.block _ (lt_block d.w1)).trans d.w1, (hb.block _ (lt_block d.w2)).trans d.w2⟩
theorem alloc_size (w : World) (o : Obj) : (w.alloc o).heap.size = w.heap.size + 1 := by simp only [World.size_alloc]
theorem four_blocks (w : World) (A B C D : Array Value) (t u : TypeId) : ∃ W, W = (((w.alloc (.cells A t)).alloc (.cells B t)).alloc (.cells C t)).alloc (.cells D u) ∧ W.heap[w.heap.size + 1 + 1 + 1]? = some (.cells D u (0, 0)) ∧ W.heap[w.heap.size]? = some (.cells A t (0, 0)) ∧ W.heap[w.heap.size + 1]? = some (.cells B t (0, 0)) ∧ W.heap[w.heap.size + 1 + 1]? = some (.cells C t (0, 0)) ∧ Below w.heap.size w W := by
  refine ⟨_, rfl, ?_, ?_, ?_, ?_, ?_⟩
  · have h := heap_alloc_new (((w.alloc (.cells A t)).alloc (.cells B t)).alloc (.cells C t)) (.cells D u)
    rw [alloc_size, alloc_size, alloc_size] at h
    exact h
  · rw [Below.heap_alloc _ _ _ (by rw [alloc_size, alloc_size, alloc_size]; omega), Below.heap_alloc _ _ _ (by rw [alloc_size, alloc_size]; omega), Below.heap_alloc _ _ _ (by rw [alloc_size]; omega)]
    exact heap_alloc_new w (.cells A t)
  · rw [Below.heap_alloc _ _ _ (by rw [alloc_size, alloc_size, alloc_size]; omega), Below.heap_alloc _ _ _ (by rw [alloc_size, alloc_size]; omega)]
    have h := heap_alloc_new (w.alloc (.cells A t)) (.cells B t)
    rw [alloc_size] at h
    exact h
  · rw [Below.heap_alloc _ _ _ (by rw [alloc_size, alloc_size, alloc_size]; omega)]
    have h := heap_alloc_new ((w.alloc (.cells A t)).alloc (.cells B t)) (.cells C t)
    rw [alloc_size, alloc_size] at h
    exact h
  · exact (((Below.refl _ w).alloc (Nat.le_refl _) _).alloc (by rw [alloc_size]; omega) _).alloc (by rw [alloc_size, alloc_size]; omega) _ |>.alloc (by rw [alloc_size, alloc_size, alloc_size]; omega) _
set_option maxHeartbeats 4000000 in
theorem rows_any (w : World) : Calls Tryz.prog 21 #[] w fun e w' => e = .returned (.slice (some ⟨w.heap.size + 1 + 1 + 1, 0, none⟩) 22 22) ∧ DocRows w' w.heap.size ∧ Below w.heap.size w w' := by
  obtain ⟨W, hW, q1, q2, q3, q4, q5⟩ := four_blocks w #[.string ⟨#[112, 108, 97, 105, 110]⟩, .string ⟨#[114, 101, 118, 101, 114, 115, 101]⟩, .string ⟨#[98, 111, 108, 100]⟩] #[.string ⟨#[108, 105, 110, 101]⟩, .string ⟨#[100, 111, 117, 98, 108, 101]⟩, .string ⟨#[98, 108, 97, 110, 107]⟩] #[.string ⟨#[98, 111, 116, 116, 111, 109]⟩, .string ⟨#[116, 111, 112]⟩] (docsO w.heap.size 0 rowsO).toArray 9 56
  have HD : Hid (DocRows W w.heap.size ∧ Below w.heap.size w W) := ⟨⟨q1, q2, q3, q4⟩, q5⟩
  have HW := hidK hW
  clear q1 q2 q3 q4 q5 hW
  go_enter Tryz.func21, Tryz.ntmps21
  go_wp2_with fail
  go_ret
  refine ⟨rfl, ?_⟩
  have key : ∀ X : World, W = X → DocRows X w.heap.size ∧ Below w.heap.size w X := fun X h => h ▸ HD.out
  refine key _ ?_
  refine HW.out.trans ?_
  kernel_rfl
end Go.Proofs.YtgdkpmfdpfjdjaaGreatDoor
