/-
  A row that writes.
-/
import Derived.Test.YtplolaondmeccaaGreatDoorWRowA
import Derived.WalkKit
import Derived.OwnWalk
import Derived.LoopTactic
import Derived.Lib.Split
import Derived.RegionTactic
import Derived.Deep.RegionWith
import Derived.Deep.DrawnRows
import Derived.Laws.EntriesVeiled
namespace Go.Proofs.YtplolaondmeccaaGreatDoor
open Go.RowKit
set_option linter.unusedVariables false

/-- Texts lie in a block of n cells. -/
def TextsAt (w : World) (T : Nat) (l : List ByteArray) (n : Nat) : Prop := w.heap[T]? = some (.cells (Lib.cellsOf l n) 9 (0, 0))

theorem wpList_make_strs {P : Program} (w : World) {ops : Array Oper} {rest : List Oper} {o : Oper} {a : Act} {Q : Exit → Act → World → Prop}
    (hg : o.guard = none) (l c : Operand) (t : TypeId) (hop : o.op = Op.makeSlice t l c)
    (i : TypeInfo) (h1 : P.underlying t = some (.slice 9)) (h2 : P.info? 9 = some i) (h3 : i.zero = some (.string ⟨#[]⟩)) (h4 : i.size = 1) (h5 : i.bytes = 16)
    (n : Nat) (hl : a.eval l = .int .i64 n) (hc : a.eval c = .int .i64 n) (b2 : n ≤ 1000)
    (hK : wpList P ops Q rest (a.put o.dst (.slice (some ⟨w.heap.size, 0, none⟩) n n)) (w.alloc (.cells (Lib.cellsOf [] n) 9))) :
    wpList P ops Q (o :: rest) a w := by
  refine wpList_plain hg fun K hK' => ?_
  have hrun := run_make (P := P) w t 9 i (.string ⟨#[]⟩) h1 h2 h3 .i64 .i64 n n (by omega) (Int.le_refl _) (by rw [h5]; omega) (by omega)
  simp only [Int.toNat_natCast, h4, Nat.mul_one] at hrun
  have e : madeCells (Value.cells (.string ⟨#[]⟩)) n = Lib.cellsOf [] n := (Lib.cellsOf_nil n).symm
  rw [e] at hrun
  unfold Oper.wp
  simp [execOp, hop, hl, hc, hrun, Result.andThen]
  exact hK' _ _ hK

theorem info9 : (Tryz.prog.info? 9).map (fun i => (i.zero, i.size, i.bytes)) = some (some (.string ⟨#[]⟩), 1, 16) := by kernel_rfl

theorem fields_len (k : Nat) (h1 : 1 ≤ k) (h2 : k ≤ 24) : 1 ≤ (fieldsOf k).length ∧ (fieldsOf k).length ≤ 7 := by
  rcases (show k = 1 ∨ k = 2 ∨ k = 3 ∨ k = 4 ∨ k = 5 ∨ k = 6 ∨ k = 7 ∨ k = 8 ∨ k = 9 ∨ k = 10 ∨ k = 11 ∨ k = 12 ∨ k = 13 ∨ k = 14 ∨ k = 15 ∨ k = 16 ∨ k = 17 ∨ k = 18 ∨ k = 19 ∨ k = 20 ∨ k = 21 ∨ k = 22 ∨ k = 23 ∨ k = 24 by omega) with rfl | rfl | rfl | rfl | rfl | rfl | rfl | rfl | rfl | rfl | rfl | rfl | rfl | rfl | rfl | rfl | rfl | rfl | rfl | rfl | rfl | rfl | rfl | rfl
  all_goals (unfold fieldsOf; decide)

theorem TextsAt.lt {w : World} {T n : Nat} {l : List ByteArray} (h : TextsAt w T l n) : T < w.heap.size := lt_of_block h
theorem TextsAt.below {w w' : World} {T n B : Nat} {l : List ByteArray} (h : TextsAt w T l n) (hb : Below B w w') (hT : T < B) : TextsAt w' T l n := (hb.block T hT).trans h
theorem TextsAt.alloc {w : World} {T n : Nat} {l : List ByteArray} (h : TextsAt w T l n) (o : Obj) : TextsAt (w.alloc o) T l n := (Below.heap_alloc w o T h.lt).trans h
theorem TextsAt.next {w : World} {T n : Nat} {l : List ByteArray} (h : TextsAt w T l n) (hl : l.length < n) : w.cell? ⟨T, l.length, none⟩ = some (.string ⟨#[]⟩) := (cell_at h _).trans (Lib.cellsOf_next hl)
theorem TextsAt.free {w : World} {T n : Nat} {l : List ByteArray} (h : TextsAt w T l n) (o : Nat) : w.frozen? ⟨T, o, none⟩ = false := free_at h o
theorem TextsAt.set {w : World} {T n : Nat} {l : List ByteArray} (h : TextsAt w T l n) (hl : l.length < n) (x : ByteArray) : TextsAt (w.setCell ⟨T, l.length, none⟩ (.string x)) T (l ++ [x]) n := by
  have hlt := h.lt
  have h' : w.heap[T] = .cells (Lib.cellsOf l n) 9 (0, 0) := by unfold TextsAt at h; simpa [Array.getElem?_eq_getElem hlt] using h
  show (w.heap.modify T _)[T]? = _
  rw [Array.getElem?_eq_getElem (by simpa using hlt), Array.getElem_modify_self, h', ← Lib.cellsOf_set hl]
  rfl

/-- What the fields write. -/
def puts (fs : List FSpec) (ev : Ev) : List ByteArray := fs.map fun F => str (F.put ev)
theorem puts_snoc (fs : List FSpec) (ev : Ev) (i : Nat) (F : FSpec) (h : fs[i]? = some F) : puts (fs.take (i + 1)) ev = puts (fs.take i) ev ++ [str (F.put ev)] := by
  obtain ⟨hi, rfl⟩ := List.getElem?_eq_some_iff.1 h
  unfold puts
  rw [List.take_succ_eq_append_getElem hi, List.map_append]; rfl
theorem puts_length (fs : List FSpec) (ev : Ev) (i : Nat) (h : i ≤ fs.length) : (puts (fs.take i) ev).length = i := by unfold puts; simp; omega

/-- What holds at each round's head. -/
structure WInv (w : World) (row : Array Value) (ev : Ev) (fs : List FSpec) (i : Nat) (wr : World) : Prop where
  hev : EvAt wr (w.heap.size + 1) ev
  hrow : wr.heap[w.heap.size]? = some (.cells row 45 (0, 0))
  htexts : TextsAt wr (w.heap.size + 1 + 1) (puts (fs.take i) ev) fs.length
  hbelow : Below w.heap.size w wr

theorem WInv.start (w : World) (row : Array Value) (ev : Ev) (fs : List FSpec) :
    WInv w row ev fs 0 (((w.alloc (.cells row 45)).alloc (.cells ev.vals 27)).alloc (.cells (Lib.cellsOf [] fs.length) 9)) := by
  have e1 := EvAt.new (w.alloc (.cells row 45)) ev
  rw [size1] at e1
  refine ⟨e1.alloc _, ?_, ?_, below3 _ _ _ _⟩
  · rw [Below.heap_alloc _ _ _ (by rw [size1, size1]; omega), Below.heap_alloc _ _ _ (by rw [size1]; omega)]
    exact heap_alloc_new w _
  · have := heap_alloc_new ((w.alloc (.cells row 45)).alloc (.cells ev.vals 27)) (.cells (Lib.cellsOf [] fs.length) 9)
    rw [size1, size1] at this
    exact this

theorem WInv.next {w : World} {row : Array Value} {ev : Ev} {fs : List FSpec} {i : Nat} {wr w2 : World} {F : FSpec} (h : WInv w row ev fs i wr) (hF : fs[i]? = some F) (o : Obj) (hb : Below (wr.alloc o).heap.size (wr.alloc o) w2) :
    w2.cell? ⟨w.heap.size + 1 + 1, i, none⟩ = some (.string ⟨#[]⟩) ∧ w2.frozen? ⟨w.heap.size + 1 + 1, i, none⟩ = false ∧
      WInv w row ev fs (i + 1) (w2.setCell ⟨w.heap.size + 1 + 1, i, none⟩ (.string (str (F.put ev)))) := by
  have hi : i < fs.length := (List.getElem?_eq_some_iff.1 hF).1
  have hl := puts_length fs ev i (by omega)
  have hb' : Below wr.heap.size wr w2 := below_step (below1 wr o) hb
  have ht := h.htexts.below hb' h.htexts.lt
  have hlt : (puts (fs.take i) ev).length < fs.length := by omega
  have a1 := ht.next hlt
  have a2 := ht.set hlt (str (F.put ev))
  rw [hl] at a1 a2
  refine ⟨a1, ht.free _, ⟨?_, ?_, ?_, ?_⟩⟩
  · exact (h.hev.below hb' h.hev.lt).grown (grownBy_setCell _ _ _ _) (by simp)
  · rw [Below.heap_setCell _ _ _ _ (by show w.heap.size ≠ w.heap.size + 1 + 1; omega), hb'.block _ (lt_of_block h.hrow)]
    exact h.hrow
  · rw [puts_snoc fs ev i F hF]
    exact a2
  · exact (h.hbelow.trans (hb'.mono h.hbelow.size)).setCell (by show w.heap.size ≤ w.heap.size + 1 + 1; omega) _

/-- How long a written field can be. -/
def Short (F : FSpec) : Prop := ∀ ev : Ev, ev.Fits → (F.put ev).length ≤ 4 * slim + 1
theorem short_num (m : Int) (f : NF) : Short (fNum m f) := fun ev _ => by
  have := putL_length (f.get ev)
  show (putL _).length ≤ _
  unfold slim
  omega
theorem short_id (c : UInt8) (f : NF) : Short (fId c f) := fun ev _ => by
  have := putL_length (f.get ev)
  show (putI c _).length ≤ _
  unfold putI slim
  split
  · simp; omega
  · simp
theorem short_name : Short fName := fun ev h => by have := h.name; show ev.name.data.toList.length ≤ _; rw [size_data]; omega
theorem short_word : Short fWord := fun ev h => by have := h.name; show ev.name.data.toList.length ≤ _; rw [size_data]; omega
theorem short_plan (f : PF) : Short (fPlan f) := fun ev h => by
  have h1 := h.layout
  have h2 := h.visible
  show (f.get ev).data.toList.length ≤ _
  rw [size_data]
  cases f
  · show ev.layout.size ≤ _; omega
  · show ev.visible.size ≤ _; omega
theorem short_zoom : Short fZoom := fun ev h => by
  show (if ev.zoom then [90] else [45] : List UInt8).length ≤ _
  split <;> (simp [slim])
theorem short_colon : Short fColon := fun ev h => by show 1 ≤ _; omega
theorem short_esc (lo hi : Nat) : Short (fEsc lo hi) := fun ev h => by have := fEsc_len lo hi ev h; omega
theorem short_body : Short fBody := fun ev h => by
  have := escB_length ev.text.data.toList
  have h2 := h.text
  rw [size_data] at this
  show (escB _).length ≤ _
  omega
theorem short_reason : Short fReason := fun ev h => by
  have := fEsc_len 1 1024 ev h
  show (if ev.text.size = 0 then [] else 32 :: (fEsc 1 1024).put ev).length ≤ _
  split
  · simp
  · simp; omega
theorem short_all (k : Nat) (h1 : 1 ≤ k) (h2 : k ≤ 24) : ∀ F ∈ fieldsOf k, Short F := by
  rcases (show k = 1 ∨ k = 2 ∨ k = 3 ∨ k = 4 ∨ k = 5 ∨ k = 6 ∨ k = 7 ∨ k = 8 ∨ k = 9 ∨ k = 10 ∨ k = 11 ∨ k = 12 ∨ k = 13 ∨ k = 14 ∨ k = 15 ∨ k = 16 ∨ k = 17 ∨ k = 18 ∨ k = 19 ∨ k = 20 ∨ k = 21 ∨ k = 22 ∨ k = 23 ∨ k = 24 by omega) with rfl | rfl | rfl | rfl | rfl | rfl | rfl | rfl | rfl | rfl | rfl | rfl | rfl | rfl | rfl | rfl | rfl | rfl | rfl | rfl | rfl | rfl | rfl | rfl
  all_goals
    unfold fieldsOf
    intro F hF
    simp only [List.mem_cons, List.not_mem_nil, or_false] at hF
    rcases hF with rfl | rfl | rfl | rfl | rfl | rfl | rfl
  all_goals first | exact short_num _ _ | exact short_id _ _ | exact short_name | exact short_word | exact short_plan _ | exact short_zoom | exact short_colon | exact short_esc _ _ | exact short_body | exact short_reason
theorem joinW_length (M : Nat) : ∀ l : List (List UInt8), (∀ x ∈ l, x.length ≤ M) → (joinW l).length ≤ l.length * (M + 1)
  | [], _ => by simp [joinW, List.intercalate]
  | [a], h => by
    have := h a (by simp)
    simp [joinW, List.intercalate]
    omega
  | a :: b :: l, h => by
    have h1 := h a (by simp)
    have h2 := joinW_length M (b :: l) (fun x hx => h x (by simp [hx]))
    have e : joinW (a :: b :: l) = a ++ 32 :: joinW (b :: l) := by simp [joinW, List.intercalate]
    rw [e, List.length_append, List.length_cons, List.length_cons, Nat.add_one_mul]
    omega
theorem head_length (k : Nat) : (headOf k).length ≤ 64 := by
  unfold headOf
  split <;> simp
theorem line_length (k : Nat) (h1 : 1 ≤ k) (h2 : k ≤ 24) (ev : Ev) (h : ev.Fits) : (joinW ((fieldsOf k).map (·.put ev))).length ≤ 7 * (4 * slim + 2) := by
  have h3 := joinW_length (4 * slim + 1) ((fieldsOf k).map (·.put ev)) (fun x hx => by
    obtain ⟨F, hF, rfl⟩ := List.mem_map.1 hx
    exact short_all k h1 h2 F hF ev h)
  have h4 := (fields_len k h1 h2).2
  rw [List.length_map] at h3
  exact Nat.le_trans h3 (Nat.mul_le_mul_right _ h4)

theorem write_length (k : Nat) (h1 : 1 ≤ k) (h2 : k ≤ 24) (ev : Ev) (h : ev.Fits) : (writeS k ev).length ≤ lim := by
  have h3 := line_length k h1 h2 ev h
  have h4 := head_length k
  unfold writeS lim
  unfold slim at h3
  rw [List.length_append]
  omega

set_option maxRecDepth 20000 in
theorem write_any (k : Nat) (h1 : 1 ≤ k) (h2 : k ≤ 24) (ev : Ev) (hfit : ev.Fits) (B b : Nat) (w : World) (hE : Env w) (hF : FieldsAt B w b (fieldsOf k)) :
    Calls Tryz.prog 16 #[rowV k b, .agg ev.vals] w fun e w' => e = .returned (.string (str (writeS k ev))) ∧ Below w.heap.size w w' := by
  obtain ⟨n1, n2⟩ := fields_len k h1 h2
  obtain ⟨i9, hi9, hz0, hz1, hz2⟩ := info_parts info9
  have HW : Hid (writeS k ev = headOf k ++ joinW ((fieldsOf k).map (·.put ev))) := rfl
  have HLJ : Hid ((joinW ((fieldsOf k).map (·.put ev))).length ≤ 7 * (4 * slim + 2)) := line_length k h1 h2 ev hfit
  have HLH : Hid ((headOf k).length ≤ 64) := head_length k
  obtain ⟨fs, hfs⟩ : ∃ fs, fieldsOf k = fs := ⟨_, rfl⟩
  obtain ⟨hd, hhd⟩ : ∃ hd, headOf k = hd := ⟨_, rfl⟩
  unfold rowV
  rw [hfs] at n1 n2 HW hF HLJ ⊢
  rw [hhd] at HW HLH ⊢
  unfold slim at HLJ
  obtain ⟨ln, hln⟩ : ∃ ln, fs.length = ln := ⟨_, rfl⟩
  have HLn : Hid (fs.length = ln) := hln
  rw [hln] at n1 n2 ⊢
  rw [HW.out]
  clear hfs hhd HW
  have HF : Hid (FieldsAt B w b fs) := hF
  have HS : Hid (WInv w #[.int .i64 k, .string (str hd), .slice (some ⟨b, 0, none⟩) ln ln] ev fs 0 (((w.alloc (.cells #[.int .i64 k, .string (str hd), .slice (some ⟨b, 0, none⟩) ln ln] 45)).alloc (.cells ev.vals 27)).alloc (.cells (Lib.cellsOf [] ln) 9))) := by
    have := WInv.start w #[.int .i64 k, .string (str hd), .slice (some ⟨b, 0, none⟩) ln ln] ev fs
    rw [hln] at this
    exact this
  clear hF hln
  obtain ⟨rw, hrw⟩ : ∃ r : Array Value, #[.int .i64 k, .string (str hd), .slice (some ⟨b, 0, none⟩) ln ln] = r := ⟨_, rfl⟩
  have HRW : Hid (#[.int .i64 k, .string (str hd), .slice (some ⟨b, 0, none⟩) ln ln] = rw) := hrw
  rw [hrw] at HS
  clear hrw
  unfold Ev.vals
  go_enter Tryz.func16, Tryz.ntmps16
  go_wp2_with (at_make; refine wpList_make_strs _ rfl _ _ _ rfl i9 Tryz.underlying28 hi9 hz0 hz1 hz2 ln rfl rfl (by omega) ?_)
  go_loopw [15] (fun v wr => ∃ i : Nat, i ≤ ln ∧ v = .int .i64 i ∧ WInv w rw ev fs i wr) (fun v _ => ln - (intOf v).toNat)
  case atStart => exact ⟨0, Nat.zero_le _, rfl, HRW.out ▸ HS.out⟩
  case round =>
    obtain ⟨i, hi, rfl, hinv⟩ := hrel
    have HI : Hid (WInv w rw ev fs i wr) := hinv
    clear hinv
    by_cases hlt : i < ln
    · obtain ⟨F, hFi⟩ : ∃ F, fs[i]? = some F := ⟨_, List.getElem?_eq_getElem (by rw [HLn.out]; exact hlt)⟩
      obtain ⟨pv, rv, es, c0, c1, c2, ⟨g, lb, g', lb', rfl, rfl, eg, _, hput, _⟩, -⟩ := HF.out.2 i F hFi
      have hB := HF.out.1
      have hbl := HI.out.hbelow
      have d0 : wr.cell? ⟨b, i * 3, none⟩ = some (.func (.func g) #[] lb) := by rw [Nat.mul_comm]; exact (hbl.cell (p := ⟨b, _, none⟩) hB.2).trans c0
      have d1 : wr.cell? ⟨b, i * 3 + 1, none⟩ = some (.func (.func g') #[] lb') := by rw [Nat.mul_comm]; exact (hbl.cell (p := ⟨b, _, none⟩) hB.2).trans c1
      have d2 : wr.cell? ⟨b, i * 3 + 2, none⟩ = some (.string es) := by rw [Nat.mul_comm]; exact (hbl.cell (p := ⟨b, _, none⟩) hB.2).trans c2
      unfold Enters at eg
      have HP : Hid (Calls Tryz.prog g (#[.pointer (some ⟨w.heap.size + 1, 0, none⟩)] ++ lb) (wr.alloc (.cells #[.func (.func g) #[] lb, .func (.func g') #[] lb', .string es] 60)) fun e w' => e = .returned (.string (str (F.put ev))) ∧ Below (wr.alloc (.cells #[.func (.func g) #[] lb, .func (.func g') #[] lb', .string es] 60)).heap.size (wr.alloc (.cells #[.func (.func g) #[] lb, .func (.func g') #[] lb', .string es] 60)) w') :=
        hput _ _ ev (Since.of_below (below_step hbl (below1 _ _))) (hE.below (below_step hbl (below1 _ _))) (HI.out.hev.alloc _) hfit
      have HNx : Hid (∀ w2, Below (wr.alloc (.cells #[.func (.func g) #[] lb, .func (.func g') #[] lb', .string es] 60)).heap.size (wr.alloc (.cells #[.func (.func g) #[] lb, .func (.func g') #[] lb', .string es] 60)) w2 → w2.cell? ⟨w.heap.size + 1 + 1, i, none⟩ = some (.string ⟨#[]⟩) ∧ w2.frozen? ⟨w.heap.size + 1 + 1, i, none⟩ = false ∧
          WInv w rw ev fs (i + 1) (w2.setCell ⟨w.heap.size + 1 + 1, i, none⟩ (.string (str (F.put ev))))) := fun w2 hb2 => HI.out.next hFi _ hb2
      clear c0 c1 c2 hput hB hbl hFi
      go_wp2_with (go_at_fn g; refine HP.out.mono ?_; rintro e w2 ⟨rfl, hb2⟩; obtain ⟨x1, x2, x3⟩ := HNx.out w2 hb2; have HX : Hid (WInv w rw ev fs (i + 1) (w2.setCell ⟨w.heap.size + 1 + 1, i, none⟩ (.string (str (F.put ev))))) := x3; clear x3 hb2)
      go_roundw
      case rel => exact ⟨i + 1, by omega, by go_num, HX.out⟩
      case measure => simp [intOf]; omega
    · have hie : i = ln := by omega
      have hti : fs.take i = fs := List.take_of_length_le (by rw [HLn.out]; omega)
      have hr1 : wr.cell? ⟨w.heap.size, 1, none⟩ = some (.string (str hd)) := by
        rw [cell_at HI.out.hrow, ← HRW.out]; rfl
      have hrl : w.heap.size < wr.heap.size := lt_of_block HI.out.hrow
      have hpl : (puts fs ev).length = ln := by rw [← HLn.out]; unfold puts; simp
      have HJ : Hid (Calls Tryz.prog 27 #[.slice (some ⟨w.heap.size + 1 + 1, 0, none⟩) ln ln, .string ⟨#[32]⟩] wr.drew fun e w' => e = .returned (.string (str (joinW (fs.map (·.put ev))))) ∧ Below wr.heap.size wr w') := by
        have ht : TextsAt wr.drew (w.heap.size + 1 + 1) (puts fs ev) fs.length := by have h := HI.out.htexts; rw [hti] at h; exact h
        have hm : (puts fs ev).map (·.data.toList) = fs.map (·.put ev) := by unfold puts; rw [List.map_map]; rfl
        have hj := Tryz.strings_Join (w.heap.size + 1 + 1) 0 ln (puts fs ev) ⟨#[32]⟩ wr.drew ?_ ht.lt (by omega) (by omega) ?_
        · rw [hpl] at hj
          refine hj.mono fun e w' ⟨a1, a2⟩ => ⟨?_, (Below.refl _ wr).drew.trans a2⟩
          rw [a1]
          show _ = Ending.returned (.string (str _))
          unfold joinW
          rw [← hm]
          rfl
        · intro j x hx
          rw [Nat.zero_add, cell_at ht]
          have hjl : j < (puts fs ev).length := (List.getElem?_eq_some_iff.1 hx).1
          unfold Lib.cellsOf
          rw [List.getElem?_toArray, List.getElem?_append_left (by simpa using hjl), List.getElem?_map, hx]
          rfl
        · rw [hm]
          have := HLJ.out
          unfold joinW at this
          show (Lib.join _ _).length ≤ _
          unfold Lib.join
          have e : (⟨#[32]⟩ : ByteArray).data.toList = [32] := rfl
          rw [e]
          omega
      obtain ⟨J, hJ⟩ : ∃ J, joinW (fs.map (·.put ev)) = J := ⟨_, rfl⟩
      rw [hJ] at HJ HLJ
      have HJJ : Hid (joinW (fs.map (·.put ev)) = J) := hJ
      have z1 : (str J).size ≤ 140737488355328 := by rw [str_size]; have := HLJ.out; omega
      have z2 : (str hd).size ≤ 64 := by rw [str_size]; exact HLH.out
      have HB : Hid (Below w.heap.size w wr) := HI.out.hbelow
      clear hie hti hpl hJ HI HF HS HRW
      go_wp2
      go_region_with (go_at_call 27; refine HJ.out.mono ?_; rintro e w2 ⟨rfl, hb2⟩; have x1 := (hb2.cell (p := ⟨w.heap.size, 1, none⟩) hrl).trans hr1; have HB2 : Hid (Below wr.heap.size wr w2) := hb2; clear hb2)
      all_goals go_wp2
      all_goals go_ret
      all_goals exact ⟨(ret_str (str_app _ _)).trans (by rw [HJJ.out]), HB.out.trans (HB2.out.mono HB.out.size)⟩

end Go.Proofs.YtplolaondmeccaaGreatDoor
