/-
  The document's row: the line of an event by its row.
  The document's row: the things of a row, one behind the other.
  The document's Encode.
  The document's Rows and Encode.
  The document's Encode.
  The document's Encode: an answer's line; every event.
-/
import Derived.Test.YtplolaondmeccaaGreatDoorRPa
import Derived.Test.YtplolaondmeccaaGreatDoorRDcK
import Derived.Test.YtplolaondmeccaaGreatDoorWEnc
import Derived.Deep.RegionHeld3
import Derived.LoopTactic
namespace Go.Proofs.YtplolaondmeccaaGreatDoor
open Go.RowKit
set_option linter.unusedVariables false
set_option maxRecDepth 20000

theorem part_any (c : Ch) (hc : c ≠ .qc) (ev : Ev) (hf : ev.Fits) (w : World) : Calls Tryz.prog 150 #[.agg ev.vals, .int .u8 (c.byte.toNat : Int)] w (PartPost (c.T ev) w) := by
  cases c with
  | qt => exact part_t ev hf w
  | qn => exact part_n ev hf w
  | qf => exact part_f ev hf w
  | qo => exact part_o ev hf w
  | qi => exact part_i ev hf w
  | qs => exact part_s ev hf w
  | qw => exact part_w ev hf w
  | qp => exact part_p ev hf w
  | qN => exact part_qN ev hf w
  | qW => exact part_qW ev hf w
  | qP => exact part_qP ev hf w
  | qV => exact part_qV ev hf w
  | qz => exact part_qz ev hf w
  | qd => exact part_qd ev hf w
  | qv => exact part_qv ev hf w
  | qm => exact part_qm ev hf w
  | qx => exact part_qx ev hf w
  | qc => exact absurd rfl hc

/-- What row has of its arguments. -/
structure RowSt (w wr : World) (ev : Ev) (WD S : ByteArray) : Prop where
  e : EvAt wr w.heap.size ev
  c1 : wr.cell? ⟨w.heap.size + 1, 1, none⟩ = some (.string WD)
  c2 : wr.cell? ⟨w.heap.size + 1, 2, none⟩ = some (.string S)
  lt : w.heap.size + 1 < wr.heap.size
  b : Below w.heap.size w wr
theorem RowSt.below {w wr wr' : World} {ev : Ev} {WD S : ByteArray} (h : RowSt w wr ev WD S) (hb : Below wr.heap.size wr wr') : RowSt w wr' ev WD S :=
  ⟨h.e.below hb h.e.lt, (hb.cell (p := ⟨w.heap.size + 1, 1, none⟩) h.lt).trans h.c1, (hb.cell (p := ⟨w.heap.size + 1, 2, none⟩) h.lt).trans h.c2, Nat.lt_of_lt_of_le h.lt hb.size, below_step h.b hb⟩
theorem RowSt.drew {w wr : World} {ev : Ev} {WD S : ByteArray} (h : RowSt w wr ev WD S) : RowSt w wr.drew ev WD S := ⟨h.e, h.c1, h.c2, h.lt, h.b.drew⟩
theorem RowSt.start (w : World) (ev : Ev) (k : Int) (WD S : ByteArray) : RowSt w ((w.alloc (.cells ev.vals 27)).alloc (.cells #[.int .i64 k, .string WD, .string S] 72)) ev WD S := by
  have s1 : (w.alloc (.cells ev.vals 27)).heap.size = w.heap.size + 1 := by simp
  have hn := heap_alloc_new (w.alloc (.cells ev.vals 27)) (.cells #[.int .i64 k, .string WD, .string S] 72)
  rw [s1] at hn
  refine ⟨(EvAt.new w ev).alloc _, ?_, ?_, by simp, ((Below.refl _ _).alloc (Nat.le_refl _) _).alloc (by rw [s1]; omega) _⟩
  · unfold World.cell?; rw [hn]; rfl
  · unfold World.cell?; rw [hn]; rfl

theorem T_len (c : Ch) (ev : Ev) (hf : ev.Fits) (t : List UInt8) (h : c.T ev = some t) : t.length ≤ 8388640 := by
  have h1 := hf.name
  have h2 := hf.text
  have h3 := hf.layout
  have h4 := hf.visible
  unfold slim at h1 h2 h3 h4
  have he := (esc_length ev.text.data.toList).2
  rw [size_data] at he
  have hn : ∀ n : Int, (putL n).length ≤ 19 := putL_length
  have hi : ∀ (q : UInt8) (n : Int), (putI q n).length ≤ 20 := fun q n => by
    unfold putI
    split
    · have := hn n
      simp; omega
    · simp
  have num : ∀ {m : Int} {f : NF}, (lNum m f).T ev = some t → t.length ≤ 8388640 := fun {m f} h => by
    have h' : (if 0 ≤ f.get ev ∧ f.get ev ≤ m then some (putL (f.get ev)) else none) = some t := h
    split at h'
    · cases h'; have := hn (f.get ev); omega
    · cases h'
  have idd : ∀ {q : UInt8} {f : NF}, (lId q f).T ev = some t → t.length ≤ 8388640 := fun {q f} h => by
    have h' : (if 1 ≤ f.get ev ∧ f.get ev ≤ 4611686018427387904 then some (putI q (f.get ev)) else none) = some t := h
    split at h'
    · cases h'; have := hi q (f.get ev); omega
    · cases h'
  have ite : ∀ {p : Prop} [Decidable p] {u : List UInt8}, u.length ≤ 8388608 → (if p then some u else none) = some t → t.length ≤ 8388640 := fun {p} _ {u} hu h => by
    split at h
    · cases h; omega
    · cases h
  cases c with
  | qt => exact num (m := maxN) (f := .tick) h
  | qn => exact num (m := maxN) (f := .number) h
  | qf => exact num (m := 1) (f := .flag) h
  | qo => exact num (m := maxN) (f := .offset) h
  | qi => exact num (m := 9999) (f := .index) h
  | qs => exact idd (q := 36) (f := .session) h
  | qw => exact idd (q := 64) (f := .window) h
  | qp => exact idd (q := 37) (f := .pane) h
  | qN => exact ite (p := nameB ev.name = true) (u := ev.name.data.toList) (by rw [size_data]; omega) h
  | qW => exact ite (p := (nameB ev.name && !has ev.name 32) = true) (u := ev.name.data.toList) (by rw [size_data]; omega) h
  | qP => exact ite (p := planOk ev.layout.data.toList = true) (u := ev.layout.data.toList) (by rw [size_data]; omega) h
  | qV => exact ite (p := planOk ev.visible.data.toList = true) (u := ev.visible.data.toList) (by rw [size_data]; omega) h
  | qz =>
    have h' : some (if ev.zoom then [90] else [45]) = some t := h
    cases h'
    split <;> simp
  | qd => exact ite (p := 1 ≤ ev.text.size ∧ ev.text.size ≤ 256) (u := esc ev.text.data.toList) (by omega) h
  | qm => exact ite (p := 0 ≤ ev.text.size ∧ ev.text.size ≤ 1024) (u := esc ev.text.data.toList) (by omega) h
  | qx => exact ite (p := 0 ≤ ev.text.size ∧ ev.text.size ≤ 1024) (u := esc ev.text.data.toList) (by omega) h
  | qv =>
    have h' : Option.map (58 :: 32 :: ·) (if 0 ≤ ev.text.size ∧ ev.text.size ≤ 1024 then some (esc ev.text.data.toList) else none) = some t := h
    split at h'
    · cases h'; simp; omega
    · cases h'
  | qc =>
    have h' : some [(58 : UInt8)] = some t := h
    cases h'
    simp

theorem putsC_step {cs : List Ch} {i : Nat} {c : Ch} {e : Ev} {acc t : List UInt8} (hc : cs[i]? = some c) (ht : c.T e = some t) (h : putsC cs e = (putsC (cs.drop i) e).map (acc ++ ·)) : putsC cs e = (putsC (cs.drop (i + 1)) e).map ((acc ++ 32 :: t) ++ ·) := by
  obtain ⟨hi, hv⟩ := List.getElem?_eq_some_iff.1 hc
  rw [h, List.drop_eq_getElem_cons hi, hv]
  show Option.map (acc ++ ·) (match c.T e with | none => none | some t => (putsC (cs.drop (i + 1)) e).map (32 :: t ++ ·)) = _
  rw [ht]
  cases putsC (cs.drop (i + 1)) e <;> simp
theorem putsC_stop {cs : List Ch} {i : Nat} {c : Ch} {e : Ev} {acc : List UInt8} (hc : cs[i]? = some c) (ht : c.T e = none) (h : putsC cs e = (putsC (cs.drop i) e).map (acc ++ ·)) : putsC cs e = none := by
  obtain ⟨hi, hv⟩ := List.getElem?_eq_some_iff.1 hc
  rw [h, List.drop_eq_getElem_cons hi, hv]
  show Option.map (acc ++ ·) (match c.T e with | none => none | some t => (putsC (cs.drop (i + 1)) e).map (32 :: t ++ ·)) = _
  rw [ht]
  rfl

set_option maxHeartbeats 1000000 in
theorem row_bad (k : Int) (WD S : ByteArray) (ev kk : Ev) (w : World) (HKp : Hid (∀ W, Calls Tryz.prog 149 #[.agg #[.int .i64 ev.kind, .int .i64 ev.session, .int .i64 ev.window, .int .i64 ev.pane, .int .i64 ev.index, .int .i64 ev.offset, .int .i64 ev.tick, .int .i64 ev.number, .int .i64 ev.flag, .string ev.name, .string ev.text, .string ev.layout, .string ev.visible, .bool ev.zoom], .string S] W fun e w' => e = .returned (.agg #[.int .i64 kk.kind, .int .i64 kk.session, .int .i64 kk.window, .int .i64 kk.pane, .int .i64 kk.index, .int .i64 kk.offset, .int .i64 kk.tick, .int .i64 kk.number, .int .i64 kk.flag, .string kk.name, .string kk.text, .string kk.layout, .string kk.visible, .bool kk.zoom]) ∧ Below W.heap.size W w')) (hEq : ∀ W : World, (Op.equalIn 10000 27 (.agg #[.int .i64 ev.kind, .int .i64 ev.session, .int .i64 ev.window, .int .i64 ev.pane, .int .i64 ev.index, .int .i64 ev.offset, .int .i64 ev.tick, .int .i64 ev.number, .int .i64 ev.flag, .string ev.name, .string ev.text, .string ev.layout, .string ev.visible, .bool ev.zoom]) (.agg #[.int .i64 kk.kind, .int .i64 kk.session, .int .i64 kk.window, .int .i64 kk.pane, .int .i64 kk.index, .int .i64 kk.offset, .int .i64 kk.tick, .int .i64 kk.number, .int .i64 kk.flag, .string kk.name, .string kk.text, .string kk.layout, .string kk.visible, .bool kk.zoom])).run Tryz.prog W = .ok false W) :
    Calls Tryz.prog 113 #[.agg ev.vals, .agg #[.int .i64 k, .string WD, .string S]] w (EncPost none w) := by
  have HR0 : Hid (RowSt w ((w.alloc (.cells ev.vals 27)).alloc (.cells #[.int .i64 k, .string WD, .string S] 72)) ev WD S) := RowSt.start w ev k WD S
  unfold Ev.vals at HR0 ⊢
  go_enter Tryz.func113, Tryz.ntmps113
  go_wp2_with fail
  go_region_held3 (fun W' => W'.cell? ⟨w.heap.size, 0, none⟩ = some (.int .i64 ev.kind) ∧ W'.cell? ⟨w.heap.size, 1, none⟩ = some (.int .i64 ev.session) ∧ W'.cell? ⟨w.heap.size, 2, none⟩ = some (.int .i64 ev.window) ∧ W'.cell? ⟨w.heap.size, 3, none⟩ = some (.int .i64 ev.pane) ∧ W'.cell? ⟨w.heap.size, 4, none⟩ = some (.int .i64 ev.index) ∧ W'.cell? ⟨w.heap.size, 5, none⟩ = some (.int .i64 ev.offset) ∧ W'.cell? ⟨w.heap.size, 6, none⟩ = some (.int .i64 ev.tick) ∧ W'.cell? ⟨w.heap.size, 7, none⟩ = some (.int .i64 ev.number) ∧ W'.cell? ⟨w.heap.size, 8, none⟩ = some (.int .i64 ev.flag) ∧ W'.cell? ⟨w.heap.size, 9, none⟩ = some (.string ev.name) ∧ W'.cell? ⟨w.heap.size, 10, none⟩ = some (.string ev.text) ∧ W'.cell? ⟨w.heap.size, 11, none⟩ = some (.string ev.layout) ∧ W'.cell? ⟨w.heap.size, 12, none⟩ = some (.string ev.visible) ∧ W'.cell? ⟨w.heap.size, 13, none⟩ = some (.bool ev.zoom) ∧ W'.cell? ⟨w.heap.size + 1, 2, none⟩ = some (.string S)) (go_keep) ((go_at_call 149; refine (HKp.out _).mono ?_; rintro e w1 ⟨rfl, hb1⟩; have HR1 : Hid (RowSt w w1 ev WD S) := HR0.out.drew.below hb1; obtain ⟨p0, p1, p2, p3, p4, p5, p6, p7, p8, p9, p10, p11, p12, p13⟩ := HR1.out.e.cells; have p14 := HR1.out.c2; clear hb1))
  all_goals go_wp2
  all_goals go_ret2
  all_goals exact ⟨rfl, HR1.out.b⟩

theorem enc_yes {l : List UInt8} {w w' : World} (E : ByteArray) (hE : str l = E) (h : Below w.heap.size w w') : EncPost (some l) w (.returned (.tuple #[.string E, .int .i64 0])) w' := ⟨by subst hE; rfl, h⟩
/-- A reason that is missing. -/
theorem row_short (k : Int) (WD S : ByteArray) (ev : Ev) (w : World) (HKp : Hid (∀ W, Calls Tryz.prog 149 #[.agg #[.int .i64 ev.kind, .int .i64 ev.session, .int .i64 ev.window, .int .i64 ev.pane, .int .i64 ev.index, .int .i64 ev.offset, .int .i64 ev.tick, .int .i64 ev.number, .int .i64 ev.flag, .string ev.name, .string ev.text, .string ev.layout, .string ev.visible, .bool ev.zoom], .string S] W fun e w' => e = .returned (.agg #[.int .i64 ev.kind, .int .i64 ev.session, .int .i64 ev.window, .int .i64 ev.pane, .int .i64 ev.index, .int .i64 ev.offset, .int .i64 ev.tick, .int .i64 ev.number, .int .i64 ev.flag, .string ev.name, .string ev.text, .string ev.layout, .string ev.visible, .bool ev.zoom]) ∧ Below W.heap.size W w')) (hEq : ∀ W : World, (Op.equalIn 10000 27 (.agg #[.int .i64 ev.kind, .int .i64 ev.session, .int .i64 ev.window, .int .i64 ev.pane, .int .i64 ev.index, .int .i64 ev.offset, .int .i64 ev.tick, .int .i64 ev.number, .int .i64 ev.flag, .string ev.name, .string ev.text, .string ev.layout, .string ev.visible, .bool ev.zoom]) (.agg #[.int .i64 ev.kind, .int .i64 ev.session, .int .i64 ev.window, .int .i64 ev.pane, .int .i64 ev.index, .int .i64 ev.offset, .int .i64 ev.tick, .int .i64 ev.number, .int .i64 ev.flag, .string ev.name, .string ev.text, .string ev.layout, .string ev.visible, .bool ev.zoom])).run Tryz.prog W = .ok true W) (hS : S.toList = [120]) (hT : ev.text.toList = []) (o : Option (List UInt8)) (l : List UInt8) (ho : o = some l) (hl : str l = WD) :
    Calls Tryz.prog 113 #[.agg ev.vals, .agg #[.int .i64 k, .string WD, .string S]] w (EncPost o w) := by
  subst ho
  have HL : Hid (str l = WD) := hl
  have HR0 : Hid (RowSt w ((w.alloc (.cells ev.vals 27)).alloc (.cells #[.int .i64 k, .string WD, .string S] 72)) ev WD S) := RowSt.start w ev k WD S
  clear hl
  unfold Ev.vals at HR0 ⊢
  go_enter Tryz.func113, Tryz.ntmps113
  go_wp2_with fail
  go_region_held3 (fun W' => W'.cell? ⟨w.heap.size, 0, none⟩ = some (.int .i64 ev.kind) ∧ W'.cell? ⟨w.heap.size, 1, none⟩ = some (.int .i64 ev.session) ∧ W'.cell? ⟨w.heap.size, 2, none⟩ = some (.int .i64 ev.window) ∧ W'.cell? ⟨w.heap.size, 3, none⟩ = some (.int .i64 ev.pane) ∧ W'.cell? ⟨w.heap.size, 4, none⟩ = some (.int .i64 ev.index) ∧ W'.cell? ⟨w.heap.size, 5, none⟩ = some (.int .i64 ev.offset) ∧ W'.cell? ⟨w.heap.size, 6, none⟩ = some (.int .i64 ev.tick) ∧ W'.cell? ⟨w.heap.size, 7, none⟩ = some (.int .i64 ev.number) ∧ W'.cell? ⟨w.heap.size, 8, none⟩ = some (.int .i64 ev.flag) ∧ W'.cell? ⟨w.heap.size, 9, none⟩ = some (.string ev.name) ∧ W'.cell? ⟨w.heap.size, 10, none⟩ = some (.string ev.text) ∧ W'.cell? ⟨w.heap.size, 11, none⟩ = some (.string ev.layout) ∧ W'.cell? ⟨w.heap.size, 12, none⟩ = some (.string ev.visible) ∧ W'.cell? ⟨w.heap.size, 13, none⟩ = some (.bool ev.zoom) ∧ W'.cell? ⟨w.heap.size + 1, 2, none⟩ = some (.string S)) (go_keep) ((go_at_call 149; refine (HKp.out _).mono ?_; rintro e w1 ⟨rfl, hb1⟩; have HR1 : Hid (RowSt w w1 ev WD S) := HR0.out.drew.below hb1; obtain ⟨p0, p1, p2, p3, p4, p5, p6, p7, p8, p9, p10, p11, p12, p13⟩ := HR1.out.e.cells; have p14 := HR1.out.c2; clear hb1; have p15 := HR1.out.c1))
  all_goals go_wp2
  all_goals go_ret2
  all_goals exact enc_yes _ HL.out HR1.out.b

end Go.Proofs.YtplolaondmeccaaGreatDoor

namespace Go.Proofs.YtplolaondmeccaaGreatDoor
open Go.RowKit
set_option linter.unusedVariables false
set_option maxRecDepth 20000

theorem str_three (a b c : List UInt8) (E : ByteArray) (h : E = str c) : str (a ++ b) ++ (⟨#[32]⟩ : ByteArray) ++ E = str (a ++ (b ++ 32 :: c)) := by
  subst h
  rw [show (⟨#[32]⟩ : ByteArray) = str [32] from rfl, str_cat, str_cat]
  simp

set_option maxHeartbeats 2000000 in
theorem row_loop (k : Int) (WD S : ByteArray) (ev : Ev) (w : World) (HKp : Hid (∀ W, Calls Tryz.prog 149 #[.agg #[.int .i64 ev.kind, .int .i64 ev.session, .int .i64 ev.window, .int .i64 ev.pane, .int .i64 ev.index, .int .i64 ev.offset, .int .i64 ev.tick, .int .i64 ev.number, .int .i64 ev.flag, .string ev.name, .string ev.text, .string ev.layout, .string ev.visible, .bool ev.zoom], .string S] W fun e w' => e = .returned (.agg #[.int .i64 ev.kind, .int .i64 ev.session, .int .i64 ev.window, .int .i64 ev.pane, .int .i64 ev.index, .int .i64 ev.offset, .int .i64 ev.tick, .int .i64 ev.number, .int .i64 ev.flag, .string ev.name, .string ev.text, .string ev.layout, .string ev.visible, .bool ev.zoom]) ∧ Below W.heap.size W w')) (hEq : ∀ W : World, (Op.equalIn 10000 27 (.agg #[.int .i64 ev.kind, .int .i64 ev.session, .int .i64 ev.window, .int .i64 ev.pane, .int .i64 ev.index, .int .i64 ev.offset, .int .i64 ev.tick, .int .i64 ev.number, .int .i64 ev.flag, .string ev.name, .string ev.text, .string ev.layout, .string ev.visible, .bool ev.zoom]) (.agg #[.int .i64 ev.kind, .int .i64 ev.session, .int .i64 ev.window, .int .i64 ev.pane, .int .i64 ev.index, .int .i64 ev.offset, .int .i64 ev.tick, .int .i64 ev.number, .int .i64 ev.flag, .string ev.name, .string ev.text, .string ev.layout, .string ev.visible, .bool ev.zoom])).run Tryz.prog W = .ok true W) (hcond : (S.toList == [120]) = false ∨ (S.toList = [120] ∧ ¬ ev.text.toList = [] ∧ ev.text.toList.isEmpty = false))
    (cs : List Ch) (m : Nat) (hm : m ≤ 6) (HM : Hid (cs.length = m)) (hSz : S.size = m) (HI : Hid (∀ (i : Nat) (c : Ch), cs[i]? = some c → ∀ W : World, (Instr.index 9 (.string S) (.int .i64 (i : Int))).run Tryz.prog W = .ok (.int .u8 (c.byte.toNat : Int)) W))
    (HPt : Hid (∀ (c : Ch), c ∈ cs → ∀ W, Calls Tryz.prog 150 #[.agg #[.int .i64 ev.kind, .int .i64 ev.session, .int .i64 ev.window, .int .i64 ev.pane, .int .i64 ev.index, .int .i64 ev.offset, .int .i64 ev.tick, .int .i64 ev.number, .int .i64 ev.flag, .string ev.name, .string ev.text, .string ev.layout, .string ev.visible, .bool ev.zoom], .int .u8 (c.byte.toNat : Int)] W (PartPost (c.T ev) W)))
    (HTl : Hid (∀ (c : Ch) (t : List UInt8), c.T ev = some t → t.length ≤ 8388640))
    (word : List UInt8) (HW : Hid (str word = WD)) (hwl : WD.size ≤ 30) (o : Option (List UInt8)) (HO1 : Hid (∀ acc, putsC cs ev = some acc → o = some (word ++ acc))) (HO2 : Hid (putsC cs ev = none → o = none)) :
    Calls Tryz.prog 113 #[.agg ev.vals, .agg #[.int .i64 k, .string WD, .string S]] w (EncPost o w) := by
  have HR0 : Hid (RowSt w ((w.alloc (.cells ev.vals 27)).alloc (.cells #[.int .i64 k, .string WD, .string S] 72)) ev WD S) := RowSt.start w ev k WD S
  unfold Ev.vals at HR0 ⊢
  rcases hcond with hS | ⟨hS, hT1, hT2⟩
  all_goals
    go_enter Tryz.func113, Tryz.ntmps113
    go_wp2_with fail
    go_region_held3 (fun W' => W'.cell? ⟨w.heap.size, 0, none⟩ = some (.int .i64 ev.kind) ∧ W'.cell? ⟨w.heap.size, 1, none⟩ = some (.int .i64 ev.session) ∧ W'.cell? ⟨w.heap.size, 2, none⟩ = some (.int .i64 ev.window) ∧ W'.cell? ⟨w.heap.size, 3, none⟩ = some (.int .i64 ev.pane) ∧ W'.cell? ⟨w.heap.size, 4, none⟩ = some (.int .i64 ev.index) ∧ W'.cell? ⟨w.heap.size, 5, none⟩ = some (.int .i64 ev.offset) ∧ W'.cell? ⟨w.heap.size, 6, none⟩ = some (.int .i64 ev.tick) ∧ W'.cell? ⟨w.heap.size, 7, none⟩ = some (.int .i64 ev.number) ∧ W'.cell? ⟨w.heap.size, 8, none⟩ = some (.int .i64 ev.flag) ∧ W'.cell? ⟨w.heap.size, 9, none⟩ = some (.string ev.name) ∧ W'.cell? ⟨w.heap.size, 10, none⟩ = some (.string ev.text) ∧ W'.cell? ⟨w.heap.size, 11, none⟩ = some (.string ev.layout) ∧ W'.cell? ⟨w.heap.size, 12, none⟩ = some (.string ev.visible) ∧ W'.cell? ⟨w.heap.size, 13, none⟩ = some (.bool ev.zoom) ∧ W'.cell? ⟨w.heap.size + 1, 2, none⟩ = some (.string S)) (go_keep) ((go_at_call 149; refine (HKp.out _).mono ?_; rintro e w1 ⟨rfl, hb1⟩; have HR1 : Hid (RowSt w w1 ev WD S) := HR0.out.drew.below hb1; obtain ⟨p0, p1, p2, p3, p4, p5, p6, p7, p8, p9, p10, p11, p12, p13⟩ := HR1.out.e.cells; have p14 := HR1.out.c2; clear hb1))
    have p15 := HR1.out.c1
    go_wp2
    go_loopw [6, 7] (fun s i wr => ∃ (n : Nat) (acc : List UInt8), n ≤ m ∧ i = .int .i64 n ∧ s = .string (str (word ++ acc)) ∧ acc.length ≤ n * 8388641 ∧ Hid (putsC cs ev = (putsC (cs.drop n) ev).map (acc ++ ·)) ∧ RowSt w wr ev WD S) (fun _ i _ => m - (intOf i).toNat)
    case atStart => exact ⟨0, [], Nat.zero_le _, rfl, by rw [List.append_nil, HW.out], Nat.zero_le _, (show putsC cs ev = (putsC cs ev).map ([] ++ ·) by simp), HR1.out⟩
    case round =>
      obtain ⟨n, acc, hn, rfl, rfl, hal, HP, hrs⟩ := hrel
      have HRS : Hid (RowSt w wr ev WD S) := hrs
      clear hrs HR1 p0 p1 p2 p3 p4 p5 p6 p7 p8 p9 p10 p11 p12 p13 p14 p15
      obtain ⟨q0, q1, q2, q3, q4, q5, q6, q7, q8, q9, q10, q11, q12, q13⟩ := HRS.out.e.cells
      have q14 := HRS.out.c2
      by_cases hlt : n < m
      · obtain ⟨c, hc⟩ : ∃ c, cs[n]? = some c := ⟨_, List.getElem?_eq_getElem (by rw [HM.out]; exact hlt)⟩
        have HX := HI.out n c hc
        have HC : Hid (cs[n]? = some c) := hc
        have HPc := HPt.out c (List.mem_of_getElem? hc)
        have HPc' : Hid (∀ W, Calls Tryz.prog 150 #[.agg #[.int .i64 ev.kind, .int .i64 ev.session, .int .i64 ev.window, .int .i64 ev.pane, .int .i64 ev.index, .int .i64 ev.offset, .int .i64 ev.tick, .int .i64 ev.number, .int .i64 ev.flag, .string ev.name, .string ev.text, .string ev.layout, .string ev.visible, .bool ev.zoom], .int .u8 (c.byte.toNat : Int)] W (PartPost (c.T ev) W)) := HPc
        clear hc HPc HI HPt
        cases hT : c.T ev with
        | none =>
          have HPd : Hid (∀ W, Calls Tryz.prog 150 #[.agg #[.int .i64 ev.kind, .int .i64 ev.session, .int .i64 ev.window, .int .i64 ev.pane, .int .i64 ev.index, .int .i64 ev.offset, .int .i64 ev.tick, .int .i64 ev.number, .int .i64 ev.flag, .string ev.name, .string ev.text, .string ev.layout, .string ev.visible, .bool ev.zoom], .int .u8 (c.byte.toNat : Int)] W fun e w' => (∃ s, e = .returned (.tuple #[.string s, .bool false])) ∧ Below W.heap.size W w') := fun W => by
            have := HPc'.out W
            rw [hT] at this
            exact this
          have HN : Hid (o = none) := HO2.out (putsC_stop HC.out hT HP.out)
          clear hT HPc'
          go_wp2_with fail
          go_region_held3 (fun W' => W'.cell? ⟨w.heap.size, 0, none⟩ = some (.int .i64 ev.kind) ∧ W'.cell? ⟨w.heap.size, 1, none⟩ = some (.int .i64 ev.session) ∧ W'.cell? ⟨w.heap.size, 2, none⟩ = some (.int .i64 ev.window) ∧ W'.cell? ⟨w.heap.size, 3, none⟩ = some (.int .i64 ev.pane) ∧ W'.cell? ⟨w.heap.size, 4, none⟩ = some (.int .i64 ev.index) ∧ W'.cell? ⟨w.heap.size, 5, none⟩ = some (.int .i64 ev.offset) ∧ W'.cell? ⟨w.heap.size, 6, none⟩ = some (.int .i64 ev.tick) ∧ W'.cell? ⟨w.heap.size, 7, none⟩ = some (.int .i64 ev.number) ∧ W'.cell? ⟨w.heap.size, 8, none⟩ = some (.int .i64 ev.flag) ∧ W'.cell? ⟨w.heap.size, 9, none⟩ = some (.string ev.name) ∧ W'.cell? ⟨w.heap.size, 10, none⟩ = some (.string ev.text) ∧ W'.cell? ⟨w.heap.size, 11, none⟩ = some (.string ev.layout) ∧ W'.cell? ⟨w.heap.size, 12, none⟩ = some (.string ev.visible) ∧ W'.cell? ⟨w.heap.size, 13, none⟩ = some (.bool ev.zoom) ∧ W'.cell? ⟨w.heap.size + 1, 2, none⟩ = some (.string S)) (go_keep) ((go_at_call 150; refine (HPd.out _).mono ?_; rintro e w2 ⟨⟨s0, rfl⟩, hb2⟩; have HR2 : Hid (RowSt w w2 ev WD S) := HRS.out.drew.below hb2; obtain ⟨y0, y1, y2, y3, y4, y5, y6, y7, y8, y9, y10, y11, y12, y13⟩ := HR2.out.e.cells; have y14 := HR2.out.c2; clear hb2))
          all_goals go_wp2
          all_goals go_ret2
          all_goals (rw [HN.out]; exact ⟨rfl, HR2.out.b⟩)
        | some t =>
          have HPd : Hid (∀ W, Calls Tryz.prog 150 #[.agg #[.int .i64 ev.kind, .int .i64 ev.session, .int .i64 ev.window, .int .i64 ev.pane, .int .i64 ev.index, .int .i64 ev.offset, .int .i64 ev.tick, .int .i64 ev.number, .int .i64 ev.flag, .string ev.name, .string ev.text, .string ev.layout, .string ev.visible, .bool ev.zoom], .int .u8 (c.byte.toNat : Int)] W fun e w' => e = .returned (.tuple #[.string (str t), .bool true]) ∧ Below W.heap.size W w') := fun W => by
            have := HPc'.out W
            rw [hT] at this
            exact this
          have HN : Hid (putsC cs ev = (putsC (cs.drop (n + 1)) ev).map ((acc ++ 32 :: t) ++ ·)) := putsC_step HC.out hT HP.out
          have htl := HTl.out c t hT
          have hz1 : (str (word ++ acc)).size ≤ 60000000 := by
            have h1 : (str word).size ≤ 30 := by rw [HW.out]; exact hwl
            rw [str_size] at h1 ⊢
            rw [List.length_append]
            omega
          have hz2 : (str t).size ≤ 8388640 := by rw [str_size]; exact htl
          have hz3 : (⟨#[32]⟩ : ByteArray).size = 1 := rfl
          have HL : Hid ((acc ++ 32 :: t).length ≤ (n + 1) * 8388641) := by
            show _ ≤ _
            rw [List.length_append, List.length_cons]
            omega
          obtain ⟨E, hE⟩ : ∃ E, str t = E := ⟨_, rfl⟩
          obtain ⟨E0, hE0⟩ : ∃ E, str (word ++ acc) = E := ⟨_, rfl⟩
          have HS3 : Hid (E0 ++ (⟨#[32]⟩ : ByteArray) ++ E = str (word ++ (acc ++ 32 :: t))) := by
            show _ = _
            rw [← hE0]
            exact str_three word acc t E hE.symm
          rw [hE] at HPd hz2
          rw [hE0] at hz1 ⊢
          clear hT HPc' hE hE0 htl hal
          go_wp2_with fail
          go_region_held3 (fun W' => W'.cell? ⟨w.heap.size, 0, none⟩ = some (.int .i64 ev.kind) ∧ W'.cell? ⟨w.heap.size, 1, none⟩ = some (.int .i64 ev.session) ∧ W'.cell? ⟨w.heap.size, 2, none⟩ = some (.int .i64 ev.window) ∧ W'.cell? ⟨w.heap.size, 3, none⟩ = some (.int .i64 ev.pane) ∧ W'.cell? ⟨w.heap.size, 4, none⟩ = some (.int .i64 ev.index) ∧ W'.cell? ⟨w.heap.size, 5, none⟩ = some (.int .i64 ev.offset) ∧ W'.cell? ⟨w.heap.size, 6, none⟩ = some (.int .i64 ev.tick) ∧ W'.cell? ⟨w.heap.size, 7, none⟩ = some (.int .i64 ev.number) ∧ W'.cell? ⟨w.heap.size, 8, none⟩ = some (.int .i64 ev.flag) ∧ W'.cell? ⟨w.heap.size, 9, none⟩ = some (.string ev.name) ∧ W'.cell? ⟨w.heap.size, 10, none⟩ = some (.string ev.text) ∧ W'.cell? ⟨w.heap.size, 11, none⟩ = some (.string ev.layout) ∧ W'.cell? ⟨w.heap.size, 12, none⟩ = some (.string ev.visible) ∧ W'.cell? ⟨w.heap.size, 13, none⟩ = some (.bool ev.zoom) ∧ W'.cell? ⟨w.heap.size + 1, 2, none⟩ = some (.string S)) (go_keep) ((go_at_call 150; refine (HPd.out _).mono ?_; rintro e w2 ⟨rfl, hb2⟩; have HR2 : Hid (RowSt w w2 ev WD S) := HRS.out.drew.below hb2; obtain ⟨y0, y1, y2, y3, y4, y5, y6, y7, y8, y9, y10, y11, y12, y13⟩ := HR2.out.e.cells; have y14 := HR2.out.c2; clear hb2))
          all_goals go_wp2
          all_goals go_roundw
          case rel => exact ⟨n + 1, acc ++ 32 :: t, by omega, by go_num, by rw [← HS3.out], HL.out, HN, HR2.out⟩
          case measure => simp [intOf]; omega
      · have HN : Hid (o = some (word ++ acc)) := HO1.out acc (by
          rw [HP.out, List.drop_of_length_le (by rw [HM.out]; omega)]
          show some (acc ++ []) = _
          rw [List.append_nil])
        go_wp2
        go_ret2
        rw [HN.out]
        exact ⟨rfl, HRS.out.b⟩

end Go.Proofs.YtplolaondmeccaaGreatDoor

namespace Go.Proofs.YtplolaondmeccaaGreatDoor
open Go.RowKit
set_option linter.unusedVariables false
set_option maxRecDepth 20000

theorem parts24 : (partsOf (chs 24)).toList = [120] := by rw [Lib.toList_data]; rfl

theorem row_any (k : Nat) (h1 : 1 ≤ k) (h2 : k ≤ 24) (h4 : k ≠ 4) (ev : Ev) (hk : ev.kind = k) (hf : ev.Fits) (w : World) :
    Calls Tryz.prog 113 #[.agg ev.vals, .agg #[.int .i64 k, .string (str (wordOf k)), .string (partsOf (chs k))]] w (EncPost (encS ev) w) := by
  obtain ⟨e1, e2⟩ := enc_row k h1 h2 h4 ev hk
  have hcs : ∀ c ∈ chs k, c ≠ .qc := by
    rcases (show k = 1 ∨ k = 2 ∨ k = 3 ∨ k = 5 ∨ k = 6 ∨ k = 7 ∨ k = 8 ∨ k = 9 ∨ k = 10 ∨ k = 11 ∨ k = 12 ∨ k = 13 ∨ k = 14 ∨ k = 15 ∨ k = 16 ∨ k = 17 ∨ k = 18 ∨ k = 19 ∨ k = 20 ∨ k = 21 ∨ k = 22 ∨ k = 23 ∨ k = 24 by omega) with rfl | rfl | rfl | rfl | rfl | rfl | rfl | rfl | rfl | rfl | rfl | rfl | rfl | rfl | rfl | rfl | rfl | rfl | rfl | rfl | rfl | rfl | rfl
    all_goals decide
  have hln : (chs k).length ≤ 6 := by
    rcases (show k = 1 ∨ k = 2 ∨ k = 3 ∨ k = 5 ∨ k = 6 ∨ k = 7 ∨ k = 8 ∨ k = 9 ∨ k = 10 ∨ k = 11 ∨ k = 12 ∨ k = 13 ∨ k = 14 ∨ k = 15 ∨ k = 16 ∨ k = 17 ∨ k = 18 ∨ k = 19 ∨ k = 20 ∨ k = 21 ∨ k = 22 ∨ k = 23 ∨ k = 24 by omega) with rfl | rfl | rfl | rfl | rfl | rfl | rfl | rfl | rfl | rfl | rfl | rfl | rfl | rfl | rfl | rfl | rfl | rfl | rfl | rfl | rfl | rfl | rfl
    all_goals decide
  have hwd : (str (wordOf k)).size ≤ 30 := by
    rcases (show k = 1 ∨ k = 2 ∨ k = 3 ∨ k = 5 ∨ k = 6 ∨ k = 7 ∨ k = 8 ∨ k = 9 ∨ k = 10 ∨ k = 11 ∨ k = 12 ∨ k = 13 ∨ k = 14 ∨ k = 15 ∨ k = 16 ∨ k = 17 ∨ k = 18 ∨ k = 19 ∨ k = 20 ∨ k = 21 ∨ k = 22 ∨ k = 23 ∨ k = 24 by omega) with rfl | rfl | rfl | rfl | rfl | rfl | rfl | rfl | rfl | rfl | rfl | rfl | rfl | rfl | rfl | rfl | rfl | rfl | rfl | rfl | rfl | rfl | rfl
    all_goals decide
  have hkeep : ∀ W, Calls Tryz.prog 149 #[.agg ev.vals, .string (partsOf (chs k))] W fun e w' => e = .returned (.agg (keepC (chs k) ev (Ev.zero k)).vals) ∧ Below W.heap.size W w' := fun W => by
    have := keeps_any ev (chs k) hcs (by omega) W
    rw [hk] at this
    exact this
  by_cases hkk : keepC (chs k) ev (Ev.zero k) = ev
  · rw [hkk] at hkeep
    have hE := e1 hkk
    have hEq : ∀ W : World, (Op.equalIn 10000 27 (.agg ev.vals) (.agg ev.vals)).run Tryz.prog W = .ok true W := fun W => by
      have := eqEv ev ev W
      rw [(evEq_iff ev ev).2 rfl] at this
      exact this
    have hpart : ∀ c : Ch, c ∈ chs k → ∀ W, Calls Tryz.prog 150 #[.agg ev.vals, .int .u8 (c.byte.toNat : Int)] W (PartPost (c.T ev) W) := fun c hc W => part_any c (hcs c hc) ev hf W
    by_cases h24 : k = 24
    · subst h24
      by_cases h0 : ev.text.size = 0
      · have hr : encS ev = some (wordOf 24) := by rw [hE]; exact if_pos ⟨rfl, h0⟩
        exact row_short _ _ _ ev w hkeep hEq parts24 (by rw [empty_text h0, Lib.toList_data]) _ (wordOf 24) hr rfl
      · have hr : encS ev = (putsC (chs 24) ev).map (wordOf 24 ++ ·) := by rw [hE]; exact if_neg (fun h => h0 h.2)
        refine row_loop _ _ _ ev w hkeep hEq (.inr ⟨parts24, toList_neN h0⟩) (chs 24) _ hln rfl (partsOf_size _) (index_part _) hpart (fun c t h => T_len c ev hf t h) (wordOf 24) rfl hwd _ (fun acc h => ?_) (fun h => ?_)
        · rw [hr, h]; rfl
        · rw [hr, h]; rfl
    · have hr : encS ev = (putsC (chs k) ev).map (wordOf k ++ ·) := by rw [hE]; exact if_neg (fun h => h24 h.1)
      have hx : ((partsOf (chs k)).toList == [120]) = false := by
        rw [Lib.toList_data, show (partsOf (chs k)).data.toList = (chs k).map Ch.byte from str_data _]
        rcases (show k = 1 ∨ k = 2 ∨ k = 3 ∨ k = 5 ∨ k = 6 ∨ k = 7 ∨ k = 8 ∨ k = 9 ∨ k = 10 ∨ k = 11 ∨ k = 12 ∨ k = 13 ∨ k = 14 ∨ k = 15 ∨ k = 16 ∨ k = 17 ∨ k = 18 ∨ k = 19 ∨ k = 20 ∨ k = 21 ∨ k = 22 ∨ k = 23 by omega) with rfl | rfl | rfl | rfl | rfl | rfl | rfl | rfl | rfl | rfl | rfl | rfl | rfl | rfl | rfl | rfl | rfl | rfl | rfl | rfl | rfl | rfl
        all_goals decide
      refine row_loop _ _ _ ev w hkeep hEq (.inl hx) (chs k) _ hln rfl (partsOf_size _) (index_part _) hpart (fun c t h => T_len c ev hf t h) (wordOf k) rfl hwd _ (fun acc h => ?_) (fun h => ?_)
      · rw [hr, h]; rfl
      · rw [hr, h]; rfl
  · rw [e2 hkk]
    refine row_bad _ _ _ ev (keepC (chs k) ev (Ev.zero k)) w hkeep (fun W => ?_)
    have := eqEv ev (keepC (chs k) ev (Ev.zero k)) W
    rw [Bool.eq_false_iff.2 (fun h => hkk ((evEq_iff _ _).1 h).symm)] at this
    exact this

end Go.Proofs.YtplolaondmeccaaGreatDoor

namespace Go.Proofs.YtplolaondmeccaaGreatDoor
open Go.RowKit
set_option linter.unusedVariables false
set_option maxRecDepth 20000

/-- The table lies in a block. -/
def TabAt (w : World) (b : Nat) : Prop := ∀ i, i < 23 → w.cell? ⟨b, i * 3, none⟩ = some (.int .i64 (kAt i : Nat)) ∧ w.cell? ⟨b, i * 3 + 1, none⟩ = some (.string (str (wordOf (kAt i)))) ∧ w.cell? ⟨b, i * 3 + 2, none⟩ = some (.string (partsOf (chs (kAt i))))
theorem TabAt.below {w w' : World} {b B : Nat} (h : TabAt w b) (hb : Below B w w') (hB : b < B) : TabAt w' b := fun i hi => by
  obtain ⟨h1, h2, h3⟩ := h i hi
  exact ⟨(hb.cell (p := ⟨b, i * 3, none⟩) hB).trans h1, (hb.cell (p := ⟨b, i * 3 + 1, none⟩) hB).trans h2, (hb.cell (p := ⟨b, i * 3 + 2, none⟩) hB).trans h3⟩
theorem cell_new (w : World) (cs : Array Value) (t : TypeId) (o : Nat) : (w.alloc (.cells cs t)).cell? ⟨w.heap.size, o, none⟩ = cs[o]? := by
  have hn := heap_alloc_new w (.cells cs t)
  unfold World.cell?
  rw [hn]
  rfl

set_option maxHeartbeats 8000000 in
theorem rows_any (w : World) : Calls Tryz.prog 35 #[] w fun e w' => e = .returned (.slice (some ⟨w.heap.size, 0, none⟩) 23 23) ∧ TabAt w' w.heap.size ∧ w.heap.size < w'.heap.size ∧ Below w.heap.size w w' := by
  go_enter Tryz.func35, Tryz.ntmps35
  go_wp2
  go_ret
  refine ⟨rfl, fun i hi => ?_, by simp, (Below.refl _ _).alloc (Nat.le_refl _) _⟩
  rw [cell_new, cell_new, cell_new]
  rcases (show i = 0 ∨ i = 1 ∨ i = 2 ∨ i = 3 ∨ i = 4 ∨ i = 5 ∨ i = 6 ∨ i = 7 ∨ i = 8 ∨ i = 9 ∨ i = 10 ∨ i = 11 ∨ i = 12 ∨ i = 13 ∨ i = 14 ∨ i = 15 ∨ i = 16 ∨ i = 17 ∨ i = 18 ∨ i = 19 ∨ i = 20 ∨ i = 21 ∨ i = 22 by omega) with rfl | rfl | rfl | rfl | rfl | rfl | rfl | rfl | rfl | rfl | rfl | rfl | rfl | rfl | rfl | rfl | rfl | rfl | rfl | rfl | rfl | rfl | rfl
  all_goals exact ⟨rfl, rfl, rfl⟩

theorem kinds_all (k : Int) (h : ∀ j, j < 23 → (kAt j : Int) ≠ k) (h4 : k ≠ 4) : ¬ (0 < k ∧ k < 25) := by
  rintro ⟨h0, h1⟩
  obtain ⟨i, hi, hk⟩ := kAt_of k.toNat (by omega) (by omega) (by omega)
  exact h i hi (by rw [hk]; omega)

end Go.Proofs.YtplolaondmeccaaGreatDoor

namespace Go.Proofs.YtplolaondmeccaaGreatDoor
open Go.RowKit
set_option linter.unusedVariables false
set_option maxRecDepth 20000

/-- What Encode has. -/
structure EncSt (w wr : World) (ev : Ev) (b : Nat) : Prop where
  e : EvAt wr w.heap.size ev
  t : TabAt wr b
  lt : b < wr.heap.size
  b : Below w.heap.size w wr

theorem EncSt.below {w wr wr' : World} {ev : Ev} {b : Nat} (h : EncSt w wr ev b) (hb : Below wr.heap.size wr wr') : EncSt w wr' ev b := ⟨h.e.below hb h.e.lt, h.t.below hb h.lt, Nat.lt_of_lt_of_le h.lt hb.size, below_step h.b hb⟩
theorem EncSt.drew {w wr : World} {ev : Ev} {b : Nat} (h : EncSt w wr ev b) : EncSt w wr.drew ev b := ⟨h.e, h.t, h.lt, h.b.drew⟩
set_option maxHeartbeats 1000000 in
theorem refEnc_other (ev : Ev) (hf : ev.Fits) (h4 : ev.kind ≠ 4) (w : World) : Calls Tryz.prog 66 #[.agg ev.vals] w (EncPost (encS ev) w) := by
  have hk4 : (ev.kind == 4) = false := by simpa using h4
  have HRw : Hid (∀ (n : Nat), n < 23 → (kAt n : Int) = ev.kind → ∀ W, Calls Tryz.prog 113 #[.agg ev.vals, .agg #[.int .i64 (kAt n : Nat), .string (str (wordOf (kAt n))), .string (partsOf (chs (kAt n)))]] W (EncPost (encS ev) W)) := fun n hn hk W => by
    obtain ⟨a1, a2, a3⟩ := kAt_in hn
    exact row_any (kAt n) a1 a2 a3 ev hk.symm hf W
  have HOut : Hid ((∀ j, j < 23 → (kAt j : Int) ≠ ev.kind) → encS ev = none) := fun h => encS_out ev (kinds_all ev.kind h h4)
  have HV : Hid (EvAt (w.alloc (.cells ev.vals 27)) w.heap.size ev) := EvAt.new w ev
  clear h4 hf
  obtain ⟨o, ho⟩ : ∃ o, encS ev = o := ⟨_, rfl⟩
  rw [ho] at HRw HOut ⊢
  clear ho
  unfold Ev.vals at HV HRw ⊢
  go_enter Tryz.func66, Tryz.ntmps66
  go_wp2_with fail
  refine (rows_any _).mono ?_
  rintro e w1 ⟨rfl, ht1, hl1, hb1⟩
  have hV1 := HV.out.below hb1 HV.out.lt
  obtain ⟨b, hb⟩ : ∃ b, (w.alloc (.cells #[.int .i64 ev.kind, .int .i64 ev.session, .int .i64 ev.window, .int .i64 ev.pane, .int .i64 ev.index, .int .i64 ev.offset, .int .i64 ev.tick, .int .i64 ev.number, .int .i64 ev.flag, .string ev.name, .string ev.text, .string ev.layout, .string ev.visible, .bool ev.zoom] 27)).heap.size = b := ⟨_, rfl⟩
  have HS : Hid (EncSt w w1 ev b) := ⟨hV1, hb ▸ ht1, hb ▸ hl1, below_step (below1 _ _) hb1⟩
  rw [hb]
  clear hb ht1 hl1 hb1 hV1 HV
  obtain ⟨q0, q1, q2, q3, q4, q5, q6, q7, q8, q9, q10, q11, q12, q13⟩ := HS.out.e.cells
  go_wp2
  go_loopw [5] (fun i wr => ∃ n : Nat, n ≤ 23 ∧ i = .int .i64 n ∧ Hid (∀ j, j < n → (kAt j : Int) ≠ ev.kind) ∧ EncSt w wr ev b) (fun i _ => 23 - (intOf i).toNat)
  case atStart => exact ⟨0, Nat.zero_le _, rfl, (fun j h => absurd h (Nat.not_lt_zero j)), HS.out⟩
  case round =>
    obtain ⟨n, hn, rfl, HN, hst⟩ := hrel
    have HS2 : Hid (EncSt w wr ev b) := hst
    clear hst HS q0 q1 q2 q3 q4 q5 q6 q7 q8 q9 q10 q11 q12 q13
    obtain ⟨q0, q1, q2, q3, q4, q5, q6, q7, q8, q9, q10, q11, q12, q13⟩ := HS2.out.e.cells
    by_cases hlt : n < 23
    · obtain ⟨t0, t1, t2⟩ := HS2.out.t n hlt
      have HRn := HRw.out n hlt
      obtain ⟨kn, hkn⟩ : ∃ k, kAt n = k := ⟨_, rfl⟩
      obtain ⟨wd, hwd⟩ : ∃ x, str (wordOf (kAt n)) = x := ⟨_, rfl⟩
      obtain ⟨pt, hpt⟩ : ∃ x, partsOf (chs (kAt n)) = x := ⟨_, rfl⟩
      have HKn : Hid (kAt n = kn) := hkn
      have HWd : Hid (str (wordOf (kAt n)) = wd) := hwd
      have HPd : Hid (partsOf (chs (kAt n)) = pt) := hpt
      rw [hwd] at t1 HRn
      rw [hpt] at t2 HRn
      rw [hkn] at t0 HRn
      clear hwd hpt hkn
      by_cases he : ((kn : Int) == ev.kind) = true
      · have HRk : Hid (∀ W, Calls Tryz.prog 113 #[.agg #[.int .i64 ev.kind, .int .i64 ev.session, .int .i64 ev.window, .int .i64 ev.pane, .int .i64 ev.index, .int .i64 ev.offset, .int .i64 ev.tick, .int .i64 ev.number, .int .i64 ev.flag, .string ev.name, .string ev.text, .string ev.layout, .string ev.visible, .bool ev.zoom], .agg #[.int .i64 (kn : Nat), .string wd, .string pt]] W (EncPost o W)) := HRn (eq_of_beq he)
        clear HRn
        cases o with
        | none =>
          have HRe : Hid (∀ W, Calls Tryz.prog 113 #[.agg #[.int .i64 ev.kind, .int .i64 ev.session, .int .i64 ev.window, .int .i64 ev.pane, .int .i64 ev.index, .int .i64 ev.offset, .int .i64 ev.tick, .int .i64 ev.number, .int .i64 ev.flag, .string ev.name, .string ev.text, .string ev.layout, .string ev.visible, .bool ev.zoom], .agg #[.int .i64 (kn : Nat), .string wd, .string pt]] W fun e w' => e = .returned (.tuple #[.string ⟨#[]⟩, .int .i64 30]) ∧ Below W.heap.size W w') := fun W => HRk.out W
          have HD : Hid (EncSt w wr.drew ev b) := HS2.out.drew
          have HDD : Hid (EncSt w wr.drew.drew ev b) := HS2.out.drew.drew
          clear HRk
          go_wp2_with fail
          go_region_held3 (fun W' => W'.cell? ⟨b, n * 3, none⟩ = some (.int .i64 (kn : Nat)) ∧ W'.cell? ⟨w.heap.size, 0, none⟩ = some (.int .i64 ev.kind)) (go_keep) (fail)
          go_wp2_with fail
          go_region_held3 (fun W' => W'.cell? ⟨w.heap.size, 0, none⟩ = some (.int .i64 ev.kind) ∧ W'.cell? ⟨w.heap.size, 1, none⟩ = some (.int .i64 ev.session) ∧ W'.cell? ⟨w.heap.size, 2, none⟩ = some (.int .i64 ev.window) ∧ W'.cell? ⟨w.heap.size, 3, none⟩ = some (.int .i64 ev.pane) ∧ W'.cell? ⟨w.heap.size, 4, none⟩ = some (.int .i64 ev.index) ∧ W'.cell? ⟨w.heap.size, 5, none⟩ = some (.int .i64 ev.offset) ∧ W'.cell? ⟨w.heap.size, 6, none⟩ = some (.int .i64 ev.tick) ∧ W'.cell? ⟨w.heap.size, 7, none⟩ = some (.int .i64 ev.number) ∧ W'.cell? ⟨w.heap.size, 8, none⟩ = some (.int .i64 ev.flag) ∧ W'.cell? ⟨w.heap.size, 9, none⟩ = some (.string ev.name) ∧ W'.cell? ⟨w.heap.size, 10, none⟩ = some (.string ev.text) ∧ W'.cell? ⟨w.heap.size, 11, none⟩ = some (.string ev.layout) ∧ W'.cell? ⟨w.heap.size, 12, none⟩ = some (.string ev.visible) ∧ W'.cell? ⟨w.heap.size, 13, none⟩ = some (.bool ev.zoom) ∧ W'.cell? ⟨b, n * 3, none⟩ = some (.int .i64 (kn : Nat)) ∧ W'.cell? ⟨b, n * 3 + 1, none⟩ = some (.string wd) ∧ W'.cell? ⟨b, n * 3 + 2, none⟩ = some (.string pt)) (go_keep) ((go_at_call 113; refine (HRe.out _).mono ?_; rintro e w2 ⟨rfl, hb2⟩; have HE2 : Hid (EncSt w w2 ev b) := HDD.out.below hb2; obtain ⟨y0, y1, y2, y3, y4, y5, y6, y7, y8, y9, y10, y11, y12, y13⟩ := HE2.out.e.cells; obtain ⟨z0, z1, z2⟩ := HE2.out.t n hlt; rw [HKn.out] at z0; rw [HWd.out] at z1; rw [HPd.out] at z2; clear hb2))
          all_goals go_wp2
          all_goals go_ret2
          all_goals exact ⟨rfl, HE2.out.b⟩
        | some l =>
          have HRe : Hid (∀ W, Calls Tryz.prog 113 #[.agg #[.int .i64 ev.kind, .int .i64 ev.session, .int .i64 ev.window, .int .i64 ev.pane, .int .i64 ev.index, .int .i64 ev.offset, .int .i64 ev.tick, .int .i64 ev.number, .int .i64 ev.flag, .string ev.name, .string ev.text, .string ev.layout, .string ev.visible, .bool ev.zoom], .agg #[.int .i64 (kn : Nat), .string wd, .string pt]] W fun e w' => e = .returned (.tuple #[.string (str l), .int .i64 0]) ∧ Below W.heap.size W w') := fun W => HRk.out W
          have HD : Hid (EncSt w wr.drew ev b) := HS2.out.drew
          have HDD : Hid (EncSt w wr.drew.drew ev b) := HS2.out.drew.drew
          clear HRk
          go_wp2_with fail
          go_region_held3 (fun W' => W'.cell? ⟨b, n * 3, none⟩ = some (.int .i64 (kn : Nat)) ∧ W'.cell? ⟨w.heap.size, 0, none⟩ = some (.int .i64 ev.kind)) (go_keep) (fail)
          go_wp2_with fail
          go_region_held3 (fun W' => W'.cell? ⟨w.heap.size, 0, none⟩ = some (.int .i64 ev.kind) ∧ W'.cell? ⟨w.heap.size, 1, none⟩ = some (.int .i64 ev.session) ∧ W'.cell? ⟨w.heap.size, 2, none⟩ = some (.int .i64 ev.window) ∧ W'.cell? ⟨w.heap.size, 3, none⟩ = some (.int .i64 ev.pane) ∧ W'.cell? ⟨w.heap.size, 4, none⟩ = some (.int .i64 ev.index) ∧ W'.cell? ⟨w.heap.size, 5, none⟩ = some (.int .i64 ev.offset) ∧ W'.cell? ⟨w.heap.size, 6, none⟩ = some (.int .i64 ev.tick) ∧ W'.cell? ⟨w.heap.size, 7, none⟩ = some (.int .i64 ev.number) ∧ W'.cell? ⟨w.heap.size, 8, none⟩ = some (.int .i64 ev.flag) ∧ W'.cell? ⟨w.heap.size, 9, none⟩ = some (.string ev.name) ∧ W'.cell? ⟨w.heap.size, 10, none⟩ = some (.string ev.text) ∧ W'.cell? ⟨w.heap.size, 11, none⟩ = some (.string ev.layout) ∧ W'.cell? ⟨w.heap.size, 12, none⟩ = some (.string ev.visible) ∧ W'.cell? ⟨w.heap.size, 13, none⟩ = some (.bool ev.zoom) ∧ W'.cell? ⟨b, n * 3, none⟩ = some (.int .i64 (kn : Nat)) ∧ W'.cell? ⟨b, n * 3 + 1, none⟩ = some (.string wd) ∧ W'.cell? ⟨b, n * 3 + 2, none⟩ = some (.string pt)) (go_keep) ((go_at_call 113; refine (HRe.out _).mono ?_; rintro e w2 ⟨rfl, hb2⟩; have HE2 : Hid (EncSt w w2 ev b) := HDD.out.below hb2; obtain ⟨y0, y1, y2, y3, y4, y5, y6, y7, y8, y9, y10, y11, y12, y13⟩ := HE2.out.e.cells; obtain ⟨z0, z1, z2⟩ := HE2.out.t n hlt; rw [HKn.out] at z0; rw [HWd.out] at z1; rw [HPd.out] at z2; clear hb2))
          all_goals go_wp2
          all_goals go_ret2
          all_goals exact ⟨rfl, HE2.out.b⟩
      · have he' : ((kn : Int) == ev.kind) = false := by simpa using he
        have HN' : Hid (∀ j, j < n + 1 → (kAt j : Int) ≠ ev.kind) := fun j hj => by
          by_cases hjn : j = n
          · subst hjn
            rw [HKn.out]
            exact fun h => by rw [h] at he'; simp at he'
          · exact HN.out j (by omega)
        clear he HRn HN
        go_wp2_with fail
        go_region_held3 (fun W' => W'.cell? ⟨b, n * 3, none⟩ = some (.int .i64 (kn : Nat)) ∧ W'.cell? ⟨w.heap.size, 0, none⟩ = some (.int .i64 ev.kind)) (go_keep) (fail)
        go_wp2
        go_roundw
        case rel => exact ⟨n + 1, by omega, by go_num, HN', HS2.out.drew⟩
        case measure => simp [intOf]; omega
    · have HO : Hid (o = none) := HOut.out (fun j hj => HN.out j (by omega))
      go_wp2
      go_ret2
      rw [HO.out]
      exact ⟨rfl, HS2.out.b⟩

end Go.Proofs.YtplolaondmeccaaGreatDoor

namespace Go.Proofs.YtplolaondmeccaaGreatDoor
open Go.RowKit
set_option linter.unusedVariables false
set_option maxRecDepth 20000

set_option maxHeartbeats 1000000 in
theorem refEnc_four (ev : Ev) (hf : ev.Fits) (h4 : ev.kind = 4) (w : World) : Calls Tryz.prog 66 #[.agg ev.vals] w (EncPost (encS ev) w) := by
  obtain ⟨e1, e2⟩ := enc_body ev h4
  have hs := hf.text
  unfold slim at hs
  have hlen : (escB ev.text.data.toList).length ≤ 140737488355328 := by have := escB_length ev.text.data.toList; rw [size_data] at this; omega
  have HCn : Hid (∀ W, Calls Tryz.prog 112 #[.string ev.text] W fun e w' => e = .returned (.string (str (escB ev.text.data.toList))) ∧ Below W.heap.size W w') := fun W => refEscapeBody_any _ W (by omega) hlen
  have hv : ev.vals = #[.int .i64 4, .int .i64 ev.session, .int .i64 ev.window, .int .i64 ev.pane, .int .i64 ev.index, .int .i64 ev.offset, .int .i64 ev.tick, .int .i64 ev.number, .int .i64 ev.flag, .string ev.name, .string ev.text, .string ev.layout, .string ev.visible, .bool ev.zoom] := by rw [← h4]; rfl
  have HV : Hid (EvAt (w.alloc (.cells ev.vals 27)) w.heap.size ev) := EvAt.new w ev
  have hq := eqEv ev { Ev.zero 4 with text := ev.text }
  have hv2 : ({ Ev.zero 4 with text := ev.text } : Ev).vals = #[.int .i64 4, .int .i64 0, .int .i64 0, .int .i64 0, .int .i64 0, .int .i64 0, .int .i64 0, .int .i64 0, .int .i64 0, .string ⟨#[]⟩, .string ev.text, .string ⟨#[]⟩, .string ⟨#[]⟩, .bool false] := rfl
  rw [hv, hv2] at hq
  rw [hv] at HV
  by_cases hb : ({ Ev.zero 4 with text := ev.text } : Ev) = ev
  · rw [e1 hb, hv]
    have hq2 : evEq ev { Ev.zero 4 with text := ev.text } = true := (evEq_iff _ _).2 hb.symm
    rw [hq2] at hq
    clear hb hq2 e1 e2 hv hv2 hf h4
    go_enter Tryz.func66, Tryz.ntmps66
    go_wp2_with (go_at_call 112; refine (HCn.out _).mono ?_; rintro e w1 ⟨rfl, hb1⟩)
    all_goals go_ret2
    all_goals exact ⟨rfl, below_step (below1 _ _) hb1⟩
  · rw [e2 hb, hv]
    have hq2 : evEq ev { Ev.zero 4 with text := ev.text } = false := Bool.eq_false_iff.2 fun h => hb ((evEq_iff _ _).1 h).symm
    rw [hq2] at hq
    clear hb hq2 e1 e2 hv hv2 hf h4
    go_enter Tryz.func66, Tryz.ntmps66
    go_wp2
    all_goals go_ret2
    all_goals exact ⟨rfl, below1 _ _⟩

theorem refEncode_any (ev : Ev) (hf : ev.Fits) (w : World) : Calls Tryz.prog 66 #[.agg ev.vals] w (EncPost (encS ev) w) := by
  by_cases h4 : ev.kind = 4
  · exact refEnc_four ev hf h4 w
  · exact refEnc_other ev hf h4 w

end Go.Proofs.YtplolaondmeccaaGreatDoor
