/-
  A row reads the texts of its fields.
-/
import Derived.Test.YtplolaondmeccaaGreatDoorWRowC
import Derived.WalkKit
import Derived.LoopTactic
namespace Go.Proofs.YtplolaondmeccaaGreatDoor
open Go.RowKit
set_option linter.unusedVariables false

/-- The event that a row begins with. -/
theorem zero_vals (k : Int) : (Ev.zero k).vals = #[.int .i64 k, .int .i64 0, .int .i64 0, .int .i64 0, .int .i64 0, .int .i64 0, .int .i64 0, .int .i64 0, .int .i64 0, .string ⟨#[]⟩, .string ⟨#[]⟩, .string ⟨#[]⟩, .string ⟨#[]⟩, .bool false] := rfl

/-- What holds at each round's head. -/
structure RInv (w : World) (row : Array Value) (want : Option Ev) (fs : List FSpec) (l : List ByteArray) (ev : Ev) (i : Nat) (wr : World) : Prop where
  hev : EvAt wr (w.heap.size + 1 + 1) ev
  hres : EvAt wr (w.heap.size + 1) (Ev.zero 0)
  hrow : wr.heap[w.heap.size]? = some (.cells row 45 (0, 0))
  hbelow : Below w.heap.size w wr
  hread : readAll (fs.drop i) ((l.drop i).map (·.data.toList)) ev = want

theorem RInv.start (w : World) (row : Array Value) (fs : List FSpec) (l : List ByteArray) (k : Int) :
    RInv w row (readAll fs (l.map (·.data.toList)) (Ev.zero k)) fs l (Ev.zero k) 0 (((w.alloc (.cells row 45)).alloc (.cells (Ev.zero 0).vals 27)).alloc (.cells (Ev.zero k).vals 27)) := by
  have e1 := EvAt.new (w.alloc (.cells row 45)) (Ev.zero 0)
  have e2 := EvAt.new ((w.alloc (.cells row 45)).alloc (.cells (Ev.zero 0).vals 27)) (Ev.zero k)
  rw [size1] at e1
  rw [size1, size1] at e2
  refine ⟨e2, e1.alloc _, ?_, below3 _ _ _ _, rfl⟩
  rw [Below.heap_alloc _ _ _ (by rw [size1, size1]; omega), Below.heap_alloc _ _ _ (by rw [size1]; omega)]
  exact heap_alloc_new w _

theorem RInv.next {w : World} {row : Array Value} {want : Option Ev} {fs : List FSpec} {l : List ByteArray} {ev ev' : Ev} {i : Nat} {wr w2 : World} {F : FSpec} {t : ByteArray} {ok : Bool} (h : RInv w row want fs l ev i wr) (hF : fs[i]? = some F) (ht : l[i]? = some t)
    (hv : EvAt w2 (w.heap.size + 1 + 1) ev') (hg : wr.grownBy w2 (some (w.heap.size + 1 + 1))) (hl : Left (F.read t.data.toList) ev ev' ok) :
    (ok = true → RInv w row want fs l ev' (i + 1) w2) ∧ (ok = false → want = none) ∧ EvAt w2 (w.heap.size + 1) (Ev.zero 0) ∧ Below w.heap.size w w2 := by
  obtain ⟨hi, rfl⟩ := List.getElem?_eq_some_iff.1 hF
  obtain ⟨hj, rfl⟩ := List.getElem?_eq_some_iff.1 ht
  have hr := h.hread
  rw [List.drop_eq_getElem_cons hi, List.drop_eq_getElem_cons hj, List.map_cons] at hr
  have hr' : (fs[i].read l[i].data.toList).bind (fun g => readAll (fs.drop (i + 1)) ((l.drop (i + 1)).map (·.data.toList)) (g ev)) = want := hr
  have hres := h.hres.grown hg (by simp)
  have hbel : Below w.heap.size w w2 := h.hbelow.grown hg h.hbelow.size (fun k e => by cases e; omega)
  rcases hl with ⟨f, h1, rfl, rfl⟩ | ⟨h1, rfl⟩
  · rw [h1] at hr'
    refine ⟨fun _ => ⟨hv, hres, ?_, hbel, hr'⟩, (fun e => by cases e), hres, hbel⟩
    rw [hg.block _ (lt_of_block h.hrow) (by simp only [ne_eq, Option.some.injEq]; omega)]
    exact h.hrow
  · rw [h1] at hr'
    exact ⟨(fun e => by cases e), fun _ => hr'.symm, hres, hbel⟩

/-- The fourteen cells of an event. -/
theorem EvAt.cells {w : World} {b : Nat} {ev : Ev} (h : EvAt w b ev) : w.cell? ⟨b, 0, none⟩ = some (.int .i64 ev.kind) ∧ w.cell? ⟨b, 1, none⟩ = some (.int .i64 ev.session) ∧ w.cell? ⟨b, 2, none⟩ = some (.int .i64 ev.window) ∧ w.cell? ⟨b, 3, none⟩ = some (.int .i64 ev.pane) ∧ w.cell? ⟨b, 4, none⟩ = some (.int .i64 ev.index) ∧ w.cell? ⟨b, 5, none⟩ = some (.int .i64 ev.offset) ∧ w.cell? ⟨b, 6, none⟩ = some (.int .i64 ev.tick) ∧ w.cell? ⟨b, 7, none⟩ = some (.int .i64 ev.number) ∧ w.cell? ⟨b, 8, none⟩ = some (.int .i64 ev.flag) ∧ w.cell? ⟨b, 9, none⟩ = some (.string ev.name) ∧ w.cell? ⟨b, 10, none⟩ = some (.string ev.text) ∧ w.cell? ⟨b, 11, none⟩ = some (.string ev.layout) ∧ w.cell? ⟨b, 12, none⟩ = some (.string ev.visible) ∧ w.cell? ⟨b, 13, none⟩ = some (.bool ev.zoom) :=
  ⟨h.cell 0, h.cell 1, h.cell 2, h.cell 3, h.cell 4, h.cell 5, h.cell 6, h.cell 7, h.cell 8, h.cell 9, h.cell 10, h.cell 11, h.cell 12, h.cell 13⟩
theorem EvAt.frees {w : World} {b : Nat} {ev : Ev} (h : EvAt w b ev) : w.frozen? ⟨b, 0, none⟩ = false ∧ w.frozen? ⟨b, 1, none⟩ = false ∧ w.frozen? ⟨b, 2, none⟩ = false ∧ w.frozen? ⟨b, 3, none⟩ = false ∧ w.frozen? ⟨b, 4, none⟩ = false ∧ w.frozen? ⟨b, 5, none⟩ = false ∧ w.frozen? ⟨b, 6, none⟩ = false ∧ w.frozen? ⟨b, 7, none⟩ = false ∧ w.frozen? ⟨b, 8, none⟩ = false ∧ w.frozen? ⟨b, 9, none⟩ = false ∧ w.frozen? ⟨b, 10, none⟩ = false ∧ w.frozen? ⟨b, 11, none⟩ = false ∧ w.frozen? ⟨b, 12, none⟩ = false ∧ w.frozen? ⟨b, 13, none⟩ = false :=
  ⟨h.free 0, h.free 1, h.free 2, h.free 3, h.free 4, h.free 5, h.free 6, h.free 7, h.free 8, h.free 9, h.free 10, h.free 11, h.free 12, h.free 13⟩

theorem below14 {B : Nat} {a w : World} (h : Below B a w) {b : Nat} (hb : B ≤ b) (v0 v1 v2 v3 v4 v5 v6 v7 v8 v9 v10 v11 v12 v13 : Value) : Below B a ((((((((((((((w.setCell ⟨b, 0, none⟩ v0).setCell ⟨b, 1, none⟩ v1).setCell ⟨b, 2, none⟩ v2).setCell ⟨b, 3, none⟩ v3).setCell ⟨b, 4, none⟩ v4).setCell ⟨b, 5, none⟩ v5).setCell ⟨b, 6, none⟩ v6).setCell ⟨b, 7, none⟩ v7).setCell ⟨b, 8, none⟩ v8).setCell ⟨b, 9, none⟩ v9).setCell ⟨b, 10, none⟩ v10).setCell ⟨b, 11, none⟩ v11).setCell ⟨b, 12, none⟩ v12).setCell ⟨b, 13, none⟩ v13) :=
  ((((((((((((((h.setCell hb _).setCell hb _).setCell hb _).setCell hb _).setCell hb _).setCell hb _).setCell hb _).setCell hb _).setCell hb _).setCell hb _).setCell hb _).setCell hb _).setCell hb _).setCell hb _)

/-- What a reading answers. -/
def ReadPost (want : Option Ev) (w : World) (e : Ending) (w' : World) : Prop :=
  (match want with
    | some ev => e = .returned (.tuple #[.agg ev.vals, .bool true])
    | none => e = .returned (.tuple #[.agg (Ev.zero 0).vals, .bool false])) ∧ Below w.heap.size w w'

set_option maxRecDepth 20000 in
theorem readFields_any (k : Nat) (h1 : 1 ≤ k) (h2 : k ≤ 24) (B b T : Nat) (l : List ByteArray) (N : Nat) (hlN : l.length ≤ N) (hN : l.length ≤ (fieldsOf k).length) (hlim : ∀ t ∈ l, t.size ≤ lim) (w : World) (hE : Env w) (hF : FieldsAt B w b (fieldsOf k)) (hT : TextsAt w T l N) :
    Calls Tryz.prog 30 #[rowV k b, .slice (some ⟨T, 0, none⟩) l.length N] w (ReadPost (readAll (fieldsOf k) (l.map (·.data.toList)) (Ev.zero k)) w) := by
  obtain ⟨n1, n2⟩ := fields_len k h1 h2
  obtain ⟨fs, hfs⟩ : ∃ fs, fieldsOf k = fs := ⟨_, rfl⟩
  obtain ⟨hd, hhd⟩ : ∃ hd, headOf k = hd := ⟨_, rfl⟩
  unfold rowV
  rw [hfs] at n1 n2 hF hN ⊢
  rw [hhd]
  obtain ⟨ln, hln⟩ : ∃ ln, fs.length = ln := ⟨_, rfl⟩
  have HLn : Hid (fs.length = ln) := hln
  rw [hln] at n1 n2 hN ⊢
  obtain ⟨m, hm⟩ : ∃ m, l.length = m := ⟨_, rfl⟩
  have HM : Hid (l.length = m) := hm
  rw [hm] at hN hlN ⊢
  have HF : Hid (FieldsAt B w b fs) := hF
  have HT : Hid (TextsAt w T l N) := hT
  obtain ⟨want, hwant⟩ : ∃ o, readAll fs (l.map (·.data.toList)) (Ev.zero k) = o := ⟨_, rfl⟩
  have HLim : Hid (∀ t ∈ l, t.size ≤ lim) := hlim
  obtain ⟨row, hrow⟩ : ∃ r : Array Value, #[.int .i64 k, .string (str hd), .slice (some ⟨b, 0, none⟩) ln ln] = r := ⟨_, rfl⟩
  have HRW : Hid (#[.int .i64 k, .string (str hd), .slice (some ⟨b, 0, none⟩) ln ln] = row) := hrow
  have HS : Hid (RInv w row want fs l (Ev.zero k) 0 (((w.alloc (.cells row 45)).alloc (.cells (Ev.zero 0).vals 27)).alloc (.cells (Ev.zero k).vals 27))) := hwant ▸ RInv.start w row fs l k
  rw [hwant]
  have HP : Hid (∀ e w', ReadPost want w e w' ↔ ReadPost want w e w') := fun _ _ => Iff.rfl
  clear hF hT hln hm hwant hlim hrow hhd hfs
  go_enter Tryz.func30, Tryz.ntmps30
  go_wp2
  go_loopw [14] (fun v wr => ∃ (i : Nat) (ev : Ev), i ≤ m ∧ v = .int .i64 i ∧ RInv w row want fs l ev i wr) (fun v _ => m - (intOf v).toNat)
  case atStart => exact ⟨0, Ev.zero k, Nat.zero_le _, rfl, by rw [← HRW.out] at HS ⊢; exact HS.out⟩
  case round =>
    obtain ⟨i, ev, hi, rfl, hinv⟩ := hrel
    have HI : Hid (RInv w row want fs l ev i wr) := hinv
    clear hinv
    by_cases hlt : i < m
    · obtain ⟨F, hFi⟩ : ∃ F, fs[i]? = some F := ⟨_, List.getElem?_eq_getElem (by rw [HLn.out]; omega)⟩
      obtain ⟨t, hti⟩ : ∃ t, l[i]? = some t := ⟨_, List.getElem?_eq_getElem (by rw [HM.out]; omega)⟩
      have htl : t.size ≤ lim := HLim.out t (List.mem_of_getElem? hti)
      obtain ⟨pv, rv, es, c0, c1, c2, ⟨g, lb, g', lb', rfl, rfl, _, eg, _, hread⟩, -⟩ := HF.out.2 i F hFi
      have hB := HF.out.1
      have hbl := HI.out.hbelow
      have hil : i < ln := by omega
      have d1 : wr.cell? ⟨b, i * 3 + 1, none⟩ = some (.func (.func g') #[] lb') := by rw [Nat.mul_comm]; exact (hbl.cell (p := ⟨b, _, none⟩) hB.2).trans c1
      have d2 : wr.cell? ⟨T, i, none⟩ = some (.string t) := by
        refine (hbl.cell (p := ⟨T, i, none⟩) HT.out.lt).trans ?_
        rw [cell_at HT.out]
        unfold Lib.cellsOf
        rw [List.getElem?_toArray, List.getElem?_append_left (by simp; rw [HM.out]; exact hlt), List.getElem?_map, hti]
        rfl
      have d3 : wr.cell? ⟨w.heap.size, 2, none⟩ = some (.slice (some ⟨b, 0, none⟩) ln ln) := by rw [cell_at HI.out.hrow, ← HRW.out]; rfl
      unfold Enters at eg
      have HRd : Hid (Calls Tryz.prog g' (#[.pointer (some ⟨w.heap.size + 1 + 1, 0, none⟩), .string t] ++ lb') wr fun e w' => ∃ ev' ok, e = .returned (.bool ok) ∧ EvAt w' (w.heap.size + 1 + 1) ev' ∧ wr.grownBy w' (some (w.heap.size + 1 + 1)) ∧ Left (F.read t.data.toList) ev ev' ok) :=
        hread _ _ ev t (Since.of_below hbl) (hE.below hbl) (.inr (by omega)) HI.out.hev htl
      have HNx : Hid (∀ w2 ev' ok, EvAt w2 (w.heap.size + 1 + 1) ev' → wr.grownBy w2 (some (w.heap.size + 1 + 1)) → Left (F.read t.data.toList) ev ev' ok →
          (ok = true → RInv w row want fs l ev' (i + 1) w2) ∧ (ok = false → want = none) ∧ EvAt w2 (w.heap.size + 1) (Ev.zero 0) ∧ Below w.heap.size w w2) := fun w2 ev' ok a b c => HI.out.next hFi hti a b c
      clear c0 c1 c2 hread hB hbl hFi hti
      go_wp2_with fail
      refine HRd.out.mono ?_
      rintro e w2 ⟨ev', ok, rfl, hv, hg, hl⟩
      obtain ⟨y1, y2, y3, y4⟩ := HNx.out w2 ev' ok hv hg hl
      clear hv hg hl HRd HNx HI HS
      cases ok
      · have hw := y2 rfl
        have HY : Hid (Below w.heap.size w w2) := y4
        obtain ⟨q0, q1, q2, q3, q4, q5, q6, q7, q8, q9, q10, q11, q12, q13⟩ := y3.cells
        obtain ⟨f0, f1, f2, f3, f4, f5, f6, f7, f8, f9, f10, f11, f12, f13⟩ := y3.frees
        have HW : Hid (want = none) := hw
        clear y1 y2 y3 y4 hw
        unfold Ev.zero at q0 q1 q2 q3 q4 q5 q6 q7 q8 q9 q10 q11 q12 q13
        go_wp2
        refine bodyPost_ret (v := .tuple #[.agg #[.int .i64 0, .int .i64 0, .int .i64 0, .int .i64 0, .int .i64 0, .int .i64 0, .int .i64 0, .int .i64 0, .int .i64 0, .string ⟨#[]⟩, .string ⟨#[]⟩, .string ⟨#[]⟩, .string ⟨#[]⟩, .bool false], .bool false]) (by simp [results, Tryz.results30, go_sem, q0, q1, q2, q3, q4, q5, q6, q7, q8, q9, q10, q11, q12, q13]) rfl ?_
        unfold ReadPost
        rw [HW.out]
        exact ⟨rfl, below14 HY.out (by omega) _ _ _ _ _ _ _ _ _ _ _ _ _ _⟩
      · have HX : Hid (RInv w row want fs l ev' (i + 1) w2) := y1 rfl
        clear y1 y2 y3 y4
        go_wp2
        go_roundw
        case rel => exact ⟨i + 1, ev', by omega, by go_num, HX.out⟩
        case measure => simp [intOf]; omega
    · have hie : i = m := by omega
      have HW : Hid (want = some ev) := by
        have h := HI.out.hread
        have hnil : l.drop i = [] := List.drop_eq_nil_of_le (by rw [HM.out]; omega)
        rw [hnil] at h
        show want = some ev
        rw [← h]
        cases fs.drop i <;> rfl
      obtain ⟨q0, q1, q2, q3, q4, q5, q6, q7, q8, q9, q10, q11, q12, q13⟩ := HI.out.hres.cells
      obtain ⟨f0, f1, f2, f3, f4, f5, f6, f7, f8, f9, f10, f11, f12, f13⟩ := HI.out.hres.frees
      obtain ⟨e0, e1, e2, e3, e4, e5, e6, e7, e8, e9, e10, e11, e12, e13⟩ := HI.out.hev.cells
      have HY : Hid (Below w.heap.size w wr) := HI.out.hbelow
      unfold Ev.zero at q0 q1 q2 q3 q4 q5 q6 q7 q8 q9 q10 q11 q12 q13
      clear HI HS hie
      go_wp2
      refine bodyPost_ret (v := .tuple #[.agg #[.int .i64 ev.kind, .int .i64 ev.session, .int .i64 ev.window, .int .i64 ev.pane, .int .i64 ev.index, .int .i64 ev.offset, .int .i64 ev.tick, .int .i64 ev.number, .int .i64 ev.flag, .string ev.name, .string ev.text, .string ev.layout, .string ev.visible, .bool ev.zoom], .bool true]) (by simp [results, Tryz.results30, go_sem, q0, q1, q2, q3, q4, q5, q6, q7, q8, q9, q10, q11, q12, q13]) rfl ?_
      unfold ReadPost
      rw [HW.out]
      exact ⟨rfl, below14 HY.out (by omega) _ _ _ _ _ _ _ _ _ _ _ _ _ _⟩

end Go.Proofs.YtplolaondmeccaaGreatDoor
