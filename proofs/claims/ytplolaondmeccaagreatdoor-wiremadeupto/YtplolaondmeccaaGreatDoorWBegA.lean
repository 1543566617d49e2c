/-
  Beginnings: a row reads some of its fields; where a class leads to; a field's beginning.
-/
import Derived.Test.YtplolaondmeccaaGreatDoorWRowE
import Derived.WalkKit
import Derived.LoopTactic
namespace Go.Proofs.YtplolaondmeccaaGreatDoor
open Go.RowKit
set_option linter.unusedVariables false

/-- Texts that lie in a block. -/
def TextsIn (w : World) (T : Nat) (l : List ByteArray) : Prop := T < w.heap.size ∧ ∀ (i : Nat) t, l[i]? = some t → w.cell? ⟨T, i, none⟩ = some (.string t)
theorem TextsIn.below {w w' : World} {T : Nat} {l : List ByteArray} (h : TextsIn w T l) (hb : Below w.heap.size w w') : TextsIn w' T l :=
  ⟨Nat.lt_of_lt_of_le h.1 hb.size, fun i t hi => (hb.cell (p := ⟨T, i, none⟩) h.1).trans (h.2 i t hi)⟩
theorem TextsIn.grown {w w' : World} {T : Nat} {l : List ByteArray} {r : Option Nat} (h : TextsIn w T l) (hb : w.grownBy w' r) (hr : some T ≠ r) : TextsIn w' T l :=
  ⟨Nat.lt_of_lt_of_le h.1 hb.size, fun i t hi => (World.cell?_of_block (w := w) (a := ⟨T, i, none⟩) (hb.block T h.1 hr)).trans (h.2 i t hi)⟩
theorem TextsAt.texts {w : World} {T N : Nat} {l : List ByteArray} (h : TextsAt w T l N) : TextsIn w T l := by
  refine ⟨h.lt, fun i t hi => ?_⟩
  rw [cell_at h]
  unfold Lib.cellsOf
  have hl : i < l.length := (List.getElem?_eq_some_iff.1 hi).1
  rw [List.getElem?_toArray, List.getElem?_append_left (by simpa using hl), List.getElem?_map, hi]
  rfl
theorem TextsIn.take {w : World} {T : Nat} {l : List ByteArray} (h : TextsIn w T l) (n : Nat) : TextsIn w T (l.take n) :=
  ⟨h.1, fun i t hi => h.2 i t (by
    rw [List.getElem?_take] at hi
    split at hi
    · exact hi
    · cases hi)⟩

set_option maxRecDepth 20000 in
theorem readFields_in (k : Nat) (h1 : 1 ≤ k) (h2 : k ≤ 24) (B b T : Nat) (l : List ByteArray) (N : Nat) (hlN : l.length ≤ N) (hN : l.length ≤ (fieldsOf k).length) (hlim : ∀ t ∈ l, t.size ≤ lim) (w : World) (hE : Env w) (hF : FieldsAt B w b (fieldsOf k)) (hT : TextsIn w T l) :
    Calls Tryz.prog 30 #[rowV k b, .slice (some ⟨T, 0, none⟩) l.length N] w (ReadPost (readAll (fieldsOf k) (l.map (·.data.toList)) (Ev.zero k)) w) := by
  obtain ⟨n1, n2⟩ := fields_len k h1 h2
  obtain ⟨fs, hfs⟩ : ∃ fs, fieldsOf k = fs := ⟨_, rfl⟩
  obtain ⟨hd, hhd⟩ : ∃ hd, headOf k = hd := ⟨_, rfl⟩
  unfold rowV
  rw [hfs] at n1 n2 hF hN ⊢
  rw [hhd]
  obtain ⟨ln, hln⟩ : ∃ ln, fs.length = ln := ⟨_, rfl⟩
  have HLn : Hid (fs.length = ln) := hln
  rw [hln] at n1 n2 hN ⊢
  obtain ⟨m, hm⟩ : ∃ m, l.length = m := ⟨_, rfl⟩
  have HM : Hid (l.length = m) := hm
  rw [hm] at hN hlN ⊢
  have HF : Hid (FieldsAt B w b fs) := hF
  have HT : Hid (TextsIn w T l) := hT
  obtain ⟨want, hwant⟩ : ∃ o, readAll fs (l.map (·.data.toList)) (Ev.zero k) = o := ⟨_, rfl⟩
  have HLim : Hid (∀ t ∈ l, t.size ≤ lim) := hlim
  obtain ⟨row, hrow⟩ : ∃ r : Array Value, #[.int .i64 k, .string (str hd), .slice (some ⟨b, 0, none⟩) ln ln] = r := ⟨_, rfl⟩
  have HRW : Hid (#[.int .i64 k, .string (str hd), .slice (some ⟨b, 0, none⟩) ln ln] = row) := hrow
  have HS : Hid (RInv w row want fs l (Ev.zero k) 0 (((w.alloc (.cells row 45)).alloc (.cells (Ev.zero 0).vals 27)).alloc (.cells (Ev.zero k).vals 27))) := hwant ▸ RInv.start w row fs l k
  rw [hwant]
  have HP : Hid (∀ e w', ReadPost want w e w' ↔ ReadPost want w e w') := fun _ _ => Iff.rfl
  clear hF hT hln hm hwant hlim hrow hhd hfs
  go_enter Tryz.func30, Tryz.ntmps30
  go_wp2
  go_loopw [14] (fun v wr => ∃ (i : Nat) (ev : Ev), i ≤ m ∧ v = .int .i64 i ∧ RInv w row want fs l ev i wr) (fun v _ => m - (intOf v).toNat)
  case atStart => exact ⟨0, Ev.zero k, Nat.zero_le _, rfl, by rw [← HRW.out] at HS ⊢; exact HS.out⟩
  case round =>
    obtain ⟨i, ev, hi, rfl, hinv⟩ := hrel
    have HI : Hid (RInv w row want fs l ev i wr) := hinv
    clear hinv
    by_cases hlt : i < m
    · obtain ⟨F, hFi⟩ : ∃ F, fs[i]? = some F := ⟨_, List.getElem?_eq_getElem (by rw [HLn.out]; omega)⟩
      obtain ⟨t, hti⟩ : ∃ t, l[i]? = some t := ⟨_, List.getElem?_eq_getElem (by rw [HM.out]; omega)⟩
      have htl : t.size ≤ lim := HLim.out t (List.mem_of_getElem? hti)
      obtain ⟨pv, rv, es, c0, c1, c2, ⟨g, lb, g', lb', rfl, rfl, _, eg, _, hread⟩, -⟩ := HF.out.2 i F hFi
      have hB := HF.out.1
      have hbl := HI.out.hbelow
      have hil : i < ln := by omega
      have d1 : wr.cell? ⟨b, i * 3 + 1, none⟩ = some (.func (.func g') #[] lb') := by rw [Nat.mul_comm]; exact (hbl.cell (p := ⟨b, _, none⟩) hB.2).trans c1
      have d2 : wr.cell? ⟨T, i, none⟩ = some (.string t) := by
        exact (hbl.cell (p := ⟨T, i, none⟩) HT.out.1).trans (HT.out.2 i t hti)
      have d3 : wr.cell? ⟨w.heap.size, 2, none⟩ = some (.slice (some ⟨b, 0, none⟩) ln ln) := by rw [cell_at HI.out.hrow, ← HRW.out]; rfl
      unfold Enters at eg
      have HRd : Hid (Calls Tryz.prog g' (#[.pointer (some ⟨w.heap.size + 1 + 1, 0, none⟩), .string t] ++ lb') wr fun e w' => ∃ ev' ok, e = .returned (.bool ok) ∧ EvAt w' (w.heap.size + 1 + 1) ev' ∧ wr.grownBy w' (some (w.heap.size + 1 + 1)) ∧ Left (F.read t.data.toList) ev ev' ok) :=
        hread _ _ ev t (Since.of_below hbl) (hE.below hbl) (.inr (by omega)) HI.out.hev htl
      have HNx : Hid (∀ w2 ev' ok, EvAt w2 (w.heap.size + 1 + 1) ev' → wr.grownBy w2 (some (w.heap.size + 1 + 1)) → Left (F.read t.data.toList) ev ev' ok →
          (ok = true → RInv w row want fs l ev' (i + 1) w2) ∧ (ok = false → want = none) ∧ EvAt w2 (w.heap.size + 1) (Ev.zero 0) ∧ Below w.heap.size w w2) := fun w2 ev' ok a b c => HI.out.next hFi hti a b c
      clear c0 c1 c2 hread hB hbl hFi hti
      go_wp2_with fail
      refine HRd.out.mono ?_
      rintro e w2 ⟨ev', ok, rfl, hv, hg, hl⟩
      obtain ⟨y1, y2, y3, y4⟩ := HNx.out w2 ev' ok hv hg hl
      clear hv hg hl HRd HNx HI HS
      cases ok
      · have hw := y2 rfl
        have HY : Hid (Below w.heap.size w w2) := y4
        obtain ⟨q0, q1, q2, q3, q4, q5, q6, q7, q8, q9, q10, q11, q12, q13⟩ := y3.cells
        obtain ⟨f0, f1, f2, f3, f4, f5, f6, f7, f8, f9, f10, f11, f12, f13⟩ := y3.frees
        have HW : Hid (want = none) := hw
        clear y1 y2 y3 y4 hw
        unfold Ev.zero at q0 q1 q2 q3 q4 q5 q6 q7 q8 q9 q10 q11 q12 q13
        go_wp2
        refine bodyPost_ret (v := .tuple #[.agg #[.int .i64 0, .int .i64 0, .int .i64 0, .int .i64 0, .int .i64 0, .int .i64 0, .int .i64 0, .int .i64 0, .int .i64 0, .string ⟨#[]⟩, .string ⟨#[]⟩, .string ⟨#[]⟩, .string ⟨#[]⟩, .bool false], .bool false]) (by simp [results, Tryz.results30, go_sem, q0, q1, q2, q3, q4, q5, q6, q7, q8, q9, q10, q11, q12, q13]) rfl ?_
        unfold ReadPost
        rw [HW.out]
        exact ⟨rfl, below14 HY.out (by omega) _ _ _ _ _ _ _ _ _ _ _ _ _ _⟩
      · have HX : Hid (RInv w row want fs l ev' (i + 1) w2) := y1 rfl
        clear y1 y2 y3 y4
        go_wp2
        go_roundw
        case rel => exact ⟨i + 1, ev', by omega, by go_num, HX.out⟩
        case measure => simp [intOf]; omega
    · have hie : i = m := by omega
      have HW : Hid (want = some ev) := by
        have h := HI.out.hread
        have hnil : l.drop i = [] := List.drop_eq_nil_of_le (by rw [HM.out]; omega)
        rw [hnil] at h
        show want = some ev
        rw [← h]
        cases fs.drop i <;> rfl
      obtain ⟨q0, q1, q2, q3, q4, q5, q6, q7, q8, q9, q10, q11, q12, q13⟩ := HI.out.hres.cells
      obtain ⟨f0, f1, f2, f3, f4, f5, f6, f7, f8, f9, f10, f11, f12, f13⟩ := HI.out.hres.frees
      obtain ⟨e0, e1, e2, e3, e4, e5, e6, e7, e8, e9, e10, e11, e12, e13⟩ := HI.out.hev.cells
      have HY : Hid (Below w.heap.size w wr) := HI.out.hbelow
      unfold Ev.zero at q0 q1 q2 q3 q4 q5 q6 q7 q8 q9 q10 q11 q12 q13
      clear HI HS hie
      go_wp2
      refine bodyPost_ret (v := .tuple #[.agg #[.int .i64 ev.kind, .int .i64 ev.session, .int .i64 ev.window, .int .i64 ev.pane, .int .i64 ev.index, .int .i64 ev.offset, .int .i64 ev.tick, .int .i64 ev.number, .int .i64 ev.flag, .string ev.name, .string ev.text, .string ev.layout, .string ev.visible, .bool ev.zoom], .bool true]) (by simp [results, Tryz.results30, go_sem, q0, q1, q2, q3, q4, q5, q6, q7, q8, q9, q10, q11, q12, q13]) rfl ?_
      unfold ReadPost
      rw [HW.out]
      exact ⟨rfl, below14 HY.out (by omega) _ _ _ _ _ _ _ _ _ _ _ _ _ _⟩

end Go.Proofs.YtplolaondmeccaaGreatDoor
