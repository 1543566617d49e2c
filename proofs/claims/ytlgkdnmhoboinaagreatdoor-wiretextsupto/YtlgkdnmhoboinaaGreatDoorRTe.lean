/-
  The document's Text.
-/
import Derived.Test.YtlgkdnmhoboinaaGreatDoorREn
import Derived.Test.YtlgkdnmhoboinaaGreatDoorWSameB
import Derived.WalkKit
import Derived.LoopTactic
namespace Go.Proofs.YtlgkdnmhoboinaaGreatDoor
open Go.RowKit
set_option linter.unusedVariables false
set_option maxRecDepth 20000

set_option maxHeartbeats 2000000 in
theorem refText_row (l : List Ev) (hfit : ∀ e ∈ l, e.Fits) (hm : l.length ≤ 1048576) (b o c : Nat) (w : World) (hb : b < w.heap.size) (hrow : EvRow w b o l) :
    Calls Tryz.prog 17 #[.slice (some ⟨b, o, none⟩) l.length c] w fun e w' => e = .returned (textOut (textS l)) ∧ Below w.heap.size w w' := by
  obtain ⟨n, hln⟩ : ∃ n, l.length = n := ⟨_, rfl⟩
  have HL : Hid (l.length = n) := hln
  rw [hln] at hm ⊢
  clear hln
  have HR : Hid (EvRow w b o l) := hrow
  have HF : Hid (∀ e ∈ l, e.Fits) := hfit
  obtain ⟨out, hout⟩ : ∃ x, textOut (textS l) = x := ⟨_, rfl⟩
  have HO : Hid (textOut (textS l) = out) := hout
  rw [hout]
  clear hrow hfit hout
  go_enter Tryz.func17, Tryz.ntmps17
  go_wp2
  go_loopw [4, 5] (fun u v wr => ∃ (i : Nat) (done : List UInt8), i ≤ n ∧ v = .int .i64 i ∧ Hid (textS l = (textS (l.drop i)).map (done ++ ·)) ∧ done.length ≤ i * 67108865 ∧ Owns wr w.heap.size u done ∧ Below w.heap.size w wr) (fun _ v _ => n - (intOf v).toNat)
  case atStart => exact ⟨0, [], Nat.zero_le _, rfl, (show textS l = (textS l).map ([] ++ ·) by simp), by simp, Owns.nil _ _, Below.refl _ _⟩
  case round =>
    obtain ⟨i, done, hi, rfl, HS, hdl, hown, hbl⟩ := hrel
    have HB : Hid (Below w.heap.size w wr) := hbl
    have hBr : w.heap.size ≤ wr.heap.size := hbl.size
    clear hbl
    by_cases hlt : i < n
    · obtain ⟨ev, hev⟩ : ∃ e, l[i]? = some e := ⟨_, List.getElem?_eq_getElem (by rw [HL.out]; exact hlt)⟩
      have HV : Hid (l[i]? = some ev) := hev
      have hFe : ev.Fits := HF.out ev (List.mem_of_getElem? hev)
      have hc : wr.cell? ⟨b, o + i * 14, none⟩ = some (.int .i64 ev.kind) ∧ wr.cell? ⟨b, o + i * 14 + 1, none⟩ = some (.int .i64 ev.session) ∧ wr.cell? ⟨b, o + i * 14 + 2, none⟩ = some (.int .i64 ev.window) ∧ wr.cell? ⟨b, o + i * 14 + 3, none⟩ = some (.int .i64 ev.pane) ∧ wr.cell? ⟨b, o + i * 14 + 4, none⟩ = some (.int .i64 ev.index) ∧ wr.cell? ⟨b, o + i * 14 + 5, none⟩ = some (.int .i64 ev.offset) ∧ wr.cell? ⟨b, o + i * 14 + 6, none⟩ = some (.int .i64 ev.tick) ∧ wr.cell? ⟨b, o + i * 14 + 7, none⟩ = some (.int .i64 ev.number) ∧ wr.cell? ⟨b, o + i * 14 + 8, none⟩ = some (.int .i64 ev.flag) ∧ wr.cell? ⟨b, o + i * 14 + 9, none⟩ = some (.string ev.name) ∧ wr.cell? ⟨b, o + i * 14 + 10, none⟩ = some (.string ev.text) ∧ wr.cell? ⟨b, o + i * 14 + 11, none⟩ = some (.string ev.layout) ∧ wr.cell? ⟨b, o + i * 14 + 12, none⟩ = some (.string ev.visible) ∧ wr.cell? ⟨b, o + i * 14 + 13, none⟩ = some (.bool ev.zoom) := EvRow.at (fun j u hu => by rw [HB.out.cell (p := ⟨b, o + j, none⟩) hb]; exact HR.out j u hu) hev
      obtain ⟨q0, q1, q2, q3, q4, q5, q6, q7, q8, q9, q10, q11, q12, q13⟩ := hc
      clear hev
      have HEn := refEncode_any ev hFe
      cases henc : encS ev with
      | none =>
        have HEc : Hid (∀ W, Calls Tryz.prog 14 #[.agg #[.int .i64 ev.kind, .int .i64 ev.session, .int .i64 ev.window, .int .i64 ev.pane, .int .i64 ev.index, .int .i64 ev.offset, .int .i64 ev.tick, .int .i64 ev.number, .int .i64 ev.flag, .string ev.name, .string ev.text, .string ev.layout, .string ev.visible, .bool ev.zoom]] W fun e w' => e = .returned (.tuple #[.string ⟨#[]⟩, .int .i64 30]) ∧ Below W.heap.size W w') := fun W => by
          have := HEn W
          rw [henc] at this
          exact this
        have HX : Hid (out = .tuple #[.string ⟨#[]⟩, .int .i64 30]) := by
          show _ = _
          rw [← HO.out, textS_stop HV.out henc HS.out]
          rfl
        clear henc HEn hown
        go_wp2_with fail
        refine (HEc.out _).mono ?_
        rintro e w2 ⟨rfl, hb2⟩
        have HB2 : Hid (Below w.heap.size w w2) := below_step HB.out hb2
        clear hb2
        go_wp2
        go_ret2
        rw [HX.out]
        exact ⟨rfl, HB2.out⟩
      | some line =>
        have HEc : Hid (∀ W, Calls Tryz.prog 14 #[.agg #[.int .i64 ev.kind, .int .i64 ev.session, .int .i64 ev.window, .int .i64 ev.pane, .int .i64 ev.index, .int .i64 ev.offset, .int .i64 ev.tick, .int .i64 ev.number, .int .i64 ev.flag, .string ev.name, .string ev.text, .string ev.layout, .string ev.visible, .bool ev.zoom]] W fun e w' => e = .returned (.tuple #[.string (str line), .int .i64 0]) ∧ Below W.heap.size W w') := fun W => by
          have := HEn W
          rw [henc] at this
          exact this
        have hll : line.length ≤ 67108864 := enc_len hFe henc
        have HX : Hid (textS l = (textS (l.drop (i + 1))).map ((done ++ (line ++ [10])) ++ ·)) := textS_step HV.out henc HS.out
        have hz : done.length + (str line).size ≤ 140737488355328 := by rw [str_size]; omega
        have HD : Hid ((done ++ (line ++ [10])).length ≤ (i + 1) * 67108865) := by show _ ≤ _; simp; omega
        have hz1 : (done ++ (str line).data.toList).length + 1 ≤ 140737488355328 := by rw [List.length_append, str_data]; omega
        have HOw : Hid (Owns wr w.heap.size _ done) := hown
        clear henc HEn hown
        go_wp2_with fail
        refine (HEc.out _).mono ?_
        rintro e w2 ⟨rfl, hb2⟩
        have HB2 : Hid (Below w.heap.size w w2) := below_step HB.out hb2
        have HO2 : Hid (Owns w2 w.heap.size _ done) := HOw.out.below hb2
        have hB2 : w.heap.size ≤ w2.heap.size := HB2.out.size
        clear hb2
        go_wp2_with (first
          | (at_builtin; refine wpList_append_text _ rfl (.tmp 24) (.tmp 25) 42 9 rfl Tryz.underlying42 Tryz.underlying9 info5 w.heap.size _ done rfl HO2.out _ rfl hz ?_ ?_; exact hB2; (intro v3 w3 hown3 hb3; have hB3 : w.heap.size ≤ w3.heap.size := Nat.le_trans hB2 hb3.size))
          | (at_builtin; refine wpList_append_bytes _ rfl (.tmp 27) (.tmp 28) 42 rfl Tryz.underlying42 info5 w.heap.size _ _ rfl (hown3.alloc _) ⟨w3.heap.size, 0, none⟩ 1 1 [10] rfl rfl (one_cell w3 10 _) hz1 ?_ ?_; (simp; omega); (intro v4 w4 hown4 hb4)))
        go_roundw
        case rel => exact ⟨i + 1, done ++ (line ++ [10]), by omega, by go_num, HX, HD.out, hown4.as (by rw [str_data]; simp), ((HB2.out.trans hb3).alloc hB3 _).trans hb4⟩
        case measure => simp [intOf]; omega
    · have HX : Hid (textS l = some done) := by
        show _ = _
        rw [HS.out, List.drop_of_length_le (by rw [HL.out]; omega)]
        show some (done ++ []) = _
        rw [List.append_nil]
      have HXo : Hid (out = .tuple #[.string (str done), .int .i64 0]) := by
        show _ = _
        rw [← HO.out, HX.out]
        rfl
      have hc := hown.text (P := Tryz.prog) 42 9 5 Tryz.underlying42 Tryz.underlying5 Tryz.underlying9
      clear hown
      go_wp2
      go_ret2
      rw [HXo.out]
      exact ⟨rfl, HB.out⟩

theorem refText_empty (ad : Option Addr) (c : Nat) (w : World) :
    Calls Tryz.prog 17 #[.slice ad 0 c] w fun e w' => e = .returned (textOut (textS [])) ∧ Below w.heap.size w w' := by
  go_enter Tryz.func17, Tryz.ntmps17
  go_wp2
  go_loopw [4, 5] (fun u v wr => u = .slice none 0 0 ∧ v = .int .i64 0 ∧ w = wr) (fun _ _ _ => 0)
  case atStart => exact ⟨rfl, rfl, rfl⟩
  case round =>
    obtain ⟨rfl, rfl, rfl⟩ := hrel
    have hc := (Owns.nil w w.heap.size).text (P := Tryz.prog) 42 9 5 Tryz.underlying42 Tryz.underlying5 Tryz.underlying9
    go_wp2
    go_ret2
    exact ⟨rfl, Below.refl _ _⟩

theorem refText_any (l : List Ev) (hfit : ∀ e ∈ l, e.Fits) (hm : l.length ≤ 1048576) (v : Value) (w : World) (h : EvArg w v l) :
    Calls Tryz.prog 17 #[v] w fun e w' => e = .returned (textOut (textS l)) ∧ Below w.heap.size w w' := by
  rcases h with ⟨⟨ad, c, rfl⟩, rfl⟩ | ⟨b, o, c, rfl, hb, hrow⟩
  · exact refText_empty ad c w
  · exact refText_row l hfit hm b o c w hb hrow

end Go.Proofs.YtlgkdnmhoboinaaGreatDoor
