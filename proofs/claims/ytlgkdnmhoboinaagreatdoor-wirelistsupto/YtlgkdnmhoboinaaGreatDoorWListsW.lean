/-
  The walk of WireLists.
-/
import Derived.Test.YtlgkdnmhoboinaaGreatDoorWLen
import Derived.WalkKit
import Derived.LoopTactic
namespace Go.Proofs.YtlgkdnmhoboinaaGreatDoor
open Go.RowKit
set_option linter.unusedVariables false

theorem text_found : ∀ l : List Ev, textS l = none → ¬ ∀ e ∈ l, encS e ≠ none
  | [], h, _ => by cases h
  | e :: l, h, k => by
    unfold textS at h
    split at h
    · rename_i he; exact k e (List.mem_cons_self ..) he
    · exact text_found l (Option.map_eq_none_iff.1 h) fun x hx => k x (List.mem_cons_of_mem _ hx)

set_option maxRecDepth 20000 in
set_option maxHeartbeats 4000000 in
theorem lists_bad (l : List Ev) (hfit : ∀ e ∈ l, e.Fits) (hm : l.length ≤ 1048576) (hx : textS l = none) (b o c : Nat) (w : World) (hE : Env w) (hb : b < w.heap.size) (hrow : EvRow w b o l) (hn : 1 ≤ l.length) :
    Calls Tryz.prog 3 #[.slice (some ⟨b, o, none⟩) l.length c] w fun e w' => e = .returned (.bool true) ∧ Below w.heap.size w w' := by
  have HX : Hid (textS l = none) := hx
  have HT : Hid (∀ W, Below w.heap.size w W → Calls Tryz.prog 9 #[.slice (some ⟨b, o, none⟩) l.length c] W fun e w' => e = .returned (.tuple #[.string ⟨#[]⟩, .int .i64 30]) ∧ Below W.heap.size W w') := fun W hW => by
    have h := text_all l hfit hm (.slice (some ⟨b, o, none⟩) l.length c) W (hE.below hW) (EvArg.below (w := w) (Or.inr ⟨b, o, c, rfl, hb, hrow⟩) hW)
    rw [hx] at h
    exact h
  obtain ⟨n, hln⟩ : ∃ n, l.length = n := ⟨_, rfl⟩
  have HL : Hid (l.length = n) := hln
  rw [hln] at hn hm HT ⊢
  have HR : Hid (EvRow w b o l) := hrow
  have HE : Hid (∀ W, Below w.heap.size w W → Env W) := fun W h => hE.below h
  have HF : Hid (∀ e ∈ l, e.Fits) := hfit
  clear hln hrow hE hfit hx
  go_enter Tryz.func3, Tryz.ntmps3
  go_wp2_with fail
  refine (HT.out _ (Below.refl _ _)).mono ?_
  rintro e w1 ⟨rfl, hb1⟩
  have HB1 : Hid (Below w.heap.size w w1) := hb1
  clear hb1
  go_wp2
  go_loopw [5] (fun v wr => ∃ i : Nat, i ≤ n ∧ v = .int .i64 i ∧ (∀ e ∈ l.take i, encS e ≠ none) ∧ Below w.heap.size w wr) (fun v _ => n - (intOf v).toNat)
  case atStart => exact ⟨0, Nat.zero_le _, rfl, (fun e he => absurd he (by simp)), HB1.out⟩
  case round =>
    obtain ⟨i, hi, rfl, hpr, hbl⟩ := hrel
    have HB : Hid (Below w.heap.size w wr) := hbl
    have HP : Hid (∀ e ∈ l.take i, encS e ≠ none) := hpr
    clear hbl hpr
    by_cases hlt : i < n
    · obtain ⟨ev, hev⟩ : ∃ e, l[i]? = some e := ⟨_, List.getElem?_eq_getElem (by rw [HL.out]; exact hlt)⟩
      have HV : Hid (l[i]? = some ev) := hev
      have HFe : Hid ev.Fits := HF.out ev (List.mem_of_getElem? hev)
      have hc : wr.cell? ⟨b, o + i * 14, none⟩ = some (.int .i64 ev.kind) ∧ wr.cell? ⟨b, o + i * 14 + 1, none⟩ = some (.int .i64 ev.session) ∧ wr.cell? ⟨b, o + i * 14 + 2, none⟩ = some (.int .i64 ev.window) ∧ wr.cell? ⟨b, o + i * 14 + 3, none⟩ = some (.int .i64 ev.pane) ∧ wr.cell? ⟨b, o + i * 14 + 4, none⟩ = some (.int .i64 ev.index) ∧ wr.cell? ⟨b, o + i * 14 + 5, none⟩ = some (.int .i64 ev.offset) ∧ wr.cell? ⟨b, o + i * 14 + 6, none⟩ = some (.int .i64 ev.tick) ∧ wr.cell? ⟨b, o + i * 14 + 7, none⟩ = some (.int .i64 ev.number) ∧ wr.cell? ⟨b, o + i * 14 + 8, none⟩ = some (.int .i64 ev.flag) ∧ wr.cell? ⟨b, o + i * 14 + 9, none⟩ = some (.string ev.name) ∧ wr.cell? ⟨b, o + i * 14 + 10, none⟩ = some (.string ev.text) ∧ wr.cell? ⟨b, o + i * 14 + 11, none⟩ = some (.string ev.layout) ∧ wr.cell? ⟨b, o + i * 14 + 12, none⟩ = some (.string ev.visible) ∧ wr.cell? ⟨b, o + i * 14 + 13, none⟩ = some (.bool ev.zoom) := EvRow.at (fun j u hu => by rw [HB.out.cell (p := ⟨b, o + j, none⟩) hb]; exact HR.out j u hu) hev
      obtain ⟨q0, q1, q2, q3, q4, q5, q6, q7, q8, q9, q10, q11, q12, q13⟩ := hc
      clear hev
      cases henc : encS ev with
      | none =>
        have HEn : Hid (∀ W, Env W → Calls Tryz.prog 10 #[.agg #[.int .i64 ev.kind, .int .i64 ev.session, .int .i64 ev.window, .int .i64 ev.pane, .int .i64 ev.index, .int .i64 ev.offset, .int .i64 ev.tick, .int .i64 ev.number, .int .i64 ev.flag, .string ev.name, .string ev.text, .string ev.layout, .string ev.visible, .bool ev.zoom]] W fun e w' => e = .returned (.tuple #[.string ⟨#[]⟩, .int .i64 30]) ∧ Below W.heap.size W w') := fun W hW => by
          have := encode_any ev HFe.out W hW
          rw [henc] at this
          exact this
        clear henc
        go_wp2_with fail
        refine (HEn.out _ (HE.out _ HB.out)).mono ?_
        rintro e w2 ⟨rfl, hb2⟩
        have HB2 : Hid (Below w.heap.size w w2) := below_step HB.out hb2
        clear hb2 HEn
        go_wp2_with fail
        refine (sure_any _ (HE.out _ HB2.out)).mono ?_
        rintro e w3 ⟨rfl, hb3⟩
        have HB3 : Hid (Below w.heap.size w w3) := below_step HB2.out hb3
        clear hb3
        go_wp2
        go_ret
        exact ⟨rfl, HB3.out⟩
      | some line =>
        have HEn : Hid (∀ W, Env W → Calls Tryz.prog 10 #[.agg #[.int .i64 ev.kind, .int .i64 ev.session, .int .i64 ev.window, .int .i64 ev.pane, .int .i64 ev.index, .int .i64 ev.offset, .int .i64 ev.tick, .int .i64 ev.number, .int .i64 ev.flag, .string ev.name, .string ev.text, .string ev.layout, .string ev.visible, .bool ev.zoom]] W fun e w' => e = .returned (.tuple #[.string (str line), .int .i64 0]) ∧ Below W.heap.size W w') := fun W hW => by
          have := encode_any ev HFe.out W hW
          rw [henc] at this
          exact this
        have HP' : Hid (∀ e ∈ l.take (i + 1), encS e ≠ none) := fun e he => by
          rw [take_next HV.out] at he
          rcases List.mem_append.1 he with he | he
          · exact HP.out e he
          · rw [List.mem_singleton.1 he, henc]; exact fun h => by cases h
        clear henc
        go_wp2_with fail
        refine (HEn.out _ (HE.out _ HB.out)).mono ?_
        rintro e w2 ⟨rfl, hb2⟩
        have HB2 : Hid (Below w.heap.size w w2) := below_step HB.out hb2
        clear hb2 HEn
        go_wp2
        go_roundw
        case rel => exact ⟨i + 1, by omega, by go_num, HP'.out, HB2.out⟩
        case measure => simp [intOf]; omega
    · have := HP.out
      rw [List.take_of_length_le (by rw [HL.out]; omega)] at this
      exact absurd this (text_found l HX.out)

end Go.Proofs.YtlgkdnmhoboinaaGreatDoor
