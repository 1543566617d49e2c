/-
  The walk of WireEncodes.
-/
import Derived.Test.YtlgkdnmhoboinaaGreatDoorREn
import Derived.Test.YtlgkdnmhoboinaaGreatDoorWSure
namespace Go.Proofs.YtlgkdnmhoboinaaGreatDoor
open Go.RowKit
set_option linter.unusedVariables false
set_option maxRecDepth 20000

/-- What an Encode answers, in a letter. -/
theorem EncPost.out {o : Option (List UInt8)} : ∃ (s : ByteArray) (n : Int), ∀ (w : World) (e : Ending) (w' : World), EncPost o w e w' → e = .returned (.tuple #[.string s, .int .i64 n]) ∧ Below w.heap.size w w' := by
  cases o with
  | none => exact ⟨⟨#[]⟩, 30, fun _ _ _ h => h⟩
  | some l => exact ⟨str l, 0, fun _ _ _ h => h⟩

set_option maxHeartbeats 1000000 in
theorem wireEncodes_walk (ev : Ev) (hfit : ev.Fits) (w : World) (hE : Env w) :
    Calls Tryz.prog 4 #[.agg #[.int .i64 ev.kind, .int .i64 ev.session, .int .i64 ev.window, .int .i64 ev.pane, .int .i64 ev.index, .int .i64 ev.offset, .int .i64 ev.tick, .int .i64 ev.number, .int .i64 ev.flag, .string ev.name, .string ev.text, .string ev.layout, .string ev.visible, .bool ev.zoom]] w fun e w' => e = .returned (.bool true) ∧ Below w.heap.size w w' := by
  obtain ⟨s, n, hsn⟩ := EncPost.out (o := encS ev)
  have HA : Hid (∀ W, Env W → Calls Tryz.prog 10 #[.agg #[.int .i64 ev.kind, .int .i64 ev.session, .int .i64 ev.window, .int .i64 ev.pane, .int .i64 ev.index, .int .i64 ev.offset, .int .i64 ev.tick, .int .i64 ev.number, .int .i64 ev.flag, .string ev.name, .string ev.text, .string ev.layout, .string ev.visible, .bool ev.zoom]] W fun e w' => e = .returned (.tuple #[.string s, .int .i64 n]) ∧ Below W.heap.size W w') := fun W hW => (encode_any ev hfit W hW).mono fun e w' h => hsn W e w' h
  have HR : Hid (∀ W, Calls Tryz.prog 14 #[.agg #[.int .i64 ev.kind, .int .i64 ev.session, .int .i64 ev.window, .int .i64 ev.pane, .int .i64 ev.index, .int .i64 ev.offset, .int .i64 ev.tick, .int .i64 ev.number, .int .i64 ev.flag, .string ev.name, .string ev.text, .string ev.layout, .string ev.visible, .bool ev.zoom]] W fun e w' => e = .returned (.tuple #[.string s, .int .i64 n]) ∧ Below W.heap.size W w') := fun W => (refEncode_any ev hfit W).mono fun e w' h => hsn W e w' h
  have HE : Hid (∀ W, Below w.heap.size w W → Env W) := fun W h => hE.below h
  have HV : Hid (EvAt (w.alloc (.cells #[.int .i64 ev.kind, .int .i64 ev.session, .int .i64 ev.window, .int .i64 ev.pane, .int .i64 ev.index, .int .i64 ev.offset, .int .i64 ev.tick, .int .i64 ev.number, .int .i64 ev.flag, .string ev.name, .string ev.text, .string ev.layout, .string ev.visible, .bool ev.zoom] 28)) w.heap.size ev) := EvAt.new w ev
  have HB0 : Hid (Below w.heap.size w (w.alloc (.cells #[.int .i64 ev.kind, .int .i64 ev.session, .int .i64 ev.window, .int .i64 ev.pane, .int .i64 ev.index, .int .i64 ev.offset, .int .i64 ev.tick, .int .i64 ev.number, .int .i64 ev.flag, .string ev.name, .string ev.text, .string ev.layout, .string ev.visible, .bool ev.zoom] 28))) := below1 _ _
  clear hsn hE hfit
  go_enter Tryz.func4, Tryz.ntmps4
  go_wp2_with fail
  refine (HA.out _ (HE.out _ HB0.out)).mono ?_
  rintro e w1 ⟨rfl, hb1⟩
  have HB1 : Hid (Below w.heap.size w w1) := below_step HB0.out hb1
  have HV1 : Hid (EvAt w1 w.heap.size ev) := HV.out.below hb1 HV.out.lt
  obtain ⟨y0, y1, y2, y3, y4, y5, y6, y7, y8, y9, y10, y11, y12, y13⟩ := HV1.out.cells
  clear hb1 HV HB0 HA
  go_wp2_with fail
  refine (HR.out _).mono ?_
  rintro e w2 ⟨rfl, hb2⟩
  have HB2 : Hid (Below w.heap.size w w2) := below_step HB1.out hb2
  clear hb2
  go_wp2_with fail
  refine (sure_any _ (HE.out _ HB2.out)).mono ?_
  rintro e w3 ⟨rfl, hb3⟩
  have HB3 : Hid (Below w.heap.size w w3) := below_step HB2.out hb3
  clear hb3
  go_wp2
  go_ret
  exact ⟨rfl, HB3.out⟩

end Go.Proofs.YtlgkdnmhoboinaaGreatDoor
