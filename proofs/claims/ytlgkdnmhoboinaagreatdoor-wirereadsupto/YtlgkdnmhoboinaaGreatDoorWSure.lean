/-
  Class; and what is sure.
-/
import Derived.Test.YtlgkdnmhoboinaaGreatDoorWPure
import Derived.WalkKit
import Derived.RegionTactic
import Derived.Deep.RegionWith
import Derived.Deep.DrawnRows
import Derived.Laws.StructEq
namespace Go.Proofs.YtlgkdnmhoboinaaGreatDoor
open Go.RowKit
set_option linter.unusedVariables false

/-- The class of a kind. -/
def classK (k : Int) : Int := if k = 0 ∨ k = 25 then 0 else if k = 1 then 2 else if k = 4 then 3 else if k = 2 ∨ k = 3 then 4 else if k = 24 then 5 else 1

theorem classOf_any (k : Int) (w : World) : Calls Tryz.prog 37 #[.int .i64 k] w fun e w' => e = .returned (.int .i64 (classK k)) ∧ w = w' := by
  have HC : Hid (classK k = if k = 0 ∨ k = 25 then 0 else if k = 1 then 2 else if k = 4 then 3 else if k = 2 ∨ k = 3 then 4 else if k = 24 then 5 else 1) := rfl
  obtain ⟨c, hc⟩ : ∃ c, classK k = c := ⟨_, rfl⟩
  rw [hc] at HC ⊢
  clear hc
  go_enter Tryz.func37, Tryz.ntmps37
  go_wp2
  all_goals go_ret
  all_goals refine ⟨?_, rfl⟩
  all_goals rw [HC.out]
  all_goals simp_all

theorem run_kind (ev : Ev) (W : World) : (Instr.field 28 (.agg ev.vals) 0).run Tryz.prog W = .ok (.int .i64 ev.kind) W := by
  unfold Instr.field
  simp [run_underlying Tryz.underlying28, asAgg, vals_kind, go_sem]

set_option maxRecDepth 20000 in
theorem class_any (s : ByteArray) (hs : s.size ≤ lim) (w : World) (hE : Env w) : Calls Tryz.prog 19 #[.string s] w fun e w' => e = .returned (.int .i64 (classK (decS s.data.toList).kind)) ∧ Below w.heap.size w w' := by
  have HD := decode_any s hs w hE
  obtain ⟨ev, hev⟩ : ∃ ev, decS s.data.toList = ev := ⟨_, rfl⟩
  rw [hev] at HD ⊢
  have hfield := run_kind ev
  unfold Ev.vals at HD hfield
  clear hev hE
  go_enter Tryz.func19, Tryz.ntmps19
  go_wp2_with (first
    | (go_at_call 15; refine HD.mono ?_; rintro e w1 ⟨rfl, hb1⟩)
    | (go_at_call 37; refine (classOf_any _ _).mono ?_; rintro e w2 ⟨rfl, rfl⟩))
  go_ret
  exact ⟨rfl, by assumption⟩

/-- The event that is sure, and its line. -/
def sureEv : Ev := { Ev.zero 18 with session := 1, window := 3, index := 2 }
def sureL : List UInt8 := [37, 119, 105, 110, 100, 111, 119, 45, 108, 105, 110, 107, 32, 36, 49, 32, 50, 32, 64, 51]
theorem putL_1 : putL 1 = [49] := by unfold putL; rw [if_pos (by decide)]; exact dec_small (by decide)
theorem putL_2 : putL 2 = [50] := by unfold putL; rw [if_pos (by decide)]; exact dec_small (by decide)
theorem putL_3 : putL 3 = [51] := by unfold putL; rw [if_pos (by decide)]; exact dec_small (by decide)
theorem num_1 : Num [49] 1 := ⟨by decide, putL_1⟩
theorem num_2 : Num [50] 2 := ⟨by decide, putL_2⟩
theorem num_3 : Num [51] 3 := ⟨by decide, putL_3⟩
theorem sure_write : writeS 18 sureEv = sureL := by
  show headOf 18 ++ joinW [putI 36 1, putL 2, putI 64 3] = _
  unfold putI
  rw [if_pos (by decide), if_pos (by decide), putL_1, putL_2, putL_3]
  rfl
theorem sure_read : readS 18 sureL = some sureEv := by
  have h1 : idOf 36 [36, 49] = some 1 := idOf_some ⟨[49], rfl, num_1, by decide⟩
  have h2 : numOf [50] = some 2 := numOf_some num_2
  have h3 : idOf 64 [64, 51] = some 3 := idOf_some ⟨[51], rfl, num_3, by decide⟩
  have hc : cutK 2 (sureL.drop (headOf 18).length) = [[36, 49], [50], [64, 51]] := by decide
  unfold readS
  rw [if_pos (by decide)]
  show (if (cutK 2 (sureL.drop (headOf 18).length)).length < 3 then none else readAll (fieldsOf 18) (cutK 2 (sureL.drop (headOf 18).length)) (Ev.zero 18)) = _
  rw [hc, if_neg (by decide)]
  show ((fId 36 .session).read [36, 49]).bind (fun g => ((fNum 9999 .index).read [50]).bind fun g' => ((fId 64 .window).read [64, 51]).bind fun g'' => some (g'' (g' (g (Ev.zero 18))))) = _
  have e1 : (fId 36 .session).read [36, 49] = some (NF.set .session 1) := by show (idOf 36 [36, 49]).map _ = _; rw [h1]; rfl
  have e2 : (fNum 9999 .index).read [50] = some (NF.set .index 2) := by show (numOf [50]).bind _ = _; rw [h2]; rfl
  have e3 : (fId 64 .window).read [64, 51] = some (NF.set .window 3) := by show (idOf 64 [64, 51]).map _ = _; rw [h3]; rfl
  rw [e1, e2, e3]
  rfl
theorem sure_enc : encS sureEv = some sureL := by
  rw [encS_yes sureEv 18 rfl (by decide) (by decide) (by rw [sure_write, sure_read]), sure_write]
theorem sure_dec : decS sureL = sureEv := dec_enc sure_enc
theorem sure_fits : sureEv.Fits := ⟨by decide, by decide, by decide, by decide, fun f => by cases f <;> decide⟩

set_option maxRecDepth 20000 in
set_option maxHeartbeats 4000000 in
theorem sure_any (w : World) (hE : Env w) : Calls Tryz.prog 11 #[] w fun e w' => e = .returned (.bool true) ∧ Below w.heap.size w w' := by
  have HV : Hid (EvAt (w.alloc (.cells #[.int .i64 18, .int .i64 1, .int .i64 3, .int .i64 0, .int .i64 2, .int .i64 0, .int .i64 0, .int .i64 0, .int .i64 0, .string ⟨#[]⟩, .string ⟨#[]⟩, .string ⟨#[]⟩, .string ⟨#[]⟩, .bool false] 28)) w.heap.size sureEv) := EvAt.new w sureEv
  have HEn : Hid (Calls Tryz.prog 10 #[.agg #[.int .i64 18, .int .i64 1, .int .i64 3, .int .i64 0, .int .i64 2, .int .i64 0, .int .i64 0, .int .i64 0, .int .i64 0, .string ⟨#[]⟩, .string ⟨#[]⟩, .string ⟨#[]⟩, .string ⟨#[]⟩, .bool false]] (w.alloc (.cells #[.int .i64 18, .int .i64 1, .int .i64 3, .int .i64 0, .int .i64 2, .int .i64 0, .int .i64 0, .int .i64 0, .int .i64 0, .string ⟨#[]⟩, .string ⟨#[]⟩, .string ⟨#[]⟩, .string ⟨#[]⟩, .bool false] 28)) fun e w' => e = .returned (.tuple #[.string (str sureL), .int .i64 0]) ∧ Below (w.alloc (.cells #[.int .i64 18, .int .i64 1, .int .i64 3, .int .i64 0, .int .i64 2, .int .i64 0, .int .i64 0, .int .i64 0, .int .i64 0, .string ⟨#[]⟩, .string ⟨#[]⟩, .string ⟨#[]⟩, .string ⟨#[]⟩, .bool false] 28)).heap.size (w.alloc (.cells #[.int .i64 18, .int .i64 1, .int .i64 3, .int .i64 0, .int .i64 2, .int .i64 0, .int .i64 0, .int .i64 0, .int .i64 0, .string ⟨#[]⟩, .string ⟨#[]⟩, .string ⟨#[]⟩, .string ⟨#[]⟩, .bool false] 28)) w') := by
    have := encode_any sureEv sure_fits (w.alloc (.cells #[.int .i64 18, .int .i64 1, .int .i64 3, .int .i64 0, .int .i64 2, .int .i64 0, .int .i64 0, .int .i64 0, .int .i64 0, .string ⟨#[]⟩, .string ⟨#[]⟩, .string ⟨#[]⟩, .string ⟨#[]⟩, .bool false] 28)) (hE.below (below1 _ _))
    rw [sure_enc] at this
    exact this
  have HDe : Hid (∀ W, Env W → Calls Tryz.prog 15 #[.string (str sureL)] W fun e w' => e = .returned (.agg #[.int .i64 18, .int .i64 1, .int .i64 3, .int .i64 0, .int .i64 2, .int .i64 0, .int .i64 0, .int .i64 0, .int .i64 0, .string ⟨#[]⟩, .string ⟨#[]⟩, .string ⟨#[]⟩, .string ⟨#[]⟩, .bool false]) ∧ Below W.heap.size W w') := fun W hW => by
    have := decode_any (str sureL) (by decide) W hW
    rw [str_data, sure_dec] at this
    exact this
  have HE : Hid (Env (w.alloc (.cells #[.int .i64 18, .int .i64 1, .int .i64 3, .int .i64 0, .int .i64 2, .int .i64 0, .int .i64 0, .int .i64 0, .int .i64 0, .string ⟨#[]⟩, .string ⟨#[]⟩, .string ⟨#[]⟩, .string ⟨#[]⟩, .bool false] 28))) := hE.below (below1 _ _)
  have hEq : ∀ W : World, (Op.equalIn 10000 28 (.agg #[.int .i64 18, .int .i64 1, .int .i64 3, .int .i64 0, .int .i64 2, .int .i64 0, .int .i64 0, .int .i64 0, .int .i64 0, .string ⟨#[]⟩, .string ⟨#[]⟩, .string ⟨#[]⟩, .string ⟨#[]⟩, .bool false]) (.agg #[.int .i64 18, .int .i64 1, .int .i64 3, .int .i64 0, .int .i64 2, .int .i64 0, .int .i64 0, .int .i64 0, .int .i64 0, .string ⟨#[]⟩, .string ⟨#[]⟩, .string ⟨#[]⟩, .string ⟨#[]⟩, .bool false])).run Tryz.prog W = .ok true W := fun W => by
    have := eqEv sureEv sureEv W
    rw [(evEq_iff sureEv sureEv).2 rfl] at this
    exact this
  have hstr : (str sureL).toList = [37, 119, 105, 110, 100, 111, 119, 45, 108, 105, 110, 107, 32, 36, 49, 32, 50, 32, 64, 51] := str_toList _
  obtain ⟨sl, hsl⟩ : ∃ l, str sureL = l := ⟨_, rfl⟩
  rw [hsl] at HEn HDe hstr
  clear hE hsl
  go_enter Tryz.func11, Tryz.ntmps11
  go_wp2_with fail
  refine HEn.out.mono ?_
  rintro e w1 ⟨rfl, hb1⟩
  have HV1 : Hid (EvAt w1 w.heap.size sureEv) := HV.out.below hb1 HV.out.lt
  have HE1 : Hid (Env w1.drew) := HE.out.below hb1.drew
  have HB1 : Hid (Below w.heap.size w w1) := below_step (below1 _ _) hb1
  have hlt : w.heap.size < w1.heap.size := HV1.out.lt
  have hcells : w1.cell? ⟨w.heap.size, 0, none⟩ = some (.int .i64 18) ∧ w1.cell? ⟨w.heap.size, 1, none⟩ = some (.int .i64 1) ∧ w1.cell? ⟨w.heap.size, 2, none⟩ = some (.int .i64 3) ∧ w1.cell? ⟨w.heap.size, 3, none⟩ = some (.int .i64 0) ∧ w1.cell? ⟨w.heap.size, 4, none⟩ = some (.int .i64 2) ∧ w1.cell? ⟨w.heap.size, 5, none⟩ = some (.int .i64 0) ∧ w1.cell? ⟨w.heap.size, 6, none⟩ = some (.int .i64 0) ∧ w1.cell? ⟨w.heap.size, 7, none⟩ = some (.int .i64 0) ∧ w1.cell? ⟨w.heap.size, 8, none⟩ = some (.int .i64 0) ∧ w1.cell? ⟨w.heap.size, 9, none⟩ = some (.string ⟨#[]⟩) ∧ w1.cell? ⟨w.heap.size, 10, none⟩ = some (.string ⟨#[]⟩) ∧ w1.cell? ⟨w.heap.size, 11, none⟩ = some (.string ⟨#[]⟩) ∧ w1.cell? ⟨w.heap.size, 12, none⟩ = some (.string ⟨#[]⟩) ∧ w1.cell? ⟨w.heap.size, 13, none⟩ = some (.bool false) := HV1.out.cells
  obtain ⟨q0, q1, q2, q3, q4, q5, q6, q7, q8, q9, q10, q11, q12, q13⟩ := hcells
  clear hb1 HEn HE HV
  go_wp2
  go_region_with (go_at_call 15; refine (HDe.out _ HE1.out).mono ?_; rintro e w2 ⟨rfl, hb2⟩; have hcells2 : w2.cell? ⟨w.heap.size, 0, none⟩ = some (.int .i64 18) ∧ w2.cell? ⟨w.heap.size, 1, none⟩ = some (.int .i64 1) ∧ w2.cell? ⟨w.heap.size, 2, none⟩ = some (.int .i64 3) ∧ w2.cell? ⟨w.heap.size, 3, none⟩ = some (.int .i64 0) ∧ w2.cell? ⟨w.heap.size, 4, none⟩ = some (.int .i64 2) ∧ w2.cell? ⟨w.heap.size, 5, none⟩ = some (.int .i64 0) ∧ w2.cell? ⟨w.heap.size, 6, none⟩ = some (.int .i64 0) ∧ w2.cell? ⟨w.heap.size, 7, none⟩ = some (.int .i64 0) ∧ w2.cell? ⟨w.heap.size, 8, none⟩ = some (.int .i64 0) ∧ w2.cell? ⟨w.heap.size, 9, none⟩ = some (.string ⟨#[]⟩) ∧ w2.cell? ⟨w.heap.size, 10, none⟩ = some (.string ⟨#[]⟩) ∧ w2.cell? ⟨w.heap.size, 11, none⟩ = some (.string ⟨#[]⟩) ∧ w2.cell? ⟨w.heap.size, 12, none⟩ = some (.string ⟨#[]⟩) ∧ w2.cell? ⟨w.heap.size, 13, none⟩ = some (.bool false) := (HV1.out.below ((Below.refl _ _).drew.trans hb2) HV1.out.lt).cells; obtain ⟨p0, p1, p2, p3, p4, p5, p6, p7, p8, p9, p10, p11, p12, p13⟩ := hcells2; have HB2 : Hid (Below w.heap.size w w2) := below_step HB1.out ((Below.refl _ _).drew.trans hb2); clear hb2)
  all_goals go_wp2
  all_goals go_ret
  all_goals exact ⟨rfl, HB2.out⟩

end Go.Proofs.YtlgkdnmhoboinaaGreatDoor
