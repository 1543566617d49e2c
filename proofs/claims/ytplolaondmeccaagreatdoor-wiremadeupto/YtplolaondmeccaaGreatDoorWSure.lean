/-
  Class; and what is sure.
-/
import Derived.Test.YtplolaondmeccaaGreatDoorWPure
import Derived.WalkKit
import Derived.RegionTactic
import Derived.Deep.RegionWith
import Derived.Deep.DrawnRows
import Derived.Laws.StructEq
namespace Go.Proofs.YtplolaondmeccaaGreatDoor
open Go.RowKit
set_option linter.unusedVariables false

/-- The class of a kind. -/
def classK (k : Int) : Int := if k = 0 ∨ k = 25 then 0 else if k = 1 then 2 else if k = 4 then 3 else if k = 2 ∨ k = 3 then 4 else if k = 24 then 5 else 1

theorem classOf_any (k : Int) (w : World) : Calls Tryz.prog 18 #[.int .i64 k] w fun e w' => e = .returned (.int .i64 (classK k)) ∧ w = w' := by
  have HC : Hid (classK k = if k = 0 ∨ k = 25 then 0 else if k = 1 then 2 else if k = 4 then 3 else if k = 2 ∨ k = 3 then 4 else if k = 24 then 5 else 1) := rfl
  obtain ⟨c, hc⟩ : ∃ c, classK k = c := ⟨_, rfl⟩
  rw [hc] at HC ⊢
  clear hc
  go_enter Tryz.func18, Tryz.ntmps18
  go_wp2
  all_goals go_ret
  all_goals refine ⟨?_, rfl⟩
  all_goals rw [HC.out]
  all_goals simp_all

theorem run_kind (ev : Ev) (W : World) : (Instr.field 27 (.agg ev.vals) 0).run Tryz.prog W = .ok (.int .i64 ev.kind) W := by
  unfold Instr.field
  simp [run_underlying Tryz.underlying27, asAgg, vals_kind, go_sem]

set_option maxRecDepth 20000 in
theorem class_any (s : ByteArray) (hs : s.size ≤ lim) (w : World) (hE : Env w) : Calls Tryz.prog 9 #[.string s] w fun e w' => e = .returned (.int .i64 (classK (decS s.data.toList).kind)) ∧ Below w.heap.size w w' := by
  have HD := decode_any s hs w hE
  obtain ⟨ev, hev⟩ : ∃ ev, decS s.data.toList = ev := ⟨_, rfl⟩
  rw [hev] at HD ⊢
  have hfield := run_kind ev
  unfold Ev.vals at HD hfield
  clear hev hE
  go_enter Tryz.func9, Tryz.ntmps9
  go_wp2_with (first
    | (go_at_call 19; refine HD.mono ?_; rintro e w1 ⟨rfl, hb1⟩)
    | (go_at_call 18; refine (classOf_any _ _).mono ?_; rintro e w2 ⟨rfl, rfl⟩))
  go_ret
  exact ⟨rfl, by assumption⟩

/-- The event that is sure, and its line. -/
def sureEv : Ev := { Ev.zero 18 with session := 1, window := 3, index := 2 }
def sureL : List UInt8 := [37, 119, 105, 110, 100, 111, 119, 45, 108, 105, 110, 107, 32, 36, 49, 32, 50, 32, 64, 51]
theorem putL_1 : putL 1 = [49] := by unfold putL; rw [if_pos (by decide)]; exact dec_small (by decide)
theorem putL_2 : putL 2 = [50] := by unfold putL; rw [if_pos (by decide)]; exact dec_small (by decide)
theorem putL_3 : putL 3 = [51] := by unfold putL; rw [if_pos (by decide)]; exact dec_small (by decide)
theorem num_1 : Num [49] 1 := ⟨by decide, putL_1⟩
theorem num_2 : Num [50] 2 := ⟨by decide, putL_2⟩
theorem num_3 : Num [51] 3 := ⟨by decide, putL_3⟩
theorem sure_write : writeS 18 sureEv = sureL := by
  show headOf 18 ++ joinW [putI 36 1, putL 2, putI 64 3] = _
  unfold putI
  rw [if_pos (by decide), if_pos (by decide), putL_1, putL_2, putL_3]
  rfl
theorem sure_read : readS 18 sureL = some sureEv := by
  have h1 : idOf 36 [36, 49] = some 1 := idOf_some ⟨[49], rfl, num_1, by decide⟩
  have h2 : numOf [50] = some 2 := numOf_some num_2
  have h3 : idOf 64 [64, 51] = some 3 := idOf_some ⟨[51], rfl, num_3, by decide⟩
  have hc : cutK 2 (sureL.drop (headOf 18).length) = [[36, 49], [50], [64, 51]] := by decide
  unfold readS
  rw [if_pos (by decide)]
  show (if (cutK 2 (sureL.drop (headOf 18).length)).length < 3 then none else readAll (fieldsOf 18) (cutK 2 (sureL.drop (headOf 18).length)) (Ev.zero 18)) = _
  rw [hc, if_neg (by decide)]
  show ((fId 36 .session).read [36, 49]).bind (fun g => ((fNum 9999 .index).read [50]).bind fun g' => ((fId 64 .window).read [64, 51]).bind fun g'' => some (g'' (g' (g (Ev.zero 18))))) = _
  have e1 : (fId 36 .session).read [36, 49] = some (NF.set .session 1) := by show (idOf 36 [36, 49]).map _ = _; rw [h1]; rfl
  have e2 : (fNum 9999 .index).read [50] = some (NF.set .index 2) := by show (numOf [50]).bind _ = _; rw [h2]; rfl
  have e3 : (fId 64 .window).read [64, 51] = some (NF.set .window 3) := by show (idOf 64 [64, 51]).map _ = _; rw [h3]; rfl
  rw [e1, e2, e3]
  rfl
theorem sure_enc : encS sureEv = some sureL := by
  rw [encS_yes sureEv 18 rfl (by decide) (by decide) (by rw [sure_write, sure_read]), sure_write]
theorem sure_dec : decS sureL = sureEv := dec_enc sure_enc
theorem sure_fits : sureEv.Fits := ⟨by decide, by decide, by decide, by decide, fun f => by cases f <;> decide⟩

end Go.Proofs.YtplolaondmeccaaGreatDoor
