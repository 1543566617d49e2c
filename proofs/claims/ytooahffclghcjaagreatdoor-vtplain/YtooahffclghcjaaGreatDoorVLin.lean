/-
  The lines of a screen of blanks.
-/
import Derived.Test.YtooahffclghcjaaGreatDoorVTxt
import Derived.Test.YtooahffclghcjaaGreatDoorVTell
import Derived.Test.YtooahffclghcjaaGreatDoorVSame
namespace Go.Proofs.YtooahffclghcjaaGreatDoor
open Go.RowKit
set_option linter.unusedVariables false
set_option maxRecDepth 100000

theorem infoStr : (Tryz.prog.info? 9).map (fun i => (i.zero, i.size, i.bytes)) = some (some (.string ⟨#[]⟩), 1, 16) := by kernel_rfl
theorem underStrs : Tryz.prog.underlying 24 = some (.slice 9) := by kernel_rfl
/-- So many empty texts. -/
def nones (k : Nat) : List Value := List.replicate k (.string ⟨#[]⟩)
theorem nones_snoc (k : Nat) : nones (k + 1) = nones k ++ [.string ⟨#[]⟩] := List.replicate_succ'
set_option maxHeartbeats 4000000 in
theorem appendTexts_nil (w : World) : Calls Tryz.prog 12 #[.slice none 0 0, .slice none 0 0] w fun e w' => e = .returned (.slice none 0 0) ∧ w' = w := by
  go_enter Tryz.func12, Tryz.ntmps12
  go_wp2_with fail
  go_loopw [0, 9] (fun v i wr => v = .slice none 0 0 ∧ i = .int .i64 0 ∧ Hid (wr = w)) (fun _ _ _ => 0)
  case atStart => exact ⟨rfl, rfl, rfl⟩
  case round =>
    obtain ⟨rfl, rfl, HE⟩ := hrel
    go_wp2_with fail
    go_ret
    exact ⟨rfl, HE.out⟩
set_option maxHeartbeats 4000000 in
theorem appendTexts_blank {w : World} {G n : Nat} {rs : List (Nat × List Gl)} (hn : n ≤ 1000) (hm : rs.length ≤ 1000) (cap : Nat) (hR : RowsAt w G rs 0) (hA : Alike n ⟨32, 1, 0, 0, 0⟩ rs) : Calls Tryz.prog 12 #[.slice none 0 0, .slice (some ⟨G, 0, none⟩) rs.length cap] w fun e w' => ∃ v, e = .returned v ∧ Mine w w' 9 1 v rs.length (nones rs.length) := by
  have H := hidK (And.intro hR hA)
  obtain ⟨m, hme⟩ : ∃ m, rs.length = m := ⟨_, rfl⟩
  have HE := hidK hme
  rw [hme] at hm
  rw [hme]
  have HT : Hid (∀ W g, GAt W g (List.replicate n ⟨32, 1, 0, 0, 0⟩) → Calls Tryz.prog 23 #[.slice (some ⟨g, 0, none⟩) n n] W fun e w' => e = .returned (.string ⟨#[]⟩) ∧ Below W.heap.size W w') := fun W g h => text_blank hn n h
  clear hR hA hme
  go_enter Tryz.func12, Tryz.ntmps12
  go_wp2_with fail
  go_loopw [0, 9] (fun v i wr => ∃ k : Nat, k ≤ m ∧ i = .int .i64 (k : Int) ∧ Hid (Mine w wr 9 1 v k (nones k))) (fun _ i _ => m - (intOf i).toNat)
  case atStart => exact ⟨0, Nat.zero_le _, rfl, Mine.nil (Below.refl _ _)⟩
  case round =>
    obtain ⟨k, hk, rfl, HM⟩ := hrel
    by_cases hlt : k < m
    · obtain ⟨r, hr⟩ : ∃ r, rs[k]? = some r := ⟨_, List.getElem?_eq_getElem (by have := HE.out; omega)⟩
      have hRr := H.out.1.below HM.out.below
      have cG := hRr.cell hr
      have hal := H.out.2 r (List.mem_of_getElem? hr)
      have hg := hRr.row r (List.mem_of_getElem? hr)
      rw [hal] at hg cG
      rw [List.length_replicate] at cG
      have HC := HT.out wr r.1 hg
      have HC2 := hidK HC
      clear hr hRr hal hg HC
      go_wp2_with fail
      refine HC2.out.mono ?_
      rintro e w1 ⟨rfl, hb1⟩
      have HB1 := hidK hb1
      clear hb1 cG
      go_wp2_with (refine wpList_append_row (w1.alloc (.cells #[.string ⟨#[]⟩] 9)) rfl _ _ 24 24 rfl underStrs infoStr rfl (v := u0) (by simp [Act.eval]) (u := .slice (some ⟨w1.heap.size, 0, none⟩) 1 1) (by simp [Act.eval]) ((HM.out.more HB1.out).more ((Below.refl _ _).alloc (Nat.le_refl _) _)).row (Src.block underStrs _ _ [.string ⟨#[]⟩] 9 1 (heap_alloc_new w1 _) rfl rfl) ?x1 ?x2 ?x3)
      case x1 => omega
      case x2 => unfold maxLen; omega
      intro v2 w2 hr2 hg2
      go_wp2_with fail
      go_roundw
      case rel => exact ⟨k + 1, by omega, by go_num, ((HM.out.more HB1.out).grown ((Below.refl _ _).alloc (Nat.le_refl _) _) hr2.out hg2.out).cast rfl (nones_snoc k).symm⟩
      case measure => simp [intOf]; omega
    · obtain rfl : k = m := by omega
      go_wp2_with fail
      go_ret
      exact ⟨u0, rfl, HM.out⟩
set_option maxHeartbeats 4000000 in
theorem lines_fresh {w0 w : World} {nw nh lim b G T : Nat} {rs : List (Nat × List Gl)} (h1 : nw ≤ 1000) (h2 : nh ≤ 1000) (hf : ScAt w b (newSc nw nh lim G T)) (hl : rs.length = nh) (hR : RowsAt w G rs 0) (hA : Alike nw ⟨32, 1, 0, 0, 0⟩ rs) : Calls Tryz.prog 7 #[.pointer (some ⟨b, 0, none⟩)] w fun e w' => ∃ v, e = .returned v ∧ Mine w w' 9 1 v nh (nones nh) := by
  have c37 : w.cell? ⟨b, 37, none⟩ = some (.pointer none) := hf.c37
  have c39 : w.cell? ⟨b, 39, none⟩ = some (.slice none 0 0) := hf.c39
  have c2 : w.cell? ⟨b, 2, none⟩ = some (.slice (some ⟨G, 0, none⟩) nh nh) := hf.c2
  have HN : Hid (∀ W, Calls Tryz.prog 12 #[.slice none 0 0, .slice none 0 0] W fun e w' => e = .returned (.slice none 0 0) ∧ w' = W) := appendTexts_nil
  have HA : Hid (Calls Tryz.prog 12 #[.slice none 0 0, .slice (some ⟨G, 0, none⟩) nh nh] w fun e w' => ∃ v, e = .returned v ∧ Mine w w' 9 1 v nh (nones nh)) := by
    have h := appendTexts_blank h1 (by omega) nh hR hA
    rw [hl] at h
    exact h
  clear hf hl hR hA
  go_enter Tryz.func7, Tryz.ntmps7
  go_wp2_with fail
  refine (HN.out _).mono ?_
  rintro e w1 ⟨rfl, rfl⟩
  go_wp2_with fail
  refine HA.out.mono ?_
  rintro e w2 ⟨v, rfl, hM⟩
  have HM := hidK hM
  clear hM
  go_wp2_with fail
  go_ret
  exact ⟨v, rfl, HM.out⟩
end Go.Proofs.YtooahffclghcjaaGreatDoor
