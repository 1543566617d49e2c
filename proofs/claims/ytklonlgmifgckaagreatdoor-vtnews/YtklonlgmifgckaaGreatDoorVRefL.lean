/-
  The document's lines of a new screen.
-/
import Derived.Test.YtklonlgmifgckaaGreatDoorVRefC
import Derived.Test.YtklonlgmifgckaaGreatDoorVRefT
import Derived.Test.YtklonlgmifgckaaGreatDoorVLin
namespace Go.Proofs.YtklonlgmifgckaaGreatDoor
open Go.RowKit
set_option linter.unusedVariables false
set_option maxRecDepth 100000

set_option maxHeartbeats 4000000 in
theorem refLines_fresh {w0 w : World} {nw nh b : Nat} {l : Int} {v : Value} {vs : List Value} (h1 : nw ≤ 1000) (h2 : nh ≤ 1000) (h : RN w0 w nw nh l b v vs) : Calls Tryz.prog 22 #[.pointer (some ⟨b, 0, none⟩)] w fun e w' => ∃ t, e = .returned t ∧ Mine w w' 9 1 t nh (nones nh) := by
  obtain ⟨ta, tc, hat⟩ := h.at_
  obtain ⟨ad, cap, hve, hsee⟩ := h.rows.seen
  rw [h.len] at hve
  subst hve
  have HCell : Hid (∀ W', Below w.heap.size w W' → W'.cell? ⟨b, 5, none⟩ = some (.bool false) ∧ W'.cell? ⟨b, 6, none⟩ = some (.slice none 0 0) ∧ W'.cell? ⟨b, 1, none⟩ = some (.int .i64 (nh : Int)) ∧ W'.cell? ⟨b, 3, none⟩ = some (.slice ad nh cap)) := fun W' hb => by
    have h9 := hat.below hb
    exact ⟨cell_atT h9 5, cell_atT h9 6, cell_atT h9 1, cell_atT h9 3⟩
  have HS := hidK (And.intro hsee h.len)
  have HRow : Hid (∀ r ∈ vs, Row w 49 5 r nw (tgsV (blks nw))) := fun r hr => (h.rows.each r hr).1
  have HT : Hid (∀ W r, Row W 49 5 r nw (tgsV (blks nw)) → Calls Tryz.prog 30 #[r] W fun e w' => e = .returned (.string ⟨#[]⟩) ∧ w' = W) := fun W r hr => refText_blank h1 hr
  obtain ⟨c5, c6, c1, c3⟩ := HCell.out w (Below.refl _ _)
  clear h hat hsee
  go_enter Tryz.func22, Tryz.ntmps22
  go_wp2_with fail
  go_loopw [3, 4] (fun v i wr => v = .slice none 0 0 ∧ i = .int .i64 0 ∧ w = wr) (fun _ _ _ => 0)
  case atStart => exact ⟨rfl, rfl, rfl⟩
  case round =>
    obtain ⟨rfl, rfl, rfl⟩ := hrel
    go_wp2_with fail
    go_loopw [3, 5] (fun v i wr => ∃ k : Nat, k ≤ nh ∧ i = .int .i64 (k : Int) ∧ Hid (Mine w wr 9 1 v k (nones k))) (fun _ i _ => nh - (intOf i).toNat)
    case atStart => exact ⟨0, Nat.zero_le _, rfl, Mine.nil (Below.refl _ _)⟩
    case round =>
      obtain ⟨k, hk, rfl, HM⟩ := hrel
      clear c5 c6 c1 c3
      obtain ⟨c5, c6, c1, c3⟩ := HCell.out wr HM.out.below
      by_cases hlt : k < nh
      · obtain ⟨r, hr⟩ : ∃ r, vs[k]? = some r := ⟨_, List.getElem?_eq_getElem (by have := HS.out.2; omega)⟩
        obtain ⟨g, o, hae, cr⟩ := HS.out.1 wr HM.out.below k r hr
        have hrow := (HRow.out r (List.mem_of_getElem? hr)).below HM.out.below
        obtain ⟨ra, rc, hre, _, _, _, _⟩ := hrow.shape
        have HC := hidK (HT.out wr r hrow)
        subst hae
        subst hre
        clear hr hrow
        go_wp2_with fail
        refine HC.out.mono ?_
        rintro e w1 ⟨rfl, rfl⟩
        go_wp2_with (refine wpList_append_row (w1.alloc (.cells #[.string ⟨#[]⟩] 9)) rfl _ _ 60 60 rfl underStrs infoStr rfl (v := u3) (by simp [Act.eval]) (u := .slice (some ⟨w1.heap.size, 0, none⟩) 1 1) (by simp [Act.eval]) (HM.out.more ((Below.refl _ _).alloc (Nat.le_refl _) _)).row (Src.block underStrs _ _ [.string ⟨#[]⟩] 9 1 (heap_alloc_new w1 _) rfl rfl) ?x1 ?x2 ?x3)
        case x1 => omega
        case x2 => unfold maxLen; omega
        intro v2 w2 hr2 hg2
        go_wp2_with fail
        go_roundw
        case rel => exact ⟨k + 1, by omega, by go_num, (HM.out.grown ((Below.refl _ _).alloc (Nat.le_refl _) _) hr2.out hg2.out).cast rfl (nones_snoc k).symm⟩
        case measure => simp [intOf]; omega
      · obtain rfl : k = nh := by omega
        go_wp2_with fail
        go_ret
        exact ⟨u3, rfl, HM.out⟩
end Go.Proofs.YtklonlgmifgckaaGreatDoor
