/-
  The law's own: does a new screen tell of itself what the document says?
-/
import Derived.Test.YtooahffclghcjaaGreatDoorVTell
import Derived.Test.YtooahffclghcjaaGreatDoorVRef
import Derived.Test.YtooahffclghcjaaGreatDoorMD
import Derived.Test.YtooahffclghcjaaGreatDoorVWork
namespace Go.Proofs.YtooahffclghcjaaGreatDoor
open Go.RowKit
set_option linter.unusedVariables false
set_option maxRecDepth 100000

/-- A new screen of the program. -/
structure FrP (w : World) (nw nh lim b G T : Nat) (rs : List (Nat × List Gl)) : Prop where
  at_ : ScAt w b (newSc nw nh lim G T)
  len : rs.length = nh
  rows : RowsAt w G rs 0
  alike : Alike nw ⟨32, 1, 0, 0, 0⟩ rs
theorem FrP.more {w w' : World} {nw nh lim b G T : Nat} {rs : List (Nat × List Gl)} (h : FrP w nw nh lim b G T rs) (hb : Below w.heap.size w w') : FrP w' nw nh lim b G T rs := ⟨h.at_.below hb, h.len, h.rows.below hb, h.alike⟩
theorem flat_alike {rs : List (Nat × List Gl)} {n : Nat} {x : Gl} (h : Alike n x rs) : flatR rs = List.replicate (rs.length * n) x := by
  induction rs with
  | nil => simp [flatR]
  | cons r rs ih =>
    have h9 : flatR (r :: rs) = r.2 ++ flatR rs := rfl
    rw [h9, ih (fun r hr => h r (by simp [hr])), h r (by simp), List.replicate_append_replicate, List.length_cons]
    congr 1
    rw [Nat.add_mul]
    omega
/-- What a new screen shows. -/
theorem picture_new {w : World} {nw nh lim b G T : Nat} {rs : List (Nat × List Gl)} (h1 : nw ≤ 1000) (h2 : nh ≤ 1000) (h : FrP w nw nh lim b G T rs) : Calls Tryz.prog 16 #[.pointer (some ⟨b, 0, none⟩)] w fun r w' => ∃ ad cap, r = .returned (.agg #[.int .i64 (nw : Int), .int .i64 (nh : Int), .slice ad (nh * nw) cap, .int .i64 0, .int .i64 0, .bool false, .string ⟨#[]⟩]) ∧ Below w.heap.size w w' ∧ Row w' 76 5 (.slice ad (nh * nw) cap) (nh * nw) (tgsV (blks (nh * nw))) := by
  have hsc : Scn w b (newSc nw nh lim G T) G rs := ⟨h.at_, h.rows, by rw [h.len]; rfl⟩
  have hp := picture_any hsc (nw := nw) rfl (by rw [h.len]; rfl) h1 (by rw [h.len]; exact h2) (fun r hr => by rw [h.alike r hr]; simp) (fun r hr x hx => by rw [h.alike r hr] at hx; rw [List.eq_of_mem_replicate hx]; exact .inl ⟨rfl, rfl⟩) rfl
  rw [flat_alike h.alike, List.length_replicate, h.len] at hp
  refine hp.mono ?_
  rintro r w' ⟨v, rfl, hb, hr, _⟩
  obtain ⟨ad, cap, rfl, _, _, _, _⟩ := hr.shape
  exact ⟨ad, cap, rfl, hb, hr⟩
end Go.Proofs.YtooahffclghcjaaGreatDoor
