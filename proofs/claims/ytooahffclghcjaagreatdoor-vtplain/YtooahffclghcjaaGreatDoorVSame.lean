/-
  The law's own functions: two pictures, two lists of texts.
-/
import Derived.Test.YtooahffclghcjaaGreatDoorMD
namespace Go.Proofs.YtooahffclghcjaaGreatDoor
open Go.RowKit
set_option linter.unusedVariables false
set_option maxRecDepth 100000

theorem tgs_get {gs : List Gl} {i : Nat} {x : Gl} (h : gs[i]? = some x) : (tgsV gs)[i * 5]? = some (.string (txtG x)) ∧ (tgsV gs)[i * 5 + 1]? = some (.int .i64 x.n) ∧ (tgsV gs)[i * 5 + 2]? = some (.int .i64 x.fo) ∧ (tgsV gs)[i * 5 + 3]? = some (.int .i64 x.ba) ∧ (tgsV gs)[i * 5 + 4]? = some (.int .i64 x.ma) := by
  induction gs generalizing i with
  | nil => simp at h
  | cons y gs ih =>
    have hc : tgsV (y :: gs) = tgV y ++ tgsV gs := rfl
    cases i with
    | zero =>
      simp at h
      subst h
      exact ⟨rfl, rfl, rfl, rfl, rfl⟩
    | succ i =>
      have h1 := ih (i := i) (by simpa using h)
      have hl : (tgV y).length = 5 := rfl
      rw [hc, List.getElem?_append_right (by omega), List.getElem?_append_right (by omega), List.getElem?_append_right (by omega), List.getElem?_append_right (by omega), List.getElem?_append_right (by omega), hl]
      rw [show (i + 1) * 5 - 5 = i * 5 by omega, show (i + 1) * 5 + 1 - 5 = i * 5 + 1 by omega, show (i + 1) * 5 + 2 - 5 = i * 5 + 2 by omega, show (i + 1) * 5 + 3 - 5 = i * 5 + 3 by omega, show (i + 1) * 5 + 4 - 5 = i * 5 + 4 by omega]
      exact h1
/-- A row of glyphs that can be read, wherever it lies. -/
theorem Row.seen {w : World} {v : Value} {gs : List Gl} (h : Row w 76 5 v gs.length (tgsV gs)) : ∃ ad cap, v = .slice ad gs.length cap ∧ ∀ W', Below w.heap.size w W' → ∀ (i : Nat) x, gs[i]? = some x → ∃ g o, ad = some ⟨g, o, none⟩ ∧ W'.cell? ⟨g, o + i * 5, none⟩ = some (.string (txtG x)) ∧ W'.cell? ⟨g, o + i * 5 + 1, none⟩ = some (.int .i64 x.n) ∧ W'.cell? ⟨g, o + i * 5 + 2, none⟩ = some (.int .i64 x.fo) ∧ W'.cell? ⟨g, o + i * 5 + 3, none⟩ = some (.int .i64 x.ba) ∧ W'.cell? ⟨g, o + i * 5 + 4, none⟩ = some (.int .i64 x.ma) := by
  obtain ⟨ad, cap, e, h1, h2, h3, h4⟩ := h.shape
  refine ⟨ad, cap, e, fun W' hW i x hx => ?_⟩
  have hi := (List.getElem?_eq_some_iff.1 hx).1
  cases ad with
  | none =>
    have := (h3 rfl).1
    omega
  | some a =>
    obtain ⟨g, o, rfl, _, h5, h6⟩ := h4 a rfl
    have hk := (h6 W' (hW.block g h5)).1
    obtain ⟨t0, t1, t2, t3, t4⟩ := tgs_get hx
    refine ⟨g, o, rfl, hk _ _ t0, ?_, ?_, ?_, ?_⟩
    · rw [Nat.add_assoc]; exact hk _ _ t1
    · rw [Nat.add_assoc]; exact hk _ _ t2
    · rw [Nat.add_assoc]; exact hk _ _ t3
    · rw [Nat.add_assoc]; exact hk _ _ t4
/-- A list of texts that can be read. -/
def Txts (w : World) (v : Value) (ls : List ByteArray) : Prop := Row w 9 1 v ls.length (ls.map Value.string)
theorem Txts.seen {w : World} {v : Value} {ls : List ByteArray} (h : Txts w v ls) : ∃ ad cap, v = .slice ad ls.length cap ∧ ∀ W', Below w.heap.size w W' → ∀ (i : Nat) x, ls[i]? = some x → ∃ g o, ad = some ⟨g, o, none⟩ ∧ W'.cell? ⟨g, o + i, none⟩ = some (.string x) := by
  obtain ⟨ad, cap, e, h1, h2, h3, h4⟩ := Row.shape h
  refine ⟨ad, cap, e, fun W' hW i x hx => ?_⟩
  have hi := (List.getElem?_eq_some_iff.1 hx).1
  cases ad with
  | none =>
    have := (h3 rfl).1
    omega
  | some a =>
    obtain ⟨g, o, rfl, _, h5, h6⟩ := h4 a rfl
    exact ⟨g, o, rfl, (h6 W' (hW.block g h5)).1 _ _ (by rw [List.getElem?_map, hx]; rfl)⟩
set_option maxHeartbeats 4000000 in
theorem sameTexts_any (ls : List ByteArray) (hl : ls.length ≤ 1000000) {v1 v2 : Value} {w : World} (h1 : Txts w v1 ls) (h2 : Txts w v2 ls) : Calls Tryz.prog 6 #[v1, v2] w fun r w' => r = .returned (.bool true) ∧ Below w.heap.size w w' := by
  obtain ⟨ad1, cap1, rfl, k1⟩ := h1.seen
  obtain ⟨ad2, cap2, rfl, k2⟩ := h2.seen
  obtain ⟨n, hn⟩ : ∃ n, ls.length = n := ⟨_, rfl⟩
  have HN := hidK hn
  rw [hn] at hl
  have HK := hidK (And.intro k1 k2)
  rw [hn]
  clear k1 k2 h1 h2 hn
  go_enter Tryz.func6, Tryz.ntmps6
  go_wp2_with fail
  go_loopw [5] (fun i wr => ∃ k : Nat, k ≤ n ∧ i = .int .i64 (k : Int) ∧ Hid (Below w.heap.size w wr)) (fun i _ => n - (intOf i).toNat)
  case atStart => exact ⟨0, Nat.zero_le _, rfl, Below.refl _ _⟩
  case round =>
    obtain ⟨k, hk, rfl, HBk⟩ := hrel
    by_cases hlt : k < n
    · obtain ⟨x, hx⟩ : ∃ x, ls[k]? = some x := ⟨_, List.getElem?_eq_getElem (by have := HN.out; omega)⟩
      obtain ⟨g1, o1, e1, p0⟩ := HK.out.1 wr HBk.out k x hx
      obtain ⟨g2, o2, e2, q0⟩ := HK.out.2 wr HBk.out k x hx
      subst e1 e2
      have hki : (k : Int) < (n : Int) := by omega
      clear hx
      go_wp2_with fail
      go_quiet (fail)
      go_wp2_with fail
      go_roundw
      case rel => exact ⟨k + 1, by omega, by go_num, HBk.out.trans ((below_drewN _ _).mono HBk.out.size)⟩
      case measure => simp [intOf]; omega
    · obtain rfl : k = n := by omega
      go_wp2_with fail
      go_ret
      exact ⟨rfl, HBk.out⟩
end Go.Proofs.YtooahffclghcjaaGreatDoor
