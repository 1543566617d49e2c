/-
  The document's queue: lines, New, laid.
-/
import Derived.Test.YtkpnolkbheoocaaQRef
import Derived.WalkKit
import Derived.Deep.RegionLaw
namespace Go.Proofs.Ytkpnolkbheoocaa
open Go.RowKit
set_option linter.unusedVariables false
set_option maxRecDepth 100000

set_option maxHeartbeats 2000000 in
theorem refLines_any {w : World} {v : Value} {ls : List (List UInt8)} (hs : Strs w v ls) :
    Calls Try.prog 44 #[v] w fun x w' => ∃ z : Int, x = .returned (.tuple #[.bool (linesB ls), .int .i64 z]) ∧ (linesB ls = true → z = (sumF ls : Int)) ∧ w = w' := by
  obtain ⟨ad, n, cap, rfl, hn, hn1, hcell⟩ := hs.shape
  have HI : Hid (∀ (l : List UInt8) W, l.length ≤ 9223372036854775807 → Calls Try.prog 46 #[.string (str l)] W fun x w' => x = .returned (.bool (lineB l)) ∧ W = w') := fun l W hl => refIsLine_any l W hl
  have HC : Hid (∀ (i : Nat) (l : List UInt8), ls[i]? = some l → ∃ g o, ad = some ⟨g, o, none⟩ ∧ l.length ≤ 9223372036854775807 ∧ w.cell? ⟨g, o + i, none⟩ = some (.string (str l))) := fun i l hl => by
    obtain ⟨g, o, e, _, h1, h2⟩ := hcell w (fun _ _ _ => rfl) i l hl
    exact ⟨g, o, e, h1, h2⟩
  have HN : Hid (ls.length = n) := hn
  clear hcell hn hs
  go_enter Try.func44, Try.ntmps44
  go_wp2_with fail
  go_loopw [4, 5, 6] (fun s4 s5 s6 wr => ∃ (i : Nat) (z : Int), i ≤ n ∧ s6 = .int .i64 i ∧ s4 = .int .i64 z ∧ s5 = .bool (linesB (ls.take i)) ∧ Hid (linesB (ls.take i) = true → z = (sumF (ls.take i) : Int)) ∧ w = wr) (fun _ _ v _ => n - (intOf v).toNat)
  case atStart => exact ⟨0, 0, Nat.zero_le _, rfl, rfl, rfl, fun _ => rfl, rfl⟩
  case round =>
    obtain ⟨i, z, hi, rfl, rfl, rfl, HZ, rfl⟩ := hrel
    by_cases hlt : i < n
    · obtain ⟨l, hl⟩ : ∃ l, ls[i]? = some l := ⟨_, List.getElem?_eq_getElem (by rw [HN.out]; exact hlt)⟩
      obtain ⟨g, o, rfl, hll, hc⟩ := HC.out i l hl
      have HT : Hid (ls.take (i + 1) = ls.take i ++ [l]) := by show _ = _; rw [List.take_add_one, hl]; rfl
      have HI2 : Hid (∀ W, Calls Try.prog 46 #[.string (str l)] W fun x w' => x = .returned (.bool (lineB l)) ∧ W = w') := fun W => HI.out l W hll
      obtain ⟨Z, hZ⟩ : ∃ Z, str l = Z := ⟨_, rfl⟩
      have hm : l.length = Z.size := by rw [← hZ]; rfl
      rw [hZ] at hc HI2
      rw [hm] at hll
      have HM : Hid (l.length = Z.size) := hm
      clear hl hZ hm
      cases hb : linesB (ls.take i)
      · have HF : Hid (linesB (ls.take (i + 1)) = false) := by show _ = _; rw [HT.out, lines_snoc, hb]; rfl
        go_wp2_with fail
        go_roundw
        case rel => exact ⟨i + 1, _, by omega, by go_num, rfl, by rw [HF.out], (fun h => by rw [HF.out] at h; cases h), by first | rfl | trivial⟩
        case measure => simp [intOf]; omega
      · obtain ⟨S, hS⟩ : ∃ S, sumF (ls.take i) = S := ⟨_, rfl⟩
        have hz : z = (S : Int) := by rw [← hS]; exact HZ.out hb
        subst hz
        have hSb : S ≤ i * 8193 := by
          have h1 := sum_short hb
          rw [List.length_take, HN.out, hS, Nat.min_eq_left hi] at h1
          exact h1
        have HSS : Hid (sumF (ls.take i) = S) := hS
        clear hS
        cases hlb : lineB l
        · rw [hlb] at HI2
          have HF : Hid (linesB (ls.take (i + 1)) = false) := by show _ = _; rw [HT.out, lines_snoc, hb, hlb]; rfl
          go_wp2_with (go_at_call 46; refine (HI2.out _).mono ?_; rintro x w1 ⟨rfl, rfl⟩)
          go_roundw
          case rel => exact ⟨i + 1, _, by omega, by go_num, rfl, by rw [HF.out], (fun h => by rw [HF.out] at h; cases h), by first | rfl | trivial⟩
          case measure => simp [intOf]; omega
        · rw [hlb] at HI2
          have hmm : Z.size ≤ 8192 := by rw [← HM.out]; exact line_short hlb
          have HF : Hid (linesB (ls.take (i + 1)) = true) := by show _ = _; rw [HT.out, lines_snoc, hb, hlb]; rfl
          go_wp2_with (go_at_call 46; refine (HI2.out _).mono ?_; rintro x w1 ⟨rfl, rfl⟩)
          go_roundw
          case rel => exact ⟨i + 1, _, by omega, by go_num, rfl, by rw [HF.out], (fun h => by rw [HT.out, sum_snoc, HSS.out, HM.out]; go_num), by first | rfl | trivial⟩
          case measure => simp [intOf]; omega
    · obtain rfl : i = n := by omega
      have htk : ls.take i = ls := List.take_of_length_le (by rw [HN.out]; omega)
      rw [htk] at HZ ⊢
      obtain ⟨B, hB⟩ : ∃ B, linesB ls = B := ⟨_, rfl⟩
      rw [hB] at HZ ⊢
      go_wp2
      all_goals go_ret2
      all_goals exact ⟨z, by rw [hB]; rfl, by rw [hB]; exact HZ.out, rfl⟩

/-- What the document's New gives. -/
theorem refNew_any (lim : Int) (w : World) : Calls Try.prog 18 #[.int .i64 lim] w fun x w' => Below w.heap.size w w' ∧ ((lim < 0 ∨ lim > 65536) ∧ x = .returned (.tuple #[.agg #[.int .i64 0, .slice none 0 0, .bool false], .int .i64 1]) ∨ (0 ≤ lim ∧ lim ≤ 65536) ∧ x = .returned (.tuple #[.agg #[.int .i64 lim, .slice none 0 0, .bool false], .int .i64 0])) := by
  by_cases h1 : lim < 0
  · go_enter Try.func18, Try.ntmps18
    go_wp2
    all_goals refine bodyPost_ret (v := .tuple #[.agg #[.int .i64 0, .slice none 0 0, .bool false], .int .i64 1]) (by simp [results, Try.results18, go_sem]) rfl ?_
    all_goals exact ⟨by repeat (first | exact Below.refl _ _ | apply Below.drew | refine Below.setCell ?_ (by first | omega | simp) _ | refine Below.alloc ?_ (by first | omega | simp) _), by first | exact .inl ⟨.inl h1, rfl⟩ | exact .inl rfl | exact .inr rfl | exact rfl⟩
  · by_cases h2 : lim > 65536
    · go_enter Try.func18, Try.ntmps18
      go_wp2
      all_goals refine bodyPost_ret (v := .tuple #[.agg #[.int .i64 0, .slice none 0 0, .bool false], .int .i64 1]) (by simp [results, Try.results18, go_sem]) rfl ?_
      all_goals exact ⟨by repeat (first | exact Below.refl _ _ | apply Below.drew | refine Below.setCell ?_ (by first | omega | simp) _ | refine Below.alloc ?_ (by first | omega | simp) _), by first | exact .inl ⟨.inr h2, rfl⟩ | exact .inl rfl | exact .inr rfl | exact rfl⟩
    · go_enter Try.func18, Try.ntmps18
      go_wp2
      all_goals refine bodyPost_ret (v := .tuple #[.agg #[.int .i64 lim, .slice none 0 0, .bool false], .int .i64 0]) (by simp [results, Try.results18, go_sem]) rfl ?_
      all_goals exact ⟨by repeat (first | exact Below.refl _ _ | apply Below.drew | refine Below.setCell ?_ (by first | omega | simp) _ | refine Below.alloc ?_ (by first | omega | simp) _), by first | exact .inr ⟨by omega, rfl⟩ | exact .inl rfl | exact .inr rfl | exact rfl⟩

theorem infoIt : (Try.prog.info? 68).map (fun i => (i.zero, i.size, i.bytes)) = some (some (.agg #[.string ⟨#[]⟩, .int .i64 0, .int .i64 0]), 3, 32) := by kernel_rfl
theorem underIts : Try.prog.underlying 24 = some (.slice 68) := by kernel_rfl

end Go.Proofs.Ytkpnolkbheoocaa
