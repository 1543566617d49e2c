/-
  The document's escaping, nameBegins, next.
  The document's plans and counts.
  The document's partIs and partBegins, letter by letter.
  The document's partBegins, letter by letter.
-/
import Derived.Test.YtplolaondmeccaaGreatDoorRPure
import Derived.Test.YtplolaondmeccaaGreatDoorRNRf
import Derived.Test.YtplolaondmeccaaGreatDoorWPrefixW
import Derived.WalkKit
import Derived.LoopTactic
namespace Go.Proofs.YtplolaondmeccaaGreatDoor
open Go.RowKit
set_option linter.unusedVariables false

/-- The cells of the ends. -/
def endsV : Array Value := #[.string ⟨#[]⟩, .string ⟨#[48]⟩, .string ⟨#[48, 48]⟩, .string ⟨#[48, 48, 48]⟩, .string ⟨#[49]⟩, .string ⟨#[49, 48]⟩, .string ⟨#[51, 48]⟩, .string ⟨#[51, 52]⟩, .string ⟨#[48, 51, 52]⟩, .string ⟨#[49, 51, 52]⟩, .string ⟨#[52]⟩, .string ⟨#[53]⟩, .string ⟨#[52, 53]⟩, .string ⟨#[48, 52, 53]⟩]
theorem endsV_at : ∀ i, i < 14 → ∃ e, ends14[i]? = some e ∧ endsV[i]? = some (.string (str e)) ∧ e.length ≤ 3 := by
  intro i hi
  rcases (show i = 0 ∨ i = 1 ∨ i = 2 ∨ i = 3 ∨ i = 4 ∨ i = 5 ∨ i = 6 ∨ i = 7 ∨ i = 8 ∨ i = 9 ∨ i = 10 ∨ i = 11 ∨ i = 12 ∨ i = 13 by omega) with rfl | rfl | rfl | rfl | rfl | rfl | rfl | rfl | rfl | rfl | rfl | rfl | rfl | rfl <;> exact ⟨_, rfl, rfl, by decide⟩

set_option maxRecDepth 20000 in
set_option maxHeartbeats 1000000 in
theorem escaping_any (s : ByteArray) (hs : s.size ≤ 1048576) (hi : Nat) (hhi : hi ≤ 4611686018427387904) (b : Bool) (H1 : ∀ e u, e ∈ ends14 → esc u = s.data.toList ++ e → u.length ≤ hi → b = true) (H2 : (∀ e ∈ ends14, ∀ u, esc u = s.data.toList ++ e → ¬ u.length ≤ hi) → b = false) (w : World) :
    Calls Tryz.prog 34 #[.string s, .int .i64 hi, .bool false] w fun e w' => e = .returned (.bool b) ∧ Below w.heap.size w w' := by
  have HH1 : Hid (∀ e u, e ∈ ends14 → esc u = s.data.toList ++ e → u.length ≤ hi → b = true) := H1
  have HH2 : Hid ((∀ e ∈ ends14, ∀ u, esc u = s.data.toList ++ e → ¬ u.length ≤ hi) → b = false) := H2
  obtain ⟨W, hW⟩ : ∃ W, w.alloc (.cells endsV 9) = W := ⟨_, rfl⟩
  have HW : Hid (w.alloc (.cells endsV 9) = W) := hW
  have HC : Hid (∀ i, i < 14 → ∃ e, ends14[i]? = some e ∧ W.cell? ⟨w.heap.size, i, none⟩ = some (.string (str e)) ∧ e.length ≤ 3) := fun i hi' => by
    obtain ⟨e, h1, h2, h3⟩ := endsV_at i hi'
    exact ⟨e, h1, by rw [← hW, cell_at (heap_alloc_new w _)]; exact h2, h3⟩
  have HB0 : Hid (Below w.heap.size w W) := hW ▸ below1 w _
  have HSz : Hid (w.heap.size < W.heap.size) := by show _ < _; rw [← hW, size1]; omega
  clear H1 H2 hW
  go_enter Tryz.func34, Tryz.ntmps34
  go_wp2
  rw [show (w.alloc (.cells #[.string ⟨#[]⟩, .string ⟨#[48]⟩, .string ⟨#[48, 48]⟩, .string ⟨#[48, 48, 48]⟩, .string ⟨#[49]⟩, .string ⟨#[49, 48]⟩, .string ⟨#[51, 48]⟩, .string ⟨#[51, 52]⟩, .string ⟨#[48, 51, 52]⟩, .string ⟨#[49, 51, 52]⟩, .string ⟨#[52]⟩, .string ⟨#[53]⟩, .string ⟨#[52, 53]⟩, .string ⟨#[48, 52, 53]⟩] 9)) = W from HW.out]
  go_loopw [8] (fun v wr => ∃ i : Nat, i ≤ 14 ∧ v = .int .i64 i ∧ Below W.heap.size W wr ∧ ∀ j e, j < i → ends14[j]? = some e → ∀ u, esc u = s.data.toList ++ e → ¬ u.length ≤ hi) (fun v _ => 14 - (intOf v).toNat)
  case atStart => exact ⟨0, by omega, rfl, Below.refl _ _, fun j e h => by omega⟩
  case round =>
    obtain ⟨i, hi14, rfl, hb, hno⟩ := hrel
    have HB : Hid (Below W.heap.size W wr) := hb
    have HNo : Hid (∀ j e, j < i → ends14[j]? = some e → ∀ u, esc u = s.data.toList ++ e → ¬ u.length ≤ hi) := hno
    have HBw : Hid (Below w.heap.size w wr) := HB0.out.trans (hb.mono (Nat.le_of_lt HSz.out))
    by_cases hlt : i < 14
    · have hlz : (i : Int) < 14 := by omega
      obtain ⟨e, he, hc, hl⟩ := HC.out i hlt
      have d1 : wr.cell? ⟨w.heap.size, i, none⟩ = some (.string (str e)) := (hb.cell (p := ⟨w.heap.size, i, none⟩) HSz.out).trans hc
      obtain ⟨x, hx⟩ : ∃ x, str e = x := ⟨_, rfl⟩
      have hxs : x.size ≤ 3 := by rw [← hx, str_size]; exact hl
      have hcat : (s ++ x).data.toList = s.data.toList ++ e := by rw [cat_data, ← hx, str_data]
      have HU := refUnescape_any (s ++ x) wr (by rw [ByteArray.size_append]; omega)
      rw [hcat] at HU
      rw [hx] at d1
      have HE : Hid (ends14[i]? = some e) := he
      clear hc hcat hx hb hno he hl
      go_wp2_with fail
      refine HU.mono ?_
      rintro e1 w1 ⟨⟨u, rfl, hu⟩ | ⟨rfl, hu⟩, hb1⟩
      · have HB1 : Hid (Below W.heap.size W w1) := HB.out.trans (hb1.mono HB.out.size)
        have HB1w : Hid (Below w.heap.size w w1) := HBw.out.trans (hb1.mono HBw.out.size)
        have hus : (str u).size = u.length := str_size u
        by_cases hlen : u.length ≤ hi
        · have hr : b = true := HH1.out e u (List.mem_of_getElem? HE.out) hu hlen
          subst hr
          have hlz2 : ((str u).size : Int) ≤ (hi : Int) := by omega
          clear hu hb1 HU
          go_wp2
          all_goals go_ret
          all_goals exact ⟨rfl, HB1w.out⟩
        · have HN2 : Hid (∀ j e, j < i + 1 → ends14[j]? = some e → ∀ u, esc u = s.data.toList ++ e → ¬ u.length ≤ hi) := fun j e' hj he' u' hu' => by
            by_cases hji : j = i
            · subst hji
              rw [HE.out] at he'
              cases he'
              rw [esc_inj (hu'.trans hu.symm)]
              exact hlen
            · exact HNo.out j e' (by omega) he' u' hu'
          have hlz2 : ¬ ((str u).size : Int) ≤ (hi : Int) := by omega
          have hlz3 : (hi : Int) < ((str u).size : Int) := by omega
          clear hu hb1 HU
          go_wp2
          go_roundw
          case rel => exact ⟨i + 1, by omega, by go_num, HB1.out, HN2.out⟩
          case measure => simp [intOf]; omega
      · have HB1 : Hid (Below W.heap.size W w1) := HB.out.trans (hb1.mono HB.out.size)
        have HN2 : Hid (∀ j e, j < i + 1 → ends14[j]? = some e → ∀ u, esc u = s.data.toList ++ e → ¬ u.length ≤ hi) := fun j e' hj he' u' hu' => by
          by_cases hji : j = i
          · subst hji
            rw [HE.out] at he'
            cases he'
            exact absurd hu' (hu u')
          · exact HNo.out j e' (by omega) he' u' hu'
        clear hu hb1 HU
        go_wp2
        go_roundw
        case rel => exact ⟨i + 1, by omega, by go_num, HB1.out, HN2.out⟩
        case measure => simp [intOf]; omega
    · have hi' : i = 14 := by omega
      subst hi'
      have hr : b = false := HH2.out (fun e he u hu => by
        obtain ⟨j, hj, hje⟩ := List.getElem_of_mem he
        exact HNo.out j e hj (by rw [List.getElem?_eq_getElem hj, hje]) u hu)
      subst hr
      clear hb hno
      go_wp2
      all_goals go_ret
      all_goals exact ⟨rfl, HBw.out⟩

theorem escB_len (t : List UInt8) : t.length ≤ (escB t).length := by
  rcases key37 t with ⟨q, rfl, e⟩ | ⟨_, e⟩
  · rw [e]; have := (esc_length q).1; rw [List.length_append, code_length, List.length_cons]; omega
  · rw [e]; exact (esc_length t).1

set_option maxRecDepth 20000 in
set_option maxHeartbeats 1000000 in
theorem escapingBody_any (s : ByteArray) (hs : s.size ≤ 1048576) (b : Bool) (H1 : ∀ e u, e ∈ ends14 → escB u = s.data.toList ++ e → b = true) (H2 : (∀ e ∈ ends14, ∀ u, escB u ≠ s.data.toList ++ e) → b = false) (w : World) :
    Calls Tryz.prog 34 #[.string s, .int .i64 4611686018427387904, .bool true] w fun e w' => e = .returned (.bool b) ∧ Below w.heap.size w w' := by
  have HH1 : Hid (∀ e u, e ∈ ends14 → escB u = s.data.toList ++ e → b = true) := H1
  have HH2 : Hid ((∀ e ∈ ends14, ∀ u, escB u ≠ s.data.toList ++ e) → b = false) := H2
  obtain ⟨W, hW⟩ : ∃ W, w.alloc (.cells endsV 9) = W := ⟨_, rfl⟩
  have HW : Hid (w.alloc (.cells endsV 9) = W) := hW
  have HC : Hid (∀ i, i < 14 → ∃ e, ends14[i]? = some e ∧ W.cell? ⟨w.heap.size, i, none⟩ = some (.string (str e)) ∧ e.length ≤ 3) := fun i hi' => by
    obtain ⟨e, h1, h2, h3⟩ := endsV_at i hi'
    exact ⟨e, h1, by rw [← hW, cell_at (heap_alloc_new w _)]; exact h2, h3⟩
  have HB0 : Hid (Below w.heap.size w W) := hW ▸ below1 w _
  have HSz : Hid (w.heap.size < W.heap.size) := by show _ < _; rw [← hW, size1]; omega
  clear H1 H2 hW
  go_enter Tryz.func34, Tryz.ntmps34
  go_wp2
  rw [show (w.alloc (.cells #[.string ⟨#[]⟩, .string ⟨#[48]⟩, .string ⟨#[48, 48]⟩, .string ⟨#[48, 48, 48]⟩, .string ⟨#[49]⟩, .string ⟨#[49, 48]⟩, .string ⟨#[51, 48]⟩, .string ⟨#[51, 52]⟩, .string ⟨#[48, 51, 52]⟩, .string ⟨#[49, 51, 52]⟩, .string ⟨#[52]⟩, .string ⟨#[53]⟩, .string ⟨#[52, 53]⟩, .string ⟨#[48, 52, 53]⟩] 9)) = W from HW.out]
  go_loopw [8] (fun v wr => ∃ i : Nat, i ≤ 14 ∧ v = .int .i64 i ∧ Below W.heap.size W wr ∧ ∀ j e, j < i → ends14[j]? = some e → ∀ u, escB u ≠ s.data.toList ++ e) (fun v _ => 14 - (intOf v).toNat)
  case atStart => exact ⟨0, by omega, rfl, Below.refl _ _, fun j e h => by omega⟩
  case round =>
    obtain ⟨i, hi14, rfl, hb, hno⟩ := hrel
    have HB : Hid (Below W.heap.size W wr) := hb
    have HNo : Hid (∀ j e, j < i → ends14[j]? = some e → ∀ u, escB u ≠ s.data.toList ++ e) := hno
    have HBw : Hid (Below w.heap.size w wr) := HB0.out.trans (hb.mono (Nat.le_of_lt HSz.out))
    by_cases hlt : i < 14
    · have hlz : (i : Int) < 14 := by omega
      obtain ⟨e, he, hc, hl⟩ := HC.out i hlt
      have d1 : wr.cell? ⟨w.heap.size, i, none⟩ = some (.string (str e)) := (hb.cell (p := ⟨w.heap.size, i, none⟩) HSz.out).trans hc
      obtain ⟨x, hx⟩ : ∃ x, str e = x := ⟨_, rfl⟩
      have hxs : x.size ≤ 3 := by rw [← hx, str_size]; exact hl
      have hcat : (s ++ x).data.toList = s.data.toList ++ e := by rw [cat_data, ← hx, str_data]
      have HU0 := refUnescape_any (s ++ x) wr (by rw [ByteArray.size_append]; omega)
      have hxl : (s ++ x).size ≤ 1048579 := by rw [ByteArray.size_append]; omega
      have HUB : Hid (∀ W', Calls Tryz.prog 63 #[.string (s ++ x)] W' fun e1 w' => ((∃ t, e1 = .returned (.tuple #[.string (str t), .int .i64 0]) ∧ escB t = s.data.toList ++ e) ∨ (e1 = .returned (.tuple #[.string ⟨#[]⟩, .int .i64 10]) ∧ ∀ t, escB t ≠ s.data.toList ++ e)) ∧ Below W'.heap.size W' w') := fun W' => by
        have := refUnescapeBody_any (s ++ x) W' (by omega)
        rw [hcat] at this
        exact this
      rw [hx] at d1
      have HE : Hid (ends14[i]? = some e) := he
      have HEl : Hid (e.length ≤ 3) := hl
      clear hc hcat hx hb hno he hl
      go_wp2_with fail
      refine HU0.mono ?_
      rintro e0 w0 ⟨h0, hb0⟩
      obtain ⟨t0, n0, rfl⟩ : ∃ (t0 : ByteArray) (n0 : Int), e0 = .returned (.tuple #[.string t0, .int .i64 n0]) := by
        rcases h0 with ⟨u, rfl, _⟩ | ⟨rfl, _⟩
        · exact ⟨_, _, rfl⟩
        · exact ⟨_, _, rfl⟩
      have HBz : Hid (Below W.heap.size W w0) := HB.out.trans (hb0.mono HB.out.size)
      have HBzw : Hid (Below w.heap.size w w0) := HBw.out.trans (hb0.mono HBw.out.size)
      clear h0 hb0 HU0
      go_wp2_with fail
      refine (HUB.out w0).mono ?_
      rintro e1 w1 ⟨⟨u, rfl, hu⟩ | ⟨rfl, hu⟩, hb1⟩
      · have HB1 : Hid (Below W.heap.size W w1) := HBz.out.trans (hb1.mono HBz.out.size)
        have HB1w : Hid (Below w.heap.size w w1) := HBzw.out.trans (hb1.mono HBzw.out.size)
        have hus : (str u).size = u.length := str_size u
        have hr : b = true := HH1.out e u (List.mem_of_getElem? HE.out) hu
        subst hr
        have hul : u.length ≤ 1048579 := by
          have h1 := escB_len u
          rw [hu, List.length_append, size_data] at h1
          have h2 : e.length ≤ 3 := HEl.out
          omega
        have hlz2 : ((str u).size : Int) ≤ 4611686018427387904 := by omega
        clear hu hb1
        go_wp2
        all_goals go_ret
        all_goals exact ⟨rfl, HB1w.out⟩
      · have HB1 : Hid (Below W.heap.size W w1) := HBz.out.trans (hb1.mono HBz.out.size)
        have HN2 : Hid (∀ j e, j < i + 1 → ends14[j]? = some e → ∀ u, escB u ≠ s.data.toList ++ e) := fun j e' hj he' u' hu' => by
          by_cases hji : j = i
          · subst hji
            rw [HE.out] at he'
            cases he'
            exact hu u' hu'
          · exact HNo.out j e' (by omega) he' u' hu'
        clear hu hb1
        go_wp2
        go_roundw
        case rel => exact ⟨i + 1, by omega, by go_num, HB1.out, HN2.out⟩
        case measure => simp [intOf]; omega
    · have hi' : i = 14 := by omega
      subst hi'
      have hr : b = false := HH2.out (fun e he u hu => by
        obtain ⟨j, hj, hje⟩ := List.getElem_of_mem he
        exact HNo.out j e hj (by rw [List.getElem?_eq_getElem hj, hje]) u hu)
      subst hr
      clear hb hno
      go_wp2
      all_goals go_ret
      all_goals exact ⟨rfl, HBw.out⟩

/-- Where the walk stands behind a line. -/
def nextK (p c : Int) : Int := if p = 0 ∧ c = 1 ∨ p = 1 ∧ c = 4 then 0 else if p = 0 ∧ c = 2 ∨ p = 1 ∧ c = 3 then 1 else if p = 0 ∧ c = 5 then 2 else -1
theorem next_any (p c : Int) (w : World) : Calls Tryz.prog 21 #[.int .i64 p, .int .i64 c] w fun e w' => e = .returned (.int .i64 (nextK p c)) ∧ w = w' := by
  have HC : Hid (nextK p c = if p = 0 ∧ c = 1 ∨ p = 1 ∧ c = 4 then 0 else if p = 0 ∧ c = 2 ∨ p = 1 ∧ c = 3 then 1 else if p = 0 ∧ c = 5 then 2 else -1) := rfl
  obtain ⟨x, hx⟩ : ∃ x, nextK p c = x := ⟨_, rfl⟩
  rw [hx] at HC ⊢
  clear hx
  go_enter Tryz.func21, Tryz.ntmps21
  go_wp2
  all_goals go_ret
  all_goals refine ⟨?_, rfl⟩
  all_goals rw [HC.out]
  all_goals simp_all

theorem nameBegins_any (s : ByteArray) (hs : s.size ≤ 1048576) (w : World) : Calls Tryz.prog 116 #[.string s] w fun e w' => e = .returned (.bool (begF fName s.data.toList)) ∧ w = w' := by
  rw [beg_name, show str s.data.toList = s from rfl]
  have hx : str (s.data.toList ++ [120]) = s ++ ⟨#[120]⟩ := by
    apply congrArg ByteArray.mk
    simp
  rw [hx]
  have HN1 : Hid (∀ W, Calls Tryz.prog 152 #[.string s] W fun e w' => e = .returned (.bool (nameB s)) ∧ W = w') := fun W => refIsName_any s W (by unfold maxLen; omega)
  have HN2 : Hid (∀ W, Calls Tryz.prog 152 #[.string (s ++ ⟨#[120]⟩)] W fun e w' => e = .returned (.bool (nameB (s ++ ⟨#[120]⟩))) ∧ W = w') := fun W => refIsName_any _ W (by unfold maxLen; rw [ByteArray.size_append]; have : (⟨#[120]⟩ : ByteArray).size = 1 := rfl; omega)
  obtain ⟨a, ha⟩ : ∃ a, nameB s = a := ⟨_, rfl⟩
  obtain ⟨b, hb⟩ : ∃ b, nameB (s ++ ⟨#[120]⟩) = b := ⟨_, rfl⟩
  rw [ha] at HN1 ⊢
  rw [hb] at HN2 ⊢
  clear ha hb hx
  cases a
  · go_enter Tryz.func116, Tryz.ntmps116
    go_wp2_with fail
    refine (HN1.out _).mono ?_
    rintro e w1 ⟨rfl, rfl⟩
    go_wp2_with fail
    refine (HN2.out _).mono ?_
    rintro e w1 ⟨rfl, rfl⟩
    go_wp2
    all_goals go_ret
    all_goals exact ⟨rfl, rfl⟩
  · go_enter Tryz.func116, Tryz.ntmps116
    go_wp2_with fail
    refine (HN1.out _).mono ?_
    rintro e w1 ⟨rfl, rfl⟩
    go_wp2
    all_goals go_ret
    all_goals exact ⟨rfl, rfl⟩

end Go.Proofs.YtplolaondmeccaaGreatDoor

namespace Go.Proofs.YtplolaondmeccaaGreatDoor
open Go.RowKit
set_option linter.unusedVariables false

theorem trim_all : ∀ l : List UInt8, (∀ c ∈ l, c ∈ planSet) → (Lib.trimLeftS l planSet).isEmpty = true
  | [], _ => rfl
  | a :: l, h => by
    have ha : planSet.contains a = true := by simpa using h a (by simp)
    have e : Lib.trimLeftS (a :: l) planSet = Lib.trimLeftS l planSet := List.dropWhile_cons_of_pos (p := fun c => planSet.contains c) ha
    rw [e]
    exact trim_all l fun c hc => h c (List.mem_cons_of_mem _ hc)
theorem planOk_chars (l : List UInt8) : planOk l = true ↔ (1 ≤ l.length ∧ l.length ≤ 2048 ∧ ∀ c ∈ l, c ∈ planSet) := by
  unfold planOk
  simp only [Bool.and_eq_true, Bool.not_eq_true', decide_eq_true_eq]
  constructor
  · rintro ⟨h1, h2, h3⟩
    exact ⟨by cases l with | nil => cases h1 | cons _ _ => simp, h2, trim_nb l h3⟩
  · rintro ⟨h1, h2, h3⟩
    refine ⟨by cases l with | nil => simp at h1 | cons _ _ => rfl, h2, ?_⟩
    exact trim_all l h3

theorem plan_byte : ∀ n : Nat, n < 256 → (UInt8.ofNat n ∈ planSet ↔ (48 ≤ n ∧ n ≤ 57 ∨ 97 ≤ n ∧ n ≤ 102 ∨ n = 120 ∨ n = 44 ∨ n = 123 ∨ n = 125 ∨ n = 91 ∨ n = 93)) := by decide +kernel
theorem plan_byte' (c : UInt8) : c ∈ planSet ↔ (48 ≤ c.toNat ∧ c.toNat ≤ 57 ∨ 97 ≤ c.toNat ∧ c.toNat ≤ 102 ∨ c.toNat = 120 ∨ c.toNat = 44 ∨ c.toNat = 123 ∨ c.toNat = 125 ∨ c.toNat = 91 ∨ c.toNat = 93) := by
  have := plan_byte c.toNat (UInt8.toNat_lt c)
  rwa [UInt8.ofNat_toNat] at this

set_option maxHeartbeats 4000000 in
theorem planText_any (s : ByteArray) (hs : s.size ≤ 140737488355328) (w : World) :
    Calls Tryz.prog 118 #[.string s] w fun e w' => e = .returned (.bool (planOk s.data.toList)) ∧ w = w' := by
  by_cases h0 : s.size < 1
  · have HP : Hid (planOk s.data.toList = false) := by
      show _ = _
      rw [Bool.eq_false_iff]
      intro h
      have := (planOk_chars _).1 h
      rw [size_data] at this
      omega
    rw [HP.out]
    go_enter Tryz.func118, Tryz.ntmps118
    go_wp2
    all_goals go_ret
    all_goals exact ⟨rfl, rfl⟩
  · by_cases h1 : 2048 < s.size
    · have HP : Hid (planOk s.data.toList = false) := by
        show _ = _
        rw [Bool.eq_false_iff]
        intro h
        have := (planOk_chars _).1 h
        rw [size_data] at this
        omega
      rw [HP.out]
      go_enter Tryz.func118, Tryz.ntmps118
      go_wp2
      all_goals go_ret
      all_goals exact ⟨rfl, rfl⟩
    · go_enter Tryz.func118, Tryz.ntmps118
      go_wp2
      go_loop [3] (fun i => ∃ k : Nat, k ≤ s.size ∧ i = .int .i64 k ∧ ∀ j (hj : j < s.size), j < k → s[j] ∈ planSet) (fun i => s.size - (intOf i).toNat)
      case atStart => exact ⟨0, Nat.zero_le _, rfl, fun j _ h => by omega⟩
      case round =>
        obtain ⟨k, hk, rfl, hno⟩ := hrel
        have HN : Hid (∀ j (hj : j < s.size), j < k → s[j] ∈ planSet) := hno
        clear hno
        by_cases hlt : k < s.size
        · by_cases hb : s[k] ∈ planSet
          · have HB : Hid (s[k] ∈ planSet) := hb
            have HQ : Hid _ := (plan_byte' s[k]).1 hb
            clear hb
            go_wp2
            all_goals first
              | (go_round
                 case rel =>
                   refine ⟨k + 1, by omega, by go_num, fun j hj h => ?_⟩
                   by_cases hjk : j = k
                   · subst hjk; exact HB.out
                   · exact HN.out j hj (by omega)
                 case measure => simp [intOf]; omega)
              | (exfalso; have hq := HQ.out; simp only [Bool.not_eq_true', decide_eq_false_iff_not, beq_eq_false_iff_ne, ne_eq] at *; omega)
          · have HQ : Hid (¬ (48 ≤ s[k].toNat ∧ s[k].toNat ≤ 57 ∨ 97 ≤ s[k].toNat ∧ s[k].toNat ≤ 102 ∨ s[k].toNat = 120 ∨ s[k].toNat = 44 ∨ s[k].toNat = 123 ∨ s[k].toNat = 125 ∨ s[k].toNat = 91 ∨ s[k].toNat = 93)) := fun h => hb ((plan_byte' s[k]).2 h)
            have HP : Hid (planOk s.data.toList = false) := by
              show _ = _
              rw [Bool.eq_false_iff]
              intro h
              exact hb (((planOk_chars _).1 h).2.2 _ (byte_mem s k hlt))
            clear hb
            go_wp2
            all_goals first
              | (go_ret; exact ⟨ret_bool HP.out.symm, rfl⟩)
              | (go_ret2; exact ⟨ret_bool HP.out.symm, rfl⟩)
              | (exfalso; have hq := HQ.out; simp only [Bool.not_eq_false', decide_eq_true_eq, beq_iff_eq] at *; omega)
        · have HP : Hid (planOk s.data.toList = true) := by
            show _ = _
            rw [planOk_chars, size_data]
            refine ⟨by omega, by omega, fun c hc => ?_⟩
            obtain ⟨j, hj, rfl⟩ := List.getElem_of_mem hc
            have hj' : j < s.size := by rw [← size_data]; exact hj
            exact HN.out j hj' (by omega)
          go_wp2
          all_goals go_ret
          all_goals exact ⟨ret_bool HP.out.symm, rfl⟩

theorem count_any (n m : Int) (w : World) (h0 : -9223372036854775808 ≤ n) (h1 : n ≤ 9223372036854775807) :
    Calls Tryz.prog 166 #[.int .i64 n, .int .i64 m] w fun e w' => e = .returned (.string (str (if m < n then [] else putL n))) ∧ Below w.heap.size w w' := by
  by_cases h : m < n
  · rw [if_pos h]
    go_enter Tryz.func166, Tryz.ntmps166
    go_wp2
    all_goals go_ret
    all_goals exact ⟨rfl, Below.refl _ _⟩
  · rw [if_neg h]
    go_enter Tryz.func166, Tryz.ntmps166
    go_wp2_with (go_at_call 148; refine (refPutNumber_any n _ h0 h1).mono ?_; rintro e w2 ⟨rfl, hb2⟩)
    all_goals go_ret
    all_goals exact ⟨rfl, hb2⟩

end Go.Proofs.YtplolaondmeccaaGreatDoor

namespace Go.Proofs.YtplolaondmeccaaGreatDoor
open Go.RowKit
set_option linter.unusedVariables false

/-- A number is read, up to a bound. -/
theorem num_is (m : Int) (f : NF) {l : List UInt8} {n : Int} (h : Num l n) : ((fNum m f).read l).isSome = decide (n ≤ m) := by
  show ((numOf l).bind fun n => if n ≤ m then some (f.set n) else none).isSome = _
  rw [numOf_some h]
  show (if n ≤ m then some (f.set n) else none).isSome = _
  by_cases hm : n ≤ m
  · rw [if_pos hm, decide_eq_true hm]; rfl
  · rw [if_neg hm, decide_eq_false hm]; rfl
theorem num_not (m : Int) (f : NF) {l : List UInt8} (h : ∀ n, ¬ Num l n) : ((fNum m f).read l).isSome = false := by
  show ((numOf l).bind fun n => if n ≤ m then some (f.set n) else none).isSome = _
  rw [numOf_none h]
  rfl
theorem id_not {c : UInt8} (f : NF) {l : List UInt8} (h : ∀ n, ¬ IsId c l n) : ((fId c f).read l).isSome = false := by
  show ((idOf c l).map f.set).isSome = _
  rw [idOf_none h]
  rfl
theorem word_is (s : ByteArray) : (fWord.read s.data.toList).isSome = (nameB s && !has s 32) := by
  have : str s.data.toList = s := rfl
  show (if nameB (str s.data.toList) && !has (str s.data.toList) 32 then some (fun e : Ev => { e with name := str s.data.toList }) else none).isSome = _
  rw [this]
  cases h : (nameB s && !has s 32) <;> rfl
theorem plan_is (f : PF) (l : List UInt8) : ((fPlan f).read l).isSome = planOk l := by
  cases h : planOk l
  · simp [fPlan, h]
  · simp [fPlan, h]

theorem is_qt (s : ByteArray) (hs : s.size ≤ 1048576) (w : World) : Calls Tryz.prog 69 #[.string s, .int .u8 116] w fun e w' => e = .returned (.bool ((fNum maxN .tick).read s.data.toList).isSome) ∧ Below w.heap.size w w' := by
  have HN := refNumber_any s w (by omega)
  obtain ⟨r, hr⟩ : ∃ r, ((fNum maxN .tick).read s.data.toList).isSome = r := ⟨_, rfl⟩
  have HR : Hid (((fNum maxN .tick).read s.data.toList).isSome = r) := hr
  rw [hr]
  clear hr
  go_enter Tryz.func69, Tryz.ntmps69
  go_wp2_with fail
  refine HN.mono ?_
  rintro e w1 ⟨⟨n, rfl, hn⟩ | ⟨rfl, hn⟩, hb⟩
  · have hr : r = true := HR.out ▸ num_yes hn hn.1.2
    subst hr
    clear hn HR
    go_wp2
    all_goals go_ret
    all_goals exact ⟨rfl, hb⟩
  · have hr : r = false := HR.out ▸ num_not maxN .tick hn
    subst hr
    clear hn HR
    go_wp2
    all_goals go_ret
    all_goals exact ⟨rfl, hb⟩

theorem is_qn (s : ByteArray) (hs : s.size ≤ 1048576) (w : World) : Calls Tryz.prog 69 #[.string s, .int .u8 110] w fun e w' => e = .returned (.bool ((fNum maxN .number).read s.data.toList).isSome) ∧ Below w.heap.size w w' := by
  have HN := refNumber_any s w (by omega)
  obtain ⟨r, hr⟩ : ∃ r, ((fNum maxN .number).read s.data.toList).isSome = r := ⟨_, rfl⟩
  have HR : Hid (((fNum maxN .number).read s.data.toList).isSome = r) := hr
  rw [hr]
  clear hr
  go_enter Tryz.func69, Tryz.ntmps69
  go_wp2_with fail
  refine HN.mono ?_
  rintro e w1 ⟨⟨n, rfl, hn⟩ | ⟨rfl, hn⟩, hb⟩
  · have hr : r = true := HR.out ▸ num_yes hn hn.1.2
    subst hr
    clear hn HR
    go_wp2
    all_goals go_ret
    all_goals exact ⟨rfl, hb⟩
  · have hr : r = false := HR.out ▸ num_not maxN .number hn
    subst hr
    clear hn HR
    go_wp2
    all_goals go_ret
    all_goals exact ⟨rfl, hb⟩

theorem is_qo (s : ByteArray) (hs : s.size ≤ 1048576) (w : World) : Calls Tryz.prog 69 #[.string s, .int .u8 111] w fun e w' => e = .returned (.bool ((fNum maxN .offset).read s.data.toList).isSome) ∧ Below w.heap.size w w' := by
  have HN := refNumber_any s w (by omega)
  obtain ⟨r, hr⟩ : ∃ r, ((fNum maxN .offset).read s.data.toList).isSome = r := ⟨_, rfl⟩
  have HR : Hid (((fNum maxN .offset).read s.data.toList).isSome = r) := hr
  rw [hr]
  clear hr
  go_enter Tryz.func69, Tryz.ntmps69
  go_wp2_with fail
  refine HN.mono ?_
  rintro e w1 ⟨⟨n, rfl, hn⟩ | ⟨rfl, hn⟩, hb⟩
  · have hr : r = true := HR.out ▸ num_yes hn hn.1.2
    subst hr
    clear hn HR
    go_wp2
    all_goals go_ret
    all_goals exact ⟨rfl, hb⟩
  · have hr : r = false := HR.out ▸ num_not maxN .offset hn
    subst hr
    clear hn HR
    go_wp2
    all_goals go_ret
    all_goals exact ⟨rfl, hb⟩

theorem is_qf (s : ByteArray) (hs : s.size ≤ 1048576) (w : World) : Calls Tryz.prog 69 #[.string s, .int .u8 102] w fun e w' => e = .returned (.bool ((fNum 1 .flag).read s.data.toList).isSome) ∧ Below w.heap.size w w' := by
  have HN := refNumber_any s w (by omega)
  obtain ⟨r, hr⟩ : ∃ r, ((fNum 1 .flag).read s.data.toList).isSome = r := ⟨_, rfl⟩
  have HR : Hid (((fNum 1 .flag).read s.data.toList).isSome = r) := hr
  rw [hr]
  clear hr
  go_enter Tryz.func69, Tryz.ntmps69
  go_wp2_with fail
  refine HN.mono ?_
  rintro e w1 ⟨⟨n, rfl, hn⟩ | ⟨rfl, hn⟩, hb⟩
  · have hd := (HR.out.symm.trans (num_is 1 .flag hn))
    clear hn HR
    subst hd
    go_wp2
    all_goals go_ret
    all_goals exact ⟨rfl, hb⟩
  · have hr : r = false := HR.out ▸ num_not 1 .flag hn
    subst hr
    clear hn HR
    go_wp2
    all_goals go_ret
    all_goals exact ⟨rfl, hb⟩

theorem is_qi (s : ByteArray) (hs : s.size ≤ 1048576) (w : World) : Calls Tryz.prog 69 #[.string s, .int .u8 105] w fun e w' => e = .returned (.bool ((fNum 9999 .index).read s.data.toList).isSome) ∧ Below w.heap.size w w' := by
  have HN := refNumber_any s w (by omega)
  obtain ⟨r, hr⟩ : ∃ r, ((fNum 9999 .index).read s.data.toList).isSome = r := ⟨_, rfl⟩
  have HR : Hid (((fNum 9999 .index).read s.data.toList).isSome = r) := hr
  rw [hr]
  clear hr
  go_enter Tryz.func69, Tryz.ntmps69
  go_wp2_with fail
  refine HN.mono ?_
  rintro e w1 ⟨⟨n, rfl, hn⟩ | ⟨rfl, hn⟩, hb⟩
  · have hd := (HR.out.symm.trans (num_is 9999 .index hn))
    clear hn HR
    subst hd
    go_wp2
    all_goals go_ret
    all_goals exact ⟨rfl, hb⟩
  · have hr : r = false := HR.out ▸ num_not 9999 .index hn
    subst hr
    clear hn HR
    go_wp2
    all_goals go_ret
    all_goals exact ⟨rfl, hb⟩

theorem is_qs (s : ByteArray) (hs : s.size ≤ 1048576) (w : World) : Calls Tryz.prog 69 #[.string s, .int .u8 115] w fun e w' => e = .returned (.bool ((fId 36 .session).read s.data.toList).isSome) ∧ Below w.heap.size w w' := by
  have HN := refNumber_any s w (by omega)
  obtain ⟨r, hr⟩ : ∃ r, ((fId 36 .session).read s.data.toList).isSome = r := ⟨_, rfl⟩
  have HR : Hid (((fId 36 .session).read s.data.toList).isSome = r) := hr
  rw [hr]
  clear hr
  have HI : Hid (∀ W, Calls Tryz.prog 111 #[.int .u8 36, .string s] W fun e w' =>
      ((∃ n, e = .returned (.tuple #[.int .i64 n, .bool true]) ∧ IsId 36 s.data.toList n) ∨ (e = .returned (.tuple #[.int .i64 0, .bool false]) ∧ ∀ n, ¬ IsId 36 s.data.toList n)) ∧ Below W.heap.size W w') := fun W => refId_any 36 s W (by omega)
  go_enter Tryz.func69, Tryz.ntmps69
  go_wp2_with fail
  refine HN.mono ?_
  rintro e w1 ⟨h, hb⟩
  have HB : Hid (Below w.heap.size w w1) := hb
  obtain ⟨n, ok, rfl⟩ : ∃ n ok, e = .returned (.tuple #[.int .i64 n, .bool ok]) := by
    rcases h with ⟨n, rfl, _⟩ | ⟨rfl, _⟩
    · exact ⟨_, _, rfl⟩
    · exact ⟨_, _, rfl⟩
  clear h hb HN
  go_wp2_with fail
  refine (HI.out _).mono ?_
  rintro e w2 ⟨⟨n2, rfl, hn⟩ | ⟨rfl, hn⟩, hb2⟩
  · have hr : r = true := HR.out ▸ id_yes hn
    have HB2 : Hid (Below w.heap.size w w2) := below_step HB.out hb2
    subst hr
    clear hn hb2 HR
    go_wp2
    all_goals go_ret
    all_goals exact ⟨rfl, HB2.out⟩
  · have hr : r = false := HR.out ▸ id_not .session hn
    have HB2 : Hid (Below w.heap.size w w2) := below_step HB.out hb2
    subst hr
    clear hn hb2 HR
    go_wp2
    all_goals go_ret
    all_goals exact ⟨rfl, HB2.out⟩

theorem is_qw (s : ByteArray) (hs : s.size ≤ 1048576) (w : World) : Calls Tryz.prog 69 #[.string s, .int .u8 119] w fun e w' => e = .returned (.bool ((fId 64 .window).read s.data.toList).isSome) ∧ Below w.heap.size w w' := by
  have HN := refNumber_any s w (by omega)
  obtain ⟨r, hr⟩ : ∃ r, ((fId 64 .window).read s.data.toList).isSome = r := ⟨_, rfl⟩
  have HR : Hid (((fId 64 .window).read s.data.toList).isSome = r) := hr
  rw [hr]
  clear hr
  have HI : Hid (∀ W, Calls Tryz.prog 111 #[.int .u8 64, .string s] W fun e w' =>
      ((∃ n, e = .returned (.tuple #[.int .i64 n, .bool true]) ∧ IsId 64 s.data.toList n) ∨ (e = .returned (.tuple #[.int .i64 0, .bool false]) ∧ ∀ n, ¬ IsId 64 s.data.toList n)) ∧ Below W.heap.size W w') := fun W => refId_any 64 s W (by omega)
  go_enter Tryz.func69, Tryz.ntmps69
  go_wp2_with fail
  refine HN.mono ?_
  rintro e w1 ⟨h, hb⟩
  have HB : Hid (Below w.heap.size w w1) := hb
  obtain ⟨n, ok, rfl⟩ : ∃ n ok, e = .returned (.tuple #[.int .i64 n, .bool ok]) := by
    rcases h with ⟨n, rfl, _⟩ | ⟨rfl, _⟩
    · exact ⟨_, _, rfl⟩
    · exact ⟨_, _, rfl⟩
  clear h hb HN
  go_wp2_with fail
  refine (HI.out _).mono ?_
  rintro e w2 ⟨⟨n2, rfl, hn⟩ | ⟨rfl, hn⟩, hb2⟩
  · have hr : r = true := HR.out ▸ id_yes hn
    have HB2 : Hid (Below w.heap.size w w2) := below_step HB.out hb2
    subst hr
    clear hn hb2 HR
    go_wp2
    all_goals go_ret
    all_goals exact ⟨rfl, HB2.out⟩
  · have hr : r = false := HR.out ▸ id_not .window hn
    have HB2 : Hid (Below w.heap.size w w2) := below_step HB.out hb2
    subst hr
    clear hn hb2 HR
    go_wp2
    all_goals go_ret
    all_goals exact ⟨rfl, HB2.out⟩

theorem is_qp (s : ByteArray) (hs : s.size ≤ 1048576) (w : World) : Calls Tryz.prog 69 #[.string s, .int .u8 112] w fun e w' => e = .returned (.bool ((fId 37 .pane).read s.data.toList).isSome) ∧ Below w.heap.size w w' := by
  have HN := refNumber_any s w (by omega)
  obtain ⟨r, hr⟩ : ∃ r, ((fId 37 .pane).read s.data.toList).isSome = r := ⟨_, rfl⟩
  have HR : Hid (((fId 37 .pane).read s.data.toList).isSome = r) := hr
  rw [hr]
  clear hr
  have HI : Hid (∀ W, Calls Tryz.prog 111 #[.int .u8 37, .string s] W fun e w' =>
      ((∃ n, e = .returned (.tuple #[.int .i64 n, .bool true]) ∧ IsId 37 s.data.toList n) ∨ (e = .returned (.tuple #[.int .i64 0, .bool false]) ∧ ∀ n, ¬ IsId 37 s.data.toList n)) ∧ Below W.heap.size W w') := fun W => refId_any 37 s W (by omega)
  go_enter Tryz.func69, Tryz.ntmps69
  go_wp2_with fail
  refine HN.mono ?_
  rintro e w1 ⟨h, hb⟩
  have HB : Hid (Below w.heap.size w w1) := hb
  obtain ⟨n, ok, rfl⟩ : ∃ n ok, e = .returned (.tuple #[.int .i64 n, .bool ok]) := by
    rcases h with ⟨n, rfl, _⟩ | ⟨rfl, _⟩
    · exact ⟨_, _, rfl⟩
    · exact ⟨_, _, rfl⟩
  clear h hb HN
  go_wp2_with fail
  refine (HI.out _).mono ?_
  rintro e w2 ⟨⟨n2, rfl, hn⟩ | ⟨rfl, hn⟩, hb2⟩
  · have hr : r = true := HR.out ▸ id_yes hn
    have HB2 : Hid (Below w.heap.size w w2) := below_step HB.out hb2
    subst hr
    clear hn hb2 HR
    go_wp2
    all_goals go_ret
    all_goals exact ⟨rfl, HB2.out⟩
  · have hr : r = false := HR.out ▸ id_not .pane hn
    have HB2 : Hid (Below w.heap.size w w2) := below_step HB.out hb2
    subst hr
    clear hn hb2 HR
    go_wp2
    all_goals go_ret
    all_goals exact ⟨rfl, HB2.out⟩

theorem is_qW (s : ByteArray) (hs : s.size ≤ 1048576) (w : World) : Calls Tryz.prog 69 #[.string s, .int .u8 87] w fun e w' => e = .returned (.bool (fWord.read s.data.toList).isSome) ∧ Below w.heap.size w w' := by
  have HN := refNumber_any s w (by omega)
  rw [word_is s]
  obtain ⟨v, hv⟩ : ∃ v, (nameB s && !has s 32) = v := ⟨_, rfl⟩
  have HI : Hid (∀ W, Calls Tryz.prog 117 #[.string s] W fun e w' => e = .returned (.bool v) ∧ W = w') := fun W => hv ▸ refIsWord_any s W (by unfold maxLen; omega)
  rw [hv]
  clear hv
  go_enter Tryz.func69, Tryz.ntmps69
  go_wp2_with fail
  refine HN.mono ?_
  rintro e w1 ⟨h, hb⟩
  have HB : Hid (Below w.heap.size w w1) := hb
  obtain ⟨n, ok, rfl⟩ : ∃ n ok, e = .returned (.tuple #[.int .i64 n, .bool ok]) := by
    rcases h with ⟨n, rfl, _⟩ | ⟨rfl, _⟩
    · exact ⟨_, _, rfl⟩
    · exact ⟨_, _, rfl⟩
  clear h hb HN
  go_wp2_with fail
  refine (HI.out _).mono ?_
  rintro e w2 ⟨rfl, rfl⟩
  go_wp2
  all_goals go_ret
  all_goals exact ⟨rfl, HB.out⟩

theorem is_qP (s : ByteArray) (hs : s.size ≤ 1048576) (w : World) : Calls Tryz.prog 69 #[.string s, .int .u8 80] w fun e w' => e = .returned (.bool ((fPlan .layout).read s.data.toList).isSome) ∧ Below w.heap.size w w' := by
  have HN := refNumber_any s w (by omega)
  rw [plan_is .layout s.data.toList]
  obtain ⟨v, hv⟩ : ∃ v, (planOk s.data.toList) = v := ⟨_, rfl⟩
  have HI : Hid (∀ W, Calls Tryz.prog 118 #[.string s] W fun e w' => e = .returned (.bool v) ∧ W = w') := fun W => hv ▸ planText_any s (by omega) W
  rw [hv]
  clear hv
  go_enter Tryz.func69, Tryz.ntmps69
  go_wp2_with fail
  refine HN.mono ?_
  rintro e w1 ⟨h, hb⟩
  have HB : Hid (Below w.heap.size w w1) := hb
  obtain ⟨n, ok, rfl⟩ : ∃ n ok, e = .returned (.tuple #[.int .i64 n, .bool ok]) := by
    rcases h with ⟨n, rfl, _⟩ | ⟨rfl, _⟩
    · exact ⟨_, _, rfl⟩
    · exact ⟨_, _, rfl⟩
  clear h hb HN
  go_wp2_with fail
  refine (HI.out _).mono ?_
  rintro e w2 ⟨rfl, rfl⟩
  go_wp2
  all_goals go_ret
  all_goals exact ⟨rfl, HB.out⟩

theorem is_qV (s : ByteArray) (hs : s.size ≤ 1048576) (w : World) : Calls Tryz.prog 69 #[.string s, .int .u8 86] w fun e w' => e = .returned (.bool ((fPlan .visible).read s.data.toList).isSome) ∧ Below w.heap.size w w' := by
  have HN := refNumber_any s w (by omega)
  rw [plan_is .visible s.data.toList]
  obtain ⟨v, hv⟩ : ∃ v, (planOk s.data.toList) = v := ⟨_, rfl⟩
  have HI : Hid (∀ W, Calls Tryz.prog 118 #[.string s] W fun e w' => e = .returned (.bool v) ∧ W = w') := fun W => hv ▸ planText_any s (by omega) W
  rw [hv]
  clear hv
  go_enter Tryz.func69, Tryz.ntmps69
  go_wp2_with fail
  refine HN.mono ?_
  rintro e w1 ⟨h, hb⟩
  have HB : Hid (Below w.heap.size w w1) := hb
  obtain ⟨n, ok, rfl⟩ : ∃ n ok, e = .returned (.tuple #[.int .i64 n, .bool ok]) := by
    rcases h with ⟨n, rfl, _⟩ | ⟨rfl, _⟩
    · exact ⟨_, _, rfl⟩
    · exact ⟨_, _, rfl⟩
  clear h hb HN
  go_wp2_with fail
  refine (HI.out _).mono ?_
  rintro e w2 ⟨rfl, rfl⟩
  go_wp2
  all_goals go_ret
  all_goals exact ⟨rfl, HB.out⟩

/-- The letters of whole things. -/
def Ch.whole : Ch → Bool
  | .qt | .qn | .qo | .qf | .qi | .qs | .qw | .qp | .qW | .qP | .qV => true
  | _ => false
theorem partIs_any (c : Ch) (hc : c.whole = true) (s : ByteArray) (hs : s.size ≤ 1048576) (w : World) : Calls Tryz.prog 69 #[.string s, .int .u8 (c.byte.toNat : Int)] w fun e w' => e = .returned (.bool (c.F.read s.data.toList).isSome) ∧ Below w.heap.size w w' := by
  cases c
  · exact is_qt s hs w
  · exact is_qn s hs w
  · exact is_qf s hs w
  · exact is_qo s hs w
  · exact is_qi s hs w
  · exact is_qs s hs w
  · exact is_qw s hs w
  · exact is_qp s hs w
  · cases hc
  · exact is_qW s hs w
  · exact is_qP s hs w
  · exact is_qV s hs w
  · cases hc
  · cases hc
  · cases hc
  · cases hc
  · cases hc
  · cases hc

end Go.Proofs.YtplolaondmeccaaGreatDoor

namespace Go.Proofs.YtplolaondmeccaaGreatDoor
open Go.RowKit
set_option linter.unusedVariables false

theorem beg_nil (c : Ch) : c.beg [] = true := by
  have hn : ∀ m (hm : (0 : Int) ≤ m) f, begF (fNum m f) [] = true := fun m hm f => cuts_num m hm f [48] [] (num_yes num_48 hm) List.nil_prefix
  have hi : ∀ c f, [c, 49] ∈ Lib.fields [c, 49, 32, 49] → begF (fId c f) [] = true := fun c f h => begF_end h (id_yes (n := 1) ⟨[49], rfl, num_49, by decide⟩)
  have he : ∀ lo hi, lo ≤ 1 → 1 ≤ hi → begF (fEsc lo hi) [] = true := fun lo hi h1 h2 => cuts_esc lo hi h1 h2 (esc [52]) [] (esc_yes (by simpa using h1) (by simpa using h2)) List.nil_prefix
  have hc : begF fColon [] = true := begF_end (e := [58]) (by show [58] ∈ Lib.fields [58]; decide) rfl
  cases c
  · exact hn _ (by decide) _
  · exact hn _ (by decide) _
  · exact hn _ (by decide) _
  · exact hn _ (by decide) _
  · exact hn _ (by decide) _
  · exact hi 36 _ (by decide)
  · exact hi 64 _ (by decide)
  · exact hi 37 _ (by decide)
  · exact cuts_name [97] [] (name_yes (by decide)) List.nil_prefix
  · exact cuts_word [97] [] (word_yes (by decide) (by decide)) List.nil_prefix
  · exact cuts_plan _ [48] [] (plan_yes (by decide)) List.nil_prefix
  · exact cuts_plan _ [48] [] (plan_yes (by decide)) List.nil_prefix
  · exact cuts_zoom [45] [] rfl List.nil_prefix
  · exact he _ _ (by decide) (by decide)
  · exact hc
  · exact he _ _ (by decide) (by decide)
  · exact he _ _ (by decide) (by decide)
  · exact hc

theorem empty_is {s : ByteArray} (h : s.size = 0) : s = ⟨#[]⟩ := ByteArray.size_eq_zero_iff.1 h
theorem list_ne {s : ByteArray} (h : ¬ s.size = 0) : s.data.toList ≠ [] := by
  intro e
  have := size_data s
  rw [e] at this
  simp at this
  omega
theorem one_back (c : UInt8) (X : World) : (convert 79 9 (.slice (some ⟨X.heap.size, 0, none⟩) 1 1)).run Tryz.prog (X.alloc (.cells #[.int .u8 c.toNat] 5)) = .ok (.string (str [c])) (X.alloc (.cells #[.int .u8 c.toNat] 5)) :=
  run_convert_bytes_back (P := Tryz.prog) _ 79 9 5 ⟨X.heap.size, 0, none⟩ 1 [c] Tryz.underlying79 Tryz.underlying5 Tryz.underlying9 (one_cell X c 5)
theorem toList_is (s : ByteArray) (l : List UInt8) : (s.toList == l) = decide (s.data.toList = l) := by
  rw [Lib.toList_data]
  by_cases h : s.data.toList = l
  · rw [h]; simp
  · rw [decide_eq_false h]; simpa using h

theorem beg_qt (s : ByteArray) (hs : s.size ≤ 1048576) (h0 : ¬ s.size = 0) (w : World) : Calls Tryz.prog 68 #[.string s, .int .u8 116] w fun e w' => e = .returned (.bool (Ch.qt.beg s.data.toList)) ∧ Below w.heap.size w w' := by
  obtain ⟨hne, hne'⟩ := toList_neN h0
  have hl0 := list_ne h0
  have HI : Hid (∀ W, Calls Tryz.prog 69 #[.string s, .int .u8 116] W fun e w' => e = .returned (.bool (Ch.qt.beg s.data.toList)) ∧ Below W.heap.size W w') := fun W => by
    have := is_qt s hs W
    rw [← beg_num maxN .tick hl0] at this
    exact this
  go_enter Tryz.func68, Tryz.ntmps68
  go_wp2_with fail
  refine (HI.out _).mono ?_
  rintro e w1 ⟨rfl, hb⟩
  go_wp2
  all_goals go_ret
  all_goals exact ⟨rfl, hb⟩

theorem beg_qn (s : ByteArray) (hs : s.size ≤ 1048576) (h0 : ¬ s.size = 0) (w : World) : Calls Tryz.prog 68 #[.string s, .int .u8 110] w fun e w' => e = .returned (.bool (Ch.qn.beg s.data.toList)) ∧ Below w.heap.size w w' := by
  obtain ⟨hne, hne'⟩ := toList_neN h0
  have hl0 := list_ne h0
  have HI : Hid (∀ W, Calls Tryz.prog 69 #[.string s, .int .u8 110] W fun e w' => e = .returned (.bool (Ch.qn.beg s.data.toList)) ∧ Below W.heap.size W w') := fun W => by
    have := is_qn s hs W
    rw [← beg_num maxN .number hl0] at this
    exact this
  go_enter Tryz.func68, Tryz.ntmps68
  go_wp2_with fail
  refine (HI.out _).mono ?_
  rintro e w1 ⟨rfl, hb⟩
  go_wp2
  all_goals go_ret
  all_goals exact ⟨rfl, hb⟩

theorem beg_qo (s : ByteArray) (hs : s.size ≤ 1048576) (h0 : ¬ s.size = 0) (w : World) : Calls Tryz.prog 68 #[.string s, .int .u8 111] w fun e w' => e = .returned (.bool (Ch.qo.beg s.data.toList)) ∧ Below w.heap.size w w' := by
  obtain ⟨hne, hne'⟩ := toList_neN h0
  have hl0 := list_ne h0
  have HI : Hid (∀ W, Calls Tryz.prog 69 #[.string s, .int .u8 111] W fun e w' => e = .returned (.bool (Ch.qo.beg s.data.toList)) ∧ Below W.heap.size W w') := fun W => by
    have := is_qo s hs W
    rw [← beg_num maxN .offset hl0] at this
    exact this
  go_enter Tryz.func68, Tryz.ntmps68
  go_wp2_with fail
  refine (HI.out _).mono ?_
  rintro e w1 ⟨rfl, hb⟩
  go_wp2
  all_goals go_ret
  all_goals exact ⟨rfl, hb⟩

theorem beg_qf (s : ByteArray) (hs : s.size ≤ 1048576) (h0 : ¬ s.size = 0) (w : World) : Calls Tryz.prog 68 #[.string s, .int .u8 102] w fun e w' => e = .returned (.bool (Ch.qf.beg s.data.toList)) ∧ Below w.heap.size w w' := by
  obtain ⟨hne, hne'⟩ := toList_neN h0
  have hl0 := list_ne h0
  have HI : Hid (∀ W, Calls Tryz.prog 69 #[.string s, .int .u8 102] W fun e w' => e = .returned (.bool (Ch.qf.beg s.data.toList)) ∧ Below W.heap.size W w') := fun W => by
    have := is_qf s hs W
    rw [← beg_num 1 .flag hl0] at this
    exact this
  go_enter Tryz.func68, Tryz.ntmps68
  go_wp2_with fail
  refine (HI.out _).mono ?_
  rintro e w1 ⟨rfl, hb⟩
  go_wp2
  all_goals go_ret
  all_goals exact ⟨rfl, hb⟩

theorem beg_qi (s : ByteArray) (hs : s.size ≤ 1048576) (h0 : ¬ s.size = 0) (w : World) : Calls Tryz.prog 68 #[.string s, .int .u8 105] w fun e w' => e = .returned (.bool (Ch.qi.beg s.data.toList)) ∧ Below w.heap.size w w' := by
  obtain ⟨hne, hne'⟩ := toList_neN h0
  have hl0 := list_ne h0
  have HI : Hid (∀ W, Calls Tryz.prog 69 #[.string s, .int .u8 105] W fun e w' => e = .returned (.bool (Ch.qi.beg s.data.toList)) ∧ Below W.heap.size W w') := fun W => by
    have := is_qi s hs W
    rw [← beg_num 9999 .index hl0] at this
    exact this
  go_enter Tryz.func68, Tryz.ntmps68
  go_wp2_with fail
  refine (HI.out _).mono ?_
  rintro e w1 ⟨rfl, hb⟩
  go_wp2
  all_goals go_ret
  all_goals exact ⟨rfl, hb⟩

theorem beg_qW (s : ByteArray) (hs : s.size ≤ 1048576) (h0 : ¬ s.size = 0) (w : World) : Calls Tryz.prog 68 #[.string s, .int .u8 87] w fun e w' => e = .returned (.bool (Ch.qW.beg s.data.toList)) ∧ Below w.heap.size w w' := by
  obtain ⟨hne, hne'⟩ := toList_neN h0
  have hl0 := list_ne h0
  have HI : Hid (∀ W, Calls Tryz.prog 69 #[.string s, .int .u8 87] W fun e w' => e = .returned (.bool (Ch.qW.beg s.data.toList)) ∧ Below W.heap.size W w') := fun W => by
    have := is_qW s hs W
    rw [← beg_word hl0] at this
    exact this
  go_enter Tryz.func68, Tryz.ntmps68
  go_wp2_with fail
  refine (HI.out _).mono ?_
  rintro e w1 ⟨rfl, hb⟩
  go_wp2
  all_goals go_ret
  all_goals exact ⟨rfl, hb⟩

theorem beg_qP (s : ByteArray) (hs : s.size ≤ 1048576) (h0 : ¬ s.size = 0) (w : World) : Calls Tryz.prog 68 #[.string s, .int .u8 80] w fun e w' => e = .returned (.bool (Ch.qP.beg s.data.toList)) ∧ Below w.heap.size w w' := by
  obtain ⟨hne, hne'⟩ := toList_neN h0
  have hl0 := list_ne h0
  have HI : Hid (∀ W, Calls Tryz.prog 69 #[.string s, .int .u8 80] W fun e w' => e = .returned (.bool (Ch.qP.beg s.data.toList)) ∧ Below W.heap.size W w') := fun W => by
    have := is_qP s hs W
    rw [← beg_plan .layout hl0] at this
    exact this
  go_enter Tryz.func68, Tryz.ntmps68
  go_wp2_with fail
  refine (HI.out _).mono ?_
  rintro e w1 ⟨rfl, hb⟩
  go_wp2
  all_goals go_ret
  all_goals exact ⟨rfl, hb⟩

theorem beg_qV (s : ByteArray) (hs : s.size ≤ 1048576) (h0 : ¬ s.size = 0) (w : World) : Calls Tryz.prog 68 #[.string s, .int .u8 86] w fun e w' => e = .returned (.bool (Ch.qV.beg s.data.toList)) ∧ Below w.heap.size w w' := by
  obtain ⟨hne, hne'⟩ := toList_neN h0
  have hl0 := list_ne h0
  have HI : Hid (∀ W, Calls Tryz.prog 69 #[.string s, .int .u8 86] W fun e w' => e = .returned (.bool (Ch.qV.beg s.data.toList)) ∧ Below W.heap.size W w') := fun W => by
    have := is_qV s hs W
    rw [← beg_plan .visible hl0] at this
    exact this
  go_enter Tryz.func68, Tryz.ntmps68
  go_wp2_with fail
  refine (HI.out _).mono ?_
  rintro e w1 ⟨rfl, hb⟩
  go_wp2
  all_goals go_ret
  all_goals exact ⟨rfl, hb⟩

theorem beg_qs (s : ByteArray) (hs : s.size ≤ 1048576) (h0 : ¬ s.size = 0) (w : World) : Calls Tryz.prog 68 #[.string s, .int .u8 115] w fun e w' => e = .returned (.bool (Ch.qs.beg s.data.toList)) ∧ Below w.heap.size w w' := by
  obtain ⟨hne, hne'⟩ := toList_neN h0
  have hl0 := list_ne h0
  have hone := one_back 36 w
  rw [show str [36] = ⟨#[36]⟩ from rfl, show ((36 : UInt8).toNat : Int) = 36 from rfl] at hone
  obtain ⟨v, hv⟩ : ∃ v, ((fId 36 .session).read s.data.toList).isSome = v := ⟨_, rfl⟩
  have hbeg : Ch.qs.beg s.data.toList = (decide (s.data.toList = [36]) || v) := hv ▸ beg_id 36 .session (by decide) hl0
  have HI : Hid (∀ W, Calls Tryz.prog 69 #[.string s, .int .u8 115] W fun e w' => e = .returned (.bool v) ∧ Below W.heap.size W w') := fun W => hv ▸ is_qs s hs W
  have HB0 : Hid (Below w.heap.size w (w.alloc (.cells #[.int .u8 36] 5))) := below1 w _
  rw [hbeg]
  clear hbeg hv
  by_cases hc : s.data.toList = [36]
  · have hse : (s.toList == [36]) = true := by rw [toList_is, decide_eq_true hc]
    have hse2 : s.toList = [36] := by rw [Lib.toList_data]; exact hc
    rw [decide_eq_true hc, Bool.true_or]
    go_enter Tryz.func68, Tryz.ntmps68
    go_wp2
    all_goals go_ret
    all_goals exact ⟨rfl, HB0.out⟩
  · have hse : (s.toList == [36]) = false := by rw [toList_is, decide_eq_false hc]
    have hse2 : ¬ s.toList = [36] := by rw [Lib.toList_data]; exact hc
    rw [decide_eq_false hc, Bool.false_or]
    go_enter Tryz.func68, Tryz.ntmps68
    go_wp2_with fail
    refine (HI.out _).mono ?_
    rintro e w1 ⟨rfl, hb⟩
    have HB1 : Hid (Below w.heap.size w w1) := below_step HB0.out hb
    clear hb
    go_wp2
    all_goals go_ret
    all_goals exact ⟨rfl, HB1.out⟩

theorem beg_qw (s : ByteArray) (hs : s.size ≤ 1048576) (h0 : ¬ s.size = 0) (w : World) : Calls Tryz.prog 68 #[.string s, .int .u8 119] w fun e w' => e = .returned (.bool (Ch.qw.beg s.data.toList)) ∧ Below w.heap.size w w' := by
  obtain ⟨hne, hne'⟩ := toList_neN h0
  have hl0 := list_ne h0
  have hone := one_back 64 w
  rw [show str [64] = ⟨#[64]⟩ from rfl, show ((64 : UInt8).toNat : Int) = 64 from rfl] at hone
  obtain ⟨v, hv⟩ : ∃ v, ((fId 64 .window).read s.data.toList).isSome = v := ⟨_, rfl⟩
  have hbeg : Ch.qw.beg s.data.toList = (decide (s.data.toList = [64]) || v) := hv ▸ beg_id 64 .window (by decide) hl0
  have HI : Hid (∀ W, Calls Tryz.prog 69 #[.string s, .int .u8 119] W fun e w' => e = .returned (.bool v) ∧ Below W.heap.size W w') := fun W => hv ▸ is_qw s hs W
  have HB0 : Hid (Below w.heap.size w (w.alloc (.cells #[.int .u8 64] 5))) := below1 w _
  rw [hbeg]
  clear hbeg hv
  by_cases hc : s.data.toList = [64]
  · have hse : (s.toList == [64]) = true := by rw [toList_is, decide_eq_true hc]
    have hse2 : s.toList = [64] := by rw [Lib.toList_data]; exact hc
    rw [decide_eq_true hc, Bool.true_or]
    go_enter Tryz.func68, Tryz.ntmps68
    go_wp2
    all_goals go_ret
    all_goals exact ⟨rfl, HB0.out⟩
  · have hse : (s.toList == [64]) = false := by rw [toList_is, decide_eq_false hc]
    have hse2 : ¬ s.toList = [64] := by rw [Lib.toList_data]; exact hc
    rw [decide_eq_false hc, Bool.false_or]
    go_enter Tryz.func68, Tryz.ntmps68
    go_wp2_with fail
    refine (HI.out _).mono ?_
    rintro e w1 ⟨rfl, hb⟩
    have HB1 : Hid (Below w.heap.size w w1) := below_step HB0.out hb
    clear hb
    go_wp2
    all_goals go_ret
    all_goals exact ⟨rfl, HB1.out⟩

theorem beg_qp (s : ByteArray) (hs : s.size ≤ 1048576) (h0 : ¬ s.size = 0) (w : World) : Calls Tryz.prog 68 #[.string s, .int .u8 112] w fun e w' => e = .returned (.bool (Ch.qp.beg s.data.toList)) ∧ Below w.heap.size w w' := by
  obtain ⟨hne, hne'⟩ := toList_neN h0
  have hl0 := list_ne h0
  have hone := one_back 37 w
  rw [show str [37] = ⟨#[37]⟩ from rfl, show ((37 : UInt8).toNat : Int) = 37 from rfl] at hone
  obtain ⟨v, hv⟩ : ∃ v, ((fId 37 .pane).read s.data.toList).isSome = v := ⟨_, rfl⟩
  have hbeg : Ch.qp.beg s.data.toList = (decide (s.data.toList = [37]) || v) := hv ▸ beg_id 37 .pane (by decide) hl0
  have HI : Hid (∀ W, Calls Tryz.prog 69 #[.string s, .int .u8 112] W fun e w' => e = .returned (.bool v) ∧ Below W.heap.size W w') := fun W => hv ▸ is_qp s hs W
  have HB0 : Hid (Below w.heap.size w (w.alloc (.cells #[.int .u8 37] 5))) := below1 w _
  rw [hbeg]
  clear hbeg hv
  by_cases hc : s.data.toList = [37]
  · have hse : (s.toList == [37]) = true := by rw [toList_is, decide_eq_true hc]
    have hse2 : s.toList = [37] := by rw [Lib.toList_data]; exact hc
    rw [decide_eq_true hc, Bool.true_or]
    go_enter Tryz.func68, Tryz.ntmps68
    go_wp2
    all_goals go_ret
    all_goals exact ⟨rfl, HB0.out⟩
  · have hse : (s.toList == [37]) = false := by rw [toList_is, decide_eq_false hc]
    have hse2 : ¬ s.toList = [37] := by rw [Lib.toList_data]; exact hc
    rw [decide_eq_false hc, Bool.false_or]
    go_enter Tryz.func68, Tryz.ntmps68
    go_wp2_with fail
    refine (HI.out _).mono ?_
    rintro e w1 ⟨rfl, hb⟩
    have HB1 : Hid (Below w.heap.size w w1) := below_step HB0.out hb
    clear hb
    go_wp2
    all_goals go_ret
    all_goals exact ⟨rfl, HB1.out⟩

theorem beg_qN (s : ByteArray) (hs : s.size ≤ 1048576) (h0 : ¬ s.size = 0) (w : World) : Calls Tryz.prog 68 #[.string s, .int .u8 78] w fun e w' => e = .returned (.bool (Ch.qN.beg s.data.toList)) ∧ Below w.heap.size w w' := by
  obtain ⟨hne, hne'⟩ := toList_neN h0
  have hl0 := list_ne h0
  have HI : Hid (∀ W, Calls Tryz.prog 116 #[.string s] W fun e w' => e = .returned (.bool (Ch.qN.beg s.data.toList)) ∧ W = w') := fun W => nameBegins_any s hs W
  go_enter Tryz.func68, Tryz.ntmps68
  go_wp2_with fail
  refine (HI.out _).mono ?_
  rintro e w1 ⟨rfl, rfl⟩
  go_wp2
  all_goals go_ret
  all_goals exact ⟨rfl, Below.refl _ _⟩

theorem beg_qz (s : ByteArray) (hs : s.size ≤ 1048576) (h0 : ¬ s.size = 0) (w : World) : Calls Tryz.prog 68 #[.string s, .int .u8 122] w fun e w' => e = .returned (.bool (Ch.qz.beg s.data.toList)) ∧ Below w.heap.size w w' := by
  obtain ⟨hne, hne'⟩ := toList_neN h0
  have hl0 := list_ne h0
  have hbeg : Ch.qz.beg s.data.toList = (decide (s.data.toList = [90]) || decide (s.data.toList = [45])) := beg_zoom hl0
  rw [hbeg]
  have hz1 := toList_is s [90]
  have hz2 := toList_is s [45]
  obtain ⟨a, ha⟩ : ∃ a, decide (s.data.toList = [90]) = a := ⟨_, rfl⟩
  obtain ⟨b, hb⟩ : ∃ b, decide (s.data.toList = [45]) = b := ⟨_, rfl⟩
  rw [ha] at hz1 ⊢
  rw [hb] at hz2 ⊢
  clear ha hb hbeg
  cases a <;> cases b
  all_goals go_enter Tryz.func68, Tryz.ntmps68
  all_goals go_wp2
  all_goals go_ret
  all_goals exact ⟨rfl, Below.refl _ _⟩

theorem beg_qd (s : ByteArray) (hs : s.size ≤ 1048576) (h0 : ¬ s.size = 0) (w : World) : Calls Tryz.prog 68 #[.string s, .int .u8 100] w fun e w' => e = .returned (.bool (Ch.qd.beg s.data.toList)) ∧ Below w.heap.size w w' := by
  obtain ⟨hne, hne'⟩ := toList_neN h0
  have hl0 := list_ne h0
  have HI : Hid (∀ W, Calls Tryz.prog 34 #[.string s, .int .i64 256, .bool false] W fun e w' => e = .returned (.bool (Ch.qd.beg s.data.toList)) ∧ Below W.heap.size W w') := fun W =>
    escaping_any s hs 256 (by decide) _ (fun e u _ hu hl => esc_hit (lo := 1) (by decide) (by decide) hl0 hu hl) (fun h => esc_miss h) W
  go_enter Tryz.func68, Tryz.ntmps68
  go_wp2_with fail
  refine (HI.out _).mono ?_
  rintro e w1 ⟨rfl, hb⟩
  go_wp2
  all_goals go_ret
  all_goals exact ⟨rfl, hb⟩

theorem beg_qm (s : ByteArray) (hs : s.size ≤ 1048576) (h0 : ¬ s.size = 0) (w : World) : Calls Tryz.prog 68 #[.string s, .int .u8 109] w fun e w' => e = .returned (.bool (Ch.qm.beg s.data.toList)) ∧ Below w.heap.size w w' := by
  obtain ⟨hne, hne'⟩ := toList_neN h0
  have hl0 := list_ne h0
  have HI : Hid (∀ W, Calls Tryz.prog 34 #[.string s, .int .i64 1024, .bool false] W fun e w' => e = .returned (.bool (Ch.qm.beg s.data.toList)) ∧ Below W.heap.size W w') := fun W =>
    escaping_any s hs 1024 (by decide) _ (fun e u _ hu hl => esc_hit (lo := 0) (by decide) (by decide) hl0 hu hl) (fun h => esc_miss h) W
  go_enter Tryz.func68, Tryz.ntmps68
  go_wp2_with fail
  refine (HI.out _).mono ?_
  rintro e w1 ⟨rfl, hb⟩
  go_wp2
  all_goals go_ret
  all_goals exact ⟨rfl, hb⟩

theorem beg_qx (s : ByteArray) (hs : s.size ≤ 1048576) (h0 : ¬ s.size = 0) (w : World) : Calls Tryz.prog 68 #[.string s, .int .u8 120] w fun e w' => e = .returned (.bool (Ch.qx.beg s.data.toList)) ∧ Below w.heap.size w w' := by
  obtain ⟨hne, hne'⟩ := toList_neN h0
  have hl0 := list_ne h0
  have HI : Hid (∀ W, Calls Tryz.prog 34 #[.string s, .int .i64 1024, .bool false] W fun e w' => e = .returned (.bool (Ch.qx.beg s.data.toList)) ∧ Below W.heap.size W w') := fun W =>
    escaping_any s hs 1024 (by decide) _ (fun e u _ hu hl => esc_hit (lo := 1) (by decide) (by decide) hl0 hu hl) (fun h => esc_miss h) W
  go_enter Tryz.func68, Tryz.ntmps68
  go_wp2_with fail
  refine (HI.out _).mono ?_
  rintro e w1 ⟨rfl, hb⟩
  go_wp2
  all_goals go_ret
  all_goals exact ⟨rfl, hb⟩

theorem beg_qv (s : ByteArray) (hs : s.size ≤ 1048576) (h0 : ¬ s.size = 0) (w : World) : Calls Tryz.prog 68 #[.string s, .int .u8 118] w fun e w' => e = .returned (.bool (Ch.qv.beg s.data.toList)) ∧ Below w.heap.size w w' := by
  obtain ⟨hne, hne'⟩ := toList_neN h0
  have hl0 := list_ne h0
  have hbeg : Ch.qv.beg s.data.toList = (decide (s.data.toList = [58]) || (decide ([58, 32] <+: s.data.toList) && (decide (s.data.toList = [58, 32]) || begF (fEsc 0 1024) (s.data.toList.drop 2)))) := beg_value hl0
  rw [hbeg]
  clear hbeg
  have hx1 := toList_is s [58]
  have hx2 := toList_is s [58, 32]
  have hx3 := toList_is (s.extract 0 2) [58, 32]
  rw [extract_take] at hx3
  have hsd := size_data s
  by_cases hA : s.data.toList = [58]
  · rw [decide_eq_true hA] at hx1
    have hs1 : s.size = 1 := by rw [← hsd, hA]; rfl
    rw [decide_eq_true hA, Bool.true_or]
    clear hx2 hx3 hA hsd
    go_enter Tryz.func68, Tryz.ntmps68
    go_wp2
    all_goals go_ret
    all_goals exact ⟨rfl, Below.refl _ _⟩
  rw [decide_eq_false hA] at hx1
  rw [decide_eq_false hA, Bool.false_or]
  by_cases hsz : 2 ≤ s.size
  · by_cases hC : [58, 32] <+: s.data.toList
    · have hC2 : s.data.toList.take 2 = [58, 32] := (List.prefix_iff_eq_take.1 hC).symm
      rw [decide_eq_true hC2] at hx3
      rw [decide_eq_true hC, Bool.true_and]
      by_cases hD : s.data.toList = [58, 32]
      · rw [decide_eq_true hD] at hx2
        rw [decide_eq_true hD, Bool.true_or]
        clear hC hC2 hD hA hsd
        go_enter Tryz.func68, Tryz.ntmps68
        go_wp2
        all_goals go_ret
        all_goals exact ⟨rfl, Below.refl _ _⟩
      · rw [decide_eq_false hD] at hx2
        rw [decide_eq_false hD, Bool.false_or]
        have hdr : s.data.toList.drop 2 ≠ [] := fun h => hD (by
          have := List.take_append_drop 2 s.data.toList
          rw [h, List.append_nil, hC2] at this
          exact this.symm)
        have HI : Hid (∀ W, Calls Tryz.prog 34 #[.string (s.extract 2 s.size), .int .i64 1024, .bool false] W fun e w' => e = .returned (.bool (begF (fEsc 0 1024) (s.data.toList.drop 2))) ∧ Below W.heap.size W w') := fun W =>
          escaping_any (s.extract 2 s.size) (by rw [ByteArray.size_extract]; omega) 1024 (by decide) _ (fun e u _ hu hl => by rw [extract_drop] at hu; exact esc_hit (lo := 0) (by decide) (by decide) hdr hu hl) (fun h => esc_miss (by rw [extract_drop] at h; exact h)) W
        obtain ⟨r, hr⟩ : ∃ r, begF (fEsc 0 1024) (s.data.toList.drop 2) = r := ⟨_, rfl⟩
        rw [hr] at HI ⊢
        clear hC hC2 hD hA hsd hdr hr
        go_enter Tryz.func68, Tryz.ntmps68
        go_wp2_with fail
        refine (HI.out _).mono ?_
        rintro e w1 ⟨rfl, hb⟩
        go_wp2
        all_goals go_ret
        all_goals exact ⟨rfl, hb⟩
    · have hC2 : ¬ s.data.toList.take 2 = [58, 32] := fun h => hC (List.prefix_iff_eq_take.2 h.symm)
      rw [decide_eq_false hC2] at hx3
      rw [decide_eq_false hC, Bool.false_and]
      clear hC hC2 hA hsd hx2
      go_enter Tryz.func68, Tryz.ntmps68
      go_wp2
      all_goals go_ret
      all_goals exact ⟨rfl, Below.refl _ _⟩
  · have hC : ¬ [58, 32] <+: s.data.toList := fun h => by have := h.length_le; simp at this; omega
    rw [decide_eq_false hC, Bool.false_and]
    clear hC hA hsd hx2 hx3
    go_enter Tryz.func68, Tryz.ntmps68
    go_wp2
    all_goals go_ret
    all_goals exact ⟨rfl, Below.refl _ _⟩

theorem partBegins_any (c : Ch) (hc : c ≠ .qc) (s : ByteArray) (hs : s.size ≤ 1048576) (w : World) : Calls Tryz.prog 68 #[.string s, .int .u8 (c.byte.toNat : Int)] w fun e w' => e = .returned (.bool (c.beg s.data.toList)) ∧ Below w.heap.size w w' := by
  by_cases h0 : s.size = 0
  · have := empty_is h0
    subst this
    rw [show (⟨#[]⟩ : ByteArray).data.toList = [] from rfl, beg_nil]
    obtain ⟨x, hx⟩ : ∃ x, (c.byte.toNat : Int) = x := ⟨_, rfl⟩
    rw [hx]
    go_enter Tryz.func68, Tryz.ntmps68
    go_wp2
    all_goals go_ret
    all_goals exact ⟨rfl, Below.refl _ _⟩
  · cases c
    · exact beg_qt s hs h0 w
    · exact beg_qn s hs h0 w
    · exact beg_qf s hs h0 w
    · exact beg_qo s hs h0 w
    · exact beg_qi s hs h0 w
    · exact beg_qs s hs h0 w
    · exact beg_qw s hs h0 w
    · exact beg_qp s hs h0 w
    · exact beg_qN s hs h0 w
    · exact beg_qW s hs h0 w
    · exact beg_qP s hs h0 w
    · exact beg_qV s hs h0 w
    · exact beg_qz s hs h0 w
    · exact beg_qd s hs h0 w
    · exact beg_qv s hs h0 w
    · exact beg_qm s hs h0 w
    · exact beg_qx s hs h0 w
    · exact absurd rfl hc

end Go.Proofs.YtplolaondmeccaaGreatDoor
