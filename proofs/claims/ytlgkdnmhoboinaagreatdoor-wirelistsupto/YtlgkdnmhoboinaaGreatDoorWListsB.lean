/-
  The walk of WireLists where every event has a line.
-/
import Derived.Test.YtlgkdnmhoboinaaGreatDoorWListsW
import Derived.Test.YtlgkdnmhoboinaaGreatDoorWPieceW
namespace Go.Proofs.YtlgkdnmhoboinaaGreatDoor
open Go.RowKit
set_option linter.unusedVariables false

set_option maxRecDepth 20000 in
set_option maxHeartbeats 1000000 in
theorem lists_walk (l l0 : List Ev) (ev : Ev) (st line : ByteArray) (k n m m1 b o c : Nat) (hnk : n = k + 1) (hm : n ≤ 1048576) (hsm : st.size = m) (hmm : m = m1 + 1) (hmb : m ≤ 67108864) (hnc : n ≤ c) (w : World) (hb : b < w.heap.size)
    (HT : Hid (∀ W, Below w.heap.size w W → Calls Tryz.prog 9 #[.slice (some ⟨b, o, none⟩) n c] W fun e w' => e = .returned (.tuple #[.string st, .int .i64 0]) ∧ Below W.heap.size W w'))
    (HV1 : Hid (∀ W, Env W → Calls Tryz.prog 12 #[.string st] W fun e w' => ∃ v, e = .returned (.tuple #[v, .string ⟨#[]⟩]) ∧ EvOwns w' W.heap.size v l ∧ Below W.heap.size W w'))
    (HV2 : Hid (∀ W, Env W → Calls Tryz.prog 12 #[.string (st.extract 0 m1)] W fun e w' => ∃ v, e = .returned (.tuple #[v, .string line]) ∧ EvOwns w' W.heap.size v l0 ∧ Below W.heap.size W w'))
    (HS1 : Hid (∀ W B v, Below w.heap.size w W → EvOwns W B v l → Calls Tryz.prog 13 #[.slice (some ⟨b, o, none⟩) n c, v] W fun e w' => e = .returned (.bool true) ∧ Below W.heap.size W w'))
    (HS2 : Hid (∀ W B v, Below w.heap.size w W → EvOwns W B v l0 → Calls Tryz.prog 13 #[.slice (some ⟨b, o, none⟩) k c, v] W fun e w' => e = .returned (.bool true) ∧ Below W.heap.size W w'))
    (HEn : Hid (∀ W, Env W → Calls Tryz.prog 10 #[.agg #[.int .i64 ev.kind, .int .i64 ev.session, .int .i64 ev.window, .int .i64 ev.pane, .int .i64 ev.index, .int .i64 ev.offset, .int .i64 ev.tick, .int .i64 ev.number, .int .i64 ev.flag, .string ev.name, .string ev.text, .string ev.layout, .string ev.visible, .bool ev.zoom]] W fun e w' => e = .returned (.tuple #[.string line, .int .i64 0]) ∧ Below W.heap.size W w'))
    (HC : Hid (∀ W, Below w.heap.size w W → W.cell? ⟨b, o + k * 14, none⟩ = some (.int .i64 ev.kind) ∧ W.cell? ⟨b, o + k * 14 + 1, none⟩ = some (.int .i64 ev.session) ∧ W.cell? ⟨b, o + k * 14 + 2, none⟩ = some (.int .i64 ev.window) ∧ W.cell? ⟨b, o + k * 14 + 3, none⟩ = some (.int .i64 ev.pane) ∧ W.cell? ⟨b, o + k * 14 + 4, none⟩ = some (.int .i64 ev.index) ∧ W.cell? ⟨b, o + k * 14 + 5, none⟩ = some (.int .i64 ev.offset) ∧ W.cell? ⟨b, o + k * 14 + 6, none⟩ = some (.int .i64 ev.tick) ∧ W.cell? ⟨b, o + k * 14 + 7, none⟩ = some (.int .i64 ev.number) ∧ W.cell? ⟨b, o + k * 14 + 8, none⟩ = some (.int .i64 ev.flag) ∧ W.cell? ⟨b, o + k * 14 + 9, none⟩ = some (.string ev.name) ∧ W.cell? ⟨b, o + k * 14 + 10, none⟩ = some (.string ev.text) ∧ W.cell? ⟨b, o + k * 14 + 11, none⟩ = some (.string ev.layout) ∧ W.cell? ⟨b, o + k * 14 + 12, none⟩ = some (.string ev.visible) ∧ W.cell? ⟨b, o + k * 14 + 13, none⟩ = some (.bool ev.zoom)))
    (HE : Hid (∀ W, Below w.heap.size w W → Env W)) :
    Calls Tryz.prog 3 #[.slice (some ⟨b, o, none⟩) n c] w fun e w' => e = .returned (.bool true) ∧ Below w.heap.size w w' := by
  have HK1 : Hid ((n : Int) - 1 = k) := (by omega : (n : Int) - 1 = k)
  have HK2 : Hid ((m : Int) - 1 = m1) := (by omega : (m : Int) - 1 = m1)
  have HSM : Hid (st.size = m) := hsm
  have hn1 : 1 ≤ n := by omega
  have hkc : k ≤ c := by omega
  clear hnk hmm hsm
  go_enter Tryz.func3, Tryz.ntmps3
  go_wp2_with fail
  refine (HT.out _ (Below.refl _ _)).mono ?_
  rintro e w1 ⟨rfl, hb1⟩
  have HB1 : Hid (Below w.heap.size w w1) := hb1
  clear hb1
  go_wp2_with fail
  refine (HV1.out _ (HE.out _ HB1.out)).mono ?_
  rintro e w2 ⟨v2, rfl, ho2, hb2⟩
  have HB2 : Hid (Below w.heap.size w w2) := below_step HB1.out hb2
  have HO2 : Hid (EvOwns w2 w1.heap.size v2 l) := ho2
  clear hb2 ho2
  go_wp2_with fail
  refine (HS1.out _ _ _ HB2.out HO2.out).mono ?_
  rintro e w3 ⟨rfl, hb3⟩
  have HB3 : Hid (Below w.heap.size w w3) := below_step HB2.out hb3
  clear hb3
  have hsm := HSM.out
  have hk2 := HK2.out
  have hm1 : (m1 : Int) ≤ (m : Int) := by omega
  go_wp2_with fail
  refine (HV2.out _ (HE.out _ HB3.out)).mono ?_
  rintro e w4 ⟨v4, rfl, ho4, hb4⟩
  have HB4 : Hid (Below w.heap.size w w4) := below_step HB3.out hb4
  have HO4 : Hid (EvOwns w4 w3.heap.size v4 l0) := ho4
  clear hb4 ho4 hsm hk2 hm1
  have hk1 := HK1.out
  obtain ⟨q0, q1, q2, q3, q4, q5, q6, q7, q8, q9, q10, q11, q12, q13⟩ := HC.out _ HB4.out
  have hkn : (k : Int) < (n : Int) := by omega
  go_wp2_with fail
  refine (HEn.out _ (HE.out _ HB4.out)).mono ?_
  rintro e w5 ⟨rfl, hb5⟩
  have HB5 : Hid (Below w.heap.size w w5) := below_step HB4.out hb5
  have HO5 : Hid (EvOwns w5 w3.heap.size v4 l0) := HO4.out.below hb5
  clear hb5 q0 q1 q2 q3 q4 q5 q6 q7 q8 q9 q10 q11 q12 q13
  go_wp2_with fail
  refine (HS2.out _ _ _ HB5.out HO5.out).mono ?_
  rintro e w6 ⟨rfl, hb6⟩
  have HB6 : Hid (Below w.heap.size w w6) := below_step HB5.out hb6
  clear hb6
  go_wp2_with fail
  refine (sure_any _ (HE.out _ HB6.out)).mono ?_
  rintro e w7 ⟨rfl, hb7⟩
  have HB7 : Hid (Below w.heap.size w w7) := below_step HB6.out hb7
  clear hb7
  go_wp2
  go_ret
  exact ⟨rfl, HB7.out⟩

set_option maxRecDepth 20000 in
set_option maxHeartbeats 4000000 in
theorem lists_ok (l0 : List Ev) (ev : Ev) (line t : List UInt8) (he : encS ev = some line) (hx : textS (l0 ++ [ev]) = some t) (htl : t.length ≤ 67108864) (hfit : ∀ e ∈ l0 ++ [ev], e.Fits) (k n : Nat) (hk : l0.length = k) (hnk : n = k + 1) (hm : n ≤ 1048576) (b o c : Nat) (hnc : n ≤ c) (w : World) (hE : Env w) (hb : b < w.heap.size) (hrow : EvRow w b o (l0 ++ [ev])) :
    Calls Tryz.prog 3 #[.slice (some ⟨b, o, none⟩) n c] w fun e w' => e = .returned (.bool true) ∧ Below w.heap.size w w' := by
  have hln : (l0 ++ [ev]).length = n := by rw [List.length_append, hk, hnk]; rfl
  obtain ⟨hne, hL1, hR1⟩ := text_open l0 ev t line he hx
  obtain ⟨hL0, hR0⟩ := text_back (l0 ++ [ev]) t hx
  obtain ⟨st, hst⟩ : ∃ x, str t = x := ⟨_, rfl⟩
  have hss : st.size = t.length := by rw [← hst, str_size]
  obtain ⟨m, hsm⟩ : ∃ x, st.size = x := ⟨_, rfl⟩
  have hm1 : 1 ≤ m := by
    have : t.length ≠ 0 := fun h => hne (List.eq_nil_of_length_eq_zero h)
    omega
  obtain ⟨m1, hmm⟩ : ∃ x, m = x + 1 := ⟨m - 1, by omega⟩
  have hds : st.data.toList = t := by rw [← hst, str_data]
  have hdx : (st.extract 0 m1).data.toList = t.dropLast := by
    rw [Lib.extract_from_zero, hds, List.dropLast_eq_take, ← hss, hsm, hmm]
    rfl
  have HT : Hid (∀ W, Below w.heap.size w W → Calls Tryz.prog 9 #[.slice (some ⟨b, o, none⟩) n c] W fun e w' => e = .returned (.tuple #[.string st, .int .i64 0]) ∧ Below W.heap.size W w') := fun W hW => by
    have h := text_all (l0 ++ [ev]) hfit (by omega) (.slice (some ⟨b, o, none⟩) (l0 ++ [ev]).length c) W (hE.below hW) (EvArg.below (w := w) (Or.inr ⟨b, o, c, rfl, hb, hrow⟩) hW)
    rw [hx, hln] at h
    rw [← hst]
    exact h
  have HV1 : Hid (∀ W, Env W → Calls Tryz.prog 12 #[.string st] W fun e w' => ∃ v, e = .returned (.tuple #[v, .string ⟨#[]⟩]) ∧ EvOwns w' W.heap.size v (l0 ++ [ev]) ∧ Below W.heap.size W w') := fun W hW => by
    have := events_more st (by omega) W hW
    rw [hds, hL0, hR0] at this
    exact this
  have HV2 : Hid (∀ W, Env W → Calls Tryz.prog 12 #[.string (st.extract 0 m1)] W fun e w' => ∃ v, e = .returned (.tuple #[v, .string (str line)]) ∧ EvOwns w' W.heap.size v l0 ∧ Below W.heap.size W w') := fun W hW => by
    have := events_more (st.extract 0 m1) (by rw [← size_data, hdx, List.length_dropLast]; omega) W hW
    rw [hdx, hL1, hR1] at this
    exact this
  have HS1 : Hid (∀ W B v, Below w.heap.size w W → EvOwns W B v (l0 ++ [ev]) → Calls Tryz.prog 13 #[.slice (some ⟨b, o, none⟩) n c, v] W fun e w' => e = .returned (.bool true) ∧ Below W.heap.size W w') := fun W B v hW hv => by
    have h := same_all (l0 ++ [ev]) (l0 ++ [ev]) (by omega) (by omega) (.slice (some ⟨b, o, none⟩) (l0 ++ [ev]).length c) v W (EvArg.below (w := w) (Or.inr ⟨b, o, c, rfl, hb, hrow⟩) hW) (EvArg.of_owns hv)
    rw [hln] at h
    refine h.mono ?_
    rintro e w' ⟨r, rfl, hr, hb⟩
    rw [hr.2 rfl]
    exact ⟨rfl, hb⟩
  have hrow0 : EvRow w b o l0 := fun j u hu => hrow j u (by rw [evCells_append, List.getElem?_append_left (List.getElem?_eq_some_iff.1 hu).1]; exact hu)
  have HS2 : Hid (∀ W B v, Below w.heap.size w W → EvOwns W B v l0 → Calls Tryz.prog 13 #[.slice (some ⟨b, o, none⟩) k c, v] W fun e w' => e = .returned (.bool true) ∧ Below W.heap.size W w') := fun W B v hW hv => by
    have h := same_all l0 l0 (by omega) (by omega) (.slice (some ⟨b, o, none⟩) l0.length c) v W (EvArg.below (w := w) (Or.inr ⟨b, o, c, rfl, hb, hrow0⟩) hW) (EvArg.of_owns hv)
    rw [hk] at h
    refine h.mono ?_
    rintro e w' ⟨r, rfl, hr, hb⟩
    rw [hr.2 rfl]
    exact ⟨rfl, hb⟩
  have HEn : Hid (∀ W, Env W → Calls Tryz.prog 10 #[.agg #[.int .i64 ev.kind, .int .i64 ev.session, .int .i64 ev.window, .int .i64 ev.pane, .int .i64 ev.index, .int .i64 ev.offset, .int .i64 ev.tick, .int .i64 ev.number, .int .i64 ev.flag, .string ev.name, .string ev.text, .string ev.layout, .string ev.visible, .bool ev.zoom]] W fun e w' => e = .returned (.tuple #[.string (str line), .int .i64 0]) ∧ Below W.heap.size W w') := fun W hW => by
    have := encode_any ev (hfit ev (by simp)) W hW
    rw [he] at this
    exact this
  have HC : Hid (∀ W, Below w.heap.size w W → W.cell? ⟨b, o + k * 14, none⟩ = some (.int .i64 ev.kind) ∧ W.cell? ⟨b, o + k * 14 + 1, none⟩ = some (.int .i64 ev.session) ∧ W.cell? ⟨b, o + k * 14 + 2, none⟩ = some (.int .i64 ev.window) ∧ W.cell? ⟨b, o + k * 14 + 3, none⟩ = some (.int .i64 ev.pane) ∧ W.cell? ⟨b, o + k * 14 + 4, none⟩ = some (.int .i64 ev.index) ∧ W.cell? ⟨b, o + k * 14 + 5, none⟩ = some (.int .i64 ev.offset) ∧ W.cell? ⟨b, o + k * 14 + 6, none⟩ = some (.int .i64 ev.tick) ∧ W.cell? ⟨b, o + k * 14 + 7, none⟩ = some (.int .i64 ev.number) ∧ W.cell? ⟨b, o + k * 14 + 8, none⟩ = some (.int .i64 ev.flag) ∧ W.cell? ⟨b, o + k * 14 + 9, none⟩ = some (.string ev.name) ∧ W.cell? ⟨b, o + k * 14 + 10, none⟩ = some (.string ev.text) ∧ W.cell? ⟨b, o + k * 14 + 11, none⟩ = some (.string ev.layout) ∧ W.cell? ⟨b, o + k * 14 + 12, none⟩ = some (.string ev.visible) ∧ W.cell? ⟨b, o + k * 14 + 13, none⟩ = some (.bool ev.zoom)) := fun W hW => EvRow.at (fun j u hu => by rw [hW.cell (p := ⟨b, o + j, none⟩) hb]; exact hrow j u hu) (by rw [← hk]; simp)
  have HE : Hid (∀ W, Below w.heap.size w W → Env W) := fun W h => hE.below h
  exact lists_walk (l0 ++ [ev]) l0 ev st (str line) k n m m1 b o c hnk hm hsm hmm (by omega) hnc w hb HT HV1 HV2 HS1 HS2 HEn HC HE

set_option maxHeartbeats 400000 in
theorem lists_nil (ad : Option Addr) (c : Nat) (w : World) (hE : Env w) :
    Calls Tryz.prog 3 #[.slice ad 0 c] w fun e w' => e = .returned (.bool true) ∧ Below w.heap.size w w' := by
  have HT : Hid (∀ W, Env W → Calls Tryz.prog 9 #[.slice ad 0 c] W fun e w' => e = .returned (.tuple #[.string ⟨#[]⟩, .int .i64 0]) ∧ Below W.heap.size W w') := fun W hW => by
    exact text_all [] (fun e he => absurd he (by simp)) (by decide) (.slice ad 0 c) W hW (Or.inl ⟨⟨ad, c, rfl⟩, rfl⟩)
  have HV : Hid (∀ W, Env W → Calls Tryz.prog 12 #[.string ⟨#[]⟩] W fun e w' => ∃ v, e = .returned (.tuple #[v, .string ⟨#[]⟩]) ∧ EvOwns w' W.heap.size v [] ∧ Below W.heap.size W w') := fun W hW => events_more ⟨#[]⟩ (by decide) W hW
  have HS : Hid (∀ W B v, EvOwns W B v [] → Calls Tryz.prog 13 #[.slice ad 0 c, v] W fun e w' => e = .returned (.bool true) ∧ Below W.heap.size W w') := fun W B v hv => by
    refine (same_all [] [] (by decide) (by decide) (.slice ad 0 c) v W (Or.inl ⟨⟨ad, c, rfl⟩, rfl⟩) (EvArg.of_owns hv)).mono ?_
    rintro e w' ⟨r, rfl, hr, hb⟩
    rw [hr.2 rfl]
    exact ⟨rfl, hb⟩
  have HE : Hid (∀ W, Below w.heap.size w W → Env W) := fun W h => hE.below h
  clear hE
  go_enter Tryz.func3, Tryz.ntmps3
  go_wp2_with fail
  refine (HT.out _ (HE.out _ (Below.refl _ _))).mono ?_
  rintro e w1 ⟨rfl, hb1⟩
  have HB1 : Hid (Below w.heap.size w w1) := hb1
  clear hb1
  go_wp2_with fail
  refine (HV.out _ (HE.out _ HB1.out)).mono ?_
  rintro e w2 ⟨v2, rfl, ho2, hb2⟩
  have HB2 : Hid (Below w.heap.size w w2) := below_step HB1.out hb2
  have HO2 : Hid (EvOwns w2 w1.heap.size v2 []) := ho2
  clear hb2 ho2
  go_wp2_with fail
  refine (HS.out _ _ _ HO2.out).mono ?_
  rintro e w3 ⟨rfl, hb3⟩
  have HB3 : Hid (Below w.heap.size w w3) := below_step HB2.out hb3
  clear hb3
  go_wp2_with fail
  refine (sure_any _ (HE.out _ HB3.out)).mono ?_
  rintro e w4 ⟨rfl, hb4⟩
  have HB4 : Hid (Below w.heap.size w w4) := below_step HB3.out hb4
  clear hb4
  go_wp2
  go_ret
  exact ⟨rfl, HB4.out⟩

theorem text_last : ∀ (l : List Ev) (e : Ev) (t : List UInt8), textS (l ++ [e]) = some t → encS e ≠ none
  | [], e, t, h => by
    have h' : textS [e] = some t := h
    unfold textS at h'
    intro k
    rw [k] at h'
    cases h'
  | a :: l, e, t, h => by
    rw [List.cons_append] at h
    unfold textS at h
    split at h
    · cases h
    · cases hx : textS (l ++ [e]) with
      | none => rw [hx] at h; cases h
      | some u => exact text_last l e u hx

theorem wireLists_walk (l : List Ev) (hfit : ∀ e ∈ l, e.Fits) (hm : l.length ≤ 1048576) (v : Value) (w : World) (hE : Env w) (ha : EvArg w v l) (hc : ∃ ad n c, v = .slice ad n c ∧ n ≤ c) (ht : ∀ t, textS l = some t → t.length ≤ 67108864) :
    Calls Tryz.prog 3 #[v] w fun e w' => e = .returned (.bool true) ∧ Below w.heap.size w w' := by
  rcases ha with ⟨⟨ad, c, rfl⟩, rfl⟩ | ⟨b, o, c, rfl, hb, hrow⟩
  · exact lists_nil ad c w hE
  · obtain ⟨ad', n', c', e1, hnc⟩ := hc
    cases e1
    by_cases h0 : l.length = 0
    · rw [h0]
      exact lists_nil _ c w hE
    · cases hx : textS l with
      | none => exact lists_bad l hfit hm hx b o c w hE hb hrow (by omega)
      | some t =>
        rcases List.eq_nil_or_concat l with rfl | ⟨l0, ev, rfl⟩
        · exact absurd rfl h0
        · rw [List.concat_eq_append] at *
          cases he : encS ev with
          | none => exact absurd he (text_last l0 ev t hx)
          | some line => exact lists_ok l0 ev line t he hx (ht t hx) hfit l0.length _ rfl (by simp) hm b o c hnc w hE hb hrow

set_option maxRecDepth 100000 in
open Go.ChangeShapes Go.WideShapes in
theorem open_cap {H : Type} {enc : TypeId × Value → H} {W : World} {r : Reach} {b0 base : Nat} {spare : Nat → Bool} {held : Bool} {v : Value} {d : DataW H} {p : List MemPlace} (hv : Value.okWide Tryz.prog W r b0 22 v) (h : DataW.Trod enc Tryz.prog W base spare held 22 v d p) :
    ∃ ad n c, v = .slice ad n c ∧ n ≤ c := by
  obtain ⟨ad, len, cap, rfl⟩ := okWide_slice Tryz.underlying22 hv
  obtain ⟨fuel, hf⟩ := h
  rcases Deep.open_slice Tryz.underlying22 hf with ⟨h0, hx⟩ | ⟨a, len', cap', m, n, D, Pl, h0, hb, hl, hm, hmm, hx, hall⟩
  · simp [Value.cells] at h0
    obtain ⟨rfl, rfl, rfl⟩ := h0
    exact ⟨_, _, _, rfl, Nat.le_refl _⟩
  · simp [Value.cells] at h0
    obtain ⟨rfl, rfl, rfl⟩ := h0
    exact ⟨_, _, _, rfl, hl⟩

end Go.Proofs.YtlgkdnmhoboinaaGreatDoor
