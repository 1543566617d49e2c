/-
  The walks of octal.appendPlain, octal.Unescape, octal.UnescapeBody.
-/
import Derived.Test.YtplolaondmeccaaGreatDoorUnA
import Derived.WalkKit
import Derived.RegionTactic
import Derived.Deep.RegionWith
import Derived.Deep.DrawnRows
namespace Go.Proofs.YtplolaondmeccaaGreatDoor
open Go.RowKit
set_option linter.unusedVariables false
attribute [local go_sem ↓] Go.wp_at_zero Go.wp_at_succ

theorem extract_drop (s : ByteArray) (k : Nat) : (s.extract k s.size).data.toList = s.data.toList.drop k := by
  rw [Lib.extract_data]
  exact List.take_of_length_le (by simp)

theorem drop_cons (s : ByteArray) (k : Nat) (h : k < s.size) : s.data.toList.drop k = s[k] :: s.data.toList.drop (k + 1) :=
  List.drop_eq_getElem_cons (by simpa using h)

/-- What cannot be read at a place cannot be read at all. -/
theorem stuck {s : ByteArray} {k : Nat} (h : k < s.size) {out : List UInt8} (ho : esc out = s.data.toList.take k) (hm : mustB s[k] = true)
    (hno : ∀ b r, mustB b = true → s.data.toList.drop k ≠ code b ++ r) (t : List UInt8) : esc t ≠ s.data.toList := by
  intro e
  obtain ⟨t', _, e2⟩ := esc_split out t (s.data.toList.drop k) (by rw [ho, List.take_append_drop]; exact e)
  cases t' with
  | nil => rw [drop_cons s k h] at e2; cases e2
  | cons c t' =>
    rw [esc_cons] at e2
    cases hc : mustB c
    · rw [esc1_not hc, drop_cons s k h] at e2
      injection e2 with e3 _
      rw [e3, hm] at hc
      cases hc
    · rw [esc1_must hc] at e2
      exact hno c _ hc e2.symm

theorem step_plain {s : ByteArray} {k : Nat} (h : k < s.size) {out : List UInt8} (ho : esc out = s.data.toList.take k) (hm : mustB s[k] = false) : esc (out ++ [s[k]]) = s.data.toList.take (k + 1) := by
  rw [esc_snoc, ho, esc1_not hm, take_snoc s k h]

theorem step_code {s : ByteArray} {k : Nat} {out : List UInt8} (ho : esc out = s.data.toList.take k) {b : UInt8} {r : List UInt8} (hm : mustB b = true) (e : s.data.toList.drop k = code b ++ r) : esc (out ++ [b]) = s.data.toList.take (k + 4) ∧ k + 4 ≤ s.size := by
  have hl := congrArg List.length e
  rw [List.length_drop, size_data, List.length_append, code_length] at hl
  refine ⟨?_, by omega⟩
  rw [esc_snoc, ho, esc1_must hm, List.take_add, e]
  congr 1

set_option maxHeartbeats 2000000 in
theorem appendPlain_any (B : Nat) (v : Value) (l : List UInt8) (s : ByteArray) (w : World) (hD : Digs w) (h0 : 4 < B) (hB : B ≤ w.heap.size) (hown : Owns w B v l) (hlen : l.length + s.size ≤ 140737488355328) :
    Calls Tryz.prog 131 #[v, .string s] w fun e w' =>
      ((∃ v' t, e = .returned (.tuple #[v', .bool true]) ∧ Owns w' B v' (l ++ t) ∧ esc t = s.data.toList) ∨ (e = .returned (.tuple #[.slice none 0 0, .bool false]) ∧ ∀ t, esc t ≠ s.data.toList)) ∧ Below B w w' := by
  have hs : s.size ≤ 140737488355328 := by omega
  go_enter Tryz.func131, Tryz.ntmps131
  go_wp2
  go_loopw [0, 6] (fun u i wr => ∃ (k : Nat) (out : List UInt8), k ≤ s.size ∧ i = .int .i64 k ∧ Owns wr B u (l ++ out) ∧ esc out = s.data.toList.take k ∧ Below B w wr) (fun _ i _ => s.size - (intOf i).toNat)
  case atStart => exact ⟨0, [], Nat.zero_le _, rfl, by simpa using hown, rfl, Below.refl _ _⟩
  case round =>
    obtain ⟨k, out, hk, rfl, hown', ho, hb⟩ := hrel
    have HO : Hid (esc out = s.data.toList.take k) := ho
    have hDr : Digs wr := hD.below hb h0
    have hBr : B ≤ wr.heap.size := Nat.le_trans hB hb.size
    have hlo : (l ++ out).length + 1 ≤ 140737488355328 ∨ ¬ k < s.size := by
      have h1 := (esc_length out).1
      rw [ho, List.length_take, size_data] at h1
      rw [List.length_append]
      omega
    clear ho
    by_cases hlt : k < s.size
    · have hl1 : (l ++ out).length + 1 ≤ 140737488355328 := by rcases hlo with h | h; exact h; exact absurd hlt h
      clear hlo
      by_cases hm : mustB s[k] = true
      · have hx : (s.extract k s.size).size ≤ 140737488355328 := by simp; omega
        go_wp2_with (go_at_call 157; refine (mustEscape_any _ _).mono ?_; rintro e w' ⟨rfl, rfl⟩)
        refine (firstEscaped_any _ _ hDr hx).mono ?_
        rw [extract_drop]
        rintro e w2 ⟨h, hb2⟩
        rcases h with ⟨b, r, rfl, hmb, hcode⟩ | ⟨rfl, hno⟩
        · obtain ⟨hs1, hs2⟩ := step_code HO.out hmb hcode
          have HS : Hid (esc (out ++ [b]) = s.data.toList.take (k + 4)) := hs1
          have hown2 := hown'.below hb2
          have hB2 : B ≤ w2.heap.size := Nat.le_trans hBr hb2.size
          clear hs1 hcode
          go_wp2_with (at_builtin; refine wpList_append_bytes _ rfl (.tmp 33) (.tmp 35) 79 rfl Tryz.underlying79 info5 B _ _ rfl (hown2.alloc _) ⟨w2.heap.size, 0, none⟩ 1 1 [b] rfl rfl (one_cell w2 b _) hl1 ?_ ?_; (simp; omega); (intro v' w3 hown3 hb3))
          go_roundw
          case rel => exact ⟨k + 4, out ++ [b], by omega, by go_num, by rw [← List.append_assoc]; exact hown3, HS.out, ((hb.trans (hb2.mono hBr)).alloc hB2 _).trans hb3⟩
          case measure => simp [intOf]; omega
        · have HN : Hid (∀ t, esc t ≠ s.data.toList) := stuck hlt HO.out hm hno
          clear hno
          go_wp2
          go_ret2
          exact ⟨.inr ⟨rfl, HN.out⟩, hb.trans (hb2.mono hBr)⟩
      · have hm' : mustB s[k] = false := by simpa using hm
        clear hm
        have HS : Hid (esc (out ++ [s[k]]) = s.data.toList.take (k + 1)) := step_plain hlt HO.out hm'
        go_wp2_with (first
          | (go_at_call 157; refine (mustEscape_any _ _).mono ?_; rintro e w' ⟨rfl, rfl⟩)
          | (at_builtin; refine wpList_append_bytes _ rfl (.tmp 33) (.tmp 35) 79 rfl Tryz.underlying79 info5 B _ _ rfl (hown'.alloc _) ⟨wr.heap.size, 0, none⟩ 1 1 [s[k]] rfl rfl (one_cell wr s[k] _) hl1 ?_ ?_; (simp; omega); (intro v' w3 hown3 hb3)))
        go_roundw
        case rel => exact ⟨k + 1, out ++ [s[k]], by omega, by go_num, by rw [← List.append_assoc]; exact hown3, HS.out, (hb.alloc hBr _).trans hb3⟩
        case measure => simp [intOf]; omega
    · have HE : Hid (esc out = s.data.toList) := by show _ = _; rw [HO.out, show k = s.size by omega, take_all]
      go_wp2
      go_ret2
      exact ⟨.inl ⟨_, out, rfl, hown', HE.out⟩, hb⟩

theorem unescape_any (s : ByteArray) (w : World) (hD : Digs w) (hs : s.size ≤ 140737488355328) :
    Calls Tryz.prog 89 #[.string s] w fun e w' =>
      ((∃ t, e = .returned (.tuple #[.string (str t), .int .i64 0]) ∧ esc t = s.data.toList) ∨ (e = .returned (.tuple #[.string ⟨#[]⟩, .int .i64 10]) ∧ ∀ t, esc t ≠ s.data.toList)) ∧ Below w.heap.size w w' := by
  have hlen' : ([] : List UInt8).length + s.size ≤ 140737488355328 := by simpa using hs
  go_enter Tryz.func89, Tryz.ntmps89
  go_wp2_with fail
  refine (appendPlain_any w.heap.size _ [] _ _ hD hD.pos (Nat.le_refl _) (Owns.nil _ _) hlen').mono ?_
  rintro e w1 ⟨h, hb⟩
  rcases h with ⟨v', t, rfl, hown, ht⟩ | ⟨rfl, hno⟩
  · have HT : Hid (esc t = s.data.toList) := ht
    have hc := (hown.as (List.nil_append t)).text (P := Tryz.prog) 79 9 5 Tryz.underlying79 Tryz.underlying5 Tryz.underlying9
    clear ht hown
    go_wp2
    go_ret2
    exact ⟨.inl ⟨t, rfl, HT.out⟩, hb⟩
  · have HN : Hid (∀ t, esc t ≠ s.data.toList) := hno
    clear hno
    go_wp2
    go_ret2
    exact ⟨.inr ⟨rfl, HN.out⟩, hb⟩

theorem key37 (l : List UInt8) : (∃ r, l = 37 :: r ∧ escB l = code 37 ++ esc r) ∨ ((∀ r, l ≠ 37 :: r) ∧ escB l = esc l) := by
  cases l with
  | nil => exact .inr ⟨fun r h => (by cases h), rfl⟩
  | cons c r =>
    by_cases hc : c = 37
    · subst hc; exact .inl ⟨r, rfl, rfl⟩
    · refine .inr ⟨fun r h => hc (by injection h), ?_⟩
      show (if c = 37 then _ else _) = _
      rw [if_neg hc]

theorem escB_ne37 (t r : List UInt8) : escB t ≠ 37 :: r := by
  intro h
  rcases key37 t with ⟨q, rfl, e⟩ | ⟨hn, e⟩
  · rw [e] at h
    simp [code] at h
  · rw [e] at h
    cases t with
    | nil => cases h
    | cons c t =>
      rw [esc_cons] at h
      cases hc : mustB c
      · rw [esc1_not hc] at h
        injection h with h1 _
        exact hn t (by rw [h1])
      · rw [esc1_must hc] at h
        simp [code] at h

theorem escB_of {l t : List UInt8} (h37 : ∀ r, l ≠ 37 :: r) (e : esc t = l) : escB t = l := by
  rcases key37 t with ⟨q, rfl, _⟩ | ⟨_, e2⟩
  · exact absurd e.symm (h37 (esc q))
  · rw [e2]; exact e
theorem esc_of {l t : List UInt8} (hc : ∀ r, l ≠ code 37 ++ r) (e : escB t = l) : esc t = l := by
  rcases key37 t with ⟨q, rfl, e2⟩ | ⟨_, e2⟩
  · rw [e2] at e; exact absurd e.symm (hc _)
  · rw [← e2]; exact e
theorem escB_code {l t : List UInt8} (e : escB t = code 37 ++ l) : ∃ r, t = 37 :: r ∧ esc r = l := by
  rcases key37 t with ⟨q, rfl, e2⟩ | ⟨_, e2⟩
  · rw [e2] at e; exact ⟨q, rfl, List.append_cancel_left e⟩
  · rw [e2] at e; exact absurd e (esc_ne_code37 _ _)

theorem head_not {s : ByteArray} (h : 0 < s.size) (h37 : ¬ s[0].toNat = 37) : ∀ r, s.data.toList ≠ 37 :: r := by
  intro r e
  rw [head_cons s h] at e
  injection e with e1 _
  exact h37 (by rw [e1]; rfl)

theorem eqB_symm {a0 a1 a2 a3 b0 b1 b2 b3 : Int} (h : eqB a0 a1 a2 a3 b0 b1 b2 b3 = true) : eqB b0 b1 b2 b3 a0 a1 a2 a3 = true := by
  unfold eqB at *
  rw [decide_eq_true_iff] at *
  omega

set_option maxHeartbeats 4000000 in
theorem unescapeBody_any (s : ByteArray) (w : World) (hD : Digs w) (hs : s.size ≤ 140737488355328) :
    Calls Tryz.prog 83 #[.string s] w fun e w' =>
      ((∃ t, e = .returned (.tuple #[.string (str t), .int .i64 0]) ∧ escB t = s.data.toList) ∨ (e = .returned (.tuple #[.string ⟨#[]⟩, .int .i64 10]) ∧ ∀ t, escB t ≠ s.data.toList)) ∧ Below w.heap.size w w' := by
  by_cases h4 : s.size < 4
  · have HC : Hid (∀ r, s.data.toList ≠ code 37 ++ r) := fun r e => by
      have := congrArg List.length e
      rw [List.length_append, size_data, code_length] at this
      omega
    by_cases h0 : s.size = 0
    · have he := empty_of s h0
      have H37 : Hid (∀ r, s.data.toList ≠ 37 :: r) := fun r e => by rw [← Lib.toList_data, he] at e; cases e
      go_enter Tryz.func83, Tryz.ntmps83
      go_wp2_with (go_at_call 129; refine (firstCode_no _ _ h4).mono ?_; rintro e w1 ⟨rfl, hb1⟩)
      go_region
      go_wp2_with fail
      refine (unescape_any _ _ (hD.below (hb1.alloc hb1.size _).drew hD.pos) hs).mono ?_
      rintro e w2 ⟨h, hb2⟩
      rcases h with ⟨t, rfl, ht⟩ | ⟨rfl, hno⟩
      · have HT : Hid (escB t = s.data.toList) := escB_of H37.out ht
        have HB : Hid (Below w.heap.size w w2) := (hb1.alloc hb1.size _).drew.trans (hb2.mono (hb1.alloc hb1.size _).drew.size)
        clear ht hb2
        go_wp2
        go_ret2
        exact ⟨.inl ⟨t, rfl, HT.out⟩, HB.out⟩
      · have HN : Hid (∀ t, escB t ≠ s.data.toList) := fun t e => hno t (esc_of HC.out e)
        have HB : Hid (Below w.heap.size w w2) := (hb1.alloc hb1.size _).drew.trans (hb2.mono (hb1.alloc hb1.size _).drew.size)
        clear hno hb2
        go_wp2
        go_ret2
        exact ⟨.inr ⟨rfl, HN.out⟩, HB.out⟩
    · have hp : 0 < s.size := by omega
      obtain ⟨hne, hne'⟩ := toList_ne hp
      by_cases h37 : s[0].toNat = 37
      · have HN : Hid (∀ t, escB t ≠ s.data.toList) := fun t e => by
          rw [head_cons s hp, UInt8.toNat_inj.1 (show s[0].toNat = (37 : UInt8).toNat from h37)] at e
          exact escB_ne37 _ _ e
        go_enter Tryz.func83, Tryz.ntmps83
        go_wp2
        go_ret2
        exact ⟨.inr ⟨rfl, HN.out⟩, Below.refl _ _⟩
      · have H37 : Hid (∀ r, s.data.toList ≠ 37 :: r) := head_not hp h37
        have h37' : ((s[0].toNat : Int) == 37) = false := by rw [beq_eq_false_iff_ne]; omega
        clear h37
        go_enter Tryz.func83, Tryz.ntmps83
        go_wp2_with (go_at_call 129; refine (firstCode_no _ _ h4).mono ?_; rintro e w1 ⟨rfl, hb1⟩)
        go_region
        go_wp2_with fail
        refine (unescape_any _ _ (hD.below (hb1.alloc hb1.size _).drew hD.pos) hs).mono ?_
        rintro e w2 ⟨h, hb2⟩
        rcases h with ⟨t, rfl, ht⟩ | ⟨rfl, hno⟩
        · have HT : Hid (escB t = s.data.toList) := escB_of H37.out ht
          have HB : Hid (Below w.heap.size w w2) := (hb1.alloc hb1.size _).drew.trans (hb2.mono (hb1.alloc hb1.size _).drew.size)
          clear ht hb2
          go_wp2
          go_ret2
          exact ⟨.inl ⟨t, rfl, HT.out⟩, HB.out⟩
        · have HN : Hid (∀ t, escB t ≠ s.data.toList) := fun t e => hno t (esc_of HC.out e)
          have HB : Hid (Below w.heap.size w w2) := (hb1.alloc hb1.size _).drew.trans (hb2.mono (hb1.alloc hb1.size _).drew.size)
          clear hno hb2
          go_wp2
          go_ret2
          exact ⟨.inr ⟨rfl, HN.out⟩, HB.out⟩
  · have h4' : 4 ≤ s.size := by omega
    have hp : 0 < s.size := by omega
    clear h4
    obtain ⟨hne, hne'⟩ := toList_ne hp
    by_cases h37 : s[0].toNat = 37
    · have HN : Hid (∀ t, escB t ≠ s.data.toList) := fun t e => by
        rw [head_cons s hp, UInt8.toNat_inj.1 (show s[0].toNat = (37 : UInt8).toNat from h37)] at e
        exact escB_ne37 _ _ e
      go_enter Tryz.func83, Tryz.ntmps83
      go_wp2
      go_ret2
      exact ⟨.inr ⟨rfl, HN.out⟩, Below.refl _ _⟩
    · have H37 : Hid (∀ r, s.data.toList ≠ 37 :: r) := head_not hp h37
      have h37' : ((s[0].toNat : Int) == 37) = false := by rw [beq_eq_false_iff_ne]; omega
      clear h37
      have heq := eqCode (s[0].toNat : Int) (s[1].toNat : Int) (s[2].toNat : Int) (s[3].toNat : Int) 92 ((d1 37).toNat : Int) ((d2 37).toNat : Int) ((d3 37).toNat : Int)
      by_cases hq : eqB (s[0].toNat : Int) (s[1].toNat : Int) (s[2].toNat : Int) (s[3].toNat : Int) 92 ((d1 37).toNat : Int) ((d2 37).toNat : Int) ((d3 37).toNat : Int) = true
      · have HS : Hid (s.data.toList = code 37 ++ s.data.toList.drop 4) := by
          have := eqB_code.1 (eqB_symm hq)
          show _ = _
          rw [this]; exact four s h4'
        have hx : [(37 : UInt8)].length + (s.extract 4 s.size).size ≤ 140737488355328 := by simp; omega
        have i4 : (4 : Int) ≤ (s.size : Int) := by omega
        go_enter Tryz.func83, Tryz.ntmps83
        go_wp2_with (go_at_call 129; refine (firstCode_yes _ _ h4' hs).mono ?_; rintro e w1 ⟨rfl, hb1⟩)
        have hB : Below w.heap.size w (w1.alloc (.cells #[.int .u8 s[0].toNat, .int .u8 s[1].toNat, .int .u8 s[2].toNat, .int .u8 s[3].toNat] 124)).drew := (hb1.alloc hb1.size _).drew
        have hD2 := hD.below hB hD.pos
        go_region_with (go_at_call 130; refine (codeOf_any 37 _ hD2).mono ?_; rintro e w2 ⟨rfl, hb2⟩; obtain ⟨hc2, hf2⟩ := bcell hb2)
        all_goals go_wp2_with fail
        all_goals
          have hBw : Below w.heap.size w w2 := hB.trans (hb2.mono hB.size)
          have hBa : Below w.heap.size w (w2.alloc (.cells #[.int .u8 37] 5)) := hBw.alloc hBw.size _
          refine (appendPlain_any w.heap.size _ [37] _ _ (hD.below hBa hD.pos) hD.pos hBa.size (Owns.made w2 _ [37] hBw.size (by decide)) hx).mono ?_
          rw [extract_drop]
          rintro e w3 ⟨h, hb3⟩
          have HB : Hid (Below w.heap.size w w3) := hBa.trans hb3
          rcases h with ⟨v', t, rfl, hown, ht⟩ | ⟨rfl, hno⟩
          · have HT : Hid (escB (37 :: t) = s.data.toList) := by
              show code 37 ++ esc t = _
              rw [ht]; exact HS.out.symm
            have hc := (hown.as (show [37] ++ t = 37 :: t from rfl)).text (P := Tryz.prog) 79 9 5 Tryz.underlying79 Tryz.underlying5 Tryz.underlying9
            clear ht hown hb3 hBa hBw hb2 hc2 hf2
            go_wp2
            go_ret2
            exact ⟨.inl ⟨37 :: t, rfl, HT.out⟩, HB.out⟩
          · have HN : Hid (∀ t, escB t ≠ s.data.toList) := fun t e => by
              rw [HS.out] at e
              obtain ⟨r, rfl, e2⟩ := escB_code e
              exact hno r e2
            clear hno hb3 hBa hBw hb2 hc2 hf2
            go_wp2
            go_ret2
            exact ⟨.inr ⟨rfl, HN.out⟩, HB.out⟩
      · have hq' : eqB (s[0].toNat : Int) (s[1].toNat : Int) (s[2].toNat : Int) (s[3].toNat : Int) 92 ((d1 37).toNat : Int) ((d2 37).toNat : Int) ((d3 37).toNat : Int) = false := by simpa using hq
        have HC : Hid (∀ r, s.data.toList ≠ code 37 ++ r) := fun r e => hq (eqB_symm (eqB_code.2 (four_code h4' e)))
        clear hq
        go_enter Tryz.func83, Tryz.ntmps83
        go_wp2_with (go_at_call 129; refine (firstCode_yes _ _ h4' hs).mono ?_; rintro e w1 ⟨rfl, hb1⟩)
        have hB : Below w.heap.size w (w1.alloc (.cells #[.int .u8 s[0].toNat, .int .u8 s[1].toNat, .int .u8 s[2].toNat, .int .u8 s[3].toNat] 124)).drew := (hb1.alloc hb1.size _).drew
        have hD2 := hD.below hB hD.pos
        go_region_with (go_at_call 130; refine (codeOf_any 37 _ hD2).mono ?_; rintro e w3 ⟨rfl, hb3⟩; obtain ⟨hc2, hf2⟩ := bcell hb3)
        all_goals go_wp2_with fail
        all_goals
          have hBw : Below w.heap.size w w3 := hB.trans (hb3.mono hB.size)
          refine (unescape_any _ _ (hD.below hBw hD.pos) hs).mono ?_
          rintro e w2 ⟨h, hb2⟩
          rcases h with ⟨t, rfl, ht⟩ | ⟨rfl, hno⟩
          · have HT : Hid (escB t = s.data.toList) := escB_of H37.out ht
            have HB : Hid (Below w.heap.size w w2) := hBw.trans (hb2.mono hBw.size)
            clear ht hb2
            go_wp2
            go_ret2
            exact ⟨.inl ⟨t, rfl, HT.out⟩, HB.out⟩
          · have HN : Hid (∀ t, escB t ≠ s.data.toList) := fun t e => hno t (esc_of HC.out e)
            have HB : Hid (Below w.heap.size w w2) := hBw.trans (hb2.mono hBw.size)
            clear hno hb2
            go_wp2
            go_ret2
            exact ⟨.inr ⟨rfl, HN.out⟩, HB.out⟩
end Go.Proofs.YtplolaondmeccaaGreatDoor
