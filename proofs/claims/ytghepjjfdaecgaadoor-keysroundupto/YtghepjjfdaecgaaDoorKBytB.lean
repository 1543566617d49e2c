/-
  Keys: Bytes, whole.
-/
import Derived.Test.YtghepjjfdaecgaaDoorKByt
import Derived.RegionTactic
import Derived.BigRegion
namespace Go.Proofs.YtghepjjfdaecgaaDoor
open Go.RowKit
set_option linter.unusedVariables false
set_option maxRecDepth 100000

set_option maxHeartbeats 1000000 in
theorem byt_no (c m : Int) (app : Bool) (hv : validB c m = false) (w : World) : Calls Tryd.prog 15 #[.agg #[.int .i64 c, .int .i64 m], .bool app] w fun r w' => r = .returned (.string (str [])) ∧ Below w.heap.size w w' := by
  have HV : Hid (∀ W, Calls Tryd.prog 13 #[.agg #[.int .i64 c, .int .i64 m]] W fun r w' => r = .returned (.bool false) ∧ Below W.heap.size W w') := fun W => by rw [← hv]; exact valid_any c m W
  have HFin : Hid (∀ W, Below (w.alloc (.cells #[.int .i64 c, .int .i64 m] 30)).heap.size (w.alloc (.cells #[.int .i64 c, .int .i64 m] 30)) W → Below w.heap.size w W) := fun W h => below_step ((Below.refl _ _).alloc (Nat.le_refl _) _) h
  clear hv
  go_enter Tryd.func15, Tryd.ntmps15
  go_wp2_with fail
  refine (HV.out _).mono ?_
  rintro e w1 ⟨rfl, hb1⟩
  have HB1 := hidK (HFin.out _ hb1)
  clear hb1
  go_wp2_with fail
  go_ret
  exact ⟨rfl, HB1.out⟩
/-- The key's own block. -/
structure Kb (w W : World) (K : Nat) (c m : Int) : Prop where
  below : Below w.heap.size w W
  key : W.heap[K]? = some (.cells #[.int .i64 c, .int .i64 m] 30 (0, 0))
theorem Kb.new (w : World) (c m : Int) : Kb w (w.alloc (.cells #[.int .i64 c, .int .i64 m] 30)) w.heap.size c m := ⟨(Below.refl _ _).alloc (Nat.le_refl _) _, heap_alloc_new w _⟩
theorem Kb.more {w W W' : World} {K : Nat} {c m : Int} (h : Kb w W K c m) (hb : Below W.heap.size W W') : Kb w W' K c m := ⟨below_step h.below hb, (hb.block K (lt_block h.key)).trans h.key⟩
theorem Kb.c0 {w W : World} {K : Nat} {c m : Int} (h : Kb w W K c m) : W.cell? ⟨K, 0, none⟩ = some (.int .i64 c) := cell_at h.key 0
theorem Kb.c1 {w W : World} {K : Nat} {c m : Int} (h : Kb w W K c m) : W.cell? ⟨K, 1, none⟩ = some (.int .i64 m) := cell_at h.key 1
set_option maxHeartbeats 1000000 in
theorem byt_btab (app : Bool) (w : World) : Calls Tryd.prog 15 #[.agg #[.int .i64 16777239, .int .i64 0], .bool app] w fun r w' => r = .returned (.string (str [27, 91, 90])) ∧ Below w.heap.size w w' := by
  have HV : Hid (∀ W, Calls Tryd.prog 13 #[.agg #[.int .i64 16777239, .int .i64 0]] W fun r w' => r = .returned (.bool true) ∧ Below W.heap.size W w') := valid_any 16777239 0
  obtain ⟨W, hW⟩ : ∃ W, w.alloc (.cells #[.int .i64 16777239, .int .i64 0] 30) = W := ⟨_, rfl⟩
  obtain ⟨K, hK⟩ : ∃ K, w.heap.size = K := ⟨_, rfl⟩
  have hk : Kb w W K 16777239 0 := by rw [← hW, ← hK]; exact Kb.new w _ _
  have H := hidK hk
  have k0 := hk.c0
  have k1 := hk.c1
  clear hk
  go_enter Tryd.func15, Tryd.ntmps15
  go_wp2_with fail
  refine (HV.out _).mono ?_
  rintro e w1 ⟨rfl, hb1⟩
  have H1 := hidK (H.out.more hb1)
  have a0 := H1.out.c0
  clear hb1 k0 k1
  go_wp2_with fail
  go_ret
  exact ⟨rfl, by first | exact H1.out.below | (rw [← hK]; exact H1.out.below)⟩
theorem spx_at : ∀ k : Fin 22, ∀ W : World, (Instr.indexAt 59 (.pointer (some ⟨0, 0, none⟩)) (.int .i64 (k.val : Int))).run Tryd.prog W = .ok (.pointer (some ⟨0, k.val * 4, none⟩)) W := by
  intro k
  match k with
  | ⟨0, _⟩ => exact fun W => by kernel_rfl
  | ⟨1, _⟩ => exact fun W => by kernel_rfl
  | ⟨2, _⟩ => exact fun W => by kernel_rfl
  | ⟨3, _⟩ => exact fun W => by kernel_rfl
  | ⟨4, _⟩ => exact fun W => by kernel_rfl
  | ⟨5, _⟩ => exact fun W => by kernel_rfl
  | ⟨6, _⟩ => exact fun W => by kernel_rfl
  | ⟨7, _⟩ => exact fun W => by kernel_rfl
  | ⟨8, _⟩ => exact fun W => by kernel_rfl
  | ⟨9, _⟩ => exact fun W => by kernel_rfl
  | ⟨10, _⟩ => exact fun W => by kernel_rfl
  | ⟨11, _⟩ => exact fun W => by kernel_rfl
  | ⟨12, _⟩ => exact fun W => by kernel_rfl
  | ⟨13, _⟩ => exact fun W => by kernel_rfl
  | ⟨14, _⟩ => exact fun W => by kernel_rfl
  | ⟨15, _⟩ => exact fun W => by kernel_rfl
  | ⟨16, _⟩ => exact fun W => by kernel_rfl
  | ⟨17, _⟩ => exact fun W => by kernel_rfl
  | ⟨18, _⟩ => exact fun W => by kernel_rfl
  | ⟨19, _⟩ => exact fun W => by kernel_rfl
  | ⟨20, _⟩ => exact fun W => by kernel_rfl
  | ⟨21, _⟩ => exact fun W => by kernel_rfl
  | ⟨k + 22, h⟩ => exact absurd h (by omega)
set_option maxHeartbeats 2000000 in
theorem byt_special (c m : Int) (app : Bool) (hv : validB c m = true) (hc : spcB c = true) {w : World} (hT : Tabs w) : Calls Tryd.prog 15 #[.agg #[.int .i64 c, .int .i64 m], .bool app] w fun r w' => r = .returned (.string (str (seqF (spT.getD (c - 16777217).toNat ⟨[], [], [], []⟩) m app))) ∧ Below w.heap.size w w' := by
  have HV : Hid (∀ W, Calls Tryd.prog 13 #[.agg #[.int .i64 c, .int .i64 m]] W fun r w' => r = .returned (.bool true) ∧ Below W.heap.size W w') := fun W => by rw [← hv]; exact valid_any c m W
  have HS : Hid (∀ W, Calls Tryd.prog 26 #[.int .i64 c] W fun r w' => r = .returned (.bool true) ∧ W = w') := fun W => by rw [← hc]; exact isSpecial_any c W
  obtain ⟨k, s, e, hk, hs, hg⟩ := spc_at hc
  obtain ⟨h0, h1, h2, h3⟩ := valid_code hv
  rw [hg]
  have hmem : s ∈ spT := List.mem_of_getElem? hs
  obtain ⟨N, hN⟩ : ∃ N, str s.name = N := ⟨_, rfl⟩
  obtain ⟨H, hH⟩ : ∃ H, str s.head = H := ⟨_, rfl⟩
  obtain ⟨L, hL⟩ : ∃ L, str s.letter = L := ⟨_, rfl⟩
  obtain ⟨U, hU⟩ : ∃ U, str s.number = U := ⟨_, rfl⟩
  obtain ⟨R, hR⟩ : ∃ R, str (seqF s m app) = R := ⟨_, rfl⟩
  have HBy : Hid (∀ W, Calls Tryd.prog 29 #[.agg #[.string N, .string H, .string L, .string U], .int .i64 m, .bool app] W fun r w' => r = .returned (.string R) ∧ Below W.heap.size W w') := fun W => by
    rw [← hN, ← hH, ← hL, ← hU, ← hR]
    by_cases hm : m = 0
    · subst hm; exact bytes_zero s hmem app W
    · exact bytes_mods s hmem m (by omega) h3 app W
  rw [hR]
  have HTs : Hid (∀ W, Below w.heap.size w W → W.cell? ⟨0, k * 4, none⟩ = some (.string N) ∧ W.cell? ⟨0, k * 4 + 1, none⟩ = some (.string H) ∧ W.cell? ⟨0, k * 4 + 2, none⟩ = some (.string L) ∧ W.cell? ⟨0, k * 4 + 3, none⟩ = some (.string U)) := fun W hW => by
    rw [← hN, ← hH, ← hL, ← hU]
    exact (hT.below hW).sp.at hs
  have hi : c - 16777217 = (k : Int) := by omega
  have hk2 : (k : Int) < 22 := by omega
  have hix : ∀ W : World, (Instr.indexAt 59 (.pointer (some ⟨0, 0, none⟩)) (.int .i64 (k : Int))).run Tryd.prog W = .ok (.pointer (some ⟨0, k * 4, none⟩)) W := spx_at ⟨k, hk⟩
  have hwr : IntKind.i64.wrap (k : Int) = (k : Int) := by
    have := IntKind.wrap_i64 (k : Int)
    omega
  have e6 : (c == 16777239) = false := by
    have : c ≤ 16777238 := by have : 16777217 ≤ c ∧ c ≤ 16777238 := by simpa [spcB] using hc
                              exact this.2
    simp; omega
  obtain ⟨W, hW⟩ : ∃ W, w.alloc (.cells #[.int .i64 c, .int .i64 m] 30) = W := ⟨_, rfl⟩
  obtain ⟨K, hK⟩ : ∃ K, w.heap.size = K := ⟨_, rfl⟩
  have hkb : Kb w W K c m := by rw [← hW, ← hK]; exact Kb.new w _ _
  have HKb := hidK hkb
  have k0 := hkb.c0
  have k1 := hkb.c1
  have HK := hidK hK
  clear hkb hg hc hs hN hH hL hU hR e hT hv h0 h1 h2 h3 hmem
  go_enter Tryd.func15, Tryd.ntmps15
  go_wp2_with fail
  refine (HV.out _).mono ?_
  rintro e w1 ⟨rfl, hb1⟩
  have H1 := hidK (HKb.out.more hb1)
  have a0 := H1.out.c0
  have a1 := H1.out.c1
  obtain ⟨t0, t1, t2, t3⟩ := HTs.out w1 H1.out.below
  clear hb1 k0 k1
  go_wp2_with (go_at_call 26; refine (HS.out _).mono ?_; rintro e w1 ⟨rfl, rfl⟩)
  go_region_with (go_at_call 29; refine (HBy.out _).mono ?_; rintro e w2 ⟨rfl, hb2⟩; have HB2 := hidK hb2; clear hb2)
  all_goals go_wp2_with fail
  all_goals go_ret
  all_goals refine ⟨rfl, ?_⟩
  all_goals first | rw [← HK.out] | skip
  all_goals exact below_step H1.out.below (below_step (by repeat (first | exact Below.refl _ _ | apply Below.drew)) HB2.out)
set_option maxHeartbeats 2000000 in
theorem byt_plain (c m : Int) (app : Bool) (hv : validB c m = true) (hc : spcB c = false) (hc2 : c ≠ 16777239) {w : World} : Calls Tryd.prog 15 #[.agg #[.int .i64 c, .int .i64 m], .bool app] w fun r w' => r = .returned (.string (str ((if hasM m 2 then [27] else []) ++ Lib.encodeRune (if hasM m 4 then c % 32 else c)))) ∧ Below w.heap.size w w' := by
  have HV : Hid (∀ W, Calls Tryd.prog 13 #[.agg #[.int .i64 c, .int .i64 m]] W fun r w' => r = .returned (.bool true) ∧ Below W.heap.size W w') := fun W => by rw [← hv]; exact valid_any c m W
  have HS : Hid (∀ W, Calls Tryd.prog 26 #[.int .i64 c] W fun r w' => r = .returned (.bool false) ∧ W = w') := fun W => by rw [← hc]; exact isSpecial_any c W
  obtain ⟨h0, h1, h2, h3⟩ := valid_code hv
  have hsmall : hasM m 4 = true → c < 128 := by
    intro hh
    have h4 : 4 ≤ m := by simpa [hasM] using hh
    unfold validB at hv
    by_cases q1 : c = 32
    · omega
    · rw [if_neg q1] at hv
      by_cases q2 : oneB c = true
      · have q3 : c = 13 ∨ c = 9 ∨ c = 27 ∨ c = 127 := by simpa [oneB] using q2
        omega
      · rw [if_neg q2, if_neg hc2, if_neg (by simp [hc])] at hv
        simp [plainM, ctrlM, chrB, ctlB] at hv
        omega
  have e6 : (c == 16777239) = false := by simpa using hc2
  have b4 := (bit_has h2 h3 (k := 0) rfl).1
  have b2 := (bit_has h2 h3 (k := 1) rfl).1
  obtain ⟨W, hW⟩ : ∃ W, w.alloc (.cells #[.int .i64 c, .int .i64 m] 30) = W := ⟨_, rfl⟩
  obtain ⟨K, hK⟩ : ∃ K, w.heap.size = K := ⟨_, rfl⟩
  have hkb : Kb w W K c m := by rw [← hW, ← hK]; exact Kb.new w _ _
  have HKb := hidK hkb
  have k0 := hkb.c0
  have k1 := hkb.c1
  have HK := hidK hK
  clear hkb hc hv hc2
  obtain ⟨d, hd⟩ : ∃ d : Int, (if hasM m 4 then c % 32 else c) = d := ⟨_, rfl⟩
  have hd0 : 0 ≤ d ∧ d ≤ 16777239 := by rw [← hd]; split <;> omega
  have hw : IntKind.i32.wrap d = d := by
    have := IntKind.wrap_i32 d
    omega
  obtain ⟨E, hE⟩ : ∃ E, str (Lib.encodeRune d) = E := ⟨_, rfl⟩
  have hEn : Utf8.encode d = E := by rw [← hE]; exact enc_eq hd0.1
  have hEz : E.size ≤ 4 := by
    rw [← hE, str_size]
    unfold Lib.encodeRune Lib.encodeRuneZ
    split
    · simp
    · split
      · simp
      · split
        · simp
        · split <;> simp
  rw [hd]
  obtain ⟨R, hR⟩ : ∃ R, str ((if hasM m 2 then [27] else []) ++ Lib.encodeRune d) = R := ⟨_, rfl⟩
  rw [hR]
  cases g4 : hasM m 4 with
  | true =>
    have hcc := hsmall g4
    have HCb : Hid (∀ W, Calls Tryd.prog 30 #[.int .i64 c] W fun r w' => r = .returned (.int .i64 d) ∧ W = w') := fun W => by rw [← hd, if_pos g4]; exact controlByte_any c h0 hcc W
    rw [if_pos g4] at b4
    cases g2 : hasM m 2 with
    | true =>
      rw [if_pos g2] at b2
      have HR : Hid ((⟨#[27]⟩ : ByteArray) ++ E = R) := by
        show _ = _
        rw [← hR, ← hE, if_pos g2]
        exact str_catK [27] _
      clear hR hE hd g4 g2 hsmall hcc hd0 h0 h1 h2 h3
      go_enter Tryd.func15, Tryd.ntmps15
      go_wp2_with fail
      refine (HV.out _).mono ?_
      rintro e w1 ⟨rfl, hb1⟩
      have H1 := hidK (HKb.out.more hb1)
      have a0 := H1.out.c0
      have a1 := H1.out.c1
      clear hb1 k0 k1
      go_wp2_with first | (go_at_call 26; refine (HS.out _).mono ?_; rintro e w1 ⟨rfl, rfl⟩) | (go_at_call 30; refine (HCb.out _).mono ?_; rintro e w1 ⟨rfl, rfl⟩)
      go_ret
      exact ⟨by rw [← HR.out]; rfl, by first | exact H1.out.below | (rw [← HK.out]; exact H1.out.below)⟩
    | false =>
      rw [if_neg (by simp [g2])] at b2
      have HR : Hid (E = R) := by
        show _ = _
        rw [← hR, ← hE, if_neg (by simp [g2])]
        rfl
      clear hR hE hd g4 g2 hsmall hcc hd0 h0 h1 h2 h3
      go_enter Tryd.func15, Tryd.ntmps15
      go_wp2_with fail
      refine (HV.out _).mono ?_
      rintro e w1 ⟨rfl, hb1⟩
      have H1 := hidK (HKb.out.more hb1)
      have a0 := H1.out.c0
      have a1 := H1.out.c1
      clear hb1 k0 k1
      go_wp2_with first | (go_at_call 26; refine (HS.out _).mono ?_; rintro e w1 ⟨rfl, rfl⟩) | (go_at_call 30; refine (HCb.out _).mono ?_; rintro e w1 ⟨rfl, rfl⟩)
      go_ret
      exact ⟨by rw [← HR.out]; rfl, by first | exact H1.out.below | (rw [← HK.out]; exact H1.out.below)⟩
  | false =>
    obtain rfl : c = d := by rw [← hd, if_neg (by simp [g4])]
    rw [if_neg (by simp [g4])] at b4
    cases g2 : hasM m 2 with
    | true =>
      rw [if_pos g2] at b2
      have HR : Hid ((⟨#[27]⟩ : ByteArray) ++ E = R) := by
        show _ = _
        rw [← hR, ← hE, if_pos g2]
        exact str_catK [27] _
      clear hR hE hd g4 g2 hsmall hd0 h0 h1 h2 h3
      go_enter Tryd.func15, Tryd.ntmps15
      go_wp2_with fail
      refine (HV.out _).mono ?_
      rintro e w1 ⟨rfl, hb1⟩
      have H1 := hidK (HKb.out.more hb1)
      have a0 := H1.out.c0
      have a1 := H1.out.c1
      clear hb1 k0 k1
      go_wp2_with (go_at_call 26; refine (HS.out _).mono ?_; rintro e w1 ⟨rfl, rfl⟩)
      go_ret
      exact ⟨by rw [← HR.out]; rfl, by first | exact H1.out.below | (rw [← HK.out]; exact H1.out.below)⟩
    | false =>
      rw [if_neg (by simp [g2])] at b2
      have HR : Hid (E = R) := by
        show _ = _
        rw [← hR, ← hE, if_neg (by simp [g2])]
        rfl
      clear hR hE hd g4 g2 hsmall hd0 h0 h1 h2 h3
      go_enter Tryd.func15, Tryd.ntmps15
      go_wp2_with fail
      refine (HV.out _).mono ?_
      rintro e w1 ⟨rfl, hb1⟩
      have H1 := hidK (HKb.out.more hb1)
      have a0 := H1.out.c0
      have a1 := H1.out.c1
      clear hb1 k0 k1
      go_wp2_with (go_at_call 26; refine (HS.out _).mono ?_; rintro e w1 ⟨rfl, rfl⟩)
      go_ret
      exact ⟨by rw [← HR.out]; rfl, by first | exact H1.out.below | (rw [← HK.out]; exact H1.out.below)⟩
theorem bytes_any (c m : Int) (app : Bool) {w : World} (hT : Tabs w) : Calls Tryd.prog 15 #[.agg #[.int .i64 c, .int .i64 m], .bool app] w fun r w' => r = .returned (.string (str (bytesF c m app))) ∧ Below w.heap.size w w' := by
  unfold bytesF
  cases hv : validB c m with
  | false => rw [if_neg (by decide)]; exact byt_no c m app hv w
  | true =>
    rw [if_pos rfl]
    by_cases h1 : c = 16777239
    · rw [if_pos h1]
      subst h1
      have : m = 0 := by simpa [validB, oneB] using hv
      subst this
      exact byt_btab app w
    · rw [if_neg h1]
      cases h2 : spcB c with
      | true => rw [if_pos rfl]; exact byt_special c m app hv h2 hT
      | false => rw [if_neg (by decide)]; exact byt_plain c m app hv h2 h1
end Go.Proofs.YtghepjjfdaecgaaDoor
