/-
  Keys: Bytes, by the document.
-/
import Derived.Test.YtjccpbodgbkcfaaDoorKRefS
namespace Go.Proofs.YtjccpbodgbkcfaaDoor
open Go.RowKit
set_option linter.unusedVariables false
set_option maxRecDepth 100000

set_option maxHeartbeats 1000000 in
theorem rbytes_no (c m : Int) (app : Bool) (hv : validB c m = false) (w : World) : Calls Tryd.prog 21 #[.agg #[.int .i64 c, .int .i64 m], .bool app] w fun r w' => r = .returned (.string (str [])) ∧ Below w.heap.size w w' := by
  have HV : Hid (∀ W, Calls Tryd.prog 19 #[.agg #[.int .i64 c, .int .i64 m]] W fun r w' => r = .returned (.bool false) ∧ Below W.heap.size W w') := fun W => by rw [← hv]; exact rvalid_any c m W
  have HFin : Hid (∀ W, Below (w.alloc (.cells #[.int .i64 c, .int .i64 m] 30)).heap.size (w.alloc (.cells #[.int .i64 c, .int .i64 m] 30)) W → Below w.heap.size w W) := fun W h => below_step ((Below.refl _ _).alloc (Nat.le_refl _) _) h
  clear hv
  go_enter Tryd.func21, Tryd.ntmps21
  go_wp2_with fail
  refine (HV.out _).mono ?_
  rintro e w1 ⟨rfl, hb1⟩
  have HB1 := hidK (HFin.out _ hb1)
  clear hb1
  go_wp2_with fail
  go_ret
  exact ⟨rfl, HB1.out⟩
set_option maxHeartbeats 2000000 in
theorem rbytes_btab (c m : Int) (app : Bool) (hv : validB c m = true) (hc : c = 16777239) (R : ByteArray) (hR : (⟨#[27, 91, 90]⟩ : ByteArray) = R) (w : World) : Calls Tryd.prog 21 #[.agg #[.int .i64 c, .int .i64 m], .bool app] w fun r w' => r = .returned (.string R) ∧ Below w.heap.size w w' := by
  obtain ⟨W, hW⟩ : ∃ W, w.alloc (.cells #[.int .i64 c, .int .i64 m] 30) = W := ⟨_, rfl⟩
  obtain ⟨K, hK⟩ : ∃ K, w.heap.size = K := ⟨_, rfl⟩
  have hk : Kb w W K c m := by rw [← hW, ← hK]; exact Kb.new w _ _
  have H := hidK hk
  have HK := hidK hK
  have k0 := hk.c0
  have k1 := hk.c1
  have HV : Hid (∀ X, Calls Tryd.prog 19 #[.agg #[.int .i64 c, .int .i64 m]] X fun r w' => r = .returned (.bool true) ∧ Below X.heap.size X w') := fun X => by rw [← hv]; exact rvalid_any c m X
  clear hk
  have HR := hidK hR
  have e1 : (c == 16777239) = true := by simpa using hc
  subst hc
  clear hv hR
  go_enter Tryd.func21, Tryd.ntmps21
  go_wp2_with fail
  refine (HV.out _).mono ?_
  rintro e w1 ⟨rfl, hb1⟩
  have H1 := hidK (H.out.more hb1)
  have a0 := H1.out.c0
  have a1 := H1.out.c1
  clear hb1 k0 k1
  go_wp2_with fail
  go_ret
  exact ⟨by rw [← HR.out]; rfl, by first | exact H1.out.below | (rw [← HK.out]; exact H1.out.below)⟩
set_option maxHeartbeats 2000000 in
theorem rbytes_special (c m : Int) (app : Bool) (hv : validB c m = true) (hc : spcB c = true) (R : ByteArray) (hR : str (rseqF c m app) = R) (w : World) : Calls Tryd.prog 21 #[.agg #[.int .i64 c, .int .i64 m], .bool app] w fun r w' => r = .returned (.string R) ∧ Below w.heap.size w w' := by
  obtain ⟨W, hW⟩ : ∃ W, w.alloc (.cells #[.int .i64 c, .int .i64 m] 30) = W := ⟨_, rfl⟩
  obtain ⟨K, hK⟩ : ∃ K, w.heap.size = K := ⟨_, rfl⟩
  have hk : Kb w W K c m := by rw [← hW, ← hK]; exact Kb.new w _ _
  have H := hidK hk
  have HK := hidK hK
  have k0 := hk.c0
  have k1 := hk.c1
  have HV : Hid (∀ X, Calls Tryd.prog 19 #[.agg #[.int .i64 c, .int .i64 m]] X fun r w' => r = .returned (.bool true) ∧ Below X.heap.size X w') := fun X => by rw [← hv]; exact rvalid_any c m X
  clear hk
  have HS : Hid (∀ W, Calls Tryd.prog 40 #[.int .i64 c] W fun r w' => r = .returned (.bool true) ∧ W = w') := fun W => by rw [← hc]; exact rspecial_any c W
  obtain ⟨_, _, h0, h7⟩ := valid_code hv
  have HQ := hidK (rseq_any c m app h0 h7)
  rw [hR] at HQ
  have hb : 16777217 ≤ c ∧ c ≤ 16777238 := by simpa [spcB] using hc
  have e1 : (c == 16777239) = false := by simp; omega
  clear hv hR hc hb h0 h7
  go_enter Tryd.func21, Tryd.ntmps21
  go_wp2_with fail
  refine (HV.out _).mono ?_
  rintro e w1 ⟨rfl, hb1⟩
  have H1 := hidK (H.out.more hb1)
  have a0 := H1.out.c0
  have a1 := H1.out.c1
  clear hb1 k0 k1
  go_wp2_with (go_at_call 40; refine (HS.out _).mono ?_; rintro e w2 ⟨rfl, rfl⟩)
  refine (HQ.out _).mono ?_
  rintro e w3 ⟨rfl, hb3⟩
  have HB3 := hidK (below_step H1.out.below hb3)
  clear hb3
  go_wp2_with fail
  go_ret
  exact ⟨rfl, by first | exact HB3.out | (rw [← HK.out]; exact HB3.out)⟩
set_option maxHeartbeats 4000000 in
theorem rbytes_low (c m : Int) (app : Bool) (hv : validB c m = true) (hc : spcB c = false) (hc2 : c ≠ 16777239) (hm : m = 0 ∨ m = 2) (h0 : 0 ≤ c) (h1 : c ≤ 1114111) (h2 : c < 55296 ∨ 57343 < c) (R : ByteArray) (hR : str ((if m = 2 then [27] else []) ++ Lib.encodeRune c) = R) (w : World) : Calls Tryd.prog 21 #[.agg #[.int .i64 c, .int .i64 m], .bool app] w fun r w' => r = .returned (.string R) ∧ Below w.heap.size w w' := by
  obtain ⟨W, hW⟩ : ∃ W, w.alloc (.cells #[.int .i64 c, .int .i64 m] 30) = W := ⟨_, rfl⟩
  obtain ⟨K, hK⟩ : ∃ K, w.heap.size = K := ⟨_, rfl⟩
  have hk : Kb w W K c m := by rw [← hW, ← hK]; exact Kb.new w _ _
  have H := hidK hk
  have HK := hidK hK
  have k0 := hk.c0
  have k1 := hk.c1
  have HV : Hid (∀ X, Calls Tryd.prog 19 #[.agg #[.int .i64 c, .int .i64 m]] X fun r w' => r = .returned (.bool true) ∧ Below X.heap.size X w') := fun X => by rw [← hv]; exact rvalid_any c m X
  clear hk
  have HS : Hid (∀ W, Calls Tryd.prog 40 #[.int .i64 c] W fun r w' => r = .returned (.bool false) ∧ W = w') := fun W => by rw [← hc]; exact rspecial_any c W
  have HU := hidK (rutf8_any c h0 (by omega))
  rw [r8_enc h0 h1 h2] at HU
  obtain ⟨U, hU⟩ : ∃ U, str (Lib.encodeRune c) = U := ⟨_, rfl⟩
  rw [hU] at HU
  have hUz : U.size ≤ 4 := by
    rw [← hU, ← r8_enc h0 h1 h2, str_size]
    unfold r8F
    split
    · simp
    · split
      · simp
      · split <;> simp
  have e1 : (c == 16777239) = false := by simpa using hc2
  rcases hm with h | h
  · subst h
    have HR : Hid ((⟨#[]⟩ : ByteArray) ++ U = R) := by
      show _ = _
      rw [← hR, ← hU]
      exact str_catK [] _
    clear hv hR hc hc2 h0 h1 h2 hU
    go_enter Tryd.func21, Tryd.ntmps21
    go_wp2_with fail
    refine (HV.out _).mono ?_
    rintro e w1 ⟨rfl, hb1⟩
    have H1 := hidK (H.out.more hb1)
    have a0 := H1.out.c0
    have a1 := H1.out.c1
    clear hb1 k0 k1
    go_wp2_with first | (go_at_call 40; refine (HS.out _).mono ?_; rintro e w2 ⟨rfl, rfl⟩) | (go_at_call 44; refine (HU.out _).mono ?_; rintro e w3 ⟨rfl, hb3⟩)
    go_ret
    exact ⟨by rw [← HR.out]; first | rfl | simp, by first | exact below_step H1.out.below hb3 | (rw [← HK.out]; exact below_step H1.out.below hb3)⟩
  · subst h
    have HR : Hid ((⟨#[27]⟩ : ByteArray) ++ U = R) := by
      show _ = _
      rw [← hR, ← hU]
      exact str_catK [27] _
    clear hv hR hc hc2 h0 h1 h2 hU
    go_enter Tryd.func21, Tryd.ntmps21
    go_wp2_with fail
    refine (HV.out _).mono ?_
    rintro e w1 ⟨rfl, hb1⟩
    have H1 := hidK (H.out.more hb1)
    have a0 := H1.out.c0
    have a1 := H1.out.c1
    clear hb1 k0 k1
    go_wp2_with first | (go_at_call 40; refine (HS.out _).mono ?_; rintro e w2 ⟨rfl, rfl⟩) | (go_at_call 44; refine (HU.out _).mono ?_; rintro e w3 ⟨rfl, hb3⟩)
    go_ret
    exact ⟨by rw [← HR.out]; first | rfl | simp, by first | exact below_step H1.out.below hb3 | (rw [← HK.out]; exact below_step H1.out.below hb3)⟩
set_option maxHeartbeats 4000000 in
theorem rbytes_ctl (c m : Int) (app : Bool) (hv : validB c m = true) (hc : spcB c = false) (hc2 : c ≠ 16777239) (hm : m = 4 ∨ m = 6) (h0 : 32 ≤ c) (h1 : c < 128) (R : ByteArray) (hR : str ((if m = 6 then [27] else []) ++ [(c % 32).toNat.toUInt8]) = R) (w : World) : Calls Tryd.prog 21 #[.agg #[.int .i64 c, .int .i64 m], .bool app] w fun r w' => r = .returned (.string R) ∧ Below w.heap.size w w' := by
  obtain ⟨W, hW⟩ : ∃ W, w.alloc (.cells #[.int .i64 c, .int .i64 m] 30) = W := ⟨_, rfl⟩
  obtain ⟨K, hK⟩ : ∃ K, w.heap.size = K := ⟨_, rfl⟩
  have hk : Kb w W K c m := by rw [← hW, ← hK]; exact Kb.new w _ _
  have H := hidK hk
  have HK := hidK hK
  have k0 := hk.c0
  have k1 := hk.c1
  have HV : Hid (∀ X, Calls Tryd.prog 19 #[.agg #[.int .i64 c, .int .i64 m]] X fun r w' => r = .returned (.bool true) ∧ Below X.heap.size X w') := fun X => by rw [← hv]; exact rvalid_any c m X
  clear hk
  have HS : Hid (∀ W, Calls Tryd.prog 40 #[.int .i64 c] W fun r w' => r = .returned (.bool false) ∧ W = w') := fun W => by rw [← hc]; exact rspecial_any c W
  have e1 : (c == 16777239) = false := by simpa using hc2
  by_cases h32 : c = 32
  · subst h32
    rcases hm with h | h
    · subst h
      have HR : Hid ((⟨#[0]⟩ : ByteArray) = R) := hR
      clear hv hR hc hc2 h0 h1
      go_enter Tryd.func21, Tryd.ntmps21
      go_wp2_with fail
      refine (HV.out _).mono ?_
      rintro e w1 ⟨rfl, hb1⟩
      have H1 := hidK (H.out.more hb1)
      have a0 := H1.out.c0
      have a1 := H1.out.c1
      clear hb1 k0 k1
      go_wp2_with (go_at_call 40; refine (HS.out _).mono ?_; rintro e w2 ⟨rfl, rfl⟩)
      go_ret
      exact ⟨by rw [← HR.out]; rfl, by first | exact H1.out.below | (rw [← HK.out]; exact H1.out.below)⟩
    · subst h
      have HR : Hid ((⟨#[27, 0]⟩ : ByteArray) = R) := hR
      clear hv hR hc hc2 h0 h1
      go_enter Tryd.func21, Tryd.ntmps21
      go_wp2_with fail
      refine (HV.out _).mono ?_
      rintro e w1 ⟨rfl, hb1⟩
      have H1 := hidK (H.out.more hb1)
      have a0 := H1.out.c0
      have a1 := H1.out.c1
      clear hb1 k0 k1
      go_wp2_with (go_at_call 40; refine (HS.out _).mono ?_; rintro e w2 ⟨rfl, rfl⟩)
      go_ret
      exact ⟨by rw [← HR.out]; rfl, by first | exact H1.out.below | (rw [← HK.out]; exact H1.out.below)⟩
  · have e2 : (c == 32) = false := by simpa using h32
    obtain ⟨y, hy⟩ : ∃ y, c % 32 = y := ⟨_, rfl⟩
    have r0 : 0 ≤ y ∧ y < 256 := by omega
    obtain ⟨b0, q0, f0⟩ := byte_ex y r0.1 r0.2
    have hw0 := u8_in y r0
    rw [hy, ← f0] at hR
    have hcv : ∀ X : World, (convert 52 9 (.slice (some ⟨X.heap.size, 0, none⟩) 1 1)).run Tryd.prog (X.alloc (.cells #[.int .u8 y] 5)) = .ok (.string (str [b0])) (X.alloc (.cells #[.int .u8 y] 5)) := fun X => by
      rw [q0]
      exact conv_made [b0] (by simp) X
    obtain ⟨D, hD⟩ : ∃ D, str [b0] = D := ⟨_, rfl⟩
    have zD : D.size = 1 := by rw [← hD]; rfl
    rw [hD] at hcv
    rcases hm with h | h
    · subst h
      have HR : Hid ((⟨#[]⟩ : ByteArray) ++ D = R) := by
        show _ = _
        rw [← hR, ← hD]
        exact str_catK [] _
      clear hv hR hc hc2 h32 f0 q0 hD r0
      go_enter Tryd.func21, Tryd.ntmps21
      go_wp2_with fail
      refine (HV.out _).mono ?_
      rintro e w1 ⟨rfl, hb1⟩
      have H1 := hidK (H.out.more hb1)
      have a0 := H1.out.c0
      have a1 := H1.out.c1
      clear hb1 k0 k1
      have hcv1 := hcv w1
      clear hcv
      go_wp2_with (go_at_call 40; refine (HS.out _).mono ?_; rintro e w2 ⟨rfl, rfl⟩)
      go_ret
      exact ⟨by rw [← HR.out]; first | rfl | simp, by first | exact below_step H1.out.below ((Below.refl _ _).alloc (Nat.le_refl _) _) | (rw [← HK.out]; exact below_step H1.out.below ((Below.refl _ _).alloc (Nat.le_refl _) _))⟩
    · subst h
      have HR : Hid ((⟨#[27]⟩ : ByteArray) ++ D = R) := by
        show _ = _
        rw [← hR, ← hD]
        exact str_catK [27] _
      clear hv hR hc hc2 h32 f0 q0 hD r0
      go_enter Tryd.func21, Tryd.ntmps21
      go_wp2_with fail
      refine (HV.out _).mono ?_
      rintro e w1 ⟨rfl, hb1⟩
      have H1 := hidK (H.out.more hb1)
      have a0 := H1.out.c0
      have a1 := H1.out.c1
      clear hb1 k0 k1
      have hcv1 := hcv w1
      clear hcv
      go_wp2_with (go_at_call 40; refine (HS.out _).mono ?_; rintro e w2 ⟨rfl, rfl⟩)
      go_ret
      exact ⟨by rw [← HR.out]; first | rfl | simp, by first | exact below_step H1.out.below ((Below.refl _ _).alloc (Nat.le_refl _) _) | (rw [← HK.out]; exact below_step H1.out.below ((Below.refl _ _).alloc (Nat.le_refl _) _))⟩
theorem rbytes_any (c m : Int) (app : Bool) (w : World) : Calls Tryd.prog 21 #[.agg #[.int .i64 c, .int .i64 m], .bool app] w fun r w' => r = .returned (.string (str (bytesF c m app))) ∧ Below w.heap.size w w' := by
  unfold bytesF
  cases hv : validB c m with
  | false => rw [if_neg (by decide)]; exact rbytes_no c m app hv w
  | true =>
    rw [if_pos rfl]
    by_cases h1 : c = 16777239
    · rw [if_pos h1]
      exact rbytes_btab c m app hv h1 _ rfl w
    · rw [if_neg h1]
      cases h2 : spcB c with
      | true =>
        rw [if_pos rfl]
        obtain ⟨_, _, h0, h7⟩ := valid_code hv
        obtain ⟨k, s, e, hk, _, _⟩ := spc_at h2
        have hq := rseq_eq ⟨k, hk⟩ ⟨m.toNat, by omega⟩ app
        simp only at hq
        rw [show ((m.toNat : Nat) : Int) = m by omega, ← e] at hq
        rw [show (c - 16777217).toNat = k by omega, ← hq]
        exact rbytes_special c m app hv h2 _ rfl w
      | false =>
        rw [if_neg (by decide)]
        have hcl : ((m = 0 ∨ m = 2) ∧ 0 ≤ c ∧ c ≤ 1114111 ∧ (c < 55296 ∨ 57343 < c)) ∨ ((m = 4 ∨ m = 6) ∧ 32 ≤ c ∧ c < 128) := by
          unfold validB at hv
          by_cases q1 : c = 32
          · rw [if_pos q1] at hv
            simp [plainM, ctrlM] at hv
            omega
          · rw [if_neg q1] at hv
            by_cases q2 : oneB c = true
            · rw [if_pos q2] at hv
              simp [plainM, oneB] at hv q2
              omega
            · rw [if_neg q2, if_neg h1, if_neg (by simp [h2])] at hv
              simp [plainM, ctrlM, chrB, ctlB] at hv
              omega
        rcases hcl with ⟨hm, a1, a2, a3⟩ | ⟨hm, a1, a2⟩
        · refine rbytes_low c m app hv h2 h1 hm a1 a2 a3 _ ?_ w
          rcases hm with e | e <;> subst e <;> rfl
        · refine rbytes_ctl c m app hv h2 h1 hm a1 a2 _ ?_ w
          have he : Lib.encodeRune (c % 32) = [(c % 32).toNat.toUInt8] := by
            unfold Lib.encodeRune
            rw [Lib.encodeRuneZ_one (by omega) (by omega)]
            rfl
          rcases hm with e | e <;> subst e <;> simp [hasM, he]
end Go.Proofs.YtjccpbodgbkcfaaDoor
