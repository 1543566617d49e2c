/-
  Keys: what stands at the beginning of bytes, by the document.
-/
import Derived.Test.YtnehkokppobncaaDoorKCon
import Derived.Test.YtnehkokppobncaaDoorKRefL
namespace Go.Proofs.YtnehkokppobncaaDoor
open Go.RowKit
set_option linter.unusedVariables false
set_option maxRecDepth 100000

theorem lett_sp : ∀ k : Fin 22, lettF (16777217 + (k.val : Int)) = (spT.getD k.val ⟨[], [], [], []⟩).letter := by decide
theorem findT_hit {p : Sp → Bool} : ∀ {l : List Sp} {i k : Nat}, k < l.length → (∀ j, j < k → p (l.getD j ⟨[], [], [], []⟩) = false) → p (l.getD k ⟨[], [], [], []⟩) = true → findT p l i = some (i + k)
  | [], _, k, h, _, _ => by simp at h
  | a :: r, i, 0, _, _, h => by
    unfold findT
    rw [if_pos (by exact h)]
    rfl
  | a :: r, i, k + 1, h, hn, hp => by
    unfold findT
    have h0 : p a = false := hn 0 (by omega)
    rw [if_neg (by rw [h0]; decide), findT_hit (k := k) (by simpa using h) (fun j hj => by have := hn (j + 1) (by omega); simpa using this) (by simpa using hp)]
    congr 1
    omega
theorem findT_miss {p : Sp → Bool} {l : List Sp} {i : Nat} (h : ∀ j, j < l.length → p (l.getD j ⟨[], [], [], []⟩) = false) : findT p l i = none :=
  find_none fun s hs => by
    obtain ⟨j, hj, rfl⟩ := List.mem_iff_getElem.1 hs
    have := h j hj
    rwa [List.getD_eq_getElem?_getD, List.getElem?_eq_getElem hj] at this
set_option maxHeartbeats 8000000 in
theorem rbegin_any (l : List UInt8) (hne : l ≠ []) (hl : l.length ≤ 140737488355328) (w : World) : Calls Tryd.prog 19 #[.string (str l)] w fun e w' => e = .returned (stepV (beginD l)) ∧ Below w.heap.size w w' := by
  obtain ⟨V, Z, hV, hZ, HV, HZ, z0, z1, f0, f1⟩ := key_new w
  have HPz : Hid (∀ X, Below w.heap.size w X → Below Z w X) := fun X hX => by rw [← hZ]; exact hX
  obtain ⟨A, hA⟩ : ∃ A, str l = A := ⟨_, rfl⟩
  match l, hne with
  | x :: r, _ =>
    have hA0 : 0 < A.size := by rw [← hA]; simp [str_size]
    obtain ⟨B0, hB0⟩ : ∃ B0, x.toNat = B0 := ⟨_, rfl⟩
    have hg0 : (A[0]'hA0).toNat = B0 := by subst hA; exact hB0
    have h27 : x = 27 ↔ B0 = 27 := ⟨fun e => by rw [← hB0, e]; rfl, fun e => UInt8.toNat_inj.1 (by rw [hB0, e]; rfl)⟩
    have zA : A.size = r.length + 1 := by rw [← hA]; rfl
    have hl' : (r.length : Int) ≤ 140737488355328 := by simp at hl; omega
    by_cases hx : x = 27
    · have e7 := h27.1 hx
      subst hx
      clear h27 hB0
      subst e7
      cases r with
      | nil =>
        have : beginD [27] = ((0, 0), 0) := rfl
        rw [this, hA]
        have zA1 : A.size = 1 := zA
        clear hA
        go_enter Tryd.func19, Tryd.ntmps19
        go_wp2_with fail
        all_goals exact key_end2 rfl HV.out HZ.out rfl rfl fun X hX => ⟨rfl, by first | exact hX | exact HPz.out X hX⟩
      | cons y r =>
        have hb : beginD (27 :: y :: r) = if y = 91 then controlD (27 :: y :: r) else if y = 79 then (if (27 :: y :: r).length < 3 then ((0, 0), 0) else (shiftD ((27 :: y :: r).getD 2 0), 3)) else metaD (27 :: y :: r) := by
          unfold beginD
          rw [if_neg (by simp), if_neg (by simp)]
          rfl
        rw [hb]
        have hA1 : 1 < A.size := by rw [zA]; simp
        obtain ⟨B1, hB1⟩ : ∃ B1, y.toNat = B1 := ⟨_, rfl⟩
        have hg1 : (A[1]'hA1).toNat = B1 := by subst hA; exact hB1
        have y91 : y = 91 ↔ B1 = 91 := ⟨fun e => by rw [← hB1, e]; rfl, fun e => UInt8.toNat_inj.1 (by rw [hB1, e]; rfl)⟩
        have y79 : y = 79 ↔ B1 = 79 := ⟨fun e => by rw [← hB1, e]; rfl, fun e => UInt8.toNat_inj.1 (by rw [hB1, e]; rfl)⟩
        have zS : ¬ (A.size : Int) = 1 := by rw [zA]; simp; omega
        have zS' : ((A.size : Int) == 1) = false := by simpa using zS
        have zS2 : ¬ A.size = 1 := by omega
        by_cases h91 : y = 91
        · rw [if_pos h91]
          have e1 := y91.1 h91
          subst h91
          have HC := hidK (rcontrol_any r hl)
          rw [hA] at HC ⊢
          obtain ⟨⟨⟨k1, k2⟩, n⟩, hp⟩ : ∃ p, controlD (27 :: 91 :: r) = p := ⟨_, rfl⟩
          rw [hp] at HC ⊢
          clear hA hp hb hB1 y91 y79 zA
          subst e1
          go_enter Tryd.func19, Tryd.ntmps19
          go_wp2_with fail
          refine (HC.out _).mono ?_
          rintro e w1 ⟨rfl, hb1⟩
          have HK := hidK (HV.out.more hb1)
          have v0 := HK.out.c0
          have v1 := HK.out.c1
          have v2 := HK.out.f 0
          have v3 := HK.out.f 1
          clear hb1
          unfold stepV
          go_wp2_with fail
          all_goals exact key_end2 rfl HK.out HZ.out rfl rfl fun X hX => ⟨rfl, by first | exact hX | exact HPz.out X hX⟩
        · rw [if_neg h91]
          have n91 : ¬ B1 = 91 := fun e => h91 (y91.2 e)
          have n91i : ¬ (B1 : Int) = 91 := by omega
          have n91b : ((B1 : Int) == 91) = false := by simpa using n91i
          by_cases h79 : y = 79
          · rw [if_pos h79]
            have e1 := y79.1 h79
            subst h79
            clear y91 y79 hB1 h91 n91
            subst e1
            cases r with
            | nil =>
              rw [if_pos (by simp), hA]
              have zA2 : A.size = 2 := zA
              clear hA hb zA
              go_enter Tryd.func19, Tryd.ntmps19
              go_wp2_with fail
              all_goals exact key_end2 rfl HV.out HZ.out rfl rfl fun X hX => ⟨rfl, by first | exact hX | exact HPz.out X hX⟩
            | cons b r =>
              rw [if_neg (by simp)]
              obtain ⟨SD, hSD⟩ : ∃ SD, shiftD b = SD := ⟨_, rfl⟩
              have HSD := hidK hSD
              have hgD : (27 :: 79 :: b :: r).getD 2 0 = b := rfl
              rw [hgD, hSD, hA]
              have zA3 : 2 < A.size := by rw [zA]; simp
              have zI : ¬ (A.size : Int) < 3 := by omega
              have hsl : ∀ W : World, (Instr.slice 9 (.string A) (some (.int .i64 2)) (some (.int .i64 3)) none).run Tryd.prog W = .ok (.string (str [b])) W := fun W => by
                have h9 := slice_two A 2 (by omega) W
                have h8 : A.extract 2 (2 + 1) = str [b] := by
                  rw [← hA, str_midF]
                  rfl
                rw [h8] at h9
                exact h9
              have HRl : Hid (∀ (c : Int) (W : World), Calls Tryd.prog 30 #[.int .i64 c] W fun r w' => r = .returned (.string (str (lettF c))) ∧ Below W.heap.size W w') := rletter_any
              obtain ⟨T, hT⟩ : ∃ T, str [b] = T := ⟨_, rfl⟩
              have HT := hidK hT
              rw [hT] at hsl
              clear hA hb zA hSD hgD hT
              go_enter Tryd.func19, Tryd.ntmps19
              go_wp2_with fail
              go_loopw [4] (fun cv wr => ∃ k : Nat, k ≤ 22 ∧ cv = .int .i64 (16777217 + (k : Int)) ∧ Hid (Kb w wr Z 0 0) ∧ Hid (∀ j, j < k → (fun s : Sp => decide (s.letter = [b])) (spT.getD j ⟨[], [], [], []⟩) = false)) (fun cv _ => 22 - (intOf cv - 16777217).toNat)
              case atStart => exact ⟨0, Nat.zero_le _, rfl, HV, fun j hj => absurd hj (Nat.not_lt_zero _)⟩
              case round =>
                obtain ⟨k, hk, rfl, HKb, HS⟩ := hrel
                by_cases hlt : k < 22
                · have j1 : (16777217 : Int) + (k : Int) ≤ 16777238 := by omega
                  have hls := lett_sp ⟨k, hlt⟩
                  simp only at hls
                  have HR := hidK (HRl.out (16777217 + (k : Int)))
                  rw [hls] at HR
                  obtain ⟨lt, hlt2⟩ : ∃ lt, (spT.getD k ⟨[], [], [], []⟩).letter = lt := ⟨_, rfl⟩
                  rw [hlt2] at HR
                  obtain ⟨M, hM⟩ : ∃ M, str lt = M := ⟨_, rfl⟩
                  rw [hM] at HR
                  have HI := hidK hlt
                  have j0 : (0 : Int) ≤ 16777217 + (k : Int) := by omega
                  obtain ⟨kc, hkc⟩ : ∃ kc : Int, 16777217 + (k : Int) = kc := ⟨_, rfl⟩
                  have HKc := hidK hkc
                  by_cases hn : lt = [b]
                  · have y1 : (M.toList == T.toList) = true := by rw [← hM, hn, HT.out]; simp
                    have HHi : Hid (SD = (kc, 0)) := by
                      show _ = _
                      rw [← HSD.out]
                      unfold shiftD
                      rw [findT_hit (k := k) (by exact hlt) HS.out (by rw [hlt2]; exact decide_eq_true hn)]
                      simp only [Nat.zero_add]
                      rw [hkc]
                    rw [hkc] at j0 j1 HR ⊢
                    clear hn hM hlt2 hls hlt hkc hk
                    go_wp2_with fail
                    refine wp_region_any (by kernel_rfl) ?_
                    try (change wpAny _ _ _ _ _ _ _ (World.drew _))
                    refine wpAny_take (i := 0) (oi := { dst := some 34, op := Op.move (Operand.tmp 4), type := 3, pos := "ref.go:267", after := #[], guard := none }) (v := ?va0) rfl (by kernel_rfl) (by kernel_rfl) (by kernel_rfl) (fun _ _ _ h => h) (Or.inl ⟨by rfl, ?ya0⟩) ?ra0
                    case ya0 => (intro w; first | (go_simp; done) | (go_simp; with_reducible rfl))
                    try simp only [Act.put, List.setIfInBounds_toArray, List.set_cons_zero, List.set_cons_succ]
                    refine wpAny_take (i := 2) (oi := { dst := some 36, op := Op.move (Operand.tmp 0), type := 9, pos := "ref.go:267", after := #[], guard := none }) (v := ?va2) rfl (by kernel_rfl) (by kernel_rfl) (by kernel_rfl) (fun _ _ _ h => h) (Or.inl ⟨by rfl, ?ya2⟩) ?ra2
                    case ya2 => (intro w; first | (go_simp; done) | (go_simp; with_reducible rfl))
                    try simp only [Act.put, List.setIfInBounds_toArray, List.set_cons_zero, List.set_cons_succ]
                    refine wpAny_take (i := 3) (oi := { dst := some 37, op := Op.slice 9 (Operand.tmp 36) (some (Operand.const (Value.int IntKind.i64 2))) (some (Operand.const (Value.int IntKind.i64 3))) none, type := 9, pos := "ref.go:267", after := #[{ on := 2, ground := Ground.data }], guard := none }) (v := ?va3) rfl (by kernel_rfl) (by kernel_rfl) (by kernel_rfl) (fun _ _ _ h => h) (Or.inl ⟨by rfl, ?ya3⟩) ?ra3
                    case ya3 => (intro w; first | (go_simp; done) | (go_simp; with_reducible rfl))
                    try simp only [Act.put, List.setIfInBounds_toArray, List.set_cons_zero, List.set_cons_succ]
                    refine wpAny_ready (rs := [1]) (by kernel_rfl) (by simp) ?_
                    refine AllReady.cons (o := { dst := some 35, op := Op.call { callee := Callee.value (Operand.func 30), args := #[Operand.tmp 34], argTypes := #[3] }, type := 9, pos := "ref.go:267", after := #[{ on := 0, ground := Ground.data }], guard := none }) rfl (fun K hK => ?_) AllReady.nil
                    go_simp
                    go_wp2_with (go_at_call 30; refine (HR.out _).mono ?_; rintro e w2 ⟨rfl, hb2⟩; have HK2 : Hid (Kb w w2 Z 0 0) := HKb.out.more (by first | exact hb2 | exact below_step (Below.refl _ _).drew hb2); clear hb2)
                    first | (refine hK _ _ ?_; clear hK K) | skip
                    refine wpAny_take (i := 4) (oi := { dst := some 38, op := Op.binOp BinOp.eql 9 (Operand.tmp 35) (Operand.tmp 37) 9, type := 4, pos := "ref.go:267", after := #[{ on := 1, ground := Ground.data }, { on := 3, ground := Ground.data }], guard := none }) (v := ?va4) rfl (by kernel_rfl) (by kernel_rfl) (by kernel_rfl) (fun _ _ _ h => h) (Or.inl ⟨by rfl, ?ya4⟩) ?ra4
                    case ya4 => (intro w; first | (go_simp; done) | (go_simp; with_reducible rfl))
                    try simp only [Act.put, List.setIfInBounds_toArray, List.set_cons_zero, List.set_cons_succ]
                    refine wpAny_done (by kernel_rfl) ?_ _
                    have v0 := HK2.out.c0
                    have v1 := HK2.out.c1
                    have v2 := HK2.out.f 0
                    have v3 := HK2.out.f 1
                    go_wp2_with fail
                    all_goals exact key_end2 rfl HK2.out HZ.out rfl rfl fun X hX => ⟨by rw [HHi.out]; rfl, by first | exact hX | exact HPz.out X hX⟩
                  · have y1 : (M.toList == T.toList) = false := by
                      rw [← hM, ← HT.out, str_toList, str_toList]
                      simpa using hn
                    have HSn : Hid (∀ j, j < k + 1 → (fun s : Sp => decide (s.letter = [b])) (spT.getD j ⟨[], [], [], []⟩) = false) := fun j hj => by
                      rcases (by omega : j < k ∨ j = k) with q | q
                      · exact HS.out j q
                      · rw [q]
                        show decide (_ = _) = false
                        rw [hlt2]
                        exact decide_eq_false hn
                    rw [hkc] at j0 j1 HR ⊢
                    clear hn hM hlt2 hls hlt hkc hk
                    go_wp2_with fail
                    refine wp_region_any (by kernel_rfl) ?_
                    try (change wpAny _ _ _ _ _ _ _ (World.drew _))
                    refine wpAny_take (i := 0) (oi := { dst := some 34, op := Op.move (Operand.tmp 4), type := 3, pos := "ref.go:267", after := #[], guard := none }) (v := ?vb0) rfl (by kernel_rfl) (by kernel_rfl) (by kernel_rfl) (fun _ _ _ h => h) (Or.inl ⟨by rfl, ?yb0⟩) ?rb0
                    case yb0 => (intro w; first | (go_simp; done) | (go_simp; with_reducible rfl))
                    try simp only [Act.put, List.setIfInBounds_toArray, List.set_cons_zero, List.set_cons_succ]
                    refine wpAny_take (i := 2) (oi := { dst := some 36, op := Op.move (Operand.tmp 0), type := 9, pos := "ref.go:267", after := #[], guard := none }) (v := ?vb2) rfl (by kernel_rfl) (by kernel_rfl) (by kernel_rfl) (fun _ _ _ h => h) (Or.inl ⟨by rfl, ?yb2⟩) ?rb2
                    case yb2 => (intro w; first | (go_simp; done) | (go_simp; with_reducible rfl))
                    try simp only [Act.put, List.setIfInBounds_toArray, List.set_cons_zero, List.set_cons_succ]
                    refine wpAny_take (i := 3) (oi := { dst := some 37, op := Op.slice 9 (Operand.tmp 36) (some (Operand.const (Value.int IntKind.i64 2))) (some (Operand.const (Value.int IntKind.i64 3))) none, type := 9, pos := "ref.go:267", after := #[{ on := 2, ground := Ground.data }], guard := none }) (v := ?vb3) rfl (by kernel_rfl) (by kernel_rfl) (by kernel_rfl) (fun _ _ _ h => h) (Or.inl ⟨by rfl, ?yb3⟩) ?rb3
                    case yb3 => (intro w; first | (go_simp; done) | (go_simp; with_reducible rfl))
                    try simp only [Act.put, List.setIfInBounds_toArray, List.set_cons_zero, List.set_cons_succ]
                    refine wpAny_ready (rs := [1]) (by kernel_rfl) (by simp) ?_
                    refine AllReady.cons (o := { dst := some 35, op := Op.call { callee := Callee.value (Operand.func 30), args := #[Operand.tmp 34], argTypes := #[3] }, type := 9, pos := "ref.go:267", after := #[{ on := 0, ground := Ground.data }], guard := none }) rfl (fun K hK => ?_) AllReady.nil
                    go_simp
                    go_wp2_with (go_at_call 30; refine (HR.out _).mono ?_; rintro e w2 ⟨rfl, hb2⟩; have HK2 : Hid (Kb w w2 Z 0 0) := HKb.out.more (by first | exact hb2 | exact below_step (Below.refl _ _).drew hb2); clear hb2)
                    first | (refine hK _ _ ?_; clear hK K) | skip
                    refine wpAny_take (i := 4) (oi := { dst := some 38, op := Op.binOp BinOp.eql 9 (Operand.tmp 35) (Operand.tmp 37) 9, type := 4, pos := "ref.go:267", after := #[{ on := 1, ground := Ground.data }, { on := 3, ground := Ground.data }], guard := none }) (v := ?vb4) rfl (by kernel_rfl) (by kernel_rfl) (by kernel_rfl) (fun _ _ _ h => h) (Or.inl ⟨by rfl, ?yb4⟩) ?rb4
                    case yb4 => (intro w; first | (go_simp; done) | (go_simp; with_reducible rfl))
                    try simp only [Act.put, List.setIfInBounds_toArray, List.set_cons_zero, List.set_cons_succ]
                    refine wpAny_done (by kernel_rfl) ?_ _
                    go_wp2_with fail
                    go_roundw
                    case rel => exact ⟨k + 1, HI.out, (by have h9 := HKc.out; first | (congr 1; omega) | (simp; omega)), HK2, HSn⟩
                    case measure => have h8 := HI.out; have h9 := HKc.out; simp [intOf]; omega
                · obtain rfl : k = 22 := by omega
                  have HHi : Hid (SD = (0, 0)) := by
                    show _ = _
                    rw [← HSD.out]
                    unfold shiftD
                    rw [findT_miss (l := spT) fun j hj => HS.out j (by rw [spT_len] at hj; exact hj)]
                  have v0 := HKb.out.c0
                  have v1 := HKb.out.c1
                  have v2 := HKb.out.f 0
                  have v3 := HKb.out.f 1
                  clear hlt hk
                  go_wp2_with fail
                  all_goals exact key_end2 rfl HKb.out HZ.out rfl rfl fun X hX => ⟨by rw [HHi.out]; rfl, by first | exact hX | exact HPz.out X hX⟩
          · rw [if_neg h79]
            have n79 : ¬ B1 = 79 := fun e => h79 (y79.2 e)
            have n79i : ¬ (B1 : Int) = 79 := by omega
            have n79b : ((B1 : Int) == 79) = false := by simpa using n79i
            have HC := hidK (rmeta_any 27 y r hl)
            rw [hA] at HC ⊢
            obtain ⟨⟨⟨k1, k2⟩, n⟩, hp⟩ : ∃ p, metaD (27 :: y :: r) = p := ⟨_, rfl⟩
            rw [hp] at HC ⊢
            have hB8 : B1 < 256 := by rw [← hB1]; exact y.toNat_lt
            clear hA hp hb hB1 y91 y79 zA h91 h79 n91 n79
            go_enter Tryd.func19, Tryd.ntmps19
            go_wp2_with fail
            refine (HC.out _).mono ?_
            rintro e w1 ⟨rfl, hb1⟩
            have HK := hidK (HV.out.more hb1)
            have v0 := HK.out.c0
            have v1 := HK.out.c1
            have v2 := HK.out.f 0
            have v3 := HK.out.f 1
            clear hb1
            unfold stepV
            go_wp2_with fail
            all_goals exact key_end2 rfl HK.out HZ.out rfl rfl fun X hX => ⟨rfl, by first | exact hX | exact HPz.out X hX⟩
    · have hb : beginD (x :: r) = plainD (x :: r) := by
        unfold beginD
        rw [if_pos (by exact hx)]
      rw [hb]
      have n27 : ¬ B0 = 27 := fun e => hx (h27.2 e)
      have n27i : ¬ (B0 : Int) = 27 := by omega
      have n27b : ((B0 : Int) == 27) = false := by simpa using n27i
      have hB8 : B0 < 256 := by rw [← hB0]; exact x.toNat_lt
      have HC := hidK (rplain_any (x :: r) (by simp) hl)
      rw [hA] at HC ⊢
      obtain ⟨⟨⟨k1, k2⟩, n⟩, hp⟩ : ∃ p, plainD (x :: r) = p := ⟨_, rfl⟩
      rw [hp] at HC ⊢
      clear hA hp hb hB0 h27 zA hx n27
      go_enter Tryd.func19, Tryd.ntmps19
      go_wp2_with fail
      refine (HC.out _).mono ?_
      rintro e w1 ⟨rfl, hb1⟩
      have HK := hidK (HV.out.more hb1)
      have v0 := HK.out.c0
      have v1 := HK.out.c1
      have v2 := HK.out.f 0
      have v3 := HK.out.f 1
      clear hb1
      unfold stepV
      go_wp2_with fail
      all_goals exact key_end2 rfl HK.out HZ.out rfl rfl fun X hX => ⟨rfl, by first | exact hX | exact HPz.out X hX⟩
end Go.Proofs.YtnehkokppobncaaDoor
