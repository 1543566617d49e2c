/-
  Plans: the document's Parse of every text; the statement on Parse, walked.
-/
import Derived.Test.YtglncninkocgaabGreatDoorFB
import Derived.Test.YtglncninkocgaabGreatDoorED
import Derived.Test.YtglncninkocgaabGreatDoorDH
namespace Go.Proofs.YtglncninkocgaabGreatDoor
open Go.RowKit
set_option linter.unusedVariables false
set_option maxRecDepth 100000

theorem hexOk_range (c : UInt8) : hexOk c = decide ((48 ≤ c.toNat ∧ c.toNat ≤ 57) ∨ (97 ≤ c.toNat ∧ c.toNat ≤ 102)) := by
  have key : ∀ k : Fin 256, hexOk (UInt8.ofNat k.val) = decide ((48 ≤ (UInt8.ofNat k.val).toNat ∧ (UInt8.ofNat k.val).toNat ≤ 57) ∨ (97 ≤ (UInt8.ofNat k.val).toNat ∧ (UInt8.ofNat k.val).toNat ≤ 102)) := by decide +kernel
  have h := key ⟨c.toNat, c.toNat_lt⟩
  simpa using h
theorem refHex_any (c : UInt8) (w : World) : Calls Tryz.prog 16 #[.int .u8 c.toNat] w fun e w' => e = .returned (.bool (hexOk c)) ∧ w = w' := by
  rw [hexOk_range]
  obtain ⟨k, hk⟩ : ∃ k, c.toNat = k := ⟨_, rfl⟩
  rw [hk]
  have hc : k < 48 ∨ (48 ≤ k ∧ k ≤ 57) ∨ (57 < k ∧ k < 97) ∨ (97 ≤ k ∧ k ≤ 102) ∨ 102 < k := by omega
  clear hk
  rcases hc with h | ⟨h1, h2⟩ | ⟨h1, h2⟩ | ⟨h1, h2⟩ | h
  · rw [show decide ((48 ≤ k ∧ k ≤ 57) ∨ (97 ≤ k ∧ k ≤ 102)) = false by simp; omega]
    have z1 : ¬ (48 : Int) ≤ (k : Int) := by omega
    have z2 : ¬ (97 : Int) ≤ (k : Int) := by omega
    go_enter Tryz.func16, Tryz.ntmps16
    go_wp2
    go_ret
    exact ⟨rfl, rfl⟩
  · rw [show decide ((48 ≤ k ∧ k ≤ 57) ∨ (97 ≤ k ∧ k ≤ 102)) = true by simp; omega]
    have z1 : (48 : Int) ≤ (k : Int) := by omega
    have z2 : (k : Int) ≤ 57 := by omega
    go_enter Tryz.func16, Tryz.ntmps16
    go_wp2
    go_ret
    exact ⟨rfl, rfl⟩
  · rw [show decide ((48 ≤ k ∧ k ≤ 57) ∨ (97 ≤ k ∧ k ≤ 102)) = false by simp; omega]
    have z1 : (48 : Int) ≤ (k : Int) := by omega
    have z2 : ¬ (k : Int) ≤ 57 := by omega
    have z3 : ¬ (97 : Int) ≤ (k : Int) := by omega
    go_enter Tryz.func16, Tryz.ntmps16
    go_wp2
    go_ret
    exact ⟨rfl, rfl⟩
  · rw [show decide ((48 ≤ k ∧ k ≤ 57) ∨ (97 ≤ k ∧ k ≤ 102)) = true by simp; omega]
    have z1 : (48 : Int) ≤ (k : Int) := by omega
    have z2 : ¬ (k : Int) ≤ 57 := by omega
    have z3 : (97 : Int) ≤ (k : Int) := by omega
    have z4 : (k : Int) ≤ 102 := by omega
    go_enter Tryz.func16, Tryz.ntmps16
    go_wp2
    go_ret
    exact ⟨rfl, rfl⟩
  · rw [show decide ((48 ≤ k ∧ k ≤ 57) ∨ (97 ≤ k ∧ k ≤ 102)) = false by simp; omega]
    have z1 : (48 : Int) ≤ (k : Int) := by omega
    have z2 : ¬ (k : Int) ≤ 57 := by omega
    have z3 : (97 : Int) ≤ (k : Int) := by omega
    have z4 : ¬ (k : Int) ≤ 102 := by omega
    go_enter Tryz.func16, Tryz.ntmps16
    go_wp2
    go_ret
    exact ⟨rfl, rfl⟩

theorem head_eq {l : List UInt8} {x0 x1 x2 x3 x4 : UInt8} (h5 : 5 ≤ l.length) (h0 : l[0]? = some x0) (h1 : l[1]? = some x1) (h2 : l[2]? = some x2) (h3 : l[3]? = some x3) (h4 : l[4]? = some x4) : headB l = (decide (x4 = 44) && (hexOk x0 && (hexOk x1 && (hexOk x2 && hexOk x3)))) ∧ l.take 5 = [x0, x1, x2, x3, x4] := by
  match l, h5 with
  | a :: b :: c :: d :: e :: r, _ =>
    cases h0; cases h1; cases h2; cases h3; cases h4
    refine ⟨?_, rfl⟩
    unfold headB
    simp

set_option maxHeartbeats 4000000 in
theorem refParse_long (s : ByteArray) (w : World) (hs : 2048 < s.size) (hs2 : s.size ≤ 9223372036854775807) : Calls Tryz.prog 6 #[.string s] w fun e w' => e = .returned (.tuple #[.slice none 0 0, .int .i64 2]) ∧ Below w.heap.size w w' := by
  obtain ⟨N, hN⟩ : ∃ N, s.size = N := ⟨_, rfl⟩
  have hz : (2048 : Int) < (N : Int) := by omega
  go_enter Tryz.func6, Tryz.ntmps6
  go_wp2
  all_goals go_ret2
  exact ⟨rfl, Below.refl _ _⟩
set_option maxHeartbeats 4000000 in
theorem refParse_nohead (s : ByteArray) (w : World) (hs : s.size ≤ 2048) (hh : headB s.data.toList = false) : Calls Tryz.prog 6 #[.string s] w fun e w' => e = .returned (.tuple #[.slice none 0 0, .int .i64 50]) ∧ Below w.heap.size w w' := by
  obtain ⟨N, hN⟩ : ∃ N, s.size = N := ⟨_, rfl⟩
  have hz : ¬ (2048 : Int) < (N : Int) := by omega
  have HHex : Hid (∀ c X, Calls Tryz.prog 16 #[.int .u8 (c : UInt8).toNat] X fun e w' => e = .returned (.bool (hexOk c)) ∧ X = w') := refHex_any
  by_cases h5 : N < 5
  · have hz5 : (N : Int) < 5 := by omega
    clear hh
    go_enter Tryz.func6, Tryz.ntmps6
    go_wp2
    all_goals go_ret2
    exact ⟨rfl, Below.refl _ _⟩
  · have hz5 : ¬ (N : Int) < 5 := by omega
    have hlen : s.data.toList.length = N := by rw [← hN]; exact Array.length_toList
    have i0 : 0 < s.size := by omega
    have i1 : 1 < s.size := by omega
    have i2 : 2 < s.size := by omega
    have i3 : 3 < s.size := by omega
    have i4 : 4 < s.size := by omega
    obtain ⟨x0, hx0⟩ : ∃ x, s[0] = x := ⟨_, rfl⟩
    obtain ⟨x1, hx1⟩ : ∃ x, s[1] = x := ⟨_, rfl⟩
    obtain ⟨x2, hx2⟩ : ∃ x, s[2] = x := ⟨_, rfl⟩
    obtain ⟨x3, hx3⟩ : ∃ x, s[3] = x := ⟨_, rfl⟩
    obtain ⟨x4, hx4⟩ : ∃ x, s[4] = x := ⟨_, rfl⟩
    have hd := (head_eq (l := s.data.toList) (by omega) (by rw [data_get s 0 i0, hx0]) (by rw [data_get s 1 i1, hx1]) (by rw [data_get s 2 i2, hx2]) (by rw [data_get s 3 i3, hx3]) (by rw [data_get s 4 i4, hx4])).1
    rw [hd] at hh
    have hn1 : (1 : Int) < (N : Int) := by omega
    have hn2 : (2 : Int) < (N : Int) := by omega
    have hn3 : (3 : Int) < (N : Int) := by omega
    have hn4 : (4 : Int) < (N : Int) := by omega
    clear hd hlen
    cases hb0 : hexOk x0 with
    | false =>
      clear hh
      go_enter Tryz.func6, Tryz.ntmps6
      go_wp2_with (go_at_call 16; refine (HHex.out _ _).mono ?_; rintro e w1 ⟨rfl, rfl⟩)
      all_goals go_ret2
      exact ⟨rfl, Below.refl _ _⟩
    | true =>
      cases hb1 : hexOk x1 with
      | false =>
        clear hh
        go_enter Tryz.func6, Tryz.ntmps6
        go_wp2_with (go_at_call 16; refine (HHex.out _ _).mono ?_; rintro e w1 ⟨rfl, rfl⟩)
        all_goals go_ret2
        exact ⟨rfl, Below.refl _ _⟩
      | true =>
        cases hb2 : hexOk x2 with
        | false =>
          clear hh
          go_enter Tryz.func6, Tryz.ntmps6
          go_wp2_with (go_at_call 16; refine (HHex.out _ _).mono ?_; rintro e w1 ⟨rfl, rfl⟩)
          all_goals go_ret2
          exact ⟨rfl, Below.refl _ _⟩
        | true =>
          cases hb3 : hexOk x3 with
          | false =>
            clear hh
            go_enter Tryz.func6, Tryz.ntmps6
            go_wp2_with (go_at_call 16; refine (HHex.out _ _).mono ?_; rintro e w1 ⟨rfl, rfl⟩)
            all_goals go_ret2
            exact ⟨rfl, Below.refl _ _⟩
          | true =>
            rw [hb0, hb1, hb2, hb3] at hh
            have h44 : x4 ≠ 44 := by simpa using hh
            have hn44 : ¬ (x4.toNat : Int) = 44 := fun e => h44 (UInt8.toNat_inj.1 (by simpa using (by omega : x4.toNat = 44)))
            have hnb : ((x4.toNat : Int) != 44) = true := by simpa using hn44
            clear hh h44
            go_enter Tryz.func6, Tryz.ntmps6
            go_wp2_with (go_at_call 16; refine (HHex.out _ _).mono ?_; rintro e w1 ⟨rfl, rfl⟩)
            all_goals go_ret2
            exact ⟨rfl, Below.refl _ _⟩

/-- What a text with a head is: its head's bytes, its sum's digits. -/
theorem four_head {l : List UInt8} {x0 x1 x2 x3 : UInt8} (h : l.take 5 = [x0, x1, x2, x3, 44]) (n : Nat) : (l.take 5 = headL n) ↔ ([hexB (n / 4096 % 16), hexB (n / 256 % 16), hexB (n / 16 % 16), hexB (n % 16)] = l.take 4) := by
  have h4 : l.take 4 = [x0, x1, x2, x3] := by
    have := congrArg (List.take 4) h
    rwa [List.take_take] at this
  rw [h, h4]
  unfold headL
  constructor
  · intro e
    simp only [List.cons.injEq, and_true] at e ⊢
    exact ⟨e.1.symm, e.2.1.symm, e.2.2.1.symm, e.2.2.2.symm⟩
  · intro e
    simp only [List.cons.injEq, and_true] at e ⊢
    exact ⟨e.1.symm, e.2.1.symm, e.2.2.1.symm, e.2.2.2.symm⟩
set_option maxHeartbeats 8000000 in
theorem refParse_head (s : ByteArray) (w : World) (hs : s.size ≤ 2048) (hh : headB s.data.toList = true) (r : Int) (L : List CellV)
    (hR : (s.data.toList.take 5 ≠ headL (sumS (s.data.toList.drop 5)) ∧ r = 51 ∧ L = []) ∨ (s.data.toList.take 5 = headL (sumS (s.data.toList.drop 5)) ∧ ((bodyF (s.data.toList.drop 5) = none ∧ r = 50 ∧ L = []) ∨ ∃ t, bodyF (s.data.toList.drop 5) = some t ∧ ((checkE (t.tell 0) = 40 ∧ r = 40 ∧ L = []) ∨ (checkE (t.tell 0) = 0 ∧ r = 0 ∧ L = t.tell 0))))) :
    Calls Tryz.prog 6 #[.string s] w fun e w' => ∃ sl, e = .returned (.tuple #[sl, .int .i64 r]) ∧ CeOwns w' w.heap.size sl L ∧ Below w.heap.size w w' := by
  obtain ⟨N, hN⟩ : ∃ N, s.size = N := ⟨_, rfl⟩
  have hz : ¬ (2048 : Int) < (N : Int) := by omega
  have h5 := head_size hh
  have hlen : s.data.toList.length = N := by rw [← hN]; exact Array.length_toList
  have hz5 : ¬ (N : Int) < 5 := by omega
  have hz6 : (5 : Int) ≤ (N : Int) := by omega
  have hz4 : (4 : Int) ≤ (N : Int) := by omega
  have i0 : 0 < s.size := by omega
  have i1 : 1 < s.size := by omega
  have i2 : 2 < s.size := by omega
  have i3 : 3 < s.size := by omega
  have i4 : 4 < s.size := by omega
  obtain ⟨x0, hx0⟩ : ∃ x, s[0] = x := ⟨_, rfl⟩
  obtain ⟨x1, hx1⟩ : ∃ x, s[1] = x := ⟨_, rfl⟩
  obtain ⟨x2, hx2⟩ : ∃ x, s[2] = x := ⟨_, rfl⟩
  obtain ⟨x3, hx3⟩ : ∃ x, s[3] = x := ⟨_, rfl⟩
  obtain ⟨x4, hx4⟩ : ∃ x, s[4] = x := ⟨_, rfl⟩
  obtain ⟨hd, ht5⟩ := head_eq (l := s.data.toList) (by omega) (by rw [data_get s 0 i0, hx0]) (by rw [data_get s 1 i1, hx1]) (by rw [data_get s 2 i2, hx2]) (by rw [data_get s 3 i3, hx3]) (by rw [data_get s 4 i4, hx4])
  rw [hd] at hh
  simp only [Bool.and_eq_true, decide_eq_true_eq] at hh
  obtain ⟨h44, hb0, hb1, hb2, hb3⟩ := hh
  subst h44
  have hv44 : ((44 : UInt8).toNat : Int) = 44 := rfl
  have hn1 : (1 : Int) < (N : Int) := by omega
  have hn2 : (2 : Int) < (N : Int) := by omega
  have hn3 : (3 : Int) < (N : Int) := by omega
  have hn4 : (4 : Int) < (N : Int) := by omega
  have HHex : Hid (∀ c X, Calls Tryz.prog 16 #[.int .u8 (c : UInt8).toNat] X fun e w' => e = .returned (.bool (hexOk c)) ∧ X = w') := refHex_any
  obtain ⟨bd, hbd⟩ : ∃ b, s.extract 5 N = b := ⟨_, rfl⟩
  have e1 : bd.data.toList = s.data.toList.drop 5 := by rw [← hbd, ← hN, Lib.extract_to_end]
  obtain ⟨S, hS⟩ : ∃ S, sumS (s.data.toList.drop 5) = S := ⟨_, rfl⟩
  have hS2 : S < 65536 := by rw [← hS]; exact sumS_lt _
  have HSm : Hid (∀ X, Calls Tryz.prog 14 #[.string bd] X fun e w' => e = .returned (.int .i64 (S : Int)) ∧ X = w') := fun X => by
    have h := refSum_any bd X (by rw [← hbd]; simp; omega)
    rw [e1, hS] at h
    exact h
  obtain ⟨K, hK⟩ : ∃ K, str [hexB (S / 4096 % 16), hexB (S / 256 % 16), hexB (S / 16 % 16), hexB (S % 16)] = K := ⟨_, rfl⟩
  have HFo : Hid (∀ X, Calls Tryz.prog 13 #[.int .i64 (S : Int)] X fun e w' => e = .returned (.string K) ∧ Below X.heap.size X w') := fun X => by rw [← hK]; exact four_any S hS2 X
  have hfour := four_head ht5 S
  have hext : (s.extract 0 4).data.toList = s.data.toList.take 4 := by rw [Lib.extract_from_zero]
  rw [hS] at hR
  rcases hR with ⟨hR, rfl, rfl⟩ | ⟨hR, hR2⟩
  · have hne : ¬ K.toList = (s.extract 0 4).toList := fun e => hR (hfour.2 (by
      rw [Lib.toList_data, Lib.toList_data, hext, ← hK, str_data] at e
      exact e))
    have hne2 : (K.toList == (s.extract 0 4).toList) = false := by simpa using hne
    clear hR hd ht5 hlen e1 hS hK hfour hext hs h5
    go_enter Tryz.func6, Tryz.ntmps6
    go_wp2_with (go_at_call 16; refine (HHex.out _ _).mono ?_; rintro e w1 ⟨rfl, rfl⟩)
    go_region_with (first | (go_at_call 14; refine (HSm.out _).mono ?_; rintro e w3 ⟨rfl, rfl⟩) | (go_at_call 13; refine (HFo.out _).mono ?_; rintro e w4 ⟨rfl, hb4⟩; have H4 : Hid (Below w.heap.size w w4) := below_step (by first | exact Below.refl _ _ | exact (Below.refl _ _).drew) hb4; clear hb4))
    all_goals (
      go_wp2
      go_ret2
      exact ⟨_, rfl, World.ownsRow_nil _ _ _ _, by first | exact H4.out | exact H4.out.drew⟩)
  · have heq : K = s.extract 0 4 := by
      rw [← data_str K, ← data_str (s.extract 0 4), hext, ← hfour.1 hR, ← hK, str_data]
    subst heq
    have HCel : Hid (∀ X, Calls Tryz.prog 17 #[.string bd, .int .i64 0] X (CelPost X 0 (cellF (2 * (s.data.toList.drop 5).length + 1) (s.data.toList.drop 5)))) := fun X => by
      have h := (both_ref (2 * (s.data.toList.drop 5).length + 1)).1 (s.data.toList.drop 5) 0 X (Nat.le_refl _) (Int.le_refl _) (by rw [List.length_drop]; omega)
      rw [← e1, data_str, e1] at h
      exact h
    rcases hR2 with ⟨hb, rfl, rfl⟩ | ⟨t, hb, hC⟩
    · have HCx : Hid (∀ X, Calls Tryz.prog 17 #[.string bd, .int .i64 0] X fun e w' => (∃ sl x b, e = .returned (.tuple #[sl, .string x, .bool b]) ∧ Hid (b = true → ¬ x.toList = [])) ∧ Below X.heap.size X w') := fun X => by
        refine (HCel.out X).mono ?_
        intro e w' h
        cases hq : cellF (2 * (s.data.toList.drop 5).length + 1) (s.data.toList.drop 5) with
        | none =>
          rw [hq] at h
          obtain ⟨⟨sl, x, rfl⟩, hbb⟩ := h
          exact ⟨⟨sl, x, false, rfl, fun h => by cases h⟩, hbb⟩
        | some p =>
          obtain ⟨t, m⟩ := p
          rw [hq] at h
          obtain ⟨⟨a, n, c, rfl, ho⟩, hbb⟩ := h
          refine ⟨⟨_, _, true, rfl, fun _ hx => ?_⟩, hbb⟩
          rw [str_toList] at hx
          subst hx
          unfold bodyF at hb
          rw [hq] at hb
          cases hb
      clear hR hd ht5 hlen e1 hS hK hfour hext hs h5 HCel hb
      go_enter Tryz.func6, Tryz.ntmps6
      go_wp2_with (go_at_call 16; refine (HHex.out _ _).mono ?_; rintro e w1 ⟨rfl, rfl⟩)
      go_region_with (first | (go_at_call 14; refine (HSm.out _).mono ?_; rintro e w3 ⟨rfl, rfl⟩) | (go_at_call 13; refine (HFo.out _).mono ?_; rintro e w4 ⟨rfl, hb4⟩; have H4 : Hid (Below w.heap.size w w4) := below_step (by first | exact Below.refl _ _ | exact (Below.refl _ _).drew) hb4; clear hb4))
      all_goals (
        go_wp2_with fail
        refine (HCx.out _).mono ?_
        rintro e w5 ⟨⟨sl, x, bb, rfl, hbx⟩, hb5⟩
        have H5 := hidden (below_step (by first | exact H4.out | exact H4.out.drew : Below w.heap.size w _) hb5)
        clear hb5
        cases bb with
        | false =>
          clear hbx
          go_wp2
          go_ret2
          exact ⟨_, rfl, World.ownsRow_nil _ _ _ _, H5.out⟩
        | true =>
          have hxn := hbx.out rfl
          have hxe : x.toList.isEmpty = false := by cases hq : x.toList with | nil => exact absurd hq hxn | cons a b => rfl
          clear hbx
          go_wp2
          go_ret2
          exact ⟨_, rfl, World.ownsRow_nil _ _ _ _, H5.out⟩)
    · have HCx : Hid (∀ X, Calls Tryz.prog 17 #[.string bd, .int .i64 0] X fun e w' => ∃ a n c, e = .returned (.tuple #[.slice a n c, .string ⟨#[]⟩, .bool true]) ∧ CeOwns w' X.heap.size (.slice a n c) (t.tell 0) ∧ Below X.heap.size X w') := fun X => by
        refine (HCel.out X).mono ?_
        intro e w' h
        have hq : cellF (2 * (s.data.toList.drop 5).length + 1) (s.data.toList.drop 5) = some (t, []) := by
          unfold bodyF at hb
          split at hb
          · rename_i t' hc
            cases hb
            exact hc
          · cases hb
        rw [hq] at h
        obtain ⟨⟨a, n, c, rfl, ho⟩, hbb⟩ := h
        exact ⟨a, n, c, rfl, ho, hbb⟩
      obtain ⟨C, hCk⟩ : ∃ C, checkE (t.tell 0) = C := ⟨_, rfl⟩
      have HCk : Hid (∀ u X, CellsIn X u (t.tell 0) → Calls Tryz.prog 11 #[u] X fun e w' => e = .returned (.int .i64 C) ∧ Below X.heap.size X w') := fun u X hX => by rw [← hCk]; exact check_ref u _ X hX
      rw [hCk] at hC
      clear hR hd ht5 hlen e1 hS hK hfour hext hs h5 HCel hb hCk
      go_enter Tryz.func6, Tryz.ntmps6
      go_wp2_with (go_at_call 16; refine (HHex.out _ _).mono ?_; rintro e w1 ⟨rfl, rfl⟩)
      go_region_with (first | (go_at_call 14; refine (HSm.out _).mono ?_; rintro e w3 ⟨rfl, rfl⟩) | (go_at_call 13; refine (HFo.out _).mono ?_; rintro e w4 ⟨rfl, hb4⟩; have H4 : Hid (Below w.heap.size w w4) := below_step (by first | exact Below.refl _ _ | exact (Below.refl _ _).drew) hb4; clear hb4))
      all_goals (
        rcases hC with ⟨rfl, rfl, rfl⟩ | ⟨rfl, rfl, rfl⟩
        · go_wp2_with (first | (go_at_call 17; refine (HCx.out _).mono ?_; rintro e w5 ⟨a, n, c, rfl, ho5, hb5⟩; have HO5 := hidden ho5; have H5 := hidden (below_step (by first | exact H4.out | exact H4.out.drew : Below w.heap.size w _) hb5); clear hb5 ho5) | (go_at_call 11; refine (HCk.out _ _ HO5.out.cellsIn).mono ?_; rintro e w6 ⟨rfl, hb6⟩; have H6 := hidden (below_step H5.out hb6); clear hb6))
          go_ret2
          exact ⟨_, rfl, World.ownsRow_nil _ _ _ _, H6.out⟩
        · go_wp2_with (first | (go_at_call 17; refine (HCx.out _).mono ?_; rintro e w5 ⟨a, n, c, rfl, ho5, hb5⟩; have HO5 := hidden (ce_lower ho5 (by first | exact H4.out.size | exact H4.out.drew.size : w.heap.size ≤ _)); have H5 := hidden (below_step (by first | exact H4.out | exact H4.out.drew : Below w.heap.size w _) hb5); clear hb5 ho5) | (go_at_call 11; refine (HCk.out _ _ HO5.out.cellsIn).mono ?_; rintro e w6 ⟨rfl, hb6⟩; have HO6 := hidden (HO5.out.below hb6); have H6 := hidden (below_step H5.out hb6); clear hb6))
          go_ret2
          exact ⟨_, rfl, HO6.out, H6.out⟩)
theorem refParse_any (s : ByteArray) (w : World) (hs : s.size ≤ 9223372036854775807) : Calls Tryz.prog 6 #[.string s] w fun e w' => ∃ sl, e = .returned (.tuple #[sl, .int .i64 (parseF s.data.toList).2]) ∧ CeOwns w' w.heap.size sl (parseF s.data.toList).1 ∧ Below w.heap.size w w' := by
  have hlen : s.data.toList.length = s.size := Array.length_toList
  rcases parse_ways s.data.toList with ⟨h1, h2⟩ | ⟨h1, h2, h3⟩ | ⟨h1, h2, h3, h4⟩ | ⟨h1, h2, h3, h4, h5⟩ | ⟨h1, h2, h3, t, h4, h5, h6⟩ | ⟨h1, h2, h3, t, h4, h5, h6, h7⟩
  · rw [h2]
    refine (refParse_long s w (by omega) hs).mono ?_
    rintro e w' ⟨rfl, hb⟩
    exact ⟨_, rfl, World.ownsRow_nil _ _ _ _, hb⟩
  · rw [h3]
    refine (refParse_nohead s w (by omega) h2).mono ?_
    rintro e w' ⟨rfl, hb⟩
    exact ⟨_, rfl, World.ownsRow_nil _ _ _ _, hb⟩
  · rw [h4]
    exact refParse_head s w (by omega) h2 51 [] (.inl ⟨h3, rfl, rfl⟩)
  · rw [h5]
    exact refParse_head s w (by omega) h2 50 [] (.inr ⟨h3, .inl ⟨h4, rfl, rfl⟩⟩)
  · rw [h6]
    exact refParse_head s w (by omega) h2 40 [] (.inr ⟨h3, .inr ⟨t, h4, .inl ⟨by unfold checkE; rw [h5]; rfl, rfl, rfl⟩⟩⟩)
  · rw [h7]
    exact refParse_head s w (by omega) h2 0 (t.tell 0) (.inr ⟨h3, .inr ⟨t, h4, .inr ⟨by unfold checkE; rw [h5]; rfl, rfl, rfl⟩⟩⟩)

end Go.Proofs.YtglncninkocgaabGreatDoor
