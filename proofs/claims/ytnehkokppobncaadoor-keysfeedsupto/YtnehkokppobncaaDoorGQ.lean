/-
  Keys: the document's Feed and Flush.
  Keys: the document's Flush.
-/
import Derived.Test.YtnehkokppobncaaDoorKBeg
import Derived.Test.YtnehkokppobncaaDoorGL
namespace Go.Proofs.YtnehkokppobncaaDoor
open Go.RowKit
set_option linter.unusedVariables false
set_option maxRecDepth 100000

def strSz : Value → Nat
  | .string s => s.size
  | _ => 0
theorem infoDecR : (Tryd.prog.info? 26).map (·.size) = some 1 := by kernel_rfl
theorem nil_str {T : List UInt8} (h : T ≠ []) : ¬ (str T).toList = [] ∧ (str T).toList.isEmpty = false ∧ ((str T).toList == []) = false := by
  rw [str_toList]
  refine ⟨h, ?_, ?_⟩
  · cases T with
    | nil => exact absurd rfl h
    | cons _ _ => rfl
  · cases T with
    | nil => exact absurd rfl h
    | cons _ _ => rfl
/-- A key beside a list. -/
theorem key_beside {V W : World} {v : Value} {ks : List (Int × Int)} (h : Al V W v ks) : ∃ U Y, W.alloc (.cells #[.int .i64 0, .int .i64 0] 36) = U ∧ W.heap.size = Y ∧ Hid (Al V U v ks) ∧ Hid (U.heap[Y]? = some (.cells #[.int .i64 0, .int .i64 0] 36 (0, 0))) ∧ Hid (V.heap.size ≤ Y ∧ v.ownBlock ≠ some Y) :=
  ⟨_, _, rfl, rfl, ⟨below_step h.below ((Below.refl _ _).alloc (Nat.le_refl _) _), h.keys.below ((Below.refl _ _).alloc (Nat.le_refl _) _)⟩, heap_alloc_new W _, h.below.size, fun e => by
    obtain ⟨_, cur, hk⟩ := h.keys.blk e
    have := lt_block hk
    omega⟩
theorem key_told {V U : World} {v : Value} {ks : List (Int × Int)} {Y : Nat} (h : Al V U v ks) {p q : Int} (hk : U.heap[Y]? = some (.cells #[.int .i64 p, .int .i64 q] 36 (0, 0))) (hn : V.heap.size ≤ Y ∧ v.ownBlock ≠ some Y) (a b : Int) :
    Al V ((U.setCell ⟨Y, 0, none⟩ (.int .i64 a)).setCell ⟨Y, 1, none⟩ (.int .i64 b)) v ks ∧ ((U.setCell ⟨Y, 0, none⟩ (.int .i64 a)).setCell ⟨Y, 1, none⟩ (.int .i64 b)).heap[Y]? = some (.cells #[.int .i64 a, .int .i64 b] 36 (0, 0)) :=
  ⟨⟨(h.below.setCell (p := ⟨Y, 0, none⟩) hn.1 _).setCell (p := ⟨Y, 1, none⟩) hn.1 _, h.keys.keep fun g hg => by
    have hne : g ≠ Y := fun e => hn.2 (by rw [hg, e])
    rw [Below.heap_setCell _ _ _ _ (fun e => hne (by simpa using e)), Below.heap_setCell _ _ _ _ (fun e => hne (by simpa using e))]⟩, put_at (put_at hk 0 _) 1 _⟩
/-- The decoder that will be told, and the list. -/
theorem dec_put {V X : World} {v : Value} {ks : List (Int × Int)} {Z : Nat} {o : Value} (h : Al V X v ks) (hz : V.heap[Z]? = some (.cells #[o] 26 (0, 0))) (t : ByteArray) :
    (X.setCell ⟨Z, 0, none⟩ (.string t)).heap[Z]? = some (.cells #[.string t] 26 (0, 0)) ∧ SeeK (X.setCell ⟨Z, 0, none⟩ (.string t)) v ks ∧ (∀ g, v.ownBlock = some g → V.heap.size ≤ g) := by
  have hlt := lt_block hz
  have hx := (h.below.block Z hlt).trans hz
  refine ⟨put_at hx 0 _, KeysAt.see (B := V.heap.size) (h.keys.keep fun g hg => ?_), fun g hg => (h.keys.blk hg).1⟩
  have hb := (h.keys.blk hg).1
  rw [Below.heap_setCell _ _ _ _ (fun e => by have : g = Z := by simpa using e
                                              omega)]
set_option maxHeartbeats 8000000 in
theorem rfeed_any (h c : List UInt8) (hl : h.length + c.length ≤ 2000000) (w : World) : Calls Tryd.prog 8 #[.agg #[.string (str h)], .string (str c)] w fun e w' => ∃ v, e = .returned (.tuple #[.agg #[.string (str (feedF [] (h ++ c)).1)], v]) ∧ Below w.heap.size w w' ∧ SeeK w' v (feedF [] (h ++ c)).2 ∧ (∀ g, v.ownBlock = some g → w.heap.size ≤ g) := by
  obtain ⟨S0, hS0⟩ : ∃ S0, h ++ c = S0 := ⟨_, rfl⟩
  have zS0 : S0.length ≤ 2000000 := by rw [← hS0, List.length_append]; exact hl
  have hcat : str h ++ str c = str S0 := by rw [str_catK, hS0]
  have z1 : (str h).size ≤ 2000000 := by rw [str_size]; omega
  have z2 : (str c).size ≤ 2000000 := by rw [str_size]; omega
  rw [hS0]
  obtain ⟨F, hF⟩ : ∃ F, feedF [] S0 = F := ⟨_, rfl⟩
  rw [hF]
  have HF := hidK hF
  obtain ⟨A, hA⟩ : ∃ A, str h = A := ⟨_, rfl⟩
  obtain ⟨C, hC⟩ : ∃ C, str c = C := ⟨_, rfl⟩
  rw [hA, hC] at hcat ⊢
  rw [hA] at z1
  rw [hC] at z2
  obtain ⟨W1, hW1⟩ : ∃ W, w.alloc (.cells #[.string A] 26) = W := ⟨_, rfl⟩
  obtain ⟨Q, hQ⟩ : ∃ Q, w.heap.size = Q := ⟨_, rfl⟩
  obtain ⟨V, hV⟩ : ∃ W, W1.alloc (.cells #[.string ⟨#[]⟩] 26) = W := ⟨_, rfl⟩
  obtain ⟨Z, hZ⟩ : ∃ Q, W1.heap.size = Q := ⟨_, rfl⟩
  have b1 : Below w.heap.size w W1 := by rw [← hW1]; exact (Below.refl _ _).alloc (Nat.le_refl _) _
  have b2 : Below W1.heap.size W1 V := by rw [← hV]; exact (Below.refl _ _).alloc (Nat.le_refl _) _
  have a1 : W1.heap[Q]? = some (.cells #[.string A] 26 (0, 0)) := by rw [← hW1, ← hQ]; exact heap_alloc_new w _
  have a2 := (b2.block Q (lt_block a1)).trans a1
  have a3 : V.heap[Z]? = some (.cells #[.string ⟨#[]⟩] 26 (0, 0)) := by rw [← hV, ← hZ]; exact heap_alloc_new W1 _
  have c0 : V.cell? ⟨Q, 0, none⟩ = some (.string A) := cell_at a2 0
  have HBV := hidK (below_step b1 b2)
  have HA3 := hidK a3
  have HPz : Hid (∀ X, Below w.heap.size w X → Below Q w X) := fun X hX => by rw [← hQ]; exact hX
  have HYo : Hid (∀ {v : Value}, (∀ g, v.ownBlock = some g → V.heap.size ≤ g) → ∀ g, v.ownBlock = some g → Q ≤ g) := fun h g hg => by have := HBV.out.size; have := h g hg; omega
  have HZl : Hid (w.heap.size ≤ Z) := by show _ ≤ _; rw [← hZ]; exact b1.size
  have HCat := hidK hcat
  clear hS0 hF hA hC b1 b2 a1 a2 a3 hl
  go_enter Tryd.func8, Tryd.ntmps8
  go_wp2_with fail
  go_loopw [6, 7] (fun ov sv wr => ∃ (T : List UInt8) (ks : List (Int × Int)), sv = .string (str T) ∧ Hid (Al V wr ov ks) ∧ Hid (ks.length + T.length ≤ 2000000 ∧ F = ((feedF [] T).1, ks ++ (feedF [] T).2))) (fun _ sv _ => strSz sv)
  case atStart => exact ⟨S0, [], (by first | rfl | rw [HCat.out]), ⟨Below.refl _ _, KeysAt.nil _ _⟩, ⟨by simpa using zS0, by rw [← HF.out]; rfl⟩⟩
  case round =>
    obtain ⟨T, ks, rfl, HA, HT⟩ := hrel
    obtain ⟨a0, cc0, rfl⟩ := HA.out.keys.slice
    obtain ⟨kn, hkn⟩ : ∃ kn, ks.length = kn := ⟨_, rfl⟩
    have HKn := hidK hkn
    rw [hkn] at HA ⊢
    clear hkn
    by_cases hT : T = []
    · subst hT
      have HE : Hid (F = ([], ks)) := by show _ = _; rw [HT.out.2]; show (_, _) = _; simp [feedF]
      have y0 : (str []).toList = [] := str_toList []
      have y1 : ((str []).toList == []) = true := by rw [str_toList]; rfl
      have y2 : (str []).toList.isEmpty = true := by rw [str_toList]; rfl
      obtain ⟨E0, hE0⟩ : ∃ E0, str [] = E0 := ⟨_, rfl⟩
      have HE0 := hidK hE0
      rw [hE0] at y0 y1 y2 ⊢
      have hp := dec_put HA.out HA3.out E0
      obtain ⟨X, hX⟩ : ∃ X, wr.setCell ⟨Z, 0, none⟩ (.string E0) = X := ⟨_, rfl⟩
      have v0 : wr.cell? ⟨Z, 0, none⟩ = some (.string ⟨#[]⟩) := cell_at ((HA.out.below.block Z (lt_block HA3.out)).trans HA3.out) 0
      have v1 : wr.frozen? ⟨Z, 0, none⟩ = false := free_at ((HA.out.below.block Z (lt_block HA3.out)).trans HA3.out) 0
      have HBX : Hid (Below w.heap.size w (wr.setCell ⟨Z, 0, none⟩ (.string E0))) := (below_step HBV.out HA.out.below).setCell (p := ⟨Z, 0, none⟩) HZl.out _
      rw [hX] at hp HBX
      have HP := hidK hp
      clear hp hE0
      go_wp2_with fail
      refine ret_cell2 rfl rfl HP.out.1 Tryd.underlying26 rfl infoDecR rfl ⟨_, by rw [HE.out]; show _ = Ending.returned (Value.tuple #[Value.agg #[Value.string (str [])], _]); (rw [HE0.out]; try rfl), by first | exact HBX.out | exact HPz.out _ HBX.out, by rw [HE.out]; exact HP.out.2.1, by first | exact fun g hg => Nat.le_trans HBV.out.size (HP.out.2.2 g hg) | exact HYo.out HP.out.2.2⟩
    · obtain ⟨y0, y2, y1⟩ := nil_str hT
      have hst := begin_steps hT
      have hbz := begin_zero hT
      have HBe := hidK (rbegin_any T hT (by have := HT.out.1; omega))
      obtain ⟨⟨⟨k1, k2⟩, n⟩, hp⟩ : ∃ p, beginD T = p := ⟨_, rfl⟩
      rw [hp] at hst hbz HBe
      unfold Steps at hst
      simp only [List.nil_append] at hst hbz
      have HTl : Hid (T.length ≤ 2000000) := by have := HT.out.1; show _ ≤ _; omega
      obtain ⟨A1, hA1⟩ : ∃ A1, str T = A1 := ⟨_, rfl⟩
      have zA1 : A1.size = T.length := by rw [← hA1]; rfl
      have HA1 := hidK hA1
      have hT1 : 0 < T.length := List.length_pos_iff.2 hT
      rw [hA1] at HBe y0 y1 y2 ⊢
      by_cases hn0 : n = 0
      · rw [if_pos hn0] at hst
        have HE : Hid (F = (T, ks)) := by show _ = _; rw [HT.out.2, hst, List.append_nil]
        subst hn0
        clear hst hbz hp hA1 hT hT1
        go_wp2_with fail
        refine (HBe.out _).mono ?_
        rintro e w1 ⟨rfl, hb1⟩
        have HAl : Hid (Al V w1 (.slice a0 kn cc0) ks) := ⟨below_step HA.out.below hb1, HA.out.keys.below hb1⟩
        obtain ⟨U, Y, hU, hY, HU, HY, HN⟩ := key_beside HAl.out
        have u0 := cell_at HY.out 0
        have u1 := cell_at HY.out 1
        have u2 := free_at HY.out 0
        have u3 := free_at HY.out 1
        obtain ⟨U2, hU2⟩ : ∃ X, (U.setCell ⟨Y, 0, none⟩ (.int .i64 k1)).setCell ⟨Y, 1, none⟩ (.int .i64 k2) = X := ⟨_, rfl⟩
        have hq := key_told HU.out HY.out HN.out k1 k2
        rw [hU2] at hq
        have HQ := hidK hq.1
        have hp := dec_put hq.1 HA3.out A1
        obtain ⟨X, hX⟩ : ∃ X, U2.setCell ⟨Z, 0, none⟩ (.string A1) = X := ⟨_, rfl⟩
        have v0 : U2.cell? ⟨Z, 0, none⟩ = some (.string ⟨#[]⟩) := cell_at ((hq.1.below.block Z (lt_block HA3.out)).trans HA3.out) 0
        have v1 : U2.frozen? ⟨Z, 0, none⟩ = false := free_at ((hq.1.below.block Z (lt_block HA3.out)).trans HA3.out) 0
        have HBX : Hid (Below w.heap.size w (U2.setCell ⟨Z, 0, none⟩ (.string A1))) := (below_step HBV.out hq.1.below).setCell (p := ⟨Z, 0, none⟩) HZl.out _
        rw [hX] at hp HBX
        have HP := hidK hp
        unfold stepV
        clear hp hq hb1
        go_wp2_with fail
        refine ret_cell2 rfl rfl HP.out.1 Tryd.underlying26 rfl infoDecR rfl ⟨_, by rw [HE.out]; show _ = Ending.returned (Value.tuple #[Value.agg #[Value.string (str T)], _]); (rw [HA1.out]; try rfl), by first | exact HBX.out | exact HPz.out _ HBX.out, by rw [HE.out]; exact HP.out.2.1, by first | exact fun g hg => Nat.le_trans HBV.out.size (HP.out.2.2 g hg) | exact HYo.out HP.out.2.2⟩
      · rw [if_neg hn0] at hst
        obtain ⟨hnl, hst⟩ := hst
        have n0 : ¬ (n : Int) = 0 := by omega
        have n0' : ((n : Int) == 0) = false := by simpa using n0
        have n1 : (n : Int) ≤ (A1.size : Int) := by omega
        have n2 : (0 : Int) ≤ (n : Int) := by omega
        have hsl : ∀ W : World, (Instr.slice 9 (.string A1) (some (.int .i64 (n : Int))) none none).run Tryd.prog W = .ok (.string (str (T.drop n))) W := fun W => by
          have h9 := slice_from A1 n (n : Int) rfl (by omega) W
          rw [h9, ← HA1.out, str_dropF]
        by_cases hz : k1 = 0
        · have hz2 := hbz hz
          cases hz2
          have HTn : Hid (ks.length + (T.drop n).length ≤ 2000000 ∧ F = ((feedF [] (T.drop n)).1, ks ++ (feedF [] (T.drop n)).2)) := ⟨by have := HT.out.1; rw [List.length_drop]; omega, (by rw [HT.out.2, hst]; try rfl)⟩
          have HM : Hid ((str (T.drop n)).size < A1.size) := by show _ < _; rw [str_size, List.length_drop, zA1]; omega
          clear hst hbz hp hA1 hT hT1 hn0 hz hnl
          go_wp2_with fail
          refine (HBe.out _).mono ?_
          rintro e w1 ⟨rfl, hb1⟩
          have HAl : Hid (Al V w1 (.slice a0 kn cc0) ks) := ⟨below_step HA.out.below hb1, HA.out.keys.below hb1⟩
          obtain ⟨U, Y, hU, hY, HU, HY, HN⟩ := key_beside HAl.out
          have u0 := cell_at HY.out 0
          have u1 := cell_at HY.out 1
          have u2 := free_at HY.out 0
          have u3 := free_at HY.out 1
          obtain ⟨U2, hU2⟩ : ∃ X, (U.setCell ⟨Y, 0, none⟩ (.int .i64 0)).setCell ⟨Y, 1, none⟩ (.int .i64 0) = X := ⟨_, rfl⟩
          have hq := key_told HU.out HY.out HN.out 0 0
          rw [hU2] at hq
          have HQ := hidK hq.1
          have t0 := cell_at hq.2 0
          have t1 := cell_at hq.2 1
          unfold stepV
          clear hq hb1
          go_wp2_with fail
          go_roundw
          case rel => exact ⟨T.drop n, ks, rfl, by rw [← HKn.out] at HQ; first | exact HQ | (rw [← HKn.out]; exact HQ), HTn⟩
          case measure => exact HM.out
        · have hz' : (k1 == 0) = false := by simpa using hz
          have HTn : Hid ((ks ++ [(k1, k2)]).length + (T.drop n).length ≤ 2000000 ∧ F = ((feedF [] (T.drop n)).1, (ks ++ [(k1, k2)]) ++ (feedF [] (T.drop n)).2)) := ⟨by have := HT.out.1; rw [List.length_drop, List.length_append, List.length_singleton]; omega, by rw [HT.out.2, hst, if_neg hz, Int.add_zero, List.append_assoc]; rfl⟩
          have HM : Hid ((str (T.drop n)).size < A1.size) := by show _ < _; rw [str_size, List.length_drop, zA1]; omega
          have HKl : Hid (ks.length ≤ 20000000) := by show _ ≤ _; have := HT.out.1; omega
          clear hst hbz hp hA1 hT hT1 hn0 hnl
          go_wp2_with fail
          refine (HBe.out _).mono ?_
          rintro e w1 ⟨rfl, hb1⟩
          have HAl : Hid (Al V w1 (.slice a0 kn cc0) ks) := ⟨below_step HA.out.below hb1, HA.out.keys.below hb1⟩
          obtain ⟨U, Y, hU, hY, HU, HY, HN⟩ := key_beside HAl.out
          have u0 := cell_at HY.out 0
          have u1 := cell_at HY.out 1
          have u2 := free_at HY.out 0
          have u3 := free_at HY.out 1
          obtain ⟨U2, hU2⟩ : ∃ X, (U.setCell ⟨Y, 0, none⟩ (.int .i64 k1)).setCell ⟨Y, 1, none⟩ (.int .i64 k2) = X := ⟨_, rfl⟩
          have hq := key_told HU.out HY.out HN.out k1 k2
          rw [hU2] at hq
          have HQ := hidK hq.1
          have t0 := cell_at hq.2 0
          have t1 := cell_at hq.2 1
          have HKe := hidK (HQ.out.keys.below ((Below.refl _ _).alloc (Nat.le_refl _) (.cells #[.int .i64 k1, .int .i64 k2] 36)))
          have HSz : Hid (V.heap.size ≤ (U2.alloc (.cells #[.int .i64 k1, .int .i64 k2] 36)).heap.size) := by have := HQ.out.below.size; show _ ≤ _; simp; omega
          unfold stepV
          clear hq hb1
          go_wp2_with (at_builtin; refine wpList_append_key _ rfl (.tmp 26) (.tmp 28) rfl V.heap.size _ ks rfl HKe.out U2.heap.size (k1, k2) rfl (heap_alloc_new U2 _) ?x1 HSz.out ?_; (case x1 => exact HKl.out); intro tv' w6 hk6 hg6; have HR : Hid (Al V w6 tv' (ks ++ [(k1, k2)])) := (HQ.out.grow _ hk6 hg6); clear hk6 hg6)
          go_roundw
          case rel => exact ⟨T.drop n, ks ++ [(k1, k2)], rfl, HR, HTn⟩
          case measure => exact HM.out
end Go.Proofs.YtnehkokppobncaaDoor

namespace Go.Proofs.YtnehkokppobncaaDoor
open Go.RowKit
set_option linter.unusedVariables false
set_option maxRecDepth 100000

theorem plainZ (x : UInt8) (r : List UInt8) (h : (plainD (x :: r)).1.1 = 0) : (plainD (x :: r)).1 = (0, 0) := by
  by_cases hx : x.toNat < 128
  · rw [plain_low hx] at h
    exact absurd h (lone_not ⟨x.toNat, hx⟩)
  · exact plain_zero hx r h
theorem metaZ (x y : UInt8) (r : List UInt8) : ((metaD (x :: y :: r)).1.1 = 0 → (metaD (x :: y :: r)).1 = (0, 0)) ∧ (metaD (x :: y :: r)).2 ≤ (x :: y :: r).length := by
  have hm : metaD (x :: y :: r) = if y = 27 then ((27, 2), 2) else if (plainD (y :: r)).2 = 0 then ((0, 0), 0) else (if (plainD (y :: r)).1 = (0, 0) then (0, 0) else ((plainD (y :: r)).1.1, (plainD (y :: r)).1.2 + 2), (plainD (y :: r)).2 + 1) := rfl
  rw [hm]
  have hle := plain_le y r
  split
  · exact ⟨fun h => absurd h (by decide), by simp⟩
  · split
    · exact ⟨fun _ => rfl, Nat.zero_le _⟩
    · refine ⟨fun h => ?_, by simp only [List.length_cons] at hle ⊢; omega⟩
      simp only at h ⊢
      split
      · rfl
      · rename_i q
        rw [if_neg q] at h
        exact absurd (plainZ y r h) q
theorem fl_step {T : List UInt8} (hT : T ≠ []) {f : Nat} {k1 k2 : Int} {n : Nat} (h : flP T = ((k1, k2), n)) : flD (f + 1) T = if n = 0 then [] else (if (k1, k2) = (0, 0) then [] else [(k1, k2)]) ++ flD f (T.drop n) := by
  conv => lhs; unfold flD
  rw [if_neg hT, h]
/-- What a round asks of the three ways. -/
structure Way (T : List UInt8) (k1 k2 : Int) (n : Nat) : Prop where
  at_ : flP T = ((k1, k2), n)
  zero : k1 = 0 → (k1, k2) = (0, 0)
  le : n ≤ T.length
set_option maxHeartbeats 16000000 in
theorem rflush_any (h : List UInt8) (hl : h.length ≤ 2000000) (w : World) : Calls Tryd.prog 6 #[.agg #[.string (str h)]] w fun e w' => ∃ v, e = .returned (.tuple #[.agg #[.string ⟨#[]⟩], v]) ∧ Below w.heap.size w w' ∧ SeeK w' v (flD h.length h) ∧ (∀ g, v.ownBlock = some g → w.heap.size ≤ g) := by
  obtain ⟨F, hF⟩ : ∃ F, flD h.length h = F := ⟨_, rfl⟩
  rw [hF]
  have HF := hidK hF
  obtain ⟨A, hA⟩ : ∃ A, str h = A := ⟨_, rfl⟩
  have HAh := hidK hA
  rw [hA]
  obtain ⟨W1, hW1⟩ : ∃ W, w.alloc (.cells #[.string A] 26) = W := ⟨_, rfl⟩
  obtain ⟨Q, hQ⟩ : ∃ Q, w.heap.size = Q := ⟨_, rfl⟩
  obtain ⟨V, hV⟩ : ∃ W, W1.alloc (.cells #[.string ⟨#[]⟩] 26) = W := ⟨_, rfl⟩
  obtain ⟨Z, hZ⟩ : ∃ Q, W1.heap.size = Q := ⟨_, rfl⟩
  have b1 : Below w.heap.size w W1 := by rw [← hW1]; exact (Below.refl _ _).alloc (Nat.le_refl _) _
  have b2 : Below W1.heap.size W1 V := by rw [← hV]; exact (Below.refl _ _).alloc (Nat.le_refl _) _
  have a1 : W1.heap[Q]? = some (.cells #[.string A] 26 (0, 0)) := by rw [← hW1, ← hQ]; exact heap_alloc_new w _
  have a2 := (b2.block Q (lt_block a1)).trans a1
  have a3 : V.heap[Z]? = some (.cells #[.string ⟨#[]⟩] 26 (0, 0)) := by rw [← hV, ← hZ]; exact heap_alloc_new W1 _
  have c0 : V.cell? ⟨Q, 0, none⟩ = some (.string A) := cell_at a2 0
  have HBV := hidK (below_step b1 b2)
  have HA3 := hidK a3
  have HPz : Hid (∀ X, Below w.heap.size w X → Below Q w X) := fun X hX => by rw [← hQ]; exact hX
  have HYo : Hid (∀ {v : Value}, (∀ g, v.ownBlock = some g → V.heap.size ≤ g) → ∀ g, v.ownBlock = some g → Q ≤ g) := fun h g hg => by have := HBV.out.size; have := h g hg; omega
  have HZl : Hid (w.heap.size ≤ Z) := by show _ ≤ _; rw [← hZ]; exact b1.size
  have Hhl := hidK hl
  clear hF hA b1 b2 a1 a2 a3 hl
  go_enter Tryd.func6, Tryd.ntmps6
  go_wp2_with fail
  go_loopw [4, 5] (fun ov sv wr => ∃ (T : List UInt8) (ks : List (Int × Int)), sv = .string (str T) ∧ Hid (Al V wr ov ks) ∧ Hid (ks.length + T.length ≤ 2000000 ∧ ∃ f, T.length ≤ f ∧ F = ks ++ flD f T)) (fun _ sv _ => strSz sv)
  case atStart => exact ⟨h, [], (by first | rfl | rw [HAh.out]), ⟨Below.refl _ _, KeysAt.nil _ _⟩, ⟨by simpa using Hhl.out, h.length, Nat.le_refl _, by rw [HF.out]; rfl⟩⟩
  case round =>
    obtain ⟨T, ks, rfl, HA, HT⟩ := hrel
    obtain ⟨a0, cc0, rfl⟩ := HA.out.keys.slice
    obtain ⟨kn, hkn⟩ : ∃ kn, ks.length = kn := ⟨_, rfl⟩
    have HKn := hidK hkn
    rw [hkn] at HA ⊢
    clear hkn
    by_cases hT : T = []
    · subst hT
      have HE : Hid (F = ks) := by
        obtain ⟨_, f, _, e⟩ := HT.out
        show _ = _
        rw [e]
        cases f <;> simp [flD]
      have y0 : (str []).toList = [] := str_toList []
      have y1 : ((str []).toList == []) = true := by rw [str_toList]; rfl
      have y2 : (str []).toList.isEmpty = true := by rw [str_toList]; rfl
      obtain ⟨E0, hE0⟩ : ∃ E0, str [] = E0 := ⟨_, rfl⟩
      rw [hE0] at y0 y1 y2 ⊢
      have hp := dec_put HA.out HA3.out ⟨#[]⟩
      obtain ⟨X, hX⟩ : ∃ X, wr.setCell ⟨Z, 0, none⟩ (.string ⟨#[]⟩) = X := ⟨_, rfl⟩
      have v0 : wr.cell? ⟨Z, 0, none⟩ = some (.string ⟨#[]⟩) := cell_at ((HA.out.below.block Z (lt_block HA3.out)).trans HA3.out) 0
      have v1 : wr.frozen? ⟨Z, 0, none⟩ = false := free_at ((HA.out.below.block Z (lt_block HA3.out)).trans HA3.out) 0
      have HBX : Hid (Below w.heap.size w (wr.setCell ⟨Z, 0, none⟩ (.string ⟨#[]⟩))) := (below_step HBV.out HA.out.below).setCell (p := ⟨Z, 0, none⟩) HZl.out _
      rw [hX] at hp HBX
      have HP := hidK hp
      clear hp hE0
      go_wp2_with fail
      refine ret_cell2 rfl rfl HP.out.1 Tryd.underlying26 rfl infoDecR rfl ⟨_, rfl, by first | exact HBX.out | exact HPz.out _ HBX.out, by rw [HE.out]; exact HP.out.2.1, by first | exact fun g hg => Nat.le_trans HBV.out.size (HP.out.2.2 g hg) | exact HYo.out HP.out.2.2⟩
    · obtain ⟨y0, y2, y1⟩ := nil_str hT
      have HTl : Hid (T.length ≤ 2000000) := by have := HT.out.1; show _ ≤ _; omega
      have hT1 : 0 < T.length := List.length_pos_iff.2 hT
      have HNe := hidK hT
      obtain ⟨A1, hA1⟩ : ∃ A1, str T = A1 := ⟨_, rfl⟩
      have zA1 : A1.size = T.length := by rw [← hA1]; rfl
      have HA1 := hidK hA1
      have HOn : Hid (∀ k1 k2 n, Way T k1 k2 n → (n = 0 → F = ks) ∧ (n ≠ 0 → ((k1, k2) = (0, 0) → ks.length + (T.drop n).length ≤ 2000000 ∧ ∃ f, (T.drop n).length ≤ f ∧ F = ks ++ flD f (T.drop n)) ∧ (¬ (k1, k2) = (0, 0) → (ks ++ [(k1, k2)]).length + (T.drop n).length ≤ 2000000 ∧ ∃ f, (T.drop n).length ≤ f ∧ F = (ks ++ [(k1, k2)]) ++ flD f (T.drop n)))) := fun k1 k2 n hw => by
        obtain ⟨hb, f, hf, e⟩ := HT.out
        obtain ⟨f', rfl⟩ : ∃ f', f = f' + 1 := ⟨f - 1, by omega⟩
        rw [fl_step HNe.out hw.at_] at e
        have hd : (T.drop n).length = T.length - n := List.length_drop
        have hle := hw.le
        refine ⟨fun q => by rw [e, if_pos q, List.append_nil], fun q => ⟨fun z => ⟨by omega, f', by omega, by rw [e, if_neg q, if_pos z]; rfl⟩, fun z => ⟨by rw [List.length_append, List.length_singleton]; omega, f', by omega, by rw [e, if_neg q, if_neg z, List.append_assoc]⟩⟩⟩
      have HSl : Hid (∀ n : Nat, n ≤ T.length → ∀ W : World, (Instr.slice 9 (.string A1) (some (.int .i64 (n : Int))) none none).run Tryd.prog W = .ok (.string (str (T.drop n))) W) := fun n hn W => by
        have h9 := slice_from A1 n (n : Int) rfl (by omega) W
        rw [h9, ← HA1.out, str_dropF]
      have HM : Hid (∀ n : Nat, n ≠ 0 → (str (T.drop n)).size < A1.size) := fun n hn => by rw [str_size, List.length_drop, zA1]; omega
      obtain ⟨U, Y, hU, hY, HU, HY, HN⟩ := key_beside HA.out
      have u0 := cell_at HY.out 0
      have u1 := cell_at HY.out 1
      have u2 := free_at HY.out 0
      have u3 := free_at HY.out 1
      obtain ⟨U2, hU2⟩ : ∃ X, (U.setCell ⟨Y, 0, none⟩ (.int .i64 0)).setCell ⟨Y, 1, none⟩ (.int .i64 0) = X := ⟨_, rfl⟩
      have hq := key_told HU.out HY.out HN.out 0 0
      rw [hU2] at hq
      have HQ := hidK hq
      have t0 := cell_at hq.2 0
      have t1 := cell_at hq.2 1
      have t2 := free_at hq.2 0
      have t3 := free_at hq.2 1
      clear hq
      rw [hA1] at y0 y1 y2 ⊢
      cases T with
      | nil => exact absurd rfl hT
      | cons x r =>
        have HTl2 : Hid ((x :: r).length ≤ 140737488355328) := by have := HTl.out; show _ ≤ _; omega
        have hA0 : 0 < A1.size := by rw [zA1]; exact hT1
        obtain ⟨B0, hB0⟩ : ∃ B0, x.toNat = B0 := ⟨_, rfl⟩
        have hg0 : (A1[0]'hA0).toNat = B0 := by
          subst hA1
          exact hB0
        have hB8 : B0 < 256 := by rw [← hB0]; exact x.toNat_lt
        by_cases hx : x = 27
        · have e27 : B0 = 27 := by rw [← hB0, hx]; rfl
          subst hx
          subst e27
          cases r with
          | nil =>
            have q0 : A1.toList = [27] := by rw [← hA1, str_toList]
            have q1 : (A1.toList == [27]) = true := by rw [q0]; rfl
            have hway : Way [27] 27 0 1 := ⟨rfl, fun q => absurd q (by decide), by simp⟩
            have hon := HOn.out 27 0 1 hway
            have HGo := hidK ((hon.2 (by decide)).2 (by decide))
            have hsl : ∀ W : World, (Instr.slice 9 (.string A1) (some (.int .i64 1)) none none).run Tryd.prog W = .ok (.string (str (([27] : List UInt8).drop 1))) W := fun W => HSl.out 1 (by simp) W
            have HB : Hid (Al V U2 (.slice a0 kn cc0) ks ∧ U2.heap[Y]? = some (.cells #[.int .i64 0, .int .i64 0] 36 (0, 0))) := HQ.out
            have HN0 : Hid ((1 : Nat) ≠ 0) := by show _ ≠ _; decide
            have n1 : (1 : Int) ≤ (A1.size : Int) := by omega
            clear hon hway HOn HSl hA1 hB0 hT hT1
            obtain ⟨U3, hU3⟩ : ∃ X, (U2.setCell ⟨Y, 0, none⟩ (.int .i64 27)).setCell ⟨Y, 1, none⟩ (.int .i64 0) = X := ⟨_, rfl⟩
            have hq3 := key_told HB.out.1 HB.out.2 HN.out 27 0
            rw [hU3] at hq3
            have HQ3 := hidK hq3
            have s0 := cell_at hq3.2 0
            have s1 := cell_at hq3.2 1
            have HKe := hidK (HQ3.out.1.keys.below ((Below.refl _ _).alloc (Nat.le_refl _) (.cells #[.int .i64 27, .int .i64 0] 36)))
            have HSz : Hid (V.heap.size ≤ (U3.alloc (.cells #[.int .i64 27, .int .i64 0] 36)).heap.size) := by have := HQ3.out.1.below.size; show _ ≤ _; simp; omega
            have HKl : Hid (ks.length ≤ 20000000) := by show _ ≤ _; have := HT.out.1; omega
            clear hq3
            go_wp2_with (at_builtin; refine wpList_append_key _ rfl (.tmp 36) (.tmp 38) rfl V.heap.size _ ks rfl HKe.out U3.heap.size (27, 0) rfl (heap_alloc_new U3 _) ?x1 HSz.out ?_; (case x1 => exact HKl.out); intro tv' w6 hk6 hg6; have HR : Hid (Al V w6 tv' (ks ++ [(27, 0)])) := (HQ3.out.1.grow _ hk6 hg6); clear hk6 hg6)
            go_roundw
            case rel => exact ⟨([27] : List UInt8).drop 1, ks ++ [(27, 0)], rfl, HR, HGo⟩
            case measure => exact HM.out 1 HN0.out
          | cons y r =>
            have q0 : ¬ A1.toList = [27] := by rw [← hA1, str_toList]; simp
            have q1 : (A1.toList == [27]) = false := by simpa using q0
            have hC := rmeta_any 27 y r HTl2.out
            have hzl := metaZ 27 y r
            rw [hA1] at hC
            clear hA1 hB0 hT hT1
            obtain ⟨⟨⟨k1, k2⟩, n⟩, hp⟩ : ∃ p, metaD (27 :: y :: r) = p := ⟨_, rfl⟩
            rw [hp] at hC hzl
            simp only at hzl
            have hway : Way (27 :: y :: r) k1 k2 n := ⟨by unfold flP; rw [if_neg (by simp), if_pos (show (27 :: y :: r).headD 0 = 27 from rfl)]; exact hp, hzl.1, hzl.2⟩
            have hon := HOn.out k1 k2 n hway
            have hsl := HSl.out n hzl.2
            have HC := hidK hC
            have n1 : (n : Int) ≤ (A1.size : Int) := by have := hzl.2; omega
            have n2 : (0 : Int) ≤ (n : Int) := by omega
            have hzz := hzl.1
            clear hp hC hzl hway HOn HSl
            by_cases hn0 : n = 0
            · have HE := hidK (hon.1 hn0)
              subst hn0
              clear hon hzz
              go_wp2_with fail
              refine (HC.out _).mono ?_
              rintro e w1 ⟨rfl, hb1⟩
              have HB : Hid (Al V w1 (.slice a0 kn cc0) ks ∧ w1.heap[Y]? = some (.cells #[.int .i64 0, .int .i64 0] 36 (0, 0))) := ⟨⟨below_step HQ.out.1.below hb1, HQ.out.1.keys.below hb1⟩, (hb1.block Y (lt_block HQ.out.2)).trans HQ.out.2⟩
              have r0 := cell_at HB.out.2 0
              have r1 := cell_at HB.out.2 1
              have r2 := free_at HB.out.2 0
              have r3 := free_at HB.out.2 1
              obtain ⟨U3, hU3⟩ : ∃ X, (w1.setCell ⟨Y, 0, none⟩ (.int .i64 k1)).setCell ⟨Y, 1, none⟩ (.int .i64 k2) = X := ⟨_, rfl⟩
              have hq3 := key_told HB.out.1 HB.out.2 HN.out k1 k2
              rw [hU3] at hq3
              have HQ3 := hidK hq3
              have s0 := cell_at hq3.2 0
              have s1 := cell_at hq3.2 1
              unfold stepV
              clear hb1
              have hp := dec_put hq3.1 HA3.out ⟨#[]⟩
              obtain ⟨X, hX⟩ : ∃ X, U3.setCell ⟨Z, 0, none⟩ (.string ⟨#[]⟩) = X := ⟨_, rfl⟩
              have v0 : U3.cell? ⟨Z, 0, none⟩ = some (.string ⟨#[]⟩) := cell_at ((hq3.1.below.block Z (lt_block HA3.out)).trans HA3.out) 0
              have v1 : U3.frozen? ⟨Z, 0, none⟩ = false := free_at ((hq3.1.below.block Z (lt_block HA3.out)).trans HA3.out) 0
              have HBX : Hid (Below w.heap.size w (U3.setCell ⟨Z, 0, none⟩ (.string ⟨#[]⟩))) := (below_step HBV.out hq3.1.below).setCell (p := ⟨Z, 0, none⟩) HZl.out _
              rw [hX] at hp HBX
              have HP := hidK hp
              clear hp hq3
              go_wp2_with fail
              refine ret_cell2 rfl rfl HP.out.1 Tryd.underlying26 rfl infoDecR rfl ⟨_, rfl, by first | exact HBX.out | exact HPz.out _ HBX.out, by rw [HE.out]; exact HP.out.2.1, by first | exact fun g hg => Nat.le_trans HBV.out.size (HP.out.2.2 g hg) | exact HYo.out HP.out.2.2⟩
            · have n0 : ¬ (n : Int) = 0 := by omega
              have n0' : ((n : Int) == 0) = false := by simpa using n0
              have HN0 := hidK hn0
              by_cases hz : k1 = 0
              · have hz2 := hzz hz
                have HGo := hidK ((hon.2 hn0).1 hz2)
                cases hz2
                clear hon hzz hn0 hz
                go_wp2_with fail
                refine (HC.out _).mono ?_
                rintro e w1 ⟨rfl, hb1⟩
                have HB : Hid (Al V w1 (.slice a0 kn cc0) ks ∧ w1.heap[Y]? = some (.cells #[.int .i64 0, .int .i64 0] 36 (0, 0))) := ⟨⟨below_step HQ.out.1.below hb1, HQ.out.1.keys.below hb1⟩, (hb1.block Y (lt_block HQ.out.2)).trans HQ.out.2⟩
                have r0 := cell_at HB.out.2 0
                have r1 := cell_at HB.out.2 1
                have r2 := free_at HB.out.2 0
                have r3 := free_at HB.out.2 1
                obtain ⟨U3, hU3⟩ : ∃ X, (w1.setCell ⟨Y, 0, none⟩ (.int .i64 0)).setCell ⟨Y, 1, none⟩ (.int .i64 0) = X := ⟨_, rfl⟩
                have hq3 := key_told HB.out.1 HB.out.2 HN.out 0 0
                rw [hU3] at hq3
                have HQ3 := hidK hq3
                have s0 := cell_at hq3.2 0
                have s1 := cell_at hq3.2 1
                unfold stepV
                clear hb1
                clear hq3
                go_wp2_with fail
                go_roundw
                case rel => exact ⟨(27 :: y :: r).drop n, ks, rfl, by first | (rw [← HKn.out] at HQ3; exact HQ3.out.1) | (rw [← HKn.out]; exact HQ3.out.1) | exact HQ3.out.1, HGo⟩
                case measure => exact HM.out n HN0.out
              · have hz' : (k1 == 0) = false := by simpa using hz
                have HGo := hidK ((hon.2 hn0).2 (fun q => hz (congrArg Prod.fst q)))
                clear hon hzz hn0
                go_wp2_with fail
                refine (HC.out _).mono ?_
                rintro e w1 ⟨rfl, hb1⟩
                have HB : Hid (Al V w1 (.slice a0 kn cc0) ks ∧ w1.heap[Y]? = some (.cells #[.int .i64 0, .int .i64 0] 36 (0, 0))) := ⟨⟨below_step HQ.out.1.below hb1, HQ.out.1.keys.below hb1⟩, (hb1.block Y (lt_block HQ.out.2)).trans HQ.out.2⟩
                have r0 := cell_at HB.out.2 0
                have r1 := cell_at HB.out.2 1
                have r2 := free_at HB.out.2 0
                have r3 := free_at HB.out.2 1
                obtain ⟨U3, hU3⟩ : ∃ X, (w1.setCell ⟨Y, 0, none⟩ (.int .i64 k1)).setCell ⟨Y, 1, none⟩ (.int .i64 k2) = X := ⟨_, rfl⟩
                have hq3 := key_told HB.out.1 HB.out.2 HN.out k1 k2
                rw [hU3] at hq3
                have HQ3 := hidK hq3
                have s0 := cell_at hq3.2 0
                have s1 := cell_at hq3.2 1
                unfold stepV
                clear hb1
                have HKe := hidK (HQ3.out.1.keys.below ((Below.refl _ _).alloc (Nat.le_refl _) (.cells #[.int .i64 k1, .int .i64 k2] 36)))
                have HSz : Hid (V.heap.size ≤ (U3.alloc (.cells #[.int .i64 k1, .int .i64 k2] 36)).heap.size) := by have := HQ3.out.1.below.size; show _ ≤ _; simp; omega
                have HKl : Hid (ks.length ≤ 20000000) := by show _ ≤ _; have := HT.out.1; omega
                clear hq3
                go_wp2_with (at_builtin; refine wpList_append_key _ rfl (.tmp 36) (.tmp 38) rfl V.heap.size _ ks rfl HKe.out U3.heap.size (k1, k2) rfl (heap_alloc_new U3 _) ?x1 HSz.out ?_; (case x1 => exact HKl.out); intro tv' w6 hk6 hg6; have HR : Hid (Al V w6 tv' (ks ++ [(k1, k2)])) := (HQ3.out.1.grow _ hk6 hg6); clear hk6 hg6)
                go_roundw
                case rel => exact ⟨(27 :: y :: r).drop n, ks ++ [(k1, k2)], rfl, HR, HGo⟩
                case measure => exact HM.out n HN0.out
        · have e27 : ¬ B0 = 27 := fun e => hx (UInt8.toNat_inj.1 (by rw [hB0, e]; rfl))
          have e27i : ¬ (B0 : Int) = 27 := by omega
          have e27b : ((B0 : Int) == 27) = false := by simpa using e27i
          have q0 : ¬ A1.toList = [27] := by rw [← hA1, str_toList]; simp [hx]
          have q1 : (A1.toList == [27]) = false := by simpa using q0
          have hC := rplain_any (x :: r) (by simp) HTl2.out
          have hzl : ((plainD (x :: r)).1.1 = 0 → (plainD (x :: r)).1 = (0, 0)) ∧ (plainD (x :: r)).2 ≤ (x :: r).length := ⟨plainZ x r, plain_le x r⟩
          have hxx := hidK hx
          rw [hA1] at hC
          clear hA1 hB0 hT hT1 hx e27
          obtain ⟨⟨⟨k1, k2⟩, n⟩, hp⟩ : ∃ p, plainD (x :: r) = p := ⟨_, rfl⟩
          rw [hp] at hC hzl
          simp only at hzl
          have hway : Way (x :: r) k1 k2 n := ⟨by unfold flP; rw [if_neg (by simp [hxx.out]), if_neg (by exact hxx.out)]; exact hp, hzl.1, hzl.2⟩
          have hon := HOn.out k1 k2 n hway
          have hsl := HSl.out n hzl.2
          have HC := hidK hC
          have n1 : (n : Int) ≤ (A1.size : Int) := by have := hzl.2; omega
          have n2 : (0 : Int) ≤ (n : Int) := by omega
          have hzz := hzl.1
          clear hp hC hzl hway HOn HSl
          by_cases hn0 : n = 0
          · have HE := hidK (hon.1 hn0)
            subst hn0
            clear hon hzz
            go_wp2_with fail
            refine (HC.out _).mono ?_
            rintro e w1 ⟨rfl, hb1⟩
            have HB : Hid (Al V w1 (.slice a0 kn cc0) ks ∧ w1.heap[Y]? = some (.cells #[.int .i64 0, .int .i64 0] 36 (0, 0))) := ⟨⟨below_step HQ.out.1.below hb1, HQ.out.1.keys.below hb1⟩, (hb1.block Y (lt_block HQ.out.2)).trans HQ.out.2⟩
            have r0 := cell_at HB.out.2 0
            have r1 := cell_at HB.out.2 1
            have r2 := free_at HB.out.2 0
            have r3 := free_at HB.out.2 1
            obtain ⟨U3, hU3⟩ : ∃ X, (w1.setCell ⟨Y, 0, none⟩ (.int .i64 k1)).setCell ⟨Y, 1, none⟩ (.int .i64 k2) = X := ⟨_, rfl⟩
            have hq3 := key_told HB.out.1 HB.out.2 HN.out k1 k2
            rw [hU3] at hq3
            have HQ3 := hidK hq3
            have s0 := cell_at hq3.2 0
            have s1 := cell_at hq3.2 1
            unfold stepV
            clear hb1
            have hp := dec_put hq3.1 HA3.out ⟨#[]⟩
            obtain ⟨X, hX⟩ : ∃ X, U3.setCell ⟨Z, 0, none⟩ (.string ⟨#[]⟩) = X := ⟨_, rfl⟩
            have v0 : U3.cell? ⟨Z, 0, none⟩ = some (.string ⟨#[]⟩) := cell_at ((hq3.1.below.block Z (lt_block HA3.out)).trans HA3.out) 0
            have v1 : U3.frozen? ⟨Z, 0, none⟩ = false := free_at ((hq3.1.below.block Z (lt_block HA3.out)).trans HA3.out) 0
            have HBX : Hid (Below w.heap.size w (U3.setCell ⟨Z, 0, none⟩ (.string ⟨#[]⟩))) := (below_step HBV.out hq3.1.below).setCell (p := ⟨Z, 0, none⟩) HZl.out _
            rw [hX] at hp HBX
            have HP := hidK hp
            clear hp hq3
            go_wp2_with fail
            refine ret_cell2 rfl rfl HP.out.1 Tryd.underlying26 rfl infoDecR rfl ⟨_, rfl, by first | exact HBX.out | exact HPz.out _ HBX.out, by rw [HE.out]; exact HP.out.2.1, by first | exact fun g hg => Nat.le_trans HBV.out.size (HP.out.2.2 g hg) | exact HYo.out HP.out.2.2⟩
          · have n0 : ¬ (n : Int) = 0 := by omega
            have n0' : ((n : Int) == 0) = false := by simpa using n0
            have HN0 := hidK hn0
            by_cases hz : k1 = 0
            · have hz2 := hzz hz
              have HGo := hidK ((hon.2 hn0).1 hz2)
              cases hz2
              clear hon hzz hn0 hz
              go_wp2_with fail
              refine (HC.out _).mono ?_
              rintro e w1 ⟨rfl, hb1⟩
              have HB : Hid (Al V w1 (.slice a0 kn cc0) ks ∧ w1.heap[Y]? = some (.cells #[.int .i64 0, .int .i64 0] 36 (0, 0))) := ⟨⟨below_step HQ.out.1.below hb1, HQ.out.1.keys.below hb1⟩, (hb1.block Y (lt_block HQ.out.2)).trans HQ.out.2⟩
              have r0 := cell_at HB.out.2 0
              have r1 := cell_at HB.out.2 1
              have r2 := free_at HB.out.2 0
              have r3 := free_at HB.out.2 1
              obtain ⟨U3, hU3⟩ : ∃ X, (w1.setCell ⟨Y, 0, none⟩ (.int .i64 0)).setCell ⟨Y, 1, none⟩ (.int .i64 0) = X := ⟨_, rfl⟩
              have hq3 := key_told HB.out.1 HB.out.2 HN.out 0 0
              rw [hU3] at hq3
              have HQ3 := hidK hq3
              have s0 := cell_at hq3.2 0
              have s1 := cell_at hq3.2 1
              unfold stepV
              clear hb1
              clear hq3
              go_wp2_with fail
              go_roundw
              case rel => exact ⟨(x :: r).drop n, ks, rfl, by first | (rw [← HKn.out] at HQ3; exact HQ3.out.1) | (rw [← HKn.out]; exact HQ3.out.1) | exact HQ3.out.1, HGo⟩
              case measure => exact HM.out n HN0.out
            · have hz' : (k1 == 0) = false := by simpa using hz
              have HGo := hidK ((hon.2 hn0).2 (fun q => hz (congrArg Prod.fst q)))
              clear hon hzz hn0
              go_wp2_with fail
              refine (HC.out _).mono ?_
              rintro e w1 ⟨rfl, hb1⟩
              have HB : Hid (Al V w1 (.slice a0 kn cc0) ks ∧ w1.heap[Y]? = some (.cells #[.int .i64 0, .int .i64 0] 36 (0, 0))) := ⟨⟨below_step HQ.out.1.below hb1, HQ.out.1.keys.below hb1⟩, (hb1.block Y (lt_block HQ.out.2)).trans HQ.out.2⟩
              have r0 := cell_at HB.out.2 0
              have r1 := cell_at HB.out.2 1
              have r2 := free_at HB.out.2 0
              have r3 := free_at HB.out.2 1
              obtain ⟨U3, hU3⟩ : ∃ X, (w1.setCell ⟨Y, 0, none⟩ (.int .i64 k1)).setCell ⟨Y, 1, none⟩ (.int .i64 k2) = X := ⟨_, rfl⟩
              have hq3 := key_told HB.out.1 HB.out.2 HN.out k1 k2
              rw [hU3] at hq3
              have HQ3 := hidK hq3
              have s0 := cell_at hq3.2 0
              have s1 := cell_at hq3.2 1
              unfold stepV
              clear hb1
              have HKe := hidK (HQ3.out.1.keys.below ((Below.refl _ _).alloc (Nat.le_refl _) (.cells #[.int .i64 k1, .int .i64 k2] 36)))
              have HSz : Hid (V.heap.size ≤ (U3.alloc (.cells #[.int .i64 k1, .int .i64 k2] 36)).heap.size) := by have := HQ3.out.1.below.size; show _ ≤ _; simp; omega
              have HKl : Hid (ks.length ≤ 20000000) := by show _ ≤ _; have := HT.out.1; omega
              clear hq3
              go_wp2_with (at_builtin; refine wpList_append_key _ rfl (.tmp 36) (.tmp 38) rfl V.heap.size _ ks rfl HKe.out U3.heap.size (k1, k2) rfl (heap_alloc_new U3 _) ?x1 HSz.out ?_; (case x1 => exact HKl.out); intro tv' w6 hk6 hg6; have HR : Hid (Al V w6 tv' (ks ++ [(k1, k2)])) := (HQ3.out.1.grow _ hk6 hg6); clear hk6 hg6)
              go_roundw
              case rel => exact ⟨(x :: r).drop n, ks ++ [(k1, k2)], rfl, HR, HGo⟩
              case measure => exact HM.out n HN0.out
end Go.Proofs.YtnehkokppobncaaDoor
