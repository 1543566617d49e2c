/-
  Buffers: Set, the program's.
-/
import Derived.Test.YtgbaeajcgiaboaaDoorUMod
namespace Go.Proofs.YtgbaeajcgiaboaaDoor
open Go.RowKit
set_option linter.unusedVariables false
set_option maxRecDepth 100000

set_option maxHeartbeats 8000000 in
theorem setAut_any {w0 w : World} {b : Nat} {v : Value} {s : St} {j : Nat} (E : Env w0 w b v) (h : Bf w b v s.l (s.lim : Int) (s.c : Int)) (hG : Good s j) (hj : j ≤ 1000000) (text : ByteArray) (ht : text.size ≤ 65536) :
    Calls Tryd.prog 21 #[.pointer (some ⟨b, 0, none⟩), .string text] w fun e w' => e = .returned (.string (nm (nx s.l s.c))) ∧ ∃ v', Bf w' b v' (setAut s text).l ((setAut s text).lim : Int) ((setAut s text).c : Int) ∧ Stp w w' b v v' := by
  have hc := hG.c
  have hlen := hG.len
  have hlim := hG.lim
  have H1 := hidK (nextName_any E h (by omega) (by omega))
  have hle := nx_le s.l s.c
  have hns : (nm (nx s.l s.c)).size ≤ 25 := nm_size (by omega)
  have hlt := h.lt
  unfold setAut
  obtain ⟨N, hN⟩ : ∃ N, nm (nx s.l s.c) = N := ⟨_, rfl⟩
  rw [hN] at H1 hns ⊢
  obtain ⟨c2, hc2⟩ : ∃ c2, nx s.l s.c + 1 = c2 := ⟨_, rfl⟩
  rw [hc2] at H1 ⊢
  have H2 : Hid (∀ (W : World) (V : Value), Bf W b V s.l (s.lim : Int) (c2 : Int) → Calls Tryd.prog 42 #[.pointer (some ⟨b, 0, none⟩), .agg #[.string N, .string text, .bool true]] W fun e w' => e = .returned (.tuple #[]) ∧ ∃ v', Bf w' b v' (⟨N, text, true⟩ :: s.l) (s.lim : Int) (c2 : Int) ∧ Stp W w' b V v') := fun W V hV => push_any hV N text true (by omega) (by omega) (by omega)
  have H3 : Hid (∀ (W : World) (V : Value), Bf W b V (⟨N, text, true⟩ :: s.l) (s.lim : Int) (c2 : Int) → Calls Tryd.prog 40 #[.pointer (some ⟨b, 0, none⟩)] W fun e w' => e = .returned (.tuple #[]) ∧ ∃ v', Bf w' b v' (trimG s.lim (⟨N, text, true⟩ :: s.l)) (s.lim : Int) (c2 : Int) ∧ Stp W w' b V v') := fun W V hV => trim_any hV (by omega) (by simp only [List.length_cons]; omega)
  clear hc hlen hlim hle hns hN hc2 E hG
  go_enter Tryd.func21, Tryd.ntmps21
  go_wp2_with fail
  refine H1.out.mono ?_
  rintro e w1 ⟨rfl, h1, s1⟩
  have HB1 := hidK h1
  have HS1 := hidK s1
  clear h1 s1
  go_wp2_with fail
  refine (H2.out _ _ HB1.out).mono ?_
  rintro e w2 ⟨rfl, v2, h2, s2⟩
  have HB2 := hidK h2
  have HS2 := hidK (HS1.out.trans s2 hlt)
  clear h2 s2
  go_wp2_with fail
  refine (H3.out _ _ HB2.out).mono ?_
  rintro e w3 ⟨rfl, v3, h3, s3⟩
  have HB3 := hidK h3
  have HS3 := hidK (HS2.out.trans s3 hlt)
  clear h3 s3
  go_wp2_with fail
  go_ret
  exact ⟨rfl, v3, HB3.out, HS3.out⟩
/-- A block of one's own that a step leaves. -/
theorem Stp.keep {w X Y : World} {b Q : Nat} {v v' : Value} {l : List Kp} {lim c : Int} {o : Obj} (h : Bf X b v l lim c) (k : Stp X Y b v v') (hq : X.heap[Q]? = some o) (hw : w.heap.size ≤ Q) (hb : b < w.heap.size) (hv : ∀ g, v.ownBlock = some g → g < w.heap.size) : Y.heap[Q]? = some o :=
  (k.but.block Q (lt_block hq) fun hh => by
    rcases List.mem_cons.1 hh with e | e
    · omega
    · have := hv Q (by simpa using e)
      omega).trans hq
set_option maxHeartbeats 8000000 in
theorem setNamed_any {w : World} {b : Nat} {v : Value} {s : St} {j : Nat} (h : Bf w b v s.l (s.lim : Int) (s.c : Int)) (hG : Good s j) (name text : ByteArray) (hn : name.size ≤ 32) (ht : text.size ≤ 65536) :
    Calls Tryd.prog 23 #[.pointer (some ⟨b, 0, none⟩), .string name, .string text] w fun e w' => e = .returned (.tuple #[.string (nmdF s name text).2.1, .int .i64 (nmdF s name text).2.2]) ∧ ∃ v', Bf w' b v' (nmdF s name text).1.l ((nmdF s name text).1.lim : Int) ((nmdF s name text).1.c : Int) ∧ Stp w w' b v v' := by
  have hlen := hG.len
  obtain ⟨W1, hW1⟩ : ∃ W, w.alloc (.cells #[.string name, .string text, .bool false] 54) = W := ⟨_, rfl⟩
  have a1 : W1.heap[w.heap.size]? = some (.cells #[.string name, .string text, .bool false] 54 (0, 0)) := by rw [← hW1]; exact heap_alloc_new w _
  have b1 : Below w.heap.size w W1 := by rw [← hW1]; exact (Below.refl _ _).alloc (Nat.le_refl _) _
  have hB1 := h.below b1
  have HP := hidK (place_any hB1 name)
  have HA := hidK a1
  have HW1 := hidK b1
  have HB := hidK hB1
  have hlt := h.lt
  have hvl := Row.lt h.row
  have HV := hidK hvl
  have HWe := hidK hW1
  have HCl := hidK (fun W => clone_any name W (by omega))
  obtain ⟨ad, cp, rfl⟩ := h.slice
  have HH := hidK h
  clear h a1 b1 hB1 hvl hW1
  cases hf : s.l.findIdx? (nmd name) with
  | some k =>
    have hk := findIdx_lt hf
    have hfi := fidx_some hf
    obtain ⟨⟨xn, xt, xa⟩, hx⟩ : ∃ q, s.l[k] = q := ⟨_, rfl⟩
    have HF : Hid (nmdF s name text = (setOld s name text k xa, name, 0)) := by
      show _ = _
      unfold nmdF
      rw [hf]
      simp only [List.getElem?_eq_getElem hk, hx, Option.map_some, Option.getD_some]
    rw [HF.out]
    rw [hfi] at HP
    unfold setOld
    have hi0 : (0 : Int) ≤ (k : Int) := by omega
    have hkl : (k : Int) < (s.l.length : Int) := by omega
    have HT : Hid (∀ (W : World) (V : Value), Bf W b V s.l (s.lim : Int) (s.c : Int) → Calls Tryd.prog 37 #[.pointer (some ⟨b, 0, none⟩), .int .i64 (k : Int)] W fun e w' => e = .returned (.tuple #[]) ∧ ∃ v', Bf w' b v' (s.l.eraseIdx k) (s.lim : Int) (s.c : Int) ∧ Stp W w' b V v') := fun W V hV => take_any hV k hk (by omega)
    have HU : Hid (∀ (W : World) (V : Value), Bf W b V (s.l.eraseIdx k) (s.lim : Int) (s.c : Int) → Calls Tryd.prog 42 #[.pointer (some ⟨b, 0, none⟩), .agg #[.string name, .string text, .bool xa]] W fun e w' => e = .returned (.tuple #[]) ∧ ∃ v', Bf w' b v' (⟨name, text, xa⟩ :: s.l.eraseIdx k) (s.lim : Int) (s.c : Int) ∧ Stp W w' b V v') := fun W V hV => push_any hV name text xa (by omega) (by omega) (by have := List.length_eraseIdx_le s.l k; omega)
    have HK := hidK hk
    have HX : Hid (s.l[k]? = some ⟨xn, xt, xa⟩) := by show _ = _; rw [List.getElem?_eq_getElem hk, hx]
    clear hf hfi hG hlen hn ht hx
    go_enter Tryd.func23, Tryd.ntmps23
    go_wp2_with fail
    rw [HWe.out]
    refine HP.out.mono ?_
    rintro e w2 ⟨rfl, hb2⟩
    have hB2 := HB.out.below hb2
    have hq2 : w2.heap[w.heap.size]? = _ := (hb2.block w.heap.size (lt_block HA.out)).trans HA.out
    have c0 : w2.cell? ⟨b, 0, none⟩ = some _ := cell_at hB2.hd 0
    obtain ⟨ad2, cp2, he, _, _, hnil, hsome⟩ := hB2.row.shape
    cases he
    cases ad with
    | none => have := (hnil rfl).1; have h2 := HK.out; rw [this] at h2; simp at h2
    | some a =>
      obtain ⟨g0, o0, rfl, hob, hgl, hat⟩ := hsome _ rfl
      have c2 := hat w2 rfl k HK.out 2 (.bool xa) (by have := HX.out; rw [List.getElem?_eq_getElem hk] at this; rw [Option.some.inj this]; rfl)
      have q0 : w2.cell? ⟨w.heap.size, 2, none⟩ = some _ := cell_at hq2 2
      have q1 : w2.frozen? ⟨w.heap.size, 2, none⟩ = false := free_at hq2 2
      obtain ⟨w3, hw3⟩ : ∃ w3, w2.setCell ⟨w.heap.size, 2, none⟩ (.bool xa) = w3 := ⟨_, rfl⟩
      have hb3 : Below w.heap.size w w3 := by
        rw [← hw3]
        exact (HW1.out.trans (hb2.mono HW1.out.size)).setCell (Nat.le_refl _) _
      have hq3 : w3.heap[w.heap.size]? = some (.cells #[.string name, .string text, .bool xa] 54 (0, 0)) := by rw [← hw3]; exact put_at hq2 2 _
      have HB3 := hidK (HH.out.below hb3)
      have HW3 := hidK hb3
      have HQ3 := hidK hq3
      clear hb2 hB2 hnil hsome hat hob hgl hb3 hq2 hq3 HP
      go_wp2_with fail
      refine (HT.out _ _ HB3.out).mono ?_
      rintro e w4 ⟨rfl, v4, h4, s4⟩
      have hq4 := Stp.keep (w := w) HB3.out s4 HQ3.out (Nat.le_refl _) hlt HV.out
      have k0 := cell_at hq4 0
      have k1 := cell_at hq4 1
      have k2 := cell_at hq4 2
      have HB4 := hidK h4
      have HS4 := hidK (Stp.ahead HW3.out s4)
      clear h4 s4 hq4 c0 c2 q0 q1
      go_wp2_with fail
      refine (HU.out _ _ HB4.out).mono ?_
      rintro e w5 ⟨rfl, v5, h5, s5⟩
      have HB5 := hidK h5
      have HS5 := hidK (HS4.out.trans s5 hlt)
      clear h5 s5 k0 k1 k2
      go_wp2_with fail
      refine (HCl.out _).mono ?_
      rintro e w6 ⟨rfl, hb6⟩
      have HB6 := hidK (HB5.out.below hb6)
      have HS6 := hidK (HS5.out.behind hb6)
      clear hb6
      go_wp2_with fail
      go_ret2
      exact ⟨rfl, v5, HB6.out, HS6.out⟩
  | none =>
    have hfi := fidx_none hf
    rw [hfi] at HP
    have HFull : Hid (∀ (W : World) (V : Value), Bf W b V s.l (s.lim : Int) (s.c : Int) → Calls Tryd.prog 39 #[.pointer (some ⟨b, 0, none⟩)] W fun e w' => e = .returned (.bool (decide (20 ≤ named s.l))) ∧ Below W.heap.size W w') := fun W V hV => isFull_any hV
    by_cases hfull : 20 ≤ named s.l
    · have HF : Hid (nmdF s name text = (s, emp, 3)) := by
        show _ = _
        unfold nmdF
        rw [hf]
        exact if_pos hfull
      rw [HF.out]
      rw [decide_eq_true hfull] at HFull
      clear hf hfi hG hlen hn ht hfull
      go_enter Tryd.func23, Tryd.ntmps23
      go_wp2_with fail
      rw [HWe.out]
      refine HP.out.mono ?_
      rintro e w2 ⟨rfl, hb2⟩
      have HB2 := hidK (HB.out.below hb2)
      have HW2 := hidK (HW1.out.trans (hb2.mono HW1.out.size))
      clear hb2
      go_wp2_with fail
      refine (HFull.out _ _ HB2.out).mono ?_
      rintro e w3 ⟨rfl, hb3⟩
      have HW3 := hidK (HW2.out.trans (hb3.mono HW2.out.size))
      clear hb3
      go_wp2_with fail
      go_ret2
      exact ⟨rfl, _, HH.out.below HW3.out, Stp.behind (Stp.refl _ _ _) HW3.out⟩
    · have HF : Hid (nmdF s name text = (setNew s name text, name, 0)) := by
        show _ = _
        unfold nmdF
        rw [hf]
        exact if_neg hfull
      rw [HF.out]
      unfold setNew
      have HU : Hid (∀ (W : World) (V : Value), Bf W b V s.l (s.lim : Int) (s.c : Int) → Calls Tryd.prog 42 #[.pointer (some ⟨b, 0, none⟩), .agg #[.string name, .string text, .bool false]] W fun e w' => e = .returned (.tuple #[]) ∧ ∃ v', Bf w' b v' (⟨name, text, false⟩ :: s.l) (s.lim : Int) (s.c : Int) ∧ Stp W w' b V v') := fun W V hV => push_any hV name text false (by omega) (by omega) (by omega)
      rw [decide_eq_false hfull] at HFull
      clear hf hfi hG hlen hn ht hfull
      go_enter Tryd.func23, Tryd.ntmps23
      go_wp2_with fail
      rw [HWe.out]
      refine HP.out.mono ?_
      rintro e w2 ⟨rfl, hb2⟩
      have HB2 := hidK (HB.out.below hb2)
      have HQ2 := hidK ((hb2.block w.heap.size (lt_block HA.out)).trans HA.out)
      have HW2 := hidK (HW1.out.trans (hb2.mono HW1.out.size))
      clear hb2
      go_wp2_with fail
      refine (HFull.out _ _ HB2.out).mono ?_
      rintro e w3 ⟨rfl, hb3⟩
      have HB3 := hidK (HB2.out.below hb3)
      have hq3 := (hb3.block w.heap.size (lt_block HQ2.out)).trans HQ2.out
      have k0 := cell_at hq3 0
      have k1 := cell_at hq3 1
      have k2 := cell_at hq3 2
      have HW3 := hidK (HW2.out.trans (hb3.mono HW2.out.size))
      clear hb3 hq3
      go_wp2_with fail
      refine (HU.out _ _ HB3.out).mono ?_
      rintro e w5 ⟨rfl, v5, h5, s5⟩
      have HB5 := hidK h5
      have HS5 := hidK (Stp.ahead HW3.out s5)
      clear h5 s5 k0 k1 k2
      go_wp2_with fail
      refine (HCl.out _).mono ?_
      rintro e w6 ⟨rfl, hb6⟩
      have HB6 := hidK (HB5.out.below hb6)
      have HS6 := hidK (HS5.out.behind hb6)
      clear hb6
      go_wp2_with fail
      go_ret2
      exact ⟨rfl, v5, HB6.out, HS6.out⟩
set_option maxHeartbeats 8000000 in
theorem set_any {w0 w : World} {b : Nat} {v : Value} {s : St} {j : Nat} (E : Env w0 w b v) (h : Bf w b v s.l (s.lim : Int) (s.c : Int)) (hG : Good s j) (hj : j ≤ 1000000) (name text : ByteArray) (hn : name.size ≤ 140737488355328) (ht : text.size ≤ 140737488355328) :
    Calls Tryd.prog 11 #[.pointer (some ⟨b, 0, none⟩), .string name, .string text] w fun e w' => e = .returned (.tuple #[.string (setF s name text).2.1, .int .i64 (setF s name text).2.2]) ∧ ∃ v', Bf w' b v' (setF s name text).1.l ((setF s name text).1.lim : Int) ((setF s name text).1.c : Int) ∧ Stp w w' b v v' := by
  have HH := hidK h
  by_cases hlong : 65536 < text.size
  · have HF : Hid (setF s name text = (s, emp, 2)) := if_pos hlong
    rw [HF.out]
    have hi : (65536 : Int) < (text.size : Int) := by omega
    clear hlong h E hG
    go_enter Tryd.func11, Tryd.ntmps11
    go_wp2_with fail
    go_ret2
    exact ⟨rfl, v, HH.out, Stp.refl _ _ _⟩
  · have hi : ¬ (65536 : Int) < (text.size : Int) := by omega
    by_cases hz : name.size = 0
    · have t1 : name.toList = [] := size_toList.2 hz
      have t2 : name.toList.isEmpty = true := by rw [t1]; rfl
      have HF : Hid (setF s name text = (setAut s text, nm (nx s.l s.c), 0)) := (if_neg hlong).trans (if_pos hz)
      rw [HF.out]
      have HC := hidK (setAut_any E h hG hj text (by omega))
      clear hlong h E hG hz
      go_enter Tryd.func11, Tryd.ntmps11
      go_wp2_with fail
      refine HC.out.mono ?_
      rintro e w1 ⟨rfl, v1, h1, s1⟩
      have H1 := hidK h1
      have S1 := hidK s1
      clear h1 s1
      go_wp2_with fail
      go_ret2
      exact ⟨rfl, v1, H1.out, S1.out⟩
    · have t1 : ¬ name.toList = [] := fun e => hz (size_toList.1 e)
      have t2 : name.toList.isEmpty = false := by simpa using t1
      have HWd := hidK (isWord_any name w (by unfold maxLen; omega))
      by_cases hw : word name = false
      · have HF : Hid (setF s name text = (s, emp, 73)) := ((if_neg hlong).trans (if_neg hz)).trans (if_pos hw)
        rw [HF.out]
        have hw' : (nameB name && !has name 32) = false := hw
        rw [hw'] at HWd
        clear hlong h E hG hz hw hw'
        go_enter Tryd.func11, Tryd.ntmps11
        go_wp2_with fail
        refine HWd.out.mono ?_
        rintro e w1 ⟨rfl, rfl⟩
        go_wp2_with fail
        go_ret2
        exact ⟨rfl, v, HH.out, Stp.refl _ _ _⟩
      · have HF : Hid (setF s name text = nmdF s name text) := ((if_neg hlong).trans (if_neg hz)).trans (if_neg hw)
        rw [HF.out]
        have hw1 : word name = true := by simpa using hw
        have hw' : (nameB name && !has name 32) = true := hw1
        rw [hw'] at HWd
        have HC := hidK (setNamed_any h hG name text (word_size hw1).2 (by omega))
        obtain ⟨R, hR⟩ : ∃ R, nmdF s name text = R := ⟨_, rfl⟩
        rw [hR] at HC ⊢
        clear hlong h E hG hz hw hw' hw1 hR
        go_enter Tryd.func11, Tryd.ntmps11
        go_wp2_with fail
        refine HWd.out.mono ?_
        rintro e w1 ⟨rfl, rfl⟩
        go_wp2_with fail
        refine HC.out.mono ?_
        rintro e w2 ⟨rfl, v2, h2, s2⟩
        have H2 := hidK h2
        have S2 := hidK s2
        clear h2 s2
        go_wp2_with fail
        go_ret2
        exact ⟨rfl, v2, H2.out, S2.out⟩
end Go.Proofs.YtgbaeajcgiaboaaDoor
